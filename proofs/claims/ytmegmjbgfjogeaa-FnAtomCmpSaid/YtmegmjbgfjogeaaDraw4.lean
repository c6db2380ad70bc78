/-
  Drawing: a copy of an atom.
-/
import Derived.Test.YtmegmjbgfjogeaaDraw2
namespace Go.Proofs.Ytmegmjbgfjogeaa
open Go.RowKit

theorem tmCells_len : ∀ (ts : List Tm), (tmCells ts).length = ts.length * 2
  | [] => rfl
  | t :: l => by
    have e : tmCells (t :: l) = .bool t.1 :: .string t.2 :: tmCells l := rfl
    rw [e, List.length_cons, List.length_cons, tmCells_len l, List.length_cons]
    omega

/-- What lies in a slice of terms, as cells. -/
theorem terms_cells {w : World} {lo hi n c : Nat} {p : Addr} {ts : List Tm} (h : IsTerms w lo hi (some p) n c ts) (h0 : 0 < n) : ∀ j u, (tmCells ts)[j]? = some u → w.cell? (p.add j) = some u := by
  obtain ⟨p', hp, _, _, hc⟩ := h.2.2.2 h0
  injection hp with hp
  subst hp
  intro j u hj
  have hlen := tmCells_len ts
  have hjl : j < ts.length * 2 := by
    have := (List.getElem?_eq_some_iff.1 hj).1
    omega
  have hi2 : j / 2 < ts.length := by omega
  have ht : ts[j / 2]? = some ts[j / 2] := List.getElem?_eq_getElem hi2
  obtain ⟨c1, c2, _⟩ := hc _ _ ht
  obtain ⟨d1, d2⟩ := tmCells_at ts _ _ ht
  by_cases he : j % 2 = 0
  · have : j / 2 * 2 = j := by omega
    rw [this] at c1 d1
    rw [c1]; rw [hj] at d1; exact d1.symm
  · have : j / 2 * 2 + 1 = j := by omega
    rw [this] at c2 d2
    rw [c2]; rw [hj] at d2; exact d2.symm

theorem tmCells_one : ∀ (ts : List Tm), ∀ u ∈ tmCells ts, u.oneCell' = true
  | [], u, h => by simp [tmCells] at h
  | t :: l, u, h => by
    have e : tmCells (t :: l) = [.bool t.1, .string t.2] ++ tmCells l := rfl
    rw [e] at h
    rcases List.mem_append.1 h with h | h
    · simp at h; rcases h with rfl | rfl <;> rfl
    · exact tmCells_one l u h

/-- A copy of an atom: the same terms. -/
def CopyPost (nm : ByteArray) (n : Nat) (ts : List Tm) (w : World) (e : Ending) (w' : World) : Prop :=
  ∃ A' d, e = .returned (.agg #[.string nm, .slice A' n d]) ∧ IsTerms w' w.heap.size w'.heap.size A' n d ts ∧ Below w.heap.size w w'

set_option maxRecDepth 100000 in
set_option maxHeartbeats 2000000 in
theorem l3Atom_any (nm : ByteArray) (A : Option Addr) (n c : Nat) (ts : List Tm) (w : World) (h : IsTerms w 0 w.heap.size A n c ts) (hn : n ≤ 8) (hs : ∀ t ∈ ts, t.2.size ≤ 16) :
    Calls Try.prog 35 #[.agg #[.string nm, .slice A n c]] w (CopyPost nm n ts w) := by
  have H := Lib.hid h; clear h
  obtain ⟨i0, hi, hz, hsz, hby⟩ := info_parts Try.infoTm
  have HI := Lib.hid hi; have HZ := Lib.hid hz; have HSZ := Lib.hid hsz; have HYY := Lib.hid hby
  clear hi hz hsz hby
  by_cases h0 : 0 < n
  · obtain ⟨p, hp, _⟩ := H.out.2.2.2 h0
    subst hp
    have hl := H.out.1
    have HW := below2 w (.cells #[.string nm, .slice (some p) n c] 28) (.cells #[.string ⟨#[]⟩, .slice none 0 0] 28)
    have B0 := (Bx.new w (.string nm) (.slice (some p) n c) 28).grown (grownBelow (below1 _ (.cells #[.string ⟨#[]⟩, .slice none 0 0] 28)) none) (by simp)
    have R0 := Bx.new (w.alloc (.cells #[.string nm, .slice (some p) n c] 28)) (.string ⟨#[]⟩) (.slice none 0 0) 28
    rw [size_alloc_eq] at R0
    generalize hW : ((w.alloc (.cells #[.string nm, .slice (some p) n c] 28)).alloc (.cells #[.string ⟨#[]⟩, .slice none 0 0] 28)) = W1 at HW B0 R0
    have hsz : W1.heap.size = w.heap.size + 2 := by rw [← hW]; simp
    have hown : (W1.alloc (.cells #[] 63)).drew.ownsRow (w.heap.size + 2) 63 2 (.slice (some ⟨w.heap.size + 2, 0, none⟩) 0 0) 0 (tmCells []) := by
      refine ⟨rfl, .inr ⟨w.heap.size + 2, 0, #[], rfl, Nat.le_refl _, ?_, Nat.le_refl _, by unfold maxLen; omega, rfl, rfl⟩⟩
      rw [← hsz]
      exact heap_alloc_new W1 _
    have hcells := terms_cells (((H.out.up HW).below (below1 W1 (.cells #[] 63)).drew (Nat.le_refl _))) h0
    have HO := Lib.hid hown
    have HC := Lib.hid hcells
    have HB := Lib.hid B0
    have HR := Lib.hid R0
    have HL := Lib.hid hl
    have HWW := Lib.hid HW
    clear hown hcells hl HW
    obtain ⟨x1, x2, x3, x4, x5⟩ := B0
    obtain ⟨y1, y2, y3, y4, y5⟩ := R0
    go_enter Try.func35, Try.ntmps35
    go_wp2_with fail
    go_region_law (refine step_append_lies _ (by rfl) _ _ _ (by rfl) (w.heap.size + 2) 63 i0 _ 2 24 Try.underlying26 HI.out HZ.out HSZ.out HYY.out rfl (by omega) (.slice (some ⟨w.heap.size + 2, 0, none⟩) 0 0) 0 (tmCells []) (by rfl) HO.out p n c (tmCells ts) (by rfl) (by rw [tmCells_len, HL.out]) HC.out (tmCells_one ts) h0 (by unfold maxLen; omega) (by omega) (by simp; omega) (w.heap.size + 3) (by simp; omega) ?_; intro gg cap w3 hown3 hgrow hat hlt3; have B3 := (HB.out.grown (grownBelow (below1 W1 (.cells #[] 63)) none) (by simp)).grown (ungrown hgrow) (by simp [Value.ownBlock]); have b2 := B3.2.1; have b3 := B3.2.2.1; have R3 := (HR.out.grown (grownBelow (below1 W1 (.cells #[] 63)) none) (by simp)).grown (ungrown hgrow) (by simp [Value.ownBlock]); have r2 := R3.2.1; have r3 := R3.2.2.1; have r4 := R3.2.2.2.1; have r5 := R3.2.2.2.2)
    all_goals
      have HO3 := Lib.hid hown3
      have HG3 := Lib.hid hgrow
      clear hown3 hgrow hat B3 R3
      go_wp2
      have hal := belowThen HWW.out (below1 W1 (.cells #[] 63))
      have hb3 : Below w.heap.size w w3 := hal.grown (ungrown HG3.out) (by simp; omega) (fun k hk => by simp [Value.ownBlock] at hk; omega)
      have hb5 : Below w.heap.size w ((w3.setCell ⟨w.heap.size + 1, 0, none⟩ (.string nm)).setCell ⟨w.heap.size + 1, 1, none⟩ (.slice (some ⟨gg, 0, none⟩) n cap)) :=
        ⟨hb3.os, hb3.tape, hb3.output, by rw [size_setCell, size_setCell]; exact hb3.size, fun i hi => ((Below.heap_setCell _ _ _ i (by simp; omega)).trans (Below.heap_setCell _ _ _ i (by simp; omega))).trans (hb3.block i hi)⟩
      have ho5 := ownsRow_setCell_below (a := ⟨w.heap.size + 1, 1, none⟩) (ownsRow_setCell_below (a := ⟨w.heap.size + 1, 0, none⟩) HO3.out (by simp) (.string nm)) (by simp) (.slice (some ⟨gg, 0, none⟩) n cap)
      rw [Nat.zero_add] at ho5
      obtain ⟨A', d, hv, hT⟩ := owned_terms (ts := ts) ho5 HL.out hs
      injection hv with hv1 hv2 hv3
      subst hv1; subst hv3
      exact bodyPost_ret (v := .agg #[.string nm, .slice (some ⟨gg, 0, none⟩) n cap]) (by simp [results, Try.results35, go_sem, r2, r3]) rfl ⟨_, _, rfl, hT.keep (fun _ _ _ => rfl) (by omega) (Nat.le_refl _), hb5⟩
  · have hn0 : n = 0 := by omega
    subst hn0
    have ht : ts = [] := List.eq_nil_of_length_eq_zero H.out.1
    subst ht
    cases A
    all_goals
      go_enter Try.func35, Try.ntmps35
      go_wp2_with fail
      go_region_law (fail)
      all_goals go_wp2
      all_goals
        refine bodyPost_ret (v := .agg #[.string nm, .slice (some ⟨w.heap.size + 1 + 1, 0, none⟩) 0 0]) (by simp [results, Try.results35, go_sem]) rfl ⟨_, _, rfl, ⟨rfl, Nat.le_refl _, Nat.zero_le _, fun h => absurd h (by omega)⟩, ?_⟩
        exact (below3 _ _ _ _).drew

end Go.Proofs.Ytmegmjbgfjogeaa
