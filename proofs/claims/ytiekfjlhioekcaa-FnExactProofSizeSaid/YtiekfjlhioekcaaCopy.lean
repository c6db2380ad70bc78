/-
  Copies of atoms: the program's own, and the model's: the same terms, in memory of their own. (Written by tools/copy.py.)
-/
import Derived.Test.YtiekfjlhioekcaaOwn
import Derived.Deep.AppendLies
import Derived.Deep.RegionLaw
namespace Go.Proofs.Ytiekfjlhioekcaa
open Go.RowKit

/-- The cells of terms. -/
def tcs (ts : List Tm) : List Value := ts.flatMap fun t => [.bool t.1, .string t.2]

theorem tcs_len : ∀ (ts : List Tm), (tcs ts).length = ts.length * 2
  | [] => rfl
  | t :: l => by
    have e : tcs (t :: l) = .bool t.1 :: .string t.2 :: tcs l := rfl
    rw [e, List.length_cons, List.length_cons, tcs_len l, List.length_cons]
    omega

theorem tcs_at : ∀ (ts : List Tm) (i : Nat) (t : Tm), ts[i]? = some t → (tcs ts)[i * 2]? = some (.bool t.1) ∧ (tcs ts)[i * 2 + 1]? = some (.string t.2)
  | [], i, t, h => by simp at h
  | x :: r, 0, t, h => by simp at h; subst h; exact ⟨rfl, rfl⟩
  | x :: r, i + 1, t, h => by
    have ih := tcs_at r i t (by simpa using h)
    have e : tcs (x :: r) = .bool x.1 :: .string x.2 :: tcs r := rfl
    rw [e, show (i + 1) * 2 = i * 2 + 1 + 1 by omega]
    exact ⟨by simpa using ih.1, by simpa using ih.2⟩

theorem tcs_one : ∀ (ts : List Tm), ∀ u ∈ tcs ts, u.oneCell' = true := by
  intro ts u hu
  unfold tcs at hu
  obtain ⟨t, _, ht⟩ := List.mem_flatMap.1 hu
  simp at ht
  rcases ht with rfl | rfl <;> rfl

/-- What lies in a slice of terms, as cells. -/
theorem tcs_cells {w : World} {lo hi n c : Nat} {p : Addr} {ts : List Tm} (h : IsTerms w lo hi (some p) n c ts) (h0 : 0 < n) : ∀ j u, (tcs ts)[j]? = some u → w.cell? (p.add j) = some u := by
  obtain ⟨p', hp, _, _, hc⟩ := h.2.2.2 h0
  injection hp with hp
  subst hp
  intro j u hj
  have hlen := tcs_len ts
  have hjl : j < ts.length * 2 := by
    have := (List.getElem?_eq_some_iff.1 hj).1
    omega
  have hi2 : j / 2 < ts.length := by omega
  have ht : ts[j / 2]? = some ts[j / 2] := List.getElem?_eq_getElem hi2
  obtain ⟨c1, c2, _⟩ := hc _ _ ht
  obtain ⟨d1, d2⟩ := tcs_at ts _ _ ht
  by_cases he : j % 2 = 0
  · have : j / 2 * 2 = j := by omega
    rw [this] at c1 d1
    rw [c1]; rw [hj] at d1; exact d1.symm
  · have : j / 2 * 2 + 1 = j := by omega
    rw [this] at c2 d2
    rw [c2]; rw [hj] at d2; exact d2.symm

theorem terms_sizes {w : World} {lo hi n c : Nat} {A : Option Addr} {ts : List Tm} (h : IsTerms w lo hi A n c ts) : ∀ t ∈ ts, t.2.size ≤ maxLen := by
  intro t ht
  obtain ⟨i, hi⟩ := List.getElem?_of_mem ht
  have hl := (List.getElem?_eq_some_iff.1 hi).1
  obtain ⟨p, _, _, _, hc⟩ := h.2.2.2 (by have := h.1; omega)
  exact (hc i t hi).2.2

/-- A row of terms that was grown by appending. -/
theorem own_terms {w : World} {base lo g n cap : Nat} {ts : List Tm} (h : w.ownsRow base 73 2 (.slice (some ⟨g, 0, none⟩) n cap) n (tcs ts)) (hn : ts.length = n) (hs : ∀ t ∈ ts, t.2.size ≤ maxLen) (hlo : lo ≤ base) :
    IsTerms w lo w.heap.size (some ⟨g, 0, none⟩) n cap ts ∧ RowAt w lo w.heap.size 73 (some ⟨g, 0, none⟩) (n * 2) := by
  subst hn
  rcases h.2 with ⟨hv, _⟩ | ⟨g', cap', cur, hv, hbg, hgb, hle, hcap, hsz, htk⟩
  · simp at hv
  · injection hv with e1 _ e3
    injection e1 with e1
    injection e1 with e1
    subst e1; subst e3
    have hlt := (Array.getElem?_eq_some_iff.1 hgb).1
    have hcell : ∀ j u, (tcs ts)[j]? = some u → w.cell? ⟨g, j, none⟩ = some u := by
      intro j u hu
      have hj := (List.getElem?_eq_some_iff.1 hu).1
      rw [tcs_len] at hj
      rw [← htk, List.getElem?_take, if_pos (by omega)] at hu
      simp [World.cell?, hgb]
      simpa using hu
    have a0 : ∀ j, (⟨g, 0, none⟩ : Addr).add j = ⟨g, j, none⟩ := fun j => by unfold Addr.add; split <;> simp_all
    refine ⟨⟨rfl, hle, hcap, fun _ => ⟨_, rfl, by show lo ≤ g; omega, hlt, fun i t ht => ?_⟩⟩, ⟨g, cap * 2, fun i => cur[i]?.getD undef, rfl, by omega, hlt, ⟨cur, hgb, hsz, fun i hi => by simp [hsz ▸ hi]⟩, Nat.mul_le_mul_right _ hle⟩⟩
    obtain ⟨c1, c2⟩ := tcs_at ts i t ht
    rw [a0, a0]
    exact ⟨hcell _ _ c1, hcell _ _ c2, hs t (List.mem_of_getElem? ht)⟩

/-- A copy of an atom. -/
def CopyAPost (nm : ByteArray) (n : Nat) (ts : List Tm) (w : World) (e : Ending) (w' : World) : Prop :=
  ∃ A' d, e = .returned (.agg #[.string nm, .slice A' n d]) ∧ IsTerms w' w.heap.size w'.heap.size A' n d ts ∧ (0 < n → RowAt w' w.heap.size w'.heap.size 73 A' (n * 2)) ∧ Below w.heap.size w w'

theorem undrewG {a b : World} {row : Option Nat} (h : a.drew.grownBy b row) : a.grownBy b row := ⟨h.os, h.tape, h.output, h.size, h.block⟩

theorem set2_far {w : World} {g i j : Nat} {u v : Value} {b : Nat} (hb : b ≠ g) : ((w.setCell ⟨g, i, none⟩ u).setCell ⟨g, j, none⟩ v).heap[b]? = w.heap[b]? :=
  (Below.heap_setCell _ _ _ b hb).trans (Below.heap_setCell _ _ _ b hb)

set_option maxRecDepth 100000 in
set_option maxHeartbeats 2000000 in
theorem copyAtom_any (nm : ByteArray) (A : Option Addr) (n c : Nat) (ts : List Tm) (w : World) (h : IsTerms w 0 w.heap.size A n c ts) (hn : n ≤ 1048576) :
    Calls Try.prog 45 #[.agg #[.string nm, .slice A n c]] w (CopyAPost nm n ts w) := by
  have hs := terms_sizes h
  have H := Lib.hid h; clear h
  obtain ⟨i0, hi, hz, hsz, hby⟩ := info_parts Try.infoTerm
  have HI := Lib.hid hi; have HZ := Lib.hid hz; have HSZ := Lib.hid hsz; have HYY := Lib.hid hby; have HS := Lib.hid hs
  clear hi hz hsz hby hs
  by_cases h0 : 0 < n
  · obtain ⟨p, hp, _⟩ := H.out.2.2.2 h0
    subst hp
    have HL := Lib.hid H.out.1
    have HW := below2 w (.cells #[.string nm, .slice (some p) n c] 32) (.cells #[.string ⟨#[]⟩, .slice none 0 0] 32)
    have B0 := (Blk.made w 32 #[.string nm, .slice (some p) n c] rfl).alloc (.cells #[.string ⟨#[]⟩, .slice none 0 0] 32)
    have R0 := Blk.made (b := w.heap.size + 1) (w.alloc (.cells #[.string nm, .slice (some p) n c] 32)) 32 #[.string ⟨#[]⟩, .slice none 0 0] (by simp)
    generalize hW : ((w.alloc (.cells #[.string nm, .slice (some p) n c] 32)).alloc (.cells #[.string ⟨#[]⟩, .slice none 0 0] 32)) = W1 at HW B0 R0
    have hsz : W1.heap.size = w.heap.size + 2 := by rw [← hW]; simp
    have hown : W1.drew.ownsRow (w.heap.size + 2) 73 2 (.slice none 0 0) 0 (tcs []) := ⟨rfl, .inl ⟨rfl, rfl⟩⟩
    have hcells := tcs_cells (((H.out.up HW).below (Below.refl _ W1).drew (Nat.le_refl _))) h0
    have HO := Lib.hid hown; have HC := Lib.hid hcells; have HB := Lib.hid B0; have HR := Lib.hid R0; have HWW := Lib.hid HW
    have x1 : W1.cell? ⟨w.heap.size, 0, none⟩ = some (.string nm) := B0.cell 0
    have x2 : W1.cell? ⟨w.heap.size, 1, none⟩ = some (.slice (some p) n c) := B0.cell 1
    clear hown hcells HW B0 R0
    go_enter Try.func45, Try.ntmps45
    go_wp2_with fail
    go_region_law (refine step_append_lies _ (by rfl) _ _ _ (by rfl) (w.heap.size + 2) 73 i0 _ 2 24 Try.underlying30 HI.out HZ.out HSZ.out HYY.out rfl (by omega) (.slice none 0 0) 0 (tcs []) (by rfl) HO.out p n c (tcs ts) (by rfl) (by rw [tcs_len, HL.out]) HC.out (tcs_one ts) h0 (by unfold maxLen; omega) (by omega) (by simp; omega) (w.heap.size + 2) (by simp; omega) ?_; intro gg cap w3 hown3 hgrow hat hlt3; have B3 := (HB.out).kept (undrewG hgrow) (by simp [Value.ownBlock]); have b2 : w3.cell? ⟨w.heap.size, 0, none⟩ = some (.string nm) := B3.cell 0; have R3 := (HR.out).kept (undrewG hgrow) (by simp [Value.ownBlock]); have r2 : w3.cell? ⟨w.heap.size + 1, 0, none⟩ = some (.string ⟨#[]⟩) := R3.cell 0; have r3 : w3.cell? ⟨w.heap.size + 1, 1, none⟩ = some (.slice none 0 0) := R3.cell 1; have r4 := R3.frozen 0; have r5 := R3.frozen 1)
    all_goals
      have HO3 := Lib.hid hown3; have HG3 := Lib.hid hgrow; have HR3 := Lib.hid R3
      clear hown3 hgrow hat B3 R3
      go_wp2
      have hal := HWW.out
      have hb3 : Below w.heap.size w w3 := hal.grown (undrewG HG3.out) hal.size (fun k hk => by simp [Value.ownBlock] at hk)
      have hb5 : Below w.heap.size w ((w3.setCell ⟨w.heap.size + 1, 0, none⟩ (.string nm)).setCell ⟨w.heap.size + 1, 1, none⟩ (.slice (some ⟨gg, 0, none⟩) n cap)) := (hb3.setCell (by simp) _).setCell (by simp) _
      have ho5 := HO3.out
      rw [Nat.zero_add] at ho5
      obtain ⟨hT, hR⟩ := own_terms (ts := ts) ho5 HL.out HS.out (Nat.le_refl _)
      have hk : ∀ b, w.heap.size + 2 ≤ b → b < w3.heap.size → ((w3.setCell ⟨w.heap.size + 1, 0, none⟩ (.string nm)).setCell ⟨w.heap.size + 1, 1, none⟩ (.slice (some ⟨gg, 0, none⟩) n cap)).heap[b]? = w3.heap[b]? := fun b h1 _ => set2_far (by omega)
      have hsz5 : ((w3.setCell ⟨w.heap.size + 1, 0, none⟩ (.string nm)).setCell ⟨w.heap.size + 1, 1, none⟩ (.slice (some ⟨gg, 0, none⟩) n cap)).heap.size = w3.heap.size := by rw [size_setCell, size_setCell]
      exact bodyPost_ret (v := .agg #[.string nm, .slice (some ⟨gg, 0, none⟩) n cap]) (by simp [results, Try.results45, go_sem, r2, r3]) rfl ⟨_, _, rfl, hT.keep (cellKeep hk) (by omega) (Nat.le_of_eq hsz5.symm), fun _ => hR.keep hk (by omega) (Nat.le_of_eq hsz5.symm), hb5⟩
  · have hn0 : n = 0 := by omega
    subst hn0
    have ht : ts = [] := List.eq_nil_of_length_eq_zero H.out.1
    subst ht
    cases A
    all_goals
      go_enter Try.func45, Try.ntmps45
      go_wp2_with fail
      go_region_law (fail)
      all_goals go_wp2
      all_goals
        refine bodyPost_ret (v := .agg #[.string nm, .slice none 0 0]) (by simp [results, Try.results45, go_sem]) rfl ⟨_, _, rfl, ⟨rfl, Nat.le_refl _, Nat.zero_le _, fun h => absurd h (by omega)⟩, fun h => absurd h (by omega), ?_⟩
        exact (below2 _ _ _).drew

set_option maxRecDepth 100000 in
set_option maxHeartbeats 2000000 in
theorem l3AtomCopy_any (nm : ByteArray) (A : Option Addr) (n c : Nat) (ts : List Tm) (w : World) (h : IsTerms w 0 w.heap.size A n c ts) (hn : n ≤ 1048576) :
    Calls Try.prog 39 #[.agg #[.string nm, .slice A n c]] w (CopyAPost nm n ts w) := by
  have hs := terms_sizes h
  have H := Lib.hid h; clear h
  obtain ⟨i0, hi, hz, hsz, hby⟩ := info_parts Try.infoTerm
  have HI := Lib.hid hi; have HZ := Lib.hid hz; have HSZ := Lib.hid hsz; have HYY := Lib.hid hby; have HS := Lib.hid hs
  clear hi hz hsz hby hs
  by_cases h0 : 0 < n
  · obtain ⟨p, hp, _⟩ := H.out.2.2.2 h0
    subst hp
    have HL := Lib.hid H.out.1
    have HW := below2 w (.cells #[.string nm, .slice (some p) n c] 32) (.cells #[.string ⟨#[]⟩, .slice none 0 0] 32)
    have B0 := (Blk.made w 32 #[.string nm, .slice (some p) n c] rfl).alloc (.cells #[.string ⟨#[]⟩, .slice none 0 0] 32)
    have R0 := Blk.made (b := w.heap.size + 1) (w.alloc (.cells #[.string nm, .slice (some p) n c] 32)) 32 #[.string ⟨#[]⟩, .slice none 0 0] (by simp)
    generalize hW : ((w.alloc (.cells #[.string nm, .slice (some p) n c] 32)).alloc (.cells #[.string ⟨#[]⟩, .slice none 0 0] 32)) = W1 at HW B0 R0
    have hsz : W1.heap.size = w.heap.size + 2 := by rw [← hW]; simp
    have hown : (W1.alloc (.cells #[] 73)).drew.ownsRow (w.heap.size + 2) 73 2 (.slice (some ⟨w.heap.size + 2, 0, none⟩) 0 0) 0 (tcs []) := by
      refine ⟨rfl, .inr ⟨w.heap.size + 2, 0, #[], rfl, Nat.le_refl _, ?_, Nat.le_refl _, by unfold maxLen; omega, rfl, rfl⟩⟩
      rw [← hsz]
      exact heap_alloc_new W1 _
    have hcells := tcs_cells (((H.out.up HW).below (below1 W1 (.cells #[] 73)).drew (Nat.le_refl _))) h0
    have HO := Lib.hid hown; have HC := Lib.hid hcells; have HB := Lib.hid B0; have HR := Lib.hid R0; have HWW := Lib.hid HW
    have x1 : W1.cell? ⟨w.heap.size, 0, none⟩ = some (.string nm) := B0.cell 0
    have x2 : W1.cell? ⟨w.heap.size, 1, none⟩ = some (.slice (some p) n c) := B0.cell 1
    clear hown hcells HW B0 R0
    go_enter Try.func39, Try.ntmps39
    go_wp2_with fail
    go_region_law (refine step_append_lies _ (by rfl) _ _ _ (by rfl) (w.heap.size + 2) 73 i0 _ 2 24 Try.underlying30 HI.out HZ.out HSZ.out HYY.out rfl (by omega) (.slice (some ⟨w.heap.size + 2, 0, none⟩) 0 0) 0 (tcs []) (by rfl) HO.out p n c (tcs ts) (by rfl) (by rw [tcs_len, HL.out]) HC.out (tcs_one ts) h0 (by unfold maxLen; omega) (by omega) (by simp; omega) (w.heap.size + 3) (by simp; omega) ?_; intro gg cap w3 hown3 hgrow hat hlt3; have B3 := (HB.out.below (below1 W1 (.cells #[] 73))).kept (undrewG hgrow) (by simp [Value.ownBlock]); have b2 : w3.cell? ⟨w.heap.size, 0, none⟩ = some (.string nm) := B3.cell 0; have R3 := (HR.out.below (below1 W1 (.cells #[] 73))).kept (undrewG hgrow) (by simp [Value.ownBlock]); have r2 : w3.cell? ⟨w.heap.size + 1, 0, none⟩ = some (.string ⟨#[]⟩) := R3.cell 0; have r3 : w3.cell? ⟨w.heap.size + 1, 1, none⟩ = some (.slice none 0 0) := R3.cell 1; have r4 := R3.frozen 0; have r5 := R3.frozen 1)
    all_goals
      have HO3 := Lib.hid hown3; have HG3 := Lib.hid hgrow; have HR3 := Lib.hid R3
      clear hown3 hgrow hat B3 R3
      go_wp2
      have hal := belowThen HWW.out (below1 W1 (.cells #[] 73))
      have hb3 : Below w.heap.size w w3 := hal.grown (undrewG HG3.out) hal.size (fun k hk => by simp [Value.ownBlock] at hk; omega)
      have hb5 : Below w.heap.size w ((w3.setCell ⟨w.heap.size + 1, 0, none⟩ (.string nm)).setCell ⟨w.heap.size + 1, 1, none⟩ (.slice (some ⟨gg, 0, none⟩) n cap)) := (hb3.setCell (by simp) _).setCell (by simp) _
      have ho5 := HO3.out
      rw [Nat.zero_add] at ho5
      obtain ⟨hT, hR⟩ := own_terms (ts := ts) ho5 HL.out HS.out (Nat.le_refl _)
      have hk : ∀ b, w.heap.size + 2 ≤ b → b < w3.heap.size → ((w3.setCell ⟨w.heap.size + 1, 0, none⟩ (.string nm)).setCell ⟨w.heap.size + 1, 1, none⟩ (.slice (some ⟨gg, 0, none⟩) n cap)).heap[b]? = w3.heap[b]? := fun b h1 _ => set2_far (by omega)
      have hsz5 : ((w3.setCell ⟨w.heap.size + 1, 0, none⟩ (.string nm)).setCell ⟨w.heap.size + 1, 1, none⟩ (.slice (some ⟨gg, 0, none⟩) n cap)).heap.size = w3.heap.size := by rw [size_setCell, size_setCell]
      exact bodyPost_ret (v := .agg #[.string nm, .slice (some ⟨gg, 0, none⟩) n cap]) (by simp [results, Try.results39, go_sem, r2, r3]) rfl ⟨_, _, rfl, hT.keep (cellKeep hk) (by omega) (Nat.le_of_eq hsz5.symm), fun _ => hR.keep hk (by omega) (Nat.le_of_eq hsz5.symm), hb5⟩
  · have hn0 : n = 0 := by omega
    subst hn0
    have ht : ts = [] := List.eq_nil_of_length_eq_zero H.out.1
    subst ht
    cases A
    all_goals
      go_enter Try.func39, Try.ntmps39
      go_wp2_with fail
      go_region_law (fail)
      all_goals go_wp2
      all_goals
        refine bodyPost_ret (v := .agg #[.string nm, .slice (some ⟨w.heap.size + 1 + 1, 0, none⟩) 0 0]) (by simp [results, Try.results39, go_sem]) rfl ⟨_, _, rfl, ⟨rfl, Nat.le_refl _, Nat.zero_le _, fun h => absurd h (by omega)⟩, fun h => absurd h (by omega), ?_⟩
        exact (below3 _ _ _ _).drew


end Go.Proofs.Ytiekfjlhioekcaa
