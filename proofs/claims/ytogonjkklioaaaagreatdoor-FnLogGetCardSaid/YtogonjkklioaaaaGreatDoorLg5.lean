/-
  Texts of one claim, put together.
-/
import Derived.Test.YtogonjkklioaaaaGreatDoorLg4
import Derived.Deep.AppendLies
set_option maxRecDepth 100000
set_option maxHeartbeats 8000000
namespace Go.Proofs.YtogonjkklioaaaaGreatDoor
open Go.RowKit
def rA (r : Rf) : Option Addr := r.2.1
def rN (r : Rf) : Nat := r.2.2.1
def RowAt (w : World) (lo hi : Nat) (t : TypeId) (A : Option Addr) (m : Nat) : Prop := ∃ g k f, A = some ⟨g, 0, none⟩ ∧ lo ≤ g ∧ g < hi ∧ w.rowIs g t k f ∧ m ≤ k
def OwnIn (w : World) (lo hi : Nat) (rs : List Rf) : Prop :=
  (∀ r ∈ rs, r.1.size ≤ maxLen ∧ IsTerms w lo hi r.2.1 r.2.2.1 r.2.2.2.1 r.2.2.2.2 ∧ (0 < rN r → RowAt w lo hi 110 (rA r) (rN r * 2))) ∧
  rs.Pairwise fun r r' => 0 < rN r → 0 < rN r' → rA r ≠ rA r'
def OwnRefs (w : World) (lo hi : Nat) (A : Option Addr) (n c : Nat) (rs : List Rf) : Prop :=
  rs.length = n ∧ n ≤ c ∧ c ≤ maxLen ∧
  (0 < n → ∃ g k f, A = some ⟨g, 0, none⟩ ∧ lo ≤ g ∧ g < hi ∧ w.rowIs g 51 k f ∧ n * 2 ≤ k ∧ ∀ j u, (zai rs)[j]? = some u → f j = u) ∧
  OwnIn w lo hi rs
section
variable {w w' : World} {lo hi lo' hi' n c m : Nat} {t : TypeId} {A : Option Addr} {rs : List Rf} {r : Rf}
theorem RowAt.keep (h : RowAt w lo hi t A m) (hk : ∀ b, lo ≤ b → b < hi → w'.heap[b]? = w.heap[b]?) (h1 : lo' ≤ lo) (h2 : hi ≤ hi') : RowAt w' lo' hi' t A m := by
  obtain ⟨g, k, f, e, a, b, d, x⟩ := h; exact ⟨g, k, f, e, by omega, by omega, d.of_block (hk g a b), x⟩
theorem cellKeep (hk : ∀ b, lo ≤ b → b < hi → w'.heap[b]? = w.heap[b]?) : ∀ q : Addr, lo ≤ q.block → q.block < hi → w'.cell? q = w.cell? q :=
  fun q h1 h2 => cb_ (hk q.block h1 h2)
theorem OwnIn.keep (h : OwnIn w lo hi rs) (hk : ∀ b, lo ≤ b → b < hi → w'.heap[b]? = w.heap[b]?) (h1 : lo' ≤ lo) (h2 : hi ≤ hi') : OwnIn w' lo' hi' rs :=
  ⟨fun r hr => ⟨(h.1 r hr).1, (h.1 r hr).2.1.keep (cellKeep hk) h1 h2, fun hn => ((h.1 r hr).2.2 hn).keep hk h1 h2⟩, h.2⟩
theorem OwnRefs.keep (h : OwnRefs w lo hi A n c rs) (hk : ∀ b, lo ≤ b → b < hi → w'.heap[b]? = w.heap[b]?) (h1 : lo' ≤ lo) (h2 : hi ≤ hi') : OwnRefs w' lo' hi' A n c rs := by
  obtain ⟨a, b, d, e, f⟩ := h; refine ⟨a, b, d, fun hn => ?_, f.keep hk h1 h2⟩; obtain ⟨g, k, f, e1, e2, e3, e4, e5⟩ := e hn; exact ⟨g, k, f, e1, by omega, by omega, e4.of_block (hk g e2 e3), e5⟩
theorem OwnRefs.below {B : Nat} (h : OwnRefs w lo hi A n c rs) (hb : Below B w w') (hh : hi ≤ B) : OwnRefs w' lo hi A n c rs :=
  h.keep (fun b _ hb' => hb.block b qaa) (nl _) (nl _)
theorem OwnRefs.refs (h : OwnRefs w lo hi A n c rs) : IsRefs w lo hi A n c rs := by
  obtain ⟨a, b, d, e, f⟩ := h; refine ⟨a, b, d, fun hn => ?_⟩; obtain ⟨g, k, f', e1, e2, e3, e4, e5, e6⟩ := e hn; refine ⟨_, e1, e2, e3, fun i r hr => ?_⟩; have hi := (List.getElem?_eq_some_iff.1 hr).1; have a0 : ∀ j, (⟨g, 0, none⟩ : Addr).add j = ⟨g, j, none⟩ := fun j => by unfold Addr.add; split <;> simp_all
  obtain ⟨c1, c2⟩ := zjm hr; obtain ⟨d1, d2, _⟩ := f.1 r (List.mem_of_getElem? hr); rw [a0]; refine ⟨?_, d1, ?_, d2⟩
  · rw [e4.cell qaa, e6 _ _ c1]
  · show w.cell? ⟨g, i * 2 + 1, none⟩ = _
    rw [e4.cell qaa, e6 _ _ c2]
theorem OwnRefs.atoms (h : OwnRefs w lo hi A n c rs) : IsAtoms w lo hi A n c (rs.map rAt) := h.refs.atoms
theorem OwnIn.nil : OwnIn w lo hi [] := ⟨fun r hr => by simp at hr, List.Pairwise.nil⟩
theorem OwnIn.snoc (h : OwnIn w lo hi rs) (hk : ∀ b, lo ≤ b → b < hi → w'.heap[b]? = w.heap[b]?) (h2 : hi ≤ hi') (hs : r.1.size ≤ maxLen) (hlo : lo ≤ hi) (ht : IsTerms w' hi hi' r.2.1 r.2.2.1 r.2.2.2.1 r.2.2.2.2)
    (hr : 0 < rN r → RowAt w' hi hi' 110 (rA r) (rN r * 2)) : OwnIn w' lo hi' (rs ++ [r]) := by
  have a2 := h.keep hk (nl _) h2; refine ⟨fun q hq => ?_, ?_⟩
  · rcases List.mem_append.1 hq with hq | hq
    · exact a2.1 q hq
    · rw [List.mem_singleton.1 hq]
      exact ⟨hs, ht.keep (fun _ _ _ => rfl) hlo (nl _), fun hn => (hr hn).keep (fun _ _ _ => rfl) hlo (nl _)⟩
  · rw [List.pairwise_append]
    refine ⟨h.2, List.pairwise_singleton _ _, fun q hq q' hq' h0 h0' e => ?_⟩; rw [List.mem_singleton.1 hq'] at h0' e; obtain ⟨g, _, _, e1, _, e3, _⟩ := (h.1 q hq).2.2 h0; obtain ⟨g', _, _, f1, f2, _⟩ := hr h0'; rw [e1, f1] at e; injection e with e; injection e with e; omega
theorem OwnRefs.of_row {base : Nat} {v : Value} (h : w.ownsRow base 51 2 v n (zai rs)) (hn : n = rs.length) (hb : lo ≤ base) (hr : OwnIn w lo hi rs) (hh : hi ≤ w.heap.size) :
    ∃ A c, v = .slice A n c ∧ OwnRefs w lo w.heap.size A n c rs := by
  subst hn; rcases h.2 with ⟨rfl, h0⟩ | ⟨g, cap, cur, rfl, hbg, hgb, hle, hcap, hsz, htk⟩
  · exact ⟨none, 0, by rw [h0], rfl, by omega, by unfold maxLen; omega, fun hp => absurd hp qaa, hr.keep (fun _ _ _ => rfl) (nl _) hh⟩
  · have hlt := (Array.getElem?_eq_some_iff.1 hgb).1
    refine ⟨_, cap, rfl, rfl, hle, hcap, fun _ => ⟨g, cap * 2, fun i => cur[i]?.getD undef, rfl, by omega, hlt, ⟨cur, hgb, hsz, fun i hi => by simp [hsz ▸ hi]⟩, Nat.mul_le_mul_right _ hle, fun j u hu => ?_⟩, hr.keep (fun _ _ _ => rfl) (nl _) hh⟩; have hj := (List.getElem?_eq_some_iff.1 hu).1; rw [zen] at hj; rw [← htk, List.getElem?_take, if_pos qaa] at hu; have : cur[j]? = some u := qep; simp [this]
theorem zhu {q : Rf} {g : Nat} (hk : ∀ b, b < w.heap.size → b ≠ g → w'.heap[b]? = w.heap[b]?)
    (y : q.1.size ≤ maxLen ∧ IsTerms w lo hi q.2.1 q.2.2.1 q.2.2.2.1 q.2.2.2.2 ∧ (0 < rN q → RowAt w lo hi 110 (rA q) (rN q * 2))) (hne : 0 < rN q → rA q ≠ some ⟨g, 0, none⟩) :
    q.1.size ≤ maxLen ∧ IsTerms w' lo hi q.2.1 q.2.2.1 q.2.2.2.1 q.2.2.2.2 ∧ (0 < rN q → RowAt w' lo hi 110 (rA q) (rN q * 2)) := by
  obtain ⟨y1, y2, y3⟩ := y; refine ⟨y1, ?_, ?_⟩
  · obtain ⟨p1, p2, p3, p4⟩ := y2
    refine ⟨p1, p2, p3, fun h0 => ?_⟩; obtain ⟨p, q1, q2, q3, q4⟩ := p4 h0; obtain ⟨g2, k2, f2, x1, _, _, x4, x5⟩ := y3 h0
    have hp : p = ⟨g2, 0, none⟩ := by
      have : some p = some (⟨g2, 0, none⟩ : Addr) := q1.symm.trans x1; injection this
    have hg2 : g2 ≠ g := fun e => hne h0 (by rw [x1, e]); subst hp; refine ⟨_, q1, q2, q3, fun i t ht => ?_⟩; obtain ⟨u1, u2, u3⟩ := q4 i t ht; have hb : g2 < w.heap.size := x4.lt; refine ⟨?_, ?_, u3⟩
    · rw [cb_ (hk _ (by rw [zah]; exact hb) (by rw [zah]; exact hg2))]; exact u1
    · rw [cb_ (hk _ (by rw [zah]; exact hb) (by rw [zah]; exact hg2))]; exact u2
  · intro h0
    obtain ⟨g2, k2, f2, x1, x2, x3, x4, x5⟩ := y3 h0; have hg2 : g2 ≠ g := fun e => hne h0 (by rw [x1, e]); exact ⟨g2, k2, f2, x1, x2, x3, x4.of_block (hk g2 x4.lt hg2), x5⟩
end
def tcs (ts : List Tm) : List Value := ts.flatMap fun t => [.bool t.1, .string t.2]
theorem tcs_len : ∀ (ts : List Tm), (tcs ts).length = ts.length * 2
  | [] => rfl
  | t :: l => by
    have e : tcs (t :: l) = .bool t.1 :: .string t.2 :: tcs l := rfl; rw [e, List.length_cons, List.length_cons, tcs_len l, List.length_cons]; omega
theorem tcs_at : ∀ (ts : List Tm) (i : Nat) (t : Tm), ts[i]? = some t → (tcs ts)[i * 2]? = some (.bool t.1) ∧ (tcs ts)[i * 2 + 1]? = some (.string t.2)
  | [], i, t, h => by simp at h
  | x :: r, 0, t, h => by simp at h; subst h; exact ⟨rfl, rfl⟩
  | x :: r, i + 1, t, h => by
    have ih := tcs_at r i t qbk; have e : tcs (x :: r) = .bool x.1 :: .string x.2 :: tcs r := rfl; rw [e, show (i + 1) * 2 = i * 2 + 1 + 1 by omega]; exact ⟨by simpa using ih.1, by simpa using ih.2⟩
theorem tcs_one : ∀ (ts : List Tm), ∀ u ∈ tcs ts, u.oneCell' = true := by
  intro ts u hu; unfold tcs at hu; obtain ⟨t, _, ht⟩ := List.mem_flatMap.1 hu; simp at ht; rcases ht with rfl | rfl <;> rfl
theorem tcs_cells {w : World} {lo hi n c : Nat} {p : Addr} {ts : List Tm} (h : IsTerms w lo hi (some p) n c ts) (h0 : 0 < n) : ∀ j u, (tcs ts)[j]? = some u → w.cell? (p.add j) = some u := by
  obtain ⟨p', hp, _, _, hc⟩ := h.2.2.2 h0; injection hp with hp; subst hp; intro j u hj; have hlen := tcs_len ts
  have hjl : j < ts.length * 2 := by
    have := (List.getElem?_eq_some_iff.1 hj).1; omega
  have a2 : j / 2 < ts.length := qaa; have ht : ts[j / 2]? = some ts[j / 2] := List.getElem?_eq_getElem a2; obtain ⟨c1, c2, _⟩ := hc _ _ ht; obtain ⟨d1, d2⟩ := tcs_at ts _ _ ht; by_cases he : j % 2 = 0
  · have : j / 2 * 2 = j := qaa
    rw [this] at c1 d1; rw [c1]; rw [hj] at d1; exact d1.symm
  · have : j / 2 * 2 + 1 = j := qaa
    rw [this] at c2 d2; rw [c2]; rw [hj] at d2; exact d2.symm
theorem ziq {w : World} {lo hi n c : Nat} {A : Option Addr} {ts : List Tm} (h : IsTerms w lo hi A n c ts) : ∀ t ∈ ts, t.2.size ≤ maxLen := by
  intro t ht; obtain ⟨i, hi⟩ := List.getElem?_of_mem ht; have hl := (List.getElem?_eq_some_iff.1 hi).1; obtain ⟨p, _, _, _, hc⟩ := h.2.2.2 (by have := h.1; omega); exact (hc i t hi).2.2
theorem zoi {w : World} {base lo g n cap : Nat} {ts : List Tm} (h : w.ownsRow base 110 2 (.slice (some ⟨g, 0, none⟩) n cap) n (tcs ts)) (hn : ts.length = n) (hs : ∀ t ∈ ts, t.2.size ≤ maxLen) (hlo : lo ≤ base) :
    IsTerms w lo w.heap.size (some ⟨g, 0, none⟩) n cap ts ∧ RowAt w lo w.heap.size 110 (some ⟨g, 0, none⟩) (n * 2) := by
  subst hn; rcases h.2 with ⟨hv, _⟩ | ⟨g', cap', cur, hv, hbg, hgb, hle, hcap, hsz, htk⟩
  · simp at hv
  · injection hv with e1 _ e3
    injection e1 with e1; injection e1 with e1; subst e1; subst e3; have hlt := (Array.getElem?_eq_some_iff.1 hgb).1
    have a2 : ∀ j u, (tcs ts)[j]? = some u → w.cell? ⟨g, j, none⟩ = some u := by
      intro j u hu; have hj := (List.getElem?_eq_some_iff.1 hu).1; rw [tcs_len] at hj; rw [← htk, List.getElem?_take, if_pos qaa] at hu; simp [World.cell?, hgb]; simpa using hu
    have a0 : ∀ j, (⟨g, 0, none⟩ : Addr).add j = ⟨g, j, none⟩ := fun j => by unfold Addr.add; split <;> simp_all
    refine ⟨⟨rfl, hle, hcap, fun _ => ⟨_, rfl, by show lo ≤ g; omega, hlt, fun i t ht => ?_⟩⟩, ⟨g, cap * 2, fun i => cur[i]?.getD undef, rfl, by omega, hlt, ⟨cur, hgb, hsz, fun i hi => by simp [hsz ▸ hi]⟩, Nat.mul_le_mul_right _ hle⟩⟩; obtain ⟨c1, c2⟩ := tcs_at ts i t ht; rw [a0, a0]; exact ⟨a2 _ _ c1, a2 _ _ c2, hs t (List.mem_of_getElem? ht)⟩
def CopyAPost (nm : ByteArray) (n : Nat) (ts : List Tm) (w : World) (e : Ending) (w' : World) : Prop :=
  ∃ A' d, e = .returned (.agg #[.string nm, .slice A' n d]) ∧ IsTerms w' w.heap.size w'.heap.size A' n d ts ∧ (0 < n → RowAt w' w.heap.size w'.heap.size 110 A' (n * 2)) ∧ Below w.heap.size w w'
theorem undrewG {a b : World} {row : Option Nat} (h : a.drew.grownBy b row) : a.grownBy b row := ⟨h.os, h.tape, h.output, h.size, h.block⟩
theorem zmx {w : World} {g i j : Nat} {u v : Value} {b : Nat} (hb : b ≠ g) : ((w.setCell ⟨g, i, none⟩ u).setCell ⟨g, j, none⟩ v).heap[b]? = w.heap[b]? :=
  (hs_ _ _ _ b hb).trans (hs_ _ _ _ b hb)
theorem zbs (nm : ByteArray) (A : Option Addr) (n c : Nat) (ts : List Tm) (w : World) (h : IsTerms w 0 w.heap.size A n c ts) (hn : n ≤ 1048576) :
    Calls Tryz.prog 101 #[.agg #[.string nm, .slice A n c]] w (CopyAPost nm n ts w) := by
  have hs := ziq h; have H := hid h; clear h; obtain ⟨i0, hi, hz, hsz, hby⟩ := info_parts Tryz.infoTerm; have HI := hid hi; have HZ := hid hz; have HSZ := hid hsz; have HYY := hid hby; have HS := hid hs; clear hi hz hsz hby hs; by_cases h0 : 0 < n
  · obtain ⟨p, hp, _⟩ := H.out.2.2.2 h0
    subst hp; have HL := hid H.out.1; have HW := zbj w (.cells #[.string nm, .slice (some p) n c] 51) (.cells #[.string ⟨#[]⟩, .slice none 0 0] 51); have B0 := (Blk.made w 51 #[.string nm, .slice (some p) n c] rfl).alloc (.cells #[.string ⟨#[]⟩, .slice none 0 0] 51); have R0 := Blk.made (b := w.heap.size + 1) (w.alloc (.cells #[.string nm, .slice (some p) n c] 51)) 51 #[.string ⟨#[]⟩, .slice none 0 0] qag
    generalize hW : ((w.alloc (.cells #[.string nm, .slice (some p) n c] 51)).alloc (.cells #[.string ⟨#[]⟩, .slice none 0 0] 51)) = W1 at HW B0 R0; have hsz : W1.heap.size = w.heap.size + 2 := by rw [← hW]; simp
    have hown : (W1.alloc (.cells #[] 110)).drew.ownsRow (w.heap.size + 2) 110 2 (.slice (some ⟨w.heap.size + 2, 0, none⟩) 0 0) 0 (tcs []) := by
      refine ⟨rfl, .inr ⟨w.heap.size + 2, 0, #[], rfl, nl _, ?_, nl _, by unfold maxLen; omega, rfl, rfl⟩⟩; rw [← hsz]; exact heap_alloc_new W1 _
    have a2 := tcs_cells (((H.out.up HW).below (zac W1 (.cells #[] 110)).drew (nl _))) h0; have HO := hid hown; have HC := hid a2; have HB := hid B0; have HR := hid R0; have a7 := hid HW; have x1 : W1.cell? ⟨w.heap.size, 0, none⟩ = some (.string nm) := B0.cell 0; have x2 : W1.cell? ⟨w.heap.size, 1, none⟩ = some (.slice (some p) n c) := B0.cell 1; clear hown a2 HW B0 R0; go_enter Tryz.func101, Tryz.ntmps101; go_wp2_with fail; go_region_law (refine step_append_lies _ qad _ _ _ qad (w.heap.size + 2) 110 i0 _ 2 24 Tryz.underlying49 HI.out HZ.out HSZ.out HYY.out rfl qaa (.slice (some ⟨w.heap.size + 2, 0, none⟩) 0 0) 0 (tcs []) qad HO.out p n c (tcs ts) qad (by rw [tcs_len, HL.out]) HC.out (tcs_one ts) h0 qaf qaa qah (w.heap.size + 3) qah ?_; intro gg cap w3 hown3 hgrow hat hlt3; have B3 := (HB.out.below (zac W1 (.cells #[] 110))).kept (undrewG hgrow) qcs; have b2 : w3.cell? ⟨w.heap.size, 0, none⟩ = some (.string nm) := B3.cell 0; have R3 := (HR.out.below (zac W1 (.cells #[] 110))).kept (undrewG hgrow) qcs; have r2 : w3.cell? ⟨w.heap.size + 1, 0, none⟩ = some (.string ⟨#[]⟩) := R3.cell 0; have r3 : w3.cell? ⟨w.heap.size + 1, 1, none⟩ = some (.slice none 0 0) := R3.cell 1; have r4 := R3.frozen 0; have r5 := R3.frozen 1)
    all_goals
      have a9 := hid hown3; have a6 := hid hgrow; have HR3 := hid R3; clear hown3 hgrow hat B3 R3; go_wp2; have a5 := zaa a7.out (zac W1 (.cells #[] 110)); have hb3 : Below w.heap.size w w3 := a5.grown (undrewG a6.out) a5.size (fun k hk => by simp [Value.ownBlock] at hk; omega); have hb5 : Below w.heap.size w ((w3.setCell ⟨w.heap.size + 1, 0, none⟩ (.string nm)).setCell ⟨w.heap.size + 1, 1, none⟩ (.slice (some ⟨gg, 0, none⟩) n cap)) := (hb3.setCell qag _).setCell qag _; have a4 := a9.out; rw [Nat.zero_add] at a4; obtain ⟨hT, hR⟩ := zoi (ts := ts) a4 HL.out HS.out (nl _)
      have hk : ∀ b, w.heap.size + 2 ≤ b → b < w3.heap.size → ((w3.setCell ⟨w.heap.size + 1, 0, none⟩ (.string nm)).setCell ⟨w.heap.size + 1, 1, none⟩ (.slice (some ⟨gg, 0, none⟩) n cap)).heap[b]? = w3.heap[b]? := fun b h1 _ => zmx qaa; have a3 : ((w3.setCell ⟨w.heap.size + 1, 0, none⟩ (.string nm)).setCell ⟨w.heap.size + 1, 1, none⟩ (.slice (some ⟨gg, 0, none⟩) n cap)).heap.size = w3.heap.size := qbl; exact bodyPost_ret (v := .agg #[.string nm, .slice (some ⟨gg, 0, none⟩) n cap]) (by simp [results, Tryz.results101, go_sem, r2, r3]) rfl ⟨_, _, rfl, hT.keep (cellKeep hk) qaa (Nat.le_of_eq a3.symm), fun _ => hR.keep hk qaa (Nat.le_of_eq a3.symm), hb5⟩
  · have a8 : n = 0 := qaa
    subst a8; have ht : ts = [] := List.eq_nil_of_length_eq_zero H.out.1; subst ht; cases A
    all_goals
      go_enter Tryz.func101, Tryz.ntmps101; go_wp2_with fail; go_region_law (fail)
      all_goals go_wp2
      all_goals
        refine bodyPost_ret (v := .agg #[.string nm, .slice (some ⟨w.heap.size + 1 + 1, 0, none⟩) 0 0]) (by simp [results, Tryz.results101, go_sem]) rfl ⟨_, _, rfl, ⟨rfl, nl _, Nat.zero_le _, fun h => absurd h qaa⟩, fun h => absurd h qaa, ?_⟩; exact (below3 _ _ _ _).drew
theorem OwnIn.appended {w w' : World} {lo hi hi' base k : Nat} {v : Value} {cs : List Value} {rs : List Rf} (h : OwnIn w lo hi rs) (hrow : w.ownsRow base 51 2 v k cs) (hg : w.grownBy w' v.ownBlock) (hh : hi ≤ hi') : OwnIn w' lo hi' rs := by
  have hw : OwnIn w' lo hi rs := by
    rcases hrow.2 with ⟨rfl, _⟩ | ⟨g, cap, cur, rfl, _, hgb, _⟩
    · refine ⟨fun q hq => zhu (g := w.heap.size) (fun b hb _ => hg.block b hb qcs) (h.1 q hq) (fun h0 e => ?_), h.2⟩
      obtain ⟨g2, _, _, x1, _, _, x4, _⟩ := (h.1 q hq).2.2 h0; rw [e] at x1; injection x1 with x1; injection x1 with x1; have := x4.lt; omega
    · refine ⟨fun q hq => zhu (g := g) (fun b hb hne => hg.block b hb qdn) (h.1 q hq) (fun h0 e => ?_), h.2⟩
      obtain ⟨g2, _, _, x1, _, _, x4, _⟩ := (h.1 q hq).2.2 h0; rw [e] at x1; injection x1 with x1; injection x1 with x1; subst x1; obtain ⟨c2, y1, _⟩ := x4; rw [hgb] at y1; injection y1 with y1; injection y1 with _ y1; exact absurd y1 qan
  exact hw.keep (fun _ _ _ => rfl) (nl _) hh
theorem zbr (W : World) (x y : Value) (t : TypeId) : ∀ j u, [x, y][j]? = some u → (W.alloc (.cells #[x, y] t)).cell? ((⟨W.heap.size, 0, none⟩ : Addr).add j) = some u := by
  intro j u hu
  match j, hu with
  | 0, hu => simp at hu; subst hu; simp [go_sem, Addr.add]
  | 1, hu => simp at hu; subst hu; simp [go_sem, Addr.add]
def zkj (xs : List At) (w : World) (e : Ending) (w' : World) : Prop :=
  ∃ A c rs, e = .returned (.slice A xs.length c) ∧ OwnRefs w' w.heap.size w'.heap.size A xs.length c rs ∧ rs.map rAt = xs ∧ Below w.heap.size w w'
theorem zkc {w wr w1 w2 : World} {k g cap n' d : Nat} {v : Value} {rs : List Rf} {L : List At} {q : At} {A' : Option Addr} {o : Obj} (hl : rs.length = k) (hm : rs.map rAt = L)
    (ho : OwnIn wr w.heap.size wr.heap.size rs) (hb : Below w.heap.size w wr) (hb1 : Below wr.heap.size wr w1) (hs : q.1.size ≤ maxLen)
    (hT : IsTerms w1 wr.heap.size w1.heap.size A' n' d q.2) (hR : 0 < n' → RowAt w1 wr.heap.size w1.heap.size 110 A' (n' * 2))
    (hrow : w1.ownsRow w.heap.size 51 2 v k (zai rs)) (hown : w2.ownsRow w.heap.size 51 2 (.slice (some ⟨g, 0, none⟩) (k + 1) cap) (k + 1) (zai rs ++ [.string q.1, .slice A' n' d])) (hgrow : (w1.alloc o).grownBy w2 v.ownBlock) :
    ∃ rs', rs'.length = k + 1 ∧ rs'.map rAt = L ++ [q] ∧ w2.ownsRow w.heap.size 51 2 (.slice (some ⟨g, 0, none⟩) (k + 1) cap) (k + 1) (zai rs') ∧ OwnIn w2 w.heap.size w2.heap.size rs' ∧ Below w.heap.size w w2 := by
  have hsz : w1.heap.size ≤ w2.heap.size := Nat.le_trans qag hgrow.size; have a2 : Below w.heap.size w w1 := zaa hb hb1; refine ⟨rs ++ [(q.1, A', n', d, q.2)], by rw [List.length_append, hl]; rfl, ?_, ?_, ?_, ?_⟩
  · rw [List.map_append, hm]; rfl
  · rw [zcv]; exact hown
  · have h1 := ho.snoc (w' := w1) (hi' := w1.heap.size) (r := (q.1, A', n', d, q.2)) (fun b _ h2 => hb1.block b h2) hb1.size hs hb.size hT hR
    have h2 := h1.keep (w' := w1.alloc o) (fun b _ h => Below.heap_alloc w1 o b h) (nl _) (nl _); exact h2.appended (hrow.alloc o) hgrow hsz
  · refine ((a2.alloc a2.size o).grown hgrow (by simp; have := a2.size; omega) (fun j ej => ?_))
    rcases hrow.2 with ⟨rfl, _⟩ | ⟨g', cap', cur, rfl, hbg, _, _⟩
    · simp [Value.ownBlock] at ej
    · obtain rfl : g' = j := by simpa [Value.ownBlock] using ej
      exact hbg
theorem copy_on {w wr w1 w2 : World} {k g cap n' d : Nat} {v : Value} {rs : List Rf} {xs : List At} {q : At} {A' : Option Addr} {o : Obj} (hl : rs.length = k) (hm : rs.map rAt = xs.take k) (hq : xs[k]? = some q)
    (ho : OwnIn wr w.heap.size wr.heap.size rs) (hb : Below w.heap.size w wr) (hb1 : Below wr.heap.size wr w1) (hs : q.1.size ≤ maxLen)
    (hT : IsTerms w1 wr.heap.size w1.heap.size A' n' d q.2) (hR : 0 < n' → RowAt w1 wr.heap.size w1.heap.size 110 A' (n' * 2))
    (hrow : w1.ownsRow w.heap.size 51 2 v k (zai rs)) (hown : w2.ownsRow w.heap.size 51 2 (.slice (some ⟨g, 0, none⟩) (k + 1) cap) (k + 1) (zai rs ++ [.string q.1, .slice A' n' d])) (hgrow : (w1.alloc o).grownBy w2 v.ownBlock) :
    ∃ rs', rs'.length = k + 1 ∧ rs'.map rAt = xs.take (k + 1) ∧ w2.ownsRow w.heap.size 51 2 (.slice (some ⟨g, 0, none⟩) (k + 1) cap) (k + 1) (zai rs') ∧ OwnIn w2 w.heap.size w2.heap.size rs' ∧ Below w.heap.size w w2 := by
  obtain ⟨rs', a, b, c, d', e⟩ := zkc hl hm ho hb hb1 hs hT hR hrow hown hgrow; exact ⟨rs', a, by rw [b, List.take_add_one, hq]; rfl, c, d', e⟩
theorem zan {w w' : World} {base size k : Nat} {e : TypeId} {v : Value} {xs : List Value} (h : w.ownsRow base e size v k xs) (hb : Below w.heap.size w w') : w'.ownsRow base e size v k xs :=
  h.kept (row := none) ⟨hb.os, hb.tape, hb.output, hb.size, fun i hi _ => hb.block i hi⟩ (by
    rcases h.2 with ⟨rfl, _⟩ | ⟨g, cap, cur, rfl, _⟩
    · exact .inl rfl
    · exact .inr qcs)
def SrcAt (w : World) (A : Option Addr) (m : Nat) (news : List Value) : Prop :=
  news.length = m * 2 ∧ (∀ ad, A = some ad → ∀ j u, news[j]? = some u → w.cell? (ad.add j) = some u) ∧ (A = none → m = 0)
section
variable {P : Program} {w : World}
theorem zgv (base : Nat) (t ty e : TypeId) (i : TypeInfo) (size : Nat) (ht : P.underlying t = some (.slice e)) (hi : P.info? e = some i)
    (v : Value) (n c : Nat) (xs : List Value) (hown : w.ownsRow base e size v n xs) : (Builtin.append_ #[t, t] ty #[v, .slice none 0 c]).run P w = .ok v w := by
  rcases hown.2 with ⟨rfl, rfl⟩ | ⟨g, cap, cur, rfl, _, _, hnc, _⟩
  · simp [Builtin.append_, run_underlying ht, sizeOf, typeInfo, hi, Builtin.lenOf, Builtin.firstCells]
  · simp [Builtin.append_, run_underlying ht, sizeOf, typeInfo, hi, Builtin.lenOf, Builtin.firstCells, hnc, storeCells]
theorem zbi {ops : Array Oper} {o : Oper} {a : Act} {K : Act → World → Prop} {Q : Exit → Act → World → Prop} {E : Prop} (hgd : o.guard = none) (s x : Operand) (t : TypeId)
    (ho : o.op = .call { callee := .builtin .append, args := #[s, x], argTypes := #[t, t] })
    (base : Nat) (e : TypeId) (i : TypeInfo) (z : Value) (bytes : Nat) (ht : P.underlying t = some (.slice e)) (hi : P.info? e = some i) (hz : i.zero = some z)
    (hsize : i.size = 2) (hby : i.bytes = bytes) (hzs : z.cells.size = 2)
    (v : Value) (n : Nat) (xs : List Value) (hs : a.eval s = v) (hown : w.ownsRow base e 2 v n xs)
    (A : Option Addr) (m c : Nat) (news : List Value) (hx : a.eval x = .slice A m c) (hsrc : SrcAt w A m news) (h1 : ∀ u ∈ news, u.oneCell' = true)
    (h63 : n + m ≤ maxLen) (hbytes : (n + m) * bytes ≤ 140737488355328) (hbase : base ≤ w.heap.size)
    (h : ∀ v' w', w'.ownsRow base e 2 v' (n + m) (xs ++ news) → w.grownBy w' v.ownBlock → K (a.put o.dst v') w') :
    if Region.wanted o (yielded ops a.tmps) = true then Oper.wp P o a w K Q else E := by
  have hw : Region.wanted o (yielded ops a.tmps) = true := by simp [Region.wanted, hgd]
  rw [if_pos hw]; obtain ⟨hl, hc, hn⟩ := hsrc
  cases A with
  | none =>
    have hm := hn rfl; subst hm; have a2 : news = [] := List.eq_nil_of_length_eq_zero (by simpa using hl); subst a2; have a3 := zgv (P := P) base t o.type e i 2 ht hi v n c xs hown; unfold Oper.wp execOp; simp only [ho, resolve, invoke, builtin, Sem.run_bind, Sem.run_pure, Result.andThen_ok, List.map_toArray, List.map_cons, List.map_nil, hs, hx, a3]
    exact h v w (by simpa using hown) (World.grownBy.refl w _)
  | some ad => exact wp_append_own w s x t ho base e i z 2 bytes ht hi hz hsize hby hzs qaa v n xs hs hown ad m c news hx hl (hc ad rfl) h1 h63 hbytes hbase fun v' w' h2 h3 _ => h v' w' h2 h3
theorem zdh {base b size n : Nat} {e : TypeId} {v : Value} {xs : List Value} (h : w.ownsRow base e size v n xs) (hb : b < base) : some b ≠ v.ownBlock := by
  rcases h.2 with ⟨rfl, _⟩ | ⟨g, cap, cur, rfl, hbg, _⟩
  · simp [Value.ownBlock]
  · simp [Value.ownBlock]; omega
theorem zam {w' : World} {base B size n : Nat} {e : TypeId} {v : Value} {xs : List Value} (h : w.ownsRow base e size v n xs) (hg : w.grownBy w' v.ownBlock) (hB : B ≤ base) (hs : B ≤ w.heap.size) : Below B w w' :=
  (Below.refl B w).grown hg hs (fun k e => by
    by_cases hk : k < base
    · exact absurd e.symm (zdh h hk)
    · omega)
end
section
variable {w : World} {lo hi n c : Nat} {rs : List Rf}
theorem rcells_take (rs : List Rf) (k : Nat) : zai (rs.take k) = (zai rs).take (k * 2) := by
  induction rs generalizing k with
  | nil => simp [zai]
  | cons r rs ih =>
    cases k with
    | zero => simp [zai]
    | succ k =>
      have e : zai (r :: rs) = .string r.1 :: .slice r.2.1 r.2.2.1 r.2.2.2.1 :: zai rs := rfl; have e2 : zai ((r :: rs).take (k + 1)) = .string r.1 :: .slice r.2.1 r.2.2.1 r.2.2.2.1 :: zai (rs.take k) := rfl; rw [e, e2, ih, show (k + 1) * 2 = k * 2 + 1 + 1 by omega, List.take_succ_cons, List.take_succ_cons]
theorem rcells_drop (rs : List Rf) (k : Nat) : zai (rs.drop k) = (zai rs).drop (k * 2) := by
  induction rs generalizing k with
  | nil => simp [zai]
  | cons r rs ih =>
    cases k with
    | zero => simp
    | succ k =>
      have e : zai (r :: rs) = .string r.1 :: .slice r.2.1 r.2.2.1 r.2.2.2.1 :: zai rs := rfl; rw [List.drop_succ_cons, ih, e, show (k + 1) * 2 = k * 2 + 1 + 1 by omega, List.drop_succ_cons, List.drop_succ_cons]
theorem zhw (rs rs' : List Rf) : zai (rs ++ rs') = zai rs ++ zai rs' := by unfold zai; simp [List.flatMap_append]
theorem IsRefs.cells {A : Option Addr} {p : Addr} (h : IsRefs w lo hi A n c rs) (hA : A = some p) : ∀ j u, (zai rs)[j]? = some u → w.cell? (p.add j) = some u := by
  obtain ⟨h1, h2, h3, h4⟩ := h; intro j u hj; have hl := zen rs
  have hjl : j < rs.length * 2 := by
    have := (List.getElem?_eq_some_iff.1 hj).1; omega
  obtain ⟨p', hp, _, _, he⟩ := h4 qaa; rw [hA] at hp; injection hp with hp; subst hp; have hr : rs[j / 2]? = some rs[j / 2] := List.getElem?_eq_getElem qaa; obtain ⟨e1, _, e3, _⟩ := he _ _ hr; obtain ⟨d1, d2⟩ := zjm hr; by_cases hx : j % 2 = 0
  · have : j / 2 * 2 = j := qaa
    rw [this] at e1 d1; rw [e1]; rw [hj] at d1; exact d1.symm
  · have : j / 2 * 2 + 1 = j := qaa
    rw [this] at d2
    have a2 : w.cell? ((p.add (j / 2 * 2)).add 1) = some (.slice rs[j / 2].2.1 rs[j / 2].2.2.1 rs[j / 2].2.2.2.1) := by
      have : (p.add (j / 2 * 2)).add 1 = zcw (p.add (j / 2 * 2)) 1 := by unfold zcw; rfl
      rw [this]; exact e3
    rw [zlr, this] at a2; rw [a2]; rw [hj] at d2; exact d2.symm
theorem IsRefs.srcTake {A : Option Addr} (h : IsRefs w lo hi A n c rs) {k : Nat} (hk : k ≤ n) : SrcAt w A k (zai (rs.take k)) := by
  refine ⟨by rw [zen, List.length_take, h.1, Nat.min_eq_left hk], fun ad hA j u hu => ?_, fun hA => ?_⟩
  · rw [rcells_take] at hu
    rw [List.getElem?_take] at hu; split at hu
    · exact h.cells hA j u hu
    · simp at hu
  · rcases Nat.eq_zero_or_pos n with h0 | h0
    · omega
    · obtain ⟨p, hp, _⟩ := h.2.2.2 h0
      rw [hA] at hp; cases hp
theorem IsRefs.srcDrop {p : Addr} (h : IsRefs w lo hi (some p) n c rs) {k : Nat} (hk : k ≤ n) {q : Option Addr} (hq : q = if c = k then some p else some (p.add (k * 2))) : SrcAt w q (n - k) (zai (rs.drop k)) := by
  have hnc := h.2.1; have hl := h.1; subst hq; by_cases hc : c = k
  · have hn : n - k = 0 := qaa
    rw [hn, List.drop_eq_nil_of_le qaa]; exact ⟨rfl, fun ad _ j u hu => by simp [zai] at hu, fun _ => rfl⟩
  · rw [if_neg hc]
    refine ⟨by rw [zen, List.length_drop, hl], fun ad hA j u hu => ?_, fun hA => by cases hA⟩; injection hA with hA; subst hA; rw [rcells_drop, List.getElem?_drop] at hu; rw [zlr]; exact h.cells rfl _ u hu
theorem srcOne (W : World) (g : Nat) (t : TypeId) (x y : Value) (h : Blk W g t #[x, y]) : SrcAt W (some ⟨g, 0, none⟩) 1 [x, y] := by
  refine ⟨rfl, fun ad hA j u hu => ?_, fun hA => by cases hA⟩; injection hA with hA; subst hA; have a0 : ∀ j, (⟨g, 0, none⟩ : Addr).add j = ⟨g, j, none⟩ := fun j => by unfold Addr.add; split <;> simp_all
  rw [a0, h.cell]; simpa using hu
theorem zes (w : World) (t : TypeId) (B : Nat) (hB : B ≤ w.heap.size) : (w.alloc (.cells #[] t)).ownsRow B t 2 (.slice (some ⟨w.heap.size, 0, none⟩) 0 0) 0 [] :=
  ⟨rfl, .inr ⟨w.heap.size, 0, #[], rfl, hB, heap_alloc_new w _, nl _, by unfold maxLen; omega, rfl, rfl⟩⟩
end
end Go.Proofs.YtogonjkklioaaaaGreatDoor
