/-
  Lists of parts in memory of their own: each row may be written, and no two of them are one. Marked parts: how the law writes them and reads them again. Marked parts are read again as they were marked. (Written by tools/heldparts.py.) Copies of parts in memory of their own: the program's. (Written by tools/copyparts.py.)
  Lists of rules in memory of their own: the rows of each rule lie in blocks apart from the others'; a marked head. Copies of rules in memory of their own: the model's. (Written by tools/l7rules.py.)
-/
import Derived.Test.YtahkkelahocplaaDoorWithin
import Derived.Test.YtahkkelahocplaaDoorAppended
import Derived.Test.YtahkkelahocplaaDoorPartsOwn
import Derived.Test.YtahkkelahocplaaDoorParts
import Derived.Test.YtahkkelahocplaaDoorTexts
import Derived.Test.YtahkkelahocplaaDoorRegion
import Derived.Test.YtahkkelahocplaaDoorRule
import Derived.Test.YtahkkelahocplaaDoorTight
import Derived.Test.YtahkkelahocplaaDoorRule2
namespace Go.Proofs.YtahkkelahocplaaDoor
open Go.RowKit

/-- A part by value: its Not, and its atom. -/
abbrev Pf := Bool × Rf
def pAt (p : Pf) : Pt := (p.1, rAt p.2)

def pcells (ps : List Pf) : List Value := ps.flatMap fun p => [.bool p.1, .string p.2.1, .slice p.2.2.1 p.2.2.2.1 p.2.2.2.2.1]

theorem pcells_len : ∀ ps : List Pf, (pcells ps).length = ps.length * 3
  | [] => rfl
  | p :: ps => by
    have h := pcells_len ps
    unfold pcells at h ⊢
    rw [List.flatMap_cons, List.length_append, h, List.length_cons]
    simp only [List.length_cons, List.length_nil]; omega

theorem pcells_snoc (ps : List Pf) (p : Pf) : pcells (ps ++ [p]) = pcells ps ++ [.bool p.1, .string p.2.1, .slice p.2.2.1 p.2.2.2.1 p.2.2.2.2.1] := by
  unfold pcells; rw [List.flatMap_append, List.flatMap_singleton]

theorem pcells_at : ∀ {ps : List Pf} {i : Nat} {p : Pf}, ps[i]? = some p → (pcells ps)[i * 3]? = some (.bool p.1) ∧ (pcells ps)[i * 3 + 1]? = some (.string p.2.1) ∧ (pcells ps)[i * 3 + 2]? = some (.slice p.2.2.1 p.2.2.2.1 p.2.2.2.2.1)
  | [], i, p, h => by simp at h
  | q :: ps, 0, p, h => by
    simp at h; subst h
    exact ⟨rfl, rfl, rfl⟩
  | q :: ps, i + 1, p, h => by
    obtain ⟨a, b, c⟩ := pcells_at (ps := ps) (i := i) (p := p) (by simpa using h)
    have e : pcells (q :: ps) = .bool q.1 :: .string q.2.1 :: .slice q.2.2.1 q.2.2.2.1 q.2.2.2.2.1 :: pcells ps := rfl
    rw [e, show (i + 1) * 3 = i * 3 + 1 + 1 + 1 by omega]
    exact ⟨by simpa using a, by simpa using b, by simpa using c⟩

theorem pcells_one (ps : List Pf) : ∀ u ∈ pcells ps, u.oneCell' = true := by
  intro u hu
  obtain ⟨p, _, hp⟩ := List.mem_flatMap.1 hu
  simp at hp
  rcases hp with rfl | rfl | rfl <;> rfl

/-- A list of parts in memory of its own. -/
def OwnParts (w : World) (lo hi : Nat) (A : Option Addr) (n c : Nat) (ps : List Pf) : Prop :=
  ps.length = n ∧ n ≤ c ∧ c ≤ maxLen ∧
  (0 < n → ∃ g k f, A = some ⟨g, 0, none⟩ ∧ lo ≤ g ∧ g < hi ∧ w.rowIs g 86 k f ∧ n * 3 ≤ k ∧ ∀ j u, (pcells ps)[j]? = some u → f j = u) ∧
  OwnIn w lo hi (ps.map Prod.snd)

section
variable {w w' : World} {lo hi lo' hi' n c m : Nat} {t : TypeId} {A : Option Addr} {rs : List Rf} {r : Rf} {ps : List Pf} {p : Pf}

theorem OwnParts.keep (h : OwnParts w lo hi A n c ps) (hk : ∀ b, lo ≤ b → b < hi → w'.heap[b]? = w.heap[b]?) (h1 : lo' ≤ lo) (h2 : hi ≤ hi') : OwnParts w' lo' hi' A n c ps := by
  obtain ⟨a, b, d, e, f⟩ := h
  refine ⟨a, b, d, fun hn => ?_, f.keep hk h1 h2⟩
  obtain ⟨g, k, f, e1, e2, e3, e4, e5⟩ := e hn
  exact ⟨g, k, f, e1, by omega, by omega, e4.of_block (hk g e2 e3), e5⟩

theorem OwnParts.below {B : Nat} (h : OwnParts w lo hi A n c ps) (hb : Below B w w') (hh : hi ≤ B) : OwnParts w' lo hi A n c ps :=
  h.keep (fun b _ hb' => hb.block b (by omega)) (Nat.le_refl _) (Nat.le_refl _)

/-- What it reads as. -/
theorem OwnParts.parts (h : OwnParts w lo hi A n c ps) : IsParts w lo hi A n c (ps.map pAt) := by
  obtain ⟨a, b, d, e, f⟩ := h
  refine ⟨by simpa using a, b, d, fun hn => ?_⟩
  obtain ⟨g, k, f', e1, e2, e3, e4, e5, e6⟩ := e hn
  refine ⟨_, e1, e2, e3, fun i q hq => ?_⟩
  rw [List.getElem?_map] at hq
  obtain ⟨p, hp, rfl⟩ := Option.map_eq_some_iff.1 hq
  have hi := (List.getElem?_eq_some_iff.1 hp).1
  have a0 : ∀ j, (⟨g, 0, none⟩ : Addr).add j = ⟨g, j, none⟩ := fun j => by unfold Addr.add; split <;> simp_all
  obtain ⟨c1, c2, c3⟩ := pcells_at hp
  obtain ⟨d1, d2, _⟩ := f.1 p.2 (List.mem_map_of_mem (List.mem_of_getElem? hp))
  rw [a0]
  have x0 : w.cell? ⟨g, i * 3, none⟩ = some (.bool p.1) := by rw [e4.cell (by omega), e6 _ _ c1]
  have x1 : w.cell? ⟨g, i * 3 + 1, none⟩ = some (.string p.2.1) := by rw [e4.cell (by omega), e6 _ _ c2]
  have x2 : w.cell? ⟨g, i * 3 + 2, none⟩ = some (.slice p.2.2.1 p.2.2.2.1 p.2.2.2.2.1) := by rw [e4.cell (by omega), e6 _ _ c3]
  exact ⟨x0, x1, d1, _, _, _, x2, d2⟩

/-- Where one block alone has turned, which is no row of terms. -/
theorem OwnIn.named {l1 l2 : List Rf} {g : Nat} (f : OwnIn w lo hi (l1 ++ r :: l2)) (hk : ∀ b, b < w.heap.size → b ≠ g → w'.heap[b]? = w.heap[b]?) (hne : ∀ q ∈ l1 ++ r :: l2, 0 < rN q → rA q ≠ some ⟨g, 0, none⟩) (s : ByteArray) (hs : s.size ≤ maxLen) :
    OwnIn w' lo hi (l1 ++ (s, r.2) :: l2) := by
  have hp := f.2
  rw [List.pairwise_append, List.pairwise_cons] at hp
  refine ⟨fun q hq => ?_, ?_⟩
  · rcases List.mem_append.1 hq with hq | hq
    · exact termsFar hk (f.1 q (List.mem_append_left _ hq)) (hne q (List.mem_append_left _ hq))
    · rcases List.mem_cons.1 hq with rfl | hq
      · exact ⟨hs, (termsFar hk (f.1 r (by simp)) (hne r (by simp))).2⟩
      · exact termsFar hk (f.1 q (by simp [hq])) (hne q (by simp [hq]))
  · rw [List.pairwise_append, List.pairwise_cons]
    refine ⟨hp.1, ⟨fun q hq => hp.2.1.1 q hq, hp.2.1.2⟩, fun q hq q' hq' => ?_⟩
    rcases List.mem_cons.1 hq' with rfl | hq'
    · exact hp.2.2 q hq r (by simp)
    · exact hp.2.2 q hq q' (by simp [hq'])

/-- One row of terms has turned. -/
theorem OwnIn.turned {l1 l2 : List Rf} {g : Nat} (f : OwnIn w lo hi (l1 ++ r :: l2)) (hg : rA r = some ⟨g, 0, none⟩) (h0 : 0 < rN r) (hk : ∀ b, b < w.heap.size → b ≠ g → w'.heap[b]? = w.heap[b]?) (ts' : List Tm)
    (hT : IsTerms w' lo hi r.2.1 r.2.2.1 r.2.2.2.1 ts') (hR : RowAt w' lo hi 62 (rA r) (rN r * 2)) : OwnIn w' lo hi (l1 ++ (r.1, r.2.1, r.2.2.1, r.2.2.2.1, ts') :: l2) := by
  have hp := f.2
  rw [List.pairwise_append, List.pairwise_cons] at hp
  have hne : ∀ q, q ∈ l1 ∨ q ∈ l2 → 0 < rN q → rA q ≠ some ⟨g, 0, none⟩ := by
    intro q hq h1 e1
    rcases hq with hq | hq
    · exact hp.2.2 q hq r (by simp) h1 h0 (by rw [e1, hg])
    · exact hp.2.1.1 q hq h0 h1 (by rw [e1, hg])
  refine ⟨fun q hq => ?_, ?_⟩
  · rcases List.mem_append.1 hq with hq | hq
    · exact termsFar hk (f.1 q (List.mem_append_left _ hq)) (hne q (.inl hq))
    · rcases List.mem_cons.1 hq with rfl | hq
      · exact ⟨(f.1 r (by simp)).1, hT, fun _ => hR⟩
      · exact termsFar hk (f.1 q (by simp [hq])) (hne q (.inr hq))
  · rw [List.pairwise_append, List.pairwise_cons]
    refine ⟨hp.1, ⟨fun q hq => hp.2.1.1 q hq, hp.2.1.2⟩, fun q hq q' hq' => ?_⟩
    rcases List.mem_cons.1 hq' with rfl | hq'
    · exact hp.2.2 q hq r (by simp)
    · exact hp.2.2 q hq q' (by simp [hq'])

theorem typed_apart {g k k' : Nat} {t t' : TypeId} {f f' : Nat → Value} (h : w.rowIs g t k f) (h' : w.rowIs g t' k' f') : t = t' := by
  obtain ⟨cs, y1, _⟩ := h
  obtain ⟨cs', z1, _⟩ := h'
  rw [y1] at z1
  injection z1 with z1
  injection z1 with _ z1

/-- No terms lie in the row of parts. -/
theorem OwnIn.notRow {g k : Nat} {f : Nat → Value} (h : OwnIn w lo hi rs) (hr : w.rowIs g 86 k f) : ∀ q ∈ rs, 0 < rN q → rA q ≠ some ⟨g, 0, none⟩ := by
  intro q hq h0 e
  obtain ⟨g2, k2, f2, x1, _, _, x4, _⟩ := (h.1 q hq).2.2 h0
  rw [e] at x1
  injection x1 with x1
  injection x1 with x1
  subst x1
  exact absurd (typed_apart x4 hr) (by decide)

theorem map_place {l1 l2 : List Pf} : (l1 ++ p :: l2).map Prod.snd = l1.map Prod.snd ++ p.2 :: l2.map Prod.snd := by simp

/-- Cells of a row of parts where one part is another one. -/
theorem pcells_turn {l1 l2 : List Pf} {p p' : Pf} {f : Nat → Value} (e6 : ∀ j u, (pcells (l1 ++ p :: l2))[j]? = some u → f j = u) (d : Nat) (v : Value) (hd : d < 3)
    (hv : ∀ j, j < 3 → j ≠ d → [Value.bool p'.1, .string p'.2.1, .slice p'.2.2.1 p'.2.2.2.1 p'.2.2.2.2.1][j]? = [Value.bool p.1, .string p.2.1, .slice p.2.2.1 p.2.2.2.1 p.2.2.2.2.1][j]?) (hv' : [Value.bool p'.1, .string p'.2.1, .slice p'.2.2.1 p'.2.2.2.1 p'.2.2.2.2.1][d]? = some v) :
    ∀ j u, (pcells (l1 ++ p' :: l2))[j]? = some u → (if j = l1.length * 3 + d then v else f j) = u := by
  intro j u hu
  have hl : (pcells l1).length = l1.length * 3 := pcells_len l1
  have ea : ∀ x : Pf, pcells (l1 ++ x :: l2) = pcells l1 ++ ([.bool x.1, .string x.2.1, .slice x.2.2.1 x.2.2.2.1 x.2.2.2.2.1] ++ pcells l2) := fun x => by unfold pcells; simp [List.flatMap_append]
  rw [ea] at hu e6
  by_cases hj : j = l1.length * 3 + d
  · rw [if_pos hj]
    rw [List.getElem?_append_right (by omega), hl, hj, Nat.add_sub_cancel_left, List.getElem?_append_left (by simpa using hd), hv'] at hu
    injection hu
  · rw [if_neg hj]
    refine e6 j u ?_
    by_cases hlt : j < l1.length * 3
    · rw [List.getElem?_append_left (by omega)] at hu ⊢; exact hu
    · rw [List.getElem?_append_right (by omega), hl] at hu ⊢
      by_cases h3 : j - l1.length * 3 < 3
      · rw [List.getElem?_append_left (by simpa using h3)] at hu ⊢
        rw [← hv _ h3 (by omega)]; exact hu
      · rw [List.getElem?_append_right (by simpa using Nat.le_of_not_lt h3)] at hu ⊢; exact hu

/-- The part at a place gets another Not. -/
theorem OwnParts.not_ {l1 l2 : List Pf} (h : OwnParts w lo hi A n c (l1 ++ p :: l2)) {g : Nat} (hA : A = some ⟨g, 0, none⟩) (b : Bool) :
    OwnParts (w.setCell ⟨g, l1.length * 3, none⟩ (.bool b)) lo hi A n c (l1 ++ (b, p.2) :: l2) := by
  obtain ⟨a, b', d, e, f⟩ := h
  have hn : 0 < n := by rw [← a]; simp; omega
  obtain ⟨g', k, f', e1, e2, e3, e4, e5, e6⟩ := e hn
  rw [hA] at e1
  injection e1 with e1
  injection e1 with e1
  subst e1
  have hne := f.notRow e4
  refine ⟨by simpa using a, b', d, fun _ => ⟨g, k, _, hA, e2, e3, e4.set _ _, e5, ?_⟩, ?_⟩
  · exact pcells_turn e6 (p' := (b, p.2)) 0 (.bool b) (by omega) (fun j h1 h2 => by
      match j, h1, h2 with
      | 1, _, _ => rfl
      | 2, _, _ => rfl) rfl
  · rw [map_place] at f hne ⊢
    exact f.named (fun x _ hx => Below.heap_setCell _ _ _ x hx) hne p.2.1 (f.1 p.2 (by simp)).1

/-- The part at a place gets another name. -/
theorem OwnParts.name {l1 l2 : List Pf} (h : OwnParts w lo hi A n c (l1 ++ p :: l2)) {g : Nat} (hA : A = some ⟨g, 0, none⟩) (s : ByteArray) (hs : s.size ≤ maxLen) :
    OwnParts (w.setCell ⟨g, l1.length * 3 + 1, none⟩ (.string s)) lo hi A n c (l1 ++ (p.1, s, p.2.2) :: l2) := by
  obtain ⟨a, b', d, e, f⟩ := h
  have hn : 0 < n := by rw [← a]; simp; omega
  obtain ⟨g', k, f', e1, e2, e3, e4, e5, e6⟩ := e hn
  rw [hA] at e1
  injection e1 with e1
  injection e1 with e1
  subst e1
  have hne := f.notRow e4
  refine ⟨by simpa using a, b', d, fun _ => ⟨g, k, _, hA, e2, e3, e4.set _ _, e5, ?_⟩, ?_⟩
  · exact pcells_turn e6 (p' := (p.1, s, p.2.2)) 1 (.string s) (by omega) (fun j h1 h2 => by
      match j, h1, h2 with
      | 0, _, _ => rfl
      | 2, _, _ => rfl) rfl
  · rw [map_place] at f hne ⊢
    exact f.named (fun x _ hx => Below.heap_setCell _ _ _ x hx) hne s hs

/-- The part at a place gets other terms, in the same row. -/
theorem OwnParts.terms {l1 l2 : List Pf} (h : OwnParts w lo hi A n c (l1 ++ p :: l2)) {g : Nat} (hg : rA p.2 = some ⟨g, 0, none⟩) (h0 : 0 < rN p.2) (hk : ∀ b, b < w.heap.size → b ≠ g → w'.heap[b]? = w.heap[b]?) (ts' : List Tm)
    (hT : IsTerms w' lo hi p.2.2.1 p.2.2.2.1 p.2.2.2.2.1 ts') (hR : RowAt w' lo hi 62 (rA p.2) (rN p.2 * 2)) :
    OwnParts w' lo hi A n c (l1 ++ (p.1, p.2.1, p.2.2.1, p.2.2.2.1, p.2.2.2.2.1, ts') :: l2) := by
  obtain ⟨a, b, d, e, f⟩ := h
  have hf : OwnIn w lo hi (l1.map Prod.snd ++ p.2 :: l2.map Prod.snd) := by rw [← map_place]; exact f
  obtain ⟨g2, k2, f2, x1, _, _, x4, _⟩ := (hf.1 p.2 (by simp)).2.2 h0
  rw [hg] at x1
  injection x1 with x1
  injection x1 with x1
  subst x1
  refine ⟨by simpa using a, b, d, fun hn => ?_, by rw [map_place]; exact hf.turned hg h0 hk ts' hT hR⟩
  obtain ⟨g', k, f', e1, e2, e3, e4, e5, e6⟩ := e hn
  have hne' : g' ≠ g := by
    intro e'
    subst e'
    exact absurd (typed_apart x4 e4) (by decide)
  refine ⟨g', k, f', e1, e2, e3, e4.of_block (hk g' e4.lt hne'), e5, fun j u hu => e6 j u ?_⟩
  rw [← hu]
  congr 1
  unfold pcells
  simp [List.flatMap_append]

/-- A row that was grown by appending, and what its parts lead on to. -/
theorem OwnParts.of_row {base : Nat} {v : Value} (h : w.ownsRow base 86 3 v n (pcells ps)) (hn : n = ps.length) (hb : lo ≤ base) (hr : OwnIn w lo hi (ps.map Prod.snd)) (hh : hi ≤ w.heap.size) :
    ∃ A c, v = .slice A n c ∧ OwnParts w lo w.heap.size A n c ps := by
  subst hn
  rcases h.2 with ⟨rfl, h0⟩ | ⟨g, cap, cur, rfl, hbg, hgb, hle, hcap, hsz, htk⟩
  · exact ⟨none, 0, by rw [h0], rfl, by omega, by unfold maxLen; omega, fun hp => absurd hp (by omega), hr.keep (fun _ _ _ => rfl) (Nat.le_refl _) hh⟩
  · have hlt := (Array.getElem?_eq_some_iff.1 hgb).1
    refine ⟨_, cap, rfl, rfl, hle, hcap, fun _ => ⟨g, cap * 3, fun i => cur[i]?.getD undef, rfl, by omega, hlt, ⟨cur, hgb, hsz, fun i hi => by simp [hsz ▸ hi]⟩, Nat.mul_le_mul_right _ hle, fun j u hu => ?_⟩, hr.keep (fun _ _ _ => rfl) (Nat.le_refl _) hh⟩
    have hj := (List.getElem?_eq_some_iff.1 hu).1
    rw [pcells_len] at hj
    rw [← htk, List.getElem?_take, if_pos (by omega)] at hu
    have : cur[j]? = some u := by simpa using hu
    simp [this]

/-- What terms lie in stays where a row of parts is appended to. -/
theorem OwnIn.appendedP {base k : Nat} {v : Value} {cs : List Value} (h : OwnIn w lo hi rs) (hrow : w.ownsRow base 86 3 v k cs) (hg : w.grownBy w' v.ownBlock) (hh : hi ≤ hi') : OwnIn w' lo hi' rs := by
  have hw : OwnIn w' lo hi rs := by
    rcases hrow.2 with ⟨rfl, _⟩ | ⟨g, cap, cur, rfl, _, hgb, _⟩
    · refine ⟨fun q hq => termsFar (g := w.heap.size) (fun b hb _ => hg.block b hb (by simp [Value.ownBlock])) (h.1 q hq) (fun h0 e => ?_), h.2⟩
      obtain ⟨g2, _, _, x1, _, _, x4, _⟩ := (h.1 q hq).2.2 h0
      rw [e] at x1
      injection x1 with x1
      injection x1 with x1
      have := x4.lt
      omega
    · refine ⟨fun q hq => termsFar (g := g) (fun b hb hne => hg.block b hb (by simp [Value.ownBlock]; exact hne)) (h.1 q hq) (fun h0 e => ?_), h.2⟩
      obtain ⟨g2, _, _, x1, _, _, x4, _⟩ := (h.1 q hq).2.2 h0
      rw [e] at x1
      injection x1 with x1
      injection x1 with x1
      subst x1
      obtain ⟨c2, y1, _⟩ := x4
      rw [hgb] at y1
      injection y1 with y1
      injection y1 with _ y1
      exact absurd y1 (by decide)
  exact hw.keep (fun _ _ _ => rfl) (Nat.le_refl _) hh
end

theorem three_new (W : World) (x y z : Value) (t : TypeId) : ∀ j u, [x, y, z][j]? = some u → (W.alloc (.cells #[x, y, z] t)).cell? ((⟨W.heap.size, 0, none⟩ : Addr).add j) = some u := by
  intro j u hu
  match j, hu with
  | 0, hu => simp at hu; subst hu; simp [go_sem, Addr.add]
  | 1, hu => simp at hu; subst hu; simp [go_sem, Addr.add]
  | 2, hu => simp at hu; subst hu; simp [go_sem, Addr.add]

theorem row_away {W : World} {base size k : Nat} {e : TypeId} {v : Value} {xs : List Value} (h : W.ownsRow base e size v k xs) {g i : Nat} (hp : some g ≠ v.ownBlock) (u : Value) : (W.setCell ⟨g, i, none⟩ u).ownsRow base e size v k xs :=
  h.kept (grownSet W g i u) (.inr hp.symm)

end Go.Proofs.YtahkkelahocplaaDoor

namespace Go.Proofs.YtahkkelahocplaaDoor
open Go.RowKit

/-- A marked part, from k on. -/
def markP (k : Nat) (p : Pf) : Pf := (decide (k % 3 = 0), markB (k + 1), p.2.2.1, p.2.2.2.1, p.2.2.2.2.1, markTs (k + 2) (rN p.2))
/-- The number behind marked parts. -/
def markPN (k : Nat) : List Pf → Nat
  | [] => k
  | p :: ps => markPN (k + 2 + 2 * rN p.2) ps
def markPs (k : Nat) : List Pf → List Pf
  | [] => []
  | p :: ps => markP k p :: markPs (k + 2 + 2 * rN p.2) ps

theorem markPN_snoc : ∀ (k : Nat) (l : List Pf) (p : Pf), markPN k (l ++ [p]) = markPN k l + 2 + 2 * rN p.2
  | _, [], _ => rfl
  | k, q :: l, p => markPN_snoc (k + 2 + 2 * rN q.2) l p

theorem markPN_app : ∀ (k : Nat) (l l' : List Pf), markPN k (l ++ l') = markPN (markPN k l) l'
  | _, [], _ => rfl
  | k, q :: l, l' => markPN_app (k + 2 + 2 * rN q.2) l l'

theorem markPN_ge : ∀ (k : Nat) (l : List Pf), k ≤ markPN k l
  | _, [] => Nat.le_refl _
  | k, q :: l => Nat.le_trans (by omega) (markPN_ge (k + 2 + 2 * rN q.2) l)

theorem markPN_le (M : Nat) : ∀ (k : Nat) (l : List Pf), (∀ p ∈ l, rN p.2 ≤ M) → markPN k l ≤ k + l.length * (2 + 2 * M)
  | _, [], _ => by simp [markPN]
  | k, q :: l, h => by
    have h1 := markPN_le M (k + 2 + 2 * rN q.2) l (fun r hr => h r (by simp [hr]))
    have h2 := h q (by simp)
    rw [List.length_cons, Nat.add_mul]
    show markPN (k + 2 + 2 * rN q.2) l ≤ _
    omega

theorem markPs_snoc : ∀ (k : Nat) (l : List Pf) (p : Pf), markPs k (l ++ [p]) = markPs k l ++ [markP (markPN k l) p]
  | _, [], _ => rfl
  | k, q :: l, p => by
    show markP k q :: markPs (k + 2 + 2 * rN q.2) (l ++ [p]) = _
    rw [markPs_snoc (k + 2 + 2 * rN q.2) l p]; rfl

theorem markPs_len : ∀ (k : Nat) (l : List Pf), (markPs k l).length = l.length
  | _, [] => rfl
  | k, q :: l => by
    show (markPs (k + 2 + 2 * rN q.2) l).length + 1 = _
    rw [markPs_len, List.length_cons]

theorem markPs_at : ∀ (k : Nat) (l1 : List Pf) (p : Pf) (l2 : List Pf), (markPs k (l1 ++ p :: l2))[l1.length]? = some (markP (markPN k l1) p)
  | _, [], _, _ => rfl
  | k, q :: l, p, l2 => by
    show (markP k q :: markPs (k + 2 + 2 * rN q.2) (l ++ p :: l2))[l.length + 1]? = _
    rw [List.getElem?_cons_succ, markPs_at]; rfl

/-- What an owned list has at a place. -/
theorem OwnParts.place {w : World} {lo hi n c : Nat} {A : Option Addr} {l1 l2 : List Pf} {p : Pf} (h : OwnParts w lo hi A n c (l1 ++ p :: l2)) :
    ∃ g, A = some ⟨g, 0, none⟩ ∧ lo ≤ g ∧ g < hi ∧ g < w.heap.size ∧ l1.length < n ∧ w.cell? ⟨g, l1.length * 3, none⟩ = some (.bool p.1) ∧ w.cell? ⟨g, l1.length * 3 + 1, none⟩ = some (.string p.2.1) ∧ w.cell? ⟨g, l1.length * 3 + 2, none⟩ = some (.slice p.2.2.1 p.2.2.2.1 p.2.2.2.2.1) ∧ w.frozen? ⟨g, l1.length * 3, none⟩ = false ∧ w.frozen? ⟨g, l1.length * 3 + 1, none⟩ = false := by
  obtain ⟨a, b, d, e, f⟩ := h
  have hl : l1.length < n := by rw [← a]; simp
  obtain ⟨g, k, f', e1, e2, e3, e4, e5, e6⟩ := e (by omega)
  have ha : (l1 ++ p :: l2)[l1.length]? = some p := by simp
  obtain ⟨c1, c2, c3⟩ := pcells_at ha
  exact ⟨g, e1, e2, e3, e4.lt, hl, by rw [e4.cell (by omega), e6 _ _ c1], by rw [e4.cell (by omega), e6 _ _ c2], by rw [e4.cell (by omega), e6 _ _ c3], e4.frozen _, e4.frozen _⟩

/-- Rows of other things than terms and parts are as they were. -/
def Rest (w w' : World) : Prop := ∀ b T k f, T ≠ 62 → T ≠ 86 → w.rowIs b T k f → w'.rowIs b T k f

theorem Rest.refl (w : World) : Rest w w := fun _ _ _ _ _ _ h => h
theorem Rest.trans {w w' w'' : World} (h : Rest w w') (k : Rest w' w'') : Rest w w'' := fun b T m f h1 h2 h3 => k b T m f h1 h2 (h b T m f h1 h2 h3)
theorem Rest.of {w w' : World} (h : Below w.heap.size w w') : Rest w w' := fun b _ _ _ _ _ h3 => h3.of_block (h.block b h3.lt)
theorem Rest.row {w w' : World} {g m T : Nat} {f : Nat → Value} (hr : w.rowIs g T m f) (hT : T = 62 ∨ T = 86) (hg : w.grownBy w' (some g)) : Rest w w' := by
  intro b T' k f' h1 h2 h3
  by_cases e : b = g
  · subst e
    have := typed_apart hr h3
    subst this
    rcases hT with rfl | rfl
    · exact absurd rfl h1
    · exact absurd rfl h2
  · exact h3.of_block (hg.block b h3.lt (fun e' => e (by injection e')))

theorem OwnParts.isRow {w : World} {lo hi n c : Nat} {l1 l2 : List Pf} {p : Pf} {g : Nat} (h : OwnParts w lo hi (some ⟨g, 0, none⟩) n c (l1 ++ p :: l2)) : ∃ k f, w.rowIs g 86 k f := by
  obtain ⟨a, b, d, e, f⟩ := h
  obtain ⟨g', k, f', e1, e2, e3, e4, e5, e6⟩ := e (by rw [← a]; simp; omega)
  injection e1 with e1
  injection e1 with e1
  subst e1
  exact ⟨k, f', e4⟩

theorem markTermS_part (lo hi : Nat) (A : Option Addr) (n c : Nat) (l1 l2 : List Pf) (p : Pf) (k : Nat) (w : World) (z : Int) (hz : z = ((k + 2 : Nat) : Int)) (b : Bool) (hbk : b = decide (k % 3 = 0)) (h : OwnParts w lo hi A n c (l1 ++ (b, markB (k + 1), p.2.2) :: l2)) (hk : k + 2 + 2 * rN p.2 ≤ 2 ^ 62) :
    Calls Tryd.prog 55 #[.slice p.2.2.1 p.2.2.2.1 p.2.2.2.2.1, .int .i64 z] w fun e w' => e = .returned (.int .i64 ((k + 2 + 2 * rN p.2 : Nat) : Int)) ∧ OwnParts w' lo hi A n c (l1 ++ markP k p :: l2) ∧ Within lo hi w w' ∧ Rest w w' := by
  subst hz
  subst hbk
  have hf := h.2.2.2.2
  rw [map_place] at hf
  obtain ⟨y1, y2, y3⟩ := hf.1 (markB (k + 1), p.2.2) (by simp)
  by_cases h0 : 0 < rN p.2
  · obtain ⟨g, m, f, e1, e2, e3, e4, e5⟩ := y3 h0
    have e1' : p.2.2.1 = some ⟨g, 0, none⟩ := e1
    rw [e1']
    refine (markTermS_any g m p.2.2.2.1 p.2.2.2.2.1 (k + 2) f w e4 e5 hk).mono ?_
    rintro e w' ⟨rfl, ⟨f', r1, r2⟩, hg⟩
    have hT : IsTerms w' lo hi (some ⟨g, 0, none⟩) p.2.2.2.1 p.2.2.2.2.1 (markTs (k + 2) (rN p.2)) := marked_terms r1 e5 r2 hk y2.2.1 y2.2.2.1 e2 e3
    refine ⟨rfl, ?_, Within.row hg e2 e3, Rest.row e4 (.inl rfl) hg⟩
    have := OwnParts.terms (p := (decide (k % 3 = 0), markB (k + 1), p.2.2)) h (g := g) e1 h0 (fun b hb hne => hg.block b hb (fun e => hne (by injection e))) (markTs (k + 2) (rN p.2)) (by show IsTerms w' lo hi p.2.2.1 _ _ _; rw [e1']; exact hT) ⟨g, m, f', e1, e2, e3, r1, e5⟩
    exact this
  · have hn : p.2.2.2.1 = 0 := by unfold rN at h0; omega
    have hn' : rN p.2 = 0 := hn
    have ht : p.2.2.2.2.2 = [] := List.eq_nil_of_length_eq_zero (by have := y2.1; simp only at this; omega)
    rw [hn]
    refine (markTermS_none p.2.2.1 p.2.2.2.2.1 (k + 2) w).mono ?_
    rintro e w' ⟨rfl, rfl⟩
    refine ⟨by rw [hn'], ?_, Within.refl, Rest.refl _⟩
    have e : markP k p = (decide (k % 3 = 0), markB (k + 1), p.2.2) := by
      unfold markP
      rw [hn']
      obtain ⟨x, a, b, c, d, t⟩ := p
      simp only at ht ⊢
      subst ht
      rfl
    rw [e]; exact h

def MarkPPost (lo hi : Nat) (A : Option Addr) (n c k : Nat) (ps : List Pf) (w : World) (e : Ending) (w' : World) : Prop :=
  e = .returned (.int .i64 ((markPN k ps : Nat) : Int)) ∧ OwnParts w' lo hi A n c (markPs k ps) ∧ Within lo hi w w' ∧ Rest w w'

set_option maxRecDepth 100000 in
set_option maxHeartbeats 2000000 in
theorem markPartS_held (lo hi : Nat) (A : Option Addr) (n c k : Nat) (ps : List Pf) (w : World) (h : OwnParts w lo hi A n c ps) (hh : hi ≤ w.heap.size) (hk : markPN k ps ≤ 2 ^ 62) :
    Calls Tryd.prog 35 #[.slice A n c, .int .i64 (k : Int)] w (MarkPPost lo hi A n c k ps w) := by
  have hn := h.2.2.1
  have hnc := h.2.1
  have HN := Lib.hid h.1
  unfold maxLen at hn
  have H := Lib.hid h; clear h
  go_enter Tryd.func35, Tryd.ntmps35
  go_wp2
  go_loopw [1, 5] (fun x y wr => ∃ l1 l2 : List Pf, ps = l1 ++ l2 ∧ x = .int .i64 ((markPN k l1 : Nat) : Int) ∧ y = .int .i64 ((l1.length : Nat) : Int) ∧ OwnParts wr lo hi A n c (markPs k l1 ++ l2) ∧ Within lo hi w wr ∧ Rest w wr) (fun _ y _ => n - (intOf y).toNat)
  case atStart => exact ⟨[], ps, rfl, rfl, rfl, H.out, Within.refl, Rest.refl _⟩
  case round =>
    obtain ⟨l1, l2, hs, rfl, rfl, ho, hw, hrs⟩ := hrel
    have HRS := Lib.hid hrs; clear hrs
    have HS := Lib.hid hs; clear hs
    have HO := Lib.hid ho; clear ho
    have HL := Lib.hid (markPs_len k l1)
    obtain ⟨i, hi'⟩ : ∃ i, l1.length = i := ⟨_, rfl⟩
    obtain ⟨q, hq⟩ : ∃ q, markPN k l1 = q := ⟨_, rfl⟩
    rw [hi', hq]
    cases l2 with
    | nil =>
      have e1 : ps = l1 := by have := HS.out; rwa [List.append_nil] at this
      have hin : i = n := by have := HN.out; rw [e1, hi'] at this; exact this
      have HQ := Lib.hid hq; have HI := Lib.hid hi'; have HE := Lib.hid e1
      clear hq hi' e1
      subst hin
      go_wp2
      go_ret; exact ⟨by rw [HE.out, HQ.out]; rfl, by rw [HE.out]; have := HO.out; rwa [List.append_nil] at this, hw, HRS.out⟩
    | cons p l2 =>
      obtain ⟨g, hA, p1, p2, p3, p4, p5, p5', p6, p7, p7'⟩ := HO.out.place
      rw [HL.out, hi'] at p4 p5 p5' p6 p7 p7'
      have hb1 : q + 2 + 2 * rN p.2 ≤ 2 ^ 62 := by
        have e1 : markPN k ps = markPN (q + 2 + 2 * rN p.2) l2 := by rw [HS.out, markPN_app, hq]; rfl
        have := markPN_ge (q + 2 + 2 * rN p.2) l2
        omega
      have HQ := Lib.hid hq; have HI := Lib.hid hi'
      clear hq hi'
      subst hA
      have hws := hw.size
      obtain ⟨bv, hbv⟩ : ∃ bv, ((q : Int) % 3 == 0) = bv := ⟨_, rfl⟩
      have HBV := Lib.hid (mod3q hbv)
      have hO0 := HO.out.not_ rfl bv
      rw [HL.out, HI.out] at hO0
      have hw0 := hw.trans (Within.row (grownSet wr g (i * 3) (.bool bv)) p1 p2)
      obtain ⟨kr, fr, hrow⟩ := HO.out.isRow
      have hrs0 := HRS.out.trans (Rest.row hrow (.inr rfl) (grownSet wr g (i * 3) (.bool bv)))
      have HRS0 := Lib.hid hrs0
      clear hrs0 hrow
      have HO0 := Lib.hid hO0
      have hlt2 : (i : Int) < (n : Int) := by omega
      clear hO0 p5' p6 p7'
      go_wp2_with fail
      refine (markText_is _ (q + 1) (by omega) (by omega) _).mono ?_; rintro e w1 ⟨rfl, hb1'⟩
      have hO1 := HO0.out.below hb1' (by rw [size_setCell]; omega)
      obtain ⟨_, x1, _, _, x4, _, _, x6, x7, _, x8⟩ := hO1.place
      injection x1 with x1
      injection x1 with x1
      subst x1
      rw [HL.out, HI.out] at x6 x7 x8
      have hO2 := hO1.name rfl (markB (q + 1)) (markB_size (q + 1) (by omega))
      rw [HL.out, HI.out] at hO2
      have hw2 := (hw0.trans (Within.of hb1')).trans (Within.row (grownSet w1 g (i * 3 + 1) (.string (markB (q + 1)))) p1 p2)
      obtain ⟨kr1, fr1, hrow1⟩ := hO1.isRow
      have HRS2 := Lib.hid ((HRS0.out.trans (Rest.of hb1')).trans (Rest.row hrow1 (.inr rfl) (grownSet w1 g (i * 3 + 1) (.string (markB (q + 1))))))
      clear hrow1
      have HO2 := Lib.hid hO2
      clear hO1 hO2 HO0 hb1' p5 p7
      go_wp2_with fail
      refine (markTermS_part lo hi (some ⟨g, 0, none⟩) n c (markPs k l1) l2 p q _ _ (by omega) bv HBV.out HO2.out hb1).mono ?_; rintro e w3 ⟨rfl, hO3, hw3, hr3⟩
      have HRS3 := Lib.hid (HRS2.out.trans hr3); clear hr3
      have HO3 := Lib.hid hO3; clear hO3 x6 x7 x8 hbv
      go_wp2
      go_roundw
      case rel => exact ⟨l1 ++ [p], l2, by rw [HS.out, List.append_assoc]; rfl, by rw [markPN_snoc, HQ.out]; go_num, by rw [List.length_append, HI.out]; go_num, by rw [markPs_snoc, HQ.out, List.append_assoc]; exact HO3.out, hw2.trans hw3, HRS3.out⟩
      case measure => simp [intOf]; omega

end Go.Proofs.YtahkkelahocplaaDoor

namespace Go.Proofs.YtahkkelahocplaaDoor
open Go.RowKit

set_option maxRecDepth 100000 in
set_option maxHeartbeats 2000000 in
theorem heldPartS_any (A : Option Addr) (n c k : Nat) (ps : List Pf) (w : World) (h : IsParts w 0 w.heap.size A n c ((markPs k ps).map pAt)) (hk : markPN k ps ≤ 2 ^ 62) :
    Calls Tryd.prog 36 #[.slice A n c, .int .i64 (k : Int)] w fun e w' => e = .returned (.int .i64 ((markPN k ps : Nat) : Int)) ∧ Below w.heap.size w w' := by
  have hn := h.len
  unfold maxLen at hn
  have HN := Lib.hid h.1
  have H := Lib.hid h; clear h
  go_enter Tryd.func36, Tryd.ntmps36
  go_wp2
  go_loopw [1, 5] (fun x y wr => ∃ l1 l2 : List Pf, ps = l1 ++ l2 ∧ x = .int .i64 ((markPN k l1 : Nat) : Int) ∧ y = .int .i64 ((l1.length : Nat) : Int) ∧ Below w.heap.size w wr) (fun _ y _ => n - (intOf y).toNat)
  case atStart => exact ⟨[], ps, rfl, rfl, rfl, Below.refl _ _⟩
  case round =>
    obtain ⟨l1, l2, hs, rfl, rfl, hb⟩ := hrel
    have HS := Lib.hid hs; clear hs
    obtain ⟨i, hi'⟩ : ∃ i, l1.length = i := ⟨_, rfl⟩
    obtain ⟨q, hq⟩ : ∃ q, markPN k l1 = q := ⟨_, rfl⟩
    rw [hi', hq]
    have HLN : Hid (l1.length + l2.length = n) := Lib.hid (by have := HN.out; rw [List.length_map, markPs_len, HS.out, List.length_append] at this; exact this)
    cases l2 with
    | nil =>
      have e1 : ps = l1 := by have := HS.out; rwa [List.append_nil] at this
      have hin : i = n := by have := HLN.out; rw [hi'] at this; simpa using this
      have HQ := Lib.hid hq; have HI := Lib.hid hi'; have HE := Lib.hid e1
      clear hq hi' e1
      subst hin
      go_wp2
      go_ret; exact ⟨by rw [HE.out, HQ.out]; rfl, hb⟩
    | cons x l2 =>
      have hin : i < n := by have := HLN.out; rw [hi', List.length_cons] at this; omega
      obtain ⟨p, r', hA, hlo, hhi, hg, hE⟩ := (H.out.below PartE.stays hb (Nat.le_refl _)).at_ hin
      have hat : ((markPs k ps).map pAt)[i]? = some (pAt (markP q x)) := by
        rw [List.getElem?_map, HS.out, ← hi', markPs_at, hq]; rfl
      rw [hg] at hat
      injection hat with hat
      subst hat
      obtain ⟨A5, n5, c5, d1, d2, d3, d4, d5⟩ := hE.out
      clear hE hg
      obtain ⟨bv, hbv⟩ : ∃ bv, ((q : Int) % 3 == 0) = bv := ⟨_, rfl⟩
      have d1' : wr.cell? (p.add (i * 3)) = some (.bool bv) := by rw [mod3q hbv]; exact d1
      have d2' : wr.cell? ⟨(p.add (i * 3)).block, (p.add (i * 3)).off + 1, none⟩ = some (.string (markB (q + 1))) := d2
      have d4' : wr.cell? ⟨(p.add (i * 3)).block, (p.add (i * 3)).off + 2, none⟩ = some (.slice A5 n5 c5) := d4
      have d5' : IsTerms wr 0 w.heap.size A5 n5 c5 (markTs (q + 2) (rN x.2)) := d5
      have hn5 : rN x.2 = n5 := by have := d5'.1; rwa [markTs_len] at this
      clear d1 d2 d3 d4 d5
      have hb1 : q + 2 + 2 * rN x.2 ≤ 2 ^ 62 := by
        have e1 : markPN k ps = markPN (q + 2 + 2 * rN x.2) l2 := by rw [HS.out, markPN_app, hq]; rfl
        have := markPN_ge (q + 2 + 2 * rN x.2) l2
        omega
      rw [hn5] at d5' hb1
      have HN5 := Lib.hid hn5
      have HQ := Lib.hid hq; have HI := Lib.hid hi'
      clear hq hi' hn5
      subst hA
      have hpz : p.block < wr.heap.size := Nat.lt_of_lt_of_le hhi hb.size
      have x1 : wr.drew.cell? ⟨(p.add (i * 3)).block, (p.add (i * 3)).off + 1, none⟩ = some (.string (markB (q + 1))) := d2'
      have x2 : wr.drew.cell? ⟨(p.add (i * 3)).block, (p.add (i * 3)).off + 2, none⟩ = some (.slice A5 n5 c5) := d4'
      have HT := Lib.hid (show IsTerms wr.drew 0 wr.drew.heap.size A5 n5 c5 (markTs (q + 2) n5) from d5'.keep (fun _ _ _ => rfl) (Nat.le_refl _) hb.size)
      have hbd := hb.drew
      have hlt2 : (i : Int) < (n : Int) := by omega
      clear d2' d4' d5'
      go_wp2
      refine wp_region_held_drew (S := fun W => W.cell? ⟨(p.add (i * 3)).block, (p.add (i * 3)).off + 1, none⟩ = some (.string (markB (q + 1))) ∧ W.cell? ⟨(p.add (i * 3)).block, (p.add (i * 3)).off + 2, none⟩ = some (.slice A5 n5 c5)) (by kernel_rfl) ⟨x1, x2⟩ ?_
      intro hS_
      refine takeV (i := 0) (v := .slice (some p) n c) (by (simp only [List.getElem?_toArray, List.getElem?_cons_zero]); rfl) (by kernel_rfl) (by kernel_rfl) (by kernel_rfl) (by rfl) (fun _ _ _ h => h) (Or.inl ⟨by rfl, ?_⟩) hS_ (by (simp only [List.setIfInBounds_toArray, List.set_cons_succ, List.set_cons_zero]); rfl) ?_
      · intro w_ hSw_; (try dsimp only at hSw_); go_simp
      refine takeV (i := 1) (v := .int .i64 (i : Int)) (by (simp only [List.getElem?_toArray, List.getElem?_cons_succ, List.getElem?_cons_zero]); rfl) (by kernel_rfl) (by kernel_rfl) (by kernel_rfl) (by rfl) (fun _ _ _ h => h) (Or.inl ⟨by rfl, ?_⟩) hS_ (by (simp only [List.setIfInBounds_toArray, List.set_cons_succ, List.set_cons_zero]); rfl) ?_
      · intro w_ hSw_; (try dsimp only at hSw_); go_simp
      refine takeV (i := 2) (v := .pointer (some (p.add (i * 3)))) (by (simp only [List.getElem?_toArray, List.getElem?_cons_succ, List.getElem?_cons_zero]); rfl) (by kernel_rfl) (by kernel_rfl) (by kernel_rfl) (by rfl) (fun _ _ _ h => h) (Or.inl ⟨by rfl, ?_⟩) hS_ (by (simp only [List.setIfInBounds_toArray, List.set_cons_succ, List.set_cons_zero]); rfl) ?_
      · intro w_ hSw_; (try dsimp only at hSw_); go_simp
      refine takeV (i := 3) (v := .pointer (some ⟨(p.add (i * 3)).block, (p.add (i * 3)).off + 1, none⟩)) (by (simp only [List.getElem?_toArray, List.getElem?_cons_succ, List.getElem?_cons_zero]); rfl) (by kernel_rfl) (by kernel_rfl) (by kernel_rfl) (by rfl) (fun _ _ _ h => h) (Or.inl ⟨by rfl, ?_⟩) hS_ (by (simp only [List.setIfInBounds_toArray, List.set_cons_succ, List.set_cons_zero]); rfl) ?_
      · intro w_ hSw_; (try dsimp only at hSw_); go_simp
      refine takeV (i := 4) (v := .pointer (some ⟨(p.add (i * 3)).block, (p.add (i * 3)).off + 1, none⟩)) (by (simp only [List.getElem?_toArray, List.getElem?_cons_succ, List.getElem?_cons_zero]); rfl) (by kernel_rfl) (by kernel_rfl) (by kernel_rfl) (by rfl) (fun _ _ _ h => h) (Or.inl ⟨by rfl, ?_⟩) hS_ (by (simp only [List.setIfInBounds_toArray, List.set_cons_succ, List.set_cons_zero]); rfl) ?_
      · intro w_ hSw_; (try dsimp only at hSw_); go_simp
      refine takeV (i := 5) (v := .string (markB (q + 1))) (by (simp only [List.getElem?_toArray, List.getElem?_cons_succ, List.getElem?_cons_zero]); rfl) (by kernel_rfl) (by kernel_rfl) (by kernel_rfl) (by rfl) (fun _ _ _ h => h) (Or.inl ⟨by rfl, ?_⟩) hS_ (by (simp only [List.setIfInBounds_toArray, List.set_cons_succ, List.set_cons_zero]); rfl) ?_
      · intro w_ hSw_; (try dsimp only at hSw_); go_simp
      refine takeV (i := 6) (v := .int .i64 ((q : Int) + 1)) (by (simp only [List.getElem?_toArray, List.getElem?_cons_succ, List.getElem?_cons_zero]); rfl) (by kernel_rfl) (by kernel_rfl) (by kernel_rfl) (by rfl) (fun _ _ _ h => h) (Or.inl ⟨by rfl, ?_⟩) hS_ (by (simp only [List.setIfInBounds_toArray, List.set_cons_succ, List.set_cons_zero]); rfl) ?_
      · intro w_ hSw_; (try dsimp only at hSw_); go_simp
      refine wpAnyH_ready (rs := [7]) (by kernel_rfl) (by simp) ?_
      refine AllReadyH.cons (o := _) (by (simp only [List.getElem?_toArray, List.getElem?_cons_succ, List.getElem?_cons_zero]); rfl) (fun K_ hK_ => ?_) AllReadyH.nil
      rw [if_pos (by rfl)]
      go_simp
      go_at_call 77
      refine (markText_is _ (q + 1) (by omega) (by omega) _).mono ?_; rintro e w1 ⟨rfl, hb1'⟩
      have y1 := (hb1'.cell (p := ⟨(p.add (i * 3)).block, (p.add (i * 3)).off + 1, none⟩) (by rw [block_add]; exact hpz)).trans x1
      have y2 := (hb1'.cell (p := ⟨(p.add (i * 3)).block, (p.add (i * 3)).off + 2, none⟩) (by rw [block_add]; exact hpz)).trans x2
      refine hK_.out _ _ ⟨y1, y2⟩ (fun hS2_ => ?_)
      clear hK_ hS_
      have hS_ := hS2_; clear hS2_
      refine takeV (i := 8) (v := .bool false) (by (simp only [List.getElem?_toArray, List.getElem?_cons_succ, List.getElem?_cons_zero]); rfl) (by kernel_rfl) (by kernel_rfl) (by kernel_rfl) (by rfl) (fun _ _ _ h => h) (Or.inl ⟨by rfl, ?_⟩) hS_ (by (simp only [List.setIfInBounds_toArray, List.set_cons_succ, List.set_cons_zero]); rfl) ?_
      · intro w_ hSw_; (try dsimp only at hSw_); go_simp
      refine wpAnyH_done (by kernel_rfl) ?_ _
      go_wp2_with fail
      refine (heldTermS_is A5 n5 c5 (q + 2) _ _ (by omega) (HT.out.up hb1') hb1).mono ?_; rintro e w2 ⟨rfl, hb2'⟩
      clear y1 y2 x1 x2
      have hnn : ¬ (((q + 2 + 2 * n5 : Nat) : Int) < 0) := by omega
      go_wp2
      go_roundw
      case rel => exact ⟨l1 ++ [x], l2, by rw [HS.out, List.append_assoc]; rfl, by rw [markPN_snoc, HQ.out, HN5.out]; go_num, by rw [List.length_append, HI.out]; go_num, belowThen hbd (belowThen hb1' hb2')⟩
      case measure => simp [intOf]; omega

theorem markPN_small {n c lo hi : Nat} {w : World} {A : Option Addr} {ps : List Pf} {xs : List Pt} (h : OwnParts w lo hi A n c ps) (hx : ps.map pAt = xs) (hs : SmallParts n xs) (k : Nat) (hk : k ≤ 2 ^ 50) : markPN k ps ≤ 2 ^ 62 := by
  have h1 := markPN_le 1048576 k ps (fun r hr => by
    have h2 := hs.2 (pAt r) (by rw [← hx]; exact List.mem_map_of_mem hr)
    have h3 := (h.2.2.2.2.1 r.2 (List.mem_map_of_mem hr)).2.1.1
    show r.2.2.2.1 ≤ _
    rw [← h3]; exact h2)
  have h4 := h.1
  have h5 := hs.1
  have h6 : ps.length * (2 + 2 * 1048576) ≤ 1048576 * (2 + 2 * 1048576) := Nat.mul_le_mul_right _ (by omega)
  omega

end Go.Proofs.YtahkkelahocplaaDoor

namespace Go.Proofs.YtahkkelahocplaaDoor
open Go.RowKit

/-- A copy of a list of parts. -/
def CopyPPost (xs : List Pt) (w : World) (e : Ending) (w' : World) : Prop :=
  ∃ A c ps, e = .returned (.slice A xs.length c) ∧ OwnParts w' w.heap.size w'.heap.size A xs.length c ps ∧ ps.map pAt = xs ∧ Below w.heap.size w w'

theorem srcOneP (W : World) (g : Nat) (t : TypeId) (x y z : Value) (h : Blk W g t #[x, y, z]) : SrcZ 3 W (some ⟨g, 0, none⟩) 1 [x, y, z] := by
  refine ⟨rfl, fun ad hA j u hu => ?_, fun hA => by cases hA⟩
  injection hA with hA
  subst hA
  have a0 : ∀ j, (⟨g, 0, none⟩ : Addr).add j = ⟨g, j, none⟩ := fun j => by unfold Addr.add; split <;> simp_all
  rw [a0, h.cell]
  simpa using hu

/-- One more in a copy. -/
theorem copyP_more {w wr w1 w2 w3 : World} {k n' d base : Nat} {v v' : Value} {ps : List Pf} {xs : List Pt} {q : Pt} {A' : Option Addr} (hl : ps.length = k) (hm : ps.map pAt = xs.take k) (hq : xs[k]? = some q)
    (ho : OwnIn wr base wr.heap.size (ps.map Prod.snd)) (hbr : base ≤ wr.heap.size) (hbw : w.heap.size ≤ base) (hb1 : Below wr.heap.size wr w1) (hB1 : Below w.heap.size w w1) (hs : q.2.1.size ≤ maxLen)
    (hT : IsTerms w1 wr.heap.size w1.heap.size A' n' d q.2.2) (hR : 0 < n' → RowAt w1 wr.heap.size w1.heap.size 62 A' (n' * 2))
    (h12 : Below w1.heap.size w1 w2) (hrow : w2.ownsRow base 86 3 v k (pcells ps)) (hown : w3.ownsRow base 86 3 v' (k + 1) (pcells ps ++ [.bool q.1, .string q.2.1, .slice A' n' d])) (hgrow : w2.grownBy w3 v.ownBlock) :
    ∃ ps' : List Pf, ps'.length = k + 1 ∧ ps'.map pAt = xs.take (k + 1) ∧ w3.ownsRow base 86 3 v' (k + 1) (pcells ps') ∧ OwnIn w3 base w3.heap.size (ps'.map Prod.snd) ∧ Below w.heap.size w w3 := by
  have hsz : w1.heap.size ≤ w2.heap.size := h12.size
  refine ⟨ps ++ [(q.1, q.2.1, A', n', d, q.2.2)], by rw [List.length_append, hl]; rfl, ?_, ?_, ?_, ?_⟩
  · rw [List.map_append, hm, List.take_add_one, hq]; rfl
  · rw [pcells_snoc]; exact hown
  · have h1 := ho.snoc (w' := w1) (hi' := w1.heap.size) (r := (q.2.1, A', n', d, q.2.2)) (fun b _ h2 => hb1.block b h2) hb1.size hs hbr hT hR
    have h2 := h1.keep (w' := w2) (fun b _ h => h12.block b h) (Nat.le_refl _) (Nat.le_refl _)
    have h3 := h2.appendedP hrow hgrow (Nat.le_trans hsz hgrow.size)
    rw [List.map_append]; exact h3
  · exact (belowThen hB1 h12).grown hgrow (Nat.le_trans hB1.size hsz) (fun j ej => by
      rcases hrow.2 with ⟨rfl, _⟩ | ⟨g', cap', cur, rfl, hbg, _, _⟩
      · simp [Value.ownBlock] at ej
      · obtain rfl : g' = j := by simpa [Value.ownBlock] using ej
        omega)

theorem own_ne' {b : Nat} {v : Value} (hb : ∀ g, v.ownBlock = some g → b ≠ g) : some b ≠ v.ownBlock := by
  intro h'
  exact hb b h'.symm rfl


end Go.Proofs.YtahkkelahocplaaDoor

namespace Go.Proofs.YtahkkelahocplaaDoor
open Go.RowKit

/-- A rule by value: its head, where its body lies, its parts. -/
abbrev Rr := Rf × Option Addr × Nat × Nat × List Pf
def rRl (r : Rr) : Rl := (rAt r.1, r.2.2.2.2.map pAt)

def rrcells (rs : List Rr) : List Value := rs.flatMap fun r => [.string r.1.1, .slice r.1.2.1 r.1.2.2.1 r.1.2.2.2.1, .slice r.2.1 r.2.2.1 r.2.2.2.1]

theorem rrcells_len : ∀ rs : List Rr, (rrcells rs).length = rs.length * 3
  | [] => rfl
  | p :: ps => by
    have h := rrcells_len ps
    unfold rrcells at h ⊢
    rw [List.flatMap_cons, List.length_append, h, List.length_cons]
    simp only [List.length_cons, List.length_nil]; omega

theorem rrcells_snoc (rs : List Rr) (r : Rr) : rrcells (rs ++ [r]) = rrcells rs ++ [.string r.1.1, .slice r.1.2.1 r.1.2.2.1 r.1.2.2.2.1, .slice r.2.1 r.2.2.1 r.2.2.2.1] := by
  unfold rrcells; rw [List.flatMap_append, List.flatMap_singleton]

theorem rrcells_at : ∀ {rs : List Rr} {i : Nat} {r : Rr}, rs[i]? = some r → (rrcells rs)[i * 3]? = some (.string r.1.1) ∧ (rrcells rs)[i * 3 + 1]? = some (.slice r.1.2.1 r.1.2.2.1 r.1.2.2.2.1) ∧ (rrcells rs)[i * 3 + 2]? = some (.slice r.2.1 r.2.2.1 r.2.2.2.1)
  | [], i, p, h => by simp at h
  | q :: ps, 0, p, h => by
    simp at h; subst h
    exact ⟨rfl, rfl, rfl⟩
  | q :: ps, i + 1, p, h => by
    obtain ⟨a, b, c⟩ := rrcells_at (rs := ps) (i := i) (r := p) (by simpa using h)
    have e : rrcells (q :: ps) = .string q.1.1 :: .slice q.1.2.1 q.1.2.2.1 q.1.2.2.2.1 :: .slice q.2.1 q.2.2.1 q.2.2.2.1 :: rrcells ps := rfl
    rw [e, show (i + 1) * 3 = i * 3 + 1 + 1 + 1 by omega]
    exact ⟨by simpa using a, by simpa using b, by simpa using c⟩

/-- A head whose terms lie in a row of their own. -/
def HeadApart (w : World) (lo hi : Nat) (r : Rf) : Prop := r.1.size ≤ maxLen ∧ IsTerms w lo hi r.2.1 r.2.2.1 r.2.2.2.1 r.2.2.2.2 ∧ (0 < rN r → RowAt w lo hi 62 (rA r) (rN r * 2))

/-- A rule whose head and body lie apart. -/
def RuleApart (w : World) (lo hi : Nat) (r : Rr) : Prop :=
  ∃ a b c d, lo ≤ a ∧ a ≤ b ∧ b ≤ hi ∧ lo ≤ c ∧ c ≤ d ∧ d ≤ hi ∧ (b ≤ c ∨ d ≤ a) ∧ HeadApart w a b r.1 ∧ OwnParts w c d r.2.1 r.2.2.1 r.2.2.2.1 r.2.2.2.2

/-- Rules that lie one behind the other. -/
def RulesIn (w : World) (lo hi : Nat) : List Rr → Prop
  | [] => lo ≤ hi
  | r :: rs => ∃ m, lo ≤ m ∧ m ≤ hi ∧ RuleApart w lo m r ∧ RulesIn w m hi rs

/-- A list of rules in memory of its own. -/
def RulesApart (w : World) (lo hi : Nat) (A : Option Addr) (n c : Nat) (rs : List Rr) : Prop :=
  rs.length = n ∧ n ≤ c ∧ c ≤ maxLen ∧
  (0 < n → ∃ g k f, A = some ⟨g, 0, none⟩ ∧ lo ≤ g ∧ g < hi ∧ w.rowIs g 38 k f ∧ n * 3 ≤ k ∧ ∀ j u, (rrcells rs)[j]? = some u → f j = u) ∧
  RulesIn w lo hi rs

section
variable {w w' : World} {lo hi lo' hi' n c m : Nat} {t : TypeId} {A : Option Addr} {rs : List Rr} {r : Rr}

theorem HeadApart.keep {r : Rf} (h : HeadApart w lo hi r) (hk : ∀ b, lo ≤ b → b < hi → w'.heap[b]? = w.heap[b]?) (h1 : lo' ≤ lo) (h2 : hi ≤ hi') : HeadApart w' lo' hi' r :=
  ⟨h.1, h.2.1.keep (cellKeep hk) h1 h2, fun h0 => (h.2.2 h0).keep hk h1 h2⟩

theorem RuleApart.keep (h : RuleApart w lo hi r) (hk : ∀ b, lo ≤ b → b < hi → w'.heap[b]? = w.heap[b]?) (h1 : lo' ≤ lo) (h2 : hi ≤ hi') : RuleApart w' lo' hi' r := by
  obtain ⟨a, b, c, d, e1, e2, e3, e4, e5, e6, e7, e8, e9⟩ := h
  exact ⟨a, b, c, d, by omega, e2, by omega, by omega, e5, by omega, e7, e8.keep (fun x h1 h2 => hk x (by omega) (by omega)) (Nat.le_refl _) (Nat.le_refl _), e9.keep (fun x h1 h2 => hk x (by omega) (by omega)) (Nat.le_refl _) (Nat.le_refl _)⟩

theorem RulesIn.le : ∀ {rs : List Rr} {lo : Nat}, RulesIn w lo hi rs → lo ≤ hi
  | [], _, h => h
  | _ :: _, _, ⟨_, h1, h2, _⟩ => Nat.le_trans h1 h2

theorem RulesIn.keep : ∀ {rs : List Rr} {lo : Nat}, RulesIn w lo hi rs → (∀ b, lo ≤ b → b < hi → w'.heap[b]? = w.heap[b]?) → RulesIn w' lo hi rs
  | [], _, h, _ => h
  | _ :: _, _, ⟨m, h1, h2, h3, h4⟩, hk => ⟨m, h1, h2, h3.keep (fun b x y => hk b x (by omega)) (Nat.le_refl _) (Nat.le_refl _), RulesIn.keep h4 (fun b x y => hk b (by omega) y)⟩

/-- One more, behind all. -/
theorem RulesIn.snoc : ∀ {rs : List Rr} {lo : Nat}, RulesIn w lo hi rs → RuleApart w hi hi' r → hi ≤ hi' → RulesIn w lo hi' (rs ++ [r])
  | [], _, h, hr, hh => ⟨hi', Nat.le_trans h hh, Nat.le_refl _, hr.keep (fun _ _ _ => rfl) h (Nat.le_refl _), Nat.le_refl _⟩
  | _ :: _, _, ⟨m, h1, h2, h3, h4⟩, hr, hh => ⟨m, h1, Nat.le_trans h2 hh, h3, RulesIn.snoc h4 hr hh⟩

theorem RulesIn.wide : ∀ {rs : List Rr} {lo : Nat}, RulesIn w lo hi rs → hi ≤ hi' → RulesIn w lo hi' rs
  | [], _, h, hh => Nat.le_trans h hh
  | _ :: _, _, ⟨m, h1, h2, h3, h4⟩, hh => ⟨m, h1, Nat.le_trans h2 hh, h3, RulesIn.wide h4 hh⟩

/-- Where one block alone has turned, which is no row of terms or parts. -/
theorem OwnParts.far {g : Nat} {ps : List Pf} (h : OwnParts w lo hi A n c ps) (hk : ∀ b, b < w.heap.size → b ≠ g → w'.heap[b]? = w.heap[b]?) (hT : ∀ k f, ¬ w.rowIs g 62 k f) (hP : ∀ k f, ¬ w.rowIs g 86 k f) : OwnParts w' lo hi A n c ps := by
  obtain ⟨a, b, d, e, f⟩ := h
  refine ⟨a, b, d, fun hn => ?_, ⟨fun q hq => termsFar hk (f.1 q hq) (fun h0 e => ?_), f.2⟩⟩
  · obtain ⟨g', k, f', e1, e2, e3, e4, e5⟩ := e hn
    exact ⟨g', k, f', e1, e2, e3, e4.of_block (hk g' e4.lt (fun e => hP _ _ (e ▸ e4))), e5⟩
  · obtain ⟨g2, k2, f2, x1, _, _, x4, _⟩ := (f.1 q hq).2.2 h0
    rw [e] at x1
    injection x1 with x1
    injection x1 with x1
    subst x1
    exact hT _ _ x4

theorem HeadApart.far {g : Nat} {r : Rf} (h : HeadApart w lo hi r) (hk : ∀ b, b < w.heap.size → b ≠ g → w'.heap[b]? = w.heap[b]?) (hT : ∀ k f, ¬ w.rowIs g 62 k f) : HeadApart w' lo hi r :=
  termsFar hk h (fun h0 e => by
    obtain ⟨g2, k2, f2, x1, _, _, x4, _⟩ := h.2.2 h0
    rw [e] at x1
    injection x1 with x1
    injection x1 with x1
    subst x1
    exact hT _ _ x4)

theorem RuleApart.far {g : Nat} (h : RuleApart w lo hi r) (hk : ∀ b, b < w.heap.size → b ≠ g → w'.heap[b]? = w.heap[b]?) (hT : ∀ k f, ¬ w.rowIs g 62 k f) (hP : ∀ k f, ¬ w.rowIs g 86 k f) : RuleApart w' lo hi r := by
  obtain ⟨a, b, c, d, e1, e2, e3, e4, e5, e6, e7, e8, e9⟩ := h
  exact ⟨a, b, c, d, e1, e2, e3, e4, e5, e6, e7, e8.far hk hT, e9.far hk hT hP⟩

theorem RulesIn.far {g : Nat} : ∀ {rs : List Rr} {lo : Nat}, RulesIn w lo hi rs → (∀ b, b < w.heap.size → b ≠ g → w'.heap[b]? = w.heap[b]?) → (∀ k f, ¬ w.rowIs g 62 k f) → (∀ k f, ¬ w.rowIs g 86 k f) → RulesIn w' lo hi rs
  | [], _, h, _, _, _ => h
  | _ :: _, _, ⟨m, h1, h2, h3, h4⟩, hk, hT, hP => ⟨m, h1, h2, h3.far hk hT hP, RulesIn.far h4 hk hT hP⟩

/-- A row of rules is none of terms or parts. -/
theorem no_row {g k : Nat} {f : Nat → Value} {t t' : TypeId} (h : w.rowIs g t k f) (hne : t ≠ t') : ∀ k' f', ¬ w.rowIs g t' k' f' := fun _ _ h' => hne (typed_apart h h')

/-- Rules stay where a row of rules is appended to. -/
theorem RulesIn.appended {base k : Nat} {v : Value} {cs : List Value} (h : RulesIn w lo hi rs) (hrow : w.ownsRow base 38 3 v k cs) (hg : w.grownBy w' v.ownBlock) : RulesIn w' lo hi rs := by
  rcases hrow.2 with ⟨rfl, _⟩ | ⟨g, cap, cur, rfl, _, hgb, _⟩
  · refine h.far (g := w.heap.size) (fun b hb _ => hg.block b hb (by simp [Value.ownBlock])) (fun k f hr => ?_) (fun k f hr => ?_) <;> exact absurd hr.lt (Nat.lt_irrefl _)
  · refine h.far (g := g) (fun b hb hne => hg.block b hb (by simp [Value.ownBlock]; exact hne)) (fun k f hr => ?_) (fun k f hr => ?_)
    · obtain ⟨cs, y1, _⟩ := hr
      rw [hgb] at y1
      injection y1 with y1
      injection y1 with _ y1
      exact absurd y1 (by decide)
    · obtain ⟨cs, y1, _⟩ := hr
      rw [hgb] at y1
      injection y1 with y1
      injection y1 with _ y1
      exact absurd y1 (by decide)

theorem RulesIn.each : ∀ {rs : List Rr} {lo : Nat}, RulesIn w lo hi rs → ∀ r ∈ rs, ∃ a b, lo ≤ a ∧ b ≤ hi ∧ RuleApart w a b r
  | [], _, _, r, hr => by simp at hr
  | q :: qs, lo, ⟨m, h1, h2, h3, h4⟩, r, hr => by
    rcases List.mem_cons.1 hr with rfl | hr
    · exact ⟨lo, m, Nat.le_refl _, h2, h3⟩
    · obtain ⟨a, b, e1, e2, e3⟩ := RulesIn.each h4 r hr
      exact ⟨a, b, by omega, e2, e3⟩

/-- What it reads as. -/
theorem RulesApart.rules (h : RulesApart w lo hi A n c rs) : IsRules w lo hi A n c (rs.map rRl) := by
  obtain ⟨a, b, d, e, f⟩ := h
  refine ⟨by simpa using a, b, d, fun hn => ?_⟩
  obtain ⟨g, k, f', e1, e2, e3, e4, e5, e6⟩ := e hn
  refine ⟨_, e1, e2, e3, fun i q hq => ?_⟩
  rw [List.getElem?_map] at hq
  obtain ⟨r, hr, rfl⟩ := Option.map_eq_some_iff.1 hq
  have hi := (List.getElem?_eq_some_iff.1 hr).1
  have a0 : ∀ j, (⟨g, 0, none⟩ : Addr).add j = ⟨g, j, none⟩ := fun j => by unfold Addr.add; split <;> simp_all
  obtain ⟨c1, c2, c3⟩ := rrcells_at hr
  obtain ⟨x, y, z1, z2, a, b, c, d, z3, z4, z5, z6, z7, z8, z9, z10, z11⟩ := f.each r (List.mem_of_getElem? hr)
  rw [a0]
  have x0 : w.cell? ⟨g, i * 3, none⟩ = some (.string r.1.1) := by rw [e4.cell (by omega), e6 _ _ c1]
  have x1 : w.cell? ⟨g, i * 3 + 1, none⟩ = some (.slice r.1.2.1 r.1.2.2.1 r.1.2.2.2.1) := by rw [e4.cell (by omega), e6 _ _ c2]
  have x2 : w.cell? ⟨g, i * 3 + 2, none⟩ = some (.slice r.2.1 r.2.2.1 r.2.2.2.1) := by rw [e4.cell (by omega), e6 _ _ c3]
  exact ⟨x0, z10.1, ⟨_, _, _, x1, z10.2.1.keep (fun _ _ _ => rfl) (by omega) (by omega)⟩, ⟨_, _, _, x2, z11.parts.keep PartE.stays (fun _ _ _ => rfl) (by omega) (by omega)⟩⟩

/-- A row that was grown by appending, and what its rules lead on to. -/
theorem RulesApart.of_row {base : Nat} {v : Value} (h : w.ownsRow base 38 3 v n (rrcells rs)) (hn : n = rs.length) (hb : lo ≤ base) (hr : RulesIn w lo hi rs) (hh : hi ≤ w.heap.size) :
    ∃ A c, v = .slice A n c ∧ RulesApart w lo w.heap.size A n c rs := by
  subst hn
  rcases h.2 with ⟨rfl, h0⟩ | ⟨g, cap, cur, rfl, hbg, hgb, hle, hcap, hsz, htk⟩
  · exact ⟨none, 0, by rw [h0], rfl, by omega, by unfold maxLen; omega, fun hp => absurd hp (by omega), hr.wide hh⟩
  · have hlt := (Array.getElem?_eq_some_iff.1 hgb).1
    refine ⟨_, cap, rfl, rfl, hle, hcap, fun _ => ⟨g, cap * 3, fun i => cur[i]?.getD undef, rfl, by omega, hlt, ⟨cur, hgb, hsz, fun i hi => by simp [hsz ▸ hi]⟩, Nat.mul_le_mul_right _ hle, fun j u hu => ?_⟩, hr.wide hh⟩
    have hj := (List.getElem?_eq_some_iff.1 hu).1
    rw [rrcells_len] at hj
    rw [← htk, List.getElem?_take, if_pos (by omega)] at hu
    have : cur[j]? = some u := by simpa using hu
    simp [this]

/-- One more in a copy of rules. -/
theorem copyR_more {w wr w1 w2 w3 : World} {k : Nat} {v v' : Value} {rs : List Rr} {xs : List Rl} {r : Rr} {q : Rl} (hl : rs.length = k) (hm : rs.map rRl = xs.take k) (hq : xs[k]? = some q) (hrq : rRl r = q)
    (ho : RulesIn wr w.heap.size wr.heap.size rs) (hb1 : Below wr.heap.size wr w1) (hB1 : Below w.heap.size w w1) (hR : RuleApart w1 wr.heap.size w1.heap.size r)
    (h12 : Below w1.heap.size w1 w2) (hrow : w2.ownsRow w.heap.size 38 3 v k (rrcells rs)) (hown : w3.ownsRow w.heap.size 38 3 v' (k + 1) (rrcells rs ++ [.string r.1.1, .slice r.1.2.1 r.1.2.2.1 r.1.2.2.2.1, .slice r.2.1 r.2.2.1 r.2.2.2.1])) (hgrow : w2.grownBy w3 v.ownBlock) :
    ∃ rs' : List Rr, rs'.length = k + 1 ∧ rs'.map rRl = xs.take (k + 1) ∧ w3.ownsRow w.heap.size 38 3 v' (k + 1) (rrcells rs') ∧ RulesIn w3 w.heap.size w3.heap.size rs' ∧ Below w.heap.size w w3 := by
  have hsz : w1.heap.size ≤ w2.heap.size := h12.size
  refine ⟨rs ++ [r], by rw [List.length_append, hl]; rfl, ?_, ?_, ?_, ?_⟩
  · rw [List.map_append, hm, List.take_add_one, hq, ← hrq]; rfl
  · rw [rrcells_snoc]; exact hown
  · have h1 := (ho.keep (w' := w1) (fun b _ h2 => hb1.block b h2)).snoc hR hb1.size
    have h2 := h1.keep (w' := w2) (fun b _ h => h12.block b h)
    exact (h2.appended hrow hgrow).wide (Nat.le_trans hsz hgrow.size)
  · exact (belowThen hB1 h12).grown hgrow (Nat.le_trans hB1.size hsz) (fun j ej => by
      rcases hrow.2 with ⟨rfl, _⟩ | ⟨g', cap', cur, rfl, hbg, _, _⟩
      · simp [Value.ownBlock] at ej
      · obtain rfl : g' = j := by simpa [Value.ownBlock] using ej
        omega)
end

theorem Tryd.infoRuleR : (Tryd.prog.info? 38).map (fun i => (i.zero, i.size, i.bytes)) = some (some (.agg #[.string ByteArray.empty, .slice none 0 0, .slice none 0 0]), 3, 64) := by kernel_rfl

theorem rule_here {w : World} {hi n c : Nat} {A : Option Addr} {rs : List Rl} (h : IsRules w 0 hi A n c rs) {i : Nat} (hn : i < n) :
    ∃ p r A' n' c' B m d, A = some p ∧ p.block < hi ∧ rs[i]? = some r ∧ w.cell? (p.add (i * 3)) = some (.string r.1.1) ∧ r.1.1.size ≤ maxLen ∧ w.cell? ⟨(p.add (i * 3)).block, (p.add (i * 3)).off + 1, none⟩ = some (.slice A' n' c') ∧ IsTerms w 0 hi A' n' c' r.1.2 ∧
      w.cell? ⟨(p.add (i * 3)).block, (p.add (i * 3)).off + 2, none⟩ = some (.slice B m d) ∧ IsParts w 0 hi B m d r.2 := by
  obtain ⟨p, r, hA, _, hh, hg, d1, d2, ⟨A', n', c', d3, d4⟩, ⟨B, m, d, d5, d6⟩⟩ := h.at_ hn
  exact ⟨p, r, A', n', c', B, m, d, hA, hh, hg, d1, d2, d3, d4, d5, d6⟩

end Go.Proofs.YtahkkelahocplaaDoor

namespace Go.Proofs.YtahkkelahocplaaDoor
open Go.RowKit

/-- A head whose terms are marked. -/
def markHd (k : Nat) (r : Rf) : Rf := (r.1, r.2.1, r.2.2.1, r.2.2.2.1, markTs k (rN r))

theorem markTermS_head (lo hi : Nat) (r : Rf) (k : Nat) (w : World) (h : HeadApart w lo hi r) (hk : k + 2 * rN r ≤ 2 ^ 62) :
    Calls Tryd.prog 55 #[.slice r.2.1 r.2.2.1 r.2.2.2.1, .int .i64 (k : Int)] w fun e w' => e = .returned (.int .i64 ((k + 2 * rN r : Nat) : Int)) ∧ HeadApart w' lo hi (markHd k r) ∧ Within lo hi w w' ∧ Rest w w' := by
  obtain ⟨y1, y2, y3⟩ := h
  by_cases h0 : 0 < rN r
  · obtain ⟨g, m, f, e1, e2, e3, e4, e5⟩ := y3 h0
    have e1' : r.2.1 = some ⟨g, 0, none⟩ := e1
    rw [e1']
    refine (markTermS_any g m r.2.2.1 r.2.2.2.1 k f w e4 e5 hk).mono ?_
    rintro e w' ⟨rfl, ⟨f', r1, r2⟩, hg⟩
    have hT : IsTerms w' lo hi (some ⟨g, 0, none⟩) r.2.2.1 r.2.2.2.1 (markTs k (rN r)) := marked_terms r1 e5 r2 hk y2.2.1 y2.2.2.1 e2 e3
    exact ⟨rfl, ⟨y1, by show IsTerms w' lo hi r.2.1 _ _ _; rw [e1']; exact hT, fun _ => ⟨g, m, f', e1, e2, e3, r1, e5⟩⟩, Within.row hg e2 e3, Rest.row e4 (.inl rfl) hg⟩
  · have hn : r.2.2.1 = 0 := by unfold rN at h0; omega
    have hn' : rN r = 0 := hn
    have ht : r.2.2.2.2 = [] := List.eq_nil_of_length_eq_zero (by have := y2.1; omega)
    rw [hn]
    refine (markTermS_none r.2.1 r.2.2.2.1 k w).mono ?_
    rintro e w' ⟨rfl, rfl⟩
    refine ⟨by rw [hn']; rfl, ?_, Within.refl, Rest.refl _⟩
    have e : markHd k r = r := by
      unfold markHd
      rw [hn']
      obtain ⟨a, b, c, d, t⟩ := r
      simp only at ht ⊢
      subst ht
      rfl
    rw [e]; exact ⟨y1, y2, y3⟩

end Go.Proofs.YtahkkelahocplaaDoor

namespace Go.Proofs.YtahkkelahocplaaDoor
open Go.RowKit

/-- A copy of a list of rules. -/
def CopyRPost (xs : List Rl) (w : World) (e : Ending) (w' : World) : Prop :=
  ∃ A c rs, e = .returned (.slice A xs.length c) ∧ RulesApart w' w.heap.size w'.heap.size A xs.length c rs ∧ rs.map rRl = xs ∧ Below w.heap.size w w'

/-- What the walk keeps of the body that is copied. -/
structure BodyOn (b : Nat) (nm : ByteArray) (A2 : Option Addr) (n' d2 : Nat) (qs : List Pt) (w1 : World) (j : Nat) (Bv : Option Addr) (bv : Nat) (ps : List Pf) (W : World) : Prop where
  box : Blk W b 38 #[.string nm, .slice A2 n' d2, .slice Bv j bv]
  row : W.ownsRow (b + 1) 86 3 (.slice Bv j bv) j (pcells ps)
  len : ps.length = j
  eq : ps.map pAt = qs.take j
  own : OwnIn W (b + 1) W.heap.size (ps.map Prod.snd)
  below : Below w1.heap.size w1 W
  size : b + 1 ≤ W.heap.size


end Go.Proofs.YtahkkelahocplaaDoor

