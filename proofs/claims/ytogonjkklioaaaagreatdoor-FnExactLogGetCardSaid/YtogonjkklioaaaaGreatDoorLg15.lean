/-
  Texts of one claim, put together.
-/
import Derived.Test.YtogonjkklioaaaaGreatDoorLg13
import Derived.Test.YtogonjkklioaaaaGreatDoorLg11
import Derived.Test.YtogonjkklioaaaaGreatDoorLg2
import Derived.Test.YtogonjkklioaaaaGreatDoorLg12
import Derived.Test.YtogonjkklioaaaaGreatDoorLg4
import Derived.Test.YtogonjkklioaaaaGreatDoorLg14
namespace Go.Proofs.YtogonjkklioaaaaGreatDoor
open Go.RowKit

/-- A part by value: its Not, and its atom. -/
abbrev Pf := Bool × Rf
def pAt (p : Pf) : Pt := (p.1, rAt p.2)

def pcells (ps : List Pf) : List Value := ps.flatMap fun p => [.bool p.1, .string p.2.1, .slice p.2.2.1 p.2.2.2.1 p.2.2.2.2.1]

theorem pcells_len : ∀ ps : List Pf, (pcells ps).length = ps.length * 3
  | [] => rfl
  | p :: ps => by
    have h := pcells_len ps
    unfold pcells at h ⊢
    rw [List.flatMap_cons, List.length_append, h, List.length_cons]
    simp only [List.length_cons, List.length_nil]; omega

theorem pcells_snoc (ps : List Pf) (p : Pf) : pcells (ps ++ [p]) = pcells ps ++ [.bool p.1, .string p.2.1, .slice p.2.2.1 p.2.2.2.1 p.2.2.2.2.1] := by
  unfold pcells; rw [List.flatMap_append, List.flatMap_singleton]

theorem pcells_at : ∀ {ps : List Pf} {i : Nat} {p : Pf}, ps[i]? = some p → (pcells ps)[i * 3]? = some (.bool p.1) ∧ (pcells ps)[i * 3 + 1]? = some (.string p.2.1) ∧ (pcells ps)[i * 3 + 2]? = some (.slice p.2.2.1 p.2.2.2.1 p.2.2.2.2.1)
  | [], i, p, h => by simp at h
  | q :: ps, 0, p, h => by
    simp at h; subst h
    exact ⟨rfl, rfl, rfl⟩
  | q :: ps, i + 1, p, h => by
    obtain ⟨a, b, c⟩ := pcells_at (ps := ps) (i := i) (p := p) (by simpa using h)
    have e : pcells (q :: ps) = .bool q.1 :: .string q.2.1 :: .slice q.2.2.1 q.2.2.2.1 q.2.2.2.2.1 :: pcells ps := rfl
    rw [e, show (i + 1) * 3 = i * 3 + 1 + 1 + 1 by omega]
    exact ⟨by simpa using a, by simpa using b, by simpa using c⟩

theorem pcells_one (ps : List Pf) : ∀ u ∈ pcells ps, u.oneCell' = true := by
  intro u hu
  obtain ⟨p, _, hp⟩ := List.mem_flatMap.1 hu
  simp at hp
  rcases hp with rfl | rfl | rfl <;> rfl

/-- A list of parts in memory of its own. -/
def OwnParts (w : World) (lo hi : Nat) (A : Option Addr) (n c : Nat) (ps : List Pf) : Prop :=
  ps.length = n ∧ n ≤ c ∧ c ≤ maxLen ∧
  (0 < n → ∃ g k f, A = some ⟨g, 0, none⟩ ∧ lo ≤ g ∧ g < hi ∧ w.rowIs g 171 k f ∧ n * 3 ≤ k ∧ ∀ j u, (pcells ps)[j]? = some u → f j = u) ∧
  OwnIn w lo hi (ps.map Prod.snd)

section
variable {w w' : World} {lo hi lo' hi' n c m : Nat} {t : TypeId} {A : Option Addr} {rs : List Rf} {r : Rf} {ps : List Pf} {p : Pf}

theorem OwnParts.keep (h : OwnParts w lo hi A n c ps) (hk : ∀ b, lo ≤ b → b < hi → w'.heap[b]? = w.heap[b]?) (h1 : lo' ≤ lo) (h2 : hi ≤ hi') : OwnParts w' lo' hi' A n c ps := by
  obtain ⟨a, b, d, e, f⟩ := h
  refine ⟨a, b, d, fun hn => ?_, f.keep hk h1 h2⟩
  obtain ⟨g, k, f, e1, e2, e3, e4, e5⟩ := e hn
  exact ⟨g, k, f, e1, by omega, by omega, e4.of_block (hk g e2 e3), e5⟩

theorem OwnParts.below {B : Nat} (h : OwnParts w lo hi A n c ps) (hb : Below B w w') (hh : hi ≤ B) : OwnParts w' lo hi A n c ps :=
  h.keep (fun b _ hb' => hb.block b (by omega)) (Nat.le_refl _) (Nat.le_refl _)

/-- What it reads as. -/
theorem OwnParts.parts (h : OwnParts w lo hi A n c ps) : IsParts w lo hi A n c (ps.map pAt) := by
  obtain ⟨a, b, d, e, f⟩ := h
  refine ⟨by simpa using a, b, d, fun hn => ?_⟩
  obtain ⟨g, k, f', e1, e2, e3, e4, e5, e6⟩ := e hn
  refine ⟨_, e1, e2, e3, fun i q hq => ?_⟩
  rw [List.getElem?_map] at hq
  obtain ⟨p, hp, rfl⟩ := Option.map_eq_some_iff.1 hq
  have hi := (List.getElem?_eq_some_iff.1 hp).1
  have a0 : ∀ j, (⟨g, 0, none⟩ : Addr).add j = ⟨g, j, none⟩ := fun j => by unfold Addr.add; split <;> simp_all
  obtain ⟨c1, c2, c3⟩ := pcells_at hp
  obtain ⟨d1, d2, _⟩ := f.1 p.2 (List.mem_map_of_mem (List.mem_of_getElem? hp))
  rw [a0]
  have x0 : w.cell? ⟨g, i * 3, none⟩ = some (.bool p.1) := by rw [e4.cell (by omega), e6 _ _ c1]
  have x1 : w.cell? ⟨g, i * 3 + 1, none⟩ = some (.string p.2.1) := by rw [e4.cell (by omega), e6 _ _ c2]
  have x2 : w.cell? ⟨g, i * 3 + 2, none⟩ = some (.slice p.2.2.1 p.2.2.2.1 p.2.2.2.2.1) := by rw [e4.cell (by omega), e6 _ _ c3]
  exact ⟨x0, x1, d1, _, _, _, x2, d2⟩

/-- Where one block alone has turned, which is no row of terms. -/
theorem OwnIn.named {l1 l2 : List Rf} {g : Nat} (f : OwnIn w lo hi (l1 ++ r :: l2)) (hk : ∀ b, b < w.heap.size → b ≠ g → w'.heap[b]? = w.heap[b]?) (hne : ∀ q ∈ l1 ++ r :: l2, 0 < rN q → rA q ≠ some ⟨g, 0, none⟩) (s : ByteArray) (hs : s.size ≤ maxLen) :
    OwnIn w' lo hi (l1 ++ (s, r.2) :: l2) := by
  have hp := f.2
  rw [List.pairwise_append, List.pairwise_cons] at hp
  refine ⟨fun q hq => ?_, ?_⟩
  · rcases List.mem_append.1 hq with hq | hq
    · exact termsFar hk (f.1 q (List.mem_append_left _ hq)) (hne q (List.mem_append_left _ hq))
    · rcases List.mem_cons.1 hq with rfl | hq
      · exact ⟨hs, (termsFar hk (f.1 r (by simp)) (hne r (by simp))).2⟩
      · exact termsFar hk (f.1 q (by simp [hq])) (hne q (by simp [hq]))
  · rw [List.pairwise_append, List.pairwise_cons]
    refine ⟨hp.1, ⟨fun q hq => hp.2.1.1 q hq, hp.2.1.2⟩, fun q hq q' hq' => ?_⟩
    rcases List.mem_cons.1 hq' with rfl | hq'
    · exact hp.2.2 q hq r (by simp)
    · exact hp.2.2 q hq q' (by simp [hq'])

/-- One row of terms has turned. -/
theorem OwnIn.turned {l1 l2 : List Rf} {g : Nat} (f : OwnIn w lo hi (l1 ++ r :: l2)) (hg : rA r = some ⟨g, 0, none⟩) (h0 : 0 < rN r) (hk : ∀ b, b < w.heap.size → b ≠ g → w'.heap[b]? = w.heap[b]?) (ts' : List Tm)
    (hT : IsTerms w' lo hi r.2.1 r.2.2.1 r.2.2.2.1 ts') (hR : RowAt w' lo hi 110 (rA r) (rN r * 2)) : OwnIn w' lo hi (l1 ++ (r.1, r.2.1, r.2.2.1, r.2.2.2.1, ts') :: l2) := by
  have hp := f.2
  rw [List.pairwise_append, List.pairwise_cons] at hp
  have hne : ∀ q, q ∈ l1 ∨ q ∈ l2 → 0 < rN q → rA q ≠ some ⟨g, 0, none⟩ := by
    intro q hq h1 e1
    rcases hq with hq | hq
    · exact hp.2.2 q hq r (by simp) h1 h0 (by rw [e1, hg])
    · exact hp.2.1.1 q hq h0 h1 (by rw [e1, hg])
  refine ⟨fun q hq => ?_, ?_⟩
  · rcases List.mem_append.1 hq with hq | hq
    · exact termsFar hk (f.1 q (List.mem_append_left _ hq)) (hne q (.inl hq))
    · rcases List.mem_cons.1 hq with rfl | hq
      · exact ⟨(f.1 r (by simp)).1, hT, fun _ => hR⟩
      · exact termsFar hk (f.1 q (by simp [hq])) (hne q (.inr hq))
  · rw [List.pairwise_append, List.pairwise_cons]
    refine ⟨hp.1, ⟨fun q hq => hp.2.1.1 q hq, hp.2.1.2⟩, fun q hq q' hq' => ?_⟩
    rcases List.mem_cons.1 hq' with rfl | hq'
    · exact hp.2.2 q hq r (by simp)
    · exact hp.2.2 q hq q' (by simp [hq'])

theorem typed_apart {g k k' : Nat} {t t' : TypeId} {f f' : Nat → Value} (h : w.rowIs g t k f) (h' : w.rowIs g t' k' f') : t = t' := by
  obtain ⟨cs, y1, _⟩ := h
  obtain ⟨cs', z1, _⟩ := h'
  rw [y1] at z1
  injection z1 with z1
  injection z1 with _ z1

/-- No terms lie in the row of parts. -/
theorem OwnIn.notRow {g k : Nat} {f : Nat → Value} (h : OwnIn w lo hi rs) (hr : w.rowIs g 171 k f) : ∀ q ∈ rs, 0 < rN q → rA q ≠ some ⟨g, 0, none⟩ := by
  intro q hq h0 e
  obtain ⟨g2, k2, f2, x1, _, _, x4, _⟩ := (h.1 q hq).2.2 h0
  rw [e] at x1
  injection x1 with x1
  injection x1 with x1
  subst x1
  exact absurd (typed_apart x4 hr) (by decide)

theorem map_place {l1 l2 : List Pf} : (l1 ++ p :: l2).map Prod.snd = l1.map Prod.snd ++ p.2 :: l2.map Prod.snd := by simp

/-- Cells of a row of parts where one part is another one. -/
theorem pcells_turn {l1 l2 : List Pf} {p p' : Pf} {f : Nat → Value} (e6 : ∀ j u, (pcells (l1 ++ p :: l2))[j]? = some u → f j = u) (d : Nat) (v : Value) (hd : d < 3)
    (hv : ∀ j, j < 3 → j ≠ d → [Value.bool p'.1, .string p'.2.1, .slice p'.2.2.1 p'.2.2.2.1 p'.2.2.2.2.1][j]? = [Value.bool p.1, .string p.2.1, .slice p.2.2.1 p.2.2.2.1 p.2.2.2.2.1][j]?) (hv' : [Value.bool p'.1, .string p'.2.1, .slice p'.2.2.1 p'.2.2.2.1 p'.2.2.2.2.1][d]? = some v) :
    ∀ j u, (pcells (l1 ++ p' :: l2))[j]? = some u → (if j = l1.length * 3 + d then v else f j) = u := by
  intro j u hu
  have hl : (pcells l1).length = l1.length * 3 := pcells_len l1
  have ea : ∀ x : Pf, pcells (l1 ++ x :: l2) = pcells l1 ++ ([.bool x.1, .string x.2.1, .slice x.2.2.1 x.2.2.2.1 x.2.2.2.2.1] ++ pcells l2) := fun x => by unfold pcells; simp [List.flatMap_append]
  rw [ea] at hu e6
  by_cases hj : j = l1.length * 3 + d
  · rw [if_pos hj]
    rw [List.getElem?_append_right (by omega), hl, hj, Nat.add_sub_cancel_left, List.getElem?_append_left (by simpa using hd), hv'] at hu
    injection hu
  · rw [if_neg hj]
    refine e6 j u ?_
    by_cases hlt : j < l1.length * 3
    · rw [List.getElem?_append_left (by omega)] at hu ⊢; exact hu
    · rw [List.getElem?_append_right (by omega), hl] at hu ⊢
      by_cases h3 : j - l1.length * 3 < 3
      · rw [List.getElem?_append_left (by simpa using h3)] at hu ⊢
        rw [← hv _ h3 (by omega)]; exact hu
      · rw [List.getElem?_append_right (by simpa using Nat.le_of_not_lt h3)] at hu ⊢; exact hu

/-- The part at a place gets another Not. -/
theorem OwnParts.not_ {l1 l2 : List Pf} (h : OwnParts w lo hi A n c (l1 ++ p :: l2)) {g : Nat} (hA : A = some ⟨g, 0, none⟩) (b : Bool) :
    OwnParts (w.setCell ⟨g, l1.length * 3, none⟩ (.bool b)) lo hi A n c (l1 ++ (b, p.2) :: l2) := by
  obtain ⟨a, b', d, e, f⟩ := h
  have hn : 0 < n := by rw [← a]; simp; omega
  obtain ⟨g', k, f', e1, e2, e3, e4, e5, e6⟩ := e hn
  rw [hA] at e1
  injection e1 with e1
  injection e1 with e1
  subst e1
  have hne := f.notRow e4
  refine ⟨by simpa using a, b', d, fun _ => ⟨g, k, _, hA, e2, e3, e4.set _ _, e5, ?_⟩, ?_⟩
  · exact pcells_turn e6 (p' := (b, p.2)) 0 (.bool b) (by omega) (fun j h1 h2 => by
      match j, h1, h2 with
      | 1, _, _ => rfl
      | 2, _, _ => rfl) rfl
  · rw [map_place] at f hne ⊢
    exact f.named (fun x _ hx => Below.heap_setCell _ _ _ x hx) hne p.2.1 (f.1 p.2 (by simp)).1

/-- The part at a place gets another name. -/
theorem OwnParts.name {l1 l2 : List Pf} (h : OwnParts w lo hi A n c (l1 ++ p :: l2)) {g : Nat} (hA : A = some ⟨g, 0, none⟩) (s : ByteArray) (hs : s.size ≤ maxLen) :
    OwnParts (w.setCell ⟨g, l1.length * 3 + 1, none⟩ (.string s)) lo hi A n c (l1 ++ (p.1, s, p.2.2) :: l2) := by
  obtain ⟨a, b', d, e, f⟩ := h
  have hn : 0 < n := by rw [← a]; simp; omega
  obtain ⟨g', k, f', e1, e2, e3, e4, e5, e6⟩ := e hn
  rw [hA] at e1
  injection e1 with e1
  injection e1 with e1
  subst e1
  have hne := f.notRow e4
  refine ⟨by simpa using a, b', d, fun _ => ⟨g, k, _, hA, e2, e3, e4.set _ _, e5, ?_⟩, ?_⟩
  · exact pcells_turn e6 (p' := (p.1, s, p.2.2)) 1 (.string s) (by omega) (fun j h1 h2 => by
      match j, h1, h2 with
      | 0, _, _ => rfl
      | 2, _, _ => rfl) rfl
  · rw [map_place] at f hne ⊢
    exact f.named (fun x _ hx => Below.heap_setCell _ _ _ x hx) hne s hs

/-- The part at a place gets other terms, in the same row. -/
theorem OwnParts.terms {l1 l2 : List Pf} (h : OwnParts w lo hi A n c (l1 ++ p :: l2)) {g : Nat} (hg : rA p.2 = some ⟨g, 0, none⟩) (h0 : 0 < rN p.2) (hk : ∀ b, b < w.heap.size → b ≠ g → w'.heap[b]? = w.heap[b]?) (ts' : List Tm)
    (hT : IsTerms w' lo hi p.2.2.1 p.2.2.2.1 p.2.2.2.2.1 ts') (hR : RowAt w' lo hi 110 (rA p.2) (rN p.2 * 2)) :
    OwnParts w' lo hi A n c (l1 ++ (p.1, p.2.1, p.2.2.1, p.2.2.2.1, p.2.2.2.2.1, ts') :: l2) := by
  obtain ⟨a, b, d, e, f⟩ := h
  have hf : OwnIn w lo hi (l1.map Prod.snd ++ p.2 :: l2.map Prod.snd) := by rw [← map_place]; exact f
  obtain ⟨g2, k2, f2, x1, _, _, x4, _⟩ := (hf.1 p.2 (by simp)).2.2 h0
  rw [hg] at x1
  injection x1 with x1
  injection x1 with x1
  subst x1
  refine ⟨by simpa using a, b, d, fun hn => ?_, by rw [map_place]; exact hf.turned hg h0 hk ts' hT hR⟩
  obtain ⟨g', k, f', e1, e2, e3, e4, e5, e6⟩ := e hn
  have hne' : g' ≠ g := by
    intro e'
    subst e'
    exact absurd (typed_apart x4 e4) (by decide)
  refine ⟨g', k, f', e1, e2, e3, e4.of_block (hk g' e4.lt hne'), e5, fun j u hu => e6 j u ?_⟩
  rw [← hu]
  congr 1
  unfold pcells
  simp [List.flatMap_append]

/-- A row that was grown by appending, and what its parts lead on to. -/
theorem OwnParts.of_row {base : Nat} {v : Value} (h : w.ownsRow base 171 3 v n (pcells ps)) (hn : n = ps.length) (hb : lo ≤ base) (hr : OwnIn w lo hi (ps.map Prod.snd)) (hh : hi ≤ w.heap.size) :
    ∃ A c, v = .slice A n c ∧ OwnParts w lo w.heap.size A n c ps := by
  subst hn
  rcases h.2 with ⟨rfl, h0⟩ | ⟨g, cap, cur, rfl, hbg, hgb, hle, hcap, hsz, htk⟩
  · exact ⟨none, 0, by rw [h0], rfl, by omega, by unfold maxLen; omega, fun hp => absurd hp (by omega), hr.keep (fun _ _ _ => rfl) (Nat.le_refl _) hh⟩
  · have hlt := (Array.getElem?_eq_some_iff.1 hgb).1
    refine ⟨_, cap, rfl, rfl, hle, hcap, fun _ => ⟨g, cap * 3, fun i => cur[i]?.getD undef, rfl, by omega, hlt, ⟨cur, hgb, hsz, fun i hi => by simp [hsz ▸ hi]⟩, Nat.mul_le_mul_right _ hle, fun j u hu => ?_⟩, hr.keep (fun _ _ _ => rfl) (Nat.le_refl _) hh⟩
    have hj := (List.getElem?_eq_some_iff.1 hu).1
    rw [pcells_len] at hj
    rw [← htk, List.getElem?_take, if_pos (by omega)] at hu
    have : cur[j]? = some u := by simpa using hu
    simp [this]

/-- What terms lie in stays where a row of parts is appended to. -/
theorem OwnIn.appendedP {base k : Nat} {v : Value} {cs : List Value} (h : OwnIn w lo hi rs) (hrow : w.ownsRow base 171 3 v k cs) (hg : w.grownBy w' v.ownBlock) (hh : hi ≤ hi') : OwnIn w' lo hi' rs := by
  have hw : OwnIn w' lo hi rs := by
    rcases hrow.2 with ⟨rfl, _⟩ | ⟨g, cap, cur, rfl, _, hgb, _⟩
    · refine ⟨fun q hq => termsFar (g := w.heap.size) (fun b hb _ => hg.block b hb (by simp [Value.ownBlock])) (h.1 q hq) (fun h0 e => ?_), h.2⟩
      obtain ⟨g2, _, _, x1, _, _, x4, _⟩ := (h.1 q hq).2.2 h0
      rw [e] at x1
      injection x1 with x1
      injection x1 with x1
      have := x4.lt
      omega
    · refine ⟨fun q hq => termsFar (g := g) (fun b hb hne => hg.block b hb (by simp [Value.ownBlock]; exact hne)) (h.1 q hq) (fun h0 e => ?_), h.2⟩
      obtain ⟨g2, _, _, x1, _, _, x4, _⟩ := (h.1 q hq).2.2 h0
      rw [e] at x1
      injection x1 with x1
      injection x1 with x1
      subst x1
      obtain ⟨c2, y1, _⟩ := x4
      rw [hgb] at y1
      injection y1 with y1
      injection y1 with _ y1
      exact absurd y1 (by decide)
  exact hw.keep (fun _ _ _ => rfl) (Nat.le_refl _) hh
end

theorem three_new (W : World) (x y z : Value) (t : TypeId) : ∀ j u, [x, y, z][j]? = some u → (W.alloc (.cells #[x, y, z] t)).cell? ((⟨W.heap.size, 0, none⟩ : Addr).add j) = some u := by
  intro j u hu
  match j, hu with
  | 0, hu => simp at hu; subst hu; simp [go_sem, Addr.add]
  | 1, hu => simp at hu; subst hu; simp [go_sem, Addr.add]
  | 2, hu => simp at hu; subst hu; simp [go_sem, Addr.add]

theorem row_away {W : World} {base size k : Nat} {e : TypeId} {v : Value} {xs : List Value} (h : W.ownsRow base e size v k xs) {g i : Nat} (hp : some g ≠ v.ownBlock) (u : Value) : (W.setCell ⟨g, i, none⟩ u).ownsRow base e size v k xs :=
  h.kept (grownSet W g i u) (.inr hp.symm)

end Go.Proofs.YtogonjkklioaaaaGreatDoor

namespace Go.Proofs.YtogonjkklioaaaaGreatDoor
open Go.RowKit

/-- A marked part, from k on. -/
def markP (k : Nat) (p : Pf) : Pf := (decide (k % 3 = 0), markB (k + 1), p.2.2.1, p.2.2.2.1, p.2.2.2.2.1, markTs (k + 2) (rN p.2))
/-- The number behind marked parts. -/
def markPN (k : Nat) : List Pf → Nat
  | [] => k
  | p :: ps => markPN (k + 2 + 2 * rN p.2) ps
def markPs (k : Nat) : List Pf → List Pf
  | [] => []
  | p :: ps => markP k p :: markPs (k + 2 + 2 * rN p.2) ps

theorem markPN_snoc : ∀ (k : Nat) (l : List Pf) (p : Pf), markPN k (l ++ [p]) = markPN k l + 2 + 2 * rN p.2
  | _, [], _ => rfl
  | k, q :: l, p => markPN_snoc (k + 2 + 2 * rN q.2) l p

theorem markPN_app : ∀ (k : Nat) (l l' : List Pf), markPN k (l ++ l') = markPN (markPN k l) l'
  | _, [], _ => rfl
  | k, q :: l, l' => markPN_app (k + 2 + 2 * rN q.2) l l'

theorem markPN_ge : ∀ (k : Nat) (l : List Pf), k ≤ markPN k l
  | _, [] => Nat.le_refl _
  | k, q :: l => Nat.le_trans (by omega) (markPN_ge (k + 2 + 2 * rN q.2) l)

theorem markPN_le (M : Nat) : ∀ (k : Nat) (l : List Pf), (∀ p ∈ l, rN p.2 ≤ M) → markPN k l ≤ k + l.length * (2 + 2 * M)
  | _, [], _ => by simp [markPN]
  | k, q :: l, h => by
    have h1 := markPN_le M (k + 2 + 2 * rN q.2) l (fun r hr => h r (by simp [hr]))
    have h2 := h q (by simp)
    rw [List.length_cons, Nat.add_mul]
    show markPN (k + 2 + 2 * rN q.2) l ≤ _
    omega

theorem markPs_snoc : ∀ (k : Nat) (l : List Pf) (p : Pf), markPs k (l ++ [p]) = markPs k l ++ [markP (markPN k l) p]
  | _, [], _ => rfl
  | k, q :: l, p => by
    show markP k q :: markPs (k + 2 + 2 * rN q.2) (l ++ [p]) = _
    rw [markPs_snoc (k + 2 + 2 * rN q.2) l p]; rfl

theorem markPs_len : ∀ (k : Nat) (l : List Pf), (markPs k l).length = l.length
  | _, [] => rfl
  | k, q :: l => by
    show (markPs (k + 2 + 2 * rN q.2) l).length + 1 = _
    rw [markPs_len, List.length_cons]

theorem markPs_at : ∀ (k : Nat) (l1 : List Pf) (p : Pf) (l2 : List Pf), (markPs k (l1 ++ p :: l2))[l1.length]? = some (markP (markPN k l1) p)
  | _, [], _, _ => rfl
  | k, q :: l, p, l2 => by
    show (markP k q :: markPs (k + 2 + 2 * rN q.2) (l ++ p :: l2))[l.length + 1]? = _
    rw [List.getElem?_cons_succ, markPs_at]; rfl

/-- What an owned list has at a place. -/
theorem OwnParts.place {w : World} {lo hi n c : Nat} {A : Option Addr} {l1 l2 : List Pf} {p : Pf} (h : OwnParts w lo hi A n c (l1 ++ p :: l2)) :
    ∃ g, A = some ⟨g, 0, none⟩ ∧ lo ≤ g ∧ g < hi ∧ g < w.heap.size ∧ l1.length < n ∧ w.cell? ⟨g, l1.length * 3, none⟩ = some (.bool p.1) ∧ w.cell? ⟨g, l1.length * 3 + 1, none⟩ = some (.string p.2.1) ∧ w.cell? ⟨g, l1.length * 3 + 2, none⟩ = some (.slice p.2.2.1 p.2.2.2.1 p.2.2.2.2.1) ∧ w.frozen? ⟨g, l1.length * 3, none⟩ = false ∧ w.frozen? ⟨g, l1.length * 3 + 1, none⟩ = false := by
  obtain ⟨a, b, d, e, f⟩ := h
  have hl : l1.length < n := by rw [← a]; simp
  obtain ⟨g, k, f', e1, e2, e3, e4, e5, e6⟩ := e (by omega)
  have ha : (l1 ++ p :: l2)[l1.length]? = some p := by simp
  obtain ⟨c1, c2, c3⟩ := pcells_at ha
  exact ⟨g, e1, e2, e3, e4.lt, hl, by rw [e4.cell (by omega), e6 _ _ c1], by rw [e4.cell (by omega), e6 _ _ c2], by rw [e4.cell (by omega), e6 _ _ c3], e4.frozen _, e4.frozen _⟩

/-- Rows of other things than terms and parts are as they were. -/
def Rest (w w' : World) : Prop := ∀ b T k f, T ≠ 110 → T ≠ 171 → w.rowIs b T k f → w'.rowIs b T k f

theorem Rest.refl (w : World) : Rest w w := fun _ _ _ _ _ _ h => h
theorem Rest.trans {w w' w'' : World} (h : Rest w w') (k : Rest w' w'') : Rest w w'' := fun b T m f h1 h2 h3 => k b T m f h1 h2 (h b T m f h1 h2 h3)
theorem Rest.of {w w' : World} (h : Below w.heap.size w w') : Rest w w' := fun b _ _ _ _ _ h3 => h3.of_block (h.block b h3.lt)
theorem Rest.row {w w' : World} {g m T : Nat} {f : Nat → Value} (hr : w.rowIs g T m f) (hT : T = 110 ∨ T = 171) (hg : w.grownBy w' (some g)) : Rest w w' := by
  intro b T' k f' h1 h2 h3
  by_cases e : b = g
  · subst e
    have := typed_apart hr h3
    subst this
    rcases hT with rfl | rfl
    · exact absurd rfl h1
    · exact absurd rfl h2
  · exact h3.of_block (hg.block b h3.lt (fun e' => e (by injection e')))

theorem OwnParts.isRow {w : World} {lo hi n c : Nat} {l1 l2 : List Pf} {p : Pf} {g : Nat} (h : OwnParts w lo hi (some ⟨g, 0, none⟩) n c (l1 ++ p :: l2)) : ∃ k f, w.rowIs g 171 k f := by
  obtain ⟨a, b, d, e, f⟩ := h
  obtain ⟨g', k, f', e1, e2, e3, e4, e5, e6⟩ := e (by rw [← a]; simp; omega)
  injection e1 with e1
  injection e1 with e1
  subst e1
  exact ⟨k, f', e4⟩

theorem markTermS_part (lo hi : Nat) (A : Option Addr) (n c : Nat) (l1 l2 : List Pf) (p : Pf) (k : Nat) (w : World) (z : Int) (hz : z = ((k + 2 : Nat) : Int)) (b : Bool) (hbk : b = decide (k % 3 = 0)) (h : OwnParts w lo hi A n c (l1 ++ (b, markB (k + 1), p.2.2) :: l2)) (hk : k + 2 + 2 * rN p.2 ≤ 2 ^ 62) :
    Calls Tryz.prog 78 #[.slice p.2.2.1 p.2.2.2.1 p.2.2.2.2.1, .int .i64 z] w fun e w' => e = .returned (.int .i64 ((k + 2 + 2 * rN p.2 : Nat) : Int)) ∧ OwnParts w' lo hi A n c (l1 ++ markP k p :: l2) ∧ Within lo hi w w' ∧ Rest w w' := by
  subst hz
  subst hbk
  have hf := h.2.2.2.2
  rw [map_place] at hf
  obtain ⟨y1, y2, y3⟩ := hf.1 (markB (k + 1), p.2.2) (by simp)
  by_cases h0 : 0 < rN p.2
  · obtain ⟨g, m, f, e1, e2, e3, e4, e5⟩ := y3 h0
    have e1' : p.2.2.1 = some ⟨g, 0, none⟩ := e1
    rw [e1']
    refine (markTermS_any g m p.2.2.2.1 p.2.2.2.2.1 (k + 2) f w e4 e5 hk).mono ?_
    rintro e w' ⟨rfl, ⟨f', r1, r2⟩, hg⟩
    have hT : IsTerms w' lo hi (some ⟨g, 0, none⟩) p.2.2.2.1 p.2.2.2.2.1 (markTs (k + 2) (rN p.2)) := marked_terms r1 e5 r2 hk y2.2.1 y2.2.2.1 e2 e3
    refine ⟨rfl, ?_, Within.row hg e2 e3, Rest.row e4 (.inl rfl) hg⟩
    have := OwnParts.terms (p := (decide (k % 3 = 0), markB (k + 1), p.2.2)) h (g := g) e1 h0 (fun b hb hne => hg.block b hb (fun e => hne (by injection e))) (markTs (k + 2) (rN p.2)) (by show IsTerms w' lo hi p.2.2.1 _ _ _; rw [e1']; exact hT) ⟨g, m, f', e1, e2, e3, r1, e5⟩
    exact this
  · have hn : p.2.2.2.1 = 0 := by unfold rN at h0; omega
    have hn' : rN p.2 = 0 := hn
    have ht : p.2.2.2.2.2 = [] := List.eq_nil_of_length_eq_zero (by have := y2.1; simp only at this; omega)
    rw [hn]
    refine (markTermS_none p.2.2.1 p.2.2.2.2.1 (k + 2) w).mono ?_
    rintro e w' ⟨rfl, rfl⟩
    refine ⟨by rw [hn'], ?_, Within.refl, Rest.refl _⟩
    have e : markP k p = (decide (k % 3 = 0), markB (k + 1), p.2.2) := by
      unfold markP
      rw [hn']
      obtain ⟨x, a, b, c, d, t⟩ := p
      simp only at ht ⊢
      subst ht
      rfl
    rw [e]; exact h

def MarkPPost (lo hi : Nat) (A : Option Addr) (n c k : Nat) (ps : List Pf) (w : World) (e : Ending) (w' : World) : Prop :=
  e = .returned (.int .i64 ((markPN k ps : Nat) : Int)) ∧ OwnParts w' lo hi A n c (markPs k ps) ∧ Within lo hi w w' ∧ Rest w w'


end Go.Proofs.YtogonjkklioaaaaGreatDoor

namespace Go.Proofs.YtogonjkklioaaaaGreatDoor
open Go.RowKit


theorem markPN_small {n c lo hi : Nat} {w : World} {A : Option Addr} {ps : List Pf} {xs : List Pt} (h : OwnParts w lo hi A n c ps) (hx : ps.map pAt = xs) (hs : SmallParts n xs) (k : Nat) (hk : k ≤ 2 ^ 50) : markPN k ps ≤ 2 ^ 62 := by
  have h1 := markPN_le 1048576 k ps (fun r hr => by
    have h2 := hs.2 (pAt r) (by rw [← hx]; exact List.mem_map_of_mem hr)
    have h3 := (h.2.2.2.2.1 r.2 (List.mem_map_of_mem hr)).2.1.1
    show r.2.2.2.1 ≤ _
    rw [← h3]; exact h2)
  have h4 := h.1
  have h5 := hs.1
  have h6 : ps.length * (2 + 2 * 1048576) ≤ 1048576 * (2 + 2 * 1048576) := Nat.mul_le_mul_right _ (by omega)
  omega

end Go.Proofs.YtogonjkklioaaaaGreatDoor

namespace Go.Proofs.YtogonjkklioaaaaGreatDoor
open Go.RowKit

/-- A copy of a list of parts. -/
def CopyPPost (xs : List Pt) (w : World) (e : Ending) (w' : World) : Prop :=
  ∃ A c ps, e = .returned (.slice A xs.length c) ∧ OwnParts w' w.heap.size w'.heap.size A xs.length c ps ∧ ps.map pAt = xs ∧ Below w.heap.size w w'

theorem srcOneP (W : World) (g : Nat) (t : TypeId) (x y z : Value) (h : Blk W g t #[x, y, z]) : SrcZ 3 W (some ⟨g, 0, none⟩) 1 [x, y, z] := by
  refine ⟨rfl, fun ad hA j u hu => ?_, fun hA => by cases hA⟩
  injection hA with hA
  subst hA
  have a0 : ∀ j, (⟨g, 0, none⟩ : Addr).add j = ⟨g, j, none⟩ := fun j => by unfold Addr.add; split <;> simp_all
  rw [a0, h.cell]
  simpa using hu

/-- One more in a copy. -/
theorem copyP_more {w wr w1 w2 w3 : World} {k n' d base : Nat} {v v' : Value} {ps : List Pf} {xs : List Pt} {q : Pt} {A' : Option Addr} (hl : ps.length = k) (hm : ps.map pAt = xs.take k) (hq : xs[k]? = some q)
    (ho : OwnIn wr base wr.heap.size (ps.map Prod.snd)) (hbr : base ≤ wr.heap.size) (hbw : w.heap.size ≤ base) (hb1 : Below wr.heap.size wr w1) (hB1 : Below w.heap.size w w1) (hs : q.2.1.size ≤ maxLen)
    (hT : IsTerms w1 wr.heap.size w1.heap.size A' n' d q.2.2) (hR : 0 < n' → RowAt w1 wr.heap.size w1.heap.size 110 A' (n' * 2))
    (h12 : Below w1.heap.size w1 w2) (hrow : w2.ownsRow base 171 3 v k (pcells ps)) (hown : w3.ownsRow base 171 3 v' (k + 1) (pcells ps ++ [.bool q.1, .string q.2.1, .slice A' n' d])) (hgrow : w2.grownBy w3 v.ownBlock) :
    ∃ ps' : List Pf, ps'.length = k + 1 ∧ ps'.map pAt = xs.take (k + 1) ∧ w3.ownsRow base 171 3 v' (k + 1) (pcells ps') ∧ OwnIn w3 base w3.heap.size (ps'.map Prod.snd) ∧ Below w.heap.size w w3 := by
  have hsz : w1.heap.size ≤ w2.heap.size := h12.size
  refine ⟨ps ++ [(q.1, q.2.1, A', n', d, q.2.2)], by rw [List.length_append, hl]; rfl, ?_, ?_, ?_, ?_⟩
  · rw [List.map_append, hm, List.take_add_one, hq]; rfl
  · rw [pcells_snoc]; exact hown
  · have h1 := ho.snoc (w' := w1) (hi' := w1.heap.size) (r := (q.2.1, A', n', d, q.2.2)) (fun b _ h2 => hb1.block b h2) hb1.size hs hbr hT hR
    have h2 := h1.keep (w' := w2) (fun b _ h => h12.block b h) (Nat.le_refl _) (Nat.le_refl _)
    have h3 := h2.appendedP hrow hgrow (Nat.le_trans hsz hgrow.size)
    rw [List.map_append]; exact h3
  · exact (belowThen hB1 h12).grown hgrow (Nat.le_trans hB1.size hsz) (fun j ej => by
      rcases hrow.2 with ⟨rfl, _⟩ | ⟨g', cap', cur, rfl, hbg, _, _⟩
      · simp [Value.ownBlock] at ej
      · obtain rfl : g' = j := by simpa [Value.ownBlock] using ej
        omega)

theorem own_ne' {b : Nat} {v : Value} (hb : ∀ g, v.ownBlock = some g → b ≠ g) : some b ≠ v.ownBlock := by
  intro h'
  exact hb b h'.symm rfl


end Go.Proofs.YtogonjkklioaaaaGreatDoor

namespace Go.Proofs.YtogonjkklioaaaaGreatDoor
open Go.RowKit

/-- A rule by value: its head, where its body lies, its parts. -/
abbrev Rr := Rf × Option Addr × Nat × Nat × List Pf
def rRl (r : Rr) : Rl := (rAt r.1, r.2.2.2.2.map pAt)

def rrcells (rs : List Rr) : List Value := rs.flatMap fun r => [.string r.1.1, .slice r.1.2.1 r.1.2.2.1 r.1.2.2.2.1, .slice r.2.1 r.2.2.1 r.2.2.2.1]

theorem rrcells_len : ∀ rs : List Rr, (rrcells rs).length = rs.length * 3
  | [] => rfl
  | p :: ps => by
    have h := rrcells_len ps
    unfold rrcells at h ⊢
    rw [List.flatMap_cons, List.length_append, h, List.length_cons]
    simp only [List.length_cons, List.length_nil]; omega

theorem rrcells_snoc (rs : List Rr) (r : Rr) : rrcells (rs ++ [r]) = rrcells rs ++ [.string r.1.1, .slice r.1.2.1 r.1.2.2.1 r.1.2.2.2.1, .slice r.2.1 r.2.2.1 r.2.2.2.1] := by
  unfold rrcells; rw [List.flatMap_append, List.flatMap_singleton]

theorem rrcells_at : ∀ {rs : List Rr} {i : Nat} {r : Rr}, rs[i]? = some r → (rrcells rs)[i * 3]? = some (.string r.1.1) ∧ (rrcells rs)[i * 3 + 1]? = some (.slice r.1.2.1 r.1.2.2.1 r.1.2.2.2.1) ∧ (rrcells rs)[i * 3 + 2]? = some (.slice r.2.1 r.2.2.1 r.2.2.2.1)
  | [], i, p, h => by simp at h
  | q :: ps, 0, p, h => by
    simp at h; subst h
    exact ⟨rfl, rfl, rfl⟩
  | q :: ps, i + 1, p, h => by
    obtain ⟨a, b, c⟩ := rrcells_at (rs := ps) (i := i) (r := p) (by simpa using h)
    have e : rrcells (q :: ps) = .string q.1.1 :: .slice q.1.2.1 q.1.2.2.1 q.1.2.2.2.1 :: .slice q.2.1 q.2.2.1 q.2.2.2.1 :: rrcells ps := rfl
    rw [e, show (i + 1) * 3 = i * 3 + 1 + 1 + 1 by omega]
    exact ⟨by simpa using a, by simpa using b, by simpa using c⟩

/-- A head whose terms lie in a row of their own. -/
def HeadApart (w : World) (lo hi : Nat) (r : Rf) : Prop := r.1.size ≤ maxLen ∧ IsTerms w lo hi r.2.1 r.2.2.1 r.2.2.2.1 r.2.2.2.2 ∧ (0 < rN r → RowAt w lo hi 110 (rA r) (rN r * 2))

/-- A rule whose head and body lie apart. -/
def RuleApart (w : World) (lo hi : Nat) (r : Rr) : Prop :=
  ∃ a b c d, lo ≤ a ∧ a ≤ b ∧ b ≤ hi ∧ lo ≤ c ∧ c ≤ d ∧ d ≤ hi ∧ (b ≤ c ∨ d ≤ a) ∧ HeadApart w a b r.1 ∧ OwnParts w c d r.2.1 r.2.2.1 r.2.2.2.1 r.2.2.2.2

/-- Rules that lie one behind the other. -/
def RulesIn (w : World) (lo hi : Nat) : List Rr → Prop
  | [] => lo ≤ hi
  | r :: rs => ∃ m, lo ≤ m ∧ m ≤ hi ∧ RuleApart w lo m r ∧ RulesIn w m hi rs

/-- A list of rules in memory of its own. -/
def RulesApart (w : World) (lo hi : Nat) (A : Option Addr) (n c : Nat) (rs : List Rr) : Prop :=
  rs.length = n ∧ n ≤ c ∧ c ≤ maxLen ∧
  (0 < n → ∃ g k f, A = some ⟨g, 0, none⟩ ∧ lo ≤ g ∧ g < hi ∧ w.rowIs g 174 k f ∧ n * 3 ≤ k ∧ ∀ j u, (rrcells rs)[j]? = some u → f j = u) ∧
  RulesIn w lo hi rs

section
variable {w w' : World} {lo hi lo' hi' n c m : Nat} {t : TypeId} {A : Option Addr} {rs : List Rr} {r : Rr}

theorem HeadApart.keep {r : Rf} (h : HeadApart w lo hi r) (hk : ∀ b, lo ≤ b → b < hi → w'.heap[b]? = w.heap[b]?) (h1 : lo' ≤ lo) (h2 : hi ≤ hi') : HeadApart w' lo' hi' r :=
  ⟨h.1, h.2.1.keep (cellKeep hk) h1 h2, fun h0 => (h.2.2 h0).keep hk h1 h2⟩

theorem RuleApart.keep (h : RuleApart w lo hi r) (hk : ∀ b, lo ≤ b → b < hi → w'.heap[b]? = w.heap[b]?) (h1 : lo' ≤ lo) (h2 : hi ≤ hi') : RuleApart w' lo' hi' r := by
  obtain ⟨a, b, c, d, e1, e2, e3, e4, e5, e6, e7, e8, e9⟩ := h
  exact ⟨a, b, c, d, by omega, e2, by omega, by omega, e5, by omega, e7, e8.keep (fun x h1 h2 => hk x (by omega) (by omega)) (Nat.le_refl _) (Nat.le_refl _), e9.keep (fun x h1 h2 => hk x (by omega) (by omega)) (Nat.le_refl _) (Nat.le_refl _)⟩

theorem RulesIn.le : ∀ {rs : List Rr} {lo : Nat}, RulesIn w lo hi rs → lo ≤ hi
  | [], _, h => h
  | _ :: _, _, ⟨_, h1, h2, _⟩ => Nat.le_trans h1 h2

theorem RulesIn.keep : ∀ {rs : List Rr} {lo : Nat}, RulesIn w lo hi rs → (∀ b, lo ≤ b → b < hi → w'.heap[b]? = w.heap[b]?) → RulesIn w' lo hi rs
  | [], _, h, _ => h
  | _ :: _, _, ⟨m, h1, h2, h3, h4⟩, hk => ⟨m, h1, h2, h3.keep (fun b x y => hk b x (by omega)) (Nat.le_refl _) (Nat.le_refl _), RulesIn.keep h4 (fun b x y => hk b (by omega) y)⟩

/-- One more, behind all. -/
theorem RulesIn.snoc : ∀ {rs : List Rr} {lo : Nat}, RulesIn w lo hi rs → RuleApart w hi hi' r → hi ≤ hi' → RulesIn w lo hi' (rs ++ [r])
  | [], _, h, hr, hh => ⟨hi', Nat.le_trans h hh, Nat.le_refl _, hr.keep (fun _ _ _ => rfl) h (Nat.le_refl _), Nat.le_refl _⟩
  | _ :: _, _, ⟨m, h1, h2, h3, h4⟩, hr, hh => ⟨m, h1, Nat.le_trans h2 hh, h3, RulesIn.snoc h4 hr hh⟩

theorem RulesIn.wide : ∀ {rs : List Rr} {lo : Nat}, RulesIn w lo hi rs → hi ≤ hi' → RulesIn w lo hi' rs
  | [], _, h, hh => Nat.le_trans h hh
  | _ :: _, _, ⟨m, h1, h2, h3, h4⟩, hh => ⟨m, h1, Nat.le_trans h2 hh, h3, RulesIn.wide h4 hh⟩

/-- Where one block alone has turned, which is no row of terms or parts. -/
theorem OwnParts.far {g : Nat} {ps : List Pf} (h : OwnParts w lo hi A n c ps) (hk : ∀ b, b < w.heap.size → b ≠ g → w'.heap[b]? = w.heap[b]?) (hT : ∀ k f, ¬ w.rowIs g 110 k f) (hP : ∀ k f, ¬ w.rowIs g 171 k f) : OwnParts w' lo hi A n c ps := by
  obtain ⟨a, b, d, e, f⟩ := h
  refine ⟨a, b, d, fun hn => ?_, ⟨fun q hq => termsFar hk (f.1 q hq) (fun h0 e => ?_), f.2⟩⟩
  · obtain ⟨g', k, f', e1, e2, e3, e4, e5⟩ := e hn
    exact ⟨g', k, f', e1, e2, e3, e4.of_block (hk g' e4.lt (fun e => hP _ _ (e ▸ e4))), e5⟩
  · obtain ⟨g2, k2, f2, x1, _, _, x4, _⟩ := (f.1 q hq).2.2 h0
    rw [e] at x1
    injection x1 with x1
    injection x1 with x1
    subst x1
    exact hT _ _ x4

theorem HeadApart.far {g : Nat} {r : Rf} (h : HeadApart w lo hi r) (hk : ∀ b, b < w.heap.size → b ≠ g → w'.heap[b]? = w.heap[b]?) (hT : ∀ k f, ¬ w.rowIs g 110 k f) : HeadApart w' lo hi r :=
  termsFar hk h (fun h0 e => by
    obtain ⟨g2, k2, f2, x1, _, _, x4, _⟩ := h.2.2 h0
    rw [e] at x1
    injection x1 with x1
    injection x1 with x1
    subst x1
    exact hT _ _ x4)

theorem RuleApart.far {g : Nat} (h : RuleApart w lo hi r) (hk : ∀ b, b < w.heap.size → b ≠ g → w'.heap[b]? = w.heap[b]?) (hT : ∀ k f, ¬ w.rowIs g 110 k f) (hP : ∀ k f, ¬ w.rowIs g 171 k f) : RuleApart w' lo hi r := by
  obtain ⟨a, b, c, d, e1, e2, e3, e4, e5, e6, e7, e8, e9⟩ := h
  exact ⟨a, b, c, d, e1, e2, e3, e4, e5, e6, e7, e8.far hk hT, e9.far hk hT hP⟩

theorem RulesIn.far {g : Nat} : ∀ {rs : List Rr} {lo : Nat}, RulesIn w lo hi rs → (∀ b, b < w.heap.size → b ≠ g → w'.heap[b]? = w.heap[b]?) → (∀ k f, ¬ w.rowIs g 110 k f) → (∀ k f, ¬ w.rowIs g 171 k f) → RulesIn w' lo hi rs
  | [], _, h, _, _, _ => h
  | _ :: _, _, ⟨m, h1, h2, h3, h4⟩, hk, hT, hP => ⟨m, h1, h2, h3.far hk hT hP, RulesIn.far h4 hk hT hP⟩

/-- A row of rules is none of terms or parts. -/
theorem no_row {g k : Nat} {f : Nat → Value} {t t' : TypeId} (h : w.rowIs g t k f) (hne : t ≠ t') : ∀ k' f', ¬ w.rowIs g t' k' f' := fun _ _ h' => hne (typed_apart h h')

/-- Rules stay where a row of rules is appended to. -/
theorem RulesIn.appended {base k : Nat} {v : Value} {cs : List Value} (h : RulesIn w lo hi rs) (hrow : w.ownsRow base 174 3 v k cs) (hg : w.grownBy w' v.ownBlock) : RulesIn w' lo hi rs := by
  rcases hrow.2 with ⟨rfl, _⟩ | ⟨g, cap, cur, rfl, _, hgb, _⟩
  · refine h.far (g := w.heap.size) (fun b hb _ => hg.block b hb (by simp [Value.ownBlock])) (fun k f hr => ?_) (fun k f hr => ?_) <;> exact absurd hr.lt (Nat.lt_irrefl _)
  · refine h.far (g := g) (fun b hb hne => hg.block b hb (by simp [Value.ownBlock]; exact hne)) (fun k f hr => ?_) (fun k f hr => ?_)
    · obtain ⟨cs, y1, _⟩ := hr
      rw [hgb] at y1
      injection y1 with y1
      injection y1 with _ y1
      exact absurd y1 (by decide)
    · obtain ⟨cs, y1, _⟩ := hr
      rw [hgb] at y1
      injection y1 with y1
      injection y1 with _ y1
      exact absurd y1 (by decide)

theorem RulesIn.each : ∀ {rs : List Rr} {lo : Nat}, RulesIn w lo hi rs → ∀ r ∈ rs, ∃ a b, lo ≤ a ∧ b ≤ hi ∧ RuleApart w a b r
  | [], _, _, r, hr => by simp at hr
  | q :: qs, lo, ⟨m, h1, h2, h3, h4⟩, r, hr => by
    rcases List.mem_cons.1 hr with rfl | hr
    · exact ⟨lo, m, Nat.le_refl _, h2, h3⟩
    · obtain ⟨a, b, e1, e2, e3⟩ := RulesIn.each h4 r hr
      exact ⟨a, b, by omega, e2, e3⟩

/-- What it reads as. -/
theorem RulesApart.rules (h : RulesApart w lo hi A n c rs) : IsRules w lo hi A n c (rs.map rRl) := by
  obtain ⟨a, b, d, e, f⟩ := h
  refine ⟨by simpa using a, b, d, fun hn => ?_⟩
  obtain ⟨g, k, f', e1, e2, e3, e4, e5, e6⟩ := e hn
  refine ⟨_, e1, e2, e3, fun i q hq => ?_⟩
  rw [List.getElem?_map] at hq
  obtain ⟨r, hr, rfl⟩ := Option.map_eq_some_iff.1 hq
  have hi := (List.getElem?_eq_some_iff.1 hr).1
  have a0 : ∀ j, (⟨g, 0, none⟩ : Addr).add j = ⟨g, j, none⟩ := fun j => by unfold Addr.add; split <;> simp_all
  obtain ⟨c1, c2, c3⟩ := rrcells_at hr
  obtain ⟨x, y, z1, z2, a, b, c, d, z3, z4, z5, z6, z7, z8, z9, z10, z11⟩ := f.each r (List.mem_of_getElem? hr)
  rw [a0]
  have x0 : w.cell? ⟨g, i * 3, none⟩ = some (.string r.1.1) := by rw [e4.cell (by omega), e6 _ _ c1]
  have x1 : w.cell? ⟨g, i * 3 + 1, none⟩ = some (.slice r.1.2.1 r.1.2.2.1 r.1.2.2.2.1) := by rw [e4.cell (by omega), e6 _ _ c2]
  have x2 : w.cell? ⟨g, i * 3 + 2, none⟩ = some (.slice r.2.1 r.2.2.1 r.2.2.2.1) := by rw [e4.cell (by omega), e6 _ _ c3]
  exact ⟨x0, z10.1, ⟨_, _, _, x1, z10.2.1.keep (fun _ _ _ => rfl) (by omega) (by omega)⟩, ⟨_, _, _, x2, z11.parts.keep PartE.stays (fun _ _ _ => rfl) (by omega) (by omega)⟩⟩

/-- A row that was grown by appending, and what its rules lead on to. -/
theorem RulesApart.of_row {base : Nat} {v : Value} (h : w.ownsRow base 174 3 v n (rrcells rs)) (hn : n = rs.length) (hb : lo ≤ base) (hr : RulesIn w lo hi rs) (hh : hi ≤ w.heap.size) :
    ∃ A c, v = .slice A n c ∧ RulesApart w lo w.heap.size A n c rs := by
  subst hn
  rcases h.2 with ⟨rfl, h0⟩ | ⟨g, cap, cur, rfl, hbg, hgb, hle, hcap, hsz, htk⟩
  · exact ⟨none, 0, by rw [h0], rfl, by omega, by unfold maxLen; omega, fun hp => absurd hp (by omega), hr.wide hh⟩
  · have hlt := (Array.getElem?_eq_some_iff.1 hgb).1
    refine ⟨_, cap, rfl, rfl, hle, hcap, fun _ => ⟨g, cap * 3, fun i => cur[i]?.getD undef, rfl, by omega, hlt, ⟨cur, hgb, hsz, fun i hi => by simp [hsz ▸ hi]⟩, Nat.mul_le_mul_right _ hle, fun j u hu => ?_⟩, hr.wide hh⟩
    have hj := (List.getElem?_eq_some_iff.1 hu).1
    rw [rrcells_len] at hj
    rw [← htk, List.getElem?_take, if_pos (by omega)] at hu
    have : cur[j]? = some u := by simpa using hu
    simp [this]

/-- One more in a copy of rules. -/
theorem copyR_more {w wr w1 w2 w3 : World} {k : Nat} {v v' : Value} {rs : List Rr} {xs : List Rl} {r : Rr} {q : Rl} (hl : rs.length = k) (hm : rs.map rRl = xs.take k) (hq : xs[k]? = some q) (hrq : rRl r = q)
    (ho : RulesIn wr w.heap.size wr.heap.size rs) (hb1 : Below wr.heap.size wr w1) (hB1 : Below w.heap.size w w1) (hR : RuleApart w1 wr.heap.size w1.heap.size r)
    (h12 : Below w1.heap.size w1 w2) (hrow : w2.ownsRow w.heap.size 174 3 v k (rrcells rs)) (hown : w3.ownsRow w.heap.size 174 3 v' (k + 1) (rrcells rs ++ [.string r.1.1, .slice r.1.2.1 r.1.2.2.1 r.1.2.2.2.1, .slice r.2.1 r.2.2.1 r.2.2.2.1])) (hgrow : w2.grownBy w3 v.ownBlock) :
    ∃ rs' : List Rr, rs'.length = k + 1 ∧ rs'.map rRl = xs.take (k + 1) ∧ w3.ownsRow w.heap.size 174 3 v' (k + 1) (rrcells rs') ∧ RulesIn w3 w.heap.size w3.heap.size rs' ∧ Below w.heap.size w w3 := by
  have hsz : w1.heap.size ≤ w2.heap.size := h12.size
  refine ⟨rs ++ [r], by rw [List.length_append, hl]; rfl, ?_, ?_, ?_, ?_⟩
  · rw [List.map_append, hm, List.take_add_one, hq, ← hrq]; rfl
  · rw [rrcells_snoc]; exact hown
  · have h1 := (ho.keep (w' := w1) (fun b _ h2 => hb1.block b h2)).snoc hR hb1.size
    have h2 := h1.keep (w' := w2) (fun b _ h => h12.block b h)
    exact (h2.appended hrow hgrow).wide (Nat.le_trans hsz hgrow.size)
  · exact (belowThen hB1 h12).grown hgrow (Nat.le_trans hB1.size hsz) (fun j ej => by
      rcases hrow.2 with ⟨rfl, _⟩ | ⟨g', cap', cur, rfl, hbg, _, _⟩
      · simp [Value.ownBlock] at ej
      · obtain rfl : g' = j := by simpa [Value.ownBlock] using ej
        omega)
end

theorem Tryz.infoRuleR : (Tryz.prog.info? 174).map (fun i => (i.zero, i.size, i.bytes)) = some (some (.agg #[.string ByteArray.empty, .slice none 0 0, .slice none 0 0]), 3, 64) := by kernel_rfl

theorem rule_here {w : World} {hi n c : Nat} {A : Option Addr} {rs : List Rl} (h : IsRules w 0 hi A n c rs) {i : Nat} (hn : i < n) :
    ∃ p r A' n' c' B m d, A = some p ∧ p.block < hi ∧ rs[i]? = some r ∧ w.cell? (p.add (i * 3)) = some (.string r.1.1) ∧ r.1.1.size ≤ maxLen ∧ w.cell? ⟨(p.add (i * 3)).block, (p.add (i * 3)).off + 1, none⟩ = some (.slice A' n' c') ∧ IsTerms w 0 hi A' n' c' r.1.2 ∧
      w.cell? ⟨(p.add (i * 3)).block, (p.add (i * 3)).off + 2, none⟩ = some (.slice B m d) ∧ IsParts w 0 hi B m d r.2 := by
  obtain ⟨p, r, hA, _, hh, hg, d1, d2, ⟨A', n', c', d3, d4⟩, ⟨B, m, d, d5, d6⟩⟩ := h.at_ hn
  exact ⟨p, r, A', n', c', B, m, d, hA, hh, hg, d1, d2, d3, d4, d5, d6⟩

end Go.Proofs.YtogonjkklioaaaaGreatDoor

namespace Go.Proofs.YtogonjkklioaaaaGreatDoor
open Go.RowKit

/-- A head whose terms are marked. -/
def markHd (k : Nat) (r : Rf) : Rf := (r.1, r.2.1, r.2.2.1, r.2.2.2.1, markTs k (rN r))

theorem markTermS_head (lo hi : Nat) (r : Rf) (k : Nat) (w : World) (h : HeadApart w lo hi r) (hk : k + 2 * rN r ≤ 2 ^ 62) :
    Calls Tryz.prog 78 #[.slice r.2.1 r.2.2.1 r.2.2.2.1, .int .i64 (k : Int)] w fun e w' => e = .returned (.int .i64 ((k + 2 * rN r : Nat) : Int)) ∧ HeadApart w' lo hi (markHd k r) ∧ Within lo hi w w' ∧ Rest w w' := by
  obtain ⟨y1, y2, y3⟩ := h
  by_cases h0 : 0 < rN r
  · obtain ⟨g, m, f, e1, e2, e3, e4, e5⟩ := y3 h0
    have e1' : r.2.1 = some ⟨g, 0, none⟩ := e1
    rw [e1']
    refine (markTermS_any g m r.2.2.1 r.2.2.2.1 k f w e4 e5 hk).mono ?_
    rintro e w' ⟨rfl, ⟨f', r1, r2⟩, hg⟩
    have hT : IsTerms w' lo hi (some ⟨g, 0, none⟩) r.2.2.1 r.2.2.2.1 (markTs k (rN r)) := marked_terms r1 e5 r2 hk y2.2.1 y2.2.2.1 e2 e3
    exact ⟨rfl, ⟨y1, by show IsTerms w' lo hi r.2.1 _ _ _; rw [e1']; exact hT, fun _ => ⟨g, m, f', e1, e2, e3, r1, e5⟩⟩, Within.row hg e2 e3, Rest.row e4 (.inl rfl) hg⟩
  · have hn : r.2.2.1 = 0 := by unfold rN at h0; omega
    have hn' : rN r = 0 := hn
    have ht : r.2.2.2.2 = [] := List.eq_nil_of_length_eq_zero (by have := y2.1; omega)
    rw [hn]
    refine (markTermS_none r.2.1 r.2.2.2.1 k w).mono ?_
    rintro e w' ⟨rfl, rfl⟩
    refine ⟨by rw [hn']; rfl, ?_, Within.refl, Rest.refl _⟩
    have e : markHd k r = r := by
      unfold markHd
      rw [hn']
      obtain ⟨a, b, c, d, t⟩ := r
      simp only at ht ⊢
      subst ht
      rfl
    rw [e]; exact ⟨y1, y2, y3⟩

end Go.Proofs.YtogonjkklioaaaaGreatDoor

namespace Go.Proofs.YtogonjkklioaaaaGreatDoor
open Go.RowKit

/-- A copy of a list of rules. -/
def CopyRPost (xs : List Rl) (w : World) (e : Ending) (w' : World) : Prop :=
  ∃ A c rs, e = .returned (.slice A xs.length c) ∧ RulesApart w' w.heap.size w'.heap.size A xs.length c rs ∧ rs.map rRl = xs ∧ Below w.heap.size w w'

/-- What the walk keeps of the body that is copied. -/
structure BodyOn (b : Nat) (nm : ByteArray) (A2 : Option Addr) (n' d2 : Nat) (qs : List Pt) (w1 : World) (j : Nat) (Bv : Option Addr) (bv : Nat) (ps : List Pf) (W : World) : Prop where
  box : Blk W b 174 #[.string nm, .slice A2 n' d2, .slice Bv j bv]
  row : W.ownsRow (b + 1) 171 3 (.slice Bv j bv) j (pcells ps)
  len : ps.length = j
  eq : ps.map pAt = qs.take j
  own : OwnIn W (b + 1) W.heap.size (ps.map Prod.snd)
  below : Below w1.heap.size w1 W
  size : b + 1 ≤ W.heap.size

set_option maxRecDepth 100000 in
set_option maxHeartbeats 16000000 in
theorem l7Rules_any (A : Option Addr) (n c : Nat) (xs : List Rl) (w : World) (h : IsRules w 0 w.heap.size A n c xs) (hn1 : n ≤ 1048576) (hn2 : ∀ r ∈ xs, SmallRule r.1.2.length r.2.length r.2) :
    Calls Tryz.prog 134 #[.slice A n c] w (CopyRPost xs w) := by
  obtain ⟨i0, hi, hz, hsz, hby⟩ := info_parts Tryz.infoPart
  have HI := Lib.hid hi; have HZ := Lib.hid hz; have HSZ := Lib.hid hsz; have HYY := Lib.hid hby
  clear hi hz hsz hby
  obtain ⟨i2, hi2, hz2, hsz2, hby2⟩ := info_parts Tryz.infoRuleR
  have HN := Lib.hid hn2; clear hn2
  have HL0 := Lib.hid h.1
  have H := Lib.hid h; clear h
  go_enter Tryz.func134, Tryz.ntmps134
  go_wp2
  go_loopw [3, 4] (fun o i w0 => ∃ (k : Nat) (Av : Option Addr) (cv : Nat) (rs : List Rr), k ≤ n ∧ i = .int .i64 k ∧ o = .slice Av k cv ∧ w0.ownsRow w.heap.size 174 3 (.slice Av k cv) k (rrcells rs) ∧ rs.length = k ∧ rs.map rRl = xs.take k ∧ RulesIn w0 w.heap.size w0.heap.size rs ∧ Below w.heap.size w w0) (fun _ i _ => n - (intOf i).toNat)
  case atStart => exact ⟨0, some ⟨w.heap.size, 0, none⟩, 0, [], Nat.zero_le _, rfl, rfl, ⟨rfl, .inr ⟨w.heap.size, 0, #[], rfl, Nat.le_refl _, heap_alloc_new w _, Nat.le_refl _, by unfold maxLen; omega, rfl, rfl⟩⟩, rfl, rfl, (below1 w _).size, below1 _ _⟩
  case round =>
    obtain ⟨k, Av, cv, rs, hk, rfl, rfl, hrow, hl, hm, ho, hb⟩ := hrel
    obtain ⟨w0, hw0⟩ : ∃ w0 : World, w0 = wr := ⟨_, rfl⟩
    subst hw0
    have HR := Lib.hid hrow; have HL := Lib.hid hl; have HM := Lib.hid hm; have HO := Lib.hid ho
    clear hrow hl hm ho
    by_cases hlt : k < n
    · obtain ⟨p, r, A', n', c', B, m, d, hA, hpb, hg, d1, d2, d3, d4, d5, d6⟩ := rule_here (H.out.below RuleE.stays hb (Nat.le_refl _)) hlt
      subst hA
      have hq : SmallRule n' m r.2 := by have := HN.out r (List.mem_of_getElem? hg); rwa [d4.1, d6.1] at this
      have hq1 := hq.1; have hq2 := hq.2.1
      have HQ := Lib.hid hq.2.2
      have HG := Lib.hid hg
      have hwr := hb.size
      have HT : Hid (IsTerms w0 0 w0.heap.size A' n' c' r.1.2) := Lib.hid (d4.keep (fun _ _ _ => rfl) (Nat.le_refl _) hwr)
      have HP : Hid (IsParts w0 0 w0.heap.size B m d r.2) := Lib.hid (d6.keep PartE.stays (fun _ _ _ => rfl) (Nat.le_refl _) hwr)
      have HPL := Lib.hid d6.1
      have HN2 := Lib.hid d2
      have hpz : p.block < w0.heap.size := Nat.lt_of_lt_of_le hpb hwr
      clear hg hq d2 d4 d6
      go_wp2_with fail
      refine (l3AtomCopy_any r.1.1 A' n' c' r.1.2 _ HT.out hq1).mono ?_; rintro e w1 ⟨A2, d2, rfl, hT1, hR1, hb1⟩
      have HT1 := Lib.hid hT1; have HR1 := Lib.hid hR1
      have hz1 := hb1.size
      have HB1 := Lib.hid (belowThen hb hb1)
      have e1 := (hb1.cell (p := p.add (k * 3)) (by rw [block_add]; exact hpz)).trans d1
      have e3 := (hb1.cell (p := ⟨(p.add (k * 3)).block, (p.add (k * 3)).off + 2, none⟩) (by rw [block_add]; exact hpz)).trans d5
      have hb2 := below1 w1 (.cells #[.string r.1.1, .slice A2 n' d2, .slice none 0 0] 174)
      have BO0 : Hid (BodyOn w1.heap.size r.1.1 A2 n' d2 r.2 w1 0 none 0 [] (w1.alloc (.cells #[.string r.1.1, .slice A2 n' d2, .slice none 0 0] 174))) := Lib.hid ⟨Blk.new w1 _ _, ⟨rfl, .inl ⟨rfl, rfl⟩⟩, rfl, rfl, OwnIn.nil, hb2, by simp⟩
      clear d1 d3 d5 hT1 hR1 hb2
      go_wp2
      go_loopw [6] (fun y wr => ∃ (j : Nat) (Bv : Option Addr) (bv : Nat) (ps : List Pf), j ≤ m ∧ y = .int .i64 (j : Int) ∧ BodyOn w1.heap.size r.1.1 A2 n' d2 r.2 w1 j Bv bv ps wr) (fun y _ => m - (intOf y).toNat)
      case atStart => exact ⟨0, none, 0, [], Nat.zero_le _, rfl, BO0.out⟩
      case round =>
        obtain ⟨j, Bv, bv, ps, hjm, rfl, BO⟩ := hrel
        have HBO := Lib.hid BO
        have f0 := (BO.below.cell (p := p.add (k * 3)) (by rw [block_add]; omega)).trans e1
        have f3 := (BO.below.cell (p := ⟨(p.add (k * 3)).block, (p.add (k * 3)).off + 2, none⟩) (by rw [block_add]; show p.block < _; omega)).trans e3
        have hbq := BO.below.size
        have hbs := BO.size
        have HB3 := Lib.hid (belowThen hb1 BO.below)
        clear BO e1 e3
        by_cases hjlt : j < m
        · have hjI : (j : Int) < (m : Int) := by omega
          have hkI : (k : Int) < (n : Int) := by omega
          obtain ⟨pb, q, hB, _, hpbb, hgq, hE⟩ := (HP.out.below PartE.stays HB3.out (Nat.le_refl _)).at_ hjlt
          obtain ⟨C, n5, c5, g1, g2, g3, g4, g5⟩ := hE.out
          clear hE
          subst hB
          have hq5 : n5 ≤ 1048576 := by rw [← g5.1]; exact HQ.out q (List.mem_of_getElem? hgq)
          have HGQ := Lib.hid hgq; have G3 := Lib.hid g3
          have HT5 := Lib.hid (show IsTerms wr.drew 0 wr.drew.heap.size C n5 c5 q.2.2 from g5.keep (w' := wr) (lo' := 0) (hi' := wr.heap.size) (fun _ _ _ => rfl) (Nat.le_refl _) (by omega))
          have hpbq : pb.block < wr.heap.size := by omega
          have hpq : p.block < wr.heap.size := by omega
          clear hgq g3 g5
          obtain ⟨nb, nq, ts⟩ := q
          go_wp2
          have HBD := Lib.hid (show Below wr.heap.size wr wr.drew from (Below.refl _ _).drew)
          have BXD := Lib.hid (show Blk wr.drew w1.heap.size 174 #[.string r.1.1, .slice A2 n' d2, .slice Bv j bv] from HBO.out.box)
          have hzD : wr.drew.heap.size = wr.heap.size := rfl
          have x0 : wr.drew.cell? ⟨(p.add (k * 3)).block, (p.add (k * 3)).off + 2, none⟩ = some (.slice (some pb) m d) := f3
          have x1 : wr.drew.cell? (pb.add (j * 3)) = some (.bool nb) := g1
          have x2 : wr.drew.cell? ⟨(pb.add (j * 3)).block, (pb.add (j * 3)).off + 1, none⟩ = some (.string nq) := g2
          have x3 : wr.drew.cell? ⟨(pb.add (j * 3)).block, (pb.add (j * 3)).off + 2, none⟩ = some (.slice C n5 c5) := g4
          clear g1 g2 g4 f3
          obtain ⟨V, hV⟩ : ∃ V, wr.drew = V := ⟨_, rfl⟩
          rw [hV] at HBD BXD hzD x0 x1 x2 x3 HT5
          refine wp_region_held_drew (S := fun W => W.cell? ⟨(p.add (k * 3)).block, (p.add (k * 3)).off + 2, none⟩ = some (.slice (some pb) m d) ∧ W.cell? (pb.add (j * 3)) = some (.bool nb) ∧ W.cell? ⟨(pb.add (j * 3)).block, (pb.add (j * 3)).off + 1, none⟩ = some (.string nq) ∧ W.cell? ⟨(pb.add (j * 3)).block, (pb.add (j * 3)).off + 2, none⟩ = some (.slice C n5 c5)) (by kernel_rfl) (by rw [hV]; exact ⟨x0, x1, x2, x3⟩) ?_
          rw [hV]
          clear hV
          intro hS_
          refine takeV (i := 0) (v := .pointer (some ⟨w1.heap.size, 2, none⟩)) (by (simp only [List.getElem?_toArray, List.getElem?_cons_zero]); rfl) (by kernel_rfl) (by kernel_rfl) (by kernel_rfl) (by rfl) (fun _ _ _ h => h) (Or.inl ⟨by rfl, ?_⟩) hS_ (by (simp only [List.setIfInBounds_toArray, List.set_cons_succ, List.set_cons_zero]); rfl) ?_
          · intro w_ hSw_; (try dsimp only at hSw_); go_simp
          refine takeV (i := 2) (v := .slice (some p) n c) (by (simp only [List.getElem?_toArray, List.getElem?_cons_succ, List.getElem?_cons_zero]); rfl) (by kernel_rfl) (by kernel_rfl) (by kernel_rfl) (by rfl) (fun _ _ _ h => h) (Or.inl ⟨by rfl, ?_⟩) hS_ (by (simp only [List.setIfInBounds_toArray, List.set_cons_succ, List.set_cons_zero]); rfl) ?_
          · intro w_ hSw_; (try dsimp only at hSw_); go_simp
          refine takeV (i := 3) (v := .int .i64 (k : Int)) (by (simp only [List.getElem?_toArray, List.getElem?_cons_succ, List.getElem?_cons_zero]); rfl) (by kernel_rfl) (by kernel_rfl) (by kernel_rfl) (by rfl) (fun _ _ _ h => h) (Or.inl ⟨by rfl, ?_⟩) hS_ (by (simp only [List.setIfInBounds_toArray, List.set_cons_succ, List.set_cons_zero]); rfl) ?_
          · intro w_ hSw_; (try dsimp only at hSw_); go_simp
          refine takeV (i := 4) (v := .pointer (some (p.add (k * 3)))) (by (simp only [List.getElem?_toArray, List.getElem?_cons_succ, List.getElem?_cons_zero]); rfl) (by kernel_rfl) (by kernel_rfl) (by kernel_rfl) (by rfl) (fun _ _ _ h => h) (Or.inl ⟨by rfl, ?_⟩) hS_ (by (simp only [List.setIfInBounds_toArray, List.set_cons_succ, List.set_cons_zero]); rfl) ?_
          · intro w_ hSw_; (try dsimp only at hSw_); go_simp
          refine takeV (i := 5) (v := .pointer (some ⟨(p.add (k * 3)).block, (p.add (k * 3)).off + 2, none⟩)) (by (simp only [List.getElem?_toArray, List.getElem?_cons_succ, List.getElem?_cons_zero]); rfl) (by kernel_rfl) (by kernel_rfl) (by kernel_rfl) (by rfl) (fun _ _ _ h => h) (Or.inl ⟨by rfl, ?_⟩) hS_ (by (simp only [List.setIfInBounds_toArray, List.set_cons_succ, List.set_cons_zero]); rfl) ?_
          · intro w_ hSw_; (try dsimp only at hSw_); go_simp
          refine takeV (i := 6) (v := .slice (some pb) m d) (by (simp only [List.getElem?_toArray, List.getElem?_cons_succ, List.getElem?_cons_zero]); rfl) (by kernel_rfl) (by kernel_rfl) (by kernel_rfl) (by rfl) (fun _ _ _ h => h) (Or.inl ⟨by rfl, ?_⟩) hS_ (by (simp only [List.setIfInBounds_toArray, List.set_cons_succ, List.set_cons_zero]); rfl) ?_
          · intro w_ hSw_; (try dsimp only at hSw_); go_simp
          refine takeV (i := 7) (v := .int .i64 (j : Int)) (by (simp only [List.getElem?_toArray, List.getElem?_cons_succ, List.getElem?_cons_zero]); rfl) (by kernel_rfl) (by kernel_rfl) (by kernel_rfl) (by rfl) (fun _ _ _ h => h) (Or.inl ⟨by rfl, ?_⟩) hS_ (by (simp only [List.setIfInBounds_toArray, List.set_cons_succ, List.set_cons_zero]); rfl) ?_
          · intro w_ hSw_; (try dsimp only at hSw_); go_simp
          refine takeV (i := 8) (v := .pointer (some (pb.add (j * 3)))) (by (simp only [List.getElem?_toArray, List.getElem?_cons_succ, List.getElem?_cons_zero]); rfl) (by kernel_rfl) (by kernel_rfl) (by kernel_rfl) (by rfl) (fun _ _ _ h => h) (Or.inl ⟨by rfl, ?_⟩) hS_ (by (simp only [List.setIfInBounds_toArray, List.set_cons_succ, List.set_cons_zero]); rfl) ?_
          · intro w_ hSw_; (try dsimp only at hSw_); go_simp
          refine takeV (i := 9) (v := .pointer (some (pb.add (j * 3)))) (by (simp only [List.getElem?_toArray, List.getElem?_cons_succ, List.getElem?_cons_zero]); rfl) (by kernel_rfl) (by kernel_rfl) (by kernel_rfl) (by rfl) (fun _ _ _ h => h) (Or.inl ⟨by rfl, ?_⟩) hS_ (by (simp only [List.setIfInBounds_toArray, List.set_cons_succ, List.set_cons_zero]); rfl) ?_
          · intro w_ hSw_; (try dsimp only at hSw_); go_simp
          refine takeV (i := 10) (v := .bool nb) (by (simp only [List.getElem?_toArray, List.getElem?_cons_succ, List.getElem?_cons_zero]); rfl) (by kernel_rfl) (by kernel_rfl) (by kernel_rfl) (by rfl) (fun _ _ _ h => h) (Or.inl ⟨by rfl, ?_⟩) hS_ (by (simp only [List.setIfInBounds_toArray, List.set_cons_succ, List.set_cons_zero]); rfl) ?_
          · intro w_ hSw_; (try dsimp only at hSw_); go_simp
          refine takeV (i := 11) (v := .slice (some p) n c) (by (simp only [List.getElem?_toArray, List.getElem?_cons_succ, List.getElem?_cons_zero]); rfl) (by kernel_rfl) (by kernel_rfl) (by kernel_rfl) (by rfl) (fun _ _ _ h => h) (Or.inl ⟨by rfl, ?_⟩) hS_ (by (simp only [List.setIfInBounds_toArray, List.set_cons_succ, List.set_cons_zero]); rfl) ?_
          · intro w_ hSw_; (try dsimp only at hSw_); go_simp
          refine takeV (i := 12) (v := .int .i64 (k : Int)) (by (simp only [List.getElem?_toArray, List.getElem?_cons_succ, List.getElem?_cons_zero]); rfl) (by kernel_rfl) (by kernel_rfl) (by kernel_rfl) (by rfl) (fun _ _ _ h => h) (Or.inl ⟨by rfl, ?_⟩) hS_ (by (simp only [List.setIfInBounds_toArray, List.set_cons_succ, List.set_cons_zero]); rfl) ?_
          · intro w_ hSw_; (try dsimp only at hSw_); go_simp
          refine takeV (i := 13) (v := .pointer (some (p.add (k * 3)))) (by (simp only [List.getElem?_toArray, List.getElem?_cons_succ, List.getElem?_cons_zero]); rfl) (by kernel_rfl) (by kernel_rfl) (by kernel_rfl) (by rfl) (fun _ _ _ h => h) (Or.inl ⟨by rfl, ?_⟩) hS_ (by (simp only [List.setIfInBounds_toArray, List.set_cons_succ, List.set_cons_zero]); rfl) ?_
          · intro w_ hSw_; (try dsimp only at hSw_); go_simp
          refine takeV (i := 14) (v := .pointer (some ⟨(p.add (k * 3)).block, (p.add (k * 3)).off + 2, none⟩)) (by (simp only [List.getElem?_toArray, List.getElem?_cons_succ, List.getElem?_cons_zero]); rfl) (by kernel_rfl) (by kernel_rfl) (by kernel_rfl) (by rfl) (fun _ _ _ h => h) (Or.inl ⟨by rfl, ?_⟩) hS_ (by (simp only [List.setIfInBounds_toArray, List.set_cons_succ, List.set_cons_zero]); rfl) ?_
          · intro w_ hSw_; (try dsimp only at hSw_); go_simp
          refine takeV (i := 15) (v := .slice (some pb) m d) (by (simp only [List.getElem?_toArray, List.getElem?_cons_succ, List.getElem?_cons_zero]); rfl) (by kernel_rfl) (by kernel_rfl) (by kernel_rfl) (by rfl) (fun _ _ _ h => h) (Or.inl ⟨by rfl, ?_⟩) hS_ (by (simp only [List.setIfInBounds_toArray, List.set_cons_succ, List.set_cons_zero]); rfl) ?_
          · intro w_ hSw_; (try dsimp only at hSw_); go_simp
          refine takeV (i := 16) (v := .int .i64 (j : Int)) (by (simp only [List.getElem?_toArray, List.getElem?_cons_succ, List.getElem?_cons_zero]); rfl) (by kernel_rfl) (by kernel_rfl) (by kernel_rfl) (by rfl) (fun _ _ _ h => h) (Or.inl ⟨by rfl, ?_⟩) hS_ (by (simp only [List.setIfInBounds_toArray, List.set_cons_succ, List.set_cons_zero]); rfl) ?_
          · intro w_ hSw_; (try dsimp only at hSw_); go_simp
          refine takeV (i := 17) (v := .pointer (some (pb.add (j * 3)))) (by (simp only [List.getElem?_toArray, List.getElem?_cons_succ, List.getElem?_cons_zero]); rfl) (by kernel_rfl) (by kernel_rfl) (by kernel_rfl) (by rfl) (fun _ _ _ h => h) (Or.inl ⟨by rfl, ?_⟩) hS_ (by (simp only [List.setIfInBounds_toArray, List.set_cons_succ, List.set_cons_zero]); rfl) ?_
          · intro w_ hSw_; (try dsimp only at hSw_); go_simp
          refine takeV (i := 18) (v := .pointer (some ⟨(pb.add (j * 3)).block, (pb.add (j * 3)).off + 1, none⟩)) (by (simp only [List.getElem?_toArray, List.getElem?_cons_succ, List.getElem?_cons_zero]); rfl) (by kernel_rfl) (by kernel_rfl) (by kernel_rfl) (by rfl) (fun _ _ _ h => h) (Or.inl ⟨by rfl, ?_⟩) hS_ (by (simp only [List.setIfInBounds_toArray, List.set_cons_succ, List.set_cons_zero]); rfl) ?_
          · intro w_ hSw_; (try dsimp only at hSw_); go_simp
          refine takeV (i := 19) (v := .agg #[.string nq, .slice C n5 c5]) (by (simp only [List.getElem?_toArray, List.getElem?_cons_succ, List.getElem?_cons_zero]); rfl) (by kernel_rfl) (by kernel_rfl) (by kernel_rfl) (by rfl) (fun _ _ _ h => h) (Or.inl ⟨by rfl, ?_⟩) hS_ (by (simp only [List.setIfInBounds_toArray, List.set_cons_succ, List.set_cons_zero]); rfl) ?_
          · intro w_ hSw_; (try dsimp only at hSw_); go_simp
          have BXC := BXD
          refine wpAnyH_ready (rs := [1, 20]) (by kernel_rfl) (by simp) ?_
          refine (AllReadyH.cons (o := _) (by (simp only [List.getElem?_toArray, List.getElem?_cons_succ, List.getElem?_cons_zero]); rfl) (fun K_ hK_ => ?_) (AllReadyH.cons (o := _) (by (simp only [List.getElem?_toArray, List.getElem?_cons_succ, List.getElem?_cons_zero]); rfl) (fun K_ hK_ => ?_) AllReadyH.nil))
          · have b2 := BXC.out.cell 2
            rw [if_pos (by rfl)]
            go_simp
            refine hK_.out _ _ ⟨x0, x1, x2, x3⟩ (fun hS2_ => ?_)
            clear hK_ hS_; have hS_ := hS2_; clear hS2_
            (try simp only [Act.put, List.setIfInBounds_toArray, List.set_cons_zero, List.set_cons_succ])
            clear b2
            refine wpAnyH_ready (rs := [20]) (by kernel_rfl) (by simp) ?_
            refine AllReadyH.cons (o := _) (by (simp only [List.getElem?_toArray, List.getElem?_cons_succ, List.getElem?_cons_zero]); rfl) (fun K_ hK_ => ?_) AllReadyH.nil
            rw [if_pos (by rfl)]
            go_simp
            go_at_call 101
            refine (l3AtomCopy_any nq C n5 c5 ts _ HT5.out hq5).mono ?_; rintro e w5 ⟨A5, d5, rfl, hT6, hR6, hb6⟩
            have BX6 := Lib.hid (BXC.out.below hb6)
            clear BXC
            have BXC := BX6
            have HB6 := belowThen HBD.out hb6
            have HT6 := Lib.hid (hT6.keep (w' := w5) (lo' := wr.heap.size) (hi' := w5.heap.size) (fun _ _ _ => rfl) (by omega) (Nat.le_refl _))
            have HR6 := Lib.hid (fun h0 => (hR6 h0).keep (w' := w5) (lo' := wr.heap.size) (hi' := w5.heap.size) (fun _ _ _ => rfl) (by omega) (Nat.le_refl _))
            have HRW := Lib.hid (ownsRow_up HBO.out.row HB6)
            have hz6 := HB6.size
            have x0 := (hb6.cell (p := ⟨(p.add (k * 3)).block, (p.add (k * 3)).off + 2, none⟩) (by rw [block_add]; show p.block < _; omega)).trans x0
            have x1 := (hb6.cell (p := (pb.add (j * 3))) (by rw [block_add]; omega)).trans x1
            have x2 := (hb6.cell (p := ⟨(pb.add (j * 3)).block, (pb.add (j * 3)).off + 1, none⟩) (by rw [block_add]; show pb.block < _; omega)).trans x2
            have x3 := (hb6.cell (p := ⟨(pb.add (j * 3)).block, (pb.add (j * 3)).off + 2, none⟩) (by rw [block_add]; show pb.block < _; omega)).trans x3
            clear hT6 hR6 hb6
            refine hK_.out _ _ ⟨x0, x1, x2, x3⟩ (fun hS2_ => ?_)
            clear hK_ hS_; have hS_ := hS2_; clear hS2_
            (try simp only [Act.put, List.setIfInBounds_toArray, List.set_cons_zero, List.set_cons_succ])
            refine takeV (i := 21) (v := .agg #[.bool nb, .string nq, .slice A5 n5 d5]) (by (simp only [List.getElem?_toArray, List.getElem?_cons_succ, List.getElem?_cons_zero]); rfl) (by kernel_rfl) (by kernel_rfl) (by kernel_rfl) (by rfl) (fun _ _ _ h => h) (Or.inl ⟨by rfl, ?_⟩) hS_ (by (simp only [List.setIfInBounds_toArray, List.set_cons_succ, List.set_cons_zero]); rfl) ?_
            · intro w_ hSw_; (try dsimp only at hSw_); go_simp
            refine wpAnyH_ready (rs := [22]) (by kernel_rfl) (by simp) ?_
            refine AllReadyH.cons (o := _) (by (simp only [List.getElem?_toArray, List.getElem?_cons_succ, List.getElem?_cons_zero]); rfl) (fun K_ hK_ => ?_) AllReadyH.nil
            rw [if_pos (by rfl)]
            go_simp
            have BX7 := Lib.hid (BXC.out.alloc (.cells #[.bool nb, .string nq, .slice A5 n5 d5] 171))
            have TM7 := Lib.hid (Blk.new w5 171 #[.bool nb, .string nq, .slice A5 n5 d5])
            have OW7 := Lib.hid (HRW.out.alloc (.cells #[.bool nb, .string nq, .slice A5 n5 d5] 171))
            have hb7 := below1 w5 (.cells #[.bool nb, .string nq, .slice A5 n5 d5] 171)
            have x0 := (hb7.cell (p := ⟨(p.add (k * 3)).block, (p.add (k * 3)).off + 2, none⟩) (by rw [block_add]; show p.block < _; omega)).trans x0
            have x1 := (hb7.cell (p := (pb.add (j * 3))) (by rw [block_add]; omega)).trans x1
            have x2 := (hb7.cell (p := ⟨(pb.add (j * 3)).block, (pb.add (j * 3)).off + 1, none⟩) (by rw [block_add]; show pb.block < _; omega)).trans x2
            have x3 := (hb7.cell (p := ⟨(pb.add (j * 3)).block, (pb.add (j * 3)).off + 2, none⟩) (by rw [block_add]; show pb.block < _; omega)).trans x3
            obtain ⟨V7, hV7⟩ : ∃ X, w5.alloc (.cells #[.bool nb, .string nq, .slice A5 n5 d5] 171) = X := ⟨_, rfl⟩
            rw [hV7] at BX7 TM7 OW7 hb7 x0 x1 x2 x3 ⊢
            clear hV7
            have hz7 := hb7.size
            refine hK_.out _ _ ⟨x0, x1, x2, x3⟩ (fun hS2_ => ?_)
            clear hK_ hS_; have hS_ := hS2_; clear hS2_
            (try simp only [Act.put, List.setIfInBounds_toArray, List.set_cons_zero, List.set_cons_succ])
            refine wpAnyH_ready (rs := [23]) (by kernel_rfl) (by simp) ?_
            refine AllReadyH.cons (o := _) (by (simp only [List.getElem?_toArray, List.getElem?_cons_succ, List.getElem?_cons_zero]); rfl) (fun K_ hK_ => ?_) AllReadyH.nil
            refine step_appZ 3 (by omega) (by rfl) _ _ _ (by rfl) (w1.heap.size + 1) 171 i0 _ 48 Tryz.underlying172 HI.out HZ.out HSZ.out HYY.out rfl (.slice Bv j bv) j (pcells ps) (by rfl) OW7.out (some ⟨w5.heap.size, 0, none⟩) 1 1 [.bool nb, .string nq, .slice A5 n5 d5] (by rfl) (srcOneP _ _ _ _ _ _ TM7.out) (by simp [Value.oneCell']) (by unfold maxLen; omega) (by omega) (by omega) ?_
            intro v8 w8 OW8 G8
            obtain ⟨g', cap', rfl⟩ := ownsRow_succ OW8
            have hlo8 : ∀ g, (Value.slice Bv j bv).ownBlock = some g → w1.heap.size + 1 ≤ g := fun g hg => (HBO.out.row.lt g hg).1
            have BX8 := Lib.hid (BX7.out.kept G8 (own_ne' (fun g h => by have := hlo8 g h; omega)))
            obtain ⟨ps', r1, r2, r3, r4, r5⟩ := copyP_more (w := w1) HBO.out.len HBO.out.eq HGQ.out HBO.out.own HBO.out.size (by omega) HB6 (belowThen HBO.out.below HB6) G3.out HT6.out HR6.out hb7 OW7.out OW8 G8
            have hz8 := G8.size
            have x0 := (G8.cell_far ⟨(p.add (k * 3)).block, (p.add (k * 3)).off + 2, none⟩ (by rw [block_add]; show p.block < _; omega) (own_ne' (fun g h => by have := hlo8 g h; rw [block_add]; show p.block ≠ _; omega))).trans x0
            have x1 := (G8.cell_far (pb.add (j * 3)) (by rw [block_add]; omega) (own_ne' (fun g h => by have := hlo8 g h; rw [block_add]; omega))).trans x1
            have x2 := (G8.cell_far ⟨(pb.add (j * 3)).block, (pb.add (j * 3)).off + 1, none⟩ (by rw [block_add]; show pb.block < _; omega) (own_ne' (fun g h => by have := hlo8 g h; rw [block_add]; show pb.block ≠ _; omega))).trans x2
            have x3 := (G8.cell_far ⟨(pb.add (j * 3)).block, (pb.add (j * 3)).off + 2, none⟩ (by rw [block_add]; show pb.block < _; omega) (own_ne' (fun g h => by have := hlo8 g h; rw [block_add]; show pb.block ≠ _; omega))).trans x3
            have R3 := Lib.hid r3; have R2 := Lib.hid r2; have R4 := Lib.hid r4; have R1 := Lib.hid r1; have R5 := Lib.hid r5
            have HOWN := Lib.hid (r3.lt g' rfl).1
            clear r1 r2 r3 r4 r5 OW8 G8
            refine hK_.out _ _ ⟨x0, x1, x2, x3⟩ (fun hS2_ => ?_)
            clear hK_ hS_; have hS_ := hS2_; clear hS2_
            (try simp only [Act.put, List.setIfInBounds_toArray, List.set_cons_zero, List.set_cons_succ])
            refine takeV (i := 24) (v := .pointer (some ⟨w1.heap.size, 2, none⟩)) (by (simp only [List.getElem?_toArray, List.getElem?_cons_succ, List.getElem?_cons_zero]); rfl) (by kernel_rfl) (by kernel_rfl) (by kernel_rfl) (by rfl) (fun _ _ _ h => h) (Or.inl ⟨by rfl, ?_⟩) hS_ (by (simp only [List.setIfInBounds_toArray, List.set_cons_succ, List.set_cons_zero]); rfl) ?_
            · intro w_ hSw_; (try dsimp only at hSw_); go_simp
            refine wpAnyH_ready (rs := [25]) (by kernel_rfl) (by simp) ?_
            refine AllReadyH.cons (o := _) (by (simp only [List.getElem?_toArray, List.getElem?_cons_succ, List.getElem?_cons_zero]); rfl) (fun K_ hK_ => ?_) AllReadyH.nil
            have b2 := BX8.out.cell 2
            have z2 := BX8.out.frozen 2
            have hg8 := HOWN.out
            rw [if_pos (by rfl)]
            go_simp
            refine hK_.out _ _ (by refine ⟨?_, ?_, ?_, ?_⟩ <;> (rw [World.cell?_of_block (Below.heap_setCell w8 ⟨w1.heap.size, 2, none⟩ _ _ (by first | (rw [block_add]; omega) | (show p.block ≠ _; rw [block_add]; omega) | (show (Addr.block _) ≠ _; simp only [block_add]; omega)))]; assumption)) (fun hS2_ => ?_)
            clear hK_ hS_; have hS_ := hS2_; clear hS2_
            (try simp only [Act.put, List.setIfInBounds_toArray, List.set_cons_zero, List.set_cons_succ])
            refine wpAnyH_done (by kernel_rfl) ?_ _
            have BON := Lib.hid (show BodyOn w1.heap.size r.1.1 A2 n' d2 r.2 w1 (j + 1) (some ⟨g', 0, none⟩) cap' ps' (w8.setCell ⟨w1.heap.size, 2, none⟩ (.slice (some ⟨g', 0, none⟩) (j + 1) cap')) from ⟨BX8.out.set 2 _, row_away R3.out (fun e => by injection e with e; simp at e; omega) _, R1.out, R2.out, (R4.out.keep (fun b h1 _ => Below.heap_setCell _ _ _ b (by simp; omega)) (Nat.le_refl _) (by rw [size_setCell]; exact Nat.le_refl _)), R5.out.setCell (Nat.le_refl _) _, by rw [size_setCell]; omega⟩)
            clear b2 z2 x0 x1 x2 x3
            go_wp2
            go_roundw
            case rel => exact ⟨j + 1, _, _, ps', by omega, by go_num, BON.out⟩
            case measure => simp [intOf]; omega
          · rw [if_pos (by rfl)]
            go_simp
            go_at_call 101
            refine (l3AtomCopy_any nq C n5 c5 ts _ HT5.out hq5).mono ?_; rintro e w5 ⟨A5, d5, rfl, hT6, hR6, hb6⟩
            have BX6 := Lib.hid (BXC.out.below hb6)
            clear BXC
            have BXC := BX6
            have HB6 := belowThen HBD.out hb6
            have HT6 := Lib.hid (hT6.keep (w' := w5) (lo' := wr.heap.size) (hi' := w5.heap.size) (fun _ _ _ => rfl) (by omega) (Nat.le_refl _))
            have HR6 := Lib.hid (fun h0 => (hR6 h0).keep (w' := w5) (lo' := wr.heap.size) (hi' := w5.heap.size) (fun _ _ _ => rfl) (by omega) (Nat.le_refl _))
            have HRW := Lib.hid (ownsRow_up HBO.out.row HB6)
            have hz6 := HB6.size
            have x0 := (hb6.cell (p := ⟨(p.add (k * 3)).block, (p.add (k * 3)).off + 2, none⟩) (by rw [block_add]; show p.block < _; omega)).trans x0
            have x1 := (hb6.cell (p := (pb.add (j * 3))) (by rw [block_add]; omega)).trans x1
            have x2 := (hb6.cell (p := ⟨(pb.add (j * 3)).block, (pb.add (j * 3)).off + 1, none⟩) (by rw [block_add]; show pb.block < _; omega)).trans x2
            have x3 := (hb6.cell (p := ⟨(pb.add (j * 3)).block, (pb.add (j * 3)).off + 2, none⟩) (by rw [block_add]; show pb.block < _; omega)).trans x3
            clear hT6 hR6 hb6
            refine hK_.out _ _ ⟨x0, x1, x2, x3⟩ (fun hS2_ => ?_)
            clear hK_ hS_; have hS_ := hS2_; clear hS2_
            (try simp only [Act.put, List.setIfInBounds_toArray, List.set_cons_zero, List.set_cons_succ])
            refine takeV (i := 21) (v := .agg #[.bool nb, .string nq, .slice A5 n5 d5]) (by (simp only [List.getElem?_toArray, List.getElem?_cons_succ, List.getElem?_cons_zero]); rfl) (by kernel_rfl) (by kernel_rfl) (by kernel_rfl) (by rfl) (fun _ _ _ h => h) (Or.inl ⟨by rfl, ?_⟩) hS_ (by (simp only [List.setIfInBounds_toArray, List.set_cons_succ, List.set_cons_zero]); rfl) ?_
            · intro w_ hSw_; (try dsimp only at hSw_); go_simp
            refine wpAnyH_ready (rs := [1, 22]) (by kernel_rfl) (by simp) ?_
            refine (AllReadyH.cons (o := _) (by (simp only [List.getElem?_toArray, List.getElem?_cons_succ, List.getElem?_cons_zero]); rfl) (fun K_ hK_ => ?_) (AllReadyH.cons (o := _) (by (simp only [List.getElem?_toArray, List.getElem?_cons_succ, List.getElem?_cons_zero]); rfl) (fun K_ hK_ => ?_) AllReadyH.nil))
            · have b2 := BXC.out.cell 2
              rw [if_pos (by rfl)]
              go_simp
              refine hK_.out _ _ ⟨x0, x1, x2, x3⟩ (fun hS2_ => ?_)
              clear hK_ hS_; have hS_ := hS2_; clear hS2_
              (try simp only [Act.put, List.setIfInBounds_toArray, List.set_cons_zero, List.set_cons_succ])
              clear b2
              refine wpAnyH_ready (rs := [22]) (by kernel_rfl) (by simp) ?_
              refine AllReadyH.cons (o := _) (by (simp only [List.getElem?_toArray, List.getElem?_cons_succ, List.getElem?_cons_zero]); rfl) (fun K_ hK_ => ?_) AllReadyH.nil
              rw [if_pos (by rfl)]
              go_simp
              have BX7 := Lib.hid (BXC.out.alloc (.cells #[.bool nb, .string nq, .slice A5 n5 d5] 171))
              have TM7 := Lib.hid (Blk.new w5 171 #[.bool nb, .string nq, .slice A5 n5 d5])
              have OW7 := Lib.hid (HRW.out.alloc (.cells #[.bool nb, .string nq, .slice A5 n5 d5] 171))
              have hb7 := below1 w5 (.cells #[.bool nb, .string nq, .slice A5 n5 d5] 171)
              have x0 := (hb7.cell (p := ⟨(p.add (k * 3)).block, (p.add (k * 3)).off + 2, none⟩) (by rw [block_add]; show p.block < _; omega)).trans x0
              have x1 := (hb7.cell (p := (pb.add (j * 3))) (by rw [block_add]; omega)).trans x1
              have x2 := (hb7.cell (p := ⟨(pb.add (j * 3)).block, (pb.add (j * 3)).off + 1, none⟩) (by rw [block_add]; show pb.block < _; omega)).trans x2
              have x3 := (hb7.cell (p := ⟨(pb.add (j * 3)).block, (pb.add (j * 3)).off + 2, none⟩) (by rw [block_add]; show pb.block < _; omega)).trans x3
              obtain ⟨V7, hV7⟩ : ∃ X, w5.alloc (.cells #[.bool nb, .string nq, .slice A5 n5 d5] 171) = X := ⟨_, rfl⟩
              rw [hV7] at BX7 TM7 OW7 hb7 x0 x1 x2 x3 ⊢
              clear hV7
              have hz7 := hb7.size
              refine hK_.out _ _ ⟨x0, x1, x2, x3⟩ (fun hS2_ => ?_)
              clear hK_ hS_; have hS_ := hS2_; clear hS2_
              (try simp only [Act.put, List.setIfInBounds_toArray, List.set_cons_zero, List.set_cons_succ])
              refine wpAnyH_ready (rs := [23]) (by kernel_rfl) (by simp) ?_
              refine AllReadyH.cons (o := _) (by (simp only [List.getElem?_toArray, List.getElem?_cons_succ, List.getElem?_cons_zero]); rfl) (fun K_ hK_ => ?_) AllReadyH.nil
              refine step_appZ 3 (by omega) (by rfl) _ _ _ (by rfl) (w1.heap.size + 1) 171 i0 _ 48 Tryz.underlying172 HI.out HZ.out HSZ.out HYY.out rfl (.slice Bv j bv) j (pcells ps) (by rfl) OW7.out (some ⟨w5.heap.size, 0, none⟩) 1 1 [.bool nb, .string nq, .slice A5 n5 d5] (by rfl) (srcOneP _ _ _ _ _ _ TM7.out) (by simp [Value.oneCell']) (by unfold maxLen; omega) (by omega) (by omega) ?_
              intro v8 w8 OW8 G8
              obtain ⟨g', cap', rfl⟩ := ownsRow_succ OW8
              have hlo8 : ∀ g, (Value.slice Bv j bv).ownBlock = some g → w1.heap.size + 1 ≤ g := fun g hg => (HBO.out.row.lt g hg).1
              have BX8 := Lib.hid (BX7.out.kept G8 (own_ne' (fun g h => by have := hlo8 g h; omega)))
              obtain ⟨ps', r1, r2, r3, r4, r5⟩ := copyP_more (w := w1) HBO.out.len HBO.out.eq HGQ.out HBO.out.own HBO.out.size (by omega) HB6 (belowThen HBO.out.below HB6) G3.out HT6.out HR6.out hb7 OW7.out OW8 G8
              have hz8 := G8.size
              have x0 := (G8.cell_far ⟨(p.add (k * 3)).block, (p.add (k * 3)).off + 2, none⟩ (by rw [block_add]; show p.block < _; omega) (own_ne' (fun g h => by have := hlo8 g h; rw [block_add]; show p.block ≠ _; omega))).trans x0
              have x1 := (G8.cell_far (pb.add (j * 3)) (by rw [block_add]; omega) (own_ne' (fun g h => by have := hlo8 g h; rw [block_add]; omega))).trans x1
              have x2 := (G8.cell_far ⟨(pb.add (j * 3)).block, (pb.add (j * 3)).off + 1, none⟩ (by rw [block_add]; show pb.block < _; omega) (own_ne' (fun g h => by have := hlo8 g h; rw [block_add]; show pb.block ≠ _; omega))).trans x2
              have x3 := (G8.cell_far ⟨(pb.add (j * 3)).block, (pb.add (j * 3)).off + 2, none⟩ (by rw [block_add]; show pb.block < _; omega) (own_ne' (fun g h => by have := hlo8 g h; rw [block_add]; show pb.block ≠ _; omega))).trans x3
              have R3 := Lib.hid r3; have R2 := Lib.hid r2; have R4 := Lib.hid r4; have R1 := Lib.hid r1; have R5 := Lib.hid r5
              have HOWN := Lib.hid (r3.lt g' rfl).1
              clear r1 r2 r3 r4 r5 OW8 G8
              refine hK_.out _ _ ⟨x0, x1, x2, x3⟩ (fun hS2_ => ?_)
              clear hK_ hS_; have hS_ := hS2_; clear hS2_
              (try simp only [Act.put, List.setIfInBounds_toArray, List.set_cons_zero, List.set_cons_succ])
              refine takeV (i := 24) (v := .pointer (some ⟨w1.heap.size, 2, none⟩)) (by (simp only [List.getElem?_toArray, List.getElem?_cons_succ, List.getElem?_cons_zero]); rfl) (by kernel_rfl) (by kernel_rfl) (by kernel_rfl) (by rfl) (fun _ _ _ h => h) (Or.inl ⟨by rfl, ?_⟩) hS_ (by (simp only [List.setIfInBounds_toArray, List.set_cons_succ, List.set_cons_zero]); rfl) ?_
              · intro w_ hSw_; (try dsimp only at hSw_); go_simp
              refine wpAnyH_ready (rs := [25]) (by kernel_rfl) (by simp) ?_
              refine AllReadyH.cons (o := _) (by (simp only [List.getElem?_toArray, List.getElem?_cons_succ, List.getElem?_cons_zero]); rfl) (fun K_ hK_ => ?_) AllReadyH.nil
              have b2 := BX8.out.cell 2
              have z2 := BX8.out.frozen 2
              have hg8 := HOWN.out
              rw [if_pos (by rfl)]
              go_simp
              refine hK_.out _ _ (by refine ⟨?_, ?_, ?_, ?_⟩ <;> (rw [World.cell?_of_block (Below.heap_setCell w8 ⟨w1.heap.size, 2, none⟩ _ _ (by first | (rw [block_add]; omega) | (show p.block ≠ _; rw [block_add]; omega) | (show (Addr.block _) ≠ _; simp only [block_add]; omega)))]; assumption)) (fun hS2_ => ?_)
              clear hK_ hS_; have hS_ := hS2_; clear hS2_
              (try simp only [Act.put, List.setIfInBounds_toArray, List.set_cons_zero, List.set_cons_succ])
              refine wpAnyH_done (by kernel_rfl) ?_ _
              have BON := Lib.hid (show BodyOn w1.heap.size r.1.1 A2 n' d2 r.2 w1 (j + 1) (some ⟨g', 0, none⟩) cap' ps' (w8.setCell ⟨w1.heap.size, 2, none⟩ (.slice (some ⟨g', 0, none⟩) (j + 1) cap')) from ⟨BX8.out.set 2 _, row_away R3.out (fun e => by injection e with e; simp at e; omega) _, R1.out, R2.out, (R4.out.keep (fun b h1 _ => Below.heap_setCell _ _ _ b (by simp; omega)) (Nat.le_refl _) (by rw [size_setCell]; exact Nat.le_refl _)), R5.out.setCell (Nat.le_refl _) _, by rw [size_setCell]; omega⟩)
              clear b2 z2 x0 x1 x2 x3
              go_wp2
              go_roundw
              case rel => exact ⟨j + 1, _, _, ps', by omega, by go_num, BON.out⟩
              case measure => simp [intOf]; omega
            · rw [if_pos (by rfl)]
              go_simp
              have BX7 := Lib.hid (BXC.out.alloc (.cells #[.bool nb, .string nq, .slice A5 n5 d5] 171))
              have TM7 := Lib.hid (Blk.new w5 171 #[.bool nb, .string nq, .slice A5 n5 d5])
              have OW7 := Lib.hid (HRW.out.alloc (.cells #[.bool nb, .string nq, .slice A5 n5 d5] 171))
              have hb7 := below1 w5 (.cells #[.bool nb, .string nq, .slice A5 n5 d5] 171)
              have x0 := (hb7.cell (p := ⟨(p.add (k * 3)).block, (p.add (k * 3)).off + 2, none⟩) (by rw [block_add]; show p.block < _; omega)).trans x0
              have x1 := (hb7.cell (p := (pb.add (j * 3))) (by rw [block_add]; omega)).trans x1
              have x2 := (hb7.cell (p := ⟨(pb.add (j * 3)).block, (pb.add (j * 3)).off + 1, none⟩) (by rw [block_add]; show pb.block < _; omega)).trans x2
              have x3 := (hb7.cell (p := ⟨(pb.add (j * 3)).block, (pb.add (j * 3)).off + 2, none⟩) (by rw [block_add]; show pb.block < _; omega)).trans x3
              obtain ⟨V7, hV7⟩ : ∃ X, w5.alloc (.cells #[.bool nb, .string nq, .slice A5 n5 d5] 171) = X := ⟨_, rfl⟩
              rw [hV7] at BX7 TM7 OW7 hb7 x0 x1 x2 x3 ⊢
              clear hV7
              have hz7 := hb7.size
              refine hK_.out _ _ ⟨x0, x1, x2, x3⟩ (fun hS2_ => ?_)
              clear hK_ hS_; have hS_ := hS2_; clear hS2_
              (try simp only [Act.put, List.setIfInBounds_toArray, List.set_cons_zero, List.set_cons_succ])
              refine wpAnyH_ready (rs := [1]) (by kernel_rfl) (by simp) ?_
              refine AllReadyH.cons (o := _) (by (simp only [List.getElem?_toArray, List.getElem?_cons_succ, List.getElem?_cons_zero]); rfl) (fun K_ hK_ => ?_) AllReadyH.nil
              have b2 := BX7.out.cell 2
              rw [if_pos (by rfl)]
              go_simp
              refine hK_.out _ _ ⟨x0, x1, x2, x3⟩ (fun hS2_ => ?_)
              clear hK_ hS_; have hS_ := hS2_; clear hS2_
              (try simp only [Act.put, List.setIfInBounds_toArray, List.set_cons_zero, List.set_cons_succ])
              clear b2
              refine wpAnyH_ready (rs := [23]) (by kernel_rfl) (by simp) ?_
              refine AllReadyH.cons (o := _) (by (simp only [List.getElem?_toArray, List.getElem?_cons_succ, List.getElem?_cons_zero]); rfl) (fun K_ hK_ => ?_) AllReadyH.nil
              refine step_appZ 3 (by omega) (by rfl) _ _ _ (by rfl) (w1.heap.size + 1) 171 i0 _ 48 Tryz.underlying172 HI.out HZ.out HSZ.out HYY.out rfl (.slice Bv j bv) j (pcells ps) (by rfl) OW7.out (some ⟨w5.heap.size, 0, none⟩) 1 1 [.bool nb, .string nq, .slice A5 n5 d5] (by rfl) (srcOneP _ _ _ _ _ _ TM7.out) (by simp [Value.oneCell']) (by unfold maxLen; omega) (by omega) (by omega) ?_
              intro v8 w8 OW8 G8
              obtain ⟨g', cap', rfl⟩ := ownsRow_succ OW8
              have hlo8 : ∀ g, (Value.slice Bv j bv).ownBlock = some g → w1.heap.size + 1 ≤ g := fun g hg => (HBO.out.row.lt g hg).1
              have BX8 := Lib.hid (BX7.out.kept G8 (own_ne' (fun g h => by have := hlo8 g h; omega)))
              obtain ⟨ps', r1, r2, r3, r4, r5⟩ := copyP_more (w := w1) HBO.out.len HBO.out.eq HGQ.out HBO.out.own HBO.out.size (by omega) HB6 (belowThen HBO.out.below HB6) G3.out HT6.out HR6.out hb7 OW7.out OW8 G8
              have hz8 := G8.size
              have x0 := (G8.cell_far ⟨(p.add (k * 3)).block, (p.add (k * 3)).off + 2, none⟩ (by rw [block_add]; show p.block < _; omega) (own_ne' (fun g h => by have := hlo8 g h; rw [block_add]; show p.block ≠ _; omega))).trans x0
              have x1 := (G8.cell_far (pb.add (j * 3)) (by rw [block_add]; omega) (own_ne' (fun g h => by have := hlo8 g h; rw [block_add]; omega))).trans x1
              have x2 := (G8.cell_far ⟨(pb.add (j * 3)).block, (pb.add (j * 3)).off + 1, none⟩ (by rw [block_add]; show pb.block < _; omega) (own_ne' (fun g h => by have := hlo8 g h; rw [block_add]; show pb.block ≠ _; omega))).trans x2
              have x3 := (G8.cell_far ⟨(pb.add (j * 3)).block, (pb.add (j * 3)).off + 2, none⟩ (by rw [block_add]; show pb.block < _; omega) (own_ne' (fun g h => by have := hlo8 g h; rw [block_add]; show pb.block ≠ _; omega))).trans x3
              have R3 := Lib.hid r3; have R2 := Lib.hid r2; have R4 := Lib.hid r4; have R1 := Lib.hid r1; have R5 := Lib.hid r5
              have HOWN := Lib.hid (r3.lt g' rfl).1
              clear r1 r2 r3 r4 r5 OW8 G8
              refine hK_.out _ _ ⟨x0, x1, x2, x3⟩ (fun hS2_ => ?_)
              clear hK_ hS_; have hS_ := hS2_; clear hS2_
              (try simp only [Act.put, List.setIfInBounds_toArray, List.set_cons_zero, List.set_cons_succ])
              refine takeV (i := 24) (v := .pointer (some ⟨w1.heap.size, 2, none⟩)) (by (simp only [List.getElem?_toArray, List.getElem?_cons_succ, List.getElem?_cons_zero]); rfl) (by kernel_rfl) (by kernel_rfl) (by kernel_rfl) (by rfl) (fun _ _ _ h => h) (Or.inl ⟨by rfl, ?_⟩) hS_ (by (simp only [List.setIfInBounds_toArray, List.set_cons_succ, List.set_cons_zero]); rfl) ?_
              · intro w_ hSw_; (try dsimp only at hSw_); go_simp
              refine wpAnyH_ready (rs := [25]) (by kernel_rfl) (by simp) ?_
              refine AllReadyH.cons (o := _) (by (simp only [List.getElem?_toArray, List.getElem?_cons_succ, List.getElem?_cons_zero]); rfl) (fun K_ hK_ => ?_) AllReadyH.nil
              have b2 := BX8.out.cell 2
              have z2 := BX8.out.frozen 2
              have hg8 := HOWN.out
              rw [if_pos (by rfl)]
              go_simp
              refine hK_.out _ _ (by refine ⟨?_, ?_, ?_, ?_⟩ <;> (rw [World.cell?_of_block (Below.heap_setCell w8 ⟨w1.heap.size, 2, none⟩ _ _ (by first | (rw [block_add]; omega) | (show p.block ≠ _; rw [block_add]; omega) | (show (Addr.block _) ≠ _; simp only [block_add]; omega)))]; assumption)) (fun hS2_ => ?_)
              clear hK_ hS_; have hS_ := hS2_; clear hS2_
              (try simp only [Act.put, List.setIfInBounds_toArray, List.set_cons_zero, List.set_cons_succ])
              refine wpAnyH_done (by kernel_rfl) ?_ _
              have BON := Lib.hid (show BodyOn w1.heap.size r.1.1 A2 n' d2 r.2 w1 (j + 1) (some ⟨g', 0, none⟩) cap' ps' (w8.setCell ⟨w1.heap.size, 2, none⟩ (.slice (some ⟨g', 0, none⟩) (j + 1) cap')) from ⟨BX8.out.set 2 _, row_away R3.out (fun e => by injection e with e; simp at e; omega) _, R1.out, R2.out, (R4.out.keep (fun b h1 _ => Below.heap_setCell _ _ _ b (by simp; omega)) (Nat.le_refl _) (by rw [size_setCell]; exact Nat.le_refl _)), R5.out.setCell (Nat.le_refl _) _, by rw [size_setCell]; omega⟩)
              clear b2 z2 x0 x1 x2 x3
              go_wp2
              go_roundw
              case rel => exact ⟨j + 1, _, _, ps', by omega, by go_num, BON.out⟩
              case measure => simp [intOf]; omega
        · have hje : j = m := by omega
          subst hje
          have hjI : ¬ (j : Int) < (j : Int) := by omega
          have hkI : (k : Int) < (n : Int) := by omega
          have b0 := HBO.out.box.cell 0; have b1 := HBO.out.box.cell 1; have b2 := HBO.out.box.cell 2
          have hxs : r.2.take j = r.2 := List.take_of_length_le (by rw [HPL.out]; exact Nat.le_refl _)
          obtain ⟨A3, c3, e3', hO⟩ := OwnParts.of_row HBO.out.row HBO.out.len.symm (Nat.le_refl _) HBO.out.own (Nat.le_refl _)
          injection e3' with e3' _ e4'
          subst e3'; subst e4'
          have hR2 : RuleApart wr w0.heap.size wr.heap.size ((r.1.1, A2, n', d2, r.1.2), Bv, j, bv, ps) :=
            ⟨w0.heap.size, w1.heap.size, w1.heap.size + 1, wr.heap.size, Nat.le_refl _, hz1, by omega, by omega, by omega, Nat.le_refl _, .inl (by omega), HeadApart.keep (w := w1) (lo := w0.heap.size) (hi := w1.heap.size) ⟨HN2.out, HT1.out, HR1.out⟩ (fun b _ h2 => HBO.out.below.block b h2) (Nat.le_refl _) (Nat.le_refl _), hO⟩
          have hrq : rRl ((r.1.1, A2, n', d2, r.1.2), Bv, j, bv, ps) = r := by unfold rRl; show ((r.1.1, r.1.2), ps.map pAt) = r; rw [HBO.out.eq, hxs]
          have HR2 := Lib.hid hR2; have HRQ := Lib.hid hrq
          have HRW := Lib.hid (ownsRow_up HR.out HB3.out)
          have HBW := Lib.hid (belowThen hb HB3.out)
          have hbw1 : w.heap.size ≤ wr.heap.size := by omega
          clear hxs hO hR2 hrq
          go_wp2_with (at_builtin; refine wpList_append_own _ rfl _ _ 117 rfl w.heap.size 174 i2 _ 3 64 Tryz.underlying117 hi2 hz2 hsz2 hby2 rfl (by decide) _ _ _ rfl (HRW.out.alloc _) ⟨wr.heap.size, 0, none⟩ 1 1 [.string r.1.1, .slice A2 n' d2, .slice Bv j bv] rfl rfl (three_new _ _ _ _ _) (by simp [Value.oneCell']) (by unfold maxLen; omega) (by omega) (by simp; omega) ?_; intro v' w9 hown' hgrow' _; obtain ⟨g', cap', rfl⟩ := ownsRow_succ hown'; have hown := Lib.hid hown'; have hgrow := Lib.hid hgrow'; clear hown' hgrow')
          obtain ⟨rs', r1, r2, r3, r4, r5⟩ := copyR_more HL.out HM.out HG.out HRQ.out HO.out HB3.out HBW.out HR2.out (below1 wr _) (HRW.out.alloc _) hown.out hgrow.out
          go_roundw
          case rel => exact ⟨k + 1, _, _, rs', by omega, by go_num, rfl, r3, r1, r2, r4, r5⟩
          case measure => simp [intOf]; omega
    · have hkn : k = n := by omega
      subst hkn
      have hxs : xs.take k = xs := List.take_of_length_le (by have := HL0.out; omega)
      obtain ⟨A3, c3, e3, hO⟩ := RulesApart.of_row HR.out HL.out.symm (Nat.le_refl _) HO.out (Nat.le_refl _)
      injection e3 with e3 _ e4
      subst e3; subst e4
      have HX := Lib.hid hxs; clear hxs
      go_wp2
      go_ret
      exact ⟨Av, cv, rs, by rw [HL0.out]; rfl, by rw [HL0.out]; exact hO, by rw [HM.out]; exact HX.out, hb⟩

end Go.Proofs.YtogonjkklioaaaaGreatDoor

