/-
  Lists of atoms, each with the place of its terms: as they are handed on; two such lists, merged.
-/
import Derived.Test.YtiekfjlhioekcaaDoorSorted
import Derived.Test.YtiekfjlhioekcaaDoorFactsOk
import Derived.Deep.Slices
namespace Go.Proofs.YtiekfjlhioekcaaDoor
open Go.RowKit Go.Deep

/-- An atom by value: its name, its slice, and the terms that this reads as. -/
abbrev Rf := ByteArray × Option Addr × Nat × Nat × List Tm

def rAt (r : Rf) : At := (r.1, r.2.2.2.2)
def rVal (r : Rf) : Value := .agg #[.string r.1, .slice r.2.1 r.2.2.1 r.2.2.2.1]

def RefE (w : World) (lo hi : Nat) (p : Addr) (r : Rf) : Prop :=
  w.cell? p = some (.string r.1) ∧ r.1.size ≤ maxLen ∧ w.cell? (nextTo p 1) = some (.slice r.2.1 r.2.2.1 r.2.2.2.1) ∧ IsTerms w lo hi r.2.1 r.2.2.1 r.2.2.2.1 r.2.2.2.2

theorem RefE.stays : Stays RefE := by
  intro w w' lo hi lo' hi' p a ⟨h1, h2, h3, h4⟩ hp1 hp2 hk hl hh
  exact ⟨(hk p hp1 hp2).trans h1, h2, (hk (nextTo p 1) hp1 hp2).trans h3, h4.keep hk hl hh⟩

theorem RefE.out {w : World} {lo hi : Nat} {p : Addr} {r : Rf} (h : RefE w lo hi p r) : w.cell? p = some (.string r.1) ∧ r.1.size ≤ maxLen ∧ w.cell? ⟨p.block, p.off + 1, none⟩ = some (.slice r.2.1 r.2.2.1 r.2.2.2.1) ∧ IsTerms w lo hi r.2.1 r.2.2.1 r.2.2.2.1 r.2.2.2.2 := h

abbrev IsRefs := IsSeq 2 RefE

theorem IsRefs.atoms {w : World} {lo hi n c : Nat} {A : Option Addr} {rs : List Rf} (h : IsRefs w lo hi A n c rs) : IsAtoms w lo hi A n c (rs.map rAt) := by
  obtain ⟨h1, h2, h3, h4⟩ := h
  refine ⟨by simpa using h1, h2, h3, fun hn => ?_⟩
  obtain ⟨p, hp, hl, hh, he⟩ := h4 hn
  refine ⟨p, hp, hl, hh, fun i x hx => ?_⟩
  rw [List.getElem?_map] at hx
  obtain ⟨r, hr, rfl⟩ := Option.map_eq_some_iff.1 hx
  obtain ⟨e1, e2, e3, e4⟩ := he i r hr
  exact ⟨e1, e2, _, _, _, e3, e4⟩

theorem refs_of {w : World} {lo hi n c : Nat} {A : Option Addr} {xs : List At} (h : IsAtoms w lo hi A n c xs) : ∃ rs, IsRefs w lo hi A n c rs ∧ rs.map rAt = xs := by
  obtain ⟨h1, h2, h3, h4⟩ := h
  by_cases hn : 0 < n
  · obtain ⟨p, hp, hl, hh, he⟩ := h4 hn
    have each : ∀ i, i < n → ∃ r : Rf, RefE w lo hi (p.add (i * 2)) r ∧ xs[i]? = some (rAt r) := by
      intro i hi'
      have hx : xs[i]? = some xs[i] := List.getElem?_eq_getElem (by omega)
      obtain ⟨e1, e2, B, m, d, e3, e4⟩ := he i _ hx
      exact ⟨(xs[i].1, B, m, d, xs[i].2), ⟨e1, e2, e3, e4⟩, hx⟩
    obtain ⟨f, hf⟩ := choose_lt each
    refine ⟨(List.range n).map f, ⟨by simp, h2, h3, fun _ => ⟨p, hp, hl, hh, fun i r hr => ?_⟩⟩, ?_⟩
    · have hil : i < n := by
        have := (List.getElem?_eq_some_iff.1 hr).1
        simpa using this
      have hr' : f i = r := by simpa [hil] using hr
      rw [← hr']
      exact (hf i hil).1
    · apply List.ext_getElem?
      intro i
      by_cases hil : i < n
      · rw [(hf i hil).2]; simp [hil]
      · rw [List.getElem?_eq_none (by simp; omega), List.getElem?_eq_none (by omega)]
  · have hn0 : n = 0 := by omega
    subst hn0
    have : xs = [] := List.eq_nil_of_length_eq_zero h1
    subst this
    exact ⟨[], ⟨rfl, h2, h3, fun hn => absurd hn (by omega)⟩, rfl⟩

theorem add_add (p : Addr) (a b : Nat) : (p.add a).add b = p.add (a + b) := by
  unfold Addr.add
  by_cases ha : a = 0
  · subst ha; simp
  · by_cases hb : b = 0
    · subst hb; simp [ha]
    · simp [ha, hb, Nat.add_assoc]

/-- The first one, and the others. -/
theorem IsRefs.first {w : World} {lo hi n c : Nat} {A : Option Addr} {r : Rf} {rs : List Rf} (h : IsRefs w lo hi A n c (r :: rs)) :
    ∃ p, A = some p ∧ lo ≤ p.block ∧ p.block < hi ∧ 0 < n ∧ RefE w lo hi p r ∧ IsRefs w lo hi (some (p.add 2)) (n - 1) (c - 1) rs := by
  obtain ⟨h1, h2, h3, h4⟩ := h
  have hn : 0 < n := by rw [← h1]; simp
  obtain ⟨p, hp, hl, hh, he⟩ := h4 hn
  have e0 := he 0 r rfl
  have z : p.add (0 * 2) = p := by unfold Addr.add; simp
  rw [z] at e0
  refine ⟨p, hp, hl, hh, hn, e0, by simp at h1; omega, by omega, by omega, fun _ => ⟨_, rfl, by rw [block_add]; exact hl, by rw [block_add]; exact hh, fun i x hx => ?_⟩⟩
  rw [add_add, show 2 + i * 2 = (i + 1) * 2 by omega]
  exact he (i + 1) x (by simpa using hx)

/-- In which of two lists the next one stands. -/
def sideN : List At → List At → Nat
  | _, [] => 0
  | [], _ :: _ => 1
  | a :: _, b :: _ => if atomCmp a b < 0 then 0 else if 0 < atomCmp a b then 1 else 2

/-- Two lists, merged; of each where it stands. -/
def mergeR : List Rf → List Rf → List (Rf × Nat)
  | ra, [] => ra.map fun r => (r, 0)
  | [], b :: rb => (b :: rb).map fun r => (r, 1)
  | a :: ra, b :: rb =>
    if atomCmp (rAt a) (rAt b) < 0 then (a, 0) :: mergeR ra (b :: rb)
    else if 0 < atomCmp (rAt a) (rAt b) then (b, 1) :: mergeR (a :: ra) rb
    else (a, 2) :: mergeR ra rb
termination_by ra rb => ra.length + rb.length

theorem merge_nil (ra : List Rf) : mergeR ra [] = ra.map fun r => (r, 0) := by rw [mergeR]

theorem merge_left (rb : List Rf) : mergeR [] rb = rb.map fun r => (r, 1) := by
  cases rb with
  | nil => rw [merge_nil]; rfl
  | cons b rb => rw [mergeR]

theorem merge_first {a : Rf} {ra rb : List Rf} (h : sideN ((a :: ra).map rAt) (rb.map rAt) = 0) : mergeR (a :: ra) rb = (a, 0) :: mergeR ra rb := by
  cases rb with
  | nil => rw [merge_nil, merge_nil]; rfl
  | cons b rb =>
    have h' : (if atomCmp (rAt a) (rAt b) < 0 then 0 else if 0 < atomCmp (rAt a) (rAt b) then 1 else 2) = 0 := h
    rw [mergeR]
    by_cases hc : atomCmp (rAt a) (rAt b) < 0
    · rw [if_pos hc]
    · rw [if_neg hc] at h'; split at h' <;> simp at h'

theorem merge_second {b : Rf} {ra rb : List Rf} (h : sideN (ra.map rAt) ((b :: rb).map rAt) = 1) : mergeR ra (b :: rb) = (b, 1) :: mergeR ra rb := by
  cases ra with
  | nil => rw [merge_left, merge_left]; rfl
  | cons a ra =>
    have h' : (if atomCmp (rAt a) (rAt b) < 0 then 0 else if 0 < atomCmp (rAt a) (rAt b) then 1 else 2) = 1 := h
    rw [mergeR]
    by_cases hc : atomCmp (rAt a) (rAt b) < 0
    · rw [if_pos hc] at h'; simp at h'
    · rw [if_neg hc] at h' ⊢
      by_cases hc' : 0 < atomCmp (rAt a) (rAt b)
      · rw [if_pos hc']
      · rw [if_neg hc'] at h'; simp at h'

theorem merge_both {a b : Rf} {ra rb : List Rf} (h : sideN ((a :: ra).map rAt) ((b :: rb).map rAt) = 2) : mergeR (a :: ra) (b :: rb) = (a, 2) :: mergeR ra rb := by
  have h' : (if atomCmp (rAt a) (rAt b) < 0 then 0 else if 0 < atomCmp (rAt a) (rAt b) then 1 else 2) = 2 := h
  rw [mergeR]
  by_cases hc : atomCmp (rAt a) (rAt b) < 0
  · rw [if_pos hc] at h'; simp at h'
  · rw [if_neg hc] at h' ⊢
    by_cases hc' : 0 < atomCmp (rAt a) (rAt b)
    · rw [if_pos hc'] at h'; simp at h'
    · rw [if_neg hc']

end Go.Proofs.YtiekfjlhioekcaaDoor
