/-
  Facts in order: where one of them stands, and whether it is there.
-/
import Derived.Test.YtiekfjlhioekcaaDoorFactSpec
import Derived.Test.YtiekfjlhioekcaaDoorOrder
namespace Go.Proofs.YtiekfjlhioekcaaDoor

theorem atomCmp_strict {a b c : At} (h : atomCmp a b < 0) (h' : atomCmp b c ≤ 0) : atomCmp a c < 0 := by
  have h1 : atomCmp a c ≤ 0 := atomCmp_on (Int.le_of_lt h) h'
  by_cases e : atomCmp a c = 0
  · have h2 := atomCmp_anti a c
    have h3 := atomCmp_on (a := b) (b := c) (c := a) h' (by omega)
    have h4 := atomCmp_anti a b
    omega
  · omega

/-- Is one of them the same? -/
def hasB (xs : List At) (a : At) : Bool := xs.any fun x => decide (atomCmp x a = 0)

theorem rises_head : ∀ {x : At} {l : List At}, risesB (x :: l) = true → ∀ y ∈ l, atomCmp x y < 0
  | x, [], _, y, hy => by simp at hy
  | x, z :: l, h, y, hy => by
    have h' : (decide (atomCmp x z < 0) && risesB (z :: l)) = true := h
    rw [Bool.and_eq_true, decide_eq_true_eq] at h'
    rcases List.mem_cons.1 hy with rfl | hy
    · exact h'.1
    · have := rises_head h'.2 y hy
      exact atomCmp_strict h'.1 (by omega)

theorem rises_tail {x : At} {l : List At} (h : risesB (x :: l) = true) : risesB l = true := by
  cases l with
  | nil => rfl
  | cons z l =>
    have h' : (decide (atomCmp x z < 0) && risesB (z :: l)) = true := h
    rw [Bool.and_eq_true] at h'
    exact h'.2

theorem rises_pair : ∀ {xs : List At}, risesB xs = true → ∀ (i j : Nat) (x y : At), i < j → xs[i]? = some x → xs[j]? = some y → atomCmp x y < 0
  | [], _, i, j, x, y, _, h, _ => by simp at h
  | z :: l, h, 0, j + 1, x, y, _, hx, hy => by
    simp at hx hy
    subst hx
    exact rises_head h y (List.mem_of_getElem? hy)
  | z :: l, h, i + 1, j + 1, x, y, hij, hx, hy => rises_pair (rises_tail h) i j x y (by omega) (by simpa using hx) (by simpa using hy)
  | z :: l, h, i, 0, x, y, hij, _, _ => absurd hij (by omega)

/-- The place at which one would stand tells whether it is there. -/
theorem hasB_at {xs : List At} {a x : At} {k : Nat} (h : risesB xs = true) (hlow : ∀ j y, j < k → xs[j]? = some y → atomCmp y a < 0) (hx : xs[k]? = some x) (hk : 0 ≤ atomCmp x a) : hasB xs a = decide (atomCmp x a = 0) := by
  by_cases e : atomCmp x a = 0
  · rw [decide_eq_true e]
    unfold hasB
    rw [List.any_eq_true]
    exact ⟨x, List.mem_of_getElem? hx, by simp [e]⟩
  · rw [decide_eq_false e]
    unfold hasB
    rw [List.any_eq_false]
    intro y hy
    obtain ⟨j, hj⟩ := List.getElem?_of_mem hy
    simp only [decide_eq_true_eq]
    intro e'
    rcases Nat.lt_trichotomy j k with hlt | rfl | hgt
    · have := hlow j y hlt hj; omega
    · rw [hx] at hj; injection hj with hj; subst hj; exact e e'
    · have h1 := rises_pair h k j x y hgt hx hj
      have h2 := atomCmp_strict h1 (show atomCmp y a ≤ 0 by omega)
      omega

theorem hasB_end {xs : List At} {a : At} {k n : Nat} (hl : xs.length = n) (hlow : ∀ j y, j < k → xs[j]? = some y → atomCmp y a < 0) (hk : ¬ k < n) : hasB xs a = false := by
  unfold hasB
  rw [List.any_eq_false]
  intro y hy
  obtain ⟨j, hj⟩ := List.getElem?_of_mem hy
  have := hlow j y (by have := (List.getElem?_eq_some_iff.1 hj).1; omega) hj
  simp only [decide_eq_true_eq]
  omega

theorem low_snoc {xs : List At} {a x : At} {k : Nat} (hlow : ∀ j y, j < k → xs[j]? = some y → atomCmp y a < 0) (hx : xs[k]? = some x) (h : atomCmp x a < 0) : ∀ j y, j < k + 1 → xs[j]? = some y → atomCmp y a < 0 := by
  intro j y hj hy
  by_cases e : j = k
  · subst e; rw [hx] at hy; injection hy with hy; subst hy; exact h
  · exact hlow j y (by omega) hy

/-- In order: all ahead of one that stands ahead do so as well. -/
theorem low_all {xs : List At} {a x : At} {k : Nat} (hr : risesB xs = true) (hx : xs[k]? = some x) (h : atomCmp x a < 0) : ∀ j y, j < k + 1 → xs[j]? = some y → atomCmp y a < 0 := by
  intro j y hj hy
  by_cases e : j = k
  · subst e; rw [hx] at hy; injection hy with hy; subst hy; exact h
  · exact atomCmp_strict (rises_pair hr j k y x (by omega) hy hx) (by omega)

end Go.Proofs.YtiekfjlhioekcaaDoor
