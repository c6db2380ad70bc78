/-
  Facts, in the model: an atom that is ok, without variables; facts that are ok.
-/
import Derived.Test.YtiekfjlhioekcaaDoorCmp2
import Derived.Test.YtiekfjlhioekcaaDoorEq
import Derived.Deep.RegionHeld3
namespace Go.Proofs.YtiekfjlhioekcaaDoor
open Go.RowKit

/-- No term is a variable. -/
def wordsB (ts : List Tm) : Bool := ts.all fun t => !t.1

/-- An atom that is ok, without variables. -/
def factB (a : At) : Bool := wordsB a.2 && atomB a

theorem wordsB_snoc {ts : List Tm} {k : Nat} {t : Tm} (h : ts[k]? = some t) (hr : wordsB (ts.take k) = true) (ht : t.1 = false) : wordsB (ts.take (k + 1)) = true := by
  obtain ⟨h1, h2⟩ := List.getElem?_eq_some_iff.1 h
  unfold wordsB at *
  rw [List.take_succ_eq_append_getElem h1, List.all_append, hr, h2]; simp [ht]

theorem wordsB_no {ts : List Tm} {k : Nat} {t : Tm} (h : ts[k]? = some t) (ht : t.1 = true) : wordsB ts = false := by
  unfold wordsB
  rw [List.all_eq_false]
  exact ⟨t, List.mem_of_getElem? h, by simp [ht]⟩

theorem wordsB_all {ts : List Tm} {k n : Nat} (h : ts.length = n) (hk : ¬ k < n) (hr : wordsB (ts.take k) = true) : wordsB ts = true := by
  rwa [List.take_of_length_le (by omega)] at hr


/-- Each stands behind the one ahead of it. -/
def risesB : List At → Bool
  | a :: b :: l => decide (atomCmp a b < 0) && risesB (b :: l)
  | _ => true

/-- Facts that are ok, at most m. -/
def factsB (m : Nat) (xs : List At) : Bool := (xs.all factB && risesB xs) && decide (xs.length ≤ m)

theorem risesB_snoc : ∀ {xs : List At} {k : Nat} {a b : At}, xs[k]? = some a → xs[k + 1]? = some b → risesB (xs.take (k + 1)) = true → atomCmp a b < 0 → risesB (xs.take (k + 2)) = true
  | [], _, _, _, h, _, _, _ => by simp at h
  | [_], _, _, _, _, h, _, _ => by simp at h
  | x :: y :: l, 0, a, b, h, h', _, hc => by
    simp at h h'
    subst h; subst h'
    simp [risesB, hc]
  | x :: y :: l, k + 1, a, b, h, h', hr, hc => by
    have hr' : (decide (atomCmp x y < 0) && risesB ((y :: l).take (k + 1))) = true := by
      have : (x :: y :: l).take (k + 1 + 1) = x :: y :: l.take k := rfl
      rw [this] at hr
      exact hr
    rw [Bool.and_eq_true] at hr'
    have ih := risesB_snoc (xs := y :: l) (k := k) (a := a) (b := b) (by simpa using h) (by simpa using h') hr'.2 hc
    have e : (x :: y :: l).take (k + 1 + 2) = x :: y :: l.take (k + 1) := rfl
    rw [e]
    show (decide (atomCmp x y < 0) && risesB ((y :: l).take (k + 2))) = true
    rw [hr'.1, ih]; rfl

theorem risesB_no : ∀ {xs : List At} {k : Nat} {a b : At}, xs[k]? = some a → xs[k + 1]? = some b → ¬ atomCmp a b < 0 → risesB xs = false
  | [], _, _, _, h, _, _ => by simp at h
  | [_], _, _, _, _, h, _ => by simp at h
  | x :: y :: l, 0, a, b, h, h', hc => by
    simp at h h'
    subst h; subst h'
    simp [risesB, hc]
  | x :: y :: l, k + 1, a, b, h, h', hc => by
    have ih := risesB_no (xs := y :: l) (k := k) (a := a) (b := b) (by simpa using h) (by simpa using h') hc
    simp [risesB, ih]

theorem allB_snoc {α : Type} {P : α → Bool} {xs : List α} {k : Nat} {q : α} (h : xs[k]? = some q) (hr : (xs.take k).all P = true) (hq : P q = true) : (xs.take (k + 1)).all P = true := by
  obtain ⟨h1, h2⟩ := List.getElem?_eq_some_iff.1 h
  rw [List.take_succ_eq_append_getElem h1, List.all_append, hr, h2]; simp [hq]

theorem allB_no {α : Type} {P : α → Bool} {xs : List α} {k : Nat} {q : α} (h : xs[k]? = some q) (hq : P q = false) : xs.all P = false := by
  rw [List.all_eq_false]
  exact ⟨q, List.mem_of_getElem? h, by simp [hq]⟩

theorem factsB_no {m : Nat} {xs : List At} {k : Nat} {q : At} (h : xs[k]? = some q) (hq : factB q = false) : factsB m xs = false := by
  unfold factsB; rw [allB_no h hq]; rfl

theorem factsB_order {m : Nat} {xs : List At} {k : Nat} {a b : At} (h : xs[k]? = some a) (h' : xs[k + 1]? = some b) (hc : 0 ≤ atomCmp a b) : factsB m xs = false := by
  unfold factsB; rw [risesB_no h h' (by omega)]; simp

theorem factsB_long {m : Nat} {xs : List At} (h : m < xs.length) : factsB m xs = false := by
  unfold factsB; rw [decide_eq_false (by omega)]; simp

theorem factsB_end {m n k : Nat} {xs : List At} (hl : xs.length = n) (hk : ¬ k < n) (h : (xs.take k).all factB = true) (h' : risesB (xs.take k) = true) : factsB m xs = decide (n ≤ m) := by
  rw [List.take_of_length_le (by omega)] at h h'
  unfold factsB; rw [h, h', hl]; rfl

theorem rises_next {xs : List At} {k : Nat} (h : risesB (xs.take k) = true) (hk : k = 0) : risesB (xs.take (k + 1)) = true := by
  subst hk
  cases xs <;> rfl

end Go.Proofs.YtiekfjlhioekcaaDoor
