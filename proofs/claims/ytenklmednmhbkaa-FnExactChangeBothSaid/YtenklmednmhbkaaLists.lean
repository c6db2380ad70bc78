/-
  Lists: two lists held against each other, and what all of a beginning have.
-/
import Derived.ProofKit
namespace Go.Proofs.Ytenklmednmhbkaa

theorem all_snoc {α : Type} {P : α → Prop} {xs : List α} {k : Nat} {x : α} (h : xs[k]? = some x) (hr : ∀ q ∈ xs.take k, P q) (hx : P x) : ∀ q ∈ xs.take (k + 1), P q := by
  obtain ⟨h1, h2⟩ := List.getElem?_eq_some_iff.1 h
  rw [List.take_succ_eq_append_getElem h1, h2]
  intro q hq
  rcases List.mem_append.1 hq with hq | hq
  · exact hr q hq
  · rw [List.mem_singleton.1 hq]; exact hx

/-- Two lists, element by element. -/
def listEq {α : Type} (eq : α → α → Bool) : List α → List α → Bool
  | [], [] => true
  | a :: l, b :: m => eq a b && listEq eq l m
  | _, _ => false

section
variable {α : Type} {eq : α → α → Bool}

theorem listEq_refl (h : ∀ a, eq a a = true) : ∀ l : List α, listEq eq l l = true
  | [] => rfl
  | a :: l => by simp [listEq, h a, listEq_refl h l]

theorem listEq_len : ∀ {l m : List α}, l.length ≠ m.length → listEq eq l m = false
  | [], [], h => absurd rfl h
  | [], _ :: _, _ => rfl
  | _ :: _, [], _ => rfl
  | _ :: l, _ :: m, h => by
    have := listEq_len (l := l) (m := m) (by simpa using h)
    simp [listEq, this]

theorem listEq_end {l m : List α} {n k : Nat} (h : l.length = n) (h' : m.length = n) (hd : listEq eq (l.drop k) (m.drop k) = listEq eq l m) (hk : ¬ k < n) : true = listEq eq l m := by
  rw [← hd, List.drop_eq_nil_of_le (by omega), List.drop_eq_nil_of_le (by omega)]; rfl

theorem listEq_step {l m : List α} {k : Nat} {t u : α} (h : l[k]? = some t) (h' : m[k]? = some u) : listEq eq (l.drop k) (m.drop k) = (eq t u && listEq eq (l.drop (k + 1)) (m.drop (k + 1))) := by
  obtain ⟨h1, h2⟩ := List.getElem?_eq_some_iff.1 h
  obtain ⟨h3, h4⟩ := List.getElem?_eq_some_iff.1 h'
  rw [List.drop_eq_getElem_cons h1, List.drop_eq_getElem_cons h3, h2, h4]; rfl

theorem listEq_no {l m : List α} {k : Nat} {t u : α} (h : l[k]? = some t) (h' : m[k]? = some u) (hd : listEq eq (l.drop k) (m.drop k) = listEq eq l m) (he : (!eq t u) = true) : false = listEq eq l m := by
  rw [← hd, listEq_step h h', show eq t u = false by simpa using he]; rfl

theorem listEq_on {l m : List α} {k : Nat} {t u : α} (h : l[k]? = some t) (h' : m[k]? = some u) (hd : listEq eq (l.drop k) (m.drop k) = listEq eq l m) (he : (!eq t u) = false) : listEq eq (l.drop (k + 1)) (m.drop (k + 1)) = listEq eq l m := by
  rw [← hd, listEq_step h h', show eq t u = true by simpa using he]; rfl
end

end Go.Proofs.Ytenklmednmhbkaa
