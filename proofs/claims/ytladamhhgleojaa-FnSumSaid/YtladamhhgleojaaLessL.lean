/-
  Facts that are not among others. (Of no code.)
-/
import Derived.Test.YtladamhhgleojaaHasL
namespace Go.Proofs.Ytladamhhgleojaa
open Go.RowKit

/-- Facts that are not among others. -/
def lessL (xs ys : List At) : List At := xs.filter fun a => !hasB ys a

theorem less_yes {xs ys : List At} {k : Nat} {q : At} (h : xs[k]? = some q) (hq : hasB ys q = false) : lessL (xs.take (k + 1)) ys = lessL (xs.take k) ys ++ [q] := by
  unfold lessL; rw [List.take_add_one, h, List.filter_append]; simp [hq]
theorem less_no {xs ys : List At} {k : Nat} {q : At} (h : xs[k]? = some q) (hq : hasB ys q = true) : lessL (xs.take (k + 1)) ys = lessL (xs.take k) ys := by
  unfold lessL; rw [List.take_add_one, h, List.filter_append]; simp [hq]
theorem less_len (xs ys : List At) (k : Nat) : (lessL (xs.take k) ys).length ≤ k := Nat.le_trans (List.length_filter_le _ _) (by rw [List.length_take]; omega)
theorem less_le (xs ys : List At) : (lessL xs ys).length ≤ xs.length := List.length_filter_le _ _

end Go.Proofs.Ytladamhhgleojaa
