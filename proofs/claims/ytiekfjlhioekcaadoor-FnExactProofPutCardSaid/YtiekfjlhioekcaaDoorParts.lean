/-
  Parts: the law's own sizes, copies and comparisons of parts and of rules.
  Parts: the law's own comparison of parts; rules: its sizes, copies and comparisons of one rule.
-/
import Derived.Test.YtiekfjlhioekcaaDoorMem
import Derived.Test.YtiekfjlhioekcaaDoorEq
import Derived.Deep.RegionWith
namespace Go.Proofs.YtiekfjlhioekcaaDoor
open Go.RowKit

/-- Each has few terms. -/
def SmallParts (n : Nat) (xs : List Pt) : Prop := n ≤ 1048576 ∧ ∀ q ∈ xs, q.2.2.length ≤ 1048576



/-- A part by value, its terms in memory of their own. -/
def PartPost (b : Bool) (nm : ByteArray) (n : Nat) (ts : List Tm) (w : World) (e : Ending) (w' : World) : Prop := ∃ g, e = .returned (.agg #[.bool b, .string nm, .slice (some ⟨g, 0, none⟩) n n]) ∧ w.heap.size ≤ g ∧ OwnTerms w' g n ts ∧ Below w.heap.size w w'



/-- A copy of parts, in memory of its own. -/
def PartSPost (n : Nat) (xs : List Pt) (w : World) (e : Ending) (w' : World) : Prop := ∃ g, e = .returned (.slice (some ⟨g, 0, none⟩) n n) ∧ w.heap.size ≤ g ∧ IsParts w' w.heap.size w'.heap.size (some ⟨g, 0, none⟩) n n xs ∧ Below w.heap.size w w'


end Go.Proofs.YtiekfjlhioekcaaDoor

namespace Go.Proofs.YtiekfjlhioekcaaDoor
open Go.RowKit

def partEq (a b : Pt) : Bool := (a.1 == b.1) && atomEq a.2 b.2

theorem partEq_refl (a : Pt) : partEq a a = true := by unfold partEq; simp [atomEq_refl]



end Go.Proofs.YtiekfjlhioekcaaDoor

