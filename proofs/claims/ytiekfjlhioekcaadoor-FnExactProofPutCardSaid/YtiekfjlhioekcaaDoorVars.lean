/-
  The variables of an atom, as the program goes through them: an iterator of its own; and what the program calls a fact.
  The variables of an atom, as the program goes through them: each a text that a map may have as a key.
-/
import Derived.RangeFuncNested
import Derived.RangeFuncBound
import Derived.RangeFuncCalls
import Derived.RangeFuncLeaves
import Derived.RangeFuncFrom
import Derived.Shelf.Abstract
import Derived.Shelf.RegionOpen
import Derived.WalkKit
import Derived.OwnWalkIn
import Derived.TacticsInMore
import Derived.LoopNIn
import Derived.LoopIn
import Derived.Test.YtiekfjlhioekcaaDoorFactSpec
namespace Go.Proofs.YtiekfjlhioekcaaDoor
open Go.RowKit Go.Shelf
attribute [local go_sem] Oper.semAt_some

/-- The names of the variables, one behind the other. -/
def varsOf (ts : List Tm) : List ByteArray := (ts.filter (·.1)).map (·.2)

theorem varsOf_no {ts : List Tm} {k : Nat} {t : Tm} (h : ts[k]? = some t) (ht : t.1 = false) : varsOf (ts.take (k + 1)) = varsOf (ts.take k) := by
  obtain ⟨h1, h2⟩ := List.getElem?_eq_some_iff.1 h
  unfold varsOf
  rw [List.take_succ_eq_append_getElem h1, List.filter_append, h2]; simp [ht]

theorem varsOf_yes {ts : List Tm} {k : Nat} {t : Tm} (h : ts[k]? = some t) (ht : t.1 = true) : varsOf (ts.take (k + 1)) = varsOf (ts.take k) ++ [t.2] := by
  obtain ⟨h1, h2⟩ := List.getElem?_eq_some_iff.1 h
  unfold varsOf
  rw [List.take_succ_eq_append_getElem h1, List.filter_append, h2]; simp [ht]

theorem varsOf_pre (ts : List Tm) (k : Nat) : varsOf (ts.take k) <+: varsOf ts := by
  conv => rhs; rw [← List.take_append_drop k ts]
  unfold varsOf
  rw [List.filter_append, List.map_append]
  exact List.prefix_append _ _

theorem varsOf_len (ts : List Tm) (k : Nat) : (varsOf (ts.take k)).length ≤ k := by
  unfold varsOf
  rw [List.length_map]
  exact Nat.le_trans (List.length_filter_le _ _) (by rw [List.length_take]; omega)

theorem varsOf_none {ts : List Tm} : wordsB ts = true ↔ varsOf ts = [] := by
  unfold wordsB varsOf
  rw [List.map_eq_nil_iff, List.filter_eq_nil_iff, List.all_eq_true]
  exact ⟨fun h t ht => by have := h t ht; simpa using this, fun h t ht => by have := h t ht; simpa using this⟩

theorem varsOf_all {ts : List Tm} {k n : Nat} (h : ts.length = n) (hk : ¬ k < n) : varsOf (ts.take k) = varsOf ts := by
  rw [List.take_of_length_le (by omega)]


theorem grownOf {B : Nat} {a b : World} (h : Below B a b) (hB : a.heap.size ≤ B) : a.grownBy b none := ⟨h.os, h.tape, h.output, h.size, fun i hi _ => h.block i (Nat.lt_of_lt_of_le hi hB)⟩




end Go.Proofs.YtiekfjlhioekcaaDoor

namespace Go.Proofs.YtiekfjlhioekcaaDoor
open Go.RowKit Go.Shelf
attribute [local go_sem] Oper.semAt_some

/-- A text that is none too long. -/
abbrev SmallT := { x : ByteArray // x.size ≤ maxLen }



end Go.Proofs.YtiekfjlhioekcaaDoor

