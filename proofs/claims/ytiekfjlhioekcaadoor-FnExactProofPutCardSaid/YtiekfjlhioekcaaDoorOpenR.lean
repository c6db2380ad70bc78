/-
  What comes in: parts and rules, opened.
-/
import Derived.Test.YtiekfjlhioekcaaDoorOpen
import Derived.Test.YtiekfjlhioekcaaDoorRule
namespace Go.Proofs.YtiekfjlhioekcaaDoor
open Go.ChangeShapes Go.WideShapes Go.ChangeAt Go.RowKit Go.Deep Go.Joins

theorem Tryd.cellsBool : Tryd.prog.cellsOf 4 = 1 := by kernel_rfl
theorem Tryd.cellsString : Tryd.prog.cellsOf 9 = 1 := by kernel_rfl
theorem Tryd.cellsTermS : Tryd.prog.cellsOf 22 = 1 := by kernel_rfl

section
variable {H : Type} {enc : TypeId × Value → H} {w : World} {base : Nat} {spare : Nat → Bool} {held : Bool}

/-- The two cells of an atom, opened. -/
theorem open_atom2 {fuel : Nat} {v0 v1 : Value} {x : DataW H × List MemPlace} (h : DataW.trod enc Tryd.prog w base spare held fuel 24 [v0, v1] = some x) :
    ∃ nm A n c ts, v0 = .string nm ∧ v1 = .slice A n c ∧ nm.size ≤ maxLen ∧ IsTerms w 0 w.heap.size A n c ts := by
  obtain ⟨y0, y1, n, _, _, h0, h1⟩ := trod_struct2 Tryd.underlying24 h
  simp [Tryd.cellsString, Tryd.cellsTermS] at h0 h1
  obtain ⟨s, hs, _, hz⟩ := DataW.trod_string Tryd.underlying9 h0
  simp only [List.cons.injEq, and_true] at hs
  obtain ⟨A, k, c, ts, hv1, ht⟩ := open_terms h1
  exact ⟨s, A, k, c, ts, hs, hv1, hz, ht⟩

/-- The cell k behind an address, in either spelling. -/
theorem next_eq (a : Addr) (k : Nat) (hk : k ≠ 0) : nextTo a k = a.add k := by
  unfold nextTo Addr.add
  simp [hk]


end

end Go.Proofs.YtiekfjlhioekcaaDoor
