/-
  What comes in: a change by value, opened to its two lists in memory.
-/
import Derived.Test.YtmaaogoeapfepaaDoorOpenA
namespace Go.Proofs.YtmaaogoeapfepaaDoor
open Go.ChangeShapes Go.WideShapes Go.ChangeAt Go.RowKit Go.Deep Go.Joins

section
variable {H : Type} {enc : TypeId × Value → H} {w : World} {base : Nat} {spare : Nat → Bool} {held : Bool}

theorem Tryd.cellsChange : Tryd.prog.cellsOf 24 = 2 := by kernel_rfl

set_option maxRecDepth 100000 in
/-- A change by value, opened. -/
theorem open_change {b0 : Nat} {v : Value} {d : DataW H} {p : List MemPlace} (hv : Value.okWide Tryd.prog w .any b0 24 v) (h : DataW.Trod enc Tryd.prog w base spare held 24 v d p) :
    ∃ A n c B n' c' xs ys, v = .agg #[.slice A n c, .slice B n' c'] ∧ IsAtoms w 0 w.heap.size A n c xs ∧ IsAtoms w 0 w.heap.size B n' c' ys := by
  obtain ⟨v0, v1, y0, y1, m, rfl, _, _, h0, h1⟩ := open_agg2 Tryd.underlying24 (by kernel_rfl) Tryd.cellsChange hv h
  obtain ⟨A, n, c, xs, hv0, ht⟩ := open_atomsF h0
  obtain ⟨B, n', c', ys, hv1, ht'⟩ := open_atomsF h1
  exact ⟨A, n, c, B, n', c', xs, ys, by rw [hv0, hv1], ht, ht'⟩
end

end Go.Proofs.YtmaaogoeapfepaaDoor
