/-
  What comes in: a body, opened.
-/
import Derived.Test.YtfghmphaldefbaaOpenR
namespace Go.Proofs.Ytfghmphaldefbaa
open Go.ChangeShapes Go.WideShapes Go.ChangeAt Go.RowKit Go.Deep Go.Joins

set_option maxRecDepth 100000 in
theorem open_body {H : Type} {enc : TypeId × Value → H} {w : World} {base : Nat} {spare : Nat → Bool} {held : Bool} {b0 : Nat} {v : Value} {d : DataW H} {p : List MemPlace} (hv : Value.okWide Try.prog w .any b0 48 v) (h : DataW.Trod enc Try.prog w base spare held 48 v d p) :
    ∃ A n c xs, v = .slice A n c ∧ IsParts w 0 w.heap.size A n c xs := by
  obtain ⟨A, n, c, rfl⟩ := okWide_slice Try.underlying48 hv
  obtain ⟨fuel, hf⟩ := h
  exact open_parts (by simpa [Value.cells] using hf)

end Go.Proofs.Ytfghmphaldefbaa
