/-
  What was read, and a box, stay where memory below stays.
-/
import Derived.Test.YtahkkelahocplaaDoorDraw
namespace Go.Proofs.YtahkkelahocplaaDoor
open Go.RowKit

theorem IsBytes.up {w w' : World} {A : Option Addr} {n c : Nat} (h : IsBytes w w.heap.size A n c) (hb : Below w.heap.size w w') : IsBytes w' w'.heap.size A n c := by
  obtain ⟨h1, h2, h3⟩ := h.keep (w' := w') (fun q hq => hb.cell hq)
  exact ⟨h1, h2, fun hn => by
    obtain ⟨q, hq, hb', hc⟩ := h3 hn
    exact ⟨q, hq, Nat.lt_of_lt_of_le hb' hb.size, hc⟩⟩

theorem Bx.later {a b : World} {x : Nat} {u v : Value} (h : Bx a x u v) (hb : Below a.heap.size a b) : Bx b x u v := h.grown (grownBelow hb none) (by simp)

end Go.Proofs.YtahkkelahocplaaDoor
