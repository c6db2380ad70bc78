/-
  Boxes: a struct of two fields in memory of its own, later on.
-/
import Derived.Test.YtenklmednmhbkaaMem
namespace Go.Proofs.Ytenklmednmhbkaa
open Go.RowKit

/-- The two cells of a box. -/
def Box (w : World) (b : Nat) (u v : Value) : Prop := b < w.heap.size ∧ w.cell? ⟨b, 0, none⟩ = some u ∧ w.cell? ⟨b, 1, none⟩ = some v

theorem Box.new (w : World) (u v : Value) (t : TypeId) : Box (w.alloc (.cells #[u, v] t)) w.heap.size u v := by
  refine ⟨by simp, ?_, ?_⟩ <;> simp [go_sem]

theorem Box.new2 (w : World) (o : Obj) (u v : Value) (t : TypeId) : Box ((w.alloc o).alloc (.cells #[u, v] t)) (w.heap.size + 1) u v := by
  have h := Box.new (w.alloc o) u v t
  rwa [show (w.alloc o).heap.size = w.heap.size + 1 by simp] at h

theorem Box.later {w w' : World} {b : Nat} {u v : Value} (h : Box w b u v) (hb : Below w.heap.size w w') : Box w' b u v :=
  ⟨Nat.lt_of_lt_of_le h.1 hb.size, (hb.cell (p := ⟨b, 0, none⟩) h.1).trans h.2.1, (hb.cell (p := ⟨b, 1, none⟩) h.1).trans h.2.2⟩

theorem Box.up {w : World} {b : Nat} {u v : Value} (h : Box w b u v) (o : Obj) : Box (w.alloc o) b u v := h.later (below1 w o)

end Go.Proofs.Ytenklmednmhbkaa
