/-
  What the laws of texts call, in the form: from any world that keeps a base world.
-/
import Derived.Test.YtahkkelahocplaaDoorAskGetAll
import Derived.Test.YtahkkelahocplaaDoorDrawText
import Derived.Test.YtahkkelahocplaaDoorFs
import Derived.Test.YtahkkelahocplaaDoorPut2
import Derived.Deep.RegionHeld3
namespace Go.Proofs.YtahkkelahocplaaDoor
open Go.RowKit

theorem Box.in1 {w W : World} {x : Nat} {u v : Value} (h : Box w x u v) (hW : Below w.heap.size w W) : W.cell? ⟨x, 0, none⟩ = some u := (h.later hW).2.1
theorem Box.in2 {w W : World} {x : Nat} {u v : Value} (h : Box w x u v) (hW : Below w.heap.size w W) : W.cell? ⟨x, 1, none⟩ = some v := (h.later hW).2.2

/-- What is read of the text that an atom is told as. -/
theorem getB_put (a : At) : getB (putB a) = if atomB a then some a else none := by
  unfold putB
  cases h : atomB a
  · show getB [] = none
    exact getB_no (by unfold readOk; rw [cut_none (by simp)]; rfl)
  · exact getB_text h

theorem putB_le (a : At) : (putB a).length ≤ 40 := by
  unfold putB
  cases h : atomB a
  · simp
  · exact textL_le h

/-- The text of what was read is the text. -/
theorem putB_get {l : List UInt8} {a : At} (h : getB l = some a) : putB a = l := by
  obtain ⟨h1, h2, _⟩ := getB_some h
  unfold putB
  rw [if_pos h1, h2]

section
variable {w W : World} {nm nm' : ByteArray} {A B : Option Addr} {n c n' c' : Nat} {ts us : List Tm}

theorem putS_tells (hs : nm.size ≤ maxLen) (h : IsTerms w 0 w.heap.size A n c ts) (hB : Below w.heap.size w W) :
    Calls Tryd.prog 17 #[.agg #[.string nm, .slice A n c]] W fun e W' => e = .returned (.string ⟨(putB (nm, ts)).toArray⟩) ∧ Below w.heap.size w W' :=
  (specAtomPut_any nm A n c ts W hs (h.up hB)).mono fun _ _ ⟨he, hb⟩ => ⟨he, belowThen hB hb⟩

theorem okI_tells' (hs : nm.size ≤ maxLen) (h : IsTerms w 0 w.heap.size A n c ts) (hB : Below w.heap.size w W) :
    Calls Tryd.prog 18 #[.agg #[.string nm, .slice A n c]] W fun e W' => e = .returned (.bool (atomB (nm, ts))) ∧ Below w.heap.size w W' :=
  (implAtomOk_any nm A n c ts W hs (h.up hB)).mono fun _ _ ⟨he, hb⟩ => ⟨he, belowThen hB hb⟩

theorem okS_tells' (hs : nm.size ≤ maxLen) (h : IsTerms w 0 w.heap.size A n c ts) (hB : Below w.heap.size w W) :
    Calls Tryd.prog 19 #[.agg #[.string nm, .slice A n c]] W fun e W' => e = .returned (.bool (atomB (nm, ts))) ∧ Below w.heap.size w W' :=
  (specAtomOk_any nm A n c ts W hs (h.up hB)).mono fun _ _ ⟨he, hb⟩ => ⟨he, belowThen hB hb⟩

theorem fs_tells (h : IsTerms w 0 w.heap.size A n c ts) (h' : IsTerms w 0 w.heap.size B n' c' us) (he : (nm, ts) = (nm', us)) (hB : Below w.heap.size w W) :
    Calls Tryd.prog 20 #[.agg #[.string nm, .slice A n c], .agg #[.string nm', .slice B n' c']] W fun e W' => e = .returned (.bool true) ∧ Below w.heap.size w W' := by
  have := fsAtom_any nm nm' A B n c n' c' ts us W (h.up hB) (h'.up hB)
  rw [he, atomEq_refl] at this
  exact this.mono fun _ _ ⟨h1, hb⟩ => ⟨h1, belowThen hB hb⟩
end

end Go.Proofs.YtahkkelahocplaaDoor
