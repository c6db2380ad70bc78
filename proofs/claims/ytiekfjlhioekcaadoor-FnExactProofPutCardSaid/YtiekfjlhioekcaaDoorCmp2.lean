/-
  Order: the model's comparison of atoms, and AtomCmp in the program and in its model.
-/
import Derived.Test.YtiekfjlhioekcaaDoorCmp
import Derived.Deep.QuietTactic
import Derived.BigQuiet
namespace Go.Proofs.YtiekfjlhioekcaaDoor
open Go.RowKit


/-- Where the model's loop stands: q is what it knows, k the place. -/
def Known (a b : At) (k : Nat) (q : Int) : Prop := atomCmp a b = if q = 0 then argsCmp (a.2.drop k) (b.2.drop k) else q

theorem Known.start (a b : At) : Known a b 0 (textCmp a.1 b.1) := rfl

theorem Known.step {a b : At} {k : Nat} {q : Int} {t u : Tm} (h : Known a b k q) (hq : q = 0) (ht : a.2[k]? = some t) (hu : b.2[k]? = some u) : Known a b (k + 1) (textCmp t.2 u.2) := by
  unfold Known at *
  rw [h, if_pos hq, argsCmp_step ht hu]

theorem Known.found {a b : At} {k : Nat} {q : Int} (h : Known a b k q) (hq : q ≠ 0) : q = atomCmp a b := by
  unfold Known at h
  rw [h, if_neg hq]

theorem Known.left {a b : At} {k : Nat} {q : Int} (h : Known a b k q) (hq : q = 0) (h1 : b.2.length ≤ k) (h2 : k < a.2.length) : 1 = atomCmp a b := by
  unfold Known at h
  rw [h, if_pos hq, argsCmp_left h1 h2]

theorem Known.right {a b : At} {k : Nat} {q : Int} (h : Known a b k q) (hq : q = 0) (h1 : a.2.length ≤ k) (h2 : k < b.2.length) : -1 = atomCmp a b := by
  unfold Known at h
  rw [h, if_pos hq, argsCmp_right h1 h2]

theorem Known.same {a b : At} {k : Nat} {q : Int} (h : Known a b k q) (hq : q = 0) (h1 : a.2.length ≤ k) (h2 : b.2.length ≤ k) : 0 = atomCmp a b := by
  unfold Known at h
  rw [h, if_pos hq, argsCmp_none h1 h2]

theorem belowDrewN {B : Nat} {a w : World} (h : Below B a w) (n : Nat) : Below B a (w.drewN n) := ⟨h.os, h.tape, h.output, h.size, h.block⟩


/-- What AtomCmp answers. -/
def cmpB (a b : At) : Int := if atomB a && atomB b then atomCmp a b else 0

theorem cmpB_no {a b : At} (h : atomB a = false ∨ atomB b = false) : cmpB a b = 0 := by
  unfold cmpB; rcases h with h | h <;> simp [h]

theorem cmpB_yes {a b : At} (h : atomB a = true) (h' : atomB b = true) : cmpB a b = atomCmp a b := by
  unfold cmpB; simp [h, h']

end Go.Proofs.YtiekfjlhioekcaaDoor
