/-
  Order: how texts, terms and atoms stand to each other, in the program and in its model.
-/
import Derived.Test.YtiekfjlhioekcaaDoorAtomOk
import Derived.Test.YtiekfjlhioekcaaDoorShelf
import Derived.Deep.RegionWith
namespace Go.Proofs.YtiekfjlhioekcaaDoor
open Go.RowKit

/-- How two texts stand to each other: -1, 0, 1. -/
def textCmp (a b : ByteArray) : Int := Lib.compareBytes a.data.toList b.data.toList

theorem cmp_range : ∀ a b : List UInt8, Lib.compareBytes a b = -1 ∨ Lib.compareBytes a b = 0 ∨ Lib.compareBytes a b = 1
  | [], [] => .inr (.inl rfl)
  | [], _ :: _ => .inl rfl
  | _ :: _, [] => .inr (.inr rfl)
  | a :: l, b :: m => by
    unfold Lib.compareBytes
    split
    · exact .inl rfl
    · split
      · exact .inr (.inr rfl)
      · exact cmp_range l m

theorem textCmp_range (a b : ByteArray) : textCmp a b = -1 ∨ textCmp a b = 0 ∨ textCmp a b = 1 := cmp_range _ _

theorem less_cmp : ∀ a b : List UInt8, Op.bytesLess a b = decide (Lib.compareBytes a b = -1) ∧ (a == b) = decide (Lib.compareBytes a b = 0)
  | [], [] => ⟨rfl, rfl⟩
  | [], _ :: _ => ⟨rfl, rfl⟩
  | _ :: _, [] => ⟨rfl, rfl⟩
  | a :: l, b :: m => by
    obtain ⟨h1, h2⟩ := less_cmp l m
    by_cases hl : a < b
    · have hne : a ≠ b := fun e => by subst e; exact absurd hl (UInt8.lt_irrefl _)
      constructor
      · simp [Op.bytesLess, Lib.compareBytes, hl]
      · simp [Lib.compareBytes, hl, hne]
    · by_cases hg : b < a
      · have hne : a ≠ b := fun e => by subst e; exact absurd hg (UInt8.lt_irrefl _)
        constructor
        · simp [Op.bytesLess, Lib.compareBytes, hl, hg, hne]
        · simp [Lib.compareBytes, hl, hg, hne]
      · have he : a = b := UInt8.le_antisymm (UInt8.not_lt.1 hg) (UInt8.not_lt.1 hl)
        subst he
        constructor
        · simp [Op.bytesLess, Lib.compareBytes, hl, h1]
        · have : (a :: l == a :: m) = (l == m) := by simp
          rw [this, h2]; simp [Lib.compareBytes, hl]

theorem retI {a b : Int} (h : a = b) : Ending.returned (.int .i64 a) = .returned (.int .i64 b) := by rw [h]



def IntPost (n : Int) (w : World) (e : Ending) (w' : World) : Prop := e = .returned (.int .i64 n) ∧ Below w.heap.size w w'


theorem ne0 {x : Int} (h : (x != 0) = true) : x ≠ 0 := by simpa using h
theorem is0 {x : Int} (h : (x != 0) = false) : x = 0 := by simpa using h

def argsCmp : List Tm → List Tm → Int
  | [], [] => 0
  | [], _ :: _ => -1
  | _ :: _, [] => 1
  | x :: l, y :: m => if textCmp x.2 y.2 = 0 then argsCmp l m else textCmp x.2 y.2

def atomCmp (a b : At) : Int := if textCmp a.1 b.1 = 0 then argsCmp a.2 b.2 else textCmp a.1 b.1

theorem argsCmp_step {ts us : List Tm} {k : Nat} {t u : Tm} (h : ts[k]? = some t) (h' : us[k]? = some u) : argsCmp (ts.drop k) (us.drop k) = if textCmp t.2 u.2 = 0 then argsCmp (ts.drop (k + 1)) (us.drop (k + 1)) else textCmp t.2 u.2 := by
  obtain ⟨h1, h2⟩ := List.getElem?_eq_some_iff.1 h
  obtain ⟨h3, h4⟩ := List.getElem?_eq_some_iff.1 h'
  rw [List.drop_eq_getElem_cons h1, List.drop_eq_getElem_cons h3, h2, h4]; rfl

theorem argsCmp_left {ts us : List Tm} {k : Nat} (h : us.length ≤ k) (h' : k < ts.length) : argsCmp (ts.drop k) (us.drop k) = 1 := by
  rw [List.drop_eq_getElem_cons h', List.drop_eq_nil_of_le h]; rfl

theorem argsCmp_right {ts us : List Tm} {k : Nat} (h : ts.length ≤ k) (h' : k < us.length) : argsCmp (ts.drop k) (us.drop k) = -1 := by
  rw [List.drop_eq_getElem_cons h', List.drop_eq_nil_of_le h]; rfl

theorem argsCmp_none {ts us : List Tm} {k : Nat} (h : ts.length ≤ k) (h' : us.length ≤ k) : argsCmp (ts.drop k) (us.drop k) = 0 := by
  rw [List.drop_eq_nil_of_le h, List.drop_eq_nil_of_le h']; rfl



end Go.Proofs.YtiekfjlhioekcaaDoor
