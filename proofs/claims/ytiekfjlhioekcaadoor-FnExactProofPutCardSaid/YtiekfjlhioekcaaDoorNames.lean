/-
  Names: what NameOk answers, in the program and in its model.
-/
import Derived.Test.YtiekfjlhioekcaaDoorRows
import Derived.WalkKit
import Derived.WalkSpells
import Derived.WalkLawsBesides
import Derived.Lib.Hide
namespace Go.Proofs.YtiekfjlhioekcaaDoor
open Go.RowKit

theorem retB {a b : Bool} (h : a = b) : Ending.returned (.bool a) = .returned (.bool b) := by rw [h]

/-- A small letter or a figure. -/
def okByte (c : UInt8) : Bool := !(((decide ((c.toNat : Int) < 97)) || decide (122 < (c.toNat : Int))) && (decide ((c.toNat : Int) < 48) || decide (57 < (c.toNat : Int))))
def small (l : List UInt8) : Bool := l.all okByte

theorem take_snoc (s : ByteArray) (k : Nat) (h : k < s.size) : s.data.toList.take (k + 1) = s.data.toList.take k ++ [s[k]] := by
  rw [List.take_succ_eq_append_getElem (by simpa using h)]; rfl

theorem small_snoc (l : List UInt8) (c : UInt8) : small (l ++ [c]) = (small l && okByte c) := by
  unfold small; simp

theorem okByte_true {c : UInt8} (h : (97 ≤ (c.toNat : Int) ∧ (c.toNat : Int) ≤ 122) ∨ (48 ≤ (c.toNat : Int) ∧ (c.toNat : Int) ≤ 57)) : okByte c = true := by
  unfold okByte; simp; omega

theorem okByte_false {c : UInt8} (h : ((c.toNat : Int) < 97 ∨ 122 < (c.toNat : Int)) ∧ ((c.toNat : Int) < 48 ∨ 57 < (c.toNat : Int))) : okByte c = false := by
  unfold okByte; simp; omega

theorem small_no (s : ByteArray) (k : Nat) (h : k < s.size) (hb : okByte s[k] = false) : small s.data.toList = false := by
  unfold small
  rw [List.all_eq_false]
  refine ⟨s[k], ?_, by simp [hb]⟩
  have : s[k] = s.data.toList[k]'(by simpa using h) := rfl
  rw [this]; exact List.getElem_mem _

theorem small_step (s : ByteArray) (k : Nat) (h : k < s.size) (hr : Hid (small (s.data.toList.take k) = true)) (hb : okByte s[k] = true) : small (s.data.toList.take (k + 1)) = true := by
  rw [take_snoc s k h, small_snoc, hr.out, hb]; rfl

theorem small_all (s : ByteArray) (k : Nat) (h : ¬ k < s.size) (hr : Hid (small (s.data.toList.take k) = true)) : small s.data.toList = true := by
  have h' := hr.out
  rwa [List.take_of_length_le (by simp; omega)] at h'



/-- What a name is, by its bytes: at most eight small letters and figures, at least one. -/
def letters (l : List UInt8) : Bool := small l && (decide (1 ≤ (l.length : Int)) && decide ((l.length : Int) ≤ 8))

theorem letters_no (s : ByteArray) (k : Nat) (h : k < s.size) (hb : okByte s[k] = false) : letters s.data.toList = false := by
  unfold letters; rw [small_no s k h hb]; rfl

theorem letters_all (s : ByteArray) (k : Nat) (h : ¬ k < s.size) (hr : Hid (small (s.data.toList.take k) = true)) : letters s.data.toList = (decide ((1 : Int) ≤ (s.size : Int)) && decide ((s.size : Int) ≤ 8)) := by
  unfold letters; rw [small_all s k h hr, Bool.true_and]; rfl


theorem size_length (s : ByteArray) : (s.size : Int) = (s.data.toList.length : Int) := rfl

/-- What a name is. -/
def nameB (l : List UInt8) : Bool := letters l && !(l == [110, 111, 116])



end Go.Proofs.YtiekfjlhioekcaaDoor
