/-
  Names: what NameOk answers, in the program and in its model.
-/
import Derived.Test.YtahkkelahocplaaDoorRows
import Derived.WalkKit
import Derived.WalkSpells
import Derived.WalkLawsBesides
import Derived.Lib.Hide
namespace Go.Proofs.YtahkkelahocplaaDoor
open Go.RowKit

theorem retB {a b : Bool} (h : a = b) : Ending.returned (.bool a) = .returned (.bool b) := by rw [h]

/-- A small letter or a figure. -/
def okByte (c : UInt8) : Bool := !(((decide ((c.toNat : Int) < 97)) || decide (122 < (c.toNat : Int))) && (decide ((c.toNat : Int) < 48) || decide (57 < (c.toNat : Int))))
def small (l : List UInt8) : Bool := l.all okByte

theorem take_snoc (s : ByteArray) (k : Nat) (h : k < s.size) : s.data.toList.take (k + 1) = s.data.toList.take k ++ [s[k]] := by
  rw [List.take_succ_eq_append_getElem (by simpa using h)]; rfl

theorem small_snoc (l : List UInt8) (c : UInt8) : small (l ++ [c]) = (small l && okByte c) := by
  unfold small; simp

theorem okByte_true {c : UInt8} (h : (97 ≤ (c.toNat : Int) ∧ (c.toNat : Int) ≤ 122) ∨ (48 ≤ (c.toNat : Int) ∧ (c.toNat : Int) ≤ 57)) : okByte c = true := by
  unfold okByte; simp; omega

theorem okByte_false {c : UInt8} (h : ((c.toNat : Int) < 97 ∨ 122 < (c.toNat : Int)) ∧ ((c.toNat : Int) < 48 ∨ 57 < (c.toNat : Int))) : okByte c = false := by
  unfold okByte; simp; omega

theorem small_no (s : ByteArray) (k : Nat) (h : k < s.size) (hb : okByte s[k] = false) : small s.data.toList = false := by
  unfold small
  rw [List.all_eq_false]
  refine ⟨s[k], ?_, by simp [hb]⟩
  have : s[k] = s.data.toList[k]'(by simpa using h) := rfl
  rw [this]; exact List.getElem_mem _

theorem small_step (s : ByteArray) (k : Nat) (h : k < s.size) (hr : Hid (small (s.data.toList.take k) = true)) (hb : okByte s[k] = true) : small (s.data.toList.take (k + 1)) = true := by
  rw [take_snoc s k h, small_snoc, hr.out, hb]; rfl

theorem small_all (s : ByteArray) (k : Nat) (h : ¬ k < s.size) (hr : Hid (small (s.data.toList.take k) = true)) : small s.data.toList = true := by
  have h' := hr.out
  rwa [List.take_of_length_le (by simp; omega)] at h'

set_option maxHeartbeats 400000 in
theorem allSmall_any (s : ByteArray) (w : World) (hs : s.size ≤ maxLen) :
    Calls Tryd.prog 99 #[.string s] w fun e w' => e = .returned (.bool (small s.data.toList)) ∧ w = w' := by
  unfold maxLen at hs
  go_enter Tryd.func99, Tryd.ntmps99
  go_wp2
  go_loop [3, 4, 7] (fun _ _ i => ∃ k : Nat, k ≤ s.size ∧ i = .int .i64 k ∧ small (s.data.toList.take k) = true) (fun _ _ i => s.size - (intOf i).toNat)
  case atStart => exact ⟨0, Nat.zero_le _, rfl, rfl⟩
  case round =>
    obtain ⟨k, hk, rfl, hrel⟩ := hrel
    have HR := Lib.hid hrel; clear hrel
    by_cases hlt : k < s.size
    · go_wp2
      all_goals first
        | (go_ret; exact ⟨retB (small_no s k hlt (okByte_false (by omega))).symm, rfl⟩)
        | (go_round
           case rel => exact ⟨k + 1, by omega, by go_num, small_step s k hlt HR (okByte_true (by omega))⟩
           case measure => simp [intOf]; omega)
    · go_wp2
      go_ret
      exact ⟨retB (small_all s k hlt HR).symm, rfl⟩

theorem in_any (n lo hi : Int) (w : World) : Calls Tryd.prog 82 #[.int .i64 n, .int .i64 lo, .int .i64 hi] w fun e w' => e = .returned (.bool (decide (lo ≤ n) && decide (n ≤ hi))) ∧ w = w' := by
  go_enter Tryd.func82, Tryd.ntmps82
  go_wp2
  all_goals (go_ret; exact ⟨retB (by simp; try omega), rfl⟩)

/-- What a name is, by its bytes: at most eight small letters and figures, at least one. -/
def letters (l : List UInt8) : Bool := small l && (decide (1 ≤ (l.length : Int)) && decide ((l.length : Int) ≤ 8))

theorem letters_no (s : ByteArray) (k : Nat) (h : k < s.size) (hb : okByte s[k] = false) : letters s.data.toList = false := by
  unfold letters; rw [small_no s k h hb]; rfl

theorem letters_all (s : ByteArray) (k : Nat) (h : ¬ k < s.size) (hr : Hid (small (s.data.toList.take k) = true)) : letters s.data.toList = (decide ((1 : Int) ≤ (s.size : Int)) && decide ((s.size : Int) ≤ 8)) := by
  unfold letters; rw [small_all s k h hr, Bool.true_and]; rfl

set_option maxHeartbeats 400000 in
theorem letters_any (s : ByteArray) (w : World) (hs : s.size ≤ maxLen) :
    Calls Tryd.prog 100 #[.string s] w fun e w' => e = .returned (.bool (letters s.data.toList)) ∧ w = w' := by
  unfold maxLen at hs
  go_enter Tryd.func100, Tryd.ntmps100
  go_wp2
  go_loop [3] (fun i => ∃ k : Nat, k ≤ s.size ∧ i = .int .i64 k ∧ small (s.data.toList.take k) = true) (fun i => s.size - (intOf i).toNat)
  case atStart => exact ⟨0, Nat.zero_le _, rfl, rfl⟩
  case round =>
    obtain ⟨k, hk, rfl, hrel⟩ := hrel
    have HR := Lib.hid hrel; clear hrel
    by_cases hlt : k < s.size
    · go_wp2
      all_goals first
        | (go_ret; exact ⟨retB (letters_no s k hlt (okByte_false (by omega))).symm, rfl⟩)
        | (go_round
           case rel => exact ⟨k + 1, by omega, by go_num, small_step s k hlt HR (okByte_true (by omega))⟩
           case measure => simp [intOf]; omega)
    · go_wp2_with (go_at_call 82; refine (in_any _ _ _ _).mono ?_; rintro e w' ⟨rfl, rfl⟩)
      go_ret
      exact ⟨retB (letters_all s k hlt HR).symm, rfl⟩

theorem size_length (s : ByteArray) : (s.size : Int) = (s.data.toList.length : Int) := rfl

/-- What a name is. -/
def nameB (l : List UInt8) : Bool := letters l && !(l == [110, 111, 116])

set_option maxHeartbeats 400000 in
theorem specName_any (s : ByteArray) (w : World) (hs : s.size ≤ maxLen) :
    Calls Tryd.prog 64 #[.string s] w fun e w' => e = .returned (.bool (nameB s.data.toList)) ∧ w = w' := by
  go_enter Tryd.func64, Tryd.ntmps64
  go_wp2_with (go_at_call 100; refine (letters_any _ _ hs).mono ?_; rintro e w' ⟨rfl, rfl⟩)
  all_goals (go_ret; exact ⟨retB (by unfold nameB; simp [*, ByteArray.toList_eq]), rfl⟩)

set_option maxHeartbeats 400000 in
theorem implName_any (s : ByteArray) (w : World) (hs : s.size ≤ maxLen) :
    Calls Tryd.prog 61 #[.string s] w fun e w' => e = .returned (.bool (nameB s.data.toList)) ∧ w = w' := by
  have hs' := hs
  unfold maxLen at hs'
  go_enter Tryd.func61, Tryd.ntmps61
  go_wp2_with (go_at_call 99; refine (allSmall_any _ _ hs).mono ?_; rintro e w' ⟨rfl, rfl⟩)
  all_goals (go_ret; exact ⟨retB (by unfold nameB letters; rw [← size_length]; simp_all [ByteArray.toList_eq, Bool.and_comm]; try omega), rfl⟩)

end Go.Proofs.YtahkkelahocplaaDoor
