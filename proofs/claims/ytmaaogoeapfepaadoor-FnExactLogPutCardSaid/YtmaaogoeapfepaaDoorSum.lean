/-
  Sum: what it answers, in the program and in its model.
  The exact law of Sum: at every text the function answers as its model, for every text that can be read.
-/
import Derived.Test.YtmaaogoeapfepaaDoorNames
import Derived.ProofKit
import Derived.IntWalk
namespace Go.Proofs.YtmaaogoeapfepaaDoor
open Go.RowKit

theorem ret_int {k : IntKind} {a b : Int} (h : a = b) : Ending.returned (.int k a) = .returned (.int k b) := by rw [h]

def sumStep (s : Nat) (c : UInt8) : Nat := (s * 31 + c.toNat + 7) % 1000003
/-- The sum of a text. -/
def sumB (l : List UInt8) : Nat := l.foldl sumStep 1

theorem sumB_snoc (l : List UInt8) (c : UInt8) : sumB (l ++ [c]) = sumStep (sumB l) c := by
  unfold sumB; rw [List.foldl_append]; rfl

theorem sumStep_lt (s : Nat) (c : UInt8) : sumStep s c < 1000003 := Nat.mod_lt _ (by decide)

theorem sumB_lt (l : List UInt8) : sumB l < 1000003 := by
  have h : ∀ (l : List UInt8) (s : Nat), s < 1000003 → l.foldl sumStep s < 1000003 := by
    intro l
    induction l with
    | nil => intro s h; exact h
    | cons c l ih => intro s _; exact ih _ (sumStep_lt s c)
  exact h l 1 (by decide)

theorem sum_step (s : ByteArray) (k S : Nat) (h : k < s.size) (hS : Hid (sumB (s.data.toList.take k) = S)) : sumB (s.data.toList.take (k + 1)) = sumStep S s[k] := by
  rw [take_snoc s k h, sumB_snoc, hS.out]

theorem sumStep_int (S : Nat) (c : UInt8) (h : S < 1000003) : (wrap64 (wrap64 ((S : Int) * 31 + wrap64 (c.toNat : Int)) + 7)).tmod 1000003 = ((sumStep S c : Nat) : Int) := by
  have hc := c.toNat_lt
  rw [IntWalk.wrap64_in (c.toNat : Int) (by omega), IntWalk.wrap64_in ((S : Int) * 31 + (c.toNat : Int)) (by omega), IntWalk.wrap64_in _ (by omega), Int.tmod_eq_emod_of_nonneg (by omega)]
  unfold sumStep; omega

theorem sum_all (s : ByteArray) (k S : Nat) (h : ¬ k < s.size) (hS : Hid (sumB (s.data.toList.take k) = S)) : (S : Int) = (sumB s.data.toList : Nat) := by
  have h' := hS.out
  rw [List.take_of_length_le (by simp; omega)] at h'
  rw [h']

set_option maxHeartbeats 400000 in
theorem specSum_any (s : ByteArray) (w : World) (hs : s.size ≤ maxLen) :
    Calls Tryd.prog 110 #[.string s] w fun e w' => e = .returned (.int .i64 (sumB s.data.toList : Nat)) ∧ w = w' := by
  unfold maxLen at hs
  go_enter Tryd.func110, Tryd.ntmps110
  go_wp2
  go_loop [3, 4] (fun v i => ∃ k S : Nat, k ≤ s.size ∧ i = .int .i64 k ∧ v = .int .i64 S ∧ S < 1000003 ∧ sumB (s.data.toList.take k) = S) (fun _ i => s.size - (intOf i).toNat)
  case atStart => exact ⟨0, 1, Nat.zero_le _, rfl, rfl, by omega, rfl⟩
  case round =>
    obtain ⟨k, S, hk, rfl, rfl, hS1, hrel⟩ := hrel
    have HR := Lib.hid hrel; clear hrel
    by_cases hlt : k < s.size
    · go_wp2
      go_round
      case rel => exact ⟨k + 1, _, by omega, by go_num, congrArg (Value.int .i64) (sumStep_int S s[k] hS1), sumStep_lt _ _, sum_step s k S hlt HR⟩
      case measure => simp [intOf]; omega
    · go_wp2
      go_ret
      exact ⟨ret_int (sum_all s k S hlt HR), rfl⟩

set_option maxHeartbeats 400000 in
theorem implSum_any (s : ByteArray) (w : World) (hs : s.size ≤ maxLen) :
    Calls Tryd.prog 63 #[.string s] w fun e w' => e = .returned (.int .i64 (sumB s.data.toList : Nat)) ∧ w = w' := by
  unfold maxLen at hs
  go_enter Tryd.func63, Tryd.ntmps63
  go_wp2
  go_loop [3, 4, 7] (fun v _ i => ∃ k S : Nat, k ≤ s.size ∧ i = .int .i64 k ∧ v = .int .i64 S ∧ S < 1000003 ∧ sumB (s.data.toList.take k) = S) (fun _ _ i => s.size - (intOf i).toNat)
  case atStart => exact ⟨0, 1, Nat.zero_le _, rfl, rfl, by omega, rfl⟩
  case round =>
    obtain ⟨k, S, hk, rfl, rfl, hS1, hrel⟩ := hrel
    have HR := Lib.hid hrel; clear hrel
    by_cases hlt : k < s.size
    · go_wp2
      go_round
      case rel => exact ⟨k + 1, _, by omega, by go_num, congrArg (Value.int .i64) (sumStep_int S s[k] hS1), sumStep_lt _ _, sum_step s k S hlt HR⟩
      case measure => simp [intOf]; omega
    · go_wp2
      go_ret
      exact ⟨ret_int (sum_all s k S hlt HR), rfl⟩

end Go.Proofs.YtmaaogoeapfepaaDoor
