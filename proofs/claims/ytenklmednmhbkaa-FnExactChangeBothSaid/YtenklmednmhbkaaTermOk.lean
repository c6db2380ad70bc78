/-
  Terms that are ok: what the program and its model answer of one term, and of an atom.
-/
import Derived.Test.YtenklmednmhbkaaMem
import Derived.Test.YtenklmednmhbkaaEq
import Derived.Outline
import Derived.Lib.IndexBytes
import Derived.Deep.LoopGhost
namespace Go.Proofs.Ytenklmednmhbkaa
open Go.RowKit

def capital (c : UInt8) : Bool := decide (65 ≤ (c.toNat : Int)) && decide ((c.toNat : Int) ≤ 90)

/-- A variable: a capital letter, and small ones and figures behind it, at most eight. -/
def varB (l : List UInt8) : Bool := match l with
  | [] => false
  | c :: r => capital c && small r && decide (r.length ≤ 7)

theorem rest_list (s : ByteArray) : (s.extract 1 s.size).data.toList = s.data.toList.drop 1 := by
  exact Lib.extract_to_end s 1

theorem rest_size (s : ByteArray) (h : 0 < s.size) : (s.extract 1 s.size).size + 1 = s.size := by
  have : (s.extract 1 s.size).size = s.data.toList.length - 1 := by
    show (s.extract 1 s.size).data.toList.length = _
    rw [rest_list, List.length_drop]
  have h2 : s.size = s.data.toList.length := rfl
  omega

theorem rest_le (s : ByteArray) (h : s.size ≤ maxLen) : (s.extract 1 s.size).size ≤ maxLen := by
  by_cases h0 : 0 < s.size
  · have := rest_size s h0; omega
  · have : (s.extract 1 s.size).size = (s.data.toList.drop 1).length := by rw [← rest_list]; rfl
    rw [List.length_drop] at this
    have h2 : s.size = s.data.toList.length := rfl
    omega

theorem first_rest (s : ByteArray) (h : 0 < s.size) : s.data.toList = s[0] :: (s.extract 1 s.size).data.toList := by
  rw [rest_list]
  have h2 : 0 < s.data.toList.length := h
  exact (List.drop_eq_getElem_cons (i := 0) h2)

/-- What is behind the first byte, spelled as the walk spells it. -/
theorem rest_tail (s : ByteArray) : s.data.toList.tail.take (s.size - 1) = (s.extract 1 s.size).data.toList := by
  rw [rest_list, List.drop_one, List.take_of_length_le]
  rw [List.length_tail]
  exact Nat.le_refl _

theorem varB_cons (s : ByteArray) (h : 0 < s.size) : varB s.data.toList = (capital s[0] && small (s.data.toList.tail.take (s.size - 1)) && decide (s.size ≤ 8)) := by
  have h3 : (s.extract 1 s.size).data.toList.length + 1 = s.size := rest_size s h
  rw [rest_tail, first_rest s h]
  show (capital s[0] && small (s.extract 1 s.size).data.toList && decide ((s.extract 1 s.size).data.toList.length ≤ 7)) = _
  rw [show decide ((s.extract 1 s.size).data.toList.length ≤ 7) = decide (s.size ≤ 8) by rw [decide_eq_decide]; omega]

theorem varB_model (s : ByteArray) (h : 0 < s.size) : varB s.data.toList = (capital s[0] && (((s.size : Int) == 1) || (letters (s.data.toList.tail.take (s.size - 1)) && decide ((s.size : Int) ≤ 8)))) := by
  rw [varB_cons s h]
  have h3 : (s.data.toList.tail.take (s.size - 1)).length + 1 = s.size := by rw [rest_tail]; exact rest_size s h
  generalize s.data.toList.tail.take (s.size - 1) = r at *
  by_cases h1 : s.size = 1
  · have : r = [] := List.eq_nil_of_length_eq_zero (by omega)
    subst this
    simp [h1, small]
  · have e1 : ((s.size : Int) == 1) = false := by rw [beq_eq_false_iff_ne]; omega
    rw [e1, Bool.false_or, Bool.and_assoc]
    congr 1
    unfold letters
    have e2 : decide (1 ≤ (r.length : Int)) = true := by rw [decide_eq_true_iff]; omega
    rw [e2, Bool.true_and, Bool.and_assoc]
    congr 1
    by_cases h8 : s.size ≤ 8
    · simp [h8]; omega
    · simp [h8]; omega

theorem varB_no (s : ByteArray) (h : s.size < 1 ∨ 8 < s.size) : varB s.data.toList = false := by
  rcases Nat.eq_zero_or_pos s.size with h0 | h0
  · have : s.data.toList = [] := List.eq_nil_of_length_eq_zero h0
    rw [this]; rfl
  · rw [varB_cons s h0]; simp; omega

def termB (t : Tm) : Bool := if t.1 then varB t.2.data.toList else nameB t.2.data.toList

theorem capital_any (c : UInt8) (w : World) : Calls Try.prog 137 #[.int .u8 (c.toNat : Int)] w fun e w' => e = .returned (.bool (capital c)) ∧ w = w' := by
  go_enter Try.func137, Try.ntmps137
  go_wp2
  all_goals (go_ret; exact ⟨retB (by unfold capital; simp; try omega), rfl⟩)

set_option maxHeartbeats 400000 in
theorem word_any (s : ByteArray) (w : World) (hs : s.size ≤ maxLen) : Calls Try.prog 138 #[.string s] w fun e w' => e = .returned (.bool (nameB s.data.toList)) ∧ w = w' := by
  go_enter Try.func138, Try.ntmps138
  go_wp2_with (go_at_call 105; refine (implName_any _ _ hs).mono ?_; rintro e w' ⟨rfl, rfl⟩)
  go_ret
  exact ⟨rfl, rfl⟩

set_option maxHeartbeats 400000 in
theorem variable_any (s : ByteArray) (w : World) (hs : s.size ≤ maxLen) : Calls Try.prog 136 #[.string s] w fun e w' => e = .returned (.bool (varB s.data.toList)) ∧ w = w' := by
  have hs' := hs
  unfold maxLen at hs'
  go_enter Try.func136, Try.ntmps136
  go_wp2_with (first
    | (go_at_call 137; refine (capital_any _ _).mono ?_; rintro e w' ⟨rfl, rfl⟩)
    | (go_at_call 116; refine (allSmall_any _ _ (rest_le s hs)).mono ?_; rintro e w' ⟨rfl, rfl⟩))
  all_goals first
    | (have hp : 0 < s.size := by assumption
       go_ret; refine ⟨retB ?_, rfl⟩; rw [varB_cons s hp]; simp_all; try omega)
    | (go_ret; refine ⟨retB ?_, rfl⟩; rw [varB_no s (by omega)])

set_option maxHeartbeats 400000 in
theorem l1Term_any (v : Bool) (s : ByteArray) (w : World) (hs : s.size ≤ maxLen) :
    Calls Try.prog 114 #[.agg #[.bool v, .string s]] w (BoolPost (termB (v, s)) w) := by
  have hs' := hs
  unfold maxLen at hs'
  cases v
  · go_enter Try.func114, Try.ntmps114
    go_wp2_with (go_at_call 115; refine (specName_any _ _ hs).mono ?_; rintro e w' ⟨rfl, rfl⟩)
    go_ret
    exact ⟨rfl, below1 _ _⟩
  · by_cases hp : 0 < s.size
    · have hz : ((s.size : Int) == 0) = false := by rw [beq_eq_false_iff_ne]; omega
      have hlt : (0 : Int) < (s.size : Int) := by omega
      go_enter Try.func114, Try.ntmps114
      go_wp2_with (go_at_call 118; refine (letters_any _ _ (rest_le s hs)).mono ?_; rintro e w' ⟨rfl, rfl⟩)
      all_goals (go_ret; refine ⟨retB ?_, below1 _ _⟩; show _ = varB s.data.toList; rw [varB_model s hp]; unfold capital; simp_all; try omega)
    · have h0 : s.size = 0 := by omega
      have hz : ((s.size : Int) == 0) = true := by rw [beq_iff_eq]; omega
      have HN := Lib.hid (varB_no s (.inl (by omega)))
      clear h0
      go_enter Try.func114, Try.ntmps114
      go_wp2
      go_ret
      exact ⟨retB HN.out.symm, below1 _ _⟩

end Go.Proofs.Ytenklmednmhbkaa
