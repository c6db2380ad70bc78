/-
  Texts of one claim, put together.
-/
import Derived.Test.YtogonjkklioaaaaGreatDoorLg0
import Derived.Outline
import Derived.Lib.IndexBytes
import Derived.Deep.LoopGhost
import Derived.Deep.RegionWith
import Derived.Test.YtogonjkklioaaaaGreatDoorShelf
import Derived.Test.YtogonjkklioaaaaGreatDoorShelf2
import Derived.Lib.Join
namespace Go.Proofs.YtogonjkklioaaaaGreatDoor
open Go.RowKit

def capital (c : UInt8) : Bool := decide (65 ≤ (c.toNat : Int)) && decide ((c.toNat : Int) ≤ 90)

/-- A variable: a capital letter, and small ones and figures behind it, at most eight. -/
def varB (l : List UInt8) : Bool := match l with
  | [] => false
  | c :: r => capital c && small r && decide (r.length ≤ 7)

theorem rest_list (s : ByteArray) : (s.extract 1 s.size).data.toList = s.data.toList.drop 1 := by
  exact Lib.extract_to_end s 1

theorem rest_size (s : ByteArray) (h : 0 < s.size) : (s.extract 1 s.size).size + 1 = s.size := by
  have : (s.extract 1 s.size).size = s.data.toList.length - 1 := by
    show (s.extract 1 s.size).data.toList.length = _
    rw [rest_list, List.length_drop]
  have h2 : s.size = s.data.toList.length := rfl
  omega

theorem rest_le (s : ByteArray) (h : s.size ≤ maxLen) : (s.extract 1 s.size).size ≤ maxLen := by
  by_cases h0 : 0 < s.size
  · have := rest_size s h0; omega
  · have : (s.extract 1 s.size).size = (s.data.toList.drop 1).length := by rw [← rest_list]; rfl
    rw [List.length_drop] at this
    have h2 : s.size = s.data.toList.length := rfl
    omega

theorem first_rest (s : ByteArray) (h : 0 < s.size) : s.data.toList = s[0] :: (s.extract 1 s.size).data.toList := by
  rw [rest_list]
  have h2 : 0 < s.data.toList.length := h
  exact (List.drop_eq_getElem_cons (i := 0) h2)

/-- What is behind the first byte, spelled as the walk spells it. -/
theorem rest_tail (s : ByteArray) : s.data.toList.tail.take (s.size - 1) = (s.extract 1 s.size).data.toList := by
  rw [rest_list, List.drop_one, List.take_of_length_le]
  rw [List.length_tail]
  exact Nat.le_refl _

theorem varB_cons (s : ByteArray) (h : 0 < s.size) : varB s.data.toList = (capital s[0] && small (s.data.toList.tail.take (s.size - 1)) && decide (s.size ≤ 8)) := by
  have h3 : (s.extract 1 s.size).data.toList.length + 1 = s.size := rest_size s h
  rw [rest_tail, first_rest s h]
  show (capital s[0] && small (s.extract 1 s.size).data.toList && decide ((s.extract 1 s.size).data.toList.length ≤ 7)) = _
  rw [show decide ((s.extract 1 s.size).data.toList.length ≤ 7) = decide (s.size ≤ 8) by rw [decide_eq_decide]; omega]

theorem varB_model (s : ByteArray) (h : 0 < s.size) : varB s.data.toList = (capital s[0] && (((s.size : Int) == 1) || (letters (s.data.toList.tail.take (s.size - 1)) && decide ((s.size : Int) ≤ 8)))) := by
  rw [varB_cons s h]
  have h3 : (s.data.toList.tail.take (s.size - 1)).length + 1 = s.size := by rw [rest_tail]; exact rest_size s h
  generalize s.data.toList.tail.take (s.size - 1) = r at *
  by_cases h1 : s.size = 1
  · have : r = [] := List.eq_nil_of_length_eq_zero (by omega)
    subst this
    simp [h1, small]
  · have e1 : ((s.size : Int) == 1) = false := by rw [beq_eq_false_iff_ne]; omega
    rw [e1, Bool.false_or, Bool.and_assoc]
    congr 1
    unfold letters
    have e2 : decide (1 ≤ (r.length : Int)) = true := by rw [decide_eq_true_iff]; omega
    rw [e2, Bool.true_and, Bool.and_assoc]
    congr 1
    by_cases h8 : s.size ≤ 8
    · simp [h8]; omega
    · simp [h8]; omega

theorem varB_no (s : ByteArray) (h : s.size < 1 ∨ 8 < s.size) : varB s.data.toList = false := by
  rcases Nat.eq_zero_or_pos s.size with h0 | h0
  · have : s.data.toList = [] := List.eq_nil_of_length_eq_zero h0
    rw [this]; rfl
  · rw [varB_cons s h0]; simp; omega

def termB (t : Tm) : Bool := if t.1 then varB t.2.data.toList else nameB t.2.data.toList

theorem capital_any (c : UInt8) (w : World) : Calls Tryz.prog 127 #[.int .u8 (c.toNat : Int)] w fun e w' => e = .returned (.bool (capital c)) ∧ w = w' := by
  go_enter Tryz.func127, Tryz.ntmps127
  go_wp2
  all_goals (go_ret; exact ⟨retB (by unfold capital; simp; try omega), rfl⟩)

set_option maxHeartbeats 400000 in
theorem word_any (s : ByteArray) (w : World) (hs : s.size ≤ maxLen) : Calls Tryz.prog 222 #[.string s] w fun e w' => e = .returned (.bool (nameB s.data.toList)) ∧ w = w' := by
  go_enter Tryz.func222, Tryz.ntmps222
  go_wp2_with (go_at_call 91; refine (implName_any _ _ hs).mono ?_; rintro e w' ⟨rfl, rfl⟩)
  go_ret
  exact ⟨rfl, rfl⟩

set_option maxHeartbeats 400000 in
theorem variable_any (s : ByteArray) (w : World) (hs : s.size ≤ maxLen) : Calls Tryz.prog 221 #[.string s] w fun e w' => e = .returned (.bool (varB s.data.toList)) ∧ w = w' := by
  have hs' := hs
  unfold maxLen at hs'
  go_enter Tryz.func221, Tryz.ntmps221
  go_wp2_with (first
    | (go_at_call 127; refine (capital_any _ _).mono ?_; rintro e w' ⟨rfl, rfl⟩)
    | (go_at_call 122; refine (allSmall_any _ _ (rest_le s hs)).mono ?_; rintro e w' ⟨rfl, rfl⟩))
  all_goals first
    | (have hp : 0 < s.size := by assumption
       go_ret; refine ⟨retB ?_, rfl⟩; rw [varB_cons s hp]; simp_all; try omega)
    | (go_ret; refine ⟨retB ?_, rfl⟩; rw [varB_no s (by omega)])

set_option maxHeartbeats 400000 in
theorem l1Term_any (v : Bool) (s : ByteArray) (w : World) (hs : s.size ≤ maxLen) :
    Calls Tryz.prog 129 #[.agg #[.bool v, .string s]] w (BoolPost (termB (v, s)) w) := by
  have hs' := hs
  unfold maxLen at hs'
  cases v
  · go_enter Tryz.func129, Tryz.ntmps129
    go_wp2_with (go_at_call 130; refine (specName_any _ _ hs).mono ?_; rintro e w' ⟨rfl, rfl⟩)
    go_ret
    exact ⟨rfl, below1 _ _⟩
  · by_cases hp : 0 < s.size
    · have hz : ((s.size : Int) == 0) = false := by rw [beq_eq_false_iff_ne]; omega
      have hlt : (0 : Int) < (s.size : Int) := by omega
      go_enter Tryz.func129, Tryz.ntmps129
      go_wp2_with (go_at_call 159; refine (letters_any _ _ (rest_le s hs)).mono ?_; rintro e w' ⟨rfl, rfl⟩)
      all_goals (go_ret; refine ⟨retB ?_, below1 _ _⟩; show _ = varB s.data.toList; rw [varB_model s hp]; unfold capital; simp_all; try omega)
    · have h0 : s.size = 0 := by omega
      have hz : ((s.size : Int) == 0) = true := by rw [beq_iff_eq]; omega
      have HN := Lib.hid (varB_no s (.inl (by omega)))
      clear h0
      go_enter Tryz.func129, Tryz.ntmps129
      go_wp2
      go_ret
      exact ⟨retB HN.out.symm, below1 _ _⟩

end Go.Proofs.YtogonjkklioaaaaGreatDoor

namespace Go.Proofs.YtogonjkklioaaaaGreatDoor
open Go.RowKit

def argsB (ts : List Tm) : Bool := ts.all termB
def atomB (a : At) : Bool := argsB a.2 && (nameB a.1.data.toList && decide (a.2.length ≤ 3))

theorem argsB_snoc {ts : List Tm} {k : Nat} {t : Tm} (h : ts[k]? = some t) (hr : argsB (ts.take k) = true) (ht : termB t = true) : argsB (ts.take (k + 1)) = true := by
  obtain ⟨h1, h2⟩ := List.getElem?_eq_some_iff.1 h
  unfold argsB at *
  rw [List.take_succ_eq_append_getElem h1, List.all_append, hr, h2]; simp [ht]

theorem argsB_no {ts : List Tm} {k : Nat} {t : Tm} (h : ts[k]? = some t) (ht : termB t = false) : argsB ts = false := by
  unfold argsB
  rw [List.all_eq_false]
  exact ⟨t, List.mem_of_getElem? h, by simp [ht]⟩

theorem argsB_all {ts : List Tm} {k n : Nat} (h : ts.length = n) (hk : ¬ k < n) (hr : argsB (ts.take k) = true) : argsB ts = true := by
  rwa [List.take_of_length_le (by omega)] at hr

theorem term_yes {t : Tm} (h : (!termB (t.1, t.2)) = false) : termB t = true := by simpa using h

theorem atomB_no {nm : ByteArray} {ts : List Tm} {k : Nat} {t : Tm} (h : ts[k]? = some t) (ht : (!termB (t.1, t.2)) = true) : atomB (nm, ts) = false := by
  unfold atomB
  rw [argsB_no h (by simpa using ht)]; rfl

theorem atomB_end {nm : ByteArray} {ts : List Tm} {n : Nat} (hl : ts.length = n) (h : argsB ts = true) : atomB (nm, ts) = (nameB nm.data.toList && decide ((n : Int) ≤ 3)) := by
  unfold atomB
  rw [h, Bool.true_and, hl]
  congr 1
  rw [decide_eq_decide]; omega

theorem atomB_short {nm : ByteArray} {ts : List Tm} {n : Nat} (hl : ts.length = n) (h : nameB nm.data.toList = false ∨ 3 < (n : Int)) : atomB (nm, ts) = false := by
  unfold atomB
  rcases h with h | h
  · simp [h]
  · have : decide (ts.length ≤ 3) = false := by rw [decide_eq_false_iff_not]; omega
    simp [this]

set_option maxHeartbeats 400000 in
theorem specAtomOk_any (nm : ByteArray) (A : Option Addr) (n c : Nat) (ts : List Tm) (w : World) (hs : nm.size ≤ maxLen) (h : IsTerms w 0 w.heap.size A n c ts) :
    Calls Tryz.prog 102 #[.agg #[.string nm, .slice A n c]] w (BoolPost (atomB (nm, ts)) w) := by
  have hm : n ≤ maxLen := by have := h.2.1; have := h.2.2.1; omega
  unfold maxLen at hm
  have H := Lib.hid h; clear h
  go_enter Tryz.func102, Tryz.ntmps102
  go_wp2
  have hw0 := below1 w (.cells #[.string nm, .slice A n c] 51)
  go_loopw [3] (fun i wr => ∃ k : Nat, k ≤ n ∧ i = .int .i64 k ∧ argsB (ts.take k) = true ∧ Below (w.alloc (.cells #[.string nm, .slice A n c] 51)).heap.size (w.alloc (.cells #[.string nm, .slice A n c] 51)) wr) (fun i _ => n - (intOf i).toNat)
  case atStart => exact ⟨0, Nat.zero_le _, rfl, rfl, Below.refl _ _⟩
  case round =>
    obtain ⟨k, hk, rfl, hd, hb⟩ := hrel
    have HD := Lib.hid hd; clear hd
    obtain ⟨hc, hf⟩ := oldCells hb
    by_cases hlt : k < n
    · obtain ⟨p, t, hA, hlo, hhi, hg, c1, c2, c3⟩ := ((H.out.up hw0).below hb (Nat.le_refl _)).at_ hlt
      subst hA
      have HG := Lib.hid hg; clear hg
      go_wp2_with (go_at_call 129; refine (l1Term_any _ _ _ c3).mono ?_; rintro e w1 ⟨rfl, hb1⟩)
      · go_ret; exact ⟨retB (atomB_no HG.out (by assumption)).symm, belowThen hw0 (belowThen hb hb1)⟩
      · go_roundw
        case rel => exact ⟨k + 1, by omega, by go_num, argsB_snoc HG.out HD.out (term_yes (by assumption)), belowThen hb hb1⟩
        case measure => simp [intOf]; omega
    · go_wp2_with (go_at_call 130; refine (specName_any _ _ hs).mono ?_; rintro e w' ⟨rfl, rfl⟩)
      all_goals (go_ret; exact ⟨retB (by rw [atomB_end H.out.1 (argsB_all H.out.1 hlt HD.out)]; simp_all), belowThen hw0 hb⟩)

set_option maxHeartbeats 400000 in
theorem termWord_any (s : ByteArray) (w : World) :
    Calls Tryz.prog 92 #[.agg #[.bool false, .string s]] w fun e w' => e = .returned (.iface 161 (.string s)) ∧ Below w.heap.size w w' := by
  go_enter Tryz.func92, Tryz.ntmps92
  go_wp2
  go_ret
  exact ⟨rfl, below1 _ _⟩

set_option maxHeartbeats 400000 in
theorem termVar_any (s : ByteArray) (w : World) :
    Calls Tryz.prog 92 #[.agg #[.bool true, .string s]] w fun e w' => e = .returned (.iface 160 (.string s)) ∧ Below w.heap.size w w' := by
  go_enter Tryz.func92, Tryz.ntmps92
  go_wp2
  go_ret
  exact ⟨rfl, below1 _ _⟩

/-- The method's whole name. -/
def okName : String := String.intercalate (String.singleton (Char.ofNat 47)) ["loop.example", "springhead", "impl.ok"]

theorem method_word (k : Nat) (nm : String) (s : ByteArray) (w : World) (h : nm = okName) : (method (k + 1) 161 (.string s) nm).run Tryz.prog w = .ok (222, .string s) w := by
  subst h; kernel_rfl
theorem method_variable (k : Nat) (nm : String) (s : ByteArray) (w : World) (h : nm = okName) : (method (k + 1) 160 (.string s) nm).run Tryz.prog w = .ok (221, .string s) w := by
  subst h; kernel_rfl

set_option maxHeartbeats 400000 in
theorem implAtomOk_any (nm : ByteArray) (A : Option Addr) (n c : Nat) (ts : List Tm) (w : World) (hs : nm.size ≤ maxLen) (h : IsTerms w 0 w.heap.size A n c ts) :
    Calls Tryz.prog 57 #[.agg #[.string nm, .slice A n c]] w (BoolPost (atomB (nm, ts)) w) := by
  have hm : n ≤ maxLen := by have := h.2.1; have := h.2.2.1; omega
  unfold maxLen at hm
  have H := Lib.hid h; clear h
  have hw0 := below1 w (.cells #[.string nm, .slice A n c] 51)
  go_enter Tryz.func57, Tryz.ntmps57
  go_wp2_with (go_at_call 91; refine (implName_any _ _ hs).mono ?_; rintro e w' ⟨rfl, rfl⟩)
  · go_ret; exact ⟨retB (atomB_short H.out.1 (.inr (by assumption))).symm, hw0⟩
  · have hn3 : (n : Int) ≤ 3 := by assumption
    go_loopw [4, 18] (fun _ i wr => ∃ k : Nat, k ≤ n ∧ i = .int .i64 k ∧ argsB (ts.take k) = true ∧ Below (w.alloc (.cells #[.string nm, .slice A n c] 51)).heap.size (w.alloc (.cells #[.string nm, .slice A n c] 51)) wr) (fun _ i _ => n - (intOf i).toNat)
    case atStart => exact ⟨0, Nat.zero_le _, rfl, rfl, Below.refl _ _⟩
    case round =>
      obtain ⟨k, hk, rfl, hd, hb⟩ := hrel
      have HD := Lib.hid hd; clear hd
      obtain ⟨hc, hf⟩ := oldCells hb
      by_cases hlt : k < n
      · obtain ⟨p, ⟨v, s⟩, hA, hlo, hhi, hg, c1, c2, c3⟩ := ((H.out.up hw0).below hb (Nat.le_refl _)).at_ hlt
        subst hA
        have HG := Lib.hid hg; clear hg
        cases v
        · go_wp2_with (first
            | (go_at_call 92; refine (termWord_any _ _).mono ?_; rintro e w1 ⟨rfl, hb1⟩; have hb2 := belowThen hb (belowThen (below1 _ _) hb1); clear hb1)
            | (go_at_call 222; refine (word_any _ _ c3).mono ?_; rintro e w' ⟨rfl, rfl⟩)
            | (rw [method_word (h := ?hname)]; rotate_left; case hname => kernel_rfl))
          · go_ret; exact ⟨retB (atomB_no HG.out (by assumption)).symm, belowThen hw0 hb2⟩
          · go_roundw
            case rel => exact ⟨k + 1, by omega, by go_num, argsB_snoc HG.out HD.out (term_yes (by assumption)), hb2⟩
            case measure => simp [intOf]; omega
        · go_wp2_with (first
            | (go_at_call 92; refine (termVar_any _ _).mono ?_; rintro e w1 ⟨rfl, hb1⟩; have hb2 := belowThen hb (belowThen (below1 _ _) hb1); clear hb1)
            | (go_at_call 221; refine (variable_any _ _ c3).mono ?_; rintro e w' ⟨rfl, rfl⟩)
            | (rw [method_variable (h := ?hname)]; rotate_left; case hname => kernel_rfl))
          · go_ret; exact ⟨retB (atomB_no HG.out (by assumption)).symm, belowThen hw0 hb2⟩
          · go_roundw
            case rel => exact ⟨k + 1, by omega, by go_num, argsB_snoc HG.out HD.out (term_yes (by assumption)), hb2⟩
            case measure => simp [intOf]; omega
      · go_wp2
        go_ret
        exact ⟨retB (by rw [atomB_end H.out.1 (argsB_all H.out.1 hlt HD.out)]; simp_all), belowThen hw0 hb⟩
  · go_ret; exact ⟨retB (atomB_short H.out.1 (.inl (by simp_all))).symm, hw0⟩

end Go.Proofs.YtogonjkklioaaaaGreatDoor


namespace Go.Proofs.YtogonjkklioaaaaGreatDoor
open Go.RowKit

/-- How two texts stand to each other: -1, 0, 1. -/
def textCmp (a b : ByteArray) : Int := Lib.compareBytes a.data.toList b.data.toList

theorem cmp_range : ∀ a b : List UInt8, Lib.compareBytes a b = -1 ∨ Lib.compareBytes a b = 0 ∨ Lib.compareBytes a b = 1
  | [], [] => .inr (.inl rfl)
  | [], _ :: _ => .inl rfl
  | _ :: _, [] => .inr (.inr rfl)
  | a :: l, b :: m => by
    unfold Lib.compareBytes
    split
    · exact .inl rfl
    · split
      · exact .inr (.inr rfl)
      · exact cmp_range l m

theorem textCmp_range (a b : ByteArray) : textCmp a b = -1 ∨ textCmp a b = 0 ∨ textCmp a b = 1 := cmp_range _ _

theorem less_cmp : ∀ a b : List UInt8, Op.bytesLess a b = decide (Lib.compareBytes a b = -1) ∧ (a == b) = decide (Lib.compareBytes a b = 0)
  | [], [] => ⟨rfl, rfl⟩
  | [], _ :: _ => ⟨rfl, rfl⟩
  | _ :: _, [] => ⟨rfl, rfl⟩
  | a :: l, b :: m => by
    obtain ⟨h1, h2⟩ := less_cmp l m
    by_cases hl : a < b
    · have hne : a ≠ b := fun e => by subst e; exact absurd hl (UInt8.lt_irrefl _)
      constructor
      · simp [Op.bytesLess, Lib.compareBytes, hl]
      · simp [Lib.compareBytes, hl, hne]
    · by_cases hg : b < a
      · have hne : a ≠ b := fun e => by subst e; exact absurd hg (UInt8.lt_irrefl _)
        constructor
        · simp [Op.bytesLess, Lib.compareBytes, hl, hg, hne]
        · simp [Lib.compareBytes, hl, hg, hne]
      · have he : a = b := UInt8.le_antisymm (UInt8.not_lt.1 hg) (UInt8.not_lt.1 hl)
        subst he
        constructor
        · simp [Op.bytesLess, Lib.compareBytes, hl, h1]
        · have : (a :: l == a :: m) = (l == m) := by simp
          rw [this, h2]; simp [Lib.compareBytes, hl]

theorem retI {a b : Int} (h : a = b) : Ending.returned (.int .i64 a) = .returned (.int .i64 b) := by rw [h]

set_option maxHeartbeats 400000 in
theorem l1Texts_any (a b : ByteArray) (w : World) : Calls Tryz.prog 128 #[.string a, .string b] w fun e w' => e = .returned (.int .i64 (textCmp a b)) ∧ w = w' := by
  have h1 := (less_cmp a.toList b.toList).1
  have h2 := (less_cmp a.toList b.toList).2
  have hr := cmp_range a.toList b.toList
  have ht : textCmp a b = Lib.compareBytes a.toList b.toList := by unfold textCmp; rw [ByteArray.toList_eq, ByteArray.toList_eq]
  rcases hr with h | h | h
  · have e1 : Op.bytesLess a.toList b.toList = true := by rw [h1, h]; rfl
    have HT := Lib.hid (ht.trans h)
    clear h1 h2 ht h
    go_enter Tryz.func128, Tryz.ntmps128
    go_wp2
    go_ret
    exact ⟨retI HT.out.symm, rfl⟩
  · have e1 : Op.bytesLess a.toList b.toList = false := by rw [h1, h]; rfl
    have e2 : (a.toList == b.toList) = true := by rw [h2, h]; rfl
    have HT := Lib.hid (ht.trans h)
    clear h1 h2 ht h
    go_enter Tryz.func128, Tryz.ntmps128
    go_wp2
    go_ret
    exact ⟨retI HT.out.symm, rfl⟩
  · have e1 : Op.bytesLess a.toList b.toList = false := by rw [h1, h]; rfl
    have e2 : (a.toList == b.toList) = false := by rw [h2, h]; rfl
    have HT := Lib.hid (ht.trans h)
    clear h1 h2 ht h
    go_enter Tryz.func128, Tryz.ntmps128
    go_wp2
    go_ret
    exact ⟨retI HT.out.symm, rfl⟩

theorem compare_any (a b : ByteArray) (w : World) : Calls Tryz.prog 117 #[.string a, .string b] w fun e w' => e = .returned (.int .i64 (textCmp a b)) ∧ w = w' :=
  (Tryz.strings_Compare a b w).mono fun _ _ ⟨he, hw⟩ => ⟨he, hw.symm⟩

def IntPost (n : Int) (w : World) (e : Ending) (w' : World) : Prop := e = .returned (.int .i64 n) ∧ Below w.heap.size w w'

set_option maxHeartbeats 400000 in
theorem compareTerms_any (v v' : Bool) (s s' : ByteArray) (w : World) : Calls Tryz.prog 119 #[.agg #[.bool v, .string s], .agg #[.bool v', .string s']] w (IntPost (textCmp s s') w) := by
  go_enter Tryz.func119, Tryz.ntmps119
  go_wp2_with (go_at_call 117; refine (compare_any _ _ _).mono ?_; rintro e w' ⟨rfl, rfl⟩)
  go_ret
  exact ⟨rfl, below2 _ _ _⟩

theorem ne0 {x : Int} (h : (x != 0) = true) : x ≠ 0 := by simpa using h
theorem is0 {x : Int} (h : (x != 0) = false) : x = 0 := by simpa using h

def argsCmp : List Tm → List Tm → Int
  | [], [] => 0
  | [], _ :: _ => -1
  | _ :: _, [] => 1
  | x :: l, y :: m => if textCmp x.2 y.2 = 0 then argsCmp l m else textCmp x.2 y.2

def atomCmp (a b : At) : Int := if textCmp a.1 b.1 = 0 then argsCmp a.2 b.2 else textCmp a.1 b.1

theorem argsCmp_step {ts us : List Tm} {k : Nat} {t u : Tm} (h : ts[k]? = some t) (h' : us[k]? = some u) : argsCmp (ts.drop k) (us.drop k) = if textCmp t.2 u.2 = 0 then argsCmp (ts.drop (k + 1)) (us.drop (k + 1)) else textCmp t.2 u.2 := by
  obtain ⟨h1, h2⟩ := List.getElem?_eq_some_iff.1 h
  obtain ⟨h3, h4⟩ := List.getElem?_eq_some_iff.1 h'
  rw [List.drop_eq_getElem_cons h1, List.drop_eq_getElem_cons h3, h2, h4]; rfl

theorem argsCmp_left {ts us : List Tm} {k : Nat} (h : us.length ≤ k) (h' : k < ts.length) : argsCmp (ts.drop k) (us.drop k) = 1 := by
  rw [List.drop_eq_getElem_cons h', List.drop_eq_nil_of_le h]; rfl

theorem argsCmp_right {ts us : List Tm} {k : Nat} (h : ts.length ≤ k) (h' : k < us.length) : argsCmp (ts.drop k) (us.drop k) = -1 := by
  rw [List.drop_eq_getElem_cons h', List.drop_eq_nil_of_le h]; rfl

theorem argsCmp_none {ts us : List Tm} {k : Nat} (h : ts.length ≤ k) (h' : us.length ≤ k) : argsCmp (ts.drop k) (us.drop k) = 0 := by
  rw [List.drop_eq_nil_of_le h, List.drop_eq_nil_of_le h']; rfl

set_option maxHeartbeats 1000000 in
theorem compareFunc_any (A B : Option Addr) (n c n' c' : Nat) (ts us : List Tm) (w : World) (h : IsTerms w 0 w.heap.size A n c ts) (h' : IsTerms w 0 w.heap.size B n' c' us) :
    Calls Tryz.prog 118 #[.slice A n c, .slice B n' c', .func (.func 119) #[] #[]] w (IntPost (argsCmp ts us) w) := by
  have hm : n ≤ maxLen := by have := h.2.1; have := h.2.2.1; omega
  have hm' : n' ≤ maxLen := by have := h'.2.1; have := h'.2.2.1; omega
  unfold maxLen at hm hm'
  have H := Lib.hid h; clear h
  have H' := Lib.hid h'; clear h'
  go_enter Tryz.func118, Tryz.ntmps118
  go_wp2
  go_loopw [7, 8, 9, 10, 13] (fun _ _ _ _ i wr => ∃ k : Nat, k ≤ n ∧ k ≤ n' ∧ i = .int .i64 k ∧ argsCmp (ts.drop k) (us.drop k) = argsCmp ts us ∧ Below w.heap.size w wr) (fun _ _ _ _ i _ => n - (intOf i).toNat)
  case atStart => exact ⟨0, Nat.zero_le _, Nat.zero_le _, rfl, rfl, Below.refl _ _⟩
  case round =>
    obtain ⟨k, hk, hk', rfl, hd, hb⟩ := hrel
    have HD := Lib.hid hd; clear hd
    by_cases hlt : k < n
    · obtain ⟨p, t, hA, hlo, hhi, hg, c1, c2, c3⟩ := (H.out.below hb (Nat.le_refl _)).at_ hlt
      subst hA
      have HG := Lib.hid hg; clear hg
      by_cases hlt' : k < n'
      · obtain ⟨p', t', hA', hlo', hhi', hg', c1', c2', c3'⟩ := (H'.out.below hb (Nat.le_refl _)).at_ hlt'
        subst hA'
        have HG' := Lib.hid hg'; clear hg'
        have d1 := cellUp c1'
        have d2 := cellUp c2'
        go_wp2_with (go_at_call 119; refine (compareTerms_any _ _ _ _ _).mono ?_; rintro e w1 ⟨rfl, hb1⟩; have HB1 := belowThen hb (belowThen (below2 _ _ _) hb1))
        · have hne : textCmp t.2 t'.2 ≠ 0 := ne0 (by assumption)
          go_ret; exact ⟨retI (by rw [← HD.out, argsCmp_step HG.out HG'.out, if_neg hne]), HB1⟩
        · have heq : textCmp t.2 t'.2 = 0 := is0 (by assumption)
          go_roundw
          case rel => exact ⟨k + 1, by omega, by omega, by go_num, by rw [← HD.out, argsCmp_step HG.out HG'.out, if_pos heq], HB1⟩
          case measure => simp [intOf]; omega
      · have hl : k < ts.length := by have := H.out.1; omega
        have hl' : us.length ≤ k := by have := H'.out.1; omega
        go_wp2
        go_ret; exact ⟨retI (by rw [← HD.out, argsCmp_left hl' hl]), belowThen hb (below1 _ _)⟩
    · have hl : ts.length ≤ k := by have := H.out.1; omega
      have hkn : k = n := by omega
      by_cases hnn : n < n'
      · have hl' : k < us.length := by have := H'.out.1; omega
        clear hkn
        go_wp2
        go_ret; exact ⟨retI (by rw [← HD.out, argsCmp_right hl hl']), hb⟩
      · have hl' : us.length ≤ k := by have := H'.out.1; omega
        clear hkn
        go_wp2
        go_ret; exact ⟨retI (by rw [← HD.out, argsCmp_none hl hl']), hb⟩

set_option maxHeartbeats 1000000 in
theorem compareAtoms_any (nm nm' : ByteArray) (A B : Option Addr) (n c n' c' : Nat) (ts us : List Tm) (w : World) (h : IsTerms w 0 w.heap.size A n c ts) (h' : IsTerms w 0 w.heap.size B n' c' us) :
    Calls Tryz.prog 88 #[.agg #[.string nm, .slice A n c], .agg #[.string nm', .slice B n' c']] w (IntPost (atomCmp (nm, ts) (nm', us)) w) := by
  have H := Lib.hid h; clear h
  have H' := Lib.hid h'; clear h'
  go_enter Tryz.func88, Tryz.ntmps88
  go_wp2_with (first
    | (go_at_call 117; refine (compare_any _ _ _).mono ?_; rintro e w' ⟨rfl, rfl⟩)
    | (go_at_call 118; refine (compareFunc_any _ _ _ _ _ _ ts us _ (H.out.up (below2 _ _ _)) (H'.out.up (below2 _ _ _))).mono ?_; rintro e w1 ⟨rfl, hb1⟩))
  · have hne : textCmp nm nm' ≠ 0 := ne0 (by assumption)
    go_ret; exact ⟨retI (by unfold atomCmp; rw [if_neg hne]), below2 _ _ _⟩
  · have heq : textCmp nm nm' = 0 := is0 (by assumption)
    go_ret; exact ⟨retI (by unfold atomCmp; rw [if_pos heq]), belowThen (below2 _ _ _) hb1⟩

end Go.Proofs.YtogonjkklioaaaaGreatDoor

namespace Go.Proofs.YtogonjkklioaaaaGreatDoor
open Go.RowKit

/-- The names of terms. -/
def tmNames (ts : List Tm) : List (List UInt8) := ts.map fun t => t.2.data.toList

/-- An atom's text. -/
def textL (a : At) : List UInt8 := a.1.data.toList ++ [40] ++ Lib.join (tmNames a.2) [44] ++ [41]

/-- A text as the result. -/
def StrPost (l : List UInt8) (w : World) (e : Ending) (w' : World) : Prop := e = .returned (.string ⟨l.toArray⟩) ∧ Below w.heap.size w w'

theorem join_snoc (xs : List (List UInt8)) (x : List UInt8) (h : xs ≠ []) : Lib.join (xs ++ [x]) [44] = Lib.join xs [44] ++ [44] ++ x := by
  cases xs with
  | nil => exact absurd rfl h
  | cons y r =>
    rw [List.cons_append, Lib.join_cons, Lib.join_cons]
    simp [Lib.joinTail]

theorem names_snoc {ts : List Tm} {k : Nat} {t : Tm} (h : ts[k]? = some t) : tmNames (ts.take (k + 1)) = tmNames (ts.take k) ++ [t.2.data.toList] := by
  obtain ⟨h1, h2⟩ := List.getElem?_eq_some_iff.1 h
  unfold tmNames
  rw [List.take_succ_eq_append_getElem h1, List.map_append, h2]; rfl

theorem join_first {ts : List Tm} {t : Tm} (h : ts[0]? = some t) : Lib.join (tmNames (ts.take 1)) [44] = t.2.data.toList := by
  rw [names_snoc (k := 0) h]
  simp [tmNames, Lib.join_one]

theorem join_next {ts : List Tm} {k : Nat} {t : Tm} (h : ts[k]? = some t) (hk : 0 < k) : Lib.join (tmNames (ts.take (k + 1))) [44] = Lib.join (tmNames (ts.take k)) [44] ++ [44] ++ t.2.data.toList := by
  obtain ⟨h1, _⟩ := List.getElem?_eq_some_iff.1 h
  rw [names_snoc h, join_snoc]
  intro e
  have h2 : (tmNames (ts.take k)).length = k := by unfold tmNames; rw [List.length_map, List.length_take]; omega
  rw [e] at h2
  exact absurd h2 (by simp; omega)

/-- What is put so far is no longer than all. -/
theorem join_le : ∀ (xs ys : List (List UInt8)), (Lib.join xs [44]).length ≤ (Lib.join (xs ++ ys) [44]).length := by
  intro xs ys
  cases xs with
  | nil => simp [Lib.join_nil]
  | cons x r =>
    rw [List.cons_append, Lib.join_cons, Lib.join_cons]
    simp [Lib.joinTail]

theorem join_take_le (ts : List Tm) (k : Nat) : (Lib.join (tmNames (ts.take k)) [44]).length ≤ (Lib.join (tmNames ts) [44]).length := by
  have h := join_le (tmNames (ts.take k)) (tmNames (ts.drop k))
  rwa [show tmNames (ts.take k) ++ tmNames (ts.drop k) = tmNames ts by unfold tmNames; rw [← List.map_append, List.take_append_drop]] at h

/-- What stands in the model's text behind k terms. -/
def Part (a : At) (k : Nat) (s : ByteArray) : Prop := s.data.toList = a.1.data.toList ++ [40] ++ Lib.join (tmNames (a.2.take k)) [44]

theorem Part.size {a : At} {k : Nat} {s : ByteArray} (h : Part a k s) : s.size + 1 ≤ (textL a).length := by
  have h1 : s.size = s.data.toList.length := rfl
  rw [h1, h]
  unfold textL
  have := join_take_le a.2 k
  simp only [List.length_append, List.length_cons, List.length_nil]
  omega

theorem Part.start (a : At) : Part a 0 (a.1 ++ ⟨#[40]⟩) := by
  unfold Part
  simp [tmNames, Lib.join_nil]

theorem Part.one {a : At} {s : ByteArray} {t : Tm} (h : Part a 0 s) (ht : a.2[0]? = some t) : Part a 1 (s ++ t.2) := by
  unfold Part at *
  rw [join_first ht]
  simp [h, tmNames, Lib.join_nil]

theorem Part.one' {a : At} {k : Nat} {s : ByteArray} {t : Tm} (h : Part a k s) (hk : k = 0) (ht : a.2[k]? = some t) : Part a (k + 1) (s ++ t.2) := by
  subst hk; exact h.one ht

theorem Part.next {a : At} {k : Nat} {s : ByteArray} {t : Tm} (h : Part a k s) (ht : a.2[k]? = some t) (hk : 0 < k) : Part a (k + 1) (s ++ ⟨#[44]⟩ ++ t.2) := by
  unfold Part at *
  rw [join_next ht hk]
  simp [h]

theorem Part.all {a : At} {k n : Nat} {s : ByteArray} (h : Part a k s) (hn : a.2.length = n) (hk : ¬ k < n) : s ++ ⟨#[41]⟩ = ⟨(textL a).toArray⟩ := by
  unfold Part at h
  rw [List.take_of_length_le (by omega)] at h
  apply ByteArray.ext
  rw [ByteArray.data_append]
  apply Array.toList_inj.1
  rw [Array.toList_append, h]
  simp [textL]

set_option maxHeartbeats 1000000 in
theorem l1Put_any (nm : ByteArray) (A : Option Addr) (n c : Nat) (ts : List Tm) (w : World) (h : IsTerms w 0 w.heap.size A n c ts) (hl : (textL (nm, ts)).length ≤ 1099511627776) :
    Calls Tryz.prog 62 #[.agg #[.string nm, .slice A n c]] w (StrPost (textL (nm, ts)) w) := by
  have hm : n ≤ maxLen := by have := h.2.1; have := h.2.2.1; omega
  unfold maxLen at hm
  have L1 := Lib.hid h.1
  have H := Lib.hid h; clear h
  have hw0 := below1 w (.cells #[.string nm, .slice A n c] 51)
  have P0 := Lib.hid (Part.start (nm, ts))
  have hs0 := P0.out.size
  have hs1 : nm.size + 1 ≤ 1099511627776 := by simp at hs0; omega
  clear hs0
  go_enter Tryz.func62, Tryz.ntmps62
  go_wp2
  go_loop [3, 4] (fun x i => ∃ (k : Nat) (s : ByteArray), k ≤ n ∧ i = .int .i64 k ∧ x = .string s ∧ Part (nm, ts) k s) (fun _ i => n - (intOf i).toNat)
  case atStart => exact ⟨0, _, Nat.zero_le _, rfl, rfl, P0.out⟩
  case round =>
    obtain ⟨k, s, hk, rfl, rfl, hd⟩ := hrel
    have hsz := hd.size
    have hsz1 : s.size + 1 ≤ 1099511627776 := by omega
    clear hsz
    have HD := Lib.hid hd; clear hd
    by_cases hlt : k < n
    · obtain ⟨p, t, hA, hlo, hhi, hg, c1, c2, c3⟩ := (H.out.up hw0).at_ hlt
      subst hA
      have HG := Lib.hid hg; clear hg
      rcases Nat.eq_zero_or_pos k with h0 | h0
      · have HN := Lib.hid (HD.out.one' h0 HG.out)
        have hpos : ¬ (0 : Int) < (k : Int) := by omega
        clear h0
        have h2 := HN.out.size
        have h3 : s.size + t.2.size ≤ 1099511627776 := by rw [ByteArray.size_append] at h2; omega
        clear h2
        go_wp2
        go_round
        case rel => exact ⟨k + 1, _, by omega, by go_num, rfl, HN.out⟩
        case measure => simp [intOf]; omega
      · have HN := Lib.hid (HD.out.next HG.out h0)
        have h2 := HN.out.size
        have h3 : s.size + 1 + t.2.size ≤ 1099511627776 := by rw [ByteArray.size_append, ByteArray.size_append, show (⟨#[44]⟩ : ByteArray).size = 1 from rfl] at h2; omega
        clear h2
        have hpos : (0 : Int) < (k : Int) := by omega
        go_wp2
        go_round
        case rel => exact ⟨k + 1, _, by omega, by go_num, rfl, HN.out⟩
        case measure => simp [intOf]; omega
    · have E := Lib.hid (HD.out.all L1.out hlt)
      go_wp2
      go_ret
      exact ⟨by rw [← E.out]; rfl, hw0⟩

end Go.Proofs.YtogonjkklioaaaaGreatDoor
