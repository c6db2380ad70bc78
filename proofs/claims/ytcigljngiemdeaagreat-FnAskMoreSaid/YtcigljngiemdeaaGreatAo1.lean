/-
  Texts of one claim, put together.
-/
import Derived.Test.YtcigljngiemdeaaGreatAo0
import Derived.Outline
import Derived.Lib.IndexBytes
import Derived.Deep.LoopGhost
import Derived.Deep.RegionWith
import Derived.Test.YtcigljngiemdeaaGreatShelf
import Derived.Deep.QuietTactic
import Derived.BigQuiet
import Derived.Deep.RegionHeld3
set_option maxRecDepth 100000
set_option maxHeartbeats 8000000
namespace Go.Proofs.YtcigljngiemdeaaGreat
open Go.RowKit
def capital (c : UInt8) : Bool := decide (65 ≤ (c.toNat : Int)) && decide ((c.toNat : Int) ≤ 90)
def varB (l : List UInt8) : Bool := match l with
  | [] => false
  | c :: r => capital c && small r && decide (r.length ≤ 7)
theorem rest_list (s : ByteArray) : (s.extract 1 s.size).data.toList = s.data.toList.drop 1 := by
  exact Lib.extract_to_end s 1
theorem rest_size (s : ByteArray) (h : 0 < s.size) : (s.extract 1 s.size).size + 1 = s.size := by
  have : (s.extract 1 s.size).size = s.data.toList.length - 1 := by
    show (s.extract 1 s.size).data.toList.length = _; rw [rest_list, List.length_drop]
  have h2 : s.size = s.data.toList.length := rfl; omega
theorem rest_le (s : ByteArray) (h : s.size ≤ maxLen) : (s.extract 1 s.size).size ≤ maxLen := by
  by_cases h0 : 0 < s.size
  · have := rest_size s h0; omega
  · have : (s.extract 1 s.size).size = (s.data.toList.drop 1).length := by rw [← rest_list]; rfl
    rw [List.length_drop] at this; have h2 : s.size = s.data.toList.length := rfl; omega
theorem first_rest (s : ByteArray) (h : 0 < s.size) : s.data.toList = s[0] :: (s.extract 1 s.size).data.toList := by
  rw [rest_list]; have h2 : 0 < s.data.toList.length := h; exact (List.drop_eq_getElem_cons (i := 0) h2)
theorem rest_tail (s : ByteArray) : s.data.toList.tail.take (s.size - 1) = (s.extract 1 s.size).data.toList := by
  rw [rest_list, List.drop_one, List.take_of_length_le]; rw [List.length_tail]; exact nl _
theorem varB_cons (s : ByteArray) (h : 0 < s.size) : varB s.data.toList = (capital s[0] && small (s.data.toList.tail.take (s.size - 1)) && decide (s.size ≤ 8)) := by
  have h3 : (s.extract 1 s.size).data.toList.length + 1 = s.size := rest_size s h; rw [rest_tail, first_rest s h]; show (capital s[0] && small (s.extract 1 s.size).data.toList && decide ((s.extract 1 s.size).data.toList.length ≤ 7)) = _; rw [show decide ((s.extract 1 s.size).data.toList.length ≤ 7) = decide (s.size ≤ 8) by rw [decide_eq_decide]; omega]
theorem varB_model (s : ByteArray) (h : 0 < s.size) : varB s.data.toList = (capital s[0] && (((s.size : Int) == 1) || (letters (s.data.toList.tail.take (s.size - 1)) && decide ((s.size : Int) ≤ 8)))) := by
  rw [varB_cons s h]; have h3 : (s.data.toList.tail.take (s.size - 1)).length + 1 = s.size := by rw [rest_tail]; exact rest_size s h
  generalize s.data.toList.tail.take (s.size - 1) = r at *; by_cases h1 : s.size = 1
  · have : r = [] := List.eq_nil_of_length_eq_zero qaa
    subst this; simp [h1, small]
  · have e1 : ((s.size : Int) == 1) = false := by rw [beq_eq_false_iff_ne]; omega
    rw [e1, Bool.false_or, Bool.and_assoc]; congr 1; unfold letters; have e2 : decide (1 ≤ (r.length : Int)) = true := by rw [decide_eq_true_iff]; omega
    rw [e2, Bool.true_and, Bool.and_assoc]; congr 1; by_cases h8 : s.size ≤ 8
    · simp [h8]; omega
    · simp [h8]; omega
theorem varB_no (s : ByteArray) (h : s.size < 1 ∨ 8 < s.size) : varB s.data.toList = false := by
  rcases Nat.eq_zero_or_pos s.size with h0 | h0
  · have : s.data.toList = [] := List.eq_nil_of_length_eq_zero h0
    rw [this]; rfl
  · rw [varB_cons s h0]; simp; omega
def termB (t : Tm) : Bool := if t.1 then varB t.2.data.toList else nameB t.2.data.toList
theorem capital_any (c : UInt8) (w : World) : Calls Tryz.prog 220 #[.int .u8 (c.toNat : Int)] w fun e w' => e = .returned (.bool (capital c)) ∧ w = w' := by
  go_enter Tryz.func220, Tryz.ntmps220; go_wp2
  all_goals (go_ret; exact ⟨retB (by unfold capital; simp; try omega), rfl⟩)
theorem word_any (s : ByteArray) (w : World) (hs : s.size ≤ maxLen) : Calls Tryz.prog 221 #[.string s] w fun e w' => e = .returned (.bool (nameB s.data.toList)) ∧ w = w' := by
  go_enter Tryz.func221, Tryz.ntmps221; go_wp2_with (go_at_call 163; refine (implName_any _ _ hs).mono ?_; rintro e w' ⟨rfl, rfl⟩); go_ret; exact ⟨rfl, rfl⟩
theorem variable_any (s : ByteArray) (w : World) (hs : s.size ≤ maxLen) : Calls Tryz.prog 219 #[.string s] w fun e w' => e = .returned (.bool (varB s.data.toList)) ∧ w = w' := by
  have hs' := hs; unfold maxLen at hs'; go_enter Tryz.func219, Tryz.ntmps219
  go_wp2_with (first
    | (go_at_call 220; refine (capital_any _ _).mono ?_; rintro e w' ⟨rfl, rfl⟩)
    | (go_at_call 191; refine (allSmall_any _ _ (rest_le s hs)).mono ?_; rintro e w' ⟨rfl, rfl⟩))
  all_goals first
    | (have hp : 0 < s.size := by assumption
       go_ret; refine ⟨retB ?_, rfl⟩; rw [varB_cons s hp]; simp_all; try omega)
    | (go_ret; refine ⟨retB ?_, rfl⟩; rw [varB_no s qaa])
theorem l1Term_any (v : Bool) (s : ByteArray) (w : World) (hs : s.size ≤ maxLen) :
    Calls Tryz.prog 81 #[.agg #[.bool v, .string s]] w (BoolPost (termB (v, s)) w) := by
  have hs' := hs; unfold maxLen at hs'; cases v
  · go_enter Tryz.func81, Tryz.ntmps81
    go_wp2_with (go_at_call 82; refine (specName_any _ _ hs).mono ?_; rintro e w' ⟨rfl, rfl⟩); go_ret; exact ⟨rfl, below1 _ _⟩
  · by_cases hp : 0 < s.size
    · have hz : ((s.size : Int) == 0) = false := by rw [beq_eq_false_iff_ne]; omega
      have hlt : (0 : Int) < (s.size : Int) := qaa; go_enter Tryz.func81, Tryz.ntmps81; go_wp2_with (go_at_call 124; refine (letters_any _ _ (rest_le s hs)).mono ?_; rintro e w' ⟨rfl, rfl⟩)
      all_goals (go_ret; refine ⟨retB ?_, below1 _ _⟩; show _ = varB s.data.toList; rw [varB_model s hp]; unfold capital; simp_all; try omega)
    · have h0 : s.size = 0 := qaa
      have hz : ((s.size : Int) == 0) = true := by rw [beq_iff_eq]; omega
      have HN := hid (varB_no s (.inl qaa)); clear h0; go_enter Tryz.func81, Tryz.ntmps81; go_wp2; go_ret; exact ⟨retB HN.out.symm, below1 _ _⟩
end Go.Proofs.YtcigljngiemdeaaGreat
namespace Go.Proofs.YtcigljngiemdeaaGreat
open Go.RowKit
def argsB (ts : List Tm) : Bool := ts.all termB
def atomB (a : At) : Bool := argsB a.2 && (nameB a.1.data.toList && decide (a.2.length ≤ 3))
theorem argsB_snoc {ts : List Tm} {k : Nat} {t : Tm} (h : ts[k]? = some t) (hr : argsB (ts.take k) = true) (ht : termB t = true) : argsB (ts.take (k + 1)) = true := by
  obtain ⟨h1, h2⟩ := List.getElem?_eq_some_iff.1 h; unfold argsB at *; rw [List.take_succ_eq_append_getElem h1, List.all_append, hr, h2]; simp [ht]
theorem argsB_no {ts : List Tm} {k : Nat} {t : Tm} (h : ts[k]? = some t) (ht : termB t = false) : argsB ts = false := by
  unfold argsB; rw [List.all_eq_false]; exact ⟨t, List.mem_of_getElem? h, by simp [ht]⟩
theorem argsB_all {ts : List Tm} {k n : Nat} (h : ts.length = n) (hk : ¬ k < n) (hr : argsB (ts.take k) = true) : argsB ts = true := by
  rwa [List.take_of_length_le qaa] at hr
theorem term_yes {t : Tm} (h : (!termB (t.1, t.2)) = false) : termB t = true := by simpa using h
theorem atomB_no {nm : ByteArray} {ts : List Tm} {k : Nat} {t : Tm} (h : ts[k]? = some t) (ht : (!termB (t.1, t.2)) = true) : atomB (nm, ts) = false := by
  unfold atomB; rw [argsB_no h (by simpa using ht)]; rfl
theorem atomB_end {nm : ByteArray} {ts : List Tm} {n : Nat} (hl : ts.length = n) (h : argsB ts = true) : atomB (nm, ts) = (nameB nm.data.toList && decide ((n : Int) ≤ 3)) := by
  unfold atomB; rw [h, Bool.true_and, hl]; congr 1; rw [decide_eq_decide]; omega
theorem atomB_short {nm : ByteArray} {ts : List Tm} {n : Nat} (hl : ts.length = n) (h : nameB nm.data.toList = false ∨ 3 < (n : Int)) : atomB (nm, ts) = false := by
  unfold atomB; rcases h with h | h
  · simp [h]
  · have : decide (ts.length ≤ 3) = false := by rw [decide_eq_false_iff_not]; omega
    simp [this]
theorem specAtomOk_any (nm : ByteArray) (A : Option Addr) (n c : Nat) (ts : List Tm) (w : World) (hs : nm.size ≤ maxLen) (h : IsTerms w 0 w.heap.size A n c ts) :
    Calls Tryz.prog 34 #[.agg #[.string nm, .slice A n c]] w (BoolPost (atomB (nm, ts)) w) := by
  have hm : n ≤ maxLen := qbo; unfold maxLen at hm; have H := hid h; clear h; go_enter Tryz.func34, Tryz.ntmps34; go_wp2; have hw0 := below1 w (.cells #[.string nm, .slice A n c] 49); go_loopw [3] (fun i wr => ∃ k : Nat, k ≤ n ∧ i = .int .i64 k ∧ argsB (ts.take k) = true ∧ Below (w.alloc (.cells #[.string nm, .slice A n c] 49)).heap.size (w.alloc (.cells #[.string nm, .slice A n c] 49)) wr) (fun i _ => n - (intOf i).toNat)
  case atStart => exact ⟨0, Nat.zero_le _, rfl, rfl, Below.refl _ _⟩
  case round =>
    obtain ⟨k, hk, rfl, hd, hb⟩ := hrel; have HD := hid hd; clear hd; obtain ⟨hc, hf⟩ := oldCells hb; by_cases hlt : k < n
    · obtain ⟨p, t, hA, hlo, hhi, hg, c1, c2, c3⟩ := ((H.out.up hw0).below hb (nl _)).at_ hlt
      subst hA; have HG := hid hg; clear hg; go_wp2_with (go_at_call 81; refine (l1Term_any _ _ _ c3).mono ?_; rintro e w1 ⟨rfl, hb1⟩)
      · go_ret; exact ⟨retB (atomB_no HG.out qaz).symm, belowThen hw0 (belowThen hb hb1)⟩
      · go_roundw
        case rel => exact ⟨k + 1, by omega, by go_num, argsB_snoc HG.out HD.out (term_yes qaz), belowThen hb hb1⟩
        case measure => exact qms
    · go_wp2_with (go_at_call 82; refine (specName_any _ _ hs).mono ?_; rintro e w' ⟨rfl, rfl⟩)
      all_goals (go_ret; exact ⟨retB (by rw [atomB_end H.out.1 (argsB_all H.out.1 hlt HD.out)]; simp_all), belowThen hw0 hb⟩)
theorem termWord_any (s : ByteArray) (w : World) :
    Calls Tryz.prog 161 #[.agg #[.bool false, .string s]] w fun e w' => e = .returned (.iface 218 (.string s)) ∧ Below w.heap.size w w' := by
  go_enter Tryz.func161, Tryz.ntmps161; go_wp2; go_ret; exact ⟨rfl, below1 _ _⟩
theorem termVar_any (s : ByteArray) (w : World) :
    Calls Tryz.prog 161 #[.agg #[.bool true, .string s]] w fun e w' => e = .returned (.iface 217 (.string s)) ∧ Below w.heap.size w w' := by
  go_enter Tryz.func161, Tryz.ntmps161; go_wp2; go_ret; exact ⟨rfl, below1 _ _⟩
def okName : String := String.intercalate (String.singleton (Char.ofNat 47)) ["loop.example", "springhead", "impl.ok"]
theorem method_word (k : Nat) (nm : String) (s : ByteArray) (w : World) (h : nm = okName) : (method (k + 1) 218 (.string s) nm).run Tryz.prog w = .ok (221, .string s) w := by
  subst h; kernel_rfl
theorem method_variable (k : Nat) (nm : String) (s : ByteArray) (w : World) (h : nm = okName) : (method (k + 1) 217 (.string s) nm).run Tryz.prog w = .ok (219, .string s) w := by
  subst h; kernel_rfl
theorem implAtomOk_any (nm : ByteArray) (A : Option Addr) (n c : Nat) (ts : List Tm) (w : World) (hs : nm.size ≤ maxLen) (h : IsTerms w 0 w.heap.size A n c ts) :
    Calls Tryz.prog 119 #[.agg #[.string nm, .slice A n c]] w (BoolPost (atomB (nm, ts)) w) := by
  have hm : n ≤ maxLen := qbo; unfold maxLen at hm; have H := hid h; clear h; have hw0 := below1 w (.cells #[.string nm, .slice A n c] 49); go_enter Tryz.func119, Tryz.ntmps119; go_wp2_with (go_at_call 163; refine (implName_any _ _ hs).mono ?_; rintro e w' ⟨rfl, rfl⟩)
  · go_ret; exact ⟨retB (atomB_short H.out.1 (.inr qaz)).symm, hw0⟩
  · have hn3 : (n : Int) ≤ 3 := qaz
    go_loopw [4, 18] (fun _ i wr => ∃ k : Nat, k ≤ n ∧ i = .int .i64 k ∧ argsB (ts.take k) = true ∧ Below (w.alloc (.cells #[.string nm, .slice A n c] 49)).heap.size (w.alloc (.cells #[.string nm, .slice A n c] 49)) wr) (fun _ i _ => n - (intOf i).toNat)
    case atStart => exact ⟨0, Nat.zero_le _, rfl, rfl, Below.refl _ _⟩
    case round =>
      obtain ⟨k, hk, rfl, hd, hb⟩ := hrel; have HD := hid hd; clear hd; obtain ⟨hc, hf⟩ := oldCells hb; by_cases hlt : k < n
      · obtain ⟨p, ⟨v, s⟩, hA, hlo, hhi, hg, c1, c2, c3⟩ := ((H.out.up hw0).below hb (nl _)).at_ hlt
        subst hA; have HG := hid hg; clear hg; cases v
        · go_wp2_with (first
            | (go_at_call 161; refine (termWord_any _ _).mono ?_; rintro e w1 ⟨rfl, hb1⟩; have hb2 := belowThen hb (belowThen (below1 _ _) hb1); clear hb1)
            | (go_at_call 221; refine (word_any _ _ c3).mono ?_; rintro e w' ⟨rfl, rfl⟩)
            | (rw [method_word (h := ?hname)]; rotate_left; case hname => kernel_rfl))
          · go_ret; exact ⟨retB (atomB_no HG.out qaz).symm, belowThen hw0 hb2⟩
          · go_roundw
            case rel => exact ⟨k + 1, by omega, by go_num, argsB_snoc HG.out HD.out (term_yes qaz), hb2⟩
            case measure => exact qms
        · go_wp2_with (first
            | (go_at_call 161; refine (termVar_any _ _).mono ?_; rintro e w1 ⟨rfl, hb1⟩; have hb2 := belowThen hb (belowThen (below1 _ _) hb1); clear hb1)
            | (go_at_call 219; refine (variable_any _ _ c3).mono ?_; rintro e w' ⟨rfl, rfl⟩)
            | (rw [method_variable (h := ?hname)]; rotate_left; case hname => kernel_rfl))
          · go_ret; exact ⟨retB (atomB_no HG.out qaz).symm, belowThen hw0 hb2⟩
          · go_roundw
            case rel => exact ⟨k + 1, by omega, by go_num, argsB_snoc HG.out HD.out (term_yes qaz), hb2⟩
            case measure => exact qms
      · go_wp2
        go_ret; exact ⟨retB (by rw [atomB_end H.out.1 (argsB_all H.out.1 hlt HD.out)]; simp_all), belowThen hw0 hb⟩
  · go_ret; exact ⟨retB (atomB_short H.out.1 (.inl (by simp_all))).symm, hw0⟩
end Go.Proofs.YtcigljngiemdeaaGreat

namespace Go.Proofs.YtcigljngiemdeaaGreat
open Go.RowKit
def textCmp (a b : ByteArray) : Int := Lib.compareBytes a.data.toList b.data.toList
theorem cmp_range : ∀ a b : List UInt8, Lib.compareBytes a b = -1 ∨ Lib.compareBytes a b = 0 ∨ Lib.compareBytes a b = 1
  | [], [] => .inr (.inl rfl)
  | [], _ :: _ => .inl rfl
  | _ :: _, [] => .inr (.inr rfl)
  | a :: l, b :: m => by
    unfold Lib.compareBytes; split
    · exact .inl rfl
    · split
      · exact .inr (.inr rfl)
      · exact cmp_range l m
theorem less_cmp : ∀ a b : List UInt8, Op.bytesLess a b = decide (Lib.compareBytes a b = -1) ∧ (a == b) = decide (Lib.compareBytes a b = 0)
  | [], [] => ⟨rfl, rfl⟩
  | [], _ :: _ => ⟨rfl, rfl⟩
  | _ :: _, [] => ⟨rfl, rfl⟩
  | a :: l, b :: m => by
    obtain ⟨h1, h2⟩ := less_cmp l m; by_cases hl : a < b
    · have hne : a ≠ b := fun e => by subst e; exact absurd hl (UInt8.lt_irrefl _)
      constructor
      · simp [Op.bytesLess, Lib.compareBytes, hl]
      · simp [Lib.compareBytes, hl, hne]
    · by_cases hg : b < a
      · have hne : a ≠ b := fun e => by subst e; exact absurd hg (UInt8.lt_irrefl _)
        constructor
        · simp [Op.bytesLess, Lib.compareBytes, hl, hg, hne]
        · simp [Lib.compareBytes, hl, hg, hne]
      · have he : a = b := UInt8.le_antisymm (UInt8.not_lt.1 hg) (UInt8.not_lt.1 hl)
        subst he; constructor
        · simp [Op.bytesLess, Lib.compareBytes, hl, h1]
        · have : (a :: l == a :: m) = (l == m) := qad
          rw [this, h2]; simp [Lib.compareBytes, hl]
theorem retI {a b : Int} (h : a = b) : Ending.returned (.int .i64 a) = .returned (.int .i64 b) := by rw [h]
theorem l1Texts_any (a b : ByteArray) (w : World) : Calls Tryz.prog 167 #[.string a, .string b] w fun e w' => e = .returned (.int .i64 (textCmp a b)) ∧ w = w' := by
  have h1 := (less_cmp a.toList b.toList).1; have h2 := (less_cmp a.toList b.toList).2; have hr := cmp_range a.toList b.toList; have ht : textCmp a b = Lib.compareBytes a.toList b.toList := by unfold textCmp; rw [ByteArray.toList_eq, ByteArray.toList_eq]
  rcases hr with h | h | h
  · have e1 : Op.bytesLess a.toList b.toList = true := by rw [h1, h]; rfl
    have HT := hid (ht.trans h); clear h1 h2 ht h; go_enter Tryz.func167, Tryz.ntmps167; go_wp2; go_ret; exact ⟨retI HT.out.symm, rfl⟩
  · have e1 : Op.bytesLess a.toList b.toList = false := by rw [h1, h]; rfl
    have e2 : (a.toList == b.toList) = true := by rw [h2, h]; rfl
    have HT := hid (ht.trans h); clear h1 h2 ht h; go_enter Tryz.func167, Tryz.ntmps167; go_wp2; go_ret; exact ⟨retI HT.out.symm, rfl⟩
  · have e1 : Op.bytesLess a.toList b.toList = false := by rw [h1, h]; rfl
    have e2 : (a.toList == b.toList) = false := by rw [h2, h]; rfl
    have HT := hid (ht.trans h); clear h1 h2 ht h; go_enter Tryz.func167, Tryz.ntmps167; go_wp2; go_ret; exact ⟨retI HT.out.symm, rfl⟩
theorem compare_any (a b : ByteArray) (w : World) : Calls Tryz.prog 164 #[.string a, .string b] w fun e w' => e = .returned (.int .i64 (textCmp a b)) ∧ w = w' :=
  (Tryz.strings_Compare a b w).mono fun _ _ ⟨he, hw⟩ => ⟨he, hw.symm⟩
def IntPost (n : Int) (w : World) (e : Ending) (w' : World) : Prop := e = .returned (.int .i64 n) ∧ Below w.heap.size w w'
theorem compareTerms_any (v v' : Bool) (s s' : ByteArray) (w : World) : Calls Tryz.prog 166 #[.agg #[.bool v, .string s], .agg #[.bool v', .string s']] w (IntPost (textCmp s s') w) := by
  go_enter Tryz.func166, Tryz.ntmps166; go_wp2_with (go_at_call 164; refine (compare_any _ _ _).mono ?_; rintro e w' ⟨rfl, rfl⟩); go_ret; exact ⟨rfl, below2 _ _ _⟩
theorem ne0 {x : Int} (h : (x != 0) = true) : x ≠ 0 := by simpa using h
theorem is0 {x : Int} (h : (x != 0) = false) : x = 0 := by simpa using h
def argsCmp : List Tm → List Tm → Int
  | [], [] => 0
  | [], _ :: _ => -1
  | _ :: _, [] => 1
  | x :: l, y :: m => if textCmp x.2 y.2 = 0 then argsCmp l m else textCmp x.2 y.2
def atomCmp (a b : At) : Int := if textCmp a.1 b.1 = 0 then argsCmp a.2 b.2 else textCmp a.1 b.1
theorem argsCmp_step {ts us : List Tm} {k : Nat} {t u : Tm} (h : ts[k]? = some t) (h' : us[k]? = some u) : argsCmp (ts.drop k) (us.drop k) = if textCmp t.2 u.2 = 0 then argsCmp (ts.drop (k + 1)) (us.drop (k + 1)) else textCmp t.2 u.2 := by
  obtain ⟨h1, h2⟩ := List.getElem?_eq_some_iff.1 h; obtain ⟨h3, h4⟩ := List.getElem?_eq_some_iff.1 h'; rw [List.drop_eq_getElem_cons h1, List.drop_eq_getElem_cons h3, h2, h4]; rfl
theorem argsCmp_left {ts us : List Tm} {k : Nat} (h : us.length ≤ k) (h' : k < ts.length) : argsCmp (ts.drop k) (us.drop k) = 1 := by
  rw [List.drop_eq_getElem_cons h', List.drop_eq_nil_of_le h]; rfl
theorem argsCmp_right {ts us : List Tm} {k : Nat} (h : ts.length ≤ k) (h' : k < us.length) : argsCmp (ts.drop k) (us.drop k) = -1 := by
  rw [List.drop_eq_getElem_cons h', List.drop_eq_nil_of_le h]; rfl
theorem argsCmp_none {ts us : List Tm} {k : Nat} (h : ts.length ≤ k) (h' : us.length ≤ k) : argsCmp (ts.drop k) (us.drop k) = 0 := by
  rw [List.drop_eq_nil_of_le h, List.drop_eq_nil_of_le h']; rfl
theorem compareFunc_any (A B : Option Addr) (n c n' c' : Nat) (ts us : List Tm) (w : World) (h : IsTerms w 0 w.heap.size A n c ts) (h' : IsTerms w 0 w.heap.size B n' c' us) :
    Calls Tryz.prog 165 #[.slice A n c, .slice B n' c', .func (.func 166) #[] #[]] w (IntPost (argsCmp ts us) w) := by
  have hm : n ≤ maxLen := qbo; have hm' : n' ≤ maxLen := by have := h'.2.1; have := h'.2.2.1; omega
  unfold maxLen at hm hm'; have H := hid h; clear h; have H' := hid h'; clear h'; go_enter Tryz.func165, Tryz.ntmps165; go_wp2; go_loopw [7, 8, 9, 10, 13] (fun _ _ _ _ i wr => ∃ k : Nat, k ≤ n ∧ k ≤ n' ∧ i = .int .i64 k ∧ argsCmp (ts.drop k) (us.drop k) = argsCmp ts us ∧ Below w.heap.size w wr) (fun _ _ _ _ i _ => n - (intOf i).toNat)
  case atStart => exact ⟨0, Nat.zero_le _, Nat.zero_le _, rfl, rfl, Below.refl _ _⟩
  case round =>
    obtain ⟨k, hk, hk', rfl, hd, hb⟩ := hrel; have HD := hid hd; clear hd; by_cases hlt : k < n
    · obtain ⟨p, t, hA, hlo, hhi, hg, c1, c2, c3⟩ := (H.out.below hb (nl _)).at_ hlt
      subst hA; have HG := hid hg; clear hg; by_cases hlt' : k < n'
      · obtain ⟨p', t', hA', hlo', hhi', hg', c1', c2', c3'⟩ := (H'.out.below hb (nl _)).at_ hlt'
        subst hA'; have HG' := hid hg'; clear hg'; have d1 := cellUp c1'; have d2 := cellUp c2'; go_wp2_with (go_at_call 166; refine (compareTerms_any _ _ _ _ _).mono ?_; rintro e w1 ⟨rfl, hb1⟩; have HB1 := belowThen hb (belowThen (below2 _ _ _) hb1))
        · have hne : textCmp t.2 t'.2 ≠ 0 := ne0 qaz
          go_ret; exact ⟨retI (by rw [← HD.out, argsCmp_step HG.out HG'.out, if_neg hne]), HB1⟩
        · have heq : textCmp t.2 t'.2 = 0 := is0 qaz
          go_roundw
          case rel => exact ⟨k + 1, by omega, by omega, by go_num, by rw [← HD.out, argsCmp_step HG.out HG'.out, if_pos heq], HB1⟩
          case measure => exact qms
      · have hl : k < ts.length := by have := H.out.1; omega
        have hl' : us.length ≤ k := by have := H'.out.1; omega
        go_wp2; go_ret; exact ⟨retI (by rw [← HD.out, argsCmp_left hl' hl]), belowThen hb (below1 _ _)⟩
    · have hl : ts.length ≤ k := by have := H.out.1; omega
      have hkn : k = n := qaa; by_cases hnn : n < n'
      · have hl' : k < us.length := by have := H'.out.1; omega
        clear hkn; go_wp2; go_ret; exact ⟨retI (by rw [← HD.out, argsCmp_right hl hl']), hb⟩
      · have hl' : us.length ≤ k := by have := H'.out.1; omega
        clear hkn; go_wp2; go_ret; exact ⟨retI (by rw [← HD.out, argsCmp_none hl hl']), hb⟩
theorem compareAtoms_any (nm nm' : ByteArray) (A B : Option Addr) (n c n' c' : Nat) (ts us : List Tm) (w : World) (h : IsTerms w 0 w.heap.size A n c ts) (h' : IsTerms w 0 w.heap.size B n' c' us) :
    Calls Tryz.prog 120 #[.agg #[.string nm, .slice A n c], .agg #[.string nm', .slice B n' c']] w (IntPost (atomCmp (nm, ts) (nm', us)) w) := by
  have H := hid h; clear h; have H' := hid h'; clear h'; go_enter Tryz.func120, Tryz.ntmps120
  go_wp2_with (first
    | (go_at_call 164; refine (compare_any _ _ _).mono ?_; rintro e w' ⟨rfl, rfl⟩)
    | (go_at_call 165; refine (compareFunc_any _ _ _ _ _ _ ts us _ (H.out.up (below2 _ _ _)) (H'.out.up (below2 _ _ _))).mono ?_; rintro e w1 ⟨rfl, hb1⟩))
  · have hne : textCmp nm nm' ≠ 0 := ne0 qaz
    go_ret; exact ⟨retI (by unfold atomCmp; rw [if_neg hne]), below2 _ _ _⟩
  · have heq : textCmp nm nm' = 0 := is0 qaz
    go_ret; exact ⟨retI (by unfold atomCmp; rw [if_pos heq]), belowThen (below2 _ _ _) hb1⟩
theorem l1Texts_same (a b : ByteArray) (w : World) : Calls Tryz.prog 167 #[.string a, .string b] w fun e w' => e = .returned (.int .i64 (textCmp a b)) ∧ w' = w :=
  (l1Texts_any a b w).mono fun _ _ ⟨he, hw⟩ => ⟨he, hw.symm⟩
def Known (a b : At) (k : Nat) (q : Int) : Prop := atomCmp a b = if q = 0 then argsCmp (a.2.drop k) (b.2.drop k) else q
theorem Known.start (a b : At) : Known a b 0 (textCmp a.1 b.1) := rfl
theorem Known.step {a b : At} {k : Nat} {q : Int} {t u : Tm} (h : Known a b k q) (hq : q = 0) (ht : a.2[k]? = some t) (hu : b.2[k]? = some u) : Known a b (k + 1) (textCmp t.2 u.2) := by
  unfold Known at *; rw [h, if_pos hq, argsCmp_step ht hu]
theorem Known.found {a b : At} {k : Nat} {q : Int} (h : Known a b k q) (hq : q ≠ 0) : q = atomCmp a b := by
  unfold Known at h; rw [h, if_neg hq]
theorem Known.left {a b : At} {k : Nat} {q : Int} (h : Known a b k q) (hq : q = 0) (h1 : b.2.length ≤ k) (h2 : k < a.2.length) : 1 = atomCmp a b := by
  unfold Known at h; rw [h, if_pos hq, argsCmp_left h1 h2]
theorem Known.right {a b : At} {k : Nat} {q : Int} (h : Known a b k q) (hq : q = 0) (h1 : a.2.length ≤ k) (h2 : k < b.2.length) : -1 = atomCmp a b := by
  unfold Known at h; rw [h, if_pos hq, argsCmp_right h1 h2]
theorem Known.same {a b : At} {k : Nat} {q : Int} (h : Known a b k q) (hq : q = 0) (h1 : a.2.length ≤ k) (h2 : b.2.length ≤ k) : 0 = atomCmp a b := by
  unfold Known at h; rw [h, if_pos hq, argsCmp_none h1 h2]
theorem belowDrewN {B : Nat} {a w : World} (h : Below B a w) (n : Nat) : Below B a (w.drewN n) := ⟨h.os, h.tape, h.output, h.size, h.block⟩
theorem l1Cmp_any (nm nm' : ByteArray) (A B : Option Addr) (n c n' c' : Nat) (ts us : List Tm) (w : World) (h : IsTerms w 0 w.heap.size A n c ts) (h' : IsTerms w 0 w.heap.size B n' c' us) :
    Calls Tryz.prog 123 #[.agg #[.string nm, .slice A n c], .agg #[.string nm', .slice B n' c']] w (IntPost (atomCmp (nm, ts) (nm', us)) w) := by
  have hm : n ≤ maxLen := qbo; have hm' : n' ≤ maxLen := by have := h'.2.1; have := h'.2.2.1; omega
  unfold maxLen at hm hm'; have hl1 := h.1; have hl2 := h'.1; have L1 := hid hl1; clear hl1; have L2 := hid hl2; clear hl2; have H := hid h; clear h; have H' := hid h'; clear h'; have K0 := hid (Known.start (nm, ts) (nm', us)); have hw0 := below2 w (.cells #[.string nm, .slice A n c] 49) (.cells #[.string nm', .slice B n' c'] 49); go_enter Tryz.func123, Tryz.ntmps123; go_wp2_with (go_at_call 167; refine (l1Texts_any _ _ _).mono ?_; rintro e w' ⟨rfl, rfl⟩)
  go_loopw [5, 6] (fun x i wr => ∃ (k : Nat) (q : Int), k ≤ n ∧ k ≤ n' ∧ i = .int .i64 k ∧ x = .int .i64 q ∧ Known (nm, ts) (nm', us) k q ∧ Below ((w.alloc (.cells #[.string nm, .slice A n c] 49)).alloc (.cells #[.string nm', .slice B n' c'] 49)).heap.size ((w.alloc (.cells #[.string nm, .slice A n c] 49)).alloc (.cells #[.string nm', .slice B n' c'] 49)) wr) (fun _ i _ => n - (intOf i).toNat)
  case atStart => exact ⟨0, _, Nat.zero_le _, Nat.zero_le _, rfl, rfl, K0.out, Below.refl _ _⟩
  case round =>
    obtain ⟨k, q, hk, hk', rfl, rfl, hd, hb⟩ := hrel; have HD := hid hd; clear hd; obtain ⟨hc, hf⟩ := oldCells hb; by_cases hq : q = 0
    · have hq1 : (q == 0) = true := by rw [beq_iff_eq]; exact hq
      have hq2 : (q != 0) = false := by rw [hq]; rfl
      have HQ := hid hq; clear hq; by_cases hlt : k < n
      · obtain ⟨p, t, hA, hlo, hhi, hg, c1, c2, c3⟩ := ((H.out.up hw0).below hb (nl _)).at_ hlt
        subst hA; have HG := hid hg; clear hg; by_cases hlt' : k < n'
        · obtain ⟨p', t', hA', hlo', hhi', hg', c1', c2', c3'⟩ := ((H'.out.up hw0).below hb (nl _)).at_ hlt'
          subst hA'; have HG' := hid hg'; clear hg'; go_wp2_with fail; go_quiet ((go_at_call 167; exact Calls.quiet_of_same (l1Texts_same _ _ _))); go_wp2; go_roundw
          case rel => exact ⟨k + 1, _, by omega, by omega, by go_num, rfl, HD.out.step HQ.out HG.out HG'.out, belowDrewN hb _⟩
          case measure => exact qms
        · have hl' : us.length ≤ k := by have := L2.out; omega
          have hl : k < ts.length := by have := L1.out; omega
          go_wp2; go_ret; exact ⟨retI (HD.out.left HQ.out hl' hl), belowThen hw0 hb⟩
      · have hl : ts.length ≤ k := by have := L1.out; omega
        by_cases hnn : n < n'
        · have hl' : k < us.length := by have := L2.out; omega
          go_wp2; go_ret; exact ⟨retI (HD.out.right HQ.out hl hl'), belowThen hw0 hb⟩
        · have hl' : us.length ≤ k := by have := L2.out; omega
          go_wp2; go_ret; exact ⟨retI (HD.out.same HQ.out hl hl'), belowThen hw0 hb⟩
    · have hq1 : (q == 0) = false := by rw [beq_eq_false_iff_ne]; exact hq
      have hq2 : (q != 0) = true := by rw [bne_iff_ne]; exact hq
      have HQ := hid hq; clear hq; go_wp2
      all_goals (go_ret; exact ⟨retI (HD.out.found HQ.out), belowThen hw0 hb⟩)
def wordsB (ts : List Tm) : Bool := ts.all fun t => !t.1
def factB (a : At) : Bool := wordsB a.2 && atomB a
theorem wordsB_snoc {ts : List Tm} {k : Nat} {t : Tm} (h : ts[k]? = some t) (hr : wordsB (ts.take k) = true) (ht : t.1 = false) : wordsB (ts.take (k + 1)) = true := by
  obtain ⟨h1, h2⟩ := List.getElem?_eq_some_iff.1 h; unfold wordsB at *; rw [List.take_succ_eq_append_getElem h1, List.all_append, hr, h2]; simp [ht]
theorem wordsB_no {ts : List Tm} {k : Nat} {t : Tm} (h : ts[k]? = some t) (ht : t.1 = true) : wordsB ts = false := by
  unfold wordsB; rw [List.all_eq_false]; exact ⟨t, List.mem_of_getElem? h, by simp [ht]⟩
theorem wordsB_all {ts : List Tm} {k n : Nat} (h : ts.length = n) (hk : ¬ k < n) (hr : wordsB (ts.take k) = true) : wordsB ts = true := by
  rwa [List.take_of_length_le qaa] at hr
theorem l3Ground_any (nm : ByteArray) (A : Option Addr) (n c : Nat) (ts : List Tm) (w : World) (hs : nm.size ≤ maxLen) (h : IsTerms w 0 w.heap.size A n c ts) :
    Calls Tryz.prog 78 #[.agg #[.string nm, .slice A n c]] w (BoolPost (factB (nm, ts)) w) := by
  have hm : n ≤ maxLen := qbo; unfold maxLen at hm; have L := hid h.1; have H := hid h; clear h; go_enter Tryz.func78, Tryz.ntmps78; go_wp2; have hw0 := below1 w (.cells #[.string nm, .slice A n c] 49); go_loopw [3] (fun i wr => ∃ k : Nat, k ≤ n ∧ i = .int .i64 k ∧ wordsB (ts.take k) = true ∧ Below (w.alloc (.cells #[.string nm, .slice A n c] 49)).heap.size (w.alloc (.cells #[.string nm, .slice A n c] 49)) wr) (fun i _ => n - (intOf i).toNat)
  case atStart => exact ⟨0, Nat.zero_le _, rfl, rfl, Below.refl _ _⟩
  case round =>
    obtain ⟨k, hk, rfl, hd, hb⟩ := hrel; have HD := hid hd; clear hd; obtain ⟨hc, hf⟩ := oldCells hb; by_cases hlt : k < n
    · obtain ⟨p, ⟨v, s⟩, hA, hlo, hhi, hg, c1, c2, c3⟩ := ((H.out.up hw0).below hb (nl _)).at_ hlt
      subst hA; have HG := hid hg; clear hg; cases v
      · go_wp2
        go_roundw
        case rel => exact ⟨k + 1, by omega, by go_num, wordsB_snoc HG.out HD.out rfl, hb⟩
        case measure => exact qms
      · go_wp2
        go_ret; exact ⟨retB (by unfold factB; rw [wordsB_no HG.out rfl]; rfl), belowThen hw0 hb⟩
    · have E := hid (show factB (nm, ts) = atomB (nm, ts) by unfold factB; rw [wordsB_all L.out hlt HD.out, Bool.true_and])
      go_wp2_with fail; refine (specAtomOk_any _ _ _ _ ts _ hs ((H.out.up hw0).up hb)).mono ?_; rintro e w1 ⟨rfl, hb1⟩; go_wp2; go_ret; exact ⟨retB E.out.symm, belowThen hw0 (belowThen hb hb1)⟩
def risesB : List At → Bool
  | a :: b :: l => decide (atomCmp a b < 0) && risesB (b :: l)
  | _ => true
def factsB (m : Nat) (xs : List At) : Bool := (xs.all factB && risesB xs) && decide (xs.length ≤ m)
theorem risesB_snoc : ∀ {xs : List At} {k : Nat} {a b : At}, xs[k]? = some a → xs[k + 1]? = some b → risesB (xs.take (k + 1)) = true → atomCmp a b < 0 → risesB (xs.take (k + 2)) = true
  | [], _, _, _, h, _, _, _ => by simp at h
  | [_], _, _, _, _, h, _, _ => by simp at h
  | x :: y :: l, 0, a, b, h, h', _, hc => by
    simp at h h'; subst h; subst h'
    simp [risesB, hc]
  | x :: y :: l, k + 1, a, b, h, h', hr, hc => by
    have hr' : (decide (atomCmp x y < 0) && risesB ((y :: l).take (k + 1))) = true := by
      have : (x :: y :: l).take (k + 1 + 1) = x :: y :: l.take k := rfl; rw [this] at hr; exact hr
    rw [Bool.and_eq_true] at hr'; have ih := risesB_snoc (xs := y :: l) (k := k) (a := a) (b := b) qbd (by simpa using h') hr'.2 hc; have e : (x :: y :: l).take (k + 1 + 2) = x :: y :: l.take (k + 1) := rfl; rw [e]; show (decide (atomCmp x y < 0) && risesB ((y :: l).take (k + 2))) = true; rw [hr'.1, ih]; rfl
theorem risesB_no : ∀ {xs : List At} {k : Nat} {a b : At}, xs[k]? = some a → xs[k + 1]? = some b → ¬ atomCmp a b < 0 → risesB xs = false
  | [], _, _, _, h, _, _ => by simp at h
  | [_], _, _, _, _, h, _ => by simp at h
  | x :: y :: l, 0, a, b, h, h', hc => by
    simp at h h'; subst h; subst h'
    simp [risesB, hc]
  | x :: y :: l, k + 1, a, b, h, h', hc => by
    have ih := risesB_no (xs := y :: l) (k := k) (a := a) (b := b) qbd (by simpa using h') hc; simp [risesB, ih]
theorem allB_snoc {α : Type} {P : α → Bool} {xs : List α} {k : Nat} {q : α} (h : xs[k]? = some q) (hr : (xs.take k).all P = true) (hq : P q = true) : (xs.take (k + 1)).all P = true := by
  obtain ⟨h1, h2⟩ := List.getElem?_eq_some_iff.1 h; rw [List.take_succ_eq_append_getElem h1, List.all_append, hr, h2]; simp [hq]
theorem allB_no {α : Type} {P : α → Bool} {xs : List α} {k : Nat} {q : α} (h : xs[k]? = some q) (hq : P q = false) : xs.all P = false := by
  rw [List.all_eq_false]; exact ⟨q, List.mem_of_getElem? h, by simp [hq]⟩
theorem factsB_no {m : Nat} {xs : List At} {k : Nat} {q : At} (h : xs[k]? = some q) (hq : factB q = false) : factsB m xs = false := by
  unfold factsB; rw [allB_no h hq]; rfl
theorem factsB_order {m : Nat} {xs : List At} {k : Nat} {a b : At} (h : xs[k]? = some a) (h' : xs[k + 1]? = some b) (hc : 0 ≤ atomCmp a b) : factsB m xs = false := by
  unfold factsB; rw [risesB_no h h' qaa]; simp
theorem factsB_long {m : Nat} {xs : List At} (h : m < xs.length) : factsB m xs = false := by
  unfold factsB; rw [decide_eq_false qaa]; simp
theorem factsB_end {m n k : Nat} {xs : List At} (hl : xs.length = n) (hk : ¬ k < n) (h : (xs.take k).all factB = true) (h' : risesB (xs.take k) = true) : factsB m xs = decide (n ≤ m) := by
  rw [List.take_of_length_le qaa] at h h'; unfold factsB; rw [h, h', hl]; rfl
theorem rises_next {xs : List At} {k : Nat} (h : risesB (xs.take k) = true) (hk : k = 0) : risesB (xs.take (k + 1)) = true := by
  subst hk; cases xs <;> rfl
end Go.Proofs.YtcigljngiemdeaaGreat

namespace Go.Proofs.YtcigljngiemdeaaGreat
open Go
theorem takeV {P : Program} {ops : Array Oper} {Q : Exit → Act → World → Prop} {md : Region.Mode} {S : World → Prop} {i d : Nat} {oi : Oper} {v : Value} {fuel : Nat} {listed : Array Bool} {a : Act} {w : World} {tm : Array Value}
    (hi : ops[i]? = some oi) (hs : Region.noSelect ops = true) (hf : Region.free md ops listed i = true) (hr : (Region.ready md ops listed).contains i = true) (hd : oi.dst = some d)
    (hQ : ∀ c a w, Q (.panic c) (a.put (some d) v) w → Q (.panic c) a w) (hy : YieldsIf P ops S oi v a) (hS : S w) (hput : a.tmps.setIfInBounds d v = tm)
    (h : wpAnyH P md ops Q S fuel (listed.setIfInBounds i true) { tmps := tm, defers := a.defers } w) : wpAnyH P md ops Q S (fuel + 1) listed a w := by
  refine wpAnyH_take hi hs hf hr ?_ hy hS ?_
  · rw [hd]; exact hQ
  · rw [hd]
    subst hput; exact h
theorem tk (i : Nat) (v : Value) {P : Program} {ops : Array Oper} {Q : Exit → Act → World → Prop} {md : Region.Mode} {S : World → Prop} {d : Nat} {oi : Oper} {fuel : Nat} {listed : Array Bool} {a : Act} {w : World} {tm : Array Value}
    (hS : S w) (h : wpAnyH P md ops Q S fuel (listed.setIfInBounds i true) { tmps := tm, defers := a.defers } w)
    (hi : ops[i]? = some oi := by (simp only [List.getElem?_toArray, List.getElem?_cons_succ, List.getElem?_cons_zero]); rfl) (hs : Region.noSelect ops = true := by kernel_rfl) (hf : Region.free md ops listed i = true := by kernel_rfl) (hr : (Region.ready md ops listed).contains i = true := by kernel_rfl) (hd : oi.dst = some d := by rfl)
    (hQ : ∀ c a w, Q (.panic c) (a.put (some d) v) w → Q (.panic c) a w := by exact fun _ _ _ h => h)
    (hy : YieldsIf P ops S oi v a := by refine Or.inl ⟨by rfl, ?_⟩; intro w_ hSw_; (try dsimp only at hSw_); go_simp)
    (hput : a.tmps.setIfInBounds d v = tm := by (simp only [Act.put, List.setIfInBounds_toArray, List.set_cons_succ, List.set_cons_zero]); rfl) : wpAnyH P md ops Q S (fuel + 1) listed a w := takeV hi hs hf hr hd hQ hy hS hput h
theorem rd1 (i : Nat) {P : Program} {ops : Array Oper} {Q : Exit → Act → World → Prop} {md : Region.Mode} {S : World → Prop} {o : Oper} {fuel : Nat} {listed : Array Bool} {a : Act} {w : World}
    (h : ∀ K' : Act → World → Prop, Shut (∀ a w, S w → (S w → wpAnyH P md ops Q S fuel (listed.setIfInBounds i true) a w) → K' a w) → Oper.wp P o a w K' Q)
    (ho : ops[i]? = some o := by (simp only [List.getElem?_toArray, List.getElem?_cons_succ, List.getElem?_cons_zero]); rfl) (hr : Region.ready md ops listed = [i] := by kernel_rfl) (hw : Region.wanted o (yielded ops a.tmps) = true := by rfl) : wpAnyH P md ops Q S (fuel + 1) listed a w :=
  wpAnyH_ready hr qad (AllReadyH.cons ho (fun K hK => by rw [if_pos hw]; exact h K hK) AllReadyH.nil)
theorem sk (i : Nat) {P : Program} {ops : Array Oper} {Q : Exit → Act → World → Prop} {md : Region.Mode} {S : World → Prop} {d : Nat} {oi : Oper} {fuel : Nat} {listed : Array Bool} {a : Act} {w : World} {tm : Array Value}
    (hS : S w) (h : wpAnyH P md ops Q S fuel (listed.setIfInBounds i true) { tmps := tm, defers := a.defers } w)
    (hi : ops[i]? = some oi := by (simp only [List.getElem?_toArray, List.getElem?_cons_succ, List.getElem?_cons_zero]); rfl) (hs : Region.noSelect ops = true := by kernel_rfl) (hf : Region.free md ops listed i = true := by kernel_rfl) (hr : (Region.ready md ops listed).contains i = true := by kernel_rfl) (hd : oi.dst = some d := by rfl)
    (hQ : ∀ c a w, Q (.panic c) (a.put (some d) undef) w → Q (.panic c) a w := by exact fun _ _ _ h => h)
    (hw : Region.wanted oi (yielded ops a.tmps) = false := by rfl)
    (hput : a.tmps.setIfInBounds d undef = tm := by (simp only [Act.put, List.setIfInBounds_toArray, List.set_cons_succ, List.set_cons_zero]); rfl) : wpAnyH P md ops Q S (fuel + 1) listed a w := takeV hi hs hf hr hd hQ (Or.inr ⟨hw, rfl⟩) hS hput h
theorem rd0 (i : Nat) {P : Program} {ops : Array Oper} {Q : Exit → Act → World → Prop} {md : Region.Mode} {S : World → Prop} {o : Oper} {fuel : Nat} {listed : Array Bool} {a : Act} {w : World} (h : ∀ K' : Act → World → Prop, Shut (∀ a w, S w → (S w → wpAnyH P md ops Q S fuel (listed.setIfInBounds i true) a w) → K' a w) → if Region.wanted o (yielded ops a.tmps) = true then Oper.wp P o a w K' Q else K' (a.put o.dst undef) w)
    (ho : ops[i]? = some o := by (simp only [List.getElem?_toArray, List.getElem?_cons_succ, List.getElem?_cons_zero]); rfl) (hr : Region.ready md ops listed = [i] := by kernel_rfl) : wpAnyH P md ops Q S (fuel + 1) listed a w := wpAnyH_ready hr qad (AllReadyH.cons ho h AllReadyH.nil)
theorem rd2 (i k : Nat) {P : Program} {ops : Array Oper} {Q : Exit → Act → World → Prop} {md : Region.Mode} {S : World → Prop} {o p : Oper} {fuel : Nat} {listed : Array Bool} {a : Act} {w : World} (h : ∀ K' : Act → World → Prop, Shut (∀ a w, S w → (S w → wpAnyH P md ops Q S fuel (listed.setIfInBounds i true) a w) → K' a w) → if Region.wanted o (yielded ops a.tmps) = true then Oper.wp P o a w K' Q else K' (a.put o.dst undef) w)
    (h' : ∀ K' : Act → World → Prop, Shut (∀ a w, S w → (S w → wpAnyH P md ops Q S fuel (listed.setIfInBounds k true) a w) → K' a w) → if Region.wanted p (yielded ops a.tmps) = true then Oper.wp P p a w K' Q else K' (a.put p.dst undef) w)
    (ho : ops[i]? = some o := by (simp only [List.getElem?_toArray, List.getElem?_cons_succ, List.getElem?_cons_zero]); rfl) (hp : ops[k]? = some p := by (simp only [List.getElem?_toArray, List.getElem?_cons_succ, List.getElem?_cons_zero]); rfl) (hr : Region.ready md ops listed = [i, k] := by kernel_rfl) : wpAnyH P md ops Q S (fuel + 1) listed a w := wpAnyH_ready hr qad (AllReadyH.cons ho h (AllReadyH.cons hp h' AllReadyH.nil))
end Go.Proofs.YtcigljngiemdeaaGreat

namespace Go.Proofs.YtcigljngiemdeaaGreat
open Go.RowKit
theorem l3Ok_any (A : Option Addr) (n c : Nat) (xs : List At) (m : Nat) (w : World) (h : IsAtoms w 0 w.heap.size A n c xs) :
    Calls Tryz.prog 80 #[.slice A n c, .int .i64 (m : Int)] w (BoolPost (factsB m xs) w) := by
  have hn := h.len; unfold maxLen at hn; have L := hid h.1; have H := hid h; clear h; go_enter Tryz.func80, Tryz.ntmps80; go_wp2; go_loopw [5] (fun i wr => ∃ k : Nat, k ≤ n ∧ i = .int .i64 k ∧ (xs.take k).all factB = true ∧ risesB (xs.take k) = true ∧ Below w.heap.size w wr) (fun i _ => n - (intOf i).toNat)
  case atStart => exact ⟨0, Nat.zero_le _, rfl, rfl, rfl, Below.refl _ _⟩
  case round =>
    obtain ⟨k, hk, rfl, hd, hr, hb⟩ := hrel; have HD := hid hd; have HR := hid hr; clear hd hr; by_cases hlt : k < n
    · obtain ⟨p, q, hA, hlo, hhi, hg, hE⟩ := (H.out.below AtomE.stays hb (nl _)).at_ hlt
      obtain ⟨A', n', c', d1, d3, d4, d5⟩ := hE.out; clear hE; have HG := hid hg; clear hg; have HT := hid (d5.keep (w' := wr.drew) (lo' := 0) (hi' := wr.drew.heap.size) (fun _ _ _ => rfl) (nl _) hb.size); clear d5; have hbd := hb.drew; have x1 : wr.drew.cell? (p.add (k * 2)) = some (.string q.1) := d1; have x2 : wr.drew.cell? ⟨(p.add (k * 2)).block, (p.add (k * 2)).off + 1, none⟩ = some (.slice A' n' c') := d4; cases hF : factB q
      · have hF' : factB (q.1, q.2) = false := hF
        have cG : Calls Tryz.prog 78 #[.agg #[.string q.1, .slice A' n' c']] wr.drew (BoolPost false wr.drew) := by
          have := l3Ground_any q.1 A' n' c' q.2 _ d3 HT.out
          rwa [hF'] at this
        subst hA; have E := hid (factsB_no (m := m) HG.out hF); clear hF; go_wp2_with fail; refine wp_region_held_drew (S := fun W => W.cell? (p.add (k * 2)) = some (.string q.1) ∧ W.cell? ⟨(p.add (k * 2)).block, (p.add (k * 2)).off + 1, none⟩ = some (.slice A' n' c')) qae ⟨x1, x2⟩ ?_; intro hS_; refine tk 0 (.slice (some p) n c) hS_ ?_; refine tk 1 (.int .i64 (k : Int)) hS_ ?_; refine tk 2 (.pointer (some (p.add (k * 2)))) hS_ ?_; refine tk 3 (.agg #[.string q.1, .slice A' n' c']) hS_ ?_; refine rd1 4 fun K_ hK_ => ?_; go_simp; go_at_call 78; refine (cG).mono ?_; rintro e w1 ⟨rfl, hb1⟩
        have y1 := (hb1.cell (p := p.add (k * 2)) qan).trans d1; have y2 := (hb1.cell (p := ⟨(p.add (k * 2)).block, (p.add (k * 2)).off + 1, none⟩) qan).trans d4; refine hK_.out _ _ ⟨y1, y2⟩ (fun hS2_ => ?_); clear hK_ hS_; have hS_ := hS2_; clear hS2_; refine tk 5 (.bool true) hS_ ?_; refine tk 6 (.bool true) hS_ ?_; refine sk 7 hS_ ?_; refine sk 8 hS_ ?_; refine sk 9 hS_ ?_; refine sk 10 hS_ ?_; refine sk 11 hS_ ?_; refine sk 12 hS_ ?_; refine sk 13 hS_ ?_; refine sk 14 hS_ ?_; refine sk 15 hS_ ?_; refine sk 16 hS_ ?_; refine sk 17 hS_ ?_; refine sk 18 hS_ ?_; refine sk 19 hS_ ?_; refine sk 20 hS_ ?_
        refine sk 21 hS_ ?_; refine tk 22 (.bool true) hS_ ?_; refine wpAnyH_done qae ?_ _; go_wp2; go_ret; exact ⟨retB E.out.symm, belowThen hbd hb1⟩
      · have hF' : factB (q.1, q.2) = true := hF
        have cG : Calls Tryz.prog 78 #[.agg #[.string q.1, .slice A' n' c']] wr.drew (BoolPost true wr.drew) := by
          have := l3Ground_any q.1 A' n' c' q.2 _ d3 HT.out
          rwa [hF'] at this
        have EF := hid hF; clear hF; by_cases hk0 : k = 0
        · have hki : ¬ (0 : Int) < (k : Int) := qaa
          have KK := hid hk0; clear hk0; subst hA; go_wp2_with fail; refine wp_region_held_drew (S := fun W => W.cell? (p.add (k * 2)) = some (.string q.1) ∧ W.cell? ⟨(p.add (k * 2)).block, (p.add (k * 2)).off + 1, none⟩ = some (.slice A' n' c')) qae ⟨x1, x2⟩ ?_; intro hS_; refine tk 0 (.slice (some p) n c) hS_ ?_; refine tk 1 (.int .i64 (k : Int)) hS_ ?_; refine tk 2 (.pointer (some (p.add (k * 2)))) hS_ ?_; refine tk 3 (.agg #[.string q.1, .slice A' n' c']) hS_ ?_; refine rd1 4 fun K_ hK_ => ?_; go_simp; go_at_call 78; refine (cG).mono ?_; rintro e w1 ⟨rfl, hb1⟩; have y1 := (hb1.cell (p := p.add (k * 2)) qan).trans d1
          have y2 := (hb1.cell (p := ⟨(p.add (k * 2)).block, (p.add (k * 2)).off + 1, none⟩) qan).trans d4; refine hK_.out _ _ ⟨y1, y2⟩ (fun hS2_ => ?_); clear hK_ hS_; have hS_ := hS2_; clear hS2_; refine tk 5 (.bool false) hS_ ?_; refine tk 6 (.bool false) hS_ ?_; refine tk 7 (.int .i64 (k : Int)) hS_ ?_; refine tk 8 (.bool false) hS_ ?_ (hy := Or.inl ⟨by rfl, by intro w_ hSw_; (try dsimp only at hSw_); go_simp; exact KK.out⟩); refine tk 9 (.bool false) hS_ ?_; refine sk 10 hS_ ?_; refine sk 11 hS_ ?_; refine sk 12 hS_ ?_; refine sk 13 hS_ ?_; refine sk 14 hS_ ?_; refine sk 15 hS_ ?_; refine sk 16 hS_ ?_
          refine sk 17 hS_ ?_; refine sk 18 hS_ ?_; refine sk 19 hS_ ?_; refine sk 20 hS_ ?_; refine tk 21 (.bool false) hS_ ?_; refine tk 22 (.bool false) hS_ ?_; refine wpAnyH_done qae ?_ _; go_wp2; go_roundw
          case rel => exact ⟨k + 1, by omega, by go_num, allB_snoc HG.out HD.out EF.out, rises_next HR.out KK.out, belowThen hbd hb1⟩
          case measure => exact qms
        · obtain ⟨j, hj⟩ : ∃ j, k = j + 1 := ⟨k - 1, by omega⟩
          have hjn : j < n := qaa; have hki : (0 : Int) < (k : Int) := qaa; have hsub : (k : Int) - 1 = (j : Int) := qaa; have HJ := hid hj; clear hj hk0; obtain ⟨p', q', hA', hlo', hhi', hg', hE'⟩ := (H.out.below AtomE.stays hb (nl _)).at_ hjn; obtain ⟨A2, n2, c2, f1, f3, f4, f5⟩ := hE'.out; clear hE'; obtain rfl : p = p' := by rw [hA] at hA'; injection hA'
          clear hA'; subst hA; have HG' := hid hg'; clear hg'; have HT' := hid (f5.keep (w' := wr.drew) (lo' := 0) (hi' := wr.drew.heap.size) (fun _ _ _ => rfl) (nl _) hb.size); clear f5; have x3 : wr.drew.cell? (p.add (j * 2)) = some (.string q'.1) := f1; have x4 : wr.drew.cell? ⟨(p.add (j * 2)).block, (p.add (j * 2)).off + 1, none⟩ = some (.slice A2 n2 c2) := f4; by_cases hc : 0 ≤ atomCmp q' q
          · have hc' : 0 ≤ atomCmp (q'.1, q'.2) (q.1, q.2) := hc
            have E := hid (factsB_order (m := m) (a := q') (b := q) HG'.out (by rw [← HJ.out]; exact HG.out) hc); clear hc; go_wp2_with fail; refine wp_region_held_drew (S := fun W => (W.cell? (p.add (k * 2)) = some (.string q.1) ∧ W.cell? ⟨(p.add (k * 2)).block, (p.add (k * 2)).off + 1, none⟩ = some (.slice A' n' c')) ∧ W.cell? (p.add (j * 2)) = some (.string q'.1) ∧ W.cell? ⟨(p.add (j * 2)).block, (p.add (j * 2)).off + 1, none⟩ = some (.slice A2 n2 c2)) qae ⟨⟨x1, x2⟩, x3, x4⟩ ?_; intro hS_; refine tk 0 (.slice (some p) n c) hS_ ?_; refine tk 1 (.int .i64 (k : Int)) hS_ ?_; refine tk 2 (.pointer (some (p.add (k * 2)))) hS_ ?_
            refine tk 3 (.agg #[.string q.1, .slice A' n' c']) hS_ ?_; refine rd1 4 fun K_ hK_ => ?_; go_simp; go_at_call 78; refine (cG).mono ?_; rintro e w1 ⟨rfl, hb1⟩; have y1 := (hb1.cell (p := p.add (k * 2)) qan).trans d1; have y2 := (hb1.cell (p := ⟨(p.add (k * 2)).block, (p.add (k * 2)).off + 1, none⟩) qan).trans d4; have y3 := (hb1.cell (p := p.add (j * 2)) qan).trans f1; have y4 := (hb1.cell (p := ⟨(p.add (j * 2)).block, (p.add (j * 2)).off + 1, none⟩) qan).trans f4; have u1 := HT.out.up hb1; have u2 := HT'.out.up hb1; refine hK_.out _ _ ⟨⟨y1, y2⟩, y3, y4⟩ (fun hS2_ => ?_)
            clear hK_ hS_; have hS_ := hS2_; clear hS2_; refine tk 5 (.bool false) hS_ ?_; refine tk 6 (.bool false) hS_ ?_; refine tk 7 (.int .i64 (k : Int)) hS_ ?_; refine tk 8 (.bool true) hS_ ?_ (hy := Or.inl ⟨by rfl, by intro w_ hSw_; (try dsimp only at hSw_); go_simp; omega⟩); refine tk 9 (.bool true) hS_ ?_; refine tk 10 (.slice (some p) n c) hS_ ?_; refine tk 11 (.int .i64 (k : Int)) hS_ ?_; refine tk 12 (.int .i64 (j : Int)) hS_ ?_ (hy := Or.inl ⟨by rfl, by intro w_ hSw_; (try dsimp only at hSw_); go_simp; (rw [IntKind.wrap_i64]; omega)⟩); refine tk 13 (.pointer (some (p.add (j * 2)))) hS_ ?_; refine tk 14 (.agg #[.string q'.1, .slice A2 n2 c2]) hS_ ?_
            refine tk 15 (.slice (some p) n c) hS_ ?_; refine tk 16 (.int .i64 (k : Int)) hS_ ?_; refine tk 17 (.pointer (some (p.add (k * 2)))) hS_ ?_; refine tk 18 (.agg #[.string q.1, .slice A' n' c']) hS_ ?_; refine rd1 19 fun K_ hK_ => ?_; go_simp; go_at_call 123; refine (l1Cmp_any q'.1 q.1 A2 A' n2 c2 n' c' q'.2 q.2 _ u2 u1).mono ?_; rintro e w2 ⟨rfl, hb2⟩; have z1 := (hb2.cell (p := p.add (k * 2)) qap).trans y1; have z2 := (hb2.cell (p := ⟨(p.add (k * 2)).block, (p.add (k * 2)).off + 1, none⟩) qap).trans y2; have z3 := (hb2.cell (p := p.add (j * 2)) qap).trans y3; have z4 := (hb2.cell (p := ⟨(p.add (j * 2)).block, (p.add (j * 2)).off + 1, none⟩) qap).trans y4
            refine hK_.out _ _ ⟨⟨z1, z2⟩, z3, z4⟩ (fun hS2_ => ?_); clear hK_ hS_; have hS_ := hS2_; clear hS2_; refine tk 20 (.bool true) hS_ ?_; refine tk 21 (.bool true) hS_ ?_; refine tk 22 (.bool true) hS_ ?_; refine wpAnyH_done qae ?_ _; go_wp2; go_ret; exact ⟨retB E.out.symm, belowThen hbd (belowThen hb1 hb2)⟩
          · have hc' : ¬ 0 ≤ atomCmp (q'.1, q'.2) (q.1, q.2) := hc
            have E := hid (show risesB (xs.take (k + 1)) = true by
              have h1 := HG.out; have h2 := HR.out; rw [HJ.out] at h1 h2 ⊢; exact risesB_snoc (a := q') (b := q) HG'.out h1 h2 qaa)
            clear hc; go_wp2_with fail; refine wp_region_held_drew (S := fun W => (W.cell? (p.add (k * 2)) = some (.string q.1) ∧ W.cell? ⟨(p.add (k * 2)).block, (p.add (k * 2)).off + 1, none⟩ = some (.slice A' n' c')) ∧ W.cell? (p.add (j * 2)) = some (.string q'.1) ∧ W.cell? ⟨(p.add (j * 2)).block, (p.add (j * 2)).off + 1, none⟩ = some (.slice A2 n2 c2)) qae ⟨⟨x1, x2⟩, x3, x4⟩ ?_; intro hS_; refine tk 0 (.slice (some p) n c) hS_ ?_; refine tk 1 (.int .i64 (k : Int)) hS_ ?_; refine tk 2 (.pointer (some (p.add (k * 2)))) hS_ ?_; refine tk 3 (.agg #[.string q.1, .slice A' n' c']) hS_ ?_; refine rd1 4 fun K_ hK_ => ?_
            go_simp; go_at_call 78; refine (cG).mono ?_; rintro e w1 ⟨rfl, hb1⟩; have y1 := (hb1.cell (p := p.add (k * 2)) qan).trans d1; have y2 := (hb1.cell (p := ⟨(p.add (k * 2)).block, (p.add (k * 2)).off + 1, none⟩) qan).trans d4; have y3 := (hb1.cell (p := p.add (j * 2)) qan).trans f1; have y4 := (hb1.cell (p := ⟨(p.add (j * 2)).block, (p.add (j * 2)).off + 1, none⟩) qan).trans f4; have u1 := HT.out.up hb1; have u2 := HT'.out.up hb1; refine hK_.out _ _ ⟨⟨y1, y2⟩, y3, y4⟩ (fun hS2_ => ?_); clear hK_ hS_; have hS_ := hS2_; clear hS2_; refine tk 5 (.bool false) hS_ ?_
            refine tk 6 (.bool false) hS_ ?_; refine tk 7 (.int .i64 (k : Int)) hS_ ?_; refine tk 8 (.bool true) hS_ ?_ (hy := Or.inl ⟨by rfl, by intro w_ hSw_; (try dsimp only at hSw_); go_simp; omega⟩); refine tk 9 (.bool true) hS_ ?_; refine tk 10 (.slice (some p) n c) hS_ ?_; refine tk 11 (.int .i64 (k : Int)) hS_ ?_; refine tk 12 (.int .i64 (j : Int)) hS_ ?_ (hy := Or.inl ⟨by rfl, by intro w_ hSw_; (try dsimp only at hSw_); go_simp; (rw [IntKind.wrap_i64]; omega)⟩); refine tk 13 (.pointer (some (p.add (j * 2)))) hS_ ?_; refine tk 14 (.agg #[.string q'.1, .slice A2 n2 c2]) hS_ ?_; refine tk 15 (.slice (some p) n c) hS_ ?_
            refine tk 16 (.int .i64 (k : Int)) hS_ ?_; refine tk 17 (.pointer (some (p.add (k * 2)))) hS_ ?_; refine tk 18 (.agg #[.string q.1, .slice A' n' c']) hS_ ?_; refine rd1 19 fun K_ hK_ => ?_; go_simp; go_at_call 123; refine (l1Cmp_any q'.1 q.1 A2 A' n2 c2 n' c' q'.2 q.2 _ u2 u1).mono ?_; rintro e w2 ⟨rfl, hb2⟩; have z1 := (hb2.cell (p := p.add (k * 2)) qap).trans y1; have z2 := (hb2.cell (p := ⟨(p.add (k * 2)).block, (p.add (k * 2)).off + 1, none⟩) qap).trans y2; have z3 := (hb2.cell (p := p.add (j * 2)) qap).trans y3; have z4 := (hb2.cell (p := ⟨(p.add (j * 2)).block, (p.add (j * 2)).off + 1, none⟩) qap).trans y4
            refine hK_.out _ _ ⟨⟨z1, z2⟩, z3, z4⟩ (fun hS2_ => ?_); clear hK_ hS_; have hS_ := hS2_; clear hS2_; refine tk 20 (.bool false) hS_ ?_; refine tk 21 (.bool false) hS_ ?_; refine tk 22 (.bool false) hS_ ?_; refine wpAnyH_done qae ?_ _; go_wp2; go_roundw
            case rel => exact ⟨k + 1, by omega, by go_num, allB_snoc HG.out HD.out EF.out, E.out, belowThen hbd (belowThen hb1 hb2)⟩
            case measure => exact qms
    · have E := hid (factsB_end (m := m) L.out hlt HD.out HR.out)
      go_wp2; go_ret; exact ⟨retB (by rw [E.out]), hb⟩
theorem specFactsOk_any (A : Option Addr) (n c : Nat) (xs : List At) (w : World) (h : IsAtoms w 0 w.heap.size A n c xs) :
    Calls Tryz.prog 33 #[.slice A n c] w (BoolPost (factsB 300 xs) w) := by
  have H := hid h; clear h; go_enter Tryz.func33, Tryz.ntmps33; go_wp2_with fail; refine (l3Ok_any _ _ _ xs 300 _ H.out).mono ?_; rintro e w1 ⟨rfl, hb1⟩; go_wp2; go_ret; exact ⟨rfl, hb1⟩
end Go.Proofs.YtcigljngiemdeaaGreat
