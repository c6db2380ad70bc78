/-
  Terms that are ok: what the program and its model answer of one term, and of an atom.
  Atoms that are ok: what the program and its model answer.
-/
import Derived.Test.YtahkkelahocplaaDoorMem
import Derived.Test.YtahkkelahocplaaDoorEq
import Derived.Outline
import Derived.Lib.IndexBytes
import Derived.Deep.LoopGhost
import Derived.Deep.RegionWith
namespace Go.Proofs.YtahkkelahocplaaDoor
open Go.RowKit

def capital (c : UInt8) : Bool := decide (65 ≤ (c.toNat : Int)) && decide ((c.toNat : Int) ≤ 90)

/-- A variable: a capital letter, and small ones and figures behind it, at most eight. -/
def varB (l : List UInt8) : Bool := match l with
  | [] => false
  | c :: r => capital c && small r && decide (r.length ≤ 7)

theorem rest_list (s : ByteArray) : (s.extract 1 s.size).data.toList = s.data.toList.drop 1 := by
  exact Lib.extract_to_end s 1

theorem rest_size (s : ByteArray) (h : 0 < s.size) : (s.extract 1 s.size).size + 1 = s.size := by
  have : (s.extract 1 s.size).size = s.data.toList.length - 1 := by
    show (s.extract 1 s.size).data.toList.length = _
    rw [rest_list, List.length_drop]
  have h2 : s.size = s.data.toList.length := rfl
  omega

theorem rest_le (s : ByteArray) (h : s.size ≤ maxLen) : (s.extract 1 s.size).size ≤ maxLen := by
  by_cases h0 : 0 < s.size
  · have := rest_size s h0; omega
  · have : (s.extract 1 s.size).size = (s.data.toList.drop 1).length := by rw [← rest_list]; rfl
    rw [List.length_drop] at this
    have h2 : s.size = s.data.toList.length := rfl
    omega

theorem first_rest (s : ByteArray) (h : 0 < s.size) : s.data.toList = s[0] :: (s.extract 1 s.size).data.toList := by
  rw [rest_list]
  have h2 : 0 < s.data.toList.length := h
  exact (List.drop_eq_getElem_cons (i := 0) h2)

/-- What is behind the first byte, spelled as the walk spells it. -/
theorem rest_tail (s : ByteArray) : s.data.toList.tail.take (s.size - 1) = (s.extract 1 s.size).data.toList := by
  rw [rest_list, List.drop_one, List.take_of_length_le]
  rw [List.length_tail]
  exact Nat.le_refl _

theorem varB_cons (s : ByteArray) (h : 0 < s.size) : varB s.data.toList = (capital s[0] && small (s.data.toList.tail.take (s.size - 1)) && decide (s.size ≤ 8)) := by
  have h3 : (s.extract 1 s.size).data.toList.length + 1 = s.size := rest_size s h
  rw [rest_tail, first_rest s h]
  show (capital s[0] && small (s.extract 1 s.size).data.toList && decide ((s.extract 1 s.size).data.toList.length ≤ 7)) = _
  rw [show decide ((s.extract 1 s.size).data.toList.length ≤ 7) = decide (s.size ≤ 8) by rw [decide_eq_decide]; omega]

theorem varB_model (s : ByteArray) (h : 0 < s.size) : varB s.data.toList = (capital s[0] && (((s.size : Int) == 1) || (letters (s.data.toList.tail.take (s.size - 1)) && decide ((s.size : Int) ≤ 8)))) := by
  rw [varB_cons s h]
  have h3 : (s.data.toList.tail.take (s.size - 1)).length + 1 = s.size := by rw [rest_tail]; exact rest_size s h
  generalize s.data.toList.tail.take (s.size - 1) = r at *
  by_cases h1 : s.size = 1
  · have : r = [] := List.eq_nil_of_length_eq_zero (by omega)
    subst this
    simp [h1, small]
  · have e1 : ((s.size : Int) == 1) = false := by rw [beq_eq_false_iff_ne]; omega
    rw [e1, Bool.false_or, Bool.and_assoc]
    congr 1
    unfold letters
    have e2 : decide (1 ≤ (r.length : Int)) = true := by rw [decide_eq_true_iff]; omega
    rw [e2, Bool.true_and, Bool.and_assoc]
    congr 1
    by_cases h8 : s.size ≤ 8
    · simp [h8]; omega
    · simp [h8]; omega

theorem varB_no (s : ByteArray) (h : s.size < 1 ∨ 8 < s.size) : varB s.data.toList = false := by
  rcases Nat.eq_zero_or_pos s.size with h0 | h0
  · have : s.data.toList = [] := List.eq_nil_of_length_eq_zero h0
    rw [this]; rfl
  · rw [varB_cons s h0]; simp; omega

def termB (t : Tm) : Bool := if t.1 then varB t.2.data.toList else nameB t.2.data.toList

theorem capital_any (c : UInt8) (w : World) : Calls Tryd.prog 96 #[.int .u8 (c.toNat : Int)] w fun e w' => e = .returned (.bool (capital c)) ∧ w = w' := by
  go_enter Tryd.func96, Tryd.ntmps96
  go_wp2
  all_goals (go_ret; exact ⟨retB (by unfold capital; simp; try omega), rfl⟩)

set_option maxHeartbeats 400000 in
theorem word_any (s : ByteArray) (w : World) (hs : s.size ≤ maxLen) : Calls Tryd.prog 184 #[.string s] w fun e w' => e = .returned (.bool (nameB s.data.toList)) ∧ w = w' := by
  go_enter Tryd.func184, Tryd.ntmps184
  go_wp2_with (go_at_call 61; refine (implName_any _ _ hs).mono ?_; rintro e w' ⟨rfl, rfl⟩)
  go_ret
  exact ⟨rfl, rfl⟩

set_option maxHeartbeats 400000 in
theorem variable_any (s : ByteArray) (w : World) (hs : s.size ≤ maxLen) : Calls Tryd.prog 183 #[.string s] w fun e w' => e = .returned (.bool (varB s.data.toList)) ∧ w = w' := by
  have hs' := hs
  unfold maxLen at hs'
  go_enter Tryd.func183, Tryd.ntmps183
  go_wp2_with (first
    | (go_at_call 96; refine (capital_any _ _).mono ?_; rintro e w' ⟨rfl, rfl⟩)
    | (go_at_call 99; refine (allSmall_any _ _ (rest_le s hs)).mono ?_; rintro e w' ⟨rfl, rfl⟩))
  all_goals first
    | (have hp : 0 < s.size := by assumption
       go_ret; refine ⟨retB ?_, rfl⟩; rw [varB_cons s hp]; simp_all; try omega)
    | (go_ret; refine ⟨retB ?_, rfl⟩; rw [varB_no s (by omega)])

set_option maxHeartbeats 400000 in
theorem l1Term_any (v : Bool) (s : ByteArray) (w : World) (hs : s.size ≤ maxLen) :
    Calls Tryd.prog 63 #[.agg #[.bool v, .string s]] w (BoolPost (termB (v, s)) w) := by
  have hs' := hs
  unfold maxLen at hs'
  cases v
  · go_enter Tryd.func63, Tryd.ntmps63
    go_wp2_with (go_at_call 64; refine (specName_any _ _ hs).mono ?_; rintro e w' ⟨rfl, rfl⟩)
    go_ret
    exact ⟨rfl, below1 _ _⟩
  · by_cases hp : 0 < s.size
    · have hz : ((s.size : Int) == 0) = false := by rw [beq_eq_false_iff_ne]; omega
      have hlt : (0 : Int) < (s.size : Int) := by omega
      go_enter Tryd.func63, Tryd.ntmps63
      go_wp2_with (go_at_call 100; refine (letters_any _ _ (rest_le s hs)).mono ?_; rintro e w' ⟨rfl, rfl⟩)
      all_goals (go_ret; refine ⟨retB ?_, below1 _ _⟩; show _ = varB s.data.toList; rw [varB_model s hp]; unfold capital; simp_all; try omega)
    · have h0 : s.size = 0 := by omega
      have hz : ((s.size : Int) == 0) = true := by rw [beq_iff_eq]; omega
      have HN := Lib.hid (varB_no s (.inl (by omega)))
      clear h0
      go_enter Tryd.func63, Tryd.ntmps63
      go_wp2
      go_ret
      exact ⟨retB HN.out.symm, below1 _ _⟩

end Go.Proofs.YtahkkelahocplaaDoor

namespace Go.Proofs.YtahkkelahocplaaDoor
open Go.RowKit

def argsB (ts : List Tm) : Bool := ts.all termB
def atomB (a : At) : Bool := argsB a.2 && (nameB a.1.data.toList && decide (a.2.length ≤ 3))

theorem argsB_snoc {ts : List Tm} {k : Nat} {t : Tm} (h : ts[k]? = some t) (hr : argsB (ts.take k) = true) (ht : termB t = true) : argsB (ts.take (k + 1)) = true := by
  obtain ⟨h1, h2⟩ := List.getElem?_eq_some_iff.1 h
  unfold argsB at *
  rw [List.take_succ_eq_append_getElem h1, List.all_append, hr, h2]; simp [ht]

theorem argsB_no {ts : List Tm} {k : Nat} {t : Tm} (h : ts[k]? = some t) (ht : termB t = false) : argsB ts = false := by
  unfold argsB
  rw [List.all_eq_false]
  exact ⟨t, List.mem_of_getElem? h, by simp [ht]⟩

theorem argsB_all {ts : List Tm} {k n : Nat} (h : ts.length = n) (hk : ¬ k < n) (hr : argsB (ts.take k) = true) : argsB ts = true := by
  rwa [List.take_of_length_le (by omega)] at hr

theorem term_yes {t : Tm} (h : (!termB (t.1, t.2)) = false) : termB t = true := by simpa using h

theorem atomB_no {nm : ByteArray} {ts : List Tm} {k : Nat} {t : Tm} (h : ts[k]? = some t) (ht : (!termB (t.1, t.2)) = true) : atomB (nm, ts) = false := by
  unfold atomB
  rw [argsB_no h (by simpa using ht)]; rfl

theorem atomB_end {nm : ByteArray} {ts : List Tm} {n : Nat} (hl : ts.length = n) (h : argsB ts = true) : atomB (nm, ts) = (nameB nm.data.toList && decide ((n : Int) ≤ 3)) := by
  unfold atomB
  rw [h, Bool.true_and, hl]
  congr 1
  rw [decide_eq_decide]; omega

theorem atomB_short {nm : ByteArray} {ts : List Tm} {n : Nat} (hl : ts.length = n) (h : nameB nm.data.toList = false ∨ 3 < (n : Int)) : atomB (nm, ts) = false := by
  unfold atomB
  rcases h with h | h
  · simp [h]
  · have : decide (ts.length ≤ 3) = false := by rw [decide_eq_false_iff_not]; omega
    simp [this]

set_option maxHeartbeats 400000 in
theorem specAtomOk_any (nm : ByteArray) (A : Option Addr) (n c : Nat) (ts : List Tm) (w : World) (hs : nm.size ≤ maxLen) (h : IsTerms w 0 w.heap.size A n c ts) :
    Calls Tryd.prog 19 #[.agg #[.string nm, .slice A n c]] w (BoolPost (atomB (nm, ts)) w) := by
  have hm : n ≤ maxLen := by have := h.2.1; have := h.2.2.1; omega
  unfold maxLen at hm
  have H := Lib.hid h; clear h
  go_enter Tryd.func19, Tryd.ntmps19
  go_wp2
  have hw0 := below1 w (.cells #[.string nm, .slice A n c] 24)
  go_loopw [3] (fun i wr => ∃ k : Nat, k ≤ n ∧ i = .int .i64 k ∧ argsB (ts.take k) = true ∧ Below (w.alloc (.cells #[.string nm, .slice A n c] 24)).heap.size (w.alloc (.cells #[.string nm, .slice A n c] 24)) wr) (fun i _ => n - (intOf i).toNat)
  case atStart => exact ⟨0, Nat.zero_le _, rfl, rfl, Below.refl _ _⟩
  case round =>
    obtain ⟨k, hk, rfl, hd, hb⟩ := hrel
    have HD := Lib.hid hd; clear hd
    obtain ⟨hc, hf⟩ := oldCells hb
    by_cases hlt : k < n
    · obtain ⟨p, t, hA, hlo, hhi, hg, c1, c2, c3⟩ := ((H.out.up hw0).below hb (Nat.le_refl _)).at_ hlt
      subst hA
      have HG := Lib.hid hg; clear hg
      go_wp2_with (go_at_call 63; refine (l1Term_any _ _ _ c3).mono ?_; rintro e w1 ⟨rfl, hb1⟩)
      · go_ret; exact ⟨retB (atomB_no HG.out (by assumption)).symm, belowThen hw0 (belowThen hb hb1)⟩
      · go_roundw
        case rel => exact ⟨k + 1, by omega, by go_num, argsB_snoc HG.out HD.out (term_yes (by assumption)), belowThen hb hb1⟩
        case measure => simp [intOf]; omega
    · go_wp2_with (go_at_call 64; refine (specName_any _ _ hs).mono ?_; rintro e w' ⟨rfl, rfl⟩)
      all_goals (go_ret; exact ⟨retB (by rw [atomB_end H.out.1 (argsB_all H.out.1 hlt HD.out)]; simp_all), belowThen hw0 hb⟩)

set_option maxHeartbeats 400000 in
theorem termWord_any (s : ByteArray) (w : World) :
    Calls Tryd.prog 62 #[.agg #[.bool false, .string s]] w fun e w' => e = .returned (.iface 113 (.string s)) ∧ Below w.heap.size w w' := by
  go_enter Tryd.func62, Tryd.ntmps62
  go_wp2
  go_ret
  exact ⟨rfl, below1 _ _⟩

set_option maxHeartbeats 400000 in
theorem termVar_any (s : ByteArray) (w : World) :
    Calls Tryd.prog 62 #[.agg #[.bool true, .string s]] w fun e w' => e = .returned (.iface 112 (.string s)) ∧ Below w.heap.size w w' := by
  go_enter Tryd.func62, Tryd.ntmps62
  go_wp2
  go_ret
  exact ⟨rfl, below1 _ _⟩

/-- The method's whole name. -/
def okName : String := String.intercalate (String.singleton (Char.ofNat 47)) ["loop.example", "springhead", "impl.ok"]

theorem method_word (k : Nat) (nm : String) (s : ByteArray) (w : World) (h : nm = okName) : (method (k + 1) 113 (.string s) nm).run Tryd.prog w = .ok (184, .string s) w := by
  subst h; kernel_rfl
theorem method_variable (k : Nat) (nm : String) (s : ByteArray) (w : World) (h : nm = okName) : (method (k + 1) 112 (.string s) nm).run Tryd.prog w = .ok (183, .string s) w := by
  subst h; kernel_rfl

set_option maxHeartbeats 400000 in
theorem implAtomOk_any (nm : ByteArray) (A : Option Addr) (n c : Nat) (ts : List Tm) (w : World) (hs : nm.size ≤ maxLen) (h : IsTerms w 0 w.heap.size A n c ts) :
    Calls Tryd.prog 18 #[.agg #[.string nm, .slice A n c]] w (BoolPost (atomB (nm, ts)) w) := by
  have hm : n ≤ maxLen := by have := h.2.1; have := h.2.2.1; omega
  unfold maxLen at hm
  have H := Lib.hid h; clear h
  have hw0 := below1 w (.cells #[.string nm, .slice A n c] 24)
  go_enter Tryd.func18, Tryd.ntmps18
  go_wp2_with (go_at_call 61; refine (implName_any _ _ hs).mono ?_; rintro e w' ⟨rfl, rfl⟩)
  · go_ret; exact ⟨retB (atomB_short H.out.1 (.inr (by assumption))).symm, hw0⟩
  · have hn3 : (n : Int) ≤ 3 := by assumption
    go_loopw [4, 18] (fun _ i wr => ∃ k : Nat, k ≤ n ∧ i = .int .i64 k ∧ argsB (ts.take k) = true ∧ Below (w.alloc (.cells #[.string nm, .slice A n c] 24)).heap.size (w.alloc (.cells #[.string nm, .slice A n c] 24)) wr) (fun _ i _ => n - (intOf i).toNat)
    case atStart => exact ⟨0, Nat.zero_le _, rfl, rfl, Below.refl _ _⟩
    case round =>
      obtain ⟨k, hk, rfl, hd, hb⟩ := hrel
      have HD := Lib.hid hd; clear hd
      obtain ⟨hc, hf⟩ := oldCells hb
      by_cases hlt : k < n
      · obtain ⟨p, ⟨v, s⟩, hA, hlo, hhi, hg, c1, c2, c3⟩ := ((H.out.up hw0).below hb (Nat.le_refl _)).at_ hlt
        subst hA
        have HG := Lib.hid hg; clear hg
        cases v
        · go_wp2_with (first
            | (go_at_call 62; refine (termWord_any _ _).mono ?_; rintro e w1 ⟨rfl, hb1⟩; have hb2 := belowThen hb (belowThen (below1 _ _) hb1); clear hb1)
            | (go_at_call 184; refine (word_any _ _ c3).mono ?_; rintro e w' ⟨rfl, rfl⟩)
            | (rw [method_word (h := ?hname)]; rotate_left; case hname => kernel_rfl))
          · go_ret; exact ⟨retB (atomB_no HG.out (by assumption)).symm, belowThen hw0 hb2⟩
          · go_roundw
            case rel => exact ⟨k + 1, by omega, by go_num, argsB_snoc HG.out HD.out (term_yes (by assumption)), hb2⟩
            case measure => simp [intOf]; omega
        · go_wp2_with (first
            | (go_at_call 62; refine (termVar_any _ _).mono ?_; rintro e w1 ⟨rfl, hb1⟩; have hb2 := belowThen hb (belowThen (below1 _ _) hb1); clear hb1)
            | (go_at_call 183; refine (variable_any _ _ c3).mono ?_; rintro e w' ⟨rfl, rfl⟩)
            | (rw [method_variable (h := ?hname)]; rotate_left; case hname => kernel_rfl))
          · go_ret; exact ⟨retB (atomB_no HG.out (by assumption)).symm, belowThen hw0 hb2⟩
          · go_roundw
            case rel => exact ⟨k + 1, by omega, by go_num, argsB_snoc HG.out HD.out (term_yes (by assumption)), hb2⟩
            case measure => simp [intOf]; omega
      · go_wp2
        go_ret
        exact ⟨retB (by rw [atomB_end H.out.1 (argsB_all H.out.1 hlt HD.out)]; simp_all), belowThen hw0 hb⟩
  · go_ret; exact ⟨retB (atomB_short H.out.1 (.inl (by simp_all))).symm, hw0⟩

end Go.Proofs.YtahkkelahocplaaDoor

