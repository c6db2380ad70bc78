/-
  Texts of one claim, put together.
-/
import Derived.Test.YtogonjkklioaaaaGreatDoorLg0
import Derived.Lib.IndexBytes
set_option maxRecDepth 100000
set_option maxHeartbeats 8000000
namespace Go.Proofs.YtogonjkklioaaaaGreatDoor
open Go.RowKit
def zco (c : UInt8) : Bool := decide (65 ≤ (c.toNat : Int)) && decide ((c.toNat : Int) ≤ 90)
def varB (l : List UInt8) : Bool := match l with
  | [] => false
  | c :: r => zco c && zeq r && decide (r.length ≤ 7)
theorem zjl (s : ByteArray) : (s.extract 1 s.size).data.toList = s.data.toList.drop 1 := by
  exact Lib.extract_to_end s 1
theorem znz (s : ByteArray) (h : 0 < s.size) : (s.extract 1 s.size).size + 1 = s.size := by
  have : (s.extract 1 s.size).size = s.data.toList.length - 1 := by
    show (s.extract 1 s.size).data.toList.length = _; rw [zjl, List.length_drop]
  have h2 : s.size = s.data.toList.length := rfl; omega
theorem rest_le (s : ByteArray) (h : s.size ≤ maxLen) : (s.extract 1 s.size).size ≤ maxLen := by
  by_cases h0 : 0 < s.size
  · have := znz s h0; omega
  · have : (s.extract 1 s.size).size = (s.data.toList.drop 1).length := by rw [← zjl]; rfl
    rw [List.length_drop] at this; have h2 : s.size = s.data.toList.length := rfl; omega
theorem first_rest (s : ByteArray) (h : 0 < s.size) : s.data.toList = s[0] :: (s.extract 1 s.size).data.toList := by
  rw [zjl]; have h2 : 0 < s.data.toList.length := h; exact (List.drop_eq_getElem_cons (i := 0) h2)
theorem rest_tail (s : ByteArray) : s.data.toList.tail.take (s.size - 1) = (s.extract 1 s.size).data.toList := by
  rw [zjl, List.drop_one, List.take_of_length_le]; rw [List.length_tail]; exact nl _
theorem znn (s : ByteArray) (h : 0 < s.size) : varB s.data.toList = (zco s[0] && zeq (s.data.toList.tail.take (s.size - 1)) && decide (s.size ≤ 8)) := by
  have h3 : (s.extract 1 s.size).data.toList.length + 1 = s.size := znz s h; rw [rest_tail, first_rest s h]; show (zco s[0] && zeq (s.extract 1 s.size).data.toList && decide ((s.extract 1 s.size).data.toList.length ≤ 7)) = _; rw [show decide ((s.extract 1 s.size).data.toList.length ≤ 7) = decide (s.size ≤ 8) by rw [decide_eq_decide]; omega]
theorem varB_model (s : ByteArray) (h : 0 < s.size) : varB s.data.toList = (zco s[0] && (((s.size : Int) == 1) || (zdn (s.data.toList.tail.take (s.size - 1)) && decide ((s.size : Int) ≤ 8)))) := by
  rw [znn s h]; have h3 : (s.data.toList.tail.take (s.size - 1)).length + 1 = s.size := by rw [rest_tail]; exact znz s h
  generalize s.data.toList.tail.take (s.size - 1) = r at *; by_cases h1 : s.size = 1
  · have : r = [] := List.eq_nil_of_length_eq_zero qaa
    subst this; simp [h1, zeq]
  · have e1 : ((s.size : Int) == 1) = false := qbp
    rw [e1, Bool.false_or, Bool.and_assoc]; congr 1; unfold zdn; have e2 : decide (1 ≤ (r.length : Int)) = true := by rw [decide_eq_true_iff]; omega
    rw [e2, Bool.true_and, Bool.and_assoc]; congr 1; by_cases h8 : s.size ≤ 8
    · simp [h8]; omega
    · simp [h8]; omega
theorem varB_no (s : ByteArray) (h : s.size < 1 ∨ 8 < s.size) : varB s.data.toList = false := by
  rcases Nat.eq_zero_or_pos s.size with h0 | h0
  · have : s.data.toList = [] := List.eq_nil_of_length_eq_zero h0
    rw [this]; rfl
  · rw [znn s h0]; simp; omega
def zgo (t : Tm) : Bool := if t.1 then varB t.2.data.toList else zij t.2.data.toList
theorem zjc (c : UInt8) (w : World) : Calls Tryz.prog 127 #[.int .u8 (c.toNat : Int)] w fun e w' => e = .returned (.bool (zco c)) ∧ w = w' := by
  go_enter Tryz.func127, Tryz.ntmps127; go_wp2
  all_goals (go_ret; exact ⟨zdb (by unfold zco; simp; try omega), rfl⟩)
theorem word_any (s : ByteArray) (w : World) (hs : s.size ≤ maxLen) : Calls Tryz.prog 222 #[.string s] w fun e w' => e = .returned (.bool (zij s.data.toList)) ∧ w = w' := by
  go_enter Tryz.func222, Tryz.ntmps222; go_wp2_with (go_at_call 91; refine (zme _ _ hs).mono ?_; rintro e w' ⟨rfl, rfl⟩); go_ret; exact ⟨rfl, rfl⟩
theorem variable_any (s : ByteArray) (w : World) (hs : s.size ≤ maxLen) : Calls Tryz.prog 221 #[.string s] w fun e w' => e = .returned (.bool (varB s.data.toList)) ∧ w = w' := by
  have hs' := hs; unfold maxLen at hs'; go_enter Tryz.func221, Tryz.ntmps221
  go_wp2_with (first
    | (go_at_call 127; refine (zjc _ _).mono ?_; rintro e w' ⟨rfl, rfl⟩)
    | (go_at_call 122; refine (zml _ _ (rest_le s hs)).mono ?_; rintro e w' ⟨rfl, rfl⟩))
  all_goals first
    | (have hp : 0 < s.size := by assumption
       go_ret; refine ⟨zdb ?_, rfl⟩; rw [znn s hp]; simp_all; try omega)
    | (go_ret; refine ⟨zdb ?_, rfl⟩; rw [varB_no s qaa])
theorem l1Term_any (v : Bool) (s : ByteArray) (w : World) (hs : s.size ≤ maxLen) :
    Calls Tryz.prog 129 #[.agg #[.bool v, .string s]] w (zas (zgo (v, s)) w) := by
  have hs' := hs; unfold maxLen at hs'; cases v
  · go_enter Tryz.func129, Tryz.ntmps129
    go_wp2_with (go_at_call 130; refine (zly _ _ hs).mono ?_; rintro e w' ⟨rfl, rfl⟩); go_ret; exact ⟨rfl, zac _ _⟩
  · by_cases hp : 0 < s.size
    · have hz : ((s.size : Int) == 0) = false := qbp
      have hlt : (0 : Int) < (s.size : Int) := qaa; go_enter Tryz.func129, Tryz.ntmps129; go_wp2_with (go_at_call 159; refine (zoq _ _ (rest_le s hs)).mono ?_; rintro e w' ⟨rfl, rfl⟩)
      all_goals (go_ret; refine ⟨zdb ?_, zac _ _⟩; show _ = varB s.data.toList; rw [varB_model s hp]; unfold zco; simp_all; try omega)
    · have h0 : s.size = 0 := qaa
      have hz : ((s.size : Int) == 0) = true := by rw [beq_iff_eq]; omega
      have HN := hid (varB_no s (.inl qaa)); clear h0; go_enter Tryz.func129, Tryz.ntmps129; go_wp2; go_ret; exact ⟨zdb HN.out.symm, zac _ _⟩
end Go.Proofs.YtogonjkklioaaaaGreatDoor
namespace Go.Proofs.YtogonjkklioaaaaGreatDoor
open Go.RowKit
def zlp (ts : List Tm) : Bool := ts.all zgo
def zax (a : At) : Bool := zlp a.2 && (zij a.1.data.toList && decide (a.2.length ≤ 3))
theorem zlo {ts : List Tm} {k : Nat} {t : Tm} (h : ts[k]? = some t) (hr : zlp (ts.take k) = true) (ht : zgo t = true) : zlp (ts.take (k + 1)) = true := by
  obtain ⟨h1, h2⟩ := List.getElem?_eq_some_iff.1 h; unfold zlp at *; rw [List.take_succ_eq_append_getElem h1, List.all_append, hr, h2]; simp [ht]
theorem argsB_no {ts : List Tm} {k : Nat} {t : Tm} (h : ts[k]? = some t) (ht : zgo t = false) : zlp ts = false := by
  unfold zlp; rw [List.all_eq_false]; exact ⟨t, List.mem_of_getElem? h, by simp [ht]⟩
theorem argsB_all {ts : List Tm} {k n : Nat} (h : ts.length = n) (hk : ¬ k < n) (hr : zlp (ts.take k) = true) : zlp ts = true := by
  rwa [List.take_of_length_le qaa] at hr
theorem term_yes {t : Tm} (h : (!zgo (t.1, t.2)) = false) : zgo t = true := by simpa using h
theorem atomB_no {nm : ByteArray} {ts : List Tm} {k : Nat} {t : Tm} (h : ts[k]? = some t) (ht : (!zgo (t.1, t.2)) = true) : zax (nm, ts) = false := by
  unfold zax; rw [argsB_no h (by simpa using ht)]; rfl
theorem atomB_end {nm : ByteArray} {ts : List Tm} {n : Nat} (hl : ts.length = n) (h : zlp ts = true) : zax (nm, ts) = (zij nm.data.toList && decide ((n : Int) ≤ 3)) := by
  unfold zax; rw [h, Bool.true_and, hl]; congr 1; rw [decide_eq_decide]; omega
theorem zpx {nm : ByteArray} {ts : List Tm} {n : Nat} (hl : ts.length = n) (h : zij nm.data.toList = false ∨ 3 < (n : Int)) : zax (nm, ts) = false := by
  unfold zax; rcases h with h | h
  · simp [h]
  · have : decide (ts.length ≤ 3) = false := by rw [decide_eq_false_iff_not]; omega
    simp [this]
theorem zdq (nm : ByteArray) (A : Option Addr) (n c : Nat) (ts : List Tm) (w : World) (hs : nm.size ≤ maxLen) (h : IsTerms w 0 w.heap.size A n c ts) :
    Calls Tryz.prog 102 #[.agg #[.string nm, .slice A n c]] w (zas (zax (nm, ts)) w) := by
  have hm : n ≤ maxLen := qbv; unfold maxLen at hm; have H := hid h; clear h; go_enter Tryz.func102, Tryz.ntmps102; go_wp2; have hw0 := zac w (.cells #[.string nm, .slice A n c] 51); go_loopw [3] (fun i wr => ∃ k : Nat, k ≤ n ∧ i = .int .i64 k ∧ zlp (ts.take k) = true ∧ Below (w.alloc (.cells #[.string nm, .slice A n c] 51)).heap.size (w.alloc (.cells #[.string nm, .slice A n c] 51)) wr) (fun i _ => n - (intOf i).toNat)
  case atStart => exact ⟨0, Nat.zero_le _, rfl, rfl, Below.refl _ _⟩
  case round =>
    obtain ⟨k, hk, rfl, hd, hb⟩ := hrel; have HD := hid hd; clear hd; obtain ⟨hc, hf⟩ := zhz hb; by_cases hlt : k < n
    · obtain ⟨p, t, hA, hlo, hhi, hg, c1, c2, c3⟩ := ((H.out.up hw0).below hb (nl _)).at_ hlt
      subst hA; have HG := hid hg; clear hg; go_wp2_with (go_at_call 129; refine (l1Term_any _ _ _ c3).mono ?_; rintro e w1 ⟨rfl, hb1⟩)
      · go_ret; exact ⟨zdb (atomB_no HG.out qbn).symm, zaa hw0 (zaa hb hb1)⟩
      · go_roundw
        case rel => exact ⟨k + 1, by omega, by go_num, zlo HG.out HD.out (term_yes qbn), zaa hb hb1⟩
        case measure => exact qms
    · go_wp2_with (go_at_call 130; refine (zly _ _ hs).mono ?_; rintro e w' ⟨rfl, rfl⟩)
      all_goals (go_ret; exact ⟨zdb (by rw [atomB_end H.out.1 (argsB_all H.out.1 hlt HD.out)]; simp_all), zaa hw0 hb⟩)
theorem zlx (s : ByteArray) (w : World) :
    Calls Tryz.prog 92 #[.agg #[.bool false, .string s]] w fun e w' => e = .returned (.iface 161 (.string s)) ∧ Below w.heap.size w w' := by
  go_enter Tryz.func92, Tryz.ntmps92; go_wp2; go_ret; exact ⟨rfl, zac _ _⟩
theorem znq (s : ByteArray) (w : World) :
    Calls Tryz.prog 92 #[.agg #[.bool true, .string s]] w fun e w' => e = .returned (.iface 160 (.string s)) ∧ Below w.heap.size w w' := by
  go_enter Tryz.func92, Tryz.ntmps92; go_wp2; go_ret; exact ⟨rfl, zac _ _⟩
def okName : String := String.intercalate (String.singleton (Char.ofNat 47)) ["loop.example", "springhead", "impl.ok"]
theorem method_word (k : Nat) (nm : String) (s : ByteArray) (w : World) (h : nm = okName) : (method (k + 1) 161 (.string s) nm).run Tryz.prog w = .ok (222, .string s) w := by
  subst h; kernel_rfl
theorem zon (k : Nat) (nm : String) (s : ByteArray) (w : World) (h : nm = okName) : (method (k + 1) 160 (.string s) nm).run Tryz.prog w = .ok (221, .string s) w := by
  subst h; kernel_rfl
theorem zdt (nm : ByteArray) (A : Option Addr) (n c : Nat) (ts : List Tm) (w : World) (hs : nm.size ≤ maxLen) (h : IsTerms w 0 w.heap.size A n c ts) :
    Calls Tryz.prog 57 #[.agg #[.string nm, .slice A n c]] w (zas (zax (nm, ts)) w) := by
  have hm : n ≤ maxLen := qbv; unfold maxLen at hm; have H := hid h; clear h; have hw0 := zac w (.cells #[.string nm, .slice A n c] 51); go_enter Tryz.func57, Tryz.ntmps57; go_wp2_with (go_at_call 91; refine (zme _ _ hs).mono ?_; rintro e w' ⟨rfl, rfl⟩)
  · go_ret; exact ⟨zdb (zpx H.out.1 (.inr qbn)).symm, hw0⟩
  · have hn3 : (n : Int) ≤ 3 := qbn
    go_loopw [4, 18] (fun _ i wr => ∃ k : Nat, k ≤ n ∧ i = .int .i64 k ∧ zlp (ts.take k) = true ∧ Below (w.alloc (.cells #[.string nm, .slice A n c] 51)).heap.size (w.alloc (.cells #[.string nm, .slice A n c] 51)) wr) (fun _ i _ => n - (intOf i).toNat)
    case atStart => exact ⟨0, Nat.zero_le _, rfl, rfl, Below.refl _ _⟩
    case round =>
      obtain ⟨k, hk, rfl, hd, hb⟩ := hrel; have HD := hid hd; clear hd; obtain ⟨hc, hf⟩ := zhz hb; by_cases hlt : k < n
      · obtain ⟨p, ⟨v, s⟩, hA, hlo, hhi, hg, c1, c2, c3⟩ := ((H.out.up hw0).below hb (nl _)).at_ hlt
        subst hA; have HG := hid hg; clear hg; cases v
        · go_wp2_with (first
            | (go_at_call 92; refine (zlx _ _).mono ?_; rintro e w1 ⟨rfl, hb1⟩; have hb2 := zaa hb (zaa (zac _ _) hb1); clear hb1)
            | (go_at_call 222; refine (word_any _ _ c3).mono ?_; rintro e w' ⟨rfl, rfl⟩)
            | (rw [method_word (h := ?hname)]; rotate_left; case hname => kernel_rfl))
          · go_ret; exact ⟨zdb (atomB_no HG.out qbn).symm, zaa hw0 hb2⟩
          · go_roundw
            case rel => exact ⟨k + 1, by omega, by go_num, zlo HG.out HD.out (term_yes qbn), hb2⟩
            case measure => exact qms
        · go_wp2_with (first
            | (go_at_call 92; refine (znq _ _).mono ?_; rintro e w1 ⟨rfl, hb1⟩; have hb2 := zaa hb (zaa (zac _ _) hb1); clear hb1)
            | (go_at_call 221; refine (variable_any _ _ c3).mono ?_; rintro e w' ⟨rfl, rfl⟩)
            | (rw [zon (h := ?hname)]; rotate_left; case hname => kernel_rfl))
          · go_ret; exact ⟨zdb (atomB_no HG.out qbn).symm, zaa hw0 hb2⟩
          · go_roundw
            case rel => exact ⟨k + 1, by omega, by go_num, zlo HG.out HD.out (term_yes qbn), hb2⟩
            case measure => exact qms
      · go_wp2
        go_ret; exact ⟨zdb (by rw [atomB_end H.out.1 (argsB_all H.out.1 hlt HD.out)]; simp_all), zaa hw0 hb⟩
  · go_ret; exact ⟨zdb (zpx H.out.1 (.inl (by simp_all))).symm, hw0⟩
end Go.Proofs.YtogonjkklioaaaaGreatDoor
