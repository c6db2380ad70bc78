/-
  Terms that are ok: what the program and its model answer of one term, and of an atom.
  Atoms that are ok: what the program and its model answer.
-/
import Derived.Test.YtiekfjlhioekcaaDoorMem
import Derived.Test.YtiekfjlhioekcaaDoorEq
import Derived.Outline
import Derived.Lib.IndexBytes
import Derived.Deep.LoopGhost
import Derived.Deep.RegionWith
namespace Go.Proofs.YtiekfjlhioekcaaDoor
open Go.RowKit

def capital (c : UInt8) : Bool := decide (65 ≤ (c.toNat : Int)) && decide ((c.toNat : Int) ≤ 90)

/-- A variable: a capital letter, and small ones and figures behind it, at most eight. -/
def varB (l : List UInt8) : Bool := match l with
  | [] => false
  | c :: r => capital c && small r && decide (r.length ≤ 7)

theorem rest_list (s : ByteArray) : (s.extract 1 s.size).data.toList = s.data.toList.drop 1 := by
  exact Lib.extract_to_end s 1

theorem rest_size (s : ByteArray) (h : 0 < s.size) : (s.extract 1 s.size).size + 1 = s.size := by
  have : (s.extract 1 s.size).size = s.data.toList.length - 1 := by
    show (s.extract 1 s.size).data.toList.length = _
    rw [rest_list, List.length_drop]
  have h2 : s.size = s.data.toList.length := rfl
  omega

theorem rest_le (s : ByteArray) (h : s.size ≤ maxLen) : (s.extract 1 s.size).size ≤ maxLen := by
  by_cases h0 : 0 < s.size
  · have := rest_size s h0; omega
  · have : (s.extract 1 s.size).size = (s.data.toList.drop 1).length := by rw [← rest_list]; rfl
    rw [List.length_drop] at this
    have h2 : s.size = s.data.toList.length := rfl
    omega

theorem first_rest (s : ByteArray) (h : 0 < s.size) : s.data.toList = s[0] :: (s.extract 1 s.size).data.toList := by
  rw [rest_list]
  have h2 : 0 < s.data.toList.length := h
  exact (List.drop_eq_getElem_cons (i := 0) h2)

/-- What is behind the first byte, spelled as the walk spells it. -/
theorem rest_tail (s : ByteArray) : s.data.toList.tail.take (s.size - 1) = (s.extract 1 s.size).data.toList := by
  rw [rest_list, List.drop_one, List.take_of_length_le]
  rw [List.length_tail]
  exact Nat.le_refl _

theorem varB_cons (s : ByteArray) (h : 0 < s.size) : varB s.data.toList = (capital s[0] && small (s.data.toList.tail.take (s.size - 1)) && decide (s.size ≤ 8)) := by
  have h3 : (s.extract 1 s.size).data.toList.length + 1 = s.size := rest_size s h
  rw [rest_tail, first_rest s h]
  show (capital s[0] && small (s.extract 1 s.size).data.toList && decide ((s.extract 1 s.size).data.toList.length ≤ 7)) = _
  rw [show decide ((s.extract 1 s.size).data.toList.length ≤ 7) = decide (s.size ≤ 8) by rw [decide_eq_decide]; omega]

theorem varB_model (s : ByteArray) (h : 0 < s.size) : varB s.data.toList = (capital s[0] && (((s.size : Int) == 1) || (letters (s.data.toList.tail.take (s.size - 1)) && decide ((s.size : Int) ≤ 8)))) := by
  rw [varB_cons s h]
  have h3 : (s.data.toList.tail.take (s.size - 1)).length + 1 = s.size := by rw [rest_tail]; exact rest_size s h
  generalize s.data.toList.tail.take (s.size - 1) = r at *
  by_cases h1 : s.size = 1
  · have : r = [] := List.eq_nil_of_length_eq_zero (by omega)
    subst this
    simp [h1, small]
  · have e1 : ((s.size : Int) == 1) = false := by rw [beq_eq_false_iff_ne]; omega
    rw [e1, Bool.false_or, Bool.and_assoc]
    congr 1
    unfold letters
    have e2 : decide (1 ≤ (r.length : Int)) = true := by rw [decide_eq_true_iff]; omega
    rw [e2, Bool.true_and, Bool.and_assoc]
    congr 1
    by_cases h8 : s.size ≤ 8
    · simp [h8]; omega
    · simp [h8]; omega

theorem varB_no (s : ByteArray) (h : s.size < 1 ∨ 8 < s.size) : varB s.data.toList = false := by
  rcases Nat.eq_zero_or_pos s.size with h0 | h0
  · have : s.data.toList = [] := List.eq_nil_of_length_eq_zero h0
    rw [this]; rfl
  · rw [varB_cons s h0]; simp; omega

def termB (t : Tm) : Bool := if t.1 then varB t.2.data.toList else nameB t.2.data.toList





end Go.Proofs.YtiekfjlhioekcaaDoor

namespace Go.Proofs.YtiekfjlhioekcaaDoor
open Go.RowKit

def argsB (ts : List Tm) : Bool := ts.all termB
def atomB (a : At) : Bool := argsB a.2 && (nameB a.1.data.toList && decide (a.2.length ≤ 3))

theorem argsB_snoc {ts : List Tm} {k : Nat} {t : Tm} (h : ts[k]? = some t) (hr : argsB (ts.take k) = true) (ht : termB t = true) : argsB (ts.take (k + 1)) = true := by
  obtain ⟨h1, h2⟩ := List.getElem?_eq_some_iff.1 h
  unfold argsB at *
  rw [List.take_succ_eq_append_getElem h1, List.all_append, hr, h2]; simp [ht]

theorem argsB_no {ts : List Tm} {k : Nat} {t : Tm} (h : ts[k]? = some t) (ht : termB t = false) : argsB ts = false := by
  unfold argsB
  rw [List.all_eq_false]
  exact ⟨t, List.mem_of_getElem? h, by simp [ht]⟩

theorem argsB_all {ts : List Tm} {k n : Nat} (h : ts.length = n) (hk : ¬ k < n) (hr : argsB (ts.take k) = true) : argsB ts = true := by
  rwa [List.take_of_length_le (by omega)] at hr

theorem term_yes {t : Tm} (h : (!termB (t.1, t.2)) = false) : termB t = true := by simpa using h

theorem atomB_no {nm : ByteArray} {ts : List Tm} {k : Nat} {t : Tm} (h : ts[k]? = some t) (ht : (!termB (t.1, t.2)) = true) : atomB (nm, ts) = false := by
  unfold atomB
  rw [argsB_no h (by simpa using ht)]; rfl

theorem atomB_end {nm : ByteArray} {ts : List Tm} {n : Nat} (hl : ts.length = n) (h : argsB ts = true) : atomB (nm, ts) = (nameB nm.data.toList && decide ((n : Int) ≤ 3)) := by
  unfold atomB
  rw [h, Bool.true_and, hl]
  congr 1
  rw [decide_eq_decide]; omega

theorem atomB_short {nm : ByteArray} {ts : List Tm} {n : Nat} (hl : ts.length = n) (h : nameB nm.data.toList = false ∨ 3 < (n : Int)) : atomB (nm, ts) = false := by
  unfold atomB
  rcases h with h | h
  · simp [h]
  · have : decide (ts.length ≤ 3) = false := by rw [decide_eq_false_iff_not]; omega
    simp [this]




/-- The method's whole name. -/
def okName : String := String.intercalate (String.singleton (Char.ofNat 47)) ["loop.example", "springhead", "impl.ok"]



end Go.Proofs.YtiekfjlhioekcaaDoor

