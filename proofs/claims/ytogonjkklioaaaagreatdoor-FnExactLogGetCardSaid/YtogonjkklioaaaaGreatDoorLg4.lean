/-
  Texts of one claim, put together.
-/
import Derived.Test.YtogonjkklioaaaaGreatDoorLg3
import Derived.RangeFuncNested
import Derived.RangeFuncBound
import Derived.RangeFuncCalls
import Derived.RangeFuncLeaves
import Derived.RangeFuncFrom
import Derived.Shelf.Abstract
import Derived.Shelf.RegionOpen
import Derived.WalkKit
import Derived.OwnWalkIn
import Derived.TacticsInMore
import Derived.LoopNIn
import Derived.LoopIn
import Derived.Deep.RegionHeld3
namespace Go.Proofs.YtogonjkklioaaaaGreatDoor
open Go.RowKit

theorem bytes_anti : ∀ a b : List UInt8, Lib.compareBytes b a = -Lib.compareBytes a b
  | [], [] => rfl
  | [], _ :: _ => rfl
  | _ :: _, [] => rfl
  | a :: l, b :: m => by
    unfold Lib.compareBytes
    by_cases h : a < b
    · have h' : ¬ b < a := fun k => absurd (UInt8.lt_trans h k) (UInt8.lt_irrefl _)
      simp [h, h']
    · by_cases h' : b < a
      · simp [h, h']
      · simp only [h, h', if_false]; exact bytes_anti l m

theorem bytes_same {a b : List UInt8} (h : Lib.compareBytes a b = 0) : a = b := by
  have := (less_cmp a b).2
  rw [h] at this
  simpa using this

theorem bytes_self (a : List UInt8) : Lib.compareBytes a a = 0 := by
  have := (less_cmp a a).2
  simpa using this

theorem bytes_on : ∀ a b c : List UInt8, Lib.compareBytes a b ≤ 0 → Lib.compareBytes b c ≤ 0 → Lib.compareBytes a c ≤ 0
  | [], _, [], _, _ => Int.le_refl _
  | [], _, _ :: _, _, _ => by simp [Lib.compareBytes]
  | _ :: _, [], _, h, _ => by simp [Lib.compareBytes] at h
  | _ :: _, _ :: _, [], _, h => by simp [Lib.compareBytes] at h
  | a :: l, b :: m, c :: r, h, h' => by
    unfold Lib.compareBytes at h h' ⊢
    by_cases h1 : a < b
    · by_cases h2 : b < c
      · simp [UInt8.lt_trans h1 h2]
      · by_cases h3 : c < b
        · simp [h2, h3] at h'
        · have : b = c := UInt8.le_antisymm (UInt8.not_lt.1 h3) (UInt8.not_lt.1 h2)
          subst this
          simp [h1]
    · by_cases h3 : b < a
      · simp [h1, h3] at h
      · have : a = b := UInt8.le_antisymm (UInt8.not_lt.1 h3) (UInt8.not_lt.1 h1)
        subst this
        by_cases h2 : a < c
        · simp [h2]
        · by_cases h4 : c < a
          · simp [h2, h4] at h'
          · simp only [h1, h2, h4, if_false] at h h' ⊢
            exact bytes_on l m r h h'

theorem bytesEq {a b : ByteArray} (h : a.data.toList = b.data.toList) : a = b := by
  cases a; cases b; simp only [ByteArray.mk.injEq]; exact Array.toList_inj.1 h

theorem text_anti (a b : ByteArray) : textCmp b a = -textCmp a b := bytes_anti _ _
theorem text_same {a b : ByteArray} (h : textCmp a b = 0) : a = b := bytesEq (bytes_same h)
theorem text_self (a : ByteArray) : textCmp a a = 0 := bytes_self _

theorem text_on {a b c : ByteArray} (h : textCmp a b ≤ 0) (h' : textCmp b c ≤ 0) : textCmp a c ≤ 0 := bytes_on _ _ _ h h'

/-- Strictly, where one step is strict. -/
theorem text_strict {a b c : ByteArray} (h : textCmp a b ≤ 0) (h' : textCmp b c ≤ 0) (hs : textCmp a b ≠ 0 ∨ textCmp b c ≠ 0) : textCmp a c ≠ 0 := by
  intro he
  have hac := text_same he
  subst hac
  have := text_anti a b
  omega

theorem args_anti : ∀ a b : List Tm, argsCmp b a = -argsCmp a b
  | [], [] => rfl
  | [], _ :: _ => rfl
  | _ :: _, [] => rfl
  | x :: l, y :: m => by
    have := text_anti x.2 y.2
    show (if textCmp y.2 x.2 = 0 then argsCmp m l else textCmp y.2 x.2) = -(if textCmp x.2 y.2 = 0 then argsCmp l m else textCmp x.2 y.2)
    by_cases h : textCmp x.2 y.2 = 0
    · rw [if_pos h, if_pos (by omega)]; exact args_anti l m
    · rw [if_neg h, if_neg (by omega)]; exact this

theorem args_on : ∀ a b c : List Tm, argsCmp a b ≤ 0 → argsCmp b c ≤ 0 → argsCmp a c ≤ 0
  | [], _, [], _, _ => Int.le_refl _
  | [], _, _ :: _, _, _ => by simp [argsCmp]
  | _ :: _, [], _, h, _ => by simp [argsCmp] at h
  | _ :: _, _ :: _, [], _, h => by simp [argsCmp] at h
  | x :: l, y :: m, z :: r, h, h' => by
    have h0 : (if textCmp x.2 y.2 = 0 then argsCmp l m else textCmp x.2 y.2) ≤ 0 := h
    have h1 : (if textCmp y.2 z.2 = 0 then argsCmp m r else textCmp y.2 z.2) ≤ 0 := h'
    show (if textCmp x.2 z.2 = 0 then argsCmp l r else textCmp x.2 z.2) ≤ 0
    by_cases e : textCmp x.2 y.2 = 0
    · rw [if_pos e] at h0
      have exy := text_same e
      rw [exy]
      by_cases e' : textCmp y.2 z.2 = 0
      · rw [if_pos e'] at h1 ⊢
        exact args_on l m r h0 h1
      · rw [if_neg e'] at h1 ⊢
        exact h1
    · rw [if_neg e] at h0
      have h2 : textCmp y.2 z.2 ≤ 0 := by
        by_cases e' : textCmp y.2 z.2 = 0
        · omega
        · rw [if_neg e'] at h1; exact h1
      rw [if_neg (text_strict h0 h2 (.inl e))]
      exact text_on h0 h2

theorem atom_args (a b : At) : atomCmp a b = argsCmp ((false, a.1) :: a.2) ((false, b.1) :: b.2) := rfl

theorem atomCmp_anti (a b : At) : atomCmp b a = -atomCmp a b := by rw [atom_args, atom_args]; exact args_anti _ _

theorem cmpB_anti (a b : At) : cmpB b a = -cmpB a b := by
  unfold cmpB
  cases atomB a <;> cases atomB b <;> simp [atomCmp_anti a b]

theorem atomCmp_on {a b c : At} (h : atomCmp a b ≤ 0) (h' : atomCmp b c ≤ 0) : atomCmp a c ≤ 0 := by
  rw [atom_args] at *
  exact args_on _ _ _ h h'

/-- A text that is a word is no variable. -/
theorem var_word {s : ByteArray} (h : termB (true, s) = true) (h' : termB (false, s) = true) : False := by
  have hv : varB s.data.toList = true := h
  have hn : nameB s.data.toList = true := h'
  have hs : small s.data.toList = true := by
    unfold nameB letters at hn
    simp only [Bool.and_eq_true] at hn
    exact hn.1.1
  generalize s.data.toList = l at *
  cases l with
  | nil => simp [varB] at hv
  | cons c r =>
    have hc : capital c = true := by
      unfold varB at hv
      simp only [Bool.and_eq_true] at hv
      exact hv.1.1
    have ho : okByte c = true := by
      unfold small at hs
      rw [List.all_cons, Bool.and_eq_true] at hs
      exact hs.1
    unfold capital at hc
    simp only [Bool.and_eq_true, decide_eq_true_eq] at hc
    rw [okByte_false (c := c) (by omega)] at ho
    cases ho

theorem args_same : ∀ {a b : List Tm}, argsB a = true → argsB b = true → (decide (argsCmp a b = 0) = termsEq a b)
  | [], [], _, _ => rfl
  | [], _ :: _, _, _ => rfl
  | _ :: _, [], _, _ => rfl
  | x :: l, y :: m, h, h' => by
    have hx : termB x = true ∧ argsB l = true := by unfold argsB at *; simpa using h
    have hy : termB y = true ∧ argsB m = true := by unfold argsB at *; simpa using h'
    have ih := args_same hx.2 hy.2
    show decide ((if textCmp x.2 y.2 = 0 then argsCmp l m else textCmp x.2 y.2) = 0) = (termEq x y && termsEq l m)
    obtain ⟨xv, xs⟩ := x
    obtain ⟨yv, ys⟩ := y
    by_cases e : textCmp xs ys = 0
    · have := text_same e
      subst this
      rw [if_pos e, ih]
      have hv : xv = yv := by
        cases xv <;> cases yv
        · rfl
        · exact (var_word hy.1 hx.1).elim
        · exact (var_word hx.1 hy.1).elim
        · rfl
      subst hv
      rw [termEq_refl]; rfl
    · rw [if_neg e, decide_eq_false e]
      have : termEq (xv, xs) (yv, ys) = false := by
        unfold termEq
        have hne : (xs.toList == ys.toList) = false := by
          rw [beq_eq_false_iff_ne]
          intro hh
          refine e ?_
          have : xs = ys := by
            rw [ByteArray.toList_eq, ByteArray.toList_eq] at hh
            exact bytesEq hh
          rw [this]; exact text_self _
        simp [hne]
      rw [this]; rfl

theorem atom_same {a b : At} (h : atomB a = true) (h' : atomB b = true) : decide (cmpB a b = 0) = atomEq a b := by
  rw [cmpB_yes h h']
  have ha : argsB a.2 = true := by
    unfold atomB at h
    rw [Bool.and_eq_true] at h
    exact h.1
  have hb : argsB b.2 = true := by
    unfold atomB at h'
    rw [Bool.and_eq_true] at h'
    exact h'.1
  unfold atomCmp atomEq
  by_cases e : textCmp a.1 b.1 = 0
  · rw [if_pos e, args_same ha hb, text_same e]
    simp
  · rw [if_neg e, decide_eq_false e]
    have hne : (a.1.toList == b.1.toList) = false := by
      rw [beq_eq_false_iff_ne]
      intro hh
      rw [ByteArray.toList_eq, ByteArray.toList_eq] at hh
      rw [bytesEq hh] at e
      exact e (text_self _)
    rw [hne]; rfl

end Go.Proofs.YtogonjkklioaaaaGreatDoor

namespace Go.Proofs.YtogonjkklioaaaaGreatDoor

theorem atomCmp_strict {a b c : At} (h : atomCmp a b < 0) (h' : atomCmp b c ≤ 0) : atomCmp a c < 0 := by
  have h1 : atomCmp a c ≤ 0 := atomCmp_on (Int.le_of_lt h) h'
  by_cases e : atomCmp a c = 0
  · have h2 := atomCmp_anti a c
    have h3 := atomCmp_on (a := b) (b := c) (c := a) h' (by omega)
    have h4 := atomCmp_anti a b
    omega
  · omega

/-- Is one of them the same? -/
def hasB (xs : List At) (a : At) : Bool := xs.any fun x => decide (atomCmp x a = 0)

theorem rises_head : ∀ {x : At} {l : List At}, risesB (x :: l) = true → ∀ y ∈ l, atomCmp x y < 0
  | x, [], _, y, hy => by simp at hy
  | x, z :: l, h, y, hy => by
    have h' : (decide (atomCmp x z < 0) && risesB (z :: l)) = true := h
    rw [Bool.and_eq_true, decide_eq_true_eq] at h'
    rcases List.mem_cons.1 hy with rfl | hy
    · exact h'.1
    · have := rises_head h'.2 y hy
      exact atomCmp_strict h'.1 (by omega)

theorem rises_tail {x : At} {l : List At} (h : risesB (x :: l) = true) : risesB l = true := by
  cases l with
  | nil => rfl
  | cons z l =>
    have h' : (decide (atomCmp x z < 0) && risesB (z :: l)) = true := h
    rw [Bool.and_eq_true] at h'
    exact h'.2

theorem rises_pair : ∀ {xs : List At}, risesB xs = true → ∀ (i j : Nat) (x y : At), i < j → xs[i]? = some x → xs[j]? = some y → atomCmp x y < 0
  | [], _, i, j, x, y, _, h, _ => by simp at h
  | z :: l, h, 0, j + 1, x, y, _, hx, hy => by
    simp at hx hy
    subst hx
    exact rises_head h y (List.mem_of_getElem? hy)
  | z :: l, h, i + 1, j + 1, x, y, hij, hx, hy => rises_pair (rises_tail h) i j x y (by omega) (by simpa using hx) (by simpa using hy)
  | z :: l, h, i, 0, x, y, hij, _, _ => absurd hij (by omega)

/-- The place at which one would stand tells whether it is there. -/
theorem hasB_at {xs : List At} {a x : At} {k : Nat} (h : risesB xs = true) (hlow : ∀ j y, j < k → xs[j]? = some y → atomCmp y a < 0) (hx : xs[k]? = some x) (hk : 0 ≤ atomCmp x a) : hasB xs a = decide (atomCmp x a = 0) := by
  by_cases e : atomCmp x a = 0
  · rw [decide_eq_true e]
    unfold hasB
    rw [List.any_eq_true]
    exact ⟨x, List.mem_of_getElem? hx, by simp [e]⟩
  · rw [decide_eq_false e]
    unfold hasB
    rw [List.any_eq_false]
    intro y hy
    obtain ⟨j, hj⟩ := List.getElem?_of_mem hy
    simp only [decide_eq_true_eq]
    intro e'
    rcases Nat.lt_trichotomy j k with hlt | rfl | hgt
    · have := hlow j y hlt hj; omega
    · rw [hx] at hj; injection hj with hj; subst hj; exact e e'
    · have h1 := rises_pair h k j x y hgt hx hj
      have h2 := atomCmp_strict h1 (show atomCmp y a ≤ 0 by omega)
      omega

theorem hasB_end {xs : List At} {a : At} {k n : Nat} (hl : xs.length = n) (hlow : ∀ j y, j < k → xs[j]? = some y → atomCmp y a < 0) (hk : ¬ k < n) : hasB xs a = false := by
  unfold hasB
  rw [List.any_eq_false]
  intro y hy
  obtain ⟨j, hj⟩ := List.getElem?_of_mem hy
  have := hlow j y (by have := (List.getElem?_eq_some_iff.1 hj).1; omega) hj
  simp only [decide_eq_true_eq]
  omega

theorem low_snoc {xs : List At} {a x : At} {k : Nat} (hlow : ∀ j y, j < k → xs[j]? = some y → atomCmp y a < 0) (hx : xs[k]? = some x) (h : atomCmp x a < 0) : ∀ j y, j < k + 1 → xs[j]? = some y → atomCmp y a < 0 := by
  intro j y hj hy
  by_cases e : j = k
  · subst e; rw [hx] at hy; injection hy with hy; subst hy; exact h
  · exact hlow j y (by omega) hy

/-- In order: all ahead of one that stands ahead do so as well. -/
theorem low_all {xs : List At} {a x : At} {k : Nat} (hr : risesB xs = true) (hx : xs[k]? = some x) (h : atomCmp x a < 0) : ∀ j y, j < k + 1 → xs[j]? = some y → atomCmp y a < 0 := by
  intro j y hj hy
  by_cases e : j = k
  · subst e; rw [hx] at hy; injection hy with hy; subst hy; exact h
  · exact atomCmp_strict (rises_pair hr j k y x (by omega) hy hx) (by omega)

end Go.Proofs.YtogonjkklioaaaaGreatDoor

namespace Go.Proofs.YtogonjkklioaaaaGreatDoor
open Go.RowKit Go.Shelf
attribute [local go_sem] Oper.semAt_some

/-- The names of the variables, one behind the other. -/
def varsOf (ts : List Tm) : List ByteArray := (ts.filter (·.1)).map (·.2)

theorem varsOf_no {ts : List Tm} {k : Nat} {t : Tm} (h : ts[k]? = some t) (ht : t.1 = false) : varsOf (ts.take (k + 1)) = varsOf (ts.take k) := by
  obtain ⟨h1, h2⟩ := List.getElem?_eq_some_iff.1 h
  unfold varsOf
  rw [List.take_succ_eq_append_getElem h1, List.filter_append, h2]; simp [ht]

theorem varsOf_yes {ts : List Tm} {k : Nat} {t : Tm} (h : ts[k]? = some t) (ht : t.1 = true) : varsOf (ts.take (k + 1)) = varsOf (ts.take k) ++ [t.2] := by
  obtain ⟨h1, h2⟩ := List.getElem?_eq_some_iff.1 h
  unfold varsOf
  rw [List.take_succ_eq_append_getElem h1, List.filter_append, h2]; simp [ht]

theorem varsOf_pre (ts : List Tm) (k : Nat) : varsOf (ts.take k) <+: varsOf ts := by
  conv => rhs; rw [← List.take_append_drop k ts]
  unfold varsOf
  rw [List.filter_append, List.map_append]
  exact List.prefix_append _ _

theorem varsOf_len (ts : List Tm) (k : Nat) : (varsOf (ts.take k)).length ≤ k := by
  unfold varsOf
  rw [List.length_map]
  exact Nat.le_trans (List.length_filter_le _ _) (by rw [List.length_take]; omega)

theorem varsOf_none {ts : List Tm} : wordsB ts = true ↔ varsOf ts = [] := by
  unfold wordsB varsOf
  rw [List.map_eq_nil_iff, List.filter_eq_nil_iff, List.all_eq_true]
  exact ⟨fun h t ht => by have := h t ht; simpa using this, fun h t ht => by have := h t ht; simpa using this⟩

theorem varsOf_all {ts : List Tm} {k n : Nat} (h : ts.length = n) (hk : ¬ k < n) : varsOf (ts.take k) = varsOf ts := by
  rw [List.take_of_length_le (by omega)]

theorem assert_var (s : ByteArray) (W : World) : (Instr.typeAssert (.iface 160 (.string s)) 130 160 true).run Tryz.prog W = .ok (.tuple #[.string s, .bool true]) W := by kernel_rfl
theorem assert_word (s : ByteArray) (W : World) : (Instr.typeAssert (.iface 161 (.string s)) 130 161 true).run Tryz.prog W = .ok (.tuple #[.string s, .bool true]) W := by kernel_rfl
theorem assert_not (s : ByteArray) (W : World) : (Instr.typeAssert (.iface 161 (.string s)) 130 160 true).run Tryz.prog W = .ok (.tuple #[.string ⟨#[]⟩, .bool false]) W := by kernel_rfl

theorem grownOf {B : Nat} {a b : World} (h : Below B a b) (hB : a.heap.size ≤ B) : a.grownBy b none := ⟨h.os, h.tape, h.output, h.size, fun i hi _ => h.block i (Nat.lt_of_lt_of_le hi hB)⟩

set_option maxRecDepth 100000 in
set_option maxHeartbeats 2000000 in
theorem vars1_in (n : Nat) (hn : 1 ≤ n) (l Bs n₀ : Nat) (A : Option Addr) (m c : Nat) (ts : List Tm) (J Jx : List ByteArray → World → Prop) (W : World) (hJ : AbidesFrom W.heap.size J)
    (hY : ∀ pre x W1, J pre W1 → pre.length < m → YieldAt Fence.wide (n - 1) Tryz.prog l #[.string x] W1 fun e W' =>
      (e = .returned (.bool true) ∧ J (pre ++ [x]) W' ∧ Below n₀ W1 W') ∨ (e = .returned (.bool false) ∧ Jx (pre ++ [x]) W'))
    (hB : W.cell? ⟨Bs, 1, none⟩ = some (.slice A m c)) (hn0 : n₀ ≤ W.heap.size) (hT : IsTerms W 0 n₀ A m c ts) (h0 : J [] W) :
    CallsIn Fence.wide n Tryz.prog 153 #[.func (.yield l) #[] #[], .pointer (some ⟨Bs, 0, none⟩)] W fun e W' => (∃ v, e = .returned v) ∧
      ((∃ ys, ys = varsOf ts ∧ J ys W') ∨ (∃ pre, pre <+: varsOf ts ∧ Jx pre W')) := by
  have hm : m ≤ maxLen := by have := hT.2.1; have := hT.2.2.1; omega
  unfold maxLen at hm
  have HT := Lib.hid hT; clear hT
  have HY := Lib.hid hY; clear hY
  have HJ0 := Lib.hid hJ; clear hJ
  refine callsIn_of_wp Tryz.func153 rfl trivial ?_ rfl
  simp only [Tryz.ntmps153, List.size_toArray, List.length_cons, List.length_nil, Nat.reduceAdd, Nat.reduceSub, Array.replicate_succ, Array.replicate_zero, List.push_toArray, List.append_toArray, List.nil_append, List.cons_append]
  gi_wp2
  gi_loopw [10] (fun i wr => ∃ k : Nat, k ≤ m ∧ i = .int .i64 k ∧ J (varsOf (ts.take k)) wr ∧ Below n₀ W wr) (fun i _ => m - (intOf i).toNat)
  case atStart => exact ⟨0, Nat.zero_le _, rfl, h0, Below.refl _ _⟩
  case round =>
    obtain ⟨k, hk, rfl, hJs, hb⟩ := hrel
    have HJ := Lib.hid hJs; clear hJs
    by_cases hlt : k < m
    · obtain ⟨p, ⟨v, s⟩, hA, hlo, hhi, hg, c1, c2, c3⟩ := (HT.out.below hb (Nat.le_refl _)).at_ hlt
      subst hA
      have HG := Lib.hid hg; clear hg
      have hwr := hb.size
      have ta1 := assert_var s
      have ta2 := assert_word s
      have ta3 := assert_not s
      cases v
      · gi_wp2_with (refine ⟨trivial, ?_⟩; gi_at_call 92; refine (callsIn_wide.2 (termWord_any _ _)).mono ?_; rintro e w1 ⟨rfl, hb1⟩; have hbx := belowThen (below1 wr (.cells #[.bool false, .string s] 110)) hb1)
        go_roundw
        case rel => exact ⟨k + 1, by omega, by go_num, by rw [varsOf_no HG.out rfl]; exact HJ0.out _ _ _ none HJ.out (grownOf hbx (Nat.le_refl _)) (fun r e => by cases e), hb.trans (hbx.mono (by omega))⟩
        case measure => simp [intOf]; omega
      · gi_wp2_with (refine ⟨trivial, ?_⟩; gi_at_call 92; refine (callsIn_wide.2 (termVar_any _ _)).mono ?_; rintro e w1 ⟨rfl, hb1⟩; have hbx := belowThen (below1 wr (.cells #[.bool true, .string s] 110)) hb1; obtain ⟨fn, tmps, assign, body, hy, hR⟩ := HY.out _ s w1 (HJ0.out _ _ _ none HJ.out (grownOf hbx (Nat.le_refl _)) (fun r e => by cases e)) (Nat.lt_of_le_of_lt (varsOf_len _ _) hlt))
        refine hR.mono ?_
        rintro e W3 (⟨rfl, hJ3, hk3⟩ | ⟨rfl, hJx3⟩)
        · gi_wp2
          go_roundw
          case rel => exact ⟨k + 1, by omega, by go_num, by rw [varsOf_yes HG.out rfl]; exact hJ3, (hb.trans (hbx.mono (by omega))).trans hk3⟩
          case measure => simp [intOf]; omega
        · gi_wp2
          refine bodyPost_ret (results_none rfl _ _ _) rfl ?_
          exact ⟨⟨_, rfl⟩, .inr ⟨_, by rw [← varsOf_yes (t := (true, s)) HG.out rfl]; exact varsOf_pre _ _, hJx3⟩⟩
    · have E := Lib.hid (varsOf_all HT.out.1 hlt)
      gi_wp2
      go_end0
      exact ⟨⟨_, rfl⟩, .inl ⟨_, rfl, by rw [← E.out]; exact HJ.out⟩⟩

theorem vars_stops (n : Nat) (hn : 1 ≤ n) (Bs n₀ : Nat) (A : Option Addr) (m c : Nat) (ts : List Tm) (w : World) (hBs : Bs < w.heap.size) (hn0 : n₀ ≤ w.heap.size) (hB : w.cell? ⟨Bs, 1, none⟩ = some (.slice A m c)) (hT : IsTerms w 0 n₀ A m c ts) :
    SeqStopsK Fence.wide n Tryz.prog 153 #[.pointer (some ⟨Bs, 0, none⟩)] (fun x : ByteArray => #[Value.string x]) (Below n₀) (fun ys => ys = varsOf ts) (fun pre => pre <+: varsOf ts) m w := fun l J Jx W hW hJ _ hY h0 =>
  vars1_in n hn l Bs n₀ A m c ts J Jx W hJ hY ((hW.cell (p := ⟨Bs, 1, none⟩) hBs).trans hB) (Nat.le_trans hn0 hW.size) (hT.below hW hn0) h0

set_option maxHeartbeats 400000 in
theorem variablesOf_any (nm : ByteArray) (A : Option Addr) (n c : Nat) (w : World) :
    Calls Tryz.prog 116 #[.agg #[.string nm, .slice A n c]] w fun e w' => e = .returned (.func (.func 153) #[] #[.pointer (some ⟨w.heap.size, 0, none⟩)]) ∧ w' = w.alloc (.cells #[.string nm, .slice A n c] 51) := by
  go_enter Tryz.func116, Tryz.ntmps116
  go_wp2
  go_ret
  exact ⟨rfl, rfl⟩

end Go.Proofs.YtogonjkklioaaaaGreatDoor

namespace Go.Proofs.YtogonjkklioaaaaGreatDoor
open Go.RowKit Go.Shelf
attribute [local go_sem] Oper.semAt_some

/-- A text that is none too long. -/
abbrev SmallT := { x : ByteArray // x.size ≤ maxLen }

set_option maxRecDepth 100000 in
set_option maxHeartbeats 2000000 in
theorem vars1S_in (n : Nat) (hn : 1 ≤ n) (l Bs n₀ : Nat) (A : Option Addr) (m c : Nat) (ts : List Tm) (J Jx : List SmallT → World → Prop) (W : World) (hJ : AbidesFrom W.heap.size J)
    (hY : ∀ pre x W1, J pre W1 → pre.length < m → YieldAt Fence.wide (n - 1) Tryz.prog l #[.string x.1] W1 fun e W' =>
      (e = .returned (.bool true) ∧ J (pre ++ [x]) W' ∧ Below n₀ W1 W') ∨ (e = .returned (.bool false) ∧ Jx (pre ++ [x]) W'))
    (hB : W.cell? ⟨Bs, 1, none⟩ = some (.slice A m c)) (hn0 : n₀ ≤ W.heap.size) (hT : IsTerms W 0 n₀ A m c ts) (h0 : J [] W) :
    CallsIn Fence.wide n Tryz.prog 153 #[.func (.yield l) #[] #[], .pointer (some ⟨Bs, 0, none⟩)] W fun e W' => (∃ v, e = .returned v) ∧
      ((∃ ys, ys.map (·.1) = varsOf ts ∧ J ys W') ∨ (∃ pre, pre.map (·.1) <+: varsOf ts ∧ Jx pre W')) := by
  have hm : m ≤ maxLen := by have := hT.2.1; have := hT.2.2.1; omega
  unfold maxLen at hm
  have HT := Lib.hid hT; clear hT
  have HY := Lib.hid hY; clear hY
  have HJ0 := Lib.hid hJ; clear hJ
  refine callsIn_of_wp Tryz.func153 rfl trivial ?_ rfl
  simp only [Tryz.ntmps153, List.size_toArray, List.length_cons, List.length_nil, Nat.reduceAdd, Nat.reduceSub, Array.replicate_succ, Array.replicate_zero, List.push_toArray, List.append_toArray, List.nil_append, List.cons_append]
  gi_wp2
  gi_loopw [10] (fun i wr => ∃ k : Nat, k ≤ m ∧ i = .int .i64 k ∧ (∃ ps : List SmallT, ps.map (·.1) = varsOf (ts.take k) ∧ J ps wr) ∧ Below n₀ W wr) (fun i _ => m - (intOf i).toNat)
  case atStart => exact ⟨0, Nat.zero_le _, rfl, ⟨[], rfl, h0⟩, Below.refl _ _⟩
  case round =>
    obtain ⟨k, hk, rfl, ⟨ps, hps, hJs⟩, hb⟩ := hrel
    have HPS := Lib.hid hps; clear hps
    have HJ := Lib.hid hJs; clear hJs
    by_cases hlt : k < m
    · obtain ⟨p, ⟨v, s⟩, hA, hlo, hhi, hg, c1, c2, c3⟩ := (HT.out.below hb (Nat.le_refl _)).at_ hlt
      subst hA
      have HG := Lib.hid hg; clear hg
      have hwr := hb.size
      have ta1 := assert_var s
      have ta2 := assert_word s
      have ta3 := assert_not s
      cases v
      · gi_wp2_with (refine ⟨trivial, ?_⟩; gi_at_call 92; refine (callsIn_wide.2 (termWord_any _ _)).mono ?_; rintro e w1 ⟨rfl, hb1⟩; have hbx := belowThen (below1 wr (.cells #[.bool false, .string s] 110)) hb1)
        go_roundw
        case rel => exact ⟨k + 1, by omega, by go_num, ⟨ps, by rw [varsOf_no HG.out rfl]; exact HPS.out, HJ0.out _ _ _ none HJ.out (grownOf hbx (Nat.le_refl _)) (fun r e => by cases e)⟩, hb.trans (hbx.mono (by omega))⟩
        case measure => simp [intOf]; omega
      · gi_wp2_with (refine ⟨trivial, ?_⟩; gi_at_call 92; refine (callsIn_wide.2 (termVar_any _ _)).mono ?_; rintro e w1 ⟨rfl, hb1⟩; have hbx := belowThen (below1 wr (.cells #[.bool true, .string s] 110)) hb1; obtain ⟨fn, tmps, assign, body, hy, hR⟩ := HY.out ps ⟨s, c3⟩ w1 (HJ0.out _ _ _ none HJ.out (grownOf hbx (Nat.le_refl _)) (fun r e => by cases e)) (by have h1 := congrArg List.length HPS.out; rw [List.length_map] at h1; have h2 := varsOf_len ts k; omega); dsimp only at hy hR)
        refine hR.mono ?_
        rintro e W3 (⟨rfl, hJ3, hk3⟩ | ⟨rfl, hJx3⟩)
        · gi_wp2
          go_roundw
          case rel => exact ⟨k + 1, by omega, by go_num, ⟨ps ++ [⟨s, c3⟩], by rw [varsOf_yes HG.out rfl, List.map_append, HPS.out]; rfl, hJ3⟩, (hb.trans (hbx.mono (by omega))).trans hk3⟩
          case measure => simp [intOf]; omega
        · gi_wp2
          refine bodyPost_ret (results_none rfl _ _ _) rfl ?_
          exact ⟨⟨_, rfl⟩, .inr ⟨ps ++ [⟨s, c3⟩], by rw [List.map_append, HPS.out]; show varsOf (ts.take k) ++ [s] <+: _; rw [← varsOf_yes (t := (true, s)) HG.out rfl]; exact varsOf_pre _ _, hJx3⟩⟩
    · have E := Lib.hid (varsOf_all HT.out.1 hlt)
      gi_wp2
      go_end0
      exact ⟨⟨_, rfl⟩, .inl ⟨ps, by rw [HPS.out, E.out], HJ.out⟩⟩

theorem varsS_stops (n : Nat) (hn : 1 ≤ n) (Bs n₀ : Nat) (A : Option Addr) (m c : Nat) (ts : List Tm) (w : World) (hBs : Bs < w.heap.size) (hn0 : n₀ ≤ w.heap.size) (hB : w.cell? ⟨Bs, 1, none⟩ = some (.slice A m c)) (hT : IsTerms w 0 n₀ A m c ts) :
    SeqStopsK Fence.wide n Tryz.prog 153 #[.pointer (some ⟨Bs, 0, none⟩)] (fun x : SmallT => #[Value.string x.1]) (Below n₀) (fun ys => ys.map (·.1) = varsOf ts) (fun pre => pre.map (·.1) <+: varsOf ts) m w := fun l J Jx W hW hJ _ hY h0 =>
  vars1S_in n hn l Bs n₀ A m c ts J Jx W hJ hY ((hW.cell (p := ⟨Bs, 1, none⟩) hBs).trans hB) (Nat.le_trans hn0 hW.size) (hT.below hW hn0) h0

end Go.Proofs.YtogonjkklioaaaaGreatDoor


namespace Go.Proofs.YtogonjkklioaaaaGreatDoor
open Go

theorem takeV {P : Program} {ops : Array Oper} {Q : Exit → Act → World → Prop} {md : Region.Mode} {S : World → Prop} {i d : Nat} {oi : Oper} {v : Value} {fuel : Nat} {listed : Array Bool} {a : Act} {w : World} {tm : Array Value}
    (hi : ops[i]? = some oi) (hs : Region.noSelect ops = true) (hf : Region.free md ops listed i = true) (hr : (Region.ready md ops listed).contains i = true) (hd : oi.dst = some d)
    (hQ : ∀ c a w, Q (.panic c) (a.put (some d) v) w → Q (.panic c) a w) (hy : YieldsIf P ops S oi v a) (hS : S w) (hput : a.tmps.setIfInBounds d v = tm)
    (h : wpAnyH P md ops Q S fuel (listed.setIfInBounds i true) { tmps := tm, defers := a.defers } w) : wpAnyH P md ops Q S (fuel + 1) listed a w := by
  refine wpAnyH_take hi hs hf hr ?_ hy hS ?_
  · rw [hd]; exact hQ
  · rw [hd]
    subst hput
    exact h

end Go.Proofs.YtogonjkklioaaaaGreatDoor
