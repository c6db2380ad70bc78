/-
  Texts of one claim, put together.
-/
import Derived.Test.YtcigljngiemdeaaGreatAo0
import Derived.Test.YtcigljngiemdeaaGreatAo1
import Derived.RangeFuncNested
import Derived.RangeFuncBound
import Derived.RangeFuncCalls
import Derived.RangeFuncLeaves
import Derived.RangeFuncFrom
import Derived.Shelf.Abstract
import Derived.Shelf.RegionOpen
import Derived.WalkKit
import Derived.OwnWalkIn
import Derived.TacticsInMore
import Derived.LoopNIn
import Derived.LoopIn
import Derived.Deep.RegionHeld3
import Derived.Deep.Slices
import Derived.RangeFuncBox
set_option maxRecDepth 100000
set_option maxHeartbeats 8000000
namespace Go.Proofs.YtcigljngiemdeaaGreat
open Go.RowKit
theorem bytes_anti : ∀ a b : List UInt8, Lib.compareBytes b a = -Lib.compareBytes a b
  | [], [] => rfl
  | [], _ :: _ => rfl
  | _ :: _, [] => rfl
  | a :: l, b :: m => by
    unfold Lib.compareBytes; by_cases h : a < b
    · have h' : ¬ b < a := fun k => absurd (UInt8.lt_trans h k) (UInt8.lt_irrefl _)
      simp [h, h']
    · by_cases h' : b < a
      · simp [h, h']
      · simp only [h, h', if_false]; exact bytes_anti l m
theorem bytes_same {a b : List UInt8} (h : Lib.compareBytes a b = 0) : a = b := by
  have := (less_cmp a b).2; rw [h] at this; simpa using this
theorem bytes_self (a : List UInt8) : Lib.compareBytes a a = 0 := by
  have := (less_cmp a a).2; simpa using this
theorem bytes_on : ∀ a b c : List UInt8, Lib.compareBytes a b ≤ 0 → Lib.compareBytes b c ≤ 0 → Lib.compareBytes a c ≤ 0
  | [], _, [], _, _ => Int.le_refl _
  | [], _, _ :: _, _, _ => by simp [Lib.compareBytes]
  | _ :: _, [], _, h, _ => by simp [Lib.compareBytes] at h
  | _ :: _, _ :: _, [], _, h => by simp [Lib.compareBytes] at h
  | a :: l, b :: m, c :: r, h, h' => by
    unfold Lib.compareBytes at h h' ⊢; by_cases h1 : a < b
    · by_cases h2 : b < c
      · simp [UInt8.lt_trans h1 h2]
      · by_cases h3 : c < b
        · simp [h2, h3] at h'
        · have : b = c := UInt8.le_antisymm (UInt8.not_lt.1 h3) (UInt8.not_lt.1 h2)
          subst this; simp [h1]
    · by_cases h3 : b < a
      · simp [h1, h3] at h
      · have : a = b := UInt8.le_antisymm (UInt8.not_lt.1 h3) (UInt8.not_lt.1 h1)
        subst this; by_cases h2 : a < c
        · simp [h2]
        · by_cases h4 : c < a
          · simp [h2, h4] at h'
          · simp only [h1, h2, h4, if_false] at h h' ⊢
            exact bytes_on l m r h h'
theorem bytesEq {a b : ByteArray} (h : a.data.toList = b.data.toList) : a = b := by
  cases a; cases b; simp only [ByteArray.mk.injEq]; exact Array.toList_inj.1 h
theorem text_anti (a b : ByteArray) : textCmp b a = -textCmp a b := bytes_anti _ _
theorem text_same {a b : ByteArray} (h : textCmp a b = 0) : a = b := bytesEq (bytes_same h)
theorem text_on {a b c : ByteArray} (h : textCmp a b ≤ 0) (h' : textCmp b c ≤ 0) : textCmp a c ≤ 0 := bytes_on _ _ _ h h'
theorem text_strict {a b c : ByteArray} (h : textCmp a b ≤ 0) (h' : textCmp b c ≤ 0) (hs : textCmp a b ≠ 0 ∨ textCmp b c ≠ 0) : textCmp a c ≠ 0 := by
  intro he; have hac := text_same he; subst hac; have := text_anti a b; omega
theorem args_anti : ∀ a b : List Tm, argsCmp b a = -argsCmp a b
  | [], [] => rfl
  | [], _ :: _ => rfl
  | _ :: _, [] => rfl
  | x :: l, y :: m => by
    have := text_anti x.2 y.2; show (if textCmp y.2 x.2 = 0 then argsCmp m l else textCmp y.2 x.2) = -(if textCmp x.2 y.2 = 0 then argsCmp l m else textCmp x.2 y.2); by_cases h : textCmp x.2 y.2 = 0
    · rw [if_pos h, if_pos qaa]; exact args_anti l m
    · rw [if_neg h, if_neg qaa]; exact this
theorem args_on : ∀ a b c : List Tm, argsCmp a b ≤ 0 → argsCmp b c ≤ 0 → argsCmp a c ≤ 0
  | [], _, [], _, _ => Int.le_refl _
  | [], _, _ :: _, _, _ => by simp [argsCmp]
  | _ :: _, [], _, h, _ => by simp [argsCmp] at h
  | _ :: _, _ :: _, [], _, h => by simp [argsCmp] at h
  | x :: l, y :: m, z :: r, h, h' => by
    have h0 : (if textCmp x.2 y.2 = 0 then argsCmp l m else textCmp x.2 y.2) ≤ 0 := h; have h1 : (if textCmp y.2 z.2 = 0 then argsCmp m r else textCmp y.2 z.2) ≤ 0 := h'; show (if textCmp x.2 z.2 = 0 then argsCmp l r else textCmp x.2 z.2) ≤ 0; by_cases e : textCmp x.2 y.2 = 0
    · rw [if_pos e] at h0
      have exy := text_same e; rw [exy]; by_cases e' : textCmp y.2 z.2 = 0
      · rw [if_pos e'] at h1 ⊢
        exact args_on l m r h0 h1
      · rw [if_neg e'] at h1 ⊢
        exact h1
    · rw [if_neg e] at h0
      have h2 : textCmp y.2 z.2 ≤ 0 := by
        by_cases e' : textCmp y.2 z.2 = 0
        · omega
        · rw [if_neg e'] at h1; exact h1
      rw [if_neg (text_strict h0 h2 (.inl e))]; exact text_on h0 h2
theorem atom_args (a b : At) : atomCmp a b = argsCmp ((false, a.1) :: a.2) ((false, b.1) :: b.2) := rfl
theorem atomCmp_anti (a b : At) : atomCmp b a = -atomCmp a b := by rw [atom_args, atom_args]; exact args_anti _ _
theorem atomCmp_on {a b c : At} (h : atomCmp a b ≤ 0) (h' : atomCmp b c ≤ 0) : atomCmp a c ≤ 0 := by
  rw [atom_args] at *; exact args_on _ _ _ h h'
end Go.Proofs.YtcigljngiemdeaaGreat

namespace Go.Proofs.YtcigljngiemdeaaGreat
theorem atomCmp_strict {a b c : At} (h : atomCmp a b < 0) (h' : atomCmp b c ≤ 0) : atomCmp a c < 0 := by
  have h1 : atomCmp a c ≤ 0 := atomCmp_on (Int.le_of_lt h) h'; by_cases e : atomCmp a c = 0
  · have h2 := atomCmp_anti a c
    have h3 := atomCmp_on (a := b) (b := c) (c := a) h' qaa; have h4 := atomCmp_anti a b; omega
  · omega
def hasB (xs : List At) (a : At) : Bool := xs.any fun x => decide (atomCmp x a = 0)
theorem rises_head : ∀ {x : At} {l : List At}, risesB (x :: l) = true → ∀ y ∈ l, atomCmp x y < 0
  | x, [], _, y, hy => by simp at hy
  | x, z :: l, h, y, hy => by
    have h' : (decide (atomCmp x z < 0) && risesB (z :: l)) = true := h; rw [Bool.and_eq_true, decide_eq_true_eq] at h'; rcases List.mem_cons.1 hy with rfl | hy
    · exact h'.1
    · have := rises_head h'.2 y hy
      exact atomCmp_strict h'.1 qaa
theorem rises_tail {x : At} {l : List At} (h : risesB (x :: l) = true) : risesB l = true := by
  cases l with
  | nil => rfl
  | cons z l =>
    have h' : (decide (atomCmp x z < 0) && risesB (z :: l)) = true := h; rw [Bool.and_eq_true] at h'; exact h'.2
theorem rises_pair : ∀ {xs : List At}, risesB xs = true → ∀ (i j : Nat) (x y : At), i < j → xs[i]? = some x → xs[j]? = some y → atomCmp x y < 0
  | [], _, i, j, x, y, _, h, _ => by simp at h
  | z :: l, h, 0, j + 1, x, y, _, hx, hy => by
    simp at hx hy; subst hx
    exact rises_head h y (List.mem_of_getElem? hy)
  | z :: l, h, i + 1, j + 1, x, y, hij, hx, hy => rises_pair (rises_tail h) i j x y qaa (by simpa using hx) (by simpa using hy)
  | z :: l, h, i, 0, x, y, hij, _, _ => absurd hij qaa
theorem hasB_at {xs : List At} {a x : At} {k : Nat} (h : risesB xs = true) (hlow : ∀ j y, j < k → xs[j]? = some y → atomCmp y a < 0) (hx : xs[k]? = some x) (hk : 0 ≤ atomCmp x a) : hasB xs a = decide (atomCmp x a = 0) := by
  by_cases e : atomCmp x a = 0
  · rw [decide_eq_true e]
    unfold hasB; rw [List.any_eq_true]; exact ⟨x, List.mem_of_getElem? hx, by simp [e]⟩
  · rw [decide_eq_false e]
    unfold hasB; rw [List.any_eq_false]; intro y hy; obtain ⟨j, hj⟩ := List.getElem?_of_mem hy; simp only [decide_eq_true_eq]; intro e'; rcases Nat.lt_trichotomy j k with hlt | rfl | hgt
    · have := hlow j y hlt hj; omega
    · rw [hx] at hj; injection hj with hj; subst hj; exact e e'
    · have h1 := rises_pair h k j x y hgt hx hj
      have h2 := atomCmp_strict h1 (show atomCmp y a ≤ 0 by omega); omega
theorem hasB_end {xs : List At} {a : At} {k n : Nat} (hl : xs.length = n) (hlow : ∀ j y, j < k → xs[j]? = some y → atomCmp y a < 0) (hk : ¬ k < n) : hasB xs a = false := by
  unfold hasB; rw [List.any_eq_false]; intro y hy; obtain ⟨j, hj⟩ := List.getElem?_of_mem hy; have := hlow j y (by have := (List.getElem?_eq_some_iff.1 hj).1; omega) hj; simp only [decide_eq_true_eq]; omega
theorem low_snoc {xs : List At} {a x : At} {k : Nat} (hlow : ∀ j y, j < k → xs[j]? = some y → atomCmp y a < 0) (hx : xs[k]? = some x) (h : atomCmp x a < 0) : ∀ j y, j < k + 1 → xs[j]? = some y → atomCmp y a < 0 := by
  intro j y hj hy; by_cases e : j = k
  · subst e; rw [hx] at hy; injection hy with hy; subst hy; exact h
  · exact hlow j y qaa hy
end Go.Proofs.YtcigljngiemdeaaGreat

namespace Go.Proofs.YtcigljngiemdeaaGreat
open Go.RowKit Go.Shelf
attribute [local go_sem] Oper.semAt_some
def varsOf (ts : List Tm) : List ByteArray := (ts.filter (·.1)).map (·.2)
theorem varsOf_no {ts : List Tm} {k : Nat} {t : Tm} (h : ts[k]? = some t) (ht : t.1 = false) : varsOf (ts.take (k + 1)) = varsOf (ts.take k) := by
  obtain ⟨h1, h2⟩ := List.getElem?_eq_some_iff.1 h; unfold varsOf; rw [List.take_succ_eq_append_getElem h1, List.filter_append, h2]; simp [ht]
theorem varsOf_yes {ts : List Tm} {k : Nat} {t : Tm} (h : ts[k]? = some t) (ht : t.1 = true) : varsOf (ts.take (k + 1)) = varsOf (ts.take k) ++ [t.2] := by
  obtain ⟨h1, h2⟩ := List.getElem?_eq_some_iff.1 h; unfold varsOf; rw [List.take_succ_eq_append_getElem h1, List.filter_append, h2]; simp [ht]
theorem varsOf_pre (ts : List Tm) (k : Nat) : varsOf (ts.take k) <+: varsOf ts := by
  conv => rhs; rw [← List.take_append_drop k ts]
  unfold varsOf; rw [List.filter_append, List.map_append]; exact List.prefix_append _ _
theorem varsOf_len (ts : List Tm) (k : Nat) : (varsOf (ts.take k)).length ≤ k := by
  unfold varsOf; rw [List.length_map]; exact Nat.le_trans (List.length_filter_le _ _) qcn
theorem varsOf_none {ts : List Tm} : wordsB ts = true ↔ varsOf ts = [] := by
  unfold wordsB varsOf; rw [List.map_eq_nil_iff, List.filter_eq_nil_iff, List.all_eq_true]; exact ⟨fun h t ht => by have := h t ht; simpa using this, fun h t ht => by have := h t ht; simpa using this⟩
theorem varsOf_all {ts : List Tm} {k n : Nat} (h : ts.length = n) (hk : ¬ k < n) : varsOf (ts.take k) = varsOf ts := by
  rw [List.take_of_length_le qaa]
theorem assert_var (s : ByteArray) (W : World) : (Instr.typeAssert (.iface 217 (.string s)) 215 217 true).run Tryz.prog W = .ok (.tuple #[.string s, .bool true]) W := by kernel_rfl
theorem assert_word (s : ByteArray) (W : World) : (Instr.typeAssert (.iface 218 (.string s)) 215 218 true).run Tryz.prog W = .ok (.tuple #[.string s, .bool true]) W := by kernel_rfl
theorem assert_not (s : ByteArray) (W : World) : (Instr.typeAssert (.iface 218 (.string s)) 215 217 true).run Tryz.prog W = .ok (.tuple #[.string ⟨#[]⟩, .bool false]) W := by kernel_rfl
theorem grownOf {B : Nat} {a b : World} (h : Below B a b) (hB : a.heap.size ≤ B) : a.grownBy b none := ⟨h.os, h.tape, h.output, h.size, fun i hi _ => h.block i (Nat.lt_of_lt_of_le hi hB)⟩
theorem vars1_in (n : Nat) (hn : 1 ≤ n) (l Bs n₀ : Nat) (A : Option Addr) (m c : Nat) (ts : List Tm) (J Jx : List ByteArray → World → Prop) (W : World) (hJ : AbidesFrom W.heap.size J)
    (hY : ∀ pre x W1, J pre W1 → pre.length < m → YieldAt Fence.wide (n - 1) Tryz.prog l #[.string x] W1 fun e W' =>
      (e = .returned (.bool true) ∧ J (pre ++ [x]) W' ∧ Below n₀ W1 W') ∨ (e = .returned (.bool false) ∧ Jx (pre ++ [x]) W'))
    (hB : W.cell? ⟨Bs, 1, none⟩ = some (.slice A m c)) (hn0 : n₀ ≤ W.heap.size) (hT : IsTerms W 0 n₀ A m c ts) (h0 : J [] W) :
    CallsIn Fence.wide n Tryz.prog 160 #[.func (.yield l) #[] #[], .pointer (some ⟨Bs, 0, none⟩)] W fun e W' => (∃ v, e = .returned v) ∧
      ((∃ ys, ys = varsOf ts ∧ J ys W') ∨ (∃ pre, pre <+: varsOf ts ∧ Jx pre W')) := by
  have hm : m ≤ maxLen := qea; unfold maxLen at hm; have HT := hid hT; clear hT; have HY := hid hY; clear hY; have HJ0 := hid hJ; clear hJ; refine callsIn_of_wp Tryz.func160 rfl trivial ?_ rfl; simp only [Tryz.ntmps160, List.size_toArray, List.length_cons, List.length_nil, Nat.reduceAdd, Nat.reduceSub, Array.replicate_succ, Array.replicate_zero, List.push_toArray, List.append_toArray, List.nil_append, List.cons_append]; gi_wp2; gi_loopw [10] (fun i wr => ∃ k : Nat, k ≤ m ∧ i = .int .i64 k ∧ J (varsOf (ts.take k)) wr ∧ Below n₀ W wr) (fun i _ => m - (intOf i).toNat)
  case atStart => exact ⟨0, Nat.zero_le _, rfl, h0, Below.refl _ _⟩
  case round =>
    obtain ⟨k, hk, rfl, hJs, hb⟩ := hrel; have HJ := hid hJs; clear hJs; by_cases hlt : k < m
    · obtain ⟨p, ⟨v, s⟩, hA, hlo, hhi, hg, c1, c2, c3⟩ := (HT.out.below hb (nl _)).at_ hlt
      subst hA; have HG := hid hg; clear hg; have hwr := hb.size; have ta1 := assert_var s; have ta2 := assert_word s; have ta3 := assert_not s; cases v
      · gi_wp2_with (refine ⟨trivial, ?_⟩; gi_at_call 161; refine (callsIn_wide.2 (termWord_any _ _)).mono ?_; rintro e w1 ⟨rfl, hb1⟩; have hbx := belowThen (below1 wr (.cells #[.bool false, .string s] 59)) hb1)
        go_roundw
        case rel => exact ⟨k + 1, by omega, by go_num, by rw [varsOf_no HG.out rfl]; exact HJ0.out _ _ _ none HJ.out (grownOf hbx (nl _)) qdz, hb.trans (hbx.mono qaa)⟩
        case measure => exact qms
      · gi_wp2_with (refine ⟨trivial, ?_⟩; gi_at_call 161; refine (callsIn_wide.2 (termVar_any _ _)).mono ?_; rintro e w1 ⟨rfl, hb1⟩; have hbx := belowThen (below1 wr (.cells #[.bool true, .string s] 59)) hb1; obtain ⟨fn, tmps, assign, body, hy, hR⟩ := HY.out _ s w1 (HJ0.out _ _ _ none HJ.out (grownOf hbx (nl _)) qdz) (Nat.lt_of_le_of_lt (varsOf_len _ _) hlt))
        refine hR.mono ?_; rintro e W3 (⟨rfl, hJ3, hk3⟩ | ⟨rfl, hJx3⟩)
        · gi_wp2
          go_roundw
          case rel => exact ⟨k + 1, by omega, by go_num, by rw [varsOf_yes HG.out rfl]; exact hJ3, (hb.trans (hbx.mono qaa)).trans hk3⟩
          case measure => exact qms
        · gi_wp2
          refine bodyPost_ret (results_none rfl _ _ _) rfl ?_; exact ⟨⟨_, rfl⟩, .inr ⟨_, by rw [← varsOf_yes (t := (true, s)) HG.out rfl]; exact varsOf_pre _ _, hJx3⟩⟩
    · have E := hid (varsOf_all HT.out.1 hlt)
      gi_wp2; go_end0; exact ⟨⟨_, rfl⟩, .inl ⟨_, rfl, by rw [← E.out]; exact HJ.out⟩⟩
theorem vars_stops (n : Nat) (hn : 1 ≤ n) (Bs n₀ : Nat) (A : Option Addr) (m c : Nat) (ts : List Tm) (w : World) (hBs : Bs < w.heap.size) (hn0 : n₀ ≤ w.heap.size) (hB : w.cell? ⟨Bs, 1, none⟩ = some (.slice A m c)) (hT : IsTerms w 0 n₀ A m c ts) :
    SeqStopsK Fence.wide n Tryz.prog 160 #[.pointer (some ⟨Bs, 0, none⟩)] (fun x : ByteArray => #[Value.string x]) (Below n₀) (fun ys => ys = varsOf ts) (fun pre => pre <+: varsOf ts) m w := fun l J Jx W hW hJ _ hY h0 =>
  vars1_in n hn l Bs n₀ A m c ts J Jx W hJ hY ((hW.cell (p := ⟨Bs, 1, none⟩) hBs).trans hB) (Nat.le_trans hn0 hW.size) (hT.below hW hn0) h0
theorem variablesOf_any (nm : ByteArray) (A : Option Addr) (n c : Nat) (w : World) :
    Calls Tryz.prog 117 #[.agg #[.string nm, .slice A n c]] w fun e w' => e = .returned (.func (.func 160) #[] #[.pointer (some ⟨w.heap.size, 0, none⟩)]) ∧ w' = w.alloc (.cells #[.string nm, .slice A n c] 49) := by
  go_enter Tryz.func117, Tryz.ntmps117; go_wp2; go_ret; exact ⟨rfl, rfl⟩
end Go.Proofs.YtcigljngiemdeaaGreat
namespace Go.Proofs.YtcigljngiemdeaaGreat
open Go.RowKit Go.Shelf
attribute [local go_sem] Oper.semAt_some
abbrev SmallT := { x : ByteArray // x.size ≤ maxLen }
theorem vars1S_in (n : Nat) (hn : 1 ≤ n) (l Bs n₀ : Nat) (A : Option Addr) (m c : Nat) (ts : List Tm) (J Jx : List SmallT → World → Prop) (W : World) (hJ : AbidesFrom W.heap.size J)
    (hY : ∀ pre x W1, J pre W1 → pre.length < m → YieldAt Fence.wide (n - 1) Tryz.prog l #[.string x.1] W1 fun e W' =>
      (e = .returned (.bool true) ∧ J (pre ++ [x]) W' ∧ Below n₀ W1 W') ∨ (e = .returned (.bool false) ∧ Jx (pre ++ [x]) W'))
    (hB : W.cell? ⟨Bs, 1, none⟩ = some (.slice A m c)) (hn0 : n₀ ≤ W.heap.size) (hT : IsTerms W 0 n₀ A m c ts) (h0 : J [] W) :
    CallsIn Fence.wide n Tryz.prog 160 #[.func (.yield l) #[] #[], .pointer (some ⟨Bs, 0, none⟩)] W fun e W' => (∃ v, e = .returned v) ∧
      ((∃ ys, ys.map (·.1) = varsOf ts ∧ J ys W') ∨ (∃ pre, pre.map (·.1) <+: varsOf ts ∧ Jx pre W')) := by
  have hm : m ≤ maxLen := qea; unfold maxLen at hm; have HT := hid hT; clear hT; have HY := hid hY; clear hY; have HJ0 := hid hJ; clear hJ; refine callsIn_of_wp Tryz.func160 rfl trivial ?_ rfl; simp only [Tryz.ntmps160, List.size_toArray, List.length_cons, List.length_nil, Nat.reduceAdd, Nat.reduceSub, Array.replicate_succ, Array.replicate_zero, List.push_toArray, List.append_toArray, List.nil_append, List.cons_append]; gi_wp2; gi_loopw [10] (fun i wr => ∃ k : Nat, k ≤ m ∧ i = .int .i64 k ∧ (∃ ps : List SmallT, ps.map (·.1) = varsOf (ts.take k) ∧ J ps wr) ∧ Below n₀ W wr) (fun i _ => m - (intOf i).toNat)
  case atStart => exact ⟨0, Nat.zero_le _, rfl, ⟨[], rfl, h0⟩, Below.refl _ _⟩
  case round =>
    obtain ⟨k, hk, rfl, ⟨ps, hps, hJs⟩, hb⟩ := hrel; have HPS := hid hps; clear hps; have HJ := hid hJs; clear hJs; by_cases hlt : k < m
    · obtain ⟨p, ⟨v, s⟩, hA, hlo, hhi, hg, c1, c2, c3⟩ := (HT.out.below hb (nl _)).at_ hlt
      subst hA; have HG := hid hg; clear hg; have hwr := hb.size; have ta1 := assert_var s; have ta2 := assert_word s; have ta3 := assert_not s; cases v
      · gi_wp2_with (refine ⟨trivial, ?_⟩; gi_at_call 161; refine (callsIn_wide.2 (termWord_any _ _)).mono ?_; rintro e w1 ⟨rfl, hb1⟩; have hbx := belowThen (below1 wr (.cells #[.bool false, .string s] 59)) hb1)
        go_roundw
        case rel => exact ⟨k + 1, by omega, by go_num, ⟨ps, by rw [varsOf_no HG.out rfl]; exact HPS.out, HJ0.out _ _ _ none HJ.out (grownOf hbx (nl _)) qdz⟩, hb.trans (hbx.mono qaa)⟩
        case measure => exact qms
      · gi_wp2_with (refine ⟨trivial, ?_⟩; gi_at_call 161; refine (callsIn_wide.2 (termVar_any _ _)).mono ?_; rintro e w1 ⟨rfl, hb1⟩; have hbx := belowThen (below1 wr (.cells #[.bool true, .string s] 59)) hb1; obtain ⟨fn, tmps, assign, body, hy, hR⟩ := HY.out ps ⟨s, c3⟩ w1 (HJ0.out _ _ _ none HJ.out (grownOf hbx (nl _)) qdz) (by have h1 := congrArg List.length HPS.out; rw [List.length_map] at h1; have h2 := varsOf_len ts k; omega); dsimp only at hy hR)
        refine hR.mono ?_; rintro e W3 (⟨rfl, hJ3, hk3⟩ | ⟨rfl, hJx3⟩)
        · gi_wp2
          go_roundw
          case rel => exact ⟨k + 1, by omega, by go_num, ⟨ps ++ [⟨s, c3⟩], by rw [varsOf_yes HG.out rfl, List.map_append, HPS.out]; rfl, hJ3⟩, (hb.trans (hbx.mono qaa)).trans hk3⟩
          case measure => exact qms
        · gi_wp2
          refine bodyPost_ret (results_none rfl _ _ _) rfl ?_; exact ⟨⟨_, rfl⟩, .inr ⟨ps ++ [⟨s, c3⟩], by rw [List.map_append, HPS.out]; show varsOf (ts.take k) ++ [s] <+: _; rw [← varsOf_yes (t := (true, s)) HG.out rfl]; exact varsOf_pre _ _, hJx3⟩⟩
    · have E := hid (varsOf_all HT.out.1 hlt)
      gi_wp2; go_end0; exact ⟨⟨_, rfl⟩, .inl ⟨ps, by rw [HPS.out, E.out], HJ.out⟩⟩
theorem varsS_stops (n : Nat) (hn : 1 ≤ n) (Bs n₀ : Nat) (A : Option Addr) (m c : Nat) (ts : List Tm) (w : World) (hBs : Bs < w.heap.size) (hn0 : n₀ ≤ w.heap.size) (hB : w.cell? ⟨Bs, 1, none⟩ = some (.slice A m c)) (hT : IsTerms w 0 n₀ A m c ts) :
    SeqStopsK Fence.wide n Tryz.prog 160 #[.pointer (some ⟨Bs, 0, none⟩)] (fun x : SmallT => #[Value.string x.1]) (Below n₀) (fun ys => ys.map (·.1) = varsOf ts) (fun pre => pre.map (·.1) <+: varsOf ts) m w := fun l J Jx W hW hJ _ hY h0 =>
  vars1S_in n hn l Bs n₀ A m c ts J Jx W hJ hY ((hW.cell (p := ⟨Bs, 1, none⟩) hBs).trans hB) (Nat.le_trans hn0 hW.size) (hT.below hW hn0) h0
end Go.Proofs.YtcigljngiemdeaaGreat

namespace Go.Proofs.YtcigljngiemdeaaGreat
open Go.RowKit Go.Shelf
attribute [local go_sem] Oper.semAt_some
theorem factB_not {nm : ByteArray} {ts : List Tm} (h : (!atomB (nm, ts)) = true) : factB (nm, ts) = false := by
  unfold factB; rw [show atomB (nm, ts) = false by simpa using h, Bool.and_false]
theorem factB_vars {nm : ByteArray} {ts : List Tm} (h : (!atomB (nm, ts)) = false) (hv : varsOf ts = []) : factB (nm, ts) = true := by
  unfold factB; rw [show atomB (nm, ts) = true by simpa using h, varsOf_none.2 hv]; rfl
theorem factB_some {nm : ByteArray} {ts : List Tm} (hv : varsOf ts ≠ []) : factB (nm, ts) = false := by
  unfold factB; cases h : wordsB ts
  · rfl
  · exact absurd (varsOf_none.1 h) hv
theorem factOk_any (nm : ByteArray) (A : Option Addr) (n c : Nat) (ts : List Tm) (w : World) (hs : nm.size ≤ maxLen) (h : IsTerms w 0 w.heap.size A n c ts) :
    Calls Tryz.prog 75 #[.agg #[.string nm, .slice A n c]] w (BoolPost (factB (nm, ts)) w) := by
  have H := hid h; clear h; have hw0 := below2 w (.cells #[.string nm, .slice A n c] 49) (.cells #[.bool false] 4); refine (callsIn_wide (n := 5)).1 ?_; refine callsIn_of_wp_marks Tryz.func75 rfl trivial ?_ rfl; simp only [Tryz.ntmps75, List.size_toArray, List.length_cons, List.length_nil, Nat.reduceAdd, Nat.reduceSub, Array.replicate_succ, Array.replicate_zero, List.push_toArray, List.append_toArray, List.nil_append, List.cons_append]; gi_wp2_with (refine ⟨trivial, ?_⟩; gi_at_call 119; refine (callsIn_wide.2 (implAtomOk_any nm A n c ts _ hs (H.out.up hw0))).mono ?_; rintro e w1 ⟨rfl, hb1⟩; have HB1 := belowThen hw0 hb1; obtain ⟨hc, hf⟩ := oldCells hb1; have hz1 : w.heap.size + 1 < w1.heap.size := (by have := hb1.size; simp at this; omega); have hz0 : w.heap.size < w1.heap.size := qaa)
  · have hd : (!atomB (nm, ts)) = true := qaz
    have c1 : w1.cell? ⟨w.heap.size + 1, 0, none⟩ = some (.bool false) := by rw [hc _ _ qad]; simp [go_sem]
    exact ⟨.bool false, by simp [results, Tryz.f75, go_sem, c1], by rw [factB_not hd], HB1.setCell qad _⟩
  · have hd : (!atomB (nm, ts)) = false := qaz
    have HD := hid hd; refine ⟨trivial, (callsIn_wide.2 (variablesOf_any nm A n c w1)).mono ?_⟩; rintro e w' ⟨rfl, rfl⟩; have c1 : w1.cell? ⟨w.heap.size + 1, 0, none⟩ = some (.bool false) := by rw [hc _ _ qad]; simp [go_sem]
    have f1 : w1.frozen? ⟨w.heap.size + 1, 0, none⟩ = false := by rw [hf _ _ qad]; simp [go_sem]
    have hw2 := below1 w1 (.cells #[.string nm, .slice A n c] 49); have HB2 := belowThen HB1 hw2; have c2 := (hw2.cell (p := ⟨w.heap.size + 1, 0, none⟩) hz1).trans c1; have f2 := (hw2.frozen (p := ⟨w.heap.size + 1, 0, none⟩) hz1).trans f1; have b2 : (w1.alloc (.cells #[.string nm, .slice A n c] 49)).cell? ⟨w1.heap.size, 1, none⟩ = some (.slice A n c) := by simp [go_sem]
    have T2 : IsTerms (w1.alloc (.cells #[.string nm, .slice A n c] 49)) 0 w.heap.size A n c ts := H.out.below HB2 (nl _); have hs2 : w.heap.size ≤ (w1.alloc (.cells #[.string nm, .slice A n c] 49)).heap.size := HB2.size; have hl2 : w1.heap.size < (w1.alloc (.cells #[.string nm, .slice A n c] 49)).heap.size := qad; gi_wp2
    refine wpIn_rangeFunc_ownF rfl qaa (gf := 160) (lb := #[.pointer (some ⟨w1.heap.size, 0, none⟩)]) rfl trivial (enters_of Tryz.func160 qae rfl)
      (vars_stops (5 - 1) qaa w1.heap.size w.heap.size A n c ts _ hl2 hs2 b2 T2) belowK_t (belowK_b hs2) (Below.refl _ _) (fun _ => rfl)
      (fun pre W => (pre = [] ∧ W.cell? ⟨w.heap.size + 1, 0, none⟩ = some (.bool false) ∧ W.frozen? ⟨w.heap.size + 1, 0, none⟩ = false) ∧ Below w.heap.size w W)
      (fun c pre W => (c = .ret ∧ pre ≠ [] ∧ W.cell? ⟨w.heap.size + 1, 0, none⟩ = some (.bool false)) ∧ Below w.heap.size w W)
      (OwnFrom.and (Own.from (fun s A B row hs hg hr => ⟨hs.1, cell_kept hs.2.1 hg hr, (frozen_kept hs.2.1 hg hr).trans hs.2.2⟩) _) (ownFrom_below (nl _) hs2))
      (fun c => OwnFrom.and (Own.from (fun s A B row hs hg hr => ⟨hs.1, hs.2.1, cell_kept hs.2.2 hg hr⟩) _) (ownFrom_below (nl _) hs2))
      ⟨⟨rfl, c2, f2⟩, HB2⟩
      (fun x => { tmps := #[.agg #[.string nm, .slice A n c], .pointer (some ⟨w.heap.size, 0, none⟩), .pointer (some ⟨w.heap.size + 1, 0, none⟩), .agg #[.string nm, .slice A n c], .bool (atomB (nm, ts)), .bool false, .agg #[.string nm, .slice A n c], .func (.func 160) #[] #[.pointer (some ⟨w1.heap.size, 0, none⟩)], .string x], defers := [] }) ?assign ?body ?done ?stop
    case assign =>
      intro l x W K hK; gi_wp2; simpa using hK
    case body =>
      rintro l pre x W ⟨⟨_, hcr, hfr⟩, hB⟩ _; gi_wp2; exact ⟨KeepsOthers.setCell _ _ _, ⟨rfl, by simp, World.cell?_setCell_same' _ _ _ (by rw [hcr]; rfl)⟩, hB.setCell (p := ⟨w.heap.size + 1, 0, none⟩) qad _⟩
    case done =>
      rintro D ys W hD rfl ⟨⟨hne, hcr, hfr⟩, hB⟩ hK; gi_wp2; have hK' := (KeepsOthers.setCell W ⟨w.heap.size + 1, 0, none⟩ (.bool true)).same D _ hK rfl; refine ⟨by simp, .inl ⟨_, _, rfl, run_takeDeferred hK', ?_⟩⟩; have hc5 := cell_kept (World.cell?_setCell_same' W ⟨w.heap.size + 1, 0, none⟩ (.bool true) (by rw [hcr]; rfl)) (grownBy_putObj' _ D (.deferred none)) (fun r e => by cases e; exact ⟨_, hK', rfl⟩); refine ⟨.bool true, ?_, by rw [factB_vars HD.out hne], (hB.setCell (p := ⟨w.heap.size + 1, 0, none⟩) qad _).trans (belowK_b (w := w) (nl _) _ D _ _ qaa hK' rfl rfl)⟩; simp [results, Tryz.f75, go_sem, hc5]
    case stop =>
      rintro D c pre W hD hpre ⟨⟨rfl, hne, hcr⟩, hB⟩ hK; gi_wp2; refine ⟨by simp, .inl ⟨_, _, rfl, run_takeDeferred hK, ?_⟩⟩; have hc5 := cell_kept hcr (grownBy_putObj' _ D (.deferred none)) (fun r e => by cases e; exact ⟨_, hK, rfl⟩); refine ⟨.bool false, ?_, by rw [factB_some (fun e => by rw [e] at hpre; exact hne (List.prefix_nil.1 hpre))], hB.trans (belowK_b (w := w) (nl _) W D _ _ qaa hK rfl rfl)⟩; simp [results, Tryz.f75, go_sem, hc5]
theorem run_store_func {P : Program} {w : World} {a : Addr} {m : Mode} (f : Fn) (c l : Array Value) : (store a (.func f c l) m).run P w = stored P w a (.func f c l) m := run_store P w a _ m rfl
attribute [local go_sem] run_store_func
def listV (A : Option Addr) (n c : Nat) : Value := .agg #[.slice A n c, .func (.func 120) #[] #[]]
theorem factList_any (A : Option Addr) (n c : Nat) (w : World) :
    Calls Tryz.prog 76 #[.slice A n c] w fun e w' => e = .returned (listV A n c) ∧ Below w.heap.size w w' := by
  go_enter Tryz.func76, Tryz.ntmps76; go_wp2; exact bodyPost_ret (v := listV A n c) (by simp [results, Tryz.results76, go_sem, listV]) rfl ⟨rfl, below1 w _⟩
theorem isSorted_any (A : Option Addr) (n c : Nat) (xs : List At) (w : World) (h : IsAtoms w 0 w.heap.size A n c xs) :
    Calls Tryz.prog 88 #[listV A n c] w (BoolPost (risesB xs) w) := by
  have hn := h.len; unfold maxLen at hn; have L := hid h.1; have H := hid h; clear h; unfold listV; have hw0 := below1 w (.cells #[.slice A n c, .func (.func 120) #[] #[]] 118); have X0 := hid (Box.new w (.slice A n c) (.func (.func 120) #[] #[]) 118); go_enter Tryz.func88, Tryz.ntmps88
  go_wp2; go_loopw [3] (fun i wr => ∃ k : Nat, 1 ≤ k ∧ k ≤ n + 1 ∧ i = .int .i64 k ∧ risesB (xs.take k) = true ∧ Below (w.alloc (.cells #[.slice A n c, .func (.func 120) #[] #[]] 118)).heap.size (w.alloc (.cells #[.slice A n c, .func (.func 120) #[] #[]] 118)) wr) (fun i _ => n + 1 - (intOf i).toNat)
  case atStart => exact ⟨1, by omega, by omega, rfl, rises_next (xs := xs) rfl rfl, Below.refl _ _⟩
  case round =>
    obtain ⟨k, hk1, hk, rfl, hr, hb⟩ := hrel; have HR := hid hr; clear hr; have HB := belowThen hw0 hb; have XB := X0.out.later hb; by_cases hlt : k < n
    · obtain ⟨p, q, hA, hlo, hhi, hg, hE⟩ := (H.out.below AtomE.stays HB (nl _)).at_ hlt
      obtain ⟨A', n', c', d1, d3, d4, d5⟩ := hE.out; clear hE; obtain ⟨j, hj⟩ : ∃ j, k = j + 1 := ⟨k - 1, by omega⟩; have hjn : j < n := qaa; have hsub : (k : Int) - 1 = (j : Int) := qaa; have hwj : IntKind.i64.wrap (j : Int) = (j : Int) := qbj; have HJ := hid hj; clear hj; obtain ⟨p', q', hA', hlo', hhi', hg', hE'⟩ := (H.out.below AtomE.stays HB (nl _)).at_ hjn; obtain ⟨A2, n2, c2, f1, f3, f4, f5⟩ := hE'.out; clear hE'; obtain rfl : p = p' := by rw [hA] at hA'; injection hA'
      clear hA'; subst hA; obtain ⟨b0, b1, b2⟩ := XB; have hsz := HB.size; have HG := hid hg; have HG' := hid hg'; clear hg hg'; have HT := hid (d5.keep (w' := wr.drew) (lo' := 0) (hi' := wr.drew.heap.size) (fun _ _ _ => rfl) (nl _) HB.size); clear d5; have HT' := hid (f5.keep (w' := wr.drew) (lo' := 0) (hi' := wr.drew.heap.size) (fun _ _ _ => rfl) (nl _) HB.size); clear f5; have hbd := hb.drew; have e1 : wr.drew.cell? ⟨w.heap.size, 0, none⟩ = some (.slice (some p) n c) := b1; have e2 : wr.drew.cell? ⟨w.heap.size, 1, none⟩ = some (.func (.func 120) #[] #[]) := b2
      have x1 : wr.drew.cell? (p.add (k * 2)) = some (.string q.1) := d1; have x2 : wr.drew.cell? ⟨(p.add (k * 2)).block, (p.add (k * 2)).off + 1, none⟩ = some (.slice A' n' c') := d4; have x3 : wr.drew.cell? (p.add (j * 2)) = some (.string q'.1) := f1; have x4 : wr.drew.cell? ⟨(p.add (j * 2)).block, (p.add (j * 2)).off + 1, none⟩ = some (.slice A2 n2 c2) := f4; go_wp2_with fail
      go_region_held3 (fun W => ((W.cell? ⟨w.heap.size, 0, none⟩ = some (.slice (some p) n c) ∧ W.cell? ⟨w.heap.size, 1, none⟩ = some (.func (.func 120) #[] #[])) ∧ W.cell? (p.add (k * 2)) = some (.string q.1) ∧ W.cell? ⟨(p.add (k * 2)).block, (p.add (k * 2)).off + 1, none⟩ = some (.slice A' n' c')) ∧ W.cell? (p.add (j * 2)) = some (.string q'.1) ∧ W.cell? ⟨(p.add (j * 2)).block, (p.add (j * 2)).off + 1, none⟩ = some (.slice A2 n2 c2))
        (first | (with_reducible exact ⟨⟨⟨y5, y6⟩, y1, y2⟩, y3, y4⟩) | (with_reducible exact ⟨⟨⟨e1, e2⟩, x1, x2⟩, x3, x4⟩) | (with_reducible exact ⟨⟨⟨b1, b2⟩, d1, d4⟩, f1, f4⟩))
        (((with_reducible refine (compareAtoms_any q'.1 q.1 A2 A' n2 c2 n' c' q'.2 q.2 _ HT'.out HT.out).mono ?_); rintro e w1 ⟨rfl, hb1⟩; have y1 := (hb1.cell (p := p.add (k * 2)) qcf).trans d1; have y2 := (hb1.cell (p := ⟨(p.add (k * 2)).block, (p.add (k * 2)).off + 1, none⟩) qcf).trans d4; have y3 := (hb1.cell (p := p.add (j * 2)) qcf).trans f1; have y4 := (hb1.cell (p := ⟨(p.add (j * 2)).block, (p.add (j * 2)).off + 1, none⟩) qcf).trans f4; have y5 := (hb1.cell (p := ⟨w.heap.size, 0, none⟩) b0).trans b1; have y6 := (hb1.cell (p := ⟨w.heap.size, 1, none⟩) b0).trans b2))
      all_goals
        clear y1 y2 y3 y4 y5 y6 x1 x2 x3 x4 e1 e2; go_wp2
      all_goals first
        | (go_ret; exact ⟨retB (risesB_no (a := q') (b := q) HG'.out (by rw [← HJ.out]; exact HG.out) (Int.not_lt.2 qaz)).symm, belowThen hw0 (belowThen hbd hb1)⟩)
        | (go_roundw
           case rel => exact ⟨k + 1, by omega, by omega, by go_num, by
             have h1 := HG.out; have h2 := HR.out; rw [HJ.out] at h1 h2 ⊢; exact risesB_snoc (a := q') (b := q) HG'.out h1 h2 qaz, belowThen hbd hb1⟩
           case measure => exact qms)
    · have E := hid (show risesB xs = true by have := HR.out; rwa [List.take_of_length_le (by have := L.out; omega)] at this)
      obtain ⟨b0, b1, b2⟩ := XB; go_wp2; go_ret; exact ⟨retB E.out.symm, HB⟩
theorem implFactsOk_any (A : Option Addr) (n c : Nat) (xs : List At) (w : World) (h : IsAtoms w 0 w.heap.size A n c xs) :
    Calls Tryz.prog 41 #[.slice A n c] w (BoolPost (factsB 300 xs) w) := by
  have hn := h.len; unfold maxLen at hn; have L := hid h.1; have H := hid h; clear h; by_cases hlong : 300 < n
  · have hi : (300 : Int) < (n : Int) := qaa
    have E := hid (factsB_long (m := 300) (xs := xs) (by rw [L.out]; exact hlong)); go_enter Tryz.func41, Tryz.ntmps41; go_wp2; go_ret; exact ⟨retB E.out.symm, Below.refl _ _⟩
  · have hi : ¬ (300 : Int) < (n : Int) := qaa
    go_enter Tryz.func41, Tryz.ntmps41; go_wp2; go_loopw [4, 10] (fun _ i wr => ∃ k : Nat, k ≤ n ∧ i = .int .i64 k ∧ (xs.take k).all factB = true ∧ Below w.heap.size w wr) (fun _ i _ => n - (intOf i).toNat)
    case atStart => exact ⟨0, Nat.zero_le _, rfl, rfl, Below.refl _ _⟩
    case round =>
      obtain ⟨k, hk, rfl, hd, hb⟩ := hrel; have HD := hid hd; clear hd; by_cases hlt : k < n
      · obtain ⟨p, q, hA, hlo, hhi, hg, hE⟩ := (H.out.below AtomE.stays hb (nl _)).at_ hlt
        obtain ⟨A', n', c', d1, d3, d4, d5⟩ := hE.out; clear hE; subst hA; have HG := hid hg; clear hg; have hb1 := below1 wr (.cells #[.string q.1, .slice A' n' c'] 49); have HT := hid ((d5.keep (lo' := 0) (hi' := wr.heap.size) (fun _ _ _ => rfl) (nl _) hb.size).up hb1); clear d5; cases hF : factB q
        · have hF' : factB (q.1, q.2) = false := hF
          have E := hid (factsB_no (m := 300) HG.out hF); clear hF; go_wp2_with fail; refine (factOk_any _ _ _ _ q.2 _ d3 HT.out).mono ?_; rintro e w1 ⟨rfl, hb2⟩; go_wp2; go_ret; exact ⟨retB E.out.symm, belowThen hb (belowThen hb1 hb2)⟩
        · have hF' : factB (q.1, q.2) = true := hF
          have EF := hid hF; clear hF; go_wp2_with fail; refine (factOk_any _ _ _ _ q.2 _ d3 HT.out).mono ?_; rintro e w1 ⟨rfl, hb2⟩; go_wp2; go_roundw
          case rel => exact ⟨k + 1, by omega, by go_num, allB_snoc HG.out HD.out EF.out, belowThen hb (belowThen hb1 hb2)⟩
          case measure => exact qms
      · have E := hid (show factsB 300 xs = risesB xs by
          have h1 := HD.out; have h2 := L.out; rw [List.take_of_length_le qaa] at h1; unfold factsB; rw [h1, Bool.true_and, decide_eq_true qaa, Bool.and_true])
        go_wp2_with fail; refine (factList_any _ _ _ _).mono ?_; rintro e w1 ⟨rfl, hb1⟩; go_wp2_with fail; refine (isSorted_any _ _ _ xs _ (H.out.up AtomE.stays (belowThen hb hb1))).mono ?_; rintro e w2 ⟨rfl, hb2⟩; go_wp2; go_ret; exact ⟨retB E.out.symm, belowThen (belowThen hb hb1) hb2⟩
end Go.Proofs.YtcigljngiemdeaaGreat

namespace Go.Proofs.YtcigljngiemdeaaGreat
open Go.RowKit Go.Deep
abbrev Rf := ByteArray × Option Addr × Nat × Nat × List Tm
def rAt (r : Rf) : At := (r.1, r.2.2.2.2)
def RefE (w : World) (lo hi : Nat) (p : Addr) (r : Rf) : Prop :=
  w.cell? p = some (.string r.1) ∧ r.1.size ≤ maxLen ∧ w.cell? (nextTo p 1) = some (.slice r.2.1 r.2.2.1 r.2.2.2.1) ∧ IsTerms w lo hi r.2.1 r.2.2.1 r.2.2.2.1 r.2.2.2.2
theorem RefE.stays : Stays RefE := by
  intro w w' lo hi lo' hi' p a ⟨h1, h2, h3, h4⟩ hp1 hp2 hk hl hh; exact ⟨(hk p hp1 hp2).trans h1, h2, (hk (nextTo p 1) hp1 hp2).trans h3, h4.keep hk hl hh⟩
abbrev IsRefs := IsSeq 2 RefE
theorem IsRefs.atoms {w : World} {lo hi n c : Nat} {A : Option Addr} {rs : List Rf} (h : IsRefs w lo hi A n c rs) : IsAtoms w lo hi A n c (rs.map rAt) := by
  obtain ⟨h1, h2, h3, h4⟩ := h; refine ⟨by simpa using h1, h2, h3, fun hn => ?_⟩; obtain ⟨p, hp, hl, hh, he⟩ := h4 hn; refine ⟨p, hp, hl, hh, fun i x hx => ?_⟩; rw [List.getElem?_map] at hx; obtain ⟨r, hr, rfl⟩ := Option.map_eq_some_iff.1 hx; obtain ⟨e1, e2, e3, e4⟩ := he i r hr; exact ⟨e1, e2, _, _, _, e3, e4⟩
theorem refs_of {w : World} {lo hi n c : Nat} {A : Option Addr} {xs : List At} (h : IsAtoms w lo hi A n c xs) : ∃ rs, IsRefs w lo hi A n c rs ∧ rs.map rAt = xs := by
  obtain ⟨h1, h2, h3, h4⟩ := h; by_cases hn : 0 < n
  · obtain ⟨p, hp, hl, hh, he⟩ := h4 hn
    have each : ∀ i, i < n → ∃ r : Rf, RefE w lo hi (p.add (i * 2)) r ∧ xs[i]? = some (rAt r) := by
      intro i hi'; have hx : xs[i]? = some xs[i] := List.getElem?_eq_getElem qaa; obtain ⟨e1, e2, B, m, d, e3, e4⟩ := he i _ hx; exact ⟨(xs[i].1, B, m, d, xs[i].2), ⟨e1, e2, e3, e4⟩, hx⟩
    obtain ⟨f, hf⟩ := choose_lt each; refine ⟨(List.range n).map f, ⟨by simp, h2, h3, fun _ => ⟨p, hp, hl, hh, fun i r hr => ?_⟩⟩, ?_⟩
    · have hil : i < n := by
        have := (List.getElem?_eq_some_iff.1 hr).1; simpa using this
      have hr' : f i = r := by simpa [hil] using hr
      rw [← hr']; exact (hf i hil).1
    · apply List.ext_getElem?
      intro i; by_cases hil : i < n
      · rw [(hf i hil).2]; simp [hil]
      · rw [List.getElem?_eq_none qaf, List.getElem?_eq_none qaa]
  · have hn0 : n = 0 := qaa
    subst hn0; have : xs = [] := List.eq_nil_of_length_eq_zero h1; subst this; exact ⟨[], ⟨rfl, h2, h3, fun hn => absurd hn qaa⟩, rfl⟩
theorem add_add (p : Addr) (a b : Nat) : (p.add a).add b = p.add (a + b) := by
  unfold Addr.add; by_cases ha : a = 0
  · subst ha; simp
  · by_cases hb : b = 0
    · subst hb; simp [ha]
    · simp [ha, hb, Nat.add_assoc]
end Go.Proofs.YtcigljngiemdeaaGreat

namespace Go.Proofs.YtcigljngiemdeaaGreat
open Go.RowKit
def Blk (W : World) (b : Nat) (t : TypeId) (cs : Array Value) : Prop := W.heap[b]? = some (.cells cs t (0, 0))
section
variable {W W' w1 : World} {b B n₀ size k m : Nat} {t e : TypeId} {cs : Array Value} {v v' : Value} {xs ys : List Value} {tmp : Obj}
theorem Blk.lt (h : Blk W b t cs) : b < W.heap.size := (Array.getElem?_eq_some_iff.1 h).1
theorem Blk.cell (h : Blk W b t cs) (i : Nat) : W.cell? ⟨b, i, none⟩ = cs[i]? := by
  unfold Blk at h; simp [World.cell?, h]
theorem Blk.frozen (h : Blk W b t cs) (i : Nat) : W.frozen? ⟨b, i, none⟩ = false := by
  unfold Blk at h; simp [World.frozen?, h]
theorem Blk.new (W : World) (t : TypeId) (cs : Array Value) : Blk (W.alloc (.cells cs t)) W.heap.size t cs := World.alloc_heap_new W _
theorem Blk.kept {row : Option Nat} (h : Blk W b t cs) (hg : W.grownBy W' row) (hne : some b ≠ row) : Blk W' b t cs := (hg.block b h.lt hne).trans h
theorem Blk.alloc (h : Blk W b t cs) (o : Obj) : Blk (W.alloc o) b t cs := h.kept (World.grownBy_alloc W o none) qad
theorem Blk.below (h : Blk W b t cs) (hb : Below W.heap.size W W') : Blk W' b t cs := (hb.block b h.lt).trans h
theorem Blk.far (h : Blk W b t cs) {p : Addr} (hp : b ≠ p.block) (u : Value) : Blk (W.setCell p u) b t cs := (hs_ W p u b hp).trans h
theorem Blk.own {β : Type} (b : Nat) (t : TypeId) (cs : Array Value) : Own (fun (_ : β) W => Blk W b t cs) := fun s X Y row hs hg hrow =>
  hs.kept hg (fun e' => by obtain ⟨o, ho, hc⟩ := hrow b e'.symm; rw [show X.heap[b]? = _ from hs] at ho; cases ho; cases hc)
end
theorem Blk.made (w : World) {b : Nat} (t : TypeId) (cs : Array Value) (h : b = w.heap.size) : Blk (w.alloc (.cells cs t)) b t cs := by subst h; exact Blk.new w t cs
theorem Blk.set {W : World} {b : Nat} {t : TypeId} {cs : Array Value} (h : Blk W b t cs) (i : Nat) (u : Value) : Blk (W.setCell ⟨b, i, none⟩ u) b t (cs.setIfInBounds i u) := by
  unfold Blk at h ⊢; simp [World.setCell, Array.getElem?_modify, h]
def rcells (rs : List Rf) : List Value := rs.flatMap fun r => [.string r.1, .slice r.2.1 r.2.2.1 r.2.2.2.1]
theorem rcells_len : ∀ rs : List Rf, (rcells rs).length = rs.length * 2
  | [] => rfl
  | r :: rs => by
    have := rcells_len rs; unfold rcells at *; simp only [List.flatMap_cons, List.length_append, List.length_cons, List.length_nil, this]; omega
theorem rcells_snoc (rs : List Rf) (r : Rf) : rcells (rs ++ [r]) = rcells rs ++ [.string r.1, .slice r.2.1 r.2.2.1 r.2.2.2.1] := by
  unfold rcells; simp [List.flatMap_append]
theorem rcells_at : ∀ {rs : List Rf} {i : Nat} {r : Rf}, rs[i]? = some r → (rcells rs)[i * 2]? = some (.string r.1) ∧ (rcells rs)[i * 2 + 1]? = some (.slice r.2.1 r.2.2.1 r.2.2.2.1)
  | [], _, _, h => by simp at h
  | q :: rs, 0, r, h => by
    simp at h; subst h
    exact ⟨rfl, rfl⟩
  | q :: rs, i + 1, r, h => by
    have ih := rcells_at (rs := rs) (i := i) (r := r) qbd; have e : rcells (q :: rs) = .string q.1 :: .slice q.2.1 q.2.2.1 q.2.2.2.1 :: rcells rs := rfl; rw [e, show (i + 1) * 2 = i * 2 + 1 + 1 by omega]; exact ⟨by simpa using ih.1, by simpa using ih.2⟩
theorem rcells_one (rs : List Rf) : ∀ u ∈ rcells rs, u.oneCell' = true := by
  intro u hu; unfold rcells at hu; obtain ⟨r, _, hr⟩ := List.mem_flatMap.1 hu; simp at hr; rcases hr with rfl | rfl <;> rfl
def RefsIn (W : World) (lo hi : Nat) (rs : List Rf) : Prop := ∀ r ∈ rs, r.1.size ≤ maxLen ∧ IsTerms W lo hi r.2.1 r.2.2.1 r.2.2.2.1 r.2.2.2.2
theorem RefsIn.of {W : World} {lo hi n c : Nat} {A : Option Addr} {rs : List Rf} (h : IsRefs W lo hi A n c rs) : RefsIn W lo hi rs := by
  obtain ⟨h1, _, _, h4⟩ := h; intro r hr; obtain ⟨i, hi⟩ := List.getElem?_of_mem hr; have hn : 0 < n := by have := (List.getElem?_eq_some_iff.1 hi).1; omega
  obtain ⟨p, _, _, _, he⟩ := h4 hn; obtain ⟨_, e2, _, e4⟩ := he i r hi; exact ⟨e2, e4⟩
theorem RefsIn.keep {W W' : World} {lo hi lo' hi' : Nat} {rs : List Rf} (h : RefsIn W lo hi rs) (hk : ∀ q : Addr, lo ≤ q.block → q.block < hi → W'.cell? q = W.cell? q) (h1 : lo' ≤ lo) (h2 : hi ≤ hi') : RefsIn W' lo' hi' rs :=
  fun r hr => ⟨(h r hr).1, (h r hr).2.keep hk h1 h2⟩
theorem refs_own {W : World} {base lo hi : Nat} {v : Value} {rs : List Rf} {n : Nat} (h : W.ownsRow base 49 2 v n (rcells rs)) (hn : n = rs.length) (hb : lo ≤ base) (hr : RefsIn W lo hi rs) (hh : hi ≤ W.heap.size) :
    ∃ A c, v = .slice A n c ∧ IsRefs W lo W.heap.size A n c rs := by
  subst hn; rcases h.2 with ⟨rfl, h0⟩ | ⟨g, cap, cur, rfl, hbg, hgb, hle, hcap, hsz, htk⟩
  · refine ⟨none, 0, by rw [h0], rfl, by omega, by unfold maxLen; omega, fun hp => absurd hp qaa⟩
  · have hlt := (Array.getElem?_eq_some_iff.1 hgb).1
    refine ⟨_, cap, rfl, rfl, hle, hcap, fun _ => ⟨_, rfl, by show lo ≤ g; omega, hlt, fun i r hi => ?_⟩⟩; obtain ⟨c1, c2⟩ := rcells_at hi; have hil := (List.getElem?_eq_some_iff.1 hi).1; have a0 : ∀ j, (⟨g, 0, none⟩ : Addr).add j = ⟨g, j, none⟩ := fun j => by unfold Addr.add; split <;> simp_all
    have hcell : ∀ j u, (rcells rs)[j]? = some u → W.cell? ⟨g, j, none⟩ = some u := by
      intro j u hu; have hj := (List.getElem?_eq_some_iff.1 hu).1; rw [rcells_len] at hj; rw [← htk, List.getElem?_take, if_pos qaa] at hu; simp [World.cell?, hgb]; simpa using hu
    rw [a0]; exact ⟨hcell _ _ c1, (hr r (List.mem_of_getElem? hi)).1, hcell _ _ c2, (hr r (List.mem_of_getElem? hi)).2.keep (fun _ _ _ => rfl) (nl _) hh⟩
end Go.Proofs.YtcigljngiemdeaaGreat
