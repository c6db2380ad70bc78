/-
  Texts of one claim, put together.
-/
import Derived.Test.YtogonjkklioaaaaGreatDoorZq
import Derived.Test.YtogonjkklioaaaaGreatDoorLt4
import Derived.RangeFuncNested
import Derived.RangeFuncBound
import Derived.RangeFuncCalls
import Derived.RangeFuncLeaves
import Derived.RangeFuncFrom
import Derived.Shelf.Abstract
import Derived.Shelf.RegionOpen
import Derived.WalkKit
import Derived.OwnWalkIn
import Derived.TacticsInMore
import Derived.LoopNIn
import Derived.LoopIn
import Derived.Test.YtogonjkklioaaaaGreatDoorLt1
import Derived.Deep.RegionHeld3
import Derived.Deep.Slices
import Derived.RangeFuncBox
set_option maxRecDepth 100000
set_option maxHeartbeats 8000000
namespace Go.Proofs.YtogonjkklioaaaaGreatDoor
open Go.RowKit
theorem bytes_anti : ∀ a b : List UInt8, Lib.compareBytes b a = -Lib.compareBytes a b
  | [], [] => rfl
  | [], _ :: _ => rfl
  | _ :: _, [] => rfl
  | a :: l, b :: m => by
    unfold Lib.compareBytes; by_cases h : a < b
    · have h' : ¬ b < a := fun k => absurd (UInt8.lt_trans h k) (UInt8.lt_irrefl _)
      simp [h, h']
    · by_cases h' : b < a
      · simp [h, h']
      · simp only [h, h', if_false]; exact bytes_anti l m
theorem bytes_same {a b : List UInt8} (h : Lib.compareBytes a b = 0) : a = b := by
  have := (zmx a b).2; rw [h] at this; simpa using this
theorem bytes_on : ∀ a b c : List UInt8, Lib.compareBytes a b ≤ 0 → Lib.compareBytes b c ≤ 0 → Lib.compareBytes a c ≤ 0
  | [], _, [], _, _ => Int.le_refl _
  | [], _, _ :: _, _, _ => by simp [Lib.compareBytes]
  | _ :: _, [], _, h, _ => by simp [Lib.compareBytes] at h
  | _ :: _, _ :: _, [], _, h => by simp [Lib.compareBytes] at h
  | a :: l, b :: m, c :: r, h, h' => by
    unfold Lib.compareBytes at h h' ⊢; by_cases h1 : a < b
    · by_cases h2 : b < c
      · simp [UInt8.lt_trans h1 h2]
      · by_cases h3 : c < b
        · simp [h2, h3] at h'
        · have : b = c := UInt8.le_antisymm (UInt8.not_lt.1 h3) (UInt8.not_lt.1 h2)
          subst this; simp [h1]
    · by_cases h3 : b < a
      · simp [h1, h3] at h
      · have : a = b := UInt8.le_antisymm (UInt8.not_lt.1 h3) (UInt8.not_lt.1 h1)
        subst this; by_cases h2 : a < c
        · simp [h2]
        · by_cases h4 : c < a
          · simp [h2, h4] at h'
          · simp only [h1, h2, h4, if_false] at h h' ⊢
            exact bytes_on l m r h h'
theorem zlg {a b : ByteArray} (h : a.data.toList = b.data.toList) : a = b := by
  cases a; cases b; simp only [ByteArray.mk.injEq]; exact Array.toList_inj.1 h
theorem text_anti (a b : ByteArray) : zal b a = -zal a b := bytes_anti _ _
theorem zje {a b : ByteArray} (h : zal a b = 0) : a = b := zlg (bytes_same h)
theorem text_on {a b c : ByteArray} (h : zal a b ≤ 0) (h' : zal b c ≤ 0) : zal a c ≤ 0 := bytes_on _ _ _ h h'
theorem text_strict {a b c : ByteArray} (h : zal a b ≤ 0) (h' : zal b c ≤ 0) (hs : zal a b ≠ 0 ∨ zal b c ≠ 0) : zal a c ≠ 0 := by
  intro he; have a2 := zje he; subst a2; have := text_anti a b; omega
theorem args_anti : ∀ a b : List Tm, zbc b a = -zbc a b
  | [], [] => rfl
  | [], _ :: _ => rfl
  | _ :: _, [] => rfl
  | x :: l, y :: m => by
    have := text_anti x.2 y.2; show (if zal y.2 x.2 = 0 then zbc m l else zal y.2 x.2) = -(if zal x.2 y.2 = 0 then zbc l m else zal x.2 y.2); by_cases h : zal x.2 y.2 = 0
    · rw [if_pos h, if_pos qaa]; exact args_anti l m
    · rw [if_neg h, if_neg qaa]; exact this
theorem args_on : ∀ a b c : List Tm, zbc a b ≤ 0 → zbc b c ≤ 0 → zbc a c ≤ 0
  | [], _, [], _, _ => Int.le_refl _
  | [], _, _ :: _, _, _ => by simp [zbc]
  | _ :: _, [], _, h, _ => by simp [zbc] at h
  | _ :: _, _ :: _, [], _, h => by simp [zbc] at h
  | x :: l, y :: m, z :: r, h, h' => by
    have h0 : (if zal x.2 y.2 = 0 then zbc l m else zal x.2 y.2) ≤ 0 := h; have h1 : (if zal y.2 z.2 = 0 then zbc m r else zal y.2 z.2) ≤ 0 := h'; show (if zal x.2 z.2 = 0 then zbc l r else zal x.2 z.2) ≤ 0; by_cases e : zal x.2 y.2 = 0
    · rw [if_pos e] at h0
      have exy := zje e; rw [exy]; by_cases e' : zal y.2 z.2 = 0
      · rw [if_pos e'] at h1 ⊢
        exact args_on l m r h0 h1
      · rw [if_neg e'] at h1 ⊢
        exact h1
    · rw [if_neg e] at h0
      have h2 : zal y.2 z.2 ≤ 0 := by
        by_cases e' : zal y.2 z.2 = 0
        · omega
        · rw [if_neg e'] at h1; exact h1
      rw [if_neg (text_strict h0 h2 (.inl e))]; exact text_on h0 h2
theorem zpp (a b : At) : zad a b = zbc ((false, a.1) :: a.2) ((false, b.1) :: b.2) := rfl
theorem zbb (a b : At) : zad b a = -zad a b := by rw [zpp, zpp]; exact args_anti _ _
theorem zid {a b c : At} (h : zad a b ≤ 0) (h' : zad b c ≤ 0) : zad a c ≤ 0 := by
  rw [zpp] at *; exact args_on _ _ _ h h'
end Go.Proofs.YtogonjkklioaaaaGreatDoor

namespace Go.Proofs.YtogonjkklioaaaaGreatDoor
theorem zbu {a b c : At} (h : zad a b < 0) (h' : zad b c ≤ 0) : zad a c < 0 := by
  have h1 : zad a c ≤ 0 := zid (Int.le_of_lt h) h'; by_cases e : zad a c = 0
  · have h2 := zbb a c
    have h3 := zid (a := b) (b := c) (c := a) h' qaa; have h4 := zbb a b; omega
  · omega
def zbr (xs : List At) (a : At) : Bool := xs.any fun x => decide (zad x a = 0)
theorem zbp : ∀ {x : At} {l : List At}, zaj (x :: l) = true → ∀ y ∈ l, zad x y < 0
  | x, [], _, y, hy => by simp at hy
  | x, z :: l, h, y, hy => by
    have h' : (decide (zad x z < 0) && zaj (z :: l)) = true := h; rw [Bool.and_eq_true, decide_eq_true_eq] at h'; rcases List.mem_cons.1 hy with rfl | hy
    · exact h'.1
    · have := zbp h'.2 y hy
      exact zbu h'.1 qaa
theorem zck {x : At} {l : List At} (h : zaj (x :: l) = true) : zaj l = true := by
  cases l with
  | nil => rfl
  | cons z l =>
    have h' : (decide (zad x z < 0) && zaj (z :: l)) = true := h; rw [Bool.and_eq_true] at h'; exact h'.2
theorem zkn : ∀ {xs : List At}, zaj xs = true → ∀ (i j : Nat) (x y : At), i < j → xs[i]? = some x → xs[j]? = some y → zad x y < 0
  | [], _, i, j, x, y, _, h, _ => by simp at h
  | z :: l, h, 0, j + 1, x, y, _, hx, hy => by
    simp at hx hy; subst hx
    exact zbp h y (List.mem_of_getElem? hy)
  | z :: l, h, i + 1, j + 1, x, y, hij, hx, hy => zkn (zck h) i j x y qaa (by simpa using hx) qel
  | z :: l, h, i, 0, x, y, hij, _, _ => absurd hij qaa
theorem hasB_at {xs : List At} {a x : At} {k : Nat} (h : zaj xs = true) (hlow : ∀ j y, j < k → xs[j]? = some y → zad y a < 0) (hx : xs[k]? = some x) (hk : 0 ≤ zad x a) : zbr xs a = decide (zad x a = 0) := by
  by_cases e : zad x a = 0
  · rw [decide_eq_true e]
    unfold zbr; rw [List.any_eq_true]; exact ⟨x, List.mem_of_getElem? hx, by simp [e]⟩
  · rw [decide_eq_false e]
    unfold zbr; rw [List.any_eq_false]; intro y hy; obtain ⟨j, hj⟩ := List.getElem?_of_mem hy; simp only [decide_eq_true_eq]; intro e'; rcases Nat.lt_trichotomy j k with hlt | rfl | hgt
    · have := hlow j y hlt hj; omega
    · rw [hx] at hj; injection hj with hj; subst hj; exact e e'
    · have h1 := zkn h k j x y hgt hx hj
      have h2 := zbu h1 (show zad y a ≤ 0 by omega); omega
theorem hasB_end {xs : List At} {a : At} {k n : Nat} (hl : xs.length = n) (hlow : ∀ j y, j < k → xs[j]? = some y → zad y a < 0) (hk : ¬ k < n) : zbr xs a = false := by
  unfold zbr; rw [List.any_eq_false]; intro y hy; obtain ⟨j, hj⟩ := List.getElem?_of_mem hy; have := hlow j y qds hj; simp only [decide_eq_true_eq]; omega
theorem low_snoc {xs : List At} {a x : At} {k : Nat} (hlow : ∀ j y, j < k → xs[j]? = some y → zad y a < 0) (hx : xs[k]? = some x) (h : zad x a < 0) : ∀ j y, j < k + 1 → xs[j]? = some y → zad y a < 0 := by
  intro j y hj hy; by_cases e : j = k
  · subst e; rw [hx] at hy; injection hy with hy; subst hy; exact h
  · exact hlow j y qaa hy
end Go.Proofs.YtogonjkklioaaaaGreatDoor

namespace Go.Proofs.YtogonjkklioaaaaGreatDoor
open Go.RowKit Go.Shelf
attribute [local go_sem] Oper.semAt_some
def zcf (ts : List Tm) : List ByteArray := (ts.filter (·.1)).map (·.2)
theorem varsOf_no {ts : List Tm} {k : Nat} {t : Tm} (h : ts[k]? = some t) (ht : t.1 = false) : zcf (ts.take (k + 1)) = zcf (ts.take k) := by
  obtain ⟨h1, h2⟩ := List.getElem?_eq_some_iff.1 h; unfold zcf; rw [List.take_succ_eq_append_getElem h1, List.filter_append, h2]; simp [ht]
theorem zkg {ts : List Tm} {k : Nat} {t : Tm} (h : ts[k]? = some t) (ht : t.1 = true) : zcf (ts.take (k + 1)) = zcf (ts.take k) ++ [t.2] := by
  obtain ⟨h1, h2⟩ := List.getElem?_eq_some_iff.1 h; unfold zcf; rw [List.take_succ_eq_append_getElem h1, List.filter_append, h2]; simp [ht]
theorem varsOf_pre (ts : List Tm) (k : Nat) : zcf (ts.take k) <+: zcf ts := by
  conv => rhs; rw [← List.take_append_drop k ts]
  unfold zcf; rw [List.filter_append, List.map_append]; exact List.prefix_append _ _
theorem varsOf_len (ts : List Tm) (k : Nat) : (zcf (ts.take k)).length ≤ k := by
  unfold zcf; rw [List.length_map]; exact Nat.le_trans (List.length_filter_le _ _) qde
theorem varsOf_none {ts : List Tm} : zfm ts = true ↔ zcf ts = [] := by
  unfold zfm zcf; rw [List.map_eq_nil_iff, List.filter_eq_nil_iff, List.all_eq_true]; exact ⟨fun h t ht => by have := h t ht; simpa using this, fun h t ht => by have := h t ht; simpa using this⟩
theorem varsOf_all {ts : List Tm} {k n : Nat} (h : ts.length = n) (hk : ¬ k < n) : zcf (ts.take k) = zcf ts := by
  rw [List.take_of_length_le qaa]
theorem assert_var (s : ByteArray) (W : World) : (Instr.typeAssert (.iface 160 (.string s)) 130 160 true).run Tryz.prog W = .ok (.tuple #[.string s, .bool true]) W := by kernel_rfl
theorem assert_word (s : ByteArray) (W : World) : (Instr.typeAssert (.iface 161 (.string s)) 130 161 true).run Tryz.prog W = .ok (.tuple #[.string s, .bool true]) W := by kernel_rfl
theorem assert_not (s : ByteArray) (W : World) : (Instr.typeAssert (.iface 161 (.string s)) 130 160 true).run Tryz.prog W = .ok (.tuple #[.string ⟨#[]⟩, .bool false]) W := by kernel_rfl
theorem zix {B : Nat} {a b : World} (h : Below B a b) (hB : a.heap.size ≤ B) : a.grownBy b none := ⟨h.os, h.tape, h.output, h.size, fun i hi _ => h.block i (Nat.lt_of_lt_of_le hi hB)⟩
theorem vars1_in (n : Nat) (hn : 1 ≤ n) (l Bs n₀ : Nat) (A : Option Addr) (m c : Nat) (ts : List Tm) (J Jx : List ByteArray → World → Prop) (W : World) (hJ : AbidesFrom W.heap.size J)
    (hY : ∀ pre x W1, J pre W1 → pre.length < m → YieldAt Fence.wide (n - 1) Tryz.prog l #[.string x] W1 fun e W' =>
      (e = .returned (.bool true) ∧ J (pre ++ [x]) W' ∧ Below n₀ W1 W') ∨ (e = .returned (.bool false) ∧ Jx (pre ++ [x]) W'))
    (hB : W.cell? ⟨Bs, 1, none⟩ = some (.slice A m c)) (hn0 : n₀ ≤ W.heap.size) (hT : IsTerms W 0 n₀ A m c ts) (h0 : J [] W) :
    CallsIn Fence.wide n Tryz.prog 153 #[.func (.yield l) #[] #[], .pointer (some ⟨Bs, 0, none⟩)] W fun e W' => (∃ v, e = .returned v) ∧
      ((∃ ys, ys = zcf ts ∧ J ys W') ∨ (∃ pre, pre <+: zcf ts ∧ Jx pre W')) := by
  have hm : m ≤ maxLen := by have := hT.2.1; have := hT.2.2.1; omega
  unfold maxLen at hm; have HT := hid hT; clear hT; have HY := hid hY; clear hY; have HJ0 := hid hJ; clear hJ; refine callsIn_of_wp Tryz.func153 rfl trivial ?_ rfl; simp only [Tryz.ntmps153, List.size_toArray, List.length_cons, List.length_nil, Nat.reduceAdd, Nat.reduceSub, Array.replicate_succ, Array.replicate_zero, List.push_toArray, List.append_toArray, List.nil_append, List.cons_append]; gi_wp2; gi_loopw [10] (fun i wr => ∃ k : Nat, k ≤ m ∧ i = .int .i64 k ∧ J (zcf (ts.take k)) wr ∧ Below n₀ W wr) (fun i _ => m - (intOf i).toNat)
  case atStart => exact ⟨0, Nat.zero_le _, rfl, h0, Below.refl _ _⟩
  case round =>
    obtain ⟨k, hk, rfl, a3, hb⟩ := hrel; have HJ := hid a3; clear a3; by_cases hlt : k < m
    · obtain ⟨p, ⟨v, s⟩, hA, hlo, hhi, hg, c1, c2, c3⟩ := (HT.out.below hb (nl _)).at_ hlt
      subst hA; have HG := hid hg; clear hg; have hwr := hb.size; have ta1 := assert_var s; have ta2 := assert_word s; have ta3 := assert_not s; cases v
      · gi_wp2_with (refine ⟨trivial, ?_⟩; gi_at_call 92; refine (callsIn_wide.2 (zlu _ _)).mono ?_; rintro e w1 ⟨rfl, hb1⟩; have a2 := zaa (zac wr (.cells #[.bool false, .string s] 110)) hb1)
        go_roundw
        case rel => exact ⟨k + 1, by omega, by go_num, by rw [varsOf_no HG.out rfl]; exact HJ0.out _ _ _ none HJ.out (zix a2 (nl _)) qdt, hb.trans (a2.mono qaa)⟩
        case measure => exact qms
      · gi_wp2_with (refine ⟨trivial, ?_⟩; gi_at_call 92; refine (callsIn_wide.2 (znk _ _)).mono ?_; rintro e w1 ⟨rfl, hb1⟩; have a2 := zaa (zac wr (.cells #[.bool true, .string s] 110)) hb1; obtain ⟨fn, tmps, assign, body, hy, hR⟩ := HY.out _ s w1 (HJ0.out _ _ _ none HJ.out (zix a2 (nl _)) qdt) (Nat.lt_of_le_of_lt (varsOf_len _ _) hlt))
        refine hR.mono ?_; rintro e W3 (⟨rfl, hJ3, hk3⟩ | ⟨rfl, hJx3⟩)
        · gi_wp2
          go_roundw
          case rel => exact ⟨k + 1, by omega, by go_num, by rw [zkg HG.out rfl]; exact hJ3, (hb.trans (a2.mono qaa)).trans hk3⟩
          case measure => exact qms
        · gi_wp2
          refine bodyPost_ret (results_none rfl _ _ _) rfl ?_; exact ⟨⟨_, rfl⟩, .inr ⟨_, by rw [← zkg (t := (true, s)) HG.out rfl]; exact varsOf_pre _ _, hJx3⟩⟩
    · have E := hid (varsOf_all HT.out.1 hlt)
      gi_wp2; go_end0; exact ⟨⟨_, rfl⟩, .inl ⟨_, rfl, by rw [← E.out]; exact HJ.out⟩⟩
theorem vars_stops (n : Nat) (hn : 1 ≤ n) (Bs n₀ : Nat) (A : Option Addr) (m c : Nat) (ts : List Tm) (w : World) (hBs : Bs < w.heap.size) (hn0 : n₀ ≤ w.heap.size) (hB : w.cell? ⟨Bs, 1, none⟩ = some (.slice A m c)) (hT : IsTerms w 0 n₀ A m c ts) :
    SeqStopsK Fence.wide n Tryz.prog 153 #[.pointer (some ⟨Bs, 0, none⟩)] (fun x : ByteArray => #[Value.string x]) (Below n₀) (fun ys => ys = zcf ts) (fun pre => pre <+: zcf ts) m w := fun l J Jx W hW hJ _ hY h0 =>
  vars1_in n hn l Bs n₀ A m c ts J Jx W hJ hY ((hW.cell (p := ⟨Bs, 1, none⟩) hBs).trans hB) (Nat.le_trans hn0 hW.size) (hT.below hW hn0) h0
theorem zng (nm : ByteArray) (A : Option Addr) (n c : Nat) (w : World) :
    Calls Tryz.prog 116 #[.agg #[.string nm, .slice A n c]] w fun e w' => e = .returned (.func (.func 153) #[] #[.pointer (some ⟨w.heap.size, 0, none⟩)]) ∧ w' = w.alloc (.cells #[.string nm, .slice A n c] 51) := by
  go_enter Tryz.func116, Tryz.ntmps116; go_wp2; go_ret; exact ⟨rfl, rfl⟩
end Go.Proofs.YtogonjkklioaaaaGreatDoor
namespace Go.Proofs.YtogonjkklioaaaaGreatDoor
open Go.RowKit Go.Shelf
attribute [local go_sem] Oper.semAt_some
end Go.Proofs.YtogonjkklioaaaaGreatDoor

namespace Go.Proofs.YtogonjkklioaaaaGreatDoor
open Go.RowKit Go.Shelf
attribute [local go_sem] Oper.semAt_some
theorem factB_not {nm : ByteArray} {ts : List Tm} (h : (!zav (nm, ts)) = true) : zca (nm, ts) = false := by
  unfold zca; rw [show zav (nm, ts) = false by simpa using h, Bool.and_false]
theorem factB_vars {nm : ByteArray} {ts : List Tm} (h : (!zav (nm, ts)) = false) (hv : zcf ts = []) : zca (nm, ts) = true := by
  unfold zca; rw [show zav (nm, ts) = true by simpa using h, varsOf_none.2 hv]; rfl
theorem factB_some {nm : ByteArray} {ts : List Tm} (hv : zcf ts ≠ []) : zca (nm, ts) = false := by
  unfold zca; cases h : zfm ts
  · rfl
  · exact absurd (varsOf_none.1 h) hv
theorem factOk_any (nm : ByteArray) (A : Option Addr) (n c : Nat) (ts : List Tm) (w : World) (hs : nm.size ≤ maxLen) (h : IsTerms w 0 w.heap.size A n c ts) :
    Calls Tryz.prog 86 #[.agg #[.string nm, .slice A n c]] w (zas (zca (nm, ts)) w) := by
  have H := hid h; clear h; have hw0 := zbj w (.cells #[.string nm, .slice A n c] 51) (.cells #[.bool false] 4); refine (callsIn_wide (n := 5)).1 ?_; refine callsIn_of_wp_marks Tryz.func86 rfl trivial ?_ rfl; simp only [Tryz.ntmps86, List.size_toArray, List.length_cons, List.length_nil, Nat.reduceAdd, Nat.reduceSub, Array.replicate_succ, Array.replicate_zero, List.push_toArray, List.append_toArray, List.nil_append, List.cons_append]; gi_wp2_with (refine ⟨trivial, ?_⟩; gi_at_call 57; refine (callsIn_wide.2 (zdu nm A n c ts _ hs (H.out.up hw0))).mono ?_; rintro e w1 ⟨rfl, hb1⟩; have HB1 := zaa hw0 hb1; obtain ⟨hc, hf⟩ := zht hb1; have a8 : w.heap.size + 1 < w1.heap.size := (by have := hb1.size; simp at this; omega); have hz0 : w.heap.size < w1.heap.size := qaa)
  · have hd : (!zav (nm, ts)) = true := qbl
    have c1 : w1.cell? ⟨w.heap.size + 1, 0, none⟩ = some (.bool false) := by rw [hc _ _ qag]; simp [go_sem]
    exact ⟨.bool false, by simp [results, Tryz.f86, go_sem, c1], by rw [factB_not hd], HB1.setCell qag _⟩
  · have hd : (!zav (nm, ts)) = false := qbl
    have HD := hid hd; refine ⟨trivial, (callsIn_wide.2 (zng nm A n c w1)).mono ?_⟩; rintro e w' ⟨rfl, rfl⟩; have c1 : w1.cell? ⟨w.heap.size + 1, 0, none⟩ = some (.bool false) := by rw [hc _ _ qag]; simp [go_sem]
    have f1 : w1.frozen? ⟨w.heap.size + 1, 0, none⟩ = false := by rw [hf _ _ qag]; simp [go_sem]
    have a7 := zac w1 (.cells #[.string nm, .slice A n c] 51); have HB2 := zaa HB1 a7; have c2 := (a7.cell (p := ⟨w.heap.size + 1, 0, none⟩) a8).trans c1; have f2 := (a7.frozen (p := ⟨w.heap.size + 1, 0, none⟩) a8).trans f1; have b2 : (w1.alloc (.cells #[.string nm, .slice A n c] 51)).cell? ⟨w1.heap.size, 1, none⟩ = some (.slice A n c) := qer; have T2 : IsTerms (w1.alloc (.cells #[.string nm, .slice A n c] 51)) 0 w.heap.size A n c ts := H.out.below HB2 (nl _); have a4 : w.heap.size ≤ (w1.alloc (.cells #[.string nm, .slice A n c] 51)).heap.size := HB2.size
    have hl2 : w1.heap.size < (w1.alloc (.cells #[.string nm, .slice A n c] 51)).heap.size := qag; gi_wp2
    refine wpIn_rangeFunc_ownF rfl qaa (gf := 153) (lb := #[.pointer (some ⟨w1.heap.size, 0, none⟩)]) rfl trivial (enters_of Tryz.func153 qab rfl)
      (vars_stops (5 - 1) qaa w1.heap.size w.heap.size A n c ts _ hl2 a4 b2 T2) belowK_t (belowK_b a4) (Below.refl _ _) (fun _ => rfl)
      (fun pre W => (pre = [] ∧ W.cell? ⟨w.heap.size + 1, 0, none⟩ = some (.bool false) ∧ W.frozen? ⟨w.heap.size + 1, 0, none⟩ = false) ∧ Below w.heap.size w W)
      (fun c pre W => (c = .ret ∧ pre ≠ [] ∧ W.cell? ⟨w.heap.size + 1, 0, none⟩ = some (.bool false)) ∧ Below w.heap.size w W)
      (OwnFrom.and (Own.from (fun s A B row hs hg hr => ⟨hs.1, cell_kept hs.2.1 hg hr, (frozen_kept hs.2.1 hg hr).trans hs.2.2⟩) _) (ownFrom_below (nl _) a4))
      (fun c => OwnFrom.and (Own.from (fun s A B row hs hg hr => ⟨hs.1, hs.2.1, cell_kept hs.2.2 hg hr⟩) _) (ownFrom_below (nl _) a4))
      ⟨⟨rfl, c2, f2⟩, HB2⟩
      (fun x => { tmps := #[.agg #[.string nm, .slice A n c], .pointer (some ⟨w.heap.size, 0, none⟩), .pointer (some ⟨w.heap.size + 1, 0, none⟩), .agg #[.string nm, .slice A n c], .bool (zav (nm, ts)), .bool false, .agg #[.string nm, .slice A n c], .func (.func 153) #[] #[.pointer (some ⟨w1.heap.size, 0, none⟩)], .string x], defers := [] }) ?assign ?body ?done ?stop
    case assign =>
      intro l x W K hK; gi_wp2; simpa using hK
    case body =>
      rintro l pre x W ⟨⟨_, a2, a9⟩, hB⟩ _; gi_wp2; exact ⟨KeepsOthers.setCell _ _ _, ⟨rfl, by simp, World.cell?_setCell_same' _ _ _ (by rw [a2]; rfl)⟩, hB.setCell (p := ⟨w.heap.size + 1, 0, none⟩) qag _⟩
    case done =>
      rintro D ys W hD rfl ⟨⟨hne, a2, a9⟩, hB⟩ hK; gi_wp2; have a6 := (KeepsOthers.setCell W ⟨w.heap.size + 1, 0, none⟩ (.bool true)).same D _ hK rfl; refine ⟨by simp, .inl ⟨_, _, rfl, run_takeDeferred a6, ?_⟩⟩; have a5 := cell_kept (World.cell?_setCell_same' W ⟨w.heap.size + 1, 0, none⟩ (.bool true) (by rw [a2]; rfl)) (grownBy_putObj' _ D (.deferred none)) (fun r e => by cases e; exact ⟨_, a6, rfl⟩); refine ⟨.bool true, ?_, by rw [factB_vars HD.out hne], (hB.setCell (p := ⟨w.heap.size + 1, 0, none⟩) qag _).trans (belowK_b (w := w) (nl _) _ D _ _ qaa a6 rfl rfl)⟩; simp [results, Tryz.f86, go_sem, a5]
    case stop =>
      rintro D c pre W hD a3 ⟨⟨rfl, hne, a2⟩, hB⟩ hK; gi_wp2; refine ⟨by simp, .inl ⟨_, _, rfl, run_takeDeferred hK, ?_⟩⟩; have a5 := cell_kept a2 (grownBy_putObj' _ D (.deferred none)) (fun r e => by cases e; exact ⟨_, hK, rfl⟩); refine ⟨.bool false, ?_, by rw [factB_some (fun e => by rw [e] at a3; exact hne (List.prefix_nil.1 a3))], hB.trans (belowK_b (w := w) (nl _) W D _ _ qaa hK rfl rfl)⟩; simp [results, Tryz.f86, go_sem, a5]
theorem zbf {P : Program} {w : World} {a : Addr} {m : Mode} (f : Fn) (c l : Array Value) : (store a (.func f c l) m).run P w = stored P w a (.func f c l) m := run_store P w a _ m rfl
attribute [local go_sem] zbf
def listV (A : Option Addr) (n c : Nat) : Value := .agg #[.slice A n c, .func (.func 88) #[] #[]]
theorem zdy (A : Option Addr) (n c : Nat) (w : World) :
    Calls Tryz.prog 54 #[.slice A n c] w fun e w' => e = .returned (listV A n c) ∧ Below w.heap.size w w' := by
  go_enter Tryz.func54, Tryz.ntmps54; go_wp2; exact bodyPost_ret (v := listV A n c) (by simp [results, Tryz.results54, go_sem, listV]) rfl ⟨rfl, zac w _⟩
theorem isSorted_any (A : Option Addr) (n c : Nat) (xs : List At) (w : World) (h : IsAtoms w 0 w.heap.size A n c xs) :
    Calls Tryz.prog 87 #[listV A n c] w (zas (zaj xs) w) := by
  have hn := h.len; unfold maxLen at hn; have L := hid h.1; have H := hid h; clear h; unfold listV; have hw0 := zac w (.cells #[.slice A n c, .func (.func 88) #[] #[]] 92); have X0 := hid (Box.new w (.slice A n c) (.func (.func 88) #[] #[]) 92); go_enter Tryz.func87, Tryz.ntmps87
  go_wp2; go_loopw [3] (fun i wr => ∃ k : Nat, 1 ≤ k ∧ k ≤ n + 1 ∧ i = .int .i64 k ∧ zaj (xs.take k) = true ∧ Below (w.alloc (.cells #[.slice A n c, .func (.func 88) #[] #[]] 92)).heap.size (w.alloc (.cells #[.slice A n c, .func (.func 88) #[] #[]] 92)) wr) (fun i _ => n + 1 - (intOf i).toNat)
  case atStart => exact ⟨1, by omega, by omega, rfl, rises_next (xs := xs) rfl rfl, Below.refl _ _⟩
  case round =>
    obtain ⟨k, hk1, hk, rfl, hr, hb⟩ := hrel; have HR := hid hr; clear hr; have HB := zaa hw0 hb; have XB := X0.out.later hb; by_cases hlt : k < n
    · obtain ⟨p, q, hA, hlo, hhi, hg, hE⟩ := (H.out.below AtomE.stays HB (nl _)).at_ hlt
      obtain ⟨A', n', c', d1, d3, d4, d5⟩ := hE.out; clear hE; obtain ⟨j, hj⟩ : ∃ j, k = j + 1 := ⟨k - 1, by omega⟩; have a5 : j < n := qaa; have a6 : (k : Int) - 1 = (j : Int) := qaa; have hwj : IntKind.i64.wrap (j : Int) = (j : Int) := qap; have HJ := hid hj; clear hj; obtain ⟨p', q', a2, a9, a8, a4, a3⟩ := (H.out.below AtomE.stays HB (nl _)).at_ a5; obtain ⟨A2, n2, c2, f1, f3, f4, f5⟩ := a3.out; clear a3; obtain rfl : p = p' := by rw [hA] at a2; injection a2
      clear a2; subst hA; obtain ⟨b0, b1, b2⟩ := XB; have hsz := HB.size; have HG := hid hg; have HG' := hid a4; clear hg a4; have HT := hid (d5.keep (w' := wr.drew) (lo' := 0) (hi' := wr.drew.heap.size) (fun _ _ _ => rfl) (nl _) HB.size); clear d5; have a7 := hid (f5.keep (w' := wr.drew) (lo' := 0) (hi' := wr.drew.heap.size) (fun _ _ _ => rfl) (nl _) HB.size); clear f5; have hbd := hb.drew; have e1 : wr.drew.cell? ⟨w.heap.size, 0, none⟩ = some (.slice (some p) n c) := b1; have e2 : wr.drew.cell? ⟨w.heap.size, 1, none⟩ = some (.func (.func 88) #[] #[]) := b2
      have x1 : wr.drew.cell? (p.add (k * 2)) = some (.string q.1) := d1; have x2 : wr.drew.cell? ⟨(p.add (k * 2)).block, (p.add (k * 2)).off + 1, none⟩ = some (.slice A' n' c') := d4; have x3 : wr.drew.cell? (p.add (j * 2)) = some (.string q'.1) := f1; have x4 : wr.drew.cell? ⟨(p.add (j * 2)).block, (p.add (j * 2)).off + 1, none⟩ = some (.slice A2 n2 c2) := f4; go_wp2_with fail
      go_region_held3 (fun W => ((W.cell? ⟨w.heap.size, 0, none⟩ = some (.slice (some p) n c) ∧ W.cell? ⟨w.heap.size, 1, none⟩ = some (.func (.func 88) #[] #[])) ∧ W.cell? (p.add (k * 2)) = some (.string q.1) ∧ W.cell? ⟨(p.add (k * 2)).block, (p.add (k * 2)).off + 1, none⟩ = some (.slice A' n' c')) ∧ W.cell? (p.add (j * 2)) = some (.string q'.1) ∧ W.cell? ⟨(p.add (j * 2)).block, (p.add (j * 2)).off + 1, none⟩ = some (.slice A2 n2 c2))
        (first | (with_reducible exact ⟨⟨⟨y5, y6⟩, y1, y2⟩, y3, y4⟩) | (with_reducible exact ⟨⟨⟨e1, e2⟩, x1, x2⟩, x3, x4⟩) | (with_reducible exact ⟨⟨⟨b1, b2⟩, d1, d4⟩, f1, f4⟩))
        (((with_reducible refine (zgk q'.1 q.1 A2 A' n2 c2 n' c' q'.2 q.2 _ a7.out HT.out).mono ?_); rintro e w1 ⟨rfl, hb1⟩; have y1 := (hb1.cell (p := p.add (k * 2)) qcz).trans d1; have y2 := (hb1.cell (p := ⟨(p.add (k * 2)).block, (p.add (k * 2)).off + 1, none⟩) qcz).trans d4; have y3 := (hb1.cell (p := p.add (j * 2)) qcz).trans f1; have y4 := (hb1.cell (p := ⟨(p.add (j * 2)).block, (p.add (j * 2)).off + 1, none⟩) qcz).trans f4; have y5 := (hb1.cell (p := ⟨w.heap.size, 0, none⟩) b0).trans b1; have y6 := (hb1.cell (p := ⟨w.heap.size, 1, none⟩) b0).trans b2))
      all_goals
        clear y1 y2 y3 y4 y5 y6 x1 x2 x3 x4 e1 e2; go_wp2
      all_goals first
        | (go_ret; exact ⟨zdf (znq (a := q') (b := q) HG'.out (by rw [← HJ.out]; exact HG.out) (Int.not_lt.2 qbl)).symm, zaa hw0 (zaa hbd hb1)⟩)
        | (go_roundw
           case rel => exact ⟨k + 1, by omega, by omega, by go_num, by
             have h1 := HG.out; have h2 := HR.out; rw [HJ.out] at h1 h2 ⊢; exact zis (a := q') (b := q) HG'.out h1 h2 qbl, zaa hbd hb1⟩
           case measure => exact qms)
    · have E := hid (show zaj xs = true by have := HR.out; rwa [List.take_of_length_le (by have := L.out; omega)] at this)
      obtain ⟨b0, b1, b2⟩ := XB; go_wp2; go_ret; exact ⟨zdf E.out.symm, HB⟩
theorem zhe (A : Option Addr) (n c : Nat) (xs : List At) (w : World) (h : IsAtoms w 0 w.heap.size A n c xs) :
    Calls Tryz.prog 53 #[.slice A n c] w (zas (zae 300 xs) w) := by
  have hn := h.len; unfold maxLen at hn; have L := hid h.1; have H := hid h; clear h; by_cases hlong : 300 < n
  · have hi : (300 : Int) < (n : Int) := qaa
    have E := hid (factsB_long (m := 300) (xs := xs) (by rw [L.out]; exact hlong)); go_enter Tryz.func53, Tryz.ntmps53; go_wp2; go_ret; exact ⟨zdf E.out.symm, Below.refl _ _⟩
  · have hi : ¬ (300 : Int) < (n : Int) := qaa
    go_enter Tryz.func53, Tryz.ntmps53; go_wp2; go_loopw [4, 10] (fun _ i wr => ∃ k : Nat, k ≤ n ∧ i = .int .i64 k ∧ (xs.take k).all zca = true ∧ Below w.heap.size w wr) (fun _ i _ => n - (intOf i).toNat)
    case atStart => exact ⟨0, Nat.zero_le _, rfl, rfl, Below.refl _ _⟩
    case round =>
      obtain ⟨k, hk, rfl, hd, hb⟩ := hrel; have HD := hid hd; clear hd; by_cases hlt : k < n
      · obtain ⟨p, q, hA, hlo, hhi, hg, hE⟩ := (H.out.below AtomE.stays hb (nl _)).at_ hlt
        obtain ⟨A', n', c', d1, d3, d4, d5⟩ := hE.out; clear hE; subst hA; have HG := hid hg; clear hg; have hb1 := zac wr (.cells #[.string q.1, .slice A' n' c'] 51); have HT := hid ((d5.keep (lo' := 0) (hi' := wr.heap.size) (fun _ _ _ => rfl) (nl _) hb.size).up hb1); clear d5; cases hF : zca q
        · have a2 : zca (q.1, q.2) = false := hF
          have E := hid (factsB_no (m := 300) HG.out hF); clear hF; go_wp2_with fail; refine (factOk_any _ _ _ _ q.2 _ d3 HT.out).mono ?_; rintro e w1 ⟨rfl, hb2⟩; go_wp2; go_ret; exact ⟨zdf E.out.symm, zaa hb (zaa hb1 hb2)⟩
        · have a2 : zca (q.1, q.2) = true := hF
          have EF := hid hF; clear hF; go_wp2_with fail; refine (factOk_any _ _ _ _ q.2 _ d3 HT.out).mono ?_; rintro e w1 ⟨rfl, hb2⟩; go_wp2; go_roundw
          case rel => exact ⟨k + 1, by omega, by go_num, zkd HG.out HD.out EF.out, zaa hb (zaa hb1 hb2)⟩
          case measure => exact qms
      · have E := hid (show zae 300 xs = zaj xs by
          have h1 := HD.out; have h2 := L.out; rw [List.take_of_length_le qaa] at h1; unfold zae; rw [h1, Bool.true_and, decide_eq_true qaa, Bool.and_true])
        go_wp2_with fail; refine (zdy _ _ _ _).mono ?_; rintro e w1 ⟨rfl, hb1⟩; go_wp2_with fail; refine (isSorted_any _ _ _ xs _ (H.out.up AtomE.stays (zaa hb hb1))).mono ?_; rintro e w2 ⟨rfl, hb2⟩; go_wp2; go_ret; exact ⟨zdf E.out.symm, zaa (zaa hb hb1) hb2⟩
end Go.Proofs.YtogonjkklioaaaaGreatDoor

namespace Go.Proofs.YtogonjkklioaaaaGreatDoor
open Go.RowKit Go.Deep
abbrev Rf := ByteArray × Option Addr × Nat × Nat × List Tm
def rAt (r : Rf) : At := (r.1, r.2.2.2.2)
def rVal (r : Rf) : Value := .agg #[.string r.1, .slice r.2.1 r.2.2.1 r.2.2.2.1]
def RefE (w : World) (lo hi : Nat) (p : Addr) (r : Rf) : Prop :=
  w.cell? p = some (.string r.1) ∧ r.1.size ≤ maxLen ∧ w.cell? (zda p 1) = some (.slice r.2.1 r.2.2.1 r.2.2.2.1) ∧ IsTerms w lo hi r.2.1 r.2.2.1 r.2.2.2.1 r.2.2.2.2
theorem RefE.stays : zpx RefE := by
  intro w w' lo hi lo' hi' p a ⟨h1, h2, h3, h4⟩ hp1 hp2 hk hl hh; exact ⟨(hk p hp1 hp2).trans h1, h2, (hk (zda p 1) hp1 hp2).trans h3, h4.keep hk hl hh⟩
abbrev IsRefs := IsSeq 2 RefE
theorem IsRefs.atoms {w : World} {lo hi n c : Nat} {A : Option Addr} {rs : List Rf} (h : IsRefs w lo hi A n c rs) : IsAtoms w lo hi A n c (rs.map rAt) := by
  obtain ⟨h1, h2, h3, h4⟩ := h; refine ⟨by simpa using h1, h2, h3, fun hn => ?_⟩; obtain ⟨p, hp, hl, hh, he⟩ := h4 hn; refine ⟨p, hp, hl, hh, fun i x hx => ?_⟩; rw [List.getElem?_map] at hx; obtain ⟨r, hr, rfl⟩ := Option.map_eq_some_iff.1 hx; obtain ⟨e1, e2, e3, e4⟩ := he i r hr; exact ⟨e1, e2, _, _, _, e3, e4⟩
theorem zkp {w : World} {lo hi n c : Nat} {A : Option Addr} {xs : List At} (h : IsAtoms w lo hi A n c xs) : ∃ rs, IsRefs w lo hi A n c rs ∧ rs.map rAt = xs := by
  obtain ⟨h1, h2, h3, h4⟩ := h; by_cases hn : 0 < n
  · obtain ⟨p, hp, hl, hh, he⟩ := h4 hn
    have a3 : ∀ i, i < n → ∃ r : Rf, RefE w lo hi (p.add (i * 2)) r ∧ xs[i]? = some (rAt r) := by
      intro i hi'; have hx : xs[i]? = some xs[i] := List.getElem?_eq_getElem qaa; obtain ⟨e1, e2, B, m, d, e3, e4⟩ := he i _ hx; exact ⟨(xs[i].1, B, m, d, xs[i].2), ⟨e1, e2, e3, e4⟩, hx⟩
    obtain ⟨f, hf⟩ := choose_lt a3; refine ⟨(List.range n).map f, ⟨by simp, h2, h3, fun _ => ⟨p, hp, hl, hh, fun i r hr => ?_⟩⟩, ?_⟩
    · have a2 : i < n := by
        have := (List.getElem?_eq_some_iff.1 hr).1; simpa using this
      have a4 : f i = r := by simpa [a2] using hr
      rw [← a4]; exact (hf i a2).1
    · apply List.ext_getElem?
      intro i; by_cases a2 : i < n
      · rw [(hf i a2).2]; simp [a2]
      · rw [List.getElem?_eq_none qai, List.getElem?_eq_none qaa]
  · have a5 : n = 0 := qaa
    subst a5; have : xs = [] := List.eq_nil_of_length_eq_zero h1; subst this; exact ⟨[], ⟨rfl, h2, h3, fun hn => absurd hn qaa⟩, rfl⟩
theorem zlp (p : Addr) (a b : Nat) : (p.add a).add b = p.add (a + b) := by
  unfold Addr.add; by_cases ha : a = 0
  · subst ha; simp
  · by_cases hb : b = 0
    · subst hb; simp [ha]
    · simp [ha, hb, Nat.add_assoc]
theorem IsRefs.first {w : World} {lo hi n c : Nat} {A : Option Addr} {r : Rf} {rs : List Rf} (h : IsRefs w lo hi A n c (r :: rs)) :
    ∃ p, A = some p ∧ lo ≤ p.block ∧ p.block < hi ∧ 0 < n ∧ RefE w lo hi p r ∧ IsRefs w lo hi (some (p.add 2)) (n - 1) (c - 1) rs := by
  obtain ⟨h1, h2, h3, h4⟩ := h; have hn : 0 < n := by rw [← h1]; simp
  obtain ⟨p, hp, hl, hh, he⟩ := h4 hn; have e0 := he 0 r rfl; have z : p.add (0 * 2) = p := by unfold Addr.add; simp
  rw [z] at e0; refine ⟨p, hp, hl, hh, hn, e0, by simp at h1; omega, by omega, by omega, fun _ => ⟨_, rfl, by rw [zag]; exact hl, by rw [zag]; exact hh, fun i x hx => ?_⟩⟩; rw [zlp, show 2 + i * 2 = (i + 1) * 2 by omega]; exact he (i + 1) x (by simpa using hx)
def zgs : List At → List At → Nat
  | _, [] => 0
  | [], _ :: _ => 1
  | a :: _, b :: _ => if zad a b < 0 then 0 else if 0 < zad a b then 1 else 2
def zaz : List Rf → List Rf → List (Rf × Nat)
  | ra, [] => ra.map fun r => (r, 0)
  | [], b :: rb => (b :: rb).map fun r => (r, 1)
  | a :: ra, b :: rb =>
    if zad (rAt a) (rAt b) < 0 then (a, 0) :: zaz ra (b :: rb)
    else if 0 < zad (rAt a) (rAt b) then (b, 1) :: zaz (a :: ra) rb
    else (a, 2) :: zaz ra rb
termination_by ra rb => ra.length + rb.length
theorem zjr (ra : List Rf) : zaz ra [] = ra.map fun r => (r, 0) := by rw [zaz]
theorem merge_left (rb : List Rf) : zaz [] rb = rb.map fun r => (r, 1) := by
  cases rb with
  | nil => rw [zjr]; rfl
  | cons b rb => rw [zaz]
theorem merge_first {a : Rf} {ra rb : List Rf} (h : zgs ((a :: ra).map rAt) (rb.map rAt) = 0) : zaz (a :: ra) rb = (a, 0) :: zaz ra rb := by
  cases rb with
  | nil => rw [zjr, zjr]; rfl
  | cons b rb =>
    have h' : (if zad (rAt a) (rAt b) < 0 then 0 else if 0 < zad (rAt a) (rAt b) then 1 else 2) = 0 := h; rw [zaz]; by_cases hc : zad (rAt a) (rAt b) < 0
    · rw [if_pos hc]
    · rw [if_neg hc] at h'; split at h' <;> simp at h'
theorem merge_second {b : Rf} {ra rb : List Rf} (h : zgs (ra.map rAt) ((b :: rb).map rAt) = 1) : zaz ra (b :: rb) = (b, 1) :: zaz ra rb := by
  cases ra with
  | nil => rw [merge_left, merge_left]; rfl
  | cons a ra =>
    have h' : (if zad (rAt a) (rAt b) < 0 then 0 else if 0 < zad (rAt a) (rAt b) then 1 else 2) = 1 := h; rw [zaz]; by_cases hc : zad (rAt a) (rAt b) < 0
    · rw [if_pos hc] at h'; simp at h'
    · rw [if_neg hc] at h' ⊢
      by_cases hc' : 0 < zad (rAt a) (rAt b)
      · rw [if_pos hc']
      · rw [if_neg hc'] at h'; simp at h'
theorem merge_both {a b : Rf} {ra rb : List Rf} (h : zgs ((a :: ra).map rAt) ((b :: rb).map rAt) = 2) : zaz (a :: ra) (b :: rb) = (a, 2) :: zaz ra rb := by
  have h' : (if zad (rAt a) (rAt b) < 0 then 0 else if 0 < zad (rAt a) (rAt b) then 1 else 2) = 2 := h; rw [zaz]; by_cases hc : zad (rAt a) (rAt b) < 0
  · rw [if_pos hc] at h'; simp at h'
  · rw [if_neg hc] at h' ⊢
    by_cases hc' : 0 < zad (rAt a) (rAt b)
    · rw [if_pos hc'] at h'; simp at h'
    · rw [if_neg hc']
end Go.Proofs.YtogonjkklioaaaaGreatDoor

namespace Go.Proofs.YtogonjkklioaaaaGreatDoor
open Go.RowKit
def Blk (W : World) (b : Nat) (t : TypeId) (cs : Array Value) : Prop := W.heap[b]? = some (.cells cs t (0, 0))
section
variable {W W' w1 : World} {b B n₀ size k m : Nat} {t e : TypeId} {cs : Array Value} {v v' : Value} {xs ys : List Value} {tmp : Obj}
theorem Blk.lt (h : Blk W b t cs) : b < W.heap.size := (Array.getElem?_eq_some_iff.1 h).1
theorem Blk.cell (h : Blk W b t cs) (i : Nat) : W.cell? ⟨b, i, none⟩ = cs[i]? := by
  unfold Blk at h; simp [World.cell?, h]
theorem Blk.frozen (h : Blk W b t cs) (i : Nat) : W.frozen? ⟨b, i, none⟩ = false := by
  unfold Blk at h; simp [World.frozen?, h]
theorem Blk.new (W : World) (t : TypeId) (cs : Array Value) : Blk (W.alloc (.cells cs t)) W.heap.size t cs := World.alloc_heap_new W _
theorem Blk.kept {row : Option Nat} (h : Blk W b t cs) (hg : W.grownBy W' row) (hne : some b ≠ row) : Blk W' b t cs := (hg.block b h.lt hne).trans h
theorem Blk.alloc (h : Blk W b t cs) (o : Obj) : Blk (W.alloc o) b t cs := h.kept (World.grownBy_alloc W o none) qag
theorem Blk.below (h : Blk W b t cs) (hb : Below W.heap.size W W') : Blk W' b t cs := (hb.block b h.lt).trans h
theorem Blk.far (h : Blk W b t cs) {p : Addr} (hp : b ≠ p.block) (u : Value) : Blk (W.setCell p u) b t cs := (hs_ W p u b hp).trans h
theorem Blk.own {β : Type} (b : Nat) (t : TypeId) (cs : Array Value) : Own (fun (_ : β) W => Blk W b t cs) := fun s X Y row hs hg hrow =>
  hs.kept hg (fun e' => by obtain ⟨o, ho, hc⟩ := hrow b e'.symm; rw [show X.heap[b]? = _ from hs] at ho; cases ho; cases hc)
theorem Blk.putObj (h : Blk W b t cs) {l : Nat} {o : Obj} (o' : Obj) (hl : W.heap[l]? = some o) (ho : o.isCells = false) : Blk (W.putObj l o') b t cs :=
  (Blk.own (β := Unit) b t cs).putObj o' (s := ()) h hl ho
theorem Blk.not_row (h : Blk W b t cs) (hte : t ≠ e) (hr : W.ownsRow n₀ e size v k xs) : some b ≠ v.ownBlock := by
  rcases hr.2 with ⟨rfl, _⟩ | ⟨g, cap, cur, rfl, _, hgb, _⟩
  · simp [Value.ownBlock]
  · intro e'
    obtain rfl : b = g := by simpa [Value.ownBlock] using e'
    have := (show W.heap[b]? = _ from h).symm.trans hgb; simp at this; exact hte this.2
theorem Blk.through (h : Blk W b t cs) (hte : t ≠ e) (hrow : W.ownsRow n₀ e size v k xs) (hgrow : (W.alloc tmp).grownBy w1 v.ownBlock) (hne : b ≠ B) (v' : Value) : Blk (w1.setCell ⟨B, 0, none⟩ v') b t cs :=
  ((h.alloc tmp).kept hgrow (h.not_row hte hrow)).far hne v'
end
theorem Blk.made (w : World) {b : Nat} (t : TypeId) (cs : Array Value) (h : b = w.heap.size) : Blk (w.alloc (.cells cs t)) b t cs := by subst h; exact Blk.new w t cs
theorem Blk.same {W W' : World} {b : Nat} {t : TypeId} {cs : Array Value} (h : Blk W b t cs) (h' : Blk W' b t cs) : W'.heap[b]? = W.heap[b]? := (show W'.heap[b]? = _ from h').trans (show W.heap[b]? = _ from h).symm
theorem Blk.set {W : World} {b : Nat} {t : TypeId} {cs : Array Value} (h : Blk W b t cs) (i : Nat) (u : Value) : Blk (W.setCell ⟨b, i, none⟩ u) b t (cs.setIfInBounds i u) := by
  unfold Blk at h ⊢; simp [World.setCell, Array.getElem?_modify, h]
def zai (rs : List Rf) : List Value := rs.flatMap fun r => [.string r.1, .slice r.2.1 r.2.2.1 r.2.2.2.1]
theorem zeo : ∀ rs : List Rf, (zai rs).length = rs.length * 2
  | [] => rfl
  | r :: rs => by
    have := zeo rs; unfold zai at *; simp only [List.flatMap_cons, List.length_append, List.length_cons, List.length_nil, this]; omega
theorem zcy (rs : List Rf) (r : Rf) : zai (rs ++ [r]) = zai rs ++ [.string r.1, .slice r.2.1 r.2.2.1 r.2.2.2.1] := by
  unfold zai; simp [List.flatMap_append]
theorem zji : ∀ {rs : List Rf} {i : Nat} {r : Rf}, rs[i]? = some r → (zai rs)[i * 2]? = some (.string r.1) ∧ (zai rs)[i * 2 + 1]? = some (.slice r.2.1 r.2.2.1 r.2.2.2.1)
  | [], _, _, h => by simp at h
  | q :: rs, 0, r, h => by
    simp at h; subst h
    exact ⟨rfl, rfl⟩
  | q :: rs, i + 1, r, h => by
    have ih := zji (rs := rs) (i := i) (r := r) qbi; have e : zai (q :: rs) = .string q.1 :: .slice q.2.1 q.2.2.1 q.2.2.2.1 :: zai rs := rfl; rw [e, show (i + 1) * 2 = i * 2 + 1 + 1 by omega]; exact ⟨by simpa using ih.1, by simpa using ih.2⟩
theorem rcells_one (rs : List Rf) : ∀ u ∈ zai rs, u.oneCell' = true := by
  intro u hu; unfold zai at hu; obtain ⟨r, _, hr⟩ := List.mem_flatMap.1 hu; simp at hr; rcases hr with rfl | rfl <;> rfl
def RefsIn (W : World) (lo hi : Nat) (rs : List Rf) : Prop := ∀ r ∈ rs, r.1.size ≤ maxLen ∧ IsTerms W lo hi r.2.1 r.2.2.1 r.2.2.2.1 r.2.2.2.2
theorem RefsIn.of {W : World} {lo hi n c : Nat} {A : Option Addr} {rs : List Rf} (h : IsRefs W lo hi A n c rs) : RefsIn W lo hi rs := by
  obtain ⟨h1, _, _, h4⟩ := h; intro r hr; obtain ⟨i, hi⟩ := List.getElem?_of_mem hr; have hn : 0 < n := by have := (List.getElem?_eq_some_iff.1 hi).1; omega
  obtain ⟨p, _, _, _, he⟩ := h4 hn; obtain ⟨_, e2, _, e4⟩ := he i r hi; exact ⟨e2, e4⟩
theorem RefsIn.keep {W W' : World} {lo hi lo' hi' : Nat} {rs : List Rf} (h : RefsIn W lo hi rs) (hk : ∀ q : Addr, lo ≤ q.block → q.block < hi → W'.cell? q = W.cell? q) (h1 : lo' ≤ lo) (h2 : hi ≤ hi') : RefsIn W' lo' hi' rs :=
  fun r hr => ⟨(h r hr).1, (h r hr).2.keep hk h1 h2⟩
theorem zgb {W : World} {base lo hi : Nat} {v : Value} {rs : List Rf} {n : Nat} (h : W.ownsRow base 51 2 v n (zai rs)) (hn : n = rs.length) (hb : lo ≤ base) (hr : RefsIn W lo hi rs) (hh : hi ≤ W.heap.size) :
    ∃ A c, v = .slice A n c ∧ IsRefs W lo W.heap.size A n c rs := by
  subst hn; rcases h.2 with ⟨rfl, h0⟩ | ⟨g, cap, cur, rfl, hbg, hgb, hle, hcap, hsz, htk⟩
  · refine ⟨none, 0, by rw [h0], rfl, by omega, by unfold maxLen; omega, fun hp => absurd hp qaa⟩
  · have hlt := (Array.getElem?_eq_some_iff.1 hgb).1
    refine ⟨_, cap, rfl, rfl, hle, hcap, fun _ => ⟨_, rfl, by show lo ≤ g; omega, hlt, fun i r hi => ?_⟩⟩; obtain ⟨c1, c2⟩ := zji hi; have hil := (List.getElem?_eq_some_iff.1 hi).1; have a0 : ∀ j, (⟨g, 0, none⟩ : Addr).add j = ⟨g, j, none⟩ := fun j => by unfold Addr.add; split <;> simp_all
    have a2 : ∀ j u, (zai rs)[j]? = some u → W.cell? ⟨g, j, none⟩ = some u := by
      intro j u hu; have hj := (List.getElem?_eq_some_iff.1 hu).1; rw [zeo] at hj; rw [← htk, List.getElem?_take, if_pos qaa] at hu; simp [World.cell?, hgb]; simpa using hu
    rw [a0]; exact ⟨a2 _ _ c1, (hr r (List.mem_of_getElem? hi)).1, a2 _ _ c2, (hr r (List.mem_of_getElem? hi)).2.keep (fun _ _ _ => rfl) (nl _) hh⟩
theorem merge_len : ∀ ra rb : List Rf, (zaz ra rb).length ≤ ra.length + rb.length := by
  intro ra rb
  fun_induction zaz ra rb with
  | case1 ra => simp
  | case2 b rb => simp
  | case3 a ra b rb h ih => simp at *; omega
  | case4 a ra b rb h h' ih => simp at *; omega
  | case5 a ra b rb h h' ih => simp at *; omega
theorem merge_mem : ∀ ra rb : List Rf, ∀ x ∈ zaz ra rb, x.1 ∈ ra ∨ x.1 ∈ rb := by
  intro ra rb
  fun_induction zaz ra rb with
  | case1 ra => intro x hx; obtain ⟨r, hr, rfl⟩ := List.mem_map.1 hx; exact .inl hr
  | case2 b rb => intro x hx; obtain ⟨r, hr, rfl⟩ := List.mem_map.1 hx; exact .inr hr
  | case3 a ra b rb h ih => intro x hx; rcases List.mem_cons.1 hx with rfl | hx; · simp
                            rcases ih x hx with h | h <;> simp_all
  | case4 a ra b rb h h' ih => intro x hx; rcases List.mem_cons.1 hx with rfl | hx; · simp
                               rcases ih x hx with h | h <;> simp_all
  | case5 a ra b rb h h' ih => intro x hx; rcases List.mem_cons.1 hx with rfl | hx; · simp
                               rcases ih x hx with h | h <;> simp_all
def zgo (v : Nat) (l : List (Rf × Nat)) : List Rf := (l.filter fun x => x.2 == v).map (·.1)
theorem selR_yes {v : Nat} {l : List (Rf × Nat)} {x : Rf × Nat} (h : x.2 = v) : zgo v (l ++ [x]) = zgo v l ++ [x.1] := by
  unfold zgo; rw [List.filter_append]; simp [h]
theorem selR_no {v : Nat} {l : List (Rf × Nat)} {x : Rf × Nat} (h : ¬ x.2 = v) : zgo v (l ++ [x]) = zgo v l := by
  unfold zgo; rw [List.filter_append]; simp [h]
theorem selR_len (v : Nat) (l : List (Rf × Nat)) : (zgo v l).length ≤ l.length := by
  unfold zgo; rw [List.length_map]; exact List.length_filter_le _ _
theorem selR_mem {v : Nat} {l : List (Rf × Nat)} : ∀ r ∈ zgo v l, ∃ x ∈ l, x.1 = r := by
  intro r hr; unfold zgo at hr; obtain ⟨x, hx, rfl⟩ := List.mem_map.1 hr; exact ⟨x, (List.mem_filter.1 hx).1, rfl⟩
end Go.Proofs.YtogonjkklioaaaaGreatDoor
