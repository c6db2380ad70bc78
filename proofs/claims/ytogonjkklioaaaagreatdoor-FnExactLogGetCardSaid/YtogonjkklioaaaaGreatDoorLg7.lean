/-
  Texts of one claim, put together.
-/
import Derived.Test.YtogonjkklioaaaaGreatDoorLg6
import Derived.Test.YtogonjkklioaaaaGreatDoorLg4
import Derived.RangeFuncNested
import Derived.RangeFuncBox
namespace Go.Proofs.YtogonjkklioaaaaGreatDoor
open Go.RowKit Go.Shelf
attribute [local go_sem] Oper.semAt_some run_store_func

/-- What a round keeps: what lay below n₀, and the block b. -/
def KeepsToo (n₀ b : Nat) (W W' : World) : Prop := Below n₀ W W' ∧ W'.heap[b]? = W.heap[b]?

theorem KeepsToo.refl (n₀ b : Nat) (W : World) : KeepsToo n₀ b W W := ⟨Below.refl _ _, rfl⟩
theorem KeepsToo.trans {n₀ b : Nat} {A B C : World} (h : KeepsToo n₀ b A B) (k : KeepsToo n₀ b B C) : KeepsToo n₀ b A C := ⟨h.1.trans k.1, k.2.trans h.2⟩
theorem KeepsToo.of {n₀ b : Nat} {A B : World} (h : Below A.heap.size A B) (hn : n₀ ≤ A.heap.size) (hb : b < A.heap.size) : KeepsToo n₀ b A B := ⟨h.mono hn, h.block b hb⟩
theorem KeepsToo.drew (n₀ b : Nat) (A : World) : KeepsToo n₀ b A A.drew := ⟨(Below.refl _ _).drew, rfl⟩

/-- How long a slice is. -/
def lenV : Value → Nat
  | .slice _ n _ => n
  | _ => 0

theorem IsRefs.rest {w : World} {lo hi n c : Nat} {p : Addr} {r : Rf} {rs : List Rf} (h : IsRefs w lo hi (some p) n c (r :: rs)) :
    IsRefs w lo hi (if c = 1 then some p else some ⟨p.block, p.off + 2, none⟩) (n - 1) (c - 1) rs := by
  obtain ⟨q, e, h1, h2, h3, _, h4⟩ := h.first
  injection e with e
  subst e
  by_cases hc : c = 1
  · rw [if_pos hc]
    have hn : n = 1 := by have := h.2.1; omega
    obtain ⟨a, b, d, _⟩ := h4
    exact ⟨a, b, d, fun h0 => absurd h0 (by omega)⟩
  · rw [if_neg hc]; exact h4

theorem side_cases {ra rb : List Rf} (h : ¬ (ra = [] ∧ rb = [])) :
    (∃ a l, ra = a :: l ∧ sideN (ra.map rAt) (rb.map rAt) = 0) ∨ (∃ b l, rb = b :: l ∧ sideN (ra.map rAt) (rb.map rAt) = 1) ∨ (∃ a l b l', ra = a :: l ∧ rb = b :: l' ∧ sideN (ra.map rAt) (rb.map rAt) = 2) := by
  cases rb with
  | nil =>
    cases ra with
    | nil => exact absurd ⟨rfl, rfl⟩ h
    | cons a l => exact .inl ⟨a, l, rfl, rfl⟩
  | cons b l' =>
    cases ra with
    | nil => exact .inr (.inl ⟨b, l', rfl, rfl⟩)
    | cons a l =>
      have hq : sideN ((a :: l).map rAt) ((b :: l').map rAt) = if atomCmp (rAt a) (rAt b) < 0 then 0 else if 0 < atomCmp (rAt a) (rAt b) then 1 else 2 := rfl
      by_cases h1 : atomCmp (rAt a) (rAt b) < 0
      · exact .inl ⟨a, l, rfl, by rw [hq, if_pos h1]⟩
      · by_cases h2 : 0 < atomCmp (rAt a) (rAt b)
        · exact .inr (.inl ⟨b, l', rfl, by rw [hq, if_neg h1, if_pos h2]⟩)
        · exact .inr (.inr ⟨a, l, b, l', rfl, rfl, by rw [hq, if_neg h1, if_neg h2]⟩)

theorem pre_len {pre t : List (Rf × Nat)} {x : Rf × Nat} {l : List (Rf × Nat)} (h : l = pre ++ x :: t) : pre.length < l.length := by
  rw [h]; simp

theorem nextSide_is (A0 : Option Addr) (n0 c0 : Nat) (A B : Option Addr) (n c n' c' : Nat) (ra rb : List Rf) (w : World) {lo lo' hi : Nat} (h : IsRefs w lo hi A n c ra) (h' : IsRefs w lo' hi B n' c' rb) (hh : hi ≤ w.heap.size) (v : Int) (hv : ((sideN (ra.map rAt) (rb.map rAt) : Nat) : Int) = v) :
    Calls Tryz.prog 121 #[.agg #[.slice A0 n0 c0, .func (.func 88) #[] #[]], .slice A n c, .slice B n' c'] w (IntPost v w) := by
  rw [← hv]
  exact nextSide_any A0 n0 c0 A B n c n' c' ra rb w (h.keep RefE.stays (fun _ _ _ => rfl) (Nat.zero_le _) hh) (h'.keep RefE.stays (fun _ _ _ => rfl) (Nat.zero_le _) hh)

theorem joinOn {l pre r t : List (Rf × Nat)} {x : Rf × Nat} (h : l = pre ++ r) (h' : r = x :: t) : l = (pre ++ [x]) ++ t := by
  rw [h, h', List.append_assoc]; rfl

theorem joinPre {l pre r t : List (Rf × Nat)} {x : Rf × Nat} (h : l = pre ++ r) (h' : r = x :: t) : pre ++ [x] <+: l := by
  rw [joinOn h h']; exact List.prefix_append _ _

set_option maxRecDepth 100000 in
set_option maxHeartbeats 4000000 in
theorem merged1_in (n : Nat) (hn : 1 ≤ n) (l Bs Bo n₀ : Nat) (A0 B0 : Option Addr) (m c m' c' : Nat) (ra0 rb0 : List Rf) (J Jx : List (Rf × Nat) → World → Prop) (W : World) (hJ : AbidesFrom W.heap.size J)
    (hY : ∀ pre x W1, J pre W1 → pre.length < (mergeR ra0 rb0).length → YieldAt Fence.wide (n - 1) Tryz.prog l #[rVal x.1, .int .i64 ((x.2 : Nat) : Int)] W1 fun e W' =>
      (e = .returned (.bool true) ∧ J (pre ++ [x]) W' ∧ KeepsToo n₀ Bs W1 W') ∨ (e = .returned (.bool false) ∧ Jx (pre ++ [x]) W'))
    (hs0 : W.cell? ⟨Bs, 0, none⟩ = some (.slice A0 m c)) (hs1 : W.cell? ⟨Bs, 1, none⟩ = some (.func (.func 88) #[] #[])) (ho0 : W.cell? ⟨Bo, 0, none⟩ = some (.slice B0 m' c'))
    (hn0 : n₀ ≤ W.heap.size) (hA : IsRefs W 0 n₀ A0 m c ra0) (hB : IsRefs W 0 n₀ B0 m' c' rb0) (h0 : J [] W) :
    CallsIn Fence.wide n Tryz.prog 120 #[.func (.yield l) #[] #[], .pointer (some ⟨Bs, 0, none⟩), .pointer (some ⟨Bo, 0, none⟩)] W fun e W' => (∃ v, e = .returned v) ∧
      ((∃ ys, ys = mergeR ra0 rb0 ∧ J ys W') ∨ (∃ pre, pre <+: mergeR ra0 rb0 ∧ Jx pre W')) := by
  have HA := Lib.hid hA; clear hA
  have HB := Lib.hid hB; clear hB
  have HY := Lib.hid hY; clear hY
  have HJ0 := Lib.hid hJ; clear hJ
  have hmx : Tryz.prog.follows .mixedOrders = true := by kernel_rfl
  have hBs : Bs < W.heap.size := World.block_lt_of_cell? _ _ hs0
  refine callsIn_of_wp Tryz.func120 rfl trivial ?_ rfl
  simp only [Tryz.ntmps120, List.size_toArray, List.length_cons, List.length_nil, Nat.reduceAdd, Nat.reduceSub, Array.replicate_succ, Array.replicate_zero, List.push_toArray, List.append_toArray, List.nil_append, List.cons_append]
  gi_wp2
  gi_region
  all_goals gi_wp2
  have S0 := Lib.hid hs0; have S1 := Lib.hid hs1; clear hs0 hs1 ho0
  gi_loopw [4, 5] (fun a b wr => ∃ (A : Option Addr) (n c : Nat) (B : Option Addr) (n' c' : Nat) (ra rb : List Rf) (pre : List (Rf × Nat)), a = .slice A n c ∧ b = .slice B n' c' ∧ IsRefs wr 0 n₀ A n c ra ∧ IsRefs wr 0 n₀ B n' c' rb ∧ mergeR ra0 rb0 = pre ++ mergeR ra rb ∧ J pre wr ∧ KeepsToo n₀ Bs W wr) (fun a b _ => lenV a + lenV b)
  case atStart => exact ⟨A0, m, c, B0, m', c', ra0, rb0, [], rfl, rfl, HA.out.below RefE.stays ((Below.refl _ _).drew) (Nat.le_refl _), HB.out.below RefE.stays ((Below.refl _ _).drew) (Nat.le_refl _), rfl, HJ0.out _ _ _ none h0 (grownOf ((Below.refl _ _).drew) (Nat.le_refl _)) (fun r e => by cases e), KeepsToo.drew _ _ _⟩
  case round =>
    obtain ⟨A, n1, c1, B, n2, c2, ra, rb, pre, rfl, rfl, hra, hrb, hm, hJs, hk⟩ := hrel
    have HJ := Lib.hid hJs; clear hJs
    have HM := Lib.hid hm; clear hm
    have L1 := hra.len; have L2 := hrb.len
    unfold maxLen at L1 L2
    have E1 := Lib.hid hra.1; have E2 := Lib.hid hrb.1
    have HRA := Lib.hid hra; have HRB := Lib.hid hrb; clear hra hrb
    have hz0 := hk.1.size
    have hzB : Bs < wr.heap.size := Nat.lt_of_lt_of_le hBs hz0
    have s0 : wr.cell? ⟨Bs, 0, none⟩ = some (.slice A0 m c) := (World.cell?_of_block hk.2).trans S0.out
    have s1 := (World.cell?_of_block (a := ⟨Bs, 1, none⟩) hk.2).trans S1.out
    have hn0r : n₀ ≤ wr.heap.size := Nat.le_trans hn0 hz0
    have HK := Lib.hid hk; clear hk
    by_cases hend : ra = [] ∧ rb = []
    · obtain ⟨rfl, rfl⟩ := hend
      have hz1 : n1 = 0 := by have := E1.out; simp at this; omega
      have hz2 : n2 = 0 := by have := E2.out; simp at this; omega
      subst hz1; subst hz2
      gi_wp2
      go_end0
      exact ⟨⟨_, rfl⟩, .inl ⟨_, rfl, by have := HM.out; rw [merge_nil, List.map_nil, List.append_nil] at this; rw [this]; exact HJ.out⟩⟩
    · rcases side_cases hend with ⟨a, la, rfl, hsd⟩ | ⟨b, lb, rfl, hsd⟩ | ⟨a, la, b, lb, rfl, rfl, hsd⟩
      · obtain ⟨p, hA, hlo, hhi, hnp, ⟨d1, d2, d3, d4⟩, _⟩ := HRA.out.first
        subst hA
        have HSD := Lib.hid (show ((sideN _ _ : Nat) : Int) = 0 from by rw [hsd]; rfl)
        have HMG := Lib.hid (merge_first hsd)
        clear hsd
        have hi : ¬ (n1 : Int) ≤ 0 := by omega
        have hi : (0 : Int) < (n1 : Int) := by omega
        have hpz : p.block < wr.heap.size := Nat.lt_of_lt_of_le hhi hn0r
        gi_wp2_with (refine ⟨trivial, ?_⟩; gi_at_call 121; refine (callsIn_wide.2 (nextSide_is A0 m c (some p) B n1 c1 n2 c2 (a :: la) rb _ HRA.out HRB.out hn0r 0 HSD.out)).mono ?_; rintro e w1 ⟨rfl, hb1⟩; have x1 := (hb1.cell (p := p) hpz).trans d1; have x2 := (hb1.cell (p := ⟨p.block, p.off + 1, none⟩) hpz).trans d3; have hyy : YieldAt Fence.wide (n - 1) Tryz.prog l #[.agg #[.string a.1, .slice a.2.1 a.2.2.1 a.2.2.2.1], .int .i64 0] w1 (fun e W' => (e = .returned (.bool true) ∧ J (pre ++ [(a, 0)]) W' ∧ KeepsToo n₀ Bs w1 W') ∨ (e = .returned (.bool false) ∧ Jx (pre ++ [(a, 0)]) W')) := HY.out pre (a, 0) w1 (HJ0.out _ _ _ none HJ.out (grownOf hb1 (Nat.le_refl _)) (fun r e => by cases e)) (pre_len (HM.out.trans (by rw [HMG.out]))); obtain ⟨fn, tmps, assign, body, hy, hR⟩ := hyy)
        refine hR.mono ?_
        rintro e W3 (⟨rfl, hJ3, hk3⟩ | ⟨rfl, hJx3⟩)
        · gi_wp2
          have KK := (KeepsToo.of hb1 hn0r hzB).trans hk3
          go_roundw
          case rel => exact ⟨_, _, _, B, n2, c2, la, rb, pre ++ [(a, 0)], rfl, rfl, HRA.out.rest.below RefE.stays KK.1 (Nat.le_refl _), HRB.out.below RefE.stays KK.1 (Nat.le_refl _), joinOn HM.out HMG.out, hJ3, HK.out.trans KK⟩
          case measure => simp [lenV]; omega
        · gi_wp2
          refine bodyPost_ret (results_none rfl _ _ _) rfl ?_
          exact ⟨⟨_, rfl⟩, .inr ⟨_, joinPre HM.out HMG.out, hJx3⟩⟩
      · obtain ⟨p, hA, hlo, hhi, hnp, ⟨d1, d2, d3, d4⟩, _⟩ := HRB.out.first
        subst hA
        have HSD := Lib.hid (show ((sideN _ _ : Nat) : Int) = 1 from by rw [hsd]; rfl)
        have HMG := Lib.hid (merge_second hsd)
        clear hsd
        have hi2 : (0 : Int) < (n2 : Int) := by omega
        by_cases hq : 0 < n1
        · have hi : (0 : Int) < (n1 : Int) := by omega
          have hpz : p.block < wr.heap.size := Nat.lt_of_lt_of_le hhi hn0r
          gi_wp2_with (refine ⟨trivial, ?_⟩; gi_at_call 121; refine (callsIn_wide.2 (nextSide_is A0 m c A (some p) n1 c1 n2 c2 ra (b :: lb) _ HRA.out HRB.out hn0r 1 HSD.out)).mono ?_; rintro e w1 ⟨rfl, hb1⟩; have x1 := (hb1.cell (p := p) hpz).trans d1; have x2 := (hb1.cell (p := ⟨p.block, p.off + 1, none⟩) hpz).trans d3; have hyy : YieldAt Fence.wide (n - 1) Tryz.prog l #[.agg #[.string b.1, .slice b.2.1 b.2.2.1 b.2.2.2.1], .int .i64 1] w1 (fun e W' => (e = .returned (.bool true) ∧ J (pre ++ [(b, 1)]) W' ∧ KeepsToo n₀ Bs w1 W') ∨ (e = .returned (.bool false) ∧ Jx (pre ++ [(b, 1)]) W')) := HY.out pre (b, 1) w1 (HJ0.out _ _ _ none HJ.out (grownOf hb1 (Nat.le_refl _)) (fun r e => by cases e)) (pre_len (HM.out.trans (by rw [HMG.out]))); obtain ⟨fn, tmps, assign, body, hy, hR⟩ := hyy)
          refine hR.mono ?_
          rintro e W3 (⟨rfl, hJ3, hk3⟩ | ⟨rfl, hJx3⟩)
          · gi_wp2
            have KK := (KeepsToo.of hb1 hn0r hzB).trans hk3
            go_roundw
            case rel => exact ⟨A, n1, c1, _, _, _, ra, lb, pre ++ [(b, 1)], rfl, rfl, HRA.out.below RefE.stays KK.1 (Nat.le_refl _), HRB.out.rest.below RefE.stays KK.1 (Nat.le_refl _), joinOn HM.out HMG.out, hJ3, HK.out.trans KK⟩
            case measure => simp [lenV]; omega
          · gi_wp2
            refine bodyPost_ret (results_none rfl _ _ _) rfl ?_
            exact ⟨⟨_, rfl⟩, .inr ⟨_, joinPre HM.out HMG.out, hJx3⟩⟩
        · have hi : ¬ (0 : Int) < (n1 : Int) := by omega
          have hpz : p.block < wr.heap.size := Nat.lt_of_lt_of_le hhi hn0r
          gi_wp2_with (refine ⟨trivial, ?_⟩; gi_at_call 121; refine (callsIn_wide.2 (nextSide_is A0 m c A (some p) n1 c1 n2 c2 ra (b :: lb) _ HRA.out HRB.out hn0r 1 HSD.out)).mono ?_; rintro e w1 ⟨rfl, hb1⟩; have x1 := (hb1.cell (p := p) hpz).trans d1; have x2 := (hb1.cell (p := ⟨p.block, p.off + 1, none⟩) hpz).trans d3; have hyy : YieldAt Fence.wide (n - 1) Tryz.prog l #[.agg #[.string b.1, .slice b.2.1 b.2.2.1 b.2.2.2.1], .int .i64 1] w1 (fun e W' => (e = .returned (.bool true) ∧ J (pre ++ [(b, 1)]) W' ∧ KeepsToo n₀ Bs w1 W') ∨ (e = .returned (.bool false) ∧ Jx (pre ++ [(b, 1)]) W')) := HY.out pre (b, 1) w1 (HJ0.out _ _ _ none HJ.out (grownOf hb1 (Nat.le_refl _)) (fun r e => by cases e)) (pre_len (HM.out.trans (by rw [HMG.out]))); obtain ⟨fn, tmps, assign, body, hy, hR⟩ := hyy)
          refine hR.mono ?_
          rintro e W3 (⟨rfl, hJ3, hk3⟩ | ⟨rfl, hJx3⟩)
          · gi_wp2
            have KK := (KeepsToo.of hb1 hn0r hzB).trans hk3
            go_roundw
            case rel => exact ⟨A, n1, c1, _, _, _, ra, lb, pre ++ [(b, 1)], rfl, rfl, HRA.out.below RefE.stays KK.1 (Nat.le_refl _), HRB.out.rest.below RefE.stays KK.1 (Nat.le_refl _), joinOn HM.out HMG.out, hJ3, HK.out.trans KK⟩
            case measure => simp [lenV]; omega
          · gi_wp2
            refine bodyPost_ret (results_none rfl _ _ _) rfl ?_
            exact ⟨⟨_, rfl⟩, .inr ⟨_, joinPre HM.out HMG.out, hJx3⟩⟩
      · obtain ⟨p, hA, hlo, hhi, hnp, ⟨d1, d2, d3, d4⟩, _⟩ := HRA.out.first
        subst hA
        obtain ⟨p2, hA2, hlo2, hhi2, hnp2, _, _⟩ := HRB.out.first
        subst hA2
        have HSD := Lib.hid (show ((sideN _ _ : Nat) : Int) = 2 from by rw [hsd]; rfl)
        have HMG := Lib.hid (merge_both hsd)
        clear hsd
        have hi : (0 : Int) < (n1 : Int) := by omega
        have hpz : p.block < wr.heap.size := Nat.lt_of_lt_of_le hhi hn0r
        gi_wp2_with (refine ⟨trivial, ?_⟩; gi_at_call 121; refine (callsIn_wide.2 (nextSide_is A0 m c (some p) (some p2) n1 c1 n2 c2 (a :: la) (b :: lb) _ HRA.out HRB.out hn0r 2 HSD.out)).mono ?_; rintro e w1 ⟨rfl, hb1⟩; have x1 := (hb1.cell (p := p) hpz).trans d1; have x2 := (hb1.cell (p := ⟨p.block, p.off + 1, none⟩) hpz).trans d3; have hyy : YieldAt Fence.wide (n - 1) Tryz.prog l #[.agg #[.string a.1, .slice a.2.1 a.2.2.1 a.2.2.2.1], .int .i64 2] w1 (fun e W' => (e = .returned (.bool true) ∧ J (pre ++ [(a, 2)]) W' ∧ KeepsToo n₀ Bs w1 W') ∨ (e = .returned (.bool false) ∧ Jx (pre ++ [(a, 2)]) W')) := HY.out pre (a, 2) w1 (HJ0.out _ _ _ none HJ.out (grownOf hb1 (Nat.le_refl _)) (fun r e => by cases e)) (pre_len (HM.out.trans (by rw [HMG.out]))); obtain ⟨fn, tmps, assign, body, hy, hR⟩ := hyy)
        refine hR.mono ?_
        rintro e W3 (⟨rfl, hJ3, hk3⟩ | ⟨rfl, hJx3⟩)
        · gi_wp2
          gi_region
          all_goals gi_wp2
          have KK := ((KeepsToo.of hb1 hn0r hzB).trans hk3).trans (KeepsToo.drew n₀ Bs W3)
          have hJ4 := HJ0.out _ _ _ none hJ3 (grownOf (Below.refl W3.heap.size W3).drew (Nat.le_refl _)) (fun r e => by cases e)
          go_roundw
          case rel => exact ⟨_, _, _, _, _, _, la, lb, pre ++ [(a, 2)], rfl, rfl, HRA.out.rest.below RefE.stays KK.1 (Nat.le_refl _), HRB.out.rest.below RefE.stays KK.1 (Nat.le_refl _), joinOn HM.out HMG.out, hJ4, HK.out.trans KK⟩
          case measure => simp [lenV]; omega
        · gi_wp2
          refine bodyPost_ret (results_none rfl _ _ _) rfl ?_
          exact ⟨⟨_, rfl⟩, .inr ⟨_, joinPre HM.out HMG.out, hJx3⟩⟩

end Go.Proofs.YtogonjkklioaaaaGreatDoor

namespace Go.Proofs.YtogonjkklioaaaaGreatDoor
open Go.RowKit

/-- Block b is just these cells of type t. -/
def Blk (W : World) (b : Nat) (t : TypeId) (cs : Array Value) : Prop := W.heap[b]? = some (.cells cs t (0, 0))

section
variable {W W' w1 : World} {b B n₀ size k m : Nat} {t e : TypeId} {cs : Array Value} {v v' : Value} {xs ys : List Value} {tmp : Obj}

theorem Blk.lt (h : Blk W b t cs) : b < W.heap.size := (Array.getElem?_eq_some_iff.1 h).1
theorem Blk.cell (h : Blk W b t cs) (i : Nat) : W.cell? ⟨b, i, none⟩ = cs[i]? := by
  unfold Blk at h
  simp [World.cell?, h]
theorem Blk.frozen (h : Blk W b t cs) (i : Nat) : W.frozen? ⟨b, i, none⟩ = false := by
  unfold Blk at h
  simp [World.frozen?, h]
theorem Blk.new (W : World) (t : TypeId) (cs : Array Value) : Blk (W.alloc (.cells cs t)) W.heap.size t cs := World.alloc_heap_new W _
theorem Blk.kept {row : Option Nat} (h : Blk W b t cs) (hg : W.grownBy W' row) (hne : some b ≠ row) : Blk W' b t cs := (hg.block b h.lt hne).trans h
theorem Blk.alloc (h : Blk W b t cs) (o : Obj) : Blk (W.alloc o) b t cs := h.kept (World.grownBy_alloc W o none) (by simp)
theorem Blk.below (h : Blk W b t cs) (hb : Below W.heap.size W W') : Blk W' b t cs := (hb.block b h.lt).trans h
theorem Blk.far (h : Blk W b t cs) {p : Addr} (hp : b ≠ p.block) (u : Value) : Blk (W.setCell p u) b t cs := (Below.heap_setCell W p u b hp).trans h
theorem Blk.own {β : Type} (b : Nat) (t : TypeId) (cs : Array Value) : Own (fun (_ : β) W => Blk W b t cs) := fun s X Y row hs hg hrow =>
  hs.kept hg (fun e' => by obtain ⟨o, ho, hc⟩ := hrow b e'.symm; rw [show X.heap[b]? = _ from hs] at ho; cases ho; cases hc)
theorem Blk.putObj (h : Blk W b t cs) {l : Nat} {o : Obj} (o' : Obj) (hl : W.heap[l]? = some o) (ho : o.isCells = false) : Blk (W.putObj l o') b t cs :=
  (Blk.own (β := Unit) b t cs).putObj o' (s := ()) h hl ho

theorem Blk.not_row (h : Blk W b t cs) (hte : t ≠ e) (hr : W.ownsRow n₀ e size v k xs) : some b ≠ v.ownBlock := by
  rcases hr.2 with ⟨rfl, _⟩ | ⟨g, cap, cur, rfl, _, hgb, _⟩
  · simp [Value.ownBlock]
  · intro e'
    obtain rfl : b = g := by simpa [Value.ownBlock] using e'
    have := (show W.heap[b]? = _ from h).symm.trans hgb
    simp at this
    exact hte this.2

/-- Beside a row to which something was appended, and whose box was stored anew. -/
theorem Blk.through (h : Blk W b t cs) (hte : t ≠ e) (hrow : W.ownsRow n₀ e size v k xs) (hgrow : (W.alloc tmp).grownBy w1 v.ownBlock) (hne : b ≠ B) (v' : Value) : Blk (w1.setCell ⟨B, 0, none⟩ v') b t cs :=
  ((h.alloc tmp).kept hgrow (h.not_row hte hrow)).far hne v'
end

theorem Blk.made (w : World) {b : Nat} (t : TypeId) (cs : Array Value) (h : b = w.heap.size) : Blk (w.alloc (.cells cs t)) b t cs := by subst h; exact Blk.new w t cs

theorem Blk.same {W W' : World} {b : Nat} {t : TypeId} {cs : Array Value} (h : Blk W b t cs) (h' : Blk W' b t cs) : W'.heap[b]? = W.heap[b]? := (show W'.heap[b]? = _ from h').trans (show W.heap[b]? = _ from h).symm

theorem Blk.set {W : World} {b : Nat} {t : TypeId} {cs : Array Value} (h : Blk W b t cs) (i : Nat) (u : Value) : Blk (W.setCell ⟨b, i, none⟩ u) b t (cs.setIfInBounds i u) := by
  unfold Blk at h ⊢
  simp [World.setCell, Array.getElem?_modify, h]

/-- The cells of atoms by value. -/
def rcells (rs : List Rf) : List Value := rs.flatMap fun r => [.string r.1, .slice r.2.1 r.2.2.1 r.2.2.2.1]

theorem rcells_len : ∀ rs : List Rf, (rcells rs).length = rs.length * 2
  | [] => rfl
  | r :: rs => by
    have := rcells_len rs
    unfold rcells at *
    simp only [List.flatMap_cons, List.length_append, List.length_cons, List.length_nil, this]
    omega

theorem rcells_snoc (rs : List Rf) (r : Rf) : rcells (rs ++ [r]) = rcells rs ++ [.string r.1, .slice r.2.1 r.2.2.1 r.2.2.2.1] := by
  unfold rcells; simp [List.flatMap_append]

theorem rcells_at : ∀ {rs : List Rf} {i : Nat} {r : Rf}, rs[i]? = some r → (rcells rs)[i * 2]? = some (.string r.1) ∧ (rcells rs)[i * 2 + 1]? = some (.slice r.2.1 r.2.2.1 r.2.2.2.1)
  | [], _, _, h => by simp at h
  | q :: rs, 0, r, h => by
    simp at h; subst h
    exact ⟨rfl, rfl⟩
  | q :: rs, i + 1, r, h => by
    have ih := rcells_at (rs := rs) (i := i) (r := r) (by simpa using h)
    have e : rcells (q :: rs) = .string q.1 :: .slice q.2.1 q.2.2.1 q.2.2.2.1 :: rcells rs := rfl
    rw [e, show (i + 1) * 2 = i * 2 + 1 + 1 by omega]
    exact ⟨by simpa using ih.1, by simpa using ih.2⟩

theorem rcells_one (rs : List Rf) : ∀ u ∈ rcells rs, u.oneCell' = true := by
  intro u hu
  unfold rcells at hu
  obtain ⟨r, _, hr⟩ := List.mem_flatMap.1 hu
  simp at hr
  rcases hr with rfl | rfl <;> rfl

/-- What the atoms that a row holds lead on to lies where it lies. -/
def RefsIn (W : World) (lo hi : Nat) (rs : List Rf) : Prop := ∀ r ∈ rs, r.1.size ≤ maxLen ∧ IsTerms W lo hi r.2.1 r.2.2.1 r.2.2.2.1 r.2.2.2.2

theorem RefsIn.of {W : World} {lo hi n c : Nat} {A : Option Addr} {rs : List Rf} (h : IsRefs W lo hi A n c rs) : RefsIn W lo hi rs := by
  obtain ⟨h1, _, _, h4⟩ := h
  intro r hr
  obtain ⟨i, hi⟩ := List.getElem?_of_mem hr
  have hn : 0 < n := by have := (List.getElem?_eq_some_iff.1 hi).1; omega
  obtain ⟨p, _, _, _, he⟩ := h4 hn
  obtain ⟨_, e2, _, e4⟩ := he i r hi
  exact ⟨e2, e4⟩

theorem RefsIn.keep {W W' : World} {lo hi lo' hi' : Nat} {rs : List Rf} (h : RefsIn W lo hi rs) (hk : ∀ q : Addr, lo ≤ q.block → q.block < hi → W'.cell? q = W.cell? q) (h1 : lo' ≤ lo) (h2 : hi ≤ hi') : RefsIn W' lo' hi' rs :=
  fun r hr => ⟨(h r hr).1, (h r hr).2.keep hk h1 h2⟩

theorem RefsIn.sub {W : World} {lo hi : Nat} {rs rs' : List Rf} (h : RefsIn W lo hi rs) (hs : ∀ r ∈ rs', r ∈ rs) : RefsIn W lo hi rs' := fun r hr => h r (hs r hr)

/-- A row of the call's own reads as the atoms that it holds. -/
theorem refs_own {W : World} {base lo hi : Nat} {v : Value} {rs : List Rf} {n : Nat} (h : W.ownsRow base 51 2 v n (rcells rs)) (hn : n = rs.length) (hb : lo ≤ base) (hr : RefsIn W lo hi rs) (hh : hi ≤ W.heap.size) :
    ∃ A c, v = .slice A n c ∧ IsRefs W lo W.heap.size A n c rs := by
  subst hn
  rcases h.2 with ⟨rfl, h0⟩ | ⟨g, cap, cur, rfl, hbg, hgb, hle, hcap, hsz, htk⟩
  · refine ⟨none, 0, by rw [h0], rfl, by omega, by unfold maxLen; omega, fun hp => absurd hp (by omega)⟩
  · have hlt := (Array.getElem?_eq_some_iff.1 hgb).1
    refine ⟨_, cap, rfl, rfl, hle, hcap, fun _ => ⟨_, rfl, by show lo ≤ g; omega, hlt, fun i r hi => ?_⟩⟩
    obtain ⟨c1, c2⟩ := rcells_at hi
    have hil := (List.getElem?_eq_some_iff.1 hi).1
    have a0 : ∀ j, (⟨g, 0, none⟩ : Addr).add j = ⟨g, j, none⟩ := fun j => by unfold Addr.add; split <;> simp_all
    have hcell : ∀ j u, (rcells rs)[j]? = some u → W.cell? ⟨g, j, none⟩ = some u := by
      intro j u hu
      have hj := (List.getElem?_eq_some_iff.1 hu).1
      rw [rcells_len] at hj
      rw [← htk, List.getElem?_take, if_pos (by omega)] at hu
      simp [World.cell?, hgb]
      simpa using hu
    rw [a0]
    exact ⟨hcell _ _ c1, (hr r (List.mem_of_getElem? hi)).1, hcell _ _ c2, (hr r (List.mem_of_getElem? hi)).2.keep (fun _ _ _ => rfl) (Nat.le_refl _) hh⟩

/-- Two lists merged: no more than both. -/
theorem merge_len : ∀ ra rb : List Rf, (mergeR ra rb).length ≤ ra.length + rb.length := by
  intro ra rb
  fun_induction mergeR ra rb with
  | case1 ra => simp
  | case2 b rb => simp
  | case3 a ra b rb h ih => simp at *; omega
  | case4 a ra b rb h h' ih => simp at *; omega
  | case5 a ra b rb h h' ih => simp at *; omega

theorem merge_mem : ∀ ra rb : List Rf, ∀ x ∈ mergeR ra rb, x.1 ∈ ra ∨ x.1 ∈ rb := by
  intro ra rb
  fun_induction mergeR ra rb with
  | case1 ra => intro x hx; obtain ⟨r, hr, rfl⟩ := List.mem_map.1 hx; exact .inl hr
  | case2 b rb => intro x hx; obtain ⟨r, hr, rfl⟩ := List.mem_map.1 hx; exact .inr hr
  | case3 a ra b rb h ih => intro x hx; rcases List.mem_cons.1 hx with rfl | hx; · simp
                            rcases ih x hx with h | h <;> simp_all
  | case4 a ra b rb h h' ih => intro x hx; rcases List.mem_cons.1 hx with rfl | hx; · simp
                               rcases ih x hx with h | h <;> simp_all
  | case5 a ra b rb h h' ih => intro x hx; rcases List.mem_cons.1 hx with rfl | hx; · simp
                               rcases ih x hx with h | h <;> simp_all

/-- Those that stand on one side. -/
def selR (v : Nat) (l : List (Rf × Nat)) : List Rf := (l.filter fun x => x.2 == v).map (·.1)

theorem selR_yes {v : Nat} {l : List (Rf × Nat)} {x : Rf × Nat} (h : x.2 = v) : selR v (l ++ [x]) = selR v l ++ [x.1] := by
  unfold selR; rw [List.filter_append]; simp [h]
theorem selR_no {v : Nat} {l : List (Rf × Nat)} {x : Rf × Nat} (h : ¬ x.2 = v) : selR v (l ++ [x]) = selR v l := by
  unfold selR; rw [List.filter_append]; simp [h]
theorem selR_len (v : Nat) (l : List (Rf × Nat)) : (selR v l).length ≤ l.length := by
  unfold selR; rw [List.length_map]; exact List.length_filter_le _ _
theorem selR_mem {v : Nat} {l : List (Rf × Nat)} : ∀ r ∈ selR v l, ∃ x ∈ l, x.1 = r := by
  intro r hr
  unfold selR at hr
  obtain ⟨x, hx, rfl⟩ := List.mem_map.1 hr
  exact ⟨x, (List.mem_filter.1 hx).1, rfl⟩

end Go.Proofs.YtogonjkklioaaaaGreatDoor
