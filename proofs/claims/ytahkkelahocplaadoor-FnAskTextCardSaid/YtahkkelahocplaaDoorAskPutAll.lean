/-
  Texts of one claim, put together.
-/
import Derived.Test.YtahkkelahocplaaDoorRefs
import Derived.Deep.RegionHeld3
import Derived.Test.YtahkkelahocplaaDoorVars
import Derived.Test.YtahkkelahocplaaDoorBlk
import Derived.Test.YtahkkelahocplaaDoorTight
import Derived.Test.YtahkkelahocplaaDoorDraw
import Derived.Maps.OwnIn
import Derived.Maps.OwnSet
import Derived.Maps.Views
import Derived.RangeFuncWrites
import Derived.Test.YtahkkelahocplaaDoorOrder
import Derived.Test.YtahkkelahocplaaDoorRule3
import Derived.Test.YtahkkelahocplaaDoorRule4
namespace Go.Proofs.YtahkkelahocplaaDoor
open Go.RowKit
attribute [local go_sem] run_store_func

set_option maxHeartbeats 2000000 in
theorem nextSide_any (A0 : Option Addr) (n0 c0 : Nat) (A B : Option Addr) (n c n' c' : Nat) (ra rb : List Rf) (w : World) (h : IsRefs w 0 w.heap.size A n c ra) (h' : IsRefs w 0 w.heap.size B n' c' rb) :
    Calls Tryd.prog 153 #[listV A0 n0 c0, .slice A n c, .slice B n' c'] w (IntPost (sideN (ra.map rAt) (rb.map rAt) : Nat) w) := by
  unfold listV
  have L := Lib.hid h.1; have L' := Lib.hid h'.1
  have H := Lib.hid h; clear h
  have H' := Lib.hid h'; clear h'
  have hw0 := below1 w (.cells #[.slice A0 n0 c0, .func (.func 135) #[] #[]] 135)
  cases rb with
  | nil =>
    have hn : n' = 0 := by have := L'.out; simp at this; omega
    subst hn
    have E := Lib.hid (show ((sideN (ra.map rAt) (([] : List Rf).map rAt) : Nat) : Int) = 0 by cases ra <;> rfl)
    go_enter Tryd.func153, Tryd.ntmps153
    go_wp2
    go_ret; exact ⟨retI E.out.symm, hw0⟩
  | cons b rb =>
    obtain ⟨p', hB, hlo', hhi', hn', ⟨f1, f2, f3, f4⟩, _⟩ := H'.out.first
    subst hB
    have hi' : ¬ (n' : Int) = 0 := by omega
    have hi2 : ((n' : Int) == 0) = false := by rw [beq_eq_false_iff_ne]; exact hi'
    cases ra with
    | nil =>
      have hn : n = 0 := by have := L.out; simp at this; omega
      subst hn
      go_enter Tryd.func153, Tryd.ntmps153
      go_wp2
      go_ret; exact ⟨rfl, hw0⟩
    | cons a ra =>
      obtain ⟨p, hA, hlo, hhi, hn, ⟨d1, d2, d3, d4⟩, _⟩ := H.out.first
      subst hA
      have hi : ¬ (n : Int) = 0 := by omega
      have hi3 : ((n : Int) == 0) = false := by rw [beq_eq_false_iff_ne]; exact hi
      have hbd := hw0.drew
      obtain ⟨W1, hW1⟩ : ∃ W1, w.alloc (.cells #[.slice A0 n0 c0, .func (.func 135) #[] #[]] 135) = W1 := ⟨_, rfl⟩
      have x0 : W1.cell? ⟨w.heap.size, 1, none⟩ = some (.func (.func 135) #[] #[]) := by rw [← hW1]; simp [go_sem]
      have hz0 : w.heap.size < W1.heap.size := by rw [← hW1]; simp
      rw [hW1] at hw0 hbd
      have hwd : Below w.heap.size w W1.drew := hbd
      have x1 := (hw0.cell (p := p) hhi).trans d1
      have x2 : W1.cell? ⟨p.block, p.off + 1, none⟩ = some (.slice a.2.1 a.2.2.1 a.2.2.2.1) := (hw0.cell (p := ⟨p.block, p.off + 1, none⟩) hhi).trans d3
      have x3 := (hw0.cell (p := p') hhi').trans f1
      have x4 : W1.cell? ⟨p'.block, p'.off + 1, none⟩ = some (.slice b.2.1 b.2.2.1 b.2.2.2.1) := (hw0.cell (p := ⟨p'.block, p'.off + 1, none⟩) hhi').trans f3
      have v0 : W1.drew.cell? ⟨w.heap.size, 1, none⟩ = some (.func (.func 135) #[] #[]) := x0
      have v1 : W1.drew.cell? p = some (.string a.1) := x1
      have v2 : W1.drew.cell? ⟨p.block, p.off + 1, none⟩ = some (.slice a.2.1 a.2.2.1 a.2.2.2.1) := x2
      have v3 : W1.drew.cell? p' = some (.string b.1) := x3
      have v4 : W1.drew.cell? ⟨p'.block, p'.off + 1, none⟩ = some (.slice b.2.1 b.2.2.1 b.2.2.2.1) := x4
      have hz : w.heap.size < W1.drew.heap.size := hz0
      have hpz : p.block < W1.drew.heap.size := Nat.lt_of_lt_of_le hhi hw0.size
      have hpz' : p'.block < W1.drew.heap.size := Nat.lt_of_lt_of_le hhi' hw0.size
      have HT := Lib.hid (show IsTerms W1.drew 0 W1.drew.heap.size a.2.1 a.2.2.1 a.2.2.2.1 a.2.2.2.2 from d4.up hwd)
      have HU := Lib.hid (show IsTerms W1.drew 0 W1.drew.heap.size b.2.1 b.2.2.1 b.2.2.2.1 b.2.2.2.2 from f4.up hwd)
      clear d1 d3 d4 f1 f3 f4
      have hq : sideN ((a :: ra).map rAt) ((b :: rb).map rAt) = if atomCmp (rAt a) (rAt b) < 0 then 0 else if 0 < atomCmp (rAt a) (rAt b) then 1 else 2 := rfl
      by_cases hc : atomCmp (rAt a) (rAt b) < 0
      · have E := Lib.hid (show ((sideN ((a :: ra).map rAt) ((b :: rb).map rAt) : Nat) : Int) = 0 by rw [hq, if_pos hc]; rfl)
        have hc' : atomCmp (a.1, a.2.2.2.2) (b.1, b.2.2.2.2) < 0 := hc
        clear hq hc
        go_enter Tryd.func153, Tryd.ntmps153
        go_wp2_with fail
        go_region_held3 (fun W => W.cell? ⟨w.heap.size, 1, none⟩ = some (.func (.func 135) #[] #[]) ∧ (W.cell? p = some (.string a.1) ∧ W.cell? ⟨p.block, p.off + 1, none⟩ = some (.slice a.2.1 a.2.2.1 a.2.2.2.1)) ∧ W.cell? p' = some (.string b.1) ∧ W.cell? ⟨p'.block, p'.off + 1, none⟩ = some (.slice b.2.1 b.2.2.1 b.2.2.2.1))
          (first | (with_reducible exact ⟨y0, ⟨y1, y2⟩, y3, y4⟩) | (with_reducible exact ⟨v0, ⟨v1, v2⟩, v3, v4⟩) | (with_reducible exact ⟨x0, ⟨x1, x2⟩, x3, x4⟩))
          (((with_reducible refine (compareAtoms_any a.1 b.1 a.2.1 b.2.1 a.2.2.1 a.2.2.2.1 b.2.2.1 b.2.2.2.1 a.2.2.2.2 b.2.2.2.2 _ HT.out HU.out).mono ?_); rintro e w1 ⟨rfl, hb1⟩; have y0 := (hb1.cell (p := ⟨w.heap.size, 1, none⟩) hz).trans v0; have y1 := (hb1.cell (p := p) hpz).trans v1; have y2 := (hb1.cell (p := ⟨p.block, p.off + 1, none⟩) hpz).trans v2; have y3 := (hb1.cell (p := p') hpz').trans v3; have y4 := (hb1.cell (p := ⟨p'.block, p'.off + 1, none⟩) hpz').trans v4))
        all_goals
          clear y0 y1 y2 y3 y4 v0 v1 v2 v3 v4 x0 x1 x2 x3 x4
          go_wp2
          go_ret; exact ⟨retI E.out.symm, belowThen hwd hb1⟩
      · by_cases hd : 0 < atomCmp (rAt a) (rAt b)
        · have E := Lib.hid (show ((sideN ((a :: ra).map rAt) ((b :: rb).map rAt) : Nat) : Int) = 1 by rw [hq, if_neg hc, if_pos hd]; rfl)
          have hc' : ¬ atomCmp (a.1, a.2.2.2.2) (b.1, b.2.2.2.2) < 0 := hc
          have hd' : 0 < atomCmp (a.1, a.2.2.2.2) (b.1, b.2.2.2.2) := hd
          clear hq hc hd
          go_enter Tryd.func153, Tryd.ntmps153
          go_wp2_with fail
          go_region_held3 (fun W => W.cell? ⟨w.heap.size, 1, none⟩ = some (.func (.func 135) #[] #[]) ∧ (W.cell? p = some (.string a.1) ∧ W.cell? ⟨p.block, p.off + 1, none⟩ = some (.slice a.2.1 a.2.2.1 a.2.2.2.1)) ∧ W.cell? p' = some (.string b.1) ∧ W.cell? ⟨p'.block, p'.off + 1, none⟩ = some (.slice b.2.1 b.2.2.1 b.2.2.2.1))
            (first | (with_reducible exact ⟨y0, ⟨y1, y2⟩, y3, y4⟩) | (with_reducible exact ⟨v0, ⟨v1, v2⟩, v3, v4⟩) | (with_reducible exact ⟨x0, ⟨x1, x2⟩, x3, x4⟩))
            (((with_reducible refine (compareAtoms_any a.1 b.1 a.2.1 b.2.1 a.2.2.1 a.2.2.2.1 b.2.2.1 b.2.2.2.1 a.2.2.2.2 b.2.2.2.2 _ HT.out HU.out).mono ?_); rintro e w1 ⟨rfl, hb1⟩; have y0 := (hb1.cell (p := ⟨w.heap.size, 1, none⟩) hz).trans v0; have y1 := (hb1.cell (p := p) hpz).trans v1; have y2 := (hb1.cell (p := ⟨p.block, p.off + 1, none⟩) hpz).trans v2; have y3 := (hb1.cell (p := p') hpz').trans v3; have y4 := (hb1.cell (p := ⟨p'.block, p'.off + 1, none⟩) hpz').trans v4))
          all_goals
            clear y0 y1 y2 y3 y4 v0 v1 v2 v3 v4 x0 x1 x2 x3 x4
            go_wp2
            go_ret; exact ⟨retI E.out.symm, belowThen hwd hb1⟩
        · have E := Lib.hid (show ((sideN ((a :: ra).map rAt) ((b :: rb).map rAt) : Nat) : Int) = 2 by rw [hq, if_neg hc, if_neg hd]; rfl)
          have hc' : ¬ atomCmp (a.1, a.2.2.2.2) (b.1, b.2.2.2.2) < 0 := hc
          have hd' : ¬ 0 < atomCmp (a.1, a.2.2.2.2) (b.1, b.2.2.2.2) := hd
          clear hq hc hd
          go_enter Tryd.func153, Tryd.ntmps153
          go_wp2_with fail
          go_region_held3 (fun W => W.cell? ⟨w.heap.size, 1, none⟩ = some (.func (.func 135) #[] #[]) ∧ (W.cell? p = some (.string a.1) ∧ W.cell? ⟨p.block, p.off + 1, none⟩ = some (.slice a.2.1 a.2.2.1 a.2.2.2.1)) ∧ W.cell? p' = some (.string b.1) ∧ W.cell? ⟨p'.block, p'.off + 1, none⟩ = some (.slice b.2.1 b.2.2.1 b.2.2.2.1))
            (first | (with_reducible exact ⟨y0, ⟨y1, y2⟩, y3, y4⟩) | (with_reducible exact ⟨v0, ⟨v1, v2⟩, v3, v4⟩) | (with_reducible exact ⟨x0, ⟨x1, x2⟩, x3, x4⟩))
            (((with_reducible refine (compareAtoms_any a.1 b.1 a.2.1 b.2.1 a.2.2.1 a.2.2.2.1 b.2.2.1 b.2.2.2.1 a.2.2.2.2 b.2.2.2.2 _ HT.out HU.out).mono ?_); rintro e w1 ⟨rfl, hb1⟩; have y0 := (hb1.cell (p := ⟨w.heap.size, 1, none⟩) hz).trans v0; have y1 := (hb1.cell (p := p) hpz).trans v1; have y2 := (hb1.cell (p := ⟨p.block, p.off + 1, none⟩) hpz).trans v2; have y3 := (hb1.cell (p := p') hpz').trans v3; have y4 := (hb1.cell (p := ⟨p'.block, p'.off + 1, none⟩) hpz').trans v4))
          all_goals
            clear y0 y1 y2 y3 y4 v0 v1 v2 v3 v4 x0 x1 x2 x3 x4
            go_wp2
            go_ret; exact ⟨retI E.out.symm, belowThen hwd hb1⟩

end Go.Proofs.YtahkkelahocplaaDoor

namespace Go.Proofs.YtahkkelahocplaaDoor
open Go.RowKit Go.Shelf
attribute [local go_sem] Oper.semAt_some run_store_func

/-- What a round keeps: what lay below n₀, and the block b. -/
def KeepsToo (n₀ b : Nat) (W W' : World) : Prop := Below n₀ W W' ∧ W'.heap[b]? = W.heap[b]?

theorem KeepsToo.refl (n₀ b : Nat) (W : World) : KeepsToo n₀ b W W := ⟨Below.refl _ _, rfl⟩
theorem KeepsToo.trans {n₀ b : Nat} {A B C : World} (h : KeepsToo n₀ b A B) (k : KeepsToo n₀ b B C) : KeepsToo n₀ b A C := ⟨h.1.trans k.1, k.2.trans h.2⟩
theorem KeepsToo.of {n₀ b : Nat} {A B : World} (h : Below A.heap.size A B) (hn : n₀ ≤ A.heap.size) (hb : b < A.heap.size) : KeepsToo n₀ b A B := ⟨h.mono hn, h.block b hb⟩
theorem KeepsToo.drew (n₀ b : Nat) (A : World) : KeepsToo n₀ b A A.drew := ⟨(Below.refl _ _).drew, rfl⟩

/-- How long a slice is. -/
def lenV : Value → Nat
  | .slice _ n _ => n
  | _ => 0

theorem IsRefs.rest {w : World} {lo hi n c : Nat} {p : Addr} {r : Rf} {rs : List Rf} (h : IsRefs w lo hi (some p) n c (r :: rs)) :
    IsRefs w lo hi (if c = 1 then some p else some ⟨p.block, p.off + 2, none⟩) (n - 1) (c - 1) rs := by
  obtain ⟨q, e, h1, h2, h3, _, h4⟩ := h.first
  injection e with e
  subst e
  by_cases hc : c = 1
  · rw [if_pos hc]
    have hn : n = 1 := by have := h.2.1; omega
    obtain ⟨a, b, d, _⟩ := h4
    exact ⟨a, b, d, fun h0 => absurd h0 (by omega)⟩
  · rw [if_neg hc]; exact h4

theorem side_cases {ra rb : List Rf} (h : ¬ (ra = [] ∧ rb = [])) :
    (∃ a l, ra = a :: l ∧ sideN (ra.map rAt) (rb.map rAt) = 0) ∨ (∃ b l, rb = b :: l ∧ sideN (ra.map rAt) (rb.map rAt) = 1) ∨ (∃ a l b l', ra = a :: l ∧ rb = b :: l' ∧ sideN (ra.map rAt) (rb.map rAt) = 2) := by
  cases rb with
  | nil =>
    cases ra with
    | nil => exact absurd ⟨rfl, rfl⟩ h
    | cons a l => exact .inl ⟨a, l, rfl, rfl⟩
  | cons b l' =>
    cases ra with
    | nil => exact .inr (.inl ⟨b, l', rfl, rfl⟩)
    | cons a l =>
      have hq : sideN ((a :: l).map rAt) ((b :: l').map rAt) = if atomCmp (rAt a) (rAt b) < 0 then 0 else if 0 < atomCmp (rAt a) (rAt b) then 1 else 2 := rfl
      by_cases h1 : atomCmp (rAt a) (rAt b) < 0
      · exact .inl ⟨a, l, rfl, by rw [hq, if_pos h1]⟩
      · by_cases h2 : 0 < atomCmp (rAt a) (rAt b)
        · exact .inr (.inl ⟨b, l', rfl, by rw [hq, if_neg h1, if_pos h2]⟩)
        · exact .inr (.inr ⟨a, l, b, l', rfl, rfl, by rw [hq, if_neg h1, if_neg h2]⟩)

theorem pre_len {pre t : List (Rf × Nat)} {x : Rf × Nat} {l : List (Rf × Nat)} (h : l = pre ++ x :: t) : pre.length < l.length := by
  rw [h]; simp

theorem nextSide_is (A0 : Option Addr) (n0 c0 : Nat) (A B : Option Addr) (n c n' c' : Nat) (ra rb : List Rf) (w : World) {lo lo' hi : Nat} (h : IsRefs w lo hi A n c ra) (h' : IsRefs w lo' hi B n' c' rb) (hh : hi ≤ w.heap.size) (v : Int) (hv : ((sideN (ra.map rAt) (rb.map rAt) : Nat) : Int) = v) :
    Calls Tryd.prog 153 #[.agg #[.slice A0 n0 c0, .func (.func 135) #[] #[]], .slice A n c, .slice B n' c'] w (IntPost v w) := by
  rw [← hv]
  exact nextSide_any A0 n0 c0 A B n c n' c' ra rb w (h.keep RefE.stays (fun _ _ _ => rfl) (Nat.zero_le _) hh) (h'.keep RefE.stays (fun _ _ _ => rfl) (Nat.zero_le _) hh)

theorem joinOn {l pre r t : List (Rf × Nat)} {x : Rf × Nat} (h : l = pre ++ r) (h' : r = x :: t) : l = (pre ++ [x]) ++ t := by
  rw [h, h', List.append_assoc]; rfl

theorem joinPre {l pre r t : List (Rf × Nat)} {x : Rf × Nat} (h : l = pre ++ r) (h' : r = x :: t) : pre ++ [x] <+: l := by
  rw [joinOn h h']; exact List.prefix_append _ _

set_option maxRecDepth 100000 in
set_option maxHeartbeats 4000000 in
theorem merged1_in (n : Nat) (hn : 1 ≤ n) (l Bs Bo n₀ : Nat) (A0 B0 : Option Addr) (m c m' c' : Nat) (ra0 rb0 : List Rf) (J Jx : List (Rf × Nat) → World → Prop) (W : World) (hJ : AbidesFrom W.heap.size J)
    (hY : ∀ pre x W1, J pre W1 → pre.length < (mergeR ra0 rb0).length → YieldAt Fence.wide (n - 1) Tryd.prog l #[rVal x.1, .int .i64 ((x.2 : Nat) : Int)] W1 fun e W' =>
      (e = .returned (.bool true) ∧ J (pre ++ [x]) W' ∧ KeepsToo n₀ Bs W1 W') ∨ (e = .returned (.bool false) ∧ Jx (pre ++ [x]) W'))
    (hs0 : W.cell? ⟨Bs, 0, none⟩ = some (.slice A0 m c)) (hs1 : W.cell? ⟨Bs, 1, none⟩ = some (.func (.func 135) #[] #[])) (ho0 : W.cell? ⟨Bo, 0, none⟩ = some (.slice B0 m' c'))
    (hn0 : n₀ ≤ W.heap.size) (hA : IsRefs W 0 n₀ A0 m c ra0) (hB : IsRefs W 0 n₀ B0 m' c' rb0) (h0 : J [] W) :
    CallsIn Fence.wide n Tryd.prog 152 #[.func (.yield l) #[] #[], .pointer (some ⟨Bs, 0, none⟩), .pointer (some ⟨Bo, 0, none⟩)] W fun e W' => (∃ v, e = .returned v) ∧
      ((∃ ys, ys = mergeR ra0 rb0 ∧ J ys W') ∨ (∃ pre, pre <+: mergeR ra0 rb0 ∧ Jx pre W')) := by
  have HA := Lib.hid hA; clear hA
  have HB := Lib.hid hB; clear hB
  have HY := Lib.hid hY; clear hY
  have HJ0 := Lib.hid hJ; clear hJ
  have hmx : Tryd.prog.follows .mixedOrders = true := by kernel_rfl
  have hBs : Bs < W.heap.size := World.block_lt_of_cell? _ _ hs0
  refine callsIn_of_wp Tryd.func152 rfl trivial ?_ rfl
  simp only [Tryd.ntmps152, List.size_toArray, List.length_cons, List.length_nil, Nat.reduceAdd, Nat.reduceSub, Array.replicate_succ, Array.replicate_zero, List.push_toArray, List.append_toArray, List.nil_append, List.cons_append]
  gi_wp2
  gi_region
  all_goals gi_wp2
  have S0 := Lib.hid hs0; have S1 := Lib.hid hs1; clear hs0 hs1 ho0
  gi_loopw [4, 5] (fun a b wr => ∃ (A : Option Addr) (n c : Nat) (B : Option Addr) (n' c' : Nat) (ra rb : List Rf) (pre : List (Rf × Nat)), a = .slice A n c ∧ b = .slice B n' c' ∧ IsRefs wr 0 n₀ A n c ra ∧ IsRefs wr 0 n₀ B n' c' rb ∧ mergeR ra0 rb0 = pre ++ mergeR ra rb ∧ J pre wr ∧ KeepsToo n₀ Bs W wr) (fun a b _ => lenV a + lenV b)
  case atStart => exact ⟨A0, m, c, B0, m', c', ra0, rb0, [], rfl, rfl, HA.out.below RefE.stays ((Below.refl _ _).drew) (Nat.le_refl _), HB.out.below RefE.stays ((Below.refl _ _).drew) (Nat.le_refl _), rfl, HJ0.out _ _ _ none h0 (grownOf ((Below.refl _ _).drew) (Nat.le_refl _)) (fun r e => by cases e), KeepsToo.drew _ _ _⟩
  case round =>
    obtain ⟨A, n1, c1, B, n2, c2, ra, rb, pre, rfl, rfl, hra, hrb, hm, hJs, hk⟩ := hrel
    have HJ := Lib.hid hJs; clear hJs
    have HM := Lib.hid hm; clear hm
    have L1 := hra.len; have L2 := hrb.len
    unfold maxLen at L1 L2
    have E1 := Lib.hid hra.1; have E2 := Lib.hid hrb.1
    have HRA := Lib.hid hra; have HRB := Lib.hid hrb; clear hra hrb
    have hz0 := hk.1.size
    have hzB : Bs < wr.heap.size := Nat.lt_of_lt_of_le hBs hz0
    have s0 : wr.cell? ⟨Bs, 0, none⟩ = some (.slice A0 m c) := (World.cell?_of_block hk.2).trans S0.out
    have s1 := (World.cell?_of_block (a := ⟨Bs, 1, none⟩) hk.2).trans S1.out
    have hn0r : n₀ ≤ wr.heap.size := Nat.le_trans hn0 hz0
    have HK := Lib.hid hk; clear hk
    by_cases hend : ra = [] ∧ rb = []
    · obtain ⟨rfl, rfl⟩ := hend
      have hz1 : n1 = 0 := by have := E1.out; simp at this; omega
      have hz2 : n2 = 0 := by have := E2.out; simp at this; omega
      subst hz1; subst hz2
      gi_wp2
      go_end0
      exact ⟨⟨_, rfl⟩, .inl ⟨_, rfl, by have := HM.out; rw [merge_nil, List.map_nil, List.append_nil] at this; rw [this]; exact HJ.out⟩⟩
    · rcases side_cases hend with ⟨a, la, rfl, hsd⟩ | ⟨b, lb, rfl, hsd⟩ | ⟨a, la, b, lb, rfl, rfl, hsd⟩
      · obtain ⟨p, hA, hlo, hhi, hnp, ⟨d1, d2, d3, d4⟩, _⟩ := HRA.out.first
        subst hA
        have HSD := Lib.hid (show ((sideN _ _ : Nat) : Int) = 0 from by rw [hsd]; rfl)
        have HMG := Lib.hid (merge_first hsd)
        clear hsd
        have hi : ¬ (n1 : Int) ≤ 0 := by omega
        have hi : (0 : Int) < (n1 : Int) := by omega
        have hpz : p.block < wr.heap.size := Nat.lt_of_lt_of_le hhi hn0r
        gi_wp2_with (refine ⟨trivial, ?_⟩; gi_at_call 153; refine (callsIn_wide.2 (nextSide_is A0 m c (some p) B n1 c1 n2 c2 (a :: la) rb _ HRA.out HRB.out hn0r 0 HSD.out)).mono ?_; rintro e w1 ⟨rfl, hb1⟩; have x1 := (hb1.cell (p := p) hpz).trans d1; have x2 := (hb1.cell (p := ⟨p.block, p.off + 1, none⟩) hpz).trans d3; have hyy : YieldAt Fence.wide (n - 1) Tryd.prog l #[.agg #[.string a.1, .slice a.2.1 a.2.2.1 a.2.2.2.1], .int .i64 0] w1 (fun e W' => (e = .returned (.bool true) ∧ J (pre ++ [(a, 0)]) W' ∧ KeepsToo n₀ Bs w1 W') ∨ (e = .returned (.bool false) ∧ Jx (pre ++ [(a, 0)]) W')) := HY.out pre (a, 0) w1 (HJ0.out _ _ _ none HJ.out (grownOf hb1 (Nat.le_refl _)) (fun r e => by cases e)) (pre_len (HM.out.trans (by rw [HMG.out]))); obtain ⟨fn, tmps, assign, body, hy, hR⟩ := hyy)
        refine hR.mono ?_
        rintro e W3 (⟨rfl, hJ3, hk3⟩ | ⟨rfl, hJx3⟩)
        · gi_wp2
          have KK := (KeepsToo.of hb1 hn0r hzB).trans hk3
          go_roundw
          case rel => exact ⟨_, _, _, B, n2, c2, la, rb, pre ++ [(a, 0)], rfl, rfl, HRA.out.rest.below RefE.stays KK.1 (Nat.le_refl _), HRB.out.below RefE.stays KK.1 (Nat.le_refl _), joinOn HM.out HMG.out, hJ3, HK.out.trans KK⟩
          case measure => simp [lenV]; omega
        · gi_wp2
          refine bodyPost_ret (results_none rfl _ _ _) rfl ?_
          exact ⟨⟨_, rfl⟩, .inr ⟨_, joinPre HM.out HMG.out, hJx3⟩⟩
      · obtain ⟨p, hA, hlo, hhi, hnp, ⟨d1, d2, d3, d4⟩, _⟩ := HRB.out.first
        subst hA
        have HSD := Lib.hid (show ((sideN _ _ : Nat) : Int) = 1 from by rw [hsd]; rfl)
        have HMG := Lib.hid (merge_second hsd)
        clear hsd
        have hi2 : (0 : Int) < (n2 : Int) := by omega
        by_cases hq : 0 < n1
        · have hi : (0 : Int) < (n1 : Int) := by omega
          have hpz : p.block < wr.heap.size := Nat.lt_of_lt_of_le hhi hn0r
          gi_wp2_with (refine ⟨trivial, ?_⟩; gi_at_call 153; refine (callsIn_wide.2 (nextSide_is A0 m c A (some p) n1 c1 n2 c2 ra (b :: lb) _ HRA.out HRB.out hn0r 1 HSD.out)).mono ?_; rintro e w1 ⟨rfl, hb1⟩; have x1 := (hb1.cell (p := p) hpz).trans d1; have x2 := (hb1.cell (p := ⟨p.block, p.off + 1, none⟩) hpz).trans d3; have hyy : YieldAt Fence.wide (n - 1) Tryd.prog l #[.agg #[.string b.1, .slice b.2.1 b.2.2.1 b.2.2.2.1], .int .i64 1] w1 (fun e W' => (e = .returned (.bool true) ∧ J (pre ++ [(b, 1)]) W' ∧ KeepsToo n₀ Bs w1 W') ∨ (e = .returned (.bool false) ∧ Jx (pre ++ [(b, 1)]) W')) := HY.out pre (b, 1) w1 (HJ0.out _ _ _ none HJ.out (grownOf hb1 (Nat.le_refl _)) (fun r e => by cases e)) (pre_len (HM.out.trans (by rw [HMG.out]))); obtain ⟨fn, tmps, assign, body, hy, hR⟩ := hyy)
          refine hR.mono ?_
          rintro e W3 (⟨rfl, hJ3, hk3⟩ | ⟨rfl, hJx3⟩)
          · gi_wp2
            have KK := (KeepsToo.of hb1 hn0r hzB).trans hk3
            go_roundw
            case rel => exact ⟨A, n1, c1, _, _, _, ra, lb, pre ++ [(b, 1)], rfl, rfl, HRA.out.below RefE.stays KK.1 (Nat.le_refl _), HRB.out.rest.below RefE.stays KK.1 (Nat.le_refl _), joinOn HM.out HMG.out, hJ3, HK.out.trans KK⟩
            case measure => simp [lenV]; omega
          · gi_wp2
            refine bodyPost_ret (results_none rfl _ _ _) rfl ?_
            exact ⟨⟨_, rfl⟩, .inr ⟨_, joinPre HM.out HMG.out, hJx3⟩⟩
        · have hi : ¬ (0 : Int) < (n1 : Int) := by omega
          have hpz : p.block < wr.heap.size := Nat.lt_of_lt_of_le hhi hn0r
          gi_wp2_with (refine ⟨trivial, ?_⟩; gi_at_call 153; refine (callsIn_wide.2 (nextSide_is A0 m c A (some p) n1 c1 n2 c2 ra (b :: lb) _ HRA.out HRB.out hn0r 1 HSD.out)).mono ?_; rintro e w1 ⟨rfl, hb1⟩; have x1 := (hb1.cell (p := p) hpz).trans d1; have x2 := (hb1.cell (p := ⟨p.block, p.off + 1, none⟩) hpz).trans d3; have hyy : YieldAt Fence.wide (n - 1) Tryd.prog l #[.agg #[.string b.1, .slice b.2.1 b.2.2.1 b.2.2.2.1], .int .i64 1] w1 (fun e W' => (e = .returned (.bool true) ∧ J (pre ++ [(b, 1)]) W' ∧ KeepsToo n₀ Bs w1 W') ∨ (e = .returned (.bool false) ∧ Jx (pre ++ [(b, 1)]) W')) := HY.out pre (b, 1) w1 (HJ0.out _ _ _ none HJ.out (grownOf hb1 (Nat.le_refl _)) (fun r e => by cases e)) (pre_len (HM.out.trans (by rw [HMG.out]))); obtain ⟨fn, tmps, assign, body, hy, hR⟩ := hyy)
          refine hR.mono ?_
          rintro e W3 (⟨rfl, hJ3, hk3⟩ | ⟨rfl, hJx3⟩)
          · gi_wp2
            have KK := (KeepsToo.of hb1 hn0r hzB).trans hk3
            go_roundw
            case rel => exact ⟨A, n1, c1, _, _, _, ra, lb, pre ++ [(b, 1)], rfl, rfl, HRA.out.below RefE.stays KK.1 (Nat.le_refl _), HRB.out.rest.below RefE.stays KK.1 (Nat.le_refl _), joinOn HM.out HMG.out, hJ3, HK.out.trans KK⟩
            case measure => simp [lenV]; omega
          · gi_wp2
            refine bodyPost_ret (results_none rfl _ _ _) rfl ?_
            exact ⟨⟨_, rfl⟩, .inr ⟨_, joinPre HM.out HMG.out, hJx3⟩⟩
      · obtain ⟨p, hA, hlo, hhi, hnp, ⟨d1, d2, d3, d4⟩, _⟩ := HRA.out.first
        subst hA
        obtain ⟨p2, hA2, hlo2, hhi2, hnp2, _, _⟩ := HRB.out.first
        subst hA2
        have HSD := Lib.hid (show ((sideN _ _ : Nat) : Int) = 2 from by rw [hsd]; rfl)
        have HMG := Lib.hid (merge_both hsd)
        clear hsd
        have hi : (0 : Int) < (n1 : Int) := by omega
        have hpz : p.block < wr.heap.size := Nat.lt_of_lt_of_le hhi hn0r
        gi_wp2_with (refine ⟨trivial, ?_⟩; gi_at_call 153; refine (callsIn_wide.2 (nextSide_is A0 m c (some p) (some p2) n1 c1 n2 c2 (a :: la) (b :: lb) _ HRA.out HRB.out hn0r 2 HSD.out)).mono ?_; rintro e w1 ⟨rfl, hb1⟩; have x1 := (hb1.cell (p := p) hpz).trans d1; have x2 := (hb1.cell (p := ⟨p.block, p.off + 1, none⟩) hpz).trans d3; have hyy : YieldAt Fence.wide (n - 1) Tryd.prog l #[.agg #[.string a.1, .slice a.2.1 a.2.2.1 a.2.2.2.1], .int .i64 2] w1 (fun e W' => (e = .returned (.bool true) ∧ J (pre ++ [(a, 2)]) W' ∧ KeepsToo n₀ Bs w1 W') ∨ (e = .returned (.bool false) ∧ Jx (pre ++ [(a, 2)]) W')) := HY.out pre (a, 2) w1 (HJ0.out _ _ _ none HJ.out (grownOf hb1 (Nat.le_refl _)) (fun r e => by cases e)) (pre_len (HM.out.trans (by rw [HMG.out]))); obtain ⟨fn, tmps, assign, body, hy, hR⟩ := hyy)
        refine hR.mono ?_
        rintro e W3 (⟨rfl, hJ3, hk3⟩ | ⟨rfl, hJx3⟩)
        · gi_wp2
          gi_region
          all_goals gi_wp2
          have KK := ((KeepsToo.of hb1 hn0r hzB).trans hk3).trans (KeepsToo.drew n₀ Bs W3)
          have hJ4 := HJ0.out _ _ _ none hJ3 (grownOf (Below.refl W3.heap.size W3).drew (Nat.le_refl _)) (fun r e => by cases e)
          go_roundw
          case rel => exact ⟨_, _, _, _, _, _, la, lb, pre ++ [(a, 2)], rfl, rfl, HRA.out.rest.below RefE.stays KK.1 (Nat.le_refl _), HRB.out.rest.below RefE.stays KK.1 (Nat.le_refl _), joinOn HM.out HMG.out, hJ4, HK.out.trans KK⟩
          case measure => simp [lenV]; omega
        · gi_wp2
          refine bodyPost_ret (results_none rfl _ _ _) rfl ?_
          exact ⟨⟨_, rfl⟩, .inr ⟨_, joinPre HM.out HMG.out, hJx3⟩⟩

end Go.Proofs.YtahkkelahocplaaDoor

namespace Go.Proofs.YtahkkelahocplaaDoor
open Go.RowKit Go.Shelf
attribute [local go_sem] Oper.semAt_some run_store_func

theorem merged_stops (n : Nat) (hn : 1 ≤ n) (Bs Bo n₀ : Nat) (A B : Option Addr) (m c m' c' : Nat) (ra rb : List Rf) (w : World)
    (hs : Blk w Bs 135 #[.slice A m c, .func (.func 135) #[] #[]]) (ho : Blk w Bo 135 #[.slice B m' c', .func (.func 135) #[] #[]])
    (hn0 : n₀ ≤ w.heap.size) (hA : IsRefs w 0 n₀ A m c ra) (hB : IsRefs w 0 n₀ B m' c' rb) :
    SeqStopsK Fence.wide n Tryd.prog 152 #[.pointer (some ⟨Bs, 0, none⟩), .pointer (some ⟨Bo, 0, none⟩)] (fun x : Rf × Nat => #[.agg #[.string x.1.1, .slice x.1.2.1 x.1.2.2.1 x.1.2.2.2.1], .int .i64 ((x.2 : Nat) : Int)]) (KeepsToo n₀ Bs) (fun ys => ys = mergeR ra rb) (fun pre => pre <+: mergeR ra rb) (mergeR ra rb).length w := fun l J Jx W hW hJ _ hY h0 =>
  merged1_in n hn l Bs Bo n₀ A B m c m' c' ra rb J Jx W hJ hY ((hW.cell (p := ⟨Bs, 0, none⟩) hs.lt).trans (hs.cell 0)) ((hW.cell (p := ⟨Bs, 1, none⟩) hs.lt).trans (hs.cell 1)) ((hW.cell (p := ⟨Bo, 0, none⟩) ho.lt).trans (ho.cell 0)) (Nat.le_trans hn0 hW.size) (hA.below RefE.stays hW hn0) (hB.below RefE.stays hW hn0) h0

theorem merged_any (A B : Option Addr) (n c n' c' : Nat) (w : World) :
    Calls Tryd.prog 136 #[.agg #[.slice A n c, .func (.func 135) #[] #[]], .agg #[.slice B n' c', .func (.func 135) #[] #[]]] w fun e w' => e = .returned (.func (.func 152) #[] #[.pointer (some ⟨w.heap.size, 0, none⟩), .pointer (some ⟨w.heap.size + 1, 0, none⟩)]) ∧ w' = (w.alloc (.cells #[.slice A n c, .func (.func 135) #[] #[]] 135)).alloc (.cells #[.slice B n' c', .func (.func 135) #[] #[]] 135) := by
  go_enter Tryd.func136, Tryd.ntmps136
  go_wp2
  go_ret
  exact ⟨rfl, rfl⟩

theorem KeepsToo.b {n₀ b : Nat} {w : World} (hn : n₀ ≤ w.heap.size) (hb : b < w.heap.size) (W : World) (l : Nat) (o o' : Obj) (hl : w.heap.size ≤ l) (h : W.heap[l]? = some o) (hc : o.isCells = false) (hw : o.isWalk = false) : KeepsToo n₀ b W (W.putObj l o') :=
  ⟨belowK_b hn W l o o' hl h hc hw, World.putObj_heap_other (by omega)⟩

theorem grownBy_setAny (W : World) (p : Addr) (v : Value) : W.grownBy (W.setCell p v) (some p.block) :=
  ⟨rfl, rfl, rfl, (KeepsWalks.setCell W _ v).size, fun k _ hk => Below.heap_setCell _ _ _ k (fun e => hk (by rw [e]))⟩

theorem row_far {W : World} {base size k : Nat} {e : TypeId} {v : Value} {xs : List Value} (h : W.ownsRow base e size v k xs) {p : Addr} (hp : some p.block ≠ v.ownBlock) (u : Value) : (W.setCell p u).ownsRow base e size v k xs :=
  h.kept (grownBy_setAny W p u) (.inr hp.symm)

theorem cells_two_new (W : World) (x y : Value) (t : TypeId) : ∀ j u, [x, y][j]? = some u → (W.alloc (.cells #[x, y] t)).cell? ((⟨W.heap.size, 0, none⟩ : Addr).add j) = some u := by
  intro j u hu
  match j, hu with
  | 0, hu => simp at hu; subst hu; simp [go_sem, Addr.add]
  | 1, hu => simp at hu; subst hu; simp [go_sem, Addr.add]

/-- All of two lists. -/
def allR (l : List (Rf × Nat)) : List Rf := l.map (·.1)

theorem allR_snoc (l : List (Rf × Nat)) (x : Rf × Nat) : allR (l ++ [x]) = allR l ++ [x.1] := by unfold allR; simp

/-- A list in order, handed back. -/
def ListPost (rs : List Rf) (w : World) (e : Ending) (w' : World) : Prop := ∃ A c, e = .returned (.agg #[.slice A rs.length c, .func (.func 135) #[] #[]]) ∧ IsRefs w' 0 w'.heap.size A rs.length c rs ∧ Below w.heap.size w w' ∧ (∀ p, A = some p → w.heap.size ≤ p.block)

theorem row_low {W : World} {base size n k c : Nat} {e : TypeId} {A : Option Addr} {xs : List Value} (h : W.ownsRow base e size (.slice A n c) k xs) : ∀ p, A = some p → base ≤ p.block := by
  intro p hp
  subst hp
  rcases h.2 with ⟨hv, _⟩ | ⟨g, cap, cur, hv, hb, _⟩
  · simp at hv
  · injection hv with e1
    injection e1 with e1
    subst e1
    exact hb

theorem refsUp {w W : World} {rs : List Rf} (h : RefsIn w 0 w.heap.size rs) (hb : Below w.heap.size w W) : RefsIn W 0 w.heap.size rs :=
  h.keep (fun _ _ hq => hb.cell hq) (Nat.le_refl _) (Nat.le_refl _)

set_option maxRecDepth 100000 in
set_option maxHeartbeats 4000000 in
theorem only_any (v : Nat) (A B : Option Addr) (n c n' c' : Nat) (ra rb : List Rf) (w : World) (h : IsRefs w 0 w.heap.size A n c ra) (h' : IsRefs w 0 w.heap.size B n' c' rb) (hmax : ra.length + rb.length ≤ 1099511627776) :
    Calls Tryd.prog 118 #[.agg #[.slice A n c, .func (.func 135) #[] #[]], .agg #[.slice B n' c', .func (.func 135) #[] #[]], .int .i64 ((v : Nat) : Int)] w (ListPost (selR v (mergeR ra rb)) w) := by
  have HA := Lib.hid h; clear h
  have HB := Lib.hid h'; clear h'
  have hml := merge_len ra rb
  have hmm := Lib.hid (merge_mem ra rb)
  obtain ⟨i0, hi, hz0, hz1, hz2⟩ := info_parts Tryd.infoAt
  have HR0 := Lib.hid (show RefsIn w 0 w.heap.size (selR v (mergeR ra rb)) from fun r hr => by
    obtain ⟨x, hx, rfl⟩ := selR_mem r hr
    rcases hmm.out x hx with h1 | h1
    · exact (RefsIn.of HA.out) _ h1
    · exact (RefsIn.of HB.out) _ h1)
  clear hmm
  refine (callsIn_wide (n := 5)).1 ?_
  refine callsIn_of_wp_marks Tryd.func118 rfl trivial ?_ rfl
  simp only [Tryd.ntmps118, List.size_toArray, List.length_cons, List.length_nil, Nat.reduceAdd, Nat.reduceSub, Array.replicate_succ, Array.replicate_zero, List.push_toArray, List.append_toArray, List.nil_append, List.cons_append]
  gi_wp2_with (refine ⟨trivial, ?_⟩; gi_at_call 136; refine (callsIn_wide.2 (merged_any _ _ _ _ _ _ _)).mono ?_; rintro e w1 ⟨rfl, rfl⟩)
  obtain ⟨W0, hW0⟩ : ∃ W0, (((((((w.alloc (.cells #[.slice A n c, .func (.func 135) #[] #[]] 135)).alloc (.cells #[.slice B n' c', .func (.func 135) #[] #[]] 135)).alloc (.cells #[.int .i64 ((v : Nat) : Int)] 138)).alloc (.cells #[.slice none 0 0, Value.nilFunc] 135)).alloc (.cells #[.slice none 0 0] 52)).alloc (.cells #[.slice A n c, .func (.func 135) #[] #[]] 135)).alloc (.cells #[.slice B n' c', .func (.func 135) #[] #[]] 135)) = W0 := ⟨_, rfl⟩
  have b0 : Blk W0 (w.heap.size) 135 #[.slice A n c, .func (.func 135) #[] #[]] := by rw [← hW0]; exact (((((((Blk.made _ _ _ (by simp)).alloc _).alloc _).alloc _).alloc _).alloc _).alloc _)
  have b2 : Blk W0 (w.heap.size + 1 + 1) 138 #[.int .i64 ((v : Nat) : Int)] := by rw [← hW0]; exact (((((Blk.made _ _ _ (by simp)).alloc _).alloc _).alloc _).alloc _)
  have b3 : Blk W0 (w.heap.size + 1 + 1 + 1) 135 #[.slice none 0 0, Value.nilFunc] := by rw [← hW0]; exact ((((Blk.made _ _ _ (by simp)).alloc _).alloc _).alloc _)
  have b4 : Blk W0 (w.heap.size + 1 + 1 + 1 + 1) 52 #[.slice none 0 0] := by rw [← hW0]; exact (((Blk.made _ _ _ (by simp)).alloc _).alloc _)
  have b5 : Blk W0 (w.heap.size + 1 + 1 + 1 + 1 + 1) 135 #[.slice A n c, .func (.func 135) #[] #[]] := by rw [← hW0]; exact ((Blk.made _ _ _ (by simp)).alloc _)
  have b6 : Blk W0 (w.heap.size + 1 + 1 + 1 + 1 + 1 + 1) 135 #[.slice B n' c', .func (.func 135) #[] #[]] := by rw [← hW0]; exact (Blk.made _ _ _ (by simp))
  have hB0 : Below w.heap.size w W0 := by rw [← hW0]; exact ((((((((Below.refl _ w).alloc (Nat.le_refl _) _).alloc (by simp only [size_alloc_eq]; omega) _).alloc (by simp only [size_alloc_eq]; omega) _).alloc (by simp only [size_alloc_eq]; omega) _).alloc (by simp only [size_alloc_eq]; omega) _).alloc (by simp only [size_alloc_eq]; omega) _).alloc (by simp only [size_alloc_eq]; omega) _)
  have hsz0 : w.heap.size + 1 + 1 + 1 + 1 + 1 + 1 + 1 ≤ W0.heap.size := by rw [← hW0]; simp only [size_alloc_eq]; omega
  rw [hW0]
  clear hW0
  refine wpIn_rangeFunc_ownH rfl (by omega) (gf := 152) (lb := #[.pointer (some ⟨w.heap.size + 1 + 1 + 1 + 1 + 1, 0, none⟩), .pointer (some ⟨w.heap.size + 1 + 1 + 1 + 1 + 1 + 1, 0, none⟩)]) rfl trivial (enters_of Tryd.func152 (by kernel_rfl) rfl)
    (merged_stops (5 - 1) (by omega) (w.heap.size + 1 + 1 + 1 + 1 + 1) (w.heap.size + 1 + 1 + 1 + 1 + 1 + 1) w.heap.size A B n c n' c' ra rb W0 b5 b6 (by omega) (HA.out.below RefE.stays hB0 (Nat.le_refl _)) (HB.out.below RefE.stays hB0 (Nat.le_refl _))) KeepsToo.trans (KeepsToo.b (by omega) b5.lt) (Below.refl _ _) (fun _ => rfl)
    (fun pre W => ((∃ u, Boxed W (w.heap.size + 1 + 1 + 1 + 1) 52 u ∧ W.ownsRow w.heap.size 24 2 u (selR v pre).length (rcells (selR v pre)) ∧ True) ∧ (Blk W (w.heap.size) 135 #[.slice A n c, .func (.func 135) #[] #[]] ∧ Blk W (w.heap.size + 1 + 1) 138 #[.int .i64 ((v : Nat) : Int)] ∧ Blk W (w.heap.size + 1 + 1 + 1) 135 #[.slice none 0 0, Value.nilFunc] ∧ Blk W (w.heap.size + 1 + 1 + 1 + 1 + 1) 135 #[.slice A n c, .func (.func 135) #[] #[]])) ∧ Below w.heap.size w W)
    (fun _ _ _ => False)
    (OwnFrom.and (OwnFrom.and (Own.from (holdsRow_own w.heap.size (w.heap.size + 1 + 1 + 1 + 1) 52 24 2 (fun pre => (selR v pre).length) (fun pre => rcells (selR v pre)) (fun _ _ => True)) _) (OwnFrom.and (Own.from (Blk.own _ _ _) _) (OwnFrom.and (Own.from (Blk.own _ _ _) _) (OwnFrom.and (Own.from (Blk.own _ _ _) _) (Own.from (Blk.own _ _ _) _))))) (ownFrom_below (Nat.le_refl _) (by omega)))
    (fun _ _ _ _ _ hs _ _ => hs)
    ⟨⟨⟨_, b4, ⟨rfl, .inl ⟨rfl, rfl⟩⟩, trivial⟩, b0, b2, b3, b5⟩, hB0⟩
    (fun x a' W => ∃ Bx, w.heap.size + 1 + 1 + 1 + 1 < Bx ∧ Blk W Bx 24 #[.string x.1.1, .slice x.1.2.1 x.1.2.2.1 x.1.2.2.2.1] ∧ a' = { tmps := #[.agg #[.slice A n c, .func (.func 135) #[] #[]], .agg #[.slice B n' c', .func (.func 135) #[] #[]], .int .i64 ((v : Nat) : Int), .pointer (some ⟨w.heap.size, 0, none⟩), .pointer (some ⟨w.heap.size + 1, 0, none⟩), .pointer (some ⟨w.heap.size + 1 + 1, 0, none⟩), .pointer (some ⟨w.heap.size + 1 + 1 + 1, 0, none⟩), .pointer (some ⟨w.heap.size + 1 + 1 + 1 + 1, 0, none⟩), .pointer (some ⟨Bx, 0, none⟩), .int .i64 ((x.2 : Nat) : Int), .agg #[.slice A n c, .func (.func 135) #[] #[]], .agg #[.slice B n' c', .func (.func 135) #[] #[]], .func (.func 152) #[] #[.pointer (some ⟨w.heap.size + 1 + 1 + 1 + 1 + 1, 0, none⟩), .pointer (some ⟨w.heap.size + 1 + 1 + 1 + 1 + 1 + 1, 0, none⟩)], .agg #[.string x.1.1, .slice x.1.2.1 x.1.2.2.1 x.1.2.2.2.1], .int .i64 ((x.2 : Nat) : Int), undef, undef, undef, undef, undef, undef, undef, undef, undef, undef, undef], defers := [] })
    (fun _ a' _ X Y row hs hg hr => by obtain ⟨Bx, h1, h2, h3⟩ := hs; exact ⟨Bx, h1, Blk.own (β := Unit) Bx _ _ () X Y row h2 hg (fun r e => (hr r e).2), h3⟩)
    ?assign ?body ?done ?stop
  case assign =>
    rintro l pre x W K ⟨⟨⟨u, bU, hrow, -⟩, b0, b2, b3, b5⟩, hB⟩ hK
    gi_wp2
    have hs := hB.size
    have hs5 := b5.lt
    exact hK _ _ ((KeepsOthers.alloc _ _).from _) ⟨(Below.refl _ W).alloc hs _, Below.heap_alloc W _ _ hs5⟩ ⟨⟨⟨u, bU.alloc _, hrow.alloc _, trivial⟩, b0.alloc _, b2.alloc _, b3.alloc _, b5.alloc _⟩, hB.alloc hs _⟩ ⟨W.heap.size, bU.lt, Blk.new W _ _, rfl⟩
  case body =>
    rintro l pre x a' W hl - ⟨⟨⟨u, bU, hrow, -⟩, b0, b2, b3, b5⟩, hB⟩ ⟨Bx, hBx, bX, rfl⟩ hlt
    have hs := hB.size
    have cU := bU.cell
    have c2 : W.cell? ⟨w.heap.size + 1 + 1, 0, none⟩ = some (.int .i64 ((v : Nat) : Int)) := b2.cell 0
    have cX0 : W.cell? ⟨Bx, 0, none⟩ = some (.string x.1.1) := bX.cell 0
    have cX1 : W.cell? ⟨Bx, 1, none⟩ = some (.slice x.1.2.1 x.1.2.2.1 x.1.2.2.2.1) := bX.cell 1
    have hlen := selR_len v pre
    by_cases hx : x.2 = v
    · have hq : (((x.2 : Nat) : Int) == ((v : Nat) : Int)) = true := by simp [hx]
      gi_wp2_with (gi_at_builtin; refine wpListIn_append_own _ rfl _ _ 52 rfl w.heap.size 24 i0 _ 2 40 Tryd.underlying52 hi hz0 hz1 hz2 rfl (by decide) _ _ _ rfl (hrow.alloc _) ⟨W.heap.size, 0, none⟩ 1 1 [.string x.1.1, .slice x.1.2.1 x.1.2.2.1 x.1.2.2.2.1] rfl rfl (cells_two_new _ _ _ _) (by simp [Value.oneCell']) (by unfold maxLen; omega) (by omega) (by simp; omega) ?_; intro u' w1 hown' hgrow _; obtain ⟨g', cap', rfl⟩ := ownsRow_succ hown'; have hAp := Boxed.appended bU (by decide) hrow hs (by omega) hown' hgrow; have cO := hAp.1.cell; have fO := hAp.1.frozen)
      obtain ⟨_, hA2, hA3, hA4, hA5⟩ := hAp
      have t0 := b0.through (by decide) hrow hgrow (B := w.heap.size + 1 + 1 + 1 + 1) (by omega) (.slice (some ⟨g', 0, none⟩) ((selR v pre).length + 1) cap')
      have t2 := b2.through (by decide) hrow hgrow (B := w.heap.size + 1 + 1 + 1 + 1) (by omega) (.slice (some ⟨g', 0, none⟩) ((selR v pre).length + 1) cap')
      have t3 := b3.through (by decide) hrow hgrow (B := w.heap.size + 1 + 1 + 1 + 1) (by omega) (.slice (some ⟨g', 0, none⟩) ((selR v pre).length + 1) cap')
      have t5 := b5.through (by decide) hrow hgrow (B := w.heap.size + 1 + 1 + 1 + 1) (by omega) (.slice (some ⟨g', 0, none⟩) ((selR v pre).length + 1) cap')
      exact ⟨hA4.from _, ⟨hA5, b5.same t5⟩, ⟨⟨_, hA2, by rw [selR_yes hx, rcells_snoc, List.length_append]; exact hA3, trivial⟩, t0, t2, t3, t5⟩, hB.trans hA5⟩
    · have hq : (((x.2 : Nat) : Int) == ((v : Nat) : Int)) = false := by rw [beq_eq_false_iff_ne]; omega
      gi_wp2
      exact ⟨KeepsFrom.refl _ _, KeepsToo.refl _ _ _, ⟨⟨u, bU, by rw [selR_no hx]; exact hrow, trivial⟩, b0, b2, b3, b5⟩, hB⟩
  case done =>
    rintro D ys W hD rfl ⟨⟨⟨u, bU, hrow, -⟩, b0, b2, b3, b5⟩, hB⟩ hK
    have hs := hB.size
    obtain ⟨Au, cu, rfl, -⟩ := refs_own hrow rfl (Nat.zero_le _) (refsUp HR0.out hB) hs
    have cU := bU.cell
    have c0 : W.cell? ⟨w.heap.size, 1, none⟩ = some (.func (.func 135) #[] #[]) := b0.cell 1
    have c3 : W.cell? ⟨w.heap.size + 1 + 1 + 1, 0, none⟩ = some (.slice none 0 0) := b3.cell 0
    have c3b : W.cell? ⟨w.heap.size + 1 + 1 + 1, 1, none⟩ = some Value.nilFunc := b3.cell 1
    have f3 := b3.frozen 0
    have f3b := b3.frozen 1
    have hn3 := b3.not_row (e := 24) (by decide) hrow
    gi_wp2
    have hK2 : ((W.setCell ⟨w.heap.size + 1 + 1 + 1, 0, none⟩ (.slice Au (selR v (mergeR ra rb)).length cu)).setCell ⟨w.heap.size + 1 + 1 + 1, 1, none⟩ (.func (.func 135) #[] #[])).heap[D]? = some (.deferred (some [])) := (KeepsOthers.setCell _ _ _).same D _ ((KeepsOthers.setCell W _ _).same D _ hK rfl) rfl
    have b3w : Blk ((W.setCell ⟨w.heap.size + 1 + 1 + 1, 0, none⟩ (.slice Au (selR v (mergeR ra rb)).length cu)).setCell ⟨w.heap.size + 1 + 1 + 1, 1, none⟩ (.func (.func 135) #[] #[])) (w.heap.size + 1 + 1 + 1) 135 #[(.slice Au (selR v (mergeR ra rb)).length cu), .func (.func 135) #[] #[]] := (b3.set 0 _).set 1 _
    have hBw : Below w.heap.size w ((W.setCell ⟨w.heap.size + 1 + 1 + 1, 0, none⟩ (.slice Au (selR v (mergeR ra rb)).length cu)).setCell ⟨w.heap.size + 1 + 1 + 1, 1, none⟩ (.func (.func 135) #[] #[])) := (hB.setCell (by simp only; omega) _).setCell (by simp only; omega) _
    have hrw := row_far (row_far hrow (p := ⟨w.heap.size + 1 + 1 + 1, 0, none⟩) hn3 (.slice Au (selR v (mergeR ra rb)).length cu)) (p := ⟨w.heap.size + 1 + 1 + 1, 1, none⟩) hn3 (.func (.func 135) #[] #[])
    obtain ⟨W2, hW2⟩ : ∃ W2, ((W.setCell ⟨w.heap.size + 1 + 1 + 1, 0, none⟩ (.slice Au (selR v (mergeR ra rb)).length cu)).setCell ⟨w.heap.size + 1 + 1 + 1, 1, none⟩ (.func (.func 135) #[] #[])) = W2 := ⟨_, rfl⟩
    rw [hW2] at hK2 b3w hBw hrw ⊢
    clear hW2
    have hB3 := hBw.trans (belowK_b (w := w) (Nat.le_refl _) W2 D _ (.deferred none) (by omega) hK2 rfl rfl)
    have b3p := b3w.putObj (.deferred none) hK2 rfl
    have d0 : (W2.putObj D (.deferred none)).cell? ⟨w.heap.size + 1 + 1 + 1, 0, none⟩ = some (.slice Au (selR v (mergeR ra rb)).length cu) := b3p.cell 0
    have d1 : (W2.putObj D (.deferred none)).cell? ⟨w.heap.size + 1 + 1 + 1, 1, none⟩ = some (.func (.func 135) #[] #[]) := b3p.cell 1
    obtain ⟨A3, c3, e3, hI3⟩ := refs_own (ownsRow_putObj hrw (.deferred none) hK2 rfl) rfl (Nat.zero_le _) (refsUp HR0.out hB3) hB3.size
    injection e3 with e3 _ e4
    subst e3; subst e4
    refine ⟨by simp, .inl ⟨_, _, rfl, run_takeDeferred hK2, ?_⟩⟩
    refine ⟨.agg #[(.slice Au (selR v (mergeR ra rb)).length cu), .func (.func 135) #[] #[]], ?_, Au, cu, rfl, hI3, hB3, row_low hrw⟩
    simp [results, Tryd.f118, go_sem, d0, d1]
  case stop =>
    rintro D c pre W hD hpre hF
    exact hF.elim


end Go.Proofs.YtahkkelahocplaaDoor

namespace Go.Proofs.YtahkkelahocplaaDoor
open Go.RowKit

set_option maxRecDepth 100000 in
set_option maxHeartbeats 4000000 in
theorem l5Vars_any (B : Option Addr) (m d : Nat) (qs : List Pt) (w : World) (h : IsParts w 0 w.heap.size B m d qs) (h3 : ∀ q ∈ qs, q.2.2.length ≤ 3) (hmax : m ≤ 1000) :
    Calls Tryd.prog 111 #[.slice B m d] w (TextsPost w.heap.size (partsT [] qs) w) := by
  have HL := Lib.hid h.1
  have H := Lib.hid h; clear h
  have H3 := Lib.hid h3; clear h3
  go_enter Tryd.func111, Tryd.ntmps111
  go_wp2
  go_loopw [3, 4] (fun v i wr => ∃ (k : Nat) (p' : Addr) (d' : Nat), k ≤ m ∧ i = .int .i64 (k : Int) ∧ v = .slice (some p') (partsT [] (qs.take k)).length d' ∧ IsTexts wr w.heap.size wr.heap.size (some p') (partsT [] (qs.take k)).length d' (partsT [] (qs.take k)) ∧ Below w.heap.size w wr) (fun _ i _ => m - (intOf i).toNat)
  case atStart => exact ⟨0, ⟨w.heap.size, 0, none⟩, 0, Nat.zero_le _, rfl, rfl, ⟨rfl, Nat.le_refl _, Nat.zero_le _, fun h0 => absurd h0 (by simp [partsT])⟩, below1 _ _⟩
  case round =>
    obtain ⟨k, p', d', hk, rfl, rfl, hT, hb⟩ := hrel
    have HT := Lib.hid hT; clear hT
    by_cases hlt : k < m
    · have hlt2 : (k : Int) < (m : Int) := by omega
      obtain ⟨q, t, hA, -, hhi, hg, hE⟩ := (H.out.below PartE.stays hb (Nat.le_refl _)).at_ hlt
      obtain ⟨C, n5, c5, c1, c2, c3, c4, c5'⟩ := hE.out
      clear hE
      subst hA
      have hmem := H3.out t (List.mem_of_getElem? hg)
      have hl5 := c5'.1
      have HG := Lib.hid hg; clear hg
      have hlen := partsT_len (qs.take k) [] (fun x hx => H3.out x (List.mem_of_mem_take hx))
      rw [List.length_take, HL.out] at hlen
      have hmin := Nat.min_le_left k m
      have HT5 := Lib.hid (c5'.keep (w' := wr) (lo' := 0) (hi' := wr.heap.size) (fun _ _ _ => rfl) (Nat.le_refl _) hb.size); clear c5'
      go_wp2_with fail
      refine (l2Vars_any t.2.1 C n5 c5 t.2.2 p' _ d' (partsT [] (qs.take k)) wr w.heap.size hb.size HT5.out HT.out (by simp at hlen; omega)).mono ?_; rintro e w2 ⟨p2, d2, rfl, hT2, hb2⟩
      have HT2 := Lib.hid hT2; have hb3 := belowThen hb hb2; clear hT2 hb2
      go_wp2
      go_roundw
      case rel => exact ⟨k + 1, p2, d2, by omega, by go_num, by rw [partsT_step HG.out], by rw [partsT_step HG.out]; exact HT2.out, hb3⟩
      case measure => simp [intOf]; omega
    · have e : partsT [] (qs.take k) = partsT [] qs := by rw [List.take_of_length_le (by rw [HL.out]; omega)]
      have E := Lib.hid e; clear e
      go_wp2
      go_ret; exact ⟨p', d', by rw [E.out]; rfl, by rw [← E.out]; exact HT.out, hb⟩

theorem asVars_step {vs : List ByteArray} {k : Nat} {s : ByteArray} (h : vs[k]? = some s) : tmCells (asVars (vs.take (k + 1))) = tmCells (asVars (vs.take k)) ++ [.bool true, .string s] := by
  unfold asVars; rw [List.take_add_one, h, List.map_append]; exact tmCells_snoc (List.map (fun s => (true, s)) (List.take k vs)) (true, s)

set_option maxRecDepth 100000 in
set_option maxHeartbeats 8000000 in
theorem l5Rule_any (nm : ByteArray) (B : Option Addr) (m d : Nat) (qs : List Pt) (w : World) (h : IsParts w 0 w.heap.size B m d qs) (h3 : ∀ q ∈ qs, q.2.2.length ≤ 3) (hmax : m ≤ 1000) (hsm : ∀ s ∈ partsT [] qs, s.size ≤ 16) :
    Calls Tryd.prog 84 #[.string nm, .slice B m d] w (RuleAsks nm B m d (partsT [] qs) w) := by
  have HL := Lib.hid h.1
  obtain ⟨i0, hi, hz, hsz, hby⟩ := info_parts Tryd.infoTm
  have HI := Lib.hid hi; have HZ := Lib.hid hz; have HSZ := Lib.hid hsz; have HYY := Lib.hid hby
  clear hi hz hsz hby
  have hlenV := partsT_len qs [] h3
  rw [HL.out] at hlenV
  simp only [List.length_nil] at hlenV
  have H3 := Lib.hid h3; have HSM := Lib.hid hsm; clear h3 hsm
  have hb2 := below2 w (.cells #[.string ⟨#[]⟩, .slice none 0 0, .slice none 0 0] 38) (.cells #[.string nm, .slice none 0 0, .slice B m d] 38)
  have X0 := (Blk.new w 38 #[.string ⟨#[]⟩, .slice none 0 0, .slice none 0 0]).alloc (.cells #[.string nm, .slice none 0 0, .slice B m d] 38)
  have Y0 := Blk.made (w.alloc (.cells #[.string ⟨#[]⟩, .slice none 0 0, .slice none 0 0] 38)) (b := w.heap.size + 1) 38 #[.string nm, .slice none 0 0, .slice B m d] (by simp)
  obtain ⟨W0, hW0⟩ : ∃ W0, (w.alloc (.cells #[.string ⟨#[]⟩, .slice none 0 0, .slice none 0 0] 38)).alloc (.cells #[.string nm, .slice none 0 0, .slice B m d] 38) = W0 := ⟨_, rfl⟩
  have hz0 : W0.heap.size = w.heap.size + 2 := by rw [← hW0]; simp
  go_enter Tryd.func84, Tryd.ntmps84
  go_wp2_with fail
  rw [hW0] at hb2 X0 Y0
  refine (l5Vars_any B m d qs W0 (h.up PartE.stays hb2) H3.out hmax).mono ?_; rintro e w1 ⟨p, pc, rfl, hT, hb1⟩
  have HT := Lib.hid hT; have X1 := Lib.hid (X0.below hb1); have Y1 := Lib.hid (Y0.below hb1); have HB1 := Lib.hid (belowThen hb2 hb1)
  have hz1 := hb1.size
  have hV : ∃ vs, partsT [] qs = vs := ⟨_, rfl⟩
  obtain ⟨vs, hV⟩ := hV
  rw [hV] at hlenV HT
  have HV := Lib.hid hV
  have HSM' : Hid (∀ s ∈ vs, s.size ≤ 16) := Lib.hid (by rw [← hV]; exact HSM.out)
  rw [hV]
  clear h hb2 X0 Y0 hT hb1 hV
  go_wp2_with fail
  go_loopw [7] (fun i wr => ∃ (k : Nat) (v : Value), k ≤ vs.length ∧ i = .int .i64 (k : Int) ∧ Blk wr (w.heap.size + 1) 38 #[.string nm, v, .slice B m d] ∧ Blk wr w.heap.size 38 #[.string ⟨#[]⟩, .slice none 0 0, .slice none 0 0] ∧ wr.ownsRow w1.heap.size 62 2 v k (tmCells (asVars (vs.take k))) ∧ IsTexts wr W0.heap.size w1.heap.size (some p) vs.length pc vs ∧ Below w.heap.size w wr ∧ w1.heap.size ≤ wr.heap.size) (fun i _ => vs.length - (intOf i).toNat)
  case atStart => exact ⟨0, _, Nat.zero_le _, rfl, Y1.out, X1.out, ⟨rfl, .inl ⟨rfl, rfl⟩⟩, HT.out, HB1.out, Nat.le_refl _⟩
  case round =>
    obtain ⟨k, v, hk, rfl, hY, hX, hrow, hT, hb, hsz⟩ := hrel
    obtain ⟨Av, cv, rfl⟩ : ∃ Av cv, v = .slice Av k cv := by
      rcases hrow.2 with ⟨e1, e2⟩ | ⟨g, cap, cur, e1, _⟩
      · exact ⟨none, 0, by rw [e1, e2]⟩
      · exact ⟨_, cap, e1⟩
    have HY := Lib.hid hY; have HX := Lib.hid hX; have HR := Lib.hid hrow; have HT2 := Lib.hid hT; have HB := Lib.hid hb
    clear hY hX hrow hT hb
    have y0 : wr.cell? ⟨w.heap.size + 1, 0, none⟩ = some (.string nm) := HY.out.cell 0
    have y1 : wr.cell? ⟨w.heap.size + 1, 1, none⟩ = some (.slice Av k cv) := HY.out.cell 1
    have y2 : wr.cell? ⟨w.heap.size + 1, 2, none⟩ = some (.slice B m d) := HY.out.cell 2
    have hyl := HY.out.lt
    by_cases hlt : k < vs.length
    · have hlt2 : (k : Int) < (vs.length : Int) := by omega
      obtain ⟨q, s, hq, hlo, hhi, hg, hE⟩ := HT2.out.at_ hlt
      injection hq with hq
      subst hq
      have c1 : wr.cell? (p.add k) = some (.string s) := by have := hE; unfold TextE at this; rwa [Nat.mul_one] at this
      have HG := Lib.hid hg; clear hg hE
      have HRD : Hid (wr.drew.ownsRow w1.heap.size 62 2 (.slice Av k cv) k (tmCells (asVars (vs.take k)))) := Lib.hid HR.out
      have YD := Lib.hid (show Blk wr.drew (w.heap.size + 1) 38 #[.string nm, .slice Av k cv, .slice B m d] from HY.out)
      have cu := cellUp (w := wr.drew) (show wr.drew.cell? (p.add k) = some (.string s) from c1)
      have cv1 := cellUp (w := wr.drew) (show wr.drew.cell? ⟨w.heap.size + 1, 1, none⟩ = some (.slice Av k cv) from y1)
      have hlo2 : ∀ g, (Value.slice Av k cv).ownBlock = some g → w1.heap.size ≤ g := fun g hg => (HR.out.lt g hg).1
      go_wp2_with fail
      go_region_law (first
        | (refine step_append_lies _ (by rfl) _ _ _ (by rfl) w1.heap.size 62 i0 _ 2 24 Tryd.underlying22 HI.out HZ.out HSZ.out HYY.out rfl (by omega) (.slice Av k cv) k (tmCells (asVars (vs.take k))) (by rfl) (HRD.out.alloc _) ⟨wr.drew.heap.size, 0, none⟩ 1 1 [.bool true, .string s] (by rfl) (by rfl) (World.news_of_block (cs := #[.bool true, .string s]) (t := 62) (fr := (0, 0)) (heap_alloc_new wr.drew _)) (by simp [Value.oneCell']) (by omega) (by unfold maxLen; omega) (by omega) (by simp; omega) (wr.drew.heap.size + 1) (by simp) ?_; intro gg cap w6 hown6 hgrow hat hlt6; have Y6 := (YD.out.alloc (.cells #[.bool true, .string s] 62)).kept hgrow (fun e => (by have := hlo2 _ e.symm; omega)); have z3 : w6.cell? ⟨w.heap.size + 1, 1, none⟩ = some (.slice Av k cv) := Y6.cell 1; have z5 := Y6.frozen 1))
      all_goals
        have hgg := (hown6.lt gg rfl).1
        have hal := below1 wr (.cells #[.bool true, .string s] 62)
        have hgs : wr.heap.size + 1 ≤ w6.heap.size := by have := hgrow.size; simp at this; exact this
        have X6 := ((show Blk wr.drew w.heap.size 38 #[.string ⟨#[]⟩, .slice none 0 0, .slice none 0 0] from HX.out).alloc (.cells #[.bool true, .string s] 62)).kept (W' := w6) hgrow (fun e => by have := hlo2 _ e.symm; omega)
        have hset := grownBy_setAny w6 ⟨w.heap.size + 1, 1, none⟩ (.slice (some ⟨gg, 0, none⟩) (k + 1) cap)
        have A1 := Lib.hid (show Blk (w6.setCell ⟨w.heap.size + 1, 1, none⟩ (.slice (some ⟨gg, 0, none⟩) (k + 1) cap)) (w.heap.size + 1) 38 #[.string nm, .slice (some ⟨gg, 0, none⟩) (k + 1) cap, .slice B m d] from Y6.set 1 _)
        have A2 := Lib.hid (X6.far (p := ⟨w.heap.size + 1, 1, none⟩) (by simp) (.slice (some ⟨gg, 0, none⟩) (k + 1) cap))
        have A3 : Hid ((w6.setCell ⟨w.heap.size + 1, 1, none⟩ (.slice (some ⟨gg, 0, none⟩) (k + 1) cap)).ownsRow w1.heap.size 62 2 (.slice (some ⟨gg, 0, none⟩) (k + 1) cap) (k + 1) (tmCells (asVars (vs.take (k + 1))))) := Lib.hid (by rw [asVars_step HG.out]; exact row_far hown6 (fun e => by injection e with e; simp at e; omega) _)
        have A4 := Lib.hid (HT2.out.keep (w' := w6.setCell ⟨w.heap.size + 1, 1, none⟩ (.slice (some ⟨gg, 0, none⟩) (k + 1) cap)) TextE.stays (fun q h1 h2 => ((hset.cell_far _ (by omega) (fun e => by injection e with e; simp at e; omega)).trans (hgrow.cell_far _ (by simp; omega) (fun e => by have := hlo2 _ e.symm; omega))).trans (hal.cell (by omega))) (Nat.le_refl _) (Nat.le_refl _))
        have A5 := Lib.hid ((((HB.out.alloc HB.out.size (.cells #[.bool true, .string s] 62)).drew).grown hgrow (by have := HB.out.size; simp; omega) (fun g hg => by have := hlo2 g hg; omega)).setCell (p := ⟨w.heap.size + 1, 1, none⟩) (by simp) (.slice (some ⟨gg, 0, none⟩) (k + 1) cap))
        have A6 : w1.heap.size ≤ (w6.setCell ⟨w.heap.size + 1, 1, none⟩ (.slice (some ⟨gg, 0, none⟩) (k + 1) cap)).heap.size := by rw [size_setCell]; omega
        clear hown6 hgrow hat Y6 z3 z5 X6 hset hal cu cv1 hlo2
        go_wp2
        go_roundw
        case rel => exact ⟨k + 1, _, by omega, by go_num, A1.out, A2.out, A3.out, A4.out, A5.out, A6⟩
        case measure => simp [intOf]; omega
    · have hkv : k = vs.length := by omega
      subst hkv
      have hr1 : wr.cell? ⟨w.heap.size, 0, none⟩ = some (.string ⟨#[]⟩) := HX.out.cell 0
      have hr2 : wr.cell? ⟨w.heap.size, 1, none⟩ = some (.slice none 0 0) := HX.out.cell 1
      have hr3 : wr.cell? ⟨w.heap.size, 2, none⟩ = some (.slice none 0 0) := HX.out.cell 2
      have f1 := HX.out.frozen 0; have f2 := HX.out.frozen 1; have f3 := HX.out.frozen 2
      have hrow := HR.out
      rw [List.take_length] at hrow
      obtain ⟨A9, c9, e9, hT9⟩ := owned_terms hrow (by unfold asVars; rw [List.length_map]) (fun t ht => by
        unfold asVars at ht
        obtain ⟨s, hs, rfl⟩ := List.mem_map.1 ht
        exact HSM'.out s hs)
      injection e9 with e9 _ e10
      subst e9; subst e10
      have HT9 := Lib.hid hT9
      clear hrow hT9
      have Z := (HX.out.set 0 (.string nm)).set 1 (.slice Av vs.length cv) |>.set 2 (.slice B m d)
      have z0 := Z.cell 0; have z1 := Z.cell 1; have z2 := Z.cell 2
      go_wp2
      refine bodyPost_ret (v := .agg #[.string nm, .slice Av vs.length cv, .slice B m d]) (by simp [results, Tryd.results84, go_sem, hr1, hr2, hr3]) rfl ?_
      rw [HV.out]
      refine ⟨Av, cv, rfl, HT9.out.keep (fun q h1 _ => World.cell?_of_block (((Below.heap_setCell _ _ _ _ (by simp; omega)).trans (Below.heap_setCell _ _ _ _ (by simp; omega))).trans (Below.heap_setCell _ _ _ _ (by simp; omega)))) (Nat.zero_le _) (by rw [size_setCell, size_setCell, size_setCell]; exact Nat.le_refl _), ((HB.out.setCell (by simp) _).setCell (by simp) _).setCell (by simp) _⟩

end Go.Proofs.YtahkkelahocplaaDoor

namespace Go.Proofs.YtahkkelahocplaaDoor
open Go.RowKit Go.Shelf
attribute [local go_sem] Oper.semAt_some

/-- What a round keeps: what lay below n₀; and all cells. -/
structure KeepsCells (n₀ : Nat) (W W' : World) : Prop where
  below : Below n₀ W W'
  same : ∀ (b : Nat) (o : Obj), W.heap[b]? = some o → o.isCells = true → W'.heap[b]? = W.heap[b]?

theorem KeepsCells.refl (n₀ : Nat) (W : World) : KeepsCells n₀ W W := ⟨Below.refl _ _, fun _ _ _ _ => rfl⟩
theorem KeepsCells.trans {n₀ : Nat} {A B C : World} (h : KeepsCells n₀ A B) (k : KeepsCells n₀ B C) : KeepsCells n₀ A C :=
  ⟨h.below.trans k.below, fun b o hb ho => (k.same b o ((h.same b o hb ho).trans hb) ho).trans (h.same b o hb ho)⟩
theorem KeepsCells.of {n₀ : Nat} {A B : World} (h : Below A.heap.size A B) (hn : n₀ ≤ A.heap.size) : KeepsCells n₀ A B :=
  ⟨h.mono hn, fun b _ hb _ => h.block b (Array.getElem?_eq_some_iff.1 hb).1⟩
theorem cells_of_cell {W : World} {p : Addr} {v : Value} (h : W.cell? p = some v) : ∃ o, W.heap[p.block]? = some o ∧ o.isCells = true := by
  unfold World.cell? at h
  split at h
  · rename_i c e f hb; exact ⟨_, hb, rfl⟩
  · cases h
theorem KeepsCells.cell {n₀ : Nat} {W W' : World} (h : KeepsCells n₀ W W') {p : Addr} {v : Value} (hc : W.cell? p = some v) : W'.cell? p = some v := by
  obtain ⟨o, ho, hi⟩ := cells_of_cell hc
  exact (World.cell?_of_block (h.same _ o ho hi)).trans hc
theorem keepsC_t {n₀ : Nat} {A B C : World} (h : KeepsCells n₀ A B) (k : KeepsCells n₀ B C) : KeepsCells n₀ A C := h.trans k
theorem keepsC_b {n₀ : Nat} {w : World} (hn : n₀ ≤ w.heap.size) (W : World) (l : Nat) (o o' : Obj) (hl : w.heap.size ≤ l) (h : W.heap[l]? = some o) (hc : o.isCells = false) (hw : o.isWalk = false) : KeepsCells n₀ W (W.putObj l o') :=
  ⟨belowK_b hn W l o o' hl h hc hw, fun b o2 hb hc2 => (grownBy_putObj' W l o').block b (Array.getElem?_eq_some_iff.1 hb).1 (fun e => by injection e with e; subst e; rw [h] at hb; cases hb; rw [hc] at hc2; cases hc2)⟩
theorem ownFrom_cells {β : Type} {n₀ B : Nat} {w₀ : World} (hn : n₀ ≤ w₀.heap.size) (hB : n₀ ≤ B) : OwnFrom B (fun (_ : β) W => KeepsCells n₀ w₀ W) :=
  fun s A C row hs hg hr => ⟨ownFrom_below hn hB s A C row hs.below hg hr, fun b o hb ho => by
    have hA := (hs.same b o hb ho).trans hb
    refine (hg.block b (Array.getElem?_eq_some_iff.1 hA).1 (fun e => ?_)).trans (hs.same b o hb ho)
    obtain ⟨_, o', h1, h2⟩ := hr b e.symm
    rw [hA] at h1; cases h1; rw [ho] at h2; cases h2⟩

/-- An atom that lay there in this world. -/
abbrev Lain (w : World) (n₀ : Nat) := { x : (ByteArray × Option Addr) × (Nat × Nat) × List Tm // x.1.1.size ≤ maxLen ∧ IsTerms w 0 n₀ x.1.2 x.2.1.1 x.2.1.2 x.2.2 }
def lainAt {w : World} {n₀ : Nat} (x : Lain w n₀) : At := (x.1.1.1, x.1.2.2)

/-- The atoms of rules: each head, and what stands in its body. -/
def atsOf (rs : List Rl) : List At := rs.flatMap fun r => r.1 :: r.2.map (·.2)

theorem atsOf_step {rs : List Rl} {k : Nat} {r : Rl} (h : rs[k]? = some r) : atsOf (rs.take (k + 1)) = atsOf (rs.take k) ++ r.1 :: r.2.map (·.2) := by
  unfold atsOf; rw [List.take_add_one, h, List.flatMap_append]; simp
theorem atsOf_pre {rs : List Rl} {k : Nat} {r : Rl} (h : rs[k]? = some r) (j : Nat) : (atsOf (rs.take k) ++ r.1 :: (r.2.take j).map (·.2)) <+: atsOf rs := by
  have h1 : atsOf (rs.take (k + 1)) <+: atsOf rs := by
    conv => rhs; rw [← List.take_append_drop (k + 1) rs]
    unfold atsOf; rw [List.flatMap_append]; exact List.prefix_append _ _
  refine List.IsPrefix.trans ?_ h1
  rw [atsOf_step h, List.prefix_append_right_inj, List.cons_prefix_cons]
  exact ⟨rfl, List.IsPrefix.map _ (List.take_prefix _ _)⟩
theorem atsIn_step {qs : List Pt} {j : Nat} {q : Pt} (h : qs[j]? = some q) (L : List At) (a : At) : L ++ a :: (qs.take (j + 1)).map (·.2) = (L ++ a :: (qs.take j).map (·.2)) ++ [q.2] := by
  rw [List.take_add_one, h, List.map_append]; simp
theorem pre_lt {α β : Type} {f : α → β} {ps : List α} {L M : List β} {b : β} (h : ps.map f = L) (hp : (L ++ [b]) <+: M) : ps.length < M.length := by
  have h1 := congrArg List.length h; have h2 := hp.length_le
  rw [List.length_map] at h1; rw [List.length_append, List.length_singleton] at h2; omega

theorem RuleE.out {w : World} {lo hi : Nat} {p : Addr} {r : Rl} (h : RuleE w lo hi p r) : ∃ A n c B m d, w.cell? p = some (.string r.1.1) ∧ r.1.1.size ≤ maxLen ∧ w.cell? ⟨p.block, p.off + 1, none⟩ = some (.slice A n c) ∧ IsTerms w lo hi A n c r.1.2 ∧ w.cell? ⟨p.block, p.off + 2, none⟩ = some (.slice B m d) ∧ IsParts w lo hi B m d r.2 := by
  obtain ⟨h1, h2, ⟨A, n, c, h3, h4⟩, ⟨B, m, d, h5, h6⟩⟩ := h
  exact ⟨A, n, c, B, m, d, h1, h2, h3, h4, h5, h6⟩

set_option maxRecDepth 100000 in
set_option maxHeartbeats 4000000 in
theorem atomsS_in (n : Nat) (hn : 1 ≤ n) (l Bs n₀ : Nat) (A : Option Addr) (m c : Nat) (rs : List Rl) (w : World) (J Jx : List (Lain w n₀) → World → Prop) (W : World) (hJ : AbidesFrom W.heap.size J)
    (hY : ∀ pre (x : Lain w n₀) W1, J pre W1 → pre.length < (atsOf rs).length → YieldAt Fence.wide (n - 1) Tryd.prog l #[.agg #[.string x.1.1.1, .slice x.1.1.2 x.1.2.1.1 x.1.2.1.2]] W1 fun e W' =>
      (e = .returned (.bool true) ∧ J (pre ++ [x]) W' ∧ KeepsCells n₀ W1 W') ∨ (e = .returned (.bool false) ∧ Jx (pre ++ [x]) W'))
    (hB : W.cell? ⟨Bs, 0, none⟩ = some (.slice A m c)) (hw : n₀ ≤ w.heap.size) (hb0 : Below n₀ w W) (hT : IsRules w 0 n₀ A m c rs) (h0 : J [] W) :
    CallsIn Fence.wide n Tryd.prog 126 #[.func (.yield l) #[] #[], .pointer (some ⟨Bs, 0, none⟩)] W fun e W' => (∃ v, e = .returned v) ∧
      ((∃ ys, ys.map lainAt = atsOf rs ∧ J ys W') ∨ (∃ pre, pre.map lainAt <+: atsOf rs ∧ Jx pre W')) := by
  have hm : m ≤ maxLen := by have := hT.2.1; have := hT.2.2.1; omega
  unfold maxLen at hm
  have HT := Lib.hid hT; clear hT
  have HY := Lib.hid hY; clear hY
  have HJ0 := Lib.hid hJ; clear hJ
  have HB0 := Lib.hid hb0; clear hb0
  have hW0 := HB0.out.size
  refine callsIn_of_wp Tryd.func126 rfl trivial ?_ rfl
  simp only [Tryd.ntmps126, List.size_toArray, List.length_cons, List.length_nil, Nat.reduceAdd, Nat.reduceSub, Array.replicate_succ, Array.replicate_zero, List.push_toArray, List.append_toArray, List.nil_append, List.cons_append]
  gi_wp2
  gi_loopw [9] (fun i wr => ∃ k : Nat, k ≤ m ∧ i = .int .i64 k ∧ (∃ ps : List (Lain w n₀), ps.map lainAt = atsOf (rs.take k) ∧ J ps wr) ∧ KeepsCells n₀ W wr) (fun i _ => m - (intOf i).toNat)
  case atStart => exact ⟨0, Nat.zero_le _, rfl, ⟨[], rfl, h0⟩, KeepsCells.refl _ _⟩
  case round =>
    obtain ⟨k, hk, rfl, ⟨ps, hps, hJs⟩, hb⟩ := hrel
    have HPS := Lib.hid hps; clear hps
    have HJ := Lib.hid hJs; clear hJs
    have HK := Lib.hid hb
    have hbw := HB0.out.trans hb.below
    have hwr := hbw.size
    have hwr2 := hb.below.size
    by_cases hlt : k < m
    · have hlt2 : (k : Int) < (m : Int) := by omega
      obtain ⟨p, r, hA, hlo, hhi, hg, hE⟩ := HT.out.at_ hlt
      obtain ⟨C, n5, c5, D, n6, c6, c1, hs, c2, hT5, c4, hP6⟩ := hE.out
      subst hA
      have hpb : (p.add (k * 3)).block < n₀ := by rw [block_add]; exact hhi
      have e1 := (hbw.cell (p := p.add (k * 3)) hpb).trans c1
      have e2 := (hbw.cell (p := ⟨(p.add (k * 3)).block, (p.add (k * 3)).off + 1, none⟩) hpb).trans c2
      have e4 := (hbw.cell (p := ⟨(p.add (k * 3)).block, (p.add (k * 3)).off + 2, none⟩) hpb).trans c4
      have HG := Lib.hid hg; have HT5 := Lib.hid hT5; have HP6 := Lib.hid hP6
      clear hg hE hT5 hP6 c1 c2 c4
      have hal := below1 wr (.cells #[.string r.1.1, .slice C n5 c5, .slice D n6 c6] 38)
      have X0 := Blk.new wr 38 #[.string r.1.1, .slice C n5 c5, .slice D n6 c6]
      obtain ⟨fn, tmps, assign, body, hy, hR⟩ := HY.out ps ⟨((r.1.1, C), (n5, c5), r.1.2), hs, HT5.out⟩ (wr.alloc (.cells #[.string r.1.1, .slice C n5 c5, .slice D n6 c6] 38)) (HJ0.out _ _ _ none HJ.out (grownOf hal (Nat.le_refl _)) (fun r e => by cases e)) (pre_lt HPS.out (atsOf_pre HG.out 0))
      dsimp only at hy hR
      gi_wp2
      refine hR.mono ?_
      rintro e W3 (⟨rfl, hJ3, hk3⟩ | ⟨rfl, hJx3⟩)
      · have K3 := (KeepsCells.of hal (by omega)).trans hk3
        have f2 : W3.cell? ⟨wr.heap.size, 2, none⟩ = some (.slice D n6 c6) := hk3.cell (X0.cell 2)
        have hz3 := hk3.below.size
        have HJ3 := Lib.hid hJ3; clear hJ3
        have hm6 : n6 ≤ maxLen := by have := HP6.out.2.1; have := HP6.out.2.2.1; omega
        unfold maxLen at hm6
        gi_wp2
        gi_loopw [21] (fun i wq => ∃ j : Nat, j ≤ n6 ∧ i = .int .i64 j ∧ (∃ ps : List (Lain w n₀), ps.map lainAt = atsOf (rs.take k) ++ r.1 :: (r.2.take j).map (·.2) ∧ J ps wq) ∧ KeepsCells n₀ wr wq) (fun i _ => n6 - (intOf i).toNat)
        case atStart => exact ⟨0, Nat.zero_le _, rfl, ⟨_, by rw [List.map_append, HPS.out]; rfl, HJ3.out⟩, K3⟩
        case round =>
          obtain ⟨j, hj, rfl, ⟨qs, hqs, hJq⟩, hbq⟩ := hrel
          have HQS := Lib.hid hqs; have HJQ := Lib.hid hJq; have HKQ := Lib.hid hbq
          clear hqs hJq hbq
          have HBQ := hbw.trans HKQ.out.below
          have hqz := HKQ.out.below.size
          have hnq : n₀ ≤ wr.heap.size := by omega
          by_cases hlq : j < n6
          · have hlq2 : (j : Int) < (n6 : Int) := by omega
            obtain ⟨q, t, hA2, -, hhi2, hg2, hE2⟩ := HP6.out.at_ hlq
            obtain ⟨C2, n7, c7, d1, d2, ds, d4, dT⟩ := hE2.out
            subst hA2
            have hqb : (q.add (j * 3)).block < n₀ := by rw [block_add]; exact hhi2
            have g1 := (HBQ.cell (p := q.add (j * 3)) hqb).trans d1
            have g2 := (HBQ.cell (p := ⟨(q.add (j * 3)).block, (q.add (j * 3)).off + 1, none⟩) hqb).trans d2
            have g4 := (HBQ.cell (p := ⟨(q.add (j * 3)).block, (q.add (j * 3)).off + 2, none⟩) hqb).trans d4
            have HG2 := Lib.hid hg2; have HT7 := Lib.hid dT
            clear hg2 hE2 d1 d2 d4 dT
            have hal2 := below1 wr (.cells #[.bool t.1, .string t.2.1, .slice C2 n7 c7] 86)
            obtain ⟨fn2, tmps2, assign2, body2, hy2, hR2⟩ := HY.out qs ⟨((t.2.1, C2), (n7, c7), t.2.2), ds, HT7.out⟩ (wr.alloc (.cells #[.bool t.1, .string t.2.1, .slice C2 n7 c7] 86)) (HJ0.out _ _ _ none HJQ.out (grownOf hal2 (Nat.le_refl _)) (fun r e => by cases e)) (pre_lt HQS.out (by rw [← atsIn_step HG2.out]; exact atsOf_pre HG.out (j + 1)))
            dsimp only at hy2 hR2
            gi_wp2
            refine hR2.mono ?_
            rintro e W4 (⟨rfl, hJ4, hk4⟩ | ⟨rfl, hJx4⟩)
            · have K4 := (HKQ.out.trans (KeepsCells.of hal2 hnq)).trans hk4
              gi_wp2
              go_roundw
              case rel => exact ⟨j + 1, by omega, by go_num, ⟨_, by rw [List.map_append, HQS.out, atsIn_step HG2.out]; rfl, hJ4⟩, K4⟩
              case measure => simp [intOf]; omega
            · gi_wp2
              refine bodyPost_ret (results_none rfl _ _ _) rfl ?_
              exact ⟨⟨_, rfl⟩, .inr ⟨_, by rw [List.map_append, HQS.out]; show _ ++ [t.2] <+: _; rw [← atsIn_step HG2.out]; exact atsOf_pre HG.out (j + 1), hJx4⟩⟩
          · have hlq2 : ¬ (j : Int) < (n6 : Int) := by omega
            have E6 := Lib.hid (show r.2.take j = r.2 from List.take_of_length_le (by have := HP6.out.1; omega))
            gi_wp2
            go_roundw
            case rel => exact ⟨k + 1, by omega, by go_num, ⟨qs, by rw [HQS.out, atsOf_step HG.out, E6.out], HJQ.out⟩, HK.out.trans HKQ.out⟩
            case measure => simp [intOf]; omega
      · gi_wp2
        refine bodyPost_ret (results_none rfl _ _ _) rfl ?_
        exact ⟨⟨_, rfl⟩, .inr ⟨_, by rw [List.map_append, HPS.out]; exact atsOf_pre HG.out 0, hJx3⟩⟩
    · have E := Lib.hid (show atsOf (rs.take k) = atsOf rs by rw [List.take_of_length_le (by have := HT.out.1; omega)])
      gi_wp2
      go_end0
      exact ⟨⟨_, rfl⟩, .inl ⟨ps, by rw [HPS.out, E.out], HJ.out⟩⟩

end Go.Proofs.YtahkkelahocplaaDoor

namespace Go.Proofs.YtahkkelahocplaaDoor
open Go.RowKit Go.Shelf Go.Maps Go.WideMaps
attribute [local go_sem] Oper.semAt_some

/-- Blocks that hold nothing to be done later. -/
def Marks (Ds : List Nat) (W : World) : Prop := Ds.Nodup ∧ ∀ D ∈ Ds, W.heap[D]? = some (.deferred (some []))
def marks (Ds : List Nat) : List Deferred := Ds.map fun D => { target := .collected D, args := #[] }

theorem Marks.kept {Ds : List Nat} {W W' : World} {row : Option Nat} (h : Marks Ds W) (hg : W.grownBy W' row) (hr : ∀ r, row = some r → r ∉ Ds) : Marks Ds W' :=
  ⟨h.1, fun D hD => (hg.block D (Array.getElem?_eq_some_iff.1 (h.2 D hD)).1 (fun e => hr D e.symm hD)).trans (h.2 D hD)⟩

/-- What they held is taken: nothing. -/
theorem leaves_marks {F : Fence} {n : Nat} {P : Program} {fn : Func} {tmps : Array Value} {R : Ending → World → Prop} : ∀ (Ds : List Nat) (W : World), Marks Ds W →
    (∀ W' : World, W'.os = W.os → W'.tape = W.tape → W'.output = W.output → W'.heap.size = W.heap.size → (∀ i, i ∉ Ds → W'.heap[i]? = W.heap[i]?) → LeavesInM F n P fn tmps R [] .returning W') → LeavesInM F n P fn tmps R (marks Ds) .returning W
  | [], W, _, h => h W rfl rfl rfl rfl (fun _ _ => rfl)
  | D :: Ds, W, hM, h => by
    have hD := hM.2 D (List.mem_cons_self ..)
    have hnd := List.nodup_cons.1 hM.1
    have hg := grownBy_putObj' W D (.deferred none)
    refine ⟨by simp, .inl ⟨D, _, rfl, run_takeDeferred hD, leaves_marks Ds _ ?_ ?_⟩⟩
    · exact ⟨hnd.2, fun D' hD' => (hg.block D' (Array.getElem?_eq_some_iff.1 (hM.2 D' (List.mem_cons_of_mem _ hD'))).1 (fun e => by injection e with e; subst e; exact hnd.1 hD')).trans (hM.2 D' (List.mem_cons_of_mem _ hD'))⟩
    · intro W' h1 h2 h3 h4 h5
      refine h W' (h1.trans hg.os) (h2.trans hg.tape) (h3.trans hg.output) (h4.trans (by simp [World.putObj])) (fun i hi => ?_)
      have hiD : i ≠ D := fun e => hi (by rw [e]; exact List.mem_cons_self ..)
      have hiDs : i ∉ Ds := fun e => hi (List.mem_cons_of_mem _ e)
      rw [h5 i hiDs]
      simp [World.putObj, Ne.symm hiD]

/-- A set of texts, as the map's datum. -/
def bset (vs : List ByteArray) : DataW Unit := setOf (.lit (.bool true)) (vs.map fun s => .string s.data.toList)

theorem bset_snoc (vs : List ByteArray) (s : ByteArray) : bset (vs ++ [s]) = (bset vs).put (.string s.data.toList) (.lit (.bool true)) := by unfold bset; rw [List.map_append]; exact setOf_snoc _ _ _



theorem Tryd.lawS : Keyed Tryd.prog 9 := string_keyed Tryd.underlying9

/-- The variables of parts that must be, as often as they stand there. -/
def mvars (qs : List Pt) : List ByteArray := (musts qs).flatMap fun q => varsOf q.2.2

theorem mvars_no {qs : List Pt} {k : Nat} {q : Pt} (h : qs[k]? = some q) (hq : q.1 = true) : mvars (qs.take (k + 1)) = mvars (qs.take k) := by unfold mvars; rw [musts_no h hq]
theorem mvars_yes {qs : List Pt} {k : Nat} {q : Pt} (h : qs[k]? = some q) (hq : q.1 = false) : mvars (qs.take (k + 1)) = mvars (qs.take k) ++ varsOf q.2.2 := by unfold mvars; rw [musts_yes h hq, List.flatMap_append]; simp

/-- A map of just these texts was told. -/
def BoundPost (vs : List ByteArray) (w : World) (e : Ending) (w' : World) : Prop :=
  ∃ b N, e = .returned (.map (some b)) ∧ w.heap.size ≤ b ∧ w'.ownsMap Tryd.prog 9 (plainElem Tryd.prog 4) b N (bset vs) ∧ Below w.heap.size w w'

set_option maxRecDepth 100000 in
set_option maxHeartbeats 8000000 in
theorem boundVars_any (B : Option Addr) (m d : Nat) (qs : List Pt) (w : World) (h : IsParts w 0 w.heap.size B m d qs) (h3 : ∀ q ∈ qs, q.2.2.length ≤ 3) (hmax : m ≤ 1000) :
    Calls Tryd.prog 107 #[.slice B m d] w (BoundPost (mvars qs) w) := by
  have HL := Lib.hid h.1
  have H := Lib.hid h; clear h
  have H3 := Lib.hid h3; clear h3
  have hmm := @run_makeMap Tryd.prog
  refine (callsIn_wide (n := 5)).1 ?_
  refine callsIn_of_wp_marks Tryd.func107 rfl trivial ?_ rfl
  simp only [Tryd.ntmps107, List.size_toArray, List.length_cons, List.length_nil, Nat.reduceAdd, Nat.reduceSub, Array.replicate_succ, Array.replicate_zero, List.push_toArray, List.append_toArray, List.nil_append, List.cons_append]
  gi_wp2
  refine wpIn_loop (fun a W => ∃ (k : Nat) (Ds : List Nat) (N : Nat) (u5 u11 u12 u13 u14 u15 u16 u17 u18 u22 : Value), a = { tmps := #[.slice B m d, undef, .map none, .pointer (some ⟨w.heap.size + 1, 0, none⟩), undef, u5, undef, .map (some w.heap.size), .slice B m d, .int .i64 (m : Int), .int .i64 (k : Int), u11, u12, u13, u14, u15, u16, u17, u18, undef, undef, undef, u22, undef], defers := marks Ds } ∧ k ≤ m ∧ N ≤ 3 * k ∧ Blk W (w.heap.size + 1) 118 #[.map (some w.heap.size)] ∧ W.ownsMap Tryd.prog 9 (plainElem Tryd.prog 4) w.heap.size N (bset (mvars (qs.take k))) ∧ Marks Ds W ∧ (∀ D ∈ Ds, w.heap.size + 2 ≤ D) ∧ Below w.heap.size w W ∧ w.heap.size + 2 ≤ W.heap.size) (fun a _ => m - (intOf (a.tmps.getD 10 undef)).toNat) ?_ ?_
  · exact ⟨0, [], 0, _, _, _, _, _, _, _, _, _, _, rfl, Nat.zero_le _, Nat.le_refl _, Blk.made _ _ _ (by simp), (World.ownsMap_made _ _ _ _).alloc _, ⟨List.nodup_nil, fun D hD => absurd hD (by simp)⟩, fun D hD => absurd hD (by simp), below2 w _ _, by simp⟩
  · rintro a W ⟨k, Ds, N, u5, u11, u12, u13, u14, u15, u16, u17, u18, u22, rfl, hk, hN, hbk, hmap, hM, hDs, hb, hsz⟩
    have HBK := Lib.hid hbk; have HMP := Lib.hid hmap; have HMK := Lib.hid hM; have HDS := Lib.hid hDs; have HB := Lib.hid hb
    clear hbk hmap hM hDs hb
    by_cases hlt : k < m
    · have hlt2 : (k : Int) < (m : Int) := by omega
      obtain ⟨q, t, hA, -, hhi, hg, hE⟩ := (H.out.below PartE.stays HB.out (Nat.le_refl _)).at_ hlt
      obtain ⟨C, n5, c5, c1, c2, c3, c4, c5'⟩ := hE.out
      clear hE
      subst hA
      have HG := Lib.hid hg; clear hg
      have HT5 := Lib.hid c5'; clear c5'
      cases ht : t.1
      · rw [ht] at c1
        have hm3 := H3.out t (List.mem_of_getElem? HG.out)
        have hl5 := HT5.out.1
        gi_wp2_with fail
        refine ⟨trivial, (callsIn_wide.2 (variablesOf_any t.2.1 C n5 c5 _)).mono ?_⟩
        rintro e w' ⟨rfl, rfl⟩
        have hal := below2 W (.cells #[.bool false, .string t.2.1, .slice C n5 c5] 86) (.cells #[.string t.2.1, .slice C n5 c5] 24)
        have b2 : ((W.alloc (.cells #[.bool false, .string t.2.1, .slice C n5 c5] 86)).alloc (.cells #[.string t.2.1, .slice C n5 c5] 24)).cell? ⟨W.heap.size + 1, 1, none⟩ = some (.slice C n5 c5) := by simp [go_sem]
        have hz2 : ((W.alloc (.cells #[.bool false, .string t.2.1, .slice C n5 c5] 86)).alloc (.cells #[.string t.2.1, .slice C n5 c5] 24)).heap.size = W.heap.size + 2 := by simp
        have HBK2 := Lib.hid ((HBK.out.alloc (.cells #[.bool false, .string t.2.1, .slice C n5 c5] 86)).alloc (.cells #[.string t.2.1, .slice C n5 c5] 24))
        have HMP2 := Lib.hid ((HMP.out.alloc (.cells #[.bool false, .string t.2.1, .slice C n5 c5] 86)).alloc (.cells #[.string t.2.1, .slice C n5 c5] 24))
        gi_wp2
        obtain ⟨W2, hW2⟩ : ∃ W2, (W.alloc (.cells #[.bool false, .string t.2.1, .slice C n5 c5] 86)).alloc (.cells #[.string t.2.1, .slice C n5 c5] 24) = W2 := ⟨_, rfl⟩
        rw [hW2] at hal b2 hz2 HBK2 HMP2 ⊢
        clear hW2
        have HMK2 := Lib.hid (HMK.out.kept (grownBelow hal none) (by simp))
        have HB2 := Lib.hid (HB.out.trans (hal.mono HB.out.size))
        have T2 := HT5.out.below (hal.mono HB.out.size) (Nat.le_refl _)
        have hs2 : w.heap.size ≤ W2.heap.size := by omega
        have HDL : Hid (∀ D ∈ Ds, D < W2.heap.size) := Lib.hid (fun D hD => (Array.getElem?_eq_some_iff.1 (HMK2.out.2 D hD)).1)
        refine wpIn_rangeFunc_ownG rfl (by omega) (gf := 127) (lb := #[.pointer (some ⟨W.heap.size + 1, 0, none⟩)]) rfl trivial (enters_of Tryd.func127 (by kernel_rfl) rfl)
          (varsS_stops (5 - 1) (by omega) (W.heap.size + 1) w.heap.size C n5 c5 t.2.2 W2 (by omega) hs2 b2 T2) belowK_t (belowK_b hs2) (Below.refl _ _) (fun _ => rfl)
          (fun pre V => (V.ownsMap Tryd.prog 9 (plainElem Tryd.prog 4) w.heap.size (N + pre.length) (bset (mvars (qs.take k) ++ pre.map (·.1))) ∧ Blk V (w.heap.size + 1) 118 #[.map (some w.heap.size)] ∧ Marks Ds V) ∧ Below w.heap.size w V)
          (fun _ _ _ => False)
          (fun s X Y row hs hg hr => ⟨⟨hs.1.1.kept hg (fun e => by have := (hr _ e.symm).1; omega), hs.1.2.1.kept hg (fun e => by have := (hr _ e.symm).1; omega), hs.1.2.2.kept hg (fun r e hD => by have := (hr r e).1; have := HDL.out r hD; omega)⟩, hs.2.grown hg hs.2.size (fun r e => by have := (hr r e).1; omega)⟩)
          (fun _ _ _ _ _ hs _ _ => hs)
          ⟨⟨by simpa using HMP2.out, HBK2.out, HMK2.out⟩, HB2.out⟩
          (fun x => { tmps := #[.slice (some q) m d, undef, .map none, .pointer (some ⟨w.heap.size + 1, 0, none⟩), undef, .pointer (some ⟨W.heap.size, 0, none⟩), .string x.1, .map (some w.heap.size), .slice (some q) m d, .int .i64 (m : Int), .int .i64 (k : Int), .bool true, .pointer (some (q.add (k * 3))), .agg #[.bool false, .string t.2.1, .slice C n5 c5], .pointer (some ⟨W.heap.size, 0, none⟩), .bool false, .pointer (some ⟨W.heap.size, 1, none⟩), .agg #[.string t.2.1, .slice C n5 c5], .func (.func 127) #[] #[.pointer (some ⟨W.heap.size + 1, 0, none⟩)], .string x.1, undef, undef, u22, undef], defers := [] }) ?assign ?body ?done ?stop
        case assign =>
          intro l x V K hK
          gi_wp2
          simpa using hK
        case body =>
          rintro l pre x V ⟨⟨hmp, hbk, hmk⟩, hB⟩ hlp
          have cB : V.cell? ⟨w.heap.size + 1, 0, none⟩ = some (.map (some w.heap.size)) := hbk.cell 0
          have hBs := hB.size
          gi_wp2_with (gi_at_mapUpdate; go_loud (refine wpListIn_mapUpdate_own _ rfl _ _ _ 118 rfl 9 4 Tryd.lawS Tryd.underlying118 _ w.heap.size (N + pre.length) _ rfl hmp (by unfold maxLen; omega) _ _ _ rfl rfl (keyOf_string_mk Tryd.underlying9 x.2) _ [] (plainElem_bool Tryd.underlying4 true) ?_; intro V1 hmp1 hgr1))
          have hb1 := hB.grown hgr1 hB.size (fun k e => by cases e; exact Nat.le_refl _)
          refine ⟨KeepsFrom.of_grownBy hgr1 (fun j e => by cases e; omega), (Below.refl w.heap.size V).grown hgr1 hBs (fun k e => by cases e; exact Nat.le_refl _), ⟨⟨?_, hbk.kept hgr1 (fun e => by injection e with e; omega), hmk.kept hgr1 (fun r e hD => by cases e; have := HDS.out _ hD; omega)⟩, hb1⟩⟩
          rw [List.map_append, ← List.append_assoc, List.length_append]
          show V1.ownsMap _ _ _ _ _ (bset ((mvars (qs.take k) ++ pre.map (·.1)) ++ [x.1]))
          rw [bset_snoc]
          exact hmp1
        case done =>
          rintro D ys V hD hys ⟨⟨hmp, hbk, hmk⟩, hB⟩ hK
          have hyl : ys.length ≤ 3 := by have h1 := congrArg List.length hys; rw [List.length_map] at h1; have h2 := varsOf_len t.2.2 t.2.2.length; rw [List.take_of_length_le (Nat.le_refl _)] at h2; omega
          have hBs := hB.size
          have hDV := (Array.getElem?_eq_some_iff.1 hK).1
          rw [hys] at hmp
          gi_wp2
          exact ⟨⟨k + 1, D :: Ds, N + ys.length, _, _, _, _, _, _, _, _, _, _, rfl, by omega, by omega, hbk, by rw [mvars_yes HG.out ht]; exact hmp, ⟨List.nodup_cons.2 ⟨fun hD2 => by have := HDL.out D hD2; omega, hmk.1⟩, fun D2 hD2 => by rcases List.mem_cons.1 hD2 with rfl | hD2; exact hK; exact hmk.2 D2 hD2⟩, fun D2 hD2 => by rcases List.mem_cons.1 hD2 with rfl | hD2; omega; exact HDS.out D2 hD2, hB, by omega⟩, by simp [intOf]; omega⟩
        case stop =>
          rintro D c pre V hD hpre hF
          exact hF.elim
      · rw [ht] at c1
        have hal := below1 W (.cells #[.bool true, .string t.2.1, .slice C n5 c5] 86)
        gi_wp2
        exact ⟨⟨k + 1, Ds, N, _, _, _, _, _, _, _, _, _, _, rfl, by omega, by omega, HBK.out.alloc _, by rw [mvars_no HG.out ht]; exact HMP.out.alloc _, HMK.out.kept (grownBelow hal none) (by simp), HDS.out, HB.out.trans (hal.mono HB.out.size), by simp; omega⟩, by simp [intOf]; omega⟩
    · have hlt2 : ¬ (k : Int) < (m : Int) := by omega
      have E := Lib.hid (show mvars (qs.take k) = mvars qs by rw [List.take_of_length_le (by rw [HL.out]; omega)])
      have cB : W.cell? ⟨w.heap.size + 1, 0, none⟩ = some (.map (some w.heap.size)) := HBK.out.cell 0
      gi_wp2
      refine leaves_marks Ds _ HMK.out (fun W' h1 h2 h3 h4 h5 => ?_)
      have hBW : Below (w.heap.size + 2) W W' := ⟨h1, h2, h3, by omega, fun i hi => h5 i (fun hD => by have := HDS.out _ hD; omega)⟩
      have hm5 : W'.heap[w.heap.size]? = W.heap[w.heap.size]? := hBW.block _ (by omega)
      refine ⟨.map (some w.heap.size), ?_, w.heap.size, N, rfl, Nat.le_refl _, ?_, HB.out.trans (hBW.mono (by omega))⟩
      · simp [results, Tryd.f107, go_sem]
      · rw [← E.out]
        obtain ⟨es, clock, hb, F, hs, hD⟩ := HMP.out
        exact ⟨es, clock, hm5.trans hb, F, hs, hD⟩

end Go.Proofs.YtahkkelahocplaaDoor

namespace Go.Proofs.YtahkkelahocplaaDoor
open Go.RowKit Go.Shelf Go.Maps Go.WideMaps
attribute [local go_sem] Oper.semAt_some

theorem plainElem_bool_inv {H : Type} {P : Program} {e : TypeId} (he : P.underlying e = some .bool) {v : Value} {z : DataW H × List MemPlace} (h : plainElem P e v = some z) : ∃ x, v = .bool x ∧ z = (.lit (.bool x), []) := by
  unfold plainElem at h
  rw [he] at h
  cases v <;> simp at h
  exact ⟨_, rfl, h.symm⟩

/-- Is a text one of these? -/
def memT (vs : List ByteArray) (s : ByteArray) : Bool := vs.any fun v => decide (v = s)

theorem memT_iff {vs : List ByteArray} {s : ByteArray} : memT vs s = true ↔ s ∈ vs := by
  unfold memT
  rw [List.any_eq_true]
  exact ⟨fun ⟨v, hv, e⟩ => by have := of_decide_eq_true e; rwa [← this], fun h => ⟨s, h, decide_eq_true rfl⟩⟩

/-- A look-up at elements that are true or false. -/
theorem wpListIn_lookup_bool {H : Type} {F : Fence} {nF : Nat} {P : Program} (w : World) {ops : Array Oper} {rest : List Oper} {o : Oper} {a : Act} {Q : Exit → Act → World → Prop}
    (hg : o.guard = none) (m x : Operand) (t : TypeId) (hop : o.op = Op.lookup t m x false)
    (k e : TypeId) (K : Keyed P k) (ht : P.underlying t = some (.map k e)) (he : P.underlying e = some .bool) (hz : (zeroValue e).run P w = .ok (.bool false) w) (b n : Nat) (D : DataW H)
    (hm : a.eval m = .map (some b)) (hown : w.ownsMap P k (plainElem P e) b n D) (key : Value) (kl : Lit) (hx : a.eval x = key) (hkey : keyOf P k key = some kl) (c : Bool) (hc : D.atKey kl (.lit (.bool false)) = .lit (.bool c))
    (hK : wpListIn F nF P ops Q rest (a.put o.dst (.bool c)) w) :
    wpListIn F nF P ops Q (o :: rest) a w := by
  refine wpListIn_plain hg fun K' hK' => ?_
  obtain ⟨v, ps, hrun, hv⟩ := hown.lookup K ht hz (plainElem_bool he false) hkey
  obtain ⟨x', rfl, hx'⟩ := plainElem_bool_inv he hv
  have e1 : x' = c := by
    have := congrArg Prod.fst hx'
    simp only [hc] at this
    injection this with this
    injection this with this
    exact this.symm
  subst e1
  unfold Oper.wpIn
  refine ⟨by simp [Oper.about, hop], ?_⟩
  rw [Oper.semAt_plain F _ _ (by rw [hop]; intro c hc'; cases hc')]
  simp [execOp, hop, hm, hx, hrun, Result.andThen]
  exact hK' _ _ hK

theorem bset_at (s : ByteArray) (vs : List ByteArray) : (bset vs).atKey (.string s.data.toList) (.lit (.bool false)) = .lit (.bool (memT vs s)) := by
  have hk : ∀ l : List ByteArray, ∀ y ∈ l.map (fun s : ByteArray => Lit.string s.data.toList), WideAt.IsKeyLit y := by
    intro l y hy
    obtain ⟨u, _, rfl⟩ := List.mem_map.1 hy
    trivial
  have hm : ∀ l : List ByteArray, ∀ v, memT (l ++ [v]) s = (memT l s || decide (v = s)) := by
    intro l v; unfold memT; rw [List.any_append]; simp
  suffices h : ∀ vs : List ByteArray, (bset vs.reverse).atKey (.string s.data.toList) (.lit (.bool false)) = .lit (.bool (memT vs.reverse s)) by
    have := h vs.reverse
    rwa [List.reverse_reverse] at this
  intro vs
  induction vs with
  | nil => rfl
  | cons v vs ih =>
    rw [List.reverse_cons, bset_snoc]
    by_cases hv : s = v
    · subst hv
      rw [show (bset vs.reverse).put (.string s.data.toList) (.lit (.bool true)) = (setOf (.lit (.bool true)) (vs.reverse.map fun s => .string s.data.toList)).put (.string s.data.toList) (.lit (.bool true)) from rfl, atKey_put_same (tidy_setOf _ _ (hk _)).isMap (show WideAt.IsKeyLit (.string s.data.toList) from trivial), hm]
      simp
    · have hne : (Lit.string s.data.toList) ≠ .string v.data.toList := fun e => hv (by
        injection e with e
        cases s; cases v
        simpa using e)
      rw [atKey_put_other hne, ih, hm]
      simp [Ne.symm hv]

/-- Is a variable of these rules none of these? -/
def looseB (rs : List Rl) (vs : List ByteArray) : Bool := (atsOf rs).any fun a => (varsOf a.2).any fun v => !memT vs v

theorem loose_no {w : World} {n₀ : Nat} {rs : List Rl} {vs : List ByteArray} {ys : List (Lain w n₀)} (h : ys.map lainAt = atsOf rs) (hp : ∀ x ∈ ys, ∀ v ∈ varsOf (lainAt x).2, v ∈ vs) : looseB rs vs = false := by
  unfold looseB
  rw [← h, List.any_eq_false]
  intro a ha
  obtain ⟨x, hx, rfl⟩ := List.mem_map.1 ha
  simp only [List.any_eq_true, not_exists, not_and]
  intro v hv
  rw [memT_iff.2 (hp x hx v hv)]
  simp

theorem loose_yes {w : World} {n₀ : Nat} {rs : List Rl} {vs : List ByteArray} {ys : List (Lain w n₀)} (h : ys.map lainAt <+: atsOf rs) (hp : ∃ x ∈ ys, ∃ v ∈ varsOf (lainAt x).2, v ∉ vs) : looseB rs vs = true := by
  obtain ⟨x, hx, v, hv, hn⟩ := hp
  unfold looseB
  rw [List.any_eq_true]
  exact ⟨lainAt x, h.subset (List.mem_map_of_mem hx), List.any_eq_true.2 ⟨v, hv, by cases h : memT vs v; rfl; exact absurd (memT_iff.1 h) hn⟩⟩

theorem ownsMap_below {H : Type} {P : Program} {k : TypeId} {R : Value → Option (DataW H × List MemPlace)} {w w' : World} {B b n : Nat} {D : DataW H} (h : w.ownsMap P k R b n D) (hb : Below B w w') (hB : b < B) : w'.ownsMap P k R b n D := by
  obtain ⟨es, clock, h1, F, hs, hD⟩ := h
  exact ⟨es, clock, (hb.block b hB).trans h1, F, hs, hD⟩

theorem atoms_stops (n : Nat) (hn : 1 ≤ n) (Bs n₀ : Nat) (A : Option Addr) (m c : Nat) (rs : List Rl) (w : World) (hBs : Bs < w.heap.size) (hn0 : n₀ ≤ w.heap.size) (hB : w.cell? ⟨Bs, 0, none⟩ = some (.slice A m c)) (hT : IsRules w 0 n₀ A m c rs) :
    SeqStopsK Fence.wide n Tryd.prog 126 #[.pointer (some ⟨Bs, 0, none⟩)] (fun x : Lain w n₀ => #[Value.agg #[.string x.1.1.1, .slice x.1.1.2 x.1.2.1.1 x.1.2.1.2]]) (KeepsCells n₀) (fun ys => ys.map lainAt = atsOf rs) (fun pre => pre.map lainAt <+: atsOf rs) (atsOf rs).length w := fun l J Jx W hW hJ _ hY h0 =>
  atomsS_in n hn l Bs n₀ A m c rs w J Jx W hJ hY ((hW.cell (p := ⟨Bs, 0, none⟩) hBs).trans hB) hn0 (hW.mono hn0) hT h0

theorem atomsOf_any (A : Option Addr) (m c : Nat) (w : World) :
    Calls Tryd.prog 108 #[.slice A m c] w fun e w' => e = .returned (.func (.func 126) #[] #[.pointer (some ⟨w.heap.size, 0, none⟩)]) ∧ w' = w.alloc (.cells #[.slice A m c] 123) := by
  go_enter Tryd.func108, Tryd.ntmps108
  go_wp2
  go_ret
  exact ⟨rfl, rfl⟩

set_option maxRecDepth 100000 in
set_option maxHeartbeats 8000000 in
theorem isLoose_any (nm : ByteArray) (A : Option Addr) (n c : Nat) (hd : List Tm) (B : Option Addr) (m d : Nat) (qs : List Pt) (w : World) (hs : nm.size ≤ maxLen) (h : IsTerms w 0 w.heap.size A n c hd) (h' : IsParts w 0 w.heap.size B m d qs) (h3 : ∀ q ∈ qs, q.2.2.length ≤ 3) (hmax : m ≤ 1000) :
    Calls Tryd.prog 81 #[.agg #[.string nm, .slice A n c, .slice B m d]] w (BoolPost (looseB [((nm, hd), qs)] (mvars qs)) w) := by
  have h2 := below2 w (.cells #[.string nm, .slice A n c, .slice B m d] 38) (.cells #[.bool false] 4)
  have X0 := (Blk.new w 38 #[.string nm, .slice A n c, .slice B m d]).alloc (.cells #[.bool false] 4)
  have Y0 := Blk.made (w.alloc (.cells #[.string nm, .slice A n c, .slice B m d] 38)) (b := w.heap.size + 1) 4 #[.bool false] (by simp)
  obtain ⟨W1, hW1⟩ : ∃ W1, (w.alloc (.cells #[.string nm, .slice A n c, .slice B m d] 38)).alloc (.cells #[.bool false] 4) = W1 := ⟨_, rfl⟩
  have hz1 : W1.heap.size = w.heap.size + 2 := by rw [← hW1]; simp
  have h2' := h2; have X0' := X0; have Y0' := Y0
  rw [hW1] at h2' X0' Y0'
  have HB1 := Lib.hid h2'; have X1 := Lib.hid X0'; have Y1 := Lib.hid Y0'
  have HT1 := Lib.hid (h.up h2'); have HP1 := Lib.hid (h'.up PartE.stays h2')
  clear h h' h2 X0 Y0 h2' X0' Y0'
  have x2 : W1.cell? ⟨w.heap.size, 2, none⟩ = some (.slice B m d) := X1.out.cell 2
  refine (callsIn_wide (n := 6)).1 ?_
  refine callsIn_of_wp_marks Tryd.func81 rfl trivial ?_ rfl
  simp only [Tryd.ntmps81, List.size_toArray, List.length_cons, List.length_nil, Nat.reduceAdd, Nat.reduceSub, Array.replicate_succ, Array.replicate_zero, List.push_toArray, List.append_toArray, List.nil_append, List.cons_append]
  gi_wp2_with fail
  refine ⟨trivial, (callsIn_wide.2 (boundVars_any B m d qs W1 HP1.out h3 hmax)).mono ?_⟩
  rintro e w2 ⟨b, N, rfl, hb, hmap, hb2⟩
  have hz2 := hb2.size
  have X2 := X1.out.below hb2
  have Y2 := Y1.out.below hb2
  have hB2 := belowThen HB1.out hb2
  have r0 : w2.cell? ⟨w.heap.size, 0, none⟩ = some (.string nm) := X2.cell 0
  have r1 : w2.cell? ⟨w.heap.size, 1, none⟩ = some (.slice A n c) := X2.cell 1
  have r2 : w2.cell? ⟨w.heap.size, 2, none⟩ = some (.slice B m d) := X2.cell 2
  have hX := X2.lt
  gi_wp2_with (refine ⟨trivial, ?_⟩; gi_at_call 108; refine (callsIn_wide.2 (atomsOf_any _ _ _ _)).mono ?_; rintro e w' ⟨rfl, rfl⟩)
  have hb3 := below3 w2 (.cells #[.map (some b)] 118) (.cells #[.string nm, .slice A n c, .slice B m d] 38) (.cells #[.slice (some ⟨w2.heap.size + 1, 0, none⟩) 1 1] 123)
  have Y3 := ((Y2.alloc (.cells #[.map (some b)] 118)).alloc (.cells #[.string nm, .slice A n c, .slice B m d] 38)).alloc (.cells #[.slice (some ⟨w2.heap.size + 1, 0, none⟩) 1 1] 123)
  have M3 := ((Blk.new w2 118 #[.map (some b)]).alloc (.cells #[.string nm, .slice A n c, .slice B m d] 38)).alloc (.cells #[.slice (some ⟨w2.heap.size + 1, 0, none⟩) 1 1] 123)
  have R3 := (Blk.made (w2.alloc (.cells #[.map (some b)] 118)) (b := w2.heap.size + 1) 38 #[.string nm, .slice A n c, .slice B m d] (by simp)).alloc (.cells #[.slice (some ⟨w2.heap.size + 1, 0, none⟩) 1 1] 123)
  have L3 := Blk.made ((w2.alloc (.cells #[.map (some b)] 118)).alloc (.cells #[.string nm, .slice A n c, .slice B m d] 38)) (b := w2.heap.size + 1 + 1) 123 #[.slice (some ⟨w2.heap.size + 1, 0, none⟩) 1 1] (by simp)
  have hz3 : (((w2.alloc (.cells #[.map (some b)] 118)).alloc (.cells #[.string nm, .slice A n c, .slice B m d] 38)).alloc (.cells #[.slice (some ⟨w2.heap.size + 1, 0, none⟩) 1 1] 123)).heap.size = w2.heap.size + 3 := by simp
  obtain ⟨W0, hW0⟩ : ∃ W0, ((w2.alloc (.cells #[.map (some b)] 118)).alloc (.cells #[.string nm, .slice A n c, .slice B m d] 38)).alloc (.cells #[.slice (some ⟨w2.heap.size + 1, 0, none⟩) 1 1] 123) = W0 := ⟨_, rfl⟩
  rw [hW0] at hb3 Y3 M3 R3 L3 hz3 ⊢
  clear hW0 hW1 x2 r0 r1 r2
  have hB0 := belowThen hB2 hb3
  have hB10 := belowThen hb2 hb3
  have MP := ownsMap_below hmap hb3 hmap.lt
  have hlb := hmap.lt
  have TR : IsRules W0 0 W0.heap.size (some ⟨w2.heap.size + 1, 0, none⟩) 1 1 [((nm, hd), qs)] := ⟨rfl, Nat.le_refl _, by unfold maxLen; omega, fun _ => ⟨⟨w2.heap.size + 1, 0, none⟩, rfl, Nat.zero_le _, by show w2.heap.size + 1 < W0.heap.size; omega, fun i x hx => by
    cases i with
    | succ i => simp at hx
    | zero =>
      simp only [List.getElem?_cons_zero, Option.some.injEq] at hx
      subst hx
      exact ⟨R3.cell 0, hs, ⟨A, n, c, R3.cell 1, HT1.out.up hB10⟩, ⟨B, m, d, R3.cell 2, HP1.out.up PartE.stays hB10⟩⟩⟩⟩
  have HY3 := Lib.hid Y3; have HM3 := Lib.hid M3; have HMP := Lib.hid MP; have HB0 := Lib.hid hB0
  clear Y3 M3 MP R3 X2 Y2 hmap hb3 hb2 hB10
  refine wpIn_rangeFunc_ownH rfl (by omega) (gf := 126) (lb := #[.pointer (some ⟨w2.heap.size + 1 + 1, 0, none⟩)]) rfl trivial (enters_of Tryd.func126 (by kernel_rfl) rfl)
    (atoms_stops (6 - 1) (by omega) (w2.heap.size + 1 + 1) W0.heap.size _ 1 1 _ W0 (by omega) (Nat.le_refl _) (L3.cell 0) TR) keepsC_t (keepsC_b (Nat.le_refl _)) (Below.refl _ _) (fun _ => rfl)
    (fun pre W => (∀ x ∈ pre, ∀ v ∈ varsOf (lainAt x).2, v ∈ mvars qs) ∧ Below W0.heap.size W0 W)
    (fun c pre W => ((c = .ret ∧ ∃ x ∈ pre, ∃ v ∈ varsOf (lainAt x).2, v ∉ mvars qs) ∧ Blk W (w.heap.size + 1) 4 #[.bool true]) ∧ Below w.heap.size w W)
    (OwnFrom.and (ownFrom_pure _ _) (ownFrom_below (Nat.le_refl _) (Nat.le_refl _)))
    (fun c => OwnFrom.and (OwnFrom.and (ownFrom_pure _ _) (Own.from (Blk.own _ _ _) _)) (ownFrom_below (Nat.le_refl _) (by omega)))
    ⟨by simp, Below.refl _ _⟩
    (fun x a' W => ∃ Bx, Blk W Bx 24 #[.string x.1.1.1, .slice x.1.1.2 x.1.2.1.1 x.1.2.1.2] ∧ a' = { tmps := #[.agg #[.string nm, .slice A n c, .slice B m d], .pointer (some ⟨w.heap.size, 0, none⟩), .pointer (some ⟨w.heap.size + 1, 0, none⟩), .pointer (some ⟨w2.heap.size, 0, none⟩), .pointer (some ⟨Bx, 0, none⟩), undef, .pointer (some ⟨w.heap.size, 2, none⟩), .slice B m d, .map (some b), .agg #[.string nm, .slice A n c, .slice B m d], .slice (some ⟨w2.heap.size + 1, 0, none⟩) 1 1, .func (.func 126) #[] #[.pointer (some ⟨w2.heap.size + 1 + 1, 0, none⟩)], .agg #[.string x.1.1.1, .slice x.1.1.2 x.1.2.1.1 x.1.2.1.2], undef, undef, undef, undef, undef, undef, undef], defers := [] })
    (fun x a' _ X Y row hs hg hr => by obtain ⟨Bx, e2, e3⟩ := hs; exact ⟨Bx, Blk.own Bx _ _ () X Y row e2 hg (fun r e => (hr r e).2), e3⟩)
    ?assign ?body ?done ?stop
  case assign =>
    rintro l pre x W K ⟨hp, hB⟩ hK
    have hsz := hB.size
    gi_wp2
    exact hK _ _ ((KeepsOthers.alloc _ _).from _) (KeepsCells.of (below1 W _) hsz) ⟨hp, hB.alloc hsz _⟩ ⟨W.heap.size, Blk.new W _ _, rfl⟩
  case body =>
    rintro l pre ⟨⟨⟨nm5, C⟩, ⟨n5, c5⟩, ts5⟩, hx1, hx2⟩ a' W hl ⟨r, hr⟩ ⟨hp, hB⟩ ⟨Bx, bX, rfl⟩ hlt
    have hsW := hB.size
    have c0 : W.cell? ⟨Bx, 0, none⟩ = some (.string nm5) := bX.cell 0
    have c1 : W.cell? ⟨Bx, 1, none⟩ = some (.slice C n5 c5) := bX.cell 1
    gi_wp2_with (refine ⟨trivial, ?_⟩; gi_at_call 109; refine (CallsIn.inRound l (callsIn_wide.2 (variablesOf_any nm5 C n5 c5 _))).mono ?_; rintro e w' ⟨rfl, rfl⟩)
    have bN := Blk.new W 24 #[.string nm5, .slice C n5 c5]
    have hr' : (W.alloc (.cells #[.string nm5, .slice C n5 c5] 24)).heap[l]? = some (.loop r) := (Below.heap_alloc W _ l (Array.getElem?_eq_some_iff.1 hr).1).trans hr
    have hT5 : IsTerms (W.alloc (.cells #[.string nm5, .slice C n5 c5] 24)) 0 W0.heap.size C n5 c5 ts5 := IsTerms.below hx2 (hB.alloc hsW _) (Nat.le_refl _)
    refine wpIn_rangeFunc_ownN (l₀ := l) (r₀ := r) rfl hr' (by omega) (gf := 127) (lb := #[.pointer (some ⟨W.heap.size, 0, none⟩)]) rfl trivial (enters_of Tryd.func127 (by kernel_rfl) rfl)
      ((varsS_stops (6 - 1 - 1 - 1) (by omega) W.heap.size W0.heap.size C n5 c5 ts5 _ (by simp) (by simp; omega) (bN.cell 1) hT5).inRound l) belowK_t (belowK_b (by simp; omega)) (Below.refl _ _) (fun _ => rfl)
      (fun pre' W' => (∀ v ∈ pre', v.1 ∈ mvars qs) ∧ (KeepsCells W0.heap.size W W' ∧ KeepsFrom W0.heap.size W W'))
      (fun c pre' W' => ((c = .ret ∧ ∃ v ∈ pre', v.1 ∉ mvars qs) ∧ Blk W' (w.heap.size + 1) 4 #[.bool true]) ∧ (Below w.heap.size W W' ∧ KeepsFrom W0.heap.size W W'))
      (OwnFrom.and (ownFrom_pure _ _) (OwnFrom.and (ownFrom_cells hsW (by simp; omega)) (ownFrom_keepsFrom (by simp))))
      (fun c => OwnFrom.and (OwnFrom.and (ownFrom_pure _ _) (Own.from (Blk.own _ _ _) _)) (OwnFrom.and (ownFrom_below (by omega) (by simp; omega)) (ownFrom_keepsFrom (by simp))))
      ⟨by simp, KeepsCells.of (below1 W _) hsW, (KeepsOthers.alloc _ _).from _⟩
      (fun y a'' _ => a'' = { tmps := #[.agg #[.string nm, .slice A n c, .slice B m d], .pointer (some ⟨w.heap.size, 0, none⟩), .pointer (some ⟨w.heap.size + 1, 0, none⟩), .pointer (some ⟨w2.heap.size, 0, none⟩), .pointer (some ⟨Bx, 0, none⟩), .string y.1, .pointer (some ⟨w.heap.size, 2, none⟩), .slice B m d, .map (some b), .agg #[.string nm, .slice A n c, .slice B m d], .slice (some ⟨w2.heap.size + 1, 0, none⟩) 1 1, .func (.func 126) #[] #[.pointer (some ⟨w2.heap.size + 1 + 1, 0, none⟩)], .agg #[.string nm5, .slice C n5 c5], .agg #[.string nm5, .slice C n5 c5], .func (.func 127) #[] #[.pointer (some ⟨W.heap.size, 0, none⟩)], .string y.1, undef, undef, undef, undef], defers := [] })
      (fun _ _ _ _ _ _ hs _ _ => hs)
      ?assign2 ?body2 ?done2 ?stop2
    case assign2 =>
      rintro l2 pre' y W' K hi hK
      gi_wp2
      exact hK _ _ (KeepsFrom.refl _ _) (Below.refl _ _) hi rfl
    case body2 =>
      rintro l2 pre' y a'' W' _ _ ⟨hq, hKC, hKF⟩ rfl _
      have hB' := hB.trans hKC.below
      have hs' := hB'.size
      have cM : W'.cell? ⟨w2.heap.size, 0, none⟩ = some (.map (some b)) := (HM3.out.below hB').cell 0
      have Y4 := HY3.out.below hB'
      have cR : W'.cell? ⟨w.heap.size + 1, 0, none⟩ = some (.bool false) := Y4.cell 0
      have fR := Y4.frozen 0
      have mp := ownsMap_below HMP.out hB' (by omega)
      have hyl := y.2
      cases hmem : memT (mvars qs) y.1
      · have hat := bset_at y.1 (mvars qs)
        rw [hmem] at hat
        gi_wp2_with (gi_at_lookup; go_loud (refine wpListIn_lookup_bool _ rfl _ _ 118 rfl 9 4 Tryd.lawS Tryd.underlying118 Tryd.underlying4 (Tryd.zeroValue4 _) b N _ rfl mp _ _ rfl (keyOf_string_mk Tryd.underlying9 hyl) false hat ?_))
        exact ⟨(KeepsOthers.setCell _ _ _).from _, ⟨⟨rfl, y, List.mem_append.2 (.inr (by simp)), fun hin => by rw [memT_iff.2 hin] at hmem; cases hmem⟩, Y4.set 0 (.bool true)⟩, (hKC.below.mono (by omega)).setCell (p := ⟨w.heap.size + 1, 0, none⟩) (by simp) _, hKF.trans ((KeepsOthers.setCell _ _ _).from _)⟩
      · have hat := bset_at y.1 (mvars qs)
        rw [hmem] at hat
        gi_wp2_with (gi_at_lookup; go_loud (refine wpListIn_lookup_bool _ rfl _ _ 118 rfl 9 4 Tryd.lawS Tryd.underlying118 Tryd.underlying4 (Tryd.zeroValue4 _) b N _ rfl mp _ _ rfl (keyOf_string_mk Tryd.underlying9 hyl) true hat ?_))
        exact ⟨KeepsFrom.refl _ _, Below.refl _ _, fun z hz => (List.mem_append.1 hz).elim (hq z) (fun e => by simp only [List.mem_singleton] at e; subst e; exact memT_iff.1 hmem), hKC, hKF⟩
    case done2 =>
      rintro ys' W' hys ⟨hq, hKC, hKF⟩
      gi_wp2
      exact ⟨hKF, hKC, fun x hx => (List.mem_append.1 hx).elim (hp x) (fun e v hv => by
        simp only [List.mem_singleton] at e
        subst e
        change v ∈ varsOf ts5 at hv
        rw [← hys] at hv
        obtain ⟨z, hz, rfl⟩ := List.mem_map.1 hv
        exact hq z hz), hB.trans hKC.below⟩
    case stop2 =>
      rintro c pre' W' hpre ⟨⟨⟨rfl, v, hv, hn⟩, Y5⟩, hBW, hKF⟩
      gi_wp2
      exact ⟨hKF, ⟨⟨rfl, _, List.mem_append.2 (.inr (List.mem_singleton.2 rfl)), v.1, hpre.subset (List.mem_map_of_mem hv), hn⟩, Y5⟩, (HB0.out.trans (hB.mono (by omega))).trans hBW⟩
  case done =>
    rintro D ys W hD hys ⟨hp, hB⟩ hK
    have Y4 := HY3.out.below hB
    have cR : W.cell? ⟨w.heap.size + 1, 0, none⟩ = some (.bool false) := Y4.cell 0
    have fR := Y4.frozen 0
    have hsz := hB.size
    gi_wp2
    have hK' := (KeepsOthers.setCell W ⟨w.heap.size + 1, 0, none⟩ (.bool false)).same D _ hK rfl
    refine ⟨by simp, .inl ⟨_, _, rfl, run_takeDeferred hK', ?_⟩⟩
    have hc5 := cell_kept (show (W.setCell ⟨w.heap.size + 1, 0, none⟩ (.bool false)).cell? ⟨w.heap.size + 1, 0, none⟩ = some (.bool false) from (Y4.set 0 (.bool false)).cell 0) (grownBy_putObj' _ D (.deferred none)) (fun r e => by cases e; exact ⟨_, hK', rfl⟩)
    refine ⟨.bool false, ?_, by rw [loose_no hys hp], ((HB0.out.trans (hB.mono (by omega))).setCell (p := ⟨w.heap.size + 1, 0, none⟩) (by simp) _).trans (belowK_b (w := w) (Nat.le_refl _) _ D _ _ (by omega) hK' rfl rfl)⟩
    simp [results, Tryd.f81, go_sem, hc5]
  case stop =>
    rintro D c pre W hD hpre ⟨⟨⟨rfl, hp⟩, Y4⟩, hB⟩ hK
    gi_wp2
    refine ⟨by simp, .inl ⟨_, _, rfl, run_takeDeferred hK, ?_⟩⟩
    have hc5 := cell_kept (show W.cell? ⟨w.heap.size + 1, 0, none⟩ = some (.bool true) from Y4.cell 0) (grownBy_putObj' _ D (.deferred none)) (fun r e => by cases e; exact ⟨_, hK, rfl⟩)
    refine ⟨.bool true, ?_, by rw [loose_yes hpre hp], hB.trans (belowK_b (w := w) (Nat.le_refl _) W D _ _ (by omega) hK rfl rfl)⟩
    simp [results, Tryd.f81, go_sem, hc5]

end Go.Proofs.YtahkkelahocplaaDoor

namespace Go.Proofs.YtahkkelahocplaaDoor
open Go.RowKit

theorem ltT_cmp (s t : ByteArray) : ltT s t = decide (Lib.compareBytes t.toList s.toList = -1) := (less_cmp _ _).1

theorem bytes_text {s t : ByteArray} (h : s.toList = t.toList) : s = t := by
  rw [Lib.toList_data, Lib.toList_data] at h
  cases s; cases t
  simp only [ByteArray.mk.injEq]
  exact Array.toList_inj.1 h

theorem ltT_trans {a b c : ByteArray} (h : ltT b a = true) (k : ltT c b = true) : ltT c a = true := by
  rw [ltT_cmp, decide_eq_true_eq] at *
  have h1 := bytes_on a.toList b.toList c.toList (by omega) (by omega)
  rcases cmp_range a.toList c.toList with e | e | e
  · exact e
  · have := bytes_same e
    rw [this] at h
    have := bytes_anti b.toList c.toList
    omega
  · omega

theorem ltT_irr (a : ByteArray) : ltT a a = false := by
  rw [ltT_cmp, bytes_self]; rfl

theorem ltT_total {s t : ByteArray} (h : ltT s t = false) (hne : t ≠ s) : ltT t s = true := by
  rw [ltT_cmp] at *
  rw [decide_eq_false_iff_not] at h
  rw [decide_eq_true_eq]
  have h1 := bytes_anti t.toList s.toList
  rcases cmp_range t.toList s.toList with e | e | e
  · exact absurd e h
  · exact absurd (bytes_text (bytes_same e)) hne
  · omega

/-- Each text is ahead of those behind it. -/
def InRow (ls : List ByteArray) : Prop := ls.Pairwise fun a b => ltT b a = true

theorem InRow.nodup {ls : List ByteArray} (h : InRow ls) : ls.Nodup := h.imp fun {a b} h e => by subst e; rw [ltT_irr] at h; cases h

theorem mem_putT {ls : List ByteArray} {s x : ByteArray} : x ∈ putT ls s ↔ x = s ∨ x ∈ ls := by
  unfold putT
  by_cases h : (ls.dropWhile (ltT s)).head? = some s
  · rw [if_pos h]
    refine ⟨.inr, fun e => e.elim (fun e => ?_) id⟩
    subst e
    exact (List.dropWhile_sublist _).subset (List.mem_of_head? h)
  · rw [if_neg h]
    have e := List.takeWhile_append_dropWhile (p := ltT s) (l := ls)
    conv => rhs; rw [← e]
    simp only [List.mem_append, List.mem_cons]
    exact ⟨fun h => by rcases h with h | h | h <;> simp [h], fun h => by rcases h with h | h | h <;> simp [h]⟩

theorem InRow.put {ls : List ByteArray} (h : InRow ls) (s : ByteArray) : InRow (putT ls s) := by
  unfold putT
  by_cases hs : (ls.dropWhile (ltT s)).head? = some s
  · rw [if_pos hs]; exact h
  · rw [if_neg hs]
    have e := List.takeWhile_append_dropWhile (p := ltT s) (l := ls)
    have h1 : InRow (ls.takeWhile (ltT s) ++ ls.dropWhile (ltT s)) := by rw [e]; exact h
    obtain ⟨p1, p2, p3⟩ := List.pairwise_append.1 h1
    have hlo : ∀ x ∈ ls.takeWhile (ltT s), ltT s x = true := fun x hx => by
      have := List.all_takeWhile (p := ltT s) (l := ls)
      exact List.all_eq_true.1 this x hx
    have hhi : ∀ x ∈ ls.dropWhile (ltT s), ltT x s = true := by
      cases hd : ls.dropWhile (ltT s) with
      | nil => intro x hx; simp at hx
      | cons t rest =>
        rw [hd] at hs p2
        have ht : ltT s t = false := by
          have := List.head?_dropWhile_not (ltT s) ls
          rw [hd] at this
          simpa using this
        have hts := ltT_total ht (fun e => hs (by rw [e]; rfl))
        intro x hx
        rcases List.mem_cons.1 hx with rfl | hx
        · exact hts
        · exact ltT_trans hts ((List.pairwise_cons.1 p2).1 x hx)
    refine List.pairwise_append.2 ⟨p1, List.pairwise_cons.2 ⟨hhi, p2⟩, fun a ha b hb => ?_⟩
    rcases List.mem_cons.1 hb with rfl | hb
    · exact hlo a ha
    · exact p3 a ha b hb

theorem mem_puts : ∀ {vs ls : List ByteArray} {x : ByteArray}, x ∈ vs.foldl putT ls ↔ x ∈ vs ∨ x ∈ ls
  | [], ls, x => by simp
  | v :: vs, ls, x => by
    rw [List.foldl_cons, mem_puts, mem_putT, List.mem_cons]
    exact ⟨fun h => by rcases h with h | h | h <;> simp [h], fun h => by rcases h with (h | h) | h <;> simp [h]⟩

theorem InRow.puts : ∀ {vs ls : List ByteArray}, InRow ls → InRow (vs.foldl putT ls)
  | [], _, h => h
  | v :: vs, ls, h => by rw [List.foldl_cons]; exact InRow.puts (vs := vs) (h.put v)

theorem partsT_all : ∀ (qs : List Pt) (ls : List ByteArray), partsT ls qs = (qs.flatMap fun q => varsOf q.2.2).foldl putT ls
  | [], _ => rfl
  | q :: qs, ls => by
    rw [List.flatMap_cons, List.foldl_append, ← partsT_all qs]; rfl

theorem varsOf_as (vs : List ByteArray) : varsOf (asVars vs) = vs := by
  unfold varsOf asVars
  induction vs with
  | nil => rfl
  | cons v vs ih => simpa using ih

theorem nodup_sub {α : Type} : ∀ {l m : List α}, l.Nodup → (∀ x ∈ l, x ∈ m) → l.length ≤ m.length
  | [], _, _, _ => Nat.zero_le _
  | a :: l, m, hn, hs => by
    obtain ⟨s, t, rfl⟩ := List.append_of_mem (hs a (List.mem_cons_self ..))
    have hc := List.nodup_cons.1 hn
    have := nodup_sub (m := s ++ t) hc.2 (fun x hx => by
      have h1 := hs x (List.mem_cons_of_mem _ hx)
      simp only [List.mem_append, List.mem_cons] at h1 ⊢
      rcases h1 with h1 | h1 | h1
      · exact .inl h1
      · subst h1; exact absurd hx hc.1
      · exact .inr h1)
    simp only [List.length_append, List.length_cons] at this ⊢
    omega

/-- By two counts, and by a search. -/
theorem tight_loose (nm : ByteArray) (qs : List Pt) : tightB (asVars (partsT [] qs)) qs = !looseB [((nm, []), qs)] (mvars qs) := by
  have hA : ∀ x, x ∈ partsT (varsT [] (asVars (partsT [] qs))) qs ↔ x ∈ qs.flatMap fun q => varsOf q.2.2 := by
    intro x
    unfold varsT
    rw [varsOf_as, partsT_all, partsT_all, mem_puts, mem_puts, mem_puts]
    simp
  have hB : ∀ x, x ∈ partsT [] (musts qs) ↔ x ∈ mvars qs := by
    intro x
    rw [partsT_all, mem_puts]
    unfold mvars
    simp
  have nA : (partsT (varsT [] (asVars (partsT [] qs))) qs).Nodup := by rw [partsT_all]; exact (InRow.puts (InRow.puts List.Pairwise.nil)).nodup
  have nB : (partsT [] (musts qs)).Nodup := by rw [partsT_all]; exact (InRow.puts List.Pairwise.nil).nodup
  have hsub : ∀ x ∈ partsT [] (musts qs), x ∈ partsT (varsT [] (asVars (partsT [] qs))) qs := by
    intro x hx
    rw [hB] at hx
    rw [hA]
    unfold mvars musts at hx
    obtain ⟨q, hq, hx⟩ := List.mem_flatMap.1 hx
    exact List.mem_flatMap.2 ⟨q, (List.mem_filter.1 hq).1, hx⟩
  have hat : atsOf [((nm, ([] : List Tm)), qs)] = (nm, []) :: qs.map (·.2) := by unfold atsOf; simp
  have hl : looseB [((nm, []), qs)] (mvars qs) = true ↔ ∃ x ∈ qs.flatMap (fun q => varsOf q.2.2), x ∉ mvars qs := by
    unfold looseB
    rw [hat, List.any_cons]
    simp only [varsOf, List.filter_nil, List.map_nil, List.any_nil, Bool.false_or]
    rw [List.any_eq_true]
    constructor
    · rintro ⟨a, ha, h⟩
      obtain ⟨q, hq, rfl⟩ := List.mem_map.1 ha
      obtain ⟨v, hv, hn⟩ := List.any_eq_true.1 h
      exact ⟨v, List.mem_flatMap.2 ⟨q, hq, hv⟩, fun hin => by rw [memT_iff.2 hin] at hn; cases hn⟩
    · rintro ⟨v, hv, hn⟩
      obtain ⟨q, hq, hv⟩ := List.mem_flatMap.1 hv
      refine ⟨q.2, List.mem_map_of_mem hq, List.any_eq_true.2 ⟨v, hv, ?_⟩⟩
      cases h : memT (mvars qs) v
      · rfl
      · exact absurd (memT_iff.1 h) hn
  unfold tightB
  cases hL : looseB [((nm, []), qs)] (mvars qs)
  · have hno : ∀ x ∈ qs.flatMap (fun q => varsOf q.2.2), x ∈ mvars qs := by
      intro x hx
      refine Classical.byContradiction fun hn => ?_
      have := hl.2 ⟨x, hx, hn⟩
      rw [hL] at this
      cases this
    have h1 := nodup_sub nB hsub
    have h2 := nodup_sub nA (fun x hx => (hB x).2 (hno x ((hA x).1 hx)))
    exact decide_eq_true (by omega)
  · obtain ⟨x, hx, hn⟩ := hl.1 hL
    have h1 := nodup_sub (l := x :: partsT [] (musts qs)) (List.nodup_cons.2 ⟨fun h => hn ((hB x).1 h), nB⟩) (fun y hy => (List.mem_cons.1 hy).elim (fun e => by rw [e]; exact (hA x).2 hx) (hsub y))
    rw [List.length_cons] at h1
    exact decide_eq_false (by omega)

end Go.Proofs.YtahkkelahocplaaDoor

namespace Go.Proofs.YtahkkelahocplaaDoor
open Go.RowKit

/-- A body may be asked. -/
def askB (qs : List Pt) : Bool := decide (1 ≤ qs.length) && (bodyB qs && decide (qs.length ≤ 4)) && tightB (asVars (partsT [] qs)) qs

theorem body_three {qs : List Pt} (h : bodyB qs = true) : ∀ q ∈ qs, q.2.2.length ≤ 3 := by
  intro q hq
  unfold bodyB at h
  have := List.all_eq_true.1 h q hq
  unfold atomB at this
  simp only [Bool.and_eq_true, decide_eq_true_eq] at this
  exact this.2.2

theorem body_small {qs : List Pt} (h : bodyB qs = true) : ∀ s ∈ partsT [] qs, s.size ≤ 16 := by
  intro s hs
  rw [partsT_all, mem_puts] at hs
  rcases hs with hs | hs
  · obtain ⟨q, hq, hv⟩ := List.mem_flatMap.1 hs
    unfold bodyB at h
    have := List.all_eq_true.1 h q hq
    unfold atomB at this
    simp only [Bool.and_eq_true, decide_eq_true_eq] at this
    obtain ⟨t, ht, rfl⟩ := List.mem_map.1 hv
    have ha := this.1
    unfold argsB at ha
    have h1 := List.all_eq_true.1 ha t (List.mem_filter.1 ht).1
    unfold termB at h1
    rw [show t.2.size = t.2.data.toList.length from rfl]
    split at h1
    · have := var_le h1; omega
    · have := name_le h1; omega
  · simp at hs

set_option maxHeartbeats 1000000 in
theorem implAskOk_any (B : Option Addr) (m d : Nat) (qs : List Pt) (w : World) (h : IsParts w 0 w.heap.size B m d qs) :
    Calls Tryd.prog 40 #[.slice B m d] w (BoolPost (askB qs) w) := by
  have L := Lib.hid h.1
  have H := Lib.hid h; clear h
  by_cases hm : (0 : Int) < (m : Int)
  · go_enter Tryd.func40, Tryd.ntmps40
    go_wp2_with fail
    refine (bodyOk_any B m d qs w H.out).mono ?_; rintro e w1 ⟨rfl, hb1⟩
    cases hB : (bodyB qs && decide (qs.length ≤ 4))
    · have E := Lib.hid (show askB qs = false by unfold askB; rw [hB]; simp)
      go_wp2
      go_ret; exact ⟨retB E.out.symm, hb1⟩
    · have h4 : bodyB qs = true ∧ qs.length ≤ 4 := by simpa using hB
      have E := Lib.hid (show askB qs = !looseB [((⟨#[]⟩, []), qs)] (mvars qs) by unfold askB; rw [hB, tight_loose ⟨#[]⟩, L.out]; simp; omega)
      have hl := L.out
      go_wp2_with fail
      refine (isLoose_any ⟨#[]⟩ none 0 0 [] B m d qs w1 (Nat.zero_le _) ⟨rfl, Nat.le_refl _, Nat.zero_le _, fun h0 => absurd h0 (by simp)⟩ (H.out.up PartE.stays hb1) (body_three h4.1) (by omega)).mono ?_; rintro e w2 ⟨rfl, hb2⟩
      go_wp2
      go_ret; exact ⟨retB E.out.symm, belowThen hb1 hb2⟩
  · have E := Lib.hid (show askB qs = false by unfold askB; rw [L.out]; (have : m = 0 := by omega); subst this; rfl)
    go_enter Tryd.func40, Tryd.ntmps40
    go_wp2
    go_ret; exact ⟨retB E.out.symm, Below.refl _ _⟩

set_option maxHeartbeats 1000000 in
theorem specAskOk_any (B : Option Addr) (m d : Nat) (qs : List Pt) (w : World) (h : IsParts w 0 w.heap.size B m d qs) :
    Calls Tryd.prog 41 #[.slice B m d] w (BoolPost (askB qs) w) := by
  have L := Lib.hid h.1
  have hmx := h.len
  unfold maxLen at hmx
  have H := Lib.hid h; clear h
  go_enter Tryd.func41, Tryd.ntmps41
  go_wp2
  go_loopw [3] (fun i wr => ∃ k : Nat, k ≤ m ∧ i = .int .i64 (k : Int) ∧ bodyB (qs.take k) = true ∧ Below w.heap.size w wr) (fun i _ => m - (intOf i).toNat)
  case atStart => exact ⟨0, Nat.zero_le _, rfl, rfl, Below.refl _ _⟩
  case round =>
    obtain ⟨k, hk, rfl, hd, HB⟩ := hrel
    have HD := Lib.hid hd; clear hd
    by_cases hlt : k < m
    · have hlt2 : (k : Int) < (m : Int) := by omega
      obtain ⟨p, q, hA, hlo, hhi, hg, hE⟩ := (H.out.below PartE.stays HB (Nat.le_refl _)).at_ hlt
      obtain ⟨C, n', c', d1, d2, d3, d4, d5⟩ := hE.out
      clear hE
      subst hA
      have HG := Lib.hid hg; clear hg
      have HT := Lib.hid (d5.keep (lo' := 0) (hi' := wr.heap.size) (fun _ _ _ => rfl) (Nat.le_refl _) HB.size); clear d5
      go_wp2_with fail
      refine (specAtomOk_any _ _ _ _ q.2.2 _ d3 HT.out).mono ?_; rintro e w1 ⟨rfl, hb1⟩
      go_wp2
      · go_ret; exact ⟨retB (by unfold askB; rw [bodyB_no HG.out (atom_no (by assumption))]; simp), belowThen HB hb1⟩
      · go_roundw
        case rel => exact ⟨k + 1, by omega, by go_num, bodyB_snoc HG.out HD.out (atom_yes (by assumption)), belowThen HB hb1⟩
        case measure => simp [intOf]; omega
    · have hbo := bodyB_all L.out hlt HD.out
      have E := Lib.hid hbo
      have hl := L.out
      by_cases hr : (1 ≤ m ∧ m ≤ 4)
      · have hi : (decide ((1 : Int) ≤ (m : Int)) && decide ((m : Int) ≤ 4)) = true := by simp; omega
        have E2 := Lib.hid (show askB qs = tightB (asVars (partsT [] qs)) qs by unfold askB; rw [hbo, L.out]; simp; omega)
        have hlenV := partsT_len qs [] (body_three hbo)
        rw [hl] at hlenV
        simp only [List.length_nil] at hlenV
        go_wp2_with (go_at_call 82; refine (in_any _ _ _ _).mono ?_; rintro e w' ⟨rfl, rfl⟩)
        refine (l5Rule_any ⟨#[120]⟩ B m d qs wr (H.out.up PartE.stays HB) (body_three E.out) (by omega) (body_small E.out)).mono ?_; rintro e w1 ⟨A5, c5, rfl, hT5, hb1⟩
        have HT5 := Lib.hid hT5; have HB1 := belowThen HB hb1
        clear hT5
        go_wp2_with fail
        refine (l2Tight_any _ A5 _ c5 _ B m d qs w1 HT5.out (H.out.up PartE.stays HB1) (body_three E.out) (by omega) (by omega)).mono ?_; rintro e w2 ⟨rfl, hb2⟩
        go_wp2
        go_ret; exact ⟨retB E2.out.symm, belowThen HB1 hb2⟩
      · have hi : (decide ((1 : Int) ≤ (m : Int)) && decide ((m : Int) ≤ 4)) = false := by simp; omega
        have E2 := Lib.hid (show askB qs = false by unfold askB; rw [hbo, L.out]; simp; omega)
        go_wp2_with (go_at_call 82; refine (in_any _ _ _ _).mono ?_; rintro e w' ⟨rfl, rfl⟩)
        go_ret; exact ⟨retB E2.out.symm, HB⟩

end Go.Proofs.YtahkkelahocplaaDoor

namespace Go.Proofs.YtahkkelahocplaaDoor
open Go.RowKit

/-- What stands in the model's text behind k parts. -/
def APart (xs : List Pt) (k : Nat) (s : ByteArray) : Prop := s.data.toList = bodyL (xs.take k)

theorem APart.start (xs : List Pt) : APart xs 0 ⟨#[]⟩ := by unfold APart bodyL; simp [Lib.join_nil]
theorem APart.one {xs : List Pt} {s t : ByteArray} {q : Pt} {k : Nat} (h : APart xs k s) (hk : k = 0) (hq : xs[k]? = some q) (ht : t.data.toList = partL q) : APart xs (k + 1) (s ++ t) := by
  subst hk
  unfold APart at *
  rw [bodyL_first hq]
  simp [bodyL, Lib.join_nil] at h
  simp [h, ht]
theorem APart.next {xs : List Pt} {s t : ByteArray} {q : Pt} {k : Nat} (h : APart xs k s) (hk : 0 < k) (hq : xs[k]? = some q) (ht : t.data.toList = partL q) : APart xs (k + 1) (s ++ ⟨#[32, 97, 110, 100, 32]⟩ ++ t) := by
  unfold APart at *
  rw [bodyL_next hq hk]
  simp [h, ht]
theorem APart.size {xs : List Pt} {s : ByteArray} {k : Nat} (h : APart xs k s) (hb : bodyB xs = true) (hl : xs.length ≤ 4) : s.size ≤ 200 := by
  have h1 : s.size = s.data.toList.length := rfl
  rw [h1, h]
  refine bodyL_short ?_ (by rw [List.length_take]; omega)
  unfold bodyB at *
  rw [List.all_eq_true] at *
  exact fun x hx => hb x (List.mem_of_mem_take hx)
theorem APart.all {xs : List Pt} {s : ByteArray} {k n : Nat} (h : APart xs k s) (hn : xs.length = n) (hk : ¬ k < n) : s.data.toList = bodyL xs := by
  rw [h, List.take_of_length_le (by omega)]

set_option maxHeartbeats 2000000 in
theorem l5Text_any (B : Option Addr) (m d : Nat) (xs : List Pt) (w : World) (h : IsParts w 0 w.heap.size B m d xs) (hB : bodyB xs = true) (hL : xs.length ≤ 4) :
    Calls Tryd.prog 79 #[.slice B m d] w (StrPost (bodyL xs) w) := by
  have hm := h.len
  unfold maxLen at hm
  have L := Lib.hid h.1
  have H := Lib.hid h; clear h
  have EB := Lib.hid hB; have EL := Lib.hid hL
  clear hB hL
  go_enter Tryd.func79, Tryd.ntmps79
  go_wp2
  go_loopw [3, 4] (fun x i wr => ∃ (k : Nat) (s : ByteArray), k ≤ m ∧ i = .int .i64 k ∧ x = .string s ∧ APart xs k s ∧ Below w.heap.size w wr) (fun _ i _ => m - (intOf i).toNat)
  case atStart => exact ⟨0, _, Nat.zero_le _, rfl, rfl, APart.start xs, Below.refl _ _⟩
  case round =>
    obtain ⟨k, s, hk, rfl, rfl, hd, HB⟩ := hrel
    have hsz := hd.size EB.out EL.out
    have HD := Lib.hid hd; clear hd
    by_cases hlt : k < m
    · obtain ⟨p, q, hA, hlo, hhi, hg, hE⟩ := (H.out.below PartE.stays HB (Nat.le_refl _)).at_ hlt
      obtain ⟨C, n', c', d1, d2, d3, d4, d5⟩ := hE.out
      clear hE
      subst hA
      have hqa : atomB q.2 = true := by
        have := EB.out
        unfold bodyB at this
        exact List.all_eq_true.1 this q (List.mem_of_getElem? hg)
      have hql := partL_le hqa
      have hqp := textL_le hqa
      have hql' : (partL (q.1, q.2.1, q.2.2)).length ≤ 44 := hql
      have hqp' : (textL (q.2.1, q.2.2)).length ≤ 40 := hqp
      clear hqa
      have HG := Lib.hid hg; clear hg
      have HT := Lib.hid (d5.keep (lo' := 0) (hi' := wr.heap.size) (fun _ _ _ => rfl) (Nat.le_refl _) HB.size); clear d5
      rcases Nat.eq_zero_or_pos k with h0 | h0
      · have hk0 : ¬ (0 : Int) < (k : Int) := by omega
        have HN := Lib.hid (HD.out.one h0 HG.out (t := ⟨(partL q).toArray⟩) (by simp))
        clear h0
        go_wp2_with fail
        refine (l1Part_any _ _ _ _ _ q.2.2 _ HT.out (by omega)).mono ?_; rintro e w2 ⟨rfl, hb2⟩
        go_wp2
        go_roundw
        case rel => exact ⟨k + 1, _, by omega, by go_num, rfl, HN.out, belowThen HB hb2⟩
        case measure => simp [intOf]; omega
      · have hk0 : (0 : Int) < (k : Int) := by omega
        have HN := Lib.hid (HD.out.next h0 HG.out (t := ⟨(partL q).toArray⟩) (by simp))
        clear h0
        go_wp2_with fail
        refine (l1Part_any _ _ _ _ _ q.2.2 _ HT.out (by omega)).mono ?_; rintro e w2 ⟨rfl, hb2⟩
        go_wp2
        go_roundw
        case rel => exact ⟨k + 1, _, by omega, by go_num, rfl, HN.out, belowThen HB hb2⟩
        case measure => simp [intOf]; omega
    · have E := Lib.hid (HD.out.all L.out hlt)
      go_wp2
      go_ret
      exact ⟨strEq E.out, HB⟩

/-- What AskPut answers. -/
def askPutB (xs : List Pt) : List UInt8 := if askB xs then bodyL xs else []

theorem askB_body {xs : List Pt} (h : askB xs = true) : bodyB xs = true ∧ xs.length ≤ 4 := by
  unfold askB at h
  simp only [Bool.and_eq_true, decide_eq_true_eq] at h
  exact h.1.2

set_option maxHeartbeats 1000000 in
theorem specAskPut_any (B : Option Addr) (m d : Nat) (xs : List Pt) (w : World) (h : IsParts w 0 w.heap.size B m d xs) :
    Calls Tryd.prog 39 #[.slice B m d] w (StrPost (askPutB xs) w) := by
  have H := Lib.hid h; clear h
  go_enter Tryd.func39, Tryd.ntmps39
  go_wp2_with fail
  refine (specAskOk_any B m d xs w H.out).mono ?_; rintro e w1 ⟨rfl, HB1⟩
  cases hA : askB xs
  · have E := Lib.hid (show askPutB xs = [] by unfold askPutB; rw [hA]; rfl); clear hA
    go_wp2
    go_ret; exact ⟨by rw [E.out]; rfl, HB1⟩
  · have E := Lib.hid (show askPutB xs = bodyL xs by unfold askPutB; rw [hA]; rfl)
    have EA := Lib.hid (askB_body hA); clear hA
    go_wp2_with fail
    refine (l5Text_any B m d xs w1 (H.out.up PartE.stays HB1) EA.out.1 EA.out.2).mono ?_; rintro e w2 ⟨rfl, hb2⟩
    go_wp2
    go_ret; exact ⟨by rw [E.out]; rfl, belowThen HB1 hb2⟩

set_option maxHeartbeats 1000000 in
theorem implAskPut_any (B : Option Addr) (m d : Nat) (xs : List Pt) (w : World) (h : IsParts w 0 w.heap.size B m d xs) :
    Calls Tryd.prog 38 #[.slice B m d] w (StrPost (askPutB xs) w) := by
  have H := Lib.hid h; clear h
  go_enter Tryd.func38, Tryd.ntmps38
  go_wp2_with fail
  refine (implAskOk_any B m d xs w H.out).mono ?_; rintro e w1 ⟨rfl, HB1⟩
  cases hA : askB xs
  · have E := Lib.hid (show askPutB xs = [] by unfold askPutB; rw [hA]; rfl); clear hA
    go_wp2
    go_ret; exact ⟨by rw [E.out]; rfl, HB1⟩
  · have E := Lib.hid (show askPutB xs = bodyL xs by unfold askPutB; rw [hA]; rfl)
    have EA := Lib.hid (askB_body hA); clear hA
    go_wp2_with fail
    refine (bodyPut_any B m d xs w1 (H.out.up PartE.stays HB1) EA.out.1 EA.out.2).mono ?_; rintro e w2 ⟨rfl, hb2⟩
    go_wp2
    go_ret; exact ⟨by rw [E.out]; rfl, belowThen HB1 hb2⟩

end Go.Proofs.YtahkkelahocplaaDoor
