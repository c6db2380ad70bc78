/-
  Texts of one claim, put together.
-/
import Derived.Test.YtogonjkklioaaaaGreatDoorCt4
import Derived.Deep.RegionHeld3
import Derived.Test.YtogonjkklioaaaaGreatDoorCt2
namespace Go.Proofs.YtogonjkklioaaaaGreatDoor
open Go.RowKit
attribute [local go_sem] run_store_func

set_option maxHeartbeats 2000000 in
theorem nextSide_any (A0 : Option Addr) (n0 c0 : Nat) (A B : Option Addr) (n c n' c' : Nat) (ra rb : List Rf) (w : World) (h : IsRefs w 0 w.heap.size A n c ra) (h' : IsRefs w 0 w.heap.size B n' c' rb) :
    Calls Tryz.prog 121 #[listV A0 n0 c0, .slice A n c, .slice B n' c'] w (IntPost (sideN (ra.map rAt) (rb.map rAt) : Nat) w) := by
  unfold listV
  have L := Lib.hid h.1; have L' := Lib.hid h'.1
  have H := Lib.hid h; clear h
  have H' := Lib.hid h'; clear h'
  have hw0 := below1 w (.cells #[.slice A0 n0 c0, .func (.func 88) #[] #[]] 92)
  cases rb with
  | nil =>
    have hn : n' = 0 := by have := L'.out; simp at this; omega
    subst hn
    have E := Lib.hid (show ((sideN (ra.map rAt) (([] : List Rf).map rAt) : Nat) : Int) = 0 by cases ra <;> rfl)
    go_enter Tryz.func121, Tryz.ntmps121
    go_wp2
    go_ret; exact ⟨retI E.out.symm, hw0⟩
  | cons b rb =>
    obtain ⟨p', hB, hlo', hhi', hn', ⟨f1, f2, f3, f4⟩, _⟩ := H'.out.first
    subst hB
    have hi' : ¬ (n' : Int) = 0 := by omega
    have hi2 : ((n' : Int) == 0) = false := by rw [beq_eq_false_iff_ne]; exact hi'
    cases ra with
    | nil =>
      have hn : n = 0 := by have := L.out; simp at this; omega
      subst hn
      go_enter Tryz.func121, Tryz.ntmps121
      go_wp2
      go_ret; exact ⟨rfl, hw0⟩
    | cons a ra =>
      obtain ⟨p, hA, hlo, hhi, hn, ⟨d1, d2, d3, d4⟩, _⟩ := H.out.first
      subst hA
      have hi : ¬ (n : Int) = 0 := by omega
      have hi3 : ((n : Int) == 0) = false := by rw [beq_eq_false_iff_ne]; exact hi
      have hbd := hw0.drew
      obtain ⟨W1, hW1⟩ : ∃ W1, w.alloc (.cells #[.slice A0 n0 c0, .func (.func 88) #[] #[]] 92) = W1 := ⟨_, rfl⟩
      have x0 : W1.cell? ⟨w.heap.size, 1, none⟩ = some (.func (.func 88) #[] #[]) := by rw [← hW1]; simp [go_sem]
      have hz0 : w.heap.size < W1.heap.size := by rw [← hW1]; simp
      rw [hW1] at hw0 hbd
      have hwd : Below w.heap.size w W1.drew := hbd
      have x1 := (hw0.cell (p := p) hhi).trans d1
      have x2 : W1.cell? ⟨p.block, p.off + 1, none⟩ = some (.slice a.2.1 a.2.2.1 a.2.2.2.1) := (hw0.cell (p := ⟨p.block, p.off + 1, none⟩) hhi).trans d3
      have x3 := (hw0.cell (p := p') hhi').trans f1
      have x4 : W1.cell? ⟨p'.block, p'.off + 1, none⟩ = some (.slice b.2.1 b.2.2.1 b.2.2.2.1) := (hw0.cell (p := ⟨p'.block, p'.off + 1, none⟩) hhi').trans f3
      have v0 : W1.drew.cell? ⟨w.heap.size, 1, none⟩ = some (.func (.func 88) #[] #[]) := x0
      have v1 : W1.drew.cell? p = some (.string a.1) := x1
      have v2 : W1.drew.cell? ⟨p.block, p.off + 1, none⟩ = some (.slice a.2.1 a.2.2.1 a.2.2.2.1) := x2
      have v3 : W1.drew.cell? p' = some (.string b.1) := x3
      have v4 : W1.drew.cell? ⟨p'.block, p'.off + 1, none⟩ = some (.slice b.2.1 b.2.2.1 b.2.2.2.1) := x4
      have hz : w.heap.size < W1.drew.heap.size := hz0
      have hpz : p.block < W1.drew.heap.size := Nat.lt_of_lt_of_le hhi hw0.size
      have hpz' : p'.block < W1.drew.heap.size := Nat.lt_of_lt_of_le hhi' hw0.size
      have HT := Lib.hid (show IsTerms W1.drew 0 W1.drew.heap.size a.2.1 a.2.2.1 a.2.2.2.1 a.2.2.2.2 from d4.up hwd)
      have HU := Lib.hid (show IsTerms W1.drew 0 W1.drew.heap.size b.2.1 b.2.2.1 b.2.2.2.1 b.2.2.2.2 from f4.up hwd)
      clear d1 d3 d4 f1 f3 f4
      have hq : sideN ((a :: ra).map rAt) ((b :: rb).map rAt) = if atomCmp (rAt a) (rAt b) < 0 then 0 else if 0 < atomCmp (rAt a) (rAt b) then 1 else 2 := rfl
      by_cases hc : atomCmp (rAt a) (rAt b) < 0
      · have E := Lib.hid (show ((sideN ((a :: ra).map rAt) ((b :: rb).map rAt) : Nat) : Int) = 0 by rw [hq, if_pos hc]; rfl)
        have hc' : atomCmp (a.1, a.2.2.2.2) (b.1, b.2.2.2.2) < 0 := hc
        clear hq hc
        go_enter Tryz.func121, Tryz.ntmps121
        go_wp2_with fail
        go_region_held3 (fun W => W.cell? ⟨w.heap.size, 1, none⟩ = some (.func (.func 88) #[] #[]) ∧ (W.cell? p = some (.string a.1) ∧ W.cell? ⟨p.block, p.off + 1, none⟩ = some (.slice a.2.1 a.2.2.1 a.2.2.2.1)) ∧ W.cell? p' = some (.string b.1) ∧ W.cell? ⟨p'.block, p'.off + 1, none⟩ = some (.slice b.2.1 b.2.2.1 b.2.2.2.1))
          (first | (with_reducible exact ⟨y0, ⟨y1, y2⟩, y3, y4⟩) | (with_reducible exact ⟨v0, ⟨v1, v2⟩, v3, v4⟩) | (with_reducible exact ⟨x0, ⟨x1, x2⟩, x3, x4⟩))
          (((with_reducible refine (compareAtoms_any a.1 b.1 a.2.1 b.2.1 a.2.2.1 a.2.2.2.1 b.2.2.1 b.2.2.2.1 a.2.2.2.2 b.2.2.2.2 _ HT.out HU.out).mono ?_); rintro e w1 ⟨rfl, hb1⟩; have y0 := (hb1.cell (p := ⟨w.heap.size, 1, none⟩) hz).trans v0; have y1 := (hb1.cell (p := p) hpz).trans v1; have y2 := (hb1.cell (p := ⟨p.block, p.off + 1, none⟩) hpz).trans v2; have y3 := (hb1.cell (p := p') hpz').trans v3; have y4 := (hb1.cell (p := ⟨p'.block, p'.off + 1, none⟩) hpz').trans v4))
        all_goals
          clear y0 y1 y2 y3 y4 v0 v1 v2 v3 v4 x0 x1 x2 x3 x4
          go_wp2
          go_ret; exact ⟨retI E.out.symm, belowThen hwd hb1⟩
      · by_cases hd : 0 < atomCmp (rAt a) (rAt b)
        · have E := Lib.hid (show ((sideN ((a :: ra).map rAt) ((b :: rb).map rAt) : Nat) : Int) = 1 by rw [hq, if_neg hc, if_pos hd]; rfl)
          have hc' : ¬ atomCmp (a.1, a.2.2.2.2) (b.1, b.2.2.2.2) < 0 := hc
          have hd' : 0 < atomCmp (a.1, a.2.2.2.2) (b.1, b.2.2.2.2) := hd
          clear hq hc hd
          go_enter Tryz.func121, Tryz.ntmps121
          go_wp2_with fail
          go_region_held3 (fun W => W.cell? ⟨w.heap.size, 1, none⟩ = some (.func (.func 88) #[] #[]) ∧ (W.cell? p = some (.string a.1) ∧ W.cell? ⟨p.block, p.off + 1, none⟩ = some (.slice a.2.1 a.2.2.1 a.2.2.2.1)) ∧ W.cell? p' = some (.string b.1) ∧ W.cell? ⟨p'.block, p'.off + 1, none⟩ = some (.slice b.2.1 b.2.2.1 b.2.2.2.1))
            (first | (with_reducible exact ⟨y0, ⟨y1, y2⟩, y3, y4⟩) | (with_reducible exact ⟨v0, ⟨v1, v2⟩, v3, v4⟩) | (with_reducible exact ⟨x0, ⟨x1, x2⟩, x3, x4⟩))
            (((with_reducible refine (compareAtoms_any a.1 b.1 a.2.1 b.2.1 a.2.2.1 a.2.2.2.1 b.2.2.1 b.2.2.2.1 a.2.2.2.2 b.2.2.2.2 _ HT.out HU.out).mono ?_); rintro e w1 ⟨rfl, hb1⟩; have y0 := (hb1.cell (p := ⟨w.heap.size, 1, none⟩) hz).trans v0; have y1 := (hb1.cell (p := p) hpz).trans v1; have y2 := (hb1.cell (p := ⟨p.block, p.off + 1, none⟩) hpz).trans v2; have y3 := (hb1.cell (p := p') hpz').trans v3; have y4 := (hb1.cell (p := ⟨p'.block, p'.off + 1, none⟩) hpz').trans v4))
          all_goals
            clear y0 y1 y2 y3 y4 v0 v1 v2 v3 v4 x0 x1 x2 x3 x4
            go_wp2
            go_ret; exact ⟨retI E.out.symm, belowThen hwd hb1⟩
        · have E := Lib.hid (show ((sideN ((a :: ra).map rAt) ((b :: rb).map rAt) : Nat) : Int) = 2 by rw [hq, if_neg hc, if_neg hd]; rfl)
          have hc' : ¬ atomCmp (a.1, a.2.2.2.2) (b.1, b.2.2.2.2) < 0 := hc
          have hd' : ¬ 0 < atomCmp (a.1, a.2.2.2.2) (b.1, b.2.2.2.2) := hd
          clear hq hc hd
          go_enter Tryz.func121, Tryz.ntmps121
          go_wp2_with fail
          go_region_held3 (fun W => W.cell? ⟨w.heap.size, 1, none⟩ = some (.func (.func 88) #[] #[]) ∧ (W.cell? p = some (.string a.1) ∧ W.cell? ⟨p.block, p.off + 1, none⟩ = some (.slice a.2.1 a.2.2.1 a.2.2.2.1)) ∧ W.cell? p' = some (.string b.1) ∧ W.cell? ⟨p'.block, p'.off + 1, none⟩ = some (.slice b.2.1 b.2.2.1 b.2.2.2.1))
            (first | (with_reducible exact ⟨y0, ⟨y1, y2⟩, y3, y4⟩) | (with_reducible exact ⟨v0, ⟨v1, v2⟩, v3, v4⟩) | (with_reducible exact ⟨x0, ⟨x1, x2⟩, x3, x4⟩))
            (((with_reducible refine (compareAtoms_any a.1 b.1 a.2.1 b.2.1 a.2.2.1 a.2.2.2.1 b.2.2.1 b.2.2.2.1 a.2.2.2.2 b.2.2.2.2 _ HT.out HU.out).mono ?_); rintro e w1 ⟨rfl, hb1⟩; have y0 := (hb1.cell (p := ⟨w.heap.size, 1, none⟩) hz).trans v0; have y1 := (hb1.cell (p := p) hpz).trans v1; have y2 := (hb1.cell (p := ⟨p.block, p.off + 1, none⟩) hpz).trans v2; have y3 := (hb1.cell (p := p') hpz').trans v3; have y4 := (hb1.cell (p := ⟨p'.block, p'.off + 1, none⟩) hpz').trans v4))
          all_goals
            clear y0 y1 y2 y3 y4 v0 v1 v2 v3 v4 x0 x1 x2 x3 x4
            go_wp2
            go_ret; exact ⟨retI E.out.symm, belowThen hwd hb1⟩

end Go.Proofs.YtogonjkklioaaaaGreatDoor

namespace Go.Proofs.YtogonjkklioaaaaGreatDoor
open Go.RowKit Go.Shelf
attribute [local go_sem] Oper.semAt_some run_store_func

/-- What a round keeps: what lay below n₀, and the block b. -/
def KeepsToo (n₀ b : Nat) (W W' : World) : Prop := Below n₀ W W' ∧ W'.heap[b]? = W.heap[b]?

theorem KeepsToo.refl (n₀ b : Nat) (W : World) : KeepsToo n₀ b W W := ⟨Below.refl _ _, rfl⟩
theorem KeepsToo.trans {n₀ b : Nat} {A B C : World} (h : KeepsToo n₀ b A B) (k : KeepsToo n₀ b B C) : KeepsToo n₀ b A C := ⟨h.1.trans k.1, k.2.trans h.2⟩
theorem KeepsToo.of {n₀ b : Nat} {A B : World} (h : Below A.heap.size A B) (hn : n₀ ≤ A.heap.size) (hb : b < A.heap.size) : KeepsToo n₀ b A B := ⟨h.mono hn, h.block b hb⟩
theorem KeepsToo.drew (n₀ b : Nat) (A : World) : KeepsToo n₀ b A A.drew := ⟨(Below.refl _ _).drew, rfl⟩

/-- How long a slice is. -/
def lenV : Value → Nat
  | .slice _ n _ => n
  | _ => 0

theorem IsRefs.rest {w : World} {lo hi n c : Nat} {p : Addr} {r : Rf} {rs : List Rf} (h : IsRefs w lo hi (some p) n c (r :: rs)) :
    IsRefs w lo hi (if c = 1 then some p else some ⟨p.block, p.off + 2, none⟩) (n - 1) (c - 1) rs := by
  obtain ⟨q, e, h1, h2, h3, _, h4⟩ := h.first
  injection e with e
  subst e
  by_cases hc : c = 1
  · rw [if_pos hc]
    have hn : n = 1 := by have := h.2.1; omega
    obtain ⟨a, b, d, _⟩ := h4
    exact ⟨a, b, d, fun h0 => absurd h0 (by omega)⟩
  · rw [if_neg hc]; exact h4

theorem side_cases {ra rb : List Rf} (h : ¬ (ra = [] ∧ rb = [])) :
    (∃ a l, ra = a :: l ∧ sideN (ra.map rAt) (rb.map rAt) = 0) ∨ (∃ b l, rb = b :: l ∧ sideN (ra.map rAt) (rb.map rAt) = 1) ∨ (∃ a l b l', ra = a :: l ∧ rb = b :: l' ∧ sideN (ra.map rAt) (rb.map rAt) = 2) := by
  cases rb with
  | nil =>
    cases ra with
    | nil => exact absurd ⟨rfl, rfl⟩ h
    | cons a l => exact .inl ⟨a, l, rfl, rfl⟩
  | cons b l' =>
    cases ra with
    | nil => exact .inr (.inl ⟨b, l', rfl, rfl⟩)
    | cons a l =>
      have hq : sideN ((a :: l).map rAt) ((b :: l').map rAt) = if atomCmp (rAt a) (rAt b) < 0 then 0 else if 0 < atomCmp (rAt a) (rAt b) then 1 else 2 := rfl
      by_cases h1 : atomCmp (rAt a) (rAt b) < 0
      · exact .inl ⟨a, l, rfl, by rw [hq, if_pos h1]⟩
      · by_cases h2 : 0 < atomCmp (rAt a) (rAt b)
        · exact .inr (.inl ⟨b, l', rfl, by rw [hq, if_neg h1, if_pos h2]⟩)
        · exact .inr (.inr ⟨a, l, b, l', rfl, rfl, by rw [hq, if_neg h1, if_neg h2]⟩)

theorem pre_len {pre t : List (Rf × Nat)} {x : Rf × Nat} {l : List (Rf × Nat)} (h : l = pre ++ x :: t) : pre.length < l.length := by
  rw [h]; simp

theorem nextSide_is (A0 : Option Addr) (n0 c0 : Nat) (A B : Option Addr) (n c n' c' : Nat) (ra rb : List Rf) (w : World) {lo lo' hi : Nat} (h : IsRefs w lo hi A n c ra) (h' : IsRefs w lo' hi B n' c' rb) (hh : hi ≤ w.heap.size) (v : Int) (hv : ((sideN (ra.map rAt) (rb.map rAt) : Nat) : Int) = v) :
    Calls Tryz.prog 121 #[.agg #[.slice A0 n0 c0, .func (.func 88) #[] #[]], .slice A n c, .slice B n' c'] w (IntPost v w) := by
  rw [← hv]
  exact nextSide_any A0 n0 c0 A B n c n' c' ra rb w (h.keep RefE.stays (fun _ _ _ => rfl) (Nat.zero_le _) hh) (h'.keep RefE.stays (fun _ _ _ => rfl) (Nat.zero_le _) hh)

theorem joinOn {l pre r t : List (Rf × Nat)} {x : Rf × Nat} (h : l = pre ++ r) (h' : r = x :: t) : l = (pre ++ [x]) ++ t := by
  rw [h, h', List.append_assoc]; rfl

theorem joinPre {l pre r t : List (Rf × Nat)} {x : Rf × Nat} (h : l = pre ++ r) (h' : r = x :: t) : pre ++ [x] <+: l := by
  rw [joinOn h h']; exact List.prefix_append _ _

set_option maxRecDepth 100000 in
set_option maxHeartbeats 4000000 in
theorem merged1_in (n : Nat) (hn : 1 ≤ n) (l Bs Bo n₀ : Nat) (A0 B0 : Option Addr) (m c m' c' : Nat) (ra0 rb0 : List Rf) (J Jx : List (Rf × Nat) → World → Prop) (W : World) (hJ : AbidesFrom W.heap.size J)
    (hY : ∀ pre x W1, J pre W1 → pre.length < (mergeR ra0 rb0).length → YieldAt Fence.wide (n - 1) Tryz.prog l #[rVal x.1, .int .i64 ((x.2 : Nat) : Int)] W1 fun e W' =>
      (e = .returned (.bool true) ∧ J (pre ++ [x]) W' ∧ KeepsToo n₀ Bs W1 W') ∨ (e = .returned (.bool false) ∧ Jx (pre ++ [x]) W'))
    (hs0 : W.cell? ⟨Bs, 0, none⟩ = some (.slice A0 m c)) (hs1 : W.cell? ⟨Bs, 1, none⟩ = some (.func (.func 88) #[] #[])) (ho0 : W.cell? ⟨Bo, 0, none⟩ = some (.slice B0 m' c'))
    (hn0 : n₀ ≤ W.heap.size) (hA : IsRefs W 0 n₀ A0 m c ra0) (hB : IsRefs W 0 n₀ B0 m' c' rb0) (h0 : J [] W) :
    CallsIn Fence.wide n Tryz.prog 120 #[.func (.yield l) #[] #[], .pointer (some ⟨Bs, 0, none⟩), .pointer (some ⟨Bo, 0, none⟩)] W fun e W' => (∃ v, e = .returned v) ∧
      ((∃ ys, ys = mergeR ra0 rb0 ∧ J ys W') ∨ (∃ pre, pre <+: mergeR ra0 rb0 ∧ Jx pre W')) := by
  have HA := Lib.hid hA; clear hA
  have HB := Lib.hid hB; clear hB
  have HY := Lib.hid hY; clear hY
  have HJ0 := Lib.hid hJ; clear hJ
  have hmx : Tryz.prog.follows .mixedOrders = true := by kernel_rfl
  have hBs : Bs < W.heap.size := World.block_lt_of_cell? _ _ hs0
  refine callsIn_of_wp Tryz.func120 rfl trivial ?_ rfl
  simp only [Tryz.ntmps120, List.size_toArray, List.length_cons, List.length_nil, Nat.reduceAdd, Nat.reduceSub, Array.replicate_succ, Array.replicate_zero, List.push_toArray, List.append_toArray, List.nil_append, List.cons_append]
  gi_wp2
  gi_region
  all_goals gi_wp2
  have S0 := Lib.hid hs0; have S1 := Lib.hid hs1; clear hs0 hs1 ho0
  gi_loopw [4, 5] (fun a b wr => ∃ (A : Option Addr) (n c : Nat) (B : Option Addr) (n' c' : Nat) (ra rb : List Rf) (pre : List (Rf × Nat)), a = .slice A n c ∧ b = .slice B n' c' ∧ IsRefs wr 0 n₀ A n c ra ∧ IsRefs wr 0 n₀ B n' c' rb ∧ mergeR ra0 rb0 = pre ++ mergeR ra rb ∧ J pre wr ∧ KeepsToo n₀ Bs W wr) (fun a b _ => lenV a + lenV b)
  case atStart => exact ⟨A0, m, c, B0, m', c', ra0, rb0, [], rfl, rfl, HA.out.below RefE.stays ((Below.refl _ _).drew) (Nat.le_refl _), HB.out.below RefE.stays ((Below.refl _ _).drew) (Nat.le_refl _), rfl, HJ0.out _ _ _ none h0 (grownOf ((Below.refl _ _).drew) (Nat.le_refl _)) (fun r e => by cases e), KeepsToo.drew _ _ _⟩
  case round =>
    obtain ⟨A, n1, c1, B, n2, c2, ra, rb, pre, rfl, rfl, hra, hrb, hm, hJs, hk⟩ := hrel
    have HJ := Lib.hid hJs; clear hJs
    have HM := Lib.hid hm; clear hm
    have L1 := hra.len; have L2 := hrb.len
    unfold maxLen at L1 L2
    have E1 := Lib.hid hra.1; have E2 := Lib.hid hrb.1
    have HRA := Lib.hid hra; have HRB := Lib.hid hrb; clear hra hrb
    have hz0 := hk.1.size
    have hzB : Bs < wr.heap.size := Nat.lt_of_lt_of_le hBs hz0
    have s0 : wr.cell? ⟨Bs, 0, none⟩ = some (.slice A0 m c) := (World.cell?_of_block hk.2).trans S0.out
    have s1 := (World.cell?_of_block (a := ⟨Bs, 1, none⟩) hk.2).trans S1.out
    have hn0r : n₀ ≤ wr.heap.size := Nat.le_trans hn0 hz0
    have HK := Lib.hid hk; clear hk
    by_cases hend : ra = [] ∧ rb = []
    · obtain ⟨rfl, rfl⟩ := hend
      have hz1 : n1 = 0 := by have := E1.out; simp at this; omega
      have hz2 : n2 = 0 := by have := E2.out; simp at this; omega
      subst hz1; subst hz2
      gi_wp2
      go_end0
      exact ⟨⟨_, rfl⟩, .inl ⟨_, rfl, by have := HM.out; rw [merge_nil, List.map_nil, List.append_nil] at this; rw [this]; exact HJ.out⟩⟩
    · rcases side_cases hend with ⟨a, la, rfl, hsd⟩ | ⟨b, lb, rfl, hsd⟩ | ⟨a, la, b, lb, rfl, rfl, hsd⟩
      · obtain ⟨p, hA, hlo, hhi, hnp, ⟨d1, d2, d3, d4⟩, _⟩ := HRA.out.first
        subst hA
        have HSD := Lib.hid (show ((sideN _ _ : Nat) : Int) = 0 from by rw [hsd]; rfl)
        have HMG := Lib.hid (merge_first hsd)
        clear hsd
        have hi : ¬ (n1 : Int) ≤ 0 := by omega
        have hi : (0 : Int) < (n1 : Int) := by omega
        have hpz : p.block < wr.heap.size := Nat.lt_of_lt_of_le hhi hn0r
        gi_wp2_with (refine ⟨trivial, ?_⟩; gi_at_call 121; refine (callsIn_wide.2 (nextSide_is A0 m c (some p) B n1 c1 n2 c2 (a :: la) rb _ HRA.out HRB.out hn0r 0 HSD.out)).mono ?_; rintro e w1 ⟨rfl, hb1⟩; have x1 := (hb1.cell (p := p) hpz).trans d1; have x2 := (hb1.cell (p := ⟨p.block, p.off + 1, none⟩) hpz).trans d3; have hyy : YieldAt Fence.wide (n - 1) Tryz.prog l #[.agg #[.string a.1, .slice a.2.1 a.2.2.1 a.2.2.2.1], .int .i64 0] w1 (fun e W' => (e = .returned (.bool true) ∧ J (pre ++ [(a, 0)]) W' ∧ KeepsToo n₀ Bs w1 W') ∨ (e = .returned (.bool false) ∧ Jx (pre ++ [(a, 0)]) W')) := HY.out pre (a, 0) w1 (HJ0.out _ _ _ none HJ.out (grownOf hb1 (Nat.le_refl _)) (fun r e => by cases e)) (pre_len (HM.out.trans (by rw [HMG.out]))); obtain ⟨fn, tmps, assign, body, hy, hR⟩ := hyy)
        refine hR.mono ?_
        rintro e W3 (⟨rfl, hJ3, hk3⟩ | ⟨rfl, hJx3⟩)
        · gi_wp2
          have KK := (KeepsToo.of hb1 hn0r hzB).trans hk3
          go_roundw
          case rel => exact ⟨_, _, _, B, n2, c2, la, rb, pre ++ [(a, 0)], rfl, rfl, HRA.out.rest.below RefE.stays KK.1 (Nat.le_refl _), HRB.out.below RefE.stays KK.1 (Nat.le_refl _), joinOn HM.out HMG.out, hJ3, HK.out.trans KK⟩
          case measure => simp [lenV]; omega
        · gi_wp2
          refine bodyPost_ret (results_none rfl _ _ _) rfl ?_
          exact ⟨⟨_, rfl⟩, .inr ⟨_, joinPre HM.out HMG.out, hJx3⟩⟩
      · obtain ⟨p, hA, hlo, hhi, hnp, ⟨d1, d2, d3, d4⟩, _⟩ := HRB.out.first
        subst hA
        have HSD := Lib.hid (show ((sideN _ _ : Nat) : Int) = 1 from by rw [hsd]; rfl)
        have HMG := Lib.hid (merge_second hsd)
        clear hsd
        have hi2 : (0 : Int) < (n2 : Int) := by omega
        by_cases hq : 0 < n1
        · have hi : (0 : Int) < (n1 : Int) := by omega
          have hpz : p.block < wr.heap.size := Nat.lt_of_lt_of_le hhi hn0r
          gi_wp2_with (refine ⟨trivial, ?_⟩; gi_at_call 121; refine (callsIn_wide.2 (nextSide_is A0 m c A (some p) n1 c1 n2 c2 ra (b :: lb) _ HRA.out HRB.out hn0r 1 HSD.out)).mono ?_; rintro e w1 ⟨rfl, hb1⟩; have x1 := (hb1.cell (p := p) hpz).trans d1; have x2 := (hb1.cell (p := ⟨p.block, p.off + 1, none⟩) hpz).trans d3; have hyy : YieldAt Fence.wide (n - 1) Tryz.prog l #[.agg #[.string b.1, .slice b.2.1 b.2.2.1 b.2.2.2.1], .int .i64 1] w1 (fun e W' => (e = .returned (.bool true) ∧ J (pre ++ [(b, 1)]) W' ∧ KeepsToo n₀ Bs w1 W') ∨ (e = .returned (.bool false) ∧ Jx (pre ++ [(b, 1)]) W')) := HY.out pre (b, 1) w1 (HJ0.out _ _ _ none HJ.out (grownOf hb1 (Nat.le_refl _)) (fun r e => by cases e)) (pre_len (HM.out.trans (by rw [HMG.out]))); obtain ⟨fn, tmps, assign, body, hy, hR⟩ := hyy)
          refine hR.mono ?_
          rintro e W3 (⟨rfl, hJ3, hk3⟩ | ⟨rfl, hJx3⟩)
          · gi_wp2
            have KK := (KeepsToo.of hb1 hn0r hzB).trans hk3
            go_roundw
            case rel => exact ⟨A, n1, c1, _, _, _, ra, lb, pre ++ [(b, 1)], rfl, rfl, HRA.out.below RefE.stays KK.1 (Nat.le_refl _), HRB.out.rest.below RefE.stays KK.1 (Nat.le_refl _), joinOn HM.out HMG.out, hJ3, HK.out.trans KK⟩
            case measure => simp [lenV]; omega
          · gi_wp2
            refine bodyPost_ret (results_none rfl _ _ _) rfl ?_
            exact ⟨⟨_, rfl⟩, .inr ⟨_, joinPre HM.out HMG.out, hJx3⟩⟩
        · have hi : ¬ (0 : Int) < (n1 : Int) := by omega
          have hpz : p.block < wr.heap.size := Nat.lt_of_lt_of_le hhi hn0r
          gi_wp2_with (refine ⟨trivial, ?_⟩; gi_at_call 121; refine (callsIn_wide.2 (nextSide_is A0 m c A (some p) n1 c1 n2 c2 ra (b :: lb) _ HRA.out HRB.out hn0r 1 HSD.out)).mono ?_; rintro e w1 ⟨rfl, hb1⟩; have x1 := (hb1.cell (p := p) hpz).trans d1; have x2 := (hb1.cell (p := ⟨p.block, p.off + 1, none⟩) hpz).trans d3; have hyy : YieldAt Fence.wide (n - 1) Tryz.prog l #[.agg #[.string b.1, .slice b.2.1 b.2.2.1 b.2.2.2.1], .int .i64 1] w1 (fun e W' => (e = .returned (.bool true) ∧ J (pre ++ [(b, 1)]) W' ∧ KeepsToo n₀ Bs w1 W') ∨ (e = .returned (.bool false) ∧ Jx (pre ++ [(b, 1)]) W')) := HY.out pre (b, 1) w1 (HJ0.out _ _ _ none HJ.out (grownOf hb1 (Nat.le_refl _)) (fun r e => by cases e)) (pre_len (HM.out.trans (by rw [HMG.out]))); obtain ⟨fn, tmps, assign, body, hy, hR⟩ := hyy)
          refine hR.mono ?_
          rintro e W3 (⟨rfl, hJ3, hk3⟩ | ⟨rfl, hJx3⟩)
          · gi_wp2
            have KK := (KeepsToo.of hb1 hn0r hzB).trans hk3
            go_roundw
            case rel => exact ⟨A, n1, c1, _, _, _, ra, lb, pre ++ [(b, 1)], rfl, rfl, HRA.out.below RefE.stays KK.1 (Nat.le_refl _), HRB.out.rest.below RefE.stays KK.1 (Nat.le_refl _), joinOn HM.out HMG.out, hJ3, HK.out.trans KK⟩
            case measure => simp [lenV]; omega
          · gi_wp2
            refine bodyPost_ret (results_none rfl _ _ _) rfl ?_
            exact ⟨⟨_, rfl⟩, .inr ⟨_, joinPre HM.out HMG.out, hJx3⟩⟩
      · obtain ⟨p, hA, hlo, hhi, hnp, ⟨d1, d2, d3, d4⟩, _⟩ := HRA.out.first
        subst hA
        obtain ⟨p2, hA2, hlo2, hhi2, hnp2, _, _⟩ := HRB.out.first
        subst hA2
        have HSD := Lib.hid (show ((sideN _ _ : Nat) : Int) = 2 from by rw [hsd]; rfl)
        have HMG := Lib.hid (merge_both hsd)
        clear hsd
        have hi : (0 : Int) < (n1 : Int) := by omega
        have hpz : p.block < wr.heap.size := Nat.lt_of_lt_of_le hhi hn0r
        gi_wp2_with (refine ⟨trivial, ?_⟩; gi_at_call 121; refine (callsIn_wide.2 (nextSide_is A0 m c (some p) (some p2) n1 c1 n2 c2 (a :: la) (b :: lb) _ HRA.out HRB.out hn0r 2 HSD.out)).mono ?_; rintro e w1 ⟨rfl, hb1⟩; have x1 := (hb1.cell (p := p) hpz).trans d1; have x2 := (hb1.cell (p := ⟨p.block, p.off + 1, none⟩) hpz).trans d3; have hyy : YieldAt Fence.wide (n - 1) Tryz.prog l #[.agg #[.string a.1, .slice a.2.1 a.2.2.1 a.2.2.2.1], .int .i64 2] w1 (fun e W' => (e = .returned (.bool true) ∧ J (pre ++ [(a, 2)]) W' ∧ KeepsToo n₀ Bs w1 W') ∨ (e = .returned (.bool false) ∧ Jx (pre ++ [(a, 2)]) W')) := HY.out pre (a, 2) w1 (HJ0.out _ _ _ none HJ.out (grownOf hb1 (Nat.le_refl _)) (fun r e => by cases e)) (pre_len (HM.out.trans (by rw [HMG.out]))); obtain ⟨fn, tmps, assign, body, hy, hR⟩ := hyy)
        refine hR.mono ?_
        rintro e W3 (⟨rfl, hJ3, hk3⟩ | ⟨rfl, hJx3⟩)
        · gi_wp2
          gi_region
          all_goals gi_wp2
          have KK := ((KeepsToo.of hb1 hn0r hzB).trans hk3).trans (KeepsToo.drew n₀ Bs W3)
          have hJ4 := HJ0.out _ _ _ none hJ3 (grownOf (Below.refl W3.heap.size W3).drew (Nat.le_refl _)) (fun r e => by cases e)
          go_roundw
          case rel => exact ⟨_, _, _, _, _, _, la, lb, pre ++ [(a, 2)], rfl, rfl, HRA.out.rest.below RefE.stays KK.1 (Nat.le_refl _), HRB.out.rest.below RefE.stays KK.1 (Nat.le_refl _), joinOn HM.out HMG.out, hJ4, HK.out.trans KK⟩
          case measure => simp [lenV]; omega
        · gi_wp2
          refine bodyPost_ret (results_none rfl _ _ _) rfl ?_
          exact ⟨⟨_, rfl⟩, .inr ⟨_, joinPre HM.out HMG.out, hJx3⟩⟩

end Go.Proofs.YtogonjkklioaaaaGreatDoor
