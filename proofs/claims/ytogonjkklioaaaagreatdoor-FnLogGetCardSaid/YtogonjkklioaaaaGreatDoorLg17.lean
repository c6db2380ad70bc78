/-
  Texts of one claim, put together.
-/
import Derived.Test.YtogonjkklioaaaaGreatDoorLg7
set_option maxRecDepth 100000
set_option maxHeartbeats 8000000
namespace Go.Proofs.YtogonjkklioaaaaGreatDoor
open Go.RowKit
attribute [local go_sem] zbg
theorem ZSide0 {p : Prop} (h : p := by
  go_enter Tryz.func121, Tryz.ntmps121; go_wp2_with fail
  go_region_held3 (fun W => W.cell? ⟨w.heap.size, 1, none⟩ = some (.func (.func 88) #[] #[]) ∧ (W.cell? p = some (.string a.1) ∧ W.cell? ⟨p.block, p.off + 1, none⟩ = some (.slice a.2.1 a.2.2.1 a.2.2.2.1)) ∧ W.cell? p' = some (.string b.1) ∧ W.cell? ⟨p'.block, p'.off + 1, none⟩ = some (.slice b.2.1 b.2.2.1 b.2.2.2.1))
    (first | (with_reducible exact ⟨y0, ⟨y1, y2⟩, y3, y4⟩) | (with_reducible exact ⟨v0, ⟨v1, v2⟩, v3, v4⟩) | (with_reducible exact ⟨x0, ⟨x1, x2⟩, x3, x4⟩))
    (((with_reducible refine (zgm a.1 b.1 a.2.1 b.2.1 a.2.2.1 a.2.2.2.1 b.2.2.1 b.2.2.2.1 a.2.2.2.2 b.2.2.2.2 _ HT.out HU.out).mono ?_); rintro e w1 ⟨rfl, hb1⟩; have y0 := (hb1.cell (p := ⟨w.heap.size, 1, none⟩) hz).trans v0; have y1 := (hb1.cell (p := p) hpz).trans v1; have y2 := (hb1.cell (p := ⟨p.block, p.off + 1, none⟩) hpz).trans v2; have y3 := (hb1.cell (p := p') hpz').trans v3; have y4 := (hb1.cell (p := ⟨p'.block, p'.off + 1, none⟩) hpz').trans v4))
  all_goals
    clear y0 y1 y2 y3 y4 v0 v1 v2 v3 v4 x0 x1 x2 x3 x4; go_wp2; go_ret; exact ⟨retI E.out.symm, zaa hwd hb1⟩) : p := h
theorem nextSide_any (A0 : Option Addr) (n0 c0 : Nat) (A B : Option Addr) (n c n' c' : Nat) (ra rb : List Rf) (w : World) (h : IsRefs w 0 w.heap.size A n c ra) (h' : IsRefs w 0 w.heap.size B n' c' rb) :
    Calls Tryz.prog 121 #[listV A0 n0 c0, .slice A n c, .slice B n' c'] w (zlt (zgu (ra.map rAt) (rb.map rAt) : Nat) w) := by
  unfold listV; have L := hid h.1; have L' := hid h'.1; have H := hid h; clear h; have H' := hid h'; clear h'; have hw0 := zac w (.cells #[.slice A0 n0 c0, .func (.func 88) #[] #[]] 92)
  cases rb with
  | nil =>
    have hn : n' = 0 := by have := L'.out; simp at this; omega
    subst hn; have E := hid (show ((zgu (ra.map rAt) (([] : List Rf).map rAt) : Nat) : Int) = 0 by cases ra <;> rfl); go_enter Tryz.func121, Tryz.ntmps121; go_wp2
    go_ret; exact ⟨retI E.out.symm, hw0⟩
  | cons b rb =>
    obtain ⟨p', hB, a7, a2, hn', ⟨f1, f2, f3, f4⟩, _⟩ := H'.out.first; subst hB; have hi' : ¬ (n' : Int) = 0 := qaa; have hi2 : ((n' : Int) == 0) = false := by rw [beq_eq_false_iff_ne]; exact hi'
    cases ra with
    | nil =>
      have hn : n = 0 := by have := L.out; simp at this; omega
      subst hn; go_enter Tryz.func121, Tryz.ntmps121; go_wp2
      go_ret; exact ⟨rfl, hw0⟩
    | cons a ra =>
      obtain ⟨p, hA, hlo, hhi, hn, ⟨d1, d2, d3, d4⟩, _⟩ := H.out.first; subst hA; have hi : ¬ (n : Int) = 0 := qaa; have hi3 : ((n : Int) == 0) = false := by rw [beq_eq_false_iff_ne]; exact hi
      have hbd := hw0.drew; obtain ⟨W1, a3⟩ : ∃ W1, w.alloc (.cells #[.slice A0 n0 c0, .func (.func 88) #[] #[]] 92) = W1 := ⟨_, rfl⟩; have x0 : W1.cell? ⟨w.heap.size, 1, none⟩ = some (.func (.func 88) #[] #[]) := by rw [← a3]; simp [go_sem]
      have a6 : w.heap.size < W1.heap.size := by rw [← a3]; simp
      rw [a3] at hw0 hbd; have hwd : Below w.heap.size w W1.drew := hbd; have x1 := (hw0.cell (p := p) hhi).trans d1; have x2 : W1.cell? ⟨p.block, p.off + 1, none⟩ = some (.slice a.2.1 a.2.2.1 a.2.2.2.1) := (hw0.cell (p := ⟨p.block, p.off + 1, none⟩) hhi).trans d3; have x3 := (hw0.cell (p := p') a2).trans f1; have x4 : W1.cell? ⟨p'.block, p'.off + 1, none⟩ = some (.slice b.2.1 b.2.2.1 b.2.2.2.1) := (hw0.cell (p := ⟨p'.block, p'.off + 1, none⟩) a2).trans f3; have v0 : W1.drew.cell? ⟨w.heap.size, 1, none⟩ = some (.func (.func 88) #[] #[]) := x0; have v1 : W1.drew.cell? p = some (.string a.1) := x1
      have v2 : W1.drew.cell? ⟨p.block, p.off + 1, none⟩ = some (.slice a.2.1 a.2.2.1 a.2.2.2.1) := x2; have v3 : W1.drew.cell? p' = some (.string b.1) := x3; have v4 : W1.drew.cell? ⟨p'.block, p'.off + 1, none⟩ = some (.slice b.2.1 b.2.2.1 b.2.2.2.1) := x4; have hz : w.heap.size < W1.drew.heap.size := a6; have hpz : p.block < W1.drew.heap.size := Nat.lt_of_lt_of_le hhi hw0.size; have hpz' : p'.block < W1.drew.heap.size := Nat.lt_of_lt_of_le a2 hw0.size; have HT := hid (show IsTerms W1.drew 0 W1.drew.heap.size a.2.1 a.2.2.1 a.2.2.2.1 a.2.2.2.2 from d4.up hwd); have HU := hid (show IsTerms W1.drew 0 W1.drew.heap.size b.2.1 b.2.2.1 b.2.2.2.1 b.2.2.2.2 from f4.up hwd)
      clear d1 d3 d4 f1 f3 f4; have hq : zgu ((a :: ra).map rAt) ((b :: rb).map rAt) = if zaf (rAt a) (rAt b) < 0 then 0 else if 0 < zaf (rAt a) (rAt b) then 1 else 2 := rfl; by_cases hc : zaf (rAt a) (rAt b) < 0
      · have E := hid (show ((zgu ((a :: ra).map rAt) ((b :: rb).map rAt) : Nat) : Int) = 0 by rw [hq, if_pos hc]; rfl)
        have a4 : zaf (a.1, a.2.2.2.2) (b.1, b.2.2.2.2) < 0 := hc; clear hq hc; exact ZSide0
      · by_cases hd : 0 < zaf (rAt a) (rAt b)
        · have E := hid (show ((zgu ((a :: ra).map rAt) ((b :: rb).map rAt) : Nat) : Int) = 1 by rw [hq, if_neg hc, if_pos hd]; rfl)
          have a4 : ¬ zaf (a.1, a.2.2.2.2) (b.1, b.2.2.2.2) < 0 := hc; have a5 : 0 < zaf (a.1, a.2.2.2.2) (b.1, b.2.2.2.2) := hd; clear hq hc hd; exact ZSide0
        · have E := hid (show ((zgu ((a :: ra).map rAt) ((b :: rb).map rAt) : Nat) : Int) = 2 by rw [hq, if_neg hc, if_neg hd]; rfl)
          have a4 : ¬ zaf (a.1, a.2.2.2.2) (b.1, b.2.2.2.2) < 0 := hc; have a5 : ¬ 0 < zaf (a.1, a.2.2.2.2) (b.1, b.2.2.2.2) := hd; clear hq hc hd; exact ZSide0
end Go.Proofs.YtogonjkklioaaaaGreatDoor

namespace Go.Proofs.YtogonjkklioaaaaGreatDoor
open Go.RowKit Go.Shelf
attribute [local go_sem] Oper.semAt_some zbg
def KeepsToo (n₀ b : Nat) (W W' : World) : Prop := Below n₀ W W' ∧ W'.heap[b]? = W.heap[b]?
theorem KeepsToo.refl (n₀ b : Nat) (W : World) : KeepsToo n₀ b W W := ⟨Below.refl _ _, rfl⟩
theorem KeepsToo.trans {n₀ b : Nat} {A B C : World} (h : KeepsToo n₀ b A B) (k : KeepsToo n₀ b B C) : KeepsToo n₀ b A C := ⟨h.1.trans k.1, k.2.trans h.2⟩
theorem KeepsToo.of {n₀ b : Nat} {A B : World} (h : Below A.heap.size A B) (hn : n₀ ≤ A.heap.size) (hb : b < A.heap.size) : KeepsToo n₀ b A B := ⟨h.mono hn, h.block b hb⟩
theorem KeepsToo.drew (n₀ b : Nat) (A : World) : KeepsToo n₀ b A A.drew := ⟨(Below.refl _ _).drew, rfl⟩
def lenV : Value → Nat
  | .slice _ n _ => n
  | _ => 0
theorem IsRefs.rest {w : World} {lo hi n c : Nat} {p : Addr} {r : Rf} {rs : List Rf} (h : IsRefs w lo hi (some p) n c (r :: rs)) :
    IsRefs w lo hi (if c = 1 then some p else some ⟨p.block, p.off + 2, none⟩) (n - 1) (c - 1) rs := by
  obtain ⟨q, e, h1, h2, h3, _, h4⟩ := h.first; injection e with e; subst e; by_cases hc : c = 1
  · rw [if_pos hc]
    have hn : n = 1 := by have := h.2.1; omega
    obtain ⟨a, b, d, _⟩ := h4; exact ⟨a, b, d, fun h0 => absurd h0 qaa⟩
  · rw [if_neg hc]; exact h4
theorem side_cases {ra rb : List Rf} (h : ¬ (ra = [] ∧ rb = [])) :
    (∃ a l, ra = a :: l ∧ zgu (ra.map rAt) (rb.map rAt) = 0) ∨ (∃ b l, rb = b :: l ∧ zgu (ra.map rAt) (rb.map rAt) = 1) ∨ (∃ a l b l', ra = a :: l ∧ rb = b :: l' ∧ zgu (ra.map rAt) (rb.map rAt) = 2) := by
  cases rb with
  | nil =>
    cases ra with
    | nil => exact absurd ⟨rfl, rfl⟩ h
    | cons a l => exact .inl ⟨a, l, rfl, rfl⟩
  | cons b l' =>
    cases ra with
    | nil => exact .inr (.inl ⟨b, l', rfl, rfl⟩)
    | cons a l =>
      have hq : zgu ((a :: l).map rAt) ((b :: l').map rAt) = if zaf (rAt a) (rAt b) < 0 then 0 else if 0 < zaf (rAt a) (rAt b) then 1 else 2 := rfl; by_cases h1 : zaf (rAt a) (rAt b) < 0
      · exact .inl ⟨a, l, rfl, by rw [hq, if_pos h1]⟩
      · by_cases h2 : 0 < zaf (rAt a) (rAt b)
        · exact .inr (.inl ⟨b, l', rfl, by rw [hq, if_neg h1, if_pos h2]⟩)
        · exact .inr (.inr ⟨a, l, b, l', rfl, rfl, by rw [hq, if_neg h1, if_neg h2]⟩)
theorem pre_len {pre t : List (Rf × Nat)} {x : Rf × Nat} {l : List (Rf × Nat)} (h : l = pre ++ x :: t) : pre.length < l.length := by
  rw [h]; simp
theorem zix (A0 : Option Addr) (n0 c0 : Nat) (A B : Option Addr) (n c n' c' : Nat) (ra rb : List Rf) (w : World) {lo lo' hi : Nat} (h : IsRefs w lo hi A n c ra) (h' : IsRefs w lo' hi B n' c' rb) (hh : hi ≤ w.heap.size) (v : Int) (hv : ((zgu (ra.map rAt) (rb.map rAt) : Nat) : Int) = v) :
    Calls Tryz.prog 121 #[.agg #[.slice A0 n0 c0, .func (.func 88) #[] #[]], .slice A n c, .slice B n' c'] w (zlt v w) := by
  rw [← hv]; exact nextSide_any A0 n0 c0 A B n c n' c' ra rb w (h.keep RefE.stays (fun _ _ _ => rfl) (Nat.zero_le _) hh) (h'.keep RefE.stays (fun _ _ _ => rfl) (Nat.zero_le _) hh)
theorem joinOn {l pre r t : List (Rf × Nat)} {x : Rf × Nat} (h : l = pre ++ r) (h' : r = x :: t) : l = (pre ++ [x]) ++ t := by
  rw [h, h', List.append_assoc]; rfl
theorem joinPre {l pre r t : List (Rf × Nat)} {x : Rf × Nat} (h : l = pre ++ r) (h' : r = x :: t) : pre ++ [x] <+: l := by
  rw [joinOn h h']; exact List.prefix_append _ _
theorem ZMerged0 {p : Prop} (h : p := by
  have hpz : p.block < wr.heap.size := Nat.lt_of_lt_of_le hhi hn0r; gi_wp2_with (refine ⟨trivial, ?_⟩; gi_at_call 121; refine (callsIn_wide.2 (zix A0 m c A (some p) n1 c1 n2 c2 ra (b :: lb) _ HRA.out HRB.out hn0r 1 HSD.out)).mono ?_; rintro e w1 ⟨rfl, hb1⟩; have x1 := (hb1.cell (p := p) hpz).trans d1; have x2 := (hb1.cell (p := ⟨p.block, p.off + 1, none⟩) hpz).trans d3; have hyy : YieldAt Fence.wide (n - 1) Tryz.prog l #[.agg #[.string b.1, .slice b.2.1 b.2.2.1 b.2.2.2.1], .int .i64 1] w1 (fun e W' => (e = .returned (.bool true) ∧ J (pre ++ [(b, 1)]) W' ∧ KeepsToo n₀ Bs w1 W') ∨ (e = .returned (.bool false) ∧ Jx (pre ++ [(b, 1)]) W')) := HY.out pre (b, 1) w1 (HJ0.out _ _ _ none HJ.out (zja hb1 (nl _)) qdx) (pre_len (HM.out.trans (by rw [HMG.out]))); obtain ⟨fn, tmps, assign, body, hy, hR⟩ := hyy)
  refine hR.mono ?_; rintro e W3 (⟨rfl, hJ3, hk3⟩ | ⟨rfl, hJx3⟩)
  · gi_wp2
    have KK := (KeepsToo.of hb1 hn0r hzB).trans hk3; go_roundw
    case rel => exact ⟨A, n1, c1, _, _, _, ra, lb, pre ++ [(b, 1)], rfl, rfl, HRA.out.below RefE.stays KK.1 (nl _), HRB.out.rest.below RefE.stays KK.1 (nl _), joinOn HM.out HMG.out, hJ3, HK.out.trans KK⟩
    case measure => simp [lenV]; omega
  · gi_wp2
    refine bodyPost_ret (results_none rfl _ _ _) rfl ?_; exact ⟨⟨_, rfl⟩, .inr ⟨_, joinPre HM.out HMG.out, hJx3⟩⟩) : p := h
theorem merged1_in (n : Nat) (hn : 1 ≤ n) (l Bs Bo n₀ : Nat) (A0 B0 : Option Addr) (m c m' c' : Nat) (ra0 rb0 : List Rf) (J Jx : List (Rf × Nat) → World → Prop) (W : World) (hJ : AbidesFrom W.heap.size J)
    (hY : ∀ pre x W1, J pre W1 → pre.length < (zba ra0 rb0).length → YieldAt Fence.wide (n - 1) Tryz.prog l #[rVal x.1, .int .i64 ((x.2 : Nat) : Int)] W1 fun e W' =>
      (e = .returned (.bool true) ∧ J (pre ++ [x]) W' ∧ KeepsToo n₀ Bs W1 W') ∨ (e = .returned (.bool false) ∧ Jx (pre ++ [x]) W'))
    (hs0 : W.cell? ⟨Bs, 0, none⟩ = some (.slice A0 m c)) (hs1 : W.cell? ⟨Bs, 1, none⟩ = some (.func (.func 88) #[] #[])) (ho0 : W.cell? ⟨Bo, 0, none⟩ = some (.slice B0 m' c'))
    (hn0 : n₀ ≤ W.heap.size) (hA : IsRefs W 0 n₀ A0 m c ra0) (hB : IsRefs W 0 n₀ B0 m' c' rb0) (h0 : J [] W) :
    CallsIn Fence.wide n Tryz.prog 120 #[.func (.yield l) #[] #[], .pointer (some ⟨Bs, 0, none⟩), .pointer (some ⟨Bo, 0, none⟩)] W fun e W' => (∃ v, e = .returned v) ∧
      ((∃ ys, ys = zba ra0 rb0 ∧ J ys W') ∨ (∃ pre, pre <+: zba ra0 rb0 ∧ Jx pre W')) := by
  have HA := hid hA; clear hA; have HB := hid hB; clear hB; have HY := hid hY; clear hY; have HJ0 := hid hJ; clear hJ; have hmx : Tryz.prog.follows .mixedOrders = true := qab; have b5 : Bs < W.heap.size := World.block_lt_of_cell? _ _ hs0; refine callsIn_of_wp Tryz.func120 rfl trivial ?_ rfl; simp only [Tryz.ntmps120, List.size_toArray, List.length_cons, List.length_nil, Nat.reduceAdd, Nat.reduceSub, Array.replicate_succ, Array.replicate_zero, List.push_toArray, List.append_toArray, List.nil_append, List.cons_append]
  gi_wp2; gi_region
  all_goals gi_wp2
  have S0 := hid hs0; have S1 := hid hs1; clear hs0 hs1 ho0; gi_loopw [4, 5] (fun a b wr => ∃ (A : Option Addr) (n c : Nat) (B : Option Addr) (n' c' : Nat) (ra rb : List Rf) (pre : List (Rf × Nat)), a = .slice A n c ∧ b = .slice B n' c' ∧ IsRefs wr 0 n₀ A n c ra ∧ IsRefs wr 0 n₀ B n' c' rb ∧ zba ra0 rb0 = pre ++ zba ra rb ∧ J pre wr ∧ KeepsToo n₀ Bs W wr) (fun a b _ => lenV a + lenV b)
  case atStart => exact ⟨A0, m, c, B0, m', c', ra0, rb0, [], rfl, rfl, HA.out.below RefE.stays ((Below.refl _ _).drew) (nl _), HB.out.below RefE.stays ((Below.refl _ _).drew) (nl _), rfl, HJ0.out _ _ _ none h0 (zja ((Below.refl _ _).drew) (nl _)) qdx, KeepsToo.drew _ _ _⟩
  case round =>
    obtain ⟨A, n1, c1, B, n2, c2, ra, rb, pre, rfl, rfl, a2, a3, hm, a6, hk⟩ := hrel; have HJ := hid a6; clear a6; have HM := hid hm; clear hm; have L1 := a2.len; have L2 := a3.len; unfold maxLen at L1 L2; have E1 := hid a2.1; have E2 := hid a3.1; have HRA := hid a2; have HRB := hid a3; clear a2 a3; have a5 := hk.1.size; have hzB : Bs < wr.heap.size := Nat.lt_of_lt_of_le b5 a5; have s0 : wr.cell? ⟨Bs, 0, none⟩ = some (.slice A0 m c) := (cb_ hk.2).trans S0.out; have s1 := (cb_ (a := ⟨Bs, 1, none⟩) hk.2).trans S1.out; have hn0r : n₀ ≤ wr.heap.size := Nat.le_trans hn0 a5; have HK := hid hk; clear hk; by_cases hend : ra = [] ∧ rb = []
    · obtain ⟨rfl, rfl⟩ := hend
      have b6 : n1 = 0 := by have := E1.out; simp at this; omega
      have hz2 : n2 = 0 := by have := E2.out; simp at this; omega
      subst b6; subst hz2; gi_wp2; go_end0; exact ⟨⟨_, rfl⟩, .inl ⟨_, rfl, by have := HM.out; rw [zjs, List.map_nil, List.append_nil] at this; rw [this]; exact HJ.out⟩⟩
    · rcases side_cases hend with ⟨a, la, rfl, hsd⟩ | ⟨b, lb, rfl, hsd⟩ | ⟨a, la, b, lb, rfl, rfl, hsd⟩
      · obtain ⟨p, hA, a4, hhi, a7, ⟨d1, d2, d3, d4⟩, _⟩ := HRA.out.first
        subst hA; have HSD := hid (show ((zgu _ _ : Nat) : Int) = 0 from by rw [hsd]; rfl); have HMG := hid (merge_first hsd); clear hsd; have hi : ¬ (n1 : Int) ≤ 0 := qaa; have hi : (0 : Int) < (n1 : Int) := qaa; have hpz : p.block < wr.heap.size := Nat.lt_of_lt_of_le hhi hn0r; gi_wp2_with (refine ⟨trivial, ?_⟩; gi_at_call 121; refine (callsIn_wide.2 (zix A0 m c (some p) B n1 c1 n2 c2 (a :: la) rb _ HRA.out HRB.out hn0r 0 HSD.out)).mono ?_; rintro e w1 ⟨rfl, hb1⟩; have x1 := (hb1.cell (p := p) hpz).trans d1; have x2 := (hb1.cell (p := ⟨p.block, p.off + 1, none⟩) hpz).trans d3; have hyy : YieldAt Fence.wide (n - 1) Tryz.prog l #[.agg #[.string a.1, .slice a.2.1 a.2.2.1 a.2.2.2.1], .int .i64 0] w1 (fun e W' => (e = .returned (.bool true) ∧ J (pre ++ [(a, 0)]) W' ∧ KeepsToo n₀ Bs w1 W') ∨ (e = .returned (.bool false) ∧ Jx (pre ++ [(a, 0)]) W')) := HY.out pre (a, 0) w1 (HJ0.out _ _ _ none HJ.out (zja hb1 (nl _)) qdx) (pre_len (HM.out.trans (by rw [HMG.out]))); obtain ⟨fn, tmps, assign, body, hy, hR⟩ := hyy)
        refine hR.mono ?_; rintro e W3 (⟨rfl, hJ3, hk3⟩ | ⟨rfl, hJx3⟩)
        · gi_wp2
          have KK := (KeepsToo.of hb1 hn0r hzB).trans hk3; go_roundw
          case rel => exact ⟨_, _, _, B, n2, c2, la, rb, pre ++ [(a, 0)], rfl, rfl, HRA.out.rest.below RefE.stays KK.1 (nl _), HRB.out.below RefE.stays KK.1 (nl _), joinOn HM.out HMG.out, hJ3, HK.out.trans KK⟩
          case measure => simp [lenV]; omega
        · gi_wp2
          refine bodyPost_ret (results_none rfl _ _ _) rfl ?_; exact ⟨⟨_, rfl⟩, .inr ⟨_, joinPre HM.out HMG.out, hJx3⟩⟩
      · obtain ⟨p, hA, a4, hhi, a7, ⟨d1, d2, d3, d4⟩, _⟩ := HRB.out.first
        subst hA; have HSD := hid (show ((zgu _ _ : Nat) : Int) = 1 from by rw [hsd]; rfl); have HMG := hid (merge_second hsd); clear hsd; have hi2 : (0 : Int) < (n2 : Int) := qaa; by_cases hq : 0 < n1
        · have hi : (0 : Int) < (n1 : Int) := qaa
          exact ZMerged0
        · have hi : ¬ (0 : Int) < (n1 : Int) := qaa
          exact ZMerged0
      · obtain ⟨p, hA, a4, hhi, a7, ⟨d1, d2, d3, d4⟩, _⟩ := HRA.out.first
        subst hA; obtain ⟨p2, hA2, b4, a9, b3, _, _⟩ := HRB.out.first; subst hA2; have HSD := hid (show ((zgu _ _ : Nat) : Int) = 2 from by rw [hsd]; rfl); have HMG := hid (merge_both hsd); clear hsd; have hi : (0 : Int) < (n1 : Int) := qaa; have hpz : p.block < wr.heap.size := Nat.lt_of_lt_of_le hhi hn0r; gi_wp2_with (refine ⟨trivial, ?_⟩; gi_at_call 121; refine (callsIn_wide.2 (zix A0 m c (some p) (some p2) n1 c1 n2 c2 (a :: la) (b :: lb) _ HRA.out HRB.out hn0r 2 HSD.out)).mono ?_; rintro e w1 ⟨rfl, hb1⟩; have x1 := (hb1.cell (p := p) hpz).trans d1; have x2 := (hb1.cell (p := ⟨p.block, p.off + 1, none⟩) hpz).trans d3; have hyy : YieldAt Fence.wide (n - 1) Tryz.prog l #[.agg #[.string a.1, .slice a.2.1 a.2.2.1 a.2.2.2.1], .int .i64 2] w1 (fun e W' => (e = .returned (.bool true) ∧ J (pre ++ [(a, 2)]) W' ∧ KeepsToo n₀ Bs w1 W') ∨ (e = .returned (.bool false) ∧ Jx (pre ++ [(a, 2)]) W')) := HY.out pre (a, 2) w1 (HJ0.out _ _ _ none HJ.out (zja hb1 (nl _)) qdx) (pre_len (HM.out.trans (by rw [HMG.out]))); obtain ⟨fn, tmps, assign, body, hy, hR⟩ := hyy)
        refine hR.mono ?_; rintro e W3 (⟨rfl, hJ3, hk3⟩ | ⟨rfl, hJx3⟩)
        · gi_wp2
          gi_region
          all_goals gi_wp2
          have KK := ((KeepsToo.of hb1 hn0r hzB).trans hk3).trans (KeepsToo.drew n₀ Bs W3); have a8 := HJ0.out _ _ _ none hJ3 (zja (Below.refl W3.heap.size W3).drew (nl _)) qdx; go_roundw
          case rel => exact ⟨_, _, _, _, _, _, la, lb, pre ++ [(a, 2)], rfl, rfl, HRA.out.rest.below RefE.stays KK.1 (nl _), HRB.out.rest.below RefE.stays KK.1 (nl _), joinOn HM.out HMG.out, a8, HK.out.trans KK⟩
          case measure => simp [lenV]; omega
        · gi_wp2
          refine bodyPost_ret (results_none rfl _ _ _) rfl ?_; exact ⟨⟨_, rfl⟩, .inr ⟨_, joinPre HM.out HMG.out, hJx3⟩⟩
end Go.Proofs.YtogonjkklioaaaaGreatDoor

namespace Go.Proofs.YtogonjkklioaaaaGreatDoor
open Go.RowKit Go.Shelf
attribute [local go_sem] Oper.semAt_some zbg
theorem merged_stops (n : Nat) (hn : 1 ≤ n) (Bs Bo n₀ : Nat) (A B : Option Addr) (m c m' c' : Nat) (ra rb : List Rf) (w : World)
    (hs : Blk w Bs 92 #[.slice A m c, .func (.func 88) #[] #[]]) (ho : Blk w Bo 92 #[.slice B m' c', .func (.func 88) #[] #[]])
    (hn0 : n₀ ≤ w.heap.size) (hA : IsRefs w 0 n₀ A m c ra) (hB : IsRefs w 0 n₀ B m' c' rb) :
    SeqStopsK Fence.wide n Tryz.prog 120 #[.pointer (some ⟨Bs, 0, none⟩), .pointer (some ⟨Bo, 0, none⟩)] (fun x : Rf × Nat => #[.agg #[.string x.1.1, .slice x.1.2.1 x.1.2.2.1 x.1.2.2.2.1], .int .i64 ((x.2 : Nat) : Int)]) (KeepsToo n₀ Bs) (fun ys => ys = zba ra rb) (fun pre => pre <+: zba ra rb) (zba ra rb).length w := fun l J Jx W hW hJ _ hY h0 =>
  merged1_in n hn l Bs Bo n₀ A B m c m' c' ra rb J Jx W hJ hY ((hW.cell (p := ⟨Bs, 0, none⟩) hs.lt).trans (hs.cell 0)) ((hW.cell (p := ⟨Bs, 1, none⟩) hs.lt).trans (hs.cell 1)) ((hW.cell (p := ⟨Bo, 0, none⟩) ho.lt).trans (ho.cell 0)) (Nat.le_trans hn0 hW.size) (hA.below RefE.stays hW hn0) (hB.below RefE.stays hW hn0) h0
theorem merged_any (A B : Option Addr) (n c n' c' : Nat) (w : World) :
    Calls Tryz.prog 89 #[.agg #[.slice A n c, .func (.func 88) #[] #[]], .agg #[.slice B n' c', .func (.func 88) #[] #[]]] w fun e w' => e = .returned (.func (.func 120) #[] #[.pointer (some ⟨w.heap.size, 0, none⟩), .pointer (some ⟨w.heap.size + 1, 0, none⟩)]) ∧ w' = (w.alloc (.cells #[.slice A n c, .func (.func 88) #[] #[]] 92)).alloc (.cells #[.slice B n' c', .func (.func 88) #[] #[]] 92) := by
  go_enter Tryz.func89, Tryz.ntmps89; go_wp2; go_ret; exact ⟨rfl, rfl⟩
theorem KeepsToo.b {n₀ b : Nat} {w : World} (hn : n₀ ≤ w.heap.size) (hb : b < w.heap.size) (W : World) (l : Nat) (o o' : Obj) (hl : w.heap.size ≤ l) (h : W.heap[l]? = some o) (hc : o.isCells = false) (hw : o.isWalk = false) : KeepsToo n₀ b W (W.putObj l o') :=
  ⟨belowK_b hn W l o o' hl h hc hw, World.putObj_heap_other qaa⟩
theorem zfh (W : World) (p : Addr) (v : Value) : W.grownBy (W.setCell p v) (some p.block) :=
  ⟨rfl, rfl, rfl, (KeepsWalks.setCell W _ v).size, fun k _ hk => hs_ _ _ _ k (fun e => hk (by rw [e]))⟩
theorem znx {W : World} {base size k : Nat} {e : TypeId} {v : Value} {xs : List Value} (h : W.ownsRow base e size v k xs) {p : Addr} (hp : some p.block ≠ v.ownBlock) (u : Value) : (W.setCell p u).ownsRow base e size v k xs :=
  h.kept (zfh W p u) (.inr hp.symm)
theorem cells_two_new (W : World) (x y : Value) (t : TypeId) : ∀ j u, [x, y][j]? = some u → (W.alloc (.cells #[x, y] t)).cell? ((⟨W.heap.size, 0, none⟩ : Addr).add j) = some u := by
  intro j u hu
  match j, hu with
  | 0, hu => simp at hu; subst hu; simp [go_sem, Addr.add]
  | 1, hu => simp at hu; subst hu; simp [go_sem, Addr.add]
def ListPost (rs : List Rf) (w : World) (e : Ending) (w' : World) : Prop := ∃ A c, e = .returned (.agg #[.slice A rs.length c, .func (.func 88) #[] #[]]) ∧ IsRefs w' 0 w'.heap.size A rs.length c rs ∧ Below w.heap.size w w' ∧ (∀ p, A = some p → w.heap.size ≤ p.block)
theorem row_low {W : World} {base size n k c : Nat} {e : TypeId} {A : Option Addr} {xs : List Value} (h : W.ownsRow base e size (.slice A n c) k xs) : ∀ p, A = some p → base ≤ p.block := by
  intro p hp; subst hp; rcases h.2 with ⟨hv, _⟩ | ⟨g, cap, cur, hv, hb, _⟩
  · simp at hv
  · injection hv with e1
    injection e1 with e1; subst e1; exact hb
theorem refsUp {w W : World} {rs : List Rf} (h : RefsIn w 0 w.heap.size rs) (hb : Below w.heap.size w W) : RefsIn W 0 w.heap.size rs :=
  h.keep (fun _ _ hq => hb.cell hq) (nl _) (nl _)
theorem only_any (v : Nat) (A B : Option Addr) (n c n' c' : Nat) (ra rb : List Rf) (w : World) (h : IsRefs w 0 w.heap.size A n c ra) (h' : IsRefs w 0 w.heap.size B n' c' rb) (hmax : ra.length + rb.length ≤ 1099511627776) :
    Calls Tryz.prog 55 #[.agg #[.slice A n c, .func (.func 88) #[] #[]], .agg #[.slice B n' c', .func (.func 88) #[] #[]], .int .i64 ((v : Nat) : Int)] w (ListPost (zgp v (zba ra rb)) w) := by
  have HA := hid h; clear h; have HB := hid h'; clear h'; have hml := merge_len ra rb; have b7 := hid (merge_mem ra rb); obtain ⟨i0, hi, e8, g1, hz2⟩ := info_parts Tryz.infoAt
  have b9 := hid (show RefsIn w 0 w.heap.size (zgp v (zba ra rb)) from fun r hr => by
    obtain ⟨x, hx, rfl⟩ := selR_mem r hr; rcases b7.out x hx with h1 | h1
    · exact (RefsIn.of HA.out) _ h1
    · exact (RefsIn.of HB.out) _ h1)
  clear b7; refine (callsIn_wide (n := 5)).1 ?_; refine callsIn_of_wp_marks Tryz.func55 rfl trivial ?_ rfl; simp only [Tryz.ntmps55, List.size_toArray, List.length_cons, List.length_nil, Nat.reduceAdd, Nat.reduceSub, Array.replicate_succ, Array.replicate_zero, List.push_toArray, List.append_toArray, List.nil_append, List.cons_append]; gi_wp2_with (refine ⟨trivial, ?_⟩; gi_at_call 89; refine (callsIn_wide.2 (merged_any _ _ _ _ _ _ _)).mono ?_; rintro e w1 ⟨rfl, rfl⟩)
  obtain ⟨W0, a3⟩ : ∃ W0, (((((((w.alloc (.cells #[.slice A n c, .func (.func 88) #[] #[]] 92)).alloc (.cells #[.slice B n' c', .func (.func 88) #[] #[]] 92)).alloc (.cells #[.int .i64 ((v : Nat) : Int)] 95)).alloc (.cells #[.slice none 0 0, Value.nilFunc] 92)).alloc (.cells #[.slice none 0 0] 23)).alloc (.cells #[.slice A n c, .func (.func 88) #[] #[]] 92)).alloc (.cells #[.slice B n' c', .func (.func 88) #[] #[]] 92)) = W0 := ⟨_, rfl⟩
  have b0 : Blk W0 (w.heap.size) 92 #[.slice A n c, .func (.func 88) #[] #[]] := by rw [← a3]; exact (((((((Blk.made _ _ _ qag).alloc _).alloc _).alloc _).alloc _).alloc _).alloc _)
  have b2 : Blk W0 (w.heap.size + 1 + 1) 95 #[.int .i64 ((v : Nat) : Int)] := by rw [← a3]; exact (((((Blk.made _ _ _ qag).alloc _).alloc _).alloc _).alloc _)
  have b3 : Blk W0 (w.heap.size + 1 + 1 + 1) 92 #[.slice none 0 0, Value.nilFunc] := by rw [← a3]; exact ((((Blk.made _ _ _ qag).alloc _).alloc _).alloc _)
  have b4 : Blk W0 (w.heap.size + 1 + 1 + 1 + 1) 23 #[.slice none 0 0] := by rw [← a3]; exact (((Blk.made _ _ _ qag).alloc _).alloc _)
  have b5 : Blk W0 (w.heap.size + 1 + 1 + 1 + 1 + 1) 92 #[.slice A n c, .func (.func 88) #[] #[]] := by rw [← a3]; exact ((Blk.made _ _ _ qag).alloc _)
  have b6 : Blk W0 (w.heap.size + 1 + 1 + 1 + 1 + 1 + 1) 92 #[.slice B n' c', .func (.func 88) #[] #[]] := by rw [← a3]; exact (Blk.made _ _ _ qag)
  have a6 : Below w.heap.size w W0 := by rw [← a3]; exact ((((((((Below.refl _ w).alloc (nl _) _).alloc qda _).alloc qda _).alloc qda _).alloc qda _).alloc qda _).alloc qda _)
  have g2 : w.heap.size + 1 + 1 + 1 + 1 + 1 + 1 + 1 ≤ W0.heap.size := by rw [← a3]; simp only [zcj]; omega
  rw [a3]; clear a3
  refine wpIn_rangeFunc_ownH rfl qaa (gf := 120) (lb := #[.pointer (some ⟨w.heap.size + 1 + 1 + 1 + 1 + 1, 0, none⟩), .pointer (some ⟨w.heap.size + 1 + 1 + 1 + 1 + 1 + 1, 0, none⟩)]) rfl trivial (enters_of Tryz.func120 qab rfl)
    (merged_stops (5 - 1) qaa (w.heap.size + 1 + 1 + 1 + 1 + 1) (w.heap.size + 1 + 1 + 1 + 1 + 1 + 1) w.heap.size A B n c n' c' ra rb W0 b5 b6 qaa (HA.out.below RefE.stays a6 (nl _)) (HB.out.below RefE.stays a6 (nl _))) KeepsToo.trans (KeepsToo.b qaa b5.lt) (Below.refl _ _) (fun _ => rfl)
    (fun pre W => ((∃ u, Boxed W (w.heap.size + 1 + 1 + 1 + 1) 23 u ∧ W.ownsRow w.heap.size 51 2 u (zgp v pre).length (zai (zgp v pre)) ∧ True) ∧ (Blk W (w.heap.size) 92 #[.slice A n c, .func (.func 88) #[] #[]] ∧ Blk W (w.heap.size + 1 + 1) 95 #[.int .i64 ((v : Nat) : Int)] ∧ Blk W (w.heap.size + 1 + 1 + 1) 92 #[.slice none 0 0, Value.nilFunc] ∧ Blk W (w.heap.size + 1 + 1 + 1 + 1 + 1) 92 #[.slice A n c, .func (.func 88) #[] #[]])) ∧ Below w.heap.size w W)
    (fun _ _ _ => False)
    (OwnFrom.and (OwnFrom.and (Own.from (holdsRow_own w.heap.size (w.heap.size + 1 + 1 + 1 + 1) 23 51 2 (fun pre => (zgp v pre).length) (fun pre => zai (zgp v pre)) (fun _ _ => True)) _) (OwnFrom.and (Own.from (Blk.own _ _ _) _) (OwnFrom.and (Own.from (Blk.own _ _ _) _) (OwnFrom.and (Own.from (Blk.own _ _ _) _) (Own.from (Blk.own _ _ _) _))))) (ownFrom_below (nl _) qaa))
    (fun _ _ _ _ _ hs _ _ => hs)
    ⟨⟨⟨_, b4, ⟨rfl, .inl ⟨rfl, rfl⟩⟩, trivial⟩, b0, b2, b3, b5⟩, a6⟩
    (fun x a' W => ∃ Bx, w.heap.size + 1 + 1 + 1 + 1 < Bx ∧ Blk W Bx 51 #[.string x.1.1, .slice x.1.2.1 x.1.2.2.1 x.1.2.2.2.1] ∧ a' = { tmps := #[.agg #[.slice A n c, .func (.func 88) #[] #[]], .agg #[.slice B n' c', .func (.func 88) #[] #[]], .int .i64 ((v : Nat) : Int), .pointer (some ⟨w.heap.size, 0, none⟩), .pointer (some ⟨w.heap.size + 1, 0, none⟩), .pointer (some ⟨w.heap.size + 1 + 1, 0, none⟩), .pointer (some ⟨w.heap.size + 1 + 1 + 1, 0, none⟩), .pointer (some ⟨w.heap.size + 1 + 1 + 1 + 1, 0, none⟩), .pointer (some ⟨Bx, 0, none⟩), .int .i64 ((x.2 : Nat) : Int), .agg #[.slice A n c, .func (.func 88) #[] #[]], .agg #[.slice B n' c', .func (.func 88) #[] #[]], .func (.func 120) #[] #[.pointer (some ⟨w.heap.size + 1 + 1 + 1 + 1 + 1, 0, none⟩), .pointer (some ⟨w.heap.size + 1 + 1 + 1 + 1 + 1 + 1, 0, none⟩)], .agg #[.string x.1.1, .slice x.1.2.1 x.1.2.2.1 x.1.2.2.2.1], .int .i64 ((x.2 : Nat) : Int), undef, undef, undef, undef, undef, undef, undef, undef, undef, undef, undef], defers := [] })
    (fun _ a' _ X Y row hs hg hr => by obtain ⟨Bx, h1, h2, h3⟩ := hs; exact ⟨Bx, h1, Blk.own (β := Unit) Bx _ _ () X Y row h2 hg (fun r e => (hr r e).2), h3⟩)
    ?assign ?body ?done ?stop
  case assign =>
    rintro l pre x W K ⟨⟨⟨u, bU, a2, -⟩, b0, b2, b3, b5⟩, hB⟩ hK; gi_wp2; have hs := hB.size; have g0 := b5.lt; exact hK _ _ ((KeepsOthers.alloc _ _).from _) ⟨(Below.refl _ W).alloc hs _, Below.heap_alloc W _ _ g0⟩ ⟨⟨⟨u, bU.alloc _, a2.alloc _, trivial⟩, b0.alloc _, b2.alloc _, b3.alloc _, b5.alloc _⟩, hB.alloc hs _⟩ ⟨W.heap.size, bU.lt, Blk.new W _ _, rfl⟩
  case body =>
    rintro l pre x a' W hl - ⟨⟨⟨u, bU, a2, -⟩, b0, b2, b3, b5⟩, hB⟩ ⟨Bx, hBx, bX, rfl⟩ hlt; have hs := hB.size; have cU := bU.cell; have c2 : W.cell? ⟨w.heap.size + 1 + 1, 0, none⟩ = some (.int .i64 ((v : Nat) : Int)) := b2.cell 0; have cX0 : W.cell? ⟨Bx, 0, none⟩ = some (.string x.1.1) := bX.cell 0; have cX1 : W.cell? ⟨Bx, 1, none⟩ = some (.slice x.1.2.1 x.1.2.2.1 x.1.2.2.2.1) := bX.cell 1; have hlen := selR_len v pre; by_cases hx : x.2 = v
    · have hq : (((x.2 : Nat) : Int) == ((v : Nat) : Int)) = true := by simp [hx]
      gi_wp2_with (gi_at_builtin; refine wpListIn_append_own _ rfl _ _ 23 rfl w.heap.size 51 i0 _ 2 40 Tryz.underlying23 hi e8 g1 hz2 rfl qan _ _ _ rfl (a2.alloc _) ⟨W.heap.size, 0, none⟩ 1 1 [.string x.1.1, .slice x.1.2.1 x.1.2.2.1 x.1.2.2.2.1] rfl rfl (cells_two_new _ _ _ _) qal qaf qaa qah ?_; intro u' w1 hown' hgrow _; obtain ⟨g', cap', rfl⟩ := ownsRow_succ hown'; have a7 := Boxed.appended bU qan a2 hs qaa hown' hgrow; have cO := a7.1.cell; have fO := a7.1.frozen); obtain ⟨_, hA2, hA3, e7, c7⟩ := a7; have t0 := b0.through qan a2 hgrow (B := w.heap.size + 1 + 1 + 1 + 1) qaa (.slice (some ⟨g', 0, none⟩) ((zgp v pre).length + 1) cap')
      have t2 := b2.through qan a2 hgrow (B := w.heap.size + 1 + 1 + 1 + 1) qaa (.slice (some ⟨g', 0, none⟩) ((zgp v pre).length + 1) cap'); have t3 := b3.through qan a2 hgrow (B := w.heap.size + 1 + 1 + 1 + 1) qaa (.slice (some ⟨g', 0, none⟩) ((zgp v pre).length + 1) cap'); have t5 := b5.through qan a2 hgrow (B := w.heap.size + 1 + 1 + 1 + 1) qaa (.slice (some ⟨g', 0, none⟩) ((zgp v pre).length + 1) cap'); exact ⟨e7.from _, ⟨c7, b5.same t5⟩, ⟨⟨_, hA2, by rw [selR_yes hx, zcv, List.length_append]; exact hA3, trivial⟩, t0, t2, t3, t5⟩, hB.trans c7⟩
    · have hq : (((x.2 : Nat) : Int) == ((v : Nat) : Int)) = false := qbp
      gi_wp2; exact ⟨KeepsFrom.refl _ _, KeepsToo.refl _ _ _, ⟨⟨u, bU, by rw [selR_no hx]; exact a2, trivial⟩, b0, b2, b3, b5⟩, hB⟩
  case done =>
    rintro D ys W hD rfl ⟨⟨⟨u, bU, a2, -⟩, b0, b2, b3, b5⟩, hB⟩ hK; have hs := hB.size; obtain ⟨Au, cu, rfl, -⟩ := zej a2 rfl (Nat.zero_le _) (refsUp b9.out hB) hs; have cU := bU.cell; have c0 : W.cell? ⟨w.heap.size, 1, none⟩ = some (.func (.func 88) #[] #[]) := b0.cell 1; have c3 : W.cell? ⟨w.heap.size + 1 + 1 + 1, 0, none⟩ = some (.slice none 0 0) := b3.cell 0; have c3b : W.cell? ⟨w.heap.size + 1 + 1 + 1, 1, none⟩ = some Value.nilFunc := b3.cell 1; have f3 := b3.frozen 0; have f3b := b3.frozen 1; have d7 := b3.not_row (e := 51) qan a2
    gi_wp2; have a4 : ((W.setCell ⟨w.heap.size + 1 + 1 + 1, 0, none⟩ (.slice Au (zgp v (zba ra rb)).length cu)).setCell ⟨w.heap.size + 1 + 1 + 1, 1, none⟩ (.func (.func 88) #[] #[])).heap[D]? = some (.deferred (some [])) := (KeepsOthers.setCell _ _ _).same D _ ((KeepsOthers.setCell W _ _).same D _ hK rfl) rfl; have e6 : Blk ((W.setCell ⟨w.heap.size + 1 + 1 + 1, 0, none⟩ (.slice Au (zgp v (zba ra rb)).length cu)).setCell ⟨w.heap.size + 1 + 1 + 1, 1, none⟩ (.func (.func 88) #[] #[])) (w.heap.size + 1 + 1 + 1) 92 #[(.slice Au (zgp v (zba ra rb)).length cu), .func (.func 88) #[] #[]] := (b3.set 0 _).set 1 _
    have d9 : Below w.heap.size w ((W.setCell ⟨w.heap.size + 1 + 1 + 1, 0, none⟩ (.slice Au (zgp v (zba ra rb)).length cu)).setCell ⟨w.heap.size + 1 + 1 + 1, 1, none⟩ (.func (.func 88) #[] #[])) := (hB.setCell (by simp only; omega) _).setCell (by simp only; omega) _; have a5 := znx (znx a2 (p := ⟨w.heap.size + 1 + 1 + 1, 0, none⟩) d7 (.slice Au (zgp v (zba ra rb)).length cu)) (p := ⟨w.heap.size + 1 + 1 + 1, 1, none⟩) d7 (.func (.func 88) #[] #[]); obtain ⟨W2, a9⟩ : ∃ W2, ((W.setCell ⟨w.heap.size + 1 + 1 + 1, 0, none⟩ (.slice Au (zgp v (zba ra rb)).length cu)).setCell ⟨w.heap.size + 1 + 1 + 1, 1, none⟩ (.func (.func 88) #[] #[])) = W2 := ⟨_, rfl⟩
    rw [a9] at a4 e6 d9 a5 ⊢; clear a9; have a8 := d9.trans (belowK_b (w := w) (nl _) W2 D _ (.deferred none) qaa a4 rfl rfl); have d4 := e6.putObj (.deferred none) a4 rfl; have d0 : (W2.putObj D (.deferred none)).cell? ⟨w.heap.size + 1 + 1 + 1, 0, none⟩ = some (.slice Au (zgp v (zba ra rb)).length cu) := d4.cell 0; have d1 : (W2.putObj D (.deferred none)).cell? ⟨w.heap.size + 1 + 1 + 1, 1, none⟩ = some (.func (.func 88) #[] #[]) := d4.cell 1; obtain ⟨A3, c3, e3, g5⟩ := zej (ownsRow_putObj a5 (.deferred none) a4 rfl) rfl (Nat.zero_le _) (refsUp b9.out a8) a8.size
    injection e3 with e3 _ e4; subst e3; subst e4; refine ⟨by simp, .inl ⟨_, _, rfl, run_takeDeferred a4, ?_⟩⟩; refine ⟨.agg #[(.slice Au (zgp v (zba ra rb)).length cu), .func (.func 88) #[] #[]], ?_, Au, cu, rfl, g5, a8, row_low a5⟩; simp [results, Tryz.f55, go_sem, d0, d1]
  case stop =>
    rintro D c pre W hD g6 hF; exact hF.elim
end Go.Proofs.YtogonjkklioaaaaGreatDoor

namespace Go.Proofs.YtogonjkklioaaaaGreatDoor
open Go.RowKit
theorem only_is (v : Nat) (z : Int) (hz : ((v : Nat) : Int) = z) (A B : Option Addr) (n c n' c' : Nat) (ra rb : List Rf) (w : World) (h : IsRefs w 0 w.heap.size A n c ra) (h' : IsRefs w 0 w.heap.size B n' c' rb) (hmax : ra.length + rb.length ≤ 1099511627776) :
    Calls Tryz.prog 55 #[.agg #[.slice A n c, .func (.func 88) #[] #[]], .agg #[.slice B n' c', .func (.func 88) #[] #[]], .int .i64 z] w (ListPost (zgp v (zba ra rb)) w) := by
  subst hz; exact only_any v A B n c n' c' ra rb w h h' hmax
theorem zph (A : Option Addr) (n c : Nat) (W : World) : (Instr.field 92 (.agg #[.slice A n c, .func (.func 88) #[] #[]]) 0).run Tryz.prog W = .ok (.slice A n c) W := by kernel_rfl
def zao (xs ys : List At) : Bool := (zag 300 xs && zag 300 ys) && zio xs ys
theorem zps {xs ys : List At} (h : (!zag 300 xs) = true) : zao xs ys = false := by
  unfold zao; rw [show zag 300 xs = false by simpa using h]; rfl
theorem zpr {xs ys : List At} (h : (!zag 300 ys) = true) : zao xs ys = false := by
  unfold zao; rw [show zag 300 ys = false by simpa using h, Bool.and_false]; rfl
theorem changeB_is {xs ys : List At} (h : (!zag 300 xs) = false) (h' : (!zag 300 ys) = false) : zao xs ys = zio xs ys := by
  unfold zao; rw [show zag 300 xs = true by simpa using h, show zag 300 ys = true by simpa using h']; rfl
theorem zee (A B : Option Addr) (n c n' c' : Nat) (xs ys : List At) (w : World) (h : IsAtoms w 0 w.heap.size A n c xs) (h' : IsAtoms w 0 w.heap.size B n' c' ys) :
    Calls Tryz.prog 26 #[.agg #[.slice A n c, .slice B n' c']] w (zas (zao xs ys) w) := by
  have H := hid h; have H' := hid h'; clear h h'; have a9 := zac w (.cells #[.slice A n c, .slice B n' c'] 25); have X1 := hid (Box.new w (.slice A n c) (.slice B n' c') 25); go_enter Tryz.func26, Tryz.ntmps26; go_wp2_with fail; refine (zhg A n c xs _ (H.out.up AtomE.stays a9)).mono ?_; rintro e w2 ⟨rfl, hb2⟩; have HB2 := zaa a9 hb2; have X2 := hid (X1.out.later hb2); clear X1; obtain ⟨b0, b1, b2⟩ := X2.out; by_cases hx : (!zag 300 xs) = true
  · have E := hid (zps (ys := ys) hx)
    go_wp2; go_ret; exact ⟨zdb E.out.symm, HB2⟩
  · have a6 : (!zag 300 xs) = false := by simpa using hx
    clear hx; go_wp2_with fail; refine (zhg B n' c' ys _ (H'.out.up AtomE.stays HB2)).mono ?_; rintro e w3 ⟨rfl, hb3⟩; have HB3 := zaa HB2 hb3; have X3 := hid (X2.out.later hb3); clear X2 b0 b1 b2; obtain ⟨b0, b1, b2⟩ := X3.out; by_cases hy : (!zag 300 ys) = true
    · have E := hid (zpr (xs := xs) hy)
      go_wp2; go_ret; exact ⟨zdb E.out.symm, HB3⟩
    · have a7 : (!zag 300 ys) = false := qeo
      clear hy; have b3 := zat (show zag 300 xs = true by simpa using a6); have a8 := zat (show zag 300 ys = true by simpa using a7); have b4 := zaw (show zag 300 xs = true by simpa using a6); have b5 := zaw (show zag 300 ys = true by simpa using a7); obtain ⟨ra, R1, ea⟩ := zks H.out; obtain ⟨rb, R2, eb⟩ := zks H'.out
      have hmax : ra.length + rb.length ≤ 1099511627776 := by
        have h1 : ra.length = xs.length := by rw [← ea]; simp
        have h2 : rb.length = ys.length := by rw [← eb]; simp
        omega
      have a4 := both_none (ra := ra) (rb := rb) (by rw [ea]; exact b3) (by rw [eb]; exact a8); rw [ea, eb, ← changeB_is a6 a7] at a4; have R1 := hid R1; have R2 := hid R2; clear b3 a8 b4 b5 ea eb; have a5 := HB3.drew; have x1 : w3.drew.cell? ⟨w.heap.size, 0, none⟩ = some (.slice A n c) := b1; have x2 : w3.drew.cell? ⟨w.heap.size, 1, none⟩ = some (.slice B n' c') := b2; have hz3 : w.heap.size < w3.drew.heap.size := b0; obtain ⟨k, hk⟩ : ∃ k, (zgp 2 (zba ra rb)).length = k := ⟨_, rfl⟩; rw [hk] at a4; have HK := hid hk; clear hk; by_cases hk0 : k = 0
      · subst hk0
        have E := hid (show zao xs ys = true by rw [← a4]; rfl); clear a4; go_wp2_with fail; refine wp_region_held_drew (S := fun W => W.cell? ⟨w.heap.size, 0, none⟩ = some (.slice A n c) ∧ W.cell? ⟨w.heap.size, 1, none⟩ = some (.slice B n' c')) qab ⟨x1, x2⟩ ?_; intro hS_; refine tk 0 (.pointer (some ⟨w.heap.size, 0, none⟩)) hS_ ?_; refine tk 1 (.slice A n c) hS_ ?_; refine tk 3 (.pointer (some ⟨w.heap.size, 1, none⟩)) hS_ ?_; refine tk 4 (.slice B n' c') hS_ ?_; refine rd1 2 fun K_ hK_ => ?_; go_simp; go_at_call 54; refine (zdz A n c _).mono ?_; rintro e w4 ⟨rfl, hb4⟩
        have y1 := (hb4.cell (p := ⟨w.heap.size, 0, none⟩) (hz3)).trans x1; have y2 := (hb4.cell (p := ⟨w.heap.size, 1, none⟩) (hz3)).trans x2; have a3 := Nat.lt_of_lt_of_le hz3 hb4.size; have HB4 := zaa a5 hb4; refine hK_.out _ _ ⟨y1, y2⟩ (fun hS2_ => ?_); clear hK_ hS_; have hS_ := hS2_; clear hS2_; refine rd1 5 fun K_ hK_ => ?_; go_simp; go_at_call 54; refine (zdz B n' c' _).mono ?_; rintro e w5 ⟨rfl, hb5⟩; have z1 := (hb5.cell (p := ⟨w.heap.size, 0, none⟩) (a3)).trans y1; have z2 := (hb5.cell (p := ⟨w.heap.size, 1, none⟩) (a3)).trans y2; have hz5 := Nat.lt_of_lt_of_le a3 hb5.size
        have HB5 := zaa HB4 hb5; refine hK_.out _ _ ⟨z1, z2⟩ (fun hS2_ => ?_); clear hK_ hS_; have hS_ := hS2_; clear hS2_; refine rd1 6 fun K_ hK_ => ?_; go_simp; go_at_call 55; refine (only_is 2 2 rfl A B n c n' c' ra rb _ (R1.out.up RefE.stays HB5) (R2.out.up RefE.stays HB5) hmax).mono ?_; rintro e w6 ⟨A6, c6, rfl, _, a2, _⟩; rw [HK.out]; have u1 := (a2.cell (p := ⟨w.heap.size, 0, none⟩) (hz5)).trans z1; have u2 := (a2.cell (p := ⟨w.heap.size, 1, none⟩) (hz5)).trans z2; have HB6 := zaa HB5 a2; refine hK_.out _ _ ⟨u1, u2⟩ (fun hS2_ => ?_)
        clear hK_ hS_; have hS_ := hS2_; clear hS2_; refine tk 7 (.slice A6 0 c6) hS_ ?_ (hy := Or.inl ⟨by rfl, by intro w_ hSw_; (try dsimp only at hSw_); go_simp; rw [zph]; rfl⟩); refine tk 8 (.int .i64 ((0 : Nat) : Int)) hS_ ?_; refine tk 9 (.bool true) hS_ ?_; refine tk 10 (.bool true) hS_ ?_; refine wpAnyH_done qab ?_ _; go_wp2; go_ret; exact ⟨zdb E.out.symm, HB6⟩
      · have E := hid (show zao xs ys = false by rw [← a4]; exact decide_eq_false hk0)
        clear a4; have hki : (((k : Nat) : Int) == 0) = false := qbp; go_wp2_with fail; refine wp_region_held_drew (S := fun W => W.cell? ⟨w.heap.size, 0, none⟩ = some (.slice A n c) ∧ W.cell? ⟨w.heap.size, 1, none⟩ = some (.slice B n' c')) qab ⟨x1, x2⟩ ?_; intro hS_; refine tk 0 (.pointer (some ⟨w.heap.size, 0, none⟩)) hS_ ?_; refine tk 1 (.slice A n c) hS_ ?_; refine tk 3 (.pointer (some ⟨w.heap.size, 1, none⟩)) hS_ ?_; refine tk 4 (.slice B n' c') hS_ ?_; refine rd1 2 fun K_ hK_ => ?_; go_simp; go_at_call 54; refine (zdz A n c _).mono ?_; rintro e w4 ⟨rfl, hb4⟩
        have y1 := (hb4.cell (p := ⟨w.heap.size, 0, none⟩) (hz3)).trans x1; have y2 := (hb4.cell (p := ⟨w.heap.size, 1, none⟩) (hz3)).trans x2; have a3 := Nat.lt_of_lt_of_le hz3 hb4.size; have HB4 := zaa a5 hb4; refine hK_.out _ _ ⟨y1, y2⟩ (fun hS2_ => ?_); clear hK_ hS_; have hS_ := hS2_; clear hS2_; refine rd1 5 fun K_ hK_ => ?_; go_simp; go_at_call 54; refine (zdz B n' c' _).mono ?_; rintro e w5 ⟨rfl, hb5⟩; have z1 := (hb5.cell (p := ⟨w.heap.size, 0, none⟩) (a3)).trans y1; have z2 := (hb5.cell (p := ⟨w.heap.size, 1, none⟩) (a3)).trans y2; have hz5 := Nat.lt_of_lt_of_le a3 hb5.size
        have HB5 := zaa HB4 hb5; refine hK_.out _ _ ⟨z1, z2⟩ (fun hS2_ => ?_); clear hK_ hS_; have hS_ := hS2_; clear hS2_; refine rd1 6 fun K_ hK_ => ?_; go_simp; go_at_call 55; refine (only_is 2 2 rfl A B n c n' c' ra rb _ (R1.out.up RefE.stays HB5) (R2.out.up RefE.stays HB5) hmax).mono ?_; rintro e w6 ⟨A6, c6, rfl, _, a2, _⟩; rw [HK.out]; have u1 := (a2.cell (p := ⟨w.heap.size, 0, none⟩) (hz5)).trans z1; have u2 := (a2.cell (p := ⟨w.heap.size, 1, none⟩) (hz5)).trans z2; have HB6 := zaa HB5 a2; refine hK_.out _ _ ⟨u1, u2⟩ (fun hS2_ => ?_)
        clear hK_ hS_; have hS_ := hS2_; clear hS2_; refine tk 7 (.slice A6 k c6) hS_ ?_ (hy := Or.inl ⟨by rfl, by intro w_ hSw_; (try dsimp only at hSw_); go_simp; rw [zph]; rfl⟩); refine tk 8 (.int .i64 ((k : Nat) : Int)) hS_ ?_; refine tk 9 (.bool false) hS_ ?_; refine tk 10 (.bool false) hS_ ?_; refine wpAnyH_done qab ?_ _; go_wp2; go_ret; exact ⟨zdb E.out.symm, HB6⟩
theorem apart_snoc {xs ys : List At} {k : Nat} {q : At} (h : xs[k]? = some q) (hr : zio (xs.take k) ys = true) (hq : zbq ys q = false) : zio (xs.take (k + 1)) ys = true :=
  zkh (P := fun a => !zbq ys a) h hr (by simp [hq])
theorem apart_no {xs ys : List At} {k : Nat} {q : At} (h : xs[k]? = some q) (hq : zbq ys q = true) : zio xs ys = false :=
  allB_no (P := fun a => !zbq ys a) h (by simp [hq])
theorem apart_end {xs ys : List At} {k n : Nat} (hl : xs.length = n) (hk : ¬ k < n) (hr : zio (xs.take k) ys = true) : zio xs ys = true := by
  rwa [List.take_of_length_le qaa] at hr
theorem zec (A B : Option Addr) (n c n' c' : Nat) (xs ys : List At) (w : World) (h : IsAtoms w 0 w.heap.size A n c xs) (h' : IsAtoms w 0 w.heap.size B n' c' ys) :
    Calls Tryz.prog 11 #[.agg #[.slice A n c, .slice B n' c']] w (zas (zao xs ys) w) := by
  have hn := h.len; unfold maxLen at hn; have H := hid h; have H' := hid h'; clear h h'; have a2 := zac w (.cells #[.slice A n c, .slice B n' c'] 25); have X1 := hid (Box.new w (.slice A n c) (.slice B n' c') 25); go_enter Tryz.func11, Tryz.ntmps11; go_wp2_with fail; refine (zde A n c xs _ (H.out.up AtomE.stays a2)).mono ?_; rintro e w2 ⟨rfl, hb2⟩; have HB2 := zaa a2 hb2; have X2 := hid (X1.out.later hb2); clear X1; obtain ⟨b0, b1, b2⟩ := X2.out
  by_cases hx : (!zag 300 xs) = true
  · have E := hid (zps (ys := ys) hx)
    go_wp2; go_ret; exact ⟨zdb E.out.symm, HB2⟩
  · have a5 : (!zag 300 xs) = false := by simpa using hx
    clear hx; go_wp2_with fail; refine (zde B n' c' ys _ (H'.out.up AtomE.stays HB2)).mono ?_; rintro e w3 ⟨rfl, hb3⟩; have HB3 := zaa HB2 hb3; have X3 := hid (X2.out.later hb3); clear X2 b0 b1 b2; obtain ⟨b0, b1, b2⟩ := X3.out; by_cases hy : (!zag 300 ys) = true
    · have E := hid (zpr (xs := xs) hy)
      go_wp2; go_ret; exact ⟨zdb E.out.symm, HB3⟩
    · have a4 : (!zag 300 ys) = false := qeo
      clear hy; have a3 := hid (zat (show zag 300 ys = true by simpa using a4)); have E := hid (changeB_is a5 a4); clear hb2 hb3 a2 HB2; go_wp2; clear b0 b1 b2; go_loopw [3] (fun i wr => ∃ k : Nat, k ≤ n ∧ i = .int .i64 k ∧ zio (xs.take k) ys = true ∧ Below w3.heap.size w3 wr) (fun i _ => n - (intOf i).toNat)
      case atStart => exact ⟨0, Nat.zero_le _, rfl, rfl, Below.refl _ _⟩
      case round =>
        obtain ⟨k, hk, rfl, hd, hb⟩ := hrel; have HD := hid hd; clear hd; have HB := zaa HB3 hb; obtain ⟨b0, b1, b2⟩ := X3.out.later hb; by_cases hlt : k < n
        · obtain ⟨p, q, hA, hlo, hhi, hg, hE⟩ := (H.out.below AtomE.stays HB (nl _)).at_ hlt
          obtain ⟨A', m', d', d1, d3, d4, d5⟩ := hE.out; clear hE; subst hA; have HG := hid hg; clear hg; have hpz : p.block < wr.heap.size := Nat.lt_of_lt_of_le hhi HB.size; have hbd := hb.drew; have x1 : wr.drew.cell? ⟨w.heap.size, 0, none⟩ = some (.slice (some p) n c) := b1; have x2 : wr.drew.cell? ⟨w.heap.size, 1, none⟩ = some (.slice B n' c') := b2; have x3 : wr.drew.cell? (p.add (k * 2)) = some (.string q.1) := d1; have x4 : wr.drew.cell? ⟨(p.add (k * 2)).block, (p.add (k * 2)).off + 1, none⟩ = some (.slice A' m' d') := d4; have HT := hid (d5.keep (w' := wr.drew) (lo' := 0) (hi' := wr.drew.heap.size) (fun _ _ _ => rfl) (nl _) HB.size); clear d5
          have HU := hid (show IsAtoms wr.drew 0 wr.drew.heap.size B n' c' ys from H'.out.up AtomE.stays HB.drew); clear d1 d4; cases hh : zbq ys q
          · have HH := hid hh; clear hh
            go_wp2; refine wp_region_held_drew (S := fun W => (W.cell? ⟨w.heap.size, 0, none⟩ = some (.slice (some p) n c) ∧ W.cell? ⟨w.heap.size, 1, none⟩ = some (.slice B n' c')) ∧ W.cell? (p.add (k * 2)) = some (.string q.1) ∧ W.cell? ⟨(p.add (k * 2)).block, (p.add (k * 2)).off + 1, none⟩ = some (.slice A' m' d')) qab ⟨⟨x1, x2⟩, x3, x4⟩ ?_; intro hS_; refine tk 0 (.pointer (some ⟨w.heap.size, 1, none⟩)) hS_ ?_; refine tk 1 (.slice B n' c') hS_ ?_; refine tk 2 (.pointer (some ⟨w.heap.size, 0, none⟩)) hS_ ?_; refine tk 3 (.slice (some p) n c) hS_ ?_; refine tk 4 (.int .i64 (k : Int)) hS_ ?_; refine tk 5 (.pointer (some (p.add (k * 2)))) hS_ ?_
            refine tk 6 (.agg #[.string q.1, .slice A' m' d']) hS_ ?_; refine rd1 7 fun K_ hK_ => ?_; go_simp; go_at_call 35; refine (zcr B n' c' ys q.1 A' m' d' q.2 _ HU.out HT.out a3.out).mono ?_; rintro e w4 ⟨rfl, hb4⟩; have y1 := (hb4.cell (p := ⟨w.heap.size, 0, none⟩) b0).trans b1; have y2 := (hb4.cell (p := ⟨w.heap.size, 1, none⟩) b0).trans b2; have y3 := (hb4.cell (p := p.add (k * 2)) qbm).trans x3; have y4 := (hb4.cell (p := ⟨(p.add (k * 2)).block, (p.add (k * 2)).off + 1, none⟩) qbm).trans x4; rw [HH.out]; refine hK_.out _ _ ⟨⟨y1, y2⟩, y3, y4⟩ (fun hS2_ => ?_); clear hK_ hS_
            have hS_ := hS2_; clear hS2_; refine wpAnyH_done qab ?_ _; go_wp2; go_roundw
            case rel => exact ⟨k + 1, by omega, by go_num, apart_snoc HG.out HD.out HH.out, zaa hbd hb4⟩
            case measure => exact qms
          · have HH := hid hh; clear hh
            go_wp2; refine wp_region_held_drew (S := fun W => (W.cell? ⟨w.heap.size, 0, none⟩ = some (.slice (some p) n c) ∧ W.cell? ⟨w.heap.size, 1, none⟩ = some (.slice B n' c')) ∧ W.cell? (p.add (k * 2)) = some (.string q.1) ∧ W.cell? ⟨(p.add (k * 2)).block, (p.add (k * 2)).off + 1, none⟩ = some (.slice A' m' d')) qab ⟨⟨x1, x2⟩, x3, x4⟩ ?_; intro hS_; refine tk 0 (.pointer (some ⟨w.heap.size, 1, none⟩)) hS_ ?_; refine tk 1 (.slice B n' c') hS_ ?_; refine tk 2 (.pointer (some ⟨w.heap.size, 0, none⟩)) hS_ ?_; refine tk 3 (.slice (some p) n c) hS_ ?_; refine tk 4 (.int .i64 (k : Int)) hS_ ?_; refine tk 5 (.pointer (some (p.add (k * 2)))) hS_ ?_
            refine tk 6 (.agg #[.string q.1, .slice A' m' d']) hS_ ?_; refine rd1 7 fun K_ hK_ => ?_; go_simp; go_at_call 35; refine (zcr B n' c' ys q.1 A' m' d' q.2 _ HU.out HT.out a3.out).mono ?_; rintro e w4 ⟨rfl, hb4⟩; have y1 := (hb4.cell (p := ⟨w.heap.size, 0, none⟩) b0).trans b1; have y2 := (hb4.cell (p := ⟨w.heap.size, 1, none⟩) b0).trans b2; have y3 := (hb4.cell (p := p.add (k * 2)) qbm).trans x3; have y4 := (hb4.cell (p := ⟨(p.add (k * 2)).block, (p.add (k * 2)).off + 1, none⟩) qbm).trans x4; rw [HH.out]; refine hK_.out _ _ ⟨⟨y1, y2⟩, y3, y4⟩ (fun hS2_ => ?_); clear hK_ hS_
            have hS_ := hS2_; clear hS2_; refine wpAnyH_done qab ?_ _; go_wp2; go_ret; exact ⟨zdb (by rw [E.out, apart_no HG.out HH.out]), zaa HB3 (zaa hbd hb4)⟩
        · go_wp2
          go_ret; exact ⟨zdb (by rw [E.out, apart_end H.out.1 hlt HD.out]), HB⟩
end Go.Proofs.YtogonjkklioaaaaGreatDoor
