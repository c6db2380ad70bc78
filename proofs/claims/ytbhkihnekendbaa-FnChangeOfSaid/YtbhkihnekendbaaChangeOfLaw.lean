/-
  The law of ChangeOf: its walk. (Written by tools/oflaw.py.)
-/
import Derived.Test.YtbhkihnekendbaaLawKit2
import Derived.Test.YtbhkihnekendbaaDrawPairs
import Derived.Deep.RegionHeld3
namespace Go.Proofs.Ytbhkihnekendbaa
open Go.RowKit

set_option maxRecDepth 100000 in
set_option maxHeartbeats 8000000 in
theorem changeOfLaw_any (A : Option Addr) (n c : Nat) (w : World) (h : IsBytes w w.heap.size A n c) :
    Calls Try.prog 5 #[.slice A n c] w (BoolPost true w) := by
  have hn : n ≤ maxLen := by have := h.1; have := h.2.1; omega
  unfold maxLen at hn
  have H := Lib.hid h; clear h
  go_enter Try.func5, Try.ntmps5
  go_wp2_with fail
  all_goals try (go_ret; exact ⟨rfl, Below.refl _ _⟩)
  refine (drawChangeOf_any A n c w H.out).mono ?_; rintro e w1 ⟨L, k, d, xs, M, m, d', ys, ⟨rfl, hk, hm⟩, hI, hJ, hb1⟩
  have HI1 := Lib.hid hI; have HJ1 := Lib.hid hJ; have HW1 := Lib.hid hb1
  obtain ⟨P, Q, hp⟩ : ∃ P Q, ofL xs ys = (P, Q) := ⟨_, _, rfl⟩
  have HPQ := Lib.hid hp
  clear hI hJ hb1 hp
  go_wp2_with fail
  refine (ofI_from HI1.out HJ1.out HPQ.out (Below.refl _ _)).mono ?_; rintro e w2 ⟨X1, e1, X2, e2, rfl, hx1, hx2, hb2⟩
  have HP := below1 w2 (.cells #[.slice X1 P.length e1, .slice X2 Q.length e2] 38)
  have X0 := Box.new w2 (.slice X1 P.length e1) (.slice X2 Q.length e2) 38
  obtain ⟨w3, hw3⟩ : ∃ w3, w2.alloc (.cells #[.slice X1 P.length e1, .slice X2 Q.length e2] 38) = w3 := ⟨_, rfl⟩
  rw [hw3] at HP X0
  have hb3 := belowThen hb2 HP
  have HI := Lib.hid (HI1.out.up AtomE.stays hb3); have HJ := Lib.hid (HJ1.out.up AtomE.stays hb3); have HX1 := Lib.hid (hx1.up AtomE.stays HP); have HX2 := Lib.hid (hx2.up AtomE.stays HP); have XB := Lib.hid X0; have HW := Lib.hid (belowThen HW1.out hb3)
  clear HI1 HJ1 HW1 hx1 hx2 hb2 HP X0 hb3
  obtain ⟨F1, hF1⟩ : ∃ F, factsB 300 xs = F := ⟨_, rfl⟩
  obtain ⟨F2, hF2⟩ : ∃ F, factsB 300 ys = F := ⟨_, rfl⟩
  have HF1 := Lib.hid hF1; have HF2 := Lib.hid hF2; clear hF1 hF2
  have hB : Below w3.heap.size w3 w3 := Below.refl _ _
  have c0 := XB.out.in1 hB; have c1 := XB.out.in2 hB
  go_wp2_with fail
  by_cases hF : F1 = true ∧ F2 = true
  · obtain ⟨rfl, rfl⟩ := hF
    have hpp := HPQ.out
    rw [ofL_yes (by rw [HF1.out]; rfl) (by rw [HF2.out]; rfl)] at hpp
    injection hpp with hp1 hp2
    go_region_held3 (fun W => Below w3.heap.size w3 W ∧ W.cell? ⟨w2.heap.size, 0, none⟩ = some (.slice X1 P.length e1) ∧ W.cell? ⟨w2.heap.size, 1, none⟩ = some (.slice X2 Q.length e2)) (first | exact ⟨hB, c0, c1⟩ | exact ⟨hB.drew, c0, c1⟩) (first | (go_at_call 28; (with_reducible refine (ofS_from HI.out HJ.out HPQ.out (by first | exact hB | exact hB.drew | exact (Below.refl _ _).drew | exact Below.refl _ _)).mono ?_); rintro e W5 ⟨C1, g1, C2, g2, rfl, hz1, hz2, hB⟩; have c0 := XB.out.in1 hB; have c1 := XB.out.in2 hB) | (go_at_call 27; (with_reducible refine (changeNow_tells HX1.out HX2.out hz1 hz2 (by first | exact hB | exact hB.drew | exact (Below.refl _ _).drew | exact Below.refl _ _)).mono ?_); rintro e W5 ⟨rfl, hB⟩; have c0 := XB.out.in1 hB; have c1 := XB.out.in2 hB) | (go_at_call 19; (with_reducible refine (okS_tells HI.out HF1.out (by first | exact hB | exact hB.drew | exact (Below.refl _ _).drew | exact Below.refl _ _)).mono ?_); rintro e W5 ⟨rfl, hB⟩; have c0 := XB.out.in1 hB; have c1 := XB.out.in2 hB) | (go_at_call 19; (with_reducible refine (okS_tells HJ.out HF2.out (by first | exact hB | exact hB.drew | exact (Below.refl _ _).drew | exact Below.refl _ _)).mono ?_); rintro e W5 ⟨rfl, hB⟩; have c0 := XB.out.in1 hB; have c1 := XB.out.in2 hB))
    clear hz1 hz2
    have hB0 := Lib.hid hB; have q0 := Lib.hid c0; have q1 := Lib.hid c1
    clear hB c0 c1
    have hB := hB0.out; have c0 := q0.out; have c1 := q1.out
    clear HPQ
    subst hp1; subst hp2
    go_wp2_with fail
    go_loopw [6] (fun i wr => ∃ j : Nat, j ≤ k ∧ i = .int .i64 (j : Int) ∧ Below w3.heap.size w3 wr) (fun i _ => k - (intOf i).toNat)
    case atStart => exact ⟨0, Nat.zero_le _, rfl, by first | exact hB | exact hB.drew⟩
    case round =>
      obtain ⟨j, hj, rfl, hb⟩ := hrel
      clear hB hB0 c0 c1 q0 q1
      have hB := hb
      have HB := Lib.hid hb; clear hb
      by_cases hlt : j < k
      · have hlt2 : (j : Int) < (k : Int) := by omega
        obtain ⟨p, q, hA, -, hhi, hg, hE⟩ := HI.out.at_ hlt
        obtain ⟨C, m5, d5, r1, r3, r4, r5⟩ := hE.out
        clear hE
        subst hA
        have hmem : q ∈ xs := List.mem_of_getElem? hg
        obtain ⟨o1, o2⟩ := of_each HF1.out HF2.out hmem
        have O1 := Lib.hid o1; have HQ5 := Lib.hid r5; clear o1 r5 hmem hg
        have blk : (p.add (j * 2)).block < w3.heap.size := by rw [block_add]; exact hhi
        have c0 := XB.out.in1 hB; have c1 := XB.out.in2 hB; have c2 := (hB.cell (p := p.add (j * 2)) blk).trans r1; have c3 := (hB.cell (p := ⟨(p.add (j * 2)).block, (p.add (j * 2)).off + 1, none⟩) blk).trans r4
        cases hbq : hasE ys q
        all_goals
          rw [hbq] at o2
          simp only [Bool.not_false, Bool.not_true] at o2
          have O2 := Lib.hid o2; have O3 := Lib.hid hbq
          clear o2 hbq
          go_wp2_with fail
          go_region_held3 (fun W => Below w3.heap.size w3 W ∧ W.cell? ⟨w2.heap.size, 0, none⟩ = some (.slice X1 (lessL ys xs).length e1) ∧ W.cell? ⟨w2.heap.size, 1, none⟩ = some (.slice X2 (lessL xs ys).length e2) ∧ W.cell? (p.add (j * 2)) = some (.string q.1) ∧ W.cell? ⟨(p.add (j * 2)).block, (p.add (j * 2)).off + 1, none⟩ = some (.slice C m5 d5)) (first | exact ⟨hB, c0, c1, c2, c3⟩ | exact ⟨hB.drew, c0, c1, c2, c3⟩) (first | (go_at_call 29; (with_reducible refine (hasE_tells HX1.out HQ5.out O1.out (by first | exact hB | exact hB.drew | exact (Below.refl _ _).drew | exact Below.refl _ _)).mono ?_); rintro e W5 ⟨rfl, hB⟩; have c0 := XB.out.in1 hB; have c1 := XB.out.in2 hB; have c2 := (hB.cell (p := p.add (j * 2)) blk).trans r1; have c3 := (hB.cell (p := ⟨(p.add (j * 2)).block, (p.add (j * 2)).off + 1, none⟩) blk).trans r4) | (go_at_call 29; (with_reducible refine (hasE_tells HX2.out HQ5.out O2.out (by first | exact hB | exact hB.drew | exact (Below.refl _ _).drew | exact Below.refl _ _)).mono ?_); rintro e W5 ⟨rfl, hB⟩; have c0 := XB.out.in1 hB; have c1 := XB.out.in2 hB; have c2 := (hB.cell (p := p.add (j * 2)) blk).trans r1; have c3 := (hB.cell (p := ⟨(p.add (j * 2)).block, (p.add (j * 2)).off + 1, none⟩) blk).trans r4) | (go_at_call 29; (with_reducible refine (hasE_tells HJ.out HQ5.out O3.out (by first | exact hB | exact hB.drew | exact (Below.refl _ _).drew | exact Below.refl _ _)).mono ?_); rintro e W5 ⟨rfl, hB⟩; have c0 := XB.out.in1 hB; have c1 := XB.out.in2 hB; have c2 := (hB.cell (p := p.add (j * 2)) blk).trans r1; have c3 := (hB.cell (p := ⟨(p.add (j * 2)).block, (p.add (j * 2)).off + 1, none⟩) blk).trans r4))
          have hB0 := Lib.hid hB; have q0 := Lib.hid c0; have q1 := Lib.hid c1; have q2 := Lib.hid c2; have q3 := Lib.hid c3
          clear hB c0 c1 c2 c3
          have hB := hB0.out; have c0 := q0.out; have c1 := q1.out; have c2 := q2.out; have c3 := q3.out
          go_wp2
          go_roundw
          case rel => exact ⟨j + 1, by omega, by go_num, hB⟩
          case measure => simp [intOf]; omega
      · have hge : ¬ (j : Int) < (k : Int) := by omega
        have hself : ofL xs xs = ([], []) := by rw [ofL_yes (by rw [HF1.out]; rfl) (by rw [HF1.out]; rfl), less_self HF1.out]
        have HS := Lib.hid hself; clear hself
        go_wp2_with fail
        refine (ofI_from HI.out HI.out HS.out HB.out).mono ?_; rintro e w7 ⟨N1, f1, N2, f2, rfl, hn1, hn2, hb7⟩
        have HP := below1 w7 (.cells #[.slice N1 0 f1, .slice N2 0 f2] 38)
        have Y0 := Box.new w7 (.slice N1 0 f1) (.slice N2 0 f2) 38
        obtain ⟨w8, hw8⟩ : ∃ w8, w7.alloc (.cells #[.slice N1 0 f1, .slice N2 0 f2] 38) = w8 := ⟨_, rfl⟩
        rw [hw8] at HP Y0
        have hb8 := belowThen hb7 HP
        have HI8 := Lib.hid (HI.out.up AtomE.stays hb8); have HJ8 := Lib.hid (HJ.out.up AtomE.stays hb8); have HX18 := Lib.hid (HX1.out.up AtomE.stays hb8); have HX28 := Lib.hid (HX2.out.up AtomE.stays hb8); have XB8 := Lib.hid (XB.out.later hb8); have YB8 := Lib.hid Y0; have HW8 := Lib.hid (belowThen HW.out hb8)
        clear hB hn1 hn2 hb7 HP Y0 hb8
        have hB : Below w8.heap.size w8 w8 := Below.refl _ _
        have c0 := XB8.out.in1 hB; have c1 := XB8.out.in2 hB; have c2 := YB8.out.in1 hB; have c3 := YB8.out.in2 hB
        have L1 := Lib.hid (of_change HF1.out HF2.out); have L2 := Lib.hid (congrArg Prod.fst (of_leads HF1.out HF2.out)); have L3 := Lib.hid (congrArg Prod.fst (of_leads HF2.out HF1.out))
        go_wp2_with (first | (go_at_call 30; (with_reducible refine (chI_tells HX18.out HX28.out L1.out (by first | exact hB | exact hB.drew | exact (Below.refl _ _).drew | exact Below.refl _ _)).mono ?_); rintro e W5 ⟨rfl, hB⟩; have c0 := XB8.out.in1 hB; have c1 := XB8.out.in2 hB; have c2 := YB8.out.in1 hB; have c3 := YB8.out.in2 hB) | (go_at_call 31; (with_reducible refine (doI_from HI8.out HX18.out HX28.out L2.out (by first | exact hB | exact hB.drew | exact (Below.refl _ _).drew | exact Below.refl _ _)).mono ?_); rintro e W5 ⟨Z, z, rfl, hz, hB⟩; have c0 := XB8.out.in1 hB; have c1 := XB8.out.in2 hB; have c2 := YB8.out.in1 hB; have c3 := YB8.out.in2 hB) | (go_at_call 31; (with_reducible refine (doI_from HJ8.out HX28.out HX18.out L3.out (by first | exact hB | exact hB.drew | exact (Below.refl _ _).drew | exact Below.refl _ _)).mono ?_); rintro e W5 ⟨Z, z, rfl, hz, hB⟩; have c0 := XB8.out.in1 hB; have c1 := XB8.out.in2 hB; have c2 := YB8.out.in1 hB; have c3 := YB8.out.in2 hB) | (go_at_call 17; (with_reducible refine (nowSame_tells HJ8.out hz (by first | exact hB | exact hB.drew | exact (Below.refl _ _).drew | exact Below.refl _ _)).mono ?_); rintro e W5 ⟨rfl, hB⟩; have c0 := XB8.out.in1 hB; have c1 := XB8.out.in2 hB; have c2 := YB8.out.in1 hB; have c3 := YB8.out.in2 hB) | (go_at_call 17; (with_reducible refine (nowSame_tells HI8.out hz (by first | exact hB | exact hB.drew | exact (Below.refl _ _).drew | exact Below.refl _ _)).mono ?_); rintro e W5 ⟨rfl, hB⟩; have c0 := XB8.out.in1 hB; have c1 := XB8.out.in2 hB; have c2 := YB8.out.in1 hB; have c3 := YB8.out.in2 hB))
        go_wp2
        go_ret; exact ⟨rfl, belowThen HW8.out hB⟩
  · skip
    cases F1
    · skip
      refine wp_region_held_drew (S := (fun W => Below w3.heap.size w3 W ∧ W.cell? ⟨w2.heap.size, 0, none⟩ = some (.slice X1 P.length e1) ∧ W.cell? ⟨w2.heap.size, 1, none⟩ = some (.slice X2 Q.length e2))) (by kernel_rfl) (by first | exact ⟨hB, c0, c1⟩ | exact ⟨hB.drew, c0, c1⟩) ?_
      have hB := hB.drew
      intro hS_
      refine takeV (i := 0) (v := .agg #[.slice X1 P.length e1, .slice X2 Q.length e2]) (by (simp only [List.getElem?_toArray, List.getElem?_cons_zero]); rfl) (by kernel_rfl) (by kernel_rfl) (by kernel_rfl) (by rfl) (fun _ _ _ h => h) (Or.inl ⟨by rfl, ?_⟩) hS_ (by (simp only [List.setIfInBounds_toArray, List.set_cons_succ, List.set_cons_zero]); rfl) ?_
      · intro w_ hSw_; (try dsimp only at hSw_); go_simp
      refine takeV (i := 1) (v := .slice L k d) (by (simp only [List.getElem?_toArray, List.getElem?_cons_succ, List.getElem?_cons_zero]); rfl) (by kernel_rfl) (by kernel_rfl) (by kernel_rfl) (by rfl) (fun _ _ _ h => h) (Or.inl ⟨by rfl, ?_⟩) hS_ (by (simp only [List.setIfInBounds_toArray, List.set_cons_succ, List.set_cons_zero]); rfl) ?_
      · intro w_ hSw_; (try dsimp only at hSw_); go_simp
      refine takeV (i := 2) (v := (.slice M m d')) (by (simp only [List.getElem?_toArray, List.getElem?_cons_succ, List.getElem?_cons_zero]); rfl) (by kernel_rfl) (by kernel_rfl) (by kernel_rfl) (by rfl) (fun _ _ _ h => h) (Or.inl ⟨by rfl, ?_⟩) hS_ (by (simp only [List.setIfInBounds_toArray, List.set_cons_succ, List.set_cons_zero]); rfl) ?_
      · intro w_ hSw_; (try dsimp only at hSw_); go_simp
      refine wpAnyH_ready (rs := [3]) (by kernel_rfl) (by simp) ?_
      refine AllReadyH.cons (o := _) (by (simp only [List.getElem?_toArray, List.getElem?_cons_succ, List.getElem?_cons_zero]); rfl) (fun K_ hK_ => ?_) AllReadyH.nil
      rw [if_pos (by rfl)]
      go_simp
      go_at_call 28
      refine (ofS_from HI.out HJ.out HPQ.out (by first | exact hB | exact hB.drew | exact (Below.refl _ _).drew | exact Below.refl _ _)).mono ?_; rintro e W5 ⟨C1, g1, C2, g2, rfl, hz1, hz2, hB⟩; have c0 := XB.out.in1 hB; have c1 := XB.out.in2 hB
      refine hK_.out _ _ ⟨hB, c0, c1⟩ (fun hS2_ => ?_)
      clear hK_ hS_; have hS_ := hS2_; clear hS2_
      (try simp only [Act.put, List.setIfInBounds_toArray, List.set_cons_zero, List.set_cons_succ])
      refine wpAnyH_ready (rs := [4]) (by kernel_rfl) (by simp) ?_
      refine AllReadyH.cons (o := _) (by (simp only [List.getElem?_toArray, List.getElem?_cons_succ, List.getElem?_cons_zero]); rfl) (fun K_ hK_ => ?_) AllReadyH.nil
      rw [if_pos (by rfl)]
      go_simp
      go_at_call 27
      refine (changeNow_tells HX1.out HX2.out hz1 hz2 (by first | exact hB | exact hB.drew | exact (Below.refl _ _).drew | exact Below.refl _ _)).mono ?_; rintro e W5 ⟨rfl, hB⟩; have c0 := XB.out.in1 hB; have c1 := XB.out.in2 hB
      refine hK_.out _ _ ⟨hB, c0, c1⟩ (fun hS2_ => ?_)
      clear hK_ hS_; have hS_ := hS2_; clear hS2_
      (try simp only [Act.put, List.setIfInBounds_toArray, List.set_cons_zero, List.set_cons_succ])
      refine takeV (i := 5) (v := .bool false) (by (simp only [List.getElem?_toArray, List.getElem?_cons_succ, List.getElem?_cons_zero]); rfl) (by kernel_rfl) (by kernel_rfl) (by kernel_rfl) (by rfl) (fun _ _ _ h => h) (Or.inl ⟨by rfl, ?_⟩) hS_ (by (simp only [List.setIfInBounds_toArray, List.set_cons_succ, List.set_cons_zero]); rfl) ?_
      · intro w_ hSw_; (try dsimp only at hSw_); go_simp
      refine takeV (i := 6) (v := .bool false) (by (simp only [List.getElem?_toArray, List.getElem?_cons_succ, List.getElem?_cons_zero]); rfl) (by kernel_rfl) (by kernel_rfl) (by kernel_rfl) (by rfl) (fun _ _ _ h => h) (Or.inl ⟨by rfl, ?_⟩) hS_ (by (simp only [List.setIfInBounds_toArray, List.set_cons_succ, List.set_cons_zero]); rfl) ?_
      · intro w_ hSw_; (try dsimp only at hSw_); go_simp
      refine takeV (i := 7) (v := .slice L k d) (by (simp only [List.getElem?_toArray, List.getElem?_cons_succ, List.getElem?_cons_zero]); rfl) (by kernel_rfl) (by kernel_rfl) (by kernel_rfl) (by rfl) (fun _ _ _ h => h) (Or.inl ⟨by rfl, ?_⟩) hS_ (by (simp only [List.setIfInBounds_toArray, List.set_cons_succ, List.set_cons_zero]); rfl) ?_
      · intro w_ hSw_; (try dsimp only at hSw_); go_simp
      refine wpAnyH_ready (rs := [8]) (by kernel_rfl) (by simp) ?_
      refine AllReadyH.cons (o := _) (by (simp only [List.getElem?_toArray, List.getElem?_cons_succ, List.getElem?_cons_zero]); rfl) (fun K_ hK_ => ?_) AllReadyH.nil
      rw [if_pos (by rfl)]
      go_simp
      go_at_call 19
      refine (okS_tells HI.out HF1.out (by first | exact hB | exact hB.drew | exact (Below.refl _ _).drew | exact Below.refl _ _)).mono ?_; rintro e W5 ⟨rfl, hB⟩; have c0 := XB.out.in1 hB; have c1 := XB.out.in2 hB
      refine hK_.out _ _ ⟨hB, c0, c1⟩ (fun hS2_ => ?_)
      clear hK_ hS_; have hS_ := hS2_; clear hS2_
      (try simp only [Act.put, List.setIfInBounds_toArray, List.set_cons_zero, List.set_cons_succ])
      refine takeV (i := 9) (v := .bool true) (by (simp only [List.getElem?_toArray, List.getElem?_cons_succ, List.getElem?_cons_zero]); rfl) (by kernel_rfl) (by kernel_rfl) (by kernel_rfl) (by rfl) (fun _ _ _ h => h) (Or.inl ⟨by rfl, ?_⟩) hS_ (by (simp only [List.setIfInBounds_toArray, List.set_cons_succ, List.set_cons_zero]); rfl) ?_
      · intro w_ hSw_; (try dsimp only at hSw_); go_simp
      refine takeV (i := 10) (v := .bool true) (by (simp only [List.getElem?_toArray, List.getElem?_cons_succ, List.getElem?_cons_zero]); rfl) (by kernel_rfl) (by kernel_rfl) (by kernel_rfl) (by rfl) (fun _ _ _ h => h) (Or.inl ⟨by rfl, ?_⟩) hS_ (by (simp only [List.setIfInBounds_toArray, List.set_cons_succ, List.set_cons_zero]); rfl) ?_
      · intro w_ hSw_; (try dsimp only at hSw_); go_simp
      refine takeV (i := 11) (v := .bool true) (by (simp only [List.getElem?_toArray, List.getElem?_cons_succ, List.getElem?_cons_zero]); rfl) (by kernel_rfl) (by kernel_rfl) (by kernel_rfl) (by rfl) (fun _ _ _ h => h) (Or.inl ⟨by rfl, ?_⟩) hS_ (by (simp only [List.setIfInBounds_toArray, List.set_cons_succ, List.set_cons_zero]); rfl) ?_
      · intro w_ hSw_; (try dsimp only at hSw_); go_simp
      refine takeV (i := 12) (v := undef) (by (simp only [List.getElem?_toArray, List.getElem?_cons_succ, List.getElem?_cons_zero]); rfl) (by kernel_rfl) (by kernel_rfl) (by kernel_rfl) (by rfl) (fun _ _ _ h => h) (Or.inr ⟨by rfl, rfl⟩) hS_ (by (simp only [List.setIfInBounds_toArray, List.set_cons_succ, List.set_cons_zero]); rfl) ?_
      refine takeV (i := 13) (v := undef) (by (simp only [List.getElem?_toArray, List.getElem?_cons_succ, List.getElem?_cons_zero]); rfl) (by kernel_rfl) (by kernel_rfl) (by kernel_rfl) (by rfl) (fun _ _ _ h => h) (Or.inr ⟨by rfl, rfl⟩) hS_ (by (simp only [List.setIfInBounds_toArray, List.set_cons_succ, List.set_cons_zero]); rfl) ?_
      refine takeV (i := 14) (v := undef) (by (simp only [List.getElem?_toArray, List.getElem?_cons_succ, List.getElem?_cons_zero]); rfl) (by kernel_rfl) (by kernel_rfl) (by kernel_rfl) (by rfl) (fun _ _ _ h => h) (Or.inr ⟨by rfl, rfl⟩) hS_ (by (simp only [List.setIfInBounds_toArray, List.set_cons_succ, List.set_cons_zero]); rfl) ?_
      refine takeV (i := 15) (v := .bool true) (by (simp only [List.getElem?_toArray, List.getElem?_cons_succ, List.getElem?_cons_zero]); rfl) (by kernel_rfl) (by kernel_rfl) (by kernel_rfl) (by rfl) (fun _ _ _ h => h) (Or.inl ⟨by rfl, ?_⟩) hS_ (by (simp only [List.setIfInBounds_toArray, List.set_cons_succ, List.set_cons_zero]); rfl) ?_
      · intro w_ hSw_; (try dsimp only at hSw_); go_simp
      refine wpAnyH_done (by kernel_rfl) ?_ _
      clear hz1 hz2
      have hB0 := Lib.hid hB; have q0 := Lib.hid c0; have q1 := Lib.hid c1
      clear hB c0 c1
      have hB := hB0.out; have c0 := q0.out; have c1 := q1.out
      go_wp2_with fail
      go_region_held3 (fun W => Below w3.heap.size w3 W ∧ W.cell? ⟨w2.heap.size, 0, none⟩ = some (.slice X1 P.length e1) ∧ W.cell? ⟨w2.heap.size, 1, none⟩ = some (.slice X2 Q.length e2)) (first | exact ⟨hB, c0, c1⟩ | exact ⟨hB.drew, c0, c1⟩) (first | (go_at_call 28; (with_reducible refine (ofS_from HI.out HJ.out HPQ.out (by first | exact hB | exact hB.drew | exact (Below.refl _ _).drew | exact Below.refl _ _)).mono ?_); rintro e W5 ⟨C1, g1, C2, g2, rfl, hz1, hz2, hB⟩; have c0 := XB.out.in1 hB; have c1 := XB.out.in2 hB) | (go_at_call 27; (with_reducible refine (changeNow_tells HX1.out HX2.out hz1 hz2 (by first | exact hB | exact hB.drew | exact (Below.refl _ _).drew | exact Below.refl _ _)).mono ?_); rintro e W5 ⟨rfl, hB⟩; have c0 := XB.out.in1 hB; have c1 := XB.out.in2 hB))
      go_wp2
      go_ret; exact ⟨rfl, belowThen HW.out hB⟩
    · cases F2
      · skip
        refine wp_region_held_drew (S := (fun W => Below w3.heap.size w3 W ∧ W.cell? ⟨w2.heap.size, 0, none⟩ = some (.slice X1 P.length e1) ∧ W.cell? ⟨w2.heap.size, 1, none⟩ = some (.slice X2 Q.length e2))) (by kernel_rfl) (by first | exact ⟨hB, c0, c1⟩ | exact ⟨hB.drew, c0, c1⟩) ?_
        have hB := hB.drew
        intro hS_
        refine takeV (i := 0) (v := .agg #[.slice X1 P.length e1, .slice X2 Q.length e2]) (by (simp only [List.getElem?_toArray, List.getElem?_cons_zero]); rfl) (by kernel_rfl) (by kernel_rfl) (by kernel_rfl) (by rfl) (fun _ _ _ h => h) (Or.inl ⟨by rfl, ?_⟩) hS_ (by (simp only [List.setIfInBounds_toArray, List.set_cons_succ, List.set_cons_zero]); rfl) ?_
        · intro w_ hSw_; (try dsimp only at hSw_); go_simp
        refine takeV (i := 1) (v := .slice L k d) (by (simp only [List.getElem?_toArray, List.getElem?_cons_succ, List.getElem?_cons_zero]); rfl) (by kernel_rfl) (by kernel_rfl) (by kernel_rfl) (by rfl) (fun _ _ _ h => h) (Or.inl ⟨by rfl, ?_⟩) hS_ (by (simp only [List.setIfInBounds_toArray, List.set_cons_succ, List.set_cons_zero]); rfl) ?_
        · intro w_ hSw_; (try dsimp only at hSw_); go_simp
        refine takeV (i := 2) (v := (.slice M m d')) (by (simp only [List.getElem?_toArray, List.getElem?_cons_succ, List.getElem?_cons_zero]); rfl) (by kernel_rfl) (by kernel_rfl) (by kernel_rfl) (by rfl) (fun _ _ _ h => h) (Or.inl ⟨by rfl, ?_⟩) hS_ (by (simp only [List.setIfInBounds_toArray, List.set_cons_succ, List.set_cons_zero]); rfl) ?_
        · intro w_ hSw_; (try dsimp only at hSw_); go_simp
        refine wpAnyH_ready (rs := [3]) (by kernel_rfl) (by simp) ?_
        refine AllReadyH.cons (o := _) (by (simp only [List.getElem?_toArray, List.getElem?_cons_succ, List.getElem?_cons_zero]); rfl) (fun K_ hK_ => ?_) AllReadyH.nil
        rw [if_pos (by rfl)]
        go_simp
        go_at_call 28
        refine (ofS_from HI.out HJ.out HPQ.out (by first | exact hB | exact hB.drew | exact (Below.refl _ _).drew | exact Below.refl _ _)).mono ?_; rintro e W5 ⟨C1, g1, C2, g2, rfl, hz1, hz2, hB⟩; have c0 := XB.out.in1 hB; have c1 := XB.out.in2 hB
        refine hK_.out _ _ ⟨hB, c0, c1⟩ (fun hS2_ => ?_)
        clear hK_ hS_; have hS_ := hS2_; clear hS2_
        (try simp only [Act.put, List.setIfInBounds_toArray, List.set_cons_zero, List.set_cons_succ])
        refine wpAnyH_ready (rs := [4]) (by kernel_rfl) (by simp) ?_
        refine AllReadyH.cons (o := _) (by (simp only [List.getElem?_toArray, List.getElem?_cons_succ, List.getElem?_cons_zero]); rfl) (fun K_ hK_ => ?_) AllReadyH.nil
        rw [if_pos (by rfl)]
        go_simp
        go_at_call 27
        refine (changeNow_tells HX1.out HX2.out hz1 hz2 (by first | exact hB | exact hB.drew | exact (Below.refl _ _).drew | exact Below.refl _ _)).mono ?_; rintro e W5 ⟨rfl, hB⟩; have c0 := XB.out.in1 hB; have c1 := XB.out.in2 hB
        refine hK_.out _ _ ⟨hB, c0, c1⟩ (fun hS2_ => ?_)
        clear hK_ hS_; have hS_ := hS2_; clear hS2_
        (try simp only [Act.put, List.setIfInBounds_toArray, List.set_cons_zero, List.set_cons_succ])
        refine takeV (i := 5) (v := .bool false) (by (simp only [List.getElem?_toArray, List.getElem?_cons_succ, List.getElem?_cons_zero]); rfl) (by kernel_rfl) (by kernel_rfl) (by kernel_rfl) (by rfl) (fun _ _ _ h => h) (Or.inl ⟨by rfl, ?_⟩) hS_ (by (simp only [List.setIfInBounds_toArray, List.set_cons_succ, List.set_cons_zero]); rfl) ?_
        · intro w_ hSw_; (try dsimp only at hSw_); go_simp
        refine takeV (i := 6) (v := .bool false) (by (simp only [List.getElem?_toArray, List.getElem?_cons_succ, List.getElem?_cons_zero]); rfl) (by kernel_rfl) (by kernel_rfl) (by kernel_rfl) (by rfl) (fun _ _ _ h => h) (Or.inl ⟨by rfl, ?_⟩) hS_ (by (simp only [List.setIfInBounds_toArray, List.set_cons_succ, List.set_cons_zero]); rfl) ?_
        · intro w_ hSw_; (try dsimp only at hSw_); go_simp
        refine takeV (i := 7) (v := .slice L k d) (by (simp only [List.getElem?_toArray, List.getElem?_cons_succ, List.getElem?_cons_zero]); rfl) (by kernel_rfl) (by kernel_rfl) (by kernel_rfl) (by rfl) (fun _ _ _ h => h) (Or.inl ⟨by rfl, ?_⟩) hS_ (by (simp only [List.setIfInBounds_toArray, List.set_cons_succ, List.set_cons_zero]); rfl) ?_
        · intro w_ hSw_; (try dsimp only at hSw_); go_simp
        refine wpAnyH_ready (rs := [8]) (by kernel_rfl) (by simp) ?_
        refine AllReadyH.cons (o := _) (by (simp only [List.getElem?_toArray, List.getElem?_cons_succ, List.getElem?_cons_zero]); rfl) (fun K_ hK_ => ?_) AllReadyH.nil
        rw [if_pos (by rfl)]
        go_simp
        go_at_call 19
        refine (okS_tells HI.out HF1.out (by first | exact hB | exact hB.drew | exact (Below.refl _ _).drew | exact Below.refl _ _)).mono ?_; rintro e W5 ⟨rfl, hB⟩; have c0 := XB.out.in1 hB; have c1 := XB.out.in2 hB
        refine hK_.out _ _ ⟨hB, c0, c1⟩ (fun hS2_ => ?_)
        clear hK_ hS_; have hS_ := hS2_; clear hS2_
        (try simp only [Act.put, List.setIfInBounds_toArray, List.set_cons_zero, List.set_cons_succ])
        refine takeV (i := 9) (v := .bool false) (by (simp only [List.getElem?_toArray, List.getElem?_cons_succ, List.getElem?_cons_zero]); rfl) (by kernel_rfl) (by kernel_rfl) (by kernel_rfl) (by rfl) (fun _ _ _ h => h) (Or.inl ⟨by rfl, ?_⟩) hS_ (by (simp only [List.setIfInBounds_toArray, List.set_cons_succ, List.set_cons_zero]); rfl) ?_
        · intro w_ hSw_; (try dsimp only at hSw_); go_simp
        refine takeV (i := 10) (v := .bool false) (by (simp only [List.getElem?_toArray, List.getElem?_cons_succ, List.getElem?_cons_zero]); rfl) (by kernel_rfl) (by kernel_rfl) (by kernel_rfl) (by rfl) (fun _ _ _ h => h) (Or.inl ⟨by rfl, ?_⟩) hS_ (by (simp only [List.setIfInBounds_toArray, List.set_cons_succ, List.set_cons_zero]); rfl) ?_
        · intro w_ hSw_; (try dsimp only at hSw_); go_simp
        refine takeV (i := 11) (v := .bool false) (by (simp only [List.getElem?_toArray, List.getElem?_cons_succ, List.getElem?_cons_zero]); rfl) (by kernel_rfl) (by kernel_rfl) (by kernel_rfl) (by rfl) (fun _ _ _ h => h) (Or.inl ⟨by rfl, ?_⟩) hS_ (by (simp only [List.setIfInBounds_toArray, List.set_cons_succ, List.set_cons_zero]); rfl) ?_
        · intro w_ hSw_; (try dsimp only at hSw_); go_simp
        refine takeV (i := 12) (v := (.slice M m d')) (by (simp only [List.getElem?_toArray, List.getElem?_cons_succ, List.getElem?_cons_zero]); rfl) (by kernel_rfl) (by kernel_rfl) (by kernel_rfl) (by rfl) (fun _ _ _ h => h) (Or.inl ⟨by rfl, ?_⟩) hS_ (by (simp only [List.setIfInBounds_toArray, List.set_cons_succ, List.set_cons_zero]); rfl) ?_
        · intro w_ hSw_; (try dsimp only at hSw_); go_simp
        refine wpAnyH_ready (rs := [13]) (by kernel_rfl) (by simp) ?_
        refine AllReadyH.cons (o := _) (by (simp only [List.getElem?_toArray, List.getElem?_cons_succ, List.getElem?_cons_zero]); rfl) (fun K_ hK_ => ?_) AllReadyH.nil
        rw [if_pos (by rfl)]
        go_simp
        go_at_call 19
        refine (okS_tells HJ.out HF2.out (by first | exact hB | exact hB.drew | exact (Below.refl _ _).drew | exact Below.refl _ _)).mono ?_; rintro e W5 ⟨rfl, hB⟩; have c0 := XB.out.in1 hB; have c1 := XB.out.in2 hB
        refine hK_.out _ _ ⟨hB, c0, c1⟩ (fun hS2_ => ?_)
        clear hK_ hS_; have hS_ := hS2_; clear hS2_
        (try simp only [Act.put, List.setIfInBounds_toArray, List.set_cons_zero, List.set_cons_succ])
        refine takeV (i := 14) (v := .bool true) (by (simp only [List.getElem?_toArray, List.getElem?_cons_succ, List.getElem?_cons_zero]); rfl) (by kernel_rfl) (by kernel_rfl) (by kernel_rfl) (by rfl) (fun _ _ _ h => h) (Or.inl ⟨by rfl, ?_⟩) hS_ (by (simp only [List.setIfInBounds_toArray, List.set_cons_succ, List.set_cons_zero]); rfl) ?_
        · intro w_ hSw_; (try dsimp only at hSw_); go_simp
        refine takeV (i := 15) (v := .bool true) (by (simp only [List.getElem?_toArray, List.getElem?_cons_succ, List.getElem?_cons_zero]); rfl) (by kernel_rfl) (by kernel_rfl) (by kernel_rfl) (by rfl) (fun _ _ _ h => h) (Or.inl ⟨by rfl, ?_⟩) hS_ (by (simp only [List.setIfInBounds_toArray, List.set_cons_succ, List.set_cons_zero]); rfl) ?_
        · intro w_ hSw_; (try dsimp only at hSw_); go_simp
        refine wpAnyH_done (by kernel_rfl) ?_ _
        clear hz1 hz2
        have hB0 := Lib.hid hB; have q0 := Lib.hid c0; have q1 := Lib.hid c1
        clear hB c0 c1
        have hB := hB0.out; have c0 := q0.out; have c1 := q1.out
        go_wp2_with fail
        go_region_held3 (fun W => Below w3.heap.size w3 W ∧ W.cell? ⟨w2.heap.size, 0, none⟩ = some (.slice X1 P.length e1) ∧ W.cell? ⟨w2.heap.size, 1, none⟩ = some (.slice X2 Q.length e2)) (first | exact ⟨hB, c0, c1⟩ | exact ⟨hB.drew, c0, c1⟩) (first | (go_at_call 28; (with_reducible refine (ofS_from HI.out HJ.out HPQ.out (by first | exact hB | exact hB.drew | exact (Below.refl _ _).drew | exact Below.refl _ _)).mono ?_); rintro e W5 ⟨C1, g1, C2, g2, rfl, hz1, hz2, hB⟩; have c0 := XB.out.in1 hB; have c1 := XB.out.in2 hB) | (go_at_call 27; (with_reducible refine (changeNow_tells HX1.out HX2.out hz1 hz2 (by first | exact hB | exact hB.drew | exact (Below.refl _ _).drew | exact Below.refl _ _)).mono ?_); rintro e W5 ⟨rfl, hB⟩; have c0 := XB.out.in1 hB; have c1 := XB.out.in2 hB))
        go_wp2
        go_ret; exact ⟨rfl, belowThen HW.out hB⟩
      · exact absurd ⟨rfl, rfl⟩ hF

end Go.Proofs.Ytbhkihnekendbaa
