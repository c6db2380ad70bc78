/-
  The law of ChangeDo: its walk. (Written by tools/dolaw.py.)
-/
import Derived.Test.YtbhkihnekendbaaLawKit2
import Derived.Test.YtbhkihnekendbaaDrawPairs
import Derived.Deep.RegionHeld3
namespace Go.Proofs.Ytbhkihnekendbaa
open Go.RowKit

set_option maxRecDepth 100000 in
set_option maxHeartbeats 8000000 in
theorem changeDoLaw_any (A : Option Addr) (n c : Nat) (w : World) (h : IsBytes w w.heap.size A n c) :
    Calls Try.prog 6 #[.slice A n c] w (BoolPost true w) := by
  have hn : n ≤ maxLen := by have := h.1; have := h.2.1; omega
  unfold maxLen at hn
  have H := Lib.hid h; clear h
  go_enter Try.func6, Try.ntmps6
  go_wp2_with fail
  all_goals try (go_ret; exact ⟨rfl, Below.refl _ _⟩)
  refine (drawChangeDo_any A n c w H.out).mono ?_; rintro e w1 ⟨L, k, d, xs, X1, m1, e1, cs, X2, m2, e2, gs, ⟨rfl, hk, hm1, hm2⟩, hI, hC, hG, hb1⟩
  have HP := below1 w1 (.cells #[.slice X1 m1 e1, .slice X2 m2 e2] 38)
  have X0 := Box.new w1 (.slice X1 m1 e1) (.slice X2 m2 e2) 38
  obtain ⟨w2, hw2⟩ : ∃ w2, w1.alloc (.cells #[.slice X1 m1 e1, .slice X2 m2 e2] 38) = w2 := ⟨_, rfl⟩
  rw [hw2] at HP X0
  have HI2 := Lib.hid (hI.up AtomE.stays HP); have HC2 := Lib.hid (hC.up AtomE.stays HP); have HG2 := Lib.hid (hG.up AtomE.stays HP); have XB2 := Lib.hid X0; have HW2 := Lib.hid (belowThen hb1 HP)
  clear hI hC hG hb1 HP X0
  obtain ⟨D, hD⟩ : ∃ D, (doneL xs cs gs).1 = D := ⟨_, rfl⟩
  have HD := Lib.hid hD; clear hD
  obtain ⟨_, z0, z1⟩ := XB2.out
  go_wp2_with fail
  refine (doI_from HI2.out HC2.out HG2.out HD.out (Below.refl _ _)).mono ?_; rintro e w3 ⟨Y, y, rfl, hy, hb⟩
  have HI := Lib.hid (HI2.out.up AtomE.stays hb); have HC := Lib.hid (HC2.out.up AtomE.stays hb); have HG := Lib.hid (HG2.out.up AtomE.stays hb); have XB := Lib.hid (XB2.out.later hb); have HW := Lib.hid (belowThen HW2.out hb); have HY := Lib.hid hy
  clear HI2 HC2 HG2 XB2 HW2 hy hb z0 z1 hw2
  obtain ⟨F1, hF1⟩ : ∃ F, factsB 300 xs = F := ⟨_, rfl⟩
  obtain ⟨F2, hF2⟩ : ∃ F, changeB cs gs = F := ⟨_, rfl⟩
  have HF1 := Lib.hid hF1; have HF2 := Lib.hid hF2; clear hF1 hF2
  have hxl := HI.out.1; have hcl := HC.out.1
  have hB : Below w3.heap.size w3 w3 := Below.refl _ _
  have c0 := XB.out.in1 hB; have c1 := XB.out.in2 hB
  go_wp2_with fail
  cases F1
  · cases F2
    all_goals
      refine wp_region_held_drew (S := (fun W => Below w3.heap.size w3 W ∧ W.cell? ⟨w1.heap.size, 0, none⟩ = some (.slice X1 m1 e1) ∧ W.cell? ⟨w1.heap.size, 1, none⟩ = some (.slice X2 m2 e2))) (by kernel_rfl) (by first | exact ⟨hB, c0, c1⟩ | exact ⟨hB.drew, c0, c1⟩) ?_
      have hB := hB.drew
      intro hS_
      refine takeV (i := 0) (v := .slice Y D.length y) (by (simp only [List.getElem?_toArray, List.getElem?_cons_zero]); rfl) (by kernel_rfl) (by kernel_rfl) (by kernel_rfl) (by rfl) (fun _ _ _ h => h) (Or.inl ⟨by rfl, ?_⟩) hS_ (by (simp only [List.setIfInBounds_toArray, List.set_cons_succ, List.set_cons_zero]); rfl) ?_
      · intro w_ hSw_; (try dsimp only at hSw_); go_simp
      refine takeV (i := 1) (v := .slice L k d) (by (simp only [List.getElem?_toArray, List.getElem?_cons_succ, List.getElem?_cons_zero]); rfl) (by kernel_rfl) (by kernel_rfl) (by kernel_rfl) (by rfl) (fun _ _ _ h => h) (Or.inl ⟨by rfl, ?_⟩) hS_ (by (simp only [List.setIfInBounds_toArray, List.set_cons_succ, List.set_cons_zero]); rfl) ?_
      · intro w_ hSw_; (try dsimp only at hSw_); go_simp
      refine takeV (i := 2) (v := .agg #[.slice X1 m1 e1, .slice X2 m2 e2]) (by (simp only [List.getElem?_toArray, List.getElem?_cons_succ, List.getElem?_cons_zero]); rfl) (by kernel_rfl) (by kernel_rfl) (by kernel_rfl) (by rfl) (fun _ _ _ h => h) (Or.inl ⟨by rfl, ?_⟩) hS_ (by (simp only [List.setIfInBounds_toArray, List.set_cons_succ, List.set_cons_zero]); rfl) ?_
      · intro w_ hSw_; (try dsimp only at hSw_); go_simp
      refine wpAnyH_ready (rs := [3]) (by kernel_rfl) (by simp) ?_
      refine AllReadyH.cons (o := _) (by (simp only [List.getElem?_toArray, List.getElem?_cons_succ, List.getElem?_cons_zero]); rfl) (fun K_ hK_ => ?_) AllReadyH.nil
      rw [if_pos (by rfl)]
      go_simp
      go_at_call 33
      refine (doS_from HI.out HC.out HG.out HD.out (by first | exact hB | exact hB.drew | exact (Below.refl _ _).drew | exact Below.refl _ _)).mono ?_; rintro e W5 ⟨Z, z, rfl, hz, hB⟩; have c0 := XB.out.in1 hB; have c1 := XB.out.in2 hB
      refine hK_.out _ _ ⟨hB, c0, c1⟩ (fun hS2_ => ?_)
      clear hK_ hS_; have hS_ := hS2_; clear hS2_
      (try simp only [Act.put, List.setIfInBounds_toArray, List.set_cons_zero, List.set_cons_succ])
      refine wpAnyH_ready (rs := [4]) (by kernel_rfl) (by simp) ?_
      refine AllReadyH.cons (o := _) (by (simp only [List.getElem?_toArray, List.getElem?_cons_succ, List.getElem?_cons_zero]); rfl) (fun K_ hK_ => ?_) AllReadyH.nil
      rw [if_pos (by rfl)]
      go_simp
      go_at_call 17
      refine (sameNow_tells HY.out hz (by first | exact hB | exact hB.drew | exact (Below.refl _ _).drew | exact Below.refl _ _)).mono ?_; rintro e W5 ⟨rfl, hB⟩; have c0 := XB.out.in1 hB; have c1 := XB.out.in2 hB
      refine hK_.out _ _ ⟨hB, c0, c1⟩ (fun hS2_ => ?_)
      clear hK_ hS_; have hS_ := hS2_; clear hS2_
      (try simp only [Act.put, List.setIfInBounds_toArray, List.set_cons_zero, List.set_cons_succ])
      refine takeV (i := 5) (v := .bool false) (by (simp only [List.getElem?_toArray, List.getElem?_cons_succ, List.getElem?_cons_zero]); rfl) (by kernel_rfl) (by kernel_rfl) (by kernel_rfl) (by rfl) (fun _ _ _ h => h) (Or.inl ⟨by rfl, ?_⟩) hS_ (by (simp only [List.setIfInBounds_toArray, List.set_cons_succ, List.set_cons_zero]); rfl) ?_
      · intro w_ hSw_; (try dsimp only at hSw_); go_simp
      refine takeV (i := 6) (v := .bool false) (by (simp only [List.getElem?_toArray, List.getElem?_cons_succ, List.getElem?_cons_zero]); rfl) (by kernel_rfl) (by kernel_rfl) (by kernel_rfl) (by rfl) (fun _ _ _ h => h) (Or.inl ⟨by rfl, ?_⟩) hS_ (by (simp only [List.setIfInBounds_toArray, List.set_cons_succ, List.set_cons_zero]); rfl) ?_
      · intro w_ hSw_; (try dsimp only at hSw_); go_simp
      refine takeV (i := 7) (v := .agg #[.slice X1 m1 e1, .slice X2 m2 e2]) (by (simp only [List.getElem?_toArray, List.getElem?_cons_succ, List.getElem?_cons_zero]); rfl) (by kernel_rfl) (by kernel_rfl) (by kernel_rfl) (by rfl) (fun _ _ _ h => h) (Or.inl ⟨by rfl, ?_⟩) hS_ (by (simp only [List.setIfInBounds_toArray, List.set_cons_succ, List.set_cons_zero]); rfl) ?_
      · intro w_ hSw_; (try dsimp only at hSw_); go_simp
      refine takeV (i := 9) (v := .agg #[.slice X1 m1 e1, .slice X2 m2 e2]) (by (simp only [List.getElem?_toArray, List.getElem?_cons_succ, List.getElem?_cons_zero]); rfl) (by kernel_rfl) (by kernel_rfl) (by kernel_rfl) (by rfl) (fun _ _ _ h => h) (Or.inl ⟨by rfl, ?_⟩) hS_ (by (simp only [List.setIfInBounds_toArray, List.set_cons_succ, List.set_cons_zero]); rfl) ?_
      · intro w_ hSw_; (try dsimp only at hSw_); go_simp
      refine wpAnyH_ready (rs := [8]) (by kernel_rfl) (by simp) ?_
      refine AllReadyH.cons (o := _) (by (simp only [List.getElem?_toArray, List.getElem?_cons_succ, List.getElem?_cons_zero]); rfl) (fun K_ hK_ => ?_) AllReadyH.nil
      rw [if_pos (by rfl)]
      go_simp
      go_at_call 30
      refine (chI_tells HC.out HG.out HF2.out (by first | exact hB | exact hB.drew | exact (Below.refl _ _).drew | exact Below.refl _ _)).mono ?_; rintro e W5 ⟨rfl, hB⟩; have c0 := XB.out.in1 hB; have c1 := XB.out.in2 hB
      refine hK_.out _ _ ⟨hB, c0, c1⟩ (fun hS2_ => ?_)
      clear hK_ hS_; have hS_ := hS2_; clear hS2_
      (try simp only [Act.put, List.setIfInBounds_toArray, List.set_cons_zero, List.set_cons_succ])
      refine wpAnyH_ready (rs := [10]) (by kernel_rfl) (by simp) ?_
      refine AllReadyH.cons (o := _) (by (simp only [List.getElem?_toArray, List.getElem?_cons_succ, List.getElem?_cons_zero]); rfl) (fun K_ hK_ => ?_) AllReadyH.nil
      rw [if_pos (by rfl)]
      go_simp
      go_at_call 34
      refine (chS_tells HC.out HG.out HF2.out (by first | exact hB | exact hB.drew | exact (Below.refl _ _).drew | exact Below.refl _ _)).mono ?_; rintro e W5 ⟨rfl, hB⟩; have c0 := XB.out.in1 hB; have c1 := XB.out.in2 hB
      refine hK_.out _ _ ⟨hB, c0, c1⟩ (fun hS2_ => ?_)
      clear hK_ hS_; have hS_ := hS2_; clear hS2_
      (try simp only [Act.put, List.setIfInBounds_toArray, List.set_cons_zero, List.set_cons_succ])
      refine takeV (i := 11) (v := .bool false) (by (simp only [List.getElem?_toArray, List.getElem?_cons_succ, List.getElem?_cons_zero]); rfl) (by kernel_rfl) (by kernel_rfl) (by kernel_rfl) (by rfl) (fun _ _ _ h => h) (Or.inl ⟨by rfl, ?_⟩) hS_ (by (simp only [List.setIfInBounds_toArray, List.set_cons_succ, List.set_cons_zero]); rfl) ?_
      · intro w_ hSw_; (try dsimp only at hSw_); go_simp
      refine takeV (i := 12) (v := .bool false) (by (simp only [List.getElem?_toArray, List.getElem?_cons_succ, List.getElem?_cons_zero]); rfl) (by kernel_rfl) (by kernel_rfl) (by kernel_rfl) (by rfl) (fun _ _ _ h => h) (Or.inl ⟨by rfl, ?_⟩) hS_ (by (simp only [List.setIfInBounds_toArray, List.set_cons_succ, List.set_cons_zero]); rfl) ?_
      · intro w_ hSw_; (try dsimp only at hSw_); go_simp
      refine takeV (i := 13) (v := .bool false) (by (simp only [List.getElem?_toArray, List.getElem?_cons_succ, List.getElem?_cons_zero]); rfl) (by kernel_rfl) (by kernel_rfl) (by kernel_rfl) (by rfl) (fun _ _ _ h => h) (Or.inl ⟨by rfl, ?_⟩) hS_ (by (simp only [List.setIfInBounds_toArray, List.set_cons_succ, List.set_cons_zero]); rfl) ?_
      · intro w_ hSw_; (try dsimp only at hSw_); go_simp
      refine takeV (i := 14) (v := .slice L k d) (by (simp only [List.getElem?_toArray, List.getElem?_cons_succ, List.getElem?_cons_zero]); rfl) (by kernel_rfl) (by kernel_rfl) (by kernel_rfl) (by rfl) (fun _ _ _ h => h) (Or.inl ⟨by rfl, ?_⟩) hS_ (by (simp only [List.setIfInBounds_toArray, List.set_cons_succ, List.set_cons_zero]); rfl) ?_
      · intro w_ hSw_; (try dsimp only at hSw_); go_simp
      refine wpAnyH_ready (rs := [15]) (by kernel_rfl) (by simp) ?_
      refine AllReadyH.cons (o := _) (by (simp only [List.getElem?_toArray, List.getElem?_cons_succ, List.getElem?_cons_zero]); rfl) (fun K_ hK_ => ?_) AllReadyH.nil
      rw [if_pos (by rfl)]
      go_simp
      go_at_call 19
      refine (okS_tells HI.out HF1.out (by first | exact hB | exact hB.drew | exact (Below.refl _ _).drew | exact Below.refl _ _)).mono ?_; rintro e W5 ⟨rfl, hB⟩; have c0 := XB.out.in1 hB; have c1 := XB.out.in2 hB
      refine hK_.out _ _ ⟨hB, c0, c1⟩ (fun hS2_ => ?_)
      clear hK_ hS_; have hS_ := hS2_; clear hS2_
      (try simp only [Act.put, List.setIfInBounds_toArray, List.set_cons_zero, List.set_cons_succ])
      refine takeV (i := 16) (v := .bool true) (by (simp only [List.getElem?_toArray, List.getElem?_cons_succ, List.getElem?_cons_zero]); rfl) (by kernel_rfl) (by kernel_rfl) (by kernel_rfl) (by rfl) (fun _ _ _ h => h) (Or.inl ⟨by rfl, ?_⟩) hS_ (by (simp only [List.setIfInBounds_toArray, List.set_cons_succ, List.set_cons_zero]); rfl) ?_
      · intro w_ hSw_; (try dsimp only at hSw_); go_simp
      refine takeV (i := 17) (v := .bool true) (by (simp only [List.getElem?_toArray, List.getElem?_cons_succ, List.getElem?_cons_zero]); rfl) (by kernel_rfl) (by kernel_rfl) (by kernel_rfl) (by rfl) (fun _ _ _ h => h) (Or.inl ⟨by rfl, ?_⟩) hS_ (by (simp only [List.setIfInBounds_toArray, List.set_cons_succ, List.set_cons_zero]); rfl) ?_
      · intro w_ hSw_; (try dsimp only at hSw_); go_simp
      refine takeV (i := 18) (v := .bool true) (by (simp only [List.getElem?_toArray, List.getElem?_cons_succ, List.getElem?_cons_zero]); rfl) (by kernel_rfl) (by kernel_rfl) (by kernel_rfl) (by rfl) (fun _ _ _ h => h) (Or.inl ⟨by rfl, ?_⟩) hS_ (by (simp only [List.setIfInBounds_toArray, List.set_cons_succ, List.set_cons_zero]); rfl) ?_
      · intro w_ hSw_; (try dsimp only at hSw_); go_simp
      refine takeV (i := 19) (v := undef) (by (simp only [List.getElem?_toArray, List.getElem?_cons_succ, List.getElem?_cons_zero]); rfl) (by kernel_rfl) (by kernel_rfl) (by kernel_rfl) (by rfl) (fun _ _ _ h => h) (Or.inr ⟨by rfl, rfl⟩) hS_ (by (simp only [List.setIfInBounds_toArray, List.set_cons_succ, List.set_cons_zero]); rfl) ?_
      refine takeV (i := 20) (v := undef) (by (simp only [List.getElem?_toArray, List.getElem?_cons_succ, List.getElem?_cons_zero]); rfl) (by kernel_rfl) (by kernel_rfl) (by kernel_rfl) (by rfl) (fun _ _ _ h => h) (Or.inr ⟨by rfl, rfl⟩) hS_ (by (simp only [List.setIfInBounds_toArray, List.set_cons_succ, List.set_cons_zero]); rfl) ?_
      refine takeV (i := 21) (v := undef) (by (simp only [List.getElem?_toArray, List.getElem?_cons_succ, List.getElem?_cons_zero]); rfl) (by kernel_rfl) (by kernel_rfl) (by kernel_rfl) (by rfl) (fun _ _ _ h => h) (Or.inr ⟨by rfl, rfl⟩) hS_ (by (simp only [List.setIfInBounds_toArray, List.set_cons_succ, List.set_cons_zero]); rfl) ?_
      refine takeV (i := 22) (v := .bool true) (by (simp only [List.getElem?_toArray, List.getElem?_cons_succ, List.getElem?_cons_zero]); rfl) (by kernel_rfl) (by kernel_rfl) (by kernel_rfl) (by rfl) (fun _ _ _ h => h) (Or.inl ⟨by rfl, ?_⟩) hS_ (by (simp only [List.setIfInBounds_toArray, List.set_cons_succ, List.set_cons_zero]); rfl) ?_
      · intro w_ hSw_; (try dsimp only at hSw_); go_simp
      refine wpAnyH_done (by kernel_rfl) ?_ _
      clear hz
      have hB0 := Lib.hid hB; have q0 := Lib.hid c0; have q1 := Lib.hid c1
      clear hB c0 c1
      have hB := hB0.out; have c0 := q0.out; have c1 := q1.out
      go_wp2_with fail
      go_region_held3 (fun W => Below w3.heap.size w3 W ∧ W.cell? ⟨w1.heap.size, 0, none⟩ = some (.slice X1 m1 e1) ∧ W.cell? ⟨w1.heap.size, 1, none⟩ = some (.slice X2 m2 e2)) (first | exact ⟨hB, c0, c1⟩ | exact ⟨hB.drew, c0, c1⟩) (first | (go_at_call 33; (with_reducible refine (doS_from HI.out HC.out HG.out HD.out (by first | exact hB | exact hB.drew | exact (Below.refl _ _).drew | exact Below.refl _ _)).mono ?_); rintro e W5 ⟨Z, z, rfl, hz, hB⟩; have c0 := XB.out.in1 hB; have c1 := XB.out.in2 hB) | (go_at_call 17; (with_reducible refine (sameNow_tells HY.out hz (by first | exact hB | exact hB.drew | exact (Below.refl _ _).drew | exact Below.refl _ _)).mono ?_); rintro e W5 ⟨rfl, hB⟩; have c0 := XB.out.in1 hB; have c1 := XB.out.in2 hB) | (go_at_call 30; (with_reducible refine (chI_tells HC.out HG.out HF2.out (by first | exact hB | exact hB.drew | exact (Below.refl _ _).drew | exact Below.refl _ _)).mono ?_); rintro e W5 ⟨rfl, hB⟩; have c0 := XB.out.in1 hB; have c1 := XB.out.in2 hB) | (go_at_call 34; (with_reducible refine (chS_tells HC.out HG.out HF2.out (by first | exact hB | exact hB.drew | exact (Below.refl _ _).drew | exact Below.refl _ _)).mono ?_); rintro e W5 ⟨rfl, hB⟩; have c0 := XB.out.in1 hB; have c1 := XB.out.in2 hB))
      go_wp2
      go_ret; exact ⟨rfl, belowThen HW.out hB⟩
  · cases F2
    · skip
      refine wp_region_held_drew (S := (fun W => Below w3.heap.size w3 W ∧ W.cell? ⟨w1.heap.size, 0, none⟩ = some (.slice X1 m1 e1) ∧ W.cell? ⟨w1.heap.size, 1, none⟩ = some (.slice X2 m2 e2))) (by kernel_rfl) (by first | exact ⟨hB, c0, c1⟩ | exact ⟨hB.drew, c0, c1⟩) ?_
      have hB := hB.drew
      intro hS_
      refine takeV (i := 0) (v := .slice Y D.length y) (by (simp only [List.getElem?_toArray, List.getElem?_cons_zero]); rfl) (by kernel_rfl) (by kernel_rfl) (by kernel_rfl) (by rfl) (fun _ _ _ h => h) (Or.inl ⟨by rfl, ?_⟩) hS_ (by (simp only [List.setIfInBounds_toArray, List.set_cons_succ, List.set_cons_zero]); rfl) ?_
      · intro w_ hSw_; (try dsimp only at hSw_); go_simp
      refine takeV (i := 1) (v := .slice L k d) (by (simp only [List.getElem?_toArray, List.getElem?_cons_succ, List.getElem?_cons_zero]); rfl) (by kernel_rfl) (by kernel_rfl) (by kernel_rfl) (by rfl) (fun _ _ _ h => h) (Or.inl ⟨by rfl, ?_⟩) hS_ (by (simp only [List.setIfInBounds_toArray, List.set_cons_succ, List.set_cons_zero]); rfl) ?_
      · intro w_ hSw_; (try dsimp only at hSw_); go_simp
      refine takeV (i := 2) (v := .agg #[.slice X1 m1 e1, .slice X2 m2 e2]) (by (simp only [List.getElem?_toArray, List.getElem?_cons_succ, List.getElem?_cons_zero]); rfl) (by kernel_rfl) (by kernel_rfl) (by kernel_rfl) (by rfl) (fun _ _ _ h => h) (Or.inl ⟨by rfl, ?_⟩) hS_ (by (simp only [List.setIfInBounds_toArray, List.set_cons_succ, List.set_cons_zero]); rfl) ?_
      · intro w_ hSw_; (try dsimp only at hSw_); go_simp
      refine wpAnyH_ready (rs := [3]) (by kernel_rfl) (by simp) ?_
      refine AllReadyH.cons (o := _) (by (simp only [List.getElem?_toArray, List.getElem?_cons_succ, List.getElem?_cons_zero]); rfl) (fun K_ hK_ => ?_) AllReadyH.nil
      rw [if_pos (by rfl)]
      go_simp
      go_at_call 33
      refine (doS_from HI.out HC.out HG.out HD.out (by first | exact hB | exact hB.drew | exact (Below.refl _ _).drew | exact Below.refl _ _)).mono ?_; rintro e W5 ⟨Z, z, rfl, hz, hB⟩; have c0 := XB.out.in1 hB; have c1 := XB.out.in2 hB
      refine hK_.out _ _ ⟨hB, c0, c1⟩ (fun hS2_ => ?_)
      clear hK_ hS_; have hS_ := hS2_; clear hS2_
      (try simp only [Act.put, List.setIfInBounds_toArray, List.set_cons_zero, List.set_cons_succ])
      refine wpAnyH_ready (rs := [4]) (by kernel_rfl) (by simp) ?_
      refine AllReadyH.cons (o := _) (by (simp only [List.getElem?_toArray, List.getElem?_cons_succ, List.getElem?_cons_zero]); rfl) (fun K_ hK_ => ?_) AllReadyH.nil
      rw [if_pos (by rfl)]
      go_simp
      go_at_call 17
      refine (sameNow_tells HY.out hz (by first | exact hB | exact hB.drew | exact (Below.refl _ _).drew | exact Below.refl _ _)).mono ?_; rintro e W5 ⟨rfl, hB⟩; have c0 := XB.out.in1 hB; have c1 := XB.out.in2 hB
      refine hK_.out _ _ ⟨hB, c0, c1⟩ (fun hS2_ => ?_)
      clear hK_ hS_; have hS_ := hS2_; clear hS2_
      (try simp only [Act.put, List.setIfInBounds_toArray, List.set_cons_zero, List.set_cons_succ])
      refine takeV (i := 5) (v := .bool false) (by (simp only [List.getElem?_toArray, List.getElem?_cons_succ, List.getElem?_cons_zero]); rfl) (by kernel_rfl) (by kernel_rfl) (by kernel_rfl) (by rfl) (fun _ _ _ h => h) (Or.inl ⟨by rfl, ?_⟩) hS_ (by (simp only [List.setIfInBounds_toArray, List.set_cons_succ, List.set_cons_zero]); rfl) ?_
      · intro w_ hSw_; (try dsimp only at hSw_); go_simp
      refine takeV (i := 6) (v := .bool false) (by (simp only [List.getElem?_toArray, List.getElem?_cons_succ, List.getElem?_cons_zero]); rfl) (by kernel_rfl) (by kernel_rfl) (by kernel_rfl) (by rfl) (fun _ _ _ h => h) (Or.inl ⟨by rfl, ?_⟩) hS_ (by (simp only [List.setIfInBounds_toArray, List.set_cons_succ, List.set_cons_zero]); rfl) ?_
      · intro w_ hSw_; (try dsimp only at hSw_); go_simp
      refine takeV (i := 7) (v := .agg #[.slice X1 m1 e1, .slice X2 m2 e2]) (by (simp only [List.getElem?_toArray, List.getElem?_cons_succ, List.getElem?_cons_zero]); rfl) (by kernel_rfl) (by kernel_rfl) (by kernel_rfl) (by rfl) (fun _ _ _ h => h) (Or.inl ⟨by rfl, ?_⟩) hS_ (by (simp only [List.setIfInBounds_toArray, List.set_cons_succ, List.set_cons_zero]); rfl) ?_
      · intro w_ hSw_; (try dsimp only at hSw_); go_simp
      refine takeV (i := 9) (v := .agg #[.slice X1 m1 e1, .slice X2 m2 e2]) (by (simp only [List.getElem?_toArray, List.getElem?_cons_succ, List.getElem?_cons_zero]); rfl) (by kernel_rfl) (by kernel_rfl) (by kernel_rfl) (by rfl) (fun _ _ _ h => h) (Or.inl ⟨by rfl, ?_⟩) hS_ (by (simp only [List.setIfInBounds_toArray, List.set_cons_succ, List.set_cons_zero]); rfl) ?_
      · intro w_ hSw_; (try dsimp only at hSw_); go_simp
      refine wpAnyH_ready (rs := [8]) (by kernel_rfl) (by simp) ?_
      refine AllReadyH.cons (o := _) (by (simp only [List.getElem?_toArray, List.getElem?_cons_succ, List.getElem?_cons_zero]); rfl) (fun K_ hK_ => ?_) AllReadyH.nil
      rw [if_pos (by rfl)]
      go_simp
      go_at_call 30
      refine (chI_tells HC.out HG.out HF2.out (by first | exact hB | exact hB.drew | exact (Below.refl _ _).drew | exact Below.refl _ _)).mono ?_; rintro e W5 ⟨rfl, hB⟩; have c0 := XB.out.in1 hB; have c1 := XB.out.in2 hB
      refine hK_.out _ _ ⟨hB, c0, c1⟩ (fun hS2_ => ?_)
      clear hK_ hS_; have hS_ := hS2_; clear hS2_
      (try simp only [Act.put, List.setIfInBounds_toArray, List.set_cons_zero, List.set_cons_succ])
      refine wpAnyH_ready (rs := [10]) (by kernel_rfl) (by simp) ?_
      refine AllReadyH.cons (o := _) (by (simp only [List.getElem?_toArray, List.getElem?_cons_succ, List.getElem?_cons_zero]); rfl) (fun K_ hK_ => ?_) AllReadyH.nil
      rw [if_pos (by rfl)]
      go_simp
      go_at_call 34
      refine (chS_tells HC.out HG.out HF2.out (by first | exact hB | exact hB.drew | exact (Below.refl _ _).drew | exact Below.refl _ _)).mono ?_; rintro e W5 ⟨rfl, hB⟩; have c0 := XB.out.in1 hB; have c1 := XB.out.in2 hB
      refine hK_.out _ _ ⟨hB, c0, c1⟩ (fun hS2_ => ?_)
      clear hK_ hS_; have hS_ := hS2_; clear hS2_
      (try simp only [Act.put, List.setIfInBounds_toArray, List.set_cons_zero, List.set_cons_succ])
      refine takeV (i := 11) (v := .bool false) (by (simp only [List.getElem?_toArray, List.getElem?_cons_succ, List.getElem?_cons_zero]); rfl) (by kernel_rfl) (by kernel_rfl) (by kernel_rfl) (by rfl) (fun _ _ _ h => h) (Or.inl ⟨by rfl, ?_⟩) hS_ (by (simp only [List.setIfInBounds_toArray, List.set_cons_succ, List.set_cons_zero]); rfl) ?_
      · intro w_ hSw_; (try dsimp only at hSw_); go_simp
      refine takeV (i := 12) (v := .bool false) (by (simp only [List.getElem?_toArray, List.getElem?_cons_succ, List.getElem?_cons_zero]); rfl) (by kernel_rfl) (by kernel_rfl) (by kernel_rfl) (by rfl) (fun _ _ _ h => h) (Or.inl ⟨by rfl, ?_⟩) hS_ (by (simp only [List.setIfInBounds_toArray, List.set_cons_succ, List.set_cons_zero]); rfl) ?_
      · intro w_ hSw_; (try dsimp only at hSw_); go_simp
      refine takeV (i := 13) (v := .bool false) (by (simp only [List.getElem?_toArray, List.getElem?_cons_succ, List.getElem?_cons_zero]); rfl) (by kernel_rfl) (by kernel_rfl) (by kernel_rfl) (by rfl) (fun _ _ _ h => h) (Or.inl ⟨by rfl, ?_⟩) hS_ (by (simp only [List.setIfInBounds_toArray, List.set_cons_succ, List.set_cons_zero]); rfl) ?_
      · intro w_ hSw_; (try dsimp only at hSw_); go_simp
      refine takeV (i := 14) (v := .slice L k d) (by (simp only [List.getElem?_toArray, List.getElem?_cons_succ, List.getElem?_cons_zero]); rfl) (by kernel_rfl) (by kernel_rfl) (by kernel_rfl) (by rfl) (fun _ _ _ h => h) (Or.inl ⟨by rfl, ?_⟩) hS_ (by (simp only [List.setIfInBounds_toArray, List.set_cons_succ, List.set_cons_zero]); rfl) ?_
      · intro w_ hSw_; (try dsimp only at hSw_); go_simp
      refine wpAnyH_ready (rs := [15]) (by kernel_rfl) (by simp) ?_
      refine AllReadyH.cons (o := _) (by (simp only [List.getElem?_toArray, List.getElem?_cons_succ, List.getElem?_cons_zero]); rfl) (fun K_ hK_ => ?_) AllReadyH.nil
      rw [if_pos (by rfl)]
      go_simp
      go_at_call 19
      refine (okS_tells HI.out HF1.out (by first | exact hB | exact hB.drew | exact (Below.refl _ _).drew | exact Below.refl _ _)).mono ?_; rintro e W5 ⟨rfl, hB⟩; have c0 := XB.out.in1 hB; have c1 := XB.out.in2 hB
      refine hK_.out _ _ ⟨hB, c0, c1⟩ (fun hS2_ => ?_)
      clear hK_ hS_; have hS_ := hS2_; clear hS2_
      (try simp only [Act.put, List.setIfInBounds_toArray, List.set_cons_zero, List.set_cons_succ])
      refine takeV (i := 16) (v := .bool false) (by (simp only [List.getElem?_toArray, List.getElem?_cons_succ, List.getElem?_cons_zero]); rfl) (by kernel_rfl) (by kernel_rfl) (by kernel_rfl) (by rfl) (fun _ _ _ h => h) (Or.inl ⟨by rfl, ?_⟩) hS_ (by (simp only [List.setIfInBounds_toArray, List.set_cons_succ, List.set_cons_zero]); rfl) ?_
      · intro w_ hSw_; (try dsimp only at hSw_); go_simp
      refine takeV (i := 17) (v := .bool false) (by (simp only [List.getElem?_toArray, List.getElem?_cons_succ, List.getElem?_cons_zero]); rfl) (by kernel_rfl) (by kernel_rfl) (by kernel_rfl) (by rfl) (fun _ _ _ h => h) (Or.inl ⟨by rfl, ?_⟩) hS_ (by (simp only [List.setIfInBounds_toArray, List.set_cons_succ, List.set_cons_zero]); rfl) ?_
      · intro w_ hSw_; (try dsimp only at hSw_); go_simp
      refine takeV (i := 18) (v := .bool false) (by (simp only [List.getElem?_toArray, List.getElem?_cons_succ, List.getElem?_cons_zero]); rfl) (by kernel_rfl) (by kernel_rfl) (by kernel_rfl) (by rfl) (fun _ _ _ h => h) (Or.inl ⟨by rfl, ?_⟩) hS_ (by (simp only [List.setIfInBounds_toArray, List.set_cons_succ, List.set_cons_zero]); rfl) ?_
      · intro w_ hSw_; (try dsimp only at hSw_); go_simp
      refine takeV (i := 19) (v := .agg #[.slice X1 m1 e1, .slice X2 m2 e2]) (by (simp only [List.getElem?_toArray, List.getElem?_cons_succ, List.getElem?_cons_zero]); rfl) (by kernel_rfl) (by kernel_rfl) (by kernel_rfl) (by rfl) (fun _ _ _ h => h) (Or.inl ⟨by rfl, ?_⟩) hS_ (by (simp only [List.setIfInBounds_toArray, List.set_cons_succ, List.set_cons_zero]); rfl) ?_
      · intro w_ hSw_; (try dsimp only at hSw_); go_simp
      refine wpAnyH_ready (rs := [20]) (by kernel_rfl) (by simp) ?_
      refine AllReadyH.cons (o := _) (by (simp only [List.getElem?_toArray, List.getElem?_cons_succ, List.getElem?_cons_zero]); rfl) (fun K_ hK_ => ?_) AllReadyH.nil
      rw [if_pos (by rfl)]
      go_simp
      go_at_call 34
      refine (chS_tells HC.out HG.out HF2.out (by first | exact hB | exact hB.drew | exact (Below.refl _ _).drew | exact Below.refl _ _)).mono ?_; rintro e W5 ⟨rfl, hB⟩; have c0 := XB.out.in1 hB; have c1 := XB.out.in2 hB
      refine hK_.out _ _ ⟨hB, c0, c1⟩ (fun hS2_ => ?_)
      clear hK_ hS_; have hS_ := hS2_; clear hS2_
      (try simp only [Act.put, List.setIfInBounds_toArray, List.set_cons_zero, List.set_cons_succ])
      refine takeV (i := 21) (v := .bool true) (by (simp only [List.getElem?_toArray, List.getElem?_cons_succ, List.getElem?_cons_zero]); rfl) (by kernel_rfl) (by kernel_rfl) (by kernel_rfl) (by rfl) (fun _ _ _ h => h) (Or.inl ⟨by rfl, ?_⟩) hS_ (by (simp only [List.setIfInBounds_toArray, List.set_cons_succ, List.set_cons_zero]); rfl) ?_
      · intro w_ hSw_; (try dsimp only at hSw_); go_simp
      refine takeV (i := 22) (v := .bool true) (by (simp only [List.getElem?_toArray, List.getElem?_cons_succ, List.getElem?_cons_zero]); rfl) (by kernel_rfl) (by kernel_rfl) (by kernel_rfl) (by rfl) (fun _ _ _ h => h) (Or.inl ⟨by rfl, ?_⟩) hS_ (by (simp only [List.setIfInBounds_toArray, List.set_cons_succ, List.set_cons_zero]); rfl) ?_
      · intro w_ hSw_; (try dsimp only at hSw_); go_simp
      refine wpAnyH_done (by kernel_rfl) ?_ _
      clear hz
      have hB0 := Lib.hid hB; have q0 := Lib.hid c0; have q1 := Lib.hid c1
      clear hB c0 c1
      have hB := hB0.out; have c0 := q0.out; have c1 := q1.out
      go_wp2_with fail
      go_region_held3 (fun W => Below w3.heap.size w3 W ∧ W.cell? ⟨w1.heap.size, 0, none⟩ = some (.slice X1 m1 e1) ∧ W.cell? ⟨w1.heap.size, 1, none⟩ = some (.slice X2 m2 e2)) (first | exact ⟨hB, c0, c1⟩ | exact ⟨hB.drew, c0, c1⟩) (first | (go_at_call 33; (with_reducible refine (doS_from HI.out HC.out HG.out HD.out (by first | exact hB | exact hB.drew | exact (Below.refl _ _).drew | exact Below.refl _ _)).mono ?_); rintro e W5 ⟨Z, z, rfl, hz, hB⟩; have c0 := XB.out.in1 hB; have c1 := XB.out.in2 hB) | (go_at_call 17; (with_reducible refine (sameNow_tells HY.out hz (by first | exact hB | exact hB.drew | exact (Below.refl _ _).drew | exact Below.refl _ _)).mono ?_); rintro e W5 ⟨rfl, hB⟩; have c0 := XB.out.in1 hB; have c1 := XB.out.in2 hB) | (go_at_call 30; (with_reducible refine (chI_tells HC.out HG.out HF2.out (by first | exact hB | exact hB.drew | exact (Below.refl _ _).drew | exact Below.refl _ _)).mono ?_); rintro e W5 ⟨rfl, hB⟩; have c0 := XB.out.in1 hB; have c1 := XB.out.in2 hB) | (go_at_call 34; (with_reducible refine (chS_tells HC.out HG.out HF2.out (by first | exact hB | exact hB.drew | exact (Below.refl _ _).drew | exact Below.refl _ _)).mono ?_); rintro e W5 ⟨rfl, hB⟩; have c0 := XB.out.in1 hB; have c1 := XB.out.in2 hB))
      go_wp2
      go_ret; exact ⟨rfl, belowThen HW.out hB⟩
    · skip
      go_region_held3 (fun W => Below w3.heap.size w3 W ∧ W.cell? ⟨w1.heap.size, 0, none⟩ = some (.slice X1 m1 e1) ∧ W.cell? ⟨w1.heap.size, 1, none⟩ = some (.slice X2 m2 e2)) (first | exact ⟨hB, c0, c1⟩ | exact ⟨hB.drew, c0, c1⟩) (first | (go_at_call 33; (with_reducible refine (doS_from HI.out HC.out HG.out HD.out (by first | exact hB | exact hB.drew | exact (Below.refl _ _).drew | exact Below.refl _ _)).mono ?_); rintro e W5 ⟨Z, z, rfl, hz, hB⟩; have c0 := XB.out.in1 hB; have c1 := XB.out.in2 hB) | (go_at_call 17; (with_reducible refine (sameNow_tells HY.out hz (by first | exact hB | exact hB.drew | exact (Below.refl _ _).drew | exact Below.refl _ _)).mono ?_); rintro e W5 ⟨rfl, hB⟩; have c0 := XB.out.in1 hB; have c1 := XB.out.in2 hB) | (go_at_call 30; (with_reducible refine (chI_tells HC.out HG.out HF2.out (by first | exact hB | exact hB.drew | exact (Below.refl _ _).drew | exact Below.refl _ _)).mono ?_); rintro e W5 ⟨rfl, hB⟩; have c0 := XB.out.in1 hB; have c1 := XB.out.in2 hB) | (go_at_call 34; (with_reducible refine (chS_tells HC.out HG.out HF2.out (by first | exact hB | exact hB.drew | exact (Below.refl _ _).drew | exact Below.refl _ _)).mono ?_); rintro e W5 ⟨rfl, hB⟩; have c0 := XB.out.in1 hB; have c1 := XB.out.in2 hB) | (go_at_call 19; (with_reducible refine (okS_tells HI.out HF1.out (by first | exact hB | exact hB.drew | exact (Below.refl _ _).drew | exact Below.refl _ _)).mono ?_); rintro e W5 ⟨rfl, hB⟩; have c0 := XB.out.in1 hB; have c1 := XB.out.in2 hB))
      clear hz
      have hB0 := Lib.hid hB; have q0 := Lib.hid c0; have q1 := Lib.hid c1
      clear hB c0 c1
      have hB := hB0.out; have c0 := q0.out; have c1 := q1.out
      obtain ⟨D0, d1, d2, d3, d4, d5⟩ := do_law HF1.out HF2.out (by omega)
      have hDD : D = D0 := by have h := HD.out; rw [d1] at h; exact h.symm
      subst hDD
      have L2 := Lib.hid d2; have L3 := Lib.hid (congrArg Prod.fst d3); have L4 := Lib.hid d4; have L5 := Lib.hid d5; clear d1 d2 d3 d4 d5
      go_wp2_with fail
      go_loopw [6] (fun i wr => ∃ j : Nat, j ≤ k ∧ i = .int .i64 (j : Int) ∧ Below w3.heap.size w3 wr) (fun i _ => k - (intOf i).toNat)
      case atStart => exact ⟨0, Nat.zero_le _, rfl, by first | exact hB | exact hB.drew⟩
      case round =>
        obtain ⟨j, hj, rfl, hb⟩ := hrel
        clear hB hB0 c0 c1 q0 q1
        have hB := hb
        have HB := Lib.hid hb; clear hb
        have c0 := XB.out.in1 hB; have c1 := XB.out.in2 hB
        by_cases hlt : j < k
        · have hlt2 : (j : Int) < (k : Int) := by omega
          obtain ⟨p, q, hA, -, hhi, hg, hE⟩ := HI.out.at_ hlt
          obtain ⟨C, m5, d5, r1, r3, r4, r5⟩ := hE.out
          clear hE
          subst hA
          have hmem := List.mem_of_getElem? hg
          have HQ5 := Lib.hid r5; clear r5 hg
          have blk : (p.add (j * 2)).block < w3.heap.size := by rw [block_add]; exact hhi
          have c0 := XB.out.in1 hB; have c1 := XB.out.in2 hB; have c2 := (hB.cell (p := p.add (j * 2)) blk).trans r1; have c3 := (hB.cell (p := ⟨(p.add (j * 2)).block, (p.add (j * 2)).off + 1, none⟩) blk).trans r4
          have o2 := L4.out q hmem
          cases hbq : hasE gs q
          all_goals
            rw [hbq] at o2
            simp only [Bool.not_false, Bool.not_true] at o2
            have O2 := Lib.hid o2; have O3 := Lib.hid hbq
            clear o2 hbq
            go_wp2_with fail
            go_region_held3 (fun W => Below w3.heap.size w3 W ∧ W.cell? ⟨w1.heap.size, 0, none⟩ = some (.slice X1 m1 e1) ∧ W.cell? ⟨w1.heap.size, 1, none⟩ = some (.slice X2 m2 e2) ∧ W.cell? (p.add (j * 2)) = some (.string q.1) ∧ W.cell? ⟨(p.add (j * 2)).block, (p.add (j * 2)).off + 1, none⟩ = some (.slice C m5 d5)) (first | exact ⟨hB, c0, c1, c2, c3⟩ | exact ⟨hB.drew, c0, c1, c2, c3⟩) (first | (go_at_call 29; (with_reducible refine (hasE_tells HY.out HQ5.out O2.out (by first | exact hB | exact hB.drew | exact (Below.refl _ _).drew | exact Below.refl _ _)).mono ?_); rintro e W5 ⟨rfl, hB⟩; have c0 := XB.out.in1 hB; have c1 := XB.out.in2 hB; have c2 := (hB.cell (p := p.add (j * 2)) blk).trans r1; have c3 := (hB.cell (p := ⟨(p.add (j * 2)).block, (p.add (j * 2)).off + 1, none⟩) blk).trans r4) | (go_at_call 29; (with_reducible refine (hasE_tells HG.out HQ5.out O3.out (by first | exact hB | exact hB.drew | exact (Below.refl _ _).drew | exact Below.refl _ _)).mono ?_); rintro e W5 ⟨rfl, hB⟩; have c0 := XB.out.in1 hB; have c1 := XB.out.in2 hB; have c2 := (hB.cell (p := p.add (j * 2)) blk).trans r1; have c3 := (hB.cell (p := ⟨(p.add (j * 2)).block, (p.add (j * 2)).off + 1, none⟩) blk).trans r4))
            have hB0 := Lib.hid hB; have q0 := Lib.hid c0; have q1 := Lib.hid c1; have q2 := Lib.hid c2; have q3 := Lib.hid c3
            clear hB c0 c1 c2 c3
            have hB := hB0.out; have c0 := q0.out; have c1 := q1.out; have c2 := q2.out; have c3 := q3.out
            go_wp2
            go_roundw
            case rel => exact ⟨j + 1, by omega, by go_num, hB⟩
            case measure => simp [intOf]; omega
        · have hge : ¬ (j : Int) < (k : Int) := by omega
          have hB0 := HB; have q0 := HB; have q1 := HB
          go_wp2_with fail
          go_loopw [7] (fun i wr => ∃ j : Nat, j ≤ m1 ∧ i = .int .i64 (j : Int) ∧ Below w3.heap.size w3 wr) (fun i _ => m1 - (intOf i).toNat)
          case atStart => exact ⟨0, Nat.zero_le _, rfl, by first | exact hB | exact hB.drew⟩
          case round =>
            obtain ⟨j, hj, rfl, hb⟩ := hrel
            clear hB hB0 c0 c1 q0 q1
            have hB := hb
            have HB := Lib.hid hb; clear hb
            have c0 := XB.out.in1 hB; have c1 := XB.out.in2 hB
            by_cases hlt : j < m1
            · have hlt2 : (j : Int) < (m1 : Int) := by omega
              obtain ⟨p, q, hA, -, hhi, hg, hE⟩ := HC.out.at_ hlt
              obtain ⟨C, m5, d5, r1, r3, r4, r5⟩ := hE.out
              clear hE
              subst hA
              have hmem := List.mem_of_getElem? hg
              have HQ5 := Lib.hid r5; clear r5 hg
              have blk : (p.add (j * 2)).block < w3.heap.size := by rw [block_add]; exact hhi
              have c0 := XB.out.in1 hB; have c1 := XB.out.in2 hB; have c2 := (hB.cell (p := p.add (j * 2)) blk).trans r1; have c3 := (hB.cell (p := ⟨(p.add (j * 2)).block, (p.add (j * 2)).off + 1, none⟩) blk).trans r4
              have O2 := Lib.hid (L5.out q hmem)
              go_wp2_with (first | (go_at_call 29; (with_reducible refine (hasE_tells HY.out HQ5.out O2.out (by first | exact hB | exact hB.drew | exact (Below.refl _ _).drew | exact Below.refl _ _)).mono ?_); rintro e W5 ⟨rfl, hB⟩; have c0 := XB.out.in1 hB; have c1 := XB.out.in2 hB; have c2 := (hB.cell (p := p.add (j * 2)) blk).trans r1; have c3 := (hB.cell (p := ⟨(p.add (j * 2)).block, (p.add (j * 2)).off + 1, none⟩) blk).trans r4))
              go_roundw
              case rel => exact ⟨j + 1, by omega, by go_num, hB⟩
              case measure => simp [intOf]; omega
            · have hge : ¬ (j : Int) < (m1 : Int) := by omega
              go_wp2_with (first | (go_at_call 18; (with_reducible refine (okI_tells HY.out L2.out (by first | exact hB | exact hB.drew | exact (Below.refl _ _).drew | exact Below.refl _ _)).mono ?_); rintro e W5 ⟨rfl, hB⟩; have c0 := XB.out.in1 hB; have c1 := XB.out.in2 hB) | (go_at_call 31; (with_reducible refine (doI_from HY.out HC.out HG.out L3.out (by first | exact hB | exact hB.drew | exact (Below.refl _ _).drew | exact Below.refl _ _)).mono ?_); rintro e W5 ⟨Z, z, rfl, hz, hB⟩; have c0 := XB.out.in1 hB; have c1 := XB.out.in2 hB) | (go_at_call 17; (with_reducible refine (nowSame_tells HY.out hz (by first | exact hB | exact hB.drew | exact (Below.refl _ _).drew | exact Below.refl _ _)).mono ?_); rintro e W5 ⟨rfl, hB⟩; have c0 := XB.out.in1 hB; have c1 := XB.out.in2 hB))
              go_wp2
              go_ret; exact ⟨rfl, belowThen HW.out hB⟩

end Go.Proofs.Ytbhkihnekendbaa
