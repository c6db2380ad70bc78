/-
  The law of AtomText: its walk. (Written by tools/textlaw.py.)
-/
import Derived.Test.YtahkkelahocplaaDoorTextKit
import Derived.Test.YtahkkelahocplaaDoorRKeep
namespace Go.Proofs.YtahkkelahocplaaDoor
open Go.RowKit

set_option maxRecDepth 100000 in
set_option maxHeartbeats 8000000 in
theorem atomText_law (A : Option Addr) (n c : Nat) (A' : Option Addr) (n' c' : Nat) (w : World) (h : IsBytes w w.heap.size A n c) (h' : IsBytes w w.heap.size A' n' c') (hm : MaxIn w) :
    Calls Tryd.prog 4 #[.slice A n c, .slice A' n' c'] w (BoolPost true w) := by
  have hn : n ≤ maxLen := by have := h.1; have := h.2.1; omega
  have hn' : n' ≤ maxLen := by have := h'.1; have := h'.2.1; omega
  unfold maxLen at hn hn'
  have H := Lib.hid h; clear h
  have H' := Lib.hid h'; clear h'
  go_enter Tryd.func4, Tryd.ntmps4
  go_wp2_with fail
  all_goals try (go_ret; exact ⟨rfl, Below.refl _ _⟩)
  refine (drawAtomPut_any A n c w H.out).mono ?_; rintro e w1 ⟨nm, B, k, d, ts, ⟨rfl, hnm, hk⟩, ht, hts, hb1⟩
  have hsm : nm.size ≤ maxLen := by unfold maxLen; omega
  have hpl : (putB (nm, ts)).length ≤ 40 := putB_le (nm, ts)
  have HP := below1 w1 (.cells #[.string nm, .slice B k d] 24)
  have HT1 := Lib.hid (ht.up HP); have XA1 := Lib.hid (Box.new w1 (.string nm) (.slice B k d) 24); have HB1 := Lib.hid (belowThen hb1 HP)
  clear HP ht hb1
  go_wp2_with fail
  refine (implAtomPut_any nm B k d ts _ hsm HT1.out).mono ?_; rintro e w2 ⟨rfl, hb2⟩
  have HT2 := Lib.hid (HT1.out.up hb2); have XA2 := Lib.hid (XA1.out.later hb2); have HB2 := Lib.hid (belowThen HB1.out hb2)
  clear hb2 HT1 XA1 HB1
  have hm2 := hm.below HB2.out
  go_wp2_with fail
  refine (implAtomGet_any ⟨(putB (nm, ts)).toArray⟩ w2 (by rw [mk_size]; omega) hm2).mono ?_; rintro e w3 ⟨r, rfl, hH, hr, hb3⟩
  rw [mk_data, getB_put] at hr ⊢
  unfold rfVal
  have HP := below1 w3 (.cells #[.string r.1, .slice r.2.1 r.2.2.1 r.2.2.2.1] 24)
  have hb34 := belowThen hb3 HP
  have HT4 := HT2.out.up hb34; have XA4 := XA2.out.later hb34; have HB4 := belowThen HB2.out hb34
  have HX4 : IsTerms (w3.alloc (.cells #[.string r.1, .slice r.2.1 r.2.2.1 r.2.2.2.1] 24)) 0 (w3.alloc (.cells #[.string r.1, .slice r.2.1 r.2.2.1 r.2.2.2.1] 24)).heap.size r.2.1 r.2.2.1 r.2.2.2.1 r.2.2.2.2 := (hH.2.1.keep (lo' := 0) (hi' := w3.heap.size) (fun _ _ _ => rfl) (Nat.zero_le _) (Nat.le_refl _)).up HP
  have XX4 := Box.new w3 (.string r.1) (.slice r.2.1 r.2.2.1 r.2.2.2.1) 24
  obtain ⟨w4, hw4⟩ : ∃ w4, w3.alloc (.cells #[.string r.1, .slice r.2.1 r.2.2.1 r.2.2.2.1] 24) = w4 := ⟨_, rfl⟩
  rw [hw4] at HT4 XA4 HB4 HX4 XX4
  have HT := Lib.hid HT4; have XA := Lib.hid XA4; have HW := Lib.hid HB4; have HX := Lib.hid HX4; have XX := Lib.hid XX4
  clear HT2 XA2 HB2 hH hb3 HP hb34 HT4 XA4 HB4 HX4 XX4
  obtain ⟨ob, hob⟩ : ∃ ob, (if atomB (nm, ts) = true then some (nm, ts) else none : Option At) = ob := ⟨_, rfl⟩
  rw [hob] at hr ⊢
  cases hA : atomB (nm, ts)
  · skip
    have hob2 : ob = none := by rw [← hob, hA]; rfl
    have HA := Lib.hid hA; clear hA hob
    subst hob2
    rw [show (none : Option At).isSome = false from rfl]
    have hB : Below w4.heap.size w4 w4 := Below.refl _ _
    have c0 := XA.out.in1 hB; have c1 := XA.out.in2 hB; have c2 := XX.out.in1 hB; have c3 := XX.out.in2 hB
    have okI := fun W (hW : Below w4.heap.size w4 W) => okI_tells' hsm HT.out hW; have okS := fun W (hW : Below w4.heap.size w4 W) => okS_tells' hsm HT.out hW
    rw [HA.out] at okI okS
    go_wp2_with fail
    refine wp_region_held_drew (S := (fun W => Below w4.heap.size w4 W ∧ W.cell? ⟨w1.heap.size, 0, none⟩ = some (.string nm) ∧ W.cell? ⟨w1.heap.size, 1, none⟩ = some (.slice B k d) ∧ W.cell? ⟨w3.heap.size, 0, none⟩ = some (.string r.1) ∧ W.cell? ⟨w3.heap.size, 1, none⟩ = some (.slice r.2.1 r.2.2.1 r.2.2.2.1))) (by kernel_rfl) (by first | exact ⟨hB, c0, c1, c2, c3⟩ | exact ⟨hB.drew, c0, c1, c2, c3⟩) ?_
    have hB := hB.drew
    intro hS_
    refine takeV (i := 0) (v := .string ⟨(putB (nm, ts)).toArray⟩) (by (simp only [List.getElem?_toArray, List.getElem?_cons_zero]); rfl) (by kernel_rfl) (by kernel_rfl) (by kernel_rfl) (by rfl) (fun _ _ _ h => h) (Or.inl ⟨by rfl, ?_⟩) hS_ (by (simp only [List.setIfInBounds_toArray, List.set_cons_succ, List.set_cons_zero]); rfl) ?_
    · intro w_ hSw_; (try dsimp only at hSw_); go_simp
    refine takeV (i := 1) (v := .agg #[.string nm, .slice B k d]) (by (simp only [List.getElem?_toArray, List.getElem?_cons_succ, List.getElem?_cons_zero]); rfl) (by kernel_rfl) (by kernel_rfl) (by kernel_rfl) (by rfl) (fun _ _ _ h => h) (Or.inl ⟨by rfl, ?_⟩) hS_ (by (simp only [List.setIfInBounds_toArray, List.set_cons_succ, List.set_cons_zero]); rfl) ?_
    · intro w_ hSw_; (try dsimp only at hSw_); go_simp
    refine wpAnyH_ready (rs := [2]) (by kernel_rfl) (by simp) ?_
    refine AllReadyH.cons (o := _) (by (simp only [List.getElem?_toArray, List.getElem?_cons_succ, List.getElem?_cons_zero]); rfl) (fun K_ hK_ => ?_) AllReadyH.nil
    rw [if_pos (by rfl)]
    go_simp
    go_at_call 17
    refine (putS_tells hsm HT.out (by first | exact hB | exact hB.drew | exact (Below.refl _ _).drew | exact Below.refl _ _)).mono ?_; rintro e W5 ⟨rfl, hB⟩; have c0 := XA.out.in1 hB; have c1 := XA.out.in2 hB; have c2 := XX.out.in1 hB; have c3 := XX.out.in2 hB
    refine hK_.out _ _ ⟨hB, c0, c1, c2, c3⟩ (fun hS2_ => ?_)
    clear hK_ hS_; have hS_ := hS2_; clear hS2_
    (try simp only [Act.put, List.setIfInBounds_toArray, List.set_cons_zero, List.set_cons_succ])
    refine takeV (i := 3) (v := .bool false) (by (simp only [List.getElem?_toArray, List.getElem?_cons_succ, List.getElem?_cons_zero]); rfl) (by kernel_rfl) (by kernel_rfl) (by kernel_rfl) (by rfl) (fun _ _ _ h => h) (Or.inl ⟨by rfl, ?_⟩) hS_ (by (simp only [List.setIfInBounds_toArray, List.set_cons_succ, List.set_cons_zero]); rfl) ?_
    · intro w_ hSw_; (try dsimp only at hSw_); go_simp
    refine takeV (i := 4) (v := .bool false) (by (simp only [List.getElem?_toArray, List.getElem?_cons_succ, List.getElem?_cons_zero]); rfl) (by kernel_rfl) (by kernel_rfl) (by kernel_rfl) (by rfl) (fun _ _ _ h => h) (Or.inl ⟨by rfl, ?_⟩) hS_ (by (simp only [List.setIfInBounds_toArray, List.set_cons_succ, List.set_cons_zero]); rfl) ?_
    · intro w_ hSw_; (try dsimp only at hSw_); go_simp
    refine takeV (i := 5) (v := .agg #[.string nm, .slice B k d]) (by (simp only [List.getElem?_toArray, List.getElem?_cons_succ, List.getElem?_cons_zero]); rfl) (by kernel_rfl) (by kernel_rfl) (by kernel_rfl) (by rfl) (fun _ _ _ h => h) (Or.inl ⟨by rfl, ?_⟩) hS_ (by (simp only [List.setIfInBounds_toArray, List.set_cons_succ, List.set_cons_zero]); rfl) ?_
    · intro w_ hSw_; (try dsimp only at hSw_); go_simp
    refine takeV (i := 7) (v := .agg #[.string nm, .slice B k d]) (by (simp only [List.getElem?_toArray, List.getElem?_cons_succ, List.getElem?_cons_zero]); rfl) (by kernel_rfl) (by kernel_rfl) (by kernel_rfl) (by rfl) (fun _ _ _ h => h) (Or.inl ⟨by rfl, ?_⟩) hS_ (by (simp only [List.setIfInBounds_toArray, List.set_cons_succ, List.set_cons_zero]); rfl) ?_
    · intro w_ hSw_; (try dsimp only at hSw_); go_simp
    refine wpAnyH_ready (rs := [6]) (by kernel_rfl) (by simp) ?_
    refine AllReadyH.cons (o := _) (by (simp only [List.getElem?_toArray, List.getElem?_cons_succ, List.getElem?_cons_zero]); rfl) (fun K_ hK_ => ?_) AllReadyH.nil
    rw [if_pos (by rfl)]
    go_simp
    go_at_call 18
    refine (okI _ (by first | exact hB | exact hB.drew | exact (Below.refl _ _).drew | exact Below.refl _ _)).mono ?_; rintro e W5 ⟨rfl, hB⟩; have c0 := XA.out.in1 hB; have c1 := XA.out.in2 hB; have c2 := XX.out.in1 hB; have c3 := XX.out.in2 hB
    refine hK_.out _ _ ⟨hB, c0, c1, c2, c3⟩ (fun hS2_ => ?_)
    clear hK_ hS_; have hS_ := hS2_; clear hS2_
    (try simp only [Act.put, List.setIfInBounds_toArray, List.set_cons_zero, List.set_cons_succ])
    refine wpAnyH_ready (rs := [8]) (by kernel_rfl) (by simp) ?_
    refine AllReadyH.cons (o := _) (by (simp only [List.getElem?_toArray, List.getElem?_cons_succ, List.getElem?_cons_zero]); rfl) (fun K_ hK_ => ?_) AllReadyH.nil
    rw [if_pos (by rfl)]
    go_simp
    go_at_call 19
    refine (okS _ (by first | exact hB | exact hB.drew | exact (Below.refl _ _).drew | exact Below.refl _ _)).mono ?_; rintro e W5 ⟨rfl, hB⟩; have c0 := XA.out.in1 hB; have c1 := XA.out.in2 hB; have c2 := XX.out.in1 hB; have c3 := XX.out.in2 hB
    refine hK_.out _ _ ⟨hB, c0, c1, c2, c3⟩ (fun hS2_ => ?_)
    clear hK_ hS_; have hS_ := hS2_; clear hS2_
    (try simp only [Act.put, List.setIfInBounds_toArray, List.set_cons_zero, List.set_cons_succ])
    refine takeV (i := 9) (v := .bool false) (by (simp only [List.getElem?_toArray, List.getElem?_cons_succ, List.getElem?_cons_zero]); rfl) (by kernel_rfl) (by kernel_rfl) (by kernel_rfl) (by rfl) (fun _ _ _ h => h) (Or.inl ⟨by rfl, ?_⟩) hS_ (by (simp only [List.setIfInBounds_toArray, List.set_cons_succ, List.set_cons_zero]); rfl) ?_
    · intro w_ hSw_; (try dsimp only at hSw_); go_simp
    refine takeV (i := 10) (v := .bool false) (by (simp only [List.getElem?_toArray, List.getElem?_cons_succ, List.getElem?_cons_zero]); rfl) (by kernel_rfl) (by kernel_rfl) (by kernel_rfl) (by rfl) (fun _ _ _ h => h) (Or.inl ⟨by rfl, ?_⟩) hS_ (by (simp only [List.setIfInBounds_toArray, List.set_cons_succ, List.set_cons_zero]); rfl) ?_
    · intro w_ hSw_; (try dsimp only at hSw_); go_simp
    refine takeV (i := 11) (v := .bool false) (by (simp only [List.getElem?_toArray, List.getElem?_cons_succ, List.getElem?_cons_zero]); rfl) (by kernel_rfl) (by kernel_rfl) (by kernel_rfl) (by rfl) (fun _ _ _ h => h) (Or.inl ⟨by rfl, ?_⟩) hS_ (by (simp only [List.setIfInBounds_toArray, List.set_cons_succ, List.set_cons_zero]); rfl) ?_
    · intro w_ hSw_; (try dsimp only at hSw_); go_simp
    refine takeV (i := 12) (v := .bool false) (by (simp only [List.getElem?_toArray, List.getElem?_cons_succ, List.getElem?_cons_zero]); rfl) (by kernel_rfl) (by kernel_rfl) (by kernel_rfl) (by rfl) (fun _ _ _ h => h) (Or.inl ⟨by rfl, ?_⟩) hS_ (by (simp only [List.setIfInBounds_toArray, List.set_cons_succ, List.set_cons_zero]); rfl) ?_
    · intro w_ hSw_; (try dsimp only at hSw_); go_simp
    refine takeV (i := 13) (v := .agg #[.string nm, .slice B k d]) (by (simp only [List.getElem?_toArray, List.getElem?_cons_succ, List.getElem?_cons_zero]); rfl) (by kernel_rfl) (by kernel_rfl) (by kernel_rfl) (by rfl) (fun _ _ _ h => h) (Or.inl ⟨by rfl, ?_⟩) hS_ (by (simp only [List.setIfInBounds_toArray, List.set_cons_succ, List.set_cons_zero]); rfl) ?_
    · intro w_ hSw_; (try dsimp only at hSw_); go_simp
    refine wpAnyH_ready (rs := [14]) (by kernel_rfl) (by simp) ?_
    refine AllReadyH.cons (o := _) (by (simp only [List.getElem?_toArray, List.getElem?_cons_succ, List.getElem?_cons_zero]); rfl) (fun K_ hK_ => ?_) AllReadyH.nil
    rw [if_pos (by rfl)]
    go_simp
    go_at_call 19
    refine (okS _ (by first | exact hB | exact hB.drew | exact (Below.refl _ _).drew | exact Below.refl _ _)).mono ?_; rintro e W5 ⟨rfl, hB⟩; have c0 := XA.out.in1 hB; have c1 := XA.out.in2 hB; have c2 := XX.out.in1 hB; have c3 := XX.out.in2 hB
    refine hK_.out _ _ ⟨hB, c0, c1, c2, c3⟩ (fun hS2_ => ?_)
    clear hK_ hS_; have hS_ := hS2_; clear hS2_
    (try simp only [Act.put, List.setIfInBounds_toArray, List.set_cons_zero, List.set_cons_succ])
    refine takeV (i := 15) (v := .bool false) (by (simp only [List.getElem?_toArray, List.getElem?_cons_succ, List.getElem?_cons_zero]); rfl) (by kernel_rfl) (by kernel_rfl) (by kernel_rfl) (by rfl) (fun _ _ _ h => h) (Or.inl ⟨by rfl, ?_⟩) hS_ (by (simp only [List.setIfInBounds_toArray, List.set_cons_succ, List.set_cons_zero]); rfl) ?_
    · intro w_ hSw_; (try dsimp only at hSw_); go_simp
    refine takeV (i := 16) (v := .bool false) (by (simp only [List.getElem?_toArray, List.getElem?_cons_succ, List.getElem?_cons_zero]); rfl) (by kernel_rfl) (by kernel_rfl) (by kernel_rfl) (by rfl) (fun _ _ _ h => h) (Or.inl ⟨by rfl, ?_⟩) hS_ (by (simp only [List.setIfInBounds_toArray, List.set_cons_succ, List.set_cons_zero]); rfl) ?_
    · intro w_ hSw_; (try dsimp only at hSw_); go_simp
    refine takeV (i := 17) (v := .bool false) (by (simp only [List.getElem?_toArray, List.getElem?_cons_succ, List.getElem?_cons_zero]); rfl) (by kernel_rfl) (by kernel_rfl) (by kernel_rfl) (by rfl) (fun _ _ _ h => h) (Or.inl ⟨by rfl, ?_⟩) hS_ (by (simp only [List.setIfInBounds_toArray, List.set_cons_succ, List.set_cons_zero]); rfl) ?_
    · intro w_ hSw_; (try dsimp only at hSw_); go_simp
    refine takeV (i := 18) (v := .bool false) (by (simp only [List.getElem?_toArray, List.getElem?_cons_succ, List.getElem?_cons_zero]); rfl) (by kernel_rfl) (by kernel_rfl) (by kernel_rfl) (by rfl) (fun _ _ _ h => h) (Or.inl ⟨by rfl, ?_⟩) hS_ (by (simp only [List.setIfInBounds_toArray, List.set_cons_succ, List.set_cons_zero]); rfl) ?_
    · intro w_ hSw_; (try dsimp only at hSw_); go_simp
    refine takeV (i := 19) (v := .bool false) (by (simp only [List.getElem?_toArray, List.getElem?_cons_succ, List.getElem?_cons_zero]); rfl) (by kernel_rfl) (by kernel_rfl) (by kernel_rfl) (by rfl) (fun _ _ _ h => h) (Or.inl ⟨by rfl, ?_⟩) hS_ (by (simp only [List.setIfInBounds_toArray, List.set_cons_succ, List.set_cons_zero]); rfl) ?_
    · intro w_ hSw_; (try dsimp only at hSw_); go_simp
    refine takeV (i := 20) (v := undef) (by (simp only [List.getElem?_toArray, List.getElem?_cons_succ, List.getElem?_cons_zero]); rfl) (by kernel_rfl) (by kernel_rfl) (by kernel_rfl) (by rfl) (fun _ _ _ h => h) (Or.inr ⟨by rfl, rfl⟩) hS_ (by (simp only [List.setIfInBounds_toArray, List.set_cons_succ, List.set_cons_zero]); rfl) ?_
    refine takeV (i := 21) (v := undef) (by (simp only [List.getElem?_toArray, List.getElem?_cons_succ, List.getElem?_cons_zero]); rfl) (by kernel_rfl) (by kernel_rfl) (by kernel_rfl) (by rfl) (fun _ _ _ h => h) (Or.inr ⟨by rfl, rfl⟩) hS_ (by (simp only [List.setIfInBounds_toArray, List.set_cons_succ, List.set_cons_zero]); rfl) ?_
    refine takeV (i := 22) (v := undef) (by (simp only [List.getElem?_toArray, List.getElem?_cons_succ, List.getElem?_cons_zero]); rfl) (by kernel_rfl) (by kernel_rfl) (by kernel_rfl) (by rfl) (fun _ _ _ h => h) (Or.inr ⟨by rfl, rfl⟩) hS_ (by (simp only [List.setIfInBounds_toArray, List.set_cons_succ, List.set_cons_zero]); rfl) ?_
    refine takeV (i := 23) (v := undef) (by (simp only [List.getElem?_toArray, List.getElem?_cons_succ, List.getElem?_cons_zero]); rfl) (by kernel_rfl) (by kernel_rfl) (by kernel_rfl) (by rfl) (fun _ _ _ h => h) (Or.inr ⟨by rfl, rfl⟩) hS_ (by (simp only [List.setIfInBounds_toArray, List.set_cons_succ, List.set_cons_zero]); rfl) ?_
    refine takeV (i := 24) (v := .bool false) (by (simp only [List.getElem?_toArray, List.getElem?_cons_succ, List.getElem?_cons_zero]); rfl) (by kernel_rfl) (by kernel_rfl) (by kernel_rfl) (by rfl) (fun _ _ _ h => h) (Or.inl ⟨by rfl, ?_⟩) hS_ (by (simp only [List.setIfInBounds_toArray, List.set_cons_succ, List.set_cons_zero]); rfl) ?_
    · intro w_ hSw_; (try dsimp only at hSw_); go_simp
    refine takeV (i := 25) (v := .bool false) (by (simp only [List.getElem?_toArray, List.getElem?_cons_succ, List.getElem?_cons_zero]); rfl) (by kernel_rfl) (by kernel_rfl) (by kernel_rfl) (by rfl) (fun _ _ _ h => h) (Or.inl ⟨by rfl, ?_⟩) hS_ (by (simp only [List.setIfInBounds_toArray, List.set_cons_succ, List.set_cons_zero]); rfl) ?_
    · intro w_ hSw_; (try dsimp only at hSw_); go_simp
    refine wpAnyH_done (by kernel_rfl) ?_ _
    have hB0 := Lib.hid hB; have q0 := Lib.hid c0; have q1 := Lib.hid c1; have q2 := Lib.hid c2; have q3 := Lib.hid c3
    clear hB c0 c1 c2 c3
    have hB := hB0.out; have c0 := q0.out; have c1 := q1.out; have c2 := q2.out; have c3 := q3.out
    clear c0 c1 c2 c3 q0 q1 q2 q3 hB0
    have HW5 := Lib.hid (belowThen HW.out hB)
    clear hB HT XA HX XX
    go_wp2_with fail
    refine (drawAtomGet_any A' n' c' _ (H'.out.up HW5.out)).mono ?_; rintro e w6 ⟨t, ⟨rfl, ht6⟩, hb6⟩
    have HW6 := Lib.hid (belowThen HW5.out hb6)
    clear hb6 HW5
    have hm6 := hm.below HW6.out
    go_wp2_with fail
    refine (implAtomGet_any t w6 (by omega) hm6).mono ?_; rintro e w7 ⟨y, rfl, hH7, hr7, hb7⟩
    unfold rfVal
    have HP := below1 w7 (.cells #[.string y.1, .slice y.2.1 y.2.2.1 y.2.2.2.1] 24)
    have HY8 := Lib.hid ((hH7.2.1.keep (w' := w7) (lo' := 0) (hi' := w7.heap.size) (fun _ _ _ => rfl) (Nat.zero_le _) (Nat.le_refl _)).up HP)
    have XY8 := Lib.hid (Box.new w7 (.string y.1) (.slice y.2.1 y.2.2.1 y.2.2.2.1) 24)
    have HW8 := Lib.hid (belowThen HW6.out (belowThen hb7 HP))
    have HYZ := Lib.hid hH7.1
    clear hH7 hb7 HP HW6
    go_wp2_with fail
    refine (specAtomGet_any t _ (by omega)).mono ?_; rintro e w9 ⟨z, rfl, hH9, hr9, hb9⟩
    unfold rfVal
    have HP := below1 w9 (.cells #[.string z.1, .slice z.2.1 z.2.2.1 z.2.2.2.1] 24)
    have HZ := Lib.hid ((hH9.2.1.keep (w' := w9) (lo' := 0) (hi' := w9.heap.size) (fun _ _ _ => rfl) (Nat.zero_le _) (Nat.le_refl _)).up HP)
    have XZ := Lib.hid (Box.new w9 (.string z.1) (.slice z.2.1 z.2.2.1 z.2.2.2.1) 24)
    have HY := Lib.hid (HY8.out.up (belowThen hb9 HP)); have XY := Lib.hid (XY8.out.later (belowThen hb9 HP)); have HW9 := Lib.hid (belowThen HW8.out (belowThen hb9 HP))
    clear hH9 hb9 HP HY8 XY8 HW8
    obtain ⟨_, y0, y1⟩ := XY.out
    obtain ⟨_, z0, z1⟩ := XZ.out
    cases hg : getB t.data.toList with
    | none =>
      rw [hg] at hr7 hr9
      rw [show (none : Option At).isSome = false from rfl]
      go_wp2_with fail
      refine (fs_tells (nm := y.1) (nm' := z.1) HY.out HZ.out (show rAt y = rAt z from hr7.trans hr9.symm) (Below.refl _ _)).mono ?_; rintro e w10 ⟨rfl, hb10⟩
      have HW10 := belowThen HW9.out hb10
      clear hb10
      go_wp2
      go_ret; exact ⟨rfl, HW10⟩
    | some a =>
      rw [hg] at hr7 hr9
      have hpt := putB_get hg
      have hya : rAt y = a := hr7
      rw [show (some a : Option At).isSome = true from rfl]
      go_wp2_with fail
      refine (fs_tells (nm := y.1) (nm' := z.1) HY.out HZ.out (show rAt y = rAt z from hr7.trans hr9.symm) (Below.refl _ _)).mono ?_; rintro e w10 ⟨rfl, hb10⟩
      have HW10 := belowThen HW9.out hb10
      have HY10 := HY.out.up hb10
      have c0 := XY.out.in1 hb10; have c1 := XY.out.in2 hb10
      clear hb10 y0 y1 z0 z1
      go_wp2_with fail
      refine (implAtomPut_any y.1 y.2.1 y.2.2.1 y.2.2.2.1 y.2.2.2.2 w10 HYZ.out HY10).mono ?_; rintro e w11 ⟨rfl, hb11⟩
      have hpe : (putB (y.1, y.2.2.2.2) == t.toList) = true := by rw [toList_data, show (y.1, y.2.2.2.2) = a from hya, hpt]; exact beq_self_eq_true _
      have HW11 := belowThen HW10 hb11
      clear hb11
      go_wp2
      go_ret; exact ⟨rfl, HW11⟩
  · skip
    have hob2 : ob = some (nm, ts) := by rw [← hob, hA]; rfl
    have HA := Lib.hid hA; clear hA hob
    subst hob2
    rw [show (some (nm, ts) : Option At).isSome = true from rfl]
    have hB : Below w4.heap.size w4 w4 := Below.refl _ _
    have c0 := XA.out.in1 hB; have c1 := XA.out.in2 hB; have c2 := XX.out.in1 hB; have c3 := XX.out.in2 hB
    have okI := fun W (hW : Below w4.heap.size w4 W) => okI_tells' hsm HT.out hW; have okS := fun W (hW : Below w4.heap.size w4 W) => okS_tells' hsm HT.out hW
    rw [HA.out] at okI okS
    go_wp2_with fail
    refine wp_region_held_drew (S := (fun W => Below w4.heap.size w4 W ∧ W.cell? ⟨w1.heap.size, 0, none⟩ = some (.string nm) ∧ W.cell? ⟨w1.heap.size, 1, none⟩ = some (.slice B k d) ∧ W.cell? ⟨w3.heap.size, 0, none⟩ = some (.string r.1) ∧ W.cell? ⟨w3.heap.size, 1, none⟩ = some (.slice r.2.1 r.2.2.1 r.2.2.2.1))) (by kernel_rfl) (by first | exact ⟨hB, c0, c1, c2, c3⟩ | exact ⟨hB.drew, c0, c1, c2, c3⟩) ?_
    have hB := hB.drew
    intro hS_
    refine takeV (i := 0) (v := .string ⟨(putB (nm, ts)).toArray⟩) (by (simp only [List.getElem?_toArray, List.getElem?_cons_zero]); rfl) (by kernel_rfl) (by kernel_rfl) (by kernel_rfl) (by rfl) (fun _ _ _ h => h) (Or.inl ⟨by rfl, ?_⟩) hS_ (by (simp only [List.setIfInBounds_toArray, List.set_cons_succ, List.set_cons_zero]); rfl) ?_
    · intro w_ hSw_; (try dsimp only at hSw_); go_simp
    refine takeV (i := 1) (v := .agg #[.string nm, .slice B k d]) (by (simp only [List.getElem?_toArray, List.getElem?_cons_succ, List.getElem?_cons_zero]); rfl) (by kernel_rfl) (by kernel_rfl) (by kernel_rfl) (by rfl) (fun _ _ _ h => h) (Or.inl ⟨by rfl, ?_⟩) hS_ (by (simp only [List.setIfInBounds_toArray, List.set_cons_succ, List.set_cons_zero]); rfl) ?_
    · intro w_ hSw_; (try dsimp only at hSw_); go_simp
    refine wpAnyH_ready (rs := [2]) (by kernel_rfl) (by simp) ?_
    refine AllReadyH.cons (o := _) (by (simp only [List.getElem?_toArray, List.getElem?_cons_succ, List.getElem?_cons_zero]); rfl) (fun K_ hK_ => ?_) AllReadyH.nil
    rw [if_pos (by rfl)]
    go_simp
    go_at_call 17
    refine (putS_tells hsm HT.out (by first | exact hB | exact hB.drew | exact (Below.refl _ _).drew | exact Below.refl _ _)).mono ?_; rintro e W5 ⟨rfl, hB⟩; have c0 := XA.out.in1 hB; have c1 := XA.out.in2 hB; have c2 := XX.out.in1 hB; have c3 := XX.out.in2 hB
    refine hK_.out _ _ ⟨hB, c0, c1, c2, c3⟩ (fun hS2_ => ?_)
    clear hK_ hS_; have hS_ := hS2_; clear hS2_
    (try simp only [Act.put, List.setIfInBounds_toArray, List.set_cons_zero, List.set_cons_succ])
    refine takeV (i := 3) (v := .bool false) (by (simp only [List.getElem?_toArray, List.getElem?_cons_succ, List.getElem?_cons_zero]); rfl) (by kernel_rfl) (by kernel_rfl) (by kernel_rfl) (by rfl) (fun _ _ _ h => h) (Or.inl ⟨by rfl, ?_⟩) hS_ (by (simp only [List.setIfInBounds_toArray, List.set_cons_succ, List.set_cons_zero]); rfl) ?_
    · intro w_ hSw_; (try dsimp only at hSw_); go_simp
    refine takeV (i := 4) (v := .bool false) (by (simp only [List.getElem?_toArray, List.getElem?_cons_succ, List.getElem?_cons_zero]); rfl) (by kernel_rfl) (by kernel_rfl) (by kernel_rfl) (by rfl) (fun _ _ _ h => h) (Or.inl ⟨by rfl, ?_⟩) hS_ (by (simp only [List.setIfInBounds_toArray, List.set_cons_succ, List.set_cons_zero]); rfl) ?_
    · intro w_ hSw_; (try dsimp only at hSw_); go_simp
    refine takeV (i := 5) (v := .agg #[.string nm, .slice B k d]) (by (simp only [List.getElem?_toArray, List.getElem?_cons_succ, List.getElem?_cons_zero]); rfl) (by kernel_rfl) (by kernel_rfl) (by kernel_rfl) (by rfl) (fun _ _ _ h => h) (Or.inl ⟨by rfl, ?_⟩) hS_ (by (simp only [List.setIfInBounds_toArray, List.set_cons_succ, List.set_cons_zero]); rfl) ?_
    · intro w_ hSw_; (try dsimp only at hSw_); go_simp
    refine takeV (i := 7) (v := .agg #[.string nm, .slice B k d]) (by (simp only [List.getElem?_toArray, List.getElem?_cons_succ, List.getElem?_cons_zero]); rfl) (by kernel_rfl) (by kernel_rfl) (by kernel_rfl) (by rfl) (fun _ _ _ h => h) (Or.inl ⟨by rfl, ?_⟩) hS_ (by (simp only [List.setIfInBounds_toArray, List.set_cons_succ, List.set_cons_zero]); rfl) ?_
    · intro w_ hSw_; (try dsimp only at hSw_); go_simp
    refine wpAnyH_ready (rs := [6]) (by kernel_rfl) (by simp) ?_
    refine AllReadyH.cons (o := _) (by (simp only [List.getElem?_toArray, List.getElem?_cons_succ, List.getElem?_cons_zero]); rfl) (fun K_ hK_ => ?_) AllReadyH.nil
    rw [if_pos (by rfl)]
    go_simp
    go_at_call 18
    refine (okI _ (by first | exact hB | exact hB.drew | exact (Below.refl _ _).drew | exact Below.refl _ _)).mono ?_; rintro e W5 ⟨rfl, hB⟩; have c0 := XA.out.in1 hB; have c1 := XA.out.in2 hB; have c2 := XX.out.in1 hB; have c3 := XX.out.in2 hB
    refine hK_.out _ _ ⟨hB, c0, c1, c2, c3⟩ (fun hS2_ => ?_)
    clear hK_ hS_; have hS_ := hS2_; clear hS2_
    (try simp only [Act.put, List.setIfInBounds_toArray, List.set_cons_zero, List.set_cons_succ])
    refine wpAnyH_ready (rs := [8]) (by kernel_rfl) (by simp) ?_
    refine AllReadyH.cons (o := _) (by (simp only [List.getElem?_toArray, List.getElem?_cons_succ, List.getElem?_cons_zero]); rfl) (fun K_ hK_ => ?_) AllReadyH.nil
    rw [if_pos (by rfl)]
    go_simp
    go_at_call 19
    refine (okS _ (by first | exact hB | exact hB.drew | exact (Below.refl _ _).drew | exact Below.refl _ _)).mono ?_; rintro e W5 ⟨rfl, hB⟩; have c0 := XA.out.in1 hB; have c1 := XA.out.in2 hB; have c2 := XX.out.in1 hB; have c3 := XX.out.in2 hB
    refine hK_.out _ _ ⟨hB, c0, c1, c2, c3⟩ (fun hS2_ => ?_)
    clear hK_ hS_; have hS_ := hS2_; clear hS2_
    (try simp only [Act.put, List.setIfInBounds_toArray, List.set_cons_zero, List.set_cons_succ])
    refine takeV (i := 9) (v := .bool false) (by (simp only [List.getElem?_toArray, List.getElem?_cons_succ, List.getElem?_cons_zero]); rfl) (by kernel_rfl) (by kernel_rfl) (by kernel_rfl) (by rfl) (fun _ _ _ h => h) (Or.inl ⟨by rfl, ?_⟩) hS_ (by (simp only [List.setIfInBounds_toArray, List.set_cons_succ, List.set_cons_zero]); rfl) ?_
    · intro w_ hSw_; (try dsimp only at hSw_); go_simp
    refine takeV (i := 10) (v := .bool false) (by (simp only [List.getElem?_toArray, List.getElem?_cons_succ, List.getElem?_cons_zero]); rfl) (by kernel_rfl) (by kernel_rfl) (by kernel_rfl) (by rfl) (fun _ _ _ h => h) (Or.inl ⟨by rfl, ?_⟩) hS_ (by (simp only [List.setIfInBounds_toArray, List.set_cons_succ, List.set_cons_zero]); rfl) ?_
    · intro w_ hSw_; (try dsimp only at hSw_); go_simp
    refine takeV (i := 11) (v := .bool false) (by (simp only [List.getElem?_toArray, List.getElem?_cons_succ, List.getElem?_cons_zero]); rfl) (by kernel_rfl) (by kernel_rfl) (by kernel_rfl) (by rfl) (fun _ _ _ h => h) (Or.inl ⟨by rfl, ?_⟩) hS_ (by (simp only [List.setIfInBounds_toArray, List.set_cons_succ, List.set_cons_zero]); rfl) ?_
    · intro w_ hSw_; (try dsimp only at hSw_); go_simp
    refine takeV (i := 12) (v := .bool true) (by (simp only [List.getElem?_toArray, List.getElem?_cons_succ, List.getElem?_cons_zero]); rfl) (by kernel_rfl) (by kernel_rfl) (by kernel_rfl) (by rfl) (fun _ _ _ h => h) (Or.inl ⟨by rfl, ?_⟩) hS_ (by (simp only [List.setIfInBounds_toArray, List.set_cons_succ, List.set_cons_zero]); rfl) ?_
    · intro w_ hSw_; (try dsimp only at hSw_); go_simp
    refine takeV (i := 13) (v := .agg #[.string nm, .slice B k d]) (by (simp only [List.getElem?_toArray, List.getElem?_cons_succ, List.getElem?_cons_zero]); rfl) (by kernel_rfl) (by kernel_rfl) (by kernel_rfl) (by rfl) (fun _ _ _ h => h) (Or.inl ⟨by rfl, ?_⟩) hS_ (by (simp only [List.setIfInBounds_toArray, List.set_cons_succ, List.set_cons_zero]); rfl) ?_
    · intro w_ hSw_; (try dsimp only at hSw_); go_simp
    refine wpAnyH_ready (rs := [14]) (by kernel_rfl) (by simp) ?_
    refine AllReadyH.cons (o := _) (by (simp only [List.getElem?_toArray, List.getElem?_cons_succ, List.getElem?_cons_zero]); rfl) (fun K_ hK_ => ?_) AllReadyH.nil
    rw [if_pos (by rfl)]
    go_simp
    go_at_call 19
    refine (okS _ (by first | exact hB | exact hB.drew | exact (Below.refl _ _).drew | exact Below.refl _ _)).mono ?_; rintro e W5 ⟨rfl, hB⟩; have c0 := XA.out.in1 hB; have c1 := XA.out.in2 hB; have c2 := XX.out.in1 hB; have c3 := XX.out.in2 hB
    refine hK_.out _ _ ⟨hB, c0, c1, c2, c3⟩ (fun hS2_ => ?_)
    clear hK_ hS_; have hS_ := hS2_; clear hS2_
    (try simp only [Act.put, List.setIfInBounds_toArray, List.set_cons_zero, List.set_cons_succ])
    refine takeV (i := 15) (v := .bool false) (by (simp only [List.getElem?_toArray, List.getElem?_cons_succ, List.getElem?_cons_zero]); rfl) (by kernel_rfl) (by kernel_rfl) (by kernel_rfl) (by rfl) (fun _ _ _ h => h) (Or.inl ⟨by rfl, ?_⟩) hS_ (by (simp only [List.setIfInBounds_toArray, List.set_cons_succ, List.set_cons_zero]); rfl) ?_
    · intro w_ hSw_; (try dsimp only at hSw_); go_simp
    refine takeV (i := 16) (v := .bool false) (by (simp only [List.getElem?_toArray, List.getElem?_cons_succ, List.getElem?_cons_zero]); rfl) (by kernel_rfl) (by kernel_rfl) (by kernel_rfl) (by rfl) (fun _ _ _ h => h) (Or.inl ⟨by rfl, ?_⟩) hS_ (by (simp only [List.setIfInBounds_toArray, List.set_cons_succ, List.set_cons_zero]); rfl) ?_
    · intro w_ hSw_; (try dsimp only at hSw_); go_simp
    refine takeV (i := 17) (v := .bool false) (by (simp only [List.getElem?_toArray, List.getElem?_cons_succ, List.getElem?_cons_zero]); rfl) (by kernel_rfl) (by kernel_rfl) (by kernel_rfl) (by rfl) (fun _ _ _ h => h) (Or.inl ⟨by rfl, ?_⟩) hS_ (by (simp only [List.setIfInBounds_toArray, List.set_cons_succ, List.set_cons_zero]); rfl) ?_
    · intro w_ hSw_; (try dsimp only at hSw_); go_simp
    refine takeV (i := 18) (v := .bool true) (by (simp only [List.getElem?_toArray, List.getElem?_cons_succ, List.getElem?_cons_zero]); rfl) (by kernel_rfl) (by kernel_rfl) (by kernel_rfl) (by rfl) (fun _ _ _ h => h) (Or.inl ⟨by rfl, ?_⟩) hS_ (by (simp only [List.setIfInBounds_toArray, List.set_cons_succ, List.set_cons_zero]); rfl) ?_
    · intro w_ hSw_; (try dsimp only at hSw_); go_simp
    refine takeV (i := 19) (v := .bool true) (by (simp only [List.getElem?_toArray, List.getElem?_cons_succ, List.getElem?_cons_zero]); rfl) (by kernel_rfl) (by kernel_rfl) (by kernel_rfl) (by rfl) (fun _ _ _ h => h) (Or.inl ⟨by rfl, ?_⟩) hS_ (by (simp only [List.setIfInBounds_toArray, List.set_cons_succ, List.set_cons_zero]); rfl) ?_
    · intro w_ hSw_; (try dsimp only at hSw_); go_simp
    refine takeV (i := 20) (v := .agg #[.string r.1, .slice r.2.1 r.2.2.1 r.2.2.2.1]) (by (simp only [List.getElem?_toArray, List.getElem?_cons_succ, List.getElem?_cons_zero]); rfl) (by kernel_rfl) (by kernel_rfl) (by kernel_rfl) (by rfl) (fun _ _ _ h => h) (Or.inl ⟨by rfl, ?_⟩) hS_ (by (simp only [List.setIfInBounds_toArray, List.set_cons_succ, List.set_cons_zero]); rfl) ?_
    · intro w_ hSw_; (try dsimp only at hSw_); go_simp
    refine takeV (i := 21) (v := .agg #[.string nm, .slice B k d]) (by (simp only [List.getElem?_toArray, List.getElem?_cons_succ, List.getElem?_cons_zero]); rfl) (by kernel_rfl) (by kernel_rfl) (by kernel_rfl) (by rfl) (fun _ _ _ h => h) (Or.inl ⟨by rfl, ?_⟩) hS_ (by (simp only [List.setIfInBounds_toArray, List.set_cons_succ, List.set_cons_zero]); rfl) ?_
    · intro w_ hSw_; (try dsimp only at hSw_); go_simp
    refine wpAnyH_ready (rs := [22]) (by kernel_rfl) (by simp) ?_
    refine AllReadyH.cons (o := _) (by (simp only [List.getElem?_toArray, List.getElem?_cons_succ, List.getElem?_cons_zero]); rfl) (fun K_ hK_ => ?_) AllReadyH.nil
    rw [if_pos (by rfl)]
    go_simp
    go_at_call 20
    refine (fs_tells (nm := r.1) (nm' := nm) HX.out HT.out (show rAt r = (nm, ts) from hr) (by first | exact hB | exact hB.drew | exact (Below.refl _ _).drew | exact Below.refl _ _)).mono ?_; rintro e W5 ⟨rfl, hB⟩; have c0 := XA.out.in1 hB; have c1 := XA.out.in2 hB; have c2 := XX.out.in1 hB; have c3 := XX.out.in2 hB
    refine hK_.out _ _ ⟨hB, c0, c1, c2, c3⟩ (fun hS2_ => ?_)
    clear hK_ hS_; have hS_ := hS2_; clear hS2_
    (try simp only [Act.put, List.setIfInBounds_toArray, List.set_cons_zero, List.set_cons_succ])
    refine takeV (i := 23) (v := .bool false) (by (simp only [List.getElem?_toArray, List.getElem?_cons_succ, List.getElem?_cons_zero]); rfl) (by kernel_rfl) (by kernel_rfl) (by kernel_rfl) (by rfl) (fun _ _ _ h => h) (Or.inl ⟨by rfl, ?_⟩) hS_ (by (simp only [List.setIfInBounds_toArray, List.set_cons_succ, List.set_cons_zero]); rfl) ?_
    · intro w_ hSw_; (try dsimp only at hSw_); go_simp
    refine takeV (i := 24) (v := .bool false) (by (simp only [List.getElem?_toArray, List.getElem?_cons_succ, List.getElem?_cons_zero]); rfl) (by kernel_rfl) (by kernel_rfl) (by kernel_rfl) (by rfl) (fun _ _ _ h => h) (Or.inl ⟨by rfl, ?_⟩) hS_ (by (simp only [List.setIfInBounds_toArray, List.set_cons_succ, List.set_cons_zero]); rfl) ?_
    · intro w_ hSw_; (try dsimp only at hSw_); go_simp
    refine takeV (i := 25) (v := .bool false) (by (simp only [List.getElem?_toArray, List.getElem?_cons_succ, List.getElem?_cons_zero]); rfl) (by kernel_rfl) (by kernel_rfl) (by kernel_rfl) (by rfl) (fun _ _ _ h => h) (Or.inl ⟨by rfl, ?_⟩) hS_ (by (simp only [List.setIfInBounds_toArray, List.set_cons_succ, List.set_cons_zero]); rfl) ?_
    · intro w_ hSw_; (try dsimp only at hSw_); go_simp
    refine wpAnyH_done (by kernel_rfl) ?_ _
    have hB0 := Lib.hid hB; have q0 := Lib.hid c0; have q1 := Lib.hid c1; have q2 := Lib.hid c2; have q3 := Lib.hid c3
    clear hB c0 c1 c2 c3
    have hB := hB0.out; have c0 := q0.out; have c1 := q1.out; have c2 := q2.out; have c3 := q3.out
    clear c0 c1 c2 c3 q0 q1 q2 q3 hB0
    have HW5 := Lib.hid (belowThen HW.out hB)
    clear hB HT XA HX XX
    go_wp2_with fail
    refine (drawAtomGet_any A' n' c' _ (H'.out.up HW5.out)).mono ?_; rintro e w6 ⟨t, ⟨rfl, ht6⟩, hb6⟩
    have HW6 := Lib.hid (belowThen HW5.out hb6)
    clear hb6 HW5
    have hm6 := hm.below HW6.out
    go_wp2_with fail
    refine (implAtomGet_any t w6 (by omega) hm6).mono ?_; rintro e w7 ⟨y, rfl, hH7, hr7, hb7⟩
    unfold rfVal
    have HP := below1 w7 (.cells #[.string y.1, .slice y.2.1 y.2.2.1 y.2.2.2.1] 24)
    have HY8 := Lib.hid ((hH7.2.1.keep (w' := w7) (lo' := 0) (hi' := w7.heap.size) (fun _ _ _ => rfl) (Nat.zero_le _) (Nat.le_refl _)).up HP)
    have XY8 := Lib.hid (Box.new w7 (.string y.1) (.slice y.2.1 y.2.2.1 y.2.2.2.1) 24)
    have HW8 := Lib.hid (belowThen HW6.out (belowThen hb7 HP))
    have HYZ := Lib.hid hH7.1
    clear hH7 hb7 HP HW6
    go_wp2_with fail
    refine (specAtomGet_any t _ (by omega)).mono ?_; rintro e w9 ⟨z, rfl, hH9, hr9, hb9⟩
    unfold rfVal
    have HP := below1 w9 (.cells #[.string z.1, .slice z.2.1 z.2.2.1 z.2.2.2.1] 24)
    have HZ := Lib.hid ((hH9.2.1.keep (w' := w9) (lo' := 0) (hi' := w9.heap.size) (fun _ _ _ => rfl) (Nat.zero_le _) (Nat.le_refl _)).up HP)
    have XZ := Lib.hid (Box.new w9 (.string z.1) (.slice z.2.1 z.2.2.1 z.2.2.2.1) 24)
    have HY := Lib.hid (HY8.out.up (belowThen hb9 HP)); have XY := Lib.hid (XY8.out.later (belowThen hb9 HP)); have HW9 := Lib.hid (belowThen HW8.out (belowThen hb9 HP))
    clear hH9 hb9 HP HY8 XY8 HW8
    obtain ⟨_, y0, y1⟩ := XY.out
    obtain ⟨_, z0, z1⟩ := XZ.out
    cases hg : getB t.data.toList with
    | none =>
      rw [hg] at hr7 hr9
      rw [show (none : Option At).isSome = false from rfl]
      go_wp2_with fail
      refine (fs_tells (nm := y.1) (nm' := z.1) HY.out HZ.out (show rAt y = rAt z from hr7.trans hr9.symm) (Below.refl _ _)).mono ?_; rintro e w10 ⟨rfl, hb10⟩
      have HW10 := belowThen HW9.out hb10
      clear hb10
      go_wp2
      go_ret; exact ⟨rfl, HW10⟩
    | some a =>
      rw [hg] at hr7 hr9
      have hpt := putB_get hg
      have hya : rAt y = a := hr7
      rw [show (some a : Option At).isSome = true from rfl]
      go_wp2_with fail
      refine (fs_tells (nm := y.1) (nm' := z.1) HY.out HZ.out (show rAt y = rAt z from hr7.trans hr9.symm) (Below.refl _ _)).mono ?_; rintro e w10 ⟨rfl, hb10⟩
      have HW10 := belowThen HW9.out hb10
      have HY10 := HY.out.up hb10
      have c0 := XY.out.in1 hb10; have c1 := XY.out.in2 hb10
      clear hb10 y0 y1 z0 z1
      go_wp2_with fail
      refine (implAtomPut_any y.1 y.2.1 y.2.2.1 y.2.2.2.1 y.2.2.2.2 w10 HYZ.out HY10).mono ?_; rintro e w11 ⟨rfl, hb11⟩
      have hpe : (putB (y.1, y.2.2.2.2) == t.toList) = true := by rw [toList_data, show (y.1, y.2.2.2.2) = a from hya, hpt]; exact beq_self_eq_true _
      have HW11 := belowThen HW10 hb11
      clear hb11
      go_wp2
      go_ret; exact ⟨rfl, HW11⟩

end Go.Proofs.YtahkkelahocplaaDoor
