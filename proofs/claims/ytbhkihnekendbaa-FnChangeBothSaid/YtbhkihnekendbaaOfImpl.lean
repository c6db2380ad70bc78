/-
  The change from facts to others, in the program.
-/
import Derived.Test.YtbhkihnekendbaaChangeOf
namespace Go.Proofs.Ytbhkihnekendbaa
open Go.RowKit
attribute [local go_sem] run_store_func

set_option maxRecDepth 100000 in
set_option maxHeartbeats 4000000 in
theorem implChangeOf_any (A : Option Addr) (n c : Nat) (xs : List At) (B : Option Addr) (n' c' : Nat) (ys : List At) (w : World) (h : IsAtoms w 0 w.heap.size A n c xs) (h' : IsAtoms w 0 w.heap.size B n' c' ys) :
    Calls Try.prog 26 #[.slice A n c, .slice B n' c'] w (OwnKPost (ofL xs ys) w) := by
  have H := Lib.hid h; have H' := Lib.hid h'; clear h h'
  have HX := Lib.hid H.out.1; have HY := Lib.hid H'.out.1
  have hw1 := below1 w (.cells #[.slice none 0 0, .slice none 0 0] 38)
  have B1 := Blk.new w 38 #[.slice none 0 0, .slice none 0 0]
  go_enter Try.func26, Try.ntmps26
  go_wp2_with fail
  refine (implFactsOk_any A n c xs _ (H.out.up AtomE.stays hw1)).mono ?_; rintro e w2 ⟨rfl, hb2⟩
  have HB2 := belowThen hw1 hb2
  have B2 := B1.below hb2
  by_cases hx : (!factsB 300 xs) = true
  · have E := Lib.hid (ofL_no1 (ys := ys) hx)
    have b0 : w2.cell? ⟨w.heap.size, 0, none⟩ = some (.slice none 0 0) := B2.cell 0
    have b1 : w2.cell? ⟨w.heap.size, 1, none⟩ = some (.slice none 0 0) := B2.cell 1
    have f0 := B2.frozen 0
    have f1 := B2.frozen 1
    go_wp2
    refine bodyPost_ret (v := .agg #[.slice none 0 0, .slice none 0 0]) (by simp [results, Try.results26, go_sem, b0, b1]) rfl (own_neither E.out ((HB2.setCell (Nat.le_refl _) _).setCell (Nat.le_refl _) _))
  · have hx' : (!factsB 300 xs) = false := by simpa using hx
    clear hx
    go_wp2_with fail
    refine (implFactsOk_any B n' c' ys _ (H'.out.up AtomE.stays HB2)).mono ?_; rintro e w3 ⟨rfl, hb3⟩
    have HB3 := belowThen HB2 hb3
    have B3 := B2.below hb3
    by_cases hy : (!factsB 300 ys) = true
    · have E := Lib.hid (ofL_no2 (xs := xs) hy)
      have b0 : w3.cell? ⟨w.heap.size, 0, none⟩ = some (.slice none 0 0) := B3.cell 0
      have b1 : w3.cell? ⟨w.heap.size, 1, none⟩ = some (.slice none 0 0) := B3.cell 1
      have f0 := B3.frozen 0
      have f1 := B3.frozen 1
      go_wp2
      refine bodyPost_ret (v := .agg #[.slice none 0 0, .slice none 0 0]) (by simp [results, Try.results26, go_sem, b0, b1]) rfl (own_neither E.out ((HB3.setCell (Nat.le_refl _) _).setCell (Nat.le_refl _) _))
    · have hy' : (!factsB 300 ys) = false := by simpa using hy
      clear hy
      have hrx := Lib.hid (factsB_rises (show factsB 300 xs = true by simpa using hx'))
      have hry := Lib.hid (factsB_rises (show factsB 300 ys = true by simpa using hy'))
      have sx := Lib.hid (facts_small (n := n) (facts_all (show factsB 300 xs = true by simpa using hx')) (by have := factsB_len (show factsB 300 xs = true by simpa using hx'); have := HX.out; omega))
      have sy := Lib.hid (facts_small (n := n') (facts_all (show factsB 300 ys = true by simpa using hy')) (by have := factsB_len (show factsB 300 ys = true by simpa using hy'); have := HY.out; omega))
      have E := Lib.hid (ofL_yes hx' hy')
      go_wp2_with fail
      refine (factList_any A n c _).mono ?_; rintro e w4 ⟨rfl, hb4⟩
      unfold listV
      have HB4 := belowThen HB3 hb4
      have B4 := B3.below hb4
      go_wp2_with fail
      refine (factList_any B n' c' _).mono ?_; rintro e w5 ⟨rfl, hb5⟩
      unfold listV
      have HB5 := belowThen HB4 hb5
      have B5 := B4.below hb5
      go_wp2_with fail
      have D6 : Blk ((w5.alloc (.cells #[.slice A n c, .func (.func 133) #[] #[]] 100)).alloc (.cells #[.slice B n' c', .func (.func 133) #[] #[]] 100)) (w5.heap.size) 100 #[.slice A n c, .func (.func 133) #[] #[]] := (Blk.new w5 _ _).alloc _
      have F6 : Blk ((w5.alloc (.cells #[.slice A n c, .func (.func 133) #[] #[]] 100)).alloc (.cells #[.slice B n' c', .func (.func 133) #[] #[]] 100)) (w5.heap.size + 1) 100 #[.slice B n' c', .func (.func 133) #[] #[]] := Blk.made _ _ _ (by simp)
      have B6 := (B5.alloc (.cells #[.slice A n c, .func (.func 133) #[] #[]] 100)).alloc (.cells #[.slice B n' c', .func (.func 133) #[] #[]] 100)
      have HB6 := belowThen HB5 (below2 w5 (.cells #[.slice A n c, .func (.func 133) #[] #[]] 100) (.cells #[.slice B n' c', .func (.func 133) #[] #[]] 100))
      obtain ⟨X6, hX6⟩ : ∃ X, (w5.alloc (.cells #[.slice A n c, .func (.func 133) #[] #[]] 100)).alloc (.cells #[.slice B n' c', .func (.func 133) #[] #[]] 100) = X := ⟨_, rfl⟩
      rw [hX6] at D6 F6 B6 HB6 ⊢; clear hX6
      have D7 : Blk X6.drew (w5.heap.size) 100 #[.slice A n c, .func (.func 133) #[] #[]] := D6
      have F7 : Blk X6.drew (w5.heap.size + 1) 100 #[.slice B n' c', .func (.func 133) #[] #[]] := F6
      have B7 : Blk X6.drew w.heap.size 38 #[.slice none 0 0, .slice none 0 0] := B6
      have HB7 := HB6.drew
      have hz5 : w.heap.size < w5.heap.size := B5.lt
      clear D6 F6 B6 HB6 B1 B2 B3 B4 B5 hb2 hb3 hb4 hb5 hw1
      obtain ⟨V7, hV7⟩ : ∃ X, X6.drew = X := ⟨_, rfl⟩
      rw [hV7] at D7 F7 B7 HB7
      obtain ⟨ra, R1, ea⟩ := refs_of H.out
      obtain ⟨rb, R2, eb⟩ := refs_of H'.out
      have lx : ra.length ≤ 300 := by have h1 : ra.length = xs.length := by rw [← ea]; simp
                                      have := factsB_len (show factsB 300 xs = true by simpa using hx'); omega
      have ly : rb.length ≤ 300 := by have h1 : rb.length = ys.length := by rw [← eb]; simp
                                      have := factsB_len (show factsB 300 ys = true by simpa using hy'); omega
      have RA := Lib.hid R1; have RB := Lib.hid R2; clear R1 R2
      obtain ⟨L1, hL1⟩ : ∃ z, selR 0 (mergeR rb ra) = z := ⟨_, rfl⟩
      have LR1 := Lib.hid hL1; clear hL1
      have PD1 := Lib.hid (show L1.map rAt = lessL ys xs from by rw [← LR1.out, (sel_first rb ra (by rw [eb]; exact hry.out) (by rw [ea]; exact hrx.out)).1, ← eb, ← ea]; unfold lessL; rw [List.filter_map]; rfl)
      obtain ⟨P1, hP1⟩ : ∃ z, lessL ys xs = z := ⟨_, rfl⟩
      have hl1 : L1.length = P1.length := by rw [← hP1, ← PD1.out, List.length_map]
      have hs1 := less_le ys xs; rw [hP1] at hs1; have ht1 := factsB_len (show factsB 300 ys = true by simpa using hy')
      have SM1 := Lib.hid (show SmallAtoms L1.length P1 from facts_small (by rw [← hP1]; exact less_all (facts_all (show factsB 300 ys = true by simpa using hy'))) (by omega))
      clear hl1 hs1 ht1
      rw [hP1] at PD1 E; have HP1 := Lib.hid hP1; clear hP1
      obtain ⟨L2, hL2⟩ : ∃ z, selR 0 (mergeR ra rb) = z := ⟨_, rfl⟩
      have LR2 := Lib.hid hL2; clear hL2
      have PD2 := Lib.hid (show L2.map rAt = lessL xs ys from by rw [← LR2.out, (sel_first ra rb (by rw [ea]; exact hrx.out) (by rw [eb]; exact hry.out)).1, ← ea, ← eb]; unfold lessL; rw [List.filter_map]; rfl)
      obtain ⟨P2, hP2⟩ : ∃ z, lessL xs ys = z := ⟨_, rfl⟩
      have hl2 : L2.length = P2.length := by rw [← hP2, ← PD2.out, List.length_map]
      have hs2 := less_le xs ys; rw [hP2] at hs2; have ht2 := factsB_len (show factsB 300 xs = true by simpa using hx')
      have SM2 := Lib.hid (show SmallAtoms L2.length P2 from facts_small (by rw [← hP2]; exact less_all (facts_all (show factsB 300 xs = true by simpa using hx'))) (by omega))
      clear hl2 hs2 ht2
      rw [hP2] at PD2 E; have HP2 := Lib.hid hP2; clear hP2
      have hm1 : rb.length + ra.length ≤ 1099511627776 := by omega
      have hm2 : ra.length + rb.length ≤ 1099511627776 := by omega
      clear hx' hy' ea eb lx ly
      refine wp_region_held_drew (S := fun W => (W.cell? ⟨w5.heap.size, 0, none⟩ = some (.slice A n c) ∧ W.cell? ⟨w5.heap.size, 1, none⟩ = some (.func (.func 133) #[] #[])) ∧ W.cell? ⟨w5.heap.size + 1, 0, none⟩ = some (.slice B n' c') ∧ W.cell? ⟨w5.heap.size + 1, 1, none⟩ = some (.func (.func 133) #[] #[])) (by kernel_rfl) (by rw [hV7]; exact ⟨⟨D7.cell 0, D7.cell 1⟩, F7.cell 0, F7.cell 1⟩) ?_
      rw [hV7]
      intro hS_
      refine takeV (i := 0) (v := .agg #[.slice B n' c', .func (.func 133) #[] #[]]) (by (simp only [List.getElem?_toArray, List.getElem?_cons_zero]); rfl) (by kernel_rfl) (by kernel_rfl) (by kernel_rfl) (by rfl) (fun _ _ _ h => h) (Or.inl ⟨by rfl, ?_⟩) hS_ (by (simp only [List.setIfInBounds_toArray, List.set_cons_succ, List.set_cons_zero]); rfl) ?_
      · intro w_ hSw_; (try dsimp only at hSw_); go_simp
      refine takeV (i := 1) (v := .agg #[.slice A n c, .func (.func 133) #[] #[]]) (by (simp only [List.getElem?_toArray, List.getElem?_cons_succ, List.getElem?_cons_zero]); rfl) (by kernel_rfl) (by kernel_rfl) (by kernel_rfl) (by rfl) (fun _ _ _ h => h) (Or.inl ⟨by rfl, ?_⟩) hS_ (by (simp only [List.setIfInBounds_toArray, List.set_cons_succ, List.set_cons_zero]); rfl) ?_
      · intro w_ hSw_; (try dsimp only at hSw_); go_simp
      refine takeV (i := 5) (v := .agg #[.slice A n c, .func (.func 133) #[] #[]]) (by (simp only [List.getElem?_toArray, List.getElem?_cons_succ, List.getElem?_cons_zero]); rfl) (by kernel_rfl) (by kernel_rfl) (by kernel_rfl) (by rfl) (fun _ _ _ h => h) (Or.inl ⟨by rfl, ?_⟩) hS_ (by (simp only [List.setIfInBounds_toArray, List.set_cons_succ, List.set_cons_zero]); rfl) ?_
      · intro w_ hSw_; (try dsimp only at hSw_); go_simp
      refine takeV (i := 6) (v := .agg #[.slice B n' c', .func (.func 133) #[] #[]]) (by (simp only [List.getElem?_toArray, List.getElem?_cons_succ, List.getElem?_cons_zero]); rfl) (by kernel_rfl) (by kernel_rfl) (by kernel_rfl) (by rfl) (fun _ _ _ h => h) (Or.inl ⟨by rfl, ?_⟩) hS_ (by (simp only [List.setIfInBounds_toArray, List.set_cons_succ, List.set_cons_zero]); rfl) ?_
      · intro w_ hSw_; (try dsimp only at hSw_); go_simp
      refine wpAnyH_ready (rs := [2]) (by kernel_rfl) (by simp) ?_
      refine AllReadyH.cons (o := _) (by (simp only [List.getElem?_toArray, List.getElem?_cons_succ, List.getElem?_cons_zero]); rfl) (fun K_ hK_ => ?_) AllReadyH.nil
      rw [if_pos (by rfl)]
      go_simp
      go_at_call 84
      refine (without_any B A n' c' n c rb ra _ (RB.out.up RefE.stays HB7) (RA.out.up RefE.stays HB7) hm1).mono ?_; rintro e V8 ⟨A1, c1, rfl, hI, hb, -⟩
      have HB8 := belowThen HB7 hb
      have hz8 := hb.size
      have D8 := D7.below hb
      have F8 := F7.below hb
      have B8 := B7.below hb
      rw [LR1.out] at hI ⊢
      have I1 := hI.atoms
      rw [PD1.out] at I1
      clear hb hI
      refine hK_.out _ _ ⟨⟨D8.cell 0, D8.cell 1⟩, F8.cell 0, F8.cell 1⟩ (fun hS2_ => ?_)
      clear hK_ hS_; have hS_ := hS2_; clear hS2_
      (try simp only [Act.put, List.setIfInBounds_toArray, List.set_cons_zero, List.set_cons_succ])
      refine takeV (i := 3) (v := .slice A1 L1.length c1) (by (simp only [List.getElem?_toArray, List.getElem?_cons_succ, List.getElem?_cons_zero]); rfl) (by kernel_rfl) (by kernel_rfl) (by kernel_rfl) (by rfl) (fun _ _ _ h => h) (Or.inl ⟨by rfl, ?_⟩) hS_ (by (simp only [List.setIfInBounds_toArray, List.set_cons_succ, List.set_cons_zero]); rfl) ?_
      · intro w_ hSw_; (try dsimp only at hSw_); go_simp; rw [field_items]; rfl
      refine wpAnyH_ready (rs := [4]) (by kernel_rfl) (by simp) ?_
      refine AllReadyH.cons (o := _) (by (simp only [List.getElem?_toArray, List.getElem?_cons_succ, List.getElem?_cons_zero]); rfl) (fun K_ hK_ => ?_) AllReadyH.nil
      rw [if_pos (by rfl)]
      go_simp
      go_at_call 74
      refine (copyAtoms_any A1 L1.length c1 P1 _ I1 SM1.out).mono ?_; rintro e V9 ⟨A3, c3, r3, rfl, ho, hm, hb⟩
      have HB9 := belowThen HB8 hb
      have hz9 := hb.size
      have D9 := D8.below hb
      have F9 := F8.below hb
      have B9 := B8.below hb
      have O3 := Lib.hid ho; have M3 := Lib.hid hm; clear ho hm hb
      refine hK_.out _ _ ⟨⟨D9.cell 0, D9.cell 1⟩, F9.cell 0, F9.cell 1⟩ (fun hS2_ => ?_)
      clear hK_ hS_; have hS_ := hS2_; clear hS2_
      (try simp only [Act.put, List.setIfInBounds_toArray, List.set_cons_zero, List.set_cons_succ])
      refine wpAnyH_ready (rs := [7]) (by kernel_rfl) (by simp) ?_
      refine AllReadyH.cons (o := _) (by (simp only [List.getElem?_toArray, List.getElem?_cons_succ, List.getElem?_cons_zero]); rfl) (fun K_ hK_ => ?_) AllReadyH.nil
      rw [if_pos (by rfl)]
      go_simp
      go_at_call 84
      refine (without_any A B n c n' c' ra rb _ (RA.out.up RefE.stays HB9) (RB.out.up RefE.stays HB9) hm2).mono ?_; rintro e V10 ⟨A4, c4, rfl, hI, hb, -⟩
      have HB10 := belowThen HB9 hb
      have hz10 := hb.size
      have D10 := D9.below hb
      have F10 := F9.below hb
      have B10 := B9.below hb
      have hk1 := hb
      rw [LR2.out] at hI ⊢
      have I2 := hI.atoms
      rw [PD2.out] at I2
      clear hb hI
      refine hK_.out _ _ ⟨⟨D10.cell 0, D10.cell 1⟩, F10.cell 0, F10.cell 1⟩ (fun hS2_ => ?_)
      clear hK_ hS_; have hS_ := hS2_; clear hS2_
      (try simp only [Act.put, List.setIfInBounds_toArray, List.set_cons_zero, List.set_cons_succ])
      refine takeV (i := 8) (v := .slice A4 L2.length c4) (by (simp only [List.getElem?_toArray, List.getElem?_cons_succ, List.getElem?_cons_zero]); rfl) (by kernel_rfl) (by kernel_rfl) (by kernel_rfl) (by rfl) (fun _ _ _ h => h) (Or.inl ⟨by rfl, ?_⟩) hS_ (by (simp only [List.setIfInBounds_toArray, List.set_cons_succ, List.set_cons_zero]); rfl) ?_
      · intro w_ hSw_; (try dsimp only at hSw_); go_simp; rw [field_items]; rfl
      refine wpAnyH_ready (rs := [9]) (by kernel_rfl) (by simp) ?_
      refine AllReadyH.cons (o := _) (by (simp only [List.getElem?_toArray, List.getElem?_cons_succ, List.getElem?_cons_zero]); rfl) (fun K_ hK_ => ?_) AllReadyH.nil
      rw [if_pos (by rfl)]
      go_simp
      go_at_call 74
      refine (copyAtoms_any A4 L2.length c4 P2 _ I2 SM2.out).mono ?_; rintro e V11 ⟨A5, c5, r5, rfl, ho, hm, hb⟩
      have HB11 := belowThen HB10 hb
      have hz11 := hb.size
      have D11 := D10.below hb
      have F11 := F10.below hb
      have B11 := B10.below hb
      have hk2 := belowThen hk1 hb
      have O5 := Lib.hid ho; have M5 := Lib.hid hm; clear ho hm hb
      refine hK_.out _ _ ⟨⟨D11.cell 0, D11.cell 1⟩, F11.cell 0, F11.cell 1⟩ (fun hS2_ => ?_)
      clear hK_ hS_; have hS_ := hS2_; clear hS2_
      (try simp only [Act.put, List.setIfInBounds_toArray, List.set_cons_zero, List.set_cons_succ])
      refine takeV (i := 10) (v := .agg #[.slice A3 P1.length c3, .slice A5 P2.length c5]) (by (simp only [List.getElem?_toArray, List.getElem?_cons_succ, List.getElem?_cons_zero]); rfl) (by kernel_rfl) (by kernel_rfl) (by kernel_rfl) (by rfl) (fun _ _ _ h => h) (Or.inl ⟨by rfl, ?_⟩) hS_ (by (simp only [List.setIfInBounds_toArray, List.set_cons_succ, List.set_cons_zero]); rfl) ?_
      · intro w_ hSw_; (try dsimp only at hSw_); go_simp
      refine wpAnyH_ready (rs := [11]) (by kernel_rfl) (by simp) ?_
      refine AllReadyH.cons (o := _) (by (simp only [List.getElem?_toArray, List.getElem?_cons_succ, List.getElem?_cons_zero]); rfl) (fun K_ hK_ => ?_) AllReadyH.nil
      have b0 : V11.cell? ⟨w.heap.size, 0, none⟩ = some (.slice none 0 0) := B11.cell 0
      have b1 : V11.cell? ⟨w.heap.size, 1, none⟩ = some (.slice none 0 0) := B11.cell 1
      have f0 := B11.frozen 0; have f1 := B11.frozen 1
      obtain ⟨n4, hn4⟩ : ∃ z, P1.length = z := ⟨_, rfl⟩; have N4 := Lib.hid hn4; rw [hn4]; clear hn4
      obtain ⟨n5, hn5⟩ : ∃ z, P2.length = z := ⟨_, rfl⟩; have N5 := Lib.hid hn5; rw [hn5]; clear hn5
      rw [if_pos (by rfl)]
      go_simp
      refine hK_.out _ _ ⟨⟨((D11.far (by simp only; omega) _).far (by simp only; omega) _).cell 0, ((D11.far (by simp only; omega) _).far (by simp only; omega) _).cell 1⟩, ((F11.far (by simp only; omega) _).far (by simp only; omega) _).cell 0, ((F11.far (by simp only; omega) _).far (by simp only; omega) _).cell 1⟩ (fun hS2_ => ?_)
      clear hK_ hS_; have hS_ := hS2_; clear hS2_
      (try simp only [Act.put, List.setIfInBounds_toArray, List.set_cons_zero, List.set_cons_succ])
      refine wpAnyH_done (by kernel_rfl) ?_ _
      clear hS_
      go_wp2
      refine bodyPost_ret (v := .agg #[.slice A3 n4 c3, .slice A5 n5 c5]) (by simp [results, Try.results26, go_sem, b0, b1]) rfl ?_
      rw [← N4.out, ← N5.out]
      exact own_both E.out O3.out M3.out O5.out M5.out hk2 hz9 hz10 (Nat.le_refl _) B8.lt HB11 _ _

end Go.Proofs.Ytbhkihnekendbaa
