/-
  ChangeBoth, in the program. (Written by tools/later.py and tools/bothimpl.py.)
-/
import Derived.Test.YtbhkihnekendbaaBoth
namespace Go.Proofs.Ytbhkihnekendbaa
open Go.RowKit
attribute [local go_sem] run_store_func

set_option maxRecDepth 100000 in
set_option maxHeartbeats 8000000 in
theorem laterWins_any (A : Option Addr) (n c : Nat) (xs : List At) (B : Option Addr) (m d : Nat) (cs : List At) (D : Option Addr) (m' d' : Nat) (gs : List At) (w : World) (h : IsAtoms w 0 w.heap.size A n c xs) (h1 : IsAtoms w 0 w.heap.size B m d cs) (h2 : IsAtoms w 0 w.heap.size D m' d' gs)
    (fx : factsB 300 xs = true) (fc : factsB 300 cs = true) (fg : factsB 300 gs = true) :
    Calls Try.prog 91 #[.slice A n c, .slice B m d, .slice D m' d'] w (CopySPost (doL xs cs gs) w) := by
  have H := Lib.hid h; have H1 := Lib.hid h1; have H2 := Lib.hid h2; clear h h1 h2
  obtain ⟨ra, R1, ea⟩ := refs_of H.out; obtain ⟨rc, R2, ec⟩ := refs_of H1.out; obtain ⟨rg, R3, eg⟩ := refs_of H2.out
  have la : ra.length ≤ 300 := by rw [show ra.length = xs.length by rw [← ea]; simp]; exact factsB_len fx
  have lc : rc.length ≤ 300 := by rw [show rc.length = cs.length by rw [← ec]; simp]; exact factsB_len fc
  have lg : rg.length ≤ 300 := by rw [show rg.length = gs.length by rw [← eg]; simp]; exact factsB_len fg
  have RA := Lib.hid R1; have RC := Lib.hid R2; have RG := Lib.hid R3; clear R1 R2 R3
  obtain ⟨L1, hL1⟩ : ∃ z, selR 0 (mergeR ra rg) = z := ⟨_, rfl⟩
  have PD1 : L1.map rAt = lessL xs gs := by rw [← hL1, (sel_first ra rg (by rw [ea]; exact factsB_rises fx) (by rw [eg]; exact factsB_rises fg)).1, ← ea, ← eg]; unfold lessL; rw [List.filter_map]; rfl
  have ll : L1.length ≤ 300 := by rw [show L1.length = (lessL xs gs).length by rw [← PD1]; simp]; exact Nat.le_trans (less_le _ _) (factsB_len fx)
  obtain ⟨L2, hL2⟩ : ∃ z, allR (mergeR L1 rc) = z := ⟨_, rfl⟩
  have PD2 : L2.map rAt = doL xs cs gs := by
    have := merge_puts (ra := L1) (rb := rc) (by rw [PD1]; exact less_all (facts_all fx)) (by rw [ec]; exact facts_all fc) (by rw [PD1]; exact less_rises (factsB_rises fx)) (by rw [ec]; exact factsB_rises fc)
    rw [← hL2]; unfold allR; rw [List.map_map]; rw [PD1, ec] at this; exact this
  have LR1 := Lib.hid hL1; have LR2 := Lib.hid hL2
  have hm1 : ra.length + rg.length ≤ 1099511627776 := by omega
  have hm2 : L1.length + rc.length ≤ 1099511627776 := by omega
  obtain ⟨fa, _, fl⟩ := do_all (gs := gs) (facts_all fx) (factsB_rises fx) (facts_all fc)
  have lx := factsB_len fx; have lcs := factsB_len fc
  obtain ⟨P, hP⟩ : ∃ z, doL xs cs gs = z := ⟨_, rfl⟩
  rw [hP] at PD2 fa fl ⊢
  have hll : L2.length = P.length := by rw [← PD2, List.length_map]
  have SM := Lib.hid (facts_small (n := L2.length) fa (by omega))
  have HPD := Lib.hid PD2
  clear hL1 hL2 PD1 PD2 hP fa fl lx lcs hll ea ec eg la lc lg ll fx fc fg
  go_enter Try.func91, Try.ntmps91
  go_wp2_with fail
  refine (factList_any A n c _).mono ?_; rintro e w1 ⟨rfl, hb1⟩
  unfold listV
  go_wp2_with fail
  refine (factList_any D m' d' _).mono ?_; rintro e w2 ⟨rfl, hb2⟩
  unfold listV
  have HB2 := belowThen hb1 hb2
  clear hb1 hb2
  go_wp2_with fail
  refine (without_any A D n c m' d' ra rg _ (RA.out.up RefE.stays HB2) (RG.out.up RefE.stays HB2) hm1).mono ?_; rintro e w3 ⟨A1, c1, rfl, hI, hb3, -⟩
  rw [LR1.out] at hI ⊢
  have I3 := Lib.hid hI
  have HB3 := belowThen HB2 hb3
  clear hI hb3 HB2
  go_wp2_with fail
  have T7 : Blk (w3.alloc (.cells #[.slice A1 L1.length c1, .func (.func 133) #[] #[]] 100)).drew w3.heap.size 100 #[.slice A1 L1.length c1, .func (.func 133) #[] #[]] := Blk.new w3 _ _
  have HB7 : Below w.heap.size w (w3.alloc (.cells #[.slice A1 L1.length c1, .func (.func 133) #[] #[]] 100)).drew := (belowThen HB3 (below1 w3 _)).drew
  have I7 : Hid (IsRefs (w3.alloc (.cells #[.slice A1 L1.length c1, .func (.func 133) #[] #[]] 100)).drew 0 (w3.alloc (.cells #[.slice A1 L1.length c1, .func (.func 133) #[] #[]] 100)).drew.heap.size A1 L1.length c1 L1) := Lib.hid ((I3.out.up RefE.stays (below1 w3 _)).keep RefE.stays (fun _ _ _ => rfl) (Nat.le_refl _) (Nat.le_refl _))
  obtain ⟨V7, hV7⟩ : ∃ X, (w3.alloc (.cells #[.slice A1 L1.length c1, .func (.func 133) #[] #[]] 100)).drew = X := ⟨_, rfl⟩
  rw [hV7] at T7 HB7 I7
  refine wp_region_held_drew (S := fun W => W.cell? ⟨w3.heap.size, 0, none⟩ = some (.slice A1 L1.length c1) ∧ W.cell? ⟨w3.heap.size, 1, none⟩ = some (.func (.func 133) #[] #[])) (by kernel_rfl) (by rw [hV7]; exact ⟨T7.cell 0, T7.cell 1⟩) ?_
  rw [hV7]
  intro hS_
  refine takeV (i := 0) (v := .agg #[.slice A1 L1.length c1, .func (.func 133) #[] #[]]) (by (simp only [List.getElem?_toArray, List.getElem?_cons_zero]); rfl) (by kernel_rfl) (by kernel_rfl) (by kernel_rfl) (by rfl) (fun _ _ _ h => h) (Or.inl ⟨by rfl, ?_⟩) hS_ (by (simp only [List.setIfInBounds_toArray, List.set_cons_succ, List.set_cons_zero]); rfl) ?_
  · intro w_ hSw_; (try dsimp only at hSw_); go_simp
  refine takeV (i := 1) (v := .slice B m d) (by (simp only [List.getElem?_toArray, List.getElem?_cons_succ, List.getElem?_cons_zero]); rfl) (by kernel_rfl) (by kernel_rfl) (by kernel_rfl) (by rfl) (fun _ _ _ h => h) (Or.inl ⟨by rfl, ?_⟩) hS_ (by (simp only [List.setIfInBounds_toArray, List.set_cons_succ, List.set_cons_zero]); rfl) ?_
  · intro w_ hSw_; (try dsimp only at hSw_); go_simp
  refine wpAnyH_ready (rs := [2]) (by kernel_rfl) (by simp) ?_
  refine AllReadyH.cons (o := _) (by (simp only [List.getElem?_toArray, List.getElem?_cons_succ, List.getElem?_cons_zero]); rfl) (fun K_ hK_ => ?_) AllReadyH.nil
  rw [if_pos (by rfl)]
  go_simp
  go_at_call 72
  refine (factList_any B m d _).mono ?_; rintro e V8 ⟨rfl, hb⟩
  have HB8 := belowThen HB7 hb
  have T8 := T7.below hb
  unfold listV
  have I8 := Lib.hid (I7.out.up RefE.stays hb)
  clear hb
  refine hK_.out _ _ ⟨T8.cell 0, T8.cell 1⟩ (fun hS2_ => ?_)
  clear hK_ hS_; have hS_ := hS2_; clear hS2_
  (try simp only [Act.put, List.setIfInBounds_toArray, List.set_cons_zero, List.set_cons_succ])
  refine wpAnyH_ready (rs := [3]) (by kernel_rfl) (by simp) ?_
  refine AllReadyH.cons (o := _) (by (simp only [List.getElem?_toArray, List.getElem?_cons_succ, List.getElem?_cons_zero]); rfl) (fun K_ hK_ => ?_) AllReadyH.nil
  rw [if_pos (by rfl)]
  go_simp
  go_at_call 75
  refine (with_any A1 B L1.length c1 m d L1 rc _ I8.out (RC.out.up RefE.stays HB8) hm2).mono ?_; rintro e V9 ⟨A2, c2, rfl, hI, hb, -⟩
  have HB9 := belowThen HB8 hb
  have T9 := T8.below hb
  rw [LR2.out] at hI ⊢
  have I9 := hI.atoms
  rw [HPD.out] at I9
  clear hb hI
  refine hK_.out _ _ ⟨T9.cell 0, T9.cell 1⟩ (fun hS2_ => ?_)
  clear hK_ hS_; have hS_ := hS2_; clear hS2_
  (try simp only [Act.put, List.setIfInBounds_toArray, List.set_cons_zero, List.set_cons_succ])
  refine takeV (i := 4) (v := .slice A2 L2.length c2) (by (simp only [List.getElem?_toArray, List.getElem?_cons_succ, List.getElem?_cons_zero]); rfl) (by kernel_rfl) (by kernel_rfl) (by kernel_rfl) (by rfl) (fun _ _ _ h => h) (Or.inl ⟨by rfl, ?_⟩) hS_ (by (simp only [List.setIfInBounds_toArray, List.set_cons_succ, List.set_cons_zero]); rfl) ?_
  · intro w_ hSw_; (try dsimp only at hSw_); go_simp; rw [field_items]; rfl
  refine wpAnyH_ready (rs := [5]) (by kernel_rfl) (by simp) ?_
  refine AllReadyH.cons (o := _) (by (simp only [List.getElem?_toArray, List.getElem?_cons_succ, List.getElem?_cons_zero]); rfl) (fun K_ hK_ => ?_) AllReadyH.nil
  rw [if_pos (by rfl)]
  go_simp
  go_at_call 74
  refine (copyAtoms_any A2 L2.length c2 P _ I9 SM.out).mono ?_; rintro e V10 ⟨A3, c3, r3, rfl, ho, hm, hb⟩
  have HB10 := belowThen HB9 hb
  have T10 := T9.below hb
  have O3 := Lib.hid ho; have M3 := Lib.hid hm; clear ho hm hb
  refine hK_.out _ _ ⟨T10.cell 0, T10.cell 1⟩ (fun hS2_ => ?_)
  clear hK_ hS_; have hS_ := hS2_; clear hS2_
  (try simp only [Act.put, List.setIfInBounds_toArray, List.set_cons_zero, List.set_cons_succ])
  refine takeV (i := 6) (v := .slice A3 P.length c3) (by (simp only [List.getElem?_toArray, List.getElem?_cons_succ, List.getElem?_cons_zero]); rfl) (by kernel_rfl) (by kernel_rfl) (by kernel_rfl) (by rfl) (fun _ _ _ h => h) (Or.inl ⟨by rfl, ?_⟩) hS_ (by (simp only [List.setIfInBounds_toArray, List.set_cons_succ, List.set_cons_zero]); rfl) ?_
  · intro w_ hSw_; (try dsimp only at hSw_); go_simp
  refine wpAnyH_done (by kernel_rfl) ?_ _
  clear hS_
  have hz := HB9.size
  obtain ⟨t1, ht1⟩ : ∃ z, P.length = z := ⟨_, rfl⟩; have T1 := Lib.hid ht1; rw [ht1]; clear ht1
  go_wp2
  go_ret; exact ⟨A3, c3, r3, by rw [T1.out]; rfl, O3.out.keep (fun _ _ _ => rfl) hz (Nat.le_refl _), M3.out, HB10⟩

set_option maxRecDepth 100000 in
set_option maxHeartbeats 16000000 in
theorem implChangeBoth_any (A1 A2 B1 B2 : Option Addr) (n1 c1 n2 c2 m1 d1 m2 d2 : Nat) (ca ga cb gb : List At) (w : World) (h1 : IsAtoms w 0 w.heap.size A1 n1 c1 ca) (h2 : IsAtoms w 0 w.heap.size A2 n2 c2 ga) (h3 : IsAtoms w 0 w.heap.size B1 m1 d1 cb) (h4 : IsAtoms w 0 w.heap.size B2 m2 d2 gb) :
    Calls Try.prog 36 #[.agg #[.slice A1 n1 c1, .slice A2 n2 c2], .agg #[.slice B1 m1 d1, .slice B2 m2 d2]] w (OwnQPost (bothL ca ga cb gb) w) := by
  have H1 := Lib.hid h1; have H2 := Lib.hid h2; have H3 := Lib.hid h3; have H4 := Lib.hid h4; clear h1 h2 h3 h4
  have X1 : Blk (((w.alloc (.cells #[.slice A1 n1 c1, .slice A2 n2 c2] 38)).alloc (.cells #[.slice B1 m1 d1, .slice B2 m2 d2] 38)).alloc (.cells #[.slice none 0 0, .slice none 0 0] 38)) w.heap.size 38 #[.slice A1 n1 c1, .slice A2 n2 c2] := ((Blk.new w _ _).alloc _).alloc _
  have Y1 : Blk (((w.alloc (.cells #[.slice A1 n1 c1, .slice A2 n2 c2] 38)).alloc (.cells #[.slice B1 m1 d1, .slice B2 m2 d2] 38)).alloc (.cells #[.slice none 0 0, .slice none 0 0] 38)) (w.heap.size + 1) 38 #[.slice B1 m1 d1, .slice B2 m2 d2] := (Blk.made (b := w.heap.size + 1) (w.alloc (.cells #[.slice A1 n1 c1, .slice A2 n2 c2] 38)) 38 #[.slice B1 m1 d1, .slice B2 m2 d2] (by simp)).alloc _
  have G1 : Blk (((w.alloc (.cells #[.slice A1 n1 c1, .slice A2 n2 c2] 38)).alloc (.cells #[.slice B1 m1 d1, .slice B2 m2 d2] 38)).alloc (.cells #[.slice none 0 0, .slice none 0 0] 38)) (w.heap.size + 1 + 1) 38 #[.slice none 0 0, .slice none 0 0] := Blk.made (b := w.heap.size + 1 + 1) ((w.alloc (.cells #[.slice A1 n1 c1, .slice A2 n2 c2] 38)).alloc (.cells #[.slice B1 m1 d1, .slice B2 m2 d2] 38)) 38 #[.slice none 0 0, .slice none 0 0] (by simp)
  have HB1 : Below w.heap.size w (((w.alloc (.cells #[.slice A1 n1 c1, .slice A2 n2 c2] 38)).alloc (.cells #[.slice B1 m1 d1, .slice B2 m2 d2] 38)).alloc (.cells #[.slice none 0 0, .slice none 0 0] 38)) := (below3 w (.cells #[.slice A1 n1 c1, .slice A2 n2 c2] 38) (.cells #[.slice B1 m1 d1, .slice B2 m2 d2] 38) (.cells #[.slice none 0 0, .slice none 0 0] 38))
  obtain ⟨W1, hW1⟩ : ∃ X, ((w.alloc (.cells #[.slice A1 n1 c1, .slice A2 n2 c2] 38)).alloc (.cells #[.slice B1 m1 d1, .slice B2 m2 d2] 38)).alloc (.cells #[.slice none 0 0, .slice none 0 0] 38) = X := ⟨_, rfl⟩
  have hWd := Lib.hid hW1
  rw [hW1] at X1 Y1 G1 HB1; clear hW1
  have xs0 : (((w.alloc (.cells #[.slice A1 n1 c1, .slice A2 n2 c2] 38)).alloc (.cells #[.slice B1 m1 d1, .slice B2 m2 d2] 38)).alloc (.cells #[.slice none 0 0, .slice none 0 0] 38)).cell? ⟨w.heap.size, 0, none⟩ = some (.slice A1 n1 c1) := by rw [hWd.out]; exact X1.cell 0
  have xs1 : (((w.alloc (.cells #[.slice A1 n1 c1, .slice A2 n2 c2] 38)).alloc (.cells #[.slice B1 m1 d1, .slice B2 m2 d2] 38)).alloc (.cells #[.slice none 0 0, .slice none 0 0] 38)).cell? ⟨w.heap.size, 1, none⟩ = some (.slice A2 n2 c2) := by rw [hWd.out]; exact X1.cell 1
  go_enter Try.func36, Try.ntmps36
  go_wp2_with fail
  rw [hWd.out]; clear xs0 xs1
  refine (implChangeOk_any A1 A2 n1 c1 n2 c2 ca ga _ (H1.out.up AtomE.stays HB1) (H2.out.up AtomE.stays HB1)).mono ?_; rintro e W2 ⟨rfl, hb⟩
  have HB2 := belowThen HB1 hb; have X2 := X1.below hb; have Y2 := Y1.below hb; have G2 := G1.below hb; clear hb
  have xc0 : W2.cell? ⟨w.heap.size, 0, none⟩ = some (.slice A1 n1 c1) := X2.cell 0
  have xc1 : W2.cell? ⟨w.heap.size, 1, none⟩ = some (.slice A2 n2 c2) := X2.cell 1
  have yc0 : W2.cell? ⟨w.heap.size + 1, 0, none⟩ = some (.slice B1 m1 d1) := Y2.cell 0
  have yc1 : W2.cell? ⟨w.heap.size + 1, 1, none⟩ = some (.slice B2 m2 d2) := Y2.cell 1
  have gc0 : W2.cell? ⟨w.heap.size + 1 + 1, 0, none⟩ = some (.slice none 0 0) := G2.cell 0
  have gc1 : W2.cell? ⟨w.heap.size + 1 + 1, 1, none⟩ = some (.slice none 0 0) := G2.cell 1
  have gf0 := G2.frozen 0; have gf1 := G2.frozen 1
  by_cases hx : (!changeB ca ga) = true
  · have E := Lib.hid (bothL_no1 (cb := cb) (gb := gb) hx)
    go_wp2
    refine bodyPost_ret (v := .tuple #[.agg #[.slice none 0 0, .slice none 0 0], .bool false]) (by simp [results, Try.results36, go_sem, gc0, gc1]) rfl (q_not E.out ((HB2.setCell (by simp only; omega) _).setCell (by simp only; omega) _))
  · have hx' : (!changeB ca ga) = false := by simpa using hx
    clear hx
    go_wp2_with fail
    refine (implChangeOk_any B1 B2 m1 d1 m2 d2 cb gb _ (H3.out.up AtomE.stays HB2) (H4.out.up AtomE.stays HB2)).mono ?_; rintro e W3 ⟨rfl, hb⟩
    clear xc0 xc1 yc0 yc1 gc0 gc1 gf0 gf1
    have HB3 := belowThen HB2 hb; have X3 := X2.below hb; have Y3 := Y2.below hb; have G3 := G2.below hb; clear hb
    have xc0 : W3.cell? ⟨w.heap.size, 0, none⟩ = some (.slice A1 n1 c1) := X3.cell 0
    have xc1 : W3.cell? ⟨w.heap.size, 1, none⟩ = some (.slice A2 n2 c2) := X3.cell 1
    have yc0 : W3.cell? ⟨w.heap.size + 1, 0, none⟩ = some (.slice B1 m1 d1) := Y3.cell 0
    have yc1 : W3.cell? ⟨w.heap.size + 1, 1, none⟩ = some (.slice B2 m2 d2) := Y3.cell 1
    have gc0 : W3.cell? ⟨w.heap.size + 1 + 1, 0, none⟩ = some (.slice none 0 0) := G3.cell 0
    have gc1 : W3.cell? ⟨w.heap.size + 1 + 1, 1, none⟩ = some (.slice none 0 0) := G3.cell 1
    have gf0 := G3.frozen 0; have gf1 := G3.frozen 1
    by_cases hy : (!changeB cb gb) = true
    · have E := Lib.hid (bothL_no2 (ca := ca) (ga := ga) hy)
      go_wp2
      refine bodyPost_ret (v := .tuple #[.agg #[.slice none 0 0, .slice none 0 0], .bool false]) (by simp [results, Try.results36, go_sem, gc0, gc1]) rfl (q_not E.out ((HB3.setCell (by simp only; omega) _).setCell (by simp only; omega) _))
    · have hy' : (!changeB cb gb) = false := by simpa using hy
      clear hy
      obtain ⟨f1, f2⟩ := changeB_parts hx'; obtain ⟨f3, f4⟩ := changeB_parts hy'
      have CW1 := Lib.hid (fun (W : World) (k1 : IsAtoms W 0 W.heap.size A1 n1 c1 ca) (k2 : IsAtoms W 0 W.heap.size B1 m1 d1 cb) (k3 : IsAtoms W 0 W.heap.size B2 m2 d2 gb) => laterWins_any A1 n1 c1 ca B1 m1 d1 cb B2 m2 d2 gb W k1 k2 k3 f1 f3 f4)
      have CW2 := Lib.hid (fun (W : World) (k1 : IsAtoms W 0 W.heap.size A2 n2 c2 ga) (k2 : IsAtoms W 0 W.heap.size B2 m2 d2 gb) (k3 : IsAtoms W 0 W.heap.size B1 m1 d1 cb) => laterWins_any A2 n2 c2 ga B2 m2 d2 gb B1 m1 d1 cb W k1 k2 k3 f2 f4 f3)
      obtain ⟨P, hP⟩ : ∃ z, doL ca cb gb = z := ⟨_, rfl⟩; obtain ⟨Q, hQ⟩ : ∃ z, doL ga gb cb = z := ⟨_, rfl⟩
      rw [hP] at CW1; rw [hQ] at CW2; have EP := Lib.hid hP; have EQ := Lib.hid hQ; clear hP hQ f1 f2 f3 f4
      go_wp2_with fail
      clear xc0 xc1 yc0 yc1 gc0 gc1 gf0 gf1
      have X7 : Blk W3.drew w.heap.size 38 #[.slice A1 n1 c1, .slice A2 n2 c2] := X3; have Y7 : Blk W3.drew (w.heap.size + 1) 38 #[.slice B1 m1 d1, .slice B2 m2 d2] := Y3; have G7 : Blk W3.drew (w.heap.size + 1 + 1) 38 #[.slice none 0 0, .slice none 0 0] := G3
      have HB7 := HB3.drew
      have hg7 : w.heap.size + 1 + 1 < W3.drew.heap.size := G7.lt
      obtain ⟨V7, hV7⟩ : ∃ X, W3.drew = X := ⟨_, rfl⟩
      rw [hV7] at X7 Y7 G7 HB7 hg7
      clear X3 Y3 G3 HB3 X2 Y2 G2 HB2 X1 Y1 G1 HB1 hWd
      refine wp_region_held_drew (S := fun W => (W.cell? ⟨w.heap.size, 0, none⟩ = some (.slice A1 n1 c1) ∧ W.cell? ⟨w.heap.size, 1, none⟩ = some (.slice A2 n2 c2)) ∧ W.cell? ⟨w.heap.size + 1, 0, none⟩ = some (.slice B1 m1 d1) ∧ W.cell? ⟨w.heap.size + 1, 1, none⟩ = some (.slice B2 m2 d2)) (by kernel_rfl) (by rw [hV7]; exact ⟨⟨X7.cell 0, X7.cell 1⟩, Y7.cell 0, Y7.cell 1⟩) ?_
      rw [hV7]
      intro hS_
      refine takeV (i := 0) (v := .pointer (some ⟨w.heap.size, 0, none⟩)) (by (simp only [List.getElem?_toArray, List.getElem?_cons_zero]); rfl) (by kernel_rfl) (by kernel_rfl) (by kernel_rfl) (by rfl) (fun _ _ _ h => h) (Or.inl ⟨by rfl, ?_⟩) hS_ (by (simp only [List.setIfInBounds_toArray, List.set_cons_succ, List.set_cons_zero]); rfl) ?_
      · intro w_ hSw_; (try dsimp only at hSw_); go_simp
      refine takeV (i := 1) (v := .slice A1 n1 c1) (by (simp only [List.getElem?_toArray, List.getElem?_cons_succ, List.getElem?_cons_zero]); rfl) (by kernel_rfl) (by kernel_rfl) (by kernel_rfl) (by rfl) (fun _ _ _ h => h) (Or.inl ⟨by rfl, ?_⟩) hS_ (by (simp only [List.setIfInBounds_toArray, List.set_cons_succ, List.set_cons_zero]); rfl) ?_
      · intro w_ hSw_; (try dsimp only at hSw_); go_simp
      refine takeV (i := 2) (v := .pointer (some ⟨w.heap.size + 1, 0, none⟩)) (by (simp only [List.getElem?_toArray, List.getElem?_cons_succ, List.getElem?_cons_zero]); rfl) (by kernel_rfl) (by kernel_rfl) (by kernel_rfl) (by rfl) (fun _ _ _ h => h) (Or.inl ⟨by rfl, ?_⟩) hS_ (by (simp only [List.setIfInBounds_toArray, List.set_cons_succ, List.set_cons_zero]); rfl) ?_
      · intro w_ hSw_; (try dsimp only at hSw_); go_simp
      refine takeV (i := 3) (v := .slice B1 m1 d1) (by (simp only [List.getElem?_toArray, List.getElem?_cons_succ, List.getElem?_cons_zero]); rfl) (by kernel_rfl) (by kernel_rfl) (by kernel_rfl) (by rfl) (fun _ _ _ h => h) (Or.inl ⟨by rfl, ?_⟩) hS_ (by (simp only [List.setIfInBounds_toArray, List.set_cons_succ, List.set_cons_zero]); rfl) ?_
      · intro w_ hSw_; (try dsimp only at hSw_); go_simp
      refine takeV (i := 4) (v := .pointer (some ⟨w.heap.size + 1, 1, none⟩)) (by (simp only [List.getElem?_toArray, List.getElem?_cons_succ, List.getElem?_cons_zero]); rfl) (by kernel_rfl) (by kernel_rfl) (by kernel_rfl) (by rfl) (fun _ _ _ h => h) (Or.inl ⟨by rfl, ?_⟩) hS_ (by (simp only [List.setIfInBounds_toArray, List.set_cons_succ, List.set_cons_zero]); rfl) ?_
      · intro w_ hSw_; (try dsimp only at hSw_); go_simp
      refine takeV (i := 5) (v := .slice B2 m2 d2) (by (simp only [List.getElem?_toArray, List.getElem?_cons_succ, List.getElem?_cons_zero]); rfl) (by kernel_rfl) (by kernel_rfl) (by kernel_rfl) (by rfl) (fun _ _ _ h => h) (Or.inl ⟨by rfl, ?_⟩) hS_ (by (simp only [List.setIfInBounds_toArray, List.set_cons_succ, List.set_cons_zero]); rfl) ?_
      · intro w_ hSw_; (try dsimp only at hSw_); go_simp
      refine takeV (i := 7) (v := .pointer (some ⟨w.heap.size, 1, none⟩)) (by (simp only [List.getElem?_toArray, List.getElem?_cons_succ, List.getElem?_cons_zero]); rfl) (by kernel_rfl) (by kernel_rfl) (by kernel_rfl) (by rfl) (fun _ _ _ h => h) (Or.inl ⟨by rfl, ?_⟩) hS_ (by (simp only [List.setIfInBounds_toArray, List.set_cons_succ, List.set_cons_zero]); rfl) ?_
      · intro w_ hSw_; (try dsimp only at hSw_); go_simp
      refine takeV (i := 8) (v := .slice A2 n2 c2) (by (simp only [List.getElem?_toArray, List.getElem?_cons_succ, List.getElem?_cons_zero]); rfl) (by kernel_rfl) (by kernel_rfl) (by kernel_rfl) (by rfl) (fun _ _ _ h => h) (Or.inl ⟨by rfl, ?_⟩) hS_ (by (simp only [List.setIfInBounds_toArray, List.set_cons_succ, List.set_cons_zero]); rfl) ?_
      · intro w_ hSw_; (try dsimp only at hSw_); go_simp
      refine takeV (i := 9) (v := .pointer (some ⟨w.heap.size + 1, 1, none⟩)) (by (simp only [List.getElem?_toArray, List.getElem?_cons_succ, List.getElem?_cons_zero]); rfl) (by kernel_rfl) (by kernel_rfl) (by kernel_rfl) (by rfl) (fun _ _ _ h => h) (Or.inl ⟨by rfl, ?_⟩) hS_ (by (simp only [List.setIfInBounds_toArray, List.set_cons_succ, List.set_cons_zero]); rfl) ?_
      · intro w_ hSw_; (try dsimp only at hSw_); go_simp
      refine takeV (i := 10) (v := .slice B2 m2 d2) (by (simp only [List.getElem?_toArray, List.getElem?_cons_succ, List.getElem?_cons_zero]); rfl) (by kernel_rfl) (by kernel_rfl) (by kernel_rfl) (by rfl) (fun _ _ _ h => h) (Or.inl ⟨by rfl, ?_⟩) hS_ (by (simp only [List.setIfInBounds_toArray, List.set_cons_succ, List.set_cons_zero]); rfl) ?_
      · intro w_ hSw_; (try dsimp only at hSw_); go_simp
      refine takeV (i := 11) (v := .pointer (some ⟨w.heap.size + 1, 0, none⟩)) (by (simp only [List.getElem?_toArray, List.getElem?_cons_succ, List.getElem?_cons_zero]); rfl) (by kernel_rfl) (by kernel_rfl) (by kernel_rfl) (by rfl) (fun _ _ _ h => h) (Or.inl ⟨by rfl, ?_⟩) hS_ (by (simp only [List.setIfInBounds_toArray, List.set_cons_succ, List.set_cons_zero]); rfl) ?_
      · intro w_ hSw_; (try dsimp only at hSw_); go_simp
      refine takeV (i := 12) (v := .slice B1 m1 d1) (by (simp only [List.getElem?_toArray, List.getElem?_cons_succ, List.getElem?_cons_zero]); rfl) (by kernel_rfl) (by kernel_rfl) (by kernel_rfl) (by rfl) (fun _ _ _ h => h) (Or.inl ⟨by rfl, ?_⟩) hS_ (by (simp only [List.setIfInBounds_toArray, List.set_cons_succ, List.set_cons_zero]); rfl) ?_
      · intro w_ hSw_; (try dsimp only at hSw_); go_simp
      refine wpAnyH_ready (rs := [6, 15]) (by kernel_rfl) (by simp) ?_
      refine (AllReadyH.cons (o := _) (by (simp only [List.getElem?_toArray, List.getElem?_cons_succ, List.getElem?_cons_zero]); rfl) (fun K_ hK_ => ?_) (AllReadyH.cons (o := _) (by (simp only [List.getElem?_toArray, List.getElem?_cons_succ, List.getElem?_cons_zero]); rfl) (fun K_ hK_ => ?_) AllReadyH.nil))
      · rw [if_pos (by rfl)]
        go_simp
        go_at_call 91
        refine (CW1.out _ (H1.out.up AtomE.stays HB7) (H3.out.up AtomE.stays HB7) (H4.out.up AtomE.stays HB7)).mono ?_; rintro e V8 ⟨Q1, q1, r1, rfl, ho, hm, hb⟩
        have O1_8 := Lib.hid ho; have M1 := Lib.hid hm; clear ho hm
        have HB8 := belowThen HB7 hb; have hz8 := hb.size
        have X8 := X7.below hb
        have Y8 := Y7.below hb
        have G8 := G7.below hb
        clear hb
        obtain ⟨t1, ht1⟩ : ∃ z, P.length = z := ⟨_, rfl⟩; have T1h := Lib.hid ht1; rw [ht1]; clear ht1
        refine hK_.out _ _ ⟨⟨X8.cell 0, X8.cell 1⟩, Y8.cell 0, Y8.cell 1⟩ (fun hS2_ => ?_)
        clear hK_ hS_; have hS_ := hS2_; clear hS2_
        (try simp only [Act.put, List.setIfInBounds_toArray, List.set_cons_zero, List.set_cons_succ])
        refine wpAnyH_ready (rs := [13, 15]) (by kernel_rfl) (by simp) ?_
        refine (AllReadyH.cons (o := _) (by (simp only [List.getElem?_toArray, List.getElem?_cons_succ, List.getElem?_cons_zero]); rfl) (fun K_ hK_ => ?_) (AllReadyH.cons (o := _) (by (simp only [List.getElem?_toArray, List.getElem?_cons_succ, List.getElem?_cons_zero]); rfl) (fun K_ hK_ => ?_) AllReadyH.nil))
        · rw [if_pos (by rfl)]
          go_simp
          go_at_call 91
          refine (CW2.out _ (H2.out.up AtomE.stays HB8) (H4.out.up AtomE.stays HB8) (H3.out.up AtomE.stays HB8)).mono ?_; rintro e V9 ⟨Q2, q2, r2, rfl, ho, hm, hb⟩
          have O2_9 := Lib.hid ho; have M2 := Lib.hid hm; clear ho hm
          have HB9 := belowThen HB8 hb; have hz9 := hb.size
          have X9 := X8.below hb
          have Y9 := Y8.below hb
          have G9 := G8.below hb
          have O1_9 := Lib.hid (O1_8.out.below hb (by omega))
          clear hb
          obtain ⟨t2, ht2⟩ : ∃ z, Q.length = z := ⟨_, rfl⟩; have T2h := Lib.hid ht2; rw [ht2]; clear ht2
          refine hK_.out _ _ ⟨⟨X9.cell 0, X9.cell 1⟩, Y9.cell 0, Y9.cell 1⟩ (fun hS2_ => ?_)
          clear hK_ hS_; have hS_ := hS2_; clear hS2_
          (try simp only [Act.put, List.setIfInBounds_toArray, List.set_cons_zero, List.set_cons_succ])
          refine takeV (i := 14) (v := .agg #[.slice Q1 t1 q1, .slice Q2 t2 q2]) (by (simp only [List.getElem?_toArray, List.getElem?_cons_succ, List.getElem?_cons_zero]); rfl) (by kernel_rfl) (by kernel_rfl) (by kernel_rfl) (by rfl) (fun _ _ _ h => h) (Or.inl ⟨by rfl, ?_⟩) hS_ (by (simp only [List.setIfInBounds_toArray, List.set_cons_succ, List.set_cons_zero]); rfl) ?_
          · intro w_ hSw_; (try dsimp only at hSw_); go_simp
          refine wpAnyH_ready (rs := [15]) (by kernel_rfl) (by simp) ?_
          refine AllReadyH.cons (o := _) (by (simp only [List.getElem?_toArray, List.getElem?_cons_succ, List.getElem?_cons_zero]); rfl) (fun K_ hK_ => ?_) AllReadyH.nil
          rw [if_pos (by rfl)]
          go_simp
          have T10 := Blk.new V9 38 #[.slice none 0 0, .slice none 0 0]
          have hb := below1 V9 (.cells #[.slice none 0 0, .slice none 0 0] 38)
          obtain ⟨V10, hV10⟩ : ∃ X, V9.alloc (.cells #[.slice none 0 0, .slice none 0 0] 38) = X := ⟨_, rfl⟩
          rw [hV10] at T10 hb ⊢; clear hV10
          have hT := T10.lt
          have HB10 := belowThen HB9 hb; have hz10 := hb.size
          have X10 := X9.below hb
          have Y10 := Y9.below hb
          have G10 := G9.below hb
          have O1_10 := Lib.hid (O1_9.out.below hb (by omega))
          have O2_10 := Lib.hid (O2_9.out.below hb (by omega))
          clear hb
          refine hK_.out _ _ ⟨⟨X10.cell 0, X10.cell 1⟩, Y10.cell 0, Y10.cell 1⟩ (fun hS2_ => ?_)
          clear hK_ hS_; have hS_ := hS2_; clear hS2_
          (try simp only [Act.put, List.setIfInBounds_toArray, List.set_cons_zero, List.set_cons_succ])
          refine wpAnyH_ready (rs := [16]) (by kernel_rfl) (by simp) ?_
          refine AllReadyH.cons (o := _) (by (simp only [List.getElem?_toArray, List.getElem?_cons_succ, List.getElem?_cons_zero]); rfl) (fun K_ hK_ => ?_) AllReadyH.nil
          have b0 : V10.cell? ⟨V9.heap.size, 0, none⟩ = some (.slice none 0 0) := T10.cell 0
          have b1 : V10.cell? ⟨V9.heap.size, 1, none⟩ = some (.slice none 0 0) := T10.cell 1
          have e0 := T10.frozen 0; have e1 := T10.frozen 1
          rw [if_pos (by rfl)]
          go_simp
          clear b0 b1 e0 e1
          have XU := Lib.hid ((X10.far (p := ⟨V9.heap.size, 0, none⟩) (by first | omega | (simp only; omega)) (.slice Q1 t1 q1)).far (p := ⟨V9.heap.size, 1, none⟩) (by first | omega | (simp only; omega)) (.slice Q2 t2 q2)); have YU := Lib.hid ((Y10.far (p := ⟨V9.heap.size, 0, none⟩) (by first | omega | (simp only; omega)) (.slice Q1 t1 q1)).far (p := ⟨V9.heap.size, 1, none⟩) (by first | omega | (simp only; omega)) (.slice Q2 t2 q2)); have GU := Lib.hid ((G10.far (p := ⟨V9.heap.size, 0, none⟩) (by first | omega | (simp only; omega)) (.slice Q1 t1 q1)).far (p := ⟨V9.heap.size, 1, none⟩) (by first | omega | (simp only; omega)) (.slice Q2 t2 q2))
          have TU := Lib.hid ((T10.set 0 (.slice Q1 t1 q1)).set 1 (.slice Q2 t2 q2))
          have hsz : ((V10.setCell ⟨V9.heap.size, 0, none⟩ (.slice Q1 t1 q1)).setCell ⟨V9.heap.size, 1, none⟩ (.slice Q2 t2 q2)).heap.size = V10.heap.size := by rw [size_setCell, size_setCell]
          have OU1 := Lib.hid (O1_10.out.keep (w' := (V10.setCell ⟨V9.heap.size, 0, none⟩ (.slice Q1 t1 q1)).setCell ⟨V9.heap.size, 1, none⟩ (.slice Q2 t2 q2)) (fun b h1 h2 => set2_far (by omega)) (Nat.le_refl _) (Nat.le_refl _))
          have OU2 := Lib.hid (O2_10.out.keep (w' := (V10.setCell ⟨V9.heap.size, 0, none⟩ (.slice Q1 t1 q1)).setCell ⟨V9.heap.size, 1, none⟩ (.slice Q2 t2 q2)) (lo' := V8.heap.size) (fun b h1 h2 => set2_far (by omega)) (by omega) (Nat.le_refl _))
          have HBU := (HB10.setCell (p := ⟨V9.heap.size, 0, none⟩) (by first | omega | (simp only; omega)) (.slice Q1 t1 q1)).setCell (p := ⟨V9.heap.size, 1, none⟩) (by first | omega | (simp only; omega)) (.slice Q2 t2 q2)
          obtain ⟨U, hU⟩ : ∃ X, (V10.setCell ⟨V9.heap.size, 0, none⟩ (.slice Q1 t1 q1)).setCell ⟨V9.heap.size, 1, none⟩ (.slice Q2 t2 q2) = X := ⟨_, rfl⟩
          rw [hU] at XU YU GU TU OU1 OU2 HBU hsz ⊢; clear hU
          refine hK_.out _ _ ⟨⟨XU.out.cell 0, XU.out.cell 1⟩, YU.out.cell 0, YU.out.cell 1⟩ (fun hS2_ => ?_)
          clear hK_ hS_; have hS_ := hS2_; clear hS2_
          (try simp only [Act.put, List.setIfInBounds_toArray, List.set_cons_zero, List.set_cons_succ])
          refine wpAnyH_done (by kernel_rfl) ?_ _
          clear hS_ XU YU
          have tu0 : U.cell? ⟨V9.heap.size, 0, none⟩ = some (.slice Q1 t1 q1) := TU.out.cell 0
          have tu1 : U.cell? ⟨V9.heap.size, 1, none⟩ = some (.slice Q2 t2 q2) := TU.out.cell 1
          have i1 := OU1.out.atoms; have i2 := OU2.out.atoms; rw [M1.out] at i1; rw [M2.out] at i2; rw [T1h.out] at i1; rw [T2h.out] at i2
          have I1 := Lib.hid (i1.keep AtomE.stays (lo' := 0) (hi' := U.heap.size) (fun _ _ _ => rfl) (Nat.zero_le _) (by omega)); have I2 := Lib.hid (i2.keep AtomE.stays (lo' := 0) (hi' := U.heap.size) (fun _ _ _ => rfl) (Nat.zero_le _) (by omega)); clear i1 i2
          go_wp2_with fail
          refine (implChangeOk_any Q1 Q2 t1 q1 t2 q2 P Q _ I1.out I2.out).mono ?_; rintro e W6 ⟨rfl, hb⟩
          clear tu0 tu1
          have O1 := Lib.hid (OU1.out.below hb (by omega)); have O2 := Lib.hid (OU2.out.below hb (by omega)); clear OU1 OU2
          have HB6 := belowThen HBU hb; have G6 := GU.out.below hb; have T6 := TU.out.below hb; have hz6 := hb.size; clear hb
          have gc0 : W6.cell? ⟨w.heap.size + 1 + 1, 0, none⟩ = some (.slice none 0 0) := G6.cell 0
          have gc1 : W6.cell? ⟨w.heap.size + 1 + 1, 1, none⟩ = some (.slice none 0 0) := G6.cell 1
          have gf0 := G6.frozen 0; have gf1 := G6.frozen 1
          have tc0 : W6.cell? ⟨V9.heap.size, 0, none⟩ = some (.slice Q1 t1 q1) := T6.cell 0
          have tc1 : W6.cell? ⟨V9.heap.size, 1, none⟩ = some (.slice Q2 t2 q2) := T6.cell 1
          by_cases hq : (!changeB P Q) = true
          · have E := Lib.hid (bothL_no3 (ca := ca) (ga := ga) (cb := cb) (gb := gb) (by rw [EP.out, EQ.out]; exact hq))
            go_wp2
            refine bodyPost_ret (v := .tuple #[.agg #[.slice none 0 0, .slice none 0 0], .bool false]) (by simp [results, Try.results36, go_sem, gc0, gc1]) rfl (q_not E.out ((HB6.setCell (by simp only; omega) _).setCell (by simp only; omega) _))
          · have hq' : (!changeB P Q) = false := by simpa using hq
            clear hq
            have E := Lib.hid (show bothL ca ga cb gb = ((P, Q), true) by rw [bothL_yes hx' hy' (by rw [EP.out, EQ.out]; exact hq'), EP.out, EQ.out])
            go_wp2
            refine bodyPost_ret (v := .tuple #[.agg #[.slice Q1 t1 q1, .slice Q2 t2 q2], .bool true]) (by simp [results, Try.results36, go_sem, gc0, gc1]) rfl ?_
            have O1 := O1.out; have O2 := O2.out; rw [← T1h.out, ← T2h.out]
            exact q_out E.out O1 M1.out O2 M2.out (by omega) (by omega) (by omega) (by omega) (by omega) HB6 _ _
        · rw [if_pos (by rfl)]
          go_simp
          have T11 := Blk.new V8 38 #[.slice none 0 0, .slice none 0 0]
          have hb := below1 V8 (.cells #[.slice none 0 0, .slice none 0 0] 38)
          obtain ⟨V11, hV11⟩ : ∃ X, V8.alloc (.cells #[.slice none 0 0, .slice none 0 0] 38) = X := ⟨_, rfl⟩
          rw [hV11] at T11 hb ⊢; clear hV11
          have hT := T11.lt
          have HB11 := belowThen HB8 hb; have hz11 := hb.size
          have X11 := X8.below hb
          have Y11 := Y8.below hb
          have G11 := G8.below hb
          have O1_11 := Lib.hid (O1_8.out.below hb (by omega))
          clear hb
          refine hK_.out _ _ ⟨⟨X11.cell 0, X11.cell 1⟩, Y11.cell 0, Y11.cell 1⟩ (fun hS2_ => ?_)
          clear hK_ hS_; have hS_ := hS2_; clear hS2_
          (try simp only [Act.put, List.setIfInBounds_toArray, List.set_cons_zero, List.set_cons_succ])
          refine wpAnyH_ready (rs := [13]) (by kernel_rfl) (by simp) ?_
          refine AllReadyH.cons (o := _) (by (simp only [List.getElem?_toArray, List.getElem?_cons_succ, List.getElem?_cons_zero]); rfl) (fun K_ hK_ => ?_) AllReadyH.nil
          rw [if_pos (by rfl)]
          go_simp
          go_at_call 91
          refine (CW2.out _ (H2.out.up AtomE.stays HB11) (H4.out.up AtomE.stays HB11) (H3.out.up AtomE.stays HB11)).mono ?_; rintro e V12 ⟨Q2, q2, r2, rfl, ho, hm, hb⟩
          have O2_12 := Lib.hid ho; have M2 := Lib.hid hm; clear ho hm
          have HB12 := belowThen HB11 hb; have hz12 := hb.size
          have X12 := X11.below hb
          have Y12 := Y11.below hb
          have G12 := G11.below hb
          have T12 := T11.below hb
          have O1_12 := Lib.hid (O1_11.out.below hb (by omega))
          clear hb
          obtain ⟨t2, ht2⟩ : ∃ z, Q.length = z := ⟨_, rfl⟩; have T2h := Lib.hid ht2; rw [ht2]; clear ht2
          refine hK_.out _ _ ⟨⟨X12.cell 0, X12.cell 1⟩, Y12.cell 0, Y12.cell 1⟩ (fun hS2_ => ?_)
          clear hK_ hS_; have hS_ := hS2_; clear hS2_
          (try simp only [Act.put, List.setIfInBounds_toArray, List.set_cons_zero, List.set_cons_succ])
          refine takeV (i := 14) (v := .agg #[.slice Q1 t1 q1, .slice Q2 t2 q2]) (by (simp only [List.getElem?_toArray, List.getElem?_cons_succ, List.getElem?_cons_zero]); rfl) (by kernel_rfl) (by kernel_rfl) (by kernel_rfl) (by rfl) (fun _ _ _ h => h) (Or.inl ⟨by rfl, ?_⟩) hS_ (by (simp only [List.setIfInBounds_toArray, List.set_cons_succ, List.set_cons_zero]); rfl) ?_
          · intro w_ hSw_; (try dsimp only at hSw_); go_simp
          refine wpAnyH_ready (rs := [16]) (by kernel_rfl) (by simp) ?_
          refine AllReadyH.cons (o := _) (by (simp only [List.getElem?_toArray, List.getElem?_cons_succ, List.getElem?_cons_zero]); rfl) (fun K_ hK_ => ?_) AllReadyH.nil
          have b0 : V12.cell? ⟨V8.heap.size, 0, none⟩ = some (.slice none 0 0) := T12.cell 0
          have b1 : V12.cell? ⟨V8.heap.size, 1, none⟩ = some (.slice none 0 0) := T12.cell 1
          have e0 := T12.frozen 0; have e1 := T12.frozen 1
          rw [if_pos (by rfl)]
          go_simp
          clear b0 b1 e0 e1
          have XU := Lib.hid ((X12.far (p := ⟨V8.heap.size, 0, none⟩) (by first | omega | (simp only; omega)) (.slice Q1 t1 q1)).far (p := ⟨V8.heap.size, 1, none⟩) (by first | omega | (simp only; omega)) (.slice Q2 t2 q2)); have YU := Lib.hid ((Y12.far (p := ⟨V8.heap.size, 0, none⟩) (by first | omega | (simp only; omega)) (.slice Q1 t1 q1)).far (p := ⟨V8.heap.size, 1, none⟩) (by first | omega | (simp only; omega)) (.slice Q2 t2 q2)); have GU := Lib.hid ((G12.far (p := ⟨V8.heap.size, 0, none⟩) (by first | omega | (simp only; omega)) (.slice Q1 t1 q1)).far (p := ⟨V8.heap.size, 1, none⟩) (by first | omega | (simp only; omega)) (.slice Q2 t2 q2))
          have TU := Lib.hid ((T12.set 0 (.slice Q1 t1 q1)).set 1 (.slice Q2 t2 q2))
          have hsz : ((V12.setCell ⟨V8.heap.size, 0, none⟩ (.slice Q1 t1 q1)).setCell ⟨V8.heap.size, 1, none⟩ (.slice Q2 t2 q2)).heap.size = V12.heap.size := by rw [size_setCell, size_setCell]
          have OU1 := Lib.hid (O1_12.out.keep (w' := (V12.setCell ⟨V8.heap.size, 0, none⟩ (.slice Q1 t1 q1)).setCell ⟨V8.heap.size, 1, none⟩ (.slice Q2 t2 q2)) (fun b h1 h2 => set2_far (by omega)) (Nat.le_refl _) (Nat.le_refl _))
          have OU2 := Lib.hid (O2_12.out.keep (w' := (V12.setCell ⟨V8.heap.size, 0, none⟩ (.slice Q1 t1 q1)).setCell ⟨V8.heap.size, 1, none⟩ (.slice Q2 t2 q2)) (lo' := V8.heap.size) (fun b h1 h2 => set2_far (by omega)) (by omega) (Nat.le_refl _))
          have HBU := (HB12.setCell (p := ⟨V8.heap.size, 0, none⟩) (by first | omega | (simp only; omega)) (.slice Q1 t1 q1)).setCell (p := ⟨V8.heap.size, 1, none⟩) (by first | omega | (simp only; omega)) (.slice Q2 t2 q2)
          obtain ⟨U, hU⟩ : ∃ X, (V12.setCell ⟨V8.heap.size, 0, none⟩ (.slice Q1 t1 q1)).setCell ⟨V8.heap.size, 1, none⟩ (.slice Q2 t2 q2) = X := ⟨_, rfl⟩
          rw [hU] at XU YU GU TU OU1 OU2 HBU hsz ⊢; clear hU
          refine hK_.out _ _ ⟨⟨XU.out.cell 0, XU.out.cell 1⟩, YU.out.cell 0, YU.out.cell 1⟩ (fun hS2_ => ?_)
          clear hK_ hS_; have hS_ := hS2_; clear hS2_
          (try simp only [Act.put, List.setIfInBounds_toArray, List.set_cons_zero, List.set_cons_succ])
          refine wpAnyH_done (by kernel_rfl) ?_ _
          clear hS_ XU YU
          have tu0 : U.cell? ⟨V8.heap.size, 0, none⟩ = some (.slice Q1 t1 q1) := TU.out.cell 0
          have tu1 : U.cell? ⟨V8.heap.size, 1, none⟩ = some (.slice Q2 t2 q2) := TU.out.cell 1
          have i1 := OU1.out.atoms; have i2 := OU2.out.atoms; rw [M1.out] at i1; rw [M2.out] at i2; rw [T1h.out] at i1; rw [T2h.out] at i2
          have I1 := Lib.hid (i1.keep AtomE.stays (lo' := 0) (hi' := U.heap.size) (fun _ _ _ => rfl) (Nat.zero_le _) (by omega)); have I2 := Lib.hid (i2.keep AtomE.stays (lo' := 0) (hi' := U.heap.size) (fun _ _ _ => rfl) (Nat.zero_le _) (by omega)); clear i1 i2
          go_wp2_with fail
          refine (implChangeOk_any Q1 Q2 t1 q1 t2 q2 P Q _ I1.out I2.out).mono ?_; rintro e W6 ⟨rfl, hb⟩
          clear tu0 tu1
          have O1 := Lib.hid (OU1.out.below hb (by omega)); have O2 := Lib.hid (OU2.out.below hb (by omega)); clear OU1 OU2
          have HB6 := belowThen HBU hb; have G6 := GU.out.below hb; have T6 := TU.out.below hb; have hz6 := hb.size; clear hb
          have gc0 : W6.cell? ⟨w.heap.size + 1 + 1, 0, none⟩ = some (.slice none 0 0) := G6.cell 0
          have gc1 : W6.cell? ⟨w.heap.size + 1 + 1, 1, none⟩ = some (.slice none 0 0) := G6.cell 1
          have gf0 := G6.frozen 0; have gf1 := G6.frozen 1
          have tc0 : W6.cell? ⟨V8.heap.size, 0, none⟩ = some (.slice Q1 t1 q1) := T6.cell 0
          have tc1 : W6.cell? ⟨V8.heap.size, 1, none⟩ = some (.slice Q2 t2 q2) := T6.cell 1
          by_cases hq : (!changeB P Q) = true
          · have E := Lib.hid (bothL_no3 (ca := ca) (ga := ga) (cb := cb) (gb := gb) (by rw [EP.out, EQ.out]; exact hq))
            go_wp2
            refine bodyPost_ret (v := .tuple #[.agg #[.slice none 0 0, .slice none 0 0], .bool false]) (by simp [results, Try.results36, go_sem, gc0, gc1]) rfl (q_not E.out ((HB6.setCell (by simp only; omega) _).setCell (by simp only; omega) _))
          · have hq' : (!changeB P Q) = false := by simpa using hq
            clear hq
            have E := Lib.hid (show bothL ca ga cb gb = ((P, Q), true) by rw [bothL_yes hx' hy' (by rw [EP.out, EQ.out]; exact hq'), EP.out, EQ.out])
            go_wp2
            refine bodyPost_ret (v := .tuple #[.agg #[.slice Q1 t1 q1, .slice Q2 t2 q2], .bool true]) (by simp [results, Try.results36, go_sem, gc0, gc1]) rfl ?_
            have O1 := O1.out; have O2 := O2.out; rw [← T1h.out, ← T2h.out]
            exact q_out E.out O1 M1.out O2 M2.out (by omega) (by omega) (by omega) (by omega) (by omega) HB6 _ _
      · rw [if_pos (by rfl)]
        go_simp
        have T13 := Blk.new V7 38 #[.slice none 0 0, .slice none 0 0]
        have hb := below1 V7 (.cells #[.slice none 0 0, .slice none 0 0] 38)
        obtain ⟨V13, hV13⟩ : ∃ X, V7.alloc (.cells #[.slice none 0 0, .slice none 0 0] 38) = X := ⟨_, rfl⟩
        rw [hV13] at T13 hb ⊢; clear hV13
        have hT := T13.lt
        have HB13 := belowThen HB7 hb; have hz13 := hb.size
        have X13 := X7.below hb
        have Y13 := Y7.below hb
        have G13 := G7.below hb
        clear hb
        refine hK_.out _ _ ⟨⟨X13.cell 0, X13.cell 1⟩, Y13.cell 0, Y13.cell 1⟩ (fun hS2_ => ?_)
        clear hK_ hS_; have hS_ := hS2_; clear hS2_
        (try simp only [Act.put, List.setIfInBounds_toArray, List.set_cons_zero, List.set_cons_succ])
        refine wpAnyH_ready (rs := [6]) (by kernel_rfl) (by simp) ?_
        refine AllReadyH.cons (o := _) (by (simp only [List.getElem?_toArray, List.getElem?_cons_succ, List.getElem?_cons_zero]); rfl) (fun K_ hK_ => ?_) AllReadyH.nil
        rw [if_pos (by rfl)]
        go_simp
        go_at_call 91
        refine (CW1.out _ (H1.out.up AtomE.stays HB13) (H3.out.up AtomE.stays HB13) (H4.out.up AtomE.stays HB13)).mono ?_; rintro e V14 ⟨Q1, q1, r1, rfl, ho, hm, hb⟩
        have O1_14 := Lib.hid ho; have M1 := Lib.hid hm; clear ho hm
        have HB14 := belowThen HB13 hb; have hz14 := hb.size
        have X14 := X13.below hb
        have Y14 := Y13.below hb
        have G14 := G13.below hb
        have T14 := T13.below hb
        clear hb
        obtain ⟨t1, ht1⟩ : ∃ z, P.length = z := ⟨_, rfl⟩; have T1h := Lib.hid ht1; rw [ht1]; clear ht1
        refine hK_.out _ _ ⟨⟨X14.cell 0, X14.cell 1⟩, Y14.cell 0, Y14.cell 1⟩ (fun hS2_ => ?_)
        clear hK_ hS_; have hS_ := hS2_; clear hS2_
        (try simp only [Act.put, List.setIfInBounds_toArray, List.set_cons_zero, List.set_cons_succ])
        refine wpAnyH_ready (rs := [13]) (by kernel_rfl) (by simp) ?_
        refine AllReadyH.cons (o := _) (by (simp only [List.getElem?_toArray, List.getElem?_cons_succ, List.getElem?_cons_zero]); rfl) (fun K_ hK_ => ?_) AllReadyH.nil
        rw [if_pos (by rfl)]
        go_simp
        go_at_call 91
        refine (CW2.out _ (H2.out.up AtomE.stays HB14) (H4.out.up AtomE.stays HB14) (H3.out.up AtomE.stays HB14)).mono ?_; rintro e V15 ⟨Q2, q2, r2, rfl, ho, hm, hb⟩
        have O2_15 := Lib.hid ho; have M2 := Lib.hid hm; clear ho hm
        have HB15 := belowThen HB14 hb; have hz15 := hb.size
        have X15 := X14.below hb
        have Y15 := Y14.below hb
        have G15 := G14.below hb
        have T15 := T14.below hb
        have O1_15 := Lib.hid (O1_14.out.below hb (by omega))
        clear hb
        obtain ⟨t2, ht2⟩ : ∃ z, Q.length = z := ⟨_, rfl⟩; have T2h := Lib.hid ht2; rw [ht2]; clear ht2
        refine hK_.out _ _ ⟨⟨X15.cell 0, X15.cell 1⟩, Y15.cell 0, Y15.cell 1⟩ (fun hS2_ => ?_)
        clear hK_ hS_; have hS_ := hS2_; clear hS2_
        (try simp only [Act.put, List.setIfInBounds_toArray, List.set_cons_zero, List.set_cons_succ])
        refine takeV (i := 14) (v := .agg #[.slice Q1 t1 q1, .slice Q2 t2 q2]) (by (simp only [List.getElem?_toArray, List.getElem?_cons_succ, List.getElem?_cons_zero]); rfl) (by kernel_rfl) (by kernel_rfl) (by kernel_rfl) (by rfl) (fun _ _ _ h => h) (Or.inl ⟨by rfl, ?_⟩) hS_ (by (simp only [List.setIfInBounds_toArray, List.set_cons_succ, List.set_cons_zero]); rfl) ?_
        · intro w_ hSw_; (try dsimp only at hSw_); go_simp
        refine wpAnyH_ready (rs := [16]) (by kernel_rfl) (by simp) ?_
        refine AllReadyH.cons (o := _) (by (simp only [List.getElem?_toArray, List.getElem?_cons_succ, List.getElem?_cons_zero]); rfl) (fun K_ hK_ => ?_) AllReadyH.nil
        have b0 : V15.cell? ⟨V7.heap.size, 0, none⟩ = some (.slice none 0 0) := T15.cell 0
        have b1 : V15.cell? ⟨V7.heap.size, 1, none⟩ = some (.slice none 0 0) := T15.cell 1
        have e0 := T15.frozen 0; have e1 := T15.frozen 1
        rw [if_pos (by rfl)]
        go_simp
        clear b0 b1 e0 e1
        have XU := Lib.hid ((X15.far (p := ⟨V7.heap.size, 0, none⟩) (by first | omega | (simp only; omega)) (.slice Q1 t1 q1)).far (p := ⟨V7.heap.size, 1, none⟩) (by first | omega | (simp only; omega)) (.slice Q2 t2 q2)); have YU := Lib.hid ((Y15.far (p := ⟨V7.heap.size, 0, none⟩) (by first | omega | (simp only; omega)) (.slice Q1 t1 q1)).far (p := ⟨V7.heap.size, 1, none⟩) (by first | omega | (simp only; omega)) (.slice Q2 t2 q2)); have GU := Lib.hid ((G15.far (p := ⟨V7.heap.size, 0, none⟩) (by first | omega | (simp only; omega)) (.slice Q1 t1 q1)).far (p := ⟨V7.heap.size, 1, none⟩) (by first | omega | (simp only; omega)) (.slice Q2 t2 q2))
        have TU := Lib.hid ((T15.set 0 (.slice Q1 t1 q1)).set 1 (.slice Q2 t2 q2))
        have hsz : ((V15.setCell ⟨V7.heap.size, 0, none⟩ (.slice Q1 t1 q1)).setCell ⟨V7.heap.size, 1, none⟩ (.slice Q2 t2 q2)).heap.size = V15.heap.size := by rw [size_setCell, size_setCell]
        have OU1 := Lib.hid (O1_15.out.keep (w' := (V15.setCell ⟨V7.heap.size, 0, none⟩ (.slice Q1 t1 q1)).setCell ⟨V7.heap.size, 1, none⟩ (.slice Q2 t2 q2)) (fun b h1 h2 => set2_far (by omega)) (Nat.le_refl _) (Nat.le_refl _))
        have OU2 := Lib.hid (O2_15.out.keep (w' := (V15.setCell ⟨V7.heap.size, 0, none⟩ (.slice Q1 t1 q1)).setCell ⟨V7.heap.size, 1, none⟩ (.slice Q2 t2 q2)) (lo' := V14.heap.size) (fun b h1 h2 => set2_far (by omega)) (by omega) (Nat.le_refl _))
        have HBU := (HB15.setCell (p := ⟨V7.heap.size, 0, none⟩) (by first | omega | (simp only; omega)) (.slice Q1 t1 q1)).setCell (p := ⟨V7.heap.size, 1, none⟩) (by first | omega | (simp only; omega)) (.slice Q2 t2 q2)
        obtain ⟨U, hU⟩ : ∃ X, (V15.setCell ⟨V7.heap.size, 0, none⟩ (.slice Q1 t1 q1)).setCell ⟨V7.heap.size, 1, none⟩ (.slice Q2 t2 q2) = X := ⟨_, rfl⟩
        rw [hU] at XU YU GU TU OU1 OU2 HBU hsz ⊢; clear hU
        refine hK_.out _ _ ⟨⟨XU.out.cell 0, XU.out.cell 1⟩, YU.out.cell 0, YU.out.cell 1⟩ (fun hS2_ => ?_)
        clear hK_ hS_; have hS_ := hS2_; clear hS2_
        (try simp only [Act.put, List.setIfInBounds_toArray, List.set_cons_zero, List.set_cons_succ])
        refine wpAnyH_done (by kernel_rfl) ?_ _
        clear hS_ XU YU
        have tu0 : U.cell? ⟨V7.heap.size, 0, none⟩ = some (.slice Q1 t1 q1) := TU.out.cell 0
        have tu1 : U.cell? ⟨V7.heap.size, 1, none⟩ = some (.slice Q2 t2 q2) := TU.out.cell 1
        have i1 := OU1.out.atoms; have i2 := OU2.out.atoms; rw [M1.out] at i1; rw [M2.out] at i2; rw [T1h.out] at i1; rw [T2h.out] at i2
        have I1 := Lib.hid (i1.keep AtomE.stays (lo' := 0) (hi' := U.heap.size) (fun _ _ _ => rfl) (Nat.zero_le _) (by omega)); have I2 := Lib.hid (i2.keep AtomE.stays (lo' := 0) (hi' := U.heap.size) (fun _ _ _ => rfl) (Nat.zero_le _) (by omega)); clear i1 i2
        go_wp2_with fail
        refine (implChangeOk_any Q1 Q2 t1 q1 t2 q2 P Q _ I1.out I2.out).mono ?_; rintro e W6 ⟨rfl, hb⟩
        clear tu0 tu1
        have O1 := Lib.hid (OU1.out.below hb (by omega)); have O2 := Lib.hid (OU2.out.below hb (by omega)); clear OU1 OU2
        have HB6 := belowThen HBU hb; have G6 := GU.out.below hb; have T6 := TU.out.below hb; have hz6 := hb.size; clear hb
        have gc0 : W6.cell? ⟨w.heap.size + 1 + 1, 0, none⟩ = some (.slice none 0 0) := G6.cell 0
        have gc1 : W6.cell? ⟨w.heap.size + 1 + 1, 1, none⟩ = some (.slice none 0 0) := G6.cell 1
        have gf0 := G6.frozen 0; have gf1 := G6.frozen 1
        have tc0 : W6.cell? ⟨V7.heap.size, 0, none⟩ = some (.slice Q1 t1 q1) := T6.cell 0
        have tc1 : W6.cell? ⟨V7.heap.size, 1, none⟩ = some (.slice Q2 t2 q2) := T6.cell 1
        by_cases hq : (!changeB P Q) = true
        · have E := Lib.hid (bothL_no3 (ca := ca) (ga := ga) (cb := cb) (gb := gb) (by rw [EP.out, EQ.out]; exact hq))
          go_wp2
          refine bodyPost_ret (v := .tuple #[.agg #[.slice none 0 0, .slice none 0 0], .bool false]) (by simp [results, Try.results36, go_sem, gc0, gc1]) rfl (q_not E.out ((HB6.setCell (by simp only; omega) _).setCell (by simp only; omega) _))
        · have hq' : (!changeB P Q) = false := by simpa using hq
          clear hq
          have E := Lib.hid (show bothL ca ga cb gb = ((P, Q), true) by rw [bothL_yes hx' hy' (by rw [EP.out, EQ.out]; exact hq'), EP.out, EQ.out])
          go_wp2
          refine bodyPost_ret (v := .tuple #[.agg #[.slice Q1 t1 q1, .slice Q2 t2 q2], .bool true]) (by simp [results, Try.results36, go_sem, gc0, gc1]) rfl ?_
          have O1 := O1.out; have O2 := O2.out; rw [← T1h.out, ← T2h.out]
          exact q_out E.out O1 M1.out O2 M2.out (by omega) (by omega) (by omega) (by omega) (by omega) HB6 _ _

end Go.Proofs.Ytbhkihnekendbaa
