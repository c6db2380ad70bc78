/-
  The exact law of FactsGone: at every list of atoms, and every atom, the program answers as its model, in memory of its own, and leaves what came in as it was. (Written by tools/exfacts.py.)
-/
import Derived.Test.YtenklmednmhbkaaFactsImpl
import Derived.Test.YtenklmednmhbkaaMark3
import Derived.Test.YtenklmednmhbkaaBox
namespace Go.Proofs.Ytenklmednmhbkaa
open Go.RowKit

set_option maxRecDepth 100000 in
set_option maxHeartbeats 16000000 in
theorem exactFactsGone_any (A : Option Addr) (n c : Nat) (l : List At) (nm : ByteArray) (B : Option Addr) (m d : Nat) (ts : List Tm) (w : World) (h : IsAtoms w 0 w.heap.size A n c l) (hs : nm.size ≤ maxLen) (h' : IsTerms w 0 w.heap.size B m d ts) :
    Calls Try.prog 7 #[.slice A n c, .agg #[.string nm, .slice B m d]] w (BoolPost true w) := by
  have H := Lib.hid h; clear h
  have H' := Lib.hid h'; clear h'
  obtain ⟨P, q, hP⟩ : ∃ P q, goneL l (nm, ts) = (P, q) := ⟨_, _, rfl⟩
  have SMP := Lib.hid (goneL_small hP)
  have cS : ∀ (A1 : Option Addr) (n1 c1 : Nat) (B1 : Option Addr) (m1 d1 : Nat) (W : World), IsAtoms W 0 W.heap.size A1 n1 c1 l → IsTerms W 0 W.heap.size B1 m1 d1 ts → Calls Try.prog 25 #[.slice A1 n1 c1, .agg #[.string nm, .slice B1 m1 d1]] W (ReadBPost (P, q) W) := by
    intro A1 n1 c1 B1 m1 d1 W h1 h2; rw [← hP]; exact specFactsGone_any A1 n1 c1 l nm B1 m1 d1 ts W h1 hs h2
  have cI : ∀ (A1 : Option Addr) (n1 c1 : Nat) (B1 : Option Addr) (m1 d1 : Nat) (W : World), IsAtoms W 0 W.heap.size A1 n1 c1 l → IsTerms W 0 W.heap.size B1 m1 d1 ts → Calls Try.prog 23 #[.slice A1 n1 c1, .agg #[.string nm, .slice B1 m1 d1]] W (OwnBPost (P, q) W) := by
    intro A1 n1 c1 B1 m1 d1 W h1 h2; rw [← hP]; exact implFactsGone_any A1 n1 c1 l nm B1 m1 d1 ts W h1 hs h2
  have CS := Lib.hid cS; have CI := Lib.hid cI; clear cS cI hP
  have hne : (q != q) = false := by simp
  have HB_0 := below1 w (.cells #[.string nm, .slice B m d] 41)
  obtain ⟨W0, hW0⟩ : ∃ X, w.alloc (.cells #[.string nm, .slice B m d] 41) = X := ⟨_, rfl⟩
  go_enter Try.func7, Try.ntmps7
  go_wp2_with fail
  (try rw [hW0]); rw [hW0] at HB_0
  have hz_0 : w.heap.size ≤ W0.heap.size := HB_0.size
  have bA_1 := Lib.hid (show Blk W0 (w.heap.size) 41 #[.string nm, .slice B m d] from by rw [← hW0]; exact Blk.new w _ _)
  clear hW0
  have bA0 : w.heap.size < W0.heap.size := bA_1.out.lt
  refine (szAtomS_any A n c l _ _ (H.out.up AtomE.stays HB_0) (by omega) (by omega)).mono ?_; rintro e W2 ⟨y, ⟨rfl, ha, hbb, hc⟩, hb_2⟩
  have hz_3 : W0.heap.size ≤ W2.heap.size := hb_2.size
  have HB_3 := belowThen HB_0 hb_2
  have bA_3 := Lib.hid (bA_1.out.below hb_2); clear bA_1
  clear HB_0
  have u_4 : W2.cell? ⟨w.heap.size, 0, none⟩ = some (.string nm) := bA_3.out.cell 0
  have u_5 : W2.cell? ⟨w.heap.size, 1, none⟩ = some (.slice B m d) := bA_3.out.cell 1
  go_wp2_with fail
  all_goals try (go_ret; exact ⟨rfl, HB_3⟩)
  have hy0 : 0 ≤ y := by assumption
  have HN := Lib.hid (hc hy0); clear ha hc
  refine (szAtom_any _ _ _ _ ts _ _ hs (H'.out.up HB_3) hy0 hbb).mono ?_; rintro e W6 ⟨y', ⟨rfl, ha', hb', hc'⟩, hb_6⟩
  clear u_4 u_5
  have hz_7 : W2.heap.size ≤ W6.heap.size := hb_6.size
  have HB_7 := belowThen HB_3 hb_6
  have bA_7 := Lib.hid (bA_3.out.below hb_6); clear bA_3
  clear HB_3
  have u_8 : W6.cell? ⟨w.heap.size, 0, none⟩ = some (.string nm) := bA_7.out.cell 0
  have u_9 : W6.cell? ⟨w.heap.size, 1, none⟩ = some (.slice B m d) := bA_7.out.cell 1
  go_wp2_with fail
  all_goals try (go_ret; exact ⟨rfl, HB_7⟩)
  have hm : m ≤ 1048576 := hc' (by assumption)
  have hmm : m ≤ maxLen := by unfold maxLen; omega
  clear ha' hc' hb' hbb hy0
  clear u_8 u_9
  obtain ⟨V10, hV10⟩ : ∃ X, W6.drew = X := ⟨_, rfl⟩
  have hz_11 : W6.heap.size ≤ V10.heap.size := by rw [← hV10]; exact Nat.le_refl _
  have HB_11 := (show Below w.heap.size w V10 from by rw [← hV10]; exact HB_7.drew)
  have bA_11 := Lib.hid (show Blk V10 (w.heap.size) 41 #[.string nm, .slice B m d] from by rw [← hV10]; exact bA_7.out); clear bA_7
  clear HB_7
  refine wp_region_held_drew (S := fun W => W.cell? ⟨w.heap.size, 0, none⟩ = some (.string nm) ∧ W.cell? ⟨w.heap.size, 1, none⟩ = some (.slice B m d)) (by kernel_rfl) (by rw [hV10]; exact ⟨bA_11.out.cell 0, bA_11.out.cell 1⟩) ?_
  rw [hV10]
  intro hS_
  refine takeV (i := 0) (v := .slice A n c) (by (simp only [List.getElem?_toArray, List.getElem?_cons_zero]); rfl) (by kernel_rfl) (by kernel_rfl) (by kernel_rfl) (by rfl) (fun _ _ _ h => h) (Or.inl ⟨by rfl, ?_⟩) hS_ (by (simp only [List.setIfInBounds_toArray, List.set_cons_succ, List.set_cons_zero]); rfl) ?_
  · intro w_ hSw_; (try dsimp only at hSw_); go_simp
  refine takeV (i := 2) (v := .agg #[.string nm, .slice B m d]) (by (simp only [List.getElem?_toArray, List.getElem?_cons_succ, List.getElem?_cons_zero]); rfl) (by kernel_rfl) (by kernel_rfl) (by kernel_rfl) (by rfl) (fun _ _ _ h => h) (Or.inl ⟨by rfl, ?_⟩) hS_ (by (simp only [List.setIfInBounds_toArray, List.set_cons_succ, List.set_cons_zero]); rfl) ?_
  · intro w_ hSw_; (try dsimp only at hSw_); go_simp
  refine wpAnyH_ready (rs := [1]) (by kernel_rfl) (by simp) ?_
  refine AllReadyH.cons (o := _) (by (simp only [List.getElem?_toArray, List.getElem?_cons_succ, List.getElem?_cons_zero]); rfl) (fun K_ hK_ => ?_) AllReadyH.nil
  rw [if_pos (by rfl)]
  go_simp
  go_at_call 27
  refine (toAtomS_own A n c l _ (H.out.up AtomE.stays HB_11) HN.out).mono ?_; rintro e W12 ⟨saA, sars, rfl, sao, sam, hb_12⟩
  have saM := Lib.hid sam; clear sam
  have hz_13 : V10.heap.size ≤ W12.heap.size := hb_12.size
  have HB_13 := belowThen HB_11 hb_12
  have bA_13 := Lib.hid (bA_11.out.below hb_12); clear bA_11
  clear HB_11
  have sal_14 := Lib.hid (sao)
  clear sao
  refine hK_.out _ _ ⟨bA_13.out.cell 0, bA_13.out.cell 1⟩ (fun hS2_ => ?_)
  clear hK_ hS_; have hS_ := hS2_; clear hS2_
  refine wpAnyH_ready (rs := [3]) (by kernel_rfl) (by simp) ?_
  refine AllReadyH.cons (o := _) (by (simp only [List.getElem?_toArray, List.getElem?_cons_succ, List.getElem?_cons_zero]); rfl) (fun K_ hK_ => ?_) AllReadyH.nil
  rw [if_pos (by rfl)]
  go_simp
  go_at_call 30
  refine (toAtom_any nm B m d ts _ (H'.out.up HB_13) hm).mono ?_; rintro e W15 ⟨sag, rfl, sag0, sat, hb_15⟩
  have hz_16 : W12.heap.size ≤ W15.heap.size := hb_15.size
  have HB_16 := belowThen HB_13 hb_15
  have bA_16 := Lib.hid (bA_13.out.below hb_15); clear bA_13
  have sal_16 := Lib.hid (sal_14.out.below hb_15 (by omega)); clear sal_14
  clear HB_13
  have sai := sat.is_ hmm (Nat.zero_le _)
  refine hK_.out _ _ ⟨bA_16.out.cell 0, bA_16.out.cell 1⟩ (fun hS2_ => ?_)
  clear hK_ hS_; have hS_ := hS2_; clear hS2_
  refine wpAnyH_ready (rs := [4]) (by kernel_rfl) (by simp) ?_
  refine AllReadyH.cons (o := _) (by (simp only [List.getElem?_toArray, List.getElem?_cons_succ, List.getElem?_cons_zero]); rfl) (fun K_ hK_ => ?_) AllReadyH.nil
  have r_17 := (sal_16.out.atoms.keep AtomE.stays (lo' := 0) (hi' := W15.heap.size) (fun _ _ _ => rfl) (Nat.zero_le _) (by omega))
  rw [saM.out] at r_17
  rw [if_pos (by rfl)]
  go_simp
  go_at_call 25
  refine (CS.out saA n n (some ⟨sag, 0, none⟩) m m _ r_17 sai).mono ?_; rintro e W18 ⟨saB, sac, sar, rfl, saj, san, hb_18⟩
  clear r_17
  have saK := Lib.hid san; clear san sai sat
  clear sal_16
  have hz_19 : W15.heap.size ≤ W18.heap.size := hb_18.size
  have HB_19 := belowThen HB_16 hb_18
  have bA_19 := Lib.hid (bA_16.out.below hb_18); clear bA_16
  clear HB_16
  have saq := saj.atoms
  rw [saK.out] at saq
  clear saj
  have w0_20 := Lib.hid (saq)
  clear saq
  refine hK_.out _ _ ⟨bA_19.out.cell 0, bA_19.out.cell 1⟩ (fun hS2_ => ?_)
  clear hK_ hS_; have hS_ := hS2_; clear hS2_
  refine takeV (i := 5) (v := .tuple #[.slice saB sar.length sac, .bool q]) (by (simp only [List.getElem?_toArray, List.getElem?_cons_succ, List.getElem?_cons_zero]); rfl) (by kernel_rfl) (by kernel_rfl) (by kernel_rfl) (by rfl) (fun _ _ _ h => h) (Or.inl ⟨by rfl, ?_⟩) hS_ (by (simp only [List.setIfInBounds_toArray, List.set_cons_succ, List.set_cons_zero]); rfl) ?_
  · intro w_ hSw_; (try dsimp only at hSw_); go_simp
  refine takeV (i := 6) (v := .slice saB sar.length sac) (by (simp only [List.getElem?_toArray, List.getElem?_cons_succ, List.getElem?_cons_zero]); rfl) (by kernel_rfl) (by kernel_rfl) (by kernel_rfl) (by rfl) (fun _ _ _ h => h) (Or.inl ⟨by rfl, ?_⟩) hS_ (by (simp only [List.setIfInBounds_toArray, List.set_cons_succ, List.set_cons_zero]); rfl) ?_
  · intro w_ hSw_; (try dsimp only at hSw_); go_simp
  refine takeV (i := 7) (v := .bool q) (by (simp only [List.getElem?_toArray, List.getElem?_cons_succ, List.getElem?_cons_zero]); rfl) (by kernel_rfl) (by kernel_rfl) (by kernel_rfl) (by rfl) (fun _ _ _ h => h) (Or.inl ⟨by rfl, ?_⟩) hS_ (by (simp only [List.setIfInBounds_toArray, List.set_cons_succ, List.set_cons_zero]); rfl) ?_
  · intro w_ hSw_; (try dsimp only at hSw_); go_simp
  refine takeV (i := 8) (v := .slice saB sar.length sac) (by (simp only [List.getElem?_toArray, List.getElem?_cons_succ, List.getElem?_cons_zero]); rfl) (by kernel_rfl) (by kernel_rfl) (by kernel_rfl) (by rfl) (fun _ _ _ h => h) (Or.inl ⟨by rfl, ?_⟩) hS_ (by (simp only [List.setIfInBounds_toArray, List.set_cons_succ, List.set_cons_zero]); rfl) ?_
  · intro w_ hSw_; (try dsimp only at hSw_); go_simp
  refine takeV (i := 9) (v := .bool q) (by (simp only [List.getElem?_toArray, List.getElem?_cons_succ, List.getElem?_cons_zero]); rfl) (by kernel_rfl) (by kernel_rfl) (by kernel_rfl) (by rfl) (fun _ _ _ h => h) (Or.inl ⟨by rfl, ?_⟩) hS_ (by (simp only [List.setIfInBounds_toArray, List.set_cons_succ, List.set_cons_zero]); rfl) ?_
  · intro w_ hSw_; (try dsimp only at hSw_); go_simp
  refine wpAnyH_done (by kernel_rfl) ?_ _
  clear hS_ hV10
  go_wp2_with fail
  refine (toAtomS_own A n c l _ (H.out.up AtomE.stays HB_19) HN.out).mono ?_; rintro e W21 ⟨xA, xr, rfl, xo, xm, hb_21⟩
  have XM := Lib.hid xm; clear xm
  have hz_22 : W18.heap.size ≤ W21.heap.size := hb_21.size
  have HB_22 := belowThen HB_19 hb_21
  have bA_22 := Lib.hid (bA_19.out.below hb_21); clear bA_19
  have w0_22 := Lib.hid (w0_20.out.below AtomE.stays hb_21 (by omega)); clear w0_20
  clear HB_19
  have x0_23 := Lib.hid (xo)
  clear xo
  have u_24 : W21.cell? ⟨w.heap.size, 0, none⟩ = some (.string nm) := bA_22.out.cell 0
  have u_25 : W21.cell? ⟨w.heap.size, 1, none⟩ = some (.slice B m d) := bA_22.out.cell 1
  go_wp2_with fail
  refine (toAtom_any nm B m d ts _ (H'.out.up HB_22) hm).mono ?_; rintro e W26 ⟨xg, rfl, xg0, xt, hb_26⟩
  clear u_24 u_25
  have hz_27 : W21.heap.size ≤ W26.heap.size := hb_26.size
  have HB_27 := belowThen HB_22 hb_26
  have bA_27 := Lib.hid (bA_22.out.below hb_26); clear bA_22
  have w0_27 := Lib.hid (w0_22.out.below AtomE.stays hb_26 (by omega)); clear w0_22
  have x0_27 := Lib.hid (x0_23.out.below hb_26 (by omega)); clear x0_23
  clear HB_22
  have xg1 : xg < W26.heap.size := xt.2.2.lt
  have x1_28 := Lib.hid (xt)
  clear xt
  have hb_29 := below1 W26 (.cells #[.string nm, .slice (some ⟨xg, 0, none⟩) m m] 26)
  have bx_29 := Blk.new W26 26 #[.string nm, .slice (some ⟨xg, 0, none⟩) m m]
  obtain ⟨W29, hw_29⟩ : ∃ X, W26.alloc (.cells #[.string nm, .slice (some ⟨xg, 0, none⟩) m m] 26) = X := ⟨_, rfl⟩
  have hwd_29 := Lib.hid hw_29
  rw [hw_29] at hb_29 bx_29; clear hw_29
  have hz_30 : W26.heap.size ≤ W29.heap.size := hb_29.size
  have HB_30 := belowThen HB_27 hb_29
  have bA_30 := Lib.hid (bA_27.out.below hb_29); clear bA_27
  have w0_30 := Lib.hid (w0_27.out.below AtomE.stays hb_29 (by omega)); clear w0_27
  have x0_30 := Lib.hid (x0_27.out.below hb_29 (by omega)); clear x0_27
  have x1_30 := Lib.hid (x1_28.out.below hb_29); clear x1_28
  clear HB_27
  have bX_31 := Lib.hid (bx_29)
  have bX0 : W26.heap.size < W29.heap.size := bX_31.out.lt
  clear bx_29 hb_29
  have r_32 := (x0_30.out.atoms.keep AtomE.stays (lo' := 0) (hi' := W29.heap.size) (fun _ _ _ => rfl) (Nat.zero_le _) (by omega))
  rw [XM.out] at r_32
  have r_t := x1_30.out.is_ hmm (Nat.zero_le xg)
  go_wp2_with fail
  rw [hwd_29.out]
  refine (CI.out xA n n (some ⟨xg, 0, none⟩) m m _ r_32 r_t).mono ?_; rintro e W33 ⟨gA, gc, gr, rfl, go, gm, hb_33⟩
  clear r_32 r_t
  have GM := Lib.hid gm; clear gm
  have hz_34 : W29.heap.size ≤ W33.heap.size := hb_33.size
  have HB_34 := belowThen HB_30 hb_33
  have bA_34 := Lib.hid (bA_30.out.below hb_33); clear bA_30
  have w0_34 := Lib.hid (w0_30.out.below AtomE.stays hb_33 (by omega)); clear w0_30
  have x0_34 := Lib.hid (x0_30.out.below hb_33 (by omega)); clear x0_30
  have x1_34 := Lib.hid (x1_30.out.below hb_33); clear x1_30
  have bX_34 := Lib.hid (bX_31.out.below hb_33); clear bX_31
  clear HB_30
  have g0_35 := Lib.hid (go)
  clear go
  have r_36 := (g0_35.out.atoms.keep AtomE.stays (lo' := 0) (hi' := W33.heap.size) (fun _ _ _ => rfl) (Nat.zero_le _) (by omega))
  rw [GM.out] at r_36
  have r_37 := (w0_34.out.keep AtomE.stays (lo' := 0) (hi' := W33.heap.size) (fun _ _ _ => rfl) (Nat.zero_le _) (by omega))
  go_wp2_with fail
  refine (eqAtomS_any _ _ _ _ _ _ P P _ r_36 r_37).mono ?_; rintro e W38 ⟨rfl, hb_38⟩
  clear r_36 r_37
  have hz_39 : W33.heap.size ≤ W38.heap.size := hb_38.size
  have HB_39 := belowThen HB_34 hb_38
  have bA_39 := Lib.hid (bA_34.out.below hb_38); clear bA_34
  have w0_39 := Lib.hid (w0_34.out.below AtomE.stays hb_38 (by omega)); clear w0_34
  have x0_39 := Lib.hid (x0_34.out.below hb_38 (by omega)); clear x0_34
  have x1_39 := Lib.hid (x1_34.out.below hb_38); clear x1_34
  have bX_39 := Lib.hid (bX_34.out.below hb_38); clear bX_34
  have g0_39 := Lib.hid (g0_35.out.below hb_38 (by omega)); clear g0_35
  clear HB_34
  rw [listEq_refl atomEq_refl]
  go_wp2_with fail
  refine (toAtomS_own A n c l _ (H.out.up AtomE.stays HB_39) HN.out).mono ?_; rintro e W40 ⟨yA, yr, rfl, yo, ym, hb_40⟩
  have YM := Lib.hid ym; clear ym
  have hz_41 : W38.heap.size ≤ W40.heap.size := hb_40.size
  have HB_41 := belowThen HB_39 hb_40
  have bA_41 := Lib.hid (bA_39.out.below hb_40); clear bA_39
  have w0_41 := Lib.hid (w0_39.out.below AtomE.stays hb_40 (by omega)); clear w0_39
  have x0_41 := Lib.hid (x0_39.out.below hb_40 (by omega)); clear x0_39
  have x1_41 := Lib.hid (x1_39.out.below hb_40); clear x1_39
  have bX_41 := Lib.hid (bX_39.out.below hb_40); clear bX_39
  have g0_41 := Lib.hid (g0_39.out.below hb_40 (by omega)); clear g0_39
  clear HB_39
  have y0_42 := Lib.hid (yo)
  clear yo
  have r_43 := (x0_41.out.atoms.keep AtomE.stays (lo' := 0) (hi' := W40.heap.size) (fun _ _ _ => rfl) (Nat.zero_le _) (by omega))
  rw [XM.out] at r_43
  have r_44 := (y0_42.out.atoms.keep AtomE.stays (lo' := 0) (hi' := W40.heap.size) (fun _ _ _ => rfl) (Nat.zero_le _) (by omega))
  rw [YM.out] at r_44
  go_wp2_with fail
  refine (eqAtomS_any _ _ _ _ _ _ l l _ r_43 r_44).mono ?_; rintro e W45 ⟨rfl, hb_45⟩
  clear r_43 r_44
  have hz_46 : W40.heap.size ≤ W45.heap.size := hb_45.size
  have HB_46 := belowThen HB_41 hb_45
  have bA_46 := Lib.hid (bA_41.out.below hb_45); clear bA_41
  have w0_46 := Lib.hid (w0_41.out.below AtomE.stays hb_45 (by omega)); clear w0_41
  have x0_46 := Lib.hid (x0_41.out.below hb_45 (by omega)); clear x0_41
  have x1_46 := Lib.hid (x1_41.out.below hb_45); clear x1_41
  have bX_46 := Lib.hid (bX_41.out.below hb_45); clear bX_41
  have g0_46 := Lib.hid (g0_41.out.below hb_45 (by omega)); clear g0_41
  have y0_46 := Lib.hid (y0_42.out.below hb_45 (by omega)); clear y0_42
  clear HB_41
  rw [listEq_refl atomEq_refl]
  clear y0_46
  go_wp2_with fail
  obtain ⟨V47, hV47⟩ : ∃ X, W45.drew = X := ⟨_, rfl⟩
  have hz_48 : W45.heap.size ≤ V47.heap.size := by rw [← hV47]; exact Nat.le_refl _
  have HB_48 := (show Below w.heap.size w V47 from by rw [← hV47]; exact HB_46.drew)
  have bA_48 := Lib.hid (show Blk V47 (w.heap.size) 41 #[.string nm, .slice B m d] from by rw [← hV47]; exact bA_46.out); clear bA_46
  have w0_48 := Lib.hid (IsSeq.keep w0_46.out (w' := V47) AtomE.stays (fun _ _ _ => by rw [← hV47]; rfl) (Nat.le_refl _) (Nat.le_refl _)); clear w0_46
  have x0_48 := Lib.hid (OwnRefs.keep x0_46.out (w' := V47) (fun _ _ _ => by rw [← hV47]; rfl) (Nat.le_refl _) (Nat.le_refl _)); clear x0_46
  have x1_48 := Lib.hid (show OwnTerms V47 xg m ts from by rw [← hV47]; exact x1_46.out); clear x1_46
  have bX_48 := Lib.hid (show Blk V47 (W26.heap.size) 26 #[.string nm, .slice (some ⟨xg, 0, none⟩) m m] from by rw [← hV47]; exact bX_46.out); clear bX_46
  have g0_48 := Lib.hid (OwnRefs.keep g0_46.out (w' := V47) (fun _ _ _ => by rw [← hV47]; rfl) (Nat.le_refl _) (Nat.le_refl _)); clear g0_46
  clear HB_46
  refine wp_region_held_drew (S := fun W => (W.cell? ⟨w.heap.size, 0, none⟩ = some (.string nm) ∧ W.cell? ⟨w.heap.size, 1, none⟩ = some (.slice B m d)) ∧ W.cell? ⟨W26.heap.size, 0, none⟩ = some (.string nm) ∧ W.cell? ⟨W26.heap.size, 1, none⟩ = some (.slice (some ⟨xg, 0, none⟩) m m)) (by kernel_rfl) (by rw [hV47]; exact ⟨⟨bA_48.out.cell 0, bA_48.out.cell 1⟩, bX_48.out.cell 0, bX_48.out.cell 1⟩) ?_
  rw [hV47]
  intro hS_
  refine takeV (i := 0) (v := .agg #[.string nm, .slice (some ⟨xg, 0, none⟩) m m]) (by (simp only [List.getElem?_toArray, List.getElem?_cons_zero]); rfl) (by kernel_rfl) (by kernel_rfl) (by kernel_rfl) (by rfl) (fun _ _ _ h => h) (Or.inl ⟨by rfl, ?_⟩) hS_ (by (simp only [List.setIfInBounds_toArray, List.set_cons_succ, List.set_cons_zero]); rfl) ?_
  · intro w_ hSw_; (try dsimp only at hSw_); go_simp
  refine takeV (i := 1) (v := .agg #[.string nm, .slice B m d]) (by (simp only [List.getElem?_toArray, List.getElem?_cons_succ, List.getElem?_cons_zero]); rfl) (by kernel_rfl) (by kernel_rfl) (by kernel_rfl) (by rfl) (fun _ _ _ h => h) (Or.inl ⟨by rfl, ?_⟩) hS_ (by (simp only [List.setIfInBounds_toArray, List.set_cons_succ, List.set_cons_zero]); rfl) ?_
  · intro w_ hSw_; (try dsimp only at hSw_); go_simp
  refine wpAnyH_ready (rs := [2]) (by kernel_rfl) (by simp) ?_
  refine AllReadyH.cons (o := _) (by (simp only [List.getElem?_toArray, List.getElem?_cons_succ, List.getElem?_cons_zero]); rfl) (fun K_ hK_ => ?_) AllReadyH.nil
  rw [if_pos (by rfl)]
  go_simp
  go_at_call 30
  refine (toAtom_any nm B m d ts _ (H'.out.up HB_48) hm).mono ?_; rintro e W49 ⟨yg, rfl, yg0, yt, hb_49⟩
  have hz_50 : V47.heap.size ≤ W49.heap.size := hb_49.size
  have HB_50 := belowThen HB_48 hb_49
  have bA_50 := Lib.hid (bA_48.out.below hb_49); clear bA_48
  have w0_50 := Lib.hid (w0_48.out.below AtomE.stays hb_49 (by omega)); clear w0_48
  have x0_50 := Lib.hid (x0_48.out.below hb_49 (by omega)); clear x0_48
  have x1_50 := Lib.hid (x1_48.out.below hb_49); clear x1_48
  have bX_50 := Lib.hid (bX_48.out.below hb_49); clear bX_48
  have g0_50 := Lib.hid (g0_48.out.below hb_49 (by omega)); clear g0_48
  clear HB_48
  have yi := yt.is_ hmm (Nat.zero_le _)
  refine hK_.out _ _ ⟨⟨bA_50.out.cell 0, bA_50.out.cell 1⟩, bX_50.out.cell 0, bX_50.out.cell 1⟩ (fun hS2_ => ?_)
  clear hK_ hS_; have hS_ := hS2_; clear hS2_
  refine wpAnyH_ready (rs := [3]) (by kernel_rfl) (by simp) ?_
  refine AllReadyH.cons (o := _) (by (simp only [List.getElem?_toArray, List.getElem?_cons_succ, List.getElem?_cons_zero]); rfl) (fun K_ hK_ => ?_) AllReadyH.nil
  have zi := x1_50.out.is_ hmm (Nat.zero_le xg)
  rw [if_pos (by rfl)]
  go_simp
  go_at_call 31
  refine (eqAtom_any nm nm _ _ _ _ _ _ ts ts _ zi yi).mono ?_; rintro e W51 ⟨rfl, hb_51⟩
  clear yi zi yt
  have hz_52 : W49.heap.size ≤ W51.heap.size := hb_51.size
  have HB_52 := belowThen HB_50 hb_51
  have bA_52 := Lib.hid (bA_50.out.below hb_51); clear bA_50
  have w0_52 := Lib.hid (w0_50.out.below AtomE.stays hb_51 (by omega)); clear w0_50
  have x0_52 := Lib.hid (x0_50.out.below hb_51 (by omega)); clear x0_50
  have x1_52 := Lib.hid (x1_50.out.below hb_51); clear x1_50
  have bX_52 := Lib.hid (bX_50.out.below hb_51); clear bX_50
  have g0_52 := Lib.hid (g0_50.out.below hb_51 (by omega)); clear g0_50
  clear HB_50
  rw [atomEq_refl]
  refine hK_.out _ _ ⟨⟨bA_52.out.cell 0, bA_52.out.cell 1⟩, bX_52.out.cell 0, bX_52.out.cell 1⟩ (fun hS2_ => ?_)
  clear hK_ hS_; have hS_ := hS2_; clear hS2_
  refine takeV (i := 4) (v := .bool false) (by (simp only [List.getElem?_toArray, List.getElem?_cons_succ, List.getElem?_cons_zero]); rfl) (by kernel_rfl) (by kernel_rfl) (by kernel_rfl) (by rfl) (fun _ _ _ h => h) (Or.inl ⟨by rfl, ?_⟩) hS_ (by (simp only [List.setIfInBounds_toArray, List.set_cons_succ, List.set_cons_zero]); rfl) ?_
  · intro w_ hSw_; (try dsimp only at hSw_); go_simp
  refine wpAnyH_done (by kernel_rfl) ?_ _
  clear hS_ hV47
  have hk0 := markN_tiny x0_52.out.refs XM.out HN.out
  have hk1 : markN 1 xr ≤ 2 ^ 50 := by omega
  go_wp2_with fail
  refine (markAtomS_any _ _ xA n n 1 xr _ x0_52.out (by omega) hk1).mono ?_; rintro e W53 ⟨rfl, -, hb_53⟩
  clear x0_52
  have hz_54 : W51.heap.size ≤ W53.heap.size := hb_53.size
  have HB_54 := HB_52.trans (hb_53.low (B := w.heap.size) (by omega) (by omega))
  have bA_54 := Lib.hid (bA_52.out.within hb_53 (by omega)); clear bA_52
  have w0_54 := Lib.hid (w0_52.out.keep AtomE.stays (fun q h1 h2 => World.cell?_of_block (hb_53.block q.block (by omega) (by omega))) (Nat.le_refl _) (Nat.le_refl _)); clear w0_52
  have x1_54 := Lib.hid (x1_52.out.within hb_53 (by omega)); clear x1_52
  have bX_54 := Lib.hid (bX_52.out.within hb_53 (by omega)); clear bX_52
  have g0_54 := Lib.hid (g0_52.out.keep (fun b h1 h2 => hb_53.block b (by omega) (by omega)) (Nat.le_refl _) (Nat.le_refl _)); clear g0_52
  clear HB_52
  have hk2 : markN 1 xr + 2 * m ≤ 2 ^ 50 := by omega
  have u_55 : W53.cell? ⟨W26.heap.size, 0, none⟩ = some (.string nm) := bX_54.out.cell 0
  have u_56 : W53.cell? ⟨W26.heap.size, 1, none⟩ = some (.slice (some ⟨xg, 0, none⟩) m m) := bX_54.out.cell 1
  go_wp2_with fail
  refine (markAtom_any nm xg m (markN 1 xr) ts _ x1_54.out hk2).mono ?_; rintro e W57 ⟨rfl, hb_57⟩
  clear u_55 u_56
  clear x1_54
  clear bX_54
  have hz_58 : W53.heap.size ≤ W57.heap.size := hb_57.size
  have HB_58 := HB_54.trans (hb_57.low (B := w.heap.size) (by omega) (by omega))
  have bA_58 := Lib.hid (bA_54.out.within hb_57 (by omega)); clear bA_54
  have w0_58 := Lib.hid (w0_54.out.keep AtomE.stays (fun q h1 h2 => World.cell?_of_block (hb_57.block q.block (by omega) (by omega))) (Nat.le_refl _) (Nat.le_refl _)); clear w0_54
  have g0_58 := Lib.hid (g0_54.out.keep (fun b h1 h2 => hb_57.block b (by omega) (by omega)) (Nat.le_refl _) (Nat.le_refl _)); clear g0_54
  clear HB_54
  have hk3 : ¬ (((markN 1 xr + 2 * m : Nat) : Int) < 0) := by omega
  have r_59 := (g0_58.out.atoms.keep AtomE.stays (lo' := 0) (hi' := W57.heap.size) (fun _ _ _ => rfl) (Nat.zero_le _) (by omega))
  rw [GM.out] at r_59
  have r_60 := (w0_58.out.keep AtomE.stays (lo' := 0) (hi' := W57.heap.size) (fun _ _ _ => rfl) (Nat.zero_le _) (by omega))
  go_wp2_with fail
  refine (eqAtomS_any _ _ _ _ _ _ P P _ r_59 r_60).mono ?_; rintro e W61 ⟨rfl, hb_61⟩
  clear r_59 r_60
  have hz_62 : W57.heap.size ≤ W61.heap.size := hb_61.size
  have HB_62 := belowThen HB_58 hb_61
  have bA_62 := Lib.hid (bA_58.out.below hb_61); clear bA_58
  have w0_62 := Lib.hid (w0_58.out.below AtomE.stays hb_61 (by omega)); clear w0_58
  have g0_62 := Lib.hid (g0_58.out.below hb_61 (by omega)); clear g0_58
  clear HB_58
  rw [listEq_refl atomEq_refl]
  clear hk3
  have hk4 := markN_small g0_62.out.refs GM.out (by rw [show gr.length = P.length from by rw [← GM.out, List.length_map]]; exact SMP.out)
  go_wp2_with fail
  refine (markAtomS_any _ _ gA gr.length gc 1 gr _ g0_62.out (by omega) hk4).mono ?_; rintro e W63 ⟨rfl, go1, hb_63⟩
  clear g0_62
  have hz_64 : W61.heap.size ≤ W63.heap.size := hb_63.size
  have HB_64 := HB_62.trans (hb_63.low (B := w.heap.size) (by omega) (by omega))
  have bA_64 := Lib.hid (bA_62.out.within hb_63 (by omega)); clear bA_62
  have w0_64 := Lib.hid (w0_62.out.keep AtomE.stays (fun q h1 h2 => World.cell?_of_block (hb_63.block q.block (by omega) (by omega))) (Nat.le_refl _) (Nat.le_refl _)); clear w0_62
  clear HB_62
  have g1_65 := Lib.hid (go1)
  clear go1
  obtain ⟨mk, hmk⟩ : ∃ z, markN 1 gr = z := ⟨_, rfl⟩
  have HMK := Lib.hid hmk; clear hmk
  rw [HMK.out]
  have hm0 : ¬ (((mk : Nat) : Int) < 0) := by omega
  have hm1 : (((mk : Nat) : Int) != ((mk : Nat) : Int)) = false := by simp
  have r_66 := IsSeq.keep g1_65.out.refs RefE.stays (lo' := 0) (hi' := W63.heap.size) (fun _ _ _ => rfl) (Nat.zero_le _) (by omega)
  go_wp2_with fail
  refine (heldAtomS_any gA gr.length gc 1 gr _ r_66 hk4).mono ?_; rintro e W67 ⟨rfl, hb_67⟩
  clear r_66
  have hz_68 : W63.heap.size ≤ W67.heap.size := hb_67.size
  have HB_68 := belowThen HB_64 hb_67
  have bA_68 := Lib.hid (bA_64.out.below hb_67); clear bA_64
  have w0_68 := Lib.hid (w0_64.out.below AtomE.stays hb_67 (by omega)); clear w0_64
  have g1_68 := Lib.hid (g1_65.out.below hb_67 (by omega)); clear g1_65
  clear HB_64
  rw [HMK.out]
  go_wp2_with fail
  obtain ⟨V69, hV69⟩ : ∃ X, W67.drew = X := ⟨_, rfl⟩
  have hz_70 : W67.heap.size ≤ V69.heap.size := by rw [← hV69]; exact Nat.le_refl _
  have HB_70 := (show Below w.heap.size w V69 from by rw [← hV69]; exact HB_68.drew)
  have bA_70 := Lib.hid (show Blk V69 (w.heap.size) 41 #[.string nm, .slice B m d] from by rw [← hV69]; exact bA_68.out); clear bA_68
  have w0_70 := Lib.hid (IsSeq.keep w0_68.out (w' := V69) AtomE.stays (fun _ _ _ => by rw [← hV69]; rfl) (Nat.le_refl _) (Nat.le_refl _)); clear w0_68
  have g1_70 := Lib.hid (OwnRefs.keep g1_68.out (w' := V69) (fun _ _ _ => by rw [← hV69]; rfl) (Nat.le_refl _) (Nat.le_refl _)); clear g1_68
  clear HB_68
  refine wp_region_held_drew (S := fun W => W.cell? ⟨w.heap.size, 0, none⟩ = some (.string nm) ∧ W.cell? ⟨w.heap.size, 1, none⟩ = some (.slice B m d)) (by kernel_rfl) (by rw [hV69]; exact ⟨bA_70.out.cell 0, bA_70.out.cell 1⟩) ?_
  rw [hV69]
  intro hS_
  refine takeV (i := 0) (v := .slice A n c) (by (simp only [List.getElem?_toArray, List.getElem?_cons_zero]); rfl) (by kernel_rfl) (by kernel_rfl) (by kernel_rfl) (by rfl) (fun _ _ _ h => h) (Or.inl ⟨by rfl, ?_⟩) hS_ (by (simp only [List.setIfInBounds_toArray, List.set_cons_succ, List.set_cons_zero]); rfl) ?_
  · intro w_ hSw_; (try dsimp only at hSw_); go_simp
  refine takeV (i := 2) (v := .agg #[.string nm, .slice B m d]) (by (simp only [List.getElem?_toArray, List.getElem?_cons_succ, List.getElem?_cons_zero]); rfl) (by kernel_rfl) (by kernel_rfl) (by kernel_rfl) (by rfl) (fun _ _ _ h => h) (Or.inl ⟨by rfl, ?_⟩) hS_ (by (simp only [List.setIfInBounds_toArray, List.set_cons_succ, List.set_cons_zero]); rfl) ?_
  · intro w_ hSw_; (try dsimp only at hSw_); go_simp
  refine wpAnyH_ready (rs := [1]) (by kernel_rfl) (by simp) ?_
  refine AllReadyH.cons (o := _) (by (simp only [List.getElem?_toArray, List.getElem?_cons_succ, List.getElem?_cons_zero]); rfl) (fun K_ hK_ => ?_) AllReadyH.nil
  rw [if_pos (by rfl)]
  go_simp
  go_at_call 27
  refine (toAtomS_own A n c l _ (H.out.up AtomE.stays HB_70) HN.out).mono ?_; rintro e W71 ⟨bA1, br1, rfl, bo, bm, hb_71⟩
  have BM := Lib.hid bm; clear bm
  have hz_72 : V69.heap.size ≤ W71.heap.size := hb_71.size
  have HB_72 := belowThen HB_70 hb_71
  have bA_72 := Lib.hid (bA_70.out.below hb_71); clear bA_70
  have w0_72 := Lib.hid (w0_70.out.below AtomE.stays hb_71 (by omega)); clear w0_70
  have g1_72 := Lib.hid (g1_70.out.below hb_71 (by omega)); clear g1_70
  clear HB_70
  have bl_73 := Lib.hid (bo)
  clear bo
  refine hK_.out _ _ ⟨bA_72.out.cell 0, bA_72.out.cell 1⟩ (fun hS2_ => ?_)
  clear hK_ hS_; have hS_ := hS2_; clear hS2_
  refine wpAnyH_ready (rs := [3]) (by kernel_rfl) (by simp) ?_
  refine AllReadyH.cons (o := _) (by (simp only [List.getElem?_toArray, List.getElem?_cons_succ, List.getElem?_cons_zero]); rfl) (fun K_ hK_ => ?_) AllReadyH.nil
  rw [if_pos (by rfl)]
  go_simp
  go_at_call 30
  refine (toAtom_any nm B m d ts _ (H'.out.up HB_72) hm).mono ?_; rintro e W74 ⟨bg, rfl, bg0, bt, hb_74⟩
  have hz_75 : W71.heap.size ≤ W74.heap.size := hb_74.size
  have HB_75 := belowThen HB_72 hb_74
  have bA_75 := Lib.hid (bA_72.out.below hb_74); clear bA_72
  have w0_75 := Lib.hid (w0_72.out.below AtomE.stays hb_74 (by omega)); clear w0_72
  have g1_75 := Lib.hid (g1_72.out.below hb_74 (by omega)); clear g1_72
  have bl_75 := Lib.hid (bl_73.out.below hb_74 (by omega)); clear bl_73
  clear HB_72
  have bi := bt.is_ hmm (Nat.zero_le _)
  refine hK_.out _ _ ⟨bA_75.out.cell 0, bA_75.out.cell 1⟩ (fun hS2_ => ?_)
  clear hK_ hS_; have hS_ := hS2_; clear hS2_
  refine wpAnyH_ready (rs := [4]) (by kernel_rfl) (by simp) ?_
  refine AllReadyH.cons (o := _) (by (simp only [List.getElem?_toArray, List.getElem?_cons_succ, List.getElem?_cons_zero]); rfl) (fun K_ hK_ => ?_) AllReadyH.nil
  have r_76 := (bl_75.out.atoms.keep AtomE.stays (lo' := 0) (hi' := W74.heap.size) (fun _ _ _ => rfl) (Nat.zero_le _) (by omega))
  rw [BM.out] at r_76
  rw [if_pos (by rfl)]
  go_simp
  go_at_call 23
  refine (CI.out bA1 n n (some ⟨bg, 0, none⟩) m m _ r_76 bi).mono ?_; rintro e W77 ⟨hA, hc, hr0, rfl, ho, hmm0, hb_77⟩
  clear r_76
  have HM0 := Lib.hid hmm0; clear hmm0 bi bt
  clear bl_75
  have hz_78 : W74.heap.size ≤ W77.heap.size := hb_77.size
  have HB_78 := belowThen HB_75 hb_77
  have bA_78 := Lib.hid (bA_75.out.below hb_77); clear bA_75
  have w0_78 := Lib.hid (w0_75.out.below AtomE.stays hb_77 (by omega)); clear w0_75
  have g1_78 := Lib.hid (g1_75.out.below hb_77 (by omega)); clear g1_75
  clear HB_75
  have h0_79 := Lib.hid (ho)
  clear ho
  refine hK_.out _ _ ⟨bA_78.out.cell 0, bA_78.out.cell 1⟩ (fun hS2_ => ?_)
  clear hK_ hS_; have hS_ := hS2_; clear hS2_
  refine takeV (i := 5) (v := .tuple #[.slice hA hr0.length hc, .bool q]) (by (simp only [List.getElem?_toArray, List.getElem?_cons_succ, List.getElem?_cons_zero]); rfl) (by kernel_rfl) (by kernel_rfl) (by kernel_rfl) (by rfl) (fun _ _ _ h => h) (Or.inl ⟨by rfl, ?_⟩) hS_ (by (simp only [List.setIfInBounds_toArray, List.set_cons_succ, List.set_cons_zero]); rfl) ?_
  · intro w_ hSw_; (try dsimp only at hSw_); go_simp
  refine takeV (i := 6) (v := .slice hA hr0.length hc) (by (simp only [List.getElem?_toArray, List.getElem?_cons_succ, List.getElem?_cons_zero]); rfl) (by kernel_rfl) (by kernel_rfl) (by kernel_rfl) (by rfl) (fun _ _ _ h => h) (Or.inl ⟨by rfl, ?_⟩) hS_ (by (simp only [List.setIfInBounds_toArray, List.set_cons_succ, List.set_cons_zero]); rfl) ?_
  · intro w_ hSw_; (try dsimp only at hSw_); go_simp
  refine takeV (i := 7) (v := .bool q) (by (simp only [List.getElem?_toArray, List.getElem?_cons_succ, List.getElem?_cons_zero]); rfl) (by kernel_rfl) (by kernel_rfl) (by kernel_rfl) (by rfl) (fun _ _ _ h => h) (Or.inl ⟨by rfl, ?_⟩) hS_ (by (simp only [List.setIfInBounds_toArray, List.set_cons_succ, List.set_cons_zero]); rfl) ?_
  · intro w_ hSw_; (try dsimp only at hSw_); go_simp
  refine takeV (i := 8) (v := .slice hA hr0.length hc) (by (simp only [List.getElem?_toArray, List.getElem?_cons_succ, List.getElem?_cons_zero]); rfl) (by kernel_rfl) (by kernel_rfl) (by kernel_rfl) (by rfl) (fun _ _ _ h => h) (Or.inl ⟨by rfl, ?_⟩) hS_ (by (simp only [List.setIfInBounds_toArray, List.set_cons_succ, List.set_cons_zero]); rfl) ?_
  · intro w_ hSw_; (try dsimp only at hSw_); go_simp
  refine takeV (i := 9) (v := .bool q) (by (simp only [List.getElem?_toArray, List.getElem?_cons_succ, List.getElem?_cons_zero]); rfl) (by kernel_rfl) (by kernel_rfl) (by kernel_rfl) (by rfl) (fun _ _ _ h => h) (Or.inl ⟨by rfl, ?_⟩) hS_ (by (simp only [List.setIfInBounds_toArray, List.set_cons_succ, List.set_cons_zero]); rfl) ?_
  · intro w_ hSw_; (try dsimp only at hSw_); go_simp
  refine wpAnyH_done (by kernel_rfl) ?_ _
  clear hS_ hV69
  have r_80 := (h0_79.out.atoms.keep AtomE.stays (lo' := 0) (hi' := W77.heap.size) (fun _ _ _ => rfl) (Nat.zero_le _) (by omega))
  rw [HM0.out] at r_80
  have r_81 := (w0_78.out.keep AtomE.stays (lo' := 0) (hi' := W77.heap.size) (fun _ _ _ => rfl) (Nat.zero_le _) (by omega))
  go_wp2_with fail
  refine (eqAtomS_any _ _ _ _ _ _ P P _ r_80 r_81).mono ?_; rintro e W82 ⟨rfl, hb_82⟩
  clear r_80 r_81
  have hz_83 : W77.heap.size ≤ W82.heap.size := hb_82.size
  have HB_83 := belowThen HB_78 hb_82
  have bA_83 := Lib.hid (bA_78.out.below hb_82); clear bA_78
  have w0_83 := Lib.hid (w0_78.out.below AtomE.stays hb_82 (by omega)); clear w0_78
  have g1_83 := Lib.hid (g1_78.out.below hb_82 (by omega)); clear g1_78
  have h0_83 := Lib.hid (h0_79.out.below hb_82 (by omega)); clear h0_79
  clear HB_78
  rw [listEq_refl atomEq_refl]
  have r_84 := IsSeq.keep g1_83.out.refs RefE.stays (lo' := 0) (hi' := W82.heap.size) (fun _ _ _ => rfl) (Nat.zero_le _) (by omega)
  go_wp2_with fail
  refine (heldAtomS_any gA gr.length gc 1 gr _ r_84 hk4).mono ?_; rintro e W85 ⟨rfl, hb_85⟩
  clear r_84
  have hz_86 : W82.heap.size ≤ W85.heap.size := hb_85.size
  have HB_86 := belowThen HB_83 hb_85
  have bA_86 := Lib.hid (bA_83.out.below hb_85); clear bA_83
  have w0_86 := Lib.hid (w0_83.out.below AtomE.stays hb_85 (by omega)); clear w0_83
  have g1_86 := Lib.hid (g1_83.out.below hb_85 (by omega)); clear g1_83
  have h0_86 := Lib.hid (h0_83.out.below hb_85 (by omega)); clear h0_83
  clear HB_83
  rw [HMK.out]
  go_wp2
  go_ret; exact ⟨rfl, HB_86⟩

end Go.Proofs.Ytenklmednmhbkaa
