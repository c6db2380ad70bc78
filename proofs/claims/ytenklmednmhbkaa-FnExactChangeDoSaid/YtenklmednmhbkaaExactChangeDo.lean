/-
  The exact law of ChangeDo: at every list of atoms and every change the program answers as its model, in memory of its own, and leaves what came in as it was. (Written by tools/exdo.py.)
-/
import Derived.Test.YtenklmednmhbkaaDoImpl
import Derived.Test.YtenklmednmhbkaaMarkC
namespace Go.Proofs.Ytenklmednmhbkaa
open Go.RowKit

set_option maxRecDepth 100000 in
set_option maxHeartbeats 16000000 in
theorem exactChangeDo_any (A : Option Addr) (n c : Nat) (xs : List At) (B D : Option Addr) (m d m' d' : Nat) (cs gs : List At) (w : World) (h : IsAtoms w 0 w.heap.size A n c xs) (h1 : IsAtoms w 0 w.heap.size B m d cs) (h2 : IsAtoms w 0 w.heap.size D m' d' gs) :
    Calls Try.prog 11 #[.slice A n c, .agg #[.slice B m d, .slice D m' d']] w (BoolPost true w) := by
  have H := Lib.hid h; have H1 := Lib.hid h1; have H2 := Lib.hid h2; clear h h1 h2
  obtain ⟨P, q, hP⟩ : ∃ P q, doneL xs cs gs = (P, q) := ⟨_, _, rfl⟩
  have SMP := Lib.hid (doneL_small hP)
  have cCS : ∀ (A1 : Option Addr) (n1 c1 : Nat) (B1 : Option Addr) (m1 d1 : Nat) (D1 : Option Addr) (m2 d2 : Nat) (W : World), IsAtoms W 0 W.heap.size A1 n1 c1 xs → IsAtoms W 0 W.heap.size B1 m1 d1 cs → IsAtoms W 0 W.heap.size D1 m2 d2 gs → Calls Try.prog 44 #[.slice A1 n1 c1, .agg #[.slice B1 m1 d1, .slice D1 m2 d2]] W (CopySPost P W) := by
    intro A1 n1 c1 B1 m1 d1 D1 m2 d2 W k1 k2 k3; have := specChangeDo_any A1 n1 c1 xs B1 m1 d1 cs D1 m2 d2 gs W k1 k2 k3; rw [hP] at this; exact this
  have CS := Lib.hid cCS; clear cCS
  have cCI : ∀ (A1 : Option Addr) (n1 c1 : Nat) (B1 : Option Addr) (m1 d1 : Nat) (D1 : Option Addr) (m2 d2 : Nat) (W : World), IsAtoms W 0 W.heap.size A1 n1 c1 xs → IsAtoms W 0 W.heap.size B1 m1 d1 cs → IsAtoms W 0 W.heap.size D1 m2 d2 gs → Calls Try.prog 45 #[.slice A1 n1 c1, .agg #[.slice B1 m1 d1, .slice D1 m2 d2]] W (CopySPost P W) := by
    intro A1 n1 c1 B1 m1 d1 D1 m2 d2 W k1 k2 k3; have := implChangeDo_any A1 n1 c1 xs B1 m1 d1 cs D1 m2 d2 gs W k1 k2 k3; rw [hP] at this; exact this
  have CI := Lib.hid cCI; clear cCI
  clear hP
  have hne : ∀ z : Int, (z != z) = false := by simp
  have HB_0 := below1 w (.cells #[.slice B m d, .slice D m' d'] 49)
  obtain ⟨W0, hW0⟩ : ∃ X, w.alloc (.cells #[.slice B m d, .slice D m' d'] 49) = X := ⟨_, rfl⟩
  go_enter Try.func11, Try.ntmps11
  go_wp2_with fail
  (try rw [hW0]); rw [hW0] at HB_0
  have hz_0 : w.heap.size ≤ W0.heap.size := HB_0.size
  have bA_1 := Lib.hid (show Blk W0 (w.heap.size) 49 #[.slice B m d, .slice D m' d'] from by rw [← hW0]; exact Blk.new w _ _)
  clear hW0
  have bA0 : w.heap.size < W0.heap.size := bA_1.out.lt
  refine (szAtomS_any A n c xs _ _ (H.out.up AtomE.stays HB_0) (by omega) (by omega)).mono ?_; rintro e W2 ⟨y, ⟨rfl, ha, hbb, hc⟩, hb_2⟩
  have hz_3 : W0.heap.size ≤ W2.heap.size := hb_2.size
  have HB_3 := belowThen HB_0 hb_2
  have bA_3 := Lib.hid (bA_1.out.below hb_2); clear bA_1
  clear HB_0
  have u_4 : W2.cell? ⟨w.heap.size, 0, none⟩ = some (.slice B m d) := bA_3.out.cell 0
  have u_5 : W2.cell? ⟨w.heap.size, 1, none⟩ = some (.slice D m' d') := bA_3.out.cell 1
  go_wp2_with fail
  all_goals try (go_ret; exact ⟨rfl, HB_3⟩)
  have hy0 : 0 ≤ y := by assumption
  have HN := Lib.hid (hc hy0); clear ha hc
  refine (szChange_any B D m d m' d' cs gs _ _ (H1.out.up AtomE.stays HB_3) (H2.out.up AtomE.stays HB_3) hy0 (by omega)).mono ?_; rintro e W6 ⟨y', ⟨rfl, ha', hb', hc'⟩, hb_6⟩
  clear u_4 u_5
  have hz_7 : W2.heap.size ≤ W6.heap.size := hb_6.size
  have HB_7 := belowThen HB_3 hb_6
  have bA_7 := Lib.hid (bA_3.out.below hb_6); clear bA_3
  clear HB_3
  have u_8 : W6.cell? ⟨w.heap.size, 0, none⟩ = some (.slice B m d) := bA_7.out.cell 0
  have u_9 : W6.cell? ⟨w.heap.size, 1, none⟩ = some (.slice D m' d') := bA_7.out.cell 1
  go_wp2_with fail
  all_goals try (go_ret; exact ⟨rfl, HB_7⟩)
  have HN' := Lib.hid (hc' (by assumption))
  clear ha' hc' hb' hbb hy0
  clear u_8 u_9
  obtain ⟨V10, hV10⟩ : ∃ X, W6.drew = X := ⟨_, rfl⟩
  have hz_11 : W6.heap.size ≤ V10.heap.size := by rw [← hV10]; exact Nat.le_refl _
  have HB_11 := (show Below w.heap.size w V10 from by rw [← hV10]; exact HB_7.drew)
  have bA_11 := Lib.hid (show Blk V10 (w.heap.size) 49 #[.slice B m d, .slice D m' d'] from by rw [← hV10]; exact bA_7.out); clear bA_7
  clear HB_7
  refine wp_region_held_drew (S := fun W => W.cell? ⟨w.heap.size, 0, none⟩ = some (.slice B m d) ∧ W.cell? ⟨w.heap.size, 1, none⟩ = some (.slice D m' d')) (by kernel_rfl) (by rw [hV10]; exact ⟨bA_11.out.cell 0, bA_11.out.cell 1⟩) ?_
  rw [hV10]
  intro hS_
  refine takeV (i := 0) (v := .slice A n c) (by (simp only [List.getElem?_toArray, List.getElem?_cons_zero]); rfl) (by kernel_rfl) (by kernel_rfl) (by kernel_rfl) (by rfl) (fun _ _ _ h => h) (Or.inl ⟨by rfl, ?_⟩) hS_ (by (simp only [List.setIfInBounds_toArray, List.set_cons_succ, List.set_cons_zero]); rfl) ?_
  · intro w_ hSw_; (try dsimp only at hSw_); go_simp
  refine takeV (i := 2) (v := .agg #[.slice B m d, .slice D m' d']) (by (simp only [List.getElem?_toArray, List.getElem?_cons_succ, List.getElem?_cons_zero]); rfl) (by kernel_rfl) (by kernel_rfl) (by kernel_rfl) (by rfl) (fun _ _ _ h => h) (Or.inl ⟨by rfl, ?_⟩) hS_ (by (simp only [List.setIfInBounds_toArray, List.set_cons_succ, List.set_cons_zero]); rfl) ?_
  · intro w_ hSw_; (try dsimp only at hSw_); go_simp
  refine wpAnyH_ready (rs := [1]) (by kernel_rfl) (by simp) ?_
  refine AllReadyH.cons (o := _) (by (simp only [List.getElem?_toArray, List.getElem?_cons_succ, List.getElem?_cons_zero]); rfl) (fun K_ hK_ => ?_) AllReadyH.nil
  rw [if_pos (by rfl)]
  go_simp
  go_at_call 27
  refine (toAtomS_own A n c _ _ (H.out.up AtomE.stays HB_11) HN.out).mono ?_; rintro e W12 ⟨saA, sar, rfl, sao, sam, hb_12⟩
  have saM := Lib.hid sam; clear sam
  have hz_13 : V10.heap.size ≤ W12.heap.size := hb_12.size
  have HB_13 := belowThen HB_11 hb_12
  have bA_13 := Lib.hid (bA_11.out.below hb_12); clear bA_11
  clear HB_11
  have s1_14 := Lib.hid (sao)
  clear sao
  refine hK_.out _ _ ⟨bA_13.out.cell 0, bA_13.out.cell 1⟩ (fun hS2_ => ?_)
  clear hK_ hS_; have hS_ := hS2_; clear hS2_
  refine wpAnyH_ready (rs := [3]) (by kernel_rfl) (by simp) ?_
  refine AllReadyH.cons (o := _) (by (simp only [List.getElem?_toArray, List.getElem?_cons_succ, List.getElem?_cons_zero]); rfl) (fun K_ hK_ => ?_) AllReadyH.nil
  rw [if_pos (by rfl)]
  go_simp
  go_at_call 37
  refine (toChange_own B D m d m' d' cs gs _ (H1.out.up AtomE.stays HB_13) (H2.out.up AtomE.stays HB_13) HN'.out).mono ?_; rintro e W15 ⟨sbA, sbB, sbr, sbz, sbmid, rfl, ⟨sbo, sbm⟩, ⟨sbp, sbn⟩, ⟨sbs, sbt⟩, hb_15⟩
  have sbM := Lib.hid sbm; have sbN := Lib.hid sbn; clear sbm sbn
  have hz_16 : W12.heap.size ≤ W15.heap.size := hb_15.size
  have HB_16 := belowThen HB_13 hb_15
  have bA_16 := Lib.hid (bA_13.out.below hb_15); clear bA_13
  have s1_16 := Lib.hid (s1_14.out.below hb_15 (by omega)); clear s1_14
  clear HB_13
  have s2_17 := Lib.hid (sbo)
  have s3_18 := Lib.hid (sbp)
  clear sbo sbp
  refine hK_.out _ _ ⟨bA_16.out.cell 0, bA_16.out.cell 1⟩ (fun hS2_ => ?_)
  clear hK_ hS_; have hS_ := hS2_; clear hS2_
  refine wpAnyH_ready (rs := [4]) (by kernel_rfl) (by simp) ?_
  refine AllReadyH.cons (o := _) (by (simp only [List.getElem?_toArray, List.getElem?_cons_succ, List.getElem?_cons_zero]); rfl) (fun K_ hK_ => ?_) AllReadyH.nil
  have r_19 := (s1_16.out.atoms.keep AtomE.stays (lo' := 0) (hi' := W15.heap.size) (fun _ _ _ => rfl) (Nat.zero_le _) (by omega))
  rw [saM.out] at r_19
  have r_20 := (s2_17.out.atoms.keep AtomE.stays (lo' := 0) (hi' := W15.heap.size) (fun _ _ _ => rfl) (Nat.zero_le _) (by omega))
  rw [sbM.out] at r_20
  have r_21 := (s3_18.out.atoms.keep AtomE.stays (lo' := 0) (hi' := W15.heap.size) (fun _ _ _ => rfl) (Nat.zero_le _) (by omega))
  rw [sbN.out] at r_21
  rw [if_pos (by rfl)]
  go_simp
  go_at_call 44
  refine (CS.out saA n n sbA m m sbB m' m' _ r_19 r_20 r_21).mono ?_; rintro e W22 ⟨sA, sc, sr, rfl, so, sm, hb_22⟩
  clear r_19 r_20 r_21
  have sM := Lib.hid sm; clear sm
  clear s1_16
  clear s2_17
  clear s3_18
  have hz_23 : W15.heap.size ≤ W22.heap.size := hb_22.size
  have HB_23 := belowThen HB_16 hb_22
  have bA_23 := Lib.hid (bA_16.out.below hb_22); clear bA_16
  clear HB_16
  have sq := so.atoms; rw [sM.out] at sq; clear so
  have w0_24 := Lib.hid (sq)
  clear sq
  refine hK_.out _ _ ⟨bA_23.out.cell 0, bA_23.out.cell 1⟩ (fun hS2_ => ?_)
  clear hK_ hS_; have hS_ := hS2_; clear hS2_
  refine takeV (i := 5) (v := .slice sA P.length sc) (by (simp only [List.getElem?_toArray, List.getElem?_cons_succ, List.getElem?_cons_zero]); rfl) (by kernel_rfl) (by kernel_rfl) (by kernel_rfl) (by rfl) (fun _ _ _ h => h) (Or.inl ⟨by rfl, ?_⟩) hS_ (by (simp only [List.setIfInBounds_toArray, List.set_cons_succ, List.set_cons_zero]); rfl) ?_
  · intro w_ hSw_; (try dsimp only at hSw_); go_simp
  refine wpAnyH_done (by kernel_rfl) ?_ _
  clear hS_ hV10
  have u_25 : W22.cell? ⟨w.heap.size, 0, none⟩ = some (.slice B m d) := bA_23.out.cell 0
  have u_26 : W22.cell? ⟨w.heap.size, 1, none⟩ = some (.slice D m' d') := bA_23.out.cell 1
  go_wp2_with fail
  refine (toAtomS_own A n c _ _ (H.out.up AtomE.stays HB_23) HN.out).mono ?_; rintro e W27 ⟨xaA, xar, rfl, xao, xam, hb_27⟩
  clear u_25 u_26
  have xaM := Lib.hid xam; clear xam
  have hz_28 : W22.heap.size ≤ W27.heap.size := hb_27.size
  have HB_28 := belowThen HB_23 hb_27
  have bA_28 := Lib.hid (bA_23.out.below hb_27); clear bA_23
  have w0_28 := Lib.hid (w0_24.out.below AtomE.stays hb_27 (by omega)); clear w0_24
  clear HB_23
  have x1_29 := Lib.hid (xao)
  clear xao
  have u_30 : W27.cell? ⟨w.heap.size, 0, none⟩ = some (.slice B m d) := bA_28.out.cell 0
  have u_31 : W27.cell? ⟨w.heap.size, 1, none⟩ = some (.slice D m' d') := bA_28.out.cell 1
  go_wp2_with fail
  refine (toChange_own B D m d m' d' cs gs _ (H1.out.up AtomE.stays HB_28) (H2.out.up AtomE.stays HB_28) HN'.out).mono ?_; rintro e W32 ⟨xbA, xbB, xbr, xbz, xbmid, rfl, ⟨xbo, xbm⟩, ⟨xbp, xbn⟩, ⟨xbs, xbt⟩, hb_32⟩
  clear u_30 u_31
  have xbM := Lib.hid xbm; have xbN := Lib.hid xbn; clear xbm xbn
  have hz_33 : W27.heap.size ≤ W32.heap.size := hb_32.size
  have HB_33 := belowThen HB_28 hb_32
  have bA_33 := Lib.hid (bA_28.out.below hb_32); clear bA_28
  have w0_33 := Lib.hid (w0_28.out.below AtomE.stays hb_32 (by omega)); clear w0_28
  have x1_33 := Lib.hid (x1_29.out.below hb_32 (by omega)); clear x1_29
  clear HB_28
  have x2_34 := Lib.hid (xbo)
  have x3_35 := Lib.hid (xbp)
  clear xbo xbp
  have hb_36 := below1 W32 (.cells #[.slice xbA m m, .slice xbB m' m'] 53)
  have bx_36 := Blk.new W32 53 #[.slice xbA m m, .slice xbB m' m']
  obtain ⟨W36, hw_36⟩ : ∃ X, W32.alloc (.cells #[.slice xbA m m, .slice xbB m' m'] 53) = X := ⟨_, rfl⟩
  have hwd_36 := Lib.hid hw_36
  rw [hw_36] at hb_36 bx_36; clear hw_36
  have hz_37 : W32.heap.size ≤ W36.heap.size := hb_36.size
  have HB_37 := belowThen HB_33 hb_36
  have bA_37 := Lib.hid (bA_33.out.below hb_36); clear bA_33
  have w0_37 := Lib.hid (w0_33.out.below AtomE.stays hb_36 (by omega)); clear w0_33
  have x1_37 := Lib.hid (x1_33.out.below hb_36 (by omega)); clear x1_33
  have x2_37 := Lib.hid (x2_34.out.below hb_36 (by omega)); clear x2_34
  have x3_37 := Lib.hid (x3_35.out.below hb_36 (by omega)); clear x3_35
  clear HB_33
  have bX_38 := Lib.hid (bx_36)
  have bX0 : W32.heap.size < W36.heap.size := bX_38.out.lt
  clear bx_36 hb_36
  have u_39 : (W32.alloc (.cells #[.slice xbA m m, .slice xbB m' m'] 53)).cell? ⟨w.heap.size, 0, none⟩ = some (.slice B m d) := by rw [hwd_36.out]; exact bA_37.out.cell 0
  have u_40 : (W32.alloc (.cells #[.slice xbA m m, .slice xbB m' m'] 53)).cell? ⟨w.heap.size, 1, none⟩ = some (.slice D m' d') := by rw [hwd_36.out]; exact bA_37.out.cell 1
  have u_41 : (W32.alloc (.cells #[.slice xbA m m, .slice xbB m' m'] 53)).cell? ⟨W32.heap.size, 0, none⟩ = some (.slice xbA m m) := by rw [hwd_36.out]; exact bX_38.out.cell 0
  have u_42 : (W32.alloc (.cells #[.slice xbA m m, .slice xbB m' m'] 53)).cell? ⟨W32.heap.size, 1, none⟩ = some (.slice xbB m' m') := by rw [hwd_36.out]; exact bX_38.out.cell 1
  go_wp2_with fail
  rw [hwd_36.out]
  clear u_39 u_40 u_41 u_42
  have r_43 := (x1_37.out.atoms.keep AtomE.stays (lo' := 0) (hi' := W36.heap.size) (fun _ _ _ => rfl) (Nat.zero_le _) (by omega))
  rw [xaM.out] at r_43
  have r_44 := (x2_37.out.atoms.keep AtomE.stays (lo' := 0) (hi' := W36.heap.size) (fun _ _ _ => rfl) (Nat.zero_le _) (by omega))
  rw [xbM.out] at r_44
  have r_45 := (x3_37.out.atoms.keep AtomE.stays (lo' := 0) (hi' := W36.heap.size) (fun _ _ _ => rfl) (Nat.zero_le _) (by omega))
  rw [xbN.out] at r_45
  refine (CI.out xaA n n xbA m m xbB m' m' _ r_43 r_44 r_45).mono ?_; rintro e W46 ⟨gA, gc, gr, rfl, go, gm, hb_46⟩
  clear r_43 r_44 r_45
  have gM := Lib.hid gm; clear gm
  have hz_47 : W36.heap.size ≤ W46.heap.size := hb_46.size
  have HB_47 := belowThen HB_37 hb_46
  have bA_47 := Lib.hid (bA_37.out.below hb_46); clear bA_37
  have w0_47 := Lib.hid (w0_37.out.below AtomE.stays hb_46 (by omega)); clear w0_37
  have x1_47 := Lib.hid (x1_37.out.below hb_46 (by omega)); clear x1_37
  have x2_47 := Lib.hid (x2_37.out.below hb_46 (by omega)); clear x2_37
  have x3_47 := Lib.hid (x3_37.out.below hb_46 (by omega)); clear x3_37
  have bX_47 := Lib.hid (bX_38.out.below hb_46); clear bX_38
  clear HB_37
  have g0_48 := Lib.hid (go)
  clear go
  go_wp2_with fail
  have r_49 := (g0_48.out.atoms.keep AtomE.stays (lo' := 0) (hi' := W46.heap.size) (fun _ _ _ => rfl) (Nat.zero_le _) (by omega))
  rw [gM.out] at r_49
  have r_50 := (w0_47.out.keep AtomE.stays (lo' := 0) (hi' := W46.heap.size) (fun _ _ _ => rfl) (Nat.zero_le _) (by omega))
  refine (eqAtomS_any _ _ _ _ _ _ P P _ r_49 r_50).mono ?_; rintro e W51 ⟨rfl, hb_51⟩
  clear r_49 r_50
  have hz_52 : W46.heap.size ≤ W51.heap.size := hb_51.size
  have HB_52 := belowThen HB_47 hb_51
  have bA_52 := Lib.hid (bA_47.out.below hb_51); clear bA_47
  have w0_52 := Lib.hid (w0_47.out.below AtomE.stays hb_51 (by omega)); clear w0_47
  have x1_52 := Lib.hid (x1_47.out.below hb_51 (by omega)); clear x1_47
  have x2_52 := Lib.hid (x2_47.out.below hb_51 (by omega)); clear x2_47
  have x3_52 := Lib.hid (x3_47.out.below hb_51 (by omega)); clear x3_47
  have bX_52 := Lib.hid (bX_47.out.below hb_51); clear bX_47
  have g0_52 := Lib.hid (g0_48.out.below hb_51 (by omega)); clear g0_48
  clear HB_47
  rw [listEq_refl atomEq_refl]
  go_wp2_with fail
  refine (toAtomS_own A n c _ _ (H.out.up AtomE.stays HB_52) HN.out).mono ?_; rintro e W53 ⟨yaA, yar, rfl, yao, yam, hb_53⟩
  have yaM := Lib.hid yam; clear yam
  have hz_54 : W51.heap.size ≤ W53.heap.size := hb_53.size
  have HB_54 := belowThen HB_52 hb_53
  have bA_54 := Lib.hid (bA_52.out.below hb_53); clear bA_52
  have w0_54 := Lib.hid (w0_52.out.below AtomE.stays hb_53 (by omega)); clear w0_52
  have x1_54 := Lib.hid (x1_52.out.below hb_53 (by omega)); clear x1_52
  have x2_54 := Lib.hid (x2_52.out.below hb_53 (by omega)); clear x2_52
  have x3_54 := Lib.hid (x3_52.out.below hb_53 (by omega)); clear x3_52
  have bX_54 := Lib.hid (bX_52.out.below hb_53); clear bX_52
  have g0_54 := Lib.hid (g0_52.out.below hb_53 (by omega)); clear g0_52
  clear HB_52
  have y1_55 := Lib.hid (yao)
  clear yao
  go_wp2_with fail
  have r_56 := (x1_54.out.atoms.keep AtomE.stays (lo' := 0) (hi' := W53.heap.size) (fun _ _ _ => rfl) (Nat.zero_le _) (by omega))
  rw [xaM.out] at r_56
  have r_57 := (y1_55.out.atoms.keep AtomE.stays (lo' := 0) (hi' := W53.heap.size) (fun _ _ _ => rfl) (Nat.zero_le _) (by omega))
  rw [yaM.out] at r_57
  refine (eqAtomS_any _ _ _ _ _ _ xs xs _ r_56 r_57).mono ?_; rintro e W58 ⟨rfl, hb_58⟩
  clear r_56 r_57
  have hz_59 : W53.heap.size ≤ W58.heap.size := hb_58.size
  have HB_59 := belowThen HB_54 hb_58
  have bA_59 := Lib.hid (bA_54.out.below hb_58); clear bA_54
  have w0_59 := Lib.hid (w0_54.out.below AtomE.stays hb_58 (by omega)); clear w0_54
  have x1_59 := Lib.hid (x1_54.out.below hb_58 (by omega)); clear x1_54
  have x2_59 := Lib.hid (x2_54.out.below hb_58 (by omega)); clear x2_54
  have x3_59 := Lib.hid (x3_54.out.below hb_58 (by omega)); clear x3_54
  have bX_59 := Lib.hid (bX_54.out.below hb_58); clear bX_54
  have g0_59 := Lib.hid (g0_54.out.below hb_58 (by omega)); clear g0_54
  have y1_59 := Lib.hid (y1_55.out.below hb_58 (by omega)); clear y1_55
  clear HB_54
  rw [listEq_refl atomEq_refl]
  clear y1_59
  have u_60 : W58.cell? ⟨W32.heap.size, 0, none⟩ = some (.slice xbA m m) := bX_59.out.cell 0
  have u_61 : W58.cell? ⟨W32.heap.size, 1, none⟩ = some (.slice xbB m' m') := bX_59.out.cell 1
  have u_62 : W58.cell? ⟨w.heap.size, 0, none⟩ = some (.slice B m d) := bA_59.out.cell 0
  have u_63 : W58.cell? ⟨w.heap.size, 1, none⟩ = some (.slice D m' d') := bA_59.out.cell 1
  go_wp2_with fail
  clear u_60 u_61 u_62 u_63
  obtain ⟨V64, hV64⟩ : ∃ X, W58.drew = X := ⟨_, rfl⟩
  have hz_65 : W58.heap.size ≤ V64.heap.size := by rw [← hV64]; exact Nat.le_refl _
  have HB_65 := (show Below w.heap.size w V64 from by rw [← hV64]; exact HB_59.drew)
  have bA_65 := Lib.hid (show Blk V64 (w.heap.size) 49 #[.slice B m d, .slice D m' d'] from by rw [← hV64]; exact bA_59.out); clear bA_59
  have w0_65 := Lib.hid (IsSeq.keep w0_59.out (w' := V64) AtomE.stays (fun _ _ _ => by rw [← hV64]; rfl) (Nat.le_refl _) (Nat.le_refl _)); clear w0_59
  have x1_65 := Lib.hid (OwnRefs.keep x1_59.out (w' := V64) (fun _ _ _ => by rw [← hV64]; rfl) (Nat.le_refl _) (Nat.le_refl _)); clear x1_59
  have x2_65 := Lib.hid (OwnRefs.keep x2_59.out (w' := V64) (fun _ _ _ => by rw [← hV64]; rfl) (Nat.le_refl _) (Nat.le_refl _)); clear x2_59
  have x3_65 := Lib.hid (OwnRefs.keep x3_59.out (w' := V64) (fun _ _ _ => by rw [← hV64]; rfl) (Nat.le_refl _) (Nat.le_refl _)); clear x3_59
  have bX_65 := Lib.hid (show Blk V64 (W32.heap.size) 53 #[.slice xbA m m, .slice xbB m' m'] from by rw [← hV64]; exact bX_59.out); clear bX_59
  have g0_65 := Lib.hid (OwnRefs.keep g0_59.out (w' := V64) (fun _ _ _ => by rw [← hV64]; rfl) (Nat.le_refl _) (Nat.le_refl _)); clear g0_59
  clear HB_59
  refine wp_region_held_drew (S := fun W => (W.cell? ⟨w.heap.size, 0, none⟩ = some (.slice B m d) ∧ W.cell? ⟨w.heap.size, 1, none⟩ = some (.slice D m' d')) ∧ W.cell? ⟨W32.heap.size, 0, none⟩ = some (.slice xbA m m) ∧ W.cell? ⟨W32.heap.size, 1, none⟩ = some (.slice xbB m' m')) (by kernel_rfl) (by rw [hV64]; exact ⟨⟨bA_65.out.cell 0, bA_65.out.cell 1⟩, bX_65.out.cell 0, bX_65.out.cell 1⟩) ?_
  rw [hV64]
  intro hS_
  refine takeV (i := 0) (v := .agg #[.slice xbA m m, .slice xbB m' m']) (by (simp only [List.getElem?_toArray, List.getElem?_cons_zero]); rfl) (by kernel_rfl) (by kernel_rfl) (by kernel_rfl) (by rfl) (fun _ _ _ h => h) (Or.inl ⟨by rfl, ?_⟩) hS_ (by (simp only [List.setIfInBounds_toArray, List.set_cons_succ, List.set_cons_zero]); rfl) ?_
  · intro w_ hSw_; (try dsimp only at hSw_); go_simp
  refine takeV (i := 1) (v := .agg #[.slice B m d, .slice D m' d']) (by (simp only [List.getElem?_toArray, List.getElem?_cons_succ, List.getElem?_cons_zero]); rfl) (by kernel_rfl) (by kernel_rfl) (by kernel_rfl) (by rfl) (fun _ _ _ h => h) (Or.inl ⟨by rfl, ?_⟩) hS_ (by (simp only [List.setIfInBounds_toArray, List.set_cons_succ, List.set_cons_zero]); rfl) ?_
  · intro w_ hSw_; (try dsimp only at hSw_); go_simp
  refine wpAnyH_ready (rs := [2]) (by kernel_rfl) (by simp) ?_
  refine AllReadyH.cons (o := _) (by (simp only [List.getElem?_toArray, List.getElem?_cons_succ, List.getElem?_cons_zero]); rfl) (fun K_ hK_ => ?_) AllReadyH.nil
  rw [if_pos (by rfl)]
  go_simp
  go_at_call 37
  refine (toChange_own B D m d m' d' cs gs _ (H1.out.up AtomE.stays HB_65) (H2.out.up AtomE.stays HB_65) HN'.out).mono ?_; rintro e W66 ⟨ybA, ybB, ybr, ybz, ybmid, rfl, ⟨ybo, ybm⟩, ⟨ybp, ybn⟩, ⟨ybs, ybt⟩, hb_66⟩
  have ybM := Lib.hid ybm; have ybN := Lib.hid ybn; clear ybm ybn
  have hz_67 : V64.heap.size ≤ W66.heap.size := hb_66.size
  have HB_67 := belowThen HB_65 hb_66
  have bA_67 := Lib.hid (bA_65.out.below hb_66); clear bA_65
  have w0_67 := Lib.hid (w0_65.out.below AtomE.stays hb_66 (by omega)); clear w0_65
  have x1_67 := Lib.hid (x1_65.out.below hb_66 (by omega)); clear x1_65
  have x2_67 := Lib.hid (x2_65.out.below hb_66 (by omega)); clear x2_65
  have x3_67 := Lib.hid (x3_65.out.below hb_66 (by omega)); clear x3_65
  have bX_67 := Lib.hid (bX_65.out.below hb_66); clear bX_65
  have g0_67 := Lib.hid (g0_65.out.below hb_66 (by omega)); clear g0_65
  clear HB_65
  have y2_68 := Lib.hid (ybo)
  have y3_69 := Lib.hid (ybp)
  clear ybo ybp
  refine hK_.out _ _ ⟨⟨bA_67.out.cell 0, bA_67.out.cell 1⟩, bX_67.out.cell 0, bX_67.out.cell 1⟩ (fun hS2_ => ?_)
  clear hK_ hS_; have hS_ := hS2_; clear hS2_
  refine wpAnyH_ready (rs := [3]) (by kernel_rfl) (by simp) ?_
  refine AllReadyH.cons (o := _) (by (simp only [List.getElem?_toArray, List.getElem?_cons_succ, List.getElem?_cons_zero]); rfl) (fun K_ hK_ => ?_) AllReadyH.nil
  rw [if_pos (by rfl)]
  go_simp
  go_at_call 39
  have r_70 := (x2_67.out.atoms.keep AtomE.stays (lo' := 0) (hi' := W66.heap.size) (fun _ _ _ => rfl) (Nat.zero_le _) (by omega))
  rw [xbM.out] at r_70
  have r_71 := (x3_67.out.atoms.keep AtomE.stays (lo' := 0) (hi' := W66.heap.size) (fun _ _ _ => rfl) (Nat.zero_le _) (by omega))
  rw [xbN.out] at r_71
  have r_72 := (y2_68.out.atoms.keep AtomE.stays (lo' := 0) (hi' := W66.heap.size) (fun _ _ _ => rfl) (Nat.zero_le _) (by omega))
  rw [ybM.out] at r_72
  have r_73 := (y3_69.out.atoms.keep AtomE.stays (lo' := 0) (hi' := W66.heap.size) (fun _ _ _ => rfl) (Nat.zero_le _) (by omega))
  rw [ybN.out] at r_73
  refine (eqChange_any _ _ _ _ _ _ _ _ _ _ _ _ cs gs cs gs _ r_70 r_71 r_72 r_73).mono ?_; rintro e W74 ⟨rfl, hb_74⟩
  clear r_70 r_71 r_72 r_73
  have hz_75 : W66.heap.size ≤ W74.heap.size := hb_74.size
  have HB_75 := belowThen HB_67 hb_74
  have bA_75 := Lib.hid (bA_67.out.below hb_74); clear bA_67
  have w0_75 := Lib.hid (w0_67.out.below AtomE.stays hb_74 (by omega)); clear w0_67
  have x1_75 := Lib.hid (x1_67.out.below hb_74 (by omega)); clear x1_67
  have x2_75 := Lib.hid (x2_67.out.below hb_74 (by omega)); clear x2_67
  have x3_75 := Lib.hid (x3_67.out.below hb_74 (by omega)); clear x3_67
  have bX_75 := Lib.hid (bX_67.out.below hb_74); clear bX_67
  have g0_75 := Lib.hid (g0_67.out.below hb_74 (by omega)); clear g0_67
  have y2_75 := Lib.hid (y2_68.out.below hb_74 (by omega)); clear y2_68
  have y3_75 := Lib.hid (y3_69.out.below hb_74 (by omega)); clear y3_69
  clear HB_67
  rw [changeEq_refl]
  clear y2_75
  clear y3_75
  refine hK_.out _ _ ⟨⟨bA_75.out.cell 0, bA_75.out.cell 1⟩, bX_75.out.cell 0, bX_75.out.cell 1⟩ (fun hS2_ => ?_)
  clear hK_ hS_; have hS_ := hS2_; clear hS2_
  refine takeV (i := 4) (v := .bool false) (by (simp only [List.getElem?_toArray, List.getElem?_cons_succ, List.getElem?_cons_zero]); rfl) (by kernel_rfl) (by kernel_rfl) (by kernel_rfl) (by rfl) (fun _ _ _ h => h) (Or.inl ⟨by rfl, ?_⟩) hS_ (by (simp only [List.setIfInBounds_toArray, List.set_cons_succ, List.set_cons_zero]); rfl) ?_
  · intro w_ hSw_; (try dsimp only at hSw_); go_simp
  refine wpAnyH_done (by kernel_rfl) ?_ _
  clear hS_ hV64
  have hk1 : markN 1 xar ≤ 2 ^ 42 := markN_tiny x1_75.out.refs xaM.out HN.out
  have hk1' : markN 1 xar ≤ 2 ^ 50 := by omega
  go_wp2_with fail
  refine (markAtomS_any _ _ xaA n n 1 xar _ x1_75.out (by omega) hk1').mono ?_; rintro e W76 ⟨rfl, -, hb_76⟩
  clear x1_75
  have hz_77 : W74.heap.size ≤ W76.heap.size := hb_76.size
  have HB_77 := HB_75.trans (hb_76.low (B := w.heap.size) (by omega) (by omega))
  have bA_77 := Lib.hid (bA_75.out.within hb_76 (by omega)); clear bA_75
  have w0_77 := Lib.hid (w0_75.out.keep AtomE.stays (fun q h1 h2 => World.cell?_of_block (hb_76.block q.block (by omega) (by omega))) (Nat.le_refl _) (Nat.le_refl _)); clear w0_75
  have x2_77 := Lib.hid (x2_75.out.keep (fun b h1 h2 => hb_76.block b (by omega) (by omega)) (Nat.le_refl _) (Nat.le_refl _)); clear x2_75
  have x3_77 := Lib.hid (x3_75.out.keep (fun b h1 h2 => hb_76.block b (by omega) (by omega)) (Nat.le_refl _) (Nat.le_refl _)); clear x3_75
  have bX_77 := Lib.hid (bX_75.out.within hb_76 (by omega)); clear bX_75
  have g0_77 := Lib.hid (g0_75.out.keep (fun b h1 h2 => hb_76.block b (by omega) (by omega)) (Nat.le_refl _) (Nat.le_refl _)); clear g0_75
  clear HB_75
  obtain ⟨k1, ek1⟩ : ∃ z, markN 1 xar = z := ⟨_, rfl⟩; rw [ek1] at hk1 ⊢; clear hk1' ek1
  have hk2 : markN k1 xbr ≤ k1 + 2 ^ 42 := markN_more x2_77.out.refs xbM.out HN'.out.1
  have hk3 : markN (markN k1 xbr) xbz ≤ markN k1 xbr + 2 ^ 42 := markN_more x3_77.out.refs xbN.out HN'.out.2
  have u_78 : W76.cell? ⟨W32.heap.size, 0, none⟩ = some (.slice xbA m m) := bX_77.out.cell 0
  have u_79 : W76.cell? ⟨W32.heap.size, 1, none⟩ = some (.slice xbB m' m') := bX_77.out.cell 1
  go_wp2_with fail
  refine (markChange_any (W27.heap.size) xbmid (W32.heap.size) xbA xbB m m m' m' k1 xbr xbz _ x2_77.out x3_77.out (by omega) (by omega) (by omega) (by omega) (by omega)).mono ?_; rintro e W80 ⟨rfl, -, -, hb_80⟩
  clear u_78 u_79
  clear x2_77
  clear x3_77
  have hz_81 : W76.heap.size ≤ W80.heap.size := hb_80.size
  have HB_81 := HB_77.trans (hb_80.low (B := w.heap.size) (by omega) (by omega))
  have bA_81 := Lib.hid (bA_77.out.within hb_80 (by omega)); clear bA_77
  have w0_81 := Lib.hid (w0_77.out.keep AtomE.stays (fun q h1 h2 => World.cell?_of_block (hb_80.block q.block (by omega) (by omega))) (Nat.le_refl _) (Nat.le_refl _)); clear w0_77
  have bX_81 := Lib.hid (bX_77.out.within hb_80 (by omega)); clear bX_77
  have g0_81 := Lib.hid (g0_77.out.keep (fun b h1 h2 => hb_80.block b (by omega) (by omega)) (Nat.le_refl _) (Nat.le_refl _)); clear g0_77
  clear HB_77
  obtain ⟨k2, ek2⟩ : ∃ z, markN (markN k1 xbr) xbz = z := ⟨_, rfl⟩; rw [ek2]; clear hk1 hk2 hk3 ek2
  have hk4 : ¬ (((k2 : Nat) : Int) < 0) := by omega
  go_wp2_with fail
  have r_82 := (g0_81.out.atoms.keep AtomE.stays (lo' := 0) (hi' := W80.heap.size) (fun _ _ _ => rfl) (Nat.zero_le _) (by omega))
  rw [gM.out] at r_82
  have r_83 := (w0_81.out.keep AtomE.stays (lo' := 0) (hi' := W80.heap.size) (fun _ _ _ => rfl) (Nat.zero_le _) (by omega))
  refine (eqAtomS_any _ _ _ _ _ _ P P _ r_82 r_83).mono ?_; rintro e W84 ⟨rfl, hb_84⟩
  clear r_82 r_83
  have hz_85 : W80.heap.size ≤ W84.heap.size := hb_84.size
  have HB_85 := belowThen HB_81 hb_84
  have bA_85 := Lib.hid (bA_81.out.below hb_84); clear bA_81
  have w0_85 := Lib.hid (w0_81.out.below AtomE.stays hb_84 (by omega)); clear w0_81
  have bX_85 := Lib.hid (bX_81.out.below hb_84); clear bX_81
  have g0_85 := Lib.hid (g0_81.out.below hb_84 (by omega)); clear g0_81
  clear HB_81
  rw [listEq_refl atomEq_refl]
  clear hk4
  have hg1 : markN 1 gr ≤ 2 ^ 50 := by have := markN_tiny g0_85.out.refs gM.out SMP.out; omega
  go_wp2_with fail
  refine (markAtomS_any _ _ gA P.length gc 1 gr _ g0_85.out (by omega) hg1).mono ?_; rintro e W86 ⟨rfl, go1, hb_86⟩
  clear g0_85
  have hz_87 : W84.heap.size ≤ W86.heap.size := hb_86.size
  have HB_87 := HB_85.trans (hb_86.low (B := w.heap.size) (by omega) (by omega))
  have bA_87 := Lib.hid (bA_85.out.within hb_86 (by omega)); clear bA_85
  have w0_87 := Lib.hid (w0_85.out.keep AtomE.stays (fun q h1 h2 => World.cell?_of_block (hb_86.block q.block (by omega) (by omega))) (Nat.le_refl _) (Nat.le_refl _)); clear w0_85
  have bX_87 := Lib.hid (bX_85.out.within hb_86 (by omega)); clear bX_85
  clear HB_85
  have g1_88 := Lib.hid (go1)
  clear go1
  obtain ⟨mk, hmk⟩ : ∃ z, markN 1 gr = z := ⟨_, rfl⟩; have HMK := Lib.hid hmk; clear hmk; rw [HMK.out]
  have hm0 : ¬ (((mk : Nat) : Int) < 0) := by omega
  have hm1 : (((mk : Nat) : Int) != ((mk : Nat) : Int)) = false := hne _
  go_wp2_with fail
  have r_89 := IsSeq.keep g1_88.out.refs RefE.stays (lo' := 0) (hi' := W86.heap.size) (fun _ _ _ => rfl) (Nat.zero_le _) (by omega)
  refine (heldAtomS_any gA P.length gc 1 gr _ r_89 hg1).mono ?_; rintro e W90 ⟨rfl, hb_90⟩
  clear r_89
  have hz_91 : W86.heap.size ≤ W90.heap.size := hb_90.size
  have HB_91 := belowThen HB_87 hb_90
  have bA_91 := Lib.hid (bA_87.out.below hb_90); clear bA_87
  have w0_91 := Lib.hid (w0_87.out.below AtomE.stays hb_90 (by omega)); clear w0_87
  have bX_91 := Lib.hid (bX_87.out.below hb_90); clear bX_87
  have g1_91 := Lib.hid (g1_88.out.below hb_90 (by omega)); clear g1_88
  clear HB_87
  rw [HMK.out]
  have u_92 : W90.cell? ⟨w.heap.size, 0, none⟩ = some (.slice B m d) := bA_91.out.cell 0
  have u_93 : W90.cell? ⟨w.heap.size, 1, none⟩ = some (.slice D m' d') := bA_91.out.cell 1
  go_wp2_with fail
  clear u_92 u_93
  obtain ⟨V94, hV94⟩ : ∃ X, W90.drew = X := ⟨_, rfl⟩
  have hz_95 : W90.heap.size ≤ V94.heap.size := by rw [← hV94]; exact Nat.le_refl _
  have HB_95 := (show Below w.heap.size w V94 from by rw [← hV94]; exact HB_91.drew)
  have bA_95 := Lib.hid (show Blk V94 (w.heap.size) 49 #[.slice B m d, .slice D m' d'] from by rw [← hV94]; exact bA_91.out); clear bA_91
  have w0_95 := Lib.hid (IsSeq.keep w0_91.out (w' := V94) AtomE.stays (fun _ _ _ => by rw [← hV94]; rfl) (Nat.le_refl _) (Nat.le_refl _)); clear w0_91
  have bX_95 := Lib.hid (show Blk V94 (W32.heap.size) 53 #[.slice xbA m m, .slice xbB m' m'] from by rw [← hV94]; exact bX_91.out); clear bX_91
  have g1_95 := Lib.hid (OwnRefs.keep g1_91.out (w' := V94) (fun _ _ _ => by rw [← hV94]; rfl) (Nat.le_refl _) (Nat.le_refl _)); clear g1_91
  clear HB_91
  refine wp_region_held_drew (S := fun W => W.cell? ⟨w.heap.size, 0, none⟩ = some (.slice B m d) ∧ W.cell? ⟨w.heap.size, 1, none⟩ = some (.slice D m' d')) (by kernel_rfl) (by rw [hV94]; exact ⟨bA_95.out.cell 0, bA_95.out.cell 1⟩) ?_
  rw [hV94]
  intro hS_
  refine takeV (i := 0) (v := .slice A n c) (by (simp only [List.getElem?_toArray, List.getElem?_cons_zero]); rfl) (by kernel_rfl) (by kernel_rfl) (by kernel_rfl) (by rfl) (fun _ _ _ h => h) (Or.inl ⟨by rfl, ?_⟩) hS_ (by (simp only [List.setIfInBounds_toArray, List.set_cons_succ, List.set_cons_zero]); rfl) ?_
  · intro w_ hSw_; (try dsimp only at hSw_); go_simp
  refine takeV (i := 2) (v := .agg #[.slice B m d, .slice D m' d']) (by (simp only [List.getElem?_toArray, List.getElem?_cons_succ, List.getElem?_cons_zero]); rfl) (by kernel_rfl) (by kernel_rfl) (by kernel_rfl) (by rfl) (fun _ _ _ h => h) (Or.inl ⟨by rfl, ?_⟩) hS_ (by (simp only [List.setIfInBounds_toArray, List.set_cons_succ, List.set_cons_zero]); rfl) ?_
  · intro w_ hSw_; (try dsimp only at hSw_); go_simp
  refine wpAnyH_ready (rs := [1]) (by kernel_rfl) (by simp) ?_
  refine AllReadyH.cons (o := _) (by (simp only [List.getElem?_toArray, List.getElem?_cons_succ, List.getElem?_cons_zero]); rfl) (fun K_ hK_ => ?_) AllReadyH.nil
  rw [if_pos (by rfl)]
  go_simp
  go_at_call 27
  refine (toAtomS_own A n c _ _ (H.out.up AtomE.stays HB_95) HN.out).mono ?_; rintro e W96 ⟨taA, tar, rfl, tao, tam, hb_96⟩
  have taM := Lib.hid tam; clear tam
  have hz_97 : V94.heap.size ≤ W96.heap.size := hb_96.size
  have HB_97 := belowThen HB_95 hb_96
  have bA_97 := Lib.hid (bA_95.out.below hb_96); clear bA_95
  have w0_97 := Lib.hid (w0_95.out.below AtomE.stays hb_96 (by omega)); clear w0_95
  have bX_97 := Lib.hid (bX_95.out.below hb_96); clear bX_95
  have g1_97 := Lib.hid (g1_95.out.below hb_96 (by omega)); clear g1_95
  clear HB_95
  have s1_98 := Lib.hid (tao)
  clear tao
  refine hK_.out _ _ ⟨bA_97.out.cell 0, bA_97.out.cell 1⟩ (fun hS2_ => ?_)
  clear hK_ hS_; have hS_ := hS2_; clear hS2_
  refine wpAnyH_ready (rs := [3]) (by kernel_rfl) (by simp) ?_
  refine AllReadyH.cons (o := _) (by (simp only [List.getElem?_toArray, List.getElem?_cons_succ, List.getElem?_cons_zero]); rfl) (fun K_ hK_ => ?_) AllReadyH.nil
  rw [if_pos (by rfl)]
  go_simp
  go_at_call 37
  refine (toChange_own B D m d m' d' cs gs _ (H1.out.up AtomE.stays HB_97) (H2.out.up AtomE.stays HB_97) HN'.out).mono ?_; rintro e W99 ⟨tbA, tbB, tbr, tbz, tbmid, rfl, ⟨tbo, tbm⟩, ⟨tbp, tbn⟩, ⟨tbs, tbt⟩, hb_99⟩
  have tbM := Lib.hid tbm; have tbN := Lib.hid tbn; clear tbm tbn
  have hz_100 : W96.heap.size ≤ W99.heap.size := hb_99.size
  have HB_100 := belowThen HB_97 hb_99
  have bA_100 := Lib.hid (bA_97.out.below hb_99); clear bA_97
  have w0_100 := Lib.hid (w0_97.out.below AtomE.stays hb_99 (by omega)); clear w0_97
  have bX_100 := Lib.hid (bX_97.out.below hb_99); clear bX_97
  have g1_100 := Lib.hid (g1_97.out.below hb_99 (by omega)); clear g1_97
  have s1_100 := Lib.hid (s1_98.out.below hb_99 (by omega)); clear s1_98
  clear HB_97
  have s2_101 := Lib.hid (tbo)
  have s3_102 := Lib.hid (tbp)
  clear tbo tbp
  refine hK_.out _ _ ⟨bA_100.out.cell 0, bA_100.out.cell 1⟩ (fun hS2_ => ?_)
  clear hK_ hS_; have hS_ := hS2_; clear hS2_
  refine wpAnyH_ready (rs := [4]) (by kernel_rfl) (by simp) ?_
  refine AllReadyH.cons (o := _) (by (simp only [List.getElem?_toArray, List.getElem?_cons_succ, List.getElem?_cons_zero]); rfl) (fun K_ hK_ => ?_) AllReadyH.nil
  have r_103 := (s1_100.out.atoms.keep AtomE.stays (lo' := 0) (hi' := W99.heap.size) (fun _ _ _ => rfl) (Nat.zero_le _) (by omega))
  rw [taM.out] at r_103
  have r_104 := (s2_101.out.atoms.keep AtomE.stays (lo' := 0) (hi' := W99.heap.size) (fun _ _ _ => rfl) (Nat.zero_le _) (by omega))
  rw [tbM.out] at r_104
  have r_105 := (s3_102.out.atoms.keep AtomE.stays (lo' := 0) (hi' := W99.heap.size) (fun _ _ _ => rfl) (Nat.zero_le _) (by omega))
  rw [tbN.out] at r_105
  rw [if_pos (by rfl)]
  go_simp
  go_at_call 45
  refine (CI.out taA n n tbA m m tbB m' m' _ r_103 r_104 r_105).mono ?_; rintro e W106 ⟨tA, tc, tr, rfl, to, tm, hb_106⟩
  clear r_103 r_104 r_105
  have tM := Lib.hid tm; clear tm
  clear s1_100
  clear s2_101
  clear s3_102
  have hz_107 : W99.heap.size ≤ W106.heap.size := hb_106.size
  have HB_107 := belowThen HB_100 hb_106
  have bA_107 := Lib.hid (bA_100.out.below hb_106); clear bA_100
  have w0_107 := Lib.hid (w0_100.out.below AtomE.stays hb_106 (by omega)); clear w0_100
  have bX_107 := Lib.hid (bX_100.out.below hb_106); clear bX_100
  have g1_107 := Lib.hid (g1_100.out.below hb_106 (by omega)); clear g1_100
  clear HB_100
  have h0_108 := Lib.hid (to)
  clear to
  refine hK_.out _ _ ⟨bA_107.out.cell 0, bA_107.out.cell 1⟩ (fun hS2_ => ?_)
  clear hK_ hS_; have hS_ := hS2_; clear hS2_
  refine takeV (i := 5) (v := .slice tA P.length tc) (by (simp only [List.getElem?_toArray, List.getElem?_cons_succ, List.getElem?_cons_zero]); rfl) (by kernel_rfl) (by kernel_rfl) (by kernel_rfl) (by rfl) (fun _ _ _ h => h) (Or.inl ⟨by rfl, ?_⟩) hS_ (by (simp only [List.setIfInBounds_toArray, List.set_cons_succ, List.set_cons_zero]); rfl) ?_
  · intro w_ hSw_; (try dsimp only at hSw_); go_simp
  refine wpAnyH_done (by kernel_rfl) ?_ _
  clear hS_ hV94
  go_wp2_with fail
  have r_109 := (h0_108.out.atoms.keep AtomE.stays (lo' := 0) (hi' := W106.heap.size) (fun _ _ _ => rfl) (Nat.zero_le _) (by omega))
  rw [tM.out] at r_109
  have r_110 := (w0_107.out.keep AtomE.stays (lo' := 0) (hi' := W106.heap.size) (fun _ _ _ => rfl) (Nat.zero_le _) (by omega))
  refine (eqAtomS_any _ _ _ _ _ _ P P _ r_109 r_110).mono ?_; rintro e W111 ⟨rfl, hb_111⟩
  clear r_109 r_110
  have hz_112 : W106.heap.size ≤ W111.heap.size := hb_111.size
  have HB_112 := belowThen HB_107 hb_111
  have bA_112 := Lib.hid (bA_107.out.below hb_111); clear bA_107
  have w0_112 := Lib.hid (w0_107.out.below AtomE.stays hb_111 (by omega)); clear w0_107
  have bX_112 := Lib.hid (bX_107.out.below hb_111); clear bX_107
  have g1_112 := Lib.hid (g1_107.out.below hb_111 (by omega)); clear g1_107
  have h0_112 := Lib.hid (h0_108.out.below hb_111 (by omega)); clear h0_108
  clear HB_107
  rw [listEq_refl atomEq_refl]
  go_wp2_with fail
  have r_113 := IsSeq.keep g1_112.out.refs RefE.stays (lo' := 0) (hi' := W111.heap.size) (fun _ _ _ => rfl) (Nat.zero_le _) (by omega)
  refine (heldAtomS_any gA P.length gc 1 gr _ r_113 hg1).mono ?_; rintro e W114 ⟨rfl, hb_114⟩
  clear r_113
  have hz_115 : W111.heap.size ≤ W114.heap.size := hb_114.size
  have HB_115 := belowThen HB_112 hb_114
  have bA_115 := Lib.hid (bA_112.out.below hb_114); clear bA_112
  have w0_115 := Lib.hid (w0_112.out.below AtomE.stays hb_114 (by omega)); clear w0_112
  have bX_115 := Lib.hid (bX_112.out.below hb_114); clear bX_112
  have g1_115 := Lib.hid (g1_112.out.below hb_114 (by omega)); clear g1_112
  have h0_115 := Lib.hid (h0_112.out.below hb_114 (by omega)); clear h0_112
  clear HB_112
  rw [HMK.out]
  go_wp2
  go_ret; exact ⟨rfl, HB_115⟩

end Go.Proofs.Ytenklmednmhbkaa
