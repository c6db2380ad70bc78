/-
  The exact law of ChangeOf: at every two lists of atoms the program answers as its model, in memory of its own, and leaves what came in as it was. (Written by tools/exof.py.)
-/
import Derived.Test.YtenklmednmhbkaaOfImpl
import Derived.Test.YtenklmednmhbkaaMarkC
namespace Go.Proofs.Ytenklmednmhbkaa
open Go.RowKit

set_option maxRecDepth 100000 in
set_option maxHeartbeats 16000000 in
theorem exactChangeOf_any (A : Option Addr) (n c : Nat) (xs : List At) (B : Option Addr) (n' c' : Nat) (ys : List At) (w : World) (h : IsAtoms w 0 w.heap.size A n c xs) (h' : IsAtoms w 0 w.heap.size B n' c' ys) :
    Calls Try.prog 10 #[.slice A n c, .slice B n' c'] w (BoolPost true w) := by
  have H := Lib.hid h; clear h
  have H' := Lib.hid h'; clear h'
  obtain ⟨P, Q, hP⟩ : ∃ P Q, ofL xs ys = (P, Q) := ⟨_, _, rfl⟩
  have SMP := Lib.hid (ofL_small hP)
  have cCS : ∀ (A1 : Option Addr) (n1 c1 : Nat) (B1 : Option Addr) (m1 d1 : Nat) (W : World), IsAtoms W 0 W.heap.size A1 n1 c1 xs → IsAtoms W 0 W.heap.size B1 m1 d1 ys → Calls Try.prog 40 #[.slice A1 n1 c1, .slice B1 m1 d1] W (OwnPPost P Q W) := by
    intro A1 n1 c1 B1 m1 d1 W h1 h2; have := specChangeOf_any A1 n1 c1 xs B1 m1 d1 ys W h1 h2; rw [hP] at this; exact this
  have CS := Lib.hid cCS; clear cCS
  have cCI : ∀ (A1 : Option Addr) (n1 c1 : Nat) (B1 : Option Addr) (m1 d1 : Nat) (W : World), IsAtoms W 0 W.heap.size A1 n1 c1 xs → IsAtoms W 0 W.heap.size B1 m1 d1 ys → Calls Try.prog 41 #[.slice A1 n1 c1, .slice B1 m1 d1] W (OwnPPost P Q W) := by
    intro A1 n1 c1 B1 m1 d1 W h1 h2; have := implChangeOf_any A1 n1 c1 xs B1 m1 d1 ys W h1 h2; rw [hP] at this; exact this
  have CI := Lib.hid cCI; clear cCI
  clear hP
  have hne : ∀ z : Int, (z != z) = false := by simp
  have HB_0 := Below.refl w.heap.size w
  have hz_0 : w.heap.size ≤ w.heap.size := Nat.le_refl _
  go_enter Try.func10, Try.ntmps10
  go_wp2_with fail
  refine (szAtomS_any A n c xs _ _ (H.out.up AtomE.stays HB_0) (by omega) (by omega)).mono ?_; rintro e W1 ⟨y, ⟨rfl, ha, hbb, hc⟩, hb_1⟩
  have hz_2 : w.heap.size ≤ W1.heap.size := hb_1.size
  have HB_2 := belowThen HB_0 hb_1
  clear HB_0
  go_wp2_with fail
  all_goals try (go_ret; exact ⟨rfl, HB_2⟩)
  have hy0 : 0 ≤ y := by assumption
  have HN := Lib.hid (hc hy0); clear ha hc
  refine (szAtomS_any B n' c' ys _ _ (H'.out.up AtomE.stays HB_2) hy0 (by omega)).mono ?_; rintro e W3 ⟨y', ⟨rfl, ha', hb', hc'⟩, hb_3⟩
  have hz_4 : W1.heap.size ≤ W3.heap.size := hb_3.size
  have HB_4 := belowThen HB_2 hb_3
  clear HB_2
  go_wp2_with fail
  all_goals try (go_ret; exact ⟨rfl, HB_4⟩)
  have HN' := Lib.hid (hc' (by assumption))
  clear ha' hc' hb' hbb hy0
  refine (toAtomS_own A n c _ _ (H.out.up AtomE.stays HB_4) HN.out).mono ?_; rintro e W5 ⟨saA, sar, rfl, sao, sam, hb_5⟩
  have saM := Lib.hid sam; clear sam
  have hz_6 : W3.heap.size ≤ W5.heap.size := hb_5.size
  have HB_6 := belowThen HB_4 hb_5
  clear HB_4
  have s1_7 := Lib.hid (sao)
  clear sao
  go_wp2_with fail
  refine (toAtomS_own B n' c' _ _ (H'.out.up AtomE.stays HB_6) HN'.out).mono ?_; rintro e W8 ⟨sbA, sbr, rfl, sbo, sbm, hb_8⟩
  have sbM := Lib.hid sbm; clear sbm
  have hz_9 : W5.heap.size ≤ W8.heap.size := hb_8.size
  have HB_9 := belowThen HB_6 hb_8
  have s1_9 := Lib.hid (s1_7.out.below hb_8 (by omega)); clear s1_7
  clear HB_6
  have s2_10 := Lib.hid (sbo)
  clear sbo
  go_wp2_with fail
  have r_11 := (s1_9.out.atoms.keep AtomE.stays (lo' := 0) (hi' := W8.heap.size) (fun _ _ _ => rfl) (Nat.zero_le _) (by omega))
  rw [saM.out] at r_11
  have r_12 := (s2_10.out.atoms.keep AtomE.stays (lo' := 0) (hi' := W8.heap.size) (fun _ _ _ => rfl) (Nat.zero_le _) (by omega))
  rw [sbM.out] at r_12
  refine (CS.out saA n n sbA n' n' _ r_11 r_12).mono ?_; rintro e W13 ⟨qA, qc, qr, qB, qd, qz, qmid, rfl, ⟨qo, qm⟩, ⟨qp, qn⟩, ⟨qs, qt⟩, hb_13⟩
  clear r_11 r_12
  have qM := Lib.hid qm; have qN := Lib.hid qn; clear qm qn
  have hz_14 : W8.heap.size ≤ W13.heap.size := hb_13.size
  have HB_14 := belowThen HB_9 hb_13
  have s1_14 := Lib.hid (s1_9.out.below hb_13 (by omega)); clear s1_9
  have s2_14 := Lib.hid (s2_10.out.below hb_13 (by omega)); clear s2_10
  clear HB_9
  have qq := qo.atoms; rw [qM.out] at qq; have qv := qp.atoms; rw [qN.out] at qv; clear qo qp
  have p1_15 := Lib.hid (qq)
  have p2_16 := Lib.hid (qv)
  clear qq qv
  clear s1_14
  clear s2_14
  have hb_17 := below1 W13 (.cells #[.slice qA P.length qc, .slice qB Q.length qd] 53)
  have bx_17 := Blk.new W13 53 #[.slice qA P.length qc, .slice qB Q.length qd]
  obtain ⟨W17, hw_17⟩ : ∃ X, W13.alloc (.cells #[.slice qA P.length qc, .slice qB Q.length qd] 53) = X := ⟨_, rfl⟩
  have hwd_17 := Lib.hid hw_17
  rw [hw_17] at hb_17 bx_17; clear hw_17
  have hz_18 : W13.heap.size ≤ W17.heap.size := hb_17.size
  have HB_18 := belowThen HB_14 hb_17
  have p1_18 := Lib.hid (p1_15.out.below AtomE.stays hb_17 (by omega)); clear p1_15
  have p2_18 := Lib.hid (p2_16.out.below AtomE.stays hb_17 (by omega)); clear p2_16
  clear HB_14
  have bW_19 := Lib.hid (bx_17)
  have bW0 : W13.heap.size < W17.heap.size := bW_19.out.lt
  clear bx_17 hb_17
  go_wp2_with fail
  rw [hwd_17.out]
  refine (toAtomS_own A n c _ _ (H.out.up AtomE.stays HB_18) HN.out).mono ?_; rintro e W20 ⟨xaA, xar, rfl, xao, xam, hb_20⟩
  have xaM := Lib.hid xam; clear xam
  have hz_21 : W17.heap.size ≤ W20.heap.size := hb_20.size
  have HB_21 := belowThen HB_18 hb_20
  have p1_21 := Lib.hid (p1_18.out.below AtomE.stays hb_20 (by omega)); clear p1_18
  have p2_21 := Lib.hid (p2_18.out.below AtomE.stays hb_20 (by omega)); clear p2_18
  have bW_21 := Lib.hid (bW_19.out.below hb_20); clear bW_19
  clear HB_18
  have x1_22 := Lib.hid (xao)
  clear xao
  go_wp2_with fail
  refine (toAtomS_own B n' c' _ _ (H'.out.up AtomE.stays HB_21) HN'.out).mono ?_; rintro e W23 ⟨xbA, xbr, rfl, xbo, xbm, hb_23⟩
  have xbM := Lib.hid xbm; clear xbm
  have hz_24 : W20.heap.size ≤ W23.heap.size := hb_23.size
  have HB_24 := belowThen HB_21 hb_23
  have p1_24 := Lib.hid (p1_21.out.below AtomE.stays hb_23 (by omega)); clear p1_21
  have p2_24 := Lib.hid (p2_21.out.below AtomE.stays hb_23 (by omega)); clear p2_21
  have bW_24 := Lib.hid (bW_21.out.below hb_23); clear bW_21
  have x1_24 := Lib.hid (x1_22.out.below hb_23 (by omega)); clear x1_22
  clear HB_21
  have x2_25 := Lib.hid (xbo)
  clear xbo
  go_wp2_with fail
  have r_26 := (x1_24.out.atoms.keep AtomE.stays (lo' := 0) (hi' := W23.heap.size) (fun _ _ _ => rfl) (Nat.zero_le _) (by omega))
  rw [xaM.out] at r_26
  have r_27 := (x2_25.out.atoms.keep AtomE.stays (lo' := 0) (hi' := W23.heap.size) (fun _ _ _ => rfl) (Nat.zero_le _) (by omega))
  rw [xbM.out] at r_27
  refine (CI.out xaA n n xbA n' n' _ r_26 r_27).mono ?_; rintro e W28 ⟨gA, gc, gr, gB, gd, gz, gmid, rfl, ⟨go, gm⟩, ⟨gp, gn⟩, ⟨gs, gt⟩, hb_28⟩
  clear r_26 r_27
  have gM := Lib.hid gm; have gN := Lib.hid gn; clear gm gn
  have hz_29 : W23.heap.size ≤ W28.heap.size := hb_28.size
  have HB_29 := belowThen HB_24 hb_28
  have p1_29 := Lib.hid (p1_24.out.below AtomE.stays hb_28 (by omega)); clear p1_24
  have p2_29 := Lib.hid (p2_24.out.below AtomE.stays hb_28 (by omega)); clear p2_24
  have bW_29 := Lib.hid (bW_24.out.below hb_28); clear bW_24
  have x1_29 := Lib.hid (x1_24.out.below hb_28 (by omega)); clear x1_24
  have x2_29 := Lib.hid (x2_25.out.below hb_28 (by omega)); clear x2_25
  clear HB_24
  have g1_30 := Lib.hid (go)
  have g2_31 := Lib.hid (gp)
  clear go gp
  have hb_32 := below1 W28 (.cells #[.slice gA P.length gc, .slice gB Q.length gd] 53)
  have bx_32 := Blk.new W28 53 #[.slice gA P.length gc, .slice gB Q.length gd]
  obtain ⟨W32, hw_32⟩ : ∃ X, W28.alloc (.cells #[.slice gA P.length gc, .slice gB Q.length gd] 53) = X := ⟨_, rfl⟩
  have hwd_32 := Lib.hid hw_32
  rw [hw_32] at hb_32 bx_32; clear hw_32
  have hz_33 : W28.heap.size ≤ W32.heap.size := hb_32.size
  have HB_33 := belowThen HB_29 hb_32
  have p1_33 := Lib.hid (p1_29.out.below AtomE.stays hb_32 (by omega)); clear p1_29
  have p2_33 := Lib.hid (p2_29.out.below AtomE.stays hb_32 (by omega)); clear p2_29
  have bW_33 := Lib.hid (bW_29.out.below hb_32); clear bW_29
  have x1_33 := Lib.hid (x1_29.out.below hb_32 (by omega)); clear x1_29
  have x2_33 := Lib.hid (x2_29.out.below hb_32 (by omega)); clear x2_29
  have g1_33 := Lib.hid (g1_30.out.below hb_32 (by omega)); clear g1_30
  have g2_33 := Lib.hid (g2_31.out.below hb_32 (by omega)); clear g2_31
  clear HB_29
  have bG_34 := Lib.hid (bx_32)
  have bG0 : W28.heap.size < W32.heap.size := bG_34.out.lt
  clear bx_32 hb_32
  have u_35 : (W28.alloc (.cells #[.slice gA P.length gc, .slice gB Q.length gd] 53)).cell? ⟨W13.heap.size, 0, none⟩ = some (.slice qA P.length qc) := by rw [hwd_32.out]; exact bW_33.out.cell 0
  have u_36 : (W28.alloc (.cells #[.slice gA P.length gc, .slice gB Q.length gd] 53)).cell? ⟨W13.heap.size, 1, none⟩ = some (.slice qB Q.length qd) := by rw [hwd_32.out]; exact bW_33.out.cell 1
  have u_37 : (W28.alloc (.cells #[.slice gA P.length gc, .slice gB Q.length gd] 53)).cell? ⟨W28.heap.size, 0, none⟩ = some (.slice gA P.length gc) := by rw [hwd_32.out]; exact bG_34.out.cell 0
  have u_38 : (W28.alloc (.cells #[.slice gA P.length gc, .slice gB Q.length gd] 53)).cell? ⟨W28.heap.size, 1, none⟩ = some (.slice gB Q.length gd) := by rw [hwd_32.out]; exact bG_34.out.cell 1
  go_wp2_with fail
  rw [hwd_32.out]
  clear u_35 u_36 u_37 u_38
  have r_39 := (g1_33.out.atoms.keep AtomE.stays (lo' := 0) (hi' := W32.heap.size) (fun _ _ _ => rfl) (Nat.zero_le _) (by omega))
  rw [gM.out] at r_39
  have r_40 := (g2_33.out.atoms.keep AtomE.stays (lo' := 0) (hi' := W32.heap.size) (fun _ _ _ => rfl) (Nat.zero_le _) (by omega))
  rw [gN.out] at r_40
  have r_41 := (p1_33.out.keep AtomE.stays (lo' := 0) (hi' := W32.heap.size) (fun _ _ _ => rfl) (Nat.zero_le _) (by omega))
  have r_42 := (p2_33.out.keep AtomE.stays (lo' := 0) (hi' := W32.heap.size) (fun _ _ _ => rfl) (Nat.zero_le _) (by omega))
  refine (eqChange_any _ _ _ _ _ _ _ _ _ _ _ _ P Q P Q _ r_39 r_40 r_41 r_42).mono ?_; rintro e W43 ⟨rfl, hb_43⟩
  clear r_39 r_40 r_41 r_42
  have hz_44 : W32.heap.size ≤ W43.heap.size := hb_43.size
  have HB_44 := belowThen HB_33 hb_43
  have p1_44 := Lib.hid (p1_33.out.below AtomE.stays hb_43 (by omega)); clear p1_33
  have p2_44 := Lib.hid (p2_33.out.below AtomE.stays hb_43 (by omega)); clear p2_33
  have bW_44 := Lib.hid (bW_33.out.below hb_43); clear bW_33
  have x1_44 := Lib.hid (x1_33.out.below hb_43 (by omega)); clear x1_33
  have x2_44 := Lib.hid (x2_33.out.below hb_43 (by omega)); clear x2_33
  have g1_44 := Lib.hid (g1_33.out.below hb_43 (by omega)); clear g1_33
  have g2_44 := Lib.hid (g2_33.out.below hb_43 (by omega)); clear g2_33
  have bG_44 := Lib.hid (bG_34.out.below hb_43); clear bG_34
  clear HB_33
  rw [changeEq_refl]
  go_wp2_with fail
  refine (toAtomS_own A n c _ _ (H.out.up AtomE.stays HB_44) HN.out).mono ?_; rintro e W45 ⟨yaA, yar, rfl, yao, yam, hb_45⟩
  have yaM := Lib.hid yam; clear yam
  have hz_46 : W43.heap.size ≤ W45.heap.size := hb_45.size
  have HB_46 := belowThen HB_44 hb_45
  have p1_46 := Lib.hid (p1_44.out.below AtomE.stays hb_45 (by omega)); clear p1_44
  have p2_46 := Lib.hid (p2_44.out.below AtomE.stays hb_45 (by omega)); clear p2_44
  have bW_46 := Lib.hid (bW_44.out.below hb_45); clear bW_44
  have x1_46 := Lib.hid (x1_44.out.below hb_45 (by omega)); clear x1_44
  have x2_46 := Lib.hid (x2_44.out.below hb_45 (by omega)); clear x2_44
  have g1_46 := Lib.hid (g1_44.out.below hb_45 (by omega)); clear g1_44
  have g2_46 := Lib.hid (g2_44.out.below hb_45 (by omega)); clear g2_44
  have bG_46 := Lib.hid (bG_44.out.below hb_45); clear bG_44
  clear HB_44
  have y1_47 := Lib.hid (yao)
  clear yao
  go_wp2_with fail
  have r_48 := (x1_46.out.atoms.keep AtomE.stays (lo' := 0) (hi' := W45.heap.size) (fun _ _ _ => rfl) (Nat.zero_le _) (by omega))
  rw [xaM.out] at r_48
  have r_49 := (y1_47.out.atoms.keep AtomE.stays (lo' := 0) (hi' := W45.heap.size) (fun _ _ _ => rfl) (Nat.zero_le _) (by omega))
  rw [yaM.out] at r_49
  refine (eqAtomS_any _ _ _ _ _ _ xs xs _ r_48 r_49).mono ?_; rintro e W50 ⟨rfl, hb_50⟩
  clear r_48 r_49
  have hz_51 : W45.heap.size ≤ W50.heap.size := hb_50.size
  have HB_51 := belowThen HB_46 hb_50
  have p1_51 := Lib.hid (p1_46.out.below AtomE.stays hb_50 (by omega)); clear p1_46
  have p2_51 := Lib.hid (p2_46.out.below AtomE.stays hb_50 (by omega)); clear p2_46
  have bW_51 := Lib.hid (bW_46.out.below hb_50); clear bW_46
  have x1_51 := Lib.hid (x1_46.out.below hb_50 (by omega)); clear x1_46
  have x2_51 := Lib.hid (x2_46.out.below hb_50 (by omega)); clear x2_46
  have g1_51 := Lib.hid (g1_46.out.below hb_50 (by omega)); clear g1_46
  have g2_51 := Lib.hid (g2_46.out.below hb_50 (by omega)); clear g2_46
  have bG_51 := Lib.hid (bG_46.out.below hb_50); clear bG_46
  have y1_51 := Lib.hid (y1_47.out.below hb_50 (by omega)); clear y1_47
  clear HB_46
  rw [listEq_refl atomEq_refl]
  clear y1_51
  go_wp2_with fail
  refine (toAtomS_own B n' c' _ _ (H'.out.up AtomE.stays HB_51) HN'.out).mono ?_; rintro e W52 ⟨ybA, ybr, rfl, ybo, ybm, hb_52⟩
  have ybM := Lib.hid ybm; clear ybm
  have hz_53 : W50.heap.size ≤ W52.heap.size := hb_52.size
  have HB_53 := belowThen HB_51 hb_52
  have p1_53 := Lib.hid (p1_51.out.below AtomE.stays hb_52 (by omega)); clear p1_51
  have p2_53 := Lib.hid (p2_51.out.below AtomE.stays hb_52 (by omega)); clear p2_51
  have bW_53 := Lib.hid (bW_51.out.below hb_52); clear bW_51
  have x1_53 := Lib.hid (x1_51.out.below hb_52 (by omega)); clear x1_51
  have x2_53 := Lib.hid (x2_51.out.below hb_52 (by omega)); clear x2_51
  have g1_53 := Lib.hid (g1_51.out.below hb_52 (by omega)); clear g1_51
  have g2_53 := Lib.hid (g2_51.out.below hb_52 (by omega)); clear g2_51
  have bG_53 := Lib.hid (bG_51.out.below hb_52); clear bG_51
  clear HB_51
  have y2_54 := Lib.hid (ybo)
  clear ybo
  go_wp2_with fail
  have r_55 := (x2_53.out.atoms.keep AtomE.stays (lo' := 0) (hi' := W52.heap.size) (fun _ _ _ => rfl) (Nat.zero_le _) (by omega))
  rw [xbM.out] at r_55
  have r_56 := (y2_54.out.atoms.keep AtomE.stays (lo' := 0) (hi' := W52.heap.size) (fun _ _ _ => rfl) (Nat.zero_le _) (by omega))
  rw [ybM.out] at r_56
  refine (eqAtomS_any _ _ _ _ _ _ ys ys _ r_55 r_56).mono ?_; rintro e W57 ⟨rfl, hb_57⟩
  clear r_55 r_56
  have hz_58 : W52.heap.size ≤ W57.heap.size := hb_57.size
  have HB_58 := belowThen HB_53 hb_57
  have p1_58 := Lib.hid (p1_53.out.below AtomE.stays hb_57 (by omega)); clear p1_53
  have p2_58 := Lib.hid (p2_53.out.below AtomE.stays hb_57 (by omega)); clear p2_53
  have bW_58 := Lib.hid (bW_53.out.below hb_57); clear bW_53
  have x1_58 := Lib.hid (x1_53.out.below hb_57 (by omega)); clear x1_53
  have x2_58 := Lib.hid (x2_53.out.below hb_57 (by omega)); clear x2_53
  have g1_58 := Lib.hid (g1_53.out.below hb_57 (by omega)); clear g1_53
  have g2_58 := Lib.hid (g2_53.out.below hb_57 (by omega)); clear g2_53
  have bG_58 := Lib.hid (bG_53.out.below hb_57); clear bG_53
  have y2_58 := Lib.hid (y2_54.out.below hb_57 (by omega)); clear y2_54
  clear HB_53
  rw [listEq_refl atomEq_refl]
  clear y2_58
  have hk1 : markN 1 xar ≤ 2 ^ 50 := by have := markN_tiny x1_58.out.refs xaM.out HN.out; omega
  have hk2 : markN (markN 1 xar) xbr ≤ 2 ^ 50 := by have := markN_tiny x1_58.out.refs xaM.out HN.out; have := markN_more (k := markN 1 xar) x2_58.out.refs xbM.out HN'.out; omega
  go_wp2_with fail
  refine (markAtomS_any _ _ xaA n n 1 xar _ x1_58.out (by omega) hk1).mono ?_; rintro e W59 ⟨rfl, -, hb_59⟩
  clear x1_58
  have hz_60 : W57.heap.size ≤ W59.heap.size := hb_59.size
  have HB_60 := HB_58.trans (hb_59.low (B := w.heap.size) (by omega) (by omega))
  have p1_60 := Lib.hid (p1_58.out.keep AtomE.stays (fun q h1 h2 => World.cell?_of_block (hb_59.block q.block (by omega) (by omega))) (Nat.le_refl _) (Nat.le_refl _)); clear p1_58
  have p2_60 := Lib.hid (p2_58.out.keep AtomE.stays (fun q h1 h2 => World.cell?_of_block (hb_59.block q.block (by omega) (by omega))) (Nat.le_refl _) (Nat.le_refl _)); clear p2_58
  have bW_60 := Lib.hid (bW_58.out.within hb_59 (by omega)); clear bW_58
  have x2_60 := Lib.hid (x2_58.out.keep (fun b h1 h2 => hb_59.block b (by omega) (by omega)) (Nat.le_refl _) (Nat.le_refl _)); clear x2_58
  have g1_60 := Lib.hid (g1_58.out.keep (fun b h1 h2 => hb_59.block b (by omega) (by omega)) (Nat.le_refl _) (Nat.le_refl _)); clear g1_58
  have g2_60 := Lib.hid (g2_58.out.keep (fun b h1 h2 => hb_59.block b (by omega) (by omega)) (Nat.le_refl _) (Nat.le_refl _)); clear g2_58
  have bG_60 := Lib.hid (bG_58.out.within hb_59 (by omega)); clear bG_58
  clear HB_58
  obtain ⟨k1, ek1⟩ : ∃ z, markN 1 xar = z := ⟨_, rfl⟩; rw [ek1] at hk2 ⊢
  go_wp2_with fail
  refine (markAtomS_any _ _ xbA n' n' k1 xbr _ x2_60.out (by omega) hk2).mono ?_; rintro e W61 ⟨rfl, -, hb_61⟩
  clear x2_60
  have hz_62 : W59.heap.size ≤ W61.heap.size := hb_61.size
  have HB_62 := HB_60.trans (hb_61.low (B := w.heap.size) (by omega) (by omega))
  have p1_62 := Lib.hid (p1_60.out.keep AtomE.stays (fun q h1 h2 => World.cell?_of_block (hb_61.block q.block (by omega) (by omega))) (Nat.le_refl _) (Nat.le_refl _)); clear p1_60
  have p2_62 := Lib.hid (p2_60.out.keep AtomE.stays (fun q h1 h2 => World.cell?_of_block (hb_61.block q.block (by omega) (by omega))) (Nat.le_refl _) (Nat.le_refl _)); clear p2_60
  have bW_62 := Lib.hid (bW_60.out.within hb_61 (by omega)); clear bW_60
  have g1_62 := Lib.hid (g1_60.out.keep (fun b h1 h2 => hb_61.block b (by omega) (by omega)) (Nat.le_refl _) (Nat.le_refl _)); clear g1_60
  have g2_62 := Lib.hid (g2_60.out.keep (fun b h1 h2 => hb_61.block b (by omega) (by omega)) (Nat.le_refl _) (Nat.le_refl _)); clear g2_60
  have bG_62 := Lib.hid (bG_60.out.within hb_61 (by omega)); clear bG_60
  clear HB_60
  obtain ⟨k2, ek2⟩ : ∃ z, markN k1 xbr = z := ⟨_, rfl⟩; rw [ek2]
  have hk3 : ¬ (((k2 : Nat) : Int) < 0) := by omega
  have u_63 : W61.cell? ⟨W28.heap.size, 0, none⟩ = some (.slice gA P.length gc) := bG_62.out.cell 0
  have u_64 : W61.cell? ⟨W28.heap.size, 1, none⟩ = some (.slice gB Q.length gd) := bG_62.out.cell 1
  have u_65 : W61.cell? ⟨W13.heap.size, 0, none⟩ = some (.slice qA P.length qc) := bW_62.out.cell 0
  have u_66 : W61.cell? ⟨W13.heap.size, 1, none⟩ = some (.slice qB Q.length qd) := bW_62.out.cell 1
  go_wp2_with fail
  have r_67 := (g1_62.out.atoms.keep AtomE.stays (lo' := 0) (hi' := W61.heap.size) (fun _ _ _ => rfl) (Nat.zero_le _) (by omega))
  rw [gM.out] at r_67
  have r_68 := (g2_62.out.atoms.keep AtomE.stays (lo' := 0) (hi' := W61.heap.size) (fun _ _ _ => rfl) (Nat.zero_le _) (by omega))
  rw [gN.out] at r_68
  have r_69 := (p1_62.out.keep AtomE.stays (lo' := 0) (hi' := W61.heap.size) (fun _ _ _ => rfl) (Nat.zero_le _) (by omega))
  have r_70 := (p2_62.out.keep AtomE.stays (lo' := 0) (hi' := W61.heap.size) (fun _ _ _ => rfl) (Nat.zero_le _) (by omega))
  refine (eqChange_any _ _ _ _ _ _ _ _ _ _ _ _ P Q P Q _ r_67 r_68 r_69 r_70).mono ?_; rintro e W71 ⟨rfl, hb_71⟩
  clear u_63 u_64 u_65 u_66 r_67 r_68 r_69 r_70
  have hz_72 : W61.heap.size ≤ W71.heap.size := hb_71.size
  have HB_72 := belowThen HB_62 hb_71
  have p1_72 := Lib.hid (p1_62.out.below AtomE.stays hb_71 (by omega)); clear p1_62
  have p2_72 := Lib.hid (p2_62.out.below AtomE.stays hb_71 (by omega)); clear p2_62
  have bW_72 := Lib.hid (bW_62.out.below hb_71); clear bW_62
  have g1_72 := Lib.hid (g1_62.out.below hb_71 (by omega)); clear g1_62
  have g2_72 := Lib.hid (g2_62.out.below hb_71 (by omega)); clear g2_62
  have bG_72 := Lib.hid (bG_62.out.below hb_71); clear bG_62
  clear HB_62
  rw [changeEq_refl]
  clear hk3
  have hg1 : markN 1 gr ≤ 2 ^ 50 := by have := markN_tiny g1_72.out.refs gM.out SMP.out.1; omega
  have hg2 : markN (markN 1 gr) gz ≤ 2 ^ 50 := by have := markN_tiny g1_72.out.refs gM.out SMP.out.1; have := markN_more (k := markN 1 gr) g2_72.out.refs gN.out SMP.out.2; omega
  have u_73 : W71.cell? ⟨W28.heap.size, 0, none⟩ = some (.slice gA P.length gc) := bG_72.out.cell 0
  have u_74 : W71.cell? ⟨W28.heap.size, 1, none⟩ = some (.slice gB Q.length gd) := bG_72.out.cell 1
  go_wp2_with fail
  refine (markChange_any (W23.heap.size) gmid (W28.heap.size) gA gB P.length gc Q.length gd 1 gr gz _ g1_72.out g2_72.out (by omega) (by omega) (by omega) hg1 hg2).mono ?_; rintro e W75 ⟨rfl, go1, gp1, hb_75⟩
  clear u_73 u_74
  clear g1_72
  clear g2_72
  have hz_76 : W71.heap.size ≤ W75.heap.size := hb_75.size
  have HB_76 := HB_72.trans (hb_75.low (B := w.heap.size) (by omega) (by omega))
  have p1_76 := Lib.hid (p1_72.out.keep AtomE.stays (fun q h1 h2 => World.cell?_of_block (hb_75.block q.block (by omega) (by omega))) (Nat.le_refl _) (Nat.le_refl _)); clear p1_72
  have p2_76 := Lib.hid (p2_72.out.keep AtomE.stays (fun q h1 h2 => World.cell?_of_block (hb_75.block q.block (by omega) (by omega))) (Nat.le_refl _) (Nat.le_refl _)); clear p2_72
  have bW_76 := Lib.hid (bW_72.out.within hb_75 (by omega)); clear bW_72
  have bG_76 := Lib.hid (bG_72.out.within hb_75 (by omega)); clear bG_72
  clear HB_72
  have g1_77 := Lib.hid (go1)
  have g2_78 := Lib.hid (gp1)
  clear go1 gp1
  obtain ⟨mk, hmk⟩ : ∃ z, markN (markN 1 gr) gz = z := ⟨_, rfl⟩; have HMK := Lib.hid hmk; clear hmk; rw [HMK.out]
  have hm0 : ¬ (((mk : Nat) : Int) < 0) := by omega
  have hm1 : (((mk : Nat) : Int) != ((mk : Nat) : Int)) = false := hne _
  have u_79 : W75.cell? ⟨W28.heap.size, 0, none⟩ = some (.slice gA P.length gc) := bG_76.out.cell 0
  have u_80 : W75.cell? ⟨W28.heap.size, 1, none⟩ = some (.slice gB Q.length gd) := bG_76.out.cell 1
  go_wp2_with fail
  have r_81 := IsSeq.keep g1_77.out.refs RefE.stays (lo' := 0) (hi' := W75.heap.size) (fun _ _ _ => rfl) (Nat.zero_le _) (by omega)
  have r_82 := IsSeq.keep g2_78.out.refs RefE.stays (lo' := 0) (hi' := W75.heap.size) (fun _ _ _ => rfl) (Nat.zero_le _) (by omega)
  refine (heldChange_any gA gB P.length gc Q.length gd 1 gr gz _ r_81 r_82 hg1 hg2).mono ?_; rintro e W83 ⟨rfl, hb_83⟩
  clear u_79 u_80 r_81 r_82
  have hz_84 : W75.heap.size ≤ W83.heap.size := hb_83.size
  have HB_84 := belowThen HB_76 hb_83
  have p1_84 := Lib.hid (p1_76.out.below AtomE.stays hb_83 (by omega)); clear p1_76
  have p2_84 := Lib.hid (p2_76.out.below AtomE.stays hb_83 (by omega)); clear p2_76
  have bW_84 := Lib.hid (bW_76.out.below hb_83); clear bW_76
  have bG_84 := Lib.hid (bG_76.out.below hb_83); clear bG_76
  have g1_84 := Lib.hid (g1_77.out.below hb_83 (by omega)); clear g1_77
  have g2_84 := Lib.hid (g2_78.out.below hb_83 (by omega)); clear g2_78
  clear HB_76
  rw [HMK.out]
  go_wp2_with fail
  refine (toAtomS_own A n c _ _ (H.out.up AtomE.stays HB_84) HN.out).mono ?_; rintro e W85 ⟨taA, tar, rfl, tao, tam, hb_85⟩
  have taM := Lib.hid tam; clear tam
  have hz_86 : W83.heap.size ≤ W85.heap.size := hb_85.size
  have HB_86 := belowThen HB_84 hb_85
  have p1_86 := Lib.hid (p1_84.out.below AtomE.stays hb_85 (by omega)); clear p1_84
  have p2_86 := Lib.hid (p2_84.out.below AtomE.stays hb_85 (by omega)); clear p2_84
  have bW_86 := Lib.hid (bW_84.out.below hb_85); clear bW_84
  have bG_86 := Lib.hid (bG_84.out.below hb_85); clear bG_84
  have g1_86 := Lib.hid (g1_84.out.below hb_85 (by omega)); clear g1_84
  have g2_86 := Lib.hid (g2_84.out.below hb_85 (by omega)); clear g2_84
  clear HB_84
  have s1_87 := Lib.hid (tao)
  clear tao
  go_wp2_with fail
  refine (toAtomS_own B n' c' _ _ (H'.out.up AtomE.stays HB_86) HN'.out).mono ?_; rintro e W88 ⟨tbA, tbr, rfl, tbo, tbm, hb_88⟩
  have tbM := Lib.hid tbm; clear tbm
  have hz_89 : W85.heap.size ≤ W88.heap.size := hb_88.size
  have HB_89 := belowThen HB_86 hb_88
  have p1_89 := Lib.hid (p1_86.out.below AtomE.stays hb_88 (by omega)); clear p1_86
  have p2_89 := Lib.hid (p2_86.out.below AtomE.stays hb_88 (by omega)); clear p2_86
  have bW_89 := Lib.hid (bW_86.out.below hb_88); clear bW_86
  have bG_89 := Lib.hid (bG_86.out.below hb_88); clear bG_86
  have g1_89 := Lib.hid (g1_86.out.below hb_88 (by omega)); clear g1_86
  have g2_89 := Lib.hid (g2_86.out.below hb_88 (by omega)); clear g2_86
  have s1_89 := Lib.hid (s1_87.out.below hb_88 (by omega)); clear s1_87
  clear HB_86
  have s2_90 := Lib.hid (tbo)
  clear tbo
  go_wp2_with fail
  have r_91 := (s1_89.out.atoms.keep AtomE.stays (lo' := 0) (hi' := W88.heap.size) (fun _ _ _ => rfl) (Nat.zero_le _) (by omega))
  rw [taM.out] at r_91
  have r_92 := (s2_90.out.atoms.keep AtomE.stays (lo' := 0) (hi' := W88.heap.size) (fun _ _ _ => rfl) (Nat.zero_le _) (by omega))
  rw [tbM.out] at r_92
  refine (CI.out taA n n tbA n' n' _ r_91 r_92).mono ?_; rintro e W93 ⟨hA, hc, hr, hB, hd, hz, hmid, rfl, ⟨ho, hm⟩, ⟨hp, hn⟩, ⟨hs, ht⟩, hb_93⟩
  clear r_91 r_92
  have hM := Lib.hid hm; have hN := Lib.hid hn; clear hm hn
  have hz_94 : W88.heap.size ≤ W93.heap.size := hb_93.size
  have HB_94 := belowThen HB_89 hb_93
  have p1_94 := Lib.hid (p1_89.out.below AtomE.stays hb_93 (by omega)); clear p1_89
  have p2_94 := Lib.hid (p2_89.out.below AtomE.stays hb_93 (by omega)); clear p2_89
  have bW_94 := Lib.hid (bW_89.out.below hb_93); clear bW_89
  have bG_94 := Lib.hid (bG_89.out.below hb_93); clear bG_89
  have g1_94 := Lib.hid (g1_89.out.below hb_93 (by omega)); clear g1_89
  have g2_94 := Lib.hid (g2_89.out.below hb_93 (by omega)); clear g2_89
  have s1_94 := Lib.hid (s1_89.out.below hb_93 (by omega)); clear s1_89
  have s2_94 := Lib.hid (s2_90.out.below hb_93 (by omega)); clear s2_90
  clear HB_89
  have h1_95 := Lib.hid (ho)
  have h2_96 := Lib.hid (hp)
  clear ho hp
  clear s1_94
  clear s2_94
  have hb_97 := below1 W93 (.cells #[.slice hA P.length hc, .slice hB Q.length hd] 53)
  have bx_97 := Blk.new W93 53 #[.slice hA P.length hc, .slice hB Q.length hd]
  obtain ⟨W97, hw_97⟩ : ∃ X, W93.alloc (.cells #[.slice hA P.length hc, .slice hB Q.length hd] 53) = X := ⟨_, rfl⟩
  have hwd_97 := Lib.hid hw_97
  rw [hw_97] at hb_97 bx_97; clear hw_97
  have hz_98 : W93.heap.size ≤ W97.heap.size := hb_97.size
  have HB_98 := belowThen HB_94 hb_97
  have p1_98 := Lib.hid (p1_94.out.below AtomE.stays hb_97 (by omega)); clear p1_94
  have p2_98 := Lib.hid (p2_94.out.below AtomE.stays hb_97 (by omega)); clear p2_94
  have bW_98 := Lib.hid (bW_94.out.below hb_97); clear bW_94
  have bG_98 := Lib.hid (bG_94.out.below hb_97); clear bG_94
  have g1_98 := Lib.hid (g1_94.out.below hb_97 (by omega)); clear g1_94
  have g2_98 := Lib.hid (g2_94.out.below hb_97 (by omega)); clear g2_94
  have h1_98 := Lib.hid (h1_95.out.below hb_97 (by omega)); clear h1_95
  have h2_98 := Lib.hid (h2_96.out.below hb_97 (by omega)); clear h2_96
  clear HB_94
  have bH_99 := Lib.hid (bx_97)
  have bH0 : W93.heap.size < W97.heap.size := bH_99.out.lt
  clear bx_97 hb_97
  have u_100 : (W93.alloc (.cells #[.slice hA P.length hc, .slice hB Q.length hd] 53)).cell? ⟨W13.heap.size, 0, none⟩ = some (.slice qA P.length qc) := by rw [hwd_97.out]; exact bW_98.out.cell 0
  have u_101 : (W93.alloc (.cells #[.slice hA P.length hc, .slice hB Q.length hd] 53)).cell? ⟨W13.heap.size, 1, none⟩ = some (.slice qB Q.length qd) := by rw [hwd_97.out]; exact bW_98.out.cell 1
  have u_102 : (W93.alloc (.cells #[.slice hA P.length hc, .slice hB Q.length hd] 53)).cell? ⟨W93.heap.size, 0, none⟩ = some (.slice hA P.length hc) := by rw [hwd_97.out]; exact bH_99.out.cell 0
  have u_103 : (W93.alloc (.cells #[.slice hA P.length hc, .slice hB Q.length hd] 53)).cell? ⟨W93.heap.size, 1, none⟩ = some (.slice hB Q.length hd) := by rw [hwd_97.out]; exact bH_99.out.cell 1
  go_wp2_with fail
  rw [hwd_97.out]
  clear u_100 u_101 u_102 u_103
  have r_104 := (h1_98.out.atoms.keep AtomE.stays (lo' := 0) (hi' := W97.heap.size) (fun _ _ _ => rfl) (Nat.zero_le _) (by omega))
  rw [hM.out] at r_104
  have r_105 := (h2_98.out.atoms.keep AtomE.stays (lo' := 0) (hi' := W97.heap.size) (fun _ _ _ => rfl) (Nat.zero_le _) (by omega))
  rw [hN.out] at r_105
  have r_106 := (p1_98.out.keep AtomE.stays (lo' := 0) (hi' := W97.heap.size) (fun _ _ _ => rfl) (Nat.zero_le _) (by omega))
  have r_107 := (p2_98.out.keep AtomE.stays (lo' := 0) (hi' := W97.heap.size) (fun _ _ _ => rfl) (Nat.zero_le _) (by omega))
  refine (eqChange_any _ _ _ _ _ _ _ _ _ _ _ _ P Q P Q _ r_104 r_105 r_106 r_107).mono ?_; rintro e W108 ⟨rfl, hb_108⟩
  clear r_104 r_105 r_106 r_107
  have hz_109 : W97.heap.size ≤ W108.heap.size := hb_108.size
  have HB_109 := belowThen HB_98 hb_108
  have p1_109 := Lib.hid (p1_98.out.below AtomE.stays hb_108 (by omega)); clear p1_98
  have p2_109 := Lib.hid (p2_98.out.below AtomE.stays hb_108 (by omega)); clear p2_98
  have bW_109 := Lib.hid (bW_98.out.below hb_108); clear bW_98
  have bG_109 := Lib.hid (bG_98.out.below hb_108); clear bG_98
  have g1_109 := Lib.hid (g1_98.out.below hb_108 (by omega)); clear g1_98
  have g2_109 := Lib.hid (g2_98.out.below hb_108 (by omega)); clear g2_98
  have h1_109 := Lib.hid (h1_98.out.below hb_108 (by omega)); clear h1_98
  have h2_109 := Lib.hid (h2_98.out.below hb_108 (by omega)); clear h2_98
  have bH_109 := Lib.hid (bH_99.out.below hb_108); clear bH_99
  clear HB_98
  rw [changeEq_refl]
  have u_110 : W108.cell? ⟨W28.heap.size, 0, none⟩ = some (.slice gA P.length gc) := bG_109.out.cell 0
  have u_111 : W108.cell? ⟨W28.heap.size, 1, none⟩ = some (.slice gB Q.length gd) := bG_109.out.cell 1
  go_wp2_with fail
  have r_112 := IsSeq.keep g1_109.out.refs RefE.stays (lo' := 0) (hi' := W108.heap.size) (fun _ _ _ => rfl) (Nat.zero_le _) (by omega)
  have r_113 := IsSeq.keep g2_109.out.refs RefE.stays (lo' := 0) (hi' := W108.heap.size) (fun _ _ _ => rfl) (Nat.zero_le _) (by omega)
  refine (heldChange_any gA gB P.length gc Q.length gd 1 gr gz _ r_112 r_113 hg1 hg2).mono ?_; rintro e W114 ⟨rfl, hb_114⟩
  clear u_110 u_111 r_112 r_113
  have hz_115 : W108.heap.size ≤ W114.heap.size := hb_114.size
  have HB_115 := belowThen HB_109 hb_114
  have p1_115 := Lib.hid (p1_109.out.below AtomE.stays hb_114 (by omega)); clear p1_109
  have p2_115 := Lib.hid (p2_109.out.below AtomE.stays hb_114 (by omega)); clear p2_109
  have bW_115 := Lib.hid (bW_109.out.below hb_114); clear bW_109
  have bG_115 := Lib.hid (bG_109.out.below hb_114); clear bG_109
  have g1_115 := Lib.hid (g1_109.out.below hb_114 (by omega)); clear g1_109
  have g2_115 := Lib.hid (g2_109.out.below hb_114 (by omega)); clear g2_109
  have h1_115 := Lib.hid (h1_109.out.below hb_114 (by omega)); clear h1_109
  have h2_115 := Lib.hid (h2_109.out.below hb_114 (by omega)); clear h2_109
  have bH_115 := Lib.hid (bH_109.out.below hb_114); clear bH_109
  clear HB_109
  rw [HMK.out]
  go_wp2
  go_ret; exact ⟨rfl, HB_115⟩

end Go.Proofs.Ytenklmednmhbkaa
