/-
  The exact law of ChangeBoth: at every two changes the program answers as its model, in memory of its own, and leaves what came in as it was. (Written by tools/exboth.py.)
-/
import Derived.Test.YtenklmednmhbkaaBothI
import Derived.Test.YtenklmednmhbkaaMarkC
namespace Go.Proofs.Ytenklmednmhbkaa
open Go.RowKit

/-- A change of the lists P and Q in memory of its own, its two lists apart, and whether it was done, handed back. -/
def OwnRPost (P Q : List At) (q : Bool) (w : World) (e : Ending) (w' : World) : Prop := ∃ A c ra B d rb mid, e = .returned (.tuple #[.agg #[.slice A P.length c, .slice B Q.length d], .bool q]) ∧ (OwnRefs w' w.heap.size mid A P.length c ra ∧ ra.map rAt = P) ∧ (OwnRefs w' mid w'.heap.size B Q.length d rb ∧ rb.map rAt = Q) ∧ (w.heap.size ≤ mid ∧ mid ≤ w'.heap.size) ∧ Below w.heap.size w w'

set_option maxRecDepth 100000 in
set_option maxHeartbeats 16000000 in
theorem exactChangeBoth_any (A1 A2 : Option Addr) (n1 c1 n2 c2 : Nat) (ca ga : List At) (B1 B2 : Option Addr) (m1 d1 m2 d2 : Nat) (cb gb : List At) (w : World) (h1 : IsAtoms w 0 w.heap.size A1 n1 c1 ca) (h2 : IsAtoms w 0 w.heap.size A2 n2 c2 ga) (h3 : IsAtoms w 0 w.heap.size B1 m1 d1 cb) (h4 : IsAtoms w 0 w.heap.size B2 m2 d2 gb) :
    Calls Try.prog 12 #[.agg #[.slice A1 n1 c1, .slice A2 n2 c2], .agg #[.slice B1 m1 d1, .slice B2 m2 d2]] w (BoolPost true w) := by
  have H1 := Lib.hid h1; have H2 := Lib.hid h2; have H3 := Lib.hid h3; have H4 := Lib.hid h4; clear h1 h2 h3 h4
  obtain ⟨P, Q, q, hP⟩ : ∃ P Q q, bothL ca ga cb gb = ((P, Q), q) := ⟨_, _, _, rfl⟩
  have SMP := Lib.hid (bothL_small hP)
  have cCS : ∀ (A1 A2 B1 B2 : Option Addr) (n1 c1 n2 c2 m1 d1 m2 d2 : Nat) (W : World), IsAtoms W 0 W.heap.size A1 n1 c1 ca → IsAtoms W 0 W.heap.size A2 n2 c2 ga → IsAtoms W 0 W.heap.size B1 m1 d1 cb → IsAtoms W 0 W.heap.size B2 m2 d2 gb → Calls Try.prog 46 #[.agg #[.slice A1 n1 c1, .slice A2 n2 c2], .agg #[.slice B1 m1 d1, .slice B2 m2 d2]] W (OwnRPost P Q q W) := by
    intro A1 A2 B1 B2 n1 c1 n2 c2 m1 d1 m2 d2 W k1 k2 k3 k4; have := specChangeBoth_any A1 A2 B1 B2 n1 c1 n2 c2 m1 d1 m2 d2 ca ga cb gb W k1 k2 k3 k4; rw [hP] at this; exact this
  have CS := Lib.hid cCS; clear cCS
  have cCI : ∀ (A1 A2 B1 B2 : Option Addr) (n1 c1 n2 c2 m1 d1 m2 d2 : Nat) (W : World), IsAtoms W 0 W.heap.size A1 n1 c1 ca → IsAtoms W 0 W.heap.size A2 n2 c2 ga → IsAtoms W 0 W.heap.size B1 m1 d1 cb → IsAtoms W 0 W.heap.size B2 m2 d2 gb → Calls Try.prog 47 #[.agg #[.slice A1 n1 c1, .slice A2 n2 c2], .agg #[.slice B1 m1 d1, .slice B2 m2 d2]] W (OwnRPost P Q q W) := by
    intro A1 A2 B1 B2 n1 c1 n2 c2 m1 d1 m2 d2 W k1 k2 k3 k4; have := implChangeBoth_any A1 A2 B1 B2 n1 c1 n2 c2 m1 d1 m2 d2 ca ga cb gb W k1 k2 k3 k4; rw [hP] at this; exact this
  have CI := Lib.hid cCI; clear cCI
  clear hP
  have hne : ∀ z : Int, (z != z) = false := by simp
  have hnb : (q != q) = false := by simp
  have HB_0 := below2 w (.cells #[.slice A1 n1 c1, .slice A2 n2 c2] 49) (.cells #[.slice B1 m1 d1, .slice B2 m2 d2] 49)
  have bAx : Blk ((w.alloc (.cells #[.slice A1 n1 c1, .slice A2 n2 c2] 49)).alloc (.cells #[.slice B1 m1 d1, .slice B2 m2 d2] 49)) w.heap.size 49 #[.slice A1 n1 c1, .slice A2 n2 c2] := (Blk.new w _ _).alloc _
  have bBx : Blk ((w.alloc (.cells #[.slice A1 n1 c1, .slice A2 n2 c2] 49)).alloc (.cells #[.slice B1 m1 d1, .slice B2 m2 d2] 49)) (w.heap.size + 1) 49 #[.slice B1 m1 d1, .slice B2 m2 d2] := Blk.made (b := w.heap.size + 1) (w.alloc (.cells #[.slice A1 n1 c1, .slice A2 n2 c2] 49)) 49 #[.slice B1 m1 d1, .slice B2 m2 d2] (by simp)
  obtain ⟨W0, hW0⟩ : ∃ X, (w.alloc (.cells #[.slice A1 n1 c1, .slice A2 n2 c2] 49)).alloc (.cells #[.slice B1 m1 d1, .slice B2 m2 d2] 49) = X := ⟨_, rfl⟩
  have hWd0 := Lib.hid hW0
  rw [hW0] at HB_0 bAx bBx; clear hW0
  have a_0 : ((w.alloc (.cells #[.slice A1 n1 c1, .slice A2 n2 c2] 49)).alloc (.cells #[.slice B1 m1 d1, .slice B2 m2 d2] 49)).cell? ⟨w.heap.size, 0, none⟩ = some (.slice A1 n1 c1) := by rw [hWd0.out]; exact bAx.cell 0
  have a_1 : ((w.alloc (.cells #[.slice A1 n1 c1, .slice A2 n2 c2] 49)).alloc (.cells #[.slice B1 m1 d1, .slice B2 m2 d2] 49)).cell? ⟨w.heap.size, 1, none⟩ = some (.slice A2 n2 c2) := by rw [hWd0.out]; exact bAx.cell 1
  go_enter Try.func12, Try.ntmps12
  go_wp2_with fail
  rw [hWd0.out]; clear a_0 a_1
  have hz_0 : w.heap.size ≤ W0.heap.size := HB_0.size
  have bA_1 := Lib.hid (bAx)
  have bB_2 := Lib.hid (bBx)
  clear bAx bBx
  have bA0 : w.heap.size + 1 < W0.heap.size := bB_2.out.lt
  refine (szChange_any A1 A2 n1 c1 n2 c2 ca ga _ _ (H1.out.up AtomE.stays HB_0) (H2.out.up AtomE.stays HB_0) (by omega) (by omega)).mono ?_; rintro e W3 ⟨y, ⟨rfl, ha, hbb, hc⟩, hb_3⟩
  have hz_4 : W0.heap.size ≤ W3.heap.size := hb_3.size
  have HB_4 := belowThen HB_0 hb_3
  have bA_4 := Lib.hid (bA_1.out.below hb_3); clear bA_1
  have bB_4 := Lib.hid (bB_2.out.below hb_3); clear bB_2
  clear HB_0
  have u_5 : W3.cell? ⟨w.heap.size, 0, none⟩ = some (.slice A1 n1 c1) := bA_4.out.cell 0
  have u_6 : W3.cell? ⟨w.heap.size, 1, none⟩ = some (.slice A2 n2 c2) := bA_4.out.cell 1
  have u_7 : W3.cell? ⟨w.heap.size + 1, 0, none⟩ = some (.slice B1 m1 d1) := bB_4.out.cell 0
  have u_8 : W3.cell? ⟨w.heap.size + 1, 1, none⟩ = some (.slice B2 m2 d2) := bB_4.out.cell 1
  go_wp2_with fail
  all_goals try (go_ret; exact ⟨rfl, HB_4⟩)
  have hy0 : 0 ≤ y := by assumption
  have HN := Lib.hid (hc hy0); clear ha hc
  refine (szChange_any B1 B2 m1 d1 m2 d2 cb gb _ _ (H3.out.up AtomE.stays HB_4) (H4.out.up AtomE.stays HB_4) hy0 (by omega)).mono ?_; rintro e W9 ⟨y', ⟨rfl, ha', hb', hc'⟩, hb_9⟩
  clear u_5 u_6 u_7 u_8
  have hz_10 : W3.heap.size ≤ W9.heap.size := hb_9.size
  have HB_10 := belowThen HB_4 hb_9
  have bA_10 := Lib.hid (bA_4.out.below hb_9); clear bA_4
  have bB_10 := Lib.hid (bB_4.out.below hb_9); clear bB_4
  clear HB_4
  have u_11 : W9.cell? ⟨w.heap.size, 0, none⟩ = some (.slice A1 n1 c1) := bA_10.out.cell 0
  have u_12 : W9.cell? ⟨w.heap.size, 1, none⟩ = some (.slice A2 n2 c2) := bA_10.out.cell 1
  have u_13 : W9.cell? ⟨w.heap.size + 1, 0, none⟩ = some (.slice B1 m1 d1) := bB_10.out.cell 0
  have u_14 : W9.cell? ⟨w.heap.size + 1, 1, none⟩ = some (.slice B2 m2 d2) := bB_10.out.cell 1
  go_wp2_with fail
  all_goals try (go_ret; exact ⟨rfl, HB_10⟩)
  have HN' := Lib.hid (hc' (by assumption))
  clear ha' hc' hb' hbb hy0
  clear u_11 u_12 u_13 u_14
  rename_i hh0 hh1 K1 a1
  have RESTK1 : ∀ (g : Nat) (xA xB yA yB pA pB : Option Addr) (pc pd : Nat) (W : World), Below W9.heap.size W9 W → g < W.heap.size → Blk W g 53 #[.slice pA P.length pc, .slice pB Q.length pd] → IsAtoms W 0 W.heap.size pA P.length pc P → IsAtoms W 0 W.heap.size pB Q.length pd Q → K1 { tmps := #[.agg #[.slice A1 n1 c1, .slice A2 n2 c2], .agg #[.slice B1 m1 d1, .slice B2 m2 d2], .pointer (some ⟨w.heap.size, 0, none⟩), .pointer (some ⟨w.heap.size + 1, 0, none⟩), .bool false, .int .i64 y', .pointer (some ⟨g, 0, none⟩), .bool q, undef, undef, undef, undef, undef, undef, undef, undef, undef, .agg #[.slice A1 n1 c1, .slice A2 n2 c2], .int .i64 1048576, .int .i64 y, .int .i64 y, .bool (decide (y < 0)), .agg #[.slice B1 m1 d1, .slice B2 m2 d2], .int .i64 y, .int .i64 y', .int .i64 y', .bool (decide (y' < 0)), .tuple #[.agg #[.slice pA P.length pc, .slice pB Q.length pd], .bool q], .agg #[.slice A1 n1 c1, .slice A2 n2 c2], .agg #[.slice xA n1 n1, .slice xB n2 n2], .agg #[.slice B1 m1 d1, .slice B2 m2 d2], .agg #[.slice yA m1 m1, .slice yB m2 m2], .tuple #[.agg #[.slice pA P.length pc, .slice pB Q.length pd], .bool q], .agg #[.slice pA P.length pc, .slice pB Q.length pd], .bool q, undef, undef, undef, undef, undef, undef, undef, undef, undef, undef, undef, undef, undef, undef, undef, undef, undef, undef, undef, undef, undef, undef, undef, undef, undef, undef, undef, undef, undef, undef, undef, undef, undef, undef, undef, undef, undef, undef, undef, undef, undef, undef, undef, undef, undef, undef, undef, undef, undef, undef, undef, undef, undef, undef, undef, undef, undef, undef, undef, undef, undef, undef, undef, undef, undef, undef, undef, undef, undef, undef, undef, undef, undef, undef, undef, undef, undef, undef, undef, undef, undef, undef, undef, undef], defers := [] } W := by
    intro g xA xB yA yB pA pB pc pd WK1 hlow hgw hbl hq1 hq2
    refine a1 _ _ ?_
    clear a1 K1
    have hz_15 : W9.heap.size ≤ WK1.heap.size := hlow.size
    have HB_15 := belowThen HB_10 hlow
    have bA_15 := Lib.hid (bA_10.out.below hlow); clear bA_10
    have bB_15 := Lib.hid (bB_10.out.below hlow); clear bB_10
    clear HB_10
    have bW_16 := Lib.hid (hbl)
    have p1_17 := Lib.hid (hq1)
    have p2_18 := Lib.hid (hq2)
    clear hq1 hq2 hbl
    have u_19 : WK1.cell? ⟨w.heap.size, 0, none⟩ = some (.slice A1 n1 c1) := bA_15.out.cell 0
    have u_20 : WK1.cell? ⟨w.heap.size, 1, none⟩ = some (.slice A2 n2 c2) := bA_15.out.cell 1
    go_wp2_with fail
    refine (toChange_own A1 A2 n1 c1 n2 c2 ca ga _ (H1.out.up AtomE.stays HB_15) (H2.out.up AtomE.stays HB_15) HN.out).mono ?_; rintro e W21 ⟨xaA, xaB, xar, xaz, xamid, rfl, ⟨xao, xam⟩, ⟨xap, xan⟩, ⟨xas, xat⟩, hb_21⟩
    clear u_19 u_20
    have xaM := Lib.hid xam; have xaN := Lib.hid xan; clear xam xan
    have hz_22 : WK1.heap.size ≤ W21.heap.size := hb_21.size
    have HB_22 := belowThen HB_15 hb_21
    have bA_22 := Lib.hid (bA_15.out.below hb_21); clear bA_15
    have bB_22 := Lib.hid (bB_15.out.below hb_21); clear bB_15
    have bW_22 := Lib.hid (bW_16.out.below hb_21); clear bW_16
    have p1_22 := Lib.hid (p1_17.out.below AtomE.stays hb_21 (by omega)); clear p1_17
    have p2_22 := Lib.hid (p2_18.out.below AtomE.stays hb_21 (by omega)); clear p2_18
    clear HB_15
    have x1_23 := Lib.hid (xao)
    have x2_24 := Lib.hid (xap)
    clear xao xap
    have hb_25 := below1 W21 (.cells #[.slice xaA n1 n1, .slice xaB n2 n2] 53)
    have bx_25 := Blk.new W21 53 #[.slice xaA n1 n1, .slice xaB n2 n2]
    obtain ⟨W25, hw_25⟩ : ∃ X, W21.alloc (.cells #[.slice xaA n1 n1, .slice xaB n2 n2] 53) = X := ⟨_, rfl⟩
    have hwd_25 := Lib.hid hw_25
    rw [hw_25] at hb_25 bx_25; clear hw_25
    have hz_26 : W21.heap.size ≤ W25.heap.size := hb_25.size
    have HB_26 := belowThen HB_22 hb_25
    have bA_26 := Lib.hid (bA_22.out.below hb_25); clear bA_22
    have bB_26 := Lib.hid (bB_22.out.below hb_25); clear bB_22
    have bW_26 := Lib.hid (bW_22.out.below hb_25); clear bW_22
    have p1_26 := Lib.hid (p1_22.out.below AtomE.stays hb_25 (by omega)); clear p1_22
    have p2_26 := Lib.hid (p2_22.out.below AtomE.stays hb_25 (by omega)); clear p2_22
    have x1_26 := Lib.hid (x1_23.out.below hb_25 (by omega)); clear x1_23
    have x2_26 := Lib.hid (x2_24.out.below hb_25 (by omega)); clear x2_24
    clear HB_22
    have bX_27 := Lib.hid (bx_25)
    have bX0 : W21.heap.size < W25.heap.size := bX_27.out.lt
    clear bx_25 hb_25
    have u_28 : (W21.alloc (.cells #[.slice xaA n1 n1, .slice xaB n2 n2] 53)).cell? ⟨w.heap.size + 1, 0, none⟩ = some (.slice B1 m1 d1) := by rw [hwd_25.out]; exact bB_26.out.cell 0
    have u_29 : (W21.alloc (.cells #[.slice xaA n1 n1, .slice xaB n2 n2] 53)).cell? ⟨w.heap.size + 1, 1, none⟩ = some (.slice B2 m2 d2) := by rw [hwd_25.out]; exact bB_26.out.cell 1
    have u_30 : (W21.alloc (.cells #[.slice xaA n1 n1, .slice xaB n2 n2] 53)).cell? ⟨W21.heap.size, 0, none⟩ = some (.slice xaA n1 n1) := by rw [hwd_25.out]; exact bX_27.out.cell 0
    have u_31 : (W21.alloc (.cells #[.slice xaA n1 n1, .slice xaB n2 n2] 53)).cell? ⟨W21.heap.size, 1, none⟩ = some (.slice xaB n2 n2) := by rw [hwd_25.out]; exact bX_27.out.cell 1
    go_wp2_with fail
    rw [hwd_25.out]
    clear u_28 u_29 u_30 u_31
    refine (toChange_own B1 B2 m1 d1 m2 d2 cb gb _ (H3.out.up AtomE.stays HB_26) (H4.out.up AtomE.stays HB_26) HN'.out).mono ?_; rintro e W32 ⟨xbA, xbB, xbr, xbz, xbmid, rfl, ⟨xbo, xbm⟩, ⟨xbp, xbn⟩, ⟨xbs, xbt⟩, hb_32⟩
    have xbM := Lib.hid xbm; have xbN := Lib.hid xbn; clear xbm xbn
    have hz_33 : W25.heap.size ≤ W32.heap.size := hb_32.size
    have HB_33 := belowThen HB_26 hb_32
    have bA_33 := Lib.hid (bA_26.out.below hb_32); clear bA_26
    have bB_33 := Lib.hid (bB_26.out.below hb_32); clear bB_26
    have bW_33 := Lib.hid (bW_26.out.below hb_32); clear bW_26
    have p1_33 := Lib.hid (p1_26.out.below AtomE.stays hb_32 (by omega)); clear p1_26
    have p2_33 := Lib.hid (p2_26.out.below AtomE.stays hb_32 (by omega)); clear p2_26
    have x1_33 := Lib.hid (x1_26.out.below hb_32 (by omega)); clear x1_26
    have x2_33 := Lib.hid (x2_26.out.below hb_32 (by omega)); clear x2_26
    have bX_33 := Lib.hid (bX_27.out.below hb_32); clear bX_27
    clear HB_26
    have x3_34 := Lib.hid (xbo)
    have x4_35 := Lib.hid (xbp)
    clear xbo xbp
    have hb_36 := below1 W32 (.cells #[.slice xbA m1 m1, .slice xbB m2 m2] 53)
    have bx_36 := Blk.new W32 53 #[.slice xbA m1 m1, .slice xbB m2 m2]
    obtain ⟨W36, hw_36⟩ : ∃ X, W32.alloc (.cells #[.slice xbA m1 m1, .slice xbB m2 m2] 53) = X := ⟨_, rfl⟩
    have hwd_36 := Lib.hid hw_36
    rw [hw_36] at hb_36 bx_36; clear hw_36
    have hz_37 : W32.heap.size ≤ W36.heap.size := hb_36.size
    have HB_37 := belowThen HB_33 hb_36
    have bA_37 := Lib.hid (bA_33.out.below hb_36); clear bA_33
    have bB_37 := Lib.hid (bB_33.out.below hb_36); clear bB_33
    have bW_37 := Lib.hid (bW_33.out.below hb_36); clear bW_33
    have p1_37 := Lib.hid (p1_33.out.below AtomE.stays hb_36 (by omega)); clear p1_33
    have p2_37 := Lib.hid (p2_33.out.below AtomE.stays hb_36 (by omega)); clear p2_33
    have x1_37 := Lib.hid (x1_33.out.below hb_36 (by omega)); clear x1_33
    have x2_37 := Lib.hid (x2_33.out.below hb_36 (by omega)); clear x2_33
    have bX_37 := Lib.hid (bX_33.out.below hb_36); clear bX_33
    have x3_37 := Lib.hid (x3_34.out.below hb_36 (by omega)); clear x3_34
    have x4_37 := Lib.hid (x4_35.out.below hb_36 (by omega)); clear x4_35
    clear HB_33
    have bY_38 := Lib.hid (bx_36)
    have bY0 : W32.heap.size < W36.heap.size := bY_38.out.lt
    clear bx_36 hb_36
    have u_39 : (W32.alloc (.cells #[.slice xbA m1 m1, .slice xbB m2 m2] 53)).cell? ⟨W21.heap.size, 0, none⟩ = some (.slice xaA n1 n1) := by rw [hwd_36.out]; exact bX_37.out.cell 0
    have u_40 : (W32.alloc (.cells #[.slice xbA m1 m1, .slice xbB m2 m2] 53)).cell? ⟨W21.heap.size, 1, none⟩ = some (.slice xaB n2 n2) := by rw [hwd_36.out]; exact bX_37.out.cell 1
    have u_41 : (W32.alloc (.cells #[.slice xbA m1 m1, .slice xbB m2 m2] 53)).cell? ⟨W32.heap.size, 0, none⟩ = some (.slice xbA m1 m1) := by rw [hwd_36.out]; exact bY_38.out.cell 0
    have u_42 : (W32.alloc (.cells #[.slice xbA m1 m1, .slice xbB m2 m2] 53)).cell? ⟨W32.heap.size, 1, none⟩ = some (.slice xbB m2 m2) := by rw [hwd_36.out]; exact bY_38.out.cell 1
    go_wp2_with fail
    rw [hwd_36.out]
    clear u_39 u_40 u_41 u_42
    have r_43 := (x1_37.out.atoms.keep AtomE.stays (lo' := 0) (hi' := W36.heap.size) (fun _ _ _ => rfl) (Nat.zero_le _) (by omega))
    rw [xaM.out] at r_43
    have r_44 := (x2_37.out.atoms.keep AtomE.stays (lo' := 0) (hi' := W36.heap.size) (fun _ _ _ => rfl) (Nat.zero_le _) (by omega))
    rw [xaN.out] at r_44
    have r_45 := (x3_37.out.atoms.keep AtomE.stays (lo' := 0) (hi' := W36.heap.size) (fun _ _ _ => rfl) (Nat.zero_le _) (by omega))
    rw [xbM.out] at r_45
    have r_46 := (x4_37.out.atoms.keep AtomE.stays (lo' := 0) (hi' := W36.heap.size) (fun _ _ _ => rfl) (Nat.zero_le _) (by omega))
    rw [xbN.out] at r_46
    refine (CI.out xaA xaB xbA xbB n1 n1 n2 n2 m1 m1 m2 m2 _ r_43 r_44 r_45 r_46).mono ?_; rintro e W47 ⟨gA, gc, gr, gB, gd, gz, gmid, rfl, ⟨go, gm⟩, ⟨gp, gn⟩, ⟨gs, gt⟩, hb_47⟩
    clear r_43 r_44 r_45 r_46
    have gM := Lib.hid gm; have gN := Lib.hid gn; clear gm gn
    have hz_48 : W36.heap.size ≤ W47.heap.size := hb_47.size
    have HB_48 := belowThen HB_37 hb_47
    have bA_48 := Lib.hid (bA_37.out.below hb_47); clear bA_37
    have bB_48 := Lib.hid (bB_37.out.below hb_47); clear bB_37
    have bW_48 := Lib.hid (bW_37.out.below hb_47); clear bW_37
    have p1_48 := Lib.hid (p1_37.out.below AtomE.stays hb_47 (by omega)); clear p1_37
    have p2_48 := Lib.hid (p2_37.out.below AtomE.stays hb_47 (by omega)); clear p2_37
    have x1_48 := Lib.hid (x1_37.out.below hb_47 (by omega)); clear x1_37
    have x2_48 := Lib.hid (x2_37.out.below hb_47 (by omega)); clear x2_37
    have bX_48 := Lib.hid (bX_37.out.below hb_47); clear bX_37
    have x3_48 := Lib.hid (x3_37.out.below hb_47 (by omega)); clear x3_37
    have x4_48 := Lib.hid (x4_37.out.below hb_47 (by omega)); clear x4_37
    have bY_48 := Lib.hid (bY_38.out.below hb_47); clear bY_38
    clear HB_37
    have g1_49 := Lib.hid (go)
    have g2_50 := Lib.hid (gp)
    clear go gp
    have hb_51 := below1 W47 (.cells #[.slice gA P.length gc, .slice gB Q.length gd] 53)
    have bx_51 := Blk.new W47 53 #[.slice gA P.length gc, .slice gB Q.length gd]
    obtain ⟨W51, hw_51⟩ : ∃ X, W47.alloc (.cells #[.slice gA P.length gc, .slice gB Q.length gd] 53) = X := ⟨_, rfl⟩
    have hwd_51 := Lib.hid hw_51
    rw [hw_51] at hb_51 bx_51; clear hw_51
    have hz_52 : W47.heap.size ≤ W51.heap.size := hb_51.size
    have HB_52 := belowThen HB_48 hb_51
    have bA_52 := Lib.hid (bA_48.out.below hb_51); clear bA_48
    have bB_52 := Lib.hid (bB_48.out.below hb_51); clear bB_48
    have bW_52 := Lib.hid (bW_48.out.below hb_51); clear bW_48
    have p1_52 := Lib.hid (p1_48.out.below AtomE.stays hb_51 (by omega)); clear p1_48
    have p2_52 := Lib.hid (p2_48.out.below AtomE.stays hb_51 (by omega)); clear p2_48
    have x1_52 := Lib.hid (x1_48.out.below hb_51 (by omega)); clear x1_48
    have x2_52 := Lib.hid (x2_48.out.below hb_51 (by omega)); clear x2_48
    have bX_52 := Lib.hid (bX_48.out.below hb_51); clear bX_48
    have x3_52 := Lib.hid (x3_48.out.below hb_51 (by omega)); clear x3_48
    have x4_52 := Lib.hid (x4_48.out.below hb_51 (by omega)); clear x4_48
    have bY_52 := Lib.hid (bY_48.out.below hb_51); clear bY_48
    have g1_52 := Lib.hid (g1_49.out.below hb_51 (by omega)); clear g1_49
    have g2_52 := Lib.hid (g2_50.out.below hb_51 (by omega)); clear g2_50
    clear HB_48
    have bG_53 := Lib.hid (bx_51)
    have bG0 : W47.heap.size < W51.heap.size := bG_53.out.lt
    clear bx_51 hb_51
    have u_54 : (W47.alloc (.cells #[.slice gA P.length gc, .slice gB Q.length gd] 53)).cell? ⟨g, 0, none⟩ = some (.slice pA P.length pc) := by rw [hwd_51.out]; exact bW_52.out.cell 0
    have u_55 : (W47.alloc (.cells #[.slice gA P.length gc, .slice gB Q.length gd] 53)).cell? ⟨g, 1, none⟩ = some (.slice pB Q.length pd) := by rw [hwd_51.out]; exact bW_52.out.cell 1
    have u_56 : (W47.alloc (.cells #[.slice gA P.length gc, .slice gB Q.length gd] 53)).cell? ⟨W47.heap.size, 0, none⟩ = some (.slice gA P.length gc) := by rw [hwd_51.out]; exact bG_53.out.cell 0
    have u_57 : (W47.alloc (.cells #[.slice gA P.length gc, .slice gB Q.length gd] 53)).cell? ⟨W47.heap.size, 1, none⟩ = some (.slice gB Q.length gd) := by rw [hwd_51.out]; exact bG_53.out.cell 1
    go_wp2_with fail
    rw [hwd_51.out]
    clear u_54 u_55 u_56 u_57
    have r_58 := (g1_52.out.atoms.keep AtomE.stays (lo' := 0) (hi' := W51.heap.size) (fun _ _ _ => rfl) (Nat.zero_le _) (by omega))
    rw [gM.out] at r_58
    have r_59 := (g2_52.out.atoms.keep AtomE.stays (lo' := 0) (hi' := W51.heap.size) (fun _ _ _ => rfl) (Nat.zero_le _) (by omega))
    rw [gN.out] at r_59
    have r_60 := (p1_52.out.keep AtomE.stays (lo' := 0) (hi' := W51.heap.size) (fun _ _ _ => rfl) (Nat.zero_le _) (by omega))
    have r_61 := (p2_52.out.keep AtomE.stays (lo' := 0) (hi' := W51.heap.size) (fun _ _ _ => rfl) (Nat.zero_le _) (by omega))
    refine (eqChange_any _ _ _ _ _ _ _ _ _ _ _ _ P Q P Q _ r_58 r_59 r_60 r_61).mono ?_; rintro e W62 ⟨rfl, hb_62⟩
    clear r_58 r_59 r_60 r_61
    have hz_63 : W51.heap.size ≤ W62.heap.size := hb_62.size
    have HB_63 := belowThen HB_52 hb_62
    have bA_63 := Lib.hid (bA_52.out.below hb_62); clear bA_52
    have bB_63 := Lib.hid (bB_52.out.below hb_62); clear bB_52
    have bW_63 := Lib.hid (bW_52.out.below hb_62); clear bW_52
    have p1_63 := Lib.hid (p1_52.out.below AtomE.stays hb_62 (by omega)); clear p1_52
    have p2_63 := Lib.hid (p2_52.out.below AtomE.stays hb_62 (by omega)); clear p2_52
    have x1_63 := Lib.hid (x1_52.out.below hb_62 (by omega)); clear x1_52
    have x2_63 := Lib.hid (x2_52.out.below hb_62 (by omega)); clear x2_52
    have bX_63 := Lib.hid (bX_52.out.below hb_62); clear bX_52
    have x3_63 := Lib.hid (x3_52.out.below hb_62 (by omega)); clear x3_52
    have x4_63 := Lib.hid (x4_52.out.below hb_62 (by omega)); clear x4_52
    have bY_63 := Lib.hid (bY_52.out.below hb_62); clear bY_52
    have g1_63 := Lib.hid (g1_52.out.below hb_62 (by omega)); clear g1_52
    have g2_63 := Lib.hid (g2_52.out.below hb_62 (by omega)); clear g2_52
    have bG_63 := Lib.hid (bG_53.out.below hb_62); clear bG_53
    clear HB_52
    rw [changeEq_refl]
    have u_64 : W62.cell? ⟨W21.heap.size, 0, none⟩ = some (.slice xaA n1 n1) := bX_63.out.cell 0
    have u_65 : W62.cell? ⟨W21.heap.size, 1, none⟩ = some (.slice xaB n2 n2) := bX_63.out.cell 1
    have u_66 : W62.cell? ⟨W32.heap.size, 0, none⟩ = some (.slice xbA m1 m1) := bY_63.out.cell 0
    have u_67 : W62.cell? ⟨W32.heap.size, 1, none⟩ = some (.slice xbB m2 m2) := bY_63.out.cell 1
    have u_68 : W62.cell? ⟨w.heap.size, 0, none⟩ = some (.slice A1 n1 c1) := bA_63.out.cell 0
    have u_69 : W62.cell? ⟨w.heap.size, 1, none⟩ = some (.slice A2 n2 c2) := bA_63.out.cell 1
    have u_70 : W62.cell? ⟨w.heap.size + 1, 0, none⟩ = some (.slice B1 m1 d1) := bB_63.out.cell 0
    have u_71 : W62.cell? ⟨w.heap.size + 1, 1, none⟩ = some (.slice B2 m2 d2) := bB_63.out.cell 1
    go_wp2_with fail
    clear u_64 u_65 u_66 u_67 u_68 u_69 u_70 u_71
    obtain ⟨V72, hV72⟩ : ∃ X, W62.drew = X := ⟨_, rfl⟩
    have hz_73 : W62.heap.size ≤ V72.heap.size := by rw [← hV72]; exact Nat.le_refl _
    have HB_73 := (show Below w.heap.size w V72 from by rw [← hV72]; exact HB_63.drew)
    have bA_73 := Lib.hid (show Blk V72 (w.heap.size) 49 #[.slice A1 n1 c1, .slice A2 n2 c2] from by rw [← hV72]; exact bA_63.out); clear bA_63
    have bB_73 := Lib.hid (show Blk V72 (w.heap.size + 1) 49 #[.slice B1 m1 d1, .slice B2 m2 d2] from by rw [← hV72]; exact bB_63.out); clear bB_63
    have bW_73 := Lib.hid (show Blk V72 (g) 53 #[.slice pA P.length pc, .slice pB Q.length pd] from by rw [← hV72]; exact bW_63.out); clear bW_63
    have p1_73 := Lib.hid (IsSeq.keep p1_63.out (w' := V72) AtomE.stays (fun _ _ _ => by rw [← hV72]; rfl) (Nat.le_refl _) (Nat.le_refl _)); clear p1_63
    have p2_73 := Lib.hid (IsSeq.keep p2_63.out (w' := V72) AtomE.stays (fun _ _ _ => by rw [← hV72]; rfl) (Nat.le_refl _) (Nat.le_refl _)); clear p2_63
    have x1_73 := Lib.hid (OwnRefs.keep x1_63.out (w' := V72) (fun _ _ _ => by rw [← hV72]; rfl) (Nat.le_refl _) (Nat.le_refl _)); clear x1_63
    have x2_73 := Lib.hid (OwnRefs.keep x2_63.out (w' := V72) (fun _ _ _ => by rw [← hV72]; rfl) (Nat.le_refl _) (Nat.le_refl _)); clear x2_63
    have bX_73 := Lib.hid (show Blk V72 (W21.heap.size) 53 #[.slice xaA n1 n1, .slice xaB n2 n2] from by rw [← hV72]; exact bX_63.out); clear bX_63
    have x3_73 := Lib.hid (OwnRefs.keep x3_63.out (w' := V72) (fun _ _ _ => by rw [← hV72]; rfl) (Nat.le_refl _) (Nat.le_refl _)); clear x3_63
    have x4_73 := Lib.hid (OwnRefs.keep x4_63.out (w' := V72) (fun _ _ _ => by rw [← hV72]; rfl) (Nat.le_refl _) (Nat.le_refl _)); clear x4_63
    have bY_73 := Lib.hid (show Blk V72 (W32.heap.size) 53 #[.slice xbA m1 m1, .slice xbB m2 m2] from by rw [← hV72]; exact bY_63.out); clear bY_63
    have g1_73 := Lib.hid (OwnRefs.keep g1_63.out (w' := V72) (fun _ _ _ => by rw [← hV72]; rfl) (Nat.le_refl _) (Nat.le_refl _)); clear g1_63
    have g2_73 := Lib.hid (OwnRefs.keep g2_63.out (w' := V72) (fun _ _ _ => by rw [← hV72]; rfl) (Nat.le_refl _) (Nat.le_refl _)); clear g2_63
    have bG_73 := Lib.hid (show Blk V72 (W47.heap.size) 53 #[.slice gA P.length gc, .slice gB Q.length gd] from by rw [← hV72]; exact bG_63.out); clear bG_63
    clear HB_63
    refine wp_region_held_drew (S := fun W => (W.cell? ⟨w.heap.size, 0, none⟩ = some (.slice A1 n1 c1) ∧ W.cell? ⟨w.heap.size, 1, none⟩ = some (.slice A2 n2 c2)) ∧ W.cell? ⟨W21.heap.size, 0, none⟩ = some (.slice xaA n1 n1) ∧ W.cell? ⟨W21.heap.size, 1, none⟩ = some (.slice xaB n2 n2)) (by kernel_rfl) (by rw [hV72]; exact ⟨⟨bA_73.out.cell 0, bA_73.out.cell 1⟩, bX_73.out.cell 0, bX_73.out.cell 1⟩) ?_
    rw [hV72]
    intro hS_
    refine takeV (i := 0) (v := .agg #[.slice xaA n1 n1, .slice xaB n2 n2]) (by (simp only [List.getElem?_toArray, List.getElem?_cons_zero]); rfl) (by kernel_rfl) (by kernel_rfl) (by kernel_rfl) (by rfl) (fun _ _ _ h => h) (Or.inl ⟨by rfl, ?_⟩) hS_ (by (simp only [List.setIfInBounds_toArray, List.set_cons_succ, List.set_cons_zero]); rfl) ?_
    · intro w_ hSw_; (try dsimp only at hSw_); go_simp
    refine takeV (i := 1) (v := .agg #[.slice A1 n1 c1, .slice A2 n2 c2]) (by (simp only [List.getElem?_toArray, List.getElem?_cons_succ, List.getElem?_cons_zero]); rfl) (by kernel_rfl) (by kernel_rfl) (by kernel_rfl) (by rfl) (fun _ _ _ h => h) (Or.inl ⟨by rfl, ?_⟩) hS_ (by (simp only [List.setIfInBounds_toArray, List.set_cons_succ, List.set_cons_zero]); rfl) ?_
    · intro w_ hSw_; (try dsimp only at hSw_); go_simp
    refine wpAnyH_ready (rs := [2]) (by kernel_rfl) (by simp) ?_
    refine AllReadyH.cons (o := _) (by (simp only [List.getElem?_toArray, List.getElem?_cons_succ, List.getElem?_cons_zero]); rfl) (fun K_ hK_ => ?_) AllReadyH.nil
    rw [if_pos (by rfl)]
    go_simp
    go_at_call 37
    refine (toChange_own A1 A2 n1 c1 n2 c2 ca ga _ (H1.out.up AtomE.stays HB_73) (H2.out.up AtomE.stays HB_73) HN.out).mono ?_; rintro e W74 ⟨zaA, zaB, zar, zaz, zamid, rfl, ⟨zao, zam⟩, ⟨zap, zan⟩, ⟨zas, zat⟩, hb_74⟩
    have zaM := Lib.hid zam; have zaN := Lib.hid zan; clear zam zan
    have hz_75 : V72.heap.size ≤ W74.heap.size := hb_74.size
    have HB_75 := belowThen HB_73 hb_74
    have bA_75 := Lib.hid (bA_73.out.below hb_74); clear bA_73
    have bB_75 := Lib.hid (bB_73.out.below hb_74); clear bB_73
    have bW_75 := Lib.hid (bW_73.out.below hb_74); clear bW_73
    have p1_75 := Lib.hid (p1_73.out.below AtomE.stays hb_74 (by omega)); clear p1_73
    have p2_75 := Lib.hid (p2_73.out.below AtomE.stays hb_74 (by omega)); clear p2_73
    have x1_75 := Lib.hid (x1_73.out.below hb_74 (by omega)); clear x1_73
    have x2_75 := Lib.hid (x2_73.out.below hb_74 (by omega)); clear x2_73
    have bX_75 := Lib.hid (bX_73.out.below hb_74); clear bX_73
    have x3_75 := Lib.hid (x3_73.out.below hb_74 (by omega)); clear x3_73
    have x4_75 := Lib.hid (x4_73.out.below hb_74 (by omega)); clear x4_73
    have bY_75 := Lib.hid (bY_73.out.below hb_74); clear bY_73
    have g1_75 := Lib.hid (g1_73.out.below hb_74 (by omega)); clear g1_73
    have g2_75 := Lib.hid (g2_73.out.below hb_74 (by omega)); clear g2_73
    have bG_75 := Lib.hid (bG_73.out.below hb_74); clear bG_73
    clear HB_73
    have y2_76 := Lib.hid (zao)
    have y3_77 := Lib.hid (zap)
    clear zao zap
    refine hK_.out _ _ ⟨⟨bA_75.out.cell 0, bA_75.out.cell 1⟩, bX_75.out.cell 0, bX_75.out.cell 1⟩ (fun hS2_ => ?_)
    clear hK_ hS_; have hS_ := hS2_; clear hS2_
    refine wpAnyH_ready (rs := [3]) (by kernel_rfl) (by simp) ?_
    refine AllReadyH.cons (o := _) (by (simp only [List.getElem?_toArray, List.getElem?_cons_succ, List.getElem?_cons_zero]); rfl) (fun K_ hK_ => ?_) AllReadyH.nil
    rw [if_pos (by rfl)]
    go_simp
    go_at_call 39
    have r_78 := (x1_75.out.atoms.keep AtomE.stays (lo' := 0) (hi' := W74.heap.size) (fun _ _ _ => rfl) (Nat.zero_le _) (by omega))
    rw [xaM.out] at r_78
    have r_79 := (x2_75.out.atoms.keep AtomE.stays (lo' := 0) (hi' := W74.heap.size) (fun _ _ _ => rfl) (Nat.zero_le _) (by omega))
    rw [xaN.out] at r_79
    have r_80 := (y2_76.out.atoms.keep AtomE.stays (lo' := 0) (hi' := W74.heap.size) (fun _ _ _ => rfl) (Nat.zero_le _) (by omega))
    rw [zaM.out] at r_80
    have r_81 := (y3_77.out.atoms.keep AtomE.stays (lo' := 0) (hi' := W74.heap.size) (fun _ _ _ => rfl) (Nat.zero_le _) (by omega))
    rw [zaN.out] at r_81
    refine (eqChange_any _ _ _ _ _ _ _ _ _ _ _ _ ca ga ca ga _ r_78 r_79 r_80 r_81).mono ?_; rintro e W82 ⟨rfl, hb_82⟩
    clear r_78 r_79 r_80 r_81
    have hz_83 : W74.heap.size ≤ W82.heap.size := hb_82.size
    have HB_83 := belowThen HB_75 hb_82
    have bA_83 := Lib.hid (bA_75.out.below hb_82); clear bA_75
    have bB_83 := Lib.hid (bB_75.out.below hb_82); clear bB_75
    have bW_83 := Lib.hid (bW_75.out.below hb_82); clear bW_75
    have p1_83 := Lib.hid (p1_75.out.below AtomE.stays hb_82 (by omega)); clear p1_75
    have p2_83 := Lib.hid (p2_75.out.below AtomE.stays hb_82 (by omega)); clear p2_75
    have x1_83 := Lib.hid (x1_75.out.below hb_82 (by omega)); clear x1_75
    have x2_83 := Lib.hid (x2_75.out.below hb_82 (by omega)); clear x2_75
    have bX_83 := Lib.hid (bX_75.out.below hb_82); clear bX_75
    have x3_83 := Lib.hid (x3_75.out.below hb_82 (by omega)); clear x3_75
    have x4_83 := Lib.hid (x4_75.out.below hb_82 (by omega)); clear x4_75
    have bY_83 := Lib.hid (bY_75.out.below hb_82); clear bY_75
    have g1_83 := Lib.hid (g1_75.out.below hb_82 (by omega)); clear g1_75
    have g2_83 := Lib.hid (g2_75.out.below hb_82 (by omega)); clear g2_75
    have bG_83 := Lib.hid (bG_75.out.below hb_82); clear bG_75
    have y2_83 := Lib.hid (y2_76.out.below hb_82 (by omega)); clear y2_76
    have y3_83 := Lib.hid (y3_77.out.below hb_82 (by omega)); clear y3_77
    clear HB_75
    rw [changeEq_refl]
    clear y2_83
    clear y3_83
    refine hK_.out _ _ ⟨⟨bA_83.out.cell 0, bA_83.out.cell 1⟩, bX_83.out.cell 0, bX_83.out.cell 1⟩ (fun hS2_ => ?_)
    clear hK_ hS_; have hS_ := hS2_; clear hS2_
    refine takeV (i := 4) (v := .bool false) (by (simp only [List.getElem?_toArray, List.getElem?_cons_succ, List.getElem?_cons_zero]); rfl) (by kernel_rfl) (by kernel_rfl) (by kernel_rfl) (by rfl) (fun _ _ _ h => h) (Or.inl ⟨by rfl, ?_⟩) hS_ (by (simp only [List.setIfInBounds_toArray, List.set_cons_succ, List.set_cons_zero]); rfl) ?_
    · intro w_ hSw_; (try dsimp only at hSw_); go_simp
    refine wpAnyH_done (by kernel_rfl) ?_ _
    clear hS_ hV72
    go_wp2_with fail
    obtain ⟨V84, hV84⟩ : ∃ X, W82.drew = X := ⟨_, rfl⟩
    have hz_85 : W82.heap.size ≤ V84.heap.size := by rw [← hV84]; exact Nat.le_refl _
    have HB_85 := (show Below w.heap.size w V84 from by rw [← hV84]; exact HB_83.drew)
    have bA_85 := Lib.hid (show Blk V84 (w.heap.size) 49 #[.slice A1 n1 c1, .slice A2 n2 c2] from by rw [← hV84]; exact bA_83.out); clear bA_83
    have bB_85 := Lib.hid (show Blk V84 (w.heap.size + 1) 49 #[.slice B1 m1 d1, .slice B2 m2 d2] from by rw [← hV84]; exact bB_83.out); clear bB_83
    have bW_85 := Lib.hid (show Blk V84 (g) 53 #[.slice pA P.length pc, .slice pB Q.length pd] from by rw [← hV84]; exact bW_83.out); clear bW_83
    have p1_85 := Lib.hid (IsSeq.keep p1_83.out (w' := V84) AtomE.stays (fun _ _ _ => by rw [← hV84]; rfl) (Nat.le_refl _) (Nat.le_refl _)); clear p1_83
    have p2_85 := Lib.hid (IsSeq.keep p2_83.out (w' := V84) AtomE.stays (fun _ _ _ => by rw [← hV84]; rfl) (Nat.le_refl _) (Nat.le_refl _)); clear p2_83
    have x1_85 := Lib.hid (OwnRefs.keep x1_83.out (w' := V84) (fun _ _ _ => by rw [← hV84]; rfl) (Nat.le_refl _) (Nat.le_refl _)); clear x1_83
    have x2_85 := Lib.hid (OwnRefs.keep x2_83.out (w' := V84) (fun _ _ _ => by rw [← hV84]; rfl) (Nat.le_refl _) (Nat.le_refl _)); clear x2_83
    have bX_85 := Lib.hid (show Blk V84 (W21.heap.size) 53 #[.slice xaA n1 n1, .slice xaB n2 n2] from by rw [← hV84]; exact bX_83.out); clear bX_83
    have x3_85 := Lib.hid (OwnRefs.keep x3_83.out (w' := V84) (fun _ _ _ => by rw [← hV84]; rfl) (Nat.le_refl _) (Nat.le_refl _)); clear x3_83
    have x4_85 := Lib.hid (OwnRefs.keep x4_83.out (w' := V84) (fun _ _ _ => by rw [← hV84]; rfl) (Nat.le_refl _) (Nat.le_refl _)); clear x4_83
    have bY_85 := Lib.hid (show Blk V84 (W32.heap.size) 53 #[.slice xbA m1 m1, .slice xbB m2 m2] from by rw [← hV84]; exact bY_83.out); clear bY_83
    have g1_85 := Lib.hid (OwnRefs.keep g1_83.out (w' := V84) (fun _ _ _ => by rw [← hV84]; rfl) (Nat.le_refl _) (Nat.le_refl _)); clear g1_83
    have g2_85 := Lib.hid (OwnRefs.keep g2_83.out (w' := V84) (fun _ _ _ => by rw [← hV84]; rfl) (Nat.le_refl _) (Nat.le_refl _)); clear g2_83
    have bG_85 := Lib.hid (show Blk V84 (W47.heap.size) 53 #[.slice gA P.length gc, .slice gB Q.length gd] from by rw [← hV84]; exact bG_83.out); clear bG_83
    clear HB_83
    refine wp_region_held_drew (S := fun W => (W.cell? ⟨w.heap.size + 1, 0, none⟩ = some (.slice B1 m1 d1) ∧ W.cell? ⟨w.heap.size + 1, 1, none⟩ = some (.slice B2 m2 d2)) ∧ W.cell? ⟨W32.heap.size, 0, none⟩ = some (.slice xbA m1 m1) ∧ W.cell? ⟨W32.heap.size, 1, none⟩ = some (.slice xbB m2 m2)) (by kernel_rfl) (by rw [hV84]; exact ⟨⟨bB_85.out.cell 0, bB_85.out.cell 1⟩, bY_85.out.cell 0, bY_85.out.cell 1⟩) ?_
    rw [hV84]
    intro hS_
    refine takeV (i := 0) (v := .agg #[.slice xbA m1 m1, .slice xbB m2 m2]) (by (simp only [List.getElem?_toArray, List.getElem?_cons_zero]); rfl) (by kernel_rfl) (by kernel_rfl) (by kernel_rfl) (by rfl) (fun _ _ _ h => h) (Or.inl ⟨by rfl, ?_⟩) hS_ (by (simp only [List.setIfInBounds_toArray, List.set_cons_succ, List.set_cons_zero]); rfl) ?_
    · intro w_ hSw_; (try dsimp only at hSw_); go_simp
    refine takeV (i := 1) (v := .agg #[.slice B1 m1 d1, .slice B2 m2 d2]) (by (simp only [List.getElem?_toArray, List.getElem?_cons_succ, List.getElem?_cons_zero]); rfl) (by kernel_rfl) (by kernel_rfl) (by kernel_rfl) (by rfl) (fun _ _ _ h => h) (Or.inl ⟨by rfl, ?_⟩) hS_ (by (simp only [List.setIfInBounds_toArray, List.set_cons_succ, List.set_cons_zero]); rfl) ?_
    · intro w_ hSw_; (try dsimp only at hSw_); go_simp
    refine wpAnyH_ready (rs := [2]) (by kernel_rfl) (by simp) ?_
    refine AllReadyH.cons (o := _) (by (simp only [List.getElem?_toArray, List.getElem?_cons_succ, List.getElem?_cons_zero]); rfl) (fun K_ hK_ => ?_) AllReadyH.nil
    rw [if_pos (by rfl)]
    go_simp
    go_at_call 37
    refine (toChange_own B1 B2 m1 d1 m2 d2 cb gb _ (H3.out.up AtomE.stays HB_85) (H4.out.up AtomE.stays HB_85) HN'.out).mono ?_; rintro e W86 ⟨zbA, zbB, zbr, zbz, zbmid, rfl, ⟨zbo, zbm⟩, ⟨zbp, zbn⟩, ⟨zbs, zbt⟩, hb_86⟩
    have zbM := Lib.hid zbm; have zbN := Lib.hid zbn; clear zbm zbn
    have hz_87 : V84.heap.size ≤ W86.heap.size := hb_86.size
    have HB_87 := belowThen HB_85 hb_86
    have bA_87 := Lib.hid (bA_85.out.below hb_86); clear bA_85
    have bB_87 := Lib.hid (bB_85.out.below hb_86); clear bB_85
    have bW_87 := Lib.hid (bW_85.out.below hb_86); clear bW_85
    have p1_87 := Lib.hid (p1_85.out.below AtomE.stays hb_86 (by omega)); clear p1_85
    have p2_87 := Lib.hid (p2_85.out.below AtomE.stays hb_86 (by omega)); clear p2_85
    have x1_87 := Lib.hid (x1_85.out.below hb_86 (by omega)); clear x1_85
    have x2_87 := Lib.hid (x2_85.out.below hb_86 (by omega)); clear x2_85
    have bX_87 := Lib.hid (bX_85.out.below hb_86); clear bX_85
    have x3_87 := Lib.hid (x3_85.out.below hb_86 (by omega)); clear x3_85
    have x4_87 := Lib.hid (x4_85.out.below hb_86 (by omega)); clear x4_85
    have bY_87 := Lib.hid (bY_85.out.below hb_86); clear bY_85
    have g1_87 := Lib.hid (g1_85.out.below hb_86 (by omega)); clear g1_85
    have g2_87 := Lib.hid (g2_85.out.below hb_86 (by omega)); clear g2_85
    have bG_87 := Lib.hid (bG_85.out.below hb_86); clear bG_85
    clear HB_85
    have y2_88 := Lib.hid (zbo)
    have y3_89 := Lib.hid (zbp)
    clear zbo zbp
    refine hK_.out _ _ ⟨⟨bB_87.out.cell 0, bB_87.out.cell 1⟩, bY_87.out.cell 0, bY_87.out.cell 1⟩ (fun hS2_ => ?_)
    clear hK_ hS_; have hS_ := hS2_; clear hS2_
    refine wpAnyH_ready (rs := [3]) (by kernel_rfl) (by simp) ?_
    refine AllReadyH.cons (o := _) (by (simp only [List.getElem?_toArray, List.getElem?_cons_succ, List.getElem?_cons_zero]); rfl) (fun K_ hK_ => ?_) AllReadyH.nil
    rw [if_pos (by rfl)]
    go_simp
    go_at_call 39
    have r_90 := (x3_87.out.atoms.keep AtomE.stays (lo' := 0) (hi' := W86.heap.size) (fun _ _ _ => rfl) (Nat.zero_le _) (by omega))
    rw [xbM.out] at r_90
    have r_91 := (x4_87.out.atoms.keep AtomE.stays (lo' := 0) (hi' := W86.heap.size) (fun _ _ _ => rfl) (Nat.zero_le _) (by omega))
    rw [xbN.out] at r_91
    have r_92 := (y2_88.out.atoms.keep AtomE.stays (lo' := 0) (hi' := W86.heap.size) (fun _ _ _ => rfl) (Nat.zero_le _) (by omega))
    rw [zbM.out] at r_92
    have r_93 := (y3_89.out.atoms.keep AtomE.stays (lo' := 0) (hi' := W86.heap.size) (fun _ _ _ => rfl) (Nat.zero_le _) (by omega))
    rw [zbN.out] at r_93
    refine (eqChange_any _ _ _ _ _ _ _ _ _ _ _ _ cb gb cb gb _ r_90 r_91 r_92 r_93).mono ?_; rintro e W94 ⟨rfl, hb_94⟩
    clear r_90 r_91 r_92 r_93
    have hz_95 : W86.heap.size ≤ W94.heap.size := hb_94.size
    have HB_95 := belowThen HB_87 hb_94
    have bA_95 := Lib.hid (bA_87.out.below hb_94); clear bA_87
    have bB_95 := Lib.hid (bB_87.out.below hb_94); clear bB_87
    have bW_95 := Lib.hid (bW_87.out.below hb_94); clear bW_87
    have p1_95 := Lib.hid (p1_87.out.below AtomE.stays hb_94 (by omega)); clear p1_87
    have p2_95 := Lib.hid (p2_87.out.below AtomE.stays hb_94 (by omega)); clear p2_87
    have x1_95 := Lib.hid (x1_87.out.below hb_94 (by omega)); clear x1_87
    have x2_95 := Lib.hid (x2_87.out.below hb_94 (by omega)); clear x2_87
    have bX_95 := Lib.hid (bX_87.out.below hb_94); clear bX_87
    have x3_95 := Lib.hid (x3_87.out.below hb_94 (by omega)); clear x3_87
    have x4_95 := Lib.hid (x4_87.out.below hb_94 (by omega)); clear x4_87
    have bY_95 := Lib.hid (bY_87.out.below hb_94); clear bY_87
    have g1_95 := Lib.hid (g1_87.out.below hb_94 (by omega)); clear g1_87
    have g2_95 := Lib.hid (g2_87.out.below hb_94 (by omega)); clear g2_87
    have bG_95 := Lib.hid (bG_87.out.below hb_94); clear bG_87
    have y2_95 := Lib.hid (y2_88.out.below hb_94 (by omega)); clear y2_88
    have y3_95 := Lib.hid (y3_89.out.below hb_94 (by omega)); clear y3_89
    clear HB_87
    rw [changeEq_refl]
    clear y2_95
    clear y3_95
    refine hK_.out _ _ ⟨⟨bB_95.out.cell 0, bB_95.out.cell 1⟩, bY_95.out.cell 0, bY_95.out.cell 1⟩ (fun hS2_ => ?_)
    clear hK_ hS_; have hS_ := hS2_; clear hS2_
    refine takeV (i := 4) (v := .bool false) (by (simp only [List.getElem?_toArray, List.getElem?_cons_succ, List.getElem?_cons_zero]); rfl) (by kernel_rfl) (by kernel_rfl) (by kernel_rfl) (by rfl) (fun _ _ _ h => h) (Or.inl ⟨by rfl, ?_⟩) hS_ (by (simp only [List.setIfInBounds_toArray, List.set_cons_succ, List.set_cons_zero]); rfl) ?_
    · intro w_ hSw_; (try dsimp only at hSw_); go_simp
    refine wpAnyH_done (by kernel_rfl) ?_ _
    clear hS_ hV84
    have hk1 : markN 1 xar ≤ 1 + 2 ^ 42 := markN_more x1_95.out.refs xaM.out HN.out.1
    have hk2 : markN (markN 1 xar) xaz ≤ markN 1 xar + 2 ^ 42 := markN_more x2_95.out.refs xaN.out HN.out.2
    have u_96 : W94.cell? ⟨W21.heap.size, 0, none⟩ = some (.slice xaA n1 n1) := bX_95.out.cell 0
    have u_97 : W94.cell? ⟨W21.heap.size, 1, none⟩ = some (.slice xaB n2 n2) := bX_95.out.cell 1
    go_wp2_with fail
    refine (markChange_any (WK1.heap.size) xamid (W21.heap.size) xaA xaB n1 n1 n2 n2 1 xar xaz _ x1_95.out x2_95.out (by omega) (by omega) (by omega) (by omega) (by omega)).mono ?_; rintro e W98 ⟨rfl, -, -, hb_98⟩
    clear u_96 u_97
    clear x1_95
    clear x2_95
    have hz_99 : W94.heap.size ≤ W98.heap.size := hb_98.size
    have HB_99 := HB_95.trans (hb_98.low (B := w.heap.size) (by omega) (by omega))
    have bA_99 := Lib.hid (bA_95.out.within hb_98 (by omega)); clear bA_95
    have bB_99 := Lib.hid (bB_95.out.within hb_98 (by omega)); clear bB_95
    have bW_99 := Lib.hid (bW_95.out.within hb_98 (by omega)); clear bW_95
    have p1_99 := Lib.hid (p1_95.out.keep AtomE.stays (fun q h1 h2 => World.cell?_of_block (hb_98.block q.block (by omega) (by omega))) (Nat.le_refl _) (Nat.le_refl _)); clear p1_95
    have p2_99 := Lib.hid (p2_95.out.keep AtomE.stays (fun q h1 h2 => World.cell?_of_block (hb_98.block q.block (by omega) (by omega))) (Nat.le_refl _) (Nat.le_refl _)); clear p2_95
    have bX_99 := Lib.hid (bX_95.out.within hb_98 (by omega)); clear bX_95
    have x3_99 := Lib.hid (x3_95.out.keep (fun b h1 h2 => hb_98.block b (by omega) (by omega)) (Nat.le_refl _) (Nat.le_refl _)); clear x3_95
    have x4_99 := Lib.hid (x4_95.out.keep (fun b h1 h2 => hb_98.block b (by omega) (by omega)) (Nat.le_refl _) (Nat.le_refl _)); clear x4_95
    have bY_99 := Lib.hid (bY_95.out.within hb_98 (by omega)); clear bY_95
    have g1_99 := Lib.hid (g1_95.out.keep (fun b h1 h2 => hb_98.block b (by omega) (by omega)) (Nat.le_refl _) (Nat.le_refl _)); clear g1_95
    have g2_99 := Lib.hid (g2_95.out.keep (fun b h1 h2 => hb_98.block b (by omega) (by omega)) (Nat.le_refl _) (Nat.le_refl _)); clear g2_95
    have bG_99 := Lib.hid (bG_95.out.within hb_98 (by omega)); clear bG_95
    clear HB_95
    have kxab : markN (markN 1 xar) xaz ≤ 1 + 2 ^ 43 := by omega
    obtain ⟨kxa, ekxa⟩ : ∃ z, markN (markN 1 xar) xaz = z := ⟨_, rfl⟩; rw [ekxa] at kxab ⊢; clear hk1 hk2 ekxa
    have hk1 : markN kxa xbr ≤ kxa + 2 ^ 42 := markN_more x3_99.out.refs xbM.out HN'.out.1
    have hk2 : markN (markN kxa xbr) xbz ≤ markN kxa xbr + 2 ^ 42 := markN_more x4_99.out.refs xbN.out HN'.out.2
    have u_100 : W98.cell? ⟨W32.heap.size, 0, none⟩ = some (.slice xbA m1 m1) := bY_99.out.cell 0
    have u_101 : W98.cell? ⟨W32.heap.size, 1, none⟩ = some (.slice xbB m2 m2) := bY_99.out.cell 1
    go_wp2_with fail
    refine (markChange_any (W25.heap.size) xbmid (W32.heap.size) xbA xbB m1 m1 m2 m2 kxa xbr xbz _ x3_99.out x4_99.out (by omega) (by omega) (by omega) (by omega) (by omega)).mono ?_; rintro e W102 ⟨rfl, -, -, hb_102⟩
    clear u_100 u_101
    clear x3_99
    clear x4_99
    have hz_103 : W98.heap.size ≤ W102.heap.size := hb_102.size
    have HB_103 := HB_99.trans (hb_102.low (B := w.heap.size) (by omega) (by omega))
    have bA_103 := Lib.hid (bA_99.out.within hb_102 (by omega)); clear bA_99
    have bB_103 := Lib.hid (bB_99.out.within hb_102 (by omega)); clear bB_99
    have bW_103 := Lib.hid (bW_99.out.within hb_102 (by omega)); clear bW_99
    have p1_103 := Lib.hid (p1_99.out.keep AtomE.stays (fun q h1 h2 => World.cell?_of_block (hb_102.block q.block (by omega) (by omega))) (Nat.le_refl _) (Nat.le_refl _)); clear p1_99
    have p2_103 := Lib.hid (p2_99.out.keep AtomE.stays (fun q h1 h2 => World.cell?_of_block (hb_102.block q.block (by omega) (by omega))) (Nat.le_refl _) (Nat.le_refl _)); clear p2_99
    have bX_103 := Lib.hid (bX_99.out.within hb_102 (by omega)); clear bX_99
    have bY_103 := Lib.hid (bY_99.out.within hb_102 (by omega)); clear bY_99
    have g1_103 := Lib.hid (g1_99.out.keep (fun b h1 h2 => hb_102.block b (by omega) (by omega)) (Nat.le_refl _) (Nat.le_refl _)); clear g1_99
    have g2_103 := Lib.hid (g2_99.out.keep (fun b h1 h2 => hb_102.block b (by omega) (by omega)) (Nat.le_refl _) (Nat.le_refl _)); clear g2_99
    have bG_103 := Lib.hid (bG_99.out.within hb_102 (by omega)); clear bG_99
    clear HB_99
    have kxbb : markN (markN kxa xbr) xbz ≤ kxa + 2 ^ 43 := by omega
    obtain ⟨kxb, ekxb⟩ : ∃ z, markN (markN kxa xbr) xbz = z := ⟨_, rfl⟩; rw [ekxb] at kxbb ⊢; clear hk1 hk2 ekxb
    have hk4 : ¬ (((kxb : Nat) : Int) < 0) := by omega
    have u_104 : W102.cell? ⟨W47.heap.size, 0, none⟩ = some (.slice gA P.length gc) := bG_103.out.cell 0
    have u_105 : W102.cell? ⟨W47.heap.size, 1, none⟩ = some (.slice gB Q.length gd) := bG_103.out.cell 1
    have u_106 : W102.cell? ⟨g, 0, none⟩ = some (.slice pA P.length pc) := bW_103.out.cell 0
    have u_107 : W102.cell? ⟨g, 1, none⟩ = some (.slice pB Q.length pd) := bW_103.out.cell 1
    go_wp2_with fail
    have r_108 := (g1_103.out.atoms.keep AtomE.stays (lo' := 0) (hi' := W102.heap.size) (fun _ _ _ => rfl) (Nat.zero_le _) (by omega))
    rw [gM.out] at r_108
    have r_109 := (g2_103.out.atoms.keep AtomE.stays (lo' := 0) (hi' := W102.heap.size) (fun _ _ _ => rfl) (Nat.zero_le _) (by omega))
    rw [gN.out] at r_109
    have r_110 := (p1_103.out.keep AtomE.stays (lo' := 0) (hi' := W102.heap.size) (fun _ _ _ => rfl) (Nat.zero_le _) (by omega))
    have r_111 := (p2_103.out.keep AtomE.stays (lo' := 0) (hi' := W102.heap.size) (fun _ _ _ => rfl) (Nat.zero_le _) (by omega))
    refine (eqChange_any _ _ _ _ _ _ _ _ _ _ _ _ P Q P Q _ r_108 r_109 r_110 r_111).mono ?_; rintro e W112 ⟨rfl, hb_112⟩
    clear u_104 u_105 u_106 u_107 r_108 r_109 r_110 r_111
    have hz_113 : W102.heap.size ≤ W112.heap.size := hb_112.size
    have HB_113 := belowThen HB_103 hb_112
    have bA_113 := Lib.hid (bA_103.out.below hb_112); clear bA_103
    have bB_113 := Lib.hid (bB_103.out.below hb_112); clear bB_103
    have bW_113 := Lib.hid (bW_103.out.below hb_112); clear bW_103
    have p1_113 := Lib.hid (p1_103.out.below AtomE.stays hb_112 (by omega)); clear p1_103
    have p2_113 := Lib.hid (p2_103.out.below AtomE.stays hb_112 (by omega)); clear p2_103
    have bX_113 := Lib.hid (bX_103.out.below hb_112); clear bX_103
    have bY_113 := Lib.hid (bY_103.out.below hb_112); clear bY_103
    have g1_113 := Lib.hid (g1_103.out.below hb_112 (by omega)); clear g1_103
    have g2_113 := Lib.hid (g2_103.out.below hb_112 (by omega)); clear g2_103
    have bG_113 := Lib.hid (bG_103.out.below hb_112); clear bG_103
    clear HB_103
    rw [changeEq_refl]
    clear hk4
    have hg1 : markN 1 gr ≤ 2 ^ 50 := by have := markN_tiny g1_113.out.refs gM.out SMP.out.1; omega
    have hg2 : markN (markN 1 gr) gz ≤ 2 ^ 50 := by have := markN_tiny g1_113.out.refs gM.out SMP.out.1; have := markN_more (k := markN 1 gr) g2_113.out.refs gN.out SMP.out.2; omega
    have u_114 : W112.cell? ⟨W47.heap.size, 0, none⟩ = some (.slice gA P.length gc) := bG_113.out.cell 0
    have u_115 : W112.cell? ⟨W47.heap.size, 1, none⟩ = some (.slice gB Q.length gd) := bG_113.out.cell 1
    go_wp2_with fail
    refine (markChange_any (W36.heap.size) gmid (W47.heap.size) gA gB P.length gc Q.length gd 1 gr gz _ g1_113.out g2_113.out (by omega) (by omega) (by omega) hg1 hg2).mono ?_; rintro e W116 ⟨rfl, go1, gp1, hb_116⟩
    clear u_114 u_115
    clear g1_113
    clear g2_113
    have hz_117 : W112.heap.size ≤ W116.heap.size := hb_116.size
    have HB_117 := HB_113.trans (hb_116.low (B := w.heap.size) (by omega) (by omega))
    have bA_117 := Lib.hid (bA_113.out.within hb_116 (by omega)); clear bA_113
    have bB_117 := Lib.hid (bB_113.out.within hb_116 (by omega)); clear bB_113
    have bW_117 := Lib.hid (bW_113.out.within hb_116 (by omega)); clear bW_113
    have p1_117 := Lib.hid (p1_113.out.keep AtomE.stays (fun q h1 h2 => World.cell?_of_block (hb_116.block q.block (by omega) (by omega))) (Nat.le_refl _) (Nat.le_refl _)); clear p1_113
    have p2_117 := Lib.hid (p2_113.out.keep AtomE.stays (fun q h1 h2 => World.cell?_of_block (hb_116.block q.block (by omega) (by omega))) (Nat.le_refl _) (Nat.le_refl _)); clear p2_113
    have bX_117 := Lib.hid (bX_113.out.within hb_116 (by omega)); clear bX_113
    have bY_117 := Lib.hid (bY_113.out.within hb_116 (by omega)); clear bY_113
    have bG_117 := Lib.hid (bG_113.out.within hb_116 (by omega)); clear bG_113
    clear HB_113
    have g1_118 := Lib.hid (go1)
    have g2_119 := Lib.hid (gp1)
    clear go1 gp1
    obtain ⟨mk, hmk⟩ : ∃ z, markN (markN 1 gr) gz = z := ⟨_, rfl⟩; have HMK := Lib.hid hmk; clear hmk; rw [HMK.out]
    have hm0 : ¬ (((mk : Nat) : Int) < 0) := by omega
    have hm1 : (((mk : Nat) : Int) != ((mk : Nat) : Int)) = false := hne _
    have u_120 : W116.cell? ⟨W47.heap.size, 0, none⟩ = some (.slice gA P.length gc) := bG_117.out.cell 0
    have u_121 : W116.cell? ⟨W47.heap.size, 1, none⟩ = some (.slice gB Q.length gd) := bG_117.out.cell 1
    go_wp2_with fail
    have r_122 := IsSeq.keep g1_118.out.refs RefE.stays (lo' := 0) (hi' := W116.heap.size) (fun _ _ _ => rfl) (Nat.zero_le _) (by omega)
    have r_123 := IsSeq.keep g2_119.out.refs RefE.stays (lo' := 0) (hi' := W116.heap.size) (fun _ _ _ => rfl) (Nat.zero_le _) (by omega)
    refine (heldChange_any gA gB P.length gc Q.length gd 1 gr gz _ r_122 r_123 hg1 hg2).mono ?_; rintro e W124 ⟨rfl, hb_124⟩
    clear u_120 u_121 r_122 r_123
    have hz_125 : W116.heap.size ≤ W124.heap.size := hb_124.size
    have HB_125 := belowThen HB_117 hb_124
    have bA_125 := Lib.hid (bA_117.out.below hb_124); clear bA_117
    have bB_125 := Lib.hid (bB_117.out.below hb_124); clear bB_117
    have bW_125 := Lib.hid (bW_117.out.below hb_124); clear bW_117
    have p1_125 := Lib.hid (p1_117.out.below AtomE.stays hb_124 (by omega)); clear p1_117
    have p2_125 := Lib.hid (p2_117.out.below AtomE.stays hb_124 (by omega)); clear p2_117
    have bX_125 := Lib.hid (bX_117.out.below hb_124); clear bX_117
    have bY_125 := Lib.hid (bY_117.out.below hb_124); clear bY_117
    have bG_125 := Lib.hid (bG_117.out.below hb_124); clear bG_117
    have g1_125 := Lib.hid (g1_118.out.below hb_124 (by omega)); clear g1_118
    have g2_125 := Lib.hid (g2_119.out.below hb_124 (by omega)); clear g2_119
    clear HB_117
    rw [HMK.out]
    have u_126 : W124.cell? ⟨w.heap.size, 0, none⟩ = some (.slice A1 n1 c1) := bA_125.out.cell 0
    have u_127 : W124.cell? ⟨w.heap.size, 1, none⟩ = some (.slice A2 n2 c2) := bA_125.out.cell 1
    have u_128 : W124.cell? ⟨w.heap.size + 1, 0, none⟩ = some (.slice B1 m1 d1) := bB_125.out.cell 0
    have u_129 : W124.cell? ⟨w.heap.size + 1, 1, none⟩ = some (.slice B2 m2 d2) := bB_125.out.cell 1
    go_wp2_with fail
    clear u_126 u_127 u_128 u_129
    rename_i hh2 hh3 K2 a2
    have RESTK2 : ∀ (g_2 : Nat) (xA_2 xB_2 yA_2 yB_2 pA_2 pB_2 : Option Addr) (pc_2 pd_2 : Nat) (W : World), Below W124.heap.size W124 W → g_2 < W.heap.size → Blk W g_2 53 #[.slice pA_2 P.length pc_2, .slice pB_2 Q.length pd_2] → IsAtoms W 0 W.heap.size pA_2 P.length pc_2 P → IsAtoms W 0 W.heap.size pB_2 Q.length pd_2 Q → K2 { tmps := #[.agg #[.slice A1 n1 c1, .slice A2 n2 c2], .agg #[.slice B1 m1 d1, .slice B2 m2 d2], .pointer (some ⟨w.heap.size, 0, none⟩), .pointer (some ⟨w.heap.size + 1, 0, none⟩), .bool false, .int .i64 y', .pointer (some ⟨g, 0, none⟩), .bool q, .pointer (some ⟨W21.heap.size, 0, none⟩), .pointer (some ⟨W32.heap.size, 0, none⟩), .pointer (some ⟨W47.heap.size, 0, none⟩), .bool q, .int .i64 (kxb : Int), .int .i64 (mk : Int), .int .i64 (mk : Int), .pointer (some ⟨g_2, 0, none⟩), .bool q, .agg #[.slice A1 n1 c1, .slice A2 n2 c2], .int .i64 1048576, .int .i64 y, .int .i64 y, .bool (decide (y < 0)), .agg #[.slice B1 m1 d1, .slice B2 m2 d2], .int .i64 y, .int .i64 y', .int .i64 y', .bool (decide (y' < 0)), .tuple #[.agg #[.slice pA P.length pc, .slice pB Q.length pd], .bool q], .agg #[.slice A1 n1 c1, .slice A2 n2 c2], .agg #[.slice xA n1 n1, .slice xB n2 n2], .agg #[.slice B1 m1 d1, .slice B2 m2 d2], .agg #[.slice yA m1 m1, .slice yB m2 m2], .tuple #[.agg #[.slice pA P.length pc, .slice pB Q.length pd], .bool q], .agg #[.slice pA P.length pc, .slice pB Q.length pd], .bool q, .agg #[.slice A1 n1 c1, .slice A2 n2 c2], .agg #[.slice xaA n1 n1, .slice xaB n2 n2], .agg #[.slice B1 m1 d1, .slice B2 m2 d2], .agg #[.slice xbA m1 m1, .slice xbB m2 m2], .tuple #[.agg #[.slice gA P.length gc, .slice gB Q.length gd], .bool q], .agg #[.slice xaA n1 n1, .slice xaB n2 n2], .agg #[.slice xbA m1 m1, .slice xbB m2 m2], .tuple #[.agg #[.slice gA P.length gc, .slice gB Q.length gd], .bool q], .agg #[.slice gA P.length gc, .slice gB Q.length gd], .bool q, .agg #[.slice gA P.length gc, .slice gB Q.length gd], .agg #[.slice pA P.length pc, .slice pB Q.length pd], .bool true, .bool false, .bool false, .bool q, .bool q, .bool false, .bool false, .agg #[.slice xaA n1 n1, .slice xaB n2 n2], .agg #[.slice A1 n1 c1, .slice A2 n2 c2], .agg #[.slice zaA n1 n1, .slice zaB n2 n2], .bool true, .bool false, .agg #[.slice xbA m1 m1, .slice xbB m2 m2], .agg #[.slice B1 m1 d1, .slice B2 m2 d2], .agg #[.slice zbA m1 m1, .slice zbB m2 m2], .bool true, .bool false, .agg #[.slice xaA n1 n1, .slice xaB n2 n2], .int .i64 1, .int .i64 (kxa : Int), .agg #[.slice xbA m1 m1, .slice xbB m2 m2], .int .i64 (kxa : Int), .int .i64 (kxb : Int), .int .i64 (kxb : Int), .bool false, .bool false, .agg #[.slice gA P.length gc, .slice gB Q.length gd], .agg #[.slice pA P.length pc, .slice pB Q.length pd], .bool true, .bool false, .bool false, .bool false, .bool q, .bool q, .bool false, .bool false, .agg #[.slice gA P.length gc, .slice gB Q.length gd], .int .i64 1, .int .i64 (mk : Int), .agg #[.slice gA P.length gc, .slice gB Q.length gd], .int .i64 1, .int .i64 (mk : Int), .int .i64 (mk : Int), .bool false, .int .i64 (mk : Int), .int .i64 (mk : Int), .bool false, .tuple #[.agg #[.slice pA_2 P.length pc_2, .slice pB_2 Q.length pd_2], .bool q], .agg #[.slice A1 n1 c1, .slice A2 n2 c2], .agg #[.slice xA_2 n1 n1, .slice xB_2 n2 n2], .agg #[.slice B1 m1 d1, .slice B2 m2 d2], .agg #[.slice yA_2 m1 m1, .slice yB_2 m2 m2], .tuple #[.agg #[.slice pA_2 P.length pc_2, .slice pB_2 Q.length pd_2], .bool q], .agg #[.slice pA_2 P.length pc_2, .slice pB_2 Q.length pd_2], .bool q, undef, undef, undef, undef, undef, undef, undef, undef, undef, undef, undef, undef, undef, undef, undef, undef, undef], defers := [] } W := by
      intro g_2 xA_2 xB_2 yA_2 yB_2 pA_2 pB_2 pc_2 pd_2 WK2 hlow hgw hbl hq1 hq2
      refine a2 _ _ ?_
      clear a2 K2
      have hz_130 : W124.heap.size ≤ WK2.heap.size := hlow.size
      have HB_130 := belowThen HB_125 hlow
      have bA_130 := Lib.hid (bA_125.out.below hlow); clear bA_125
      have bB_130 := Lib.hid (bB_125.out.below hlow); clear bB_125
      have bW_130 := Lib.hid (bW_125.out.below hlow); clear bW_125
      have p1_130 := Lib.hid (p1_125.out.below AtomE.stays hlow (by omega)); clear p1_125
      have p2_130 := Lib.hid (p2_125.out.below AtomE.stays hlow (by omega)); clear p2_125
      have bX_130 := Lib.hid (bX_125.out.below hlow); clear bX_125
      have bY_130 := Lib.hid (bY_125.out.below hlow); clear bY_125
      have bG_130 := Lib.hid (bG_125.out.below hlow); clear bG_125
      have g1_130 := Lib.hid (g1_125.out.below hlow (by omega)); clear g1_125
      have g2_130 := Lib.hid (g2_125.out.below hlow (by omega)); clear g2_125
      clear HB_125
      have bH_131 := Lib.hid (hbl)
      have h1_132 := Lib.hid (hq1)
      have h2_133 := Lib.hid (hq2)
      clear hq1 hq2 hbl
      have u_134 : WK2.cell? ⟨g_2, 0, none⟩ = some (.slice pA_2 P.length pc_2) := bH_131.out.cell 0
      have u_135 : WK2.cell? ⟨g_2, 1, none⟩ = some (.slice pB_2 Q.length pd_2) := bH_131.out.cell 1
      have u_136 : WK2.cell? ⟨g, 0, none⟩ = some (.slice pA P.length pc) := bW_130.out.cell 0
      have u_137 : WK2.cell? ⟨g, 1, none⟩ = some (.slice pB Q.length pd) := bW_130.out.cell 1
      go_wp2_with fail
      have r_138 := (h1_132.out.keep AtomE.stays (lo' := 0) (hi' := WK2.heap.size) (fun _ _ _ => rfl) (Nat.zero_le _) (by omega))
      have r_139 := (h2_133.out.keep AtomE.stays (lo' := 0) (hi' := WK2.heap.size) (fun _ _ _ => rfl) (Nat.zero_le _) (by omega))
      have r_140 := (p1_130.out.keep AtomE.stays (lo' := 0) (hi' := WK2.heap.size) (fun _ _ _ => rfl) (Nat.zero_le _) (by omega))
      have r_141 := (p2_130.out.keep AtomE.stays (lo' := 0) (hi' := WK2.heap.size) (fun _ _ _ => rfl) (Nat.zero_le _) (by omega))
      refine (eqChange_any _ _ _ _ _ _ _ _ _ _ _ _ P Q P Q _ r_138 r_139 r_140 r_141).mono ?_; rintro e W142 ⟨rfl, hb_142⟩
      clear u_134 u_135 u_136 u_137 r_138 r_139 r_140 r_141
      have hz_143 : WK2.heap.size ≤ W142.heap.size := hb_142.size
      have HB_143 := belowThen HB_130 hb_142
      have bA_143 := Lib.hid (bA_130.out.below hb_142); clear bA_130
      have bB_143 := Lib.hid (bB_130.out.below hb_142); clear bB_130
      have bW_143 := Lib.hid (bW_130.out.below hb_142); clear bW_130
      have p1_143 := Lib.hid (p1_130.out.below AtomE.stays hb_142 (by omega)); clear p1_130
      have p2_143 := Lib.hid (p2_130.out.below AtomE.stays hb_142 (by omega)); clear p2_130
      have bX_143 := Lib.hid (bX_130.out.below hb_142); clear bX_130
      have bY_143 := Lib.hid (bY_130.out.below hb_142); clear bY_130
      have bG_143 := Lib.hid (bG_130.out.below hb_142); clear bG_130
      have g1_143 := Lib.hid (g1_130.out.below hb_142 (by omega)); clear g1_130
      have g2_143 := Lib.hid (g2_130.out.below hb_142 (by omega)); clear g2_130
      have bH_143 := Lib.hid (bH_131.out.below hb_142); clear bH_131
      have h1_143 := Lib.hid (h1_132.out.below AtomE.stays hb_142 (by omega)); clear h1_132
      have h2_143 := Lib.hid (h2_133.out.below AtomE.stays hb_142 (by omega)); clear h2_133
      clear HB_130
      rw [changeEq_refl]
      have u_144 : W142.cell? ⟨W47.heap.size, 0, none⟩ = some (.slice gA P.length gc) := bG_143.out.cell 0
      have u_145 : W142.cell? ⟨W47.heap.size, 1, none⟩ = some (.slice gB Q.length gd) := bG_143.out.cell 1
      go_wp2_with fail
      have r_146 := IsSeq.keep g1_143.out.refs RefE.stays (lo' := 0) (hi' := W142.heap.size) (fun _ _ _ => rfl) (Nat.zero_le _) (by omega)
      have r_147 := IsSeq.keep g2_143.out.refs RefE.stays (lo' := 0) (hi' := W142.heap.size) (fun _ _ _ => rfl) (Nat.zero_le _) (by omega)
      refine (heldChange_any gA gB P.length gc Q.length gd 1 gr gz _ r_146 r_147 hg1 hg2).mono ?_; rintro e W148 ⟨rfl, hb_148⟩
      clear u_144 u_145 r_146 r_147
      have hz_149 : W142.heap.size ≤ W148.heap.size := hb_148.size
      have HB_149 := belowThen HB_143 hb_148
      have bA_149 := Lib.hid (bA_143.out.below hb_148); clear bA_143
      have bB_149 := Lib.hid (bB_143.out.below hb_148); clear bB_143
      have bW_149 := Lib.hid (bW_143.out.below hb_148); clear bW_143
      have p1_149 := Lib.hid (p1_143.out.below AtomE.stays hb_148 (by omega)); clear p1_143
      have p2_149 := Lib.hid (p2_143.out.below AtomE.stays hb_148 (by omega)); clear p2_143
      have bX_149 := Lib.hid (bX_143.out.below hb_148); clear bX_143
      have bY_149 := Lib.hid (bY_143.out.below hb_148); clear bY_143
      have bG_149 := Lib.hid (bG_143.out.below hb_148); clear bG_143
      have g1_149 := Lib.hid (g1_143.out.below hb_148 (by omega)); clear g1_143
      have g2_149 := Lib.hid (g2_143.out.below hb_148 (by omega)); clear g2_143
      have bH_149 := Lib.hid (bH_143.out.below hb_148); clear bH_143
      have h1_149 := Lib.hid (h1_143.out.below AtomE.stays hb_148 (by omega)); clear h1_143
      have h2_149 := Lib.hid (h2_143.out.below AtomE.stays hb_148 (by omega)); clear h2_143
      clear HB_143
      rw [HMK.out]
      go_wp2
      go_ret; exact ⟨rfl, HB_149⟩
    have HRESTK2 := Lib.hid RESTK2; clear RESTK2 a2
    have hq0 : w.heap.size + 1 < W124.heap.size := by omega
    have hq00 : w.heap.size < W124.heap.size := by omega
    clear hz_0 hz_4 hz_10 hz_15 hz_22 hz_26 hz_33 hz_37 hz_48 hz_52 hz_63 hz_73 hz_75 hz_83 hz_85 hz_87 hz_95 hz_99 hz_103 hz_113 hz_117 hz_125 hg1 hg2 kxab kxbb hm0 hm1 hh2 hh3
    clear bW_125
    clear p1_125
    clear p2_125
    clear bX_125
    clear bY_125
    clear bG_125
    clear g1_125
    clear g2_125
    have hlow0 := Below.refl W124.heap.size W124
    have low_150 := Lib.hid (hlow0)
    clear hlow0
    obtain ⟨V151, hV151⟩ : ∃ X, W124.drew = X := ⟨_, rfl⟩
    have hz_152 : W124.heap.size ≤ V151.heap.size := by rw [← hV151]; exact Nat.le_refl _
    have HB_152 := (show Below w.heap.size w V151 from by rw [← hV151]; exact HB_125.drew)
    have bA_152 := Lib.hid (show Blk V151 (w.heap.size) 49 #[.slice A1 n1 c1, .slice A2 n2 c2] from by rw [← hV151]; exact bA_125.out); clear bA_125
    have bB_152 := Lib.hid (show Blk V151 (w.heap.size + 1) 49 #[.slice B1 m1 d1, .slice B2 m2 d2] from by rw [← hV151]; exact bB_125.out); clear bB_125
    have low_152 := Lib.hid (show Below W124.heap.size W124 V151 from by rw [← hV151]; exact (low_150.out).drew); clear low_150
    clear HB_125
    refine wp_region_held_drew (S := fun W => (W.cell? ⟨w.heap.size, 0, none⟩ = some (.slice A1 n1 c1) ∧ W.cell? ⟨w.heap.size, 1, none⟩ = some (.slice A2 n2 c2)) ∧ W.cell? ⟨w.heap.size + 1, 0, none⟩ = some (.slice B1 m1 d1) ∧ W.cell? ⟨w.heap.size + 1, 1, none⟩ = some (.slice B2 m2 d2)) (by kernel_rfl) (by rw [hV151]; exact ⟨⟨bA_152.out.cell 0, bA_152.out.cell 1⟩, bB_152.out.cell 0, bB_152.out.cell 1⟩) ?_
    rw [hV151]
    intro hS_
    refine takeV (i := 0) (v := .agg #[.slice A1 n1 c1, .slice A2 n2 c2]) (by (simp only [List.getElem?_toArray, List.getElem?_cons_zero]); rfl) (by kernel_rfl) (by kernel_rfl) (by kernel_rfl) (by rfl) (fun _ _ _ h => h) (Or.inl ⟨by rfl, ?_⟩) hS_ (by (simp only [List.setIfInBounds_toArray, List.set_cons_succ, List.set_cons_zero]); rfl) ?_
    · intro w_ hSw_; (try dsimp only at hSw_); go_simp
    refine takeV (i := 2) (v := .agg #[.slice B1 m1 d1, .slice B2 m2 d2]) (by (simp only [List.getElem?_toArray, List.getElem?_cons_succ, List.getElem?_cons_zero]); rfl) (by kernel_rfl) (by kernel_rfl) (by kernel_rfl) (by rfl) (fun _ _ _ h => h) (Or.inl ⟨by rfl, ?_⟩) hS_ (by (simp only [List.setIfInBounds_toArray, List.set_cons_succ, List.set_cons_zero]); rfl) ?_
    · intro w_ hSw_; (try dsimp only at hSw_); go_simp
    refine wpAnyH_ready (rs := [1, 8]) (by kernel_rfl) (by simp) ?_
    refine (AllReadyH.cons (o := _) (by (simp only [List.getElem?_toArray, List.getElem?_cons_succ, List.getElem?_cons_zero]); rfl) (fun K_ hK_ => ?_) (AllReadyH.cons (o := _) (by (simp only [List.getElem?_toArray, List.getElem?_cons_succ, List.getElem?_cons_zero]); rfl) (fun K_ hK_ => ?_) AllReadyH.nil))
    · rw [if_pos (by rfl)]
      go_simp
      go_at_call 37
      refine (toChange_own A1 A2 n1 c1 n2 c2 ca ga _ (H1.out.up AtomE.stays HB_152) (H2.out.up AtomE.stays HB_152) HN.out).mono ?_; rintro e W153 ⟨yaA, yaB, yar, yaz, yamid, rfl, ⟨yao, yam⟩, ⟨yap, yan⟩, ⟨yas, yat⟩, hb_153⟩
      have yaM := Lib.hid yam; have yaN := Lib.hid yan; clear yam yan
      have hz_154 : V151.heap.size ≤ W153.heap.size := hb_153.size
      have HB_154 := belowThen HB_152 hb_153
      have bA_154 := Lib.hid (bA_152.out.below hb_153); clear bA_152
      have bB_154 := Lib.hid (bB_152.out.below hb_153); clear bB_152
      have low_154 := Lib.hid (belowThen low_152.out hb_153); clear low_152
      clear HB_152
      have s1_155 := Lib.hid (yao)
      have s2_156 := Lib.hid (yap)
      clear yao yap
      refine hK_.out _ _ ⟨⟨bA_154.out.cell 0, bA_154.out.cell 1⟩, bB_154.out.cell 0, bB_154.out.cell 1⟩ (fun hS2_ => ?_)
      clear hK_ hS_; have hS_ := hS2_; clear hS2_
      refine wpAnyH_ready (rs := [3, 8]) (by kernel_rfl) (by simp) ?_
      refine (AllReadyH.cons (o := _) (by (simp only [List.getElem?_toArray, List.getElem?_cons_succ, List.getElem?_cons_zero]); rfl) (fun K_ hK_ => ?_) (AllReadyH.cons (o := _) (by (simp only [List.getElem?_toArray, List.getElem?_cons_succ, List.getElem?_cons_zero]); rfl) (fun K_ hK_ => ?_) AllReadyH.nil))
      · rw [if_pos (by rfl)]
        go_simp
        go_at_call 37
        refine (toChange_own B1 B2 m1 d1 m2 d2 cb gb _ (H3.out.up AtomE.stays HB_154) (H4.out.up AtomE.stays HB_154) HN'.out).mono ?_; rintro e W157 ⟨ybA, ybB, ybr, ybz, ybmid, rfl, ⟨ybo, ybm⟩, ⟨ybp, ybn⟩, ⟨ybs, ybt⟩, hb_157⟩
        have ybM := Lib.hid ybm; have ybN := Lib.hid ybn; clear ybm ybn
        have hz_158 : W153.heap.size ≤ W157.heap.size := hb_157.size
        have HB_158 := belowThen HB_154 hb_157
        have bA_158 := Lib.hid (bA_154.out.below hb_157); clear bA_154
        have bB_158 := Lib.hid (bB_154.out.below hb_157); clear bB_154
        have low_158 := Lib.hid (belowThen low_154.out hb_157); clear low_154
        have s1_158 := Lib.hid (s1_155.out.below hb_157 (by omega)); clear s1_155
        have s2_158 := Lib.hid (s2_156.out.below hb_157 (by omega)); clear s2_156
        clear HB_154
        have s3_159 := Lib.hid (ybo)
        have s4_160 := Lib.hid (ybp)
        clear ybo ybp
        refine hK_.out _ _ ⟨⟨bA_158.out.cell 0, bA_158.out.cell 1⟩, bB_158.out.cell 0, bB_158.out.cell 1⟩ (fun hS2_ => ?_)
        clear hK_ hS_; have hS_ := hS2_; clear hS2_
        refine wpAnyH_ready (rs := [4, 8]) (by kernel_rfl) (by simp) ?_
        refine (AllReadyH.cons (o := _) (by (simp only [List.getElem?_toArray, List.getElem?_cons_succ, List.getElem?_cons_zero]); rfl) (fun K_ hK_ => ?_) (AllReadyH.cons (o := _) (by (simp only [List.getElem?_toArray, List.getElem?_cons_succ, List.getElem?_cons_zero]); rfl) (fun K_ hK_ => ?_) AllReadyH.nil))
        · rw [if_pos (by rfl)]
          go_simp
          have r_161 := (s1_158.out.atoms.keep AtomE.stays (lo' := 0) (hi' := W157.heap.size) (fun _ _ _ => rfl) (Nat.zero_le _) (by omega))
          rw [yaM.out] at r_161
          have r_162 := (s2_158.out.atoms.keep AtomE.stays (lo' := 0) (hi' := W157.heap.size) (fun _ _ _ => rfl) (Nat.zero_le _) (by omega))
          rw [yaN.out] at r_162
          have r_163 := (s3_159.out.atoms.keep AtomE.stays (lo' := 0) (hi' := W157.heap.size) (fun _ _ _ => rfl) (Nat.zero_le _) (by omega))
          rw [ybM.out] at r_163
          have r_164 := (s4_160.out.atoms.keep AtomE.stays (lo' := 0) (hi' := W157.heap.size) (fun _ _ _ => rfl) (Nat.zero_le _) (by omega))
          rw [ybN.out] at r_164
          go_at_call 47
          refine (CI.out yaA yaB ybA ybB n1 n1 n2 n2 m1 m1 m2 m2 _ r_161 r_162 r_163 r_164).mono ?_; rintro e W165 ⟨qA, qc, qr, qB, qd, qz, qmid, rfl, ⟨qo, qm⟩, ⟨qp, qn⟩, ⟨qs, qt⟩, hb_165⟩
          clear r_161 r_162 r_163 r_164
          have qM := Lib.hid qm; have qN := Lib.hid qn; clear qm qn
          have hz_166 : W157.heap.size ≤ W165.heap.size := hb_165.size
          have HB_166 := belowThen HB_158 hb_165
          have bA_166 := Lib.hid (bA_158.out.below hb_165); clear bA_158
          have bB_166 := Lib.hid (bB_158.out.below hb_165); clear bB_158
          have low_166 := Lib.hid (belowThen low_158.out hb_165); clear low_158
          have s1_166 := Lib.hid (s1_158.out.below hb_165 (by omega)); clear s1_158
          have s2_166 := Lib.hid (s2_158.out.below hb_165 (by omega)); clear s2_158
          have s3_166 := Lib.hid (s3_159.out.below hb_165 (by omega)); clear s3_159
          have s4_166 := Lib.hid (s4_160.out.below hb_165 (by omega)); clear s4_160
          clear HB_158
          have h1_167 := Lib.hid (qo)
          have h2_168 := Lib.hid (qp)
          clear qo qp
          clear s1_166
          clear s2_166
          clear s3_166
          clear s4_166
          refine hK_.out _ _ ⟨⟨bA_166.out.cell 0, bA_166.out.cell 1⟩, bB_166.out.cell 0, bB_166.out.cell 1⟩ (fun hS2_ => ?_)
          clear hK_ hS_; have hS_ := hS2_; clear hS2_
          refine takeV (i := 5) (v := .tuple #[.agg #[.slice qA P.length qc, .slice qB Q.length qd], .bool q]) (by (simp only [List.getElem?_toArray, List.getElem?_cons_succ, List.getElem?_cons_zero]); rfl) (by kernel_rfl) (by kernel_rfl) (by kernel_rfl) (by rfl) (fun _ _ _ h => h) (Or.inl ⟨by rfl, ?_⟩) hS_ (by (simp only [List.setIfInBounds_toArray, List.set_cons_succ, List.set_cons_zero]); rfl) ?_
          · intro w_ hSw_; (try dsimp only at hSw_); go_simp
          refine takeV (i := 6) (v := .agg #[.slice qA P.length qc, .slice qB Q.length qd]) (by (simp only [List.getElem?_toArray, List.getElem?_cons_succ, List.getElem?_cons_zero]); rfl) (by kernel_rfl) (by kernel_rfl) (by kernel_rfl) (by rfl) (fun _ _ _ h => h) (Or.inl ⟨by rfl, ?_⟩) hS_ (by (simp only [List.setIfInBounds_toArray, List.set_cons_succ, List.set_cons_zero]); rfl) ?_
          · intro w_ hSw_; (try dsimp only at hSw_); go_simp
          refine takeV (i := 7) (v := .bool q) (by (simp only [List.getElem?_toArray, List.getElem?_cons_succ, List.getElem?_cons_zero]); rfl) (by kernel_rfl) (by kernel_rfl) (by kernel_rfl) (by rfl) (fun _ _ _ h => h) (Or.inl ⟨by rfl, ?_⟩) hS_ (by (simp only [List.setIfInBounds_toArray, List.set_cons_succ, List.set_cons_zero]); rfl) ?_
          · intro w_ hSw_; (try dsimp only at hSw_); go_simp
          refine wpAnyH_ready (rs := [8]) (by kernel_rfl) (by simp) ?_
          refine AllReadyH.cons (o := _) (by (simp only [List.getElem?_toArray, List.getElem?_cons_succ, List.getElem?_cons_zero]); rfl) (fun K_ hK_ => ?_) AllReadyH.nil
          rw [if_pos (by rfl)]
          go_simp
          have hb_169 := below1 W165 (.cells #[.slice none 0 0, .slice none 0 0] 53)
          have bx_169 := Blk.new W165 53 #[.slice none 0 0, .slice none 0 0]
          obtain ⟨W169, hw_169⟩ : ∃ X, W165.alloc (.cells #[.slice none 0 0, .slice none 0 0] 53) = X := ⟨_, rfl⟩
          rw [hw_169] at hb_169 bx_169 ⊢; clear hw_169
          have hz_170 : W165.heap.size ≤ W169.heap.size := hb_169.size
          have HB_170 := belowThen HB_166 hb_169
          have bA_170 := Lib.hid (bA_166.out.below hb_169); clear bA_166
          have bB_170 := Lib.hid (bB_166.out.below hb_169); clear bB_166
          have low_170 := Lib.hid (belowThen low_166.out hb_169); clear low_166
          have h1_170 := Lib.hid (h1_167.out.below hb_169 (by omega)); clear h1_167
          have h2_170 := Lib.hid (h2_168.out.below hb_169 (by omega)); clear h2_168
          clear HB_166
          have bT_171 := Lib.hid (bx_169)
          have bT0 : W165.heap.size < W169.heap.size := bT_171.out.lt
          clear bx_169 hb_169
          refine hK_.out _ _ ⟨⟨bA_170.out.cell 0, bA_170.out.cell 1⟩, bB_170.out.cell 0, bB_170.out.cell 1⟩ (fun hS2_ => ?_)
          clear hK_ hS_; have hS_ := hS2_; clear hS2_
          refine wpAnyH_ready (rs := [9]) (by kernel_rfl) (by simp) ?_
          refine AllReadyH.cons (o := _) (by (simp only [List.getElem?_toArray, List.getElem?_cons_succ, List.getElem?_cons_zero]); rfl) (fun K_ hK_ => ?_) AllReadyH.nil
          have u_172 : W169.cell? ⟨W165.heap.size, 0, none⟩ = some (.slice none 0 0) := bT_171.out.cell 0
          have u_173 : W169.cell? ⟨W165.heap.size, 1, none⟩ = some (.slice none 0 0) := bT_171.out.cell 1
          have u_f0 := bT_171.out.frozen 0; have u_f1 := bT_171.out.frozen 1
          rw [if_pos (by rfl)]
          go_simp
          clear u_172 u_173 u_f0 u_f1
          obtain ⟨W174, hs_174⟩ : ∃ X, (W169.setCell ⟨W165.heap.size, 0, none⟩ (.slice qA P.length qc)).setCell ⟨W165.heap.size, 1, none⟩ (.slice qB Q.length qd) = X := ⟨_, rfl⟩
          have hz_174 : W169.heap.size ≤ W174.heap.size := by rw [← hs_174, size_setCell, size_setCell]; exact Nat.le_refl _
          have hy_174 : W174.heap.size ≤ W169.heap.size := by rw [← hs_174, size_setCell, size_setCell]; exact Nat.le_refl _
          have HB_175 := (show Below w.heap.size w W174 from by rw [← hs_174]; exact (HB_170.setCell (p := ⟨W165.heap.size, 0, none⟩) (by first | omega | (simp only; omega)) (.slice qA P.length qc)).setCell (p := ⟨W165.heap.size, 1, none⟩) (by first | omega | (simp only; omega)) (.slice qB Q.length qd))
          have bA_175 := Lib.hid (show Blk W174 (w.heap.size) 49 #[.slice A1 n1 c1, .slice A2 n2 c2] from by rw [← hs_174]; exact ((bA_170.out).far (p := ⟨W165.heap.size, 0, none⟩) (by first | omega | (simp only; omega)) (.slice qA P.length qc)).far (p := ⟨W165.heap.size, 1, none⟩) (by first | omega | (simp only; omega)) (.slice qB Q.length qd)); clear bA_170
          have bB_175 := Lib.hid (show Blk W174 (w.heap.size + 1) 49 #[.slice B1 m1 d1, .slice B2 m2 d2] from by rw [← hs_174]; exact ((bB_170.out).far (p := ⟨W165.heap.size, 0, none⟩) (by first | omega | (simp only; omega)) (.slice qA P.length qc)).far (p := ⟨W165.heap.size, 1, none⟩) (by first | omega | (simp only; omega)) (.slice qB Q.length qd)); clear bB_170
          have low_175 := Lib.hid (show Below W124.heap.size W124 W174 from by rw [← hs_174]; exact ((low_170.out).setCell (p := ⟨W165.heap.size, 0, none⟩) (by first | omega | (simp only; omega)) (.slice qA P.length qc)).setCell (p := ⟨W165.heap.size, 1, none⟩) (by first | omega | (simp only; omega)) (.slice qB Q.length qd)); clear low_170
          have h1_175 := Lib.hid (OwnRefs.keep h1_170.out (w' := W174) (fun b h1 h2 => by rw [← hs_174]; exact set2_far (by omega)) (Nat.le_refl _) (Nat.le_refl _)); clear h1_170
          have h2_175 := Lib.hid (OwnRefs.keep h2_170.out (w' := W174) (fun b h1 h2 => by rw [← hs_174]; exact set2_far (by omega)) (Nat.le_refl _) (Nat.le_refl _)); clear h2_170
          have bT_175 := Lib.hid (show Blk W174 (W165.heap.size) 53 #[.slice qA P.length qc, .slice qB Q.length qd] from by rw [← hs_174]; exact (bT_171.out.set 0 (.slice qA P.length qc)).set 1 (.slice qB Q.length qd)); clear bT_171
          clear HB_170
          rw [hs_174]; clear hs_174
          refine hK_.out _ _ ⟨⟨bA_175.out.cell 0, bA_175.out.cell 1⟩, bB_175.out.cell 0, bB_175.out.cell 1⟩ (fun hS2_ => ?_)
          clear hK_ hS_; have hS_ := hS2_; clear hS2_
          refine takeV (i := 10) (v := .bool q) (by (simp only [List.getElem?_toArray, List.getElem?_cons_succ, List.getElem?_cons_zero]); rfl) (by kernel_rfl) (by kernel_rfl) (by kernel_rfl) (by rfl) (fun _ _ _ h => h) (Or.inl ⟨by rfl, ?_⟩) hS_ (by (simp only [List.setIfInBounds_toArray, List.set_cons_succ, List.set_cons_zero]); rfl) ?_
          · intro w_ hSw_; (try dsimp only at hSw_); go_simp
          refine wpAnyH_done (by kernel_rfl) ?_ _
          clear hS_ hV151
          have r_176 := (h1_175.out.atoms.keep AtomE.stays (lo' := 0) (hi' := W174.heap.size) (fun _ _ _ => rfl) (Nat.zero_le _) (by omega))
          rw [qM.out] at r_176
          have r_177 := (h2_175.out.atoms.keep AtomE.stays (lo' := 0) (hi' := W174.heap.size) (fun _ _ _ => rfl) (Nat.zero_le _) (by omega))
          rw [qN.out] at r_177
          exact HRESTK2.out W165.heap.size yaA yaB ybA ybB qA qB qc qd W174 low_175.out bT_175.out.lt bT_175.out r_176 r_177
        · rw [if_pos (by rfl)]
          go_simp
          have hb_178 := below1 W157 (.cells #[.slice none 0 0, .slice none 0 0] 53)
          have bx_178 := Blk.new W157 53 #[.slice none 0 0, .slice none 0 0]
          obtain ⟨W178, hw_178⟩ : ∃ X, W157.alloc (.cells #[.slice none 0 0, .slice none 0 0] 53) = X := ⟨_, rfl⟩
          rw [hw_178] at hb_178 bx_178 ⊢; clear hw_178
          have hz_179 : W157.heap.size ≤ W178.heap.size := hb_178.size
          have HB_179 := belowThen HB_158 hb_178
          have bA_179 := Lib.hid (bA_158.out.below hb_178); clear bA_158
          have bB_179 := Lib.hid (bB_158.out.below hb_178); clear bB_158
          have low_179 := Lib.hid (belowThen low_158.out hb_178); clear low_158
          have s1_179 := Lib.hid (s1_158.out.below hb_178 (by omega)); clear s1_158
          have s2_179 := Lib.hid (s2_158.out.below hb_178 (by omega)); clear s2_158
          have s3_179 := Lib.hid (s3_159.out.below hb_178 (by omega)); clear s3_159
          have s4_179 := Lib.hid (s4_160.out.below hb_178 (by omega)); clear s4_160
          clear HB_158
          have bT_180 := Lib.hid (bx_178)
          have bT0 : W157.heap.size < W178.heap.size := bT_180.out.lt
          clear bx_178 hb_178
          refine hK_.out _ _ ⟨⟨bA_179.out.cell 0, bA_179.out.cell 1⟩, bB_179.out.cell 0, bB_179.out.cell 1⟩ (fun hS2_ => ?_)
          clear hK_ hS_; have hS_ := hS2_; clear hS2_
          refine wpAnyH_ready (rs := [4]) (by kernel_rfl) (by simp) ?_
          refine AllReadyH.cons (o := _) (by (simp only [List.getElem?_toArray, List.getElem?_cons_succ, List.getElem?_cons_zero]); rfl) (fun K_ hK_ => ?_) AllReadyH.nil
          rw [if_pos (by rfl)]
          go_simp
          have r_181 := (s1_179.out.atoms.keep AtomE.stays (lo' := 0) (hi' := W178.heap.size) (fun _ _ _ => rfl) (Nat.zero_le _) (by omega))
          rw [yaM.out] at r_181
          have r_182 := (s2_179.out.atoms.keep AtomE.stays (lo' := 0) (hi' := W178.heap.size) (fun _ _ _ => rfl) (Nat.zero_le _) (by omega))
          rw [yaN.out] at r_182
          have r_183 := (s3_179.out.atoms.keep AtomE.stays (lo' := 0) (hi' := W178.heap.size) (fun _ _ _ => rfl) (Nat.zero_le _) (by omega))
          rw [ybM.out] at r_183
          have r_184 := (s4_179.out.atoms.keep AtomE.stays (lo' := 0) (hi' := W178.heap.size) (fun _ _ _ => rfl) (Nat.zero_le _) (by omega))
          rw [ybN.out] at r_184
          go_at_call 47
          refine (CI.out yaA yaB ybA ybB n1 n1 n2 n2 m1 m1 m2 m2 _ r_181 r_182 r_183 r_184).mono ?_; rintro e W185 ⟨qA, qc, qr, qB, qd, qz, qmid, rfl, ⟨qo, qm⟩, ⟨qp, qn⟩, ⟨qs, qt⟩, hb_185⟩
          clear r_181 r_182 r_183 r_184
          have qM := Lib.hid qm; have qN := Lib.hid qn; clear qm qn
          have hz_186 : W178.heap.size ≤ W185.heap.size := hb_185.size
          have HB_186 := belowThen HB_179 hb_185
          have bA_186 := Lib.hid (bA_179.out.below hb_185); clear bA_179
          have bB_186 := Lib.hid (bB_179.out.below hb_185); clear bB_179
          have low_186 := Lib.hid (belowThen low_179.out hb_185); clear low_179
          have s1_186 := Lib.hid (s1_179.out.below hb_185 (by omega)); clear s1_179
          have s2_186 := Lib.hid (s2_179.out.below hb_185 (by omega)); clear s2_179
          have s3_186 := Lib.hid (s3_179.out.below hb_185 (by omega)); clear s3_179
          have s4_186 := Lib.hid (s4_179.out.below hb_185 (by omega)); clear s4_179
          have bT_186 := Lib.hid (bT_180.out.below hb_185); clear bT_180
          clear HB_179
          have h1_187 := Lib.hid (qo)
          have h2_188 := Lib.hid (qp)
          clear qo qp
          clear s1_186
          clear s2_186
          clear s3_186
          clear s4_186
          refine hK_.out _ _ ⟨⟨bA_186.out.cell 0, bA_186.out.cell 1⟩, bB_186.out.cell 0, bB_186.out.cell 1⟩ (fun hS2_ => ?_)
          clear hK_ hS_; have hS_ := hS2_; clear hS2_
          refine takeV (i := 5) (v := .tuple #[.agg #[.slice qA P.length qc, .slice qB Q.length qd], .bool q]) (by (simp only [List.getElem?_toArray, List.getElem?_cons_succ, List.getElem?_cons_zero]); rfl) (by kernel_rfl) (by kernel_rfl) (by kernel_rfl) (by rfl) (fun _ _ _ h => h) (Or.inl ⟨by rfl, ?_⟩) hS_ (by (simp only [List.setIfInBounds_toArray, List.set_cons_succ, List.set_cons_zero]); rfl) ?_
          · intro w_ hSw_; (try dsimp only at hSw_); go_simp
          refine takeV (i := 6) (v := .agg #[.slice qA P.length qc, .slice qB Q.length qd]) (by (simp only [List.getElem?_toArray, List.getElem?_cons_succ, List.getElem?_cons_zero]); rfl) (by kernel_rfl) (by kernel_rfl) (by kernel_rfl) (by rfl) (fun _ _ _ h => h) (Or.inl ⟨by rfl, ?_⟩) hS_ (by (simp only [List.setIfInBounds_toArray, List.set_cons_succ, List.set_cons_zero]); rfl) ?_
          · intro w_ hSw_; (try dsimp only at hSw_); go_simp
          refine takeV (i := 7) (v := .bool q) (by (simp only [List.getElem?_toArray, List.getElem?_cons_succ, List.getElem?_cons_zero]); rfl) (by kernel_rfl) (by kernel_rfl) (by kernel_rfl) (by rfl) (fun _ _ _ h => h) (Or.inl ⟨by rfl, ?_⟩) hS_ (by (simp only [List.setIfInBounds_toArray, List.set_cons_succ, List.set_cons_zero]); rfl) ?_
          · intro w_ hSw_; (try dsimp only at hSw_); go_simp
          refine wpAnyH_ready (rs := [9]) (by kernel_rfl) (by simp) ?_
          refine AllReadyH.cons (o := _) (by (simp only [List.getElem?_toArray, List.getElem?_cons_succ, List.getElem?_cons_zero]); rfl) (fun K_ hK_ => ?_) AllReadyH.nil
          have u_189 : W185.cell? ⟨W157.heap.size, 0, none⟩ = some (.slice none 0 0) := bT_186.out.cell 0
          have u_190 : W185.cell? ⟨W157.heap.size, 1, none⟩ = some (.slice none 0 0) := bT_186.out.cell 1
          have u_f0 := bT_186.out.frozen 0; have u_f1 := bT_186.out.frozen 1
          rw [if_pos (by rfl)]
          go_simp
          clear u_189 u_190 u_f0 u_f1
          obtain ⟨W191, hs_191⟩ : ∃ X, (W185.setCell ⟨W157.heap.size, 0, none⟩ (.slice qA P.length qc)).setCell ⟨W157.heap.size, 1, none⟩ (.slice qB Q.length qd) = X := ⟨_, rfl⟩
          have hz_191 : W185.heap.size ≤ W191.heap.size := by rw [← hs_191, size_setCell, size_setCell]; exact Nat.le_refl _
          have hy_191 : W191.heap.size ≤ W185.heap.size := by rw [← hs_191, size_setCell, size_setCell]; exact Nat.le_refl _
          have HB_192 := (show Below w.heap.size w W191 from by rw [← hs_191]; exact (HB_186.setCell (p := ⟨W157.heap.size, 0, none⟩) (by first | omega | (simp only; omega)) (.slice qA P.length qc)).setCell (p := ⟨W157.heap.size, 1, none⟩) (by first | omega | (simp only; omega)) (.slice qB Q.length qd))
          have bA_192 := Lib.hid (show Blk W191 (w.heap.size) 49 #[.slice A1 n1 c1, .slice A2 n2 c2] from by rw [← hs_191]; exact ((bA_186.out).far (p := ⟨W157.heap.size, 0, none⟩) (by first | omega | (simp only; omega)) (.slice qA P.length qc)).far (p := ⟨W157.heap.size, 1, none⟩) (by first | omega | (simp only; omega)) (.slice qB Q.length qd)); clear bA_186
          have bB_192 := Lib.hid (show Blk W191 (w.heap.size + 1) 49 #[.slice B1 m1 d1, .slice B2 m2 d2] from by rw [← hs_191]; exact ((bB_186.out).far (p := ⟨W157.heap.size, 0, none⟩) (by first | omega | (simp only; omega)) (.slice qA P.length qc)).far (p := ⟨W157.heap.size, 1, none⟩) (by first | omega | (simp only; omega)) (.slice qB Q.length qd)); clear bB_186
          have low_192 := Lib.hid (show Below W124.heap.size W124 W191 from by rw [← hs_191]; exact ((low_186.out).setCell (p := ⟨W157.heap.size, 0, none⟩) (by first | omega | (simp only; omega)) (.slice qA P.length qc)).setCell (p := ⟨W157.heap.size, 1, none⟩) (by first | omega | (simp only; omega)) (.slice qB Q.length qd)); clear low_186
          have bT_192 := Lib.hid (show Blk W191 (W157.heap.size) 53 #[.slice qA P.length qc, .slice qB Q.length qd] from by rw [← hs_191]; exact (bT_186.out.set 0 (.slice qA P.length qc)).set 1 (.slice qB Q.length qd)); clear bT_186
          have h1_192 := Lib.hid (OwnRefs.keep h1_187.out (w' := W191) (fun b h1 h2 => by rw [← hs_191]; exact set2_far (by omega)) (Nat.le_refl _) (Nat.le_refl _)); clear h1_187
          have h2_192 := Lib.hid (OwnRefs.keep h2_188.out (w' := W191) (fun b h1 h2 => by rw [← hs_191]; exact set2_far (by omega)) (Nat.le_refl _) (Nat.le_refl _)); clear h2_188
          clear HB_186
          rw [hs_191]; clear hs_191
          refine hK_.out _ _ ⟨⟨bA_192.out.cell 0, bA_192.out.cell 1⟩, bB_192.out.cell 0, bB_192.out.cell 1⟩ (fun hS2_ => ?_)
          clear hK_ hS_; have hS_ := hS2_; clear hS2_
          refine takeV (i := 10) (v := .bool q) (by (simp only [List.getElem?_toArray, List.getElem?_cons_succ, List.getElem?_cons_zero]); rfl) (by kernel_rfl) (by kernel_rfl) (by kernel_rfl) (by rfl) (fun _ _ _ h => h) (Or.inl ⟨by rfl, ?_⟩) hS_ (by (simp only [List.setIfInBounds_toArray, List.set_cons_succ, List.set_cons_zero]); rfl) ?_
          · intro w_ hSw_; (try dsimp only at hSw_); go_simp
          refine wpAnyH_done (by kernel_rfl) ?_ _
          clear hS_ hV151
          have r_193 := (h1_192.out.atoms.keep AtomE.stays (lo' := 0) (hi' := W191.heap.size) (fun _ _ _ => rfl) (Nat.zero_le _) (by omega))
          rw [qM.out] at r_193
          have r_194 := (h2_192.out.atoms.keep AtomE.stays (lo' := 0) (hi' := W191.heap.size) (fun _ _ _ => rfl) (Nat.zero_le _) (by omega))
          rw [qN.out] at r_194
          exact HRESTK2.out W157.heap.size yaA yaB ybA ybB qA qB qc qd W191 low_192.out bT_192.out.lt bT_192.out r_193 r_194
      · rw [if_pos (by rfl)]
        go_simp
        have hb_195 := below1 W153 (.cells #[.slice none 0 0, .slice none 0 0] 53)
        have bx_195 := Blk.new W153 53 #[.slice none 0 0, .slice none 0 0]
        obtain ⟨W195, hw_195⟩ : ∃ X, W153.alloc (.cells #[.slice none 0 0, .slice none 0 0] 53) = X := ⟨_, rfl⟩
        rw [hw_195] at hb_195 bx_195 ⊢; clear hw_195
        have hz_196 : W153.heap.size ≤ W195.heap.size := hb_195.size
        have HB_196 := belowThen HB_154 hb_195
        have bA_196 := Lib.hid (bA_154.out.below hb_195); clear bA_154
        have bB_196 := Lib.hid (bB_154.out.below hb_195); clear bB_154
        have low_196 := Lib.hid (belowThen low_154.out hb_195); clear low_154
        have s1_196 := Lib.hid (s1_155.out.below hb_195 (by omega)); clear s1_155
        have s2_196 := Lib.hid (s2_156.out.below hb_195 (by omega)); clear s2_156
        clear HB_154
        have bT_197 := Lib.hid (bx_195)
        have bT0 : W153.heap.size < W195.heap.size := bT_197.out.lt
        clear bx_195 hb_195
        refine hK_.out _ _ ⟨⟨bA_196.out.cell 0, bA_196.out.cell 1⟩, bB_196.out.cell 0, bB_196.out.cell 1⟩ (fun hS2_ => ?_)
        clear hK_ hS_; have hS_ := hS2_; clear hS2_
        refine wpAnyH_ready (rs := [3]) (by kernel_rfl) (by simp) ?_
        refine AllReadyH.cons (o := _) (by (simp only [List.getElem?_toArray, List.getElem?_cons_succ, List.getElem?_cons_zero]); rfl) (fun K_ hK_ => ?_) AllReadyH.nil
        rw [if_pos (by rfl)]
        go_simp
        go_at_call 37
        refine (toChange_own B1 B2 m1 d1 m2 d2 cb gb _ (H3.out.up AtomE.stays HB_196) (H4.out.up AtomE.stays HB_196) HN'.out).mono ?_; rintro e W198 ⟨ybA, ybB, ybr, ybz, ybmid, rfl, ⟨ybo, ybm⟩, ⟨ybp, ybn⟩, ⟨ybs, ybt⟩, hb_198⟩
        have ybM := Lib.hid ybm; have ybN := Lib.hid ybn; clear ybm ybn
        have hz_199 : W195.heap.size ≤ W198.heap.size := hb_198.size
        have HB_199 := belowThen HB_196 hb_198
        have bA_199 := Lib.hid (bA_196.out.below hb_198); clear bA_196
        have bB_199 := Lib.hid (bB_196.out.below hb_198); clear bB_196
        have low_199 := Lib.hid (belowThen low_196.out hb_198); clear low_196
        have s1_199 := Lib.hid (s1_196.out.below hb_198 (by omega)); clear s1_196
        have s2_199 := Lib.hid (s2_196.out.below hb_198 (by omega)); clear s2_196
        have bT_199 := Lib.hid (bT_197.out.below hb_198); clear bT_197
        clear HB_196
        have s3_200 := Lib.hid (ybo)
        have s4_201 := Lib.hid (ybp)
        clear ybo ybp
        refine hK_.out _ _ ⟨⟨bA_199.out.cell 0, bA_199.out.cell 1⟩, bB_199.out.cell 0, bB_199.out.cell 1⟩ (fun hS2_ => ?_)
        clear hK_ hS_; have hS_ := hS2_; clear hS2_
        refine wpAnyH_ready (rs := [4]) (by kernel_rfl) (by simp) ?_
        refine AllReadyH.cons (o := _) (by (simp only [List.getElem?_toArray, List.getElem?_cons_succ, List.getElem?_cons_zero]); rfl) (fun K_ hK_ => ?_) AllReadyH.nil
        rw [if_pos (by rfl)]
        go_simp
        have r_202 := (s1_199.out.atoms.keep AtomE.stays (lo' := 0) (hi' := W198.heap.size) (fun _ _ _ => rfl) (Nat.zero_le _) (by omega))
        rw [yaM.out] at r_202
        have r_203 := (s2_199.out.atoms.keep AtomE.stays (lo' := 0) (hi' := W198.heap.size) (fun _ _ _ => rfl) (Nat.zero_le _) (by omega))
        rw [yaN.out] at r_203
        have r_204 := (s3_200.out.atoms.keep AtomE.stays (lo' := 0) (hi' := W198.heap.size) (fun _ _ _ => rfl) (Nat.zero_le _) (by omega))
        rw [ybM.out] at r_204
        have r_205 := (s4_201.out.atoms.keep AtomE.stays (lo' := 0) (hi' := W198.heap.size) (fun _ _ _ => rfl) (Nat.zero_le _) (by omega))
        rw [ybN.out] at r_205
        go_at_call 47
        refine (CI.out yaA yaB ybA ybB n1 n1 n2 n2 m1 m1 m2 m2 _ r_202 r_203 r_204 r_205).mono ?_; rintro e W206 ⟨qA, qc, qr, qB, qd, qz, qmid, rfl, ⟨qo, qm⟩, ⟨qp, qn⟩, ⟨qs, qt⟩, hb_206⟩
        clear r_202 r_203 r_204 r_205
        have qM := Lib.hid qm; have qN := Lib.hid qn; clear qm qn
        have hz_207 : W198.heap.size ≤ W206.heap.size := hb_206.size
        have HB_207 := belowThen HB_199 hb_206
        have bA_207 := Lib.hid (bA_199.out.below hb_206); clear bA_199
        have bB_207 := Lib.hid (bB_199.out.below hb_206); clear bB_199
        have low_207 := Lib.hid (belowThen low_199.out hb_206); clear low_199
        have s1_207 := Lib.hid (s1_199.out.below hb_206 (by omega)); clear s1_199
        have s2_207 := Lib.hid (s2_199.out.below hb_206 (by omega)); clear s2_199
        have bT_207 := Lib.hid (bT_199.out.below hb_206); clear bT_199
        have s3_207 := Lib.hid (s3_200.out.below hb_206 (by omega)); clear s3_200
        have s4_207 := Lib.hid (s4_201.out.below hb_206 (by omega)); clear s4_201
        clear HB_199
        have h1_208 := Lib.hid (qo)
        have h2_209 := Lib.hid (qp)
        clear qo qp
        clear s1_207
        clear s2_207
        clear s3_207
        clear s4_207
        refine hK_.out _ _ ⟨⟨bA_207.out.cell 0, bA_207.out.cell 1⟩, bB_207.out.cell 0, bB_207.out.cell 1⟩ (fun hS2_ => ?_)
        clear hK_ hS_; have hS_ := hS2_; clear hS2_
        refine takeV (i := 5) (v := .tuple #[.agg #[.slice qA P.length qc, .slice qB Q.length qd], .bool q]) (by (simp only [List.getElem?_toArray, List.getElem?_cons_succ, List.getElem?_cons_zero]); rfl) (by kernel_rfl) (by kernel_rfl) (by kernel_rfl) (by rfl) (fun _ _ _ h => h) (Or.inl ⟨by rfl, ?_⟩) hS_ (by (simp only [List.setIfInBounds_toArray, List.set_cons_succ, List.set_cons_zero]); rfl) ?_
        · intro w_ hSw_; (try dsimp only at hSw_); go_simp
        refine takeV (i := 6) (v := .agg #[.slice qA P.length qc, .slice qB Q.length qd]) (by (simp only [List.getElem?_toArray, List.getElem?_cons_succ, List.getElem?_cons_zero]); rfl) (by kernel_rfl) (by kernel_rfl) (by kernel_rfl) (by rfl) (fun _ _ _ h => h) (Or.inl ⟨by rfl, ?_⟩) hS_ (by (simp only [List.setIfInBounds_toArray, List.set_cons_succ, List.set_cons_zero]); rfl) ?_
        · intro w_ hSw_; (try dsimp only at hSw_); go_simp
        refine takeV (i := 7) (v := .bool q) (by (simp only [List.getElem?_toArray, List.getElem?_cons_succ, List.getElem?_cons_zero]); rfl) (by kernel_rfl) (by kernel_rfl) (by kernel_rfl) (by rfl) (fun _ _ _ h => h) (Or.inl ⟨by rfl, ?_⟩) hS_ (by (simp only [List.setIfInBounds_toArray, List.set_cons_succ, List.set_cons_zero]); rfl) ?_
        · intro w_ hSw_; (try dsimp only at hSw_); go_simp
        refine wpAnyH_ready (rs := [9]) (by kernel_rfl) (by simp) ?_
        refine AllReadyH.cons (o := _) (by (simp only [List.getElem?_toArray, List.getElem?_cons_succ, List.getElem?_cons_zero]); rfl) (fun K_ hK_ => ?_) AllReadyH.nil
        have u_210 : W206.cell? ⟨W153.heap.size, 0, none⟩ = some (.slice none 0 0) := bT_207.out.cell 0
        have u_211 : W206.cell? ⟨W153.heap.size, 1, none⟩ = some (.slice none 0 0) := bT_207.out.cell 1
        have u_f0 := bT_207.out.frozen 0; have u_f1 := bT_207.out.frozen 1
        rw [if_pos (by rfl)]
        go_simp
        clear u_210 u_211 u_f0 u_f1
        obtain ⟨W212, hs_212⟩ : ∃ X, (W206.setCell ⟨W153.heap.size, 0, none⟩ (.slice qA P.length qc)).setCell ⟨W153.heap.size, 1, none⟩ (.slice qB Q.length qd) = X := ⟨_, rfl⟩
        have hz_212 : W206.heap.size ≤ W212.heap.size := by rw [← hs_212, size_setCell, size_setCell]; exact Nat.le_refl _
        have hy_212 : W212.heap.size ≤ W206.heap.size := by rw [← hs_212, size_setCell, size_setCell]; exact Nat.le_refl _
        have HB_213 := (show Below w.heap.size w W212 from by rw [← hs_212]; exact (HB_207.setCell (p := ⟨W153.heap.size, 0, none⟩) (by first | omega | (simp only; omega)) (.slice qA P.length qc)).setCell (p := ⟨W153.heap.size, 1, none⟩) (by first | omega | (simp only; omega)) (.slice qB Q.length qd))
        have bA_213 := Lib.hid (show Blk W212 (w.heap.size) 49 #[.slice A1 n1 c1, .slice A2 n2 c2] from by rw [← hs_212]; exact ((bA_207.out).far (p := ⟨W153.heap.size, 0, none⟩) (by first | omega | (simp only; omega)) (.slice qA P.length qc)).far (p := ⟨W153.heap.size, 1, none⟩) (by first | omega | (simp only; omega)) (.slice qB Q.length qd)); clear bA_207
        have bB_213 := Lib.hid (show Blk W212 (w.heap.size + 1) 49 #[.slice B1 m1 d1, .slice B2 m2 d2] from by rw [← hs_212]; exact ((bB_207.out).far (p := ⟨W153.heap.size, 0, none⟩) (by first | omega | (simp only; omega)) (.slice qA P.length qc)).far (p := ⟨W153.heap.size, 1, none⟩) (by first | omega | (simp only; omega)) (.slice qB Q.length qd)); clear bB_207
        have low_213 := Lib.hid (show Below W124.heap.size W124 W212 from by rw [← hs_212]; exact ((low_207.out).setCell (p := ⟨W153.heap.size, 0, none⟩) (by first | omega | (simp only; omega)) (.slice qA P.length qc)).setCell (p := ⟨W153.heap.size, 1, none⟩) (by first | omega | (simp only; omega)) (.slice qB Q.length qd)); clear low_207
        have bT_213 := Lib.hid (show Blk W212 (W153.heap.size) 53 #[.slice qA P.length qc, .slice qB Q.length qd] from by rw [← hs_212]; exact (bT_207.out.set 0 (.slice qA P.length qc)).set 1 (.slice qB Q.length qd)); clear bT_207
        have h1_213 := Lib.hid (OwnRefs.keep h1_208.out (w' := W212) (fun b h1 h2 => by rw [← hs_212]; exact set2_far (by omega)) (Nat.le_refl _) (Nat.le_refl _)); clear h1_208
        have h2_213 := Lib.hid (OwnRefs.keep h2_209.out (w' := W212) (fun b h1 h2 => by rw [← hs_212]; exact set2_far (by omega)) (Nat.le_refl _) (Nat.le_refl _)); clear h2_209
        clear HB_207
        rw [hs_212]; clear hs_212
        refine hK_.out _ _ ⟨⟨bA_213.out.cell 0, bA_213.out.cell 1⟩, bB_213.out.cell 0, bB_213.out.cell 1⟩ (fun hS2_ => ?_)
        clear hK_ hS_; have hS_ := hS2_; clear hS2_
        refine takeV (i := 10) (v := .bool q) (by (simp only [List.getElem?_toArray, List.getElem?_cons_succ, List.getElem?_cons_zero]); rfl) (by kernel_rfl) (by kernel_rfl) (by kernel_rfl) (by rfl) (fun _ _ _ h => h) (Or.inl ⟨by rfl, ?_⟩) hS_ (by (simp only [List.setIfInBounds_toArray, List.set_cons_succ, List.set_cons_zero]); rfl) ?_
        · intro w_ hSw_; (try dsimp only at hSw_); go_simp
        refine wpAnyH_done (by kernel_rfl) ?_ _
        clear hS_ hV151
        have r_214 := (h1_213.out.atoms.keep AtomE.stays (lo' := 0) (hi' := W212.heap.size) (fun _ _ _ => rfl) (Nat.zero_le _) (by omega))
        rw [qM.out] at r_214
        have r_215 := (h2_213.out.atoms.keep AtomE.stays (lo' := 0) (hi' := W212.heap.size) (fun _ _ _ => rfl) (Nat.zero_le _) (by omega))
        rw [qN.out] at r_215
        exact HRESTK2.out W153.heap.size yaA yaB ybA ybB qA qB qc qd W212 low_213.out bT_213.out.lt bT_213.out r_214 r_215
    · rw [if_pos (by rfl)]
      go_simp
      have hb_216 := below1 V151 (.cells #[.slice none 0 0, .slice none 0 0] 53)
      have bx_216 := Blk.new V151 53 #[.slice none 0 0, .slice none 0 0]
      obtain ⟨W216, hw_216⟩ : ∃ X, V151.alloc (.cells #[.slice none 0 0, .slice none 0 0] 53) = X := ⟨_, rfl⟩
      rw [hw_216] at hb_216 bx_216 ⊢; clear hw_216
      have hz_217 : V151.heap.size ≤ W216.heap.size := hb_216.size
      have HB_217 := belowThen HB_152 hb_216
      have bA_217 := Lib.hid (bA_152.out.below hb_216); clear bA_152
      have bB_217 := Lib.hid (bB_152.out.below hb_216); clear bB_152
      have low_217 := Lib.hid (belowThen low_152.out hb_216); clear low_152
      clear HB_152
      have bT_218 := Lib.hid (bx_216)
      have bT0 : V151.heap.size < W216.heap.size := bT_218.out.lt
      clear bx_216 hb_216
      refine hK_.out _ _ ⟨⟨bA_217.out.cell 0, bA_217.out.cell 1⟩, bB_217.out.cell 0, bB_217.out.cell 1⟩ (fun hS2_ => ?_)
      clear hK_ hS_; have hS_ := hS2_; clear hS2_
      refine wpAnyH_ready (rs := [1]) (by kernel_rfl) (by simp) ?_
      refine AllReadyH.cons (o := _) (by (simp only [List.getElem?_toArray, List.getElem?_cons_succ, List.getElem?_cons_zero]); rfl) (fun K_ hK_ => ?_) AllReadyH.nil
      rw [if_pos (by rfl)]
      go_simp
      go_at_call 37
      refine (toChange_own A1 A2 n1 c1 n2 c2 ca ga _ (H1.out.up AtomE.stays HB_217) (H2.out.up AtomE.stays HB_217) HN.out).mono ?_; rintro e W219 ⟨yaA, yaB, yar, yaz, yamid, rfl, ⟨yao, yam⟩, ⟨yap, yan⟩, ⟨yas, yat⟩, hb_219⟩
      have yaM := Lib.hid yam; have yaN := Lib.hid yan; clear yam yan
      have hz_220 : W216.heap.size ≤ W219.heap.size := hb_219.size
      have HB_220 := belowThen HB_217 hb_219
      have bA_220 := Lib.hid (bA_217.out.below hb_219); clear bA_217
      have bB_220 := Lib.hid (bB_217.out.below hb_219); clear bB_217
      have low_220 := Lib.hid (belowThen low_217.out hb_219); clear low_217
      have bT_220 := Lib.hid (bT_218.out.below hb_219); clear bT_218
      clear HB_217
      have s1_221 := Lib.hid (yao)
      have s2_222 := Lib.hid (yap)
      clear yao yap
      refine hK_.out _ _ ⟨⟨bA_220.out.cell 0, bA_220.out.cell 1⟩, bB_220.out.cell 0, bB_220.out.cell 1⟩ (fun hS2_ => ?_)
      clear hK_ hS_; have hS_ := hS2_; clear hS2_
      refine wpAnyH_ready (rs := [3]) (by kernel_rfl) (by simp) ?_
      refine AllReadyH.cons (o := _) (by (simp only [List.getElem?_toArray, List.getElem?_cons_succ, List.getElem?_cons_zero]); rfl) (fun K_ hK_ => ?_) AllReadyH.nil
      rw [if_pos (by rfl)]
      go_simp
      go_at_call 37
      refine (toChange_own B1 B2 m1 d1 m2 d2 cb gb _ (H3.out.up AtomE.stays HB_220) (H4.out.up AtomE.stays HB_220) HN'.out).mono ?_; rintro e W223 ⟨ybA, ybB, ybr, ybz, ybmid, rfl, ⟨ybo, ybm⟩, ⟨ybp, ybn⟩, ⟨ybs, ybt⟩, hb_223⟩
      have ybM := Lib.hid ybm; have ybN := Lib.hid ybn; clear ybm ybn
      have hz_224 : W219.heap.size ≤ W223.heap.size := hb_223.size
      have HB_224 := belowThen HB_220 hb_223
      have bA_224 := Lib.hid (bA_220.out.below hb_223); clear bA_220
      have bB_224 := Lib.hid (bB_220.out.below hb_223); clear bB_220
      have low_224 := Lib.hid (belowThen low_220.out hb_223); clear low_220
      have bT_224 := Lib.hid (bT_220.out.below hb_223); clear bT_220
      have s1_224 := Lib.hid (s1_221.out.below hb_223 (by omega)); clear s1_221
      have s2_224 := Lib.hid (s2_222.out.below hb_223 (by omega)); clear s2_222
      clear HB_220
      have s3_225 := Lib.hid (ybo)
      have s4_226 := Lib.hid (ybp)
      clear ybo ybp
      refine hK_.out _ _ ⟨⟨bA_224.out.cell 0, bA_224.out.cell 1⟩, bB_224.out.cell 0, bB_224.out.cell 1⟩ (fun hS2_ => ?_)
      clear hK_ hS_; have hS_ := hS2_; clear hS2_
      refine wpAnyH_ready (rs := [4]) (by kernel_rfl) (by simp) ?_
      refine AllReadyH.cons (o := _) (by (simp only [List.getElem?_toArray, List.getElem?_cons_succ, List.getElem?_cons_zero]); rfl) (fun K_ hK_ => ?_) AllReadyH.nil
      rw [if_pos (by rfl)]
      go_simp
      have r_227 := (s1_224.out.atoms.keep AtomE.stays (lo' := 0) (hi' := W223.heap.size) (fun _ _ _ => rfl) (Nat.zero_le _) (by omega))
      rw [yaM.out] at r_227
      have r_228 := (s2_224.out.atoms.keep AtomE.stays (lo' := 0) (hi' := W223.heap.size) (fun _ _ _ => rfl) (Nat.zero_le _) (by omega))
      rw [yaN.out] at r_228
      have r_229 := (s3_225.out.atoms.keep AtomE.stays (lo' := 0) (hi' := W223.heap.size) (fun _ _ _ => rfl) (Nat.zero_le _) (by omega))
      rw [ybM.out] at r_229
      have r_230 := (s4_226.out.atoms.keep AtomE.stays (lo' := 0) (hi' := W223.heap.size) (fun _ _ _ => rfl) (Nat.zero_le _) (by omega))
      rw [ybN.out] at r_230
      go_at_call 47
      refine (CI.out yaA yaB ybA ybB n1 n1 n2 n2 m1 m1 m2 m2 _ r_227 r_228 r_229 r_230).mono ?_; rintro e W231 ⟨qA, qc, qr, qB, qd, qz, qmid, rfl, ⟨qo, qm⟩, ⟨qp, qn⟩, ⟨qs, qt⟩, hb_231⟩
      clear r_227 r_228 r_229 r_230
      have qM := Lib.hid qm; have qN := Lib.hid qn; clear qm qn
      have hz_232 : W223.heap.size ≤ W231.heap.size := hb_231.size
      have HB_232 := belowThen HB_224 hb_231
      have bA_232 := Lib.hid (bA_224.out.below hb_231); clear bA_224
      have bB_232 := Lib.hid (bB_224.out.below hb_231); clear bB_224
      have low_232 := Lib.hid (belowThen low_224.out hb_231); clear low_224
      have bT_232 := Lib.hid (bT_224.out.below hb_231); clear bT_224
      have s1_232 := Lib.hid (s1_224.out.below hb_231 (by omega)); clear s1_224
      have s2_232 := Lib.hid (s2_224.out.below hb_231 (by omega)); clear s2_224
      have s3_232 := Lib.hid (s3_225.out.below hb_231 (by omega)); clear s3_225
      have s4_232 := Lib.hid (s4_226.out.below hb_231 (by omega)); clear s4_226
      clear HB_224
      have h1_233 := Lib.hid (qo)
      have h2_234 := Lib.hid (qp)
      clear qo qp
      clear s1_232
      clear s2_232
      clear s3_232
      clear s4_232
      refine hK_.out _ _ ⟨⟨bA_232.out.cell 0, bA_232.out.cell 1⟩, bB_232.out.cell 0, bB_232.out.cell 1⟩ (fun hS2_ => ?_)
      clear hK_ hS_; have hS_ := hS2_; clear hS2_
      refine takeV (i := 5) (v := .tuple #[.agg #[.slice qA P.length qc, .slice qB Q.length qd], .bool q]) (by (simp only [List.getElem?_toArray, List.getElem?_cons_succ, List.getElem?_cons_zero]); rfl) (by kernel_rfl) (by kernel_rfl) (by kernel_rfl) (by rfl) (fun _ _ _ h => h) (Or.inl ⟨by rfl, ?_⟩) hS_ (by (simp only [List.setIfInBounds_toArray, List.set_cons_succ, List.set_cons_zero]); rfl) ?_
      · intro w_ hSw_; (try dsimp only at hSw_); go_simp
      refine takeV (i := 6) (v := .agg #[.slice qA P.length qc, .slice qB Q.length qd]) (by (simp only [List.getElem?_toArray, List.getElem?_cons_succ, List.getElem?_cons_zero]); rfl) (by kernel_rfl) (by kernel_rfl) (by kernel_rfl) (by rfl) (fun _ _ _ h => h) (Or.inl ⟨by rfl, ?_⟩) hS_ (by (simp only [List.setIfInBounds_toArray, List.set_cons_succ, List.set_cons_zero]); rfl) ?_
      · intro w_ hSw_; (try dsimp only at hSw_); go_simp
      refine takeV (i := 7) (v := .bool q) (by (simp only [List.getElem?_toArray, List.getElem?_cons_succ, List.getElem?_cons_zero]); rfl) (by kernel_rfl) (by kernel_rfl) (by kernel_rfl) (by rfl) (fun _ _ _ h => h) (Or.inl ⟨by rfl, ?_⟩) hS_ (by (simp only [List.setIfInBounds_toArray, List.set_cons_succ, List.set_cons_zero]); rfl) ?_
      · intro w_ hSw_; (try dsimp only at hSw_); go_simp
      refine wpAnyH_ready (rs := [9]) (by kernel_rfl) (by simp) ?_
      refine AllReadyH.cons (o := _) (by (simp only [List.getElem?_toArray, List.getElem?_cons_succ, List.getElem?_cons_zero]); rfl) (fun K_ hK_ => ?_) AllReadyH.nil
      have u_235 : W231.cell? ⟨V151.heap.size, 0, none⟩ = some (.slice none 0 0) := bT_232.out.cell 0
      have u_236 : W231.cell? ⟨V151.heap.size, 1, none⟩ = some (.slice none 0 0) := bT_232.out.cell 1
      have u_f0 := bT_232.out.frozen 0; have u_f1 := bT_232.out.frozen 1
      rw [if_pos (by rfl)]
      go_simp
      clear u_235 u_236 u_f0 u_f1
      obtain ⟨W237, hs_237⟩ : ∃ X, (W231.setCell ⟨V151.heap.size, 0, none⟩ (.slice qA P.length qc)).setCell ⟨V151.heap.size, 1, none⟩ (.slice qB Q.length qd) = X := ⟨_, rfl⟩
      have hz_237 : W231.heap.size ≤ W237.heap.size := by rw [← hs_237, size_setCell, size_setCell]; exact Nat.le_refl _
      have hy_237 : W237.heap.size ≤ W231.heap.size := by rw [← hs_237, size_setCell, size_setCell]; exact Nat.le_refl _
      have HB_238 := (show Below w.heap.size w W237 from by rw [← hs_237]; exact (HB_232.setCell (p := ⟨V151.heap.size, 0, none⟩) (by first | omega | (simp only; omega)) (.slice qA P.length qc)).setCell (p := ⟨V151.heap.size, 1, none⟩) (by first | omega | (simp only; omega)) (.slice qB Q.length qd))
      have bA_238 := Lib.hid (show Blk W237 (w.heap.size) 49 #[.slice A1 n1 c1, .slice A2 n2 c2] from by rw [← hs_237]; exact ((bA_232.out).far (p := ⟨V151.heap.size, 0, none⟩) (by first | omega | (simp only; omega)) (.slice qA P.length qc)).far (p := ⟨V151.heap.size, 1, none⟩) (by first | omega | (simp only; omega)) (.slice qB Q.length qd)); clear bA_232
      have bB_238 := Lib.hid (show Blk W237 (w.heap.size + 1) 49 #[.slice B1 m1 d1, .slice B2 m2 d2] from by rw [← hs_237]; exact ((bB_232.out).far (p := ⟨V151.heap.size, 0, none⟩) (by first | omega | (simp only; omega)) (.slice qA P.length qc)).far (p := ⟨V151.heap.size, 1, none⟩) (by first | omega | (simp only; omega)) (.slice qB Q.length qd)); clear bB_232
      have low_238 := Lib.hid (show Below W124.heap.size W124 W237 from by rw [← hs_237]; exact ((low_232.out).setCell (p := ⟨V151.heap.size, 0, none⟩) (by first | omega | (simp only; omega)) (.slice qA P.length qc)).setCell (p := ⟨V151.heap.size, 1, none⟩) (by first | omega | (simp only; omega)) (.slice qB Q.length qd)); clear low_232
      have bT_238 := Lib.hid (show Blk W237 (V151.heap.size) 53 #[.slice qA P.length qc, .slice qB Q.length qd] from by rw [← hs_237]; exact (bT_232.out.set 0 (.slice qA P.length qc)).set 1 (.slice qB Q.length qd)); clear bT_232
      have h1_238 := Lib.hid (OwnRefs.keep h1_233.out (w' := W237) (fun b h1 h2 => by rw [← hs_237]; exact set2_far (by omega)) (Nat.le_refl _) (Nat.le_refl _)); clear h1_233
      have h2_238 := Lib.hid (OwnRefs.keep h2_234.out (w' := W237) (fun b h1 h2 => by rw [← hs_237]; exact set2_far (by omega)) (Nat.le_refl _) (Nat.le_refl _)); clear h2_234
      clear HB_232
      rw [hs_237]; clear hs_237
      refine hK_.out _ _ ⟨⟨bA_238.out.cell 0, bA_238.out.cell 1⟩, bB_238.out.cell 0, bB_238.out.cell 1⟩ (fun hS2_ => ?_)
      clear hK_ hS_; have hS_ := hS2_; clear hS2_
      refine takeV (i := 10) (v := .bool q) (by (simp only [List.getElem?_toArray, List.getElem?_cons_succ, List.getElem?_cons_zero]); rfl) (by kernel_rfl) (by kernel_rfl) (by kernel_rfl) (by rfl) (fun _ _ _ h => h) (Or.inl ⟨by rfl, ?_⟩) hS_ (by (simp only [List.setIfInBounds_toArray, List.set_cons_succ, List.set_cons_zero]); rfl) ?_
      · intro w_ hSw_; (try dsimp only at hSw_); go_simp
      refine wpAnyH_done (by kernel_rfl) ?_ _
      clear hS_ hV151
      have r_239 := (h1_238.out.atoms.keep AtomE.stays (lo' := 0) (hi' := W237.heap.size) (fun _ _ _ => rfl) (Nat.zero_le _) (by omega))
      rw [qM.out] at r_239
      have r_240 := (h2_238.out.atoms.keep AtomE.stays (lo' := 0) (hi' := W237.heap.size) (fun _ _ _ => rfl) (Nat.zero_le _) (by omega))
      rw [qN.out] at r_240
      exact HRESTK2.out V151.heap.size yaA yaB ybA ybB qA qB qc qd W237 low_238.out bT_238.out.lt bT_238.out r_239 r_240
  have HRESTK1 := Lib.hid RESTK1; clear RESTK1 a1
  have hq0 : w.heap.size + 1 < W9.heap.size := by omega
  have hq00 : w.heap.size < W9.heap.size := by omega
  clear hz_0 hz_4 hz_10
  have hlow0 := Below.refl W9.heap.size W9
  have low_241 := Lib.hid (hlow0)
  clear hlow0
  obtain ⟨V242, hV242⟩ : ∃ X, W9.drew = X := ⟨_, rfl⟩
  have hz_243 : W9.heap.size ≤ V242.heap.size := by rw [← hV242]; exact Nat.le_refl _
  have HB_243 := (show Below w.heap.size w V242 from by rw [← hV242]; exact HB_10.drew)
  have bA_243 := Lib.hid (show Blk V242 (w.heap.size) 49 #[.slice A1 n1 c1, .slice A2 n2 c2] from by rw [← hV242]; exact bA_10.out); clear bA_10
  have bB_243 := Lib.hid (show Blk V242 (w.heap.size + 1) 49 #[.slice B1 m1 d1, .slice B2 m2 d2] from by rw [← hV242]; exact bB_10.out); clear bB_10
  have low_243 := Lib.hid (show Below W9.heap.size W9 V242 from by rw [← hV242]; exact (low_241.out).drew); clear low_241
  clear HB_10
  refine wp_region_held_drew (S := fun W => (W.cell? ⟨w.heap.size, 0, none⟩ = some (.slice A1 n1 c1) ∧ W.cell? ⟨w.heap.size, 1, none⟩ = some (.slice A2 n2 c2)) ∧ W.cell? ⟨w.heap.size + 1, 0, none⟩ = some (.slice B1 m1 d1) ∧ W.cell? ⟨w.heap.size + 1, 1, none⟩ = some (.slice B2 m2 d2)) (by kernel_rfl) (by rw [hV242]; exact ⟨⟨bA_243.out.cell 0, bA_243.out.cell 1⟩, bB_243.out.cell 0, bB_243.out.cell 1⟩) ?_
  rw [hV242]
  intro hS_
  refine takeV (i := 0) (v := .agg #[.slice A1 n1 c1, .slice A2 n2 c2]) (by (simp only [List.getElem?_toArray, List.getElem?_cons_zero]); rfl) (by kernel_rfl) (by kernel_rfl) (by kernel_rfl) (by rfl) (fun _ _ _ h => h) (Or.inl ⟨by rfl, ?_⟩) hS_ (by (simp only [List.setIfInBounds_toArray, List.set_cons_succ, List.set_cons_zero]); rfl) ?_
  · intro w_ hSw_; (try dsimp only at hSw_); go_simp
  refine takeV (i := 2) (v := .agg #[.slice B1 m1 d1, .slice B2 m2 d2]) (by (simp only [List.getElem?_toArray, List.getElem?_cons_succ, List.getElem?_cons_zero]); rfl) (by kernel_rfl) (by kernel_rfl) (by kernel_rfl) (by rfl) (fun _ _ _ h => h) (Or.inl ⟨by rfl, ?_⟩) hS_ (by (simp only [List.setIfInBounds_toArray, List.set_cons_succ, List.set_cons_zero]); rfl) ?_
  · intro w_ hSw_; (try dsimp only at hSw_); go_simp
  refine wpAnyH_ready (rs := [1, 8]) (by kernel_rfl) (by simp) ?_
  refine (AllReadyH.cons (o := _) (by (simp only [List.getElem?_toArray, List.getElem?_cons_succ, List.getElem?_cons_zero]); rfl) (fun K_ hK_ => ?_) (AllReadyH.cons (o := _) (by (simp only [List.getElem?_toArray, List.getElem?_cons_succ, List.getElem?_cons_zero]); rfl) (fun K_ hK_ => ?_) AllReadyH.nil))
  · rw [if_pos (by rfl)]
    go_simp
    go_at_call 37
    refine (toChange_own A1 A2 n1 c1 n2 c2 ca ga _ (H1.out.up AtomE.stays HB_243) (H2.out.up AtomE.stays HB_243) HN.out).mono ?_; rintro e W244 ⟨yaA, yaB, yar, yaz, yamid, rfl, ⟨yao, yam⟩, ⟨yap, yan⟩, ⟨yas, yat⟩, hb_244⟩
    have yaM := Lib.hid yam; have yaN := Lib.hid yan; clear yam yan
    have hz_245 : V242.heap.size ≤ W244.heap.size := hb_244.size
    have HB_245 := belowThen HB_243 hb_244
    have bA_245 := Lib.hid (bA_243.out.below hb_244); clear bA_243
    have bB_245 := Lib.hid (bB_243.out.below hb_244); clear bB_243
    have low_245 := Lib.hid (belowThen low_243.out hb_244); clear low_243
    clear HB_243
    have s1_246 := Lib.hid (yao)
    have s2_247 := Lib.hid (yap)
    clear yao yap
    refine hK_.out _ _ ⟨⟨bA_245.out.cell 0, bA_245.out.cell 1⟩, bB_245.out.cell 0, bB_245.out.cell 1⟩ (fun hS2_ => ?_)
    clear hK_ hS_; have hS_ := hS2_; clear hS2_
    refine wpAnyH_ready (rs := [3, 8]) (by kernel_rfl) (by simp) ?_
    refine (AllReadyH.cons (o := _) (by (simp only [List.getElem?_toArray, List.getElem?_cons_succ, List.getElem?_cons_zero]); rfl) (fun K_ hK_ => ?_) (AllReadyH.cons (o := _) (by (simp only [List.getElem?_toArray, List.getElem?_cons_succ, List.getElem?_cons_zero]); rfl) (fun K_ hK_ => ?_) AllReadyH.nil))
    · rw [if_pos (by rfl)]
      go_simp
      go_at_call 37
      refine (toChange_own B1 B2 m1 d1 m2 d2 cb gb _ (H3.out.up AtomE.stays HB_245) (H4.out.up AtomE.stays HB_245) HN'.out).mono ?_; rintro e W248 ⟨ybA, ybB, ybr, ybz, ybmid, rfl, ⟨ybo, ybm⟩, ⟨ybp, ybn⟩, ⟨ybs, ybt⟩, hb_248⟩
      have ybM := Lib.hid ybm; have ybN := Lib.hid ybn; clear ybm ybn
      have hz_249 : W244.heap.size ≤ W248.heap.size := hb_248.size
      have HB_249 := belowThen HB_245 hb_248
      have bA_249 := Lib.hid (bA_245.out.below hb_248); clear bA_245
      have bB_249 := Lib.hid (bB_245.out.below hb_248); clear bB_245
      have low_249 := Lib.hid (belowThen low_245.out hb_248); clear low_245
      have s1_249 := Lib.hid (s1_246.out.below hb_248 (by omega)); clear s1_246
      have s2_249 := Lib.hid (s2_247.out.below hb_248 (by omega)); clear s2_247
      clear HB_245
      have s3_250 := Lib.hid (ybo)
      have s4_251 := Lib.hid (ybp)
      clear ybo ybp
      refine hK_.out _ _ ⟨⟨bA_249.out.cell 0, bA_249.out.cell 1⟩, bB_249.out.cell 0, bB_249.out.cell 1⟩ (fun hS2_ => ?_)
      clear hK_ hS_; have hS_ := hS2_; clear hS2_
      refine wpAnyH_ready (rs := [4, 8]) (by kernel_rfl) (by simp) ?_
      refine (AllReadyH.cons (o := _) (by (simp only [List.getElem?_toArray, List.getElem?_cons_succ, List.getElem?_cons_zero]); rfl) (fun K_ hK_ => ?_) (AllReadyH.cons (o := _) (by (simp only [List.getElem?_toArray, List.getElem?_cons_succ, List.getElem?_cons_zero]); rfl) (fun K_ hK_ => ?_) AllReadyH.nil))
      · rw [if_pos (by rfl)]
        go_simp
        have r_252 := (s1_249.out.atoms.keep AtomE.stays (lo' := 0) (hi' := W248.heap.size) (fun _ _ _ => rfl) (Nat.zero_le _) (by omega))
        rw [yaM.out] at r_252
        have r_253 := (s2_249.out.atoms.keep AtomE.stays (lo' := 0) (hi' := W248.heap.size) (fun _ _ _ => rfl) (Nat.zero_le _) (by omega))
        rw [yaN.out] at r_253
        have r_254 := (s3_250.out.atoms.keep AtomE.stays (lo' := 0) (hi' := W248.heap.size) (fun _ _ _ => rfl) (Nat.zero_le _) (by omega))
        rw [ybM.out] at r_254
        have r_255 := (s4_251.out.atoms.keep AtomE.stays (lo' := 0) (hi' := W248.heap.size) (fun _ _ _ => rfl) (Nat.zero_le _) (by omega))
        rw [ybN.out] at r_255
        go_at_call 46
        refine (CS.out yaA yaB ybA ybB n1 n1 n2 n2 m1 m1 m2 m2 _ r_252 r_253 r_254 r_255).mono ?_; rintro e W256 ⟨qA, qc, qr, qB, qd, qz, qmid, rfl, ⟨qo, qm⟩, ⟨qp, qn⟩, ⟨qs, qt⟩, hb_256⟩
        clear r_252 r_253 r_254 r_255
        have qM := Lib.hid qm; have qN := Lib.hid qn; clear qm qn
        have hz_257 : W248.heap.size ≤ W256.heap.size := hb_256.size
        have HB_257 := belowThen HB_249 hb_256
        have bA_257 := Lib.hid (bA_249.out.below hb_256); clear bA_249
        have bB_257 := Lib.hid (bB_249.out.below hb_256); clear bB_249
        have low_257 := Lib.hid (belowThen low_249.out hb_256); clear low_249
        have s1_257 := Lib.hid (s1_249.out.below hb_256 (by omega)); clear s1_249
        have s2_257 := Lib.hid (s2_249.out.below hb_256 (by omega)); clear s2_249
        have s3_257 := Lib.hid (s3_250.out.below hb_256 (by omega)); clear s3_250
        have s4_257 := Lib.hid (s4_251.out.below hb_256 (by omega)); clear s4_251
        clear HB_249
        have p1_258 := Lib.hid (qo)
        have p2_259 := Lib.hid (qp)
        clear qo qp
        clear s1_257
        clear s2_257
        clear s3_257
        clear s4_257
        refine hK_.out _ _ ⟨⟨bA_257.out.cell 0, bA_257.out.cell 1⟩, bB_257.out.cell 0, bB_257.out.cell 1⟩ (fun hS2_ => ?_)
        clear hK_ hS_; have hS_ := hS2_; clear hS2_
        refine takeV (i := 5) (v := .tuple #[.agg #[.slice qA P.length qc, .slice qB Q.length qd], .bool q]) (by (simp only [List.getElem?_toArray, List.getElem?_cons_succ, List.getElem?_cons_zero]); rfl) (by kernel_rfl) (by kernel_rfl) (by kernel_rfl) (by rfl) (fun _ _ _ h => h) (Or.inl ⟨by rfl, ?_⟩) hS_ (by (simp only [List.setIfInBounds_toArray, List.set_cons_succ, List.set_cons_zero]); rfl) ?_
        · intro w_ hSw_; (try dsimp only at hSw_); go_simp
        refine takeV (i := 6) (v := .agg #[.slice qA P.length qc, .slice qB Q.length qd]) (by (simp only [List.getElem?_toArray, List.getElem?_cons_succ, List.getElem?_cons_zero]); rfl) (by kernel_rfl) (by kernel_rfl) (by kernel_rfl) (by rfl) (fun _ _ _ h => h) (Or.inl ⟨by rfl, ?_⟩) hS_ (by (simp only [List.setIfInBounds_toArray, List.set_cons_succ, List.set_cons_zero]); rfl) ?_
        · intro w_ hSw_; (try dsimp only at hSw_); go_simp
        refine takeV (i := 7) (v := .bool q) (by (simp only [List.getElem?_toArray, List.getElem?_cons_succ, List.getElem?_cons_zero]); rfl) (by kernel_rfl) (by kernel_rfl) (by kernel_rfl) (by rfl) (fun _ _ _ h => h) (Or.inl ⟨by rfl, ?_⟩) hS_ (by (simp only [List.setIfInBounds_toArray, List.set_cons_succ, List.set_cons_zero]); rfl) ?_
        · intro w_ hSw_; (try dsimp only at hSw_); go_simp
        refine wpAnyH_ready (rs := [8]) (by kernel_rfl) (by simp) ?_
        refine AllReadyH.cons (o := _) (by (simp only [List.getElem?_toArray, List.getElem?_cons_succ, List.getElem?_cons_zero]); rfl) (fun K_ hK_ => ?_) AllReadyH.nil
        rw [if_pos (by rfl)]
        go_simp
        have hb_260 := below1 W256 (.cells #[.slice none 0 0, .slice none 0 0] 53)
        have bx_260 := Blk.new W256 53 #[.slice none 0 0, .slice none 0 0]
        obtain ⟨W260, hw_260⟩ : ∃ X, W256.alloc (.cells #[.slice none 0 0, .slice none 0 0] 53) = X := ⟨_, rfl⟩
        rw [hw_260] at hb_260 bx_260 ⊢; clear hw_260
        have hz_261 : W256.heap.size ≤ W260.heap.size := hb_260.size
        have HB_261 := belowThen HB_257 hb_260
        have bA_261 := Lib.hid (bA_257.out.below hb_260); clear bA_257
        have bB_261 := Lib.hid (bB_257.out.below hb_260); clear bB_257
        have low_261 := Lib.hid (belowThen low_257.out hb_260); clear low_257
        have p1_261 := Lib.hid (p1_258.out.below hb_260 (by omega)); clear p1_258
        have p2_261 := Lib.hid (p2_259.out.below hb_260 (by omega)); clear p2_259
        clear HB_257
        have bT_262 := Lib.hid (bx_260)
        have bT0 : W256.heap.size < W260.heap.size := bT_262.out.lt
        clear bx_260 hb_260
        refine hK_.out _ _ ⟨⟨bA_261.out.cell 0, bA_261.out.cell 1⟩, bB_261.out.cell 0, bB_261.out.cell 1⟩ (fun hS2_ => ?_)
        clear hK_ hS_; have hS_ := hS2_; clear hS2_
        refine wpAnyH_ready (rs := [9]) (by kernel_rfl) (by simp) ?_
        refine AllReadyH.cons (o := _) (by (simp only [List.getElem?_toArray, List.getElem?_cons_succ, List.getElem?_cons_zero]); rfl) (fun K_ hK_ => ?_) AllReadyH.nil
        have u_263 : W260.cell? ⟨W256.heap.size, 0, none⟩ = some (.slice none 0 0) := bT_262.out.cell 0
        have u_264 : W260.cell? ⟨W256.heap.size, 1, none⟩ = some (.slice none 0 0) := bT_262.out.cell 1
        have u_f0 := bT_262.out.frozen 0; have u_f1 := bT_262.out.frozen 1
        rw [if_pos (by rfl)]
        go_simp
        clear u_263 u_264 u_f0 u_f1
        obtain ⟨W265, hs_265⟩ : ∃ X, (W260.setCell ⟨W256.heap.size, 0, none⟩ (.slice qA P.length qc)).setCell ⟨W256.heap.size, 1, none⟩ (.slice qB Q.length qd) = X := ⟨_, rfl⟩
        have hz_265 : W260.heap.size ≤ W265.heap.size := by rw [← hs_265, size_setCell, size_setCell]; exact Nat.le_refl _
        have hy_265 : W265.heap.size ≤ W260.heap.size := by rw [← hs_265, size_setCell, size_setCell]; exact Nat.le_refl _
        have HB_266 := (show Below w.heap.size w W265 from by rw [← hs_265]; exact (HB_261.setCell (p := ⟨W256.heap.size, 0, none⟩) (by first | omega | (simp only; omega)) (.slice qA P.length qc)).setCell (p := ⟨W256.heap.size, 1, none⟩) (by first | omega | (simp only; omega)) (.slice qB Q.length qd))
        have bA_266 := Lib.hid (show Blk W265 (w.heap.size) 49 #[.slice A1 n1 c1, .slice A2 n2 c2] from by rw [← hs_265]; exact ((bA_261.out).far (p := ⟨W256.heap.size, 0, none⟩) (by first | omega | (simp only; omega)) (.slice qA P.length qc)).far (p := ⟨W256.heap.size, 1, none⟩) (by first | omega | (simp only; omega)) (.slice qB Q.length qd)); clear bA_261
        have bB_266 := Lib.hid (show Blk W265 (w.heap.size + 1) 49 #[.slice B1 m1 d1, .slice B2 m2 d2] from by rw [← hs_265]; exact ((bB_261.out).far (p := ⟨W256.heap.size, 0, none⟩) (by first | omega | (simp only; omega)) (.slice qA P.length qc)).far (p := ⟨W256.heap.size, 1, none⟩) (by first | omega | (simp only; omega)) (.slice qB Q.length qd)); clear bB_261
        have low_266 := Lib.hid (show Below W9.heap.size W9 W265 from by rw [← hs_265]; exact ((low_261.out).setCell (p := ⟨W256.heap.size, 0, none⟩) (by first | omega | (simp only; omega)) (.slice qA P.length qc)).setCell (p := ⟨W256.heap.size, 1, none⟩) (by first | omega | (simp only; omega)) (.slice qB Q.length qd)); clear low_261
        have p1_266 := Lib.hid (OwnRefs.keep p1_261.out (w' := W265) (fun b h1 h2 => by rw [← hs_265]; exact set2_far (by omega)) (Nat.le_refl _) (Nat.le_refl _)); clear p1_261
        have p2_266 := Lib.hid (OwnRefs.keep p2_261.out (w' := W265) (fun b h1 h2 => by rw [← hs_265]; exact set2_far (by omega)) (Nat.le_refl _) (Nat.le_refl _)); clear p2_261
        have bT_266 := Lib.hid (show Blk W265 (W256.heap.size) 53 #[.slice qA P.length qc, .slice qB Q.length qd] from by rw [← hs_265]; exact (bT_262.out.set 0 (.slice qA P.length qc)).set 1 (.slice qB Q.length qd)); clear bT_262
        clear HB_261
        rw [hs_265]; clear hs_265
        refine hK_.out _ _ ⟨⟨bA_266.out.cell 0, bA_266.out.cell 1⟩, bB_266.out.cell 0, bB_266.out.cell 1⟩ (fun hS2_ => ?_)
        clear hK_ hS_; have hS_ := hS2_; clear hS2_
        refine takeV (i := 10) (v := .bool q) (by (simp only [List.getElem?_toArray, List.getElem?_cons_succ, List.getElem?_cons_zero]); rfl) (by kernel_rfl) (by kernel_rfl) (by kernel_rfl) (by rfl) (fun _ _ _ h => h) (Or.inl ⟨by rfl, ?_⟩) hS_ (by (simp only [List.setIfInBounds_toArray, List.set_cons_succ, List.set_cons_zero]); rfl) ?_
        · intro w_ hSw_; (try dsimp only at hSw_); go_simp
        refine wpAnyH_done (by kernel_rfl) ?_ _
        clear hS_ hV242
        have r_267 := (p1_266.out.atoms.keep AtomE.stays (lo' := 0) (hi' := W265.heap.size) (fun _ _ _ => rfl) (Nat.zero_le _) (by omega))
        rw [qM.out] at r_267
        have r_268 := (p2_266.out.atoms.keep AtomE.stays (lo' := 0) (hi' := W265.heap.size) (fun _ _ _ => rfl) (Nat.zero_le _) (by omega))
        rw [qN.out] at r_268
        exact HRESTK1.out W256.heap.size yaA yaB ybA ybB qA qB qc qd W265 low_266.out bT_266.out.lt bT_266.out r_267 r_268
      · rw [if_pos (by rfl)]
        go_simp
        have hb_269 := below1 W248 (.cells #[.slice none 0 0, .slice none 0 0] 53)
        have bx_269 := Blk.new W248 53 #[.slice none 0 0, .slice none 0 0]
        obtain ⟨W269, hw_269⟩ : ∃ X, W248.alloc (.cells #[.slice none 0 0, .slice none 0 0] 53) = X := ⟨_, rfl⟩
        rw [hw_269] at hb_269 bx_269 ⊢; clear hw_269
        have hz_270 : W248.heap.size ≤ W269.heap.size := hb_269.size
        have HB_270 := belowThen HB_249 hb_269
        have bA_270 := Lib.hid (bA_249.out.below hb_269); clear bA_249
        have bB_270 := Lib.hid (bB_249.out.below hb_269); clear bB_249
        have low_270 := Lib.hid (belowThen low_249.out hb_269); clear low_249
        have s1_270 := Lib.hid (s1_249.out.below hb_269 (by omega)); clear s1_249
        have s2_270 := Lib.hid (s2_249.out.below hb_269 (by omega)); clear s2_249
        have s3_270 := Lib.hid (s3_250.out.below hb_269 (by omega)); clear s3_250
        have s4_270 := Lib.hid (s4_251.out.below hb_269 (by omega)); clear s4_251
        clear HB_249
        have bT_271 := Lib.hid (bx_269)
        have bT0 : W248.heap.size < W269.heap.size := bT_271.out.lt
        clear bx_269 hb_269
        refine hK_.out _ _ ⟨⟨bA_270.out.cell 0, bA_270.out.cell 1⟩, bB_270.out.cell 0, bB_270.out.cell 1⟩ (fun hS2_ => ?_)
        clear hK_ hS_; have hS_ := hS2_; clear hS2_
        refine wpAnyH_ready (rs := [4]) (by kernel_rfl) (by simp) ?_
        refine AllReadyH.cons (o := _) (by (simp only [List.getElem?_toArray, List.getElem?_cons_succ, List.getElem?_cons_zero]); rfl) (fun K_ hK_ => ?_) AllReadyH.nil
        rw [if_pos (by rfl)]
        go_simp
        have r_272 := (s1_270.out.atoms.keep AtomE.stays (lo' := 0) (hi' := W269.heap.size) (fun _ _ _ => rfl) (Nat.zero_le _) (by omega))
        rw [yaM.out] at r_272
        have r_273 := (s2_270.out.atoms.keep AtomE.stays (lo' := 0) (hi' := W269.heap.size) (fun _ _ _ => rfl) (Nat.zero_le _) (by omega))
        rw [yaN.out] at r_273
        have r_274 := (s3_270.out.atoms.keep AtomE.stays (lo' := 0) (hi' := W269.heap.size) (fun _ _ _ => rfl) (Nat.zero_le _) (by omega))
        rw [ybM.out] at r_274
        have r_275 := (s4_270.out.atoms.keep AtomE.stays (lo' := 0) (hi' := W269.heap.size) (fun _ _ _ => rfl) (Nat.zero_le _) (by omega))
        rw [ybN.out] at r_275
        go_at_call 46
        refine (CS.out yaA yaB ybA ybB n1 n1 n2 n2 m1 m1 m2 m2 _ r_272 r_273 r_274 r_275).mono ?_; rintro e W276 ⟨qA, qc, qr, qB, qd, qz, qmid, rfl, ⟨qo, qm⟩, ⟨qp, qn⟩, ⟨qs, qt⟩, hb_276⟩
        clear r_272 r_273 r_274 r_275
        have qM := Lib.hid qm; have qN := Lib.hid qn; clear qm qn
        have hz_277 : W269.heap.size ≤ W276.heap.size := hb_276.size
        have HB_277 := belowThen HB_270 hb_276
        have bA_277 := Lib.hid (bA_270.out.below hb_276); clear bA_270
        have bB_277 := Lib.hid (bB_270.out.below hb_276); clear bB_270
        have low_277 := Lib.hid (belowThen low_270.out hb_276); clear low_270
        have s1_277 := Lib.hid (s1_270.out.below hb_276 (by omega)); clear s1_270
        have s2_277 := Lib.hid (s2_270.out.below hb_276 (by omega)); clear s2_270
        have s3_277 := Lib.hid (s3_270.out.below hb_276 (by omega)); clear s3_270
        have s4_277 := Lib.hid (s4_270.out.below hb_276 (by omega)); clear s4_270
        have bT_277 := Lib.hid (bT_271.out.below hb_276); clear bT_271
        clear HB_270
        have p1_278 := Lib.hid (qo)
        have p2_279 := Lib.hid (qp)
        clear qo qp
        clear s1_277
        clear s2_277
        clear s3_277
        clear s4_277
        refine hK_.out _ _ ⟨⟨bA_277.out.cell 0, bA_277.out.cell 1⟩, bB_277.out.cell 0, bB_277.out.cell 1⟩ (fun hS2_ => ?_)
        clear hK_ hS_; have hS_ := hS2_; clear hS2_
        refine takeV (i := 5) (v := .tuple #[.agg #[.slice qA P.length qc, .slice qB Q.length qd], .bool q]) (by (simp only [List.getElem?_toArray, List.getElem?_cons_succ, List.getElem?_cons_zero]); rfl) (by kernel_rfl) (by kernel_rfl) (by kernel_rfl) (by rfl) (fun _ _ _ h => h) (Or.inl ⟨by rfl, ?_⟩) hS_ (by (simp only [List.setIfInBounds_toArray, List.set_cons_succ, List.set_cons_zero]); rfl) ?_
        · intro w_ hSw_; (try dsimp only at hSw_); go_simp
        refine takeV (i := 6) (v := .agg #[.slice qA P.length qc, .slice qB Q.length qd]) (by (simp only [List.getElem?_toArray, List.getElem?_cons_succ, List.getElem?_cons_zero]); rfl) (by kernel_rfl) (by kernel_rfl) (by kernel_rfl) (by rfl) (fun _ _ _ h => h) (Or.inl ⟨by rfl, ?_⟩) hS_ (by (simp only [List.setIfInBounds_toArray, List.set_cons_succ, List.set_cons_zero]); rfl) ?_
        · intro w_ hSw_; (try dsimp only at hSw_); go_simp
        refine takeV (i := 7) (v := .bool q) (by (simp only [List.getElem?_toArray, List.getElem?_cons_succ, List.getElem?_cons_zero]); rfl) (by kernel_rfl) (by kernel_rfl) (by kernel_rfl) (by rfl) (fun _ _ _ h => h) (Or.inl ⟨by rfl, ?_⟩) hS_ (by (simp only [List.setIfInBounds_toArray, List.set_cons_succ, List.set_cons_zero]); rfl) ?_
        · intro w_ hSw_; (try dsimp only at hSw_); go_simp
        refine wpAnyH_ready (rs := [9]) (by kernel_rfl) (by simp) ?_
        refine AllReadyH.cons (o := _) (by (simp only [List.getElem?_toArray, List.getElem?_cons_succ, List.getElem?_cons_zero]); rfl) (fun K_ hK_ => ?_) AllReadyH.nil
        have u_280 : W276.cell? ⟨W248.heap.size, 0, none⟩ = some (.slice none 0 0) := bT_277.out.cell 0
        have u_281 : W276.cell? ⟨W248.heap.size, 1, none⟩ = some (.slice none 0 0) := bT_277.out.cell 1
        have u_f0 := bT_277.out.frozen 0; have u_f1 := bT_277.out.frozen 1
        rw [if_pos (by rfl)]
        go_simp
        clear u_280 u_281 u_f0 u_f1
        obtain ⟨W282, hs_282⟩ : ∃ X, (W276.setCell ⟨W248.heap.size, 0, none⟩ (.slice qA P.length qc)).setCell ⟨W248.heap.size, 1, none⟩ (.slice qB Q.length qd) = X := ⟨_, rfl⟩
        have hz_282 : W276.heap.size ≤ W282.heap.size := by rw [← hs_282, size_setCell, size_setCell]; exact Nat.le_refl _
        have hy_282 : W282.heap.size ≤ W276.heap.size := by rw [← hs_282, size_setCell, size_setCell]; exact Nat.le_refl _
        have HB_283 := (show Below w.heap.size w W282 from by rw [← hs_282]; exact (HB_277.setCell (p := ⟨W248.heap.size, 0, none⟩) (by first | omega | (simp only; omega)) (.slice qA P.length qc)).setCell (p := ⟨W248.heap.size, 1, none⟩) (by first | omega | (simp only; omega)) (.slice qB Q.length qd))
        have bA_283 := Lib.hid (show Blk W282 (w.heap.size) 49 #[.slice A1 n1 c1, .slice A2 n2 c2] from by rw [← hs_282]; exact ((bA_277.out).far (p := ⟨W248.heap.size, 0, none⟩) (by first | omega | (simp only; omega)) (.slice qA P.length qc)).far (p := ⟨W248.heap.size, 1, none⟩) (by first | omega | (simp only; omega)) (.slice qB Q.length qd)); clear bA_277
        have bB_283 := Lib.hid (show Blk W282 (w.heap.size + 1) 49 #[.slice B1 m1 d1, .slice B2 m2 d2] from by rw [← hs_282]; exact ((bB_277.out).far (p := ⟨W248.heap.size, 0, none⟩) (by first | omega | (simp only; omega)) (.slice qA P.length qc)).far (p := ⟨W248.heap.size, 1, none⟩) (by first | omega | (simp only; omega)) (.slice qB Q.length qd)); clear bB_277
        have low_283 := Lib.hid (show Below W9.heap.size W9 W282 from by rw [← hs_282]; exact ((low_277.out).setCell (p := ⟨W248.heap.size, 0, none⟩) (by first | omega | (simp only; omega)) (.slice qA P.length qc)).setCell (p := ⟨W248.heap.size, 1, none⟩) (by first | omega | (simp only; omega)) (.slice qB Q.length qd)); clear low_277
        have bT_283 := Lib.hid (show Blk W282 (W248.heap.size) 53 #[.slice qA P.length qc, .slice qB Q.length qd] from by rw [← hs_282]; exact (bT_277.out.set 0 (.slice qA P.length qc)).set 1 (.slice qB Q.length qd)); clear bT_277
        have p1_283 := Lib.hid (OwnRefs.keep p1_278.out (w' := W282) (fun b h1 h2 => by rw [← hs_282]; exact set2_far (by omega)) (Nat.le_refl _) (Nat.le_refl _)); clear p1_278
        have p2_283 := Lib.hid (OwnRefs.keep p2_279.out (w' := W282) (fun b h1 h2 => by rw [← hs_282]; exact set2_far (by omega)) (Nat.le_refl _) (Nat.le_refl _)); clear p2_279
        clear HB_277
        rw [hs_282]; clear hs_282
        refine hK_.out _ _ ⟨⟨bA_283.out.cell 0, bA_283.out.cell 1⟩, bB_283.out.cell 0, bB_283.out.cell 1⟩ (fun hS2_ => ?_)
        clear hK_ hS_; have hS_ := hS2_; clear hS2_
        refine takeV (i := 10) (v := .bool q) (by (simp only [List.getElem?_toArray, List.getElem?_cons_succ, List.getElem?_cons_zero]); rfl) (by kernel_rfl) (by kernel_rfl) (by kernel_rfl) (by rfl) (fun _ _ _ h => h) (Or.inl ⟨by rfl, ?_⟩) hS_ (by (simp only [List.setIfInBounds_toArray, List.set_cons_succ, List.set_cons_zero]); rfl) ?_
        · intro w_ hSw_; (try dsimp only at hSw_); go_simp
        refine wpAnyH_done (by kernel_rfl) ?_ _
        clear hS_ hV242
        have r_284 := (p1_283.out.atoms.keep AtomE.stays (lo' := 0) (hi' := W282.heap.size) (fun _ _ _ => rfl) (Nat.zero_le _) (by omega))
        rw [qM.out] at r_284
        have r_285 := (p2_283.out.atoms.keep AtomE.stays (lo' := 0) (hi' := W282.heap.size) (fun _ _ _ => rfl) (Nat.zero_le _) (by omega))
        rw [qN.out] at r_285
        exact HRESTK1.out W248.heap.size yaA yaB ybA ybB qA qB qc qd W282 low_283.out bT_283.out.lt bT_283.out r_284 r_285
    · rw [if_pos (by rfl)]
      go_simp
      have hb_286 := below1 W244 (.cells #[.slice none 0 0, .slice none 0 0] 53)
      have bx_286 := Blk.new W244 53 #[.slice none 0 0, .slice none 0 0]
      obtain ⟨W286, hw_286⟩ : ∃ X, W244.alloc (.cells #[.slice none 0 0, .slice none 0 0] 53) = X := ⟨_, rfl⟩
      rw [hw_286] at hb_286 bx_286 ⊢; clear hw_286
      have hz_287 : W244.heap.size ≤ W286.heap.size := hb_286.size
      have HB_287 := belowThen HB_245 hb_286
      have bA_287 := Lib.hid (bA_245.out.below hb_286); clear bA_245
      have bB_287 := Lib.hid (bB_245.out.below hb_286); clear bB_245
      have low_287 := Lib.hid (belowThen low_245.out hb_286); clear low_245
      have s1_287 := Lib.hid (s1_246.out.below hb_286 (by omega)); clear s1_246
      have s2_287 := Lib.hid (s2_247.out.below hb_286 (by omega)); clear s2_247
      clear HB_245
      have bT_288 := Lib.hid (bx_286)
      have bT0 : W244.heap.size < W286.heap.size := bT_288.out.lt
      clear bx_286 hb_286
      refine hK_.out _ _ ⟨⟨bA_287.out.cell 0, bA_287.out.cell 1⟩, bB_287.out.cell 0, bB_287.out.cell 1⟩ (fun hS2_ => ?_)
      clear hK_ hS_; have hS_ := hS2_; clear hS2_
      refine wpAnyH_ready (rs := [3]) (by kernel_rfl) (by simp) ?_
      refine AllReadyH.cons (o := _) (by (simp only [List.getElem?_toArray, List.getElem?_cons_succ, List.getElem?_cons_zero]); rfl) (fun K_ hK_ => ?_) AllReadyH.nil
      rw [if_pos (by rfl)]
      go_simp
      go_at_call 37
      refine (toChange_own B1 B2 m1 d1 m2 d2 cb gb _ (H3.out.up AtomE.stays HB_287) (H4.out.up AtomE.stays HB_287) HN'.out).mono ?_; rintro e W289 ⟨ybA, ybB, ybr, ybz, ybmid, rfl, ⟨ybo, ybm⟩, ⟨ybp, ybn⟩, ⟨ybs, ybt⟩, hb_289⟩
      have ybM := Lib.hid ybm; have ybN := Lib.hid ybn; clear ybm ybn
      have hz_290 : W286.heap.size ≤ W289.heap.size := hb_289.size
      have HB_290 := belowThen HB_287 hb_289
      have bA_290 := Lib.hid (bA_287.out.below hb_289); clear bA_287
      have bB_290 := Lib.hid (bB_287.out.below hb_289); clear bB_287
      have low_290 := Lib.hid (belowThen low_287.out hb_289); clear low_287
      have s1_290 := Lib.hid (s1_287.out.below hb_289 (by omega)); clear s1_287
      have s2_290 := Lib.hid (s2_287.out.below hb_289 (by omega)); clear s2_287
      have bT_290 := Lib.hid (bT_288.out.below hb_289); clear bT_288
      clear HB_287
      have s3_291 := Lib.hid (ybo)
      have s4_292 := Lib.hid (ybp)
      clear ybo ybp
      refine hK_.out _ _ ⟨⟨bA_290.out.cell 0, bA_290.out.cell 1⟩, bB_290.out.cell 0, bB_290.out.cell 1⟩ (fun hS2_ => ?_)
      clear hK_ hS_; have hS_ := hS2_; clear hS2_
      refine wpAnyH_ready (rs := [4]) (by kernel_rfl) (by simp) ?_
      refine AllReadyH.cons (o := _) (by (simp only [List.getElem?_toArray, List.getElem?_cons_succ, List.getElem?_cons_zero]); rfl) (fun K_ hK_ => ?_) AllReadyH.nil
      rw [if_pos (by rfl)]
      go_simp
      have r_293 := (s1_290.out.atoms.keep AtomE.stays (lo' := 0) (hi' := W289.heap.size) (fun _ _ _ => rfl) (Nat.zero_le _) (by omega))
      rw [yaM.out] at r_293
      have r_294 := (s2_290.out.atoms.keep AtomE.stays (lo' := 0) (hi' := W289.heap.size) (fun _ _ _ => rfl) (Nat.zero_le _) (by omega))
      rw [yaN.out] at r_294
      have r_295 := (s3_291.out.atoms.keep AtomE.stays (lo' := 0) (hi' := W289.heap.size) (fun _ _ _ => rfl) (Nat.zero_le _) (by omega))
      rw [ybM.out] at r_295
      have r_296 := (s4_292.out.atoms.keep AtomE.stays (lo' := 0) (hi' := W289.heap.size) (fun _ _ _ => rfl) (Nat.zero_le _) (by omega))
      rw [ybN.out] at r_296
      go_at_call 46
      refine (CS.out yaA yaB ybA ybB n1 n1 n2 n2 m1 m1 m2 m2 _ r_293 r_294 r_295 r_296).mono ?_; rintro e W297 ⟨qA, qc, qr, qB, qd, qz, qmid, rfl, ⟨qo, qm⟩, ⟨qp, qn⟩, ⟨qs, qt⟩, hb_297⟩
      clear r_293 r_294 r_295 r_296
      have qM := Lib.hid qm; have qN := Lib.hid qn; clear qm qn
      have hz_298 : W289.heap.size ≤ W297.heap.size := hb_297.size
      have HB_298 := belowThen HB_290 hb_297
      have bA_298 := Lib.hid (bA_290.out.below hb_297); clear bA_290
      have bB_298 := Lib.hid (bB_290.out.below hb_297); clear bB_290
      have low_298 := Lib.hid (belowThen low_290.out hb_297); clear low_290
      have s1_298 := Lib.hid (s1_290.out.below hb_297 (by omega)); clear s1_290
      have s2_298 := Lib.hid (s2_290.out.below hb_297 (by omega)); clear s2_290
      have bT_298 := Lib.hid (bT_290.out.below hb_297); clear bT_290
      have s3_298 := Lib.hid (s3_291.out.below hb_297 (by omega)); clear s3_291
      have s4_298 := Lib.hid (s4_292.out.below hb_297 (by omega)); clear s4_292
      clear HB_290
      have p1_299 := Lib.hid (qo)
      have p2_300 := Lib.hid (qp)
      clear qo qp
      clear s1_298
      clear s2_298
      clear s3_298
      clear s4_298
      refine hK_.out _ _ ⟨⟨bA_298.out.cell 0, bA_298.out.cell 1⟩, bB_298.out.cell 0, bB_298.out.cell 1⟩ (fun hS2_ => ?_)
      clear hK_ hS_; have hS_ := hS2_; clear hS2_
      refine takeV (i := 5) (v := .tuple #[.agg #[.slice qA P.length qc, .slice qB Q.length qd], .bool q]) (by (simp only [List.getElem?_toArray, List.getElem?_cons_succ, List.getElem?_cons_zero]); rfl) (by kernel_rfl) (by kernel_rfl) (by kernel_rfl) (by rfl) (fun _ _ _ h => h) (Or.inl ⟨by rfl, ?_⟩) hS_ (by (simp only [List.setIfInBounds_toArray, List.set_cons_succ, List.set_cons_zero]); rfl) ?_
      · intro w_ hSw_; (try dsimp only at hSw_); go_simp
      refine takeV (i := 6) (v := .agg #[.slice qA P.length qc, .slice qB Q.length qd]) (by (simp only [List.getElem?_toArray, List.getElem?_cons_succ, List.getElem?_cons_zero]); rfl) (by kernel_rfl) (by kernel_rfl) (by kernel_rfl) (by rfl) (fun _ _ _ h => h) (Or.inl ⟨by rfl, ?_⟩) hS_ (by (simp only [List.setIfInBounds_toArray, List.set_cons_succ, List.set_cons_zero]); rfl) ?_
      · intro w_ hSw_; (try dsimp only at hSw_); go_simp
      refine takeV (i := 7) (v := .bool q) (by (simp only [List.getElem?_toArray, List.getElem?_cons_succ, List.getElem?_cons_zero]); rfl) (by kernel_rfl) (by kernel_rfl) (by kernel_rfl) (by rfl) (fun _ _ _ h => h) (Or.inl ⟨by rfl, ?_⟩) hS_ (by (simp only [List.setIfInBounds_toArray, List.set_cons_succ, List.set_cons_zero]); rfl) ?_
      · intro w_ hSw_; (try dsimp only at hSw_); go_simp
      refine wpAnyH_ready (rs := [9]) (by kernel_rfl) (by simp) ?_
      refine AllReadyH.cons (o := _) (by (simp only [List.getElem?_toArray, List.getElem?_cons_succ, List.getElem?_cons_zero]); rfl) (fun K_ hK_ => ?_) AllReadyH.nil
      have u_301 : W297.cell? ⟨W244.heap.size, 0, none⟩ = some (.slice none 0 0) := bT_298.out.cell 0
      have u_302 : W297.cell? ⟨W244.heap.size, 1, none⟩ = some (.slice none 0 0) := bT_298.out.cell 1
      have u_f0 := bT_298.out.frozen 0; have u_f1 := bT_298.out.frozen 1
      rw [if_pos (by rfl)]
      go_simp
      clear u_301 u_302 u_f0 u_f1
      obtain ⟨W303, hs_303⟩ : ∃ X, (W297.setCell ⟨W244.heap.size, 0, none⟩ (.slice qA P.length qc)).setCell ⟨W244.heap.size, 1, none⟩ (.slice qB Q.length qd) = X := ⟨_, rfl⟩
      have hz_303 : W297.heap.size ≤ W303.heap.size := by rw [← hs_303, size_setCell, size_setCell]; exact Nat.le_refl _
      have hy_303 : W303.heap.size ≤ W297.heap.size := by rw [← hs_303, size_setCell, size_setCell]; exact Nat.le_refl _
      have HB_304 := (show Below w.heap.size w W303 from by rw [← hs_303]; exact (HB_298.setCell (p := ⟨W244.heap.size, 0, none⟩) (by first | omega | (simp only; omega)) (.slice qA P.length qc)).setCell (p := ⟨W244.heap.size, 1, none⟩) (by first | omega | (simp only; omega)) (.slice qB Q.length qd))
      have bA_304 := Lib.hid (show Blk W303 (w.heap.size) 49 #[.slice A1 n1 c1, .slice A2 n2 c2] from by rw [← hs_303]; exact ((bA_298.out).far (p := ⟨W244.heap.size, 0, none⟩) (by first | omega | (simp only; omega)) (.slice qA P.length qc)).far (p := ⟨W244.heap.size, 1, none⟩) (by first | omega | (simp only; omega)) (.slice qB Q.length qd)); clear bA_298
      have bB_304 := Lib.hid (show Blk W303 (w.heap.size + 1) 49 #[.slice B1 m1 d1, .slice B2 m2 d2] from by rw [← hs_303]; exact ((bB_298.out).far (p := ⟨W244.heap.size, 0, none⟩) (by first | omega | (simp only; omega)) (.slice qA P.length qc)).far (p := ⟨W244.heap.size, 1, none⟩) (by first | omega | (simp only; omega)) (.slice qB Q.length qd)); clear bB_298
      have low_304 := Lib.hid (show Below W9.heap.size W9 W303 from by rw [← hs_303]; exact ((low_298.out).setCell (p := ⟨W244.heap.size, 0, none⟩) (by first | omega | (simp only; omega)) (.slice qA P.length qc)).setCell (p := ⟨W244.heap.size, 1, none⟩) (by first | omega | (simp only; omega)) (.slice qB Q.length qd)); clear low_298
      have bT_304 := Lib.hid (show Blk W303 (W244.heap.size) 53 #[.slice qA P.length qc, .slice qB Q.length qd] from by rw [← hs_303]; exact (bT_298.out.set 0 (.slice qA P.length qc)).set 1 (.slice qB Q.length qd)); clear bT_298
      have p1_304 := Lib.hid (OwnRefs.keep p1_299.out (w' := W303) (fun b h1 h2 => by rw [← hs_303]; exact set2_far (by omega)) (Nat.le_refl _) (Nat.le_refl _)); clear p1_299
      have p2_304 := Lib.hid (OwnRefs.keep p2_300.out (w' := W303) (fun b h1 h2 => by rw [← hs_303]; exact set2_far (by omega)) (Nat.le_refl _) (Nat.le_refl _)); clear p2_300
      clear HB_298
      rw [hs_303]; clear hs_303
      refine hK_.out _ _ ⟨⟨bA_304.out.cell 0, bA_304.out.cell 1⟩, bB_304.out.cell 0, bB_304.out.cell 1⟩ (fun hS2_ => ?_)
      clear hK_ hS_; have hS_ := hS2_; clear hS2_
      refine takeV (i := 10) (v := .bool q) (by (simp only [List.getElem?_toArray, List.getElem?_cons_succ, List.getElem?_cons_zero]); rfl) (by kernel_rfl) (by kernel_rfl) (by kernel_rfl) (by rfl) (fun _ _ _ h => h) (Or.inl ⟨by rfl, ?_⟩) hS_ (by (simp only [List.setIfInBounds_toArray, List.set_cons_succ, List.set_cons_zero]); rfl) ?_
      · intro w_ hSw_; (try dsimp only at hSw_); go_simp
      refine wpAnyH_done (by kernel_rfl) ?_ _
      clear hS_ hV242
      have r_305 := (p1_304.out.atoms.keep AtomE.stays (lo' := 0) (hi' := W303.heap.size) (fun _ _ _ => rfl) (Nat.zero_le _) (by omega))
      rw [qM.out] at r_305
      have r_306 := (p2_304.out.atoms.keep AtomE.stays (lo' := 0) (hi' := W303.heap.size) (fun _ _ _ => rfl) (Nat.zero_le _) (by omega))
      rw [qN.out] at r_306
      exact HRESTK1.out W244.heap.size yaA yaB ybA ybB qA qB qc qd W303 low_304.out bT_304.out.lt bT_304.out r_305 r_306
  · rw [if_pos (by rfl)]
    go_simp
    have hb_307 := below1 V242 (.cells #[.slice none 0 0, .slice none 0 0] 53)
    have bx_307 := Blk.new V242 53 #[.slice none 0 0, .slice none 0 0]
    obtain ⟨W307, hw_307⟩ : ∃ X, V242.alloc (.cells #[.slice none 0 0, .slice none 0 0] 53) = X := ⟨_, rfl⟩
    rw [hw_307] at hb_307 bx_307 ⊢; clear hw_307
    have hz_308 : V242.heap.size ≤ W307.heap.size := hb_307.size
    have HB_308 := belowThen HB_243 hb_307
    have bA_308 := Lib.hid (bA_243.out.below hb_307); clear bA_243
    have bB_308 := Lib.hid (bB_243.out.below hb_307); clear bB_243
    have low_308 := Lib.hid (belowThen low_243.out hb_307); clear low_243
    clear HB_243
    have bT_309 := Lib.hid (bx_307)
    have bT0 : V242.heap.size < W307.heap.size := bT_309.out.lt
    clear bx_307 hb_307
    refine hK_.out _ _ ⟨⟨bA_308.out.cell 0, bA_308.out.cell 1⟩, bB_308.out.cell 0, bB_308.out.cell 1⟩ (fun hS2_ => ?_)
    clear hK_ hS_; have hS_ := hS2_; clear hS2_
    refine wpAnyH_ready (rs := [1]) (by kernel_rfl) (by simp) ?_
    refine AllReadyH.cons (o := _) (by (simp only [List.getElem?_toArray, List.getElem?_cons_succ, List.getElem?_cons_zero]); rfl) (fun K_ hK_ => ?_) AllReadyH.nil
    rw [if_pos (by rfl)]
    go_simp
    go_at_call 37
    refine (toChange_own A1 A2 n1 c1 n2 c2 ca ga _ (H1.out.up AtomE.stays HB_308) (H2.out.up AtomE.stays HB_308) HN.out).mono ?_; rintro e W310 ⟨yaA, yaB, yar, yaz, yamid, rfl, ⟨yao, yam⟩, ⟨yap, yan⟩, ⟨yas, yat⟩, hb_310⟩
    have yaM := Lib.hid yam; have yaN := Lib.hid yan; clear yam yan
    have hz_311 : W307.heap.size ≤ W310.heap.size := hb_310.size
    have HB_311 := belowThen HB_308 hb_310
    have bA_311 := Lib.hid (bA_308.out.below hb_310); clear bA_308
    have bB_311 := Lib.hid (bB_308.out.below hb_310); clear bB_308
    have low_311 := Lib.hid (belowThen low_308.out hb_310); clear low_308
    have bT_311 := Lib.hid (bT_309.out.below hb_310); clear bT_309
    clear HB_308
    have s1_312 := Lib.hid (yao)
    have s2_313 := Lib.hid (yap)
    clear yao yap
    refine hK_.out _ _ ⟨⟨bA_311.out.cell 0, bA_311.out.cell 1⟩, bB_311.out.cell 0, bB_311.out.cell 1⟩ (fun hS2_ => ?_)
    clear hK_ hS_; have hS_ := hS2_; clear hS2_
    refine wpAnyH_ready (rs := [3]) (by kernel_rfl) (by simp) ?_
    refine AllReadyH.cons (o := _) (by (simp only [List.getElem?_toArray, List.getElem?_cons_succ, List.getElem?_cons_zero]); rfl) (fun K_ hK_ => ?_) AllReadyH.nil
    rw [if_pos (by rfl)]
    go_simp
    go_at_call 37
    refine (toChange_own B1 B2 m1 d1 m2 d2 cb gb _ (H3.out.up AtomE.stays HB_311) (H4.out.up AtomE.stays HB_311) HN'.out).mono ?_; rintro e W314 ⟨ybA, ybB, ybr, ybz, ybmid, rfl, ⟨ybo, ybm⟩, ⟨ybp, ybn⟩, ⟨ybs, ybt⟩, hb_314⟩
    have ybM := Lib.hid ybm; have ybN := Lib.hid ybn; clear ybm ybn
    have hz_315 : W310.heap.size ≤ W314.heap.size := hb_314.size
    have HB_315 := belowThen HB_311 hb_314
    have bA_315 := Lib.hid (bA_311.out.below hb_314); clear bA_311
    have bB_315 := Lib.hid (bB_311.out.below hb_314); clear bB_311
    have low_315 := Lib.hid (belowThen low_311.out hb_314); clear low_311
    have bT_315 := Lib.hid (bT_311.out.below hb_314); clear bT_311
    have s1_315 := Lib.hid (s1_312.out.below hb_314 (by omega)); clear s1_312
    have s2_315 := Lib.hid (s2_313.out.below hb_314 (by omega)); clear s2_313
    clear HB_311
    have s3_316 := Lib.hid (ybo)
    have s4_317 := Lib.hid (ybp)
    clear ybo ybp
    refine hK_.out _ _ ⟨⟨bA_315.out.cell 0, bA_315.out.cell 1⟩, bB_315.out.cell 0, bB_315.out.cell 1⟩ (fun hS2_ => ?_)
    clear hK_ hS_; have hS_ := hS2_; clear hS2_
    refine wpAnyH_ready (rs := [4]) (by kernel_rfl) (by simp) ?_
    refine AllReadyH.cons (o := _) (by (simp only [List.getElem?_toArray, List.getElem?_cons_succ, List.getElem?_cons_zero]); rfl) (fun K_ hK_ => ?_) AllReadyH.nil
    rw [if_pos (by rfl)]
    go_simp
    have r_318 := (s1_315.out.atoms.keep AtomE.stays (lo' := 0) (hi' := W314.heap.size) (fun _ _ _ => rfl) (Nat.zero_le _) (by omega))
    rw [yaM.out] at r_318
    have r_319 := (s2_315.out.atoms.keep AtomE.stays (lo' := 0) (hi' := W314.heap.size) (fun _ _ _ => rfl) (Nat.zero_le _) (by omega))
    rw [yaN.out] at r_319
    have r_320 := (s3_316.out.atoms.keep AtomE.stays (lo' := 0) (hi' := W314.heap.size) (fun _ _ _ => rfl) (Nat.zero_le _) (by omega))
    rw [ybM.out] at r_320
    have r_321 := (s4_317.out.atoms.keep AtomE.stays (lo' := 0) (hi' := W314.heap.size) (fun _ _ _ => rfl) (Nat.zero_le _) (by omega))
    rw [ybN.out] at r_321
    go_at_call 46
    refine (CS.out yaA yaB ybA ybB n1 n1 n2 n2 m1 m1 m2 m2 _ r_318 r_319 r_320 r_321).mono ?_; rintro e W322 ⟨qA, qc, qr, qB, qd, qz, qmid, rfl, ⟨qo, qm⟩, ⟨qp, qn⟩, ⟨qs, qt⟩, hb_322⟩
    clear r_318 r_319 r_320 r_321
    have qM := Lib.hid qm; have qN := Lib.hid qn; clear qm qn
    have hz_323 : W314.heap.size ≤ W322.heap.size := hb_322.size
    have HB_323 := belowThen HB_315 hb_322
    have bA_323 := Lib.hid (bA_315.out.below hb_322); clear bA_315
    have bB_323 := Lib.hid (bB_315.out.below hb_322); clear bB_315
    have low_323 := Lib.hid (belowThen low_315.out hb_322); clear low_315
    have bT_323 := Lib.hid (bT_315.out.below hb_322); clear bT_315
    have s1_323 := Lib.hid (s1_315.out.below hb_322 (by omega)); clear s1_315
    have s2_323 := Lib.hid (s2_315.out.below hb_322 (by omega)); clear s2_315
    have s3_323 := Lib.hid (s3_316.out.below hb_322 (by omega)); clear s3_316
    have s4_323 := Lib.hid (s4_317.out.below hb_322 (by omega)); clear s4_317
    clear HB_315
    have p1_324 := Lib.hid (qo)
    have p2_325 := Lib.hid (qp)
    clear qo qp
    clear s1_323
    clear s2_323
    clear s3_323
    clear s4_323
    refine hK_.out _ _ ⟨⟨bA_323.out.cell 0, bA_323.out.cell 1⟩, bB_323.out.cell 0, bB_323.out.cell 1⟩ (fun hS2_ => ?_)
    clear hK_ hS_; have hS_ := hS2_; clear hS2_
    refine takeV (i := 5) (v := .tuple #[.agg #[.slice qA P.length qc, .slice qB Q.length qd], .bool q]) (by (simp only [List.getElem?_toArray, List.getElem?_cons_succ, List.getElem?_cons_zero]); rfl) (by kernel_rfl) (by kernel_rfl) (by kernel_rfl) (by rfl) (fun _ _ _ h => h) (Or.inl ⟨by rfl, ?_⟩) hS_ (by (simp only [List.setIfInBounds_toArray, List.set_cons_succ, List.set_cons_zero]); rfl) ?_
    · intro w_ hSw_; (try dsimp only at hSw_); go_simp
    refine takeV (i := 6) (v := .agg #[.slice qA P.length qc, .slice qB Q.length qd]) (by (simp only [List.getElem?_toArray, List.getElem?_cons_succ, List.getElem?_cons_zero]); rfl) (by kernel_rfl) (by kernel_rfl) (by kernel_rfl) (by rfl) (fun _ _ _ h => h) (Or.inl ⟨by rfl, ?_⟩) hS_ (by (simp only [List.setIfInBounds_toArray, List.set_cons_succ, List.set_cons_zero]); rfl) ?_
    · intro w_ hSw_; (try dsimp only at hSw_); go_simp
    refine takeV (i := 7) (v := .bool q) (by (simp only [List.getElem?_toArray, List.getElem?_cons_succ, List.getElem?_cons_zero]); rfl) (by kernel_rfl) (by kernel_rfl) (by kernel_rfl) (by rfl) (fun _ _ _ h => h) (Or.inl ⟨by rfl, ?_⟩) hS_ (by (simp only [List.setIfInBounds_toArray, List.set_cons_succ, List.set_cons_zero]); rfl) ?_
    · intro w_ hSw_; (try dsimp only at hSw_); go_simp
    refine wpAnyH_ready (rs := [9]) (by kernel_rfl) (by simp) ?_
    refine AllReadyH.cons (o := _) (by (simp only [List.getElem?_toArray, List.getElem?_cons_succ, List.getElem?_cons_zero]); rfl) (fun K_ hK_ => ?_) AllReadyH.nil
    have u_326 : W322.cell? ⟨V242.heap.size, 0, none⟩ = some (.slice none 0 0) := bT_323.out.cell 0
    have u_327 : W322.cell? ⟨V242.heap.size, 1, none⟩ = some (.slice none 0 0) := bT_323.out.cell 1
    have u_f0 := bT_323.out.frozen 0; have u_f1 := bT_323.out.frozen 1
    rw [if_pos (by rfl)]
    go_simp
    clear u_326 u_327 u_f0 u_f1
    obtain ⟨W328, hs_328⟩ : ∃ X, (W322.setCell ⟨V242.heap.size, 0, none⟩ (.slice qA P.length qc)).setCell ⟨V242.heap.size, 1, none⟩ (.slice qB Q.length qd) = X := ⟨_, rfl⟩
    have hz_328 : W322.heap.size ≤ W328.heap.size := by rw [← hs_328, size_setCell, size_setCell]; exact Nat.le_refl _
    have hy_328 : W328.heap.size ≤ W322.heap.size := by rw [← hs_328, size_setCell, size_setCell]; exact Nat.le_refl _
    have HB_329 := (show Below w.heap.size w W328 from by rw [← hs_328]; exact (HB_323.setCell (p := ⟨V242.heap.size, 0, none⟩) (by first | omega | (simp only; omega)) (.slice qA P.length qc)).setCell (p := ⟨V242.heap.size, 1, none⟩) (by first | omega | (simp only; omega)) (.slice qB Q.length qd))
    have bA_329 := Lib.hid (show Blk W328 (w.heap.size) 49 #[.slice A1 n1 c1, .slice A2 n2 c2] from by rw [← hs_328]; exact ((bA_323.out).far (p := ⟨V242.heap.size, 0, none⟩) (by first | omega | (simp only; omega)) (.slice qA P.length qc)).far (p := ⟨V242.heap.size, 1, none⟩) (by first | omega | (simp only; omega)) (.slice qB Q.length qd)); clear bA_323
    have bB_329 := Lib.hid (show Blk W328 (w.heap.size + 1) 49 #[.slice B1 m1 d1, .slice B2 m2 d2] from by rw [← hs_328]; exact ((bB_323.out).far (p := ⟨V242.heap.size, 0, none⟩) (by first | omega | (simp only; omega)) (.slice qA P.length qc)).far (p := ⟨V242.heap.size, 1, none⟩) (by first | omega | (simp only; omega)) (.slice qB Q.length qd)); clear bB_323
    have low_329 := Lib.hid (show Below W9.heap.size W9 W328 from by rw [← hs_328]; exact ((low_323.out).setCell (p := ⟨V242.heap.size, 0, none⟩) (by first | omega | (simp only; omega)) (.slice qA P.length qc)).setCell (p := ⟨V242.heap.size, 1, none⟩) (by first | omega | (simp only; omega)) (.slice qB Q.length qd)); clear low_323
    have bT_329 := Lib.hid (show Blk W328 (V242.heap.size) 53 #[.slice qA P.length qc, .slice qB Q.length qd] from by rw [← hs_328]; exact (bT_323.out.set 0 (.slice qA P.length qc)).set 1 (.slice qB Q.length qd)); clear bT_323
    have p1_329 := Lib.hid (OwnRefs.keep p1_324.out (w' := W328) (fun b h1 h2 => by rw [← hs_328]; exact set2_far (by omega)) (Nat.le_refl _) (Nat.le_refl _)); clear p1_324
    have p2_329 := Lib.hid (OwnRefs.keep p2_325.out (w' := W328) (fun b h1 h2 => by rw [← hs_328]; exact set2_far (by omega)) (Nat.le_refl _) (Nat.le_refl _)); clear p2_325
    clear HB_323
    rw [hs_328]; clear hs_328
    refine hK_.out _ _ ⟨⟨bA_329.out.cell 0, bA_329.out.cell 1⟩, bB_329.out.cell 0, bB_329.out.cell 1⟩ (fun hS2_ => ?_)
    clear hK_ hS_; have hS_ := hS2_; clear hS2_
    refine takeV (i := 10) (v := .bool q) (by (simp only [List.getElem?_toArray, List.getElem?_cons_succ, List.getElem?_cons_zero]); rfl) (by kernel_rfl) (by kernel_rfl) (by kernel_rfl) (by rfl) (fun _ _ _ h => h) (Or.inl ⟨by rfl, ?_⟩) hS_ (by (simp only [List.setIfInBounds_toArray, List.set_cons_succ, List.set_cons_zero]); rfl) ?_
    · intro w_ hSw_; (try dsimp only at hSw_); go_simp
    refine wpAnyH_done (by kernel_rfl) ?_ _
    clear hS_ hV242
    have r_330 := (p1_329.out.atoms.keep AtomE.stays (lo' := 0) (hi' := W328.heap.size) (fun _ _ _ => rfl) (Nat.zero_le _) (by omega))
    rw [qM.out] at r_330
    have r_331 := (p2_329.out.atoms.keep AtomE.stays (lo' := 0) (hi' := W328.heap.size) (fun _ _ _ => rfl) (Nat.zero_le _) (by omega))
    rw [qN.out] at r_331
    exact HRESTK1.out V242.heap.size yaA yaB ybA ybB qA qB qc qd W328 low_329.out bT_329.out.lt bT_329.out r_330 r_331

end Go.Proofs.Ytenklmednmhbkaa
