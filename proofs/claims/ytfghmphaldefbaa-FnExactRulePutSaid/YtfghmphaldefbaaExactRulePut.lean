/-
  The exact law of RulePut: what the law's own text does.
-/
import Derived.Test.YtfghmphaldefbaaRule4
import Derived.Deep.RegionHeld3
namespace Go.Proofs.Ytfghmphaldefbaa
open Go.RowKit

set_option maxHeartbeats 4000000 in
theorem exactRulePut_any (nm0 : ByteArray) (A0 : Option Addr) (n0 c0 : Nat) (B0 : Option Addr) (m0 d0 : Nat) (ts0 : List Tm) (xs0 : List Pt) (w : World) (hs0 : nm0.size ≤ maxLen) (h0 : IsRule w w.heap.size A0 n0 c0 B0 m0 d0 ts0 xs0) :
    Calls Try.prog 5 #[.agg #[.string nm0, .slice A0 n0 c0, .slice B0 m0 d0]] w (BoolPost true w) := by
  have H0 := Lib.hid h0; clear h0
  have HB0 := below1 w (.cells #[.string nm0, .slice A0 n0 c0, .slice B0 m0 d0] 50)
  have B0_0 := Lib.hid (Box3.new w (.string nm0) (.slice A0 n0 c0) (.slice B0 m0 d0) 50)
  go_enter Try.func5, Try.ntmps5
  go_wp2_with fail
  refine (szRule_any _ _ _ _ _ _ _ ts0 xs0 _ _ hs0 (H0.out.up HB0) (by omega) (by omega)).mono ?_; rintro e w1 ⟨y0, ⟨rfl, hy0a, hy0b, hy0c⟩, hb1⟩
  have HB1 := belowThen HB0 hb1
  have B0_1 := Lib.hid (B0_0.out.later hb1); clear B0_0
  clear hb1
  obtain ⟨u0a, u0b, u0c, u0d⟩ := B0_1.out
  go_wp2_with (fail)
  · go_ret; exact ⟨rfl, HB1⟩
  have hn0 : SmallRule n0 m0 xs0 := hy0c (by assumption)
  clear hy0a hy0c
  clear u0a u0b u0c u0d
  refine (toRule_any nm0 A0 n0 c0 B0 m0 d0 ts0 xs0 _ (H0.out.up HB1) hn0).mono ?_; rintro e w2 ⟨g2, g2b, rfl, o0_2, hb2⟩
  have HB2 := belowThen HB1 hb2
  have B0_2 := Lib.hid (B0_1.out.later hb2); clear B0_1
  clear hb2
  obtain ⟨u0a, u0b, u0c, u0d⟩ := B0_2.out
  go_wp2_with fail
  clear u0a u0b u0c u0d
  refine (specRulePut_any nm0 _ _ _ _ _ _ ts0 xs0 _ hs0 (o0_2.is_)).mono ?_; rintro e w3 ⟨rfl, hb3⟩
  clear o0_2
  have HB3 := belowThen HB2 hb3
  have B0_3 := Lib.hid (B0_2.out.later hb3); clear B0_2
  clear hb3
  obtain ⟨u0a, u0b, u0c, u0d⟩ := B0_3.out
  go_wp2_with fail
  clear u0a u0b u0c u0d
  refine (toRule_any nm0 A0 n0 c0 B0 m0 d0 ts0 xs0 _ (H0.out.up HB3) hn0).mono ?_; rintro e w4 ⟨g4, g4b, rfl, o0_4, hb4⟩
  have o0_4 := Lib.hid o0_4
  have HB4 := belowThen HB3 hb4
  have B0_4 := Lib.hid (B0_3.out.later hb4); clear B0_3
  clear hb4
  have hb5 := below1 w4 (.cells #[.string nm0, .slice (some ⟨g4, 0, none⟩) n0 n0, .slice (some ⟨g4b, 0, none⟩) m0 m0] 55)
  have HB5 := belowThen HB4 hb5
  have B0_5 := Lib.hid (B0_4.out.later hb5); clear B0_4
  have o0_5 := Lib.hid (o0_4.out.below hb5); clear o0_4
  clear hb5
  have X0_5 := Lib.hid (Box3.new w4 (.string nm0) (.slice (some ⟨g4, 0, none⟩) n0 n0) (.slice (some ⟨g4b, 0, none⟩) m0 m0) 55)
  obtain ⟨u0a, u0b, u0c, u0d⟩ := B0_5.out
  obtain ⟨z0a, z0b, z0c, z0d⟩ := X0_5.out
  go_wp2_with fail
  clear u0a u0b u0c u0d
  clear z0a z0b z0c z0d
  refine (implRulePut_any nm0 _ _ _ _ _ _ ts0 xs0 _ hs0 (o0_5.out.is_)).mono ?_; rintro e w6 ⟨rfl, hb6⟩
  have HB6 := belowThen HB5 hb6
  have B0_6 := Lib.hid (B0_5.out.later hb6); clear B0_5
  have X0_6 := Lib.hid (X0_5.out.later hb6); clear X0_5
  have o0_6 := Lib.hid (o0_5.out.below hb6); clear o0_5
  clear hb6
  obtain ⟨u0a, u0b, u0c, u0d⟩ := B0_6.out
  obtain ⟨z0a, z0b, z0c, z0d⟩ := X0_6.out
  go_wp2_with fail
  have C_6 := B0_6.out
  have D_6 := X0_6.out
  have p_6 := o0_6.out
  have HBd6 := HB6.drew
  go_region_held3 (fun W => W.cell? ⟨w.heap.size, 0, none⟩ = some (.string nm0) ∧ W.cell? ⟨w.heap.size, 1, none⟩ = some (.slice A0 n0 c0) ∧ W.cell? ⟨w.heap.size, 2, none⟩ = some (.slice B0 m0 d0) ∧ W.cell? ⟨w4.heap.size, 0, none⟩ = some (.string nm0) ∧ W.cell? ⟨w4.heap.size, 1, none⟩ = some (.slice (some ⟨g4, 0, none⟩) n0 n0) ∧ W.cell? ⟨w4.heap.size, 2, none⟩ = some (.slice (some ⟨g4b, 0, none⟩) m0 m0))
    (first | exact ⟨C_6.2.1, C_6.2.2.1, C_6.2.2.2, D_6.2.1, D_6.2.2.1, D_6.2.2.2⟩ | exact ⟨C_7.2.1, C_7.2.2.1, C_7.2.2.2, D_7.2.1, D_7.2.2.1, D_7.2.2.2⟩ | exact ⟨C_8.2.1, C_8.2.2.1, C_8.2.2.2, D_8.2.1, D_8.2.2.1, D_8.2.2.2⟩)
    (first
      | ((with_reducible refine (toRule_any nm0 A0 n0 c0 B0 m0 d0 ts0 xs0 _ (H0.out.up HBd6) hn0).mono ?_); rintro e w7 ⟨g7, g7b, rfl, q_7, hbd⟩; have hb7 : Below w6.heap.size w6 w7 := undrew hbd; clear hbd; have HB7 := belowThen HB6 hb7; have C_7 := C_6.later hb7; have D_7 := D_6.later hb7; have p_7 := p_6.below hb7)
      | ((with_reducible refine (eqRule_any nm0 nm0 _ _ _ _ _ _ _ _ _ _ _ _ ts0 ts0 xs0 xs0 _ (p_7.is_) (q_7.is_)).mono ?_); rintro e w8 ⟨rfl, hb8⟩; have HB8 := belowThen HB7 hb8; have C_8 := C_7.later hb8; have D_8 := D_7.later hb8; have tok := True.intro))
  have hbb := belowThen hb7 hb8
  clear u0a u0b u0c u0d
  clear z0a z0b z0c z0d
  have B0_8 := Lib.hid (B0_6.out.later hbb); clear B0_6
  have X0_8 := Lib.hid (X0_6.out.later hbb); clear X0_6
  have o0_8 := Lib.hid (o0_6.out.below hbb); clear o0_6
  clear C_6 D_6 C_7 D_7 C_8 D_8
  clear hbb hb7 hb8 p_6 p_7 q_7
  obtain ⟨u0a, u0b, u0c, u0d⟩ := B0_8.out
  obtain ⟨z0a, z0b, z0c, z0d⟩ := X0_8.out
  rw [ruleEq_refl]
  go_wp2_with fail
  go_ret; exact ⟨rfl, HB8⟩

end Go.Proofs.Ytfghmphaldefbaa
