/-
  The exact law of FactsHas: at every list of atoms, and every atom, the program answers as its model, and both are as they were.
-/
import Derived.Test.YtkmfojikghopiaaHas
namespace Go.Proofs.Ytkmfojikghopiaa
open Go.RowKit

set_option maxHeartbeats 2000000 in
theorem exactFactsHas_any (A : Option Addr) (n c : Nat) (l : List At) (nm : ByteArray) (B : Option Addr) (m d : Nat) (ts : List Tm) (w : World) (h : IsAtoms w 0 w.heap.size A n c l) (hs : nm.size ≤ maxLen) (h' : IsTerms w 0 w.heap.size B m d ts) :
    Calls Try.prog 8 #[.slice A n c, .agg #[.string nm, .slice B m d]] w (BoolPost true w) := by
  have H := Lib.hid h; clear h
  have H' := Lib.hid h'; clear h'
  have hw0 := below1 w (.cells #[.string nm, .slice B m d] 41)
  have X0 := Lib.hid (Box.new w (.string nm) (.slice B m d) 41)
  go_enter Try.func8, Try.ntmps8
  go_wp2_with fail
  refine (szAtomS_any _ _ _ l _ _ (H.out.up AtomE.stays hw0) (by omega) (by omega)).mono ?_; rintro e w1 ⟨y, ⟨rfl, ha, hb, hc⟩, hb1⟩
  have HB1 := belowThen hw0 hb1
  have X1 := Lib.hid (X0.out.later hb1); clear X0 hb1
  obtain ⟨u0, u1, u2⟩ := X1.out
  go_wp2_with fail
  all_goals try (go_ret; exact ⟨rfl, HB1⟩)
  have hy0 : 0 ≤ y := by assumption
  have hn : SmallAtoms n l := hc hy0
  clear ha hc
  refine (szAtom_any _ _ _ _ ts _ _ hs (H'.out.up HB1) hy0 hb).mono ?_; rintro e w2 ⟨y', ⟨rfl, ha', hb', hc'⟩, hb2⟩
  have HB2 := belowThen HB1 hb2
  have X2 := Lib.hid (X1.out.later hb2); clear X1 hb2 u0 u1 u2
  obtain ⟨u0, u1, u2⟩ := X2.out
  go_wp2_with fail
  all_goals try (go_ret; exact ⟨rfl, HB2⟩)
  have hm : m ≤ 1048576 := hc' (by assumption)
  have hmm : m ≤ maxLen := by unfold maxLen; omega
  clear ha' hc' hb' hb hy0
  have HBd := HB2.drew
  have v1 : w2.drew.cell? ⟨w.heap.size, 0, none⟩ = some (.string nm) := u1
  have v2 : w2.drew.cell? ⟨w.heap.size, 1, none⟩ = some (.slice B m d) := u2
  have Ld := Lib.hid (show IsAtoms w2.drew 0 w2.drew.heap.size A n c l from H.out.up AtomE.stays HBd)
  go_region_held3 (fun W => W.cell? ⟨w.heap.size, 0, none⟩ = some (.string nm) ∧ W.cell? ⟨w.heap.size, 1, none⟩ = some (.slice B m d))
    (first | (with_reducible exact ⟨p1, p2⟩) | (with_reducible exact ⟨q1, q2⟩) | (with_reducible exact ⟨r1, r2⟩) | (with_reducible exact ⟨v1, v2⟩) | (with_reducible exact ⟨u1, u2⟩))
    (first
      | ((with_reducible refine (specFactsHas_any _ _ _ l nm _ _ _ ts _ hs o34 o4i).mono ?_); rintro e w5 ⟨rfl, hb5⟩; have HB5 := belowThen HB4 hb5; have X5 := X4.later hb5; have p1 := X5.2.1; have p2 := X5.2.2)
      | ((with_reducible refine (toAtom_any nm B m d ts _ T3 hm).mono ?_); rintro e w4 ⟨g4, rfl, hg4, o4, hb4⟩; have HB4 := belowThen HB3 hb4; have X4 := X3.later hb4; have q1 := X4.2.1; have q2 := X4.2.2; have o34 := o3.up AtomE.stays hb4; have o4i := o4.is_ hmm (Nat.zero_le _))
      | ((with_reducible refine (toAtomS_any A n c l _ Ld.out hn).mono ?_); rintro e w3 ⟨g3, rfl, hg3, o3', hb3'⟩; have o3 := o3'.low; have hb3 : Below w2.heap.size w2 w3 := undrew hb3'; clear hb3' o3'; have HB3 := belowThen HB2 hb3; have X3 := X2.out.later hb3; have r1 := X3.2.1; have r2 := X3.2.2; have T3 := H'.out.up HB3))
  have X5' := Lib.hid X5
  clear X2 X3 X4 X5 p1 p2 q1 q2 r1 r2 v1 v2 u0 u1 u2 o3 o34 o4 o4i T3 hb3 hb4 hb5 HB2 HBd HB3 HB4 Ld
  obtain ⟨u0, u1, u2⟩ := X5'.out
  go_wp2_with fail
  refine (toAtomS_any _ _ _ l _ (H.out.up AtomE.stays HB5) hn).mono ?_; rintro e w6 ⟨g6, rfl, hg6, o6', hb6⟩
  have o6 := Lib.hid o6'.low
  have HB6 := belowThen HB5 hb6
  have X6 := Lib.hid (X5'.out.later hb6); clear X5' hb6 o6' u0 u1 u2
  obtain ⟨u0, u1, u2⟩ := X6.out
  go_wp2_with fail
  refine (toAtom_any nm B m d ts _ (H'.out.up HB6) hm).mono ?_; rintro e w7 ⟨g7, rfl, hg7, o7', hb7⟩
  have HB7 := belowThen HB6 hb7
  have X7 := Lib.hid (X6.out.later hb7)
  have o67 := Lib.hid (o6.out.up AtomE.stays hb7)
  have hb8 := below1 w7 (.cells #[.string nm, .slice (some ⟨g7, 0, none⟩) m m] 26)
  have HB8 := belowThen HB7 hb8
  have X8 := Lib.hid (X7.out.later hb8)
  have o8 := Lib.hid (o67.out.up AtomE.stays hb8)
  have t8 := Lib.hid ((o7'.is_ hmm (Nat.zero_le _)).up hb8)
  have Y8 := Lib.hid (Box.new w7 (.string nm) (.slice (some ⟨g7, 0, none⟩) m m) 26)
  clear X6 X7 o6 o67 o7' hb7 hb8 u0 u1 u2 HB6 HB7
  obtain ⟨u0, u1, u2⟩ := X8.out
  obtain ⟨z0, z1, z2⟩ := Y8.out
  go_wp2_with fail
  refine (implFactsHas_any _ _ _ l nm _ _ _ ts _ hs o8.out t8.out).mono ?_; rintro e w9 ⟨rfl, hb9⟩
  have HB9 := belowThen HB8 hb9
  have X9 := Lib.hid (X8.out.later hb9)
  have Y9 := Lib.hid (Y8.out.later hb9)
  have o9 := Lib.hid (o8.out.up AtomE.stays hb9)
  have t9 := Lib.hid (t8.out.up hb9)
  clear X8 Y8 o8 t8 hb9 u0 u1 u2 z0 z1 z2 HB8
  have hne : (hasFB l (nm, ts) != hasFB l (nm, ts)) = false := by simp
  obtain ⟨u0, u1, u2⟩ := X9.out
  obtain ⟨z0, z1, z2⟩ := Y9.out
  go_wp2_with fail
  refine (toAtomS_any _ _ _ l _ (H.out.up AtomE.stays HB9) hn).mono ?_; rintro e w10 ⟨g10, rfl, hg10, o10', hb10⟩
  have HB10 := belowThen HB9 hb10
  have X10 := Lib.hid (X9.out.later hb10)
  have Y10 := Lib.hid (Y9.out.later hb10)
  have o9b := o9.out.up AtomE.stays hb10
  have t10 := Lib.hid (t9.out.up hb10)
  clear X9 Y9 o9 t9 hb10 u0 u1 u2 z0 z1 z2
  go_wp2_with fail
  refine (eqAtomS_any _ _ _ _ _ _ l l _ o9b o10'.low).mono ?_; rintro e w11 ⟨rfl, hb11⟩
  have HB11 := belowThen HB10 hb11
  have X11 := Lib.hid (X10.out.later hb11)
  have Y11 := Lib.hid (Y10.out.later hb11)
  have t11 := Lib.hid (t10.out.up hb11)
  clear X10 Y10 o9b t10 o10' hb11 HB9 HB10
  rw [listEq_refl atomEq_refl]
  obtain ⟨u0, u1, u2⟩ := X11.out
  obtain ⟨z0, z1, z2⟩ := Y11.out
  have a1 : w11.drew.cell? ⟨w.heap.size, 0, none⟩ = some (.string nm) := u1
  have a2 : w11.drew.cell? ⟨w.heap.size, 1, none⟩ = some (.slice B m d) := u2
  have a3 : w11.drew.cell? ⟨w7.heap.size, 0, none⟩ = some (.string nm) := z1
  have a4 : w11.drew.cell? ⟨w7.heap.size, 1, none⟩ = some (.slice (some ⟨g7, 0, none⟩) m m) := z2
  have Td := Lib.hid (show IsTerms w11.drew 0 w11.drew.heap.size B m d ts from H'.out.up HB11.drew)
  go_wp2_with fail
  go_region_held3 (fun W => (W.cell? ⟨w.heap.size, 0, none⟩ = some (.string nm) ∧ W.cell? ⟨w.heap.size, 1, none⟩ = some (.slice B m d)) ∧ W.cell? ⟨w7.heap.size, 0, none⟩ = some (.string nm) ∧ W.cell? ⟨w7.heap.size, 1, none⟩ = some (.slice (some ⟨g7, 0, none⟩) m m))
    (first | (with_reducible exact ⟨⟨p1, p2⟩, p3, p4⟩) | (with_reducible exact ⟨⟨q1, q2⟩, q3, q4⟩) | (with_reducible exact ⟨⟨a1, a2⟩, a3, a4⟩) | (with_reducible exact ⟨⟨u1, u2⟩, z1, z2⟩))
    (first
      | ((with_reducible refine (eqAtom_any nm nm _ _ _ _ _ _ ts ts _ t12 o12i).mono ?_); rintro e w13 ⟨rfl, hb13⟩; have HB13 := belowThen HB12 hb13; have X13 := X12.later hb13; have Y13 := Y12.later hb13; have p1 := X13.2.1; have p2 := X13.2.2; have p3 := Y13.2.1; have p4 := Y13.2.2)
      | ((with_reducible refine (toAtom_any nm B m d ts _ Td.out hm).mono ?_); rintro e w12 ⟨g12, rfl, hg12, o12, hb12'⟩; have hb12 : Below w11.heap.size w11 w12 := undrew hb12'; clear hb12'; have HB12 := belowThen HB11 hb12; have X12 := X11.out.later hb12; have Y12 := Y11.out.later hb12; have q1 := X12.2.1; have q2 := X12.2.2; have q3 := Y12.2.1; have q4 := Y12.2.2; have t12 := t11.out.up hb12; have o12i := o12.is_ hmm (Nat.zero_le _)))
  rw [atomEq_refl]
  go_wp2
  go_ret; exact ⟨rfl, HB13⟩

end Go.Proofs.Ytkmfojikghopiaa
