/-
  The exact law of LogPut: at every time and change the program tells its model's text, and leaves it as it was.
-/
import Derived.Test.YtmaaogoeapfepaaDoorLogPut
import Derived.Test.YtmaaogoeapfepaaDoorOwn2
namespace Go.Proofs.YtmaaogoeapfepaaDoor
open Go.RowKit

set_option maxHeartbeats 4000000 in
theorem exactLogPut_any (t : Int) (A B : Option Addr) (n c n' c' : Nat) (xs ys : List At) (w : World) (h : IsAtoms w 0 w.heap.size A n c xs) (h' : IsAtoms w 0 w.heap.size B n' c' ys) (hT : PowTab w) :
    Calls Tryd.prog 3 #[.int .i64 t, .agg #[.slice A n c, .slice B n' c']] w (BoolPost true w) := by
  have HT := Lib.hid hT; clear hT
  have H := Lib.hid h; have H' := Lib.hid h'; clear h h'
  have hw0 := below1 w (.cells #[.slice A n c, .slice B n' c'] 24)
  have X0 := Lib.hid (Box.new w (.slice A n c) (.slice B n' c') 24)
  go_enter Tryd.func3, Tryd.ntmps3
  go_wp2_with fail
  refine (szChange_any A B n c n' c' xs ys _ _ (H.out.up AtomE.stays hw0) (H'.out.up AtomE.stays hw0) (by omega) (by omega)).mono ?_; rintro e w1 ⟨y, ⟨rfl, ha, hb, hc⟩, hb1⟩
  have HB1 := belowThen hw0 hb1
  have X1 := Lib.hid (X0.out.later hb1); clear X0 hb1
  obtain ⟨u0, u1, u2⟩ := X1.out
  go_wp2_with fail
  all_goals try (go_ret; exact ⟨rfl, HB1⟩)
  have hn : SmallChange n n' xs ys := hc (by assumption)
  have HN := Lib.hid hn
  clear ha hb hc hn
  refine (toChange_own A B n c n' c' xs ys _ (H.out.up AtomE.stays HB1) (H'.out.up AtomE.stays HB1) HN.out).mono ?_; rintro e w2 ⟨A2, B2, ra2, rb2, mid2, rfl, ⟨o2, m2⟩, ⟨o3, m3⟩, ⟨s2, s3⟩, hb2⟩
  have i2 := o2.atoms.keep AtomE.stays (lo' := 0) (hi' := w2.heap.size) (fun _ _ _ => rfl) (Nat.zero_le _) s3
  have i3 := o3.atoms.keep AtomE.stays (lo' := 0) (hi' := w2.heap.size) (fun _ _ _ => rfl) (Nat.zero_le _) (Nat.le_refl _)
  rw [m2] at i2; rw [m3] at i3
  have HB2 := belowThen HB1 hb2
  have X2 := Lib.hid (X1.out.later hb2); clear X1 hb2 u0 u1 u2 o2 o3 m2 m3
  have I2 := Lib.hid i2; have I3 := Lib.hid i3; clear i2 i3
  obtain ⟨u0, u1, u2⟩ := X2.out
  go_wp2_with fail
  refine (specLogPut_any t A2 n n B2 n' n' xs ys _ I2.out I3.out).mono ?_; rintro e w3 ⟨rfl, hb3⟩
  obtain ⟨st, hst⟩ : ∃ st : ByteArray, (⟨(logB t xs ys).toArray⟩ : ByteArray) = st := ⟨_, rfl⟩
  rw [hst]
  have HST := Lib.hid hst
  clear hst
  have HB3 := belowThen HB2 hb3
  have X3 := Lib.hid (X2.out.later hb3); clear X2 hb3 u0 u1 u2 I2 I3
  obtain ⟨u0, u1, u2⟩ := X3.out
  go_wp2_with fail
  refine (toChange_own A B n c n' c' xs ys _ (H.out.up AtomE.stays HB3) (H'.out.up AtomE.stays HB3) HN.out).mono ?_; rintro e w4 ⟨A4, B4, ra4, rb4, mid4, rfl, ⟨o4, m4⟩, ⟨o5, m5⟩, ⟨s4, s5⟩, hb4⟩
  have i4 := o4.atoms.keep AtomE.stays (lo' := 0) (hi' := w4.heap.size) (fun _ _ _ => rfl) (Nat.zero_le _) s5
  have i5 := o5.atoms.keep AtomE.stays (lo' := 0) (hi' := w4.heap.size) (fun _ _ _ => rfl) (Nat.zero_le _) (Nat.le_refl _)
  rw [m4] at i4; rw [m5] at i5
  have HB4 := belowThen HB3 hb4
  have X4 := X3.out.later hb4
  have hb5 := below1 w4 (.cells #[.slice A4 n n, .slice B4 n' n'] 29)
  have HB5 := belowThen HB4 hb5
  have X5 := Lib.hid (X4.later hb5)
  have Y5 := Lib.hid (Box.new w4 (.slice A4 n n) (.slice B4 n' n') 29)
  have I4 := Lib.hid (i4.up AtomE.stays hb5); have I5 := Lib.hid (i5.up AtomE.stays hb5)
  clear X3 X4 hb4 hb5 u0 u1 u2 o4 o5 m4 m5 i4 i5
  obtain ⟨u0, u1, u2⟩ := X5.out
  obtain ⟨v0, v1, v2⟩ := Y5.out
  go_wp2_with fail
  refine (implLogPut_any t A4 n n B4 n' n' xs ys _ I4.out I5.out (tab_later HT.out HB5)).mono ?_; rintro e w6 ⟨rfl, hb6⟩
  rw [HST.out]
  have HB6 := belowThen HB5 hb6
  have X6 := Lib.hid (X5.out.later hb6)
  have Y6 := Lib.hid (Y5.out.later hb6)
  have I4' := Lib.hid (I4.out.up AtomE.stays hb6); have I5' := Lib.hid (I5.out.up AtomE.stays hb6)
  clear X5 Y5 hb6 u0 u1 u2 v0 v1 v2 I4 I5
  have I4 := I4'; have I5 := I5'
  clear I4' I5'
  go_wp2_with fail
  obtain ⟨q0, u1, u2⟩ := X6.out
  obtain ⟨q1, v1, v2⟩ := Y6.out
  have x1 : w6.drew.cell? ⟨w.heap.size, 0, none⟩ = some (.slice A n c) := u1
  have x2 : w6.drew.cell? ⟨w.heap.size, 1, none⟩ = some (.slice B n' c') := u2
  have x3 : w6.drew.cell? ⟨w4.heap.size, 0, none⟩ = some (.slice A4 n n) := v1
  have x4 : w6.drew.cell? ⟨w4.heap.size, 1, none⟩ = some (.slice B4 n' n') := v2
  have LA := Lib.hid (show IsAtoms w6.drew 0 w6.drew.heap.size A n c xs from H.out.up AtomE.stays HB6.drew)
  have LB := Lib.hid (show IsAtoms w6.drew 0 w6.drew.heap.size B n' c' ys from H'.out.up AtomE.stays HB6.drew)
  clear u1 u2 v1 v2
  refine wp_region_held_drew (S := fun W => (W.cell? ⟨w.heap.size, 0, none⟩ = some (.slice A n c) ∧ W.cell? ⟨w.heap.size, 1, none⟩ = some (.slice B n' c')) ∧ W.cell? ⟨w4.heap.size, 0, none⟩ = some (.slice A4 n n) ∧ W.cell? ⟨w4.heap.size, 1, none⟩ = some (.slice B4 n' n')) (by kernel_rfl) ⟨⟨x1, x2⟩, x3, x4⟩ ?_
  intro hS_
  refine takeV (i := 0) (v := .agg #[.slice A4 n n, .slice B4 n' n']) (by (simp only [List.getElem?_toArray, List.getElem?_cons_zero]); rfl) (by kernel_rfl) (by kernel_rfl) (by kernel_rfl) (by rfl) (fun _ _ _ h => h) (Or.inl ⟨by rfl, ?_⟩) hS_ (by (simp only [List.setIfInBounds_toArray, List.set_cons_succ, List.set_cons_zero]); rfl) ?_
  · intro w_ hSw_; (try dsimp only at hSw_); go_simp
  refine takeV (i := 1) (v := .agg #[.slice A n c, .slice B n' c']) (by (simp only [List.getElem?_toArray, List.getElem?_cons_succ, List.getElem?_cons_zero]); rfl) (by kernel_rfl) (by kernel_rfl) (by kernel_rfl) (by rfl) (fun _ _ _ h => h) (Or.inl ⟨by rfl, ?_⟩) hS_ (by (simp only [List.setIfInBounds_toArray, List.set_cons_succ, List.set_cons_zero]); rfl) ?_
  · intro w_ hSw_; (try dsimp only at hSw_); go_simp
  refine wpAnyH_ready (rs := [2]) (by kernel_rfl) (by simp) ?_
  refine AllReadyH.cons (o := _) (by (simp only [List.getElem?_toArray, List.getElem?_cons_succ, List.getElem?_cons_zero]); rfl) (fun K_ hK_ => ?_) AllReadyH.nil
  rw [if_pos (by rfl)]
  go_simp
  go_at_call 13
  refine (toChange_own A B n c n' c' xs ys _ LA.out LB.out HN.out).mono ?_; rintro e w7 ⟨A7, B7, ra7, rb7, mid7, rfl, ⟨o7, m7⟩, ⟨o8, m8⟩, ⟨s7, s8⟩, hb7⟩
  have y1 := (hb7.cell (p := ⟨w.heap.size, 0, none⟩) q0).trans x1
  have y2 := (hb7.cell (p := ⟨w.heap.size, 1, none⟩) q0).trans x2
  have y3 := (hb7.cell (p := ⟨w4.heap.size, 0, none⟩) q1).trans x3
  have y4 := (hb7.cell (p := ⟨w4.heap.size, 1, none⟩) q1).trans x4
  have q0 := Nat.lt_of_lt_of_le q0 hb7.size
  have q1 := Nat.lt_of_lt_of_le q1 hb7.size
  have i7 := (o7.atoms.keep AtomE.stays (lo' := 0) (hi' := w7.heap.size) (fun _ _ _ => rfl) (Nat.zero_le _) s8)
  have i8 := (o8.atoms.keep AtomE.stays (lo' := 0) (hi' := w7.heap.size) (fun _ _ _ => rfl) (Nat.zero_le _) (Nat.le_refl _))
  rw [m7] at i7
  rw [m8] at i8
  have hb7' : Below w6.heap.size w6 w7 := undrew hb7
  have i4 := I4.out.up AtomE.stays hb7'
  have i5 := I5.out.up AtomE.stays hb7'
  refine hK_.out _ _ ⟨⟨y1, y2⟩, y3, y4⟩ (fun hS2_ => ?_)
  clear hK_ hS_
  have hS_ := hS2_; clear hS2_
  refine wpAnyH_ready (rs := [3]) (by kernel_rfl) (by simp) ?_
  refine AllReadyH.cons (o := _) (by (simp only [List.getElem?_toArray, List.getElem?_cons_succ, List.getElem?_cons_zero]); rfl) (fun K_ hK_ => ?_) AllReadyH.nil
  rw [if_pos (by rfl)]
  go_simp
  go_at_call 15
  refine (eqChange_any A4 B4 n n n' n' A7 B7 n n n' n' xs ys xs ys _ i4 i5 i7 i8).mono ?_; rintro e w8 ⟨rfl, hb8⟩
  have z1 := (hb8.cell (p := ⟨w.heap.size, 0, none⟩) q0).trans y1
  have z2 := (hb8.cell (p := ⟨w.heap.size, 1, none⟩) q0).trans y2
  have z3 := (hb8.cell (p := ⟨w4.heap.size, 0, none⟩) q1).trans y3
  have z4 := (hb8.cell (p := ⟨w4.heap.size, 1, none⟩) q1).trans y4
  rw [changeEq_refl]
  refine hK_.out _ _ ⟨⟨z1, z2⟩, z3, z4⟩ (fun hS2_ => ?_)
  clear hK_ hS_
  have hS_ := hS2_; clear hS2_
  refine takeV (i := 4) (v := .bool false) (by (simp only [List.getElem?_toArray, List.getElem?_cons_succ, List.getElem?_cons_zero]); rfl) (by kernel_rfl) (by kernel_rfl) (by kernel_rfl) (by rfl) (fun _ _ _ h => h) (Or.inl ⟨by rfl, ?_⟩) hS_ (by (simp only [List.setIfInBounds_toArray, List.set_cons_succ, List.set_cons_zero]); rfl) ?_
  · intro w_ hSw_; (try dsimp only at hSw_); go_simp
  refine wpAnyH_done (by kernel_rfl) ?_ _
  have HB8 := belowThen HB6 (belowThen hb7' hb8)
  clear y1 y2 y3 y4 z1 z2 z3 z4 x1 x2 x3 x4
  go_wp2
  go_ret; exact ⟨rfl, HB8⟩

end Go.Proofs.YtmaaogoeapfepaaDoor
