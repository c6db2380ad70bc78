/-
  One marked rule: how the law writes it and reads it again.
-/
import Derived.Test.YtahkkelahocplaaDoorRKeep
namespace Go.Proofs.YtahkkelahocplaaDoor
open Go.RowKit

set_option maxHeartbeats 1000000 in
theorem markAtom_head (lo hi : Nat) (r : Rf) (k : Nat) (z : Int) (hz : z = (k : Int)) (w : World) (h : HeadApart w lo hi r) (hh : hi ≤ w.heap.size) (hk : k + 2 * rN r ≤ 2 ^ 62) :
    Calls Tryd.prog 13 #[.agg #[.string r.1, .slice r.2.1 r.2.2.1 r.2.2.2.1], .int .i64 z] w fun e w' => e = .returned (.int .i64 ((k + 2 * rN r : Nat) : Int)) ∧ HeadApart w' lo hi (markHd k r) ∧ Within lo hi w w' := by
  subst hz
  have hb1 := below1 w (.cells #[.string r.1, .slice r.2.1 r.2.2.1 r.2.2.2.1] 24)
  have H1 := Lib.hid (h.keep (w' := w.alloc (.cells #[.string r.1, .slice r.2.1 r.2.2.1 r.2.2.2.1] 24)) (lo' := lo) (hi' := hi) (fun b _ h2 => hb1.block b (by omega)) (Nat.le_refl _) (Nat.le_refl _))
  have HB := Lib.hid hb1
  clear h hb1
  go_enter Tryd.func13, Tryd.ntmps13
  go_wp2_with fail
  refine (markTermS_head lo hi r k _ H1.out hk).mono ?_; rintro e w1 ⟨rfl, hH, hw, _⟩
  have HH := Lib.hid hH; clear hH
  have hw' := (Within.of (lo := lo) (hi := hi) HB.out).trans hw
  clear hw
  go_wp2
  go_ret; exact ⟨rfl, HH.out, hw'⟩

/-- A marked rule. -/
def markRr (k : Nat) (r : Rr) : Rr := (markHd k r.1, r.2.1, r.2.2.1, r.2.2.2.1, markPs (k + 2 * rN r.1) r.2.2.2.2)
/-- The number behind a marked rule. -/
def markRrN (k : Nat) (r : Rr) : Nat := markPN (k + 2 * rN r.1) r.2.2.2.2

set_option maxRecDepth 100000 in
set_option maxHeartbeats 1000000 in
theorem markRule_any (lo hi : Nat) (r : Rr) (k : Nat) (w : World) (h : RuleApart w lo hi r) (hh : hi ≤ w.heap.size) (hk : markRrN k r ≤ 2 ^ 62) :
    Calls Tryd.prog 25 #[.agg #[.string r.1.1, .slice r.1.2.1 r.1.2.2.1 r.1.2.2.2.1, .slice r.2.1 r.2.2.1 r.2.2.2.1], .int .i64 (k : Int)] w fun e w' => e = .returned (.int .i64 ((markRrN k r : Nat) : Int)) ∧ RuleApart w' lo hi (markRr k r) ∧ Within lo hi w w' := by
  obtain ⟨a, b, c, d, e1, e2, e3, e4, e5, e6, e7, hH, hP⟩ := h
  have hk1 : k + 2 * rN r.1 ≤ 2 ^ 62 := Nat.le_trans (markPN_ge _ _) hk
  have hb1 := below1 w (.cells #[.string r.1.1, .slice r.1.2.1 r.1.2.2.1 r.1.2.2.2.1, .slice r.2.1 r.2.2.1 r.2.2.2.1] 38)
  have X := Blk.new w 38 #[.string r.1.1, .slice r.1.2.1 r.1.2.2.1 r.1.2.2.2.1, .slice r.2.1 r.2.2.1 r.2.2.2.1]
  have H1 := Lib.hid (hH.keep (w' := w.alloc (.cells #[.string r.1.1, .slice r.1.2.1 r.1.2.2.1 r.1.2.2.2.1, .slice r.2.1 r.2.2.1 r.2.2.2.1] 38)) (lo' := a) (hi' := b) (fun x _ h2 => hb1.block x (by omega)) (Nat.le_refl _) (Nat.le_refl _))
  have P1 := Lib.hid (hP.keep (w' := w.alloc (.cells #[.string r.1.1, .slice r.1.2.1 r.1.2.2.1 r.1.2.2.2.1, .slice r.2.1 r.2.2.1 r.2.2.2.1] 38)) (lo' := c) (hi' := d) (fun x _ h2 => hb1.block x (by omega)) (Nat.le_refl _) (Nat.le_refl _))
  have HB := Lib.hid hb1; have HX := Lib.hid X
  have hz1 : (w.alloc (.cells #[.string r.1.1, .slice r.1.2.1 r.1.2.2.1 r.1.2.2.2.1, .slice r.2.1 r.2.2.1 r.2.2.2.1] 38)).heap.size = w.heap.size + 1 := by simp
  clear hH hP hb1 X
  go_enter Tryd.func25, Tryd.ntmps25
  go_wp2_with fail
  refine (markAtom_head a b r.1 k _ rfl _ H1.out (by omega) hk1).mono ?_; rintro e w1 ⟨rfl, hH, hw⟩
  have HH := Lib.hid hH; clear hH
  have P2 := Lib.hid (P1.out.keep (w' := w1) (lo' := c) (hi' := d) (fun x h1 h2 => hw.block x (by omega) (by omega)) (Nat.le_refl _) (Nat.le_refl _))
  have x2 : w1.cell? ⟨w.heap.size, 2, none⟩ = some (.slice r.2.1 r.2.2.1 r.2.2.2.1) := (World.cell?_of_block (hw.block w.heap.size (by omega) (.inr (by omega)))).trans (HX.out.cell 2)
  have hws := hw.size
  have HW := Lib.hid ((Within.of (lo := lo) (hi := hi) HB.out).trans (hw.wide e1 e3))
  clear hw
  go_wp2_with fail
  refine (markPartS_held c d _ _ _ (k + 2 * rN r.1) r.2.2.2.2 w1 P2.out (by omega) hk).mono ?_; rintro e w2 ⟨rfl, hP, hw2, _⟩
  have HP := Lib.hid hP
  have H2 := Lib.hid (HH.out.keep (w' := w2) (lo' := a) (hi' := b) (fun x h1 h2 => hw2.block x (by omega) (by omega)) (Nat.le_refl _) (Nat.le_refl _))
  have hwA := HW.out.trans (hw2.wide e4 e6)
  clear hP hw2 x2
  go_wp2
  go_ret; exact ⟨rfl, ⟨a, b, c, d, e1, e2, e3, e4, e5, e6, e7, H2.out, HP.out⟩, hwA⟩

set_option maxHeartbeats 1000000 in
theorem heldAtom_head (nm : ByteArray) (A : Option Addr) (n c k : Nat) (w : World) (h : IsTerms w 0 w.heap.size A n c (markTs k n)) (hk : k + 2 * n ≤ 2 ^ 62) :
    Calls Tryd.prog 14 #[.agg #[.string nm, .slice A n c], .int .i64 (k : Int)] w fun e w' => e = .returned (.int .i64 ((k + 2 * n : Nat) : Int)) ∧ Below w.heap.size w w' := by
  have hb1 := below1 w (.cells #[.string nm, .slice A n c] 24)
  have HT := Lib.hid (h.up hb1); clear h
  go_enter Tryd.func14, Tryd.ntmps14
  go_wp2_with fail
  refine (heldTermS_any A n c k _ HT.out hk).mono ?_; rintro e w1 ⟨rfl, hb2⟩
  have hb3 := belowThen hb1 hb2
  have hnn : ¬ (((k + 2 * n : Nat) : Int) < 0) := by omega
  go_wp2
  go_ret; exact ⟨rfl, hb3⟩

set_option maxRecDepth 100000 in
set_option maxHeartbeats 1000000 in
theorem heldRule_any (nm : ByteArray) (A : Option Addr) (n c : Nat) (B : Option Addr) (m d k : Nat) (ps : List Pf) (w : World) (h : IsRule w w.heap.size A n c B m d (markTs k n) ((markPs (k + 2 * n) ps).map pAt)) (hk : markPN (k + 2 * n) ps ≤ 2 ^ 62) :
    Calls Tryd.prog 26 #[.agg #[.string nm, .slice A n c, .slice B m d], .int .i64 (k : Int)] w fun e w' => e = .returned (.int .i64 ((markPN (k + 2 * n) ps : Nat) : Int)) ∧ Below w.heap.size w w' := by
  have hk1 : k + 2 * n ≤ 2 ^ 62 := Nat.le_trans (markPN_ge _ _) hk
  have hb1 := below1 w (.cells #[.string nm, .slice A n c, .slice B m d] 38)
  have X := Lib.hid (Blk.new w 38 #[.string nm, .slice A n c, .slice B m d])
  have H1 := Lib.hid (h.up hb1); clear h
  have hz1 : (w.alloc (.cells #[.string nm, .slice A n c, .slice B m d] 38)).heap.size = w.heap.size + 1 := by simp
  go_enter Tryd.func26, Tryd.ntmps26
  go_wp2_with fail
  refine (heldAtom_head nm A n c k _ H1.out.1 hk1).mono ?_; rintro e w1 ⟨rfl, hb2⟩
  have x2 : w1.cell? ⟨w.heap.size, 2, none⟩ = some (.slice B m d) := (hb2.cell (p := ⟨w.heap.size, 2, none⟩) (by simp)).trans (X.out.cell 2)
  have HB := Lib.hid (belowThen hb1 hb2)
  have HP := Lib.hid (H1.out.2.up PartE.stays hb2)
  have hnn : ¬ (((k + 2 * n : Nat) : Int) < 0) := by omega
  clear hb2
  go_wp2_with fail
  refine (heldPartS_any B m d (k + 2 * n) ps w1 HP.out hk).mono ?_; rintro e w2 ⟨rfl, hb3⟩
  have hb4 := belowThen HB.out hb3
  have hnm : ¬ (((markPN (k + 2 * n) ps : Nat) : Int) < 0) := by omega
  clear hb3 x2
  go_wp2
  go_ret; exact ⟨rfl, hb4⟩

end Go.Proofs.YtahkkelahocplaaDoor
