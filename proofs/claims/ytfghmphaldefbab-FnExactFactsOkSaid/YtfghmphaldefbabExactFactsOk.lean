/-
  The exact law of FactsOk: at every list of atoms the program answers as its model, and the list is as it was.
-/
import Derived.Test.YtfghmphaldefbabAtoms
import Derived.Test.YtfghmphaldefbabFactsOk
namespace Go.Proofs.Ytfghmphaldefbab
open Go.RowKit

set_option maxHeartbeats 1000000 in
theorem exactFactsOk_any (A : Option Addr) (n c : Nat) (l : List At) (w : World) (h : IsAtoms w 0 w.heap.size A n c l) :
    Calls Try.prog 6 #[.slice A n c] w (BoolPost true w) := by
  have H := Lib.hid h; clear h
  go_enter Try.func6, Try.ntmps6
  go_wp2_with fail
  refine (szAtomS_any _ _ _ l _ _ H.out (by omega) (by omega)).mono ?_; rintro e w1 ⟨y, ⟨rfl, ha, hb, hc⟩, hb1⟩
  go_wp2_with fail
  all_goals try (go_ret; exact ⟨rfl, hb1⟩)
  have hn : SmallAtoms n l := hc (by assumption)
  clear ha hb hc
  refine (toAtomS_any _ _ _ l _ (H.out.up AtomE.stays hb1) hn).mono ?_; rintro e w2 ⟨g2, rfl, hg2, o2, hb2⟩
  have HB2 := belowThen hb1 hb2
  go_wp2_with fail
  refine (specFactsOk_any _ _ _ l _ o2.low).mono ?_; rintro e w3 ⟨rfl, hb3⟩
  have HB3 := belowThen HB2 hb3
  clear hb1 hb2 hb3 o2 HB2
  go_wp2_with fail
  refine (toAtomS_any _ _ _ l _ (H.out.up AtomE.stays HB3) hn).mono ?_; rintro e w4 ⟨g4, rfl, hg4, o4, hb4⟩
  have HB4 := belowThen HB3 hb4
  go_wp2_with fail
  refine (implFactsOk_any _ _ _ l _ o4.low).mono ?_; rintro e w5 ⟨rfl, hb5⟩
  have HB5 := belowThen HB4 hb5
  have o5 := o4.low.up AtomE.stays hb5
  clear hb4 hb5 o4 HB4
  go_wp2_with fail
  refine (toAtomS_any _ _ _ l _ (H.out.up AtomE.stays HB5) hn).mono ?_; rintro e w6 ⟨g6, rfl, hg6, o6, hb6⟩
  have HB6 := belowThen HB5 hb6
  have o56 := o5.up AtomE.stays hb6
  go_wp2_with fail
  refine (eqAtomS_any _ _ _ _ _ _ l l _ o56 o6.low).mono ?_; rintro e w7 ⟨rfl, hb7⟩
  have HB7 := belowThen HB6 hb7
  rw [listEq_refl atomEq_refl]
  go_wp2
  go_ret; exact ⟨rfl, HB7⟩

end Go.Proofs.Ytfghmphaldefbab
