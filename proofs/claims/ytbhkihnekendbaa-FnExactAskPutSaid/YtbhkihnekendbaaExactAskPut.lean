/-
  The exact law of AskPut: at every body the program tells its model's text, and the body is as it was.
-/
import Derived.Test.YtbhkihnekendbaaParts2
import Derived.Test.YtbhkihnekendbaaAskPut
namespace Go.Proofs.Ytbhkihnekendbaa
open Go.RowKit

theorem bodyLow {w : World} {lo n c : Nat} {A : Option Addr} {xs : List Pt} (h : IsParts w lo w.heap.size A n c xs) : IsParts w 0 w.heap.size A n c xs := h.keep PartE.stays (fun _ _ _ => rfl) (Nat.zero_le _) (Nat.le_refl _)

set_option maxHeartbeats 1000000 in
theorem exactAskPut_any (A : Option Addr) (n c : Nat) (l : List Pt) (w : World) (h : IsParts w 0 w.heap.size A n c l) :
    Calls Try.prog 11 #[.slice A n c] w (BoolPost true w) := by
  have H := Lib.hid h; clear h
  go_enter Try.func11, Try.ntmps11
  go_wp2_with fail
  refine (szPartS_any _ _ _ l _ _ H.out (by omega) (by omega)).mono ?_; rintro e w1 ⟨y, ⟨rfl, ha, hb, hc⟩, hb1⟩
  go_wp2_with fail
  all_goals try (go_ret; exact ⟨rfl, hb1⟩)
  have hn : SmallParts n l := hc (by assumption)
  clear ha hb hc
  refine (toPartS_any _ _ _ l _ (H.out.up PartE.stays hb1) hn).mono ?_; rintro e w2 ⟨g2, rfl, hg2, o2, hb2⟩
  have HB2 := belowThen hb1 hb2
  go_wp2_with fail
  refine (specAskPut_any _ _ _ l _ (bodyLow o2)).mono ?_; rintro e w3 ⟨rfl, hb3⟩
  have HB3 := belowThen HB2 hb3
  clear hb1 hb2 hb3 o2 HB2
  go_wp2_with fail
  refine (toPartS_any _ _ _ l _ (H.out.up PartE.stays HB3) hn).mono ?_; rintro e w4 ⟨g4, rfl, hg4, o4, hb4⟩
  have HB4 := belowThen HB3 hb4
  go_wp2_with fail
  refine (implAskPut_any _ _ _ l _ (bodyLow o4)).mono ?_; rintro e w5 ⟨rfl, hb5⟩
  have HB5 := belowThen HB4 hb5
  have o5 := (bodyLow o4).up PartE.stays hb5
  clear hb4 hb5 o4 HB4
  go_wp2_with fail
  refine (toPartS_any _ _ _ l _ (H.out.up PartE.stays HB5) hn).mono ?_; rintro e w6 ⟨g6, rfl, hg6, o6, hb6⟩
  have HB6 := belowThen HB5 hb6
  have o56 := o5.up PartE.stays hb6
  go_wp2_with fail
  refine (eqPartS_any _ _ _ _ _ _ l l _ o56 (bodyLow o6)).mono ?_; rintro e w7 ⟨rfl, hb7⟩
  have HB7 := belowThen HB6 hb7
  rw [listEq_refl partEq_refl]
  go_wp2
  go_ret; exact ⟨rfl, HB7⟩

end Go.Proofs.Ytbhkihnekendbaa
