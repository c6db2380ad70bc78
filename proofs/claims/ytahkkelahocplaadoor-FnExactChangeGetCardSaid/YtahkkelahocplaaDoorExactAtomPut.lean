/-
  The exact law of AtomPut: what the law's own text does.
-/
import Derived.Test.YtahkkelahocplaaDoorPut2
import Derived.Test.YtahkkelahocplaaDoorEq
import Derived.Test.YtahkkelahocplaaDoorMem
import Derived.Deep.RegionHeld3
namespace Go.Proofs.YtahkkelahocplaaDoor
open Go.RowKit

set_option maxHeartbeats 400000 in
theorem specAtomPut_any (nm : ByteArray) (A : Option Addr) (n c : Nat) (ts : List Tm) (w : World) (hs : nm.size ≤ maxLen) (h : IsTerms w 0 w.heap.size A n c ts) :
    Calls Tryd.prog 17 #[.agg #[.string nm, .slice A n c]] w (StrPost (putB (nm, ts)) w) := by
  have H := Lib.hid h; clear h
  have hw0 := below1 w (.cells #[.string nm, .slice A n c] 24)
  have B0 := Lib.hid (Box.new w (.string nm) (.slice A n c) 24)
  go_enter Tryd.func17, Tryd.ntmps17
  go_wp2_with fail
  refine (specAtomOk_any _ _ _ _ ts _ hs (H.out.up hw0)).mono ?_; rintro e w1 ⟨rfl, hb1⟩
  have HB1 := belowThen hw0 hb1
  obtain ⟨x1, x2, x3⟩ := B0.out.later hb1
  clear hb1
  cases hA : atomB (nm, ts)
  · have E := Lib.hid (show putB (nm, ts) = [] by unfold putB; rw [hA]; rfl); clear hA
    go_wp2
    go_ret; exact ⟨by rw [E.out]; rfl, HB1⟩
  · have E := Lib.hid (show putB (nm, ts) = textL (nm, ts) by unfold putB; rw [hA]; rfl)
    have hle := textL_le hA
    clear hA
    go_wp2_with fail
    refine (l1Put_any _ _ _ _ ts _ (H.out.up HB1) (by omega)).mono ?_; rintro e w2 ⟨rfl, hb2⟩
    go_wp2
    go_ret; exact ⟨by rw [E.out]; rfl, belowThen HB1 hb2⟩


end Go.Proofs.YtahkkelahocplaaDoor
