/-
  The exact law of AtomCmp: at every two atoms the function answers as its model, and both are as they were.
-/
import Derived.Test.YteipacbklofabaaCmp2
import Derived.Test.YteipacbklofabaaSz
import Derived.Test.YteipacbklofabaaTo
import Derived.Test.YteipacbklofabaaEq
import Derived.Test.YteipacbklofabaaBox
import Derived.Deep.RegionHeld3
namespace Go.Proofs.Yteipacbklofabaa
open Go.RowKit

set_option maxHeartbeats 4000000 in
theorem exactAtomCmp_any (nm : ByteArray) (A : Option Addr) (n c : Nat) (ts : List Tm) (nm' : ByteArray) (A' : Option Addr) (n' c' : Nat) (us : List Tm) (w : World) (hs : nm.size ≤ maxLen) (h : IsTerms w 0 w.heap.size A n c ts) (hs' : nm'.size ≤ maxLen) (h' : IsTerms w 0 w.heap.size A' n' c' us) :
    Calls Try.prog 6 #[.agg #[.string nm, .slice A n c], .agg #[.string nm', .slice A' n' c']] w (BoolPost true w) := by
  have H := Lib.hid h; clear h
  have H' := Lib.hid h'; clear h'
  have hw0 := below2 w (.cells #[.string nm, .slice A n c] 28) (.cells #[.string nm', .slice A' n' c'] 28)
  have B0 := Lib.hid ((Box.new w (.string nm) (.slice A n c) 28).up (.cells #[.string nm', .slice A' n' c'] 28))
  have C0 := Lib.hid (Box.new2 w (.cells #[.string nm, .slice A n c] 28) (.string nm') (.slice A' n' c') 28)
  go_enter Try.func6, Try.ntmps6
  go_wp2_with fail
  refine (szAtom_any _ _ _ _ ts _ _ hs (H.out.up hw0) (by omega) (by omega)).mono ?_; rintro e w1 ⟨y1, ⟨rfl, hy2, hy3, hy4⟩, hb1⟩
  have HB1 := belowThen hw0 hb1
  have B1 := Lib.hid (B0.out.later hb1)
  have C1 := Lib.hid (C0.out.later hb1); clear hb1 B0 C0
  obtain ⟨x1, x2, x3⟩ := B1.out
  obtain ⟨y1, y2, y3⟩ := C1.out
  go_wp2_with fail
  · go_ret; exact ⟨rfl, HB1⟩
  · have hn : n ≤ 1048576 := hy4 (by assumption)
    refine (szAtom_any _ _ _ _ us _ _ hs' (H'.out.up HB1) (by assumption) hy3).mono ?_; rintro e w2 ⟨y2', ⟨rfl, hz2, hz3, hz4⟩, hb2⟩
    have HB2 := belowThen HB1 hb2
    have B2 := Lib.hid (B1.out.later hb2)
    have C2 := Lib.hid (C1.out.later hb2); clear hb2 B1 C1 x1 x2 x3 y1 y2 y3
    obtain ⟨x1, x2, x3⟩ := B2.out
    obtain ⟨y1, y2, y3⟩ := C2.out
    go_wp2_with fail
    · go_ret; exact ⟨rfl, HB2⟩
    · have hn' : n' ≤ 1048576 := hz4 (by assumption)
      clear hy4 hz4 hy2 hy3 hz2 hz3
      have hnm : n ≤ maxLen := by unfold maxLen; omega
      have hnm' : n' ≤ maxLen := by unfold maxLen; omega
      go_region_held3 (fun W => W.cell? ⟨w.heap.size, 0, none⟩ = some (.string nm) ∧ W.cell? ⟨w.heap.size, 1, none⟩ = some (.slice A n c) ∧ W.cell? ⟨w.heap.size + 1, 0, none⟩ = some (.string nm') ∧ W.cell? ⟨w.heap.size + 1, 1, none⟩ = some (.slice A' n' c'))
        (first | exact ⟨x2, x3, y2, y3⟩ | exact ⟨B3.2.1, B3.2.2, C3.2.1, C3.2.2⟩ | exact ⟨B4.2.1, B4.2.2, C4.2.1, C4.2.2⟩ | exact ⟨B5.2.1, B5.2.2, C5.2.1, C5.2.2⟩)
        (first
          | ((with_reducible refine (toAtom_any nm A n c ts _ (H.out.up HB2.drew) hn).mono ?_); rintro e w3 ⟨g3, rfl, hg3, ho3, hb3'⟩; have hb3 : Below w2.heap.size w2 w3 := undrew hb3'; clear hb3'; have HB3 := belowThen HB2 hb3; have B3 := B2.out.later hb3; have C3 := C2.out.later hb3)
          | ((with_reducible refine (toAtom_any nm' A' n' c' us _ (H'.out.up HB3) hn').mono ?_); rintro e w4 ⟨g4, rfl, hg4, ho4, hb4⟩; have HB4 := belowThen HB3 hb4; have ho34 := ho3.below (w' := w4) hb4; have B4 := B3.later hb4; have C4 := C3.later hb4)
          | ((with_reducible refine (specAtomCmp_any nm nm' _ _ _ _ _ _ ts us _ hs hs' (ho34.is_ hnm (Nat.zero_le _)) (ho4.is_ hnm' (Nat.zero_le _))).mono ?_); rintro e w5 ⟨rfl, hb5⟩; have HB5 := belowThen HB4 hb5; have B5 := B4.later hb5; have C5 := C4.later hb5))
      have B5' := Lib.hid B5
      have C5' := Lib.hid C5
      clear B2 C2 B3 C3 B4 C4 B5 C5 ho3 ho34 ho4 x1 x2 x3 y1 y2 y3
      obtain ⟨x1, x2, x3⟩ := B5'.out
      obtain ⟨y1, y2, y3⟩ := C5'.out
      go_wp2_with fail
      refine (toAtom_any nm _ _ _ ts _ (H.out.up HB5) hn).mono ?_; rintro e w6 ⟨g6, rfl, hg6, ho6, hb6⟩
      have HB6 := belowThen HB5 hb6
      have B6 := Lib.hid (B5'.out.later hb6)
      have C6 := Lib.hid (C5'.out.later hb6); clear hb6 B5' C5' x1 x2 x3 y1 y2 y3
      have D7 := Lib.hid (Box.new w6 (.string nm) (.slice (some ⟨g6, 0, none⟩) n n) 33)
      have hb7 := below1 w6 (.cells #[.string nm, .slice (some ⟨g6, 0, none⟩) n n] 33)
      have HB7 := belowThen HB6 hb7
      have B7 := Lib.hid (B6.out.later hb7)
      have C7 := Lib.hid (C6.out.later hb7)
      have ho7 := ho6.below hb7
      clear B6 C6 ho6 hb7
      obtain ⟨x1, x2, x3⟩ := B7.out
      obtain ⟨y1, y2, y3⟩ := C7.out
      go_wp2_with fail
      refine (toAtom_any nm' _ _ _ us _ (H'.out.up HB7) hn').mono ?_; rintro e w8 ⟨g8, rfl, hg8, ho8, hb8⟩
      have HB8 := belowThen HB7 hb8
      have B8 := Lib.hid (B7.out.later hb8)
      have C8 := Lib.hid (C7.out.later hb8)
      have D8 := Lib.hid (D7.out.later hb8)
      have hoo8 := ho7.below hb8
      clear hb8 B7 C7 D7 ho7 x1 x2 x3 y1 y2 y3
      have E9 := Lib.hid (Box.new w8 (.string nm') (.slice (some ⟨g8, 0, none⟩) n' n') 33)
      have hb9 := below1 w8 (.cells #[.string nm', .slice (some ⟨g8, 0, none⟩) n' n'] 33)
      have HB9 := belowThen HB8 hb9
      have B9 := Lib.hid (B8.out.later hb9)
      have C9 := Lib.hid (C8.out.later hb9)
      have D9 := Lib.hid (D8.out.later hb9)
      have hx9 := hoo8.below hb9
      have hy9 := ho8.below hb9
      clear B8 C8 D8 hoo8 ho8 hb9
      obtain ⟨x1, x2, x3⟩ := D9.out
      obtain ⟨y1, y2, y3⟩ := E9.out
      go_wp2_with fail
      refine (implAtomCmp_any nm nm' _ _ _ _ _ _ ts us _ hs hs' (hx9.is_ hnm (Nat.zero_le _)) (hy9.is_ hnm' (Nat.zero_le _))).mono ?_; rintro e w10 ⟨rfl, hb10⟩
      have HB10 := belowThen HB9 hb10
      have B10 := B9.out.later hb10
      have C10 := C9.out.later hb10
      have D10 := D9.out.later hb10
      have E10 := E9.out.later hb10
      have hx10 := hx9.below hb10
      have hy10 := hy9.below hb10
      clear hb10 B9 C9 D9 E9 hx9 hy9 x1 x2 x3 y1 y2 y3
      have hne : (cmpB (nm, ts) (nm', us) != cmpB (nm, ts) (nm', us)) = false := by simp
      go_wp2_with fail
      go_region_held3 (fun W => W.cell? ⟨w.heap.size, 0, none⟩ = some (.string nm) ∧ W.cell? ⟨w.heap.size, 1, none⟩ = some (.slice A n c) ∧ W.cell? ⟨w6.heap.size, 0, none⟩ = some (.string nm) ∧ W.cell? ⟨w6.heap.size, 1, none⟩ = some (.slice (some ⟨g6, 0, none⟩) n n))
        (first | exact ⟨B10.2.1, B10.2.2, D10.2.1, D10.2.2⟩ | exact ⟨B11.2.1, B11.2.2, D11.2.1, D11.2.2⟩ | exact ⟨B12.2.1, B12.2.2, D12.2.1, D12.2.2⟩)
        (first
          | ((with_reducible refine (toAtom_any nm A n c ts _ (H.out.up HB10.drew) hn).mono ?_); rintro e w11 ⟨g11, rfl, hg11, ho11, hb11'⟩; have hb11 : Below w10.heap.size w10 w11 := undrew hb11'; clear hb11'; have HB11 := belowThen HB10 hb11; have B11 := B10.later hb11; have D11 := D10.later hb11; have hx11 := hx10.below (w' := w11) hb11)
          | ((with_reducible refine (eqAtom_any nm nm _ _ _ _ _ _ ts ts _ (hx11.is_ hnm (Nat.zero_le _)) (ho11.is_ hnm (Nat.zero_le _))).mono ?_); rintro e w12 ⟨rfl, hb12⟩; have HB12 := belowThen HB11 hb12; have B12 := B11.later hb12; have D12 := D11.later hb12))
      have hb1012 := belowThen hb11 hb12
      have C12 := C10.later hb1012
      have E12 := E10.later hb1012
      have hy12 := hy10.below hb1012
      clear hb11 hb12 hb1012 B10 C10 D10 E10 hx10 hy10 B11 D11 hx11 ho11 B12 D12
      rw [atomEq_refl]
      go_wp2_with fail
      go_region_held3 (fun W => W.cell? ⟨w.heap.size + 1, 0, none⟩ = some (.string nm') ∧ W.cell? ⟨w.heap.size + 1, 1, none⟩ = some (.slice A' n' c') ∧ W.cell? ⟨w8.heap.size, 0, none⟩ = some (.string nm') ∧ W.cell? ⟨w8.heap.size, 1, none⟩ = some (.slice (some ⟨g8, 0, none⟩) n' n'))
        (first | exact ⟨C12.2.1, C12.2.2, E12.2.1, E12.2.2⟩ | exact ⟨C13.2.1, C13.2.2, E13.2.1, E13.2.2⟩ | exact ⟨C14.2.1, C14.2.2, E14.2.1, E14.2.2⟩)
        (first
          | ((with_reducible refine (toAtom_any nm' A' n' c' us _ (H'.out.up HB12.drew) hn').mono ?_); rintro e w13 ⟨g13, rfl, hg13, ho13, hb13'⟩; have hb13 : Below w12.heap.size w12 w13 := undrew hb13'; clear hb13'; have HB13 := belowThen HB12 hb13; have C13 := C12.later hb13; have E13 := E12.later hb13; have hy13 := hy12.below (w' := w13) hb13)
          | ((with_reducible refine (eqAtom_any nm' nm' _ _ _ _ _ _ us us _ (hy13.is_ hnm' (Nat.zero_le _)) (ho13.is_ hnm' (Nat.zero_le _))).mono ?_); rintro e w14 ⟨rfl, hb14⟩; have HB14 := belowThen HB13 hb14; have C14 := C13.later hb14; have E14 := E13.later hb14))
      rw [atomEq_refl]
      go_wp2
      go_ret; exact ⟨rfl, HB14⟩

end Go.Proofs.Yteipacbklofabaa
