/-
  What is ok in the program: a body, a rule.
-/
import Derived.Test.YtahkkelahocplaaDoorRule2
namespace Go.Proofs.YtahkkelahocplaaDoor
open Go.RowKit

set_option maxHeartbeats 1000000 in
theorem bodyOk_any (B : Option Addr) (m d : Nat) (xs : List Pt) (w : World) (h : IsParts w 0 w.heap.size B m d xs) :
    Calls Tryd.prog 80 #[.slice B m d] w (BoolPost (bodyB xs && decide (xs.length ≤ 4)) w) := by
  have hm := h.len
  unfold maxLen at hm
  have L := Lib.hid h.1
  have H := Lib.hid h; clear h
  by_cases hlong : 4 < (m : Int)
  · have E := Lib.hid (show (bodyB xs && decide (xs.length ≤ 4)) = false by rw [L.out]; simp; omega)
    go_enter Tryd.func80, Tryd.ntmps80
    go_wp2
    go_ret; exact ⟨retB E.out.symm, Below.refl _ _⟩
  · have hle : decide (xs.length ≤ 4) = true := by rw [L.out]; simp; omega
    have HL := Lib.hid hle; clear hle
    go_enter Tryd.func80, Tryd.ntmps80
    go_wp2
    go_loopw [4, 10] (fun _ i wr => ∃ k : Nat, k ≤ m ∧ i = .int .i64 k ∧ bodyB (xs.take k) = true ∧ Below w.heap.size w wr) (fun _ i _ => m - (intOf i).toNat)
    case atStart => exact ⟨0, Nat.zero_le _, rfl, rfl, Below.refl _ _⟩
    case round =>
      obtain ⟨k, hk, rfl, hd, HB⟩ := hrel
      have HD := Lib.hid hd; clear hd
      by_cases hlt : k < m
      · obtain ⟨p, q, hA, hlo, hhi, hg, hE⟩ := (H.out.below PartE.stays HB (Nat.le_refl _)).at_ hlt
        obtain ⟨C, n', c', d1, d2, d3, d4, d5⟩ := hE.out
        clear hE
        subst hA
        have HG := Lib.hid hg; clear hg
        have hb1 := below1 wr (.cells #[.bool q.1, .string q.2.1, .slice C n' c'] 86)
        have HT := Lib.hid ((d5.keep (lo' := 0) (hi' := wr.heap.size) (fun _ _ _ => rfl) (Nat.le_refl _) HB.size).up hb1); clear d5
        go_wp2_with fail
        refine (implAtomOk_any _ _ _ _ q.2.2 _ d3 HT.out).mono ?_; rintro e w1 ⟨rfl, hb2⟩
        go_wp2
        · go_ret; exact ⟨retB (by rw [bodyB_no HG.out (atom_no (by assumption))]; rfl), belowThen (belowThen HB hb1) hb2⟩
        · go_roundw
          case rel => exact ⟨k + 1, by omega, by go_num, bodyB_snoc HG.out HD.out (atom_yes (by assumption)), belowThen (belowThen HB hb1) hb2⟩
          case measure => simp [intOf]; omega
      · have E := Lib.hid (bodyB_all L.out hlt HD.out)
        go_wp2
        go_ret; exact ⟨retB (by rw [E.out, HL.out]; rfl), HB⟩

set_option maxHeartbeats 1000000 in
theorem ruleOk_any (nm : ByteArray) (A : Option Addr) (n c : Nat) (B : Option Addr) (m d : Nat) (ts : List Tm) (xs : List Pt) (w : World) (hs : nm.size ≤ maxLen) (h : IsRule w w.heap.size A n c B m d ts xs) :
    Calls Tryd.prog 72 #[.agg #[.string nm, .slice A n c, .slice B m d]] w (BoolPost (ruleB ((nm, ts), xs)) w) := by
  have H := Lib.hid h; clear h
  have hw0 := below1 w (.cells #[.string nm, .slice A n c, .slice B m d] 38)
  have X0 := Lib.hid (Box3.new w (.string nm) (.slice A n c) (.slice B m d) 38)
  go_enter Tryd.func72, Tryd.ntmps72
  go_wp2_with fail
  refine (implAtomOk_any _ _ _ _ ts _ hs (H.out.up hw0).1).mono ?_; rintro e w1 ⟨rfl, hb1⟩
  have HB := belowThen hw0 hb1
  obtain ⟨x1, x2, x3, x4⟩ := X0.out.later hb1
  cases hA : atomB (nm, ts)
  · have E := Lib.hid (show ruleB ((nm, ts), xs) = false by unfold ruleB; rw [hA]; simp); clear hA
    go_wp2
    go_ret; exact ⟨retB E.out.symm, HB⟩
  · have E := Lib.hid (show ruleB ((nm, ts), xs) = (bodyB xs && decide (xs.length ≤ 4)) by unfold ruleB; rw [hA, Bool.true_and]); clear hA
    go_wp2_with fail
    refine (bodyOk_any _ _ _ xs _ (H.out.up HB).2).mono ?_; rintro e w2 ⟨rfl, hb2⟩
    go_wp2
    go_ret; exact ⟨retB E.out.symm, belowThen HB hb2⟩

end Go.Proofs.YtahkkelahocplaaDoor
