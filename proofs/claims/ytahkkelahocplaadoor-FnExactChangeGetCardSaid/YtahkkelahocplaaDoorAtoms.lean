/-
  Atoms: the law's own sizes, copies and comparisons of lists of atoms.
-/
import Derived.Test.YtahkkelahocplaaDoorEq
import Derived.Test.YtahkkelahocplaaDoorMem
import Derived.Deep.RegionWith
namespace Go.Proofs.YtahkkelahocplaaDoor
open Go.RowKit


/-- A copy of atoms, in memory of its own. -/
def AtomSPost (n : Nat) (xs : List At) (w : World) (e : Ending) (w' : World) : Prop := ∃ g, e = .returned (.slice (some ⟨g, 0, none⟩) n n) ∧ w.heap.size ≤ g ∧ IsAtoms w' w.heap.size w'.heap.size (some ⟨g, 0, none⟩) n n xs ∧ Below w.heap.size w w'


set_option maxHeartbeats 1000000 in
theorem eqAtomS_any (A B : Option Addr) (n c n' c' : Nat) (xs ys : List At) (w : World) (h : IsAtoms w 0 w.heap.size A n c xs) (h' : IsAtoms w 0 w.heap.size B n' c' ys) :
    Calls Tryd.prog 90 #[.slice A n c, .slice B n' c'] w (BoolPost (listEq atomEq xs ys) w) := by
  have hm := h.len
  unfold maxLen at hm
  have H := Lib.hid h; clear h
  have H' := Lib.hid h'; clear h'
  by_cases hne : n = n'
  · subst hne
    go_enter Tryd.func90, Tryd.ntmps90
    go_wp2
    go_loopw [5] (fun i wr => ∃ k : Nat, k ≤ n ∧ i = .int .i64 k ∧ listEq atomEq (xs.drop k) (ys.drop k) = listEq atomEq xs ys ∧ Below w.heap.size w wr) (fun i _ => n - (intOf i).toNat)
    case atStart => exact ⟨0, Nat.zero_le _, rfl, rfl, Below.refl _ _⟩
    case round =>
      obtain ⟨k, hk, rfl, hd, hb⟩ := hrel
      have HD := Lib.hid hd; clear hd
      by_cases hlt : k < n
      · obtain ⟨p, q, hA, hlo, hhi, hg, hE⟩ := (H.out.below AtomE.stays hb (Nat.le_refl _)).at_ hlt
        obtain ⟨p', q', hA', hlo', hhi', hg', hE'⟩ := (H'.out.below AtomE.stays hb (Nat.le_refl _)).at_ hlt
        obtain ⟨C, m, d, d1, d3, d4, d5⟩ := hE.out
        obtain ⟨C', m', d', f1, f3, f4, f5⟩ := hE'.out
        clear hE hE'
        subst hA; subst hA'
        have HG := Lib.hid hg; clear hg
        have HG' := Lib.hid hg'; clear hg'
        have HT := Lib.hid (d5.keep (w' := wr.drew) (lo' := 0) (hi' := wr.drew.heap.size) (fun _ _ _ => rfl) (Nat.le_refl _) hb.size); clear d5
        have HT' := Lib.hid (f5.keep (w' := wr.drew) (lo' := 0) (hi' := wr.drew.heap.size) (fun _ _ _ => rfl) (Nat.le_refl _) hb.size); clear f5
        have hbd := hb.drew
        go_wp2_with fail
        go_region_with (go_at_call 12; refine (eqAtom_any _ _ _ _ _ _ _ _ q.2 q'.2 _ HT.out HT'.out).mono ?_; rintro e w1 ⟨rfl, hb1⟩)
        all_goals go_wp2
        all_goals first
          | (go_ret; exact ⟨retB (listEq_no HG.out HG'.out HD.out (by assumption)), belowThen hbd hb1⟩)
          | (go_roundw
             case rel => exact ⟨k + 1, by omega, by go_num, listEq_on HG.out HG'.out HD.out (by assumption), belowThen hbd hb1⟩
             case measure => simp [intOf]; omega)
      · have hl := Lib.hid H.out.1
        have hl' := Lib.hid H'.out.1
        go_wp2
        go_ret
        exact ⟨retB (listEq_end hl.out hl'.out HD.out hlt), hb⟩
  · have hlen : xs.length ≠ ys.length := by rw [H.out.1, H'.out.1]; exact hne
    go_enter Tryd.func90, Tryd.ntmps90
    go_wp2
    go_ret
    exact ⟨retB (listEq_len hlen).symm, Below.refl _ _⟩

end Go.Proofs.YtahkkelahocplaaDoor
