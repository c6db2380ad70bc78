/-
  Parts: the law's own comparison of parts; rules: its sizes, copies and comparisons of one rule.
-/
import Derived.Test.YtalneeelcdmoaaaGreatDoorParts
import Derived.Test.YtalneeelcdmoaaaGreatDoorMem
namespace Go.Proofs.YtalneeelcdmoaaaGreatDoor
open Go.RowKit

def partEq (a b : Pt) : Bool := (a.1 == b.1) && atomEq a.2 b.2

theorem partEq_refl (a : Pt) : partEq a a = true := by unfold partEq; simp [atomEq_refl]

set_option maxHeartbeats 400000 in
theorem eqPart_any (b b' : Bool) (nm nm' : ByteArray) (A B : Option Addr) (n c n' c' : Nat) (ts us : List Tm) (w : World) (h : IsTerms w 0 w.heap.size A n c ts) (h' : IsTerms w 0 w.heap.size B n' c' us) :
    Calls Tryz.prog 141 #[.agg #[.bool b, .string nm, .slice A n c], .agg #[.bool b', .string nm', .slice B n' c']] w (BoolPost (partEq (b, nm, ts) (b', nm', us)) w) := by
  have H := Lib.hid h; clear h
  have H' := Lib.hid h'; clear h'
  go_enter Tryz.func141, Tryz.ntmps141
  go_wp2_with (go_at_call 87; refine (eqAtom_any _ _ _ _ _ _ _ _ ts us _ (H.out.up (below2 _ _ _)) (H'.out.up (below2 _ _ _))).mono ?_; rintro e w1 ⟨rfl, hb1⟩)
  all_goals first
    | (go_ret; refine ⟨retB ?_, belowThen (below2 _ _ _) hb1⟩; unfold partEq; simp_all)
    | (go_ret; refine ⟨retB ?_, below2 _ _ _⟩; unfold partEq; simp_all)

set_option maxHeartbeats 1000000 in
theorem eqPartS_any (A B : Option Addr) (n c n' c' : Nat) (xs ys : List Pt) (w : World) (h : IsParts w 0 w.heap.size A n c xs) (h' : IsParts w 0 w.heap.size B n' c' ys) :
    Calls Tryz.prog 108 #[.slice A n c, .slice B n' c'] w (BoolPost (listEq partEq xs ys) w) := by
  have hm := h.len
  unfold maxLen at hm
  have H := Lib.hid h; clear h
  have H' := Lib.hid h'; clear h'
  by_cases hne : n = n'
  · subst hne
    go_enter Tryz.func108, Tryz.ntmps108
    go_wp2
    go_loopw [5] (fun i wr => ∃ k : Nat, k ≤ n ∧ i = .int .i64 k ∧ listEq partEq (xs.drop k) (ys.drop k) = listEq partEq xs ys ∧ Below w.heap.size w wr) (fun i _ => n - (intOf i).toNat)
    case atStart => exact ⟨0, Nat.zero_le _, rfl, rfl, Below.refl _ _⟩
    case round =>
      obtain ⟨k, hk, rfl, hd, hb⟩ := hrel
      have HD := Lib.hid hd; clear hd
      by_cases hlt : k < n
      · obtain ⟨p, q, hA, hlo, hhi, hg, hE⟩ := (H.out.below PartE.stays hb (Nat.le_refl _)).at_ hlt
        obtain ⟨p', q', hA', hlo', hhi', hg', hE'⟩ := (H'.out.below PartE.stays hb (Nat.le_refl _)).at_ hlt
        obtain ⟨C, m, d, d1, d2, d3, d4, d5⟩ := hE.out
        obtain ⟨C', m', d', f1, f2, f3, f4, f5⟩ := hE'.out
        clear hE hE'
        subst hA; subst hA'
        have HG := Lib.hid hg; clear hg
        have HG' := Lib.hid hg'; clear hg'
        have HT := Lib.hid (d5.keep (w' := wr.drew) (lo' := 0) (hi' := wr.drew.heap.size) (fun _ _ _ => rfl) (Nat.le_refl _) hb.size); clear d5
        have HT' := Lib.hid (f5.keep (w' := wr.drew) (lo' := 0) (hi' := wr.drew.heap.size) (fun _ _ _ => rfl) (Nat.le_refl _) hb.size); clear f5
        have hbd := hb.drew
        go_wp2_with fail
        go_region_with (go_at_call 141; refine (eqPart_any _ _ _ _ _ _ _ _ _ _ q.2.2 q'.2.2 _ HT.out HT'.out).mono ?_; rintro e w1 ⟨rfl, hb1⟩)
        all_goals go_wp2
        all_goals first
          | (go_ret; exact ⟨retB (listEq_no HG.out HG'.out HD.out (by assumption)), belowThen hbd hb1⟩)
          | (go_roundw
             case rel => exact ⟨k + 1, by omega, by go_num, listEq_on HG.out HG'.out HD.out (by assumption), belowThen hbd hb1⟩
             case measure => simp [intOf]; omega)
      · have hl := Lib.hid H.out.1
        have hl' := Lib.hid H'.out.1
        go_wp2
        go_ret
        exact ⟨retB (listEq_end hl.out hl'.out HD.out hlt), hb⟩
  · have hlen : xs.length ≠ ys.length := by rw [H.out.1, H'.out.1]; exact hne
    go_enter Tryz.func108, Tryz.ntmps108
    go_wp2
    go_ret
    exact ⟨retB (listEq_len hlen).symm, Below.refl _ _⟩

end Go.Proofs.YtalneeelcdmoaaaGreatDoor
