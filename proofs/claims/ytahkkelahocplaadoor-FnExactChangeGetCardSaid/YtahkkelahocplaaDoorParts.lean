/-
  Parts: the law's own sizes, copies and comparisons of parts and of rules.
  Parts: the law's own comparison of parts; rules: its sizes, copies and comparisons of one rule.
-/
import Derived.Test.YtahkkelahocplaaDoorMem
import Derived.Test.YtahkkelahocplaaDoorEq
import Derived.Deep.RegionWith
namespace Go.Proofs.YtahkkelahocplaaDoor
open Go.RowKit

/-- Each has few terms. -/
def SmallParts (n : Nat) (xs : List Pt) : Prop := n ≤ 1048576 ∧ ∀ q ∈ xs, q.2.2.length ≤ 1048576



/-- A part by value, its terms in memory of their own. -/
def PartPost (b : Bool) (nm : ByteArray) (n : Nat) (ts : List Tm) (w : World) (e : Ending) (w' : World) : Prop := ∃ g, e = .returned (.agg #[.bool b, .string nm, .slice (some ⟨g, 0, none⟩) n n]) ∧ w.heap.size ≤ g ∧ OwnTerms w' g n ts ∧ Below w.heap.size w w'


theorem Tryd.infoPart : (Tryd.prog.info? 86).map (fun i => (i.zero, i.size, i.bytes)) = some (some (.agg #[.bool false, .string ByteArray.empty, .slice none 0 0]), 3, 48) := by kernel_rfl

/-- A copy of parts, in memory of its own. -/
def PartSPost (n : Nat) (xs : List Pt) (w : World) (e : Ending) (w' : World) : Prop := ∃ g, e = .returned (.slice (some ⟨g, 0, none⟩) n n) ∧ w.heap.size ≤ g ∧ IsParts w' w.heap.size w'.heap.size (some ⟨g, 0, none⟩) n n xs ∧ Below w.heap.size w w'


end Go.Proofs.YtahkkelahocplaaDoor

namespace Go.Proofs.YtahkkelahocplaaDoor
open Go.RowKit

def partEq (a b : Pt) : Bool := (a.1 == b.1) && atomEq a.2 b.2

theorem partEq_refl (a : Pt) : partEq a a = true := by unfold partEq; simp [atomEq_refl]

set_option maxHeartbeats 400000 in
theorem eqPart_any (b b' : Bool) (nm nm' : ByteArray) (A B : Option Addr) (n c n' c' : Nat) (ts us : List Tm) (w : World) (h : IsTerms w 0 w.heap.size A n c ts) (h' : IsTerms w 0 w.heap.size B n' c' us) :
    Calls Tryd.prog 76 #[.agg #[.bool b, .string nm, .slice A n c], .agg #[.bool b', .string nm', .slice B n' c']] w (BoolPost (partEq (b, nm, ts) (b', nm', us)) w) := by
  have H := Lib.hid h; clear h
  have H' := Lib.hid h'; clear h'
  go_enter Tryd.func76, Tryd.ntmps76
  go_wp2_with (go_at_call 12; refine (eqAtom_any _ _ _ _ _ _ _ _ ts us _ (H.out.up (below2 _ _ _)) (H'.out.up (below2 _ _ _))).mono ?_; rintro e w1 ⟨rfl, hb1⟩)
  all_goals first
    | (go_ret; refine ⟨retB ?_, belowThen (below2 _ _ _) hb1⟩; unfold partEq; simp_all)
    | (go_ret; refine ⟨retB ?_, below2 _ _ _⟩; unfold partEq; simp_all)

set_option maxHeartbeats 1000000 in
theorem eqPartS_any (A B : Option Addr) (n c n' c' : Nat) (xs ys : List Pt) (w : World) (h : IsParts w 0 w.heap.size A n c xs) (h' : IsParts w 0 w.heap.size B n' c' ys) :
    Calls Tryd.prog 34 #[.slice A n c, .slice B n' c'] w (BoolPost (listEq partEq xs ys) w) := by
  have hm := h.len
  unfold maxLen at hm
  have H := Lib.hid h; clear h
  have H' := Lib.hid h'; clear h'
  by_cases hne : n = n'
  · subst hne
    go_enter Tryd.func34, Tryd.ntmps34
    go_wp2
    go_loopw [5] (fun i wr => ∃ k : Nat, k ≤ n ∧ i = .int .i64 k ∧ listEq partEq (xs.drop k) (ys.drop k) = listEq partEq xs ys ∧ Below w.heap.size w wr) (fun i _ => n - (intOf i).toNat)
    case atStart => exact ⟨0, Nat.zero_le _, rfl, rfl, Below.refl _ _⟩
    case round =>
      obtain ⟨k, hk, rfl, hd, hb⟩ := hrel
      have HD := Lib.hid hd; clear hd
      by_cases hlt : k < n
      · obtain ⟨p, q, hA, hlo, hhi, hg, hE⟩ := (H.out.below PartE.stays hb (Nat.le_refl _)).at_ hlt
        obtain ⟨p', q', hA', hlo', hhi', hg', hE'⟩ := (H'.out.below PartE.stays hb (Nat.le_refl _)).at_ hlt
        obtain ⟨C, m, d, d1, d2, d3, d4, d5⟩ := hE.out
        obtain ⟨C', m', d', f1, f2, f3, f4, f5⟩ := hE'.out
        clear hE hE'
        subst hA; subst hA'
        have HG := Lib.hid hg; clear hg
        have HG' := Lib.hid hg'; clear hg'
        have HT := Lib.hid (d5.keep (w' := wr.drew) (lo' := 0) (hi' := wr.drew.heap.size) (fun _ _ _ => rfl) (Nat.le_refl _) hb.size); clear d5
        have HT' := Lib.hid (f5.keep (w' := wr.drew) (lo' := 0) (hi' := wr.drew.heap.size) (fun _ _ _ => rfl) (Nat.le_refl _) hb.size); clear f5
        have hbd := hb.drew
        go_wp2_with fail
        go_region_with (go_at_call 76; refine (eqPart_any _ _ _ _ _ _ _ _ _ _ q.2.2 q'.2.2 _ HT.out HT'.out).mono ?_; rintro e w1 ⟨rfl, hb1⟩)
        all_goals go_wp2
        all_goals first
          | (go_ret; exact ⟨retB (listEq_no HG.out HG'.out HD.out (by assumption)), belowThen hbd hb1⟩)
          | (go_roundw
             case rel => exact ⟨k + 1, by omega, by go_num, listEq_on HG.out HG'.out HD.out (by assumption), belowThen hbd hb1⟩
             case measure => simp [intOf]; omega)
      · have hl := Lib.hid H.out.1
        have hl' := Lib.hid H'.out.1
        go_wp2
        go_ret
        exact ⟨retB (listEq_end hl.out hl'.out HD.out hlt), hb⟩
  · have hlen : xs.length ≠ ys.length := by rw [H.out.1, H'.out.1]; exact hne
    go_enter Tryd.func34, Tryd.ntmps34
    go_wp2
    go_ret
    exact ⟨retB (listEq_len hlen).symm, Below.refl _ _⟩

end Go.Proofs.YtahkkelahocplaaDoor

