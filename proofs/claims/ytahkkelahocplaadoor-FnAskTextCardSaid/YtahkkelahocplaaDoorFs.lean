/-
  Sameness of the program's own atoms, as the laws ask for it.
-/
import Derived.Test.YtahkkelahocplaaDoorEq
import Derived.Test.YtahkkelahocplaaDoorCmp2
import Derived.Laws.StructEq
namespace Go.Proofs.YtahkkelahocplaaDoor
open Go.RowKit

set_option maxHeartbeats 1000000 in
theorem fsAtom_any (nm nm' : ByteArray) (A B : Option Addr) (n c n' c' : Nat) (ts us : List Tm) (w : World) (h : IsTerms w 0 w.heap.size A n c ts) (h' : IsTerms w 0 w.heap.size B n' c' us) :
    Calls Tryd.prog 20 #[.agg #[.string nm, .slice A n c], .agg #[.string nm', .slice B n' c']] w (BoolPost (atomEq (nm, ts) (nm', us)) w) := by
  have hm : n ≤ maxLen := by have := h.2.1; have := h.2.2.1; omega
  unfold maxLen at hm
  have H := Lib.hid h; clear h
  have H' := Lib.hid h'; clear h'
  by_cases hne : n = n'
  · subst hne
    have hw0 := below2 w (.cells #[.string nm, .slice A n c] 24) (.cells #[.string nm', .slice B n c'] 24)
    go_enter Tryd.func20, Tryd.ntmps20
    by_cases hnm : nm.toList = nm'.toList
    · go_wp2_with fail
      go_loopw [5] (fun i wr => ∃ k : Nat, k ≤ n ∧ i = .int .i64 k ∧ termsEq (ts.drop k) (us.drop k) = termsEq ts us ∧ Below ((w.alloc (.cells #[.string nm, .slice A n c] 24)).alloc (.cells #[.string nm', .slice B n c'] 24)).heap.size ((w.alloc (.cells #[.string nm, .slice A n c] 24)).alloc (.cells #[.string nm', .slice B n c'] 24)) wr) (fun i _ => n - (intOf i).toNat)
      case atStart => exact ⟨0, Nat.zero_le _, rfl, rfl, Below.refl _ _⟩
      case round =>
        obtain ⟨k, hk, rfl, hd, hb⟩ := hrel
        have HD := Lib.hid hd; clear hd
        obtain ⟨hc, hf⟩ := oldCells hb
        by_cases hlt : k < n
        · obtain ⟨p, t, hA, hlo, hhi, hg, c1, c2, c3⟩ := ((H.out.up hw0).below hb (Nat.le_refl _)).at_ hlt
          obtain ⟨p', t', hA', hlo', hhi', hg', c1', c2', c3'⟩ := ((H'.out.up hw0).below hb (Nat.le_refl _)).at_ hlt
          subst hA; subst hA'
          have HG := Lib.hid hg; clear hg
          have HG' := Lib.hid hg'; clear hg'
          go_wp2_with fail
          have z1 : wr.cell? ⟨w.heap.size, 1, none⟩ = some (.slice (some p) n c) := (hc _ _ (by simp <;> omega)).trans (by simp [go_sem])
          have z2 : wr.cell? ⟨w.heap.size + 1, 1, none⟩ = some (.slice (some p') n c') := (hc _ _ (by simp <;> omega)).trans (by simp [go_sem])
          have hte : termEq (t.1, t.2) (t'.1, t'.2) = ((t.1 == t'.1) && (t.2.toList == t'.2.toList)) := rfl
          by_cases hv : t.1 = t'.1
          · by_cases hs : t.2.toList = t'.2.toList
            · have heq : (!termEq (t.1, t.2) (t'.1, t'.2)) = false := by rw [hte]; simp [hv, hs]
              have HE := Lib.hid heq; clear heq hte
              go_region_held3 (fun W => W.cell? ⟨w.heap.size, 1, none⟩ = some (.slice (some p) n c) ∧ W.cell? ⟨w.heap.size + 1, 1, none⟩ = some (.slice (some p') n c') ∧ W.cell? (p.add (k * 2)) = some (.bool t.1) ∧ W.cell? ⟨(p.add (k * 2)).block, (p.add (k * 2)).off + 1, none⟩ = some (.string t.2) ∧ W.cell? (p'.add (k * 2)) = some (.bool t'.1) ∧ W.cell? ⟨(p'.add (k * 2)).block, (p'.add (k * 2)).off + 1, none⟩ = some (.string t'.2))
                (exact ⟨z1, z2, c1, c2, c1', c2'⟩)
                (fail)
              go_wp2
              all_goals first
                | (go_ret
                   refine ⟨retB ?_, belowThen hw0 hb.drew⟩
                   have he := termsEq_no HG.out HG'.out HD.out HE.out
                   unfold atomEq; rw [← he]; simp)
                | (go_roundw
                   case rel => exact ⟨k + 1, by omega, by go_num, termsEq_on HG.out HG'.out HD.out HE.out, hb.drew⟩
                   case measure => simp [intOf]; omega)
            · have heq : (!termEq (t.1, t.2) (t'.1, t'.2)) = true := by rw [hte]; simp [hs]
              have HE := Lib.hid heq; clear heq hte
              go_region_held3 (fun W => W.cell? ⟨w.heap.size, 1, none⟩ = some (.slice (some p) n c) ∧ W.cell? ⟨w.heap.size + 1, 1, none⟩ = some (.slice (some p') n c') ∧ W.cell? (p.add (k * 2)) = some (.bool t.1) ∧ W.cell? ⟨(p.add (k * 2)).block, (p.add (k * 2)).off + 1, none⟩ = some (.string t.2) ∧ W.cell? (p'.add (k * 2)) = some (.bool t'.1) ∧ W.cell? ⟨(p'.add (k * 2)).block, (p'.add (k * 2)).off + 1, none⟩ = some (.string t'.2))
                (exact ⟨z1, z2, c1, c2, c1', c2'⟩)
                (fail)
              go_wp2
              all_goals first
                | (go_ret
                   refine ⟨retB ?_, belowThen hw0 hb.drew⟩
                   have he := termsEq_no HG.out HG'.out HD.out HE.out
                   unfold atomEq; rw [← he]; simp)
                | (go_roundw
                   case rel => exact ⟨k + 1, by omega, by go_num, termsEq_on HG.out HG'.out HD.out HE.out, hb.drew⟩
                   case measure => simp [intOf]; omega)
          · have heq : (!termEq (t.1, t.2) (t'.1, t'.2)) = true := by rw [hte]; simp [hv]
            have HE := Lib.hid heq; clear heq hte
            go_region_held3 (fun W => W.cell? ⟨w.heap.size, 1, none⟩ = some (.slice (some p) n c) ∧ W.cell? ⟨w.heap.size + 1, 1, none⟩ = some (.slice (some p') n c') ∧ W.cell? (p.add (k * 2)) = some (.bool t.1) ∧ W.cell? ⟨(p.add (k * 2)).block, (p.add (k * 2)).off + 1, none⟩ = some (.string t.2) ∧ W.cell? (p'.add (k * 2)) = some (.bool t'.1) ∧ W.cell? ⟨(p'.add (k * 2)).block, (p'.add (k * 2)).off + 1, none⟩ = some (.string t'.2))
              (exact ⟨z1, z2, c1, c2, c1', c2'⟩)
              (fail)
            go_wp2
            all_goals first
              | (go_ret
                 refine ⟨retB ?_, belowThen hw0 hb.drew⟩
                 have he := termsEq_no HG.out HG'.out HD.out HE.out
                 unfold atomEq; rw [← he]; simp)
              | (go_roundw
                 case rel => exact ⟨k + 1, by omega, by go_num, termsEq_on HG.out HG'.out HD.out HE.out, hb.drew⟩
                 case measure => simp [intOf]; omega)
        · go_wp2
          go_ret
          refine ⟨retB ?_, belowThen hw0 hb⟩
          have he := termsEq_end H.out.1 H'.out.1 HD.out hlt
          unfold atomEq; rw [← he]; simp [hnm]
    · go_wp2
      go_ret
      refine ⟨retB ?_, below2 _ _ _⟩
      unfold atomEq; simp [hnm]
  · go_enter Tryd.func20, Tryd.ntmps20
    go_wp2
    · go_ret
      refine ⟨retB ?_, below2 _ _ _⟩
      unfold atomEq; rw [termsEq_len (by rw [H.out.1, H'.out.1]; exact hne)]; simp
    · go_ret
      refine ⟨retB ?_, below2 _ _ _⟩
      unfold atomEq; rw [termsEq_len (by rw [H.out.1, H'.out.1]; exact hne)]; simp

end Go.Proofs.YtahkkelahocplaaDoor
