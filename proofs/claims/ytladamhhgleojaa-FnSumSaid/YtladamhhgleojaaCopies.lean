/-
  Copies of lists of atoms: the program's own, and the model's: in memory of their own. (Written by tools/copies.py.)
-/
import Derived.Test.YtladamhhgleojaaAppended
import Derived.RangeFuncBox
namespace Go.Proofs.Ytladamhhgleojaa
open Go.RowKit

set_option maxRecDepth 100000 in
set_option maxHeartbeats 4000000 in
theorem copyAtoms_any (A : Option Addr) (n c : Nat) (xs : List At) (w : World) (h : IsAtoms w 0 w.heap.size A n c xs) (hn : SmallAtoms n xs) :
    Calls Try.prog 53 #[.slice A n c] w (CopySPost xs w) := by
  obtain ⟨hn1, hn2⟩ := hn
  obtain ⟨i0, hi, hz, hsz, hby⟩ := info_parts Try.infoAt
  have HN := Lib.hid hn2; clear hn2
  have HL0 := Lib.hid h.1
  have H := Lib.hid h; clear h
  go_enter Try.func53, Try.ntmps53
  go_wp2
  go_loopw [3, 8] (fun o i wr => ∃ (k : Nat) (Av : Option Addr) (cv : Nat) (rs : List Rf), k ≤ n ∧ i = .int .i64 k ∧ o = .slice Av k cv ∧ wr.ownsRow w.heap.size 26 2 (.slice Av k cv) k (rcells rs) ∧ rs.length = k ∧ rs.map rAt = xs.take k ∧ OwnIn wr w.heap.size wr.heap.size rs ∧ Below w.heap.size w wr) (fun _ i _ => n - (intOf i).toNat)
  case atStart => exact ⟨0, none, 0, [], Nat.zero_le _, rfl, rfl, ⟨rfl, .inl ⟨rfl, rfl⟩⟩, rfl, rfl, OwnIn.nil, Below.refl _ _⟩
  case round =>
    obtain ⟨k, Av, cv, rs, hk, rfl, rfl, hrow, hl, hm, ho, hb⟩ := hrel
    have HR := Lib.hid hrow; have HL := Lib.hid hl; have HM := Lib.hid hm; have HO := Lib.hid ho
    clear hrow hl hm ho
    by_cases hlt : k < n
    · obtain ⟨p, q, hA, hlo, hhi, hg, hE⟩ := (H.out.below AtomE.stays hb (Nat.le_refl _)).at_ hlt
      obtain ⟨A', n', c', d1, d3, d4, d5⟩ := hE.out
      clear hE
      subst hA
      have hq : n' ≤ 1048576 := by rw [← d5.1]; exact HN.out q (List.mem_of_getElem? hg)
      have HG := Lib.hid hg; clear hg
      have hwr := hb.size
      have hbx := below1 wr (.cells #[.string q.1, .slice A' n' c'] 26)
      have HT := Lib.hid (d5.keep (w' := wr.alloc (.cells #[.string q.1, .slice A' n' c'] 26)) (lo' := 0) (hi' := (wr.alloc (.cells #[.string q.1, .slice A' n' c'] 26)).heap.size) (fun x _ hx => World.cell?_alloc_lt wr _ x (by omega)) (Nat.le_refl _) (by simp; omega)); clear d5
      go_wp2_with fail
      refine (copyAtom_any q.1 A' n' c' q.2 _ HT.out hq).mono ?_; rintro e w1 ⟨A2, d2, rfl, hT, hR, hb1⟩
      have HB1 : Below wr.heap.size wr w1 := belowThen hbx hb1
      have HT1 := Lib.hid (hT.keep (w' := w1) (lo' := wr.heap.size) (hi' := w1.heap.size) (fun _ _ _ => rfl) (by simp) (Nat.le_refl _))
      have HR1 := Lib.hid (fun h0 => (hR h0).keep (w' := w1) (lo' := wr.heap.size) (hi' := w1.heap.size) (fun _ _ _ => rfl) (by simp) (Nat.le_refl _))
      have hrow1 : w1.ownsRow w.heap.size 26 2 (.slice Av k cv) k (rcells rs) := ownsRow_up HR.out HB1
      have HRW := Lib.hid hrow1
      have hw1s : w.heap.size ≤ w1.heap.size := Nat.le_trans hwr HB1.size
      clear hT hR hrow1 hb1 hbx
      go_wp2_with (at_builtin; refine wpList_append_own _ rfl _ _ 23 rfl w.heap.size 26 i0 _ 2 40 Try.underlying23 hi hz hsz hby rfl (by decide) _ _ _ rfl (HRW.out.alloc _) ⟨w1.heap.size, 0, none⟩ 1 1 [.string q.1, .slice A2 n' d2] rfl rfl (two_new _ _ _ _) (by simp [Value.oneCell']) (by unfold maxLen; omega) (by omega) (by simp; omega) ?_; intro v' w2 hown' hgrow' _; obtain ⟨g', cap', rfl⟩ := ownsRow_succ hown'; have hown := Lib.hid hown'; have hgrow := Lib.hid hgrow'; clear hown' hgrow')
      obtain ⟨rs', r1, r2, r3, r4, r5⟩ := copy_on HL.out HM.out HG.out HO.out hb HB1 d3 HT1.out HR1.out HRW.out hown.out hgrow.out
      go_roundw
      case rel => exact ⟨k + 1, _, _, rs', by omega, by go_num, rfl, r3, r1, r2, r4, r5⟩
      case measure => simp [intOf]; omega
    · have hkn : k = n := by omega
      subst hkn
      have hxs : xs.take k = xs := List.take_of_length_le (by have := HL0.out; omega)
      obtain ⟨A3, c3, e3, hO⟩ := OwnRefs.of_row HR.out HL.out.symm (Nat.le_refl _) HO.out (Nat.le_refl _)
      injection e3 with e3 _ e4
      subst e3; subst e4
      have HX := Lib.hid hxs; clear hxs
      go_wp2
      go_ret
      exact ⟨Av, cv, rs, by rw [HL0.out]; rfl, by rw [HL0.out]; exact hO, by rw [HM.out]; exact HX.out, hb⟩

set_option maxRecDepth 100000 in
set_option maxHeartbeats 4000000 in
theorem l3Copy_any (A : Option Addr) (n c : Nat) (xs : List At) (w : World) (h : IsAtoms w 0 w.heap.size A n c xs) (hn : SmallAtoms n xs) :
    Calls Try.prog 57 #[.slice A n c] w (CopySPost xs w) := by
  obtain ⟨hn1, hn2⟩ := hn
  obtain ⟨i0, hi, hz, hsz, hby⟩ := info_parts Try.infoAt
  have HN := Lib.hid hn2; clear hn2
  have HL0 := Lib.hid h.1
  have H := Lib.hid h; clear h
  go_enter Try.func57, Try.ntmps57
  go_wp2
  go_loopw [3, 4] (fun o i wr => ∃ (k : Nat) (Av : Option Addr) (cv : Nat) (rs : List Rf), k ≤ n ∧ i = .int .i64 k ∧ o = .slice Av k cv ∧ wr.ownsRow w.heap.size 26 2 (.slice Av k cv) k (rcells rs) ∧ rs.length = k ∧ rs.map rAt = xs.take k ∧ OwnIn wr w.heap.size wr.heap.size rs ∧ Below w.heap.size w wr) (fun _ i _ => n - (intOf i).toNat)
  case atStart => exact ⟨0, some ⟨w.heap.size, 0, none⟩, 0, [], Nat.zero_le _, rfl, rfl, ⟨rfl, .inr ⟨w.heap.size, 0, #[], rfl, Nat.le_refl _, heap_alloc_new w _, Nat.le_refl _, by unfold maxLen; omega, rfl, rfl⟩⟩, rfl, rfl, OwnIn.nil, below1 _ _⟩
  case round =>
    obtain ⟨k, Av, cv, rs, hk, rfl, rfl, hrow, hl, hm, ho, hb⟩ := hrel
    have HR := Lib.hid hrow; have HL := Lib.hid hl; have HM := Lib.hid hm; have HO := Lib.hid ho
    clear hrow hl hm ho
    by_cases hlt : k < n
    · obtain ⟨p, q, hA, hlo, hhi, hg, hE⟩ := (H.out.below AtomE.stays hb (Nat.le_refl _)).at_ hlt
      obtain ⟨A', n', c', d1, d3, d4, d5⟩ := hE.out
      clear hE
      subst hA
      have hq : n' ≤ 1048576 := by rw [← d5.1]; exact HN.out q (List.mem_of_getElem? hg)
      have HG := Lib.hid hg; clear hg
      have hwr := hb.size
      have hbx := below1 wr (.cells #[.string q.1, .slice A' n' c'] 26)
      have HT := Lib.hid (d5.keep (w' := wr) (lo' := 0) (hi' := wr.heap.size) (fun _ _ _ => rfl) (Nat.le_refl _) hb.size); clear d5
      go_wp2_with fail
      refine (l3AtomCopy_any q.1 A' n' c' q.2 _ HT.out hq).mono ?_; rintro e w1 ⟨A2, d2, rfl, hT, hR, hb1⟩
      have HB1 : Below wr.heap.size wr w1 := hb1
      have HT1 := Lib.hid (hT.keep (w' := w1) (lo' := wr.heap.size) (hi' := w1.heap.size) (fun _ _ _ => rfl) (by simp) (Nat.le_refl _))
      have HR1 := Lib.hid (fun h0 => (hR h0).keep (w' := w1) (lo' := wr.heap.size) (hi' := w1.heap.size) (fun _ _ _ => rfl) (by simp) (Nat.le_refl _))
      have hrow1 : w1.ownsRow w.heap.size 26 2 (.slice Av k cv) k (rcells rs) := ownsRow_up HR.out HB1
      have HRW := Lib.hid hrow1
      have hw1s : w.heap.size ≤ w1.heap.size := Nat.le_trans hwr HB1.size
      clear hT hR hrow1 hb1 hbx
      go_wp2_with (at_builtin; refine wpList_append_own _ rfl _ _ 23 rfl w.heap.size 26 i0 _ 2 40 Try.underlying23 hi hz hsz hby rfl (by decide) _ _ _ rfl (HRW.out.alloc _) ⟨w1.heap.size, 0, none⟩ 1 1 [.string q.1, .slice A2 n' d2] rfl rfl (two_new _ _ _ _) (by simp [Value.oneCell']) (by unfold maxLen; omega) (by omega) (by simp; omega) ?_; intro v' w2 hown' hgrow' _; obtain ⟨g', cap', rfl⟩ := ownsRow_succ hown'; have hown := Lib.hid hown'; have hgrow := Lib.hid hgrow'; clear hown' hgrow')
      obtain ⟨rs', r1, r2, r3, r4, r5⟩ := copy_on HL.out HM.out HG.out HO.out hb HB1 d3 HT1.out HR1.out HRW.out hown.out hgrow.out
      go_roundw
      case rel => exact ⟨k + 1, _, _, rs', by omega, by go_num, rfl, r3, r1, r2, r4, r5⟩
      case measure => simp [intOf]; omega
    · have hkn : k = n := by omega
      subst hkn
      have hxs : xs.take k = xs := List.take_of_length_le (by have := HL0.out; omega)
      obtain ⟨A3, c3, e3, hO⟩ := OwnRefs.of_row HR.out HL.out.symm (Nat.le_refl _) HO.out (Nat.le_refl _)
      injection e3 with e3 _ e4
      subst e3; subst e4
      have HX := Lib.hid hxs; clear hxs
      go_wp2
      go_ret
      exact ⟨Av, cv, rs, by rw [HL0.out]; rfl, by rw [HL0.out]; exact hO, by rw [HM.out]; exact HX.out, hb⟩


end Go.Proofs.Ytladamhhgleojaa
