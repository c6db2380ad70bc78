/-
  Facts without others, in the model: a row to which more may be appended.
-/
import Derived.Test.YtladamhhgleojaaLessL
import Derived.Test.YtladamhhgleojaaCopies
namespace Go.Proofs.Ytladamhhgleojaa
open Go.RowKit

/-- A row of atoms in memory of its own from B on, their terms in rows of their own. -/
def OwnRowT (V : World) (B : Nat) (xs : List At) (v : Value) : Prop := ∃ (n : Nat) (rs : List Rf), rs.length = n ∧ rs.map rAt = xs ∧ V.ownsRow B 26 2 v n (rcells rs) ∧ OwnIn V B V.heap.size rs

set_option maxRecDepth 100000 in
set_option maxHeartbeats 4000000 in
/-- Facts that are not among others, in memory of their own. -/
theorem l3Less_row (A : Option Addr) (n c : Nat) (xs : List At) (B : Option Addr) (n' c' : Nat) (ys : List At) (w : World) (h : IsAtoms w 0 w.heap.size A n c xs) (hn : SmallAtoms n xs) (h' : IsAtoms w 0 w.heap.size B n' c' ys) (hr : risesB ys = true) :
    Calls Try.prog 114 #[.slice A n c, .slice B n' c'] w (fun e w' => ∃ v, e = .returned v ∧ OwnRowT w' w.heap.size (lessL xs ys) v ∧ Below w.heap.size w w') := by
  obtain ⟨hn1, hn2⟩ := hn
  obtain ⟨i0, hi, hz, hsz, hby⟩ := info_parts Try.infoAt
  have HN := Lib.hid hn2; clear hn2
  have HL0 := Lib.hid h.1
  have H := Lib.hid h; have H' := Lib.hid h'; clear h h'
  have HRR := Lib.hid hr; clear hr
  go_enter Try.func114, Try.ntmps114
  go_wp2
  go_loopw [5, 6] (fun o i wr => ∃ (k j : Nat) (Av : Option Addr) (cv : Nat) (rs : List Rf), k ≤ n ∧ i = .int .i64 k ∧ o = .slice Av j cv ∧ j ≤ k ∧ wr.ownsRow w.heap.size 26 2 (.slice Av j cv) j (rcells rs) ∧ rs.length = j ∧ rs.map rAt = lessL (xs.take k) ys ∧ OwnIn wr w.heap.size wr.heap.size rs ∧ Below w.heap.size w wr) (fun _ i _ => n - (intOf i).toNat)
  case atStart => exact ⟨0, 0, some ⟨w.heap.size, 0, none⟩, 0, [], Nat.zero_le _, rfl, rfl, Nat.le_refl _, ⟨rfl, .inr ⟨w.heap.size, 0, #[], rfl, Nat.le_refl _, heap_alloc_new w _, Nat.le_refl _, by unfold maxLen; omega, rfl, rfl⟩⟩, rfl, rfl, OwnIn.nil, below1 _ _⟩
  case round =>
    obtain ⟨k, j, Av, cv, rs, hk, rfl, rfl, hjk, hrow, hl, hm, ho, hb⟩ := hrel
    have HR := Lib.hid hrow; have HL := Lib.hid hl; have HM := Lib.hid hm; have HO := Lib.hid ho
    clear hrow hl hm ho
    by_cases hlt : k < n
    · obtain ⟨p, q, hA, hlo, hhi, hg, hE⟩ := (H.out.below AtomE.stays hb (Nat.le_refl _)).at_ hlt
      obtain ⟨A', m', d', d1, d3, d4, d5⟩ := hE.out
      clear hE
      subst hA
      have hq : m' ≤ 1048576 := by rw [← d5.1]; exact HN.out q (List.mem_of_getElem? hg)
      have HG := Lib.hid hg; clear hg
      have hwr := hb.size
      have hpz : p.block < wr.heap.size := Nat.lt_of_lt_of_le hhi hwr
      have HT := Lib.hid (d5.keep (w' := wr) (lo' := 0) (hi' := wr.heap.size) (fun _ _ _ => rfl) (Nat.le_refl _) hb.size); clear d5
      go_wp2_with fail
      refine (l3Has_any B n' c' ys q.1 A' m' d' q.2 _ (H'.out.up AtomE.stays hb) HT.out HRR.out).mono ?_; rintro e w0 ⟨rfl, hb0⟩
      have y1 := (hb0.cell (p := p.add (k * 2)) (by rw [block_add]; exact hpz)).trans d1
      have y2 := (hb0.cell (p := ⟨(p.add (k * 2)).block, (p.add (k * 2)).off + 1, none⟩) (by rw [block_add]; exact hpz)).trans d4
      have HB0 := belowThen hb hb0
      have hw0s := hb0.size
      have HO0 := Lib.hid (HO.out.keep (w' := w0) (fun b _ h2 => hb0.block b h2) (Nat.le_refl _) hb0.size)
      have HR0 := Lib.hid (ownsRow_up HR.out hb0)
      clear d1 d4
      cases hh : hasB ys (q.1, q.2)
      · have HH := Lib.hid (show hasB ys q = false from hh); clear hh
        go_wp2_with fail
        refine (l3AtomCopy_any q.1 A' m' d' q.2 _ (HT.out.up hb0) hq).mono ?_; rintro e w1 ⟨A2, d2, rfl, hT, hR, hb1⟩
        have HT1 := Lib.hid hT
        have HR1 := Lib.hid hR
        have HRW := Lib.hid (ownsRow_up HR0.out hb1)
        have hw1s : w.heap.size ≤ w1.heap.size := Nat.le_trans HB0.size hb1.size
        clear hT hR y1 y2
        go_wp2_with (at_builtin; refine wpList_append_own _ rfl _ _ 23 rfl w.heap.size 26 i0 _ 2 40 Try.underlying23 hi hz hsz hby rfl (by decide) _ _ _ rfl (HRW.out.alloc _) ⟨w1.heap.size, 0, none⟩ 1 1 [.string q.1, .slice A2 m' d2] rfl rfl (two_new _ _ _ _) (by simp [Value.oneCell']) (by unfold maxLen; omega) (by omega) (by simp; omega) ?_; intro v' w2 hown' hgrow' _; obtain ⟨g', cap', rfl⟩ := ownsRow_succ hown'; have hown := Lib.hid hown'; have hgrow := Lib.hid hgrow'; clear hown' hgrow')
        obtain ⟨rs', r1, r2, r3, r4, r5⟩ := copy_more HL.out HM.out HO0.out HB0 hb1 d3 HT1.out HR1.out HRW.out hown.out hgrow.out
        go_roundw
        case rel => exact ⟨k + 1, j + 1, _, _, rs', by omega, by go_num, rfl, by omega, r3, r1, by rw [r2, less_yes HG.out HH.out], r4, r5⟩
        case measure => simp [intOf]; omega
      · have HH := Lib.hid (show hasB ys q = true from hh); clear hh
        go_wp2
        go_roundw
        case rel => exact ⟨k + 1, j, _, _, rs, by omega, by go_num, rfl, by omega, HR0.out, HL.out, by rw [less_no HG.out HH.out]; exact HM.out, HO0.out, HB0⟩
        case measure => simp [intOf]; omega
    · have hxs : lessL (xs.take k) ys = lessL xs ys := by rw [List.take_of_length_le (by have := HL0.out; omega)]
      have HX := Lib.hid hxs; clear hxs
      go_wp2
      go_ret
      exact ⟨_, rfl, ⟨j, rs, HL.out, by rw [HM.out]; exact HX.out, HR.out, HO.out⟩, hb⟩

end Go.Proofs.Ytladamhhgleojaa
