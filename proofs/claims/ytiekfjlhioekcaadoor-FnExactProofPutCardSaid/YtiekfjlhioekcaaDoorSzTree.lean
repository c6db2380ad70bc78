/-
  Proofs: the law's own sizes of them.
-/
import Derived.Test.YtiekfjlhioekcaaDoorSzText
namespace Go.Proofs.YtiekfjlhioekcaaDoor
open Go.RowKit

/-- What szProofS tells, of lists of proofs so deep. -/
def SzAll (d : Nat) : Prop := ∀ (A : Option Addr) (n c : Nat) (ks : List Tr) (z : Int) (w : World), IsPfs d w 0 w.heap.size A n c ks → 0 ≤ z → z ≤ 1048576 →
  Calls Tryd.prog 10 #[.slice A n c, .int .i64 z] w (SzTPost z (fun y => FewL d ks ∧ (sizeL d ks : Int) ≤ z - y ∧ (lenL d ks : Int) ≤ z - y) w)

/-- .. and szProof, of one. -/
def SzOne (d : Nat) : Prop := ∀ (A : Option Addr) (n c : Nat) (B : Option Addr) (m e : Nat) (t : Tr) (z : Int) (w : World), t.a.1.size ≤ maxLen → IsPf d w 0 w.heap.size A n c B m e t → 0 ≤ z → z ≤ 1048576 →
  Calls Tryd.prog 4 #[.agg #[.string t.a.1, .slice A n c, .int .i64 t.r, .slice B m e], .int .i64 z] w (SzTPost z (fun y => FewT (d + 1) t ∧ (sizeT (d + 1) t : Int) ≤ 1 + (z - y) ∧ (lenT (d + 1) t : Int) ≤ z - y) w)

set_option maxHeartbeats 2000000 in
theorem szProof_of (d : Nat) (hQ : SzAll d) : SzOne d := by
  intro A n c B m e t z w hs h hz0 hz1
  have H := Lib.hid h; clear h
  have hb0 := below1 w (.cells #[.string t.a.1, .slice A n c, .int .i64 t.r, .slice B m e] 27)
  have X0 := Lib.hid (Blk.new w 27 #[.string t.a.1, .slice A n c, .int .i64 t.r, .slice B m e])
  go_enter Tryd.func4, Tryd.ntmps4
  go_wp2_with fail
  refine (szAtom_len _ _ _ _ t.a.2 _ _ hs (H.out.up hb0).1 hz0 hz1).mono ?_; rintro e1 w1 ⟨y1, ⟨rfl, hy2, hy3, hy4⟩, hb1⟩
  have X1 := X0.out.below hb1
  have x0 : w1.cell? ⟨w.heap.size, 0, none⟩ = some (.string t.a.1) := X1.cell 0
  have x1 : w1.cell? ⟨w.heap.size, 1, none⟩ = some (.slice A n c) := X1.cell 1
  have x2 : w1.cell? ⟨w.heap.size, 2, none⟩ = some (.int .i64 t.r) := X1.cell 2
  have x3 : w1.cell? ⟨w.heap.size, 3, none⟩ = some (.slice B m e) := X1.cell 3
  have HB1 := belowThen hb0 hb1
  have hn : t.a.2.length = n := H.out.1.1
  clear hb1 hb0 X1
  by_cases hy : y1 < 0
  · go_wp2
    go_ret; exact ⟨_, ⟨rfl, by omega, by omega, by omega⟩, HB1⟩
  · go_wp2_with fail
    refine (hQ _ _ _ t.ks _ _ (H.out.up HB1).2 (by omega) (by omega)).mono ?_; rintro e2 w2 ⟨y2, ⟨rfl, hz2, hz3, hz4⟩, hb2⟩
    have HB2 := belowThen HB1 hb2
    clear hb2
    by_cases hyy : y2 < 0
    · go_wp2
      go_ret; exact ⟨_, ⟨rfl, by omega, by omega, by omega⟩, HB2⟩
    · have hS := hz4 (by omega)
      obtain ⟨h4, h5⟩ := hy4 (by omega)
      have HS := Lib.hid hS; clear hS hz4
      go_wp2
      go_ret
      refine ⟨_, ⟨rfl, by omega, by omega, fun _ => ⟨⟨by omega, HS.out.1⟩, ?_, ?_⟩⟩, HB2⟩
      · rw [sizeT_succ]
        have := HS.out.2.1
        omega
      · rw [lenT_succ]
        have := HS.out.2.2
        omega

set_option maxHeartbeats 2000000 in
theorem szProofS_of (d : Nat) (hP : ∀ d', d = d' + 1 → SzOne d') : SzAll d := by
  intro A n c ks z w h hz0 hz1
  have hn := h.len
  unfold maxLen at hn
  have H := Lib.hid h; clear h
  go_enter Tryd.func10, Tryd.ntmps10
  go_wp2
  · go_ret; exact ⟨_, ⟨rfl, by omega, by omega, by omega⟩, Below.refl _ _⟩
  · have hzn : 0 ≤ z - (n : Int) := by assumption
    go_loopw [1, 5] (fun x i wr => ∃ (k : Nat) (y : Int), k ≤ n ∧ i = .int .i64 k ∧ x = .int .i64 y ∧ 0 ≤ y ∧ y ≤ z - n ∧ (∀ q ∈ ks.take k, FewT d q) ∧ (sizeL d (ks.take k) : Int) ≤ z - n + k - y ∧ (lenL d (ks.take k) : Int) ≤ z - n - y ∧ Below w.heap.size w wr) (fun _ i _ => n - (intOf i).toNat)
    case atStart => exact ⟨0, _, Nat.zero_le _, rfl, rfl, by omega, by omega, fun q hq => by simp at hq, by simp [sizeL], by simp [lenL], Below.refl _ _⟩
    case round =>
      obtain ⟨k, y, hk, rfl, rfl, hy0, hy1, hq, hsz, hln, hb⟩ := hrel
      have HQ := Lib.hid hq; have HSZ := Lib.hid hsz; have HLN := Lib.hid hln; clear hq hsz hln
      by_cases hlt : k < n
      · obtain ⟨p, q, hA, hlo, hhi, hg, hE⟩ := (H.out.below (PfE.stays d) hb (Nat.le_refl _)).at_ hlt
        cases d with
        | zero => exact hE.elim
        | succ d' =>
          obtain ⟨A', n', c', B', m', e', d1, d2, d3, d4, d5, d6⟩ := hE.val
          clear hE
          subst hA
          have HG := Lib.hid hg; clear hg
          have HT := Lib.hid (d6.keep (w' := wr) (lo' := 0) (hi' := wr.heap.size) (fun _ _ _ => rfl) (Nat.le_refl _) hb.size); clear d6
          go_wp2_with fail
          refine (hP d' rfl _ _ _ _ _ _ q _ _ d2 HT.out hy0 (by omega)).mono ?_; rintro e1 w1 ⟨y1, ⟨rfl, hy2, hy3, hy4⟩, hb1⟩
          have HB1 := belowThen hb hb1
          clear hb1 d1 d3 d4 d5
          by_cases hyy : y1 < 0
          · go_wp2
            go_ret; exact ⟨_, ⟨rfl, by omega, by omega, by omega⟩, HB1⟩
          · have hS := hy4 (by omega)
            have HS := Lib.hid hS; clear hS hy4
            go_wp2
            go_roundw
            case rel => exact ⟨k + 1, y1, by omega, by go_num, rfl, by omega, by omega, few_snoc HG.out HQ.out HS.out.1, by rw [sizeL_snoc _ HG.out]; have := HS.out.2.1; have := HSZ.out; omega, by rw [lenL_snoc _ HG.out]; have := HS.out.2.2; have := HLN.out; omega, HB1⟩
            case measure => simp [intOf]; omega
      · have hl := H.out.1
        have hsm : FewL d ks := ⟨by omega, by have := HQ.out; rwa [List.take_of_length_le (by omega)] at this⟩
        have hs2 : (sizeL d ks : Int) ≤ z - y := by
          have := HSZ.out
          rw [sizeL_all d (by omega)] at this
          omega
        have hs3 : (lenL d ks : Int) ≤ z - y := by
          have := HLN.out
          rw [List.take_of_length_le (by omega)] at this
          omega
        have HSM := Lib.hid hsm; have HS2 := Lib.hid hs2; have HS3 := Lib.hid hs3
        clear hl hsm hs2 hs3
        go_wp2
        go_ret; exact ⟨_, ⟨rfl, by omega, by omega, fun _ => ⟨HSM.out, HS2.out, HS3.out⟩⟩, hb⟩

theorem szProofS_any : ∀ d : Nat, SzAll d
  | 0 => szProofS_of 0 (fun _ e => by omega)
  | d + 1 => szProofS_of (d + 1) (fun d' e => by
    have e2 : d = d' := by omega
    subst e2
    exact szProof_of d (szProofS_any d))

theorem szProof_any (d : Nat) : SzOne d := szProof_of d (szProofS_any d)

end Go.Proofs.YtiekfjlhioekcaaDoor
