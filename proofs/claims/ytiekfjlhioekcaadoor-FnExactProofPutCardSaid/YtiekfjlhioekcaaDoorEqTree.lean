/-
  Proofs: the law's own comparison of them; how many facts one has, in the model.
-/
import Derived.Test.YtiekfjlhioekcaaDoorTree
namespace Go.Proofs.YtiekfjlhioekcaaDoor
open Go.RowKit

/-- What eqProofS tells, of lists of proofs so deep. -/
def EqAll (d : Nat) : Prop := ∀ (A B : Option Addr) (n c n' c' : Nat) (ks us : List Tr) (w : World), IsPfs d w 0 w.heap.size A n c ks → IsPfs d w 0 w.heap.size B n' c' us →
  Calls Tryd.prog 23 #[.slice A n c, .slice B n' c'] w (BoolPost (listEq (trEq d) ks us) w)

/-- .. and eqProof, of two. -/
def EqOne (d : Nat) : Prop := ∀ (A : Option Addr) (n c : Nat) (B : Option Addr) (m e : Nat) (A' : Option Addr) (n' c' : Nat) (B' : Option Addr) (m' e' : Nat) (t u : Tr) (w : World), IsPf d w 0 w.heap.size A n c B m e t → IsPf d w 0 w.heap.size A' n' c' B' m' e' u →
  Calls Tryd.prog 8 #[.agg #[.string t.a.1, .slice A n c, .int .i64 t.r, .slice B m e], .agg #[.string u.a.1, .slice A' n' c', .int .i64 u.r, .slice B' m' e']] w (BoolPost (trEq (d + 1) t u) w)

theorem trEq_no1 {d : Nat} {t u : Tr} (h : atomEq t.a u.a = false) : trEq (d + 1) t u = false := by
  show (atomEq t.a u.a && _) = false
  rw [h]; rfl
theorem trEq_no2 {d : Nat} {t u : Tr} (h : ¬ t.r = u.r) : trEq (d + 1) t u = false := by
  show (atomEq t.a u.a && (decide (t.r = u.r) && _)) = false
  simp [h]
theorem trEq_on {d : Nat} {t u : Tr} (h : atomEq t.a u.a = true) (h2 : t.r = u.r) : trEq (d + 1) t u = listEq (trEq d) t.ks u.ks := by
  show (atomEq t.a u.a && (decide (t.r = u.r) && _)) = _
  simp [h, h2]

set_option maxHeartbeats 2000000 in
theorem eqProof_of (d : Nat) (hQ : EqAll d) : EqOne d := by
  intro A n c B m e A' n' c' B' m' e' t u w h h'
  have H := Lib.hid h; have H' := Lib.hid h'; clear h h'
  have hb0 := below2 w (.cells #[.string t.a.1, .slice A n c, .int .i64 t.r, .slice B m e] 35) (.cells #[.string u.a.1, .slice A' n' c', .int .i64 u.r, .slice B' m' e'] 35)
  have X0 := Lib.hid ((Blk.new w 35 #[.string t.a.1, .slice A n c, .int .i64 t.r, .slice B m e]).alloc (.cells #[.string u.a.1, .slice A' n' c', .int .i64 u.r, .slice B' m' e'] 35))
  have Y0 := Lib.hid (Blk.made (w.alloc (.cells #[.string t.a.1, .slice A n c, .int .i64 t.r, .slice B m e] 35)) (b := w.heap.size + 1) 35 #[.string u.a.1, .slice A' n' c', .int .i64 u.r, .slice B' m' e'] (by simp))
  go_enter Tryd.func8, Tryd.ntmps8
  go_wp2_with fail
  refine (eqAtom_any _ _ _ _ _ _ _ _ t.a.2 u.a.2 _ (H.out.up hb0).1 (H'.out.up hb0).1).mono ?_; rintro e1 w1 ⟨rfl, hb1⟩
  have X1 := X0.out.below hb1
  have Y1 := Y0.out.below hb1
  have x2 : w1.cell? ⟨w.heap.size, 2, none⟩ = some (.int .i64 t.r) := X1.cell 2
  have x3 : w1.cell? ⟨w.heap.size, 3, none⟩ = some (.slice B m e) := X1.cell 3
  have y2 : w1.cell? ⟨w.heap.size + 1, 2, none⟩ = some (.int .i64 u.r) := Y1.cell 2
  have y3 : w1.cell? ⟨w.heap.size + 1, 3, none⟩ = some (.slice B' m' e') := Y1.cell 3
  have HB1 := belowThen hb0 hb1
  clear hb1 hb0 X1 Y1
  cases hA : atomEq (t.a.1, t.a.2) (u.a.1, u.a.2)
  · have HE := Lib.hid (trEq_no1 (d := d) (t := t) (u := u) hA); clear hA
    go_wp2
    go_ret; exact ⟨retB HE.out.symm, HB1⟩
  · by_cases hr : t.r = u.r
    · have HE := Lib.hid (trEq_on (d := d) (t := t) (u := u) hA hr); clear hA
      go_wp2_with fail
      refine (hQ _ _ _ _ _ _ t.ks u.ks _ (H.out.up HB1).2 (H'.out.up HB1).2).mono ?_; rintro e2 w2 ⟨rfl, hb2⟩
      rw [← HE.out]
      have HB2 := belowThen HB1 hb2
      clear hb2
      go_wp2
      all_goals (go_ret; exact ⟨retB (by simp_all), HB2⟩)
    · have HE := Lib.hid (trEq_no2 (d := d) (t := t) (u := u) hr); clear hA
      go_wp2
      go_ret; exact ⟨retB HE.out.symm, HB1⟩

set_option maxHeartbeats 2000000 in
theorem eqProofS_of (d : Nat) (hP : ∀ d', d = d' + 1 → EqOne d') : EqAll d := by
  intro A B n c n' c' ks us w h h'
  have hm := h.len
  unfold maxLen at hm
  have H := Lib.hid h; have H' := Lib.hid h'; clear h h'
  by_cases hne : n = n'
  · subst hne
    go_enter Tryd.func23, Tryd.ntmps23
    go_wp2
    go_loopw [5] (fun i wr => ∃ k : Nat, k ≤ n ∧ i = .int .i64 k ∧ listEq (trEq d) (ks.drop k) (us.drop k) = listEq (trEq d) ks us ∧ Below w.heap.size w wr) (fun i _ => n - (intOf i).toNat)
    case atStart => exact ⟨0, Nat.zero_le _, rfl, rfl, Below.refl _ _⟩
    case round =>
      obtain ⟨k, hk, rfl, hd, hb⟩ := hrel
      have HD := Lib.hid hd; clear hd
      by_cases hlt : k < n
      · obtain ⟨p, q, hA, hlo, hhi, hg, hE⟩ := (H.out.below (PfE.stays d) hb (Nat.le_refl _)).at_ hlt
        obtain ⟨p', q', hA', hlo', hhi', hg', hE'⟩ := (H'.out.below (PfE.stays d) hb (Nat.le_refl _)).at_ hlt
        cases d with
        | zero => exact hE.elim
        | succ d' =>
          obtain ⟨A1, n1, c1, B1, m1, e1, d1, d2, d3, d4, d5, d6⟩ := hE.val
          obtain ⟨A2, n2, c2, B2, m2, e2, f1, f2, f3, f4, f5, f6⟩ := hE'.val
          clear hE hE'
          subst hA; subst hA'
          have HG := Lib.hid hg; have HG' := Lib.hid hg'; clear hg hg'
          have HR := Lib.hid (d6.keep (w' := wr.drew) (lo' := 0) (hi' := wr.drew.heap.size) (fun _ _ _ => rfl) (Nat.le_refl _) hb.size)
          have HR' := Lib.hid (f6.keep (w' := wr.drew) (lo' := 0) (hi' := wr.drew.heap.size) (fun _ _ _ => rfl) (Nat.le_refl _) hb.size)
          clear d6 f6 d2 f2
          have hbd := hb.drew
          go_wp2_with fail
          go_region_with (go_at_call 8; refine (hP d' rfl _ _ _ _ _ _ _ _ _ _ _ _ q q' _ HR.out HR'.out).mono ?_; rintro e1 w1 ⟨rfl, hb1⟩)
          all_goals go_wp2
          all_goals first
            | (go_ret; exact ⟨retB (listEq_no HG.out HG'.out HD.out (by assumption)), belowThen hbd hb1⟩)
            | (go_roundw
               case rel => exact ⟨k + 1, by omega, by go_num, listEq_on HG.out HG'.out HD.out (by assumption), belowThen hbd hb1⟩
               case measure => simp [intOf]; omega)
      · have hl := Lib.hid H.out.1
        have hl' := Lib.hid H'.out.1
        go_wp2
        go_ret
        exact ⟨retB (listEq_end hl.out hl'.out HD.out hlt), hb⟩
  · have hlen : ks.length ≠ us.length := by rw [H.out.1, H'.out.1]; exact hne
    go_enter Tryd.func23, Tryd.ntmps23
    go_wp2
    go_ret
    exact ⟨retB (listEq_len hlen).symm, Below.refl _ _⟩

theorem eqProofS_any : ∀ d : Nat, EqAll d
  | 0 => eqProofS_of 0 (fun _ e => by omega)
  | d + 1 => eqProofS_of (d + 1) (fun d' e => by
    have e2 : d = d' := by omega
    subst e2
    exact eqProof_of d (eqProofS_any d))

theorem eqProof_any (d : Nat) : EqOne d := eqProof_of d (eqProofS_any d)

/-- What the model's ProofSize tells. -/
def SsOne (d : Nat) : Prop := ∀ (A : Option Addr) (n c : Nat) (B : Option Addr) (m e : Nat) (t : Tr) (w : World), IsPf d w 0 w.heap.size A n c B m e t → sizeT (d + 1) t ≤ 2097152 →
  Calls Tryd.prog 11 #[.agg #[.string t.a.1, .slice A n c, .int .i64 t.r, .slice B m e]] w fun e w' => e = .returned (.int .i64 ((sizeT (d + 1) t : Nat) : Int)) ∧ Below w.heap.size w w'

theorem sizeL_le (d : Nat) (ks : List Tr) (k : Nat) : sizeL d (ks.take k) ≤ sizeL d ks := by
  have h : sizeL d ks = sizeL d (ks.take k) + sizeL d (ks.drop k) := by
    unfold sizeL
    rw [← List.sum_append, ← List.map_append, List.take_append_drop]
  omega

set_option maxHeartbeats 2000000 in
theorem specSize_of (d : Nat) (hP : ∀ d', d = d' + 1 → SsOne d') : SsOne d := by
  intro A n c B m e t w h hz
  have hm := h.2.len
  unfold maxLen at hm
  have H := Lib.hid h; clear h
  have hb0 := below1 w (.cells #[.string t.a.1, .slice A n c, .int .i64 t.r, .slice B m e] 35)
  have X0 := Lib.hid (Blk.new w 35 #[.string t.a.1, .slice A n c, .int .i64 t.r, .slice B m e])
  have HZ := Lib.hid (sizeT_succ d t)
  rw [sizeT_succ] at hz
  obtain ⟨w1, hw1⟩ : ∃ w1, w.alloc (.cells #[.string t.a.1, .slice A n c, .int .i64 t.r, .slice B m e] 35) = w1 := ⟨_, rfl⟩
  rw [hw1] at hb0 X0
  have HW1 := Lib.hid hw1; clear hw1
  go_enter Tryd.func11, Tryd.ntmps11
  go_wp2_with (rw [HW1.out])
  go_loopw [3, 4] (fun x i wr => ∃ k : Nat, k ≤ m ∧ i = .int .i64 k ∧ x = .int .i64 ((1 + sizeL d (t.ks.take k) : Nat) : Int) ∧ Below w1.heap.size w1 wr) (fun _ i _ => m - (intOf i).toNat)
  case atStart => exact ⟨0, Nat.zero_le _, rfl, by simp [sizeL], Below.refl _ _⟩
  case round =>
    obtain ⟨k, hk, rfl, rfl, hb⟩ := hrel
    have X2 := X0.out.below hb
    have x3 : wr.cell? ⟨w.heap.size, 3, none⟩ = some (.slice B m e) := X2.cell 3
    have HB := belowThen hb0 hb
    have hle := sizeL_le d t.ks k
    by_cases hlt : k < m
    · obtain ⟨p, q, hA, hlo, hhi, hg, hE⟩ := (H.out.2.below (PfE.stays d) HB (Nat.le_refl _)).at_ hlt
      cases d with
      | zero => exact hE.elim
      | succ d' =>
        obtain ⟨A', n', c', B', m', e', d1, d2, d3, d4, d5, d6⟩ := hE.val
        clear hE
        subst hA
        have hsn := sizeL_snoc (d' + 1) hg
        have hl2 := sizeL_le (d' + 1) t.ks (k + 1)
        clear hg
        have HT := Lib.hid (d6.keep (w' := wr) (lo' := 0) (hi' := wr.heap.size) (fun _ _ _ => rfl) (Nat.le_refl _) HB.size); clear d6
        have hadd : IntKind.i64.wrap (((1 + sizeL (d' + 1) (t.ks.take k) : Nat) : Int) + ((sizeT (d' + 1) q : Nat) : Int)) = ((1 + sizeL (d' + 1) (t.ks.take (k + 1)) : Nat) : Int) := by rw [IntKind.wrap_i64]; omega
        obtain ⟨s1, hs1⟩ : ∃ s1, 1 + sizeL (d' + 1) (t.ks.take k) = s1 := ⟨_, rfl⟩
        obtain ⟨s2, hs2⟩ : ∃ s2, sizeT (d' + 1) q = s2 := ⟨_, rfl⟩
        obtain ⟨s3, hs3⟩ : ∃ s3, 1 + sizeL (d' + 1) (t.ks.take (k + 1)) = s3 := ⟨_, rfl⟩
        have hq2 : sizeT (d' + 1) q ≤ 2097152 := by omega
        rw [hs1, hs2, hs3] at hadd
        rw [hs1]
        have HS2 := Lib.hid hs2; have HS3 := Lib.hid hs3
        clear hs1 hs2 hs3 hsn hl2 hle
        go_wp2_with fail
        refine (hP d' rfl _ _ _ _ _ _ q _ HT.out hq2).mono ?_; rintro e1 w1 ⟨rfl, hb1⟩
        rw [HS2.out]
        go_wp2
        go_roundw
        case rel => exact ⟨k + 1, by omega, by go_num, by rw [HS3.out], belowThen hb hb1⟩
        case measure => simp [intOf]; omega
    · have hall := sizeL_all d (ks := t.ks) (k := k) (by rw [H.out.2.1]; omega)
      rw [show 1 + sizeL d (t.ks.take k) = sizeT (d + 1) t by rw [hall, HZ.out]]
      clear hall hle
      obtain ⟨s1, hs1⟩ : ∃ s1, sizeT (d + 1) t = s1 := ⟨_, rfl⟩
      rw [hs1]
      go_wp2
      go_ret
      exact ⟨by rw [hs1]; rfl, HB⟩

theorem specSize_any : ∀ d : Nat, SsOne d
  | 0 => specSize_of 0 (fun _ e => by omega)
  | d + 1 => specSize_of (d + 1) (fun d' e => by
    have e2 : d = d' := by omega
    subst e2
    exact specSize_any d)

end Go.Proofs.YtiekfjlhioekcaaDoor
