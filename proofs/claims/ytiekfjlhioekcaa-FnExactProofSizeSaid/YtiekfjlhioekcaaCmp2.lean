/-
  Order: the model's comparison of atoms, and AtomCmp in the program and in its model.
-/
import Derived.Test.YtiekfjlhioekcaaCmp
import Derived.Deep.QuietTactic
import Derived.BigQuiet
namespace Go.Proofs.Ytiekfjlhioekcaa
open Go.RowKit

theorem l1Texts_same (a b : ByteArray) (w : World) : Calls Try.prog 56 #[.string a, .string b] w fun e w' => e = .returned (.int .i64 (textCmp a b)) ∧ w' = w :=
  (l1Texts_any a b w).mono fun _ _ ⟨he, hw⟩ => ⟨he, hw.symm⟩

/-- Where the model's loop stands: q is what it knows, k the place. -/
def Known (a b : At) (k : Nat) (q : Int) : Prop := atomCmp a b = if q = 0 then argsCmp (a.2.drop k) (b.2.drop k) else q

theorem Known.start (a b : At) : Known a b 0 (textCmp a.1 b.1) := rfl

theorem Known.step {a b : At} {k : Nat} {q : Int} {t u : Tm} (h : Known a b k q) (hq : q = 0) (ht : a.2[k]? = some t) (hu : b.2[k]? = some u) : Known a b (k + 1) (textCmp t.2 u.2) := by
  unfold Known at *
  rw [h, if_pos hq, argsCmp_step ht hu]

theorem Known.found {a b : At} {k : Nat} {q : Int} (h : Known a b k q) (hq : q ≠ 0) : q = atomCmp a b := by
  unfold Known at h
  rw [h, if_neg hq]

theorem Known.left {a b : At} {k : Nat} {q : Int} (h : Known a b k q) (hq : q = 0) (h1 : b.2.length ≤ k) (h2 : k < a.2.length) : 1 = atomCmp a b := by
  unfold Known at h
  rw [h, if_pos hq, argsCmp_left h1 h2]

theorem Known.right {a b : At} {k : Nat} {q : Int} (h : Known a b k q) (hq : q = 0) (h1 : a.2.length ≤ k) (h2 : k < b.2.length) : -1 = atomCmp a b := by
  unfold Known at h
  rw [h, if_pos hq, argsCmp_right h1 h2]

theorem Known.same {a b : At} {k : Nat} {q : Int} (h : Known a b k q) (hq : q = 0) (h1 : a.2.length ≤ k) (h2 : b.2.length ≤ k) : 0 = atomCmp a b := by
  unfold Known at h
  rw [h, if_pos hq, argsCmp_none h1 h2]

theorem belowDrewN {B : Nat} {a w : World} (h : Below B a w) (n : Nat) : Below B a (w.drewN n) := ⟨h.os, h.tape, h.output, h.size, h.block⟩

set_option maxHeartbeats 2000000 in
theorem l1Cmp_any (nm nm' : ByteArray) (A B : Option Addr) (n c n' c' : Nat) (ts us : List Tm) (w : World) (h : IsTerms w 0 w.heap.size A n c ts) (h' : IsTerms w 0 w.heap.size B n' c' us) :
    Calls Try.prog 53 #[.agg #[.string nm, .slice A n c], .agg #[.string nm', .slice B n' c']] w (IntPost (atomCmp (nm, ts) (nm', us)) w) := by
  have hm : n ≤ maxLen := by have := h.2.1; have := h.2.2.1; omega
  have hm' : n' ≤ maxLen := by have := h'.2.1; have := h'.2.2.1; omega
  unfold maxLen at hm hm'
  have hl1 := h.1
  have hl2 := h'.1
  have L1 := Lib.hid hl1; clear hl1
  have L2 := Lib.hid hl2; clear hl2
  have H := Lib.hid h; clear h
  have H' := Lib.hid h'; clear h'
  have K0 := Lib.hid (Known.start (nm, ts) (nm', us))
  have hw0 := below2 w (.cells #[.string nm, .slice A n c] 32) (.cells #[.string nm', .slice B n' c'] 32)
  go_enter Try.func53, Try.ntmps53
  go_wp2_with (go_at_call 56; refine (l1Texts_any _ _ _).mono ?_; rintro e w' ⟨rfl, rfl⟩)
  go_loopw [5, 6] (fun x i wr => ∃ (k : Nat) (q : Int), k ≤ n ∧ k ≤ n' ∧ i = .int .i64 k ∧ x = .int .i64 q ∧ Known (nm, ts) (nm', us) k q ∧ Below ((w.alloc (.cells #[.string nm, .slice A n c] 32)).alloc (.cells #[.string nm', .slice B n' c'] 32)).heap.size ((w.alloc (.cells #[.string nm, .slice A n c] 32)).alloc (.cells #[.string nm', .slice B n' c'] 32)) wr) (fun _ i _ => n - (intOf i).toNat)
  case atStart => exact ⟨0, _, Nat.zero_le _, Nat.zero_le _, rfl, rfl, K0.out, Below.refl _ _⟩
  case round =>
    obtain ⟨k, q, hk, hk', rfl, rfl, hd, hb⟩ := hrel
    have HD := Lib.hid hd; clear hd
    obtain ⟨hc, hf⟩ := oldCells hb
    by_cases hq : q = 0
    · have hq1 : (q == 0) = true := by rw [beq_iff_eq]; exact hq
      have hq2 : (q != 0) = false := by rw [hq]; rfl
      have HQ := Lib.hid hq; clear hq
      by_cases hlt : k < n
      · obtain ⟨p, t, hA, hlo, hhi, hg, c1, c2, c3⟩ := ((H.out.up hw0).below hb (Nat.le_refl _)).at_ hlt
        subst hA
        have HG := Lib.hid hg; clear hg
        by_cases hlt' : k < n'
        · obtain ⟨p', t', hA', hlo', hhi', hg', c1', c2', c3'⟩ := ((H'.out.up hw0).below hb (Nat.le_refl _)).at_ hlt'
          subst hA'
          have HG' := Lib.hid hg'; clear hg'
          go_wp2_with fail
          go_quiet ((go_at_call 56; exact Calls.quiet_of_same (l1Texts_same _ _ _)))
          go_wp2
          go_roundw
          case rel => exact ⟨k + 1, _, by omega, by omega, by go_num, rfl, HD.out.step HQ.out HG.out HG'.out, belowDrewN hb _⟩
          case measure => simp [intOf]; omega
        · have hl' : us.length ≤ k := by have := L2.out; omega
          have hl : k < ts.length := by have := L1.out; omega
          go_wp2
          go_ret; exact ⟨retI (HD.out.left HQ.out hl' hl), belowThen hw0 hb⟩
      · have hl : ts.length ≤ k := by have := L1.out; omega
        by_cases hnn : n < n'
        · have hl' : k < us.length := by have := L2.out; omega
          go_wp2
          go_ret; exact ⟨retI (HD.out.right HQ.out hl hl'), belowThen hw0 hb⟩
        · have hl' : us.length ≤ k := by have := L2.out; omega
          go_wp2
          go_ret; exact ⟨retI (HD.out.same HQ.out hl hl'), belowThen hw0 hb⟩
    · have hq1 : (q == 0) = false := by rw [beq_eq_false_iff_ne]; exact hq
      have hq2 : (q != 0) = true := by rw [bne_iff_ne]; exact hq
      have HQ := Lib.hid hq; clear hq
      go_wp2
      all_goals (go_ret; exact ⟨retI (HD.out.found HQ.out), belowThen hw0 hb⟩)

/-- What AtomCmp answers. -/
def cmpB (a b : At) : Int := if atomB a && atomB b then atomCmp a b else 0

theorem cmpB_no {a b : At} (h : atomB a = false ∨ atomB b = false) : cmpB a b = 0 := by
  unfold cmpB; rcases h with h | h <;> simp [h]

theorem cmpB_yes {a b : At} (h : atomB a = true) (h' : atomB b = true) : cmpB a b = atomCmp a b := by
  unfold cmpB; simp [h, h']

end Go.Proofs.Ytiekfjlhioekcaa
