/-
  Sameness: what the law's own comparison of terms and atoms answers.
-/
import Derived.Test.YtenklmednmhbkaaMem
import Derived.Outline
import Derived.Deep.LoopGhost
import Derived.StillTailTactics
import Derived.Deep.RegionWith
import Derived.Deep.RegionHeld3
namespace Go.Proofs.Ytenklmednmhbkaa
open Go.RowKit

def BoolPost (b : Bool) (w : World) (e : Ending) (w' : World) : Prop := e = .returned (.bool b) ∧ Below w.heap.size w w'

def termEq (a b : Tm) : Bool := (a.1 == b.1) && (a.2.toList == b.2.toList)

set_option maxHeartbeats 400000 in
theorem eqTerm_any (v v' : Bool) (s s' : ByteArray) (w : World) :
    Calls Try.prog 100 #[.agg #[.bool v, .string s], .agg #[.bool v', .string s']] w (BoolPost (termEq (v, s) (v', s')) w) := by
  go_enter Try.func100, Try.ntmps100
  go_wp2
  all_goals (go_ret; refine ⟨retB ?_, below2 _ _ _⟩; unfold termEq; simp_all)

def termsEq : List Tm → List Tm → Bool
  | [], [] => true
  | a :: l, b :: m => termEq a b && termsEq l m
  | _, _ => false

theorem termsEq_len : ∀ {ts us : List Tm}, ts.length ≠ us.length → termsEq ts us = false
  | [], [], h => absurd rfl h
  | [], _ :: _, _ => rfl
  | _ :: _, [], _ => rfl
  | _ :: l, _ :: m, h => by
    have := termsEq_len (ts := l) (us := m) (by simpa using h)
    simp [termsEq, this]

theorem termsEq_end {ts us : List Tm} {n k : Nat} (h : ts.length = n) (h' : us.length = n) (hd : termsEq (ts.drop k) (us.drop k) = termsEq ts us) (hk : ¬ k < n) : true = termsEq ts us := by
  rw [← hd, List.drop_eq_nil_of_le (by omega), List.drop_eq_nil_of_le (by omega)]; rfl

theorem termsEq_step {ts us : List Tm} {k : Nat} {t u : Tm} (h : ts[k]? = some t) (h' : us[k]? = some u) : termsEq (ts.drop k) (us.drop k) = (termEq t u && termsEq (ts.drop (k + 1)) (us.drop (k + 1))) := by
  obtain ⟨h1, h2⟩ := List.getElem?_eq_some_iff.1 h
  obtain ⟨h3, h4⟩ := List.getElem?_eq_some_iff.1 h'
  rw [List.drop_eq_getElem_cons h1, List.drop_eq_getElem_cons h3, h2, h4]; rfl

theorem termsEq_no {ts us : List Tm} {k : Nat} {t u : Tm} (h : ts[k]? = some t) (h' : us[k]? = some u) (hd : termsEq (ts.drop k) (us.drop k) = termsEq ts us) (he : (!termEq (t.1, t.2) (u.1, u.2)) = true) : false = termsEq ts us := by
  rw [← hd, termsEq_step h h']
  have : termEq t u = false := by simpa using he
  rw [this]; rfl

theorem termsEq_on {ts us : List Tm} {k : Nat} {t u : Tm} (h : ts[k]? = some t) (h' : us[k]? = some u) (hd : termsEq (ts.drop k) (us.drop k) = termsEq ts us) (he : (!termEq (t.1, t.2) (u.1, u.2)) = false) : termsEq (ts.drop (k + 1)) (us.drop (k + 1)) = termsEq ts us := by
  rw [← hd, termsEq_step h h']
  have : termEq t u = true := by simpa using he
  rw [this]; rfl

set_option maxHeartbeats 400000 in
theorem eqTermS_any (A B : Option Addr) (n c n' c' : Nat) (ts us : List Tm) (w : World) (h : IsTerms w 0 w.heap.size A n c ts) (h' : IsTerms w 0 w.heap.size B n' c' us) :
    Calls Try.prog 74 #[.slice A n c, .slice B n' c'] w (BoolPost (termsEq ts us) w) := by
  have hm : n ≤ maxLen := by have := h.2.1; have := h.2.2.1; omega
  unfold maxLen at hm
  have H := Lib.hid h; clear h
  have H' := Lib.hid h'; clear h'
  by_cases hne : n = n'
  · subst hne
    go_enter Try.func74, Try.ntmps74
    go_wp2
    go_loopw [5] (fun i wr => ∃ k : Nat, k ≤ n ∧ i = .int .i64 k ∧ termsEq (ts.drop k) (us.drop k) = termsEq ts us ∧ Below w.heap.size w wr) (fun i _ => n - (intOf i).toNat)
    case atStart => exact ⟨0, Nat.zero_le _, rfl, rfl, Below.refl _ _⟩
    case round =>
      obtain ⟨k, hk, rfl, hd, hb⟩ := hrel
      have HD := Lib.hid hd; clear hd
      by_cases hlt : k < n
      · obtain ⟨p, t, hA, hlo, hhi, hg, c1, c2, c3⟩ := (H.out.below hb (Nat.le_refl _)).at_ hlt
        obtain ⟨p', t', hA', hlo', hhi', hg', c1', c2', c3'⟩ := (H'.out.below hb (Nat.le_refl _)).at_ hlt
        subst hA; subst hA'
        have HG := Lib.hid hg; clear hg
        have HG' := Lib.hid hg'; clear hg'
        go_wp2_with fail
        go_region_with (go_at_call 100; refine (eqTerm_any _ _ _ _ _).mono ?_; rintro e w1 ⟨rfl, hb1⟩)
        all_goals go_wp2
        all_goals first
          | (go_ret; exact ⟨retB (termsEq_no HG.out HG'.out HD.out (by assumption)), belowThen hb.drew hb1⟩)
          | (go_roundw
             case rel => exact ⟨k + 1, by omega, by go_num, termsEq_on HG.out HG'.out HD.out (by assumption), belowThen hb.drew hb1⟩
             case measure => simp [intOf]; omega)
      · go_wp2
        go_ret
        exact ⟨retB (termsEq_end H.out.1 H'.out.1 HD.out hlt), hb⟩
  · go_enter Try.func74, Try.ntmps74
    go_wp2
    go_ret
    exact ⟨retB (termsEq_len (by rw [H.out.1, H'.out.1]; exact hne)).symm, Below.refl _ _⟩

def atomEq (a b : At) : Bool := (a.1.toList == b.1.toList) && termsEq a.2 b.2

set_option maxHeartbeats 400000 in
theorem eqAtom_any (nm nm' : ByteArray) (A B : Option Addr) (n c n' c' : Nat) (ts us : List Tm) (w : World) (h : IsTerms w 0 w.heap.size A n c ts) (h' : IsTerms w 0 w.heap.size B n' c' us) :
    Calls Try.prog 31 #[.agg #[.string nm, .slice A n c], .agg #[.string nm', .slice B n' c']] w (BoolPost (atomEq (nm, ts) (nm', us)) w) := by
  have H := Lib.hid h; clear h
  have H' := Lib.hid h'; clear h'
  go_enter Try.func31, Try.ntmps31
  go_wp2_with (go_at_call 74; refine (eqTermS_any _ _ _ _ _ _ ts us _ (H.out.up (below2 _ _ _)) (H'.out.up (below2 _ _ _))).mono ?_; rintro e w1 ⟨rfl, hb1⟩)
  all_goals first
    | (go_ret; refine ⟨retB ?_, belowThen (below2 _ _ _) hb1⟩; unfold atomEq; simp_all)
    | (go_ret; refine ⟨retB ?_, below2 _ _ _⟩; unfold atomEq; simp_all)

theorem termEq_refl (t : Tm) : termEq t t = true := by unfold termEq; simp
theorem termsEq_refl : ∀ ts : List Tm, termsEq ts ts = true
  | [] => rfl
  | t :: l => by simp [termsEq, termEq_refl t, termsEq_refl l]
theorem atomEq_refl (a : At) : atomEq a a = true := by unfold atomEq; simp [termsEq_refl]

end Go.Proofs.Ytenklmednmhbkaa
