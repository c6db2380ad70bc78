/-
  Order: the comparison of atoms turns with its sides, and goes on from atom to atom; of atoms that are ok it is nothing just for the same.
-/
import Derived.Test.YtiekfjlhioekcaaDoorCmp2
namespace Go.Proofs.YtiekfjlhioekcaaDoor
open Go.RowKit

theorem bytes_anti : ∀ a b : List UInt8, Lib.compareBytes b a = -Lib.compareBytes a b
  | [], [] => rfl
  | [], _ :: _ => rfl
  | _ :: _, [] => rfl
  | a :: l, b :: m => by
    unfold Lib.compareBytes
    by_cases h : a < b
    · have h' : ¬ b < a := fun k => absurd (UInt8.lt_trans h k) (UInt8.lt_irrefl _)
      simp [h, h']
    · by_cases h' : b < a
      · simp [h, h']
      · simp only [h, h', if_false]; exact bytes_anti l m

theorem bytes_same {a b : List UInt8} (h : Lib.compareBytes a b = 0) : a = b := by
  have := (less_cmp a b).2
  rw [h] at this
  simpa using this

theorem bytes_self (a : List UInt8) : Lib.compareBytes a a = 0 := by
  have := (less_cmp a a).2
  simpa using this

theorem bytes_on : ∀ a b c : List UInt8, Lib.compareBytes a b ≤ 0 → Lib.compareBytes b c ≤ 0 → Lib.compareBytes a c ≤ 0
  | [], _, [], _, _ => Int.le_refl _
  | [], _, _ :: _, _, _ => by simp [Lib.compareBytes]
  | _ :: _, [], _, h, _ => by simp [Lib.compareBytes] at h
  | _ :: _, _ :: _, [], _, h => by simp [Lib.compareBytes] at h
  | a :: l, b :: m, c :: r, h, h' => by
    unfold Lib.compareBytes at h h' ⊢
    by_cases h1 : a < b
    · by_cases h2 : b < c
      · simp [UInt8.lt_trans h1 h2]
      · by_cases h3 : c < b
        · simp [h2, h3] at h'
        · have : b = c := UInt8.le_antisymm (UInt8.not_lt.1 h3) (UInt8.not_lt.1 h2)
          subst this
          simp [h1]
    · by_cases h3 : b < a
      · simp [h1, h3] at h
      · have : a = b := UInt8.le_antisymm (UInt8.not_lt.1 h3) (UInt8.not_lt.1 h1)
        subst this
        by_cases h2 : a < c
        · simp [h2]
        · by_cases h4 : c < a
          · simp [h2, h4] at h'
          · simp only [h1, h2, h4, if_false] at h h' ⊢
            exact bytes_on l m r h h'

theorem bytesEq {a b : ByteArray} (h : a.data.toList = b.data.toList) : a = b := by
  cases a; cases b; simp only [ByteArray.mk.injEq]; exact Array.toList_inj.1 h

theorem text_anti (a b : ByteArray) : textCmp b a = -textCmp a b := bytes_anti _ _
theorem text_same {a b : ByteArray} (h : textCmp a b = 0) : a = b := bytesEq (bytes_same h)
theorem text_self (a : ByteArray) : textCmp a a = 0 := bytes_self _

theorem text_on {a b c : ByteArray} (h : textCmp a b ≤ 0) (h' : textCmp b c ≤ 0) : textCmp a c ≤ 0 := bytes_on _ _ _ h h'

/-- Strictly, where one step is strict. -/
theorem text_strict {a b c : ByteArray} (h : textCmp a b ≤ 0) (h' : textCmp b c ≤ 0) (hs : textCmp a b ≠ 0 ∨ textCmp b c ≠ 0) : textCmp a c ≠ 0 := by
  intro he
  have hac := text_same he
  subst hac
  have := text_anti a b
  omega

theorem args_anti : ∀ a b : List Tm, argsCmp b a = -argsCmp a b
  | [], [] => rfl
  | [], _ :: _ => rfl
  | _ :: _, [] => rfl
  | x :: l, y :: m => by
    have := text_anti x.2 y.2
    show (if textCmp y.2 x.2 = 0 then argsCmp m l else textCmp y.2 x.2) = -(if textCmp x.2 y.2 = 0 then argsCmp l m else textCmp x.2 y.2)
    by_cases h : textCmp x.2 y.2 = 0
    · rw [if_pos h, if_pos (by omega)]; exact args_anti l m
    · rw [if_neg h, if_neg (by omega)]; exact this

theorem args_on : ∀ a b c : List Tm, argsCmp a b ≤ 0 → argsCmp b c ≤ 0 → argsCmp a c ≤ 0
  | [], _, [], _, _ => Int.le_refl _
  | [], _, _ :: _, _, _ => by simp [argsCmp]
  | _ :: _, [], _, h, _ => by simp [argsCmp] at h
  | _ :: _, _ :: _, [], _, h => by simp [argsCmp] at h
  | x :: l, y :: m, z :: r, h, h' => by
    have h0 : (if textCmp x.2 y.2 = 0 then argsCmp l m else textCmp x.2 y.2) ≤ 0 := h
    have h1 : (if textCmp y.2 z.2 = 0 then argsCmp m r else textCmp y.2 z.2) ≤ 0 := h'
    show (if textCmp x.2 z.2 = 0 then argsCmp l r else textCmp x.2 z.2) ≤ 0
    by_cases e : textCmp x.2 y.2 = 0
    · rw [if_pos e] at h0
      have exy := text_same e
      rw [exy]
      by_cases e' : textCmp y.2 z.2 = 0
      · rw [if_pos e'] at h1 ⊢
        exact args_on l m r h0 h1
      · rw [if_neg e'] at h1 ⊢
        exact h1
    · rw [if_neg e] at h0
      have h2 : textCmp y.2 z.2 ≤ 0 := by
        by_cases e' : textCmp y.2 z.2 = 0
        · omega
        · rw [if_neg e'] at h1; exact h1
      rw [if_neg (text_strict h0 h2 (.inl e))]
      exact text_on h0 h2

theorem atom_args (a b : At) : atomCmp a b = argsCmp ((false, a.1) :: a.2) ((false, b.1) :: b.2) := rfl

theorem atomCmp_anti (a b : At) : atomCmp b a = -atomCmp a b := by rw [atom_args, atom_args]; exact args_anti _ _

theorem cmpB_anti (a b : At) : cmpB b a = -cmpB a b := by
  unfold cmpB
  cases atomB a <;> cases atomB b <;> simp [atomCmp_anti a b]

theorem atomCmp_on {a b c : At} (h : atomCmp a b ≤ 0) (h' : atomCmp b c ≤ 0) : atomCmp a c ≤ 0 := by
  rw [atom_args] at *
  exact args_on _ _ _ h h'

/-- A text that is a word is no variable. -/
theorem var_word {s : ByteArray} (h : termB (true, s) = true) (h' : termB (false, s) = true) : False := by
  have hv : varB s.data.toList = true := h
  have hn : nameB s.data.toList = true := h'
  have hs : small s.data.toList = true := by
    unfold nameB letters at hn
    simp only [Bool.and_eq_true] at hn
    exact hn.1.1
  generalize s.data.toList = l at *
  cases l with
  | nil => simp [varB] at hv
  | cons c r =>
    have hc : capital c = true := by
      unfold varB at hv
      simp only [Bool.and_eq_true] at hv
      exact hv.1.1
    have ho : okByte c = true := by
      unfold small at hs
      rw [List.all_cons, Bool.and_eq_true] at hs
      exact hs.1
    unfold capital at hc
    simp only [Bool.and_eq_true, decide_eq_true_eq] at hc
    rw [okByte_false (c := c) (by omega)] at ho
    cases ho

theorem args_same : ∀ {a b : List Tm}, argsB a = true → argsB b = true → (decide (argsCmp a b = 0) = termsEq a b)
  | [], [], _, _ => rfl
  | [], _ :: _, _, _ => rfl
  | _ :: _, [], _, _ => rfl
  | x :: l, y :: m, h, h' => by
    have hx : termB x = true ∧ argsB l = true := by unfold argsB at *; simpa using h
    have hy : termB y = true ∧ argsB m = true := by unfold argsB at *; simpa using h'
    have ih := args_same hx.2 hy.2
    show decide ((if textCmp x.2 y.2 = 0 then argsCmp l m else textCmp x.2 y.2) = 0) = (termEq x y && termsEq l m)
    obtain ⟨xv, xs⟩ := x
    obtain ⟨yv, ys⟩ := y
    by_cases e : textCmp xs ys = 0
    · have := text_same e
      subst this
      rw [if_pos e, ih]
      have hv : xv = yv := by
        cases xv <;> cases yv
        · rfl
        · exact (var_word hy.1 hx.1).elim
        · exact (var_word hx.1 hy.1).elim
        · rfl
      subst hv
      rw [termEq_refl]; rfl
    · rw [if_neg e, decide_eq_false e]
      have : termEq (xv, xs) (yv, ys) = false := by
        unfold termEq
        have hne : (xs.toList == ys.toList) = false := by
          rw [beq_eq_false_iff_ne]
          intro hh
          refine e ?_
          have : xs = ys := by
            rw [ByteArray.toList_eq, ByteArray.toList_eq] at hh
            exact bytesEq hh
          rw [this]; exact text_self _
        simp [hne]
      rw [this]; rfl

theorem atom_same {a b : At} (h : atomB a = true) (h' : atomB b = true) : decide (cmpB a b = 0) = atomEq a b := by
  rw [cmpB_yes h h']
  have ha : argsB a.2 = true := by
    unfold atomB at h
    rw [Bool.and_eq_true] at h
    exact h.1
  have hb : argsB b.2 = true := by
    unfold atomB at h'
    rw [Bool.and_eq_true] at h'
    exact h'.1
  unfold atomCmp atomEq
  by_cases e : textCmp a.1 b.1 = 0
  · rw [if_pos e, args_same ha hb, text_same e]
    simp
  · rw [if_neg e, decide_eq_false e]
    have hne : (a.1.toList == b.1.toList) = false := by
      rw [beq_eq_false_iff_ne]
      intro hh
      rw [ByteArray.toList_eq, ByteArray.toList_eq] at hh
      rw [bytesEq hh] at e
      exact e (text_self _)
    rw [hne]; rfl

end Go.Proofs.YtiekfjlhioekcaaDoor
