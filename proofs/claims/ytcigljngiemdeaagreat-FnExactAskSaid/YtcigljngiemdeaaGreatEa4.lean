/-
  Texts of one claim, put together.
-/
import Derived.Test.YtcigljngiemdeaaGreatEa2
import Derived.Test.YtcigljngiemdeaaGreatEa3
import Derived.Deep.Slices
import Derived.RangeFuncNested
import Derived.RangeFuncBox
namespace Go.Proofs.YtcigljngiemdeaaGreat
open Go.RowKit

theorem bytes_anti : ∀ a b : List UInt8, Lib.compareBytes b a = -Lib.compareBytes a b
  | [], [] => rfl
  | [], _ :: _ => rfl
  | _ :: _, [] => rfl
  | a :: l, b :: m => by
    unfold Lib.compareBytes
    by_cases h : a < b
    · have h' : ¬ b < a := fun k => absurd (UInt8.lt_trans h k) (UInt8.lt_irrefl _)
      simp [h, h']
    · by_cases h' : b < a
      · simp [h, h']
      · simp only [h, h', if_false]; exact bytes_anti l m

theorem bytes_same {a b : List UInt8} (h : Lib.compareBytes a b = 0) : a = b := by
  have := (less_cmp a b).2
  rw [h] at this
  simpa using this

theorem bytes_self (a : List UInt8) : Lib.compareBytes a a = 0 := by
  have := (less_cmp a a).2
  simpa using this

theorem bytes_on : ∀ a b c : List UInt8, Lib.compareBytes a b ≤ 0 → Lib.compareBytes b c ≤ 0 → Lib.compareBytes a c ≤ 0
  | [], _, [], _, _ => Int.le_refl _
  | [], _, _ :: _, _, _ => by simp [Lib.compareBytes]
  | _ :: _, [], _, h, _ => by simp [Lib.compareBytes] at h
  | _ :: _, _ :: _, [], _, h => by simp [Lib.compareBytes] at h
  | a :: l, b :: m, c :: r, h, h' => by
    unfold Lib.compareBytes at h h' ⊢
    by_cases h1 : a < b
    · by_cases h2 : b < c
      · simp [UInt8.lt_trans h1 h2]
      · by_cases h3 : c < b
        · simp [h2, h3] at h'
        · have : b = c := UInt8.le_antisymm (UInt8.not_lt.1 h3) (UInt8.not_lt.1 h2)
          subst this
          simp [h1]
    · by_cases h3 : b < a
      · simp [h1, h3] at h
      · have : a = b := UInt8.le_antisymm (UInt8.not_lt.1 h3) (UInt8.not_lt.1 h1)
        subst this
        by_cases h2 : a < c
        · simp [h2]
        · by_cases h4 : c < a
          · simp [h2, h4] at h'
          · simp only [h1, h2, h4, if_false] at h h' ⊢
            exact bytes_on l m r h h'

theorem bytesEq {a b : ByteArray} (h : a.data.toList = b.data.toList) : a = b := by
  cases a; cases b; simp only [ByteArray.mk.injEq]; exact Array.toList_inj.1 h

theorem text_anti (a b : ByteArray) : textCmp b a = -textCmp a b := bytes_anti _ _
theorem text_same {a b : ByteArray} (h : textCmp a b = 0) : a = b := bytesEq (bytes_same h)
theorem text_self (a : ByteArray) : textCmp a a = 0 := bytes_self _

theorem text_on {a b c : ByteArray} (h : textCmp a b ≤ 0) (h' : textCmp b c ≤ 0) : textCmp a c ≤ 0 := bytes_on _ _ _ h h'

/-- Strictly, where one step is strict. -/
theorem text_strict {a b c : ByteArray} (h : textCmp a b ≤ 0) (h' : textCmp b c ≤ 0) (hs : textCmp a b ≠ 0 ∨ textCmp b c ≠ 0) : textCmp a c ≠ 0 := by
  intro he
  have hac := text_same he
  subst hac
  have := text_anti a b
  omega

theorem args_anti : ∀ a b : List Tm, argsCmp b a = -argsCmp a b
  | [], [] => rfl
  | [], _ :: _ => rfl
  | _ :: _, [] => rfl
  | x :: l, y :: m => by
    have := text_anti x.2 y.2
    show (if textCmp y.2 x.2 = 0 then argsCmp m l else textCmp y.2 x.2) = -(if textCmp x.2 y.2 = 0 then argsCmp l m else textCmp x.2 y.2)
    by_cases h : textCmp x.2 y.2 = 0
    · rw [if_pos h, if_pos (by omega)]; exact args_anti l m
    · rw [if_neg h, if_neg (by omega)]; exact this

theorem args_on : ∀ a b c : List Tm, argsCmp a b ≤ 0 → argsCmp b c ≤ 0 → argsCmp a c ≤ 0
  | [], _, [], _, _ => Int.le_refl _
  | [], _, _ :: _, _, _ => by simp [argsCmp]
  | _ :: _, [], _, h, _ => by simp [argsCmp] at h
  | _ :: _, _ :: _, [], _, h => by simp [argsCmp] at h
  | x :: l, y :: m, z :: r, h, h' => by
    have h0 : (if textCmp x.2 y.2 = 0 then argsCmp l m else textCmp x.2 y.2) ≤ 0 := h
    have h1 : (if textCmp y.2 z.2 = 0 then argsCmp m r else textCmp y.2 z.2) ≤ 0 := h'
    show (if textCmp x.2 z.2 = 0 then argsCmp l r else textCmp x.2 z.2) ≤ 0
    by_cases e : textCmp x.2 y.2 = 0
    · rw [if_pos e] at h0
      have exy := text_same e
      rw [exy]
      by_cases e' : textCmp y.2 z.2 = 0
      · rw [if_pos e'] at h1 ⊢
        exact args_on l m r h0 h1
      · rw [if_neg e'] at h1 ⊢
        exact h1
    · rw [if_neg e] at h0
      have h2 : textCmp y.2 z.2 ≤ 0 := by
        by_cases e' : textCmp y.2 z.2 = 0
        · omega
        · rw [if_neg e'] at h1; exact h1
      rw [if_neg (text_strict h0 h2 (.inl e))]
      exact text_on h0 h2

theorem atom_args (a b : At) : atomCmp a b = argsCmp ((false, a.1) :: a.2) ((false, b.1) :: b.2) := rfl

theorem atomCmp_anti (a b : At) : atomCmp b a = -atomCmp a b := by rw [atom_args, atom_args]; exact args_anti _ _

theorem cmpB_anti (a b : At) : cmpB b a = -cmpB a b := by
  unfold cmpB
  cases atomB a <;> cases atomB b <;> simp [atomCmp_anti a b]

theorem atomCmp_on {a b c : At} (h : atomCmp a b ≤ 0) (h' : atomCmp b c ≤ 0) : atomCmp a c ≤ 0 := by
  rw [atom_args] at *
  exact args_on _ _ _ h h'

/-- A text that is a word is no variable. -/
theorem var_word {s : ByteArray} (h : termB (true, s) = true) (h' : termB (false, s) = true) : False := by
  have hv : varB s.data.toList = true := h
  have hn : nameB s.data.toList = true := h'
  have hs : small s.data.toList = true := by
    unfold nameB letters at hn
    simp only [Bool.and_eq_true] at hn
    exact hn.1.1
  generalize s.data.toList = l at *
  cases l with
  | nil => simp [varB] at hv
  | cons c r =>
    have hc : capital c = true := by
      unfold varB at hv
      simp only [Bool.and_eq_true] at hv
      exact hv.1.1
    have ho : okByte c = true := by
      unfold small at hs
      rw [List.all_cons, Bool.and_eq_true] at hs
      exact hs.1
    unfold capital at hc
    simp only [Bool.and_eq_true, decide_eq_true_eq] at hc
    rw [okByte_false (c := c) (by omega)] at ho
    cases ho

theorem args_same : ∀ {a b : List Tm}, argsB a = true → argsB b = true → (decide (argsCmp a b = 0) = termsEq a b)
  | [], [], _, _ => rfl
  | [], _ :: _, _, _ => rfl
  | _ :: _, [], _, _ => rfl
  | x :: l, y :: m, h, h' => by
    have hx : termB x = true ∧ argsB l = true := by unfold argsB at *; simpa using h
    have hy : termB y = true ∧ argsB m = true := by unfold argsB at *; simpa using h'
    have ih := args_same hx.2 hy.2
    show decide ((if textCmp x.2 y.2 = 0 then argsCmp l m else textCmp x.2 y.2) = 0) = (termEq x y && termsEq l m)
    obtain ⟨xv, xs⟩ := x
    obtain ⟨yv, ys⟩ := y
    by_cases e : textCmp xs ys = 0
    · have := text_same e
      subst this
      rw [if_pos e, ih]
      have hv : xv = yv := by
        cases xv <;> cases yv
        · rfl
        · exact (var_word hy.1 hx.1).elim
        · exact (var_word hx.1 hy.1).elim
        · rfl
      subst hv
      rw [termEq_refl]; rfl
    · rw [if_neg e, decide_eq_false e]
      have : termEq (xv, xs) (yv, ys) = false := by
        unfold termEq
        have hne : (xs.toList == ys.toList) = false := by
          rw [beq_eq_false_iff_ne]
          intro hh
          refine e ?_
          have : xs = ys := by
            rw [ByteArray.toList_eq, ByteArray.toList_eq] at hh
            exact bytesEq hh
          rw [this]; exact text_self _
        simp [hne]
      rw [this]; rfl

theorem atom_same {a b : At} (h : atomB a = true) (h' : atomB b = true) : decide (cmpB a b = 0) = atomEq a b := by
  rw [cmpB_yes h h']
  have ha : argsB a.2 = true := by
    unfold atomB at h
    rw [Bool.and_eq_true] at h
    exact h.1
  have hb : argsB b.2 = true := by
    unfold atomB at h'
    rw [Bool.and_eq_true] at h'
    exact h'.1
  unfold atomCmp atomEq
  by_cases e : textCmp a.1 b.1 = 0
  · rw [if_pos e, args_same ha hb, text_same e]
    simp
  · rw [if_neg e, decide_eq_false e]
    have hne : (a.1.toList == b.1.toList) = false := by
      rw [beq_eq_false_iff_ne]
      intro hh
      rw [ByteArray.toList_eq, ByteArray.toList_eq] at hh
      rw [bytesEq hh] at e
      exact e (text_self _)
    rw [hne]; rfl

end Go.Proofs.YtcigljngiemdeaaGreat

namespace Go.Proofs.YtcigljngiemdeaaGreat

theorem atomCmp_strict {a b c : At} (h : atomCmp a b < 0) (h' : atomCmp b c ≤ 0) : atomCmp a c < 0 := by
  have h1 : atomCmp a c ≤ 0 := atomCmp_on (Int.le_of_lt h) h'
  by_cases e : atomCmp a c = 0
  · have h2 := atomCmp_anti a c
    have h3 := atomCmp_on (a := b) (b := c) (c := a) h' (by omega)
    have h4 := atomCmp_anti a b
    omega
  · omega

/-- Is one of them the same? -/
def hasB (xs : List At) (a : At) : Bool := xs.any fun x => decide (atomCmp x a = 0)

theorem rises_head : ∀ {x : At} {l : List At}, risesB (x :: l) = true → ∀ y ∈ l, atomCmp x y < 0
  | x, [], _, y, hy => by simp at hy
  | x, z :: l, h, y, hy => by
    have h' : (decide (atomCmp x z < 0) && risesB (z :: l)) = true := h
    rw [Bool.and_eq_true, decide_eq_true_eq] at h'
    rcases List.mem_cons.1 hy with rfl | hy
    · exact h'.1
    · have := rises_head h'.2 y hy
      exact atomCmp_strict h'.1 (by omega)

theorem rises_tail {x : At} {l : List At} (h : risesB (x :: l) = true) : risesB l = true := by
  cases l with
  | nil => rfl
  | cons z l =>
    have h' : (decide (atomCmp x z < 0) && risesB (z :: l)) = true := h
    rw [Bool.and_eq_true] at h'
    exact h'.2

theorem rises_pair : ∀ {xs : List At}, risesB xs = true → ∀ (i j : Nat) (x y : At), i < j → xs[i]? = some x → xs[j]? = some y → atomCmp x y < 0
  | [], _, i, j, x, y, _, h, _ => by simp at h
  | z :: l, h, 0, j + 1, x, y, _, hx, hy => by
    simp at hx hy
    subst hx
    exact rises_head h y (List.mem_of_getElem? hy)
  | z :: l, h, i + 1, j + 1, x, y, hij, hx, hy => rises_pair (rises_tail h) i j x y (by omega) (by simpa using hx) (by simpa using hy)
  | z :: l, h, i, 0, x, y, hij, _, _ => absurd hij (by omega)

/-- The place at which one would stand tells whether it is there. -/
theorem hasB_at {xs : List At} {a x : At} {k : Nat} (h : risesB xs = true) (hlow : ∀ j y, j < k → xs[j]? = some y → atomCmp y a < 0) (hx : xs[k]? = some x) (hk : 0 ≤ atomCmp x a) : hasB xs a = decide (atomCmp x a = 0) := by
  by_cases e : atomCmp x a = 0
  · rw [decide_eq_true e]
    unfold hasB
    rw [List.any_eq_true]
    exact ⟨x, List.mem_of_getElem? hx, by simp [e]⟩
  · rw [decide_eq_false e]
    unfold hasB
    rw [List.any_eq_false]
    intro y hy
    obtain ⟨j, hj⟩ := List.getElem?_of_mem hy
    simp only [decide_eq_true_eq]
    intro e'
    rcases Nat.lt_trichotomy j k with hlt | rfl | hgt
    · have := hlow j y hlt hj; omega
    · rw [hx] at hj; injection hj with hj; subst hj; exact e e'
    · have h1 := rises_pair h k j x y hgt hx hj
      have h2 := atomCmp_strict h1 (show atomCmp y a ≤ 0 by omega)
      omega

theorem hasB_end {xs : List At} {a : At} {k n : Nat} (hl : xs.length = n) (hlow : ∀ j y, j < k → xs[j]? = some y → atomCmp y a < 0) (hk : ¬ k < n) : hasB xs a = false := by
  unfold hasB
  rw [List.any_eq_false]
  intro y hy
  obtain ⟨j, hj⟩ := List.getElem?_of_mem hy
  have := hlow j y (by have := (List.getElem?_eq_some_iff.1 hj).1; omega) hj
  simp only [decide_eq_true_eq]
  omega

theorem low_snoc {xs : List At} {a x : At} {k : Nat} (hlow : ∀ j y, j < k → xs[j]? = some y → atomCmp y a < 0) (hx : xs[k]? = some x) (h : atomCmp x a < 0) : ∀ j y, j < k + 1 → xs[j]? = some y → atomCmp y a < 0 := by
  intro j y hj hy
  by_cases e : j = k
  · subst e; rw [hx] at hy; injection hy with hy; subst hy; exact h
  · exact hlow j y (by omega) hy

/-- In order: all ahead of one that stands ahead do so as well. -/
theorem low_all {xs : List At} {a x : At} {k : Nat} (hr : risesB xs = true) (hx : xs[k]? = some x) (h : atomCmp x a < 0) : ∀ j y, j < k + 1 → xs[j]? = some y → atomCmp y a < 0 := by
  intro j y hj hy
  by_cases e : j = k
  · subst e; rw [hx] at hy; injection hy with hy; subst hy; exact h
  · exact atomCmp_strict (rises_pair hr j k y x (by omega) hy hx) (by omega)

end Go.Proofs.YtcigljngiemdeaaGreat

namespace Go.Proofs.YtcigljngiemdeaaGreat
open Go.RowKit Go.Deep

/-- An atom by value: its name, its slice, and the terms that this reads as. -/
abbrev Rf := ByteArray × Option Addr × Nat × Nat × List Tm

def rAt (r : Rf) : At := (r.1, r.2.2.2.2)
def rVal (r : Rf) : Value := .agg #[.string r.1, .slice r.2.1 r.2.2.1 r.2.2.2.1]

def RefE (w : World) (lo hi : Nat) (p : Addr) (r : Rf) : Prop :=
  w.cell? p = some (.string r.1) ∧ r.1.size ≤ maxLen ∧ w.cell? (nextTo p 1) = some (.slice r.2.1 r.2.2.1 r.2.2.2.1) ∧ IsTerms w lo hi r.2.1 r.2.2.1 r.2.2.2.1 r.2.2.2.2

theorem RefE.stays : Stays RefE := by
  intro w w' lo hi lo' hi' p a ⟨h1, h2, h3, h4⟩ hp1 hp2 hk hl hh
  exact ⟨(hk p hp1 hp2).trans h1, h2, (hk (nextTo p 1) hp1 hp2).trans h3, h4.keep hk hl hh⟩

theorem RefE.out {w : World} {lo hi : Nat} {p : Addr} {r : Rf} (h : RefE w lo hi p r) : w.cell? p = some (.string r.1) ∧ r.1.size ≤ maxLen ∧ w.cell? ⟨p.block, p.off + 1, none⟩ = some (.slice r.2.1 r.2.2.1 r.2.2.2.1) ∧ IsTerms w lo hi r.2.1 r.2.2.1 r.2.2.2.1 r.2.2.2.2 := h

abbrev IsRefs := IsSeq 2 RefE

theorem IsRefs.atoms {w : World} {lo hi n c : Nat} {A : Option Addr} {rs : List Rf} (h : IsRefs w lo hi A n c rs) : IsAtoms w lo hi A n c (rs.map rAt) := by
  obtain ⟨h1, h2, h3, h4⟩ := h
  refine ⟨by simpa using h1, h2, h3, fun hn => ?_⟩
  obtain ⟨p, hp, hl, hh, he⟩ := h4 hn
  refine ⟨p, hp, hl, hh, fun i x hx => ?_⟩
  rw [List.getElem?_map] at hx
  obtain ⟨r, hr, rfl⟩ := Option.map_eq_some_iff.1 hx
  obtain ⟨e1, e2, e3, e4⟩ := he i r hr
  exact ⟨e1, e2, _, _, _, e3, e4⟩

theorem refs_of {w : World} {lo hi n c : Nat} {A : Option Addr} {xs : List At} (h : IsAtoms w lo hi A n c xs) : ∃ rs, IsRefs w lo hi A n c rs ∧ rs.map rAt = xs := by
  obtain ⟨h1, h2, h3, h4⟩ := h
  by_cases hn : 0 < n
  · obtain ⟨p, hp, hl, hh, he⟩ := h4 hn
    have each : ∀ i, i < n → ∃ r : Rf, RefE w lo hi (p.add (i * 2)) r ∧ xs[i]? = some (rAt r) := by
      intro i hi'
      have hx : xs[i]? = some xs[i] := List.getElem?_eq_getElem (by omega)
      obtain ⟨e1, e2, B, m, d, e3, e4⟩ := he i _ hx
      exact ⟨(xs[i].1, B, m, d, xs[i].2), ⟨e1, e2, e3, e4⟩, hx⟩
    obtain ⟨f, hf⟩ := choose_lt each
    refine ⟨(List.range n).map f, ⟨by simp, h2, h3, fun _ => ⟨p, hp, hl, hh, fun i r hr => ?_⟩⟩, ?_⟩
    · have hil : i < n := by
        have := (List.getElem?_eq_some_iff.1 hr).1
        simpa using this
      have hr' : f i = r := by simpa [hil] using hr
      rw [← hr']
      exact (hf i hil).1
    · apply List.ext_getElem?
      intro i
      by_cases hil : i < n
      · rw [(hf i hil).2]; simp [hil]
      · rw [List.getElem?_eq_none (by simp; omega), List.getElem?_eq_none (by omega)]
  · have hn0 : n = 0 := by omega
    subst hn0
    have : xs = [] := List.eq_nil_of_length_eq_zero h1
    subst this
    exact ⟨[], ⟨rfl, h2, h3, fun hn => absurd hn (by omega)⟩, rfl⟩

theorem add_add (p : Addr) (a b : Nat) : (p.add a).add b = p.add (a + b) := by
  unfold Addr.add
  by_cases ha : a = 0
  · subst ha; simp
  · by_cases hb : b = 0
    · subst hb; simp [ha]
    · simp [ha, hb, Nat.add_assoc]

/-- The first one, and the others. -/
theorem IsRefs.first {w : World} {lo hi n c : Nat} {A : Option Addr} {r : Rf} {rs : List Rf} (h : IsRefs w lo hi A n c (r :: rs)) :
    ∃ p, A = some p ∧ lo ≤ p.block ∧ p.block < hi ∧ 0 < n ∧ RefE w lo hi p r ∧ IsRefs w lo hi (some (p.add 2)) (n - 1) (c - 1) rs := by
  obtain ⟨h1, h2, h3, h4⟩ := h
  have hn : 0 < n := by rw [← h1]; simp
  obtain ⟨p, hp, hl, hh, he⟩ := h4 hn
  have e0 := he 0 r rfl
  have z : p.add (0 * 2) = p := by unfold Addr.add; simp
  rw [z] at e0
  refine ⟨p, hp, hl, hh, hn, e0, by simp at h1; omega, by omega, by omega, fun _ => ⟨_, rfl, by rw [block_add]; exact hl, by rw [block_add]; exact hh, fun i x hx => ?_⟩⟩
  rw [add_add, show 2 + i * 2 = (i + 1) * 2 by omega]
  exact he (i + 1) x (by simpa using hx)

/-- In which of two lists the next one stands. -/
def sideN : List At → List At → Nat
  | _, [] => 0
  | [], _ :: _ => 1
  | a :: _, b :: _ => if atomCmp a b < 0 then 0 else if 0 < atomCmp a b then 1 else 2

/-- Two lists, merged; of each where it stands. -/
def mergeR : List Rf → List Rf → List (Rf × Nat)
  | ra, [] => ra.map fun r => (r, 0)
  | [], b :: rb => (b :: rb).map fun r => (r, 1)
  | a :: ra, b :: rb =>
    if atomCmp (rAt a) (rAt b) < 0 then (a, 0) :: mergeR ra (b :: rb)
    else if 0 < atomCmp (rAt a) (rAt b) then (b, 1) :: mergeR (a :: ra) rb
    else (a, 2) :: mergeR ra rb
termination_by ra rb => ra.length + rb.length

theorem merge_nil (ra : List Rf) : mergeR ra [] = ra.map fun r => (r, 0) := by rw [mergeR]

theorem merge_left (rb : List Rf) : mergeR [] rb = rb.map fun r => (r, 1) := by
  cases rb with
  | nil => rw [merge_nil]; rfl
  | cons b rb => rw [mergeR]

theorem merge_first {a : Rf} {ra rb : List Rf} (h : sideN ((a :: ra).map rAt) (rb.map rAt) = 0) : mergeR (a :: ra) rb = (a, 0) :: mergeR ra rb := by
  cases rb with
  | nil => rw [merge_nil, merge_nil]; rfl
  | cons b rb =>
    have h' : (if atomCmp (rAt a) (rAt b) < 0 then 0 else if 0 < atomCmp (rAt a) (rAt b) then 1 else 2) = 0 := h
    rw [mergeR]
    by_cases hc : atomCmp (rAt a) (rAt b) < 0
    · rw [if_pos hc]
    · rw [if_neg hc] at h'; split at h' <;> simp at h'

theorem merge_second {b : Rf} {ra rb : List Rf} (h : sideN (ra.map rAt) ((b :: rb).map rAt) = 1) : mergeR ra (b :: rb) = (b, 1) :: mergeR ra rb := by
  cases ra with
  | nil => rw [merge_left, merge_left]; rfl
  | cons a ra =>
    have h' : (if atomCmp (rAt a) (rAt b) < 0 then 0 else if 0 < atomCmp (rAt a) (rAt b) then 1 else 2) = 1 := h
    rw [mergeR]
    by_cases hc : atomCmp (rAt a) (rAt b) < 0
    · rw [if_pos hc] at h'; simp at h'
    · rw [if_neg hc] at h' ⊢
      by_cases hc' : 0 < atomCmp (rAt a) (rAt b)
      · rw [if_pos hc']
      · rw [if_neg hc'] at h'; simp at h'

theorem merge_both {a b : Rf} {ra rb : List Rf} (h : sideN ((a :: ra).map rAt) ((b :: rb).map rAt) = 2) : mergeR (a :: ra) (b :: rb) = (a, 2) :: mergeR ra rb := by
  have h' : (if atomCmp (rAt a) (rAt b) < 0 then 0 else if 0 < atomCmp (rAt a) (rAt b) then 1 else 2) = 2 := h
  rw [mergeR]
  by_cases hc : atomCmp (rAt a) (rAt b) < 0
  · rw [if_pos hc] at h'; simp at h'
  · rw [if_neg hc] at h' ⊢
    by_cases hc' : 0 < atomCmp (rAt a) (rAt b)
    · rw [if_pos hc'] at h'; simp at h'
    · rw [if_neg hc']

end Go.Proofs.YtcigljngiemdeaaGreat

namespace Go.Proofs.YtcigljngiemdeaaGreat
open Go.RowKit

/-- Block b is just these cells of type t. -/
def Blk (W : World) (b : Nat) (t : TypeId) (cs : Array Value) : Prop := W.heap[b]? = some (.cells cs t (0, 0))

section
variable {W W' w1 : World} {b B n₀ size k m : Nat} {t e : TypeId} {cs : Array Value} {v v' : Value} {xs ys : List Value} {tmp : Obj}

theorem Blk.lt (h : Blk W b t cs) : b < W.heap.size := (Array.getElem?_eq_some_iff.1 h).1
theorem Blk.cell (h : Blk W b t cs) (i : Nat) : W.cell? ⟨b, i, none⟩ = cs[i]? := by
  unfold Blk at h
  simp [World.cell?, h]
theorem Blk.frozen (h : Blk W b t cs) (i : Nat) : W.frozen? ⟨b, i, none⟩ = false := by
  unfold Blk at h
  simp [World.frozen?, h]
theorem Blk.new (W : World) (t : TypeId) (cs : Array Value) : Blk (W.alloc (.cells cs t)) W.heap.size t cs := World.alloc_heap_new W _
theorem Blk.kept {row : Option Nat} (h : Blk W b t cs) (hg : W.grownBy W' row) (hne : some b ≠ row) : Blk W' b t cs := (hg.block b h.lt hne).trans h
theorem Blk.alloc (h : Blk W b t cs) (o : Obj) : Blk (W.alloc o) b t cs := h.kept (World.grownBy_alloc W o none) (by simp)
theorem Blk.below (h : Blk W b t cs) (hb : Below W.heap.size W W') : Blk W' b t cs := (hb.block b h.lt).trans h
theorem Blk.far (h : Blk W b t cs) {p : Addr} (hp : b ≠ p.block) (u : Value) : Blk (W.setCell p u) b t cs := (Below.heap_setCell W p u b hp).trans h
theorem Blk.own {β : Type} (b : Nat) (t : TypeId) (cs : Array Value) : Own (fun (_ : β) W => Blk W b t cs) := fun s X Y row hs hg hrow =>
  hs.kept hg (fun e' => by obtain ⟨o, ho, hc⟩ := hrow b e'.symm; rw [show X.heap[b]? = _ from hs] at ho; cases ho; cases hc)
theorem Blk.putObj (h : Blk W b t cs) {l : Nat} {o : Obj} (o' : Obj) (hl : W.heap[l]? = some o) (ho : o.isCells = false) : Blk (W.putObj l o') b t cs :=
  (Blk.own (β := Unit) b t cs).putObj o' (s := ()) h hl ho

theorem Blk.not_row (h : Blk W b t cs) (hte : t ≠ e) (hr : W.ownsRow n₀ e size v k xs) : some b ≠ v.ownBlock := by
  rcases hr.2 with ⟨rfl, _⟩ | ⟨g, cap, cur, rfl, _, hgb, _⟩
  · simp [Value.ownBlock]
  · intro e'
    obtain rfl : b = g := by simpa [Value.ownBlock] using e'
    have := (show W.heap[b]? = _ from h).symm.trans hgb
    simp at this
    exact hte this.2

/-- Beside a row to which something was appended, and whose box was stored anew. -/
theorem Blk.through (h : Blk W b t cs) (hte : t ≠ e) (hrow : W.ownsRow n₀ e size v k xs) (hgrow : (W.alloc tmp).grownBy w1 v.ownBlock) (hne : b ≠ B) (v' : Value) : Blk (w1.setCell ⟨B, 0, none⟩ v') b t cs :=
  ((h.alloc tmp).kept hgrow (h.not_row hte hrow)).far hne v'
end

theorem Blk.made (w : World) {b : Nat} (t : TypeId) (cs : Array Value) (h : b = w.heap.size) : Blk (w.alloc (.cells cs t)) b t cs := by subst h; exact Blk.new w t cs

theorem Blk.same {W W' : World} {b : Nat} {t : TypeId} {cs : Array Value} (h : Blk W b t cs) (h' : Blk W' b t cs) : W'.heap[b]? = W.heap[b]? := (show W'.heap[b]? = _ from h').trans (show W.heap[b]? = _ from h).symm

theorem Blk.set {W : World} {b : Nat} {t : TypeId} {cs : Array Value} (h : Blk W b t cs) (i : Nat) (u : Value) : Blk (W.setCell ⟨b, i, none⟩ u) b t (cs.setIfInBounds i u) := by
  unfold Blk at h ⊢
  simp [World.setCell, Array.getElem?_modify, h]

/-- The cells of atoms by value. -/
def rcells (rs : List Rf) : List Value := rs.flatMap fun r => [.string r.1, .slice r.2.1 r.2.2.1 r.2.2.2.1]

theorem rcells_len : ∀ rs : List Rf, (rcells rs).length = rs.length * 2
  | [] => rfl
  | r :: rs => by
    have := rcells_len rs
    unfold rcells at *
    simp only [List.flatMap_cons, List.length_append, List.length_cons, List.length_nil, this]
    omega

theorem rcells_snoc (rs : List Rf) (r : Rf) : rcells (rs ++ [r]) = rcells rs ++ [.string r.1, .slice r.2.1 r.2.2.1 r.2.2.2.1] := by
  unfold rcells; simp [List.flatMap_append]

theorem rcells_at : ∀ {rs : List Rf} {i : Nat} {r : Rf}, rs[i]? = some r → (rcells rs)[i * 2]? = some (.string r.1) ∧ (rcells rs)[i * 2 + 1]? = some (.slice r.2.1 r.2.2.1 r.2.2.2.1)
  | [], _, _, h => by simp at h
  | q :: rs, 0, r, h => by
    simp at h; subst h
    exact ⟨rfl, rfl⟩
  | q :: rs, i + 1, r, h => by
    have ih := rcells_at (rs := rs) (i := i) (r := r) (by simpa using h)
    have e : rcells (q :: rs) = .string q.1 :: .slice q.2.1 q.2.2.1 q.2.2.2.1 :: rcells rs := rfl
    rw [e, show (i + 1) * 2 = i * 2 + 1 + 1 by omega]
    exact ⟨by simpa using ih.1, by simpa using ih.2⟩

theorem rcells_one (rs : List Rf) : ∀ u ∈ rcells rs, u.oneCell' = true := by
  intro u hu
  unfold rcells at hu
  obtain ⟨r, _, hr⟩ := List.mem_flatMap.1 hu
  simp at hr
  rcases hr with rfl | rfl <;> rfl

/-- What the atoms that a row holds lead on to lies where it lies. -/
def RefsIn (W : World) (lo hi : Nat) (rs : List Rf) : Prop := ∀ r ∈ rs, r.1.size ≤ maxLen ∧ IsTerms W lo hi r.2.1 r.2.2.1 r.2.2.2.1 r.2.2.2.2

theorem RefsIn.of {W : World} {lo hi n c : Nat} {A : Option Addr} {rs : List Rf} (h : IsRefs W lo hi A n c rs) : RefsIn W lo hi rs := by
  obtain ⟨h1, _, _, h4⟩ := h
  intro r hr
  obtain ⟨i, hi⟩ := List.getElem?_of_mem hr
  have hn : 0 < n := by have := (List.getElem?_eq_some_iff.1 hi).1; omega
  obtain ⟨p, _, _, _, he⟩ := h4 hn
  obtain ⟨_, e2, _, e4⟩ := he i r hi
  exact ⟨e2, e4⟩

theorem RefsIn.keep {W W' : World} {lo hi lo' hi' : Nat} {rs : List Rf} (h : RefsIn W lo hi rs) (hk : ∀ q : Addr, lo ≤ q.block → q.block < hi → W'.cell? q = W.cell? q) (h1 : lo' ≤ lo) (h2 : hi ≤ hi') : RefsIn W' lo' hi' rs :=
  fun r hr => ⟨(h r hr).1, (h r hr).2.keep hk h1 h2⟩

theorem RefsIn.sub {W : World} {lo hi : Nat} {rs rs' : List Rf} (h : RefsIn W lo hi rs) (hs : ∀ r ∈ rs', r ∈ rs) : RefsIn W lo hi rs' := fun r hr => h r (hs r hr)

/-- A row of the call's own reads as the atoms that it holds. -/
theorem refs_own {W : World} {base lo hi : Nat} {v : Value} {rs : List Rf} {n : Nat} (h : W.ownsRow base 49 2 v n (rcells rs)) (hn : n = rs.length) (hb : lo ≤ base) (hr : RefsIn W lo hi rs) (hh : hi ≤ W.heap.size) :
    ∃ A c, v = .slice A n c ∧ IsRefs W lo W.heap.size A n c rs := by
  subst hn
  rcases h.2 with ⟨rfl, h0⟩ | ⟨g, cap, cur, rfl, hbg, hgb, hle, hcap, hsz, htk⟩
  · refine ⟨none, 0, by rw [h0], rfl, by omega, by unfold maxLen; omega, fun hp => absurd hp (by omega)⟩
  · have hlt := (Array.getElem?_eq_some_iff.1 hgb).1
    refine ⟨_, cap, rfl, rfl, hle, hcap, fun _ => ⟨_, rfl, by show lo ≤ g; omega, hlt, fun i r hi => ?_⟩⟩
    obtain ⟨c1, c2⟩ := rcells_at hi
    have hil := (List.getElem?_eq_some_iff.1 hi).1
    have a0 : ∀ j, (⟨g, 0, none⟩ : Addr).add j = ⟨g, j, none⟩ := fun j => by unfold Addr.add; split <;> simp_all
    have hcell : ∀ j u, (rcells rs)[j]? = some u → W.cell? ⟨g, j, none⟩ = some u := by
      intro j u hu
      have hj := (List.getElem?_eq_some_iff.1 hu).1
      rw [rcells_len] at hj
      rw [← htk, List.getElem?_take, if_pos (by omega)] at hu
      simp [World.cell?, hgb]
      simpa using hu
    rw [a0]
    exact ⟨hcell _ _ c1, (hr r (List.mem_of_getElem? hi)).1, hcell _ _ c2, (hr r (List.mem_of_getElem? hi)).2.keep (fun _ _ _ => rfl) (Nat.le_refl _) hh⟩

/-- Two lists merged: no more than both. -/
theorem merge_len : ∀ ra rb : List Rf, (mergeR ra rb).length ≤ ra.length + rb.length := by
  intro ra rb
  fun_induction mergeR ra rb with
  | case1 ra => simp
  | case2 b rb => simp
  | case3 a ra b rb h ih => simp at *; omega
  | case4 a ra b rb h h' ih => simp at *; omega
  | case5 a ra b rb h h' ih => simp at *; omega

theorem merge_mem : ∀ ra rb : List Rf, ∀ x ∈ mergeR ra rb, x.1 ∈ ra ∨ x.1 ∈ rb := by
  intro ra rb
  fun_induction mergeR ra rb with
  | case1 ra => intro x hx; obtain ⟨r, hr, rfl⟩ := List.mem_map.1 hx; exact .inl hr
  | case2 b rb => intro x hx; obtain ⟨r, hr, rfl⟩ := List.mem_map.1 hx; exact .inr hr
  | case3 a ra b rb h ih => intro x hx; rcases List.mem_cons.1 hx with rfl | hx; · simp
                            rcases ih x hx with h | h <;> simp_all
  | case4 a ra b rb h h' ih => intro x hx; rcases List.mem_cons.1 hx with rfl | hx; · simp
                               rcases ih x hx with h | h <;> simp_all
  | case5 a ra b rb h h' ih => intro x hx; rcases List.mem_cons.1 hx with rfl | hx; · simp
                               rcases ih x hx with h | h <;> simp_all

/-- Those that stand on one side. -/
def selR (v : Nat) (l : List (Rf × Nat)) : List Rf := (l.filter fun x => x.2 == v).map (·.1)

theorem selR_yes {v : Nat} {l : List (Rf × Nat)} {x : Rf × Nat} (h : x.2 = v) : selR v (l ++ [x]) = selR v l ++ [x.1] := by
  unfold selR; rw [List.filter_append]; simp [h]
theorem selR_no {v : Nat} {l : List (Rf × Nat)} {x : Rf × Nat} (h : ¬ x.2 = v) : selR v (l ++ [x]) = selR v l := by
  unfold selR; rw [List.filter_append]; simp [h]
theorem selR_len (v : Nat) (l : List (Rf × Nat)) : (selR v l).length ≤ l.length := by
  unfold selR; rw [List.length_map]; exact List.length_filter_le _ _
theorem selR_mem {v : Nat} {l : List (Rf × Nat)} : ∀ r ∈ selR v l, ∃ x ∈ l, x.1 = r := by
  intro r hr
  unfold selR at hr
  obtain ⟨x, hx, rfl⟩ := List.mem_map.1 hr
  exact ⟨x, (List.mem_filter.1 hx).1, rfl⟩

end Go.Proofs.YtcigljngiemdeaaGreat
