/-
  Order: how texts, terms and atoms stand to each other, in the program and in its model.
-/
import Derived.Test.YtiekfjlhioekcaaAtomOk
import Derived.Test.YtiekfjlhioekcaaShelf
import Derived.Deep.RegionWith
namespace Go.Proofs.Ytiekfjlhioekcaa
open Go.RowKit

/-- How two texts stand to each other: -1, 0, 1. -/
def textCmp (a b : ByteArray) : Int := Lib.compareBytes a.data.toList b.data.toList

theorem cmp_range : ∀ a b : List UInt8, Lib.compareBytes a b = -1 ∨ Lib.compareBytes a b = 0 ∨ Lib.compareBytes a b = 1
  | [], [] => .inr (.inl rfl)
  | [], _ :: _ => .inl rfl
  | _ :: _, [] => .inr (.inr rfl)
  | a :: l, b :: m => by
    unfold Lib.compareBytes
    split
    · exact .inl rfl
    · split
      · exact .inr (.inr rfl)
      · exact cmp_range l m

theorem textCmp_range (a b : ByteArray) : textCmp a b = -1 ∨ textCmp a b = 0 ∨ textCmp a b = 1 := cmp_range _ _

theorem less_cmp : ∀ a b : List UInt8, Op.bytesLess a b = decide (Lib.compareBytes a b = -1) ∧ (a == b) = decide (Lib.compareBytes a b = 0)
  | [], [] => ⟨rfl, rfl⟩
  | [], _ :: _ => ⟨rfl, rfl⟩
  | _ :: _, [] => ⟨rfl, rfl⟩
  | a :: l, b :: m => by
    obtain ⟨h1, h2⟩ := less_cmp l m
    by_cases hl : a < b
    · have hne : a ≠ b := fun e => by subst e; exact absurd hl (UInt8.lt_irrefl _)
      constructor
      · simp [Op.bytesLess, Lib.compareBytes, hl]
      · simp [Lib.compareBytes, hl, hne]
    · by_cases hg : b < a
      · have hne : a ≠ b := fun e => by subst e; exact absurd hg (UInt8.lt_irrefl _)
        constructor
        · simp [Op.bytesLess, Lib.compareBytes, hl, hg, hne]
        · simp [Lib.compareBytes, hl, hg, hne]
      · have he : a = b := UInt8.le_antisymm (UInt8.not_lt.1 hg) (UInt8.not_lt.1 hl)
        subst he
        constructor
        · simp [Op.bytesLess, Lib.compareBytes, hl, h1]
        · have : (a :: l == a :: m) = (l == m) := by simp
          rw [this, h2]; simp [Lib.compareBytes, hl]

theorem retI {a b : Int} (h : a = b) : Ending.returned (.int .i64 a) = .returned (.int .i64 b) := by rw [h]

set_option maxHeartbeats 400000 in
theorem l1Texts_any (a b : ByteArray) (w : World) : Calls Try.prog 56 #[.string a, .string b] w fun e w' => e = .returned (.int .i64 (textCmp a b)) ∧ w = w' := by
  have h1 := (less_cmp a.toList b.toList).1
  have h2 := (less_cmp a.toList b.toList).2
  have hr := cmp_range a.toList b.toList
  have ht : textCmp a b = Lib.compareBytes a.toList b.toList := by unfold textCmp; rw [ByteArray.toList_eq, ByteArray.toList_eq]
  rcases hr with h | h | h
  · have e1 : Op.bytesLess a.toList b.toList = true := by rw [h1, h]; rfl
    have HT := Lib.hid (ht.trans h)
    clear h1 h2 ht h
    go_enter Try.func56, Try.ntmps56
    go_wp2
    go_ret
    exact ⟨retI HT.out.symm, rfl⟩
  · have e1 : Op.bytesLess a.toList b.toList = false := by rw [h1, h]; rfl
    have e2 : (a.toList == b.toList) = true := by rw [h2, h]; rfl
    have HT := Lib.hid (ht.trans h)
    clear h1 h2 ht h
    go_enter Try.func56, Try.ntmps56
    go_wp2
    go_ret
    exact ⟨retI HT.out.symm, rfl⟩
  · have e1 : Op.bytesLess a.toList b.toList = false := by rw [h1, h]; rfl
    have e2 : (a.toList == b.toList) = false := by rw [h2, h]; rfl
    have HT := Lib.hid (ht.trans h)
    clear h1 h2 ht h
    go_enter Try.func56, Try.ntmps56
    go_wp2
    go_ret
    exact ⟨retI HT.out.symm, rfl⟩

theorem compare_any (a b : ByteArray) (w : World) : Calls Try.prog 42 #[.string a, .string b] w fun e w' => e = .returned (.int .i64 (textCmp a b)) ∧ w = w' :=
  (Try.strings_Compare a b w).mono fun _ _ ⟨he, hw⟩ => ⟨he, hw.symm⟩

def IntPost (n : Int) (w : World) (e : Ending) (w' : World) : Prop := e = .returned (.int .i64 n) ∧ Below w.heap.size w w'

set_option maxHeartbeats 400000 in
theorem compareTerms_any (v v' : Bool) (s s' : ByteArray) (w : World) : Calls Try.prog 44 #[.agg #[.bool v, .string s], .agg #[.bool v', .string s']] w (IntPost (textCmp s s') w) := by
  go_enter Try.func44, Try.ntmps44
  go_wp2_with (go_at_call 42; refine (compare_any _ _ _).mono ?_; rintro e w' ⟨rfl, rfl⟩)
  go_ret
  exact ⟨rfl, below2 _ _ _⟩

theorem ne0 {x : Int} (h : (x != 0) = true) : x ≠ 0 := by simpa using h
theorem is0 {x : Int} (h : (x != 0) = false) : x = 0 := by simpa using h

def argsCmp : List Tm → List Tm → Int
  | [], [] => 0
  | [], _ :: _ => -1
  | _ :: _, [] => 1
  | x :: l, y :: m => if textCmp x.2 y.2 = 0 then argsCmp l m else textCmp x.2 y.2

def atomCmp (a b : At) : Int := if textCmp a.1 b.1 = 0 then argsCmp a.2 b.2 else textCmp a.1 b.1

theorem argsCmp_step {ts us : List Tm} {k : Nat} {t u : Tm} (h : ts[k]? = some t) (h' : us[k]? = some u) : argsCmp (ts.drop k) (us.drop k) = if textCmp t.2 u.2 = 0 then argsCmp (ts.drop (k + 1)) (us.drop (k + 1)) else textCmp t.2 u.2 := by
  obtain ⟨h1, h2⟩ := List.getElem?_eq_some_iff.1 h
  obtain ⟨h3, h4⟩ := List.getElem?_eq_some_iff.1 h'
  rw [List.drop_eq_getElem_cons h1, List.drop_eq_getElem_cons h3, h2, h4]; rfl

theorem argsCmp_left {ts us : List Tm} {k : Nat} (h : us.length ≤ k) (h' : k < ts.length) : argsCmp (ts.drop k) (us.drop k) = 1 := by
  rw [List.drop_eq_getElem_cons h', List.drop_eq_nil_of_le h]; rfl

theorem argsCmp_right {ts us : List Tm} {k : Nat} (h : ts.length ≤ k) (h' : k < us.length) : argsCmp (ts.drop k) (us.drop k) = -1 := by
  rw [List.drop_eq_getElem_cons h', List.drop_eq_nil_of_le h]; rfl

theorem argsCmp_none {ts us : List Tm} {k : Nat} (h : ts.length ≤ k) (h' : us.length ≤ k) : argsCmp (ts.drop k) (us.drop k) = 0 := by
  rw [List.drop_eq_nil_of_le h, List.drop_eq_nil_of_le h']; rfl

set_option maxHeartbeats 1000000 in
theorem compareFunc_any (A B : Option Addr) (n c n' c' : Nat) (ts us : List Tm) (w : World) (h : IsTerms w 0 w.heap.size A n c ts) (h' : IsTerms w 0 w.heap.size B n' c' us) :
    Calls Try.prog 43 #[.slice A n c, .slice B n' c', .func (.func 44) #[] #[]] w (IntPost (argsCmp ts us) w) := by
  have hm : n ≤ maxLen := by have := h.2.1; have := h.2.2.1; omega
  have hm' : n' ≤ maxLen := by have := h'.2.1; have := h'.2.2.1; omega
  unfold maxLen at hm hm'
  have H := Lib.hid h; clear h
  have H' := Lib.hid h'; clear h'
  go_enter Try.func43, Try.ntmps43
  go_wp2
  go_loopw [7, 8, 9, 10, 13] (fun _ _ _ _ i wr => ∃ k : Nat, k ≤ n ∧ k ≤ n' ∧ i = .int .i64 k ∧ argsCmp (ts.drop k) (us.drop k) = argsCmp ts us ∧ Below w.heap.size w wr) (fun _ _ _ _ i _ => n - (intOf i).toNat)
  case atStart => exact ⟨0, Nat.zero_le _, Nat.zero_le _, rfl, rfl, Below.refl _ _⟩
  case round =>
    obtain ⟨k, hk, hk', rfl, hd, hb⟩ := hrel
    have HD := Lib.hid hd; clear hd
    by_cases hlt : k < n
    · obtain ⟨p, t, hA, hlo, hhi, hg, c1, c2, c3⟩ := (H.out.below hb (Nat.le_refl _)).at_ hlt
      subst hA
      have HG := Lib.hid hg; clear hg
      by_cases hlt' : k < n'
      · obtain ⟨p', t', hA', hlo', hhi', hg', c1', c2', c3'⟩ := (H'.out.below hb (Nat.le_refl _)).at_ hlt'
        subst hA'
        have HG' := Lib.hid hg'; clear hg'
        have d1 := cellUp c1'
        have d2 := cellUp c2'
        go_wp2_with (go_at_call 44; refine (compareTerms_any _ _ _ _ _).mono ?_; rintro e w1 ⟨rfl, hb1⟩; have HB1 := belowThen hb (belowThen (below2 _ _ _) hb1))
        · have hne : textCmp t.2 t'.2 ≠ 0 := ne0 (by assumption)
          go_ret; exact ⟨retI (by rw [← HD.out, argsCmp_step HG.out HG'.out, if_neg hne]), HB1⟩
        · have heq : textCmp t.2 t'.2 = 0 := is0 (by assumption)
          go_roundw
          case rel => exact ⟨k + 1, by omega, by omega, by go_num, by rw [← HD.out, argsCmp_step HG.out HG'.out, if_pos heq], HB1⟩
          case measure => simp [intOf]; omega
      · have hl : k < ts.length := by have := H.out.1; omega
        have hl' : us.length ≤ k := by have := H'.out.1; omega
        go_wp2
        go_ret; exact ⟨retI (by rw [← HD.out, argsCmp_left hl' hl]), belowThen hb (below1 _ _)⟩
    · have hl : ts.length ≤ k := by have := H.out.1; omega
      have hkn : k = n := by omega
      by_cases hnn : n < n'
      · have hl' : k < us.length := by have := H'.out.1; omega
        clear hkn
        go_wp2
        go_ret; exact ⟨retI (by rw [← HD.out, argsCmp_right hl hl']), hb⟩
      · have hl' : us.length ≤ k := by have := H'.out.1; omega
        clear hkn
        go_wp2
        go_ret; exact ⟨retI (by rw [← HD.out, argsCmp_none hl hl']), hb⟩

set_option maxHeartbeats 1000000 in
theorem compareAtoms_any (nm nm' : ByteArray) (A B : Option Addr) (n c n' c' : Nat) (ts us : List Tm) (w : World) (h : IsTerms w 0 w.heap.size A n c ts) (h' : IsTerms w 0 w.heap.size B n' c' us) :
    Calls Try.prog 26 #[.agg #[.string nm, .slice A n c], .agg #[.string nm', .slice B n' c']] w (IntPost (atomCmp (nm, ts) (nm', us)) w) := by
  have H := Lib.hid h; clear h
  have H' := Lib.hid h'; clear h'
  go_enter Try.func26, Try.ntmps26
  go_wp2_with (first
    | (go_at_call 42; refine (compare_any _ _ _).mono ?_; rintro e w' ⟨rfl, rfl⟩)
    | (go_at_call 43; refine (compareFunc_any _ _ _ _ _ _ ts us _ (H.out.up (below2 _ _ _)) (H'.out.up (below2 _ _ _))).mono ?_; rintro e w1 ⟨rfl, hb1⟩))
  · have hne : textCmp nm nm' ≠ 0 := ne0 (by assumption)
    go_ret; exact ⟨retI (by unfold atomCmp; rw [if_neg hne]), below2 _ _ _⟩
  · have heq : textCmp nm nm' = 0 := is0 (by assumption)
    go_ret; exact ⟨retI (by unfold atomCmp; rw [if_pos heq]), belowThen (below2 _ _ _) hb1⟩

end Go.Proofs.Ytiekfjlhioekcaa
