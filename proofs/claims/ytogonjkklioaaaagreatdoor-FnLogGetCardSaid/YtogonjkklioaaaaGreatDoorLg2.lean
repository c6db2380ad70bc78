/-
  Texts of one claim, put together.
-/
import Derived.Test.YtogonjkklioaaaaGreatDoorLg1
import Derived.Test.YtogonjkklioaaaaGreatDoorShelf
set_option maxRecDepth 100000
set_option maxHeartbeats 8000000
namespace Go.Proofs.YtogonjkklioaaaaGreatDoor
open Go.RowKit
def zal (a b : ByteArray) : Int := Lib.compareBytes a.data.toList b.data.toList
theorem cmp_range : ∀ a b : List UInt8, Lib.compareBytes a b = -1 ∨ Lib.compareBytes a b = 0 ∨ Lib.compareBytes a b = 1
  | [], [] => .inr (.inl rfl)
  | [], _ :: _ => .inl rfl
  | _ :: _, [] => .inr (.inr rfl)
  | a :: l, b :: m => by
    unfold Lib.compareBytes; split
    · exact .inl rfl
    · split
      · exact .inr (.inr rfl)
      · exact cmp_range l m
theorem znc : ∀ a b : List UInt8, Op.bytesLess a b = decide (Lib.compareBytes a b = -1) ∧ (a == b) = decide (Lib.compareBytes a b = 0)
  | [], [] => ⟨rfl, rfl⟩
  | [], _ :: _ => ⟨rfl, rfl⟩
  | _ :: _, [] => ⟨rfl, rfl⟩
  | a :: l, b :: m => by
    obtain ⟨h1, h2⟩ := znc l m; by_cases hl : a < b
    · have hne : a ≠ b := fun e => by subst e; exact absurd hl (UInt8.lt_irrefl _)
      constructor
      · simp [Op.bytesLess, Lib.compareBytes, hl]
      · simp [Lib.compareBytes, hl, hne]
    · by_cases hg : b < a
      · have hne : a ≠ b := fun e => by subst e; exact absurd hg (UInt8.lt_irrefl _)
        constructor
        · simp [Op.bytesLess, Lib.compareBytes, hl, hg, hne]
        · simp [Lib.compareBytes, hl, hg, hne]
      · have he : a = b := UInt8.le_antisymm (UInt8.not_lt.1 hg) (UInt8.not_lt.1 hl)
        subst he; constructor
        · simp [Op.bytesLess, Lib.compareBytes, hl, h1]
        · have : (a :: l == a :: m) = (l == m) := qag
          rw [this, h2]; simp [Lib.compareBytes, hl]
theorem retI {a b : Int} (h : a = b) : Ending.returned (.int .i64 a) = .returned (.int .i64 b) := by rw [h]
theorem ZCmp0 {p : Prop} (h : p := by
  have HT := hid (ht.trans h); clear h1 h2 ht h; go_enter Tryz.func128, Tryz.ntmps128; go_wp2; go_ret; exact ⟨retI HT.out.symm, rfl⟩) : p := h
theorem zox (a b : ByteArray) (w : World) : Calls Tryz.prog 128 #[.string a, .string b] w fun e w' => e = .returned (.int .i64 (zal a b)) ∧ w = w' := by
  have h1 := (znc a.toList b.toList).1; have h2 := (znc a.toList b.toList).2; have hr := cmp_range a.toList b.toList; have ht : zal a b = Lib.compareBytes a.toList b.toList := by unfold zal; rw [ByteArray.toList_eq, ByteArray.toList_eq]
  rcases hr with h | h | h
  · have e1 : Op.bytesLess a.toList b.toList = true := by rw [h1, h]; rfl
    exact ZCmp0
  · have e1 : Op.bytesLess a.toList b.toList = false := by rw [h1, h]; rfl
    have e2 : (a.toList == b.toList) = true := by rw [h2, h]; rfl
    exact ZCmp0
  · have e1 : Op.bytesLess a.toList b.toList = false := by rw [h1, h]; rfl
    have e2 : (a.toList == b.toList) = false := by rw [h2, h]; rfl
    exact ZCmp0
theorem zpo (a b : ByteArray) (w : World) : Calls Tryz.prog 117 #[.string a, .string b] w fun e w' => e = .returned (.int .i64 (zal a b)) ∧ w = w' :=
  (Tryz.strings_Compare a b w).mono fun _ _ ⟨he, hw⟩ => ⟨he, hw.symm⟩
def zlt (n : Int) (w : World) (e : Ending) (w' : World) : Prop := e = .returned (.int .i64 n) ∧ Below w.heap.size w w'
theorem zmv (v v' : Bool) (s s' : ByteArray) (w : World) : Calls Tryz.prog 119 #[.agg #[.bool v, .string s], .agg #[.bool v', .string s']] w (zlt (zal s s') w) := by
  go_enter Tryz.func119, Tryz.ntmps119; go_wp2_with (go_at_call 117; refine (zpo _ _ _).mono ?_; rintro e w' ⟨rfl, rfl⟩); go_ret; exact ⟨rfl, zbj _ _ _⟩
theorem ne0 {x : Int} (h : (x != 0) = true) : x ≠ 0 := by simpa using h
theorem is0 {x : Int} (h : (x != 0) = false) : x = 0 := by simpa using h
def zbd : List Tm → List Tm → Int
  | [], [] => 0
  | [], _ :: _ => -1
  | _ :: _, [] => 1
  | x :: l, y :: m => if zal x.2 y.2 = 0 then zbd l m else zal x.2 y.2
def zaf (a b : At) : Int := if zal a.1 b.1 = 0 then zbd a.2 b.2 else zal a.1 b.1
theorem zhp {ts us : List Tm} {k : Nat} {t u : Tm} (h : ts[k]? = some t) (h' : us[k]? = some u) : zbd (ts.drop k) (us.drop k) = if zal t.2 u.2 = 0 then zbd (ts.drop (k + 1)) (us.drop (k + 1)) else zal t.2 u.2 := by
  obtain ⟨h1, h2⟩ := List.getElem?_eq_some_iff.1 h; obtain ⟨h3, h4⟩ := List.getElem?_eq_some_iff.1 h'; rw [List.drop_eq_getElem_cons h1, List.drop_eq_getElem_cons h3, h2, h4]; rfl
theorem zmk {ts us : List Tm} {k : Nat} (h : us.length ≤ k) (h' : k < ts.length) : zbd (ts.drop k) (us.drop k) = 1 := by
  rw [List.drop_eq_getElem_cons h', List.drop_eq_nil_of_le h]; rfl
theorem zkf {ts us : List Tm} {k : Nat} (h : ts.length ≤ k) (h' : k < us.length) : zbd (ts.drop k) (us.drop k) = -1 := by
  rw [List.drop_eq_getElem_cons h', List.drop_eq_nil_of_le h]; rfl
theorem zmj {ts us : List Tm} {k : Nat} (h : ts.length ≤ k) (h' : us.length ≤ k) : zbd (ts.drop k) (us.drop k) = 0 := by
  rw [List.drop_eq_nil_of_le h, List.drop_eq_nil_of_le h']; rfl
theorem zpp (A B : Option Addr) (n c n' c' : Nat) (ts us : List Tm) (w : World) (h : IsTerms w 0 w.heap.size A n c ts) (h' : IsTerms w 0 w.heap.size B n' c' us) :
    Calls Tryz.prog 118 #[.slice A n c, .slice B n' c', .func (.func 119) #[] #[]] w (zlt (zbd ts us) w) := by
  have hm : n ≤ maxLen := qbv; have a4 : n' ≤ maxLen := by have := h'.2.1; have := h'.2.2.1; omega
  unfold maxLen at hm a4; have H := hid h; clear h; have H' := hid h'; clear h'; go_enter Tryz.func118, Tryz.ntmps118; go_wp2; go_loopw [7, 8, 9, 10, 13] (fun _ _ _ _ i wr => ∃ k : Nat, k ≤ n ∧ k ≤ n' ∧ i = .int .i64 k ∧ zbd (ts.drop k) (us.drop k) = zbd ts us ∧ Below w.heap.size w wr) (fun _ _ _ _ i _ => n - (intOf i).toNat)
  case atStart => exact ⟨0, Nat.zero_le _, Nat.zero_le _, rfl, rfl, Below.refl _ _⟩
  case round =>
    obtain ⟨k, hk, hk', rfl, hd, hb⟩ := hrel; have HD := hid hd; clear hd; by_cases hlt : k < n
    · obtain ⟨p, t, hA, hlo, hhi, hg, c1, c2, c3⟩ := (H.out.below hb (nl _)).at_ hlt
      subst hA; have HG := hid hg; clear hg; by_cases hlt' : k < n'
      · obtain ⟨p', t', a6, a7, a5, a3, c1', c2', c3'⟩ := (H'.out.below hb (nl _)).at_ hlt'
        subst a6; have HG' := hid a3; clear a3; have d1 := zfa c1'; have d2 := zfa c2'; go_wp2_with (go_at_call 119; refine (zmv _ _ _ _ _).mono ?_; rintro e w1 ⟨rfl, hb1⟩; have HB1 := zaa hb (zaa (zbj _ _ _) hb1))
        · have hne : zal t.2 t'.2 ≠ 0 := ne0 qbn
          go_ret; exact ⟨retI (by rw [← HD.out, zhp HG.out HG'.out, if_neg hne]), HB1⟩
        · have heq : zal t.2 t'.2 = 0 := is0 qbn
          go_roundw
          case rel => exact ⟨k + 1, by omega, by omega, by go_num, by rw [← HD.out, zhp HG.out HG'.out, if_pos heq], HB1⟩
          case measure => exact qms
      · have hl : k < ts.length := by have := H.out.1; omega
        have a2 : us.length ≤ k := by have := H'.out.1; omega
        go_wp2; go_ret; exact ⟨retI (by rw [← HD.out, zmk a2 hl]), zaa hb (zac _ _)⟩
    · have hl : ts.length ≤ k := by have := H.out.1; omega
      have hkn : k = n := qaa; by_cases hnn : n < n'
      · have a2 : k < us.length := by have := H'.out.1; omega
        clear hkn; go_wp2; go_ret; exact ⟨retI (by rw [← HD.out, zkf hl a2]), hb⟩
      · have a2 : us.length ≤ k := by have := H'.out.1; omega
        clear hkn; go_wp2; go_ret; exact ⟨retI (by rw [← HD.out, zmj hl a2]), hb⟩
theorem zgm (nm nm' : ByteArray) (A B : Option Addr) (n c n' c' : Nat) (ts us : List Tm) (w : World) (h : IsTerms w 0 w.heap.size A n c ts) (h' : IsTerms w 0 w.heap.size B n' c' us) :
    Calls Tryz.prog 88 #[.agg #[.string nm, .slice A n c], .agg #[.string nm', .slice B n' c']] w (zlt (zaf (nm, ts) (nm', us)) w) := by
  have H := hid h; clear h; have H' := hid h'; clear h'; go_enter Tryz.func88, Tryz.ntmps88
  go_wp2_with (first
    | (go_at_call 117; refine (zpo _ _ _).mono ?_; rintro e w' ⟨rfl, rfl⟩)
    | (go_at_call 118; refine (zpp _ _ _ _ _ _ ts us _ (H.out.up (zbj _ _ _)) (H'.out.up (zbj _ _ _))).mono ?_; rintro e w1 ⟨rfl, hb1⟩))
  · have hne : zal nm nm' ≠ 0 := ne0 qbn
    go_ret; exact ⟨retI (by unfold zaf; rw [if_neg hne]), zbj _ _ _⟩
  · have heq : zal nm nm' = 0 := is0 qbn
    go_ret; exact ⟨retI (by unfold zaf; rw [if_pos heq]), zaa (zbj _ _ _) hb1⟩
end Go.Proofs.YtogonjkklioaaaaGreatDoor
