/-
  Texts of one claim, put together.
-/
import Derived.Test.YtogonjkklioaaaaGreatDoorZq
import Derived.Test.YtogonjkklioaaaaGreatDoorLt2
import Derived.Test.YtogonjkklioaaaaGreatDoorShelf
import Derived.Deep.RegionWith
import Derived.Deep.RegionHeld3
set_option maxRecDepth 100000
set_option maxHeartbeats 8000000
namespace Go.Proofs.YtogonjkklioaaaaGreatDoor
open Go.RowKit
def zal (a b : ByteArray) : Int := Lib.compareBytes a.data.toList b.data.toList
theorem cmp_range : ∀ a b : List UInt8, Lib.compareBytes a b = -1 ∨ Lib.compareBytes a b = 0 ∨ Lib.compareBytes a b = 1
  | [], [] => .inr (.inl rfl)
  | [], _ :: _ => .inl rfl
  | _ :: _, [] => .inr (.inr rfl)
  | a :: l, b :: m => by
    unfold Lib.compareBytes; split
    · exact .inl rfl
    · split
      · exact .inr (.inr rfl)
      · exact cmp_range l m
theorem zmx : ∀ a b : List UInt8, Op.bytesLess a b = decide (Lib.compareBytes a b = -1) ∧ (a == b) = decide (Lib.compareBytes a b = 0)
  | [], [] => ⟨rfl, rfl⟩
  | [], _ :: _ => ⟨rfl, rfl⟩
  | _ :: _, [] => ⟨rfl, rfl⟩
  | a :: l, b :: m => by
    obtain ⟨h1, h2⟩ := zmx l m; by_cases hl : a < b
    · have hne : a ≠ b := fun e => by subst e; exact absurd hl (UInt8.lt_irrefl _)
      constructor
      · simp [Op.bytesLess, Lib.compareBytes, hl]
      · simp [Lib.compareBytes, hl, hne]
    · by_cases hg : b < a
      · have hne : a ≠ b := fun e => by subst e; exact absurd hg (UInt8.lt_irrefl _)
        constructor
        · simp [Op.bytesLess, Lib.compareBytes, hl, hg, hne]
        · simp [Lib.compareBytes, hl, hg, hne]
      · have he : a = b := UInt8.le_antisymm (UInt8.not_lt.1 hg) (UInt8.not_lt.1 hl)
        subst he; constructor
        · simp [Op.bytesLess, Lib.compareBytes, hl, h1]
        · have : (a :: l == a :: m) = (l == m) := qag
          rw [this, h2]; simp [Lib.compareBytes, hl]
theorem retI {a b : Int} (h : a = b) : Ending.returned (.int .i64 a) = .returned (.int .i64 b) := by rw [h]
theorem ZCmp0 {p : Prop} (h : p := by
  have HT := hid (ht.trans h); clear h1 h2 ht h; go_enter Tryz.func128, Tryz.ntmps128; go_wp2; go_ret; exact ⟨retI HT.out.symm, rfl⟩) : p := h
theorem zoq (a b : ByteArray) (w : World) : Calls Tryz.prog 128 #[.string a, .string b] w fun e w' => e = .returned (.int .i64 (zal a b)) ∧ w = w' := by
  have h1 := (zmx a.toList b.toList).1; have h2 := (zmx a.toList b.toList).2; have hr := cmp_range a.toList b.toList; have ht : zal a b = Lib.compareBytes a.toList b.toList := by unfold zal; rw [ByteArray.toList_eq, ByteArray.toList_eq]
  rcases hr with h | h | h
  · have e1 : Op.bytesLess a.toList b.toList = true := by rw [h1, h]; rfl
    exact ZCmp0
  · have e1 : Op.bytesLess a.toList b.toList = false := by rw [h1, h]; rfl
    have e2 : (a.toList == b.toList) = true := by rw [h2, h]; rfl
    exact ZCmp0
  · have e1 : Op.bytesLess a.toList b.toList = false := by rw [h1, h]; rfl
    have e2 : (a.toList == b.toList) = false := by rw [h2, h]; rfl
    exact ZCmp0
theorem zpi (a b : ByteArray) (w : World) : Calls Tryz.prog 117 #[.string a, .string b] w fun e w' => e = .returned (.int .i64 (zal a b)) ∧ w = w' :=
  (Tryz.strings_Compare a b w).mono fun _ _ ⟨he, hw⟩ => ⟨he, hw.symm⟩
def zlr (n : Int) (w : World) (e : Ending) (w' : World) : Prop := e = .returned (.int .i64 n) ∧ Below w.heap.size w w'
theorem zmr (v v' : Bool) (s s' : ByteArray) (w : World) : Calls Tryz.prog 119 #[.agg #[.bool v, .string s], .agg #[.bool v', .string s']] w (zlr (zal s s') w) := by
  go_enter Tryz.func119, Tryz.ntmps119; go_wp2_with (go_at_call 117; refine (zpi _ _ _).mono ?_; rintro e w' ⟨rfl, rfl⟩); go_ret; exact ⟨rfl, zbj _ _ _⟩
theorem ne0 {x : Int} (h : (x != 0) = true) : x ≠ 0 := by simpa using h
theorem is0 {x : Int} (h : (x != 0) = false) : x = 0 := by simpa using h
def zbc : List Tm → List Tm → Int
  | [], [] => 0
  | [], _ :: _ => -1
  | _ :: _, [] => 1
  | x :: l, y :: m => if zal x.2 y.2 = 0 then zbc l m else zal x.2 y.2
def zad (a b : At) : Int := if zal a.1 b.1 = 0 then zbc a.2 b.2 else zal a.1 b.1
theorem zhl {ts us : List Tm} {k : Nat} {t u : Tm} (h : ts[k]? = some t) (h' : us[k]? = some u) : zbc (ts.drop k) (us.drop k) = if zal t.2 u.2 = 0 then zbc (ts.drop (k + 1)) (us.drop (k + 1)) else zal t.2 u.2 := by
  obtain ⟨h1, h2⟩ := List.getElem?_eq_some_iff.1 h; obtain ⟨h3, h4⟩ := List.getElem?_eq_some_iff.1 h'; rw [List.drop_eq_getElem_cons h1, List.drop_eq_getElem_cons h3, h2, h4]; rfl
theorem zmg {ts us : List Tm} {k : Nat} (h : us.length ≤ k) (h' : k < ts.length) : zbc (ts.drop k) (us.drop k) = 1 := by
  rw [List.drop_eq_getElem_cons h', List.drop_eq_nil_of_le h]; rfl
theorem zkc {ts us : List Tm} {k : Nat} (h : ts.length ≤ k) (h' : k < us.length) : zbc (ts.drop k) (us.drop k) = -1 := by
  rw [List.drop_eq_getElem_cons h', List.drop_eq_nil_of_le h]; rfl
theorem zmf {ts us : List Tm} {k : Nat} (h : ts.length ≤ k) (h' : us.length ≤ k) : zbc (ts.drop k) (us.drop k) = 0 := by
  rw [List.drop_eq_nil_of_le h, List.drop_eq_nil_of_le h']; rfl
theorem zpj (A B : Option Addr) (n c n' c' : Nat) (ts us : List Tm) (w : World) (h : IsTerms w 0 w.heap.size A n c ts) (h' : IsTerms w 0 w.heap.size B n' c' us) :
    Calls Tryz.prog 118 #[.slice A n c, .slice B n' c', .func (.func 119) #[] #[]] w (zlr (zbc ts us) w) := by
  have hm : n ≤ maxLen := qbu; have a4 : n' ≤ maxLen := by have := h'.2.1; have := h'.2.2.1; omega
  unfold maxLen at hm a4; have H := hid h; clear h; have H' := hid h'; clear h'; go_enter Tryz.func118, Tryz.ntmps118; go_wp2; go_loopw [7, 8, 9, 10, 13] (fun _ _ _ _ i wr => ∃ k : Nat, k ≤ n ∧ k ≤ n' ∧ i = .int .i64 k ∧ zbc (ts.drop k) (us.drop k) = zbc ts us ∧ Below w.heap.size w wr) (fun _ _ _ _ i _ => n - (intOf i).toNat)
  case atStart => exact ⟨0, Nat.zero_le _, Nat.zero_le _, rfl, rfl, Below.refl _ _⟩
  case round =>
    obtain ⟨k, hk, hk', rfl, hd, hb⟩ := hrel; have HD := hid hd; clear hd; by_cases hlt : k < n
    · obtain ⟨p, t, hA, hlo, hhi, hg, c1, c2, c3⟩ := (H.out.below hb (nl _)).at_ hlt
      subst hA; have HG := hid hg; clear hg; by_cases hlt' : k < n'
      · obtain ⟨p', t', a6, a7, a5, a3, c1', c2', c3'⟩ := (H'.out.below hb (nl _)).at_ hlt'
        subst a6; have HG' := hid a3; clear a3; have d1 := zil c1'; have d2 := zil c2'; go_wp2_with (go_at_call 119; refine (zmr _ _ _ _ _).mono ?_; rintro e w1 ⟨rfl, hb1⟩; have HB1 := zaa hb (zaa (zbj _ _ _) hb1))
        · have hne : zal t.2 t'.2 ≠ 0 := ne0 qbl
          go_ret; exact ⟨retI (by rw [← HD.out, zhl HG.out HG'.out, if_neg hne]), HB1⟩
        · have heq : zal t.2 t'.2 = 0 := is0 qbl
          go_roundw
          case rel => exact ⟨k + 1, by omega, by omega, by go_num, by rw [← HD.out, zhl HG.out HG'.out, if_pos heq], HB1⟩
          case measure => exact qms
      · have hl : k < ts.length := by have := H.out.1; omega
        have a2 : us.length ≤ k := by have := H'.out.1; omega
        go_wp2; go_ret; exact ⟨retI (by rw [← HD.out, zmg a2 hl]), zaa hb (zac _ _)⟩
    · have hl : ts.length ≤ k := by have := H.out.1; omega
      have hkn : k = n := qaa; by_cases hnn : n < n'
      · have a2 : k < us.length := by have := H'.out.1; omega
        clear hkn; go_wp2; go_ret; exact ⟨retI (by rw [← HD.out, zkc hl a2]), hb⟩
      · have a2 : us.length ≤ k := by have := H'.out.1; omega
        clear hkn; go_wp2; go_ret; exact ⟨retI (by rw [← HD.out, zmf hl a2]), hb⟩
theorem zgk (nm nm' : ByteArray) (A B : Option Addr) (n c n' c' : Nat) (ts us : List Tm) (w : World) (h : IsTerms w 0 w.heap.size A n c ts) (h' : IsTerms w 0 w.heap.size B n' c' us) :
    Calls Tryz.prog 88 #[.agg #[.string nm, .slice A n c], .agg #[.string nm', .slice B n' c']] w (zlr (zad (nm, ts) (nm', us)) w) := by
  have H := hid h; clear h; have H' := hid h'; clear h'; go_enter Tryz.func88, Tryz.ntmps88
  go_wp2_with (first
    | (go_at_call 117; refine (zpi _ _ _).mono ?_; rintro e w' ⟨rfl, rfl⟩)
    | (go_at_call 118; refine (zpj _ _ _ _ _ _ ts us _ (H.out.up (zbj _ _ _)) (H'.out.up (zbj _ _ _))).mono ?_; rintro e w1 ⟨rfl, hb1⟩))
  · have hne : zal nm nm' ≠ 0 := ne0 qbl
    go_ret; exact ⟨retI (by unfold zad; rw [if_neg hne]), zbj _ _ _⟩
  · have heq : zal nm nm' = 0 := is0 qbl
    go_ret; exact ⟨retI (by unfold zad; rw [if_pos heq]), zaa (zbj _ _ _) hb1⟩
end Go.Proofs.YtogonjkklioaaaaGreatDoor

namespace Go.Proofs.YtogonjkklioaaaaGreatDoor
open Go
theorem takeV {P : Program} {ops : Array Oper} {Q : Exit → Act → World → Prop} {md : Region.Mode} {S : World → Prop} {i d : Nat} {oi : Oper} {v : Value} {fuel : Nat} {listed : Array Bool} {a : Act} {w : World} {tm : Array Value}
    (hi : ops[i]? = some oi) (hs : Region.noSelect ops = true) (hf : Region.free md ops listed i = true) (hr : (Region.ready md ops listed).contains i = true) (hd : oi.dst = some d)
    (hQ : ∀ c a w, Q (.panic c) (a.put (some d) v) w → Q (.panic c) a w) (hy : YieldsIf P ops S oi v a) (hS : S w) (hput : a.tmps.setIfInBounds d v = tm)
    (h : wpAnyH P md ops Q S fuel (listed.setIfInBounds i true) { tmps := tm, defers := a.defers } w) : wpAnyH P md ops Q S (fuel + 1) listed a w := by
  refine wpAnyH_take hi hs hf hr ?_ hy hS ?_
  · rw [hd]; exact hQ
  · rw [hd]
    subst hput; exact h
theorem tk (i : Nat) (v : Value) {P : Program} {ops : Array Oper} {Q : Exit → Act → World → Prop} {md : Region.Mode} {S : World → Prop} {d : Nat} {oi : Oper} {fuel : Nat} {listed : Array Bool} {a : Act} {w : World} {tm : Array Value}
    (hS : S w) (h : wpAnyH P md ops Q S fuel (listed.setIfInBounds i true) { tmps := tm, defers := a.defers } w)
    (hi : ops[i]? = some oi := by (simp only [List.getElem?_toArray, List.getElem?_cons_succ, List.getElem?_cons_zero]); rfl) (hs : Region.noSelect ops = true := by kernel_rfl) (hf : Region.free md ops listed i = true := by kernel_rfl) (hr : (Region.ready md ops listed).contains i = true := by kernel_rfl) (hd : oi.dst = some d := by rfl)
    (hQ : ∀ c a w, Q (.panic c) (a.put (some d) v) w → Q (.panic c) a w := by exact fun _ _ _ h => h)
    (hy : YieldsIf P ops S oi v a := by refine Or.inl ⟨by rfl, ?_⟩; intro w_ hSw_; (try dsimp only at hSw_); go_simp)
    (hput : a.tmps.setIfInBounds d v = tm := by (simp only [Act.put, List.setIfInBounds_toArray, List.set_cons_succ, List.set_cons_zero]); rfl) : wpAnyH P md ops Q S (fuel + 1) listed a w := takeV hi hs hf hr hd hQ hy hS hput h
theorem rd1 (i : Nat) {P : Program} {ops : Array Oper} {Q : Exit → Act → World → Prop} {md : Region.Mode} {S : World → Prop} {o : Oper} {fuel : Nat} {listed : Array Bool} {a : Act} {w : World}
    (h : ∀ K' : Act → World → Prop, Shut (∀ a w, S w → (S w → wpAnyH P md ops Q S fuel (listed.setIfInBounds i true) a w) → K' a w) → Oper.wp P o a w K' Q)
    (ho : ops[i]? = some o := by (simp only [List.getElem?_toArray, List.getElem?_cons_succ, List.getElem?_cons_zero]); rfl) (hr : Region.ready md ops listed = [i] := by kernel_rfl) (hw : Region.wanted o (yielded ops a.tmps) = true := by rfl) : wpAnyH P md ops Q S (fuel + 1) listed a w :=
  wpAnyH_ready hr qag (AllReadyH.cons ho (fun K hK => by rw [if_pos hw]; exact h K hK) AllReadyH.nil)
theorem sk (i : Nat) {P : Program} {ops : Array Oper} {Q : Exit → Act → World → Prop} {md : Region.Mode} {S : World → Prop} {d : Nat} {oi : Oper} {fuel : Nat} {listed : Array Bool} {a : Act} {w : World} {tm : Array Value}
    (hS : S w) (h : wpAnyH P md ops Q S fuel (listed.setIfInBounds i true) { tmps := tm, defers := a.defers } w)
    (hi : ops[i]? = some oi := by (simp only [List.getElem?_toArray, List.getElem?_cons_succ, List.getElem?_cons_zero]); rfl) (hs : Region.noSelect ops = true := by kernel_rfl) (hf : Region.free md ops listed i = true := by kernel_rfl) (hr : (Region.ready md ops listed).contains i = true := by kernel_rfl) (hd : oi.dst = some d := by rfl)
    (hQ : ∀ c a w, Q (.panic c) (a.put (some d) undef) w → Q (.panic c) a w := by exact fun _ _ _ h => h)
    (hw : Region.wanted oi (yielded ops a.tmps) = false := by rfl)
    (hput : a.tmps.setIfInBounds d undef = tm := by (simp only [Act.put, List.setIfInBounds_toArray, List.set_cons_succ, List.set_cons_zero]); rfl) : wpAnyH P md ops Q S (fuel + 1) listed a w := takeV hi hs hf hr hd hQ (Or.inr ⟨hw, rfl⟩) hS hput h
theorem rd0 (i : Nat) {P : Program} {ops : Array Oper} {Q : Exit → Act → World → Prop} {md : Region.Mode} {S : World → Prop} {o : Oper} {fuel : Nat} {listed : Array Bool} {a : Act} {w : World} (h : ∀ K' : Act → World → Prop, Shut (∀ a w, S w → (S w → wpAnyH P md ops Q S fuel (listed.setIfInBounds i true) a w) → K' a w) → if Region.wanted o (yielded ops a.tmps) = true then Oper.wp P o a w K' Q else K' (a.put o.dst undef) w)
    (ho : ops[i]? = some o := by (simp only [List.getElem?_toArray, List.getElem?_cons_succ, List.getElem?_cons_zero]); rfl) (hr : Region.ready md ops listed = [i] := by kernel_rfl) : wpAnyH P md ops Q S (fuel + 1) listed a w := wpAnyH_ready hr qag (AllReadyH.cons ho h AllReadyH.nil)
theorem rd2 (i k : Nat) {P : Program} {ops : Array Oper} {Q : Exit → Act → World → Prop} {md : Region.Mode} {S : World → Prop} {o p : Oper} {fuel : Nat} {listed : Array Bool} {a : Act} {w : World} (h : ∀ K' : Act → World → Prop, Shut (∀ a w, S w → (S w → wpAnyH P md ops Q S fuel (listed.setIfInBounds i true) a w) → K' a w) → if Region.wanted o (yielded ops a.tmps) = true then Oper.wp P o a w K' Q else K' (a.put o.dst undef) w)
    (h' : ∀ K' : Act → World → Prop, Shut (∀ a w, S w → (S w → wpAnyH P md ops Q S fuel (listed.setIfInBounds k true) a w) → K' a w) → if Region.wanted p (yielded ops a.tmps) = true then Oper.wp P p a w K' Q else K' (a.put p.dst undef) w)
    (ho : ops[i]? = some o := by (simp only [List.getElem?_toArray, List.getElem?_cons_succ, List.getElem?_cons_zero]); rfl) (hp : ops[k]? = some p := by (simp only [List.getElem?_toArray, List.getElem?_cons_succ, List.getElem?_cons_zero]); rfl) (hr : Region.ready md ops listed = [i, k] := by kernel_rfl) : wpAnyH P md ops Q S (fuel + 1) listed a w := wpAnyH_ready hr qag (AllReadyH.cons ho h (AllReadyH.cons hp h' AllReadyH.nil))
end Go.Proofs.YtogonjkklioaaaaGreatDoor
