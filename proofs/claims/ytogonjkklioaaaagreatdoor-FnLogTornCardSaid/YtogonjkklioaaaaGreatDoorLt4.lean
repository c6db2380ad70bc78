/-
  Texts of one claim, put together.
-/
import Derived.Test.YtogonjkklioaaaaGreatDoorZq
import Derived.Test.YtogonjkklioaaaaGreatDoorLt3
import Derived.Deep.QuietTactic
import Derived.BigQuiet
import Derived.Test.YtogonjkklioaaaaGreatDoorLt2
import Derived.Deep.RegionHeld3
set_option maxRecDepth 100000
set_option maxHeartbeats 8000000
namespace Go.Proofs.YtogonjkklioaaaaGreatDoor
open Go.RowKit
theorem l1Texts_same (a b : ByteArray) (w : World) : Calls Tryz.prog 128 #[.string a, .string b] w fun e w' => e = .returned (.int .i64 (zal a b)) ∧ w' = w :=
  (zoq a b w).mono fun _ _ ⟨he, hw⟩ => ⟨he, hw.symm⟩
def Known (a b : At) (k : Nat) (q : Int) : Prop := zad a b = if q = 0 then zbc (a.2.drop k) (b.2.drop k) else q
theorem Known.start (a b : At) : Known a b 0 (zal a.1 b.1) := rfl
theorem Known.step {a b : At} {k : Nat} {q : Int} {t u : Tm} (h : Known a b k q) (hq : q = 0) (ht : a.2[k]? = some t) (hu : b.2[k]? = some u) : Known a b (k + 1) (zal t.2 u.2) := by
  unfold Known at *; rw [h, if_pos hq, zhl ht hu]
theorem Known.found {a b : At} {k : Nat} {q : Int} (h : Known a b k q) (hq : q ≠ 0) : q = zad a b := by
  unfold Known at h; rw [h, if_neg hq]
theorem Known.left {a b : At} {k : Nat} {q : Int} (h : Known a b k q) (hq : q = 0) (h1 : b.2.length ≤ k) (h2 : k < a.2.length) : 1 = zad a b := by
  unfold Known at h; rw [h, if_pos hq, zmg h1 h2]
theorem Known.right {a b : At} {k : Nat} {q : Int} (h : Known a b k q) (hq : q = 0) (h1 : a.2.length ≤ k) (h2 : k < b.2.length) : -1 = zad a b := by
  unfold Known at h; rw [h, if_pos hq, zkc h1 h2]
theorem Known.same {a b : At} {k : Nat} {q : Int} (h : Known a b k q) (hq : q = 0) (h1 : a.2.length ≤ k) (h2 : b.2.length ≤ k) : 0 = zad a b := by
  unfold Known at h; rw [h, if_pos hq, zmf h1 h2]
theorem belowDrewN {B : Nat} {a w : World} (h : Below B a w) (n : Nat) : Below B a (w.drewN n) := ⟨h.os, h.tape, h.output, h.size, h.block⟩
theorem zfs (nm nm' : ByteArray) (A B : Option Addr) (n c n' c' : Nat) (ts us : List Tm) (w : World) (h : IsTerms w 0 w.heap.size A n c ts) (h' : IsTerms w 0 w.heap.size B n' c' us) :
    Calls Tryz.prog 100 #[.agg #[.string nm, .slice A n c], .agg #[.string nm', .slice B n' c']] w (zlr (zad (nm, ts) (nm', us)) w) := by
  have hm : n ≤ maxLen := qbu; have a5 : n' ≤ maxLen := by have := h'.2.1; have := h'.2.2.1; omega
  unfold maxLen at hm a5; have hl1 := h.1; have hl2 := h'.1; have L1 := hid hl1; clear hl1; have L2 := hid hl2; clear hl2; have H := hid h; clear h; have H' := hid h'; clear h'; have K0 := hid (Known.start (nm, ts) (nm', us)); have hw0 := zbj w (.cells #[.string nm, .slice A n c] 51) (.cells #[.string nm', .slice B n' c'] 51); go_enter Tryz.func100, Tryz.ntmps100; go_wp2_with (go_at_call 128; refine (zoq _ _ _).mono ?_; rintro e w' ⟨rfl, rfl⟩)
  go_loopw [5, 6] (fun x i wr => ∃ (k : Nat) (q : Int), k ≤ n ∧ k ≤ n' ∧ i = .int .i64 k ∧ x = .int .i64 q ∧ Known (nm, ts) (nm', us) k q ∧ Below ((w.alloc (.cells #[.string nm, .slice A n c] 51)).alloc (.cells #[.string nm', .slice B n' c'] 51)).heap.size ((w.alloc (.cells #[.string nm, .slice A n c] 51)).alloc (.cells #[.string nm', .slice B n' c'] 51)) wr) (fun _ i _ => n - (intOf i).toNat)
  case atStart => exact ⟨0, _, Nat.zero_le _, Nat.zero_le _, rfl, rfl, K0.out, Below.refl _ _⟩
  case round =>
    obtain ⟨k, q, hk, hk', rfl, rfl, hd, hb⟩ := hrel; have HD := hid hd; clear hd; obtain ⟨hc, hf⟩ := zht hb; by_cases hq : q = 0
    · have a4 : (q == 0) = true := by rw [beq_iff_eq]; exact hq
      have a8 : (q != 0) = false := by rw [hq]; rfl
      have HQ := hid hq; clear hq; by_cases hlt : k < n
      · obtain ⟨p, t, hA, hlo, hhi, hg, c1, c2, c3⟩ := ((H.out.up hw0).below hb (nl _)).at_ hlt
        subst hA; have HG := hid hg; clear hg; by_cases hlt' : k < n'
        · obtain ⟨p', t', a7, a9, a6, a3, c1', c2', c3'⟩ := ((H'.out.up hw0).below hb (nl _)).at_ hlt'
          subst a7; have HG' := hid a3; clear a3; go_wp2_with fail; go_quiet ((go_at_call 128; exact Calls.quiet_of_same (l1Texts_same _ _ _))); go_wp2; go_roundw
          case rel => exact ⟨k + 1, _, by omega, by omega, by go_num, rfl, HD.out.step HQ.out HG.out HG'.out, belowDrewN hb _⟩
          case measure => exact qms
        · have a2 : us.length ≤ k := by have := L2.out; omega
          have hl : k < ts.length := by have := L1.out; omega
          go_wp2; go_ret; exact ⟨retI (HD.out.left HQ.out a2 hl), zaa hw0 hb⟩
      · have hl : ts.length ≤ k := by have := L1.out; omega
        by_cases hnn : n < n'
        · have a2 : k < us.length := by have := L2.out; omega
          go_wp2; go_ret; exact ⟨retI (HD.out.right HQ.out hl a2), zaa hw0 hb⟩
        · have a2 : us.length ≤ k := by have := L2.out; omega
          go_wp2; go_ret; exact ⟨retI (HD.out.same HQ.out hl a2), zaa hw0 hb⟩
    · have a4 : (q == 0) = false := by rw [beq_eq_false_iff_ne]; exact hq
      have a8 : (q != 0) = true := by rw [bne_iff_ne]; exact hq
      have HQ := hid hq; clear hq; go_wp2
      all_goals (go_ret; exact ⟨retI (HD.out.found HQ.out), zaa hw0 hb⟩)
def zfm (ts : List Tm) : Bool := ts.all fun t => !t.1
def zca (a : At) : Bool := zfm a.2 && zav a
theorem wordsB_snoc {ts : List Tm} {k : Nat} {t : Tm} (h : ts[k]? = some t) (hr : zfm (ts.take k) = true) (ht : t.1 = false) : zfm (ts.take (k + 1)) = true := by
  obtain ⟨h1, h2⟩ := List.getElem?_eq_some_iff.1 h; unfold zfm at *; rw [List.take_succ_eq_append_getElem h1, List.all_append, hr, h2]; simp [ht]
theorem wordsB_no {ts : List Tm} {k : Nat} {t : Tm} (h : ts[k]? = some t) (ht : t.1 = true) : zfm ts = false := by
  unfold zfm; rw [List.all_eq_false]; exact ⟨t, List.mem_of_getElem? h, by simp [ht]⟩
theorem wordsB_all {ts : List Tm} {k n : Nat} (h : ts.length = n) (hk : ¬ k < n) (hr : zfm (ts.take k) = true) : zfm ts = true := by
  rwa [List.take_of_length_le qaa] at hr
theorem zfa (nm : ByteArray) (A : Option Addr) (n c : Nat) (ts : List Tm) (w : World) (hs : nm.size ≤ maxLen) (h : IsTerms w 0 w.heap.size A n c ts) :
    Calls Tryz.prog 99 #[.agg #[.string nm, .slice A n c]] w (zas (zca (nm, ts)) w) := by
  have hm : n ≤ maxLen := qbu; unfold maxLen at hm; have L := hid h.1; have H := hid h; clear h; go_enter Tryz.func99, Tryz.ntmps99; go_wp2; have hw0 := zac w (.cells #[.string nm, .slice A n c] 51); go_loopw [3] (fun i wr => ∃ k : Nat, k ≤ n ∧ i = .int .i64 k ∧ zfm (ts.take k) = true ∧ Below (w.alloc (.cells #[.string nm, .slice A n c] 51)).heap.size (w.alloc (.cells #[.string nm, .slice A n c] 51)) wr) (fun i _ => n - (intOf i).toNat)
  case atStart => exact ⟨0, Nat.zero_le _, rfl, rfl, Below.refl _ _⟩
  case round =>
    obtain ⟨k, hk, rfl, hd, hb⟩ := hrel; have HD := hid hd; clear hd; obtain ⟨hc, hf⟩ := zht hb; by_cases hlt : k < n
    · obtain ⟨p, ⟨v, s⟩, hA, hlo, hhi, hg, c1, c2, c3⟩ := ((H.out.up hw0).below hb (nl _)).at_ hlt
      subst hA; have HG := hid hg; clear hg; cases v
      · go_wp2
        go_roundw
        case rel => exact ⟨k + 1, by omega, by go_num, wordsB_snoc HG.out HD.out rfl, hb⟩
        case measure => exact qms
      · go_wp2
        go_ret; exact ⟨zdf (by unfold zca; rw [wordsB_no HG.out rfl]; rfl), zaa hw0 hb⟩
    · have E := hid (show zca (nm, ts) = zav (nm, ts) by unfold zca; rw [wordsB_all L.out hlt HD.out, Bool.true_and])
      go_wp2_with fail; refine (zdr _ _ _ _ ts _ hs ((H.out.up hw0).up hb)).mono ?_; rintro e w1 ⟨rfl, hb1⟩; go_wp2; go_ret; exact ⟨zdf E.out.symm, zaa hw0 (zaa hb hb1)⟩
def zaj : List At → Bool
  | a :: b :: l => decide (zad a b < 0) && zaj (b :: l)
  | _ => true
def zae (m : Nat) (xs : List At) : Bool := (xs.all zca && zaj xs) && decide (xs.length ≤ m)
theorem zis : ∀ {xs : List At} {k : Nat} {a b : At}, xs[k]? = some a → xs[k + 1]? = some b → zaj (xs.take (k + 1)) = true → zad a b < 0 → zaj (xs.take (k + 2)) = true
  | [], _, _, _, h, _, _, _ => by simp at h
  | [_], _, _, _, _, h, _, _ => by simp at h
  | x :: y :: l, 0, a, b, h, h', _, hc => by
    simp at h h'; subst h; subst h'
    simp [zaj, hc]
  | x :: y :: l, k + 1, a, b, h, h', hr, hc => by
    have hr' : (decide (zad x y < 0) && zaj ((y :: l).take (k + 1))) = true := by
      have : (x :: y :: l).take (k + 1 + 1) = x :: y :: l.take k := rfl; rw [this] at hr; exact hr
    rw [Bool.and_eq_true] at hr'; have ih := zis (xs := y :: l) (k := k) (a := a) (b := b) qbi (by simpa using h') hr'.2 hc; have e : (x :: y :: l).take (k + 1 + 2) = x :: y :: l.take (k + 1) := rfl; rw [e]; show (decide (zad x y < 0) && zaj ((y :: l).take (k + 2))) = true; rw [hr'.1, ih]; rfl
theorem znq : ∀ {xs : List At} {k : Nat} {a b : At}, xs[k]? = some a → xs[k + 1]? = some b → ¬ zad a b < 0 → zaj xs = false
  | [], _, _, _, h, _, _ => by simp at h
  | [_], _, _, _, _, h, _ => by simp at h
  | x :: y :: l, 0, a, b, h, h', hc => by
    simp at h h'; subst h; subst h'
    simp [zaj, hc]
  | x :: y :: l, k + 1, a, b, h, h', hc => by
    have ih := znq (xs := y :: l) (k := k) (a := a) (b := b) qbi (by simpa using h') hc; simp [zaj, ih]
theorem zkd {α : Type} {P : α → Bool} {xs : List α} {k : Nat} {q : α} (h : xs[k]? = some q) (hr : (xs.take k).all P = true) (hq : P q = true) : (xs.take (k + 1)).all P = true := by
  obtain ⟨h1, h2⟩ := List.getElem?_eq_some_iff.1 h; rw [List.take_succ_eq_append_getElem h1, List.all_append, hr, h2]; simp [hq]
theorem allB_no {α : Type} {P : α → Bool} {xs : List α} {k : Nat} {q : α} (h : xs[k]? = some q) (hq : P q = false) : xs.all P = false := by
  rw [List.all_eq_false]; exact ⟨q, List.mem_of_getElem? h, by simp [hq]⟩
theorem factsB_no {m : Nat} {xs : List At} {k : Nat} {q : At} (h : xs[k]? = some q) (hq : zca q = false) : zae m xs = false := by
  unfold zae; rw [allB_no h hq]; rfl
theorem factsB_order {m : Nat} {xs : List At} {k : Nat} {a b : At} (h : xs[k]? = some a) (h' : xs[k + 1]? = some b) (hc : 0 ≤ zad a b) : zae m xs = false := by
  unfold zae; rw [znq h h' qaa]; simp
theorem factsB_long {m : Nat} {xs : List At} (h : m < xs.length) : zae m xs = false := by
  unfold zae; rw [decide_eq_false qaa]; simp
theorem factsB_end {m n k : Nat} {xs : List At} (hl : xs.length = n) (hk : ¬ k < n) (h : (xs.take k).all zca = true) (h' : zaj (xs.take k) = true) : zae m xs = decide (n ≤ m) := by
  rw [List.take_of_length_le qaa] at h h'; unfold zae; rw [h, h', hl]; rfl
theorem rises_next {xs : List At} {k : Nat} (h : zaj (xs.take k) = true) (hk : k = 0) : zaj (xs.take (k + 1)) = true := by
  subst hk; cases xs <;> rfl
theorem l3Ok_any (A : Option Addr) (n c : Nat) (xs : List At) (m : Nat) (w : World) (h : IsAtoms w 0 w.heap.size A n c xs) :
    Calls Tryz.prog 63 #[.slice A n c, .int .i64 (m : Int)] w (zas (zae m xs) w) := by
  have hn := h.len; unfold maxLen at hn; have L := hid h.1; have H := hid h; clear h; go_enter Tryz.func63, Tryz.ntmps63; go_wp2; go_loopw [5] (fun i wr => ∃ k : Nat, k ≤ n ∧ i = .int .i64 k ∧ (xs.take k).all zca = true ∧ zaj (xs.take k) = true ∧ Below w.heap.size w wr) (fun i _ => n - (intOf i).toNat)
  case atStart => exact ⟨0, Nat.zero_le _, rfl, rfl, rfl, Below.refl _ _⟩
  case round =>
    obtain ⟨k, hk, rfl, hd, hr, hb⟩ := hrel; have HD := hid hd; have HR := hid hr; clear hd hr; by_cases hlt : k < n
    · obtain ⟨p, q, hA, hlo, hhi, hg, hE⟩ := (H.out.below AtomE.stays hb (nl _)).at_ hlt
      obtain ⟨A', n', c', d1, d3, d4, d5⟩ := hE.out; clear hE; have HG := hid hg; clear hg; have HT := hid (d5.keep (w' := wr.drew) (lo' := 0) (hi' := wr.drew.heap.size) (fun _ _ _ => rfl) (nl _) hb.size); clear d5; have hbd := hb.drew; have x1 : wr.drew.cell? (p.add (k * 2)) = some (.string q.1) := d1; have x2 : wr.drew.cell? ⟨(p.add (k * 2)).block, (p.add (k * 2)).off + 1, none⟩ = some (.slice A' n' c') := d4; cases hF : zca q
      · have a2 : zca (q.1, q.2) = false := hF
        have cG : Calls Tryz.prog 99 #[.agg #[.string q.1, .slice A' n' c']] wr.drew (zas false wr.drew) := by
          have := zfa q.1 A' n' c' q.2 _ d3 HT.out
          rwa [a2] at this
        subst hA; have E := hid (factsB_no (m := m) HG.out hF); clear hF; go_wp2_with fail; refine wp_region_held_drew (S := fun W => W.cell? (p.add (k * 2)) = some (.string q.1) ∧ W.cell? ⟨(p.add (k * 2)).block, (p.add (k * 2)).off + 1, none⟩ = some (.slice A' n' c')) qab ⟨x1, x2⟩ ?_; intro hS_; refine tk 0 (.slice (some p) n c) hS_ ?_; refine tk 1 (.int .i64 (k : Int)) hS_ ?_; refine tk 2 (.pointer (some (p.add (k * 2)))) hS_ ?_; refine tk 3 (.agg #[.string q.1, .slice A' n' c']) hS_ ?_; refine rd1 4 fun K_ hK_ => ?_; go_simp; go_at_call 99; refine (cG).mono ?_; rintro e w1 ⟨rfl, hb1⟩
        have y1 := (hb1.cell (p := p.add (k * 2)) qas).trans d1; have y2 := (hb1.cell (p := ⟨(p.add (k * 2)).block, (p.add (k * 2)).off + 1, none⟩) qas).trans d4; refine hK_.out _ _ ⟨y1, y2⟩ (fun hS2_ => ?_); clear hK_ hS_; have hS_ := hS2_; clear hS2_; refine tk 5 (.bool true) hS_ ?_; refine tk 6 (.bool true) hS_ ?_; refine sk 7 hS_ ?_; refine sk 8 hS_ ?_; refine sk 9 hS_ ?_; refine sk 10 hS_ ?_; refine sk 11 hS_ ?_; refine sk 12 hS_ ?_; refine sk 13 hS_ ?_; refine sk 14 hS_ ?_; refine sk 15 hS_ ?_; refine sk 16 hS_ ?_; refine sk 17 hS_ ?_; refine sk 18 hS_ ?_; refine sk 19 hS_ ?_; refine sk 20 hS_ ?_
        refine sk 21 hS_ ?_; refine tk 22 (.bool true) hS_ ?_; refine wpAnyH_done qab ?_ _; go_wp2; go_ret; exact ⟨zdf E.out.symm, zaa hbd hb1⟩
      · have a2 : zca (q.1, q.2) = true := hF
        have cG : Calls Tryz.prog 99 #[.agg #[.string q.1, .slice A' n' c']] wr.drew (zas true wr.drew) := by
          have := zfa q.1 A' n' c' q.2 _ d3 HT.out
          rwa [a2] at this
        have EF := hid hF; clear hF; by_cases hk0 : k = 0
        · have a9 : ¬ (0 : Int) < (k : Int) := qaa
          have KK := hid hk0; clear hk0; subst hA; go_wp2_with fail; refine wp_region_held_drew (S := fun W => W.cell? (p.add (k * 2)) = some (.string q.1) ∧ W.cell? ⟨(p.add (k * 2)).block, (p.add (k * 2)).off + 1, none⟩ = some (.slice A' n' c')) qab ⟨x1, x2⟩ ?_; intro hS_; refine tk 0 (.slice (some p) n c) hS_ ?_; refine tk 1 (.int .i64 (k : Int)) hS_ ?_; refine tk 2 (.pointer (some (p.add (k * 2)))) hS_ ?_; refine tk 3 (.agg #[.string q.1, .slice A' n' c']) hS_ ?_; refine rd1 4 fun K_ hK_ => ?_; go_simp; go_at_call 99; refine (cG).mono ?_; rintro e w1 ⟨rfl, hb1⟩; have y1 := (hb1.cell (p := p.add (k * 2)) qas).trans d1
          have y2 := (hb1.cell (p := ⟨(p.add (k * 2)).block, (p.add (k * 2)).off + 1, none⟩) qas).trans d4; refine hK_.out _ _ ⟨y1, y2⟩ (fun hS2_ => ?_); clear hK_ hS_; have hS_ := hS2_; clear hS2_; refine tk 5 (.bool false) hS_ ?_; refine tk 6 (.bool false) hS_ ?_; refine tk 7 (.int .i64 (k : Int)) hS_ ?_; refine tk 8 (.bool false) hS_ ?_ (hy := Or.inl ⟨by rfl, by intro w_ hSw_; (try dsimp only at hSw_); go_simp; exact KK.out⟩); refine tk 9 (.bool false) hS_ ?_; refine sk 10 hS_ ?_; refine sk 11 hS_ ?_; refine sk 12 hS_ ?_; refine sk 13 hS_ ?_; refine sk 14 hS_ ?_; refine sk 15 hS_ ?_; refine sk 16 hS_ ?_
          refine sk 17 hS_ ?_; refine sk 18 hS_ ?_; refine sk 19 hS_ ?_; refine sk 20 hS_ ?_; refine tk 21 (.bool false) hS_ ?_; refine tk 22 (.bool false) hS_ ?_; refine wpAnyH_done qab ?_ _; go_wp2; go_roundw
          case rel => exact ⟨k + 1, by omega, by go_num, zkd HG.out HD.out EF.out, rises_next HR.out KK.out, zaa hbd hb1⟩
          case measure => exact qms
        · obtain ⟨j, hj⟩ : ∃ j, k = j + 1 := ⟨k - 1, by omega⟩
          have a7 : j < n := qaa; have a9 : (0 : Int) < (k : Int) := qaa; have a8 : (k : Int) - 1 = (j : Int) := qaa; have HJ := hid hj; clear hj hk0; obtain ⟨p', q', a3, b5, b4, a6, a4⟩ := (H.out.below AtomE.stays hb (nl _)).at_ a7; obtain ⟨A2, n2, c2, f1, f3, f4, f5⟩ := a4.out; clear a4; obtain rfl : p = p' := by rw [hA] at a3; injection a3
          clear a3; subst hA; have HG' := hid a6; clear a6; have a5 := hid (f5.keep (w' := wr.drew) (lo' := 0) (hi' := wr.drew.heap.size) (fun _ _ _ => rfl) (nl _) hb.size); clear f5; have x3 : wr.drew.cell? (p.add (j * 2)) = some (.string q'.1) := f1; have x4 : wr.drew.cell? ⟨(p.add (j * 2)).block, (p.add (j * 2)).off + 1, none⟩ = some (.slice A2 n2 c2) := f4; by_cases hc : 0 ≤ zad q' q
          · have b3 : 0 ≤ zad (q'.1, q'.2) (q.1, q.2) := hc
            have E := hid (factsB_order (m := m) (a := q') (b := q) HG'.out (by rw [← HJ.out]; exact HG.out) hc); clear hc; go_wp2_with fail; refine wp_region_held_drew (S := fun W => (W.cell? (p.add (k * 2)) = some (.string q.1) ∧ W.cell? ⟨(p.add (k * 2)).block, (p.add (k * 2)).off + 1, none⟩ = some (.slice A' n' c')) ∧ W.cell? (p.add (j * 2)) = some (.string q'.1) ∧ W.cell? ⟨(p.add (j * 2)).block, (p.add (j * 2)).off + 1, none⟩ = some (.slice A2 n2 c2)) qab ⟨⟨x1, x2⟩, x3, x4⟩ ?_; intro hS_; refine tk 0 (.slice (some p) n c) hS_ ?_; refine tk 1 (.int .i64 (k : Int)) hS_ ?_; refine tk 2 (.pointer (some (p.add (k * 2)))) hS_ ?_
            refine tk 3 (.agg #[.string q.1, .slice A' n' c']) hS_ ?_; refine rd1 4 fun K_ hK_ => ?_; go_simp; go_at_call 99; refine (cG).mono ?_; rintro e w1 ⟨rfl, hb1⟩; have y1 := (hb1.cell (p := p.add (k * 2)) qas).trans d1; have y2 := (hb1.cell (p := ⟨(p.add (k * 2)).block, (p.add (k * 2)).off + 1, none⟩) qas).trans d4; have y3 := (hb1.cell (p := p.add (j * 2)) qas).trans f1; have y4 := (hb1.cell (p := ⟨(p.add (j * 2)).block, (p.add (j * 2)).off + 1, none⟩) qas).trans f4; have u1 := HT.out.up hb1; have u2 := a5.out.up hb1; refine hK_.out _ _ ⟨⟨y1, y2⟩, y3, y4⟩ (fun hS2_ => ?_)
            clear hK_ hS_; have hS_ := hS2_; clear hS2_; refine tk 5 (.bool false) hS_ ?_; refine tk 6 (.bool false) hS_ ?_; refine tk 7 (.int .i64 (k : Int)) hS_ ?_; refine tk 8 (.bool true) hS_ ?_ (hy := Or.inl ⟨by rfl, by intro w_ hSw_; (try dsimp only at hSw_); go_simp; omega⟩); refine tk 9 (.bool true) hS_ ?_; refine tk 10 (.slice (some p) n c) hS_ ?_; refine tk 11 (.int .i64 (k : Int)) hS_ ?_; refine tk 12 (.int .i64 (j : Int)) hS_ ?_ (hy := Or.inl ⟨by rfl, by intro w_ hSw_; (try dsimp only at hSw_); go_simp; (rw [IntKind.wrap_i64]; omega)⟩); refine tk 13 (.pointer (some (p.add (j * 2)))) hS_ ?_; refine tk 14 (.agg #[.string q'.1, .slice A2 n2 c2]) hS_ ?_
            refine tk 15 (.slice (some p) n c) hS_ ?_; refine tk 16 (.int .i64 (k : Int)) hS_ ?_; refine tk 17 (.pointer (some (p.add (k * 2)))) hS_ ?_; refine tk 18 (.agg #[.string q.1, .slice A' n' c']) hS_ ?_; refine rd1 19 fun K_ hK_ => ?_; go_simp; go_at_call 100; refine (zfs q'.1 q.1 A2 A' n2 c2 n' c' q'.2 q.2 _ u2 u1).mono ?_; rintro e w2 ⟨rfl, hb2⟩; have z1 := (hb2.cell (p := p.add (k * 2)) qau).trans y1; have z2 := (hb2.cell (p := ⟨(p.add (k * 2)).block, (p.add (k * 2)).off + 1, none⟩) qau).trans y2; have z3 := (hb2.cell (p := p.add (j * 2)) qau).trans y3; have z4 := (hb2.cell (p := ⟨(p.add (j * 2)).block, (p.add (j * 2)).off + 1, none⟩) qau).trans y4
            refine hK_.out _ _ ⟨⟨z1, z2⟩, z3, z4⟩ (fun hS2_ => ?_); clear hK_ hS_; have hS_ := hS2_; clear hS2_; refine tk 20 (.bool true) hS_ ?_; refine tk 21 (.bool true) hS_ ?_; refine tk 22 (.bool true) hS_ ?_; refine wpAnyH_done qab ?_ _; go_wp2; go_ret; exact ⟨zdf E.out.symm, zaa hbd (zaa hb1 hb2)⟩
          · have b3 : ¬ 0 ≤ zad (q'.1, q'.2) (q.1, q.2) := hc
            have E := hid (show zaj (xs.take (k + 1)) = true by
              have h1 := HG.out; have h2 := HR.out; rw [HJ.out] at h1 h2 ⊢; exact zis (a := q') (b := q) HG'.out h1 h2 qaa)
            clear hc; go_wp2_with fail; refine wp_region_held_drew (S := fun W => (W.cell? (p.add (k * 2)) = some (.string q.1) ∧ W.cell? ⟨(p.add (k * 2)).block, (p.add (k * 2)).off + 1, none⟩ = some (.slice A' n' c')) ∧ W.cell? (p.add (j * 2)) = some (.string q'.1) ∧ W.cell? ⟨(p.add (j * 2)).block, (p.add (j * 2)).off + 1, none⟩ = some (.slice A2 n2 c2)) qab ⟨⟨x1, x2⟩, x3, x4⟩ ?_; intro hS_; refine tk 0 (.slice (some p) n c) hS_ ?_; refine tk 1 (.int .i64 (k : Int)) hS_ ?_; refine tk 2 (.pointer (some (p.add (k * 2)))) hS_ ?_; refine tk 3 (.agg #[.string q.1, .slice A' n' c']) hS_ ?_; refine rd1 4 fun K_ hK_ => ?_
            go_simp; go_at_call 99; refine (cG).mono ?_; rintro e w1 ⟨rfl, hb1⟩; have y1 := (hb1.cell (p := p.add (k * 2)) qas).trans d1; have y2 := (hb1.cell (p := ⟨(p.add (k * 2)).block, (p.add (k * 2)).off + 1, none⟩) qas).trans d4; have y3 := (hb1.cell (p := p.add (j * 2)) qas).trans f1; have y4 := (hb1.cell (p := ⟨(p.add (j * 2)).block, (p.add (j * 2)).off + 1, none⟩) qas).trans f4; have u1 := HT.out.up hb1; have u2 := a5.out.up hb1; refine hK_.out _ _ ⟨⟨y1, y2⟩, y3, y4⟩ (fun hS2_ => ?_); clear hK_ hS_; have hS_ := hS2_; clear hS2_; refine tk 5 (.bool false) hS_ ?_
            refine tk 6 (.bool false) hS_ ?_; refine tk 7 (.int .i64 (k : Int)) hS_ ?_; refine tk 8 (.bool true) hS_ ?_ (hy := Or.inl ⟨by rfl, by intro w_ hSw_; (try dsimp only at hSw_); go_simp; omega⟩); refine tk 9 (.bool true) hS_ ?_; refine tk 10 (.slice (some p) n c) hS_ ?_; refine tk 11 (.int .i64 (k : Int)) hS_ ?_; refine tk 12 (.int .i64 (j : Int)) hS_ ?_ (hy := Or.inl ⟨by rfl, by intro w_ hSw_; (try dsimp only at hSw_); go_simp; (rw [IntKind.wrap_i64]; omega)⟩); refine tk 13 (.pointer (some (p.add (j * 2)))) hS_ ?_; refine tk 14 (.agg #[.string q'.1, .slice A2 n2 c2]) hS_ ?_; refine tk 15 (.slice (some p) n c) hS_ ?_
            refine tk 16 (.int .i64 (k : Int)) hS_ ?_; refine tk 17 (.pointer (some (p.add (k * 2)))) hS_ ?_; refine tk 18 (.agg #[.string q.1, .slice A' n' c']) hS_ ?_; refine rd1 19 fun K_ hK_ => ?_; go_simp; go_at_call 100; refine (zfs q'.1 q.1 A2 A' n2 c2 n' c' q'.2 q.2 _ u2 u1).mono ?_; rintro e w2 ⟨rfl, hb2⟩; have z1 := (hb2.cell (p := p.add (k * 2)) qau).trans y1; have z2 := (hb2.cell (p := ⟨(p.add (k * 2)).block, (p.add (k * 2)).off + 1, none⟩) qau).trans y2; have z3 := (hb2.cell (p := p.add (j * 2)) qau).trans y3; have z4 := (hb2.cell (p := ⟨(p.add (j * 2)).block, (p.add (j * 2)).off + 1, none⟩) qau).trans y4
            refine hK_.out _ _ ⟨⟨z1, z2⟩, z3, z4⟩ (fun hS2_ => ?_); clear hK_ hS_; have hS_ := hS2_; clear hS2_; refine tk 20 (.bool false) hS_ ?_; refine tk 21 (.bool false) hS_ ?_; refine tk 22 (.bool false) hS_ ?_; refine wpAnyH_done qab ?_ _; go_wp2; go_roundw
            case rel => exact ⟨k + 1, by omega, by go_num, zkd HG.out HD.out EF.out, E.out, zaa hbd (zaa hb1 hb2)⟩
            case measure => exact qms
    · have E := hid (factsB_end (m := m) L.out hlt HD.out HR.out)
      go_wp2; go_ret; exact ⟨zdf (by rw [E.out]), hb⟩
theorem zdi (A : Option Addr) (n c : Nat) (xs : List At) (w : World) (h : IsAtoms w 0 w.heap.size A n c xs) :
    Calls Tryz.prog 34 #[.slice A n c] w (zas (zae 300 xs) w) := by
  have H := hid h; clear h; go_enter Tryz.func34, Tryz.ntmps34; go_wp2_with fail; refine (l3Ok_any _ _ _ xs 300 _ H.out).mono ?_; rintro e w1 ⟨rfl, hb1⟩; go_wp2; go_ret; exact ⟨rfl, hb1⟩
end Go.Proofs.YtogonjkklioaaaaGreatDoor
