/-
  Texts of one claim, put together.
-/
import Derived.Test.YtogonjkklioaaaaGreatDoorLg2
import Derived.RangeFuncNested
import Derived.RangeFuncBound
import Derived.Shelf.RegionOpen
import Derived.LoopNIn
import Derived.LoopIn
set_option maxRecDepth 100000
set_option maxHeartbeats 8000000
namespace Go.Proofs.YtogonjkklioaaaaGreatDoor
open Go.RowKit
theorem l1Texts_same (a b : ByteArray) (w : World) : Calls Tryz.prog 128 #[.string a, .string b] w fun e w' => e = .returned (.int .i64 (zal a b)) ∧ w' = w :=
  (zox a b w).mono fun _ _ ⟨he, hw⟩ => ⟨he, hw.symm⟩
def Known (a b : At) (k : Nat) (q : Int) : Prop := zaf a b = if q = 0 then zbd (a.2.drop k) (b.2.drop k) else q
theorem Known.start (a b : At) : Known a b 0 (zal a.1 b.1) := rfl
theorem Known.step {a b : At} {k : Nat} {q : Int} {t u : Tm} (h : Known a b k q) (hq : q = 0) (ht : a.2[k]? = some t) (hu : b.2[k]? = some u) : Known a b (k + 1) (zal t.2 u.2) := by
  unfold Known at *; rw [h, if_pos hq, zhp ht hu]
theorem Known.found {a b : At} {k : Nat} {q : Int} (h : Known a b k q) (hq : q ≠ 0) : q = zaf a b := by
  unfold Known at h; rw [h, if_neg hq]
theorem Known.left {a b : At} {k : Nat} {q : Int} (h : Known a b k q) (hq : q = 0) (h1 : b.2.length ≤ k) (h2 : k < a.2.length) : 1 = zaf a b := by
  unfold Known at h; rw [h, if_pos hq, zmk h1 h2]
theorem Known.right {a b : At} {k : Nat} {q : Int} (h : Known a b k q) (hq : q = 0) (h1 : a.2.length ≤ k) (h2 : k < b.2.length) : -1 = zaf a b := by
  unfold Known at h; rw [h, if_pos hq, zkf h1 h2]
theorem Known.same {a b : At} {k : Nat} {q : Int} (h : Known a b k q) (hq : q = 0) (h1 : a.2.length ≤ k) (h2 : b.2.length ≤ k) : 0 = zaf a b := by
  unfold Known at h; rw [h, if_pos hq, zmj h1 h2]
theorem belowDrewN {B : Nat} {a w : World} (h : Below B a w) (n : Nat) : Below B a (w.drewN n) := ⟨h.os, h.tape, h.output, h.size, h.block⟩
theorem zft (nm nm' : ByteArray) (A B : Option Addr) (n c n' c' : Nat) (ts us : List Tm) (w : World) (h : IsTerms w 0 w.heap.size A n c ts) (h' : IsTerms w 0 w.heap.size B n' c' us) :
    Calls Tryz.prog 100 #[.agg #[.string nm, .slice A n c], .agg #[.string nm', .slice B n' c']] w (zlt (zaf (nm, ts) (nm', us)) w) := by
  have hm : n ≤ maxLen := qbv; have a5 : n' ≤ maxLen := by have := h'.2.1; have := h'.2.2.1; omega
  unfold maxLen at hm a5; have hl1 := h.1; have hl2 := h'.1; have L1 := hid hl1; clear hl1; have L2 := hid hl2; clear hl2; have H := hid h; clear h; have H' := hid h'; clear h'; have K0 := hid (Known.start (nm, ts) (nm', us)); have hw0 := zbj w (.cells #[.string nm, .slice A n c] 51) (.cells #[.string nm', .slice B n' c'] 51); go_enter Tryz.func100, Tryz.ntmps100; go_wp2_with (go_at_call 128; refine (zox _ _ _).mono ?_; rintro e w' ⟨rfl, rfl⟩)
  go_loopw [5, 6] (fun x i wr => ∃ (k : Nat) (q : Int), k ≤ n ∧ k ≤ n' ∧ i = .int .i64 k ∧ x = .int .i64 q ∧ Known (nm, ts) (nm', us) k q ∧ Below ((w.alloc (.cells #[.string nm, .slice A n c] 51)).alloc (.cells #[.string nm', .slice B n' c'] 51)).heap.size ((w.alloc (.cells #[.string nm, .slice A n c] 51)).alloc (.cells #[.string nm', .slice B n' c'] 51)) wr) (fun _ i _ => n - (intOf i).toNat)
  case atStart => exact ⟨0, _, Nat.zero_le _, Nat.zero_le _, rfl, rfl, K0.out, Below.refl _ _⟩
  case round =>
    obtain ⟨k, q, hk, hk', rfl, rfl, hd, hb⟩ := hrel; have HD := hid hd; clear hd; obtain ⟨hc, hf⟩ := zhz hb; by_cases hq : q = 0
    · have a4 : (q == 0) = true := by rw [beq_iff_eq]; exact hq
      have a8 : (q != 0) = false := by rw [hq]; rfl
      have HQ := hid hq; clear hq; by_cases hlt : k < n
      · obtain ⟨p, t, hA, hlo, hhi, hg, c1, c2, c3⟩ := ((H.out.up hw0).below hb (nl _)).at_ hlt
        subst hA; have HG := hid hg; clear hg; by_cases hlt' : k < n'
        · obtain ⟨p', t', a7, a9, a6, a3, c1', c2', c3'⟩ := ((H'.out.up hw0).below hb (nl _)).at_ hlt'
          subst a7; have HG' := hid a3; clear a3; go_wp2_with fail; go_quiet ((go_at_call 128; exact Calls.quiet_of_same (l1Texts_same _ _ _))); go_wp2; go_roundw
          case rel => exact ⟨k + 1, _, by omega, by omega, by go_num, rfl, HD.out.step HQ.out HG.out HG'.out, belowDrewN hb _⟩
          case measure => exact qms
        · have a2 : us.length ≤ k := by have := L2.out; omega
          have hl : k < ts.length := by have := L1.out; omega
          go_wp2; go_ret; exact ⟨retI (HD.out.left HQ.out a2 hl), zaa hw0 hb⟩
      · have hl : ts.length ≤ k := by have := L1.out; omega
        by_cases hnn : n < n'
        · have a2 : k < us.length := by have := L2.out; omega
          go_wp2; go_ret; exact ⟨retI (HD.out.right HQ.out hl a2), zaa hw0 hb⟩
        · have a2 : us.length ≤ k := by have := L2.out; omega
          go_wp2; go_ret; exact ⟨retI (HD.out.same HQ.out hl a2), zaa hw0 hb⟩
    · have a4 : (q == 0) = false := by rw [beq_eq_false_iff_ne]; exact hq
      have a8 : (q != 0) = true := by rw [bne_iff_ne]; exact hq
      have HQ := hid hq; clear hq; go_wp2
      all_goals (go_ret; exact ⟨retI (HD.out.found HQ.out), zaa hw0 hb⟩)
def zfn (ts : List Tm) : Bool := ts.all fun t => !t.1
def zby (a : At) : Bool := zfn a.2 && zax a
theorem wordsB_snoc {ts : List Tm} {k : Nat} {t : Tm} (h : ts[k]? = some t) (hr : zfn (ts.take k) = true) (ht : t.1 = false) : zfn (ts.take (k + 1)) = true := by
  obtain ⟨h1, h2⟩ := List.getElem?_eq_some_iff.1 h; unfold zfn at *; rw [List.take_succ_eq_append_getElem h1, List.all_append, hr, h2]; simp [ht]
theorem wordsB_no {ts : List Tm} {k : Nat} {t : Tm} (h : ts[k]? = some t) (ht : t.1 = true) : zfn ts = false := by
  unfold zfn; rw [List.all_eq_false]; exact ⟨t, List.mem_of_getElem? h, by simp [ht]⟩
theorem wordsB_all {ts : List Tm} {k n : Nat} (h : ts.length = n) (hk : ¬ k < n) (hr : zfn (ts.take k) = true) : zfn ts = true := by
  rwa [List.take_of_length_le qaa] at hr
theorem zey (nm : ByteArray) (A : Option Addr) (n c : Nat) (ts : List Tm) (w : World) (hs : nm.size ≤ maxLen) (h : IsTerms w 0 w.heap.size A n c ts) :
    Calls Tryz.prog 99 #[.agg #[.string nm, .slice A n c]] w (zas (zby (nm, ts)) w) := by
  have hm : n ≤ maxLen := qbv; unfold maxLen at hm; have L := hid h.1; have H := hid h; clear h; go_enter Tryz.func99, Tryz.ntmps99; go_wp2; have hw0 := zac w (.cells #[.string nm, .slice A n c] 51); go_loopw [3] (fun i wr => ∃ k : Nat, k ≤ n ∧ i = .int .i64 k ∧ zfn (ts.take k) = true ∧ Below (w.alloc (.cells #[.string nm, .slice A n c] 51)).heap.size (w.alloc (.cells #[.string nm, .slice A n c] 51)) wr) (fun i _ => n - (intOf i).toNat)
  case atStart => exact ⟨0, Nat.zero_le _, rfl, rfl, Below.refl _ _⟩
  case round =>
    obtain ⟨k, hk, rfl, hd, hb⟩ := hrel; have HD := hid hd; clear hd; obtain ⟨hc, hf⟩ := zhz hb; by_cases hlt : k < n
    · obtain ⟨p, ⟨v, s⟩, hA, hlo, hhi, hg, c1, c2, c3⟩ := ((H.out.up hw0).below hb (nl _)).at_ hlt
      subst hA; have HG := hid hg; clear hg; cases v
      · go_wp2
        go_roundw
        case rel => exact ⟨k + 1, by omega, by go_num, wordsB_snoc HG.out HD.out rfl, hb⟩
        case measure => exact qms
      · go_wp2
        go_ret; exact ⟨zdb (by unfold zby; rw [wordsB_no HG.out rfl]; rfl), zaa hw0 hb⟩
    · have E := hid (show zby (nm, ts) = zax (nm, ts) by unfold zby; rw [wordsB_all L.out hlt HD.out, Bool.true_and])
      go_wp2_with fail; refine (zdq _ _ _ _ ts _ hs ((H.out.up hw0).up hb)).mono ?_; rintro e w1 ⟨rfl, hb1⟩; go_wp2; go_ret; exact ⟨zdb E.out.symm, zaa hw0 (zaa hb hb1)⟩
def zaj : List At → Bool
  | a :: b :: l => decide (zaf a b < 0) && zaj (b :: l)
  | _ => true
def zag (m : Nat) (xs : List At) : Bool := (xs.all zby && zaj xs) && decide (xs.length ≤ m)
theorem ziv : ∀ {xs : List At} {k : Nat} {a b : At}, xs[k]? = some a → xs[k + 1]? = some b → zaj (xs.take (k + 1)) = true → zaf a b < 0 → zaj (xs.take (k + 2)) = true
  | [], _, _, _, h, _, _, _ => by simp at h
  | [_], _, _, _, _, h, _, _ => by simp at h
  | x :: y :: l, 0, a, b, h, h', _, hc => by
    simp at h h'; subst h; subst h'
    simp [zaj, hc]
  | x :: y :: l, k + 1, a, b, h, h', hr, hc => by
    have hr' : (decide (zaf x y < 0) && zaj ((y :: l).take (k + 1))) = true := by
      have : (x :: y :: l).take (k + 1 + 1) = x :: y :: l.take k := rfl; rw [this] at hr; exact hr
    rw [Bool.and_eq_true] at hr'; have ih := ziv (xs := y :: l) (k := k) (a := a) (b := b) qbk (by simpa using h') hr'.2 hc; have e : (x :: y :: l).take (k + 1 + 2) = x :: y :: l.take (k + 1) := rfl; rw [e]; show (decide (zaf x y < 0) && zaj ((y :: l).take (k + 2))) = true; rw [hr'.1, ih]; rfl
theorem zny : ∀ {xs : List At} {k : Nat} {a b : At}, xs[k]? = some a → xs[k + 1]? = some b → ¬ zaf a b < 0 → zaj xs = false
  | [], _, _, _, h, _, _ => by simp at h
  | [_], _, _, _, _, h, _ => by simp at h
  | x :: y :: l, 0, a, b, h, h', hc => by
    simp at h h'; subst h; subst h'
    simp [zaj, hc]
  | x :: y :: l, k + 1, a, b, h, h', hc => by
    have ih := zny (xs := y :: l) (k := k) (a := a) (b := b) qbk (by simpa using h') hc; simp [zaj, ih]
theorem zkh {α : Type} {P : α → Bool} {xs : List α} {k : Nat} {q : α} (h : xs[k]? = some q) (hr : (xs.take k).all P = true) (hq : P q = true) : (xs.take (k + 1)).all P = true := by
  obtain ⟨h1, h2⟩ := List.getElem?_eq_some_iff.1 h; rw [List.take_succ_eq_append_getElem h1, List.all_append, hr, h2]; simp [hq]
theorem allB_no {α : Type} {P : α → Bool} {xs : List α} {k : Nat} {q : α} (h : xs[k]? = some q) (hq : P q = false) : xs.all P = false := by
  rw [List.all_eq_false]; exact ⟨q, List.mem_of_getElem? h, by simp [hq]⟩
theorem factsB_no {m : Nat} {xs : List At} {k : Nat} {q : At} (h : xs[k]? = some q) (hq : zby q = false) : zag m xs = false := by
  unfold zag; rw [allB_no h hq]; rfl
theorem factsB_order {m : Nat} {xs : List At} {k : Nat} {a b : At} (h : xs[k]? = some a) (h' : xs[k + 1]? = some b) (hc : 0 ≤ zaf a b) : zag m xs = false := by
  unfold zag; rw [zny h h' qaa]; simp
theorem factsB_long {m : Nat} {xs : List At} (h : m < xs.length) : zag m xs = false := by
  unfold zag; rw [decide_eq_false qaa]; simp
theorem factsB_end {m n k : Nat} {xs : List At} (hl : xs.length = n) (hk : ¬ k < n) (h : (xs.take k).all zby = true) (h' : zaj (xs.take k) = true) : zag m xs = decide (n ≤ m) := by
  rw [List.take_of_length_le qaa] at h h'; unfold zag; rw [h, h', hl]; rfl
theorem rises_next {xs : List At} {k : Nat} (h : zaj (xs.take k) = true) (hk : k = 0) : zaj (xs.take (k + 1)) = true := by
  subst hk; cases xs <;> rfl
end Go.Proofs.YtogonjkklioaaaaGreatDoor

namespace Go.Proofs.YtogonjkklioaaaaGreatDoor
open Go.RowKit Go.Shelf
attribute [local go_sem] Oper.semAt_some
def zce (ts : List Tm) : List ByteArray := (ts.filter (·.1)).map (·.2)
theorem varsOf_no {ts : List Tm} {k : Nat} {t : Tm} (h : ts[k]? = some t) (ht : t.1 = false) : zce (ts.take (k + 1)) = zce (ts.take k) := by
  obtain ⟨h1, h2⟩ := List.getElem?_eq_some_iff.1 h; unfold zce; rw [List.take_succ_eq_append_getElem h1, List.filter_append, h2]; simp [ht]
theorem zkk {ts : List Tm} {k : Nat} {t : Tm} (h : ts[k]? = some t) (ht : t.1 = true) : zce (ts.take (k + 1)) = zce (ts.take k) ++ [t.2] := by
  obtain ⟨h1, h2⟩ := List.getElem?_eq_some_iff.1 h; unfold zce; rw [List.take_succ_eq_append_getElem h1, List.filter_append, h2]; simp [ht]
theorem varsOf_pre (ts : List Tm) (k : Nat) : zce (ts.take k) <+: zce ts := by
  conv => rhs; rw [← List.take_append_drop k ts]
  unfold zce; rw [List.filter_append, List.map_append]; exact List.prefix_append _ _
theorem varsOf_len (ts : List Tm) (k : Nat) : (zce (ts.take k)).length ≤ k := by
  unfold zce; rw [List.length_map]; exact Nat.le_trans (List.length_filter_le _ _) qdi
theorem varsOf_none {ts : List Tm} : zfn ts = true ↔ zce ts = [] := by
  unfold zfn zce; rw [List.map_eq_nil_iff, List.filter_eq_nil_iff, List.all_eq_true]; exact ⟨fun h t ht => by have := h t ht; simpa using this, fun h t ht => by have := h t ht; simpa using this⟩
theorem varsOf_all {ts : List Tm} {k n : Nat} (h : ts.length = n) (hk : ¬ k < n) : zce (ts.take k) = zce ts := by
  rw [List.take_of_length_le qaa]
theorem assert_var (s : ByteArray) (W : World) : (Instr.typeAssert (.iface 160 (.string s)) 130 160 true).run Tryz.prog W = .ok (.tuple #[.string s, .bool true]) W := by kernel_rfl
theorem assert_word (s : ByteArray) (W : World) : (Instr.typeAssert (.iface 161 (.string s)) 130 161 true).run Tryz.prog W = .ok (.tuple #[.string s, .bool true]) W := by kernel_rfl
theorem assert_not (s : ByteArray) (W : World) : (Instr.typeAssert (.iface 161 (.string s)) 130 160 true).run Tryz.prog W = .ok (.tuple #[.string ⟨#[]⟩, .bool false]) W := by kernel_rfl
theorem zja {B : Nat} {a b : World} (h : Below B a b) (hB : a.heap.size ≤ B) : a.grownBy b none := ⟨h.os, h.tape, h.output, h.size, fun i hi _ => h.block i (Nat.lt_of_lt_of_le hi hB)⟩
theorem vars1_in (n : Nat) (hn : 1 ≤ n) (l Bs n₀ : Nat) (A : Option Addr) (m c : Nat) (ts : List Tm) (J Jx : List ByteArray → World → Prop) (W : World) (hJ : AbidesFrom W.heap.size J)
    (hY : ∀ pre x W1, J pre W1 → pre.length < m → YieldAt Fence.wide (n - 1) Tryz.prog l #[.string x] W1 fun e W' =>
      (e = .returned (.bool true) ∧ J (pre ++ [x]) W' ∧ Below n₀ W1 W') ∨ (e = .returned (.bool false) ∧ Jx (pre ++ [x]) W'))
    (hB : W.cell? ⟨Bs, 1, none⟩ = some (.slice A m c)) (hn0 : n₀ ≤ W.heap.size) (hT : IsTerms W 0 n₀ A m c ts) (h0 : J [] W) :
    CallsIn Fence.wide n Tryz.prog 153 #[.func (.yield l) #[] #[], .pointer (some ⟨Bs, 0, none⟩)] W fun e W' => (∃ v, e = .returned v) ∧
      ((∃ ys, ys = zce ts ∧ J ys W') ∨ (∃ pre, pre <+: zce ts ∧ Jx pre W')) := by
  have hm : m ≤ maxLen := by have := hT.2.1; have := hT.2.2.1; omega
  unfold maxLen at hm; have HT := hid hT; clear hT; have HY := hid hY; clear hY; have HJ0 := hid hJ; clear hJ; refine callsIn_of_wp Tryz.func153 rfl trivial ?_ rfl; simp only [Tryz.ntmps153, List.size_toArray, List.length_cons, List.length_nil, Nat.reduceAdd, Nat.reduceSub, Array.replicate_succ, Array.replicate_zero, List.push_toArray, List.append_toArray, List.nil_append, List.cons_append]; gi_wp2; gi_loopw [10] (fun i wr => ∃ k : Nat, k ≤ m ∧ i = .int .i64 k ∧ J (zce (ts.take k)) wr ∧ Below n₀ W wr) (fun i _ => m - (intOf i).toNat)
  case atStart => exact ⟨0, Nat.zero_le _, rfl, h0, Below.refl _ _⟩
  case round =>
    obtain ⟨k, hk, rfl, a3, hb⟩ := hrel; have HJ := hid a3; clear a3; by_cases hlt : k < m
    · obtain ⟨p, ⟨v, s⟩, hA, hlo, hhi, hg, c1, c2, c3⟩ := (HT.out.below hb (nl _)).at_ hlt
      subst hA; have HG := hid hg; clear hg; have hwr := hb.size; have ta1 := assert_var s; have ta2 := assert_word s; have ta3 := assert_not s; cases v
      · gi_wp2_with (refine ⟨trivial, ?_⟩; gi_at_call 92; refine (callsIn_wide.2 (zlx _ _)).mono ?_; rintro e w1 ⟨rfl, hb1⟩; have a2 := zaa (zac wr (.cells #[.bool false, .string s] 110)) hb1)
        go_roundw
        case rel => exact ⟨k + 1, by omega, by go_num, by rw [varsOf_no HG.out rfl]; exact HJ0.out _ _ _ none HJ.out (zja a2 (nl _)) qdx, hb.trans (a2.mono qaa)⟩
        case measure => exact qms
      · gi_wp2_with (refine ⟨trivial, ?_⟩; gi_at_call 92; refine (callsIn_wide.2 (znq _ _)).mono ?_; rintro e w1 ⟨rfl, hb1⟩; have a2 := zaa (zac wr (.cells #[.bool true, .string s] 110)) hb1; obtain ⟨fn, tmps, assign, body, hy, hR⟩ := HY.out _ s w1 (HJ0.out _ _ _ none HJ.out (zja a2 (nl _)) qdx) (Nat.lt_of_le_of_lt (varsOf_len _ _) hlt))
        refine hR.mono ?_; rintro e W3 (⟨rfl, hJ3, hk3⟩ | ⟨rfl, hJx3⟩)
        · gi_wp2
          go_roundw
          case rel => exact ⟨k + 1, by omega, by go_num, by rw [zkk HG.out rfl]; exact hJ3, (hb.trans (a2.mono qaa)).trans hk3⟩
          case measure => exact qms
        · gi_wp2
          refine bodyPost_ret (results_none rfl _ _ _) rfl ?_; exact ⟨⟨_, rfl⟩, .inr ⟨_, by rw [← zkk (t := (true, s)) HG.out rfl]; exact varsOf_pre _ _, hJx3⟩⟩
    · have E := hid (varsOf_all HT.out.1 hlt)
      gi_wp2; go_end0; exact ⟨⟨_, rfl⟩, .inl ⟨_, rfl, by rw [← E.out]; exact HJ.out⟩⟩
theorem vars_stops (n : Nat) (hn : 1 ≤ n) (Bs n₀ : Nat) (A : Option Addr) (m c : Nat) (ts : List Tm) (w : World) (hBs : Bs < w.heap.size) (hn0 : n₀ ≤ w.heap.size) (hB : w.cell? ⟨Bs, 1, none⟩ = some (.slice A m c)) (hT : IsTerms w 0 n₀ A m c ts) :
    SeqStopsK Fence.wide n Tryz.prog 153 #[.pointer (some ⟨Bs, 0, none⟩)] (fun x : ByteArray => #[Value.string x]) (Below n₀) (fun ys => ys = zce ts) (fun pre => pre <+: zce ts) m w := fun l J Jx W hW hJ _ hY h0 =>
  vars1_in n hn l Bs n₀ A m c ts J Jx W hJ hY ((hW.cell (p := ⟨Bs, 1, none⟩) hBs).trans hB) (Nat.le_trans hn0 hW.size) (hT.below hW hn0) h0
theorem znm (nm : ByteArray) (A : Option Addr) (n c : Nat) (w : World) :
    Calls Tryz.prog 116 #[.agg #[.string nm, .slice A n c]] w fun e w' => e = .returned (.func (.func 153) #[] #[.pointer (some ⟨w.heap.size, 0, none⟩)]) ∧ w' = w.alloc (.cells #[.string nm, .slice A n c] 51) := by
  go_enter Tryz.func116, Tryz.ntmps116; go_wp2; go_ret; exact ⟨rfl, rfl⟩
end Go.Proofs.YtogonjkklioaaaaGreatDoor
namespace Go.Proofs.YtogonjkklioaaaaGreatDoor
open Go.RowKit Go.Shelf
attribute [local go_sem] Oper.semAt_some
end Go.Proofs.YtogonjkklioaaaaGreatDoor

namespace Go.Proofs.YtogonjkklioaaaaGreatDoor
open Go
theorem takeV {P : Program} {ops : Array Oper} {Q : Exit → Act → World → Prop} {md : Region.Mode} {S : World → Prop} {i d : Nat} {oi : Oper} {v : Value} {fuel : Nat} {listed : Array Bool} {a : Act} {w : World} {tm : Array Value}
    (hi : ops[i]? = some oi) (hs : Region.noSelect ops = true) (hf : Region.free md ops listed i = true) (hr : (Region.ready md ops listed).contains i = true) (hd : oi.dst = some d)
    (hQ : ∀ c a w, Q (.panic c) (a.put (some d) v) w → Q (.panic c) a w) (hy : YieldsIf P ops S oi v a) (hS : S w) (hput : a.tmps.setIfInBounds d v = tm)
    (h : wpAnyH P md ops Q S fuel (listed.setIfInBounds i true) { tmps := tm, defers := a.defers } w) : wpAnyH P md ops Q S (fuel + 1) listed a w := by
  refine wpAnyH_take hi hs hf hr ?_ hy hS ?_
  · rw [hd]; exact hQ
  · rw [hd]
    subst hput; exact h
theorem tk (i : Nat) (v : Value) {P : Program} {ops : Array Oper} {Q : Exit → Act → World → Prop} {md : Region.Mode} {S : World → Prop} {d : Nat} {oi : Oper} {fuel : Nat} {listed : Array Bool} {a : Act} {w : World} {tm : Array Value}
    (hS : S w) (h : wpAnyH P md ops Q S fuel (listed.setIfInBounds i true) { tmps := tm, defers := a.defers } w)
    (hi : ops[i]? = some oi := by (simp only [List.getElem?_toArray, List.getElem?_cons_succ, List.getElem?_cons_zero]); rfl) (hs : Region.noSelect ops = true := by kernel_rfl) (hf : Region.free md ops listed i = true := by kernel_rfl) (hr : (Region.ready md ops listed).contains i = true := by kernel_rfl) (hd : oi.dst = some d := by rfl)
    (hQ : ∀ c a w, Q (.panic c) (a.put (some d) v) w → Q (.panic c) a w := by exact fun _ _ _ h => h)
    (hy : YieldsIf P ops S oi v a := by refine Or.inl ⟨by rfl, ?_⟩; intro w_ hSw_; (try dsimp only at hSw_); go_simp)
    (hput : a.tmps.setIfInBounds d v = tm := by (simp only [Act.put, List.setIfInBounds_toArray, List.set_cons_succ, List.set_cons_zero]); rfl) : wpAnyH P md ops Q S (fuel + 1) listed a w := takeV hi hs hf hr hd hQ hy hS hput h
theorem rd1 (i : Nat) {P : Program} {ops : Array Oper} {Q : Exit → Act → World → Prop} {md : Region.Mode} {S : World → Prop} {o : Oper} {fuel : Nat} {listed : Array Bool} {a : Act} {w : World}
    (h : ∀ K' : Act → World → Prop, Shut (∀ a w, S w → (S w → wpAnyH P md ops Q S fuel (listed.setIfInBounds i true) a w) → K' a w) → Oper.wp P o a w K' Q)
    (ho : ops[i]? = some o := by (simp only [List.getElem?_toArray, List.getElem?_cons_succ, List.getElem?_cons_zero]); rfl) (hr : Region.ready md ops listed = [i] := by kernel_rfl) (hw : Region.wanted o (yielded ops a.tmps) = true := by rfl) : wpAnyH P md ops Q S (fuel + 1) listed a w :=
  wpAnyH_ready hr qag (AllReadyH.cons ho (fun K hK => by rw [if_pos hw]; exact h K hK) AllReadyH.nil)
theorem sk (i : Nat) {P : Program} {ops : Array Oper} {Q : Exit → Act → World → Prop} {md : Region.Mode} {S : World → Prop} {d : Nat} {oi : Oper} {fuel : Nat} {listed : Array Bool} {a : Act} {w : World} {tm : Array Value}
    (hS : S w) (h : wpAnyH P md ops Q S fuel (listed.setIfInBounds i true) { tmps := tm, defers := a.defers } w)
    (hi : ops[i]? = some oi := by (simp only [List.getElem?_toArray, List.getElem?_cons_succ, List.getElem?_cons_zero]); rfl) (hs : Region.noSelect ops = true := by kernel_rfl) (hf : Region.free md ops listed i = true := by kernel_rfl) (hr : (Region.ready md ops listed).contains i = true := by kernel_rfl) (hd : oi.dst = some d := by rfl)
    (hQ : ∀ c a w, Q (.panic c) (a.put (some d) undef) w → Q (.panic c) a w := by exact fun _ _ _ h => h)
    (hw : Region.wanted oi (yielded ops a.tmps) = false := by rfl)
    (hput : a.tmps.setIfInBounds d undef = tm := by (simp only [Act.put, List.setIfInBounds_toArray, List.set_cons_succ, List.set_cons_zero]); rfl) : wpAnyH P md ops Q S (fuel + 1) listed a w := takeV hi hs hf hr hd hQ (Or.inr ⟨hw, rfl⟩) hS hput h
theorem rd0 (i : Nat) {P : Program} {ops : Array Oper} {Q : Exit → Act → World → Prop} {md : Region.Mode} {S : World → Prop} {o : Oper} {fuel : Nat} {listed : Array Bool} {a : Act} {w : World} (h : ∀ K' : Act → World → Prop, Shut (∀ a w, S w → (S w → wpAnyH P md ops Q S fuel (listed.setIfInBounds i true) a w) → K' a w) → if Region.wanted o (yielded ops a.tmps) = true then Oper.wp P o a w K' Q else K' (a.put o.dst undef) w)
    (ho : ops[i]? = some o := by (simp only [List.getElem?_toArray, List.getElem?_cons_succ, List.getElem?_cons_zero]); rfl) (hr : Region.ready md ops listed = [i] := by kernel_rfl) : wpAnyH P md ops Q S (fuel + 1) listed a w := wpAnyH_ready hr qag (AllReadyH.cons ho h AllReadyH.nil)
theorem rd2 (i k : Nat) {P : Program} {ops : Array Oper} {Q : Exit → Act → World → Prop} {md : Region.Mode} {S : World → Prop} {o p : Oper} {fuel : Nat} {listed : Array Bool} {a : Act} {w : World} (h : ∀ K' : Act → World → Prop, Shut (∀ a w, S w → (S w → wpAnyH P md ops Q S fuel (listed.setIfInBounds i true) a w) → K' a w) → if Region.wanted o (yielded ops a.tmps) = true then Oper.wp P o a w K' Q else K' (a.put o.dst undef) w)
    (h' : ∀ K' : Act → World → Prop, Shut (∀ a w, S w → (S w → wpAnyH P md ops Q S fuel (listed.setIfInBounds k true) a w) → K' a w) → if Region.wanted p (yielded ops a.tmps) = true then Oper.wp P p a w K' Q else K' (a.put p.dst undef) w)
    (ho : ops[i]? = some o := by (simp only [List.getElem?_toArray, List.getElem?_cons_succ, List.getElem?_cons_zero]); rfl) (hp : ops[k]? = some p := by (simp only [List.getElem?_toArray, List.getElem?_cons_succ, List.getElem?_cons_zero]); rfl) (hr : Region.ready md ops listed = [i, k] := by kernel_rfl) : wpAnyH P md ops Q S (fuel + 1) listed a w := wpAnyH_ready hr qag (AllReadyH.cons ho h (AllReadyH.cons hp h' AllReadyH.nil))
end Go.Proofs.YtogonjkklioaaaaGreatDoor

namespace Go.Proofs.YtogonjkklioaaaaGreatDoor
open Go.RowKit
theorem l3Ok_any (A : Option Addr) (n c : Nat) (xs : List At) (m : Nat) (w : World) (h : IsAtoms w 0 w.heap.size A n c xs) :
    Calls Tryz.prog 63 #[.slice A n c, .int .i64 (m : Int)] w (zas (zag m xs) w) := by
  have hn := h.len; unfold maxLen at hn; have L := hid h.1; have H := hid h; clear h; go_enter Tryz.func63, Tryz.ntmps63; go_wp2; go_loopw [5] (fun i wr => ∃ k : Nat, k ≤ n ∧ i = .int .i64 k ∧ (xs.take k).all zby = true ∧ zaj (xs.take k) = true ∧ Below w.heap.size w wr) (fun i _ => n - (intOf i).toNat)
  case atStart => exact ⟨0, Nat.zero_le _, rfl, rfl, rfl, Below.refl _ _⟩
  case round =>
    obtain ⟨k, hk, rfl, hd, hr, hb⟩ := hrel; have HD := hid hd; have HR := hid hr; clear hd hr; by_cases hlt : k < n
    · obtain ⟨p, q, hA, hlo, hhi, hg, hE⟩ := (H.out.below AtomE.stays hb (nl _)).at_ hlt
      obtain ⟨A', n', c', d1, d3, d4, d5⟩ := hE.out; clear hE; have HG := hid hg; clear hg; have HT := hid (d5.keep (w' := wr.drew) (lo' := 0) (hi' := wr.drew.heap.size) (fun _ _ _ => rfl) (nl _) hb.size); clear d5; have hbd := hb.drew; have x1 : wr.drew.cell? (p.add (k * 2)) = some (.string q.1) := d1; have x2 : wr.drew.cell? ⟨(p.add (k * 2)).block, (p.add (k * 2)).off + 1, none⟩ = some (.slice A' n' c') := d4; cases hF : zby q
      · have a2 : zby (q.1, q.2) = false := hF
        have cG : Calls Tryz.prog 99 #[.agg #[.string q.1, .slice A' n' c']] wr.drew (zas false wr.drew) := by
          have := zey q.1 A' n' c' q.2 _ d3 HT.out
          rwa [a2] at this
        subst hA; have E := hid (factsB_no (m := m) HG.out hF); clear hF; go_wp2_with fail; refine wp_region_held_drew (S := fun W => W.cell? (p.add (k * 2)) = some (.string q.1) ∧ W.cell? ⟨(p.add (k * 2)).block, (p.add (k * 2)).off + 1, none⟩ = some (.slice A' n' c')) qab ⟨x1, x2⟩ ?_; intro hS_; refine tk 0 (.slice (some p) n c) hS_ ?_; refine tk 1 (.int .i64 (k : Int)) hS_ ?_; refine tk 2 (.pointer (some (p.add (k * 2)))) hS_ ?_; refine tk 3 (.agg #[.string q.1, .slice A' n' c']) hS_ ?_; refine rd1 4 fun K_ hK_ => ?_; go_simp; go_at_call 99; refine (cG).mono ?_; rintro e w1 ⟨rfl, hb1⟩
        have y1 := (hb1.cell (p := p.add (k * 2)) qas).trans d1; have y2 := (hb1.cell (p := ⟨(p.add (k * 2)).block, (p.add (k * 2)).off + 1, none⟩) qas).trans d4; refine hK_.out _ _ ⟨y1, y2⟩ (fun hS2_ => ?_); clear hK_ hS_; have hS_ := hS2_; clear hS2_; refine tk 5 (.bool true) hS_ ?_; refine tk 6 (.bool true) hS_ ?_; refine sk 7 hS_ ?_; refine sk 8 hS_ ?_; refine sk 9 hS_ ?_; refine sk 10 hS_ ?_; refine sk 11 hS_ ?_; refine sk 12 hS_ ?_; refine sk 13 hS_ ?_; refine sk 14 hS_ ?_; refine sk 15 hS_ ?_; refine sk 16 hS_ ?_; refine sk 17 hS_ ?_; refine sk 18 hS_ ?_; refine sk 19 hS_ ?_; refine sk 20 hS_ ?_
        refine sk 21 hS_ ?_; refine tk 22 (.bool true) hS_ ?_; refine wpAnyH_done qab ?_ _; go_wp2; go_ret; exact ⟨zdb E.out.symm, zaa hbd hb1⟩
      · have a2 : zby (q.1, q.2) = true := hF
        have cG : Calls Tryz.prog 99 #[.agg #[.string q.1, .slice A' n' c']] wr.drew (zas true wr.drew) := by
          have := zey q.1 A' n' c' q.2 _ d3 HT.out
          rwa [a2] at this
        have EF := hid hF; clear hF; by_cases hk0 : k = 0
        · have a9 : ¬ (0 : Int) < (k : Int) := qaa
          have KK := hid hk0; clear hk0; subst hA; go_wp2_with fail; refine wp_region_held_drew (S := fun W => W.cell? (p.add (k * 2)) = some (.string q.1) ∧ W.cell? ⟨(p.add (k * 2)).block, (p.add (k * 2)).off + 1, none⟩ = some (.slice A' n' c')) qab ⟨x1, x2⟩ ?_; intro hS_; refine tk 0 (.slice (some p) n c) hS_ ?_; refine tk 1 (.int .i64 (k : Int)) hS_ ?_; refine tk 2 (.pointer (some (p.add (k * 2)))) hS_ ?_; refine tk 3 (.agg #[.string q.1, .slice A' n' c']) hS_ ?_; refine rd1 4 fun K_ hK_ => ?_; go_simp; go_at_call 99; refine (cG).mono ?_; rintro e w1 ⟨rfl, hb1⟩; have y1 := (hb1.cell (p := p.add (k * 2)) qas).trans d1
          have y2 := (hb1.cell (p := ⟨(p.add (k * 2)).block, (p.add (k * 2)).off + 1, none⟩) qas).trans d4; refine hK_.out _ _ ⟨y1, y2⟩ (fun hS2_ => ?_); clear hK_ hS_; have hS_ := hS2_; clear hS2_; refine tk 5 (.bool false) hS_ ?_; refine tk 6 (.bool false) hS_ ?_; refine tk 7 (.int .i64 (k : Int)) hS_ ?_; refine tk 8 (.bool false) hS_ ?_ (hy := Or.inl ⟨by rfl, by intro w_ hSw_; (try dsimp only at hSw_); go_simp; exact KK.out⟩); refine tk 9 (.bool false) hS_ ?_; refine sk 10 hS_ ?_; refine sk 11 hS_ ?_; refine sk 12 hS_ ?_; refine sk 13 hS_ ?_; refine sk 14 hS_ ?_; refine sk 15 hS_ ?_; refine sk 16 hS_ ?_
          refine sk 17 hS_ ?_; refine sk 18 hS_ ?_; refine sk 19 hS_ ?_; refine sk 20 hS_ ?_; refine tk 21 (.bool false) hS_ ?_; refine tk 22 (.bool false) hS_ ?_; refine wpAnyH_done qab ?_ _; go_wp2; go_roundw
          case rel => exact ⟨k + 1, by omega, by go_num, zkh HG.out HD.out EF.out, rises_next HR.out KK.out, zaa hbd hb1⟩
          case measure => exact qms
        · obtain ⟨j, hj⟩ : ∃ j, k = j + 1 := ⟨k - 1, by omega⟩
          have a7 : j < n := qaa; have a9 : (0 : Int) < (k : Int) := qaa; have a8 : (k : Int) - 1 = (j : Int) := qaa; have HJ := hid hj; clear hj hk0; obtain ⟨p', q', a3, b5, b4, a6, a4⟩ := (H.out.below AtomE.stays hb (nl _)).at_ a7; obtain ⟨A2, n2, c2, f1, f3, f4, f5⟩ := a4.out; clear a4; obtain rfl : p = p' := by rw [hA] at a3; injection a3
          clear a3; subst hA; have HG' := hid a6; clear a6; have a5 := hid (f5.keep (w' := wr.drew) (lo' := 0) (hi' := wr.drew.heap.size) (fun _ _ _ => rfl) (nl _) hb.size); clear f5; have x3 : wr.drew.cell? (p.add (j * 2)) = some (.string q'.1) := f1; have x4 : wr.drew.cell? ⟨(p.add (j * 2)).block, (p.add (j * 2)).off + 1, none⟩ = some (.slice A2 n2 c2) := f4; by_cases hc : 0 ≤ zaf q' q
          · have b3 : 0 ≤ zaf (q'.1, q'.2) (q.1, q.2) := hc
            have E := hid (factsB_order (m := m) (a := q') (b := q) HG'.out (by rw [← HJ.out]; exact HG.out) hc); clear hc; go_wp2_with fail; refine wp_region_held_drew (S := fun W => (W.cell? (p.add (k * 2)) = some (.string q.1) ∧ W.cell? ⟨(p.add (k * 2)).block, (p.add (k * 2)).off + 1, none⟩ = some (.slice A' n' c')) ∧ W.cell? (p.add (j * 2)) = some (.string q'.1) ∧ W.cell? ⟨(p.add (j * 2)).block, (p.add (j * 2)).off + 1, none⟩ = some (.slice A2 n2 c2)) qab ⟨⟨x1, x2⟩, x3, x4⟩ ?_; intro hS_; refine tk 0 (.slice (some p) n c) hS_ ?_; refine tk 1 (.int .i64 (k : Int)) hS_ ?_; refine tk 2 (.pointer (some (p.add (k * 2)))) hS_ ?_
            refine tk 3 (.agg #[.string q.1, .slice A' n' c']) hS_ ?_; refine rd1 4 fun K_ hK_ => ?_; go_simp; go_at_call 99; refine (cG).mono ?_; rintro e w1 ⟨rfl, hb1⟩; have y1 := (hb1.cell (p := p.add (k * 2)) qas).trans d1; have y2 := (hb1.cell (p := ⟨(p.add (k * 2)).block, (p.add (k * 2)).off + 1, none⟩) qas).trans d4; have y3 := (hb1.cell (p := p.add (j * 2)) qas).trans f1; have y4 := (hb1.cell (p := ⟨(p.add (j * 2)).block, (p.add (j * 2)).off + 1, none⟩) qas).trans f4; have u1 := HT.out.up hb1; have u2 := a5.out.up hb1; refine hK_.out _ _ ⟨⟨y1, y2⟩, y3, y4⟩ (fun hS2_ => ?_)
            clear hK_ hS_; have hS_ := hS2_; clear hS2_; refine tk 5 (.bool false) hS_ ?_; refine tk 6 (.bool false) hS_ ?_; refine tk 7 (.int .i64 (k : Int)) hS_ ?_; refine tk 8 (.bool true) hS_ ?_ (hy := Or.inl ⟨by rfl, by intro w_ hSw_; (try dsimp only at hSw_); go_simp; omega⟩); refine tk 9 (.bool true) hS_ ?_; refine tk 10 (.slice (some p) n c) hS_ ?_; refine tk 11 (.int .i64 (k : Int)) hS_ ?_; refine tk 12 (.int .i64 (j : Int)) hS_ ?_ (hy := Or.inl ⟨by rfl, by intro w_ hSw_; (try dsimp only at hSw_); go_simp; (rw [IntKind.wrap_i64]; omega)⟩); refine tk 13 (.pointer (some (p.add (j * 2)))) hS_ ?_; refine tk 14 (.agg #[.string q'.1, .slice A2 n2 c2]) hS_ ?_
            refine tk 15 (.slice (some p) n c) hS_ ?_; refine tk 16 (.int .i64 (k : Int)) hS_ ?_; refine tk 17 (.pointer (some (p.add (k * 2)))) hS_ ?_; refine tk 18 (.agg #[.string q.1, .slice A' n' c']) hS_ ?_; refine rd1 19 fun K_ hK_ => ?_; go_simp; go_at_call 100; refine (zft q'.1 q.1 A2 A' n2 c2 n' c' q'.2 q.2 _ u2 u1).mono ?_; rintro e w2 ⟨rfl, hb2⟩; have z1 := (hb2.cell (p := p.add (k * 2)) qau).trans y1; have z2 := (hb2.cell (p := ⟨(p.add (k * 2)).block, (p.add (k * 2)).off + 1, none⟩) qau).trans y2; have z3 := (hb2.cell (p := p.add (j * 2)) qau).trans y3; have z4 := (hb2.cell (p := ⟨(p.add (j * 2)).block, (p.add (j * 2)).off + 1, none⟩) qau).trans y4
            refine hK_.out _ _ ⟨⟨z1, z2⟩, z3, z4⟩ (fun hS2_ => ?_); clear hK_ hS_; have hS_ := hS2_; clear hS2_; refine tk 20 (.bool true) hS_ ?_; refine tk 21 (.bool true) hS_ ?_; refine tk 22 (.bool true) hS_ ?_; refine wpAnyH_done qab ?_ _; go_wp2; go_ret; exact ⟨zdb E.out.symm, zaa hbd (zaa hb1 hb2)⟩
          · have b3 : ¬ 0 ≤ zaf (q'.1, q'.2) (q.1, q.2) := hc
            have E := hid (show zaj (xs.take (k + 1)) = true by
              have h1 := HG.out; have h2 := HR.out; rw [HJ.out] at h1 h2 ⊢; exact ziv (a := q') (b := q) HG'.out h1 h2 qaa)
            clear hc; go_wp2_with fail; refine wp_region_held_drew (S := fun W => (W.cell? (p.add (k * 2)) = some (.string q.1) ∧ W.cell? ⟨(p.add (k * 2)).block, (p.add (k * 2)).off + 1, none⟩ = some (.slice A' n' c')) ∧ W.cell? (p.add (j * 2)) = some (.string q'.1) ∧ W.cell? ⟨(p.add (j * 2)).block, (p.add (j * 2)).off + 1, none⟩ = some (.slice A2 n2 c2)) qab ⟨⟨x1, x2⟩, x3, x4⟩ ?_; intro hS_; refine tk 0 (.slice (some p) n c) hS_ ?_; refine tk 1 (.int .i64 (k : Int)) hS_ ?_; refine tk 2 (.pointer (some (p.add (k * 2)))) hS_ ?_; refine tk 3 (.agg #[.string q.1, .slice A' n' c']) hS_ ?_; refine rd1 4 fun K_ hK_ => ?_
            go_simp; go_at_call 99; refine (cG).mono ?_; rintro e w1 ⟨rfl, hb1⟩; have y1 := (hb1.cell (p := p.add (k * 2)) qas).trans d1; have y2 := (hb1.cell (p := ⟨(p.add (k * 2)).block, (p.add (k * 2)).off + 1, none⟩) qas).trans d4; have y3 := (hb1.cell (p := p.add (j * 2)) qas).trans f1; have y4 := (hb1.cell (p := ⟨(p.add (j * 2)).block, (p.add (j * 2)).off + 1, none⟩) qas).trans f4; have u1 := HT.out.up hb1; have u2 := a5.out.up hb1; refine hK_.out _ _ ⟨⟨y1, y2⟩, y3, y4⟩ (fun hS2_ => ?_); clear hK_ hS_; have hS_ := hS2_; clear hS2_; refine tk 5 (.bool false) hS_ ?_
            refine tk 6 (.bool false) hS_ ?_; refine tk 7 (.int .i64 (k : Int)) hS_ ?_; refine tk 8 (.bool true) hS_ ?_ (hy := Or.inl ⟨by rfl, by intro w_ hSw_; (try dsimp only at hSw_); go_simp; omega⟩); refine tk 9 (.bool true) hS_ ?_; refine tk 10 (.slice (some p) n c) hS_ ?_; refine tk 11 (.int .i64 (k : Int)) hS_ ?_; refine tk 12 (.int .i64 (j : Int)) hS_ ?_ (hy := Or.inl ⟨by rfl, by intro w_ hSw_; (try dsimp only at hSw_); go_simp; (rw [IntKind.wrap_i64]; omega)⟩); refine tk 13 (.pointer (some (p.add (j * 2)))) hS_ ?_; refine tk 14 (.agg #[.string q'.1, .slice A2 n2 c2]) hS_ ?_; refine tk 15 (.slice (some p) n c) hS_ ?_
            refine tk 16 (.int .i64 (k : Int)) hS_ ?_; refine tk 17 (.pointer (some (p.add (k * 2)))) hS_ ?_; refine tk 18 (.agg #[.string q.1, .slice A' n' c']) hS_ ?_; refine rd1 19 fun K_ hK_ => ?_; go_simp; go_at_call 100; refine (zft q'.1 q.1 A2 A' n2 c2 n' c' q'.2 q.2 _ u2 u1).mono ?_; rintro e w2 ⟨rfl, hb2⟩; have z1 := (hb2.cell (p := p.add (k * 2)) qau).trans y1; have z2 := (hb2.cell (p := ⟨(p.add (k * 2)).block, (p.add (k * 2)).off + 1, none⟩) qau).trans y2; have z3 := (hb2.cell (p := p.add (j * 2)) qau).trans y3; have z4 := (hb2.cell (p := ⟨(p.add (j * 2)).block, (p.add (j * 2)).off + 1, none⟩) qau).trans y4
            refine hK_.out _ _ ⟨⟨z1, z2⟩, z3, z4⟩ (fun hS2_ => ?_); clear hK_ hS_; have hS_ := hS2_; clear hS2_; refine tk 20 (.bool false) hS_ ?_; refine tk 21 (.bool false) hS_ ?_; refine tk 22 (.bool false) hS_ ?_; refine wpAnyH_done qab ?_ _; go_wp2; go_roundw
            case rel => exact ⟨k + 1, by omega, by go_num, zkh HG.out HD.out EF.out, E.out, zaa hbd (zaa hb1 hb2)⟩
            case measure => exact qms
    · have E := hid (factsB_end (m := m) L.out hlt HD.out HR.out)
      go_wp2; go_ret; exact ⟨zdb (by rw [E.out]), hb⟩
theorem zde (A : Option Addr) (n c : Nat) (xs : List At) (w : World) (h : IsAtoms w 0 w.heap.size A n c xs) :
    Calls Tryz.prog 34 #[.slice A n c] w (zas (zag 300 xs) w) := by
  have H := hid h; clear h; go_enter Tryz.func34, Tryz.ntmps34; go_wp2_with fail; refine (l3Ok_any _ _ _ xs 300 _ H.out).mono ?_; rintro e w1 ⟨rfl, hb1⟩; go_wp2; go_ret; exact ⟨rfl, hb1⟩
end Go.Proofs.YtogonjkklioaaaaGreatDoor

namespace Go.Proofs.YtogonjkklioaaaaGreatDoor
open Go.RowKit Go.Shelf
attribute [local go_sem] Oper.semAt_some
theorem factB_not {nm : ByteArray} {ts : List Tm} (h : (!zax (nm, ts)) = true) : zby (nm, ts) = false := by
  unfold zby; rw [show zax (nm, ts) = false by simpa using h, Bool.and_false]
theorem factB_vars {nm : ByteArray} {ts : List Tm} (h : (!zax (nm, ts)) = false) (hv : zce ts = []) : zby (nm, ts) = true := by
  unfold zby; rw [show zax (nm, ts) = true by simpa using h, varsOf_none.2 hv]; rfl
theorem factB_some {nm : ByteArray} {ts : List Tm} (hv : zce ts ≠ []) : zby (nm, ts) = false := by
  unfold zby; cases h : zfn ts
  · rfl
  · exact absurd (varsOf_none.1 h) hv
theorem factOk_any (nm : ByteArray) (A : Option Addr) (n c : Nat) (ts : List Tm) (w : World) (hs : nm.size ≤ maxLen) (h : IsTerms w 0 w.heap.size A n c ts) :
    Calls Tryz.prog 86 #[.agg #[.string nm, .slice A n c]] w (zas (zby (nm, ts)) w) := by
  have H := hid h; clear h; have hw0 := zbj w (.cells #[.string nm, .slice A n c] 51) (.cells #[.bool false] 4); refine (callsIn_wide (n := 5)).1 ?_; refine callsIn_of_wp_marks Tryz.func86 rfl trivial ?_ rfl; simp only [Tryz.ntmps86, List.size_toArray, List.length_cons, List.length_nil, Nat.reduceAdd, Nat.reduceSub, Array.replicate_succ, Array.replicate_zero, List.push_toArray, List.append_toArray, List.nil_append, List.cons_append]; gi_wp2_with (refine ⟨trivial, ?_⟩; gi_at_call 57; refine (callsIn_wide.2 (zdt nm A n c ts _ hs (H.out.up hw0))).mono ?_; rintro e w1 ⟨rfl, hb1⟩; have HB1 := zaa hw0 hb1; obtain ⟨hc, hf⟩ := zhz hb1; have a8 : w.heap.size + 1 < w1.heap.size := (by have := hb1.size; simp at this; omega); have hz0 : w.heap.size < w1.heap.size := qaa)
  · have hd : (!zax (nm, ts)) = true := qbn
    have c1 : w1.cell? ⟨w.heap.size + 1, 0, none⟩ = some (.bool false) := by rw [hc _ _ qag]; simp [go_sem]
    exact ⟨.bool false, by simp [results, Tryz.f86, go_sem, c1], by rw [factB_not hd], HB1.setCell qag _⟩
  · have hd : (!zax (nm, ts)) = false := qbn
    have HD := hid hd; refine ⟨trivial, (callsIn_wide.2 (znm nm A n c w1)).mono ?_⟩; rintro e w' ⟨rfl, rfl⟩; have c1 : w1.cell? ⟨w.heap.size + 1, 0, none⟩ = some (.bool false) := by rw [hc _ _ qag]; simp [go_sem]
    have f1 : w1.frozen? ⟨w.heap.size + 1, 0, none⟩ = false := by rw [hf _ _ qag]; simp [go_sem]
    have a7 := zac w1 (.cells #[.string nm, .slice A n c] 51); have HB2 := zaa HB1 a7; have c2 := (a7.cell (p := ⟨w.heap.size + 1, 0, none⟩) a8).trans c1; have f2 := (a7.frozen (p := ⟨w.heap.size + 1, 0, none⟩) a8).trans f1; have b2 : (w1.alloc (.cells #[.string nm, .slice A n c] 51)).cell? ⟨w1.heap.size, 1, none⟩ = some (.slice A n c) := qev; have T2 : IsTerms (w1.alloc (.cells #[.string nm, .slice A n c] 51)) 0 w.heap.size A n c ts := H.out.below HB2 (nl _); have a4 : w.heap.size ≤ (w1.alloc (.cells #[.string nm, .slice A n c] 51)).heap.size := HB2.size
    have hl2 : w1.heap.size < (w1.alloc (.cells #[.string nm, .slice A n c] 51)).heap.size := qag; gi_wp2
    refine wpIn_rangeFunc_ownF rfl qaa (gf := 153) (lb := #[.pointer (some ⟨w1.heap.size, 0, none⟩)]) rfl trivial (enters_of Tryz.func153 qab rfl)
      (vars_stops (5 - 1) qaa w1.heap.size w.heap.size A n c ts _ hl2 a4 b2 T2) belowK_t (belowK_b a4) (Below.refl _ _) (fun _ => rfl)
      (fun pre W => (pre = [] ∧ W.cell? ⟨w.heap.size + 1, 0, none⟩ = some (.bool false) ∧ W.frozen? ⟨w.heap.size + 1, 0, none⟩ = false) ∧ Below w.heap.size w W)
      (fun c pre W => (c = .ret ∧ pre ≠ [] ∧ W.cell? ⟨w.heap.size + 1, 0, none⟩ = some (.bool false)) ∧ Below w.heap.size w W)
      (OwnFrom.and (Own.from (fun s A B row hs hg hr => ⟨hs.1, cell_kept hs.2.1 hg hr, (frozen_kept hs.2.1 hg hr).trans hs.2.2⟩) _) (ownFrom_below (nl _) a4))
      (fun c => OwnFrom.and (Own.from (fun s A B row hs hg hr => ⟨hs.1, hs.2.1, cell_kept hs.2.2 hg hr⟩) _) (ownFrom_below (nl _) a4))
      ⟨⟨rfl, c2, f2⟩, HB2⟩
      (fun x => { tmps := #[.agg #[.string nm, .slice A n c], .pointer (some ⟨w.heap.size, 0, none⟩), .pointer (some ⟨w.heap.size + 1, 0, none⟩), .agg #[.string nm, .slice A n c], .bool (zax (nm, ts)), .bool false, .agg #[.string nm, .slice A n c], .func (.func 153) #[] #[.pointer (some ⟨w1.heap.size, 0, none⟩)], .string x], defers := [] }) ?assign ?body ?done ?stop
    case assign =>
      intro l x W K hK; gi_wp2; simpa using hK
    case body =>
      rintro l pre x W ⟨⟨_, a2, a9⟩, hB⟩ _; gi_wp2; exact ⟨KeepsOthers.setCell _ _ _, ⟨rfl, by simp, World.cell?_setCell_same' _ _ _ (by rw [a2]; rfl)⟩, hB.setCell (p := ⟨w.heap.size + 1, 0, none⟩) qag _⟩
    case done =>
      rintro D ys W hD rfl ⟨⟨hne, a2, a9⟩, hB⟩ hK; gi_wp2; have a6 := (KeepsOthers.setCell W ⟨w.heap.size + 1, 0, none⟩ (.bool true)).same D _ hK rfl; refine ⟨by simp, .inl ⟨_, _, rfl, run_takeDeferred a6, ?_⟩⟩; have a5 := cell_kept (World.cell?_setCell_same' W ⟨w.heap.size + 1, 0, none⟩ (.bool true) (by rw [a2]; rfl)) (grownBy_putObj' _ D (.deferred none)) (fun r e => by cases e; exact ⟨_, a6, rfl⟩); refine ⟨.bool true, ?_, by rw [factB_vars HD.out hne], (hB.setCell (p := ⟨w.heap.size + 1, 0, none⟩) qag _).trans (belowK_b (w := w) (nl _) _ D _ _ qaa a6 rfl rfl)⟩; simp [results, Tryz.f86, go_sem, a5]
    case stop =>
      rintro D c pre W hD a3 ⟨⟨rfl, hne, a2⟩, hB⟩ hK; gi_wp2; refine ⟨by simp, .inl ⟨_, _, rfl, run_takeDeferred hK, ?_⟩⟩; have a5 := cell_kept a2 (grownBy_putObj' _ D (.deferred none)) (fun r e => by cases e; exact ⟨_, hK, rfl⟩); refine ⟨.bool false, ?_, by rw [factB_some (fun e => by rw [e] at a3; exact hne (List.prefix_nil.1 a3))], hB.trans (belowK_b (w := w) (nl _) W D _ _ qaa hK rfl rfl)⟩; simp [results, Tryz.f86, go_sem, a5]
theorem zbg {P : Program} {w : World} {a : Addr} {m : Mode} (f : Fn) (c l : Array Value) : (store a (.func f c l) m).run P w = stored P w a (.func f c l) m := run_store P w a _ m rfl
attribute [local go_sem] zbg
def listV (A : Option Addr) (n c : Nat) : Value := .agg #[.slice A n c, .func (.func 88) #[] #[]]
theorem zdz (A : Option Addr) (n c : Nat) (w : World) :
    Calls Tryz.prog 54 #[.slice A n c] w fun e w' => e = .returned (listV A n c) ∧ Below w.heap.size w w' := by
  go_enter Tryz.func54, Tryz.ntmps54; go_wp2; exact bodyPost_ret (v := listV A n c) (by simp [results, Tryz.results54, go_sem, listV]) rfl ⟨rfl, zac w _⟩
theorem isSorted_any (A : Option Addr) (n c : Nat) (xs : List At) (w : World) (h : IsAtoms w 0 w.heap.size A n c xs) :
    Calls Tryz.prog 87 #[listV A n c] w (zas (zaj xs) w) := by
  have hn := h.len; unfold maxLen at hn; have L := hid h.1; have H := hid h; clear h; unfold listV; have hw0 := zac w (.cells #[.slice A n c, .func (.func 88) #[] #[]] 92); have X0 := hid (Box.new w (.slice A n c) (.func (.func 88) #[] #[]) 92); go_enter Tryz.func87, Tryz.ntmps87
  go_wp2; go_loopw [3] (fun i wr => ∃ k : Nat, 1 ≤ k ∧ k ≤ n + 1 ∧ i = .int .i64 k ∧ zaj (xs.take k) = true ∧ Below (w.alloc (.cells #[.slice A n c, .func (.func 88) #[] #[]] 92)).heap.size (w.alloc (.cells #[.slice A n c, .func (.func 88) #[] #[]] 92)) wr) (fun i _ => n + 1 - (intOf i).toNat)
  case atStart => exact ⟨1, by omega, by omega, rfl, rises_next (xs := xs) rfl rfl, Below.refl _ _⟩
  case round =>
    obtain ⟨k, hk1, hk, rfl, hr, hb⟩ := hrel; have HR := hid hr; clear hr; have HB := zaa hw0 hb; have XB := X0.out.later hb; by_cases hlt : k < n
    · obtain ⟨p, q, hA, hlo, hhi, hg, hE⟩ := (H.out.below AtomE.stays HB (nl _)).at_ hlt
      obtain ⟨A', n', c', d1, d3, d4, d5⟩ := hE.out; clear hE; obtain ⟨j, hj⟩ : ∃ j, k = j + 1 := ⟨k - 1, by omega⟩; have a5 : j < n := qaa; have a6 : (k : Int) - 1 = (j : Int) := qaa; have hwj : IntKind.i64.wrap (j : Int) = (j : Int) := qao; have HJ := hid hj; clear hj; obtain ⟨p', q', a2, a9, a8, a4, a3⟩ := (H.out.below AtomE.stays HB (nl _)).at_ a5; obtain ⟨A2, n2, c2, f1, f3, f4, f5⟩ := a3.out; clear a3; obtain rfl : p = p' := by rw [hA] at a2; injection a2
      clear a2; subst hA; obtain ⟨b0, b1, b2⟩ := XB; have hsz := HB.size; have HG := hid hg; have HG' := hid a4; clear hg a4; have HT := hid (d5.keep (w' := wr.drew) (lo' := 0) (hi' := wr.drew.heap.size) (fun _ _ _ => rfl) (nl _) HB.size); clear d5; have a7 := hid (f5.keep (w' := wr.drew) (lo' := 0) (hi' := wr.drew.heap.size) (fun _ _ _ => rfl) (nl _) HB.size); clear f5; have hbd := hb.drew; have e1 : wr.drew.cell? ⟨w.heap.size, 0, none⟩ = some (.slice (some p) n c) := b1; have e2 : wr.drew.cell? ⟨w.heap.size, 1, none⟩ = some (.func (.func 88) #[] #[]) := b2
      have x1 : wr.drew.cell? (p.add (k * 2)) = some (.string q.1) := d1; have x2 : wr.drew.cell? ⟨(p.add (k * 2)).block, (p.add (k * 2)).off + 1, none⟩ = some (.slice A' n' c') := d4; have x3 : wr.drew.cell? (p.add (j * 2)) = some (.string q'.1) := f1; have x4 : wr.drew.cell? ⟨(p.add (j * 2)).block, (p.add (j * 2)).off + 1, none⟩ = some (.slice A2 n2 c2) := f4; go_wp2_with fail
      go_region_held3 (fun W => ((W.cell? ⟨w.heap.size, 0, none⟩ = some (.slice (some p) n c) ∧ W.cell? ⟨w.heap.size, 1, none⟩ = some (.func (.func 88) #[] #[])) ∧ W.cell? (p.add (k * 2)) = some (.string q.1) ∧ W.cell? ⟨(p.add (k * 2)).block, (p.add (k * 2)).off + 1, none⟩ = some (.slice A' n' c')) ∧ W.cell? (p.add (j * 2)) = some (.string q'.1) ∧ W.cell? ⟨(p.add (j * 2)).block, (p.add (j * 2)).off + 1, none⟩ = some (.slice A2 n2 c2))
        (first | (with_reducible exact ⟨⟨⟨y5, y6⟩, y1, y2⟩, y3, y4⟩) | (with_reducible exact ⟨⟨⟨e1, e2⟩, x1, x2⟩, x3, x4⟩) | (with_reducible exact ⟨⟨⟨b1, b2⟩, d1, d4⟩, f1, f4⟩))
        (((with_reducible refine (zgm q'.1 q.1 A2 A' n2 c2 n' c' q'.2 q.2 _ a7.out HT.out).mono ?_); rintro e w1 ⟨rfl, hb1⟩; have y1 := (hb1.cell (p := p.add (k * 2)) qdc).trans d1; have y2 := (hb1.cell (p := ⟨(p.add (k * 2)).block, (p.add (k * 2)).off + 1, none⟩) qdc).trans d4; have y3 := (hb1.cell (p := p.add (j * 2)) qdc).trans f1; have y4 := (hb1.cell (p := ⟨(p.add (j * 2)).block, (p.add (j * 2)).off + 1, none⟩) qdc).trans f4; have y5 := (hb1.cell (p := ⟨w.heap.size, 0, none⟩) b0).trans b1; have y6 := (hb1.cell (p := ⟨w.heap.size, 1, none⟩) b0).trans b2))
      all_goals
        clear y1 y2 y3 y4 y5 y6 x1 x2 x3 x4 e1 e2; go_wp2
      all_goals first
        | (go_ret; exact ⟨zdb (zny (a := q') (b := q) HG'.out (by rw [← HJ.out]; exact HG.out) (Int.not_lt.2 qbn)).symm, zaa hw0 (zaa hbd hb1)⟩)
        | (go_roundw
           case rel => exact ⟨k + 1, by omega, by omega, by go_num, by
             have h1 := HG.out; have h2 := HR.out; rw [HJ.out] at h1 h2 ⊢; exact ziv (a := q') (b := q) HG'.out h1 h2 qbn, zaa hbd hb1⟩
           case measure => exact qms)
    · have E := hid (show zaj xs = true by have := HR.out; rwa [List.take_of_length_le (by have := L.out; omega)] at this)
      obtain ⟨b0, b1, b2⟩ := XB; go_wp2; go_ret; exact ⟨zdb E.out.symm, HB⟩
theorem zhg (A : Option Addr) (n c : Nat) (xs : List At) (w : World) (h : IsAtoms w 0 w.heap.size A n c xs) :
    Calls Tryz.prog 53 #[.slice A n c] w (zas (zag 300 xs) w) := by
  have hn := h.len; unfold maxLen at hn; have L := hid h.1; have H := hid h; clear h; by_cases hlong : 300 < n
  · have hi : (300 : Int) < (n : Int) := qaa
    have E := hid (factsB_long (m := 300) (xs := xs) (by rw [L.out]; exact hlong)); go_enter Tryz.func53, Tryz.ntmps53; go_wp2; go_ret; exact ⟨zdb E.out.symm, Below.refl _ _⟩
  · have hi : ¬ (300 : Int) < (n : Int) := qaa
    go_enter Tryz.func53, Tryz.ntmps53; go_wp2; go_loopw [4, 10] (fun _ i wr => ∃ k : Nat, k ≤ n ∧ i = .int .i64 k ∧ (xs.take k).all zby = true ∧ Below w.heap.size w wr) (fun _ i _ => n - (intOf i).toNat)
    case atStart => exact ⟨0, Nat.zero_le _, rfl, rfl, Below.refl _ _⟩
    case round =>
      obtain ⟨k, hk, rfl, hd, hb⟩ := hrel; have HD := hid hd; clear hd; by_cases hlt : k < n
      · obtain ⟨p, q, hA, hlo, hhi, hg, hE⟩ := (H.out.below AtomE.stays hb (nl _)).at_ hlt
        obtain ⟨A', n', c', d1, d3, d4, d5⟩ := hE.out; clear hE; subst hA; have HG := hid hg; clear hg; have hb1 := zac wr (.cells #[.string q.1, .slice A' n' c'] 51); have HT := hid ((d5.keep (lo' := 0) (hi' := wr.heap.size) (fun _ _ _ => rfl) (nl _) hb.size).up hb1); clear d5; cases hF : zby q
        · have a2 : zby (q.1, q.2) = false := hF
          have E := hid (factsB_no (m := 300) HG.out hF); clear hF; go_wp2_with fail; refine (factOk_any _ _ _ _ q.2 _ d3 HT.out).mono ?_; rintro e w1 ⟨rfl, hb2⟩; go_wp2; go_ret; exact ⟨zdb E.out.symm, zaa hb (zaa hb1 hb2)⟩
        · have a2 : zby (q.1, q.2) = true := hF
          have EF := hid hF; clear hF; go_wp2_with fail; refine (factOk_any _ _ _ _ q.2 _ d3 HT.out).mono ?_; rintro e w1 ⟨rfl, hb2⟩; go_wp2; go_roundw
          case rel => exact ⟨k + 1, by omega, by go_num, zkh HG.out HD.out EF.out, zaa hb (zaa hb1 hb2)⟩
          case measure => exact qms
      · have E := hid (show zag 300 xs = zaj xs by
          have h1 := HD.out; have h2 := L.out; rw [List.take_of_length_le qaa] at h1; unfold zag; rw [h1, Bool.true_and, decide_eq_true qaa, Bool.and_true])
        go_wp2_with fail; refine (zdz _ _ _ _).mono ?_; rintro e w1 ⟨rfl, hb1⟩; go_wp2_with fail; refine (isSorted_any _ _ _ xs _ (H.out.up AtomE.stays (zaa hb hb1))).mono ?_; rintro e w2 ⟨rfl, hb2⟩; go_wp2; go_ret; exact ⟨zdb E.out.symm, zaa (zaa hb hb1) hb2⟩
end Go.Proofs.YtogonjkklioaaaaGreatDoor
