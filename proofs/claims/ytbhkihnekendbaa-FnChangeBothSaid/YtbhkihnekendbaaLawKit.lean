/-
  What the laws of facts and changes ask, of lists: what was added can be taken away, a change leads there and back, done again nothing changes.
  Sameness of lists of facts, as the laws ask for it, and whether one is among them.
  What the laws of facts call, in one form: lists told, and whether it was done.
-/
import Derived.Test.YtbhkihnekendbaaDo
import Derived.Test.YtbhkihnekendbaaChangeOf
import Derived.Test.YtbhkihnekendbaaHas
import Derived.Test.YtbhkihnekendbaaFs
import Derived.Test.YtbhkihnekendbaaEq
import Derived.Test.YtbhkihnekendbaaDrawFacts
import Derived.Test.YtbhkihnekendbaaFactsImpl
import Derived.Test.YtbhkihnekendbaaL3Ok
namespace Go.Proofs.Ytbhkihnekendbaa
open Go.RowKit

theorem textEq_iff (a b : ByteArray) : (a.toList == b.toList) = true ↔ a = b := by
  constructor
  · intro h
    have h := eq_of_beq h
    rw [ByteArray.toList_eq, ByteArray.toList_eq] at h
    exact bytesEq h
  · rintro rfl; simp

theorem termsEq_iff : ∀ a b : List Tm, termsEq a b = true ↔ a = b
  | [], [] => by simp [termsEq]
  | [], _ :: _ => by simp [termsEq]
  | _ :: _, [] => by simp [termsEq]
  | x :: l, y :: m => by
    show (termEq x y && termsEq l m) = true ↔ _
    rw [Bool.and_eq_true, termsEq_iff l m]
    unfold termEq
    rw [Bool.and_eq_true, textEq_iff]
    constructor
    · rintro ⟨⟨h1, h2⟩, rfl⟩
      rw [show x = y from Prod.ext (eq_of_beq h1) h2]
    · intro h; injection h with h1 h2; subst h1; exact ⟨⟨by simp, rfl⟩, h2⟩

theorem atomEq_iff (a b : At) : atomEq a b = true ↔ a = b := by
  unfold atomEq
  rw [Bool.and_eq_true, textEq_iff, termsEq_iff]
  constructor
  · rintro ⟨h1, h2⟩; exact Prod.ext h1 h2
  · rintro rfl; exact ⟨rfl, rfl⟩

/-- One of these atoms is just this. -/
def hasE (xs : List At) (a : At) : Bool := xs.any fun x => atomEq x a

theorem hasE_mem {xs : List At} {a : At} : hasE xs a = true ↔ a ∈ xs := by
  unfold hasE
  rw [List.any_eq_true]
  constructor
  · rintro ⟨x, hx, h⟩; rw [← (atomEq_iff x a).1 h]; exact hx
  · intro h; exact ⟨a, h, (atomEq_iff a a).2 rfl⟩

theorem hasE_is {xs : List At} {a : At} {p : Prop} [Decidable p] (h : a ∈ xs ↔ p) : hasE xs a = decide p := by
  rw [Bool.eq_iff_iff, hasE_mem, decide_eq_true_eq]; exact h

theorem facts_parts {m : Nat} {xs : List At} (h : factsB m xs = true) : FactsAll xs ∧ risesB xs = true ∧ xs.length ≤ m := ⟨facts_all h, factsB_rises h, factsB_len h⟩

theorem facts_of {m : Nat} {xs : List At} (h1 : FactsAll xs) (h2 : risesB xs = true) (h3 : xs.length ≤ m) : factsB m xs = true := by
  unfold factsB
  rw [h2, decide_eq_true h3, show xs.all factB = true from List.all_eq_true.2 h1]; rfl

theorem mem_less {xs ys : List At} (hx : FactsAll xs) (hy : FactsAll ys) (a : At) : a ∈ lessL xs ys ↔ a ∈ xs ∧ a ∉ ys := by
  unfold lessL
  rw [List.mem_filter]
  constructor
  · rintro ⟨h1, h2⟩
    refine ⟨h1, fun h => ?_⟩
    rw [(hasB_mem hy (hx a h1)).2 h] at h2; cases h2
  · rintro ⟨h1, h2⟩
    refine ⟨h1, ?_⟩
    cases hb : hasB ys a
    · rfl
    · exact absurd ((hasB_mem hy (hx a h1)).1 hb) h2

theorem mem_gone {xs : List At} {a : At} (hx : FactsAll xs) (ha : factB a = true) (y : At) : y ∈ xs.filter (fun y => !hasB [a] y) ↔ y ∈ xs ∧ y ≠ a := by
  have h := mem_less (xs := xs) (ys := [a]) hx (fun q hq => by rw [List.mem_singleton.1 hq]; exact ha) y
  unfold lessL at h
  rw [h]; simp

theorem addL_case {xs P : List At} {a : At} {q : Bool} (hf : factsB 300 xs = true) (h : addL xs a = (P, q)) :
    (q = false ∧ P = xs) ∨ (q = true ∧ P = putL xs a ∧ factB a = true ∧ hasB xs a = false ∧ xs.length < 300) := by
  unfold addL at h
  rw [if_pos hf] at h
  by_cases hc : (factB a && (!hasB xs a && decide (xs.length < 300))) = true
  · rw [if_pos hc] at h
    simp only [Bool.and_eq_true, Bool.not_eq_true', decide_eq_true_eq] at hc
    injection h with h1 h2
    exact .inr ⟨h2.symm, h1.symm, hc.1, hc.2.1, hc.2.2⟩
  · rw [if_neg hc] at h
    injection h with h1 h2
    exact .inl ⟨h2.symm, h1.symm⟩

theorem goneL_case {xs P : List At} {a : At} {q : Bool} (hf : factsB 300 xs = true) (h : goneL xs a = (P, q)) :
    (q = false ∧ P = xs ∧ (factB a && hasB xs a) = false) ∨ (q = true ∧ P = xs.filter (fun y => !hasB [a] y) ∧ factB a = true ∧ hasB xs a = true) := by
  unfold goneL at h
  rw [if_pos hf] at h
  by_cases hc : (factB a && hasB xs a) = true
  · rw [if_pos hc] at h
    simp only [Bool.and_eq_true] at hc
    injection h with h1 h2
    exact .inr ⟨h2.symm, h1.symm, hc.1, hc.2⟩
  · rw [if_neg hc] at h
    injection h with h1 h2
    exact .inl ⟨h2.symm, h1.symm, by simpa using hc⟩

/-- What was added is there, can't be added again, and can be taken away. -/
theorem add_law {xs P : List At} {a : At} (hf : factsB 300 xs = true) (h : addL xs a = (P, true)) :
    factsB 300 P = true ∧ hasFB P a = true ∧ addL P a = (P, false) ∧ goneL P a = (xs, true) := by
  obtain ⟨h0, _⟩ | ⟨_, rfl, ha, hn, hl⟩ := addL_case hf h
  · cases h0
  obtain ⟨hx, hr, _⟩ := facts_parts hf
  have hp := put_facts hx ha
  have hpr : risesB (putL xs a) = true := put_rises hr
  have hl' := put_len xs a
  have hfp : factsB 300 (putL xs a) = true := facts_of hp hpr (by omega)
  have hb : hasB (putL xs a) a = true := (hasB_mem hp ha).2 ((mem_put hx ha a).2 (.inr rfl))
  refine ⟨hfp, by unfold hasFB; rw [hfp, ha, hb]; rfl, ?_, ?_⟩
  · unfold addL; rw [if_pos hfp, hb, if_neg (by simp)]
  · unfold goneL; rw [if_pos hfp, hb, ha, show (true && true) = true from rfl, if_pos rfl]
    refine Prod.ext ?_ rfl
    refine sorted_ext (rises_filter hpr) hr fun y => ?_
    rw [mem_gone hp ha, mem_put hx ha]
    have hna : a ∉ xs := fun hm => by rw [(hasB_mem hx ha).2 hm] at hn; cases hn
    constructor
    · rintro ⟨h1 | h1, h2⟩
      · exact h1
      · exact absurd h1 h2
    · intro h1; exact ⟨.inl h1, fun e => hna (e ▸ h1)⟩

/-- What was taken away is not there, and can be added. -/
theorem gone_law {xs P : List At} {a : At} (hf : factsB 300 xs = true) (h : goneL xs a = (P, true)) :
    factsB 300 P = true ∧ hasFB P a = false ∧ addL P a = (xs, true) := by
  obtain ⟨h0, _⟩ | ⟨_, rfl, ha, hb⟩ := goneL_case hf h
  · cases h0
  obtain ⟨hx, hr, hl⟩ := facts_parts hf
  have hP : FactsAll (xs.filter (fun y => !hasB [a] y)) := fun q hq => hx q (List.mem_filter.1 hq).1
  have hPr : risesB (xs.filter (fun y => !hasB [a] y)) = true := rises_filter hr
  have hm : a ∈ xs := (hasB_mem hx ha).1 hb
  have hnb : hasB (xs.filter (fun y => !hasB [a] y)) a = false := by
    cases hc : hasB (xs.filter (fun y => !hasB [a] y)) a
    · rfl
    · exact absurd rfl ((mem_gone hx ha a).1 ((hasB_mem hP ha).1 hc)).2
  have hlt : (xs.filter (fun y => !hasB [a] y)).length < xs.length := by
    refine Nat.lt_of_le_of_ne (List.length_filter_le _ _) fun e => ?_
    have := List.filter_eq_self.1 (List.length_filter_eq_length_iff.1 e |> List.filter_eq_self.2) a hm
    have h1 : hasB [a] a = true := (hasB_mem (fun q hq => by rw [List.mem_singleton.1 hq]; exact ha) ha).2 (by simp)
    rw [h1] at this; cases this
  have hfP : factsB 300 (xs.filter (fun y => !hasB [a] y)) = true := facts_of hP hPr (by omega)
  refine ⟨hfP, by unfold hasFB; rw [hnb]; simp, ?_⟩
  unfold addL
  rw [if_pos hfP, ha, hnb, decide_eq_true (by omega), show (true && (!false && true)) = true from rfl, if_pos rfl]
  refine Prod.ext ?_ rfl
  refine sorted_ext (put_rises hPr) hr fun y => ?_
  rw [mem_put hP ha, mem_gone hx ha]
  constructor
  · rintro (h1 | rfl)
    · exact h1.1
    · exact hm
  · intro h1
    by_cases e : y = a
    · exact .inr e
    · exact .inl ⟨h1, e⟩

theorem mem_do {xs cs gs : List At} (hx : FactsAll xs) (hr : risesB xs = true) (hc : FactsAll cs) (hg : FactsAll gs) (y : At) : y ∈ doL xs cs gs ↔ (y ∈ xs ∧ y ∉ gs) ∨ y ∈ cs := by
  unfold doL
  rw [(puts_all (less_all hx) hc (less_rises hr)).2.2.1 y, mem_less hx hg]

theorem changeB_of {cs gs : List At} (hc : factsB 300 cs = true) (hg : factsB 300 gs = true) (h : ∀ y ∈ cs, y ∉ gs) : changeB cs gs = true := by
  unfold changeB
  rw [hc, hg]
  show apartB cs gs = true
  unfold apartB
  rw [List.all_eq_true]
  intro y hy
  cases hb : hasB gs y
  · rfl
  · exact absurd ((hasB_mem (facts_all hg) (facts_all hc y hy)).1 hb) (h y hy)

/-- The change from facts to others leads there. -/
theorem of_leads {xs ys : List At} (hx : factsB 300 xs = true) (hy : factsB 300 ys = true) : doneL xs (lessL ys xs) (lessL xs ys) = (ys, true) := by
  obtain ⟨x1, x2, x3⟩ := facts_parts hx
  obtain ⟨y1, y2, y3⟩ := facts_parts hy
  have hc : factsB 300 (lessL ys xs) = true := facts_of (less_all y1) (less_rises y2) (Nat.le_trans (less_le _ _) y3)
  have hg : factsB 300 (lessL xs ys) = true := facts_of (less_all x1) (less_rises x2) (Nat.le_trans (less_le _ _) x3)
  have e : doL xs (lessL ys xs) (lessL xs ys) = ys := by
    refine sorted_ext (do_all x1 x2 (less_all y1)).2.1 y2 fun a => ?_
    rw [mem_do x1 x2 (less_all y1) (less_all x1), mem_less y1 x1, mem_less x1 y1]
    constructor
    · rintro (⟨h1, h2⟩ | ⟨h1, _⟩)
      · exact Classical.byContradiction fun h => h2 ⟨h1, h⟩
      · exact h1
    · intro h
      by_cases hm : a ∈ xs
      · exact .inl ⟨hm, fun h' => h'.2 h⟩
      · exact .inr ⟨h, hm⟩
  have hch : changeB (lessL ys xs) (lessL xs ys) = true := changeB_of hc hg fun y h1 h2 => ((mem_less y1 x1 y).1 h1).2 ((mem_less x1 y1 y).1 h2).1
  unfold doneL
  rw [e, hx, hch, hy]; rfl

theorem of_change {xs ys : List At} (hx : factsB 300 xs = true) (hy : factsB 300 ys = true) : changeB (lessL ys xs) (lessL xs ys) = true := by
  obtain ⟨x1, x2, x3⟩ := facts_parts hx
  obtain ⟨y1, y2, y3⟩ := facts_parts hy
  exact changeB_of (facts_of (less_all y1) (less_rises y2) (Nat.le_trans (less_le _ _) y3)) (facts_of (less_all x1) (less_rises x2) (Nat.le_trans (less_le _ _) x3)) fun y h1 h2 => ((mem_less y1 x1 y).1 h1).2 ((mem_less x1 y1 y).1 h2).1

theorem less_self {xs : List At} (hx : factsB 300 xs = true) : lessL xs xs = [] := by
  obtain ⟨x1, x2, x3⟩ := facts_parts hx
  rw [List.eq_nil_iff_forall_not_mem]
  intro a h
  have := (mem_less x1 x1 a).1 h
  exact this.2 this.1

/-- Of what was there nothing comes, and what goes is just what isn't there behind it. -/
theorem of_each {xs ys : List At} (hx : factsB 300 xs = true) (hy : factsB 300 ys = true) {q : At} (h : q ∈ xs) : hasE (lessL ys xs) q = false ∧ hasE (lessL xs ys) q = !hasE ys q := by
  obtain ⟨x1, x2, x3⟩ := facts_parts hx
  obtain ⟨y1, y2, y3⟩ := facts_parts hy
  constructor
  · cases hc : hasE (lessL ys xs) q
    · rfl
    · exact absurd h ((mem_less y1 x1 q).1 (hasE_mem.1 hc)).2
  · rw [Bool.eq_iff_iff, hasE_mem, mem_less x1 y1]
    constructor
    · rintro ⟨_, h2⟩
      cases hc : hasE ys q
      · rfl
      · exact absurd (hasE_mem.1 hc) h2
    · intro h2
      refine ⟨h, fun h3 => ?_⟩
      rw [hasE_mem.2 h3] at h2; cases h2

/-- Behind a change what comes is there, what goes is not, and done again nothing changes. -/
theorem do_law {xs cs gs : List At} (hx : factsB 300 xs = true) (hc : changeB cs gs = true) (hl : xs.length + cs.length ≤ 300) :
    ∃ D, doneL xs cs gs = (D, true) ∧ factsB 300 D = true ∧ doneL D cs gs = (D, true) ∧ (∀ q ∈ xs, hasE D q = !hasE gs q) ∧ (∀ q ∈ cs, hasE D q = true) := by
  obtain ⟨x1, x2, x3⟩ := facts_parts hx
  have hp := changeB_parts (cs := cs) (gs := gs) (by rw [hc]; rfl)
  obtain ⟨c1, c2, c3⟩ := facts_parts hp.1
  obtain ⟨g1, g2, g3⟩ := facts_parts hp.2
  have hap : ∀ y ∈ cs, y ∉ gs := by
    intro y hy hy'
    unfold changeB at hc
    rw [hp.1, hp.2] at hc
    have h2 : apartB cs gs = true := hc
    unfold apartB at h2
    have := List.all_eq_true.1 h2 y hy
    rw [(hasB_mem g1 (c1 y hy)).2 hy'] at this; cases this
  obtain ⟨d1, d2, d3⟩ := do_all (gs := gs) x1 x2 c1
  have hm := mem_do x1 x2 c1 g1
  have hD : factsB 300 (doL xs cs gs) = true := facts_of d1 d2 (by omega)
  have he : doL (doL xs cs gs) cs gs = doL xs cs gs := by
    refine sorted_ext (do_all d1 d2 c1).2.1 d2 fun y => ?_
    rw [mem_do d1 d2 c1 g1, hm]
    constructor
    · rintro (⟨h1, _⟩ | h1)
      · exact h1
      · exact .inr h1
    · rintro (⟨h1, h2⟩ | h1)
      · exact .inl ⟨.inl ⟨h1, h2⟩, h2⟩
      · exact .inr h1
  refine ⟨doL xs cs gs, by unfold doneL; rw [hx, hc, hD]; rfl, hD, by unfold doneL; rw [hD, hc, he, hD]; rfl, fun q hq => ?_, fun q hq => hasE_mem.2 ((hm q).2 (.inr hq))⟩
  rw [Bool.eq_iff_iff, hasE_mem, hm]
  constructor
  · rintro (⟨_, h2⟩ | h1)
    · cases hh : hasE gs q
      · rfl
      · exact absurd (hasE_mem.1 hh) h2
    · cases hh : hasE gs q
      · rfl
      · exact absurd (hasE_mem.1 hh) (hap q h1)
  · intro h2
    refine .inl ⟨hq, fun h3 => ?_⟩
    rw [hasE_mem.2 h3] at h2; cases h2

end Go.Proofs.Ytbhkihnekendbaa

namespace Go.Proofs.Ytbhkihnekendbaa
open Go.RowKit

set_option maxHeartbeats 1000000 in
theorem fsSame_any (A B : Option Addr) (n c n' c' : Nat) (xs ys : List At) (w : World) (h : IsAtoms w 0 w.heap.size A n c xs) (h' : IsAtoms w 0 w.heap.size B n' c' ys) :
    Calls Try.prog 17 #[.slice A n c, .slice B n' c'] w (BoolPost (listEq atomEq xs ys) w) := by
  have hm := h.len
  unfold maxLen at hm
  have H := Lib.hid h; clear h
  have H' := Lib.hid h'; clear h'
  by_cases hne : n = n'
  · subst hne
    go_enter Try.func17, Try.ntmps17
    go_wp2
    go_loopw [5] (fun i wr => ∃ k : Nat, k ≤ n ∧ i = .int .i64 k ∧ listEq atomEq (xs.drop k) (ys.drop k) = listEq atomEq xs ys ∧ Below w.heap.size w wr) (fun i _ => n - (intOf i).toNat)
    case atStart => exact ⟨0, Nat.zero_le _, rfl, rfl, Below.refl _ _⟩
    case round =>
      obtain ⟨k, hk, rfl, hd, hb⟩ := hrel
      have HD := Lib.hid hd; clear hd
      by_cases hlt : k < n
      · obtain ⟨p, q, hA, hlo, hhi, hg, hE⟩ := (H.out.below AtomE.stays hb (Nat.le_refl _)).at_ hlt
        obtain ⟨p', q', hA', hlo', hhi', hg', hE'⟩ := (H'.out.below AtomE.stays hb (Nat.le_refl _)).at_ hlt
        obtain ⟨C, m, d, d1, d3, d4, d5⟩ := hE.out
        obtain ⟨C', m', d', f1, f3, f4, f5⟩ := hE'.out
        clear hE hE'
        subst hA; subst hA'
        have HG := Lib.hid hg; clear hg
        have HG' := Lib.hid hg'; clear hg'
        have HT := Lib.hid (d5.keep (w' := wr.drew) (lo' := 0) (hi' := wr.drew.heap.size) (fun _ _ _ => rfl) (Nat.le_refl _) hb.size); clear d5
        have HT' := Lib.hid (f5.keep (w' := wr.drew) (lo' := 0) (hi' := wr.drew.heap.size) (fun _ _ _ => rfl) (Nat.le_refl _) hb.size); clear f5
        have hbd := hb.drew
        go_wp2_with fail
        go_region_with (go_at_call 80; refine (fsAtom_any _ _ _ _ _ _ _ _ q.2 q'.2 _ HT.out HT'.out).mono ?_; rintro e w1 ⟨rfl, hb1⟩)
        all_goals go_wp2
        all_goals first
          | (go_ret; exact ⟨retB (listEq_no HG.out HG'.out HD.out (by assumption)), belowThen hbd hb1⟩)
          | (go_roundw
             case rel => exact ⟨k + 1, by omega, by go_num, listEq_on HG.out HG'.out HD.out (by assumption), belowThen hbd hb1⟩
             case measure => simp [intOf]; omega)
      · have hl := Lib.hid H.out.1
        have hl' := Lib.hid H'.out.1
        go_wp2
        go_ret
        exact ⟨retB (listEq_end hl.out hl'.out HD.out hlt), hb⟩
  · have hlen : xs.length ≠ ys.length := by rw [H.out.1, H'.out.1]; exact hne
    go_enter Try.func17, Try.ntmps17
    go_wp2
    go_ret
    exact ⟨retB (listEq_len hlen).symm, Below.refl _ _⟩

theorem listEq_self (xs : List At) : listEq atomEq xs xs = true := by
  induction xs with
  | nil => rfl
  | cons x l ih => simp [listEq, atomEq_refl, ih]

theorem hasE_on {xs : List At} {k : Nat} {q a : At} (hg : xs[k]? = some q) (h : hasE (xs.drop k) a = hasE xs a) (he : atomEq q a = false) : hasE (xs.drop (k + 1)) a = hasE xs a := by
  obtain ⟨h1, h2⟩ := List.getElem?_eq_some_iff.1 hg
  rw [← h, List.drop_eq_getElem_cons h1, h2]
  unfold hasE; rw [List.any_cons, he, Bool.false_or]

theorem hasE_yes {xs : List At} {k : Nat} {q a : At} (hg : xs[k]? = some q) (he : atomEq q a = true) : hasE xs a = true := by
  unfold hasE; rw [List.any_eq_true]; exact ⟨q, List.mem_of_getElem? hg, he⟩

theorem hasE_end {xs : List At} {k n : Nat} {a : At} (hl : xs.length = n) (h : hasE (xs.drop k) a = hasE xs a) (hk : ¬ k < n) : hasE xs a = false := by
  rw [← h, List.drop_eq_nil_of_le (by omega)]; rfl

set_option maxHeartbeats 1000000 in
theorem fsHas_any (A : Option Addr) (n c : Nat) (xs : List At) (nm : ByteArray) (B : Option Addr) (m d : Nat) (ts : List Tm) (w : World) (h : IsAtoms w 0 w.heap.size A n c xs) (h' : IsTerms w 0 w.heap.size B m d ts) :
    Calls Try.prog 29 #[.slice A n c, .agg #[.string nm, .slice B m d]] w (BoolPost (hasE xs (nm, ts)) w) := by
  have hm := h.len
  unfold maxLen at hm
  have H := Lib.hid h; clear h
  have H' := Lib.hid h'; clear h'
  go_enter Try.func29, Try.ntmps29
  have hw0 := below1 w (.cells #[.string nm, .slice B m d] 26)
  have X0 := Lib.hid (Box.new w (.string nm) (.slice B m d) 26)
  obtain ⟨W0, hW0⟩ : ∃ W0, w.alloc (.cells #[.string nm, .slice B m d] 26) = W0 := ⟨_, rfl⟩
  go_wp2_with fail
  rw [hW0] at hw0 X0
  have HW := Lib.hid hw0
  go_loopw [5] (fun i wr => ∃ k : Nat, k ≤ n ∧ i = .int .i64 k ∧ hasE (xs.drop k) (nm, ts) = hasE xs (nm, ts) ∧ Below W0.heap.size W0 wr) (fun i _ => n - (intOf i).toNat)
  case atStart => exact ⟨0, Nat.zero_le _, rfl, rfl, Below.refl _ _⟩
  case round =>
    obtain ⟨k, hk, rfl, hd, hb⟩ := hrel
    have HD := Lib.hid hd; clear hd
    have hb2 := belowThen HW.out hb
    by_cases hlt : k < n
    · obtain ⟨p, q, hA, hlo, hhi, hg, hE⟩ := (H.out.below AtomE.stays hb2 (Nat.le_refl _)).at_ hlt
      obtain ⟨C, m', d', d1, d3, d4, d5⟩ := hE.out
      clear hE
      subst hA
      have HG := Lib.hid hg; clear hg
      have HT := Lib.hid (d5.keep (w' := wr.drew) (lo' := 0) (hi' := wr.drew.heap.size) (fun _ _ _ => rfl) (Nat.le_refl _) hb2.size); clear d5
      have HT' := Lib.hid (show IsTerms wr.drew 0 wr.drew.heap.size B m d ts from H'.out.up hb2.drew)
      obtain ⟨r, e1, e2⟩ := X0.out.later hb
      have hbd := hb.drew
      go_wp2_with fail
      go_region_with (go_at_call 80; refine (fsAtom_any _ _ _ _ _ _ _ _ q.2 ts _ HT.out HT'.out).mono ?_; rintro e w1 ⟨rfl, hb1⟩)
      all_goals go_wp2
      all_goals first
        | (go_ret; exact ⟨retB (hasE_yes HG.out (by assumption)).symm, belowThen HW.out (belowThen hbd hb1)⟩)
        | (go_roundw
           case rel => exact ⟨k + 1, by omega, by go_num, hasE_on HG.out HD.out (by assumption), belowThen hbd hb1⟩
           case measure => simp [intOf]; omega)
    · have hl := Lib.hid H.out.1
      go_wp2
      go_ret
      exact ⟨retB (hasE_end hl.out HD.out hlt).symm, hb2⟩

end Go.Proofs.Ytbhkihnekendbaa

namespace Go.Proofs.Ytbhkihnekendbaa
open Go.RowKit

/-- A list and whether it was done. -/
def ListBPost (P : List At) (q : Bool) (w : World) (e : Ending) (w' : World) : Prop := ∃ (A : Option Addr) (k c : Nat), e = .returned (.tuple #[.slice A k c, .bool q]) ∧ IsAtoms w' 0 w'.heap.size A k c P ∧ Below w.heap.size w w'

theorem ReadBPost.list {p : List At × Bool} {P : List At} {q : Bool} {w w' : World} {e : Ending} (hp : p = (P, q)) (h : ReadBPost p w e w') : ListBPost P q w e w' := by
  subst hp
  obtain ⟨A, c, rs, rfl, hI, hm, hb⟩ := h
  refine ⟨A, _, c, rfl, ?_, hb⟩
  have := hI.atoms
  rwa [hm] at this

theorem OwnBPost.list {p : List At × Bool} {P : List At} {q : Bool} {w w' : World} {e : Ending} (hp : p = (P, q)) (h : OwnBPost p w e w') : ListBPost P q w e w' := by
  obtain ⟨A, c, rs, he, ho, hm, hb⟩ := h
  have hI := ho.refs.keep (w' := w') RefE.stays (fun _ _ _ => rfl) (Nat.zero_le _) (Nat.le_refl _)
  exact ReadBPost.list hp ⟨A, c, rs, he, hI, hm, hb⟩

section
variable (A : Option Addr) (n c : Nat) (xs : List At) (nm : ByteArray) (B : Option Addr) (m d : Nat) (ts : List Tm) (w : World) (h : IsAtoms w 0 w.heap.size A n c xs) (hs : nm.size ≤ maxLen) (h' : IsTerms w 0 w.heap.size B m d ts) {P : List At} {q : Bool}
include h hs h'
theorem implAdd_list (hp : addL xs (nm, ts) = (P, q)) : Calls Try.prog 15 #[.slice A n c, .agg #[.string nm, .slice B m d]] w (ListBPost P q w) := (implFactsAdd_any A n c xs nm B m d ts w h hs h').mono fun _ _ x => x.list hp
theorem specAdd_list (hp : addL xs (nm, ts) = (P, q)) : Calls Try.prog 16 #[.slice A n c, .agg #[.string nm, .slice B m d]] w (ListBPost P q w) := (specFactsAdd_any A n c xs nm B m d ts w h hs h').mono fun _ _ x => x.list hp
theorem implGone_list (hp : goneL xs (nm, ts) = (P, q)) : Calls Try.prog 22 #[.slice A n c, .agg #[.string nm, .slice B m d]] w (ListBPost P q w) := (implFactsGone_any A n c xs nm B m d ts w h hs h').mono fun _ _ x => x.list hp
theorem specGone_list (hp : goneL xs (nm, ts) = (P, q)) : Calls Try.prog 24 #[.slice A n c, .agg #[.string nm, .slice B m d]] w (ListBPost P q w) := (specFactsGone_any A n c xs nm B m d ts w h hs h').mono fun _ _ x => x.list hp
end

/-- What a call that only looks answers, from any world that keeps what was there. -/
def Tells (w : World) (b : Bool) (e : Ending) (w' : World) : Prop := e = .returned (.bool b) ∧ Below w.heap.size w w'

theorem tells {w W : World} {b b' : Bool} {e : Ending} {W' : World} (hW : Below w.heap.size w W) (hb : b = b') (h : BoolPost b W e W') : Tells w b' e W' := ⟨by rw [← hb]; exact h.1, belowThen hW h.2⟩

theorem same_tells {w W : World} {A B : Option Addr} {n c n' c' : Nat} {xs : List At} (h : IsAtoms w 0 w.heap.size A n c xs) (h' : IsAtoms w 0 w.heap.size B n' c' xs) (hW : Below w.heap.size w W) :
    Calls Try.prog 17 #[.slice A n c, .slice B n' c'] W (Tells w true) :=
  (fsSame_any A B n c n' c' xs xs W (h.up AtomE.stays hW) (h'.up AtomE.stays hW)).mono fun _ _ x => tells hW (listEq_self xs) x

theorem okI_tells {w W : World} {A : Option Addr} {n c : Nat} {xs : List At} {b : Bool} (h : IsAtoms w 0 w.heap.size A n c xs) (hb : factsB 300 xs = b) (hW : Below w.heap.size w W) :
    Calls Try.prog 18 #[.slice A n c] W (Tells w b) := (implFactsOk_any A n c xs W (h.up AtomE.stays hW)).mono fun _ _ x => tells hW hb x

theorem okS_tells {w W : World} {A : Option Addr} {n c : Nat} {xs : List At} {b : Bool} (h : IsAtoms w 0 w.heap.size A n c xs) (hb : factsB 300 xs = b) (hW : Below w.heap.size w W) :
    Calls Try.prog 19 #[.slice A n c] W (Tells w b) := (specFactsOk_any A n c xs W (h.up AtomE.stays hW)).mono fun _ _ x => tells hW hb x

theorem hasI_tells {w W : World} {A B : Option Addr} {n c m d : Nat} {xs : List At} {nm : ByteArray} {ts : List Tm} {b : Bool} (h : IsAtoms w 0 w.heap.size A n c xs) (hs : nm.size ≤ maxLen) (h' : IsTerms w 0 w.heap.size B m d ts) (hb : hasFB xs (nm, ts) = b) (hW : Below w.heap.size w W) :
    Calls Try.prog 20 #[.slice A n c, .agg #[.string nm, .slice B m d]] W (Tells w b) := (implFactsHas_any A n c xs nm B m d ts W hs (h.up AtomE.stays hW) (h'.up hW)).mono fun _ _ x => tells hW hb x

theorem hasS_tells {w W : World} {A B : Option Addr} {n c m d : Nat} {xs : List At} {nm : ByteArray} {ts : List Tm} {b : Bool} (h : IsAtoms w 0 w.heap.size A n c xs) (hs : nm.size ≤ maxLen) (h' : IsTerms w 0 w.heap.size B m d ts) (hb : hasFB xs (nm, ts) = b) (hW : Below w.heap.size w W) :
    Calls Try.prog 21 #[.slice A n c, .agg #[.string nm, .slice B m d]] W (Tells w b) := (specFactsHas_any A n c xs nm B m d ts W hs (h.up AtomE.stays hW) (h'.up hW)).mono fun _ _ x => tells hW hb x

/-- A box of two cells, in every world that keeps what was there. -/
theorem Box.in1 {w W : World} {x : Nat} {u v : Value} (h : Box w x u v) (hW : Below w.heap.size w W) : W.cell? ⟨x, 0, none⟩ = some u := (h.later hW).2.1
theorem Box.in2 {w W : World} {x : Nat} {u v : Value} (h : Box w x u v) (hW : Below w.heap.size w W) : W.cell? ⟨x, 1, none⟩ = some v := (h.later hW).2.2

end Go.Proofs.Ytbhkihnekendbaa

