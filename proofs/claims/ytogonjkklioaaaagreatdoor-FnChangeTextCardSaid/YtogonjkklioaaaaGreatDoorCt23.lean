/-
  Texts of one claim, put together.
-/
import Derived.Test.YtogonjkklioaaaaGreatDoorCt22
import Derived.Test.YtogonjkklioaaaaGreatDoorCt20
import Derived.Test.YtogonjkklioaaaaGreatDoorCt0
import Derived.Test.YtogonjkklioaaaaGreatDoorCt11
import Derived.Test.YtogonjkklioaaaaGreatDoorCt21
import Derived.Test.YtogonjkklioaaaaGreatDoorCt3
import Derived.Test.YtogonjkklioaaaaGreatDoorCt19
import Derived.Test.YtogonjkklioaaaaGreatDoorShelf3
import Derived.Test.YtogonjkklioaaaaGreatDoorCt17
namespace Go.Proofs.YtogonjkklioaaaaGreatDoor
open Go.RowKit

theorem textEq_iff (a b : ByteArray) : (a.toList == b.toList) = true ↔ a = b := by
  constructor
  · intro h
    have h := eq_of_beq h
    rw [ByteArray.toList_eq, ByteArray.toList_eq] at h
    exact bytesEq h
  · rintro rfl; simp

theorem termsEq_iff : ∀ a b : List Tm, termsEq a b = true ↔ a = b
  | [], [] => by simp [termsEq]
  | [], _ :: _ => by simp [termsEq]
  | _ :: _, [] => by simp [termsEq]
  | x :: l, y :: m => by
    show (termEq x y && termsEq l m) = true ↔ _
    rw [Bool.and_eq_true, termsEq_iff l m]
    unfold termEq
    rw [Bool.and_eq_true, textEq_iff]
    constructor
    · rintro ⟨⟨h1, h2⟩, rfl⟩
      rw [show x = y from Prod.ext (eq_of_beq h1) h2]
    · intro h; injection h with h1 h2; subst h1; exact ⟨⟨by simp, rfl⟩, h2⟩

theorem atomEq_iff (a b : At) : atomEq a b = true ↔ a = b := by
  unfold atomEq
  rw [Bool.and_eq_true, textEq_iff, termsEq_iff]
  constructor
  · rintro ⟨h1, h2⟩; exact Prod.ext h1 h2
  · rintro rfl; exact ⟨rfl, rfl⟩

/-- One of these atoms is just this. -/
def hasE (xs : List At) (a : At) : Bool := xs.any fun x => atomEq x a

theorem hasE_mem {xs : List At} {a : At} : hasE xs a = true ↔ a ∈ xs := by
  unfold hasE
  rw [List.any_eq_true]
  constructor
  · rintro ⟨x, hx, h⟩; rw [← (atomEq_iff x a).1 h]; exact hx
  · intro h; exact ⟨a, h, (atomEq_iff a a).2 rfl⟩

theorem hasE_is {xs : List At} {a : At} {p : Prop} [Decidable p] (h : a ∈ xs ↔ p) : hasE xs a = decide p := by
  rw [Bool.eq_iff_iff, hasE_mem, decide_eq_true_eq]; exact h

theorem facts_parts {m : Nat} {xs : List At} (h : factsB m xs = true) : FactsAll xs ∧ risesB xs = true ∧ xs.length ≤ m := ⟨facts_all h, factsB_rises h, factsB_len h⟩

theorem facts_of {m : Nat} {xs : List At} (h1 : FactsAll xs) (h2 : risesB xs = true) (h3 : xs.length ≤ m) : factsB m xs = true := by
  unfold factsB
  rw [h2, decide_eq_true h3, show xs.all factB = true from List.all_eq_true.2 h1]; rfl

theorem mem_less {xs ys : List At} (hx : FactsAll xs) (hy : FactsAll ys) (a : At) : a ∈ lessL xs ys ↔ a ∈ xs ∧ a ∉ ys := by
  unfold lessL
  rw [List.mem_filter]
  constructor
  · rintro ⟨h1, h2⟩
    refine ⟨h1, fun h => ?_⟩
    rw [(hasB_mem hy (hx a h1)).2 h] at h2; cases h2
  · rintro ⟨h1, h2⟩
    refine ⟨h1, ?_⟩
    cases hb : hasB ys a
    · rfl
    · exact absurd ((hasB_mem hy (hx a h1)).1 hb) h2

theorem mem_gone {xs : List At} {a : At} (hx : FactsAll xs) (ha : factB a = true) (y : At) : y ∈ xs.filter (fun y => !hasB [a] y) ↔ y ∈ xs ∧ y ≠ a := by
  have h := mem_less (xs := xs) (ys := [a]) hx (fun q hq => by rw [List.mem_singleton.1 hq]; exact ha) y
  unfold lessL at h
  rw [h]; simp

theorem addL_case {xs P : List At} {a : At} {q : Bool} (hf : factsB 300 xs = true) (h : addL xs a = (P, q)) :
    (q = false ∧ P = xs) ∨ (q = true ∧ P = putL xs a ∧ factB a = true ∧ hasB xs a = false ∧ xs.length < 300) := by
  unfold addL at h
  rw [if_pos hf] at h
  by_cases hc : (factB a && (!hasB xs a && decide (xs.length < 300))) = true
  · rw [if_pos hc] at h
    simp only [Bool.and_eq_true, Bool.not_eq_true', decide_eq_true_eq] at hc
    injection h with h1 h2
    exact .inr ⟨h2.symm, h1.symm, hc.1, hc.2.1, hc.2.2⟩
  · rw [if_neg hc] at h
    injection h with h1 h2
    exact .inl ⟨h2.symm, h1.symm⟩

theorem goneL_case {xs P : List At} {a : At} {q : Bool} (hf : factsB 300 xs = true) (h : goneL xs a = (P, q)) :
    (q = false ∧ P = xs ∧ (factB a && hasB xs a) = false) ∨ (q = true ∧ P = xs.filter (fun y => !hasB [a] y) ∧ factB a = true ∧ hasB xs a = true) := by
  unfold goneL at h
  rw [if_pos hf] at h
  by_cases hc : (factB a && hasB xs a) = true
  · rw [if_pos hc] at h
    simp only [Bool.and_eq_true] at hc
    injection h with h1 h2
    exact .inr ⟨h2.symm, h1.symm, hc.1, hc.2⟩
  · rw [if_neg hc] at h
    injection h with h1 h2
    exact .inl ⟨h2.symm, h1.symm, by simpa using hc⟩

/-- What was added is there, can't be added again, and can be taken away. -/
theorem add_law {xs P : List At} {a : At} (hf : factsB 300 xs = true) (h : addL xs a = (P, true)) :
    factsB 300 P = true ∧ hasFB P a = true ∧ addL P a = (P, false) ∧ goneL P a = (xs, true) := by
  obtain ⟨h0, _⟩ | ⟨_, rfl, ha, hn, hl⟩ := addL_case hf h
  · cases h0
  obtain ⟨hx, hr, _⟩ := facts_parts hf
  have hp := put_facts hx ha
  have hpr : risesB (putL xs a) = true := put_rises hr
  have hl' := put_len xs a
  have hfp : factsB 300 (putL xs a) = true := facts_of hp hpr (by omega)
  have hb : hasB (putL xs a) a = true := (hasB_mem hp ha).2 ((mem_put hx ha a).2 (.inr rfl))
  refine ⟨hfp, by unfold hasFB; rw [hfp, ha, hb]; rfl, ?_, ?_⟩
  · unfold addL; rw [if_pos hfp, hb, if_neg (by simp)]
  · unfold goneL; rw [if_pos hfp, hb, ha, show (true && true) = true from rfl, if_pos rfl]
    refine Prod.ext ?_ rfl
    refine sorted_ext (rises_filter hpr) hr fun y => ?_
    rw [mem_gone hp ha, mem_put hx ha]
    have hna : a ∉ xs := fun hm => by rw [(hasB_mem hx ha).2 hm] at hn; cases hn
    constructor
    · rintro ⟨h1 | h1, h2⟩
      · exact h1
      · exact absurd h1 h2
    · intro h1; exact ⟨.inl h1, fun e => hna (e ▸ h1)⟩

/-- What was taken away is not there, and can be added. -/
theorem gone_law {xs P : List At} {a : At} (hf : factsB 300 xs = true) (h : goneL xs a = (P, true)) :
    factsB 300 P = true ∧ hasFB P a = false ∧ addL P a = (xs, true) := by
  obtain ⟨h0, _⟩ | ⟨_, rfl, ha, hb⟩ := goneL_case hf h
  · cases h0
  obtain ⟨hx, hr, hl⟩ := facts_parts hf
  have hP : FactsAll (xs.filter (fun y => !hasB [a] y)) := fun q hq => hx q (List.mem_filter.1 hq).1
  have hPr : risesB (xs.filter (fun y => !hasB [a] y)) = true := rises_filter hr
  have hm : a ∈ xs := (hasB_mem hx ha).1 hb
  have hnb : hasB (xs.filter (fun y => !hasB [a] y)) a = false := by
    cases hc : hasB (xs.filter (fun y => !hasB [a] y)) a
    · rfl
    · exact absurd rfl ((mem_gone hx ha a).1 ((hasB_mem hP ha).1 hc)).2
  have hlt : (xs.filter (fun y => !hasB [a] y)).length < xs.length := by
    refine Nat.lt_of_le_of_ne (List.length_filter_le _ _) fun e => ?_
    have := List.filter_eq_self.1 (List.length_filter_eq_length_iff.1 e |> List.filter_eq_self.2) a hm
    have h1 : hasB [a] a = true := (hasB_mem (fun q hq => by rw [List.mem_singleton.1 hq]; exact ha) ha).2 (by simp)
    rw [h1] at this; cases this
  have hfP : factsB 300 (xs.filter (fun y => !hasB [a] y)) = true := facts_of hP hPr (by omega)
  refine ⟨hfP, by unfold hasFB; rw [hnb]; simp, ?_⟩
  unfold addL
  rw [if_pos hfP, ha, hnb, decide_eq_true (by omega), show (true && (!false && true)) = true from rfl, if_pos rfl]
  refine Prod.ext ?_ rfl
  refine sorted_ext (put_rises hPr) hr fun y => ?_
  rw [mem_put hP ha, mem_gone hx ha]
  constructor
  · rintro (h1 | rfl)
    · exact h1.1
    · exact hm
  · intro h1
    by_cases e : y = a
    · exact .inr e
    · exact .inl ⟨h1, e⟩

theorem mem_do {xs cs gs : List At} (hx : FactsAll xs) (hr : risesB xs = true) (hc : FactsAll cs) (hg : FactsAll gs) (y : At) : y ∈ doL xs cs gs ↔ (y ∈ xs ∧ y ∉ gs) ∨ y ∈ cs := by
  unfold doL
  rw [(puts_all (less_all hx) hc (less_rises hr)).2.2.1 y, mem_less hx hg]

theorem changeB_of {cs gs : List At} (hc : factsB 300 cs = true) (hg : factsB 300 gs = true) (h : ∀ y ∈ cs, y ∉ gs) : changeB cs gs = true := by
  unfold changeB
  rw [hc, hg]
  show apartB cs gs = true
  unfold apartB
  rw [List.all_eq_true]
  intro y hy
  cases hb : hasB gs y
  · rfl
  · exact absurd ((hasB_mem (facts_all hg) (facts_all hc y hy)).1 hb) (h y hy)

/-- The change from facts to others leads there. -/
theorem of_leads {xs ys : List At} (hx : factsB 300 xs = true) (hy : factsB 300 ys = true) : doneL xs (lessL ys xs) (lessL xs ys) = (ys, true) := by
  obtain ⟨x1, x2, x3⟩ := facts_parts hx
  obtain ⟨y1, y2, y3⟩ := facts_parts hy
  have hc : factsB 300 (lessL ys xs) = true := facts_of (less_all y1) (less_rises y2) (Nat.le_trans (less_le _ _) y3)
  have hg : factsB 300 (lessL xs ys) = true := facts_of (less_all x1) (less_rises x2) (Nat.le_trans (less_le _ _) x3)
  have e : doL xs (lessL ys xs) (lessL xs ys) = ys := by
    refine sorted_ext (do_all x1 x2 (less_all y1)).2.1 y2 fun a => ?_
    rw [mem_do x1 x2 (less_all y1) (less_all x1), mem_less y1 x1, mem_less x1 y1]
    constructor
    · rintro (⟨h1, h2⟩ | ⟨h1, _⟩)
      · exact Classical.byContradiction fun h => h2 ⟨h1, h⟩
      · exact h1
    · intro h
      by_cases hm : a ∈ xs
      · exact .inl ⟨hm, fun h' => h'.2 h⟩
      · exact .inr ⟨h, hm⟩
  have hch : changeB (lessL ys xs) (lessL xs ys) = true := changeB_of hc hg fun y h1 h2 => ((mem_less y1 x1 y).1 h1).2 ((mem_less x1 y1 y).1 h2).1
  unfold doneL
  rw [e, hx, hch, hy]; rfl

theorem of_change {xs ys : List At} (hx : factsB 300 xs = true) (hy : factsB 300 ys = true) : changeB (lessL ys xs) (lessL xs ys) = true := by
  obtain ⟨x1, x2, x3⟩ := facts_parts hx
  obtain ⟨y1, y2, y3⟩ := facts_parts hy
  exact changeB_of (facts_of (less_all y1) (less_rises y2) (Nat.le_trans (less_le _ _) y3)) (facts_of (less_all x1) (less_rises x2) (Nat.le_trans (less_le _ _) x3)) fun y h1 h2 => ((mem_less y1 x1 y).1 h1).2 ((mem_less x1 y1 y).1 h2).1

theorem less_self {xs : List At} (hx : factsB 300 xs = true) : lessL xs xs = [] := by
  obtain ⟨x1, x2, x3⟩ := facts_parts hx
  rw [List.eq_nil_iff_forall_not_mem]
  intro a h
  have := (mem_less x1 x1 a).1 h
  exact this.2 this.1

/-- Of what was there nothing comes, and what goes is just what isn't there behind it. -/
theorem of_each {xs ys : List At} (hx : factsB 300 xs = true) (hy : factsB 300 ys = true) {q : At} (h : q ∈ xs) : hasE (lessL ys xs) q = false ∧ hasE (lessL xs ys) q = !hasE ys q := by
  obtain ⟨x1, x2, x3⟩ := facts_parts hx
  obtain ⟨y1, y2, y3⟩ := facts_parts hy
  constructor
  · cases hc : hasE (lessL ys xs) q
    · rfl
    · exact absurd h ((mem_less y1 x1 q).1 (hasE_mem.1 hc)).2
  · rw [Bool.eq_iff_iff, hasE_mem, mem_less x1 y1]
    constructor
    · rintro ⟨_, h2⟩
      cases hc : hasE ys q
      · rfl
      · exact absurd (hasE_mem.1 hc) h2
    · intro h2
      refine ⟨h, fun h3 => ?_⟩
      rw [hasE_mem.2 h3] at h2; cases h2

/-- Behind a change what comes is there, what goes is not, and done again nothing changes. -/
theorem do_law {xs cs gs : List At} (hx : factsB 300 xs = true) (hc : changeB cs gs = true) (hl : xs.length + cs.length ≤ 300) :
    ∃ D, doneL xs cs gs = (D, true) ∧ factsB 300 D = true ∧ doneL D cs gs = (D, true) ∧ (∀ q ∈ xs, hasE D q = !hasE gs q) ∧ (∀ q ∈ cs, hasE D q = true) := by
  obtain ⟨x1, x2, x3⟩ := facts_parts hx
  have hp := changeB_parts (cs := cs) (gs := gs) (by rw [hc]; rfl)
  obtain ⟨c1, c2, c3⟩ := facts_parts hp.1
  obtain ⟨g1, g2, g3⟩ := facts_parts hp.2
  have hap : ∀ y ∈ cs, y ∉ gs := by
    intro y hy hy'
    unfold changeB at hc
    rw [hp.1, hp.2] at hc
    have h2 : apartB cs gs = true := hc
    unfold apartB at h2
    have := List.all_eq_true.1 h2 y hy
    rw [(hasB_mem g1 (c1 y hy)).2 hy'] at this; cases this
  obtain ⟨d1, d2, d3⟩ := do_all (gs := gs) x1 x2 c1
  have hm := mem_do x1 x2 c1 g1
  have hD : factsB 300 (doL xs cs gs) = true := facts_of d1 d2 (by omega)
  have he : doL (doL xs cs gs) cs gs = doL xs cs gs := by
    refine sorted_ext (do_all d1 d2 c1).2.1 d2 fun y => ?_
    rw [mem_do d1 d2 c1 g1, hm]
    constructor
    · rintro (⟨h1, _⟩ | h1)
      · exact h1
      · exact .inr h1
    · rintro (⟨h1, h2⟩ | h1)
      · exact .inl ⟨.inl ⟨h1, h2⟩, h2⟩
      · exact .inr h1
  refine ⟨doL xs cs gs, by unfold doneL; rw [hx, hc, hD]; rfl, hD, by unfold doneL; rw [hD, hc, he, hD]; rfl, fun q hq => ?_, fun q hq => hasE_mem.2 ((hm q).2 (.inr hq))⟩
  rw [Bool.eq_iff_iff, hasE_mem, hm]
  constructor
  · rintro (⟨_, h2⟩ | h1)
    · cases hh : hasE gs q
      · rfl
      · exact absurd (hasE_mem.1 hh) h2
    · cases hh : hasE gs q
      · rfl
      · exact absurd (hasE_mem.1 hh) (hap q h1)
  · intro h2
    refine .inl ⟨hq, fun h3 => ?_⟩
    rw [hasE_mem.2 h3] at h2; cases h2

end Go.Proofs.YtogonjkklioaaaaGreatDoor

namespace Go.Proofs.YtogonjkklioaaaaGreatDoor
open Go.RowKit

set_option maxHeartbeats 1000000 in
theorem fsSame_any (A B : Option Addr) (n c n' c' : Nat) (xs ys : List At) (w : World) (h : IsAtoms w 0 w.heap.size A n c xs) (h' : IsAtoms w 0 w.heap.size B n' c' ys) :
    Calls Tryz.prog 36 #[.slice A n c, .slice B n' c'] w (BoolPost (listEq atomEq xs ys) w) := by
  have hm := h.len
  unfold maxLen at hm
  have H := Lib.hid h; clear h
  have H' := Lib.hid h'; clear h'
  by_cases hne : n = n'
  · subst hne
    go_enter Tryz.func36, Tryz.ntmps36
    go_wp2
    go_loopw [5] (fun i wr => ∃ k : Nat, k ≤ n ∧ i = .int .i64 k ∧ listEq atomEq (xs.drop k) (ys.drop k) = listEq atomEq xs ys ∧ Below w.heap.size w wr) (fun i _ => n - (intOf i).toNat)
    case atStart => exact ⟨0, Nat.zero_le _, rfl, rfl, Below.refl _ _⟩
    case round =>
      obtain ⟨k, hk, rfl, hd, hb⟩ := hrel
      have HD := Lib.hid hd; clear hd
      by_cases hlt : k < n
      · obtain ⟨p, q, hA, hlo, hhi, hg, hE⟩ := (H.out.below AtomE.stays hb (Nat.le_refl _)).at_ hlt
        obtain ⟨p', q', hA', hlo', hhi', hg', hE'⟩ := (H'.out.below AtomE.stays hb (Nat.le_refl _)).at_ hlt
        obtain ⟨C, m, d, d1, d3, d4, d5⟩ := hE.out
        obtain ⟨C', m', d', f1, f3, f4, f5⟩ := hE'.out
        clear hE hE'
        subst hA; subst hA'
        have HG := Lib.hid hg; clear hg
        have HG' := Lib.hid hg'; clear hg'
        have HT := Lib.hid (d5.keep (w' := wr.drew) (lo' := 0) (hi' := wr.drew.heap.size) (fun _ _ _ => rfl) (Nat.le_refl _) hb.size); clear d5
        have HT' := Lib.hid (f5.keep (w' := wr.drew) (lo' := 0) (hi' := wr.drew.heap.size) (fun _ _ _ => rfl) (Nat.le_refl _) hb.size); clear f5
        have hbd := hb.drew
        go_wp2_with fail
        go_region_with (go_at_call 65; refine (fsAtom_any _ _ _ _ _ _ _ _ q.2 q'.2 _ HT.out HT'.out).mono ?_; rintro e w1 ⟨rfl, hb1⟩)
        all_goals go_wp2
        all_goals first
          | (go_ret; exact ⟨retB (listEq_no HG.out HG'.out HD.out (by assumption)), belowThen hbd hb1⟩)
          | (go_roundw
             case rel => exact ⟨k + 1, by omega, by go_num, listEq_on HG.out HG'.out HD.out (by assumption), belowThen hbd hb1⟩
             case measure => simp [intOf]; omega)
      · have hl := Lib.hid H.out.1
        have hl' := Lib.hid H'.out.1
        go_wp2
        go_ret
        exact ⟨retB (listEq_end hl.out hl'.out HD.out hlt), hb⟩
  · have hlen : xs.length ≠ ys.length := by rw [H.out.1, H'.out.1]; exact hne
    go_enter Tryz.func36, Tryz.ntmps36
    go_wp2
    go_ret
    exact ⟨retB (listEq_len hlen).symm, Below.refl _ _⟩

theorem listEq_self (xs : List At) : listEq atomEq xs xs = true := by
  induction xs with
  | nil => rfl
  | cons x l ih => simp [listEq, atomEq_refl, ih]

theorem hasE_on {xs : List At} {k : Nat} {q a : At} (hg : xs[k]? = some q) (h : hasE (xs.drop k) a = hasE xs a) (he : atomEq q a = false) : hasE (xs.drop (k + 1)) a = hasE xs a := by
  obtain ⟨h1, h2⟩ := List.getElem?_eq_some_iff.1 hg
  rw [← h, List.drop_eq_getElem_cons h1, h2]
  unfold hasE; rw [List.any_cons, he, Bool.false_or]

theorem hasE_yes {xs : List At} {k : Nat} {q a : At} (hg : xs[k]? = some q) (he : atomEq q a = true) : hasE xs a = true := by
  unfold hasE; rw [List.any_eq_true]; exact ⟨q, List.mem_of_getElem? hg, he⟩

theorem hasE_end {xs : List At} {k n : Nat} {a : At} (hl : xs.length = n) (h : hasE (xs.drop k) a = hasE xs a) (hk : ¬ k < n) : hasE xs a = false := by
  rw [← h, List.drop_eq_nil_of_le (by omega)]; rfl


end Go.Proofs.YtogonjkklioaaaaGreatDoor

namespace Go.Proofs.YtogonjkklioaaaaGreatDoor
open Go.RowKit

/-- A list and whether it was done. -/
def ListBPost (P : List At) (q : Bool) (w : World) (e : Ending) (w' : World) : Prop := ∃ (A : Option Addr) (k c : Nat), e = .returned (.tuple #[.slice A k c, .bool q]) ∧ IsAtoms w' 0 w'.heap.size A k c P ∧ Below w.heap.size w w'

theorem ReadBPost.list {p : List At × Bool} {P : List At} {q : Bool} {w w' : World} {e : Ending} (hp : p = (P, q)) (h : ReadBPost p w e w') : ListBPost P q w e w' := by
  subst hp
  obtain ⟨A, c, rs, rfl, hI, hm, hb⟩ := h
  refine ⟨A, _, c, rfl, ?_, hb⟩
  have := hI.atoms
  rwa [hm] at this

theorem OwnBPost.list {p : List At × Bool} {P : List At} {q : Bool} {w w' : World} {e : Ending} (hp : p = (P, q)) (h : OwnBPost p w e w') : ListBPost P q w e w' := by
  obtain ⟨A, c, rs, he, ho, hm, hb⟩ := h
  have hI := ho.refs.keep (w' := w') RefE.stays (fun _ _ _ => rfl) (Nat.zero_le _) (Nat.le_refl _)
  exact ReadBPost.list hp ⟨A, c, rs, he, hI, hm, hb⟩

section
variable (A : Option Addr) (n c : Nat) (xs : List At) (nm : ByteArray) (B : Option Addr) (m d : Nat) (ts : List Tm) (w : World) (h : IsAtoms w 0 w.heap.size A n c xs) (hs : nm.size ≤ maxLen) (h' : IsTerms w 0 w.heap.size B m d ts) {P : List At} {q : Bool}
include h hs h'
end

/-- What a call that only looks answers, from any world that keeps what was there. -/
def Tells (w : World) (b : Bool) (e : Ending) (w' : World) : Prop := e = .returned (.bool b) ∧ Below w.heap.size w w'

theorem tells {w W : World} {b b' : Bool} {e : Ending} {W' : World} (hW : Below w.heap.size w W) (hb : b = b') (h : BoolPost b W e W') : Tells w b' e W' := ⟨by rw [← hb]; exact h.1, belowThen hW h.2⟩

theorem same_tells {w W : World} {A B : Option Addr} {n c n' c' : Nat} {xs : List At} (h : IsAtoms w 0 w.heap.size A n c xs) (h' : IsAtoms w 0 w.heap.size B n' c' xs) (hW : Below w.heap.size w W) :
    Calls Tryz.prog 36 #[.slice A n c, .slice B n' c'] W (Tells w true) :=
  (fsSame_any A B n c n' c' xs xs W (h.up AtomE.stays hW) (h'.up AtomE.stays hW)).mono fun _ _ x => tells hW (listEq_self xs) x

theorem okI_tells {w W : World} {A : Option Addr} {n c : Nat} {xs : List At} {b : Bool} (h : IsAtoms w 0 w.heap.size A n c xs) (hb : factsB 300 xs = b) (hW : Below w.heap.size w W) :
    Calls Tryz.prog 53 #[.slice A n c] W (Tells w b) := (implFactsOk_any A n c xs W (h.up AtomE.stays hW)).mono fun _ _ x => tells hW hb x

theorem okS_tells {w W : World} {A : Option Addr} {n c : Nat} {xs : List At} {b : Bool} (h : IsAtoms w 0 w.heap.size A n c xs) (hb : factsB 300 xs = b) (hW : Below w.heap.size w W) :
    Calls Tryz.prog 34 #[.slice A n c] W (Tells w b) := (specFactsOk_any A n c xs W (h.up AtomE.stays hW)).mono fun _ _ x => tells hW hb x



/-- A box of two cells, in every world that keeps what was there. -/
theorem Box.in1 {w W : World} {x : Nat} {u v : Value} (h : Box w x u v) (hW : Below w.heap.size w W) : W.cell? ⟨x, 0, none⟩ = some u := (h.later hW).2.1
theorem Box.in2 {w W : World} {x : Nat} {u v : Value} (h : Box w x u v) (hW : Below w.heap.size w W) : W.cell? ⟨x, 1, none⟩ = some v := (h.later hW).2.2

end Go.Proofs.YtogonjkklioaaaaGreatDoor


namespace Go.Proofs.YtogonjkklioaaaaGreatDoor
open Go.RowKit
attribute [local go_sem] run_store_func


end Go.Proofs.YtogonjkklioaaaaGreatDoor

namespace Go.Proofs.YtogonjkklioaaaaGreatDoor
open Go.RowKit
attribute [local go_sem] run_store_func

theorem done_not {p : List At × Bool} {w w' : World} (hp : p = ([], false)) (hb : Below w.heap.size w w') : OwnBPost p w (.returned (.tuple #[.slice none 0 0, .bool false])) w' := by
  subst hp
  exact ⟨none, 0, [], rfl, OwnRefs.no, rfl, hb⟩



end Go.Proofs.YtogonjkklioaaaaGreatDoor

namespace Go.Proofs.YtogonjkklioaaaaGreatDoor
open Go.RowKit

/-- Two lists were told, in a world that keeps what was in w. -/
def PairFrom (w : World) (P Q : List At) (e : Ending) (W' : World) : Prop := ∃ (A : Option Addr) (c : Nat) (B : Option Addr) (d : Nat), e = .returned (.agg #[.slice A P.length c, .slice B Q.length d]) ∧
  IsAtoms W' 0 W'.heap.size A P.length c P ∧ IsAtoms W' 0 W'.heap.size B Q.length d Q ∧ Below w.heap.size w W'

/-- A list was told, in a world that keeps what was in w. -/
def ListFrom (w : World) (P : List At) (e : Ending) (W' : World) : Prop := ∃ (A : Option Addr) (c : Nat), e = .returned (.slice A P.length c) ∧ IsAtoms W' 0 W'.heap.size A P.length c P ∧ Below w.heap.size w W'

theorem OwnRefs.told {w : World} {lo hi n c : Nat} {A : Option Addr} {rs : List Rf} {xs : List At} (h : OwnRefs w lo hi A n c rs) (hm : rs.map rAt = xs) (hh : hi ≤ w.heap.size) : IsAtoms w 0 w.heap.size A n c xs := by
  have hI : IsRefs w 0 w.heap.size A n c rs := h.refs.keep (w' := w) RefE.stays (fun _ _ _ => rfl) (Nat.zero_le _) hh
  have := hI.atoms
  rwa [hm] at this

theorem OwnKPost.pair {w W W' : World} {p : List At × List At} {P Q : List At} {e : Ending} (hW : Below w.heap.size w W) (hp : p = (P, Q)) (h : OwnKPost p W e W') : PairFrom w P Q e W' := by
  subst hp
  obtain ⟨A, c, ra, B, d, rb, mid, rfl, ⟨h1, h2⟩, ⟨h3, h4⟩, ⟨h5, h6⟩, h7⟩ := h
  exact ⟨A, c, B, d, rfl, h1.told h2 h6, h3.told h4 (Nat.le_refl _), belowThen hW h7⟩

theorem CopySPost.told {w W W' : World} {xs P : List At} {e : Ending} (hW : Below w.heap.size w W) (hp : xs = P) (h : CopySPost xs W e W') : ListFrom w P e W' := by
  subst hp
  obtain ⟨A, c, rs, rfl, h1, h2, h3⟩ := h
  exact ⟨A, c, rfl, h1.told h2 (Nat.le_refl _), belowThen hW h3⟩

section
variable {w W : World} {A B D : Option Addr} {n c m d m' d' : Nat} {xs ys cs gs P Q : List At}
theorem ofS_from (h : IsAtoms w 0 w.heap.size A n c xs) (h' : IsAtoms w 0 w.heap.size B m d ys) (hp : ofL xs ys = (P, Q)) (hW : Below w.heap.size w W) : Calls Tryz.prog 166 #[.slice A n c, .slice B m d] W (PairFrom w P Q) :=
  (specChangeOf_any A n c xs B m d ys W (h.up AtomE.stays hW) (h'.up AtomE.stays hW)).mono fun _ _ x => x.pair hW hp
theorem chI_tells {b : Bool} (h : IsAtoms w 0 w.heap.size A n c cs) (h' : IsAtoms w 0 w.heap.size B m d gs) (hp : changeB cs gs = b) (hW : Below w.heap.size w W) : Calls Tryz.prog 26 #[.agg #[.slice A n c, .slice B m d]] W (Tells w b) :=
  (implChangeOk_any A B n c m d cs gs W (h.up AtomE.stays hW) (h'.up AtomE.stays hW)).mono fun _ _ x => tells hW hp x
theorem chS_tells {b : Bool} (h : IsAtoms w 0 w.heap.size A n c cs) (h' : IsAtoms w 0 w.heap.size B m d gs) (hp : changeB cs gs = b) (hW : Below w.heap.size w W) : Calls Tryz.prog 11 #[.agg #[.slice A n c, .slice B m d]] W (Tells w b) :=
  (specChangeOk_any A B n c m d cs gs W (h.up AtomE.stays hW) (h'.up AtomE.stays hW)).mono fun _ _ x => tells hW hp x
/-- A list that was told just now is the same as one that was there. -/
theorem sameNow_tells (h : IsAtoms w 0 w.heap.size A n c xs) (hz : IsAtoms W 0 W.heap.size B m d xs) (hW : Below w.heap.size w W) :
    Calls Tryz.prog 36 #[.slice A n c, .slice B m d] W (Tells w true) :=
  (fsSame_any A B n c m d xs xs W (h.up AtomE.stays hW) hz).mono fun _ _ x => tells hW (listEq_self xs) x
theorem nowSame_tells (h : IsAtoms w 0 w.heap.size A n c xs) (hz : IsAtoms W 0 W.heap.size B m d xs) (hW : Below w.heap.size w W) :
    Calls Tryz.prog 36 #[.slice B m d, .slice A n c] W (Tells w true) :=
  (fsSame_any B A m d n c xs xs W hz (h.up AtomE.stays hW)).mono fun _ _ x => tells hW (listEq_self xs) x
end

set_option maxHeartbeats 1000000 in
theorem fsChange_any (A1 A2 B1 B2 : Option Addr) (n1 c1 n2 c2 m1 d1 m2 d2 : Nat) (P Q : List At) (w : World) (h1 : IsAtoms w 0 w.heap.size A1 n1 c1 P) (h2 : IsAtoms w 0 w.heap.size A2 n2 c2 Q) (h3 : IsAtoms w 0 w.heap.size B1 m1 d1 P) (h4 : IsAtoms w 0 w.heap.size B2 m2 d2 Q) :
    Calls Tryz.prog 12 #[.agg #[.slice A1 n1 c1, .slice A2 n2 c2], .agg #[.slice B1 m1 d1, .slice B2 m2 d2]] w (BoolPost true w) := by
  have HP := below2 w (.cells #[.slice A1 n1 c1, .slice A2 n2 c2] 25) (.cells #[.slice B1 m1 d1, .slice B2 m2 d2] 25)
  have XA := (Box.new w (.slice A1 n1 c1) (.slice A2 n2 c2) 25).up (.cells #[.slice B1 m1 d1, .slice B2 m2 d2] 25)
  have XC := Box.new2 w (.cells #[.slice A1 n1 c1, .slice A2 n2 c2] 25) (.slice B1 m1 d1) (.slice B2 m2 d2) 25
  have K1 := Lib.hid (h1.up AtomE.stays HP); have K2 := Lib.hid (h2.up AtomE.stays HP); have K3 := Lib.hid (h3.up AtomE.stays HP); have K4 := Lib.hid (h4.up AtomE.stays HP)
  have YA := Lib.hid XA; have YC := Lib.hid XC; have HPP := Lib.hid HP
  clear h1 h2 h3 h4 HP XA XC
  go_enter Tryz.func12, Tryz.ntmps12
  obtain ⟨_, x0, x1⟩ := YA.out
  obtain ⟨_, y0, y1⟩ := YC.out
  go_wp2_with fail
  refine (same_tells K1.out K3.out (Below.refl _ _)).mono ?_; rintro e w3 ⟨rfl, hB⟩
  clear x0 x1 y0 y1
  obtain ⟨_, x0, x1⟩ := YA.out.later hB
  obtain ⟨_, y0, y1⟩ := YC.out.later hB
  go_wp2_with fail
  refine (same_tells K2.out K4.out hB).mono ?_; rintro e w4 ⟨rfl, hB4⟩
  go_wp2
  go_ret; exact ⟨rfl, belowThen HPP.out hB4⟩

theorem changeNow_tells {w W : World} {A1 A2 B1 B2 : Option Addr} {n1 c1 n2 c2 m1 d1 m2 d2 : Nat} {P Q : List At} (h1 : IsAtoms w 0 w.heap.size A1 n1 c1 P) (h2 : IsAtoms w 0 w.heap.size A2 n2 c2 Q) (h3 : IsAtoms W 0 W.heap.size B1 m1 d1 P) (h4 : IsAtoms W 0 W.heap.size B2 m2 d2 Q) (hW : Below w.heap.size w W) :
    Calls Tryz.prog 12 #[.agg #[.slice A1 n1 c1, .slice A2 n2 c2], .agg #[.slice B1 m1 d1, .slice B2 m2 d2]] W (Tells w true) :=
  (fsChange_any A1 A2 B1 B2 n1 c1 n2 c2 m1 d1 m2 d2 P Q W (h1.up AtomE.stays hW) (h2.up AtomE.stays hW) h3 h4).mono fun _ _ x => tells hW rfl x

end Go.Proofs.YtogonjkklioaaaaGreatDoor

namespace Go.Proofs.YtogonjkklioaaaaGreatDoor
open Go.RowKit

/-- What ChangePut tells. -/
def chB (xs ys : List At) : List UInt8 := if changeB xs ys = true then chL xs ys else []

theorem change_put {xs ys : List At} (h : changeB xs ys = true) : xs.length ≤ 300 ∧ ys.length ≤ 300 ∧ (∀ a ∈ xs, atomB a = true) ∧ ∀ a ∈ ys, atomB a = true := by
  unfold changeB factsB at h
  simp only [Bool.and_eq_true, decide_eq_true_eq, List.all_eq_true] at h
  obtain ⟨⟨⟨⟨h1, _⟩, h2⟩, ⟨h3, _⟩, h4⟩, _⟩ := h
  have f : ∀ a, factB a = true → atomB a = true := fun a h => by unfold factB at h; simp only [Bool.and_eq_true] at h; exact h.2
  exact ⟨h2, h4, fun a ha => f a (h1 a ha), fun a ha => f a (h3 a ha)⟩

theorem put_small {a : At} (h : atomB a = true) : (textL a).length ≤ 128 := Nat.le_trans (textL_le h) (by decide)

set_option maxRecDepth 100000 in
set_option maxHeartbeats 2000000 in
theorem specChangePut_any (A : Option Addr) (n c : Nat) (B : Option Addr) (m d : Nat) (xs ys : List At) (w : World) (h : IsAtoms w 0 w.heap.size A n c xs) (h' : IsAtoms w 0 w.heap.size B m d ys) :
    Calls Tryz.prog 10 #[.agg #[.slice A n c, .slice B m d]] w (StrPost (chB xs ys) w) := by
  have LX := Lib.hid h.1; have LY := Lib.hid h'.1
  have HX := Lib.hid h; have HY := Lib.hid h'
  clear h h'
  have hb0 := below1 w (.cells #[.slice A n c, .slice B m d] 25)
  have X0 := Lib.hid (Box.new w (.slice A n c) (.slice B m d) 25)
  go_enter Tryz.func10, Tryz.ntmps10
  go_wp2_with fail
  refine (specChangeOk_any A B n c m d xs ys _ (HX.out.up AtomE.stays hb0) (HY.out.up AtomE.stays hb0)).mono ?_; rintro e w1 ⟨rfl, hb1⟩
  have HB1 := belowThen hb0 hb1
  have X1 := Lib.hid (X0.out.later hb1)
  obtain ⟨u0, u1, u2⟩ := X1.out
  clear hb1 X0
  cases hc : changeB xs ys
  · have E := Lib.hid (show chB xs ys = [] by unfold chB; rw [hc]; rfl)
    clear hc
    go_wp2
    go_ret; exact ⟨by rw [E.out]; rfl, HB1⟩
  · have E := Lib.hid (show chB xs ys = chL xs ys by unfold chB; rw [hc]; rfl)
    have HC := Lib.hid (change_put hc)
    clear hc
    go_wp2_with fail
    refine (l8Put_any A n c B m d xs ys w1 (HX.out.up AtomE.stays HB1) (HY.out.up AtomE.stays HB1) (by rw [← LX.out]; exact HC.out.1) (by rw [← LY.out]; exact HC.out.2.1) (fun a ha => put_small (HC.out.2.2.1 a ha)) (fun a ha => put_small (HC.out.2.2.2 a ha))).mono ?_; rintro e w2 ⟨rfl, hb2⟩
    have HB2 := belowThen HB1 hb2
    clear hb2
    go_wp2
    go_ret; exact ⟨by rw [E.out]; rfl, HB2⟩

end Go.Proofs.YtogonjkklioaaaaGreatDoor

namespace Go.Proofs.YtogonjkklioaaaaGreatDoor
open Go.RowKit

theorem rowUp {w w' : World} {base size k : Nat} {e : TypeId} {v : Value} {xs : List Value} (h : w.ownsRow base e size v k xs) (hb : Below w.heap.size w w') : w'.ownsRow base e size v k xs :=
  h.kept (row := none) ⟨hb.os, hb.tape, hb.output, hb.size, fun i hi _ => hb.block i hi⟩ (by
    rcases h.2 with ⟨rfl, _⟩ | ⟨g, cap, cur, rfl, _⟩
    · exact .inl rfl
    · exact .inr (by simp [Value.ownBlock]))

theorem builderUp {T e : TypeId} {B b : Nat} {bs : List Value} {W W' : World} (h : Lib.IsBuilder T e B b bs W) (hb : Below W.heap.size W W') : Lib.IsBuilder T e B b bs W' := by
  rcases h with ⟨h1, v, h2, h3, h4⟩ | ⟨h1, v, h2, h3, h4⟩
  · exact .inl ⟨h1, v, (hb.block b (Array.getElem?_eq_some_iff.1 h2).1).trans h2, rowUp h3 hb, h4⟩
  · exact .inr ⟨h1, v, (hb.block b (Array.getElem?_eq_some_iff.1 h2).1).trans h2, rowUp h3 hb, h4⟩

theorem cells_more {l p : List UInt8} {c : UInt8} {t : ByteArray} (ht : t.data.toList = p) : Lib.byteCells l ++ Lib.strCells (⟨#[c]⟩ ++ t ++ ⟨#[32]⟩) = Lib.byteCells (l ++ (c :: (p ++ [32]))) := by
  rw [Lib.strCells_eq, ← Lib.byteCells_append]
  congr 2
  simp [ByteArray.data_append, ht]

theorem cells_len (l : List UInt8) : (Lib.byteCells l).length = l.length := by unfold Lib.byteCells; simp

set_option maxRecDepth 100000 in
set_option maxHeartbeats 4000000 in
theorem implChangePut_any (A : Option Addr) (n c : Nat) (B : Option Addr) (m d : Nat) (xs ys : List At) (w : World) (h : IsAtoms w 0 w.heap.size A n c xs) (h' : IsAtoms w 0 w.heap.size B m d ys) :
    Calls Tryz.prog 8 #[.agg #[.slice A n c, .slice B m d]] w (StrPost (chB xs ys) w) := by
  have LX := Lib.hid h.1; have LY := Lib.hid h'.1
  have HX := Lib.hid h; have HY := Lib.hid h'
  clear h h'
  have hb0 := below1 w (.cells #[.slice A n c, .slice B m d] 25)
  have X0 := Lib.hid (Box.new w (.slice A n c) (.slice B m d) 25)
  go_enter Tryz.func8, Tryz.ntmps8
  go_wp2_with fail
  refine (implChangeOk_any A B n c m d xs ys _ (HX.out.up AtomE.stays hb0) (HY.out.up AtomE.stays hb0)).mono ?_; rintro e w1 ⟨rfl, hb1⟩
  have HB1 := belowThen hb0 hb1
  have X1 := Lib.hid (X0.out.later hb1)
  clear hb1 X0
  cases hc : changeB xs ys
  · have E := Lib.hid (show chB xs ys = [] by unfold chB; rw [hc]; rfl)
    clear hc
    go_wp2
    go_ret; exact ⟨by rw [E.out]; rfl, HB1⟩
  · have E := Lib.hid (show chB xs ys = chL xs ys by unfold chB; rw [hc]; rfl)
    have HC := Lib.hid (change_put hc)
    have hn3 : n ≤ 300 := by rw [← LX.out]; exact HC.out.1
    have hm3 : m ≤ 300 := by rw [← LY.out]; exact HC.out.2.1
    have PX : Hid (∀ a ∈ xs, (textL a).length ≤ 128) := Lib.hid (fun a ha => put_small (HC.out.2.2.1 a ha))
    have PY : Hid (∀ a ∈ ys, (textL a).length ≤ 128) := Lib.hid (fun a ha => put_small (HC.out.2.2.2 a ha))
    clear hc
    have hbb := below1 w1 (.cells #[.pointer none, .slice none 0 0] 48)
    have BB := Lib.hid (Lib.fresh_isBuilder 48 5 w1)
    have X2 := Lib.hid (X1.out.later hbb)
    obtain ⟨u0, u1, u2⟩ := X2.out
    have HB2 := belowThen HB1 hbb
    have hz2 : (w1.alloc (.cells #[.pointer none, .slice none 0 0] 48)).heap.size = w1.heap.size + 1 := by simp
    obtain ⟨W2, hW2⟩ : ∃ W2, w1.alloc (.cells #[.pointer none, .slice none 0 0] 48) = W2 := ⟨_, rfl⟩
    rw [hW2] at hbb BB X2 HB2 hz2 u0 u1 u2
    have HBB := Lib.hid hbb; have HB2' := Lib.hid HB2
    have hwz := HB1.size
    have hxl : w.heap.size < w1.heap.size := X1.out.1
    clear hbb HB2
    go_wp2
    go_loopw [14] (fun i wr => ∃ k : Nat, k ≤ m ∧ i = .int .i64 (k : Int) ∧ Lib.IsBuilder 48 5 w1.heap.size w1.heap.size (Lib.byteCells (signL 45 (ys.take k))) wr ∧ Below w1.heap.size W2 wr ∧ w1.heap.size + 1 ≤ wr.heap.size) (fun i _ => m - (intOf i).toNat)
    case atStart => exact ⟨0, Nat.zero_le _, rfl, BB.out, Below.refl _ _, by omega⟩
    case round =>
      obtain ⟨k, hk, rfl, hB, hb, hwz2⟩ := hrel
      have HBU := Lib.hid hB
      have hsl := signL_take_len 45 ys k PY.out (by rw [LY.out]; exact hm3)
      have hsc : (Lib.byteCells (signL 45 (ys.take k))).length ≤ 39000 := by rw [cells_len]; exact hsl
      have HB := Lib.hid hb
      have HBW := Lib.hid (HB2'.out.trans (hb.mono (by omega)))
      have HSC := Lib.hid hsc
      clear hB hsl hb hsc
      by_cases hlt : k < m
      · have hltI : (k : Int) < (m : Int) := by omega
        obtain ⟨p, a, hA, _, _, hg, hE⟩ := (HY.out.below AtomE.stays HBW.out (Nat.le_refl _)).at_ hlt
        obtain ⟨A', n', c', d1, d2, d3, d4⟩ := hE.out
        clear hE
        subst hA
        have hp := PY.out a (List.mem_of_getElem? hg)
        have hat := HC.out.2.2.2 a (List.mem_of_getElem? hg)
        have hpb : putB (a.1, a.2) = textL a := by unfold putB; exact if_pos hat
        have HG := Lib.hid hg
        have hbx := below1 wr (.cells #[.string a.1, .slice A' n' c'] 51)
        have HT := Lib.hid ((d4.keep (w' := wr) (lo' := 0) (hi' := wr.heap.size) (fun _ _ _ => rfl) (Nat.le_refl _) HBW.out.size).up hbx)
        have D2 := Lib.hid d2
        have HBX := Lib.hid hbx
        clear hg d2 d4 hat hbx
        go_wp2_with fail
        refine (implAtomPut_any a.1 A' n' c' a.2 _ D2.out HT.out).mono ?_; rintro e w3 ⟨rfl, hb3⟩
        rw [hpb]
        obtain ⟨t, ht⟩ : ∃ t : ByteArray, (⟨(textL a).toArray⟩ : ByteArray) = t := ⟨_, rfl⟩
        have htl : t.data.toList = textL a := by rw [← ht]
        have hts : t.size ≤ 128 := by rw [← htl] at hp; exact hp
        rw [ht]
        have HTL := Lib.hid htl
        have hb4 := belowThen HBX.out hb3
        have hz4 := hb4.size
        have HB4 := Lib.hid (HB.out.trans (hb4.mono (by omega)))
        have HBU4 := Lib.hid (builderUp HBU.out hb4)
        have E5 := Lib.hid (signL_step (c := 45) HG.out)
        have hst : (⟨#[45]⟩ ++ t ++ ⟨#[32]⟩ : ByteArray).size ≤ 130 := by simp only [ByteArray.size_append]; show 1 + t.size + 1 ≤ 130; omega
        have HST := Lib.hid hst
        clear hb3 hb4 ht htl d1 d3 hpb hst
        go_wp2_with fail
        refine (Tryz.Builder_WriteString w1.heap.size w1.heap.size _ _ w3 HBU4.out (by have := HSC.out; have := HST.out; omega) (by omega)).mono ?_; rintro e w5 ⟨rfl, hB5, hb5⟩
        have hcm := cells_more (l := signL 45 (ys.take k)) (c := 45) HTL.out
        rw [hcm, ← E5.out] at hB5
        have HBU5 := Lib.hid (show Lib.IsBuilder 48 5 w1.heap.size w1.heap.size (Lib.byteCells (signL 45 (ys.take (k + 1)))) w5 from .inr hB5)
        have HB5 := Lib.hid (HB4.out.trans hb5)
        have hz5 := hb5.size
        clear hB5 hb5 hcm
        go_wp2
        go_roundw
        case rel => exact ⟨k + 1, by omega, by go_num, HBU5.out, HB5.out, by omega⟩
        case measure => simp [intOf]; omega
      · have hkm : k = m := by omega
        subst hkm
        have hkI : ¬ (k : Int) < (k : Int) := by omega
        have hys : ys.take k = ys := List.take_of_length_le (by rw [LY.out]; exact Nat.le_refl _)
        have HBU2 := Lib.hid (by have := HBU.out; rw [hys] at this; exact this)
        have u3 := (HB.out.cell (p := ⟨w.heap.size, 0, none⟩) (by omega)).trans u1
        have u4 := (HB.out.cell (p := ⟨w.heap.size, 1, none⟩) (by omega)).trans u2
        clear hys HBU HSC
        go_wp2
        obtain ⟨W1, hW1⟩ : ∃ W1 : World, W1 = wr := ⟨_, rfl⟩
        subst hW1
        go_loopw [27] (fun i wr => ∃ j : Nat, j ≤ n ∧ i = .int .i64 (j : Int) ∧ Lib.IsBuilder 48 5 w1.heap.size w1.heap.size (Lib.byteCells (signL 45 ys ++ signL 43 (xs.take j))) wr ∧ Below w1.heap.size W2 wr ∧ w1.heap.size + 1 ≤ wr.heap.size) (fun i _ => n - (intOf i).toNat)
        case atStart => exact ⟨0, Nat.zero_le _, rfl, by have := HBU2.out; simpa [signL] using this, HB.out, hwz2⟩
        case round =>
          clear HBU2 u3 u4 HBW
          obtain ⟨j, hj, rfl, hB, hb, hwz3⟩ := hrel
          have HBU := Lib.hid hB
          have hsl := signL_take_len 43 xs j PX.out (by rw [LX.out]; exact hn3)
          have hsl2 := signL_len 45 ys PY.out
          have hly := LY.out
          have hsc : (Lib.byteCells (signL 45 ys ++ signL 43 (xs.take j))).length ≤ 78000 := by rw [cells_len, List.length_append]; omega
          have HB3 := Lib.hid hb
          have HBW := Lib.hid (HB2'.out.trans (hb.mono (by omega)))
          have HSC := Lib.hid hsc
          clear hB hsl hsl2 hly hb hsc
          by_cases hlt2 : j < n
          · have hltI : (j : Int) < (n : Int) := by omega
            obtain ⟨p, a, hA, _, _, hg, hE⟩ := (HX.out.below AtomE.stays HBW.out (Nat.le_refl _)).at_ hlt2
            obtain ⟨A', n', c', d1, d2, d3, d4⟩ := hE.out
            clear hE
            subst hA
            have hp := PX.out a (List.mem_of_getElem? hg)
            have hat := HC.out.2.2.1 a (List.mem_of_getElem? hg)
            have hpb : putB (a.1, a.2) = textL a := by unfold putB; exact if_pos hat
            have HG := Lib.hid hg
            have hbx := below1 wr (.cells #[.string a.1, .slice A' n' c'] 51)
            have HT := Lib.hid ((d4.keep (w' := wr) (lo' := 0) (hi' := wr.heap.size) (fun _ _ _ => rfl) (Nat.le_refl _) HBW.out.size).up hbx)
            have D2 := Lib.hid d2
            have HBX := Lib.hid hbx
            clear hg d2 d4 hat hbx
            go_wp2_with fail
            refine (implAtomPut_any a.1 A' n' c' a.2 _ D2.out HT.out).mono ?_; rintro e w3 ⟨rfl, hb3⟩
            rw [hpb]
            obtain ⟨t, ht⟩ : ∃ t : ByteArray, (⟨(textL a).toArray⟩ : ByteArray) = t := ⟨_, rfl⟩
            have htl : t.data.toList = textL a := by rw [← ht]
            have hts : t.size ≤ 128 := by rw [← htl] at hp; exact hp
            rw [ht]
            have HTL := Lib.hid htl
            have hb4 := belowThen HBX.out hb3
            have hz4 := hb4.size
            have HB4 := Lib.hid (HB3.out.trans (hb4.mono (by omega)))
            have HBU4 := Lib.hid (builderUp HBU.out hb4)
            have E5 := Lib.hid (signL_step (c := 43) HG.out)
            have hst : (⟨#[43]⟩ ++ t ++ ⟨#[32]⟩ : ByteArray).size ≤ 130 := by simp only [ByteArray.size_append]; show 1 + t.size + 1 ≤ 130; omega
            have HST := Lib.hid hst
            clear hb3 hb4 ht htl d1 d3 hpb hst
            go_wp2_with fail
            refine (Tryz.Builder_WriteString w1.heap.size w1.heap.size _ _ w3 HBU4.out (by have := HSC.out; have := HST.out; omega) (by omega)).mono ?_; rintro e w5 ⟨rfl, hB5, hb5⟩
            have hcm := cells_more (l := signL 45 ys ++ signL 43 (xs.take j)) (c := 43) HTL.out
            rw [hcm, List.append_assoc, ← E5.out] at hB5
            have HBU5 := Lib.hid (show Lib.IsBuilder 48 5 w1.heap.size w1.heap.size (Lib.byteCells (signL 45 ys ++ signL 43 (xs.take (j + 1)))) w5 from .inr hB5)
            have HB5 := Lib.hid (HB4.out.trans hb5)
            have hz5 := hb5.size
            clear hB5 hb5 hcm
            go_wp2
            go_roundw
            case rel => exact ⟨j + 1, by omega, by go_num, HBU5.out, HB5.out, by omega⟩
            case measure => simp [intOf]; omega
          · have hjn : j = n := by omega
            subst hjn
            have hjI : ¬ (j : Int) < (j : Int) := by omega
            have hxs : xs.take j = xs := List.take_of_length_le (by rw [LX.out]; exact Nat.le_refl _)
            have HBU2 : Hid (Lib.IsBuilder 48 5 w1.heap.size w1.heap.size (Lib.byteCells (chL xs ys)) wr) := Lib.hid (by have := HBU.out; rw [hxs] at this; exact this)
            clear hxs HBU HSC
            go_wp2_with fail
            by_cases hnil : chL xs ys = []
            · have HN := Lib.hid hnil; clear hnil
              refine (Tryz.Builder_String_empty w1.heap.size w1.heap.size wr (by have := HBU2.out; rw [HN.out] at this; exact this) (by omega)).mono ?_; rintro e w5 ⟨rfl, hb5⟩
              have HB5 := Lib.hid ((HB2'.out.trans (HB3.out.mono (by omega))).trans (hb5.mono (by omega)))
              clear hb5
              go_wp2
              go_ret; exact ⟨by rw [E.out, HN.out]; rfl, HB5.out⟩
            · have HN := Lib.hid hnil; clear hnil
              refine (Tryz.Builder_String w1.heap.size w1.heap.size (chL xs ys) wr HBU2.out HN.out).mono ?_; rintro e w5 ⟨rfl, hb5⟩
              have HB5 := Lib.hid ((HB2'.out.trans (HB3.out.mono (by omega))).trans (hb5.mono (by omega)))
              clear hb5
              go_wp2
              go_ret; exact ⟨by rw [E.out]; rfl, HB5.out⟩

end Go.Proofs.YtogonjkklioaaaaGreatDoor

namespace Go.Proofs.YtogonjkklioaaaaGreatDoor
open Go.RowKit



end Go.Proofs.YtogonjkklioaaaaGreatDoor
