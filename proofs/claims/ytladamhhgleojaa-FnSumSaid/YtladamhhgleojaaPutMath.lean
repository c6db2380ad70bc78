/-
  A fact put among others, and taken out; two lists in order with the same facts are one.
-/
import Derived.Test.YtladamhhgleojaaMergeMath
namespace Go.Proofs.Ytladamhhgleojaa

def ltB (a y : At) : Bool := decide (atomCmp y a < 0)

/-- A fact where it stands. -/
def insL (xs : List At) (a : At) : List At := xs.takeWhile (ltB a) ++ a :: xs.dropWhile (ltB a)
def putL (xs : List At) (a : At) : List At := if hasB xs a then xs else insL xs a

theorem place_take : ∀ {xs : List At} {a : At} {k : Nat}, k ≤ xs.length → (∀ j y, j < k → xs[j]? = some y → atomCmp y a < 0) → (∀ y, xs[k]? = some y → 0 ≤ atomCmp y a) → xs.takeWhile (ltB a) = xs.take k ∧ xs.dropWhile (ltB a) = xs.drop k
  | [], a, k, hk, _, _ => by simp
  | x :: xs, a, 0, _, _, h => by
    have h0 := h x rfl
    have e : ltB a x = false := by unfold ltB; rw [decide_eq_false (by omega)]
    constructor
    · rw [List.takeWhile_cons, e]; rfl
    · rw [List.dropWhile_cons, e]; rfl
  | x :: xs, a, k + 1, hk, hl, h => by
    have h0 := hl 0 x (by omega) rfl
    have e : ltB a x = true := by unfold ltB; rw [decide_eq_true h0]
    obtain ⟨i1, i2⟩ := place_take (xs := xs) (a := a) (k := k) (by simpa using hk) (fun j y hj hy => hl (j + 1) y (by omega) (by simpa using hy)) (fun y hy => h y (by simpa using hy))
    constructor
    · rw [List.takeWhile_cons, e, List.take_succ_cons, ← i1]; rfl
    · rw [List.dropWhile_cons, e, List.drop_succ_cons, ← i2]; rfl

theorem place_ins {xs : List At} {a : At} {k : Nat} (hk : k ≤ xs.length) (hl : ∀ j y, j < k → xs[j]? = some y → atomCmp y a < 0) (h : ∀ y, xs[k]? = some y → 0 ≤ atomCmp y a) : insL xs a = xs.take k ++ a :: xs.drop k := by
  obtain ⟨e1, e2⟩ := place_take hk hl h
  unfold insL; rw [e1, e2]

/-- Merged with one that is not there: it is put in. -/
theorem merge_one : ∀ (ra : List Rf) (b : Rf), hasB (ra.map rAt) (rAt b) = false → (mergeR ra [b]).map (fun x => rAt x.1) = insL (ra.map rAt) (rAt b)
  | [], b, _ => by rw [merge_left]; rfl
  | a :: ra, b, h => by
    rw [List.map_cons, hasB_cons, Bool.or_eq_false_iff, decide_eq_false_iff_not] at h
    rw [mergeR]
    unfold insL
    by_cases h1 : atomCmp (rAt a) (rAt b) < 0
    · have e : ltB (rAt b) (rAt a) = true := by unfold ltB; rw [decide_eq_true h1]
      rw [if_pos h1, List.map_cons, List.map_cons, List.takeWhile_cons, List.dropWhile_cons, e, merge_one ra b h.2]
      rfl
    · have e : ltB (rAt b) (rAt a) = false := by unfold ltB; rw [decide_eq_false h1]
      rw [if_neg h1, if_pos (by omega), merge_nil]
      show rAt b :: ((a :: ra).map fun r => (r, 0)).map (fun x => rAt x.1) = List.takeWhile (ltB (rAt b)) (rAt a :: ra.map rAt) ++ rAt b :: List.dropWhile (ltB (rAt b)) (rAt a :: ra.map rAt)
      rw [List.takeWhile_cons, List.dropWhile_cons, e, List.map_map]
      rfl

/-- What is the same fact is the same. -/
theorem fact_same {a b : At} (ha : factB a = true) (hb : factB b = true) (h : atomCmp a b = 0) : a = b := by
  obtain ⟨n, ts⟩ := a
  obtain ⟨m, us⟩ := b
  unfold factB at ha hb
  rw [Bool.and_eq_true] at ha hb
  have hnm : textCmp n m = 0 := by
    unfold atomCmp at h
    by_cases e : textCmp n m = 0
    · exact e
    · rw [if_neg e] at h; exact h
  have hargs : argsCmp ts us = 0 := by
    unfold atomCmp at h
    rwa [if_pos hnm] at h
  have hw := ha.1
  have hw' := hb.1
  have hts : ts = us := by
    clear h hnm ha hb
    revert us
    induction ts with
    | nil =>
      intro us h _
      cases us with
      | nil => rfl
      | cons u us => simp [argsCmp] at h
    | cons t ts ih =>
      intro us h hwu
      cases us with
      | nil => simp [argsCmp] at h
      | cons u us =>
        have h' : (if textCmp t.2 u.2 = 0 then argsCmp ts us else textCmp t.2 u.2) = 0 := h
        unfold wordsB at *
        rw [List.all_cons, Bool.and_eq_true] at hwu
        have hwt : (t :: ts).all (fun t => !t.1) = true := by assumption
        rw [List.all_cons, Bool.and_eq_true] at hwt
        by_cases e : textCmp t.2 u.2 = 0
        · rw [if_pos e] at h'
          have e1 := ih hwt.2 us h' hwu.2
          have e2 := text_same e
          have e3 : t.1 = u.1 := by
            have a1 := hwt.1; have a2 := hwu.1
            simp at a1 a2
            rw [a1, a2]
          rw [e1, show t = u from Prod.ext e3 e2]
        · rw [if_neg e] at h'; exact absurd h' e
  rw [text_same hnm, hts]

/-- Two lists in order with the same members are one. -/
theorem sorted_ext : ∀ {l l' : List At}, risesB l = true → risesB l' = true → (∀ a, a ∈ l ↔ a ∈ l') → l = l'
  | [], [], _, _, _ => rfl
  | [], y :: l', _, _, h => absurd ((h y).2 (by simp)) (by simp)
  | x :: l, [], _, _, h => absurd ((h x).1 (by simp)) (by simp)
  | x :: l, y :: l', h1, h2, h => by
    have hself : ∀ z : At, atomCmp z z = 0 := fun z => by have := atomCmp_anti z z; omega
    have hxy : x = y := by
      rcases List.mem_cons.1 ((h x).1 (by simp)) with e | e
      · exact e
      · rcases List.mem_cons.1 ((h y).2 (by simp)) with e' | e'
        · exact e'.symm
        · have a1 := rises_head h2 x e
          have a2 := rises_head h1 y e'
          have := atomCmp_anti x y
          omega
    subst hxy
    congr 1
    refine sorted_ext (rises_tail h1) (rises_tail h2) (fun a => ⟨fun ha => ?_, fun ha => ?_⟩)
    · rcases List.mem_cons.1 ((h a).1 (by simp [ha])) with e | e
      · subst e; have := rises_head h1 a ha; have := hself a; omega
      · exact e
    · rcases List.mem_cons.1 ((h a).2 (by simp [ha])) with e | e
      · subst e; have := rises_head h2 a ha; have := hself a; omega
      · exact e

/-- All are facts. -/
def FactsAll (xs : List At) : Prop := ∀ a ∈ xs, factB a = true

theorem hasB_mem {xs : List At} {a : At} (hx : FactsAll xs) (ha : factB a = true) : hasB xs a = true ↔ a ∈ xs := by
  unfold hasB
  rw [List.any_eq_true]
  constructor
  · rintro ⟨x, hx', h⟩
    rw [decide_eq_true_eq] at h
    rw [← fact_same (hx x hx') ha h]; exact hx'
  · intro h
    exact ⟨a, h, by rw [decide_eq_true_eq]; have := atomCmp_anti a a; omega⟩

theorem mem_ins (xs : List At) (a y : At) : y ∈ insL xs a ↔ y ∈ xs ∨ y = a := by
  unfold insL
  conv => rhs; rw [← List.takeWhile_append_dropWhile (p := ltB a) (l := xs)]
  simp only [List.mem_append, List.mem_cons]
  constructor
  · rintro (h | h | h)
    · exact .inl (.inl h)
    · exact .inr h
    · exact .inl (.inr h)
  · rintro ((h | h) | h)
    · exact .inl h
    · exact .inr (.inr h)
    · exact .inr (.inl h)

theorem mem_put {xs : List At} {a : At} (hx : FactsAll xs) (ha : factB a = true) (y : At) : y ∈ putL xs a ↔ y ∈ xs ∨ y = a := by
  unfold putL
  split
  · rename_i h
    have := (hasB_mem hx ha).1 h
    exact ⟨.inl, fun h => h.elim id (fun e => e ▸ this)⟩
  · exact mem_ins xs a y

theorem put_facts {xs : List At} {a : At} (hx : FactsAll xs) (ha : factB a = true) : FactsAll (putL xs a) := by
  intro y hy
  rcases (mem_put hx ha y).1 hy with h | h
  · exact hx y h
  · rw [h]; exact ha

theorem ins_rises : ∀ {xs : List At} {a : At}, risesB xs = true → hasB xs a = false → risesB (insL xs a) = true
  | [], a, _, _ => rfl
  | x :: xs, a, h, hn => by
    rw [hasB_cons, Bool.or_eq_false_iff, decide_eq_false_iff_not] at hn
    unfold insL
    by_cases h1 : atomCmp x a < 0
    · have e : ltB a x = true := by unfold ltB; rw [decide_eq_true h1]
      rw [List.takeWhile_cons, List.dropWhile_cons, e]
      have ih := ins_rises (rises_tail h) hn.2
      refine rises_cons (fun y hy => ?_) ih
      rcases (mem_ins xs a y).1 hy with h2 | h2
      · exact rises_head h y h2
      · rw [h2]; exact h1
    · have e : ltB a x = false := by unfold ltB; rw [decide_eq_false h1]
      rw [List.takeWhile_cons, List.dropWhile_cons, e]
      have hax : atomCmp a x < 0 := by have := atomCmp_anti x a; omega
      refine rises_cons (fun y hy => ?_) h
      rcases List.mem_cons.1 hy with h2 | h2
      · rw [h2]; exact hax
      · exact atomCmp_strict hax (by have := rises_head h y h2; omega)

theorem put_rises {xs : List At} {a : At} (h : risesB xs = true) : risesB (putL xs a) = true := by
  unfold putL
  by_cases e : hasB xs a = true
  · rw [if_pos e]; exact h
  · rw [if_neg e]; exact ins_rises h (by simpa using e)

theorem put_len (xs : List At) (a : At) : (putL xs a).length ≤ xs.length + 1 := by
  unfold putL insL
  split
  · omega
  · have := congrArg List.length (List.takeWhile_append_dropWhile (p := ltB a) (l := xs))
    rw [List.length_append] at this
    rw [List.length_append, List.length_cons]; omega

/-- Facts put among others, one behind the other. -/
theorem puts_all : ∀ {ys xs : List At}, FactsAll xs → FactsAll ys → risesB xs = true → FactsAll (ys.foldl putL xs) ∧ risesB (ys.foldl putL xs) = true ∧ (∀ a, a ∈ ys.foldl putL xs ↔ a ∈ xs ∨ a ∈ ys) ∧ (ys.foldl putL xs).length ≤ xs.length + ys.length
  | [], xs, hx, _, hr => ⟨hx, hr, fun a => by simp, by simp⟩
  | y :: ys, xs, hx, hy, hr => by
    have hy0 := hy y (by simp)
    obtain ⟨i1, i2, i3, i4⟩ := puts_all (ys := ys) (put_facts hx hy0) (fun a ha => hy a (by simp [ha])) (put_rises (a := y) hr)
    refine ⟨i1, i2, fun a => ?_, ?_⟩
    · rw [List.foldl_cons, i3 a, mem_put hx hy0, List.mem_cons, or_assoc]
    · have := put_len xs y
      rw [List.foldl_cons, List.length_cons]; omega

/-- What is in two lists merged. -/
theorem mem_merge : ∀ (ra rb : List Rf), FactsAll (ra.map rAt) → FactsAll (rb.map rAt) → ∀ a, a ∈ (mergeR ra rb).map (fun x => rAt x.1) ↔ a ∈ ra.map rAt ∨ a ∈ rb.map rAt := by
  intro ra rb
  fun_induction mergeR ra rb with
  | case1 ra => intro _ _ a; rw [List.map_map]; simp
  | case2 b rb => intro _ _ a; rw [List.map_map]; simp
  | case3 a ra b rb h ih =>
    intro ha hb y
    have := ih (fun z hz => ha z (by simp only [List.map_cons, List.mem_cons]; exact .inr hz)) hb y
    simp only [List.map_cons, List.mem_cons] at *
    rw [this]
    constructor
    · rintro (h | h | h | h) <;> simp [h]
    · rintro ((h | h) | h | h) <;> simp [h]
  | case4 a ra b rb h h' ih =>
    intro ha hb y
    have := ih ha (fun z hz => hb z (by simp only [List.map_cons, List.mem_cons]; exact .inr hz)) y
    simp only [List.map_cons, List.mem_cons] at *
    rw [this]
    constructor
    · rintro (h | (h | h) | h) <;> simp [h]
    · rintro ((h | h) | h | h) <;> simp [h]
  | case5 a ra b rb h h' ih =>
    intro ha hb y
    have := ih (fun z hz => ha z (by simp only [List.map_cons, List.mem_cons]; exact .inr hz)) (fun z hz => hb z (by simp only [List.map_cons, List.mem_cons]; exact .inr hz)) y
    have e : rAt a = rAt b := fact_same (ha _ (by simp)) (hb _ (by simp)) (by omega)
    simp only [List.map_cons, List.mem_cons] at *
    rw [this, ← e]
    constructor
    · rintro (h | h | h) <;> simp [h]
    · rintro ((h | h) | h | h) <;> simp [h]

theorem merge_puts {ra rb : List Rf} (ha : FactsAll (ra.map rAt)) (hb : FactsAll (rb.map rAt)) (h1 : risesB (ra.map rAt) = true) (h2 : risesB (rb.map rAt) = true) :
    (mergeR ra rb).map (fun x => rAt x.1) = (rb.map rAt).foldl putL (ra.map rAt) := by
  obtain ⟨_, i2, i3, _⟩ := puts_all ha hb h1
  refine sorted_ext (all_rises ra rb h1 h2) i2 (fun a => ?_)
  rw [mem_merge ra rb ha hb a, i3 a]

/-- What is taken out at its place is what all others are. -/
theorem gone_at {xs : List At} {a x : At} {k : Nat} (hr : risesB xs = true) (hl : ∀ j y, j < k → xs[j]? = some y → atomCmp y a < 0) (hx : xs[k]? = some x) (he : atomCmp x a = 0) : xs.filter (fun y => !hasB [a] y) = xs.take k ++ xs.drop (k + 1) := by
  obtain ⟨hk, hkx⟩ := List.getElem?_eq_some_iff.1 hx
  conv => lhs; rw [← List.take_append_drop k xs, List.drop_eq_getElem_cons hk, hkx, List.filter_append]
  have hone : ∀ y, hasB [a] y = decide (atomCmp a y = 0) := fun y => by rw [hasB_cons, hasB_nil, Bool.or_false]
  have hax : atomCmp a x = 0 := by have := atomCmp_anti x a; omega
  rw [List.filter_cons_of_neg (by rw [hone, decide_eq_true hax]; simp)]
  congr 1
  · rw [List.filter_eq_self]
    intro y hy
    obtain ⟨j, hj⟩ := List.getElem?_of_mem hy
    have hjk : j < k := by
      have := (List.getElem?_eq_some_iff.1 hj).1
      rw [List.length_take] at this; omega
    rw [List.getElem?_take, if_pos hjk] at hj
    have h1 := hl j y hjk hj
    rw [hone, decide_eq_false (by have := atomCmp_anti y a; omega)]; rfl
  · rw [List.filter_eq_self]
    intro y hy
    obtain ⟨j, hj⟩ := List.getElem?_of_mem hy
    rw [List.getElem?_drop] at hj
    have h1 := rises_pair hr k (k + 1 + j) x y (by omega) hx hj
    have h2 := atomCmp_on (a := a) (b := x) (c := y) (by omega) (by omega)
    by_cases e : atomCmp a y = 0
    · have h3 := atomCmp_anti a y
      have h4 := atomCmp_strict h1 (show atomCmp y a ≤ 0 by omega)
      omega
    · rw [hone, decide_eq_false e]; rfl

end Go.Proofs.Ytladamhhgleojaa
