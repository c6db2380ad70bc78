/-
  Texts of one claim, put together.
-/
import Derived.Test.YtogonjkklioaaaaGreatDoorLg7
set_option maxRecDepth 100000
set_option maxHeartbeats 8000000
namespace Go.Proofs.YtogonjkklioaaaaGreatDoor
def ltB (a y : At) : Bool := decide (zaf y a < 0)
def insL (xs : List At) (a : At) : List At := xs.takeWhile (ltB a) ++ a :: xs.dropWhile (ltB a)
def zed (xs : List At) (a : At) : List At := if zbq xs a then xs else insL xs a
theorem zku : ∀ {xs : List At} {a : At} {k : Nat}, k ≤ xs.length → (∀ j y, j < k → xs[j]? = some y → zaf y a < 0) → (∀ y, xs[k]? = some y → 0 ≤ zaf y a) → xs.takeWhile (ltB a) = xs.take k ∧ xs.dropWhile (ltB a) = xs.drop k
  | [], a, k, hk, _, _ => by simp
  | x :: xs, a, 0, _, _, h => by
    have h0 := h x rfl; have e : ltB a x = false := by unfold ltB; rw [decide_eq_false qaa]
    constructor
    · rw [List.takeWhile_cons, e]; rfl
    · rw [List.dropWhile_cons, e]; rfl
  | x :: xs, a, k + 1, hk, hl, h => by
    have h0 := hl 0 x qaa rfl; have e : ltB a x = true := by unfold ltB; rw [decide_eq_true h0]
    obtain ⟨i1, i2⟩ := zku (xs := xs) (a := a) (k := k) (by simpa using hk) (fun j y hj hy => hl (j + 1) y qaa qeo) (fun y hy => h y qeo); constructor
    · rw [List.takeWhile_cons, e, List.take_succ_cons, ← i1]; rfl
    · rw [List.dropWhile_cons, e, List.drop_succ_cons, ← i2]; rfl
theorem place_ins {xs : List At} {a : At} {k : Nat} (hk : k ≤ xs.length) (hl : ∀ j y, j < k → xs[j]? = some y → zaf y a < 0) (h : ∀ y, xs[k]? = some y → 0 ≤ zaf y a) : insL xs a = xs.take k ++ a :: xs.drop k := by
  obtain ⟨e1, e2⟩ := zku hk hl h; unfold insL; rw [e1, e2]
theorem fact_same {a b : At} (ha : zby a = true) (hb : zby b = true) (h : zaf a b = 0) : a = b := by
  obtain ⟨n, ts⟩ := a; obtain ⟨m, us⟩ := b; unfold zby at ha hb; rw [Bool.and_eq_true] at ha hb
  have hnm : zal n m = 0 := by
    unfold zaf at h; by_cases e : zal n m = 0
    · exact e
    · rw [if_neg e] at h; exact h
  have a4 : zbd ts us = 0 := by
    unfold zaf at h
    rwa [if_pos hnm] at h
  have hw := ha.1; have hw' := hb.1
  have a5 : ts = us := by
    clear h hnm ha hb; revert us
    induction ts with
    | nil =>
      intro us h _
      cases us with
      | nil => rfl
      | cons u us => simp [zbd] at h
    | cons t ts ih =>
      intro us h hwu
      cases us with
      | nil => simp [zbd] at h
      | cons u us =>
        have h' : (if zal t.2 u.2 = 0 then zbd ts us else zal t.2 u.2) = 0 := h; unfold zfn at *; rw [List.all_cons, Bool.and_eq_true] at hwu; have a3 : (t :: ts).all (fun t => !t.1) = true := qbn; rw [List.all_cons, Bool.and_eq_true] at a3; by_cases e : zal t.2 u.2 = 0
        · rw [if_pos e] at h'
          have e1 := ih a3.2 us h' hwu.2; have e2 := zji e
          have e3 : t.1 = u.1 := by
            have a1 := a3.1; have a2 := hwu.1; simp at a1 a2; rw [a1, a2]
          rw [e1, show t = u from Prod.ext e3 e2]
        · rw [if_neg e] at h'; exact absurd h' e
  rw [zji hnm, a5]
theorem sorted_ext : ∀ {l l' : List At}, zaj l = true → zaj l' = true → (∀ a, a ∈ l ↔ a ∈ l') → l = l'
  | [], [], _, _, _ => rfl
  | [], y :: l', _, _, h => absurd ((h y).2 qag) qag
  | x :: l, [], _, _, h => absurd ((h x).1 qag) qag
  | x :: l, y :: l', h1, h2, h => by
    have hself : ∀ z : At, zaf z z = 0 := fun z => by have := zbc z z; omega
    have hxy : x = y := by
      rcases List.mem_cons.1 ((h x).1 qag) with e | e
      · exact e
      · rcases List.mem_cons.1 ((h y).2 qag) with e' | e'
        · exact e'.symm
        · have a1 := zbp h2 x e
          have a2 := zbp h1 y e'; have := zbc x y; omega
    subst hxy; congr 1; refine sorted_ext (zck h1) (zck h2) (fun a => ⟨fun ha => ?_, fun ha => ?_⟩)
    · rcases List.mem_cons.1 ((h a).1 (by simp [ha])) with e | e
      · subst e; have := zbp h1 a ha; have := hself a; omega
      · exact e
    · rcases List.mem_cons.1 ((h a).2 (by simp [ha])) with e | e
      · subst e; have := zbp h2 a ha; have := hself a; omega
      · exact e
def zbn (xs : List At) : Prop := ∀ a ∈ xs, zby a = true
theorem hasB_mem {xs : List At} {a : At} (hx : zbn xs) (ha : zby a = true) : zbq xs a = true ↔ a ∈ xs := by
  unfold zbq; rw [List.any_eq_true]; constructor
  · rintro ⟨x, a2, h⟩
    rw [decide_eq_true_eq] at h; rw [← fact_same (hx x a2) ha h]; exact a2
  · intro h
    exact ⟨a, h, by rw [decide_eq_true_eq]; have := zbc a a; omega⟩
theorem mem_ins (xs : List At) (a y : At) : y ∈ insL xs a ↔ y ∈ xs ∨ y = a := by
  unfold insL
  conv => rhs; rw [← List.takeWhile_append_dropWhile (p := ltB a) (l := xs)]
  simp only [List.mem_append, List.mem_cons]; constructor
  · rintro (h | h | h)
    · exact .inl (.inl h)
    · exact .inr h
    · exact .inl (.inr h)
  · rintro ((h | h) | h)
    · exact .inl h
    · exact .inr (.inr h)
    · exact .inr (.inl h)
theorem mem_put {xs : List At} {a : At} (hx : zbn xs) (ha : zby a = true) (y : At) : y ∈ zed xs a ↔ y ∈ xs ∨ y = a := by
  unfold zed; split
  · rename_i h
    have := (hasB_mem hx ha).1 h; exact ⟨.inl, fun h => h.elim id (fun e => e ▸ this)⟩
  · exact mem_ins xs a y
theorem put_facts {xs : List At} {a : At} (hx : zbn xs) (ha : zby a = true) : zbn (zed xs a) := by
  intro y hy; rcases (mem_put hx ha y).1 hy with h | h
  · exact hx y h
  · rw [h]; exact ha
theorem ins_rises : ∀ {xs : List At} {a : At}, zaj xs = true → zbq xs a = false → zaj (insL xs a) = true
  | [], a, _, _ => rfl
  | x :: xs, a, h, hn => by
    rw [zjv, Bool.or_eq_false_iff, decide_eq_false_iff_not] at hn; unfold insL; by_cases h1 : zaf x a < 0
    · have e : ltB a x = true := by unfold ltB; rw [decide_eq_true h1]
      rw [List.takeWhile_cons, List.dropWhile_cons, e]; have ih := ins_rises (zck h) hn.2; refine zkr (fun y hy => ?_) ih; rcases (mem_ins xs a y).1 hy with h2 | h2
      · exact zbp h y h2
      · rw [h2]; exact h1
    · have e : ltB a x = false := by unfold ltB; rw [decide_eq_false h1]
      rw [List.takeWhile_cons, List.dropWhile_cons, e]; have a2 : zaf a x < 0 := by have := zbc x a; omega
      refine zkr (fun y hy => ?_) h; rcases List.mem_cons.1 hy with h2 | h2
      · rw [h2]; exact a2
      · exact zbt a2 (by have := zbp h y h2; omega)
theorem zha {xs : List At} {a : At} (h : zaj xs = true) : zaj (zed xs a) = true := by
  unfold zed; by_cases e : zbq xs a = true
  · rw [if_pos e]; exact h
  · rw [if_neg e]; exact ins_rises h (by simpa using e)
theorem zkt (xs : List At) (a : At) : (zed xs a).length ≤ xs.length + 1 := by
  unfold zed insL; split
  · omega
  · have := congrArg List.length (List.takeWhile_append_dropWhile (p := ltB a) (l := xs))
    rw [List.length_append] at this; rw [List.length_append, List.length_cons]; omega
theorem puts_all : ∀ {ys xs : List At}, zbn xs → zbn ys → zaj xs = true → zbn (ys.foldl zed xs) ∧ zaj (ys.foldl zed xs) = true ∧ (∀ a, a ∈ ys.foldl zed xs ↔ a ∈ xs ∨ a ∈ ys) ∧ (ys.foldl zed xs).length ≤ xs.length + ys.length
  | [], xs, hx, _, hr => ⟨hx, hr, fun a => by simp, by simp⟩
  | y :: ys, xs, hx, hy, hr => by
    have hy0 := hy y qag; obtain ⟨i1, i2, i3, i4⟩ := puts_all (ys := ys) (put_facts hx hy0) (fun a ha => hy a (by simp [ha])) (zha (a := y) hr); refine ⟨i1, i2, fun a => ?_, ?_⟩
    · rw [List.foldl_cons, i3 a, mem_put hx hy0, List.mem_cons, or_assoc]
    · have := zkt xs y
      rw [List.foldl_cons, List.length_cons]; omega
theorem gone_at {xs : List At} {a x : At} {k : Nat} (hr : zaj xs = true) (hl : ∀ j y, j < k → xs[j]? = some y → zaf y a < 0) (hx : xs[k]? = some x) (he : zaf x a = 0) : xs.filter (fun y => !zbq [a] y) = xs.take k ++ xs.drop (k + 1) := by
  obtain ⟨hk, a5⟩ := List.getElem?_eq_some_iff.1 hx
  conv => lhs; rw [← List.take_append_drop k xs, List.drop_eq_getElem_cons hk, a5, List.filter_append]
  have a2 : ∀ y, zbq [a] y = decide (zaf a y = 0) := fun y => by rw [zjv, hasB_nil, Bool.or_false]
  have a4 : zaf a x = 0 := by have := zbc x a; omega
  rw [List.filter_cons_of_neg (by rw [a2, decide_eq_true a4]; simp)]; congr 1
  · rw [List.filter_eq_self]
    intro y hy; obtain ⟨j, hj⟩ := List.getElem?_of_mem hy
    have a3 : j < k := by
      have := (List.getElem?_eq_some_iff.1 hj).1; rw [List.length_take] at this; omega
    rw [List.getElem?_take, if_pos a3] at hj; have h1 := hl j y a3 hj; rw [a2, decide_eq_false (by have := zbc y a; omega)]; rfl
  · rw [List.filter_eq_self]
    intro y hy; obtain ⟨j, hj⟩ := List.getElem?_of_mem hy; rw [List.getElem?_drop] at hj; have h1 := zkq hr k (k + 1 + j) x y qaa hx hj; have h2 := zih (a := a) (b := x) (c := y) qaa qaa; by_cases e : zaf a y = 0
    · have h3 := zbc a y
      have h4 := zbt h1 (show zaf y a ≤ 0 by omega); omega
    · rw [a2, decide_eq_false e]; rfl
end Go.Proofs.YtogonjkklioaaaaGreatDoor
