/-
  What the model reads of words as parts and as a rule; it is what the program reads.
-/
import Derived.Test.YtahkkelahocplaaDoorReadMath
namespace Go.Proofs.YtahkkelahocplaaDoor

/-- The words that no atom is. -/
def notW : List UInt8 := [110, 111, 116]
def andW : List UInt8 := [97, 110, 100]
def ifW : List UInt8 := [105, 102]

/-- What the model reads of words as parts. -/
def wordsP : List (List UInt8) → Option (List Pt)
  | [] => some []
  | [w] => (getB w).map fun a => [(false, a)]
  | w :: v :: r => if w = notW then (match getB v with | none => none | some a => (wordsP (r.drop 1)).map ((true, a) :: ·)) else match getB w with | none => none | some a => (wordsP r).map ((false, a) :: ·)
termination_by l => l.length
decreasing_by all_goals (simp only [List.length_cons, List.length_drop]; omega)

/-- The words of a part, and of a body. -/
def partWords (p : Pt) : List (List UInt8) := if p.1 then [notW, textL p.2] else [textL p.2]
def bodyWords : List Pt → List (List UInt8)
  | [] => []
  | [p] => partWords p
  | p :: q :: r => partWords p ++ andW :: bodyWords (q :: r)

theorem notW_blank : (32 : UInt8) ∉ notW := by decide
theorem andW_blank : (32 : UInt8) ∉ andW := by decide
theorem ifW_blank : (32 : UInt8) ∉ ifW := by decide

theorem text_notW {a : At} : textL a ≠ notW := by
  intro e
  have := text_open a
  rw [e] at this
  revert this
  decide

theorem cuts_part {p : Pt} (h : atomB p.2 = true) : cuts 32 (partL p) = partWords p := by
  have hb := text_no_blank h
  unfold partL partWords
  cases p.1
  · exact cuts_none hb
  · have e : ([110, 111, 116, 32] : List UInt8) ++ textL p.2 = notW ++ 32 :: textL p.2 := rfl
    simp only [if_true]
    rw [e, cuts_first notW_blank, cuts_none hb]

theorem cuts_part_on {p : Pt} (h : atomB p.2 = true) (s : List UInt8) : cuts 32 (partL p ++ 32 :: s) = partWords p ++ cuts 32 s := by
  have hb := text_no_blank h
  unfold partL partWords
  cases p.1
  · exact cuts_first hb
  · have e : ([110, 111, 116, 32] : List UInt8) ++ textL p.2 ++ 32 :: s = notW ++ 32 :: (textL p.2 ++ 32 :: s) := by simp [notW]
    simp only [if_true]
    rw [e, cuts_first notW_blank, cuts_first hb]; rfl

theorem cuts_body : ∀ {xs : List Pt}, xs ≠ [] → bodyB xs = true → cuts 32 (bodyL xs) = bodyWords xs
  | [], h, _ => absurd rfl h
  | [p], _, h => by
    have hp : atomB p.2 = true := by unfold bodyB at h; simpa using h
    have e : bodyL [p] = partL p := by unfold bodyL; exact Lib.join_one _ _
    rw [e, cuts_part hp]; rfl
  | p :: q :: r, _, h => by
    have hp : atomB p.2 = true ∧ bodyB (q :: r) = true := by unfold bodyB at h ⊢; simpa using h
    have e : bodyL (p :: q :: r) = partL p ++ 32 :: (andW ++ 32 :: bodyL (q :: r)) := by
      unfold bodyL andW
      rw [List.map_cons, List.map_cons, Lib.join_cons, joinTail_cons, Lib.join_cons]; simp
    rw [e, cuts_part_on hp.1, cuts_first andW_blank, cuts_body (by simp) hp.2]; rfl

theorem wordsP_not (v : List UInt8) (r : List (List UInt8)) : wordsP (notW :: v :: r) = match getB v with | none => none | some a => (wordsP (r.drop 1)).map ((true, a) :: ·) := by
  rw [wordsP, if_pos rfl]
theorem wordsP_plain {w v : List UInt8} {r : List (List UInt8)} (h : w ≠ notW) : wordsP (w :: v :: r) = match getB w with | none => none | some a => (wordsP r).map ((false, a) :: ·) := by
  rw [wordsP, if_neg h]

theorem wordsP_body : ∀ {xs : List Pt}, bodyB xs = true → wordsP (bodyWords xs) = some xs
  | [], _ => by rw [bodyWords, wordsP]
  | [(n, a)], h => by
    have hp : atomB a = true := by unfold bodyB at h; simpa using h
    rw [bodyWords]
    unfold partWords
    cases n
    · simp only [Bool.false_eq_true, if_false]
      rw [wordsP, getB_text hp]; rfl
    · simp only [if_true]
      rw [wordsP_not, getB_text hp]
      simp only [List.drop_nil]
      rw [wordsP]; rfl
  | (n, a) :: q :: r, h => by
    have hp : atomB a = true ∧ bodyB (q :: r) = true := by unfold bodyB at h ⊢; simpa using h
    have ih := wordsP_body hp.2
    rw [bodyWords]
    unfold partWords
    cases n
    · simp only [Bool.false_eq_true, if_false, List.cons_append, List.nil_append]
      rw [wordsP_plain text_notW, getB_text hp.1]
      simp only
      rw [ih]; rfl
    · simp only [if_true, List.cons_append, List.nil_append]
      rw [wordsP_not, getB_text hp.1]
      simp only [List.drop_succ_cons, List.drop_zero]
      rw [ih]; rfl

theorem bodyWords_ne : ∀ {xs : List Pt}, xs ≠ [] → 1 ≤ (bodyWords xs).length
  | [], h => absurd rfl h
  | [p], _ => by rw [bodyWords]; unfold partWords; split <;> simp
  | p :: q :: r, _ => by rw [bodyWords]; simp; omega

/-- The words of a rule. -/
theorem cuts_rule {r : Rl} (h : ruleB r = true) : cuts 32 (ruleL r) = textL r.1 :: (if r.2.length = 0 then [] else ifW :: bodyWords r.2) := by
  obtain ⟨h1, h2, _⟩ := rule_parts h
  have hb := text_no_blank h2
  unfold ruleL
  by_cases h0 : r.2.length = 0
  · rw [if_pos h0, if_pos h0, List.append_nil, cuts_none hb]
  · have hne : r.2 ≠ [] := fun e => h0 (by rw [e]; rfl)
    have e : textL r.1 ++ ([32, 105, 102, 32] ++ bodyL r.2) = textL r.1 ++ 32 :: (ifW ++ 32 :: bodyL r.2) := by simp [ifW]
    rw [if_neg h0, if_neg h0, e, cuts_first hb, cuts_first ifW_blank, cuts_body hne h1]

theorem getB_nil : getB [] = none := getB_no (by unfold readOk; rw [cut_none (by simp)]; rfl)

/-- The body that the model reads behind the first two words; none if there is none. -/
def behind2 (ws : List (List UInt8)) : Option (List Pt) := if 2 < ws.length then wordsP (ws.drop 2) else some []

theorem rule_words {l : List UInt8} {r : Rl} (h : readR l = some r) : (∃ ws, cuts 32 l = textL r.1 :: ws) ∧ atomB r.1 = true ∧ behind2 (cuts 32 l) = some r.2 ∧ rulePutB r = l := by
  obtain ⟨h1, h2⟩ := readR_sound h
  have hc := cuts_rule h1
  rw [h2] at hc
  obtain ⟨h3, h4, h5⟩ := rule_parts h1
  refine ⟨⟨_, hc⟩, h4, ?_, by unfold rulePutB; rw [if_pos h1, h2]⟩
  rw [hc]
  unfold behind2
  by_cases h0 : r.2.length = 0
  · rw [if_pos h0, if_neg (by simp), List.eq_nil_of_length_eq_zero h0]
  · have hne : r.2 ≠ [] := fun e => h0 (by rw [e]; rfl)
    have := bodyWords_ne hne
    rw [if_neg h0, if_pos (by simp only [List.length_cons]; omega)]
    exact wordsP_body h3

/-- What the model tells is what the program tells. -/
theorem readR_head {l w : List UInt8} {ws : List (List UInt8)} (hc : cuts 32 l = w :: ws) (h : getB w = none) : readR l = none := by
  cases hr : readR l with
  | none => rfl
  | some r =>
    obtain ⟨⟨v, hv⟩, h1, _⟩ := rule_words hr
    rw [hc] at hv
    injection hv with hv
    rw [hv, getB_text h1] at h
    cases h

theorem readR_body {l : List UInt8} (h : behind2 (cuts 32 l) = none) : readR l = none := by
  cases hr : readR l with
  | none => rfl
  | some r =>
    obtain ⟨_, _, h2, _⟩ := rule_words hr
    rw [h2] at h; cases h

theorem readR_put {l w : List UInt8} {ws : List (List UInt8)} {a : At} {xs : List Pt} (hc : cuts 32 l = w :: ws) (ha : getB w = some a) (hb : behind2 (cuts 32 l) = some xs) :
    (rulePutB (a, xs) = l → readR l = some (a, xs)) ∧ (rulePutB (a, xs) ≠ l → readR l = none) := by
  refine ⟨fun h => ?_, fun h => ?_⟩
  · have hok : ruleB (a, xs) = true := by
      cases hk : ruleB (a, xs)
      · unfold rulePutB at h
        rw [hk] at h
        rw [← h] at hc
        have e : cuts 32 ([] : List UInt8) = [[]] := rfl
        have e2 : cuts 32 (if false = true then ruleL (a, xs) else []) = [[]] := rfl
        rw [e2] at hc
        injection hc with hc
        rw [← hc, getB_nil] at ha; cases ha
      · rfl
    unfold rulePutB at h
    rw [if_pos hok] at h
    rw [← h]; exact readR_text hok
  · cases hr : readR l with
    | none => rfl
    | some r =>
      obtain ⟨⟨v, hv⟩, h1, h2, h3⟩ := rule_words hr
      rw [hc] at hv
      injection hv with hv
      rw [hv, getB_text h1] at ha
      injection ha with ha
      rw [h2] at hb
      injection hb with hb
      exact absurd (by rw [← ha, ← hb]; exact h3) h

end Go.Proofs.YtahkkelahocplaaDoor
