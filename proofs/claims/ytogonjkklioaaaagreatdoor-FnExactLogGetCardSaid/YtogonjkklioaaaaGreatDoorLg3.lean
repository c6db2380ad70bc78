/-
  Texts of one claim, put together.
-/
import Derived.Test.YtogonjkklioaaaaGreatDoorLg2
import Derived.Test.YtogonjkklioaaaaGreatDoorLg1
import Derived.Deep.QuietTactic
import Derived.BigQuiet
import Derived.Test.YtogonjkklioaaaaGreatDoorLg0
import Derived.Deep.RegionHeld3
namespace Go.Proofs.YtogonjkklioaaaaGreatDoor

/-- What stands between parts, behind a head, ahead of what must not be. -/
def andL : List UInt8 := [32, 97, 110, 100, 32]
def ifL : List UInt8 := [32, 105, 102, 32]
def notL : List UInt8 := [110, 111, 116, 32]

/-! Texts cut at marks of several bytes. -/

theorem cut_sound {l sep h b : List UInt8} {f : Bool} (hc : Lib.cut l sep = (h, b, f)) : (f = true → l = h ++ sep ++ b) ∧ (f = false → l = h ∧ Lib.index l sep = -1) := by
  unfold Lib.cut at hc
  rcases Lib.index_spec l sep with ⟨h1, _⟩ | ⟨i, h1, h2, h3, _⟩
  · rw [h1, if_neg (by decide)] at hc
    injection hc with e1 e2
    injection e2 with e2 e3
    exact ⟨fun e => absurd (e3.trans e) (by decide), fun _ => ⟨e1, h1⟩⟩
  · rw [h1, if_pos (by omega)] at hc
    injection hc with e1 e2
    injection e2 with e2 e3
    have ei : ((i : Int)).toNat = i := by omega
    rw [ei] at e1 e2
    refine ⟨fun _ => ?_, fun e => absurd (e3.trans e) (by decide)⟩
    unfold Lib.occAt at h3
    rw [List.isPrefixOf_iff_prefix] at h3
    obtain ⟨t, ht⟩ := h3
    rw [← e1, ← e2, ← List.drop_drop, ← ht, List.drop_left, List.append_assoc, ht, List.take_append_drop]

theorem splitK_join (sep : List UInt8) : ∀ (k : Nat) (l : List UInt8), Lib.join (Lib.splitK sep 0 k l) sep = l
  | 0, l => Lib.join_one l sep
  | k + 1, l => by
    rw [Lib.splitK]
    by_cases h : Lib.index l sep = -1
    · rw [if_pos (by rw [h]; rfl)]; exact Lib.join_one l sep
    · rw [if_neg (by rw [beq_iff_eq]; exact h), Lib.join_cons, Nat.add_zero]
      have ih := splitK_join sep k (l.drop ((Lib.index l sep).toNat + sep.length))
      rcases Lib.index_spec l sep with ⟨h1, _⟩ | ⟨i, h1, h2, h3, _⟩
      · exact absurd h1 h
      · have ei : (Lib.index l sep).toNat = i := by omega
        rw [ei] at ih ⊢
        have hx : ∀ xs : List (List UInt8), xs ≠ [] → Lib.joinTail sep xs = sep ++ Lib.join xs sep := by
          intro xs hxs
          cases xs with
          | nil => exact absurd rfl hxs
          | cons x r => rw [joinTail_cons, Lib.join_cons, List.append_assoc]
        rw [hx _ (by cases k <;> (unfold Lib.splitK; try split) <;> simp), ih]
        unfold Lib.occAt at h3
        rw [List.isPrefixOf_iff_prefix] at h3
        obtain ⟨t, ht⟩ := h3
        rw [← List.drop_drop, ← ht, List.drop_left, ht, List.take_append_drop]

/-- A mark stands first behind x, if it stands nowhere ahead. -/
theorem index_at {x r sep : List UInt8} (h : ∀ j, j < x.length → Lib.occAt (x ++ (sep ++ r)) sep j = false) : Lib.index (x ++ (sep ++ r)) sep = x.length := by
  refine Lib.index_first (by simp) ?_ h
  unfold Lib.occAt
  rw [List.drop_left, List.isPrefixOf_iff_prefix]
  exact List.prefix_append sep r

theorem cut_at {x r sep : List UInt8} (h : ∀ j, j < x.length → Lib.occAt (x ++ (sep ++ r)) sep j = false) : Lib.cut (x ++ (sep ++ r)) sep = (x, r, true) := by
  unfold Lib.cut
  have ei : ((x.length : Int)).toNat = x.length := by omega
  rw [index_at h, if_pos (by omega), ei, List.take_left, ← List.drop_drop, List.drop_left, List.drop_left]

theorem splitK_at {x r sep : List UInt8} (k : Nat) (h : ∀ j, j < x.length → Lib.occAt (x ++ (sep ++ r)) sep j = false) : Lib.splitK sep 0 (k + 1) (x ++ (sep ++ r)) = x :: Lib.splitK sep 0 k r := by
  have ei : ((x.length : Int)).toNat = x.length := by omega
  rw [Lib.splitK, index_at h, if_neg (by rw [beq_iff_eq]; omega), ei, Nat.add_zero, List.take_left, ← List.drop_drop, List.drop_left, List.drop_left]

theorem splitK_none {x sep : List UInt8} (k : Nat) (h : Lib.index x sep = -1) : Lib.splitK sep 0 k x = [x] := by
  cases k with
  | zero => rfl
  | succ k => rw [Lib.splitK, if_pos (by rw [h]; rfl)]

/-- A mark that begins with a blank stands nowhere in a text with none. -/
theorem no_occ {x s sep : List UInt8} {q : List UInt8} (hs : sep = 32 :: q) (hx : (32 : UInt8) ∉ x) : ∀ j, j < x.length → Lib.occAt (x ++ s) sep j = false := by
  intro j hj
  unfold Lib.occAt
  rw [Bool.eq_false_iff]
  intro hp
  have hd : (x ++ s).drop j = x[j] :: (x.drop (j + 1) ++ s) := by
    rw [List.drop_append_of_le_length (by omega), List.drop_eq_getElem_cons hj]; rfl
  rw [hd, hs, List.isPrefixOf_iff_prefix, List.cons_prefix_cons] at hp
  exact hx (by rw [hp.1]; exact List.getElem_mem hj)

theorem index_no_blank {x sep q : List UInt8} (hs : sep = 32 :: q) (hx : (32 : UInt8) ∉ x) : Lib.index x sep = -1 := by
  refine Lib.index_none fun j hj => ?_
  by_cases h : j < x.length
  · have := no_occ (s := []) hs hx j h
    rwa [List.append_nil] at this
  · unfold Lib.occAt
    rw [List.drop_eq_nil_of_le (by omega), hs]; rfl

/-! Atoms. -/

theorem text_len {a : At} (h : atomB a = true) : 3 ≤ (textL a).length := by
  have h1 := (atom_parts h).1
  unfold nameB letters at h1
  simp only [Bool.and_eq_true, decide_eq_true_eq] at h1
  unfold textL
  simp only [List.length_append, List.length_cons, List.length_nil]
  omega

theorem text_open (a : At) : (40 : UInt8) ∈ textL a := by unfold textL; simp

theorem argOf_term {t : Tm} (h : termB t = true) : argOf t.2.data.toList = t := by
  obtain ⟨v, s⟩ := t
  unfold argOf
  have e : (⟨s.data.toList.toArray⟩ : ByteArray) = s := by cases s; rfl
  show ((match s.data.toList with | [] => false | c :: _ => capital c), (⟨s.data.toList.toArray⟩ : ByteArray)) = (v, s)
  rw [e]
  congr 1
  cases hl : s.data.toList with
  | nil =>
    unfold termB varB nameB letters at h
    cases v
    · simp [hl] at h
    · simp [hl] at h
  | cons c r =>
    unfold termB at h
    cases v
    · have h2 := name_plain (c := c) (l := s.data.toList) (by simpa using h) (by rw [hl]; simp)
      show capital c = false
      cases hc : capital c
      · rfl
      · unfold capital at hc
        unfold okByte at h2
        simp only [Bool.and_eq_true, decide_eq_true_eq] at hc
        have : ¬ (97 ≤ (c.toNat : Int)) := by omega
        have : ¬ ((c.toNat : Int) ≤ 57) := by omega
        simp only [Bool.not_eq_true', Bool.and_eq_false_iff, Bool.or_eq_false_iff, decide_eq_false_iff_not] at h2
        omega
    · have h2 : varB s.data.toList = true := by simpa using h
      rw [hl] at h2
      unfold varB at h2
      simp only [Bool.and_eq_true] at h2
      exact h2.1.1

theorem cuts_of_join {c : UInt8} : ∀ (xs : List (List UInt8)), xs ≠ [] → (∀ x ∈ xs, c ∉ x) → cuts c (Lib.join xs [c]) = xs
  | [], h, _ => absurd rfl h
  | [x], _, h => by rw [Lib.join_one, cuts_none (h x (by simp))]
  | x :: y :: r, _, h => by
    have e : Lib.join (x :: y :: r) [c] = x ++ c :: Lib.join (y :: r) [c] := by
      rw [Lib.join_cons, joinTail_cons, Lib.join_cons]; simp
    rw [e, cuts_first (h x (by simp)), cuts_of_join (y :: r) (by simp) (fun z hz => h z (by simp [hz]))]

theorem termsOf_join {ts : List Tm} (h : ∀ t ∈ ts, termB t = true) : termsOf (Lib.join (tmNames ts) [44]) = ts := by
  cases ts with
  | nil => rfl
  | cons t r =>
    have hne : ∀ u : Tm, termB u = true → u.2.data.toList ≠ [] := by
      intro u hu e
      unfold termB varB nameB letters at hu
      rw [e] at hu
      cases hv : u.1 <;> simp [hv] at hu
    have hj : Lib.join (tmNames (t :: r)) [44] ≠ [] := by
      have e : tmNames (t :: r) = t.2.data.toList :: tmNames r := rfl
      rw [e, Lib.join_cons]
      intro e2
      exact hne t (h t (by simp)) (List.append_eq_nil_iff.1 e2).1
    unfold termsOf
    rw [if_neg hj, cuts_of_join _ (by unfold tmNames; simp) ?_]
    · unfold tmNames
      rw [List.map_map]
      conv => rhs; rw [← List.map_id (t :: r)]
      exact List.map_congr_left fun u hu => argOf_term (h u hu)
    · intro x hx hm
      unfold tmNames at hx
      obtain ⟨u, hu, rfl⟩ := List.mem_map.1 hx
      exact not_plain (.inr (.inr (.inl rfl))) (term_plain (h u hu) hm)

/-- An atom that is ok is read back from its text. -/
theorem getB_text {a : At} (h : atomB a = true) : getB (textL a) = some a := by
  obtain ⟨h1, h2, h3⟩ := atom_parts h
  have hx : (40 : UInt8) ∉ a.1.data.toList := fun hm => not_plain (.inl rfl) (.inl (name_plain h1 hm))
  have hl : textL a = a.1.data.toList ++ 40 :: (Lib.join (tmNames a.2) [44] ++ [41]) := by unfold textL; simp
  have hcut : Lib.cut (textL a) [40] = (a.1.data.toList, Lib.join (tmNames a.2) [44] ++ [41], true) := by rw [hl]; exact cut_first hx
  obtain ⟨y, hy, ht⟩ := suffix_one (has_suffix_one 41 (Lib.join (tmNames a.2) [44]))
  have hyy : Lib.join (tmNames a.2) [44] = y := List.append_inj_left' hy rfl
  have hA : readA (textL a) = a := by
    unfold readA
    rw [hcut]
    show (_, termsOf (Lib.trimSuffix (Lib.join (tmNames a.2) [44] ++ [41]) [41])) = a
    rw [ht, ← hyy, termsOf_join h2]
  have hok : readOk (textL a) = true := by
    unfold readOk; rw [hA, hcut, h]
    show (true && (Lib.hasSuffix (Lib.join (tmNames a.2) [44] ++ [41]) [41] && true)) = true
    rw [has_suffix_one]; rfl
  rw [getB_yes (Nat.le_trans (textL_le h) (by decide)) hok, hA]

/-! Parts. -/

theorem occ_and {p : Pt} (h : atomB p.2 = true) (s : List UInt8) : ∀ j, j < (partL p).length → Lib.occAt (partL p ++ s) andL j = false := by
  have hb := text_no_blank h
  have ha := no_occ (sep := andL) (s := s) rfl hb
  unfold partL
  cases p.1
  · exact ha
  · intro j hj
    match j, hj with
    | 0, _ => rfl
    | 1, _ => rfl
    | 2, _ => rfl
    | 3, _ =>
      show List.isPrefixOf andL (32 :: (textL p.2 ++ s)) = false
      rw [Bool.eq_false_iff]
      intro hp
      rw [List.isPrefixOf_iff_prefix] at hp
      unfold andL at hp
      rw [List.cons_prefix_cons] at hp
      obtain ⟨t, ht⟩ := hp.2
      rcases List.append_eq_append_iff.1 ht with ⟨us, e, _⟩ | ⟨vs, e, _⟩
      · exact hb (by rw [e]; simp)
      · have := text_open p.2
        have h4 : (40 : UInt8) ∈ ([97, 110, 100, 32] : List UInt8) := by rw [e]; exact List.mem_append_left _ this
        simp at h4
    | j + 4, hj =>
      have hj' : j < (textL p.2).length := by
        simp only [if_true, List.length_append, List.length_cons, List.length_nil] at hj; omega
      exact ha j hj'

theorem index_and {p : Pt} (h : atomB p.2 = true) : Lib.index (partL p) andL = -1 := by
  refine Lib.index_none fun j hj => ?_
  by_cases hlt : j < (partL p).length
  · have := occ_and h [] j hlt
    rwa [List.append_nil] at this
  · unfold Lib.occAt
    rw [List.drop_eq_nil_of_le (by omega)]; rfl

theorem split_body : ∀ (xs : List Pt) (k : Nat), xs ≠ [] → bodyB xs = true → xs.length ≤ k + 1 → Lib.splitK andL 0 k (bodyL xs) = xs.map partL
  | [], _, h, _, _ => absurd rfl h
  | [p], k, _, h, _ => by
    have hp : atomB p.2 = true := by unfold bodyB at h; simpa using h
    have e : bodyL [p] = partL p := by unfold bodyL; exact Lib.join_one _ _
    rw [e, splitK_none k (index_and hp)]; rfl
  | p :: q :: r, k, _, h, hk => by
    have hp : atomB p.2 = true ∧ bodyB (q :: r) = true := by unfold bodyB at h ⊢; simpa using h
    have e : bodyL (p :: q :: r) = partL p ++ (andL ++ bodyL (q :: r)) := by
      unfold bodyL andL
      rw [List.map_cons, List.map_cons, Lib.join_cons, joinTail_cons, Lib.join_cons]; simp
    obtain ⟨k, rfl⟩ : ∃ m, k = m + 1 := ⟨k - 1, by simp only [List.length_cons] at hk; omega⟩
    rw [e, splitK_at k (occ_and hp.1 _), split_body (q :: r) k (by simp) hp.2 (by simp only [List.length_cons] at hk ⊢; omega)]; rfl

/-- What the program reads of a piece. -/
def readP (l : List UInt8) : Option Pt := (getB (Lib.trimPrefix l notL)).map fun a => (Lib.hasPrefix l notL, a)

theorem readP_sound {l : List UInt8} {p : Pt} (h : readP l = some p) : atomB p.2 = true ∧ partL p = l := by
  unfold readP at h
  rw [Option.map_eq_some_iff] at h
  obtain ⟨a, ha, rfl⟩ := h
  obtain ⟨h1, h2, _⟩ := getB_some ha
  refine ⟨h1, ?_⟩
  unfold partL
  show (if Lib.hasPrefix l notL = true then _ else _) ++ textL a = l
  rw [h2]
  unfold Lib.trimPrefix
  cases hp : Lib.hasPrefix l notL
  · simp
  · unfold Lib.hasPrefix at hp
    rw [List.isPrefixOf_iff_prefix] at hp
    obtain ⟨t, ht⟩ := hp
    rw [← ht]
    simp [notL]

theorem readP_part {p : Pt} (h : atomB p.2 = true) : readP (partL p) = some p := by
  obtain ⟨n, a⟩ := p
  have hb := text_no_blank h
  cases n
  · have e : partL (false, a) = textL a := by unfold partL; simp
    have hp : Lib.hasPrefix (textL a) notL = false := by
      rw [Bool.eq_false_iff]
      intro hp
      unfold Lib.hasPrefix at hp
      rw [List.isPrefixOf_iff_prefix] at hp
      obtain ⟨t, ht⟩ := hp
      exact hb (by show _ ∈ textL a; rw [← ht]; simp [notL])
    unfold readP Lib.trimPrefix
    rw [e, hp, if_neg (by decide), getB_text h]; rfl
  · have e : partL (true, a) = notL ++ textL a := by unfold partL; rfl
    have hp : Lib.hasPrefix (notL ++ textL a) notL = true := by
      unfold Lib.hasPrefix
      rw [List.isPrefixOf_iff_prefix]; exact List.prefix_append _ _
    unfold readP Lib.trimPrefix
    rw [e, hp, if_pos rfl, List.drop_left, getB_text h]; rfl

/-- All of a list that are, if all are. -/
def allS {α β : Type} (f : α → Option β) : List α → Option (List β)
  | [] => some []
  | x :: r => match f x with
    | none => none
    | some y => (allS f r).map (y :: ·)

theorem allS_sound {ps : List (List UInt8)} : ∀ {xs : List Pt}, allS readP ps = some xs → bodyB xs = true ∧ xs.map partL = ps := by
  induction ps with
  | nil => intro xs h; injection h with h; subst h; exact ⟨rfl, rfl⟩
  | cons l ps ih =>
    intro xs h
    unfold allS at h
    cases hp : readP l with
    | none => rw [hp] at h; cases h
    | some p =>
      rw [hp] at h
      obtain ⟨ys, hy, rfl⟩ := Option.map_eq_some_iff.1 h
      obtain ⟨h1, h2⟩ := ih hy
      obtain ⟨h3, h4⟩ := readP_sound hp
      refine ⟨?_, by rw [List.map_cons, h4, h2]⟩
      unfold bodyB at h1 ⊢
      simp [h3]
      simpa using h1

theorem allS_parts : ∀ {xs : List Pt}, bodyB xs = true → allS readP (xs.map partL) = some xs
  | [], _ => rfl
  | p :: r, h => by
    have hp : atomB p.2 = true ∧ bodyB r = true := by unfold bodyB at h ⊢; simpa using h
    rw [List.map_cons, allS, readP_part hp.1]
    show Option.map _ (allS readP (r.map partL)) = _
    rw [allS_parts hp.2]; rfl

/-- The pieces of a body's text. -/
def pieces (b : List UInt8) : List (List UInt8) := Lib.splitK andL 0 (min 5 (b.length + 1) - 1) b
/-- What the program reads as a body. -/
def readBody (b : List UInt8) : Option (List Pt) := if 4 < (pieces b).length then none else allS readP (pieces b)

theorem readBody_sound {b : List UInt8} {xs : List Pt} (h : readBody b = some xs) : bodyB xs = true ∧ bodyL xs = b ∧ xs.length ≤ 4 ∧ xs ≠ [] := by
  unfold readBody at h
  split at h
  · cases h
  · rename_i h4
    obtain ⟨h1, h2⟩ := allS_sound h
    have h3 : xs.length = (pieces b).length := by rw [← h2, List.length_map]
    refine ⟨h1, ?_, by omega, ?_⟩
    · unfold bodyL
      rw [h2]
      exact splitK_join andL _ b
    · intro e
      subst e
      have : pieces b ≠ [] := by
        unfold pieces
        cases (min 5 (b.length + 1) - 1) <;> (unfold Lib.splitK; try split) <;> simp
      exact this (by rw [← h2]; rfl)

theorem part_len {p : Pt} (h : atomB p.2 = true) : 3 ≤ (partL p).length := by
  have := text_len h
  unfold partL
  rw [List.length_append]; omega

theorem body_len : ∀ {xs : List Pt}, bodyB xs = true → xs.length ≤ (bodyL xs).length
  | [], _ => Nat.zero_le _
  | [p], h => by
    have hp : atomB p.2 = true := by unfold bodyB at h; simpa using h
    have e : bodyL [p] = partL p := by unfold bodyL; exact Lib.join_one _ _
    have := part_len hp
    rw [e, List.length_singleton]; omega
  | p :: q :: r, h => by
    have hp : atomB p.2 = true ∧ bodyB (q :: r) = true := by unfold bodyB at h ⊢; simpa using h
    have ih := body_len hp.2
    have e : bodyL (p :: q :: r) = partL p ++ (andL ++ bodyL (q :: r)) := by
      unfold bodyL andL
      rw [List.map_cons, List.map_cons, Lib.join_cons, joinTail_cons, Lib.join_cons]; simp
    have := part_len hp.1
    rw [e, List.length_append, List.length_append, List.length_cons]; omega

theorem readBody_text {xs : List Pt} (h : bodyB xs = true) (h0 : xs ≠ []) (h4 : xs.length ≤ 4) : readBody (bodyL xs) = some xs := by
  have hl := body_len h
  have hp : pieces (bodyL xs) = xs.map partL := split_body xs _ h0 h (by omega)
  unfold readBody
  rw [hp, if_neg (by rw [List.length_map]; omega), allS_parts h]

/-! Rules. -/

/-- What the program reads as a rule. -/
def readR (l : List UInt8) : Option Rl := match getB (Lib.cut l ifL).1 with
  | none => none
  | some a => if (Lib.cut l ifL).2.2 = true then (readBody (Lib.cut l ifL).2.1).map (fun xs => (a, xs)) else some (a, [])

theorem readR_sound {l : List UInt8} {r : Rl} (h : readR l = some r) : ruleB r = true ∧ ruleL r = l := by
  unfold readR at h
  obtain ⟨hd, b, f, hc⟩ : ∃ hd b f, Lib.cut l ifL = (hd, b, f) := ⟨_, _, _, rfl⟩
  have hs := cut_sound hc
  rw [hc] at h
  simp only at h
  cases hg : getB hd with
  | none => rw [hg] at h; cases h
  | some a =>
    rw [hg] at h
    simp only at h
    obtain ⟨h1, h2, _⟩ := getB_some hg
    cases f
    · simp at h
      subst h
      refine ⟨by unfold ruleB bodyB; simp [h1], ?_⟩
      unfold ruleL
      simp [h2, (hs.2 rfl).1]
    · simp only [if_true] at h
      obtain ⟨xs, hx, rfl⟩ := Option.map_eq_some_iff.1 h
      obtain ⟨h3, h4, h5, h6⟩ := readBody_sound hx
      refine ⟨by unfold ruleB; simp [h3, h1, h5], ?_⟩
      unfold ruleL
      have h7 : ¬ xs.length = 0 := fun e => h6 (List.eq_nil_of_length_eq_zero e)
      show textL a ++ (if xs.length = 0 then [] else _) = l
      rw [if_neg h7, h2, h4, hs.1 rfl, List.append_assoc]; rfl

theorem rule_parts {r : Rl} (h : ruleB r = true) : bodyB r.2 = true ∧ atomB r.1 = true ∧ r.2.length ≤ 4 := by
  unfold ruleB at h
  simpa [and_assoc] using h

theorem readR_text {r : Rl} (h : ruleB r = true) : readR (ruleL r) = some r := by
  obtain ⟨h1, h2, h3⟩ := rule_parts h
  obtain ⟨a, xs⟩ := r
  have hb := text_no_blank h2
  cases xs with
  | nil =>
    have e : ruleL (a, []) = textL a := by unfold ruleL; simp
    have hc : Lib.cut (textL a) ifL = (textL a, [], false) := by
      unfold Lib.cut
      rw [index_no_blank (x := textL a) (sep := ifL) (q := [105, 102, 32]) rfl hb, if_neg (by decide)]
    unfold readR
    rw [e, hc]
    simp only
    rw [getB_text h2]; rfl
  | cons p r =>
    have e : ruleL (a, p :: r) = textL a ++ (ifL ++ bodyL (p :: r)) := by unfold ruleL ifL; simp
    have hc := cut_at (no_occ (sep := ifL) (s := ifL ++ bodyL (p :: r)) (q := [105, 102, 32]) rfl hb)
    unfold readR
    rw [e, hc]
    simp only
    rw [getB_text h2]
    simp only [if_true]
    rw [readBody_text h1 (by simp) h3]; rfl

end Go.Proofs.YtogonjkklioaaaaGreatDoor

namespace Go.Proofs.YtogonjkklioaaaaGreatDoor
open Go.RowKit

/-- Atoms, each behind a sign and ahead of a blank. -/
def signL (c : UInt8) (xs : List At) : List UInt8 := xs.flatMap fun a => c :: (textL a ++ [32])
/-- A change's text: what goes, what comes. -/
def chL (xs ys : List At) : List UInt8 := signL 45 ys ++ signL 43 xs

theorem signL_step {c : UInt8} {xs : List At} {k : Nat} {a : At} (h : xs[k]? = some a) : signL c (xs.take (k + 1)) = signL c (xs.take k) ++ (c :: (textL a ++ [32])) := by
  unfold signL; rw [List.take_add_one, h, List.flatMap_append]; simp

theorem signL_len (c : UInt8) : ∀ (xs : List At), (∀ a ∈ xs, (textL a).length ≤ 128) → (signL c xs).length ≤ 130 * xs.length
  | [], _ => by simp [signL]
  | a :: xs, h => by
    have h1 := signL_len c xs (fun b hb => h b (List.mem_cons_of_mem _ hb))
    have h2 := h a (List.mem_cons_self ..)
    unfold signL at h1 ⊢
    rw [List.flatMap_cons, List.length_append, List.length_cons, List.length_cons, List.length_append]
    simp only [List.length_cons, List.length_nil]
    omega

theorem signL_take_len (c : UInt8) (xs : List At) (k : Nat) (h : ∀ a ∈ xs, (textL a).length ≤ 128) (hl : xs.length ≤ 300) : (signL c (xs.take k)).length ≤ 39000 := by
  have h1 := signL_len c (xs.take k) (fun a ha => h a (List.mem_of_mem_take ha))
  have h2 : (xs.take k).length ≤ xs.length := by rw [List.length_take]; exact Nat.min_le_right _ _
  omega

/-- A text, one more behind it. -/
theorem text_more {s t : ByteArray} {l : List UInt8} {p : List UInt8} {c : UInt8} (hs : s.data.toList = l) (ht : t.data.toList = p) : (s ++ ⟨#[c]⟩ ++ t ++ ⟨#[32]⟩).data.toList = l ++ (c :: (p ++ [32])) := by
  simp [ByteArray.data_append, hs, ht]

set_option maxRecDepth 100000 in
set_option maxHeartbeats 4000000 in
theorem l8Put_any (A : Option Addr) (n c : Nat) (B : Option Addr) (m d : Nat) (xs ys : List At) (w : World) (h : IsAtoms w 0 w.heap.size A n c xs) (h' : IsAtoms w 0 w.heap.size B m d ys) (hn : n ≤ 300) (hm : m ≤ 300) (hx : ∀ a ∈ xs, (textL a).length ≤ 128) (hy : ∀ a ∈ ys, (textL a).length ≤ 128) :
    Calls Tryz.prog 33 #[.agg #[.slice A n c, .slice B m d]] w (StrPost (chL xs ys) w) := by
  have LX := Lib.hid h.1; have LY := Lib.hid h'.1
  have HX := Lib.hid h; have HY := Lib.hid h'; have PX := Lib.hid hx; have PY := Lib.hid hy
  clear h h' hx hy
  have hb0 := below1 w (.cells #[.slice A n c, .slice B m d] 25)
  have c0 : (w.alloc (.cells #[.slice A n c, .slice B m d] 25)).cell? ⟨w.heap.size, 0, none⟩ = some (.slice A n c) := by simp [go_sem]
  have c1 : (w.alloc (.cells #[.slice A n c, .slice B m d] 25)).cell? ⟨w.heap.size, 1, none⟩ = some (.slice B m d) := by simp [go_sem]
  have hz0 : (w.alloc (.cells #[.slice A n c, .slice B m d] 25)).heap.size = w.heap.size + 1 := by simp
  obtain ⟨W0, hW0⟩ : ∃ W0, w.alloc (.cells #[.slice A n c, .slice B m d] 25) = W0 := ⟨_, rfl⟩
  rw [hW0] at hb0 c0 c1 hz0
  have C0 := Lib.hid c0; have C1 := Lib.hid c1; have HB0 := Lib.hid hb0
  clear c0 c1 hb0
  go_enter Tryz.func33, Tryz.ntmps33
  go_wp2
  go_loopw [3, 4] (fun x i wr => ∃ (k : Nat) (s : ByteArray), k ≤ m ∧ i = .int .i64 (k : Int) ∧ x = .string s ∧ s.data.toList = signL 45 (ys.take k) ∧ Below (w.heap.size + 1) W0 wr) (fun _ i _ => m - (intOf i).toNat)
  case atStart => exact ⟨0, _, Nat.zero_le _, rfl, rfl, by simp [signL], Below.refl _ _⟩
  case round =>
    obtain ⟨k, s, hk, rfl, rfl, hs, hb⟩ := hrel
    have hsl := signL_take_len 45 ys k PY.out (by rw [LY.out]; exact hm)
    rw [← hs] at hsl
    have hsz : s.size ≤ 39000 := hsl
    have HS := Lib.hid hs
    have c0 := (hb.cell (p := ⟨w.heap.size, 0, none⟩) (by simp)).trans C0.out
    have c1 := (hb.cell (p := ⟨w.heap.size, 1, none⟩) (by simp)).trans C1.out
    have HB := Lib.hid hb
    have hbz := hb.size
    have HBW := Lib.hid (HB0.out.trans (hb.mono (by omega)))
    clear hs hsl hb
    by_cases hlt : k < m
    · have hltI : (k : Int) < (m : Int) := by omega
      obtain ⟨p, a, hA, _, _, hg, hE⟩ := (HY.out.below AtomE.stays HBW.out (Nat.le_refl _)).at_ hlt
      obtain ⟨A', n', c', d1, d2, d3, d4⟩ := hE.out
      clear hE
      subst hA
      have hp := PY.out a (List.mem_of_getElem? hg)
      have HG := Lib.hid hg
      have HT := Lib.hid (show IsTerms wr 0 wr.heap.size A' n' c' a.2 from d4.keep (fun _ _ _ => rfl) (Nat.le_refl _) HBW.out.size)
      clear hg d2 d4
      go_wp2_with fail
      refine (l1Put_any a.1 A' n' c' a.2 _ HT.out (Nat.le_trans hp (by decide))).mono ?_; rintro e w1 ⟨rfl, hb1⟩
      obtain ⟨t, ht⟩ : ∃ t : ByteArray, (⟨(textL (a.1, a.2)).toArray⟩ : ByteArray) = t := ⟨_, rfl⟩
      have htl : t.data.toList = textL a := by rw [← ht]
      have hts : t.size ≤ 128 := by rw [← htl] at hp; exact hp
      rw [ht]
      have HTL := Lib.hid htl
      have HB1 := Lib.hid (HB.out.trans (hb1.mono (by omega)))
      have E := Lib.hid (signL_step (c := 45) HG.out)
      clear hb1 ht htl c0 c1 d1 d3
      go_wp2
      go_roundw
      case rel => exact ⟨k + 1, _, by omega, by go_num, rfl, by rw [E.out]; exact text_more HS.out HTL.out, HB1.out⟩
      case measure => simp [intOf]; omega
    · have hkm : k = m := by omega
      subst hkm
      have hkI : ¬ (k : Int) < (k : Int) := by omega
      have hys : ys.take k = ys := List.take_of_length_le (by rw [LY.out]; exact Nat.le_refl _)
      have HS2 : Hid (s.data.toList = signL 45 ys) := Lib.hid (by rw [HS.out, hys])
      clear hys
      go_wp2
      obtain ⟨W1, hW1⟩ : ∃ W1 : World, W1 = wr := ⟨_, rfl⟩
      subst hW1
      go_loopw [3, 5] (fun x i wr => ∃ (j : Nat) (s : ByteArray), j ≤ n ∧ i = .int .i64 (j : Int) ∧ x = .string s ∧ s.data.toList = signL 45 ys ++ signL 43 (xs.take j) ∧ Below (w.heap.size + 1) W0 wr) (fun _ i _ => n - (intOf i).toNat)
      case atStart => exact ⟨0, _, Nat.zero_le _, rfl, rfl, by rw [HS2.out]; simp [signL], HB.out⟩
      case round =>
        clear HS HS2 c0 c1
        obtain ⟨j, s, hj, rfl, rfl, hs, hb⟩ := hrel
        have hsl := signL_take_len 43 xs j PX.out (by rw [LX.out]; exact hn)
        have hsl2 := signL_len 45 ys PY.out
        have hlen : s.data.toList.length = (signL 45 ys).length + (signL 43 (xs.take j)).length := by rw [hs, List.length_append]
        have hly := LY.out
        have hsz2 : s.size ≤ 80000 := by show s.data.toList.length ≤ _; omega
        have HS := Lib.hid hs
        have c0 := (hb.cell (p := ⟨w.heap.size, 0, none⟩) (by simp)).trans C0.out
        have c1 := (hb.cell (p := ⟨w.heap.size, 1, none⟩) (by simp)).trans C1.out
        have HB2 := Lib.hid hb
        have hbz2 := hb.size
        have HBW2 := Lib.hid (HB0.out.trans (hb.mono (by omega)))
        clear hs hsl hsl2 hlen hly hb
        by_cases hlt2 : j < n
        · have hltI2 : (j : Int) < (n : Int) := by omega
          obtain ⟨p, a, hA, _, _, hg, hE⟩ := (HX.out.below AtomE.stays HBW2.out (Nat.le_refl _)).at_ hlt2
          obtain ⟨A', n', c', d1, d2, d3, d4⟩ := hE.out
          clear hE
          subst hA
          have hp := PX.out a (List.mem_of_getElem? hg)
          have HG := Lib.hid hg
          have HT := Lib.hid (show IsTerms wr 0 wr.heap.size A' n' c' a.2 from d4.keep (fun _ _ _ => rfl) (Nat.le_refl _) HBW2.out.size)
          clear hg d2 d4
          go_wp2_with fail
          refine (l1Put_any a.1 A' n' c' a.2 _ HT.out (Nat.le_trans hp (by decide))).mono ?_; rintro e w1 ⟨rfl, hb1⟩
          obtain ⟨t, ht⟩ : ∃ t : ByteArray, (⟨(textL (a.1, a.2)).toArray⟩ : ByteArray) = t := ⟨_, rfl⟩
          have htl : t.data.toList = textL a := by rw [← ht]
          have hts : t.size ≤ 128 := by rw [← htl] at hp; exact hp
          rw [ht]
          have HTL := Lib.hid htl
          have HB1 := Lib.hid (HB2.out.trans (hb1.mono (by omega)))
          have E := Lib.hid (signL_step (c := 43) HG.out)
          clear hb1 ht htl c0 c1 d1 d3
          go_wp2
          go_roundw
          case rel => exact ⟨j + 1, _, by omega, by go_num, rfl, by rw [E.out, ← List.append_assoc]; exact text_more HS.out HTL.out, HB1.out⟩
          case measure => simp [intOf]; omega
        · have hjn : j = n := by omega
          subst hjn
          have hjI : ¬ (j : Int) < (j : Int) := by omega
          have hxs : xs.take j = xs := List.take_of_length_le (by rw [LX.out]; exact Nat.le_refl _)
          have E : s = ⟨(chL xs ys).toArray⟩ := by
            have h1 := HS.out
            rw [hxs] at h1
            apply ByteArray.ext
            apply Array.toList_inj.1
            rw [h1]
            rfl
          have HE := Lib.hid E
          clear hxs E
          go_wp2
          go_ret
          exact ⟨congrArg (fun t => Ending.returned (.string t)) HE.out, HBW2.out⟩

end Go.Proofs.YtogonjkklioaaaaGreatDoor

namespace Go.Proofs.YtogonjkklioaaaaGreatDoor
open Go.RowKit

theorem l1Texts_same (a b : ByteArray) (w : World) : Calls Tryz.prog 128 #[.string a, .string b] w fun e w' => e = .returned (.int .i64 (textCmp a b)) ∧ w' = w :=
  (l1Texts_any a b w).mono fun _ _ ⟨he, hw⟩ => ⟨he, hw.symm⟩

/-- Where the model's loop stands: q is what it knows, k the place. -/
def Known (a b : At) (k : Nat) (q : Int) : Prop := atomCmp a b = if q = 0 then argsCmp (a.2.drop k) (b.2.drop k) else q

theorem Known.start (a b : At) : Known a b 0 (textCmp a.1 b.1) := rfl

theorem Known.step {a b : At} {k : Nat} {q : Int} {t u : Tm} (h : Known a b k q) (hq : q = 0) (ht : a.2[k]? = some t) (hu : b.2[k]? = some u) : Known a b (k + 1) (textCmp t.2 u.2) := by
  unfold Known at *
  rw [h, if_pos hq, argsCmp_step ht hu]

theorem Known.found {a b : At} {k : Nat} {q : Int} (h : Known a b k q) (hq : q ≠ 0) : q = atomCmp a b := by
  unfold Known at h
  rw [h, if_neg hq]

theorem Known.left {a b : At} {k : Nat} {q : Int} (h : Known a b k q) (hq : q = 0) (h1 : b.2.length ≤ k) (h2 : k < a.2.length) : 1 = atomCmp a b := by
  unfold Known at h
  rw [h, if_pos hq, argsCmp_left h1 h2]

theorem Known.right {a b : At} {k : Nat} {q : Int} (h : Known a b k q) (hq : q = 0) (h1 : a.2.length ≤ k) (h2 : k < b.2.length) : -1 = atomCmp a b := by
  unfold Known at h
  rw [h, if_pos hq, argsCmp_right h1 h2]

theorem Known.same {a b : At} {k : Nat} {q : Int} (h : Known a b k q) (hq : q = 0) (h1 : a.2.length ≤ k) (h2 : b.2.length ≤ k) : 0 = atomCmp a b := by
  unfold Known at h
  rw [h, if_pos hq, argsCmp_none h1 h2]

theorem belowDrewN {B : Nat} {a w : World} (h : Below B a w) (n : Nat) : Below B a (w.drewN n) := ⟨h.os, h.tape, h.output, h.size, h.block⟩

set_option maxHeartbeats 2000000 in
theorem l1Cmp_any (nm nm' : ByteArray) (A B : Option Addr) (n c n' c' : Nat) (ts us : List Tm) (w : World) (h : IsTerms w 0 w.heap.size A n c ts) (h' : IsTerms w 0 w.heap.size B n' c' us) :
    Calls Tryz.prog 100 #[.agg #[.string nm, .slice A n c], .agg #[.string nm', .slice B n' c']] w (IntPost (atomCmp (nm, ts) (nm', us)) w) := by
  have hm : n ≤ maxLen := by have := h.2.1; have := h.2.2.1; omega
  have hm' : n' ≤ maxLen := by have := h'.2.1; have := h'.2.2.1; omega
  unfold maxLen at hm hm'
  have hl1 := h.1
  have hl2 := h'.1
  have L1 := Lib.hid hl1; clear hl1
  have L2 := Lib.hid hl2; clear hl2
  have H := Lib.hid h; clear h
  have H' := Lib.hid h'; clear h'
  have K0 := Lib.hid (Known.start (nm, ts) (nm', us))
  have hw0 := below2 w (.cells #[.string nm, .slice A n c] 51) (.cells #[.string nm', .slice B n' c'] 51)
  go_enter Tryz.func100, Tryz.ntmps100
  go_wp2_with (go_at_call 128; refine (l1Texts_any _ _ _).mono ?_; rintro e w' ⟨rfl, rfl⟩)
  go_loopw [5, 6] (fun x i wr => ∃ (k : Nat) (q : Int), k ≤ n ∧ k ≤ n' ∧ i = .int .i64 k ∧ x = .int .i64 q ∧ Known (nm, ts) (nm', us) k q ∧ Below ((w.alloc (.cells #[.string nm, .slice A n c] 51)).alloc (.cells #[.string nm', .slice B n' c'] 51)).heap.size ((w.alloc (.cells #[.string nm, .slice A n c] 51)).alloc (.cells #[.string nm', .slice B n' c'] 51)) wr) (fun _ i _ => n - (intOf i).toNat)
  case atStart => exact ⟨0, _, Nat.zero_le _, Nat.zero_le _, rfl, rfl, K0.out, Below.refl _ _⟩
  case round =>
    obtain ⟨k, q, hk, hk', rfl, rfl, hd, hb⟩ := hrel
    have HD := Lib.hid hd; clear hd
    obtain ⟨hc, hf⟩ := oldCells hb
    by_cases hq : q = 0
    · have hq1 : (q == 0) = true := by rw [beq_iff_eq]; exact hq
      have hq2 : (q != 0) = false := by rw [hq]; rfl
      have HQ := Lib.hid hq; clear hq
      by_cases hlt : k < n
      · obtain ⟨p, t, hA, hlo, hhi, hg, c1, c2, c3⟩ := ((H.out.up hw0).below hb (Nat.le_refl _)).at_ hlt
        subst hA
        have HG := Lib.hid hg; clear hg
        by_cases hlt' : k < n'
        · obtain ⟨p', t', hA', hlo', hhi', hg', c1', c2', c3'⟩ := ((H'.out.up hw0).below hb (Nat.le_refl _)).at_ hlt'
          subst hA'
          have HG' := Lib.hid hg'; clear hg'
          go_wp2_with fail
          go_quiet ((go_at_call 128; exact Calls.quiet_of_same (l1Texts_same _ _ _)))
          go_wp2
          go_roundw
          case rel => exact ⟨k + 1, _, by omega, by omega, by go_num, rfl, HD.out.step HQ.out HG.out HG'.out, belowDrewN hb _⟩
          case measure => simp [intOf]; omega
        · have hl' : us.length ≤ k := by have := L2.out; omega
          have hl : k < ts.length := by have := L1.out; omega
          go_wp2
          go_ret; exact ⟨retI (HD.out.left HQ.out hl' hl), belowThen hw0 hb⟩
      · have hl : ts.length ≤ k := by have := L1.out; omega
        by_cases hnn : n < n'
        · have hl' : k < us.length := by have := L2.out; omega
          go_wp2
          go_ret; exact ⟨retI (HD.out.right HQ.out hl hl'), belowThen hw0 hb⟩
        · have hl' : us.length ≤ k := by have := L2.out; omega
          go_wp2
          go_ret; exact ⟨retI (HD.out.same HQ.out hl hl'), belowThen hw0 hb⟩
    · have hq1 : (q == 0) = false := by rw [beq_eq_false_iff_ne]; exact hq
      have hq2 : (q != 0) = true := by rw [bne_iff_ne]; exact hq
      have HQ := Lib.hid hq; clear hq
      go_wp2
      all_goals (go_ret; exact ⟨retI (HD.out.found HQ.out), belowThen hw0 hb⟩)

/-- What AtomCmp answers. -/
def cmpB (a b : At) : Int := if atomB a && atomB b then atomCmp a b else 0

theorem cmpB_no {a b : At} (h : atomB a = false ∨ atomB b = false) : cmpB a b = 0 := by
  unfold cmpB; rcases h with h | h <;> simp [h]

theorem cmpB_yes {a b : At} (h : atomB a = true) (h' : atomB b = true) : cmpB a b = atomCmp a b := by
  unfold cmpB; simp [h, h']

end Go.Proofs.YtogonjkklioaaaaGreatDoor

namespace Go.Proofs.YtogonjkklioaaaaGreatDoor
open Go.RowKit

/-- No term is a variable. -/
def wordsB (ts : List Tm) : Bool := ts.all fun t => !t.1

/-- An atom that is ok, without variables. -/
def factB (a : At) : Bool := wordsB a.2 && atomB a

theorem wordsB_snoc {ts : List Tm} {k : Nat} {t : Tm} (h : ts[k]? = some t) (hr : wordsB (ts.take k) = true) (ht : t.1 = false) : wordsB (ts.take (k + 1)) = true := by
  obtain ⟨h1, h2⟩ := List.getElem?_eq_some_iff.1 h
  unfold wordsB at *
  rw [List.take_succ_eq_append_getElem h1, List.all_append, hr, h2]; simp [ht]

theorem wordsB_no {ts : List Tm} {k : Nat} {t : Tm} (h : ts[k]? = some t) (ht : t.1 = true) : wordsB ts = false := by
  unfold wordsB
  rw [List.all_eq_false]
  exact ⟨t, List.mem_of_getElem? h, by simp [ht]⟩

theorem wordsB_all {ts : List Tm} {k n : Nat} (h : ts.length = n) (hk : ¬ k < n) (hr : wordsB (ts.take k) = true) : wordsB ts = true := by
  rwa [List.take_of_length_le (by omega)] at hr

set_option maxHeartbeats 1000000 in
theorem l3Ground_any (nm : ByteArray) (A : Option Addr) (n c : Nat) (ts : List Tm) (w : World) (hs : nm.size ≤ maxLen) (h : IsTerms w 0 w.heap.size A n c ts) :
    Calls Tryz.prog 99 #[.agg #[.string nm, .slice A n c]] w (BoolPost (factB (nm, ts)) w) := by
  have hm : n ≤ maxLen := by have := h.2.1; have := h.2.2.1; omega
  unfold maxLen at hm
  have L := Lib.hid h.1
  have H := Lib.hid h; clear h
  go_enter Tryz.func99, Tryz.ntmps99
  go_wp2
  have hw0 := below1 w (.cells #[.string nm, .slice A n c] 51)
  go_loopw [3] (fun i wr => ∃ k : Nat, k ≤ n ∧ i = .int .i64 k ∧ wordsB (ts.take k) = true ∧ Below (w.alloc (.cells #[.string nm, .slice A n c] 51)).heap.size (w.alloc (.cells #[.string nm, .slice A n c] 51)) wr) (fun i _ => n - (intOf i).toNat)
  case atStart => exact ⟨0, Nat.zero_le _, rfl, rfl, Below.refl _ _⟩
  case round =>
    obtain ⟨k, hk, rfl, hd, hb⟩ := hrel
    have HD := Lib.hid hd; clear hd
    obtain ⟨hc, hf⟩ := oldCells hb
    by_cases hlt : k < n
    · obtain ⟨p, ⟨v, s⟩, hA, hlo, hhi, hg, c1, c2, c3⟩ := ((H.out.up hw0).below hb (Nat.le_refl _)).at_ hlt
      subst hA
      have HG := Lib.hid hg; clear hg
      cases v
      · go_wp2
        go_roundw
        case rel => exact ⟨k + 1, by omega, by go_num, wordsB_snoc HG.out HD.out rfl, hb⟩
        case measure => simp [intOf]; omega
      · go_wp2
        go_ret; exact ⟨retB (by unfold factB; rw [wordsB_no HG.out rfl]; rfl), belowThen hw0 hb⟩
    · have E := Lib.hid (show factB (nm, ts) = atomB (nm, ts) by unfold factB; rw [wordsB_all L.out hlt HD.out, Bool.true_and])
      go_wp2_with fail
      refine (specAtomOk_any _ _ _ _ ts _ hs ((H.out.up hw0).up hb)).mono ?_; rintro e w1 ⟨rfl, hb1⟩
      go_wp2
      go_ret; exact ⟨retB E.out.symm, belowThen hw0 (belowThen hb hb1)⟩

/-- Each stands behind the one ahead of it. -/
def risesB : List At → Bool
  | a :: b :: l => decide (atomCmp a b < 0) && risesB (b :: l)
  | _ => true

/-- Facts that are ok, at most m. -/
def factsB (m : Nat) (xs : List At) : Bool := (xs.all factB && risesB xs) && decide (xs.length ≤ m)

theorem risesB_snoc : ∀ {xs : List At} {k : Nat} {a b : At}, xs[k]? = some a → xs[k + 1]? = some b → risesB (xs.take (k + 1)) = true → atomCmp a b < 0 → risesB (xs.take (k + 2)) = true
  | [], _, _, _, h, _, _, _ => by simp at h
  | [_], _, _, _, _, h, _, _ => by simp at h
  | x :: y :: l, 0, a, b, h, h', _, hc => by
    simp at h h'
    subst h; subst h'
    simp [risesB, hc]
  | x :: y :: l, k + 1, a, b, h, h', hr, hc => by
    have hr' : (decide (atomCmp x y < 0) && risesB ((y :: l).take (k + 1))) = true := by
      have : (x :: y :: l).take (k + 1 + 1) = x :: y :: l.take k := rfl
      rw [this] at hr
      exact hr
    rw [Bool.and_eq_true] at hr'
    have ih := risesB_snoc (xs := y :: l) (k := k) (a := a) (b := b) (by simpa using h) (by simpa using h') hr'.2 hc
    have e : (x :: y :: l).take (k + 1 + 2) = x :: y :: l.take (k + 1) := rfl
    rw [e]
    show (decide (atomCmp x y < 0) && risesB ((y :: l).take (k + 2))) = true
    rw [hr'.1, ih]; rfl

theorem risesB_no : ∀ {xs : List At} {k : Nat} {a b : At}, xs[k]? = some a → xs[k + 1]? = some b → ¬ atomCmp a b < 0 → risesB xs = false
  | [], _, _, _, h, _, _ => by simp at h
  | [_], _, _, _, _, h, _ => by simp at h
  | x :: y :: l, 0, a, b, h, h', hc => by
    simp at h h'
    subst h; subst h'
    simp [risesB, hc]
  | x :: y :: l, k + 1, a, b, h, h', hc => by
    have ih := risesB_no (xs := y :: l) (k := k) (a := a) (b := b) (by simpa using h) (by simpa using h') hc
    simp [risesB, ih]

theorem allB_snoc {α : Type} {P : α → Bool} {xs : List α} {k : Nat} {q : α} (h : xs[k]? = some q) (hr : (xs.take k).all P = true) (hq : P q = true) : (xs.take (k + 1)).all P = true := by
  obtain ⟨h1, h2⟩ := List.getElem?_eq_some_iff.1 h
  rw [List.take_succ_eq_append_getElem h1, List.all_append, hr, h2]; simp [hq]

theorem allB_no {α : Type} {P : α → Bool} {xs : List α} {k : Nat} {q : α} (h : xs[k]? = some q) (hq : P q = false) : xs.all P = false := by
  rw [List.all_eq_false]
  exact ⟨q, List.mem_of_getElem? h, by simp [hq]⟩

theorem factsB_no {m : Nat} {xs : List At} {k : Nat} {q : At} (h : xs[k]? = some q) (hq : factB q = false) : factsB m xs = false := by
  unfold factsB; rw [allB_no h hq]; rfl

theorem factsB_order {m : Nat} {xs : List At} {k : Nat} {a b : At} (h : xs[k]? = some a) (h' : xs[k + 1]? = some b) (hc : 0 ≤ atomCmp a b) : factsB m xs = false := by
  unfold factsB; rw [risesB_no h h' (by omega)]; simp

theorem factsB_long {m : Nat} {xs : List At} (h : m < xs.length) : factsB m xs = false := by
  unfold factsB; rw [decide_eq_false (by omega)]; simp

theorem factsB_end {m n k : Nat} {xs : List At} (hl : xs.length = n) (hk : ¬ k < n) (h : (xs.take k).all factB = true) (h' : risesB (xs.take k) = true) : factsB m xs = decide (n ≤ m) := by
  rw [List.take_of_length_le (by omega)] at h h'
  unfold factsB; rw [h, h', hl]; rfl

theorem rises_next {xs : List At} {k : Nat} (h : risesB (xs.take k) = true) (hk : k = 0) : risesB (xs.take (k + 1)) = true := by
  subst hk
  cases xs <;> rfl

end Go.Proofs.YtogonjkklioaaaaGreatDoor
