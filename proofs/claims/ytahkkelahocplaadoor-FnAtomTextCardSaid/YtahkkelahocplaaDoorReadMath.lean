/-
  What is read of a text as parts and as a rule: the model's way and the program's tell the same.
-/
import Derived.Test.YtahkkelahocplaaDoorGetMath
import Derived.Test.YtahkkelahocplaaDoorRule3
namespace Go.Proofs.YtahkkelahocplaaDoor

/-- What stands between parts, behind a head, ahead of what must not be. -/
def andL : List UInt8 := [32, 97, 110, 100, 32]
def ifL : List UInt8 := [32, 105, 102, 32]
def notL : List UInt8 := [110, 111, 116, 32]

/-! Texts cut at marks of several bytes. -/

theorem cut_sound {l sep h b : List UInt8} {f : Bool} (hc : Lib.cut l sep = (h, b, f)) : (f = true → l = h ++ sep ++ b) ∧ (f = false → l = h ∧ Lib.index l sep = -1) := by
  unfold Lib.cut at hc
  rcases Lib.index_spec l sep with ⟨h1, _⟩ | ⟨i, h1, h2, h3, _⟩
  · rw [h1, if_neg (by decide)] at hc
    injection hc with e1 e2
    injection e2 with e2 e3
    exact ⟨fun e => absurd (e3.trans e) (by decide), fun _ => ⟨e1, h1⟩⟩
  · rw [h1, if_pos (by omega)] at hc
    injection hc with e1 e2
    injection e2 with e2 e3
    have ei : ((i : Int)).toNat = i := by omega
    rw [ei] at e1 e2
    refine ⟨fun _ => ?_, fun e => absurd (e3.trans e) (by decide)⟩
    unfold Lib.occAt at h3
    rw [List.isPrefixOf_iff_prefix] at h3
    obtain ⟨t, ht⟩ := h3
    rw [← e1, ← e2, ← List.drop_drop, ← ht, List.drop_left, List.append_assoc, ht, List.take_append_drop]

theorem splitK_join (sep : List UInt8) : ∀ (k : Nat) (l : List UInt8), Lib.join (Lib.splitK sep 0 k l) sep = l
  | 0, l => Lib.join_one l sep
  | k + 1, l => by
    rw [Lib.splitK]
    by_cases h : Lib.index l sep = -1
    · rw [if_pos (by rw [h]; rfl)]; exact Lib.join_one l sep
    · rw [if_neg (by rw [beq_iff_eq]; exact h), Lib.join_cons, Nat.add_zero]
      have ih := splitK_join sep k (l.drop ((Lib.index l sep).toNat + sep.length))
      rcases Lib.index_spec l sep with ⟨h1, _⟩ | ⟨i, h1, h2, h3, _⟩
      · exact absurd h1 h
      · have ei : (Lib.index l sep).toNat = i := by omega
        rw [ei] at ih ⊢
        have hx : ∀ xs : List (List UInt8), xs ≠ [] → Lib.joinTail sep xs = sep ++ Lib.join xs sep := by
          intro xs hxs
          cases xs with
          | nil => exact absurd rfl hxs
          | cons x r => rw [joinTail_cons, Lib.join_cons, List.append_assoc]
        rw [hx _ (by cases k <;> (unfold Lib.splitK; try split) <;> simp), ih]
        unfold Lib.occAt at h3
        rw [List.isPrefixOf_iff_prefix] at h3
        obtain ⟨t, ht⟩ := h3
        rw [← List.drop_drop, ← ht, List.drop_left, ht, List.take_append_drop]

/-- A mark stands first behind x, if it stands nowhere ahead. -/
theorem index_at {x r sep : List UInt8} (h : ∀ j, j < x.length → Lib.occAt (x ++ (sep ++ r)) sep j = false) : Lib.index (x ++ (sep ++ r)) sep = x.length := by
  refine Lib.index_first (by simp) ?_ h
  unfold Lib.occAt
  rw [List.drop_left, List.isPrefixOf_iff_prefix]
  exact List.prefix_append sep r

theorem cut_at {x r sep : List UInt8} (h : ∀ j, j < x.length → Lib.occAt (x ++ (sep ++ r)) sep j = false) : Lib.cut (x ++ (sep ++ r)) sep = (x, r, true) := by
  unfold Lib.cut
  have ei : ((x.length : Int)).toNat = x.length := by omega
  rw [index_at h, if_pos (by omega), ei, List.take_left, ← List.drop_drop, List.drop_left, List.drop_left]

theorem splitK_at {x r sep : List UInt8} (k : Nat) (h : ∀ j, j < x.length → Lib.occAt (x ++ (sep ++ r)) sep j = false) : Lib.splitK sep 0 (k + 1) (x ++ (sep ++ r)) = x :: Lib.splitK sep 0 k r := by
  have ei : ((x.length : Int)).toNat = x.length := by omega
  rw [Lib.splitK, index_at h, if_neg (by rw [beq_iff_eq]; omega), ei, Nat.add_zero, List.take_left, ← List.drop_drop, List.drop_left, List.drop_left]

theorem splitK_none {x sep : List UInt8} (k : Nat) (h : Lib.index x sep = -1) : Lib.splitK sep 0 k x = [x] := by
  cases k with
  | zero => rfl
  | succ k => rw [Lib.splitK, if_pos (by rw [h]; rfl)]

/-- A mark that begins with a blank stands nowhere in a text with none. -/
theorem no_occ {x s sep : List UInt8} {q : List UInt8} (hs : sep = 32 :: q) (hx : (32 : UInt8) ∉ x) : ∀ j, j < x.length → Lib.occAt (x ++ s) sep j = false := by
  intro j hj
  unfold Lib.occAt
  rw [Bool.eq_false_iff]
  intro hp
  have hd : (x ++ s).drop j = x[j] :: (x.drop (j + 1) ++ s) := by
    rw [List.drop_append_of_le_length (by omega), List.drop_eq_getElem_cons hj]; rfl
  rw [hd, hs, List.isPrefixOf_iff_prefix, List.cons_prefix_cons] at hp
  exact hx (by rw [hp.1]; exact List.getElem_mem hj)

theorem index_no_blank {x sep q : List UInt8} (hs : sep = 32 :: q) (hx : (32 : UInt8) ∉ x) : Lib.index x sep = -1 := by
  refine Lib.index_none fun j hj => ?_
  by_cases h : j < x.length
  · have := no_occ (s := []) hs hx j h
    rwa [List.append_nil] at this
  · unfold Lib.occAt
    rw [List.drop_eq_nil_of_le (by omega), hs]; rfl

/-! Atoms. -/

theorem text_len {a : At} (h : atomB a = true) : 3 ≤ (textL a).length := by
  have h1 := (atom_parts h).1
  unfold nameB letters at h1
  simp only [Bool.and_eq_true, decide_eq_true_eq] at h1
  unfold textL
  simp only [List.length_append, List.length_cons, List.length_nil]
  omega

theorem text_open (a : At) : (40 : UInt8) ∈ textL a := by unfold textL; simp

theorem argOf_term {t : Tm} (h : termB t = true) : argOf t.2.data.toList = t := by
  obtain ⟨v, s⟩ := t
  unfold argOf
  have e : (⟨s.data.toList.toArray⟩ : ByteArray) = s := by cases s; rfl
  show ((match s.data.toList with | [] => false | c :: _ => capital c), (⟨s.data.toList.toArray⟩ : ByteArray)) = (v, s)
  rw [e]
  congr 1
  cases hl : s.data.toList with
  | nil =>
    unfold termB varB nameB letters at h
    cases v
    · simp [hl] at h
    · simp [hl] at h
  | cons c r =>
    unfold termB at h
    cases v
    · have h2 := name_plain (c := c) (l := s.data.toList) (by simpa using h) (by rw [hl]; simp)
      show capital c = false
      cases hc : capital c
      · rfl
      · unfold capital at hc
        unfold okByte at h2
        simp only [Bool.and_eq_true, decide_eq_true_eq] at hc
        have : ¬ (97 ≤ (c.toNat : Int)) := by omega
        have : ¬ ((c.toNat : Int) ≤ 57) := by omega
        simp only [Bool.not_eq_true', Bool.and_eq_false_iff, Bool.or_eq_false_iff, decide_eq_false_iff_not] at h2
        omega
    · have h2 : varB s.data.toList = true := by simpa using h
      rw [hl] at h2
      unfold varB at h2
      simp only [Bool.and_eq_true] at h2
      exact h2.1.1

theorem cuts_of_join {c : UInt8} : ∀ (xs : List (List UInt8)), xs ≠ [] → (∀ x ∈ xs, c ∉ x) → cuts c (Lib.join xs [c]) = xs
  | [], h, _ => absurd rfl h
  | [x], _, h => by rw [Lib.join_one, cuts_none (h x (by simp))]
  | x :: y :: r, _, h => by
    have e : Lib.join (x :: y :: r) [c] = x ++ c :: Lib.join (y :: r) [c] := by
      rw [Lib.join_cons, joinTail_cons, Lib.join_cons]; simp
    rw [e, cuts_first (h x (by simp)), cuts_of_join (y :: r) (by simp) (fun z hz => h z (by simp [hz]))]

theorem termsOf_join {ts : List Tm} (h : ∀ t ∈ ts, termB t = true) : termsOf (Lib.join (tmNames ts) [44]) = ts := by
  cases ts with
  | nil => rfl
  | cons t r =>
    have hne : ∀ u : Tm, termB u = true → u.2.data.toList ≠ [] := by
      intro u hu e
      unfold termB varB nameB letters at hu
      rw [e] at hu
      cases hv : u.1 <;> simp [hv] at hu
    have hj : Lib.join (tmNames (t :: r)) [44] ≠ [] := by
      have e : tmNames (t :: r) = t.2.data.toList :: tmNames r := rfl
      rw [e, Lib.join_cons]
      intro e2
      exact hne t (h t (by simp)) (List.append_eq_nil_iff.1 e2).1
    unfold termsOf
    rw [if_neg hj, cuts_of_join _ (by unfold tmNames; simp) ?_]
    · unfold tmNames
      rw [List.map_map]
      conv => rhs; rw [← List.map_id (t :: r)]
      exact List.map_congr_left fun u hu => argOf_term (h u hu)
    · intro x hx hm
      unfold tmNames at hx
      obtain ⟨u, hu, rfl⟩ := List.mem_map.1 hx
      exact not_plain (.inr (.inr (.inl rfl))) (term_plain (h u hu) hm)

/-- An atom that is ok is read back from its text. -/
theorem getB_text {a : At} (h : atomB a = true) : getB (textL a) = some a := by
  obtain ⟨h1, h2, h3⟩ := atom_parts h
  have hx : (40 : UInt8) ∉ a.1.data.toList := fun hm => not_plain (.inl rfl) (.inl (name_plain h1 hm))
  have hl : textL a = a.1.data.toList ++ 40 :: (Lib.join (tmNames a.2) [44] ++ [41]) := by unfold textL; simp
  have hcut : Lib.cut (textL a) [40] = (a.1.data.toList, Lib.join (tmNames a.2) [44] ++ [41], true) := by rw [hl]; exact cut_first hx
  obtain ⟨y, hy, ht⟩ := suffix_one (has_suffix_one 41 (Lib.join (tmNames a.2) [44]))
  have hyy : Lib.join (tmNames a.2) [44] = y := List.append_inj_left' hy rfl
  have hA : readA (textL a) = a := by
    unfold readA
    rw [hcut]
    show (_, termsOf (Lib.trimSuffix (Lib.join (tmNames a.2) [44] ++ [41]) [41])) = a
    rw [ht, ← hyy, termsOf_join h2]
  have hok : readOk (textL a) = true := by
    unfold readOk; rw [hA, hcut, h]
    show (true && (Lib.hasSuffix (Lib.join (tmNames a.2) [44] ++ [41]) [41] && true)) = true
    rw [has_suffix_one]; rfl
  rw [getB_yes (Nat.le_trans (textL_le h) (by decide)) hok, hA]

/-! Parts. -/

theorem occ_and {p : Pt} (h : atomB p.2 = true) (s : List UInt8) : ∀ j, j < (partL p).length → Lib.occAt (partL p ++ s) andL j = false := by
  have hb := text_no_blank h
  have ha := no_occ (sep := andL) (s := s) rfl hb
  unfold partL
  cases p.1
  · exact ha
  · intro j hj
    match j, hj with
    | 0, _ => rfl
    | 1, _ => rfl
    | 2, _ => rfl
    | 3, _ =>
      show List.isPrefixOf andL (32 :: (textL p.2 ++ s)) = false
      rw [Bool.eq_false_iff]
      intro hp
      rw [List.isPrefixOf_iff_prefix] at hp
      unfold andL at hp
      rw [List.cons_prefix_cons] at hp
      obtain ⟨t, ht⟩ := hp.2
      rcases List.append_eq_append_iff.1 ht with ⟨us, e, _⟩ | ⟨vs, e, _⟩
      · exact hb (by rw [e]; simp)
      · have := text_open p.2
        have h4 : (40 : UInt8) ∈ ([97, 110, 100, 32] : List UInt8) := by rw [e]; exact List.mem_append_left _ this
        simp at h4
    | j + 4, hj =>
      have hj' : j < (textL p.2).length := by
        simp only [if_true, List.length_append, List.length_cons, List.length_nil] at hj; omega
      exact ha j hj'

theorem index_and {p : Pt} (h : atomB p.2 = true) : Lib.index (partL p) andL = -1 := by
  refine Lib.index_none fun j hj => ?_
  by_cases hlt : j < (partL p).length
  · have := occ_and h [] j hlt
    rwa [List.append_nil] at this
  · unfold Lib.occAt
    rw [List.drop_eq_nil_of_le (by omega)]; rfl

theorem split_body : ∀ (xs : List Pt) (k : Nat), xs ≠ [] → bodyB xs = true → xs.length ≤ k + 1 → Lib.splitK andL 0 k (bodyL xs) = xs.map partL
  | [], _, h, _, _ => absurd rfl h
  | [p], k, _, h, _ => by
    have hp : atomB p.2 = true := by unfold bodyB at h; simpa using h
    have e : bodyL [p] = partL p := by unfold bodyL; exact Lib.join_one _ _
    rw [e, splitK_none k (index_and hp)]; rfl
  | p :: q :: r, k, _, h, hk => by
    have hp : atomB p.2 = true ∧ bodyB (q :: r) = true := by unfold bodyB at h ⊢; simpa using h
    have e : bodyL (p :: q :: r) = partL p ++ (andL ++ bodyL (q :: r)) := by
      unfold bodyL andL
      rw [List.map_cons, List.map_cons, Lib.join_cons, joinTail_cons, Lib.join_cons]; simp
    obtain ⟨k, rfl⟩ : ∃ m, k = m + 1 := ⟨k - 1, by simp only [List.length_cons] at hk; omega⟩
    rw [e, splitK_at k (occ_and hp.1 _), split_body (q :: r) k (by simp) hp.2 (by simp only [List.length_cons] at hk ⊢; omega)]; rfl

/-- What the program reads of a piece. -/
def readP (l : List UInt8) : Option Pt := (getB (Lib.trimPrefix l notL)).map fun a => (Lib.hasPrefix l notL, a)

theorem readP_sound {l : List UInt8} {p : Pt} (h : readP l = some p) : atomB p.2 = true ∧ partL p = l := by
  unfold readP at h
  rw [Option.map_eq_some_iff] at h
  obtain ⟨a, ha, rfl⟩ := h
  obtain ⟨h1, h2, _⟩ := getB_some ha
  refine ⟨h1, ?_⟩
  unfold partL
  show (if Lib.hasPrefix l notL = true then _ else _) ++ textL a = l
  rw [h2]
  unfold Lib.trimPrefix
  cases hp : Lib.hasPrefix l notL
  · simp
  · unfold Lib.hasPrefix at hp
    rw [List.isPrefixOf_iff_prefix] at hp
    obtain ⟨t, ht⟩ := hp
    rw [← ht]
    simp [notL]

theorem readP_part {p : Pt} (h : atomB p.2 = true) : readP (partL p) = some p := by
  obtain ⟨n, a⟩ := p
  have hb := text_no_blank h
  cases n
  · have e : partL (false, a) = textL a := by unfold partL; simp
    have hp : Lib.hasPrefix (textL a) notL = false := by
      rw [Bool.eq_false_iff]
      intro hp
      unfold Lib.hasPrefix at hp
      rw [List.isPrefixOf_iff_prefix] at hp
      obtain ⟨t, ht⟩ := hp
      exact hb (by show _ ∈ textL a; rw [← ht]; simp [notL])
    unfold readP Lib.trimPrefix
    rw [e, hp, if_neg (by decide), getB_text h]; rfl
  · have e : partL (true, a) = notL ++ textL a := by unfold partL; rfl
    have hp : Lib.hasPrefix (notL ++ textL a) notL = true := by
      unfold Lib.hasPrefix
      rw [List.isPrefixOf_iff_prefix]; exact List.prefix_append _ _
    unfold readP Lib.trimPrefix
    rw [e, hp, if_pos rfl, List.drop_left, getB_text h]; rfl

/-- All of a list that are, if all are. -/
def allS {α β : Type} (f : α → Option β) : List α → Option (List β)
  | [] => some []
  | x :: r => match f x with
    | none => none
    | some y => (allS f r).map (y :: ·)

theorem allS_sound {ps : List (List UInt8)} : ∀ {xs : List Pt}, allS readP ps = some xs → bodyB xs = true ∧ xs.map partL = ps := by
  induction ps with
  | nil => intro xs h; injection h with h; subst h; exact ⟨rfl, rfl⟩
  | cons l ps ih =>
    intro xs h
    unfold allS at h
    cases hp : readP l with
    | none => rw [hp] at h; cases h
    | some p =>
      rw [hp] at h
      obtain ⟨ys, hy, rfl⟩ := Option.map_eq_some_iff.1 h
      obtain ⟨h1, h2⟩ := ih hy
      obtain ⟨h3, h4⟩ := readP_sound hp
      refine ⟨?_, by rw [List.map_cons, h4, h2]⟩
      unfold bodyB at h1 ⊢
      simp [h3]
      simpa using h1

theorem allS_parts : ∀ {xs : List Pt}, bodyB xs = true → allS readP (xs.map partL) = some xs
  | [], _ => rfl
  | p :: r, h => by
    have hp : atomB p.2 = true ∧ bodyB r = true := by unfold bodyB at h ⊢; simpa using h
    rw [List.map_cons, allS, readP_part hp.1]
    show Option.map _ (allS readP (r.map partL)) = _
    rw [allS_parts hp.2]; rfl

/-- The pieces of a body's text. -/
def pieces (b : List UInt8) : List (List UInt8) := Lib.splitK andL 0 (min 5 (b.length + 1) - 1) b
/-- What the program reads as a body. -/
def readBody (b : List UInt8) : Option (List Pt) := if 4 < (pieces b).length then none else allS readP (pieces b)

theorem readBody_sound {b : List UInt8} {xs : List Pt} (h : readBody b = some xs) : bodyB xs = true ∧ bodyL xs = b ∧ xs.length ≤ 4 ∧ xs ≠ [] := by
  unfold readBody at h
  split at h
  · cases h
  · rename_i h4
    obtain ⟨h1, h2⟩ := allS_sound h
    have h3 : xs.length = (pieces b).length := by rw [← h2, List.length_map]
    refine ⟨h1, ?_, by omega, ?_⟩
    · unfold bodyL
      rw [h2]
      exact splitK_join andL _ b
    · intro e
      subst e
      have : pieces b ≠ [] := by
        unfold pieces
        cases (min 5 (b.length + 1) - 1) <;> (unfold Lib.splitK; try split) <;> simp
      exact this (by rw [← h2]; rfl)

theorem part_len {p : Pt} (h : atomB p.2 = true) : 3 ≤ (partL p).length := by
  have := text_len h
  unfold partL
  rw [List.length_append]; omega

theorem body_len : ∀ {xs : List Pt}, bodyB xs = true → xs.length ≤ (bodyL xs).length
  | [], _ => Nat.zero_le _
  | [p], h => by
    have hp : atomB p.2 = true := by unfold bodyB at h; simpa using h
    have e : bodyL [p] = partL p := by unfold bodyL; exact Lib.join_one _ _
    have := part_len hp
    rw [e, List.length_singleton]; omega
  | p :: q :: r, h => by
    have hp : atomB p.2 = true ∧ bodyB (q :: r) = true := by unfold bodyB at h ⊢; simpa using h
    have ih := body_len hp.2
    have e : bodyL (p :: q :: r) = partL p ++ (andL ++ bodyL (q :: r)) := by
      unfold bodyL andL
      rw [List.map_cons, List.map_cons, Lib.join_cons, joinTail_cons, Lib.join_cons]; simp
    have := part_len hp.1
    rw [e, List.length_append, List.length_append, List.length_cons]; omega

theorem readBody_text {xs : List Pt} (h : bodyB xs = true) (h0 : xs ≠ []) (h4 : xs.length ≤ 4) : readBody (bodyL xs) = some xs := by
  have hl := body_len h
  have hp : pieces (bodyL xs) = xs.map partL := split_body xs _ h0 h (by omega)
  unfold readBody
  rw [hp, if_neg (by rw [List.length_map]; omega), allS_parts h]

/-! Rules. -/

/-- What the program reads as a rule. -/
def readR (l : List UInt8) : Option Rl := match getB (Lib.cut l ifL).1 with
  | none => none
  | some a => if (Lib.cut l ifL).2.2 = true then (readBody (Lib.cut l ifL).2.1).map (fun xs => (a, xs)) else some (a, [])

theorem readR_sound {l : List UInt8} {r : Rl} (h : readR l = some r) : ruleB r = true ∧ ruleL r = l := by
  unfold readR at h
  obtain ⟨hd, b, f, hc⟩ : ∃ hd b f, Lib.cut l ifL = (hd, b, f) := ⟨_, _, _, rfl⟩
  have hs := cut_sound hc
  rw [hc] at h
  simp only at h
  cases hg : getB hd with
  | none => rw [hg] at h; cases h
  | some a =>
    rw [hg] at h
    simp only at h
    obtain ⟨h1, h2, _⟩ := getB_some hg
    cases f
    · simp at h
      subst h
      refine ⟨by unfold ruleB bodyB; simp [h1], ?_⟩
      unfold ruleL
      simp [h2, (hs.2 rfl).1]
    · simp only [if_true] at h
      obtain ⟨xs, hx, rfl⟩ := Option.map_eq_some_iff.1 h
      obtain ⟨h3, h4, h5, h6⟩ := readBody_sound hx
      refine ⟨by unfold ruleB; simp [h3, h1, h5], ?_⟩
      unfold ruleL
      have h7 : ¬ xs.length = 0 := fun e => h6 (List.eq_nil_of_length_eq_zero e)
      show textL a ++ (if xs.length = 0 then [] else _) = l
      rw [if_neg h7, h2, h4, hs.1 rfl, List.append_assoc]; rfl

theorem rule_parts {r : Rl} (h : ruleB r = true) : bodyB r.2 = true ∧ atomB r.1 = true ∧ r.2.length ≤ 4 := by
  unfold ruleB at h
  simpa [and_assoc] using h

theorem readR_text {r : Rl} (h : ruleB r = true) : readR (ruleL r) = some r := by
  obtain ⟨h1, h2, h3⟩ := rule_parts h
  obtain ⟨a, xs⟩ := r
  have hb := text_no_blank h2
  cases xs with
  | nil =>
    have e : ruleL (a, []) = textL a := by unfold ruleL; simp
    have hc : Lib.cut (textL a) ifL = (textL a, [], false) := by
      unfold Lib.cut
      rw [index_no_blank (x := textL a) (sep := ifL) (q := [105, 102, 32]) rfl hb, if_neg (by decide)]
    unfold readR
    rw [e, hc]
    simp only
    rw [getB_text h2]; rfl
  | cons p r =>
    have e : ruleL (a, p :: r) = textL a ++ (ifL ++ bodyL (p :: r)) := by unfold ruleL ifL; simp
    have hc := cut_at (no_occ (sep := ifL) (s := ifL ++ bodyL (p :: r)) (q := [105, 102, 32]) rfl hb)
    unfold readR
    rw [e, hc]
    simp only
    rw [getB_text h2]
    simp only [if_true]
    rw [readBody_text h1 (by simp) h3]; rfl

end Go.Proofs.YtahkkelahocplaaDoor
