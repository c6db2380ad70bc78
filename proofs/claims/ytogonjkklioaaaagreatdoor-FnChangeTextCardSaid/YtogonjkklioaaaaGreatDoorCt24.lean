/-
  Texts of one claim, put together.
-/
import Derived.Test.YtogonjkklioaaaaGreatDoorCt23
import Derived.Test.YtogonjkklioaaaaGreatDoorCt14
import Derived.Test.YtogonjkklioaaaaGreatDoorCt19
import Derived.Test.YtogonjkklioaaaaGreatDoorShelfG
namespace Go.Proofs.YtogonjkklioaaaaGreatDoor
open Go.RowKit

/-- A part's text. -/
def partL (q : Pt) : List UInt8 := (if q.1 then [110, 111, 116, 32] else []) ++ textL q.2

/-- A body's text. -/
def bodyL (xs : List Pt) : List UInt8 := Lib.join (xs.map partL) [32, 97, 110, 100, 32]

/-- A rule's text. -/
def ruleL (r : Rl) : List UInt8 := textL r.1 ++ (if r.2.length = 0 then [] else [32, 105, 102, 32] ++ bodyL r.2)

theorem strEq {s : ByteArray} {l : List UInt8} (h : s.data.toList = l) : Ending.returned (.string s) = .returned (.string ⟨l.toArray⟩) := by
  subst h; rfl

theorem partL_le {q : Pt} (h : atomB q.2 = true) : (partL q).length ≤ 44 := by
  have h1 := textL_le h
  unfold partL
  split <;> simp only [List.length_append, List.length_cons, List.length_nil] <;> omega


/-- What stands in the model's text behind k parts. -/
def RPart (r : Rl) (k : Nat) (s : ByteArray) : Prop := s.data.toList = textL r.1 ++ (if k = 0 then [] else [32, 105, 102, 32] ++ bodyL (r.2.take k))

theorem bodyL_first {xs : List Pt} {q : Pt} (h : xs[0]? = some q) : bodyL (xs.take 1) = partL q := by
  obtain ⟨h1, h2⟩ := List.getElem?_eq_some_iff.1 h
  rw [List.take_succ_eq_append_getElem h1, h2]
  simp [bodyL, Lib.join_one]

theorem joinTail_snoc (sep : List UInt8) (r : List (List UInt8)) (x : List UInt8) : Lib.joinTail sep (r ++ [x]) = Lib.joinTail sep r ++ (sep ++ x) := by simp [Lib.joinTail]

theorem bodyL_next {xs : List Pt} {k : Nat} {q : Pt} (h : xs[k]? = some q) (hk : 0 < k) : bodyL (xs.take (k + 1)) = bodyL (xs.take k) ++ ([32, 97, 110, 100, 32] ++ partL q) := by
  obtain ⟨h1, h2⟩ := List.getElem?_eq_some_iff.1 h
  unfold bodyL
  rw [List.take_succ_eq_append_getElem h1, h2, List.map_append]
  have hne : xs.take k ≠ [] := fun e => by
    have h3 : (xs.take k).length = k := by rw [List.length_take]; omega
    rw [e] at h3
    simp at h3
    omega
  generalize xs.take k = ys at hne
  cases ys with
  | nil => exact absurd rfl hne
  | cons y r =>
    rw [List.map_cons, List.cons_append, Lib.join_cons, Lib.join_cons]
    show partL y ++ Lib.joinTail _ (r.map partL ++ [partL q]) = _
    rw [joinTail_snoc, List.append_assoc]

theorem RPart.start (r : Rl) : RPart r 0 ⟨(textL r.1).toArray⟩ := by unfold RPart; simp

theorem RPart.one {r : Rl} {s t : ByteArray} {q : Pt} {k : Nat} (h : RPart r k s) (hk : k = 0) (hq : r.2[k]? = some q) (ht : t.data.toList = partL q) : RPart r (k + 1) (s ++ ⟨#[32, 105, 102, 32]⟩ ++ t) := by
  subst hk
  unfold RPart at *
  rw [bodyL_first hq]
  simp [h, ht]

theorem RPart.next {r : Rl} {s t : ByteArray} {q : Pt} {k : Nat} (h : RPart r k s) (hk : 0 < k) (hq : r.2[k]? = some q) (ht : t.data.toList = partL q) : RPart r (k + 1) (s ++ ⟨#[32, 97, 110, 100, 32]⟩ ++ t) := by
  unfold RPart at *
  rw [bodyL_next hq hk]
  have hk0 : ¬ k = 0 := by omega
  simp [h, ht, hk0]

theorem RPart.all {r : Rl} {s : ByteArray} {k n : Nat} (h : RPart r k s) (hn : r.2.length = n) (hk : ¬ k < n) (hkn : k ≤ n) : s.data.toList = ruleL r := by
  have hkk : k = n := by omega
  unfold RPart at h
  rw [h]
  unfold ruleL
  rw [List.take_of_length_le (by omega), hn, hkk]

/-- The texts of few short parts are short. -/
theorem bodyL_le : ∀ (xs : List Pt), (∀ q ∈ xs, atomB q.2 = true) → (Lib.joinTail [32, 97, 110, 100, 32] (xs.map partL)).length ≤ 49 * xs.length
  | [], _ => by simp [Lib.joinTail]
  | q :: r, h => by
    have h1 := partL_le (h q (by simp))
    have h2 := bodyL_le r (fun x hx => h x (by simp [hx]))
    have h3 : Lib.joinTail [32, 97, 110, 100, 32] ((q :: r).map partL) = [32, 97, 110, 100, 32] ++ partL q ++ Lib.joinTail [32, 97, 110, 100, 32] (r.map partL) := by simp [Lib.joinTail]
    rw [h3]
    simp only [List.length_append, List.length_cons, List.length_nil]
    omega

theorem bodyL_short {xs : List Pt} (h : bodyB xs = true) (hl : xs.length ≤ 4) : (bodyL xs).length ≤ 200 := by
  unfold bodyB at h
  have ha := List.all_eq_true.1 h
  cases xs with
  | nil => simp [bodyL, Lib.join_nil]
  | cons q r =>
    have h1 := partL_le (ha q (by simp))
    have h2 := bodyL_le r (fun x hx => ha x (by simp [hx]))
    unfold bodyL
    rw [List.map_cons, Lib.join_cons]
    simp only [List.length_append, List.length_cons] at *
    omega

theorem RPart.size {r : Rl} {s : ByteArray} {k : Nat} (h : RPart r k s) (hb : bodyB r.2 = true) (ha : atomB r.1 = true) (hl : r.2.length ≤ 4) : s.size ≤ 300 := by
  have h1 : s.size = s.data.toList.length := rfl
  rw [h1, h]
  have h2 := textL_le ha
  have h3 : (bodyL (r.2.take k)).length ≤ 200 := by
    refine bodyL_short ?_ (by rw [List.length_take]; omega)
    unfold bodyB at *
    rw [List.all_eq_true] at *
    exact fun x hx => hb x (List.mem_of_mem_take hx)
  split <;> simp only [List.length_append, List.length_cons, List.length_nil] <;> omega


/-- What RulePut answers. -/
def rulePutB (r : Rl) : List UInt8 := if ruleB r then ruleL r else []


end Go.Proofs.YtogonjkklioaaaaGreatDoor

namespace Go.Proofs.YtogonjkklioaaaaGreatDoor

/-- What stands between parts, behind a head, ahead of what must not be. -/
def andL : List UInt8 := [32, 97, 110, 100, 32]
def ifL : List UInt8 := [32, 105, 102, 32]
def notL : List UInt8 := [110, 111, 116, 32]

/-! Texts cut at marks of several bytes. -/

theorem cut_sound {l sep h b : List UInt8} {f : Bool} (hc : Lib.cut l sep = (h, b, f)) : (f = true → l = h ++ sep ++ b) ∧ (f = false → l = h ∧ Lib.index l sep = -1) := by
  unfold Lib.cut at hc
  rcases Lib.index_spec l sep with ⟨h1, _⟩ | ⟨i, h1, h2, h3, _⟩
  · rw [h1, if_neg (by decide)] at hc
    injection hc with e1 e2
    injection e2 with e2 e3
    exact ⟨fun e => absurd (e3.trans e) (by decide), fun _ => ⟨e1, h1⟩⟩
  · rw [h1, if_pos (by omega)] at hc
    injection hc with e1 e2
    injection e2 with e2 e3
    have ei : ((i : Int)).toNat = i := by omega
    rw [ei] at e1 e2
    refine ⟨fun _ => ?_, fun e => absurd (e3.trans e) (by decide)⟩
    unfold Lib.occAt at h3
    rw [List.isPrefixOf_iff_prefix] at h3
    obtain ⟨t, ht⟩ := h3
    rw [← e1, ← e2, ← List.drop_drop, ← ht, List.drop_left, List.append_assoc, ht, List.take_append_drop]

theorem splitK_join (sep : List UInt8) : ∀ (k : Nat) (l : List UInt8), Lib.join (Lib.splitK sep 0 k l) sep = l
  | 0, l => Lib.join_one l sep
  | k + 1, l => by
    rw [Lib.splitK]
    by_cases h : Lib.index l sep = -1
    · rw [if_pos (by rw [h]; rfl)]; exact Lib.join_one l sep
    · rw [if_neg (by rw [beq_iff_eq]; exact h), Lib.join_cons, Nat.add_zero]
      have ih := splitK_join sep k (l.drop ((Lib.index l sep).toNat + sep.length))
      rcases Lib.index_spec l sep with ⟨h1, _⟩ | ⟨i, h1, h2, h3, _⟩
      · exact absurd h1 h
      · have ei : (Lib.index l sep).toNat = i := by omega
        rw [ei] at ih ⊢
        have hx : ∀ xs : List (List UInt8), xs ≠ [] → Lib.joinTail sep xs = sep ++ Lib.join xs sep := by
          intro xs hxs
          cases xs with
          | nil => exact absurd rfl hxs
          | cons x r => rw [joinTail_cons, Lib.join_cons, List.append_assoc]
        rw [hx _ (by cases k <;> (unfold Lib.splitK; try split) <;> simp), ih]
        unfold Lib.occAt at h3
        rw [List.isPrefixOf_iff_prefix] at h3
        obtain ⟨t, ht⟩ := h3
        rw [← List.drop_drop, ← ht, List.drop_left, ht, List.take_append_drop]

/-- A mark stands first behind x, if it stands nowhere ahead. -/
theorem index_at {x r sep : List UInt8} (h : ∀ j, j < x.length → Lib.occAt (x ++ (sep ++ r)) sep j = false) : Lib.index (x ++ (sep ++ r)) sep = x.length := by
  refine Lib.index_first (by simp) ?_ h
  unfold Lib.occAt
  rw [List.drop_left, List.isPrefixOf_iff_prefix]
  exact List.prefix_append sep r

theorem cut_at {x r sep : List UInt8} (h : ∀ j, j < x.length → Lib.occAt (x ++ (sep ++ r)) sep j = false) : Lib.cut (x ++ (sep ++ r)) sep = (x, r, true) := by
  unfold Lib.cut
  have ei : ((x.length : Int)).toNat = x.length := by omega
  rw [index_at h, if_pos (by omega), ei, List.take_left, ← List.drop_drop, List.drop_left, List.drop_left]

theorem splitK_at {x r sep : List UInt8} (k : Nat) (h : ∀ j, j < x.length → Lib.occAt (x ++ (sep ++ r)) sep j = false) : Lib.splitK sep 0 (k + 1) (x ++ (sep ++ r)) = x :: Lib.splitK sep 0 k r := by
  have ei : ((x.length : Int)).toNat = x.length := by omega
  rw [Lib.splitK, index_at h, if_neg (by rw [beq_iff_eq]; omega), ei, Nat.add_zero, List.take_left, ← List.drop_drop, List.drop_left, List.drop_left]

theorem splitK_none {x sep : List UInt8} (k : Nat) (h : Lib.index x sep = -1) : Lib.splitK sep 0 k x = [x] := by
  cases k with
  | zero => rfl
  | succ k => rw [Lib.splitK, if_pos (by rw [h]; rfl)]

/-- A mark that begins with a blank stands nowhere in a text with none. -/
theorem no_occ {x s sep : List UInt8} {q : List UInt8} (hs : sep = 32 :: q) (hx : (32 : UInt8) ∉ x) : ∀ j, j < x.length → Lib.occAt (x ++ s) sep j = false := by
  intro j hj
  unfold Lib.occAt
  rw [Bool.eq_false_iff]
  intro hp
  have hd : (x ++ s).drop j = x[j] :: (x.drop (j + 1) ++ s) := by
    rw [List.drop_append_of_le_length (by omega), List.drop_eq_getElem_cons hj]; rfl
  rw [hd, hs, List.isPrefixOf_iff_prefix, List.cons_prefix_cons] at hp
  exact hx (by rw [hp.1]; exact List.getElem_mem hj)

theorem index_no_blank {x sep q : List UInt8} (hs : sep = 32 :: q) (hx : (32 : UInt8) ∉ x) : Lib.index x sep = -1 := by
  refine Lib.index_none fun j hj => ?_
  by_cases h : j < x.length
  · have := no_occ (s := []) hs hx j h
    rwa [List.append_nil] at this
  · unfold Lib.occAt
    rw [List.drop_eq_nil_of_le (by omega), hs]; rfl

/-! Atoms. -/

theorem text_len {a : At} (h : atomB a = true) : 3 ≤ (textL a).length := by
  have h1 := (atom_parts h).1
  unfold nameB letters at h1
  simp only [Bool.and_eq_true, decide_eq_true_eq] at h1
  unfold textL
  simp only [List.length_append, List.length_cons, List.length_nil]
  omega

theorem text_open (a : At) : (40 : UInt8) ∈ textL a := by unfold textL; simp

theorem argOf_term {t : Tm} (h : termB t = true) : argOf t.2.data.toList = t := by
  obtain ⟨v, s⟩ := t
  unfold argOf
  have e : (⟨s.data.toList.toArray⟩ : ByteArray) = s := by cases s; rfl
  show ((match s.data.toList with | [] => false | c :: _ => capital c), (⟨s.data.toList.toArray⟩ : ByteArray)) = (v, s)
  rw [e]
  congr 1
  cases hl : s.data.toList with
  | nil =>
    unfold termB varB nameB letters at h
    cases v
    · simp [hl] at h
    · simp [hl] at h
  | cons c r =>
    unfold termB at h
    cases v
    · have h2 := name_plain (c := c) (l := s.data.toList) (by simpa using h) (by rw [hl]; simp)
      show capital c = false
      cases hc : capital c
      · rfl
      · unfold capital at hc
        unfold okByte at h2
        simp only [Bool.and_eq_true, decide_eq_true_eq] at hc
        have : ¬ (97 ≤ (c.toNat : Int)) := by omega
        have : ¬ ((c.toNat : Int) ≤ 57) := by omega
        simp only [Bool.not_eq_true', Bool.and_eq_false_iff, Bool.or_eq_false_iff, decide_eq_false_iff_not] at h2
        omega
    · have h2 : varB s.data.toList = true := by simpa using h
      rw [hl] at h2
      unfold varB at h2
      simp only [Bool.and_eq_true] at h2
      exact h2.1.1

theorem cuts_of_join {c : UInt8} : ∀ (xs : List (List UInt8)), xs ≠ [] → (∀ x ∈ xs, c ∉ x) → cuts c (Lib.join xs [c]) = xs
  | [], h, _ => absurd rfl h
  | [x], _, h => by rw [Lib.join_one, cuts_none (h x (by simp))]
  | x :: y :: r, _, h => by
    have e : Lib.join (x :: y :: r) [c] = x ++ c :: Lib.join (y :: r) [c] := by
      rw [Lib.join_cons, joinTail_cons, Lib.join_cons]; simp
    rw [e, cuts_first (h x (by simp)), cuts_of_join (y :: r) (by simp) (fun z hz => h z (by simp [hz]))]

theorem termsOf_join {ts : List Tm} (h : ∀ t ∈ ts, termB t = true) : termsOf (Lib.join (tmNames ts) [44]) = ts := by
  cases ts with
  | nil => rfl
  | cons t r =>
    have hne : ∀ u : Tm, termB u = true → u.2.data.toList ≠ [] := by
      intro u hu e
      unfold termB varB nameB letters at hu
      rw [e] at hu
      cases hv : u.1 <;> simp [hv] at hu
    have hj : Lib.join (tmNames (t :: r)) [44] ≠ [] := by
      have e : tmNames (t :: r) = t.2.data.toList :: tmNames r := rfl
      rw [e, Lib.join_cons]
      intro e2
      exact hne t (h t (by simp)) (List.append_eq_nil_iff.1 e2).1
    unfold termsOf
    rw [if_neg hj, cuts_of_join _ (by unfold tmNames; simp) ?_]
    · unfold tmNames
      rw [List.map_map]
      conv => rhs; rw [← List.map_id (t :: r)]
      exact List.map_congr_left fun u hu => argOf_term (h u hu)
    · intro x hx hm
      unfold tmNames at hx
      obtain ⟨u, hu, rfl⟩ := List.mem_map.1 hx
      exact not_plain (.inr (.inr (.inl rfl))) (term_plain (h u hu) hm)

/-- An atom that is ok is read back from its text. -/
theorem getB_text {a : At} (h : atomB a = true) : getB (textL a) = some a := by
  obtain ⟨h1, h2, h3⟩ := atom_parts h
  have hx : (40 : UInt8) ∉ a.1.data.toList := fun hm => not_plain (.inl rfl) (.inl (name_plain h1 hm))
  have hl : textL a = a.1.data.toList ++ 40 :: (Lib.join (tmNames a.2) [44] ++ [41]) := by unfold textL; simp
  have hcut : Lib.cut (textL a) [40] = (a.1.data.toList, Lib.join (tmNames a.2) [44] ++ [41], true) := by rw [hl]; exact cut_first hx
  obtain ⟨y, hy, ht⟩ := suffix_one (has_suffix_one 41 (Lib.join (tmNames a.2) [44]))
  have hyy : Lib.join (tmNames a.2) [44] = y := List.append_inj_left' hy rfl
  have hA : readA (textL a) = a := by
    unfold readA
    rw [hcut]
    show (_, termsOf (Lib.trimSuffix (Lib.join (tmNames a.2) [44] ++ [41]) [41])) = a
    rw [ht, ← hyy, termsOf_join h2]
  have hok : readOk (textL a) = true := by
    unfold readOk; rw [hA, hcut, h]
    show (true && (Lib.hasSuffix (Lib.join (tmNames a.2) [44] ++ [41]) [41] && true)) = true
    rw [has_suffix_one]; rfl
  rw [getB_yes (Nat.le_trans (textL_le h) (by decide)) hok, hA]

/-! Parts. -/

theorem occ_and {p : Pt} (h : atomB p.2 = true) (s : List UInt8) : ∀ j, j < (partL p).length → Lib.occAt (partL p ++ s) andL j = false := by
  have hb := text_no_blank h
  have ha := no_occ (sep := andL) (s := s) rfl hb
  unfold partL
  cases p.1
  · exact ha
  · intro j hj
    match j, hj with
    | 0, _ => rfl
    | 1, _ => rfl
    | 2, _ => rfl
    | 3, _ =>
      show List.isPrefixOf andL (32 :: (textL p.2 ++ s)) = false
      rw [Bool.eq_false_iff]
      intro hp
      rw [List.isPrefixOf_iff_prefix] at hp
      unfold andL at hp
      rw [List.cons_prefix_cons] at hp
      obtain ⟨t, ht⟩ := hp.2
      rcases List.append_eq_append_iff.1 ht with ⟨us, e, _⟩ | ⟨vs, e, _⟩
      · exact hb (by rw [e]; simp)
      · have := text_open p.2
        have h4 : (40 : UInt8) ∈ ([97, 110, 100, 32] : List UInt8) := by rw [e]; exact List.mem_append_left _ this
        simp at h4
    | j + 4, hj =>
      have hj' : j < (textL p.2).length := by
        simp only [if_true, List.length_append, List.length_cons, List.length_nil] at hj; omega
      exact ha j hj'

theorem index_and {p : Pt} (h : atomB p.2 = true) : Lib.index (partL p) andL = -1 := by
  refine Lib.index_none fun j hj => ?_
  by_cases hlt : j < (partL p).length
  · have := occ_and h [] j hlt
    rwa [List.append_nil] at this
  · unfold Lib.occAt
    rw [List.drop_eq_nil_of_le (by omega)]; rfl

theorem split_body : ∀ (xs : List Pt) (k : Nat), xs ≠ [] → bodyB xs = true → xs.length ≤ k + 1 → Lib.splitK andL 0 k (bodyL xs) = xs.map partL
  | [], _, h, _, _ => absurd rfl h
  | [p], k, _, h, _ => by
    have hp : atomB p.2 = true := by unfold bodyB at h; simpa using h
    have e : bodyL [p] = partL p := by unfold bodyL; exact Lib.join_one _ _
    rw [e, splitK_none k (index_and hp)]; rfl
  | p :: q :: r, k, _, h, hk => by
    have hp : atomB p.2 = true ∧ bodyB (q :: r) = true := by unfold bodyB at h ⊢; simpa using h
    have e : bodyL (p :: q :: r) = partL p ++ (andL ++ bodyL (q :: r)) := by
      unfold bodyL andL
      rw [List.map_cons, List.map_cons, Lib.join_cons, joinTail_cons, Lib.join_cons]; simp
    obtain ⟨k, rfl⟩ : ∃ m, k = m + 1 := ⟨k - 1, by simp only [List.length_cons] at hk; omega⟩
    rw [e, splitK_at k (occ_and hp.1 _), split_body (q :: r) k (by simp) hp.2 (by simp only [List.length_cons] at hk ⊢; omega)]; rfl

/-- What the program reads of a piece. -/
def readP (l : List UInt8) : Option Pt := (getB (Lib.trimPrefix l notL)).map fun a => (Lib.hasPrefix l notL, a)

theorem readP_sound {l : List UInt8} {p : Pt} (h : readP l = some p) : atomB p.2 = true ∧ partL p = l := by
  unfold readP at h
  rw [Option.map_eq_some_iff] at h
  obtain ⟨a, ha, rfl⟩ := h
  obtain ⟨h1, h2, _⟩ := getB_some ha
  refine ⟨h1, ?_⟩
  unfold partL
  show (if Lib.hasPrefix l notL = true then _ else _) ++ textL a = l
  rw [h2]
  unfold Lib.trimPrefix
  cases hp : Lib.hasPrefix l notL
  · simp
  · unfold Lib.hasPrefix at hp
    rw [List.isPrefixOf_iff_prefix] at hp
    obtain ⟨t, ht⟩ := hp
    rw [← ht]
    simp [notL]

theorem readP_part {p : Pt} (h : atomB p.2 = true) : readP (partL p) = some p := by
  obtain ⟨n, a⟩ := p
  have hb := text_no_blank h
  cases n
  · have e : partL (false, a) = textL a := by unfold partL; simp
    have hp : Lib.hasPrefix (textL a) notL = false := by
      rw [Bool.eq_false_iff]
      intro hp
      unfold Lib.hasPrefix at hp
      rw [List.isPrefixOf_iff_prefix] at hp
      obtain ⟨t, ht⟩ := hp
      exact hb (by show _ ∈ textL a; rw [← ht]; simp [notL])
    unfold readP Lib.trimPrefix
    rw [e, hp, if_neg (by decide), getB_text h]; rfl
  · have e : partL (true, a) = notL ++ textL a := by unfold partL; rfl
    have hp : Lib.hasPrefix (notL ++ textL a) notL = true := by
      unfold Lib.hasPrefix
      rw [List.isPrefixOf_iff_prefix]; exact List.prefix_append _ _
    unfold readP Lib.trimPrefix
    rw [e, hp, if_pos rfl, List.drop_left, getB_text h]; rfl

/-- All of a list that are, if all are. -/
def allS {α β : Type} (f : α → Option β) : List α → Option (List β)
  | [] => some []
  | x :: r => match f x with
    | none => none
    | some y => (allS f r).map (y :: ·)

theorem allS_sound {ps : List (List UInt8)} : ∀ {xs : List Pt}, allS readP ps = some xs → bodyB xs = true ∧ xs.map partL = ps := by
  induction ps with
  | nil => intro xs h; injection h with h; subst h; exact ⟨rfl, rfl⟩
  | cons l ps ih =>
    intro xs h
    unfold allS at h
    cases hp : readP l with
    | none => rw [hp] at h; cases h
    | some p =>
      rw [hp] at h
      obtain ⟨ys, hy, rfl⟩ := Option.map_eq_some_iff.1 h
      obtain ⟨h1, h2⟩ := ih hy
      obtain ⟨h3, h4⟩ := readP_sound hp
      refine ⟨?_, by rw [List.map_cons, h4, h2]⟩
      unfold bodyB at h1 ⊢
      simp [h3]
      simpa using h1

theorem allS_parts : ∀ {xs : List Pt}, bodyB xs = true → allS readP (xs.map partL) = some xs
  | [], _ => rfl
  | p :: r, h => by
    have hp : atomB p.2 = true ∧ bodyB r = true := by unfold bodyB at h ⊢; simpa using h
    rw [List.map_cons, allS, readP_part hp.1]
    show Option.map _ (allS readP (r.map partL)) = _
    rw [allS_parts hp.2]; rfl

/-- The pieces of a body's text. -/
def pieces (b : List UInt8) : List (List UInt8) := Lib.splitK andL 0 (min 5 (b.length + 1) - 1) b
/-- What the program reads as a body. -/
def readBody (b : List UInt8) : Option (List Pt) := if 4 < (pieces b).length then none else allS readP (pieces b)

theorem readBody_sound {b : List UInt8} {xs : List Pt} (h : readBody b = some xs) : bodyB xs = true ∧ bodyL xs = b ∧ xs.length ≤ 4 ∧ xs ≠ [] := by
  unfold readBody at h
  split at h
  · cases h
  · rename_i h4
    obtain ⟨h1, h2⟩ := allS_sound h
    have h3 : xs.length = (pieces b).length := by rw [← h2, List.length_map]
    refine ⟨h1, ?_, by omega, ?_⟩
    · unfold bodyL
      rw [h2]
      exact splitK_join andL _ b
    · intro e
      subst e
      have : pieces b ≠ [] := by
        unfold pieces
        cases (min 5 (b.length + 1) - 1) <;> (unfold Lib.splitK; try split) <;> simp
      exact this (by rw [← h2]; rfl)

theorem part_len {p : Pt} (h : atomB p.2 = true) : 3 ≤ (partL p).length := by
  have := text_len h
  unfold partL
  rw [List.length_append]; omega

theorem body_len : ∀ {xs : List Pt}, bodyB xs = true → xs.length ≤ (bodyL xs).length
  | [], _ => Nat.zero_le _
  | [p], h => by
    have hp : atomB p.2 = true := by unfold bodyB at h; simpa using h
    have e : bodyL [p] = partL p := by unfold bodyL; exact Lib.join_one _ _
    have := part_len hp
    rw [e, List.length_singleton]; omega
  | p :: q :: r, h => by
    have hp : atomB p.2 = true ∧ bodyB (q :: r) = true := by unfold bodyB at h ⊢; simpa using h
    have ih := body_len hp.2
    have e : bodyL (p :: q :: r) = partL p ++ (andL ++ bodyL (q :: r)) := by
      unfold bodyL andL
      rw [List.map_cons, List.map_cons, Lib.join_cons, joinTail_cons, Lib.join_cons]; simp
    have := part_len hp.1
    rw [e, List.length_append, List.length_append, List.length_cons]; omega

theorem readBody_text {xs : List Pt} (h : bodyB xs = true) (h0 : xs ≠ []) (h4 : xs.length ≤ 4) : readBody (bodyL xs) = some xs := by
  have hl := body_len h
  have hp : pieces (bodyL xs) = xs.map partL := split_body xs _ h0 h (by omega)
  unfold readBody
  rw [hp, if_neg (by rw [List.length_map]; omega), allS_parts h]

/-! Rules. -/

/-- What the program reads as a rule. -/
def readR (l : List UInt8) : Option Rl := match getB (Lib.cut l ifL).1 with
  | none => none
  | some a => if (Lib.cut l ifL).2.2 = true then (readBody (Lib.cut l ifL).2.1).map (fun xs => (a, xs)) else some (a, [])

theorem readR_sound {l : List UInt8} {r : Rl} (h : readR l = some r) : ruleB r = true ∧ ruleL r = l := by
  unfold readR at h
  obtain ⟨hd, b, f, hc⟩ : ∃ hd b f, Lib.cut l ifL = (hd, b, f) := ⟨_, _, _, rfl⟩
  have hs := cut_sound hc
  rw [hc] at h
  simp only at h
  cases hg : getB hd with
  | none => rw [hg] at h; cases h
  | some a =>
    rw [hg] at h
    simp only at h
    obtain ⟨h1, h2, _⟩ := getB_some hg
    cases f
    · simp at h
      subst h
      refine ⟨by unfold ruleB bodyB; simp [h1], ?_⟩
      unfold ruleL
      simp [h2, (hs.2 rfl).1]
    · simp only [if_true] at h
      obtain ⟨xs, hx, rfl⟩ := Option.map_eq_some_iff.1 h
      obtain ⟨h3, h4, h5, h6⟩ := readBody_sound hx
      refine ⟨by unfold ruleB; simp [h3, h1, h5], ?_⟩
      unfold ruleL
      have h7 : ¬ xs.length = 0 := fun e => h6 (List.eq_nil_of_length_eq_zero e)
      show textL a ++ (if xs.length = 0 then [] else _) = l
      rw [if_neg h7, h2, h4, hs.1 rfl, List.append_assoc]; rfl

theorem rule_parts {r : Rl} (h : ruleB r = true) : bodyB r.2 = true ∧ atomB r.1 = true ∧ r.2.length ≤ 4 := by
  unfold ruleB at h
  simpa [and_assoc] using h

theorem readR_text {r : Rl} (h : ruleB r = true) : readR (ruleL r) = some r := by
  obtain ⟨h1, h2, h3⟩ := rule_parts h
  obtain ⟨a, xs⟩ := r
  have hb := text_no_blank h2
  cases xs with
  | nil =>
    have e : ruleL (a, []) = textL a := by unfold ruleL; simp
    have hc : Lib.cut (textL a) ifL = (textL a, [], false) := by
      unfold Lib.cut
      rw [index_no_blank (x := textL a) (sep := ifL) (q := [105, 102, 32]) rfl hb, if_neg (by decide)]
    unfold readR
    rw [e, hc]
    simp only
    rw [getB_text h2]; rfl
  | cons p r =>
    have e : ruleL (a, p :: r) = textL a ++ (ifL ++ bodyL (p :: r)) := by unfold ruleL ifL; simp
    have hc := cut_at (no_occ (sep := ifL) (s := ifL ++ bodyL (p :: r)) (q := [105, 102, 32]) rfl hb)
    unfold readR
    rw [e, hc]
    simp only
    rw [getB_text h2]
    simp only [if_true]
    rw [readBody_text h1 (by simp) h3]; rfl

end Go.Proofs.YtogonjkklioaaaaGreatDoor

namespace Go.Proofs.YtogonjkklioaaaaGreatDoor
open Go.RowKit

/-- The library's bound on what it looks for is laid. -/
def MaxIn (w : World) : Prop := ∃ m : Int, w.cell? ⟨1, 0, none⟩ = some (.int .i64 m)

theorem MaxIn.below {w w' : World} (h : MaxIn w) (hb : Below w.heap.size w w') : MaxIn w' := by
  obtain ⟨m, hm⟩ := h
  exact ⟨m, (hb.cell (World.block_lt_of_cell? _ _ hm)).trans hm⟩

theorem byteOne (c : UInt8) : (⟨#[c]⟩ : ByteArray).data.toList = [c] := rfl

/-- strings.Split at a byte. -/
theorem split_any (s : ByteArray) (c : UInt8) (w : World) (hs : s.size ≤ 1048576) (hm : MaxIn w) :
    Calls Tryz.prog 126 #[.string s, .string ⟨#[c]⟩] w fun e w' => e = .returned (.slice (some ⟨w.heap.size, 0, none⟩) (cutsB c s).length (cutsB c s).length) ∧ w' = w.alloc (.cells ((cutsB c s).map Value.string).toArray 9) := by
  obtain ⟨m, hm⟩ := hm
  have h := Tryz.strings_Split s ⟨#[c]⟩ m w (by omega) hm (Nat.le_refl 1)
  have e : Lib.splitB ⟨#[c]⟩ 0 (Lib.countB s ⟨#[c]⟩) s = cutsB c s := by
    have h1 := Lib.splitB_data ⟨#[c]⟩ 0 (Lib.countB s ⟨#[c]⟩) s
    have h2 : Lib.splitK [c] 0 (Lib.countB s ⟨#[c]⟩) s.data.toList = cuts c s.data.toList := split_cuts c s.data.toList
    rw [byteOne, h2, ← cutsB_data] at h1
    have inj : ∀ xs ys : List ByteArray, xs.map (fun x => x.data.toList) = ys.map (fun x => x.data.toList) → xs = ys := by
      intro xs
      induction xs with
      | nil => intro ys h; cases ys with
        | nil => rfl
        | cons y r => cases h
      | cons x xs ih => intro ys h; cases ys with
        | nil => cases h
        | cons y r =>
          simp only [List.map_cons, List.cons.injEq] at h
          have e1 : x = y := by
            obtain ⟨⟨x⟩⟩ := x; obtain ⟨⟨y⟩⟩ := y
            have := h.1
            simp at this
            subst this; rfl
          rw [e1, ih r h.2]
    exact inj _ _ h1
  have e2 : (cutsB c s).length = Lib.countB s ⟨#[c]⟩ + 1 := by rw [← e]; exact Lib.splitB_all ⟨#[c]⟩ (Nat.le_refl 1) 0 _ s rfl
  rw [e] at h
  rw [e2]
  exact h

/-- The cells of the pieces. -/
theorem pieces_at (w : World) (ls : List ByteArray) (t : TypeId) (k : Nat) (s : ByteArray) (h : ls[k]? = some s) : (w.alloc (.cells (ls.map Value.string).toArray t)).cell? ⟨w.heap.size, k, none⟩ = some (.string s) := by
  have X := Blk.new w t (ls.map Value.string).toArray
  rw [X.cell k]
  simp [h]

theorem rowLow {w : World} {b b' sz n : Nat} {e : TypeId} {v : Value} {xs : List Value} (h : w.ownsRow b e sz v n xs) (hb : b' ≤ b) : w.ownsRow b' e sz v n xs := by
  refine ⟨h.1, ?_⟩
  rcases h.2 with h0 | ⟨g, cap, cur, h1, h2, h3⟩
  · exact .inl h0
  · exact .inr ⟨g, cap, cur, h1, Nat.le_trans hb h2, h3⟩

/-- Terms were told, in a row of the call's own. -/
def TermsGetPost (l : List UInt8) (w : World) (e : Ending) (w' : World) : Prop :=
  ∃ A n c, e = .returned (.slice A n c) ∧ w'.ownsRow w.heap.size 110 2 (.slice A n c) n (tcs (termsOf l)) ∧ (termsOf l).length = n ∧ Below w.heap.size w w'

set_option maxRecDepth 100000 in
set_option maxHeartbeats 4000000 in
theorem termsGet_any (s : ByteArray) (w : World) (hs : s.size ≤ 1048576) (hm : MaxIn w) :
    Calls Tryz.prog 98 #[.string s] w (TermsGetPost s.data.toList w) := by
  obtain ⟨i0, hi, hz, hsz, hby⟩ := info_parts Tryz.infoTerm
  by_cases h0 : s.size = 0
  · have hie : s.toList.isEmpty = true := empty_of h0
    have e0 : termsOf s.data.toList = [] := by unfold termsOf; rw [if_pos (nil_of h0)]
    have E := Lib.hid e0; clear e0
    go_enter Tryz.func98, Tryz.ntmps98
    go_wp2_with fail
    go_ret
    exact ⟨none, 0, 0, rfl, ⟨by rw [E.out]; rfl, .inl ⟨rfl, rfl⟩⟩, by rw [E.out]; rfl, Below.refl _ _⟩
  · have hie : s.toList.isEmpty = false := nonempty_of h0
    obtain ⟨ws, hws⟩ : ∃ x, cutsB 44 s = x := ⟨_, rfl⟩
    have hwl : ws.length ≤ s.size + 1 := by rw [← hws]; exact cutsB_len 44 s
    have hwz : ∀ x ∈ ws, x.size ≤ 1048576 := fun x hx => Nat.le_trans (cutsB_size (c := 44) (s := s) (by rw [hws]; exact hx)) hs
    have E := Lib.hid (show termsOf s.data.toList = wordTs ws by unfold termsOf; rw [if_neg (fun e => h0 (size_nil e)), ← hws, wordTs_cuts])
    have HWS := Lib.hid hws; have HWZ := Lib.hid hwz
    clear hws hwz
    go_enter Tryz.func98, Tryz.ntmps98
    go_wp2_with fail
    refine (split_any s 44 w hs hm).mono ?_; rintro e w1 ⟨rfl, hw1⟩
    rw [HWS.out] at hw1 ⊢
    have hb1 : Below w.heap.size w w1 := by rw [hw1]; exact below1 _ _
    have HP := Lib.hid (fun (k : Nat) (x : ByteArray) (h : ws[k]? = some x) => (show w1.cell? ⟨w.heap.size, k, none⟩ = some (.string x) by rw [hw1]; exact pieces_at w ws _ k x h))
    have hz1 : w1.heap.size = w.heap.size + 1 := by rw [hw1]; simp
    clear hw1
    go_wp2_with fail
    go_loopw [3, 5, 11] (fun o _ i wr => ∃ (k : Nat) (Av : Option Addr) (cv : Nat), k ≤ ws.length ∧ i = .int .i64 (k : Int) ∧ o = .slice Av k cv ∧ wr.ownsRow w1.heap.size 110 2 (.slice Av k cv) k (tcs (wordTs (ws.take k))) ∧ Below w1.heap.size w1 wr) (fun _ _ i _ => ws.length - (intOf i).toNat)
    case atStart => exact ⟨0, none, 0, Nat.zero_le _, rfl, rfl, ⟨rfl, .inl ⟨rfl, rfl⟩⟩, Below.refl _ _⟩
    case round =>
      obtain ⟨k, Av, cv, hk, rfl, rfl, hrow, hb⟩ := hrel
      have HR := Lib.hid hrow; clear hrow
      have hzr := hb.size
      by_cases hlt : k < ws.length
      · have hltI : (k : Int) < (ws.length : Int) := by omega
        obtain ⟨s5, hg⟩ : ∃ x, ws[k]? = some x := ⟨ws[k], List.getElem?_eq_getElem hlt⟩
        have c5 : wr.cell? ⟨w.heap.size, k, none⟩ = some (.string s5) := (hb.cell (p := ⟨w.heap.size, k, none⟩) (by show w.heap.size < w1.heap.size; omega)).trans (HP.out k s5 hg)
        have hs5 : s5.size ≤ 1048576 := HWZ.out s5 (List.mem_of_getElem? hg)
        have HG := Lib.hid hg; clear hg
        by_cases h5 : s5.size = 0
        · have hi5 : s5.toList.isEmpty = true := empty_of h5
          have E5 := Lib.hid (arg_none h5)
          go_wp2_with (first
              | (go_at_call 127; refine (capital_any _ _).mono ?_; rintro e w' ⟨rfl, rfl⟩)
              | (at_builtin; refine wpList_append_own _ rfl _ _ 49 rfl w1.heap.size 110 i0 _ 2 24 Tryz.underlying49 hi hz hsz hby rfl (by decide) _ _ _ rfl (HR.out.alloc _) ⟨wr.heap.size, 0, none⟩ 1 1 [.bool false, .string s5] rfl rfl (two_new _ _ _ _) (by simp [Value.oneCell']) (by unfold maxLen; omega) (by omega) (by simp; omega) ?_; intro v' w5 hown' hgrow' _; obtain ⟨g', cap', rfl⟩ := ownsRow_succ hown'; have hown := Lib.hid hown'; have hgrow := Lib.hid hgrow'; clear hown' hgrow'))
          have HR5 : Hid (w5.ownsRow w1.heap.size 110 2 (.slice (some ⟨g', 0, none⟩) (k + 1) cap') (k + 1) (tcs (wordTs (ws.take (k + 1))))) := Lib.hid (by rw [wordTs_step HG.out, E5.out]; exact hown.out)
          have hb5 := Lib.hid (cutRow hb HR.out hgrow.out)
          clear hown hgrow HR hb
          go_roundw
          case rel => exact ⟨k + 1, _, _, by omega, by go_num, rfl, HR5.out, hb5.out⟩
          case measure => simp [intOf]; omega
        · have hi5 : s5.toList.isEmpty = false := nonempty_of h5
          have h5p : 0 < s5.size := by omega
          have h5i : (0 : Int) < (s5.size : Int) := by omega
          have E5 := Lib.hid (arg_first h5p)
          go_wp2_with (first
              | (go_at_call 127; refine (capital_any _ _).mono ?_; rintro e w' ⟨rfl, rfl⟩)
              | (at_builtin; refine wpList_append_own _ rfl _ _ 49 rfl w1.heap.size 110 i0 _ 2 24 Tryz.underlying49 hi hz hsz hby rfl (by decide) _ _ _ rfl (HR.out.alloc _) ⟨wr.heap.size, 0, none⟩ 1 1 [.bool (capital s5[0]), .string s5] rfl rfl (two_new _ _ _ _) (by simp [Value.oneCell']) (by unfold maxLen; omega) (by omega) (by simp; omega) ?_; intro v' w5 hown' hgrow' _; obtain ⟨g', cap', rfl⟩ := ownsRow_succ hown'; have hown := Lib.hid hown'; have hgrow := Lib.hid hgrow'; clear hown' hgrow'))
          have HR5 : Hid (w5.ownsRow w1.heap.size 110 2 (.slice (some ⟨g', 0, none⟩) (k + 1) cap') (k + 1) (tcs (wordTs (ws.take (k + 1))))) := Lib.hid (by rw [wordTs_step HG.out, E5.out]; exact hown.out)
          have hb5 := Lib.hid (cutRow hb HR.out hgrow.out)
          clear hown hgrow HR hb
          go_roundw
          case rel => exact ⟨k + 1, _, _, by omega, by go_num, rfl, HR5.out, hb5.out⟩
          case measure => simp [intOf]; omega
      · have hkw : k = ws.length := by omega
        have hltI : ¬ (k : Int) < (ws.length : Int) := by omega
        have hr : wr.ownsRow w.heap.size 110 2 (.slice Av k cv) k (tcs (termsOf s.data.toList)) := by
          have h := HR.out
          rw [List.take_of_length_le (by omega)] at h
          rw [E.out]
          exact rowLow h (by omega)
        have HF := Lib.hid hr
        have HL := Lib.hid (show (termsOf s.data.toList).length = k by rw [E.out]; unfold wordTs; rw [List.length_map]; omega)
        clear hr hkw
        go_wp2_with fail
        go_ret
        exact ⟨Av, k, cv, rfl, HF.out, HL.out, hb1.trans (hb.mono hb1.size)⟩

theorem cut_sizes {l x r : List UInt8} {f : Bool} {c : UInt8} (h : Lib.cut l [c] = (x, r, f)) : x.length ≤ l.length ∧ r.length ≤ l.length := by
  rcases first_of c l with hn | ⟨y, z, rfl, hy⟩
  · rw [cut_none hn] at h
    injection h with h1 h2
    injection h2 with h2
    subst h1; subst h2
    exact ⟨Nat.le_refl _, Nat.zero_le _⟩
  · rw [cut_first hy] at h
    injection h with h1 h2
    injection h2 with h2
    subst h1; subst h2
    constructor <;> (rw [List.length_append, List.length_cons]; omega)

theorem trim_size (r : List UInt8) (c : UInt8) : (Lib.trimSuffix r [c]).length ≤ r.length := by
  unfold Lib.trimSuffix
  split
  · rw [List.length_take]; omega
  · exact Nat.le_refl _

theorem mk_data (l : List UInt8) : (⟨l.toArray⟩ : ByteArray).data.toList = l := by simp
theorem mk_size (l : List UInt8) : (⟨l.toArray⟩ : ByteArray).size = l.length := by simp [ByteArray.size]

theorem termsOf_size {l : List UInt8} {t : Tm} (h : t ∈ termsOf l) : t.2.size ≤ l.length := by
  unfold termsOf at h
  split at h
  · cases h
  · obtain ⟨x, hx, rfl⟩ := List.mem_map.1 h
    have := cuts_size hx
    unfold argOf
    rw [mk_size]; exact this

set_option maxRecDepth 100000 in
set_option maxHeartbeats 4000000 in
theorem implAtomGet_any (s : ByteArray) (w : World) (hs : s.size ≤ 1048576) (hm : MaxIn w) :
    Calls Tryz.prog 61 #[.string s] w (GetPost s.data.toList w) := by
  have hsl : s.data.toList.length = s.size := by simp
  have hb0 := below1 w (.cells #[.string ⟨#[]⟩, .slice none 0 0] 51)
  have X0 := Lib.hid (Blk.new w 51 #[.string ⟨#[]⟩, .slice none 0 0])
  obtain ⟨W0, hW0⟩ : ∃ W0, w.alloc (.cells #[.string ⟨#[]⟩, .slice none 0 0] 51) = W0 := ⟨_, rfl⟩
  rw [hW0] at hb0 X0
  have hz0 : W0.heap.size = w.heap.size + 1 := by rw [← hW0]; simp
  have HB0 := Lib.hid hb0
  have hm0 := hm.below hb0
  clear hb0
  by_cases hlen : s.size ≤ 1500
  · have hlenI : ¬ (1500 < (s.size : Int)) := by omega
    obtain ⟨x, r, f, hc⟩ : ∃ x r f, Lib.cut s.data.toList [40] = (x, r, f) := ⟨_, _, _, rfl⟩
    obtain ⟨hxs, hrs⟩ := cut_sizes hc
    obtain ⟨y, hy⟩ : ∃ y, Lib.trimSuffix r [41] = y := ⟨_, rfl⟩
    obtain ⟨g, hg⟩ : ∃ g, Lib.hasSuffix r [41] = g := ⟨_, rfl⟩
    have hys : y.length ≤ r.length := by rw [← hy]; exact trim_size r 41
    have HA := Lib.hid (show readA s.data.toList = (⟨x.toArray⟩, termsOf y) by unfold readA; rw [hc]; show (_, termsOf (Lib.trimSuffix r [41])) = _; rw [hy])
    have HO := Lib.hid (show readOk s.data.toList = (f && (g && atomB (⟨x.toArray⟩, termsOf y))) by unfold readOk; rw [HA.out, hc]; show (f && (Lib.hasSuffix r [41] && _)) = _; rw [hg])
    obtain ⟨nm, hnm⟩ : ∃ nm : ByteArray, (⟨x.toArray⟩ : ByteArray) = nm := ⟨_, rfl⟩
    have hnz : nm.size ≤ 1500 := by rw [← hnm, mk_size]; omega
    have hnz' : nm.size ≤ maxLen := by unfold maxLen; omega
    rw [hnm] at HA HO
    have HN := Lib.hid hnm; have HC := Lib.hid hc; have HY := Lib.hid hy; have HG := Lib.hid hg
    clear hnm hc hy hg
    go_enter Tryz.func61, Tryz.ntmps61
    go_wp2_with fail
    obtain ⟨mx, hmx⟩ := hm0
    refine (Tryz.strings_Cut s ⟨#[40]⟩ mx W0 (by omega) hmx).mono ?_; rintro e w1 ⟨rfl, n1, hw1⟩
    rw [byteOne, HC.out]
    show _
    have hb1 : Below W0.heap.size W0 w1 := by rw [hw1]; exact ⟨rfl, rfl, rfl, Nat.le_refl _, fun _ _ => rfl⟩
    have hm1 : MaxIn w1 := MaxIn.below ⟨mx, hmx⟩ hb1
    have X1 := Lib.hid (X0.out.below hb1); have HB1 := Lib.hid (belowThen HB0.out hb1)
    clear hw1 hmx
    have hz1 := hb1.size
    clear hb1
    go_wp2_with fail
    refine (Tryz.strings_CutSuffix ⟨r.toArray⟩ ⟨#[41]⟩ w1 (by rw [mk_size]; omega)).mono ?_; rintro e w' ⟨rfl, hw'⟩
    rw [hw']
    clear hw'
    rw [byteOne, mk_data, HY.out, HG.out]
    go_wp2_with fail
    refine (termsGet_any ⟨y.toArray⟩ w1 (by rw [mk_size]; omega) hm1).mono ?_; rintro e w2 ⟨A, n, c, rfl, hrow, hl, hb2⟩
    rw [mk_data] at hrow hl
    have HR := Lib.hid hrow; have HL := Lib.hid hl
    have X2 := Lib.hid (X1.out.below hb2); have HB2 := Lib.hid (belowThen HB1.out hb2)
    have hz2 := hb2.size
    clear hb2 hrow hl
    rw [HN.out]
    have hYA := below1 w2 (.cells #[.string nm, .slice A n c] 51)
    have Y3 := Lib.hid (Blk.new w2 51 #[.string nm, .slice A n c])
    have X3 := Lib.hid (X2.out.below hYA); have HB3 := Lib.hid (belowThen HB2.out hYA)
    have HR3 := Lib.hid (ownsRow_up HR.out hYA)
    clear hYA
    have hwl := X2.out.lt
    have r0 := X2.out.cell 0; have r1 := X2.out.cell 1
    have f0 := X2.out.frozen 0; have f1 := X2.out.frozen 1
    have hne : w.heap.size ≠ w2.heap.size := by omega
    cases f
    · have E := Lib.hid (getB_no (l := s.data.toList) (by rw [HO.out]; rfl))
      go_wp2_with fail
      have Z := ((X2.out.set 0 (.string ⟨#[]⟩)).set 1 (.slice none 0 0)).alloc (.cells #[.string nm, .slice A n c] 51)
      have z0 := Z.cell 0; have z1 := Z.cell 1
      simp at z0 z1
      refine bodyPost_ret (v := .tuple #[rfVal noRf, .bool false]) (by simp [results, Tryz.results61, go_sem, z0, z1, rfVal, noRf]) rfl ⟨noRf, by rw [E.out]; rfl, noRf_apart, by rw [E.out]; rfl, ((HB2.out.setCell (by simp) _).setCell (by simp) _).alloc (by simp; omega) _⟩
    · cases g
      · have E := Lib.hid (getB_no (l := s.data.toList) (by rw [HO.out]; rfl))
        go_wp2_with fail
        have Z := ((X2.out.set 0 (.string ⟨#[]⟩)).set 1 (.slice none 0 0)).alloc (.cells #[.string nm, .slice A n c] 51)
        have z0 := Z.cell 0; have z1 := Z.cell 1
        simp at z0 z1
        refine bodyPost_ret (v := .tuple #[rfVal noRf, .bool false]) (by simp [results, Tryz.results61, go_sem, z0, z1, rfVal, noRf]) rfl ⟨noRf, by rw [E.out]; rfl, noRf_apart, by rw [E.out]; rfl, ((HB2.out.setCell (by simp) _).setCell (by simp) _).alloc (by simp; omega) _⟩
      · obtain ⟨A9, c9, e9, hH⟩ := head_row (s := nm) HR3.out HL.out (fun t ht => Nat.le_trans (termsOf_size ht) (by unfold maxLen; omega)) hnz'
        injection e9 with e9 _ e10
        subst e9; subst e10
        have HH := Lib.hid hH
        clear hH
        go_wp2_with fail
        refine (implAtomOk_any nm A n c (termsOf y) _ hnz' (HH.out.2.1.keep (fun _ _ _ => rfl) (Nat.zero_le _) (Nat.le_refl _))).mono ?_; rintro e w4 ⟨rfl, hb4⟩
        have X4 := Lib.hid (X3.out.below hb4); have Y4 := Lib.hid (Y3.out.below hb4); have HB4 := Lib.hid (belowThen HB3.out hb4)
        have HH4 := Lib.hid (HH.out.keep (w' := w4) (lo' := w1.heap.size) (hi' := w4.heap.size) (fun b _ h2 => hb4.block b h2) (Nat.le_refl _) hb4.size)
        clear hb4 r0 r1 f0 f1
        have r0 := X4.out.cell 0; have r1 := X4.out.cell 1
        have f0 := X4.out.frozen 0; have f1 := X4.out.frozen 1
        have a0 := Y4.out.cell 0; have a1 := Y4.out.cell 1
        have x4l := X4.out.lt
        cases hb : atomB (nm, termsOf y)
        · have E := Lib.hid (getB_no (l := s.data.toList) (by rw [HO.out, hb]; rfl))
          clear hb
          go_wp2_with fail
          refine bodyPost_ret (v := .tuple #[rfVal noRf, .bool false]) (by simp [results, Tryz.results61, go_sem, r0, r1, rfVal, noRf]) rfl ⟨noRf, by rw [E.out]; rfl, noRf_apart, by rw [E.out]; rfl, (HB4.out.setCell (by simp) _).setCell (by simp) _⟩
        · have E := Lib.hid (getB_yes (l := s.data.toList) (by omega) (by rw [HO.out, hb]; rfl))
          have EA := Lib.hid HA.out
          clear hb
          go_wp2_with fail
          have Z := (X4.out.set 0 (.string nm)).set 1 (.slice A n c)
          have z0 := Z.cell 0; have z1 := Z.cell 1
          refine bodyPost_ret (v := .tuple #[rfVal (nm, A, n, c, termsOf y), .bool true]) (by simp [results, Tryz.results61, go_sem, r0, r1, rfVal]) rfl ⟨(nm, A, n, c, termsOf y), by rw [E.out]; rfl, ?_, by rw [E.out, EA.out]; rfl, (HB4.out.setCell (by simp) _).setCell (by simp) _⟩
          exact HH4.out.keep (fun b h1 h2 => (Below.heap_setCell _ _ _ _ (by simp; omega)).trans (Below.heap_setCell _ _ _ _ (by simp; omega))) (by omega) (by simp)
  · have hlenI : 1500 < (s.size : Int) := by omega
    have E := Lib.hid (getB_long (l := s.data.toList) (by omega))
    go_enter Tryz.func61, Tryz.ntmps61
    have r0 := X0.out.cell 0; have r1 := X0.out.cell 1
    have f0 := X0.out.frozen 0; have f1 := X0.out.frozen 1
    have hxl := X0.out.lt
    go_wp2_with fail
    refine bodyPost_ret (v := .tuple #[rfVal noRf, .bool false]) (by simp [results, Tryz.results61, go_sem, r0, r1, rfVal, noRf]) rfl ⟨noRf, by rw [E.out]; rfl, noRf_apart, by rw [E.out]; rfl, (HB0.out.setCell (by simp) _).setCell (by simp) _⟩

end Go.Proofs.YtogonjkklioaaaaGreatDoor
