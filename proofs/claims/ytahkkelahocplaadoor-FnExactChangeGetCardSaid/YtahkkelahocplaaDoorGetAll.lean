/-
  Texts of one claim, put together.
-/
import Derived.Test.YtahkkelahocplaaDoorPut2
import Derived.Lib.SplitLaws
import Derived.Lib.Strings
import Derived.Test.YtahkkelahocplaaDoorRule3
import Derived.Test.YtahkkelahocplaaDoorTexts
import Derived.Test.YtahkkelahocplaaDoorExactAtomPut
import Derived.Test.YtahkkelahocplaaDoorRKeep
import Derived.Test.YtahkkelahocplaaDoorShelfG
namespace Go.Proofs.YtahkkelahocplaaDoor

/-- One byte more of a text that is cut at each byte c: what is cut off, and what is begun. -/
def cutStep (c : UInt8) (s : List (List UInt8) × List UInt8) (b : UInt8) : List (List UInt8) × List UInt8 := if b = c then (s.1 ++ [s.2], []) else (s.1, s.2 ++ [b])
/-- A text cut at each byte c, from the left. -/
def cutRun (c : UInt8) (l : List UInt8) : List (List UInt8) × List UInt8 := l.foldl (cutStep c) ([], [])
/-- The pieces of a text cut at each byte c. -/
def cuts (c : UInt8) (l : List UInt8) : List (List UInt8) := (cutRun c l).1 ++ [(cutRun c l).2]

/-- The same from the right: the first piece, and the others. -/
def cutL (c : UInt8) : List UInt8 → List UInt8 × List (List UInt8)
  | [] => ([], [])
  | b :: l => if b = c then ([], (cutL c l).1 :: (cutL c l).2) else (b :: (cutL c l).1, (cutL c l).2)

theorem cutRun_take (c : UInt8) (l : List UInt8) (k : Nat) (b : UInt8) (h : l[k]? = some b) : cutRun c (l.take (k + 1)) = cutStep c (cutRun c (l.take k)) b := by
  unfold cutRun
  rw [List.take_add_one, h, List.foldl_append]; rfl

theorem cut_fold (c : UInt8) : ∀ (l : List UInt8) (o : List (List UInt8)) (cur : List UInt8), (l.foldl (cutStep c) (o, cur)).1 ++ [(l.foldl (cutStep c) (o, cur)).2] = o ++ (cur ++ (cutL c l).1) :: (cutL c l).2
  | [], o, cur => by simp [cutL]
  | b :: l, o, cur => by
    rw [List.foldl_cons]
    by_cases h : b = c
    · have e : cutStep c (o, cur) b = (o ++ [cur], []) := by unfold cutStep; rw [if_pos h]
      have e2 : cutL c (b :: l) = ([], (cutL c l).1 :: (cutL c l).2) := by rw [cutL, if_pos h]
      rw [e, cut_fold c l, e2]; simp
    · have e : cutStep c (o, cur) b = (o, cur ++ [b]) := by unfold cutStep; rw [if_neg h]
      have e2 : cutL c (b :: l) = (b :: (cutL c l).1, (cutL c l).2) := by rw [cutL, if_neg h]
      rw [e, cut_fold c l, e2]; simp

theorem cuts_eq (c : UInt8) (l : List UInt8) : cuts c l = (cutL c l).1 :: (cutL c l).2 := by
  have := cut_fold c l [] []
  unfold cuts cutRun
  rw [this]; simp

theorem joinTail_cons (sep x : List UInt8) (r : List (List UInt8)) : Lib.joinTail sep (x :: r) = sep ++ x ++ Lib.joinTail sep r := by simp [Lib.joinTail]

theorem cutL_join (c : UInt8) : ∀ l : List UInt8, (cutL c l).1 ++ Lib.joinTail [c] (cutL c l).2 = l
  | [] => by simp [cutL, Lib.joinTail]
  | b :: l => by
    have ih := cutL_join c l
    by_cases h : b = c
    · rw [cutL, if_pos h, joinTail_cons, h]
      simp only [List.nil_append, List.append_assoc]
      rw [ih]; rfl
    · rw [cutL, if_neg h, List.cons_append, ih]

/-- The pieces joined are the text. -/
theorem cuts_join (c : UInt8) (l : List UInt8) : Lib.join (cuts c l) [c] = l := by rw [cuts_eq, Lib.join_cons]; exact cutL_join c l

theorem cutL_none (c : UInt8) : ∀ x : List UInt8, c ∉ x → cutL c x = (x, [])
  | [], _ => rfl
  | b :: x, h => by
    have hb : ¬ b = c := fun e => h (by simp [e])
    rw [cutL, if_neg hb, cutL_none c x (fun hm => h (by simp [hm]))]

theorem cutL_first (c : UInt8) : ∀ (x r : List UInt8), c ∉ x → cutL c (x ++ c :: r) = (x, (cutL c r).1 :: (cutL c r).2)
  | [], r, _ => by show cutL c (c :: r) = _; rw [cutL, if_pos rfl]
  | b :: x, r, h => by
    have hb : ¬ b = c := fun e => h (by simp [e])
    show cutL c (b :: (x ++ c :: r)) = _
    rw [cutL, if_neg hb, cutL_first c x r (fun hm => h (by simp [hm]))]

theorem cuts_none {c : UInt8} {x : List UInt8} (h : c ∉ x) : cuts c x = [x] := by rw [cuts_eq, cutL_none c x h]
theorem cuts_first {c : UInt8} {x r : List UInt8} (h : c ∉ x) : cuts c (x ++ c :: r) = x :: cuts c r := by rw [cuts_eq, cutL_first c x r h, cuts_eq]

/-- A text holds a byte first here, or not at all. -/
theorem first_of (c : UInt8) (l : List UInt8) : c ∉ l ∨ ∃ x r, l = x ++ c :: r ∧ c ∉ x := by
  by_cases h : c ∈ l
  · obtain ⟨x, r, e, hx⟩ := List.eq_append_cons_of_mem h
    exact .inr ⟨x, r, e, hx⟩
  · exact .inl h

theorem cutL_len (c : UInt8) : ∀ l : List UInt8, (cutL c l).2.length ≤ l.length
  | [] => Nat.le_refl _
  | b :: l => by
    have ih := cutL_len c l
    by_cases h : b = c
    · rw [cutL, if_pos h]
      show ((cutL c l).1 :: (cutL c l).2).length ≤ (b :: l).length
      rw [List.length_cons, List.length_cons]; omega
    · rw [cutL, if_neg h]
      show (cutL c l).2.length ≤ (b :: l).length
      rw [List.length_cons]; omega

theorem cuts_len (c : UInt8) (l : List UInt8) : (cuts c l).length ≤ l.length + 1 := by
  have := cutL_len c l
  rw [cuts_eq, List.length_cons]; omega

theorem cutL_size (c : UInt8) : ∀ l : List UInt8, (cutL c l).1.length ≤ l.length ∧ ∀ y ∈ (cutL c l).2, y.length ≤ l.length
  | [] => ⟨Nat.le_refl _, fun y hy => by cases hy⟩
  | b :: l => by
    have ih := cutL_size c l
    by_cases h : b = c
    · rw [cutL, if_pos h]
      refine ⟨Nat.zero_le _, fun y hy => ?_⟩
      rw [List.length_cons]
      rcases List.mem_cons.1 hy with rfl | hy
      · have := ih.1; omega
      · have := ih.2 y hy; omega
    · rw [cutL, if_neg h]
      refine ⟨?_, fun y hy => ?_⟩
      · show (b :: (cutL c l).1).length ≤ _
        rw [List.length_cons, List.length_cons]; have := ih.1; omega
      · have := ih.2 y hy
        rw [List.length_cons]; omega

theorem cuts_size {c : UInt8} {l x : List UInt8} (h : x ∈ cuts c l) : x.length ≤ l.length := by
  rw [cuts_eq] at h
  have := cutL_size c l
  rcases List.mem_cons.1 h with rfl | h
  · exact this.1
  · exact this.2 x h

theorem index_one_none {c : UInt8} {l : List UInt8} (h : c ∉ l) : Lib.index l [c] = -1 := by
  refine Lib.index_none fun j hj => ?_
  unfold Lib.occAt
  rw [Bool.eq_false_iff]
  intro hp
  cases hd : l.drop j with
  | nil => rw [hd] at hp; simp at hp
  | cons b t =>
    rw [hd] at hp
    have : c = b := by simpa using hp
    subst this
    have : c ∈ l.drop j := by rw [hd]; simp
    exact h (List.mem_of_mem_drop this)

theorem index_one_first {c : UInt8} {x r : List UInt8} (h : c ∉ x) : Lib.index (x ++ c :: r) [c] = x.length := by
  refine Lib.index_first (by simp) ?_ fun j hj => ?_
  · unfold Lib.occAt; rw [List.drop_left]; simp
  · unfold Lib.occAt
    rw [Bool.eq_false_iff]
    intro hp
    have hd : (x ++ c :: r).drop j = x[j] :: (x.drop (j + 1) ++ c :: r) := by
      rw [List.drop_append_of_le_length (by omega), List.drop_eq_getElem_cons hj]; rfl
    rw [hd] at hp
    generalize x.drop (j + 1) ++ c :: r = q at hp
    have : c = x[j] := by simpa [List.isPrefixOf] using hp
    exact h (by rw [this]; exact List.getElem_mem hj)

theorem cut_none {c : UInt8} {l : List UInt8} (h : c ∉ l) : Lib.cut l [c] = (l, [], false) := by
  unfold Lib.cut; rw [index_one_none h, if_neg (by decide)]
theorem cut_first {c : UInt8} {x r : List UInt8} (h : c ∉ x) : Lib.cut (x ++ c :: r) [c] = (x, r, true) := by
  unfold Lib.cut
  rw [index_one_first h, if_pos (by omega)]
  simp

/-- strings.Split at a byte tells the pieces. -/
theorem split_cuts (c : UInt8) (l : List UInt8) : Lib.splitK [c] 0 (Lib.count l [c]) l = cuts c l := by
  rw [Lib.count_one]
  obtain ⟨k, hk⟩ : ∃ k, l.count c = k := ⟨_, rfl⟩
  rw [hk]
  induction k generalizing l with
  | zero =>
    have h : c ∉ l := List.count_eq_zero.1 hk
    rw [cuts_none h]; rfl
  | succ k ih =>
    rcases first_of c l with h | ⟨x, r, rfl, hx⟩
    · rw [List.count_eq_zero.2 h] at hk; omega
    · have hr : r.count c = k := by
        rw [List.count_append, List.count_eq_zero.2 hx, List.count_cons_self] at hk; omega
      rw [Lib.splitK, index_one_first hx, cuts_first hx, if_neg (by rw [beq_iff_eq]; omega)]
      have e : ((x.length : Int)).toNat = x.length := by omega
      rw [e, Nat.add_zero, List.take_left, ← ih r hr]
      congr 2
      rw [← List.drop_drop, List.drop_left]; rfl

/-- A word as a term. -/
def argOf (l : List UInt8) : Tm := ((match l with | [] => false | c :: _ => capital c), ⟨l.toArray⟩)
/-- Words between commas as terms. -/
def termsOf (l : List UInt8) : List Tm := if l = [] then [] else (cuts 44 l).map argOf

theorem argOf_name (l : List UInt8) : (argOf l).2.data.toList = l := by unfold argOf; simp
theorem termsOf_names (l : List UInt8) : Lib.join (tmNames (termsOf l)) [44] = l := by
  unfold termsOf
  by_cases h : l = []
  · subst h; rfl
  · rw [if_neg h]
    have : tmNames ((cuts 44 l).map argOf) = cuts 44 l := by
      unfold tmNames
      rw [List.map_map]
      conv => rhs; rw [← List.map_id (cuts 44 l)]
      exact List.map_congr_left fun x _ => argOf_name x
    rw [this, cuts_join]

/-- What the program reads, be it an atom or not. -/
def readA (l : List UInt8) : At := (⟨(Lib.cut l [40]).1.toArray⟩, termsOf (Lib.trimSuffix (Lib.cut l [40]).2.1 [41]))
def readOk (l : List UInt8) : Bool := (Lib.cut l [40]).2.2 && (Lib.hasSuffix (Lib.cut l [40]).2.1 [41] && atomB (readA l))
/-- The atom that a text is, if it is one. -/
def getB (l : List UInt8) : Option At := if l.length ≤ 1500 ∧ readOk l = true then some (readA l) else none

theorem getB_long {l : List UInt8} (h : 1500 < l.length) : getB l = none := by unfold getB; rw [if_neg (fun e => by omega)]
theorem getB_no {l : List UInt8} (h : readOk l = false) : getB l = none := by unfold getB; rw [if_neg (fun e => by rw [h] at e; cases e.2)]
theorem getB_yes {l : List UInt8} (h1 : l.length ≤ 1500) (h : readOk l = true) : getB l = some (readA l) := by unfold getB; rw [if_pos ⟨h1, h⟩]

theorem suffix_one {c : UInt8} {l : List UInt8} (h : Lib.hasSuffix l [c] = true) : ∃ x, l = x ++ [c] ∧ Lib.trimSuffix l [c] = x := by
  have h1 := h
  unfold Lib.hasSuffix at h1
  rw [List.isSuffixOf_iff_suffix] at h1
  obtain ⟨x, e⟩ := h1
  refine ⟨x, e.symm, ?_⟩
  unfold Lib.trimSuffix
  rw [if_pos h, ← e]
  simp

theorem has_suffix_one (c : UInt8) (x : List UInt8) : Lib.hasSuffix (x ++ [c]) [c] = true := by
  unfold Lib.hasSuffix
  rw [List.isSuffixOf_iff_suffix]
  exact List.suffix_append x [c]

/-- A byte of a name or of a variable. -/
def plainC (c : UInt8) : Prop := okByte c = true ∨ capital c = true

theorem name_plain {l : List UInt8} (h : nameB l = true) {c : UInt8} (hc : c ∈ l) : okByte c = true := by
  unfold nameB letters small at h
  simp only [Bool.and_eq_true] at h
  exact List.all_eq_true.1 h.1.1 c hc

theorem term_plain {t : Tm} (h : termB t = true) {c : UInt8} (hc : c ∈ t.2.data.toList) : plainC c := by
  unfold termB at h
  split at h
  · unfold varB at h
    split at h
    · rename_i e; rw [e] at hc; cases hc
    · rename_i b r e
      rw [e] at hc
      simp only [Bool.and_eq_true] at h
      rcases List.mem_cons.1 hc with rfl | hc
      · exact .inr h.1.1
      · exact .inl (List.all_eq_true.1 h.1.2 c hc)
  · exact .inl (name_plain h hc)

theorem not_plain {c : UInt8} (h : c = 40 ∨ c = 41 ∨ c = 44 ∨ c = 32) : ¬ plainC c := by
  unfold plainC
  rcases h with rfl | rfl | rfl | rfl <;> decide

theorem mem_join {c d : UInt8} {xs : List (List UInt8)} (h : c ∈ Lib.join xs [d]) : c = d ∨ ∃ x ∈ xs, c ∈ x := by
  cases xs with
  | nil => rw [Lib.join_nil] at h; cases h
  | cons x r =>
    rw [Lib.join_cons] at h
    rcases List.mem_append.1 h with h | h
    · exact .inr ⟨x, by simp, h⟩
    · unfold Lib.joinTail at h
      obtain ⟨y, hy, hc⟩ := List.mem_flatten.1 h
      obtain ⟨z, hz, rfl⟩ := List.mem_map.1 hy
      rcases List.mem_append.1 hc with hc | hc
      · exact .inl (by simpa using hc)
      · exact .inr ⟨z, by simp [hz], hc⟩

theorem atom_parts {a : At} (h : atomB a = true) : nameB a.1.data.toList = true ∧ (∀ t ∈ a.2, termB t = true) ∧ a.2.length ≤ 3 := by
  unfold atomB argsB at h
  simp only [Bool.and_eq_true, decide_eq_true_eq] at h
  exact ⟨h.2.1, List.all_eq_true.1 h.1, h.2.2⟩

theorem names_plain {a : At} (h : atomB a = true) {c : UInt8} (hc : c ∈ Lib.join (tmNames a.2) [44]) : c = 44 ∨ plainC c := by
  rcases mem_join hc with rfl | ⟨x, hx, hc⟩
  · exact .inl rfl
  · unfold tmNames at hx
    obtain ⟨t, ht, rfl⟩ := List.mem_map.1 hx
    exact .inr (term_plain ((atom_parts h).2.1 t ht) hc)

/-- The bytes of an atom's text. -/
theorem text_plain {a : At} (h : atomB a = true) {c : UInt8} (hc : c ∈ textL a) : c = 40 ∨ c = 41 ∨ c = 44 ∨ plainC c := by
  unfold textL at hc
  simp only [List.mem_append, List.mem_cons, List.not_mem_nil, or_false] at hc
  rcases hc with ((hc | rfl) | hc) | rfl
  · exact .inr (.inr (.inr (.inl (name_plain (atom_parts h).1 hc))))
  · exact .inl rfl
  · rcases names_plain h hc with rfl | hc
    · exact .inr (.inr (.inl rfl))
    · exact .inr (.inr (.inr hc))
  · exact .inr (.inl rfl)

theorem text_no_blank {a : At} (h : atomB a = true) : (32 : UInt8) ∉ textL a := by
  intro hc
  rcases text_plain h hc with e | e | e | e
  · cases e
  · cases e
  · cases e
  · exact not_plain (.inr (.inr (.inr rfl))) e

/-- What it means that the program reads an atom. -/
theorem read_ok {l : List UInt8} (h : readOk l = true) : ∃ x y, l = x ++ 40 :: (y ++ [41]) ∧ (40 : UInt8) ∉ x ∧ (40 : UInt8) ∉ y ∧ readA l = (⟨x.toArray⟩, termsOf y) ∧ atomB (readA l) = true ∧ textL (readA l) = l := by
  unfold readOk at h
  simp only [Bool.and_eq_true] at h
  obtain ⟨h1, h2, h3⟩ := h
  rcases first_of 40 l with hn | ⟨x, r, hl, hx⟩
  · rw [cut_none hn] at h1; cases h1
  · have hcut := cut_first (r := r) hx
    rw [← hl] at hcut
    rw [hcut] at h2
    obtain ⟨y, hr0, ht⟩ := suffix_one h2
    have hr : r = y ++ [41] := hr0
    have hA : readA l = (⟨x.toArray⟩, termsOf y) := by unfold readA; rw [hcut]; show (_, termsOf (Lib.trimSuffix r [41])) = _; rw [ht]
    have hT : textL (readA l) = l := by
      rw [hA]
      unfold textL
      rw [termsOf_names, hl, hr]
      simp
    refine ⟨x, y, by rw [hl, hr], hx, fun hm => ?_, hA, h3, hT⟩
    have := names_plain h3 (c := 40) (by rw [hA]; show _ ∈ Lib.join (tmNames (termsOf y)) [44]; rw [termsOf_names]; exact hm)
    rcases this with e | e
    · cases e
    · exact not_plain (.inl rfl) e

theorem cuts_two {l p0 p1 : List UInt8} {c : UInt8} (h : cuts c l = [p0, p1]) : l = p0 ++ c :: p1 ∧ c ∉ p0 ∧ c ∉ p1 := by
  rcases first_of c l with hn | ⟨x, r, rfl, hx⟩
  · rw [cuts_none hn] at h; cases h
  · rw [cuts_first hx] at h
    injection h with h0 h1
    subst h0
    rcases first_of c r with hn | ⟨x', r', rfl, hx'⟩
    · rw [cuts_none hn] at h1
      injection h1 with h1
      subst h1
      exact ⟨rfl, hx, hn⟩
    · rw [cuts_first hx', cuts_eq] at h1
      injection h1 with _ h1
      cases h1

/-- What the model reads. -/
def specA (p0 p1 : List UInt8) : At := (⟨p0.toArray⟩, termsOf (p1.take (p1.length - 1)))

theorem read_spec {l : List UInt8} (h : readOk l = true) : ∃ p0 p1, cuts 40 l = [p0, p1] ∧ p1 ≠ [] ∧ readA l = specA p0 p1 ∧ putB (specA p0 p1) = l := by
  obtain ⟨x, y, hl, hx, hy, hA, hB, hT⟩ := read_ok h
  have hA' : readA l = specA x (y ++ [41]) := by
    rw [hA]; unfold specA; simp
  refine ⟨x, y ++ [41], ?_, by simp, hA', ?_⟩
  · rw [hl, cuts_first hx, cuts_none]
    intro hm
    rcases List.mem_append.1 hm with hm | hm
    · exact hy hm
    · cases (List.mem_singleton.1 hm)
  · rw [← hA']; unfold putB; rw [if_pos hB, hT]

theorem spec_yes {l p0 p1 : List UInt8} (hc : cuts 40 l = [p0, p1]) (hl : l.length ≤ 1500) (h1 : p1 ≠ []) (hp : putB (specA p0 p1) = l) : getB l = some (specA p0 p1) := by
  obtain ⟨e, hx, hy⟩ := cuts_two hc
  have hB : atomB (specA p0 p1) = true := by
    cases hb : atomB (specA p0 p1)
    · unfold putB at hp; rw [hb] at hp
      rw [← hp] at e; simp at e
    · rfl
  have hT : textL (specA p0 p1) = l := by unfold putB at hp; rw [if_pos hB] at hp; exact hp
  have hcut := cut_first (r := p1) hx
  rw [← e] at hcut
  obtain ⟨y, b, hyb⟩ : ∃ y b, p1 = y ++ [b] := by
    rcases List.eq_nil_or_concat p1 with h | ⟨y, b, h⟩
    · exact absurd h h1
    · exact ⟨y, b, by rw [h, List.concat_eq_append]⟩
  have hS : specA p0 p1 = (⟨p0.toArray⟩, termsOf y) := by unfold specA; rw [hyb]; simp
  have hb : b = 41 := by
    have h2 := hT
    rw [hS] at h2
    unfold textL at h2
    rw [termsOf_names, e, hyb] at h2
    have h3 : (p0 ++ 40 :: y) ++ [41] = (p0 ++ 40 :: y) ++ [b] := by simpa using h2
    have h4 := List.append_cancel_left h3
    injection h4 with h4
    exact h4.symm
  have hsuf : Lib.hasSuffix p1 [41] = true := by rw [hyb, hb]; exact has_suffix_one 41 y
  obtain ⟨y', hy1, hy2⟩ := suffix_one hsuf
  have hyy : y' = y := by
    rw [hyb, hb] at hy1
    exact (List.append_inj_left' hy1 rfl).symm
  have hA : readA l = specA p0 p1 := by
    rw [hS]; unfold readA; rw [hcut]; show (_, termsOf (Lib.trimSuffix p1 [41])) = _; rw [hy2, hyy]
  have hok : readOk l = true := by
    unfold readOk; rw [hA, hcut, hB]; show (true && (Lib.hasSuffix p1 [41] && true)) = true; rw [hsuf]; rfl
  rw [getB_yes hl hok, hA]

theorem spec_no {l p0 p1 : List UInt8} (hc : cuts 40 l = [p0, p1]) (hp : putB (specA p0 p1) ≠ l) : getB l = none := by
  cases h : readOk l
  · exact getB_no h
  · obtain ⟨q0, q1, hq, _, _, h3⟩ := read_spec h
    rw [hq] at hc
    injection hc with e1 e2
    injection e2 with e2
    subst e1; subst e2
    exact absurd h3 hp

theorem spec_empty {l p0 : List UInt8} (hc : cuts 40 l = [p0, []]) : getB l = none := by
  cases h : readOk l
  · exact getB_no h
  · obtain ⟨q0, q1, hq, h2, _, _⟩ := read_spec h
    rw [hq] at hc
    injection hc with e1 e2
    injection e2 with e2
    exact absurd e2 h2

theorem spec_count {l : List UInt8} (hc : (cuts 40 l).length ≠ 2) : getB l = none := by
  cases h : readOk l
  · exact getB_no h
  · obtain ⟨q0, q1, hq, _, _, _⟩ := read_spec h
    rw [hq] at hc
    exact absurd rfl hc

/-- What was read of a text is an atom, and its text is the text. -/
theorem getB_some {l : List UInt8} {a : At} (h : getB l = some a) : atomB a = true ∧ textL a = l ∧ l.length ≤ 1500 := by
  unfold getB at h
  split at h
  · rename_i hc
    injection h with h
    subst h
    obtain ⟨x, y, _, _, _, _, h3, h4⟩ := read_ok hc.2
    exact ⟨h3, h4, hc.1⟩
  · cases h

end Go.Proofs.YtahkkelahocplaaDoor

namespace Go.Proofs.YtahkkelahocplaaDoor

/-- What stands between parts, behind a head, ahead of what must not be. -/
def andL : List UInt8 := [32, 97, 110, 100, 32]
def ifL : List UInt8 := [32, 105, 102, 32]
def notL : List UInt8 := [110, 111, 116, 32]

/-! Texts cut at marks of several bytes. -/

theorem cut_sound {l sep h b : List UInt8} {f : Bool} (hc : Lib.cut l sep = (h, b, f)) : (f = true → l = h ++ sep ++ b) ∧ (f = false → l = h ∧ Lib.index l sep = -1) := by
  unfold Lib.cut at hc
  rcases Lib.index_spec l sep with ⟨h1, _⟩ | ⟨i, h1, h2, h3, _⟩
  · rw [h1, if_neg (by decide)] at hc
    injection hc with e1 e2
    injection e2 with e2 e3
    exact ⟨fun e => absurd (e3.trans e) (by decide), fun _ => ⟨e1, h1⟩⟩
  · rw [h1, if_pos (by omega)] at hc
    injection hc with e1 e2
    injection e2 with e2 e3
    have ei : ((i : Int)).toNat = i := by omega
    rw [ei] at e1 e2
    refine ⟨fun _ => ?_, fun e => absurd (e3.trans e) (by decide)⟩
    unfold Lib.occAt at h3
    rw [List.isPrefixOf_iff_prefix] at h3
    obtain ⟨t, ht⟩ := h3
    rw [← e1, ← e2, ← List.drop_drop, ← ht, List.drop_left, List.append_assoc, ht, List.take_append_drop]

theorem splitK_join (sep : List UInt8) : ∀ (k : Nat) (l : List UInt8), Lib.join (Lib.splitK sep 0 k l) sep = l
  | 0, l => Lib.join_one l sep
  | k + 1, l => by
    rw [Lib.splitK]
    by_cases h : Lib.index l sep = -1
    · rw [if_pos (by rw [h]; rfl)]; exact Lib.join_one l sep
    · rw [if_neg (by rw [beq_iff_eq]; exact h), Lib.join_cons, Nat.add_zero]
      have ih := splitK_join sep k (l.drop ((Lib.index l sep).toNat + sep.length))
      rcases Lib.index_spec l sep with ⟨h1, _⟩ | ⟨i, h1, h2, h3, _⟩
      · exact absurd h1 h
      · have ei : (Lib.index l sep).toNat = i := by omega
        rw [ei] at ih ⊢
        have hx : ∀ xs : List (List UInt8), xs ≠ [] → Lib.joinTail sep xs = sep ++ Lib.join xs sep := by
          intro xs hxs
          cases xs with
          | nil => exact absurd rfl hxs
          | cons x r => rw [joinTail_cons, Lib.join_cons, List.append_assoc]
        rw [hx _ (by cases k <;> (unfold Lib.splitK; try split) <;> simp), ih]
        unfold Lib.occAt at h3
        rw [List.isPrefixOf_iff_prefix] at h3
        obtain ⟨t, ht⟩ := h3
        rw [← List.drop_drop, ← ht, List.drop_left, ht, List.take_append_drop]

/-- A mark stands first behind x, if it stands nowhere ahead. -/
theorem index_at {x r sep : List UInt8} (h : ∀ j, j < x.length → Lib.occAt (x ++ (sep ++ r)) sep j = false) : Lib.index (x ++ (sep ++ r)) sep = x.length := by
  refine Lib.index_first (by simp) ?_ h
  unfold Lib.occAt
  rw [List.drop_left, List.isPrefixOf_iff_prefix]
  exact List.prefix_append sep r

theorem cut_at {x r sep : List UInt8} (h : ∀ j, j < x.length → Lib.occAt (x ++ (sep ++ r)) sep j = false) : Lib.cut (x ++ (sep ++ r)) sep = (x, r, true) := by
  unfold Lib.cut
  have ei : ((x.length : Int)).toNat = x.length := by omega
  rw [index_at h, if_pos (by omega), ei, List.take_left, ← List.drop_drop, List.drop_left, List.drop_left]

theorem splitK_at {x r sep : List UInt8} (k : Nat) (h : ∀ j, j < x.length → Lib.occAt (x ++ (sep ++ r)) sep j = false) : Lib.splitK sep 0 (k + 1) (x ++ (sep ++ r)) = x :: Lib.splitK sep 0 k r := by
  have ei : ((x.length : Int)).toNat = x.length := by omega
  rw [Lib.splitK, index_at h, if_neg (by rw [beq_iff_eq]; omega), ei, Nat.add_zero, List.take_left, ← List.drop_drop, List.drop_left, List.drop_left]

theorem splitK_none {x sep : List UInt8} (k : Nat) (h : Lib.index x sep = -1) : Lib.splitK sep 0 k x = [x] := by
  cases k with
  | zero => rfl
  | succ k => rw [Lib.splitK, if_pos (by rw [h]; rfl)]

/-- A mark that begins with a blank stands nowhere in a text with none. -/
theorem no_occ {x s sep : List UInt8} {q : List UInt8} (hs : sep = 32 :: q) (hx : (32 : UInt8) ∉ x) : ∀ j, j < x.length → Lib.occAt (x ++ s) sep j = false := by
  intro j hj
  unfold Lib.occAt
  rw [Bool.eq_false_iff]
  intro hp
  have hd : (x ++ s).drop j = x[j] :: (x.drop (j + 1) ++ s) := by
    rw [List.drop_append_of_le_length (by omega), List.drop_eq_getElem_cons hj]; rfl
  rw [hd, hs, List.isPrefixOf_iff_prefix, List.cons_prefix_cons] at hp
  exact hx (by rw [hp.1]; exact List.getElem_mem hj)

theorem index_no_blank {x sep q : List UInt8} (hs : sep = 32 :: q) (hx : (32 : UInt8) ∉ x) : Lib.index x sep = -1 := by
  refine Lib.index_none fun j hj => ?_
  by_cases h : j < x.length
  · have := no_occ (s := []) hs hx j h
    rwa [List.append_nil] at this
  · unfold Lib.occAt
    rw [List.drop_eq_nil_of_le (by omega), hs]; rfl

/-! Atoms. -/

theorem text_len {a : At} (h : atomB a = true) : 3 ≤ (textL a).length := by
  have h1 := (atom_parts h).1
  unfold nameB letters at h1
  simp only [Bool.and_eq_true, decide_eq_true_eq] at h1
  unfold textL
  simp only [List.length_append, List.length_cons, List.length_nil]
  omega

theorem text_open (a : At) : (40 : UInt8) ∈ textL a := by unfold textL; simp

theorem argOf_term {t : Tm} (h : termB t = true) : argOf t.2.data.toList = t := by
  obtain ⟨v, s⟩ := t
  unfold argOf
  have e : (⟨s.data.toList.toArray⟩ : ByteArray) = s := by cases s; rfl
  show ((match s.data.toList with | [] => false | c :: _ => capital c), (⟨s.data.toList.toArray⟩ : ByteArray)) = (v, s)
  rw [e]
  congr 1
  cases hl : s.data.toList with
  | nil =>
    unfold termB varB nameB letters at h
    cases v
    · simp [hl] at h
    · simp [hl] at h
  | cons c r =>
    unfold termB at h
    cases v
    · have h2 := name_plain (c := c) (l := s.data.toList) (by simpa using h) (by rw [hl]; simp)
      show capital c = false
      cases hc : capital c
      · rfl
      · unfold capital at hc
        unfold okByte at h2
        simp only [Bool.and_eq_true, decide_eq_true_eq] at hc
        have : ¬ (97 ≤ (c.toNat : Int)) := by omega
        have : ¬ ((c.toNat : Int) ≤ 57) := by omega
        simp only [Bool.not_eq_true', Bool.and_eq_false_iff, Bool.or_eq_false_iff, decide_eq_false_iff_not] at h2
        omega
    · have h2 : varB s.data.toList = true := by simpa using h
      rw [hl] at h2
      unfold varB at h2
      simp only [Bool.and_eq_true] at h2
      exact h2.1.1

theorem cuts_of_join {c : UInt8} : ∀ (xs : List (List UInt8)), xs ≠ [] → (∀ x ∈ xs, c ∉ x) → cuts c (Lib.join xs [c]) = xs
  | [], h, _ => absurd rfl h
  | [x], _, h => by rw [Lib.join_one, cuts_none (h x (by simp))]
  | x :: y :: r, _, h => by
    have e : Lib.join (x :: y :: r) [c] = x ++ c :: Lib.join (y :: r) [c] := by
      rw [Lib.join_cons, joinTail_cons, Lib.join_cons]; simp
    rw [e, cuts_first (h x (by simp)), cuts_of_join (y :: r) (by simp) (fun z hz => h z (by simp [hz]))]

theorem termsOf_join {ts : List Tm} (h : ∀ t ∈ ts, termB t = true) : termsOf (Lib.join (tmNames ts) [44]) = ts := by
  cases ts with
  | nil => rfl
  | cons t r =>
    have hne : ∀ u : Tm, termB u = true → u.2.data.toList ≠ [] := by
      intro u hu e
      unfold termB varB nameB letters at hu
      rw [e] at hu
      cases hv : u.1 <;> simp [hv] at hu
    have hj : Lib.join (tmNames (t :: r)) [44] ≠ [] := by
      have e : tmNames (t :: r) = t.2.data.toList :: tmNames r := rfl
      rw [e, Lib.join_cons]
      intro e2
      exact hne t (h t (by simp)) (List.append_eq_nil_iff.1 e2).1
    unfold termsOf
    rw [if_neg hj, cuts_of_join _ (by unfold tmNames; simp) ?_]
    · unfold tmNames
      rw [List.map_map]
      conv => rhs; rw [← List.map_id (t :: r)]
      exact List.map_congr_left fun u hu => argOf_term (h u hu)
    · intro x hx hm
      unfold tmNames at hx
      obtain ⟨u, hu, rfl⟩ := List.mem_map.1 hx
      exact not_plain (.inr (.inr (.inl rfl))) (term_plain (h u hu) hm)

/-- An atom that is ok is read back from its text. -/
theorem getB_text {a : At} (h : atomB a = true) : getB (textL a) = some a := by
  obtain ⟨h1, h2, h3⟩ := atom_parts h
  have hx : (40 : UInt8) ∉ a.1.data.toList := fun hm => not_plain (.inl rfl) (.inl (name_plain h1 hm))
  have hl : textL a = a.1.data.toList ++ 40 :: (Lib.join (tmNames a.2) [44] ++ [41]) := by unfold textL; simp
  have hcut : Lib.cut (textL a) [40] = (a.1.data.toList, Lib.join (tmNames a.2) [44] ++ [41], true) := by rw [hl]; exact cut_first hx
  obtain ⟨y, hy, ht⟩ := suffix_one (has_suffix_one 41 (Lib.join (tmNames a.2) [44]))
  have hyy : Lib.join (tmNames a.2) [44] = y := List.append_inj_left' hy rfl
  have hA : readA (textL a) = a := by
    unfold readA
    rw [hcut]
    show (_, termsOf (Lib.trimSuffix (Lib.join (tmNames a.2) [44] ++ [41]) [41])) = a
    rw [ht, ← hyy, termsOf_join h2]
  have hok : readOk (textL a) = true := by
    unfold readOk; rw [hA, hcut, h]
    show (true && (Lib.hasSuffix (Lib.join (tmNames a.2) [44] ++ [41]) [41] && true)) = true
    rw [has_suffix_one]; rfl
  rw [getB_yes (Nat.le_trans (textL_le h) (by decide)) hok, hA]

/-! Parts. -/

theorem occ_and {p : Pt} (h : atomB p.2 = true) (s : List UInt8) : ∀ j, j < (partL p).length → Lib.occAt (partL p ++ s) andL j = false := by
  have hb := text_no_blank h
  have ha := no_occ (sep := andL) (s := s) rfl hb
  unfold partL
  cases p.1
  · exact ha
  · intro j hj
    match j, hj with
    | 0, _ => rfl
    | 1, _ => rfl
    | 2, _ => rfl
    | 3, _ =>
      show List.isPrefixOf andL (32 :: (textL p.2 ++ s)) = false
      rw [Bool.eq_false_iff]
      intro hp
      rw [List.isPrefixOf_iff_prefix] at hp
      unfold andL at hp
      rw [List.cons_prefix_cons] at hp
      obtain ⟨t, ht⟩ := hp.2
      rcases List.append_eq_append_iff.1 ht with ⟨us, e, _⟩ | ⟨vs, e, _⟩
      · exact hb (by rw [e]; simp)
      · have := text_open p.2
        have h4 : (40 : UInt8) ∈ ([97, 110, 100, 32] : List UInt8) := by rw [e]; exact List.mem_append_left _ this
        simp at h4
    | j + 4, hj =>
      have hj' : j < (textL p.2).length := by
        simp only [if_true, List.length_append, List.length_cons, List.length_nil] at hj; omega
      exact ha j hj'

theorem index_and {p : Pt} (h : atomB p.2 = true) : Lib.index (partL p) andL = -1 := by
  refine Lib.index_none fun j hj => ?_
  by_cases hlt : j < (partL p).length
  · have := occ_and h [] j hlt
    rwa [List.append_nil] at this
  · unfold Lib.occAt
    rw [List.drop_eq_nil_of_le (by omega)]; rfl

theorem split_body : ∀ (xs : List Pt) (k : Nat), xs ≠ [] → bodyB xs = true → xs.length ≤ k + 1 → Lib.splitK andL 0 k (bodyL xs) = xs.map partL
  | [], _, h, _, _ => absurd rfl h
  | [p], k, _, h, _ => by
    have hp : atomB p.2 = true := by unfold bodyB at h; simpa using h
    have e : bodyL [p] = partL p := by unfold bodyL; exact Lib.join_one _ _
    rw [e, splitK_none k (index_and hp)]; rfl
  | p :: q :: r, k, _, h, hk => by
    have hp : atomB p.2 = true ∧ bodyB (q :: r) = true := by unfold bodyB at h ⊢; simpa using h
    have e : bodyL (p :: q :: r) = partL p ++ (andL ++ bodyL (q :: r)) := by
      unfold bodyL andL
      rw [List.map_cons, List.map_cons, Lib.join_cons, joinTail_cons, Lib.join_cons]; simp
    obtain ⟨k, rfl⟩ : ∃ m, k = m + 1 := ⟨k - 1, by simp only [List.length_cons] at hk; omega⟩
    rw [e, splitK_at k (occ_and hp.1 _), split_body (q :: r) k (by simp) hp.2 (by simp only [List.length_cons] at hk ⊢; omega)]; rfl

/-- What the program reads of a piece. -/
def readP (l : List UInt8) : Option Pt := (getB (Lib.trimPrefix l notL)).map fun a => (Lib.hasPrefix l notL, a)

theorem readP_sound {l : List UInt8} {p : Pt} (h : readP l = some p) : atomB p.2 = true ∧ partL p = l := by
  unfold readP at h
  rw [Option.map_eq_some_iff] at h
  obtain ⟨a, ha, rfl⟩ := h
  obtain ⟨h1, h2, _⟩ := getB_some ha
  refine ⟨h1, ?_⟩
  unfold partL
  show (if Lib.hasPrefix l notL = true then _ else _) ++ textL a = l
  rw [h2]
  unfold Lib.trimPrefix
  cases hp : Lib.hasPrefix l notL
  · simp
  · unfold Lib.hasPrefix at hp
    rw [List.isPrefixOf_iff_prefix] at hp
    obtain ⟨t, ht⟩ := hp
    rw [← ht]
    simp [notL]

theorem readP_part {p : Pt} (h : atomB p.2 = true) : readP (partL p) = some p := by
  obtain ⟨n, a⟩ := p
  have hb := text_no_blank h
  cases n
  · have e : partL (false, a) = textL a := by unfold partL; simp
    have hp : Lib.hasPrefix (textL a) notL = false := by
      rw [Bool.eq_false_iff]
      intro hp
      unfold Lib.hasPrefix at hp
      rw [List.isPrefixOf_iff_prefix] at hp
      obtain ⟨t, ht⟩ := hp
      exact hb (by show _ ∈ textL a; rw [← ht]; simp [notL])
    unfold readP Lib.trimPrefix
    rw [e, hp, if_neg (by decide), getB_text h]; rfl
  · have e : partL (true, a) = notL ++ textL a := by unfold partL; rfl
    have hp : Lib.hasPrefix (notL ++ textL a) notL = true := by
      unfold Lib.hasPrefix
      rw [List.isPrefixOf_iff_prefix]; exact List.prefix_append _ _
    unfold readP Lib.trimPrefix
    rw [e, hp, if_pos rfl, List.drop_left, getB_text h]; rfl

/-- All of a list that are, if all are. -/
def allS {α β : Type} (f : α → Option β) : List α → Option (List β)
  | [] => some []
  | x :: r => match f x with
    | none => none
    | some y => (allS f r).map (y :: ·)

theorem allS_sound {ps : List (List UInt8)} : ∀ {xs : List Pt}, allS readP ps = some xs → bodyB xs = true ∧ xs.map partL = ps := by
  induction ps with
  | nil => intro xs h; injection h with h; subst h; exact ⟨rfl, rfl⟩
  | cons l ps ih =>
    intro xs h
    unfold allS at h
    cases hp : readP l with
    | none => rw [hp] at h; cases h
    | some p =>
      rw [hp] at h
      obtain ⟨ys, hy, rfl⟩ := Option.map_eq_some_iff.1 h
      obtain ⟨h1, h2⟩ := ih hy
      obtain ⟨h3, h4⟩ := readP_sound hp
      refine ⟨?_, by rw [List.map_cons, h4, h2]⟩
      unfold bodyB at h1 ⊢
      simp [h3]
      simpa using h1

theorem allS_parts : ∀ {xs : List Pt}, bodyB xs = true → allS readP (xs.map partL) = some xs
  | [], _ => rfl
  | p :: r, h => by
    have hp : atomB p.2 = true ∧ bodyB r = true := by unfold bodyB at h ⊢; simpa using h
    rw [List.map_cons, allS, readP_part hp.1]
    show Option.map _ (allS readP (r.map partL)) = _
    rw [allS_parts hp.2]; rfl

/-- The pieces of a body's text. -/
def pieces (b : List UInt8) : List (List UInt8) := Lib.splitK andL 0 (min 5 (b.length + 1) - 1) b
/-- What the program reads as a body. -/
def readBody (b : List UInt8) : Option (List Pt) := if 4 < (pieces b).length then none else allS readP (pieces b)

theorem readBody_sound {b : List UInt8} {xs : List Pt} (h : readBody b = some xs) : bodyB xs = true ∧ bodyL xs = b ∧ xs.length ≤ 4 ∧ xs ≠ [] := by
  unfold readBody at h
  split at h
  · cases h
  · rename_i h4
    obtain ⟨h1, h2⟩ := allS_sound h
    have h3 : xs.length = (pieces b).length := by rw [← h2, List.length_map]
    refine ⟨h1, ?_, by omega, ?_⟩
    · unfold bodyL
      rw [h2]
      exact splitK_join andL _ b
    · intro e
      subst e
      have : pieces b ≠ [] := by
        unfold pieces
        cases (min 5 (b.length + 1) - 1) <;> (unfold Lib.splitK; try split) <;> simp
      exact this (by rw [← h2]; rfl)

theorem part_len {p : Pt} (h : atomB p.2 = true) : 3 ≤ (partL p).length := by
  have := text_len h
  unfold partL
  rw [List.length_append]; omega

theorem body_len : ∀ {xs : List Pt}, bodyB xs = true → xs.length ≤ (bodyL xs).length
  | [], _ => Nat.zero_le _
  | [p], h => by
    have hp : atomB p.2 = true := by unfold bodyB at h; simpa using h
    have e : bodyL [p] = partL p := by unfold bodyL; exact Lib.join_one _ _
    have := part_len hp
    rw [e, List.length_singleton]; omega
  | p :: q :: r, h => by
    have hp : atomB p.2 = true ∧ bodyB (q :: r) = true := by unfold bodyB at h ⊢; simpa using h
    have ih := body_len hp.2
    have e : bodyL (p :: q :: r) = partL p ++ (andL ++ bodyL (q :: r)) := by
      unfold bodyL andL
      rw [List.map_cons, List.map_cons, Lib.join_cons, joinTail_cons, Lib.join_cons]; simp
    have := part_len hp.1
    rw [e, List.length_append, List.length_append, List.length_cons]; omega

theorem readBody_text {xs : List Pt} (h : bodyB xs = true) (h0 : xs ≠ []) (h4 : xs.length ≤ 4) : readBody (bodyL xs) = some xs := by
  have hl := body_len h
  have hp : pieces (bodyL xs) = xs.map partL := split_body xs _ h0 h (by omega)
  unfold readBody
  rw [hp, if_neg (by rw [List.length_map]; omega), allS_parts h]

/-! Rules. -/

/-- What the program reads as a rule. -/
def readR (l : List UInt8) : Option Rl := match getB (Lib.cut l ifL).1 with
  | none => none
  | some a => if (Lib.cut l ifL).2.2 = true then (readBody (Lib.cut l ifL).2.1).map (fun xs => (a, xs)) else some (a, [])

theorem readR_sound {l : List UInt8} {r : Rl} (h : readR l = some r) : ruleB r = true ∧ ruleL r = l := by
  unfold readR at h
  obtain ⟨hd, b, f, hc⟩ : ∃ hd b f, Lib.cut l ifL = (hd, b, f) := ⟨_, _, _, rfl⟩
  have hs := cut_sound hc
  rw [hc] at h
  simp only at h
  cases hg : getB hd with
  | none => rw [hg] at h; cases h
  | some a =>
    rw [hg] at h
    simp only at h
    obtain ⟨h1, h2, _⟩ := getB_some hg
    cases f
    · simp at h
      subst h
      refine ⟨by unfold ruleB bodyB; simp [h1], ?_⟩
      unfold ruleL
      simp [h2, (hs.2 rfl).1]
    · simp only [if_true] at h
      obtain ⟨xs, hx, rfl⟩ := Option.map_eq_some_iff.1 h
      obtain ⟨h3, h4, h5, h6⟩ := readBody_sound hx
      refine ⟨by unfold ruleB; simp [h3, h1, h5], ?_⟩
      unfold ruleL
      have h7 : ¬ xs.length = 0 := fun e => h6 (List.eq_nil_of_length_eq_zero e)
      show textL a ++ (if xs.length = 0 then [] else _) = l
      rw [if_neg h7, h2, h4, hs.1 rfl, List.append_assoc]; rfl

theorem rule_parts {r : Rl} (h : ruleB r = true) : bodyB r.2 = true ∧ atomB r.1 = true ∧ r.2.length ≤ 4 := by
  unfold ruleB at h
  simpa [and_assoc] using h

theorem readR_text {r : Rl} (h : ruleB r = true) : readR (ruleL r) = some r := by
  obtain ⟨h1, h2, h3⟩ := rule_parts h
  obtain ⟨a, xs⟩ := r
  have hb := text_no_blank h2
  cases xs with
  | nil =>
    have e : ruleL (a, []) = textL a := by unfold ruleL; simp
    have hc : Lib.cut (textL a) ifL = (textL a, [], false) := by
      unfold Lib.cut
      rw [index_no_blank (x := textL a) (sep := ifL) (q := [105, 102, 32]) rfl hb, if_neg (by decide)]
    unfold readR
    rw [e, hc]
    simp only
    rw [getB_text h2]; rfl
  | cons p r =>
    have e : ruleL (a, p :: r) = textL a ++ (ifL ++ bodyL (p :: r)) := by unfold ruleL ifL; simp
    have hc := cut_at (no_occ (sep := ifL) (s := ifL ++ bodyL (p :: r)) (q := [105, 102, 32]) rfl hb)
    unfold readR
    rw [e, hc]
    simp only
    rw [getB_text h2]
    simp only [if_true]
    rw [readBody_text h1 (by simp) h3]; rfl

end Go.Proofs.YtahkkelahocplaaDoor

namespace Go.Proofs.YtahkkelahocplaaDoor
open Go.RowKit

/-- The pieces, as texts. -/
def cutsB (c : UInt8) (s : ByteArray) : List ByteArray := (cuts c s.data.toList).map fun l => ⟨l.toArray⟩

theorem piece_new (W : World) (x : Value) (t : TypeId) : ∀ j u, [x][j]? = some u → (W.alloc (.cells #[x] t)).cell? ((⟨W.heap.size, 0, none⟩ : Addr).add j) = some u := by
  intro j u hu
  match j, hu with
  | 0, hu => simp at hu; subst hu; simp [go_sem, Addr.add]

/-- As far as byte k a text is cut: these pieces, and what begins at f. -/
def CutAt (c : UInt8) (s : ByteArray) (k f : Nat) (os : List ByteArray) : Prop := f ≤ k ∧ k ≤ s.size ∧ os.length ≤ k ∧ cutRun c (s.data.toList.take k) = (os.map fun x => x.data.toList, (s.data.toList.take k).drop f)

theorem CutAt.start (c : UInt8) (s : ByteArray) : CutAt c s 0 0 [] := ⟨Nat.le_refl _, Nat.zero_le _, Nat.le_refl _, rfl⟩

theorem CutAt.hit {c : UInt8} {s : ByteArray} {k f : Nat} {os : List ByteArray} (h : CutAt c s k f os) (hk : k < s.size) (hb : s[k] = c) : CutAt c s (k + 1) (k + 1) (os ++ [s.extract f k]) := by
  obtain ⟨h1, h2, h3, h4⟩ := h
  refine ⟨Nat.le_refl _, hk, by rw [List.length_append]; simp; omega, ?_⟩
  have hg : s.data.toList[k]? = some c := by rw [← hb]; exact List.getElem?_eq_getElem (by simpa using hk)
  rw [cutRun_take c _ k c hg, h4]
  unfold cutStep
  rw [if_pos rfl, List.map_append]
  have e : (s.extract f k).data.toList = (s.data.toList.take k).drop f := by
    rw [Lib.extract_data]
    rw [List.drop_take]
  have e2 : (s.data.toList.take (k + 1)).drop (k + 1) = [] := List.drop_eq_nil_of_le (by rw [List.length_take]; omega)
  rw [e2, ← e]
  rfl

theorem CutAt.on {c : UInt8} {s : ByteArray} {k f : Nat} {os : List ByteArray} (h : CutAt c s k f os) (hk : k < s.size) (hb : s[k] ≠ c) : CutAt c s (k + 1) f os := by
  obtain ⟨h1, h2, h3, h4⟩ := h
  refine ⟨by omega, hk, by omega, ?_⟩
  have hg : s.data.toList[k]? = some s[k] := List.getElem?_eq_getElem (by simpa using hk)
  rw [cutRun_take c _ k _ hg, h4]
  unfold cutStep
  rw [if_neg hb]
  have hl : k < s.data.toList.length := by simpa using hk
  rw [List.take_succ_eq_append_getElem hl, List.drop_append_of_le_length (by rw [List.length_take]; omega)]
  rfl

theorem CutAt.all {c : UInt8} {s : ByteArray} {k f : Nat} {os : List ByteArray} (h : CutAt c s k f os) (hk : ¬ k < s.size) : os ++ [s.extract f s.size] = cutsB c s := by
  obtain ⟨h1, h2, h3, h4⟩ := h
  have hl : s.data.toList.length = s.size := by simp
  have hks : k = s.size := by omega
  subst hks
  rw [List.take_of_length_le (by omega)] at h4
  unfold cutsB cuts
  rw [h4]
  have e : (⟨(s.data.toList.drop f).toArray⟩ : ByteArray) = s.extract f s.size := by
    apply ByteArray.ext
    apply Array.toList_inj.1
    rw [Lib.extract_to_end]
  have e2 : ((os.map fun x => x.data.toList).map fun l => (⟨l.toArray⟩ : ByteArray)) = os := by
    rw [List.map_map]
    conv => rhs; rw [← List.map_id os]
    exact List.map_congr_left fun x _ => by cases x; rfl
  rw [List.map_append, e2]
  simp [e]

theorem cutsB_len (c : UInt8) (s : ByteArray) : (cutsB c s).length ≤ s.size + 1 := by
  have := cuts_len c s.data.toList
  have hl : s.data.toList.length = s.size := by simp
  unfold cutsB
  rw [List.length_map]; omega

theorem byte_eq {a c : UInt8} (h : ((a.toNat : Int) == (c.toNat : Int)) = true) : a = c := UInt8.toNat_inj.1 (by have := beq_iff_eq.1 h; omega)
theorem byte_ne {a c : UInt8} (h : ((a.toNat : Int) == (c.toNat : Int)) = false) : a ≠ c := fun e => by subst e; simp at h

/-- A row that is the call's own grew. -/
theorem cutRow {w wr w5 : World} {e : TypeId} {sz n : Nat} {v : Value} {xs : List Value} {o : Obj} (hb : Below w.heap.size w wr) (hr : wr.ownsRow w.heap.size e sz v n xs) (hg : (wr.alloc o).grownBy w5 v.ownBlock) : Below w.heap.size w w5 :=
  (hb.alloc hb.size o).grown hg (by have := hb.size; simp; omega) (fun j ej => (hr.lt j ej).1)

set_option maxRecDepth 100000 in
set_option maxHeartbeats 4000000 in
theorem l1Cut_any (s : ByteArray) (c : UInt8) (w : World) (hs : s.size ≤ 1048576) :
    Calls Tryd.prog 49 #[.string s, .int .u8 (c.toNat : Int)] w (TextsPost w.heap.size (cutsB c s) w) := by
  obtain ⟨i0, hi, hz, hsz, hby⟩ := info_parts Tryd.infoText
  go_enter Tryd.func49, Tryd.ntmps49
  go_wp2
  go_loopw [5, 6, 7] (fun o f i wr => ∃ (k fr : Nat) (os : List ByteArray) (Av : Option Addr) (cv : Nat), f = .int .i64 fr ∧ i = .int .i64 k ∧ o = .slice Av os.length cv ∧ wr.ownsRow w.heap.size 9 1 (.slice Av os.length cv) os.length (tcl os) ∧ CutAt c s k fr os ∧ Below w.heap.size w wr) (fun _ _ i _ => s.size - (intOf i).toNat)
  case atStart => exact ⟨0, 0, [], some ⟨w.heap.size, 0, none⟩, 0, rfl, rfl, rfl, ⟨rfl, .inr ⟨w.heap.size, 0, #[], rfl, Nat.le_refl _, heap_alloc_new w _, Nat.le_refl _, by unfold maxLen; omega, rfl, rfl⟩⟩, CutAt.start c s, below1 _ _⟩
  case round =>
    obtain ⟨k, fr, os, Av, cv, rfl, rfl, rfl, hrow, hc, hb⟩ := hrel
    have HR := Lib.hid hrow
    have hfk := hc.1; have hks := hc.2.1; have hok := hc.2.2.1
    have HC := Lib.hid hc
    clear hrow hc
    have hwr := hb.size
    by_cases hlt : k < s.size
    · have hlt2 : (k : Int) < (s.size : Int) := by omega
      have HNEW := Lib.hid (piece_new wr (.string (s.extract fr k)) 9)
      go_wp2_with (at_builtin; refine wpList_append_own _ rfl _ _ 59 rfl w.heap.size 9 i0 _ 1 16 Tryd.underlying59 hi hz hsz hby rfl (by decide) _ _ _ rfl (HR.out.alloc _) ⟨wr.heap.size, 0, none⟩ 1 1 [.string (s.extract fr k)] rfl rfl HNEW.out (by simp [Value.oneCell']) (by unfold maxLen; omega) (by omega) (by simp; omega) ?_; intro v' w5 hown' hgrow' _; obtain ⟨g', cap', rfl⟩ := ownsRow_succ hown'; have hown := Lib.hid hown'; have hgrow := Lib.hid hgrow'; clear hown' hgrow')
      · have HR5 : Hid (w5.ownsRow w.heap.size 9 1 (.slice (some ⟨g', 0, none⟩) (os.length + 1) cap') (os.length + 1) (tcl (os ++ [s.extract fr k]))) := Lib.hid (by unfold tcl; rw [List.map_append]; exact hown.out)
        have hb5 := Lib.hid (cutRow hb HR.out hgrow.out)
        have hbe : s[k] = c := byte_eq (by assumption)
        have HC5 := Lib.hid (HC.out.hit hlt hbe)
        clear hown hgrow HR
        go_roundw
        case rel => exact ⟨k + 1, k + 1, os ++ [s.extract fr k], _, cap', by go_num, by go_num, by rw [List.length_append]; rfl, by rw [List.length_append]; exact HR5.out, HC5.out, hb5.out⟩
        case measure => simp [intOf]; omega
      · have hbe : s[k] ≠ c := byte_ne (by assumption)
        have HC5 := Lib.hid (HC.out.on hlt hbe)
        go_roundw
        case rel => exact ⟨k + 1, fr, os, Av, cv, rfl, by go_num, rfl, HR.out, HC5.out, hb⟩
        case measure => simp [intOf]; omega
    · have hks' : k = s.size := by omega
      have HNEW := Lib.hid (piece_new wr (.string (s.extract fr s.size)) 9)
      go_wp2_with (at_builtin; refine wpList_append_own _ rfl _ _ 59 rfl w.heap.size 9 i0 _ 1 16 Tryd.underlying59 hi hz hsz hby rfl (by decide) _ _ _ rfl (HR.out.alloc _) ⟨wr.heap.size, 0, none⟩ 1 1 [.string (s.extract fr s.size)] rfl rfl HNEW.out (by simp [Value.oneCell']) (by unfold maxLen; omega) (by omega) (by simp; omega) ?_; intro v' w5 hown' hgrow' _; obtain ⟨g', cap', rfl⟩ := ownsRow_succ hown'; have hown := Lib.hid hown'; have hgrow := Lib.hid hgrow'; clear hown' hgrow')
      have HR5 : Hid (w5.ownsRow w.heap.size 9 1 (.slice (some ⟨g', 0, none⟩) (os.length + 1) cap') (os.length + 1) (tcl (cutsB c s))) := Lib.hid (by rw [← HC.out.all hlt]; unfold tcl; rw [List.map_append]; exact hown.out)
      have hb5 := Lib.hid (cutRow hb HR.out hgrow.out)
      obtain ⟨p, d, e5, hT⟩ := texts_own HR5.out (Nat.succ_pos _) (Nat.le_refl _)
      rw [e5]
      have HT := Lib.hid hT
      clear hown hgrow HR hT
      go_wp2
      go_ret
      exact ⟨p, d, rfl, HT.out, hb5.out⟩

end Go.Proofs.YtahkkelahocplaaDoor

namespace Go.Proofs.YtahkkelahocplaaDoor
open Go.RowKit

theorem argOf_eq (s : ByteArray) : argOf s.data.toList = ((argOf s.data.toList).1, s) := by
  unfold argOf
  cases s; rfl

theorem arg_first {s : ByteArray} (h : 0 < s.size) : (argOf s.data.toList).1 = capital s[0] := by
  rw [first_rest s h]; rfl

theorem arg_none {s : ByteArray} (h : s.size = 0) : (argOf s.data.toList).1 = false := by
  have : s.data.toList = [] := List.eq_nil_of_length_eq_zero (by simpa using h)
  rw [this]; rfl

/-- Words as terms. -/
def wordTs (ls : List ByteArray) : List Tm := ls.map fun s => argOf s.data.toList

theorem wordTs_step {ls : List ByteArray} {k : Nat} {s : ByteArray} (h : ls[k]? = some s) : tcs (wordTs (ls.take (k + 1))) = tcs (wordTs (ls.take k)) ++ [.bool (argOf s.data.toList).1, .string s] := by
  unfold wordTs tcs
  rw [List.take_add_one, h, List.map_append, List.flatMap_append]
  show _ = _
  rw [show (Option.some s).toList = [s] from rfl, List.map_cons, List.map_nil, argOf_eq s]
  rfl

theorem wordTs_cuts (c : UInt8) (s : ByteArray) : wordTs (cutsB c s) = (cuts c s.data.toList).map argOf := by
  unfold wordTs cutsB
  rw [List.map_map]
  exact List.map_congr_left fun x _ => by simp

set_option maxHeartbeats 1000000 in
theorem l1Arg_any (s : ByteArray) (w : World) (hs : s.size ≤ maxLen) :
    Calls Tryd.prog 50 #[.string s] w fun e w' => e = .returned (.agg #[.bool (argOf s.data.toList).1, .string s]) ∧ Below w.heap.size w w' := by
  have hs' := hs
  unfold maxLen at hs'
  have X := Blk.new w 62 #[.bool false, .string ⟨#[]⟩]
  by_cases hp : 0 < s.size
  · have hlt : (0 : Int) < (s.size : Int) := by omega
    have E := Lib.hid (arg_first hp)
    go_enter Tryd.func50, Tryd.ntmps50
    go_wp2_with fail
    all_goals
      refine bodyPost_ret (v := .agg #[.bool (argOf s.data.toList).1, .string s]) ?_ rfl ⟨rfl, below1 _ _⟩
      rw [E.out]
      unfold capital
      simp_all [results, Tryd.results50, go_sem]
      try omega
  · have h0 : s.size = 0 := by omega
    have E := Lib.hid (arg_none h0)
    go_enter Tryd.func50, Tryd.ntmps50
    go_wp2_with fail
    refine bodyPost_ret (v := .agg #[.bool (argOf s.data.toList).1, .string s]) ?_ rfl ⟨rfl, below1 _ _⟩
    rw [E.out]
    simp [results, Tryd.results50, go_sem]

/-- No atom. -/
def noRf : Rf := (⟨#[]⟩, none, 0, 0, [])
theorem noRf_apart {w : World} {lo hi : Nat} : HeadApart w lo hi noRf := ⟨Nat.zero_le _, ⟨rfl, Nat.le_refl _, Nat.zero_le _, fun h0 => absurd h0 (Nat.lt_irrefl _)⟩, fun h0 => absurd h0 (Nat.lt_irrefl _)⟩

/-- An atom as it is handed on. -/
def rfVal (r : Rf) : Value := .agg #[.string r.1, .slice r.2.1 r.2.2.1 r.2.2.2.1]

/-- An atom was told that is read of a text, in memory of the call's own; or that there is none. -/
def GetPost (l : List UInt8) (w : World) (e : Ending) (w' : World) : Prop :=
  ∃ r : Rf, e = .returned (.tuple #[rfVal r, .bool (getB l).isSome]) ∧ HeadApart w' w.heap.size w'.heap.size r ∧ rAt r = (getB l).getD (⟨#[]⟩, []) ∧ Below w.heap.size w w'

theorem head_row {w : World} {base n : Nat} {v : Value} {s : ByteArray} {ts : List Tm} (h : w.ownsRow base 62 2 v n (tcs ts)) (hn : ts.length = n) (hs : ∀ t ∈ ts, t.2.size ≤ maxLen) (hz : s.size ≤ maxLen) :
    ∃ A c, v = .slice A n c ∧ HeadApart w base w.heap.size (s, A, n, c, ts) := by
  have h' := h
  rcases h.2 with ⟨rfl, h0⟩ | ⟨g, cap, cur, rfl, _⟩
  · subst h0
    exact ⟨none, 0, rfl, hz, ⟨hn, Nat.le_refl _, Nat.zero_le _, fun hp => absurd hp (Nat.lt_irrefl _)⟩, fun hp => absurd hp (Nat.lt_irrefl _)⟩
  · obtain ⟨a, b⟩ := own_terms h' hn hs (Nat.le_refl _)
    exact ⟨_, cap, rfl, hz, a, fun _ => b⟩

theorem cutsB_size {c : UInt8} {s x : ByteArray} (h : x ∈ cutsB c s) : x.size ≤ s.size := by
  unfold cutsB at h
  obtain ⟨l, hl, rfl⟩ := List.mem_map.1 h
  have := cuts_size hl
  have e : (⟨l.toArray⟩ : ByteArray).size = l.length := by simp [ByteArray.size]
  rw [e]; simpa using this

theorem cutsB_data (c : UInt8) (s : ByteArray) : (cutsB c s).map (fun x => x.data.toList) = cuts c s.data.toList := by
  unfold cutsB
  rw [List.map_map]
  conv => rhs; rw [← List.map_id (cuts c s.data.toList)]
  exact List.map_congr_left fun x _ => by simp

theorem two_of {α : Type} {l : List α} (h : l.length = 2) : ∃ a b, l = [a, b] := by
  match l, h with
  | [a, b], _ => exact ⟨a, b, rfl⟩

theorem nil_of {s : ByteArray} (h : s.size = 0) : s.data.toList = [] := List.eq_nil_of_length_eq_zero (by simpa using h)
theorem size_nil {s : ByteArray} (h : s.data.toList = []) : s.size = 0 := by
  have : s.data.toList.length = s.size := by simp
  rw [← this, h]; rfl
theorem toList_data (s : ByteArray) : s.toList = s.data.toList := by rw [ByteArray.toList_eq]
theorem empty_of {s : ByteArray} (h : s.size = 0) : s.toList.isEmpty = true := by rw [toList_data, nil_of h]; rfl
theorem nonempty_of {s : ByteArray} (h : ¬ s.size = 0) : s.toList.isEmpty = false := by
  rw [toList_data]
  cases hl : s.data.toList with
  | nil => exact absurd (size_nil hl) h
  | cons b r => rfl

/-- The terms that the model reads, of what stands between the signs. -/
theorem spec_terms {p0 p1 inner : ByteArray} {q : Nat} (h : p1.extract 0 q = inner) (hq : p1.size = q + 1) : (specA p0.data.toList p1.data.toList).2 = termsOf inner.data.toList := by
  unfold specA
  rw [← h, Lib.extract_data]
  have e : p1.data.toList.length = p1.size := by simp
  rw [e, hq]
  simp

theorem spec_at {p0 p1 : ByteArray} : specA p0.data.toList p1.data.toList = (p0, (specA p0.data.toList p1.data.toList).2) := by
  unfold specA
  cases p0; rfl

/-- Two texts in a row. -/
theorem two_texts {w : World} {lo hi d : Nat} {p : Addr} {a b : ByteArray} (h : IsTexts w lo hi (some p) 2 d [a, b]) : w.cell? p = some (.string a) ∧ w.cell? ⟨p.block, p.off + 1, none⟩ = some (.string b) := by
  obtain ⟨h1, h2, h3, h4⟩ := h
  obtain ⟨q, hq, _, _, he⟩ := h4 (by omega)
  injection hq with hq
  subst hq
  have e0 := he 0 a rfl
  have e1 := he 1 b rfl
  unfold TextE at e0 e1
  unfold Addr.add at e0 e1
  exact ⟨by simpa using e0, by simpa using e1⟩

set_option maxRecDepth 100000 in
set_option maxHeartbeats 4000000 in
theorem specAtomGet_any (s : ByteArray) (w : World) (hs : s.size ≤ 1048576) :
    Calls Tryd.prog 10 #[.string s] w (GetPost s.data.toList w) := by
  obtain ⟨i0, hi, hz, hsz, hby⟩ := info_parts Tryd.infoTerm
  have hsl : s.data.toList.length = s.size := by simp
  have hb0 := below1 w (.cells #[.string ⟨#[]⟩, .slice none 0 0] 24)
  have X0 := Blk.new w 24 #[.string ⟨#[]⟩, .slice none 0 0]
  obtain ⟨W0, hW0⟩ : ∃ W0, w.alloc (.cells #[.string ⟨#[]⟩, .slice none 0 0] 24) = W0 := ⟨_, rfl⟩
  rw [hW0] at hb0 X0
  have hz0 : W0.heap.size = w.heap.size + 1 := by rw [← hW0]; simp
  have HX0 := Lib.hid X0; have HB0 := Lib.hid hb0
  clear X0 hb0
  obtain ⟨ps, hps⟩ : ∃ ps, cutsB 40 s = ps := ⟨_, rfl⟩
  have hpl : (cuts 40 s.data.toList).length = ps.length := by rw [← hps]; unfold cutsB; simp
  go_enter Tryd.func10, Tryd.ntmps10
  go_wp2_with fail
  refine (l1Cut_any s 40 W0 hs).mono ?_; rintro e w1 ⟨p, d, rfl, hT1, hb1⟩
  rw [hps] at hT1 ⊢
  have HT1 := Lib.hid hT1
  have HX1 := Lib.hid (HX0.out.below hb1); have HB1 := Lib.hid (belowThen HB0.out hb1)
  have hz1 := hb1.size
  have hxl := HX1.out.lt
  have r0 := HX1.out.cell 0; have r1 := HX1.out.cell 1
  have f0 := HX1.out.frozen 0; have f1 := HX1.out.frozen 1
  clear hb1 hT1
  by_cases h2 : ps.length = 2
  · obtain ⟨p0, p1, hpp⟩ := two_of h2
    subst hpp
    have hcut : cuts 40 s.data.toList = [p0.data.toList, p1.data.toList] := by rw [← cutsB_data, hps]; rfl
    have HC := Lib.hid hcut
    have hs0 : p0.size ≤ s.size := cutsB_size (c := 40) (by rw [hps]; simp)
    have hs1 : p1.size ≤ s.size := cutsB_size (c := 40) (by rw [hps]; simp)
    obtain ⟨c0, c1⟩ := two_texts HT1.out
    have hp2 : (((2 : Nat) : Int) == 2) = true := rfl
    clear hcut hps hpl h2
    by_cases hlen : s.size ≤ 1500
    · have hlenI : ¬ (1500 < (s.size : Int)) := by omega
      by_cases h1 : p1.size = 0
      · have hpe : ((p1.size : Int) == 0) = true := by rw [beq_iff_eq]; omega
        have E := Lib.hid (spec_empty (l := s.data.toList) (p0 := p0.data.toList) (by rw [HC.out, show p1.data.toList = [] from List.eq_nil_of_length_eq_zero (by simpa using h1)]))
        go_wp2_with fail
        have Z := (HX1.out.set 0 (.string ⟨#[]⟩)).set 1 (.slice none 0 0)
        have z0 := Z.cell 0; have z1 := Z.cell 1
        refine bodyPost_ret (v := .tuple #[rfVal noRf, .bool false]) (by simp [results, Tryd.results10, go_sem, r0, r1, rfVal, noRf]) rfl ⟨noRf, by rw [E.out]; rfl, noRf_apart, by rw [E.out]; rfl, (HB1.out.setCell (by simp) _).setCell (by simp) _⟩
      · have hpe : ((p1.size : Int) == 0) = false := by rw [beq_eq_false_iff_ne]; omega
        have hp1z : p1.size ≤ maxLen := by unfold maxLen; omega
        have hp0z : p0.size ≤ maxLen := by unfold maxLen; omega
        have hYA := below1 w1 (.cells #[.string p0, .slice none 0 0] 24)
        have Y2 := Lib.hid (Blk.new w1 24 #[.string p0, .slice none 0 0])
        have X2 := Lib.hid (HX1.out.below hYA)
        have HB2 := Lib.hid (belowThen HB1.out hYA)
        clear r0 r1 f0 f1 hYA
        have cu1 := cellUp c1
        have cu0 := cellUp c0
        obtain ⟨q, hq⟩ : ∃ q, p1.size = q + 1 := ⟨p1.size - 1, by omega⟩
        have hwq : IntKind.i64.wrap ((p1.size : Int) - 1) = (q : Int) := by rw [IntKind.wrap_i64]; omega
        have hq1 : (q : Int) ≤ (p1.size : Int) := by omega
        have hq2 : q ≤ p1.size := by omega
        have HQ := Lib.hid hq; clear hq
        go_wp2_with fail
        go_region_with fail
        all_goals
          have hil : (p1.extract 0 q).size = q := by rw [ByteArray.size_extract]; omega
          obtain ⟨inner, hinn⟩ : ∃ x, p1.extract 0 q = x := ⟨_, rfl⟩
          obtain ⟨ws, hws⟩ : ∃ x, cutsB 44 inner = x := ⟨_, rfl⟩
          rw [hinn] at hil
          have hwl : ws.length ≤ inner.size + 1 := by rw [← hws]; exact cutsB_len 44 inner
          have hw0 : 0 < ws.length := by rw [← hws]; unfold cutsB cuts; simp
          have hwz : ∀ x ∈ ws, x.size ≤ 1500 := fun x hx => Nat.le_trans (cutsB_size (c := 44) (s := inner) (by rw [hws]; exact hx)) (by omega)
          have HIN := Lib.hid hinn; have HWS := Lib.hid hws; have HWZ := Lib.hid hwz
          clear hinn hws hwz
          go_wp2_with fail
          rw [HIN.out]
          refine (l1Cut_any inner 44 _ (by omega)).mono ?_; rintro e w2 ⟨q2, d2, rfl, hT2, hb2'⟩
          rw [HWS.out] at hT2 ⊢
          have hb2 := undrew hb2'
          have HT2 := Lib.hid hT2
          have X3 := Lib.hid (X2.out.below hb2); have Y3 := Lib.hid (Y2.out.below hb2); have HB3 := Lib.hid (belowThen HB2.out hb2)
          have hz3 : w1.heap.size + 1 ≤ w2.heap.size := by have := hb2.size; simp at this; exact this
          clear hb2 hb2' hT2 cu0 cu1 c0 c1
          go_wp2_with fail
          go_loopw [8] (fun i wr => ∃ (k : Nat) (v : Value), k ≤ ws.length ∧ (inner.size = 0 → k = 0) ∧ i = .int .i64 (k : Int) ∧ Blk wr w1.heap.size 24 #[.string p0, v] ∧ Blk wr w.heap.size 24 #[.string ⟨#[]⟩, .slice none 0 0] ∧ wr.ownsRow w2.heap.size 62 2 v k (tcs (wordTs (ws.take k))) ∧ IsTexts wr (w1.heap.size + 1) w2.heap.size (some q2) ws.length d2 ws ∧ Below w.heap.size w wr ∧ w2.heap.size ≤ wr.heap.size) (fun i _ => ws.length - (intOf i).toNat)
          case atStart => exact ⟨0, _, Nat.zero_le _, fun _ => rfl, rfl, Y3.out, X3.out, ⟨rfl, .inl ⟨rfl, rfl⟩⟩, HT2.out.keep TextE.stays (fun _ _ _ => rfl) (by simp [World.drew]) (Nat.le_refl _), HB3.out, Nat.le_refl _⟩
          case round =>
            obtain ⟨k, v, hk, hk0, rfl, hY, hX, hrow, hT, hb, hwz2⟩ := hrel
            obtain ⟨Av, cv, rfl⟩ : ∃ Av cv, v = .slice Av k cv := by
              rcases hrow.2 with ⟨e1, e2⟩ | ⟨g, cap, cur, e1, _⟩
              · exact ⟨none, 0, by rw [e1, e2]⟩
              · exact ⟨_, cap, e1⟩
            have HY := Lib.hid hY; have HX := Lib.hid hX; have HR := Lib.hid hrow; have HT3 := Lib.hid hT; have HB := Lib.hid hb
            clear hY hX hrow hT hb
            have y0 := HY.out.cell 0
            have y1 := HY.out.cell 1
            by_cases hlt : k < ws.length
            · have hltI : (k : Int) < (ws.length : Int) := by omega
              by_cases hie : inner.size = 0
              · have hk00 := hk0 hie
                subst hk00
                have hie2 : (!inner.toList.isEmpty) = false := by rw [empty_of hie]; rfl
                have hH : HeadApart wr w2.heap.size wr.heap.size (p0, Av, 0, cv, (specA p0.data.toList p1.data.toList).2) := by
                  have e0 : (specA p0.data.toList p1.data.toList).2 = [] := by rw [spec_terms HIN.out HQ.out]; unfold termsOf; rw [if_pos (nil_of hie)]
                  rw [e0]
                  obtain ⟨A9, c9, e9, h9⟩ := head_row (s := p0) HR.out (by simp [wordTs]) (fun t ht => by simp [wordTs] at ht) hp0z
                  injection e9 with e9 _ e10
                  subst e9; subst e10
                  exact h9
                have HH := Lib.hid hH
                clear hH
                go_wp2_with fail
                refine (specAtomPut_any p0 Av 0 cv (specA p0.data.toList p1.data.toList).2 wr hp0z (HH.out.2.1.keep (fun _ _ _ => rfl) (Nat.zero_le _) (Nat.le_refl _))).mono ?_; rintro e w7 ⟨rfl, hb7⟩
                have X7 := Lib.hid (HX.out.below hb7); have Y7 := Lib.hid (HY.out.below hb7); have HB7 := Lib.hid (belowThen HB.out hb7)
                have HH7 := Lib.hid (HH.out.keep (w' := w7) (lo' := w2.heap.size) (hi' := w7.heap.size) (fun b _ h2 => hb7.block b h2) (Nat.le_refl _) hb7.size)
                have r0 := X7.out.cell 0; have r1 := X7.out.cell 1
                have f0 := X7.out.frozen 0; have f1 := X7.out.frozen 1
                have a0 := Y7.out.cell 0; have a1 := Y7.out.cell 1
                have x7l := X7.out.lt
                clear hb7
                by_cases hput : putB (p0, (specA p0.data.toList p1.data.toList).2) = s.data.toList
                · have E := Lib.hid (spec_yes HC.out (by omega) (fun e => h1 (size_nil e)) (by rw [spec_at]; exact hput))
                  have hpb : (putB (p0, (specA p0.data.toList p1.data.toList).2) == s.toList) = true := by rw [toList_data, hput]; exact beq_self_eq_true _
                  clear hput
                  go_wp2_with fail
                  have Z := (X7.out.set 0 (.string p0)).set 1 (.slice Av 0 cv)
                  have z0 := Z.cell 0; have z1 := Z.cell 1
                  refine bodyPost_ret (v := .tuple #[rfVal (p0, Av, 0, cv, (specA p0.data.toList p1.data.toList).2), .bool true]) (by simp [results, Tryd.results10, go_sem, r0, r1, rfVal]) rfl ⟨(p0, Av, 0, cv, (specA p0.data.toList p1.data.toList).2), by rw [E.out]; rfl, ?_, by rw [E.out]; exact spec_at.symm, (HB7.out.setCell (by simp) _).setCell (by simp) _⟩
                  exact HH7.out.keep (fun b h1 h2 => (Below.heap_setCell _ _ _ _ (by simp; omega)).trans (Below.heap_setCell _ _ _ _ (by simp; omega))) (by omega) (by simp)
                · have E := Lib.hid (spec_no (l := s.data.toList) HC.out (by rw [spec_at]; exact hput))
                  have hpb : (putB (p0, (specA p0.data.toList p1.data.toList).2) == s.toList) = false := by rw [toList_data, beq_eq_false_iff_ne]; exact hput
                  clear hput
                  go_wp2_with fail
                  have Z := (X7.out.set 0 (.string ⟨#[]⟩)).set 1 (.slice none 0 0)
                  have z0 := Z.cell 0; have z1 := Z.cell 1
                  refine bodyPost_ret (v := .tuple #[rfVal noRf, .bool false]) (by simp [results, Tryd.results10, go_sem, r0, r1, rfVal, noRf]) rfl ⟨noRf, by rw [E.out]; rfl, noRf_apart, by rw [E.out]; rfl, (HB7.out.setCell (by simp) _).setCell (by simp) _⟩
              · have hie2 : (!inner.toList.isEmpty) = true := by rw [nonempty_of hie]; rfl
                obtain ⟨q', s5, hq', hlo, hhi, hg, hE⟩ := HT3.out.at_ hlt
                injection hq' with hq'
                subst hq'
                have c5 : wr.cell? (q2.add k) = some (.string s5) := by have := hE; unfold TextE at this; rwa [Nat.mul_one] at this
                have hs5 : s5.size ≤ maxLen := Nat.le_trans (HWZ.out s5 (List.mem_of_getElem? hg)) (by decide)
                have HG := Lib.hid hg; clear hg hE
                have hlo2 : ∀ g, (Value.slice Av k cv).ownBlock = some g → w2.heap.size ≤ g := fun g hg => (HR.out.lt g hg).1
                have hyl := HY.out.lt
                go_wp2_with fail
                go_region_law (first
                  | (refine step_append_lies _ (by rfl) _ _ _ (by rfl) w2.heap.size 62 i0 _ 2 24 Tryd.underlying22 hi hz hsz hby rfl (by omega) (.slice Av k cv) k (tcs (wordTs (ws.take k))) (by rfl) (HR4.out.alloc _) ⟨w4.heap.size, 0, none⟩ 1 1 [.bool (argOf s5.data.toList).1, .string s5] (by rfl) (by rfl) (World.news_of_block (cs := #[.bool (argOf s5.data.toList).1, .string s5]) (t := 62) (fr := (0, 0)) (heap_alloc_new w4 _)) (by simp [Value.oneCell']) (by omega) (by unfold maxLen; omega) (by omega) (by simp; omega) (w4.heap.size + 1) (by simp) ?_; intro gg cap w6 hown6 hgrow hat hlt6; have Y6 := (Y4.out.alloc (.cells #[.bool (argOf s5.data.toList).1, .string s5] 62)).kept hgrow (fun e => (by have := hlo2 _ e.symm; omega)); have z3 : w6.cell? ⟨w1.heap.size, 1, none⟩ = some (.slice Av k cv) := Y6.cell 1; have z5 := Y6.frozen 1)
                  | ((go_simp; go_at_call 50; refine (l1Arg_any s5 _ hs5).mono ?_); rintro e w4 ⟨rfl, hb4'⟩; have hb4 : Below wr.heap.size wr w4 := undrew hb4'; clear hb4'; have Y4 := Lib.hid (HY.out.below hb4); have yy3 := Y4.out.cell 1; have cu3 := cellUp (show w4.cell? ⟨w1.heap.size, 1, none⟩ = some (.slice Av k cv) from yy3); have HR4 := Lib.hid (ownsRow_up HR.out hb4); have hs4 := hb4.size))
                all_goals
                  have hgg := (hown6.lt gg rfl).1
                  have hgs : wr.heap.size + 1 ≤ w6.heap.size := by have := hgrow.size; simp at this; omega
                  have X6 := ((HX.out.below hb4).alloc (.cells #[.bool (argOf s5.data.toList).1, .string s5] 62)).kept (W' := w6) hgrow (fun e => by have := hlo2 _ e.symm; omega)
                  have hset := grownSet w6 w1.heap.size 1 (.slice (some ⟨gg, 0, none⟩) (k + 1) cap)
                  have A1 := Lib.hid (show Blk (w6.setCell ⟨w1.heap.size, 1, none⟩ (.slice (some ⟨gg, 0, none⟩) (k + 1) cap)) w1.heap.size 24 #[.string p0, .slice (some ⟨gg, 0, none⟩) (k + 1) cap] from Y6.set 1 _)
                  have A2 := Lib.hid (X6.far (p := ⟨w1.heap.size, 1, none⟩) (by simp; omega) (.slice (some ⟨gg, 0, none⟩) (k + 1) cap))
                  have A3 : Hid ((w6.setCell ⟨w1.heap.size, 1, none⟩ (.slice (some ⟨gg, 0, none⟩) (k + 1) cap)).ownsRow w2.heap.size 62 2 (.slice (some ⟨gg, 0, none⟩) (k + 1) cap) (k + 1) (tcs (wordTs (ws.take (k + 1))))) := Lib.hid (by rw [wordTs_step HG.out]; exact row_away hown6 (fun e => by simp [Value.ownBlock] at e; omega) _)
                  have hlow : ∀ b, b < w2.heap.size → b ≠ w1.heap.size → (w6.setCell ⟨w1.heap.size, 1, none⟩ (.slice (some ⟨gg, 0, none⟩) (k + 1) cap)).heap[b]? = wr.heap[b]? := by
                    intro b hb1 hb2
                    have e1 := Below.heap_setCell w6 ⟨w1.heap.size, 1, none⟩ (.slice (some ⟨gg, 0, none⟩) (k + 1) cap) b (by simpa using hb2)
                    have e2 := hgrow.block b (by simp; omega) (fun e => by have := hlo2 _ e.symm; omega)
                    have e3 := (below1 w4 (.cells #[.bool (argOf s5.data.toList).1, .string s5] 62)).block b (by omega)
                    have e4 := hb4.block b (by omega)
                    exact e1.trans (e2.trans (e3.trans e4))
                  have A4 := Lib.hid (HT3.out.keep (w' := w6.setCell ⟨w1.heap.size, 1, none⟩ (.slice (some ⟨gg, 0, none⟩) (k + 1) cap)) TextE.stays (fun q h1 h2 => World.cell?_of_block (hlow q.block h2 (by omega))) (Nat.le_refl _) (Nat.le_refl _))
                  have A5 := Lib.hid (((belowThen HB.out hb4).alloc (belowThen HB.out hb4).size (.cells #[.bool (argOf s5.data.toList).1, .string s5] 62)).grown hgrow (by have := (belowThen HB.out hb4).size; simp; omega) (fun g hg => by have := hlo2 g hg; omega) |>.setCell (p := ⟨w1.heap.size, 1, none⟩) (by simp; omega) (.slice (some ⟨gg, 0, none⟩) (k + 1) cap))
                  have A6 : w2.heap.size ≤ (w6.setCell ⟨w1.heap.size, 1, none⟩ (.slice (some ⟨gg, 0, none⟩) (k + 1) cap)).heap.size := by rw [size_setCell]; omega
                  clear hown6 hgrow hat Y6 z3 z5 X6 hset hb4 Y4 yy3 cu3 HR4 hlow
                  go_wp2
                  go_roundw
                  case rel => exact ⟨k + 1, _, by omega, fun e => absurd e hie, by go_num, A1.out, A2.out, A3.out, A4.out, A5.out, A6⟩
                  case measure => simp [intOf]; omega
            · have hltI : ¬ (k : Int) < (ws.length : Int) := by omega
              have hkw : k = ws.length := by omega
              have hie : ¬ inner.size = 0 := fun e => by have := hk0 e; omega
              have hH : HeadApart wr w2.heap.size wr.heap.size (p0, Av, k, cv, (specA p0.data.toList p1.data.toList).2) := by
                have e0 : (specA p0.data.toList p1.data.toList).2 = wordTs ws := by rw [spec_terms HIN.out HQ.out]; unfold termsOf; rw [if_neg (fun e => hie (size_nil e)), ← HWS.out, wordTs_cuts]
                rw [e0]
                have hr := HR.out
                rw [List.take_of_length_le (by omega)] at hr
                obtain ⟨A9, c9, e9, h9⟩ := head_row (s := p0) hr (by unfold wordTs; rw [List.length_map]; omega) (fun t ht => by
                  unfold wordTs at ht
                  obtain ⟨x, hx, rfl⟩ := List.mem_map.1 ht
                  rw [argOf_eq]
                  exact Nat.le_trans (HWZ.out x hx) (by decide)) hp0z
                injection e9 with e9 _ e10
                subst e9; subst e10
                exact h9
              clear hkw
              have HH := Lib.hid hH
              clear hH
              go_wp2_with fail
              refine (specAtomPut_any p0 Av k cv (specA p0.data.toList p1.data.toList).2 wr hp0z (HH.out.2.1.keep (fun _ _ _ => rfl) (Nat.zero_le _) (Nat.le_refl _))).mono ?_; rintro e w7 ⟨rfl, hb7⟩
              have X7 := Lib.hid (HX.out.below hb7); have Y7 := Lib.hid (HY.out.below hb7); have HB7 := Lib.hid (belowThen HB.out hb7)
              have HH7 := Lib.hid (HH.out.keep (w' := w7) (lo' := w2.heap.size) (hi' := w7.heap.size) (fun b _ h2 => hb7.block b h2) (Nat.le_refl _) hb7.size)
              have r0 := X7.out.cell 0; have r1 := X7.out.cell 1
              have f0 := X7.out.frozen 0; have f1 := X7.out.frozen 1
              have a0 := Y7.out.cell 0; have a1 := Y7.out.cell 1
              have x7l := X7.out.lt
              clear hb7
              by_cases hput : putB (p0, (specA p0.data.toList p1.data.toList).2) = s.data.toList
              · have E := Lib.hid (spec_yes HC.out (by omega) (fun e => h1 (size_nil e)) (by rw [spec_at]; exact hput))
                have hpb : (putB (p0, (specA p0.data.toList p1.data.toList).2) == s.toList) = true := by rw [toList_data, hput]; exact beq_self_eq_true _
                clear hput
                go_wp2_with fail
                have Z := (X7.out.set 0 (.string p0)).set 1 (.slice Av k cv)
                have z0 := Z.cell 0; have z1 := Z.cell 1
                refine bodyPost_ret (v := .tuple #[rfVal (p0, Av, k, cv, (specA p0.data.toList p1.data.toList).2), .bool true]) (by simp [results, Tryd.results10, go_sem, r0, r1, rfVal]) rfl ⟨(p0, Av, k, cv, (specA p0.data.toList p1.data.toList).2), by rw [E.out]; rfl, ?_, by rw [E.out]; exact spec_at.symm, (HB7.out.setCell (by simp) _).setCell (by simp) _⟩
                exact HH7.out.keep (fun b h1 h2 => (Below.heap_setCell _ _ _ _ (by simp; omega)).trans (Below.heap_setCell _ _ _ _ (by simp; omega))) (by omega) (by simp)
              · have E := Lib.hid (spec_no (l := s.data.toList) HC.out (by rw [spec_at]; exact hput))
                have hpb : (putB (p0, (specA p0.data.toList p1.data.toList).2) == s.toList) = false := by rw [toList_data, beq_eq_false_iff_ne]; exact hput
                clear hput
                go_wp2_with fail
                have Z := (X7.out.set 0 (.string ⟨#[]⟩)).set 1 (.slice none 0 0)
                have z0 := Z.cell 0; have z1 := Z.cell 1
                refine bodyPost_ret (v := .tuple #[rfVal noRf, .bool false]) (by simp [results, Tryd.results10, go_sem, r0, r1, rfVal, noRf]) rfl ⟨noRf, by rw [E.out]; rfl, noRf_apart, by rw [E.out]; rfl, (HB7.out.setCell (by simp) _).setCell (by simp) _⟩
    · have hlenI : 1500 < (s.size : Int) := by omega
      have E := Lib.hid (getB_long (l := s.data.toList) (by omega))
      go_wp2_with fail
      have Z := (HX1.out.set 0 (.string ⟨#[]⟩)).set 1 (.slice none 0 0)
      have z0 := Z.cell 0; have z1 := Z.cell 1
      refine bodyPost_ret (v := .tuple #[rfVal noRf, .bool false]) (by simp [results, Tryd.results10, go_sem, r0, r1, rfVal, noRf]) rfl ⟨noRf, by rw [E.out]; rfl, noRf_apart, by rw [E.out]; rfl, (HB1.out.setCell (by simp) _).setCell (by simp) _⟩
  · have hp2 : ((ps.length : Int) == 2) = false := by rw [beq_eq_false_iff_ne]; omega
    have E := Lib.hid (spec_count (l := s.data.toList) (by rw [hpl]; exact h2))
    go_wp2
    have Z := (HX1.out.set 0 (.string ⟨#[]⟩)).set 1 (.slice none 0 0)
    have z0 := Z.cell 0; have z1 := Z.cell 1
    refine bodyPost_ret (v := .tuple #[rfVal noRf, .bool false]) (by simp [results, Tryd.results10, go_sem, r0, r1, rfVal, noRf]) rfl ⟨noRf, by rw [E.out]; rfl, noRf_apart, by rw [E.out]; rfl, (HB1.out.setCell (by simp) _).setCell (by simp) _⟩

end Go.Proofs.YtahkkelahocplaaDoor

namespace Go.Proofs.YtahkkelahocplaaDoor
open Go.RowKit

/-- The library's bound on what it looks for is laid. -/
def MaxIn (w : World) : Prop := ∃ m : Int, w.cell? ⟨0, 0, none⟩ = some (.int .i64 m)

theorem MaxIn.below {w w' : World} (h : MaxIn w) (hb : Below w.heap.size w w') : MaxIn w' := by
  obtain ⟨m, hm⟩ := h
  exact ⟨m, (hb.cell (World.block_lt_of_cell? _ _ hm)).trans hm⟩

theorem byteOne (c : UInt8) : (⟨#[c]⟩ : ByteArray).data.toList = [c] := rfl

/-- strings.Split at a byte. -/
theorem split_any (s : ByteArray) (c : UInt8) (w : World) (hs : s.size ≤ 1048576) (hm : MaxIn w) :
    Calls Tryd.prog 95 #[.string s, .string ⟨#[c]⟩] w fun e w' => e = .returned (.slice (some ⟨w.heap.size, 0, none⟩) (cutsB c s).length (cutsB c s).length) ∧ w' = w.alloc (.cells ((cutsB c s).map Value.string).toArray 9) := by
  obtain ⟨m, hm⟩ := hm
  have h := Tryd.strings_Split s ⟨#[c]⟩ m w (by omega) hm (Nat.le_refl 1)
  have e : Lib.splitB ⟨#[c]⟩ 0 (Lib.countB s ⟨#[c]⟩) s = cutsB c s := by
    have h1 := Lib.splitB_data ⟨#[c]⟩ 0 (Lib.countB s ⟨#[c]⟩) s
    have h2 : Lib.splitK [c] 0 (Lib.countB s ⟨#[c]⟩) s.data.toList = cuts c s.data.toList := split_cuts c s.data.toList
    rw [byteOne, h2, ← cutsB_data] at h1
    have inj : ∀ xs ys : List ByteArray, xs.map (fun x => x.data.toList) = ys.map (fun x => x.data.toList) → xs = ys := by
      intro xs
      induction xs with
      | nil => intro ys h; cases ys with
        | nil => rfl
        | cons y r => cases h
      | cons x xs ih => intro ys h; cases ys with
        | nil => cases h
        | cons y r =>
          simp only [List.map_cons, List.cons.injEq] at h
          have e1 : x = y := by
            obtain ⟨⟨x⟩⟩ := x; obtain ⟨⟨y⟩⟩ := y
            have := h.1
            simp at this
            subst this; rfl
          rw [e1, ih r h.2]
    exact inj _ _ h1
  have e2 : (cutsB c s).length = Lib.countB s ⟨#[c]⟩ + 1 := by rw [← e]; exact Lib.splitB_all ⟨#[c]⟩ (Nat.le_refl 1) 0 _ s rfl
  rw [e] at h
  rw [e2]
  exact h

/-- The cells of the pieces. -/
theorem pieces_at (w : World) (ls : List ByteArray) (t : TypeId) (k : Nat) (s : ByteArray) (h : ls[k]? = some s) : (w.alloc (.cells (ls.map Value.string).toArray t)).cell? ⟨w.heap.size, k, none⟩ = some (.string s) := by
  have X := Blk.new w t (ls.map Value.string).toArray
  rw [X.cell k]
  simp [h]

theorem rowLow {w : World} {b b' sz n : Nat} {e : TypeId} {v : Value} {xs : List Value} (h : w.ownsRow b e sz v n xs) (hb : b' ≤ b) : w.ownsRow b' e sz v n xs := by
  refine ⟨h.1, ?_⟩
  rcases h.2 with h0 | ⟨g, cap, cur, h1, h2, h3⟩
  · exact .inl h0
  · exact .inr ⟨g, cap, cur, h1, Nat.le_trans hb h2, h3⟩

/-- Terms were told, in a row of the call's own. -/
def TermsGetPost (l : List UInt8) (w : World) (e : Ending) (w' : World) : Prop :=
  ∃ A n c, e = .returned (.slice A n c) ∧ w'.ownsRow w.heap.size 62 2 (.slice A n c) n (tcs (termsOf l)) ∧ (termsOf l).length = n ∧ Below w.heap.size w w'

set_option maxRecDepth 100000 in
set_option maxHeartbeats 4000000 in
theorem termsGet_any (s : ByteArray) (w : World) (hs : s.size ≤ 1048576) (hm : MaxIn w) :
    Calls Tryd.prog 53 #[.string s] w (TermsGetPost s.data.toList w) := by
  obtain ⟨i0, hi, hz, hsz, hby⟩ := info_parts Tryd.infoTerm
  by_cases h0 : s.size = 0
  · have hie : s.toList.isEmpty = true := empty_of h0
    have e0 : termsOf s.data.toList = [] := by unfold termsOf; rw [if_pos (nil_of h0)]
    have E := Lib.hid e0; clear e0
    go_enter Tryd.func53, Tryd.ntmps53
    go_wp2_with fail
    go_ret
    exact ⟨none, 0, 0, rfl, ⟨by rw [E.out]; rfl, .inl ⟨rfl, rfl⟩⟩, by rw [E.out]; rfl, Below.refl _ _⟩
  · have hie : s.toList.isEmpty = false := nonempty_of h0
    obtain ⟨ws, hws⟩ : ∃ x, cutsB 44 s = x := ⟨_, rfl⟩
    have hwl : ws.length ≤ s.size + 1 := by rw [← hws]; exact cutsB_len 44 s
    have hwz : ∀ x ∈ ws, x.size ≤ 1048576 := fun x hx => Nat.le_trans (cutsB_size (c := 44) (s := s) (by rw [hws]; exact hx)) hs
    have E := Lib.hid (show termsOf s.data.toList = wordTs ws by unfold termsOf; rw [if_neg (fun e => h0 (size_nil e)), ← hws, wordTs_cuts])
    have HWS := Lib.hid hws; have HWZ := Lib.hid hwz
    clear hws hwz
    go_enter Tryd.func53, Tryd.ntmps53
    go_wp2_with fail
    refine (split_any s 44 w hs hm).mono ?_; rintro e w1 ⟨rfl, hw1⟩
    rw [HWS.out] at hw1 ⊢
    have hb1 : Below w.heap.size w w1 := by rw [hw1]; exact below1 _ _
    have HP := Lib.hid (fun (k : Nat) (x : ByteArray) (h : ws[k]? = some x) => (show w1.cell? ⟨w.heap.size, k, none⟩ = some (.string x) by rw [hw1]; exact pieces_at w ws _ k x h))
    have hz1 : w1.heap.size = w.heap.size + 1 := by rw [hw1]; simp
    clear hw1
    go_wp2_with fail
    go_loopw [3, 5, 11] (fun o _ i wr => ∃ (k : Nat) (Av : Option Addr) (cv : Nat), k ≤ ws.length ∧ i = .int .i64 (k : Int) ∧ o = .slice Av k cv ∧ wr.ownsRow w1.heap.size 62 2 (.slice Av k cv) k (tcs (wordTs (ws.take k))) ∧ Below w1.heap.size w1 wr) (fun _ _ i _ => ws.length - (intOf i).toNat)
    case atStart => exact ⟨0, none, 0, Nat.zero_le _, rfl, rfl, ⟨rfl, .inl ⟨rfl, rfl⟩⟩, Below.refl _ _⟩
    case round =>
      obtain ⟨k, Av, cv, hk, rfl, rfl, hrow, hb⟩ := hrel
      have HR := Lib.hid hrow; clear hrow
      have hzr := hb.size
      by_cases hlt : k < ws.length
      · have hltI : (k : Int) < (ws.length : Int) := by omega
        obtain ⟨s5, hg⟩ : ∃ x, ws[k]? = some x := ⟨ws[k], List.getElem?_eq_getElem hlt⟩
        have c5 : wr.cell? ⟨w.heap.size, k, none⟩ = some (.string s5) := (hb.cell (p := ⟨w.heap.size, k, none⟩) (by show w.heap.size < w1.heap.size; omega)).trans (HP.out k s5 hg)
        have hs5 : s5.size ≤ 1048576 := HWZ.out s5 (List.mem_of_getElem? hg)
        have HG := Lib.hid hg; clear hg
        by_cases h5 : s5.size = 0
        · have hi5 : s5.toList.isEmpty = true := empty_of h5
          have E5 := Lib.hid (arg_none h5)
          go_wp2_with (first
              | (go_at_call 96; refine (capital_any _ _).mono ?_; rintro e w' ⟨rfl, rfl⟩)
              | (at_builtin; refine wpList_append_own _ rfl _ _ 22 rfl w1.heap.size 62 i0 _ 2 24 Tryd.underlying22 hi hz hsz hby rfl (by decide) _ _ _ rfl (HR.out.alloc _) ⟨wr.heap.size, 0, none⟩ 1 1 [.bool false, .string s5] rfl rfl (two_new _ _ _ _) (by simp [Value.oneCell']) (by unfold maxLen; omega) (by omega) (by simp; omega) ?_; intro v' w5 hown' hgrow' _; obtain ⟨g', cap', rfl⟩ := ownsRow_succ hown'; have hown := Lib.hid hown'; have hgrow := Lib.hid hgrow'; clear hown' hgrow'))
          have HR5 : Hid (w5.ownsRow w1.heap.size 62 2 (.slice (some ⟨g', 0, none⟩) (k + 1) cap') (k + 1) (tcs (wordTs (ws.take (k + 1))))) := Lib.hid (by rw [wordTs_step HG.out, E5.out]; exact hown.out)
          have hb5 := Lib.hid (cutRow hb HR.out hgrow.out)
          clear hown hgrow HR hb
          go_roundw
          case rel => exact ⟨k + 1, _, _, by omega, by go_num, rfl, HR5.out, hb5.out⟩
          case measure => simp [intOf]; omega
        · have hi5 : s5.toList.isEmpty = false := nonempty_of h5
          have h5p : 0 < s5.size := by omega
          have h5i : (0 : Int) < (s5.size : Int) := by omega
          have E5 := Lib.hid (arg_first h5p)
          go_wp2_with (first
              | (go_at_call 96; refine (capital_any _ _).mono ?_; rintro e w' ⟨rfl, rfl⟩)
              | (at_builtin; refine wpList_append_own _ rfl _ _ 22 rfl w1.heap.size 62 i0 _ 2 24 Tryd.underlying22 hi hz hsz hby rfl (by decide) _ _ _ rfl (HR.out.alloc _) ⟨wr.heap.size, 0, none⟩ 1 1 [.bool (capital s5[0]), .string s5] rfl rfl (two_new _ _ _ _) (by simp [Value.oneCell']) (by unfold maxLen; omega) (by omega) (by simp; omega) ?_; intro v' w5 hown' hgrow' _; obtain ⟨g', cap', rfl⟩ := ownsRow_succ hown'; have hown := Lib.hid hown'; have hgrow := Lib.hid hgrow'; clear hown' hgrow'))
          have HR5 : Hid (w5.ownsRow w1.heap.size 62 2 (.slice (some ⟨g', 0, none⟩) (k + 1) cap') (k + 1) (tcs (wordTs (ws.take (k + 1))))) := Lib.hid (by rw [wordTs_step HG.out, E5.out]; exact hown.out)
          have hb5 := Lib.hid (cutRow hb HR.out hgrow.out)
          clear hown hgrow HR hb
          go_roundw
          case rel => exact ⟨k + 1, _, _, by omega, by go_num, rfl, HR5.out, hb5.out⟩
          case measure => simp [intOf]; omega
      · have hkw : k = ws.length := by omega
        have hltI : ¬ (k : Int) < (ws.length : Int) := by omega
        have hr : wr.ownsRow w.heap.size 62 2 (.slice Av k cv) k (tcs (termsOf s.data.toList)) := by
          have h := HR.out
          rw [List.take_of_length_le (by omega)] at h
          rw [E.out]
          exact rowLow h (by omega)
        have HF := Lib.hid hr
        have HL := Lib.hid (show (termsOf s.data.toList).length = k by rw [E.out]; unfold wordTs; rw [List.length_map]; omega)
        clear hr hkw
        go_wp2_with fail
        go_ret
        exact ⟨Av, k, cv, rfl, HF.out, HL.out, hb1.trans (hb.mono hb1.size)⟩

theorem cut_sizes {l x r : List UInt8} {f : Bool} {c : UInt8} (h : Lib.cut l [c] = (x, r, f)) : x.length ≤ l.length ∧ r.length ≤ l.length := by
  rcases first_of c l with hn | ⟨y, z, rfl, hy⟩
  · rw [cut_none hn] at h
    injection h with h1 h2
    injection h2 with h2
    subst h1; subst h2
    exact ⟨Nat.le_refl _, Nat.zero_le _⟩
  · rw [cut_first hy] at h
    injection h with h1 h2
    injection h2 with h2
    subst h1; subst h2
    constructor <;> (rw [List.length_append, List.length_cons]; omega)

theorem trim_size (r : List UInt8) (c : UInt8) : (Lib.trimSuffix r [c]).length ≤ r.length := by
  unfold Lib.trimSuffix
  split
  · rw [List.length_take]; omega
  · exact Nat.le_refl _

theorem mk_data (l : List UInt8) : (⟨l.toArray⟩ : ByteArray).data.toList = l := by simp
theorem mk_size (l : List UInt8) : (⟨l.toArray⟩ : ByteArray).size = l.length := by simp [ByteArray.size]

theorem termsOf_size {l : List UInt8} {t : Tm} (h : t ∈ termsOf l) : t.2.size ≤ l.length := by
  unfold termsOf at h
  split at h
  · cases h
  · obtain ⟨x, hx, rfl⟩ := List.mem_map.1 h
    have := cuts_size hx
    unfold argOf
    rw [mk_size]; exact this

set_option maxRecDepth 100000 in
set_option maxHeartbeats 4000000 in
theorem implAtomGet_any (s : ByteArray) (w : World) (hs : s.size ≤ 1048576) (hm : MaxIn w) :
    Calls Tryd.prog 11 #[.string s] w (GetPost s.data.toList w) := by
  have hsl : s.data.toList.length = s.size := by simp
  have hb0 := below1 w (.cells #[.string ⟨#[]⟩, .slice none 0 0] 24)
  have X0 := Lib.hid (Blk.new w 24 #[.string ⟨#[]⟩, .slice none 0 0])
  obtain ⟨W0, hW0⟩ : ∃ W0, w.alloc (.cells #[.string ⟨#[]⟩, .slice none 0 0] 24) = W0 := ⟨_, rfl⟩
  rw [hW0] at hb0 X0
  have hz0 : W0.heap.size = w.heap.size + 1 := by rw [← hW0]; simp
  have HB0 := Lib.hid hb0
  have hm0 := hm.below hb0
  clear hb0
  by_cases hlen : s.size ≤ 1500
  · have hlenI : ¬ (1500 < (s.size : Int)) := by omega
    obtain ⟨x, r, f, hc⟩ : ∃ x r f, Lib.cut s.data.toList [40] = (x, r, f) := ⟨_, _, _, rfl⟩
    obtain ⟨hxs, hrs⟩ := cut_sizes hc
    obtain ⟨y, hy⟩ : ∃ y, Lib.trimSuffix r [41] = y := ⟨_, rfl⟩
    obtain ⟨g, hg⟩ : ∃ g, Lib.hasSuffix r [41] = g := ⟨_, rfl⟩
    have hys : y.length ≤ r.length := by rw [← hy]; exact trim_size r 41
    have HA := Lib.hid (show readA s.data.toList = (⟨x.toArray⟩, termsOf y) by unfold readA; rw [hc]; show (_, termsOf (Lib.trimSuffix r [41])) = _; rw [hy])
    have HO := Lib.hid (show readOk s.data.toList = (f && (g && atomB (⟨x.toArray⟩, termsOf y))) by unfold readOk; rw [HA.out, hc]; show (f && (Lib.hasSuffix r [41] && _)) = _; rw [hg])
    obtain ⟨nm, hnm⟩ : ∃ nm : ByteArray, (⟨x.toArray⟩ : ByteArray) = nm := ⟨_, rfl⟩
    have hnz : nm.size ≤ 1500 := by rw [← hnm, mk_size]; omega
    have hnz' : nm.size ≤ maxLen := by unfold maxLen; omega
    rw [hnm] at HA HO
    have HN := Lib.hid hnm; have HC := Lib.hid hc; have HY := Lib.hid hy; have HG := Lib.hid hg
    clear hnm hc hy hg
    go_enter Tryd.func11, Tryd.ntmps11
    go_wp2_with fail
    obtain ⟨mx, hmx⟩ := hm0
    refine (Tryd.strings_Cut s ⟨#[40]⟩ mx W0 (by omega) hmx).mono ?_; rintro e w1 ⟨rfl, n1, hw1⟩
    rw [byteOne, HC.out]
    show _
    have hb1 : Below W0.heap.size W0 w1 := by rw [hw1]; exact ⟨rfl, rfl, rfl, Nat.le_refl _, fun _ _ => rfl⟩
    have hm1 : MaxIn w1 := MaxIn.below ⟨mx, hmx⟩ hb1
    have X1 := Lib.hid (X0.out.below hb1); have HB1 := Lib.hid (belowThen HB0.out hb1)
    clear hw1 hmx
    have hz1 := hb1.size
    clear hb1
    go_wp2_with fail
    refine (Tryd.strings_CutSuffix ⟨r.toArray⟩ ⟨#[41]⟩ w1 (by rw [mk_size]; omega)).mono ?_; rintro e w' ⟨rfl, hw'⟩
    rw [hw']
    clear hw'
    rw [byteOne, mk_data, HY.out, HG.out]
    go_wp2_with fail
    refine (termsGet_any ⟨y.toArray⟩ w1 (by rw [mk_size]; omega) hm1).mono ?_; rintro e w2 ⟨A, n, c, rfl, hrow, hl, hb2⟩
    rw [mk_data] at hrow hl
    have HR := Lib.hid hrow; have HL := Lib.hid hl
    have X2 := Lib.hid (X1.out.below hb2); have HB2 := Lib.hid (belowThen HB1.out hb2)
    have hz2 := hb2.size
    clear hb2 hrow hl
    rw [HN.out]
    have hYA := below1 w2 (.cells #[.string nm, .slice A n c] 24)
    have Y3 := Lib.hid (Blk.new w2 24 #[.string nm, .slice A n c])
    have X3 := Lib.hid (X2.out.below hYA); have HB3 := Lib.hid (belowThen HB2.out hYA)
    have HR3 := Lib.hid (ownsRow_up HR.out hYA)
    clear hYA
    have hwl := X2.out.lt
    have r0 := X2.out.cell 0; have r1 := X2.out.cell 1
    have f0 := X2.out.frozen 0; have f1 := X2.out.frozen 1
    have hne : w.heap.size ≠ w2.heap.size := by omega
    cases f
    · have E := Lib.hid (getB_no (l := s.data.toList) (by rw [HO.out]; rfl))
      go_wp2_with fail
      have Z := ((X2.out.set 0 (.string ⟨#[]⟩)).set 1 (.slice none 0 0)).alloc (.cells #[.string nm, .slice A n c] 24)
      have z0 := Z.cell 0; have z1 := Z.cell 1
      simp at z0 z1
      refine bodyPost_ret (v := .tuple #[rfVal noRf, .bool false]) (by simp [results, Tryd.results11, go_sem, z0, z1, rfVal, noRf]) rfl ⟨noRf, by rw [E.out]; rfl, noRf_apart, by rw [E.out]; rfl, ((HB2.out.setCell (by simp) _).setCell (by simp) _).alloc (by simp; omega) _⟩
    · cases g
      · have E := Lib.hid (getB_no (l := s.data.toList) (by rw [HO.out]; rfl))
        go_wp2_with fail
        have Z := ((X2.out.set 0 (.string ⟨#[]⟩)).set 1 (.slice none 0 0)).alloc (.cells #[.string nm, .slice A n c] 24)
        have z0 := Z.cell 0; have z1 := Z.cell 1
        simp at z0 z1
        refine bodyPost_ret (v := .tuple #[rfVal noRf, .bool false]) (by simp [results, Tryd.results11, go_sem, z0, z1, rfVal, noRf]) rfl ⟨noRf, by rw [E.out]; rfl, noRf_apart, by rw [E.out]; rfl, ((HB2.out.setCell (by simp) _).setCell (by simp) _).alloc (by simp; omega) _⟩
      · obtain ⟨A9, c9, e9, hH⟩ := head_row (s := nm) HR3.out HL.out (fun t ht => Nat.le_trans (termsOf_size ht) (by unfold maxLen; omega)) hnz'
        injection e9 with e9 _ e10
        subst e9; subst e10
        have HH := Lib.hid hH
        clear hH
        go_wp2_with fail
        refine (implAtomOk_any nm A n c (termsOf y) _ hnz' (HH.out.2.1.keep (fun _ _ _ => rfl) (Nat.zero_le _) (Nat.le_refl _))).mono ?_; rintro e w4 ⟨rfl, hb4⟩
        have X4 := Lib.hid (X3.out.below hb4); have Y4 := Lib.hid (Y3.out.below hb4); have HB4 := Lib.hid (belowThen HB3.out hb4)
        have HH4 := Lib.hid (HH.out.keep (w' := w4) (lo' := w1.heap.size) (hi' := w4.heap.size) (fun b _ h2 => hb4.block b h2) (Nat.le_refl _) hb4.size)
        clear hb4 r0 r1 f0 f1
        have r0 := X4.out.cell 0; have r1 := X4.out.cell 1
        have f0 := X4.out.frozen 0; have f1 := X4.out.frozen 1
        have a0 := Y4.out.cell 0; have a1 := Y4.out.cell 1
        have x4l := X4.out.lt
        cases hb : atomB (nm, termsOf y)
        · have E := Lib.hid (getB_no (l := s.data.toList) (by rw [HO.out, hb]; rfl))
          clear hb
          go_wp2_with fail
          refine bodyPost_ret (v := .tuple #[rfVal noRf, .bool false]) (by simp [results, Tryd.results11, go_sem, r0, r1, rfVal, noRf]) rfl ⟨noRf, by rw [E.out]; rfl, noRf_apart, by rw [E.out]; rfl, (HB4.out.setCell (by simp) _).setCell (by simp) _⟩
        · have E := Lib.hid (getB_yes (l := s.data.toList) (by omega) (by rw [HO.out, hb]; rfl))
          have EA := Lib.hid HA.out
          clear hb
          go_wp2_with fail
          have Z := (X4.out.set 0 (.string nm)).set 1 (.slice A n c)
          have z0 := Z.cell 0; have z1 := Z.cell 1
          refine bodyPost_ret (v := .tuple #[rfVal (nm, A, n, c, termsOf y), .bool true]) (by simp [results, Tryd.results11, go_sem, r0, r1, rfVal]) rfl ⟨(nm, A, n, c, termsOf y), by rw [E.out]; rfl, ?_, by rw [E.out, EA.out]; rfl, (HB4.out.setCell (by simp) _).setCell (by simp) _⟩
          exact HH4.out.keep (fun b h1 h2 => (Below.heap_setCell _ _ _ _ (by simp; omega)).trans (Below.heap_setCell _ _ _ _ (by simp; omega))) (by omega) (by simp)
  · have hlenI : 1500 < (s.size : Int) := by omega
    have E := Lib.hid (getB_long (l := s.data.toList) (by omega))
    go_enter Tryd.func11, Tryd.ntmps11
    have r0 := X0.out.cell 0; have r1 := X0.out.cell 1
    have f0 := X0.out.frozen 0; have f1 := X0.out.frozen 1
    have hxl := X0.out.lt
    go_wp2_with fail
    refine bodyPost_ret (v := .tuple #[rfVal noRf, .bool false]) (by simp [results, Tryd.results11, go_sem, r0, r1, rfVal, noRf]) rfl ⟨noRf, by rw [E.out]; rfl, noRf_apart, by rw [E.out]; rfl, (HB0.out.setCell (by simp) _).setCell (by simp) _⟩

end Go.Proofs.YtahkkelahocplaaDoor
