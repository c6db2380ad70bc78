/-
  Texts that are cut at a byte; what is read of a text as an atom: the model's way and the program's tell the same.
-/
import Derived.Test.YtahkkelahocplaaDoorPut2
import Derived.Lib.SplitLaws
import Derived.Lib.Strings
namespace Go.Proofs.YtahkkelahocplaaDoor

/-- One byte more of a text that is cut at each byte c: what is cut off, and what is begun. -/
def cutStep (c : UInt8) (s : List (List UInt8) × List UInt8) (b : UInt8) : List (List UInt8) × List UInt8 := if b = c then (s.1 ++ [s.2], []) else (s.1, s.2 ++ [b])
/-- A text cut at each byte c, from the left. -/
def cutRun (c : UInt8) (l : List UInt8) : List (List UInt8) × List UInt8 := l.foldl (cutStep c) ([], [])
/-- The pieces of a text cut at each byte c. -/
def cuts (c : UInt8) (l : List UInt8) : List (List UInt8) := (cutRun c l).1 ++ [(cutRun c l).2]

/-- The same from the right: the first piece, and the others. -/
def cutL (c : UInt8) : List UInt8 → List UInt8 × List (List UInt8)
  | [] => ([], [])
  | b :: l => if b = c then ([], (cutL c l).1 :: (cutL c l).2) else (b :: (cutL c l).1, (cutL c l).2)

theorem cutRun_take (c : UInt8) (l : List UInt8) (k : Nat) (b : UInt8) (h : l[k]? = some b) : cutRun c (l.take (k + 1)) = cutStep c (cutRun c (l.take k)) b := by
  unfold cutRun
  rw [List.take_add_one, h, List.foldl_append]; rfl

theorem cut_fold (c : UInt8) : ∀ (l : List UInt8) (o : List (List UInt8)) (cur : List UInt8), (l.foldl (cutStep c) (o, cur)).1 ++ [(l.foldl (cutStep c) (o, cur)).2] = o ++ (cur ++ (cutL c l).1) :: (cutL c l).2
  | [], o, cur => by simp [cutL]
  | b :: l, o, cur => by
    rw [List.foldl_cons]
    by_cases h : b = c
    · have e : cutStep c (o, cur) b = (o ++ [cur], []) := by unfold cutStep; rw [if_pos h]
      have e2 : cutL c (b :: l) = ([], (cutL c l).1 :: (cutL c l).2) := by rw [cutL, if_pos h]
      rw [e, cut_fold c l, e2]; simp
    · have e : cutStep c (o, cur) b = (o, cur ++ [b]) := by unfold cutStep; rw [if_neg h]
      have e2 : cutL c (b :: l) = (b :: (cutL c l).1, (cutL c l).2) := by rw [cutL, if_neg h]
      rw [e, cut_fold c l, e2]; simp

theorem cuts_eq (c : UInt8) (l : List UInt8) : cuts c l = (cutL c l).1 :: (cutL c l).2 := by
  have := cut_fold c l [] []
  unfold cuts cutRun
  rw [this]; simp

theorem joinTail_cons (sep x : List UInt8) (r : List (List UInt8)) : Lib.joinTail sep (x :: r) = sep ++ x ++ Lib.joinTail sep r := by simp [Lib.joinTail]

theorem cutL_join (c : UInt8) : ∀ l : List UInt8, (cutL c l).1 ++ Lib.joinTail [c] (cutL c l).2 = l
  | [] => by simp [cutL, Lib.joinTail]
  | b :: l => by
    have ih := cutL_join c l
    by_cases h : b = c
    · rw [cutL, if_pos h, joinTail_cons, h]
      simp only [List.nil_append, List.append_assoc]
      rw [ih]; rfl
    · rw [cutL, if_neg h, List.cons_append, ih]

/-- The pieces joined are the text. -/
theorem cuts_join (c : UInt8) (l : List UInt8) : Lib.join (cuts c l) [c] = l := by rw [cuts_eq, Lib.join_cons]; exact cutL_join c l

theorem cutL_none (c : UInt8) : ∀ x : List UInt8, c ∉ x → cutL c x = (x, [])
  | [], _ => rfl
  | b :: x, h => by
    have hb : ¬ b = c := fun e => h (by simp [e])
    rw [cutL, if_neg hb, cutL_none c x (fun hm => h (by simp [hm]))]

theorem cutL_first (c : UInt8) : ∀ (x r : List UInt8), c ∉ x → cutL c (x ++ c :: r) = (x, (cutL c r).1 :: (cutL c r).2)
  | [], r, _ => by show cutL c (c :: r) = _; rw [cutL, if_pos rfl]
  | b :: x, r, h => by
    have hb : ¬ b = c := fun e => h (by simp [e])
    show cutL c (b :: (x ++ c :: r)) = _
    rw [cutL, if_neg hb, cutL_first c x r (fun hm => h (by simp [hm]))]

theorem cuts_none {c : UInt8} {x : List UInt8} (h : c ∉ x) : cuts c x = [x] := by rw [cuts_eq, cutL_none c x h]
theorem cuts_first {c : UInt8} {x r : List UInt8} (h : c ∉ x) : cuts c (x ++ c :: r) = x :: cuts c r := by rw [cuts_eq, cutL_first c x r h, cuts_eq]

/-- A text holds a byte first here, or not at all. -/
theorem first_of (c : UInt8) (l : List UInt8) : c ∉ l ∨ ∃ x r, l = x ++ c :: r ∧ c ∉ x := by
  by_cases h : c ∈ l
  · obtain ⟨x, r, e, hx⟩ := List.eq_append_cons_of_mem h
    exact .inr ⟨x, r, e, hx⟩
  · exact .inl h

theorem cutL_len (c : UInt8) : ∀ l : List UInt8, (cutL c l).2.length ≤ l.length
  | [] => Nat.le_refl _
  | b :: l => by
    have ih := cutL_len c l
    by_cases h : b = c
    · rw [cutL, if_pos h]
      show ((cutL c l).1 :: (cutL c l).2).length ≤ (b :: l).length
      rw [List.length_cons, List.length_cons]; omega
    · rw [cutL, if_neg h]
      show (cutL c l).2.length ≤ (b :: l).length
      rw [List.length_cons]; omega

theorem cuts_len (c : UInt8) (l : List UInt8) : (cuts c l).length ≤ l.length + 1 := by
  have := cutL_len c l
  rw [cuts_eq, List.length_cons]; omega

theorem cutL_size (c : UInt8) : ∀ l : List UInt8, (cutL c l).1.length ≤ l.length ∧ ∀ y ∈ (cutL c l).2, y.length ≤ l.length
  | [] => ⟨Nat.le_refl _, fun y hy => by cases hy⟩
  | b :: l => by
    have ih := cutL_size c l
    by_cases h : b = c
    · rw [cutL, if_pos h]
      refine ⟨Nat.zero_le _, fun y hy => ?_⟩
      rw [List.length_cons]
      rcases List.mem_cons.1 hy with rfl | hy
      · have := ih.1; omega
      · have := ih.2 y hy; omega
    · rw [cutL, if_neg h]
      refine ⟨?_, fun y hy => ?_⟩
      · show (b :: (cutL c l).1).length ≤ _
        rw [List.length_cons, List.length_cons]; have := ih.1; omega
      · have := ih.2 y hy
        rw [List.length_cons]; omega

theorem cuts_size {c : UInt8} {l x : List UInt8} (h : x ∈ cuts c l) : x.length ≤ l.length := by
  rw [cuts_eq] at h
  have := cutL_size c l
  rcases List.mem_cons.1 h with rfl | h
  · exact this.1
  · exact this.2 x h

theorem index_one_none {c : UInt8} {l : List UInt8} (h : c ∉ l) : Lib.index l [c] = -1 := by
  refine Lib.index_none fun j hj => ?_
  unfold Lib.occAt
  rw [Bool.eq_false_iff]
  intro hp
  cases hd : l.drop j with
  | nil => rw [hd] at hp; simp at hp
  | cons b t =>
    rw [hd] at hp
    have : c = b := by simpa using hp
    subst this
    have : c ∈ l.drop j := by rw [hd]; simp
    exact h (List.mem_of_mem_drop this)

theorem index_one_first {c : UInt8} {x r : List UInt8} (h : c ∉ x) : Lib.index (x ++ c :: r) [c] = x.length := by
  refine Lib.index_first (by simp) ?_ fun j hj => ?_
  · unfold Lib.occAt; rw [List.drop_left]; simp
  · unfold Lib.occAt
    rw [Bool.eq_false_iff]
    intro hp
    have hd : (x ++ c :: r).drop j = x[j] :: (x.drop (j + 1) ++ c :: r) := by
      rw [List.drop_append_of_le_length (by omega), List.drop_eq_getElem_cons hj]; rfl
    rw [hd] at hp
    generalize x.drop (j + 1) ++ c :: r = q at hp
    have : c = x[j] := by simpa [List.isPrefixOf] using hp
    exact h (by rw [this]; exact List.getElem_mem hj)

theorem cut_none {c : UInt8} {l : List UInt8} (h : c ∉ l) : Lib.cut l [c] = (l, [], false) := by
  unfold Lib.cut; rw [index_one_none h, if_neg (by decide)]
theorem cut_first {c : UInt8} {x r : List UInt8} (h : c ∉ x) : Lib.cut (x ++ c :: r) [c] = (x, r, true) := by
  unfold Lib.cut
  rw [index_one_first h, if_pos (by omega)]
  simp

/-- strings.Split at a byte tells the pieces. -/
theorem split_cuts (c : UInt8) (l : List UInt8) : Lib.splitK [c] 0 (Lib.count l [c]) l = cuts c l := by
  rw [Lib.count_one]
  obtain ⟨k, hk⟩ : ∃ k, l.count c = k := ⟨_, rfl⟩
  rw [hk]
  induction k generalizing l with
  | zero =>
    have h : c ∉ l := List.count_eq_zero.1 hk
    rw [cuts_none h]; rfl
  | succ k ih =>
    rcases first_of c l with h | ⟨x, r, rfl, hx⟩
    · rw [List.count_eq_zero.2 h] at hk; omega
    · have hr : r.count c = k := by
        rw [List.count_append, List.count_eq_zero.2 hx, List.count_cons_self] at hk; omega
      rw [Lib.splitK, index_one_first hx, cuts_first hx, if_neg (by rw [beq_iff_eq]; omega)]
      have e : ((x.length : Int)).toNat = x.length := by omega
      rw [e, Nat.add_zero, List.take_left, ← ih r hr]
      congr 2
      rw [← List.drop_drop, List.drop_left]; rfl

/-- A word as a term. -/
def argOf (l : List UInt8) : Tm := ((match l with | [] => false | c :: _ => capital c), ⟨l.toArray⟩)
/-- Words between commas as terms. -/
def termsOf (l : List UInt8) : List Tm := if l = [] then [] else (cuts 44 l).map argOf

theorem argOf_name (l : List UInt8) : (argOf l).2.data.toList = l := by unfold argOf; simp
theorem termsOf_names (l : List UInt8) : Lib.join (tmNames (termsOf l)) [44] = l := by
  unfold termsOf
  by_cases h : l = []
  · subst h; rfl
  · rw [if_neg h]
    have : tmNames ((cuts 44 l).map argOf) = cuts 44 l := by
      unfold tmNames
      rw [List.map_map]
      conv => rhs; rw [← List.map_id (cuts 44 l)]
      exact List.map_congr_left fun x _ => argOf_name x
    rw [this, cuts_join]

/-- What the program reads, be it an atom or not. -/
def readA (l : List UInt8) : At := (⟨(Lib.cut l [40]).1.toArray⟩, termsOf (Lib.trimSuffix (Lib.cut l [40]).2.1 [41]))
def readOk (l : List UInt8) : Bool := (Lib.cut l [40]).2.2 && (Lib.hasSuffix (Lib.cut l [40]).2.1 [41] && atomB (readA l))
/-- The atom that a text is, if it is one. -/
def getB (l : List UInt8) : Option At := if l.length ≤ 1500 ∧ readOk l = true then some (readA l) else none

theorem getB_long {l : List UInt8} (h : 1500 < l.length) : getB l = none := by unfold getB; rw [if_neg (fun e => by omega)]
theorem getB_no {l : List UInt8} (h : readOk l = false) : getB l = none := by unfold getB; rw [if_neg (fun e => by rw [h] at e; cases e.2)]
theorem getB_yes {l : List UInt8} (h1 : l.length ≤ 1500) (h : readOk l = true) : getB l = some (readA l) := by unfold getB; rw [if_pos ⟨h1, h⟩]

theorem suffix_one {c : UInt8} {l : List UInt8} (h : Lib.hasSuffix l [c] = true) : ∃ x, l = x ++ [c] ∧ Lib.trimSuffix l [c] = x := by
  have h1 := h
  unfold Lib.hasSuffix at h1
  rw [List.isSuffixOf_iff_suffix] at h1
  obtain ⟨x, e⟩ := h1
  refine ⟨x, e.symm, ?_⟩
  unfold Lib.trimSuffix
  rw [if_pos h, ← e]
  simp

theorem has_suffix_one (c : UInt8) (x : List UInt8) : Lib.hasSuffix (x ++ [c]) [c] = true := by
  unfold Lib.hasSuffix
  rw [List.isSuffixOf_iff_suffix]
  exact List.suffix_append x [c]

/-- A byte of a name or of a variable. -/
def plainC (c : UInt8) : Prop := okByte c = true ∨ capital c = true

theorem name_plain {l : List UInt8} (h : nameB l = true) {c : UInt8} (hc : c ∈ l) : okByte c = true := by
  unfold nameB letters small at h
  simp only [Bool.and_eq_true] at h
  exact List.all_eq_true.1 h.1.1 c hc

theorem term_plain {t : Tm} (h : termB t = true) {c : UInt8} (hc : c ∈ t.2.data.toList) : plainC c := by
  unfold termB at h
  split at h
  · unfold varB at h
    split at h
    · rename_i e; rw [e] at hc; cases hc
    · rename_i b r e
      rw [e] at hc
      simp only [Bool.and_eq_true] at h
      rcases List.mem_cons.1 hc with rfl | hc
      · exact .inr h.1.1
      · exact .inl (List.all_eq_true.1 h.1.2 c hc)
  · exact .inl (name_plain h hc)

theorem not_plain {c : UInt8} (h : c = 40 ∨ c = 41 ∨ c = 44 ∨ c = 32) : ¬ plainC c := by
  unfold plainC
  rcases h with rfl | rfl | rfl | rfl <;> decide

theorem mem_join {c d : UInt8} {xs : List (List UInt8)} (h : c ∈ Lib.join xs [d]) : c = d ∨ ∃ x ∈ xs, c ∈ x := by
  cases xs with
  | nil => rw [Lib.join_nil] at h; cases h
  | cons x r =>
    rw [Lib.join_cons] at h
    rcases List.mem_append.1 h with h | h
    · exact .inr ⟨x, by simp, h⟩
    · unfold Lib.joinTail at h
      obtain ⟨y, hy, hc⟩ := List.mem_flatten.1 h
      obtain ⟨z, hz, rfl⟩ := List.mem_map.1 hy
      rcases List.mem_append.1 hc with hc | hc
      · exact .inl (by simpa using hc)
      · exact .inr ⟨z, by simp [hz], hc⟩

theorem atom_parts {a : At} (h : atomB a = true) : nameB a.1.data.toList = true ∧ (∀ t ∈ a.2, termB t = true) ∧ a.2.length ≤ 3 := by
  unfold atomB argsB at h
  simp only [Bool.and_eq_true, decide_eq_true_eq] at h
  exact ⟨h.2.1, List.all_eq_true.1 h.1, h.2.2⟩

theorem names_plain {a : At} (h : atomB a = true) {c : UInt8} (hc : c ∈ Lib.join (tmNames a.2) [44]) : c = 44 ∨ plainC c := by
  rcases mem_join hc with rfl | ⟨x, hx, hc⟩
  · exact .inl rfl
  · unfold tmNames at hx
    obtain ⟨t, ht, rfl⟩ := List.mem_map.1 hx
    exact .inr (term_plain ((atom_parts h).2.1 t ht) hc)

/-- The bytes of an atom's text. -/
theorem text_plain {a : At} (h : atomB a = true) {c : UInt8} (hc : c ∈ textL a) : c = 40 ∨ c = 41 ∨ c = 44 ∨ plainC c := by
  unfold textL at hc
  simp only [List.mem_append, List.mem_cons, List.not_mem_nil, or_false] at hc
  rcases hc with ((hc | rfl) | hc) | rfl
  · exact .inr (.inr (.inr (.inl (name_plain (atom_parts h).1 hc))))
  · exact .inl rfl
  · rcases names_plain h hc with rfl | hc
    · exact .inr (.inr (.inl rfl))
    · exact .inr (.inr (.inr hc))
  · exact .inr (.inl rfl)

theorem text_no_blank {a : At} (h : atomB a = true) : (32 : UInt8) ∉ textL a := by
  intro hc
  rcases text_plain h hc with e | e | e | e
  · cases e
  · cases e
  · cases e
  · exact not_plain (.inr (.inr (.inr rfl))) e

/-- What it means that the program reads an atom. -/
theorem read_ok {l : List UInt8} (h : readOk l = true) : ∃ x y, l = x ++ 40 :: (y ++ [41]) ∧ (40 : UInt8) ∉ x ∧ (40 : UInt8) ∉ y ∧ readA l = (⟨x.toArray⟩, termsOf y) ∧ atomB (readA l) = true ∧ textL (readA l) = l := by
  unfold readOk at h
  simp only [Bool.and_eq_true] at h
  obtain ⟨h1, h2, h3⟩ := h
  rcases first_of 40 l with hn | ⟨x, r, hl, hx⟩
  · rw [cut_none hn] at h1; cases h1
  · have hcut := cut_first (r := r) hx
    rw [← hl] at hcut
    rw [hcut] at h2
    obtain ⟨y, hr0, ht⟩ := suffix_one h2
    have hr : r = y ++ [41] := hr0
    have hA : readA l = (⟨x.toArray⟩, termsOf y) := by unfold readA; rw [hcut]; show (_, termsOf (Lib.trimSuffix r [41])) = _; rw [ht]
    have hT : textL (readA l) = l := by
      rw [hA]
      unfold textL
      rw [termsOf_names, hl, hr]
      simp
    refine ⟨x, y, by rw [hl, hr], hx, fun hm => ?_, hA, h3, hT⟩
    have := names_plain h3 (c := 40) (by rw [hA]; show _ ∈ Lib.join (tmNames (termsOf y)) [44]; rw [termsOf_names]; exact hm)
    rcases this with e | e
    · cases e
    · exact not_plain (.inl rfl) e

theorem cuts_two {l p0 p1 : List UInt8} {c : UInt8} (h : cuts c l = [p0, p1]) : l = p0 ++ c :: p1 ∧ c ∉ p0 ∧ c ∉ p1 := by
  rcases first_of c l with hn | ⟨x, r, rfl, hx⟩
  · rw [cuts_none hn] at h; cases h
  · rw [cuts_first hx] at h
    injection h with h0 h1
    subst h0
    rcases first_of c r with hn | ⟨x', r', rfl, hx'⟩
    · rw [cuts_none hn] at h1
      injection h1 with h1
      subst h1
      exact ⟨rfl, hx, hn⟩
    · rw [cuts_first hx', cuts_eq] at h1
      injection h1 with _ h1
      cases h1

/-- What the model reads. -/
def specA (p0 p1 : List UInt8) : At := (⟨p0.toArray⟩, termsOf (p1.take (p1.length - 1)))

theorem read_spec {l : List UInt8} (h : readOk l = true) : ∃ p0 p1, cuts 40 l = [p0, p1] ∧ p1 ≠ [] ∧ readA l = specA p0 p1 ∧ putB (specA p0 p1) = l := by
  obtain ⟨x, y, hl, hx, hy, hA, hB, hT⟩ := read_ok h
  have hA' : readA l = specA x (y ++ [41]) := by
    rw [hA]; unfold specA; simp
  refine ⟨x, y ++ [41], ?_, by simp, hA', ?_⟩
  · rw [hl, cuts_first hx, cuts_none]
    intro hm
    rcases List.mem_append.1 hm with hm | hm
    · exact hy hm
    · cases (List.mem_singleton.1 hm)
  · rw [← hA']; unfold putB; rw [if_pos hB, hT]

theorem spec_yes {l p0 p1 : List UInt8} (hc : cuts 40 l = [p0, p1]) (hl : l.length ≤ 1500) (h1 : p1 ≠ []) (hp : putB (specA p0 p1) = l) : getB l = some (specA p0 p1) := by
  obtain ⟨e, hx, hy⟩ := cuts_two hc
  have hB : atomB (specA p0 p1) = true := by
    cases hb : atomB (specA p0 p1)
    · unfold putB at hp; rw [hb] at hp
      rw [← hp] at e; simp at e
    · rfl
  have hT : textL (specA p0 p1) = l := by unfold putB at hp; rw [if_pos hB] at hp; exact hp
  have hcut := cut_first (r := p1) hx
  rw [← e] at hcut
  obtain ⟨y, b, hyb⟩ : ∃ y b, p1 = y ++ [b] := by
    rcases List.eq_nil_or_concat p1 with h | ⟨y, b, h⟩
    · exact absurd h h1
    · exact ⟨y, b, by rw [h, List.concat_eq_append]⟩
  have hS : specA p0 p1 = (⟨p0.toArray⟩, termsOf y) := by unfold specA; rw [hyb]; simp
  have hb : b = 41 := by
    have h2 := hT
    rw [hS] at h2
    unfold textL at h2
    rw [termsOf_names, e, hyb] at h2
    have h3 : (p0 ++ 40 :: y) ++ [41] = (p0 ++ 40 :: y) ++ [b] := by simpa using h2
    have h4 := List.append_cancel_left h3
    injection h4 with h4
    exact h4.symm
  have hsuf : Lib.hasSuffix p1 [41] = true := by rw [hyb, hb]; exact has_suffix_one 41 y
  obtain ⟨y', hy1, hy2⟩ := suffix_one hsuf
  have hyy : y' = y := by
    rw [hyb, hb] at hy1
    exact (List.append_inj_left' hy1 rfl).symm
  have hA : readA l = specA p0 p1 := by
    rw [hS]; unfold readA; rw [hcut]; show (_, termsOf (Lib.trimSuffix p1 [41])) = _; rw [hy2, hyy]
  have hok : readOk l = true := by
    unfold readOk; rw [hA, hcut, hB]; show (true && (Lib.hasSuffix p1 [41] && true)) = true; rw [hsuf]; rfl
  rw [getB_yes hl hok, hA]

theorem spec_no {l p0 p1 : List UInt8} (hc : cuts 40 l = [p0, p1]) (hp : putB (specA p0 p1) ≠ l) : getB l = none := by
  cases h : readOk l
  · exact getB_no h
  · obtain ⟨q0, q1, hq, _, _, h3⟩ := read_spec h
    rw [hq] at hc
    injection hc with e1 e2
    injection e2 with e2
    subst e1; subst e2
    exact absurd h3 hp

theorem spec_empty {l p0 : List UInt8} (hc : cuts 40 l = [p0, []]) : getB l = none := by
  cases h : readOk l
  · exact getB_no h
  · obtain ⟨q0, q1, hq, h2, _, _⟩ := read_spec h
    rw [hq] at hc
    injection hc with e1 e2
    injection e2 with e2
    exact absurd e2 h2

theorem spec_count {l : List UInt8} (hc : (cuts 40 l).length ≠ 2) : getB l = none := by
  cases h : readOk l
  · exact getB_no h
  · obtain ⟨q0, q1, hq, _, _, _⟩ := read_spec h
    rw [hq] at hc
    exact absurd rfl hc

/-- What was read of a text is an atom, and its text is the text. -/
theorem getB_some {l : List UInt8} {a : At} (h : getB l = some a) : atomB a = true ∧ textL a = l ∧ l.length ≤ 1500 := by
  unfold getB at h
  split at h
  · rename_i hc
    injection h with h
    subst h
    obtain ⟨x, y, _, _, _, _, h3, h4⟩ := read_ok hc.2
    exact ⟨h3, h4, hc.1⟩
  · cases h

end Go.Proofs.YtahkkelahocplaaDoor
