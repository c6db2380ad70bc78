/-
  Texts of one claim, put together.
-/
import Derived.Test.YtogonjkklioaaaaGreatDoorLg21
import Derived.Test.YtogonjkklioaaaaGreatDoorLg20
set_option maxRecDepth 100000
set_option maxHeartbeats 8000000
namespace Go.Proofs.YtogonjkklioaaaaGreatDoor
def zfk (c : UInt8) (s : List (List UInt8) × List UInt8) (b : UInt8) : List (List UInt8) × List UInt8 := if b = c then (s.1 ++ [s.2], []) else (s.1, s.2 ++ [b])
def zpn (c : UInt8) (l : List UInt8) : List (List UInt8) × List UInt8 := l.foldl (zfk c) ([], [])
def zfj (c : UInt8) (l : List UInt8) : List (List UInt8) := (zpn c l).1 ++ [(zpn c l).2]
def zfm (c : UInt8) : List UInt8 → List UInt8 × List (List UInt8)
  | [] => ([], [])
  | b :: l => if b = c then ([], (zfm c l).1 :: (zfm c l).2) else (b :: (zfm c l).1, (zfm c l).2)
theorem zpm (c : UInt8) (l : List UInt8) (k : Nat) (b : UInt8) (h : l[k]? = some b) : zpn c (l.take (k + 1)) = zfk c (zpn c (l.take k)) b := by
  unfold zpn; rw [List.take_add_one, h, List.foldl_append]; rfl
theorem cut_fold (c : UInt8) : ∀ (l : List UInt8) (o : List (List UInt8)) (cur : List UInt8), (l.foldl (zfk c) (o, cur)).1 ++ [(l.foldl (zfk c) (o, cur)).2] = o ++ (cur ++ (zfm c l).1) :: (zfm c l).2
  | [], o, cur => by simp [zfm]
  | b :: l, o, cur => by
    rw [List.foldl_cons]; by_cases h : b = c
    · have e : zfk c (o, cur) b = (o ++ [cur], []) := by unfold zfk; rw [if_pos h]
      have e2 : zfm c (b :: l) = ([], (zfm c l).1 :: (zfm c l).2) := by rw [zfm, if_pos h]
      rw [e, cut_fold c l, e2]; simp
    · have e : zfk c (o, cur) b = (o, cur ++ [b]) := by unfold zfk; rw [if_neg h]
      have e2 : zfm c (b :: l) = (b :: (zfm c l).1, (zfm c l).2) := by rw [zfm, if_neg h]
      rw [e, cut_fold c l, e2]; simp
theorem zfi (c : UInt8) (l : List UInt8) : zfj c l = (zfm c l).1 :: (zfm c l).2 := by
  have := cut_fold c l [] []; unfold zfj zpn; rw [this]; simp
theorem zgf (sep x : List UInt8) (r : List (List UInt8)) : Lib.joinTail sep (x :: r) = sep ++ x ++ Lib.joinTail sep r := by simp [Lib.joinTail]
theorem cutL_join (c : UInt8) : ∀ l : List UInt8, (zfm c l).1 ++ Lib.joinTail [c] (zfm c l).2 = l
  | [] => by simp [zfm, Lib.joinTail]
  | b :: l => by
    have ih := cutL_join c l; by_cases h : b = c
    · rw [zfm, if_pos h, zgf, h]
      simp only [List.nil_append, List.append_assoc]; rw [ih]; rfl
    · rw [zfm, if_neg h, List.cons_append, ih]
theorem cuts_join (c : UInt8) (l : List UInt8) : Lib.join (zfj c l) [c] = l := by rw [zfi, Lib.join_cons]; exact cutL_join c l
theorem cutL_none (c : UInt8) : ∀ x : List UInt8, c ∉ x → zfm c x = (x, [])
  | [], _ => rfl
  | b :: x, h => by
    have hb : ¬ b = c := fun e => h (by simp [e]); rw [zfm, if_neg hb, cutL_none c x (fun hm => h (by simp [hm]))]
theorem cutL_first (c : UInt8) : ∀ (x r : List UInt8), c ∉ x → zfm c (x ++ c :: r) = (x, (zfm c r).1 :: (zfm c r).2)
  | [], r, _ => by show zfm c (c :: r) = _; rw [zfm, if_pos rfl]
  | b :: x, r, h => by
    have hb : ¬ b = c := fun e => h (by simp [e]); show zfm c (b :: (x ++ c :: r)) = _; rw [zfm, if_neg hb, cutL_first c x r (fun hm => h (by simp [hm]))]
theorem zdf {c : UInt8} {x : List UInt8} (h : c ∉ x) : zfj c x = [x] := by rw [zfi, cutL_none c x h]
theorem zbw {c : UInt8} {x r : List UInt8} (h : c ∉ x) : zfj c (x ++ c :: r) = x :: zfj c r := by rw [zfi, cutL_first c x r h, zfi]
theorem zez (c : UInt8) (l : List UInt8) : c ∉ l ∨ ∃ x r, l = x ++ c :: r ∧ c ∉ x := by
  by_cases h : c ∈ l
  · obtain ⟨x, r, e, hx⟩ := List.eq_append_cons_of_mem h
    exact .inr ⟨x, r, e, hx⟩
  · exact .inl h
theorem cutL_len (c : UInt8) : ∀ l : List UInt8, (zfm c l).2.length ≤ l.length
  | [] => nl _
  | b :: l => by
    have ih := cutL_len c l; by_cases h : b = c
    · rw [zfm, if_pos h]
      show ((zfm c l).1 :: (zfm c l).2).length ≤ (b :: l).length; rw [List.length_cons, List.length_cons]; omega
    · rw [zfm, if_neg h]
      show (zfm c l).2.length ≤ (b :: l).length; rw [List.length_cons]; omega
theorem cuts_len (c : UInt8) (l : List UInt8) : (zfj c l).length ≤ l.length + 1 := by
  have := cutL_len c l; rw [zfi, List.length_cons]; omega
theorem cutL_size (c : UInt8) : ∀ l : List UInt8, (zfm c l).1.length ≤ l.length ∧ ∀ y ∈ (zfm c l).2, y.length ≤ l.length
  | [] => ⟨nl _, fun y hy => by cases hy⟩
  | b :: l => by
    have ih := cutL_size c l; by_cases h : b = c
    · rw [zfm, if_pos h]
      refine ⟨Nat.zero_le _, fun y hy => ?_⟩; rw [List.length_cons]; rcases List.mem_cons.1 hy with rfl | hy
      · have := ih.1; omega
      · have := ih.2 y hy; omega
    · rw [zfm, if_neg h]
      refine ⟨?_, fun y hy => ?_⟩
      · show (b :: (zfm c l).1).length ≤ _
        rw [List.length_cons, List.length_cons]; have := ih.1; omega
      · have := ih.2 y hy
        rw [List.length_cons]; omega
theorem cuts_size {c : UInt8} {l x : List UInt8} (h : x ∈ zfj c l) : x.length ≤ l.length := by
  rw [zfi] at h; have := cutL_size c l; rcases List.mem_cons.1 h with rfl | h
  · exact this.1
  · exact this.2 x h
theorem index_one_none {c : UInt8} {l : List UInt8} (h : c ∉ l) : Lib.index l [c] = -1 := by
  refine Lib.index_none fun j hj => ?_; unfold Lib.occAt; rw [Bool.eq_false_iff]; intro hp
  cases hd : l.drop j with
  | nil => rw [hd] at hp; simp at hp
  | cons b t =>
    rw [hd] at hp; have : c = b := by simpa using hp
    subst this; have : c ∈ l.drop j := by rw [hd]; simp
    exact h (List.mem_of_mem_drop this)
theorem zhf {c : UInt8} {x r : List UInt8} (h : c ∉ x) : Lib.index (x ++ c :: r) [c] = x.length := by
  refine Lib.index_first qag ?_ fun j hj => ?_
  · unfold Lib.occAt; rw [List.drop_left]; simp
  · unfold Lib.occAt
    rw [Bool.eq_false_iff]; intro hp
    have hd : (x ++ c :: r).drop j = x[j] :: (x.drop (j + 1) ++ c :: r) := by
      rw [List.drop_append_of_le_length qaa, List.drop_eq_getElem_cons hj]; rfl
    rw [hd] at hp; generalize x.drop (j + 1) ++ c :: r = q at hp; have : c = x[j] := by simpa [List.isPrefixOf] using hp
    exact h (by rw [this]; exact List.getElem_mem hj)
theorem cut_none {c : UInt8} {l : List UInt8} (h : c ∉ l) : Lib.cut l [c] = (l, [], false) := by
  unfold Lib.cut; rw [index_one_none h, if_neg qan]
theorem zhm {c : UInt8} {x r : List UInt8} (h : c ∉ x) : Lib.cut (x ++ c :: r) [c] = (x, r, true) := by
  unfold Lib.cut; rw [zhf h, if_pos qaa]; simp
theorem split_cuts (c : UInt8) (l : List UInt8) : Lib.splitK [c] 0 (Lib.count l [c]) l = zfj c l := by
  rw [Lib.count_one]; obtain ⟨k, hk⟩ : ∃ k, l.count c = k := ⟨_, rfl⟩; rw [hk]
  induction k generalizing l with
  | zero =>
    have h : c ∉ l := List.count_eq_zero.1 hk
    rw [zdf h]; rfl
  | succ k ih =>
    rcases zez c l with h | ⟨x, r, rfl, hx⟩
    · rw [List.count_eq_zero.2 h] at hk; omega
    · have hr : r.count c = k := by
        rw [List.count_append, List.count_eq_zero.2 hx, List.count_cons_self] at hk; omega
      rw [Lib.splitK, zhf hx, zbw hx, if_neg (by rw [beq_iff_eq]; omega)]; have e : ((x.length : Int)).toNat = x.length := qaa; rw [e, Nat.add_zero, List.take_left, ← ih r hr]; congr 2; rw [← List.drop_drop, List.drop_left]; rfl
def zel (l : List UInt8) : Tm := ((match l with | [] => false | c :: _ => zco c), ⟨l.toArray⟩)
def zaz (l : List UInt8) : List Tm := if l = [] then [] else (zfj 44 l).map zel
theorem argOf_name (l : List UInt8) : (zel l).2.data.toList = l := by unfold zel; simp
theorem zfz (l : List UInt8) : Lib.join (zak (zaz l)) [44] = l := by
  unfold zaz; by_cases h : l = []
  · subst h; rfl
  · rw [if_neg h]
    have : zak ((zfj 44 l).map zel) = zfj 44 l := by
      unfold zak; rw [List.map_map]
      conv => rhs; rw [← List.map_id (zfj 44 l)]
      exact List.map_congr_left fun x _ => argOf_name x
    rw [this, cuts_join]
def zgy (l : List UInt8) : At := (⟨(Lib.cut l [40]).1.toArray⟩, zaz (Lib.trimSuffix (Lib.cut l [40]).2.1 [41]))
def zer (l : List UInt8) : Bool := (Lib.cut l [40]).2.2 && (Lib.hasSuffix (Lib.cut l [40]).2.1 [41] && zax (zgy l))
def zjz (l : List UInt8) : Option At := if l.length ≤ 1500 ∧ zer l = true then some (zgy l) else none
theorem getB_long {l : List UInt8} (h : 1500 < l.length) : zjz l = none := by unfold zjz; rw [if_neg qde]
theorem zld {l : List UInt8} (h : zer l = false) : zjz l = none := by unfold zjz; rw [if_neg (fun e => by rw [h] at e; cases e.2)]
theorem getB_yes {l : List UInt8} (h1 : l.length ≤ 1500) (h : zer l = true) : zjz l = some (zgy l) := by unfold zjz; rw [if_pos ⟨h1, h⟩]
theorem zkm {c : UInt8} {l : List UInt8} (h : Lib.hasSuffix l [c] = true) : ∃ x, l = x ++ [c] ∧ Lib.trimSuffix l [c] = x := by
  have h1 := h; unfold Lib.hasSuffix at h1; rw [List.isSuffixOf_iff_suffix] at h1; obtain ⟨x, e⟩ := h1; refine ⟨x, e.symm, ?_⟩; unfold Lib.trimSuffix; rw [if_pos h, ← e]; simp
theorem zfg (c : UInt8) (x : List UInt8) : Lib.hasSuffix (x ++ [c]) [c] = true := by
  unfold Lib.hasSuffix; rw [List.isSuffixOf_iff_suffix]; exact List.suffix_append x [c]
def zod (c : UInt8) : Prop := zgl c = true ∨ zco c = true
theorem zib {l : List UInt8} (h : zij l = true) {c : UInt8} (hc : c ∈ l) : zgl c = true := by
  unfold zij zdn zeq at h; simp only [Bool.and_eq_true] at h; exact List.all_eq_true.1 h.1.1 c hc
theorem term_plain {t : Tm} (h : zgo t = true) {c : UInt8} (hc : c ∈ t.2.data.toList) : zod c := by
  unfold zgo at h; split at h
  · unfold varB at h
    split at h
    · rename_i e; rw [e] at hc; cases hc
    · rename_i b r e
      rw [e] at hc; simp only [Bool.and_eq_true] at h; rcases List.mem_cons.1 hc with rfl | hc
      · exact .inr h.1.1
      · exact .inl (List.all_eq_true.1 h.1.2 c hc)
  · exact .inl (zib h hc)
theorem zjn {c : UInt8} (h : c = 40 ∨ c = 41 ∨ c = 44 ∨ c = 32) : ¬ zod c := by
  unfold zod; rcases h with rfl | rfl | rfl | rfl <;> decide
theorem mem_join {c d : UInt8} {xs : List (List UInt8)} (h : c ∈ Lib.join xs [d]) : c = d ∨ ∃ x ∈ xs, c ∈ x := by
  cases xs with
  | nil => rw [Lib.join_nil] at h; cases h
  | cons x r =>
    rw [Lib.join_cons] at h; rcases List.mem_append.1 h with h | h
    · exact .inr ⟨x, by simp, h⟩
    · unfold Lib.joinTail at h
      obtain ⟨y, hy, hc⟩ := List.mem_flatten.1 h; obtain ⟨z, hz, rfl⟩ := List.mem_map.1 hy; rcases List.mem_append.1 hc with hc | hc
      · exact .inl (by simpa using hc)
      · exact .inr ⟨z, by simp [hz], hc⟩
theorem zln {a : At} (h : zax a = true) : zij a.1.data.toList = true ∧ (∀ t ∈ a.2, zgo t = true) ∧ a.2.length ≤ 3 := by
  unfold zax zlp at h; simp only [Bool.and_eq_true, decide_eq_true_eq] at h; exact ⟨h.2.1, List.all_eq_true.1 h.1, h.2.2⟩
theorem zom {a : At} (h : zax a = true) {c : UInt8} (hc : c ∈ Lib.join (zak a.2) [44]) : c = 44 ∨ zod c := by
  rcases mem_join hc with rfl | ⟨x, hx, hc⟩
  · exact .inl rfl
  · unfold zak at hx
    obtain ⟨t, ht, rfl⟩ := List.mem_map.1 hx; exact .inr (term_plain ((zln h).2.1 t ht) hc)
theorem text_plain {a : At} (h : zax a = true) {c : UInt8} (hc : c ∈ zau a) : c = 40 ∨ c = 41 ∨ c = 44 ∨ zod c := by
  unfold zau at hc; simp only [List.mem_append, List.mem_cons, List.not_mem_nil, or_false] at hc; rcases hc with ((hc | rfl) | hc) | rfl
  · exact .inr (.inr (.inr (.inl (zib (zln h).1 hc))))
  · exact .inl rfl
  · rcases zom h hc with rfl | hc
    · exact .inr (.inr (.inl rfl))
    · exact .inr (.inr (.inr hc))
  · exact .inr (.inl rfl)
theorem zei {a : At} (h : zax a = true) : (32 : UInt8) ∉ zau a := by
  intro hc; rcases text_plain h hc with e | e | e | e
  · cases e
  · cases e
  · cases e
  · exact zjn (.inr (.inr (.inr rfl))) e
theorem read_ok {l : List UInt8} (h : zer l = true) : ∃ x y, l = x ++ 40 :: (y ++ [41]) ∧ (40 : UInt8) ∉ x ∧ (40 : UInt8) ∉ y ∧ zgy l = (⟨x.toArray⟩, zaz y) ∧ zax (zgy l) = true ∧ zau (zgy l) = l := by
  unfold zer at h; simp only [Bool.and_eq_true] at h; obtain ⟨h1, h2, h3⟩ := h; rcases zez 40 l with hn | ⟨x, r, hl, hx⟩
  · rw [cut_none hn] at h1; cases h1
  · have a2 := zhm (r := r) hx
    rw [← hl] at a2; rw [a2] at h2; obtain ⟨y, a3, ht⟩ := zkm h2; have hr : r = y ++ [41] := a3; have hA : zgy l = (⟨x.toArray⟩, zaz y) := by unfold zgy; rw [a2]; show (_, zaz (Lib.trimSuffix r [41])) = _; rw [ht]
    have hT : zau (zgy l) = l := by
      rw [hA]; unfold zau; rw [zfz, hl, hr]; simp
    refine ⟨x, y, by rw [hl, hr], hx, fun hm => ?_, hA, h3, hT⟩; have := zom h3 (c := 40) (by rw [hA]; show _ ∈ Lib.join (zak (zaz y)) [44]; rw [zfz]; exact hm); rcases this with e | e
    · cases e
    · exact zjn (.inl rfl) e
theorem cuts_two {l p0 p1 : List UInt8} {c : UInt8} (h : zfj c l = [p0, p1]) : l = p0 ++ c :: p1 ∧ c ∉ p0 ∧ c ∉ p1 := by
  rcases zez c l with hn | ⟨x, r, rfl, hx⟩
  · rw [zdf hn] at h; cases h
  · rw [zbw hx] at h
    injection h with h0 h1; subst h0; rcases zez c r with hn | ⟨x', r', rfl, hx'⟩
    · rw [zdf hn] at h1
      injection h1 with h1; subst h1; exact ⟨rfl, hx, hn⟩
    · rw [zbw hx', zfi] at h1
      injection h1 with _ h1; cases h1
def zcn (p0 p1 : List UInt8) : At := (⟨p0.toArray⟩, zaz (p1.take (p1.length - 1)))
theorem zoa {l : List UInt8} (h : zer l = true) : ∃ p0 p1, zfj 40 l = [p0, p1] ∧ p1 ≠ [] ∧ zgy l = zcn p0 p1 ∧ zms (zcn p0 p1) = l := by
  obtain ⟨x, y, hl, hx, hy, hA, hB, hT⟩ := read_ok h
  have a2 : zgy l = zcn x (y ++ [41]) := by
    rw [hA]; unfold zcn; simp
  refine ⟨x, y ++ [41], ?_, by simp, a2, ?_⟩
  · rw [hl, zbw hx, zdf]
    intro hm; rcases List.mem_append.1 hm with hm | hm
    · exact hy hm
    · cases (List.mem_singleton.1 hm)
  · rw [← a2]; unfold zms; rw [if_pos hB, hT]
theorem spec_yes {l p0 p1 : List UInt8} (hc : zfj 40 l = [p0, p1]) (hl : l.length ≤ 1500) (h1 : p1 ≠ []) (hp : zms (zcn p0 p1) = l) : zjz l = some (zcn p0 p1) := by
  obtain ⟨e, hx, hy⟩ := cuts_two hc
  have hB : zax (zcn p0 p1) = true := by
    cases hb : zax (zcn p0 p1)
    · unfold zms at hp; rw [hb] at hp
      rw [← hp] at e; simp at e
    · rfl
  have hT : zau (zcn p0 p1) = l := by unfold zms at hp; rw [if_pos hB] at hp; exact hp
  have a2 := zhm (r := p1) hx; rw [← e] at a2
  obtain ⟨y, b, a4⟩ : ∃ y b, p1 = y ++ [b] := by
    rcases List.eq_nil_or_concat p1 with h | ⟨y, b, h⟩
    · exact absurd h h1
    · exact ⟨y, b, by rw [h, List.concat_eq_append]⟩
  have hS : zcn p0 p1 = (⟨p0.toArray⟩, zaz y) := by unfold zcn; rw [a4]; simp
  have hb : b = 41 := by
    have h2 := hT; rw [hS] at h2; unfold zau at h2; rw [zfz, e, a4] at h2; have h3 : (p0 ++ 40 :: y) ++ [41] = (p0 ++ 40 :: y) ++ [b] := by simpa using h2
    have h4 := List.append_cancel_left h3; injection h4 with h4; exact h4.symm
  have a3 : Lib.hasSuffix p1 [41] = true := by rw [a4, hb]; exact zfg 41 y
  obtain ⟨y', a5, a7⟩ := zkm a3
  have hyy : y' = y := by
    rw [a4, hb] at a5; exact (List.append_inj_left' a5 rfl).symm
  have hA : zgy l = zcn p0 p1 := by
    rw [hS]; unfold zgy; rw [a2]; show (_, zaz (Lib.trimSuffix p1 [41])) = _; rw [a7, hyy]
  have a6 : zer l = true := by
    unfold zer; rw [hA, a2, hB]; show (true && (Lib.hasSuffix p1 [41] && true)) = true; rw [a3]; rfl
  rw [getB_yes hl a6, hA]
theorem spec_no {l p0 p1 : List UInt8} (hc : zfj 40 l = [p0, p1]) (hp : zms (zcn p0 p1) ≠ l) : zjz l = none := by
  cases h : zer l
  · exact zld h
  · obtain ⟨q0, q1, hq, _, _, h3⟩ := zoa h
    rw [hq] at hc; injection hc with e1 e2; injection e2 with e2; subst e1; subst e2; exact absurd h3 hp
theorem spec_empty {l p0 : List UInt8} (hc : zfj 40 l = [p0, []]) : zjz l = none := by
  cases h : zer l
  · exact zld h
  · obtain ⟨q0, q1, hq, h2, _, _⟩ := zoa h
    rw [hq] at hc; injection hc with e1 e2; injection e2 with e2; exact absurd e2 h2
theorem spec_count {l : List UInt8} (hc : (zfj 40 l).length ≠ 2) : zjz l = none := by
  cases h : zer l
  · exact zld h
  · obtain ⟨q0, q1, hq, _, _, _⟩ := zoa h
    rw [hq] at hc; exact absurd rfl hc
theorem zjy {l : List UInt8} {a : At} (h : zjz l = some a) : zax a = true ∧ zau a = l ∧ l.length ≤ 1500 := by
  unfold zjz at h; split at h
  · rename_i hc
    injection h with h; subst h; obtain ⟨x, y, _, _, _, _, h3, h4⟩ := read_ok hc.2; exact ⟨h3, h4, hc.1⟩
  · cases h
end Go.Proofs.YtogonjkklioaaaaGreatDoor

namespace Go.Proofs.YtogonjkklioaaaaGreatDoor
open Go.RowKit
def zef (c : UInt8) (s : ByteArray) : List ByteArray := (zfj c s.data.toList).map fun l => ⟨l.toArray⟩
theorem piece_new (W : World) (x : Value) (t : TypeId) : ∀ j u, [x][j]? = some u → (W.alloc (.cells #[x] t)).cell? ((⟨W.heap.size, 0, none⟩ : Addr).add j) = some u := by
  intro j u hu
  match j, hu with
  | 0, hu => simp at hu; subst hu; simp [go_sem, Addr.add]
def CutAt (c : UInt8) (s : ByteArray) (k f : Nat) (os : List ByteArray) : Prop := f ≤ k ∧ k ≤ s.size ∧ os.length ≤ k ∧ zpn c (s.data.toList.take k) = (os.map fun x => x.data.toList, (s.data.toList.take k).drop f)
theorem CutAt.start (c : UInt8) (s : ByteArray) : CutAt c s 0 0 [] := ⟨nl _, Nat.zero_le _, nl _, rfl⟩
theorem CutAt.hit {c : UInt8} {s : ByteArray} {k f : Nat} {os : List ByteArray} (h : CutAt c s k f os) (hk : k < s.size) (hb : s[k] = c) : CutAt c s (k + 1) (k + 1) (os ++ [s.extract f k]) := by
  obtain ⟨h1, h2, h3, h4⟩ := h; refine ⟨nl _, hk, by rw [List.length_append]; simp; omega, ?_⟩; have hg : s.data.toList[k]? = some c := by rw [← hb]; exact List.getElem?_eq_getElem (by simpa using hk)
  rw [zpm c _ k c hg, h4]; unfold zfk; rw [if_pos rfl, List.map_append]
  have e : (s.extract f k).data.toList = (s.data.toList.take k).drop f := by
    rw [Lib.extract_data]; rw [List.drop_take]
  have e2 : (s.data.toList.take (k + 1)).drop (k + 1) = [] := List.drop_eq_nil_of_le qdi; rw [e2, ← e]; rfl
theorem CutAt.on {c : UInt8} {s : ByteArray} {k f : Nat} {os : List ByteArray} (h : CutAt c s k f os) (hk : k < s.size) (hb : s[k] ≠ c) : CutAt c s (k + 1) f os := by
  obtain ⟨h1, h2, h3, h4⟩ := h; refine ⟨by omega, hk, by omega, ?_⟩; have hg : s.data.toList[k]? = some s[k] := List.getElem?_eq_getElem (by simpa using hk); rw [zpm c _ k _ hg, h4]; unfold zfk; rw [if_neg hb]; have hl : k < s.data.toList.length := by simpa using hk
  rw [List.take_succ_eq_append_getElem hl, List.drop_append_of_le_length qdi]; rfl
theorem CutAt.all {c : UInt8} {s : ByteArray} {k f : Nat} {os : List ByteArray} (h : CutAt c s k f os) (hk : ¬ k < s.size) : os ++ [s.extract f s.size] = zef c s := by
  obtain ⟨h1, h2, h3, h4⟩ := h; have hl : s.data.toList.length = s.size := qag; have a2 : k = s.size := qaa; subst a2; rw [List.take_of_length_le qaa] at h4; unfold zef zfj; rw [h4]
  have e : (⟨(s.data.toList.drop f).toArray⟩ : ByteArray) = s.extract f s.size := by
    apply ByteArray.ext; apply Array.toList_inj.1; rw [Lib.extract_to_end]
  have e2 : ((os.map fun x => x.data.toList).map fun l => (⟨l.toArray⟩ : ByteArray)) = os := by
    rw [List.map_map]
    conv => rhs; rw [← List.map_id os]
    exact List.map_congr_left fun x _ => by cases x; rfl
  rw [List.map_append, e2]; simp [e]
theorem zhl (c : UInt8) (s : ByteArray) : (zef c s).length ≤ s.size + 1 := by
  have := cuts_len c s.data.toList; have hl : s.data.toList.length = s.size := qag; unfold zef; rw [List.length_map]; omega
theorem byte_eq {a c : UInt8} (h : ((a.toNat : Int) == (c.toNat : Int)) = true) : a = c := UInt8.toNat_inj.1 (by have := beq_iff_eq.1 h; omega)
theorem byte_ne {a c : UInt8} (h : ((a.toNat : Int) == (c.toNat : Int)) = false) : a ≠ c := fun e => by subst e; simp at h
theorem cutRow {w wr w5 : World} {e : TypeId} {sz n : Nat} {v : Value} {xs : List Value} {o : Obj} (hb : Below w.heap.size w wr) (hr : wr.ownsRow w.heap.size e sz v n xs) (hg : (wr.alloc o).grownBy w5 v.ownBlock) : Below w.heap.size w w5 :=
  (hb.alloc hb.size o).grown hg (by have := hb.size; simp; omega) (fun j ej => (hr.lt j ej).1)
theorem zhe (s : ByteArray) (c : UInt8) (w : World) (hs : s.size ≤ 1048576) :
    Calls Tryz.prog 39 #[.string s, .int .u8 (c.toNat : Int)] w (zqf w.heap.size (zef c s) w) := by
  obtain ⟨i0, hi, hz, hsz, hby⟩ := info_parts Tryz.infoText; go_enter Tryz.func39, Tryz.ntmps39; go_wp2; go_loopw [5, 6, 7] (fun o f i wr => ∃ (k fr : Nat) (os : List ByteArray) (Av : Option Addr) (cv : Nat), f = .int .i64 fr ∧ i = .int .i64 k ∧ o = .slice Av os.length cv ∧ wr.ownsRow w.heap.size 9 1 (.slice Av os.length cv) os.length (tcl os) ∧ CutAt c s k fr os ∧ Below w.heap.size w wr) (fun _ _ i _ => s.size - (intOf i).toNat)
  case atStart => exact ⟨0, 0, [], some ⟨w.heap.size, 0, none⟩, 0, rfl, rfl, rfl, ⟨rfl, .inr ⟨w.heap.size, 0, #[], rfl, nl _, heap_alloc_new w _, nl _, by unfold maxLen; omega, rfl, rfl⟩⟩, CutAt.start c s, zac _ _⟩
  case round =>
    obtain ⟨k, fr, os, Av, cv, rfl, rfl, rfl, a3, hc, hb⟩ := hrel; have HR := hid a3; have hfk := hc.1; have hks := hc.2.1; have hok := hc.2.2.1; have HC := hid hc; clear a3 hc; have hwr := hb.size; by_cases hlt : k < s.size
    · have a7 : (k : Int) < (s.size : Int) := qaa
      have a2 := hid (piece_new wr (.string (s.extract fr k)) 9); go_wp2_with (at_builtin; refine wpList_append_own _ rfl _ _ 71 rfl w.heap.size 9 i0 _ 1 16 Tryz.underlying71 hi hz hsz hby rfl qan _ _ _ rfl (HR.out.alloc _) ⟨wr.heap.size, 0, none⟩ 1 1 [.string (s.extract fr k)] rfl rfl a2.out qal qaf qaa qah ?_; intro v' w5 hown' hgrow' _; obtain ⟨g', cap', rfl⟩ := ownsRow_succ hown'; have hown := hid hown'; have hgrow := hid hgrow'; clear hown' hgrow')
      · have HR5 : Hid (w5.ownsRow w.heap.size 9 1 (.slice (some ⟨g', 0, none⟩) (os.length + 1) cap') (os.length + 1) (tcl (os ++ [s.extract fr k]))) := hid (by unfold tcl; rw [List.map_append]; exact hown.out)
        have hb5 := hid (cutRow hb HR.out hgrow.out); have a4 : s[k] = c := byte_eq qbn; have a5 := hid (HC.out.hit hlt a4); clear hown hgrow HR; go_roundw
        case rel => exact ⟨k + 1, k + 1, os ++ [s.extract fr k], _, cap', by go_num, by go_num, by rw [List.length_append]; rfl, by rw [List.length_append]; exact HR5.out, a5.out, hb5.out⟩
        case measure => exact qms
      · have a4 : s[k] ≠ c := byte_ne qbn
        have a5 := hid (HC.out.on hlt a4); go_roundw
        case rel => exact ⟨k + 1, fr, os, Av, cv, rfl, by go_num, rfl, HR.out, a5.out, hb⟩
        case measure => exact qms
    · have a6 : k = s.size := qaa
      have a2 := hid (piece_new wr (.string (s.extract fr s.size)) 9); go_wp2_with (at_builtin; refine wpList_append_own _ rfl _ _ 71 rfl w.heap.size 9 i0 _ 1 16 Tryz.underlying71 hi hz hsz hby rfl qan _ _ _ rfl (HR.out.alloc _) ⟨wr.heap.size, 0, none⟩ 1 1 [.string (s.extract fr s.size)] rfl rfl a2.out qal qaf qaa qah ?_; intro v' w5 hown' hgrow' _; obtain ⟨g', cap', rfl⟩ := ownsRow_succ hown'; have hown := hid hown'; have hgrow := hid hgrow'; clear hown' hgrow'); have HR5 : Hid (w5.ownsRow w.heap.size 9 1 (.slice (some ⟨g', 0, none⟩) (os.length + 1) cap') (os.length + 1) (tcl (zef c s))) := hid (by rw [← HC.out.all hlt]; unfold tcl; rw [List.map_append]; exact hown.out)
      have hb5 := hid (cutRow hb HR.out hgrow.out); obtain ⟨p, d, e5, hT⟩ := znp HR5.out (Nat.succ_pos _) (nl _); rw [e5]; have HT := hid hT; clear hown hgrow HR hT; go_wp2; go_ret; exact ⟨p, d, rfl, HT.out, hb5.out⟩
theorem zgt (nm : ByteArray) (A : Option Addr) (n c : Nat) (ts : List Tm) (w : World) (hs : nm.size ≤ maxLen) (h : IsTerms w 0 w.heap.size A n c ts) :
    Calls Tryz.prog 70 #[.agg #[.string nm, .slice A n c]] w (zex (zms (nm, ts)) w) := by
  have H := hid h; clear h; have hw0 := zac w (.cells #[.string nm, .slice A n c] 51); have B0 := hid (Box.new w (.string nm) (.slice A n c) 51); go_enter Tryz.func70, Tryz.ntmps70; go_wp2_with fail; refine (zdq _ _ _ _ ts _ hs (H.out.up hw0)).mono ?_; rintro e w1 ⟨rfl, hb1⟩; have HB1 := zaa hw0 hb1; obtain ⟨x1, x2, x3⟩ := B0.out.later hb1; clear hb1; cases hA : zax (nm, ts)
  · have E := hid (show zms (nm, ts) = [] by unfold zms; rw [hA]; rfl); clear hA
    go_wp2; go_ret; exact ⟨by rw [E.out]; rfl, HB1⟩
  · have E := hid (show zms (nm, ts) = zau (nm, ts) by unfold zms; rw [hA]; rfl)
    have hle := zmw hA; clear hA; go_wp2_with fail; refine (zoy _ _ _ _ ts _ (H.out.up HB1) qaa).mono ?_; rintro e w2 ⟨rfl, hb2⟩; go_wp2; go_ret; exact ⟨by rw [E.out]; rfl, zaa HB1 hb2⟩
theorem argOf_eq (s : ByteArray) : zel s.data.toList = ((zel s.data.toList).1, s) := by
  unfold zel; cases s; rfl
theorem arg_first {s : ByteArray} (h : 0 < s.size) : (zel s.data.toList).1 = zco s[0] := by
  rw [first_rest s h]; rfl
theorem arg_none {s : ByteArray} (h : s.size = 0) : (zel s.data.toList).1 = false := by
  have : s.data.toList = [] := List.eq_nil_of_length_eq_zero qbk; rw [this]; rfl
def zdw (ls : List ByteArray) : List Tm := ls.map fun s => zel s.data.toList
theorem zni {ls : List ByteArray} {k : Nat} {s : ByteArray} (h : ls[k]? = some s) : tcs (zdw (ls.take (k + 1))) = tcs (zdw (ls.take k)) ++ [.bool (zel s.data.toList).1, .string s] := by
  unfold zdw tcs; rw [List.take_add_one, h, List.map_append, List.flatMap_append]; show _ = _; rw [show (Option.some s).toList = [s] from rfl, List.map_cons, List.map_nil, argOf_eq s]; rfl
theorem znj (c : UInt8) (s : ByteArray) : zdw (zef c s) = (zfj c s.data.toList).map zel := by
  unfold zdw zef; rw [List.map_map]; exact List.map_congr_left fun x _ => by simp
theorem l1Arg_any (s : ByteArray) (w : World) (hs : s.size ≤ maxLen) :
    Calls Tryz.prog 69 #[.string s] w fun e w' => e = .returned (.agg #[.bool (zel s.data.toList).1, .string s]) ∧ Below w.heap.size w w' := by
  have hs' := hs; unfold maxLen at hs'; have X := Blk.new w 110 #[.bool false, .string ⟨#[]⟩]; by_cases hp : 0 < s.size
  · have hlt : (0 : Int) < (s.size : Int) := qaa
    have E := hid (arg_first hp); go_enter Tryz.func69, Tryz.ntmps69; go_wp2_with fail
    all_goals
      refine bodyPost_ret (v := .agg #[.bool (zel s.data.toList).1, .string s]) ?_ rfl ⟨rfl, zac _ _⟩; rw [E.out]; unfold zco
      simp_all [results, Tryz.results69, go_sem]
      try omega
  · have h0 : s.size = 0 := qaa
    have E := hid (arg_none h0); go_enter Tryz.func69, Tryz.ntmps69; go_wp2_with fail; refine bodyPost_ret (v := .agg #[.bool (zel s.data.toList).1, .string s]) ?_ rfl ⟨rfl, zac _ _⟩; rw [E.out]; simp [results, Tryz.results69, go_sem]
def noRf : Rf := (⟨#[]⟩, none, 0, 0, [])
theorem zeo {w : World} {lo hi : Nat} : HeadApart w lo hi noRf := ⟨Nat.zero_le _, ⟨rfl, nl _, Nat.zero_le _, fun h0 => absurd h0 (Nat.lt_irrefl _)⟩, fun h0 => absurd h0 (Nat.lt_irrefl _)⟩
def zfc (r : Rf) : Value := .agg #[.string r.1, .slice r.2.1 r.2.2.1 r.2.2.2.1]
def GetPost (l : List UInt8) (w : World) (e : Ending) (w' : World) : Prop :=
  ∃ r : Rf, e = .returned (.tuple #[zfc r, .bool (zjz l).isSome]) ∧ HeadApart w' w.heap.size w'.heap.size r ∧ rAt r = (zjz l).getD (⟨#[]⟩, []) ∧ Below w.heap.size w w'
theorem head_row {w : World} {base n : Nat} {v : Value} {s : ByteArray} {ts : List Tm} (h : w.ownsRow base 110 2 v n (tcs ts)) (hn : ts.length = n) (hs : ∀ t ∈ ts, t.2.size ≤ maxLen) (hz : s.size ≤ maxLen) :
    ∃ A c, v = .slice A n c ∧ HeadApart w base w.heap.size (s, A, n, c, ts) := by
  have h' := h; rcases h.2 with ⟨rfl, h0⟩ | ⟨g, cap, cur, rfl, _⟩
  · subst h0
    exact ⟨none, 0, rfl, hz, ⟨hn, nl _, Nat.zero_le _, fun hp => absurd hp (Nat.lt_irrefl _)⟩, fun hp => absurd hp (Nat.lt_irrefl _)⟩
  · obtain ⟨a, b⟩ := zoi h' hn hs (nl _)
    exact ⟨_, cap, rfl, hz, a, fun _ => b⟩
theorem zep {c : UInt8} {s x : ByteArray} (h : x ∈ zef c s) : x.size ≤ s.size := by
  unfold zef at h; obtain ⟨l, hl, rfl⟩ := List.mem_map.1 h; have := cuts_size hl; have e : (⟨l.toArray⟩ : ByteArray).size = l.length := by simp [ByteArray.size]
  rw [e]; simpa using this
theorem zfv (c : UInt8) (s : ByteArray) : (zef c s).map (fun x => x.data.toList) = zfj c s.data.toList := by
  unfold zef; rw [List.map_map]
  conv => rhs; rw [← List.map_id (zfj c s.data.toList)]
  exact List.map_congr_left fun x _ => by simp
theorem two_of {α : Type} {l : List α} (h : l.length = 2) : ∃ a b, l = [a, b] := by
  match l, h with
  | [a, b], _ => exact ⟨a, b, rfl⟩
theorem nil_of {s : ByteArray} (h : s.size = 0) : s.data.toList = [] := List.eq_nil_of_length_eq_zero qbk
theorem zjk {s : ByteArray} (h : s.data.toList = []) : s.size = 0 := by
  have : s.data.toList.length = s.size := qag; rw [← this, h]; rfl
theorem zbl (s : ByteArray) : s.toList = s.data.toList := by rw [ByteArray.toList_eq]
theorem empty_of {s : ByteArray} (h : s.size = 0) : s.toList.isEmpty = true := by rw [zbl, nil_of h]; rfl
theorem ziw {s : ByteArray} (h : ¬ s.size = 0) : s.toList.isEmpty = false := by
  rw [zbl]
  cases hl : s.data.toList with
  | nil => exact absurd (zjk hl) h
  | cons b r => rfl
theorem spec_terms {p0 p1 inner : ByteArray} {q : Nat} (h : p1.extract 0 q = inner) (hq : p1.size = q + 1) : (zcn p0.data.toList p1.data.toList).2 = zaz inner.data.toList := by
  unfold zcn; rw [← h, Lib.extract_data]; have e : p1.data.toList.length = p1.size := qag; rw [e, hq]; simp
theorem spec_at {p0 p1 : ByteArray} : zcn p0.data.toList p1.data.toList = (p0, (zcn p0.data.toList p1.data.toList).2) := by
  unfold zcn; cases p0; rfl
theorem two_texts {w : World} {lo hi d : Nat} {p : Addr} {a b : ByteArray} (h : IsTexts w lo hi (some p) 2 d [a, b]) : w.cell? p = some (.string a) ∧ w.cell? ⟨p.block, p.off + 1, none⟩ = some (.string b) := by
  obtain ⟨h1, h2, h3, h4⟩ := h; obtain ⟨q, hq, _, _, he⟩ := h4 qaa; injection hq with hq; subst hq; have e0 := he 0 a rfl; have e1 := he 1 b rfl; unfold TextE at e0 e1; unfold Addr.add at e0 e1; exact ⟨by simpa using e0, by simpa using e1⟩
theorem zls {p : Prop} (h : p := by
  have Z := (HX1.out.set 0 (.string ⟨#[]⟩)).set 1 (.slice none 0 0); have z0 := Z.cell 0; have z1 := Z.cell 1; refine bodyPost_ret (v := .tuple #[zfc noRf, .bool false]) (by simp [results, Tryz.results40, go_sem, r0, r1, zfc, noRf]) rfl ⟨noRf, by rw [E.out]; rfl, zeo, by rw [E.out]; rfl, (HB1.out.setCell qag _).setCell qag _⟩) : p := h
theorem ZAtomRead1 {p : Prop} (h : p := by
  have hpb : (zms (p0, (zcn p0.data.toList p1.data.toList).2) == s.toList) = false := by rw [zbl, beq_eq_false_iff_ne]; exact hput
  clear hput; go_wp2_with fail; have Z := (X7.out.set 0 (.string ⟨#[]⟩)).set 1 (.slice none 0 0); have z0 := Z.cell 0; have z1 := Z.cell 1; refine bodyPost_ret (v := .tuple #[zfc noRf, .bool false]) (by simp [results, Tryz.results40, go_sem, r0, r1, zfc, noRf]) rfl ⟨noRf, by rw [E.out]; rfl, zeo, by rw [E.out]; rfl, (HB7.out.setCell qag _).setCell qag _⟩) : p := h
theorem znv (s : ByteArray) (w : World) (hs : s.size ≤ 1048576) :
    Calls Tryz.prog 40 #[.string s] w (GetPost s.data.toList w) := by
  obtain ⟨i0, hi, hz, hsz, hby⟩ := info_parts Tryz.infoTerm; have hsl : s.data.toList.length = s.size := qag; have d9 := zac w (.cells #[.string ⟨#[]⟩, .slice none 0 0] 51); have X0 := Blk.new w 51 #[.string ⟨#[]⟩, .slice none 0 0]; obtain ⟨W0, g6⟩ : ∃ W0, w.alloc (.cells #[.string ⟨#[]⟩, .slice none 0 0] 51) = W0 := ⟨_, rfl⟩; rw [g6] at d9 X0; have hz0 : W0.heap.size = w.heap.size + 1 := by rw [← g6]; simp
  have i3 := hid X0; have h4 := hid d9; clear X0 d9; obtain ⟨ps, a8⟩ : ∃ ps, zef 40 s = ps := ⟨_, rfl⟩; have hpl : (zfj 40 s.data.toList).length = ps.length := by rw [← a8]; unfold zef; simp
  go_enter Tryz.func40, Tryz.ntmps40; go_wp2_with fail; refine (zhe s 40 W0 hs).mono ?_; rintro e w1 ⟨p, d, rfl, c7, hb1⟩; rw [a8] at c7 ⊢; have i7 := hid c7; have HX1 := hid (i3.out.below hb1); have HB1 := hid (zaa h4.out hb1); have hz1 := hb1.size; have hxl := HX1.out.lt; have r0 := HX1.out.cell 0; have r1 := HX1.out.cell 1; have f0 := HX1.out.frozen 0; have f1 := HX1.out.frozen 1; clear hb1 c7; by_cases h2 : ps.length = 2
  · obtain ⟨p0, p1, hpp⟩ := two_of h2
    subst hpp; have b5 : zfj 40 s.data.toList = [p0.data.toList, p1.data.toList] := by rw [← zfv, a8]; rfl
    have HC := hid b5; have hs0 : p0.size ≤ s.size := zep (c := 40) (by rw [a8]; simp); have hs1 : p1.size ≤ s.size := zep (c := 40) (by rw [a8]; simp); obtain ⟨c0, c1⟩ := two_texts i7.out; have i5 : (((2 : Nat) : Int) == 2) = true := rfl; clear b5 a8 hpl h2; by_cases hlen : s.size ≤ 1500
    · have b4 : ¬ (1500 < (s.size : Int)) := qaa
      by_cases h1 : p1.size = 0
      · have h8 : ((p1.size : Int) == 0) = true := by rw [beq_iff_eq]; omega
        have E := hid (spec_empty (l := s.data.toList) (p0 := p0.data.toList) (by rw [HC.out, show p1.data.toList = [] from List.eq_nil_of_length_eq_zero (by simpa using h1)])); go_wp2_with fail; exact zls
      · have h8 : ((p1.size : Int) == 0) = false := qbp
        have j6 : p1.size ≤ maxLen := qaf; have a3 : p0.size ≤ maxLen := qaf; have e8 := zac w1 (.cells #[.string p0, .slice none 0 0] 51); have Y2 := hid (Blk.new w1 51 #[.string p0, .slice none 0 0]); have X2 := hid (HX1.out.below e8); have HB2 := hid (zaa HB1.out e8); clear r0 r1 f0 f1 e8; have h5 := zfa c1; have i6 := zfa c0; obtain ⟨q, hq⟩ : ∃ q, p1.size = q + 1 := ⟨p1.size - 1, by omega⟩; have hwq : IntKind.i64.wrap ((p1.size : Int) - 1) = (q : Int) := qao; have hq1 : (q : Int) ≤ (p1.size : Int) := qaa; have hq2 : q ≤ p1.size := qaa
        have HQ := hid hq; clear hq; go_wp2_with fail; go_region_with fail
        all_goals
          have i8 : (p1.extract 0 q).size = q := by rw [ByteArray.size_extract]; omega
          obtain ⟨a2, a5⟩ : ∃ x, p1.extract 0 q = x := ⟨_, rfl⟩; obtain ⟨ws, a9⟩ : ∃ x, zef 44 a2 = x := ⟨_, rfl⟩; rw [a5] at i8; have hwl : ws.length ≤ a2.size + 1 := by rw [← a9]; exact zhl 44 a2
          have hw0 : 0 < ws.length := by rw [← a9]; unfold zef zfj; simp
          have hwz : ∀ x ∈ ws, x.size ≤ 1500 := fun x hx => Nat.le_trans (zep (c := 44) (s := a2) (by rw [a9]; exact hx)) qaa; have d7 := hid a5; have g2 := hid a9; have g0 := hid hwz; clear a5 a9 hwz; go_wp2_with fail; rw [d7.out]; refine (zhe a2 44 _ qaa).mono ?_; rintro e w2 ⟨q2, d2, rfl, c3, b6⟩; rw [g2.out] at c3 ⊢; have hb2 := zjg b6; have j7 := hid c3; have X3 := hid (X2.out.below hb2); have Y3 := hid (Y2.out.below hb2); have HB3 := hid (zaa HB2.out hb2); have hz3 : w1.heap.size + 1 ≤ w2.heap.size := by have := hb2.size; simp at this; exact this
          clear hb2 b6 c3 i6 h5 c0 c1; go_wp2_with fail; go_loopw [8] (fun i wr => ∃ (k : Nat) (v : Value), k ≤ ws.length ∧ (a2.size = 0 → k = 0) ∧ i = .int .i64 (k : Int) ∧ Blk wr w1.heap.size 51 #[.string p0, v] ∧ Blk wr w.heap.size 51 #[.string ⟨#[]⟩, .slice none 0 0] ∧ wr.ownsRow w2.heap.size 110 2 v k (tcs (zdw (ws.take k))) ∧ IsTexts wr (w1.heap.size + 1) w2.heap.size (some q2) ws.length d2 ws ∧ Below w.heap.size w wr ∧ w2.heap.size ≤ wr.heap.size) (fun i _ => ws.length - (intOf i).toNat)
          case atStart => exact ⟨0, _, Nat.zero_le _, fun _ => rfl, rfl, Y3.out, X3.out, ⟨rfl, .inl ⟨rfl, rfl⟩⟩, j7.out.keep TextE.stays (fun _ _ _ => rfl) (by simp [World.drew]) (nl _), HB3.out, nl _⟩
          case round =>
            obtain ⟨k, v, hk, g5, rfl, hY, hX, a7, hT, hb, j0⟩ := hrel
            obtain ⟨Av, cv, rfl⟩ : ∃ Av cv, v = .slice Av k cv := by
              rcases a7.2 with ⟨e1, e2⟩ | ⟨g, cap, cur, e1, _⟩
              · exact ⟨none, 0, by rw [e1, e2]⟩
              · exact ⟨_, cap, e1⟩
            have HY := hid hY; have HX := hid hX; have HR := hid a7; have g7 := hid hT; have HB := hid hb; clear hY hX a7 hT hb; have y0 := HY.out.cell 0; have y1 := HY.out.cell 1; by_cases hlt : k < ws.length
            · have e6 : (k : Int) < (ws.length : Int) := qaa
              by_cases a6 : a2.size = 0
              · have b9 := g5 a6
                subst b9; have d4 : (!a2.toList.isEmpty) = false := by rw [empty_of a6]; rfl
                have hH : HeadApart wr w2.heap.size wr.heap.size (p0, Av, 0, cv, (zcn p0.data.toList p1.data.toList).2) := by
                  have e0 : (zcn p0.data.toList p1.data.toList).2 = [] := by rw [spec_terms d7.out HQ.out]; unfold zaz; rw [if_pos (nil_of a6)]
                  rw [e0]; obtain ⟨A9, c9, e9, h9⟩ := head_row (s := p0) HR.out (by simp [zdw]) (fun t ht => by simp [zdw] at ht) a3; injection e9 with e9 _ e10; subst e9; subst e10; exact h9
                have HH := hid hH; clear hH; go_wp2_with fail; refine (zgt p0 Av 0 cv (zcn p0.data.toList p1.data.toList).2 wr a3 (HH.out.2.1.keep (fun _ _ _ => rfl) (Nat.zero_le _) (nl _))).mono ?_; rintro e w7 ⟨rfl, hb7⟩; have X7 := hid (HX.out.below hb7); have Y7 := hid (HY.out.below hb7); have HB7 := hid (zaa HB.out hb7); have b7 := hid (HH.out.keep (w' := w7) (lo' := w2.heap.size) (hi' := w7.heap.size) (fun b _ h2 => hb7.block b h2) (nl _) hb7.size); have r0 := X7.out.cell 0; have r1 := X7.out.cell 1; have f0 := X7.out.frozen 0; have f1 := X7.out.frozen 1; have a0 := Y7.out.cell 0; have a1 := Y7.out.cell 1
                have i1 := X7.out.lt; clear hb7; by_cases hput : zms (p0, (zcn p0.data.toList p1.data.toList).2) = s.data.toList
                · have E := hid (spec_yes HC.out qaa (fun e => h1 (zjk e)) (by rw [spec_at]; exact hput))
                  have hpb : (zms (p0, (zcn p0.data.toList p1.data.toList).2) == s.toList) = true := qdy; clear hput; go_wp2_with fail; have Z := (X7.out.set 0 (.string p0)).set 1 (.slice Av 0 cv); have z0 := Z.cell 0; have z1 := Z.cell 1; refine bodyPost_ret (v := .tuple #[zfc (p0, Av, 0, cv, (zcn p0.data.toList p1.data.toList).2), .bool true]) (by simp [results, Tryz.results40, go_sem, r0, r1, zfc]) rfl ⟨(p0, Av, 0, cv, (zcn p0.data.toList p1.data.toList).2), by rw [E.out]; rfl, ?_, by rw [E.out]; exact spec_at.symm, (HB7.out.setCell qag _).setCell qag _⟩; exact b7.out.keep (fun b h1 h2 => (hs_ _ _ _ _ qah).trans (hs_ _ _ _ _ qah)) qaa qag
                · have E := hid (spec_no (l := s.data.toList) HC.out (by rw [spec_at]; exact hput))
                  exact ZAtomRead1
              · have d4 : (!a2.toList.isEmpty) = true := by rw [ziw a6]; rfl
                obtain ⟨q', s5, hq', hlo, hhi, hg, hE⟩ := g7.out.at_ hlt; injection hq' with hq'; subst hq'; have c5 : wr.cell? (q2.add k) = some (.string s5) := qdj; have h7 : s5.size ≤ maxLen := Nat.le_trans (g0.out s5 (List.mem_of_getElem? hg)) qan; have HG := hid hg; clear hg hE; have a4 : ∀ g, (Value.slice Av k cv).ownBlock = some g → w2.heap.size ≤ g := fun g hg => (HR.out.lt g hg).1; have hyl := HY.out.lt; go_wp2_with fail
                go_region_law (first
                  | (refine step_append_lies _ qad _ _ _ qad w2.heap.size 110 i0 _ 2 24 Tryz.underlying49 hi hz hsz hby rfl qaa (.slice Av k cv) k (tcs (zdw (ws.take k))) qad (g8.out.alloc _) ⟨w4.heap.size, 0, none⟩ 1 1 [.bool (zel s5.data.toList).1, .string s5] qad qad (World.news_of_block (cs := #[.bool (zel s5.data.toList).1, .string s5]) (t := 110) (fr := (0, 0)) (heap_alloc_new w4 _)) qal qaa qaf qaa qah (w4.heap.size + 1) qag ?_; intro gg cap w6 hown6 hgrow hat hlt6; have Y6 := (Y4.out.alloc (.cells #[.bool (zel s5.data.toList).1, .string s5] 110)).kept hgrow (fun e => (by have := a4 _ e.symm; omega)); have z3 : w6.cell? ⟨w1.heap.size, 1, none⟩ = some (.slice Av k cv) := Y6.cell 1; have z5 := Y6.frozen 1)
                  | ((go_simp; go_at_call 69; refine (l1Arg_any s5 _ h7).mono ?_); rintro e w4 ⟨rfl, b3⟩; have hb4 : Below wr.heap.size wr w4 := zjg b3; clear b3; have Y4 := hid (HY.out.below hb4); have g1 := Y4.out.cell 1; have i4 := zfa (show w4.cell? ⟨w1.heap.size, 1, none⟩ = some (.slice Av k cv) from g1); have g8 := hid (zan HR.out hb4); have hs4 := hb4.size))
                all_goals
                  have hgg := (hown6.lt gg rfl).1; have hgs : wr.heap.size + 1 ≤ w6.heap.size := by have := hgrow.size; simp at this; omega
                  have X6 := ((HX.out.below hb4).alloc (.cells #[.bool (zel s5.data.toList).1, .string s5] 110)).kept (W' := w6) hgrow (fun e => by have := a4 _ e.symm; omega); have e7 := grownSet w6 w1.heap.size 1 (.slice (some ⟨gg, 0, none⟩) (k + 1) cap); have A1 := hid (show Blk (w6.setCell ⟨w1.heap.size, 1, none⟩ (.slice (some ⟨gg, 0, none⟩) (k + 1) cap)) w1.heap.size 51 #[.string p0, .slice (some ⟨gg, 0, none⟩) (k + 1) cap] from Y6.set 1 _); have A2 := hid (X6.far (p := ⟨w1.heap.size, 1, none⟩) qah (.slice (some ⟨gg, 0, none⟩) (k + 1) cap))
                  have A3 : Hid ((w6.setCell ⟨w1.heap.size, 1, none⟩ (.slice (some ⟨gg, 0, none⟩) (k + 1) cap)).ownsRow w2.heap.size 110 2 (.slice (some ⟨gg, 0, none⟩) (k + 1) cap) (k + 1) (tcs (zdw (ws.take (k + 1))))) := hid (by rw [zni HG.out]; exact zds hown6 qcr _)
                  have hlow : ∀ b, b < w2.heap.size → b ≠ w1.heap.size → (w6.setCell ⟨w1.heap.size, 1, none⟩ (.slice (some ⟨gg, 0, none⟩) (k + 1) cap)).heap[b]? = wr.heap[b]? := by
                    intro b hb1 hb2; have e1 := hs_ w6 ⟨w1.heap.size, 1, none⟩ (.slice (some ⟨gg, 0, none⟩) (k + 1) cap) b (by simpa using hb2); have e2 := hgrow.block b qah (fun e => by have := a4 _ e.symm; omega); have e3 := (zac w4 (.cells #[.bool (zel s5.data.toList).1, .string s5] 110)).block b qaa; have e4 := hb4.block b qaa; exact e1.trans (e2.trans (e3.trans e4))
                  have A4 := hid (g7.out.keep (w' := w6.setCell ⟨w1.heap.size, 1, none⟩ (.slice (some ⟨gg, 0, none⟩) (k + 1) cap)) TextE.stays (fun q h1 h2 => cb_ (hlow q.block h2 qaa)) (nl _) (nl _)); have A5 := hid (((zaa HB.out hb4).alloc (zaa HB.out hb4).size (.cells #[.bool (zel s5.data.toList).1, .string s5] 110)).grown hgrow (by have := (zaa HB.out hb4).size; simp; omega) (fun g hg => by have := a4 g hg; omega) |>.setCell (p := ⟨w1.heap.size, 1, none⟩) qah (.slice (some ⟨gg, 0, none⟩) (k + 1) cap)); have A6 : w2.heap.size ≤ (w6.setCell ⟨w1.heap.size, 1, none⟩ (.slice (some ⟨gg, 0, none⟩) (k + 1) cap)).heap.size := by rw [zab]; omega
                  clear hown6 hgrow hat Y6 z3 z5 X6 e7 hb4 Y4 g1 i4 g8 hlow; go_wp2; go_roundw
                  case rel => exact ⟨k + 1, _, by omega, fun e => absurd e a6, by go_num, A1.out, A2.out, A3.out, A4.out, A5.out, A6⟩
                  case measure => exact qms
            · have e6 : ¬ (k : Int) < (ws.length : Int) := qaa
              have h6 : k = ws.length := qaa; have a6 : ¬ a2.size = 0 := fun e => by have := g5 e; omega
              have hH : HeadApart wr w2.heap.size wr.heap.size (p0, Av, k, cv, (zcn p0.data.toList p1.data.toList).2) := by
                have e0 : (zcn p0.data.toList p1.data.toList).2 = zdw ws := by rw [spec_terms d7.out HQ.out]; unfold zaz; rw [if_neg (fun e => a6 (zjk e)), ← g2.out, znj]
                rw [e0]; have hr := HR.out; rw [List.take_of_length_le qaa] at hr
                obtain ⟨A9, c9, e9, h9⟩ := head_row (s := p0) hr (by unfold zdw; rw [List.length_map]; omega) (fun t ht => by
                  unfold zdw at ht; obtain ⟨x, hx, rfl⟩ := List.mem_map.1 ht; rw [argOf_eq]; exact Nat.le_trans (g0.out x hx) qan) a3
                injection e9 with e9 _ e10; subst e9; subst e10; exact h9
              clear h6; have HH := hid hH; clear hH; go_wp2_with fail; refine (zgt p0 Av k cv (zcn p0.data.toList p1.data.toList).2 wr a3 (HH.out.2.1.keep (fun _ _ _ => rfl) (Nat.zero_le _) (nl _))).mono ?_; rintro e w7 ⟨rfl, hb7⟩; have X7 := hid (HX.out.below hb7); have Y7 := hid (HY.out.below hb7); have HB7 := hid (zaa HB.out hb7); have b7 := hid (HH.out.keep (w' := w7) (lo' := w2.heap.size) (hi' := w7.heap.size) (fun b _ h2 => hb7.block b h2) (nl _) hb7.size); have r0 := X7.out.cell 0; have r1 := X7.out.cell 1; have f0 := X7.out.frozen 0; have f1 := X7.out.frozen 1; have a0 := Y7.out.cell 0; have a1 := Y7.out.cell 1
              have i1 := X7.out.lt; clear hb7; by_cases hput : zms (p0, (zcn p0.data.toList p1.data.toList).2) = s.data.toList
              · have E := hid (spec_yes HC.out qaa (fun e => h1 (zjk e)) (by rw [spec_at]; exact hput))
                have hpb : (zms (p0, (zcn p0.data.toList p1.data.toList).2) == s.toList) = true := qdy; clear hput; go_wp2_with fail; have Z := (X7.out.set 0 (.string p0)).set 1 (.slice Av k cv); have z0 := Z.cell 0; have z1 := Z.cell 1; refine bodyPost_ret (v := .tuple #[zfc (p0, Av, k, cv, (zcn p0.data.toList p1.data.toList).2), .bool true]) (by simp [results, Tryz.results40, go_sem, r0, r1, zfc]) rfl ⟨(p0, Av, k, cv, (zcn p0.data.toList p1.data.toList).2), by rw [E.out]; rfl, ?_, by rw [E.out]; exact spec_at.symm, (HB7.out.setCell qag _).setCell qag _⟩; exact b7.out.keep (fun b h1 h2 => (hs_ _ _ _ _ qah).trans (hs_ _ _ _ _ qah)) qaa qag
              · have E := hid (spec_no (l := s.data.toList) HC.out (by rw [spec_at]; exact hput))
                exact ZAtomRead1
    · have b4 : 1500 < (s.size : Int) := qaa
      have E := hid (getB_long (l := s.data.toList) qaa); go_wp2_with fail; exact zls
  · have i5 : ((ps.length : Int) == 2) = false := qbp
    have E := hid (spec_count (l := s.data.toList) (by rw [hpl]; exact h2)); go_wp2; exact zls
end Go.Proofs.YtogonjkklioaaaaGreatDoor
