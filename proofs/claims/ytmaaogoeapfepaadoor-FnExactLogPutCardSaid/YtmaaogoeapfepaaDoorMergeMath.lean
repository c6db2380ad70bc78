/-
  Two lists in order, merged: what stands in the first alone, what in both; that all together are in order.
-/
import Derived.Test.YtmaaogoeapfepaaDoorBlk
import Derived.Test.YtmaaogoeapfepaaDoorHasL
namespace Go.Proofs.YtmaaogoeapfepaaDoor

theorem hasB_cons (b : At) (l : List At) (a : At) : hasB (b :: l) a = (decide (atomCmp b a = 0) || hasB l a) := by
  unfold hasB; rw [List.any_cons]

theorem hasB_nil (a : At) : hasB [] a = false := rfl

theorem cmp_swap {a b : At} (h : atomCmp a b < 0) : 0 < atomCmp b a := by have := atomCmp_anti a b; omega

/-- All of a list in order stand behind what its first one stands behind. -/
theorem hasB_low {b : At} {l : List At} (hr : risesB (b :: l) = true) {a : At} (h : atomCmp a b < 0) : hasB (b :: l) a = false := by
  unfold hasB
  rw [List.any_eq_false]
  intro y hy
  simp only [decide_eq_true_eq]
  have h1 : 0 < atomCmp y a := by
    rcases List.mem_cons.1 hy with rfl | hy
    · exact cmp_swap h
    · exact cmp_swap (atomCmp_strict h (by have := rises_head hr y hy; omega))
  omega

/-- One that stands ahead of all is none of them. -/
theorem hasB_skip {b : At} {l : List At} {a : At} (h : atomCmp b a < 0) : hasB (b :: l) a = hasB l a := by
  rw [hasB_cons, decide_eq_false (by omega), Bool.false_or]

theorem sel_first : ∀ ra rb : List Rf, risesB (ra.map rAt) = true → risesB (rb.map rAt) = true →
    selR 0 (mergeR ra rb) = ra.filter (fun r => !hasB (rb.map rAt) (rAt r)) ∧ selR 2 (mergeR ra rb) = ra.filter (fun r => hasB (rb.map rAt) (rAt r)) := by
  intro ra rb
  fun_induction mergeR ra rb with
  | case1 ra =>
    intro _ _
    constructor
    · unfold selR
      rw [List.filter_eq_self.2 (fun x hx => by obtain ⟨r, _, rfl⟩ := List.mem_map.1 hx; rfl), List.map_map]
      rw [List.filter_eq_self.2 (fun x _ => by rw [List.map_nil, hasB_nil]; rfl)]
      exact List.map_id ra
    · unfold selR
      rw [List.filter_eq_nil_iff.2 (fun x hx => by obtain ⟨r, _, rfl⟩ := List.mem_map.1 hx; simp)]
      rw [List.filter_eq_nil_iff.2 (fun x _ => by rw [List.map_nil, hasB_nil]; simp)]
      rfl
  | case2 b rb =>
    intro _ _
    constructor <;>
    · unfold selR
      rw [List.filter_eq_nil_iff.2 (fun x hx => by obtain ⟨r, _, rfl⟩ := List.mem_map.1 hx; simp)]
      rfl
  | case3 a ra b rb h ih =>
    intro ha hb
    obtain ⟨i1, i2⟩ := ih (rises_tail (by simpa using ha)) hb
    have hno : hasB ((b :: rb).map rAt) (rAt a) = false := hasB_low (by simpa using hb) h
    constructor
    · rw [List.filter_cons_of_pos (by rw [hno]; rfl), ← i1]; rfl
    · rw [List.filter_cons_of_neg (by rw [hno]; simp), ← i2]; rfl
  | case4 a ra b rb h h' ih =>
    intro ha hb
    obtain ⟨i1, i2⟩ := ih ha (rises_tail (by simpa using hb))
    have hba : atomCmp (rAt b) (rAt a) < 0 := by have := atomCmp_anti (rAt a) (rAt b); omega
    have hsame : ∀ r ∈ a :: ra, hasB ((b :: rb).map rAt) (rAt r) = hasB (rb.map rAt) (rAt r) := by
      intro r hr
      refine hasB_skip (l := rb.map rAt) ?_
      rcases List.mem_cons.1 hr with rfl | hr
      · exact hba
      · exact atomCmp_strict hba (by have := rises_head (x := rAt a) (l := ra.map rAt) (by simpa using ha) (rAt r) (List.mem_map_of_mem hr); omega)
    constructor
    · rw [List.filter_congr (fun r hr => by rw [hsame r hr]), ← i1]; rfl
    · rw [List.filter_congr (fun r hr => by rw [hsame r hr]), ← i2]; rfl
  | case5 a ra b rb h h' ih =>
    intro ha hb
    obtain ⟨i1, i2⟩ := ih (rises_tail (by simpa using ha)) (rises_tail (by simpa using hb))
    have he : atomCmp (rAt a) (rAt b) = 0 := by omega
    have hba : atomCmp (rAt b) (rAt a) = 0 := by have := atomCmp_anti (rAt a) (rAt b); omega
    have hyes : hasB ((b :: rb).map rAt) (rAt a) = true := by rw [List.map_cons, hasB_cons, decide_eq_true hba, Bool.true_or]
    have hsame : ∀ r ∈ ra, hasB ((b :: rb).map rAt) (rAt r) = hasB (rb.map rAt) (rAt r) := by
      intro r hr
      refine hasB_skip (l := rb.map rAt) ?_
      have h1 := rises_head (x := rAt a) (l := ra.map rAt) (by simpa using ha) (rAt r) (List.mem_map_of_mem hr)
      have h2 := atomCmp_on (a := rAt b) (b := rAt a) (c := rAt r) (by omega) (by omega)
      by_cases e : atomCmp (rAt b) (rAt r) = 0
      · have h3 := atomCmp_anti (rAt b) (rAt r)
        have h4 := atomCmp_strict h1 (show atomCmp (rAt r) (rAt b) ≤ 0 by omega)
        omega
      · omega
    constructor
    · rw [List.filter_cons_of_neg (by rw [hyes]; simp), List.filter_congr (fun r hr => by rw [hsame r hr]), ← i1]; rfl
    · rw [List.filter_cons_of_pos (by rw [hyes]), List.filter_congr (fun r hr => by rw [hsame r hr]), ← i2]; rfl

/-- Nothing that is in both. -/
def apartB (xs ys : List At) : Bool := xs.all fun a => !hasB ys a

theorem both_none {ra rb : List Rf} (ha : risesB (ra.map rAt) = true) (hb : risesB (rb.map rAt) = true) : decide ((selR 2 (mergeR ra rb)).length = 0) = apartB (ra.map rAt) (rb.map rAt) := by
  rw [(sel_first ra rb ha hb).2, Bool.eq_iff_iff, decide_eq_true_eq, List.length_eq_zero_iff, List.filter_eq_nil_iff]
  unfold apartB
  rw [List.all_eq_true]
  constructor
  · intro h x hx
    obtain ⟨r, hr, rfl⟩ := List.mem_map.1 hx
    simpa using h r hr
  · intro h r hr
    have := h _ (List.mem_map_of_mem hr)
    simpa using this

/-- In order, by what all of a rest have. -/
theorem rises_cons {x : At} {l : List At} (h : ∀ y ∈ l, atomCmp x y < 0) (hl : risesB l = true) : risesB (x :: l) = true := by
  cases l with
  | nil => rfl
  | cons y l =>
    show (decide (atomCmp x y < 0) && risesB (y :: l)) = true
    rw [decide_eq_true (h y (by simp)), hl]; rfl

theorem rises_filter {p : At → Bool} : ∀ {l : List At}, risesB l = true → risesB (l.filter p) = true
  | [], _ => rfl
  | x :: l, h => by
    have ih := rises_filter (p := p) (rises_tail h)
    by_cases hp : p x = true
    · rw [List.filter_cons_of_pos hp]
      exact rises_cons (fun y hy => rises_head h y (List.mem_filter.1 hy).1) ih
    · rw [List.filter_cons_of_neg hp]; exact ih

/-- All of two lists in order are in order. -/
theorem all_rises : ∀ ra rb : List Rf, risesB (ra.map rAt) = true → risesB (rb.map rAt) = true → risesB ((mergeR ra rb).map fun x => rAt x.1) = true := by
  intro ra rb
  fun_induction mergeR ra rb with
  | case1 ra => intro h _; rw [List.map_map]; exact h
  | case2 b rb => intro _ h; rw [List.map_map]; exact h
  | case3 a ra b rb h ih =>
    intro ha hb
    rw [List.map_cons] at ha ⊢
    refine rises_cons (fun y hy => ?_) (ih (rises_tail ha) hb)
    obtain ⟨x, hx, rfl⟩ := List.mem_map.1 hy
    rcases merge_mem _ _ x hx with h1 | h1
    · exact rises_head ha _ (List.mem_map_of_mem h1)
    · rcases List.mem_cons.1 h1 with h2 | h2
      · rw [h2]; exact h
      · exact atomCmp_strict h (by have := rises_head (x := rAt b) (l := rb.map rAt) (by simpa using hb) _ (List.mem_map_of_mem h2); omega)
  | case4 a ra b rb h h' ih =>
    intro ha hb
    have hba : atomCmp (rAt b) (rAt a) < 0 := by have := atomCmp_anti (rAt a) (rAt b); omega
    rw [List.map_cons] at hb ⊢
    refine rises_cons (fun y hy => ?_) (ih ha (rises_tail hb))
    obtain ⟨x, hx, rfl⟩ := List.mem_map.1 hy
    rcases merge_mem _ _ x hx with h1 | h1
    · rcases List.mem_cons.1 h1 with h2 | h2
      · rw [h2]; exact hba
      · exact atomCmp_strict hba (by have := rises_head (x := rAt a) (l := ra.map rAt) (by simpa using ha) _ (List.mem_map_of_mem h2); omega)
    · exact rises_head hb _ (List.mem_map_of_mem h1)
  | case5 a ra b rb h h' ih =>
    intro ha hb
    have hab : atomCmp (rAt a) (rAt b) ≤ 0 := by omega
    rw [List.map_cons] at ha hb ⊢
    refine rises_cons (fun y hy => ?_) (ih (rises_tail ha) (rises_tail hb))
    obtain ⟨x, hx, rfl⟩ := List.mem_map.1 hy
    rcases merge_mem _ _ x hx with h1 | h1
    · exact rises_head ha _ (List.mem_map_of_mem h1)
    · have h3 := rises_head hb _ (List.mem_map_of_mem h1)
      have h4 := atomCmp_on hab (show atomCmp (rAt b) (rAt x.1) ≤ 0 by omega)
      by_cases e : atomCmp (rAt a) (rAt x.1) = 0
      · have h5 := atomCmp_anti (rAt a) (rAt x.1)
        have h6 := atomCmp_strict h3 (show atomCmp (rAt x.1) (rAt a) ≤ 0 by omega)
        have h7 := atomCmp_anti (rAt b) (rAt a)
        omega
      · show atomCmp (rAt a) (rAt x.1) < 0
        omega

end Go.Proofs.YtmaaogoeapfepaaDoor
