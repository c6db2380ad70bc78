/-
  Texts of one claim, put together.
-/
import Derived.Test.YtogonjkklioaaaaGreatDoorLg9
import Derived.Test.YtogonjkklioaaaaGreatDoorLg6
import Derived.Test.YtogonjkklioaaaaGreatDoorLg4
import Derived.Test.YtogonjkklioaaaaGreatDoorLg7
import Derived.Test.YtogonjkklioaaaaGreatDoorLg8
import Derived.Test.YtogonjkklioaaaaGreatDoorLg3
namespace Go.Proofs.YtogonjkklioaaaaGreatDoor
open Go.RowKit

theorem factsB_rises {m : Nat} {xs : List At} (h : factsB m xs = true) : risesB xs = true := by
  unfold factsB at h
  simp only [Bool.and_eq_true] at h
  exact h.1.2

theorem factsB_len {m : Nat} {xs : List At} (h : factsB m xs = true) : xs.length ≤ m := by
  unfold factsB at h
  simp only [Bool.and_eq_true, decide_eq_true_eq] at h
  exact h.2

set_option maxHeartbeats 1000000 in
theorem l3Has_any (A : Option Addr) (n c : Nat) (xs : List At) (nm : ByteArray) (B : Option Addr) (m d : Nat) (ts : List Tm) (w : World) (h : IsAtoms w 0 w.heap.size A n c xs) (h' : IsTerms w 0 w.heap.size B m d ts) (hr : risesB xs = true) :
    Calls Tryz.prog 35 #[.slice A n c, .agg #[.string nm, .slice B m d]] w (BoolPost (hasB xs (nm, ts)) w) := by
  have H := Lib.hid h; clear h
  have H' := Lib.hid h'; clear h'
  have hw0 := below1 w (.cells #[.string nm, .slice B m d] 51)
  go_enter Tryz.func35, Tryz.ntmps35
  go_wp2_with fail
  refine (l3At_any _ _ _ xs nm B m d ts _ (H.out.up AtomE.stays hw0) (H'.out.up hw0) hr).mono ?_; rintro e w1 ⟨k, ⟨rfl, _, _, _⟩, hb1⟩
  go_wp2
  go_ret; exact ⟨rfl, belowThen hw0 hb1⟩

end Go.Proofs.YtogonjkklioaaaaGreatDoor

namespace Go.Proofs.YtogonjkklioaaaaGreatDoor

theorem hasB_cons (b : At) (l : List At) (a : At) : hasB (b :: l) a = (decide (atomCmp b a = 0) || hasB l a) := by
  unfold hasB; rw [List.any_cons]

theorem hasB_nil (a : At) : hasB [] a = false := rfl

theorem cmp_swap {a b : At} (h : atomCmp a b < 0) : 0 < atomCmp b a := by have := atomCmp_anti a b; omega

/-- All of a list in order stand behind what its first one stands behind. -/
theorem hasB_low {b : At} {l : List At} (hr : risesB (b :: l) = true) {a : At} (h : atomCmp a b < 0) : hasB (b :: l) a = false := by
  unfold hasB
  rw [List.any_eq_false]
  intro y hy
  simp only [decide_eq_true_eq]
  have h1 : 0 < atomCmp y a := by
    rcases List.mem_cons.1 hy with rfl | hy
    · exact cmp_swap h
    · exact cmp_swap (atomCmp_strict h (by have := rises_head hr y hy; omega))
  omega

/-- One that stands ahead of all is none of them. -/
theorem hasB_skip {b : At} {l : List At} {a : At} (h : atomCmp b a < 0) : hasB (b :: l) a = hasB l a := by
  rw [hasB_cons, decide_eq_false (by omega), Bool.false_or]

theorem sel_first : ∀ ra rb : List Rf, risesB (ra.map rAt) = true → risesB (rb.map rAt) = true →
    selR 0 (mergeR ra rb) = ra.filter (fun r => !hasB (rb.map rAt) (rAt r)) ∧ selR 2 (mergeR ra rb) = ra.filter (fun r => hasB (rb.map rAt) (rAt r)) := by
  intro ra rb
  fun_induction mergeR ra rb with
  | case1 ra =>
    intro _ _
    constructor
    · unfold selR
      rw [List.filter_eq_self.2 (fun x hx => by obtain ⟨r, _, rfl⟩ := List.mem_map.1 hx; rfl), List.map_map]
      rw [List.filter_eq_self.2 (fun x _ => by rw [List.map_nil, hasB_nil]; rfl)]
      exact List.map_id ra
    · unfold selR
      rw [List.filter_eq_nil_iff.2 (fun x hx => by obtain ⟨r, _, rfl⟩ := List.mem_map.1 hx; simp)]
      rw [List.filter_eq_nil_iff.2 (fun x _ => by rw [List.map_nil, hasB_nil]; simp)]
      rfl
  | case2 b rb =>
    intro _ _
    constructor <;>
    · unfold selR
      rw [List.filter_eq_nil_iff.2 (fun x hx => by obtain ⟨r, _, rfl⟩ := List.mem_map.1 hx; simp)]
      rfl
  | case3 a ra b rb h ih =>
    intro ha hb
    obtain ⟨i1, i2⟩ := ih (rises_tail (by simpa using ha)) hb
    have hno : hasB ((b :: rb).map rAt) (rAt a) = false := hasB_low (by simpa using hb) h
    constructor
    · rw [List.filter_cons_of_pos (by rw [hno]; rfl), ← i1]; rfl
    · rw [List.filter_cons_of_neg (by rw [hno]; simp), ← i2]; rfl
  | case4 a ra b rb h h' ih =>
    intro ha hb
    obtain ⟨i1, i2⟩ := ih ha (rises_tail (by simpa using hb))
    have hba : atomCmp (rAt b) (rAt a) < 0 := by have := atomCmp_anti (rAt a) (rAt b); omega
    have hsame : ∀ r ∈ a :: ra, hasB ((b :: rb).map rAt) (rAt r) = hasB (rb.map rAt) (rAt r) := by
      intro r hr
      refine hasB_skip (l := rb.map rAt) ?_
      rcases List.mem_cons.1 hr with rfl | hr
      · exact hba
      · exact atomCmp_strict hba (by have := rises_head (x := rAt a) (l := ra.map rAt) (by simpa using ha) (rAt r) (List.mem_map_of_mem hr); omega)
    constructor
    · rw [List.filter_congr (fun r hr => by rw [hsame r hr]), ← i1]; rfl
    · rw [List.filter_congr (fun r hr => by rw [hsame r hr]), ← i2]; rfl
  | case5 a ra b rb h h' ih =>
    intro ha hb
    obtain ⟨i1, i2⟩ := ih (rises_tail (by simpa using ha)) (rises_tail (by simpa using hb))
    have he : atomCmp (rAt a) (rAt b) = 0 := by omega
    have hba : atomCmp (rAt b) (rAt a) = 0 := by have := atomCmp_anti (rAt a) (rAt b); omega
    have hyes : hasB ((b :: rb).map rAt) (rAt a) = true := by rw [List.map_cons, hasB_cons, decide_eq_true hba, Bool.true_or]
    have hsame : ∀ r ∈ ra, hasB ((b :: rb).map rAt) (rAt r) = hasB (rb.map rAt) (rAt r) := by
      intro r hr
      refine hasB_skip (l := rb.map rAt) ?_
      have h1 := rises_head (x := rAt a) (l := ra.map rAt) (by simpa using ha) (rAt r) (List.mem_map_of_mem hr)
      have h2 := atomCmp_on (a := rAt b) (b := rAt a) (c := rAt r) (by omega) (by omega)
      by_cases e : atomCmp (rAt b) (rAt r) = 0
      · have h3 := atomCmp_anti (rAt b) (rAt r)
        have h4 := atomCmp_strict h1 (show atomCmp (rAt r) (rAt b) ≤ 0 by omega)
        omega
      · omega
    constructor
    · rw [List.filter_cons_of_neg (by rw [hyes]; simp), List.filter_congr (fun r hr => by rw [hsame r hr]), ← i1]; rfl
    · rw [List.filter_cons_of_pos (by rw [hyes]), List.filter_congr (fun r hr => by rw [hsame r hr]), ← i2]; rfl

/-- Nothing that is in both. -/
def apartB (xs ys : List At) : Bool := xs.all fun a => !hasB ys a

theorem both_none {ra rb : List Rf} (ha : risesB (ra.map rAt) = true) (hb : risesB (rb.map rAt) = true) : decide ((selR 2 (mergeR ra rb)).length = 0) = apartB (ra.map rAt) (rb.map rAt) := by
  rw [(sel_first ra rb ha hb).2, Bool.eq_iff_iff, decide_eq_true_eq, List.length_eq_zero_iff, List.filter_eq_nil_iff]
  unfold apartB
  rw [List.all_eq_true]
  constructor
  · intro h x hx
    obtain ⟨r, hr, rfl⟩ := List.mem_map.1 hx
    simpa using h r hr
  · intro h r hr
    have := h _ (List.mem_map_of_mem hr)
    simpa using this

/-- In order, by what all of a rest have. -/
theorem rises_cons {x : At} {l : List At} (h : ∀ y ∈ l, atomCmp x y < 0) (hl : risesB l = true) : risesB (x :: l) = true := by
  cases l with
  | nil => rfl
  | cons y l =>
    show (decide (atomCmp x y < 0) && risesB (y :: l)) = true
    rw [decide_eq_true (h y (by simp)), hl]; rfl

theorem rises_filter {p : At → Bool} : ∀ {l : List At}, risesB l = true → risesB (l.filter p) = true
  | [], _ => rfl
  | x :: l, h => by
    have ih := rises_filter (p := p) (rises_tail h)
    by_cases hp : p x = true
    · rw [List.filter_cons_of_pos hp]
      exact rises_cons (fun y hy => rises_head h y (List.mem_filter.1 hy).1) ih
    · rw [List.filter_cons_of_neg hp]; exact ih

/-- All of two lists in order are in order. -/
theorem all_rises : ∀ ra rb : List Rf, risesB (ra.map rAt) = true → risesB (rb.map rAt) = true → risesB ((mergeR ra rb).map fun x => rAt x.1) = true := by
  intro ra rb
  fun_induction mergeR ra rb with
  | case1 ra => intro h _; rw [List.map_map]; exact h
  | case2 b rb => intro _ h; rw [List.map_map]; exact h
  | case3 a ra b rb h ih =>
    intro ha hb
    rw [List.map_cons] at ha ⊢
    refine rises_cons (fun y hy => ?_) (ih (rises_tail ha) hb)
    obtain ⟨x, hx, rfl⟩ := List.mem_map.1 hy
    rcases merge_mem _ _ x hx with h1 | h1
    · exact rises_head ha _ (List.mem_map_of_mem h1)
    · rcases List.mem_cons.1 h1 with h2 | h2
      · rw [h2]; exact h
      · exact atomCmp_strict h (by have := rises_head (x := rAt b) (l := rb.map rAt) (by simpa using hb) _ (List.mem_map_of_mem h2); omega)
  | case4 a ra b rb h h' ih =>
    intro ha hb
    have hba : atomCmp (rAt b) (rAt a) < 0 := by have := atomCmp_anti (rAt a) (rAt b); omega
    rw [List.map_cons] at hb ⊢
    refine rises_cons (fun y hy => ?_) (ih ha (rises_tail hb))
    obtain ⟨x, hx, rfl⟩ := List.mem_map.1 hy
    rcases merge_mem _ _ x hx with h1 | h1
    · rcases List.mem_cons.1 h1 with h2 | h2
      · rw [h2]; exact hba
      · exact atomCmp_strict hba (by have := rises_head (x := rAt a) (l := ra.map rAt) (by simpa using ha) _ (List.mem_map_of_mem h2); omega)
    · exact rises_head hb _ (List.mem_map_of_mem h1)
  | case5 a ra b rb h h' ih =>
    intro ha hb
    have hab : atomCmp (rAt a) (rAt b) ≤ 0 := by omega
    rw [List.map_cons] at ha hb ⊢
    refine rises_cons (fun y hy => ?_) (ih (rises_tail ha) (rises_tail hb))
    obtain ⟨x, hx, rfl⟩ := List.mem_map.1 hy
    rcases merge_mem _ _ x hx with h1 | h1
    · exact rises_head ha _ (List.mem_map_of_mem h1)
    · have h3 := rises_head hb _ (List.mem_map_of_mem h1)
      have h4 := atomCmp_on hab (show atomCmp (rAt b) (rAt x.1) ≤ 0 by omega)
      by_cases e : atomCmp (rAt a) (rAt x.1) = 0
      · have h5 := atomCmp_anti (rAt a) (rAt x.1)
        have h6 := atomCmp_strict h3 (show atomCmp (rAt x.1) (rAt a) ≤ 0 by omega)
        have h7 := atomCmp_anti (rAt b) (rAt a)
        omega
      · show atomCmp (rAt a) (rAt x.1) < 0
        omega

end Go.Proofs.YtogonjkklioaaaaGreatDoor

namespace Go.Proofs.YtogonjkklioaaaaGreatDoor
open Go.RowKit

theorem only_is (v : Nat) (z : Int) (hz : ((v : Nat) : Int) = z) (A B : Option Addr) (n c n' c' : Nat) (ra rb : List Rf) (w : World) (h : IsRefs w 0 w.heap.size A n c ra) (h' : IsRefs w 0 w.heap.size B n' c' rb) (hmax : ra.length + rb.length ≤ 1099511627776) :
    Calls Tryz.prog 55 #[.agg #[.slice A n c, .func (.func 88) #[] #[]], .agg #[.slice B n' c', .func (.func 88) #[] #[]], .int .i64 z] w (ListPost (selR v (mergeR ra rb)) w) := by
  subst hz
  exact only_any v A B n c n' c' ra rb w h h' hmax

theorem field_items (A : Option Addr) (n c : Nat) (W : World) : (Instr.field 92 (.agg #[.slice A n c, .func (.func 88) #[] #[]]) 0).run Tryz.prog W = .ok (.slice A n c) W := by kernel_rfl

/-- A change that is ok. -/
def changeB (xs ys : List At) : Bool := (factsB 300 xs && factsB 300 ys) && apartB xs ys

theorem changeB_no1 {xs ys : List At} (h : (!factsB 300 xs) = true) : changeB xs ys = false := by
  unfold changeB; rw [show factsB 300 xs = false by simpa using h]; rfl
theorem changeB_no2 {xs ys : List At} (h : (!factsB 300 ys) = true) : changeB xs ys = false := by
  unfold changeB; rw [show factsB 300 ys = false by simpa using h, Bool.and_false]; rfl
theorem changeB_is {xs ys : List At} (h : (!factsB 300 xs) = false) (h' : (!factsB 300 ys) = false) : changeB xs ys = apartB xs ys := by
  unfold changeB; rw [show factsB 300 xs = true by simpa using h, show factsB 300 ys = true by simpa using h']; rfl

set_option maxHeartbeats 4000000 in
theorem implChangeOk_any (A B : Option Addr) (n c n' c' : Nat) (xs ys : List At) (w : World) (h : IsAtoms w 0 w.heap.size A n c xs) (h' : IsAtoms w 0 w.heap.size B n' c' ys) :
    Calls Tryz.prog 26 #[.agg #[.slice A n c, .slice B n' c']] w (BoolPost (changeB xs ys) w) := by
  have H := Lib.hid h; have H' := Lib.hid h'; clear h h'
  have hw1 := below1 w (.cells #[.slice A n c, .slice B n' c'] 25)
  have X1 := Lib.hid (Box.new w (.slice A n c) (.slice B n' c') 25)
  go_enter Tryz.func26, Tryz.ntmps26
  go_wp2_with fail
  refine (implFactsOk_any A n c xs _ (H.out.up AtomE.stays hw1)).mono ?_; rintro e w2 ⟨rfl, hb2⟩
  have HB2 := belowThen hw1 hb2
  have X2 := Lib.hid (X1.out.later hb2); clear X1
  obtain ⟨b0, b1, b2⟩ := X2.out
  by_cases hx : (!factsB 300 xs) = true
  · have E := Lib.hid (changeB_no1 (ys := ys) hx)
    go_wp2
    go_ret; exact ⟨retB E.out.symm, HB2⟩
  · have hx' : (!factsB 300 xs) = false := by simpa using hx
    clear hx
    go_wp2_with fail
    refine (implFactsOk_any B n' c' ys _ (H'.out.up AtomE.stays HB2)).mono ?_; rintro e w3 ⟨rfl, hb3⟩
    have HB3 := belowThen HB2 hb3
    have X3 := Lib.hid (X2.out.later hb3); clear X2 b0 b1 b2
    obtain ⟨b0, b1, b2⟩ := X3.out
    by_cases hy : (!factsB 300 ys) = true
    · have E := Lib.hid (changeB_no2 (xs := xs) hy)
      go_wp2
      go_ret; exact ⟨retB E.out.symm, HB3⟩
    · have hy' : (!factsB 300 ys) = false := by simpa using hy
      clear hy
      have hrx := factsB_rises (show factsB 300 xs = true by simpa using hx')
      have hry := factsB_rises (show factsB 300 ys = true by simpa using hy')
      have hlx := factsB_len (show factsB 300 xs = true by simpa using hx')
      have hly := factsB_len (show factsB 300 ys = true by simpa using hy')
      obtain ⟨ra, R1, ea⟩ := refs_of H.out
      obtain ⟨rb, R2, eb⟩ := refs_of H'.out
      have hmax : ra.length + rb.length ≤ 1099511627776 := by
        have h1 : ra.length = xs.length := by rw [← ea]; simp
        have h2 : rb.length = ys.length := by rw [← eb]; simp
        omega
      have hbn := both_none (ra := ra) (rb := rb) (by rw [ea]; exact hrx) (by rw [eb]; exact hry)
      rw [ea, eb, ← changeB_is hx' hy'] at hbn
      have R1 := Lib.hid R1; have R2 := Lib.hid R2
      clear hrx hry hlx hly ea eb
      have HB3d := HB3.drew
      have x1 : w3.drew.cell? ⟨w.heap.size, 0, none⟩ = some (.slice A n c) := b1
      have x2 : w3.drew.cell? ⟨w.heap.size, 1, none⟩ = some (.slice B n' c') := b2
      have hz3 : w.heap.size < w3.drew.heap.size := b0
      obtain ⟨k, hk⟩ : ∃ k, (selR 2 (mergeR ra rb)).length = k := ⟨_, rfl⟩
      rw [hk] at hbn
      have HK := Lib.hid hk; clear hk
      by_cases hk0 : k = 0
      · subst hk0
        have E := Lib.hid (show changeB xs ys = true by rw [← hbn]; rfl)
        clear hbn
        go_wp2_with fail
        refine wp_region_held_drew (S := fun W => W.cell? ⟨w.heap.size, 0, none⟩ = some (.slice A n c) ∧ W.cell? ⟨w.heap.size, 1, none⟩ = some (.slice B n' c')) (by kernel_rfl) ⟨x1, x2⟩ ?_
        intro hS_
        refine takeV (i := 0) (v := .pointer (some ⟨w.heap.size, 0, none⟩)) (by (simp only [List.getElem?_toArray, List.getElem?_cons_zero]); rfl) (by kernel_rfl) (by kernel_rfl) (by kernel_rfl) (by rfl) (fun _ _ _ h => h) (Or.inl ⟨by rfl, ?_⟩) hS_ (by (simp only [List.setIfInBounds_toArray, List.set_cons_succ, List.set_cons_zero]); rfl) ?_
        · intro w_ hSw_; (try dsimp only at hSw_); go_simp
        refine takeV (i := 1) (v := .slice A n c) (by (simp only [List.getElem?_toArray, List.getElem?_cons_succ, List.getElem?_cons_zero]); rfl) (by kernel_rfl) (by kernel_rfl) (by kernel_rfl) (by rfl) (fun _ _ _ h => h) (Or.inl ⟨by rfl, ?_⟩) hS_ (by (simp only [List.setIfInBounds_toArray, List.set_cons_succ, List.set_cons_zero]); rfl) ?_
        · intro w_ hSw_; (try dsimp only at hSw_); go_simp
        refine takeV (i := 3) (v := .pointer (some ⟨w.heap.size, 1, none⟩)) (by (simp only [List.getElem?_toArray, List.getElem?_cons_succ, List.getElem?_cons_zero]); rfl) (by kernel_rfl) (by kernel_rfl) (by kernel_rfl) (by rfl) (fun _ _ _ h => h) (Or.inl ⟨by rfl, ?_⟩) hS_ (by (simp only [List.setIfInBounds_toArray, List.set_cons_succ, List.set_cons_zero]); rfl) ?_
        · intro w_ hSw_; (try dsimp only at hSw_); go_simp
        refine takeV (i := 4) (v := .slice B n' c') (by (simp only [List.getElem?_toArray, List.getElem?_cons_succ, List.getElem?_cons_zero]); rfl) (by kernel_rfl) (by kernel_rfl) (by kernel_rfl) (by rfl) (fun _ _ _ h => h) (Or.inl ⟨by rfl, ?_⟩) hS_ (by (simp only [List.setIfInBounds_toArray, List.set_cons_succ, List.set_cons_zero]); rfl) ?_
        · intro w_ hSw_; (try dsimp only at hSw_); go_simp
        refine wpAnyH_ready (rs := [2]) (by kernel_rfl) (by simp) ?_
        refine AllReadyH.cons (o := _) (by (simp only [List.getElem?_toArray, List.getElem?_cons_succ, List.getElem?_cons_zero]); rfl) (fun K_ hK_ => ?_) AllReadyH.nil
        rw [if_pos (by rfl)]
        go_simp
        go_at_call 54
        refine (factList_any A n c _).mono ?_; rintro e w4 ⟨rfl, hb4⟩
        have y1 := (hb4.cell (p := ⟨w.heap.size, 0, none⟩) (hz3)).trans x1
        have y2 := (hb4.cell (p := ⟨w.heap.size, 1, none⟩) (hz3)).trans x2
        have hz4 := Nat.lt_of_lt_of_le hz3 hb4.size
        have HB4 := belowThen HB3d hb4
        refine hK_.out _ _ ⟨y1, y2⟩ (fun hS2_ => ?_)
        clear hK_ hS_
        have hS_ := hS2_; clear hS2_
        refine wpAnyH_ready (rs := [5]) (by kernel_rfl) (by simp) ?_
        refine AllReadyH.cons (o := _) (by (simp only [List.getElem?_toArray, List.getElem?_cons_succ, List.getElem?_cons_zero]); rfl) (fun K_ hK_ => ?_) AllReadyH.nil
        rw [if_pos (by rfl)]
        go_simp
        go_at_call 54
        refine (factList_any B n' c' _).mono ?_; rintro e w5 ⟨rfl, hb5⟩
        have z1 := (hb5.cell (p := ⟨w.heap.size, 0, none⟩) (hz4)).trans y1
        have z2 := (hb5.cell (p := ⟨w.heap.size, 1, none⟩) (hz4)).trans y2
        have hz5 := Nat.lt_of_lt_of_le hz4 hb5.size
        have HB5 := belowThen HB4 hb5
        refine hK_.out _ _ ⟨z1, z2⟩ (fun hS2_ => ?_)
        clear hK_ hS_
        have hS_ := hS2_; clear hS2_
        refine wpAnyH_ready (rs := [6]) (by kernel_rfl) (by simp) ?_
        refine AllReadyH.cons (o := _) (by (simp only [List.getElem?_toArray, List.getElem?_cons_succ, List.getElem?_cons_zero]); rfl) (fun K_ hK_ => ?_) AllReadyH.nil
        rw [if_pos (by rfl)]
        go_simp
        go_at_call 55
        refine (only_is 2 2 rfl A B n c n' c' ra rb _ (R1.out.up RefE.stays HB5) (R2.out.up RefE.stays HB5) hmax).mono ?_; rintro e w6 ⟨A6, c6, rfl, _, hb6, _⟩
        rw [HK.out]
        have u1 := (hb6.cell (p := ⟨w.heap.size, 0, none⟩) (hz5)).trans z1
        have u2 := (hb6.cell (p := ⟨w.heap.size, 1, none⟩) (hz5)).trans z2
        have HB6 := belowThen HB5 hb6
        refine hK_.out _ _ ⟨u1, u2⟩ (fun hS2_ => ?_)
        clear hK_ hS_
        have hS_ := hS2_; clear hS2_
        refine takeV (i := 7) (v := .slice A6 0 c6) (by (simp only [List.getElem?_toArray, List.getElem?_cons_succ, List.getElem?_cons_zero]); rfl) (by kernel_rfl) (by kernel_rfl) (by kernel_rfl) (by rfl) (fun _ _ _ h => h) (Or.inl ⟨by rfl, ?_⟩) hS_ (by (simp only [List.setIfInBounds_toArray, List.set_cons_succ, List.set_cons_zero]); rfl) ?_
        · intro w_ hSw_; (try dsimp only at hSw_); go_simp; rw [field_items]; rfl
        refine takeV (i := 8) (v := .int .i64 ((0 : Nat) : Int)) (by (simp only [List.getElem?_toArray, List.getElem?_cons_succ, List.getElem?_cons_zero]); rfl) (by kernel_rfl) (by kernel_rfl) (by kernel_rfl) (by rfl) (fun _ _ _ h => h) (Or.inl ⟨by rfl, ?_⟩) hS_ (by (simp only [List.setIfInBounds_toArray, List.set_cons_succ, List.set_cons_zero]); rfl) ?_
        · intro w_ hSw_; (try dsimp only at hSw_); go_simp
        refine takeV (i := 9) (v := .bool true) (by (simp only [List.getElem?_toArray, List.getElem?_cons_succ, List.getElem?_cons_zero]); rfl) (by kernel_rfl) (by kernel_rfl) (by kernel_rfl) (by rfl) (fun _ _ _ h => h) (Or.inl ⟨by rfl, ?_⟩) hS_ (by (simp only [List.setIfInBounds_toArray, List.set_cons_succ, List.set_cons_zero]); rfl) ?_
        · intro w_ hSw_; (try dsimp only at hSw_); go_simp
        refine takeV (i := 10) (v := .bool true) (by (simp only [List.getElem?_toArray, List.getElem?_cons_succ, List.getElem?_cons_zero]); rfl) (by kernel_rfl) (by kernel_rfl) (by kernel_rfl) (by rfl) (fun _ _ _ h => h) (Or.inl ⟨by rfl, ?_⟩) hS_ (by (simp only [List.setIfInBounds_toArray, List.set_cons_succ, List.set_cons_zero]); rfl) ?_
        · intro w_ hSw_; (try dsimp only at hSw_); go_simp
        refine wpAnyH_done (by kernel_rfl) ?_ _
        go_wp2
        go_ret; exact ⟨retB E.out.symm, HB6⟩
      · have E := Lib.hid (show changeB xs ys = false by rw [← hbn]; exact decide_eq_false hk0)
        clear hbn
        have hki : (((k : Nat) : Int) == 0) = false := by rw [beq_eq_false_iff_ne]; omega
        go_wp2_with fail
        refine wp_region_held_drew (S := fun W => W.cell? ⟨w.heap.size, 0, none⟩ = some (.slice A n c) ∧ W.cell? ⟨w.heap.size, 1, none⟩ = some (.slice B n' c')) (by kernel_rfl) ⟨x1, x2⟩ ?_
        intro hS_
        refine takeV (i := 0) (v := .pointer (some ⟨w.heap.size, 0, none⟩)) (by (simp only [List.getElem?_toArray, List.getElem?_cons_zero]); rfl) (by kernel_rfl) (by kernel_rfl) (by kernel_rfl) (by rfl) (fun _ _ _ h => h) (Or.inl ⟨by rfl, ?_⟩) hS_ (by (simp only [List.setIfInBounds_toArray, List.set_cons_succ, List.set_cons_zero]); rfl) ?_
        · intro w_ hSw_; (try dsimp only at hSw_); go_simp
        refine takeV (i := 1) (v := .slice A n c) (by (simp only [List.getElem?_toArray, List.getElem?_cons_succ, List.getElem?_cons_zero]); rfl) (by kernel_rfl) (by kernel_rfl) (by kernel_rfl) (by rfl) (fun _ _ _ h => h) (Or.inl ⟨by rfl, ?_⟩) hS_ (by (simp only [List.setIfInBounds_toArray, List.set_cons_succ, List.set_cons_zero]); rfl) ?_
        · intro w_ hSw_; (try dsimp only at hSw_); go_simp
        refine takeV (i := 3) (v := .pointer (some ⟨w.heap.size, 1, none⟩)) (by (simp only [List.getElem?_toArray, List.getElem?_cons_succ, List.getElem?_cons_zero]); rfl) (by kernel_rfl) (by kernel_rfl) (by kernel_rfl) (by rfl) (fun _ _ _ h => h) (Or.inl ⟨by rfl, ?_⟩) hS_ (by (simp only [List.setIfInBounds_toArray, List.set_cons_succ, List.set_cons_zero]); rfl) ?_
        · intro w_ hSw_; (try dsimp only at hSw_); go_simp
        refine takeV (i := 4) (v := .slice B n' c') (by (simp only [List.getElem?_toArray, List.getElem?_cons_succ, List.getElem?_cons_zero]); rfl) (by kernel_rfl) (by kernel_rfl) (by kernel_rfl) (by rfl) (fun _ _ _ h => h) (Or.inl ⟨by rfl, ?_⟩) hS_ (by (simp only [List.setIfInBounds_toArray, List.set_cons_succ, List.set_cons_zero]); rfl) ?_
        · intro w_ hSw_; (try dsimp only at hSw_); go_simp
        refine wpAnyH_ready (rs := [2]) (by kernel_rfl) (by simp) ?_
        refine AllReadyH.cons (o := _) (by (simp only [List.getElem?_toArray, List.getElem?_cons_succ, List.getElem?_cons_zero]); rfl) (fun K_ hK_ => ?_) AllReadyH.nil
        rw [if_pos (by rfl)]
        go_simp
        go_at_call 54
        refine (factList_any A n c _).mono ?_; rintro e w4 ⟨rfl, hb4⟩
        have y1 := (hb4.cell (p := ⟨w.heap.size, 0, none⟩) (hz3)).trans x1
        have y2 := (hb4.cell (p := ⟨w.heap.size, 1, none⟩) (hz3)).trans x2
        have hz4 := Nat.lt_of_lt_of_le hz3 hb4.size
        have HB4 := belowThen HB3d hb4
        refine hK_.out _ _ ⟨y1, y2⟩ (fun hS2_ => ?_)
        clear hK_ hS_
        have hS_ := hS2_; clear hS2_
        refine wpAnyH_ready (rs := [5]) (by kernel_rfl) (by simp) ?_
        refine AllReadyH.cons (o := _) (by (simp only [List.getElem?_toArray, List.getElem?_cons_succ, List.getElem?_cons_zero]); rfl) (fun K_ hK_ => ?_) AllReadyH.nil
        rw [if_pos (by rfl)]
        go_simp
        go_at_call 54
        refine (factList_any B n' c' _).mono ?_; rintro e w5 ⟨rfl, hb5⟩
        have z1 := (hb5.cell (p := ⟨w.heap.size, 0, none⟩) (hz4)).trans y1
        have z2 := (hb5.cell (p := ⟨w.heap.size, 1, none⟩) (hz4)).trans y2
        have hz5 := Nat.lt_of_lt_of_le hz4 hb5.size
        have HB5 := belowThen HB4 hb5
        refine hK_.out _ _ ⟨z1, z2⟩ (fun hS2_ => ?_)
        clear hK_ hS_
        have hS_ := hS2_; clear hS2_
        refine wpAnyH_ready (rs := [6]) (by kernel_rfl) (by simp) ?_
        refine AllReadyH.cons (o := _) (by (simp only [List.getElem?_toArray, List.getElem?_cons_succ, List.getElem?_cons_zero]); rfl) (fun K_ hK_ => ?_) AllReadyH.nil
        rw [if_pos (by rfl)]
        go_simp
        go_at_call 55
        refine (only_is 2 2 rfl A B n c n' c' ra rb _ (R1.out.up RefE.stays HB5) (R2.out.up RefE.stays HB5) hmax).mono ?_; rintro e w6 ⟨A6, c6, rfl, _, hb6, _⟩
        rw [HK.out]
        have u1 := (hb6.cell (p := ⟨w.heap.size, 0, none⟩) (hz5)).trans z1
        have u2 := (hb6.cell (p := ⟨w.heap.size, 1, none⟩) (hz5)).trans z2
        have HB6 := belowThen HB5 hb6
        refine hK_.out _ _ ⟨u1, u2⟩ (fun hS2_ => ?_)
        clear hK_ hS_
        have hS_ := hS2_; clear hS2_
        refine takeV (i := 7) (v := .slice A6 k c6) (by (simp only [List.getElem?_toArray, List.getElem?_cons_succ, List.getElem?_cons_zero]); rfl) (by kernel_rfl) (by kernel_rfl) (by kernel_rfl) (by rfl) (fun _ _ _ h => h) (Or.inl ⟨by rfl, ?_⟩) hS_ (by (simp only [List.setIfInBounds_toArray, List.set_cons_succ, List.set_cons_zero]); rfl) ?_
        · intro w_ hSw_; (try dsimp only at hSw_); go_simp; rw [field_items]; rfl
        refine takeV (i := 8) (v := .int .i64 ((k : Nat) : Int)) (by (simp only [List.getElem?_toArray, List.getElem?_cons_succ, List.getElem?_cons_zero]); rfl) (by kernel_rfl) (by kernel_rfl) (by kernel_rfl) (by rfl) (fun _ _ _ h => h) (Or.inl ⟨by rfl, ?_⟩) hS_ (by (simp only [List.setIfInBounds_toArray, List.set_cons_succ, List.set_cons_zero]); rfl) ?_
        · intro w_ hSw_; (try dsimp only at hSw_); go_simp
        refine takeV (i := 9) (v := .bool false) (by (simp only [List.getElem?_toArray, List.getElem?_cons_succ, List.getElem?_cons_zero]); rfl) (by kernel_rfl) (by kernel_rfl) (by kernel_rfl) (by rfl) (fun _ _ _ h => h) (Or.inl ⟨by rfl, ?_⟩) hS_ (by (simp only [List.setIfInBounds_toArray, List.set_cons_succ, List.set_cons_zero]); rfl) ?_
        · intro w_ hSw_; (try dsimp only at hSw_); go_simp
        refine takeV (i := 10) (v := .bool false) (by (simp only [List.getElem?_toArray, List.getElem?_cons_succ, List.getElem?_cons_zero]); rfl) (by kernel_rfl) (by kernel_rfl) (by kernel_rfl) (by rfl) (fun _ _ _ h => h) (Or.inl ⟨by rfl, ?_⟩) hS_ (by (simp only [List.setIfInBounds_toArray, List.set_cons_succ, List.set_cons_zero]); rfl) ?_
        · intro w_ hSw_; (try dsimp only at hSw_); go_simp
        refine wpAnyH_done (by kernel_rfl) ?_ _
        go_wp2
        go_ret; exact ⟨retB E.out.symm, HB6⟩

theorem apart_snoc {xs ys : List At} {k : Nat} {q : At} (h : xs[k]? = some q) (hr : apartB (xs.take k) ys = true) (hq : hasB ys q = false) : apartB (xs.take (k + 1)) ys = true :=
  allB_snoc (P := fun a => !hasB ys a) h hr (by simp [hq])

theorem apart_no {xs ys : List At} {k : Nat} {q : At} (h : xs[k]? = some q) (hq : hasB ys q = true) : apartB xs ys = false :=
  allB_no (P := fun a => !hasB ys a) h (by simp [hq])

theorem apart_end {xs ys : List At} {k n : Nat} (hl : xs.length = n) (hk : ¬ k < n) (hr : apartB (xs.take k) ys = true) : apartB xs ys = true := by
  rwa [List.take_of_length_le (by omega)] at hr

set_option maxHeartbeats 4000000 in
theorem specChangeOk_any (A B : Option Addr) (n c n' c' : Nat) (xs ys : List At) (w : World) (h : IsAtoms w 0 w.heap.size A n c xs) (h' : IsAtoms w 0 w.heap.size B n' c' ys) :
    Calls Tryz.prog 11 #[.agg #[.slice A n c, .slice B n' c']] w (BoolPost (changeB xs ys) w) := by
  have hn := h.len
  unfold maxLen at hn
  have H := Lib.hid h; have H' := Lib.hid h'; clear h h'
  have hw1 := below1 w (.cells #[.slice A n c, .slice B n' c'] 25)
  have X1 := Lib.hid (Box.new w (.slice A n c) (.slice B n' c') 25)
  go_enter Tryz.func11, Tryz.ntmps11
  go_wp2_with fail
  refine (specFactsOk_any A n c xs _ (H.out.up AtomE.stays hw1)).mono ?_; rintro e w2 ⟨rfl, hb2⟩
  have HB2 := belowThen hw1 hb2
  have X2 := Lib.hid (X1.out.later hb2); clear X1
  obtain ⟨b0, b1, b2⟩ := X2.out
  by_cases hx : (!factsB 300 xs) = true
  · have E := Lib.hid (changeB_no1 (ys := ys) hx)
    go_wp2
    go_ret; exact ⟨retB E.out.symm, HB2⟩
  · have hx' : (!factsB 300 xs) = false := by simpa using hx
    clear hx
    go_wp2_with fail
    refine (specFactsOk_any B n' c' ys _ (H'.out.up AtomE.stays HB2)).mono ?_; rintro e w3 ⟨rfl, hb3⟩
    have HB3 := belowThen HB2 hb3
    have X3 := Lib.hid (X2.out.later hb3); clear X2 b0 b1 b2
    obtain ⟨b0, b1, b2⟩ := X3.out
    by_cases hy : (!factsB 300 ys) = true
    · have E := Lib.hid (changeB_no2 (xs := xs) hy)
      go_wp2
      go_ret; exact ⟨retB E.out.symm, HB3⟩
    · have hy' : (!factsB 300 ys) = false := by simpa using hy
      clear hy
      have hry := Lib.hid (factsB_rises (show factsB 300 ys = true by simpa using hy'))
      have E := Lib.hid (changeB_is hx' hy')
      clear hb2 hb3 hw1 HB2
      go_wp2
      clear b0 b1 b2
      go_loopw [3] (fun i wr => ∃ k : Nat, k ≤ n ∧ i = .int .i64 k ∧ apartB (xs.take k) ys = true ∧ Below w3.heap.size w3 wr) (fun i _ => n - (intOf i).toNat)
      case atStart => exact ⟨0, Nat.zero_le _, rfl, rfl, Below.refl _ _⟩
      case round =>
        obtain ⟨k, hk, rfl, hd, hb⟩ := hrel
        have HD := Lib.hid hd; clear hd
        have HB := belowThen HB3 hb
        obtain ⟨b0, b1, b2⟩ := X3.out.later hb
        by_cases hlt : k < n
        · obtain ⟨p, q, hA, hlo, hhi, hg, hE⟩ := (H.out.below AtomE.stays HB (Nat.le_refl _)).at_ hlt
          obtain ⟨A', m', d', d1, d3, d4, d5⟩ := hE.out
          clear hE
          subst hA
          have HG := Lib.hid hg; clear hg
          have hpz : p.block < wr.heap.size := Nat.lt_of_lt_of_le hhi HB.size
          have hbd := hb.drew
          have x1 : wr.drew.cell? ⟨w.heap.size, 0, none⟩ = some (.slice (some p) n c) := b1
          have x2 : wr.drew.cell? ⟨w.heap.size, 1, none⟩ = some (.slice B n' c') := b2
          have x3 : wr.drew.cell? (p.add (k * 2)) = some (.string q.1) := d1
          have x4 : wr.drew.cell? ⟨(p.add (k * 2)).block, (p.add (k * 2)).off + 1, none⟩ = some (.slice A' m' d') := d4
          have HT := Lib.hid (d5.keep (w' := wr.drew) (lo' := 0) (hi' := wr.drew.heap.size) (fun _ _ _ => rfl) (Nat.le_refl _) HB.size); clear d5
          have HU := Lib.hid (show IsAtoms wr.drew 0 wr.drew.heap.size B n' c' ys from H'.out.up AtomE.stays HB.drew)
          clear d1 d4
          cases hh : hasB ys q
          · have HH := Lib.hid hh; clear hh
            go_wp2
            refine wp_region_held_drew (S := fun W => (W.cell? ⟨w.heap.size, 0, none⟩ = some (.slice (some p) n c) ∧ W.cell? ⟨w.heap.size, 1, none⟩ = some (.slice B n' c')) ∧ W.cell? (p.add (k * 2)) = some (.string q.1) ∧ W.cell? ⟨(p.add (k * 2)).block, (p.add (k * 2)).off + 1, none⟩ = some (.slice A' m' d')) (by kernel_rfl) ⟨⟨x1, x2⟩, x3, x4⟩ ?_
            intro hS_
            refine takeV (i := 0) (v := .pointer (some ⟨w.heap.size, 1, none⟩)) (by (simp only [List.getElem?_toArray, List.getElem?_cons_zero]); rfl) (by kernel_rfl) (by kernel_rfl) (by kernel_rfl) (by rfl) (fun _ _ _ h => h) (Or.inl ⟨by rfl, ?_⟩) hS_ (by (simp only [List.setIfInBounds_toArray, List.set_cons_succ, List.set_cons_zero]); rfl) ?_
            · intro w_ hSw_; (try dsimp only at hSw_); go_simp
            refine takeV (i := 1) (v := .slice B n' c') (by (simp only [List.getElem?_toArray, List.getElem?_cons_succ, List.getElem?_cons_zero]); rfl) (by kernel_rfl) (by kernel_rfl) (by kernel_rfl) (by rfl) (fun _ _ _ h => h) (Or.inl ⟨by rfl, ?_⟩) hS_ (by (simp only [List.setIfInBounds_toArray, List.set_cons_succ, List.set_cons_zero]); rfl) ?_
            · intro w_ hSw_; (try dsimp only at hSw_); go_simp
            refine takeV (i := 2) (v := .pointer (some ⟨w.heap.size, 0, none⟩)) (by (simp only [List.getElem?_toArray, List.getElem?_cons_succ, List.getElem?_cons_zero]); rfl) (by kernel_rfl) (by kernel_rfl) (by kernel_rfl) (by rfl) (fun _ _ _ h => h) (Or.inl ⟨by rfl, ?_⟩) hS_ (by (simp only [List.setIfInBounds_toArray, List.set_cons_succ, List.set_cons_zero]); rfl) ?_
            · intro w_ hSw_; (try dsimp only at hSw_); go_simp
            refine takeV (i := 3) (v := .slice (some p) n c) (by (simp only [List.getElem?_toArray, List.getElem?_cons_succ, List.getElem?_cons_zero]); rfl) (by kernel_rfl) (by kernel_rfl) (by kernel_rfl) (by rfl) (fun _ _ _ h => h) (Or.inl ⟨by rfl, ?_⟩) hS_ (by (simp only [List.setIfInBounds_toArray, List.set_cons_succ, List.set_cons_zero]); rfl) ?_
            · intro w_ hSw_; (try dsimp only at hSw_); go_simp
            refine takeV (i := 4) (v := .int .i64 (k : Int)) (by (simp only [List.getElem?_toArray, List.getElem?_cons_succ, List.getElem?_cons_zero]); rfl) (by kernel_rfl) (by kernel_rfl) (by kernel_rfl) (by rfl) (fun _ _ _ h => h) (Or.inl ⟨by rfl, ?_⟩) hS_ (by (simp only [List.setIfInBounds_toArray, List.set_cons_succ, List.set_cons_zero]); rfl) ?_
            · intro w_ hSw_; (try dsimp only at hSw_); go_simp
            refine takeV (i := 5) (v := .pointer (some (p.add (k * 2)))) (by (simp only [List.getElem?_toArray, List.getElem?_cons_succ, List.getElem?_cons_zero]); rfl) (by kernel_rfl) (by kernel_rfl) (by kernel_rfl) (by rfl) (fun _ _ _ h => h) (Or.inl ⟨by rfl, ?_⟩) hS_ (by (simp only [List.setIfInBounds_toArray, List.set_cons_succ, List.set_cons_zero]); rfl) ?_
            · intro w_ hSw_; (try dsimp only at hSw_); go_simp
            refine takeV (i := 6) (v := .agg #[.string q.1, .slice A' m' d']) (by (simp only [List.getElem?_toArray, List.getElem?_cons_succ, List.getElem?_cons_zero]); rfl) (by kernel_rfl) (by kernel_rfl) (by kernel_rfl) (by rfl) (fun _ _ _ h => h) (Or.inl ⟨by rfl, ?_⟩) hS_ (by (simp only [List.setIfInBounds_toArray, List.set_cons_succ, List.set_cons_zero]); rfl) ?_
            · intro w_ hSw_; (try dsimp only at hSw_); go_simp
            refine wpAnyH_ready (rs := [7]) (by kernel_rfl) (by simp) ?_
            refine AllReadyH.cons (o := _) (by (simp only [List.getElem?_toArray, List.getElem?_cons_succ, List.getElem?_cons_zero]); rfl) (fun K_ hK_ => ?_) AllReadyH.nil
            rw [if_pos (by rfl)]
            go_simp
            go_at_call 35
            refine (l3Has_any B n' c' ys q.1 A' m' d' q.2 _ HU.out HT.out hry.out).mono ?_; rintro e w4 ⟨rfl, hb4⟩
            have y1 := (hb4.cell (p := ⟨w.heap.size, 0, none⟩) b0).trans b1
            have y2 := (hb4.cell (p := ⟨w.heap.size, 1, none⟩) b0).trans b2
            have y3 := (hb4.cell (p := p.add (k * 2)) (by rw [block_add]; exact hpz)).trans x3
            have y4 := (hb4.cell (p := ⟨(p.add (k * 2)).block, (p.add (k * 2)).off + 1, none⟩) (by rw [block_add]; exact hpz)).trans x4
            rw [HH.out]
            refine hK_.out _ _ ⟨⟨y1, y2⟩, y3, y4⟩ (fun hS2_ => ?_)
            clear hK_ hS_
            have hS_ := hS2_; clear hS2_
            refine wpAnyH_done (by kernel_rfl) ?_ _
            go_wp2
            go_roundw
            case rel => exact ⟨k + 1, by omega, by go_num, apart_snoc HG.out HD.out HH.out, belowThen hbd hb4⟩
            case measure => simp [intOf]; omega
          · have HH := Lib.hid hh; clear hh
            go_wp2
            refine wp_region_held_drew (S := fun W => (W.cell? ⟨w.heap.size, 0, none⟩ = some (.slice (some p) n c) ∧ W.cell? ⟨w.heap.size, 1, none⟩ = some (.slice B n' c')) ∧ W.cell? (p.add (k * 2)) = some (.string q.1) ∧ W.cell? ⟨(p.add (k * 2)).block, (p.add (k * 2)).off + 1, none⟩ = some (.slice A' m' d')) (by kernel_rfl) ⟨⟨x1, x2⟩, x3, x4⟩ ?_
            intro hS_
            refine takeV (i := 0) (v := .pointer (some ⟨w.heap.size, 1, none⟩)) (by (simp only [List.getElem?_toArray, List.getElem?_cons_zero]); rfl) (by kernel_rfl) (by kernel_rfl) (by kernel_rfl) (by rfl) (fun _ _ _ h => h) (Or.inl ⟨by rfl, ?_⟩) hS_ (by (simp only [List.setIfInBounds_toArray, List.set_cons_succ, List.set_cons_zero]); rfl) ?_
            · intro w_ hSw_; (try dsimp only at hSw_); go_simp
            refine takeV (i := 1) (v := .slice B n' c') (by (simp only [List.getElem?_toArray, List.getElem?_cons_succ, List.getElem?_cons_zero]); rfl) (by kernel_rfl) (by kernel_rfl) (by kernel_rfl) (by rfl) (fun _ _ _ h => h) (Or.inl ⟨by rfl, ?_⟩) hS_ (by (simp only [List.setIfInBounds_toArray, List.set_cons_succ, List.set_cons_zero]); rfl) ?_
            · intro w_ hSw_; (try dsimp only at hSw_); go_simp
            refine takeV (i := 2) (v := .pointer (some ⟨w.heap.size, 0, none⟩)) (by (simp only [List.getElem?_toArray, List.getElem?_cons_succ, List.getElem?_cons_zero]); rfl) (by kernel_rfl) (by kernel_rfl) (by kernel_rfl) (by rfl) (fun _ _ _ h => h) (Or.inl ⟨by rfl, ?_⟩) hS_ (by (simp only [List.setIfInBounds_toArray, List.set_cons_succ, List.set_cons_zero]); rfl) ?_
            · intro w_ hSw_; (try dsimp only at hSw_); go_simp
            refine takeV (i := 3) (v := .slice (some p) n c) (by (simp only [List.getElem?_toArray, List.getElem?_cons_succ, List.getElem?_cons_zero]); rfl) (by kernel_rfl) (by kernel_rfl) (by kernel_rfl) (by rfl) (fun _ _ _ h => h) (Or.inl ⟨by rfl, ?_⟩) hS_ (by (simp only [List.setIfInBounds_toArray, List.set_cons_succ, List.set_cons_zero]); rfl) ?_
            · intro w_ hSw_; (try dsimp only at hSw_); go_simp
            refine takeV (i := 4) (v := .int .i64 (k : Int)) (by (simp only [List.getElem?_toArray, List.getElem?_cons_succ, List.getElem?_cons_zero]); rfl) (by kernel_rfl) (by kernel_rfl) (by kernel_rfl) (by rfl) (fun _ _ _ h => h) (Or.inl ⟨by rfl, ?_⟩) hS_ (by (simp only [List.setIfInBounds_toArray, List.set_cons_succ, List.set_cons_zero]); rfl) ?_
            · intro w_ hSw_; (try dsimp only at hSw_); go_simp
            refine takeV (i := 5) (v := .pointer (some (p.add (k * 2)))) (by (simp only [List.getElem?_toArray, List.getElem?_cons_succ, List.getElem?_cons_zero]); rfl) (by kernel_rfl) (by kernel_rfl) (by kernel_rfl) (by rfl) (fun _ _ _ h => h) (Or.inl ⟨by rfl, ?_⟩) hS_ (by (simp only [List.setIfInBounds_toArray, List.set_cons_succ, List.set_cons_zero]); rfl) ?_
            · intro w_ hSw_; (try dsimp only at hSw_); go_simp
            refine takeV (i := 6) (v := .agg #[.string q.1, .slice A' m' d']) (by (simp only [List.getElem?_toArray, List.getElem?_cons_succ, List.getElem?_cons_zero]); rfl) (by kernel_rfl) (by kernel_rfl) (by kernel_rfl) (by rfl) (fun _ _ _ h => h) (Or.inl ⟨by rfl, ?_⟩) hS_ (by (simp only [List.setIfInBounds_toArray, List.set_cons_succ, List.set_cons_zero]); rfl) ?_
            · intro w_ hSw_; (try dsimp only at hSw_); go_simp
            refine wpAnyH_ready (rs := [7]) (by kernel_rfl) (by simp) ?_
            refine AllReadyH.cons (o := _) (by (simp only [List.getElem?_toArray, List.getElem?_cons_succ, List.getElem?_cons_zero]); rfl) (fun K_ hK_ => ?_) AllReadyH.nil
            rw [if_pos (by rfl)]
            go_simp
            go_at_call 35
            refine (l3Has_any B n' c' ys q.1 A' m' d' q.2 _ HU.out HT.out hry.out).mono ?_; rintro e w4 ⟨rfl, hb4⟩
            have y1 := (hb4.cell (p := ⟨w.heap.size, 0, none⟩) b0).trans b1
            have y2 := (hb4.cell (p := ⟨w.heap.size, 1, none⟩) b0).trans b2
            have y3 := (hb4.cell (p := p.add (k * 2)) (by rw [block_add]; exact hpz)).trans x3
            have y4 := (hb4.cell (p := ⟨(p.add (k * 2)).block, (p.add (k * 2)).off + 1, none⟩) (by rw [block_add]; exact hpz)).trans x4
            rw [HH.out]
            refine hK_.out _ _ ⟨⟨y1, y2⟩, y3, y4⟩ (fun hS2_ => ?_)
            clear hK_ hS_
            have hS_ := hS2_; clear hS2_
            refine wpAnyH_done (by kernel_rfl) ?_ _
            go_wp2
            go_ret; exact ⟨retB (by rw [E.out, apart_no HG.out HH.out]), belowThen HB3 (belowThen hbd hb4)⟩
        · go_wp2
          go_ret; exact ⟨retB (by rw [E.out, apart_end H.out.1 hlt HD.out]), HB⟩

end Go.Proofs.YtogonjkklioaaaaGreatDoor

namespace Go.Proofs.YtogonjkklioaaaaGreatDoor
open Go.RowKit

/-- What ChangePut tells. -/
def chB (xs ys : List At) : List UInt8 := if changeB xs ys = true then chL xs ys else []

theorem change_put {xs ys : List At} (h : changeB xs ys = true) : xs.length ≤ 300 ∧ ys.length ≤ 300 ∧ (∀ a ∈ xs, atomB a = true) ∧ ∀ a ∈ ys, atomB a = true := by
  unfold changeB factsB at h
  simp only [Bool.and_eq_true, decide_eq_true_eq, List.all_eq_true] at h
  obtain ⟨⟨⟨⟨h1, _⟩, h2⟩, ⟨h3, _⟩, h4⟩, _⟩ := h
  have f : ∀ a, factB a = true → atomB a = true := fun a h => by unfold factB at h; simp only [Bool.and_eq_true] at h; exact h.2
  exact ⟨h2, h4, fun a ha => f a (h1 a ha), fun a ha => f a (h3 a ha)⟩

theorem put_small {a : At} (h : atomB a = true) : (textL a).length ≤ 128 := Nat.le_trans (textL_le h) (by decide)

set_option maxRecDepth 100000 in
set_option maxHeartbeats 2000000 in
theorem specChangePut_any (A : Option Addr) (n c : Nat) (B : Option Addr) (m d : Nat) (xs ys : List At) (w : World) (h : IsAtoms w 0 w.heap.size A n c xs) (h' : IsAtoms w 0 w.heap.size B m d ys) :
    Calls Tryz.prog 10 #[.agg #[.slice A n c, .slice B m d]] w (StrPost (chB xs ys) w) := by
  have LX := Lib.hid h.1; have LY := Lib.hid h'.1
  have HX := Lib.hid h; have HY := Lib.hid h'
  clear h h'
  have hb0 := below1 w (.cells #[.slice A n c, .slice B m d] 25)
  have X0 := Lib.hid (Box.new w (.slice A n c) (.slice B m d) 25)
  go_enter Tryz.func10, Tryz.ntmps10
  go_wp2_with fail
  refine (specChangeOk_any A B n c m d xs ys _ (HX.out.up AtomE.stays hb0) (HY.out.up AtomE.stays hb0)).mono ?_; rintro e w1 ⟨rfl, hb1⟩
  have HB1 := belowThen hb0 hb1
  have X1 := Lib.hid (X0.out.later hb1)
  obtain ⟨u0, u1, u2⟩ := X1.out
  clear hb1 X0
  cases hc : changeB xs ys
  · have E := Lib.hid (show chB xs ys = [] by unfold chB; rw [hc]; rfl)
    clear hc
    go_wp2
    go_ret; exact ⟨by rw [E.out]; rfl, HB1⟩
  · have E := Lib.hid (show chB xs ys = chL xs ys by unfold chB; rw [hc]; rfl)
    have HC := Lib.hid (change_put hc)
    clear hc
    go_wp2_with fail
    refine (l8Put_any A n c B m d xs ys w1 (HX.out.up AtomE.stays HB1) (HY.out.up AtomE.stays HB1) (by rw [← LX.out]; exact HC.out.1) (by rw [← LY.out]; exact HC.out.2.1) (fun a ha => put_small (HC.out.2.2.1 a ha)) (fun a ha => put_small (HC.out.2.2.2 a ha))).mono ?_; rintro e w2 ⟨rfl, hb2⟩
    have HB2 := belowThen HB1 hb2
    clear hb2
    go_wp2
    go_ret; exact ⟨by rw [E.out]; rfl, HB2⟩

end Go.Proofs.YtogonjkklioaaaaGreatDoor
