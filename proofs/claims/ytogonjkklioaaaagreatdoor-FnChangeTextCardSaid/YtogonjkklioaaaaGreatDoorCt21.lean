/-
  Texts of one claim, put together.
-/
import Derived.Test.YtogonjkklioaaaaGreatDoorCt13
import Derived.Test.YtogonjkklioaaaaGreatDoorCt6
import Derived.Test.YtogonjkklioaaaaGreatDoorCt2
import Derived.Test.YtogonjkklioaaaaGreatDoorCt20
namespace Go.Proofs.YtogonjkklioaaaaGreatDoor
open Go.RowKit

theorem only_is (v : Nat) (z : Int) (hz : ((v : Nat) : Int) = z) (A B : Option Addr) (n c n' c' : Nat) (ra rb : List Rf) (w : World) (h : IsRefs w 0 w.heap.size A n c ra) (h' : IsRefs w 0 w.heap.size B n' c' rb) (hmax : ra.length + rb.length ≤ 1099511627776) :
    Calls Tryz.prog 55 #[.agg #[.slice A n c, .func (.func 88) #[] #[]], .agg #[.slice B n' c', .func (.func 88) #[] #[]], .int .i64 z] w (ListPost (selR v (mergeR ra rb)) w) := by
  subst hz
  exact only_any v A B n c n' c' ra rb w h h' hmax

theorem field_items (A : Option Addr) (n c : Nat) (W : World) : (Instr.field 92 (.agg #[.slice A n c, .func (.func 88) #[] #[]]) 0).run Tryz.prog W = .ok (.slice A n c) W := by kernel_rfl

/-- A change that is ok. -/
def changeB (xs ys : List At) : Bool := (factsB 300 xs && factsB 300 ys) && apartB xs ys

theorem changeB_no1 {xs ys : List At} (h : (!factsB 300 xs) = true) : changeB xs ys = false := by
  unfold changeB; rw [show factsB 300 xs = false by simpa using h]; rfl
theorem changeB_no2 {xs ys : List At} (h : (!factsB 300 ys) = true) : changeB xs ys = false := by
  unfold changeB; rw [show factsB 300 ys = false by simpa using h, Bool.and_false]; rfl
theorem changeB_is {xs ys : List At} (h : (!factsB 300 xs) = false) (h' : (!factsB 300 ys) = false) : changeB xs ys = apartB xs ys := by
  unfold changeB; rw [show factsB 300 xs = true by simpa using h, show factsB 300 ys = true by simpa using h']; rfl

set_option maxHeartbeats 4000000 in
theorem implChangeOk_any (A B : Option Addr) (n c n' c' : Nat) (xs ys : List At) (w : World) (h : IsAtoms w 0 w.heap.size A n c xs) (h' : IsAtoms w 0 w.heap.size B n' c' ys) :
    Calls Tryz.prog 26 #[.agg #[.slice A n c, .slice B n' c']] w (BoolPost (changeB xs ys) w) := by
  have H := Lib.hid h; have H' := Lib.hid h'; clear h h'
  have hw1 := below1 w (.cells #[.slice A n c, .slice B n' c'] 25)
  have X1 := Lib.hid (Box.new w (.slice A n c) (.slice B n' c') 25)
  go_enter Tryz.func26, Tryz.ntmps26
  go_wp2_with fail
  refine (implFactsOk_any A n c xs _ (H.out.up AtomE.stays hw1)).mono ?_; rintro e w2 ⟨rfl, hb2⟩
  have HB2 := belowThen hw1 hb2
  have X2 := Lib.hid (X1.out.later hb2); clear X1
  obtain ⟨b0, b1, b2⟩ := X2.out
  by_cases hx : (!factsB 300 xs) = true
  · have E := Lib.hid (changeB_no1 (ys := ys) hx)
    go_wp2
    go_ret; exact ⟨retB E.out.symm, HB2⟩
  · have hx' : (!factsB 300 xs) = false := by simpa using hx
    clear hx
    go_wp2_with fail
    refine (implFactsOk_any B n' c' ys _ (H'.out.up AtomE.stays HB2)).mono ?_; rintro e w3 ⟨rfl, hb3⟩
    have HB3 := belowThen HB2 hb3
    have X3 := Lib.hid (X2.out.later hb3); clear X2 b0 b1 b2
    obtain ⟨b0, b1, b2⟩ := X3.out
    by_cases hy : (!factsB 300 ys) = true
    · have E := Lib.hid (changeB_no2 (xs := xs) hy)
      go_wp2
      go_ret; exact ⟨retB E.out.symm, HB3⟩
    · have hy' : (!factsB 300 ys) = false := by simpa using hy
      clear hy
      have hrx := factsB_rises (show factsB 300 xs = true by simpa using hx')
      have hry := factsB_rises (show factsB 300 ys = true by simpa using hy')
      have hlx := factsB_len (show factsB 300 xs = true by simpa using hx')
      have hly := factsB_len (show factsB 300 ys = true by simpa using hy')
      obtain ⟨ra, R1, ea⟩ := refs_of H.out
      obtain ⟨rb, R2, eb⟩ := refs_of H'.out
      have hmax : ra.length + rb.length ≤ 1099511627776 := by
        have h1 : ra.length = xs.length := by rw [← ea]; simp
        have h2 : rb.length = ys.length := by rw [← eb]; simp
        omega
      have hbn := both_none (ra := ra) (rb := rb) (by rw [ea]; exact hrx) (by rw [eb]; exact hry)
      rw [ea, eb, ← changeB_is hx' hy'] at hbn
      have R1 := Lib.hid R1; have R2 := Lib.hid R2
      clear hrx hry hlx hly ea eb
      have HB3d := HB3.drew
      have x1 : w3.drew.cell? ⟨w.heap.size, 0, none⟩ = some (.slice A n c) := b1
      have x2 : w3.drew.cell? ⟨w.heap.size, 1, none⟩ = some (.slice B n' c') := b2
      have hz3 : w.heap.size < w3.drew.heap.size := b0
      obtain ⟨k, hk⟩ : ∃ k, (selR 2 (mergeR ra rb)).length = k := ⟨_, rfl⟩
      rw [hk] at hbn
      have HK := Lib.hid hk; clear hk
      by_cases hk0 : k = 0
      · subst hk0
        have E := Lib.hid (show changeB xs ys = true by rw [← hbn]; rfl)
        clear hbn
        go_wp2_with fail
        refine wp_region_held_drew (S := fun W => W.cell? ⟨w.heap.size, 0, none⟩ = some (.slice A n c) ∧ W.cell? ⟨w.heap.size, 1, none⟩ = some (.slice B n' c')) (by kernel_rfl) ⟨x1, x2⟩ ?_
        intro hS_
        refine takeV (i := 0) (v := .pointer (some ⟨w.heap.size, 0, none⟩)) (by (simp only [List.getElem?_toArray, List.getElem?_cons_zero]); rfl) (by kernel_rfl) (by kernel_rfl) (by kernel_rfl) (by rfl) (fun _ _ _ h => h) (Or.inl ⟨by rfl, ?_⟩) hS_ (by (simp only [List.setIfInBounds_toArray, List.set_cons_succ, List.set_cons_zero]); rfl) ?_
        · intro w_ hSw_; (try dsimp only at hSw_); go_simp
        refine takeV (i := 1) (v := .slice A n c) (by (simp only [List.getElem?_toArray, List.getElem?_cons_succ, List.getElem?_cons_zero]); rfl) (by kernel_rfl) (by kernel_rfl) (by kernel_rfl) (by rfl) (fun _ _ _ h => h) (Or.inl ⟨by rfl, ?_⟩) hS_ (by (simp only [List.setIfInBounds_toArray, List.set_cons_succ, List.set_cons_zero]); rfl) ?_
        · intro w_ hSw_; (try dsimp only at hSw_); go_simp
        refine takeV (i := 3) (v := .pointer (some ⟨w.heap.size, 1, none⟩)) (by (simp only [List.getElem?_toArray, List.getElem?_cons_succ, List.getElem?_cons_zero]); rfl) (by kernel_rfl) (by kernel_rfl) (by kernel_rfl) (by rfl) (fun _ _ _ h => h) (Or.inl ⟨by rfl, ?_⟩) hS_ (by (simp only [List.setIfInBounds_toArray, List.set_cons_succ, List.set_cons_zero]); rfl) ?_
        · intro w_ hSw_; (try dsimp only at hSw_); go_simp
        refine takeV (i := 4) (v := .slice B n' c') (by (simp only [List.getElem?_toArray, List.getElem?_cons_succ, List.getElem?_cons_zero]); rfl) (by kernel_rfl) (by kernel_rfl) (by kernel_rfl) (by rfl) (fun _ _ _ h => h) (Or.inl ⟨by rfl, ?_⟩) hS_ (by (simp only [List.setIfInBounds_toArray, List.set_cons_succ, List.set_cons_zero]); rfl) ?_
        · intro w_ hSw_; (try dsimp only at hSw_); go_simp
        refine wpAnyH_ready (rs := [2]) (by kernel_rfl) (by simp) ?_
        refine AllReadyH.cons (o := _) (by (simp only [List.getElem?_toArray, List.getElem?_cons_succ, List.getElem?_cons_zero]); rfl) (fun K_ hK_ => ?_) AllReadyH.nil
        rw [if_pos (by rfl)]
        go_simp
        go_at_call 54
        refine (factList_any A n c _).mono ?_; rintro e w4 ⟨rfl, hb4⟩
        have y1 := (hb4.cell (p := ⟨w.heap.size, 0, none⟩) (hz3)).trans x1
        have y2 := (hb4.cell (p := ⟨w.heap.size, 1, none⟩) (hz3)).trans x2
        have hz4 := Nat.lt_of_lt_of_le hz3 hb4.size
        have HB4 := belowThen HB3d hb4
        refine hK_.out _ _ ⟨y1, y2⟩ (fun hS2_ => ?_)
        clear hK_ hS_
        have hS_ := hS2_; clear hS2_
        refine wpAnyH_ready (rs := [5]) (by kernel_rfl) (by simp) ?_
        refine AllReadyH.cons (o := _) (by (simp only [List.getElem?_toArray, List.getElem?_cons_succ, List.getElem?_cons_zero]); rfl) (fun K_ hK_ => ?_) AllReadyH.nil
        rw [if_pos (by rfl)]
        go_simp
        go_at_call 54
        refine (factList_any B n' c' _).mono ?_; rintro e w5 ⟨rfl, hb5⟩
        have z1 := (hb5.cell (p := ⟨w.heap.size, 0, none⟩) (hz4)).trans y1
        have z2 := (hb5.cell (p := ⟨w.heap.size, 1, none⟩) (hz4)).trans y2
        have hz5 := Nat.lt_of_lt_of_le hz4 hb5.size
        have HB5 := belowThen HB4 hb5
        refine hK_.out _ _ ⟨z1, z2⟩ (fun hS2_ => ?_)
        clear hK_ hS_
        have hS_ := hS2_; clear hS2_
        refine wpAnyH_ready (rs := [6]) (by kernel_rfl) (by simp) ?_
        refine AllReadyH.cons (o := _) (by (simp only [List.getElem?_toArray, List.getElem?_cons_succ, List.getElem?_cons_zero]); rfl) (fun K_ hK_ => ?_) AllReadyH.nil
        rw [if_pos (by rfl)]
        go_simp
        go_at_call 55
        refine (only_is 2 2 rfl A B n c n' c' ra rb _ (R1.out.up RefE.stays HB5) (R2.out.up RefE.stays HB5) hmax).mono ?_; rintro e w6 ⟨A6, c6, rfl, _, hb6, _⟩
        rw [HK.out]
        have u1 := (hb6.cell (p := ⟨w.heap.size, 0, none⟩) (hz5)).trans z1
        have u2 := (hb6.cell (p := ⟨w.heap.size, 1, none⟩) (hz5)).trans z2
        have HB6 := belowThen HB5 hb6
        refine hK_.out _ _ ⟨u1, u2⟩ (fun hS2_ => ?_)
        clear hK_ hS_
        have hS_ := hS2_; clear hS2_
        refine takeV (i := 7) (v := .slice A6 0 c6) (by (simp only [List.getElem?_toArray, List.getElem?_cons_succ, List.getElem?_cons_zero]); rfl) (by kernel_rfl) (by kernel_rfl) (by kernel_rfl) (by rfl) (fun _ _ _ h => h) (Or.inl ⟨by rfl, ?_⟩) hS_ (by (simp only [List.setIfInBounds_toArray, List.set_cons_succ, List.set_cons_zero]); rfl) ?_
        · intro w_ hSw_; (try dsimp only at hSw_); go_simp; rw [field_items]; rfl
        refine takeV (i := 8) (v := .int .i64 ((0 : Nat) : Int)) (by (simp only [List.getElem?_toArray, List.getElem?_cons_succ, List.getElem?_cons_zero]); rfl) (by kernel_rfl) (by kernel_rfl) (by kernel_rfl) (by rfl) (fun _ _ _ h => h) (Or.inl ⟨by rfl, ?_⟩) hS_ (by (simp only [List.setIfInBounds_toArray, List.set_cons_succ, List.set_cons_zero]); rfl) ?_
        · intro w_ hSw_; (try dsimp only at hSw_); go_simp
        refine takeV (i := 9) (v := .bool true) (by (simp only [List.getElem?_toArray, List.getElem?_cons_succ, List.getElem?_cons_zero]); rfl) (by kernel_rfl) (by kernel_rfl) (by kernel_rfl) (by rfl) (fun _ _ _ h => h) (Or.inl ⟨by rfl, ?_⟩) hS_ (by (simp only [List.setIfInBounds_toArray, List.set_cons_succ, List.set_cons_zero]); rfl) ?_
        · intro w_ hSw_; (try dsimp only at hSw_); go_simp
        refine takeV (i := 10) (v := .bool true) (by (simp only [List.getElem?_toArray, List.getElem?_cons_succ, List.getElem?_cons_zero]); rfl) (by kernel_rfl) (by kernel_rfl) (by kernel_rfl) (by rfl) (fun _ _ _ h => h) (Or.inl ⟨by rfl, ?_⟩) hS_ (by (simp only [List.setIfInBounds_toArray, List.set_cons_succ, List.set_cons_zero]); rfl) ?_
        · intro w_ hSw_; (try dsimp only at hSw_); go_simp
        refine wpAnyH_done (by kernel_rfl) ?_ _
        go_wp2
        go_ret; exact ⟨retB E.out.symm, HB6⟩
      · have E := Lib.hid (show changeB xs ys = false by rw [← hbn]; exact decide_eq_false hk0)
        clear hbn
        have hki : (((k : Nat) : Int) == 0) = false := by rw [beq_eq_false_iff_ne]; omega
        go_wp2_with fail
        refine wp_region_held_drew (S := fun W => W.cell? ⟨w.heap.size, 0, none⟩ = some (.slice A n c) ∧ W.cell? ⟨w.heap.size, 1, none⟩ = some (.slice B n' c')) (by kernel_rfl) ⟨x1, x2⟩ ?_
        intro hS_
        refine takeV (i := 0) (v := .pointer (some ⟨w.heap.size, 0, none⟩)) (by (simp only [List.getElem?_toArray, List.getElem?_cons_zero]); rfl) (by kernel_rfl) (by kernel_rfl) (by kernel_rfl) (by rfl) (fun _ _ _ h => h) (Or.inl ⟨by rfl, ?_⟩) hS_ (by (simp only [List.setIfInBounds_toArray, List.set_cons_succ, List.set_cons_zero]); rfl) ?_
        · intro w_ hSw_; (try dsimp only at hSw_); go_simp
        refine takeV (i := 1) (v := .slice A n c) (by (simp only [List.getElem?_toArray, List.getElem?_cons_succ, List.getElem?_cons_zero]); rfl) (by kernel_rfl) (by kernel_rfl) (by kernel_rfl) (by rfl) (fun _ _ _ h => h) (Or.inl ⟨by rfl, ?_⟩) hS_ (by (simp only [List.setIfInBounds_toArray, List.set_cons_succ, List.set_cons_zero]); rfl) ?_
        · intro w_ hSw_; (try dsimp only at hSw_); go_simp
        refine takeV (i := 3) (v := .pointer (some ⟨w.heap.size, 1, none⟩)) (by (simp only [List.getElem?_toArray, List.getElem?_cons_succ, List.getElem?_cons_zero]); rfl) (by kernel_rfl) (by kernel_rfl) (by kernel_rfl) (by rfl) (fun _ _ _ h => h) (Or.inl ⟨by rfl, ?_⟩) hS_ (by (simp only [List.setIfInBounds_toArray, List.set_cons_succ, List.set_cons_zero]); rfl) ?_
        · intro w_ hSw_; (try dsimp only at hSw_); go_simp
        refine takeV (i := 4) (v := .slice B n' c') (by (simp only [List.getElem?_toArray, List.getElem?_cons_succ, List.getElem?_cons_zero]); rfl) (by kernel_rfl) (by kernel_rfl) (by kernel_rfl) (by rfl) (fun _ _ _ h => h) (Or.inl ⟨by rfl, ?_⟩) hS_ (by (simp only [List.setIfInBounds_toArray, List.set_cons_succ, List.set_cons_zero]); rfl) ?_
        · intro w_ hSw_; (try dsimp only at hSw_); go_simp
        refine wpAnyH_ready (rs := [2]) (by kernel_rfl) (by simp) ?_
        refine AllReadyH.cons (o := _) (by (simp only [List.getElem?_toArray, List.getElem?_cons_succ, List.getElem?_cons_zero]); rfl) (fun K_ hK_ => ?_) AllReadyH.nil
        rw [if_pos (by rfl)]
        go_simp
        go_at_call 54
        refine (factList_any A n c _).mono ?_; rintro e w4 ⟨rfl, hb4⟩
        have y1 := (hb4.cell (p := ⟨w.heap.size, 0, none⟩) (hz3)).trans x1
        have y2 := (hb4.cell (p := ⟨w.heap.size, 1, none⟩) (hz3)).trans x2
        have hz4 := Nat.lt_of_lt_of_le hz3 hb4.size
        have HB4 := belowThen HB3d hb4
        refine hK_.out _ _ ⟨y1, y2⟩ (fun hS2_ => ?_)
        clear hK_ hS_
        have hS_ := hS2_; clear hS2_
        refine wpAnyH_ready (rs := [5]) (by kernel_rfl) (by simp) ?_
        refine AllReadyH.cons (o := _) (by (simp only [List.getElem?_toArray, List.getElem?_cons_succ, List.getElem?_cons_zero]); rfl) (fun K_ hK_ => ?_) AllReadyH.nil
        rw [if_pos (by rfl)]
        go_simp
        go_at_call 54
        refine (factList_any B n' c' _).mono ?_; rintro e w5 ⟨rfl, hb5⟩
        have z1 := (hb5.cell (p := ⟨w.heap.size, 0, none⟩) (hz4)).trans y1
        have z2 := (hb5.cell (p := ⟨w.heap.size, 1, none⟩) (hz4)).trans y2
        have hz5 := Nat.lt_of_lt_of_le hz4 hb5.size
        have HB5 := belowThen HB4 hb5
        refine hK_.out _ _ ⟨z1, z2⟩ (fun hS2_ => ?_)
        clear hK_ hS_
        have hS_ := hS2_; clear hS2_
        refine wpAnyH_ready (rs := [6]) (by kernel_rfl) (by simp) ?_
        refine AllReadyH.cons (o := _) (by (simp only [List.getElem?_toArray, List.getElem?_cons_succ, List.getElem?_cons_zero]); rfl) (fun K_ hK_ => ?_) AllReadyH.nil
        rw [if_pos (by rfl)]
        go_simp
        go_at_call 55
        refine (only_is 2 2 rfl A B n c n' c' ra rb _ (R1.out.up RefE.stays HB5) (R2.out.up RefE.stays HB5) hmax).mono ?_; rintro e w6 ⟨A6, c6, rfl, _, hb6, _⟩
        rw [HK.out]
        have u1 := (hb6.cell (p := ⟨w.heap.size, 0, none⟩) (hz5)).trans z1
        have u2 := (hb6.cell (p := ⟨w.heap.size, 1, none⟩) (hz5)).trans z2
        have HB6 := belowThen HB5 hb6
        refine hK_.out _ _ ⟨u1, u2⟩ (fun hS2_ => ?_)
        clear hK_ hS_
        have hS_ := hS2_; clear hS2_
        refine takeV (i := 7) (v := .slice A6 k c6) (by (simp only [List.getElem?_toArray, List.getElem?_cons_succ, List.getElem?_cons_zero]); rfl) (by kernel_rfl) (by kernel_rfl) (by kernel_rfl) (by rfl) (fun _ _ _ h => h) (Or.inl ⟨by rfl, ?_⟩) hS_ (by (simp only [List.setIfInBounds_toArray, List.set_cons_succ, List.set_cons_zero]); rfl) ?_
        · intro w_ hSw_; (try dsimp only at hSw_); go_simp; rw [field_items]; rfl
        refine takeV (i := 8) (v := .int .i64 ((k : Nat) : Int)) (by (simp only [List.getElem?_toArray, List.getElem?_cons_succ, List.getElem?_cons_zero]); rfl) (by kernel_rfl) (by kernel_rfl) (by kernel_rfl) (by rfl) (fun _ _ _ h => h) (Or.inl ⟨by rfl, ?_⟩) hS_ (by (simp only [List.setIfInBounds_toArray, List.set_cons_succ, List.set_cons_zero]); rfl) ?_
        · intro w_ hSw_; (try dsimp only at hSw_); go_simp
        refine takeV (i := 9) (v := .bool false) (by (simp only [List.getElem?_toArray, List.getElem?_cons_succ, List.getElem?_cons_zero]); rfl) (by kernel_rfl) (by kernel_rfl) (by kernel_rfl) (by rfl) (fun _ _ _ h => h) (Or.inl ⟨by rfl, ?_⟩) hS_ (by (simp only [List.setIfInBounds_toArray, List.set_cons_succ, List.set_cons_zero]); rfl) ?_
        · intro w_ hSw_; (try dsimp only at hSw_); go_simp
        refine takeV (i := 10) (v := .bool false) (by (simp only [List.getElem?_toArray, List.getElem?_cons_succ, List.getElem?_cons_zero]); rfl) (by kernel_rfl) (by kernel_rfl) (by kernel_rfl) (by rfl) (fun _ _ _ h => h) (Or.inl ⟨by rfl, ?_⟩) hS_ (by (simp only [List.setIfInBounds_toArray, List.set_cons_succ, List.set_cons_zero]); rfl) ?_
        · intro w_ hSw_; (try dsimp only at hSw_); go_simp
        refine wpAnyH_done (by kernel_rfl) ?_ _
        go_wp2
        go_ret; exact ⟨retB E.out.symm, HB6⟩

theorem apart_snoc {xs ys : List At} {k : Nat} {q : At} (h : xs[k]? = some q) (hr : apartB (xs.take k) ys = true) (hq : hasB ys q = false) : apartB (xs.take (k + 1)) ys = true :=
  allB_snoc (P := fun a => !hasB ys a) h hr (by simp [hq])

theorem apart_no {xs ys : List At} {k : Nat} {q : At} (h : xs[k]? = some q) (hq : hasB ys q = true) : apartB xs ys = false :=
  allB_no (P := fun a => !hasB ys a) h (by simp [hq])

theorem apart_end {xs ys : List At} {k n : Nat} (hl : xs.length = n) (hk : ¬ k < n) (hr : apartB (xs.take k) ys = true) : apartB xs ys = true := by
  rwa [List.take_of_length_le (by omega)] at hr

set_option maxHeartbeats 4000000 in
theorem specChangeOk_any (A B : Option Addr) (n c n' c' : Nat) (xs ys : List At) (w : World) (h : IsAtoms w 0 w.heap.size A n c xs) (h' : IsAtoms w 0 w.heap.size B n' c' ys) :
    Calls Tryz.prog 11 #[.agg #[.slice A n c, .slice B n' c']] w (BoolPost (changeB xs ys) w) := by
  have hn := h.len
  unfold maxLen at hn
  have H := Lib.hid h; have H' := Lib.hid h'; clear h h'
  have hw1 := below1 w (.cells #[.slice A n c, .slice B n' c'] 25)
  have X1 := Lib.hid (Box.new w (.slice A n c) (.slice B n' c') 25)
  go_enter Tryz.func11, Tryz.ntmps11
  go_wp2_with fail
  refine (specFactsOk_any A n c xs _ (H.out.up AtomE.stays hw1)).mono ?_; rintro e w2 ⟨rfl, hb2⟩
  have HB2 := belowThen hw1 hb2
  have X2 := Lib.hid (X1.out.later hb2); clear X1
  obtain ⟨b0, b1, b2⟩ := X2.out
  by_cases hx : (!factsB 300 xs) = true
  · have E := Lib.hid (changeB_no1 (ys := ys) hx)
    go_wp2
    go_ret; exact ⟨retB E.out.symm, HB2⟩
  · have hx' : (!factsB 300 xs) = false := by simpa using hx
    clear hx
    go_wp2_with fail
    refine (specFactsOk_any B n' c' ys _ (H'.out.up AtomE.stays HB2)).mono ?_; rintro e w3 ⟨rfl, hb3⟩
    have HB3 := belowThen HB2 hb3
    have X3 := Lib.hid (X2.out.later hb3); clear X2 b0 b1 b2
    obtain ⟨b0, b1, b2⟩ := X3.out
    by_cases hy : (!factsB 300 ys) = true
    · have E := Lib.hid (changeB_no2 (xs := xs) hy)
      go_wp2
      go_ret; exact ⟨retB E.out.symm, HB3⟩
    · have hy' : (!factsB 300 ys) = false := by simpa using hy
      clear hy
      have hry := Lib.hid (factsB_rises (show factsB 300 ys = true by simpa using hy'))
      have E := Lib.hid (changeB_is hx' hy')
      clear hb2 hb3 hw1 HB2
      go_wp2
      clear b0 b1 b2
      go_loopw [3] (fun i wr => ∃ k : Nat, k ≤ n ∧ i = .int .i64 k ∧ apartB (xs.take k) ys = true ∧ Below w3.heap.size w3 wr) (fun i _ => n - (intOf i).toNat)
      case atStart => exact ⟨0, Nat.zero_le _, rfl, rfl, Below.refl _ _⟩
      case round =>
        obtain ⟨k, hk, rfl, hd, hb⟩ := hrel
        have HD := Lib.hid hd; clear hd
        have HB := belowThen HB3 hb
        obtain ⟨b0, b1, b2⟩ := X3.out.later hb
        by_cases hlt : k < n
        · obtain ⟨p, q, hA, hlo, hhi, hg, hE⟩ := (H.out.below AtomE.stays HB (Nat.le_refl _)).at_ hlt
          obtain ⟨A', m', d', d1, d3, d4, d5⟩ := hE.out
          clear hE
          subst hA
          have HG := Lib.hid hg; clear hg
          have hpz : p.block < wr.heap.size := Nat.lt_of_lt_of_le hhi HB.size
          have hbd := hb.drew
          have x1 : wr.drew.cell? ⟨w.heap.size, 0, none⟩ = some (.slice (some p) n c) := b1
          have x2 : wr.drew.cell? ⟨w.heap.size, 1, none⟩ = some (.slice B n' c') := b2
          have x3 : wr.drew.cell? (p.add (k * 2)) = some (.string q.1) := d1
          have x4 : wr.drew.cell? ⟨(p.add (k * 2)).block, (p.add (k * 2)).off + 1, none⟩ = some (.slice A' m' d') := d4
          have HT := Lib.hid (d5.keep (w' := wr.drew) (lo' := 0) (hi' := wr.drew.heap.size) (fun _ _ _ => rfl) (Nat.le_refl _) HB.size); clear d5
          have HU := Lib.hid (show IsAtoms wr.drew 0 wr.drew.heap.size B n' c' ys from H'.out.up AtomE.stays HB.drew)
          clear d1 d4
          cases hh : hasB ys q
          · have HH := Lib.hid hh; clear hh
            go_wp2
            refine wp_region_held_drew (S := fun W => (W.cell? ⟨w.heap.size, 0, none⟩ = some (.slice (some p) n c) ∧ W.cell? ⟨w.heap.size, 1, none⟩ = some (.slice B n' c')) ∧ W.cell? (p.add (k * 2)) = some (.string q.1) ∧ W.cell? ⟨(p.add (k * 2)).block, (p.add (k * 2)).off + 1, none⟩ = some (.slice A' m' d')) (by kernel_rfl) ⟨⟨x1, x2⟩, x3, x4⟩ ?_
            intro hS_
            refine takeV (i := 0) (v := .pointer (some ⟨w.heap.size, 1, none⟩)) (by (simp only [List.getElem?_toArray, List.getElem?_cons_zero]); rfl) (by kernel_rfl) (by kernel_rfl) (by kernel_rfl) (by rfl) (fun _ _ _ h => h) (Or.inl ⟨by rfl, ?_⟩) hS_ (by (simp only [List.setIfInBounds_toArray, List.set_cons_succ, List.set_cons_zero]); rfl) ?_
            · intro w_ hSw_; (try dsimp only at hSw_); go_simp
            refine takeV (i := 1) (v := .slice B n' c') (by (simp only [List.getElem?_toArray, List.getElem?_cons_succ, List.getElem?_cons_zero]); rfl) (by kernel_rfl) (by kernel_rfl) (by kernel_rfl) (by rfl) (fun _ _ _ h => h) (Or.inl ⟨by rfl, ?_⟩) hS_ (by (simp only [List.setIfInBounds_toArray, List.set_cons_succ, List.set_cons_zero]); rfl) ?_
            · intro w_ hSw_; (try dsimp only at hSw_); go_simp
            refine takeV (i := 2) (v := .pointer (some ⟨w.heap.size, 0, none⟩)) (by (simp only [List.getElem?_toArray, List.getElem?_cons_succ, List.getElem?_cons_zero]); rfl) (by kernel_rfl) (by kernel_rfl) (by kernel_rfl) (by rfl) (fun _ _ _ h => h) (Or.inl ⟨by rfl, ?_⟩) hS_ (by (simp only [List.setIfInBounds_toArray, List.set_cons_succ, List.set_cons_zero]); rfl) ?_
            · intro w_ hSw_; (try dsimp only at hSw_); go_simp
            refine takeV (i := 3) (v := .slice (some p) n c) (by (simp only [List.getElem?_toArray, List.getElem?_cons_succ, List.getElem?_cons_zero]); rfl) (by kernel_rfl) (by kernel_rfl) (by kernel_rfl) (by rfl) (fun _ _ _ h => h) (Or.inl ⟨by rfl, ?_⟩) hS_ (by (simp only [List.setIfInBounds_toArray, List.set_cons_succ, List.set_cons_zero]); rfl) ?_
            · intro w_ hSw_; (try dsimp only at hSw_); go_simp
            refine takeV (i := 4) (v := .int .i64 (k : Int)) (by (simp only [List.getElem?_toArray, List.getElem?_cons_succ, List.getElem?_cons_zero]); rfl) (by kernel_rfl) (by kernel_rfl) (by kernel_rfl) (by rfl) (fun _ _ _ h => h) (Or.inl ⟨by rfl, ?_⟩) hS_ (by (simp only [List.setIfInBounds_toArray, List.set_cons_succ, List.set_cons_zero]); rfl) ?_
            · intro w_ hSw_; (try dsimp only at hSw_); go_simp
            refine takeV (i := 5) (v := .pointer (some (p.add (k * 2)))) (by (simp only [List.getElem?_toArray, List.getElem?_cons_succ, List.getElem?_cons_zero]); rfl) (by kernel_rfl) (by kernel_rfl) (by kernel_rfl) (by rfl) (fun _ _ _ h => h) (Or.inl ⟨by rfl, ?_⟩) hS_ (by (simp only [List.setIfInBounds_toArray, List.set_cons_succ, List.set_cons_zero]); rfl) ?_
            · intro w_ hSw_; (try dsimp only at hSw_); go_simp
            refine takeV (i := 6) (v := .agg #[.string q.1, .slice A' m' d']) (by (simp only [List.getElem?_toArray, List.getElem?_cons_succ, List.getElem?_cons_zero]); rfl) (by kernel_rfl) (by kernel_rfl) (by kernel_rfl) (by rfl) (fun _ _ _ h => h) (Or.inl ⟨by rfl, ?_⟩) hS_ (by (simp only [List.setIfInBounds_toArray, List.set_cons_succ, List.set_cons_zero]); rfl) ?_
            · intro w_ hSw_; (try dsimp only at hSw_); go_simp
            refine wpAnyH_ready (rs := [7]) (by kernel_rfl) (by simp) ?_
            refine AllReadyH.cons (o := _) (by (simp only [List.getElem?_toArray, List.getElem?_cons_succ, List.getElem?_cons_zero]); rfl) (fun K_ hK_ => ?_) AllReadyH.nil
            rw [if_pos (by rfl)]
            go_simp
            go_at_call 35
            refine (l3Has_any B n' c' ys q.1 A' m' d' q.2 _ HU.out HT.out hry.out).mono ?_; rintro e w4 ⟨rfl, hb4⟩
            have y1 := (hb4.cell (p := ⟨w.heap.size, 0, none⟩) b0).trans b1
            have y2 := (hb4.cell (p := ⟨w.heap.size, 1, none⟩) b0).trans b2
            have y3 := (hb4.cell (p := p.add (k * 2)) (by rw [block_add]; exact hpz)).trans x3
            have y4 := (hb4.cell (p := ⟨(p.add (k * 2)).block, (p.add (k * 2)).off + 1, none⟩) (by rw [block_add]; exact hpz)).trans x4
            rw [HH.out]
            refine hK_.out _ _ ⟨⟨y1, y2⟩, y3, y4⟩ (fun hS2_ => ?_)
            clear hK_ hS_
            have hS_ := hS2_; clear hS2_
            refine wpAnyH_done (by kernel_rfl) ?_ _
            go_wp2
            go_roundw
            case rel => exact ⟨k + 1, by omega, by go_num, apart_snoc HG.out HD.out HH.out, belowThen hbd hb4⟩
            case measure => simp [intOf]; omega
          · have HH := Lib.hid hh; clear hh
            go_wp2
            refine wp_region_held_drew (S := fun W => (W.cell? ⟨w.heap.size, 0, none⟩ = some (.slice (some p) n c) ∧ W.cell? ⟨w.heap.size, 1, none⟩ = some (.slice B n' c')) ∧ W.cell? (p.add (k * 2)) = some (.string q.1) ∧ W.cell? ⟨(p.add (k * 2)).block, (p.add (k * 2)).off + 1, none⟩ = some (.slice A' m' d')) (by kernel_rfl) ⟨⟨x1, x2⟩, x3, x4⟩ ?_
            intro hS_
            refine takeV (i := 0) (v := .pointer (some ⟨w.heap.size, 1, none⟩)) (by (simp only [List.getElem?_toArray, List.getElem?_cons_zero]); rfl) (by kernel_rfl) (by kernel_rfl) (by kernel_rfl) (by rfl) (fun _ _ _ h => h) (Or.inl ⟨by rfl, ?_⟩) hS_ (by (simp only [List.setIfInBounds_toArray, List.set_cons_succ, List.set_cons_zero]); rfl) ?_
            · intro w_ hSw_; (try dsimp only at hSw_); go_simp
            refine takeV (i := 1) (v := .slice B n' c') (by (simp only [List.getElem?_toArray, List.getElem?_cons_succ, List.getElem?_cons_zero]); rfl) (by kernel_rfl) (by kernel_rfl) (by kernel_rfl) (by rfl) (fun _ _ _ h => h) (Or.inl ⟨by rfl, ?_⟩) hS_ (by (simp only [List.setIfInBounds_toArray, List.set_cons_succ, List.set_cons_zero]); rfl) ?_
            · intro w_ hSw_; (try dsimp only at hSw_); go_simp
            refine takeV (i := 2) (v := .pointer (some ⟨w.heap.size, 0, none⟩)) (by (simp only [List.getElem?_toArray, List.getElem?_cons_succ, List.getElem?_cons_zero]); rfl) (by kernel_rfl) (by kernel_rfl) (by kernel_rfl) (by rfl) (fun _ _ _ h => h) (Or.inl ⟨by rfl, ?_⟩) hS_ (by (simp only [List.setIfInBounds_toArray, List.set_cons_succ, List.set_cons_zero]); rfl) ?_
            · intro w_ hSw_; (try dsimp only at hSw_); go_simp
            refine takeV (i := 3) (v := .slice (some p) n c) (by (simp only [List.getElem?_toArray, List.getElem?_cons_succ, List.getElem?_cons_zero]); rfl) (by kernel_rfl) (by kernel_rfl) (by kernel_rfl) (by rfl) (fun _ _ _ h => h) (Or.inl ⟨by rfl, ?_⟩) hS_ (by (simp only [List.setIfInBounds_toArray, List.set_cons_succ, List.set_cons_zero]); rfl) ?_
            · intro w_ hSw_; (try dsimp only at hSw_); go_simp
            refine takeV (i := 4) (v := .int .i64 (k : Int)) (by (simp only [List.getElem?_toArray, List.getElem?_cons_succ, List.getElem?_cons_zero]); rfl) (by kernel_rfl) (by kernel_rfl) (by kernel_rfl) (by rfl) (fun _ _ _ h => h) (Or.inl ⟨by rfl, ?_⟩) hS_ (by (simp only [List.setIfInBounds_toArray, List.set_cons_succ, List.set_cons_zero]); rfl) ?_
            · intro w_ hSw_; (try dsimp only at hSw_); go_simp
            refine takeV (i := 5) (v := .pointer (some (p.add (k * 2)))) (by (simp only [List.getElem?_toArray, List.getElem?_cons_succ, List.getElem?_cons_zero]); rfl) (by kernel_rfl) (by kernel_rfl) (by kernel_rfl) (by rfl) (fun _ _ _ h => h) (Or.inl ⟨by rfl, ?_⟩) hS_ (by (simp only [List.setIfInBounds_toArray, List.set_cons_succ, List.set_cons_zero]); rfl) ?_
            · intro w_ hSw_; (try dsimp only at hSw_); go_simp
            refine takeV (i := 6) (v := .agg #[.string q.1, .slice A' m' d']) (by (simp only [List.getElem?_toArray, List.getElem?_cons_succ, List.getElem?_cons_zero]); rfl) (by kernel_rfl) (by kernel_rfl) (by kernel_rfl) (by rfl) (fun _ _ _ h => h) (Or.inl ⟨by rfl, ?_⟩) hS_ (by (simp only [List.setIfInBounds_toArray, List.set_cons_succ, List.set_cons_zero]); rfl) ?_
            · intro w_ hSw_; (try dsimp only at hSw_); go_simp
            refine wpAnyH_ready (rs := [7]) (by kernel_rfl) (by simp) ?_
            refine AllReadyH.cons (o := _) (by (simp only [List.getElem?_toArray, List.getElem?_cons_succ, List.getElem?_cons_zero]); rfl) (fun K_ hK_ => ?_) AllReadyH.nil
            rw [if_pos (by rfl)]
            go_simp
            go_at_call 35
            refine (l3Has_any B n' c' ys q.1 A' m' d' q.2 _ HU.out HT.out hry.out).mono ?_; rintro e w4 ⟨rfl, hb4⟩
            have y1 := (hb4.cell (p := ⟨w.heap.size, 0, none⟩) b0).trans b1
            have y2 := (hb4.cell (p := ⟨w.heap.size, 1, none⟩) b0).trans b2
            have y3 := (hb4.cell (p := p.add (k * 2)) (by rw [block_add]; exact hpz)).trans x3
            have y4 := (hb4.cell (p := ⟨(p.add (k * 2)).block, (p.add (k * 2)).off + 1, none⟩) (by rw [block_add]; exact hpz)).trans x4
            rw [HH.out]
            refine hK_.out _ _ ⟨⟨y1, y2⟩, y3, y4⟩ (fun hS2_ => ?_)
            clear hK_ hS_
            have hS_ := hS2_; clear hS2_
            refine wpAnyH_done (by kernel_rfl) ?_ _
            go_wp2
            go_ret; exact ⟨retB (by rw [E.out, apart_no HG.out HH.out]), belowThen HB3 (belowThen hbd hb4)⟩
        · go_wp2
          go_ret; exact ⟨retB (by rw [E.out, apart_end H.out.1 hlt HD.out]), HB⟩

end Go.Proofs.YtogonjkklioaaaaGreatDoor

namespace Go.Proofs.YtogonjkklioaaaaGreatDoor
open Go.RowKit
attribute [local go_sem] run_store_func

/-- A list in memory of its own and whether it was done, handed back. -/
def OwnBPost (p : List At × Bool) (w : World) (e : Ending) (w' : World) : Prop := ∃ A c rs, e = .returned (.tuple #[.slice A rs.length c, .bool p.2]) ∧ OwnRefs w' w.heap.size w'.heap.size A rs.length c rs ∧ rs.map rAt = p.1 ∧ Below w.heap.size w w'

theorem own_copy {w w1 w2 : World} {A : Option Addr} {c : Nat} {rs : List Rf} {xs : List At} {b : Bool} {p : List At × Bool} (hp : p = (xs, b)) (ho : OwnRefs w2 w1.heap.size w2.heap.size A xs.length c rs) (hm : rs.map rAt = xs) (hs : w.heap.size ≤ w1.heap.size) (hb : Below w.heap.size w w2) :
    OwnBPost p w (.returned (.tuple #[.slice A xs.length c, .bool b])) w2 := by
  subst hp
  have hl := ho.1
  rw [← hl] at ho
  exact ⟨A, c, rs, by rw [hl], ho.keep (fun _ _ _ => rfl) hs (Nat.le_refl _), hm, hb⟩

theorem one_refs {w : World} {g : Nat} {nm : ByteArray} {B : Option Addr} {m d : Nat} {ts : List Tm} (h : Blk w g 51 #[.string nm, .slice B m d]) (hs : nm.size ≤ maxLen) (ht : IsTerms w 0 w.heap.size B m d ts) : IsRefs w 0 w.heap.size (some ⟨g, 0, none⟩) 1 1 [(nm, B, m, d, ts)] := by
  refine ⟨rfl, Nat.le_refl _, by unfold maxLen; omega, fun _ => ⟨_, rfl, Nat.zero_le _, h.lt, fun i r hr => ?_⟩⟩
  match i, hr with
  | 0, hr =>
    simp at hr
    subst hr
    have a0 : (⟨g, 0, none⟩ : Addr).add (0 * 2) = ⟨g, 0, none⟩ := by unfold Addr.add; simp
    rw [a0]
    exact ⟨h.cell 0, hs, h.cell 1, ht⟩

/-- A list, behind two stores into a block below it. -/
theorem rows_far {w W : World} {A : Option Addr} {n c g : Nat} {rs : List Rf} (h : IsRefs W 0 W.heap.size A n c rs) (hr : RefsIn w 0 w.heap.size rs) (hb : Below w.heap.size w W) (hA : ∀ p, A = some p → g < p.block) (hg : w.heap.size ≤ g) (u v : Value) :
    IsRefs ((W.setCell ⟨g, 0, none⟩ u).setCell ⟨g, 1, none⟩ v) 0 ((W.setCell ⟨g, 0, none⟩ u).setCell ⟨g, 1, none⟩ v).heap.size A n c rs := by
  have hk : ∀ q : Addr, q.block ≠ g → ((W.setCell ⟨g, 0, none⟩ u).setCell ⟨g, 1, none⟩ v).cell? q = W.cell? q := fun q hq => World.cell?_of_block (set2_far hq)
  have hB : Below w.heap.size w ((W.setCell ⟨g, 0, none⟩ u).setCell ⟨g, 1, none⟩ v) := (hb.setCell hg u).setCell hg v
  obtain ⟨a, b, d, e⟩ := h
  refine ⟨a, b, d, fun hn => ?_⟩
  obtain ⟨p, e1, e2, e3, e4⟩ := e hn
  have hp := hA p e1
  refine ⟨p, e1, e2, by rw [size_setCell, size_setCell]; exact e3, fun i r hi => ?_⟩
  obtain ⟨d1, d2, d3, _⟩ := e4 i r hi
  refine ⟨(hk _ (by rw [block_add]; omega)).trans d1, d2, (hk _ (by rw [nextTo_block, block_add]; omega)).trans d3, ?_⟩
  exact (hr r (List.mem_of_getElem? hi)).2.keep (fun _ _ hq => hB.cell hq) (Nat.le_refl _) hB.size




end Go.Proofs.YtogonjkklioaaaaGreatDoor
