/-
  Is a fact one of others: the program, and its model. (Written by tools/has2.py.)
-/
import Derived.Test.YtbhkihnekendbaaFind
namespace Go.Proofs.Ytbhkihnekendbaa
open Go.RowKit

theorem factsB_rises {m : Nat} {xs : List At} (h : factsB m xs = true) : risesB xs = true := by
  unfold factsB at h
  simp only [Bool.and_eq_true] at h
  exact h.1.2

theorem factsB_len {m : Nat} {xs : List At} (h : factsB m xs = true) : xs.length ≤ m := by
  unfold factsB at h
  simp only [Bool.and_eq_true, decide_eq_true_eq] at h
  exact h.2

/-- What FactsHas answers. -/
def hasFB (xs : List At) (a : At) : Bool := factsB 300 xs && (factB a && hasB xs a)

set_option maxHeartbeats 1000000 in
theorem has_any (A : Option Addr) (n c : Nat) (xs : List At) (nm : ByteArray) (B : Option Addr) (m d : Nat) (ts : List Tm) (w : World) (h : IsAtoms w 0 w.heap.size A n c xs) (h' : IsTerms w 0 w.heap.size B m d ts) (hr : risesB xs = true) (hmax : n ≤ 1099511627776) :
    Calls Try.prog 73 #[listV A n c, .agg #[.string nm, .slice B m d]] w (BoolPost (hasB xs (nm, ts)) w) := by
  have H := Lib.hid h; clear h
  have H' := Lib.hid h'; clear h'
  unfold listV
  have hw0 := below2 w (.cells #[.slice A n c, .func (.func 133) #[] #[]] 100) (.cells #[.string nm, .slice B m d] 26)
  go_enter Try.func73, Try.ntmps73
  go_wp2_with fail
  refine (find_any _ _ _ xs nm B m d ts _ (H.out.up AtomE.stays hw0) (H'.out.up hw0) hr hmax).mono ?_; rintro e w1 ⟨k, ⟨rfl, _, _, _⟩, hb1⟩
  go_wp2
  go_ret; exact ⟨rfl, belowThen hw0 hb1⟩

set_option maxHeartbeats 1000000 in
theorem l3Has_any (A : Option Addr) (n c : Nat) (xs : List At) (nm : ByteArray) (B : Option Addr) (m d : Nat) (ts : List Tm) (w : World) (h : IsAtoms w 0 w.heap.size A n c xs) (h' : IsTerms w 0 w.heap.size B m d ts) (hr : risesB xs = true) :
    Calls Try.prog 83 #[.slice A n c, .agg #[.string nm, .slice B m d]] w (BoolPost (hasB xs (nm, ts)) w) := by
  have H := Lib.hid h; clear h
  have H' := Lib.hid h'; clear h'
  have hw0 := below1 w (.cells #[.string nm, .slice B m d] 26)
  go_enter Try.func83, Try.ntmps83
  go_wp2_with fail
  refine (l3At_any _ _ _ xs nm B m d ts _ (H.out.up AtomE.stays hw0) (H'.out.up hw0) hr).mono ?_; rintro e w1 ⟨k, ⟨rfl, _, _, _⟩, hb1⟩
  go_wp2
  go_ret; exact ⟨rfl, belowThen hw0 hb1⟩

set_option maxHeartbeats 2000000 in
theorem implFactsHas_any (A : Option Addr) (n c : Nat) (xs : List At) (nm : ByteArray) (B : Option Addr) (m d : Nat) (ts : List Tm) (w : World) (hs : nm.size ≤ maxLen) (h : IsAtoms w 0 w.heap.size A n c xs) (h' : IsTerms w 0 w.heap.size B m d ts) :
    Calls Try.prog 20 #[.slice A n c, .agg #[.string nm, .slice B m d]] w (BoolPost (hasFB xs (nm, ts)) w) := by
  have hl := h.1
  have hw0 := below1 w (.cells #[.string nm, .slice B m d] 26)
  have L1 := Lib.hid (show IsAtoms (w.alloc (.cells #[.string nm, .slice B m d] 26)).drew 0 (w.alloc (.cells #[.string nm, .slice B m d] 26)).drew.heap.size A n c xs from h.up AtomE.stays hw0.drew)
  have T1 := Lib.hid (show IsTerms (w.alloc (.cells #[.string nm, .slice B m d] 26)).drew 0 (w.alloc (.cells #[.string nm, .slice B m d] 26)).drew.heap.size B m d ts from h'.up hw0.drew)
  clear h h'
  have hwd := hw0.drew
  have x1 : (w.alloc (.cells #[.string nm, .slice B m d] 26)).drew.cell? ⟨w.heap.size, 0, none⟩ = some (.string nm) := by
    show (w.alloc (.cells #[.string nm, .slice B m d] 26)).cell? ⟨w.heap.size, 0, none⟩ = _; simp [go_sem]
  have x2 : (w.alloc (.cells #[.string nm, .slice B m d] 26)).drew.cell? ⟨w.heap.size, 1, none⟩ = some (.slice B m d) := by
    show (w.alloc (.cells #[.string nm, .slice B m d] 26)).cell? ⟨w.heap.size, 1, none⟩ = _; simp [go_sem]
  have c1 : ∀ W : World, IsAtoms W 0 W.heap.size A n c xs → Calls Try.prog 18 #[.slice A n c] W (BoolPost (factsB 300 xs) W) := fun W hh => implFactsOk_any A n c xs W hh
  have c2 : ∀ W : World, IsTerms W 0 W.heap.size B m d ts → Calls Try.prog 71 #[.agg #[.string nm, .slice B m d]] W (BoolPost (factB (nm, ts)) W) := fun W hh => factOk_any nm B m d ts W hs hh
  cases hA : factsB 300 xs
  · rw [hA] at c1
    have E := Lib.hid (show hasFB xs (nm, ts) = false by unfold hasFB; rw [hA]; rfl); clear hA
    go_enter Try.func20, Try.ntmps20
    go_wp2_with fail
    refine wp_region_held_drew (S := fun W => W.cell? ⟨w.heap.size, 0, none⟩ = some (.string nm) ∧ W.cell? ⟨w.heap.size, 1, none⟩ = some (.slice B m d)) (by kernel_rfl) ⟨x1, x2⟩ ?_
    intro hS_
    refine takeV (i := 0) (v := .slice A n c) (by (simp only [List.getElem?_toArray, List.getElem?_cons_zero]); rfl) (by kernel_rfl) (by kernel_rfl) (by kernel_rfl) (by rfl) (fun _ _ _ h => h) (Or.inl ⟨by rfl, ?_⟩) hS_ (by (simp only [List.setIfInBounds_toArray, List.set_cons_succ, List.set_cons_zero]); rfl) ?_
    · intro w_ hSw_; (try dsimp only at hSw_); go_simp
    refine wpAnyH_ready (rs := [1]) (by kernel_rfl) (by simp) ?_
    refine AllReadyH.cons (o := _) (by (simp only [List.getElem?_toArray, List.getElem?_cons_succ, List.getElem?_cons_zero]); rfl) (fun K_ hK_ => ?_) AllReadyH.nil
    rw [if_pos (by rfl)]
    go_simp
    go_at_call 18
    refine (c1 _ L1.out).mono ?_; rintro e w1 ⟨rfl, hb1⟩
    have y1 := (hb1.cell (p := ⟨w.heap.size, 0, none⟩) (by simp)).trans x1
    have y2 := (hb1.cell (p := ⟨w.heap.size, 1, none⟩) (by simp)).trans x2
    have hz1 : w.heap.size < w1.heap.size := by have := hb1.size; simp at this; omega
    have L2 := L1.out.up AtomE.stays hb1
    have T2 := T1.out.up hb1
    refine hK_.out _ _ ⟨y1, y2⟩ (fun hS2_ => ?_)
    clear hK_ hS_
    have hS_ := hS2_; clear hS2_
    refine takeV (i := 2) (v := .bool false) (by (simp only [List.getElem?_toArray, List.getElem?_cons_succ, List.getElem?_cons_zero]); rfl) (by kernel_rfl) (by kernel_rfl) (by kernel_rfl) (by rfl) (fun _ _ _ h => h) (Or.inl ⟨by rfl, ?_⟩) hS_ (by (simp only [List.setIfInBounds_toArray, List.set_cons_succ, List.set_cons_zero]); rfl) ?_
    · intro w_ hSw_; (try dsimp only at hSw_); go_simp
    refine takeV (i := 3) (v := undef) (by (simp only [List.getElem?_toArray, List.getElem?_cons_succ, List.getElem?_cons_zero]); rfl) (by kernel_rfl) (by kernel_rfl) (by kernel_rfl) (by rfl) (fun _ _ _ h => h) (Or.inr ⟨by rfl, rfl⟩) hS_ (by (simp only [List.setIfInBounds_toArray, List.set_cons_succ, List.set_cons_zero]); rfl) ?_
    refine takeV (i := 4) (v := undef) (by (simp only [List.getElem?_toArray, List.getElem?_cons_succ, List.getElem?_cons_zero]); rfl) (by kernel_rfl) (by kernel_rfl) (by kernel_rfl) (by rfl) (fun _ _ _ h => h) (Or.inr ⟨by rfl, rfl⟩) hS_ (by (simp only [List.setIfInBounds_toArray, List.set_cons_succ, List.set_cons_zero]); rfl) ?_
    refine takeV (i := 5) (v := .bool false) (by (simp only [List.getElem?_toArray, List.getElem?_cons_succ, List.getElem?_cons_zero]); rfl) (by kernel_rfl) (by kernel_rfl) (by kernel_rfl) (by rfl) (fun _ _ _ h => h) (Or.inl ⟨by rfl, ?_⟩) hS_ (by (simp only [List.setIfInBounds_toArray, List.set_cons_succ, List.set_cons_zero]); rfl) ?_
    · intro w_ hSw_; (try dsimp only at hSw_); go_simp
    refine takeV (i := 6) (v := .bool false) (by (simp only [List.getElem?_toArray, List.getElem?_cons_succ, List.getElem?_cons_zero]); rfl) (by kernel_rfl) (by kernel_rfl) (by kernel_rfl) (by rfl) (fun _ _ _ h => h) (Or.inl ⟨by rfl, ?_⟩) hS_ (by (simp only [List.setIfInBounds_toArray, List.set_cons_succ, List.set_cons_zero]); rfl) ?_
    · intro w_ hSw_; (try dsimp only at hSw_); go_simp
    refine takeV (i := 7) (v := undef) (by (simp only [List.getElem?_toArray, List.getElem?_cons_succ, List.getElem?_cons_zero]); rfl) (by kernel_rfl) (by kernel_rfl) (by kernel_rfl) (by rfl) (fun _ _ _ h => h) (Or.inr ⟨by rfl, rfl⟩) hS_ (by (simp only [List.setIfInBounds_toArray, List.set_cons_succ, List.set_cons_zero]); rfl) ?_
    refine takeV (i := 8) (v := undef) (by (simp only [List.getElem?_toArray, List.getElem?_cons_succ, List.getElem?_cons_zero]); rfl) (by kernel_rfl) (by kernel_rfl) (by kernel_rfl) (by rfl) (fun _ _ _ h => h) (Or.inr ⟨by rfl, rfl⟩) hS_ (by (simp only [List.setIfInBounds_toArray, List.set_cons_succ, List.set_cons_zero]); rfl) ?_
    refine takeV (i := 9) (v := undef) (by (simp only [List.getElem?_toArray, List.getElem?_cons_succ, List.getElem?_cons_zero]); rfl) (by kernel_rfl) (by kernel_rfl) (by kernel_rfl) (by rfl) (fun _ _ _ h => h) (Or.inr ⟨by rfl, rfl⟩) hS_ (by (simp only [List.setIfInBounds_toArray, List.set_cons_succ, List.set_cons_zero]); rfl) ?_
    refine takeV (i := 10) (v := undef) (by (simp only [List.getElem?_toArray, List.getElem?_cons_succ, List.getElem?_cons_zero]); rfl) (by kernel_rfl) (by kernel_rfl) (by kernel_rfl) (by rfl) (fun _ _ _ h => h) (Or.inr ⟨by rfl, rfl⟩) hS_ (by (simp only [List.setIfInBounds_toArray, List.set_cons_succ, List.set_cons_zero]); rfl) ?_
    refine takeV (i := 11) (v := .bool false) (by (simp only [List.getElem?_toArray, List.getElem?_cons_succ, List.getElem?_cons_zero]); rfl) (by kernel_rfl) (by kernel_rfl) (by kernel_rfl) (by rfl) (fun _ _ _ h => h) (Or.inl ⟨by rfl, ?_⟩) hS_ (by (simp only [List.setIfInBounds_toArray, List.set_cons_succ, List.set_cons_zero]); rfl) ?_
    · intro w_ hSw_; (try dsimp only at hSw_); go_simp
    refine takeV (i := 12) (v := .bool false) (by (simp only [List.getElem?_toArray, List.getElem?_cons_succ, List.getElem?_cons_zero]); rfl) (by kernel_rfl) (by kernel_rfl) (by kernel_rfl) (by rfl) (fun _ _ _ h => h) (Or.inl ⟨by rfl, ?_⟩) hS_ (by (simp only [List.setIfInBounds_toArray, List.set_cons_succ, List.set_cons_zero]); rfl) ?_
    · intro w_ hSw_; (try dsimp only at hSw_); go_simp
    refine wpAnyH_done (by kernel_rfl) ?_ _
    go_wp2
    go_ret; exact ⟨retB E.out.symm, belowThen hwd hb1⟩
  · rw [hA] at c1
    have RR := Lib.hid (factsB_rises hA)
    have hmax : n ≤ 1099511627776 := by have := factsB_len hA; omega
    cases hF : factB (nm, ts)
    · rw [hF] at c2
      have E := Lib.hid (show hasFB xs (nm, ts) = false by unfold hasFB; rw [hA, hF]; rfl); clear hA hF
      go_enter Try.func20, Try.ntmps20
      go_wp2_with fail
      refine wp_region_held_drew (S := fun W => W.cell? ⟨w.heap.size, 0, none⟩ = some (.string nm) ∧ W.cell? ⟨w.heap.size, 1, none⟩ = some (.slice B m d)) (by kernel_rfl) ⟨x1, x2⟩ ?_
      intro hS_
      refine takeV (i := 0) (v := .slice A n c) (by (simp only [List.getElem?_toArray, List.getElem?_cons_zero]); rfl) (by kernel_rfl) (by kernel_rfl) (by kernel_rfl) (by rfl) (fun _ _ _ h => h) (Or.inl ⟨by rfl, ?_⟩) hS_ (by (simp only [List.setIfInBounds_toArray, List.set_cons_succ, List.set_cons_zero]); rfl) ?_
      · intro w_ hSw_; (try dsimp only at hSw_); go_simp
      refine wpAnyH_ready (rs := [1]) (by kernel_rfl) (by simp) ?_
      refine AllReadyH.cons (o := _) (by (simp only [List.getElem?_toArray, List.getElem?_cons_succ, List.getElem?_cons_zero]); rfl) (fun K_ hK_ => ?_) AllReadyH.nil
      rw [if_pos (by rfl)]
      go_simp
      go_at_call 18
      refine (c1 _ L1.out).mono ?_; rintro e w1 ⟨rfl, hb1⟩
      have y1 := (hb1.cell (p := ⟨w.heap.size, 0, none⟩) (by simp)).trans x1
      have y2 := (hb1.cell (p := ⟨w.heap.size, 1, none⟩) (by simp)).trans x2
      have hz1 : w.heap.size < w1.heap.size := by have := hb1.size; simp at this; omega
      have L2 := L1.out.up AtomE.stays hb1
      have T2 := T1.out.up hb1
      refine hK_.out _ _ ⟨y1, y2⟩ (fun hS2_ => ?_)
      clear hK_ hS_
      have hS_ := hS2_; clear hS2_
      refine takeV (i := 2) (v := .bool true) (by (simp only [List.getElem?_toArray, List.getElem?_cons_succ, List.getElem?_cons_zero]); rfl) (by kernel_rfl) (by kernel_rfl) (by kernel_rfl) (by rfl) (fun _ _ _ h => h) (Or.inl ⟨by rfl, ?_⟩) hS_ (by (simp only [List.setIfInBounds_toArray, List.set_cons_succ, List.set_cons_zero]); rfl) ?_
      · intro w_ hSw_; (try dsimp only at hSw_); go_simp
      refine takeV (i := 3) (v := .agg #[.string nm, .slice B m d]) (by (simp only [List.getElem?_toArray, List.getElem?_cons_succ, List.getElem?_cons_zero]); rfl) (by kernel_rfl) (by kernel_rfl) (by kernel_rfl) (by rfl) (fun _ _ _ h => h) (Or.inl ⟨by rfl, ?_⟩) hS_ (by (simp only [List.setIfInBounds_toArray, List.set_cons_succ, List.set_cons_zero]); rfl) ?_
      · intro w_ hSw_; (try dsimp only at hSw_); go_simp
      refine wpAnyH_ready (rs := [4]) (by kernel_rfl) (by simp) ?_
      refine AllReadyH.cons (o := _) (by (simp only [List.getElem?_toArray, List.getElem?_cons_succ, List.getElem?_cons_zero]); rfl) (fun K_ hK_ => ?_) AllReadyH.nil
      rw [if_pos (by rfl)]
      go_simp
      go_at_call 71
      refine (c2 _ T2).mono ?_; rintro e w2 ⟨rfl, hb2⟩
      have z1 := (hb2.cell (p := ⟨w.heap.size, 0, none⟩) (hz1)).trans y1
      have z2 := (hb2.cell (p := ⟨w.heap.size, 1, none⟩) (hz1)).trans y2
      have hz2 : w.heap.size < w2.heap.size := Nat.lt_of_lt_of_le hz1 hb2.size
      have L3 := L2.up AtomE.stays hb2
      have T3 := T2.up hb2
      refine hK_.out _ _ ⟨z1, z2⟩ (fun hS2_ => ?_)
      clear hK_ hS_
      have hS_ := hS2_; clear hS2_
      refine takeV (i := 5) (v := .bool false) (by (simp only [List.getElem?_toArray, List.getElem?_cons_succ, List.getElem?_cons_zero]); rfl) (by kernel_rfl) (by kernel_rfl) (by kernel_rfl) (by rfl) (fun _ _ _ h => h) (Or.inl ⟨by rfl, ?_⟩) hS_ (by (simp only [List.setIfInBounds_toArray, List.set_cons_succ, List.set_cons_zero]); rfl) ?_
      · intro w_ hSw_; (try dsimp only at hSw_); go_simp
      refine takeV (i := 6) (v := .bool false) (by (simp only [List.getElem?_toArray, List.getElem?_cons_succ, List.getElem?_cons_zero]); rfl) (by kernel_rfl) (by kernel_rfl) (by kernel_rfl) (by rfl) (fun _ _ _ h => h) (Or.inl ⟨by rfl, ?_⟩) hS_ (by (simp only [List.setIfInBounds_toArray, List.set_cons_succ, List.set_cons_zero]); rfl) ?_
      · intro w_ hSw_; (try dsimp only at hSw_); go_simp
      refine takeV (i := 7) (v := undef) (by (simp only [List.getElem?_toArray, List.getElem?_cons_succ, List.getElem?_cons_zero]); rfl) (by kernel_rfl) (by kernel_rfl) (by kernel_rfl) (by rfl) (fun _ _ _ h => h) (Or.inr ⟨by rfl, rfl⟩) hS_ (by (simp only [List.setIfInBounds_toArray, List.set_cons_succ, List.set_cons_zero]); rfl) ?_
      refine takeV (i := 8) (v := undef) (by (simp only [List.getElem?_toArray, List.getElem?_cons_succ, List.getElem?_cons_zero]); rfl) (by kernel_rfl) (by kernel_rfl) (by kernel_rfl) (by rfl) (fun _ _ _ h => h) (Or.inr ⟨by rfl, rfl⟩) hS_ (by (simp only [List.setIfInBounds_toArray, List.set_cons_succ, List.set_cons_zero]); rfl) ?_
      refine takeV (i := 9) (v := undef) (by (simp only [List.getElem?_toArray, List.getElem?_cons_succ, List.getElem?_cons_zero]); rfl) (by kernel_rfl) (by kernel_rfl) (by kernel_rfl) (by rfl) (fun _ _ _ h => h) (Or.inr ⟨by rfl, rfl⟩) hS_ (by (simp only [List.setIfInBounds_toArray, List.set_cons_succ, List.set_cons_zero]); rfl) ?_
      refine takeV (i := 10) (v := undef) (by (simp only [List.getElem?_toArray, List.getElem?_cons_succ, List.getElem?_cons_zero]); rfl) (by kernel_rfl) (by kernel_rfl) (by kernel_rfl) (by rfl) (fun _ _ _ h => h) (Or.inr ⟨by rfl, rfl⟩) hS_ (by (simp only [List.setIfInBounds_toArray, List.set_cons_succ, List.set_cons_zero]); rfl) ?_
      refine takeV (i := 11) (v := .bool false) (by (simp only [List.getElem?_toArray, List.getElem?_cons_succ, List.getElem?_cons_zero]); rfl) (by kernel_rfl) (by kernel_rfl) (by kernel_rfl) (by rfl) (fun _ _ _ h => h) (Or.inl ⟨by rfl, ?_⟩) hS_ (by (simp only [List.setIfInBounds_toArray, List.set_cons_succ, List.set_cons_zero]); rfl) ?_
      · intro w_ hSw_; (try dsimp only at hSw_); go_simp
      refine takeV (i := 12) (v := .bool false) (by (simp only [List.getElem?_toArray, List.getElem?_cons_succ, List.getElem?_cons_zero]); rfl) (by kernel_rfl) (by kernel_rfl) (by kernel_rfl) (by rfl) (fun _ _ _ h => h) (Or.inl ⟨by rfl, ?_⟩) hS_ (by (simp only [List.setIfInBounds_toArray, List.set_cons_succ, List.set_cons_zero]); rfl) ?_
      · intro w_ hSw_; (try dsimp only at hSw_); go_simp
      refine wpAnyH_done (by kernel_rfl) ?_ _
      go_wp2
      go_ret; exact ⟨retB E.out.symm, belowThen hwd (belowThen hb1 hb2)⟩
    · rw [hF] at c2
      have E := Lib.hid (show hasFB xs (nm, ts) = hasB xs (nm, ts) by unfold hasFB; rw [hA, hF]; rfl); clear hA hF
      go_enter Try.func20, Try.ntmps20
      go_wp2_with fail
      refine wp_region_held_drew (S := fun W => W.cell? ⟨w.heap.size, 0, none⟩ = some (.string nm) ∧ W.cell? ⟨w.heap.size, 1, none⟩ = some (.slice B m d)) (by kernel_rfl) ⟨x1, x2⟩ ?_
      intro hS_
      refine takeV (i := 0) (v := .slice A n c) (by (simp only [List.getElem?_toArray, List.getElem?_cons_zero]); rfl) (by kernel_rfl) (by kernel_rfl) (by kernel_rfl) (by rfl) (fun _ _ _ h => h) (Or.inl ⟨by rfl, ?_⟩) hS_ (by (simp only [List.setIfInBounds_toArray, List.set_cons_succ, List.set_cons_zero]); rfl) ?_
      · intro w_ hSw_; (try dsimp only at hSw_); go_simp
      refine wpAnyH_ready (rs := [1]) (by kernel_rfl) (by simp) ?_
      refine AllReadyH.cons (o := _) (by (simp only [List.getElem?_toArray, List.getElem?_cons_succ, List.getElem?_cons_zero]); rfl) (fun K_ hK_ => ?_) AllReadyH.nil
      rw [if_pos (by rfl)]
      go_simp
      go_at_call 18
      refine (c1 _ L1.out).mono ?_; rintro e w1 ⟨rfl, hb1⟩
      have y1 := (hb1.cell (p := ⟨w.heap.size, 0, none⟩) (by simp)).trans x1
      have y2 := (hb1.cell (p := ⟨w.heap.size, 1, none⟩) (by simp)).trans x2
      have hz1 : w.heap.size < w1.heap.size := by have := hb1.size; simp at this; omega
      have L2 := L1.out.up AtomE.stays hb1
      have T2 := T1.out.up hb1
      refine hK_.out _ _ ⟨y1, y2⟩ (fun hS2_ => ?_)
      clear hK_ hS_
      have hS_ := hS2_; clear hS2_
      refine takeV (i := 2) (v := .bool true) (by (simp only [List.getElem?_toArray, List.getElem?_cons_succ, List.getElem?_cons_zero]); rfl) (by kernel_rfl) (by kernel_rfl) (by kernel_rfl) (by rfl) (fun _ _ _ h => h) (Or.inl ⟨by rfl, ?_⟩) hS_ (by (simp only [List.setIfInBounds_toArray, List.set_cons_succ, List.set_cons_zero]); rfl) ?_
      · intro w_ hSw_; (try dsimp only at hSw_); go_simp
      refine takeV (i := 3) (v := .agg #[.string nm, .slice B m d]) (by (simp only [List.getElem?_toArray, List.getElem?_cons_succ, List.getElem?_cons_zero]); rfl) (by kernel_rfl) (by kernel_rfl) (by kernel_rfl) (by rfl) (fun _ _ _ h => h) (Or.inl ⟨by rfl, ?_⟩) hS_ (by (simp only [List.setIfInBounds_toArray, List.set_cons_succ, List.set_cons_zero]); rfl) ?_
      · intro w_ hSw_; (try dsimp only at hSw_); go_simp
      refine wpAnyH_ready (rs := [4]) (by kernel_rfl) (by simp) ?_
      refine AllReadyH.cons (o := _) (by (simp only [List.getElem?_toArray, List.getElem?_cons_succ, List.getElem?_cons_zero]); rfl) (fun K_ hK_ => ?_) AllReadyH.nil
      rw [if_pos (by rfl)]
      go_simp
      go_at_call 71
      refine (c2 _ T2).mono ?_; rintro e w2 ⟨rfl, hb2⟩
      have z1 := (hb2.cell (p := ⟨w.heap.size, 0, none⟩) (hz1)).trans y1
      have z2 := (hb2.cell (p := ⟨w.heap.size, 1, none⟩) (hz1)).trans y2
      have hz2 : w.heap.size < w2.heap.size := Nat.lt_of_lt_of_le hz1 hb2.size
      have L3 := L2.up AtomE.stays hb2
      have T3 := T2.up hb2
      refine hK_.out _ _ ⟨z1, z2⟩ (fun hS2_ => ?_)
      clear hK_ hS_
      have hS_ := hS2_; clear hS2_
      refine takeV (i := 5) (v := .bool true) (by (simp only [List.getElem?_toArray, List.getElem?_cons_succ, List.getElem?_cons_zero]); rfl) (by kernel_rfl) (by kernel_rfl) (by kernel_rfl) (by rfl) (fun _ _ _ h => h) (Or.inl ⟨by rfl, ?_⟩) hS_ (by (simp only [List.setIfInBounds_toArray, List.set_cons_succ, List.set_cons_zero]); rfl) ?_
      · intro w_ hSw_; (try dsimp only at hSw_); go_simp
      refine takeV (i := 6) (v := .bool true) (by (simp only [List.getElem?_toArray, List.getElem?_cons_succ, List.getElem?_cons_zero]); rfl) (by kernel_rfl) (by kernel_rfl) (by kernel_rfl) (by rfl) (fun _ _ _ h => h) (Or.inl ⟨by rfl, ?_⟩) hS_ (by (simp only [List.setIfInBounds_toArray, List.set_cons_succ, List.set_cons_zero]); rfl) ?_
      · intro w_ hSw_; (try dsimp only at hSw_); go_simp
      refine takeV (i := 7) (v := .slice A n c) (by (simp only [List.getElem?_toArray, List.getElem?_cons_succ, List.getElem?_cons_zero]); rfl) (by kernel_rfl) (by kernel_rfl) (by kernel_rfl) (by rfl) (fun _ _ _ h => h) (Or.inl ⟨by rfl, ?_⟩) hS_ (by (simp only [List.setIfInBounds_toArray, List.set_cons_succ, List.set_cons_zero]); rfl) ?_
      · intro w_ hSw_; (try dsimp only at hSw_); go_simp
      refine takeV (i := 9) (v := .agg #[.string nm, .slice B m d]) (by (simp only [List.getElem?_toArray, List.getElem?_cons_succ, List.getElem?_cons_zero]); rfl) (by kernel_rfl) (by kernel_rfl) (by kernel_rfl) (by rfl) (fun _ _ _ h => h) (Or.inl ⟨by rfl, ?_⟩) hS_ (by (simp only [List.setIfInBounds_toArray, List.set_cons_succ, List.set_cons_zero]); rfl) ?_
      · intro w_ hSw_; (try dsimp only at hSw_); go_simp
      refine wpAnyH_ready (rs := [8]) (by kernel_rfl) (by simp) ?_
      refine AllReadyH.cons (o := _) (by (simp only [List.getElem?_toArray, List.getElem?_cons_succ, List.getElem?_cons_zero]); rfl) (fun K_ hK_ => ?_) AllReadyH.nil
      rw [if_pos (by rfl)]
      go_simp
      go_at_call 72
      refine (factList_any A n c _).mono ?_; rintro e w3 ⟨rfl, hb3⟩
      have u1 := (hb3.cell (p := ⟨w.heap.size, 0, none⟩) (hz2)).trans z1
      have u2 := (hb3.cell (p := ⟨w.heap.size, 1, none⟩) (hz2)).trans z2
      have hz3 : w.heap.size < w3.heap.size := Nat.lt_of_lt_of_le hz2 hb3.size
      have L4 := L3.up AtomE.stays hb3
      have T4 := T3.up hb3
      refine hK_.out _ _ ⟨u1, u2⟩ (fun hS2_ => ?_)
      clear hK_ hS_
      have hS_ := hS2_; clear hS2_
      refine wpAnyH_ready (rs := [10]) (by kernel_rfl) (by simp) ?_
      refine AllReadyH.cons (o := _) (by (simp only [List.getElem?_toArray, List.getElem?_cons_succ, List.getElem?_cons_zero]); rfl) (fun K_ hK_ => ?_) AllReadyH.nil
      rw [if_pos (by rfl)]
      go_simp
      go_at_call 73
      refine (has_any A n c xs nm B m d ts _ L4 T4 RR.out hmax).mono ?_; rintro e w4 ⟨rfl, hb4⟩
      have v1 := (hb4.cell (p := ⟨w.heap.size, 0, none⟩) (hz3)).trans u1
      have v2 := (hb4.cell (p := ⟨w.heap.size, 1, none⟩) (hz3)).trans u2
      refine hK_.out _ _ ⟨v1, v2⟩ (fun hS2_ => ?_)
      clear hK_ hS_
      have hS_ := hS2_; clear hS2_
      refine takeV (i := 11) (v := .bool (hasB xs (nm, ts))) (by (simp only [List.getElem?_toArray, List.getElem?_cons_succ, List.getElem?_cons_zero]); rfl) (by kernel_rfl) (by kernel_rfl) (by kernel_rfl) (by rfl) (fun _ _ _ h => h) (Or.inl ⟨by rfl, ?_⟩) hS_ (by (simp only [List.setIfInBounds_toArray, List.set_cons_succ, List.set_cons_zero]); rfl) ?_
      · intro w_ hSw_; (try dsimp only at hSw_); go_simp
      refine takeV (i := 12) (v := .bool (hasB xs (nm, ts))) (by (simp only [List.getElem?_toArray, List.getElem?_cons_succ, List.getElem?_cons_zero]); rfl) (by kernel_rfl) (by kernel_rfl) (by kernel_rfl) (by rfl) (fun _ _ _ h => h) (Or.inl ⟨by rfl, ?_⟩) hS_ (by (simp only [List.setIfInBounds_toArray, List.set_cons_succ, List.set_cons_zero]); rfl) ?_
      · intro w_ hSw_; (try dsimp only at hSw_); go_simp
      refine wpAnyH_done (by kernel_rfl) ?_ _
      go_wp2
      go_ret; exact ⟨retB E.out.symm, belowThen hwd (belowThen hb1 (belowThen hb2 (belowThen hb3 hb4)))⟩

set_option maxHeartbeats 2000000 in
theorem specFactsHas_any (A : Option Addr) (n c : Nat) (xs : List At) (nm : ByteArray) (B : Option Addr) (m d : Nat) (ts : List Tm) (w : World) (hs : nm.size ≤ maxLen) (h : IsAtoms w 0 w.heap.size A n c xs) (h' : IsTerms w 0 w.heap.size B m d ts) :
    Calls Try.prog 21 #[.slice A n c, .agg #[.string nm, .slice B m d]] w (BoolPost (hasFB xs (nm, ts)) w) := by
  have hw0 := below1 w (.cells #[.string nm, .slice B m d] 26)
  have X0 := Lib.hid (Box.new w (.string nm) (.slice B m d) 26)
  have H := Lib.hid h; clear h
  have H' := Lib.hid h'; clear h'
  have c1 : ∀ W : World, IsAtoms W 0 W.heap.size A n c xs → Calls Try.prog 19 #[.slice A n c] W (BoolPost (factsB 300 xs) W) := fun W hh => specFactsOk_any A n c xs W hh
  have c2 : ∀ W : World, IsTerms W 0 W.heap.size B m d ts → Calls Try.prog 77 #[.agg #[.string nm, .slice B m d]] W (BoolPost (factB (nm, ts)) W) := fun W hh => l3Ground_any nm B m d ts W hs hh
  cases hA : factsB 300 xs
  · rw [hA] at c1
    have E := Lib.hid (show hasFB xs (nm, ts) = false by unfold hasFB; rw [hA]; rfl); clear hA
    go_enter Try.func21, Try.ntmps21
    go_wp2_with fail
    refine (c1 _ (H.out.up AtomE.stays hw0)).mono ?_; rintro e w1 ⟨rfl, hb1⟩
    go_wp2
    go_ret; exact ⟨retB E.out.symm, belowThen hw0 hb1⟩
  · rw [hA] at c1
    have RR := Lib.hid (factsB_rises hA)
    cases hF : factB (nm, ts)
    · rw [hF] at c2
      have E := Lib.hid (show hasFB xs (nm, ts) = false by unfold hasFB; rw [hA, hF]; rfl); clear hA hF
      go_enter Try.func21, Try.ntmps21
      go_wp2_with fail
      refine (c1 _ (H.out.up AtomE.stays hw0)).mono ?_; rintro e w1 ⟨rfl, hb1⟩
      have HB1 := belowThen hw0 hb1
      obtain ⟨b0, b1, b2⟩ := X0.out.later hb1
      go_wp2_with fail
      refine (c2 _ (H'.out.up HB1)).mono ?_; rintro e w2 ⟨rfl, hb2⟩
      go_wp2
      go_ret; exact ⟨retB E.out.symm, belowThen HB1 hb2⟩
    · rw [hF] at c2
      have E := Lib.hid (show hasFB xs (nm, ts) = hasB xs (nm, ts) by unfold hasFB; rw [hA, hF]; rfl); clear hA hF
      go_enter Try.func21, Try.ntmps21
      go_wp2_with fail
      refine (c1 _ (H.out.up AtomE.stays hw0)).mono ?_; rintro e w1 ⟨rfl, hb1⟩
      have HB1 := belowThen hw0 hb1
      obtain ⟨b0, b1, b2⟩ := X0.out.later hb1
      go_wp2_with fail
      refine (c2 _ (H'.out.up HB1)).mono ?_; rintro e w2 ⟨rfl, hb2⟩
      have HB2 := belowThen HB1 hb2
      obtain ⟨g0, g1, g2⟩ := (X0.out.later hb1).later hb2
      clear b0 b1 b2
      go_wp2_with fail
      refine (l3Has_any _ _ _ xs nm B m d ts _ (H.out.up AtomE.stays HB2) (H'.out.up HB2) RR.out).mono ?_; rintro e w3 ⟨rfl, hb3⟩
      go_wp2
      go_ret; exact ⟨retB E.out.symm, belowThen HB2 hb3⟩

end Go.Proofs.Ytbhkihnekendbaa
