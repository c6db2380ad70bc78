/-
  Texts of one claim, put together.
-/
import Derived.Test.YtogonjkklioaaaaGreatDoorLg4
import Derived.Test.YtogonjkklioaaaaGreatDoorLg5
import Derived.Test.YtogonjkklioaaaaGreatDoorLg0
namespace Go.Proofs.YtogonjkklioaaaaGreatDoor
open Go.RowKit

/-- The place at which one stands, or would stand; and whether it is there. -/
def AtPost (xs : List At) (a : At) (n : Nat) (w : World) (e : Ending) (w' : World) : Prop :=
  ∃ k : Nat, (e = .returned (.tuple #[.int .i64 (k : Int), .bool (hasB xs a)]) ∧ k ≤ n ∧ (∀ j y, j < k → xs[j]? = some y → atomCmp y a < 0) ∧ (∀ y, xs[k]? = some y → 0 ≤ atomCmp y a)) ∧ Below w.heap.size w w'

set_option maxHeartbeats 2000000 in
theorem l3At_any (A : Option Addr) (n c : Nat) (xs : List At) (nm : ByteArray) (B : Option Addr) (m d : Nat) (ts : List Tm) (w : World) (h : IsAtoms w 0 w.heap.size A n c xs) (h' : IsTerms w 0 w.heap.size B m d ts) (hr : risesB xs = true) :
    Calls Tryz.prog 64 #[.slice A n c, .agg #[.string nm, .slice B m d]] w (AtPost xs (nm, ts) n w) := by
  have hn := h.len
  unfold maxLen at hn
  have L := Lib.hid h.1
  have H := Lib.hid h; clear h
  have H' := Lib.hid h'; clear h'
  have RR := Lib.hid hr; clear hr
  have hw0 := below1 w (.cells #[.string nm, .slice B m d] 51)
  have X0 := Lib.hid (Box.new w (.string nm) (.slice B m d) 51)
  go_enter Tryz.func64, Tryz.ntmps64
  go_wp2
  go_loopw [6] (fun i wr => ∃ k : Nat, k ≤ n ∧ i = .int .i64 k ∧ (∀ j y, j < k → xs[j]? = some y → atomCmp y (nm, ts) < 0) ∧ Below (w.alloc (.cells #[.string nm, .slice B m d] 51)).heap.size (w.alloc (.cells #[.string nm, .slice B m d] 51)) wr) (fun i _ => n - (intOf i).toNat)
  case atStart => exact ⟨0, Nat.zero_le _, rfl, fun j y hj => absurd hj (Nat.not_lt_zero _), Below.refl _ _⟩
  case round =>
    obtain ⟨k, hk, rfl, hl, hb⟩ := hrel
    have HL := Lib.hid hl; clear hl
    have HB := belowThen hw0 hb
    obtain ⟨b0, b1, b2⟩ := X0.out.later hb
    have e1 : wr.drew.cell? ⟨w.heap.size, 0, none⟩ = some (.string nm) := b1
    have e2 : wr.drew.cell? ⟨w.heap.size, 1, none⟩ = some (.slice B m d) := b2
    have hbd := hb.drew
    have HU := Lib.hid (show IsTerms wr.drew 0 wr.drew.heap.size B m d ts from (H'.out.up HB).keep (fun _ _ _ => rfl) (Nat.le_refl _) (Nat.le_refl _))
    by_cases hlt : k < n
    · obtain ⟨p, q, hA, hlo, hhi, hg, hE⟩ := (H.out.below AtomE.stays HB (Nat.le_refl _)).at_ hlt
      obtain ⟨A', n', c', d1, d3, d4, d5⟩ := hE.out
      clear hE
      have hpb : p.block < wr.heap.size := Nat.lt_of_lt_of_le hhi HB.size
      subst hA
      have HG := Lib.hid hg; clear hg
      have HT := Lib.hid (d5.keep (w' := wr.drew) (lo' := 0) (hi' := wr.drew.heap.size) (fun _ _ _ => rfl) (Nat.le_refl _) HB.size); clear d5
      have x1 : wr.drew.cell? (p.add (k * 2)) = some (.string q.1) := d1
      have x2 : wr.drew.cell? ⟨(p.add (k * 2)).block, (p.add (k * 2)).off + 1, none⟩ = some (.slice A' n' c') := d4
      by_cases hc : atomCmp q (nm, ts) < 0
      · have hc' : atomCmp (q.1, q.2) (nm, ts) < 0 := hc
        have E := Lib.hid (low_snoc HL.out HG.out hc); clear hc
        go_wp2_with fail
        refine wp_region_held_drew (S := fun W => (W.cell? ⟨w.heap.size, 0, none⟩ = some (.string nm) ∧ W.cell? ⟨w.heap.size, 1, none⟩ = some (.slice B m d)) ∧ W.cell? (p.add (k * 2)) = some (.string q.1) ∧ W.cell? ⟨(p.add (k * 2)).block, (p.add (k * 2)).off + 1, none⟩ = some (.slice A' n' c')) (by kernel_rfl) ⟨⟨e1, e2⟩, x1, x2⟩ ?_
        intro hS_
        refine takeV (i := 0) (v := .int .i64 (k : Int)) (by (simp only [List.getElem?_toArray, List.getElem?_cons_zero]); rfl) (by kernel_rfl) (by kernel_rfl) (by kernel_rfl) (by rfl) (fun _ _ _ h => h) (Or.inl ⟨by rfl, ?_⟩) hS_ (by (simp only [List.setIfInBounds_toArray, List.set_cons_succ, List.set_cons_zero]); rfl) ?_
        · intro w_ hSw_; (try dsimp only at hSw_); go_simp
        refine takeV (i := 1) (v := .slice (some p) n c) (by (simp only [List.getElem?_toArray, List.getElem?_cons_succ, List.getElem?_cons_zero]); rfl) (by kernel_rfl) (by kernel_rfl) (by kernel_rfl) (by rfl) (fun _ _ _ h => h) (Or.inl ⟨by rfl, ?_⟩) hS_ (by (simp only [List.setIfInBounds_toArray, List.set_cons_succ, List.set_cons_zero]); rfl) ?_
        · intro w_ hSw_; (try dsimp only at hSw_); go_simp
        refine takeV (i := 2) (v := .int .i64 (n : Int)) (by (simp only [List.getElem?_toArray, List.getElem?_cons_succ, List.getElem?_cons_zero]); rfl) (by kernel_rfl) (by kernel_rfl) (by kernel_rfl) (by rfl) (fun _ _ _ h => h) (Or.inl ⟨by rfl, ?_⟩) hS_ (by (simp only [List.setIfInBounds_toArray, List.set_cons_succ, List.set_cons_zero]); rfl) ?_
        · intro w_ hSw_; (try dsimp only at hSw_); go_simp
        refine takeV (i := 3) (v := .bool true) (by (simp only [List.getElem?_toArray, List.getElem?_cons_succ, List.getElem?_cons_zero]); rfl) (by kernel_rfl) (by kernel_rfl) (by kernel_rfl) (by rfl) (fun _ _ _ h => h) (Or.inl ⟨by rfl, ?_⟩) hS_ (by (simp only [List.setIfInBounds_toArray, List.set_cons_succ, List.set_cons_zero]); rfl) ?_
        · intro w_ hSw_; (try dsimp only at hSw_); go_simp
        refine takeV (i := 4) (v := .bool true) (by (simp only [List.getElem?_toArray, List.getElem?_cons_succ, List.getElem?_cons_zero]); rfl) (by kernel_rfl) (by kernel_rfl) (by kernel_rfl) (by rfl) (fun _ _ _ h => h) (Or.inl ⟨by rfl, ?_⟩) hS_ (by (simp only [List.setIfInBounds_toArray, List.set_cons_succ, List.set_cons_zero]); rfl) ?_
        · intro w_ hSw_; (try dsimp only at hSw_); go_simp
        refine takeV (i := 5) (v := .slice (some p) n c) (by (simp only [List.getElem?_toArray, List.getElem?_cons_succ, List.getElem?_cons_zero]); rfl) (by kernel_rfl) (by kernel_rfl) (by kernel_rfl) (by rfl) (fun _ _ _ h => h) (Or.inl ⟨by rfl, ?_⟩) hS_ (by (simp only [List.setIfInBounds_toArray, List.set_cons_succ, List.set_cons_zero]); rfl) ?_
        · intro w_ hSw_; (try dsimp only at hSw_); go_simp
        refine takeV (i := 6) (v := .int .i64 (k : Int)) (by (simp only [List.getElem?_toArray, List.getElem?_cons_succ, List.getElem?_cons_zero]); rfl) (by kernel_rfl) (by kernel_rfl) (by kernel_rfl) (by rfl) (fun _ _ _ h => h) (Or.inl ⟨by rfl, ?_⟩) hS_ (by (simp only [List.setIfInBounds_toArray, List.set_cons_succ, List.set_cons_zero]); rfl) ?_
        · intro w_ hSw_; (try dsimp only at hSw_); go_simp
        refine takeV (i := 7) (v := .pointer (some (p.add (k * 2)))) (by (simp only [List.getElem?_toArray, List.getElem?_cons_succ, List.getElem?_cons_zero]); rfl) (by kernel_rfl) (by kernel_rfl) (by kernel_rfl) (by rfl) (fun _ _ _ h => h) (Or.inl ⟨by rfl, ?_⟩) hS_ (by (simp only [List.setIfInBounds_toArray, List.set_cons_succ, List.set_cons_zero]); rfl) ?_
        · intro w_ hSw_; (try dsimp only at hSw_); go_simp
        refine takeV (i := 8) (v := .agg #[.string q.1, .slice A' n' c']) (by (simp only [List.getElem?_toArray, List.getElem?_cons_succ, List.getElem?_cons_zero]); rfl) (by kernel_rfl) (by kernel_rfl) (by kernel_rfl) (by rfl) (fun _ _ _ h => h) (Or.inl ⟨by rfl, ?_⟩) hS_ (by (simp only [List.setIfInBounds_toArray, List.set_cons_succ, List.set_cons_zero]); rfl) ?_
        · intro w_ hSw_; (try dsimp only at hSw_); go_simp
        refine takeV (i := 9) (v := .agg #[.string nm, .slice B m d]) (by (simp only [List.getElem?_toArray, List.getElem?_cons_succ, List.getElem?_cons_zero]); rfl) (by kernel_rfl) (by kernel_rfl) (by kernel_rfl) (by rfl) (fun _ _ _ h => h) (Or.inl ⟨by rfl, ?_⟩) hS_ (by (simp only [List.setIfInBounds_toArray, List.set_cons_succ, List.set_cons_zero]); rfl) ?_
        · intro w_ hSw_; (try dsimp only at hSw_); go_simp
        refine wpAnyH_ready (rs := [10]) (by kernel_rfl) (by simp) ?_
        refine AllReadyH.cons (o := _) (by (simp only [List.getElem?_toArray, List.getElem?_cons_succ, List.getElem?_cons_zero]); rfl) (fun K_ hK_ => ?_) AllReadyH.nil
        rw [if_pos (by rfl)]
        go_simp
        go_at_call 100
        refine (l1Cmp_any q.1 nm A' B n' c' m d q.2 ts _ HT.out HU.out).mono ?_; rintro e w1 ⟨rfl, hb1⟩
        have y1 := (hb1.cell (p := ⟨w.heap.size, 0, none⟩) (b0)).trans b1
        have y2 := (hb1.cell (p := ⟨w.heap.size, 1, none⟩) (b0)).trans b2
        have y3 := (hb1.cell (p := p.add (k * 2)) (by rw [block_add]; exact hpb)).trans d1
        have y4 := (hb1.cell (p := ⟨(p.add (k * 2)).block, (p.add (k * 2)).off + 1, none⟩) (by rw [block_add]; exact hpb)).trans d4
        refine hK_.out _ _ ⟨⟨y1, y2⟩, y3, y4⟩ (fun hS2_ => ?_)
        clear hK_ hS_
        have hS_ := hS2_; clear hS2_
        refine takeV (i := 11) (v := .bool true) (by (simp only [List.getElem?_toArray, List.getElem?_cons_succ, List.getElem?_cons_zero]); rfl) (by kernel_rfl) (by kernel_rfl) (by kernel_rfl) (by rfl) (fun _ _ _ h => h) (Or.inl ⟨by rfl, ?_⟩) hS_ (by (simp only [List.setIfInBounds_toArray, List.set_cons_succ, List.set_cons_zero]); rfl) ?_
        · intro w_ hSw_; (try dsimp only at hSw_); go_simp
        refine takeV (i := 12) (v := .bool true) (by (simp only [List.getElem?_toArray, List.getElem?_cons_succ, List.getElem?_cons_zero]); rfl) (by kernel_rfl) (by kernel_rfl) (by kernel_rfl) (by rfl) (fun _ _ _ h => h) (Or.inl ⟨by rfl, ?_⟩) hS_ (by (simp only [List.setIfInBounds_toArray, List.set_cons_succ, List.set_cons_zero]); rfl) ?_
        · intro w_ hSw_; (try dsimp only at hSw_); go_simp
        refine wpAnyH_done (by kernel_rfl) ?_ _
        go_wp2
        go_roundw
        case rel => exact ⟨k + 1, by omega, by go_num, E.out, belowThen hbd hb1⟩
        case measure => simp [intOf]; omega
      · have hc' : ¬ atomCmp (q.1, q.2) (nm, ts) < 0 := hc
        have E := Lib.hid (hasB_at RR.out HL.out HG.out (Int.not_lt.1 hc))
        have EC := Lib.hid hc; clear hc
        go_wp2_with fail
        refine wp_region_held_drew (S := fun W => (W.cell? ⟨w.heap.size, 0, none⟩ = some (.string nm) ∧ W.cell? ⟨w.heap.size, 1, none⟩ = some (.slice B m d)) ∧ W.cell? (p.add (k * 2)) = some (.string q.1) ∧ W.cell? ⟨(p.add (k * 2)).block, (p.add (k * 2)).off + 1, none⟩ = some (.slice A' n' c')) (by kernel_rfl) ⟨⟨e1, e2⟩, x1, x2⟩ ?_
        intro hS_
        refine takeV (i := 0) (v := .int .i64 (k : Int)) (by (simp only [List.getElem?_toArray, List.getElem?_cons_zero]); rfl) (by kernel_rfl) (by kernel_rfl) (by kernel_rfl) (by rfl) (fun _ _ _ h => h) (Or.inl ⟨by rfl, ?_⟩) hS_ (by (simp only [List.setIfInBounds_toArray, List.set_cons_succ, List.set_cons_zero]); rfl) ?_
        · intro w_ hSw_; (try dsimp only at hSw_); go_simp
        refine takeV (i := 1) (v := .slice (some p) n c) (by (simp only [List.getElem?_toArray, List.getElem?_cons_succ, List.getElem?_cons_zero]); rfl) (by kernel_rfl) (by kernel_rfl) (by kernel_rfl) (by rfl) (fun _ _ _ h => h) (Or.inl ⟨by rfl, ?_⟩) hS_ (by (simp only [List.setIfInBounds_toArray, List.set_cons_succ, List.set_cons_zero]); rfl) ?_
        · intro w_ hSw_; (try dsimp only at hSw_); go_simp
        refine takeV (i := 2) (v := .int .i64 (n : Int)) (by (simp only [List.getElem?_toArray, List.getElem?_cons_succ, List.getElem?_cons_zero]); rfl) (by kernel_rfl) (by kernel_rfl) (by kernel_rfl) (by rfl) (fun _ _ _ h => h) (Or.inl ⟨by rfl, ?_⟩) hS_ (by (simp only [List.setIfInBounds_toArray, List.set_cons_succ, List.set_cons_zero]); rfl) ?_
        · intro w_ hSw_; (try dsimp only at hSw_); go_simp
        refine takeV (i := 3) (v := .bool true) (by (simp only [List.getElem?_toArray, List.getElem?_cons_succ, List.getElem?_cons_zero]); rfl) (by kernel_rfl) (by kernel_rfl) (by kernel_rfl) (by rfl) (fun _ _ _ h => h) (Or.inl ⟨by rfl, ?_⟩) hS_ (by (simp only [List.setIfInBounds_toArray, List.set_cons_succ, List.set_cons_zero]); rfl) ?_
        · intro w_ hSw_; (try dsimp only at hSw_); go_simp
        refine takeV (i := 4) (v := .bool true) (by (simp only [List.getElem?_toArray, List.getElem?_cons_succ, List.getElem?_cons_zero]); rfl) (by kernel_rfl) (by kernel_rfl) (by kernel_rfl) (by rfl) (fun _ _ _ h => h) (Or.inl ⟨by rfl, ?_⟩) hS_ (by (simp only [List.setIfInBounds_toArray, List.set_cons_succ, List.set_cons_zero]); rfl) ?_
        · intro w_ hSw_; (try dsimp only at hSw_); go_simp
        refine takeV (i := 5) (v := .slice (some p) n c) (by (simp only [List.getElem?_toArray, List.getElem?_cons_succ, List.getElem?_cons_zero]); rfl) (by kernel_rfl) (by kernel_rfl) (by kernel_rfl) (by rfl) (fun _ _ _ h => h) (Or.inl ⟨by rfl, ?_⟩) hS_ (by (simp only [List.setIfInBounds_toArray, List.set_cons_succ, List.set_cons_zero]); rfl) ?_
        · intro w_ hSw_; (try dsimp only at hSw_); go_simp
        refine takeV (i := 6) (v := .int .i64 (k : Int)) (by (simp only [List.getElem?_toArray, List.getElem?_cons_succ, List.getElem?_cons_zero]); rfl) (by kernel_rfl) (by kernel_rfl) (by kernel_rfl) (by rfl) (fun _ _ _ h => h) (Or.inl ⟨by rfl, ?_⟩) hS_ (by (simp only [List.setIfInBounds_toArray, List.set_cons_succ, List.set_cons_zero]); rfl) ?_
        · intro w_ hSw_; (try dsimp only at hSw_); go_simp
        refine takeV (i := 7) (v := .pointer (some (p.add (k * 2)))) (by (simp only [List.getElem?_toArray, List.getElem?_cons_succ, List.getElem?_cons_zero]); rfl) (by kernel_rfl) (by kernel_rfl) (by kernel_rfl) (by rfl) (fun _ _ _ h => h) (Or.inl ⟨by rfl, ?_⟩) hS_ (by (simp only [List.setIfInBounds_toArray, List.set_cons_succ, List.set_cons_zero]); rfl) ?_
        · intro w_ hSw_; (try dsimp only at hSw_); go_simp
        refine takeV (i := 8) (v := .agg #[.string q.1, .slice A' n' c']) (by (simp only [List.getElem?_toArray, List.getElem?_cons_succ, List.getElem?_cons_zero]); rfl) (by kernel_rfl) (by kernel_rfl) (by kernel_rfl) (by rfl) (fun _ _ _ h => h) (Or.inl ⟨by rfl, ?_⟩) hS_ (by (simp only [List.setIfInBounds_toArray, List.set_cons_succ, List.set_cons_zero]); rfl) ?_
        · intro w_ hSw_; (try dsimp only at hSw_); go_simp
        refine takeV (i := 9) (v := .agg #[.string nm, .slice B m d]) (by (simp only [List.getElem?_toArray, List.getElem?_cons_succ, List.getElem?_cons_zero]); rfl) (by kernel_rfl) (by kernel_rfl) (by kernel_rfl) (by rfl) (fun _ _ _ h => h) (Or.inl ⟨by rfl, ?_⟩) hS_ (by (simp only [List.setIfInBounds_toArray, List.set_cons_succ, List.set_cons_zero]); rfl) ?_
        · intro w_ hSw_; (try dsimp only at hSw_); go_simp
        refine wpAnyH_ready (rs := [10]) (by kernel_rfl) (by simp) ?_
        refine AllReadyH.cons (o := _) (by (simp only [List.getElem?_toArray, List.getElem?_cons_succ, List.getElem?_cons_zero]); rfl) (fun K_ hK_ => ?_) AllReadyH.nil
        rw [if_pos (by rfl)]
        go_simp
        go_at_call 100
        refine (l1Cmp_any q.1 nm A' B n' c' m d q.2 ts _ HT.out HU.out).mono ?_; rintro e w1 ⟨rfl, hb1⟩
        have y1 := (hb1.cell (p := ⟨w.heap.size, 0, none⟩) (b0)).trans b1
        have y2 := (hb1.cell (p := ⟨w.heap.size, 1, none⟩) (b0)).trans b2
        have y3 := (hb1.cell (p := p.add (k * 2)) (by rw [block_add]; exact hpb)).trans d1
        have y4 := (hb1.cell (p := ⟨(p.add (k * 2)).block, (p.add (k * 2)).off + 1, none⟩) (by rw [block_add]; exact hpb)).trans d4
        refine hK_.out _ _ ⟨⟨y1, y2⟩, y3, y4⟩ (fun hS2_ => ?_)
        clear hK_ hS_
        have hS_ := hS2_; clear hS2_
        refine takeV (i := 11) (v := .bool false) (by (simp only [List.getElem?_toArray, List.getElem?_cons_succ, List.getElem?_cons_zero]); rfl) (by kernel_rfl) (by kernel_rfl) (by kernel_rfl) (by rfl) (fun _ _ _ h => h) (Or.inl ⟨by rfl, ?_⟩) hS_ (by (simp only [List.setIfInBounds_toArray, List.set_cons_succ, List.set_cons_zero]); rfl) ?_
        · intro w_ hSw_; (try dsimp only at hSw_); go_simp
        refine takeV (i := 12) (v := .bool false) (by (simp only [List.getElem?_toArray, List.getElem?_cons_succ, List.getElem?_cons_zero]); rfl) (by kernel_rfl) (by kernel_rfl) (by kernel_rfl) (by rfl) (fun _ _ _ h => h) (Or.inl ⟨by rfl, ?_⟩) hS_ (by (simp only [List.setIfInBounds_toArray, List.set_cons_succ, List.set_cons_zero]); rfl) ?_
        · intro w_ hSw_; (try dsimp only at hSw_); go_simp
        refine wpAnyH_done (by kernel_rfl) ?_ _
        have HT2 := Lib.hid (show IsTerms w1.drew 0 w1.drew.heap.size A' n' c' q.2 from (HT.out.up hb1).keep (fun _ _ _ => rfl) (Nat.le_refl _) (Nat.le_refl _))
        have HU2 := Lib.hid (show IsTerms w1.drew 0 w1.drew.heap.size B m d ts from (HU.out.up hb1).keep (fun _ _ _ => rfl) (Nat.le_refl _) (Nat.le_refl _))
        clear x1 x2 e1 e2
        by_cases hz : atomCmp q (nm, ts) = 0
        · have hz' : atomCmp (q.1, q.2) (nm, ts) = 0 := hz
          have EB := Lib.hid (show hasB xs (nm, ts) = true by rw [E.out, decide_eq_true hz]); clear hz hc'
          go_wp2_with fail
          refine wp_region_held_drew (S := fun W => (W.cell? ⟨w.heap.size, 0, none⟩ = some (.string nm) ∧ W.cell? ⟨w.heap.size, 1, none⟩ = some (.slice B m d)) ∧ W.cell? (p.add (k * 2)) = some (.string q.1) ∧ W.cell? ⟨(p.add (k * 2)).block, (p.add (k * 2)).off + 1, none⟩ = some (.slice A' n' c')) (by kernel_rfl) ⟨⟨y1, y2⟩, y3, y4⟩ ?_
          intro hS_
          refine takeV (i := 0) (v := .int .i64 (k : Int)) (by (simp only [List.getElem?_toArray, List.getElem?_cons_zero]); rfl) (by kernel_rfl) (by kernel_rfl) (by kernel_rfl) (by rfl) (fun _ _ _ h => h) (Or.inl ⟨by rfl, ?_⟩) hS_ (by (simp only [List.setIfInBounds_toArray, List.set_cons_succ, List.set_cons_zero]); rfl) ?_
          · intro w_ hSw_; (try dsimp only at hSw_); go_simp
          refine takeV (i := 1) (v := .int .i64 (k : Int)) (by (simp only [List.getElem?_toArray, List.getElem?_cons_succ, List.getElem?_cons_zero]); rfl) (by kernel_rfl) (by kernel_rfl) (by kernel_rfl) (by rfl) (fun _ _ _ h => h) (Or.inl ⟨by rfl, ?_⟩) hS_ (by (simp only [List.setIfInBounds_toArray, List.set_cons_succ, List.set_cons_zero]); rfl) ?_
          · intro w_ hSw_; (try dsimp only at hSw_); go_simp
          refine takeV (i := 2) (v := .slice (some p) n c) (by (simp only [List.getElem?_toArray, List.getElem?_cons_succ, List.getElem?_cons_zero]); rfl) (by kernel_rfl) (by kernel_rfl) (by kernel_rfl) (by rfl) (fun _ _ _ h => h) (Or.inl ⟨by rfl, ?_⟩) hS_ (by (simp only [List.setIfInBounds_toArray, List.set_cons_succ, List.set_cons_zero]); rfl) ?_
          · intro w_ hSw_; (try dsimp only at hSw_); go_simp
          refine takeV (i := 3) (v := .int .i64 (n : Int)) (by (simp only [List.getElem?_toArray, List.getElem?_cons_succ, List.getElem?_cons_zero]); rfl) (by kernel_rfl) (by kernel_rfl) (by kernel_rfl) (by rfl) (fun _ _ _ h => h) (Or.inl ⟨by rfl, ?_⟩) hS_ (by (simp only [List.setIfInBounds_toArray, List.set_cons_succ, List.set_cons_zero]); rfl) ?_
          · intro w_ hSw_; (try dsimp only at hSw_); go_simp
          refine takeV (i := 4) (v := .bool true) (by (simp only [List.getElem?_toArray, List.getElem?_cons_succ, List.getElem?_cons_zero]); rfl) (by kernel_rfl) (by kernel_rfl) (by kernel_rfl) (by rfl) (fun _ _ _ h => h) (Or.inl ⟨by rfl, ?_⟩) hS_ (by (simp only [List.setIfInBounds_toArray, List.set_cons_succ, List.set_cons_zero]); rfl) ?_
          · intro w_ hSw_; (try dsimp only at hSw_); go_simp
          refine takeV (i := 5) (v := .bool true) (by (simp only [List.getElem?_toArray, List.getElem?_cons_succ, List.getElem?_cons_zero]); rfl) (by kernel_rfl) (by kernel_rfl) (by kernel_rfl) (by rfl) (fun _ _ _ h => h) (Or.inl ⟨by rfl, ?_⟩) hS_ (by (simp only [List.setIfInBounds_toArray, List.set_cons_succ, List.set_cons_zero]); rfl) ?_
          · intro w_ hSw_; (try dsimp only at hSw_); go_simp
          refine takeV (i := 6) (v := .slice (some p) n c) (by (simp only [List.getElem?_toArray, List.getElem?_cons_succ, List.getElem?_cons_zero]); rfl) (by kernel_rfl) (by kernel_rfl) (by kernel_rfl) (by rfl) (fun _ _ _ h => h) (Or.inl ⟨by rfl, ?_⟩) hS_ (by (simp only [List.setIfInBounds_toArray, List.set_cons_succ, List.set_cons_zero]); rfl) ?_
          · intro w_ hSw_; (try dsimp only at hSw_); go_simp
          refine takeV (i := 7) (v := .int .i64 (k : Int)) (by (simp only [List.getElem?_toArray, List.getElem?_cons_succ, List.getElem?_cons_zero]); rfl) (by kernel_rfl) (by kernel_rfl) (by kernel_rfl) (by rfl) (fun _ _ _ h => h) (Or.inl ⟨by rfl, ?_⟩) hS_ (by (simp only [List.setIfInBounds_toArray, List.set_cons_succ, List.set_cons_zero]); rfl) ?_
          · intro w_ hSw_; (try dsimp only at hSw_); go_simp
          refine takeV (i := 8) (v := .pointer (some (p.add (k * 2)))) (by (simp only [List.getElem?_toArray, List.getElem?_cons_succ, List.getElem?_cons_zero]); rfl) (by kernel_rfl) (by kernel_rfl) (by kernel_rfl) (by rfl) (fun _ _ _ h => h) (Or.inl ⟨by rfl, ?_⟩) hS_ (by (simp only [List.setIfInBounds_toArray, List.set_cons_succ, List.set_cons_zero]); rfl) ?_
          · intro w_ hSw_; (try dsimp only at hSw_); go_simp
          refine takeV (i := 9) (v := .agg #[.string q.1, .slice A' n' c']) (by (simp only [List.getElem?_toArray, List.getElem?_cons_succ, List.getElem?_cons_zero]); rfl) (by kernel_rfl) (by kernel_rfl) (by kernel_rfl) (by rfl) (fun _ _ _ h => h) (Or.inl ⟨by rfl, ?_⟩) hS_ (by (simp only [List.setIfInBounds_toArray, List.set_cons_succ, List.set_cons_zero]); rfl) ?_
          · intro w_ hSw_; (try dsimp only at hSw_); go_simp
          refine takeV (i := 10) (v := .agg #[.string nm, .slice B m d]) (by (simp only [List.getElem?_toArray, List.getElem?_cons_succ, List.getElem?_cons_zero]); rfl) (by kernel_rfl) (by kernel_rfl) (by kernel_rfl) (by rfl) (fun _ _ _ h => h) (Or.inl ⟨by rfl, ?_⟩) hS_ (by (simp only [List.setIfInBounds_toArray, List.set_cons_succ, List.set_cons_zero]); rfl) ?_
          · intro w_ hSw_; (try dsimp only at hSw_); go_simp
          refine wpAnyH_ready (rs := [11]) (by kernel_rfl) (by simp) ?_
          refine AllReadyH.cons (o := _) (by (simp only [List.getElem?_toArray, List.getElem?_cons_succ, List.getElem?_cons_zero]); rfl) (fun K_ hK_ => ?_) AllReadyH.nil
          rw [if_pos (by rfl)]
          go_simp
          go_at_call 100
          refine (l1Cmp_any q.1 nm A' B n' c' m d q.2 ts _ HT2.out HU2.out).mono ?_; rintro e w2 ⟨rfl, hb2⟩
          have z1 := (hb2.cell (p := ⟨w.heap.size, 0, none⟩) (Nat.lt_of_lt_of_le b0 hb1.size)).trans y1
          have z2 := (hb2.cell (p := ⟨w.heap.size, 1, none⟩) (Nat.lt_of_lt_of_le b0 hb1.size)).trans y2
          have z3 := (hb2.cell (p := p.add (k * 2)) (by rw [block_add]; exact Nat.lt_of_lt_of_le hpb hb1.size)).trans y3
          have z4 := (hb2.cell (p := ⟨(p.add (k * 2)).block, (p.add (k * 2)).off + 1, none⟩) (by rw [block_add]; exact Nat.lt_of_lt_of_le hpb hb1.size)).trans y4
          refine hK_.out _ _ ⟨⟨z1, z2⟩, z3, z4⟩ (fun hS2_ => ?_)
          clear hK_ hS_
          have hS_ := hS2_; clear hS2_
          refine takeV (i := 12) (v := .bool true) (by (simp only [List.getElem?_toArray, List.getElem?_cons_succ, List.getElem?_cons_zero]); rfl) (by kernel_rfl) (by kernel_rfl) (by kernel_rfl) (by rfl) (fun _ _ _ h => h) (Or.inl ⟨by rfl, ?_⟩) hS_ (by (simp only [List.setIfInBounds_toArray, List.set_cons_succ, List.set_cons_zero]); rfl) ?_
          · intro w_ hSw_; (try dsimp only at hSw_); go_simp
          refine takeV (i := 13) (v := .bool true) (by (simp only [List.getElem?_toArray, List.getElem?_cons_succ, List.getElem?_cons_zero]); rfl) (by kernel_rfl) (by kernel_rfl) (by kernel_rfl) (by rfl) (fun _ _ _ h => h) (Or.inl ⟨by rfl, ?_⟩) hS_ (by (simp only [List.setIfInBounds_toArray, List.set_cons_succ, List.set_cons_zero]); rfl) ?_
          · intro w_ hSw_; (try dsimp only at hSw_); go_simp
          refine takeV (i := 14) (v := .int .i64 (k : Int)) (by (simp only [List.getElem?_toArray, List.getElem?_cons_succ, List.getElem?_cons_zero]); rfl) (by kernel_rfl) (by kernel_rfl) (by kernel_rfl) (by rfl) (fun _ _ _ h => h) (Or.inl ⟨by rfl, ?_⟩) hS_ (by (simp only [List.setIfInBounds_toArray, List.set_cons_succ, List.set_cons_zero]); rfl) ?_
          · intro w_ hSw_; (try dsimp only at hSw_); go_simp
          refine takeV (i := 15) (v := .bool true) (by (simp only [List.getElem?_toArray, List.getElem?_cons_succ, List.getElem?_cons_zero]); rfl) (by kernel_rfl) (by kernel_rfl) (by kernel_rfl) (by rfl) (fun _ _ _ h => h) (Or.inl ⟨by rfl, ?_⟩) hS_ (by (simp only [List.setIfInBounds_toArray, List.set_cons_succ, List.set_cons_zero]); rfl) ?_
          · intro w_ hSw_; (try dsimp only at hSw_); go_simp
          refine wpAnyH_done (by kernel_rfl) ?_ _
          go_wp2
          go_ret2; exact ⟨k, ⟨by rw [EB.out]; rfl, hk, HL.out, fun y hy => by have := HG.out; rw [this] at hy; injection hy with hy; subst hy; have := EC.out; omega⟩, belowThen hw0 (belowThen hbd (belowThen hb1 (undrew hb2)))⟩
        · have hz' : ¬ atomCmp (q.1, q.2) (nm, ts) = 0 := hz
          have EB := Lib.hid (show hasB xs (nm, ts) = false by rw [E.out, decide_eq_false hz]); clear hz hc'
          go_wp2_with fail
          refine wp_region_held_drew (S := fun W => (W.cell? ⟨w.heap.size, 0, none⟩ = some (.string nm) ∧ W.cell? ⟨w.heap.size, 1, none⟩ = some (.slice B m d)) ∧ W.cell? (p.add (k * 2)) = some (.string q.1) ∧ W.cell? ⟨(p.add (k * 2)).block, (p.add (k * 2)).off + 1, none⟩ = some (.slice A' n' c')) (by kernel_rfl) ⟨⟨y1, y2⟩, y3, y4⟩ ?_
          intro hS_
          refine takeV (i := 0) (v := .int .i64 (k : Int)) (by (simp only [List.getElem?_toArray, List.getElem?_cons_zero]); rfl) (by kernel_rfl) (by kernel_rfl) (by kernel_rfl) (by rfl) (fun _ _ _ h => h) (Or.inl ⟨by rfl, ?_⟩) hS_ (by (simp only [List.setIfInBounds_toArray, List.set_cons_succ, List.set_cons_zero]); rfl) ?_
          · intro w_ hSw_; (try dsimp only at hSw_); go_simp
          refine takeV (i := 1) (v := .int .i64 (k : Int)) (by (simp only [List.getElem?_toArray, List.getElem?_cons_succ, List.getElem?_cons_zero]); rfl) (by kernel_rfl) (by kernel_rfl) (by kernel_rfl) (by rfl) (fun _ _ _ h => h) (Or.inl ⟨by rfl, ?_⟩) hS_ (by (simp only [List.setIfInBounds_toArray, List.set_cons_succ, List.set_cons_zero]); rfl) ?_
          · intro w_ hSw_; (try dsimp only at hSw_); go_simp
          refine takeV (i := 2) (v := .slice (some p) n c) (by (simp only [List.getElem?_toArray, List.getElem?_cons_succ, List.getElem?_cons_zero]); rfl) (by kernel_rfl) (by kernel_rfl) (by kernel_rfl) (by rfl) (fun _ _ _ h => h) (Or.inl ⟨by rfl, ?_⟩) hS_ (by (simp only [List.setIfInBounds_toArray, List.set_cons_succ, List.set_cons_zero]); rfl) ?_
          · intro w_ hSw_; (try dsimp only at hSw_); go_simp
          refine takeV (i := 3) (v := .int .i64 (n : Int)) (by (simp only [List.getElem?_toArray, List.getElem?_cons_succ, List.getElem?_cons_zero]); rfl) (by kernel_rfl) (by kernel_rfl) (by kernel_rfl) (by rfl) (fun _ _ _ h => h) (Or.inl ⟨by rfl, ?_⟩) hS_ (by (simp only [List.setIfInBounds_toArray, List.set_cons_succ, List.set_cons_zero]); rfl) ?_
          · intro w_ hSw_; (try dsimp only at hSw_); go_simp
          refine takeV (i := 4) (v := .bool true) (by (simp only [List.getElem?_toArray, List.getElem?_cons_succ, List.getElem?_cons_zero]); rfl) (by kernel_rfl) (by kernel_rfl) (by kernel_rfl) (by rfl) (fun _ _ _ h => h) (Or.inl ⟨by rfl, ?_⟩) hS_ (by (simp only [List.setIfInBounds_toArray, List.set_cons_succ, List.set_cons_zero]); rfl) ?_
          · intro w_ hSw_; (try dsimp only at hSw_); go_simp
          refine takeV (i := 5) (v := .bool true) (by (simp only [List.getElem?_toArray, List.getElem?_cons_succ, List.getElem?_cons_zero]); rfl) (by kernel_rfl) (by kernel_rfl) (by kernel_rfl) (by rfl) (fun _ _ _ h => h) (Or.inl ⟨by rfl, ?_⟩) hS_ (by (simp only [List.setIfInBounds_toArray, List.set_cons_succ, List.set_cons_zero]); rfl) ?_
          · intro w_ hSw_; (try dsimp only at hSw_); go_simp
          refine takeV (i := 6) (v := .slice (some p) n c) (by (simp only [List.getElem?_toArray, List.getElem?_cons_succ, List.getElem?_cons_zero]); rfl) (by kernel_rfl) (by kernel_rfl) (by kernel_rfl) (by rfl) (fun _ _ _ h => h) (Or.inl ⟨by rfl, ?_⟩) hS_ (by (simp only [List.setIfInBounds_toArray, List.set_cons_succ, List.set_cons_zero]); rfl) ?_
          · intro w_ hSw_; (try dsimp only at hSw_); go_simp
          refine takeV (i := 7) (v := .int .i64 (k : Int)) (by (simp only [List.getElem?_toArray, List.getElem?_cons_succ, List.getElem?_cons_zero]); rfl) (by kernel_rfl) (by kernel_rfl) (by kernel_rfl) (by rfl) (fun _ _ _ h => h) (Or.inl ⟨by rfl, ?_⟩) hS_ (by (simp only [List.setIfInBounds_toArray, List.set_cons_succ, List.set_cons_zero]); rfl) ?_
          · intro w_ hSw_; (try dsimp only at hSw_); go_simp
          refine takeV (i := 8) (v := .pointer (some (p.add (k * 2)))) (by (simp only [List.getElem?_toArray, List.getElem?_cons_succ, List.getElem?_cons_zero]); rfl) (by kernel_rfl) (by kernel_rfl) (by kernel_rfl) (by rfl) (fun _ _ _ h => h) (Or.inl ⟨by rfl, ?_⟩) hS_ (by (simp only [List.setIfInBounds_toArray, List.set_cons_succ, List.set_cons_zero]); rfl) ?_
          · intro w_ hSw_; (try dsimp only at hSw_); go_simp
          refine takeV (i := 9) (v := .agg #[.string q.1, .slice A' n' c']) (by (simp only [List.getElem?_toArray, List.getElem?_cons_succ, List.getElem?_cons_zero]); rfl) (by kernel_rfl) (by kernel_rfl) (by kernel_rfl) (by rfl) (fun _ _ _ h => h) (Or.inl ⟨by rfl, ?_⟩) hS_ (by (simp only [List.setIfInBounds_toArray, List.set_cons_succ, List.set_cons_zero]); rfl) ?_
          · intro w_ hSw_; (try dsimp only at hSw_); go_simp
          refine takeV (i := 10) (v := .agg #[.string nm, .slice B m d]) (by (simp only [List.getElem?_toArray, List.getElem?_cons_succ, List.getElem?_cons_zero]); rfl) (by kernel_rfl) (by kernel_rfl) (by kernel_rfl) (by rfl) (fun _ _ _ h => h) (Or.inl ⟨by rfl, ?_⟩) hS_ (by (simp only [List.setIfInBounds_toArray, List.set_cons_succ, List.set_cons_zero]); rfl) ?_
          · intro w_ hSw_; (try dsimp only at hSw_); go_simp
          refine wpAnyH_ready (rs := [11]) (by kernel_rfl) (by simp) ?_
          refine AllReadyH.cons (o := _) (by (simp only [List.getElem?_toArray, List.getElem?_cons_succ, List.getElem?_cons_zero]); rfl) (fun K_ hK_ => ?_) AllReadyH.nil
          rw [if_pos (by rfl)]
          go_simp
          go_at_call 100
          refine (l1Cmp_any q.1 nm A' B n' c' m d q.2 ts _ HT2.out HU2.out).mono ?_; rintro e w2 ⟨rfl, hb2⟩
          have z1 := (hb2.cell (p := ⟨w.heap.size, 0, none⟩) (Nat.lt_of_lt_of_le b0 hb1.size)).trans y1
          have z2 := (hb2.cell (p := ⟨w.heap.size, 1, none⟩) (Nat.lt_of_lt_of_le b0 hb1.size)).trans y2
          have z3 := (hb2.cell (p := p.add (k * 2)) (by rw [block_add]; exact Nat.lt_of_lt_of_le hpb hb1.size)).trans y3
          have z4 := (hb2.cell (p := ⟨(p.add (k * 2)).block, (p.add (k * 2)).off + 1, none⟩) (by rw [block_add]; exact Nat.lt_of_lt_of_le hpb hb1.size)).trans y4
          refine hK_.out _ _ ⟨⟨z1, z2⟩, z3, z4⟩ (fun hS2_ => ?_)
          clear hK_ hS_
          have hS_ := hS2_; clear hS2_
          refine takeV (i := 12) (v := .bool false) (by (simp only [List.getElem?_toArray, List.getElem?_cons_succ, List.getElem?_cons_zero]); rfl) (by kernel_rfl) (by kernel_rfl) (by kernel_rfl) (by rfl) (fun _ _ _ h => h) (Or.inl ⟨by rfl, ?_⟩) hS_ (by (simp only [List.setIfInBounds_toArray, List.set_cons_succ, List.set_cons_zero]); rfl) ?_
          · intro w_ hSw_; (try dsimp only at hSw_); go_simp
          refine takeV (i := 13) (v := .bool false) (by (simp only [List.getElem?_toArray, List.getElem?_cons_succ, List.getElem?_cons_zero]); rfl) (by kernel_rfl) (by kernel_rfl) (by kernel_rfl) (by rfl) (fun _ _ _ h => h) (Or.inl ⟨by rfl, ?_⟩) hS_ (by (simp only [List.setIfInBounds_toArray, List.set_cons_succ, List.set_cons_zero]); rfl) ?_
          · intro w_ hSw_; (try dsimp only at hSw_); go_simp
          refine takeV (i := 14) (v := .int .i64 (k : Int)) (by (simp only [List.getElem?_toArray, List.getElem?_cons_succ, List.getElem?_cons_zero]); rfl) (by kernel_rfl) (by kernel_rfl) (by kernel_rfl) (by rfl) (fun _ _ _ h => h) (Or.inl ⟨by rfl, ?_⟩) hS_ (by (simp only [List.setIfInBounds_toArray, List.set_cons_succ, List.set_cons_zero]); rfl) ?_
          · intro w_ hSw_; (try dsimp only at hSw_); go_simp
          refine takeV (i := 15) (v := .bool false) (by (simp only [List.getElem?_toArray, List.getElem?_cons_succ, List.getElem?_cons_zero]); rfl) (by kernel_rfl) (by kernel_rfl) (by kernel_rfl) (by rfl) (fun _ _ _ h => h) (Or.inl ⟨by rfl, ?_⟩) hS_ (by (simp only [List.setIfInBounds_toArray, List.set_cons_succ, List.set_cons_zero]); rfl) ?_
          · intro w_ hSw_; (try dsimp only at hSw_); go_simp
          refine wpAnyH_done (by kernel_rfl) ?_ _
          go_wp2
          go_ret2; exact ⟨k, ⟨by rw [EB.out]; rfl, hk, HL.out, fun y hy => by have := HG.out; rw [this] at hy; injection hy with hy; subst hy; have := EC.out; omega⟩, belowThen hw0 (belowThen hbd (belowThen hb1 (undrew hb2)))⟩
    · have E := Lib.hid (hasB_end L.out HL.out hlt)
      have E2 := Lib.hid (show ∀ y, xs[k]? = some y → 0 ≤ atomCmp y (nm, ts) from fun y hy => absurd (List.getElem?_eq_some_iff.1 hy).1 (by have := L.out; omega))
      go_wp2_with fail
      refine wp_region_held_drew (S := fun W => (W.cell? ⟨w.heap.size, 0, none⟩ = some (.string nm) ∧ W.cell? ⟨w.heap.size, 1, none⟩ = some (.slice B m d))) (by kernel_rfl) ⟨e1, e2⟩ ?_
      intro hS_
      refine takeV (i := 0) (v := .int .i64 (k : Int)) (by (simp only [List.getElem?_toArray, List.getElem?_cons_zero]); rfl) (by kernel_rfl) (by kernel_rfl) (by kernel_rfl) (by rfl) (fun _ _ _ h => h) (Or.inl ⟨by rfl, ?_⟩) hS_ (by (simp only [List.setIfInBounds_toArray, List.set_cons_succ, List.set_cons_zero]); rfl) ?_
      · intro w_ hSw_; (try dsimp only at hSw_); go_simp
      refine takeV (i := 1) (v := .slice A n c) (by (simp only [List.getElem?_toArray, List.getElem?_cons_succ, List.getElem?_cons_zero]); rfl) (by kernel_rfl) (by kernel_rfl) (by kernel_rfl) (by rfl) (fun _ _ _ h => h) (Or.inl ⟨by rfl, ?_⟩) hS_ (by (simp only [List.setIfInBounds_toArray, List.set_cons_succ, List.set_cons_zero]); rfl) ?_
      · intro w_ hSw_; (try dsimp only at hSw_); go_simp
      refine takeV (i := 2) (v := .int .i64 (n : Int)) (by (simp only [List.getElem?_toArray, List.getElem?_cons_succ, List.getElem?_cons_zero]); rfl) (by kernel_rfl) (by kernel_rfl) (by kernel_rfl) (by rfl) (fun _ _ _ h => h) (Or.inl ⟨by rfl, ?_⟩) hS_ (by (simp only [List.setIfInBounds_toArray, List.set_cons_succ, List.set_cons_zero]); rfl) ?_
      · intro w_ hSw_; (try dsimp only at hSw_); go_simp
      refine takeV (i := 3) (v := .bool false) (by (simp only [List.getElem?_toArray, List.getElem?_cons_succ, List.getElem?_cons_zero]); rfl) (by kernel_rfl) (by kernel_rfl) (by kernel_rfl) (by rfl) (fun _ _ _ h => h) (Or.inl ⟨by rfl, ?_⟩) hS_ (by (simp only [List.setIfInBounds_toArray, List.set_cons_succ, List.set_cons_zero]); rfl) ?_
      · intro w_ hSw_; (try dsimp only at hSw_); go_simp
      refine takeV (i := 4) (v := .bool false) (by (simp only [List.getElem?_toArray, List.getElem?_cons_succ, List.getElem?_cons_zero]); rfl) (by kernel_rfl) (by kernel_rfl) (by kernel_rfl) (by rfl) (fun _ _ _ h => h) (Or.inl ⟨by rfl, ?_⟩) hS_ (by (simp only [List.setIfInBounds_toArray, List.set_cons_succ, List.set_cons_zero]); rfl) ?_
      · intro w_ hSw_; (try dsimp only at hSw_); go_simp
      refine takeV (i := 5) (v := undef) (by (simp only [List.getElem?_toArray, List.getElem?_cons_succ, List.getElem?_cons_zero]); rfl) (by kernel_rfl) (by kernel_rfl) (by kernel_rfl) (by rfl) (fun _ _ _ h => h) (Or.inr ⟨by rfl, rfl⟩) hS_ (by (simp only [List.setIfInBounds_toArray, List.set_cons_succ, List.set_cons_zero]); rfl) ?_
      refine takeV (i := 6) (v := undef) (by (simp only [List.getElem?_toArray, List.getElem?_cons_succ, List.getElem?_cons_zero]); rfl) (by kernel_rfl) (by kernel_rfl) (by kernel_rfl) (by rfl) (fun _ _ _ h => h) (Or.inr ⟨by rfl, rfl⟩) hS_ (by (simp only [List.setIfInBounds_toArray, List.set_cons_succ, List.set_cons_zero]); rfl) ?_
      refine takeV (i := 7) (v := undef) (by (simp only [List.getElem?_toArray, List.getElem?_cons_succ, List.getElem?_cons_zero]); rfl) (by kernel_rfl) (by kernel_rfl) (by kernel_rfl) (by rfl) (fun _ _ _ h => h) (Or.inr ⟨by rfl, rfl⟩) hS_ (by (simp only [List.setIfInBounds_toArray, List.set_cons_succ, List.set_cons_zero]); rfl) ?_
      refine takeV (i := 8) (v := undef) (by (simp only [List.getElem?_toArray, List.getElem?_cons_succ, List.getElem?_cons_zero]); rfl) (by kernel_rfl) (by kernel_rfl) (by kernel_rfl) (by rfl) (fun _ _ _ h => h) (Or.inr ⟨by rfl, rfl⟩) hS_ (by (simp only [List.setIfInBounds_toArray, List.set_cons_succ, List.set_cons_zero]); rfl) ?_
      refine takeV (i := 9) (v := undef) (by (simp only [List.getElem?_toArray, List.getElem?_cons_succ, List.getElem?_cons_zero]); rfl) (by kernel_rfl) (by kernel_rfl) (by kernel_rfl) (by rfl) (fun _ _ _ h => h) (Or.inr ⟨by rfl, rfl⟩) hS_ (by (simp only [List.setIfInBounds_toArray, List.set_cons_succ, List.set_cons_zero]); rfl) ?_
      refine takeV (i := 10) (v := undef) (by (simp only [List.getElem?_toArray, List.getElem?_cons_succ, List.getElem?_cons_zero]); rfl) (by kernel_rfl) (by kernel_rfl) (by kernel_rfl) (by rfl) (fun _ _ _ h => h) (Or.inr ⟨by rfl, rfl⟩) hS_ (by (simp only [List.setIfInBounds_toArray, List.set_cons_succ, List.set_cons_zero]); rfl) ?_
      refine takeV (i := 11) (v := undef) (by (simp only [List.getElem?_toArray, List.getElem?_cons_succ, List.getElem?_cons_zero]); rfl) (by kernel_rfl) (by kernel_rfl) (by kernel_rfl) (by rfl) (fun _ _ _ h => h) (Or.inr ⟨by rfl, rfl⟩) hS_ (by (simp only [List.setIfInBounds_toArray, List.set_cons_succ, List.set_cons_zero]); rfl) ?_
      refine takeV (i := 12) (v := .bool false) (by (simp only [List.getElem?_toArray, List.getElem?_cons_succ, List.getElem?_cons_zero]); rfl) (by kernel_rfl) (by kernel_rfl) (by kernel_rfl) (by rfl) (fun _ _ _ h => h) (Or.inl ⟨by rfl, ?_⟩) hS_ (by (simp only [List.setIfInBounds_toArray, List.set_cons_succ, List.set_cons_zero]); rfl) ?_
      · intro w_ hSw_; (try dsimp only at hSw_); go_simp
      refine wpAnyH_done (by kernel_rfl) ?_ _
      have hbd2 := hbd.drew
      clear e1 e2
      have e1 : wr.drew.drew.cell? ⟨w.heap.size, 0, none⟩ = some (.string nm) := b1
      have e2 : wr.drew.drew.cell? ⟨w.heap.size, 1, none⟩ = some (.slice B m d) := b2
      go_wp2_with fail
      refine wp_region_held_drew (S := fun W => (W.cell? ⟨w.heap.size, 0, none⟩ = some (.string nm) ∧ W.cell? ⟨w.heap.size, 1, none⟩ = some (.slice B m d))) (by kernel_rfl) ⟨e1, e2⟩ ?_
      intro hS_
      refine takeV (i := 0) (v := .int .i64 (k : Int)) (by (simp only [List.getElem?_toArray, List.getElem?_cons_zero]); rfl) (by kernel_rfl) (by kernel_rfl) (by kernel_rfl) (by rfl) (fun _ _ _ h => h) (Or.inl ⟨by rfl, ?_⟩) hS_ (by (simp only [List.setIfInBounds_toArray, List.set_cons_succ, List.set_cons_zero]); rfl) ?_
      · intro w_ hSw_; (try dsimp only at hSw_); go_simp
      refine takeV (i := 1) (v := .int .i64 (k : Int)) (by (simp only [List.getElem?_toArray, List.getElem?_cons_succ, List.getElem?_cons_zero]); rfl) (by kernel_rfl) (by kernel_rfl) (by kernel_rfl) (by rfl) (fun _ _ _ h => h) (Or.inl ⟨by rfl, ?_⟩) hS_ (by (simp only [List.setIfInBounds_toArray, List.set_cons_succ, List.set_cons_zero]); rfl) ?_
      · intro w_ hSw_; (try dsimp only at hSw_); go_simp
      refine takeV (i := 2) (v := .slice A n c) (by (simp only [List.getElem?_toArray, List.getElem?_cons_succ, List.getElem?_cons_zero]); rfl) (by kernel_rfl) (by kernel_rfl) (by kernel_rfl) (by rfl) (fun _ _ _ h => h) (Or.inl ⟨by rfl, ?_⟩) hS_ (by (simp only [List.setIfInBounds_toArray, List.set_cons_succ, List.set_cons_zero]); rfl) ?_
      · intro w_ hSw_; (try dsimp only at hSw_); go_simp
      refine takeV (i := 3) (v := .int .i64 (n : Int)) (by (simp only [List.getElem?_toArray, List.getElem?_cons_succ, List.getElem?_cons_zero]); rfl) (by kernel_rfl) (by kernel_rfl) (by kernel_rfl) (by rfl) (fun _ _ _ h => h) (Or.inl ⟨by rfl, ?_⟩) hS_ (by (simp only [List.setIfInBounds_toArray, List.set_cons_succ, List.set_cons_zero]); rfl) ?_
      · intro w_ hSw_; (try dsimp only at hSw_); go_simp
      refine takeV (i := 4) (v := .bool false) (by (simp only [List.getElem?_toArray, List.getElem?_cons_succ, List.getElem?_cons_zero]); rfl) (by kernel_rfl) (by kernel_rfl) (by kernel_rfl) (by rfl) (fun _ _ _ h => h) (Or.inl ⟨by rfl, ?_⟩) hS_ (by (simp only [List.setIfInBounds_toArray, List.set_cons_succ, List.set_cons_zero]); rfl) ?_
      · intro w_ hSw_; (try dsimp only at hSw_); go_simp
      refine takeV (i := 5) (v := .bool false) (by (simp only [List.getElem?_toArray, List.getElem?_cons_succ, List.getElem?_cons_zero]); rfl) (by kernel_rfl) (by kernel_rfl) (by kernel_rfl) (by rfl) (fun _ _ _ h => h) (Or.inl ⟨by rfl, ?_⟩) hS_ (by (simp only [List.setIfInBounds_toArray, List.set_cons_succ, List.set_cons_zero]); rfl) ?_
      · intro w_ hSw_; (try dsimp only at hSw_); go_simp
      refine takeV (i := 6) (v := undef) (by (simp only [List.getElem?_toArray, List.getElem?_cons_succ, List.getElem?_cons_zero]); rfl) (by kernel_rfl) (by kernel_rfl) (by kernel_rfl) (by rfl) (fun _ _ _ h => h) (Or.inr ⟨by rfl, rfl⟩) hS_ (by (simp only [List.setIfInBounds_toArray, List.set_cons_succ, List.set_cons_zero]); rfl) ?_
      refine takeV (i := 7) (v := undef) (by (simp only [List.getElem?_toArray, List.getElem?_cons_succ, List.getElem?_cons_zero]); rfl) (by kernel_rfl) (by kernel_rfl) (by kernel_rfl) (by rfl) (fun _ _ _ h => h) (Or.inr ⟨by rfl, rfl⟩) hS_ (by (simp only [List.setIfInBounds_toArray, List.set_cons_succ, List.set_cons_zero]); rfl) ?_
      refine takeV (i := 8) (v := undef) (by (simp only [List.getElem?_toArray, List.getElem?_cons_succ, List.getElem?_cons_zero]); rfl) (by kernel_rfl) (by kernel_rfl) (by kernel_rfl) (by rfl) (fun _ _ _ h => h) (Or.inr ⟨by rfl, rfl⟩) hS_ (by (simp only [List.setIfInBounds_toArray, List.set_cons_succ, List.set_cons_zero]); rfl) ?_
      refine takeV (i := 9) (v := undef) (by (simp only [List.getElem?_toArray, List.getElem?_cons_succ, List.getElem?_cons_zero]); rfl) (by kernel_rfl) (by kernel_rfl) (by kernel_rfl) (by rfl) (fun _ _ _ h => h) (Or.inr ⟨by rfl, rfl⟩) hS_ (by (simp only [List.setIfInBounds_toArray, List.set_cons_succ, List.set_cons_zero]); rfl) ?_
      refine takeV (i := 10) (v := undef) (by (simp only [List.getElem?_toArray, List.getElem?_cons_succ, List.getElem?_cons_zero]); rfl) (by kernel_rfl) (by kernel_rfl) (by kernel_rfl) (by rfl) (fun _ _ _ h => h) (Or.inr ⟨by rfl, rfl⟩) hS_ (by (simp only [List.setIfInBounds_toArray, List.set_cons_succ, List.set_cons_zero]); rfl) ?_
      refine takeV (i := 11) (v := undef) (by (simp only [List.getElem?_toArray, List.getElem?_cons_succ, List.getElem?_cons_zero]); rfl) (by kernel_rfl) (by kernel_rfl) (by kernel_rfl) (by rfl) (fun _ _ _ h => h) (Or.inr ⟨by rfl, rfl⟩) hS_ (by (simp only [List.setIfInBounds_toArray, List.set_cons_succ, List.set_cons_zero]); rfl) ?_
      refine takeV (i := 12) (v := undef) (by (simp only [List.getElem?_toArray, List.getElem?_cons_succ, List.getElem?_cons_zero]); rfl) (by kernel_rfl) (by kernel_rfl) (by kernel_rfl) (by rfl) (fun _ _ _ h => h) (Or.inr ⟨by rfl, rfl⟩) hS_ (by (simp only [List.setIfInBounds_toArray, List.set_cons_succ, List.set_cons_zero]); rfl) ?_
      refine takeV (i := 13) (v := .bool false) (by (simp only [List.getElem?_toArray, List.getElem?_cons_succ, List.getElem?_cons_zero]); rfl) (by kernel_rfl) (by kernel_rfl) (by kernel_rfl) (by rfl) (fun _ _ _ h => h) (Or.inl ⟨by rfl, ?_⟩) hS_ (by (simp only [List.setIfInBounds_toArray, List.set_cons_succ, List.set_cons_zero]); rfl) ?_
      · intro w_ hSw_; (try dsimp only at hSw_); go_simp
      refine takeV (i := 14) (v := .int .i64 (k : Int)) (by (simp only [List.getElem?_toArray, List.getElem?_cons_succ, List.getElem?_cons_zero]); rfl) (by kernel_rfl) (by kernel_rfl) (by kernel_rfl) (by rfl) (fun _ _ _ h => h) (Or.inl ⟨by rfl, ?_⟩) hS_ (by (simp only [List.setIfInBounds_toArray, List.set_cons_succ, List.set_cons_zero]); rfl) ?_
      · intro w_ hSw_; (try dsimp only at hSw_); go_simp
      refine takeV (i := 15) (v := .bool false) (by (simp only [List.getElem?_toArray, List.getElem?_cons_succ, List.getElem?_cons_zero]); rfl) (by kernel_rfl) (by kernel_rfl) (by kernel_rfl) (by rfl) (fun _ _ _ h => h) (Or.inl ⟨by rfl, ?_⟩) hS_ (by (simp only [List.setIfInBounds_toArray, List.set_cons_succ, List.set_cons_zero]); rfl) ?_
      · intro w_ hSw_; (try dsimp only at hSw_); go_simp
      refine wpAnyH_done (by kernel_rfl) ?_ _
      go_wp2
      go_ret2; exact ⟨k, ⟨by rw [E.out]; rfl, hk, HL.out, E2.out⟩, belowThen hw0 hbd2⟩

end Go.Proofs.YtogonjkklioaaaaGreatDoor
