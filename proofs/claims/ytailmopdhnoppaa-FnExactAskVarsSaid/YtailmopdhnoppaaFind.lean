/-
  Where a fact stands among others, in the program: a search by halves. (Written by tools/find.py.)
-/
import Derived.Test.YtailmopdhnoppaaHasSpec
import Derived.Test.YtailmopdhnoppaaFactsOk
import Derived.Test.YtailmopdhnoppaaRegion
namespace Go.Proofs.Ytailmopdhnoppaa
open Go.RowKit

set_option maxHeartbeats 2000000 in
theorem find_any (A : Option Addr) (n c : Nat) (xs : List At) (nm : ByteArray) (B : Option Addr) (m d : Nat) (ts : List Tm) (w : World) (h : IsAtoms w 0 w.heap.size A n c xs) (h' : IsTerms w 0 w.heap.size B m d ts) (hr : risesB xs = true) (hmax : n ≤ 1099511627776) :
    Calls Try.prog 100 #[.slice A n c, .agg #[.string nm, .slice B m d], .func (.func 99) #[] #[]] w (AtPost xs (nm, ts) n w) := by
  have L := Lib.hid h.1
  have H := Lib.hid h; clear h
  have H' := Lib.hid h'; clear h'
  have RR := Lib.hid hr; clear hr
  have hw0 := below1 w (.cells #[.string nm, .slice B m d] 26)
  have X0 := Lib.hid (Box.new w (.string nm) (.slice B m d) 26)
  go_enter Try.func100, Try.ntmps100
  go_wp2
  go_loopw [9, 10] (fun x z wr => ∃ i j : Nat, i ≤ j ∧ j ≤ n ∧ x = .int .i64 i ∧ z = .int .i64 j ∧ (∀ t y, t < i → xs[t]? = some y → atomCmp y (nm, ts) < 0) ∧ (∀ y, xs[j]? = some y → 0 ≤ atomCmp y (nm, ts)) ∧ Below (w.alloc (.cells #[.string nm, .slice B m d] 26)).heap.size (w.alloc (.cells #[.string nm, .slice B m d] 26)) wr) (fun x z _ => (intOf z).toNat - (intOf x).toNat)
  case atStart => exact ⟨0, n, Nat.zero_le _, Nat.le_refl _, rfl, rfl, fun j y hj => absurd hj (Nat.not_lt_zero _), fun y hy => absurd (List.getElem?_eq_some_iff.1 hy).1 (by have := L.out; omega), Below.refl _ _⟩
  case round =>
    obtain ⟨i, j, hij, hjn, rfl, rfl, hl, hu, hb⟩ := hrel
    have HL := Lib.hid hl; have HH := Lib.hid hu; clear hl hu
    have HB := belowThen hw0 hb
    obtain ⟨b0, b1, b2⟩ := X0.out.later hb
    have e1 : wr.drew.cell? ⟨w.heap.size, 0, none⟩ = some (.string nm) := b1
    have e2 : wr.drew.cell? ⟨w.heap.size, 1, none⟩ = some (.slice B m d) := b2
    have hbd := hb.drew
    have HU := Lib.hid (show IsTerms wr.drew 0 wr.drew.heap.size B m d ts from (H'.out.up HB).keep (fun _ _ _ => rfl) (Nat.le_refl _) (Nat.le_refl _))
    by_cases hlt : i < j
    · have hw1 : IntKind.i64.wrap ((i : Int) + (j : Int)) = (i : Int) + (j : Int) := by rw [IntKind.wrap_i64]; omega
      obtain ⟨g, hgd⟩ : ∃ g : Nat, ((i : Int) + (j : Int)) / 2 = (g : Int) := ⟨(i + j) / 2, by omega⟩
      have hgi : i ≤ g := by omega
      have hgj : g < j := by omega
      have hgn : g < n := by omega
      obtain ⟨p, q, hA, hlo, hhi, hg, hE⟩ := (H.out.below AtomE.stays HB (Nat.le_refl _)).at_ (show g < n from hgn)
      obtain ⟨A', n', c', d1, d3, d4, d5⟩ := hE.out
      clear hE
      have hpb : p.block < wr.heap.size := Nat.lt_of_lt_of_le hhi HB.size
      subst hA
      have HG := Lib.hid hg; clear hg
      have HT := Lib.hid (d5.keep (w' := wr.drew) (lo' := 0) (hi' := wr.drew.heap.size) (fun _ _ _ => rfl) (Nat.le_refl _) HB.size); clear d5
      have x1 : wr.drew.cell? (p.add (g * 2)) = some (.string q.1) := d1
      have x2 : wr.drew.cell? ⟨(p.add (g * 2)).block, (p.add (g * 2)).off + 1, none⟩ = some (.slice A' n' c') := d4
      by_cases hc : atomCmp q (nm, ts) < 0
      · have hc' : atomCmp (q.1, q.2) (nm, ts) < 0 := hc
        have E := Lib.hid (low_all RR.out HG.out hc); clear hc
        go_wp2_with fail
        refine wp_region_held_drew (S := fun W => (W.cell? ⟨w.heap.size, 0, none⟩ = some (.string nm) ∧ W.cell? ⟨w.heap.size, 1, none⟩ = some (.slice B m d)) ∧ W.cell? (p.add (g * 2)) = some (.string q.1) ∧ W.cell? ⟨(p.add (g * 2)).block, (p.add (g * 2)).off + 1, none⟩ = some (.slice A' n' c')) (by kernel_rfl) ⟨⟨e1, e2⟩, x1, x2⟩ ?_
        intro hS_
        refine takeV (i := 0) (v := .func (.func 99) #[] #[]) (by (simp only [List.getElem?_toArray, List.getElem?_cons_zero]); rfl) (by kernel_rfl) (by kernel_rfl) (by kernel_rfl) (by rfl) (fun _ _ _ h => h) (Or.inl ⟨by rfl, ?_⟩) hS_ (by (simp only [List.setIfInBounds_toArray, List.set_cons_succ, List.set_cons_zero]); rfl) ?_
        · intro w_ hSw_; (try dsimp only at hSw_); go_simp
        refine takeV (i := 1) (v := .slice (some p) n c) (by (simp only [List.getElem?_toArray, List.getElem?_cons_succ, List.getElem?_cons_zero]); rfl) (by kernel_rfl) (by kernel_rfl) (by kernel_rfl) (by rfl) (fun _ _ _ h => h) (Or.inl ⟨by rfl, ?_⟩) hS_ (by (simp only [List.setIfInBounds_toArray, List.set_cons_succ, List.set_cons_zero]); rfl) ?_
        · intro w_ hSw_; (try dsimp only at hSw_); go_simp
        refine takeV (i := 2) (v := .int .i64 (g : Int)) (by (simp only [List.getElem?_toArray, List.getElem?_cons_succ, List.getElem?_cons_zero]); rfl) (by kernel_rfl) (by kernel_rfl) (by kernel_rfl) (by rfl) (fun _ _ _ h => h) (Or.inl ⟨by rfl, ?_⟩) hS_ (by (simp only [List.setIfInBounds_toArray, List.set_cons_succ, List.set_cons_zero]); rfl) ?_
        · intro w_ hSw_; (try dsimp only at hSw_); go_simp
        refine takeV (i := 3) (v := .pointer (some (p.add (g * 2)))) (by (simp only [List.getElem?_toArray, List.getElem?_cons_succ, List.getElem?_cons_zero]); rfl) (by kernel_rfl) (by kernel_rfl) (by kernel_rfl) (by rfl) (fun _ _ _ h => h) (Or.inl ⟨by rfl, ?_⟩) hS_ (by (simp only [List.setIfInBounds_toArray, List.set_cons_succ, List.set_cons_zero]); rfl) ?_
        · intro w_ hSw_; (try dsimp only at hSw_); go_simp
        refine takeV (i := 4) (v := .agg #[.string q.1, .slice A' n' c']) (by (simp only [List.getElem?_toArray, List.getElem?_cons_succ, List.getElem?_cons_zero]); rfl) (by kernel_rfl) (by kernel_rfl) (by kernel_rfl) (by rfl) (fun _ _ _ h => h) (Or.inl ⟨by rfl, ?_⟩) hS_ (by (simp only [List.setIfInBounds_toArray, List.set_cons_succ, List.set_cons_zero]); rfl) ?_
        · intro w_ hSw_; (try dsimp only at hSw_); go_simp
        refine takeV (i := 5) (v := .agg #[.string nm, .slice B m d]) (by (simp only [List.getElem?_toArray, List.getElem?_cons_succ, List.getElem?_cons_zero]); rfl) (by kernel_rfl) (by kernel_rfl) (by kernel_rfl) (by rfl) (fun _ _ _ h => h) (Or.inl ⟨by rfl, ?_⟩) hS_ (by (simp only [List.setIfInBounds_toArray, List.set_cons_succ, List.set_cons_zero]); rfl) ?_
        · intro w_ hSw_; (try dsimp only at hSw_); go_simp
        refine wpAnyH_ready (rs := [6]) (by kernel_rfl) (by simp) ?_
        refine AllReadyH.cons (o := _) (by (simp only [List.getElem?_toArray, List.getElem?_cons_succ, List.getElem?_cons_zero]); rfl) (fun K_ hK_ => ?_) AllReadyH.nil
        rw [if_pos (by rfl)]
        go_simp
        go_at_call 99
        refine (compareAtoms_any q.1 nm A' B n' c' m d q.2 ts _ HT.out HU.out).mono ?_; rintro e w1 ⟨rfl, hb1⟩
        have y1 := (hb1.cell (p := ⟨w.heap.size, 0, none⟩) (b0)).trans b1
        have y2 := (hb1.cell (p := ⟨w.heap.size, 1, none⟩) (b0)).trans b2
        have y3 := (hb1.cell (p := p.add (g * 2)) (by rw [block_add]; exact hpb)).trans d1
        have y4 := (hb1.cell (p := ⟨(p.add (g * 2)).block, (p.add (g * 2)).off + 1, none⟩) (by rw [block_add]; exact hpb)).trans d4
        refine hK_.out _ _ ⟨⟨y1, y2⟩, y3, y4⟩ (fun hS2_ => ?_)
        clear hK_ hS_
        have hS_ := hS2_; clear hS2_
        refine takeV (i := 7) (v := .bool true) (by (simp only [List.getElem?_toArray, List.getElem?_cons_succ, List.getElem?_cons_zero]); rfl) (by kernel_rfl) (by kernel_rfl) (by kernel_rfl) (by rfl) (fun _ _ _ h => h) (Or.inl ⟨by rfl, ?_⟩) hS_ (by (simp only [List.setIfInBounds_toArray, List.set_cons_succ, List.set_cons_zero]); rfl) ?_
        · intro w_ hSw_; (try dsimp only at hSw_); go_simp
        refine wpAnyH_done (by kernel_rfl) ?_ _
        go_wp2
        go_roundw
        case rel => exact ⟨g + 1, j, by omega, hjn, by go_num, rfl, E.out, HH.out, belowThen hbd hb1⟩
        case measure => simp [intOf]; omega
      · have hc' : ¬ atomCmp (q.1, q.2) (nm, ts) < 0 := hc
        have E := Lib.hid (show ∀ y, xs[g]? = some y → 0 ≤ atomCmp y (nm, ts) from fun y hy => by have := HG.out; rw [this] at hy; injection hy with hy; subst hy; omega); clear hc
        go_wp2_with fail
        refine wp_region_held_drew (S := fun W => (W.cell? ⟨w.heap.size, 0, none⟩ = some (.string nm) ∧ W.cell? ⟨w.heap.size, 1, none⟩ = some (.slice B m d)) ∧ W.cell? (p.add (g * 2)) = some (.string q.1) ∧ W.cell? ⟨(p.add (g * 2)).block, (p.add (g * 2)).off + 1, none⟩ = some (.slice A' n' c')) (by kernel_rfl) ⟨⟨e1, e2⟩, x1, x2⟩ ?_
        intro hS_
        refine takeV (i := 0) (v := .func (.func 99) #[] #[]) (by (simp only [List.getElem?_toArray, List.getElem?_cons_zero]); rfl) (by kernel_rfl) (by kernel_rfl) (by kernel_rfl) (by rfl) (fun _ _ _ h => h) (Or.inl ⟨by rfl, ?_⟩) hS_ (by (simp only [List.setIfInBounds_toArray, List.set_cons_succ, List.set_cons_zero]); rfl) ?_
        · intro w_ hSw_; (try dsimp only at hSw_); go_simp
        refine takeV (i := 1) (v := .slice (some p) n c) (by (simp only [List.getElem?_toArray, List.getElem?_cons_succ, List.getElem?_cons_zero]); rfl) (by kernel_rfl) (by kernel_rfl) (by kernel_rfl) (by rfl) (fun _ _ _ h => h) (Or.inl ⟨by rfl, ?_⟩) hS_ (by (simp only [List.setIfInBounds_toArray, List.set_cons_succ, List.set_cons_zero]); rfl) ?_
        · intro w_ hSw_; (try dsimp only at hSw_); go_simp
        refine takeV (i := 2) (v := .int .i64 (g : Int)) (by (simp only [List.getElem?_toArray, List.getElem?_cons_succ, List.getElem?_cons_zero]); rfl) (by kernel_rfl) (by kernel_rfl) (by kernel_rfl) (by rfl) (fun _ _ _ h => h) (Or.inl ⟨by rfl, ?_⟩) hS_ (by (simp only [List.setIfInBounds_toArray, List.set_cons_succ, List.set_cons_zero]); rfl) ?_
        · intro w_ hSw_; (try dsimp only at hSw_); go_simp
        refine takeV (i := 3) (v := .pointer (some (p.add (g * 2)))) (by (simp only [List.getElem?_toArray, List.getElem?_cons_succ, List.getElem?_cons_zero]); rfl) (by kernel_rfl) (by kernel_rfl) (by kernel_rfl) (by rfl) (fun _ _ _ h => h) (Or.inl ⟨by rfl, ?_⟩) hS_ (by (simp only [List.setIfInBounds_toArray, List.set_cons_succ, List.set_cons_zero]); rfl) ?_
        · intro w_ hSw_; (try dsimp only at hSw_); go_simp
        refine takeV (i := 4) (v := .agg #[.string q.1, .slice A' n' c']) (by (simp only [List.getElem?_toArray, List.getElem?_cons_succ, List.getElem?_cons_zero]); rfl) (by kernel_rfl) (by kernel_rfl) (by kernel_rfl) (by rfl) (fun _ _ _ h => h) (Or.inl ⟨by rfl, ?_⟩) hS_ (by (simp only [List.setIfInBounds_toArray, List.set_cons_succ, List.set_cons_zero]); rfl) ?_
        · intro w_ hSw_; (try dsimp only at hSw_); go_simp
        refine takeV (i := 5) (v := .agg #[.string nm, .slice B m d]) (by (simp only [List.getElem?_toArray, List.getElem?_cons_succ, List.getElem?_cons_zero]); rfl) (by kernel_rfl) (by kernel_rfl) (by kernel_rfl) (by rfl) (fun _ _ _ h => h) (Or.inl ⟨by rfl, ?_⟩) hS_ (by (simp only [List.setIfInBounds_toArray, List.set_cons_succ, List.set_cons_zero]); rfl) ?_
        · intro w_ hSw_; (try dsimp only at hSw_); go_simp
        refine wpAnyH_ready (rs := [6]) (by kernel_rfl) (by simp) ?_
        refine AllReadyH.cons (o := _) (by (simp only [List.getElem?_toArray, List.getElem?_cons_succ, List.getElem?_cons_zero]); rfl) (fun K_ hK_ => ?_) AllReadyH.nil
        rw [if_pos (by rfl)]
        go_simp
        go_at_call 99
        refine (compareAtoms_any q.1 nm A' B n' c' m d q.2 ts _ HT.out HU.out).mono ?_; rintro e w1 ⟨rfl, hb1⟩
        have y1 := (hb1.cell (p := ⟨w.heap.size, 0, none⟩) (b0)).trans b1
        have y2 := (hb1.cell (p := ⟨w.heap.size, 1, none⟩) (b0)).trans b2
        have y3 := (hb1.cell (p := p.add (g * 2)) (by rw [block_add]; exact hpb)).trans d1
        have y4 := (hb1.cell (p := ⟨(p.add (g * 2)).block, (p.add (g * 2)).off + 1, none⟩) (by rw [block_add]; exact hpb)).trans d4
        refine hK_.out _ _ ⟨⟨y1, y2⟩, y3, y4⟩ (fun hS2_ => ?_)
        clear hK_ hS_
        have hS_ := hS2_; clear hS2_
        refine takeV (i := 7) (v := .bool false) (by (simp only [List.getElem?_toArray, List.getElem?_cons_succ, List.getElem?_cons_zero]); rfl) (by kernel_rfl) (by kernel_rfl) (by kernel_rfl) (by rfl) (fun _ _ _ h => h) (Or.inl ⟨by rfl, ?_⟩) hS_ (by (simp only [List.setIfInBounds_toArray, List.set_cons_succ, List.set_cons_zero]); rfl) ?_
        · intro w_ hSw_; (try dsimp only at hSw_); go_simp
        refine wpAnyH_done (by kernel_rfl) ?_ _
        go_wp2
        go_roundw
        case rel => exact ⟨i, g, hgi, by omega, rfl, rfl, HL.out, E.out, belowThen hbd hb1⟩
        case measure => simp [intOf]; omega
    · obtain rfl : i = j := by omega
      clear hij hlt
      by_cases hin : i < n
      ·
        obtain ⟨p, q, hA, hlo, hhi, hg, hE⟩ := (H.out.below AtomE.stays HB (Nat.le_refl _)).at_ (show i < n from hin)
        obtain ⟨A', n', c', d1, d3, d4, d5⟩ := hE.out
        clear hE
        have hpb : p.block < wr.heap.size := Nat.lt_of_lt_of_le hhi HB.size
        subst hA
        have HG := Lib.hid hg; clear hg
        have HT := Lib.hid (d5.keep (w' := wr.drew) (lo' := 0) (hi' := wr.drew.heap.size) (fun _ _ _ => rfl) (Nat.le_refl _) HB.size); clear d5
        have x1 : wr.drew.cell? (p.add (i * 2)) = some (.string q.1) := d1
        have x2 : wr.drew.cell? ⟨(p.add (i * 2)).block, (p.add (i * 2)).off + 1, none⟩ = some (.slice A' n' c') := d4
        by_cases hz : atomCmp q (nm, ts) = 0
        · have hz' : atomCmp (q.1, q.2) (nm, ts) = 0 := hz
          have EB := Lib.hid (show hasB xs (nm, ts) = true by rw [hasB_at RR.out HL.out HG.out (HH.out q HG.out), decide_eq_true hz]); clear hz
          go_wp2_with fail
          refine wp_region_held_drew (S := fun W => (W.cell? ⟨w.heap.size, 0, none⟩ = some (.string nm) ∧ W.cell? ⟨w.heap.size, 1, none⟩ = some (.slice B m d)) ∧ W.cell? (p.add (i * 2)) = some (.string q.1) ∧ W.cell? ⟨(p.add (i * 2)).block, (p.add (i * 2)).off + 1, none⟩ = some (.slice A' n' c')) (by kernel_rfl) ⟨⟨e1, e2⟩, x1, x2⟩ ?_
          intro hS_
          refine takeV (i := 0) (v := .int .i64 (i : Int)) (by (simp only [List.getElem?_toArray, List.getElem?_cons_zero]); rfl) (by kernel_rfl) (by kernel_rfl) (by kernel_rfl) (by rfl) (fun _ _ _ h => h) (Or.inl ⟨by rfl, ?_⟩) hS_ (by (simp only [List.setIfInBounds_toArray, List.set_cons_succ, List.set_cons_zero]); rfl) ?_
          · intro w_ hSw_; (try dsimp only at hSw_); go_simp
          refine takeV (i := 1) (v := .int .i64 (i : Int)) (by (simp only [List.getElem?_toArray, List.getElem?_cons_succ, List.getElem?_cons_zero]); rfl) (by kernel_rfl) (by kernel_rfl) (by kernel_rfl) (by rfl) (fun _ _ _ h => h) (Or.inl ⟨by rfl, ?_⟩) hS_ (by (simp only [List.setIfInBounds_toArray, List.set_cons_succ, List.set_cons_zero]); rfl) ?_
          · intro w_ hSw_; (try dsimp only at hSw_); go_simp
          refine takeV (i := 2) (v := .int .i64 (n : Int)) (by (simp only [List.getElem?_toArray, List.getElem?_cons_succ, List.getElem?_cons_zero]); rfl) (by kernel_rfl) (by kernel_rfl) (by kernel_rfl) (by rfl) (fun _ _ _ h => h) (Or.inl ⟨by rfl, ?_⟩) hS_ (by (simp only [List.setIfInBounds_toArray, List.set_cons_succ, List.set_cons_zero]); rfl) ?_
          · intro w_ hSw_; (try dsimp only at hSw_); go_simp
          refine takeV (i := 3) (v := .bool true) (by (simp only [List.getElem?_toArray, List.getElem?_cons_succ, List.getElem?_cons_zero]); rfl) (by kernel_rfl) (by kernel_rfl) (by kernel_rfl) (by rfl) (fun _ _ _ h => h) (Or.inl ⟨by rfl, ?_⟩) hS_ (by (simp only [List.setIfInBounds_toArray, List.set_cons_succ, List.set_cons_zero]); rfl) ?_
          · intro w_ hSw_; (try dsimp only at hSw_); go_simp
          refine takeV (i := 4) (v := .bool true) (by (simp only [List.getElem?_toArray, List.getElem?_cons_succ, List.getElem?_cons_zero]); rfl) (by kernel_rfl) (by kernel_rfl) (by kernel_rfl) (by rfl) (fun _ _ _ h => h) (Or.inl ⟨by rfl, ?_⟩) hS_ (by (simp only [List.setIfInBounds_toArray, List.set_cons_succ, List.set_cons_zero]); rfl) ?_
          · intro w_ hSw_; (try dsimp only at hSw_); go_simp
          refine takeV (i := 5) (v := .func (.func 99) #[] #[]) (by (simp only [List.getElem?_toArray, List.getElem?_cons_succ, List.getElem?_cons_zero]); rfl) (by kernel_rfl) (by kernel_rfl) (by kernel_rfl) (by rfl) (fun _ _ _ h => h) (Or.inl ⟨by rfl, ?_⟩) hS_ (by (simp only [List.setIfInBounds_toArray, List.set_cons_succ, List.set_cons_zero]); rfl) ?_
          · intro w_ hSw_; (try dsimp only at hSw_); go_simp
          refine takeV (i := 6) (v := .slice (some p) n c) (by (simp only [List.getElem?_toArray, List.getElem?_cons_succ, List.getElem?_cons_zero]); rfl) (by kernel_rfl) (by kernel_rfl) (by kernel_rfl) (by rfl) (fun _ _ _ h => h) (Or.inl ⟨by rfl, ?_⟩) hS_ (by (simp only [List.setIfInBounds_toArray, List.set_cons_succ, List.set_cons_zero]); rfl) ?_
          · intro w_ hSw_; (try dsimp only at hSw_); go_simp
          refine takeV (i := 7) (v := .int .i64 (i : Int)) (by (simp only [List.getElem?_toArray, List.getElem?_cons_succ, List.getElem?_cons_zero]); rfl) (by kernel_rfl) (by kernel_rfl) (by kernel_rfl) (by rfl) (fun _ _ _ h => h) (Or.inl ⟨by rfl, ?_⟩) hS_ (by (simp only [List.setIfInBounds_toArray, List.set_cons_succ, List.set_cons_zero]); rfl) ?_
          · intro w_ hSw_; (try dsimp only at hSw_); go_simp
          refine takeV (i := 8) (v := .pointer (some (p.add (i * 2)))) (by (simp only [List.getElem?_toArray, List.getElem?_cons_succ, List.getElem?_cons_zero]); rfl) (by kernel_rfl) (by kernel_rfl) (by kernel_rfl) (by rfl) (fun _ _ _ h => h) (Or.inl ⟨by rfl, ?_⟩) hS_ (by (simp only [List.setIfInBounds_toArray, List.set_cons_succ, List.set_cons_zero]); rfl) ?_
          · intro w_ hSw_; (try dsimp only at hSw_); go_simp
          refine takeV (i := 9) (v := .agg #[.string q.1, .slice A' n' c']) (by (simp only [List.getElem?_toArray, List.getElem?_cons_succ, List.getElem?_cons_zero]); rfl) (by kernel_rfl) (by kernel_rfl) (by kernel_rfl) (by rfl) (fun _ _ _ h => h) (Or.inl ⟨by rfl, ?_⟩) hS_ (by (simp only [List.setIfInBounds_toArray, List.set_cons_succ, List.set_cons_zero]); rfl) ?_
          · intro w_ hSw_; (try dsimp only at hSw_); go_simp
          refine takeV (i := 10) (v := .agg #[.string nm, .slice B m d]) (by (simp only [List.getElem?_toArray, List.getElem?_cons_succ, List.getElem?_cons_zero]); rfl) (by kernel_rfl) (by kernel_rfl) (by kernel_rfl) (by rfl) (fun _ _ _ h => h) (Or.inl ⟨by rfl, ?_⟩) hS_ (by (simp only [List.setIfInBounds_toArray, List.set_cons_succ, List.set_cons_zero]); rfl) ?_
          · intro w_ hSw_; (try dsimp only at hSw_); go_simp
          refine wpAnyH_ready (rs := [11]) (by kernel_rfl) (by simp) ?_
          refine AllReadyH.cons (o := _) (by (simp only [List.getElem?_toArray, List.getElem?_cons_succ, List.getElem?_cons_zero]); rfl) (fun K_ hK_ => ?_) AllReadyH.nil
          rw [if_pos (by rfl)]
          go_simp
          go_at_call 99
          refine (compareAtoms_any q.1 nm A' B n' c' m d q.2 ts _ HT.out HU.out).mono ?_; rintro e w1 ⟨rfl, hb1⟩
          have y1 := (hb1.cell (p := ⟨w.heap.size, 0, none⟩) (b0)).trans b1
          have y2 := (hb1.cell (p := ⟨w.heap.size, 1, none⟩) (b0)).trans b2
          have y3 := (hb1.cell (p := p.add (i * 2)) (by rw [block_add]; exact hpb)).trans d1
          have y4 := (hb1.cell (p := ⟨(p.add (i * 2)).block, (p.add (i * 2)).off + 1, none⟩) (by rw [block_add]; exact hpb)).trans d4
          refine hK_.out _ _ ⟨⟨y1, y2⟩, y3, y4⟩ (fun hS2_ => ?_)
          clear hK_ hS_
          have hS_ := hS2_; clear hS2_
          refine takeV (i := 12) (v := .bool true) (by (simp only [List.getElem?_toArray, List.getElem?_cons_succ, List.getElem?_cons_zero]); rfl) (by kernel_rfl) (by kernel_rfl) (by kernel_rfl) (by rfl) (fun _ _ _ h => h) (Or.inl ⟨by rfl, ?_⟩) hS_ (by (simp only [List.setIfInBounds_toArray, List.set_cons_succ, List.set_cons_zero]); rfl) ?_
          · intro w_ hSw_; (try dsimp only at hSw_); go_simp
          refine takeV (i := 13) (v := .bool true) (by (simp only [List.getElem?_toArray, List.getElem?_cons_succ, List.getElem?_cons_zero]); rfl) (by kernel_rfl) (by kernel_rfl) (by kernel_rfl) (by rfl) (fun _ _ _ h => h) (Or.inl ⟨by rfl, ?_⟩) hS_ (by (simp only [List.setIfInBounds_toArray, List.set_cons_succ, List.set_cons_zero]); rfl) ?_
          · intro w_ hSw_; (try dsimp only at hSw_); go_simp
          refine takeV (i := 14) (v := .int .i64 (i : Int)) (by (simp only [List.getElem?_toArray, List.getElem?_cons_succ, List.getElem?_cons_zero]); rfl) (by kernel_rfl) (by kernel_rfl) (by kernel_rfl) (by rfl) (fun _ _ _ h => h) (Or.inl ⟨by rfl, ?_⟩) hS_ (by (simp only [List.setIfInBounds_toArray, List.set_cons_succ, List.set_cons_zero]); rfl) ?_
          · intro w_ hSw_; (try dsimp only at hSw_); go_simp
          refine takeV (i := 15) (v := .bool true) (by (simp only [List.getElem?_toArray, List.getElem?_cons_succ, List.getElem?_cons_zero]); rfl) (by kernel_rfl) (by kernel_rfl) (by kernel_rfl) (by rfl) (fun _ _ _ h => h) (Or.inl ⟨by rfl, ?_⟩) hS_ (by (simp only [List.setIfInBounds_toArray, List.set_cons_succ, List.set_cons_zero]); rfl) ?_
          · intro w_ hSw_; (try dsimp only at hSw_); go_simp
          refine wpAnyH_done (by kernel_rfl) ?_ _
          go_wp2
          go_ret2; exact ⟨i, ⟨by rw [EB.out]; rfl, hjn, HL.out, HH.out⟩, belowThen hw0 (belowThen hbd hb1)⟩
        · have hz' : ¬ atomCmp (q.1, q.2) (nm, ts) = 0 := hz
          have EB := Lib.hid (show hasB xs (nm, ts) = false by rw [hasB_at RR.out HL.out HG.out (HH.out q HG.out), decide_eq_false hz]); clear hz
          go_wp2_with fail
          refine wp_region_held_drew (S := fun W => (W.cell? ⟨w.heap.size, 0, none⟩ = some (.string nm) ∧ W.cell? ⟨w.heap.size, 1, none⟩ = some (.slice B m d)) ∧ W.cell? (p.add (i * 2)) = some (.string q.1) ∧ W.cell? ⟨(p.add (i * 2)).block, (p.add (i * 2)).off + 1, none⟩ = some (.slice A' n' c')) (by kernel_rfl) ⟨⟨e1, e2⟩, x1, x2⟩ ?_
          intro hS_
          refine takeV (i := 0) (v := .int .i64 (i : Int)) (by (simp only [List.getElem?_toArray, List.getElem?_cons_zero]); rfl) (by kernel_rfl) (by kernel_rfl) (by kernel_rfl) (by rfl) (fun _ _ _ h => h) (Or.inl ⟨by rfl, ?_⟩) hS_ (by (simp only [List.setIfInBounds_toArray, List.set_cons_succ, List.set_cons_zero]); rfl) ?_
          · intro w_ hSw_; (try dsimp only at hSw_); go_simp
          refine takeV (i := 1) (v := .int .i64 (i : Int)) (by (simp only [List.getElem?_toArray, List.getElem?_cons_succ, List.getElem?_cons_zero]); rfl) (by kernel_rfl) (by kernel_rfl) (by kernel_rfl) (by rfl) (fun _ _ _ h => h) (Or.inl ⟨by rfl, ?_⟩) hS_ (by (simp only [List.setIfInBounds_toArray, List.set_cons_succ, List.set_cons_zero]); rfl) ?_
          · intro w_ hSw_; (try dsimp only at hSw_); go_simp
          refine takeV (i := 2) (v := .int .i64 (n : Int)) (by (simp only [List.getElem?_toArray, List.getElem?_cons_succ, List.getElem?_cons_zero]); rfl) (by kernel_rfl) (by kernel_rfl) (by kernel_rfl) (by rfl) (fun _ _ _ h => h) (Or.inl ⟨by rfl, ?_⟩) hS_ (by (simp only [List.setIfInBounds_toArray, List.set_cons_succ, List.set_cons_zero]); rfl) ?_
          · intro w_ hSw_; (try dsimp only at hSw_); go_simp
          refine takeV (i := 3) (v := .bool true) (by (simp only [List.getElem?_toArray, List.getElem?_cons_succ, List.getElem?_cons_zero]); rfl) (by kernel_rfl) (by kernel_rfl) (by kernel_rfl) (by rfl) (fun _ _ _ h => h) (Or.inl ⟨by rfl, ?_⟩) hS_ (by (simp only [List.setIfInBounds_toArray, List.set_cons_succ, List.set_cons_zero]); rfl) ?_
          · intro w_ hSw_; (try dsimp only at hSw_); go_simp
          refine takeV (i := 4) (v := .bool true) (by (simp only [List.getElem?_toArray, List.getElem?_cons_succ, List.getElem?_cons_zero]); rfl) (by kernel_rfl) (by kernel_rfl) (by kernel_rfl) (by rfl) (fun _ _ _ h => h) (Or.inl ⟨by rfl, ?_⟩) hS_ (by (simp only [List.setIfInBounds_toArray, List.set_cons_succ, List.set_cons_zero]); rfl) ?_
          · intro w_ hSw_; (try dsimp only at hSw_); go_simp
          refine takeV (i := 5) (v := .func (.func 99) #[] #[]) (by (simp only [List.getElem?_toArray, List.getElem?_cons_succ, List.getElem?_cons_zero]); rfl) (by kernel_rfl) (by kernel_rfl) (by kernel_rfl) (by rfl) (fun _ _ _ h => h) (Or.inl ⟨by rfl, ?_⟩) hS_ (by (simp only [List.setIfInBounds_toArray, List.set_cons_succ, List.set_cons_zero]); rfl) ?_
          · intro w_ hSw_; (try dsimp only at hSw_); go_simp
          refine takeV (i := 6) (v := .slice (some p) n c) (by (simp only [List.getElem?_toArray, List.getElem?_cons_succ, List.getElem?_cons_zero]); rfl) (by kernel_rfl) (by kernel_rfl) (by kernel_rfl) (by rfl) (fun _ _ _ h => h) (Or.inl ⟨by rfl, ?_⟩) hS_ (by (simp only [List.setIfInBounds_toArray, List.set_cons_succ, List.set_cons_zero]); rfl) ?_
          · intro w_ hSw_; (try dsimp only at hSw_); go_simp
          refine takeV (i := 7) (v := .int .i64 (i : Int)) (by (simp only [List.getElem?_toArray, List.getElem?_cons_succ, List.getElem?_cons_zero]); rfl) (by kernel_rfl) (by kernel_rfl) (by kernel_rfl) (by rfl) (fun _ _ _ h => h) (Or.inl ⟨by rfl, ?_⟩) hS_ (by (simp only [List.setIfInBounds_toArray, List.set_cons_succ, List.set_cons_zero]); rfl) ?_
          · intro w_ hSw_; (try dsimp only at hSw_); go_simp
          refine takeV (i := 8) (v := .pointer (some (p.add (i * 2)))) (by (simp only [List.getElem?_toArray, List.getElem?_cons_succ, List.getElem?_cons_zero]); rfl) (by kernel_rfl) (by kernel_rfl) (by kernel_rfl) (by rfl) (fun _ _ _ h => h) (Or.inl ⟨by rfl, ?_⟩) hS_ (by (simp only [List.setIfInBounds_toArray, List.set_cons_succ, List.set_cons_zero]); rfl) ?_
          · intro w_ hSw_; (try dsimp only at hSw_); go_simp
          refine takeV (i := 9) (v := .agg #[.string q.1, .slice A' n' c']) (by (simp only [List.getElem?_toArray, List.getElem?_cons_succ, List.getElem?_cons_zero]); rfl) (by kernel_rfl) (by kernel_rfl) (by kernel_rfl) (by rfl) (fun _ _ _ h => h) (Or.inl ⟨by rfl, ?_⟩) hS_ (by (simp only [List.setIfInBounds_toArray, List.set_cons_succ, List.set_cons_zero]); rfl) ?_
          · intro w_ hSw_; (try dsimp only at hSw_); go_simp
          refine takeV (i := 10) (v := .agg #[.string nm, .slice B m d]) (by (simp only [List.getElem?_toArray, List.getElem?_cons_succ, List.getElem?_cons_zero]); rfl) (by kernel_rfl) (by kernel_rfl) (by kernel_rfl) (by rfl) (fun _ _ _ h => h) (Or.inl ⟨by rfl, ?_⟩) hS_ (by (simp only [List.setIfInBounds_toArray, List.set_cons_succ, List.set_cons_zero]); rfl) ?_
          · intro w_ hSw_; (try dsimp only at hSw_); go_simp
          refine wpAnyH_ready (rs := [11]) (by kernel_rfl) (by simp) ?_
          refine AllReadyH.cons (o := _) (by (simp only [List.getElem?_toArray, List.getElem?_cons_succ, List.getElem?_cons_zero]); rfl) (fun K_ hK_ => ?_) AllReadyH.nil
          rw [if_pos (by rfl)]
          go_simp
          go_at_call 99
          refine (compareAtoms_any q.1 nm A' B n' c' m d q.2 ts _ HT.out HU.out).mono ?_; rintro e w1 ⟨rfl, hb1⟩
          have y1 := (hb1.cell (p := ⟨w.heap.size, 0, none⟩) (b0)).trans b1
          have y2 := (hb1.cell (p := ⟨w.heap.size, 1, none⟩) (b0)).trans b2
          have y3 := (hb1.cell (p := p.add (i * 2)) (by rw [block_add]; exact hpb)).trans d1
          have y4 := (hb1.cell (p := ⟨(p.add (i * 2)).block, (p.add (i * 2)).off + 1, none⟩) (by rw [block_add]; exact hpb)).trans d4
          refine hK_.out _ _ ⟨⟨y1, y2⟩, y3, y4⟩ (fun hS2_ => ?_)
          clear hK_ hS_
          have hS_ := hS2_; clear hS2_
          refine takeV (i := 12) (v := .bool false) (by (simp only [List.getElem?_toArray, List.getElem?_cons_succ, List.getElem?_cons_zero]); rfl) (by kernel_rfl) (by kernel_rfl) (by kernel_rfl) (by rfl) (fun _ _ _ h => h) (Or.inl ⟨by rfl, ?_⟩) hS_ (by (simp only [List.setIfInBounds_toArray, List.set_cons_succ, List.set_cons_zero]); rfl) ?_
          · intro w_ hSw_; (try dsimp only at hSw_); go_simp
          refine takeV (i := 13) (v := .bool false) (by (simp only [List.getElem?_toArray, List.getElem?_cons_succ, List.getElem?_cons_zero]); rfl) (by kernel_rfl) (by kernel_rfl) (by kernel_rfl) (by rfl) (fun _ _ _ h => h) (Or.inl ⟨by rfl, ?_⟩) hS_ (by (simp only [List.setIfInBounds_toArray, List.set_cons_succ, List.set_cons_zero]); rfl) ?_
          · intro w_ hSw_; (try dsimp only at hSw_); go_simp
          refine takeV (i := 14) (v := .int .i64 (i : Int)) (by (simp only [List.getElem?_toArray, List.getElem?_cons_succ, List.getElem?_cons_zero]); rfl) (by kernel_rfl) (by kernel_rfl) (by kernel_rfl) (by rfl) (fun _ _ _ h => h) (Or.inl ⟨by rfl, ?_⟩) hS_ (by (simp only [List.setIfInBounds_toArray, List.set_cons_succ, List.set_cons_zero]); rfl) ?_
          · intro w_ hSw_; (try dsimp only at hSw_); go_simp
          refine takeV (i := 15) (v := .bool false) (by (simp only [List.getElem?_toArray, List.getElem?_cons_succ, List.getElem?_cons_zero]); rfl) (by kernel_rfl) (by kernel_rfl) (by kernel_rfl) (by rfl) (fun _ _ _ h => h) (Or.inl ⟨by rfl, ?_⟩) hS_ (by (simp only [List.setIfInBounds_toArray, List.set_cons_succ, List.set_cons_zero]); rfl) ?_
          · intro w_ hSw_; (try dsimp only at hSw_); go_simp
          refine wpAnyH_done (by kernel_rfl) ?_ _
          go_wp2
          go_ret2; exact ⟨i, ⟨by rw [EB.out]; rfl, hjn, HL.out, HH.out⟩, belowThen hw0 (belowThen hbd hb1)⟩
      · have EB := Lib.hid (hasB_end L.out HL.out hin)
        go_wp2_with fail
        refine wp_region_held_drew (S := fun W => (W.cell? ⟨w.heap.size, 0, none⟩ = some (.string nm) ∧ W.cell? ⟨w.heap.size, 1, none⟩ = some (.slice B m d))) (by kernel_rfl) ⟨e1, e2⟩ ?_
        intro hS_
        refine takeV (i := 0) (v := .int .i64 (i : Int)) (by (simp only [List.getElem?_toArray, List.getElem?_cons_zero]); rfl) (by kernel_rfl) (by kernel_rfl) (by kernel_rfl) (by rfl) (fun _ _ _ h => h) (Or.inl ⟨by rfl, ?_⟩) hS_ (by (simp only [List.setIfInBounds_toArray, List.set_cons_succ, List.set_cons_zero]); rfl) ?_
        · intro w_ hSw_; (try dsimp only at hSw_); go_simp
        refine takeV (i := 1) (v := .int .i64 (i : Int)) (by (simp only [List.getElem?_toArray, List.getElem?_cons_succ, List.getElem?_cons_zero]); rfl) (by kernel_rfl) (by kernel_rfl) (by kernel_rfl) (by rfl) (fun _ _ _ h => h) (Or.inl ⟨by rfl, ?_⟩) hS_ (by (simp only [List.setIfInBounds_toArray, List.set_cons_succ, List.set_cons_zero]); rfl) ?_
        · intro w_ hSw_; (try dsimp only at hSw_); go_simp
        refine takeV (i := 2) (v := .int .i64 (n : Int)) (by (simp only [List.getElem?_toArray, List.getElem?_cons_succ, List.getElem?_cons_zero]); rfl) (by kernel_rfl) (by kernel_rfl) (by kernel_rfl) (by rfl) (fun _ _ _ h => h) (Or.inl ⟨by rfl, ?_⟩) hS_ (by (simp only [List.setIfInBounds_toArray, List.set_cons_succ, List.set_cons_zero]); rfl) ?_
        · intro w_ hSw_; (try dsimp only at hSw_); go_simp
        refine takeV (i := 3) (v := .bool false) (by (simp only [List.getElem?_toArray, List.getElem?_cons_succ, List.getElem?_cons_zero]); rfl) (by kernel_rfl) (by kernel_rfl) (by kernel_rfl) (by rfl) (fun _ _ _ h => h) (Or.inl ⟨by rfl, ?_⟩) hS_ (by (simp only [List.setIfInBounds_toArray, List.set_cons_succ, List.set_cons_zero]); rfl) ?_
        · intro w_ hSw_; (try dsimp only at hSw_); go_simp
        refine takeV (i := 4) (v := .bool false) (by (simp only [List.getElem?_toArray, List.getElem?_cons_succ, List.getElem?_cons_zero]); rfl) (by kernel_rfl) (by kernel_rfl) (by kernel_rfl) (by rfl) (fun _ _ _ h => h) (Or.inl ⟨by rfl, ?_⟩) hS_ (by (simp only [List.setIfInBounds_toArray, List.set_cons_succ, List.set_cons_zero]); rfl) ?_
        · intro w_ hSw_; (try dsimp only at hSw_); go_simp
        refine takeV (i := 5) (v := undef) (by (simp only [List.getElem?_toArray, List.getElem?_cons_succ, List.getElem?_cons_zero]); rfl) (by kernel_rfl) (by kernel_rfl) (by kernel_rfl) (by rfl) (fun _ _ _ h => h) (Or.inr ⟨by rfl, rfl⟩) hS_ (by (simp only [List.setIfInBounds_toArray, List.set_cons_succ, List.set_cons_zero]); rfl) ?_
        refine takeV (i := 6) (v := undef) (by (simp only [List.getElem?_toArray, List.getElem?_cons_succ, List.getElem?_cons_zero]); rfl) (by kernel_rfl) (by kernel_rfl) (by kernel_rfl) (by rfl) (fun _ _ _ h => h) (Or.inr ⟨by rfl, rfl⟩) hS_ (by (simp only [List.setIfInBounds_toArray, List.set_cons_succ, List.set_cons_zero]); rfl) ?_
        refine takeV (i := 7) (v := undef) (by (simp only [List.getElem?_toArray, List.getElem?_cons_succ, List.getElem?_cons_zero]); rfl) (by kernel_rfl) (by kernel_rfl) (by kernel_rfl) (by rfl) (fun _ _ _ h => h) (Or.inr ⟨by rfl, rfl⟩) hS_ (by (simp only [List.setIfInBounds_toArray, List.set_cons_succ, List.set_cons_zero]); rfl) ?_
        refine takeV (i := 8) (v := undef) (by (simp only [List.getElem?_toArray, List.getElem?_cons_succ, List.getElem?_cons_zero]); rfl) (by kernel_rfl) (by kernel_rfl) (by kernel_rfl) (by rfl) (fun _ _ _ h => h) (Or.inr ⟨by rfl, rfl⟩) hS_ (by (simp only [List.setIfInBounds_toArray, List.set_cons_succ, List.set_cons_zero]); rfl) ?_
        refine takeV (i := 9) (v := undef) (by (simp only [List.getElem?_toArray, List.getElem?_cons_succ, List.getElem?_cons_zero]); rfl) (by kernel_rfl) (by kernel_rfl) (by kernel_rfl) (by rfl) (fun _ _ _ h => h) (Or.inr ⟨by rfl, rfl⟩) hS_ (by (simp only [List.setIfInBounds_toArray, List.set_cons_succ, List.set_cons_zero]); rfl) ?_
        refine takeV (i := 10) (v := undef) (by (simp only [List.getElem?_toArray, List.getElem?_cons_succ, List.getElem?_cons_zero]); rfl) (by kernel_rfl) (by kernel_rfl) (by kernel_rfl) (by rfl) (fun _ _ _ h => h) (Or.inr ⟨by rfl, rfl⟩) hS_ (by (simp only [List.setIfInBounds_toArray, List.set_cons_succ, List.set_cons_zero]); rfl) ?_
        refine takeV (i := 11) (v := undef) (by (simp only [List.getElem?_toArray, List.getElem?_cons_succ, List.getElem?_cons_zero]); rfl) (by kernel_rfl) (by kernel_rfl) (by kernel_rfl) (by rfl) (fun _ _ _ h => h) (Or.inr ⟨by rfl, rfl⟩) hS_ (by (simp only [List.setIfInBounds_toArray, List.set_cons_succ, List.set_cons_zero]); rfl) ?_
        refine takeV (i := 12) (v := undef) (by (simp only [List.getElem?_toArray, List.getElem?_cons_succ, List.getElem?_cons_zero]); rfl) (by kernel_rfl) (by kernel_rfl) (by kernel_rfl) (by rfl) (fun _ _ _ h => h) (Or.inr ⟨by rfl, rfl⟩) hS_ (by (simp only [List.setIfInBounds_toArray, List.set_cons_succ, List.set_cons_zero]); rfl) ?_
        refine takeV (i := 13) (v := .bool false) (by (simp only [List.getElem?_toArray, List.getElem?_cons_succ, List.getElem?_cons_zero]); rfl) (by kernel_rfl) (by kernel_rfl) (by kernel_rfl) (by rfl) (fun _ _ _ h => h) (Or.inl ⟨by rfl, ?_⟩) hS_ (by (simp only [List.setIfInBounds_toArray, List.set_cons_succ, List.set_cons_zero]); rfl) ?_
        · intro w_ hSw_; (try dsimp only at hSw_); go_simp
        refine takeV (i := 14) (v := .int .i64 (i : Int)) (by (simp only [List.getElem?_toArray, List.getElem?_cons_succ, List.getElem?_cons_zero]); rfl) (by kernel_rfl) (by kernel_rfl) (by kernel_rfl) (by rfl) (fun _ _ _ h => h) (Or.inl ⟨by rfl, ?_⟩) hS_ (by (simp only [List.setIfInBounds_toArray, List.set_cons_succ, List.set_cons_zero]); rfl) ?_
        · intro w_ hSw_; (try dsimp only at hSw_); go_simp
        refine takeV (i := 15) (v := .bool false) (by (simp only [List.getElem?_toArray, List.getElem?_cons_succ, List.getElem?_cons_zero]); rfl) (by kernel_rfl) (by kernel_rfl) (by kernel_rfl) (by rfl) (fun _ _ _ h => h) (Or.inl ⟨by rfl, ?_⟩) hS_ (by (simp only [List.setIfInBounds_toArray, List.set_cons_succ, List.set_cons_zero]); rfl) ?_
        · intro w_ hSw_; (try dsimp only at hSw_); go_simp
        refine wpAnyH_done (by kernel_rfl) ?_ _
        go_wp2
        go_ret2; exact ⟨i, ⟨by rw [EB.out]; rfl, hjn, HL.out, HH.out⟩, belowThen hw0 hbd⟩

end Go.Proofs.Ytailmopdhnoppaa
