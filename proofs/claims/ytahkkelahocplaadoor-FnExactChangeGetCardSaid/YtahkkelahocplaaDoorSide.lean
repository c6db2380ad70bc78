/-
  In which of two lists the next one stands, as the program tells it.
-/
import Derived.Test.YtahkkelahocplaaDoorRefs
import Derived.Deep.RegionHeld3
namespace Go.Proofs.YtahkkelahocplaaDoor
open Go.RowKit
attribute [local go_sem] run_store_func

set_option maxHeartbeats 2000000 in
theorem nextSide_any (A0 : Option Addr) (n0 c0 : Nat) (A B : Option Addr) (n c n' c' : Nat) (ra rb : List Rf) (w : World) (h : IsRefs w 0 w.heap.size A n c ra) (h' : IsRefs w 0 w.heap.size B n' c' rb) :
    Calls Tryd.prog 153 #[listV A0 n0 c0, .slice A n c, .slice B n' c'] w (IntPost (sideN (ra.map rAt) (rb.map rAt) : Nat) w) := by
  unfold listV
  have L := Lib.hid h.1; have L' := Lib.hid h'.1
  have H := Lib.hid h; clear h
  have H' := Lib.hid h'; clear h'
  have hw0 := below1 w (.cells #[.slice A0 n0 c0, .func (.func 135) #[] #[]] 135)
  cases rb with
  | nil =>
    have hn : n' = 0 := by have := L'.out; simp at this; omega
    subst hn
    have E := Lib.hid (show ((sideN (ra.map rAt) (([] : List Rf).map rAt) : Nat) : Int) = 0 by cases ra <;> rfl)
    go_enter Tryd.func153, Tryd.ntmps153
    go_wp2
    go_ret; exact ⟨retI E.out.symm, hw0⟩
  | cons b rb =>
    obtain ⟨p', hB, hlo', hhi', hn', ⟨f1, f2, f3, f4⟩, _⟩ := H'.out.first
    subst hB
    have hi' : ¬ (n' : Int) = 0 := by omega
    have hi2 : ((n' : Int) == 0) = false := by rw [beq_eq_false_iff_ne]; exact hi'
    cases ra with
    | nil =>
      have hn : n = 0 := by have := L.out; simp at this; omega
      subst hn
      go_enter Tryd.func153, Tryd.ntmps153
      go_wp2
      go_ret; exact ⟨rfl, hw0⟩
    | cons a ra =>
      obtain ⟨p, hA, hlo, hhi, hn, ⟨d1, d2, d3, d4⟩, _⟩ := H.out.first
      subst hA
      have hi : ¬ (n : Int) = 0 := by omega
      have hi3 : ((n : Int) == 0) = false := by rw [beq_eq_false_iff_ne]; exact hi
      have hbd := hw0.drew
      obtain ⟨W1, hW1⟩ : ∃ W1, w.alloc (.cells #[.slice A0 n0 c0, .func (.func 135) #[] #[]] 135) = W1 := ⟨_, rfl⟩
      have x0 : W1.cell? ⟨w.heap.size, 1, none⟩ = some (.func (.func 135) #[] #[]) := by rw [← hW1]; simp [go_sem]
      have hz0 : w.heap.size < W1.heap.size := by rw [← hW1]; simp
      rw [hW1] at hw0 hbd
      have hwd : Below w.heap.size w W1.drew := hbd
      have x1 := (hw0.cell (p := p) hhi).trans d1
      have x2 : W1.cell? ⟨p.block, p.off + 1, none⟩ = some (.slice a.2.1 a.2.2.1 a.2.2.2.1) := (hw0.cell (p := ⟨p.block, p.off + 1, none⟩) hhi).trans d3
      have x3 := (hw0.cell (p := p') hhi').trans f1
      have x4 : W1.cell? ⟨p'.block, p'.off + 1, none⟩ = some (.slice b.2.1 b.2.2.1 b.2.2.2.1) := (hw0.cell (p := ⟨p'.block, p'.off + 1, none⟩) hhi').trans f3
      have v0 : W1.drew.cell? ⟨w.heap.size, 1, none⟩ = some (.func (.func 135) #[] #[]) := x0
      have v1 : W1.drew.cell? p = some (.string a.1) := x1
      have v2 : W1.drew.cell? ⟨p.block, p.off + 1, none⟩ = some (.slice a.2.1 a.2.2.1 a.2.2.2.1) := x2
      have v3 : W1.drew.cell? p' = some (.string b.1) := x3
      have v4 : W1.drew.cell? ⟨p'.block, p'.off + 1, none⟩ = some (.slice b.2.1 b.2.2.1 b.2.2.2.1) := x4
      have hz : w.heap.size < W1.drew.heap.size := hz0
      have hpz : p.block < W1.drew.heap.size := Nat.lt_of_lt_of_le hhi hw0.size
      have hpz' : p'.block < W1.drew.heap.size := Nat.lt_of_lt_of_le hhi' hw0.size
      have HT := Lib.hid (show IsTerms W1.drew 0 W1.drew.heap.size a.2.1 a.2.2.1 a.2.2.2.1 a.2.2.2.2 from d4.up hwd)
      have HU := Lib.hid (show IsTerms W1.drew 0 W1.drew.heap.size b.2.1 b.2.2.1 b.2.2.2.1 b.2.2.2.2 from f4.up hwd)
      clear d1 d3 d4 f1 f3 f4
      have hq : sideN ((a :: ra).map rAt) ((b :: rb).map rAt) = if atomCmp (rAt a) (rAt b) < 0 then 0 else if 0 < atomCmp (rAt a) (rAt b) then 1 else 2 := rfl
      by_cases hc : atomCmp (rAt a) (rAt b) < 0
      · have E := Lib.hid (show ((sideN ((a :: ra).map rAt) ((b :: rb).map rAt) : Nat) : Int) = 0 by rw [hq, if_pos hc]; rfl)
        have hc' : atomCmp (a.1, a.2.2.2.2) (b.1, b.2.2.2.2) < 0 := hc
        clear hq hc
        go_enter Tryd.func153, Tryd.ntmps153
        go_wp2_with fail
        go_region_held3 (fun W => W.cell? ⟨w.heap.size, 1, none⟩ = some (.func (.func 135) #[] #[]) ∧ (W.cell? p = some (.string a.1) ∧ W.cell? ⟨p.block, p.off + 1, none⟩ = some (.slice a.2.1 a.2.2.1 a.2.2.2.1)) ∧ W.cell? p' = some (.string b.1) ∧ W.cell? ⟨p'.block, p'.off + 1, none⟩ = some (.slice b.2.1 b.2.2.1 b.2.2.2.1))
          (first | (with_reducible exact ⟨y0, ⟨y1, y2⟩, y3, y4⟩) | (with_reducible exact ⟨v0, ⟨v1, v2⟩, v3, v4⟩) | (with_reducible exact ⟨x0, ⟨x1, x2⟩, x3, x4⟩))
          (((with_reducible refine (compareAtoms_any a.1 b.1 a.2.1 b.2.1 a.2.2.1 a.2.2.2.1 b.2.2.1 b.2.2.2.1 a.2.2.2.2 b.2.2.2.2 _ HT.out HU.out).mono ?_); rintro e w1 ⟨rfl, hb1⟩; have y0 := (hb1.cell (p := ⟨w.heap.size, 1, none⟩) hz).trans v0; have y1 := (hb1.cell (p := p) hpz).trans v1; have y2 := (hb1.cell (p := ⟨p.block, p.off + 1, none⟩) hpz).trans v2; have y3 := (hb1.cell (p := p') hpz').trans v3; have y4 := (hb1.cell (p := ⟨p'.block, p'.off + 1, none⟩) hpz').trans v4))
        all_goals
          clear y0 y1 y2 y3 y4 v0 v1 v2 v3 v4 x0 x1 x2 x3 x4
          go_wp2
          go_ret; exact ⟨retI E.out.symm, belowThen hwd hb1⟩
      · by_cases hd : 0 < atomCmp (rAt a) (rAt b)
        · have E := Lib.hid (show ((sideN ((a :: ra).map rAt) ((b :: rb).map rAt) : Nat) : Int) = 1 by rw [hq, if_neg hc, if_pos hd]; rfl)
          have hc' : ¬ atomCmp (a.1, a.2.2.2.2) (b.1, b.2.2.2.2) < 0 := hc
          have hd' : 0 < atomCmp (a.1, a.2.2.2.2) (b.1, b.2.2.2.2) := hd
          clear hq hc hd
          go_enter Tryd.func153, Tryd.ntmps153
          go_wp2_with fail
          go_region_held3 (fun W => W.cell? ⟨w.heap.size, 1, none⟩ = some (.func (.func 135) #[] #[]) ∧ (W.cell? p = some (.string a.1) ∧ W.cell? ⟨p.block, p.off + 1, none⟩ = some (.slice a.2.1 a.2.2.1 a.2.2.2.1)) ∧ W.cell? p' = some (.string b.1) ∧ W.cell? ⟨p'.block, p'.off + 1, none⟩ = some (.slice b.2.1 b.2.2.1 b.2.2.2.1))
            (first | (with_reducible exact ⟨y0, ⟨y1, y2⟩, y3, y4⟩) | (with_reducible exact ⟨v0, ⟨v1, v2⟩, v3, v4⟩) | (with_reducible exact ⟨x0, ⟨x1, x2⟩, x3, x4⟩))
            (((with_reducible refine (compareAtoms_any a.1 b.1 a.2.1 b.2.1 a.2.2.1 a.2.2.2.1 b.2.2.1 b.2.2.2.1 a.2.2.2.2 b.2.2.2.2 _ HT.out HU.out).mono ?_); rintro e w1 ⟨rfl, hb1⟩; have y0 := (hb1.cell (p := ⟨w.heap.size, 1, none⟩) hz).trans v0; have y1 := (hb1.cell (p := p) hpz).trans v1; have y2 := (hb1.cell (p := ⟨p.block, p.off + 1, none⟩) hpz).trans v2; have y3 := (hb1.cell (p := p') hpz').trans v3; have y4 := (hb1.cell (p := ⟨p'.block, p'.off + 1, none⟩) hpz').trans v4))
          all_goals
            clear y0 y1 y2 y3 y4 v0 v1 v2 v3 v4 x0 x1 x2 x3 x4
            go_wp2
            go_ret; exact ⟨retI E.out.symm, belowThen hwd hb1⟩
        · have E := Lib.hid (show ((sideN ((a :: ra).map rAt) ((b :: rb).map rAt) : Nat) : Int) = 2 by rw [hq, if_neg hc, if_neg hd]; rfl)
          have hc' : ¬ atomCmp (a.1, a.2.2.2.2) (b.1, b.2.2.2.2) < 0 := hc
          have hd' : ¬ 0 < atomCmp (a.1, a.2.2.2.2) (b.1, b.2.2.2.2) := hd
          clear hq hc hd
          go_enter Tryd.func153, Tryd.ntmps153
          go_wp2_with fail
          go_region_held3 (fun W => W.cell? ⟨w.heap.size, 1, none⟩ = some (.func (.func 135) #[] #[]) ∧ (W.cell? p = some (.string a.1) ∧ W.cell? ⟨p.block, p.off + 1, none⟩ = some (.slice a.2.1 a.2.2.1 a.2.2.2.1)) ∧ W.cell? p' = some (.string b.1) ∧ W.cell? ⟨p'.block, p'.off + 1, none⟩ = some (.slice b.2.1 b.2.2.1 b.2.2.2.1))
            (first | (with_reducible exact ⟨y0, ⟨y1, y2⟩, y3, y4⟩) | (with_reducible exact ⟨v0, ⟨v1, v2⟩, v3, v4⟩) | (with_reducible exact ⟨x0, ⟨x1, x2⟩, x3, x4⟩))
            (((with_reducible refine (compareAtoms_any a.1 b.1 a.2.1 b.2.1 a.2.2.1 a.2.2.2.1 b.2.2.1 b.2.2.2.1 a.2.2.2.2 b.2.2.2.2 _ HT.out HU.out).mono ?_); rintro e w1 ⟨rfl, hb1⟩; have y0 := (hb1.cell (p := ⟨w.heap.size, 1, none⟩) hz).trans v0; have y1 := (hb1.cell (p := p) hpz).trans v1; have y2 := (hb1.cell (p := ⟨p.block, p.off + 1, none⟩) hpz).trans v2; have y3 := (hb1.cell (p := p') hpz').trans v3; have y4 := (hb1.cell (p := ⟨p'.block, p'.off + 1, none⟩) hpz').trans v4))
          all_goals
            clear y0 y1 y2 y3 y4 v0 v1 v2 v3 v4 x0 x1 x2 x3 x4
            go_wp2
            go_ret; exact ⟨retI E.out.symm, belowThen hwd hb1⟩

end Go.Proofs.YtahkkelahocplaaDoor
