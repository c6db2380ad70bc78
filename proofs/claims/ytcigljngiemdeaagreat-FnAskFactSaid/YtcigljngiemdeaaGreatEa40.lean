/-
  Texts of one claim, put together.
-/
import Derived.Test.YtcigljngiemdeaaGreatEa8
import Derived.Test.YtcigljngiemdeaaGreatEa3
import Derived.Test.YtcigljngiemdeaaGreatEa31
import Derived.Test.YtcigljngiemdeaaGreatEa39
namespace Go.Proofs.YtcigljngiemdeaaGreat
open Go.RowKit

set_option maxHeartbeats 2000000 in
theorem find_any (A : Option Addr) (n c : Nat) (xs : List At) (nm : ByteArray) (B : Option Addr) (m d : Nat) (ts : List Tm) (w : World) (h : IsAtoms w 0 w.heap.size A n c xs) (h' : IsTerms w 0 w.heap.size B m d ts) (hr : risesB xs = true) (hmax : n ≤ 1099511627776) :
    Calls Tryz.prog 121 #[.slice A n c, .agg #[.string nm, .slice B m d], .func (.func 120) #[] #[]] w (AtPost xs (nm, ts) n w) := by
  have L := Lib.hid h.1
  have H := Lib.hid h; clear h
  have H' := Lib.hid h'; clear h'
  have RR := Lib.hid hr; clear hr
  have hw0 := below1 w (.cells #[.string nm, .slice B m d] 49)
  have X0 := Lib.hid (Box.new w (.string nm) (.slice B m d) 49)
  go_enter Tryz.func121, Tryz.ntmps121
  go_wp2
  go_loopw [9, 10] (fun x z wr => ∃ i j : Nat, i ≤ j ∧ j ≤ n ∧ x = .int .i64 i ∧ z = .int .i64 j ∧ (∀ t y, t < i → xs[t]? = some y → atomCmp y (nm, ts) < 0) ∧ (∀ y, xs[j]? = some y → 0 ≤ atomCmp y (nm, ts)) ∧ Below (w.alloc (.cells #[.string nm, .slice B m d] 49)).heap.size (w.alloc (.cells #[.string nm, .slice B m d] 49)) wr) (fun x z _ => (intOf z).toNat - (intOf x).toNat)
  case atStart => exact ⟨0, n, Nat.zero_le _, Nat.le_refl _, rfl, rfl, fun j y hj => absurd hj (Nat.not_lt_zero _), fun y hy => absurd (List.getElem?_eq_some_iff.1 hy).1 (by have := L.out; omega), Below.refl _ _⟩
  case round =>
    obtain ⟨i, j, hij, hjn, rfl, rfl, hl, hu, hb⟩ := hrel
    have HL := Lib.hid hl; have HH := Lib.hid hu; clear hl hu
    have HB := belowThen hw0 hb
    obtain ⟨b0, b1, b2⟩ := X0.out.later hb
    have e1 : wr.drew.cell? ⟨w.heap.size, 0, none⟩ = some (.string nm) := b1
    have e2 : wr.drew.cell? ⟨w.heap.size, 1, none⟩ = some (.slice B m d) := b2
    have hbd := hb.drew
    have HU := Lib.hid (show IsTerms wr.drew 0 wr.drew.heap.size B m d ts from (H'.out.up HB).keep (fun _ _ _ => rfl) (Nat.le_refl _) (Nat.le_refl _))
    by_cases hlt : i < j
    · have hw1 : IntKind.i64.wrap ((i : Int) + (j : Int)) = (i : Int) + (j : Int) := by rw [IntKind.wrap_i64]; omega
      obtain ⟨g, hgd⟩ : ∃ g : Nat, ((i : Int) + (j : Int)) / 2 = (g : Int) := ⟨(i + j) / 2, by omega⟩
      have hgi : i ≤ g := by omega
      have hgj : g < j := by omega
      have hgn : g < n := by omega
      obtain ⟨p, q, hA, hlo, hhi, hg, hE⟩ := (H.out.below AtomE.stays HB (Nat.le_refl _)).at_ (show g < n from hgn)
      obtain ⟨A', n', c', d1, d3, d4, d5⟩ := hE.out
      clear hE
      have hpb : p.block < wr.heap.size := Nat.lt_of_lt_of_le hhi HB.size
      subst hA
      have HG := Lib.hid hg; clear hg
      have HT := Lib.hid (d5.keep (w' := wr.drew) (lo' := 0) (hi' := wr.drew.heap.size) (fun _ _ _ => rfl) (Nat.le_refl _) HB.size); clear d5
      have x1 : wr.drew.cell? (p.add (g * 2)) = some (.string q.1) := d1
      have x2 : wr.drew.cell? ⟨(p.add (g * 2)).block, (p.add (g * 2)).off + 1, none⟩ = some (.slice A' n' c') := d4
      by_cases hc : atomCmp q (nm, ts) < 0
      · have hc' : atomCmp (q.1, q.2) (nm, ts) < 0 := hc
        have E := Lib.hid (low_all RR.out HG.out hc); clear hc
        go_wp2_with fail
        refine wp_region_held_drew (S := fun W => (W.cell? ⟨w.heap.size, 0, none⟩ = some (.string nm) ∧ W.cell? ⟨w.heap.size, 1, none⟩ = some (.slice B m d)) ∧ W.cell? (p.add (g * 2)) = some (.string q.1) ∧ W.cell? ⟨(p.add (g * 2)).block, (p.add (g * 2)).off + 1, none⟩ = some (.slice A' n' c')) (by kernel_rfl) ⟨⟨e1, e2⟩, x1, x2⟩ ?_
        intro hS_
        refine tk 0 (.func (.func 120) #[] #[]) hS_ ?_
        refine tk 1 (.slice (some p) n c) hS_ ?_
        refine tk 2 (.int .i64 (g : Int)) hS_ ?_
        refine tk 3 (.pointer (some (p.add (g * 2)))) hS_ ?_
        refine tk 4 (.agg #[.string q.1, .slice A' n' c']) hS_ ?_
        refine tk 5 (.agg #[.string nm, .slice B m d]) hS_ ?_
        refine rd1 6 fun K_ hK_ => ?_
        go_simp
        go_at_call 120
        refine (compareAtoms_any q.1 nm A' B n' c' m d q.2 ts _ HT.out HU.out).mono ?_; rintro e w1 ⟨rfl, hb1⟩
        have y1 := (hb1.cell (p := ⟨w.heap.size, 0, none⟩) (b0)).trans b1
        have y2 := (hb1.cell (p := ⟨w.heap.size, 1, none⟩) (b0)).trans b2
        have y3 := (hb1.cell (p := p.add (g * 2)) (by rw [block_add]; exact hpb)).trans d1
        have y4 := (hb1.cell (p := ⟨(p.add (g * 2)).block, (p.add (g * 2)).off + 1, none⟩) (by rw [block_add]; exact hpb)).trans d4
        refine hK_.out _ _ ⟨⟨y1, y2⟩, y3, y4⟩ (fun hS2_ => ?_)
        clear hK_ hS_
        have hS_ := hS2_; clear hS2_
        refine tk 7 (.bool true) hS_ ?_
        refine wpAnyH_done (by kernel_rfl) ?_ _
        go_wp2
        go_roundw
        case rel => exact ⟨g + 1, j, by omega, hjn, by go_num, rfl, E.out, HH.out, belowThen hbd hb1⟩
        case measure => simp [intOf]; omega
      · have hc' : ¬ atomCmp (q.1, q.2) (nm, ts) < 0 := hc
        have E := Lib.hid (show ∀ y, xs[g]? = some y → 0 ≤ atomCmp y (nm, ts) from fun y hy => by have := HG.out; rw [this] at hy; injection hy with hy; subst hy; omega); clear hc
        go_wp2_with fail
        refine wp_region_held_drew (S := fun W => (W.cell? ⟨w.heap.size, 0, none⟩ = some (.string nm) ∧ W.cell? ⟨w.heap.size, 1, none⟩ = some (.slice B m d)) ∧ W.cell? (p.add (g * 2)) = some (.string q.1) ∧ W.cell? ⟨(p.add (g * 2)).block, (p.add (g * 2)).off + 1, none⟩ = some (.slice A' n' c')) (by kernel_rfl) ⟨⟨e1, e2⟩, x1, x2⟩ ?_
        intro hS_
        refine tk 0 (.func (.func 120) #[] #[]) hS_ ?_
        refine tk 1 (.slice (some p) n c) hS_ ?_
        refine tk 2 (.int .i64 (g : Int)) hS_ ?_
        refine tk 3 (.pointer (some (p.add (g * 2)))) hS_ ?_
        refine tk 4 (.agg #[.string q.1, .slice A' n' c']) hS_ ?_
        refine tk 5 (.agg #[.string nm, .slice B m d]) hS_ ?_
        refine rd1 6 fun K_ hK_ => ?_
        go_simp
        go_at_call 120
        refine (compareAtoms_any q.1 nm A' B n' c' m d q.2 ts _ HT.out HU.out).mono ?_; rintro e w1 ⟨rfl, hb1⟩
        have y1 := (hb1.cell (p := ⟨w.heap.size, 0, none⟩) (b0)).trans b1
        have y2 := (hb1.cell (p := ⟨w.heap.size, 1, none⟩) (b0)).trans b2
        have y3 := (hb1.cell (p := p.add (g * 2)) (by rw [block_add]; exact hpb)).trans d1
        have y4 := (hb1.cell (p := ⟨(p.add (g * 2)).block, (p.add (g * 2)).off + 1, none⟩) (by rw [block_add]; exact hpb)).trans d4
        refine hK_.out _ _ ⟨⟨y1, y2⟩, y3, y4⟩ (fun hS2_ => ?_)
        clear hK_ hS_
        have hS_ := hS2_; clear hS2_
        refine tk 7 (.bool false) hS_ ?_
        refine wpAnyH_done (by kernel_rfl) ?_ _
        go_wp2
        go_roundw
        case rel => exact ⟨i, g, hgi, by omega, rfl, rfl, HL.out, E.out, belowThen hbd hb1⟩
        case measure => simp [intOf]; omega
    · obtain rfl : i = j := by omega
      clear hij hlt
      by_cases hin : i < n
      ·
        obtain ⟨p, q, hA, hlo, hhi, hg, hE⟩ := (H.out.below AtomE.stays HB (Nat.le_refl _)).at_ (show i < n from hin)
        obtain ⟨A', n', c', d1, d3, d4, d5⟩ := hE.out
        clear hE
        have hpb : p.block < wr.heap.size := Nat.lt_of_lt_of_le hhi HB.size
        subst hA
        have HG := Lib.hid hg; clear hg
        have HT := Lib.hid (d5.keep (w' := wr.drew) (lo' := 0) (hi' := wr.drew.heap.size) (fun _ _ _ => rfl) (Nat.le_refl _) HB.size); clear d5
        have x1 : wr.drew.cell? (p.add (i * 2)) = some (.string q.1) := d1
        have x2 : wr.drew.cell? ⟨(p.add (i * 2)).block, (p.add (i * 2)).off + 1, none⟩ = some (.slice A' n' c') := d4
        by_cases hz : atomCmp q (nm, ts) = 0
        · have hz' : atomCmp (q.1, q.2) (nm, ts) = 0 := hz
          have EB := Lib.hid (show hasB xs (nm, ts) = true by rw [hasB_at RR.out HL.out HG.out (HH.out q HG.out), decide_eq_true hz]); clear hz
          go_wp2_with fail
          refine wp_region_held_drew (S := fun W => (W.cell? ⟨w.heap.size, 0, none⟩ = some (.string nm) ∧ W.cell? ⟨w.heap.size, 1, none⟩ = some (.slice B m d)) ∧ W.cell? (p.add (i * 2)) = some (.string q.1) ∧ W.cell? ⟨(p.add (i * 2)).block, (p.add (i * 2)).off + 1, none⟩ = some (.slice A' n' c')) (by kernel_rfl) ⟨⟨e1, e2⟩, x1, x2⟩ ?_
          intro hS_
          refine tk 0 (.int .i64 (i : Int)) hS_ ?_
          refine tk 1 (.int .i64 (i : Int)) hS_ ?_
          refine tk 2 (.int .i64 (n : Int)) hS_ ?_
          refine tk 3 (.bool true) hS_ ?_
          refine tk 4 (.bool true) hS_ ?_
          refine tk 5 (.func (.func 120) #[] #[]) hS_ ?_
          refine tk 6 (.slice (some p) n c) hS_ ?_
          refine tk 7 (.int .i64 (i : Int)) hS_ ?_
          refine tk 8 (.pointer (some (p.add (i * 2)))) hS_ ?_
          refine tk 9 (.agg #[.string q.1, .slice A' n' c']) hS_ ?_
          refine tk 10 (.agg #[.string nm, .slice B m d]) hS_ ?_
          refine rd1 11 fun K_ hK_ => ?_
          go_simp
          go_at_call 120
          refine (compareAtoms_any q.1 nm A' B n' c' m d q.2 ts _ HT.out HU.out).mono ?_; rintro e w1 ⟨rfl, hb1⟩
          have y1 := (hb1.cell (p := ⟨w.heap.size, 0, none⟩) (b0)).trans b1
          have y2 := (hb1.cell (p := ⟨w.heap.size, 1, none⟩) (b0)).trans b2
          have y3 := (hb1.cell (p := p.add (i * 2)) (by rw [block_add]; exact hpb)).trans d1
          have y4 := (hb1.cell (p := ⟨(p.add (i * 2)).block, (p.add (i * 2)).off + 1, none⟩) (by rw [block_add]; exact hpb)).trans d4
          refine hK_.out _ _ ⟨⟨y1, y2⟩, y3, y4⟩ (fun hS2_ => ?_)
          clear hK_ hS_
          have hS_ := hS2_; clear hS2_
          refine tk 12 (.bool true) hS_ ?_
          refine tk 13 (.bool true) hS_ ?_
          refine tk 14 (.int .i64 (i : Int)) hS_ ?_
          refine tk 15 (.bool true) hS_ ?_
          refine wpAnyH_done (by kernel_rfl) ?_ _
          go_wp2
          go_ret2; exact ⟨i, ⟨by rw [EB.out]; rfl, hjn, HL.out, HH.out⟩, belowThen hw0 (belowThen hbd hb1)⟩
        · have hz' : ¬ atomCmp (q.1, q.2) (nm, ts) = 0 := hz
          have EB := Lib.hid (show hasB xs (nm, ts) = false by rw [hasB_at RR.out HL.out HG.out (HH.out q HG.out), decide_eq_false hz]); clear hz
          go_wp2_with fail
          refine wp_region_held_drew (S := fun W => (W.cell? ⟨w.heap.size, 0, none⟩ = some (.string nm) ∧ W.cell? ⟨w.heap.size, 1, none⟩ = some (.slice B m d)) ∧ W.cell? (p.add (i * 2)) = some (.string q.1) ∧ W.cell? ⟨(p.add (i * 2)).block, (p.add (i * 2)).off + 1, none⟩ = some (.slice A' n' c')) (by kernel_rfl) ⟨⟨e1, e2⟩, x1, x2⟩ ?_
          intro hS_
          refine tk 0 (.int .i64 (i : Int)) hS_ ?_
          refine tk 1 (.int .i64 (i : Int)) hS_ ?_
          refine tk 2 (.int .i64 (n : Int)) hS_ ?_
          refine tk 3 (.bool true) hS_ ?_
          refine tk 4 (.bool true) hS_ ?_
          refine tk 5 (.func (.func 120) #[] #[]) hS_ ?_
          refine tk 6 (.slice (some p) n c) hS_ ?_
          refine tk 7 (.int .i64 (i : Int)) hS_ ?_
          refine tk 8 (.pointer (some (p.add (i * 2)))) hS_ ?_
          refine tk 9 (.agg #[.string q.1, .slice A' n' c']) hS_ ?_
          refine tk 10 (.agg #[.string nm, .slice B m d]) hS_ ?_
          refine rd1 11 fun K_ hK_ => ?_
          go_simp
          go_at_call 120
          refine (compareAtoms_any q.1 nm A' B n' c' m d q.2 ts _ HT.out HU.out).mono ?_; rintro e w1 ⟨rfl, hb1⟩
          have y1 := (hb1.cell (p := ⟨w.heap.size, 0, none⟩) (b0)).trans b1
          have y2 := (hb1.cell (p := ⟨w.heap.size, 1, none⟩) (b0)).trans b2
          have y3 := (hb1.cell (p := p.add (i * 2)) (by rw [block_add]; exact hpb)).trans d1
          have y4 := (hb1.cell (p := ⟨(p.add (i * 2)).block, (p.add (i * 2)).off + 1, none⟩) (by rw [block_add]; exact hpb)).trans d4
          refine hK_.out _ _ ⟨⟨y1, y2⟩, y3, y4⟩ (fun hS2_ => ?_)
          clear hK_ hS_
          have hS_ := hS2_; clear hS2_
          refine tk 12 (.bool false) hS_ ?_
          refine tk 13 (.bool false) hS_ ?_
          refine tk 14 (.int .i64 (i : Int)) hS_ ?_
          refine tk 15 (.bool false) hS_ ?_
          refine wpAnyH_done (by kernel_rfl) ?_ _
          go_wp2
          go_ret2; exact ⟨i, ⟨by rw [EB.out]; rfl, hjn, HL.out, HH.out⟩, belowThen hw0 (belowThen hbd hb1)⟩
      · have EB := Lib.hid (hasB_end L.out HL.out hin)
        go_wp2_with fail
        refine wp_region_held_drew (S := fun W => (W.cell? ⟨w.heap.size, 0, none⟩ = some (.string nm) ∧ W.cell? ⟨w.heap.size, 1, none⟩ = some (.slice B m d))) (by kernel_rfl) ⟨e1, e2⟩ ?_
        intro hS_
        refine tk 0 (.int .i64 (i : Int)) hS_ ?_
        refine tk 1 (.int .i64 (i : Int)) hS_ ?_
        refine tk 2 (.int .i64 (n : Int)) hS_ ?_
        refine tk 3 (.bool false) hS_ ?_
        refine tk 4 (.bool false) hS_ ?_
        refine sk 5 hS_ ?_
        refine sk 6 hS_ ?_
        refine sk 7 hS_ ?_
        refine sk 8 hS_ ?_
        refine sk 9 hS_ ?_
        refine sk 10 hS_ ?_
        refine sk 11 hS_ ?_
        refine sk 12 hS_ ?_
        refine tk 13 (.bool false) hS_ ?_
        refine tk 14 (.int .i64 (i : Int)) hS_ ?_
        refine tk 15 (.bool false) hS_ ?_
        refine wpAnyH_done (by kernel_rfl) ?_ _
        go_wp2
        go_ret2; exact ⟨i, ⟨by rw [EB.out]; rfl, hjn, HL.out, HH.out⟩, belowThen hw0 hbd⟩


/-- What FactsHas answers. -/
def hasFB (xs : List At) (a : At) : Bool := factsB 300 xs && (factB a && hasB xs a)

set_option maxHeartbeats 1000000 in
theorem has_any (A : Option Addr) (n c : Nat) (xs : List At) (nm : ByteArray) (B : Option Addr) (m d : Nat) (ts : List Tm) (w : World) (h : IsAtoms w 0 w.heap.size A n c xs) (h' : IsTerms w 0 w.heap.size B m d ts) (hr : risesB xs = true) (hmax : n ≤ 1099511627776) :
    Calls Tryz.prog 77 #[listV A n c, .agg #[.string nm, .slice B m d]] w (BoolPost (hasB xs (nm, ts)) w) := by
  have H := Lib.hid h; clear h
  have H' := Lib.hid h'; clear h'
  unfold listV
  have hw0 := below2 w (.cells #[.slice A n c, .func (.func 120) #[] #[]] 118) (.cells #[.string nm, .slice B m d] 49)
  go_enter Tryz.func77, Tryz.ntmps77
  go_wp2_with fail
  refine (find_any _ _ _ xs nm B m d ts _ (H.out.up AtomE.stays hw0) (H'.out.up hw0) hr hmax).mono ?_; rintro e w1 ⟨k, ⟨rfl, _, _, _⟩, hb1⟩
  go_wp2
  go_ret; exact ⟨rfl, belowThen hw0 hb1⟩

set_option maxHeartbeats 2000000 in
theorem implFactsHas_any (A : Option Addr) (n c : Nat) (xs : List At) (nm : ByteArray) (B : Option Addr) (m d : Nat) (ts : List Tm) (w : World) (hs : nm.size ≤ maxLen) (h : IsAtoms w 0 w.heap.size A n c xs) (h' : IsTerms w 0 w.heap.size B m d ts) :
    Calls Tryz.prog 31 #[.slice A n c, .agg #[.string nm, .slice B m d]] w (BoolPost (hasFB xs (nm, ts)) w) := by
  have hl := h.1
  have hw0 := below1 w (.cells #[.string nm, .slice B m d] 49)
  have L1 := Lib.hid (show IsAtoms (w.alloc (.cells #[.string nm, .slice B m d] 49)).drew 0 (w.alloc (.cells #[.string nm, .slice B m d] 49)).drew.heap.size A n c xs from h.up AtomE.stays hw0.drew)
  have T1 := Lib.hid (show IsTerms (w.alloc (.cells #[.string nm, .slice B m d] 49)).drew 0 (w.alloc (.cells #[.string nm, .slice B m d] 49)).drew.heap.size B m d ts from h'.up hw0.drew)
  clear h h'
  have hwd := hw0.drew
  have x1 : (w.alloc (.cells #[.string nm, .slice B m d] 49)).drew.cell? ⟨w.heap.size, 0, none⟩ = some (.string nm) := by
    show (w.alloc (.cells #[.string nm, .slice B m d] 49)).cell? ⟨w.heap.size, 0, none⟩ = _; simp [go_sem]
  have x2 : (w.alloc (.cells #[.string nm, .slice B m d] 49)).drew.cell? ⟨w.heap.size, 1, none⟩ = some (.slice B m d) := by
    show (w.alloc (.cells #[.string nm, .slice B m d] 49)).cell? ⟨w.heap.size, 1, none⟩ = _; simp [go_sem]
  have c1 : ∀ W : World, IsAtoms W 0 W.heap.size A n c xs → Calls Tryz.prog 41 #[.slice A n c] W (BoolPost (factsB 300 xs) W) := fun W hh => implFactsOk_any A n c xs W hh
  have c2 : ∀ W : World, IsTerms W 0 W.heap.size B m d ts → Calls Tryz.prog 75 #[.agg #[.string nm, .slice B m d]] W (BoolPost (factB (nm, ts)) W) := fun W hh => factOk_any nm B m d ts W hs hh
  cases hA : factsB 300 xs
  · rw [hA] at c1
    have E := Lib.hid (show hasFB xs (nm, ts) = false by unfold hasFB; rw [hA]; rfl); clear hA
    go_enter Tryz.func31, Tryz.ntmps31
    go_wp2_with fail
    refine wp_region_held_drew (S := fun W => W.cell? ⟨w.heap.size, 0, none⟩ = some (.string nm) ∧ W.cell? ⟨w.heap.size, 1, none⟩ = some (.slice B m d)) (by kernel_rfl) ⟨x1, x2⟩ ?_
    intro hS_
    refine tk 0 (.slice A n c) hS_ ?_
    refine rd1 1 fun K_ hK_ => ?_
    go_simp
    go_at_call 41
    refine (c1 _ L1.out).mono ?_; rintro e w1 ⟨rfl, hb1⟩
    have y1 := (hb1.cell (p := ⟨w.heap.size, 0, none⟩) (by simp)).trans x1
    have y2 := (hb1.cell (p := ⟨w.heap.size, 1, none⟩) (by simp)).trans x2
    have hz1 : w.heap.size < w1.heap.size := by have := hb1.size; simp at this; omega
    have L2 := L1.out.up AtomE.stays hb1
    have T2 := T1.out.up hb1
    refine hK_.out _ _ ⟨y1, y2⟩ (fun hS2_ => ?_)
    clear hK_ hS_
    have hS_ := hS2_; clear hS2_
    refine tk 2 (.bool false) hS_ ?_
    refine sk 3 hS_ ?_
    refine sk 4 hS_ ?_
    refine tk 5 (.bool false) hS_ ?_
    refine tk 6 (.bool false) hS_ ?_
    refine sk 7 hS_ ?_
    refine sk 8 hS_ ?_
    refine sk 9 hS_ ?_
    refine sk 10 hS_ ?_
    refine tk 11 (.bool false) hS_ ?_
    refine tk 12 (.bool false) hS_ ?_
    refine wpAnyH_done (by kernel_rfl) ?_ _
    go_wp2
    go_ret; exact ⟨retB E.out.symm, belowThen hwd hb1⟩
  · rw [hA] at c1
    have RR := Lib.hid (factsB_rises hA)
    have hmax : n ≤ 1099511627776 := by have := factsB_len hA; omega
    cases hF : factB (nm, ts)
    · rw [hF] at c2
      have E := Lib.hid (show hasFB xs (nm, ts) = false by unfold hasFB; rw [hA, hF]; rfl); clear hA hF
      go_enter Tryz.func31, Tryz.ntmps31
      go_wp2_with fail
      refine wp_region_held_drew (S := fun W => W.cell? ⟨w.heap.size, 0, none⟩ = some (.string nm) ∧ W.cell? ⟨w.heap.size, 1, none⟩ = some (.slice B m d)) (by kernel_rfl) ⟨x1, x2⟩ ?_
      intro hS_
      refine tk 0 (.slice A n c) hS_ ?_
      refine rd1 1 fun K_ hK_ => ?_
      go_simp
      go_at_call 41
      refine (c1 _ L1.out).mono ?_; rintro e w1 ⟨rfl, hb1⟩
      have y1 := (hb1.cell (p := ⟨w.heap.size, 0, none⟩) (by simp)).trans x1
      have y2 := (hb1.cell (p := ⟨w.heap.size, 1, none⟩) (by simp)).trans x2
      have hz1 : w.heap.size < w1.heap.size := by have := hb1.size; simp at this; omega
      have L2 := L1.out.up AtomE.stays hb1
      have T2 := T1.out.up hb1
      refine hK_.out _ _ ⟨y1, y2⟩ (fun hS2_ => ?_)
      clear hK_ hS_
      have hS_ := hS2_; clear hS2_
      refine tk 2 (.bool true) hS_ ?_
      refine tk 3 (.agg #[.string nm, .slice B m d]) hS_ ?_
      refine rd1 4 fun K_ hK_ => ?_
      go_simp
      go_at_call 75
      refine (c2 _ T2).mono ?_; rintro e w2 ⟨rfl, hb2⟩
      have z1 := (hb2.cell (p := ⟨w.heap.size, 0, none⟩) (hz1)).trans y1
      have z2 := (hb2.cell (p := ⟨w.heap.size, 1, none⟩) (hz1)).trans y2
      have hz2 : w.heap.size < w2.heap.size := Nat.lt_of_lt_of_le hz1 hb2.size
      have L3 := L2.up AtomE.stays hb2
      have T3 := T2.up hb2
      refine hK_.out _ _ ⟨z1, z2⟩ (fun hS2_ => ?_)
      clear hK_ hS_
      have hS_ := hS2_; clear hS2_
      refine tk 5 (.bool false) hS_ ?_
      refine tk 6 (.bool false) hS_ ?_
      refine sk 7 hS_ ?_
      refine sk 8 hS_ ?_
      refine sk 9 hS_ ?_
      refine sk 10 hS_ ?_
      refine tk 11 (.bool false) hS_ ?_
      refine tk 12 (.bool false) hS_ ?_
      refine wpAnyH_done (by kernel_rfl) ?_ _
      go_wp2
      go_ret; exact ⟨retB E.out.symm, belowThen hwd (belowThen hb1 hb2)⟩
    · rw [hF] at c2
      have E := Lib.hid (show hasFB xs (nm, ts) = hasB xs (nm, ts) by unfold hasFB; rw [hA, hF]; rfl); clear hA hF
      go_enter Tryz.func31, Tryz.ntmps31
      go_wp2_with fail
      refine wp_region_held_drew (S := fun W => W.cell? ⟨w.heap.size, 0, none⟩ = some (.string nm) ∧ W.cell? ⟨w.heap.size, 1, none⟩ = some (.slice B m d)) (by kernel_rfl) ⟨x1, x2⟩ ?_
      intro hS_
      refine tk 0 (.slice A n c) hS_ ?_
      refine rd1 1 fun K_ hK_ => ?_
      go_simp
      go_at_call 41
      refine (c1 _ L1.out).mono ?_; rintro e w1 ⟨rfl, hb1⟩
      have y1 := (hb1.cell (p := ⟨w.heap.size, 0, none⟩) (by simp)).trans x1
      have y2 := (hb1.cell (p := ⟨w.heap.size, 1, none⟩) (by simp)).trans x2
      have hz1 : w.heap.size < w1.heap.size := by have := hb1.size; simp at this; omega
      have L2 := L1.out.up AtomE.stays hb1
      have T2 := T1.out.up hb1
      refine hK_.out _ _ ⟨y1, y2⟩ (fun hS2_ => ?_)
      clear hK_ hS_
      have hS_ := hS2_; clear hS2_
      refine tk 2 (.bool true) hS_ ?_
      refine tk 3 (.agg #[.string nm, .slice B m d]) hS_ ?_
      refine rd1 4 fun K_ hK_ => ?_
      go_simp
      go_at_call 75
      refine (c2 _ T2).mono ?_; rintro e w2 ⟨rfl, hb2⟩
      have z1 := (hb2.cell (p := ⟨w.heap.size, 0, none⟩) (hz1)).trans y1
      have z2 := (hb2.cell (p := ⟨w.heap.size, 1, none⟩) (hz1)).trans y2
      have hz2 : w.heap.size < w2.heap.size := Nat.lt_of_lt_of_le hz1 hb2.size
      have L3 := L2.up AtomE.stays hb2
      have T3 := T2.up hb2
      refine hK_.out _ _ ⟨z1, z2⟩ (fun hS2_ => ?_)
      clear hK_ hS_
      have hS_ := hS2_; clear hS2_
      refine tk 5 (.bool true) hS_ ?_
      refine tk 6 (.bool true) hS_ ?_
      refine tk 7 (.slice A n c) hS_ ?_
      refine tk 9 (.agg #[.string nm, .slice B m d]) hS_ ?_
      refine rd1 8 fun K_ hK_ => ?_
      go_simp
      go_at_call 76
      refine (factList_any A n c _).mono ?_; rintro e w3 ⟨rfl, hb3⟩
      have u1 := (hb3.cell (p := ⟨w.heap.size, 0, none⟩) (hz2)).trans z1
      have u2 := (hb3.cell (p := ⟨w.heap.size, 1, none⟩) (hz2)).trans z2
      have hz3 : w.heap.size < w3.heap.size := Nat.lt_of_lt_of_le hz2 hb3.size
      have L4 := L3.up AtomE.stays hb3
      have T4 := T3.up hb3
      refine hK_.out _ _ ⟨u1, u2⟩ (fun hS2_ => ?_)
      clear hK_ hS_
      have hS_ := hS2_; clear hS2_
      refine rd1 10 fun K_ hK_ => ?_
      go_simp
      go_at_call 77
      refine (has_any A n c xs nm B m d ts _ L4 T4 RR.out hmax).mono ?_; rintro e w4 ⟨rfl, hb4⟩
      have v1 := (hb4.cell (p := ⟨w.heap.size, 0, none⟩) (hz3)).trans u1
      have v2 := (hb4.cell (p := ⟨w.heap.size, 1, none⟩) (hz3)).trans u2
      refine hK_.out _ _ ⟨v1, v2⟩ (fun hS2_ => ?_)
      clear hK_ hS_
      have hS_ := hS2_; clear hS2_
      refine tk 11 (.bool (hasB xs (nm, ts))) hS_ ?_
      refine tk 12 (.bool (hasB xs (nm, ts))) hS_ ?_
      refine wpAnyH_done (by kernel_rfl) ?_ _
      go_wp2
      go_ret; exact ⟨retB E.out.symm, belowThen hwd (belowThen hb1 (belowThen hb2 (belowThen hb3 hb4)))⟩

set_option maxHeartbeats 2000000 in
theorem specFactsHas_any (A : Option Addr) (n c : Nat) (xs : List At) (nm : ByteArray) (B : Option Addr) (m d : Nat) (ts : List Tm) (w : World) (hs : nm.size ≤ maxLen) (h : IsAtoms w 0 w.heap.size A n c xs) (h' : IsTerms w 0 w.heap.size B m d ts) :
    Calls Tryz.prog 32 #[.slice A n c, .agg #[.string nm, .slice B m d]] w (BoolPost (hasFB xs (nm, ts)) w) := by
  have hw0 := below1 w (.cells #[.string nm, .slice B m d] 49)
  have X0 := Lib.hid (Box.new w (.string nm) (.slice B m d) 49)
  have H := Lib.hid h; clear h
  have H' := Lib.hid h'; clear h'
  have c1 : ∀ W : World, IsAtoms W 0 W.heap.size A n c xs → Calls Tryz.prog 33 #[.slice A n c] W (BoolPost (factsB 300 xs) W) := fun W hh => specFactsOk_any A n c xs W hh
  have c2 : ∀ W : World, IsTerms W 0 W.heap.size B m d ts → Calls Tryz.prog 78 #[.agg #[.string nm, .slice B m d]] W (BoolPost (factB (nm, ts)) W) := fun W hh => l3Ground_any nm B m d ts W hs hh
  cases hA : factsB 300 xs
  · rw [hA] at c1
    have E := Lib.hid (show hasFB xs (nm, ts) = false by unfold hasFB; rw [hA]; rfl); clear hA
    go_enter Tryz.func32, Tryz.ntmps32
    go_wp2_with fail
    refine (c1 _ (H.out.up AtomE.stays hw0)).mono ?_; rintro e w1 ⟨rfl, hb1⟩
    go_wp2
    go_ret; exact ⟨retB E.out.symm, belowThen hw0 hb1⟩
  · rw [hA] at c1
    have RR := Lib.hid (factsB_rises hA)
    cases hF : factB (nm, ts)
    · rw [hF] at c2
      have E := Lib.hid (show hasFB xs (nm, ts) = false by unfold hasFB; rw [hA, hF]; rfl); clear hA hF
      go_enter Tryz.func32, Tryz.ntmps32
      go_wp2_with fail
      refine (c1 _ (H.out.up AtomE.stays hw0)).mono ?_; rintro e w1 ⟨rfl, hb1⟩
      have HB1 := belowThen hw0 hb1
      obtain ⟨b0, b1, b2⟩ := X0.out.later hb1
      go_wp2_with fail
      refine (c2 _ (H'.out.up HB1)).mono ?_; rintro e w2 ⟨rfl, hb2⟩
      go_wp2
      go_ret; exact ⟨retB E.out.symm, belowThen HB1 hb2⟩
    · rw [hF] at c2
      have E := Lib.hid (show hasFB xs (nm, ts) = hasB xs (nm, ts) by unfold hasFB; rw [hA, hF]; rfl); clear hA hF
      go_enter Tryz.func32, Tryz.ntmps32
      go_wp2_with fail
      refine (c1 _ (H.out.up AtomE.stays hw0)).mono ?_; rintro e w1 ⟨rfl, hb1⟩
      have HB1 := belowThen hw0 hb1
      obtain ⟨b0, b1, b2⟩ := X0.out.later hb1
      go_wp2_with fail
      refine (c2 _ (H'.out.up HB1)).mono ?_; rintro e w2 ⟨rfl, hb2⟩
      have HB2 := belowThen HB1 hb2
      obtain ⟨g0, g1, g2⟩ := (X0.out.later hb1).later hb2
      clear b0 b1 b2
      go_wp2_with fail
      refine (l3Has_any _ _ _ xs nm B m d ts _ (H.out.up AtomE.stays HB2) (H'.out.up HB2) RR.out).mono ?_; rintro e w3 ⟨rfl, hb3⟩
      go_wp2
      go_ret; exact ⟨retB E.out.symm, belowThen HB2 hb3⟩


theorem matchT_words_eq : ∀ {ts us : List Tm} (b : Bd), (∀ t ∈ ts, t.1 = false) → (∀ u ∈ us, u.1 = false) → ts.length = us.length → matchT ts us b = if ts = us then some b else none
  | [], [], b, _, _, _ => by rw [matchT_nil, if_pos rfl]
  | [], u :: us, b, _, _, h => by simp at h
  | t :: ts, [], b, _, _, h => by simp at h
  | t :: ts, u :: us, b, h1, h2, h3 => by
    have ht := h1 t (by simp)
    have hu := h2 u (by simp)
    have ih := matchT_words_eq (ts := ts) (us := us) b (fun x hx => h1 x (by simp [hx])) (fun x hx => h2 x (by simp [hx])) (by simpa using h3)
    rw [matchT, if_neg (by rw [ht]; simp)]
    have hw : wordT b t = t.2 := by unfold wordT; rw [ht]; simp
    rw [hw]
    by_cases e : t.2 = u.2
    · have : t = u := Prod.ext (ht.trans hu.symm) e
      subst this
      rw [if_pos rfl, ih]
      by_cases e2 : ts = us
      · subst e2; simp
      · rw [if_neg e2, if_neg (by simp [e2])]
    · rw [if_neg e, if_neg (fun h => e (by injection h with h; rw [h]))]

theorem matchA_fact {a f : At} (ha : ∀ t ∈ a.2, t.1 = false) (hf : ∀ t ∈ f.2, t.1 = false) : matchA a f [] = if f = a then some [] else none := by
  unfold matchA
  by_cases h : a.1 = f.1 ∧ a.2.length = f.2.length
  · rw [if_pos h, matchT_words_eq [] ha hf h.2]
    by_cases e : a.2 = f.2
    · rw [if_pos e, if_pos (Prod.ext h.1.symm e.symm)]
    · rw [if_neg e, if_neg (fun x => e (by rw [x]))]
  · rw [if_neg h, if_neg (fun x => h (by rw [x]; exact ⟨rfl, rfl⟩))]

theorem fits_fact {a : At} (ha : ∀ t ∈ a.2, t.1 = false) : ∀ {list : List At}, WordsAll list → list.Nodup → (a ∈ list → (fitsL list a []).length = 1) ∧ (a ∉ list → (fitsL list a []).length = 0)
  | [], _, _ => ⟨fun h => by simp at h, fun _ => rfl⟩
  | f :: l, hl, hn => by
    have ih := fits_fact ha (list := l) (fun x hx => hl x (by simp [hx])) (List.nodup_cons.1 hn).2
    have hm := matchA_fact ha (hl f (by simp))
    unfold fitsL at ih ⊢
    rw [List.filterMap_cons, hm]
    by_cases e : f = a
    · subst e
      rw [if_pos rfl]
      refine ⟨fun _ => ?_, fun h => absurd (by simp) h⟩
      show (_ :: _).length = 1
      rw [List.length_cons, ih.2 (List.nodup_cons.1 hn).1]
    · rw [if_neg e]
      exact ⟨fun h => ih.1 (by rcases List.mem_cons.1 h with h | h; exact absurd h.symm e; exact h), fun h => ih.2 (fun x => h (by simp [x]))⟩

theorem no_vars {ts : List Tm} (h : ∀ t ∈ ts, t.1 = false) : varsOf ts = [] := by
  unfold varsOf
  rw [List.filter_eq_nil_iff.2 (fun t ht => by rw [h t ht]; simp)]; rfl

theorem ask_one {a : At} (hA : atomB a = true) (ha : ∀ t ∈ a.2, t.1 = false) (no : Bool) : askB [(no, a)] = true ∧ askVarsB [(no, a)] = [] := by
  have hv : partsT [] [(no, a)] = [] := by
    rw [partsT_all]; simp [no_vars ha]
  have hm : partsT [] (musts [(no, a)]) = [] := by
    rw [partsT_all]
    cases no <;> simp [musts, no_vars ha]
  have hk : askB [(no, a)] = true := by
    unfold askB
    rw [hv]
    unfold tightB
    rw [show varsT [] (asVars []) = [] from rfl, hv, hm]
    unfold bodyB
    simp [hA]
  exact ⟨hk, by unfold askVarsB; rw [hk, if_pos rfl, hv]⟩

/-- One row if it is there, and none if not; the other way round, if it must not be. -/
theorem ask_fact {list : List At} {a : At} (hf : factsB 300 list = true) (hA : atomB a = true) (ha : ∀ t ∈ a.2, t.1 = false) :
    (askRowsB list [(false, a)]).length = (if hasFB list a = true then 1 else 0) ∧ (askRowsB list [(true, a)]).length = (if hasFB list a = true then 0 else 1) := by
  obtain ⟨_, hw, hnd, _⟩ := facts_ok hf
  have hB : factB a = true := by
    unfold factB wordsB
    rw [hA, Bool.and_true, List.all_eq_true]
    exact fun t ht => by rw [ha t ht]; rfl
  have hH : hasFB list a = hasB list a := by unfold hasFB; rw [hf, hB]; rfl
  have hmem := hasB_words hw ha
  rw [hH]
  have key : ∀ no, (askRowsB list [(no, a)]).length = (rowsB list [(no, a)]).length := fun no => by
    unfold askRowsB
    rw [hf, (ask_one hA ha no).1]
    simp only [Bool.and_self, if_true]
    unfold sortR
    rw [(List.mergeSort_perm _ _).length_eq, List.length_map]
  have hfill : fillA a [] = a := by
    unfold fillA
    refine Prod.ext rfl ?_
    show a.2.map (fillT []) = a.2
    refine (List.map_congr_left fun t ht => ?_).trans (List.map_id _)
    unfold fillT wordT
    rw [ha t ht]
    exact Prod.ext (ha t ht).symm (by simp)
  refine ⟨?_, ?_⟩
  · rw [key]
    have e : rowsB list [(false, a)] = fitsL list a [] := by
      unfold rowsB
      rw [List.filter_eq_self.2 (fun b _ => by unfold okB; simp)]
      unfold allB
      simp [stepB]
    rw [e]
    by_cases h : a ∈ list
    · rw [if_pos (hmem.2 h)]; exact (fits_fact ha hw hnd).1 h
    · rw [if_neg (fun x => h (hmem.1 x))]; exact (fits_fact ha hw hnd).2 h
  · rw [key]
    have e : rowsB list [(true, a)] = if hasB list a = true then [] else [[]] := by
      unfold rowsB allB
      rw [List.foldl_cons, List.foldl_nil]
      unfold stepB
      rw [if_pos rfl]
      unfold okB
      simp only [List.all_cons, List.all_nil, Bool.and_true, Bool.true_and, List.filter_cons, List.filter_nil, hfill]
      cases hasB list a <;> rfl
    rw [e]
    cases hasB list a <;> rfl

theorem drawFactsHas_any (A : Option Addr) (n c : Nat) (w : World) (h : IsBytes w w.heap.size A n c) :
    Calls Tryz.prog 30 #[.slice A n c] w (FactsAnd w) := by
  have X0 := Bx.new w (.string ⟨#[]⟩) (.slice none 0 0) 49
  go_enter Tryz.func30, Tryz.ntmps30
  go_wp2_with fail
  refine (drawFactsAdd_any A n c _ (h.up (below1 w _))).mono ?_; rintro e w1 ⟨L, k, d, xs, nm, B, m, d', ts, ⟨rfl, hk, hnm⟩, hI, hT, hb1⟩
  have hbw := belowThen (below1 w _) hb1
  have X1 := X0.later hb1
  obtain ⟨x1, x2, x3, x4, x5⟩ := X1
  have HI := Lib.hid hI; have HT := Lib.hid hT; have HB := Lib.hid hbw
  clear hI hT hbw hb1
  go_wp2
  refine bodyPost_ret (v := .tuple #[.slice L k d, .agg #[.string nm, .slice B m d']]) (by simp [results, Tryz.results30, go_sem, x2, x3]) rfl ?_
  exact ⟨_, k, d, xs, nm, B, m, d', _, ⟨rfl, hk, hnm⟩, atoms_two HI.out (by simp) (by simp), terms_two HT.out (by simp) (by simp), below_two HB.out (by omega)⟩

/-- A row of one part. -/
theorem one_part (W : World) (no : Bool) (nm : ByteArray) (B : Option Addr) (m d : Nat) (ts : List Tm) (hnm : nm.size ≤ maxLen) (h : IsTerms W 0 W.heap.size B m d ts) :
    IsParts (W.alloc (.cells #[.bool no, .string nm, .slice B m d] 52)) 0 (W.alloc (.cells #[.bool no, .string nm, .slice B m d] 52)).heap.size (some ⟨W.heap.size, 0, none⟩) 1 1 [(no, (nm, ts))] := by
  have X := Blk.new W 52 #[.bool no, .string nm, .slice B m d]
  have hb := below1 W (.cells #[.bool no, .string nm, .slice B m d] 52)
  have hT := h.up hb
  have hlt := X.lt
  generalize W.alloc (.cells #[.bool no, .string nm, .slice B m d] 52) = W' at *
  refine ⟨rfl, Nat.le_refl _, by unfold maxLen; omega, fun _ => ⟨_, rfl, Nat.zero_le _, hlt, fun i x hx => ?_⟩⟩
  have hi : i = 0 := by have := (List.getElem?_eq_some_iff.1 hx).1; simp at this; exact this
  subst hi
  have hx' : (no, (nm, ts)) = x := by simpa using hx
  subst hx'
  exact ⟨X.cell 0, X.cell 1, hnm, B, m, d, X.cell 2, hT⟩

set_option maxRecDepth 100000 in
set_option maxHeartbeats 8000000 in
theorem askFactLaw_any (A : Option Addr) (n c : Nat) (w : World) (h : IsBytes w w.heap.size A n c) :
    Calls Tryz.prog 7 #[.slice A n c] w (BoolPost true w) := by
  have hn : n ≤ maxLen := by have := h.1; have := h.2.1; omega
  unfold maxLen at hn
  have H := Lib.hid h; clear h
  go_enter Tryz.func7, Tryz.ntmps7
  go_wp2_with fail
  all_goals try (go_ret; exact ⟨rfl, Below.refl _ _⟩)
  refine (drawFactsHas_any A n c w H.out).mono ?_; rintro e w1 ⟨L, k, d, xs, nm, B, m, d', ts, ⟨rfl, hk, hnm⟩, hI, hT, hb1⟩
  have HP := below1 w1 (.cells #[.string nm, .slice B m d'] 49)
  have X0 := Bx.new w1 (.string nm) (.slice B m d') 49
  obtain ⟨W0, hW0⟩ : ∃ W0, w1.alloc (.cells #[.string nm, .slice B m d'] 49) = W0 := ⟨_, rfl⟩
  rw [hW0] at HP X0
  have HI0 := Lib.hid (hI.low.up AtomE.stays HP); have HT0 := Lib.hid (hT.low.up HP); have XB0 := Lib.hid X0; have HW0 := Lib.hid (belowThen hb1 HP)
  obtain ⟨x, hx⟩ : ∃ x, w1.heap.size = x := ⟨_, rfl⟩
  rw [hx] at X0
  have hm : m ≤ maxLen := by have := hT.2.1; have := hT.2.2.1; omega
  unfold maxLen at hm
  obtain ⟨hh, hhh⟩ : ∃ hh, hasFB xs (nm, ts) = hh := ⟨_, rfl⟩
  have HH := Lib.hid hhh
  have HLT := Lib.hid hT.1
  clear hI hT hb1 HP hhh
  obtain ⟨_, y0, y1, _, _⟩ := X0
  rw [← hx] at y0 y1
  clear hx
  go_wp2_with fail
  clear y0 y1
  refine (implFactsHas_any L k d xs nm B m d' ts W0 hnm HI0.out HT0.out).mono ?_; rintro e w2 ⟨rfl, hb⟩
  rw [HH.out]
  have HI2 := Lib.hid (HI0.out.up AtomE.stays hb); have HT2 := Lib.hid (HT0.out.up hb); have XB2 := Lib.hid (XB0.out.later hb); have HW2 := Lib.hid (belowThen HW0.out hb)
  clear HI0 HT0 HW0 hb hW0 XB0
  obtain ⟨_, y0, y1, _, _⟩ := XB2.out
  go_wp2_with fail
  clear y0 y1
  refine (specFactsHas_any L k d xs nm B m d' ts w2 hnm HI2.out HT2.out).mono ?_; rintro e w3 ⟨rfl, hb⟩
  rw [HH.out]
  have HI3 := Lib.hid (HI2.out.up AtomE.stays hb); have HT3 := Lib.hid (HT2.out.up hb); have XB3 := Lib.hid (XB2.out.later hb); have HW3 := Lib.hid (belowThen HW2.out hb)
  clear HI2 HT2 HW2 hb XB2
  have hne : (hh != hh) = false := by simp
  have heq : (hh == hh) = true := by simp
  have END : ∀ W : World, Below w.heap.size w W → BoolPost true w (.returned (.bool true)) W := fun W hW => ⟨rfl, hW⟩
  have HEND := Lib.hid END; clear END
  obtain ⟨F, hF⟩ : ∃ F, factsB 300 xs = F := ⟨_, rfl⟩
  have HF := Lib.hid hF; clear hF
  cases F
  · go_wp2_with fail
    refine (specFactsOk_any L k d xs w3 HI3.out).mono ?_; rintro e w4 ⟨rfl, hb4⟩
    rw [HF.out]
    obtain ⟨_, z0, z1, _, _⟩ := XB3.out.later hb4
    go_wp2_with fail
    refine (specFactsHas_any L k d xs nm B m d' ts w4 hnm (HI3.out.up AtomE.stays hb4) (HT3.out.up hb4)).mono ?_; rintro e w5 ⟨rfl, hb5⟩
    rw [HH.out]
    go_wp2
    go_ret; exact HEND.out _ (belowThen (belowThen HW3.out hb4) hb5)
  · go_wp2_with fail
    refine (specFactsOk_any L k d xs w3 HI3.out).mono ?_; rintro e w4 ⟨rfl, hb4⟩
    rw [HF.out]
    have HI4 := Lib.hid (HI3.out.up AtomE.stays hb4); have HT4 := Lib.hid (HT3.out.up hb4); have XB4 := Lib.hid (XB3.out.later hb4); have HW4 := Lib.hid (belowThen HW3.out hb4)
    clear HI3 HT3 HW3 hb4 XB3
    obtain ⟨_, z0, z1, _, _⟩ := XB4.out
    obtain ⟨G, hG⟩ : ∃ G, atomB (nm, ts) = G := ⟨_, rfl⟩
    have HG := Lib.hid hG; clear hG
    cases G
    · go_wp2_with fail
      clear z0 z1
      refine (specAtomOk_any nm B m d' ts w4 hnm HT4.out).mono ?_; rintro e w5 ⟨rfl, hb5⟩
      rw [HG.out]
      obtain ⟨_, z0, z1, _, _⟩ := XB4.out.later hb5
      go_wp2_with fail
      clear z0 z1
      refine (specFactsHas_any L k d xs nm B m d' ts w5 hnm (HI4.out.up AtomE.stays hb5) (HT4.out.up hb5)).mono ?_; rintro e w6 ⟨rfl, hb6⟩
      rw [HH.out]
      go_wp2
      go_ret; exact HEND.out _ (belowThen (belowThen HW4.out hb5) hb6)
    · go_wp2_with fail
      clear z0 z1
      refine (specAtomOk_any nm B m d' ts w4 hnm HT4.out).mono ?_; rintro e w5 ⟨rfl, hb5⟩
      rw [HG.out]
      have HI5 := Lib.hid (HI4.out.up AtomE.stays hb5); have HT5 := Lib.hid (HT4.out.up hb5); have XB5 := Lib.hid (XB4.out.later hb5); have HW5 := Lib.hid (belowThen HW4.out hb5)
      clear HI4 HT4 HW4 hb5 XB4
      go_wp2
      go_loopw [6] (fun i wr => ∃ j : Nat, j ≤ m ∧ i = .int .i64 (j : Int) ∧ (∀ t ∈ ts.take j, t.1 = false) ∧ Below w5.heap.size w5 wr) (fun i _ => m - (intOf i).toNat)
      case atStart => exact ⟨0, Nat.zero_le _, rfl, fun t ht => by simp at ht, Below.refl _ _⟩
      case round =>
        obtain ⟨j, hj, rfl, hq, hb⟩ := hrel
        have HQ := Lib.hid hq; have HB := Lib.hid hb
        clear hq hb
        obtain ⟨_, z0, z1, _, _⟩ := XB5.out.later HB.out
        by_cases hlt : j < m
        · have hltI : (j : Int) < (m : Int) := by omega
          obtain ⟨p, t, hA, hlo, hhi, hg, c1, c2, c3⟩ := (HT5.out.up HB.out).at_ hlt
          subst hA
          have HGG := Lib.hid hg; clear hg
          obtain ⟨tv, tn⟩ := t
          cases tv
          · go_wp2
            go_roundw
            case rel => exact ⟨j + 1, by omega, by go_num, all_snoc HGG.out HQ.out rfl, HB.out⟩
            case measure => simp [intOf]; omega
          · go_wp2
            go_ret; exact HEND.out _ (belowThen HW5.out HB.out)
        · have hz : ∀ t ∈ ts, t.1 = false := by
            have h := HQ.out
            rwa [List.take_of_length_le (by have := HLT.out; omega)] at h
          obtain ⟨e1, e2⟩ := ask_fact HF.out HG.out hz
          rw [HH.out] at e1 e2
          obtain ⟨n6, hn6⟩ : ∃ n6, (askRowsB xs [(false, (nm, ts))]).length = n6 := ⟨_, rfl⟩
          obtain ⟨n7, hn7⟩ : ∃ n7, (askRowsB xs [(true, (nm, ts))]).length = n7 := ⟨_, rfl⟩
          rw [hn6] at e1
          rw [hn7] at e2
          have HN6 := Lib.hid hn6; have HN7 := Lib.hid hn7; have HE1 := Lib.hid e1; have HE2 := Lib.hid e2
          clear hn6 hn7 e1 e2 hz
          have HIr := Lib.hid (HI5.out.up AtomE.stays HB.out); have HTr := Lib.hid (HT5.out.up HB.out); have XBr := Lib.hid (XB5.out.later HB.out); have HWr := Lib.hid (belowThen HW5.out HB.out)
          clear HI5 HT5 XB5 HW5
          go_wp2_with fail
          clear z0 z1
          have hbp := below1 wr (.cells #[.bool false, .string nm, .slice B m d'] 52)
          refine (implAsk_any L k d xs _ 1 1 _ _ (HIr.out.up AtomE.stays hbp) (one_part wr false nm B m d' ts hnm HTr.out)).mono ?_; rintro e w6 ⟨v, rs, rfl, hown, _, hb6⟩
          obtain ⟨A6, c6, rfl, _, _⟩ := ownsRow_form hown
          rw [HN6.out]
          have hb6' := belowThen hbp hb6
          have HI6 := Lib.hid (HIr.out.up AtomE.stays hb6'); have HT6 := Lib.hid (HTr.out.up hb6'); have XB6 := Lib.hid (XBr.out.later hb6'); have HW6 := Lib.hid (belowThen HWr.out hb6')
          clear hown hb6 hbp hb6' HIr HTr XBr HWr
          obtain ⟨_, z0, z1, _, _⟩ := XB6.out
          go_wp2_with fail
          clear z0 z1
          have hbp := below1 w6 (.cells #[.bool true, .string nm, .slice B m d'] 52)
          refine (implAsk_any L k d xs _ 1 1 _ _ (HI6.out.up AtomE.stays hbp) (one_part w6 true nm B m d' ts hnm HT6.out)).mono ?_; rintro e w7 ⟨v, rs, rfl, hown, _, hb7⟩
          obtain ⟨A7, c7, rfl, _, _⟩ := ownsRow_form hown
          rw [HN7.out]
          have HW7 := Lib.hid (belowThen HW6.out (belowThen hbp hb7))
          clear hown hb7 hbp HI6 HT6 XB6 HW6
          have e1 := HE1.out; have e2 := HE2.out
          clear HE1 HE2 HN6 HN7 HH HF HG
          cases hh
          · simp only [Bool.false_eq_true, if_false] at e1 e2
            subst e1 e2
            go_wp2
            go_ret; exact HEND.out _ HW7.out
          · simp only [if_true] at e1 e2
            subst e1 e2
            go_wp2
            go_ret; exact HEND.out _ HW7.out
end Go.Proofs.YtcigljngiemdeaaGreat
