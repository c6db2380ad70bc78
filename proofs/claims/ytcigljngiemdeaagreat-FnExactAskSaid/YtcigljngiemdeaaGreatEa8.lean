/-
  Texts of one claim, put together.
-/
import Derived.Test.YtcigljngiemdeaaGreatEa4
import Derived.Test.YtcigljngiemdeaaGreatEa3
import Derived.Test.YtcigljngiemdeaaGreatEa0
namespace Go.Proofs.YtcigljngiemdeaaGreat
open Go.RowKit

/-- The place at which one stands, or would stand; and whether it is there. -/
def AtPost (xs : List At) (a : At) (n : Nat) (w : World) (e : Ending) (w' : World) : Prop :=
  ∃ k : Nat, (e = .returned (.tuple #[.int .i64 (k : Int), .bool (hasB xs a)]) ∧ k ≤ n ∧ (∀ j y, j < k → xs[j]? = some y → atomCmp y a < 0) ∧ (∀ y, xs[k]? = some y → 0 ≤ atomCmp y a)) ∧ Below w.heap.size w w'

set_option maxHeartbeats 2000000 in
theorem l3At_any (A : Option Addr) (n c : Nat) (xs : List At) (nm : ByteArray) (B : Option Addr) (m d : Nat) (ts : List Tm) (w : World) (h : IsAtoms w 0 w.heap.size A n c xs) (h' : IsTerms w 0 w.heap.size B m d ts) (hr : risesB xs = true) :
    Calls Tryz.prog 122 #[.slice A n c, .agg #[.string nm, .slice B m d]] w (AtPost xs (nm, ts) n w) := by
  have hn := h.len
  unfold maxLen at hn
  have L := Lib.hid h.1
  have H := Lib.hid h; clear h
  have H' := Lib.hid h'; clear h'
  have RR := Lib.hid hr; clear hr
  have hw0 := below1 w (.cells #[.string nm, .slice B m d] 49)
  have X0 := Lib.hid (Box.new w (.string nm) (.slice B m d) 49)
  go_enter Tryz.func122, Tryz.ntmps122
  go_wp2
  go_loopw [6] (fun i wr => ∃ k : Nat, k ≤ n ∧ i = .int .i64 k ∧ (∀ j y, j < k → xs[j]? = some y → atomCmp y (nm, ts) < 0) ∧ Below (w.alloc (.cells #[.string nm, .slice B m d] 49)).heap.size (w.alloc (.cells #[.string nm, .slice B m d] 49)) wr) (fun i _ => n - (intOf i).toNat)
  case atStart => exact ⟨0, Nat.zero_le _, rfl, fun j y hj => absurd hj (Nat.not_lt_zero _), Below.refl _ _⟩
  case round =>
    obtain ⟨k, hk, rfl, hl, hb⟩ := hrel
    have HL := Lib.hid hl; clear hl
    have HB := belowThen hw0 hb
    obtain ⟨b0, b1, b2⟩ := X0.out.later hb
    have e1 : wr.drew.cell? ⟨w.heap.size, 0, none⟩ = some (.string nm) := b1
    have e2 : wr.drew.cell? ⟨w.heap.size, 1, none⟩ = some (.slice B m d) := b2
    have hbd := hb.drew
    have HU := Lib.hid (show IsTerms wr.drew 0 wr.drew.heap.size B m d ts from (H'.out.up HB).keep (fun _ _ _ => rfl) (Nat.le_refl _) (Nat.le_refl _))
    by_cases hlt : k < n
    · obtain ⟨p, q, hA, hlo, hhi, hg, hE⟩ := (H.out.below AtomE.stays HB (Nat.le_refl _)).at_ hlt
      obtain ⟨A', n', c', d1, d3, d4, d5⟩ := hE.out
      clear hE
      have hpb : p.block < wr.heap.size := Nat.lt_of_lt_of_le hhi HB.size
      subst hA
      have HG := Lib.hid hg; clear hg
      have HT := Lib.hid (d5.keep (w' := wr.drew) (lo' := 0) (hi' := wr.drew.heap.size) (fun _ _ _ => rfl) (Nat.le_refl _) HB.size); clear d5
      have x1 : wr.drew.cell? (p.add (k * 2)) = some (.string q.1) := d1
      have x2 : wr.drew.cell? ⟨(p.add (k * 2)).block, (p.add (k * 2)).off + 1, none⟩ = some (.slice A' n' c') := d4
      by_cases hc : atomCmp q (nm, ts) < 0
      · have hc' : atomCmp (q.1, q.2) (nm, ts) < 0 := hc
        have E := Lib.hid (low_snoc HL.out HG.out hc); clear hc
        go_wp2_with fail
        refine wp_region_held_drew (S := fun W => (W.cell? ⟨w.heap.size, 0, none⟩ = some (.string nm) ∧ W.cell? ⟨w.heap.size, 1, none⟩ = some (.slice B m d)) ∧ W.cell? (p.add (k * 2)) = some (.string q.1) ∧ W.cell? ⟨(p.add (k * 2)).block, (p.add (k * 2)).off + 1, none⟩ = some (.slice A' n' c')) (by kernel_rfl) ⟨⟨e1, e2⟩, x1, x2⟩ ?_
        intro hS_
        refine tk 0 (.int .i64 (k : Int)) hS_ ?_
        refine tk 1 (.slice (some p) n c) hS_ ?_
        refine tk 2 (.int .i64 (n : Int)) hS_ ?_
        refine tk 3 (.bool true) hS_ ?_
        refine tk 4 (.bool true) hS_ ?_
        refine tk 5 (.slice (some p) n c) hS_ ?_
        refine tk 6 (.int .i64 (k : Int)) hS_ ?_
        refine tk 7 (.pointer (some (p.add (k * 2)))) hS_ ?_
        refine tk 8 (.agg #[.string q.1, .slice A' n' c']) hS_ ?_
        refine tk 9 (.agg #[.string nm, .slice B m d]) hS_ ?_
        refine rd1 10 fun K_ hK_ => ?_
        go_simp
        go_at_call 123
        refine (l1Cmp_any q.1 nm A' B n' c' m d q.2 ts _ HT.out HU.out).mono ?_; rintro e w1 ⟨rfl, hb1⟩
        have y1 := (hb1.cell (p := ⟨w.heap.size, 0, none⟩) (b0)).trans b1
        have y2 := (hb1.cell (p := ⟨w.heap.size, 1, none⟩) (b0)).trans b2
        have y3 := (hb1.cell (p := p.add (k * 2)) (by rw [block_add]; exact hpb)).trans d1
        have y4 := (hb1.cell (p := ⟨(p.add (k * 2)).block, (p.add (k * 2)).off + 1, none⟩) (by rw [block_add]; exact hpb)).trans d4
        refine hK_.out _ _ ⟨⟨y1, y2⟩, y3, y4⟩ (fun hS2_ => ?_)
        clear hK_ hS_
        have hS_ := hS2_; clear hS2_
        refine tk 11 (.bool true) hS_ ?_
        refine tk 12 (.bool true) hS_ ?_
        refine wpAnyH_done (by kernel_rfl) ?_ _
        go_wp2
        go_roundw
        case rel => exact ⟨k + 1, by omega, by go_num, E.out, belowThen hbd hb1⟩
        case measure => simp [intOf]; omega
      · have hc' : ¬ atomCmp (q.1, q.2) (nm, ts) < 0 := hc
        have E := Lib.hid (hasB_at RR.out HL.out HG.out (Int.not_lt.1 hc))
        have EC := Lib.hid hc; clear hc
        go_wp2_with fail
        refine wp_region_held_drew (S := fun W => (W.cell? ⟨w.heap.size, 0, none⟩ = some (.string nm) ∧ W.cell? ⟨w.heap.size, 1, none⟩ = some (.slice B m d)) ∧ W.cell? (p.add (k * 2)) = some (.string q.1) ∧ W.cell? ⟨(p.add (k * 2)).block, (p.add (k * 2)).off + 1, none⟩ = some (.slice A' n' c')) (by kernel_rfl) ⟨⟨e1, e2⟩, x1, x2⟩ ?_
        intro hS_
        refine tk 0 (.int .i64 (k : Int)) hS_ ?_
        refine tk 1 (.slice (some p) n c) hS_ ?_
        refine tk 2 (.int .i64 (n : Int)) hS_ ?_
        refine tk 3 (.bool true) hS_ ?_
        refine tk 4 (.bool true) hS_ ?_
        refine tk 5 (.slice (some p) n c) hS_ ?_
        refine tk 6 (.int .i64 (k : Int)) hS_ ?_
        refine tk 7 (.pointer (some (p.add (k * 2)))) hS_ ?_
        refine tk 8 (.agg #[.string q.1, .slice A' n' c']) hS_ ?_
        refine tk 9 (.agg #[.string nm, .slice B m d]) hS_ ?_
        refine rd1 10 fun K_ hK_ => ?_
        go_simp
        go_at_call 123
        refine (l1Cmp_any q.1 nm A' B n' c' m d q.2 ts _ HT.out HU.out).mono ?_; rintro e w1 ⟨rfl, hb1⟩
        have y1 := (hb1.cell (p := ⟨w.heap.size, 0, none⟩) (b0)).trans b1
        have y2 := (hb1.cell (p := ⟨w.heap.size, 1, none⟩) (b0)).trans b2
        have y3 := (hb1.cell (p := p.add (k * 2)) (by rw [block_add]; exact hpb)).trans d1
        have y4 := (hb1.cell (p := ⟨(p.add (k * 2)).block, (p.add (k * 2)).off + 1, none⟩) (by rw [block_add]; exact hpb)).trans d4
        refine hK_.out _ _ ⟨⟨y1, y2⟩, y3, y4⟩ (fun hS2_ => ?_)
        clear hK_ hS_
        have hS_ := hS2_; clear hS2_
        refine tk 11 (.bool false) hS_ ?_
        refine tk 12 (.bool false) hS_ ?_
        refine wpAnyH_done (by kernel_rfl) ?_ _
        have HT2 := Lib.hid (show IsTerms w1.drew 0 w1.drew.heap.size A' n' c' q.2 from (HT.out.up hb1).keep (fun _ _ _ => rfl) (Nat.le_refl _) (Nat.le_refl _))
        have HU2 := Lib.hid (show IsTerms w1.drew 0 w1.drew.heap.size B m d ts from (HU.out.up hb1).keep (fun _ _ _ => rfl) (Nat.le_refl _) (Nat.le_refl _))
        clear x1 x2 e1 e2
        by_cases hz : atomCmp q (nm, ts) = 0
        · have hz' : atomCmp (q.1, q.2) (nm, ts) = 0 := hz
          have EB := Lib.hid (show hasB xs (nm, ts) = true by rw [E.out, decide_eq_true hz]); clear hz hc'
          go_wp2_with fail
          refine wp_region_held_drew (S := fun W => (W.cell? ⟨w.heap.size, 0, none⟩ = some (.string nm) ∧ W.cell? ⟨w.heap.size, 1, none⟩ = some (.slice B m d)) ∧ W.cell? (p.add (k * 2)) = some (.string q.1) ∧ W.cell? ⟨(p.add (k * 2)).block, (p.add (k * 2)).off + 1, none⟩ = some (.slice A' n' c')) (by kernel_rfl) ⟨⟨y1, y2⟩, y3, y4⟩ ?_
          intro hS_
          refine tk 0 (.int .i64 (k : Int)) hS_ ?_
          refine tk 1 (.int .i64 (k : Int)) hS_ ?_
          refine tk 2 (.slice (some p) n c) hS_ ?_
          refine tk 3 (.int .i64 (n : Int)) hS_ ?_
          refine tk 4 (.bool true) hS_ ?_
          refine tk 5 (.bool true) hS_ ?_
          refine tk 6 (.slice (some p) n c) hS_ ?_
          refine tk 7 (.int .i64 (k : Int)) hS_ ?_
          refine tk 8 (.pointer (some (p.add (k * 2)))) hS_ ?_
          refine tk 9 (.agg #[.string q.1, .slice A' n' c']) hS_ ?_
          refine tk 10 (.agg #[.string nm, .slice B m d]) hS_ ?_
          refine rd1 11 fun K_ hK_ => ?_
          go_simp
          go_at_call 123
          refine (l1Cmp_any q.1 nm A' B n' c' m d q.2 ts _ HT2.out HU2.out).mono ?_; rintro e w2 ⟨rfl, hb2⟩
          have z1 := (hb2.cell (p := ⟨w.heap.size, 0, none⟩) (Nat.lt_of_lt_of_le b0 hb1.size)).trans y1
          have z2 := (hb2.cell (p := ⟨w.heap.size, 1, none⟩) (Nat.lt_of_lt_of_le b0 hb1.size)).trans y2
          have z3 := (hb2.cell (p := p.add (k * 2)) (by rw [block_add]; exact Nat.lt_of_lt_of_le hpb hb1.size)).trans y3
          have z4 := (hb2.cell (p := ⟨(p.add (k * 2)).block, (p.add (k * 2)).off + 1, none⟩) (by rw [block_add]; exact Nat.lt_of_lt_of_le hpb hb1.size)).trans y4
          refine hK_.out _ _ ⟨⟨z1, z2⟩, z3, z4⟩ (fun hS2_ => ?_)
          clear hK_ hS_
          have hS_ := hS2_; clear hS2_
          refine tk 12 (.bool true) hS_ ?_
          refine tk 13 (.bool true) hS_ ?_
          refine tk 14 (.int .i64 (k : Int)) hS_ ?_
          refine tk 15 (.bool true) hS_ ?_
          refine wpAnyH_done (by kernel_rfl) ?_ _
          go_wp2
          go_ret2; exact ⟨k, ⟨by rw [EB.out]; rfl, hk, HL.out, fun y hy => by have := HG.out; rw [this] at hy; injection hy with hy; subst hy; have := EC.out; omega⟩, belowThen hw0 (belowThen hbd (belowThen hb1 (undrew hb2)))⟩
        · have hz' : ¬ atomCmp (q.1, q.2) (nm, ts) = 0 := hz
          have EB := Lib.hid (show hasB xs (nm, ts) = false by rw [E.out, decide_eq_false hz]); clear hz hc'
          go_wp2_with fail
          refine wp_region_held_drew (S := fun W => (W.cell? ⟨w.heap.size, 0, none⟩ = some (.string nm) ∧ W.cell? ⟨w.heap.size, 1, none⟩ = some (.slice B m d)) ∧ W.cell? (p.add (k * 2)) = some (.string q.1) ∧ W.cell? ⟨(p.add (k * 2)).block, (p.add (k * 2)).off + 1, none⟩ = some (.slice A' n' c')) (by kernel_rfl) ⟨⟨y1, y2⟩, y3, y4⟩ ?_
          intro hS_
          refine tk 0 (.int .i64 (k : Int)) hS_ ?_
          refine tk 1 (.int .i64 (k : Int)) hS_ ?_
          refine tk 2 (.slice (some p) n c) hS_ ?_
          refine tk 3 (.int .i64 (n : Int)) hS_ ?_
          refine tk 4 (.bool true) hS_ ?_
          refine tk 5 (.bool true) hS_ ?_
          refine tk 6 (.slice (some p) n c) hS_ ?_
          refine tk 7 (.int .i64 (k : Int)) hS_ ?_
          refine tk 8 (.pointer (some (p.add (k * 2)))) hS_ ?_
          refine tk 9 (.agg #[.string q.1, .slice A' n' c']) hS_ ?_
          refine tk 10 (.agg #[.string nm, .slice B m d]) hS_ ?_
          refine rd1 11 fun K_ hK_ => ?_
          go_simp
          go_at_call 123
          refine (l1Cmp_any q.1 nm A' B n' c' m d q.2 ts _ HT2.out HU2.out).mono ?_; rintro e w2 ⟨rfl, hb2⟩
          have z1 := (hb2.cell (p := ⟨w.heap.size, 0, none⟩) (Nat.lt_of_lt_of_le b0 hb1.size)).trans y1
          have z2 := (hb2.cell (p := ⟨w.heap.size, 1, none⟩) (Nat.lt_of_lt_of_le b0 hb1.size)).trans y2
          have z3 := (hb2.cell (p := p.add (k * 2)) (by rw [block_add]; exact Nat.lt_of_lt_of_le hpb hb1.size)).trans y3
          have z4 := (hb2.cell (p := ⟨(p.add (k * 2)).block, (p.add (k * 2)).off + 1, none⟩) (by rw [block_add]; exact Nat.lt_of_lt_of_le hpb hb1.size)).trans y4
          refine hK_.out _ _ ⟨⟨z1, z2⟩, z3, z4⟩ (fun hS2_ => ?_)
          clear hK_ hS_
          have hS_ := hS2_; clear hS2_
          refine tk 12 (.bool false) hS_ ?_
          refine tk 13 (.bool false) hS_ ?_
          refine tk 14 (.int .i64 (k : Int)) hS_ ?_
          refine tk 15 (.bool false) hS_ ?_
          refine wpAnyH_done (by kernel_rfl) ?_ _
          go_wp2
          go_ret2; exact ⟨k, ⟨by rw [EB.out]; rfl, hk, HL.out, fun y hy => by have := HG.out; rw [this] at hy; injection hy with hy; subst hy; have := EC.out; omega⟩, belowThen hw0 (belowThen hbd (belowThen hb1 (undrew hb2)))⟩
    · have E := Lib.hid (hasB_end L.out HL.out hlt)
      have E2 := Lib.hid (show ∀ y, xs[k]? = some y → 0 ≤ atomCmp y (nm, ts) from fun y hy => absurd (List.getElem?_eq_some_iff.1 hy).1 (by have := L.out; omega))
      go_wp2_with fail
      refine wp_region_held_drew (S := fun W => (W.cell? ⟨w.heap.size, 0, none⟩ = some (.string nm) ∧ W.cell? ⟨w.heap.size, 1, none⟩ = some (.slice B m d))) (by kernel_rfl) ⟨e1, e2⟩ ?_
      intro hS_
      refine tk 0 (.int .i64 (k : Int)) hS_ ?_
      refine tk 1 (.slice A n c) hS_ ?_
      refine tk 2 (.int .i64 (n : Int)) hS_ ?_
      refine tk 3 (.bool false) hS_ ?_
      refine tk 4 (.bool false) hS_ ?_
      refine sk 5 hS_ ?_
      refine sk 6 hS_ ?_
      refine sk 7 hS_ ?_
      refine sk 8 hS_ ?_
      refine sk 9 hS_ ?_
      refine sk 10 hS_ ?_
      refine sk 11 hS_ ?_
      refine tk 12 (.bool false) hS_ ?_
      refine wpAnyH_done (by kernel_rfl) ?_ _
      have hbd2 := hbd.drew
      clear e1 e2
      have e1 : wr.drew.drew.cell? ⟨w.heap.size, 0, none⟩ = some (.string nm) := b1
      have e2 : wr.drew.drew.cell? ⟨w.heap.size, 1, none⟩ = some (.slice B m d) := b2
      go_wp2_with fail
      refine wp_region_held_drew (S := fun W => (W.cell? ⟨w.heap.size, 0, none⟩ = some (.string nm) ∧ W.cell? ⟨w.heap.size, 1, none⟩ = some (.slice B m d))) (by kernel_rfl) ⟨e1, e2⟩ ?_
      intro hS_
      refine tk 0 (.int .i64 (k : Int)) hS_ ?_
      refine tk 1 (.int .i64 (k : Int)) hS_ ?_
      refine tk 2 (.slice A n c) hS_ ?_
      refine tk 3 (.int .i64 (n : Int)) hS_ ?_
      refine tk 4 (.bool false) hS_ ?_
      refine tk 5 (.bool false) hS_ ?_
      refine sk 6 hS_ ?_
      refine sk 7 hS_ ?_
      refine sk 8 hS_ ?_
      refine sk 9 hS_ ?_
      refine sk 10 hS_ ?_
      refine sk 11 hS_ ?_
      refine sk 12 hS_ ?_
      refine tk 13 (.bool false) hS_ ?_
      refine tk 14 (.int .i64 (k : Int)) hS_ ?_
      refine tk 15 (.bool false) hS_ ?_
      refine wpAnyH_done (by kernel_rfl) ?_ _
      go_wp2
      go_ret2; exact ⟨k, ⟨by rw [E.out]; rfl, hk, HL.out, E2.out⟩, belowThen hw0 hbd2⟩


theorem factsB_rises {m : Nat} {xs : List At} (h : factsB m xs = true) : risesB xs = true := by
  unfold factsB at h
  simp only [Bool.and_eq_true] at h
  exact h.1.2

theorem factsB_len {m : Nat} {xs : List At} (h : factsB m xs = true) : xs.length ≤ m := by
  unfold factsB at h
  simp only [Bool.and_eq_true, decide_eq_true_eq] at h
  exact h.2

set_option maxHeartbeats 1000000 in
theorem l3Has_any (A : Option Addr) (n c : Nat) (xs : List At) (nm : ByteArray) (B : Option Addr) (m d : Nat) (ts : List Tm) (w : World) (h : IsAtoms w 0 w.heap.size A n c xs) (h' : IsTerms w 0 w.heap.size B m d ts) (hr : risesB xs = true) :
    Calls Tryz.prog 79 #[.slice A n c, .agg #[.string nm, .slice B m d]] w (BoolPost (hasB xs (nm, ts)) w) := by
  have H := Lib.hid h; clear h
  have H' := Lib.hid h'; clear h'
  have hw0 := below1 w (.cells #[.string nm, .slice B m d] 49)
  go_enter Tryz.func79, Tryz.ntmps79
  go_wp2_with fail
  refine (l3At_any _ _ _ xs nm B m d ts _ (H.out.up AtomE.stays hw0) (H'.out.up hw0) hr).mono ?_; rintro e w1 ⟨k, ⟨rfl, _, _, _⟩, hb1⟩
  go_wp2
  go_ret; exact ⟨rfl, belowThen hw0 hb1⟩

end Go.Proofs.YtcigljngiemdeaaGreat

namespace Go.Proofs.YtcigljngiemdeaaGreat

theorem hasB_cons (b : At) (l : List At) (a : At) : hasB (b :: l) a = (decide (atomCmp b a = 0) || hasB l a) := by
  unfold hasB; rw [List.any_cons]

theorem hasB_nil (a : At) : hasB [] a = false := rfl

theorem cmp_swap {a b : At} (h : atomCmp a b < 0) : 0 < atomCmp b a := by have := atomCmp_anti a b; omega

/-- All of a list in order stand behind what its first one stands behind. -/
theorem hasB_low {b : At} {l : List At} (hr : risesB (b :: l) = true) {a : At} (h : atomCmp a b < 0) : hasB (b :: l) a = false := by
  unfold hasB
  rw [List.any_eq_false]
  intro y hy
  simp only [decide_eq_true_eq]
  have h1 : 0 < atomCmp y a := by
    rcases List.mem_cons.1 hy with rfl | hy
    · exact cmp_swap h
    · exact cmp_swap (atomCmp_strict h (by have := rises_head hr y hy; omega))
  omega

/-- One that stands ahead of all is none of them. -/
theorem hasB_skip {b : At} {l : List At} {a : At} (h : atomCmp b a < 0) : hasB (b :: l) a = hasB l a := by
  rw [hasB_cons, decide_eq_false (by omega), Bool.false_or]

theorem sel_first : ∀ ra rb : List Rf, risesB (ra.map rAt) = true → risesB (rb.map rAt) = true →
    selR 0 (mergeR ra rb) = ra.filter (fun r => !hasB (rb.map rAt) (rAt r)) ∧ selR 2 (mergeR ra rb) = ra.filter (fun r => hasB (rb.map rAt) (rAt r)) := by
  intro ra rb
  fun_induction mergeR ra rb with
  | case1 ra =>
    intro _ _
    constructor
    · unfold selR
      rw [List.filter_eq_self.2 (fun x hx => by obtain ⟨r, _, rfl⟩ := List.mem_map.1 hx; rfl), List.map_map]
      rw [List.filter_eq_self.2 (fun x _ => by rw [List.map_nil, hasB_nil]; rfl)]
      exact List.map_id ra
    · unfold selR
      rw [List.filter_eq_nil_iff.2 (fun x hx => by obtain ⟨r, _, rfl⟩ := List.mem_map.1 hx; simp)]
      rw [List.filter_eq_nil_iff.2 (fun x _ => by rw [List.map_nil, hasB_nil]; simp)]
      rfl
  | case2 b rb =>
    intro _ _
    constructor <;>
    · unfold selR
      rw [List.filter_eq_nil_iff.2 (fun x hx => by obtain ⟨r, _, rfl⟩ := List.mem_map.1 hx; simp)]
      rfl
  | case3 a ra b rb h ih =>
    intro ha hb
    obtain ⟨i1, i2⟩ := ih (rises_tail (by simpa using ha)) hb
    have hno : hasB ((b :: rb).map rAt) (rAt a) = false := hasB_low (by simpa using hb) h
    constructor
    · rw [List.filter_cons_of_pos (by rw [hno]; rfl), ← i1]; rfl
    · rw [List.filter_cons_of_neg (by rw [hno]; simp), ← i2]; rfl
  | case4 a ra b rb h h' ih =>
    intro ha hb
    obtain ⟨i1, i2⟩ := ih ha (rises_tail (by simpa using hb))
    have hba : atomCmp (rAt b) (rAt a) < 0 := by have := atomCmp_anti (rAt a) (rAt b); omega
    have hsame : ∀ r ∈ a :: ra, hasB ((b :: rb).map rAt) (rAt r) = hasB (rb.map rAt) (rAt r) := by
      intro r hr
      refine hasB_skip (l := rb.map rAt) ?_
      rcases List.mem_cons.1 hr with rfl | hr
      · exact hba
      · exact atomCmp_strict hba (by have := rises_head (x := rAt a) (l := ra.map rAt) (by simpa using ha) (rAt r) (List.mem_map_of_mem hr); omega)
    constructor
    · rw [List.filter_congr (fun r hr => by rw [hsame r hr]), ← i1]; rfl
    · rw [List.filter_congr (fun r hr => by rw [hsame r hr]), ← i2]; rfl
  | case5 a ra b rb h h' ih =>
    intro ha hb
    obtain ⟨i1, i2⟩ := ih (rises_tail (by simpa using ha)) (rises_tail (by simpa using hb))
    have he : atomCmp (rAt a) (rAt b) = 0 := by omega
    have hba : atomCmp (rAt b) (rAt a) = 0 := by have := atomCmp_anti (rAt a) (rAt b); omega
    have hyes : hasB ((b :: rb).map rAt) (rAt a) = true := by rw [List.map_cons, hasB_cons, decide_eq_true hba, Bool.true_or]
    have hsame : ∀ r ∈ ra, hasB ((b :: rb).map rAt) (rAt r) = hasB (rb.map rAt) (rAt r) := by
      intro r hr
      refine hasB_skip (l := rb.map rAt) ?_
      have h1 := rises_head (x := rAt a) (l := ra.map rAt) (by simpa using ha) (rAt r) (List.mem_map_of_mem hr)
      have h2 := atomCmp_on (a := rAt b) (b := rAt a) (c := rAt r) (by omega) (by omega)
      by_cases e : atomCmp (rAt b) (rAt r) = 0
      · have h3 := atomCmp_anti (rAt b) (rAt r)
        have h4 := atomCmp_strict h1 (show atomCmp (rAt r) (rAt b) ≤ 0 by omega)
        omega
      · omega
    constructor
    · rw [List.filter_cons_of_neg (by rw [hyes]; simp), List.filter_congr (fun r hr => by rw [hsame r hr]), ← i1]; rfl
    · rw [List.filter_cons_of_pos (by rw [hyes]), List.filter_congr (fun r hr => by rw [hsame r hr]), ← i2]; rfl

/-- Nothing that is in both. -/
def apartB (xs ys : List At) : Bool := xs.all fun a => !hasB ys a

theorem both_none {ra rb : List Rf} (ha : risesB (ra.map rAt) = true) (hb : risesB (rb.map rAt) = true) : decide ((selR 2 (mergeR ra rb)).length = 0) = apartB (ra.map rAt) (rb.map rAt) := by
  rw [(sel_first ra rb ha hb).2, Bool.eq_iff_iff, decide_eq_true_eq, List.length_eq_zero_iff, List.filter_eq_nil_iff]
  unfold apartB
  rw [List.all_eq_true]
  constructor
  · intro h x hx
    obtain ⟨r, hr, rfl⟩ := List.mem_map.1 hx
    simpa using h r hr
  · intro h r hr
    have := h _ (List.mem_map_of_mem hr)
    simpa using this

/-- In order, by what all of a rest have. -/
theorem rises_cons {x : At} {l : List At} (h : ∀ y ∈ l, atomCmp x y < 0) (hl : risesB l = true) : risesB (x :: l) = true := by
  cases l with
  | nil => rfl
  | cons y l =>
    show (decide (atomCmp x y < 0) && risesB (y :: l)) = true
    rw [decide_eq_true (h y (by simp)), hl]; rfl

theorem rises_filter {p : At → Bool} : ∀ {l : List At}, risesB l = true → risesB (l.filter p) = true
  | [], _ => rfl
  | x :: l, h => by
    have ih := rises_filter (p := p) (rises_tail h)
    by_cases hp : p x = true
    · rw [List.filter_cons_of_pos hp]
      exact rises_cons (fun y hy => rises_head h y (List.mem_filter.1 hy).1) ih
    · rw [List.filter_cons_of_neg hp]; exact ih

/-- All of two lists in order are in order. -/
theorem all_rises : ∀ ra rb : List Rf, risesB (ra.map rAt) = true → risesB (rb.map rAt) = true → risesB ((mergeR ra rb).map fun x => rAt x.1) = true := by
  intro ra rb
  fun_induction mergeR ra rb with
  | case1 ra => intro h _; rw [List.map_map]; exact h
  | case2 b rb => intro _ h; rw [List.map_map]; exact h
  | case3 a ra b rb h ih =>
    intro ha hb
    rw [List.map_cons] at ha ⊢
    refine rises_cons (fun y hy => ?_) (ih (rises_tail ha) hb)
    obtain ⟨x, hx, rfl⟩ := List.mem_map.1 hy
    rcases merge_mem _ _ x hx with h1 | h1
    · exact rises_head ha _ (List.mem_map_of_mem h1)
    · rcases List.mem_cons.1 h1 with h2 | h2
      · rw [h2]; exact h
      · exact atomCmp_strict h (by have := rises_head (x := rAt b) (l := rb.map rAt) (by simpa using hb) _ (List.mem_map_of_mem h2); omega)
  | case4 a ra b rb h h' ih =>
    intro ha hb
    have hba : atomCmp (rAt b) (rAt a) < 0 := by have := atomCmp_anti (rAt a) (rAt b); omega
    rw [List.map_cons] at hb ⊢
    refine rises_cons (fun y hy => ?_) (ih ha (rises_tail hb))
    obtain ⟨x, hx, rfl⟩ := List.mem_map.1 hy
    rcases merge_mem _ _ x hx with h1 | h1
    · rcases List.mem_cons.1 h1 with h2 | h2
      · rw [h2]; exact hba
      · exact atomCmp_strict hba (by have := rises_head (x := rAt a) (l := ra.map rAt) (by simpa using ha) _ (List.mem_map_of_mem h2); omega)
    · exact rises_head hb _ (List.mem_map_of_mem h1)
  | case5 a ra b rb h h' ih =>
    intro ha hb
    have hab : atomCmp (rAt a) (rAt b) ≤ 0 := by omega
    rw [List.map_cons] at ha hb ⊢
    refine rises_cons (fun y hy => ?_) (ih (rises_tail ha) (rises_tail hb))
    obtain ⟨x, hx, rfl⟩ := List.mem_map.1 hy
    rcases merge_mem _ _ x hx with h1 | h1
    · exact rises_head ha _ (List.mem_map_of_mem h1)
    · have h3 := rises_head hb _ (List.mem_map_of_mem h1)
      have h4 := atomCmp_on hab (show atomCmp (rAt b) (rAt x.1) ≤ 0 by omega)
      by_cases e : atomCmp (rAt a) (rAt x.1) = 0
      · have h5 := atomCmp_anti (rAt a) (rAt x.1)
        have h6 := atomCmp_strict h3 (show atomCmp (rAt x.1) (rAt a) ≤ 0 by omega)
        have h7 := atomCmp_anti (rAt b) (rAt a)
        omega
      · show atomCmp (rAt a) (rAt x.1) < 0
        omega

end Go.Proofs.YtcigljngiemdeaaGreat

namespace Go.Proofs.YtcigljngiemdeaaGreat

def ltB (a y : At) : Bool := decide (atomCmp y a < 0)

/-- A fact where it stands. -/
def insL (xs : List At) (a : At) : List At := xs.takeWhile (ltB a) ++ a :: xs.dropWhile (ltB a)
def putL (xs : List At) (a : At) : List At := if hasB xs a then xs else insL xs a

theorem place_take : ∀ {xs : List At} {a : At} {k : Nat}, k ≤ xs.length → (∀ j y, j < k → xs[j]? = some y → atomCmp y a < 0) → (∀ y, xs[k]? = some y → 0 ≤ atomCmp y a) → xs.takeWhile (ltB a) = xs.take k ∧ xs.dropWhile (ltB a) = xs.drop k
  | [], a, k, hk, _, _ => by simp
  | x :: xs, a, 0, _, _, h => by
    have h0 := h x rfl
    have e : ltB a x = false := by unfold ltB; rw [decide_eq_false (by omega)]
    constructor
    · rw [List.takeWhile_cons, e]; rfl
    · rw [List.dropWhile_cons, e]; rfl
  | x :: xs, a, k + 1, hk, hl, h => by
    have h0 := hl 0 x (by omega) rfl
    have e : ltB a x = true := by unfold ltB; rw [decide_eq_true h0]
    obtain ⟨i1, i2⟩ := place_take (xs := xs) (a := a) (k := k) (by simpa using hk) (fun j y hj hy => hl (j + 1) y (by omega) (by simpa using hy)) (fun y hy => h y (by simpa using hy))
    constructor
    · rw [List.takeWhile_cons, e, List.take_succ_cons, ← i1]; rfl
    · rw [List.dropWhile_cons, e, List.drop_succ_cons, ← i2]; rfl

theorem place_ins {xs : List At} {a : At} {k : Nat} (hk : k ≤ xs.length) (hl : ∀ j y, j < k → xs[j]? = some y → atomCmp y a < 0) (h : ∀ y, xs[k]? = some y → 0 ≤ atomCmp y a) : insL xs a = xs.take k ++ a :: xs.drop k := by
  obtain ⟨e1, e2⟩ := place_take hk hl h
  unfold insL; rw [e1, e2]

/-- Merged with one that is not there: it is put in. -/
theorem merge_one : ∀ (ra : List Rf) (b : Rf), hasB (ra.map rAt) (rAt b) = false → (mergeR ra [b]).map (fun x => rAt x.1) = insL (ra.map rAt) (rAt b)
  | [], b, _ => by rw [merge_left]; rfl
  | a :: ra, b, h => by
    rw [List.map_cons, hasB_cons, Bool.or_eq_false_iff, decide_eq_false_iff_not] at h
    rw [mergeR]
    unfold insL
    by_cases h1 : atomCmp (rAt a) (rAt b) < 0
    · have e : ltB (rAt b) (rAt a) = true := by unfold ltB; rw [decide_eq_true h1]
      rw [if_pos h1, List.map_cons, List.map_cons, List.takeWhile_cons, List.dropWhile_cons, e, merge_one ra b h.2]
      rfl
    · have e : ltB (rAt b) (rAt a) = false := by unfold ltB; rw [decide_eq_false h1]
      rw [if_neg h1, if_pos (by omega), merge_nil]
      show rAt b :: ((a :: ra).map fun r => (r, 0)).map (fun x => rAt x.1) = List.takeWhile (ltB (rAt b)) (rAt a :: ra.map rAt) ++ rAt b :: List.dropWhile (ltB (rAt b)) (rAt a :: ra.map rAt)
      rw [List.takeWhile_cons, List.dropWhile_cons, e, List.map_map]
      rfl

/-- What is the same fact is the same. -/
theorem fact_same {a b : At} (ha : factB a = true) (hb : factB b = true) (h : atomCmp a b = 0) : a = b := by
  obtain ⟨n, ts⟩ := a
  obtain ⟨m, us⟩ := b
  unfold factB at ha hb
  rw [Bool.and_eq_true] at ha hb
  have hnm : textCmp n m = 0 := by
    unfold atomCmp at h
    by_cases e : textCmp n m = 0
    · exact e
    · rw [if_neg e] at h; exact h
  have hargs : argsCmp ts us = 0 := by
    unfold atomCmp at h
    rwa [if_pos hnm] at h
  have hw := ha.1
  have hw' := hb.1
  have hts : ts = us := by
    clear h hnm ha hb
    revert us
    induction ts with
    | nil =>
      intro us h _
      cases us with
      | nil => rfl
      | cons u us => simp [argsCmp] at h
    | cons t ts ih =>
      intro us h hwu
      cases us with
      | nil => simp [argsCmp] at h
      | cons u us =>
        have h' : (if textCmp t.2 u.2 = 0 then argsCmp ts us else textCmp t.2 u.2) = 0 := h
        unfold wordsB at *
        rw [List.all_cons, Bool.and_eq_true] at hwu
        have hwt : (t :: ts).all (fun t => !t.1) = true := by assumption
        rw [List.all_cons, Bool.and_eq_true] at hwt
        by_cases e : textCmp t.2 u.2 = 0
        · rw [if_pos e] at h'
          have e1 := ih hwt.2 us h' hwu.2
          have e2 := text_same e
          have e3 : t.1 = u.1 := by
            have a1 := hwt.1; have a2 := hwu.1
            simp at a1 a2
            rw [a1, a2]
          rw [e1, show t = u from Prod.ext e3 e2]
        · rw [if_neg e] at h'; exact absurd h' e
  rw [text_same hnm, hts]

/-- Two lists in order with the same members are one. -/
theorem sorted_ext : ∀ {l l' : List At}, risesB l = true → risesB l' = true → (∀ a, a ∈ l ↔ a ∈ l') → l = l'
  | [], [], _, _, _ => rfl
  | [], y :: l', _, _, h => absurd ((h y).2 (by simp)) (by simp)
  | x :: l, [], _, _, h => absurd ((h x).1 (by simp)) (by simp)
  | x :: l, y :: l', h1, h2, h => by
    have hself : ∀ z : At, atomCmp z z = 0 := fun z => by have := atomCmp_anti z z; omega
    have hxy : x = y := by
      rcases List.mem_cons.1 ((h x).1 (by simp)) with e | e
      · exact e
      · rcases List.mem_cons.1 ((h y).2 (by simp)) with e' | e'
        · exact e'.symm
        · have a1 := rises_head h2 x e
          have a2 := rises_head h1 y e'
          have := atomCmp_anti x y
          omega
    subst hxy
    congr 1
    refine sorted_ext (rises_tail h1) (rises_tail h2) (fun a => ⟨fun ha => ?_, fun ha => ?_⟩)
    · rcases List.mem_cons.1 ((h a).1 (by simp [ha])) with e | e
      · subst e; have := rises_head h1 a ha; have := hself a; omega
      · exact e
    · rcases List.mem_cons.1 ((h a).2 (by simp [ha])) with e | e
      · subst e; have := rises_head h2 a ha; have := hself a; omega
      · exact e

/-- All are facts. -/
def FactsAll (xs : List At) : Prop := ∀ a ∈ xs, factB a = true

theorem hasB_mem {xs : List At} {a : At} (hx : FactsAll xs) (ha : factB a = true) : hasB xs a = true ↔ a ∈ xs := by
  unfold hasB
  rw [List.any_eq_true]
  constructor
  · rintro ⟨x, hx', h⟩
    rw [decide_eq_true_eq] at h
    rw [← fact_same (hx x hx') ha h]; exact hx'
  · intro h
    exact ⟨a, h, by rw [decide_eq_true_eq]; have := atomCmp_anti a a; omega⟩

theorem mem_ins (xs : List At) (a y : At) : y ∈ insL xs a ↔ y ∈ xs ∨ y = a := by
  unfold insL
  conv => rhs; rw [← List.takeWhile_append_dropWhile (p := ltB a) (l := xs)]
  simp only [List.mem_append, List.mem_cons]
  constructor
  · rintro (h | h | h)
    · exact .inl (.inl h)
    · exact .inr h
    · exact .inl (.inr h)
  · rintro ((h | h) | h)
    · exact .inl h
    · exact .inr (.inr h)
    · exact .inr (.inl h)

theorem mem_put {xs : List At} {a : At} (hx : FactsAll xs) (ha : factB a = true) (y : At) : y ∈ putL xs a ↔ y ∈ xs ∨ y = a := by
  unfold putL
  split
  · rename_i h
    have := (hasB_mem hx ha).1 h
    exact ⟨.inl, fun h => h.elim id (fun e => e ▸ this)⟩
  · exact mem_ins xs a y

theorem put_facts {xs : List At} {a : At} (hx : FactsAll xs) (ha : factB a = true) : FactsAll (putL xs a) := by
  intro y hy
  rcases (mem_put hx ha y).1 hy with h | h
  · exact hx y h
  · rw [h]; exact ha

theorem ins_rises : ∀ {xs : List At} {a : At}, risesB xs = true → hasB xs a = false → risesB (insL xs a) = true
  | [], a, _, _ => rfl
  | x :: xs, a, h, hn => by
    rw [hasB_cons, Bool.or_eq_false_iff, decide_eq_false_iff_not] at hn
    unfold insL
    by_cases h1 : atomCmp x a < 0
    · have e : ltB a x = true := by unfold ltB; rw [decide_eq_true h1]
      rw [List.takeWhile_cons, List.dropWhile_cons, e]
      have ih := ins_rises (rises_tail h) hn.2
      refine rises_cons (fun y hy => ?_) ih
      rcases (mem_ins xs a y).1 hy with h2 | h2
      · exact rises_head h y h2
      · rw [h2]; exact h1
    · have e : ltB a x = false := by unfold ltB; rw [decide_eq_false h1]
      rw [List.takeWhile_cons, List.dropWhile_cons, e]
      have hax : atomCmp a x < 0 := by have := atomCmp_anti x a; omega
      refine rises_cons (fun y hy => ?_) h
      rcases List.mem_cons.1 hy with h2 | h2
      · rw [h2]; exact hax
      · exact atomCmp_strict hax (by have := rises_head h y h2; omega)

theorem put_rises {xs : List At} {a : At} (h : risesB xs = true) : risesB (putL xs a) = true := by
  unfold putL
  by_cases e : hasB xs a = true
  · rw [if_pos e]; exact h
  · rw [if_neg e]; exact ins_rises h (by simpa using e)

theorem put_len (xs : List At) (a : At) : (putL xs a).length ≤ xs.length + 1 := by
  unfold putL insL
  split
  · omega
  · have := congrArg List.length (List.takeWhile_append_dropWhile (p := ltB a) (l := xs))
    rw [List.length_append] at this
    rw [List.length_append, List.length_cons]; omega

/-- Facts put among others, one behind the other. -/
theorem puts_all : ∀ {ys xs : List At}, FactsAll xs → FactsAll ys → risesB xs = true → FactsAll (ys.foldl putL xs) ∧ risesB (ys.foldl putL xs) = true ∧ (∀ a, a ∈ ys.foldl putL xs ↔ a ∈ xs ∨ a ∈ ys) ∧ (ys.foldl putL xs).length ≤ xs.length + ys.length
  | [], xs, hx, _, hr => ⟨hx, hr, fun a => by simp, by simp⟩
  | y :: ys, xs, hx, hy, hr => by
    have hy0 := hy y (by simp)
    obtain ⟨i1, i2, i3, i4⟩ := puts_all (ys := ys) (put_facts hx hy0) (fun a ha => hy a (by simp [ha])) (put_rises (a := y) hr)
    refine ⟨i1, i2, fun a => ?_, ?_⟩
    · rw [List.foldl_cons, i3 a, mem_put hx hy0, List.mem_cons, or_assoc]
    · have := put_len xs y
      rw [List.foldl_cons, List.length_cons]; omega

/-- What is in two lists merged. -/
theorem mem_merge : ∀ (ra rb : List Rf), FactsAll (ra.map rAt) → FactsAll (rb.map rAt) → ∀ a, a ∈ (mergeR ra rb).map (fun x => rAt x.1) ↔ a ∈ ra.map rAt ∨ a ∈ rb.map rAt := by
  intro ra rb
  fun_induction mergeR ra rb with
  | case1 ra => intro _ _ a; rw [List.map_map]; simp
  | case2 b rb => intro _ _ a; rw [List.map_map]; simp
  | case3 a ra b rb h ih =>
    intro ha hb y
    have := ih (fun z hz => ha z (by simp only [List.map_cons, List.mem_cons]; exact .inr hz)) hb y
    simp only [List.map_cons, List.mem_cons] at *
    rw [this]
    constructor
    · rintro (h | h | h | h) <;> simp [h]
    · rintro ((h | h) | h | h) <;> simp [h]
  | case4 a ra b rb h h' ih =>
    intro ha hb y
    have := ih ha (fun z hz => hb z (by simp only [List.map_cons, List.mem_cons]; exact .inr hz)) y
    simp only [List.map_cons, List.mem_cons] at *
    rw [this]
    constructor
    · rintro (h | (h | h) | h) <;> simp [h]
    · rintro ((h | h) | h | h) <;> simp [h]
  | case5 a ra b rb h h' ih =>
    intro ha hb y
    have := ih (fun z hz => ha z (by simp only [List.map_cons, List.mem_cons]; exact .inr hz)) (fun z hz => hb z (by simp only [List.map_cons, List.mem_cons]; exact .inr hz)) y
    have e : rAt a = rAt b := fact_same (ha _ (by simp)) (hb _ (by simp)) (by omega)
    simp only [List.map_cons, List.mem_cons] at *
    rw [this, ← e]
    constructor
    · rintro (h | h | h) <;> simp [h]
    · rintro ((h | h) | h | h) <;> simp [h]

theorem merge_puts {ra rb : List Rf} (ha : FactsAll (ra.map rAt)) (hb : FactsAll (rb.map rAt)) (h1 : risesB (ra.map rAt) = true) (h2 : risesB (rb.map rAt) = true) :
    (mergeR ra rb).map (fun x => rAt x.1) = (rb.map rAt).foldl putL (ra.map rAt) := by
  obtain ⟨_, i2, i3, _⟩ := puts_all ha hb h1
  refine sorted_ext (all_rises ra rb h1 h2) i2 (fun a => ?_)
  rw [mem_merge ra rb ha hb a, i3 a]

/-- What is taken out at its place is what all others are. -/
theorem gone_at {xs : List At} {a x : At} {k : Nat} (hr : risesB xs = true) (hl : ∀ j y, j < k → xs[j]? = some y → atomCmp y a < 0) (hx : xs[k]? = some x) (he : atomCmp x a = 0) : xs.filter (fun y => !hasB [a] y) = xs.take k ++ xs.drop (k + 1) := by
  obtain ⟨hk, hkx⟩ := List.getElem?_eq_some_iff.1 hx
  conv => lhs; rw [← List.take_append_drop k xs, List.drop_eq_getElem_cons hk, hkx, List.filter_append]
  have hone : ∀ y, hasB [a] y = decide (atomCmp a y = 0) := fun y => by rw [hasB_cons, hasB_nil, Bool.or_false]
  have hax : atomCmp a x = 0 := by have := atomCmp_anti x a; omega
  rw [List.filter_cons_of_neg (by rw [hone, decide_eq_true hax]; simp)]
  congr 1
  · rw [List.filter_eq_self]
    intro y hy
    obtain ⟨j, hj⟩ := List.getElem?_of_mem hy
    have hjk : j < k := by
      have := (List.getElem?_eq_some_iff.1 hj).1
      rw [List.length_take] at this; omega
    rw [List.getElem?_take, if_pos hjk] at hj
    have h1 := hl j y hjk hj
    rw [hone, decide_eq_false (by have := atomCmp_anti y a; omega)]; rfl
  · rw [List.filter_eq_self]
    intro y hy
    obtain ⟨j, hj⟩ := List.getElem?_of_mem hy
    rw [List.getElem?_drop] at hj
    have h1 := rises_pair hr k (k + 1 + j) x y (by omega) hx hj
    have h2 := atomCmp_on (a := a) (b := x) (c := y) (by omega) (by omega)
    by_cases e : atomCmp a y = 0
    · have h3 := atomCmp_anti a y
      have h4 := atomCmp_strict h1 (show atomCmp y a ≤ 0 by omega)
      omega
    · rw [hone, decide_eq_false e]; rfl

end Go.Proofs.YtcigljngiemdeaaGreat
