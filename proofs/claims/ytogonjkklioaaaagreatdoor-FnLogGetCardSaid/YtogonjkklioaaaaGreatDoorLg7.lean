/-
  Texts of one claim, put together.
-/
import Derived.Test.YtogonjkklioaaaaGreatDoorLg4
set_option maxRecDepth 100000
set_option maxHeartbeats 8000000
namespace Go.Proofs.YtogonjkklioaaaaGreatDoor
open Go.RowKit
def AtPost (xs : List At) (a : At) (n : Nat) (w : World) (e : Ending) (w' : World) : Prop :=
  ∃ k : Nat, (e = .returned (.tuple #[.int .i64 (k : Int), .bool (zbq xs a)]) ∧ k ≤ n ∧ (∀ j y, j < k → xs[j]? = some y → zaf y a < 0) ∧ (∀ y, xs[k]? = some y → 0 ≤ zaf y a)) ∧ Below w.heap.size w w'
theorem ZHasSpec0 {p : Prop} (h : p := by
  refine wpAnyH_done qab ?_ _; go_wp2; go_ret2; exact ⟨k, ⟨by rw [EB.out]; rfl, hk, HL.out, fun y hy => by have := HG.out; rw [this] at hy; injection hy with hy; subst hy; have := EC.out; omega⟩, zaa hw0 (zaa hbd (zaa hb1 (zjg hb2)))⟩) : p := h
theorem znd (A : Option Addr) (n c : Nat) (xs : List At) (nm : ByteArray) (B : Option Addr) (m d : Nat) (ts : List Tm) (w : World) (h : IsAtoms w 0 w.heap.size A n c xs) (h' : IsTerms w 0 w.heap.size B m d ts) (hr : zaj xs = true) :
    Calls Tryz.prog 64 #[.slice A n c, .agg #[.string nm, .slice B m d]] w (AtPost xs (nm, ts) n w) := by
  have hn := h.len; unfold maxLen at hn; have L := hid h.1; have H := hid h; clear h; have H' := hid h'; clear h'; have RR := hid hr; clear hr; have hw0 := zac w (.cells #[.string nm, .slice B m d] 51); have X0 := hid (Box.new w (.string nm) (.slice B m d) 51); go_enter Tryz.func64, Tryz.ntmps64; go_wp2; go_loopw [6] (fun i wr => ∃ k : Nat, k ≤ n ∧ i = .int .i64 k ∧ (∀ j y, j < k → xs[j]? = some y → zaf y (nm, ts) < 0) ∧ Below (w.alloc (.cells #[.string nm, .slice B m d] 51)).heap.size (w.alloc (.cells #[.string nm, .slice B m d] 51)) wr) (fun i _ => n - (intOf i).toNat)
  case atStart => exact ⟨0, Nat.zero_le _, rfl, fun j y hj => absurd hj (Nat.not_lt_zero _), Below.refl _ _⟩
  case round =>
    obtain ⟨k, hk, rfl, hl, hb⟩ := hrel; have HL := hid hl; clear hl; have HB := zaa hw0 hb; obtain ⟨b0, b1, b2⟩ := X0.out.later hb; have e1 : wr.drew.cell? ⟨w.heap.size, 0, none⟩ = some (.string nm) := b1; have e2 : wr.drew.cell? ⟨w.heap.size, 1, none⟩ = some (.slice B m d) := b2; have hbd := hb.drew; have HU := hid (show IsTerms wr.drew 0 wr.drew.heap.size B m d ts from (H'.out.up HB).keep (fun _ _ _ => rfl) (nl _) (nl _)); by_cases hlt : k < n
    · obtain ⟨p, q, hA, hlo, hhi, hg, hE⟩ := (H.out.below AtomE.stays HB (nl _)).at_ hlt
      obtain ⟨A', n', c', d1, d3, d4, d5⟩ := hE.out; clear hE; have hpb : p.block < wr.heap.size := Nat.lt_of_lt_of_le hhi HB.size; subst hA; have HG := hid hg; clear hg; have HT := hid (d5.keep (w' := wr.drew) (lo' := 0) (hi' := wr.drew.heap.size) (fun _ _ _ => rfl) (nl _) HB.size); clear d5; have x1 : wr.drew.cell? (p.add (k * 2)) = some (.string q.1) := d1; have x2 : wr.drew.cell? ⟨(p.add (k * 2)).block, (p.add (k * 2)).off + 1, none⟩ = some (.slice A' n' c') := d4; by_cases hc : zaf q (nm, ts) < 0
      · have a2 : zaf (q.1, q.2) (nm, ts) < 0 := hc
        have E := hid (low_snoc HL.out HG.out hc); clear hc; go_wp2_with fail; refine wp_region_held_drew (S := fun W => (W.cell? ⟨w.heap.size, 0, none⟩ = some (.string nm) ∧ W.cell? ⟨w.heap.size, 1, none⟩ = some (.slice B m d)) ∧ W.cell? (p.add (k * 2)) = some (.string q.1) ∧ W.cell? ⟨(p.add (k * 2)).block, (p.add (k * 2)).off + 1, none⟩ = some (.slice A' n' c')) qab ⟨⟨e1, e2⟩, x1, x2⟩ ?_; intro hS_; refine tk 0 (.int .i64 (k : Int)) hS_ ?_; refine tk 1 (.slice (some p) n c) hS_ ?_; refine tk 2 (.int .i64 (n : Int)) hS_ ?_; refine tk 3 (.bool true) hS_ ?_; refine tk 4 (.bool true) hS_ ?_; refine tk 5 (.slice (some p) n c) hS_ ?_
        refine tk 6 (.int .i64 (k : Int)) hS_ ?_; refine tk 7 (.pointer (some (p.add (k * 2)))) hS_ ?_; refine tk 8 (.agg #[.string q.1, .slice A' n' c']) hS_ ?_; refine tk 9 (.agg #[.string nm, .slice B m d]) hS_ ?_; refine rd1 10 fun K_ hK_ => ?_; go_simp; go_at_call 100; refine (zft q.1 nm A' B n' c' m d q.2 ts _ HT.out HU.out).mono ?_; rintro e w1 ⟨rfl, hb1⟩; have y1 := (hb1.cell (p := ⟨w.heap.size, 0, none⟩) (b0)).trans b1; have y2 := (hb1.cell (p := ⟨w.heap.size, 1, none⟩) (b0)).trans b2; have y3 := (hb1.cell (p := p.add (k * 2)) qcd).trans d1; have y4 := (hb1.cell (p := ⟨(p.add (k * 2)).block, (p.add (k * 2)).off + 1, none⟩) qcd).trans d4
        refine hK_.out _ _ ⟨⟨y1, y2⟩, y3, y4⟩ (fun hS2_ => ?_); clear hK_ hS_; have hS_ := hS2_; clear hS2_; refine tk 11 (.bool true) hS_ ?_; refine tk 12 (.bool true) hS_ ?_; refine wpAnyH_done qab ?_ _; go_wp2; go_roundw
        case rel => exact ⟨k + 1, by omega, by go_num, E.out, zaa hbd hb1⟩
        case measure => exact qms
      · have a2 : ¬ zaf (q.1, q.2) (nm, ts) < 0 := hc
        have E := hid (hasB_at RR.out HL.out HG.out (Int.not_lt.1 hc)); have EC := hid hc; clear hc; go_wp2_with fail; refine wp_region_held_drew (S := fun W => (W.cell? ⟨w.heap.size, 0, none⟩ = some (.string nm) ∧ W.cell? ⟨w.heap.size, 1, none⟩ = some (.slice B m d)) ∧ W.cell? (p.add (k * 2)) = some (.string q.1) ∧ W.cell? ⟨(p.add (k * 2)).block, (p.add (k * 2)).off + 1, none⟩ = some (.slice A' n' c')) qab ⟨⟨e1, e2⟩, x1, x2⟩ ?_; intro hS_; refine tk 0 (.int .i64 (k : Int)) hS_ ?_; refine tk 1 (.slice (some p) n c) hS_ ?_; refine tk 2 (.int .i64 (n : Int)) hS_ ?_; refine tk 3 (.bool true) hS_ ?_; refine tk 4 (.bool true) hS_ ?_
        refine tk 5 (.slice (some p) n c) hS_ ?_; refine tk 6 (.int .i64 (k : Int)) hS_ ?_; refine tk 7 (.pointer (some (p.add (k * 2)))) hS_ ?_; refine tk 8 (.agg #[.string q.1, .slice A' n' c']) hS_ ?_; refine tk 9 (.agg #[.string nm, .slice B m d]) hS_ ?_; refine rd1 10 fun K_ hK_ => ?_; go_simp; go_at_call 100; refine (zft q.1 nm A' B n' c' m d q.2 ts _ HT.out HU.out).mono ?_; rintro e w1 ⟨rfl, hb1⟩; have y1 := (hb1.cell (p := ⟨w.heap.size, 0, none⟩) (b0)).trans b1; have y2 := (hb1.cell (p := ⟨w.heap.size, 1, none⟩) (b0)).trans b2; have y3 := (hb1.cell (p := p.add (k * 2)) qcd).trans d1
        have y4 := (hb1.cell (p := ⟨(p.add (k * 2)).block, (p.add (k * 2)).off + 1, none⟩) qcd).trans d4; refine hK_.out _ _ ⟨⟨y1, y2⟩, y3, y4⟩ (fun hS2_ => ?_); clear hK_ hS_; have hS_ := hS2_; clear hS2_; refine tk 11 (.bool false) hS_ ?_; refine tk 12 (.bool false) hS_ ?_; refine wpAnyH_done qab ?_ _; have a4 := hid (show IsTerms w1.drew 0 w1.drew.heap.size A' n' c' q.2 from (HT.out.up hb1).keep (fun _ _ _ => rfl) (nl _) (nl _)); have a5 := hid (show IsTerms w1.drew 0 w1.drew.heap.size B m d ts from (HU.out.up hb1).keep (fun _ _ _ => rfl) (nl _) (nl _)); clear x1 x2 e1 e2; by_cases hz : zaf q (nm, ts) = 0
        · have a6 : zaf (q.1, q.2) (nm, ts) = 0 := hz
          have EB := hid (show zbq xs (nm, ts) = true by rw [E.out, decide_eq_true hz]); clear hz a2; go_wp2_with fail; refine wp_region_held_drew (S := fun W => (W.cell? ⟨w.heap.size, 0, none⟩ = some (.string nm) ∧ W.cell? ⟨w.heap.size, 1, none⟩ = some (.slice B m d)) ∧ W.cell? (p.add (k * 2)) = some (.string q.1) ∧ W.cell? ⟨(p.add (k * 2)).block, (p.add (k * 2)).off + 1, none⟩ = some (.slice A' n' c')) qab ⟨⟨y1, y2⟩, y3, y4⟩ ?_; intro hS_; refine tk 0 (.int .i64 (k : Int)) hS_ ?_; refine tk 1 (.int .i64 (k : Int)) hS_ ?_; refine tk 2 (.slice (some p) n c) hS_ ?_; refine tk 3 (.int .i64 (n : Int)) hS_ ?_
          refine tk 4 (.bool true) hS_ ?_; refine tk 5 (.bool true) hS_ ?_; refine tk 6 (.slice (some p) n c) hS_ ?_; refine tk 7 (.int .i64 (k : Int)) hS_ ?_; refine tk 8 (.pointer (some (p.add (k * 2)))) hS_ ?_; refine tk 9 (.agg #[.string q.1, .slice A' n' c']) hS_ ?_; refine tk 10 (.agg #[.string nm, .slice B m d]) hS_ ?_; refine rd1 11 fun K_ hK_ => ?_; go_simp; go_at_call 100; refine (zft q.1 nm A' B n' c' m d q.2 ts _ a4.out a5.out).mono ?_; rintro e w2 ⟨rfl, hb2⟩; have z1 := (hb2.cell (p := ⟨w.heap.size, 0, none⟩) (Nat.lt_of_lt_of_le b0 hb1.size)).trans y1; have z2 := (hb2.cell (p := ⟨w.heap.size, 1, none⟩) (Nat.lt_of_lt_of_le b0 hb1.size)).trans y2
          have z3 := (hb2.cell (p := p.add (k * 2)) qcu).trans y3; have z4 := (hb2.cell (p := ⟨(p.add (k * 2)).block, (p.add (k * 2)).off + 1, none⟩) qcu).trans y4; refine hK_.out _ _ ⟨⟨z1, z2⟩, z3, z4⟩ (fun hS2_ => ?_); clear hK_ hS_; have hS_ := hS2_; clear hS2_; refine tk 12 (.bool true) hS_ ?_; refine tk 13 (.bool true) hS_ ?_; refine tk 14 (.int .i64 (k : Int)) hS_ ?_; refine tk 15 (.bool true) hS_ ?_; exact ZHasSpec0
        · have a6 : ¬ zaf (q.1, q.2) (nm, ts) = 0 := hz
          have EB := hid (show zbq xs (nm, ts) = false by rw [E.out, decide_eq_false hz]); clear hz a2; go_wp2_with fail; refine wp_region_held_drew (S := fun W => (W.cell? ⟨w.heap.size, 0, none⟩ = some (.string nm) ∧ W.cell? ⟨w.heap.size, 1, none⟩ = some (.slice B m d)) ∧ W.cell? (p.add (k * 2)) = some (.string q.1) ∧ W.cell? ⟨(p.add (k * 2)).block, (p.add (k * 2)).off + 1, none⟩ = some (.slice A' n' c')) qab ⟨⟨y1, y2⟩, y3, y4⟩ ?_; intro hS_; refine tk 0 (.int .i64 (k : Int)) hS_ ?_; refine tk 1 (.int .i64 (k : Int)) hS_ ?_; refine tk 2 (.slice (some p) n c) hS_ ?_; refine tk 3 (.int .i64 (n : Int)) hS_ ?_
          refine tk 4 (.bool true) hS_ ?_; refine tk 5 (.bool true) hS_ ?_; refine tk 6 (.slice (some p) n c) hS_ ?_; refine tk 7 (.int .i64 (k : Int)) hS_ ?_; refine tk 8 (.pointer (some (p.add (k * 2)))) hS_ ?_; refine tk 9 (.agg #[.string q.1, .slice A' n' c']) hS_ ?_; refine tk 10 (.agg #[.string nm, .slice B m d]) hS_ ?_; refine rd1 11 fun K_ hK_ => ?_; go_simp; go_at_call 100; refine (zft q.1 nm A' B n' c' m d q.2 ts _ a4.out a5.out).mono ?_; rintro e w2 ⟨rfl, hb2⟩; have z1 := (hb2.cell (p := ⟨w.heap.size, 0, none⟩) (Nat.lt_of_lt_of_le b0 hb1.size)).trans y1; have z2 := (hb2.cell (p := ⟨w.heap.size, 1, none⟩) (Nat.lt_of_lt_of_le b0 hb1.size)).trans y2
          have z3 := (hb2.cell (p := p.add (k * 2)) qcu).trans y3; have z4 := (hb2.cell (p := ⟨(p.add (k * 2)).block, (p.add (k * 2)).off + 1, none⟩) qcu).trans y4; refine hK_.out _ _ ⟨⟨z1, z2⟩, z3, z4⟩ (fun hS2_ => ?_); clear hK_ hS_; have hS_ := hS2_; clear hS2_; refine tk 12 (.bool false) hS_ ?_; refine tk 13 (.bool false) hS_ ?_; refine tk 14 (.int .i64 (k : Int)) hS_ ?_; refine tk 15 (.bool false) hS_ ?_; exact ZHasSpec0
    · have E := hid (hasB_end L.out HL.out hlt)
      have E2 := hid (show ∀ y, xs[k]? = some y → 0 ≤ zaf y (nm, ts) from fun y hy => absurd (List.getElem?_eq_some_iff.1 hy).1 (by have := L.out; omega)); go_wp2_with fail; refine wp_region_held_drew (S := fun W => (W.cell? ⟨w.heap.size, 0, none⟩ = some (.string nm) ∧ W.cell? ⟨w.heap.size, 1, none⟩ = some (.slice B m d))) qab ⟨e1, e2⟩ ?_; intro hS_; refine tk 0 (.int .i64 (k : Int)) hS_ ?_; refine tk 1 (.slice A n c) hS_ ?_; refine tk 2 (.int .i64 (n : Int)) hS_ ?_; refine tk 3 (.bool false) hS_ ?_; refine tk 4 (.bool false) hS_ ?_; refine sk 5 hS_ ?_; refine sk 6 hS_ ?_; refine sk 7 hS_ ?_; refine sk 8 hS_ ?_
      refine sk 9 hS_ ?_; refine sk 10 hS_ ?_; refine sk 11 hS_ ?_; refine tk 12 (.bool false) hS_ ?_; refine wpAnyH_done qab ?_ _; have a3 := hbd.drew; clear e1 e2; have e1 : wr.drew.drew.cell? ⟨w.heap.size, 0, none⟩ = some (.string nm) := b1; have e2 : wr.drew.drew.cell? ⟨w.heap.size, 1, none⟩ = some (.slice B m d) := b2; go_wp2_with fail; refine wp_region_held_drew (S := fun W => (W.cell? ⟨w.heap.size, 0, none⟩ = some (.string nm) ∧ W.cell? ⟨w.heap.size, 1, none⟩ = some (.slice B m d))) qab ⟨e1, e2⟩ ?_; intro hS_; refine tk 0 (.int .i64 (k : Int)) hS_ ?_; refine tk 1 (.int .i64 (k : Int)) hS_ ?_; refine tk 2 (.slice A n c) hS_ ?_
      refine tk 3 (.int .i64 (n : Int)) hS_ ?_; refine tk 4 (.bool false) hS_ ?_; refine tk 5 (.bool false) hS_ ?_; refine sk 6 hS_ ?_; refine sk 7 hS_ ?_; refine sk 8 hS_ ?_; refine sk 9 hS_ ?_; refine sk 10 hS_ ?_; refine sk 11 hS_ ?_; refine sk 12 hS_ ?_; refine tk 13 (.bool false) hS_ ?_; refine tk 14 (.int .i64 (k : Int)) hS_ ?_; refine tk 15 (.bool false) hS_ ?_; refine wpAnyH_done qab ?_ _; go_wp2; go_ret2; exact ⟨k, ⟨by rw [E.out]; rfl, hk, HL.out, E2.out⟩, zaa hw0 a3⟩
theorem zat {m : Nat} {xs : List At} (h : zag m xs = true) : zaj xs = true := by
  unfold zag at h; simp only [Bool.and_eq_true] at h; exact h.1.2
theorem zaw {m : Nat} {xs : List At} (h : zag m xs = true) : xs.length ≤ m := by
  unfold zag at h; simp only [Bool.and_eq_true, decide_eq_true_eq] at h; exact h.2
theorem zcr (A : Option Addr) (n c : Nat) (xs : List At) (nm : ByteArray) (B : Option Addr) (m d : Nat) (ts : List Tm) (w : World) (h : IsAtoms w 0 w.heap.size A n c xs) (h' : IsTerms w 0 w.heap.size B m d ts) (hr : zaj xs = true) :
    Calls Tryz.prog 35 #[.slice A n c, .agg #[.string nm, .slice B m d]] w (zas (zbq xs (nm, ts)) w) := by
  have H := hid h; clear h; have H' := hid h'; clear h'; have hw0 := zac w (.cells #[.string nm, .slice B m d] 51); go_enter Tryz.func35, Tryz.ntmps35; go_wp2_with fail; refine (znd _ _ _ xs nm B m d ts _ (H.out.up AtomE.stays hw0) (H'.out.up hw0) hr).mono ?_; rintro e w1 ⟨k, ⟨rfl, _, _, _⟩, hb1⟩; go_wp2; go_ret; exact ⟨rfl, zaa hw0 hb1⟩
end Go.Proofs.YtogonjkklioaaaaGreatDoor

namespace Go.Proofs.YtogonjkklioaaaaGreatDoor
theorem zjv (b : At) (l : List At) (a : At) : zbq (b :: l) a = (decide (zaf b a = 0) || zbq l a) := by
  unfold zbq; rw [List.any_cons]
theorem hasB_nil (a : At) : zbq [] a = false := rfl
theorem cmp_swap {a b : At} (h : zaf a b < 0) : 0 < zaf b a := by have := zbc a b; omega
theorem hasB_low {b : At} {l : List At} (hr : zaj (b :: l) = true) {a : At} (h : zaf a b < 0) : zbq (b :: l) a = false := by
  unfold zbq; rw [List.any_eq_false]; intro y hy; simp only [decide_eq_true_eq]
  have h1 : 0 < zaf y a := by
    rcases List.mem_cons.1 hy with rfl | hy
    · exact cmp_swap h
    · exact cmp_swap (zbt h (by have := zbp hr y hy; omega))
  omega
theorem hasB_skip {b : At} {l : List At} {a : At} (h : zaf b a < 0) : zbq (b :: l) a = zbq l a := by
  rw [zjv, decide_eq_false qaa, Bool.false_or]
theorem sel_first : ∀ ra rb : List Rf, zaj (ra.map rAt) = true → zaj (rb.map rAt) = true →
    zgp 0 (zba ra rb) = ra.filter (fun r => !zbq (rb.map rAt) (rAt r)) ∧ zgp 2 (zba ra rb) = ra.filter (fun r => zbq (rb.map rAt) (rAt r)) := by
  intro ra rb
  fun_induction zba ra rb with
  | case1 ra =>
    intro _ _; constructor
    · unfold zgp
      rw [List.filter_eq_self.2 (fun x hx => by obtain ⟨r, _, rfl⟩ := List.mem_map.1 hx; rfl), List.map_map]; rw [List.filter_eq_self.2 (fun x _ => by rw [List.map_nil, hasB_nil]; rfl)]; exact List.map_id ra
    · unfold zgp
      rw [List.filter_eq_nil_iff.2 (fun x hx => by obtain ⟨r, _, rfl⟩ := List.mem_map.1 hx; simp)]; rw [List.filter_eq_nil_iff.2 (fun x _ => by rw [List.map_nil, hasB_nil]; simp)]
      rfl
  | case2 b rb =>
    intro _ _; constructor <;>
    · unfold zgp
      rw [List.filter_eq_nil_iff.2 (fun x hx => by obtain ⟨r, _, rfl⟩ := List.mem_map.1 hx; simp)]
      rfl
  | case3 a ra b rb h ih =>
    intro ha hb; obtain ⟨i1, i2⟩ := ih (zck (by simpa using ha)) hb; have hno : zbq ((b :: rb).map rAt) (rAt a) = false := hasB_low (by simpa using hb) h; constructor
    · rw [List.filter_cons_of_pos (by rw [hno]; rfl), ← i1]; rfl
    · rw [List.filter_cons_of_neg (by rw [hno]; simp), ← i2]; rfl
  | case4 a ra b rb h h' ih =>
    intro ha hb; obtain ⟨i1, i2⟩ := ih ha (zck (by simpa using hb)); have a2 : zaf (rAt b) (rAt a) < 0 := by have := zbc (rAt a) (rAt b); omega
    have hsame : ∀ r ∈ a :: ra, zbq ((b :: rb).map rAt) (rAt r) = zbq (rb.map rAt) (rAt r) := by
      intro r hr; refine hasB_skip (l := rb.map rAt) ?_; rcases List.mem_cons.1 hr with rfl | hr
      · exact a2
      · exact zbt a2 (by have := zbp (x := rAt a) (l := ra.map rAt) (by simpa using ha) (rAt r) (List.mem_map_of_mem hr); omega)
    constructor
    · rw [List.filter_congr qet, ← i1]; rfl
    · rw [List.filter_congr qet, ← i2]; rfl
  | case5 a ra b rb h h' ih =>
    intro ha hb; obtain ⟨i1, i2⟩ := ih (zck (by simpa using ha)) (zck (by simpa using hb)); have he : zaf (rAt a) (rAt b) = 0 := qaa; have a2 : zaf (rAt b) (rAt a) = 0 := by have := zbc (rAt a) (rAt b); omega
    have hyes : zbq ((b :: rb).map rAt) (rAt a) = true := by rw [List.map_cons, zjv, decide_eq_true a2, Bool.true_or]
    have hsame : ∀ r ∈ ra, zbq ((b :: rb).map rAt) (rAt r) = zbq (rb.map rAt) (rAt r) := by
      intro r hr; refine hasB_skip (l := rb.map rAt) ?_; have h1 := zbp (x := rAt a) (l := ra.map rAt) (by simpa using ha) (rAt r) (List.mem_map_of_mem hr); have h2 := zih (a := rAt b) (b := rAt a) (c := rAt r) qaa qaa; by_cases e : zaf (rAt b) (rAt r) = 0
      · have h3 := zbc (rAt b) (rAt r)
        have h4 := zbt h1 (show zaf (rAt r) (rAt b) ≤ 0 by omega); omega
      · omega
    constructor
    · rw [List.filter_cons_of_neg (by rw [hyes]; simp), List.filter_congr qet, ← i1]; rfl
    · rw [List.filter_cons_of_pos (by rw [hyes]), List.filter_congr qet, ← i2]; rfl
def zio (xs ys : List At) : Bool := xs.all fun a => !zbq ys a
theorem both_none {ra rb : List Rf} (ha : zaj (ra.map rAt) = true) (hb : zaj (rb.map rAt) = true) : decide ((zgp 2 (zba ra rb)).length = 0) = zio (ra.map rAt) (rb.map rAt) := by
  rw [(sel_first ra rb ha hb).2, Bool.eq_iff_iff, decide_eq_true_eq, List.length_eq_zero_iff, List.filter_eq_nil_iff]; unfold zio; rw [List.all_eq_true]; constructor
  · intro h x hx
    obtain ⟨r, hr, rfl⟩ := List.mem_map.1 hx; simpa using h r hr
  · intro h r hr
    have := h _ (List.mem_map_of_mem hr); simpa using this
theorem zkr {x : At} {l : List At} (h : ∀ y ∈ l, zaf x y < 0) (hl : zaj l = true) : zaj (x :: l) = true := by
  cases l with
  | nil => rfl
  | cons y l =>
    show (decide (zaf x y < 0) && zaj (y :: l)) = true; rw [decide_eq_true (h y qag), hl]; rfl
theorem zlz {p : At → Bool} : ∀ {l : List At}, zaj l = true → zaj (l.filter p) = true
  | [], _ => rfl
  | x :: l, h => by
    have ih := zlz (p := p) (zck h); by_cases hp : p x = true
    · rw [List.filter_cons_of_pos hp]
      exact zkr (fun y hy => zbp h y (List.mem_filter.1 hy).1) ih
    · rw [List.filter_cons_of_neg hp]; exact ih
end Go.Proofs.YtogonjkklioaaaaGreatDoor
