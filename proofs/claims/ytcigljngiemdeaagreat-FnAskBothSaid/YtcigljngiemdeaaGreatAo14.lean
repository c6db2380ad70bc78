/-
  Texts of one claim, put together.
-/
import Derived.Test.YtcigljngiemdeaaGreatAo0
import Derived.Test.YtcigljngiemdeaaGreatAo2
import Derived.Test.YtcigljngiemdeaaGreatAo1
import Derived.Test.YtcigljngiemdeaaGreatAo4
import Derived.Deep.AppendLies
set_option maxRecDepth 100000
set_option maxHeartbeats 8000000
namespace Go.Proofs.YtcigljngiemdeaaGreat
open Go.RowKit
def AtPost (xs : List At) (a : At) (n : Nat) (w : World) (e : Ending) (w' : World) : Prop :=
  ∃ k : Nat, (e = .returned (.tuple #[.int .i64 (k : Int), .bool (hasB xs a)]) ∧ k ≤ n ∧ (∀ j y, j < k → xs[j]? = some y → atomCmp y a < 0) ∧ (∀ y, xs[k]? = some y → 0 ≤ atomCmp y a)) ∧ Below w.heap.size w w'
theorem l3At_any (A : Option Addr) (n c : Nat) (xs : List At) (nm : ByteArray) (B : Option Addr) (m d : Nat) (ts : List Tm) (w : World) (h : IsAtoms w 0 w.heap.size A n c xs) (h' : IsTerms w 0 w.heap.size B m d ts) (hr : risesB xs = true) :
    Calls Tryz.prog 122 #[.slice A n c, .agg #[.string nm, .slice B m d]] w (AtPost xs (nm, ts) n w) := by
  have hn := h.len; unfold maxLen at hn; have L := hid h.1; have H := hid h; clear h; have H' := hid h'; clear h'; have RR := hid hr; clear hr; have hw0 := below1 w (.cells #[.string nm, .slice B m d] 49); have X0 := hid (Box.new w (.string nm) (.slice B m d) 49); go_enter Tryz.func122, Tryz.ntmps122; go_wp2; go_loopw [6] (fun i wr => ∃ k : Nat, k ≤ n ∧ i = .int .i64 k ∧ (∀ j y, j < k → xs[j]? = some y → atomCmp y (nm, ts) < 0) ∧ Below (w.alloc (.cells #[.string nm, .slice B m d] 49)).heap.size (w.alloc (.cells #[.string nm, .slice B m d] 49)) wr) (fun i _ => n - (intOf i).toNat)
  case atStart => exact ⟨0, Nat.zero_le _, rfl, fun j y hj => absurd hj (Nat.not_lt_zero _), Below.refl _ _⟩
  case round =>
    obtain ⟨k, hk, rfl, hl, hb⟩ := hrel; have HL := hid hl; clear hl; have HB := belowThen hw0 hb; obtain ⟨b0, b1, b2⟩ := X0.out.later hb; have e1 : wr.drew.cell? ⟨w.heap.size, 0, none⟩ = some (.string nm) := b1; have e2 : wr.drew.cell? ⟨w.heap.size, 1, none⟩ = some (.slice B m d) := b2; have hbd := hb.drew; have HU := hid (show IsTerms wr.drew 0 wr.drew.heap.size B m d ts from (H'.out.up HB).keep (fun _ _ _ => rfl) (nl _) (nl _)); by_cases hlt : k < n
    · obtain ⟨p, q, hA, hlo, hhi, hg, hE⟩ := (H.out.below AtomE.stays HB (nl _)).at_ hlt
      obtain ⟨A', n', c', d1, d3, d4, d5⟩ := hE.out; clear hE; have hpb : p.block < wr.heap.size := Nat.lt_of_lt_of_le hhi HB.size; subst hA; have HG := hid hg; clear hg; have HT := hid (d5.keep (w' := wr.drew) (lo' := 0) (hi' := wr.drew.heap.size) (fun _ _ _ => rfl) (nl _) HB.size); clear d5; have x1 : wr.drew.cell? (p.add (k * 2)) = some (.string q.1) := d1; have x2 : wr.drew.cell? ⟨(p.add (k * 2)).block, (p.add (k * 2)).off + 1, none⟩ = some (.slice A' n' c') := d4; by_cases hc : atomCmp q (nm, ts) < 0
      · have hc' : atomCmp (q.1, q.2) (nm, ts) < 0 := hc
        have E := hid (low_snoc HL.out HG.out hc); clear hc; go_wp2_with fail; refine wp_region_held_drew (S := fun W => (W.cell? ⟨w.heap.size, 0, none⟩ = some (.string nm) ∧ W.cell? ⟨w.heap.size, 1, none⟩ = some (.slice B m d)) ∧ W.cell? (p.add (k * 2)) = some (.string q.1) ∧ W.cell? ⟨(p.add (k * 2)).block, (p.add (k * 2)).off + 1, none⟩ = some (.slice A' n' c')) qae ⟨⟨e1, e2⟩, x1, x2⟩ ?_; intro hS_; refine tk 0 (.int .i64 (k : Int)) hS_ ?_; refine tk 1 (.slice (some p) n c) hS_ ?_; refine tk 2 (.int .i64 (n : Int)) hS_ ?_; refine tk 3 (.bool true) hS_ ?_; refine tk 4 (.bool true) hS_ ?_; refine tk 5 (.slice (some p) n c) hS_ ?_
        refine tk 6 (.int .i64 (k : Int)) hS_ ?_; refine tk 7 (.pointer (some (p.add (k * 2)))) hS_ ?_; refine tk 8 (.agg #[.string q.1, .slice A' n' c']) hS_ ?_; refine tk 9 (.agg #[.string nm, .slice B m d]) hS_ ?_; refine rd1 10 fun K_ hK_ => ?_; go_simp; go_at_call 123; refine (l1Cmp_any q.1 nm A' B n' c' m d q.2 ts _ HT.out HU.out).mono ?_; rintro e w1 ⟨rfl, hb1⟩; have y1 := (hb1.cell (p := ⟨w.heap.size, 0, none⟩) (b0)).trans b1; have y2 := (hb1.cell (p := ⟨w.heap.size, 1, none⟩) (b0)).trans b2; have y3 := (hb1.cell (p := p.add (k * 2)) qbb).trans d1; have y4 := (hb1.cell (p := ⟨(p.add (k * 2)).block, (p.add (k * 2)).off + 1, none⟩) qbb).trans d4
        refine hK_.out _ _ ⟨⟨y1, y2⟩, y3, y4⟩ (fun hS2_ => ?_); clear hK_ hS_; have hS_ := hS2_; clear hS2_; refine tk 11 (.bool true) hS_ ?_; refine tk 12 (.bool true) hS_ ?_; refine wpAnyH_done qae ?_ _; go_wp2; go_roundw
        case rel => exact ⟨k + 1, by omega, by go_num, E.out, belowThen hbd hb1⟩
        case measure => exact qms
      · have hc' : ¬ atomCmp (q.1, q.2) (nm, ts) < 0 := hc
        have E := hid (hasB_at RR.out HL.out HG.out (Int.not_lt.1 hc)); have EC := hid hc; clear hc; go_wp2_with fail; refine wp_region_held_drew (S := fun W => (W.cell? ⟨w.heap.size, 0, none⟩ = some (.string nm) ∧ W.cell? ⟨w.heap.size, 1, none⟩ = some (.slice B m d)) ∧ W.cell? (p.add (k * 2)) = some (.string q.1) ∧ W.cell? ⟨(p.add (k * 2)).block, (p.add (k * 2)).off + 1, none⟩ = some (.slice A' n' c')) qae ⟨⟨e1, e2⟩, x1, x2⟩ ?_; intro hS_; refine tk 0 (.int .i64 (k : Int)) hS_ ?_; refine tk 1 (.slice (some p) n c) hS_ ?_; refine tk 2 (.int .i64 (n : Int)) hS_ ?_; refine tk 3 (.bool true) hS_ ?_; refine tk 4 (.bool true) hS_ ?_
        refine tk 5 (.slice (some p) n c) hS_ ?_; refine tk 6 (.int .i64 (k : Int)) hS_ ?_; refine tk 7 (.pointer (some (p.add (k * 2)))) hS_ ?_; refine tk 8 (.agg #[.string q.1, .slice A' n' c']) hS_ ?_; refine tk 9 (.agg #[.string nm, .slice B m d]) hS_ ?_; refine rd1 10 fun K_ hK_ => ?_; go_simp; go_at_call 123; refine (l1Cmp_any q.1 nm A' B n' c' m d q.2 ts _ HT.out HU.out).mono ?_; rintro e w1 ⟨rfl, hb1⟩; have y1 := (hb1.cell (p := ⟨w.heap.size, 0, none⟩) (b0)).trans b1; have y2 := (hb1.cell (p := ⟨w.heap.size, 1, none⟩) (b0)).trans b2; have y3 := (hb1.cell (p := p.add (k * 2)) qbb).trans d1
        have y4 := (hb1.cell (p := ⟨(p.add (k * 2)).block, (p.add (k * 2)).off + 1, none⟩) qbb).trans d4; refine hK_.out _ _ ⟨⟨y1, y2⟩, y3, y4⟩ (fun hS2_ => ?_); clear hK_ hS_; have hS_ := hS2_; clear hS2_; refine tk 11 (.bool false) hS_ ?_; refine tk 12 (.bool false) hS_ ?_; refine wpAnyH_done qae ?_ _; have HT2 := hid (show IsTerms w1.drew 0 w1.drew.heap.size A' n' c' q.2 from (HT.out.up hb1).keep (fun _ _ _ => rfl) (nl _) (nl _)); have HU2 := hid (show IsTerms w1.drew 0 w1.drew.heap.size B m d ts from (HU.out.up hb1).keep (fun _ _ _ => rfl) (nl _) (nl _)); clear x1 x2 e1 e2; by_cases hz : atomCmp q (nm, ts) = 0
        · have hz' : atomCmp (q.1, q.2) (nm, ts) = 0 := hz
          have EB := hid (show hasB xs (nm, ts) = true by rw [E.out, decide_eq_true hz]); clear hz hc'; go_wp2_with fail; refine wp_region_held_drew (S := fun W => (W.cell? ⟨w.heap.size, 0, none⟩ = some (.string nm) ∧ W.cell? ⟨w.heap.size, 1, none⟩ = some (.slice B m d)) ∧ W.cell? (p.add (k * 2)) = some (.string q.1) ∧ W.cell? ⟨(p.add (k * 2)).block, (p.add (k * 2)).off + 1, none⟩ = some (.slice A' n' c')) qae ⟨⟨y1, y2⟩, y3, y4⟩ ?_; intro hS_; refine tk 0 (.int .i64 (k : Int)) hS_ ?_; refine tk 1 (.int .i64 (k : Int)) hS_ ?_; refine tk 2 (.slice (some p) n c) hS_ ?_; refine tk 3 (.int .i64 (n : Int)) hS_ ?_
          refine tk 4 (.bool true) hS_ ?_; refine tk 5 (.bool true) hS_ ?_; refine tk 6 (.slice (some p) n c) hS_ ?_; refine tk 7 (.int .i64 (k : Int)) hS_ ?_; refine tk 8 (.pointer (some (p.add (k * 2)))) hS_ ?_; refine tk 9 (.agg #[.string q.1, .slice A' n' c']) hS_ ?_; refine tk 10 (.agg #[.string nm, .slice B m d]) hS_ ?_; refine rd1 11 fun K_ hK_ => ?_; go_simp; go_at_call 123; refine (l1Cmp_any q.1 nm A' B n' c' m d q.2 ts _ HT2.out HU2.out).mono ?_; rintro e w2 ⟨rfl, hb2⟩; have z1 := (hb2.cell (p := ⟨w.heap.size, 0, none⟩) (Nat.lt_of_lt_of_le b0 hb1.size)).trans y1
          have z2 := (hb2.cell (p := ⟨w.heap.size, 1, none⟩) (Nat.lt_of_lt_of_le b0 hb1.size)).trans y2; have z3 := (hb2.cell (p := p.add (k * 2)) qbz).trans y3; have z4 := (hb2.cell (p := ⟨(p.add (k * 2)).block, (p.add (k * 2)).off + 1, none⟩) qbz).trans y4; refine hK_.out _ _ ⟨⟨z1, z2⟩, z3, z4⟩ (fun hS2_ => ?_); clear hK_ hS_; have hS_ := hS2_; clear hS2_; refine tk 12 (.bool true) hS_ ?_; refine tk 13 (.bool true) hS_ ?_; refine tk 14 (.int .i64 (k : Int)) hS_ ?_; refine tk 15 (.bool true) hS_ ?_; refine wpAnyH_done qae ?_ _; go_wp2; go_ret2; exact ⟨k, ⟨by rw [EB.out]; rfl, hk, HL.out, fun y hy => by have := HG.out; rw [this] at hy; injection hy with hy; subst hy; have := EC.out; omega⟩, belowThen hw0 (belowThen hbd (belowThen hb1 (undrew hb2)))⟩
        · have hz' : ¬ atomCmp (q.1, q.2) (nm, ts) = 0 := hz
          have EB := hid (show hasB xs (nm, ts) = false by rw [E.out, decide_eq_false hz]); clear hz hc'; go_wp2_with fail; refine wp_region_held_drew (S := fun W => (W.cell? ⟨w.heap.size, 0, none⟩ = some (.string nm) ∧ W.cell? ⟨w.heap.size, 1, none⟩ = some (.slice B m d)) ∧ W.cell? (p.add (k * 2)) = some (.string q.1) ∧ W.cell? ⟨(p.add (k * 2)).block, (p.add (k * 2)).off + 1, none⟩ = some (.slice A' n' c')) qae ⟨⟨y1, y2⟩, y3, y4⟩ ?_; intro hS_; refine tk 0 (.int .i64 (k : Int)) hS_ ?_; refine tk 1 (.int .i64 (k : Int)) hS_ ?_; refine tk 2 (.slice (some p) n c) hS_ ?_; refine tk 3 (.int .i64 (n : Int)) hS_ ?_
          refine tk 4 (.bool true) hS_ ?_; refine tk 5 (.bool true) hS_ ?_; refine tk 6 (.slice (some p) n c) hS_ ?_; refine tk 7 (.int .i64 (k : Int)) hS_ ?_; refine tk 8 (.pointer (some (p.add (k * 2)))) hS_ ?_; refine tk 9 (.agg #[.string q.1, .slice A' n' c']) hS_ ?_; refine tk 10 (.agg #[.string nm, .slice B m d]) hS_ ?_; refine rd1 11 fun K_ hK_ => ?_; go_simp; go_at_call 123; refine (l1Cmp_any q.1 nm A' B n' c' m d q.2 ts _ HT2.out HU2.out).mono ?_; rintro e w2 ⟨rfl, hb2⟩; have z1 := (hb2.cell (p := ⟨w.heap.size, 0, none⟩) (Nat.lt_of_lt_of_le b0 hb1.size)).trans y1
          have z2 := (hb2.cell (p := ⟨w.heap.size, 1, none⟩) (Nat.lt_of_lt_of_le b0 hb1.size)).trans y2; have z3 := (hb2.cell (p := p.add (k * 2)) qbz).trans y3; have z4 := (hb2.cell (p := ⟨(p.add (k * 2)).block, (p.add (k * 2)).off + 1, none⟩) qbz).trans y4; refine hK_.out _ _ ⟨⟨z1, z2⟩, z3, z4⟩ (fun hS2_ => ?_); clear hK_ hS_; have hS_ := hS2_; clear hS2_; refine tk 12 (.bool false) hS_ ?_; refine tk 13 (.bool false) hS_ ?_; refine tk 14 (.int .i64 (k : Int)) hS_ ?_; refine tk 15 (.bool false) hS_ ?_; refine wpAnyH_done qae ?_ _; go_wp2; go_ret2; exact ⟨k, ⟨by rw [EB.out]; rfl, hk, HL.out, fun y hy => by have := HG.out; rw [this] at hy; injection hy with hy; subst hy; have := EC.out; omega⟩, belowThen hw0 (belowThen hbd (belowThen hb1 (undrew hb2)))⟩
    · have E := hid (hasB_end L.out HL.out hlt)
      have E2 := hid (show ∀ y, xs[k]? = some y → 0 ≤ atomCmp y (nm, ts) from fun y hy => absurd (List.getElem?_eq_some_iff.1 hy).1 (by have := L.out; omega)); go_wp2_with fail; refine wp_region_held_drew (S := fun W => (W.cell? ⟨w.heap.size, 0, none⟩ = some (.string nm) ∧ W.cell? ⟨w.heap.size, 1, none⟩ = some (.slice B m d))) qae ⟨e1, e2⟩ ?_; intro hS_; refine tk 0 (.int .i64 (k : Int)) hS_ ?_; refine tk 1 (.slice A n c) hS_ ?_; refine tk 2 (.int .i64 (n : Int)) hS_ ?_; refine tk 3 (.bool false) hS_ ?_; refine tk 4 (.bool false) hS_ ?_; refine sk 5 hS_ ?_; refine sk 6 hS_ ?_; refine sk 7 hS_ ?_; refine sk 8 hS_ ?_
      refine sk 9 hS_ ?_; refine sk 10 hS_ ?_; refine sk 11 hS_ ?_; refine tk 12 (.bool false) hS_ ?_; refine wpAnyH_done qae ?_ _; have hbd2 := hbd.drew; clear e1 e2; have e1 : wr.drew.drew.cell? ⟨w.heap.size, 0, none⟩ = some (.string nm) := b1; have e2 : wr.drew.drew.cell? ⟨w.heap.size, 1, none⟩ = some (.slice B m d) := b2; go_wp2_with fail; refine wp_region_held_drew (S := fun W => (W.cell? ⟨w.heap.size, 0, none⟩ = some (.string nm) ∧ W.cell? ⟨w.heap.size, 1, none⟩ = some (.slice B m d))) qae ⟨e1, e2⟩ ?_; intro hS_; refine tk 0 (.int .i64 (k : Int)) hS_ ?_; refine tk 1 (.int .i64 (k : Int)) hS_ ?_
      refine tk 2 (.slice A n c) hS_ ?_; refine tk 3 (.int .i64 (n : Int)) hS_ ?_; refine tk 4 (.bool false) hS_ ?_; refine tk 5 (.bool false) hS_ ?_; refine sk 6 hS_ ?_; refine sk 7 hS_ ?_; refine sk 8 hS_ ?_; refine sk 9 hS_ ?_; refine sk 10 hS_ ?_; refine sk 11 hS_ ?_; refine sk 12 hS_ ?_; refine tk 13 (.bool false) hS_ ?_; refine tk 14 (.int .i64 (k : Int)) hS_ ?_; refine tk 15 (.bool false) hS_ ?_; refine wpAnyH_done qae ?_ _; go_wp2; go_ret2; exact ⟨k, ⟨by rw [E.out]; rfl, hk, HL.out, E2.out⟩, belowThen hw0 hbd2⟩
theorem factsB_rises {m : Nat} {xs : List At} (h : factsB m xs = true) : risesB xs = true := by
  unfold factsB at h; simp only [Bool.and_eq_true] at h; exact h.1.2
theorem factsB_len {m : Nat} {xs : List At} (h : factsB m xs = true) : xs.length ≤ m := by
  unfold factsB at h; simp only [Bool.and_eq_true, decide_eq_true_eq] at h; exact h.2
theorem l3Has_any (A : Option Addr) (n c : Nat) (xs : List At) (nm : ByteArray) (B : Option Addr) (m d : Nat) (ts : List Tm) (w : World) (h : IsAtoms w 0 w.heap.size A n c xs) (h' : IsTerms w 0 w.heap.size B m d ts) (hr : risesB xs = true) :
    Calls Tryz.prog 79 #[.slice A n c, .agg #[.string nm, .slice B m d]] w (BoolPost (hasB xs (nm, ts)) w) := by
  have H := hid h; clear h; have H' := hid h'; clear h'; have hw0 := below1 w (.cells #[.string nm, .slice B m d] 49); go_enter Tryz.func79, Tryz.ntmps79; go_wp2_with fail; refine (l3At_any _ _ _ xs nm B m d ts _ (H.out.up AtomE.stays hw0) (H'.out.up hw0) hr).mono ?_; rintro e w1 ⟨k, ⟨rfl, _, _, _⟩, hb1⟩; go_wp2; go_ret; exact ⟨rfl, belowThen hw0 hb1⟩
end Go.Proofs.YtcigljngiemdeaaGreat

namespace Go.Proofs.YtcigljngiemdeaaGreat
theorem hasB_cons (b : At) (l : List At) (a : At) : hasB (b :: l) a = (decide (atomCmp b a = 0) || hasB l a) := by
  unfold hasB; rw [List.any_cons]
theorem rises_cons {x : At} {l : List At} (h : ∀ y ∈ l, atomCmp x y < 0) (hl : risesB l = true) : risesB (x :: l) = true := by
  cases l with
  | nil => rfl
  | cons y l =>
    show (decide (atomCmp x y < 0) && risesB (y :: l)) = true; rw [decide_eq_true (h y qad), hl]; rfl
end Go.Proofs.YtcigljngiemdeaaGreat

namespace Go.Proofs.YtcigljngiemdeaaGreat
def ltB (a y : At) : Bool := decide (atomCmp y a < 0)
def insL (xs : List At) (a : At) : List At := xs.takeWhile (ltB a) ++ a :: xs.dropWhile (ltB a)
def putL (xs : List At) (a : At) : List At := if hasB xs a then xs else insL xs a
theorem place_take : ∀ {xs : List At} {a : At} {k : Nat}, k ≤ xs.length → (∀ j y, j < k → xs[j]? = some y → atomCmp y a < 0) → (∀ y, xs[k]? = some y → 0 ≤ atomCmp y a) → xs.takeWhile (ltB a) = xs.take k ∧ xs.dropWhile (ltB a) = xs.drop k
  | [], a, k, hk, _, _ => by simp
  | x :: xs, a, 0, _, _, h => by
    have h0 := h x rfl; have e : ltB a x = false := by unfold ltB; rw [decide_eq_false qaa]
    constructor
    · rw [List.takeWhile_cons, e]; rfl
    · rw [List.dropWhile_cons, e]; rfl
  | x :: xs, a, k + 1, hk, hl, h => by
    have h0 := hl 0 x qaa rfl; have e : ltB a x = true := by unfold ltB; rw [decide_eq_true h0]
    obtain ⟨i1, i2⟩ := place_take (xs := xs) (a := a) (k := k) qde (fun j y hj hy => hl (j + 1) y qaa (by simpa using hy)) (fun y hy => h y (by simpa using hy)); constructor
    · rw [List.takeWhile_cons, e, List.take_succ_cons, ← i1]; rfl
    · rw [List.dropWhile_cons, e, List.drop_succ_cons, ← i2]; rfl
theorem place_ins {xs : List At} {a : At} {k : Nat} (hk : k ≤ xs.length) (hl : ∀ j y, j < k → xs[j]? = some y → atomCmp y a < 0) (h : ∀ y, xs[k]? = some y → 0 ≤ atomCmp y a) : insL xs a = xs.take k ++ a :: xs.drop k := by
  obtain ⟨e1, e2⟩ := place_take hk hl h; unfold insL; rw [e1, e2]
theorem mem_ins (xs : List At) (a y : At) : y ∈ insL xs a ↔ y ∈ xs ∨ y = a := by
  unfold insL
  conv => rhs; rw [← List.takeWhile_append_dropWhile (p := ltB a) (l := xs)]
  simp only [List.mem_append, List.mem_cons]; constructor
  · rintro (h | h | h)
    · exact .inl (.inl h)
    · exact .inr h
    · exact .inl (.inr h)
  · rintro ((h | h) | h)
    · exact .inl h
    · exact .inr (.inr h)
    · exact .inr (.inl h)
theorem ins_rises : ∀ {xs : List At} {a : At}, risesB xs = true → hasB xs a = false → risesB (insL xs a) = true
  | [], a, _, _ => rfl
  | x :: xs, a, h, hn => by
    rw [hasB_cons, Bool.or_eq_false_iff, decide_eq_false_iff_not] at hn; unfold insL; by_cases h1 : atomCmp x a < 0
    · have e : ltB a x = true := by unfold ltB; rw [decide_eq_true h1]
      rw [List.takeWhile_cons, List.dropWhile_cons, e]; have ih := ins_rises (rises_tail h) hn.2; refine rises_cons (fun y hy => ?_) ih; rcases (mem_ins xs a y).1 hy with h2 | h2
      · exact rises_head h y h2
      · rw [h2]; exact h1
    · have e : ltB a x = false := by unfold ltB; rw [decide_eq_false h1]
      rw [List.takeWhile_cons, List.dropWhile_cons, e]; have hax : atomCmp a x < 0 := by have := atomCmp_anti x a; omega
      refine rises_cons (fun y hy => ?_) h; rcases List.mem_cons.1 hy with h2 | h2
      · rw [h2]; exact hax
      · exact atomCmp_strict hax (by have := rises_head h y h2; omega)
theorem put_rises {xs : List At} {a : At} (h : risesB xs = true) : risesB (putL xs a) = true := by
  unfold putL; by_cases e : hasB xs a = true
  · rw [if_pos e]; exact h
  · rw [if_neg e]; exact ins_rises h (by simpa using e)
theorem put_len (xs : List At) (a : At) : (putL xs a).length ≤ xs.length + 1 := by
  unfold putL insL; split
  · omega
  · have := congrArg List.length (List.takeWhile_append_dropWhile (p := ltB a) (l := xs))
    rw [List.length_append] at this; rw [List.length_append, List.length_cons]; omega
end Go.Proofs.YtcigljngiemdeaaGreat

namespace Go.Proofs.YtcigljngiemdeaaGreat
open Go.RowKit
structure Ex (α : Type) where
  lo : Nat
  hi : Nat
  vs : List Value
  x : α
abbrev Tells0 (α : Type) := World → Nat → Nat → List Value → α → Prop
def TKeep {α : Type} (V : Tells0 α) : Prop := ∀ (W W' : World) (lo hi : Nat) (vs : List Value) (x : α), V W lo hi vs x → (∀ b, lo ≤ b → b < hi → W'.heap[b]? = W.heap[b]?) → V W' lo hi vs x
def ecells {α : Type} (xs : List (Ex α)) : List Value := xs.flatMap (·.vs)
section
variable {α : Type} {T : TypeId} {sz a : Nat} {V : Tells0 α} {w W W' W9 : World} {v : Value} {xs : List (Ex α)} {x : Ex α}
theorem ecells_snoc : ecells (xs ++ [x]) = ecells xs ++ x.vs := by
  unfold ecells; rw [List.flatMap_append, List.flatMap_singleton]
theorem ecells_at : ∀ {xs : List (Ex α)} {i : Nat} {x : Ex α}, (∀ y ∈ xs, y.vs.length = sz) → xs[i]? = some x → ∀ j, j < sz → (ecells xs)[i * sz + j]? = x.vs[j]?
  | [], i, x, _, h, _, _ => by simp at h
  | y :: xs, 0, x, hl, h, j, hj => by
    simp at h; subst h; have := hl y qad; show (y.vs ++ ecells xs)[0 * sz + j]? = _
    rw [Nat.zero_mul, Nat.zero_add, List.getElem?_append_left qaa]
  | y :: xs, i + 1, x, hl, h, j, hj => by
    have hy := hl y qad; have ih := ecells_at (xs := xs) (i := i) (x := x) (fun z hz => hl z (by simp [hz])) qbd j hj; show (y.vs ++ ecells xs)[(i + 1) * sz + j]? = _; rw [Nat.add_mul, Nat.one_mul, List.getElem?_append_right qaa, ← ih]; congr 1; omega
theorem ecells_len : ∀ {xs : List (Ex α)}, (∀ y ∈ xs, y.vs.length = sz) → (ecells xs).length = xs.length * sz
  | [], _ => by simp [ecells]
  | y :: xs, hl => by
    have hy := hl y qad; have ih := ecells_len (xs := xs) (fun z hz => hl z (by simp [hz])); show (y.vs ++ ecells xs).length = _; rw [List.length_append, ih, hy, List.length_cons, Nat.add_mul, Nat.one_mul, Nat.add_comm]
structure GR (T : TypeId) (sz : Nat) (V : Tells0 α) (w : World) (a : Nat) (v : Value) (xs : List (Ex α)) (W : World) : Prop where
  K : W.ownsRow a T sz v xs.length (ecells xs)
  O : ∀ x ∈ xs, x.vs.length = sz ∧ V W x.lo x.hi x.vs x.x ∧ x.hi ≤ W.heap.size ∧ ∀ g, v.ownBlock = some g → g < x.lo ∨ x.hi ≤ g
  h0 : w.heap.size ≤ a
  gr : Below w.heap.size w W
theorem GR.below (h : GR T sz V w a v xs W) (hV : TKeep V) (hb : Below W.heap.size W W') : GR T sz V w a v xs W' := by
  have hs := h.gr.size; have hbs := hb.size
  exact ⟨ownsRow_up h.K hb, fun x hx => by
    obtain ⟨o0, o1, o2, o3⟩ := h.O x hx; exact ⟨o0, hV _ _ _ _ _ _ o1 (fun b _ h2 => hb.block b qaa), by omega, o3⟩, h.h0, h.gr.trans (hb.mono hs)⟩
theorem GR.start (v : Value) (hw : W.ownsRow a T sz v 0 []) (h0 : w.heap.size ≤ a) (hb : Below w.heap.size w W) : GR T sz V w a v ([] : List (Ex α)) W :=
  ⟨hw, fun x hx => by simp at hx, h0, hb⟩
theorem GR.more {n' cap g' : Nat} {W1 : World} (h : GR T sz V w a v xs W) (hV : TKeep V) (hb1 : Below W.heap.size W W1) (hl : x.vs.length = sz) (ho : V W1 x.lo x.hi x.vs x.x) (h2 : x.hi ≤ W1.heap.size) (hr : ∀ g, v.ownBlock = some g → g < x.lo ∨ x.hi ≤ g)
    (hown : W9.ownsRow a T sz (.slice (some ⟨g', 0, none⟩) n' cap) (xs.length + 1) (ecells xs ++ x.vs)) (hgrow : W1.grownBy W9 v.ownBlock) (hat : v.ownBlock = some g' ∨ g' = W1.heap.size) :
    GR T sz V w a (.slice (some ⟨g', 0, none⟩) n' cap) (xs ++ [x]) W9 := by
  have hA := h.below hV hb1; have hgs := hgrow.size; have hs := h.gr.size; have hh0 := h.h0; have hbs := hb1.size; refine ⟨by rw [List.length_append, ecells_snoc]; exact hown, fun y hy => ?_, h.h0, ?_⟩
  · have hy1 : y.vs.length = sz ∧ V W9 y.lo y.hi y.vs y.x ∧ y.hi ≤ W1.heap.size ∧ ∀ g, v.ownBlock = some g → g < y.lo ∨ y.hi ≤ g := by
      rcases List.mem_append.1 hy with hy | hy
      · obtain ⟨o0, o1, o2, o3⟩ := hA.O y hy
        exact ⟨o0, hV _ _ _ _ _ _ o1 (fun c c1 c2 => hgrow.block c qaa (fun e => by rcases o3 c e.symm with h | h <;> omega)), o2, o3⟩
      · rw [List.mem_singleton.1 hy]
        exact ⟨hl, hV _ _ _ _ _ _ ho (fun c c1 c2 => hgrow.block c qaa (fun e => by rcases hr c e.symm with h | h <;> omega)), h2, hr⟩
    obtain ⟨o0, o1, o2, o3⟩ := hy1; refine ⟨o0, o1, by omega, fun g e => ?_⟩; simp [Value.ownBlock] at e; subst e; rcases hat with e | e
    · exact o3 _ e
    · right; omega
  · exact ⟨hgrow.os.trans hA.gr.os, hgrow.tape.trans hA.gr.tape, hgrow.output.trans hA.gr.output, by omega, fun k hk => (hgrow.block k qaa (fun e => by have := (hA.K.lt k e.symm).1; omega)).trans (hA.gr.block k hk)⟩
theorem GR.seq {E : World → Nat → Nat → Addr → α → Prop} {A : Option Addr} {c : Nat} (h : GR T sz V w a (.slice A xs.length c) xs W) (hE : ∀ (p : Addr) (x : Ex α), x ∈ xs → V W x.lo x.hi x.vs x.x → (∀ j u, x.vs[j]? = some u → W.cell? ⟨p.block, p.off + j, none⟩ = some u) → p.spot = none → x.hi ≤ W.heap.size → E W 0 W.heap.size p x.x) : IsSeq sz E W 0 W.heap.size A xs.length c (xs.map (·.x)) := by
  rcases h.K.2 with ⟨e, h0⟩ | ⟨g, cap, cur, e, hb, hgb, hle, hcap, hsz, htk⟩
  · injection e with e1 e2 e3
    subst e1; subst e3; exact ⟨List.length_map _, by omega, by unfold maxLen; omega, fun hp => by omega⟩
  · injection e with e1 e2 e3
    subst e1; subst e3; have hlt := (Array.getElem?_eq_some_iff.1 hgb).1; refine ⟨List.length_map _, hle, hcap, fun _ => ⟨_, rfl, Nat.zero_le _, hlt, fun i x hx => ?_⟩⟩; rw [List.getElem?_map] at hx; obtain ⟨f, hf, rfl⟩ := Option.map_eq_some_iff.1 hx; have hi := (List.getElem?_eq_some_iff.1 hf).1; have hfm := List.mem_of_getElem? hf; have a0 : ∀ j, (⟨g, 0, none⟩ : Addr).add j = ⟨g, j, none⟩ := fun j => by unfold Addr.add; split <;> simp_all
    obtain ⟨o0, o1, o2, _⟩ := h.O f hfm; have hall : ∀ y ∈ xs, y.vs.length = sz := fun y hy => (h.O y hy).1; rw [a0]; refine hE _ f hfm o1 (fun j u hu => ?_) rfl o2; have hj : j < sz := by have := (List.getElem?_eq_some_iff.1 hu).1; omega
    have hc := ecells_at hall hf j hj; rw [hu, ← htk] at hc; have hlen := ecells_len hall
    have hm : i * sz + j < xs.length * sz := by
      have := Nat.mul_le_mul_right sz (show i + 1 ≤ xs.length by omega); rw [Nat.add_mul, Nat.one_mul] at this; omega
    rw [List.getElem?_take, if_pos hm] at hc; show W.cell? ⟨g, i * sz + j, none⟩ = some u; unfold World.cell?; rw [hgb]; simpa using hc
end
abbrev Bd := List (ByteArray × ByteArray)
def BindE (w : World) (lo hi : Nat) (p : Addr) (b : Bd) : Prop :=
  (∃ A n c, w.cell? p = some (.slice A n c) ∧ IsTexts w lo hi A n c (b.map (·.1))) ∧ (∃ B m d, w.cell? (nextTo p 1) = some (.slice B m d) ∧ IsTexts w lo hi B m d (b.map (·.2)))
theorem BindE.stays : Stays BindE := by
  intro w w' lo hi lo' hi' p a ⟨⟨A, n, c, h3, h4⟩, ⟨B, m, d, h5, h6⟩⟩ hp1 hp2 hk hl hh; exact ⟨⟨A, n, c, (hk p hp1 hp2).trans h3, h4.keep TextE.stays hk hl hh⟩, ⟨B, m, d, (hk (nextTo p 1) hp1 hp2).trans h5, h6.keep TextE.stays hk hl hh⟩⟩
theorem BindE.out {w : World} {lo hi : Nat} {p : Addr} {b : Bd} (h : BindE w lo hi p b) : ∃ A n c B m d, w.cell? p = some (.slice A n c) ∧ w.cell? ⟨p.block, p.off + 1, none⟩ = some (.slice B m d) ∧ IsTexts w lo hi A n c (b.map (·.1)) ∧ IsTexts w lo hi B m d (b.map (·.2)) := by
  obtain ⟨⟨A, n, c, h3, h4⟩, ⟨B, m, d, h5, h6⟩⟩ := h; exact ⟨A, n, c, B, m, d, h3, h5, h4, h6⟩
abbrev IsBinds := IsSeq 2 BindE
def BindV : Tells0 Bd := fun W lo hi vs b => ∃ A n c B m d, vs = [.slice A n c, .slice B m d] ∧ IsTexts W lo hi A n c (b.map (·.1)) ∧ IsTexts W lo hi B m d (b.map (·.2))
theorem BindV.keep : TKeep BindV := fun _ _ _ _ _ _ ⟨A, n, c, B, m, d, h1, h2, h3⟩ hk =>
  ⟨A, n, c, B, m, d, h1, h2.keep TextE.stays (fun q h1 h2 => cb_ (hk q.block h1 h2)) (nl _) (nl _), h3.keep TextE.stays (fun q h1 h2 => cb_ (hk q.block h1 h2)) (nl _) (nl _)⟩
theorem BindV.reads {W : World} {T : TypeId} {w : World} {a c : Nat} {A : Option Addr} {xs : List (Ex Bd)} (h : GR T 2 BindV w a (.slice A xs.length c) xs W) : IsBinds W 0 W.heap.size A xs.length c (xs.map (·.x)) :=
  h.seq (fun p x _ hx hc hp hh => by
    obtain ⟨A, n, c, B, m, d, h1, h2, h3⟩ := hx; obtain ⟨b, o, s⟩ := p; simp only at hp; subst hp; exact ⟨⟨A, n, c, hc 0 _ (by rw [h1]; rfl), h2.keep TextE.stays (fun _ _ _ => rfl) (Nat.zero_le _) hh⟩, ⟨B, m, d, hc 1 _ (by rw [h1]; rfl), h3.keep TextE.stays (fun _ _ _ => rfl) (Nat.zero_le _) hh⟩⟩)
def getW : Bd → ByteArray → Option ByteArray
  | [], _ => none
  | q :: b, x => if q.1 = x then some q.2 else getW b x
theorem getW_hit : ∀ {b : Bd} {x : ByteArray} {k : Nat} {q : ByteArray × ByteArray}, (∀ j r, j < k → b[j]? = some r → r.1 ≠ x) → b[k]? = some q → q.1 = x → getW b x = some q.2
  | [], x, k, q, _, h, _ => by simp at h
  | r :: b, x, 0, q, _, h, hx => by
    simp at h; subst h
    unfold getW; rw [if_pos hx]
  | r :: b, x, k + 1, q, hl, h, hx => by
    unfold getW; rw [if_neg (hl 0 r qaa rfl)]; exact getW_hit (k := k) (fun j s hj hs => hl (j + 1) s qaa (by simpa using hs)) qbd hx
theorem getW_none : ∀ {b : Bd} {x : ByteArray}, (∀ q ∈ b, q.1 ≠ x) → getW b x = none
  | [], _, _ => rfl
  | r :: b, x, h => by
    unfold getW; rw [if_neg (h r qad)]; exact getW_none (fun q hq => h q qdr)
theorem getW_mem : ∀ {b : Bd} {x v : ByteArray}, getW b x = some v → (x, v) ∈ b
  | [], _, _, h => by simp [getW] at h
  | r :: b, x, v, h => by
    unfold getW at h; split at h
    · rename_i e
      injection h with h; subst h; subst e; exact List.mem_cons_self
    · exact List.mem_cons_of_mem _ (getW_mem h)
def wordT (b : Bd) (t : Tm) : ByteArray := if t.1 = true then (getW b t.2).getD ByteArray.empty else t.2
def matchT : List Tm → List Tm → Bd → Option Bd
  | t :: ts, u :: us, b => if t.1 = true ∧ getW b t.2 = none then matchT ts us (b ++ [(t.2, u.2)]) else if wordT b t = u.2 then matchT ts us b else none
  | _, _, b => some b
def matchA (a f : At) (b : Bd) : Option Bd := if a.1 = f.1 ∧ a.2.length = f.2.length then matchT a.2 f.2 b else none
def fillT (b : Bd) (t : Tm) : Tm := (false, wordT b t)
def fillA (a : At) (b : Bd) : At := (a.1, a.2.map (fillT b))
theorem matchT_nil (us : List Tm) (b : Bd) : matchT [] us b = some b := by cases us <;> rfl
theorem matchT_nil2 (ts : List Tm) (b : Bd) : matchT ts [] b = some b := by cases ts <;> rfl
section
variable {ts us : List Tm} {k : Nat} {t u : Tm} {b : Bd}
theorem matchT_free (h : ts[k]? = some t) (h' : us[k]? = some u) (h1 : t.1 = true) (h2 : getW b t.2 = none) : matchT (ts.drop k) (us.drop k) b = matchT (ts.drop (k + 1)) (us.drop (k + 1)) (b ++ [(t.2, u.2)]) := by
  obtain ⟨e1, e2⟩ := List.getElem?_eq_some_iff.1 h; obtain ⟨e3, e4⟩ := List.getElem?_eq_some_iff.1 h'; rw [List.drop_eq_getElem_cons e1, List.drop_eq_getElem_cons e3, e2, e4, matchT, if_pos ⟨h1, h2⟩]
theorem matchT_same (h : ts[k]? = some t) (h' : us[k]? = some u) (h1 : ¬ (t.1 = true ∧ getW b t.2 = none)) (h2 : wordT b t = u.2) : matchT (ts.drop k) (us.drop k) b = matchT (ts.drop (k + 1)) (us.drop (k + 1)) b := by
  obtain ⟨e1, e2⟩ := List.getElem?_eq_some_iff.1 h; obtain ⟨e3, e4⟩ := List.getElem?_eq_some_iff.1 h'; rw [List.drop_eq_getElem_cons e1, List.drop_eq_getElem_cons e3, e2, e4, matchT, if_neg h1, if_pos h2]
theorem matchT_no (h : ts[k]? = some t) (h' : us[k]? = some u) (h1 : ¬ (t.1 = true ∧ getW b t.2 = none)) (h2 : wordT b t ≠ u.2) : matchT (ts.drop k) (us.drop k) b = none := by
  obtain ⟨e1, e2⟩ := List.getElem?_eq_some_iff.1 h; obtain ⟨e3, e4⟩ := List.getElem?_eq_some_iff.1 h'; rw [List.drop_eq_getElem_cons e1, List.drop_eq_getElem_cons e3, e2, e4, matchT, if_neg h1, if_neg h2]
theorem matchT_end (hk : ¬ k < ts.length) : matchT (ts.drop k) (us.drop k) b = some b := by
  rw [List.drop_eq_nil_of_le qaa, matchT_nil]
end
def SmallBd (K : Nat) (b : Bd) : Prop := b.length ≤ K ∧ ∀ q ∈ b, q.2.size ≤ maxLen
theorem SmallBd.up {K K' : Nat} {b : Bd} (h : SmallBd K b) (hk : K ≤ K') : SmallBd K' b := ⟨Nat.le_trans h.1 hk, h.2⟩
theorem SmallBd.snoc {K : Nat} {b : Bd} {x v : ByteArray} (h : SmallBd K b) (hv : v.size ≤ maxLen) : SmallBd (K + 1) (b ++ [(x, v)]) := by
  refine ⟨by rw [List.length_append]; have := h.1; simp; omega, fun q hq => ?_⟩; rcases List.mem_append.1 hq with h1 | h1
  · exact h.2 q h1
  · rw [List.mem_singleton.1 h1]; exact hv
theorem wordT_size {K : Nat} {b : Bd} {t : Tm} (h : SmallBd K b) (ht : t.2.size ≤ maxLen) : (wordT b t).size ≤ maxLen := by
  unfold wordT; split
  · cases hg : getW b t.2 with
    | none => show ByteArray.empty.size ≤ _; simp
    | some v => exact h.2 _ (getW_mem hg)
  · exact ht
theorem matchT_small : ∀ {ts us : List Tm} {b b' : Bd} {K : Nat}, SmallBd K b → (∀ u ∈ us, u.2.size ≤ maxLen) → matchT ts us b = some b' → SmallBd (K + ts.length) b'
  | [], us, b, b', K, h, _, e => by rw [matchT_nil] at e; injection e with e; subst e; exact h
  | t :: ts, [], b, b', K, h, _, e => by
    rw [matchT_nil2] at e; injection e with e; subst e; exact h.up qaa
  | t :: ts, u :: us, b, b', K, h, hu, e => by
    rw [matchT] at e; split at e
    · have := matchT_small (h.snoc (x := t.2) (hu u qad)) (fun v hv => hu v (by simp [hv])) e
      rw [List.length_cons, show K + (ts.length + 1) = K + 1 + ts.length by omega]; exact this
    · split at e
      · exact (matchT_small h (fun v hv => hu v (by simp [hv])) e).up (by rw [List.length_cons]; omega)
      · cases e
theorem matchA_small {a f : At} {b b' : Bd} {K : Nat} (h : SmallBd K b) (hf : ∀ u ∈ f.2, u.2.size ≤ maxLen) (e : matchA a f b = some b') : SmallBd (K + a.2.length) b' := by
  unfold matchA at e; split at e
  · exact matchT_small h hf e
  · cases e
def fitsL (list : List At) (a : At) (b : Bd) : List Bd := list.filterMap fun f => matchA a f b
def stepB (list : List At) (out : List Bd) (q : Pt) : List Bd := if q.1 = true then out else out.flatMap (fitsL list q.2)
def allB (list : List At) (body : List Pt) : List Bd := body.foldl (stepB list) [[]]
def okB (list : List At) (body : List Pt) (b : Bd) : Bool := body.all fun q => !(q.1 && hasB list (fillA q.2 b))
def rowsB (list : List At) (body : List Pt) : List Bd := (allB list body).filter (okB list body)
theorem foldl_take {α β : Type} (f : β → α → β) (z : β) {xs : List α} {k : Nat} {x : α} (h : xs[k]? = some x) : (xs.take (k + 1)).foldl f z = f ((xs.take k).foldl f z) x := by
  rw [List.take_add_one, h, List.foldl_append]; rfl
theorem flatMap_take {α β : Type} (f : α → List β) {xs : List α} {k : Nat} {x : α} (h : xs[k]? = some x) : (xs.take (k + 1)).flatMap f = (xs.take k).flatMap f ++ f x := by
  rw [List.take_add_one, h, List.flatMap_append]; simp
theorem fits_len (list : List At) (a : At) (b : Bd) : (fitsL list a b).length ≤ list.length := List.length_filterMap_le _ _
theorem flat_len {α β : Type} {f : α → List β} {n : Nat} (h : ∀ x, (f x).length ≤ n) : ∀ xs : List α, (xs.flatMap f).length ≤ xs.length * n
  | [] => by simp
  | x :: xs => by
    have := flat_len h xs; have := h x; rw [List.flatMap_cons, List.length_append, List.length_cons, Nat.add_mul, Nat.one_mul]; omega
theorem stepB_len (list : List At) (out : List Bd) (q : Pt) : (stepB list out q).length ≤ out.length * (list.length + 1) := by
  unfold stepB; split
  · exact Nat.le_mul_of_pos_right _ qaa
  · exact Nat.le_trans (flat_len (fits_len list q.2) out) (Nat.mul_le_mul_left _ qaa)
theorem steps_len (list : List At) : ∀ (body : List Pt) (out : List Bd), (body.foldl (stepB list) out).length ≤ out.length * (list.length + 1) ^ body.length
  | [], out => by simp
  | q :: body, out => by
    have h1 := steps_len list body (stepB list out q); have h2 := Nat.mul_le_mul_right ((list.length + 1) ^ body.length) (stepB_len list out q); rw [List.foldl_cons, List.length_cons, Nat.pow_succ, Nat.mul_comm ((list.length + 1) ^ body.length), ← Nat.mul_assoc]; omega
theorem allB_len (list : List At) (body : List Pt) : (allB list body).length ≤ (list.length + 1) ^ body.length := by
  have := steps_len list body [[]]; unfold allB; simpa using this
theorem fits_small {list : List At} {a : At} {b b' : Bd} {K : Nat} (h : SmallBd K b) (hf : ∀ f ∈ list, ∀ u ∈ f.2, u.2.size ≤ maxLen) (e : b' ∈ fitsL list a b) : SmallBd (K + a.2.length) b' := by
  unfold fitsL at e; obtain ⟨f, hm, he⟩ := List.mem_filterMap.1 e; exact matchA_small h (hf f hm) he
theorem stepB_small {list : List At} {q : Pt} {out : List Bd} {K : Nat} (h : ∀ b ∈ out, SmallBd K b) (hf : ∀ f ∈ list, ∀ u ∈ f.2, u.2.size ≤ maxLen) (hq : q.2.2.length ≤ 64) : ∀ b ∈ stepB list out q, SmallBd (K + 64) b := by
  intro b hb; unfold stepB at hb; split at hb
  · exact (h b hb).up qaa
  · obtain ⟨c, hc, hb⟩ := List.mem_flatMap.1 hb
    exact (fits_small (h c hc) hf hb).up qaa
theorem steps_small {list : List At} (hf : ∀ f ∈ list, ∀ u ∈ f.2, u.2.size ≤ maxLen) : ∀ {body : List Pt} {out : List Bd} {K : Nat}, (∀ b ∈ out, SmallBd K b) → (∀ q ∈ body, q.2.2.length ≤ 64) → ∀ b ∈ body.foldl (stepB list) out, SmallBd (K + 64 * body.length) b
  | [], out, K, h, _, b, hb => by simpa using h b hb
  | q :: body, out, K, h, hq, b, hb => by
    have := steps_small hf (body := body) (stepB_small h hf (hq q qad)) (fun r hr => hq r qch) b hb; exact this.up (by rw [List.length_cons]; omega)
theorem allB_small {list : List At} (hf : ∀ f ∈ list, ∀ u ∈ f.2, u.2.size ≤ maxLen) {body : List Pt} (hq : ∀ q ∈ body, q.2.2.length ≤ 64) : ∀ b ∈ allB list body, SmallBd (64 * body.length) b := by
  intro b hb; have := steps_small hf (body := body) (out := [[]]) (K := 0) (fun c hc => by rw [List.mem_singleton.1 hc]; exact ⟨nl _, fun q hq => by simp at hq⟩) hq b hb; exact this.up qaa
def byRule (list : List At) (out : List At) (r : Rl) : List At := (rowsB list r.2).foldl (fun o b => putL o (fillA r.1 b)) out
def onceL (rs : List Rl) (lv : List Nat) (level : Nat) (list : List At) : List At := (rs.zip lv).foldl (fun out q => if q.2 = level then byRule list out q.1 else out) []
theorem fold_puts_rises {α : Type} (f : α → At) : ∀ (bs : List α) {xs : List At}, risesB xs = true → risesB (bs.foldl (fun o b => putL o (f b)) xs) = true
  | [], _, h => h
  | _ :: bs, _, h => fold_puts_rises f bs (put_rises h)
theorem fold_puts_len {α : Type} (f : α → At) : ∀ (bs : List α) (xs : List At), (bs.foldl (fun o b => putL o (f b)) xs).length ≤ xs.length + bs.length
  | [], xs => by simp
  | b :: bs, xs => by
    have := fold_puts_len f bs (putL xs (f b)); have := put_len xs (f b); rw [List.foldl_cons, List.length_cons]; omega
end Go.Proofs.YtcigljngiemdeaaGreat
