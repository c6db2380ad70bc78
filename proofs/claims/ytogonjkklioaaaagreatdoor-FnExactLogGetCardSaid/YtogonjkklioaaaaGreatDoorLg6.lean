/-
  Texts of one claim, put together.
-/
import Derived.Test.YtogonjkklioaaaaGreatDoorLg4
import Derived.Test.YtogonjkklioaaaaGreatDoorLg5
import Derived.Test.YtogonjkklioaaaaGreatDoorLg0
import Derived.Deep.RegionHeld3
import Derived.Deep.Slices
namespace Go.Proofs.YtogonjkklioaaaaGreatDoor
open Go.RowKit Go.Shelf
attribute [local go_sem] Oper.semAt_some

theorem factB_not {nm : ByteArray} {ts : List Tm} (h : (!atomB (nm, ts)) = true) : factB (nm, ts) = false := by
  unfold factB
  rw [show atomB (nm, ts) = false by simpa using h, Bool.and_false]

theorem factB_vars {nm : ByteArray} {ts : List Tm} (h : (!atomB (nm, ts)) = false) (hv : varsOf ts = []) : factB (nm, ts) = true := by
  unfold factB
  rw [show atomB (nm, ts) = true by simpa using h, varsOf_none.2 hv]; rfl

theorem factB_some {nm : ByteArray} {ts : List Tm} (hv : varsOf ts ≠ []) : factB (nm, ts) = false := by
  unfold factB
  cases h : wordsB ts
  · rfl
  · exact absurd (varsOf_none.1 h) hv

set_option maxRecDepth 100000 in
set_option maxHeartbeats 2000000 in
theorem factOk_any (nm : ByteArray) (A : Option Addr) (n c : Nat) (ts : List Tm) (w : World) (hs : nm.size ≤ maxLen) (h : IsTerms w 0 w.heap.size A n c ts) :
    Calls Tryz.prog 86 #[.agg #[.string nm, .slice A n c]] w (BoolPost (factB (nm, ts)) w) := by
  have H := Lib.hid h; clear h
  have hw0 := below2 w (.cells #[.string nm, .slice A n c] 51) (.cells #[.bool false] 4)
  refine (callsIn_wide (n := 5)).1 ?_
  refine callsIn_of_wp_marks Tryz.func86 rfl trivial ?_ rfl
  simp only [Tryz.ntmps86, List.size_toArray, List.length_cons, List.length_nil, Nat.reduceAdd, Nat.reduceSub, Array.replicate_succ, Array.replicate_zero, List.push_toArray, List.append_toArray, List.nil_append, List.cons_append]
  gi_wp2_with (refine ⟨trivial, ?_⟩; gi_at_call 57; refine (callsIn_wide.2 (implAtomOk_any nm A n c ts _ hs (H.out.up hw0))).mono ?_; rintro e w1 ⟨rfl, hb1⟩; have HB1 := belowThen hw0 hb1; obtain ⟨hc, hf⟩ := oldCells hb1; have hz1 : w.heap.size + 1 < w1.heap.size := (by have := hb1.size; simp at this; omega); have hz0 : w.heap.size < w1.heap.size := (by omega))
  · have hd : (!atomB (nm, ts)) = true := by assumption
    have c1 : w1.cell? ⟨w.heap.size + 1, 0, none⟩ = some (.bool false) := by rw [hc _ _ (by simp)]; simp [go_sem]
    exact ⟨.bool false, by simp [results, Tryz.f86, go_sem, c1], by rw [factB_not hd], HB1.setCell (by simp) _⟩
  · have hd : (!atomB (nm, ts)) = false := by assumption
    have HD := Lib.hid hd
    refine ⟨trivial, (callsIn_wide.2 (variablesOf_any nm A n c w1)).mono ?_⟩
    rintro e w' ⟨rfl, rfl⟩
    have c1 : w1.cell? ⟨w.heap.size + 1, 0, none⟩ = some (.bool false) := by rw [hc _ _ (by simp)]; simp [go_sem]
    have f1 : w1.frozen? ⟨w.heap.size + 1, 0, none⟩ = false := by rw [hf _ _ (by simp)]; simp [go_sem]
    have hw2 := below1 w1 (.cells #[.string nm, .slice A n c] 51)
    have HB2 := belowThen HB1 hw2
    have c2 := (hw2.cell (p := ⟨w.heap.size + 1, 0, none⟩) hz1).trans c1
    have f2 := (hw2.frozen (p := ⟨w.heap.size + 1, 0, none⟩) hz1).trans f1
    have b2 : (w1.alloc (.cells #[.string nm, .slice A n c] 51)).cell? ⟨w1.heap.size, 1, none⟩ = some (.slice A n c) := by simp [go_sem]
    have T2 : IsTerms (w1.alloc (.cells #[.string nm, .slice A n c] 51)) 0 w.heap.size A n c ts := H.out.below HB2 (Nat.le_refl _)
    have hs2 : w.heap.size ≤ (w1.alloc (.cells #[.string nm, .slice A n c] 51)).heap.size := HB2.size
    have hl2 : w1.heap.size < (w1.alloc (.cells #[.string nm, .slice A n c] 51)).heap.size := by simp
    gi_wp2
    refine wpIn_rangeFunc_ownF rfl (by omega) (gf := 153) (lb := #[.pointer (some ⟨w1.heap.size, 0, none⟩)]) rfl trivial (enters_of Tryz.func153 (by kernel_rfl) rfl)
      (vars_stops (5 - 1) (by omega) w1.heap.size w.heap.size A n c ts _ hl2 hs2 b2 T2) belowK_t (belowK_b hs2) (Below.refl _ _) (fun _ => rfl)
      (fun pre W => (pre = [] ∧ W.cell? ⟨w.heap.size + 1, 0, none⟩ = some (.bool false) ∧ W.frozen? ⟨w.heap.size + 1, 0, none⟩ = false) ∧ Below w.heap.size w W)
      (fun c pre W => (c = .ret ∧ pre ≠ [] ∧ W.cell? ⟨w.heap.size + 1, 0, none⟩ = some (.bool false)) ∧ Below w.heap.size w W)
      (OwnFrom.and (Own.from (fun s A B row hs hg hr => ⟨hs.1, cell_kept hs.2.1 hg hr, (frozen_kept hs.2.1 hg hr).trans hs.2.2⟩) _) (ownFrom_below (Nat.le_refl _) hs2))
      (fun c => OwnFrom.and (Own.from (fun s A B row hs hg hr => ⟨hs.1, hs.2.1, cell_kept hs.2.2 hg hr⟩) _) (ownFrom_below (Nat.le_refl _) hs2))
      ⟨⟨rfl, c2, f2⟩, HB2⟩
      (fun x => { tmps := #[.agg #[.string nm, .slice A n c], .pointer (some ⟨w.heap.size, 0, none⟩), .pointer (some ⟨w.heap.size + 1, 0, none⟩), .agg #[.string nm, .slice A n c], .bool (atomB (nm, ts)), .bool false, .agg #[.string nm, .slice A n c], .func (.func 153) #[] #[.pointer (some ⟨w1.heap.size, 0, none⟩)], .string x], defers := [] }) ?assign ?body ?done ?stop
    case assign =>
      intro l x W K hK
      gi_wp2
      simpa using hK
    case body =>
      rintro l pre x W ⟨⟨_, hcr, hfr⟩, hB⟩ _
      gi_wp2
      exact ⟨KeepsOthers.setCell _ _ _, ⟨rfl, by simp, World.cell?_setCell_same' _ _ _ (by rw [hcr]; rfl)⟩, hB.setCell (p := ⟨w.heap.size + 1, 0, none⟩) (by simp) _⟩
    case done =>
      rintro D ys W hD rfl ⟨⟨hne, hcr, hfr⟩, hB⟩ hK
      gi_wp2
      have hK' := (KeepsOthers.setCell W ⟨w.heap.size + 1, 0, none⟩ (.bool true)).same D _ hK rfl
      refine ⟨by simp, .inl ⟨_, _, rfl, run_takeDeferred hK', ?_⟩⟩
      have hc5 := cell_kept (World.cell?_setCell_same' W ⟨w.heap.size + 1, 0, none⟩ (.bool true) (by rw [hcr]; rfl)) (grownBy_putObj' _ D (.deferred none)) (fun r e => by cases e; exact ⟨_, hK', rfl⟩)
      refine ⟨.bool true, ?_, by rw [factB_vars HD.out hne], (hB.setCell (p := ⟨w.heap.size + 1, 0, none⟩) (by simp) _).trans (belowK_b (w := w) (Nat.le_refl _) _ D _ _ (by omega) hK' rfl rfl)⟩
      simp [results, Tryz.f86, go_sem, hc5]
    case stop =>
      rintro D c pre W hD hpre ⟨⟨rfl, hne, hcr⟩, hB⟩ hK
      gi_wp2
      refine ⟨by simp, .inl ⟨_, _, rfl, run_takeDeferred hK, ?_⟩⟩
      have hc5 := cell_kept hcr (grownBy_putObj' _ D (.deferred none)) (fun r e => by cases e; exact ⟨_, hK, rfl⟩)
      refine ⟨.bool false, ?_, by rw [factB_some (fun e => by rw [e] at hpre; exact hne (List.prefix_nil.1 hpre))], hB.trans (belowK_b (w := w) (Nat.le_refl _) W D _ _ (by omega) hK rfl rfl)⟩
      simp [results, Tryz.f86, go_sem, hc5]

theorem run_store_func {P : Program} {w : World} {a : Addr} {m : Mode} (f : Fn) (c l : Array Value) : (store a (.func f c l) m).run P w = stored P w a (.func f c l) m := run_store P w a _ m rfl
attribute [local go_sem] run_store_func

/-- The program's own word for a list in order. -/
def listV (A : Option Addr) (n c : Nat) : Value := .agg #[.slice A n c, .func (.func 88) #[] #[]]

theorem factList_any (A : Option Addr) (n c : Nat) (w : World) :
    Calls Tryz.prog 54 #[.slice A n c] w fun e w' => e = .returned (listV A n c) ∧ Below w.heap.size w w' := by
  go_enter Tryz.func54, Tryz.ntmps54
  go_wp2
  exact bodyPost_ret (v := listV A n c) (by simp [results, Tryz.results54, go_sem, listV]) rfl ⟨rfl, below1 w _⟩

set_option maxHeartbeats 2000000 in
theorem isSorted_any (A : Option Addr) (n c : Nat) (xs : List At) (w : World) (h : IsAtoms w 0 w.heap.size A n c xs) :
    Calls Tryz.prog 87 #[listV A n c] w (BoolPost (risesB xs) w) := by
  have hn := h.len
  unfold maxLen at hn
  have L := Lib.hid h.1
  have H := Lib.hid h; clear h
  unfold listV
  have hw0 := below1 w (.cells #[.slice A n c, .func (.func 88) #[] #[]] 92)
  have X0 := Lib.hid (Box.new w (.slice A n c) (.func (.func 88) #[] #[]) 92)
  go_enter Tryz.func87, Tryz.ntmps87
  go_wp2
  go_loopw [3] (fun i wr => ∃ k : Nat, 1 ≤ k ∧ k ≤ n + 1 ∧ i = .int .i64 k ∧ risesB (xs.take k) = true ∧ Below (w.alloc (.cells #[.slice A n c, .func (.func 88) #[] #[]] 92)).heap.size (w.alloc (.cells #[.slice A n c, .func (.func 88) #[] #[]] 92)) wr) (fun i _ => n + 1 - (intOf i).toNat)
  case atStart => exact ⟨1, by omega, by omega, rfl, rises_next (xs := xs) rfl rfl, Below.refl _ _⟩
  case round =>
    obtain ⟨k, hk1, hk, rfl, hr, hb⟩ := hrel
    have HR := Lib.hid hr; clear hr
    have HB := belowThen hw0 hb
    have XB := X0.out.later hb
    by_cases hlt : k < n
    · obtain ⟨p, q, hA, hlo, hhi, hg, hE⟩ := (H.out.below AtomE.stays HB (Nat.le_refl _)).at_ hlt
      obtain ⟨A', n', c', d1, d3, d4, d5⟩ := hE.out
      clear hE
      obtain ⟨j, hj⟩ : ∃ j, k = j + 1 := ⟨k - 1, by omega⟩
      have hjn : j < n := by omega
      have hsub : (k : Int) - 1 = (j : Int) := by omega
      have hwj : IntKind.i64.wrap (j : Int) = (j : Int) := by rw [IntKind.wrap_i64]; omega
      have HJ := Lib.hid hj; clear hj
      obtain ⟨p', q', hA', hlo', hhi', hg', hE'⟩ := (H.out.below AtomE.stays HB (Nat.le_refl _)).at_ hjn
      obtain ⟨A2, n2, c2, f1, f3, f4, f5⟩ := hE'.out
      clear hE'
      obtain rfl : p = p' := by rw [hA] at hA'; injection hA'
      clear hA'
      subst hA
      obtain ⟨b0, b1, b2⟩ := XB
      have hsz := HB.size
      have HG := Lib.hid hg; have HG' := Lib.hid hg'; clear hg hg'
      have HT := Lib.hid (d5.keep (w' := wr.drew) (lo' := 0) (hi' := wr.drew.heap.size) (fun _ _ _ => rfl) (Nat.le_refl _) HB.size); clear d5
      have HT' := Lib.hid (f5.keep (w' := wr.drew) (lo' := 0) (hi' := wr.drew.heap.size) (fun _ _ _ => rfl) (Nat.le_refl _) HB.size); clear f5
      have hbd := hb.drew
      have e1 : wr.drew.cell? ⟨w.heap.size, 0, none⟩ = some (.slice (some p) n c) := b1
      have e2 : wr.drew.cell? ⟨w.heap.size, 1, none⟩ = some (.func (.func 88) #[] #[]) := b2
      have x1 : wr.drew.cell? (p.add (k * 2)) = some (.string q.1) := d1
      have x2 : wr.drew.cell? ⟨(p.add (k * 2)).block, (p.add (k * 2)).off + 1, none⟩ = some (.slice A' n' c') := d4
      have x3 : wr.drew.cell? (p.add (j * 2)) = some (.string q'.1) := f1
      have x4 : wr.drew.cell? ⟨(p.add (j * 2)).block, (p.add (j * 2)).off + 1, none⟩ = some (.slice A2 n2 c2) := f4
      go_wp2_with fail
      go_region_held3 (fun W => ((W.cell? ⟨w.heap.size, 0, none⟩ = some (.slice (some p) n c) ∧ W.cell? ⟨w.heap.size, 1, none⟩ = some (.func (.func 88) #[] #[])) ∧ W.cell? (p.add (k * 2)) = some (.string q.1) ∧ W.cell? ⟨(p.add (k * 2)).block, (p.add (k * 2)).off + 1, none⟩ = some (.slice A' n' c')) ∧ W.cell? (p.add (j * 2)) = some (.string q'.1) ∧ W.cell? ⟨(p.add (j * 2)).block, (p.add (j * 2)).off + 1, none⟩ = some (.slice A2 n2 c2))
        (first | (with_reducible exact ⟨⟨⟨y5, y6⟩, y1, y2⟩, y3, y4⟩) | (with_reducible exact ⟨⟨⟨e1, e2⟩, x1, x2⟩, x3, x4⟩) | (with_reducible exact ⟨⟨⟨b1, b2⟩, d1, d4⟩, f1, f4⟩))
        (((with_reducible refine (compareAtoms_any q'.1 q.1 A2 A' n2 c2 n' c' q'.2 q.2 _ HT'.out HT.out).mono ?_); rintro e w1 ⟨rfl, hb1⟩; have y1 := (hb1.cell (p := p.add (k * 2)) (by rw [block_add]; exact Nat.lt_of_lt_of_le hhi hsz)).trans d1; have y2 := (hb1.cell (p := ⟨(p.add (k * 2)).block, (p.add (k * 2)).off + 1, none⟩) (by rw [block_add]; exact Nat.lt_of_lt_of_le hhi hsz)).trans d4; have y3 := (hb1.cell (p := p.add (j * 2)) (by rw [block_add]; exact Nat.lt_of_lt_of_le hhi hsz)).trans f1; have y4 := (hb1.cell (p := ⟨(p.add (j * 2)).block, (p.add (j * 2)).off + 1, none⟩) (by rw [block_add]; exact Nat.lt_of_lt_of_le hhi hsz)).trans f4; have y5 := (hb1.cell (p := ⟨w.heap.size, 0, none⟩) b0).trans b1; have y6 := (hb1.cell (p := ⟨w.heap.size, 1, none⟩) b0).trans b2))
      all_goals
        clear y1 y2 y3 y4 y5 y6 x1 x2 x3 x4 e1 e2
        go_wp2
      all_goals first
        | (go_ret; exact ⟨retB (risesB_no (a := q') (b := q) HG'.out (by rw [← HJ.out]; exact HG.out) (Int.not_lt.2 (by assumption))).symm, belowThen hw0 (belowThen hbd hb1)⟩)
        | (go_roundw
           case rel => exact ⟨k + 1, by omega, by omega, by go_num, by
             have h1 := HG.out; have h2 := HR.out
             rw [HJ.out] at h1 h2 ⊢
             exact risesB_snoc (a := q') (b := q) HG'.out h1 h2 (by assumption), belowThen hbd hb1⟩
           case measure => simp [intOf]; omega)
    · have E := Lib.hid (show risesB xs = true by have := HR.out; rwa [List.take_of_length_le (by have := L.out; omega)] at this)
      obtain ⟨b0, b1, b2⟩ := XB
      go_wp2
      go_ret; exact ⟨retB E.out.symm, HB⟩

set_option maxHeartbeats 1000000 in
theorem implFactsOk_any (A : Option Addr) (n c : Nat) (xs : List At) (w : World) (h : IsAtoms w 0 w.heap.size A n c xs) :
    Calls Tryz.prog 53 #[.slice A n c] w (BoolPost (factsB 300 xs) w) := by
  have hn := h.len
  unfold maxLen at hn
  have L := Lib.hid h.1
  have H := Lib.hid h; clear h
  by_cases hlong : 300 < n
  · have hi : (300 : Int) < (n : Int) := by omega
    have E := Lib.hid (factsB_long (m := 300) (xs := xs) (by rw [L.out]; exact hlong))
    go_enter Tryz.func53, Tryz.ntmps53
    go_wp2
    go_ret; exact ⟨retB E.out.symm, Below.refl _ _⟩
  · have hi : ¬ (300 : Int) < (n : Int) := by omega
    go_enter Tryz.func53, Tryz.ntmps53
    go_wp2
    go_loopw [4, 10] (fun _ i wr => ∃ k : Nat, k ≤ n ∧ i = .int .i64 k ∧ (xs.take k).all factB = true ∧ Below w.heap.size w wr) (fun _ i _ => n - (intOf i).toNat)
    case atStart => exact ⟨0, Nat.zero_le _, rfl, rfl, Below.refl _ _⟩
    case round =>
      obtain ⟨k, hk, rfl, hd, hb⟩ := hrel
      have HD := Lib.hid hd; clear hd
      by_cases hlt : k < n
      · obtain ⟨p, q, hA, hlo, hhi, hg, hE⟩ := (H.out.below AtomE.stays hb (Nat.le_refl _)).at_ hlt
        obtain ⟨A', n', c', d1, d3, d4, d5⟩ := hE.out
        clear hE
        subst hA
        have HG := Lib.hid hg; clear hg
        have hb1 := below1 wr (.cells #[.string q.1, .slice A' n' c'] 51)
        have HT := Lib.hid ((d5.keep (lo' := 0) (hi' := wr.heap.size) (fun _ _ _ => rfl) (Nat.le_refl _) hb.size).up hb1); clear d5
        cases hF : factB q
        · have hF' : factB (q.1, q.2) = false := hF
          have E := Lib.hid (factsB_no (m := 300) HG.out hF); clear hF
          go_wp2_with fail
          refine (factOk_any _ _ _ _ q.2 _ d3 HT.out).mono ?_; rintro e w1 ⟨rfl, hb2⟩
          go_wp2
          go_ret; exact ⟨retB E.out.symm, belowThen hb (belowThen hb1 hb2)⟩
        · have hF' : factB (q.1, q.2) = true := hF
          have EF := Lib.hid hF; clear hF
          go_wp2_with fail
          refine (factOk_any _ _ _ _ q.2 _ d3 HT.out).mono ?_; rintro e w1 ⟨rfl, hb2⟩
          go_wp2
          go_roundw
          case rel => exact ⟨k + 1, by omega, by go_num, allB_snoc HG.out HD.out EF.out, belowThen hb (belowThen hb1 hb2)⟩
          case measure => simp [intOf]; omega
      · have E := Lib.hid (show factsB 300 xs = risesB xs by
          have h1 := HD.out; have h2 := L.out
          rw [List.take_of_length_le (by omega)] at h1
          unfold factsB
          rw [h1, Bool.true_and, decide_eq_true (by omega), Bool.and_true])
        go_wp2_with fail
        refine (factList_any _ _ _ _).mono ?_; rintro e w1 ⟨rfl, hb1⟩
        go_wp2_with fail
        refine (isSorted_any _ _ _ xs _ (H.out.up AtomE.stays (belowThen hb hb1))).mono ?_; rintro e w2 ⟨rfl, hb2⟩
        go_wp2
        go_ret; exact ⟨retB E.out.symm, belowThen (belowThen hb hb1) hb2⟩

end Go.Proofs.YtogonjkklioaaaaGreatDoor

namespace Go.Proofs.YtogonjkklioaaaaGreatDoor
open Go.RowKit Go.Deep

/-- An atom by value: its name, its slice, and the terms that this reads as. -/
abbrev Rf := ByteArray × Option Addr × Nat × Nat × List Tm

def rAt (r : Rf) : At := (r.1, r.2.2.2.2)
def rVal (r : Rf) : Value := .agg #[.string r.1, .slice r.2.1 r.2.2.1 r.2.2.2.1]

def RefE (w : World) (lo hi : Nat) (p : Addr) (r : Rf) : Prop :=
  w.cell? p = some (.string r.1) ∧ r.1.size ≤ maxLen ∧ w.cell? (nextTo p 1) = some (.slice r.2.1 r.2.2.1 r.2.2.2.1) ∧ IsTerms w lo hi r.2.1 r.2.2.1 r.2.2.2.1 r.2.2.2.2

theorem RefE.stays : Stays RefE := by
  intro w w' lo hi lo' hi' p a ⟨h1, h2, h3, h4⟩ hp1 hp2 hk hl hh
  exact ⟨(hk p hp1 hp2).trans h1, h2, (hk (nextTo p 1) hp1 hp2).trans h3, h4.keep hk hl hh⟩

theorem RefE.out {w : World} {lo hi : Nat} {p : Addr} {r : Rf} (h : RefE w lo hi p r) : w.cell? p = some (.string r.1) ∧ r.1.size ≤ maxLen ∧ w.cell? ⟨p.block, p.off + 1, none⟩ = some (.slice r.2.1 r.2.2.1 r.2.2.2.1) ∧ IsTerms w lo hi r.2.1 r.2.2.1 r.2.2.2.1 r.2.2.2.2 := h

abbrev IsRefs := IsSeq 2 RefE

theorem IsRefs.atoms {w : World} {lo hi n c : Nat} {A : Option Addr} {rs : List Rf} (h : IsRefs w lo hi A n c rs) : IsAtoms w lo hi A n c (rs.map rAt) := by
  obtain ⟨h1, h2, h3, h4⟩ := h
  refine ⟨by simpa using h1, h2, h3, fun hn => ?_⟩
  obtain ⟨p, hp, hl, hh, he⟩ := h4 hn
  refine ⟨p, hp, hl, hh, fun i x hx => ?_⟩
  rw [List.getElem?_map] at hx
  obtain ⟨r, hr, rfl⟩ := Option.map_eq_some_iff.1 hx
  obtain ⟨e1, e2, e3, e4⟩ := he i r hr
  exact ⟨e1, e2, _, _, _, e3, e4⟩

theorem refs_of {w : World} {lo hi n c : Nat} {A : Option Addr} {xs : List At} (h : IsAtoms w lo hi A n c xs) : ∃ rs, IsRefs w lo hi A n c rs ∧ rs.map rAt = xs := by
  obtain ⟨h1, h2, h3, h4⟩ := h
  by_cases hn : 0 < n
  · obtain ⟨p, hp, hl, hh, he⟩ := h4 hn
    have each : ∀ i, i < n → ∃ r : Rf, RefE w lo hi (p.add (i * 2)) r ∧ xs[i]? = some (rAt r) := by
      intro i hi'
      have hx : xs[i]? = some xs[i] := List.getElem?_eq_getElem (by omega)
      obtain ⟨e1, e2, B, m, d, e3, e4⟩ := he i _ hx
      exact ⟨(xs[i].1, B, m, d, xs[i].2), ⟨e1, e2, e3, e4⟩, hx⟩
    obtain ⟨f, hf⟩ := choose_lt each
    refine ⟨(List.range n).map f, ⟨by simp, h2, h3, fun _ => ⟨p, hp, hl, hh, fun i r hr => ?_⟩⟩, ?_⟩
    · have hil : i < n := by
        have := (List.getElem?_eq_some_iff.1 hr).1
        simpa using this
      have hr' : f i = r := by simpa [hil] using hr
      rw [← hr']
      exact (hf i hil).1
    · apply List.ext_getElem?
      intro i
      by_cases hil : i < n
      · rw [(hf i hil).2]; simp [hil]
      · rw [List.getElem?_eq_none (by simp; omega), List.getElem?_eq_none (by omega)]
  · have hn0 : n = 0 := by omega
    subst hn0
    have : xs = [] := List.eq_nil_of_length_eq_zero h1
    subst this
    exact ⟨[], ⟨rfl, h2, h3, fun hn => absurd hn (by omega)⟩, rfl⟩

theorem add_add (p : Addr) (a b : Nat) : (p.add a).add b = p.add (a + b) := by
  unfold Addr.add
  by_cases ha : a = 0
  · subst ha; simp
  · by_cases hb : b = 0
    · subst hb; simp [ha]
    · simp [ha, hb, Nat.add_assoc]

/-- The first one, and the others. -/
theorem IsRefs.first {w : World} {lo hi n c : Nat} {A : Option Addr} {r : Rf} {rs : List Rf} (h : IsRefs w lo hi A n c (r :: rs)) :
    ∃ p, A = some p ∧ lo ≤ p.block ∧ p.block < hi ∧ 0 < n ∧ RefE w lo hi p r ∧ IsRefs w lo hi (some (p.add 2)) (n - 1) (c - 1) rs := by
  obtain ⟨h1, h2, h3, h4⟩ := h
  have hn : 0 < n := by rw [← h1]; simp
  obtain ⟨p, hp, hl, hh, he⟩ := h4 hn
  have e0 := he 0 r rfl
  have z : p.add (0 * 2) = p := by unfold Addr.add; simp
  rw [z] at e0
  refine ⟨p, hp, hl, hh, hn, e0, by simp at h1; omega, by omega, by omega, fun _ => ⟨_, rfl, by rw [block_add]; exact hl, by rw [block_add]; exact hh, fun i x hx => ?_⟩⟩
  rw [add_add, show 2 + i * 2 = (i + 1) * 2 by omega]
  exact he (i + 1) x (by simpa using hx)

/-- In which of two lists the next one stands. -/
def sideN : List At → List At → Nat
  | _, [] => 0
  | [], _ :: _ => 1
  | a :: _, b :: _ => if atomCmp a b < 0 then 0 else if 0 < atomCmp a b then 1 else 2

/-- Two lists, merged; of each where it stands. -/
def mergeR : List Rf → List Rf → List (Rf × Nat)
  | ra, [] => ra.map fun r => (r, 0)
  | [], b :: rb => (b :: rb).map fun r => (r, 1)
  | a :: ra, b :: rb =>
    if atomCmp (rAt a) (rAt b) < 0 then (a, 0) :: mergeR ra (b :: rb)
    else if 0 < atomCmp (rAt a) (rAt b) then (b, 1) :: mergeR (a :: ra) rb
    else (a, 2) :: mergeR ra rb
termination_by ra rb => ra.length + rb.length

theorem merge_nil (ra : List Rf) : mergeR ra [] = ra.map fun r => (r, 0) := by rw [mergeR]

theorem merge_left (rb : List Rf) : mergeR [] rb = rb.map fun r => (r, 1) := by
  cases rb with
  | nil => rw [merge_nil]; rfl
  | cons b rb => rw [mergeR]

theorem merge_first {a : Rf} {ra rb : List Rf} (h : sideN ((a :: ra).map rAt) (rb.map rAt) = 0) : mergeR (a :: ra) rb = (a, 0) :: mergeR ra rb := by
  cases rb with
  | nil => rw [merge_nil, merge_nil]; rfl
  | cons b rb =>
    have h' : (if atomCmp (rAt a) (rAt b) < 0 then 0 else if 0 < atomCmp (rAt a) (rAt b) then 1 else 2) = 0 := h
    rw [mergeR]
    by_cases hc : atomCmp (rAt a) (rAt b) < 0
    · rw [if_pos hc]
    · rw [if_neg hc] at h'; split at h' <;> simp at h'

theorem merge_second {b : Rf} {ra rb : List Rf} (h : sideN (ra.map rAt) ((b :: rb).map rAt) = 1) : mergeR ra (b :: rb) = (b, 1) :: mergeR ra rb := by
  cases ra with
  | nil => rw [merge_left, merge_left]; rfl
  | cons a ra =>
    have h' : (if atomCmp (rAt a) (rAt b) < 0 then 0 else if 0 < atomCmp (rAt a) (rAt b) then 1 else 2) = 1 := h
    rw [mergeR]
    by_cases hc : atomCmp (rAt a) (rAt b) < 0
    · rw [if_pos hc] at h'; simp at h'
    · rw [if_neg hc] at h' ⊢
      by_cases hc' : 0 < atomCmp (rAt a) (rAt b)
      · rw [if_pos hc']
      · rw [if_neg hc'] at h'; simp at h'

theorem merge_both {a b : Rf} {ra rb : List Rf} (h : sideN ((a :: ra).map rAt) ((b :: rb).map rAt) = 2) : mergeR (a :: ra) (b :: rb) = (a, 2) :: mergeR ra rb := by
  have h' : (if atomCmp (rAt a) (rAt b) < 0 then 0 else if 0 < atomCmp (rAt a) (rAt b) then 1 else 2) = 2 := h
  rw [mergeR]
  by_cases hc : atomCmp (rAt a) (rAt b) < 0
  · rw [if_pos hc] at h'; simp at h'
  · rw [if_neg hc] at h' ⊢
    by_cases hc' : 0 < atomCmp (rAt a) (rAt b)
    · rw [if_pos hc'] at h'; simp at h'
    · rw [if_neg hc']

end Go.Proofs.YtogonjkklioaaaaGreatDoor

namespace Go.Proofs.YtogonjkklioaaaaGreatDoor
open Go.RowKit
attribute [local go_sem] run_store_func

set_option maxHeartbeats 2000000 in
theorem nextSide_any (A0 : Option Addr) (n0 c0 : Nat) (A B : Option Addr) (n c n' c' : Nat) (ra rb : List Rf) (w : World) (h : IsRefs w 0 w.heap.size A n c ra) (h' : IsRefs w 0 w.heap.size B n' c' rb) :
    Calls Tryz.prog 121 #[listV A0 n0 c0, .slice A n c, .slice B n' c'] w (IntPost (sideN (ra.map rAt) (rb.map rAt) : Nat) w) := by
  unfold listV
  have L := Lib.hid h.1; have L' := Lib.hid h'.1
  have H := Lib.hid h; clear h
  have H' := Lib.hid h'; clear h'
  have hw0 := below1 w (.cells #[.slice A0 n0 c0, .func (.func 88) #[] #[]] 92)
  cases rb with
  | nil =>
    have hn : n' = 0 := by have := L'.out; simp at this; omega
    subst hn
    have E := Lib.hid (show ((sideN (ra.map rAt) (([] : List Rf).map rAt) : Nat) : Int) = 0 by cases ra <;> rfl)
    go_enter Tryz.func121, Tryz.ntmps121
    go_wp2
    go_ret; exact ⟨retI E.out.symm, hw0⟩
  | cons b rb =>
    obtain ⟨p', hB, hlo', hhi', hn', ⟨f1, f2, f3, f4⟩, _⟩ := H'.out.first
    subst hB
    have hi' : ¬ (n' : Int) = 0 := by omega
    have hi2 : ((n' : Int) == 0) = false := by rw [beq_eq_false_iff_ne]; exact hi'
    cases ra with
    | nil =>
      have hn : n = 0 := by have := L.out; simp at this; omega
      subst hn
      go_enter Tryz.func121, Tryz.ntmps121
      go_wp2
      go_ret; exact ⟨rfl, hw0⟩
    | cons a ra =>
      obtain ⟨p, hA, hlo, hhi, hn, ⟨d1, d2, d3, d4⟩, _⟩ := H.out.first
      subst hA
      have hi : ¬ (n : Int) = 0 := by omega
      have hi3 : ((n : Int) == 0) = false := by rw [beq_eq_false_iff_ne]; exact hi
      have hbd := hw0.drew
      obtain ⟨W1, hW1⟩ : ∃ W1, w.alloc (.cells #[.slice A0 n0 c0, .func (.func 88) #[] #[]] 92) = W1 := ⟨_, rfl⟩
      have x0 : W1.cell? ⟨w.heap.size, 1, none⟩ = some (.func (.func 88) #[] #[]) := by rw [← hW1]; simp [go_sem]
      have hz0 : w.heap.size < W1.heap.size := by rw [← hW1]; simp
      rw [hW1] at hw0 hbd
      have hwd : Below w.heap.size w W1.drew := hbd
      have x1 := (hw0.cell (p := p) hhi).trans d1
      have x2 : W1.cell? ⟨p.block, p.off + 1, none⟩ = some (.slice a.2.1 a.2.2.1 a.2.2.2.1) := (hw0.cell (p := ⟨p.block, p.off + 1, none⟩) hhi).trans d3
      have x3 := (hw0.cell (p := p') hhi').trans f1
      have x4 : W1.cell? ⟨p'.block, p'.off + 1, none⟩ = some (.slice b.2.1 b.2.2.1 b.2.2.2.1) := (hw0.cell (p := ⟨p'.block, p'.off + 1, none⟩) hhi').trans f3
      have v0 : W1.drew.cell? ⟨w.heap.size, 1, none⟩ = some (.func (.func 88) #[] #[]) := x0
      have v1 : W1.drew.cell? p = some (.string a.1) := x1
      have v2 : W1.drew.cell? ⟨p.block, p.off + 1, none⟩ = some (.slice a.2.1 a.2.2.1 a.2.2.2.1) := x2
      have v3 : W1.drew.cell? p' = some (.string b.1) := x3
      have v4 : W1.drew.cell? ⟨p'.block, p'.off + 1, none⟩ = some (.slice b.2.1 b.2.2.1 b.2.2.2.1) := x4
      have hz : w.heap.size < W1.drew.heap.size := hz0
      have hpz : p.block < W1.drew.heap.size := Nat.lt_of_lt_of_le hhi hw0.size
      have hpz' : p'.block < W1.drew.heap.size := Nat.lt_of_lt_of_le hhi' hw0.size
      have HT := Lib.hid (show IsTerms W1.drew 0 W1.drew.heap.size a.2.1 a.2.2.1 a.2.2.2.1 a.2.2.2.2 from d4.up hwd)
      have HU := Lib.hid (show IsTerms W1.drew 0 W1.drew.heap.size b.2.1 b.2.2.1 b.2.2.2.1 b.2.2.2.2 from f4.up hwd)
      clear d1 d3 d4 f1 f3 f4
      have hq : sideN ((a :: ra).map rAt) ((b :: rb).map rAt) = if atomCmp (rAt a) (rAt b) < 0 then 0 else if 0 < atomCmp (rAt a) (rAt b) then 1 else 2 := rfl
      by_cases hc : atomCmp (rAt a) (rAt b) < 0
      · have E := Lib.hid (show ((sideN ((a :: ra).map rAt) ((b :: rb).map rAt) : Nat) : Int) = 0 by rw [hq, if_pos hc]; rfl)
        have hc' : atomCmp (a.1, a.2.2.2.2) (b.1, b.2.2.2.2) < 0 := hc
        clear hq hc
        go_enter Tryz.func121, Tryz.ntmps121
        go_wp2_with fail
        go_region_held3 (fun W => W.cell? ⟨w.heap.size, 1, none⟩ = some (.func (.func 88) #[] #[]) ∧ (W.cell? p = some (.string a.1) ∧ W.cell? ⟨p.block, p.off + 1, none⟩ = some (.slice a.2.1 a.2.2.1 a.2.2.2.1)) ∧ W.cell? p' = some (.string b.1) ∧ W.cell? ⟨p'.block, p'.off + 1, none⟩ = some (.slice b.2.1 b.2.2.1 b.2.2.2.1))
          (first | (with_reducible exact ⟨y0, ⟨y1, y2⟩, y3, y4⟩) | (with_reducible exact ⟨v0, ⟨v1, v2⟩, v3, v4⟩) | (with_reducible exact ⟨x0, ⟨x1, x2⟩, x3, x4⟩))
          (((with_reducible refine (compareAtoms_any a.1 b.1 a.2.1 b.2.1 a.2.2.1 a.2.2.2.1 b.2.2.1 b.2.2.2.1 a.2.2.2.2 b.2.2.2.2 _ HT.out HU.out).mono ?_); rintro e w1 ⟨rfl, hb1⟩; have y0 := (hb1.cell (p := ⟨w.heap.size, 1, none⟩) hz).trans v0; have y1 := (hb1.cell (p := p) hpz).trans v1; have y2 := (hb1.cell (p := ⟨p.block, p.off + 1, none⟩) hpz).trans v2; have y3 := (hb1.cell (p := p') hpz').trans v3; have y4 := (hb1.cell (p := ⟨p'.block, p'.off + 1, none⟩) hpz').trans v4))
        all_goals
          clear y0 y1 y2 y3 y4 v0 v1 v2 v3 v4 x0 x1 x2 x3 x4
          go_wp2
          go_ret; exact ⟨retI E.out.symm, belowThen hwd hb1⟩
      · by_cases hd : 0 < atomCmp (rAt a) (rAt b)
        · have E := Lib.hid (show ((sideN ((a :: ra).map rAt) ((b :: rb).map rAt) : Nat) : Int) = 1 by rw [hq, if_neg hc, if_pos hd]; rfl)
          have hc' : ¬ atomCmp (a.1, a.2.2.2.2) (b.1, b.2.2.2.2) < 0 := hc
          have hd' : 0 < atomCmp (a.1, a.2.2.2.2) (b.1, b.2.2.2.2) := hd
          clear hq hc hd
          go_enter Tryz.func121, Tryz.ntmps121
          go_wp2_with fail
          go_region_held3 (fun W => W.cell? ⟨w.heap.size, 1, none⟩ = some (.func (.func 88) #[] #[]) ∧ (W.cell? p = some (.string a.1) ∧ W.cell? ⟨p.block, p.off + 1, none⟩ = some (.slice a.2.1 a.2.2.1 a.2.2.2.1)) ∧ W.cell? p' = some (.string b.1) ∧ W.cell? ⟨p'.block, p'.off + 1, none⟩ = some (.slice b.2.1 b.2.2.1 b.2.2.2.1))
            (first | (with_reducible exact ⟨y0, ⟨y1, y2⟩, y3, y4⟩) | (with_reducible exact ⟨v0, ⟨v1, v2⟩, v3, v4⟩) | (with_reducible exact ⟨x0, ⟨x1, x2⟩, x3, x4⟩))
            (((with_reducible refine (compareAtoms_any a.1 b.1 a.2.1 b.2.1 a.2.2.1 a.2.2.2.1 b.2.2.1 b.2.2.2.1 a.2.2.2.2 b.2.2.2.2 _ HT.out HU.out).mono ?_); rintro e w1 ⟨rfl, hb1⟩; have y0 := (hb1.cell (p := ⟨w.heap.size, 1, none⟩) hz).trans v0; have y1 := (hb1.cell (p := p) hpz).trans v1; have y2 := (hb1.cell (p := ⟨p.block, p.off + 1, none⟩) hpz).trans v2; have y3 := (hb1.cell (p := p') hpz').trans v3; have y4 := (hb1.cell (p := ⟨p'.block, p'.off + 1, none⟩) hpz').trans v4))
          all_goals
            clear y0 y1 y2 y3 y4 v0 v1 v2 v3 v4 x0 x1 x2 x3 x4
            go_wp2
            go_ret; exact ⟨retI E.out.symm, belowThen hwd hb1⟩
        · have E := Lib.hid (show ((sideN ((a :: ra).map rAt) ((b :: rb).map rAt) : Nat) : Int) = 2 by rw [hq, if_neg hc, if_neg hd]; rfl)
          have hc' : ¬ atomCmp (a.1, a.2.2.2.2) (b.1, b.2.2.2.2) < 0 := hc
          have hd' : ¬ 0 < atomCmp (a.1, a.2.2.2.2) (b.1, b.2.2.2.2) := hd
          clear hq hc hd
          go_enter Tryz.func121, Tryz.ntmps121
          go_wp2_with fail
          go_region_held3 (fun W => W.cell? ⟨w.heap.size, 1, none⟩ = some (.func (.func 88) #[] #[]) ∧ (W.cell? p = some (.string a.1) ∧ W.cell? ⟨p.block, p.off + 1, none⟩ = some (.slice a.2.1 a.2.2.1 a.2.2.2.1)) ∧ W.cell? p' = some (.string b.1) ∧ W.cell? ⟨p'.block, p'.off + 1, none⟩ = some (.slice b.2.1 b.2.2.1 b.2.2.2.1))
            (first | (with_reducible exact ⟨y0, ⟨y1, y2⟩, y3, y4⟩) | (with_reducible exact ⟨v0, ⟨v1, v2⟩, v3, v4⟩) | (with_reducible exact ⟨x0, ⟨x1, x2⟩, x3, x4⟩))
            (((with_reducible refine (compareAtoms_any a.1 b.1 a.2.1 b.2.1 a.2.2.1 a.2.2.2.1 b.2.2.1 b.2.2.2.1 a.2.2.2.2 b.2.2.2.2 _ HT.out HU.out).mono ?_); rintro e w1 ⟨rfl, hb1⟩; have y0 := (hb1.cell (p := ⟨w.heap.size, 1, none⟩) hz).trans v0; have y1 := (hb1.cell (p := p) hpz).trans v1; have y2 := (hb1.cell (p := ⟨p.block, p.off + 1, none⟩) hpz).trans v2; have y3 := (hb1.cell (p := p') hpz').trans v3; have y4 := (hb1.cell (p := ⟨p'.block, p'.off + 1, none⟩) hpz').trans v4))
          all_goals
            clear y0 y1 y2 y3 y4 v0 v1 v2 v3 v4 x0 x1 x2 x3 x4
            go_wp2
            go_ret; exact ⟨retI E.out.symm, belowThen hwd hb1⟩

end Go.Proofs.YtogonjkklioaaaaGreatDoor
