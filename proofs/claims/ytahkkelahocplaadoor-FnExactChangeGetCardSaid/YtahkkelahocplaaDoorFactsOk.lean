/-
  Facts that are ok, in the program.
-/
import Derived.Test.YtahkkelahocplaaDoorVars
import Derived.Test.YtahkkelahocplaaDoorL3Ok
import Derived.Test.YtahkkelahocplaaDoorMem
import Derived.Deep.RegionHeld3
namespace Go.Proofs.YtahkkelahocplaaDoor
open Go.RowKit Go.Shelf
attribute [local go_sem] Oper.semAt_some

theorem factB_not {nm : ByteArray} {ts : List Tm} (h : (!atomB (nm, ts)) = true) : factB (nm, ts) = false := by
  unfold factB
  rw [show atomB (nm, ts) = false by simpa using h, Bool.and_false]

theorem factB_vars {nm : ByteArray} {ts : List Tm} (h : (!atomB (nm, ts)) = false) (hv : varsOf ts = []) : factB (nm, ts) = true := by
  unfold factB
  rw [show atomB (nm, ts) = true by simpa using h, varsOf_none.2 hv]; rfl

theorem factB_some {nm : ByteArray} {ts : List Tm} (hv : varsOf ts ≠ []) : factB (nm, ts) = false := by
  unfold factB
  cases h : wordsB ts
  · rfl
  · exact absurd (varsOf_none.1 h) hv

set_option maxRecDepth 100000 in
set_option maxHeartbeats 2000000 in
theorem factOk_any (nm : ByteArray) (A : Option Addr) (n c : Nat) (ts : List Tm) (w : World) (hs : nm.size ≤ maxLen) (h : IsTerms w 0 w.heap.size A n c ts) :
    Calls Tryd.prog 133 #[.agg #[.string nm, .slice A n c]] w (BoolPost (factB (nm, ts)) w) := by
  have H := Lib.hid h; clear h
  have hw0 := below2 w (.cells #[.string nm, .slice A n c] 24) (.cells #[.bool false] 4)
  refine (callsIn_wide (n := 5)).1 ?_
  refine callsIn_of_wp_marks Tryd.func133 rfl trivial ?_ rfl
  simp only [Tryd.ntmps133, List.size_toArray, List.length_cons, List.length_nil, Nat.reduceAdd, Nat.reduceSub, Array.replicate_succ, Array.replicate_zero, List.push_toArray, List.append_toArray, List.nil_append, List.cons_append]
  gi_wp2_with (refine ⟨trivial, ?_⟩; gi_at_call 18; refine (callsIn_wide.2 (implAtomOk_any nm A n c ts _ hs (H.out.up hw0))).mono ?_; rintro e w1 ⟨rfl, hb1⟩; have HB1 := belowThen hw0 hb1; obtain ⟨hc, hf⟩ := oldCells hb1; have hz1 : w.heap.size + 1 < w1.heap.size := (by have := hb1.size; simp at this; omega); have hz0 : w.heap.size < w1.heap.size := (by omega))
  · have hd : (!atomB (nm, ts)) = true := by assumption
    have c1 : w1.cell? ⟨w.heap.size + 1, 0, none⟩ = some (.bool false) := by rw [hc _ _ (by simp)]; simp [go_sem]
    exact ⟨.bool false, by simp [results, Tryd.f133, go_sem, c1], by rw [factB_not hd], HB1.setCell (by simp) _⟩
  · have hd : (!atomB (nm, ts)) = false := by assumption
    have HD := Lib.hid hd
    refine ⟨trivial, (callsIn_wide.2 (variablesOf_any nm A n c w1)).mono ?_⟩
    rintro e w' ⟨rfl, rfl⟩
    have c1 : w1.cell? ⟨w.heap.size + 1, 0, none⟩ = some (.bool false) := by rw [hc _ _ (by simp)]; simp [go_sem]
    have f1 : w1.frozen? ⟨w.heap.size + 1, 0, none⟩ = false := by rw [hf _ _ (by simp)]; simp [go_sem]
    have hw2 := below1 w1 (.cells #[.string nm, .slice A n c] 24)
    have HB2 := belowThen HB1 hw2
    have c2 := (hw2.cell (p := ⟨w.heap.size + 1, 0, none⟩) hz1).trans c1
    have f2 := (hw2.frozen (p := ⟨w.heap.size + 1, 0, none⟩) hz1).trans f1
    have b2 : (w1.alloc (.cells #[.string nm, .slice A n c] 24)).cell? ⟨w1.heap.size, 1, none⟩ = some (.slice A n c) := by simp [go_sem]
    have T2 : IsTerms (w1.alloc (.cells #[.string nm, .slice A n c] 24)) 0 w.heap.size A n c ts := H.out.below HB2 (Nat.le_refl _)
    have hs2 : w.heap.size ≤ (w1.alloc (.cells #[.string nm, .slice A n c] 24)).heap.size := HB2.size
    have hl2 : w1.heap.size < (w1.alloc (.cells #[.string nm, .slice A n c] 24)).heap.size := by simp
    gi_wp2
    refine wpIn_rangeFunc_ownF rfl (by omega) (gf := 127) (lb := #[.pointer (some ⟨w1.heap.size, 0, none⟩)]) rfl trivial (enters_of Tryd.func127 (by kernel_rfl) rfl)
      (vars_stops (5 - 1) (by omega) w1.heap.size w.heap.size A n c ts _ hl2 hs2 b2 T2) belowK_t (belowK_b hs2) (Below.refl _ _) (fun _ => rfl)
      (fun pre W => (pre = [] ∧ W.cell? ⟨w.heap.size + 1, 0, none⟩ = some (.bool false) ∧ W.frozen? ⟨w.heap.size + 1, 0, none⟩ = false) ∧ Below w.heap.size w W)
      (fun c pre W => (c = .ret ∧ pre ≠ [] ∧ W.cell? ⟨w.heap.size + 1, 0, none⟩ = some (.bool false)) ∧ Below w.heap.size w W)
      (OwnFrom.and (Own.from (fun s A B row hs hg hr => ⟨hs.1, cell_kept hs.2.1 hg hr, (frozen_kept hs.2.1 hg hr).trans hs.2.2⟩) _) (ownFrom_below (Nat.le_refl _) hs2))
      (fun c => OwnFrom.and (Own.from (fun s A B row hs hg hr => ⟨hs.1, hs.2.1, cell_kept hs.2.2 hg hr⟩) _) (ownFrom_below (Nat.le_refl _) hs2))
      ⟨⟨rfl, c2, f2⟩, HB2⟩
      (fun x => { tmps := #[.agg #[.string nm, .slice A n c], .pointer (some ⟨w.heap.size, 0, none⟩), .pointer (some ⟨w.heap.size + 1, 0, none⟩), .agg #[.string nm, .slice A n c], .bool (atomB (nm, ts)), .bool false, .agg #[.string nm, .slice A n c], .func (.func 127) #[] #[.pointer (some ⟨w1.heap.size, 0, none⟩)], .string x], defers := [] }) ?assign ?body ?done ?stop
    case assign =>
      intro l x W K hK
      gi_wp2
      simpa using hK
    case body =>
      rintro l pre x W ⟨⟨_, hcr, hfr⟩, hB⟩ _
      gi_wp2
      exact ⟨KeepsOthers.setCell _ _ _, ⟨rfl, by simp, World.cell?_setCell_same' _ _ _ (by rw [hcr]; rfl)⟩, hB.setCell (p := ⟨w.heap.size + 1, 0, none⟩) (by simp) _⟩
    case done =>
      rintro D ys W hD rfl ⟨⟨hne, hcr, hfr⟩, hB⟩ hK
      gi_wp2
      have hK' := (KeepsOthers.setCell W ⟨w.heap.size + 1, 0, none⟩ (.bool true)).same D _ hK rfl
      refine ⟨by simp, .inl ⟨_, _, rfl, run_takeDeferred hK', ?_⟩⟩
      have hc5 := cell_kept (World.cell?_setCell_same' W ⟨w.heap.size + 1, 0, none⟩ (.bool true) (by rw [hcr]; rfl)) (grownBy_putObj' _ D (.deferred none)) (fun r e => by cases e; exact ⟨_, hK', rfl⟩)
      refine ⟨.bool true, ?_, by rw [factB_vars HD.out hne], (hB.setCell (p := ⟨w.heap.size + 1, 0, none⟩) (by simp) _).trans (belowK_b (w := w) (Nat.le_refl _) _ D _ _ (by omega) hK' rfl rfl)⟩
      simp [results, Tryd.f133, go_sem, hc5]
    case stop =>
      rintro D c pre W hD hpre ⟨⟨rfl, hne, hcr⟩, hB⟩ hK
      gi_wp2
      refine ⟨by simp, .inl ⟨_, _, rfl, run_takeDeferred hK, ?_⟩⟩
      have hc5 := cell_kept hcr (grownBy_putObj' _ D (.deferred none)) (fun r e => by cases e; exact ⟨_, hK, rfl⟩)
      refine ⟨.bool false, ?_, by rw [factB_some (fun e => by rw [e] at hpre; exact hne (List.prefix_nil.1 hpre))], hB.trans (belowK_b (w := w) (Nat.le_refl _) W D _ _ (by omega) hK rfl rfl)⟩
      simp [results, Tryd.f133, go_sem, hc5]

theorem run_store_func {P : Program} {w : World} {a : Addr} {m : Mode} (f : Fn) (c l : Array Value) : (store a (.func f c l) m).run P w = stored P w a (.func f c l) m := run_store P w a _ m rfl
attribute [local go_sem] run_store_func

/-- The program's own word for a list in order. -/
def listV (A : Option Addr) (n c : Nat) : Value := .agg #[.slice A n c, .func (.func 135) #[] #[]]

theorem factList_any (A : Option Addr) (n c : Nat) (w : World) :
    Calls Tryd.prog 117 #[.slice A n c] w fun e w' => e = .returned (listV A n c) ∧ Below w.heap.size w w' := by
  go_enter Tryd.func117, Tryd.ntmps117
  go_wp2
  exact bodyPost_ret (v := listV A n c) (by simp [results, Tryd.results117, go_sem, listV]) rfl ⟨rfl, below1 w _⟩

set_option maxHeartbeats 2000000 in
theorem isSorted_any (A : Option Addr) (n c : Nat) (xs : List At) (w : World) (h : IsAtoms w 0 w.heap.size A n c xs) :
    Calls Tryd.prog 134 #[listV A n c] w (BoolPost (risesB xs) w) := by
  have hn := h.len
  unfold maxLen at hn
  have L := Lib.hid h.1
  have H := Lib.hid h; clear h
  unfold listV
  have hw0 := below1 w (.cells #[.slice A n c, .func (.func 135) #[] #[]] 135)
  have X0 := Lib.hid (Box.new w (.slice A n c) (.func (.func 135) #[] #[]) 135)
  go_enter Tryd.func134, Tryd.ntmps134
  go_wp2
  go_loopw [3] (fun i wr => ∃ k : Nat, 1 ≤ k ∧ k ≤ n + 1 ∧ i = .int .i64 k ∧ risesB (xs.take k) = true ∧ Below (w.alloc (.cells #[.slice A n c, .func (.func 135) #[] #[]] 135)).heap.size (w.alloc (.cells #[.slice A n c, .func (.func 135) #[] #[]] 135)) wr) (fun i _ => n + 1 - (intOf i).toNat)
  case atStart => exact ⟨1, by omega, by omega, rfl, rises_next (xs := xs) rfl rfl, Below.refl _ _⟩
  case round =>
    obtain ⟨k, hk1, hk, rfl, hr, hb⟩ := hrel
    have HR := Lib.hid hr; clear hr
    have HB := belowThen hw0 hb
    have XB := X0.out.later hb
    by_cases hlt : k < n
    · obtain ⟨p, q, hA, hlo, hhi, hg, hE⟩ := (H.out.below AtomE.stays HB (Nat.le_refl _)).at_ hlt
      obtain ⟨A', n', c', d1, d3, d4, d5⟩ := hE.out
      clear hE
      obtain ⟨j, hj⟩ : ∃ j, k = j + 1 := ⟨k - 1, by omega⟩
      have hjn : j < n := by omega
      have hsub : (k : Int) - 1 = (j : Int) := by omega
      have hwj : IntKind.i64.wrap (j : Int) = (j : Int) := by rw [IntKind.wrap_i64]; omega
      have HJ := Lib.hid hj; clear hj
      obtain ⟨p', q', hA', hlo', hhi', hg', hE'⟩ := (H.out.below AtomE.stays HB (Nat.le_refl _)).at_ hjn
      obtain ⟨A2, n2, c2, f1, f3, f4, f5⟩ := hE'.out
      clear hE'
      obtain rfl : p = p' := by rw [hA] at hA'; injection hA'
      clear hA'
      subst hA
      obtain ⟨b0, b1, b2⟩ := XB
      have hsz := HB.size
      have HG := Lib.hid hg; have HG' := Lib.hid hg'; clear hg hg'
      have HT := Lib.hid (d5.keep (w' := wr.drew) (lo' := 0) (hi' := wr.drew.heap.size) (fun _ _ _ => rfl) (Nat.le_refl _) HB.size); clear d5
      have HT' := Lib.hid (f5.keep (w' := wr.drew) (lo' := 0) (hi' := wr.drew.heap.size) (fun _ _ _ => rfl) (Nat.le_refl _) HB.size); clear f5
      have hbd := hb.drew
      have e1 : wr.drew.cell? ⟨w.heap.size, 0, none⟩ = some (.slice (some p) n c) := b1
      have e2 : wr.drew.cell? ⟨w.heap.size, 1, none⟩ = some (.func (.func 135) #[] #[]) := b2
      have x1 : wr.drew.cell? (p.add (k * 2)) = some (.string q.1) := d1
      have x2 : wr.drew.cell? ⟨(p.add (k * 2)).block, (p.add (k * 2)).off + 1, none⟩ = some (.slice A' n' c') := d4
      have x3 : wr.drew.cell? (p.add (j * 2)) = some (.string q'.1) := f1
      have x4 : wr.drew.cell? ⟨(p.add (j * 2)).block, (p.add (j * 2)).off + 1, none⟩ = some (.slice A2 n2 c2) := f4
      go_wp2_with fail
      go_region_held3 (fun W => ((W.cell? ⟨w.heap.size, 0, none⟩ = some (.slice (some p) n c) ∧ W.cell? ⟨w.heap.size, 1, none⟩ = some (.func (.func 135) #[] #[])) ∧ W.cell? (p.add (k * 2)) = some (.string q.1) ∧ W.cell? ⟨(p.add (k * 2)).block, (p.add (k * 2)).off + 1, none⟩ = some (.slice A' n' c')) ∧ W.cell? (p.add (j * 2)) = some (.string q'.1) ∧ W.cell? ⟨(p.add (j * 2)).block, (p.add (j * 2)).off + 1, none⟩ = some (.slice A2 n2 c2))
        (first | (with_reducible exact ⟨⟨⟨y5, y6⟩, y1, y2⟩, y3, y4⟩) | (with_reducible exact ⟨⟨⟨e1, e2⟩, x1, x2⟩, x3, x4⟩) | (with_reducible exact ⟨⟨⟨b1, b2⟩, d1, d4⟩, f1, f4⟩))
        (((with_reducible refine (compareAtoms_any q'.1 q.1 A2 A' n2 c2 n' c' q'.2 q.2 _ HT'.out HT.out).mono ?_); rintro e w1 ⟨rfl, hb1⟩; have y1 := (hb1.cell (p := p.add (k * 2)) (by rw [block_add]; exact Nat.lt_of_lt_of_le hhi hsz)).trans d1; have y2 := (hb1.cell (p := ⟨(p.add (k * 2)).block, (p.add (k * 2)).off + 1, none⟩) (by rw [block_add]; exact Nat.lt_of_lt_of_le hhi hsz)).trans d4; have y3 := (hb1.cell (p := p.add (j * 2)) (by rw [block_add]; exact Nat.lt_of_lt_of_le hhi hsz)).trans f1; have y4 := (hb1.cell (p := ⟨(p.add (j * 2)).block, (p.add (j * 2)).off + 1, none⟩) (by rw [block_add]; exact Nat.lt_of_lt_of_le hhi hsz)).trans f4; have y5 := (hb1.cell (p := ⟨w.heap.size, 0, none⟩) b0).trans b1; have y6 := (hb1.cell (p := ⟨w.heap.size, 1, none⟩) b0).trans b2))
      all_goals
        clear y1 y2 y3 y4 y5 y6 x1 x2 x3 x4 e1 e2
        go_wp2
      all_goals first
        | (go_ret; exact ⟨retB (risesB_no (a := q') (b := q) HG'.out (by rw [← HJ.out]; exact HG.out) (Int.not_lt.2 (by assumption))).symm, belowThen hw0 (belowThen hbd hb1)⟩)
        | (go_roundw
           case rel => exact ⟨k + 1, by omega, by omega, by go_num, by
             have h1 := HG.out; have h2 := HR.out
             rw [HJ.out] at h1 h2 ⊢
             exact risesB_snoc (a := q') (b := q) HG'.out h1 h2 (by assumption), belowThen hbd hb1⟩
           case measure => simp [intOf]; omega)
    · have E := Lib.hid (show risesB xs = true by have := HR.out; rwa [List.take_of_length_le (by have := L.out; omega)] at this)
      obtain ⟨b0, b1, b2⟩ := XB
      go_wp2
      go_ret; exact ⟨retB E.out.symm, HB⟩

set_option maxHeartbeats 1000000 in
theorem implFactsOk_any (A : Option Addr) (n c : Nat) (xs : List At) (w : World) (h : IsAtoms w 0 w.heap.size A n c xs) :
    Calls Tryd.prog 116 #[.slice A n c] w (BoolPost (factsB 300 xs) w) := by
  have hn := h.len
  unfold maxLen at hn
  have L := Lib.hid h.1
  have H := Lib.hid h; clear h
  by_cases hlong : 300 < n
  · have hi : (300 : Int) < (n : Int) := by omega
    have E := Lib.hid (factsB_long (m := 300) (xs := xs) (by rw [L.out]; exact hlong))
    go_enter Tryd.func116, Tryd.ntmps116
    go_wp2
    go_ret; exact ⟨retB E.out.symm, Below.refl _ _⟩
  · have hi : ¬ (300 : Int) < (n : Int) := by omega
    go_enter Tryd.func116, Tryd.ntmps116
    go_wp2
    go_loopw [4, 10] (fun _ i wr => ∃ k : Nat, k ≤ n ∧ i = .int .i64 k ∧ (xs.take k).all factB = true ∧ Below w.heap.size w wr) (fun _ i _ => n - (intOf i).toNat)
    case atStart => exact ⟨0, Nat.zero_le _, rfl, rfl, Below.refl _ _⟩
    case round =>
      obtain ⟨k, hk, rfl, hd, hb⟩ := hrel
      have HD := Lib.hid hd; clear hd
      by_cases hlt : k < n
      · obtain ⟨p, q, hA, hlo, hhi, hg, hE⟩ := (H.out.below AtomE.stays hb (Nat.le_refl _)).at_ hlt
        obtain ⟨A', n', c', d1, d3, d4, d5⟩ := hE.out
        clear hE
        subst hA
        have HG := Lib.hid hg; clear hg
        have hb1 := below1 wr (.cells #[.string q.1, .slice A' n' c'] 24)
        have HT := Lib.hid ((d5.keep (lo' := 0) (hi' := wr.heap.size) (fun _ _ _ => rfl) (Nat.le_refl _) hb.size).up hb1); clear d5
        cases hF : factB q
        · have hF' : factB (q.1, q.2) = false := hF
          have E := Lib.hid (factsB_no (m := 300) HG.out hF); clear hF
          go_wp2_with fail
          refine (factOk_any _ _ _ _ q.2 _ d3 HT.out).mono ?_; rintro e w1 ⟨rfl, hb2⟩
          go_wp2
          go_ret; exact ⟨retB E.out.symm, belowThen hb (belowThen hb1 hb2)⟩
        · have hF' : factB (q.1, q.2) = true := hF
          have EF := Lib.hid hF; clear hF
          go_wp2_with fail
          refine (factOk_any _ _ _ _ q.2 _ d3 HT.out).mono ?_; rintro e w1 ⟨rfl, hb2⟩
          go_wp2
          go_roundw
          case rel => exact ⟨k + 1, by omega, by go_num, allB_snoc HG.out HD.out EF.out, belowThen hb (belowThen hb1 hb2)⟩
          case measure => simp [intOf]; omega
      · have E := Lib.hid (show factsB 300 xs = risesB xs by
          have h1 := HD.out; have h2 := L.out
          rw [List.take_of_length_le (by omega)] at h1
          unfold factsB
          rw [h1, Bool.true_and, decide_eq_true (by omega), Bool.and_true])
        go_wp2_with fail
        refine (factList_any _ _ _ _).mono ?_; rintro e w1 ⟨rfl, hb1⟩
        go_wp2_with fail
        refine (isSorted_any _ _ _ xs _ (H.out.up AtomE.stays (belowThen hb hb1))).mono ?_; rintro e w2 ⟨rfl, hb2⟩
        go_wp2
        go_ret; exact ⟨retB E.out.symm, belowThen (belowThen hb hb1) hb2⟩

end Go.Proofs.YtahkkelahocplaaDoor
