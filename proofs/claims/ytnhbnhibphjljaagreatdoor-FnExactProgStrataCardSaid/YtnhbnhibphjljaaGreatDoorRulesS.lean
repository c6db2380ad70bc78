/-
  Rules: the law's own sizes, copies and comparisons of lists of rules.
  What comes in: lists of rules, opened.
-/
import Derived.Test.YtnhbnhibphjljaaGreatDoorAtomsL
import Derived.Test.YtnhbnhibphjljaaGreatDoorRule2
import Derived.Deep.RegionWith
import Derived.Test.YtnhbnhibphjljaaGreatDoorOpenR
namespace Go.Proofs.YtnhbnhibphjljaaGreatDoor
open Go.RowKit

def SmallRules (n : Nat) (rs : List Rl) : Prop := n ≤ 1048576 ∧ ∀ r ∈ rs, SmallRule r.1.2.length r.2.length r.2

set_option maxHeartbeats 1000000 in
theorem szRuleS_any (A : Option Addr) (n c : Nat) (xs : List Rl) (z : Int) (w : World) (h : IsRules w 0 w.heap.size A n c xs) (hz0 : 0 ≤ z) (hz1 : z ≤ 1048576) :
    Calls Tryz.prog 14 #[.slice A n c, .int .i64 z] w (SzPost z (SmallRules n xs) w) := by
  have hn := h.len
  unfold maxLen at hn
  have H := Lib.hid h; clear h
  go_enter Tryz.func14, Tryz.ntmps14
  go_wp2
  · go_ret; exact ⟨_, ⟨rfl, by omega, by omega, by omega⟩, Below.refl _ _⟩
  · have hzn : 0 ≤ z - (n : Int) := by assumption
    go_loopw [1, 5] (fun x i wr => ∃ (k : Nat) (y : Int), k ≤ n ∧ i = .int .i64 k ∧ x = .int .i64 y ∧ 0 ≤ y ∧ y ≤ z ∧ (∀ q ∈ xs.take k, SmallRule q.1.2.length q.2.length q.2) ∧ Below w.heap.size w wr) (fun _ i _ => n - (intOf i).toNat)
    case atStart => exact ⟨0, _, Nat.zero_le _, rfl, rfl, by omega, by omega, fun q hq => by simp at hq, Below.refl _ _⟩
    case round =>
      obtain ⟨k, y, hk, rfl, rfl, hy0, hy1, hq, hb⟩ := hrel
      have HQ := Lib.hid hq; clear hq
      by_cases hlt : k < n
      · obtain ⟨p, r, A', n', c', B, m, d, hA, hpb, hg, d1, d2, d3, d4, d5, d6⟩ := rule_at (H.out.below RuleE.stays hb (Nat.le_refl _)) hlt
        subst hA
        have HG := Lib.hid hg; clear hg
        have HR : Hid (IsRule wr wr.heap.size A' n' c' B m d r.1.2 r.2) := Lib.hid ⟨d4.keep (fun _ _ _ => rfl) (Nat.le_refl _) hb.size, d6.keep PartE.stays (fun _ _ _ => rfl) (Nat.le_refl _) hb.size⟩
        have HN := Lib.hid d2
        have L1 := Lib.hid d4.1; have L2 := Lib.hid d6.1
        clear d2 d4 d6
        go_wp2_with (go_at_call 55; refine (szRule_any _ _ _ _ _ _ _ r.1.2 r.2 _ _ HN.out HR.out hy0 (by omega)).mono ?_; rintro e w1 ⟨y1, ⟨rfl, hy2, hy3, hy4⟩, hb1⟩)
        · go_ret; exact ⟨_, ⟨rfl, by omega, by omega, by omega⟩, belowThen hb hb1⟩
        · have hy5 : SmallRule n' m r.2 := hy4 (by assumption)
          have HY := Lib.hid hy5; clear hy5 hy4
          go_roundw
          case rel => exact ⟨k + 1, y1, by omega, by go_num, rfl, by omega, by omega, all_snoc HG.out HQ.out (by rw [L1.out, L2.out]; exact HY.out), belowThen hb hb1⟩
          case measure => simp [intOf]; omega
      · have hl := H.out.1
        have hsm : SmallRules n xs := ⟨by omega, by have := HQ.out; rwa [List.take_of_length_le (by omega)] at this⟩
        have HS := Lib.hid hsm; clear hl hsm
        go_wp2
        go_ret; exact ⟨_, ⟨rfl, by omega, by omega, fun _ => HS.out⟩, hb⟩

def RuleOwn (nm : ByteArray) (n m : Nat) (ts : List Tm) (xs : List Pt) (w : World) (e : Ending) (w' : World) : Prop :=
  ∃ g g', e = .returned (.agg #[.string nm, .slice (some ⟨g, 0, none⟩) n n, .slice (some ⟨g', 0, none⟩) m m]) ∧ IsTerms w' w.heap.size w'.heap.size (some ⟨g, 0, none⟩) n n ts ∧ IsParts w' w.heap.size w'.heap.size (some ⟨g', 0, none⟩) m m xs ∧ Below w.heap.size w w'

set_option maxHeartbeats 2000000 in
theorem toRule_own (nm : ByteArray) (A : Option Addr) (n c : Nat) (B : Option Addr) (m d : Nat) (ts : List Tm) (xs : List Pt) (w : World) (h : IsRule w w.heap.size A n c B m d ts xs) (hn : SmallRule n m xs) :
    Calls Tryz.prog 60 #[.agg #[.string nm, .slice A n c, .slice B m d]] w (RuleOwn nm n m ts xs w) := by
  obtain ⟨hn1, hn2⟩ := hn
  have H := Lib.hid h; clear h
  have HN := Lib.hid hn2; clear hn2
  go_enter Tryz.func60, Tryz.ntmps60
  go_wp2_with fail
  refine (toAtom_any _ _ _ _ ts _ (H.out.up (below3 _ _ _ _)).1 hn1).mono ?_; rintro e w1 ⟨g, rfl, hg, ho, hb1⟩
  simp only [size_alloc_eq] at hg
  have HB1 := belowThen (below3 _ _ _ _) hb1
  obtain ⟨hc, hf⟩ := oldCells hb1
  have hz : w.heap.size + 1 + 1 < w1.heap.size := by have := hb1.size; simp at this; omega
  have hz' : w.heap.size + 1 < w1.heap.size := by omega
  have hz'' : w.heap.size < w1.heap.size := by omega
  have R1 : Box3 w1 (w.heap.size + 1) (.string ⟨#[]⟩) (.slice none 0 0) (.slice none 0 0) := by
    refine ⟨by omega, ?_, ?_, ?_⟩ <;> (rw [hc _ _ (by simp)]; simp [go_sem])
  have RW := (R1.other (a := ⟨w.heap.size + 1 + 1, 0, none⟩) (by simp) (.string nm)).other (a := ⟨w.heap.size + 1 + 1, 1, none⟩) (by simp) (.slice (some ⟨g, 0, none⟩) n n)
  have HBW := (HB1.setCell (p := ⟨w.heap.size + 1 + 1, 0, none⟩) (by simp; omega) (.string nm)).setCell (p := ⟨w.heap.size + 1 + 1, 1, none⟩) (by simp; omega) (.slice (some ⟨g, 0, none⟩) n n)
  have hoW := (ho.setOther (a := ⟨w.heap.size + 1 + 1, 0, none⟩) (by simp; omega) (.string nm)).setOther (a := ⟨w.heap.size + 1 + 1, 1, none⟩) (by simp; omega) (.slice (some ⟨g, 0, none⟩) n n)
  go_wp2_with fail
  refine (toPartS_any _ _ _ xs _ (H.out.up HBW).2 HN.out).mono ?_; rintro e w2 ⟨g', rfl, hg', hp2, hb2⟩
  have HB2 := belowThen HBW hb2
  have ho2 := hoW.below hb2
  have R2 := RW.later hb2
  clear HBW hoW RW R1
  obtain ⟨hc2, hf2⟩ := oldCells hb2
  simp only [size_setCell] at hg'
  have hy : w.heap.size + 1 + 1 < w2.heap.size := by have := hb2.size; rw [size_setCell, size_setCell] at this; omega
  go_wp2
  obtain ⟨r1, r2, r3, r4⟩ := R2
  have hx1 : g < w2.heap.size := ho2.2.2.lt
  have hlo : w.heap.size + 1 + 1 < g' := by omega
  refine bodyPost_ret (v := .agg #[.string nm, .slice (some ⟨g, 0, none⟩) n n, .slice (some ⟨g', 0, none⟩) m m]) (by simp [results, Tryz.results60, go_sem, r2, r3, r4]) rfl ⟨g, g', rfl, ?_, ?_, ?_⟩
  · exact ((((ho2.setOther (a := ⟨w.heap.size + 1 + 1, 2, none⟩) (by simp; omega) _).setOther (a := ⟨w.heap.size + 1, 0, none⟩) (by simp; omega) _).setOther (a := ⟨w.heap.size + 1, 1, none⟩) (by simp; omega) _).setOther (a := ⟨w.heap.size + 1, 2, none⟩) (by simp; omega) _).is_ (by unfold maxLen; omega) (by omega)
  · refine hp2.keep PartE.stays (fun q hq _ => ?_) (by simp only [size_setCell]; omega) (by simp [World.setCell])
    have hq' : w.heap.size + 1 + 1 < q.block := by rw [size_setCell, size_setCell] at hq; omega
    rw [World.cell?_setCell_other _ _ _ _ (fun e => by subst e; simp at hq'; try omega), World.cell?_setCell_other _ _ _ _ (fun e => by subst e; simp at hq'; try omega), World.cell?_setCell_other _ _ _ _ (fun e => by subst e; simp at hq'; try omega), World.cell?_setCell_other _ _ _ _ (fun e => by subst e; simp at hq'; try omega)]
  · exact (((HB2.setCell (p := ⟨w.heap.size + 1 + 1, 2, none⟩) (by simp; omega) _).setCell (p := ⟨w.heap.size + 1, 0, none⟩) (by simp) _).setCell (p := ⟨w.heap.size + 1, 1, none⟩) (by simp) _).setCell (p := ⟨w.heap.size + 1, 2, none⟩) (by simp) _

theorem Tryz.infoRuleL : (Tryz.prog.info? 72).map (fun i => (i.zero, i.size, i.bytes)) = some (some (.agg #[.string ByteArray.empty, .slice none 0 0, .slice none 0 0]), 3, 64) := by kernel_rfl

/-- What a row of rules says. -/
def RuleV : Says Rl := fun w lo cs r => cs 0 = .string r.1.1 ∧ r.1.1.size ≤ maxLen ∧ (∃ A n c, cs 1 = .slice A n c ∧ IsTerms w lo w.heap.size A n c r.1.2) ∧ ∃ B m d, cs 2 = .slice B m d ∧ IsParts w lo w.heap.size B m d r.2

theorem RuleV.keep : SaysKeep RuleV := fun _ _ _ _ _ ⟨h1, h2, ⟨A, n, c, h3, h4⟩, B, m, d, h5, h6⟩ hk hs => ⟨h1, h2, ⟨A, n, c, h3, h4.keep hk (Nat.le_refl _) hs⟩, B, m, d, h5, h6.keep PartE.stays hk (Nat.le_refl _) hs⟩
theorem RuleV.cong : SaysCong 3 RuleV := fun _ _ _ _ _ hc ⟨h1, h2, ⟨A, n, c, h3, h4⟩, B, m, d, h5, h6⟩ => ⟨(hc 0 (by omega)).symm.trans h1, h2, ⟨A, n, c, (hc 1 (by omega)).symm.trans h3, h4⟩, B, m, d, (hc 2 (by omega)).symm.trans h5, h6⟩

theorem RuleV.is_ {w : World} {g lo : Nat} (hlo : lo ≤ g) (p : Addr) (cs : Nat → Value) (a : Rl) (h : RuleV w (g + 1) cs a) (hc : ∀ j, j < 3 → w.cell? (⟨p.block, p.off + j, none⟩) = some (cs j)) (hp : p.spot = none) : RuleE w lo w.heap.size p a := by
  obtain ⟨h1, h2, ⟨A, n, c, h3, h4⟩, B, m, d, h5, h6⟩ := h
  obtain ⟨b, o, s⟩ := p
  simp only at hp
  subst hp
  exact ⟨by rw [← h1]; exact hc 0 (by omega), h2, ⟨A, n, c, by rw [← h3]; exact hc 1 (by omega), h4.keep (fun _ _ _ => rfl) (by omega) (Nat.le_refl _)⟩, B, m, d, by rw [← h5]; exact hc 2 (by omega), h6.keep PartE.stays (fun _ _ _ => rfl) (by omega) (Nat.le_refl _)⟩

/-- A copy of rules, in memory of its own. -/
def RuleSPost (n : Nat) (xs : List Rl) (w : World) (e : Ending) (w' : World) : Prop := ∃ g, e = .returned (.slice (some ⟨g, 0, none⟩) n n) ∧ w.heap.size ≤ g ∧ IsRules w' w.heap.size w'.heap.size (some ⟨g, 0, none⟩) n n xs ∧ Below w.heap.size w w'

set_option maxHeartbeats 2000000 in
theorem toRuleS_any (A : Option Addr) (n c : Nat) (xs : List Rl) (w : World) (h : IsRules w 0 w.heap.size A n c xs) (hn : SmallRules n xs) :
    Calls Tryz.prog 16 #[.slice A n c] w (RuleSPost n xs w) := by
  obtain ⟨hn1, hn2⟩ := hn
  obtain ⟨i0, hi, hz, hsz, hby⟩ := info_parts Tryz.infoRuleL
  have hmk : ∀ W : World, (Instr.makeSlice 25 (.int .i64 (n : Int)) (.int .i64 (n : Int))).run Tryz.prog W = .ok (.slice (some ⟨W.heap.size, 0, none⟩) n n) (W.alloc (.cells (madeCells #[.string ByteArray.empty, .slice none 0 0, .slice none 0 0] (n * 3)) 72)) := by
    intro W
    have hr := run_make (P := Tryz.prog) W 25 72 i0 _ Tryz.underlying25 hi hz .i64 .i64 n n (by omega) (Int.le_refl _) (by rw [hby]; omega) (by omega)
    rw [hsz] at hr
    exact hr
  clear hi hz hsz hby
  have HN := Lib.hid hn2; clear hn2
  have H := Lib.hid h; clear h
  go_enter Tryz.func16, Tryz.ntmps16
  go_wp2
  go_loopw [4] (fun i wr => ∃ k : Nat, k ≤ n ∧ i = .int .i64 k ∧ Rowed 72 3 RuleV wr w.heap.size n k xs ∧ Below w.heap.size w wr) (fun i _ => n - (intOf i).toNat)
  case atStart => exact ⟨0, Nat.zero_le _, rfl, Rowed.start w _, below1 _ _⟩
  case round =>
    obtain ⟨k, hk, rfl, hf, hb⟩ := hrel
    have HF := Lib.hid hf; clear hf
    by_cases hlt : k < n
    · obtain ⟨p, r, A', n', c', B, m, d, hA, hpb, hg, d1, d2, d3, d4, d5, d6⟩ := rule_at (H.out.below RuleE.stays hb (Nat.le_refl _)) hlt
      subst hA
      have hq : SmallRule n' m r.2 := by have := HN.out r (List.mem_of_getElem? hg); rwa [d4.1, d6.1] at this
      have HQ := Lib.hid hq
      have HG := Lib.hid hg
      have HR : Hid (IsRule wr wr.heap.size A' n' c' B m d r.1.2 r.2) := Lib.hid ⟨d4.keep (fun _ _ _ => rfl) (Nat.le_refl _) hb.size, d6.keep PartE.stays (fun _ _ _ => rfl) (Nat.le_refl _) hb.size⟩
      have HN2 := Lib.hid d2
      clear hg hq d2 d4 d6
      go_wp2_with fail
      (refine (toRule_own _ _ _ _ _ _ _ r.1.2 r.2 _ HR.out HQ.out).mono ?_; rintro e w1 ⟨g1, g2, rfl, ho1, ho2, hb1⟩; have HF1 := HF.out.below RuleV.keep hb1; have hg0 : w.heap.size < wr.heap.size := HF.out.lt; obtain ⟨⟨x0, hx0⟩, hz0⟩ := HF1.cells (j := k * 3) (by omega); obtain ⟨⟨x1, hx1⟩, hz1⟩ := HF1.cells (j := k * 3 + 1) (by omega); obtain ⟨⟨x2, hx2⟩, hz2⟩ := HF1.cells (j := k * 3 + 2) (by omega))
      have HT1 := Lib.hid (ho1.keep (lo' := w.heap.size + 1) (hi' := w1.heap.size) (fun _ _ _ => rfl) (by omega) (Nat.le_refl _))
      have HT2 := Lib.hid (ho2.keep (lo' := w.heap.size + 1) (hi' := w1.heap.size) PartE.stays (fun _ _ _ => rfl) (by omega) (Nat.le_refl _))
      clear ho1 ho2
      go_wp2
      go_roundw
      case rel => exact ⟨k + 1, by omega, by go_num, HF1.step3 RuleV.keep RuleV.cong r HG.out _ _ _ ⟨rfl, HN2.out, ⟨_, _, _, rfl, HT1.out⟩, _, _, _, rfl, HT2.out⟩, (((belowThen hb hb1).setCell (Nat.le_refl _) _).setCell (Nat.le_refl _) _).setCell (Nat.le_refl _) _⟩
      case measure => simp [intOf]; omega
    · go_wp2
      go_ret
      exact ⟨_, rfl, Nat.le_refl _, HF.out.is_ hlt H.out.1 (by unfold maxLen; omega) (Nat.le_refl _) (RuleV.is_ (Nat.le_refl _)), hb⟩

set_option maxHeartbeats 2000000 in
theorem eqRuleS_any (A B : Option Addr) (n c n' c' : Nat) (xs ys : List Rl) (w : World) (h : IsRules w 0 w.heap.size A n c xs) (h' : IsRules w 0 w.heap.size B n' c' ys) :
    Calls Tryz.prog 18 #[.slice A n c, .slice B n' c'] w (BoolPost (listEq ruleEq xs ys) w) := by
  have hm := h.len
  unfold maxLen at hm
  have H := Lib.hid h; clear h
  have H' := Lib.hid h'; clear h'
  by_cases hne : n = n'
  · subst hne
    go_enter Tryz.func18, Tryz.ntmps18
    go_wp2
    go_loopw [5] (fun i wr => ∃ k : Nat, k ≤ n ∧ i = .int .i64 k ∧ listEq ruleEq (xs.drop k) (ys.drop k) = listEq ruleEq xs ys ∧ Below w.heap.size w wr) (fun i _ => n - (intOf i).toNat)
    case atStart => exact ⟨0, Nat.zero_le _, rfl, rfl, Below.refl _ _⟩
    case round =>
      obtain ⟨k, hk, rfl, hd, hb⟩ := hrel
      have HD := Lib.hid hd; clear hd
      by_cases hlt : k < n
      · obtain ⟨p, q, A1, n1, c1, B1, m1, e1, hA, hpb, hg, d1, d2, d3, d4, d5, d6⟩ := rule_at (H.out.below RuleE.stays hb (Nat.le_refl _)) hlt
        obtain ⟨p', q', A2, n2, c2, B2, m2, e2, hA', hpb', hg', f1, f2, f3, f4, f5, f6⟩ := rule_at (H'.out.below RuleE.stays hb (Nat.le_refl _)) hlt
        subst hA; subst hA'
        have HG := Lib.hid hg; clear hg
        have HG' := Lib.hid hg'; clear hg'
        have HR : Hid (IsRule wr.drew wr.drew.heap.size A1 n1 c1 B1 m1 e1 q.1.2 q.2) := Lib.hid ⟨d4.keep (fun _ _ _ => rfl) (Nat.le_refl _) hb.size, d6.keep PartE.stays (fun _ _ _ => rfl) (Nat.le_refl _) hb.size⟩
        have HR' : Hid (IsRule wr.drew wr.drew.heap.size A2 n2 c2 B2 m2 e2 q'.1.2 q'.2) := Lib.hid ⟨f4.keep (fun _ _ _ => rfl) (Nat.le_refl _) hb.size, f6.keep PartE.stays (fun _ _ _ => rfl) (Nat.le_refl _) hb.size⟩
        clear d2 d4 d6 f2 f4 f6
        have hbd := hb.drew
        go_wp2_with fail
        go_region_with (go_at_call 67; refine (eqRule_any _ _ _ _ _ _ _ _ _ _ _ _ _ _ q.1.2 q'.1.2 q.2 q'.2 _ HR.out HR'.out).mono ?_; rintro e w1 ⟨rfl, hb1⟩)
        all_goals go_wp2
        all_goals first
          | (go_ret; exact ⟨retB (listEq_no HG.out HG'.out HD.out (by assumption)), belowThen hbd hb1⟩)
          | (go_roundw
             case rel => exact ⟨k + 1, by omega, by go_num, listEq_on HG.out HG'.out HD.out (by assumption), belowThen hbd hb1⟩
             case measure => simp [intOf]; omega)
      · have hl := Lib.hid H.out.1
        have hl' := Lib.hid H'.out.1
        go_wp2
        go_ret
        exact ⟨retB (listEq_end hl.out hl'.out HD.out hlt), hb⟩
  · have hlen : xs.length ≠ ys.length := by rw [H.out.1, H'.out.1]; exact hne
    go_enter Tryz.func18, Tryz.ntmps18
    go_wp2
    go_ret
    exact ⟨retB (listEq_len hlen).symm, Below.refl _ _⟩

end Go.Proofs.YtnhbnhibphjljaaGreatDoor

namespace Go.Proofs.YtnhbnhibphjljaaGreatDoor
open Go.ChangeShapes Go.WideShapes Go.ChangeAt Go.RowKit Go.Deep Go.Joins

section
variable {H : Type} {enc : TypeId × Value → H} {w : World} {base : Nat} {spare : Nat → Bool} {held : Bool}

/-- A slice of rules, opened. -/
theorem open_rulesF {fuel : Nat} {v : Value} {x : DataW H × List MemPlace} (h : DataW.trod enc Tryz.prog w base spare held fuel 22 [v] = some x) :
    ∃ A n c xs, v = .slice A n c ∧ IsRules w 0 w.heap.size A n c xs := by
  rcases open_slice Tryz.underlying22 h with ⟨hc, _⟩ | ⟨a, len, cap, m, n, D, Pl, hc, _, hl, hm, hmm, _, hi⟩
  · simp only [List.cons.injEq, and_true] at hc
    exact ⟨none, 0, 0, [], hc, rfl, Nat.le_refl _, Nat.zero_le _, fun h0 => absurd h0 (by omega)⟩
  · simp only [List.cons.injEq, and_true] at hc
    have hlm : len ≤ m := by rw [hmm]; split <;> omega
    have each : ∀ i, i < m → ∃ q : Rl, RuleE w 0 w.heap.size (a.add (i * 3)) q := by
      intro i him
      obtain ⟨cs', h1, h2⟩ := hi i him
      rw [Tryz.cellsRule] at h1
      obtain ⟨_, hlen, hcell⟩ := World.cells?_some h1
      match cs', hlen with
      | [u0, u1, u2], _ =>
        obtain ⟨y0, y1, k, _, _, t0, t1⟩ := trod_struct2 Tryz.underlying83 h2
        simp [Tryz.cellsAtom, Tryz.cellsPartS] at t0 t1
        obtain ⟨nm, A, n', c', ts, hv0, hv1, hz, ht⟩ := open_atom2 t0
        obtain ⟨B, m', e', xs, hv2, hx⟩ := open_parts t1
        have e0 := hcell 0 (by omega)
        have e1 := hcell 1 (by omega)
        have e2 := hcell 2 (by omega)
        simp at e0 e1 e2
        refine ⟨((nm, ts), xs), ?_, hz, ⟨A, n', c', ?_, ht⟩, B, m', e', ?_, hx⟩
        · rw [← hv0]; simpa [Addr.add] using e0
        · rw [next_eq _ _ (by omega), ← hv1]; exact e1
        · rw [next_eq _ _ (by omega), ← hv2]; exact e2
    obtain ⟨f, hf⟩ := choose_lt each
    refine ⟨some a, len, cap, (List.range len).map f, hc, by simp, hl, hm, fun h0 => ⟨a, rfl, Nat.zero_le _, World.block_lt_of_cell? _ _ (by simpa [Addr.add] using (hf 0 (by omega)).1), fun i t ht => ?_⟩⟩
    have hil : i < len := by
      have := (List.getElem?_eq_some_iff.1 ht).1
      simpa using this
    have ht' : f i = t := by simpa [hil] using ht
    rw [← ht']
    exact hf i (by omega)

set_option maxRecDepth 100000 in
theorem open_rules {b0 : Nat} {v : Value} {d : DataW H} {p : List MemPlace} (hv : Value.okWide Tryz.prog w .any b0 22 v) (h : DataW.Trod enc Tryz.prog w base spare held 22 v d p) :
    ∃ A n c xs, v = .slice A n c ∧ IsRules w 0 w.heap.size A n c xs := by
  obtain ⟨A, n, c, rfl⟩ := okWide_slice Tryz.underlying22 hv
  obtain ⟨fuel, hf⟩ := h
  exact open_rulesF (by simpa [Value.cells] using hf)
end

end Go.Proofs.YtnhbnhibphjljaaGreatDoor

