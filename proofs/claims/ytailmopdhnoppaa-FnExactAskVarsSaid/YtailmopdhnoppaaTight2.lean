/-
  A rule of what is asked, and whether each of its variables is in something that must be, in the model.
-/
import Derived.Test.YtailmopdhnoppaaTight
import Derived.Test.YtailmopdhnoppaaBlk
import Derived.Test.YtailmopdhnoppaaDraw2
import Derived.Test.YtailmopdhnoppaaOnly
import Derived.Deep.RegionLaw
import Derived.Deep.AppendLies
namespace Go.Proofs.Ytailmopdhnoppaa
open Go.RowKit

def musts (qs : List Pt) : List Pt := qs.filter fun q => !q.1

theorem musts_no {qs : List Pt} {k : Nat} {q : Pt} (h : qs[k]? = some q) (hq : q.1 = true) : musts (qs.take (k + 1)) = musts (qs.take k) := by unfold musts; rw [List.take_add_one, h, List.filter_append]; simp [hq]
theorem musts_yes {qs : List Pt} {k : Nat} {q : Pt} (h : qs[k]? = some q) (hq : q.1 = false) : musts (qs.take (k + 1)) = musts (qs.take k) ++ [q] := by unfold musts; rw [List.take_add_one, h, List.filter_append]; simp [hq]
theorem musts_len (qs : List Pt) (k : Nat) : (musts (qs.take k)).length ≤ k := Nat.le_trans (List.length_filter_le _ _) (by rw [List.length_take]; omega)
theorem partsT_snoc (ls : List ByteArray) (qs : List Pt) (q : Pt) : partsT ls (qs ++ [q]) = varsT (partsT ls qs) q.2.2 := by unfold partsT; rw [List.foldl_append]; rfl

/-- Is each variable of a rule in something that must be? -/
def tightB (hd : List Tm) (qs : List Pt) : Bool := decide ((partsT (varsT [] hd) qs).length = (partsT [] (musts qs)).length)

set_option maxRecDepth 100000 in
set_option maxHeartbeats 8000000 in
theorem l2Tight_any (nm : ByteArray) (A : Option Addr) (n c : Nat) (hd : List Tm) (B : Option Addr) (m d : Nat) (qs : List Pt) (w : World) (h : IsTerms w 0 w.heap.size A n c hd) (h' : IsParts w 0 w.heap.size B m d qs) (h3 : ∀ q ∈ qs, q.2.2.length ≤ 3) (hn : n ≤ 1000) (hmax : m ≤ 1000) :
    Calls Try.prog 119 #[.agg #[.string nm, .slice A n c, .slice B m d]] w (BoolPost (tightB hd qs) w) := by
  have HL := Lib.hid h'.1; have HLA := Lib.hid h.1
  have H3 := Lib.hid h3; clear h3
  have hb3 := ((below1 w (.cells #[.string nm, .slice A n c, .slice B m d] 55)).trans ((below1 _ (.cells #[] 9)).mono (by simp))).trans ((below1 ((w.alloc (.cells #[.string nm, .slice A n c, .slice B m d] 55)).alloc (.cells #[] 9)) (.cells #[] 9)).mono (by simp; omega))
  have X0 := ((Blk.new w 55 #[.string nm, .slice A n c, .slice B m d]).alloc (.cells #[] 9)).alloc (.cells #[] 9)
  obtain ⟨W0, hW0⟩ : ∃ W0, ((w.alloc (.cells #[.string nm, .slice A n c, .slice B m d] 55)).alloc (.cells #[] 9)).alloc (.cells #[] 9) = W0 := ⟨_, rfl⟩
  have hz0 : W0.heap.size = w.heap.size + 3 := by rw [← hW0]; simp
  go_enter Try.func119, Try.ntmps119
  go_wp2_with fail
  rw [hW0] at hb3 X0
  have HB0 := Lib.hid hb3; have HX := Lib.hid X0
  have HT := Lib.hid (h.up hb3); have HP := Lib.hid (h'.up PartE.stays hb3)
  clear h h' hb3 X0
  refine (l2Vars_any nm A n c hd ⟨w.heap.size + 2, 0, none⟩ 0 0 [] W0 0 (Nat.zero_le _) HT.out ⟨rfl, Nat.le_refl _, Nat.zero_le _, fun h0 => absurd h0 (by simp)⟩ (by omega)).mono ?_; rintro e w1 ⟨p1, d1, rfl, hT1, hb1⟩
  have hlen1 := varsT_len [] hd
  rw [HLA.out] at hlen1
  simp only [List.length_nil] at hlen1
  have HT1 := Lib.hid hT1; have HX1 := Lib.hid (HX.out.below hb1); have HP1 := Lib.hid (HP.out.up PartE.stays hb1); have HB1 := Lib.hid (belowThen HB0.out hb1)
  have hz1 := hb1.size
  clear hT1 hb1
  go_wp2_with fail
  go_loopw [3, 4, 5] (fun b a i wr => ∃ (k : Nat) (p2 : Addr) (d2 : Nat) (p3 : Addr) (d3 : Nat), k ≤ m ∧ i = .int .i64 (k : Int) ∧ b = .slice (some p2) (partsT [] (musts (qs.take k))).length d2 ∧ IsTexts wr 0 wr.heap.size (some p2) (partsT [] (musts (qs.take k))).length d2 (partsT [] (musts (qs.take k))) ∧ a = .slice (some p3) (partsT (varsT [] hd) (qs.take k)).length d3 ∧ IsTexts wr 0 wr.heap.size (some p3) (partsT (varsT [] hd) (qs.take k)).length d3 (partsT (varsT [] hd) (qs.take k)) ∧ Below w1.heap.size w1 wr) (fun _ _ i _ => m - (intOf i).toNat)
  case atStart => exact ⟨0, ⟨w.heap.size + 1, 0, none⟩, 0, p1, d1, Nat.zero_le _, rfl, rfl, ⟨rfl, Nat.le_refl _, Nat.zero_le _, fun h0 => absurd h0 (by simp [partsT, musts])⟩, rfl, HT1.out, Below.refl _ _⟩
  case round =>
    obtain ⟨k, p2, d2, p3, d3, hk, rfl, rfl, hT2, rfl, hT3, hb⟩ := hrel
    have HT2 := Lib.hid hT2; have HT3 := Lib.hid hT3; clear hT2 hT3
    have BX := HX1.out.below hb
    have x0 : wr.cell? ⟨w.heap.size, 0, none⟩ = some (.string nm) := BX.cell 0
    have x1 : wr.cell? ⟨w.heap.size, 1, none⟩ = some (.slice A n c) := BX.cell 1
    have x2 : wr.cell? ⟨w.heap.size, 2, none⟩ = some (.slice B m d) := BX.cell 2
    have hlenA := partsT_len (qs.take k) (varsT [] hd) (fun x hx => H3.out x (List.mem_of_mem_take hx))
    have hlenB := partsT_len (musts (qs.take k)) [] (fun x hx => H3.out x (List.mem_of_mem_take (List.mem_filter.1 hx).1))
    have hml := musts_len qs k
    rw [List.length_take, HL.out] at hlenA
    have hmin := Nat.min_le_left k m
    by_cases hlt : k < m
    · have hlt2 : (k : Int) < (m : Int) := by omega
      obtain ⟨q, t, hA, -, hhi, hg, hE⟩ := (HP1.out.below PartE.stays hb (Nat.le_refl _)).at_ hlt
      obtain ⟨C, n5, c5, c1, c2, c3, c4, c5'⟩ := hE.out
      clear hE
      subst hA
      have hmem := H3.out t (List.mem_of_getElem? hg)
      have hl5 := c5'.1
      have HG := Lib.hid hg; clear hg
      have HT5 := Lib.hid (c5'.keep (w' := wr) (lo' := 0) (hi' := wr.heap.size) (fun _ _ _ => rfl) (Nat.le_refl _) hb.size); clear c5'
      go_wp2_with fail
      refine (l2Vars_any t.2.1 C n5 c5 t.2.2 p3 _ d3 (partsT (varsT [] hd) (qs.take k)) wr 0 (Nat.zero_le _) HT5.out HT3.out (by omega)).mono ?_; rintro e w2 ⟨p4, d4, rfl, hT4, hb2⟩
      have HT4 := Lib.hid hT4; have HT2' := Lib.hid (HT2.out.up TextE.stays hb2); have hb4 := belowThen hb hb2
      have BX2 := BX.below hb2
      have y2 : w2.cell? ⟨w.heap.size, 2, none⟩ = some (.slice (some q) m d) := BX2.cell 2
      have hqs : (q.add (k * 3)).block < wr.heap.size := by rw [block_add]; exact Nat.lt_of_lt_of_le hhi hb.size
      have e1 := (hb2.cell (p := q.add (k * 3)) hqs).trans c1
      have e2 := (hb2.cell (p := ⟨(q.add (k * 3)).block, (q.add (k * 3)).off + 1, none⟩) hqs).trans c2
      have e4 := (hb2.cell (p := ⟨(q.add (k * 3)).block, (q.add (k * 3)).off + 2, none⟩) hqs).trans c4
      have HT5' := Lib.hid (HT5.out.up hb2)
      clear hT4 x0 x1 x2 c1 c2 c4
      cases ht : t.1
      · rw [ht] at e1
        go_wp2_with fail
        refine (l2Vars_any t.2.1 C n5 c5 t.2.2 p2 _ d2 (partsT [] (musts (qs.take k))) w2 0 (Nat.zero_le _) HT5'.out HT2'.out (by simp only [List.length_nil] at hlenB; omega)).mono ?_; rintro e w6 ⟨p6, d6, rfl, hT6, hb6⟩
        have HT6 := Lib.hid hT6; have HT4' := Lib.hid (HT4.out.up TextE.stays hb6); have hb7 := belowThen hb4 hb6
        clear hT6
        go_wp2
        go_roundw
        case rel => exact ⟨k + 1, p6, d6, p4, d4, by omega, by go_num, by rw [musts_yes HG.out ht, partsT_snoc], by rw [musts_yes HG.out ht, partsT_snoc]; exact HT6.out, by rw [partsT_step HG.out], by rw [partsT_step HG.out]; exact HT4'.out, hb7⟩
        case measure => simp [intOf]; omega
      · rw [ht] at e1
        go_wp2
        go_roundw
        case rel => exact ⟨k + 1, p2, d2, p4, d4, by omega, by go_num, by rw [musts_no HG.out ht], by rw [musts_no HG.out ht]; exact HT2'.out, by rw [partsT_step HG.out], by rw [partsT_step HG.out]; exact HT4.out, hb4⟩
        case measure => simp [intOf]; omega
    · have e1 : qs.take k = qs := List.take_of_length_le (by rw [HL.out]; omega)
      have E := Lib.hid (show (((partsT (varsT [] hd) qs).length : Int) == ((partsT [] (musts qs)).length : Int)) = tightB hd qs by unfold tightB; rw [Bool.eq_iff_iff, decide_eq_true_eq, beq_iff_eq]; omega)
      go_wp2
      go_ret; exact ⟨retB (by first | exact E.out.symm | exact E.out), belowThen HB1.out hb⟩

/-- Variables as terms. -/
def asVars (vs : List ByteArray) : List Tm := vs.map fun s => (true, s)

/-- A rule that asks was told. -/
def RuleAsks (nm : ByteArray) (B : Option Addr) (m d : Nat) (vs : List ByteArray) (w : World) (e : Ending) (w' : World) : Prop :=
  ∃ A c, e = .returned (.agg #[.string nm, .slice A vs.length c, .slice B m d]) ∧ IsTerms w' 0 w'.heap.size A vs.length c (asVars vs) ∧ Below w.heap.size w w'

theorem asVars_step {vs : List ByteArray} {k : Nat} {s : ByteArray} (h : vs[k]? = some s) : tmCells (asVars (vs.take (k + 1))) = tmCells (asVars (vs.take k)) ++ [.bool true, .string s] := by
  unfold asVars; rw [List.take_add_one, h, List.map_append]; exact tmCells_snoc (List.map (fun s => (true, s)) (List.take k vs)) (true, s)

set_option maxRecDepth 100000 in
set_option maxHeartbeats 8000000 in
theorem l5Rule_any (nm : ByteArray) (B : Option Addr) (m d : Nat) (qs : List Pt) (w : World) (h : IsParts w 0 w.heap.size B m d qs) (h3 : ∀ q ∈ qs, q.2.2.length ≤ 3) (hmax : m ≤ 1000) (hsm : ∀ s ∈ partsT [] qs, s.size ≤ 16) :
    Calls Try.prog 86 #[.string nm, .slice B m d] w (RuleAsks nm B m d (partsT [] qs) w) := by
  have HL := Lib.hid h.1
  obtain ⟨i0, hi, hz, hsz, hby⟩ := info_parts Try.infoTm
  have HI := Lib.hid hi; have HZ := Lib.hid hz; have HSZ := Lib.hid hsz; have HYY := Lib.hid hby
  clear hi hz hsz hby
  have hlenV := partsT_len qs [] h3
  rw [HL.out] at hlenV
  simp only [List.length_nil] at hlenV
  have H3 := Lib.hid h3; have HSM := Lib.hid hsm; clear h3 hsm
  have hb2 := below2 w (.cells #[.string ⟨#[]⟩, .slice none 0 0, .slice none 0 0] 55) (.cells #[.string nm, .slice none 0 0, .slice B m d] 55)
  have X0 := (Blk.new w 55 #[.string ⟨#[]⟩, .slice none 0 0, .slice none 0 0]).alloc (.cells #[.string nm, .slice none 0 0, .slice B m d] 55)
  have Y0 := Blk.made (w.alloc (.cells #[.string ⟨#[]⟩, .slice none 0 0, .slice none 0 0] 55)) (b := w.heap.size + 1) 55 #[.string nm, .slice none 0 0, .slice B m d] (by simp)
  obtain ⟨W0, hW0⟩ : ∃ W0, (w.alloc (.cells #[.string ⟨#[]⟩, .slice none 0 0, .slice none 0 0] 55)).alloc (.cells #[.string nm, .slice none 0 0, .slice B m d] 55) = W0 := ⟨_, rfl⟩
  have hz0 : W0.heap.size = w.heap.size + 2 := by rw [← hW0]; simp
  go_enter Try.func86, Try.ntmps86
  go_wp2_with fail
  rw [hW0] at hb2 X0 Y0
  refine (l5Vars_any B m d qs W0 (h.up PartE.stays hb2) H3.out hmax).mono ?_; rintro e w1 ⟨p, pc, rfl, hT, hb1⟩
  have HT := Lib.hid hT; have X1 := Lib.hid (X0.below hb1); have Y1 := Lib.hid (Y0.below hb1); have HB1 := Lib.hid (belowThen hb2 hb1)
  have hz1 := hb1.size
  have hV : ∃ vs, partsT [] qs = vs := ⟨_, rfl⟩
  obtain ⟨vs, hV⟩ := hV
  rw [hV] at hlenV HT
  have HV := Lib.hid hV
  have HSM' : Hid (∀ s ∈ vs, s.size ≤ 16) := Lib.hid (by rw [← hV]; exact HSM.out)
  rw [hV]
  clear h hb2 X0 Y0 hT hb1 hV
  go_wp2_with fail
  go_loopw [7] (fun i wr => ∃ (k : Nat) (v : Value), k ≤ vs.length ∧ i = .int .i64 (k : Int) ∧ Blk wr (w.heap.size + 1) 55 #[.string nm, v, .slice B m d] ∧ Blk wr w.heap.size 55 #[.string ⟨#[]⟩, .slice none 0 0, .slice none 0 0] ∧ wr.ownsRow w1.heap.size 121 2 v k (tmCells (asVars (vs.take k))) ∧ IsTexts wr W0.heap.size w1.heap.size (some p) vs.length pc vs ∧ Below w.heap.size w wr ∧ w1.heap.size ≤ wr.heap.size) (fun i _ => vs.length - (intOf i).toNat)
  case atStart => exact ⟨0, _, Nat.zero_le _, rfl, Y1.out, X1.out, ⟨rfl, .inl ⟨rfl, rfl⟩⟩, HT.out, HB1.out, Nat.le_refl _⟩
  case round =>
    obtain ⟨k, v, hk, rfl, hY, hX, hrow, hT, hb, hsz⟩ := hrel
    obtain ⟨Av, cv, rfl⟩ : ∃ Av cv, v = .slice Av k cv := by
      rcases hrow.2 with ⟨e1, e2⟩ | ⟨g, cap, cur, e1, _⟩
      · exact ⟨none, 0, by rw [e1, e2]⟩
      · exact ⟨_, cap, e1⟩
    have HY := Lib.hid hY; have HX := Lib.hid hX; have HR := Lib.hid hrow; have HT2 := Lib.hid hT; have HB := Lib.hid hb
    clear hY hX hrow hT hb
    have y0 : wr.cell? ⟨w.heap.size + 1, 0, none⟩ = some (.string nm) := HY.out.cell 0
    have y1 : wr.cell? ⟨w.heap.size + 1, 1, none⟩ = some (.slice Av k cv) := HY.out.cell 1
    have y2 : wr.cell? ⟨w.heap.size + 1, 2, none⟩ = some (.slice B m d) := HY.out.cell 2
    have hyl := HY.out.lt
    by_cases hlt : k < vs.length
    · have hlt2 : (k : Int) < (vs.length : Int) := by omega
      obtain ⟨q, s, hq, hlo, hhi, hg, hE⟩ := HT2.out.at_ hlt
      injection hq with hq
      subst hq
      have c1 : wr.cell? (p.add k) = some (.string s) := by have := hE; unfold TextE at this; rwa [Nat.mul_one] at this
      have HG := Lib.hid hg; clear hg hE
      have HRD : Hid (wr.drew.ownsRow w1.heap.size 121 2 (.slice Av k cv) k (tmCells (asVars (vs.take k)))) := Lib.hid HR.out
      have YD := Lib.hid (show Blk wr.drew (w.heap.size + 1) 55 #[.string nm, .slice Av k cv, .slice B m d] from HY.out)
      have cu := cellUp (w := wr.drew) (show wr.drew.cell? (p.add k) = some (.string s) from c1)
      have cv1 := cellUp (w := wr.drew) (show wr.drew.cell? ⟨w.heap.size + 1, 1, none⟩ = some (.slice Av k cv) from y1)
      have hlo2 : ∀ g, (Value.slice Av k cv).ownBlock = some g → w1.heap.size ≤ g := fun g hg => (HR.out.lt g hg).1
      go_wp2_with fail
      go_region_law (first
        | (refine step_append_lies _ (by rfl) _ _ _ (by rfl) w1.heap.size 121 i0 _ 2 24 Try.underlying24 HI.out HZ.out HSZ.out HYY.out rfl (by omega) (.slice Av k cv) k (tmCells (asVars (vs.take k))) (by rfl) (HRD.out.alloc _) ⟨wr.drew.heap.size, 0, none⟩ 1 1 [.bool true, .string s] (by rfl) (by rfl) (World.news_of_block (cs := #[.bool true, .string s]) (t := 121) (fr := (0, 0)) (heap_alloc_new wr.drew _)) (by simp [Value.oneCell']) (by omega) (by unfold maxLen; omega) (by omega) (by simp; omega) (wr.drew.heap.size + 1) (by simp) ?_; intro gg cap w6 hown6 hgrow hat hlt6; have Y6 := (YD.out.alloc (.cells #[.bool true, .string s] 121)).kept hgrow (fun e => (by have := hlo2 _ e.symm; omega)); have z3 : w6.cell? ⟨w.heap.size + 1, 1, none⟩ = some (.slice Av k cv) := Y6.cell 1; have z5 := Y6.frozen 1))
      all_goals
        have hgg := (hown6.lt gg rfl).1
        have hal := below1 wr (.cells #[.bool true, .string s] 121)
        have hgs : wr.heap.size + 1 ≤ w6.heap.size := by have := hgrow.size; simp at this; exact this
        have X6 := ((show Blk wr.drew w.heap.size 55 #[.string ⟨#[]⟩, .slice none 0 0, .slice none 0 0] from HX.out).alloc (.cells #[.bool true, .string s] 121)).kept (W' := w6) hgrow (fun e => by have := hlo2 _ e.symm; omega)
        have hset := grownBy_setAny w6 ⟨w.heap.size + 1, 1, none⟩ (.slice (some ⟨gg, 0, none⟩) (k + 1) cap)
        have A1 := Lib.hid (show Blk (w6.setCell ⟨w.heap.size + 1, 1, none⟩ (.slice (some ⟨gg, 0, none⟩) (k + 1) cap)) (w.heap.size + 1) 55 #[.string nm, .slice (some ⟨gg, 0, none⟩) (k + 1) cap, .slice B m d] from Y6.set 1 _)
        have A2 := Lib.hid (X6.far (p := ⟨w.heap.size + 1, 1, none⟩) (by simp) (.slice (some ⟨gg, 0, none⟩) (k + 1) cap))
        have A3 : Hid ((w6.setCell ⟨w.heap.size + 1, 1, none⟩ (.slice (some ⟨gg, 0, none⟩) (k + 1) cap)).ownsRow w1.heap.size 121 2 (.slice (some ⟨gg, 0, none⟩) (k + 1) cap) (k + 1) (tmCells (asVars (vs.take (k + 1))))) := Lib.hid (by rw [asVars_step HG.out]; exact row_far hown6 (fun e => by injection e with e; simp at e; omega) _)
        have A4 := Lib.hid (HT2.out.keep (w' := w6.setCell ⟨w.heap.size + 1, 1, none⟩ (.slice (some ⟨gg, 0, none⟩) (k + 1) cap)) TextE.stays (fun q h1 h2 => ((hset.cell_far _ (by omega) (fun e => by injection e with e; simp at e; omega)).trans (hgrow.cell_far _ (by simp; omega) (fun e => by have := hlo2 _ e.symm; omega))).trans (hal.cell (by omega))) (Nat.le_refl _) (Nat.le_refl _))
        have A5 := Lib.hid ((((HB.out.alloc HB.out.size (.cells #[.bool true, .string s] 121)).drew).grown hgrow (by have := HB.out.size; simp; omega) (fun g hg => by have := hlo2 g hg; omega)).setCell (p := ⟨w.heap.size + 1, 1, none⟩) (by simp) (.slice (some ⟨gg, 0, none⟩) (k + 1) cap))
        have A6 : w1.heap.size ≤ (w6.setCell ⟨w.heap.size + 1, 1, none⟩ (.slice (some ⟨gg, 0, none⟩) (k + 1) cap)).heap.size := by rw [size_setCell]; omega
        clear hown6 hgrow hat Y6 z3 z5 X6 hset hal cu cv1 hlo2
        go_wp2
        go_roundw
        case rel => exact ⟨k + 1, _, by omega, by go_num, A1.out, A2.out, A3.out, A4.out, A5.out, A6⟩
        case measure => simp [intOf]; omega
    · have hkv : k = vs.length := by omega
      subst hkv
      have hr1 : wr.cell? ⟨w.heap.size, 0, none⟩ = some (.string ⟨#[]⟩) := HX.out.cell 0
      have hr2 : wr.cell? ⟨w.heap.size, 1, none⟩ = some (.slice none 0 0) := HX.out.cell 1
      have hr3 : wr.cell? ⟨w.heap.size, 2, none⟩ = some (.slice none 0 0) := HX.out.cell 2
      have f1 := HX.out.frozen 0; have f2 := HX.out.frozen 1; have f3 := HX.out.frozen 2
      have hrow := HR.out
      rw [List.take_length] at hrow
      obtain ⟨A9, c9, e9, hT9⟩ := owned_terms hrow (by unfold asVars; rw [List.length_map]) (fun t ht => by
        unfold asVars at ht
        obtain ⟨s, hs, rfl⟩ := List.mem_map.1 ht
        exact HSM'.out s hs)
      injection e9 with e9 _ e10
      subst e9; subst e10
      have HT9 := Lib.hid hT9
      clear hrow hT9
      have Z := (HX.out.set 0 (.string nm)).set 1 (.slice Av vs.length cv) |>.set 2 (.slice B m d)
      have z0 := Z.cell 0; have z1 := Z.cell 1; have z2 := Z.cell 2
      go_wp2
      refine bodyPost_ret (v := .agg #[.string nm, .slice Av vs.length cv, .slice B m d]) (by simp [results, Try.results86, go_sem, hr1, hr2, hr3]) rfl ?_
      rw [HV.out]
      refine ⟨Av, cv, rfl, HT9.out.keep (fun q h1 _ => World.cell?_of_block (((Below.heap_setCell _ _ _ _ (by simp; omega)).trans (Below.heap_setCell _ _ _ _ (by simp; omega))).trans (Below.heap_setCell _ _ _ _ (by simp; omega)))) (Nat.zero_le _) (by rw [size_setCell, size_setCell, size_setCell]; exact Nat.le_refl _), ((HB.out.setCell (by simp) _).setCell (by simp) _).setCell (by simp) _⟩

end Go.Proofs.Ytailmopdhnoppaa
