/-
  All variables of a body, and a rule that asks, in the model.
-/
import Derived.Test.YtahkkelahocplaaDoorTight
import Derived.Test.YtahkkelahocplaaDoorDraw
import Derived.Test.YtahkkelahocplaaDoorOnly
namespace Go.Proofs.YtahkkelahocplaaDoor
open Go.RowKit

set_option maxRecDepth 100000 in
set_option maxHeartbeats 4000000 in
theorem l5Vars_any (B : Option Addr) (m d : Nat) (qs : List Pt) (w : World) (h : IsParts w 0 w.heap.size B m d qs) (h3 : ∀ q ∈ qs, q.2.2.length ≤ 3) (hmax : m ≤ 1000) :
    Calls Tryd.prog 111 #[.slice B m d] w (TextsPost w.heap.size (partsT [] qs) w) := by
  have HL := Lib.hid h.1
  have H := Lib.hid h; clear h
  have H3 := Lib.hid h3; clear h3
  go_enter Tryd.func111, Tryd.ntmps111
  go_wp2
  go_loopw [3, 4] (fun v i wr => ∃ (k : Nat) (p' : Addr) (d' : Nat), k ≤ m ∧ i = .int .i64 (k : Int) ∧ v = .slice (some p') (partsT [] (qs.take k)).length d' ∧ IsTexts wr w.heap.size wr.heap.size (some p') (partsT [] (qs.take k)).length d' (partsT [] (qs.take k)) ∧ Below w.heap.size w wr) (fun _ i _ => m - (intOf i).toNat)
  case atStart => exact ⟨0, ⟨w.heap.size, 0, none⟩, 0, Nat.zero_le _, rfl, rfl, ⟨rfl, Nat.le_refl _, Nat.zero_le _, fun h0 => absurd h0 (by simp [partsT])⟩, below1 _ _⟩
  case round =>
    obtain ⟨k, p', d', hk, rfl, rfl, hT, hb⟩ := hrel
    have HT := Lib.hid hT; clear hT
    by_cases hlt : k < m
    · have hlt2 : (k : Int) < (m : Int) := by omega
      obtain ⟨q, t, hA, -, hhi, hg, hE⟩ := (H.out.below PartE.stays hb (Nat.le_refl _)).at_ hlt
      obtain ⟨C, n5, c5, c1, c2, c3, c4, c5'⟩ := hE.out
      clear hE
      subst hA
      have hmem := H3.out t (List.mem_of_getElem? hg)
      have hl5 := c5'.1
      have HG := Lib.hid hg; clear hg
      have hlen := partsT_len (qs.take k) [] (fun x hx => H3.out x (List.mem_of_mem_take hx))
      rw [List.length_take, HL.out] at hlen
      have hmin := Nat.min_le_left k m
      have HT5 := Lib.hid (c5'.keep (w' := wr) (lo' := 0) (hi' := wr.heap.size) (fun _ _ _ => rfl) (Nat.le_refl _) hb.size); clear c5'
      go_wp2_with fail
      refine (l2Vars_any t.2.1 C n5 c5 t.2.2 p' _ d' (partsT [] (qs.take k)) wr w.heap.size hb.size HT5.out HT.out (by simp at hlen; omega)).mono ?_; rintro e w2 ⟨p2, d2, rfl, hT2, hb2⟩
      have HT2 := Lib.hid hT2; have hb3 := belowThen hb hb2; clear hT2 hb2
      go_wp2
      go_roundw
      case rel => exact ⟨k + 1, p2, d2, by omega, by go_num, by rw [partsT_step HG.out], by rw [partsT_step HG.out]; exact HT2.out, hb3⟩
      case measure => simp [intOf]; omega
    · have e : partsT [] (qs.take k) = partsT [] qs := by rw [List.take_of_length_le (by rw [HL.out]; omega)]
      have E := Lib.hid e; clear e
      go_wp2
      go_ret; exact ⟨p', d', by rw [E.out]; rfl, by rw [← E.out]; exact HT.out, hb⟩

theorem asVars_step {vs : List ByteArray} {k : Nat} {s : ByteArray} (h : vs[k]? = some s) : tmCells (asVars (vs.take (k + 1))) = tmCells (asVars (vs.take k)) ++ [.bool true, .string s] := by
  unfold asVars; rw [List.take_add_one, h, List.map_append]; exact tmCells_snoc (List.map (fun s => (true, s)) (List.take k vs)) (true, s)

set_option maxRecDepth 100000 in
set_option maxHeartbeats 8000000 in
theorem l5Rule_any (nm : ByteArray) (B : Option Addr) (m d : Nat) (qs : List Pt) (w : World) (h : IsParts w 0 w.heap.size B m d qs) (h3 : ∀ q ∈ qs, q.2.2.length ≤ 3) (hmax : m ≤ 1000) (hsm : ∀ s ∈ partsT [] qs, s.size ≤ 16) :
    Calls Tryd.prog 84 #[.string nm, .slice B m d] w (RuleAsks nm B m d (partsT [] qs) w) := by
  have HL := Lib.hid h.1
  obtain ⟨i0, hi, hz, hsz, hby⟩ := info_parts Tryd.infoTm
  have HI := Lib.hid hi; have HZ := Lib.hid hz; have HSZ := Lib.hid hsz; have HYY := Lib.hid hby
  clear hi hz hsz hby
  have hlenV := partsT_len qs [] h3
  rw [HL.out] at hlenV
  simp only [List.length_nil] at hlenV
  have H3 := Lib.hid h3; have HSM := Lib.hid hsm; clear h3 hsm
  have hb2 := below2 w (.cells #[.string ⟨#[]⟩, .slice none 0 0, .slice none 0 0] 38) (.cells #[.string nm, .slice none 0 0, .slice B m d] 38)
  have X0 := (Blk.new w 38 #[.string ⟨#[]⟩, .slice none 0 0, .slice none 0 0]).alloc (.cells #[.string nm, .slice none 0 0, .slice B m d] 38)
  have Y0 := Blk.made (w.alloc (.cells #[.string ⟨#[]⟩, .slice none 0 0, .slice none 0 0] 38)) (b := w.heap.size + 1) 38 #[.string nm, .slice none 0 0, .slice B m d] (by simp)
  obtain ⟨W0, hW0⟩ : ∃ W0, (w.alloc (.cells #[.string ⟨#[]⟩, .slice none 0 0, .slice none 0 0] 38)).alloc (.cells #[.string nm, .slice none 0 0, .slice B m d] 38) = W0 := ⟨_, rfl⟩
  have hz0 : W0.heap.size = w.heap.size + 2 := by rw [← hW0]; simp
  go_enter Tryd.func84, Tryd.ntmps84
  go_wp2_with fail
  rw [hW0] at hb2 X0 Y0
  refine (l5Vars_any B m d qs W0 (h.up PartE.stays hb2) H3.out hmax).mono ?_; rintro e w1 ⟨p, pc, rfl, hT, hb1⟩
  have HT := Lib.hid hT; have X1 := Lib.hid (X0.below hb1); have Y1 := Lib.hid (Y0.below hb1); have HB1 := Lib.hid (belowThen hb2 hb1)
  have hz1 := hb1.size
  have hV : ∃ vs, partsT [] qs = vs := ⟨_, rfl⟩
  obtain ⟨vs, hV⟩ := hV
  rw [hV] at hlenV HT
  have HV := Lib.hid hV
  have HSM' : Hid (∀ s ∈ vs, s.size ≤ 16) := Lib.hid (by rw [← hV]; exact HSM.out)
  rw [hV]
  clear h hb2 X0 Y0 hT hb1 hV
  go_wp2_with fail
  go_loopw [7] (fun i wr => ∃ (k : Nat) (v : Value), k ≤ vs.length ∧ i = .int .i64 (k : Int) ∧ Blk wr (w.heap.size + 1) 38 #[.string nm, v, .slice B m d] ∧ Blk wr w.heap.size 38 #[.string ⟨#[]⟩, .slice none 0 0, .slice none 0 0] ∧ wr.ownsRow w1.heap.size 62 2 v k (tmCells (asVars (vs.take k))) ∧ IsTexts wr W0.heap.size w1.heap.size (some p) vs.length pc vs ∧ Below w.heap.size w wr ∧ w1.heap.size ≤ wr.heap.size) (fun i _ => vs.length - (intOf i).toNat)
  case atStart => exact ⟨0, _, Nat.zero_le _, rfl, Y1.out, X1.out, ⟨rfl, .inl ⟨rfl, rfl⟩⟩, HT.out, HB1.out, Nat.le_refl _⟩
  case round =>
    obtain ⟨k, v, hk, rfl, hY, hX, hrow, hT, hb, hsz⟩ := hrel
    obtain ⟨Av, cv, rfl⟩ : ∃ Av cv, v = .slice Av k cv := by
      rcases hrow.2 with ⟨e1, e2⟩ | ⟨g, cap, cur, e1, _⟩
      · exact ⟨none, 0, by rw [e1, e2]⟩
      · exact ⟨_, cap, e1⟩
    have HY := Lib.hid hY; have HX := Lib.hid hX; have HR := Lib.hid hrow; have HT2 := Lib.hid hT; have HB := Lib.hid hb
    clear hY hX hrow hT hb
    have y0 : wr.cell? ⟨w.heap.size + 1, 0, none⟩ = some (.string nm) := HY.out.cell 0
    have y1 : wr.cell? ⟨w.heap.size + 1, 1, none⟩ = some (.slice Av k cv) := HY.out.cell 1
    have y2 : wr.cell? ⟨w.heap.size + 1, 2, none⟩ = some (.slice B m d) := HY.out.cell 2
    have hyl := HY.out.lt
    by_cases hlt : k < vs.length
    · have hlt2 : (k : Int) < (vs.length : Int) := by omega
      obtain ⟨q, s, hq, hlo, hhi, hg, hE⟩ := HT2.out.at_ hlt
      injection hq with hq
      subst hq
      have c1 : wr.cell? (p.add k) = some (.string s) := by have := hE; unfold TextE at this; rwa [Nat.mul_one] at this
      have HG := Lib.hid hg; clear hg hE
      have HRD : Hid (wr.drew.ownsRow w1.heap.size 62 2 (.slice Av k cv) k (tmCells (asVars (vs.take k)))) := Lib.hid HR.out
      have YD := Lib.hid (show Blk wr.drew (w.heap.size + 1) 38 #[.string nm, .slice Av k cv, .slice B m d] from HY.out)
      have cu := cellUp (w := wr.drew) (show wr.drew.cell? (p.add k) = some (.string s) from c1)
      have cv1 := cellUp (w := wr.drew) (show wr.drew.cell? ⟨w.heap.size + 1, 1, none⟩ = some (.slice Av k cv) from y1)
      have hlo2 : ∀ g, (Value.slice Av k cv).ownBlock = some g → w1.heap.size ≤ g := fun g hg => (HR.out.lt g hg).1
      go_wp2_with fail
      go_region_law (first
        | (refine step_append_lies _ (by rfl) _ _ _ (by rfl) w1.heap.size 62 i0 _ 2 24 Tryd.underlying22 HI.out HZ.out HSZ.out HYY.out rfl (by omega) (.slice Av k cv) k (tmCells (asVars (vs.take k))) (by rfl) (HRD.out.alloc _) ⟨wr.drew.heap.size, 0, none⟩ 1 1 [.bool true, .string s] (by rfl) (by rfl) (World.news_of_block (cs := #[.bool true, .string s]) (t := 62) (fr := (0, 0)) (heap_alloc_new wr.drew _)) (by simp [Value.oneCell']) (by omega) (by unfold maxLen; omega) (by omega) (by simp; omega) (wr.drew.heap.size + 1) (by simp) ?_; intro gg cap w6 hown6 hgrow hat hlt6; have Y6 := (YD.out.alloc (.cells #[.bool true, .string s] 62)).kept hgrow (fun e => (by have := hlo2 _ e.symm; omega)); have z3 : w6.cell? ⟨w.heap.size + 1, 1, none⟩ = some (.slice Av k cv) := Y6.cell 1; have z5 := Y6.frozen 1))
      all_goals
        have hgg := (hown6.lt gg rfl).1
        have hal := below1 wr (.cells #[.bool true, .string s] 62)
        have hgs : wr.heap.size + 1 ≤ w6.heap.size := by have := hgrow.size; simp at this; exact this
        have X6 := ((show Blk wr.drew w.heap.size 38 #[.string ⟨#[]⟩, .slice none 0 0, .slice none 0 0] from HX.out).alloc (.cells #[.bool true, .string s] 62)).kept (W' := w6) hgrow (fun e => by have := hlo2 _ e.symm; omega)
        have hset := grownBy_setAny w6 ⟨w.heap.size + 1, 1, none⟩ (.slice (some ⟨gg, 0, none⟩) (k + 1) cap)
        have A1 := Lib.hid (show Blk (w6.setCell ⟨w.heap.size + 1, 1, none⟩ (.slice (some ⟨gg, 0, none⟩) (k + 1) cap)) (w.heap.size + 1) 38 #[.string nm, .slice (some ⟨gg, 0, none⟩) (k + 1) cap, .slice B m d] from Y6.set 1 _)
        have A2 := Lib.hid (X6.far (p := ⟨w.heap.size + 1, 1, none⟩) (by simp) (.slice (some ⟨gg, 0, none⟩) (k + 1) cap))
        have A3 : Hid ((w6.setCell ⟨w.heap.size + 1, 1, none⟩ (.slice (some ⟨gg, 0, none⟩) (k + 1) cap)).ownsRow w1.heap.size 62 2 (.slice (some ⟨gg, 0, none⟩) (k + 1) cap) (k + 1) (tmCells (asVars (vs.take (k + 1))))) := Lib.hid (by rw [asVars_step HG.out]; exact row_far hown6 (fun e => by injection e with e; simp at e; omega) _)
        have A4 := Lib.hid (HT2.out.keep (w' := w6.setCell ⟨w.heap.size + 1, 1, none⟩ (.slice (some ⟨gg, 0, none⟩) (k + 1) cap)) TextE.stays (fun q h1 h2 => ((hset.cell_far _ (by omega) (fun e => by injection e with e; simp at e; omega)).trans (hgrow.cell_far _ (by simp; omega) (fun e => by have := hlo2 _ e.symm; omega))).trans (hal.cell (by omega))) (Nat.le_refl _) (Nat.le_refl _))
        have A5 := Lib.hid ((((HB.out.alloc HB.out.size (.cells #[.bool true, .string s] 62)).drew).grown hgrow (by have := HB.out.size; simp; omega) (fun g hg => by have := hlo2 g hg; omega)).setCell (p := ⟨w.heap.size + 1, 1, none⟩) (by simp) (.slice (some ⟨gg, 0, none⟩) (k + 1) cap))
        have A6 : w1.heap.size ≤ (w6.setCell ⟨w.heap.size + 1, 1, none⟩ (.slice (some ⟨gg, 0, none⟩) (k + 1) cap)).heap.size := by rw [size_setCell]; omega
        clear hown6 hgrow hat Y6 z3 z5 X6 hset hal cu cv1 hlo2
        go_wp2
        go_roundw
        case rel => exact ⟨k + 1, _, by omega, by go_num, A1.out, A2.out, A3.out, A4.out, A5.out, A6⟩
        case measure => simp [intOf]; omega
    · have hkv : k = vs.length := by omega
      subst hkv
      have hr1 : wr.cell? ⟨w.heap.size, 0, none⟩ = some (.string ⟨#[]⟩) := HX.out.cell 0
      have hr2 : wr.cell? ⟨w.heap.size, 1, none⟩ = some (.slice none 0 0) := HX.out.cell 1
      have hr3 : wr.cell? ⟨w.heap.size, 2, none⟩ = some (.slice none 0 0) := HX.out.cell 2
      have f1 := HX.out.frozen 0; have f2 := HX.out.frozen 1; have f3 := HX.out.frozen 2
      have hrow := HR.out
      rw [List.take_length] at hrow
      obtain ⟨A9, c9, e9, hT9⟩ := owned_terms hrow (by unfold asVars; rw [List.length_map]) (fun t ht => by
        unfold asVars at ht
        obtain ⟨s, hs, rfl⟩ := List.mem_map.1 ht
        exact HSM'.out s hs)
      injection e9 with e9 _ e10
      subst e9; subst e10
      have HT9 := Lib.hid hT9
      clear hrow hT9
      have Z := (HX.out.set 0 (.string nm)).set 1 (.slice Av vs.length cv) |>.set 2 (.slice B m d)
      have z0 := Z.cell 0; have z1 := Z.cell 1; have z2 := Z.cell 2
      go_wp2
      refine bodyPost_ret (v := .agg #[.string nm, .slice Av vs.length cv, .slice B m d]) (by simp [results, Tryd.results84, go_sem, hr1, hr2, hr3]) rfl ?_
      rw [HV.out]
      refine ⟨Av, cv, rfl, HT9.out.keep (fun q h1 _ => World.cell?_of_block (((Below.heap_setCell _ _ _ _ (by simp; omega)).trans (Below.heap_setCell _ _ _ _ (by simp; omega))).trans (Below.heap_setCell _ _ _ _ (by simp; omega)))) (Nat.zero_le _) (by rw [size_setCell, size_setCell, size_setCell]; exact Nat.le_refl _), ((HB.out.setCell (by simp) _).setCell (by simp) _).setCell (by simp) _⟩

end Go.Proofs.YtahkkelahocplaaDoor
