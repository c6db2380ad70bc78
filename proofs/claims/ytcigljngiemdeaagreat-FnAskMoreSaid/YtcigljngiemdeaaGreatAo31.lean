/-
  Texts of one claim, put together.
-/
import Derived.Test.YtcigljngiemdeaaGreatAo0
import Derived.Test.YtcigljngiemdeaaGreatAo2
import Derived.Deep.RegionHeld3
import Derived.Test.YtcigljngiemdeaaGreatTight
import Derived.Test.YtcigljngiemdeaaGreatDraw
import Derived.Test.YtcigljngiemdeaaGreatAo1
import Derived.Test.YtcigljngiemdeaaGreatShelf2
import Derived.Lib.Join
import Derived.Deep.OwnRows
import Derived.Test.YtcigljngiemdeaaGreatAo10
import Derived.Test.YtcigljngiemdeaaGreatAo8
import Derived.Sort.KeysCollected
import Derived.Test.YtcigljngiemdeaaGreatIter
set_option maxRecDepth 100000
set_option maxHeartbeats 8000000
namespace Go.Proofs.YtcigljngiemdeaaGreat
open Go.RowKit
attribute [local go_sem] run_store_func
end Go.Proofs.YtcigljngiemdeaaGreat

namespace Go.Proofs.YtcigljngiemdeaaGreat
open Go.RowKit Go.Shelf
attribute [local go_sem] Oper.semAt_some run_store_func
end Go.Proofs.YtcigljngiemdeaaGreat

namespace Go.Proofs.YtcigljngiemdeaaGreat
open Go.RowKit Go.Shelf
attribute [local go_sem] Oper.semAt_some run_store_func
theorem grownBy_setAny (W : World) (p : Addr) (v : Value) : W.grownBy (W.setCell p v) (some p.block) :=
  ⟨rfl, rfl, rfl, (KeepsWalks.setCell W _ v).size, fun k _ hk => hs_ _ _ _ k (fun e => hk (by rw [e]))⟩
theorem row_far {W : World} {base size k : Nat} {e : TypeId} {v : Value} {xs : List Value} (h : W.ownsRow base e size v k xs) {p : Addr} (hp : some p.block ≠ v.ownBlock) (u : Value) : (W.setCell p u).ownsRow base e size v k xs :=
  h.kept (grownBy_setAny W p u) (.inr hp.symm)
end Go.Proofs.YtcigljngiemdeaaGreat

namespace Go.Proofs.YtcigljngiemdeaaGreat
open Go.RowKit
theorem l5Vars_any (B : Option Addr) (m d : Nat) (qs : List Pt) (w : World) (h : IsParts w 0 w.heap.size B m d qs) (h3 : ∀ q ∈ qs, q.2.2.length ≤ 3) (hmax : m ≤ 1000) :
    Calls Tryz.prog 69 #[.slice B m d] w (TextsPost w.heap.size (partsT [] qs) w) := by
  have HL := hid h.1; have H := hid h; clear h; have H3 := hid h3; clear h3; go_enter Tryz.func69, Tryz.ntmps69; go_wp2; go_loopw [3, 4] (fun v i wr => ∃ (k : Nat) (p' : Addr) (d' : Nat), k ≤ m ∧ i = .int .i64 (k : Int) ∧ v = .slice (some p') (partsT [] (qs.take k)).length d' ∧ IsTexts wr w.heap.size wr.heap.size (some p') (partsT [] (qs.take k)).length d' (partsT [] (qs.take k)) ∧ Below w.heap.size w wr) (fun _ i _ => m - (intOf i).toNat)
  case atStart => exact ⟨0, ⟨w.heap.size, 0, none⟩, 0, Nat.zero_le _, rfl, rfl, ⟨rfl, nl _, Nat.zero_le _, fun h0 => absurd h0 (by simp [partsT])⟩, below1 _ _⟩
  case round =>
    obtain ⟨k, p', d', hk, rfl, rfl, hT, hb⟩ := hrel; have HT := hid hT; clear hT; by_cases hlt : k < m
    · have hlt2 : (k : Int) < (m : Int) := qaa
      obtain ⟨q, t, hA, -, hhi, hg, hE⟩ := (H.out.below PartE.stays hb (nl _)).at_ hlt; obtain ⟨C, n5, c5, c1, c2, c3, c4, c5'⟩ := hE.out; clear hE; subst hA; have hmem := H3.out t (List.mem_of_getElem? hg); have hl5 := c5'.1; have HG := hid hg; clear hg; have hlen := partsT_len (qs.take k) [] (fun x hx => H3.out x (List.mem_of_mem_take hx)); rw [List.length_take, HL.out] at hlen; have hmin := Nat.min_le_left k m; have HT5 := hid (c5'.keep (w' := wr) (lo' := 0) (hi' := wr.heap.size) (fun _ _ _ => rfl) (nl _) hb.size); clear c5'; go_wp2_with fail; refine (l2Vars_any t.2.1 C n5 c5 t.2.2 p' _ d' (partsT [] (qs.take k)) wr w.heap.size hb.size HT5.out HT.out (by simp at hlen; omega)).mono ?_; rintro e w2 ⟨p2, d2, rfl, hT2, hb2⟩
      have HT2 := hid hT2; have hb3 := belowThen hb hb2; clear hT2 hb2; go_wp2; go_roundw
      case rel => exact ⟨k + 1, p2, d2, by omega, by go_num, by rw [partsT_step HG.out], by rw [partsT_step HG.out]; exact HT2.out, hb3⟩
      case measure => exact qms
    · have e : partsT [] (qs.take k) = partsT [] qs := by rw [List.take_of_length_le qdj]
      have E := hid e; clear e; go_wp2; go_ret; exact ⟨p', d', by rw [E.out]; rfl, by rw [← E.out]; exact HT.out, hb⟩
theorem asVars_step {vs : List ByteArray} {k : Nat} {s : ByteArray} (h : vs[k]? = some s) : tmCells (asVars (vs.take (k + 1))) = tmCells (asVars (vs.take k)) ++ [.bool true, .string s] := by
  unfold asVars; rw [List.take_add_one, h, List.map_append]; exact tmCells_snoc (List.map (fun s => (true, s)) (List.take k vs)) (true, s)
theorem l5Rule_any (nm : ByteArray) (B : Option Addr) (m d : Nat) (qs : List Pt) (w : World) (h : IsParts w 0 w.heap.size B m d qs) (h3 : ∀ q ∈ qs, q.2.2.length ≤ 3) (hmax : m ≤ 1000) (hsm : ∀ s ∈ partsT [] qs, s.size ≤ 16) :
    Calls Tryz.prog 72 #[.string nm, .slice B m d] w (RuleAsks nm B m d (partsT [] qs) w) := by
  have HL := hid h.1; obtain ⟨i0, hi, hz, hsz, hby⟩ := info_parts Tryz.infoTm; have HI := hid hi; have HZ := hid hz; have HSZ := hid hsz; have HYY := hid hby; clear hi hz hsz hby; have hlenV := partsT_len qs [] h3; rw [HL.out] at hlenV; simp only [List.length_nil] at hlenV; have H3 := hid h3; have HSM := hid hsm; clear h3 hsm; have hb2 := below2 w (.cells #[.string ⟨#[]⟩, .slice none 0 0, .slice none 0 0] 114) (.cells #[.string nm, .slice none 0 0, .slice B m d] 114); have X0 := (Blk.new w 114 #[.string ⟨#[]⟩, .slice none 0 0, .slice none 0 0]).alloc (.cells #[.string nm, .slice none 0 0, .slice B m d] 114)
  have Y0 := Blk.made (w.alloc (.cells #[.string ⟨#[]⟩, .slice none 0 0, .slice none 0 0] 114)) (b := w.heap.size + 1) 114 #[.string nm, .slice none 0 0, .slice B m d] qad; obtain ⟨W0, hW0⟩ : ∃ W0, (w.alloc (.cells #[.string ⟨#[]⟩, .slice none 0 0, .slice none 0 0] 114)).alloc (.cells #[.string nm, .slice none 0 0, .slice B m d] 114) = W0 := ⟨_, rfl⟩; have hz0 : W0.heap.size = w.heap.size + 2 := by rw [← hW0]; simp
  go_enter Tryz.func72, Tryz.ntmps72; go_wp2_with fail; rw [hW0] at hb2 X0 Y0; refine (l5Vars_any B m d qs W0 (h.up PartE.stays hb2) H3.out hmax).mono ?_; rintro e w1 ⟨p, pc, rfl, hT, hb1⟩; have HT := hid hT; have X1 := hid (X0.below hb1); have Y1 := hid (Y0.below hb1); have HB1 := hid (belowThen hb2 hb1); have hz1 := hb1.size; have hV : ∃ vs, partsT [] qs = vs := ⟨_, rfl⟩; obtain ⟨vs, hV⟩ := hV; rw [hV] at hlenV HT; have HV := hid hV; have HSM' : Hid (∀ s ∈ vs, s.size ≤ 16) := hid (by rw [← hV]; exact HSM.out); rw [hV]; clear h hb2 X0 Y0 hT hb1 hV
  go_wp2_with fail; go_loopw [7] (fun i wr => ∃ (k : Nat) (v : Value), k ≤ vs.length ∧ i = .int .i64 (k : Int) ∧ Blk wr (w.heap.size + 1) 114 #[.string nm, v, .slice B m d] ∧ Blk wr w.heap.size 114 #[.string ⟨#[]⟩, .slice none 0 0, .slice none 0 0] ∧ wr.ownsRow w1.heap.size 59 2 v k (tmCells (asVars (vs.take k))) ∧ IsTexts wr W0.heap.size w1.heap.size (some p) vs.length pc vs ∧ Below w.heap.size w wr ∧ w1.heap.size ≤ wr.heap.size) (fun i _ => vs.length - (intOf i).toNat)
  case atStart => exact ⟨0, _, Nat.zero_le _, rfl, Y1.out, X1.out, ⟨rfl, .inl ⟨rfl, rfl⟩⟩, HT.out, HB1.out, nl _⟩
  case round =>
    obtain ⟨k, v, hk, rfl, hY, hX, hrow, hT, hb, hsz⟩ := hrel
    obtain ⟨Av, cv, rfl⟩ : ∃ Av cv, v = .slice Av k cv := by
      rcases hrow.2 with ⟨e1, e2⟩ | ⟨g, cap, cur, e1, _⟩
      · exact ⟨none, 0, by rw [e1, e2]⟩
      · exact ⟨_, cap, e1⟩
    have HY := hid hY; have HX := hid hX; have HR := hid hrow; have HT2 := hid hT; have HB := hid hb; clear hY hX hrow hT hb; have y0 : wr.cell? ⟨w.heap.size + 1, 0, none⟩ = some (.string nm) := HY.out.cell 0; have y1 : wr.cell? ⟨w.heap.size + 1, 1, none⟩ = some (.slice Av k cv) := HY.out.cell 1; have y2 : wr.cell? ⟨w.heap.size + 1, 2, none⟩ = some (.slice B m d) := HY.out.cell 2; have hyl := HY.out.lt; by_cases hlt : k < vs.length
    · have hlt2 : (k : Int) < (vs.length : Int) := qaa
      obtain ⟨q, s, hq, hlo, hhi, hg, hE⟩ := HT2.out.at_ hlt; injection hq with hq; subst hq; have c1 : wr.cell? (p.add k) = some (.string s) := qat; have HG := hid hg; clear hg hE; have HRD : Hid (wr.drew.ownsRow w1.heap.size 59 2 (.slice Av k cv) k (tmCells (asVars (vs.take k)))) := hid HR.out; have YD := hid (show Blk wr.drew (w.heap.size + 1) 114 #[.string nm, .slice Av k cv, .slice B m d] from HY.out); have cu := cellUp (w := wr.drew) (show wr.drew.cell? (p.add k) = some (.string s) from c1); have cv1 := cellUp (w := wr.drew) (show wr.drew.cell? ⟨w.heap.size + 1, 1, none⟩ = some (.slice Av k cv) from y1)
      have hlo2 : ∀ g, (Value.slice Av k cv).ownBlock = some g → w1.heap.size ≤ g := fun g hg => (HR.out.lt g hg).1; go_wp2_with fail
      go_region_law (first
        | (refine step_append_lies _ qab _ _ _ qab w1.heap.size 59 i0 _ 2 24 Tryz.underlying47 HI.out HZ.out HSZ.out HYY.out rfl qaa (.slice Av k cv) k (tmCells (asVars (vs.take k))) qab (HRD.out.alloc _) ⟨wr.drew.heap.size, 0, none⟩ 1 1 [.bool true, .string s] qab qab (World.news_of_block (cs := #[.bool true, .string s]) (t := 59) (fr := (0, 0)) (heap_alloc_new wr.drew _)) qai qaa qac qaa qaf (wr.drew.heap.size + 1) qad ?_; intro gg cap w6 hown6 hgrow hat hlt6; have Y6 := (YD.out.alloc (.cells #[.bool true, .string s] 59)).kept hgrow (fun e => (by have := hlo2 _ e.symm; omega)); have z3 : w6.cell? ⟨w.heap.size + 1, 1, none⟩ = some (.slice Av k cv) := Y6.cell 1; have z5 := Y6.frozen 1))
      all_goals
        have hgg := (hown6.lt gg rfl).1; have hal := below1 wr (.cells #[.bool true, .string s] 59); have hgs : wr.heap.size + 1 ≤ w6.heap.size := by have := hgrow.size; simp at this; exact this
        have X6 := ((show Blk wr.drew w.heap.size 114 #[.string ⟨#[]⟩, .slice none 0 0, .slice none 0 0] from HX.out).alloc (.cells #[.bool true, .string s] 59)).kept (W' := w6) hgrow (fun e => by have := hlo2 _ e.symm; omega); have hset := grownBy_setAny w6 ⟨w.heap.size + 1, 1, none⟩ (.slice (some ⟨gg, 0, none⟩) (k + 1) cap); have A1 := hid (show Blk (w6.setCell ⟨w.heap.size + 1, 1, none⟩ (.slice (some ⟨gg, 0, none⟩) (k + 1) cap)) (w.heap.size + 1) 114 #[.string nm, .slice (some ⟨gg, 0, none⟩) (k + 1) cap, .slice B m d] from Y6.set 1 _)
        have A2 := hid (X6.far (p := ⟨w.heap.size + 1, 1, none⟩) qad (.slice (some ⟨gg, 0, none⟩) (k + 1) cap)); have A3 : Hid ((w6.setCell ⟨w.heap.size + 1, 1, none⟩ (.slice (some ⟨gg, 0, none⟩) (k + 1) cap)).ownsRow w1.heap.size 59 2 (.slice (some ⟨gg, 0, none⟩) (k + 1) cap) (k + 1) (tmCells (asVars (vs.take (k + 1))))) := hid (by rw [asVars_step HG.out]; exact row_far hown6 (fun e => by injection e with e; simp at e; omega) _); have A4 := hid (HT2.out.keep (w' := w6.setCell ⟨w.heap.size + 1, 1, none⟩ (.slice (some ⟨gg, 0, none⟩) (k + 1) cap)) TextE.stays (fun q h1 h2 => ((hset.cell_far _ qaa (fun e => by injection e with e; simp at e; omega)).trans (hgrow.cell_far _ qaf (fun e => by have := hlo2 _ e.symm; omega))).trans (hal.cell qaa)) (nl _) (nl _))
        have A5 := hid ((((HB.out.alloc HB.out.size (.cells #[.bool true, .string s] 59)).drew).grown hgrow (by have := HB.out.size; simp; omega) (fun g hg => by have := hlo2 g hg; omega)).setCell (p := ⟨w.heap.size + 1, 1, none⟩) qad (.slice (some ⟨gg, 0, none⟩) (k + 1) cap)); have A6 : w1.heap.size ≤ (w6.setCell ⟨w.heap.size + 1, 1, none⟩ (.slice (some ⟨gg, 0, none⟩) (k + 1) cap)).heap.size := by rw [size_setCell]; omega
        clear hown6 hgrow hat Y6 z3 z5 X6 hset hal cu cv1 hlo2; go_wp2; go_roundw
        case rel => exact ⟨k + 1, _, by omega, by go_num, A1.out, A2.out, A3.out, A4.out, A5.out, A6⟩
        case measure => exact qms
    · have hkv : k = vs.length := qaa
      subst hkv; have hr1 : wr.cell? ⟨w.heap.size, 0, none⟩ = some (.string ⟨#[]⟩) := HX.out.cell 0; have hr2 : wr.cell? ⟨w.heap.size, 1, none⟩ = some (.slice none 0 0) := HX.out.cell 1; have hr3 : wr.cell? ⟨w.heap.size, 2, none⟩ = some (.slice none 0 0) := HX.out.cell 2; have f1 := HX.out.frozen 0; have f2 := HX.out.frozen 1; have f3 := HX.out.frozen 2; have hrow := HR.out; rw [List.take_length] at hrow
      obtain ⟨A9, c9, e9, hT9⟩ := owned_terms hrow (by unfold asVars; rw [List.length_map]) (fun t ht => by
        unfold asVars at ht; obtain ⟨s, hs, rfl⟩ := List.mem_map.1 ht; exact HSM'.out s hs)
      injection e9 with e9 _ e10; subst e9; subst e10; have HT9 := hid hT9; clear hrow hT9; have Z := (HX.out.set 0 (.string nm)).set 1 (.slice Av vs.length cv) |>.set 2 (.slice B m d); have z0 := Z.cell 0; have z1 := Z.cell 1; have z2 := Z.cell 2; go_wp2; refine bodyPost_ret (v := .agg #[.string nm, .slice Av vs.length cv, .slice B m d]) (by simp [results, Tryz.results72, go_sem, hr1, hr2, hr3]) rfl ?_; rw [HV.out]; refine ⟨Av, cv, rfl, HT9.out.keep (fun q h1 _ => cb_ (((hs_ _ _ _ _ qaf).trans (hs_ _ _ _ _ qaf)).trans (hs_ _ _ _ _ qaf))) (Nat.zero_le _) (by rw [size_setCell, size_setCell, size_setCell]; exact nl _), ((HB.out.setCell qad _).setCell qad _).setCell qad _⟩
theorem name_le {l : List UInt8} (h : nameB l = true) : l.length ≤ 8 := by
  unfold nameB letters at h; simp only [Bool.and_eq_true, decide_eq_true_eq] at h; omega
theorem var_le {l : List UInt8} (h : varB l = true) : l.length ≤ 8 := by
  cases l with
  | nil => simp
  | cons c r =>
    unfold varB at h; simp only [Bool.and_eq_true, decide_eq_true_eq] at h; simp only [List.length_cons]; omega
def askB (qs : List Pt) : Bool := decide (1 ≤ qs.length) && (bodyB qs && decide (qs.length ≤ 4)) && tightB (asVars (partsT [] qs)) qs
theorem body_three {qs : List Pt} (h : bodyB qs = true) : ∀ q ∈ qs, q.2.2.length ≤ 3 := by
  intro q hq; unfold bodyB at h; have := List.all_eq_true.1 h q hq; unfold atomB at this; simp only [Bool.and_eq_true, decide_eq_true_eq] at this; exact this.2.2
theorem body_small {qs : List Pt} (h : bodyB qs = true) : ∀ s ∈ partsT [] qs, s.size ≤ 16 := by
  intro s hs; rw [partsT_all, mem_puts] at hs; rcases hs with hs | hs
  · obtain ⟨q, hq, hv⟩ := List.mem_flatMap.1 hs
    unfold bodyB at h; have := List.all_eq_true.1 h q hq; unfold atomB at this; simp only [Bool.and_eq_true, decide_eq_true_eq] at this; obtain ⟨t, ht, rfl⟩ := List.mem_map.1 hv; have ha := this.1; unfold argsB at ha; have h1 := List.all_eq_true.1 ha t (List.mem_filter.1 ht).1; unfold termB at h1; rw [show t.2.size = t.2.data.toList.length from rfl]; split at h1
    · have := var_le h1; omega
    · have := name_le h1; omega
  · simp at hs
theorem implAskOk_any (B : Option Addr) (m d : Nat) (qs : List Pt) (w : World) (h : IsParts w 0 w.heap.size B m d qs) :
    Calls Tryz.prog 42 #[.slice B m d] w (BoolPost (askB qs) w) := by
  have L := hid h.1; have H := hid h; clear h; by_cases hm : (0 : Int) < (m : Int)
  · go_enter Tryz.func42, Tryz.ntmps42
    go_wp2_with fail; refine (bodyOk_any B m d qs w H.out).mono ?_; rintro e w1 ⟨rfl, hb1⟩; cases hB : (bodyB qs && decide (qs.length ≤ 4))
    · have E := hid (show askB qs = false by unfold askB; rw [hB]; simp)
      go_wp2; go_ret; exact ⟨retB E.out.symm, hb1⟩
    · have h4 : bodyB qs = true ∧ qs.length ≤ 4 := by simpa using hB
      have E := hid (show askB qs = !looseB [((⟨#[]⟩, []), qs)] (mvars qs) by unfold askB; rw [hB, tight_loose ⟨#[]⟩, L.out]; simp; omega); have hl := L.out; go_wp2_with fail; refine (isLoose_any ⟨#[]⟩ none 0 0 [] B m d qs w1 (Nat.zero_le _) ⟨rfl, nl _, Nat.zero_le _, fun h0 => absurd h0 qad⟩ (H.out.up PartE.stays hb1) (body_three h4.1) qaa).mono ?_; rintro e w2 ⟨rfl, hb2⟩; go_wp2; go_ret; exact ⟨retB E.out.symm, belowThen hb1 hb2⟩
  · have E := hid (show askB qs = false by unfold askB; rw [L.out]; (have : m = 0 := by omega); subst this; rfl)
    go_enter Tryz.func42, Tryz.ntmps42; go_wp2; go_ret; exact ⟨retB E.out.symm, Below.refl _ _⟩
theorem specAskOk_any (B : Option Addr) (m d : Nat) (qs : List Pt) (w : World) (h : IsParts w 0 w.heap.size B m d qs) :
    Calls Tryz.prog 27 #[.slice B m d] w (BoolPost (askB qs) w) := by
  have L := hid h.1; have hmx := h.len; unfold maxLen at hmx; have H := hid h; clear h; go_enter Tryz.func27, Tryz.ntmps27; go_wp2; go_loopw [3] (fun i wr => ∃ k : Nat, k ≤ m ∧ i = .int .i64 (k : Int) ∧ bodyB (qs.take k) = true ∧ Below w.heap.size w wr) (fun i _ => m - (intOf i).toNat)
  case atStart => exact ⟨0, Nat.zero_le _, rfl, rfl, Below.refl _ _⟩
  case round =>
    obtain ⟨k, hk, rfl, hd, HB⟩ := hrel; have HD := hid hd; clear hd; by_cases hlt : k < m
    · have hlt2 : (k : Int) < (m : Int) := qaa
      obtain ⟨p, q, hA, hlo, hhi, hg, hE⟩ := (H.out.below PartE.stays HB (nl _)).at_ hlt; obtain ⟨C, n', c', d1, d2, d3, d4, d5⟩ := hE.out; clear hE; subst hA; have HG := hid hg; clear hg; have HT := hid (d5.keep (lo' := 0) (hi' := wr.heap.size) (fun _ _ _ => rfl) (nl _) HB.size); clear d5; go_wp2_with fail; refine (specAtomOk_any _ _ _ _ q.2.2 _ d3 HT.out).mono ?_; rintro e w1 ⟨rfl, hb1⟩; go_wp2
      · go_ret; exact ⟨retB (by unfold askB; rw [bodyB_no HG.out (atom_no qaz)]; simp), belowThen HB hb1⟩
      · go_roundw
        case rel => exact ⟨k + 1, by omega, by go_num, bodyB_snoc HG.out HD.out (atom_yes qaz), belowThen HB hb1⟩
        case measure => exact qms
    · have hbo := bodyB_all L.out hlt HD.out
      have E := hid hbo; have hl := L.out; by_cases hr : (1 ≤ m ∧ m ≤ 4)
      · have hi : (decide ((1 : Int) ≤ (m : Int)) && decide ((m : Int) ≤ 4)) = true := qaf
        have E2 := hid (show askB qs = tightB (asVars (partsT [] qs)) qs by unfold askB; rw [hbo, L.out]; simp; omega); have hlenV := partsT_len qs [] (body_three hbo); rw [hl] at hlenV; simp only [List.length_nil] at hlenV; go_wp2_with (go_at_call 70; refine (in_any _ _ _ _).mono ?_; rintro e w' ⟨rfl, rfl⟩); refine (l5Rule_any ⟨#[120]⟩ B m d qs wr (H.out.up PartE.stays HB) (body_three E.out) qaa (body_small E.out)).mono ?_; rintro e w1 ⟨A5, c5, rfl, hT5, hb1⟩; have HT5 := hid hT5; have HB1 := belowThen HB hb1; clear hT5; go_wp2_with fail; refine (l2Tight_any _ A5 _ c5 _ B m d qs w1 HT5.out (H.out.up PartE.stays HB1) (body_three E.out) qaa qaa).mono ?_; rintro e w2 ⟨rfl, hb2⟩
        go_wp2; go_ret; exact ⟨retB E2.out.symm, belowThen HB1 hb2⟩
      · have hi : (decide ((1 : Int) ≤ (m : Int)) && decide ((m : Int) ≤ 4)) = false := qaf
        have E2 := hid (show askB qs = false by unfold askB; rw [hbo, L.out]; simp; omega); go_wp2_with (go_at_call 70; refine (in_any _ _ _ _).mono ?_; rintro e w' ⟨rfl, rfl⟩); go_ret; exact ⟨retB E2.out.symm, HB⟩
end Go.Proofs.YtcigljngiemdeaaGreat

namespace Go.Proofs.YtcigljngiemdeaaGreat
open Go.RowKit Go.Maps
theorem bset_keys (l : List ByteArray) : ∀ y ∈ l.map (fun s : ByteArray => Lit.string s.data.toList), WideAt.IsKeyLit y := by
  intro y hy; obtain ⟨u, _, rfl⟩ := List.mem_map.1 hy; trivial
theorem bset_size (vs : List ByteArray) : Maps.size (bset vs) ≤ vs.length := by
  have h : ∀ (xs L : List Lit), (xs.foldl addKey L).length ≤ L.length + xs.length := by
    intro xs
    induction xs with
    | nil => intro L; simp
    | cons x xs ih =>
      intro L; have h1 := ih (addKey L x); have h2 : (addKey L x).length ≤ L.length + 1 := by unfold addKey; split <;> simp
      simp only [List.foldl_cons, List.length_cons]; omega
  have h3 := h (vs.map fun s => .string s.data.toList) []; rw [← size_setOf (.lit (.bool true) : DataW Unit) _ (bset_keys vs)] at h3; simp only [List.length_nil, List.length_map, Nat.zero_add] at h3; exact h3
theorem bytes_eq {s t : ByteArray} (h : s.data.toList = t.data.toList) : s = t := by
  cases s; cases t; simp only [ByteArray.mk.injEq]; exact Array.toList_inj.1 h
theorem bytes_lt : ∀ x y : List UInt8, Op.bytesLess x y = decide (x < y)
  | [], [] => by simp [Op.bytesLess]
  | _ :: _, [] => by simp [Op.bytesLess]
  | [], _ :: _ => by simp [Op.bytesLess]
  | a :: x, b :: y => by
    rw [Op.bytesLess, bytes_lt x y]; simp only [List.cons_lt_cons_iff]; by_cases h1 : a < b <;> by_cases h2 : a = b <;> by_cases h3 : x < y <;> simp [h1, h2, h3]
theorem keys_sorted {w : World} {b n : Nat} {vs L : List ByteArray} (hown : w.ownsMap Tryz.prog 9 (plainElem Tryz.prog 4) b n (bset vs)) (hL : InRow L) (hm : ∀ x, x ∈ L ↔ x ∈ vs) {ss : List (List UInt8)} (hp : ss.Perm (strKeys (bset vs))) :
    ss.mergeSort (fun x y => decide (x ≤ y)) = L.map fun s => s.data.toList := by
  obtain ⟨es, he, hk⟩ := hown.keysOf
  have hk' : ∀ p ∈ es, ∃ x, p.1 = .string x := fun p hp => by
    obtain ⟨key, h⟩ := hk p hp; obtain ⟨x, _, hx, _⟩ := keyOf_str Tryz.underlying9 h; exact ⟨x, hx⟩
  obtain ⟨es', he', hpw⟩ := tidy_setOf (.lit (.bool true) : DataW Unit) _ (bset_keys vs); have e1 : es' = es := by have := he'.symm.trans he; injection this
  subst e1
  have P1 := perm_strKeys hpw hk' (ss := L.map fun s => s.data.toList) (List.pairwise_map.2 (hL.nodup.imp fun {a b} h e => h (bytes_eq e))) (fun x => by
    rw [← he', has_setOf _ _ _ (bset_keys vs), List.any_eq_true, List.mem_map]; constructor
    · rintro ⟨s, hs, rfl⟩
      exact ⟨_, List.mem_map_of_mem ((hm s).1 hs), WideAt.sameKey_self trivial⟩
    · rintro ⟨y, hy, hs⟩
      obtain ⟨s, hs', rfl⟩ := List.mem_map.1 hy; have := WideAt.sameKey_eq hs; injection this with this; exact ⟨s, (hm s).2 hs', this⟩)
  rw [← he] at P1; have h1 := mergeSort_of_perm (hp.trans P1.symm); refine h1.trans (List.mergeSort_of_pairwise ?_); refine List.pairwise_map.2 (hL.imp fun {a c} h => ?_); rw [ltT_cmp, decide_eq_true_eq, Lib.toList_data, Lib.toList_data] at h; have h2 := bytes_anti a.data.toList c.data.toList; have h3 := (less_cmp c.data.toList a.data.toList).1; rw [bytes_lt] at h3; refine decide_eq_true (List.not_lt.1 fun hlt => ?_); rw [decide_eq_true hlt] at h3; have h4 := of_decide_eq_true h3.symm; omega
end Go.Proofs.YtcigljngiemdeaaGreat
namespace Go.Proofs.YtcigljngiemdeaaGreat
open Go.RowKit Go.Maps Go.Sort Go.Shelf
def askVarsB (xs : List Pt) : List ByteArray := if askB xs then partsT [] xs else []
def OwnTextsPost (ls : List ByteArray) (w : World) (e : Ending) (w' : World) : Prop := ∃ v, e = .returned v ∧ w'.ownsRow w.heap.size 9 1 v ls.length (tcl ls) ∧ Below w.heap.size w w'
theorem askB_ok {xs : List Pt} (h : askB xs = true) : bodyB xs = true ∧ xs.length ≤ 4 := by
  unfold askB at h; simp only [Bool.and_eq_true, decide_eq_true_eq] at h; exact h.1.2
theorem mvars_len {xs : List Pt} (h : ∀ q ∈ xs, q.2.2.length ≤ 3) : (mvars xs).length ≤ 3 * xs.length := by
  induction xs with
  | nil => simp [mvars, musts]
  | cons q xs ih =>
    have h1 := ih (fun x hx => h x (List.mem_cons_of_mem _ hx)); have h2 := h q (List.mem_cons_self ..); have h3 := varsOf_len q.2.2 q.2.2.length; rw [List.take_of_length_le (nl _)] at h3; unfold mvars musts at *; rw [List.filter_cons]; split <;> simp only [List.flatMap_cons, List.length_append, List.length_cons] <;> omega
theorem enc_back (L : List ByteArray) : (L.map fun s => s.data.toList).map encStr = tcl L := by
  unfold tcl; rw [List.map_map]; refine List.map_congr_left fun s _ => ?_; show Value.string ⟨s.data.toList.toArray⟩ = .string s; rw [Array.toArray_toList]
theorem tight_all {qs : List Pt} (h : askB qs = true) (x : ByteArray) : x ∈ partsT [] qs ↔ x ∈ mvars qs := by
  have h1 : tightB (asVars (partsT [] qs)) qs = true := by
    unfold askB at h; simp only [Bool.and_eq_true] at h; exact h.2
  rw [tight_loose ⟨#[]⟩] at h1; have h2 : looseB [((⟨#[]⟩, []), qs)] (mvars qs) = false := by simpa using h1
  rw [partsT_all, mem_puts]; constructor
  · rintro (hx | hx)
    · refine Classical.byContradiction fun hn => ?_
      obtain ⟨q, hq, hv⟩ := List.mem_flatMap.1 hx
      have h3 : looseB [((⟨#[]⟩, []), qs)] (mvars qs) = true := by
        unfold looseB; rw [List.any_eq_true]; refine ⟨q.2, by unfold atsOf; rw [List.flatMap_singleton]; exact List.mem_cons_of_mem _ (List.mem_map_of_mem hq), List.any_eq_true.2 ⟨x, hv, ?_⟩⟩; cases h : memT (mvars qs) x
        · rfl
        · exact absurd (memT_iff.1 h) hn
      rw [h2] at h3; cases h3
    · simp at hx
  · intro hx
    unfold mvars musts at hx; obtain ⟨q, hq, hv⟩ := List.mem_flatMap.1 hx; exact .inl (List.mem_flatMap.2 ⟨q, (List.mem_filter.1 hq).1, hv⟩)
theorem implAskVars_any (B : Option Addr) (m d : Nat) (xs : List Pt) (w : World) (h : IsParts w 0 w.heap.size B m d xs) :
    Calls Tryz.prog 23 #[.slice B m d] w (OwnTextsPost (askVarsB xs) w) := by
  have H := hid h; clear h; have hl := H.out.1; refine (callsIn_wide (n := 6)).1 ?_; have hfK : Fence.wide.fn 67 := trivial; have hfS : Fence.wide.fn 66 := trivial; refine callsIn_of_wp Tryz.func23 rfl trivial ?_ rfl; simp only [Tryz.ntmps23, List.size_toArray, List.length_cons, List.length_nil, Nat.reduceAdd, Nat.reduceSub, Array.replicate_succ, Array.replicate_zero, List.push_toArray, List.append_toArray, List.nil_append, List.cons_append]; gi_wp2_with fail
  refine ⟨trivial, (callsIn_wide.2 (implAskOk_any B m d xs w H.out)).mono ?_⟩; rintro e w1 ⟨rfl, HB1⟩; cases hA : askB xs
  · have E := hid (show askVarsB xs = [] by unfold askVarsB; rw [hA]; rfl); clear hA
    gi_wp2; go_ret; exact ⟨_, rfl, by rw [E.out]; exact World.ownsRow_nil _ _ _ _, HB1⟩
  · have E := hid (show askVarsB xs = partsT [] xs by unfold askVarsB; rw [hA]; rfl)
    have EM := hid (tight_all hA); have EA := askB_ok hA; have E3 := body_three EA.1; clear hA; gi_wp2_with fail; refine ⟨trivial, (callsIn_wide.2 (boundVars_any B m d xs w1 (H.out.up PartE.stays HB1) E3 qaa)).mono ?_⟩; rintro e w2 ⟨b, N, rfl, hb, hown, hb2⟩; have hsz := bset_size (mvars xs); have hmv : (mvars xs).length ≤ 12 := by have := mvars_len E3; have := EA.2; omega
    gi_wp2_with (first
      | (gi_at_call 67; refine (Tryz.maps_Keys_67 _ _).mono ?_; rintro e w' ⟨rfl, rfl⟩)
      | (gi_at_call 66; refine (Tryz.slices_Sorted_keys_66_67 b N (bset (mvars xs)) _ w2 hown qac qaa).mono ?_; rintro e w' ⟨v, ss, rfl, hS, hrow, hnil, hb3⟩))
    go_ret; have hk := keys_sorted hown (show InRow (partsT [] xs) by rw [partsT_all]; exact InRow.puts List.Pairwise.nil) EM.out hS; rw [hk, enc_back] at hrow; have hss : ss.length = (partsT [] xs).length := by have := congrArg List.length hk; rwa [List.length_mergeSort, List.length_map] at this
    rw [hss] at hrow; refine ⟨v, rfl, by rw [E.out]; exact ownsRow_base_a hrow (by have := HB1.size; have := hb2.size; simp; omega), belowThen (belowThen HB1 hb2) ?_⟩; exact ((Below.refl _ w2).alloc (nl _) _).trans (hb3.mono qad)
end Go.Proofs.YtcigljngiemdeaaGreat
