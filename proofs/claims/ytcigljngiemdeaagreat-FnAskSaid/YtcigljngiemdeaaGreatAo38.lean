/-
  Texts of one claim, put together.
-/
import Derived.Test.YtcigljngiemdeaaGreatAo0
import Derived.Test.YtcigljngiemdeaaGreatAo4
import Derived.Test.YtcigljngiemdeaaGreatAo9
import Derived.Test.YtcigljngiemdeaaGreatAo16
import Derived.Test.YtcigljngiemdeaaGreatAo35
import Derived.Test.YtcigljngiemdeaaGreatAo1
import Derived.Laws.StructEq
import Derived.Deep.RegionWith
import Derived.Test.YtcigljngiemdeaaGreatAo31
import Derived.Test.YtcigljngiemdeaaGreatAo12
import Derived.Test.YtcigljngiemdeaaGreatAo36
import Derived.Test.YtcigljngiemdeaaGreatAo22
import Derived.Test.YtcigljngiemdeaaGreatFsRows
set_option maxRecDepth 100000
set_option maxHeartbeats 8000000
namespace Go.Proofs.YtcigljngiemdeaaGreat
open Go.RowKit
theorem fsTexts_any (A B : Option Addr) (n c n' c' : Nat) (xs ys : List ByteArray) (w : World) (h : IsTexts w 0 w.heap.size A n c xs) (h' : IsTexts w 0 w.heap.size B n' c' ys) :
    Calls Tryz.prog 25 #[.slice A n c, .slice B n' c'] w (BoolPost (decide (xs = ys)) w) := by
  have hm := h.len; have hm' := h'.len; unfold maxLen at hm hm'; by_cases hnn : n = n'
  · subst hnn
    have HL := hid h.1; have HL' := hid h'.1; have H := hid h; clear h; have H' := hid h'; clear h'; go_enter Tryz.func25, Tryz.ntmps25; go_wp2; go_loopw [5] (fun i wr => ∃ k : Nat, k ≤ n ∧ i = .int .i64 (k : Int) ∧ xs.take k = ys.take k ∧ Below w.heap.size w wr) (fun i _ => n - (intOf i).toNat)
    case atStart => exact ⟨0, Nat.zero_le _, rfl, rfl, Below.refl _ _⟩
    case round =>
      obtain ⟨k, hk, rfl, hq, hb⟩ := hrel; have HQ := hid hq; clear hq; by_cases hlt : k < n
      · have hlt2 : (k : Int) < (n : Int) := qaa
        obtain ⟨p, t, hA, -, -, hg, hE⟩ := (H.out.below TextE.stays hb (nl _)).at_ hlt; obtain ⟨p', t', hA', -, -, hg', hE'⟩ := (H'.out.below TextE.stays hb (nl _)).at_ hlt; subst hA; subst hA'; have c1 : wr.drew.cell? (p.add k) = some (.string t) := qat; have c2 : wr.drew.cell? (p'.add k) = some (.string t') := qco; have hbd := hb.drew; have HG := hid hg; have HG' := hid hg'; clear hg hg' hE hE'; obtain ⟨b, hbb⟩ : ∃ b, (t.toList == t'.toList) = b := ⟨_, rfl⟩; have HB := hid (bytes_is hbb); cases b
        · have E := hid (show decide (xs = ys) = false from decide_eq_false fun e => by
            subst e; have := HG.out.symm.trans HG'.out; injection this with this; exact of_decide_eq_false HB.out.symm this)
          go_wp2_with fail; go_region_with fail
          all_goals go_wp2
          all_goals (go_ret; exact ⟨retB E.out.symm, hbd⟩)
        · have E := hid (show xs.take (k + 1) = ys.take (k + 1) from by rw [List.take_add_one, List.take_add_one, HQ.out, HG.out, HG'.out, of_decide_eq_true HB.out.symm])
          go_wp2_with fail; go_region_with fail
          all_goals go_wp2
          all_goals (go_roundw)
          all_goals first
            | exact ⟨k + 1, by omega, by go_num, E.out, hbd⟩
            | (simp [intOf]; omega)
      · have E := hid (show decide (xs = ys) = true from decide_eq_true (by
          have h := HQ.out
          rwa [List.take_of_length_le qdj, List.take_of_length_le (by rw [HL'.out]; omega)] at h))
        go_wp2; go_ret; exact ⟨retB E.out.symm, hb⟩
  · have E := hid (show decide (xs = ys) = false from decide_eq_false fun e => hnn (by rw [← h.1, ← h'.1, e]))
    clear h h'; go_enter Tryz.func25, Tryz.ntmps25; go_wp2; go_ret; exact ⟨retB E.out.symm, Below.refl _ _⟩
def fillV (vs row : List ByteArray) (t : Tm) : Tm := if t.1 = true then (match lookV vs row t.2 with | some v => (false, v) | none => t) else t
theorem fillV_word (vs row : List ByteArray) {t : Tm} (h : t.1 = false) : fillV vs row t = t := by unfold fillV; rw [if_neg (by rw [h]; simp)]
theorem fillV_end (row : List ByteArray) (t : Tm) : fillV [] row t = t := by
  unfold fillV lookV; split
  · simp
  · rfl
theorem fillV_hit {vs row : List ByteArray} {k : Nat} {x y : ByteArray} {t : Tm} (hx : vs[k]? = some x) (hy : row[k]? = some y) (h1 : t.1 = true) (e : x = t.2) : fillV (vs.drop k) (row.drop k) t = (false, y) := by
  obtain ⟨a1, a2⟩ := List.getElem?_eq_some_iff.1 hx; obtain ⟨b1, b2⟩ := List.getElem?_eq_some_iff.1 hy; unfold fillV lookV; rw [if_pos h1, List.drop_eq_getElem_cons a1, List.drop_eq_getElem_cons b1, a2, b2, List.zip_cons_cons, List.findSome?_cons]; simp [e]
theorem fillV_miss {vs row : List ByteArray} {k : Nat} {x y : ByteArray} {t : Tm} (hx : vs[k]? = some x) (hy : row[k]? = some y) (e : x ≠ t.2) : fillV (vs.drop k) (row.drop k) t = fillV (vs.drop (k + 1)) (row.drop (k + 1)) t := by
  obtain ⟨a1, a2⟩ := List.getElem?_eq_some_iff.1 hx; obtain ⟨b1, b2⟩ := List.getElem?_eq_some_iff.1 hy; unfold fillV lookV; rw [List.drop_eq_getElem_cons a1, List.drop_eq_getElem_cons b1, a2, b2, List.zip_cons_cons, List.findSome?_cons]; simp [e]
theorem fillV_size {vs row : List ByteArray} {t : Tm} (hr : ∀ s ∈ row, s.size ≤ maxLen) (ht : t.2.size ≤ maxLen) : (fillV vs row t).2.size ≤ maxLen := by
  unfold fillV; split
  · split
    · rename_i v hv
      unfold lookV at hv; obtain ⟨q, hq, he⟩ := List.exists_of_findSome?_eq_some hv; split at he
      · injection he with he
        rw [← he]; exact hr _ (List.of_mem_zip hq).2
      · cases he
    · exact ht
  · exact ht
structure FF (w : World) (nm : ByteArray) (A1 : Option Addr) (n1 c1 : Nat) (v : Value) (us : List Tm) (W : World) : Prop where
  xa : Blk W w.heap.size 49 #[.string nm, .slice A1 n1 c1]
  xr : Blk W (w.heap.size + 1) 49 #[.string ⟨#[]⟩, .slice none 0 0]
  xo : Blk W (w.heap.size + 2) 49 #[.string nm, v]
  row : W.ownsRow (w.heap.size + 3) 59 2 v us.length (tcs us)
  gr : Below w.heap.size w W
  hs : w.heap.size + 3 ≤ W.heap.size
section
variable {w W W' W9 : World} {nm : ByteArray} {A1 : Option Addr} {n1 c1 : Nat} {v v' : Value} {us : List Tm} {u : Tm} {ob : Obj}
theorem FF.below (h : FF w nm A1 n1 c1 v us W) (hb : Below W.heap.size W W') : FF w nm A1 n1 c1 v us W' := by
  have hs := hb.size; have h4 := h.hs; exact ⟨h.xa.below hb, h.xr.below hb, h.xo.below hb, ownsRow_up h.row hb, h.gr.trans (hb.mono qaa), by omega⟩
theorem FF.ne (h : FF w nm A1 n1 c1 v us W) {b : Nat} (hb : b < w.heap.size + 3) : v.ownBlock ≠ some b := fun e => by
  have := (h.row.lt b e).1; omega
theorem FF.kept (h : FF w nm A1 n1 c1 v us W) (hg : (W.alloc ob).grownBy W9 v.ownBlock) : W9.cell? ⟨w.heap.size + 2, 1, none⟩ = some v :=
  ((h.xo.alloc ob).kept hg (fun e => h.ne qaa e.symm)).cell 1
theorem FF.froz (h : FF w nm A1 n1 c1 v us W) (hg : (W.alloc ob).grownBy W9 v.ownBlock) : W9.frozen? ⟨w.heap.size + 2, 1, none⟩ = false :=
  ((h.xo.alloc ob).kept hg (fun e => h.ne qaa e.symm)).frozen 1
theorem FF.more (h : FF w nm A1 n1 c1 v us W) {us' : List Tm} (hu : us' = us ++ [u]) (hown : W9.ownsRow (w.heap.size + 3) 59 2 v' (us.length + 1) (tcs us ++ [.bool u.1, .string u.2])) (hgrow : (W.alloc ob).grownBy W9 v.ownBlock) :
    FF w nm A1 n1 c1 v' us' (W9.setCell ⟨w.heap.size + 2, 1, none⟩ v') := by
  subst hu; have h2 := h.below (below1 W ob); have hgs := hgrow.size; have h4 := h2.hs; have hw4 : w.heap.size ≤ W.heap.size := by have := h.hs; omega
  refine ⟨(h2.xa.kept hgrow (fun e => h.ne qaa e.symm)).far (p := ⟨w.heap.size + 2, 1, none⟩) qdx _, (h2.xr.kept hgrow (fun e => h.ne qaa e.symm)).far (p := ⟨w.heap.size + 2, 1, none⟩) qdq _, ?_, ?_, ?_, by rw [size_setCell]; omega⟩
  · exact (h2.xo.kept hgrow (fun e => h.ne qaa e.symm)).set 1 v'
  · rw [List.length_append]
    have e : tcs (us ++ [u]) = tcs us ++ [.bool u.1, .string u.2] := by unfold tcs; rw [List.flatMap_append, List.flatMap_singleton]
    rw [e]; exact row_set hown (p := ⟨w.heap.size + 2, 1, none⟩) (fun e => by have := (hown.lt _ e).1; simp at this) _
  · refine (h2.gr.grown hgrow qaf (fun k e => ?_)).setCell (p := ⟨w.heap.size + 2, 1, none⟩) (Nat.le_add_right _ _) _
    have := (h.row.lt k e).1; omega
end
theorem fsFill_any (nm : ByteArray) (A1 : Option Addr) (n1 c1 : Nat) (ts : List Tm) (A : Option Addr) (n c : Nat) (vs : List ByteArray) (B : Option Addr) (d : Nat) (row : List ByteArray) (w : World) (h1 : IsTerms w 0 w.heap.size A1 n1 c1 ts)
    (h3 : IsTexts w 0 w.heap.size A n c vs) (h4 : IsTexts w 0 w.heap.size B n d row) (hmax : n1 ≤ 1048576) (hs4 : ∀ s ∈ row, s.size ≤ maxLen) :
    Calls Tryz.prog 29 #[.agg #[.string nm, .slice A1 n1 c1], .slice A n c, .slice B n d] w fun e w' => ∃ A' n' c', e = .returned (.agg #[.string nm, .slice A' n' c']) ∧ IsTerms w' w.heap.size w'.heap.size A' n' c' (ts.map (fillV vs row)) ∧ Below w.heap.size w w' := by
  have hc1 := h1.2.1; have hm1 := h1.2.2.1; have hmn := h3.len; unfold maxLen at hm1 hmn; have L1 := hid h1.1; have HS1 := hid (terms_sizes h1); have HS4 := hid hs4; have H1 := hid h1; have H3 := hid h3; have H4 := hid h4; have LV := hid h3.1; have LR := hid h4.1; obtain ⟨i0, hi, hz, hsz, hby⟩ := info_parts Tryz.infoTerm; have HI := hid hi; have HZ := hid hz; have HSZ := hid hsz; have HYY := hid hby; clear hi hz hsz hby; have hw2 := below2 w (.cells #[.string nm, .slice A1 n1 c1] 49) (.cells #[.string ⟨#[]⟩, .slice none 0 0] 49)
  obtain ⟨w2, hq2⟩ : ∃ w2, (w.alloc (.cells #[.string nm, .slice A1 n1 c1] 49)).alloc (.cells #[.string ⟨#[]⟩, .slice none 0 0] 49) = w2 := ⟨_, rfl⟩; have xa := (Blk.new w 49 #[.string nm, .slice A1 n1 c1]).alloc (.cells #[.string ⟨#[]⟩, .slice none 0 0] 49); have xr := Blk.made (b := w.heap.size + 1) (w.alloc (.cells #[.string nm, .slice A1 n1 c1] 49)) 49 #[.string ⟨#[]⟩, .slice none 0 0] qad
  rw [hq2] at hw2 xa xr; have hz2 : w2.heap.size = w.heap.size + 2 := by rw [← hq2]; simp
  have hb3 := below1 w2 (.cells #[.string nm, .slice none 0 0] 49); have xo := Blk.made (b := w.heap.size + 2) w2 49 #[.string nm, .slice none 0 0] hz2.symm; obtain ⟨w3, hq3⟩ : ∃ w3, w2.alloc (.cells #[.string nm, .slice none 0 0] 49) = w3 := ⟨_, rfl⟩; rw [hq3] at hb3 xo; have hz3 : w3.heap.size = w.heap.size + 3 := by rw [← hq3]; simp; omega
  have M0 : FF w nm A1 n1 c1 (.slice none 0 0) [] w3 := ⟨xa.below hb3, xr.below hb3, xo, ⟨rfl, .inl ⟨rfl, rfl⟩⟩, belowThen hw2 hb3, by omega⟩; have HM0 := hid M0; have HQ2 := hid hq2; have HQ3 := hid hq3; have z0 := xa.cell 0; have z1 := xa.cell 1; clear h1 h3 h4 hs4 xa xr xo hw2 hb3 hq2 hq3 M0; go_enter Tryz.func29, Tryz.ntmps29; go_wp2_with (first | rw [HQ2.out] | rw [HQ3.out]); go_loopw [8] (fun i wr => ∃ (k : Nat) (v : Value), k ≤ n1 ∧ i = .int .i64 (k : Int) ∧ FF w nm A1 n1 c1 v ((ts.take k).map (fillV vs row)) wr) (fun i _ => n1 - (intOf i).toNat)
  case atStart => exact ⟨0, _, Nat.zero_le _, rfl, HM0.out⟩
  case round =>
    clear HM0 HQ2 HQ3 hz2 hz3 z0 z1; obtain ⟨k, v, hk, rfl, hM⟩ := hrel; have hlen : ((ts.take k).map (fillV vs row)).length = k := by rw [List.length_map, List.length_take, L1.out]; omega
    obtain ⟨us, hus⟩ : ∃ us, (ts.take k).map (fillV vs row) = us := ⟨_, rfl⟩; rw [hus] at hM hlen; have HUS := hid hus; clear hus; subst hlen; obtain ⟨wo, hwo⟩ : ∃ wo : World, wo = wr := ⟨_, rfl⟩; subst hwo; have y0 : wo.cell? ⟨w.heap.size, 0, none⟩ = some (.string nm) := hM.xa.cell 0; have y1 : wo.cell? ⟨w.heap.size, 1, none⟩ = some (.slice A1 n1 c1) := hM.xa.cell 1; by_cases hlt : us.length < n1
    · have hltI : (us.length : Int) < (n1 : Int) := qaa
      obtain ⟨p, t, hA, plo, phi, hg, d1, d2, d3⟩ := (H1.out.below hM.gr (nl _)).at_ hlt; subst hA; obtain ⟨tv, s⟩ := t; have HG := hid hg; have hb5 := below1 wo (.cells #[.bool tv, .string s] 59); obtain ⟨w5, hq5⟩ : ∃ w5, wo.alloc (.cells #[.bool tv, .string s] 59) = w5 := ⟨_, rfl⟩; have x5 : Blk w5 wo.heap.size 59 #[.bool tv, .string s] := by rw [← hq5]; exact Blk.new wo _ _
      rw [hq5] at hb5; have hgrow4 := hM.hs; have HMO := hid hM; have HX5 := hid x5; have HQ5 := hid hq5; have HB5 := hid hb5; clear hM x5 hq5 hg plo phi hb5; go_wp2_with (first | rw [HQ5.out]); clear y0 y1 d1 d2; go_loopw [10] (fun i wi => ∃ (j : Nat) (tb : Bool) (ts' : ByteArray), j ≤ n ∧ i = .int .i64 (j : Int) ∧ fillV (vs.drop j) (row.drop j) (tb, ts') = fillV vs row (tv, s) ∧ ts'.size ≤ maxLen ∧ Blk wi wo.heap.size 59 #[.bool tb, .string ts'] ∧ Below wo.heap.size wo wi) (fun i _ => n - (intOf i).toNat)
      case atStart => exact ⟨0, tv, s, Nat.zero_le _, rfl, rfl, d3, HX5.out, HB5.out⟩
      case round =>
        clear HX5 HQ5 HB5; obtain ⟨j, tb, ts', hj, rfl, hf, hsz, hX, hB⟩ := hrel; have q0 : wr.cell? ⟨wo.heap.size, 0, none⟩ = some (.bool tb) := hX.cell 0; have q1 : wr.cell? ⟨wo.heap.size, 1, none⟩ = some (.string ts') := hX.cell 1; have f0 := hX.frozen 0; have f1 := hX.frozen 1; have HF := hid hf; have HX := hid hX; have HBI := hid hB; have hBs := hB.size; clear hf hX hB; by_cases hjn : j < n
        · have hjnI : (j : Int) < (n : Int) := qaa
          cases tb
          · have HT9 := hid (show (false, ts') = fillV vs row (tv, s) from by rw [← HF.out]; exact (fillV_word _ _ rfl).symm)
            have hM9 := HMO.out.below HBI.out; have c1 : wr.cell? ⟨w.heap.size + 2, 1, none⟩ = some v := hM9.xo.cell 1; have HR := hid hM9; have HGT := hid (show (ts.take (us.length + 1)).map (fillV vs row) = us ++ [(false, ts')] from by rw [List.take_add_one, HG.out, List.map_append, HUS.out]; show us ++ [fillV vs row (tv, s)] = _; rw [← HT9.out]); clear hM9; go_wp2_with (first | (at_builtin; refine wpList_append_lies _ rfl _ _ 47 rfl (w.heap.size + 3) 59 i0 _ 2 24 Tryz.underlying47 HI.out HZ.out HSZ.out HYY.out rfl qal _ _ _ rfl (HR.out.row.alloc _) ⟨wr.heap.size, 0, none⟩ 1 1 [.bool false, .string ts'] rfl rfl (two_new _ _ _ _) qai qaa qac qaa qdy (wr.heap.size + 1) qad ?_; intro g' cap' w9 hown' hgrow' hat' _; have HN := hid (HR.out.more HGT.out hown' hgrow'); have cE9 : w9.cell? ⟨w.heap.size + 2, 1, none⟩ = some v := HR.out.kept hgrow'; have cF9 := HR.out.froz hgrow'; clear hown' hgrow' hat'))
            go_roundw
            case rel => exact ⟨us.length + 1, _, by omega, by go_num, HN.out⟩
            case measure => exact qms
          · obtain ⟨px, x, hAx, -, -, hx, hEx⟩ := (H3.out.below TextE.stays (HMO.out.gr.trans (HBI.out.mono (by have := HMO.out.gr.size; omega))) (nl _)).at_ hjn
            obtain ⟨py, y, hAy, -, -, hy, hEy⟩ := (H4.out.below TextE.stays (HMO.out.gr.trans (HBI.out.mono (by have := HMO.out.gr.size; omega))) (nl _)).at_ hjn; subst hAx hAy; have gx : wr.drew.cell? (px.add j) = some (.string x) := by have := hEx; unfold TextE at this; rwa [Nat.mul_one] at this
            have gy : wr.drew.cell? (py.add j) = some (.string y) := by have := hEy; unfold TextE at this; rwa [Nat.mul_one] at this
            have g0 : wr.drew.cell? ⟨wo.heap.size, 0, none⟩ = some (.bool true) := q0; have g1 : wr.drew.cell? ⟨wo.heap.size, 1, none⟩ = some (.string ts') := q1; have hf0 : wr.drew.frozen? ⟨wo.heap.size, 0, none⟩ = false := f0; have hf1 : wr.drew.frozen? ⟨wo.heap.size, 1, none⟩ = false := f1; have HXD := hid (show Blk wr.drew wo.heap.size 59 #[.bool true, .string ts'] from HX.out); have HBD := hid (HBI.out.drew); have HSY := hid (HS4.out y (List.mem_of_getElem? hy)); have HXX := hid hx; have HYE := hid hy; clear hEx hEy hx hy f0 f1; obtain ⟨eb, heb⟩ : ∃ eb, (x.toList == ts'.toList) = eb := ⟨_, rfl⟩
            have HEB := hid (bytes_is heb); cases eb
            · have HFN := hid (show fillV (vs.drop (j + 1)) (row.drop (j + 1)) (true, ts') = fillV vs row (tv, s) from by rw [← HF.out]; exact (fillV_miss HXX.out HYE.out (of_decide_eq_false HEB.out.symm)).symm)
              go_wp2_with fail; go_region_with fail
              all_goals go_wp2
              all_goals (go_roundw)
              all_goals first
                | exact ⟨j + 1, true, ts', by omega, by go_num, HFN.out, hsz, HXD.out, HBD.out⟩
                | (simp [intOf]; omega)
            · have HFN := hid (show fillV (vs.drop (j + 1)) (row.drop (j + 1)) (false, y) = fillV vs row (tv, s) from by rw [← HF.out, fillV_hit HXX.out HYE.out rfl (of_decide_eq_true HEB.out.symm)]; exact fillV_word _ _ rfl)
              go_wp2_with fail; refine wp_region_held_drew (S := fun U => U.cell? (px.add j) = some (.string x) ∧ U.cell? ⟨wo.heap.size, 1, none⟩ = some (.string ts')) qae ⟨gx, g1⟩ ?_; obtain ⟨V, hVe⟩ : ∃ V, wr.drew = V := ⟨_, rfl⟩; rw [hVe] at gy g0 g1 gx hf0 hf1 HXD HBD ⊢; clear hVe q0 q1; intro hS_; refine tk 0 (.slice (some px) n c) hS_ ?_; refine tk 1 (.int .i64 (j : Int)) hS_ ?_; refine tk 2 (.pointer (some (px.add j))) hS_ ?_; refine tk 3 (.string x) hS_ ?_; refine tk 4 (.pointer (some ⟨wo.heap.size, 1, none⟩)) hS_ ?_; refine tk 5 (.string ts') hS_ ?_; refine tk 6 (.bool true) hS_ ?_; refine wpAnyH_done qae ?_ _
              go_wp2; go_roundw
              case rel => exact ⟨j + 1, false, y, by omega, by go_num, HFN.out, HSY.out, (HXD.out.set 0 _).set 1 _, (HBD.out.setCell (p := ⟨wo.heap.size, 0, none⟩) (nl _) _).setCell (p := ⟨wo.heap.size, 1, none⟩) (nl _) _⟩
              case measure => exact qms
        · have hjnI : ¬ (j : Int) < (n : Int) := qaa
          have HT9 := hid (show (tb, ts') = fillV vs row (tv, s) from by
            rw [← HF.out, List.drop_eq_nil_of_le (show vs.length ≤ j by rw [LV.out]; omega)]; exact (fillV_end _ _).symm)
          have hM9 := HMO.out.below HBI.out; have c1 : wr.cell? ⟨w.heap.size + 2, 1, none⟩ = some v := hM9.xo.cell 1; have HR := hid hM9; have HGT := hid (show (ts.take (us.length + 1)).map (fillV vs row) = us ++ [(tb, ts')] from by rw [List.take_add_one, HG.out, List.map_append, HUS.out]; show us ++ [fillV vs row (tv, s)] = _; rw [← HT9.out]); clear hM9; go_wp2_with (first | (at_builtin; refine wpList_append_lies _ rfl _ _ 47 rfl (w.heap.size + 3) 59 i0 _ 2 24 Tryz.underlying47 HI.out HZ.out HSZ.out HYY.out rfl qal _ _ _ rfl (HR.out.row.alloc _) ⟨wr.heap.size, 0, none⟩ 1 1 [.bool tb, .string ts'] rfl rfl (two_new _ _ _ _) qai qaa qac qaa qdy (wr.heap.size + 1) qad ?_; intro g' cap' w9 hown' hgrow' hat' _; have HN := hid (HR.out.more HGT.out hown' hgrow'); have cE9 : w9.cell? ⟨w.heap.size + 2, 1, none⟩ = some v := HR.out.kept hgrow'; have cF9 := HR.out.froz hgrow'; clear hown' hgrow' hat'))
          go_roundw
          case rel => exact ⟨us.length + 1, _, by omega, by go_num, HN.out⟩
          case measure => exact qms
    · have hall : ts.map (fillV vs row) = us := by rw [← HUS.out, List.take_of_length_le (by rw [L1.out]; omega)]
      have hsz : ∀ t ∈ us, t.2.size ≤ maxLen := fun t ht => by
        rw [← hall] at ht; obtain ⟨u, hu, rfl⟩ := List.mem_map.1 ht; exact fillV_size HS4.out (HS1.out u hu)
      have y2 := hM.xo.cell 0; have y3 : wo.cell? ⟨w.heap.size + 2, 1, none⟩ = some v := hM.xo.cell 1; have y4 := hM.xr.frozen 0; have y5 := hM.xr.frozen 1; have y6 := hM.xr.cell 0; have y7 := hM.xr.cell 1
      obtain ⟨A', n', c', rfl, hT⟩ : ∃ A' n' c', v = .slice A' n' c' ∧ IsTerms wo (w.heap.size + 3) wo.heap.size A' n' c' us := by
        have hrow := hM.row; rcases hrow.2 with ⟨rfl, h0⟩ | ⟨g, cap, cur, rfl, _, _⟩
        · exact ⟨none, 0, 0, rfl, ⟨h0, nl _, by unfold maxLen; omega, fun hp => by omega⟩⟩
        · exact ⟨_, _, _, rfl, (own_terms (lo := w.heap.size + 3) hrow rfl hsz (nl _)).1⟩
      have HT := hid hT; have HGR := hid hM.gr; have HHS := hM.hs; clear hM hT; go_wp2; have hk2 : ∀ q : Nat, q ≠ w.heap.size + 1 → ((wo.setCell ⟨w.heap.size + 1, 0, none⟩ (.string nm)).setCell ⟨w.heap.size + 1, 1, none⟩ (.slice A' n' c')).heap[q]? = wo.heap[q]? := fun q hq => (hs_ _ _ _ q hq).trans (hs_ _ _ _ q hq); refine bodyPost_ret (v := .agg #[.string nm, .slice A' n' c']) (by simp [results, Tryz.results29, go_sem, y6, y7]) rfl ⟨A', n', c', rfl, ?_, (HGR.out.setCell (p := ⟨w.heap.size + 1, 0, none⟩) (Nat.le_add_right _ _) _).setCell (p := ⟨w.heap.size + 1, 1, none⟩) (Nat.le_add_right _ _) _⟩
      rw [hall]; exact HT.out.keep (fun q h1 h2 => cb_ (hk2 _ qaa)) (Nat.le_add_right _ _) qba
theorem fsAtom_any (nm nm' : ByteArray) (A B : Option Addr) (n c n' c' : Nat) (ts us : List Tm) (w : World) (h : IsTerms w 0 w.heap.size A n c ts) (h' : IsTerms w 0 w.heap.size B n' c' us) :
    Calls Tryz.prog 73 #[.agg #[.string nm, .slice A n c], .agg #[.string nm', .slice B n' c']] w (BoolPost (atomEq (nm, ts) (nm', us)) w) := by
  have hm : n ≤ maxLen := qbo; unfold maxLen at hm; have H := hid h; clear h; have H' := hid h'; clear h'; by_cases hne : n = n'
  · subst hne
    have hw0 := below2 w (.cells #[.string nm, .slice A n c] 49) (.cells #[.string nm', .slice B n c'] 49); go_enter Tryz.func73, Tryz.ntmps73; by_cases hnm : nm.toList = nm'.toList
    · go_wp2_with fail
      go_loopw [5] (fun i wr => ∃ k : Nat, k ≤ n ∧ i = .int .i64 k ∧ termsEq (ts.drop k) (us.drop k) = termsEq ts us ∧ Below ((w.alloc (.cells #[.string nm, .slice A n c] 49)).alloc (.cells #[.string nm', .slice B n c'] 49)).heap.size ((w.alloc (.cells #[.string nm, .slice A n c] 49)).alloc (.cells #[.string nm', .slice B n c'] 49)) wr) (fun i _ => n - (intOf i).toNat)
      case atStart => exact ⟨0, Nat.zero_le _, rfl, rfl, Below.refl _ _⟩
      case round =>
        obtain ⟨k, hk, rfl, hd, hb⟩ := hrel; have HD := hid hd; clear hd; obtain ⟨hc, hf⟩ := oldCells hb; by_cases hlt : k < n
        · obtain ⟨p, t, hA, hlo, hhi, hg, c1, c2, c3⟩ := ((H.out.up hw0).below hb (nl _)).at_ hlt
          obtain ⟨p', t', hA', hlo', hhi', hg', c1', c2', c3'⟩ := ((H'.out.up hw0).below hb (nl _)).at_ hlt; subst hA; subst hA'; have HG := hid hg; clear hg; have HG' := hid hg'; clear hg'; go_wp2_with fail; have z1 : wr.cell? ⟨w.heap.size, 1, none⟩ = some (.slice (some p) n c) := (hc _ _ (by simp <;> omega)).trans (by simp [go_sem]); have z2 : wr.cell? ⟨w.heap.size + 1, 1, none⟩ = some (.slice (some p') n c') := (hc _ _ (by simp <;> omega)).trans (by simp [go_sem]); have hte : termEq (t.1, t.2) (t'.1, t'.2) = ((t.1 == t'.1) && (t.2.toList == t'.2.toList)) := rfl; by_cases hv : t.1 = t'.1
          · by_cases hs : t.2.toList = t'.2.toList
            · have heq : (!termEq (t.1, t.2) (t'.1, t'.2)) = false := by rw [hte]; simp [hv, hs]
              have HE := hid heq; clear heq hte
              go_region_held3 (fun W => W.cell? ⟨w.heap.size, 1, none⟩ = some (.slice (some p) n c) ∧ W.cell? ⟨w.heap.size + 1, 1, none⟩ = some (.slice (some p') n c') ∧ W.cell? (p.add (k * 2)) = some (.bool t.1) ∧ W.cell? ⟨(p.add (k * 2)).block, (p.add (k * 2)).off + 1, none⟩ = some (.string t.2) ∧ W.cell? (p'.add (k * 2)) = some (.bool t'.1) ∧ W.cell? ⟨(p'.add (k * 2)).block, (p'.add (k * 2)).off + 1, none⟩ = some (.string t'.2))
                (exact ⟨z1, z2, c1, c2, c1', c2'⟩)
                (fail)
              go_wp2
              all_goals first
                | (go_ret
                   refine ⟨retB ?_, belowThen hw0 hb.drew⟩; have he := termsEq_no HG.out HG'.out HD.out HE.out
                   unfold atomEq; rw [← he]; simp)
                | (go_roundw
                   case rel => exact ⟨k + 1, by omega, by go_num, termsEq_on HG.out HG'.out HD.out HE.out, hb.drew⟩
                   case measure => exact qms)
            · have heq : (!termEq (t.1, t.2) (t'.1, t'.2)) = true := by rw [hte]; simp [hs]
              have HE := hid heq; clear heq hte
              go_region_held3 (fun W => W.cell? ⟨w.heap.size, 1, none⟩ = some (.slice (some p) n c) ∧ W.cell? ⟨w.heap.size + 1, 1, none⟩ = some (.slice (some p') n c') ∧ W.cell? (p.add (k * 2)) = some (.bool t.1) ∧ W.cell? ⟨(p.add (k * 2)).block, (p.add (k * 2)).off + 1, none⟩ = some (.string t.2) ∧ W.cell? (p'.add (k * 2)) = some (.bool t'.1) ∧ W.cell? ⟨(p'.add (k * 2)).block, (p'.add (k * 2)).off + 1, none⟩ = some (.string t'.2))
                (exact ⟨z1, z2, c1, c2, c1', c2'⟩)
                (fail)
              go_wp2
              all_goals first
                | (go_ret
                   refine ⟨retB ?_, belowThen hw0 hb.drew⟩; have he := termsEq_no HG.out HG'.out HD.out HE.out
                   unfold atomEq; rw [← he]; simp)
                | (go_roundw
                   case rel => exact ⟨k + 1, by omega, by go_num, termsEq_on HG.out HG'.out HD.out HE.out, hb.drew⟩
                   case measure => exact qms)
          · have heq : (!termEq (t.1, t.2) (t'.1, t'.2)) = true := by rw [hte]; simp [hv]
            have HE := hid heq; clear heq hte
            go_region_held3 (fun W => W.cell? ⟨w.heap.size, 1, none⟩ = some (.slice (some p) n c) ∧ W.cell? ⟨w.heap.size + 1, 1, none⟩ = some (.slice (some p') n c') ∧ W.cell? (p.add (k * 2)) = some (.bool t.1) ∧ W.cell? ⟨(p.add (k * 2)).block, (p.add (k * 2)).off + 1, none⟩ = some (.string t.2) ∧ W.cell? (p'.add (k * 2)) = some (.bool t'.1) ∧ W.cell? ⟨(p'.add (k * 2)).block, (p'.add (k * 2)).off + 1, none⟩ = some (.string t'.2))
              (exact ⟨z1, z2, c1, c2, c1', c2'⟩)
              (fail)
            go_wp2
            all_goals first
              | (go_ret
                 refine ⟨retB ?_, belowThen hw0 hb.drew⟩; have he := termsEq_no HG.out HG'.out HD.out HE.out
                 unfold atomEq; rw [← he]; simp)
              | (go_roundw
                 case rel => exact ⟨k + 1, by omega, by go_num, termsEq_on HG.out HG'.out HD.out HE.out, hb.drew⟩
                 case measure => exact qms)
        · go_wp2
          go_ret; refine ⟨retB ?_, belowThen hw0 hb⟩; have he := termsEq_end H.out.1 H'.out.1 HD.out hlt; unfold atomEq; rw [← he]; simp [hnm]
    · go_wp2
      go_ret; refine ⟨retB ?_, below2 _ _ _⟩; unfold atomEq; simp [hnm]
  · go_enter Tryz.func73, Tryz.ntmps73
    go_wp2
    · go_ret
      refine ⟨retB ?_, below2 _ _ _⟩; unfold atomEq; rw [termsEq_len (by rw [H.out.1, H'.out.1]; exact hne)]; simp
    · go_ret
      refine ⟨retB ?_, below2 _ _ _⟩; unfold atomEq; rw [termsEq_len (by rw [H.out.1, H'.out.1]; exact hne)]; simp
theorem textEq_iff (a b : ByteArray) : (a.toList == b.toList) = true ↔ a = b := by
  constructor
  · intro h
    exact of_decide_eq_true ((bytes_is h).symm)
  · rintro rfl; simp
theorem termsEq_iff : ∀ a b : List Tm, termsEq a b = true ↔ a = b
  | [], [] => by simp [termsEq]
  | [], _ :: _ => by simp [termsEq]
  | _ :: _, [] => by simp [termsEq]
  | x :: l, y :: m => by
    show (termEq x y && termsEq l m) = true ↔ _; rw [Bool.and_eq_true, termsEq_iff l m]; unfold termEq; rw [Bool.and_eq_true, textEq_iff]; constructor
    · rintro ⟨⟨h1, h2⟩, rfl⟩
      rw [show x = y from Prod.ext (eq_of_beq h1) h2]
    · intro h; injection h with h1 h2; subst h1; exact ⟨⟨by simp, rfl⟩, h2⟩
theorem atomEq_iff (a b : At) : atomEq a b = true ↔ a = b := by
  unfold atomEq; rw [Bool.and_eq_true, textEq_iff, termsEq_iff]; constructor
  · rintro ⟨h1, h2⟩; exact Prod.ext h1 h2
  · rintro rfl; exact ⟨rfl, rfl⟩
def hasE (xs : List At) (a : At) : Bool := xs.any fun x => atomEq x a
theorem hasE_mem {xs : List At} {a : At} : hasE xs a = true ↔ a ∈ xs := by
  unfold hasE; rw [List.any_eq_true]; constructor
  · rintro ⟨x, hx, h⟩; rw [← (atomEq_iff x a).1 h]; exact hx
  · intro h; exact ⟨a, h, (atomEq_iff a a).2 rfl⟩
theorem hasE_on {xs : List At} {k : Nat} {q a : At} (hg : xs[k]? = some q) (h : hasE (xs.drop k) a = hasE xs a) (he : atomEq q a = false) : hasE (xs.drop (k + 1)) a = hasE xs a := by
  obtain ⟨h1, h2⟩ := List.getElem?_eq_some_iff.1 hg; rw [← h, List.drop_eq_getElem_cons h1, h2]; unfold hasE; rw [List.any_cons, he, Bool.false_or]
theorem hasE_yes {xs : List At} {k : Nat} {q a : At} (hg : xs[k]? = some q) (he : atomEq q a = true) : hasE xs a = true := by
  unfold hasE; rw [List.any_eq_true]; exact ⟨q, List.mem_of_getElem? hg, he⟩
theorem hasE_end {xs : List At} {k n : Nat} {a : At} (hl : xs.length = n) (h : hasE (xs.drop k) a = hasE xs a) (hk : ¬ k < n) : hasE xs a = false := by
  rw [← h, List.drop_eq_nil_of_le qaa]; rfl
theorem fsHas_any (A : Option Addr) (n c : Nat) (xs : List At) (nm : ByteArray) (B : Option Addr) (m d : Nat) (ts : List Tm) (w : World) (h : IsAtoms w 0 w.heap.size A n c xs) (h' : IsTerms w 0 w.heap.size B m d ts) :
    Calls Tryz.prog 28 #[.slice A n c, .agg #[.string nm, .slice B m d]] w (BoolPost (hasE xs (nm, ts)) w) := by
  have hm := h.len; unfold maxLen at hm; have H := hid h; clear h; have H' := hid h'; clear h'; go_enter Tryz.func28, Tryz.ntmps28; have hw0 := below1 w (.cells #[.string nm, .slice B m d] 49); have X0 := hid (Box.new w (.string nm) (.slice B m d) 49); obtain ⟨W0, hW0⟩ : ∃ W0, w.alloc (.cells #[.string nm, .slice B m d] 49) = W0 := ⟨_, rfl⟩; go_wp2_with fail; rw [hW0] at hw0 X0; have HW := hid hw0; go_loopw [5] (fun i wr => ∃ k : Nat, k ≤ n ∧ i = .int .i64 k ∧ hasE (xs.drop k) (nm, ts) = hasE xs (nm, ts) ∧ Below W0.heap.size W0 wr) (fun i _ => n - (intOf i).toNat)
  case atStart => exact ⟨0, Nat.zero_le _, rfl, rfl, Below.refl _ _⟩
  case round =>
    obtain ⟨k, hk, rfl, hd, hb⟩ := hrel; have HD := hid hd; clear hd; have hb2 := belowThen HW.out hb; by_cases hlt : k < n
    · obtain ⟨p, q, hA, hlo, hhi, hg, hE⟩ := (H.out.below AtomE.stays hb2 (nl _)).at_ hlt
      obtain ⟨C, m', d', d1, d3, d4, d5⟩ := hE.out; clear hE; subst hA; have HG := hid hg; clear hg; have HT := hid (d5.keep (w' := wr.drew) (lo' := 0) (hi' := wr.drew.heap.size) (fun _ _ _ => rfl) (nl _) hb2.size); clear d5; have HT' := hid (show IsTerms wr.drew 0 wr.drew.heap.size B m d ts from H'.out.up hb2.drew); obtain ⟨r, e1, e2⟩ := X0.out.later hb; have hbd := hb.drew; go_wp2_with fail; go_region_with (go_at_call 73; refine (fsAtom_any _ _ _ _ _ _ _ _ q.2 ts _ HT.out HT'.out).mono ?_; rintro e w1 ⟨rfl, hb1⟩)
      all_goals go_wp2
      all_goals first
        | (go_ret; exact ⟨retB (hasE_yes HG.out qaz).symm, belowThen HW.out (belowThen hbd hb1)⟩)
        | (go_roundw
           case rel => exact ⟨k + 1, by omega, by go_num, hasE_on HG.out HD.out qaz, belowThen hbd hb1⟩
           case measure => exact qms)
    · have hl := hid H.out.1
      go_wp2; go_ret; exact ⟨retB (hasE_end hl.out HD.out hlt).symm, hb2⟩
theorem specAskVars_any (B : Option Addr) (m d : Nat) (xs : List Pt) (w : World) (h : IsParts w 0 w.heap.size B m d xs) :
    Calls Tryz.prog 26 #[.slice B m d] w fun e w' => ∃ A c, e = .returned (.slice A (askVarsB xs).length c) ∧ IsTexts w' 0 w'.heap.size A (askVarsB xs).length c (askVarsB xs) ∧ Below w.heap.size w w' := by
  have H := hid h; clear h; go_enter Tryz.func26, Tryz.ntmps26; go_wp2_with fail; refine (specAskOk_any B m d xs w H.out).mono ?_; rintro e w1 ⟨rfl, HB1⟩; cases hA : askB xs
  · have E := hid (show askVarsB xs = [] by unfold askVarsB; rw [hA]; rfl); clear hA
    go_wp2; go_ret; exact ⟨_, _, by rw [E.out]; rfl, by rw [E.out]; exact ⟨rfl, Nat.zero_le _, Nat.zero_le _, fun h0 => absurd h0 (Nat.lt_irrefl _)⟩, belowThen HB1 (below1 _ _)⟩
  · have E := hid (show askVarsB xs = partsT [] xs by unfold askVarsB; rw [hA]; rfl)
    have EA := askB_ok hA; have E3 := body_three EA.1; have E4 := H.out.1; clear hA; go_wp2_with fail; refine (l5Vars_any B m d xs w1 (H.out.up PartE.stays HB1) E3 qaa).mono ?_; rintro e w2 ⟨p, c, rfl, hT, hb2⟩; have HT := hid (hT.keep (lo' := 0) (hi' := w2.heap.size) TextE.stays (fun _ _ _ => rfl) (Nat.zero_le _) (nl _)); clear hT; go_wp2; go_ret; exact ⟨some p, c, by rw [E.out]; rfl, by rw [E.out]; exact HT.out, belowThen HB1 hb2⟩
end Go.Proofs.YtcigljngiemdeaaGreat
namespace Go.Proofs.YtcigljngiemdeaaGreat
open Go.RowKit
section
variable {w : World} {a b d : Nat} {A3 : Option Addr} {m c3 : Nat} {ls : List ByteArray} {g4 n : Nat} {A5 : Option Addr} {k c5 : Nat} {os os' : List ByteArray} {W W' : World}
end
end Go.Proofs.YtcigljngiemdeaaGreat

namespace Go.Proofs.YtcigljngiemdeaaGreat
open Go.RowKit
theorem asc_ne {Ls : List (List ByteArray)} (h : AscR Ls) {i : Nat} {x y : List ByteArray} (hx : Ls[i]? = some x) (hy : Ls[i + 1]? = some y) : x ≠ y := by
  obtain ⟨a1, a2⟩ := List.getElem?_eq_some_iff.1 hx; obtain ⟨b1, b2⟩ := List.getElem?_eq_some_iff.1 hy; have := List.pairwise_iff_getElem.1 h i (i + 1) a1 b1 qaa; rw [a2, b2] at this; intro e; subst e; exact List.lt_irrefl _ this
theorem row_fill {list : List At} {body : List Pt} {L : List ByteArray} (hL : L ∈ askRowsB list body) {q : Pt} (hq : q ∈ body) : hasE list (q.2.1, q.2.2.map (fillV (askVarsB body) L)) = !q.1 := by
  have h : factsB 300 list = true ∧ askB body = true := Classical.byContradiction fun h => by rw [askRows_no h] at hL; simp at hL
  have hm := row_holds_all hL hq rfl
  have e : q.2.2.map (fillV (askVarsB body) L) = q.2.2.map fun t => (false, if t.1 = true then (lookV (askVarsB body) L t.2).getD t.2 else t.2) := by
    obtain ⟨s, hs, rfl⟩ := (rows_mem h.1 h.2).1 hL; refine List.map_congr_left fun t ht => ?_; unfold fillV; by_cases h1 : t.1 = true
    · rw [if_pos h1, if_pos h1, look_map s t.2 ((mem_askVars h.2).2 ⟨q, hq, by rw [← h1]; exact ht⟩)]
      rfl
    · rw [if_neg h1, if_neg h1]
      exact Prod.ext (by simpa using h1) rfl
  rw [← e] at hm; rw [Bool.eq_iff_iff, hasE_mem, hm]; cases q.1 <;> simp
theorem askLaw_any (A : Option Addr) (n c : Nat) (w : World) (h : IsBytes w w.heap.size A n c) :
    Calls Tryz.prog 4 #[.slice A n c] w (BoolPost true w) := by
  have hn : n ≤ maxLen := qcs; unfold maxLen at hn; have H := hid h; clear h; go_enter Tryz.func4, Tryz.ntmps4; go_wp2_with fail
  all_goals try (go_ret; exact ⟨rfl, Below.refl _ _⟩)
  refine (drawAskL_any A n c w H.out).mono ?_; rintro e w1 ⟨L, k, d, xs, B, m, f, ps, ⟨rfl, hm5⟩, hI, hP, hb1⟩; have HI1 := hid hI; have HP1 := hid hP; have HW1 := hid hb1; obtain ⟨Ls, hLs⟩ : ∃ Ls, askRowsB xs ps = Ls := ⟨_, rfl⟩; obtain ⟨N, hN⟩ : ∃ N, Ls.length = N := ⟨_, rfl⟩; obtain ⟨vs, hvs⟩ : ∃ vs, askVarsB ps = vs := ⟨_, rfl⟩; obtain ⟨nv, hnv⟩ : ∃ nv, vs.length = nv := ⟨_, rfl⟩; have HNN12 := ask_rows_few xs ps; rw [hLs, hN] at HNN12; have HLS := hid hLs; have HN := hid hN; have HVS := hid hvs; have HNV := hid hnv; clear hI hP hb1 hLs hN hvs hnv H; go_wp2_with fail; refine (implAsk_rows L k d xs B m f ps w1 HI1.out HP1.out).mono ?_; rintro e w2 ⟨A2, c2, rfl, M2, hb2⟩
  rw [HLS.out, HN.out] at M2 ⊢; have HI2 := hid (HI1.out.up AtomE.stays hb2); have HP2 := hid (HP1.out.up PartE.stays hb2); have HW2 := hid (belowThen HW1.out hb2); have HM2 := hid M2; clear hb2 M2 HI1 HP1 HW1; go_wp2_with fail; refine (implAskVars_any B m f ps w2 HP2.out).mono ?_; rintro e w3 ⟨vv, rfl, hvv, hb3⟩; obtain ⟨V3, vc3, rfl, hV3⟩ := texts_any hvv; rw [HVS.out, HNV.out] at hV3; rw [HVS.out, HNV.out]; have HI3 := hid (HI2.out.up AtomE.stays hb3); have HP3 := hid (HP2.out.up PartE.stays hb3); have HM3 := hid (HM2.out.up RowE.stays hb3); have HW3 := hid (belowThen HW2.out hb3); have HV3 := hid hV3
  clear hb3 hvv hV3 HI2 HP2 HM2 HW2
  have same : ∀ W, Below w3.heap.size w3 W → Calls Tryz.prog 11 #[.slice L k d, .slice B m f] W (fun e w' => ∃ p4 c4, e = .returned (.slice (some p4) N c4) ∧ Below w3.heap.size w3 w' ∧ Calls Tryz.prog 24 #[.slice A2 N c2, .slice (some p4) N c4] w' fun e2 w2 => e2 = .returned (.bool true) ∧ Below w3.heap.size w3 w2) := by
    intro W hW; refine (specAsk_any L k d xs B m f ps W (HI3.out.up AtomE.stays hW) (HP3.out.up PartE.stays hW)).mono ?_; rintro e w6 ⟨p4, c4, rfl, M4, hb6⟩; rw [HLS.out, HN.out] at M4 ⊢; refine ⟨p4, c4, rfl, belowThen hW hb6, ?_⟩; refine (fsRows_same _ _ _ _ _ _ Ls w6 (HM3.out.up RowE.stays (belowThen hW hb6)) M4).mono ?_; rintro e w7 ⟨rfl, hb7⟩; exact ⟨rfl, belowThen (belowThen hW hb6) hb7⟩
  have sameV : ∀ W, Below w3.heap.size w3 W → Calls Tryz.prog 26 #[.slice B m f] W (fun e w' => ∃ A4 c4, e = .returned (.slice A4 nv c4) ∧ Below w3.heap.size w3 w' ∧ Calls Tryz.prog 25 #[.slice V3 nv vc3, .slice A4 nv c4] w' fun e2 w2 => e2 = .returned (.bool true) ∧ Below w3.heap.size w3 w2) := by
    intro W hW; refine (specAskVars_any B m f ps W (HP3.out.up PartE.stays hW)).mono ?_; rintro e w6 ⟨A4, c4, rfl, M4, hb6⟩; rw [HVS.out, HNV.out] at M4 ⊢; refine ⟨A4, c4, rfl, belowThen hW hb6, ?_⟩; refine (fsTexts_any _ _ _ _ _ _ vs vs w6 (HV3.out.up TextE.stays (belowThen hW hb6)) M4).mono ?_; rintro e w7 ⟨he, hb7⟩; exact ⟨by rw [he]; simp, belowThen (belowThen hW hb6) hb7⟩
  have SAME := hid same; have SAMEV := hid sameV; clear same sameV; go_wp2_with fail; refine (SAME.out w3 (Below.refl _ _)).mono ?_; rintro e w4 ⟨p4, c4, rfl, hb4, hcall⟩; have HC := hid hcall; clear hcall; go_wp2_with fail; refine HC.out.mono ?_; rintro e w5 ⟨rfl, hb5⟩; have HB5 := hid hb5; clear hb4 hb5 HC; go_wp2_with fail; refine (SAMEV.out w5 HB5.out).mono ?_; rintro e w6 ⟨A6, c6, rfl, hb6, hcall⟩; have HC := hid hcall; clear hcall; go_wp2_with fail; refine HC.out.mono ?_; rintro e w7 ⟨rfl, hb7⟩; have HB7 := hid hb7; clear hb6 hb7 HC HB5; obtain ⟨q1, hq1⟩ : ∃ q, askB ps = q := ⟨_, rfl⟩; have HQ1 := hid hq1
  clear hq1; go_wp2_with fail; refine (specAskOk_any B m f ps w7 (HP3.out.up PartE.stays HB7.out)).mono ?_; rintro e w8 ⟨rfl, hb8⟩; rw [HQ1.out]; have HB8 := hid (belowThen HB7.out hb8); clear hb8 HB7; cases q1
  · go_wp2_with fail
    refine (SAME.out w8 HB8.out).mono ?_; rintro e w9 ⟨p9, c9, rfl, hb9, hcall⟩; have HC := hid hcall; clear hcall; go_wp2_with fail; refine HC.out.mono ?_; rintro e w10 ⟨rfl, hb10⟩; have HB10 := hid hb10; clear hb9 hb10 HC; go_wp2_with fail; refine (SAMEV.out w10 HB10.out).mono ?_; rintro e w11 ⟨A11, c11, rfl, hb11, hcall⟩; have HC := hid hcall; clear hcall; go_wp2_with fail; refine HC.out.mono ?_; rintro e w12 ⟨rfl, hb12⟩; go_wp2; go_ret; exact ⟨rfl, belowThen HW3.out hb12⟩
  · clear SAME SAMEV
    have HI8 := hid (HI3.out.up AtomE.stays HB8.out); have HP8 := hid (HP3.out.up PartE.stays HB8.out); have HM8 := hid (HM3.out.up RowE.stays HB8.out); have HW8 := hid (belowThen HW3.out HB8.out); have HV8 := hid (HV3.out.up TextE.stays HB8.out); clear HI3 HP3 HM3 HW3 HV3 HB8; go_wp2; go_loopw [7] (fun i wr => ∃ j : Nat, j ≤ N ∧ i = .int .i64 (j : Int) ∧ Below w8.heap.size w8 wr) (fun i _ => N - (intOf i).toNat)
    case atStart => exact ⟨0, Nat.zero_le _, rfl, Below.refl _ _⟩
    case round =>
      obtain ⟨j, hj, rfl, hb⟩ := hrel; have HB := hid hb; clear hb; by_cases hlt : j < N
      · have hltI : (j : Int) < (N : Int) := qaa
        obtain ⟨wo, hwo⟩ : ∃ wo : World, wo = wr := ⟨_, rfl⟩; subst hwo; obtain ⟨p, R, hA, _, hpb, hR, A1, c1, y1, t1⟩ := (HM8.out.up RowE.stays HB.out).at_ hlt; subst hA; rw [Nat.mul_one] at y1; have hRm : R ∈ askRowsB xs ps := by rw [HLS.out]; exact List.mem_of_getElem? hR
        have hRl : R.length = nv := by rw [ask_rows_len R hRm, HVS.out, HNV.out]
        rw [hRl] at y1 t1; have hdr := (HB.out).drew; have HRM := hid hRm; have HRR := hid hR; have HD := hid hdr
        have cellR : ∀ U, Below w8.heap.size w8 U → U.cell? (p.add j) = some (.slice A1 nv c1) := by
          intro U hU; obtain ⟨p', R', hA', _, hpb', hR', A', c', y', t'⟩ := (HM8.out).at_ hlt; injection hA' with hA'; subst hA'; rw [Nat.mul_one] at y'; have z1 := (HB.out.cell (p := p.add j) qef).symm.trans y1; exact (hU.cell (p := p.add j) qef).trans z1
        have CR := hid cellR; have HRT : Hid (∀ U, Below wo.heap.size wo U → IsTexts U 0 U.heap.size A1 nv c1 R) := hid (fun U hU => t1.up TextE.stays hU); clear hR hRm hRl hdr cellR t1 hpb; by_cases hj0 : j = 0
        · have hj0I : ¬ (0 : Int) < (j : Int) := qaa
          clear hj0; go_wp2_with fail; refine wp_region_held_drew (S := fun U => U.cell? (p.add j) = some (.slice A1 nv c1)) qae (CR.out _ HD.out) ?_; obtain ⟨V, hVe⟩ : ∃ V, wo.drew = V := ⟨_, rfl⟩; have HBV := hid (show Below w8.heap.size w8 V by rw [← hVe]; exact HD.out); have HOV := hid (show Below wo.heap.size wo V by rw [← hVe]; exact (Below.refl wo.heap.size wo).drew); rw [hVe]; clear hVe y1; intro hS_; refine tk 0 (.slice (some p) N c2) hS_ ?_; refine tk 1 (.int .i64 (j : Int)) hS_ ?_; refine tk 2 (.pointer (some (p.add j))) hS_ ?_; refine tk 3 (.slice A1 nv c1) hS_ ?_; refine tk 4 (.int .i64 (nv : Int)) hS_ ?_
          refine tk 5 (.slice V3 nv vc3) hS_ ?_; refine tk 6 (.int .i64 (nv : Int)) hS_ ?_; refine tk 7 (.bool false) hS_ ?_; refine tk 8 (.bool false) hS_ ?_; refine tk 9 (.int .i64 (j : Int)) hS_ ?_; refine tk 10 (.bool false) hS_ ?_ (hy := Or.inl ⟨by rfl, fun w_ hSw_ => by go_simp <;> omega⟩); refine tk 11 (.bool false) hS_ ?_; refine sk 12 hS_ ?_; refine sk 13 hS_ ?_; refine sk 14 hS_ ?_; refine sk 15 hS_ ?_; refine sk 16 hS_ ?_; refine sk 17 hS_ ?_; refine sk 18 hS_ ?_; refine sk 19 hS_ ?_; refine sk 20 hS_ ?_; refine sk 21 hS_ ?_; refine tk 22 (.bool false) hS_ ?_; refine tk 23 (.bool false) hS_ ?_
          refine wpAnyH_done qae ?_ _; clear hS_ HD; have HI10 := hid (HI8.out.up AtomE.stays HBV.out); have HP10 := hid (HP8.out.up PartE.stays HBV.out); have HV10 := hid (HV8.out.up TextE.stays HBV.out); go_wp2_with fail; go_loopw [8] (fun i wr => ∃ kk : Nat, kk ≤ m ∧ i = .int .i64 (kk : Int) ∧ Below w8.heap.size w8 wr ∧ Below wo.heap.size wo wr) (fun i _ => m - (intOf i).toNat)
          case atStart => exact ⟨0, Nat.zero_le _, rfl, HBV.out, HOV.out⟩
          case round =>
            obtain ⟨kk, hkk, rfl, hbk, hok⟩ := hrel; have HK := hid hbk; have HOK := hid hok; clear hbk hok HI10 HP10 HV10; by_cases hlk : kk < m
            · have hlkI : (kk : Int) < (m : Int) := qaa
              obtain ⟨pB, x, hB, _, hpB, hx, hE⟩ := (HP8.out.up PartE.stays HK.out).at_ hlk; obtain ⟨A', n', c', z0, z1, z2, z3, z4⟩ := hE.out; subst hB; obtain ⟨xb, xn, xts⟩ := x; have hxm := List.mem_of_getElem? hx
              have h3 : n' ≤ 1048576 := by
                have h1 : xts.length ≤ 3 := (ask_facts HQ1.out).2.1 _ hxm; have h2 : xts.length = n' := z4.1; omega
              have hfill := row_fill HRM.out hxm; rw [HVS.out] at hfill; have HFL := hid hfill; have HSX := hid (fun s hs => ask_words R HRM.out s hs); have sw : ∀ U, Below wr.heap.size wr U → U.cell? (pB.add (kk * 3)) = some (.bool xb) ∧ U.cell? ⟨(pB.add (kk * 3)).block, (pB.add (kk * 3)).off + 1, none⟩ = some (.string xn) ∧ U.cell? ⟨(pB.add (kk * 3)).block, (pB.add (kk * 3)).off + 2, none⟩ = some (.slice A' n' c') ∧ U.cell? (p.add j) = some (.slice A1 nv c1) := fun U hU => ⟨Holds.below hU _ _ z0, Holds.below hU _ _ z1, Holds.below hU _ _ z3, CR.out U (belowThen HK.out hU)⟩; have SW := hid sw; have HT4 := hid z4
              have hxn : xn.size ≤ maxLen := z2; clear sw hx hE hxm hfill z0 z1 z2 z3 z4 hpB; go_wp2_with fail; refine wp_region_held_drew (S := fun U => U.cell? (pB.add (kk * 3)) = some (.bool xb) ∧ U.cell? ⟨(pB.add (kk * 3)).block, (pB.add (kk * 3)).off + 1, none⟩ = some (.string xn) ∧ U.cell? ⟨(pB.add (kk * 3)).block, (pB.add (kk * 3)).off + 2, none⟩ = some (.slice A' n' c') ∧ U.cell? (p.add j) = some (.slice A1 nv c1)) qae (SW.out _ (Below.refl wr.heap.size wr).drew) ?_; obtain ⟨X, hXe⟩ : ∃ X, wr.drew = X := ⟨_, rfl⟩; have HWX := hid (show Below wr.heap.size wr X by rw [← hXe]; exact (Below.refl wr.heap.size wr).drew)
              have HBX := hid (show Below w8.heap.size w8 X by rw [← hXe]; exact HK.out.drew); rw [hXe]; clear hXe; intro hS_; refine tk 0 (.slice L k d) hS_ ?_; refine tk 1 (.slice (some pB) m f) hS_ ?_; refine tk 2 (.int .i64 (kk : Int)) hS_ ?_; refine tk 3 (.pointer (some (pB.add (kk * 3)))) hS_ ?_; refine tk 4 (.pointer (some ⟨(pB.add (kk * 3)).block, (pB.add (kk * 3)).off + 1, none⟩)) hS_ ?_; refine tk 5 (.agg #[.string xn, .slice A' n' c']) hS_ ?_; refine tk 6 (.slice V3 nv vc3) hS_ ?_; refine tk 7 (.slice (some p) N c2) hS_ ?_; refine tk 8 (.int .i64 (j : Int)) hS_ ?_; refine tk 9 (.pointer (some (p.add j))) hS_ ?_
              refine tk 10 (.slice A1 nv c1) hS_ ?_; refine tk 13 (.slice (some pB) m f) hS_ ?_; refine tk 14 (.int .i64 (kk : Int)) hS_ ?_; refine tk 15 (.pointer (some (pB.add (kk * 3)))) hS_ ?_; refine tk 16 (.pointer (some (pB.add (kk * 3)))) hS_ ?_; refine tk 17 (.bool xb) hS_ ?_; refine rd1 11 fun K_ hK_ => ?_; go_simp; go_at_call 29; refine (fsFill_any xn A' n' c' xts V3 nv vc3 vs A1 c1 R X (HT4.out.up HWX.out) (HV8.out.up TextE.stays HBX.out) (HRT.out X (belowThen HOK.out HWX.out)) h3 HSX.out).mono ?_; rintro e w11 ⟨A9, n9, c9, rfl, ht9, hb11⟩; have HB11 := hid (belowThen HWX.out hb11)
              have HT9 := hid (ht9.keep (w' := w11) (lo' := 0) (hi' := w11.heap.size) (fun _ _ _ => rfl) (Nat.zero_le _) (nl _)); refine hK_.out _ _ (SW.out _ HB11.out) fun hS_ => ?_; clear hK_ ht9 hb11
              (try simp only [Act.put, List.setIfInBounds_toArray, List.set_cons_zero, List.set_cons_succ])
              refine rd1 12 fun K_ hK_ => ?_; go_simp; go_at_call 28; refine (fsHas_any L k d xs xn A9 n9 c9 (xts.map (fillV vs R)) w11 (HI8.out.up AtomE.stays (belowThen HK.out HB11.out)) HT9.out).mono ?_; rintro e w12 ⟨rfl, hb12⟩; rw [HFL.out]; have HB12 := hid (belowThen HB11.out hb12); refine hK_.out _ _ (SW.out _ HB12.out) fun hS_ => ?_; clear hK_ hb12
              (try simp only [Act.put, List.setIfInBounds_toArray, List.set_cons_zero, List.set_cons_succ])
              refine tk 18 (.bool false) hS_ ?_ (hy := Or.inl ⟨by rfl, fun w_ hSw_ => by cases xb <;> go_simp⟩); refine wpAnyH_done qae ?_ _; have HBE := hid (belowThen HK.out HB12.out); have HOE := hid (belowThen HOK.out HB12.out); clear hS_ HB11 HB12 HT9 HT4 SW HWX HBX HFL HSX; go_wp2_with fail; refine ⟨⟨kk + 1, by omega, by go_num, HBE.out, HOE.out⟩, by simp [intOf]; omega⟩
            · have hnlk : ¬ (kk : Int) < (m : Int) := qaa
              go_wp2_with fail; refine ⟨⟨j + 1, by omega, by go_num, HK.out⟩, by simp [intOf]; omega⟩
        · obtain ⟨ji, hji⟩ : ∃ ji, ji + 1 = j := ⟨j - 1, by omega⟩
          have hj0I : (0 : Int) < (j : Int) := qaa; have hjs : (j : Int) - 1 = (ji : Int) := qaa; have hjiN : ji < N := qaa; have hjiI : (ji : Int) < (N : Int) := qaa; obtain ⟨p', R0, hA', _, hpb', hR0, A0, c0, y0', t0'⟩ := (HM8.out).at_ hjiN; injection hA' with hA'; subst hA'; rw [Nat.mul_one] at y0'; have hR0l : R0.length = nv := by rw [ask_rows_len R0 (by rw [HLS.out]; exact List.mem_of_getElem? hR0), HVS.out, HNV.out]
          rw [hR0l] at y0' t0'; have hne : R0 ≠ R := asc_ne (i := ji) (by have := askRows_asc xs ps; rwa [HLS.out] at this) hR0 (by rw [hji]; exact HRR.out); have C0 := hid (fun (U : World) (hU : Below w8.heap.size w8 U) => (hU.cell (p := p.add ji) qef).trans y0'); have T0 := hid (fun (U : World) (hU : Below w8.heap.size w8 U) => t0'.up TextE.stays hU); have HNE := hid (show decide (R0 = R) = false from decide_eq_false hne); have HJS := hid hjs; clear y0' t0' hR0 hR0l hne hpb' hjs; go_wp2_with fail; refine wp_region_held_drew (S := fun U => U.cell? (p.add j) = some (.slice A1 nv c1) ∧ U.cell? (p.add ji) = some (.slice A0 nv c0)) qae ⟨CR.out _ HD.out, C0.out _ HD.out⟩ ?_
          obtain ⟨V0, hVe⟩ : ∃ V, wo.drew = V := ⟨_, rfl⟩; have HBV0 := hid (show Below w8.heap.size w8 V0 by rw [← hVe]; exact HD.out); have HOV0 := hid (show Below wo.heap.size wo V0 by rw [← hVe]; exact (Below.refl wo.heap.size wo).drew); rw [hVe]; clear hVe y1; intro hS_; refine tk 0 (.slice (some p) N c2) hS_ ?_; refine tk 1 (.int .i64 (j : Int)) hS_ ?_; refine tk 2 (.pointer (some (p.add j))) hS_ ?_; refine tk 3 (.slice A1 nv c1) hS_ ?_; refine tk 4 (.int .i64 (nv : Int)) hS_ ?_; refine tk 5 (.slice V3 nv vc3) hS_ ?_; refine tk 6 (.int .i64 (nv : Int)) hS_ ?_; refine tk 7 (.bool false) hS_ ?_; refine tk 8 (.bool false) hS_ ?_
          refine tk 9 (.int .i64 (j : Int)) hS_ ?_; refine tk 10 (.bool true) hS_ ?_ (hy := Or.inl ⟨by rfl, fun w_ hSw_ => by go_simp <;> omega⟩); refine tk 11 (.bool true) hS_ ?_; refine tk 12 (.slice (some p) N c2) hS_ ?_; refine tk 13 (.int .i64 (j : Int)) hS_ ?_; refine tk 14 (.int .i64 (ji : Int)) hS_ ?_ (hy := Or.inl ⟨by rfl, fun w_ hSw_ => by rw [← HJS.out]; go_simp; rw [IntKind.wrap_i64]; omega⟩); refine tk 15 (.pointer (some (p.add ji))) hS_ ?_; refine tk 16 (.slice A0 nv c0) hS_ ?_; refine tk 17 (.slice (some p) N c2) hS_ ?_; refine tk 18 (.int .i64 (j : Int)) hS_ ?_; refine tk 19 (.pointer (some (p.add j))) hS_ ?_
          refine tk 20 (.slice A1 nv c1) hS_ ?_; refine rd1 21 fun K_ hK_ => ?_; go_simp; go_at_call 25; refine (fsTexts_any A0 A1 nv c0 nv c1 R0 R V0 (T0.out V0 HBV0.out) (HRT.out V0 HOV0.out)).mono ?_; rintro e V ⟨rfl, hb10⟩; rw [HNE.out]; have HBV := hid (belowThen HBV0.out hb10); have HOV := hid (belowThen HOV0.out hb10); refine hK_.out _ _ ⟨CR.out _ HBV.out, C0.out _ HBV.out⟩ fun hS_ => ?_; clear hK_ hb10
          (try simp only [Act.put, List.setIfInBounds_toArray, List.set_cons_zero, List.set_cons_succ])
          refine tk 22 (.bool false) hS_ ?_; refine tk 23 (.bool false) hS_ ?_; refine wpAnyH_done qae ?_ _; clear hS_ HD HBV0 HOV0 C0 T0 HNE HJS; have HI10 := hid (HI8.out.up AtomE.stays HBV.out); have HP10 := hid (HP8.out.up PartE.stays HBV.out); have HV10 := hid (HV8.out.up TextE.stays HBV.out); go_wp2_with fail; go_loopw [8] (fun i wr => ∃ kk : Nat, kk ≤ m ∧ i = .int .i64 (kk : Int) ∧ Below w8.heap.size w8 wr ∧ Below wo.heap.size wo wr) (fun i _ => m - (intOf i).toNat)
          case atStart => exact ⟨0, Nat.zero_le _, rfl, HBV.out, HOV.out⟩
          case round =>
            obtain ⟨kk, hkk, rfl, hbk, hok⟩ := hrel; have HK := hid hbk; have HOK := hid hok; clear hbk hok HI10 HP10 HV10; by_cases hlk : kk < m
            · have hlkI : (kk : Int) < (m : Int) := qaa
              obtain ⟨pB, x, hB, _, hpB, hx, hE⟩ := (HP8.out.up PartE.stays HK.out).at_ hlk; obtain ⟨A', n', c', z0, z1, z2, z3, z4⟩ := hE.out; subst hB; obtain ⟨xb, xn, xts⟩ := x; have hxm := List.mem_of_getElem? hx
              have h3 : n' ≤ 1048576 := by
                have h1 : xts.length ≤ 3 := (ask_facts HQ1.out).2.1 _ hxm; have h2 : xts.length = n' := z4.1; omega
              have hfill := row_fill HRM.out hxm; rw [HVS.out] at hfill; have HFL := hid hfill; have HSX := hid (fun s hs => ask_words R HRM.out s hs); have sw : ∀ U, Below wr.heap.size wr U → U.cell? (pB.add (kk * 3)) = some (.bool xb) ∧ U.cell? ⟨(pB.add (kk * 3)).block, (pB.add (kk * 3)).off + 1, none⟩ = some (.string xn) ∧ U.cell? ⟨(pB.add (kk * 3)).block, (pB.add (kk * 3)).off + 2, none⟩ = some (.slice A' n' c') ∧ U.cell? (p.add j) = some (.slice A1 nv c1) := fun U hU => ⟨Holds.below hU _ _ z0, Holds.below hU _ _ z1, Holds.below hU _ _ z3, CR.out U (belowThen HK.out hU)⟩; have SW := hid sw; have HT4 := hid z4
              have hxn : xn.size ≤ maxLen := z2; clear sw hx hE hxm hfill z0 z1 z2 z3 z4 hpB; go_wp2_with fail; refine wp_region_held_drew (S := fun U => U.cell? (pB.add (kk * 3)) = some (.bool xb) ∧ U.cell? ⟨(pB.add (kk * 3)).block, (pB.add (kk * 3)).off + 1, none⟩ = some (.string xn) ∧ U.cell? ⟨(pB.add (kk * 3)).block, (pB.add (kk * 3)).off + 2, none⟩ = some (.slice A' n' c') ∧ U.cell? (p.add j) = some (.slice A1 nv c1)) qae (SW.out _ (Below.refl wr.heap.size wr).drew) ?_; obtain ⟨X, hXe⟩ : ∃ X, wr.drew = X := ⟨_, rfl⟩; have HWX := hid (show Below wr.heap.size wr X by rw [← hXe]; exact (Below.refl wr.heap.size wr).drew)
              have HBX := hid (show Below w8.heap.size w8 X by rw [← hXe]; exact HK.out.drew); rw [hXe]; clear hXe; intro hS_; refine tk 0 (.slice L k d) hS_ ?_; refine tk 1 (.slice (some pB) m f) hS_ ?_; refine tk 2 (.int .i64 (kk : Int)) hS_ ?_; refine tk 3 (.pointer (some (pB.add (kk * 3)))) hS_ ?_; refine tk 4 (.pointer (some ⟨(pB.add (kk * 3)).block, (pB.add (kk * 3)).off + 1, none⟩)) hS_ ?_; refine tk 5 (.agg #[.string xn, .slice A' n' c']) hS_ ?_; refine tk 6 (.slice V3 nv vc3) hS_ ?_; refine tk 7 (.slice (some p) N c2) hS_ ?_; refine tk 8 (.int .i64 (j : Int)) hS_ ?_; refine tk 9 (.pointer (some (p.add j))) hS_ ?_
              refine tk 10 (.slice A1 nv c1) hS_ ?_; refine tk 13 (.slice (some pB) m f) hS_ ?_; refine tk 14 (.int .i64 (kk : Int)) hS_ ?_; refine tk 15 (.pointer (some (pB.add (kk * 3)))) hS_ ?_; refine tk 16 (.pointer (some (pB.add (kk * 3)))) hS_ ?_; refine tk 17 (.bool xb) hS_ ?_; refine rd1 11 fun K_ hK_ => ?_; go_simp; go_at_call 29; refine (fsFill_any xn A' n' c' xts V3 nv vc3 vs A1 c1 R X (HT4.out.up HWX.out) (HV8.out.up TextE.stays HBX.out) (HRT.out X (belowThen HOK.out HWX.out)) h3 HSX.out).mono ?_; rintro e w11 ⟨A9, n9, c9, rfl, ht9, hb11⟩; have HB11 := hid (belowThen HWX.out hb11)
              have HT9 := hid (ht9.keep (w' := w11) (lo' := 0) (hi' := w11.heap.size) (fun _ _ _ => rfl) (Nat.zero_le _) (nl _)); refine hK_.out _ _ (SW.out _ HB11.out) fun hS_ => ?_; clear hK_ ht9 hb11
              (try simp only [Act.put, List.setIfInBounds_toArray, List.set_cons_zero, List.set_cons_succ])
              refine rd1 12 fun K_ hK_ => ?_; go_simp; go_at_call 28; refine (fsHas_any L k d xs xn A9 n9 c9 (xts.map (fillV vs R)) w11 (HI8.out.up AtomE.stays (belowThen HK.out HB11.out)) HT9.out).mono ?_; rintro e w12 ⟨rfl, hb12⟩; rw [HFL.out]; have HB12 := hid (belowThen HB11.out hb12); refine hK_.out _ _ (SW.out _ HB12.out) fun hS_ => ?_; clear hK_ hb12
              (try simp only [Act.put, List.setIfInBounds_toArray, List.set_cons_zero, List.set_cons_succ])
              refine tk 18 (.bool false) hS_ ?_ (hy := Or.inl ⟨by rfl, fun w_ hSw_ => by cases xb <;> go_simp⟩); refine wpAnyH_done qae ?_ _; have HBE := hid (belowThen HK.out HB12.out); have HOE := hid (belowThen HOK.out HB12.out); clear hS_ HB11 HB12 HT9 HT4 SW HWX HBX HFL HSX; go_wp2_with fail; refine ⟨⟨kk + 1, by omega, by go_num, HBE.out, HOE.out⟩, by simp [intOf]; omega⟩
            · have hnlk : ¬ (kk : Int) < (m : Int) := qaa
              go_wp2_with fail; refine ⟨⟨j + 1, by omega, by go_num, HK.out⟩, by simp [intOf]; omega⟩
      · have hnltI : ¬ (j : Int) < (N : Int) := qaa
        go_wp2; go_ret; exact ⟨rfl, belowThen HW8.out HB.out⟩
end Go.Proofs.YtcigljngiemdeaaGreat
