/-
  Texts of one claim, put together.
-/
import Derived.Test.YtcigljngiemdeaaGreatAo0
import Derived.Test.YtcigljngiemdeaaGreatAo15
import Derived.Test.YtcigljngiemdeaaGreatAo4
import Derived.Deep.AppendLies
import Derived.Test.YtcigljngiemdeaaGreatAo14
set_option maxRecDepth 100000
set_option maxHeartbeats 8000000
namespace Go.Proofs.YtcigljngiemdeaaGreat
open Go.RowKit
theorem row_set {W : World} {base size k : Nat} {e : TypeId} {v : Value} {xs : List Value} (h : W.ownsRow base e size v k xs) {p : Addr} (hp : v.ownBlock ≠ some p.block) (u : Value) : (W.setCell p u).ownsRow base e size v k xs :=
  h.kept (row := some p.block) ⟨rfl, rfl, rfl, by rw [size_setCell]; exact nl _, fun i _ hne => hs_ _ _ _ i (fun e => hne (by rw [e]))⟩ (.inr hp)
structure FS (w : World) (nm : ByteArray) (A1 : Option Addr) (n1 c1 : Nat) (A : Option Addr) (n c : Nat) (B : Option Addr) (m d : Nat) (v : Value) (us : List Tm) (W : World) : Prop where
  xa : Blk W w.heap.size 49 #[.string nm, .slice A1 n1 c1]
  xb : Blk W (w.heap.size + 1) 128 #[.slice A n c, .slice B m d]
  xr : Blk W (w.heap.size + 2) 49 #[.string ⟨#[]⟩, .slice none 0 0]
  xo : Blk W (w.heap.size + 3) 49 #[.string nm, v]
  row : W.ownsRow (w.heap.size + 4) 59 2 v us.length (tcs us)
  gr : Below w.heap.size w W
  hs : w.heap.size + 4 ≤ W.heap.size
section
variable {w W W' W9 : World} {nm : ByteArray} {A1 A B : Option Addr} {n1 c1 n c m d : Nat} {v v' : Value} {us : List Tm} {u : Tm} {ob : Obj}
theorem FS.below (h : FS w nm A1 n1 c1 A n c B m d v us W) (hb : Below W.heap.size W W') : FS w nm A1 n1 c1 A n c B m d v us W' := by
  have hs := hb.size; have h4 := h.hs; exact ⟨h.xa.below hb, h.xb.below hb, h.xr.below hb, h.xo.below hb, ownsRow_up h.row hb, h.gr.trans (hb.mono qaa), by omega⟩
theorem FS.ne (h : FS w nm A1 n1 c1 A n c B m d v us W) {b : Nat} (hb : b < w.heap.size + 4) : v.ownBlock ≠ some b := fun e => by
  have := (h.row.lt b e).1; omega
theorem FS.kept (h : FS w nm A1 n1 c1 A n c B m d v us W) (hg : (W.alloc ob).grownBy W9 v.ownBlock) : W9.cell? ⟨w.heap.size + 3, 1, none⟩ = some v :=
  ((h.xo.alloc ob).kept hg (fun e => h.ne qaa e.symm)).cell 1
theorem FS.froz (h : FS w nm A1 n1 c1 A n c B m d v us W) (hg : (W.alloc ob).grownBy W9 v.ownBlock) : W9.frozen? ⟨w.heap.size + 3, 1, none⟩ = false :=
  ((h.xo.alloc ob).kept hg (fun e => h.ne qaa e.symm)).frozen 1
theorem FS.more (h : FS w nm A1 n1 c1 A n c B m d v us W) {us' : List Tm} (hu : us' = us ++ [u]) (hown : W9.ownsRow (w.heap.size + 4) 59 2 v' (us.length + 1) (tcs us ++ [.bool u.1, .string u.2])) (hgrow : (W.alloc ob).grownBy W9 v.ownBlock) :
    FS w nm A1 n1 c1 A n c B m d v' us' (W9.setCell ⟨w.heap.size + 3, 1, none⟩ v') := by
  subst hu; have h2 := h.below (below1 W ob); have hgs := hgrow.size; have h4 := h2.hs; have hw4 : w.heap.size ≤ W.heap.size := by have := h.hs; omega
  refine ⟨(h2.xa.kept hgrow (fun e => h.ne qaa e.symm)).far (p := ⟨w.heap.size + 3, 1, none⟩) (by show w.heap.size ≠ w.heap.size + 3; omega) _, (h2.xb.kept hgrow (fun e => h.ne qaa e.symm)).far (p := ⟨w.heap.size + 3, 1, none⟩) (by show w.heap.size + 1 ≠ w.heap.size + 3; omega) _, (h2.xr.kept hgrow (fun e => h.ne qaa e.symm)).far (p := ⟨w.heap.size + 3, 1, none⟩) (by show w.heap.size + 2 ≠ w.heap.size + 3; omega) _, (h2.xo.kept hgrow (fun e => h.ne qaa e.symm)).set 1 _, ?_, ?_, by rw [size_setCell]; omega⟩
  · rw [List.length_append]
    have e : tcs (us ++ [u]) = tcs us ++ [.bool u.1, .string u.2] := by unfold tcs; rw [List.flatMap_append, List.flatMap_singleton]
    rw [e]; exact row_set hown (p := ⟨w.heap.size + 3, 1, none⟩) (fun e => by have := (hown.lt _ e).1; simp at this) _
  · refine (h2.gr.grown hgrow qaf (fun k e => ?_)).setCell (p := ⟨w.heap.size + 3, 1, none⟩) (Nat.le_add_right _ _) _
    have := (h.row.lt k e).1; omega
end
theorem l4Fill_any (nm : ByteArray) (A1 : Option Addr) (n1 c1 : Nat) (ts : List Tm) (A : Option Addr) (n c : Nat) (B : Option Addr) (m d : Nat) (b : Bd) (w : World) (h1 : IsTerms w 0 w.heap.size A1 n1 c1 ts)
    (h3 : IsTexts w 0 w.heap.size A n c (b.map (·.1))) (h4 : IsTexts w 0 w.heap.size B m d (b.map (·.2))) (hb : ∀ q ∈ b, q.2.size ≤ maxLen) (hmax : n1 ≤ 1048576) :
    Calls Tryz.prog 169 #[.agg #[.string nm, .slice A1 n1 c1], .agg #[.slice A n c, .slice B m d]] w fun e w' => ∃ A' n' c', e = .returned (.agg #[.string nm, .slice A' n' c']) ∧ IsTerms w' w.heap.size w'.heap.size A' n' c' (ts.map (fillT b)) ∧ Below w.heap.size w w' := by
  have hc1 := h1.2.1; have hm1 := h1.2.2.1; unfold maxLen at hm1; have L1 := hid h1.1; have HS1 := hid (terms_sizes h1); have H1 := hid h1; have H3 := hid h3; have H4 := hid h4; have HB := hid hb; obtain ⟨i0, hi, hz, hsz, hby⟩ := info_parts Tryz.infoTerm; have HI := hid hi; have HZ := hid hz; have HSZ := hid hsz; have HYY := hid hby; clear hi hz hsz hby; have hw2 := below2 w (.cells #[.string nm, .slice A1 n1 c1] 49) (.cells #[.slice A n c, .slice B m d] 128); obtain ⟨w2, hq2⟩ : ∃ w2, (w.alloc (.cells #[.string nm, .slice A1 n1 c1] 49)).alloc (.cells #[.slice A n c, .slice B m d] 128) = w2 := ⟨_, rfl⟩
  have xa := (Blk.new w 49 #[.string nm, .slice A1 n1 c1]).alloc (.cells #[.slice A n c, .slice B m d] 128); have xb := Blk.made (b := w.heap.size + 1) (w.alloc (.cells #[.string nm, .slice A1 n1 c1] 49)) 128 #[.slice A n c, .slice B m d] qad; rw [hq2] at hw2 xa xb; have hz2 : w2.heap.size = w.heap.size + 2 := by rw [← hq2]; simp
  have hb4 := below2 w2 (.cells #[.string ⟨#[]⟩, .slice none 0 0] 49) (.cells #[.string nm, .slice none 0 0] 49); have xr := (Blk.made (b := w.heap.size + 2) w2 49 #[.string ⟨#[]⟩, .slice none 0 0] hz2.symm).alloc (.cells #[.string nm, .slice none 0 0] 49); have xo := Blk.made (b := w.heap.size + 3) (w2.alloc (.cells #[.string ⟨#[]⟩, .slice none 0 0] 49)) 49 #[.string nm, .slice none 0 0] qaf
  obtain ⟨w4, hq4⟩ : ∃ w4, (w2.alloc (.cells #[.string ⟨#[]⟩, .slice none 0 0] 49)).alloc (.cells #[.string nm, .slice none 0 0] 49) = w4 := ⟨_, rfl⟩; rw [hq4] at hb4 xr xo; have hz4 : w4.heap.size = w.heap.size + 4 := by rw [← hq4]; simp; omega
  have M0 : FS w nm A1 n1 c1 A n c B m d (.slice none 0 0) [] w4 := ⟨xa.below hb4, xb.below hb4, xr, xo, ⟨rfl, .inl ⟨rfl, rfl⟩⟩, belowThen hw2 hb4, by omega⟩; have HM0 := hid M0; have HQ2 := hid hq2; have HQ4 := hid hq4; have z0 := xa.cell 0; have z1 := xa.cell 1; clear h1 h3 h4 hb xa xb xr xo hw2 hb4 hq2 hq4 M0; go_enter Tryz.func169, Tryz.ntmps169; go_wp2_with (first | rw [HQ2.out] | rw [HQ4.out]); rw [show w.heap.size + 2 + 1 = w.heap.size + 3 from rfl]; go_loopw [6] (fun i wr => ∃ (k : Nat) (v : Value), k ≤ n1 ∧ i = .int .i64 (k : Int) ∧ FS w nm A1 n1 c1 A n c B m d v ((ts.take k).map (fillT b)) wr) (fun i _ => n1 - (intOf i).toNat)
  case atStart => exact ⟨0, _, Nat.zero_le _, rfl, HM0.out⟩
  case round =>
    clear HM0 HQ2 HQ4 hz2 hz4 z0 z1; obtain ⟨k, v, hk, rfl, hM⟩ := hrel; have hlen : ((ts.take k).map (fillT b)).length = k := by rw [List.length_map, List.length_take, L1.out]; omega
    obtain ⟨us, hus⟩ : ∃ us, (ts.take k).map (fillT b) = us := ⟨_, rfl⟩; rw [hus] at hM hlen; have HUS := hid hus; clear hus; subst hlen; have y0 : wr.cell? ⟨w.heap.size, 0, none⟩ = some (.string nm) := hM.xa.cell 0; have y1 : wr.cell? ⟨w.heap.size, 1, none⟩ = some (.slice A1 n1 c1) := hM.xa.cell 1; by_cases hlt : us.length < n1
    · have hltI : (us.length : Int) < (n1 : Int) := qaa
      obtain ⟨p, t, hA, plo, phi, hg, d1, d2, d3⟩ := (H1.out.below hM.gr (nl _)).at_ hlt; subst hA; have hpb : p.block < w.heap.size := phi; obtain ⟨tv, s⟩ := t; have HG := hid hg; have hb5 := below1 wr (.cells #[.bool false, .string s] 59); obtain ⟨w5, hq5⟩ : ∃ w5, wr.alloc (.cells #[.bool false, .string s] 59) = w5 := ⟨_, rfl⟩; have x5 : Blk w5 wr.heap.size 59 #[.bool false, .string s] := by rw [← hq5]; exact Blk.new wr _ _
      have hz5 : wr.heap.size + 1 ≤ w5.heap.size := by rw [← hq5]; simp
      rw [hq5] at hb5; have hM5 := hM.below hb5; have hpw : p.block < wr.heap.size := by have := hM.hs; omega
      have e1 : w5.cell? ⟨w.heap.size, 1, none⟩ = some (.slice (some p) n1 c1) := hM5.xa.cell 1; have e2 : w5.cell? ⟨w.heap.size + 1, 0, none⟩ = some (.slice A n c) := hM5.xb.cell 0; have e3 : w5.cell? ⟨w.heap.size + 1, 1, none⟩ = some (.slice B m d) := hM5.xb.cell 1; have e4 : w5.cell? (p.add (us.length * 2)) = some (.bool tv) := (hb5.cell (p := p.add (us.length * 2)) (by rw [block_add]; exact hpw)).trans d1; have e5 : w5.cell? ⟨(p.add (us.length * 2)).block, (p.add (us.length * 2)).off + 1, none⟩ = some (.string s) := (hb5.cell (p := ⟨(p.add (us.length * 2)).block, (p.add (us.length * 2)).off + 1, none⟩) (by show (p.add (us.length * 2)).block < _; rw [block_add]; exact hpw)).trans d2
      have e6 : w5.cell? ⟨wr.heap.size, 0, none⟩ = some (.bool false) := x5.cell 0; have e7 : w5.cell? ⟨wr.heap.size, 1, none⟩ = some (.string s) := x5.cell 1; have e8 : w5.cell? ⟨w.heap.size + 3, 1, none⟩ = some v := hM5.xo.cell 1; have HMR := hid hM; have HM5 := hid hM5; have HX5 := hid x5; have HQ5 := hid hq5; have HB5 := hid hb5; have hgrow4 := hM.hs; clear hM hM5 x5 hq5 hg plo phi hb5; cases tv
      · -- no variable
        have HR := HM5; have HGT := hid (show (ts.take (us.length + 1)).map (fillT b) = us ++ [(false, s)] from by rw [List.take_add_one, HG.out, List.map_append, HUS.out]; rfl); go_wp2_with (first | rw [HQ5.out] | (at_builtin; refine wpList_append_lies _ rfl _ _ 47 rfl (w.heap.size + 4) 59 i0 _ 2 24 Tryz.underlying47 HI.out HZ.out HSZ.out HYY.out rfl qal _ _ _ rfl (HR.out.row.alloc _) ⟨w5.heap.size, 0, none⟩ 1 1 [.bool false, .string s] rfl rfl (two_new _ _ _ _) qai qaa qac qaa qdy (w5.heap.size + 1) qad ?_; intro g' cap' w9 hown' hgrow' hat' _; have HN := hid (HR.out.more HGT.out hown' hgrow'); have cE9 : w9.cell? ⟨w.heap.size + 3, 1, none⟩ = some v := HR.out.kept hgrow'; have cF9 := HR.out.froz hgrow'; clear hown' hgrow' hat'))
        go_roundw
        case rel => exact ⟨us.length + 1, _, by omega, by go_num, HN.out⟩
        case measure => exact qms
      · -- a variable
        have g1 : w5.drew.cell? ⟨w.heap.size, 1, none⟩ = some (.slice (some p) n1 c1) := e1; have g2 : w5.drew.cell? ⟨w.heap.size + 1, 0, none⟩ = some (.slice A n c) := e2; have g3 : w5.drew.cell? ⟨w.heap.size + 1, 1, none⟩ = some (.slice B m d) := e3; have g5 : w5.drew.cell? ⟨(p.add (us.length * 2)).block, (p.add (us.length * 2)).off + 1, none⟩ = some (.string s) := e5; have hzz : w.heap.size ≤ w5.drew.heap.size := by show w.heap.size ≤ w5.heap.size; omega
        have J3 := hid ((H3.out.below TextE.stays (HM5.out.gr.drew) (nl _)).keep TextE.stays (w' := w5.drew) (lo' := 0) (hi' := w5.drew.heap.size) (fun _ _ _ => rfl) (nl _) hzz); have J4 := hid ((H4.out.below TextE.stays (HM5.out.gr.drew) (nl _)).keep TextE.stays (w' := w5.drew) (lo' := 0) (hi' := w5.drew.heap.size) (fun _ _ _ => rfl) (nl _) hzz); obtain ⟨sv, hsv⟩ : ∃ sv, (getW b s).getD ⟨#[]⟩ = sv := ⟨_, rfl⟩; have HSV := hid hsv
        have HGT := hid (show (ts.take (us.length + 1)).map (fillT b) = us ++ [(false, sv)] from by
          rw [List.take_add_one, HG.out, List.map_append, HUS.out, ← hsv]; show _ ++ [(false, wordT b (true, s))] = _; unfold wordT; rw [if_pos rfl]; rfl)
        clear hsv; go_wp2_with (first | rw [HQ5.out]); refine wp_region_held_drew (S := fun W => W.cell? ⟨w.heap.size, 1, none⟩ = some (.slice (some p) n1 c1) ∧ W.cell? ⟨w.heap.size + 1, 0, none⟩ = some (.slice A n c) ∧ W.cell? ⟨w.heap.size + 1, 1, none⟩ = some (.slice B m d) ∧ W.cell? ⟨(p.add (us.length * 2)).block, (p.add (us.length * 2)).off + 1, none⟩ = some (.string s)) qae ⟨g1, g2, g3, g5⟩ ?_; intro hS_; refine tk 0 (.agg #[.slice A n c, .slice B m d]) hS_ ?_; refine tk 1 (.pointer (some ⟨w.heap.size, 1, none⟩)) hS_ ?_; refine tk 2 (.slice (some p) n1 c1) hS_ ?_; refine tk 3 (.int .i64 (us.length : Int)) hS_ ?_
        refine tk 4 (.pointer (some (p.add (us.length * 2)))) hS_ ?_; refine tk 5 (.pointer (some ⟨(p.add (us.length * 2)).block, (p.add (us.length * 2)).off + 1, none⟩)) hS_ ?_; refine tk 6 (.string s) hS_ ?_; refine rd1 7 fun K_ hK_ => ?_; go_simp; go_at_call 85; refine (l4Get_any A B n c m d b s _ J3.out J4.out).mono ?_; rintro e w6 ⟨rfl, hb6⟩; rw [HSV.out]; have hz6 := hb6.size; have hz6b : w5.heap.size ≤ w6.heap.size := hz6; have hM6 := HM5.out.below (undrew hb6); have x6 := HX5.out.below (undrew hb6); have r1 : w6.cell? ⟨w.heap.size, 1, none⟩ = some (.slice (some p) n1 c1) := hM6.xa.cell 1
        have r2 : w6.cell? ⟨w.heap.size + 1, 0, none⟩ = some (.slice A n c) := hM6.xb.cell 0; have r3 : w6.cell? ⟨w.heap.size + 1, 1, none⟩ = some (.slice B m d) := hM6.xb.cell 1; have r5 : w6.cell? ⟨(p.add (us.length * 2)).block, (p.add (us.length * 2)).off + 1, none⟩ = some (.string s) := (hb6.cell (p := ⟨(p.add (us.length * 2)).block, (p.add (us.length * 2)).off + 1, none⟩) (by show (p.add (us.length * 2)).block < w5.heap.size; rw [block_add]; omega)).trans g5; have r6 : w6.cell? ⟨wr.heap.size, 0, none⟩ = some (.bool false) := x6.cell 0; have r7 : w6.cell? ⟨wr.heap.size, 1, none⟩ = some (.string s) := x6.cell 1
        have r8 := x6.frozen 1; refine hK_.out _ _ ⟨r1, r2, r3, r5⟩ fun hS_ => ?_; clear hK_; refine tk 8 (.tuple #[.string sv, .bool (getW b s).isSome]) hS_ ?_; refine tk 9 (.string sv) hS_ ?_; refine tk 10 (.bool (getW b s).isSome) hS_ ?_; refine tk 11 (.pointer (some ⟨wr.heap.size, 1, none⟩)) hS_ ?_; refine rd1 12 fun K_ hK_ => ?_; go_simp; obtain ⟨w7, hq7⟩ : ∃ w7, w6.setCell ⟨wr.heap.size, 1, none⟩ (.string sv) = w7 := ⟨_, rfl⟩; have hb7 : Below wr.heap.size wr w7 := by rw [← hq7]; exact (belowThen HB5.out ((undrew hb6).mono (nl _))).setCell (p := ⟨wr.heap.size, 1, none⟩) (nl _) _
        have x7 : Blk w7 wr.heap.size 59 #[.bool false, .string sv] := by rw [← hq7]; exact x6.set 1 _
        rw [hq7]; clear hq7 x6 hM6; have hM7 := HMR.out.below hb7; have s1 : w7.cell? ⟨w.heap.size, 1, none⟩ = some (.slice (some p) n1 c1) := hM7.xa.cell 1; have s2 : w7.cell? ⟨w.heap.size + 1, 0, none⟩ = some (.slice A n c) := hM7.xb.cell 0; have s3 : w7.cell? ⟨w.heap.size + 1, 1, none⟩ = some (.slice B m d) := hM7.xb.cell 1; have s5 : w7.cell? ⟨(p.add (us.length * 2)).block, (p.add (us.length * 2)).off + 1, none⟩ = some (.string s) := (hb7.cell (p := ⟨(p.add (us.length * 2)).block, (p.add (us.length * 2)).off + 1, none⟩) (by show (p.add (us.length * 2)).block < wr.heap.size; rw [block_add]; omega)).trans d2
        have s6 : w7.cell? ⟨wr.heap.size, 0, none⟩ = some (.bool false) := x7.cell 0; have s7 : w7.cell? ⟨wr.heap.size, 1, none⟩ = some (.string sv) := x7.cell 1; have s8 : w7.cell? ⟨w.heap.size + 3, 1, none⟩ = some v := hM7.xo.cell 1; refine hK_.out _ _ ⟨s1, s2, s3, s5⟩ fun hS_ => ?_; clear hK_
        (try simp only [Act.put, List.setIfInBounds_toArray, List.set_cons_zero, List.set_cons_succ])
        refine wpAnyH_done qae ?_ _; have HR := hid hM7; clear hM7 hS_ r1 r2 r3 r5 r6 r7 r8 g1 g2 g3 g5 e1 e2 e3 e4 e5 e6 e7 e8 J3 J4; go_wp2_with (first | (at_builtin; refine wpList_append_lies _ rfl _ _ 47 rfl (w.heap.size + 4) 59 i0 _ 2 24 Tryz.underlying47 HI.out HZ.out HSZ.out HYY.out rfl qal _ _ _ rfl (HR.out.row.alloc _) ⟨w7.heap.size, 0, none⟩ 1 1 [.bool false, .string sv] rfl rfl (two_new _ _ _ _) qai qaa qac qaa qdy (w7.heap.size + 1) qad ?_; intro g' cap' w9 hown' hgrow' hat' _; have HN := hid (HR.out.more HGT.out hown' hgrow'); have cE9 : w9.cell? ⟨w.heap.size + 3, 1, none⟩ = some v := HR.out.kept hgrow'; have cF9 := HR.out.froz hgrow'; clear hown' hgrow' hat'))
        go_roundw
        case rel => exact ⟨us.length + 1, _, by omega, by go_num, HN.out⟩
        case measure => exact qms
    · have hall : ts.map (fillT b) = us := by rw [← HUS.out, List.take_of_length_le (by rw [L1.out]; omega)]
      have hsz : ∀ t ∈ us, t.2.size ≤ maxLen := fun t ht => by
        rw [← hall] at ht; obtain ⟨u, hu, rfl⟩ := List.mem_map.1 ht; exact wordT_size (K := b.length) ⟨nl _, HB.out⟩ (HS1.out u hu)
      have y2 := hM.xo.cell 0; have y3 : wr.cell? ⟨w.heap.size + 3, 1, none⟩ = some v := hM.xo.cell 1; have y4 := hM.xr.frozen 0; have y5 := hM.xr.frozen 1; have y6 := hM.xr.cell 0; have y7 := hM.xr.cell 1
      obtain ⟨A', n', c', rfl, hT⟩ : ∃ A' n' c', v = .slice A' n' c' ∧ IsTerms wr (w.heap.size + 4) wr.heap.size A' n' c' us := by
        have hrow := hM.row; rcases hrow.2 with ⟨rfl, h0⟩ | ⟨g, cap, cur, rfl, _, _⟩
        · exact ⟨none, 0, 0, rfl, ⟨h0, nl _, by unfold maxLen; omega, fun hp => by omega⟩⟩
        · exact ⟨_, _, _, rfl, (own_terms (lo := w.heap.size + 4) hrow rfl hsz (nl _)).1⟩
      have HT := hid hT; have HGR := hid hM.gr; have HHS := hM.hs; clear hM hT; go_wp2; have hk2 : ∀ q : Nat, q ≠ w.heap.size + 2 → ((wr.setCell ⟨w.heap.size + 2, 0, none⟩ (.string nm)).setCell ⟨w.heap.size + 2, 1, none⟩ (.slice A' n' c')).heap[q]? = wr.heap[q]? := fun q hq => (hs_ _ _ _ q hq).trans (hs_ _ _ _ q hq); refine bodyPost_ret (v := .agg #[.string nm, .slice A' n' c']) (by simp [results, Tryz.results169, go_sem, y6, y7]) rfl ⟨A', n', c', rfl, ?_, (HGR.out.setCell (p := ⟨w.heap.size + 2, 0, none⟩) (Nat.le_add_right _ _) _).setCell (p := ⟨w.heap.size + 2, 1, none⟩) (Nat.le_add_right _ _) _⟩
      rw [hall]; exact HT.out.keep (fun q h1 h2 => cb_ (hk2 _ qaa)) (Nat.le_add_right _ _) qba
theorem Tryz.infoBind : (Tryz.prog.info? 128).map (fun i => (i.zero, i.size, i.bytes)) = some (some (.agg #[.slice none 0 0, .slice none 0 0]), 2, 48) := by kernel_rfl
theorem info_parts3 {P : Program} {t : TypeId} {z : Value} {a b : Nat} (h : (P.info? t).map (fun i => (i.zero, i.size, i.bytes)) = some (some z, a, b)) : ∃ i, P.info? t = some i ∧ i.zero = some z ∧ i.size = a ∧ i.bytes = b := by
  cases hi : P.info? t with
  | none => rw [hi] at h; cases h
  | some i =>
    rw [hi] at h; simp only [Option.map_some, Option.some.injEq, Prod.mk.injEq] at h; exact ⟨i, rfl, h.1, h.2.1, h.2.2⟩
theorem all_take {α : Type} (f : α → Bool) {xs : List α} {k : Nat} {x : α} (h : xs[k]? = some x) : (xs.take (k + 1)).all f = ((xs.take k).all f && f x) := by
  rw [List.take_add_one, h, List.all_append]; simp
theorem filter_take {α : Type} (f : α → Bool) {xs : List α} {k : Nat} {x : α} (h : xs[k]? = some x) : (xs.take (k + 1)).filter f = (xs.take k).filter f ++ if f x then [x] else [] := by
  rw [List.take_add_one, h, List.filter_append]; cases hf : f x <;> simp [hf]
theorem atoms_sizes {w : World} {lo hi n c : Nat} {A : Option Addr} {xs : List At} (h : IsAtoms w lo hi A n c xs) : ∀ f ∈ xs, ∀ u ∈ f.2, u.2.size ≤ maxLen := by
  intro f hf; obtain ⟨i, hi⟩ := List.getElem?_of_mem hf; have hl := (List.getElem?_eq_some_iff.1 hi).1; obtain ⟨p, q, _, _, _, hg, hE⟩ := h.at_ (i := i) (by have := h.1; omega); rw [hi] at hg; injection hg with hg; subst hg; obtain ⟨_, _, _, _, _, _, h4⟩ := hE.out; exact terms_sizes h4
theorem l4Without_any (A : Option Addr) (n c : Nat) (xs : List At) (B : Option Addr) (m d : Nat) (qs : List Pt) (C : Option Addr) (l e : Nat) (bs : List Bd) (w : World) (h1 : IsAtoms w 0 w.heap.size A n c xs) (h2 : IsParts w 0 w.heap.size B m d qs) (h3 : IsBinds w 0 w.heap.size C l e bs)
    (hr : risesB xs = true) (hv : ∀ b ∈ bs, ∀ q ∈ b, q.2.size ≤ maxLen) (h64 : ∀ q ∈ qs, q.2.2.length ≤ 64) (hmax : l ≤ 8589934592) :
    Calls Tryz.prog 127 #[.slice A n c, .slice B m d, .slice C l e] w fun e w' => ∃ D r f, e = .returned (.slice D r f) ∧ IsBinds w' 0 w'.heap.size D r f (bs.filter (okB xs qs)) ∧ Below w.heap.size w w' := by
  have hm := h2.len; have hl := h3.len; unfold maxLen at hm hl; have L2 := hid h2.1; have L3 := hid h3.1; have H1 := hid h1; have H2 := hid h2; have H3 := hid h3; have HRR := hid hr; have HV := hid hv; have H64 := hid h64; clear h1 h2 h3 hr hv h64; obtain ⟨i0, hi, hz, hsz, hby⟩ := info_parts3 Tryz.infoBind; have HI := hid hi; have HZ := hid hz; have HSZ := hid hsz; have HYY := hid hby; clear hi hz hsz hby; have hb1 := below1 w (.cells #[] 128); have hg0 : GR 128 2 BindV w w.heap.size (.slice (some ⟨w.heap.size, 0, none⟩) 0 0) [] (w.alloc (.cells #[] 128)) := GR.start _ ⟨rfl, .inr ⟨w.heap.size, 0, #[], rfl, nl _, heap_alloc_new w _, nl _, by unfold maxLen; omega, rfl, rfl⟩⟩ (nl _) hb1
  obtain ⟨w1, hq1⟩ : ∃ w1, w.alloc (.cells #[] 128) = w1 := ⟨_, rfl⟩; rw [hq1] at hg0 hb1; have HG0 := hid hg0; have HQ1 := hid hq1; clear hb1 hg0 hq1; go_enter Tryz.func127, Tryz.ntmps127; go_wp2_with (rw [HQ1.out]); go_loopw [7, 8] (fun o i wr => ∃ (k : Nat) (D : Option Addr) (f : Nat) (zs : List (Ex Bd)), k ≤ l ∧ i = .int .i64 (k : Int) ∧ o = .slice D zs.length f ∧ zs.length ≤ k ∧ zs.map (·.x) = (bs.take k).filter (okB xs qs) ∧ GR 128 2 BindV w w.heap.size (.slice D zs.length f) zs wr) (fun _ i _ => l - (intOf i).toNat)
  case atStart => exact ⟨0, _, 0, [], Nat.zero_le _, rfl, rfl, nl _, rfl, HG0.out⟩
  case round =>
    obtain ⟨k, D, f, zs, hk, rfl, rfl, hzk, hzs, hG⟩ := hrel; have HZS := hid hzs; have HG := hid hG; have hgs : w.heap.size ≤ wr.heap.size := hG.gr.size; clear HG0 HQ1 hzs; by_cases hlt : k < l
    · have hltI : (k : Int) < (l : Int) := qaa
      obtain ⟨p2, b, hC, blo, bhi, hgb, hE2⟩ := (H3.out.below BindE.stays hG.gr (nl _)).at_ hlt; obtain ⟨A6, n6, c6, B6, m6, d6, g1, g2, g3, g4⟩ := hE2.out; subst hC; have hpb2 : p2.block < w.heap.size := bhi; have HGB := hid hgb; have J3 := hid g3; have J4 := hid g4; have HVB := hid (HV.out b (List.mem_of_getElem? hgb)); clear hE2 hgb g3 g4 blo bhi hG; go_wp2; obtain ⟨wz, rfl⟩ : ∃ wz : World, wz = wr := ⟨_, rfl⟩; go_loopw [9, 10] (fun x i wr => ∃ i' : Nat, i' ≤ m ∧ i = .int .i64 (i' : Int) ∧ x = .bool ((qs.take i').all fun q => !(q.1 && hasB xs (fillA q.2 b))) ∧ Below wz.heap.size wz wr) (fun _ i _ => m - (intOf i).toNat)
      case atStart => exact ⟨0, Nat.zero_le _, rfl, rfl, Below.refl _ _⟩
      case round =>
        obtain ⟨i, hi, rfl, rfl, hb⟩ := hrel; have hbz := hb.size; have hbw := HG.out.gr.trans (hb.mono hgs); have s1 : wr.cell? (p2.add (k * 2)) = some (.slice A6 n6 c6) := (hb.cell (p := p2.add (k * 2)) qcx).trans g1; have s2 : wr.cell? ⟨(p2.add (k * 2)).block, (p2.add (k * 2)).off + 1, none⟩ = some (.slice B6 m6 d6) := (hb.cell (p := ⟨(p2.add (k * 2)).block, (p2.add (k * 2)).off + 1, none⟩) (by show (p2.add (k * 2)).block < _; rw [block_add]; omega)).trans g2; by_cases hlm : i < m
        · have hlmI : (i : Int) < (m : Int) := qaa
          obtain ⟨p, q, hB, plo, phi, hgq, hE⟩ := (H2.out.below PartE.stays hbw (nl _)).at_ hlm; obtain ⟨A5, n5, c5, d1, d2, d3, d4, d5⟩ := hE.out; subst hB; have hpb : p.block < w.heap.size := phi; have HGQ := hid hgq; have J5 := hid d5; have hn5 : n5 ≤ 64 := by rw [← d5.1]; exact H64.out q (List.mem_of_getElem? hgq)
          obtain ⟨nt, nm, ts⟩ := q; obtain ⟨acc, hacc⟩ : ∃ acc, ((qs.take i).all fun q => !(q.1 && hasB xs (fillA q.2 b))) = acc := ⟨_, rfl⟩; have HACC := hid hacc; have hnext := hid (show ((qs.take (i + 1)).all fun q => !(q.1 && hasB xs (fillA q.2 b))) = (acc && !(nt && hasB xs (fillA (nm, ts) b))) from by rw [all_take _ HGQ.out, HACC.out]); rw [hacc]; clear hE hgq d5 hacc plo phi
          cases acc with
          | false =>
            go_wp2_with fail; go_quiet (fail)
            all_goals go_wp2
            all_goals go_roundw
            all_goals first
              | exact ⟨i + 1, by omega, by go_num, by rw [hnext.out]; rfl, ⟨hb.os, hb.tape, hb.output, hb.size, hb.block⟩⟩
              | (simp [intOf]; omega)
          | true =>
            cases nt with
            | false =>
              go_wp2_with fail; go_quiet (fail)
              all_goals go_wp2
              all_goals go_roundw
              all_goals first
                | exact ⟨i + 1, by omega, by go_num, by rw [hnext.out]; rfl, ⟨hb.os, hb.tape, hb.output, hb.size, hb.block⟩⟩
                | (simp [intOf]; omega)
            | true =>
              have x1 : wr.drew.cell? (p.add (i * 3)) = some (.bool true) := d1; have x2 : wr.drew.cell? ⟨(p.add (i * 3)).block, (p.add (i * 3)).off + 1, none⟩ = some (.string nm) := d2; have x3 : wr.drew.cell? ⟨(p.add (i * 3)).block, (p.add (i * 3)).off + 2, none⟩ = some (.slice A5 n5 c5) := d4; have x4 : wr.drew.cell? (p2.add (k * 2)) = some (.slice A6 n6 c6) := s1; have x5 : wr.drew.cell? ⟨(p2.add (k * 2)).block, (p2.add (k * 2)).off + 1, none⟩ = some (.slice B6 m6 d6) := s2; have hdz : w.heap.size ≤ wr.drew.heap.size := by show w.heap.size ≤ wr.heap.size; omega
              have K5 := hid (J5.out.keep (w' := wr.drew) (lo' := 0) (hi' := wr.drew.heap.size) (fun _ _ _ => rfl) (nl _) hdz); have K3 := hid ((J3.out.below TextE.stays hb qaa).keep TextE.stays (w' := wr.drew) (lo' := 0) (hi' := wr.drew.heap.size) (fun _ _ _ => rfl) (nl _) hdz); have K4 := hid ((J4.out.below TextE.stays hb qaa).keep TextE.stays (w' := wr.drew) (lo' := 0) (hi' := wr.drew.heap.size) (fun _ _ _ => rfl) (nl _) hdz); obtain ⟨hs, hhs⟩ : ∃ hs, hasB xs (fillA (nm, ts) b) = hs := ⟨_, rfl⟩; have HHS := hid hhs; clear hhs; go_wp2_with fail; refine wp_region_held_drew (S := fun W => W.cell? (p.add (i * 3)) = some (.bool true) ∧ W.cell? ⟨(p.add (i * 3)).block, (p.add (i * 3)).off + 1, none⟩ = some (.string nm) ∧ W.cell? ⟨(p.add (i * 3)).block, (p.add (i * 3)).off + 2, none⟩ = some (.slice A5 n5 c5) ∧ W.cell? (p2.add (k * 2)) = some (.slice A6 n6 c6) ∧ W.cell? ⟨(p2.add (k * 2)).block, (p2.add (k * 2)).off + 1, none⟩ = some (.slice B6 m6 d6)) qae ⟨x1, x2, x3, x4, x5⟩ ?_
              intro hS_; refine tk 0 (.bool true) hS_ ?_; refine tk 1 (.bool true) hS_ ?_; refine tk 2 (.slice (some p) m d) hS_ ?_; refine tk 3 (.int .i64 (i : Int)) hS_ ?_; refine tk 4 (.pointer (some (p.add (i * 3)))) hS_ ?_; refine tk 5 (.pointer (some (p.add (i * 3)))) hS_ ?_; refine tk 6 (.bool true) hS_ ?_; refine tk 7 (.bool false) hS_ ?_; refine tk 8 (.bool false) hS_ ?_; refine tk 9 (.slice A n c) hS_ ?_; refine tk 10 (.slice (some p) m d) hS_ ?_; refine tk 11 (.int .i64 (i : Int)) hS_ ?_; refine tk 12 (.pointer (some (p.add (i * 3)))) hS_ ?_; refine tk 13 (.pointer (some ⟨(p.add (i * 3)).block, (p.add (i * 3)).off + 1, none⟩)) hS_ ?_
              refine tk 14 (.agg #[.string nm, .slice A5 n5 c5]) hS_ ?_; refine tk 15 (.slice (some p2) l e) hS_ ?_; refine tk 16 (.int .i64 (k : Int)) hS_ ?_; refine tk 17 (.pointer (some (p2.add (k * 2)))) hS_ ?_; refine tk 18 (.agg #[.slice A6 n6 c6, .slice B6 m6 d6]) hS_ ?_; refine rd1 19 fun K_ hK_ => ?_; go_simp; go_at_call 169; refine (l4Fill_any nm A5 n5 c5 ts A6 n6 c6 B6 m6 d6 b _ K5.out K3.out K4.out HVB.out qaa).mono ?_; rintro e w6 ⟨A7, n7, c7, rfl, h7, hb6⟩; have hz6 := hb6.size; have K7 := hid h7; have b9 : ∀ q : Addr, q.block < w.heap.size → w6.cell? q = wr.drew.cell? q := fun q hq => hb6.cell qaa
              have HB6 := hid hb6; clear h7 hb6; refine hK_.out _ _ ⟨(b9 (p.add (i * 3)) qbb).trans x1, (b9 ⟨(p.add (i * 3)).block, (p.add (i * 3)).off + 1, none⟩ qbr).trans x2, (b9 ⟨(p.add (i * 3)).block, (p.add (i * 3)).off + 2, none⟩ qbr).trans x3, (b9 (p2.add (k * 2)) (by rw [block_add]; exact hpb2)).trans x4, (b9 ⟨(p2.add (k * 2)).block, (p2.add (k * 2)).off + 1, none⟩ (by show (p2.add (k * 2)).block < _; rw [block_add]; exact hpb2)).trans x5⟩ fun hS_ => ?_; clear hK_
              (try simp only [Act.put, List.setIfInBounds_toArray, List.set_cons_zero, List.set_cons_succ])
              refine rd1 20 fun K_ hK_ => ?_; go_simp; go_at_call 79; have K1 := hid ((H1.out.below AtomE.stays (hbw.drew.trans (HB6.out.mono hdz)) (nl _)).keep AtomE.stays (w' := w6) (lo' := 0) (hi' := w6.heap.size) (fun _ _ _ => rfl) (nl _) qaa); refine (l3Has_any A n c xs nm A7 n7 c7 (ts.map (fillT b)) _ K1.out (K7.out.keep (fun _ _ _ => rfl) (Nat.zero_le _) (nl _)) HRR.out).mono ?_; rintro e w8 ⟨rfl, hb8⟩; have hfa : hasB xs (nm, ts.map (fillT b)) = hs := HHS.out; rw [hfa]; have hz8 := hb8.size; have b8 : ∀ q : Addr, q.block < w.heap.size → w8.cell? q = wr.drew.cell? q := fun q hq => (hb8.cell qaa).trans (b9 q hq)
              have HB8 := hid hb8; clear hb8; refine hK_.out _ _ ⟨(b8 (p.add (i * 3)) qbb).trans x1, (b8 ⟨(p.add (i * 3)).block, (p.add (i * 3)).off + 1, none⟩ qbr).trans x2, (b8 ⟨(p.add (i * 3)).block, (p.add (i * 3)).off + 2, none⟩ qbr).trans x3, (b8 (p2.add (k * 2)) (by rw [block_add]; exact hpb2)).trans x4, (b8 ⟨(p2.add (k * 2)).block, (p2.add (k * 2)).off + 1, none⟩ (by show (p2.add (k * 2)).block < _; rw [block_add]; exact hpb2)).trans x5⟩ fun hS_ => ?_; clear hK_; refine tk 21 (.bool (!hs)) hS_ ?_; refine tk 22 (.bool (!hs)) hS_ ?_; refine tk 23 (.bool (!hs)) hS_ ?_; refine tk 24 (.bool (!hs)) hS_ ?_; refine wpAnyH_done qae ?_ _
              have HBB := hid (show Below wz.heap.size wz w8 from (hb.trans ((undrew HB6.out).mono hbz)).trans (HB8.out.mono (by have : wr.heap.size ≤ w6.heap.size := hz6; omega))); clear hS_ b8 b9 x1 x2 x3 x4 x5 s1 s2 d1 d2 d3 d4 K1 K3 K4 K5 K7; go_wp2; go_roundw
              case rel => exact ⟨i + 1, by omega, by go_num, by rw [hnext.out, HHS.out]; simp, HBB.out⟩
              case measure => exact qms
        · have him : i = m := qaa
          subst him; have hok : ((qs.take i).all fun q => !(q.1 && hasB xs (fillA q.2 b))) = okB xs qs b := by unfold okB; rw [List.take_of_length_le (by rw [L2.out]; omega)]
          rw [hok]; obtain ⟨ok, hok2⟩ : ∃ ok, okB xs qs b = ok := ⟨_, rfl⟩; have HOK := hid hok2; rw [hok2]; have HGW := hid (HG.out.below BindV.keep hb); have hnew := hid (show BindV wr 0 w.heap.size [.slice A6 n6 c6, .slice B6 m6 d6] b from ⟨A6, n6, c6, B6, m6, d6, rfl, J3.out.below TextE.stays hb qaa, J4.out.below TextE.stays hb qaa⟩); have hzl : zs.length ≤ 8589934592 := qaa; clear hok hok2 hb hbw
          cases ok with
          | false =>
            have hn := hid (show zs.map (·.x) = (bs.take (k + 1)).filter (okB xs qs) from by rw [filter_take _ HGB.out, HOK.out, HZS.out]; simp); go_wp2; go_roundw
            case rel => exact ⟨k + 1, D, f, zs, by omega, by go_num, rfl, by omega, hn.out, HGW.out⟩
            case measure => exact qms
          | true =>
            have HMORE := hid (show ∀ (g' cap' : Nat) (w9 : World), w9.ownsRow w.heap.size 128 2 (.slice (some ⟨g', 0, none⟩) (zs.length + 1) cap') (zs.length + 1) (ecells zs ++ [.slice A6 n6 c6, .slice B6 m6 d6]) → (wr.alloc (.cells #[.slice A6 n6 c6, .slice B6 m6 d6] 128)).grownBy w9 (Value.slice D zs.length f).ownBlock → ((Value.slice D zs.length f).ownBlock = some g' ∨ g' = wr.heap.size + 1) → GR 128 2 BindV w w.heap.size (.slice (some ⟨g', 0, none⟩) (zs.length + 1) cap') (zs ++ [⟨0, w.heap.size, [.slice A6 n6 c6, .slice B6 m6 d6], b⟩]) w9 from fun g' cap' w9 hown' hgrow' hat' =>
              HGW.out.more (x := ⟨0, w.heap.size, [.slice A6 n6 c6, .slice B6 m6 d6], b⟩) BindV.keep (below1 wr _) rfl (BindV.keep _ _ _ _ _ _ hnew.out (fun q _ h2 => (below1 wr _).block q (by have h3 : q < w.heap.size := h2; omega))) qaf (fun g hg => .inr ((HGW.out.K.lt g hg).1)) hown' hgrow' (hat'.imp id (fun e => by rw [e]; simp)))
            go_wp2_with (first | (at_builtin; refine wpList_append_lies _ rfl _ _ 124 rfl w.heap.size 128 i0 _ 2 48 Tryz.underlying124 HI.out HZ.out HSZ.out HYY.out rfl qal _ _ _ rfl (HGW.out.K.alloc _) ⟨wr.heap.size, 0, none⟩ 1 1 [.slice A6 n6 c6, .slice B6 m6 d6] rfl rfl (two_new _ _ _ _) qai qaa qac qaa qaf (wr.heap.size + 1) qad ?_; intro g' cap' w9 hown' hgrow' hat' _; have HN := hid (HMORE.out _ _ _ hown' hgrow' hat'); clear hown' hgrow' hat')); have hn := hid (show (zs ++ [(⟨0, w.heap.size, [.slice A6 n6 c6, .slice B6 m6 d6], b⟩ : Ex Bd)]).map (·.x) = (bs.take (k + 1)).filter (okB xs qs) from by rw [filter_take _ HGB.out, HOK.out, List.map_append, HZS.out]; simp)
            go_roundw
            case rel => exact ⟨k + 1, _, _, zs ++ [(⟨0, w.heap.size, [.slice A6 n6 c6, .slice B6 m6 d6], b⟩ : Ex Bd)], by omega, by go_num, by rw [List.length_append]; rfl, by rw [List.length_append]; simp; omega, hn.out, by rw [List.length_append]; exact HN.out⟩
            case measure => exact qms
    · have hall : (bs.take k).filter (okB xs qs) = bs.filter (okB xs qs) := by rw [List.take_of_length_le (by rw [L3.out]; omega)]
      have hR := BindV.reads HG.out; rw [HZS.out, hall] at hR; have HR := hid hR; clear hR hall hG; go_wp2; go_ret; exact ⟨D, _, f, rfl, HR.out, HG.out.gr⟩
end Go.Proofs.YtcigljngiemdeaaGreat
