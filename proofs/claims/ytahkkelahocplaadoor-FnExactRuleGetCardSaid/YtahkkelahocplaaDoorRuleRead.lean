/-
  What is read of a text as a rule, in the model.
-/
import Derived.Test.YtahkkelahocplaaDoorBodyWords
namespace Go.Proofs.YtahkkelahocplaaDoor
open Go.RowKit

/-- A rule as it is handed on. -/
def ruVal (r : Rr) : Value := .agg #[.string r.1.1, .slice r.1.2.1 r.1.2.2.1 r.1.2.2.2.1, .slice r.2.1 r.2.2.1 r.2.2.2.1]
/-- No rule. -/
def noRu : Rr := (noRf, none, 0, 0, [])
theorem noRu_apart {w : World} {lo hi : Nat} (h : lo ≤ hi) : RuleApart w lo hi noRu :=
  ⟨lo, lo, lo, lo, Nat.le_refl _, Nat.le_refl _, h, Nat.le_refl _, Nat.le_refl _, h, .inl (Nat.le_refl _), noRf_apart, noParts⟩

/-- A rule was told that is read of a text, in memory of the call's own; or that there is none. -/
def GetRPost (l : List UInt8) (w : World) (e : Ending) (w' : World) : Prop :=
  ∃ r : Rr, e = .returned (.tuple #[ruVal r, .bool (readR l).isSome]) ∧ RuleApart w' w.heap.size w'.heap.size r ∧ rRl r = (readR l).getD ((⟨#[]⟩, []), []) ∧ Below w.heap.size w w'

theorem dataL_cuts (c : UInt8) (s : ByteArray) : dataL (cutsB c s) = cuts c s.data.toList := cutsB_data c s

set_option maxRecDepth 100000 in
set_option maxHeartbeats 4000000 in
theorem specRuleGet_any (s : ByteArray) (w : World) (hs : s.size ≤ 1048576) :
    Calls Tryd.prog 22 #[.string s] w (GetRPost s.data.toList w) := by
  have hb0 := below1 w (.cells #[.string ⟨#[]⟩, .slice none 0 0, .slice none 0 0] 38)
  have X0 := Lib.hid (Blk.new w 38 #[.string ⟨#[]⟩, .slice none 0 0, .slice none 0 0])
  obtain ⟨W0, hW0⟩ : ∃ W0, w.alloc (.cells #[.string ⟨#[]⟩, .slice none 0 0, .slice none 0 0] 38) = W0 := ⟨_, rfl⟩
  rw [hW0] at hb0 X0
  have hz0 : W0.heap.size = w.heap.size + 1 := by rw [← hW0]; simp
  have HB0 := Lib.hid hb0
  clear hb0
  obtain ⟨ws, hws⟩ : ∃ x, cutsB 32 s = x := ⟨_, rfl⟩
  have hwl : ws.length ≤ s.size + 1 := by rw [← hws]; exact cutsB_len 32 s
  have hwz : ∀ x ∈ ws, x.size ≤ 1048576 := fun x hx => Nat.le_trans (cutsB_size (c := 32) (s := s) (by rw [hws]; exact hx)) hs
  have hwd : cuts 32 s.data.toList = dataL ws := by rw [← hws, dataL_cuts]
  obtain ⟨w0, wt, hwt⟩ : ∃ a b, ws = a :: b := by
    cases ws with
    | nil =>
      have : (cutsB 32 s).length = 0 := by rw [hws]; rfl
      unfold cutsB cuts at this
      simp at this
    | cons a b => exact ⟨a, b, rfl⟩
  have HWS := Lib.hid hws; have HWZ := Lib.hid hwz; have HWD := Lib.hid hwd; have HWT := Lib.hid hwt
  have h0z : w0.size ≤ 1048576 := hwz w0 (by rw [hwt]; simp)
  have hwp : 0 < ws.length := by rw [hwt]; simp
  have HC := Lib.hid (show cuts 32 s.data.toList = w0.data.toList :: dataL wt by rw [hwd, hwt]; rfl)
  clear hws hwz hwd hwt
  go_enter Tryd.func22, Tryd.ntmps22
  go_wp2_with fail
  refine (l1Cut_any s 32 W0 hs).mono ?_; rintro e w1 ⟨p, d, rfl, hT1, hb1⟩
  rw [HWS.out] at hT1 ⊢
  have HT1 := Lib.hid hT1
  have X1 := Lib.hid (X0.out.below hb1); have HB1 := Lib.hid (belowThen HB0.out hb1)
  have hz1 := hb1.size
  obtain ⟨p', x, hA', hplo, hphi, hg, hE⟩ := hT1.at_ hwp
  injection hA' with hA'
  subst hA'
  have hx0 : x = w0 := by rw [HWT.out] at hg; simpa using hg.symm
  subst hx0
  have c0 : w1.cell? p = some (.string x) := by have := hE; unfold TextE Addr.add at this; simpa using this
  clear hb1 hT1 hg hE
  go_wp2_with fail
  refine (specAtomGet_any x w1 h0z).mono ?_; rintro e w2 ⟨r, rfl, hH, hr, hb2⟩
  unfold rfVal
  have HH2 := Lib.hid hH
  have X2 := Lib.hid (X1.out.below hb2); have HB2 := Lib.hid (belowThen HB1.out hb2)
  have HT2 := Lib.hid (HT1.out.below TextE.stays hb2 (Nat.le_refl _))
  have hz2 := hb2.size
  clear hb2 hH c0
  have hbx := below1 w2 (.cells #[.string r.1, .slice r.2.1 r.2.2.1 r.2.2.2.1] 24)
  have X3 := Lib.hid (X2.out.alloc (.cells #[.string r.1, .slice r.2.1 r.2.2.1 r.2.2.2.1] 24)); have HB3 := Lib.hid (belowThen HB2.out hbx)
  cases hgb : getB x.data.toList with
  | none =>
    have E := Lib.hid (readR_head HC.out hgb)
    clear hgb
    rw [show (none : Option At).isSome = false from rfl]
    have r0 := X3.out.cell 0; have r1 := X3.out.cell 1; have r2 := X3.out.cell 2
    have f0 := X3.out.frozen 0; have f1 := X3.out.frozen 1; have f2 := X3.out.frozen 2
    go_wp2_with fail
    have Z := ((X3.out.set 0 (.string ⟨#[]⟩)).set 1 (.slice none 0 0)).set 2 (.slice none 0 0)
    have z0 := Z.cell 0; have z1 := Z.cell 1; have z2 := Z.cell 2
    simp at z0 z1 z2
    refine bodyPost_ret (v := .tuple #[ruVal noRu, .bool false]) (by simp [results, Tryd.results22, go_sem, r0, r1, r2, ruVal, noRu, noRf]) rfl ⟨noRu, by rw [E.out]; rfl, noRu_apart (by simp only [size_setCell]; exact HB3.out.size), by rw [E.out]; rfl, ((HB3.out.setCell (by simp) _).setCell (by simp) _).setCell (by simp) _⟩
  | some a =>
    have hra : rAt r = a := by rw [hr, hgb]; rfl
    have HGB := Lib.hid hgb
    clear hgb hr
    rw [show (some a : Option At).isSome = true from rfl]
    have hby := below1 (w2.alloc (.cells #[.string r.1, .slice r.2.1 r.2.2.1 r.2.2.2.1] 24)) (.cells #[.string r.1, .slice r.2.1 r.2.2.1 r.2.2.2.1, .slice none 0 0] 38)
    have Y4 := Lib.hid (Blk.new (w2.alloc (.cells #[.string r.1, .slice r.2.1 r.2.2.1 r.2.2.2.1] 24)) 38 #[.string r.1, .slice r.2.1 r.2.2.1 r.2.2.2.1, .slice none 0 0])
    have X4 := Lib.hid (X3.out.below hby); have HB4 := Lib.hid (belowThen HB3.out hby)
    by_cases h2 : 2 < ws.length
    · have h2I : (2 : Int) < (ws.length : Int) := by omega
      have hd : ¬ d = 2 := by have := HT2.out.2.1; omega
      have HT4 := Lib.hid ((IsTexts.rest (k := 2) (HT2.out.below TextE.stays (belowThen hbx hby) (by omega)) (by omega) (q := some ⟨p.block, p.off + 2, none⟩) (by rw [if_neg hd]; simp [Addr.add])).keep (lo' := 0) (hi' := ((w2.alloc (.cells #[.string r.1, .slice r.2.1 r.2.2.1 r.2.2.2.1] 24)).alloc (.cells #[.string r.1, .slice r.2.1 r.2.2.1 r.2.2.2.1, .slice none 0 0] 38)).heap.size) TextE.stays (fun _ _ _ => rfl) (Nat.zero_le _) (by simp; omega))
      go_wp2_with fail
      refine (l1Words_any _ _ _ (ws.drop 2) _ HT4.out (by omega) (fun x hx => HWZ.out x (List.mem_of_mem_drop hx))).mono ?_; rintro e w5 ⟨B5, n5, c5, ps, rfl, hP5, hx5, hb5⟩
      have HB5 := Lib.hid (belowThen HB4.out hb5)
      have X5 := Lib.hid (X4.out.below hb5)
      have Y5' := Blk.below Y4.out hb5
      rw [show (w2.alloc (.cells #[.string r.1, .slice r.2.1 r.2.2.1 r.2.2.2.1] 24)).heap.size = w2.heap.size + 1 by simp] at Y5'
      have Y5 := Lib.hid Y5'
      have hHr : HeadApart ((w2.alloc (.cells #[.string r.1, .slice r.2.1 r.2.2.1 r.2.2.2.1] 24)).alloc (.cells #[.string r.1, .slice r.2.1 r.2.2.1 r.2.2.2.1, .slice none 0 0] 38)) w1.heap.size w2.heap.size r := HH2.out.keep (fun b _ h2 => (belowThen hbx hby).block b h2) (Nat.le_refl _) (Nat.le_refl _)
      have HH5 := Lib.hid (hHr.keep (w' := w5) (lo' := w1.heap.size) (hi' := w2.heap.size) (fun b _ h2 => hb5.block b (by simp; omega)) (Nat.le_refl _) (Nat.le_refl _))
      have HP5 := Lib.hid (hP5.keep (lo' := w2.heap.size + 2) (hi' := w5.heap.size) (fun _ _ _ => rfl) (by simp) (Nat.le_refl _))
      have hz5 : w2.heap.size + 2 ≤ w5.heap.size := by have := hb5.size; simp at this; exact this
      have HD5 := Lib.hid (show dataL (ws.drop 2) = (dataL ws).drop 2 by unfold dataL; rw [List.map_drop])
      have HLD := Lib.hid (show (dataL ws).length = ws.length by unfold dataL; rw [List.length_map])
      clear hb5 Y5' hHr hP5
      cases hwo : wordsP (dataL (ws.drop 2)) with
      | none =>
        have E := Lib.hid (readR_body (l := s.data.toList) (by unfold behind2; rw [HWD.out, HLD.out, if_pos h2, ← HD5.out]; exact hwo))
        clear hwo hx5
        rw [show (none : Option (List Pt)).isSome = false from rfl]
        have r0 := X5.out.cell 0; have r1 := X5.out.cell 1; have r2 := X5.out.cell 2
        have f0 := X5.out.frozen 0; have f1 := X5.out.frozen 1; have f2 := X5.out.frozen 2
        go_wp2_with fail
        have Z := ((X5.out.set 0 (.string ⟨#[]⟩)).set 1 (.slice none 0 0)).set 2 (.slice none 0 0)
        have z0 := Z.cell 0; have z1 := Z.cell 1; have z2 := Z.cell 2
        simp at z0 z1 z2
        refine bodyPost_ret (v := .tuple #[ruVal noRu, .bool false]) (by simp [results, Tryd.results22, go_sem, r0, r1, r2, ruVal, noRu, noRf]) rfl ⟨noRu, by rw [E.out]; rfl, noRu_apart (by simp only [size_setCell]; exact HB5.out.size), by rw [E.out]; rfl, ((HB5.out.setCell (by simp) _).setCell (by simp) _).setCell (by simp) _⟩
      | some xs =>
        have hpx := hx5 xs hwo
        have HBEH := Lib.hid (show behind2 (cuts 32 s.data.toList) = some (ps.map pAt) by unfold behind2; rw [HWD.out, HLD.out, if_pos h2, ← HD5.out, hpx]; exact hwo)
        clear hwo hx5 hpx
        rw [show (some xs : Option (List Pt)).isSome = true from rfl]
        have y0 := Y5.out.cell 0; have y1 := Y5.out.cell 1; have y2 := Y5.out.cell 2
        have g2 := Y5.out.frozen 2
        obtain ⟨W6, hW6⟩ : ∃ W6, w5.setCell ⟨w2.heap.size + 1, 2, none⟩ (.slice B5 n5 c5) = W6 := ⟨_, rfl⟩
        have X6 := Lib.hid (show Blk W6 w.heap.size 38 #[.string ⟨#[]⟩, .slice none 0 0, .slice none 0 0] by rw [← hW6]; exact X5.out.far (by simp; omega) _)
        have Y6 := Lib.hid (show Blk W6 (w2.heap.size + 1) 38 #[.string r.1, .slice r.2.1 r.2.2.1 r.2.2.2.1, .slice B5 n5 c5] by rw [← hW6]; exact Y5.out.set 2 _)
        have HB6 := Lib.hid (show Below w.heap.size w W6 by rw [← hW6]; exact HB5.out.setCell (by simp; omega) _)
        have hz6 : W6.heap.size = w5.heap.size := by rw [← hW6]; simp
        have HHd := Lib.hid (show HeadApart W6 w1.heap.size w2.heap.size r by rw [← hW6]; exact HH5.out.keep (fun b _ h2 => Below.heap_setCell _ _ _ b (by simp; omega)) (Nat.le_refl _) (Nat.le_refl _))
        have HPt := Lib.hid (show OwnParts W6 (w2.heap.size + 2) w5.heap.size B5 n5 c5 ps by rw [← hW6]; exact HP5.out.keep (fun b h1 _ => Below.heap_setCell _ _ _ b (by simp; omega)) (Nat.le_refl _) (Nat.le_refl _))
        have r0 := X6.out.cell 0; have r1 := X6.out.cell 1; have r2 := X6.out.cell 2
        have f0 := X6.out.frozen 0; have f1 := X6.out.frozen 1; have f2 := X6.out.frozen 2
        have y0 := Y6.out.cell 0; have y1 := Y6.out.cell 1; have y2 := Y6.out.cell 2
        go_wp2_with fail
        refine (specRulePut_any r.1 r.2.1 r.2.2.1 r.2.2.2.1 B5 n5 c5 r.2.2.2.2 (ps.map pAt) W6 HHd.out.1 ⟨HHd.out.2.1.keep (fun _ _ _ => rfl) (Nat.zero_le _) (by have := HB6.out.size; omega), HPt.out.parts.keep PartE.stays (fun _ _ _ => rfl) (Nat.zero_le _) (by omega)⟩).mono ?_; rintro e w8 ⟨rfl, hb8⟩
        have X8 := Lib.hid (X6.out.below hb8); have Y8 := Lib.hid (Y6.out.below hb8); have HB8 := Lib.hid (belowThen HB6.out hb8)
        have HH8 := Lib.hid (HHd.out.keep (w' := w8) (lo' := w1.heap.size) (hi' := w2.heap.size) (fun b _ h2 => hb8.block b (by omega)) (Nat.le_refl _) (Nat.le_refl _))
        have HP8 := Lib.hid (HPt.out.below hb8 (by omega))
        have hz8 := hb8.size
        clear hb8 r0 r1 r2 f0 f1 f2 y0 y1 y2
        have r0 := X8.out.cell 0; have r1 := X8.out.cell 1; have r2 := X8.out.cell 2
        have f0 := X8.out.frozen 0; have f1 := X8.out.frozen 1; have f2 := X8.out.frozen 2
        have y0 := Y8.out.cell 0; have y1 := Y8.out.cell 1; have y2 := Y8.out.cell 2
        by_cases hput : rulePutB ((r.1, r.2.2.2.2), ps.map pAt) = s.data.toList
        · have E := Lib.hid ((readR_put HC.out HGB.out HBEH.out).1 (by rw [← hra]; exact hput))
          have hpb : (rulePutB ((r.1, r.2.2.2.2), ps.map pAt) == s.toList) = true := by rw [toList_data, hput]; exact beq_self_eq_true _
          clear hput
          go_wp2_with fail
          have hfar : ∀ b, w.heap.size < b → (((w8.setCell ⟨w.heap.size, 0, none⟩ (.string r.1)).setCell ⟨w.heap.size, 1, none⟩ (.slice r.2.1 r.2.2.1 r.2.2.2.1)).setCell ⟨w.heap.size, 2, none⟩ (.slice B5 n5 c5)).heap[b]? = w8.heap[b]? := fun b h => (Below.heap_setCell _ _ _ b (by simp; omega)).trans ((Below.heap_setCell _ _ _ b (by simp; omega)).trans (Below.heap_setCell _ _ _ b (by simp; omega)))
          refine bodyPost_ret (v := .tuple #[ruVal (r, B5, n5, c5, ps), .bool true]) (by simp [results, Tryd.results22, go_sem, r0, r1, r2, ruVal]) rfl ⟨(r, B5, n5, c5, ps), by rw [E.out]; rfl, ?_, by rw [E.out]; unfold rRl; show (rAt r, _) = _; rw [hra]; rfl, ((HB8.out.setCell (by simp) _).setCell (by simp) _).setCell (by simp) _⟩
          exact ⟨w1.heap.size, w2.heap.size, w2.heap.size + 2, w5.heap.size, by omega, by omega, by simp only [size_setCell]; omega, by omega, by omega, by simp only [size_setCell]; omega, .inl (by omega), HH8.out.keep (fun b h1 _ => hfar b (by omega)) (Nat.le_refl _) (Nat.le_refl _), HP8.out.keep (fun b h1 _ => hfar b (by omega)) (Nat.le_refl _) (Nat.le_refl _)⟩
        · have E := Lib.hid ((readR_put HC.out HGB.out HBEH.out).2 (by rw [← hra]; exact hput))
          have hpb : (rulePutB ((r.1, r.2.2.2.2), ps.map pAt) == s.toList) = false := by rw [toList_data, beq_eq_false_iff_ne]; exact hput
          clear hput
          go_wp2_with fail
          have Z := ((X8.out.set 0 (.string ⟨#[]⟩)).set 1 (.slice none 0 0)).set 2 (.slice none 0 0)
          have z0 := Z.cell 0; have z1 := Z.cell 1; have z2 := Z.cell 2
          simp at z0 z1 z2
          refine bodyPost_ret (v := .tuple #[ruVal noRu, .bool false]) (by simp [results, Tryd.results22, go_sem, r0, r1, r2, ruVal, noRu, noRf]) rfl ⟨noRu, by rw [E.out]; rfl, noRu_apart (by simp only [size_setCell]; exact HB8.out.size), by rw [E.out]; rfl, ((HB8.out.setCell (by simp) _).setCell (by simp) _).setCell (by simp) _⟩
    · have h2I : ¬ (2 : Int) < (ws.length : Int) := by omega
      obtain ⟨ps, hps⟩ : ∃ ps : List Pf, [] = ps := ⟨_, rfl⟩
      have HBEH := Lib.hid (show behind2 (cuts 32 s.data.toList) = some (ps.map pAt) by rw [← hps]; unfold behind2; rw [HWD.out, if_neg (by unfold dataL; rw [List.length_map]; exact h2)]; rfl)
      have HHd := Lib.hid (show HeadApart ((w2.alloc (.cells #[.string r.1, .slice r.2.1 r.2.2.1 r.2.2.2.1] 24)).alloc (.cells #[.string r.1, .slice r.2.1 r.2.2.1 r.2.2.2.1, .slice none 0 0] 38)) w1.heap.size w2.heap.size r from HH2.out.keep (fun b _ h2 => (belowThen hbx hby).block b h2) (Nat.le_refl _) (Nat.le_refl _))
      have HPt := Lib.hid (show OwnParts ((w2.alloc (.cells #[.string r.1, .slice r.2.1 r.2.2.1 r.2.2.2.1] 24)).alloc (.cells #[.string r.1, .slice r.2.1 r.2.2.1 r.2.2.2.1, .slice none 0 0] 38)) w2.heap.size w2.heap.size none 0 0 ps from by rw [← hps]; exact noParts)
      clear hps
      have hz4 : ((w2.alloc (.cells #[.string r.1, .slice r.2.1 r.2.2.1 r.2.2.2.1] 24)).alloc (.cells #[.string r.1, .slice r.2.1 r.2.2.1 r.2.2.2.1, .slice none 0 0] 38)).heap.size = w2.heap.size + 2 := by simp
      have Y4' := Y4.out
      rw [show (w2.alloc (.cells #[.string r.1, .slice r.2.1 r.2.2.1 r.2.2.2.1] 24)).heap.size = w2.heap.size + 1 by simp] at Y4'
      have Y4 := Lib.hid Y4'
      clear Y4'
      have r0 := X4.out.cell 0; have r1 := X4.out.cell 1; have r2 := X4.out.cell 2
      have f0 := X4.out.frozen 0; have f1 := X4.out.frozen 1; have f2 := X4.out.frozen 2
      have y0 := Y4.out.cell 0; have y1 := Y4.out.cell 1; have y2 := Y4.out.cell 2
      go_wp2_with fail
      refine (specRulePut_any r.1 r.2.1 r.2.2.1 r.2.2.2.1 none 0 0 r.2.2.2.2 (ps.map pAt) _ HHd.out.1 ⟨HHd.out.2.1.keep (fun _ _ _ => rfl) (Nat.zero_le _) (by have := HB4.out.size; omega), HPt.out.parts.keep PartE.stays (fun _ _ _ => rfl) (Nat.zero_le _) (by omega)⟩).mono ?_; rintro e w8 ⟨rfl, hb8⟩
      have X8 := Lib.hid (X4.out.below hb8); have Y8 := Lib.hid (Y4.out.below hb8); have HB8 := Lib.hid (belowThen HB4.out hb8)
      have HH8 := Lib.hid (HHd.out.keep (w' := w8) (lo' := w1.heap.size) (hi' := w2.heap.size) (fun b _ h2 => hb8.block b (by omega)) (Nat.le_refl _) (Nat.le_refl _))
      have HP8 := Lib.hid (HPt.out.below hb8 (by omega))
      have hz8 := hb8.size
      clear hb8 r0 r1 r2 f0 f1 f2 y0 y1 y2
      have r0 := X8.out.cell 0; have r1 := X8.out.cell 1; have r2 := X8.out.cell 2
      have f0 := X8.out.frozen 0; have f1 := X8.out.frozen 1; have f2 := X8.out.frozen 2
      have y0 := Y8.out.cell 0; have y1 := Y8.out.cell 1; have y2 := Y8.out.cell 2
      by_cases hput : rulePutB ((r.1, r.2.2.2.2), ps.map pAt) = s.data.toList
      · have E := Lib.hid ((readR_put HC.out HGB.out HBEH.out).1 (by rw [← hra]; exact hput))
        have hpb : (rulePutB ((r.1, r.2.2.2.2), ps.map pAt) == s.toList) = true := by rw [toList_data, hput]; exact beq_self_eq_true _
        clear hput
        go_wp2_with fail
        have hfar : ∀ b, w.heap.size < b → (((w8.setCell ⟨w.heap.size, 0, none⟩ (.string r.1)).setCell ⟨w.heap.size, 1, none⟩ (.slice r.2.1 r.2.2.1 r.2.2.2.1)).setCell ⟨w.heap.size, 2, none⟩ (.slice none 0 0)).heap[b]? = w8.heap[b]? := fun b h => (Below.heap_setCell _ _ _ b (by simp; omega)).trans ((Below.heap_setCell _ _ _ b (by simp; omega)).trans (Below.heap_setCell _ _ _ b (by simp; omega)))
        refine bodyPost_ret (v := .tuple #[ruVal (r, none, 0, 0, ps), .bool true]) (by simp [results, Tryd.results22, go_sem, r0, r1, r2, ruVal]) rfl ⟨(r, none, 0, 0, ps), by rw [E.out]; rfl, ?_, by rw [E.out]; unfold rRl; show (rAt r, _) = _; rw [hra]; rfl, ((HB8.out.setCell (by simp) _).setCell (by simp) _).setCell (by simp) _⟩
        exact ⟨w1.heap.size, w2.heap.size, w2.heap.size, w2.heap.size, by omega, by omega, by simp only [size_setCell]; omega, by omega, by omega, by simp only [size_setCell]; omega, .inl (by omega), HH8.out.keep (fun b h1 _ => hfar b (by omega)) (Nat.le_refl _) (Nat.le_refl _), HP8.out.keep (fun b h1 _ => hfar b (by omega)) (Nat.le_refl _) (Nat.le_refl _)⟩
      · have E := Lib.hid ((readR_put HC.out HGB.out HBEH.out).2 (by rw [← hra]; exact hput))
        have hpb : (rulePutB ((r.1, r.2.2.2.2), ps.map pAt) == s.toList) = false := by rw [toList_data, beq_eq_false_iff_ne]; exact hput
        clear hput
        go_wp2_with fail
        have Z := ((X8.out.set 0 (.string ⟨#[]⟩)).set 1 (.slice none 0 0)).set 2 (.slice none 0 0)
        have z0 := Z.cell 0; have z1 := Z.cell 1; have z2 := Z.cell 2
        simp at z0 z1 z2
        refine bodyPost_ret (v := .tuple #[ruVal noRu, .bool false]) (by simp [results, Tryd.results22, go_sem, r0, r1, r2, ruVal, noRu, noRf]) rfl ⟨noRu, by rw [E.out]; rfl, noRu_apart (by simp only [size_setCell]; exact HB8.out.size), by rw [E.out]; rfl, ((HB8.out.setCell (by simp) _).setCell (by simp) _).setCell (by simp) _⟩

end Go.Proofs.YtahkkelahocplaaDoor
