/-
  Texts of one claim, put together.
-/
import Derived.Test.YtcigljngiemdeaaGreatAo0
import Derived.Test.YtcigljngiemdeaaGreatAo4
import Derived.RangeFuncBox
import Derived.Test.YtcigljngiemdeaaGreatRoundPut
import Derived.Test.YtcigljngiemdeaaGreatAo11
set_option maxRecDepth 100000
set_option maxHeartbeats 8000000
namespace Go.Proofs.YtcigljngiemdeaaGreat
open Go.RowKit
theorem l3Copy_any (A : Option Addr) (n c : Nat) (xs : List At) (w : World) (h : IsAtoms w 0 w.heap.size A n c xs) (hn : SmallAtoms n xs) :
    Calls Tryz.prog 148 #[.slice A n c] w (CopySPost xs w) := by
  obtain ⟨hn1, hn2⟩ := hn; obtain ⟨i0, hi, hz, hsz, hby⟩ := info_parts Tryz.infoAt; have HN := hid hn2; clear hn2; have HL0 := hid h.1; have H := hid h; clear h; go_enter Tryz.func148, Tryz.ntmps148; go_wp2; go_loopw [3, 4] (fun o i wr => ∃ (k : Nat) (Av : Option Addr) (cv : Nat) (rs : List Rf), k ≤ n ∧ i = .int .i64 k ∧ o = .slice Av k cv ∧ wr.ownsRow w.heap.size 49 2 (.slice Av k cv) k (rcells rs) ∧ rs.length = k ∧ rs.map rAt = xs.take k ∧ OwnIn wr w.heap.size wr.heap.size rs ∧ Below w.heap.size w wr) (fun _ i _ => n - (intOf i).toNat)
  case atStart => exact ⟨0, some ⟨w.heap.size, 0, none⟩, 0, [], Nat.zero_le _, rfl, rfl, ⟨rfl, .inr ⟨w.heap.size, 0, #[], rfl, nl _, heap_alloc_new w _, nl _, by unfold maxLen; omega, rfl, rfl⟩⟩, rfl, rfl, OwnIn.nil, below1 _ _⟩
  case round =>
    obtain ⟨k, Av, cv, rs, hk, rfl, rfl, hrow, hl, hm, ho, hb⟩ := hrel; have HR := hid hrow; have HL := hid hl; have HM := hid hm; have HO := hid ho; clear hrow hl hm ho; by_cases hlt : k < n
    · obtain ⟨p, q, hA, hlo, hhi, hg, hE⟩ := (H.out.below AtomE.stays hb (nl _)).at_ hlt
      obtain ⟨A', n', c', d1, d3, d4, d5⟩ := hE.out; clear hE; subst hA; have hq : n' ≤ 1048576 := by rw [← d5.1]; exact HN.out q (List.mem_of_getElem? hg)
      have HG := hid hg; clear hg; have hwr := hb.size; have hbx := below1 wr (.cells #[.string q.1, .slice A' n' c'] 49); have HT := hid (d5.keep (w' := wr) (lo' := 0) (hi' := wr.heap.size) (fun _ _ _ => rfl) (nl _) hb.size); clear d5; go_wp2_with fail; refine (l3AtomCopy_any q.1 A' n' c' q.2 _ HT.out hq).mono ?_; rintro e w1 ⟨A2, d2, rfl, hT, hR, hb1⟩; have HB1 : Below wr.heap.size wr w1 := hb1; have HT1 := hid (hT.keep (w' := w1) (lo' := wr.heap.size) (hi' := w1.heap.size) (fun _ _ _ => rfl) qad (nl _)); have HR1 := hid (fun h0 => (hR h0).keep (w' := w1) (lo' := wr.heap.size) (hi' := w1.heap.size) (fun _ _ _ => rfl) qad (nl _))
      have hrow1 : w1.ownsRow w.heap.size 49 2 (.slice Av k cv) k (rcells rs) := ownsRow_up HR.out HB1; have HRW := hid hrow1; have hw1s : w.heap.size ≤ w1.heap.size := Nat.le_trans hwr HB1.size; clear hT hR hrow1 hb1 hbx; go_wp2_with (at_builtin; refine wpList_append_own _ rfl _ _ 28 rfl w.heap.size 49 i0 _ 2 40 Tryz.underlying28 hi hz hsz hby rfl qal _ _ _ rfl (HRW.out.alloc _) ⟨w1.heap.size, 0, none⟩ 1 1 [.string q.1, .slice A2 n' d2] rfl rfl (two_new _ _ _ _) qai qac qaa qaf ?_; intro v' w2 hown' hgrow' _; obtain ⟨g', cap', rfl⟩ := ownsRow_succ hown'; have hown := hid hown'; have hgrow := hid hgrow'; clear hown' hgrow')
      obtain ⟨rs', r1, r2, r3, r4, r5⟩ := copy_on HL.out HM.out HG.out HO.out hb HB1 d3 HT1.out HR1.out HRW.out hown.out hgrow.out; go_roundw
      case rel => exact ⟨k + 1, _, _, rs', by omega, by go_num, rfl, r3, r1, r2, r4, r5⟩
      case measure => exact qms
    · have hkn : k = n := qaa
      subst hkn; have hxs : xs.take k = xs := List.take_of_length_le (by have := HL0.out; omega); obtain ⟨A3, c3, e3, hO⟩ := OwnRefs.of_row HR.out HL.out.symm (nl _) HO.out (nl _); injection e3 with e3 _ e4; subst e3; subst e4; have HX := hid hxs; clear hxs; go_wp2; go_ret; exact ⟨Av, cv, rs, by rw [HL0.out]; rfl, by rw [HL0.out]; exact hO, by rw [HM.out]; exact HX.out, hb⟩
theorem nums_made (W : World) (m : Nat) (hm : m ≤ maxLen) : IsNums (W.alloc (.cells (madeCells #[.int .i64 0] m) 3)) 0 (W.alloc (.cells (madeCells #[.int .i64 0] m) 3)).heap.size (some ⟨W.heap.size, 0, none⟩) m m (List.replicate m 0) := by
  refine ⟨List.length_replicate, nl _, hm, fun _ => ⟨_, rfl, Nat.zero_le _, by simp, fun i x hx => ?_⟩⟩; have hi : i < m := by have := (List.getElem?_eq_some_iff.1 hx).1; simpa using this
  rw [List.getElem?_replicate, if_pos hi] at hx; injection hx with hx; subst hx; have a0 : (⟨W.heap.size, 0, none⟩ : Addr).add (i * 1) = ⟨W.heap.size, i, none⟩ := by unfold Addr.add; rw [Nat.mul_one]; split <;> simp_all
  show (W.alloc _).cell? _ = _; rw [a0]; exact (World.rowIs_made W (.int .i64 0) m 3).cell hi
structure IJ (V : World) (m : Nat) (xs : List At) (fc fm fa : Bool) (x14 x17 x6 : Value) (arr : Array Value) (W : World) : Prop where
  c : fc = true → ∃ A c, x14 = .slice A m c ∧ IsAtoms W 0 W.heap.size A m c xs
  m : fm = true → ∃ g, x17 = .slice (some ⟨g, 0, none⟩) m m ∧ IsNums W 0 W.heap.size (some ⟨g, 0, none⟩) m m (List.replicate m 0)
  a : fa = true → ∃ g, x6 = .pointer (some ⟨g, 0, none⟩) ∧ V.heap.size ≤ g ∧ Blk W g 166 arr
  zc : fc = false → x14 = undef
  zm : fm = false → x17 = undef
  za : fa = false → x6 = undef
  gr : Below V.heap.size V W
section
variable {V W W' : World} {m : Nat} {xs : List At} {fc fm fa : Bool} {x14 x17 x6 : Value} {arr : Array Value}
theorem IJ.below (h : IJ V m xs fc fm fa x14 x17 x6 arr W) (hb : Below W.heap.size W W') : IJ V m xs fc fm fa x14 x17 x6 arr W' :=
  ⟨fun e => by
    obtain ⟨A, c, e1, e2⟩ := h.c e; exact ⟨A, c, e1, e2.up AtomE.stays hb⟩, fun e => by
    obtain ⟨g, e1, e2⟩ := h.m e; exact ⟨g, e1, e2.up NumE.stays hb⟩, fun e => by
    obtain ⟨g, e1, e2, e3⟩ := h.a e; exact ⟨g, e1, e2, e3.below hb⟩, h.zc, h.zm, h.za, h.gr.trans (hb.mono h.gr.size)⟩
end
structure RS (w : World) (b6 gL nR : Nat) (T : List Nat) (C : Option Addr) (l e : Nat) (D : Option Addr) (l' f : Nat) (r : RdL) (W : World) : Prop where
  xr : Blk W w.heap.size 166 #[.slice none 0 0, .slice none 0 0]
  xb : Blk W b6 166 #[.slice C l e, .slice D l' f]
  fa : IsAtoms W 0 W.heap.size C l e (factsR r)
  nu : IsNums W 0 W.heap.size D l' f (roundsR r)
  lv : IntRow W gL nR T
  gr : Below w.heap.size w W
  h1 : w.heap.size < b6
  h2 : b6 < gL
section
variable {w W W' : World} {b6 gL nR : Nat} {T : List Nat} {C D C' D' : Option Addr} {l e l' f k1 k2 k3 k4 : Nat} {r r' : RdL}
theorem RS.below (h : RS w b6 gL nR T C l e D l' f r W) (hb : Below W.heap.size W W') : RS w b6 gL nR T C l e D l' f r W' :=
  ⟨h.xr.below hb, h.xb.below hb, h.fa.up AtomE.stays hb, h.nu.up NumE.stays hb, h.lv.below hb, h.gr.trans (hb.mono h.gr.size), h.h1, h.h2⟩
theorem RS.drew (h : RS w b6 gL nR T C l e D l' f r W) : RS w b6 gL nR T C l e D l' f r W.drew := h.below (Below.refl _ _).drew
theorem RS.put (h : RS w b6 gL nR T C l e D l' f r W) (ha : IsAtoms W 0 W.heap.size C' k1 k2 (factsR r')) (hn : IsNums W 0 W.heap.size D' k3 k4 (roundsR r')) :
    RS w b6 gL nR T C' k1 k2 D' k3 k4 r' ((W.setCell ⟨b6, 0, none⟩ (.slice C' k1 k2)).setCell ⟨b6, 1, none⟩ (.slice D' k3 k4)) := by
  have a1 := h.h1; have a2 := h.h2; have hs : ((W.setCell ⟨b6, 0, none⟩ (.slice C' k1 k2)).setCell ⟨b6, 1, none⟩ (.slice D' k3 k4)).heap.size = W.heap.size := qbp; have hk : ∀ b, b ≠ b6 → ((W.setCell ⟨b6, 0, none⟩ (.slice C' k1 k2)).setCell ⟨b6, 1, none⟩ (.slice D' k3 k4)).heap[b]? = W.heap[b]? := fun b hb => (hs_ _ _ _ b hb).trans (hs_ _ _ _ b hb)
  exact ⟨(h.xr.far (p := ⟨b6, 0, none⟩) (by show w.heap.size ≠ b6; omega) _).far (p := ⟨b6, 1, none⟩) (by show w.heap.size ≠ b6; omega) _, (h.xb.set 0 _).set 1 _,
    ha.box h.xb (But.store W b6 _ _) (by rw [hs]; exact nl _), hn.box h.xb (But.store W b6 _ _) (by rw [hs]; exact nl _), h.lv.keep (hk gL qaa),
    (h.gr.setCell (p := ⟨b6, 0, none⟩) (by show w.heap.size ≤ b6; omega) _).setCell (p := ⟨b6, 1, none⟩) (by show w.heap.size ≤ b6; omega) _, h.h1, h.h2⟩
end
def RunPost (x : RdL × Bool) (w : World) (e : Ending) (w' : World) : Prop :=
  ∃ (C : Option Addr) (l c : Nat) (D : Option Addr) (l' f : Nat), e = .returned (.tuple #[.agg #[.slice C l c, .slice D l' f], .bool x.2]) ∧ IsAtoms w' 0 w'.heap.size C l c (factsR x.1) ∧ IsNums w' 0 w'.heap.size D l' f (roundsR x.1) ∧ Below w.heap.size w w'
theorem roundsR_given (xs : List At) : roundsR (xs.map fun a => (a, 0)) = List.replicate xs.length 0 := by
  unfold roundsR; rw [List.map_map]
  induction xs with
  | nil => rfl
  | cons x xs ih => rw [List.map_cons, ih]; rfl
theorem factsR_given (xs : List At) : factsR (xs.map fun a => (a, 0)) = xs := by
  unfold factsR; rw [List.map_map]; exact List.map_id _
theorem putL_rises : ∀ (ys : List At) {xs : List At}, risesB xs = true → risesB (ys.foldl putL xs) = true
  | [], _, h => h
  | _ :: ys, _, h => putL_rises ys (put_rises h)
theorem levels_cons {rs : List Rl} {T : List Nat} {ls : List Nat} {lvl nn : Nat} {r : RdL} (h : lvl < ls.length) (hl : ls[lvl]? = some lvl) : levelsRun rs T (ls.drop lvl) nn r = if (levelRun rs T lvl 302 nn r).2.2 = true then levelsRun rs T (ls.drop (lvl + 1)) (levelRun rs T lvl 302 nn r).2.1 (levelRun rs T lvl 302 nn r).1 else ((levelRun rs T lvl 302 nn r).1, false) := by
  have h2 := List.drop_eq_getElem_cons h; have h3 : ls[lvl] = lvl := by rw [List.getElem?_eq_getElem h] at hl; injection hl
  rw [h2, h3]; rfl
theorem level_step {rs : List Rl} {T : List Nat} {lvl f n : Nat} {r r' : RdL} (hr : roundL rs T lvl (n + 1) r = r') : levelRun rs T lvl (f + 1) n r = if 300 < r'.length then (r', n + 1, false) else if r'.length = r.length then (r', n, true) else levelRun rs T lvl f (n + 1) r' := by
  subst hr; rfl
theorem l4Run_any (A : Option Addr) (n c : Nat) (rs : List Rl) (B : Option Addr) (m d : Nat) (xs : List At) (w : World) (h1 : IsRules w 0 w.heap.size A n c rs) (h2 : IsAtoms w 0 w.heap.size B m d xs)
    (hr : risesB xs = true) (hf : RulesFit rs) (hn : n ≤ 8) (hm : m ≤ 300) (hsm : SmallAtoms m xs) :
    Calls Tryz.prog 109 #[.slice A n c, .slice B m d] w (RunPost (runL rs (levelsL rs) xs) w) := by
  have L1 := hid h1.1; have L2 := hid h2.1; have H1 := hid h1; have H2 := hid h2; have HRR := hid hr; have HF := hid hf; have HSM := hid hsm; clear h1 h2 hr hf hsm; obtain ⟨i0, hi, hz, hsz, hby⟩ := info_parts Tryz.infoInt
  have hmk : ∀ W : World, (Instr.makeSlice 164 (.int .i64 (m : Int)) (.int .i64 (m : Int))).run Tryz.prog W = .ok (.slice (some ⟨W.heap.size, 0, none⟩) m m) (W.alloc (.cells (madeCells #[.int .i64 0] (m * 1)) 3)) := by
    intro W; have hr := run_make (P := Tryz.prog) W 164 3 i0 _ Tryz.underlying164 hi hz .i64 .i64 m m qaa (Int.le_refl _) (by rw [hby]; omega) qaa; rw [hsz] at hr; exact hr
  clear hi hz hsz hby; have hb1 := below1 w (.cells #[.slice none 0 0, .slice none 0 0] 166); have xr1 := Blk.new w 166 #[.slice none 0 0, .slice none 0 0]; obtain ⟨w1, hq1⟩ : ∃ w1, w.alloc (.cells #[.slice none 0 0, .slice none 0 0] 166) = w1 := ⟨_, rfl⟩; have hz1 : w.heap.size + 1 = w1.heap.size := by rw [← hq1]; simp
  rw [hq1] at hb1 xr1; have HQ1 := hid hq1; clear hq1; obtain ⟨T, hT⟩ : ∃ T, levelsL rs = T := ⟨_, rfl⟩; rw [hT]; obtain ⟨X, hX⟩ : ∃ X, runL rs T xs = X := ⟨_, rfl⟩; rw [hX]; have HT := hid hT; have HX := hid hX; clear hT hX; go_enter Tryz.func109, Tryz.ntmps109; go_wp2_with (rw [HQ1.out]); obtain ⟨V, hV⟩ : ∃ V, w1.drew = V := ⟨_, rfl⟩; have hVz : w.heap.size + 1 = V.heap.size := by rw [← hV]; exact hz1
  have hVw : Below w.heap.size w V := hV ▸ hb1.drew; have xrV : Blk V w.heap.size 166 #[.slice none 0 0, .slice none 0 0] := hV ▸ xr1; have HV0 := hid hV; clear hV hb1 xr1 hz1; refine wp_region_held_drew (S := fun _ => True) qae trivial ?_; rw [HV0.out]; intro hS_; refine tk 0 (.slice B m d) hS_ ?_; refine tk 2 (.slice B m d) hS_ ?_; refine tk 3 (.int .i64 (m : Int)) hS_ ?_; have J0 : IJ V m xs false false false undef undef undef #[.slice none 0 0, .slice none 0 0] V := ⟨fun e => qam, fun e => qam, fun e => qam, fun _ => rfl, fun _ => rfl, fun _ => rfl, Below.refl _ _⟩
  have bel : ∀ W, Below V.heap.size V W → Below w.heap.size w W := fun W hb => hVw.trans (hb.mono qaa); clear hS_; refine wpAnyH_inv (I := fun (L : Array Bool) (a : Act) (W : World) => ∃ (fc fm fa fb fs : Bool) (x14 x17 x6 x18 : Value) (arr : Array Value), L = #[true, fc, true, true, fm, fb, fa, fs] ∧ a = ⟨#[.slice A n c, .slice B m d, undef, undef, .pointer (some ⟨w.heap.size, 0, none⟩), .bool false, x6, undef, undef, undef, undef, undef, undef, .slice B m d, x14, .slice B m d, .int .i64 (m : Int), x17, x18, undef, undef, undef, undef, undef, undef, undef, undef, undef, undef, undef, undef, undef, undef, undef, undef, undef, undef, undef, undef, undef, undef, undef, undef, undef, undef, undef, undef, undef, undef, undef, undef, undef, undef, undef, undef, undef, undef, undef, undef, undef, undef, undef, undef, undef], []⟩ ∧ (fb = true → x18 = .agg #[x14, x17] ∧ fc = true ∧ fm = true) ∧ (fs = true → fb = true ∧ fa = true) ∧ arr = (if fs = true then #[x14, x17] else #[.slice none 0 0, .slice none 0 0]) ∧ IJ V m xs fc fm fa x14 x17 x6 arr W) (fun _ _ _ _ => trivial) ?step ?fin _ _ _ _ ?lf ⟨false, false, false, false, false, undef, undef, undef, undef, _, rfl, rfl, fun e => qam, fun e => qam, rfl, J0⟩
  case lf => decide
  case step =>
    rintro L a W i o ⟨fc, fm, fa, fb, fs, x14, x17, x6, x18, arr, rfl, rfl, eb, es, rfl, J⟩ ho h0 hd K hK; have hi8 : i < 8 := qbu; have hii : i = 0 ∨ i = 1 ∨ i = 2 ∨ i = 3 ∨ i = 4 ∨ i = 5 ∨ i = 6 ∨ i = 7 := qaa; have fsf : fb = false → fs = false := fun e => by cases fs with | false => rfl | true => have := (es rfl).1; rw [e] at this; cases this
    have fsa : fa = false → fs = false := fun e => by cases fs with | false => rfl | true => have := (es rfl).2; rw [e] at this; cases this
    rcases hii with rfl | rfl | rfl | rfl | rfl | rfl | rfl | rfl
    all_goals (injection ho with ho; subst ho)
    · simp at h0
    · have hf : fc = false := qbe
      subst hf
      have hbf : fb = false := by
        cases fb with
        | false => rfl
        | true => have := (eb rfl).2.1; cases this
      have hsf := fsf hbf; subst hbf; subst hsf; have J := (show IJ V m xs _ _ _ _ _ _ #[.slice none 0 0, .slice none 0 0] W from J); rw [if_pos qab]; go_simp; go_at_call 148; have hbW := bel _ J.gr; have hszW := hbW.size; refine (l3Copy_any B m d xs W ((H2.out.below AtomE.stays hbW (nl _)).keep AtomE.stays (fun _ _ _ => rfl) (nl _) hszW) HSM.out).mono ?_; rintro e1 w9 ⟨A9, c9, rs9, rfl, h9, hm9, hb9⟩; have hJ := J.below hb9; have hat : IsAtoms w9 0 w9.heap.size A9 m c9 xs := by have := h9.atoms; rw [hm9, L2.out] at this; exact this.keep AtomE.stays (fun _ _ _ => rfl) (Nat.zero_le _) (nl _)
      rw [L2.out]; exact hK.out _ _ ⟨true, fm, fa, false, false, _, x17, x6, x18, _, rfl, rfl, fun e => qam, fun e => qam, rfl, ⟨fun _ => ⟨A9, c9, rfl, hat⟩, hJ.m, hJ.a, fun e => qam, hJ.zm, hJ.za, hJ.gr⟩⟩
    · simp at h0
    · simp at h0
    · have hf : fm = false := qbe
      subst hf
      have hbf : fb = false := by
        cases fb with
        | false => rfl
        | true => have := (eb rfl).2.2; cases this
      have hsf := fsf hbf; subst hbf; subst hsf; have J := (show IJ V m xs _ _ _ _ _ _ #[.slice none 0 0, .slice none 0 0] W from J); rw [if_pos qab]; have hmkW := hmk W; rw [Nat.mul_one] at hmkW; go_simp; have hJ := J.below (below1 W (.cells (madeCells #[.int .i64 0] m) 3)); exact hK.out _ _ ⟨fc, true, fa, false, false, x14, _, x6, x18, _, rfl, rfl, fun e => qam, fun e => qam, rfl, ⟨hJ.c, fun _ => ⟨_, rfl, nums_made W m qac⟩, hJ.a, hJ.zc, fun e => qam, hJ.za, hJ.gr⟩⟩
    · have d0 := hd ⟨1, .data⟩ qad rfl
      have d1 := hd ⟨4, .data⟩ qad rfl; have hc : fc = true := by simpa using d0
      have hmm : fm = true := qdt; have hf : fb = false := qbe; have hsf := fsf hf; subst hc; subst hmm; subst hf; subst hsf; obtain ⟨A9, c9, q1, -⟩ := J.c rfl; obtain ⟨g9, q2, -⟩ := J.m rfl; subst q1; subst q2; clear hd h0; rw [if_pos qab]; go_simp; exact hK.out _ _ ⟨true, true, fa, true, false, _, _, x6, _, _, rfl, rfl, fun _ => ⟨rfl, rfl, rfl⟩, fun e => qam, rfl, J⟩
    · have hf : fa = false := qbe
      subst hf; have hsf := fsa rfl; subst hsf; have J := (show IJ V m xs _ _ _ _ _ _ #[.slice none 0 0, .slice none 0 0] W from J); rw [if_pos qab]; go_simp; have hJ := J.below (below1 W (.cells #[.slice none 0 0, .slice none 0 0] 166)); exact hK.out _ _ ⟨fc, fm, true, fb, false, x14, x17, _, x18, _, rfl, rfl, eb, fun e => qam, rfl, ⟨hJ.c, hJ.m, fun _ => ⟨_, rfl, J.gr.size, Blk.new W _ _⟩, hJ.zc, hJ.zm, fun e => qam, hJ.gr⟩⟩
    · have d0 := hd ⟨5, .data⟩ qad rfl
      have d1 := hd ⟨6, .data⟩ qad rfl; have hb0 : fb = true := by simpa using d0
      have ha : fa = true := qdt; have hf : fs = false := qbe; subst hb0; subst ha; subst hf; obtain ⟨hx, hc, hmm⟩ := eb rfl; subst hx; subst hc; subst hmm; obtain ⟨A9, c9, q1, i1⟩ := J.c rfl; obtain ⟨g9, q2, i2⟩ := J.m rfl; obtain ⟨b6, q3, hb6, xb⟩ := J.a rfl; subst q1; subst q2; subst q3; clear hd h0; have xb := (show Blk W b6 166 #[.slice none 0 0, .slice none 0 0] from xb); have r2 : W.cell? ⟨b6, 0, none⟩ = some (.slice none 0 0) := xb.cell 0; have r3 : W.cell? ⟨b6, 1, none⟩ = some (.slice none 0 0) := xb.cell 1; have r4 := xb.frozen 0; have r5 := xb.frozen 1
      rw [if_pos qab]; go_simp; have hs : ((W.setCell ⟨b6, 0, none⟩ (.slice A9 m c9)).setCell ⟨b6, 1, none⟩ (.slice (some ⟨g9, 0, none⟩) m m)).heap.size = W.heap.size := qbp; exact hK.out _ _ ⟨true, true, true, true, true, _, _, _, _, _, rfl, rfl, fun _ => ⟨rfl, rfl, rfl⟩, fun _ => ⟨rfl, rfl⟩, rfl, ⟨fun _ => ⟨A9, c9, rfl, i1.box xb (But.store W b6 _ _) (by rw [hs]; exact nl _)⟩, fun _ => ⟨g9, rfl, i2.box xb (But.store W b6 _ _) (by rw [hs]; exact nl _)⟩, fun _ => ⟨b6, rfl, hb6, (xb.set 0 _).set 1 _⟩, fun e => qam, fun e => qam, fun e => qam, (J.gr.setCell (p := ⟨b6, 0, none⟩) hb6 _).setCell (p := ⟨b6, 1, none⟩) hb6 _⟩⟩
  case fin =>
    rintro L a W ⟨fc, fm, fa, fb, fs, x14, x17, x6, x18, arr, rfl, rfl, eb, es, rfl, J⟩ hr; have up := all_up qae rfl hr; have hl : fs = true := up 7 qal; subst hl; obtain ⟨hb0, ha⟩ := es rfl; subst hb0; subst ha; obtain ⟨hx, hc, hmm⟩ := eb rfl; subst hx; subst hc; subst hmm; obtain ⟨C0, e0, q1, i1⟩ := J.c rfl; obtain ⟨g0, q2, i2⟩ := J.m rfl; obtain ⟨b6, q3, hb6, xb⟩ := J.a rfl; subst q1; subst q2; subst q3; have hgW := bel _ J.gr; have hzW := hgW.size; have KR := hid ((H1.out.below RuleE.stays hgW (nl _)).keep RuleE.stays (w' := W) (lo' := 0) (hi' := W.heap.size) (fun _ _ _ => rfl) (nl _) hzW); have S0 := hid (show Blk W w.heap.size 166 #[.slice none 0 0, .slice none 0 0] ∧ Blk W b6 166 #[.slice C0 m e0, .slice (some ⟨g0, 0, none⟩) m m] ∧ IsAtoms W 0 W.heap.size C0 m e0 (factsR (xs.map fun a => (a, 0))) ∧ IsNums W 0 W.heap.size (some ⟨g0, 0, none⟩) m m (roundsR (xs.map fun a => (a, 0))) ∧ Below w.heap.size w W from ⟨xrV.below (J.gr), xb, by rw [factsR_given]; exact i1, by rw [roundsR_given, L2.out]; exact i2, hgW⟩)
    have hwb6 : w.heap.size < b6 := qaa; have hb6W : b6 < W.heap.size := xb.lt; clear J up hr i1 i2 xb eb es hgW hmk hb6; go_wp2_with fail; refine (l2Levels_any A n c rs W KR.out hn (fun r hr => (HF.out r hr).2.1)).mono ?_; rintro e1 w2 ⟨rfl, hlv, hb2⟩; rw [HT.out] at hlv; have R0 := hid (show RS w b6 W.heap.size n T C0 m e0 (some ⟨g0, 0, none⟩) m m (xs.map fun a => (a, 0)) w2 from ⟨S0.out.1.below hb2, S0.out.2.1.below hb2, S0.out.2.2.1.up AtomE.stays hb2, S0.out.2.2.2.1.up NumE.stays hb2, hlv, S0.out.2.2.2.2.trans (hb2.mono hzW), hwb6, hb6W⟩); obtain ⟨gL, hgL⟩ : ∃ g, W.heap.size = g := ⟨_, rfl⟩; rw [hgL] at R0 ⊢
    have HLT := hid hlv.1; clear S0 KR hlv hb2 hzW hb6W hgL; go_wp2; go_loopw [8, 9] (fun nv lv wr => ∃ (lvl nn : Nat) (C : Option Addr) (l e : Nat) (D : Option Addr) (l' f : Nat) (r : RdL), lvl ≤ n + 1 ∧ lv = .int .i64 (lvl : Int) ∧ nv = .int .i64 (nn : Int) ∧ RS w b6 gL n T C l e D l' f r wr ∧ levelsRun rs T ((List.range (rs.length + 1)).drop lvl) nn r = X ∧ r.length ≤ 300 ∧ nn ≤ r.length ∧ risesB (factsR r) = true) (fun _ lv _ => n + 1 - (intOf lv).toNat)
    case atStart => exact ⟨0, 0, _, _, _, _, _, _, _, Nat.zero_le _, rfl, rfl, R0.out, HX.out, by rw [List.length_map, L2.out]; exact hm, Nat.zero_le _, by rw [factsR_given]; exact HRR.out⟩
    case round =>
      clear R0 HX; obtain ⟨lvl, nn, C, l, e, D, l', f, r, hlv, rfl, rfl, hS, hX, hr300, hnn, hri⟩ := hrel; have HS := hid hS; have HX := hid hX; have HRI := hid hri; have hgw := hS.gr.size; by_cases hlt : lvl < n + 1
      · have hltI : (lvl : Int) ≤ (n : Int) := qaa
        have hcons := hid (levels_cons (rs := rs) (T := T) (ls := List.range (rs.length + 1)) (lvl := lvl) (nn := nn) (r := r) (by rw [List.length_range, L1.out]; exact hlt) (by rw [List.getElem?_range (by rw [L1.out]; exact hlt)])); clear hS hX hri; go_wp2; go_loopw [8] (fun nv wr => ∃ (nk fu : Nat) (C : Option Addr) (l e : Nat) (D : Option Addr) (l' f : Nat) (r' : RdL), nv = .int .i64 (nk : Int) ∧ RS w b6 gL n T C l e D l' f r' wr ∧ levelRun rs T lvl fu nk r' = levelRun rs T lvl 302 nn r ∧ 301 ≤ fu + r'.length ∧ r'.length ≤ 300 ∧ nk ≤ r'.length ∧ risesB (factsR r') = true) (fun _ wr => match wr.cell? ⟨b6, 0, none⟩ with | some (.slice _ len _) => 301 - len | _ => 0)
        case atStart => exact ⟨nn, 302, C, l, e, D, l', f, r, rfl, HS.out, rfl, by omega, hr300, hnn, HRI.out⟩
        case round =>
          clear HS HRI; obtain ⟨nk, fu, Ck, lk, ek, Dk, lk2, fk, rk, rfl, hS, hE, hfu, hk300, hnk, hri⟩ := hrel; have hlr : lk = rk.length := by rw [← hS.fa.1]; unfold factsR; rw [List.length_map]
          have HLR := hid hlr; have HS := hid hS; have HE := hid hE; have HRI := hid hri; have hgk : w.heap.size ≤ wr.heap.size := hS.gr.size; have y0 : wr.cell? ⟨b6, 0, none⟩ = some (.slice Ck lk ek) := hS.xb.cell 0; have y1 : wr.cell? ⟨b6, 1, none⟩ = some (.slice Dk lk2 fk) := hS.xb.cell 1; have hwk : IntKind.i64.wrap ((nk : Int) + 1) = ((nk + 1 : Nat) : Int) := qbj; have hl300 : lk ≤ 300 := qaa; have hP := hid (show (lk + 1) ^ 4 ≤ 8589934592 from Nat.le_trans (Nat.pow_le_pow_left (show lk + 1 ≤ 301 by omega) 4) qal); have KR := hid ((H1.out.below RuleE.stays hS.gr (nl _)).keep RuleE.stays (w' := wr) (lo' := 0) (hi' := wr.heap.size) (fun _ _ _ => rfl) (nl _) hgk)
          have hy0 := hid y0; clear hS hE hri hlr; go_wp2_with fail; refine (l4Once_any A n c rs gL T lvl Ck lk ek (factsR rk) wr KR.out HS.out.lv HS.out.fa HRI.out HF.out hn hP.out).mono ?_; rintro e1 w4 ⟨A4, c4, rm, rfl, h4, hm4, hb4⟩; obtain ⟨ML, hML⟩ : ∃ ML, onceL rs T lvl (factsR rk) = ML := ⟨_, rfl⟩; rw [hML] at hm4
          have hMl : rm.length ≤ n * 8589934592 := by
            have h1 := once_len (rs := rs) (T := T) (level := lvl) (M := 8589934592) (xs := factsR rk) (fun r hr => rows_len HS.out.fa.1 (HF.out r hr).2.1 hP.out) n (by rw [L1.out]; exact nl _); rw [onceI_all (by rw [L1.out]; exact nl _), hML, ← hm4, List.length_map] at h1; exact h1
          have hat4 : IsAtoms w4 0 w4.heap.size A4 rm.length c4 ML := by have := h4.atoms; rw [hm4] at this; exact this
          obtain ⟨M, hM⟩ : ∃ M, rm.length = M := ⟨_, rfl⟩; rw [hM] at hMl hat4 ⊢; have hM8 : M ≤ 68719476736 := qaa; have HML := hid hML; have HA4 := hid hat4; have HS4 := hid (HS.out.below hb4); have hz4 := hb4.size; clear h4 hm4 hb4 hML hat4 y0 y1 hMl hM KR HS; go_wp2; go_loopw [12] (fun x wr => ∃ (i : Nat) (C : Option Addr) (l e : Nat) (D : Option Addr) (l' f : Nat) (rj : RdL), i ≤ M ∧ x = .int .i64 (i : Int) ∧ RS w b6 gL n T C l e D l' f rj wr ∧ IsAtoms wr 0 wr.heap.size A4 M c4 ML ∧ rj = (ML.take i).foldl (fun r a => putRd r a (nk + 1)) rk) (fun x _ => M - (intOf x).toNat)
          case atStart => exact ⟨0, Ck, lk, ek, Dk, lk2, fk, rk, Nat.zero_le _, rfl, HS4.out, HA4.out, rfl⟩
          case round =>
            clear HS4 HA4; obtain ⟨i, C, l, e, D, l', f, rj, hi, rfl, hS, hA4, hrj⟩ := hrel; have HS := hid hS; have HA4 := hid hA4; have HRJ := hid hrj; have hlj := foldPut_len (nk + 1) (ML.take i) rk; rw [← hrj] at hlj; have hlen : rj.length ≤ 300 + i := by have := hlj.2; rw [List.length_take] at this; omega
            have hlj1 := hlj.1; have hll : l = rj.length := by rw [← hS.fa.1]; unfold factsR; rw [List.length_map]
            have HLL := hid hll; have hl37 : l ≤ 137438953472 := qaa; have hrise := hid (show risesB (factsR rj) = true from by rw [hrj, foldPut_facts]; exact putL_rises _ HRI.out); have y0 : wr.cell? ⟨b6, 0, none⟩ = some (.slice C l e) := hS.xb.cell 0; have y1 : wr.cell? ⟨b6, 1, none⟩ = some (.slice D l' f) := hS.xb.cell 1; have y2 := hS.xr.cell 0; have y3 := hS.xr.cell 1; have y4 := hS.xr.frozen 0; have y5 := hS.xr.frozen 1; clear hrj hll hlj; by_cases hlM : i < M
            · have hlMI : (i : Int) < (M : Int) := qaa
              obtain ⟨p, a, hA, plo, phi, hga, hE⟩ := hA4.at_ hlM; obtain ⟨A5, n5, c5, d1, d0, d2, d3⟩ := hE.out; subst hA; have HGA := hid hga; have D0 := hid d0; obtain ⟨V, hV⟩ : ∃ V, wr.drew = V := ⟨_, rfl⟩; have hVz : wr.heap.size = V.heap.size := by rw [← hV]; rfl
              have hSV := hid (show RS w b6 gL n T C l e D l' f rj V from hV ▸ hS.drew); have hAV := hid (show IsAtoms V 0 V.heap.size (some p) M c4 ML from hV ▸ (hA4.keep AtomE.stays (w' := wr.drew) (lo' := 0) (hi' := wr.drew.heap.size) (fun _ _ _ => rfl) (nl _) (nl _))); have x1 : V.cell? (p.add (i * 2)) = some (.string a.1) := hV ▸ d1; have x2 : V.cell? ⟨(p.add (i * 2)).block, (p.add (i * 2)).off + 1, none⟩ = some (.slice A5 n5 c5) := hV ▸ d2; have x3 : V.cell? ⟨b6, 0, none⟩ = some (.slice C l e) := hV ▸ y0; have x4 : V.cell? ⟨b6, 1, none⟩ = some (.slice D l' f) := hV ▸ y1; have KT := hid (show IsTerms V 0 V.heap.size A5 n5 c5 a.2 from hV ▸ (d3.keep (w' := wr.drew) (lo' := 0) (hi' := wr.drew.heap.size) (fun _ _ _ => rfl) (nl _) (nl _)))
              have hpne : (p.add (i * 2)).block ≠ b6 := box_not hSV.out.xb x1 qbt; have HV0 := hid hV; clear hE hga d0 d3 plo phi hS hA4 hV y2 y3 y4 y5; go_wp2_with fail; refine wp_region_held_drew (S := fun W => W.cell? (p.add (i * 2)) = some (.string a.1) ∧ W.cell? ⟨(p.add (i * 2)).block, (p.add (i * 2)).off + 1, none⟩ = some (.slice A5 n5 c5)) qae (by rw [HV0.out]; exact ⟨x1, x2⟩) ?_; rw [HV0.out]; intro hS_; refine tk 1 (.slice (some p) M c4) hS_ ?_; refine tk 2 (.int .i64 (i : Int)) hS_ ?_; refine tk 3 (.pointer (some (p.add (i * 2)))) hS_ ?_; refine tk 4 (.agg #[.string a.1, .slice A5 n5 c5]) hS_ ?_; refine tk 5 (.int .i64 ((nk + 1 : Nat) : Int)) hS_ ?_
              refine rd1 0 fun K_ hK_ => ?_; go_simp; refine hK_.out _ _ ⟨x1, x2⟩ fun hS_ => ?_; clear hK_
              (try simp only [Act.put, List.setIfInBounds_toArray, List.set_cons_zero, List.set_cons_succ])
              refine rd1 6 fun K_ hK_ => ?_; go_simp; go_at_call 151; refine (l4Put_any C l e D l' f rj a.1 A5 n5 c5 a.2 (nk + 1) V hSV.out.fa hSV.out.nu D0.out KT.out hrise.out hl37).mono ?_; rintro e1 w6 ⟨C6, k1, k2, D6, k3, k4, rfl, i6, j6, hb6⟩; have hS6 := hSV.out.below hb6; have hA6 := hAV.out.up AtomE.stays hb6; have z1 : w6.cell? (p.add (i * 2)) = some (.string a.1) := Holds.below hb6 _ _ x1; have z2 : w6.cell? ⟨(p.add (i * 2)).block, (p.add (i * 2)).off + 1, none⟩ = some (.slice A5 n5 c5) := Holds.below hb6 _ _ x2; have z3 : w6.cell? ⟨b6, 0, none⟩ = some (.slice C l e) := hS6.xb.cell 0
              have z4 : w6.cell? ⟨b6, 1, none⟩ = some (.slice D l' f) := hS6.xb.cell 1; have z5 := hS6.xb.frozen 0; have z6 := hS6.xb.frozen 1; refine hK_.out _ _ ⟨z1, z2⟩ fun hS_ => ?_; clear hK_
              (try simp only [Act.put, List.setIfInBounds_toArray, List.set_cons_zero, List.set_cons_succ])
              refine rd1 7 fun K_ hK_ => ?_; go_simp; have hS7 := hid (hS6.put (r' := putRd rj (a.1, a.2) (nk + 1)) i6 j6); have hA7 := hid (IsAtoms.box (hi' := ((w6.setCell ⟨b6, 0, none⟩ (.slice C6 k1 k2)).setCell ⟨b6, 1, none⟩ (.slice D6 k3 k4)).heap.size) hA6 hS6.xb (But.store w6 b6 (.slice C6 k1 k2) (.slice D6 k3 k4)) qba); have u1 := But.store w6 b6 (.slice C6 k1 k2) (.slice D6 k3 k4) _ _ hpne z1; have u2 := But.store w6 b6 (.slice C6 k1 k2) (.slice D6 k3 k4) _ _ (show (⟨(p.add (i * 2)).block, (p.add (i * 2)).off + 1, none⟩ : Addr).block ≠ b6 from hpne) z2; refine hK_.out _ _ ⟨u1, u2⟩ (fun hS2_ => ?_); refine wpAnyH_done qae ?_ _
              have hnext := hid (show putRd rj (a.1, a.2) (nk + 1) = (ML.take (i + 1)).foldl (fun r a => putRd r a (nk + 1)) rk from by rw [foldl_take _ _ HGA.out, ← HRJ.out]); clear hK_ hS_ hS2_ u1 u2 z1 z2 z3 z4 z5 z6 x1 x2 x3 x4 hS6 hA6 i6 j6 hb6 y0 y1; go_wp2; go_roundw
              case rel => exact ⟨i + 1, C6, k1, k2, D6, k3, k4, _, by omega, by go_num, hS7.out, hA7.out, hnext.out⟩
              case measure => exact qms
            · have hiM : i = M := qaa
              have hround : roundL rs T lvl (nk + 1) rk = rj := by
                rw [HRJ.out]; unfold roundL; rw [HML.out, List.take_of_length_le (by rw [hA4.1]; omega)]
              obtain ⟨fv, rfl⟩ : ∃ fv, fu = fv + 1 := ⟨fu - 1, by omega⟩; have hstep := level_step (f := fv) hround; rw [HE.out] at hstep; have HST := hid hstep; have HC := hid hcons.out; have hR9 : IsAtoms ((wr.setCell ⟨w.heap.size, 0, none⟩ (.slice C l e)).setCell ⟨w.heap.size, 1, none⟩ (.slice D l' f)) 0 ((wr.setCell ⟨w.heap.size, 0, none⟩ (.slice C l e)).setCell ⟨w.heap.size, 1, none⟩ (.slice D l' f)).heap.size C l e (factsR rj) := hS.fa.box hS.xr (But.store wr w.heap.size _ _) qba; have hN9 : IsNums ((wr.setCell ⟨w.heap.size, 0, none⟩ (.slice C l e)).setCell ⟨w.heap.size, 1, none⟩ (.slice D l' f)) 0 ((wr.setCell ⟨w.heap.size, 0, none⟩ (.slice C l e)).setCell ⟨w.heap.size, 1, none⟩ (.slice D l' f)).heap.size D l' f (roundsR rj) := hS.nu.box hS.xr (But.store wr w.heap.size _ _) qba
              have hG9 : Below w.heap.size w ((wr.setCell ⟨w.heap.size, 0, none⟩ (.slice C l e)).setCell ⟨w.heap.size, 1, none⟩ (.slice D l' f)) := (hS.gr.setCell (p := ⟨w.heap.size, 0, none⟩) (nl _) _).setCell (p := ⟨w.heap.size, 1, none⟩) (nl _) _; have HR9 := hid hR9; have HN9 := hid hN9; have HG9 := hid hG9; clear hS hA4 hround hstep hR9 hN9 hG9; by_cases hbig : 300 < l
              · have hbI : (300 : Int) < (l : Int) := qaa
                have hfin : X = (rj, false) := by
                  have h1 := HST.out; rw [if_pos (by have := HLL.out; omega)] at h1; rw [← HX.out, HC.out, h1]; rfl
                have HFIN := hid hfin; clear hfin; go_wp2; refine bodyPost_ret (v := .tuple #[.agg #[.slice C l e, .slice D l' f], .bool false]) (by simp [results, Tryz.results109, go_sem, y2, y3]) rfl ⟨C, l, e, D, l', f, by rw [HFIN.out], by rw [HFIN.out]; exact HR9.out, by rw [HFIN.out]; exact HN9.out, HG9.out⟩
              · have hbI : ¬ (300 : Int) < (l : Int) := qaa
                by_cases hsame : l = lk
                · have hsI : (l : Int) = (lk : Int) := qaa
                  have hwm : IntKind.i64.wrap (((nk + 1 : Nat) : Int) - 1) = (nk : Int) := qbj
                  have hfin : levelsRun rs T ((List.range (rs.length + 1)).drop (lvl + 1)) nk rj = X := by
                    have h1 := HST.out; rw [if_neg (by have := HLL.out; omega), if_pos qeb] at h1; rw [← HX.out, HC.out, h1]; rfl
                  have HFIN := hid hfin; clear hfin; subst hsame; go_wp2; go_roundw
                  case rel => exact ⟨lvl + 1, nk, C, _, e, D, l', f, rj, by omega, by go_num, by go_num, HS.out, HFIN.out, by have := HLL.out; omega, by omega, hrise.out⟩
                  case measure => exact qms
                · have hsI : ¬ (l : Int) = (lk : Int) := qaa
                  have hgt : lk < l := qeb
                  have hfin : levelRun rs T lvl fv (nk + 1) rj = levelRun rs T lvl 302 nn r := by
                    have h1 := HST.out; rw [if_neg (by have := HLL.out; omega), if_neg qeb] at h1; exact h1.symm
                  have HFIN := hid hfin; clear hfin; go_wp2; go_roundw
                  case rel => exact ⟨nk + 1, fv, C, l, e, D, l', f, rj, by go_num, HS.out, HFIN.out, by have := HLL.out; have := HLR.out; omega, by have := HLL.out; omega, by have := HLL.out; have := HLR.out; omega, hrise.out⟩
                  case measure => rw [y0, hy0.out]; show 301 - l < 301 - lk; omega
      · have hln : lvl = n + 1 := qaa
        have hfin : X = (r, true) := by
          rw [← hX, List.drop_eq_nil_of_le (by rw [List.length_range, L1.out]; omega)]; rfl
        have HFIN := hid hfin; have y0 : wr.cell? ⟨b6, 0, none⟩ = some (.slice C l e) := hS.xb.cell 0; have y1 : wr.cell? ⟨b6, 1, none⟩ = some (.slice D l' f) := hS.xb.cell 1; have y2 := hS.xr.cell 0; have y3 := hS.xr.cell 1; have y4 := hS.xr.frozen 0; have y5 := hS.xr.frozen 1; have hltI : ¬ (lvl : Int) ≤ (n : Int) := qaa; clear hfin hS hX; go_wp2; have hS := HS.out; refine bodyPost_ret (v := .tuple #[.agg #[.slice C l e, .slice D l' f], .bool true]) (by simp [results, Tryz.results109, go_sem, y2, y3]) rfl ⟨C, l, e, D, l', f, by rw [HFIN.out], by rw [HFIN.out]; exact hS.fa.box hS.xr (But.store wr w.heap.size _ _) qba, by rw [HFIN.out]; exact hS.nu.box hS.xr (But.store wr w.heap.size _ _) qba, (hS.gr.setCell (p := ⟨w.heap.size, 0, none⟩) (nl _) _).setCell (p := ⟨w.heap.size, 1, none⟩) (nl _) _⟩
def fitB (xs ls : List At) : Bool := ls.all fun a => xs.all fun b => pairOk b a
theorem l3Fit_any (A : Option Addr) (n c : Nat) (rs : List Rl) (B : Option Addr) (m d : Nat) (ls : List At) (w : World) (h : IsRules w 0 w.heap.size A n c rs) (h' : IsAtoms w 0 w.heap.size B m d ls) (hn : n ≤ 8) (h4 : ∀ r ∈ rs, r.2.length ≤ 4) :
    Calls Tryz.prog 147 #[.slice A n c, .slice B m d] w (BoolPost (fitB (atsOf rs) ls) w) := by
  have hmm := h'.len; unfold maxLen at hmm; have H := hid h; have H4 := hid h4; have HL' := hid h'.1; have H' := hid h'; have hlen := Nat.le_trans (atsOf_len rs h4) (Nat.mul_le_mul_left 5 (show rs.length ≤ 8 by rw [h.1]; exact hn)); obtain ⟨xs, hxs⟩ : ∃ xs, atsOf rs = xs := ⟨_, rfl⟩; obtain ⟨z, hz⟩ : ∃ z, xs.length = z := ⟨_, rfl⟩; rw [hxs, hz] at hlen; have HXS := hid hxs; have HM := hid hz; clear h h' h4 hxs hz; rw [HXS.out]; go_enter Tryz.func147, Tryz.ntmps147; go_wp2_with fail; refine (l2Atoms_any A n c rs _ H.out hn H4.out).mono ?_; rintro e w1 ⟨A', c', rfl, hI, hb1⟩
  rw [HXS.out, HM.out] at hI ⊢; have HI := hid hI; clear hI; have HJ := hid (H'.out.up AtomE.stays hb1); go_wp2; go_loopw [6] (fun x wr => ∃ i : Nat, i ≤ m ∧ x = .int .i64 (i : Int) ∧ (∀ a ∈ ls.take i, (xs.all fun b => pairOk b a) = true) ∧ Below w1.heap.size w1 wr) (fun x _ => m - (intOf x).toNat)
  case atStart => exact ⟨0, Nat.zero_le _, rfl, fun q hq => by simp at hq, Below.refl _ _⟩
  case round =>
    obtain ⟨i, him, rfl, hS, hb⟩ := hrel; have HS := hid hS; clear hS; by_cases hlt : i < m
    · have hltI : (i : Int) < (m : Int) := qaa
      obtain ⟨a, hga⟩ : ∃ a, ls[i]? = some a := ⟨_, List.getElem?_eq_getElem (by rw [HL'.out]; exact hlt)⟩; have HGa := hid hga; clear hga; go_wp2; obtain ⟨w2, hw2⟩ : ∃ w2 : World, w2 = wr := ⟨_, rfl⟩; subst hw2; go_loopw [7] (fun x wr => ∃ k : Nat, k ≤ z ∧ x = .int .i64 (k : Int) ∧ (∀ b ∈ xs.take k, pairOk b a = true) ∧ Below w1.heap.size w1 wr) (fun x _ => z - (intOf x).toNat)
      case atStart => exact ⟨0, Nat.zero_le _, rfl, fun q hq => by simp at hq, hb⟩
      case round =>
        obtain ⟨k, hkz, rfl, hSk, hbk⟩ := hrel; have HSk := hid hSk; clear hSk; by_cases hlk : k < z
        · have hlkI : (k : Int) < (z : Int) := qaa
          obtain ⟨p, a9, hA, _, _, hga9, hEa⟩ := (HJ.out.below AtomE.stays hbk (nl _)).at_ hlt; obtain rfl : a9 = a := Option.some.inj (hga9.symm.trans HGa.out); obtain ⟨p', b, hA', _, _, hgb, hEb⟩ := (HI.out.below AtomE.stays hbk (nl _)).at_ hlk; obtain ⟨A1, n1, c1, a1, _, a3, a4⟩ := hEa.out; obtain ⟨A2, n2, c2, b1, _, b3, b4⟩ := hEb.out; clear hEa hEb hga9; subst hA'; subst hA; have HGb := hid hgb; have N1 := hid a4.1; have N2 := hid b4.1; clear hgb a4 b4; obtain ⟨bb, hbb⟩ : ∃ bb, (b.1.toList == a9.1.toList) = bb := ⟨_, rfl⟩; have HB := hid (bytes_is hbb); cases bb
          · have HP := hid (all_snoc (P := fun b => pairOk b a9 = true) HGb.out HSk.out (by unfold pairOk; rw [← HB.out]; rfl))
            go_wp2_with fail; go_quiet (fail); go_wp2; go_roundw
            case rel => exact ⟨k + 1, by omega, by go_num, HP.out, hbk.os, hbk.tape, hbk.output, hbk.size, hbk.block⟩
            case measure => exact qms
          · by_cases hnn : n2 = n1
            · have HP := hid (all_snoc (P := fun b => pairOk b a9 = true) HGb.out HSk.out (by unfold pairOk; rw [← HB.out, N1.out, N2.out, hnn]; simp))
              subst hnn; go_wp2_with fail; go_quiet (fail); go_wp2; go_roundw
              case rel => exact ⟨k + 1, by omega, by go_num, HP.out, hbk.os, hbk.tape, hbk.output, hbk.size, hbk.block⟩
              case measure => exact qms
            · have HP : Hid (fitB xs ls = false) := hid (all_no (f := fun a => xs.all fun b => pairOk b a) (List.mem_of_getElem? HGa.out) (all_no (f := fun b => pairOk b a9) (List.mem_of_getElem? HGb.out) (by unfold pairOk; rw [← HB.out, N1.out, N2.out, decide_eq_false hnn]; rfl)))
              have e1 : ((n2 : Int) == (n1 : Int)) = false := beq_eq_false_iff_ne.2 (fun e => hnn qaa); have e2 : ((n2 : Int) != (n1 : Int)) = true := by rw [bne, e1]; rfl
              have e3 : (n2 == n1) = false := by simpa using hnn
              go_wp2_with fail; go_quiet (fail); go_wp2; go_ret; exact ⟨retB HP.out.symm, belowThen hb1 ⟨hbk.os, hbk.tape, hbk.output, hbk.size, hbk.block⟩⟩
        · have hke : k = z := qaa
          subst hke; have HN := hid (all_snoc (P := fun a => (xs.all fun b => pairOk b a) = true) HGa.out HS.out (all_end (f := fun b => pairOk b a) HM.out HSk.out)); go_wp2; go_roundw
          case rel => exact ⟨i + 1, by omega, by go_num, HN.out, hbk⟩
          case measure => exact qms
    · have hie : i = m := qaa
      subst hie; have HA : Hid (fitB xs ls = true) := hid (all_end (f := fun a => xs.all fun b => pairOk b a) HL'.out HS.out); go_wp2; go_ret; exact ⟨retB HA.out.symm, belowThen hb1 hb⟩
def l4okB (rs : List Rl) (xs : List At) : Bool := decide (progB rs = 0) && (factsB 40 xs && fitB (atsOf rs) xs)
def evalL (rs : List Rl) (xs : List At) : List At × Bool :=
  if l4okB rs xs = true then (if (runL rs (levelsL rs) xs).2 = true then (factsR (runL rs (levelsL rs) xs).1, true) else ([], false)) else ([], false)
theorem rules_fit {rs : List Rl} (h : progB rs = 0) : RulesFit rs ∧ rs.length ≤ 8 := by
  obtain ⟨h1, h2⟩ := prog_fine h; refine ⟨fun r hr => ?_, h2⟩; obtain ⟨e1, e2, e3⟩ := ruleB_parts (List.all_eq_true.1 h1 r hr); exact ⟨by have := atomB_three e2; omega, e3, fun q hq => by have := rule_three e1 q hq; omega⟩
theorem facts_few {m : Nat} {xs : List At} (hm : m ≤ 1048576) (h : factsB m xs = true) : SmallAtoms xs.length xs := by
  have hl := factsB_len h; refine ⟨by omega, fun q hq => ?_⟩; unfold factsB at h; simp only [Bool.and_eq_true] at h; have h1 := List.all_eq_true.1 h.1.1 q hq; unfold factB at h1; rw [Bool.and_eq_true] at h1; have := atomB_three h1.2; omega
theorem l4Ok_any (A : Option Addr) (n c : Nat) (rs : List Rl) (B : Option Addr) (m d : Nat) (xs : List At) (w : World) (h1 : IsRules w 0 w.heap.size A n c rs) (h2 : IsAtoms w 0 w.heap.size B m d xs) :
    Calls Tryz.prog 108 #[.slice A n c, .slice B m d] w (BoolPost (l4okB rs xs) w) := by
  have H1 := hid h1; have H2 := hid h2; have L1 := hid h1.1; clear h1 h2; go_enter Tryz.func108, Tryz.ntmps108; go_wp2_with fail; refine (specProgCheck_any A n c rs w H1.out).mono ?_; rintro e1 w1 ⟨rfl, hb1⟩; by_cases hp : progB rs = 0
  · obtain ⟨hf, hn8⟩ := rules_fit hp
    have HF := hid hf; have HP := hid hp; rw [hp]; have K1 := hid (H1.out.up RuleE.stays hb1); have K2 := hid (H2.out.up AtomE.stays hb1); have HB1 := hid hb1; have HN8 := hid hn8; clear hp hf hb1 hn8; go_wp2_with fail; refine (l3Ok_any B m d xs 40 w1 K2.out).mono ?_; rintro e2 w2 ⟨rfl, hb2⟩; have HB2 := hid (belowThen HB1.out hb2); have M1 := hid (K1.out.up RuleE.stays hb2); have M2 := hid (K2.out.up AtomE.stays hb2); obtain ⟨fo, hfo⟩ : ∃ fo, factsB 40 xs = fo := ⟨_, rfl⟩; have HFO := hid hfo; rw [hfo]; clear hfo hb2
    cases fo with
    | false =>
      go_wp2; go_ret
      exact ⟨retB (by unfold l4okB; rw [HFO.out]; simp), HB2.out⟩
    | true =>
      go_wp2_with fail; refine (l3Fit_any A n c rs B m d xs w2 M1.out M2.out (by rw [← L1.out]; exact HN8.out) (fun r hr => (HF.out r hr).2.1)).mono ?_; rintro e3 w3 ⟨rfl, hb3⟩; have HB3 := hid (belowThen HB2.out hb3); clear hb3; go_wp2; go_ret; exact ⟨retB (by unfold l4okB; rw [HFO.out, HP.out]; simp), HB3.out⟩
  · have hpI : ¬ ((progB rs : Nat) : Int) = 0 := qaa
    have hno := hid (show false = l4okB rs xs from by unfold l4okB; rw [decide_eq_false hp]; rfl); have HB1 := hid hb1; clear hp hb1; go_wp2; go_ret; exact ⟨retB hno.out, HB1.out⟩
def EvalPost (x : List At × Bool) (w : World) (e : Ending) (w' : World) : Prop :=
  ∃ (C : Option Addr) (l c : Nat), e = .returned (.tuple #[.slice C l c, .bool x.2]) ∧ IsAtoms w' 0 w'.heap.size C l c x.1 ∧ Below w.heap.size w w'
theorem no_atoms (w : World) (k : Nat) : IsAtoms w 0 w.heap.size (some ⟨k, 0, none⟩) 0 0 [] := ⟨rfl, nl _, by unfold maxLen; omega, fun h => by omega⟩
theorem specEval_any (A : Option Addr) (n c : Nat) (rs : List Rl) (B : Option Addr) (m d : Nat) (xs : List At) (w : World) (h1 : IsRules w 0 w.heap.size A n c rs) (h2 : IsAtoms w 0 w.heap.size B m d xs) :
    Calls Tryz.prog 61 #[.slice A n c, .slice B m d] w (EvalPost (evalL rs xs) w) := by
  have H1 := hid h1; have H2 := hid h2; have L1 := hid h1.1; have L2 := hid h2.1; clear h1 h2; obtain ⟨X, hX⟩ : ∃ X, evalL rs xs = X := ⟨_, rfl⟩; have HX := hid hX; rw [hX]; clear hX; go_enter Tryz.func61, Tryz.ntmps61; go_wp2_with fail; refine (l4Ok_any A n c rs B m d xs w H1.out H2.out).mono ?_; rintro e1 w1 ⟨rfl, hb1⟩; have K1 := hid (H1.out.up RuleE.stays hb1); have K2 := hid (H2.out.up AtomE.stays hb1); have HB1 := hid hb1; obtain ⟨ok, hok⟩ : ∃ ok, l4okB rs xs = ok := ⟨_, rfl⟩; have HOK := hid hok; rw [hok]; have hbn := below1 w1 (.cells #[] 49)
  have hno1 := no_atoms (w1.alloc (.cells #[] 49)) w1.heap.size; have HNO1 := hid hno1; have HBN := hid (belowThen hb1 hbn); clear hok hb1 hbn hno1
  cases ok with
  | false =>
    have hx := hid (show X = ([], false) from by rw [← HX.out]; unfold evalL; rw [HOK.out, if_neg qad]); go_wp2
    refine bodyPost_ret (v := .tuple #[.slice (some ⟨w1.heap.size, 0, none⟩) 0 0, .bool false]) qby rfl ⟨_, 0, 0, by rw [hx.out], by rw [hx.out]; exact HNO1.out, HBN.out⟩
  | true =>
    have hp : progB rs = 0 ∧ factsB 40 xs = true := by
      have := HOK.out; unfold l4okB at this; simp only [Bool.and_eq_true, decide_eq_true_eq] at this; exact ⟨this.1, this.2.1⟩
    obtain ⟨hp, hfo⟩ := hp; obtain ⟨hf, hn8⟩ := rules_fit hp; have hsm := facts_few qaa hfo; rw [L2.out] at hsm; have hm40 : m ≤ 40 := by rw [← L2.out]; exact factsB_len hfo
    have hn : n ≤ 8 := by rw [← L1.out]; exact hn8
    have hris := factsB_rises hfo; have HF := hid hf; have HSM := hid hsm; have HRI := hid hris; clear hp hfo hf hn8 hsm hris; go_wp2_with fail; refine (l4Run_any A n c rs B m d xs w1 K1.out K2.out HRI.out HF.out hn qaa HSM.out).mono ?_; rintro e2 w2 ⟨C, l, e, D, l', f, rfl, i2, j2, hb2⟩; obtain ⟨⟨r, ok2⟩, hR⟩ : ∃ R, runL rs (levelsL rs) xs = R := ⟨_, rfl⟩; rw [hR] at i2; rw [hR]; have HR := hid hR; have I2 := hid i2; have HB2 := hid (HB1.out.trans (hb2.mono HB1.out.size)); clear hR i2 j2 hb2; have hbx := below1 w2 (.cells #[.slice C l e, .slice D l' f] 166); have hxx := Blk.new w2 166 #[.slice C l e, .slice D l' f]
    obtain ⟨w3, hq3⟩ : ∃ w3, w2.alloc (.cells #[.slice C l e, .slice D l' f] 166) = w3 := ⟨_, rfl⟩; rw [hq3] at hbx hxx; have HQ3 := hid hq3; have I3 := hid (I2.out.up AtomE.stays hbx); have HB3 := hid (HB2.out.trans (hbx.mono HB2.out.size)); have y0 : w3.cell? ⟨w2.heap.size, 0, none⟩ = some (.slice C l e) := hxx.cell 0; clear hq3 hxx hbx
    cases ok2 with
    | false =>
      have hx := hid (show X = ([], false) from by rw [← HX.out]; unfold evalL; rw [HOK.out, if_pos rfl, HR.out, if_neg qad]); have hno3 := hid (no_atoms (w3.alloc (.cells #[] 49)) w3.heap.size); have hb4 := hid (HB3.out.trans ((below1 w3 (.cells #[] 49)).mono HB3.out.size)); go_wp2_with (rw [HQ3.out])
      refine bodyPost_ret (v := .tuple #[.slice (some ⟨w3.heap.size, 0, none⟩) 0 0, .bool false]) qby rfl ⟨_, 0, 0, by rw [hx.out], by rw [hx.out]; exact hno3.out, hb4.out⟩
    | true =>
      have hx := hid (show X = (factsR r, true) from by rw [← HX.out]; unfold evalL; rw [HOK.out, if_pos rfl, HR.out, if_pos rfl]); go_wp2_with (rw [HQ3.out]); refine bodyPost_ret (v := .tuple #[.slice C l e, .bool true]) qby rfl ⟨C, l, e, by rw [hx.out], by rw [hx.out]; exact I3.out, HB3.out⟩
end Go.Proofs.YtcigljngiemdeaaGreat
