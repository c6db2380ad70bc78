/-
  Texts of one claim, put together.
-/
import Derived.Test.YtogonjkklioaaaaGreatDoorLg14
import Derived.Test.YtogonjkklioaaaaGreatDoorLg16
import Derived.Test.YtogonjkklioaaaaGreatDoorLg18
set_option maxRecDepth 100000
set_option maxHeartbeats 8000000
namespace Go.Proofs.YtogonjkklioaaaaGreatDoor
open Go.RowKit
theorem nums_made (W : World) (m : Nat) (hm : m ≤ maxLen) : IsNums (W.alloc (.cells (madeCells #[.int .i64 0] m) 3)) 0 (W.alloc (.cells (madeCells #[.int .i64 0] m) 3)).heap.size (some ⟨W.heap.size, 0, none⟩) m m (List.replicate m 0) := by
  refine ⟨List.length_replicate, nl _, hm, fun _ => ⟨_, rfl, Nat.zero_le _, by simp, fun i x hx => ?_⟩⟩; have hi : i < m := by have := (List.getElem?_eq_some_iff.1 hx).1; simpa using this
  rw [List.getElem?_replicate, if_pos hi] at hx; injection hx with hx; subst hx; have a0 : (⟨W.heap.size, 0, none⟩ : Addr).add (i * 1) = ⟨W.heap.size, i, none⟩ := by unfold Addr.add; rw [Nat.mul_one]; split <;> simp_all
  show (W.alloc _).cell? _ = _; rw [a0]; exact (World.rowIs_made W (.int .i64 0) m 3).cell hi
structure IJ (V : World) (m : Nat) (xs : List At) (fc fm fa : Bool) (x14 x17 x6 : Value) (arr : Array Value) (W : World) : Prop where
  c : fc = true → ∃ A c, x14 = .slice A m c ∧ IsAtoms W 0 W.heap.size A m c xs
  m : fm = true → ∃ g, x17 = .slice (some ⟨g, 0, none⟩) m m ∧ IsNums W 0 W.heap.size (some ⟨g, 0, none⟩) m m (List.replicate m 0)
  a : fa = true → ∃ g, x6 = .pointer (some ⟨g, 0, none⟩) ∧ V.heap.size ≤ g ∧ Blk W g 214 arr
  zc : fc = false → x14 = undef
  zm : fm = false → x17 = undef
  za : fa = false → x6 = undef
  gr : Below V.heap.size V W
section
variable {V W W' : World} {m : Nat} {xs : List At} {fc fm fa : Bool} {x14 x17 x6 : Value} {arr : Array Value}
theorem IJ.below (h : IJ V m xs fc fm fa x14 x17 x6 arr W) (hb : Below W.heap.size W W') : IJ V m xs fc fm fa x14 x17 x6 arr W' :=
  ⟨fun e => by
    obtain ⟨A, c, e1, e2⟩ := h.c e; exact ⟨A, c, e1, e2.up AtomE.stays hb⟩, fun e => by
    obtain ⟨g, e1, e2⟩ := h.m e; exact ⟨g, e1, e2.up NumE.stays hb⟩, fun e => by
    obtain ⟨g, e1, e2, e3⟩ := h.a e; exact ⟨g, e1, e2, e3.below hb⟩, h.zc, h.zm, h.za, h.gr.trans (hb.mono h.gr.size)⟩
end
structure RS (w : World) (b6 gL nR : Nat) (T : List Nat) (C : Option Addr) (l e : Nat) (D : Option Addr) (l' f : Nat) (r : RdL) (W : World) : Prop where
  xr : Blk W w.heap.size 214 #[.slice none 0 0, .slice none 0 0]
  xb : Blk W b6 214 #[.slice C l e, .slice D l' f]
  fa : IsAtoms W 0 W.heap.size C l e (zbb r)
  nu : IsNums W 0 W.heap.size D l' f (zbh r)
  lv : IntRow W gL nR T
  gr : Below w.heap.size w W
  h1 : w.heap.size < b6
  h2 : b6 < gL
section
variable {w W W' : World} {b6 gL nR : Nat} {T : List Nat} {C D C' D' : Option Addr} {l e l' f k1 k2 k3 k4 : Nat} {r r' : RdL}
theorem RS.below (h : RS w b6 gL nR T C l e D l' f r W) (hb : Below W.heap.size W W') : RS w b6 gL nR T C l e D l' f r W' :=
  ⟨h.xr.below hb, h.xb.below hb, h.fa.up AtomE.stays hb, h.nu.up NumE.stays hb, h.lv.below hb, h.gr.trans (hb.mono h.gr.size), h.h1, h.h2⟩
theorem RS.drew (h : RS w b6 gL nR T C l e D l' f r W) : RS w b6 gL nR T C l e D l' f r W.drew := h.below (Below.refl _ _).drew
theorem RS.put (h : RS w b6 gL nR T C l e D l' f r W) (ha : IsAtoms W 0 W.heap.size C' k1 k2 (zbb r')) (hn : IsNums W 0 W.heap.size D' k3 k4 (zbh r')) :
    RS w b6 gL nR T C' k1 k2 D' k3 k4 r' ((W.setCell ⟨b6, 0, none⟩ (.slice C' k1 k2)).setCell ⟨b6, 1, none⟩ (.slice D' k3 k4)) := by
  have a1 := h.h1; have a2 := h.h2; have hs : ((W.setCell ⟨b6, 0, none⟩ (.slice C' k1 k2)).setCell ⟨b6, 1, none⟩ (.slice D' k3 k4)).heap.size = W.heap.size := qbl; have hk : ∀ b, b ≠ b6 → ((W.setCell ⟨b6, 0, none⟩ (.slice C' k1 k2)).setCell ⟨b6, 1, none⟩ (.slice D' k3 k4)).heap[b]? = W.heap[b]? := fun b hb => (hs_ _ _ _ b hb).trans (hs_ _ _ _ b hb)
  exact ⟨(h.xr.far (p := ⟨b6, 0, none⟩) (by show w.heap.size ≠ b6; omega) _).far (p := ⟨b6, 1, none⟩) (by show w.heap.size ≠ b6; omega) _, (h.xb.set 0 _).set 1 _,
    ha.box h.xb (But.store W b6 _ _) (by rw [hs]; exact nl _), hn.box h.xb (But.store W b6 _ _) (by rw [hs]; exact nl _), h.lv.keep (hk gL qaa),
    (h.gr.setCell (p := ⟨b6, 0, none⟩) (by show w.heap.size ≤ b6; omega) _).setCell (p := ⟨b6, 1, none⟩) (by show w.heap.size ≤ b6; omega) _, h.h1, h.h2⟩
end
def RunPost (x : RdL × Bool) (w : World) (e : Ending) (w' : World) : Prop :=
  ∃ (C : Option Addr) (l c : Nat) (D : Option Addr) (l' f : Nat), e = .returned (.tuple #[.agg #[.slice C l c, .slice D l' f], .bool x.2]) ∧ IsAtoms w' 0 w'.heap.size C l c (zbb x.1) ∧ IsNums w' 0 w'.heap.size D l' f (zbh x.1) ∧ Below w.heap.size w w'
theorem roundsR_given (xs : List At) : zbh (xs.map fun a => (a, 0)) = List.replicate xs.length 0 := by
  unfold zbh; rw [List.map_map]
  induction xs with
  | nil => rfl
  | cons x xs ih => rw [List.map_cons, ih]; rfl
theorem zmg (xs : List At) : zbb (xs.map fun a => (a, 0)) = xs := by
  unfold zbb; rw [List.map_map]; exact List.map_id _
theorem putL_rises : ∀ (ys : List At) {xs : List At}, zaj xs = true → zaj (ys.foldl zed xs) = true
  | [], _, h => h
  | _ :: ys, _, h => putL_rises ys (zha h)
theorem levels_cons {rs : List Rl} {T : List Nat} {ls : List Nat} {lvl nn : Nat} {r : RdL} (h : lvl < ls.length) (hl : ls[lvl]? = some lvl) : zfs rs T (ls.drop lvl) nn r = if (zcu rs T lvl 302 nn r).2.2 = true then zfs rs T (ls.drop (lvl + 1)) (zcu rs T lvl 302 nn r).2.1 (zcu rs T lvl 302 nn r).1 else ((zcu rs T lvl 302 nn r).1, false) := by
  have h2 := List.drop_eq_getElem_cons h; have h3 : ls[lvl] = lvl := by rw [List.getElem?_eq_getElem h] at hl; injection hl
  rw [h2, h3]; rfl
theorem level_step {rs : List Rl} {T : List Nat} {lvl f n : Nat} {r r' : RdL} (hr : roundL rs T lvl (n + 1) r = r') : zcu rs T lvl (f + 1) n r = if 300 < r'.length then (r', n + 1, false) else if r'.length = r.length then (r', n, true) else zcu rs T lvl f (n + 1) r' := by
  subst hr; rfl
theorem l4Run_any (A : Option Addr) (n c : Nat) (rs : List Rl) (B : Option Addr) (m d : Nat) (xs : List At) (w : World) (h1 : zap w 0 w.heap.size A n c rs) (h2 : IsAtoms w 0 w.heap.size B m d xs)
    (hr : zaj xs = true) (hf : RulesFit rs) (hn : n ≤ 8) (hm : m ≤ 300) (hsm : zay m xs) :
    Calls Tryz.prog 187 #[.slice A n c, .slice B m d] w (RunPost (runL rs (zfd rs) xs) w) := by
  have L1 := hid h1.1; have L2 := hid h2.1; have H1 := hid h1; have H2 := hid h2; have HRR := hid hr; have HF := hid hf; have HSM := hid hsm; clear h1 h2 hr hf hsm; obtain ⟨i0, hi, hz, hsz, hby⟩ := info_parts Tryz.infoInt
  have j8 : ∀ W : World, (Instr.makeSlice 84 (.int .i64 (m : Int)) (.int .i64 (m : Int))).run Tryz.prog W = .ok (.slice (some ⟨W.heap.size, 0, none⟩) m m) (W.alloc (.cells (madeCells #[.int .i64 0] (m * 1)) 3)) := by
    intro W; have hr := run_make (P := Tryz.prog) W 84 3 i0 _ Tryz.underlying84 hi hz .i64 .i64 m m qaa (Int.le_refl _) (by rw [hby]; omega) qaa; rw [hsz] at hr; exact hr
  clear hi hz hsz hby; have hb1 := zac w (.cells #[.slice none 0 0, .slice none 0 0] 214); have h5 := Blk.new w 214 #[.slice none 0 0, .slice none 0 0]; obtain ⟨w1, g1⟩ : ∃ w1, w.alloc (.cells #[.slice none 0 0, .slice none 0 0] 214) = w1 := ⟨_, rfl⟩; have l5 : w.heap.size + 1 = w1.heap.size := by rw [← g1]; simp
  rw [g1] at hb1 h5; have l8 := hid g1; clear g1; obtain ⟨T, hT⟩ : ∃ T, zfd rs = T := ⟨_, rfl⟩; rw [hT]; obtain ⟨X, hX⟩ : ∃ X, runL rs T xs = X := ⟨_, rfl⟩; rw [hX]; have HT := hid hT; have HX := hid hX; clear hT hX; go_enter Tryz.func187, Tryz.ntmps187; go_wp2_with (rw [l8.out]); obtain ⟨V, hV⟩ : ∃ V, w1.drew = V := ⟨_, rfl⟩; have hVz : w.heap.size + 1 = V.heap.size := by rw [← hV]; exact l5
  have hVw : Below w.heap.size w V := hV ▸ hb1.drew; have xrV : Blk V w.heap.size 214 #[.slice none 0 0, .slice none 0 0] := hV ▸ h5; have HV0 := hid hV; clear hV hb1 h5 l5; refine wp_region_held_drew (S := fun _ => True) qab trivial ?_; rw [HV0.out]; intro hS_; refine tk 0 (.slice B m d) hS_ ?_; refine tk 2 (.slice B m d) hS_ ?_; refine tk 3 (.int .i64 (m : Int)) hS_ ?_; have J0 : IJ V m xs false false false undef undef undef #[.slice none 0 0, .slice none 0 0] V := ⟨fun e => qar, fun e => qar, fun e => qar, fun _ => rfl, fun _ => rfl, fun _ => rfl, Below.refl _ _⟩
  have bel : ∀ W, Below V.heap.size V W → Below w.heap.size w W := fun W hb => hVw.trans (hb.mono qaa); clear hS_; refine zem (I := fun (L : Array Bool) (a : Act) (W : World) => ∃ (fc fm fa fb fs : Bool) (a8 a7 x6 b3 : Value) (arr : Array Value), L = #[true, fc, true, true, fm, fb, fa, fs] ∧ a = ⟨#[.slice A n c, .slice B m d, undef, undef, .pointer (some ⟨w.heap.size, 0, none⟩), .bool false, x6, undef, undef, undef, undef, undef, undef, .slice B m d, a8, .slice B m d, .int .i64 (m : Int), a7, b3, undef, undef, undef, undef, undef, undef, undef, undef, undef, undef, undef, undef, undef, undef, undef, undef, undef, undef, undef, undef, undef, undef, undef, undef, undef, undef, undef, undef, undef, undef, undef, undef, undef, undef, undef, undef, undef, undef, undef, undef, undef, undef, undef, undef, undef], []⟩ ∧ (fb = true → b3 = .agg #[a8, a7] ∧ fc = true ∧ fm = true) ∧ (fs = true → fb = true ∧ fa = true) ∧ arr = (if fs = true then #[a8, a7] else #[.slice none 0 0, .slice none 0 0]) ∧ IJ V m xs fc fm fa a8 a7 x6 arr W) (fun _ _ _ _ => trivial) ?step ?fin _ _ _ _ ?lf ⟨false, false, false, false, false, undef, undef, undef, undef, _, rfl, rfl, fun e => qar, fun e => qar, rfl, J0⟩
  case lf => decide
  case step =>
    rintro L a W i o ⟨fc, fm, fa, fb, fs, a8, a7, x6, b3, arr, rfl, rfl, eb, es, rfl, J⟩ ho h0 hd K hK; have hi8 : i < 8 := qbt; have o2 : i = 0 ∨ i = 1 ∨ i = 2 ∨ i = 3 ∨ i = 4 ∨ i = 5 ∨ i = 6 ∨ i = 7 := qaa; have i3 : fb = false → fs = false := fun e => by cases fs with | false => rfl | true => have := (es rfl).1; rw [e] at this; cases this
    have o0 : fa = false → fs = false := fun e => by cases fs with | false => rfl | true => have := (es rfl).2; rw [e] at this; cases this
    rcases o2 with rfl | rfl | rfl | rfl | rfl | rfl | rfl | rfl
    all_goals (injection ho with ho; subst ho)
    · simp at h0
    · have hf : fc = false := qbg
      subst hf
      have b9 : fb = false := by
        cases fb with
        | false => rfl
        | true => have := (eb rfl).2.1; cases this
      have b5 := i3 b9; subst b9; subst b5; have J := (show IJ V m xs _ _ _ _ _ _ #[.slice none 0 0, .slice none 0 0] W from J); rw [if_pos qad]; go_simp; go_at_call 141; have hbW := bel _ J.gr; have hszW := hbW.size; refine (zcz B m d xs W ((H2.out.below AtomE.stays hbW (nl _)).keep AtomE.stays (fun _ _ _ => rfl) (nl _) hszW) HSM.out).mono ?_; rintro e1 w9 ⟨A9, c9, rs9, rfl, h9, hm9, hb9⟩; have hJ := J.below hb9; have hat : IsAtoms w9 0 w9.heap.size A9 m c9 xs := by have := h9.atoms; rw [hm9, L2.out] at this; exact this.keep AtomE.stays (fun _ _ _ => rfl) (Nat.zero_le _) (nl _)
      rw [L2.out]; exact hK.out _ _ ⟨true, fm, fa, false, false, _, a7, x6, b3, _, rfl, rfl, fun e => qar, fun e => qar, rfl, ⟨fun _ => ⟨A9, c9, rfl, hat⟩, hJ.m, hJ.a, fun e => qar, hJ.zm, hJ.za, hJ.gr⟩⟩
    · simp at h0
    · simp at h0
    · have hf : fm = false := qbg
      subst hf
      have b9 : fb = false := by
        cases fb with
        | false => rfl
        | true => have := (eb rfl).2.2; cases this
      have b5 := i3 b9; subst b9; subst b5; have J := (show IJ V m xs _ _ _ _ _ _ #[.slice none 0 0, .slice none 0 0] W from J); rw [if_pos qad]; have h8 := j8 W; rw [Nat.mul_one] at h8; go_simp; have hJ := J.below (zac W (.cells (madeCells #[.int .i64 0] m) 3)); exact hK.out _ _ ⟨fc, true, fa, false, false, a8, _, x6, b3, _, rfl, rfl, fun e => qar, fun e => qar, rfl, ⟨hJ.c, fun _ => ⟨_, rfl, nums_made W m qaf⟩, hJ.a, hJ.zc, fun e => qar, hJ.za, hJ.gr⟩⟩
    · have d0 := hd ⟨1, .data⟩ qag rfl
      have d1 := hd ⟨4, .data⟩ qag rfl; have hc : fc = true := by simpa using d0
      have d9 : fm = true := qdu; have hf : fb = false := qbg; have b5 := i3 hf; subst hc; subst d9; subst hf; subst b5; obtain ⟨A9, c9, q1, -⟩ := J.c rfl; obtain ⟨g9, q2, -⟩ := J.m rfl; subst q1; subst q2; clear hd h0; rw [if_pos qad]; go_simp; exact hK.out _ _ ⟨true, true, fa, true, false, _, _, x6, _, _, rfl, rfl, fun _ => ⟨rfl, rfl, rfl⟩, fun e => qar, rfl, J⟩
    · have hf : fa = false := qbg
      subst hf; have b5 := o0 rfl; subst b5; have J := (show IJ V m xs _ _ _ _ _ _ #[.slice none 0 0, .slice none 0 0] W from J); rw [if_pos qad]; go_simp; have hJ := J.below (zac W (.cells #[.slice none 0 0, .slice none 0 0] 214)); exact hK.out _ _ ⟨fc, fm, true, fb, false, a8, a7, _, b3, _, rfl, rfl, eb, fun e => qar, rfl, ⟨hJ.c, hJ.m, fun _ => ⟨_, rfl, J.gr.size, Blk.new W _ _⟩, hJ.zc, hJ.zm, fun e => qar, hJ.gr⟩⟩
    · have d0 := hd ⟨5, .data⟩ qag rfl
      have d1 := hd ⟨6, .data⟩ qag rfl; have g8 : fb = true := by simpa using d0
      have ha : fa = true := qdu; have hf : fs = false := qbg; subst g8; subst ha; subst hf; obtain ⟨hx, hc, d9⟩ := eb rfl; subst hx; subst hc; subst d9; obtain ⟨A9, c9, q1, i1⟩ := J.c rfl; obtain ⟨g9, q2, i2⟩ := J.m rfl; obtain ⟨b6, q3, a6, xb⟩ := J.a rfl; subst q1; subst q2; subst q3; clear hd h0; have xb := (show Blk W b6 214 #[.slice none 0 0, .slice none 0 0] from xb); have r2 : W.cell? ⟨b6, 0, none⟩ = some (.slice none 0 0) := xb.cell 0; have r3 : W.cell? ⟨b6, 1, none⟩ = some (.slice none 0 0) := xb.cell 1; have r4 := xb.frozen 0; have r5 := xb.frozen 1; rw [if_pos qad]
      go_simp; have hs : ((W.setCell ⟨b6, 0, none⟩ (.slice A9 m c9)).setCell ⟨b6, 1, none⟩ (.slice (some ⟨g9, 0, none⟩) m m)).heap.size = W.heap.size := qbl; exact hK.out _ _ ⟨true, true, true, true, true, _, _, _, _, _, rfl, rfl, fun _ => ⟨rfl, rfl, rfl⟩, fun _ => ⟨rfl, rfl⟩, rfl, ⟨fun _ => ⟨A9, c9, rfl, i1.box xb (But.store W b6 _ _) (by rw [hs]; exact nl _)⟩, fun _ => ⟨g9, rfl, i2.box xb (But.store W b6 _ _) (by rw [hs]; exact nl _)⟩, fun _ => ⟨b6, rfl, a6, (xb.set 0 _).set 1 _⟩, fun e => qar, fun e => qar, fun e => qar, (J.gr.setCell (p := ⟨b6, 0, none⟩) a6 _).setCell (p := ⟨b6, 1, none⟩) a6 _⟩⟩
  case fin =>
    rintro L a W ⟨fc, fm, fa, fb, fs, a8, a7, x6, b3, arr, rfl, rfl, eb, es, rfl, J⟩ hr; have up := all_up qab rfl hr; have hl : fs = true := up 7 qan; subst hl; obtain ⟨g8, ha⟩ := es rfl; subst g8; subst ha; obtain ⟨hx, hc, d9⟩ := eb rfl; subst hx; subst hc; subst d9; obtain ⟨C0, e0, q1, i1⟩ := J.c rfl; obtain ⟨g0, q2, i2⟩ := J.m rfl; obtain ⟨b6, q3, a6, xb⟩ := J.a rfl; subst q1; subst q2; subst q3; have g5 := bel _ J.gr; have h7 := g5.size; have KR := hid ((H1.out.below RuleE.stays g5 (nl _)).keep RuleE.stays (w' := W) (lo' := 0) (hi' := W.heap.size) (fun _ _ _ => rfl) (nl _) h7); have S0 := hid (show Blk W w.heap.size 214 #[.slice none 0 0, .slice none 0 0] ∧ Blk W b6 214 #[.slice C0 m e0, .slice (some ⟨g0, 0, none⟩) m m] ∧ IsAtoms W 0 W.heap.size C0 m e0 (zbb (xs.map fun a => (a, 0))) ∧ IsNums W 0 W.heap.size (some ⟨g0, 0, none⟩) m m (zbh (xs.map fun a => (a, 0))) ∧ Below w.heap.size w W from ⟨xrV.below (J.gr), xb, by rw [zmg]; exact i1, by rw [roundsR_given, L2.out]; exact i2, g5⟩)
    have g7 : w.heap.size < b6 := qaa; have c0 : b6 < W.heap.size := xb.lt; clear J up hr i1 i2 xb eb es g5 j8 a6; go_wp2_with fail; refine (zmd A n c rs W KR.out hn (fun r hr => (HF.out r hr).2.1)).mono ?_; rintro e1 w2 ⟨rfl, e6, hb2⟩; rw [HT.out] at e6; have R0 := hid (show RS w b6 W.heap.size n T C0 m e0 (some ⟨g0, 0, none⟩) m m (xs.map fun a => (a, 0)) w2 from ⟨S0.out.1.below hb2, S0.out.2.1.below hb2, S0.out.2.2.1.up AtomE.stays hb2, S0.out.2.2.2.1.up NumE.stays hb2, e6, S0.out.2.2.2.2.trans (hb2.mono h7), g7, c0⟩); obtain ⟨gL, l0⟩ : ∃ g, W.heap.size = g := ⟨_, rfl⟩; rw [l0] at R0 ⊢; have HLT := hid e6.1
    clear S0 KR e6 hb2 h7 c0 l0; go_wp2; go_loopw [8, 9] (fun nv lv wr => ∃ (lvl nn : Nat) (C : Option Addr) (l e : Nat) (D : Option Addr) (l' f : Nat) (r : RdL), lvl ≤ n + 1 ∧ lv = .int .i64 (lvl : Int) ∧ nv = .int .i64 (nn : Int) ∧ RS w b6 gL n T C l e D l' f r wr ∧ zfs rs T ((List.range (rs.length + 1)).drop lvl) nn r = X ∧ r.length ≤ 300 ∧ nn ≤ r.length ∧ zaj (zbb r) = true) (fun _ lv _ => n + 1 - (intOf lv).toNat)
    case atStart => exact ⟨0, 0, _, _, _, _, _, _, _, Nat.zero_le _, rfl, rfl, R0.out, HX.out, by rw [List.length_map, L2.out]; exact hm, Nat.zero_le _, by rw [zmg]; exact HRR.out⟩
    case round =>
      clear R0 HX; obtain ⟨lvl, nn, C, l, e, D, l', f, r, e6, rfl, rfl, hS, hX, d7, o3, hri⟩ := hrel; have HS := hid hS; have HX := hid hX; have c7 := hid hri; have hgw := hS.gr.size; by_cases hlt : lvl < n + 1
      · have i4 : (lvl : Int) ≤ (n : Int) := qaa
        have d4 := hid (levels_cons (rs := rs) (T := T) (ls := List.range (rs.length + 1)) (lvl := lvl) (nn := nn) (r := r) (by rw [List.length_range, L1.out]; exact hlt) (by rw [List.getElem?_range (by rw [L1.out]; exact hlt)])); clear hS hX hri; go_wp2; go_loopw [8] (fun nv wr => ∃ (nk fu : Nat) (C : Option Addr) (l e : Nat) (D : Option Addr) (l' f : Nat) (r' : RdL), nv = .int .i64 (nk : Int) ∧ RS w b6 gL n T C l e D l' f r' wr ∧ zcu rs T lvl fu nk r' = zcu rs T lvl 302 nn r ∧ 301 ≤ fu + r'.length ∧ r'.length ≤ 300 ∧ nk ≤ r'.length ∧ zaj (zbb r') = true) (fun _ wr => match wr.cell? ⟨b6, 0, none⟩ with | some (.slice _ len _) => 301 - len | _ => 0)
        case atStart => exact ⟨nn, 302, C, l, e, D, l', f, r, rfl, HS.out, rfl, by omega, d7, o3, c7.out⟩
        case round =>
          clear HS c7; obtain ⟨nk, fu, Ck, lk, ek, Dk, lk2, fk, rk, rfl, hS, hE, hfu, l2, hnk, hri⟩ := hrel; have i7 : lk = rk.length := by rw [← hS.fa.1]; unfold zbb; rw [List.length_map]
          have HLR := hid i7; have HS := hid hS; have HE := hid hE; have c7 := hid hri; have n6 : w.heap.size ≤ wr.heap.size := hS.gr.size; have y0 : wr.cell? ⟨b6, 0, none⟩ = some (.slice Ck lk ek) := hS.xb.cell 0; have y1 : wr.cell? ⟨b6, 1, none⟩ = some (.slice Dk lk2 fk) := hS.xb.cell 1; have hwk : IntKind.i64.wrap ((nk : Int) + 1) = ((nk + 1 : Nat) : Int) := qao; have l1 : lk ≤ 300 := qaa; have hP := hid (show (lk + 1) ^ 4 ≤ 8589934592 from Nat.le_trans (Nat.pow_le_pow_left (show lk + 1 ≤ 301 by omega) 4) qan); have KR := hid ((H1.out.below RuleE.stays hS.gr (nl _)).keep RuleE.stays (w' := wr) (lo' := 0) (hi' := wr.heap.size) (fun _ _ _ => rfl) (nl _) n6)
          have n0 := hid y0; clear hS hE hri i7; go_wp2_with fail; refine (l4Once_any A n c rs gL T lvl Ck lk ek (zbb rk) wr KR.out HS.out.lv HS.out.fa c7.out HF.out hn hP.out).mono ?_; rintro e1 w4 ⟨A4, c4, rm, rfl, h4, hm4, hb4⟩; obtain ⟨ML, e8⟩ : ∃ ML, onceL rs T lvl (zbb rk) = ML := ⟨_, rfl⟩; rw [e8] at hm4
          have j9 : rm.length ≤ n * 8589934592 := by
            have h1 := once_len (rs := rs) (T := T) (level := lvl) (M := 8589934592) (xs := zbb rk) (fun r hr => rows_len HS.out.fa.1 (HF.out r hr).2.1 hP.out) n (by rw [L1.out]; exact nl _); rw [onceI_all (by rw [L1.out]; exact nl _), e8, ← hm4, List.length_map] at h1; exact h1
          have a9 : IsAtoms w4 0 w4.heap.size A4 rm.length c4 ML := by have := h4.atoms; rw [hm4] at this; exact this
          obtain ⟨M, hM⟩ : ∃ M, rm.length = M := ⟨_, rfl⟩; rw [hM] at j9 a9 ⊢; have hM8 : M ≤ 68719476736 := qaa; have m9 := hid e8; have g6 := hid a9; have k5 := hid (HS.out.below hb4); have hz4 := hb4.size; clear h4 hm4 hb4 e8 a9 y0 y1 j9 hM KR HS; go_wp2; go_loopw [12] (fun x wr => ∃ (i : Nat) (C : Option Addr) (l e : Nat) (D : Option Addr) (l' f : Nat) (rj : RdL), i ≤ M ∧ x = .int .i64 (i : Int) ∧ RS w b6 gL n T C l e D l' f rj wr ∧ IsAtoms wr 0 wr.heap.size A4 M c4 ML ∧ rj = (ML.take i).foldl (fun r a => zek r a (nk + 1)) rk) (fun x _ => M - (intOf x).toNat)
          case atStart => exact ⟨0, Ck, lk, ek, Dk, lk2, fk, rk, Nat.zero_le _, rfl, k5.out, g6.out, rfl⟩
          case round =>
            clear k5 g6; obtain ⟨i, C, l, e, D, l', f, rj, hi, rfl, hS, b7, g2⟩ := hrel; have HS := hid hS; have g6 := hid b7; have k6 := hid g2; have hlj := zpe (nk + 1) (ML.take i) rk; rw [← g2] at hlj; have hlen : rj.length ≤ 300 + i := by have := hlj.2; rw [List.length_take] at this; omega
            have o1 := hlj.1; have l3 : l = rj.length := by rw [← hS.fa.1]; unfold zbb; rw [List.length_map]
            have HLL := hid l3; have h6 : l ≤ 137438953472 := qaa; have a5 := hid (show zaj (zbb rj) = true from by rw [g2, zka]; exact putL_rises _ c7.out); have y0 : wr.cell? ⟨b6, 0, none⟩ = some (.slice C l e) := hS.xb.cell 0; have y1 : wr.cell? ⟨b6, 1, none⟩ = some (.slice D l' f) := hS.xb.cell 1; have y2 := hS.xr.cell 0; have y3 := hS.xr.cell 1; have y4 := hS.xr.frozen 0; have y5 := hS.xr.frozen 1; clear g2 l3 hlj; by_cases hlM : i < M
            · have m0 : (i : Int) < (M : Int) := qaa
              obtain ⟨p, a, hA, l6, l7, j7, hE⟩ := b7.at_ hlM; obtain ⟨A5, n5, c5, d1, d0, d2, d3⟩ := hE.out; subst hA; have m3 := hid j7; have D0 := hid d0; obtain ⟨V, hV⟩ : ∃ V, wr.drew = V := ⟨_, rfl⟩; have hVz : wr.heap.size = V.heap.size := qbx; have e7 := hid (show RS w b6 gL n T C l e D l' f rj V from hV ▸ hS.drew); have n7 := hid (show IsAtoms V 0 V.heap.size (some p) M c4 ML from hV ▸ (b7.keep AtomE.stays (w' := wr.drew) (lo' := 0) (hi' := wr.drew.heap.size) (fun _ _ _ => rfl) (nl _) (nl _))); have x1 : V.cell? (p.add (i * 2)) = some (.string a.1) := hV ▸ d1; have x2 : V.cell? ⟨(p.add (i * 2)).block, (p.add (i * 2)).off + 1, none⟩ = some (.slice A5 n5 c5) := hV ▸ d2
              have x3 : V.cell? ⟨b6, 0, none⟩ = some (.slice C l e) := hV ▸ y0; have x4 : V.cell? ⟨b6, 1, none⟩ = some (.slice D l' f) := hV ▸ y1; have KT := hid (show IsTerms V 0 V.heap.size A5 n5 c5 a.2 from hV ▸ (d3.keep (w' := wr.drew) (lo' := 0) (hi' := wr.drew.heap.size) (fun _ _ _ => rfl) (nl _) (nl _))); have c3 : (p.add (i * 2)).block ≠ b6 := zpu e7.out.xb x1 qem; have HV0 := hid hV; clear hE j7 d0 d3 l6 l7 hS b7 hV y2 y3 y4 y5; go_wp2_with fail; refine wp_region_held_drew (S := fun W => W.cell? (p.add (i * 2)) = some (.string a.1) ∧ W.cell? ⟨(p.add (i * 2)).block, (p.add (i * 2)).off + 1, none⟩ = some (.slice A5 n5 c5)) qab (by rw [HV0.out]; exact ⟨x1, x2⟩) ?_
              rw [HV0.out]; intro hS_; refine tk 1 (.slice (some p) M c4) hS_ ?_; refine tk 2 (.int .i64 (i : Int)) hS_ ?_; refine tk 3 (.pointer (some (p.add (i * 2)))) hS_ ?_; refine tk 4 (.agg #[.string a.1, .slice A5 n5 c5]) hS_ ?_; refine tk 5 (.int .i64 ((nk + 1 : Nat) : Int)) hS_ ?_; refine rd1 0 fun K_ hK_ => ?_; go_simp; refine hK_.out _ _ ⟨x1, x2⟩ fun hS_ => ?_; clear hK_; refine rd1 6 fun K_ hK_ => ?_; go_simp; go_at_call 196; refine (l4Put_any C l e D l' f rj a.1 A5 n5 c5 a.2 (nk + 1) V e7.out.fa e7.out.nu D0.out KT.out a5.out h6).mono ?_; rintro e1 w6 ⟨C6, k1, k2, D6, k3, k4, rfl, i6, j6, a6⟩
              have b4 := e7.out.below a6; have i8 := n7.out.up AtomE.stays a6; have z1 : w6.cell? (p.add (i * 2)) = some (.string a.1) := Holds.below a6 _ _ x1; have z2 : w6.cell? ⟨(p.add (i * 2)).block, (p.add (i * 2)).off + 1, none⟩ = some (.slice A5 n5 c5) := Holds.below a6 _ _ x2; have z3 : w6.cell? ⟨b6, 0, none⟩ = some (.slice C l e) := b4.xb.cell 0; have z4 : w6.cell? ⟨b6, 1, none⟩ = some (.slice D l' f) := b4.xb.cell 1; have z5 := b4.xb.frozen 0; have z6 := b4.xb.frozen 1; refine hK_.out _ _ ⟨z1, z2⟩ fun hS_ => ?_; clear hK_; refine rd1 7 fun K_ hK_ => ?_; go_simp; have n3 := hid (b4.put (r' := zek rj (a.1, a.2) (nk + 1)) i6 j6)
              have m7 := hid (IsAtoms.box (hi' := ((w6.setCell ⟨b6, 0, none⟩ (.slice C6 k1 k2)).setCell ⟨b6, 1, none⟩ (.slice D6 k3 k4)).heap.size) i8 b4.xb (But.store w6 b6 (.slice C6 k1 k2) (.slice D6 k3 k4)) qbc); have u1 := But.store w6 b6 (.slice C6 k1 k2) (.slice D6 k3 k4) _ _ c3 z1; have u2 := But.store w6 b6 (.slice C6 k1 k2) (.slice D6 k3 k4) _ _ (show (⟨(p.add (i * 2)).block, (p.add (i * 2)).off + 1, none⟩ : Addr).block ≠ b6 from c3) z2; refine hK_.out _ _ ⟨u1, u2⟩ (fun hS2_ => ?_); refine wpAnyH_done qab ?_ _; have hnext := hid (show zek rj (a.1, a.2) (nk + 1) = (ML.take (i + 1)).foldl (fun r a => zek r a (nk + 1)) rk from by rw [zif _ _ m3.out, ← k6.out])
              clear hK_ hS_ hS2_ u1 u2 z1 z2 z3 z4 z5 z6 x1 x2 x3 x4 b4 i8 i6 j6 a6 y0 y1; go_wp2; go_roundw
              case rel => exact ⟨i + 1, C6, k1, k2, D6, k3, k4, _, by omega, by go_num, n3.out, m7.out, hnext.out⟩
              case measure => exact qms
            · have hiM : i = M := qaa
              have a4 : roundL rs T lvl (nk + 1) rk = rj := by
                rw [k6.out]; unfold roundL; rw [m9.out, List.take_of_length_le (by rw [b7.1]; omega)]
              obtain ⟨fv, rfl⟩ : ∃ fv, fu = fv + 1 := ⟨fu - 1, by omega⟩; have hstep := level_step (f := fv) a4; rw [HE.out] at hstep; have i5 := hid hstep; have HC := hid d4.out; have j0 : IsAtoms ((wr.setCell ⟨w.heap.size, 0, none⟩ (.slice C l e)).setCell ⟨w.heap.size, 1, none⟩ (.slice D l' f)) 0 ((wr.setCell ⟨w.heap.size, 0, none⟩ (.slice C l e)).setCell ⟨w.heap.size, 1, none⟩ (.slice D l' f)).heap.size C l e (zbb rj) := hS.fa.box hS.xr (But.store wr w.heap.size _ _) qbc; have l4 : IsNums ((wr.setCell ⟨w.heap.size, 0, none⟩ (.slice C l e)).setCell ⟨w.heap.size, 1, none⟩ (.slice D l' f)) 0 ((wr.setCell ⟨w.heap.size, 0, none⟩ (.slice C l e)).setCell ⟨w.heap.size, 1, none⟩ (.slice D l' f)).heap.size D l' f (zbh rj) := hS.nu.box hS.xr (But.store wr w.heap.size _ _) qbc
              have k0 : Below w.heap.size w ((wr.setCell ⟨w.heap.size, 0, none⟩ (.slice C l e)).setCell ⟨w.heap.size, 1, none⟩ (.slice D l' f)) := (hS.gr.setCell (p := ⟨w.heap.size, 0, none⟩) (nl _) _).setCell (p := ⟨w.heap.size, 1, none⟩) (nl _) _; have m5 := hid j0; have m6 := hid l4; have n4 := hid k0; clear hS b7 a4 hstep j0 l4 k0; by_cases hbig : 300 < l
              · have m4 : (300 : Int) < (l : Int) := qaa
                have a3 : X = (rj, false) := by
                  have h1 := i5.out; rw [if_pos (by have := HLL.out; omega)] at h1; rw [← HX.out, HC.out, h1]; rfl
                have a2 := hid a3; clear a3; go_wp2; refine bodyPost_ret (v := .tuple #[.agg #[.slice C l e, .slice D l' f], .bool false]) (by simp [results, Tryz.results187, go_sem, y2, y3]) rfl ⟨C, l, e, D, l', f, by rw [a2.out], by rw [a2.out]; exact m5.out, by rw [a2.out]; exact m6.out, n4.out⟩
              · have m4 : ¬ (300 : Int) < (l : Int) := qaa
                by_cases hsame : l = lk
                · have l9 : (l : Int) = (lk : Int) := qaa
                  have hwm : IntKind.i64.wrap (((nk + 1 : Nat) : Int) - 1) = (nk : Int) := qao
                  have a3 : zfs rs T ((List.range (rs.length + 1)).drop (lvl + 1)) nk rj = X := by
                    have h1 := i5.out; rw [if_neg (by have := HLL.out; omega), if_pos qeq] at h1; rw [← HX.out, HC.out, h1]; rfl
                  have a2 := hid a3; clear a3; subst hsame; go_wp2; go_roundw
                  case rel => exact ⟨lvl + 1, nk, C, _, e, D, l', f, rj, by omega, by go_num, by go_num, HS.out, a2.out, by have := HLL.out; omega, by omega, a5.out⟩
                  case measure => exact qms
                · have l9 : ¬ (l : Int) = (lk : Int) := qaa
                  have hgt : lk < l := qeq
                  have a3 : zcu rs T lvl fv (nk + 1) rj = zcu rs T lvl 302 nn r := by
                    have h1 := i5.out; rw [if_neg (by have := HLL.out; omega), if_neg qeq] at h1; exact h1.symm
                  have a2 := hid a3; clear a3; go_wp2; go_roundw
                  case rel => exact ⟨nk + 1, fv, C, l, e, D, l', f, rj, by go_num, HS.out, a2.out, by have := HLL.out; have := HLR.out; omega, by have := HLL.out; omega, by have := HLL.out; have := HLR.out; omega, a5.out⟩
                  case measure => rw [y0, n0.out]; show 301 - l < 301 - lk; omega
      · have hln : lvl = n + 1 := qaa
        have a3 : X = (r, true) := by
          rw [← hX, List.drop_eq_nil_of_le (by rw [List.length_range, L1.out]; omega)]; rfl
        have a2 := hid a3; have y0 : wr.cell? ⟨b6, 0, none⟩ = some (.slice C l e) := hS.xb.cell 0; have y1 : wr.cell? ⟨b6, 1, none⟩ = some (.slice D l' f) := hS.xb.cell 1; have y2 := hS.xr.cell 0; have y3 := hS.xr.cell 1; have y4 := hS.xr.frozen 0; have y5 := hS.xr.frozen 1; have i4 : ¬ (lvl : Int) ≤ (n : Int) := qaa; clear a3 hS hX; go_wp2; have hS := HS.out; refine bodyPost_ret (v := .tuple #[.agg #[.slice C l e, .slice D l' f], .bool true]) (by simp [results, Tryz.results187, go_sem, y2, y3]) rfl ⟨C, l, e, D, l', f, by rw [a2.out], by rw [a2.out]; exact hS.fa.box hS.xr (But.store wr w.heap.size _ _) qbc, by rw [a2.out]; exact hS.nu.box hS.xr (But.store wr w.heap.size _ _) qbc, (hS.gr.setCell (p := ⟨w.heap.size, 0, none⟩) (nl _) _).setCell (p := ⟨w.heap.size, 1, none⟩) (nl _) _⟩
def fitB (xs ls : List At) : Bool := ls.all fun a => xs.all fun b => zcb b a
theorem ZFitSpec0 {p : Prop} (h : p := by
  go_wp2_with fail; go_quiet (fail); go_wp2; go_roundw
  case rel => exact ⟨k + 1, by omega, by go_num, HP.out, hbk.os, hbk.tape, hbk.output, hbk.size, hbk.block⟩
  case measure => exact qms) : p := h
theorem l3Fit_any (A : Option Addr) (n c : Nat) (rs : List Rl) (B : Option Addr) (m d : Nat) (ls : List At) (w : World) (h : zap w 0 w.heap.size A n c rs) (h' : IsAtoms w 0 w.heap.size B m d ls) (hn : n ≤ 8) (h4 : ∀ r ∈ rs, r.2.length ≤ 4) :
    Calls Tryz.prog 143 #[.slice A n c, .slice B m d] w (zas (fitB (zda rs) ls) w) := by
  have c7 := h'.len; unfold maxLen at c7; have H := hid h; have H4 := hid h4; have b9 := hid h'.1; have H' := hid h'; have hlen := Nat.le_trans (zke rs h4) (Nat.mul_le_mul_left 5 (show rs.length ≤ 8 by rw [h.1]; exact hn)); obtain ⟨xs, a5⟩ : ∃ xs, zda rs = xs := ⟨_, rfl⟩; obtain ⟨z, hz⟩ : ∃ z, xs.length = z := ⟨_, rfl⟩; rw [a5, hz] at hlen; have b5 := hid a5; have HM := hid hz; clear h h' h4 a5 hz; rw [b5.out]; go_enter Tryz.func143, Tryz.ntmps143; go_wp2_with fail; refine (zow A n c rs _ H.out hn H4.out).mono ?_; rintro e w1 ⟨A', c', rfl, hI, hb1⟩
  rw [b5.out, HM.out] at hI ⊢; have HI := hid hI; clear hI; have HJ := hid (H'.out.up AtomE.stays hb1); go_wp2; go_loopw [6] (fun x wr => ∃ i : Nat, i ≤ m ∧ x = .int .i64 (i : Int) ∧ (∀ a ∈ ls.take i, (xs.all fun b => zcb b a) = true) ∧ Below w1.heap.size w1 wr) (fun x _ => m - (intOf x).toNat)
  case atStart => exact ⟨0, Nat.zero_le _, rfl, fun q hq => by simp at hq, Below.refl _ _⟩
  case round =>
    obtain ⟨i, him, rfl, hS, hb⟩ := hrel; have HS := hid hS; clear hS; by_cases hlt : i < m
    · have e7 : (i : Int) < (m : Int) := qaa
      obtain ⟨a, b6⟩ : ∃ a, ls[i]? = some a := ⟨_, List.getElem?_eq_getElem (by rw [b9.out]; exact hlt)⟩; have a7 := hid b6; clear b6; go_wp2; obtain ⟨w2, d7⟩ : ∃ w2 : World, w2 = wr := ⟨_, rfl⟩; subst d7; go_loopw [7] (fun x wr => ∃ k : Nat, k ≤ z ∧ x = .int .i64 (k : Int) ∧ (∀ b ∈ xs.take k, zcb b a = true) ∧ Below w1.heap.size w1 wr) (fun x _ => z - (intOf x).toNat)
      case atStart => exact ⟨0, Nat.zero_le _, rfl, fun q hq => by simp at hq, hb⟩
      case round =>
        obtain ⟨k, hkz, rfl, c3, hbk⟩ := hrel; have a8 := hid c3; clear c3; by_cases hlk : k < z
        · have d4 : (k : Int) < (z : Int) := qaa
          obtain ⟨p, a9, hA, _, _, a2, b7⟩ := (HJ.out.below AtomE.stays hbk (nl _)).at_ hlt; obtain rfl : a9 = a := Option.some.inj (a2.symm.trans a7.out); obtain ⟨p', b, e8, _, _, hgb, c0⟩ := (HI.out.below AtomE.stays hbk (nl _)).at_ hlk; obtain ⟨A1, n1, c1, a1, _, a3, a4⟩ := b7.out; obtain ⟨A2, n2, c2, b1, _, b3, b4⟩ := c0.out; clear b7 c0 a2; subst e8; subst hA; have a6 := hid hgb; have N1 := hid a4.1; have N2 := hid b4.1; clear hgb a4 b4; obtain ⟨bb, e6⟩ : ∃ bb, (b.1.toList == a9.1.toList) = bb := ⟨_, rfl⟩; have HB := hid (znf e6); cases bb
          · have HP := hid (zfb (P := fun b => zcb b a9 = true) a6.out a8.out (by unfold zcb; rw [← HB.out]; rfl))
            exact ZFitSpec0
          · by_cases hnn : n2 = n1
            · have HP := hid (zfb (P := fun b => zcb b a9 = true) a6.out a8.out (by unfold zcb; rw [← HB.out, N1.out, N2.out, hnn]; simp))
              subst hnn; exact ZFitSpec0
            · have HP : Hid (fitB xs ls = false) := hid (all_no (f := fun a => xs.all fun b => zcb b a) (List.mem_of_getElem? a7.out) (all_no (f := fun b => zcb b a9) (List.mem_of_getElem? a6.out) (by unfold zcb; rw [← HB.out, N1.out, N2.out, decide_eq_false hnn]; rfl)))
              have e1 : ((n2 : Int) == (n1 : Int)) = false := beq_eq_false_iff_ne.2 (fun e => hnn qaa); have e2 : ((n2 : Int) != (n1 : Int)) = true := by rw [bne, e1]; rfl
              have e3 : (n2 == n1) = false := by simpa using hnn
              go_wp2_with fail; go_quiet (fail); go_wp2; go_ret; exact ⟨zdb HP.out.symm, zaa hb1 ⟨hbk.os, hbk.tape, hbk.output, hbk.size, hbk.block⟩⟩
        · have d9 : k = z := qaa
          subst d9; have HN := hid (zfb (P := fun a => (xs.all fun b => zcb b a) = true) a7.out HS.out (zlq (f := fun b => zcb b a) HM.out a8.out)); go_wp2; go_roundw
          case rel => exact ⟨i + 1, by omega, by go_num, HN.out, hbk⟩
          case measure => exact qms
    · have g0 : i = m := qaa
      subst g0; have HA : Hid (fitB xs ls = true) := hid (zlq (f := fun a => xs.all fun b => zcb b a) b9.out HS.out); go_wp2; go_ret; exact ⟨zdb HA.out.symm, zaa hb1 hb⟩
def zmt (rs : List Rl) (xs : List At) : Bool := decide (zdl rs = 0) && (zag 40 xs && fitB (zda rs) xs)
def zil (rs : List Rl) (xs : List At) : List At × Bool :=
  if zmt rs xs = true then (if (runL rs (zfd rs) xs).2 = true then (zbb (runL rs (zfd rs) xs).1, true) else ([], false)) else ([], false)
theorem zgw {rs : List Rl} (h : zdl rs = 0) : RulesFit rs ∧ rs.length ≤ 8 := by
  obtain ⟨h1, h2⟩ := prog_fine h; refine ⟨fun r hr => ?_, h2⟩; obtain ⟨e1, e2, e3⟩ := zgb (List.all_eq_true.1 h1 r hr); exact ⟨by have := zdp e2; omega, e3, fun q hq => by have := rule_three e1 q hq; omega⟩
theorem zcs {m : Nat} {xs : List At} (hm : m ≤ 1048576) (h : zag m xs = true) : zay xs.length xs := by
  have hl := zaw h; refine ⟨by omega, fun q hq => ?_⟩; unfold zag at h; simp only [Bool.and_eq_true] at h; have h1 := List.all_eq_true.1 h.1.1 q hq; unfold zby at h1; rw [Bool.and_eq_true] at h1; have := zdp h1.2; omega
theorem l4Ok_any (A : Option Addr) (n c : Nat) (rs : List Rl) (B : Option Addr) (m d : Nat) (xs : List At) (w : World) (h1 : zap w 0 w.heap.size A n c rs) (h2 : IsAtoms w 0 w.heap.size B m d xs) :
    Calls Tryz.prog 186 #[.slice A n c, .slice B m d] w (zas (zmt rs xs) w) := by
  have H1 := hid h1; have H2 := hid h2; have L1 := hid h1.1; clear h1 h2; go_enter Tryz.func186, Tryz.ntmps186; go_wp2_with fail; refine (zdj A n c rs w H1.out).mono ?_; rintro e1 w1 ⟨rfl, hb1⟩; by_cases hp : zdl rs = 0
  · obtain ⟨hf, a4⟩ := zgw hp
    have HF := hid hf; have HP := hid hp; rw [hp]; have K1 := hid (H1.out.up RuleE.stays hb1); have K2 := hid (H2.out.up AtomE.stays hb1); have HB1 := hid hb1; have a5 := hid a4; clear hp hf hb1 a4; go_wp2_with fail; refine (l3Ok_any B m d xs 40 w1 K2.out).mono ?_; rintro e2 w2 ⟨rfl, hb2⟩; have HB2 := hid (zaa HB1.out hb2); have M1 := hid (K1.out.up RuleE.stays hb2); have M2 := hid (K2.out.up AtomE.stays hb2); obtain ⟨fo, a2⟩ : ∃ fo, zag 40 xs = fo := ⟨_, rfl⟩; have a3 := hid a2; rw [a2]; clear a2 hb2
    cases fo with
    | false =>
      go_wp2; go_ret
      exact ⟨zdb (by unfold zmt; rw [a3.out]; simp), HB2.out⟩
    | true =>
      go_wp2_with fail; refine (l3Fit_any A n c rs B m d xs w2 M1.out M2.out (by rw [← L1.out]; exact a5.out) (fun r hr => (HF.out r hr).2.1)).mono ?_; rintro e3 w3 ⟨rfl, hb3⟩; have HB3 := hid (zaa HB2.out hb3); clear hb3; go_wp2; go_ret; exact ⟨zdb (by unfold zmt; rw [a3.out, HP.out]; simp), HB3.out⟩
  · have hpI : ¬ ((zdl rs : Nat) : Int) = 0 := qaa
    have hno := hid (show false = zmt rs xs from by unfold zmt; rw [decide_eq_false hp]; rfl); have HB1 := hid hb1; clear hp hb1; go_wp2; go_ret; exact ⟨zdb hno.out, HB1.out⟩
def EvalPost (x : List At × Bool) (w : World) (e : Ending) (w' : World) : Prop :=
  ∃ (C : Option Addr) (l c : Nat), e = .returned (.tuple #[.slice C l c, .bool x.2]) ∧ IsAtoms w' 0 w'.heap.size C l c x.1 ∧ Below w.heap.size w w'
theorem no_atoms (w : World) (k : Nat) : IsAtoms w 0 w.heap.size (some ⟨k, 0, none⟩) 0 0 [] := ⟨rfl, nl _, by unfold maxLen; omega, fun h => by omega⟩
theorem specEval_any (A : Option Addr) (n c : Nat) (rs : List Rl) (B : Option Addr) (m d : Nat) (xs : List At) (w : World) (h1 : zap w 0 w.heap.size A n c rs) (h2 : IsAtoms w 0 w.heap.size B m d xs) :
    Calls Tryz.prog 168 #[.slice A n c, .slice B m d] w (EvalPost (zil rs xs) w) := by
  have H1 := hid h1; have H2 := hid h2; have L1 := hid h1.1; have L2 := hid h2.1; clear h1 h2; obtain ⟨X, hX⟩ : ∃ X, zil rs xs = X := ⟨_, rfl⟩; have HX := hid hX; rw [hX]; clear hX; go_enter Tryz.func168, Tryz.ntmps168; go_wp2_with fail; refine (l4Ok_any A n c rs B m d xs w H1.out H2.out).mono ?_; rintro e1 w1 ⟨rfl, hb1⟩; have K1 := hid (H1.out.up RuleE.stays hb1); have K2 := hid (H2.out.up AtomE.stays hb1); have HB1 := hid hb1; obtain ⟨ok, a7⟩ : ∃ ok, zmt rs xs = ok := ⟨_, rfl⟩; have a5 := hid a7; rw [a7]; have b6 := zac w1 (.cells #[] 51)
  have a3 := no_atoms (w1.alloc (.cells #[] 51)) w1.heap.size; have b4 := hid a3; have b9 := hid (zaa hb1 b6); clear a7 hb1 b6 a3
  cases ok with
  | false =>
    have hx := hid (show X = ([], false) from by rw [← HX.out]; unfold zil; rw [a5.out, if_neg qag]); go_wp2
    refine bodyPost_ret (v := .tuple #[.slice (some ⟨w1.heap.size, 0, none⟩) 0 0, .bool false]) qct rfl ⟨_, 0, 0, by rw [hx.out], by rw [hx.out]; exact b4.out, b9.out⟩
  | true =>
    have hp : zdl rs = 0 ∧ zag 40 xs = true := by
      have := a5.out; unfold zmt at this; simp only [Bool.and_eq_true, decide_eq_true_eq] at this; exact ⟨this.1, this.2.1⟩
    obtain ⟨hp, a6⟩ := hp; obtain ⟨hf, b7⟩ := zgw hp; have b5 := zcs qaa a6; rw [L2.out] at b5; have c0 : m ≤ 40 := by rw [← L2.out]; exact zaw a6
    have hn : n ≤ 8 := by rw [← L1.out]; exact b7
    have a2 := zat a6; have HF := hid hf; have HSM := hid b5; have c3 := hid a2; clear hp a6 hf b7 b5 a2; go_wp2_with fail; refine (l4Run_any A n c rs B m d xs w1 K1.out K2.out c3.out HF.out hn qaa HSM.out).mono ?_; rintro e2 w2 ⟨C, l, e, D, l', f, rfl, i2, j2, hb2⟩; obtain ⟨⟨r, c7⟩, hR⟩ : ∃ R, runL rs (zfd rs) xs = R := ⟨_, rfl⟩; rw [hR] at i2; rw [hR]; have HR := hid hR; have I2 := hid i2; have HB2 := hid (HB1.out.trans (hb2.mono HB1.out.size)); clear hR i2 j2 hb2; have a4 := zac w2 (.cells #[.slice C l e, .slice D l' f] 214); have b3 := Blk.new w2 214 #[.slice C l e, .slice D l' f]
    obtain ⟨w3, a9⟩ : ∃ w3, w2.alloc (.cells #[.slice C l e, .slice D l' f] 214) = w3 := ⟨_, rfl⟩; rw [a9] at a4 b3; have HQ3 := hid a9; have I3 := hid (I2.out.up AtomE.stays a4); have HB3 := hid (HB2.out.trans (a4.mono HB2.out.size)); have y0 : w3.cell? ⟨w2.heap.size, 0, none⟩ = some (.slice C l e) := b3.cell 0; clear a9 b3 a4
    cases c7 with
    | false =>
      have hx := hid (show X = ([], false) from by rw [← HX.out]; unfold zil; rw [a5.out, if_pos rfl, HR.out, if_neg qag]); have a8 := hid (no_atoms (w3.alloc (.cells #[] 51)) w3.heap.size); have hb4 := hid (HB3.out.trans ((zac w3 (.cells #[] 51)).mono HB3.out.size)); go_wp2_with (rw [HQ3.out])
      refine bodyPost_ret (v := .tuple #[.slice (some ⟨w3.heap.size, 0, none⟩) 0 0, .bool false]) qct rfl ⟨_, 0, 0, by rw [hx.out], by rw [hx.out]; exact a8.out, hb4.out⟩
    | true =>
      have hx := hid (show X = (zbb r, true) from by rw [← HX.out]; unfold zil; rw [a5.out, if_pos rfl, HR.out, if_pos rfl]); go_wp2_with (rw [HQ3.out]); refine bodyPost_ret (v := .tuple #[.slice C l e, .bool true]) qct rfl ⟨C, l, e, by rw [hx.out], by rw [hx.out]; exact I3.out, HB3.out⟩
theorem zky (A : Option Addr) (n c : Nat) (rs : List Rl) (B : Option Addr) (m d : Nat) (xs : List At) (w : World) (h1 : zap w 0 w.heap.size A n c rs) (h2 : IsAtoms w 0 w.heap.size B m d xs) :
    Calls Tryz.prog 148 #[.slice A n c, .slice B m d] w (zas (zil rs xs).2 w) := by
  have H1 := hid h1; have H2 := hid h2; clear h1 h2; go_enter Tryz.func148, Tryz.ntmps148; go_wp2_with fail; refine (specEval_any A n c rs B m d xs w H1.out H2.out).mono ?_; rintro e1 w1 ⟨C, l, c1, rfl, -, hb1⟩; have HB1 := hid hb1; clear hb1; go_wp2; go_ret; exact ⟨rfl, HB1.out⟩
def ChPost (cs gs : List At) (w : World) (e : Ending) (w' : World) : Prop :=
  ∃ (A : Option Addr) (c : Nat) (B : Option Addr) (d : Nat), e = .returned (.agg #[.slice A cs.length c, .slice B gs.length d]) ∧ IsAtoms w' w.heap.size w'.heap.size A cs.length c cs ∧ IsAtoms w' w.heap.size w'.heap.size B gs.length d gs ∧ Below w.heap.size w w'
theorem zcd {xs : List At} {w w' : World} {A : Option Addr} {c : Nat} {rs : List Rf} (h : OwnRefs w' w.heap.size w'.heap.size A xs.length c rs) (hm : rs.map rAt = xs) : IsAtoms w' w.heap.size w'.heap.size A xs.length c xs := by
  have := h.atoms; rw [hm] at this; exact this
theorem zcy (A : Option Addr) (n c : Nat) (cs : List At) (B : Option Addr) (m d : Nat) (gs : List At) (w : World) (h1 : IsAtoms w 0 w.heap.size A n c cs) (h2 : IsAtoms w 0 w.heap.size B m d gs) (s1 : zay n cs) (s2 : zay m gs) :
    Calls Tryz.prog 139 #[.agg #[.slice A n c, .slice B m d]] w (ChPost cs gs w) := by
  have H1 := hid h1; have H2 := hid h2; have S1 := hid s1; have S2 := hid s2; clear h1 h2 s1 s2; have a4 := zbj w (.cells #[.slice A n c, .slice B m d] 25) (.cells #[.slice none 0 0, .slice none 0 0] 25); have xa := (Blk.new w 25 #[.slice A n c, .slice B m d]).alloc (.cells #[.slice none 0 0, .slice none 0 0] 25); have xr := Blk.made (b := w.heap.size + 1) (w.alloc (.cells #[.slice A n c, .slice B m d] 25)) 25 #[.slice none 0 0, .slice none 0 0] qag
  obtain ⟨w2, a2⟩ : ∃ w2, (w.alloc (.cells #[.slice A n c, .slice B m d] 25)).alloc (.cells #[.slice none 0 0, .slice none 0 0] 25) = w2 := ⟨_, rfl⟩; rw [a2] at a4 xa xr; have hz2 : w2.heap.size = w.heap.size + 2 := by rw [← a2]; simp
  have a7 := hid a2; clear a2; go_enter Tryz.func139, Tryz.ntmps139; go_wp2_with (rw [a7.out]); obtain ⟨V, hV⟩ : ∃ V, w2.drew = V := ⟨_, rfl⟩; have hVz : w2.heap.size = V.heap.size := qbx; have hVw : Below w.heap.size w V := hV ▸ a4.drew; have x0 : V.cell? ⟨w.heap.size, 0, none⟩ = some (.slice A n c) := hV ▸ xa.cell 0; have x1 : V.cell? ⟨w.heap.size, 1, none⟩ = some (.slice B m d) := hV ▸ xa.cell 1; have xrV : Blk V (w.heap.size + 1) 25 #[.slice none 0 0, .slice none 0 0] := hV ▸ xr; have HV0 := hid hV
  have hzV := hVw.size; clear hV a4 xa xr; refine wp_region_held_drew (S := fun W => W.cell? ⟨w.heap.size, 0, none⟩ = some (.slice A n c) ∧ W.cell? ⟨w.heap.size, 1, none⟩ = some (.slice B m d)) qab (by rw [HV0.out]; exact ⟨x0, x1⟩) ?_; rw [HV0.out]; intro hS_; refine tk 0 (.pointer (some ⟨w.heap.size, 0, none⟩)) hS_ ?_; refine tk 1 (.slice A n c) hS_ ?_; refine tk 3 (.pointer (some ⟨w.heap.size, 1, none⟩)) hS_ ?_; refine tk 4 (.slice B m d) hS_ ?_; refine rd1 2 fun K_ hK_ => ?_; go_simp; go_at_call 141; refine (zcz A n c cs V ((H1.out.below AtomE.stays hVw (nl _)).keep AtomE.stays (fun _ _ _ => rfl) (nl _) hzV) S1.out).mono ?_; rintro e1 w4 ⟨A4, c4, r4, rfl, h4, m4, hb4⟩
  have hz4 := hb4.size; have a5 := hVw.trans (hb4.mono hzV); have I4 := hid (zcd h4 m4); have a8 := xrV.below hb4; have y0 := (hb4.cell (p := ⟨w.heap.size, 0, none⟩) qak).trans x0; have y1 := (hb4.cell (p := ⟨w.heap.size, 1, none⟩) qak).trans x1; refine hK_.out _ _ ⟨y0, y1⟩ fun hS_ => ?_; clear hK_; refine rd1 5 fun K_ hK_ => ?_; go_simp; go_at_call 141; refine (zcz B m d gs w4 ((H2.out.below AtomE.stays a5 (nl _)).keep AtomE.stays (fun _ _ _ => rfl) (nl _) qaa) S2.out).mono ?_; rintro e1 w5 ⟨A5, c5, r5, rfl, h5, m5, hb5⟩; have hz5 := hb5.size; have hV5 := a5.trans (hb5.mono qaa)
  have I5 := hid (zcd h5 m5); have xr5 := a8.below hb5; have z0 := (hb5.cell (p := ⟨w.heap.size, 0, none⟩) qak).trans y0; have z1 := (hb5.cell (p := ⟨w.heap.size, 1, none⟩) qak).trans y1; refine hK_.out _ _ ⟨z0, z1⟩ fun hS_ => ?_; clear hK_; refine tk 6 (.agg #[.slice A4 cs.length c4, .slice A5 gs.length c5]) hS_ ?_; have v0 := xr5.cell 0; have v1 := xr5.cell 1; have v2 := xr5.frozen 0; have v3 := xr5.frozen 1; refine rd1 7 fun K_ hK_ => ?_; go_simp; have hk9 : ∀ b, b ≠ w.heap.size + 1 → ((w5.setCell ⟨w.heap.size + 1, 0, none⟩ (.slice A4 cs.length c4)).setCell ⟨w.heap.size + 1, 1, none⟩ (.slice A5 gs.length c5)).heap[b]? = w5.heap[b]? := fun b hb => (hs_ _ _ _ b hb).trans (hs_ _ _ _ b hb)
  have a3 := (xr5.set 0 (.slice A4 cs.length c4)).set 1 (.slice A5 gs.length c5); have hb9 : Below w.heap.size w ((w5.setCell ⟨w.heap.size + 1, 0, none⟩ (.slice A4 cs.length c4)).setCell ⟨w.heap.size + 1, 1, none⟩ (.slice A5 gs.length c5)) := (hV5.setCell (p := ⟨w.heap.size + 1, 0, none⟩) (Nat.le_succ _) _).setCell (p := ⟨w.heap.size + 1, 1, none⟩) (Nat.le_succ _) _; have a6 : ((w5.setCell ⟨w.heap.size + 1, 0, none⟩ (.slice A4 cs.length c4)).setCell ⟨w.heap.size + 1, 1, none⟩ (.slice A5 gs.length c5)).heap.size = w5.heap.size := qbl; obtain ⟨w9, hq9⟩ : ∃ w9, (w5.setCell ⟨w.heap.size + 1, 0, none⟩ (.slice A4 cs.length c4)).setCell ⟨w.heap.size + 1, 1, none⟩ (.slice A5 gs.length c5) = w9 := ⟨_, rfl⟩
  rw [hq9] at a3 hb9 hk9 a6; rw [hq9]; clear hq9; have J4 := hid ((I4.out.below AtomE.stays hb5 (nl _)).keep AtomE.stays (w' := w9) (lo' := w.heap.size) (hi' := w9.heap.size) (fun q h1 _ => cb_ (hk9 _ qaa)) hzV qaa); have J5 := hid (I5.out.keep AtomE.stays (w' := w9) (lo' := w.heap.size) (hi' := w9.heap.size) (fun q h1 _ => cb_ (hk9 _ qaa)) qaa qaa); have t0 : w9.cell? ⟨w.heap.size, 0, none⟩ = some (.slice A n c) := (cb_ (hk9 w.heap.size qaa)).trans z0; have t1 : w9.cell? ⟨w.heap.size, 1, none⟩ = some (.slice B m d) := (cb_ (hk9 w.heap.size qaa)).trans z1; refine hK_.out _ _ ⟨t0, t1⟩ (fun hS2_ => ?_)
  refine wpAnyH_done qab ?_ _; have u0 := a3.cell 0; have u1 := a3.cell 1; have HB9 := hid hb9; clear hK_ hS_ hS2_ hb9 hk9 a3 t0 t1 z0 z1 y0 y1 v0 v1 v2 v3; go_wp2; refine bodyPost_ret (v := .agg #[.slice A4 cs.length c4, .slice A5 gs.length c5]) (by simp [results, Tryz.results139, go_sem, u0, u1]) rfl ⟨A4, c4, A5, c5, rfl, J4.out, J5.out, HB9.out⟩
theorem l7At_now (RA : Option Addr) (rn rc t : Nat) (GA : Option Addr) (gn gc : Nat) (gs : List At) (HA : Option Addr) (hn hc : Nat) (w : World) (h1 : IsAtoms w 0 w.heap.size GA gn gc gs) (s1 : zay gn gs) (ht : t ≤ 100000) (hht : hn ≤ t) :
    Calls Tryz.prog 165 #[.agg #[.slice RA rn rc, .int .i64 (t : Int), .slice GA gn gc, .slice HA hn hc], .int .i64 (t : Int)] w fun e w' => ∃ A c, e = .returned (.tuple #[.slice A gs.length c, .bool true]) ∧ IsAtoms w' w.heap.size w'.heap.size A gs.length c gs ∧ Below w.heap.size w w' := by
  have H1 := hid h1; have S1 := hid s1; clear h1 s1; have hb1 := zac w (.cells #[.slice RA rn rc, .int .i64 (t : Int), .slice GA gn gc, .slice HA hn hc] 119); have xa := Blk.new w 119 #[.slice RA rn rc, .int .i64 (t : Int), .slice GA gn gc, .slice HA hn hc]; obtain ⟨w1, a2⟩ : ∃ w1, w.alloc (.cells #[.slice RA rn rc, .int .i64 (t : Int), .slice GA gn gc, .slice HA hn hc] 119) = w1 := ⟨_, rfl⟩; rw [a2] at hb1 xa; have a5 := hid a2; have y1 : w1.cell? ⟨w.heap.size, 1, none⟩ = some (.int .i64 (t : Int)) := xa.cell 1
  have y2 : w1.cell? ⟨w.heap.size, 2, none⟩ = some (.slice GA gn gc) := xa.cell 2; have y3 : w1.cell? ⟨w.heap.size, 3, none⟩ = some (.slice HA hn hc) := xa.cell 3; have hwr : IntKind.i64.wrap ((t : Int) - (hn : Int)) = ((t - hn : Nat) : Int) := qao; have hle : ((t - hn : Nat) : Int) ≤ (t : Int) := qaa; have hwt : IntKind.i64.wrap ((t : Int) - (t : Int)) = 0 := qao; have K1 := hid (H1.out.up AtomE.stays hb1); have HB1 := hid hb1; have XA := hid xa; clear hb1 a2 xa; go_enter Tryz.func165, Tryz.ntmps165; go_wp2_with (rw [a5.out]); refine (in_any _ _ _ _).mono ?_; rintro e w' ⟨rfl, rfl⟩
  have a3 : (decide (((t - hn : Nat) : Int) ≤ (t : Int)) && decide ((t : Int) ≤ (t : Int))) = true := qag; rw [a3]; go_wp2_with fail; refine (zcz GA gn gc gs w1 K1.out S1.out).mono ?_; rintro e1 w4 ⟨A4, c4, r4, rfl, h4, m4, hb4⟩; have I4 := hid (zcd h4 m4); have y4 := (hb4.cell (p := ⟨w.heap.size, 1, none⟩) XA.out.lt).trans y1; have HB4 := hid (zaa HB1.out hb4); have a4 := HB1.out.size; clear h4 m4 hb4 y1 y2 y3; go_wp2; refine wp_loop_rounds 1 ?_; rw [rounds_succ]; go_wp2; refine bodyPost_ret (v := .tuple #[.slice A4 gs.length c4, .bool true]) (by simp [results, Tryz.results165, go_sem]) rfl ⟨A4, c4, rfl, I4.out.keep AtomE.stays (fun _ _ _ => rfl) a4 (nl _), HB4.out⟩
theorem do_facts {xs cs gs : List At} {k l : Nat} (hx : zag k xs = true) (hc : zag l cs = true) : zbn (doL xs cs gs) ∧ zaj (doL xs cs gs) = true ∧ (doL xs cs gs).length ≤ k + l := by
  have h1 : zbn (zbv xs gs) := fun a ha => zct hx a (List.mem_filter.1 ha).1; have h2 : zaj (zbv xs gs) = true := zkx (zat hx); obtain ⟨a1, a2, _, a4⟩ := puts_all h1 (zct hc) h2; refine ⟨a1, a2, ?_⟩; have := less_le xs gs; have := zaw hx; have := zaw hc; unfold doL; omega
theorem l7Sees_now (RA : Option Addr) (rn rc t : Nat) (GA : Option Addr) (gn gc : Nat) (gs : List At) (HA : Option Addr) (hn hc : Nat) (B : Option Addr) (m d : Nat) (cs : List At) (D : Option Addr) (m' d' : Nat) (ds : List At) (w : World) (h1 : IsAtoms w 0 w.heap.size GA gn gc gs) (h2 : IsAtoms w 0 w.heap.size B m d cs) (h3 : IsAtoms w 0 w.heap.size D m' d' ds) (hg : zag 40 gs = true) (hcs : zag 40 cs = true) (hds : zag 40 ds = true) (ht : t ≤ 100000) (hht : hn ≤ t) :
    Calls Tryz.prog 138 #[.agg #[.slice RA rn rc, .int .i64 (t : Int), .slice GA gn gc, .slice HA hn hc], .agg #[.int .i64 (t : Int), .slice B m d, .slice D m' d']] w (zkj (doL gs cs ds) w) := by
  have H1 := hid h1; have H2 := hid h2; have H3 := hid h3; have l1 : gs.length = gn := h1.1; have l2 : cs.length = m := h2.1; have HG := hid hg; have HC := hid hcs; have HD := hid hds; have a9 := zaw hg; have hcl := zaw hcs; have a8 : m ≤ 40 := qaa; have a6 : gn ≤ 40 := qaa; have HL1 := hid l1; have a2 := zbj w (.cells #[.slice RA rn rc, .int .i64 (t : Int), .slice GA gn gc, .slice HA hn hc] 119) (.cells #[.int .i64 (t : Int), .slice B m d, .slice D m' d'] 145); have xa := (Blk.new w 119 #[.slice RA rn rc, .int .i64 (t : Int), .slice GA gn gc, .slice HA hn hc]).alloc (.cells #[.int .i64 (t : Int), .slice B m d, .slice D m' d'] 145)
  have xt := Blk.made (b := w.heap.size + 1) (w.alloc (.cells #[.slice RA rn rc, .int .i64 (t : Int), .slice GA gn gc, .slice HA hn hc] 119)) 145 #[.int .i64 (t : Int), .slice B m d, .slice D m' d'] qag; obtain ⟨w2, a4⟩ : ∃ w2, (w.alloc (.cells #[.slice RA rn rc, .int .i64 (t : Int), .slice GA gn gc, .slice HA hn hc] 119)).alloc (.cells #[.int .i64 (t : Int), .slice B m d, .slice D m' d'] 145) = w2 := ⟨_, rfl⟩; rw [a4] at a2 xa xt; have a7 := hid a4; have y0 : w2.cell? ⟨w.heap.size, 0, none⟩ = some (.slice RA rn rc) := xa.cell 0
  have y1 : w2.cell? ⟨w.heap.size, 1, none⟩ = some (.int .i64 (t : Int)) := xa.cell 1; have y2 : w2.cell? ⟨w.heap.size, 2, none⟩ = some (.slice GA gn gc) := xa.cell 2; have y3 : w2.cell? ⟨w.heap.size, 3, none⟩ = some (.slice HA hn hc) := xa.cell 3; have z0 : w2.cell? ⟨w.heap.size + 1, 0, none⟩ = some (.int .i64 (t : Int)) := xt.cell 0; have K1 := hid (H1.out.up AtomE.stays a2); have a5 := hid a2; have XT := hid xt; clear a4 xa xt a2 h1 h2 h3 hg hcs hds l1 l2 a9 hcl; go_enter Tryz.func138, Tryz.ntmps138; go_wp2_with (rw [a7.out])
  refine (l7At_now RA rn rc t GA gn gc gs HA hn hc w2 K1.out qbq ht hht).mono ?_; rintro e1 w4 ⟨A4, c4, rfl, h4, hb4⟩; have z1 : w4.cell? ⟨w.heap.size + 1, 1, none⟩ = some (.slice B m d) := (XT.out.below hb4).cell 1; have z2 : w4.cell? ⟨w.heap.size + 1, 2, none⟩ = some (.slice D m' d') := (XT.out.below hb4).cell 2; have hz2 := a5.out.size; have HB4 := hid (a5.out.trans (hb4.mono hz2)); have a3 := HB4.out.size; have I4 := hid (h4.keep AtomE.stays (lo' := 0) (fun _ _ _ => rfl) (Nat.zero_le _) (nl _)); have K2 := hid ((H2.out.below AtomE.stays HB4.out (nl _)).keep AtomE.stays (w' := w4) (lo' := 0) (hi' := w4.heap.size) (fun _ _ _ => rfl) (nl _) a3)
  have K3 := hid ((H3.out.below AtomE.stays HB4.out (nl _)).keep AtomE.stays (w' := w4) (lo' := 0) (hi' := w4.heap.size) (fun _ _ _ => rfl) (nl _) a3); clear h4 hb4 y0 y1 y2 y3 z0; go_wp2_with fail; refine (l3Do_any A4 gs.length c4 gs B m d cs D m' d' ds w4 I4.out K2.out K3.out (zct HG.out) (zat HG.out) (zct HC.out) (zat HD.out) (by have := HL1.out; omega) qaa).mono ?_; rintro e1 w5 ⟨A5, c5, r5, rfl, h5, m5, hb5⟩; have J5 := hid (show OwnRefs w5 w.heap.size w5.heap.size A5 (doL gs cs ds).length c5 r5 from h5.keep (fun _ _ _ => rfl) a3 (nl _)); have M5 := hid m5; have HB5 := hid (HB4.out.trans (hb5.mono a3))
  clear h5 m5 hb5 z1 z2; go_wp2; go_ret; exact ⟨A5, c5, r5, rfl, J5.out, M5.out, HB5.out⟩
end Go.Proofs.YtogonjkklioaaaaGreatDoor
