/-
  Texts of one claim, put together.
-/
import Derived.Test.YtogonjkklioaaaaGreatDoorZq
import Derived.Test.YtogonjkklioaaaaGreatDoorLt29
import Derived.Test.YtogonjkklioaaaaGreatDoorLt27
import Derived.Test.YtogonjkklioaaaaGreatDoorLt28
import Derived.Test.YtogonjkklioaaaaGreatDoorLt31
import Derived.Deep.AppendLies
set_option maxRecDepth 100000
set_option maxHeartbeats 8000000
namespace Go.Proofs.YtogonjkklioaaaaGreatDoor
open Go.RowKit
structure SG (w : World) (cb lo hi : Nat) (vc vg : Value) (rc rg : List Rf) (W : World) : Prop where
  C : Blk W cb 25 #[vc, vg]
  G : W.ownsRow lo 51 2 vg rg.length (zai rg)
  K : W.ownsRow lo 51 2 vc rc.length (zai rc)
  NE : ∀ g, vg.ownBlock = some g → vc.ownBlock ≠ some g
  GI : OwnIn W lo hi rg
  KI : OwnIn W lo hi rc
  hc : w.heap.size ≤ cb
  h0 : cb < lo
  h1 : lo ≤ hi
  h3 : hi ≤ W.heap.size
  gr : Below w.heap.size w W
section
variable {w : World} {cb lo hi : Nat} {vc vg : Value} {rc rg : List Rf} {W W' : World} {r : Rf} {ob : Obj} {W9 : World} {g' n cap : Nat}
theorem SG.raise (h : SG w cb lo hi vc vg rc rg W) : SG w cb lo W.heap.size vc vg rc rg W :=
  ⟨h.C, h.G, h.K, h.NE, h.GI.keep (fun _ _ _ => rfl) (nl _) h.h3, h.KI.keep (fun _ _ _ => rfl) (nl _) h.h3, h.hc, h.h0, Nat.le_trans h.h1 h.h3, nl _, h.gr⟩
theorem SG.below (h : SG w cb lo hi vc vg rc rg W) (hb : Below W.heap.size W W') : SG w cb lo hi vc vg rc rg W' := by
  have h3 := h.h3; have a3 := hb.size; have hs := h.gr.size
  exact ⟨h.C.below hb, zan h.G hb, zan h.K hb, h.NE, h.GI.keep (fun b _ a2 => hb.block b qaa) (nl _) (nl _), h.KI.keep (fun b _ a2 => hb.block b qaa) (nl _) (nl _),
    h.hc, h.h0, h.h1, Nat.le_trans h3 a3, h.gr.trans (hb.mono hs)⟩
theorem zke {p : Prop} (h : p := by
  exact ⟨hgrow.os.trans hA.gr.os, hgrow.tape.trans hA.gr.tape, hgrow.output.trans hA.gr.output, by omega, fun k hk => (hgrow.block k qaa (fun e => by have := far k e.symm; omega)).trans (hA.gr.block k hk)⟩) : p := h
theorem SG.goes (h : SG w cb lo hi vc vg rc rg W) (hr : HeadApart W hi W.heap.size r)
    (hown : W9.ownsRow lo 51 2 (.slice (some ⟨g', 0, none⟩) n cap) (rg.length + 1) (zai rg ++ [.string r.1, .slice r.2.1 r.2.2.1 r.2.2.2.1])) (hgrow : (W.alloc ob).grownBy W9 vg.ownBlock) (hat : vg.ownBlock = some g' ∨ g' = W.heap.size + 1) :
    SG w cb lo W9.heap.size vc (.slice (some ⟨g', 0, none⟩) n cap) rc (rg ++ [r]) (W9.setCell ⟨cb, 1, none⟩ (.slice (some ⟨g', 0, none⟩) n cap)) := by
  have h0 := h.h0; have h1 := h.h1; have h3 := h.h3; have hs := h.gr.size; have hc := h.hc; have hb1 := zac W ob; have a3 := hgrow.size; have a6 := hb1.size; have hA := h.below hb1; have far : ∀ g, vg.ownBlock = some g → lo ≤ g := fun g hg => (hA.G.lt g hg).1; have i1 : OwnIn W lo W.heap.size (rg ++ [r]) := h.GI.snoc (fun _ _ _ => rfl) h3 hr.1 h1 hr.2.1 hr.2.2; have i2 : OwnIn W9 lo W9.heap.size (rg ++ [r]) := (i1.keep (w' := W.alloc ob) (fun b _ a2 => hb1.block b a2) (nl _) a6).appended hA.G hgrow a3; have j2 : OwnIn W9 lo W9.heap.size rc := (hA.KI.keep (fun _ _ _ => rfl) (nl _) hA.h3).appended hA.G hgrow a3
  have c9 : Blk W9 cb 25 #[vc, vg] := hA.C.kept hgrow (zbe hA.G hA.C); have a5 := zbe hown c9
  have a4 : vc.ownBlock = none ∨ vc.ownBlock ≠ vg.ownBlock := by
    cases hv : vg.ownBlock with
    | none => cases hv2 : vc.ownBlock with
      | none => exact .inl rfl
      | some g => exact .inr qag
    | some g => exact .inr (h.NE g hv)
  have k9 := hA.K.kept hgrow a4; refine ⟨c9.set 1 _, ?_, zdt k9 (zbe k9 c9) _, fun g hg hg2 => ?_, ?_, ?_, hc, h0, by omega, by rw [zab]; exact nl _, ?_⟩
  · rw [List.length_append, zcy]; exact zdt hown a5 _
  · simp [Value.ownBlock] at hg
    subst hg; rcases hat with e | e
    · exact h.NE g' e hg2
    · have := (h.K.lt g' hg2).2; omega
  · exact i2.keep (fun b a1 _ => hs_ _ _ _ b qdd) (nl _) (nl _)
  · exact j2.keep (fun b a1 _ => hs_ _ _ _ b qdd) (nl _) (nl _)
  · refine Below.setCell ?_ hc _
    exact zke
theorem SG.comes (h : SG w cb lo hi vc vg rc rg W) (hr : HeadApart W hi W.heap.size r)
    (hown : W9.ownsRow lo 51 2 (.slice (some ⟨g', 0, none⟩) n cap) (rc.length + 1) (zai rc ++ [.string r.1, .slice r.2.1 r.2.2.1 r.2.2.2.1])) (hgrow : (W.alloc ob).grownBy W9 vc.ownBlock) (hat : vc.ownBlock = some g' ∨ g' = W.heap.size + 1) :
    SG w cb lo W9.heap.size (.slice (some ⟨g', 0, none⟩) n cap) vg (rc ++ [r]) rg (W9.setCell ⟨cb, 0, none⟩ (.slice (some ⟨g', 0, none⟩) n cap)) := by
  have h0 := h.h0; have h1 := h.h1; have h3 := h.h3; have hs := h.gr.size; have hc := h.hc; have hb1 := zac W ob; have a3 := hgrow.size; have a6 := hb1.size; have hA := h.below hb1; have far : ∀ g, vc.ownBlock = some g → lo ≤ g := fun g hg => (hA.K.lt g hg).1; have i1 : OwnIn W lo W.heap.size (rc ++ [r]) := h.KI.snoc (fun _ _ _ => rfl) h3 hr.1 h1 hr.2.1 hr.2.2; have i2 : OwnIn W9 lo W9.heap.size (rc ++ [r]) := (i1.keep (w' := W.alloc ob) (fun b _ a2 => hb1.block b a2) (nl _) a6).appended hA.K hgrow a3; have j2 : OwnIn W9 lo W9.heap.size rg := (hA.GI.keep (fun _ _ _ => rfl) (nl _) hA.h3).appended hA.K hgrow a3
  have c9 : Blk W9 cb 25 #[vc, vg] := hA.C.kept hgrow (zbe hA.K hA.C); have a5 := zbe hown c9
  have a4 : vg.ownBlock = none ∨ vg.ownBlock ≠ vc.ownBlock := by
    cases hv : vg.ownBlock with
    | none => exact .inl rfl
    | some g => exact .inr (fun e => h.NE g hv e.symm)
  have k9 := hA.G.kept hgrow a4; refine ⟨c9.set 0 _, zdt k9 (zbe k9 c9) _, ?_, fun g hg hg2 => ?_, ?_, ?_, hc, h0, by omega, by rw [zab]; exact nl _, ?_⟩
  · rw [List.length_append, zcy]; exact zdt hown a5 _
  · simp [Value.ownBlock] at hg2
    subst hg2; rcases hat with e | e
    · exact h.NE g' hg e
    · have := (h.G.lt g' hg).2; omega
  · exact j2.keep (fun b a1 _ => hs_ _ _ _ b qdd) (nl _) (nl _)
  · exact i2.keep (fun b a1 _ => hs_ _ _ _ b qdd) (nl _) (nl _)
  · refine Below.setCell ?_ hc _
    exact zke
theorem SG.tells (h : SG w cb lo hi vc vg rc rg W) : ∃ A c B d, vc = .slice A rc.length c ∧ vg = .slice B rg.length d ∧ IsAtoms W lo W.heap.size A rc.length c (rc.map rAt) ∧ IsAtoms W lo W.heap.size B rg.length d (rg.map rAt) := by
  obtain ⟨A, c, e1, o1⟩ := OwnRefs.of_row (lo := lo) h.K rfl (nl _) (h.KI.keep (fun _ _ _ => rfl) (nl _) h.h3) (nl _); obtain ⟨B, d, e2, o2⟩ := OwnRefs.of_row (lo := lo) h.G rfl (nl _) (h.GI.keep (fun _ _ _ => rfl) (nl _) h.h3) (nl _); exact ⟨A, c, B, d, e1, e2, o1.atoms, o2.atoms⟩
end
theorem cuts_free (c : UInt8) : ∀ (n : Nat) (l : List UInt8), l.length ≤ n → ∀ x ∈ zfi c l, c ∉ x
  | n, l, hn => by
    rcases zfb c l with h | ⟨x, r, rfl, h⟩
    · rw [zdj h]; intro y hy; rw [List.mem_singleton.1 hy]; exact h
    · rw [zbz h]; intro y hy
      rcases List.mem_cons.1 hy with rfl | hy
      · exact h
      · cases n with
        | zero => simp at hn
        | succ n => exact cuts_free c n r (by simp at hn; omega) y hy
theorem join_on {x y : List UInt8} {r : List (List UInt8)} : Lib.join (x :: y :: r) [32] = x ++ 32 :: Lib.join (y :: r) [32] := by
  rw [Lib.join_cons, zgd, Lib.join_cons]; simp
theorem zos : ∀ (T : List Sg) (r : List (List UInt8)), r ≠ [] → Lib.join (T.map (fun z => z.1 :: zau z.2) ++ r) [32] = encS T ++ Lib.join r [32]
  | [], r, _ => by simp [encS]
  | z :: T, r, hr => by
    have ih := zos T r hr; rw [zby, List.map_cons, List.cons_append]
    cases hm : T.map (fun z => z.1 :: zau z.2) ++ r with
    | nil => simp at hm; exact absurd hm.2 hr
    | cons y q => rw [join_on, ← hm, ih]; simp
structure SAt (ws : List (List UInt8)) (k : Nat) (T : List Sg) (cs gs : List At) : Prop where
  len : T.length = k
  at_ : ∀ z ∈ T, zav z.2 = true
  wd : ws.take k = T.map fun z => z.1 :: zau z.2
  ec : cs = T.filterMap fun z => if z.1 = 45 then none else some z.2
  eg : gs = T.filterMap fun z => if z.1 = 45 then some z.2 else none
section
variable {ws : List (List UInt8)} {k : Nat} {T : List Sg} {cs gs : List At} {l : List UInt8}
theorem SAt.start (ws : List (List UInt8)) : SAt ws 0 [] [] [] := ⟨rfl, fun z h => by simp at h, by simp, rfl, rfl⟩
theorem SAt.text (h : SAt ws k T cs gs) (hl : zfi 32 l = ws) (hk : k < ws.length) : l = encS T ++ Lib.join (ws.drop k) [32] := by
  have h1 := cuts_join 32 l; rw [hl, ← List.take_append_drop k ws, h.wd, zos _ _ (fun e => by have := congrArg List.length e; simp at this; omega)] at h1; exact h1.symm
theorem SAt.goes {p : List UInt8} {a : At} (h : SAt ws k T cs gs) (hw : ws[k]? = some (45 :: p)) (hg : zjw p = some a) : SAt ws (k + 1) (T ++ [(45, a)]) cs (gs ++ [a]) := by
  obtain ⟨h1, h2, _⟩ := zjv hg; refine ⟨by rw [List.length_append, h.len]; rfl, fun z hz => ?_, by rw [List.take_add_one, hw, h.wd, List.map_append]; simp [h2], by rw [List.filterMap_append, ← h.ec]; simp, by rw [List.filterMap_append, ← h.eg]; simp⟩; rcases List.mem_append.1 hz with hz | hz
  · exact h.at_ z hz
  · rw [List.mem_singleton.1 hz]; exact h1
theorem SAt.comes {p : List UInt8} {a : At} {x : UInt8} (h : SAt ws k T cs gs) (hx : x ≠ 45) (hw : ws[k]? = some (x :: p)) (hg : zjw p = some a) : SAt ws (k + 1) (T ++ [(x, a)]) (cs ++ [a]) gs := by
  obtain ⟨h1, h2, _⟩ := zjv hg; refine ⟨by rw [List.length_append, h.len]; rfl, fun z hz => ?_, by rw [List.take_add_one, hw, h.wd, List.map_append]; simp [h2], by rw [List.filterMap_append, ← h.ec]; simp [hx], by rw [List.filterMap_append, ← h.eg]; simp [hx]⟩; rcases List.mem_append.1 hz with hz | hz
  · exact h.at_ z hz
  · rw [List.mem_singleton.1 hz]; exact h1
theorem SAt.none {x : List UInt8} (h : SAt ws k T cs gs) (hl : zfi 32 l = ws) (hk : k + 1 < ws.length) (hw : ws[k]? = some x) (hx : (32 : UInt8) ∉ x) (hno : ∀ y p, x = y :: p → zjw p = none) (us vs : List At) (hch : zao us vs = true) : l ≠ chL us vs := by
  intro he; obtain ⟨_, _, a1, a2⟩ := zbd hch; have ht := h.text hl qaa; rw [he, ← zcl] at ht; obtain ⟨V, h1, h2⟩ := zcz (zbq a1 a2) h.at_ ht; obtain ⟨a3, a6⟩ := List.getElem?_eq_some_iff.1 hw
  have hd : ws.drop k = x :: ws[k + 1] :: ws.drop (k + 2) := by
    rw [List.drop_eq_getElem_cons a3, a6, List.drop_eq_getElem_cons hk]
  rw [hd, join_on] at h2
  cases V with
  | nil => simp [encS] at h2
  | cons z V =>
    rw [zby] at h2; have hz := zbq a1 a2 z (by rw [h1]; simp)
    have a5 : z.1 ≠ 32 := by
      have hz : z ∈ sgs us vs := by rw [h1]; simp
      unfold sgs at hz; rcases List.mem_append.1 hz with hz | hz
      · obtain ⟨a, _, rfl⟩ := List.mem_map.1 hz; exact (show (45 : UInt8) ≠ 32 by decide)
      · obtain ⟨a, _, rfl⟩ := List.mem_map.1 hz; exact (show (43 : UInt8) ≠ 32 by decide)
    have a4 : (32 : UInt8) ∉ z.1 :: zau z.2 := fun hm => by
      rcases List.mem_cons.1 hm with hm | hm
      · exact a5 hm.symm
      · exact zeg hz hm
    obtain ⟨h3, _⟩ := zcd (a := x) (b := z.1 :: zau z.2) (by rw [h2]; rfl) hx a4; have h4 := hno z.1 (zau z.2) h3; rw [zju hz] at h4; cases h4
theorem SAt.all (h : SAt ws k T cs gs) (hl : zfi 32 l = ws) (hk : k + 1 = ws.length) (hb : ∀ x ∈ ws, (32 : UInt8) ∉ x) :
    (chB cs gs = l → zao cs gs = true ∧ l = chL cs gs) ∧ (chB cs gs ≠ l → ∀ us vs, zao us vs = true → l ≠ chL us vs) := by
  have ht := h.text hl qaa; have a4 : k < ws.length := qaa
  have hd : ws.drop k = [ws[k]] := by
    rw [List.drop_eq_getElem_cons a4, List.drop_of_length_le qaa]
  rw [hd, Lib.join_cons] at ht; rw [show Lib.joinTail [32] ([] : List (List UInt8)) = [] from rfl, List.append_nil] at ht; have a3 := hb ws[k] (List.getElem_mem a4); refine ⟨fun he => ?_, fun hne us vs hch he => ?_⟩
  · cases hc : zao cs gs
    · exfalso
      unfold chB at he; rw [hc, if_neg qag] at he; subst he; have h1 : ws = [[]] := by rw [← hl]; exact zdj qag
      have h2 : T = [] := List.eq_nil_of_length_eq_zero (by rw [h.len]; rw [h1] at hk; simp at hk; exact hk); rw [h.ec, h.eg, h2] at hc; revert hc; decide
    · unfold chB at he
      rw [hc, if_pos rfl] at he; exact ⟨rfl, he.symm⟩
  · obtain ⟨_, _, a1, a2⟩ := zbd hch
    rw [he, ← zcl] at ht; obtain ⟨V, h1, h2⟩ := zcz (zbq a1 a2) h.at_ ht
    cases V with
    | cons z V => rw [h2, zby] at a3; exact a3 qag
    | nil =>
      rw [List.append_nil] at h1; have e1 : cs = us := by rw [h.ec, ← h1]; unfold sgs; simp [List.filterMap_append, List.filterMap_map, Function.comp_def]
      have e2 : gs = vs := by rw [h.eg, ← h1]; unfold sgs; simp [List.filterMap_append, List.filterMap_map, Function.comp_def]
      apply hne; rw [e1, e2, he]; unfold chB; rw [if_pos hch]
end
def GetNPost (l : List UInt8) (w : World) (e : Ending) (w' : World) : Prop :=
  ∃ (A : Option Addr) (c n : Nat) (xs : List At) (B : Option Addr) (d m : Nat) (ys : List At) (ok : Bool), e = .returned (.tuple #[.agg #[.slice A n c, .slice B m d], .bool ok]) ∧
    IsAtoms w' w.heap.size w'.heap.size A n c xs ∧ IsAtoms w' w.heap.size w'.heap.size B m d ys ∧ Below w.heap.size w w' ∧
    (ok = true → zao xs ys = true ∧ l = chL xs ys) ∧ (ok = false → xs = [] ∧ ys = [] ∧ ∀ us vs, zao us vs = true → l ≠ chL us vs)
theorem zmi {p : Prop} (h : p := by
  go_roundw
  case rel => exact ⟨k + 1, _, _, _, _, _, _, by omega, by go_num, hM, by rw [List.map_append]; exact HS.out, by simp only [List.length_append, List.length_cons, List.length_nil]; omega, fun b h1 h2 => (hs_ _ _ _ b (by show b ≠ w.heap.size + 1; omega)).trans ((hgrow.out.block b (by have := (zac W6 (.cells #[.string r.1, .slice r.2.1 r.2.2.1 r.2.2.2.1] 51)).size; omega) (fun e => by have := hfar b e.symm; omega)).trans (((zac W6 _).block b qaa).trans ((HB6.out.block b qaa).trans (HK.out b h1 h2))))⟩
  case measure => exact qms) : p := h
theorem zkl (s : ByteArray) (w : World) (hs : s.size ≤ 1048576) :
    Calls Tryz.prog 14 #[.string s] w (GetNPost s.data.toList w) := by
  obtain ⟨i0, hi, hz, hsz, hby⟩ := info_parts Tryz.infoAt; have HI := hid hi; have HZ := hid hz; have HSZ := hid hsz; have HYY := hid hby; clear hi hz hsz hby; obtain ⟨ws, b3⟩ : ∃ x, zed 32 s = x := ⟨_, rfl⟩; have hwl : ws.length ≤ s.size + 1 := by rw [← b3]; exact zhj 32 s
  have hwz : ∀ x ∈ ws, x.size ≤ 1048576 := fun x hx => Nat.le_trans (zeq (c := 32) (s := s) (by rw [b3]; exact hx)) hs; have hwd : zfi 32 s.data.toList = ws.map (fun x => x.data.toList) := by rw [← b3]; exact (zft 32 s).symm
  have a4 : ∀ x ∈ ws.map (fun x => x.data.toList), (32 : UInt8) ∉ x := by rw [← hwd]; exact cuts_free 32 _ _ (nl _)
  have hw0 : 0 < ws.length := by
    have h1 := congrArg List.length hwd; rw [zfh] at h1; simp at h1; omega
  have j0 := hid b3; have i8 := hid hwz; have e8 := hid hwd; have h7 := hid a4; clear b3 hwz hwd a4; have g2 := zac w (.cells #[.slice none 0 0, .slice none 0 0] 25); have X0 := Blk.new w 25 #[.slice none 0 0, .slice none 0 0]; obtain ⟨w1, g7⟩ : ∃ w1, w.alloc (.cells #[.slice none 0 0, .slice none 0 0] 25) = w1 := ⟨_, rfl⟩; rw [g7] at g2 X0; have h8 : w1.heap.size = w.heap.size + 1 := by rw [← g7]; simp
  have hb1 := zac w1 (.cells #[.slice none 0 0, .slice none 0 0] 25); have X1 := Blk.new w1 25 #[.slice none 0 0, .slice none 0 0]; obtain ⟨w2, c7⟩ : ∃ w2, w1.alloc (.cells #[.slice none 0 0, .slice none 0 0] 25) = w2 := ⟨_, rfl⟩; rw [c7] at hb1 X1; have hz2 : w2.heap.size = w.heap.size + 2 := by rw [← c7]; simp [h8]
  have i3 := hid c7; clear c7; go_enter Tryz.func14, Tryz.ntmps14; go_wp2_with fail; rw [i3.out]; refine (zhc s 32 w2 hs).mono ?_; rintro e w3 ⟨pp, d3, rfl, g8, hb3⟩; rw [j0.out] at g8 ⊢; have hz3 := hb3.size; have i1 : Hid (SG w1 (w.heap.size + 1) w3.heap.size w3.heap.size (.slice none 0 0) (.slice none 0 0) [] [] w3) := hid ⟨by have := X1.below hb3; rw [h8] at this; exact this, ⟨rfl, .inl ⟨rfl, rfl⟩⟩, ⟨rfl, .inl ⟨rfl, rfl⟩⟩, fun g hg => by simp [Value.ownBlock] at hg, OwnIn.nil, OwnIn.nil, by omega, by omega, by omega, nl _, zaa hb1 hb3⟩
  have i6 := hid g8; rw [hz2] at i6; have X0 := hid X0; have h4 := hid g2; clear g8 hb3 hb1 g2 X1 g7 i3
  have NO : ∀ (W : World) (hi : Nat) (vc vg : Value) (rc rg : List Rf), SG w1 (w.heap.size + 1) w3.heap.size hi vc vg rc rg W → (∀ us vs, zao us vs = true → s.data.toList ≠ chL us vs) → GetNPost s.data.toList w (.returned (.tuple #[.agg #[.slice none 0 0, .slice none 0 0], .bool false])) ((W.setCell ⟨w.heap.size, 0, none⟩ (.slice none 0 0)).setCell ⟨w.heap.size, 1, none⟩ (.slice none 0 0)) := by
    intro W hi vc vg rc rg hC hno; have hb : Below w.heap.size w W := zaa h4.out hC.gr; have hb2 := (hb.setCell (p := ⟨w.heap.size, 0, none⟩) (nl _) (.slice none 0 0)).setCell (p := ⟨w.heap.size, 1, none⟩) (nl _) (.slice none 0 0); exact ⟨none, 0, 0, [], none, 0, 0, [], false, rfl, (zly (lo := w.heap.size) (hi := _)).atoms, (zly (lo := w.heap.size) (hi := _)).atoms, hb2, qda, fun _ => ⟨rfl, rfl, hno⟩⟩
  have HNO := hid NO; clear NO; go_wp2_with fail; go_loopw [6] (fun i wr => ∃ (k hi : Nat) (vc vg : Value) (rc rg : List Rf) (T : List Sg), k + 1 ≤ ws.length ∧ i = .int .i64 (k : Int) ∧ SG w1 (w.heap.size + 1) w3.heap.size hi vc vg rc rg wr ∧ SAt (ws.map (fun x => x.data.toList)) k T (rc.map rAt) (rg.map rAt) ∧ rc.length + rg.length ≤ k ∧ ∀ b, w.heap.size + 2 ≤ b → b < w3.heap.size → wr.heap[b]? = w3.heap[b]?) (fun i _ => ws.length - (intOf i).toNat)
  case atStart => exact ⟨0, _, _, _, [], [], [], by omega, rfl, i1.out, SAt.start _, nl _, fun _ _ _ => rfl⟩
  case round =>
    obtain ⟨k, hi, vc, vg, rc, rg, T, hk, rfl, hC, hA, hln, a3⟩ := hrel; clear i1; have HC := hid hC.raise; have HA := hid hA; have HK := hid a3; have hT := i6.out.keep TextE.stays (fun q h1 h2 => cb_ (a3 q.block h1 h2)) (nl _) (nl _); clear hC hA a3; have hwk : IntKind.i64.wrap ((k : Int) + 1) = ((k + 1 : Nat) : Int) := qap; by_cases hlt : k + 1 < ws.length
    · have g5 : ((k + 1 : Nat) : Int) < (ws.length : Int) := qaa
      have hkI : (k : Int) < (ws.length : Int) := qaa; obtain ⟨p, x, g1, hlo, hhi, hg, hE⟩ := hT.at_ (show k < ws.length by omega); injection g1 with g1; subst g1; have cE : wr.cell? (pp.add (k * 1)) = some (.string x) := hE; have cE2 : wr.cell? (pp.add k) = some (.string x) := by rw [Nat.mul_one] at cE; exact cE
      have hxz : x.size ≤ 1048576 := i8.out x (List.mem_of_getElem? hg); have e6 : (ws.map (fun x => x.data.toList))[k]? = some x.data.toList := by rw [List.getElem?_map, hg]; rfl
      have b4 : (32 : UInt8) ∉ x.data.toList := h7.out _ (List.mem_of_getElem? e6); have d7 := hid e6; have b7 := hid b4; clear hT hE hg e6 b4; have X6 := X0.out.below HC.out.gr; have a0 : wr.cell? ⟨w.heap.size, 0, none⟩ = some (.slice none 0 0) := X6.cell 0; have a1 : wr.cell? ⟨w.heap.size, 1, none⟩ = some (.slice none 0 0) := X6.cell 1; have f0 := X6.frozen 0; have f1 := X6.frozen 1; by_cases hx0 : x.size = 0
      · have a2 := HA.out.none e8.out (by rw [List.length_map]; exact hlt) d7.out b7.out (fun y p e => by
          have h1 := congrArg List.length e; have h2 : x.data.toList.length = x.size := qag; rw [h2] at h1; simp at h1; omega)
        have HNN := hid a2; clear a2 X6; have g6 : (x.size : Int) = 0 := qaa; go_wp2; exact bodyPost_ret (v := .tuple #[.agg #[.slice none 0 0, .slice none 0 0], .bool false]) qbh rfl (HNO.out wr _ _ _ _ _ HC.out HNN.out)
      · obtain ⟨y, q, e7⟩ : ∃ y q, x.data.toList = y :: q := by
          cases h : x.data.toList with
          | nil =>
            have h2 : x.data.toList.length = x.size := qag
            rw [h] at h2; simp at h2; omega
          | cons y q => exact ⟨y, q, rfl⟩
        have hxl : x.size = q.length + 1 := by
          have h2 : x.data.toList.length = x.size := qag; rw [e7] at h2; simp at h2; omega
        have g6 : ¬ (x.size : Int) = 0 := qaa; have i7 : (1 : Int) ≤ (x.size : Int) := qaa; have k4 : (0 : Int) < (x.size : Int) := qaa; have b6 := hid e7; clear e7; obtain ⟨T0, i5⟩ : ∃ T0 : ByteArray, x.extract 1 (q.length + 1) = T0 := ⟨_, rfl⟩; have h6 : T0.data.toList = q := by rw [← i5, ByteArray.data_extract, Array.toList_extract, b6.out]; simp
        have k0 : T0.size ≤ 1048576 := by
          have h1 : T0.size = T0.data.toList.length := qag; rw [h1, h6]; omega
        obtain ⟨j9, b9⟩ := zlh (s := x) (i := 0) (pre := []) (post := q) (b := y) (by simpa using b6.out) (Nat.zero_le _); have hpos : 0 < x.size := qaa; have g0 : x[0]'hpos = y := b9; clear b9 j9 X6; go_wp2_with fail; clear i5; refine (zno T0 wr k0).mono ?_; rintro e w5 ⟨r, rfl, hH, hr, hb5⟩; rw [h6] at hr ⊢; unfold zfd; have d4 := zac w5 (.cells #[.string r.1, .slice r.2.1 r.2.2.1 r.2.2.2.1] 51); have a9 := zaa hb5 d4; have H6 : HeadApart (w5.alloc (.cells #[.string r.1, .slice r.2.1 r.2.2.1 r.2.2.2.1] 51)) wr.heap.size (w5.alloc (.cells #[.string r.1, .slice r.2.1 r.2.2.1 r.2.2.2.1] 51)).heap.size r := hH.keep (fun b _ h2 => d4.block b h2) (nl _) d4.size
        have B6 := Blk.new w5 51 #[.string r.1, .slice r.2.1 r.2.2.1 r.2.2.2.1]; obtain ⟨W6, d9⟩ : ∃ W6, w5.alloc (.cells #[.string r.1, .slice r.2.1 r.2.2.1 r.2.2.2.1] 51) = W6 := ⟨_, rfl⟩; rw [d9] at a9 H6 B6; have hz6 := a9.size; have j6 := HC.out.h1; have b0 : W6.cell? ⟨w5.heap.size, 0, none⟩ = some (.string r.1) := B6.cell 0; have b1 : W6.cell? ⟨w5.heap.size, 1, none⟩ = some (.slice r.2.1 r.2.2.1 r.2.2.2.1) := B6.cell 1; have i4 : W6.cell? (pp.add (k * 1)) = some (.string x) := (a9.cell (p := pp.add (k * 1)) qat).trans cE; have cE7 : W6.cell? (pp.add k) = some (.string x) := by rw [Nat.mul_one] at i4; exact i4
        have a8 := HC.out.below a9; have X6 := X0.out.below a8.gr; have a0 : W6.cell? ⟨w.heap.size, 0, none⟩ = some (.slice none 0 0) := X6.cell 0; have a1 : W6.cell? ⟨w.heap.size, 1, none⟩ = some (.slice none 0 0) := X6.cell 1; have f0 := X6.frozen 0; have f1 := X6.frozen 1; obtain ⟨A, c, B, d, ea, eb, _, _⟩ := a8.tells; have c0 : W6.cell? ⟨w.heap.size + 1, 0, none⟩ = some vc := a8.C.cell 0; have c1 : W6.cell? ⟨w.heap.size + 1, 1, none⟩ = some vg := a8.C.cell 1; have c3 := hid (a8.C.alloc (.cells #[.string r.1, .slice r.2.1 r.2.2.1 r.2.2.2.1] 51)); have a5 := hid a8; have H := hid H6; have HB6 := hid a9; have HW := hid d9
        clear a8 H6 a9 d9 B6 X6 d4 hb5 hH HC
        cases hgb : zjw q with
        | none =>
          have a2 := HA.out.none e8.out (by rw [List.length_map]; exact hlt) d7.out b7.out (fun y' p e => by
            rw [b6.out] at e; injection e with _ e; rw [← e]; exact hgb)
          have HNN := hid a2; clear a2 hgb hr; rw [show (none : Option At).isSome = false from rfl]; have h5 := HW.out; go_wp2
          exact bodyPost_ret (v := .tuple #[.agg #[.slice none 0 0, .slice none 0 0], .bool false]) qbh rfl (HNO.out W6 _ _ _ _ _ a5.out HNN.out)
        | some a =>
          have c4 : rAt r = a := by rw [hr, hgb]; rfl
          rw [show (some a : Option At).isSome = true from rfl]; by_cases hy : y = 45
          · subst hy
            have hI : ((x[0]'hpos).toNat : Int) = 45 := by rw [g0]; rfl
            have HS := hid (HA.out.goes (by rw [d7.out, b6.out]) (by rw [hgb, ← c4])); clear hgb hr c4; have h5 := HW.out; subst eb; have HRW := hid a5.out.G; go_wp2_with (at_builtin; refine wpList_append_lies _ rfl _ _ 23 rfl w3.heap.size 51 i0 _ 2 40 Tryz.underlying23 HI.out HZ.out HSZ.out HYY.out rfl qam _ _ _ rfl (HRW.out.alloc _) ⟨W6.heap.size, 0, none⟩ 1 1 [.string r.1, .slice r.2.1 r.2.2.1 r.2.2.2.1] rfl rfl (zbv _ _ _ _) qal qaa qaf qaa qai (W6.heap.size + 1) qag ?_; intro g' cap' w9 hown' hgrow' hat' _; have X9 := Blk.kept c3.out hgrow' (zbe (HRW.out.alloc _) c3.out); have q2 := X9.cell 1; have j8 := X9.frozen 1; have hown := hid hown'; have hgrow := hid hgrow'; have hat := hid hat'; clear hown' hgrow' hat' X9)
            have hM := a5.out.goes H.out hown.out hgrow.out hat.out; have hfar : ∀ b, (Value.slice B rg.length d).ownBlock = some b → w3.heap.size ≤ b := fun b hb => (a5.out.G.lt b hb).1; exact zmi
          · have hI : ¬ ((x[0]'hpos).toNat : Int) = 45 := by
              rw [g0]; exact fun e => hy (UInt8.toNat_inj.1 (show y.toNat = (45 : UInt8).toNat by show y.toNat = 45; omega))
            have hI2 : ¬ (y.toNat : Int) = 45 := by rw [← g0]; exact hI
            have HS := hid (HA.out.comes hy (by rw [d7.out, b6.out]) (by rw [hgb, ← c4])); clear hgb hr c4; have h5 := HW.out; subst ea; have HRW := hid a5.out.K; go_wp2_with (at_builtin; refine wpList_append_lies _ rfl _ _ 23 rfl w3.heap.size 51 i0 _ 2 40 Tryz.underlying23 HI.out HZ.out HSZ.out HYY.out rfl qam _ _ _ rfl (HRW.out.alloc _) ⟨W6.heap.size, 0, none⟩ 1 1 [.string r.1, .slice r.2.1 r.2.2.1 r.2.2.2.1] rfl rfl (zbv _ _ _ _) qal qaa qaf qaa qai (W6.heap.size + 1) qag ?_; intro g' cap' w9 hown' hgrow' hat' _; have X9 := Blk.kept c3.out hgrow' (zbe (HRW.out.alloc _) c3.out); have q2 := X9.cell 0; have j8 := X9.frozen 0; have hown := hid hown'; have hgrow := hid hgrow'; have hat := hid hat'; clear hown' hgrow' hat' X9)
            have hM := a5.out.comes H.out hown.out hgrow.out hat.out; have hfar : ∀ b, (Value.slice A rc.length c).ownBlock = some b → w3.heap.size ≤ b := fun b hb => (a5.out.K.lt b hb).1; exact zmi
    · have g5 : ¬ ((k + 1 : Nat) : Int) < (ws.length : Int) := qaa
      obtain ⟨A, c, B, d, ea, eb, ia, ig⟩ := HC.out.tells; subst ea; subst eb; have c0 : wr.cell? ⟨w.heap.size + 1, 0, none⟩ = some (.slice A rc.length c) := HC.out.C.cell 0; have c1 : wr.cell? ⟨w.heap.size + 1, 1, none⟩ = some (.slice B rg.length d) := HC.out.C.cell 1; have IA := hid (ia.keep (w' := wr) (lo' := 0) (hi' := wr.heap.size) AtomE.stays (fun _ _ _ => rfl) (Nat.zero_le _) (nl _)); have IG := hid (ig.keep (w' := wr) (lo' := 0) (hi' := wr.heap.size) AtomE.stays (fun _ _ _ => rfl) (Nat.zero_le _) (nl _)); have JA := hid ia; have JG := hid ig; obtain ⟨a7, a6⟩ := HA.out.all e8.out (by rw [List.length_map]; omega) h7.out
      clear ia ig hT; go_wp2_with fail; refine (zkk A rc.length c B rg.length d (rc.map rAt) (rg.map rAt) wr IA.out IG.out).mono ?_; rintro e w7 ⟨rfl, hb7⟩; have b5 := hid (HC.out.below hb7); have X7 := X0.out.below b5.out.gr; have a0 : w7.cell? ⟨w.heap.size, 0, none⟩ = some (.slice none 0 0) := X7.cell 0; have a1 : w7.cell? ⟨w.heap.size, 1, none⟩ = some (.slice none 0 0) := X7.cell 1; have f0 := X7.frozen 0; have f1 := X7.frozen 1; have d0 : w7.cell? ⟨w.heap.size + 1, 0, none⟩ = some (.slice A rc.length c) := b5.out.C.cell 0; have d1 : w7.cell? ⟨w.heap.size + 1, 1, none⟩ = some (.slice B rg.length d) := b5.out.C.cell 1
      have k3 := hid (JA.out.keep (w' := w7) (lo' := w3.heap.size) (hi' := w7.heap.size) AtomE.stays (fun q _ h2 => hb7.cell (p := q) h2) (nl _) hb7.size); have j7 := hid (JG.out.keep (w' := w7) (lo' := w3.heap.size) (hi' := w7.heap.size) AtomE.stays (fun q _ h2 => hb7.cell (p := q) h2) (nl _) hb7.size); clear hb7 X7 c0 c1 HC IA IG; by_cases hput : chB (rc.map rAt) (rg.map rAt) = s.data.toList
      · obtain ⟨h1, h2⟩ := a7 hput
        have hpb : (chB (rc.map rAt) (rg.map rAt) == s.toList) = true := qdv; clear hput a7 a6; have HB7 := hid (zaa h4.out b5.out.gr); go_wp2; refine bodyPost_ret (v := .tuple #[.agg #[.slice A rc.length c, .slice B rg.length d], .bool true]) qbh rfl ⟨A, c, _, rc.map rAt, B, d, _, rg.map rAt, true, rfl, ?_, ?_, (HB7.out.setCell (nl _) _).setCell (nl _) _, fun _ => ⟨h1, h2⟩, qda⟩
        · exact k3.out.keep AtomE.stays (fun q h1 _ => cb_ ((hs_ _ _ _ _ qbq).trans (hs_ _ _ _ _ qbq))) qaa qck
        · exact j7.out.keep AtomE.stays (fun q h1 _ => cb_ ((hs_ _ _ _ _ qbq).trans (hs_ _ _ _ _ qbq))) qaa qck
      · have HNN := hid (a6 hput)
        have hpb : (chB (rc.map rAt) (rg.map rAt) == s.toList) = false := by rw [zbk, beq_eq_false_iff_ne]; exact hput
        clear hput a7 a6; go_wp2; exact bodyPost_ret (v := .tuple #[.agg #[.slice none 0 0, .slice none 0 0], .bool false]) qbh rfl (HNO.out w7 _ _ _ _ _ b5.out HNN.out)
theorem cuts_last : ∀ (n : Nat) (l : List UInt8), l.length ≤ n → ∃ init lw u, zfi 32 l = init ++ [lw] ∧ l = u ++ lw ∧ zez u ∧ (32 : UInt8) ∉ lw
  | n, l, hn => by
    rcases zfb 32 l with h | ⟨x, r, rfl, h⟩
    · exact ⟨[], l, [], by rw [zdj h]; rfl, rfl, .inl rfl, h⟩
    · cases n with
      | zero => simp at hn
      | succ n =>
        obtain ⟨init, lw, u, h1, h2, h3, h4⟩ := cuts_last n r (by simp at hn; omega); refine ⟨x :: init, lw, x ++ 32 :: u, by rw [zbz h, h1]; rfl, by rw [h2]; simp, ?_, h4⟩; rcases h3 with e | ⟨q, e⟩
        · exact .inr ⟨x, by rw [e]⟩
        · exact .inr ⟨x ++ 32 :: q, by rw [e]; simp⟩
def NextPost (k : Nat) (s : ByteArray) (w : World) (e : Ending) (w' : World) : Prop :=
  ∃ (A : Option Addr) (n c : Nat) (xs : List At) (B : Option Addr) (m d : Nat) (ys : List At) (ok : Bool), e = .returned (.tuple #[.agg #[.slice A n c, .slice B m d], .bool ok]) ∧
    IsAtoms w' w.heap.size w'.heap.size A n c xs ∧ IsAtoms w' w.heap.size w'.heap.size B m d ys ∧ Below w.heap.size w w' ∧
    (ok = true → okC (xs, ys) ∧ s.data.toList = zen k (chC (xs, ys))) ∧ (ok = false → ∀ c, okC c → s.data.toList ≠ zen k (chC c))
theorem zjp {k : Nat} {s : ByteArray} {w W : World} (hb : Below w.heap.size w W) (hno : ∀ c, okC c → s.data.toList ≠ zen k (chC c)) :
    NextPost k s w (.returned (.tuple #[.agg #[.slice none 0 0, .slice none 0 0], .bool false])) ((W.setCell ⟨w.heap.size, 0, none⟩ (.slice none 0 0)).setCell ⟨w.heap.size, 1, none⟩ (.slice none 0 0)) :=
  ⟨none, 0, 0, [], none, 0, 0, [], false, rfl, (zly (lo := w.heap.size) (hi := _)).atoms, (zly (lo := w.heap.size) (hi := _)).atoms, (hb.setCell (p := ⟨w.heap.size, 0, none⟩) (nl _) _).setCell (p := ⟨w.heap.size, 1, none⟩) (nl _) _, qda, fun _ => hno⟩
theorem zmz (s : ByteArray) (a b : Nat) : (s.extract a b).data.toList = (s.data.toList.take b).drop a := by
  simp [ByteArray.data_extract, List.drop_take]
theorem specNext_any (s : ByteArray) (k : Nat) (w : World) (hs : s.size ≤ 400000) (hk : k ≤ 100000) :
    Calls Tryz.prog 41 #[.string s, .int .i64 (k : Int)] w (NextPost k s w) := by
  have hl := ziy k qaa; have g6 := hid (zac w (.cells #[.slice none 0 0, .slice none 0 0] 25)); have X0 := hid (Blk.new w 25 #[.slice none 0 0, .slice none 0 0]); have hsl : s.data.toList.length = s.size := qag; go_enter Tryz.func41, Tryz.ntmps41; go_wp2_with fail; refine (zld (k + 1) k (Nat.lt_succ_self k) qaa _).mono ?_; rintro e w1 ⟨rfl, hb1⟩; have X1 := hid (X0.out.below hb1); have HB1 := hid (zaa g6.out hb1); clear hb1 X0 g6; obtain ⟨dg, c3⟩ : ∃ dg : ByteArray, (⟨(Lib.decDigits k).toArray⟩ : ByteArray) = dg := ⟨_, rfl⟩
  have b7 : dg.data.toList = Lib.decDigits k := by rw [← c3]
  rw [c3]; clear c3; have hdz : dg.size ≤ 21 := by show dg.data.toList.length ≤ _; rw [b7]; exact hl
  obtain ⟨hd, b5⟩ : ∃ hd : ByteArray, (dg ++ ⟨#[58]⟩ : ByteArray) = hd := ⟨_, rfl⟩; have d7 : hd.data.toList = Lib.decDigits k ++ [58] := by rw [← b5]; simp [ByteArray.data_append, b7]
  have hhz : hd.size ≤ 22 := by rw [← b5, ByteArray.size_append]; show dg.size + 1 ≤ 22; omega
  have k3 : hd.data.toList.length = hd.size := qag; have i1 := hid d7; have b6 := hid b5; clear b7 d7 b5; have x0 : w1.cell? ⟨w.heap.size, 0, none⟩ = some (.slice none 0 0) := X1.out.cell 0; have x1 : w1.cell? ⟨w.heap.size, 1, none⟩ = some (.slice none 0 0) := X1.out.cell 1; have q0 := X1.out.frozen 0; have q1 := X1.out.frozen 1; have a3 := hid (show ∀ p, zen k p = hd.data.toList ++ (p ++ Lib.decDigits (zhq (zcp k p))) from fun p => by rw [zfk, i1.out, List.append_assoc]; rfl); by_cases hshort : s.size < hd.size
  · have c0 : (s.size : Int) < (hd.size : Int) := qaa
    go_wp2_with (rw [b6.out]); refine bodyPost_ret (v := .tuple #[.agg #[.slice none 0 0, .slice none 0 0], .bool false]) qay rfl (zjp HB1.out fun c hc he => ?_); have h1 := congrArg List.length (he.trans (a3.out _)); rw [List.length_append] at h1; omega
  · have c0 : ¬ (s.size : Int) < (hd.size : Int) := qaa
    have i8 : (hd.size : Int) ≤ (s.size : Int) := qaa; by_cases heq : s.extract 0 hd.size = hd
    · have hq : ((s.extract 0 hd.size).toList == hd.toList) = true := by rw [heq]; exact beq_self_eq_true _
      have a6 : s.data.toList = hd.data.toList ++ s.data.toList.drop hd.size := by
        have h1 := zmz s 0 hd.size; rw [heq] at h1
        conv => lhs; rw [← List.take_append_drop hd.size s.data.toList]
        rw [h1]; simp
      have b9 := hid a6; clear a6 heq; obtain ⟨rs, b3⟩ : ∃ rs, s.extract hd.size s.size = rs := ⟨_, rfl⟩; have h5 : rs.data.toList = s.data.toList.drop hd.size := by rw [← b3, zmz, List.take_of_length_le qaa]
      have hrz : rs.size ≤ 400000 := by rw [← b3, ByteArray.size_extract]; omega
      have g8 : rs.data.toList.length = rs.size := qag; have HRD := hid h5; have j8 := hid b3; clear h5 b3; go_wp2_with (rw [b6.out]); rw [j8.out]; refine (zhc rs 32 w1 qaa).mono ?_; rintro e w2 ⟨pp, d2, rfl, c4, hb2⟩; obtain ⟨a4, lw, u, hc1, b4, h6, g7⟩ := cuts_last rs.data.toList.length rs.data.toList (nl _); obtain ⟨ws, a7⟩ : ∃ ws, zed 32 rs = ws := ⟨_, rfl⟩; have hwd : ws.map (fun x => x.data.toList) = a4 ++ [lw] := by rw [← a7, ← hc1]; exact zft 32 rs
      have e6 : ws.length = a4.length + 1 := by have := congrArg List.length hwd; simpa using this
      have j6 : ws.length ≤ rs.size + 1 := by rw [← a7]; exact zhj 32 rs
      rw [a7] at c4 ⊢; clear a7; have a5 : ws.length - 1 < ws.length := qaa; obtain ⟨p, x, hA, hlo, hhi, hg, hE⟩ := c4.at_ a5; injection hA with hA; subst hA
      have e7 : x.data.toList = lw := by
        have h1 : (ws.map (fun x => x.data.toList))[ws.length - 1]? = some x.data.toList := by rw [List.getElem?_map, hg]; rfl
        rw [hwd, e6, Nat.add_sub_cancel, List.getElem?_append_right (nl _), Nat.sub_self] at h1; exact (Option.some.inj h1).symm
      have d4 : x.data.toList.length = x.size := qag; have i5 : u.length + x.size = rs.size := by rw [← d4, e7, ← g8, b4, List.length_append]
      have hsz : hd.size + rs.size = s.size := by
        have := congrArg List.length HRD.out; rw [List.length_drop] at this; omega
      have cE : w2.cell? (pp.add ((ws.length - 1) * 1)) = some (.string x) := hE; rw [Nat.mul_one] at cE; have hm1 : IntKind.i64.wrap ((ws.length : Int) - 1) = ((ws.length - 1 : Nat) : Int) := qap; have hm2 : IntKind.i64.wrap ((s.size : Int) - (x.size : Int)) = ((s.size - x.size : Nat) : Int) := qap; have hi1 : ((ws.length - 1 : Nat) : Int) < (ws.length : Int) := qaa; have hi2 : (hd.size : Int) ≤ ((s.size - x.size : Nat) : Int) := qaa; have hi3 : ((s.size - x.size : Nat) : Int) ≤ (s.size : Int) := qaa; obtain ⟨tx, a8⟩ : ∃ tx, s.extract hd.size (s.size - x.size) = tx := ⟨_, rfl⟩
      have g2 : tx.data.toList = u := by
        rw [← a8, zmz, List.drop_take, ← HRD.out, b4]; exact List.take_left' qaa
      have htz : tx.size ≤ 400000 := by rw [← a8, ByteArray.size_extract]; omega
      have i3 := hid a8; have j7 := hid g2; have i7 := hid h6; have HSD := hid (show s.data.toList = hd.data.toList ++ (u ++ lw) by rw [← b4, HRD.out]; exact b9.out); have k4 := hid g7; have X2 := hid (X1.out.below hb2); have HB2 := hid (zaa HB1.out hb2); clear c4 hE hg hwd e7 hc1 b4 h6 g7 a8 g2 i5 g8 d4 hb2 X1 HB1 x0 x1 q0 q1 e6 hsz; go_wp2_with fail; rw [i3.out]; refine (zkl tx w2 qaa).mono ?_; rintro e w3 ⟨A, c, n, xs, B, d, m, ys, ok, rfl, hI, hJ, hb3, hy, hno⟩; have a9 := zac w3 (.cells #[.slice A n c, .slice B m d] 25); have a2 := zaa hb3 a9; have X3 := hid (X2.out.below a2)
      have Y3 := hid (Box.new w3 (.slice A n c) (.slice B m d) 25); have I3 := hid (hI.up AtomE.stays a9); have J3 := hid (hJ.up AtomE.stays a9); have HB3 := hid (zaa HB2.out a2); have HY := hid hy; have HN := hid hno; have hz3 := HB2.out.size; have j9 := hb3.size; have hz2 : w.heap.size < w2.heap.size := X2.out.lt; clear hI hJ hb3 a9 a2 hy hno X2 HB2; obtain ⟨W3, c7⟩ : ∃ W3, w3.alloc (.cells #[.slice A n c, .slice B m d] 25) = W3 := ⟨_, rfl⟩; have e8 := hid c7; rw [c7] at X3 Y3 I3 J3 HB3; clear c7
      have d9 := hid (show (∀ c, okC c → tx.data.toList ≠ chC c ∨ zbo k (chC c) ≠ s.data.toList ++ [10]) → ∀ c, okC c → s.data.toList ≠ zen k (chC c) from fun hh c hc he => by
        have h1 := HSD.out.symm.trans (he.trans (a3.out _)); have h2 := List.append_cancel_left h1; obtain ⟨h3, _⟩ := zlk h2 i7.out k4.out (zfu _ _) (zik (.inl qam)); rcases hh c hc with h | h
        · exact h (j7.out.trans h3)
        · exact h (by rw [zbm, he]))
      have x0 : W3.cell? ⟨w.heap.size, 0, none⟩ = some (.slice none 0 0) := X3.out.cell 0; have x1 : W3.cell? ⟨w.heap.size, 1, none⟩ = some (.slice none 0 0) := X3.out.cell 1; have q0 := X3.out.frozen 0; have q1 := X3.out.frozen 1; obtain ⟨_, y0, y1⟩ := Y3.out; cases ok
      · go_wp2_with (rw [e8.out])
        refine bodyPost_ret (v := .tuple #[.agg #[.slice none 0 0, .slice none 0 0], .bool false]) qay rfl (zjp HB3.out (d9.out fun c hc => .inl ((HN.out qdl).2.2 c.1 c.2 hc)))
      · obtain ⟨h7, g0⟩ := HY.out qdl
        have h8 := hid h7; have h4 := hid g0; clear h7 g0; go_wp2_with (rw [e8.out]); refine (l8Line_any k hk tx qaa W3).mono ?_; rintro e w5 ⟨rfl, hb5⟩; have X5 := hid (X3.out.below hb5); have Y5 := hid (Y3.out.later hb5); have HB5 := hid (zaa HB3.out hb5); have I5 := hid (I3.out.up AtomE.stays hb5); have J5 := hid (J3.out.up AtomE.stays hb5); have hz5 := hb5.size; clear hb5 X3 Y3 HB3 I3 J3 x0 x1 q0 q1 y0 y1; have x0 : w5.cell? ⟨w.heap.size, 0, none⟩ = some (.slice none 0 0) := X5.out.cell 0; have x1 : w5.cell? ⟨w.heap.size, 1, none⟩ = some (.slice none 0 0) := X5.out.cell 1; have q0 := X5.out.frozen 0; have q1 := X5.out.frozen 1
        obtain ⟨_, y0, y1⟩ := Y5.out; obtain ⟨v, hv⟩ : ∃ v : ByteArray, (⟨(zbo k tx.data.toList).toArray⟩ : ByteArray) = v := ⟨_, rfl⟩; have g1 : v.data.toList = zbo k (chL xs ys) := by rw [← hv, h4.out]
        rw [hv]; have g5 := hid g1; clear hv g1; by_cases hE2 : v = s ++ ⟨#[10]⟩
        · have k0 : (v.toList == (s ++ ⟨#[10]⟩ : ByteArray).toList) = true := by rw [hE2]; exact beq_self_eq_true _
          have hln : s.data.toList = zen k (chL xs ys) := by
            have h1 : zbo k (chL xs ys) = s.data.toList ++ [10] := by rw [← g5.out, hE2]; simp [ByteArray.data_append]
            rw [zbm] at h1; exact (List.append_cancel_right h1).symm
          have i4 := hid hln; clear hE2 hln; go_wp2; refine bodyPost_ret (v := .tuple #[.agg #[.slice A n c, .slice B m d], .bool true]) qay rfl ⟨A, n, c, xs, B, m, d, ys, true, rfl, ?_, ?_, (HB5.out.setCell (nl _) _).setCell (nl _) _, fun _ => ⟨h8.out, i4.out⟩, qda⟩
          · exact (I5.out.keep AtomE.stays (fun q h1 _ => cb_ ((hs_ _ _ _ _ qbq).trans (hs_ _ _ _ _ qbq))) qaa qck)
          · exact (J5.out.keep AtomE.stays (fun q h1 _ => cb_ ((hs_ _ _ _ _ qbq).trans (hs_ _ _ _ _ qbq))) qaa qck)
        · have k0 : (v.toList == (s ++ ⟨#[10]⟩ : ByteArray).toList) = false := by rw [beq_eq_false_iff_ne]; intro e; rw [zbk, zbk] at e; exact hE2 (by rw [← Lib.mk_data v, ← Lib.mk_data (s ++ ⟨#[10]⟩), e])
          have j0 := hid hE2; clear hE2; go_wp2; refine bodyPost_ret (v := .tuple #[.agg #[.slice none 0 0, .slice none 0 0], .bool false]) qay rfl (zjp HB5.out (d9.out fun c hc => ?_)); by_cases hcc : tx.data.toList = chC c
          · right
            intro h2; have h1 : chC c = chL xs ys := hcc.symm.trans h4.out; rw [h1] at h2; refine j0.out ?_; rw [← Lib.mk_data v, g5.out, h2, ← Lib.mk_data (s ++ ⟨#[10]⟩)]; simp [ByteArray.data_append]
          · exact .inl hcc
    · have hq : ((s.extract 0 hd.size).toList == hd.toList) = false := by rw [beq_eq_false_iff_ne]; intro e; rw [zbk, zbk] at e; exact heq (by rw [← Lib.mk_data (s.extract 0 hd.size), ← Lib.mk_data hd, e])
      have i6 := hid heq; clear heq; go_wp2_with (rw [b6.out]); refine bodyPost_ret (v := .tuple #[.agg #[.slice none 0 0, .slice none 0 0], .bool false]) qay rfl (zjp HB1.out fun c hc he => i6.out ?_); rw [← Lib.mk_data (s.extract 0 hd.size), zmz, he, a3.out, ← k3, List.take_left' rfl, List.drop_zero, Lib.mk_data]
structure Sx where
  lo : Nat
  hi : Nat
  A : Option Addr
  n : Nat
  c : Nat
  xs : List At
  B : Option Addr
  m : Nat
  d : Nat
  ys : List At
def sAt (x : Sx) : Ch := (x.xs, x.ys)
def zgi (xs : List Sx) : List Value := xs.flatMap fun x => [.slice x.A x.n x.c, .slice x.B x.m x.d]
theorem scells_len : ∀ xs : List Sx, (zgi xs).length = xs.length * 2
  | [] => rfl
  | x :: xs => by
    have h := scells_len xs; unfold zgi at h ⊢; rw [List.flatMap_cons, List.length_append, h, List.length_cons]; simp only [List.length_cons, List.length_nil]; omega
theorem scells_snoc (xs : List Sx) (x : Sx) : zgi (xs ++ [x]) = zgi xs ++ [.slice x.A x.n x.c, .slice x.B x.m x.d] := by
  unfold zgi; rw [List.flatMap_append, List.flatMap_singleton]
theorem scells_at : ∀ {xs : List Sx} {i : Nat} {x : Sx}, xs[i]? = some x → (zgi xs)[i * 2]? = some (.slice x.A x.n x.c) ∧ (zgi xs)[i * 2 + 1]? = some (.slice x.B x.m x.d)
  | [], i, x, h => by simp at h
  | y :: xs, 0, x, h => by
    simp at h; subst h
    exact ⟨rfl, rfl⟩
  | y :: xs, i + 1, x, h => by
    obtain ⟨a, b⟩ := scells_at (xs := xs) (i := i) (x := x) qbi; have e : zgi (y :: xs) = .slice y.A y.n y.c :: .slice y.B y.m y.d :: zgi xs := rfl; rw [e, show (i + 1) * 2 = i * 2 + 1 + 1 by omega]; exact ⟨by simpa using a, by simpa using b⟩
def OwnSx (W : World) (x : Sx) : Prop := IsAtoms W x.lo x.hi x.A x.n x.c x.xs ∧ IsAtoms W x.lo x.hi x.B x.m x.d x.ys
theorem OwnSx.keep {W W' : World} {x : Sx} (h : OwnSx W x) (hk : ∀ b, x.lo ≤ b → b < x.hi → W'.heap[b]? = W.heap[b]?) : OwnSx W' x :=
  ⟨h.1.keep AtomE.stays (fun q h1 h2 => cb_ (hk q.block h1 h2)) (nl _) (nl _), h.2.keep AtomE.stays (fun q h1 h2 => cb_ (hk q.block h1 h2)) (nl _) (nl _)⟩
structure LS (w : World) (a b : Nat) (v : Value) (xs : List Sx) (W : World) : Prop where
  K : W.ownsRow a 25 2 v xs.length (zgi xs)
  O : ∀ x ∈ xs, OwnSx W x ∧ x.hi ≤ W.heap.size ∧ ∀ g, v.ownBlock = some g → g < x.lo ∨ x.hi ≤ g
  far : ∀ g, v.ownBlock = some g → g = a ∨ b ≤ g
  h0 : w.heap.size ≤ a
  h1 : b ≤ W.heap.size
  gr : Below w.heap.size w W
section
variable {w W W' W9 : World} {a b : Nat} {v : Value} {xs : List Sx} {x : Sx} {ob : Obj} {g' m cap : Nat}
theorem LS.below (h : LS w a b v xs W) (hb : Below W.heap.size W W') : LS w a b v xs W' := by
  have hs := h.gr.size; have a2 := hb.size
  exact ⟨zan h.K hb, fun x hx => by
    obtain ⟨o1, o2, o3⟩ := h.O x hx; exact ⟨o1.keep (fun b _ h2 => hb.block b qaa), by omega, o3⟩, h.far, h.h0, Nat.le_trans h.h1 a2, h.gr.trans (hb.mono hs)⟩
theorem LS.more (h : LS w a b v xs W) (ho : OwnSx W x) (h2 : x.hi ≤ W.heap.size) (hr : ∀ g, v.ownBlock = some g → g < x.lo)
    (hown : W9.ownsRow a 25 2 (.slice (some ⟨g', 0, none⟩) m cap) (xs.length + 1) (zgi xs ++ [.slice x.A x.n x.c, .slice x.B x.m x.d])) (hgrow : (W.alloc ob).grownBy W9 v.ownBlock) (hat : v.ownBlock = some g' ∨ g' = W.heap.size + 1) :
    LS w a b (.slice (some ⟨g', 0, none⟩) m cap) (xs ++ [x]) W9 := by
  have hb1 := zac W ob; have hbs : (W.alloc ob).heap.size = W.heap.size + 1 := qag; have hA := h.below hb1; have hgs := hgrow.size; have hs := h.gr.size; have hh1 := h.h1; have hh0 := h.h0; refine ⟨by rw [List.length_append, scells_snoc]; exact hown, fun y hy => ?_, fun g e => ?_, h.h0, by omega, ?_⟩
  · have a2 : OwnSx W9 y ∧ y.hi ≤ W.heap.size ∧ ∀ g, v.ownBlock = some g → g < y.lo ∨ y.hi ≤ g := by
      rcases List.mem_append.1 hy with hy | hy
      · obtain ⟨o1, o2, o3⟩ := h.O y hy
        exact ⟨o1.keep (fun c c1 c2 => (hgrow.block c qaa (fun e => by rcases o3 c e.symm with h | h <;> omega)).trans (hb1.block c qaa)), o2, o3⟩
      · rw [List.mem_singleton.1 hy]
        exact ⟨ho.keep (fun c c1 c2 => (hgrow.block c qaa (fun e => by have := hr c e.symm; omega)).trans (hb1.block c qaa)), h2, fun g e => .inl (hr g e)⟩
    obtain ⟨o1, o2, o3⟩ := a2; refine ⟨o1, by omega, fun g e => ?_⟩; simp [Value.ownBlock] at e; subst e; rcases hat with e | e
    · exact o3 _ e
    · right; omega
  · simp [Value.ownBlock] at e
    subst e; rcases hat with e | e
    · exact h.far _ e
    · right; omega
  · exact ⟨hgrow.os.trans hA.gr.os, hgrow.tape.trans hA.gr.tape, hgrow.output.trans hA.gr.output, by omega, fun k hk => (hgrow.block k qaa (fun e => by have := (h.K.lt k e.symm).1; omega)).trans (hA.gr.block k hk)⟩
theorem LS.chs {A : Option Addr} {c : Nat} (h : LS w a b (.slice A xs.length c) xs W) : zgn W 0 W.heap.size A xs.length c (xs.map sAt) := by
  rcases h.K.2 with ⟨e, h0⟩ | ⟨g, cap, cur, e, hb, hgb, hle, hcap, hsz, htk⟩
  · injection e with e1 e2 e3
    subst e1; subst e3; exact ⟨List.length_map _, by omega, by unfold maxLen; omega, fun hp => by omega⟩
  · injection e with e1 e2 e3
    subst e1; subst e3; have hlt := (Array.getElem?_eq_some_iff.1 hgb).1; refine ⟨List.length_map _, hle, hcap, fun _ => ⟨_, rfl, Nat.zero_le _, hlt, fun i x hx => ?_⟩⟩; rw [List.getElem?_map] at hx; obtain ⟨f, hf, rfl⟩ := Option.map_eq_some_iff.1 hx; have hi := (List.getElem?_eq_some_iff.1 hf).1; obtain ⟨y0, y1⟩ := scells_at hf; have a0 : ∀ j, (⟨g, 0, none⟩ : Addr).add j = ⟨g, j, none⟩ := fun j => by unfold Addr.add; split <;> simp_all
    have hc : ∀ j u, (zgi xs)[j]? = some u → W.cell? ⟨g, j, none⟩ = some u := fun j u hu => by
      have hj := (List.getElem?_eq_some_iff.1 hu).1; rw [scells_len] at hj; rw [← htk, List.getElem?_take, if_pos qaa] at hu; unfold World.cell?; rw [hgb]; simpa using hu
    obtain ⟨o1, o2, _⟩ := h.O f (List.mem_of_getElem? hf); rw [a0]; exact ⟨⟨_, _, _, hc _ _ y0, o1.1.keep AtomE.stays (fun _ _ _ => rfl) (Nat.zero_le _) o2⟩, ⟨_, _, _, hc _ _ y1, o1.2.keep AtomE.stays (fun _ _ _ => rfl) (Nat.zero_le _) o2⟩⟩
end
structure Readx (l : List UInt8) (ws : List (List UInt8)) (cs : List Ch) (n : Nat) : Prop where
  le : ∃ r, l = zcr 0 cs ++ r ∧ zfi 10 r = ws
  ok : ∀ c ∈ cs, okC c
  n : n = (zcr 0 cs).length
theorem Readx.start (l : List UInt8) : Readx l (zfi 10 l) [] 0 := ⟨⟨l, rfl, rfl⟩, fun c h => by simp at h, rfl⟩
theorem Readx.split {l x : List UInt8} {ws : List (List UInt8)} {cs : List Ch} {n : Nat} (h : Readx l (x :: ws) cs n) (hw : ws ≠ []) : ∃ r, l = zcr 0 cs ++ (x ++ 10 :: r) ∧ zfi 10 r = ws ∧ (10 : UInt8) ∉ x := by
  obtain ⟨r, h1, h2⟩ := h.le; rcases zfb 10 r with h3 | ⟨y, q, rfl, h3⟩
  · rw [zdj h3] at h2
    injection h2 with _ h4; exact absurd h4.symm hw
  · rw [zbz h3] at h2
    injection h2 with h4 h5; subst h4; exact ⟨q, h1, h5, h3⟩
theorem Readx.more {l x : List UInt8} {ws : List (List UInt8)} {cs : List Ch} {c : Ch} {n : Nat} (h : Readx l (x :: ws) cs n) (hw : ws ≠ []) (hc : okC c) (hx : x = zen cs.length (chC c)) : Readx l ws (cs ++ [c]) (n + x.length + 1) := by
  obtain ⟨r, h1, h2, _⟩ := h.split hw; refine ⟨⟨r, ?_, h2⟩, fun d hd => ?_, ?_⟩
  · rw [h1, zhb, Nat.zero_add, zbm, ← hx]; simp
  · rcases List.mem_append.1 hd with hd | hd
    · exact h.ok d hd
    · rw [List.mem_singleton.1 hd]; exact hc
  · rw [zhb, Nat.zero_add, zbm, ← hx, h.n]
    simp only [List.length_append, List.length_cons, List.length_nil]; omega
theorem Readx.stop {l x : List UInt8} {ws : List (List UInt8)} {cs : List Ch} {n : Nat} (h : Readx l (x :: ws) cs n) (hw : ws ≠ []) (hno : ∀ c, okC c → x ≠ zen cs.length (chC c)) : LogOf l cs := by
  obtain ⟨r, h1, h2, h3⟩ := h.split hw; refine ⟨h.ok, by rw [h1]; exact List.prefix_append _ _, fun c q hc he => hno c hc ?_⟩; rw [h1] at he; have h4 := List.append_cancel_left he; have h5 : zfi 10 (x ++ 10 :: r) = zfi 10 (zen cs.length (chC c) ++ 10 :: q) := by rw [h4, zbm]; simp
  have h6 : (10 : UInt8) ∉ chC c := zea hc; rw [zbz h3, zbz (zcj h6)] at h5; injection h5
theorem Readx.last {l x : List UInt8} {cs : List Ch} {n : Nat} (h : Readx l [x] cs n) : LogOf l cs := by
  obtain ⟨r, h1, h2⟩ := h.le; refine ⟨h.ok, by rw [h1]; exact List.prefix_append _ _, fun c q hc he => ?_⟩; rw [h1] at he; have h4 := List.append_cancel_left he; have h5 : zfi 10 r = zfi 10 (zen cs.length (chC c) ++ 10 :: q) := by rw [h4, zbm]; simp
  have h6 : (10 : UInt8) ∉ chC c := zea hc; rw [zbz (zcj h6), h2] at h5; injection h5 with _ h7; rw [zfh] at h7; cases h7
def LogSPost (l : List UInt8) (w : World) (e : Ending) (w' : World) : Prop :=
  ∃ (A : Option Addr) (n c : Nat) (cs : List Ch) (m : Nat), e = .returned (.tuple #[.slice A n c, .int .i64 (m : Int)]) ∧ zgn w' 0 w'.heap.size A n c cs ∧ Below w.heap.size w w' ∧ LogR l cs m
theorem specLogGet_any (s : ByteArray) (w : World) (hs : s.size ≤ 1048576) :
    Calls Tryz.prog 15 #[.string s] w (LogSPost s.data.toList w) := by
  obtain ⟨i0, hi, hz, hsz, hby⟩ := zge Tryz.infoCh; have HI := hid hi; have HZ := hid hz; have HSZ := hid hsz; have HYY := hid hby; clear hi hz hsz hby; have hsl : s.data.toList.length = s.size := qag; have b3 := zac w (.cells #[] 25); have R0 := zfq w 25 w.heap.size (nl _); obtain ⟨w1, b4⟩ : ∃ w1, w.alloc (.cells #[] 25) = w1 := ⟨_, rfl⟩; have hz1 : w1.heap.size = w.heap.size + 1 := by rw [← b4]; simp
  rw [b4] at b3 R0; have e6 := hid b4; clear b4; go_enter Tryz.func15, Tryz.ntmps15; by_cases hbig : 400000 < s.size
  · have g2 : (400000 : Int) < (s.size : Int) := qaa
    go_wp2_with (rw [e6.out]); refine bodyPost_ret (v := .tuple #[.slice (some ⟨w.heap.size, 0, none⟩) 0 0, .int .i64 0]) qcm rfl ⟨_, 0, 0, [], 0, rfl, ⟨rfl, nl _, by unfold maxLen; omega, fun hp => by omega⟩, b3, .inr ⟨by omega, rfl, rfl⟩⟩
  · have g2 : ¬ (400000 : Int) < (s.size : Int) := qaa
    have L1 : LS w w.heap.size w1.heap.size (.slice (some ⟨w.heap.size, 0, none⟩) ([] : List Sx).length 0) [] w1 := ⟨R0, fun x hx => by simp at hx, fun g e => by simp [Value.ownBlock] at e; exact .inl e.symm, nl _, nl _, b3⟩; have HL1 := hid L1; clear b3 R0 L1; obtain ⟨ws, a4⟩ : ∃ x, zed 10 s = x := ⟨_, rfl⟩; have hwl : ws.length ≤ s.size + 1 := by rw [← a4]; exact zhj 10 s
    have hwd : ws.map (fun x => x.data.toList) = zfi 10 s.data.toList := by rw [← a4]; exact zft 10 s
    have hwz : ∀ x ∈ ws, x.size ≤ 400000 := fun x hx => Nat.le_trans (zeq (c := 10) (s := s) (by rw [a4]; exact hx)) qaa
    have hw0 : 0 < ws.length := by
      have h1 := congrArg List.length hwd; rw [zfh] at h1; simp at h1; omega
    have h4 := hid a4; have g1 := hid hwd; have g7 := hid hwz; clear a4 hwd hwz; go_wp2_with (rw [e6.out]); refine (zhc s 10 w1 hs).mono ?_; rintro e w3 ⟨pp, d3, rfl, c3, hb3⟩; rw [h4.out] at c3 ⊢; have hz3 := hb3.size; have h7 := hid c3; have a9 := HL1.out.below hb3; have HL3 := hid (show LS w w.heap.size w3.heap.size (.slice (some ⟨w.heap.size, 0, none⟩) ([] : List Sx).length 0) [] w3 from ⟨a9.K, a9.O, fun g e => by simp [Value.ownBlock] at e; exact .inl e.symm, a9.h0, nl _, a9.gr⟩); clear c3 hb3 HL1 a9; go_wp2_with fail; go_loopw [4, 5, 7] (fun o n i wr => ∃ (k m : Nat) (A : Option Addr) (c : Nat) (xs : List Sx), k + 1 ≤ ws.length ∧ i = .int .i64 (k : Int) ∧ n = .int .i64 (m : Int) ∧ o = .slice A xs.length c ∧ xs.length = k ∧ m ≤ s.size ∧ LS w w.heap.size w3.heap.size (.slice A xs.length c) xs wr ∧ Readx s.data.toList ((ws.map (fun x => x.data.toList)).drop k) (xs.map sAt) m ∧ ∀ b, w1.heap.size ≤ b → b < w3.heap.size → wr.heap[b]? = w3.heap[b]?) (fun _ _ i _ => ws.length - (intOf i).toNat)
    case atStart => exact ⟨0, 0, _, _, [], by omega, rfl, rfl, rfl, rfl, Nat.zero_le _, HL3.out, by rw [g1.out]; exact Readx.start _, fun _ _ _ => rfl⟩
    case round =>
      obtain ⟨_, m, A, c, xs, hk, rfl, rfl, rfl, rfl, hms, hL, hR, a3⟩ := hrel; clear HL3; have HL := hid hL; have HR := hid hR; have HK := hid a3; have hT := h7.out.keep TextE.stays (fun q h1 h2 => cb_ (a3 q.block h1 h2)) (nl _) (nl _); have hwk : IntKind.i64.wrap ((xs.length : Int) + 1) = ((xs.length + 1 : Nat) : Int) := qap; have hbl := hL.h1; clear hL hR a3; by_cases hlt : xs.length + 1 < ws.length
      · have c0 : ((xs.length + 1 : Nat) : Int) < (ws.length : Int) := qaa
        have hkI : (xs.length : Int) < (ws.length : Int) := qaa; obtain ⟨p, x, b5, i3, hhi, hg, hE⟩ := hT.at_ (show xs.length < ws.length by omega); injection b5 with b5; subst b5; have cE : wr.cell? (pp.add (xs.length * 1)) = some (.string x) := hE; have h8 : wr.cell? (pp.add xs.length) = some (.string x) := by rw [Nat.mul_one] at cE; exact cE
        have g8 : x.size ≤ 400000 := g7.out x (List.mem_of_getElem? hg); have c7 : (ws.map (fun x => x.data.toList))[xs.length]? = some x.data.toList := by rw [List.getElem?_map, hg]; rfl
        have e7 : (ws.map (fun x => x.data.toList)).drop xs.length = x.data.toList :: (ws.map (fun x => x.data.toList)).drop (xs.length + 1) := by
          obtain ⟨h1, h2⟩ := List.getElem?_eq_some_iff.1 c7; rw [← h2]; exact List.drop_eq_getElem_cons h1
        have hne : (ws.map (fun x => x.data.toList)).drop (xs.length + 1) ≠ [] := fun e => by
          have := congrArg List.length e; rw [List.length_drop, List.length_map] at this; simp at this; omega
        have b6 := hid (show Readx s.data.toList (x.data.toList :: (ws.map (fun x => x.data.toList)).drop (xs.length + 1)) (xs.map sAt) m by rw [← e7]; exact HR.out); have d9 := hid hne
        have hk1 : xs.length ≤ 100000 := by
          obtain ⟨r, h1, _⟩ := HR.out.le; have h2 := zmv 0 (xs.map sAt); have h3 := congrArg List.length h1; rw [List.length_append] at h3; rw [List.length_map] at h2; omega
        have g5 : x.data.toList.length = x.size := qag; clear hT hE hg c7 e7 hne HR
        have cW : ∀ W : World, (∀ b, w1.heap.size ≤ b → b < w3.heap.size → W.heap[b]? = wr.heap[b]?) → W.cell? (pp.add xs.length) = some (.string x) := fun W hW => by
          have g0 : (pp.add xs.length).block = pp.block := by unfold Addr.add; split <;> rfl
          exact (cb_ (hW _ (by rw [g0]; exact i3) (by rw [g0]; exact hhi))).trans h8
        have i1 := hid cW; clear cW; go_wp2_with fail; refine (specNext_any x xs.length wr g8 hk1).mono ?_; rintro e w5 ⟨A5, n5, c5, us, B5, m5, d5, vs, ok, rfl, hI, hJ, hb5, hy, hno⟩; have hz5 := hb5.size; have a6 := zac w5 (.cells #[.slice A5 n5 c5, .slice B5 m5 d5] 25); obtain ⟨W5, hW5⟩ : ∃ W5, w5.alloc (.cells #[.slice A5 n5 c5, .slice B5 m5 d5] 25) = W5 := ⟨_, rfl⟩; have hzz : w5.heap.size ≤ W5.heap.size := by rw [← hW5]; simp
        have X5 : Blk W5 w5.heap.size 25 #[.slice A5 n5 c5, .slice B5 m5 d5] := by rw [← hW5]; exact Blk.new w5 _ _
        rw [hW5] at a6; have b7 := zaa hb5 a6; have a7 := hid (HL.out.below b7); have i4 := hid (show OwnSx W5 ⟨wr.heap.size, w5.heap.size, A5, n5, c5, us, B5, m5, d5, vs⟩ from ⟨hI.keep AtomE.stays (fun q _ h2 => a6.cell (p := q) h2) (nl _) (nl _), hJ.keep AtomE.stays (fun q _ h2 => a6.cell (p := q) h2) (nl _) (nl _)⟩); have HY := hid hy; have HN := hid hno; have h6 := hid b7; have d4 := hid hW5; have x0 : W5.cell? ⟨w5.heap.size, 0, none⟩ = some (.slice A5 n5 c5) := X5.cell 0; have x1 : W5.cell? ⟨w5.heap.size, 1, none⟩ = some (.slice B5 m5 d5) := X5.cell 1; clear hI hJ hb5 hy hno a6 b7 hW5 X5; cases ok
        · have d7 := b6.out.stop d9.out (fun c hc => by rw [List.length_map]; exact HN.out qdl c hc)
          have g6 := hid d7; clear d7; go_wp2_with (rw [d4.out]); refine bodyPost_ret (v := .tuple #[.slice A xs.length c, .int .i64 (m : Int)]) qcm rfl ⟨A, _, c, xs.map sAt, m, rfl, a7.out.chs, a7.out.gr, .inl ⟨by omega, g6.out, b6.out.n⟩⟩
        · obtain ⟨e8, a8⟩ := HY.out qdl
          have a2 := b6.out.more d9.out (c := (us, vs)) e8 (by rw [List.length_map]; exact a8); rw [g5] at a2
          have c4 : m + x.size + 1 ≤ s.size := by
            obtain ⟨r, h1, _⟩ := a2.le; have h3 := congrArg List.length h1; rw [List.length_append, ← a2.n] at h3; omega
          have hq1 : IntKind.i64.wrap ((m : Int) + (x.size : Int)) = ((m + x.size : Nat) : Int) := qap; have hq2 : IntKind.i64.wrap (((m + x.size : Nat) : Int) + 1) = ((m + x.size + 1 : Nat) : Int) := qap; have HM := hid a2; clear e8 a8 a2
          go_wp2_with (first
            | rw [d4.out]
            | (at_builtin; refine wpList_append_lies _ rfl _ _ 34 rfl w.heap.size 25 i0 _ 2 48 Tryz.underlying34 HI.out HZ.out HSZ.out HYY.out rfl qam _ _ _ rfl (a7.out.K.alloc _) ⟨W5.heap.size, 0, none⟩ 1 1 [.slice A5 n5 c5, .slice B5 m5 d5] rfl rfl (zbv _ _ _ _) qal qaa qaf qaa qai (W5.heap.size + 1) qag ?_; intro g' cap' w9 hown' hgrow' hat' _; have kk := (fun b h1 h2 => (hgrow'.block b qai (fun e => by rcases a7.out.far b e.symm with h | h <;> omega)).trans (((zac W5 (.cells #[.slice A5 n5 c5, .slice B5 m5 d5] 25)).block b qaa).trans (h6.out.block b qaa)) : ∀ b, w1.heap.size ≤ b → b < w3.heap.size → w9.heap[b]? = wr.heap[b]?); have cE9 := i1.out w9 kk; have KK := hid kk; have hown := hid hown'; have hgrow := hid hgrow'; have hat := hid hat'; clear hown' hgrow' hat' kk))
          have h5 := a7.out.more (x := ⟨wr.heap.size, w5.heap.size, A5, n5, c5, us, B5, m5, d5, vs⟩) i4.out (by show w5.heap.size ≤ _; omega) (fun g e => (HL.out.K.lt g e).2) hown.out hgrow.out hat.out; go_roundw
          case rel => exact ⟨xs.length + 1, m + x.size + 1, some ⟨g', 0, none⟩, cap', xs ++ [⟨wr.heap.size, w5.heap.size, A5, n5, c5, us, B5, m5, d5, vs⟩], by omega, by go_num, rfl, by simp, by simp, c4, by rw [List.length_append]; exact h5, by rw [List.map_append]; exact HM.out, fun b h1 h2 => (KK.out b h1 h2).trans (HK.out b h1 h2)⟩
          case measure => exact qms
      · have c0 : ¬ ((xs.length + 1 : Nat) : Int) < (ws.length : Int) := qaa
        have a5 : LogOf s.data.toList (xs.map sAt) := by
          have h1 := HR.out; have h2 : ((ws.map (fun x => x.data.toList)).drop xs.length).length = 1 := by rw [List.length_drop, List.length_map]; omega
          obtain ⟨y, h3⟩ := List.length_eq_one_iff.1 h2; rw [h3] at h1; exact h1.last
        have b9 := hid a5; clear hT a5; go_wp2; refine bodyPost_ret (v := .tuple #[.slice A xs.length c, .int .i64 (m : Int)]) qcm rfl ⟨A, _, c, xs.map sAt, m, rfl, HL.out.chs, HL.out.gr, .inl ⟨by omega, b9.out, HR.out.n⟩⟩
end Go.Proofs.YtogonjkklioaaaaGreatDoor
