/-
  Texts of one claim, put together.
-/
import Derived.Test.YtogonjkklioaaaaGreatDoorLg26
set_option maxRecDepth 100000
set_option maxHeartbeats 8000000
namespace Go.Proofs.YtogonjkklioaaaaGreatDoor
open Go.RowKit
structure SG (w : World) (cb lo hi : Nat) (vc vg : Value) (rc rg : List Rf) (W : World) : Prop where
  C : Blk W cb 25 #[vc, vg]
  G : W.ownsRow lo 51 2 vg rg.length (zai rg)
  K : W.ownsRow lo 51 2 vc rc.length (zai rc)
  NE : ∀ g, vg.ownBlock = some g → vc.ownBlock ≠ some g
  GI : OwnIn W lo hi rg
  KI : OwnIn W lo hi rc
  hc : w.heap.size ≤ cb
  h0 : cb < lo
  h1 : lo ≤ hi
  h3 : hi ≤ W.heap.size
  gr : Below w.heap.size w W
section
variable {w : World} {cb lo hi : Nat} {vc vg : Value} {rc rg : List Rf} {W W' : World} {r : Rf} {ob : Obj} {W9 : World} {g' n cap : Nat}
theorem SG.raise (h : SG w cb lo hi vc vg rc rg W) : SG w cb lo W.heap.size vc vg rc rg W :=
  ⟨h.C, h.G, h.K, h.NE, h.GI.keep (fun _ _ _ => rfl) (nl _) h.h3, h.KI.keep (fun _ _ _ => rfl) (nl _) h.h3, h.hc, h.h0, Nat.le_trans h.h1 h.h3, nl _, h.gr⟩
theorem SG.below (h : SG w cb lo hi vc vg rc rg W) (hb : Below W.heap.size W W') : SG w cb lo hi vc vg rc rg W' := by
  have h3 := h.h3; have a3 := hb.size; have hs := h.gr.size
  exact ⟨h.C.below hb, zan h.G hb, zan h.K hb, h.NE, h.GI.keep (fun b _ a2 => hb.block b qaa) (nl _) (nl _), h.KI.keep (fun b _ a2 => hb.block b qaa) (nl _) (nl _),
    h.hc, h.h0, h.h1, Nat.le_trans h3 a3, h.gr.trans (hb.mono hs)⟩
theorem zki {p : Prop} (h : p := by
  exact ⟨hgrow.os.trans hA.gr.os, hgrow.tape.trans hA.gr.tape, hgrow.output.trans hA.gr.output, by omega, fun k hk => (hgrow.block k qaa (fun e => by have := far k e.symm; omega)).trans (hA.gr.block k hk)⟩) : p := h
theorem SG.goes (h : SG w cb lo hi vc vg rc rg W) (hr : HeadApart W hi W.heap.size r)
    (hown : W9.ownsRow lo 51 2 (.slice (some ⟨g', 0, none⟩) n cap) (rg.length + 1) (zai rg ++ [.string r.1, .slice r.2.1 r.2.2.1 r.2.2.2.1])) (hgrow : (W.alloc ob).grownBy W9 vg.ownBlock) (hat : vg.ownBlock = some g' ∨ g' = W.heap.size + 1) :
    SG w cb lo W9.heap.size vc (.slice (some ⟨g', 0, none⟩) n cap) rc (rg ++ [r]) (W9.setCell ⟨cb, 1, none⟩ (.slice (some ⟨g', 0, none⟩) n cap)) := by
  have h0 := h.h0; have h1 := h.h1; have h3 := h.h3; have hs := h.gr.size; have hc := h.hc; have hb1 := zac W ob; have a3 := hgrow.size; have a6 := hb1.size; have hA := h.below hb1; have far : ∀ g, vg.ownBlock = some g → lo ≤ g := fun g hg => (hA.G.lt g hg).1; have i1 : OwnIn W lo W.heap.size (rg ++ [r]) := h.GI.snoc (fun _ _ _ => rfl) h3 hr.1 h1 hr.2.1 hr.2.2; have i2 : OwnIn W9 lo W9.heap.size (rg ++ [r]) := (i1.keep (w' := W.alloc ob) (fun b _ a2 => hb1.block b a2) (nl _) a6).appended hA.G hgrow a3; have j2 : OwnIn W9 lo W9.heap.size rc := (hA.KI.keep (fun _ _ _ => rfl) (nl _) hA.h3).appended hA.G hgrow a3
  have c9 : Blk W9 cb 25 #[vc, vg] := hA.C.kept hgrow (zbf hA.G hA.C); have a5 := zbf hown c9
  have a4 : vc.ownBlock = none ∨ vc.ownBlock ≠ vg.ownBlock := by
    cases hv : vg.ownBlock with
    | none => cases hv2 : vc.ownBlock with
      | none => exact .inl rfl
      | some g => exact .inr qag
    | some g => exact .inr (h.NE g hv)
  have k9 := hA.K.kept hgrow a4; refine ⟨c9.set 1 _, ?_, zds k9 (zbf k9 c9) _, fun g hg hg2 => ?_, ?_, ?_, hc, h0, by omega, by rw [zab]; exact nl _, ?_⟩
  · rw [List.length_append, zcv]; exact zds hown a5 _
  · simp [Value.ownBlock] at hg
    subst hg; rcases hat with e | e
    · exact h.NE g' e hg2
    · have := (h.K.lt g' hg2).2; omega
  · exact i2.keep (fun b a1 _ => hs_ _ _ _ b qdh) (nl _) (nl _)
  · exact j2.keep (fun b a1 _ => hs_ _ _ _ b qdh) (nl _) (nl _)
  · refine Below.setCell ?_ hc _
    exact zki
theorem SG.comes (h : SG w cb lo hi vc vg rc rg W) (hr : HeadApart W hi W.heap.size r)
    (hown : W9.ownsRow lo 51 2 (.slice (some ⟨g', 0, none⟩) n cap) (rc.length + 1) (zai rc ++ [.string r.1, .slice r.2.1 r.2.2.1 r.2.2.2.1])) (hgrow : (W.alloc ob).grownBy W9 vc.ownBlock) (hat : vc.ownBlock = some g' ∨ g' = W.heap.size + 1) :
    SG w cb lo W9.heap.size (.slice (some ⟨g', 0, none⟩) n cap) vg (rc ++ [r]) rg (W9.setCell ⟨cb, 0, none⟩ (.slice (some ⟨g', 0, none⟩) n cap)) := by
  have h0 := h.h0; have h1 := h.h1; have h3 := h.h3; have hs := h.gr.size; have hc := h.hc; have hb1 := zac W ob; have a3 := hgrow.size; have a6 := hb1.size; have hA := h.below hb1; have far : ∀ g, vc.ownBlock = some g → lo ≤ g := fun g hg => (hA.K.lt g hg).1; have i1 : OwnIn W lo W.heap.size (rc ++ [r]) := h.KI.snoc (fun _ _ _ => rfl) h3 hr.1 h1 hr.2.1 hr.2.2; have i2 : OwnIn W9 lo W9.heap.size (rc ++ [r]) := (i1.keep (w' := W.alloc ob) (fun b _ a2 => hb1.block b a2) (nl _) a6).appended hA.K hgrow a3; have j2 : OwnIn W9 lo W9.heap.size rg := (hA.GI.keep (fun _ _ _ => rfl) (nl _) hA.h3).appended hA.K hgrow a3
  have c9 : Blk W9 cb 25 #[vc, vg] := hA.C.kept hgrow (zbf hA.K hA.C); have a5 := zbf hown c9
  have a4 : vg.ownBlock = none ∨ vg.ownBlock ≠ vc.ownBlock := by
    cases hv : vg.ownBlock with
    | none => exact .inl rfl
    | some g => exact .inr (fun e => h.NE g hv e.symm)
  have k9 := hA.G.kept hgrow a4; refine ⟨c9.set 0 _, zds k9 (zbf k9 c9) _, ?_, fun g hg hg2 => ?_, ?_, ?_, hc, h0, by omega, by rw [zab]; exact nl _, ?_⟩
  · rw [List.length_append, zcv]; exact zds hown a5 _
  · simp [Value.ownBlock] at hg2
    subst hg2; rcases hat with e | e
    · exact h.NE g' hg e
    · have := (h.G.lt g' hg).2; omega
  · exact j2.keep (fun b a1 _ => hs_ _ _ _ b qdh) (nl _) (nl _)
  · exact i2.keep (fun b a1 _ => hs_ _ _ _ b qdh) (nl _) (nl _)
  · refine Below.setCell ?_ hc _
    exact zki
theorem SG.tells (h : SG w cb lo hi vc vg rc rg W) : ∃ A c B d, vc = .slice A rc.length c ∧ vg = .slice B rg.length d ∧ IsAtoms W lo W.heap.size A rc.length c (rc.map rAt) ∧ IsAtoms W lo W.heap.size B rg.length d (rg.map rAt) := by
  obtain ⟨A, c, e1, o1⟩ := OwnRefs.of_row (lo := lo) h.K rfl (nl _) (h.KI.keep (fun _ _ _ => rfl) (nl _) h.h3) (nl _); obtain ⟨B, d, e2, o2⟩ := OwnRefs.of_row (lo := lo) h.G rfl (nl _) (h.GI.keep (fun _ _ _ => rfl) (nl _) h.h3) (nl _); exact ⟨A, c, B, d, e1, e2, o1.atoms, o2.atoms⟩
end
theorem cuts_free (c : UInt8) : ∀ (n : Nat) (l : List UInt8), l.length ≤ n → ∀ x ∈ zfj c l, c ∉ x
  | n, l, hn => by
    rcases zez c l with h | ⟨x, r, rfl, h⟩
    · rw [zdf h]; intro y hy; rw [List.mem_singleton.1 hy]; exact h
    · rw [zbw h]; intro y hy
      rcases List.mem_cons.1 hy with rfl | hy
      · exact h
      · cases n with
        | zero => simp at hn
        | succ n => exact cuts_free c n r (by simp at hn; omega) y hy
theorem join_on {x y : List UInt8} {r : List (List UInt8)} : Lib.join (x :: y :: r) [32] = x ++ 32 :: Lib.join (y :: r) [32] := by
  rw [Lib.join_cons, zgf, Lib.join_cons]; simp
theorem zoz : ∀ (T : List Sg) (r : List (List UInt8)), r ≠ [] → Lib.join (T.map (fun z => z.1 :: zau z.2) ++ r) [32] = encS T ++ Lib.join r [32]
  | [], r, _ => by simp [encS]
  | z :: T, r, hr => by
    have ih := zoz T r hr; rw [zci, List.map_cons, List.cons_append]
    cases hm : T.map (fun z => z.1 :: zau z.2) ++ r with
    | nil => simp at hm; exact absurd hm.2 hr
    | cons y q => rw [join_on, ← hm, ih]; simp
structure SAt (ws : List (List UInt8)) (k : Nat) (T : List Sg) (cs gs : List At) : Prop where
  len : T.length = k
  at_ : ∀ z ∈ T, zax z.2 = true
  wd : ws.take k = T.map fun z => z.1 :: zau z.2
  ec : cs = T.filterMap fun z => if z.1 = 45 then none else some z.2
  eg : gs = T.filterMap fun z => if z.1 = 45 then some z.2 else none
section
variable {ws : List (List UInt8)} {k : Nat} {T : List Sg} {cs gs : List At} {l : List UInt8}
theorem SAt.start (ws : List (List UInt8)) : SAt ws 0 [] [] [] := ⟨rfl, fun z h => by simp at h, by simp, rfl, rfl⟩
theorem SAt.text (h : SAt ws k T cs gs) (hl : zfj 32 l = ws) (hk : k < ws.length) : l = encS T ++ Lib.join (ws.drop k) [32] := by
  have h1 := cuts_join 32 l; rw [hl, ← List.take_append_drop k ws, h.wd, zoz _ _ (fun e => by have := congrArg List.length e; simp at this; omega)] at h1; exact h1.symm
theorem SAt.goes {p : List UInt8} {a : At} (h : SAt ws k T cs gs) (hw : ws[k]? = some (45 :: p)) (hg : zjz p = some a) : SAt ws (k + 1) (T ++ [(45, a)]) cs (gs ++ [a]) := by
  obtain ⟨h1, h2, _⟩ := zjy hg; refine ⟨by rw [List.length_append, h.len]; rfl, fun z hz => ?_, by rw [List.take_add_one, hw, h.wd, List.map_append]; simp [h2], by rw [List.filterMap_append, ← h.ec]; simp, by rw [List.filterMap_append, ← h.eg]; simp⟩; rcases List.mem_append.1 hz with hz | hz
  · exact h.at_ z hz
  · rw [List.mem_singleton.1 hz]; exact h1
theorem SAt.comes {p : List UInt8} {a : At} {x : UInt8} (h : SAt ws k T cs gs) (hx : x ≠ 45) (hw : ws[k]? = some (x :: p)) (hg : zjz p = some a) : SAt ws (k + 1) (T ++ [(x, a)]) (cs ++ [a]) gs := by
  obtain ⟨h1, h2, _⟩ := zjy hg; refine ⟨by rw [List.length_append, h.len]; rfl, fun z hz => ?_, by rw [List.take_add_one, hw, h.wd, List.map_append]; simp [h2], by rw [List.filterMap_append, ← h.ec]; simp [hx], by rw [List.filterMap_append, ← h.eg]; simp [hx]⟩; rcases List.mem_append.1 hz with hz | hz
  · exact h.at_ z hz
  · rw [List.mem_singleton.1 hz]; exact h1
theorem SAt.none {x : List UInt8} (h : SAt ws k T cs gs) (hl : zfj 32 l = ws) (hk : k + 1 < ws.length) (hw : ws[k]? = some x) (hx : (32 : UInt8) ∉ x) (hno : ∀ y p, x = y :: p → zjz p = none) (us vs : List At) (hch : zao us vs = true) : l ≠ chL us vs := by
  intro he; obtain ⟨_, _, a1, a2⟩ := zbk hch; have ht := h.text hl qaa; rw [he, ← zdu] at ht; obtain ⟨V, h1, h2⟩ := zdo (zcg a1 a2) h.at_ ht; obtain ⟨a3, a6⟩ := List.getElem?_eq_some_iff.1 hw
  have hd : ws.drop k = x :: ws[k + 1] :: ws.drop (k + 2) := by
    rw [List.drop_eq_getElem_cons a3, a6, List.drop_eq_getElem_cons hk]
  rw [hd, join_on] at h2
  cases V with
  | nil => simp [encS] at h2
  | cons z V =>
    rw [zci] at h2; have hz := zcg a1 a2 z (by rw [h1]; simp)
    have a5 : z.1 ≠ 32 := by
      have hz : z ∈ sgs us vs := by rw [h1]; simp
      unfold sgs at hz; rcases List.mem_append.1 hz with hz | hz
      · obtain ⟨a, _, rfl⟩ := List.mem_map.1 hz; exact (show (45 : UInt8) ≠ 32 by decide)
      · obtain ⟨a, _, rfl⟩ := List.mem_map.1 hz; exact (show (43 : UInt8) ≠ 32 by decide)
    have a4 : (32 : UInt8) ∉ z.1 :: zau z.2 := fun hm => by
      rcases List.mem_cons.1 hm with hm | hm
      · exact a5 hm.symm
      · exact zei hz hm
    obtain ⟨h3, _⟩ := zdm (a := x) (b := z.1 :: zau z.2) (by rw [h2]; rfl) hx a4; have h4 := hno z.1 (zau z.2) h3; rw [zjx hz] at h4; cases h4
theorem SAt.all (h : SAt ws k T cs gs) (hl : zfj 32 l = ws) (hk : k + 1 = ws.length) (hb : ∀ x ∈ ws, (32 : UInt8) ∉ x) :
    (chB cs gs = l → zao cs gs = true ∧ l = chL cs gs) ∧ (chB cs gs ≠ l → ∀ us vs, zao us vs = true → l ≠ chL us vs) := by
  have ht := h.text hl qaa; have a4 : k < ws.length := qaa
  have hd : ws.drop k = [ws[k]] := by
    rw [List.drop_eq_getElem_cons a4, List.drop_of_length_le qaa]
  rw [hd, Lib.join_cons] at ht; rw [show Lib.joinTail [32] ([] : List (List UInt8)) = [] from rfl, List.append_nil] at ht; have a3 := hb ws[k] (List.getElem_mem a4); refine ⟨fun he => ?_, fun hne us vs hch he => ?_⟩
  · cases hc : zao cs gs
    · exfalso
      unfold chB at he; rw [hc, if_neg qag] at he; subst he; have h1 : ws = [[]] := by rw [← hl]; exact zdf qag
      have h2 : T = [] := List.eq_nil_of_length_eq_zero (by rw [h.len]; rw [h1] at hk; simp at hk; exact hk); rw [h.ec, h.eg, h2] at hc; revert hc; decide
    · unfold chB at he
      rw [hc, if_pos rfl] at he; exact ⟨rfl, he.symm⟩
  · obtain ⟨_, _, a1, a2⟩ := zbk hch
    rw [he, ← zdu] at ht; obtain ⟨V, h1, h2⟩ := zdo (zcg a1 a2) h.at_ ht
    cases V with
    | cons z V => rw [h2, zci] at a3; exact a3 qag
    | nil =>
      rw [List.append_nil] at h1; have e1 : cs = us := by rw [h.ec, ← h1]; unfold sgs; simp [List.filterMap_append, List.filterMap_map, Function.comp_def]
      have e2 : gs = vs := by rw [h.eg, ← h1]; unfold sgs; simp [List.filterMap_append, List.filterMap_map, Function.comp_def]
      apply hne; rw [e1, e2, he]; unfold chB; rw [if_pos hch]
end
def GetNPost (l : List UInt8) (w : World) (e : Ending) (w' : World) : Prop :=
  ∃ (A : Option Addr) (c n : Nat) (xs : List At) (B : Option Addr) (d m : Nat) (ys : List At) (ok : Bool), e = .returned (.tuple #[.agg #[.slice A n c, .slice B m d], .bool ok]) ∧
    IsAtoms w' w.heap.size w'.heap.size A n c xs ∧ IsAtoms w' w.heap.size w'.heap.size B m d ys ∧ Below w.heap.size w w' ∧
    (ok = true → zao xs ys = true ∧ l = chL xs ys) ∧ (ok = false → xs = [] ∧ ys = [] ∧ ∀ us vs, zao us vs = true → l ≠ chL us vs)
theorem zmm {p : Prop} (h : p := by
  go_roundw
  case rel => exact ⟨k + 1, _, _, _, _, _, _, by omega, by go_num, hM, by rw [List.map_append]; exact HS.out, by simp only [List.length_append, List.length_cons, List.length_nil]; omega, fun b h1 h2 => (hs_ _ _ _ b (by show b ≠ w.heap.size + 1; omega)).trans ((hgrow.out.block b (by have := (zac W6 (.cells #[.string r.1, .slice r.2.1 r.2.2.1 r.2.2.2.1] 51)).size; omega) (fun e => by have := hfar b e.symm; omega)).trans (((zac W6 _).block b qaa).trans ((HB6.out.block b qaa).trans (HK.out b h1 h2))))⟩
  case measure => exact qms) : p := h
theorem zko (s : ByteArray) (w : World) (hs : s.size ≤ 1048576) :
    Calls Tryz.prog 14 #[.string s] w (GetNPost s.data.toList w) := by
  obtain ⟨i0, hi, hz, hsz, hby⟩ := info_parts Tryz.infoAt; have HI := hid hi; have HZ := hid hz; have HSZ := hid hsz; have HYY := hid hby; clear hi hz hsz hby; obtain ⟨ws, b3⟩ : ∃ x, zef 32 s = x := ⟨_, rfl⟩; have hwl : ws.length ≤ s.size + 1 := by rw [← b3]; exact zhl 32 s
  have hwz : ∀ x ∈ ws, x.size ≤ 1048576 := fun x hx => Nat.le_trans (zep (c := 32) (s := s) (by rw [b3]; exact hx)) hs; have hwd : zfj 32 s.data.toList = ws.map (fun x => x.data.toList) := by rw [← b3]; exact (zfv 32 s).symm
  have a4 : ∀ x ∈ ws.map (fun x => x.data.toList), (32 : UInt8) ∉ x := by rw [← hwd]; exact cuts_free 32 _ _ (nl _)
  have hw0 : 0 < ws.length := by
    have h1 := congrArg List.length hwd; rw [zfi] at h1; simp at h1; omega
  have j6 := hid b3; have j0 := hid hwz; have g0 := hid hwd; have h8 := hid a4; clear b3 hwz hwd a4; have g5 := zac w (.cells #[.slice none 0 0, .slice none 0 0] 25); have X0 := Blk.new w 25 #[.slice none 0 0, .slice none 0 0]; obtain ⟨w1, g8⟩ : ∃ w1, w.alloc (.cells #[.slice none 0 0, .slice none 0 0] 25) = w1 := ⟨_, rfl⟩; rw [g8] at g5 X0; have i1 : w1.heap.size = w.heap.size + 1 := by rw [← g8]; simp
  have hb1 := zac w1 (.cells #[.slice none 0 0, .slice none 0 0] 25); have X1 := Blk.new w1 25 #[.slice none 0 0, .slice none 0 0]; obtain ⟨w2, d4⟩ : ∃ w2, w1.alloc (.cells #[.slice none 0 0, .slice none 0 0] 25) = w2 := ⟨_, rfl⟩; rw [d4] at hb1 X1; have hz2 : w2.heap.size = w.heap.size + 2 := by rw [← d4]; simp [i1]
  have i4 := hid d4; clear d4; go_enter Tryz.func14, Tryz.ntmps14; go_wp2_with fail; rw [i4.out]; refine (zhe s 32 w2 hs).mono ?_; rintro e w3 ⟨pp, d3, rfl, h4, hb3⟩; rw [j6.out] at h4 ⊢; have hz3 := hb3.size; have i3 : Hid (SG w1 (w.heap.size + 1) w3.heap.size w3.heap.size (.slice none 0 0) (.slice none 0 0) [] [] w3) := hid ⟨by have := X1.below hb3; rw [i1] at this; exact this, ⟨rfl, .inl ⟨rfl, rfl⟩⟩, ⟨rfl, .inl ⟨rfl, rfl⟩⟩, fun g hg => by simp [Value.ownBlock] at hg, OwnIn.nil, OwnIn.nil, by omega, by omega, by omega, nl _, zaa hb1 hb3⟩
  have i7 := hid h4; rw [hz2] at i7; have X0 := hid X0; have h5 := hid g5; clear h4 hb3 hb1 g5 X1 g8 i4
  have NO : ∀ (W : World) (hi : Nat) (vc vg : Value) (rc rg : List Rf), SG w1 (w.heap.size + 1) w3.heap.size hi vc vg rc rg W → (∀ us vs, zao us vs = true → s.data.toList ≠ chL us vs) → GetNPost s.data.toList w (.returned (.tuple #[.agg #[.slice none 0 0, .slice none 0 0], .bool false])) ((W.setCell ⟨w.heap.size, 0, none⟩ (.slice none 0 0)).setCell ⟨w.heap.size, 1, none⟩ (.slice none 0 0)) := by
    intro W hi vc vg rc rg hC hno; have hb : Below w.heap.size w W := zaa h5.out hC.gr; have hb2 := (hb.setCell (p := ⟨w.heap.size, 0, none⟩) (nl _) (.slice none 0 0)).setCell (p := ⟨w.heap.size, 1, none⟩) (nl _) (.slice none 0 0); exact ⟨none, 0, 0, [], none, 0, 0, [], false, rfl, (zmb (lo := w.heap.size) (hi := _)).atoms, (zmb (lo := w.heap.size) (hi := _)).atoms, hb2, qdd, fun _ => ⟨rfl, rfl, hno⟩⟩
  have HNO := hid NO; clear NO; go_wp2_with fail; go_loopw [6] (fun i wr => ∃ (k hi : Nat) (vc vg : Value) (rc rg : List Rf) (T : List Sg), k + 1 ≤ ws.length ∧ i = .int .i64 (k : Int) ∧ SG w1 (w.heap.size + 1) w3.heap.size hi vc vg rc rg wr ∧ SAt (ws.map (fun x => x.data.toList)) k T (rc.map rAt) (rg.map rAt) ∧ rc.length + rg.length ≤ k ∧ ∀ b, w.heap.size + 2 ≤ b → b < w3.heap.size → wr.heap[b]? = w3.heap[b]?) (fun i _ => ws.length - (intOf i).toNat)
  case atStart => exact ⟨0, _, _, _, [], [], [], by omega, rfl, i3.out, SAt.start _, nl _, fun _ _ _ => rfl⟩
  case round =>
    obtain ⟨k, hi, vc, vg, rc, rg, T, hk, rfl, hC, hA, hln, a3⟩ := hrel; clear i3; have HC := hid hC.raise; have HA := hid hA; have HK := hid a3; have hT := i7.out.keep TextE.stays (fun q h1 h2 => cb_ (a3 q.block h1 h2)) (nl _) (nl _); clear hC hA a3; have hwk : IntKind.i64.wrap ((k : Int) + 1) = ((k + 1 : Nat) : Int) := qao; by_cases hlt : k + 1 < ws.length
    · have g6 : ((k + 1 : Nat) : Int) < (ws.length : Int) := qaa
      have hkI : (k : Int) < (ws.length : Int) := qaa; obtain ⟨p, x, g2, hlo, hhi, hg, hE⟩ := hT.at_ (show k < ws.length by omega); injection g2 with g2; subst g2; have cE : wr.cell? (pp.add (k * 1)) = some (.string x) := hE; have cE2 : wr.cell? (pp.add k) = some (.string x) := by rw [Nat.mul_one] at cE; exact cE
      have hxz : x.size ≤ 1048576 := j0.out x (List.mem_of_getElem? hg); have e7 : (ws.map (fun x => x.data.toList))[k]? = some x.data.toList := by rw [List.getElem?_map, hg]; rfl
      have b4 : (32 : UInt8) ∉ x.data.toList := h8.out _ (List.mem_of_getElem? e7); have d9 := hid e7; have b7 := hid b4; clear hT hE hg e7 b4; have X6 := X0.out.below HC.out.gr; have a0 : wr.cell? ⟨w.heap.size, 0, none⟩ = some (.slice none 0 0) := X6.cell 0; have a1 : wr.cell? ⟨w.heap.size, 1, none⟩ = some (.slice none 0 0) := X6.cell 1; have f0 := X6.frozen 0; have f1 := X6.frozen 1; by_cases hx0 : x.size = 0
      · have a2 := HA.out.none g0.out (by rw [List.length_map]; exact hlt) d9.out b7.out (fun y p e => by
          have h1 := congrArg List.length e; have h2 : x.data.toList.length = x.size := qag; rw [h2] at h1; simp at h1; omega)
        have HNN := hid a2; clear a2 X6; have g7 : (x.size : Int) = 0 := qaa; go_wp2; exact bodyPost_ret (v := .tuple #[.agg #[.slice none 0 0, .slice none 0 0], .bool false]) qbj rfl (HNO.out wr _ _ _ _ _ HC.out HNN.out)
      · obtain ⟨y, q, e8⟩ : ∃ y q, x.data.toList = y :: q := by
          cases h : x.data.toList with
          | nil =>
            have h2 : x.data.toList.length = x.size := qag
            rw [h] at h2; simp at h2; omega
          | cons y q => exact ⟨y, q, rfl⟩
        have hxl : x.size = q.length + 1 := by
          have h2 : x.data.toList.length = x.size := qag; rw [e8] at h2; simp at h2; omega
        have g7 : ¬ (x.size : Int) = 0 := qaa; have i8 : (1 : Int) ≤ (x.size : Int) := qaa; have k5 : (0 : Int) < (x.size : Int) := qaa; have b6 := hid e8; clear e8; obtain ⟨T0, i6⟩ : ∃ T0 : ByteArray, x.extract 1 (q.length + 1) = T0 := ⟨_, rfl⟩; have h7 : T0.data.toList = q := by rw [← i6, ByteArray.data_extract, Array.toList_extract, b6.out]; simp
        have k3 : T0.size ≤ 1048576 := by
          have h1 : T0.size = T0.data.toList.length := qag; rw [h1, h7]; omega
        obtain ⟨k0, b9⟩ := zlj (s := x) (i := 0) (pre := []) (post := q) (b := y) (by simpa using b6.out) (Nat.zero_le _); have hpos : 0 < x.size := qaa; have g1 : x[0]'hpos = y := b9; clear b9 k0 X6; go_wp2_with fail; clear i6; refine (znv T0 wr k3).mono ?_; rintro e w5 ⟨r, rfl, hH, hr, hb5⟩; rw [h7] at hr ⊢; unfold zfc; have d7 := zac w5 (.cells #[.string r.1, .slice r.2.1 r.2.2.1 r.2.2.2.1] 51); have a9 := zaa hb5 d7; have H6 : HeadApart (w5.alloc (.cells #[.string r.1, .slice r.2.1 r.2.2.1 r.2.2.2.1] 51)) wr.heap.size (w5.alloc (.cells #[.string r.1, .slice r.2.1 r.2.2.1 r.2.2.2.1] 51)).heap.size r := hH.keep (fun b _ h2 => d7.block b h2) (nl _) d7.size
        have B6 := Blk.new w5 51 #[.string r.1, .slice r.2.1 r.2.2.1 r.2.2.2.1]; obtain ⟨W6, e6⟩ : ∃ W6, w5.alloc (.cells #[.string r.1, .slice r.2.1 r.2.2.1 r.2.2.2.1] 51) = W6 := ⟨_, rfl⟩; rw [e6] at a9 H6 B6; have hz6 := a9.size; have j7 := HC.out.h1; have b0 : W6.cell? ⟨w5.heap.size, 0, none⟩ = some (.string r.1) := B6.cell 0; have b1 : W6.cell? ⟨w5.heap.size, 1, none⟩ = some (.slice r.2.1 r.2.2.1 r.2.2.2.1) := B6.cell 1; have i5 : W6.cell? (pp.add (k * 1)) = some (.string x) := (a9.cell (p := pp.add (k * 1)) qat).trans cE; have cE7 : W6.cell? (pp.add k) = some (.string x) := by rw [Nat.mul_one] at i5; exact i5
        have a8 := HC.out.below a9; have X6 := X0.out.below a8.gr; have a0 : W6.cell? ⟨w.heap.size, 0, none⟩ = some (.slice none 0 0) := X6.cell 0; have a1 : W6.cell? ⟨w.heap.size, 1, none⟩ = some (.slice none 0 0) := X6.cell 1; have f0 := X6.frozen 0; have f1 := X6.frozen 1; obtain ⟨A, c, B, d, ea, eb, _, _⟩ := a8.tells; have c0 : W6.cell? ⟨w.heap.size + 1, 0, none⟩ = some vc := a8.C.cell 0; have c1 : W6.cell? ⟨w.heap.size + 1, 1, none⟩ = some vg := a8.C.cell 1; have c3 := hid (a8.C.alloc (.cells #[.string r.1, .slice r.2.1 r.2.2.1 r.2.2.2.1] 51)); have a5 := hid a8; have H := hid H6; have HB6 := hid a9; have HW := hid e6
        clear a8 H6 a9 e6 B6 X6 d7 hb5 hH HC
        cases hgb : zjz q with
        | none =>
          have a2 := HA.out.none g0.out (by rw [List.length_map]; exact hlt) d9.out b7.out (fun y' p e => by
            rw [b6.out] at e; injection e with _ e; rw [← e]; exact hgb)
          have HNN := hid a2; clear a2 hgb hr; rw [show (none : Option At).isSome = false from rfl]; have h6 := HW.out; go_wp2
          exact bodyPost_ret (v := .tuple #[.agg #[.slice none 0 0, .slice none 0 0], .bool false]) qbj rfl (HNO.out W6 _ _ _ _ _ a5.out HNN.out)
        | some a =>
          have c7 : rAt r = a := by rw [hr, hgb]; rfl
          rw [show (some a : Option At).isSome = true from rfl]; by_cases hy : y = 45
          · subst hy
            have hI : ((x[0]'hpos).toNat : Int) = 45 := by rw [g1]; rfl
            have HS := hid (HA.out.goes (by rw [d9.out, b6.out]) (by rw [hgb, ← c7])); clear hgb hr c7; have h6 := HW.out; subst eb; have HRW := hid a5.out.G; go_wp2_with (at_builtin; refine wpList_append_lies _ rfl _ _ 23 rfl w3.heap.size 51 i0 _ 2 40 Tryz.underlying23 HI.out HZ.out HSZ.out HYY.out rfl qan _ _ _ rfl (HRW.out.alloc _) ⟨W6.heap.size, 0, none⟩ 1 1 [.string r.1, .slice r.2.1 r.2.2.1 r.2.2.2.1] rfl rfl (zbr _ _ _ _) qal qaa qaf qaa qah (W6.heap.size + 1) qag ?_; intro g' cap' w9 hown' hgrow' hat' _; have X9 := Blk.kept c3.out hgrow' (zbf (HRW.out.alloc _) c3.out); have q2 := X9.cell 1; have j9 := X9.frozen 1; have hown := hid hown'; have hgrow := hid hgrow'; have hat := hid hat'; clear hown' hgrow' hat' X9)
            have hM := a5.out.goes H.out hown.out hgrow.out hat.out; have hfar : ∀ b, (Value.slice B rg.length d).ownBlock = some b → w3.heap.size ≤ b := fun b hb => (a5.out.G.lt b hb).1; exact zmm
          · have hI : ¬ ((x[0]'hpos).toNat : Int) = 45 := by
              rw [g1]; exact fun e => hy (UInt8.toNat_inj.1 (show y.toNat = (45 : UInt8).toNat by show y.toNat = 45; omega))
            have hI2 : ¬ (y.toNat : Int) = 45 := by rw [← g1]; exact hI
            have HS := hid (HA.out.comes hy (by rw [d9.out, b6.out]) (by rw [hgb, ← c7])); clear hgb hr c7; have h6 := HW.out; subst ea; have HRW := hid a5.out.K; go_wp2_with (at_builtin; refine wpList_append_lies _ rfl _ _ 23 rfl w3.heap.size 51 i0 _ 2 40 Tryz.underlying23 HI.out HZ.out HSZ.out HYY.out rfl qan _ _ _ rfl (HRW.out.alloc _) ⟨W6.heap.size, 0, none⟩ 1 1 [.string r.1, .slice r.2.1 r.2.2.1 r.2.2.2.1] rfl rfl (zbr _ _ _ _) qal qaa qaf qaa qah (W6.heap.size + 1) qag ?_; intro g' cap' w9 hown' hgrow' hat' _; have X9 := Blk.kept c3.out hgrow' (zbf (HRW.out.alloc _) c3.out); have q2 := X9.cell 0; have j9 := X9.frozen 0; have hown := hid hown'; have hgrow := hid hgrow'; have hat := hid hat'; clear hown' hgrow' hat' X9)
            have hM := a5.out.comes H.out hown.out hgrow.out hat.out; have hfar : ∀ b, (Value.slice A rc.length c).ownBlock = some b → w3.heap.size ≤ b := fun b hb => (a5.out.K.lt b hb).1; exact zmm
    · have g6 : ¬ ((k + 1 : Nat) : Int) < (ws.length : Int) := qaa
      obtain ⟨A, c, B, d, ea, eb, ia, ig⟩ := HC.out.tells; subst ea; subst eb; have c0 : wr.cell? ⟨w.heap.size + 1, 0, none⟩ = some (.slice A rc.length c) := HC.out.C.cell 0; have c1 : wr.cell? ⟨w.heap.size + 1, 1, none⟩ = some (.slice B rg.length d) := HC.out.C.cell 1; have IA := hid (ia.keep (w' := wr) (lo' := 0) (hi' := wr.heap.size) AtomE.stays (fun _ _ _ => rfl) (Nat.zero_le _) (nl _)); have IG := hid (ig.keep (w' := wr) (lo' := 0) (hi' := wr.heap.size) AtomE.stays (fun _ _ _ => rfl) (Nat.zero_le _) (nl _)); have JA := hid ia; have JG := hid ig; obtain ⟨a7, a6⟩ := HA.out.all g0.out (by rw [List.length_map]; omega) h8.out
      clear ia ig hT; go_wp2_with fail; refine (zkn A rc.length c B rg.length d (rc.map rAt) (rg.map rAt) wr IA.out IG.out).mono ?_; rintro e w7 ⟨rfl, hb7⟩; have b5 := hid (HC.out.below hb7); have X7 := X0.out.below b5.out.gr; have a0 : w7.cell? ⟨w.heap.size, 0, none⟩ = some (.slice none 0 0) := X7.cell 0; have a1 : w7.cell? ⟨w.heap.size, 1, none⟩ = some (.slice none 0 0) := X7.cell 1; have f0 := X7.frozen 0; have f1 := X7.frozen 1; have d0 : w7.cell? ⟨w.heap.size + 1, 0, none⟩ = some (.slice A rc.length c) := b5.out.C.cell 0; have d1 : w7.cell? ⟨w.heap.size + 1, 1, none⟩ = some (.slice B rg.length d) := b5.out.C.cell 1
      have k4 := hid (JA.out.keep (w' := w7) (lo' := w3.heap.size) (hi' := w7.heap.size) AtomE.stays (fun q _ h2 => hb7.cell (p := q) h2) (nl _) hb7.size); have j8 := hid (JG.out.keep (w' := w7) (lo' := w3.heap.size) (hi' := w7.heap.size) AtomE.stays (fun q _ h2 => hb7.cell (p := q) h2) (nl _) hb7.size); clear hb7 X7 c0 c1 HC IA IG; by_cases hput : chB (rc.map rAt) (rg.map rAt) = s.data.toList
      · obtain ⟨h1, h2⟩ := a7 hput
        have hpb : (chB (rc.map rAt) (rg.map rAt) == s.toList) = true := qdy; clear hput a7 a6; have HB7 := hid (zaa h5.out b5.out.gr); go_wp2; refine bodyPost_ret (v := .tuple #[.agg #[.slice A rc.length c, .slice B rg.length d], .bool true]) qbj rfl ⟨A, c, _, rc.map rAt, B, d, _, rg.map rAt, true, rfl, ?_, ?_, (HB7.out.setCell (nl _) _).setCell (nl _) _, fun _ => ⟨h1, h2⟩, qdd⟩
        · exact k4.out.keep AtomE.stays (fun q h1 _ => cb_ ((hs_ _ _ _ _ qbr).trans (hs_ _ _ _ _ qbr))) qaa qcn
        · exact j8.out.keep AtomE.stays (fun q h1 _ => cb_ ((hs_ _ _ _ _ qbr).trans (hs_ _ _ _ _ qbr))) qaa qcn
      · have HNN := hid (a6 hput)
        have hpb : (chB (rc.map rAt) (rg.map rAt) == s.toList) = false := by rw [zbl, beq_eq_false_iff_ne]; exact hput
        clear hput a7 a6; go_wp2; exact bodyPost_ret (v := .tuple #[.agg #[.slice none 0 0, .slice none 0 0], .bool false]) qbj rfl (HNO.out w7 _ _ _ _ _ b5.out HNN.out)
end Go.Proofs.YtogonjkklioaaaaGreatDoor
