/-
  The variables of what is asked, in the model.
  The exact law of AskVars: what the law's own text does.
-/
import Derived.Test.YtfghmphaldefbaaAskVars
import Derived.Test.YtfghmphaldefbaaPartsOwn
import Derived.Test.YtfghmphaldefbaaTextsLaw
namespace Go.Proofs.Ytfghmphaldefbaa
open Go.RowKit

set_option maxHeartbeats 1000000 in
theorem specAskVars_any (B : Option Addr) (m d : Nat) (xs : List Pt) (w : World) (h : IsParts w 0 w.heap.size B m d xs) :
    Calls Try.prog 30 #[.slice B m d] w fun e w' => ∃ A c, e = .returned (.slice A (askVarsB xs).length c) ∧ IsTexts w' 0 w'.heap.size A (askVarsB xs).length c (askVarsB xs) ∧ Below w.heap.size w w' := by
  have H := Lib.hid h; clear h
  go_enter Try.func30, Try.ntmps30
  go_wp2_with fail
  refine (specAskOk_any B m d xs w H.out).mono ?_; rintro e w1 ⟨rfl, HB1⟩
  cases hA : askB xs
  · have E := Lib.hid (show askVarsB xs = [] by unfold askVarsB; rw [hA]; rfl); clear hA
    go_wp2
    go_ret; exact ⟨_, _, by rw [E.out]; rfl, by rw [E.out]; exact ⟨rfl, Nat.zero_le _, Nat.zero_le _, fun h0 => absurd h0 (Nat.lt_irrefl _)⟩, belowThen HB1 (below1 _ _)⟩
  · have E := Lib.hid (show askVarsB xs = partsT [] xs by unfold askVarsB; rw [hA]; rfl)
    have EA := askB_ok hA
    have E3 := body_three EA.1
    have E4 := H.out.1
    clear hA
    go_wp2_with fail
    refine (l5Vars_any B m d xs w1 (H.out.up PartE.stays HB1) E3 (by omega)).mono ?_; rintro e w2 ⟨p, c, rfl, hT, hb2⟩
    have HT := Lib.hid (hT.keep (lo' := 0) (hi' := w2.heap.size) TextE.stays (fun _ _ _ => rfl) (Nat.zero_le _) (Nat.le_refl _)); clear hT
    go_wp2
    go_ret; exact ⟨some p, c, by rw [E.out]; rfl, by rw [E.out]; exact HT.out, belowThen HB1 hb2⟩

/-- The variables are few, and short. -/
theorem askVars_small (xs : List Pt) : (askVarsB xs).length ≤ 12 ∧ ∀ s ∈ askVarsB xs, s.size ≤ 16 := by
  unfold askVarsB
  cases hA : askB xs
  · simp
  · have EA := askB_ok hA
    have h1 := partsT_len xs [] (body_three EA.1)
    have h2 := EA.2
    simp only [List.length_nil] at h1
    exact ⟨by simp only [if_true]; omega, by simp only [if_true]; exact body_small EA.1⟩

end Go.Proofs.Ytfghmphaldefbaa

namespace Go.Proofs.Ytfghmphaldefbaa
open Go.RowKit

/-- What the law holds: the model's answer, its own body, the program's answer; each in blocks apart. -/
structure VLaw (w : World) (a b d : Nat) (A3 : Option Addr) (m c3 : Nat) (ls : List ByteArray) (g4 n : Nat) (A5 : Option Addr) (k c5 : Nat) (os : List ByteArray) (W : World) : Prop where
  hb : Below w.heap.size w W
  h1 : w.heap.size ≤ a
  h2 : a ≤ b
  h3 : b ≤ d
  h4 : d ≤ W.heap.size
  T : IsTexts W 0 a A3 m c3 ls
  R : PartRow W a b g4 n
  O : OwnTx W b d A5 k c5 os

section
variable {w : World} {a b d : Nat} {A3 : Option Addr} {m c3 : Nat} {ls : List ByteArray} {g4 n : Nat} {A5 : Option Addr} {k c5 : Nat} {os os' : List ByteArray} {W W' : World}

theorem VLaw.below (h : VLaw w a b d A3 m c3 ls g4 n A5 k c5 os W) (hw : Below W.heap.size W W') : VLaw w a b d A3 m c3 ls g4 n A5 k c5 os W' :=
  have h1 := h.h1; have h2 := h.h2; have h3 := h.h3; have h4 := h.h4
  ⟨belowThen h.hb hw, h.h1, h.h2, h.h3, Nat.le_trans h.h4 hw.size, h.T.below TextE.stays hw (by omega), h.R.keep (fun x _ hx => hw.block x (by omega)), h.O.below hw (by omega)⟩

theorem VLaw.parts (h : VLaw w a b d A3 m c3 ls g4 n A5 k c5 os W) (hw : Within a b W W') (hR : PartRow W' a b g4 n) : VLaw w a b d A3 m c3 ls g4 n A5 k c5 os W' :=
  have h1 := h.h1; have h2 := h.h2; have h3 := h.h3; have h4 := h.h4
  ⟨h.hb.trans (hw.low (by omega) (by omega)), h.h1, h.h2, h.h3, Nat.le_trans h.h4 hw.size, h.T.keep TextE.stays (fun q _ hq => World.cell?_of_block (hw.block q.block (by omega) (.inl (by omega)))) (Nat.le_refl _) (Nat.le_refl _), hR, h.O.keep (fun x hx hx' => hw.block x (by omega) (.inr (by omega))) (Nat.le_refl _) (Nat.le_refl _)⟩

theorem VLaw.marked (h : VLaw w a b d A3 m c3 ls g4 n A5 k c5 os W) (hw : Within b d W W') (hO : OwnTx W' b d A5 k c5 os') : VLaw w a b d A3 m c3 ls g4 n A5 k c5 os' W' :=
  have h1 := h.h1; have h2 := h.h2; have h3 := h.h3; have h4 := h.h4
  ⟨h.hb.trans (hw.low (by omega) (by omega)), h.h1, h.h2, h.h3, Nat.le_trans h.h4 hw.size, h.T.keep TextE.stays (fun q _ hq => World.cell?_of_block (hw.block q.block (by omega) (.inl (by omega)))) (Nat.le_refl _) (Nat.le_refl _), h.R.keep (fun x hx hx' => hw.block x (by omega) (.inl (by omega))), hO⟩

theorem VLaw.model (h : VLaw w a b d A3 m c3 ls g4 n A5 k c5 os W) : IsTexts W 0 W.heap.size A3 m c3 ls :=
  have h1 := h.h1; have h2 := h.h2; have h3 := h.h3; have h4 := h.h4
  h.T.keep TextE.stays (fun _ _ _ => rfl) (Nat.le_refl _) (by omega)
theorem VLaw.answer (h : VLaw w a b d A3 m c3 ls g4 n A5 k c5 os W) : IsTexts W 0 W.heap.size A5 k c5 os :=
  have h1 := h.h1; have h2 := h.h2; have h3 := h.h3; have h4 := h.h4
  h.O.texts.keep TextE.stays (fun _ _ _ => rfl) (Nat.zero_le _) (by omega)
end

theorem lowParts {w : World} {lo hi n c : Nat} {A : Option Addr} {xs : List Pt} (h : IsParts w lo hi A n c xs) (hh : hi ≤ w.heap.size) : IsParts w 0 w.heap.size A n c xs := h.keep PartE.stays (fun _ _ _ => rfl) (Nat.zero_le _) hh

set_option maxRecDepth 100000 in
set_option maxHeartbeats 2000000 in
theorem exactAskVars_any (A : Option Addr) (n c : Nat) (l : List Pt) (w : World) (h : IsParts w 0 w.heap.size A n c l) :
    Calls Try.prog 6 #[.slice A n c] w (BoolPost true w) := by
  have H := Lib.hid h; clear h
  obtain ⟨ls, hls⟩ : ∃ ls, askVarsB l = ls := ⟨_, rfl⟩
  obtain ⟨hs1, hs2⟩ := askVars_small l
  rw [hls] at hs1 hs2
  have HS2 := Lib.hid hs2; have HLS := Lib.hid hls; clear hs2 hls
  obtain ⟨m, hm⟩ : ∃ m, ls.length = m := ⟨_, rfl⟩
  have HM := Lib.hid hm
  rw [hm] at hs1
  clear hm
  go_enter Try.func6, Try.ntmps6
  go_wp2_with fail
  refine (szPartS_any _ _ _ l _ _ H.out (by omega) (by omega)).mono ?_; rintro e w1 ⟨y, ⟨rfl, ha, hb, hc⟩, hb1⟩
  go_wp2_with fail
  all_goals try (go_ret; exact ⟨rfl, hb1⟩)
  have hn : SmallParts n l := hc (by assumption)
  have hnn := hn.1
  have HN := Lib.hid hn
  clear ha hb hc hn
  refine (toPartS_any _ _ _ l _ (H.out.up PartE.stays hb1) HN.out).mono ?_; rintro e w2 ⟨g2, rfl, hg2, o2, hb2⟩
  have HB2 := belowThen hb1 hb2
  go_wp2_with fail
  refine (specAskVars_any _ _ _ l _ (lowParts o2 (Nat.le_refl _))).mono ?_; rintro e w3 ⟨A3, c3, rfl, T3, hb3⟩
  rw [HLS.out, HM.out] at T3 ⊢
  have HB3 := belowThen HB2 hb3
  have HT3 := Lib.hid T3
  clear hb1 hb2 hb3 o2 HB2 T3
  go_wp2_with fail
  refine (toPartS_own _ _ _ l _ (H.out.up PartE.stays HB3) HN.out).mono ?_; rintro e w4 ⟨g4, rfl, hg4, o4, r4, hb4⟩
  have HO4 := Lib.hid o4; have HR4 := Lib.hid r4
  clear o4 r4
  go_wp2_with fail
  refine (implAskVars_any _ _ _ l _ (lowParts HO4.out (Nat.le_refl _))).mono ?_; rintro e w5 ⟨v, rfl, hrow, hb5⟩
  rw [HLS.out, HM.out] at hrow
  obtain ⟨A5, c5, rfl, O5⟩ := OwnTx.of_row hrow HM.out.symm (fun s hs => Nat.le_trans (HS2.out s hs) (by decide)) (Nat.le_refl _)
  have V5 := Lib.hid (show VLaw w w3.heap.size w4.heap.size w5.heap.size A3 m c3 ls g4 n A5 m c5 ls w5 from ⟨belowThen (belowThen HB3 hb4) hb5, HB3.size, hb4.size, hb5.size, Nat.le_refl _, (HT3.out.below TextE.stays hb4 (Nat.le_refl _)).below TextE.stays hb5 hb4.size, HR4.out.keep (fun x _ hx => hb5.block x hx), O5⟩)
  have HP5 := Lib.hid (HO4.out.below PartE.stays hb5 (Nat.le_refl _))
  have hz5 := hb5.size
  clear hrow O5 HT3 HR4 HO4 HB3 hb4 hb5
  go_wp2_with fail
  refine (eqStringS_same _ _ _ _ _ _ ls _ V5.out.answer V5.out.model).mono ?_; rintro e w6 ⟨rfl, hb6⟩
  have V6 := Lib.hid (V5.out.below hb6)
  have HP6 := Lib.hid (HP5.out.below PartE.stays hb6 hz5)
  have hz6 := hb6.size
  clear hb6 V5 HP5
  go_wp2_with fail
  refine (toPartS_any _ _ _ l _ (H.out.up PartE.stays V6.out.hb) HN.out).mono ?_; rintro e w7 ⟨g7, rfl, hg7, o7, hb7⟩
  have V7 := Lib.hid (V6.out.below hb7)
  have HP7 := Lib.hid (HP6.out.below PartE.stays hb7 (Nat.le_trans hz5 hz6))
  have hz7 := hb7.size
  clear hb7 V6 HP6
  go_wp2_with fail
  refine (eqPartS_any _ _ _ _ _ _ l l _ (lowParts HP7.out (by omega)) (lowParts o7 (Nat.le_refl _))).mono ?_; rintro e w8 ⟨rfl, hb8⟩
  have V8 := Lib.hid (V7.out.below hb8)
  rw [listEq_refl partEq_refl]
  clear hb8 o7 V7 HP7
  go_wp2_with fail
  refine (markPartS_own _ _ g4 n n 1 _ V8.out.R (Nat.le_trans V8.out.h3 V8.out.h4) (by omega)).mono ?_; rintro e w9 ⟨⟨k9, rfl, hk9, _⟩, hR9, hw9⟩
  have V9 := Lib.hid (V8.out.parts hw9 hR9)
  clear hR9 hw9 V8
  have hkn : ¬ (k9 : Int) < 0 := by omega
  go_wp2_with fail
  refine (eqStringS_same _ _ _ _ _ _ ls _ V9.out.answer V9.out.model).mono ?_; rintro e w10 ⟨rfl, hb10⟩
  have V10 := Lib.hid (V9.out.below hb10)
  clear hb10 V9
  go_wp2_with fail
  refine (markStringS_any _ _ _ _ _ 1 ls _ V10.out.O V10.out.h4 (by omega)).mono ?_; rintro e w11 ⟨rfl, hO11, hw11⟩
  have V11 := Lib.hid (V10.out.marked hw11 hO11)
  clear hO11 hw11 V10
  go_wp2_with fail
  refine (heldStringS_any _ _ _ 1 _ V11.out.answer (by omega)).mono ?_; rintro e w12 ⟨rfl, hb12⟩
  have V12 := Lib.hid (V11.out.below hb12)
  clear hb12 V11
  go_wp2_with fail
  refine (toPartS_any _ _ _ l _ (H.out.up PartE.stays V12.out.hb) HN.out).mono ?_; rintro e w13 ⟨g13, rfl, hg13, o13, hb13⟩
  have V13 := Lib.hid (V12.out.below hb13)
  clear hb13 V12
  go_wp2_with fail
  refine (implAskVars_any _ _ _ l _ (lowParts o13 (Nat.le_refl _))).mono ?_; rintro e w14 ⟨v, rfl, hrow, hb14⟩
  rw [HLS.out, HM.out] at hrow
  obtain ⟨A14, c14, rfl, O14⟩ := OwnTx.of_row hrow HM.out.symm (fun s hs => Nat.le_trans (HS2.out s hs) (by decide)) (Nat.zero_le _)
  have V14 := Lib.hid (V13.out.below hb14)
  have HX14 := Lib.hid O14.texts
  clear hrow O14 hb14 V13 o13
  go_wp2_with fail
  refine (eqStringS_same _ _ _ _ _ _ ls _ HX14.out V14.out.model).mono ?_; rintro e w15 ⟨rfl, hb15⟩
  have V15 := Lib.hid (V14.out.below hb15)
  clear hb15 V14
  go_wp2_with fail
  refine (heldStringS_any _ _ _ 1 _ V15.out.answer (by omega)).mono ?_; rintro e w16 ⟨rfl, hb16⟩
  have V16 := Lib.hid (V15.out.below hb16)
  clear hb16 V15
  go_wp2
  go_ret; exact ⟨rfl, V16.out.hb⟩

end Go.Proofs.Ytfghmphaldefbaa

