/-
  The exact law of ProgStrata: at every list of rules the program answers as its model, its answer owns its memory, and nothing is written into the list.
-/
import Derived.Test.YtnhbnhibphjljaaGreatDoorTellKit
import Derived.Test.YtnhbnhibphjljaaGreatDoorCheckImpl
import Derived.Test.YtnhbnhibphjljaaGreatDoorRulesS
import Derived.Test.YtnhbnhibphjljaaGreatDoorRulesOwn
import Derived.Test.YtnhbnhibphjljaaGreatDoorOpen
import Derived.Test.YtnhbnhibphjljaaGreatDoorClosed
import Derived.Test.YtnhbnhibphjljaaGreatDoorCards
import Derived.Test.YtnhbnhibphjljaaGreatDoorTie
import Derived.SevenTiedAt
namespace Go.Proofs.YtnhbnhibphjljaaGreatDoor
open Go.RowKit

/-- What the law holds: the model's answer, its own rules, the program's answer; each in blocks apart. -/
structure SLaw (w : World) (a b d : Nat) (A3 : Option Addr) (m c3 : Nat) (ls : List Int) (g4 n : Nat) (A5 : Option Addr) (k c5 : Nat) (os : List Int) (W : World) : Prop where
  hb : Below w.heap.size w W
  h1 : w.heap.size ≤ a
  h2 : a ≤ b
  h3 : b ≤ d
  h4 : d ≤ W.heap.size
  T : OwnIs W 0 a A3 m c3 ls
  R : RuleRow W a b g4 n
  O : OwnIs W b d A5 k c5 os

section
variable {w : World} {a b d : Nat} {A3 : Option Addr} {m c3 : Nat} {ls : List Int} {g4 n : Nat} {A5 : Option Addr} {k c5 : Nat} {os os' : List Int} {W W' : World}

theorem SLaw.below (h : SLaw w a b d A3 m c3 ls g4 n A5 k c5 os W) (hw : Below W.heap.size W W') : SLaw w a b d A3 m c3 ls g4 n A5 k c5 os W' :=
  have h1 := h.h1; have h2 := h.h2; have h3 := h.h3; have h4 := h.h4
  ⟨belowThen h.hb hw, h.h1, h.h2, h.h3, Nat.le_trans h.h4 hw.size, h.T.below hw (by omega), h.R.keep (fun x _ hx => hw.block x (by omega)), h.O.below hw (by omega)⟩

theorem SLaw.rules (h : SLaw w a b d A3 m c3 ls g4 n A5 k c5 os W) (hw : Within a b W W') (hR : RuleRow W' a b g4 n) : SLaw w a b d A3 m c3 ls g4 n A5 k c5 os W' :=
  have h1 := h.h1; have h2 := h.h2; have h3 := h.h3; have h4 := h.h4
  ⟨h.hb.trans (hw.low (by omega) (by omega)), h.h1, h.h2, h.h3, Nat.le_trans h.h4 hw.size, h.T.keep (fun x _ hx => hw.block x (by omega) (.inl (by omega))) (Nat.le_refl _) (Nat.le_refl _), hR, h.O.keep (fun x hx hx' => hw.block x (by omega) (.inr (by omega))) (Nat.le_refl _) (Nat.le_refl _)⟩

theorem SLaw.marked (h : SLaw w a b d A3 m c3 ls g4 n A5 k c5 os W) (hw : Within b d W W') (hO : OwnIs W' b d A5 k c5 os') : SLaw w a b d A3 m c3 ls g4 n A5 k c5 os' W' :=
  have h1 := h.h1; have h2 := h.h2; have h3 := h.h3; have h4 := h.h4
  ⟨h.hb.trans (hw.low (by omega) (by omega)), h.h1, h.h2, h.h3, Nat.le_trans h.h4 hw.size, h.T.keep (fun x _ hx => hw.block x (by omega) (.inl (by omega))) (Nat.le_refl _) (Nat.le_refl _), h.R.keep (fun x hx hx' => hw.block x (by omega) (.inl (by omega))), hO⟩

theorem SLaw.model (h : SLaw w a b d A3 m c3 ls g4 n A5 k c5 os W) : OwnIs W 0 W.heap.size A3 m c3 ls :=
  have h1 := h.h1; have h2 := h.h2; have h3 := h.h3; have h4 := h.h4
  h.T.keep (fun _ _ _ => rfl) (Nat.le_refl _) (by omega)
theorem SLaw.answer (h : SLaw w a b d A3 m c3 ls g4 n A5 k c5 os W) : OwnIs W 0 W.heap.size A5 k c5 os :=
  have h1 := h.h1; have h2 := h.h2; have h3 := h.h3; have h4 := h.h4
  h.O.keep (fun _ _ _ => rfl) (Nat.zero_le _) (by omega)
end

theorem lowRules {w : World} {lo hi n c : Nat} {A : Option Addr} {xs : List Rl} (h : IsRules w lo hi A n c xs) (hh : hi ≤ w.heap.size) : IsRules w 0 w.heap.size A n c xs := h.keep RuleE.stays (fun _ _ _ => rfl) (Nat.zero_le _) hh

set_option maxRecDepth 100000 in
set_option maxHeartbeats 2000000 in
theorem exactProgStrata_any (A : Option Addr) (n c : Nat) (l : List Rl) (w : World) (h : IsRules w 0 w.heap.size A n c l) (hk : ErrKind w) :
    Calls Tryz.prog 6 #[.slice A n c] w (BoolPost true w) := by
  have H := Lib.hid h; clear h
  have HK := Lib.hid hk; clear hk
  obtain ⟨ls, hls⟩ : ∃ ls, progStrata l = ls := ⟨_, rfl⟩
  have hs1 := progStrata_eight l
  rw [hls] at hs1
  have HLS := Lib.hid hls; clear hls
  obtain ⟨m, hm⟩ : ∃ m, ls.length = m := ⟨_, rfl⟩
  have HM := Lib.hid hm
  rw [hm] at hs1
  clear hm
  go_enter Tryz.func6, Tryz.ntmps6
  go_wp2_with fail
  refine (szRuleS_any _ _ _ l _ _ H.out (by omega) (by omega)).mono ?_; rintro e w1 ⟨y, ⟨rfl, ha, hb, hc⟩, hb1⟩
  go_wp2_with fail
  all_goals try (go_ret; exact ⟨rfl, hb1⟩)
  have hn : SmallRules n l := hc (by assumption)
  have hnn := hn.1
  have HN := Lib.hid hn
  clear ha hb hc hn
  refine (toRuleS_any _ _ _ l _ (H.out.up RuleE.stays hb1) HN.out).mono ?_; rintro e w2 ⟨g2, rfl, hg2, o2, hb2⟩
  have HB2 := belowThen hb1 hb2
  go_wp2_with fail
  refine (specProgStrata_any _ _ _ l _ (lowRules o2 (Nat.le_refl _))).mono ?_; rintro e w3 ⟨p3, c3, rfl, T3', hb3⟩
  have T3 := T3'.keep (lo' := 0) (hi' := w3.heap.size) (fun _ _ _ => rfl) (Nat.zero_le _) (Nat.le_refl _)
  clear T3'
  rw [HLS.out, HM.out] at T3 ⊢
  have HB3 := belowThen HB2 hb3
  have HT3 := Lib.hid T3
  clear hb1 hb2 hb3 o2 HB2 T3
  go_wp2_with fail
  refine (toRuleS_row _ _ _ l _ (H.out.up RuleE.stays HB3) HN.out).mono ?_; rintro e w4 ⟨g4, rfl, hg4, o4, r4, hb4⟩
  have HO4 := Lib.hid o4; have HR4 := Lib.hid r4
  clear o4 r4
  go_wp2_with fail
  refine (implProgStrata_any _ _ _ l _ (lowRules HO4.out (Nat.le_refl _)) (HK.out.later (belowThen HB3 hb4))).mono ?_; rintro e w5 ⟨v, rfl, hrow, hb5⟩
  rw [HLS.out, HM.out] at hrow
  obtain ⟨A5, c5, rfl, O5⟩ := OwnIs.of_row hrow HM.out.symm (Nat.le_refl _)
  have V5 := Lib.hid (show SLaw w w3.heap.size w4.heap.size w5.heap.size p3 m c3 ls g4 n A5 m c5 ls w5 from ⟨belowThen (belowThen HB3 hb4) hb5, HB3.size, hb4.size, hb5.size, Nat.le_refl _, (HT3.out.below hb4 (Nat.le_refl _)).below hb5 hb4.size, HR4.out.keep (fun x _ hx => hb5.block x hx), O5⟩)
  have HP5 := Lib.hid (HO4.out.below RuleE.stays hb5 (Nat.le_refl _))
  have hz5 := hb5.size
  clear hrow O5 HT3 HR4 HO4 HB3 hb4 hb5
  go_wp2_with fail
  refine (eqIntS_same _ _ _ _ _ _ ls _ V5.out.answer V5.out.model).mono ?_; rintro e w6 ⟨rfl, hb6⟩
  have V6 := Lib.hid (V5.out.below hb6)
  have HP6 := Lib.hid (HP5.out.below RuleE.stays hb6 hz5)
  have hz6 := hb6.size
  clear hb6 V5 HP5
  go_wp2_with fail
  refine (toRuleS_any _ _ _ l _ (H.out.up RuleE.stays V6.out.hb) HN.out).mono ?_; rintro e w7 ⟨g7, rfl, hg7, o7, hb7⟩
  have V7 := Lib.hid (V6.out.below hb7)
  have HP7 := Lib.hid (HP6.out.below RuleE.stays hb7 (Nat.le_trans hz5 hz6))
  have hz7 := hb7.size
  clear hb7 V6 HP6
  go_wp2_with fail
  refine (eqRuleS_any _ _ _ _ _ _ l l _ (lowRules HP7.out (by omega)) (lowRules o7 (Nat.le_refl _))).mono ?_; rintro e w8 ⟨rfl, hb8⟩
  have V8 := Lib.hid (V7.out.below hb8)
  rw [listEq_refl ruleEq_refl]
  clear hb8 o7 V7 HP7
  go_wp2_with fail
  refine (markRuleS_marks _ _ g4 n n 1 _ V8.out.R (by omega)).mono ?_; rintro e w9 ⟨⟨k9, rfl⟩, hm9⟩
  have V9 := Lib.hid (V8.out.rules hm9.within (V8.out.R.marks hm9))
  clear hm9 V8
  have hkn : ¬ (k9 : Int) < 0 := by omega
  go_wp2_with fail
  refine (eqIntS_same _ _ _ _ _ _ ls _ V9.out.answer V9.out.model).mono ?_; rintro e w10 ⟨rfl, hb10⟩
  have V10 := Lib.hid (V9.out.below hb10)
  clear hb10 V9
  go_wp2_with fail
  refine (markIntS_any _ _ _ _ _ 1 ls _ V10.out.O (by omega)).mono ?_; rintro e w11 ⟨rfl, hO11, hw11⟩
  have V11 := Lib.hid (V10.out.marked hw11 hO11)
  clear hO11 hw11 V10
  go_wp2_with fail
  refine (heldIntS_any _ _ _ 1 _ V11.out.answer (by omega)).mono ?_; rintro e w12 ⟨rfl, hb12⟩
  have V12 := Lib.hid (V11.out.below hb12)
  clear hb12 V11
  go_wp2_with fail
  refine (toRuleS_any _ _ _ l _ (H.out.up RuleE.stays V12.out.hb) HN.out).mono ?_; rintro e w13 ⟨g13, rfl, hg13, o13, hb13⟩
  have V13 := Lib.hid (V12.out.below hb13)
  clear hb13 V12
  go_wp2_with fail
  refine (implProgStrata_any _ _ _ l _ (lowRules o13 (Nat.le_refl _)) (HK.out.later V13.out.hb)).mono ?_; rintro e w14 ⟨v, rfl, hrow, hb14⟩
  rw [HLS.out, HM.out] at hrow
  obtain ⟨A14, c14, rfl, O14⟩ := OwnIs.of_row hrow HM.out.symm (Nat.zero_le _)
  have V14 := Lib.hid (V13.out.below hb14)
  have HX14 := Lib.hid O14
  clear hrow O14 hb14 V13 o13
  go_wp2_with fail
  refine (eqIntS_same _ _ _ _ _ _ ls _ HX14.out V14.out.model).mono ?_; rintro e w15 ⟨rfl, hb15⟩
  have V15 := Lib.hid (V14.out.below hb15)
  clear hb15 V14
  go_wp2_with fail
  refine (heldIntS_any _ _ _ 1 _ V15.out.answer (by omega)).mono ?_; rintro e w16 ⟨rfl, hb16⟩
  have V16 := Lib.hid (V15.out.below hb16)
  clear hb16 V15
  go_wp2
  go_ret; exact ⟨rfl, V16.out.hb⟩

end Go.Proofs.YtnhbnhibphjljaaGreatDoor

namespace Go.Proofs.YtnhbnhibphjljaaGreatDoor
open Go.RowKit Go.ChangeShapes Go.WideShapes Go.ChangeAt

set_option maxRecDepth 100000 in
set_option maxHeartbeats 1000000 in
theorem exactProgStrata_lifted (os : Os) (started : os.Started) (H : Type) (enc : TypeId × Value → H) :
    ReturnsInHanded {} Tryz.checked os 6 .any (fun w args => (Rows.fnExactProgStrataSpec.pre enc Tryz.prog Tryz.f6 [] false w args ∧ laidMetH Tryz.prog laidE w) ∧ sizedMet enc Tryz.prog Tryz.f6 (OpenSpec.ofChange Rows.fnExactProgStrataSpec) false w args)
      (Rows.fnExactProgStrataSpec.post enc Tryz.prog Tryz.f6 false true false false) := by
  refine returnsInHanded_of_change_and (C := Tryz.checked) (X := fun w _ => laidMetH Tryz.prog laidE w) (fun _ _ _ hh h => h.of_heap hh) Tryz.own started (by kernel_rfl) Tryz.func6
    (ChangeSpec.witness_shaped (enc := enc) (C := Tryz.checked) (os := os) (X := fun w _ => laidMetH Tryz.prog laidE w) false (World.doorLaid Tryz.prog 400 os) #[.slice none 0 0] 8 rfl (World.shaped_of_RefB (by kernel_rfl) (by kernel_rfl)) (by kernel_rfl) (by kernel_rfl) (by kernel_rfl) (err_met os _)) ?_
  intro W base args ds gs before hval0 hW _ _ hL _
  have hval : ∀ (j : Nat) t v, Tryz.f6.params[j]? = some t → args[j]? = some v → Value.okWide Tryz.prog W .any base t v := hval0
  have hW' := hW
  have hlt : ∀ x ∈ before, x.block < W.heap.size := fun x hx => hW.lt x hx
  obtain ⟨p, q, hA0, hV, hpq, hfz, hnd⟩ := hW
  have hA : DataW.TrodAll enc Tryz.prog W 0 (fun _ => true) true Tryz.f6.params.toList args.toList ds p := hA0
  rw [Tryz.params6] at hA hval
  obtain ⟨v0, d0, hargs, rfl, h0⟩ := trodAll_one hA
  obtain ⟨rfl, rfl⟩ := trodVars_none hV
  simp only [List.append_nil] at hpq
  subst hpq
  have hh0 := Lib.hid h0
  have hk := errKind_of_laid hL
  obtain ⟨A0, n0, c0, l0, rfl, wt0⟩ := open_rules (hval 0 22 v0 rfl (by rw [hargs]; rfl)) h0
  subst hargs
  clear hA0 hval0
  refine (exactProgStrata_any A0 n0 c0 l0 W wt0 hk).mono fun e W' ⟨he, hb⟩ => ?_
  subst he
  exact ⟨_, rfl, post_true (pv := []) hW' (trodAll_mk1 (shut_bool Tryz.underlying4 true)) (trodAll_mk1 (Below.trod Tryz.laidOut (by kernel_rfl) (of_decide_eq_true (by kernel_rfl)) hh0.out hb hlt)) rfl hb⟩

theorem exactProgStrata_in : (Rows.fnExactProgStrataRow.inPlace == Tryz.prog.inPlace 6) = true := by kernel_rfl
theorem exactProgStrata_un : (Rows.fnExactProgStrataRow.unfollowed == Tryz.prog.unfollowed 6) = true := by kernel_rfl
theorem exactProgStrata_rec : (Rows.fnExactProgStrataRow.recurses == Tryz.prog.recurses 6) = true := by kernel_rfl
theorem exactProgStrata_nam : (Rows.fnExactProgStrataRow.named == Tryz.prog.varsNamed 6) = true := by kernel_rfl
theorem exactProgStrata_goes : false = Rows.fnExactProgStrataRow.goesBy Tryz.prog := by kernel_rfl
theorem exactProgStrata_named : Tryz.pinned.checked.prog.funcNamed Rows.fnExactProgStrataRow.func = some 6 := by kernel_rfl
theorem exactProgStrata_joined : joinedFacts Tryz.prog 6 Tryz.f6 Rows.fnExactProgStrataSpec Rows.fnExactProgStrataRow = true :=
  joined_of (by kernel_rfl) Tryz.laidOut Tryz.c_rowed (by kernel_rfl) exactProgStrata_in exactProgStrata_un exactProgStrata_rec exactProgStrata_nam (by kernel_rfl) Tryz.c_keys rfl Tryz.c_heard Tryz.c_enter Tryz.c_lifted (by kernel_rfl)

theorem exactProgStrata_row : Rows.FnExactProgStrataSaid :=
  OpenClaim.holds_of_wide 6 Tryz.f6 rfl rfl rfl rfl rfl rfl rfl ⟨rfl, rfl, rfl, rfl, rfl⟩ rfl rfl rfl rfl rfl exactProgStrata_named Tryz.func6 exactProgStrata_joined
    (of_decide_eq_true (by kernel_rfl)) (by unfold Func.isWrapper; rw [if_neg (of_decide_eq_false (by kernel_rfl))]; exact ⟨rfl, rfl⟩)
    (fun os started H enc _ => exactProgStrata_lifted os started H enc)

theorem exactProgStrata_holds : Rows.FnExactProgStrataCardSaid :=
  Claim7.holds_tied_plain_at .later [] [.handle] true _ true
    exactProgStrata_row (fun _ h => by cases h) (by kernel_rfl) (fun _ h => by cases h) fnExactProgStrata_row_tie rfl ⟨rfl, rfl⟩ Tryz.c_main rfl
    (fun f fn hf hfn => by
      obtain rfl : f = 6 := Option.some.inj (exactProgStrata_named.symm.trans hf) |>.symm
      obtain rfl : fn = Tryz.f6 := (Option.some.inj (Tryz.func6.symm.trans hfn)).symm
      exact ⟨Tryz.c_looks, fun j t ht => by
        rw [Tryz.params6] at ht
        have h3 : t = 22 := by
          rcases j with _ | j
          · simpa using ht.symm
          · simp at ht
        subst h3
        exact (show Tryz.prog.wantsStandIn 22 = false by kernel_rfl)⟩)
    exactProgStrata_goes

end Go.Proofs.YtnhbnhibphjljaaGreatDoor

