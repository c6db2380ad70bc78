/-
  What a name needs, in the model; the exact law of ProgNeeds: at every list of rules and every name the program answers as its model, its answer owns its memory, and nothing is written into the list.
-/
import Derived.Test.YtnhbnhibphjljaaGreatDoorNeedsAll
import Derived.Test.YtnhbnhibphjljaaGreatDoorRulesS
import Derived.Test.YtnhbnhibphjljaaGreatDoorRulesOwn
import Derived.Test.YtnhbnhibphjljaaGreatDoorTextsLaw
import Derived.Test.YtnhbnhibphjljaaGreatDoorOpen
import Derived.Test.YtnhbnhibphjljaaGreatDoorClosed
import Derived.Test.YtnhbnhibphjljaaGreatDoorCards
import Derived.Test.YtnhbnhibphjljaaGreatDoorTie
import Derived.SevenTiedAt
namespace Go.Proofs.YtnhbnhibphjljaaGreatDoor
open Go.RowKit

theorem progNeeds_small (rs : List Rl) (nm : ByteArray) : (progNeeds rs nm).length ≤ 40 ∧ ∀ s ∈ progNeeds rs nm, s.size ≤ maxLen := by
  unfold progNeeds
  by_cases h : progB rs = 0 ∧ nm ∈ namesL (atsOf rs)
  · obtain ⟨h1, h2⟩ := prog_fine h.1
    rw [if_pos h]
    refine ⟨?_, fun s hs => ?_⟩
    · have a := namesL_len (atsOf rs)
      have b := atsOf_len rs (rule_four h1)
      have c : (needsOf rs nm).length ≤ (namesL (atsOf rs)).length := List.length_filter_le _ _
      omega
    · obtain ⟨a, ha, rfl⟩ := mem_namesL.1 (mem_needsOf.1 hs).1
      exact (atsOf_ok h1 a ha).2
  · rw [if_neg h]
    exact ⟨by simp, fun s hs => by simp at hs⟩

/-- A list of texts was told. -/
def TextsTold (ls : List ByteArray) (w : World) (e : Ending) (w' : World) : Prop := ∃ (A : Option Addr) (c : Nat), e = .returned (.slice A ls.length c) ∧ IsTexts w' 0 w'.heap.size A ls.length c ls ∧ Below w.heap.size w w'

set_option maxRecDepth 100000 in
set_option maxHeartbeats 4000000 in
theorem specProgNeeds_any (A : Option Addr) (n c : Nat) (rs : List Rl) (nm : ByteArray) (w : World) (h : IsRules w 0 w.heap.size A n c rs) :
    Calls Tryz.prog 32 #[.slice A n c, .string nm] w (TextsTold (progNeeds rs nm) w) := by
  have HL := Lib.hid h.1
  have H := Lib.hid h; clear h
  go_enter Tryz.func32, Tryz.ntmps32
  go_wp2_with fail
  refine (specProgCheck_any A n c rs _ H.out).mono ?_; rintro e w1 ⟨rfl, hb1⟩
  obtain ⟨k, hk⟩ : ∃ k, progB rs = k := ⟨_, rfl⟩
  rw [hk]
  have HK := Lib.hid hk; clear hk
  by_cases h0 : k = 0
  · have hI : (k : Int) = 0 := by omega
    have hfine := HK.out.trans h0
    have HF := Lib.hid hfine
    have HZ := Lib.hid (prog_fine hfine)
    clear h0 hfine
    have hn8 : n ≤ 8 := by rw [← HL.out]; exact HZ.out.2
    have hll : (namesL (atsOf rs)).length ≤ 64 := by
      have a := namesL_len (atsOf rs)
      have b := atsOf_len rs (rule_four HZ.out.1)
      have := HL.out
      omega
    go_wp2_with fail
    refine (l2Names_any A n c rs _ (H.out.up RuleE.stays hb1) hn8 (rule_four HZ.out.1)).mono ?_; rintro e w2 ⟨p2, d2, rfl, hT2, hb2⟩
    have HB2 := belowThen hb1 hb2
    have HT2 := Lib.hid (hT2.keep (lo' := 0) (hi' := w2.heap.size) TextE.stays (fun _ _ _ => rfl) (Nat.zero_le _) (Nat.le_refl _))
    clear hT2 hb1 hb2
    go_wp2_with fail
    refine (l2Has_any (some p2) (namesL (atsOf rs)).length d2 (namesL (atsOf rs)) nm _ HT2.out).mono ?_; rintro e w3 ⟨rfl, hb3⟩
    have HB3 := belowThen HB2 hb3
    clear hb3
    by_cases hmem : nm ∈ namesL (atsOf rs)
    · rw [there_yes hmem]
      have HPR := Lib.hid (show progNeeds rs nm = needsOf rs nm from if_pos ⟨HF.out, hmem⟩)
      have HM := Lib.hid hmem; clear hmem
      have hba := below1 w3 (.cells #[] 9)
      have HB4 := Lib.hid (belowThen HB3 hba)
      clear hba
      go_wp2_with fail
      refine (l2Needs_any A n c rs (namesL (atsOf rs)) hll hn8 (rule_four HZ.out.1) (fun r hr => (names_in hr).2) (leftOf (namesL (atsOf rs)) []) nm ⟨w3.heap.size, 0, none⟩ 0 [] _ (Nat.le_refl _) HM.out List.Pairwise.nil (fun x hx => absurd hx List.not_mem_nil) (H.out.up RuleE.stays HB4.out) ⟨rfl, Nat.le_refl _, Nat.zero_le _, fun h0 => absurd h0 (Nat.lt_irrefl _)⟩).mono ?_; rintro e w5 ⟨p5, d5, out5, rfl, hT5, hN5, hR5, hU5, hb5⟩
      have heq : out5 = needsOf rs nm := InRow.ext hR5 (needsOf_row rs nm) (fun x => by
        rw [hN5.all, mem_needsOf]
        exact ⟨fun hr => ⟨reach_names HM.out hr, hr⟩, fun hr => hr.2⟩)
      have HEQ := Lib.hid (heq.trans HPR.out.symm)
      have HT5 := Lib.hid hT5
      have hb6 := belowThen HB4.out hb5
      clear hT5 hN5 hR5 hU5 heq hb5
      go_wp2
      go_ret; exact ⟨some p5, d5, by rw [← HEQ.out]; rfl, by rw [← HEQ.out]; exact HT5.out, hb6⟩
    · rw [there_no hmem]
      have HPR := Lib.hid (show progNeeds rs nm = [] from if_neg (fun x => hmem x.2))
      clear hmem
      go_wp2
      go_ret; exact ⟨some ⟨w3.heap.size, 0, none⟩, 0, by rw [HPR.out]; rfl, by rw [HPR.out]; exact ⟨rfl, Nat.le_refl _, Nat.zero_le _, fun h0 => absurd h0 (Nat.lt_irrefl _)⟩, belowThen HB3 (below1 _ _)⟩
  · have E := Lib.hid (show progNeeds rs nm = [] from if_neg (fun x => h0 (HK.out.symm.trans x.1)))
    have hI : ¬ (k : Int) = 0 := by omega
    clear h0
    go_wp2
    go_ret; exact ⟨some ⟨w1.heap.size, 0, none⟩, 0, by rw [E.out]; rfl, by rw [E.out]; exact ⟨rfl, Nat.le_refl _, Nat.zero_le _, fun h0 => absurd h0 (Nat.lt_irrefl _)⟩, belowThen hb1 (below1 _ _)⟩

/-- What the law holds: the model's answer, its own rules, the program's answer; each in blocks apart. -/
structure MLaw (w : World) (a b d : Nat) (A3 : Option Addr) (m c3 : Nat) (ls : List ByteArray) (g4 n : Nat) (A5 : Option Addr) (k c5 : Nat) (os : List ByteArray) (W : World) : Prop where
  hb : Below w.heap.size w W
  h1 : w.heap.size ≤ a
  h2 : a ≤ b
  h3 : b ≤ d
  h4 : d ≤ W.heap.size
  T : IsTexts W 0 a A3 m c3 ls
  R : RuleRow W a b g4 n
  O : OwnTx W b d A5 k c5 os

section
variable {w : World} {a b d : Nat} {A3 : Option Addr} {m c3 : Nat} {ls : List ByteArray} {g4 n : Nat} {A5 : Option Addr} {k c5 : Nat} {os os' : List ByteArray} {W W' : World}

theorem MLaw.below (h : MLaw w a b d A3 m c3 ls g4 n A5 k c5 os W) (hw : Below W.heap.size W W') : MLaw w a b d A3 m c3 ls g4 n A5 k c5 os W' :=
  have h1 := h.h1; have h2 := h.h2; have h3 := h.h3; have h4 := h.h4
  ⟨belowThen h.hb hw, h.h1, h.h2, h.h3, Nat.le_trans h.h4 hw.size, h.T.below TextE.stays hw (by omega), h.R.keep (fun x _ hx => hw.block x (by omega)), h.O.below hw (by omega)⟩

theorem MLaw.rules (h : MLaw w a b d A3 m c3 ls g4 n A5 k c5 os W) (hw : Within a b W W') (hR : RuleRow W' a b g4 n) : MLaw w a b d A3 m c3 ls g4 n A5 k c5 os W' :=
  have h1 := h.h1; have h2 := h.h2; have h3 := h.h3; have h4 := h.h4
  ⟨h.hb.trans (hw.low (by omega) (by omega)), h.h1, h.h2, h.h3, Nat.le_trans h.h4 hw.size, h.T.keep TextE.stays (fun q _ hq => World.cell?_of_block (hw.block q.block (by omega) (.inl (by omega)))) (Nat.le_refl _) (Nat.le_refl _), hR, h.O.keep (fun x hx hx' => hw.block x (by omega) (.inr (by omega))) (Nat.le_refl _) (Nat.le_refl _)⟩

theorem MLaw.marked (h : MLaw w a b d A3 m c3 ls g4 n A5 k c5 os W) (hw : Within b d W W') (hO : OwnTx W' b d A5 k c5 os') : MLaw w a b d A3 m c3 ls g4 n A5 k c5 os' W' :=
  have h1 := h.h1; have h2 := h.h2; have h3 := h.h3; have h4 := h.h4
  ⟨h.hb.trans (hw.low (by omega) (by omega)), h.h1, h.h2, h.h3, Nat.le_trans h.h4 hw.size, h.T.keep TextE.stays (fun q _ hq => World.cell?_of_block (hw.block q.block (by omega) (.inl (by omega)))) (Nat.le_refl _) (Nat.le_refl _), h.R.keep (fun x hx hx' => hw.block x (by omega) (.inl (by omega))), hO⟩

theorem MLaw.model (h : MLaw w a b d A3 m c3 ls g4 n A5 k c5 os W) : IsTexts W 0 W.heap.size A3 m c3 ls :=
  have h1 := h.h1; have h2 := h.h2; have h3 := h.h3; have h4 := h.h4
  h.T.keep TextE.stays (fun _ _ _ => rfl) (Nat.le_refl _) (by omega)
theorem MLaw.answer (h : MLaw w a b d A3 m c3 ls g4 n A5 k c5 os W) : IsTexts W 0 W.heap.size A5 k c5 os :=
  have h1 := h.h1; have h2 := h.h2; have h3 := h.h3; have h4 := h.h4
  h.O.texts.keep TextE.stays (fun _ _ _ => rfl) (Nat.zero_le _) (by omega)
end

theorem lowRulesN {w : World} {lo hi n c : Nat} {A : Option Addr} {xs : List Rl} (h : IsRules w lo hi A n c xs) (hh : hi ≤ w.heap.size) : IsRules w 0 w.heap.size A n c xs := h.keep RuleE.stays (fun _ _ _ => rfl) (Nat.zero_le _) hh

set_option maxRecDepth 100000 in
set_option maxHeartbeats 2000000 in
theorem exactProgNeeds_any (A : Option Addr) (n c : Nat) (l : List Rl) (nm : ByteArray) (w : World) (h : IsRules w 0 w.heap.size A n c l) (hs : nm.size ≤ maxLen) (hk : ErrKind w) :
    Calls Tryz.prog 7 #[.slice A n c, .string nm] w (BoolPost true w) := by
  have H := Lib.hid h; clear h
  have HK := Lib.hid hk; clear hk
  obtain ⟨ls, hls⟩ : ∃ ls, progNeeds l nm = ls := ⟨_, rfl⟩
  obtain ⟨hs1, hs2⟩ := progNeeds_small l nm
  rw [hls] at hs1 hs2
  have HS2 := Lib.hid hs2; have HLS := Lib.hid hls; clear hs2 hls
  obtain ⟨m, hm⟩ : ∃ m, ls.length = m := ⟨_, rfl⟩
  have HM := Lib.hid hm
  rw [hm] at hs1
  clear hm
  go_enter Tryz.func7, Tryz.ntmps7
  go_wp2_with fail
  all_goals try (go_ret; exact ⟨rfl, Below.refl _ _⟩)
  refine (szRuleS_any _ _ _ l _ _ H.out (by omega) (by omega)).mono ?_; rintro e w1 ⟨y, ⟨rfl, ha, hb, hc⟩, hb1⟩
  go_wp2_with fail
  all_goals try (go_ret; exact ⟨rfl, hb1⟩)
  have hn : SmallRules n l := hc (by assumption)
  have hnn := hn.1
  have HN := Lib.hid hn
  clear ha hb hc hn
  refine (toRuleS_any _ _ _ l _ (H.out.up RuleE.stays hb1) HN.out).mono ?_; rintro e w2 ⟨g2, rfl, hg2, o2, hb2⟩
  have HB2 := belowThen hb1 hb2
  go_wp2_with fail
  refine (specProgNeeds_any _ _ _ l nm _ (lowRulesN o2 (Nat.le_refl _))).mono ?_; rintro e w3 ⟨p3, c3, rfl, T3, hb3⟩
  rw [HLS.out, HM.out] at T3 ⊢
  have HB3 := belowThen HB2 hb3
  have HT3 := Lib.hid T3
  clear hb1 hb2 hb3 o2 HB2 T3
  go_wp2_with fail
  refine (toRuleS_row _ _ _ l _ (H.out.up RuleE.stays HB3) HN.out).mono ?_; rintro e w4 ⟨g4, rfl, hg4, o4, r4, hb4⟩
  have HO4 := Lib.hid o4; have HR4 := Lib.hid r4
  clear o4 r4
  go_wp2_with fail
  refine (implProgNeeds_any _ _ _ l nm _ (lowRulesN HO4.out (Nat.le_refl _)) hs (HK.out.later (belowThen HB3 hb4))).mono ?_; rintro e w5 ⟨v, rfl, hrow, hb5⟩
  rw [HLS.out, HM.out] at hrow
  obtain ⟨A5, c5, rfl, O5⟩ := OwnTx.of_row hrow HM.out.symm HS2.out (Nat.le_refl _)
  have V5 := Lib.hid (show MLaw w w3.heap.size w4.heap.size w5.heap.size p3 m c3 ls g4 n A5 m c5 ls w5 from ⟨belowThen (belowThen HB3 hb4) hb5, HB3.size, hb4.size, hb5.size, Nat.le_refl _, (HT3.out.below TextE.stays hb4 (Nat.le_refl _)).below TextE.stays hb5 hb4.size, HR4.out.keep (fun x _ hx => hb5.block x hx), O5⟩)
  have HP5 := Lib.hid (HO4.out.below RuleE.stays hb5 (Nat.le_refl _))
  have hz5 := hb5.size
  clear hrow O5 HT3 HR4 HO4 HB3 hb4 hb5
  go_wp2_with fail
  refine (eqStringS_same _ _ _ _ _ _ ls _ V5.out.answer V5.out.model).mono ?_; rintro e w6 ⟨rfl, hb6⟩
  have V6 := Lib.hid (V5.out.below hb6)
  have HP6 := Lib.hid (HP5.out.below RuleE.stays hb6 hz5)
  have hz6 := hb6.size
  clear hb6 V5 HP5
  go_wp2_with fail
  refine (toRuleS_any _ _ _ l _ (H.out.up RuleE.stays V6.out.hb) HN.out).mono ?_; rintro e w7 ⟨g7, rfl, hg7, o7, hb7⟩
  have V7 := Lib.hid (V6.out.below hb7)
  have HP7 := Lib.hid (HP6.out.below RuleE.stays hb7 (Nat.le_trans hz5 hz6))
  have hz7 := hb7.size
  clear hb7 V6 HP6
  go_wp2_with fail
  refine (eqRuleS_any _ _ _ _ _ _ l l _ (lowRulesN HP7.out (by omega)) (lowRulesN o7 (Nat.le_refl _))).mono ?_; rintro e w8 ⟨rfl, hb8⟩
  have V8 := Lib.hid (V7.out.below hb8)
  rw [listEq_refl ruleEq_refl]
  clear hb8 o7 V7 HP7
  go_wp2_with fail
  refine (markRuleS_marks _ _ g4 n n 1 _ V8.out.R (by omega)).mono ?_; rintro e w9 ⟨⟨k9, rfl⟩, hm9⟩
  have V9 := Lib.hid (V8.out.rules hm9.within (V8.out.R.marks hm9))
  clear hm9 V8
  have hkn : ¬ (k9 : Int) < 0 := by omega
  go_wp2_with fail
  refine (eqStringS_same _ _ _ _ _ _ ls _ V9.out.answer V9.out.model).mono ?_; rintro e w10 ⟨rfl, hb10⟩
  have V10 := Lib.hid (V9.out.below hb10)
  clear hb10 V9
  go_wp2_with fail
  refine (markStringS_any _ _ _ _ _ 1 ls _ V10.out.O V10.out.h4 (by omega)).mono ?_; rintro e w11 ⟨rfl, hO11, hw11⟩
  have V11 := Lib.hid (V10.out.marked hw11 hO11)
  clear hO11 hw11 V10
  go_wp2_with fail
  refine (heldStringS_any _ _ _ 1 _ V11.out.answer (by omega)).mono ?_; rintro e w12 ⟨rfl, hb12⟩
  have V12 := Lib.hid (V11.out.below hb12)
  clear hb12 V11
  go_wp2_with fail
  refine (toRuleS_any _ _ _ l _ (H.out.up RuleE.stays V12.out.hb) HN.out).mono ?_; rintro e w13 ⟨g13, rfl, hg13, o13, hb13⟩
  have V13 := Lib.hid (V12.out.below hb13)
  clear hb13 V12
  go_wp2_with fail
  refine (implProgNeeds_any _ _ _ l nm _ (lowRulesN o13 (Nat.le_refl _)) hs (HK.out.later V13.out.hb)).mono ?_; rintro e w14 ⟨v, rfl, hrow, hb14⟩
  rw [HLS.out, HM.out] at hrow
  obtain ⟨A14, c14, rfl, O14⟩ := OwnTx.of_row hrow HM.out.symm HS2.out (Nat.zero_le _)
  have V14 := Lib.hid (V13.out.below hb14)
  have HX14 := Lib.hid O14.texts
  clear hrow O14 hb14 V13 o13
  go_wp2_with fail
  refine (eqStringS_same _ _ _ _ _ _ ls _ HX14.out V14.out.model).mono ?_; rintro e w15 ⟨rfl, hb15⟩
  have V15 := Lib.hid (V14.out.below hb15)
  clear hb15 V14
  go_wp2_with fail
  refine (heldStringS_any _ _ _ 1 _ V15.out.answer (by omega)).mono ?_; rintro e w16 ⟨rfl, hb16⟩
  have V16 := Lib.hid (V15.out.below hb16)
  clear hb16 V15
  go_wp2
  go_ret; exact ⟨rfl, V16.out.hb⟩

end Go.Proofs.YtnhbnhibphjljaaGreatDoor

namespace Go.Proofs.YtnhbnhibphjljaaGreatDoor
open Go.RowKit Go.ChangeShapes Go.WideShapes Go.ChangeAt
open Go.ChangeMaps (open_string)

set_option maxRecDepth 100000 in
set_option maxHeartbeats 1000000 in
theorem exactProgNeeds_lifted (os : Os) (started : os.Started) (H : Type) (enc : TypeId × Value → H) :
    ReturnsInHanded {} Tryz.checked os 7 .any (fun w args => (Rows.fnExactProgNeedsSpec.pre enc Tryz.prog Tryz.f7 [] false w args ∧ laidMetH Tryz.prog laidE w) ∧ sizedMet enc Tryz.prog Tryz.f7 (OpenSpec.ofChange Rows.fnExactProgNeedsSpec) false w args)
      (Rows.fnExactProgNeedsSpec.post enc Tryz.prog Tryz.f7 false true false false) := by
  refine returnsInHanded_of_change_and (C := Tryz.checked) (X := fun w _ => laidMetH Tryz.prog laidE w) (fun _ _ _ hh h => h.of_heap hh) Tryz.own started (by kernel_rfl) Tryz.func7
    (ChangeSpec.witness_shaped (enc := enc) (C := Tryz.checked) (os := os) (X := fun w _ => laidMetH Tryz.prog laidE w) false (World.doorLaid Tryz.prog 400 os) #[.slice none 0 0, .string ByteArray.empty] 8 rfl (World.shaped_of_RefB (by kernel_rfl) (by kernel_rfl)) (by kernel_rfl) (by kernel_rfl) (by kernel_rfl) (err_met os _)) ?_
  intro W base args ds gs before hval0 hW _ _ hL _
  have hval : ∀ (j : Nat) t v, Tryz.f7.params[j]? = some t → args[j]? = some v → Value.okWide Tryz.prog W .any base t v := hval0
  have hW' := hW
  have hlt : ∀ x ∈ before, x.block < W.heap.size := fun x hx => hW.lt x hx
  obtain ⟨p, q, hA0, hV, hpq, hfz, hnd⟩ := hW
  have hA : DataW.TrodAll enc Tryz.prog W 0 (fun _ => true) true Tryz.f7.params.toList args.toList ds p := hA0
  rw [Tryz.params7] at hA hval
  obtain ⟨v0, v1, d0, d1, p0, p1, hargs, rfl, rfl, h0, h1⟩ := trodAll_two hA
  obtain ⟨rfl, rfl⟩ := trodVars_none hV
  simp only [List.append_nil] at hpq
  subst hpq
  have hh0 := Lib.hid h0
  have hh1 := Lib.hid h1
  have hk := errKind_of_laid hL
  obtain ⟨A0, n0, c0, l0, rfl, wt0⟩ := open_rules (hval 0 22 v0 rfl (by rw [hargs]; rfl)) h0
  obtain ⟨s1, rfl, rfl, rfl, ws1⟩ := open_string Tryz.underlying9 (hval 1 9 v1 rfl (by rw [hargs]; rfl)) h1
  subst hargs
  clear hA0 hval0
  refine (exactProgNeeds_any A0 n0 c0 l0 s1 W wt0 ws1 hk).mono fun e W' ⟨he, hb⟩ => ?_
  subst he
  exact ⟨_, rfl, post_true (pv := []) hW' (trodAll_mk1 (shut_bool Tryz.underlying4 true)) (trodAll_mk2 (Below.trod Tryz.laidOut (by kernel_rfl) (of_decide_eq_true (by kernel_rfl)) hh0.out hb (fun x hx => hlt x (by simp [hx]))) (Below.trod Tryz.laidOut (by kernel_rfl) (of_decide_eq_true (by kernel_rfl)) hh1.out hb (fun x hx => by cases hx))) rfl hb⟩

theorem exactProgNeeds_in : (Rows.fnExactProgNeedsRow.inPlace == Tryz.prog.inPlace 7) = true := by kernel_rfl
theorem exactProgNeeds_un : (Rows.fnExactProgNeedsRow.unfollowed == Tryz.prog.unfollowed 7) = true := by kernel_rfl
theorem exactProgNeeds_rec : (Rows.fnExactProgNeedsRow.recurses == Tryz.prog.recurses 7) = true := by kernel_rfl
theorem exactProgNeeds_nam : (Rows.fnExactProgNeedsRow.named == Tryz.prog.varsNamed 7) = true := by kernel_rfl
theorem exactProgNeeds_goes : false = Rows.fnExactProgNeedsRow.goesBy Tryz.prog := by kernel_rfl
theorem exactProgNeeds_named : Tryz.pinned.checked.prog.funcNamed Rows.fnExactProgNeedsRow.func = some 7 := by kernel_rfl
theorem exactProgNeeds_joined : joinedFacts Tryz.prog 7 Tryz.f7 Rows.fnExactProgNeedsSpec Rows.fnExactProgNeedsRow = true :=
  joined_of (by kernel_rfl) Tryz.laidOut Tryz.c_rowed (by kernel_rfl) exactProgNeeds_in exactProgNeeds_un exactProgNeeds_rec exactProgNeeds_nam (by kernel_rfl) Tryz.c_keys rfl Tryz.c_heard Tryz.c_enter Tryz.c_lifted (by kernel_rfl)

theorem exactProgNeeds_row : Rows.FnExactProgNeedsSaid :=
  OpenClaim.holds_of_wide 7 Tryz.f7 rfl rfl rfl rfl rfl rfl rfl ⟨rfl, rfl, rfl, rfl, rfl⟩ rfl rfl rfl rfl rfl exactProgNeeds_named Tryz.func7 exactProgNeeds_joined
    (of_decide_eq_true (by kernel_rfl)) (by unfold Func.isWrapper; rw [if_neg (of_decide_eq_false (by kernel_rfl))]; exact ⟨rfl, rfl⟩)
    (fun os started H enc _ => exactProgNeeds_lifted os started H enc)

theorem exactProgNeeds_holds : Rows.FnExactProgNeedsCardSaid :=
  Claim7.holds_tied_plain_at .later [] [.handle] true _ true
    exactProgNeeds_row (fun _ h => by cases h) (by kernel_rfl) (fun _ h => by cases h) fnExactProgNeeds_row_tie rfl ⟨rfl, rfl⟩ Tryz.c_main rfl
    (fun f fn hf hfn => by
      obtain rfl : f = 7 := Option.some.inj (exactProgNeeds_named.symm.trans hf) |>.symm
      obtain rfl : fn = Tryz.f7 := (Option.some.inj (Tryz.func7.symm.trans hfn)).symm
      exact ⟨Tryz.c_looks, fun j t ht => by
        rw [Tryz.params7] at ht
        have h3 : t = 22 ∨ t = 9 := by
          rcases j with _ | _ | j
          · exact .inl (by simpa using ht.symm)
          · exact .inr (by simpa using ht.symm)
          · simp at ht
        rcases h3 with rfl | rfl
        · exact (show Tryz.prog.wantsStandIn 22 = false by kernel_rfl)
        · exact (show Tryz.prog.wantsStandIn 9 = false by kernel_rfl)⟩)
    exactProgNeeds_goes

end Go.Proofs.YtnhbnhibphjljaaGreatDoor

