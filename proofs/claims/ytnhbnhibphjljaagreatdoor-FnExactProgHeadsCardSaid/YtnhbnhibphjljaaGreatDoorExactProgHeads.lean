/-
  The exact law of ProgHeads: at every list of rules and every name the program answers as its model, and nothing is written into what came in.
-/
import Derived.Test.YtnhbnhibphjljaaGreatDoorTellKit
import Derived.Test.YtnhbnhibphjljaaGreatDoorRulesS
import Derived.Test.YtnhbnhibphjljaaGreatDoorCheckImpl
import Derived.Test.YtnhbnhibphjljaaGreatDoorOpen
import Derived.Test.YtnhbnhibphjljaaGreatDoorClosed
import Derived.Test.YtnhbnhibphjljaaGreatDoorCards
import Derived.Test.YtnhbnhibphjljaaGreatDoorTie
import Derived.SevenTiedAt
namespace Go.Proofs.YtnhbnhibphjljaaGreatDoor
open Go.RowKit

set_option maxHeartbeats 2000000 in
theorem exactProgHeads_any (A : Option Addr) (n c : Nat) (l : List Rl) (nm : ByteArray) (w : World) (h : IsRules w 0 w.heap.size A n c l) (hk : ErrKind w) :
    Calls Tryz.prog 5 #[.slice A n c, .string nm] w (BoolPost true w) := by
  have H := Lib.hid h; clear h
  have HK := Lib.hid hk; clear hk
  go_enter Tryz.func5, Tryz.ntmps5
  go_wp2_with fail
  all_goals try (go_ret; exact ⟨rfl, Below.refl _ _⟩)
  refine (szRuleS_any _ _ _ l _ _ H.out (by omega) (by omega)).mono ?_; rintro e w1 ⟨y, ⟨rfl, ha, hb, hc⟩, hb1⟩
  go_wp2_with fail
  all_goals try (go_ret; exact ⟨rfl, hb1⟩)
  have hn : SmallRules n l := hc (by assumption)
  clear ha hb hc
  refine (toRuleS_any _ _ _ l _ (H.out.up RuleE.stays hb1) hn).mono ?_; rintro e w2 ⟨g2, rfl, hg2, o2, hb2⟩
  have HB2 := belowThen hb1 hb2
  go_wp2_with fail
  refine (specProgHeads_any _ _ _ l nm _ (o2.keep RuleE.stays (fun _ _ _ => rfl) (Nat.zero_le _) (Nat.le_refl _))).mono ?_; rintro e w3 ⟨rfl, hb3⟩
  have HB3 := belowThen HB2 hb3
  clear hb1 hb2 hb3 o2 HB2
  go_wp2_with fail
  refine (toRuleS_any _ _ _ l _ (H.out.up RuleE.stays HB3) hn).mono ?_; rintro e w4 ⟨g4, rfl, hg4, o4, hb4⟩
  have HB4 := belowThen HB3 hb4
  have o4' := o4.keep (lo' := 0) (hi' := w4.heap.size) RuleE.stays (fun _ _ _ => rfl) (Nat.zero_le _) (Nat.le_refl _)
  go_wp2_with fail
  refine (implProgHeads_any _ _ _ l nm _ o4' (HK.out.later HB4)).mono ?_; rintro e w5 ⟨rfl, hb5⟩
  have HB5 := belowThen HB4 hb5
  have o5 := o4'.up RuleE.stays hb5
  clear hb4 hb5 o4 o4' HB4
  go_wp2_with fail
  refine (toRuleS_any _ _ _ l _ (H.out.up RuleE.stays HB5) hn).mono ?_; rintro e w6 ⟨g6, rfl, hg6, o6, hb6⟩
  have HB6 := belowThen HB5 hb6
  have o56 := o5.up RuleE.stays hb6
  have o6' := o6.keep (lo' := 0) (hi' := w6.heap.size) RuleE.stays (fun _ _ _ => rfl) (Nat.zero_le _) (Nat.le_refl _)
  go_wp2_with fail
  refine (eqRuleS_any _ _ _ _ _ _ l l _ o56 o6').mono ?_; rintro e w7 ⟨rfl, hb7⟩
  have HB7 := belowThen HB6 hb7
  rw [listEq_refl ruleEq_refl]
  go_wp2
  go_ret; exact ⟨rfl, HB7⟩

end Go.Proofs.YtnhbnhibphjljaaGreatDoor

namespace Go.Proofs.YtnhbnhibphjljaaGreatDoor
open Go.RowKit Go.ChangeShapes Go.WideShapes Go.ChangeAt
open Go.ChangeMaps (open_string)

set_option maxRecDepth 100000 in
set_option maxHeartbeats 1000000 in
theorem exactProgHeads_lifted (os : Os) (started : os.Started) (H : Type) (enc : TypeId × Value → H) :
    ReturnsInHanded {} Tryz.checked os 5 .any (fun w args => (Rows.fnExactProgHeadsSpec.pre enc Tryz.prog Tryz.f5 [] false w args ∧ laidMetH Tryz.prog laidE w) ∧ sizedMet enc Tryz.prog Tryz.f5 (OpenSpec.ofChange Rows.fnExactProgHeadsSpec) false w args)
      (Rows.fnExactProgHeadsSpec.post enc Tryz.prog Tryz.f5 false true false false) := by
  refine returnsInHanded_of_change_and (C := Tryz.checked) (X := fun w _ => laidMetH Tryz.prog laidE w) (fun _ _ _ hh h => h.of_heap hh) Tryz.own started (by kernel_rfl) Tryz.func5
    (ChangeSpec.witness_shaped (enc := enc) (C := Tryz.checked) (os := os) (X := fun w _ => laidMetH Tryz.prog laidE w) false (World.doorLaid Tryz.prog 400 os) #[.slice none 0 0, .string ByteArray.empty] 8 rfl (World.shaped_of_RefB (by kernel_rfl) (by kernel_rfl)) (by kernel_rfl) (by kernel_rfl) (by kernel_rfl) (err_met os _)) ?_
  intro W base args ds gs before hval0 hW _ _ hL _
  have hval : ∀ (j : Nat) t v, Tryz.f5.params[j]? = some t → args[j]? = some v → Value.okWide Tryz.prog W .any base t v := hval0
  have hW' := hW
  have hlt : ∀ x ∈ before, x.block < W.heap.size := fun x hx => hW.lt x hx
  obtain ⟨p, q, hA0, hV, hpq, hfz, hnd⟩ := hW
  have hA : DataW.TrodAll enc Tryz.prog W 0 (fun _ => true) true Tryz.f5.params.toList args.toList ds p := hA0
  rw [Tryz.params5] at hA hval
  obtain ⟨v0, v1, d0, d1, p0, p1, hargs, rfl, rfl, h0, h1⟩ := trodAll_two hA
  obtain ⟨rfl, rfl⟩ := trodVars_none hV
  simp only [List.append_nil] at hpq
  subst hpq
  have hh0 := Lib.hid h0
  have hh1 := Lib.hid h1
  have hk := errKind_of_laid hL
  obtain ⟨A0, n0, c0, l0, rfl, wt0⟩ := open_rules (hval 0 22 v0 rfl (by rw [hargs]; rfl)) h0
  obtain ⟨s1, rfl, rfl, rfl, _⟩ := open_string Tryz.underlying9 (hval 1 9 v1 rfl (by rw [hargs]; rfl)) h1
  subst hargs
  clear hA0 hval0
  refine (exactProgHeads_any A0 n0 c0 l0 s1 W wt0 hk).mono fun e W' ⟨he, hb⟩ => ?_
  subst he
  exact ⟨_, rfl, post_true (pv := []) hW' (trodAll_mk1 (shut_bool Tryz.underlying4 true)) (trodAll_mk2 (Below.trod Tryz.laidOut (by kernel_rfl) (of_decide_eq_true (by kernel_rfl)) hh0.out hb (fun x hx => hlt x (by simp [hx]))) (Below.trod Tryz.laidOut (by kernel_rfl) (of_decide_eq_true (by kernel_rfl)) hh1.out hb (fun x hx => by cases hx))) rfl hb⟩

theorem exactProgHeads_in : (Rows.fnExactProgHeadsRow.inPlace == Tryz.prog.inPlace 5) = true := by kernel_rfl
theorem exactProgHeads_un : (Rows.fnExactProgHeadsRow.unfollowed == Tryz.prog.unfollowed 5) = true := by kernel_rfl
theorem exactProgHeads_rec : (Rows.fnExactProgHeadsRow.recurses == Tryz.prog.recurses 5) = true := by kernel_rfl
theorem exactProgHeads_nam : (Rows.fnExactProgHeadsRow.named == Tryz.prog.varsNamed 5) = true := by kernel_rfl
theorem exactProgHeads_goes : false = Rows.fnExactProgHeadsRow.goesBy Tryz.prog := by kernel_rfl
theorem exactProgHeads_named : Tryz.pinned.checked.prog.funcNamed Rows.fnExactProgHeadsRow.func = some 5 := by kernel_rfl
theorem exactProgHeads_joined : joinedFacts Tryz.prog 5 Tryz.f5 Rows.fnExactProgHeadsSpec Rows.fnExactProgHeadsRow = true :=
  joined_of (by kernel_rfl) Tryz.laidOut Tryz.c_rowed (by kernel_rfl) exactProgHeads_in exactProgHeads_un exactProgHeads_rec exactProgHeads_nam (by kernel_rfl) Tryz.c_keys rfl Tryz.c_heard Tryz.c_enter Tryz.c_lifted (by kernel_rfl)

theorem exactProgHeads_row : Rows.FnExactProgHeadsSaid :=
  OpenClaim.holds_of_wide 5 Tryz.f5 rfl rfl rfl rfl rfl rfl rfl ⟨rfl, rfl, rfl, rfl, rfl⟩ rfl rfl rfl rfl rfl exactProgHeads_named Tryz.func5 exactProgHeads_joined
    (of_decide_eq_true (by kernel_rfl)) (by unfold Func.isWrapper; rw [if_neg (of_decide_eq_false (by kernel_rfl))]; exact ⟨rfl, rfl⟩)
    (fun os started H enc _ => exactProgHeads_lifted os started H enc)

theorem exactProgHeads_holds : Rows.FnExactProgHeadsCardSaid :=
  Claim7.holds_tied_plain_at .later [] [.handle] true _ true
    exactProgHeads_row (fun _ h => by cases h) (by kernel_rfl) (fun _ h => by cases h) fnExactProgHeads_row_tie rfl ⟨rfl, rfl⟩ Tryz.c_main rfl
    (fun f fn hf hfn => by
      obtain rfl : f = 5 := Option.some.inj (exactProgHeads_named.symm.trans hf) |>.symm
      obtain rfl : fn = Tryz.f5 := (Option.some.inj (Tryz.func5.symm.trans hfn)).symm
      exact ⟨Tryz.c_looks, fun j t ht => by
        rw [Tryz.params5] at ht
        have h3 : t = 22 ∨ t = 9 := by
          rcases j with _ | _ | j
          · exact .inl (by simpa using ht.symm)
          · exact .inr (by simpa using ht.symm)
          · simp at ht
        rcases h3 with rfl | rfl
        · exact (show Tryz.prog.wantsStandIn 22 = false by kernel_rfl)
        · exact (show Tryz.prog.wantsStandIn 9 = false by kernel_rfl)⟩)
    exactProgHeads_goes

end Go.Proofs.YtnhbnhibphjljaaGreatDoor

