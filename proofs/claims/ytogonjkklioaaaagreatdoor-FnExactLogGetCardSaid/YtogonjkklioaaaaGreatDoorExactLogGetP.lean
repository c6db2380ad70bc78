/-
  The exact law of LogGet, proved: at every text the program tells its model's changes and bytes, in memory of its own. Its conditions: what its row lists is laid.
-/
import Derived.Test.YtogonjkklioaaaaGreatDoorLg28
import Derived.Test.YtogonjkklioaaaaGreatDoorCards
import Derived.Test.YtogonjkklioaaaaGreatDoorTie
import Derived.SevenTiedAt
import Derived.Shelf.Vars
namespace Go.Proofs.YtogonjkklioaaaaGreatDoor
open Go.RowKit

end Go.Proofs.YtogonjkklioaaaaGreatDoor

namespace Go.Proofs.YtogonjkklioaaaaGreatDoor
open Go.RowKit Go.ChangeShapes Go.WideShapes Go.ChangeAt
open Go.ChangeMaps (open_string)

set_option maxRecDepth 100000 in
set_option maxHeartbeats 1000000 in
theorem exactLogGet_lifted (os : Os) (started : os.Started) (H : Type) (enc : TypeId × Value → H) :
    ReturnsInHanded {} Tryz.checked os 4 .any (fun w args => (Rows.fnExactLogGetSpec.pre enc Tryz.prog Tryz.f4 [] false w args ∧ laidMetH Tryz.prog laidX w) ∧ sizedMet enc Tryz.prog Tryz.f4 (OpenSpec.ofChange Rows.fnExactLogGetSpec) false w args)
      (Rows.fnExactLogGetSpec.post enc Tryz.prog Tryz.f4 false true false false) := by
  refine handed_shaped_x (C := Tryz.checked) (X := fun w => laidMetH Tryz.prog laidX w) Tryz.own started (by kernel_rfl) Tryz.func4
    (World.laidAll Tryz.prog os laidX) #[.string ByteArray.empty] (World.laidAll_os _ _ _) (laidX_shaped1 os) (by kernel_rfl) (by kernel_rfl) (by kernel_rfl) (laidX_met os _) ?_
  intro W args ds gs before hval0 hW hS hL
  have hval : ∀ (j : Nat) t v, Tryz.f4.params[j]? = some t → args[j]? = some v → Value.okWide Tryz.prog W .any W.heap.size t v := hval0
  have hW' := hW
  have hlt : ∀ x ∈ before, x.block < W.heap.size := fun x hx => hW.lt x hx
  obtain ⟨p, q, hA0, hV, hpq, hfz, hnd⟩ := hW
  have hA : DataW.TrodAll enc Tryz.prog W 0 (fun _ => true) true Tryz.f4.params.toList args.toList ds p := hA0
  rw [Tryz.params4] at hA hval
  obtain ⟨v0, d0, hargs, rfl, h0⟩ := trodAll_one hA
  obtain ⟨rfl, rfl⟩ := trodVars_none hV
  simp only [List.append_nil] at hpq
  subst hpq
  have hh0 := Lib.hid h0
  have hk := maxIn_of_shape hS
  obtain ⟨s, rfl, rfl, rfl, ws⟩ := open_string Tryz.underlying9 (hval 0 9 v0 rfl (by rw [hargs]; rfl)) h0
  subst hargs
  clear hA0 hval0
  refine (exactLogGet_any s W hk (eofIn_of_laid hL) (pow_of_laid hL)).mono fun e W' ⟨he, hb⟩ => ?_
  subst he
  exact ⟨_, rfl, post_true (pv := []) hW' (trodAll_mk1 (shut_bool Tryz.underlying4 true)) (trodAll_mk1 (Below.trod Tryz.laidOut (by kernel_rfl) (of_decide_eq_true (by kernel_rfl)) hh0.out hb hlt)) rfl hb⟩

theorem exactLogGet_in : (Rows.fnExactLogGetRow.inPlace == Tryz.prog.inPlace 4) = true := by kernel_rfl
theorem exactLogGet_un : (Rows.fnExactLogGetRow.unfollowed == Tryz.prog.unfollowed 4) = true := by kernel_rfl
theorem exactLogGet_rec : (Rows.fnExactLogGetRow.recurses == Tryz.prog.recurses 4) = true := by kernel_rfl
theorem exactLogGet_nam : (Rows.fnExactLogGetRow.named == Tryz.prog.varsNamed 4) = true := by kernel_rfl
theorem exactLogGet_goes : false = Rows.fnExactLogGetRow.goesBy Tryz.prog := by kernel_rfl
theorem exactLogGet_named : Tryz.pinned.checked.prog.funcNamed Rows.fnExactLogGetRow.func = some 4 := by kernel_rfl
theorem exactLogGet_joined : joinedFacts Tryz.prog 4 Tryz.f4 Rows.fnExactLogGetSpec Rows.fnExactLogGetRow = true :=
  joined_of (by kernel_rfl) Tryz.laidOut Tryz.c_rowed (by kernel_rfl) exactLogGet_in exactLogGet_un exactLogGet_rec exactLogGet_nam (by kernel_rfl) Tryz.c_keys rfl Tryz.c_heard Tryz.c_enter Tryz.c_lifted (by kernel_rfl)

theorem exactLogGet_row : Rows.FnExactLogGetSaid :=
  OpenClaim.holds_of_wide 4 Tryz.f4 rfl rfl rfl rfl rfl rfl rfl ⟨rfl, rfl, rfl, rfl, rfl⟩ rfl rfl rfl rfl rfl exactLogGet_named Tryz.func4 exactLogGet_joined
    (of_decide_eq_true (by kernel_rfl)) (by unfold Func.isWrapper; rw [if_neg (of_decide_eq_false (by kernel_rfl))]; exact ⟨rfl, rfl⟩)
    (fun os started H enc _ => exactLogGet_lifted os started H enc)

theorem exactLogGet_holds : Rows.FnExactLogGetCardSaid :=
  Claim7.holds_tied_plain_at .later [] [.data, .data, .data, .data, .sentinel, .pinned] true _ true
    exactLogGet_row (fun _ h => by cases h) (by kernel_rfl) (fun _ h => by cases h) fnExactLogGet_row_tie rfl ⟨rfl, rfl⟩ Tryz.c_main rfl
    (fun f fn hf hfn => by
      obtain rfl : f = 4 := Option.some.inj (exactLogGet_named.symm.trans hf) |>.symm
      obtain rfl : fn = Tryz.f4 := (Option.some.inj (Tryz.func4.symm.trans hfn)).symm
      exact ⟨Tryz.c_looks, fun j t ht => by
        rw [Tryz.params4] at ht
        have h3 : t = 9 := by
          rcases j with _ | j
          · simpa using ht.symm
          · simp at ht
        subst h3
        exact (show Tryz.prog.wantsStandIn 9 = false by kernel_rfl)⟩)
    exactLogGet_goes

end Go.Proofs.YtogonjkklioaaaaGreatDoor
