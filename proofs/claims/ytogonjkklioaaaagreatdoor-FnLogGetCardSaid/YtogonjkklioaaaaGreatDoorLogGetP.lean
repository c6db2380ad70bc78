/-
  The law of LogGet, proved: for every two codes, what is read of a log that is drawn, put again, is how it begins, and one record more with the next time is read. Its conditions: what its row lists is laid.
-/
import Derived.Test.YtogonjkklioaaaaGreatDoorLg39
import Derived.Test.YtogonjkklioaaaaGreatDoorLg40
import Derived.Test.YtogonjkklioaaaaGreatDoorTie
namespace Go.Proofs.YtogonjkklioaaaaGreatDoor
open Go.RowKit

end Go.Proofs.YtogonjkklioaaaaGreatDoor

namespace Go.Proofs.YtogonjkklioaaaaGreatDoor
open Go.RowKit Go.ChangeShapes Go.WideShapes Go.ChangeAt

set_option maxRecDepth 100000 in
set_option maxHeartbeats 1000000 in
theorem logGet_lifted (os : Os) (started : os.Started) (H : Type) (enc : TypeId × Value → H) :
    ReturnsInHanded {} Tryz.checked os 5 .any (fun w args => (Rows.fnLogGetSpec.pre enc Tryz.prog Tryz.f5 [] false w args ∧ laidMetH Tryz.prog laidX w) ∧ sizedMet enc Tryz.prog Tryz.f5 (OpenSpec.ofChange Rows.fnLogGetSpec) false w args)
      (Rows.fnLogGetSpec.post enc Tryz.prog Tryz.f5 false true false false) := by
  refine zpd (C := Tryz.checked) (X := fun w => laidMetH Tryz.prog laidX w) Tryz.own started (by kernel_rfl) Tryz.func5
    (World.laidAll Tryz.prog os laidX) #[.slice none 0 0, .slice none 0 0] (World.laidAll_os _ _ _) (laidX_shaped2 os) (by kernel_rfl) (by kernel_rfl) (by kernel_rfl) (laidX_met os _) ?_
  intro W args ds gs before hval0 hW hS hL
  have hval : ∀ (j : Nat) t v, Tryz.f5.params[j]? = some t → args[j]? = some v → Value.okWide Tryz.prog W .any W.heap.size t v := hval0
  have hW' := hW
  have hlt : ∀ x ∈ before, x.block < W.heap.size := fun x hx => hW.lt x hx
  obtain ⟨p, q, hA0, hV, hpq, hfz, hnd⟩ := hW
  have hA : DataW.TrodAll enc Tryz.prog W 0 (fun _ => true) true Tryz.f5.params.toList args.toList ds p := hA0
  rw [Tryz.params5] at hA hval
  obtain ⟨v0, v1, d0, d1, p0, p1, hargs, rfl, rfl, h0, h1⟩ := trodAll_two hA
  obtain ⟨rfl, rfl⟩ := trodVars_none hV
  simp only [List.append_nil] at hpq
  subst hpq
  have hh0 := Lib.hid h0
  have hh1 := Lib.hid h1
  have hk := maxIn_of_shape hS
  obtain ⟨A0, n0, c0, rfl, wt0⟩ := open_bytes (hval 0 22 v0 rfl (by rw [hargs]; rfl)) h0
  obtain ⟨A1, n1, c1, rfl, wt1⟩ := open_bytes (hval 1 22 v1 rfl (by rw [hargs]; rfl)) h1
  subst hargs
  clear hA0 hval0
  refine (logGet_law A0 n0 c0 A1 n1 c1 W wt0 wt1 hk (eofIn_of_laid hL) (pow_of_laid hL)).mono fun e W' ⟨he, hb⟩ => ?_
  subst he
  exact ⟨_, rfl, post_true (pv := []) hW' (trodAll_mk1 (shut_bool Tryz.underlying4 true)) (trodAll_mk2 (Below.trod Tryz.laidOut (by kernel_rfl) (of_decide_eq_true (by kernel_rfl)) hh0.out hb (fun x hx => hlt x (by simp [hx]))) (Below.trod Tryz.laidOut (by kernel_rfl) (of_decide_eq_true (by kernel_rfl)) hh1.out hb (fun x hx => hlt x (by simp [hx])))) rfl hb⟩

theorem logGet_in : (Rows.fnLogGetRow.inPlace == Tryz.prog.inPlace 5) = true := by kernel_rfl
theorem logGet_un : (Rows.fnLogGetRow.unfollowed == Tryz.prog.unfollowed 5) = true := by kernel_rfl
theorem logGet_rec : (Rows.fnLogGetRow.recurses == Tryz.prog.recurses 5) = true := by kernel_rfl
theorem logGet_nam : (Rows.fnLogGetRow.named == Tryz.prog.varsNamed 5) = true := by kernel_rfl
theorem logGet_goes : false = Rows.fnLogGetRow.goesBy Tryz.prog := by kernel_rfl
theorem logGet_named : Tryz.pinned.checked.prog.funcNamed Rows.fnLogGetRow.func = some 5 := by kernel_rfl
theorem logGet_joined : joinedFacts Tryz.prog 5 Tryz.f5 Rows.fnLogGetSpec Rows.fnLogGetRow = true :=
  joined_of (by kernel_rfl) Tryz.laidOut Tryz.c_rowed (by kernel_rfl) logGet_in logGet_un logGet_rec logGet_nam (by kernel_rfl) Tryz.c_keys rfl Tryz.c_heard Tryz.c_enter Tryz.c_lifted (by kernel_rfl)

theorem logGet_row : Rows.FnLogGetSaid :=
  OpenClaim.holds_of_wide 5 Tryz.f5 rfl rfl rfl rfl rfl rfl rfl ⟨rfl, rfl, rfl, rfl, rfl⟩ rfl rfl rfl rfl rfl logGet_named Tryz.func5 logGet_joined
    (of_decide_eq_true (by kernel_rfl)) (by unfold Func.isWrapper; rw [if_neg (of_decide_eq_false (by kernel_rfl))]; exact ⟨rfl, rfl⟩)
    (fun os started H enc _ => logGet_lifted os started H enc)

theorem logGet_holds : Rows.FnLogGetCardSaid :=
  Claim7.holds_tied_plain_at .later [] [.data, .data, .data, .data, .sentinel, .pinned] true _ true
    logGet_row (fun _ h => by cases h) (by kernel_rfl) (fun _ h => by cases h) fnLogGet_row_tie rfl ⟨rfl, rfl⟩ Tryz.c_main rfl
    (fun f fn hf hfn => by
      obtain rfl : f = 5 := Option.some.inj (logGet_named.symm.trans hf) |>.symm
      obtain rfl : fn = Tryz.f5 := (Option.some.inj (Tryz.func5.symm.trans hfn)).symm
      exact ⟨Tryz.c_looks, fun j t ht => by
        rw [Tryz.params5] at ht
        have h3 : t = 22 := by
          rcases j with _ | _ | j
          · simpa using ht.symm
          · simpa using ht.symm
          · simp at ht
        subst h3
        exact (show Tryz.prog.wantsStandIn 22 = false by kernel_rfl)⟩)
    logGet_goes

end Go.Proofs.YtogonjkklioaaaaGreatDoor
