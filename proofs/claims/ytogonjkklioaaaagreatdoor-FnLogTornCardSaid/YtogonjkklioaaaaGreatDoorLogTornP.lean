/-
  The law of LogTorn, proved: for every two codes, of a drawn log that breaks off the records that are whole are read, and of one with a byte turned no more than ahead of it. Its conditions: what its row lists is laid.
-/
import Derived.Test.YtogonjkklioaaaaGreatDoorLt41
import Derived.Test.YtogonjkklioaaaaGreatDoorCardKitO
import Derived.Test.YtogonjkklioaaaaGreatDoorCards
import Derived.Test.YtogonjkklioaaaaGreatDoorTie
import Derived.SevenTiedAt
import Derived.Test.YtogonjkklioaaaaGreatDoorLt43
import Derived.Shelf.Vars
namespace Go.Proofs.YtogonjkklioaaaaGreatDoor
open Go.RowKit

end Go.Proofs.YtogonjkklioaaaaGreatDoor

namespace Go.Proofs.YtogonjkklioaaaaGreatDoor
open Go.RowKit Go.ChangeShapes Go.WideShapes Go.ChangeAt

set_option maxRecDepth 100000 in
set_option maxHeartbeats 1000000 in
theorem logTorn_lifted (os : Os) (started : os.Started) (H : Type) (enc : TypeId × Value → H) :
    ReturnsInHanded {} Tryz.checked os 6 .any (fun w args => (Rows.fnLogTornSpec.pre enc Tryz.prog Tryz.f6 [] false w args ∧ laidMetH Tryz.prog laidX w) ∧ sizedMet enc Tryz.prog Tryz.f6 (OpenSpec.ofChange Rows.fnLogTornSpec) false w args)
      (Rows.fnLogTornSpec.post enc Tryz.prog Tryz.f6 false true false false) := by
  refine zow (C := Tryz.checked) (X := fun w => laidMetH Tryz.prog laidX w) Tryz.own started (by kernel_rfl) Tryz.func6
    (World.laidAll Tryz.prog os laidX) #[.slice none 0 0, .slice none 0 0] (World.laidAll_os _ _ _) (laidX_shaped2 os) (by kernel_rfl) (by kernel_rfl) (by kernel_rfl) (laidX_met os _) ?_
  intro W args ds gs before hval0 hW hS hL
  have hval : ∀ (j : Nat) t v, Tryz.f6.params[j]? = some t → args[j]? = some v → Value.okWide Tryz.prog W .any W.heap.size t v := hval0
  have hW' := hW
  have hlt : ∀ x ∈ before, x.block < W.heap.size := fun x hx => hW.lt x hx
  obtain ⟨p, q, hA0, hV, hpq, hfz, hnd⟩ := hW
  have hA : DataW.TrodAll enc Tryz.prog W 0 (fun _ => true) true Tryz.f6.params.toList args.toList ds p := hA0
  rw [Tryz.params6] at hA hval
  obtain ⟨v0, v1, d0, d1, p0, p1, hargs, rfl, rfl, h0, h1⟩ := trodAll_two hA
  obtain ⟨rfl, rfl⟩ := trodVars_none hV
  simp only [List.append_nil] at hpq
  subst hpq
  have hh0 := Lib.hid h0
  have hh1 := Lib.hid h1
  have hk := maxIn_of_shape hS
  obtain ⟨A0, n0, c0, rfl, wt0⟩ := open_bytes (hval 0 22 v0 rfl (by rw [hargs]; rfl)) h0
  obtain ⟨A1, n1, c1, rfl, wt1⟩ := open_bytes (hval 1 22 v1 rfl (by rw [hargs]; rfl)) h1
  subst hargs
  clear hA0 hval0
  refine (logTorn_law A0 n0 c0 A1 n1 c1 W wt0 wt1 hk (eofIn_of_laid hL) (pow_of_laid hL)).mono fun e W' ⟨he, hb⟩ => ?_
  subst he
  exact ⟨_, rfl, post_true (pv := []) hW' (trodAll_mk1 (shut_bool Tryz.underlying4 true)) (trodAll_mk2 (Below.trod Tryz.laidOut (by kernel_rfl) (of_decide_eq_true (by kernel_rfl)) hh0.out hb (fun x hx => hlt x (by simp [hx]))) (Below.trod Tryz.laidOut (by kernel_rfl) (of_decide_eq_true (by kernel_rfl)) hh1.out hb (fun x hx => hlt x (by simp [hx])))) rfl hb⟩

theorem logTorn_in : (Rows.fnLogTornRow.inPlace == Tryz.prog.inPlace 6) = true := by kernel_rfl
theorem logTorn_un : (Rows.fnLogTornRow.unfollowed == Tryz.prog.unfollowed 6) = true := by kernel_rfl
theorem logTorn_rec : (Rows.fnLogTornRow.recurses == Tryz.prog.recurses 6) = true := by kernel_rfl
theorem logTorn_nam : (Rows.fnLogTornRow.named == Tryz.prog.varsNamed 6) = true := by kernel_rfl
theorem logTorn_goes : false = Rows.fnLogTornRow.goesBy Tryz.prog := by kernel_rfl
theorem logTorn_named : Tryz.pinned.checked.prog.funcNamed Rows.fnLogTornRow.func = some 6 := by kernel_rfl
theorem logTorn_joined : joinedFacts Tryz.prog 6 Tryz.f6 Rows.fnLogTornSpec Rows.fnLogTornRow = true :=
  joined_of (by kernel_rfl) Tryz.laidOut Tryz.c_rowed (by kernel_rfl) logTorn_in logTorn_un logTorn_rec logTorn_nam (by kernel_rfl) Tryz.c_keys rfl Tryz.c_heard Tryz.c_enter Tryz.c_lifted (by kernel_rfl)

theorem logTorn_row : Rows.FnLogTornSaid :=
  OpenClaim.holds_of_wide 6 Tryz.f6 rfl rfl rfl rfl rfl rfl rfl ⟨rfl, rfl, rfl, rfl, rfl⟩ rfl rfl rfl rfl rfl logTorn_named Tryz.func6 logTorn_joined
    (of_decide_eq_true (by kernel_rfl)) (by unfold Func.isWrapper; rw [if_neg (of_decide_eq_false (by kernel_rfl))]; exact ⟨rfl, rfl⟩)
    (fun os started H enc _ => logTorn_lifted os started H enc)

theorem logTorn_holds : Rows.FnLogTornCardSaid :=
  Claim7.holds_tied_plain_at .later [] [.data, .data, .data, .data, .sentinel, .pinned] true _ true
    logTorn_row (fun _ h => by cases h) (by kernel_rfl) (fun _ h => by cases h) fnLogTorn_row_tie rfl ⟨rfl, rfl⟩ Tryz.c_main rfl
    (fun f fn hf hfn => by
      obtain rfl : f = 6 := Option.some.inj (logTorn_named.symm.trans hf) |>.symm
      obtain rfl : fn = Tryz.f6 := (Option.some.inj (Tryz.func6.symm.trans hfn)).symm
      exact ⟨Tryz.c_looks, fun j t ht => by
        rw [Tryz.params6] at ht
        have h3 : t = 22 := by
          rcases j with _ | _ | j
          · simpa using ht.symm
          · simpa using ht.symm
          · simp at ht
        subst h3
        exact (show Tryz.prog.wantsStandIn 22 = false by kernel_rfl)⟩)
    logTorn_goes

end Go.Proofs.YtogonjkklioaaaaGreatDoor
