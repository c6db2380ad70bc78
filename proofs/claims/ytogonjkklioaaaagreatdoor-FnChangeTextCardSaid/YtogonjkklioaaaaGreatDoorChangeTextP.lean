/-
  The law of ChangeText, proved: for every two codes, a change that is drawn is read back from its text, and of a text that is drawn the program reads what its model reads. Its conditions: what its row lists is laid.
-/
import Derived.Test.YtogonjkklioaaaaGreatDoorCt28
import Derived.Test.YtogonjkklioaaaaGreatDoorCards
import Derived.Test.YtogonjkklioaaaaGreatDoorTie
import Derived.SevenTiedAt
import Derived.Shelf.Vars
namespace Go.Proofs.YtogonjkklioaaaaGreatDoor
open Go.RowKit

end Go.Proofs.YtogonjkklioaaaaGreatDoor

namespace Go.Proofs.YtogonjkklioaaaaGreatDoor
open Go.RowKit Go.ChangeShapes Go.WideShapes Go.ChangeAt

set_option maxRecDepth 100000 in
set_option maxHeartbeats 1000000 in
theorem changeText_lifted (os : Os) (started : os.Started) (H : Type) (enc : TypeId × Value → H) :
    ReturnsInHanded {} Tryz.checked os 3 .any (fun w args => (Rows.fnChangeTextSpec.pre enc Tryz.prog Tryz.f3 [] false w args ∧ laidMetH Tryz.prog laidX w) ∧ sizedMet enc Tryz.prog Tryz.f3 (OpenSpec.ofChange Rows.fnChangeTextSpec) false w args)
      (Rows.fnChangeTextSpec.post enc Tryz.prog Tryz.f3 false true false false) := by
  refine handed_shaped_x (C := Tryz.checked) (X := fun w => laidMetH Tryz.prog laidX w) Tryz.own started (by kernel_rfl) Tryz.func3
    (World.laidAll Tryz.prog os laidX) #[.slice none 0 0, .slice none 0 0] (World.laidAll_os _ _ _) (laidX_shaped2 os) (by kernel_rfl) (by kernel_rfl) (by kernel_rfl) (laidX_met os _) ?_
  intro W args ds gs before hval0 hW hS hL
  have hval : ∀ (j : Nat) t v, Tryz.f3.params[j]? = some t → args[j]? = some v → Value.okWide Tryz.prog W .any W.heap.size t v := hval0
  have hW' := hW
  have hlt : ∀ x ∈ before, x.block < W.heap.size := fun x hx => hW.lt x hx
  obtain ⟨p, q, hA0, hV, hpq, hfz, hnd⟩ := hW
  have hA : DataW.TrodAll enc Tryz.prog W 0 (fun _ => true) true Tryz.f3.params.toList args.toList ds p := hA0
  rw [Tryz.params3] at hA hval
  obtain ⟨v0, v1, d0, d1, p0, p1, hargs, rfl, rfl, h0, h1⟩ := trodAll_two hA
  obtain ⟨rfl, rfl⟩ := trodVars_none hV
  simp only [List.append_nil] at hpq
  subst hpq
  have hh0 := Lib.hid h0
  have hh1 := Lib.hid h1
  have hk := maxIn_of_shape hS
  obtain ⟨A0, n0, c0, rfl, wt0⟩ := open_bytes (hval 0 22 v0 rfl (by rw [hargs]; rfl)) h0
  obtain ⟨A1, n1, c1, rfl, wt1⟩ := open_bytes (hval 1 22 v1 rfl (by rw [hargs]; rfl)) h1
  subst hargs
  clear hA0 hval0
  refine (changeText_law A0 n0 c0 A1 n1 c1 W wt0 wt1 hk (eofIn_of_laid hL)).mono fun e W' ⟨he, hb⟩ => ?_
  subst he
  exact ⟨_, rfl, post_true (pv := []) hW' (trodAll_mk1 (shut_bool Tryz.underlying4 true)) (trodAll_mk2 (Below.trod Tryz.laidOut (by kernel_rfl) (of_decide_eq_true (by kernel_rfl)) hh0.out hb (fun x hx => hlt x (by simp [hx]))) (Below.trod Tryz.laidOut (by kernel_rfl) (of_decide_eq_true (by kernel_rfl)) hh1.out hb (fun x hx => hlt x (by simp [hx])))) rfl hb⟩

theorem changeText_in : (Rows.fnChangeTextRow.inPlace == Tryz.prog.inPlace 3) = true := by kernel_rfl
theorem changeText_un : (Rows.fnChangeTextRow.unfollowed == Tryz.prog.unfollowed 3) = true := by kernel_rfl
theorem changeText_rec : (Rows.fnChangeTextRow.recurses == Tryz.prog.recurses 3) = true := by kernel_rfl
theorem changeText_nam : (Rows.fnChangeTextRow.named == Tryz.prog.varsNamed 3) = true := by kernel_rfl
theorem changeText_goes : false = Rows.fnChangeTextRow.goesBy Tryz.prog := by kernel_rfl
theorem changeText_named : Tryz.pinned.checked.prog.funcNamed Rows.fnChangeTextRow.func = some 3 := by kernel_rfl
theorem changeText_joined : joinedFacts Tryz.prog 3 Tryz.f3 Rows.fnChangeTextSpec Rows.fnChangeTextRow = true :=
  joined_of (by kernel_rfl) Tryz.laidOut Tryz.c_rowed (by kernel_rfl) changeText_in changeText_un changeText_rec changeText_nam (by kernel_rfl) Tryz.c_keys rfl Tryz.c_heard Tryz.c_enter Tryz.c_lifted (by kernel_rfl)

theorem changeText_row : Rows.FnChangeTextSaid :=
  OpenClaim.holds_of_wide 3 Tryz.f3 rfl rfl rfl rfl rfl rfl rfl ⟨rfl, rfl, rfl, rfl, rfl⟩ rfl rfl rfl rfl rfl changeText_named Tryz.func3 changeText_joined
    (of_decide_eq_true (by kernel_rfl)) (by unfold Func.isWrapper; rw [if_neg (of_decide_eq_false (by kernel_rfl))]; exact ⟨rfl, rfl⟩)
    (fun os started H enc _ => changeText_lifted os started H enc)

theorem changeText_holds : Rows.FnChangeTextCardSaid :=
  Claim7.holds_tied_plain_at .later [] [.data, .sentinel, .pinned] true _ true
    changeText_row (fun _ h => by cases h) (by kernel_rfl) (fun _ h => by cases h) fnChangeText_row_tie rfl ⟨rfl, rfl⟩ Tryz.c_main rfl
    (fun f fn hf hfn => by
      obtain rfl : f = 3 := Option.some.inj (changeText_named.symm.trans hf) |>.symm
      obtain rfl : fn = Tryz.f3 := (Option.some.inj (Tryz.func3.symm.trans hfn)).symm
      exact ⟨Tryz.c_looks, fun j t ht => by
        rw [Tryz.params3] at ht
        have h3 : t = 22 := by
          rcases j with _ | _ | j
          · simpa using ht.symm
          · simpa using ht.symm
          · simp at ht
        subst h3
        exact (show Tryz.prog.wantsStandIn 22 = false by kernel_rfl)⟩)
    changeText_goes

end Go.Proofs.YtogonjkklioaaaaGreatDoor
