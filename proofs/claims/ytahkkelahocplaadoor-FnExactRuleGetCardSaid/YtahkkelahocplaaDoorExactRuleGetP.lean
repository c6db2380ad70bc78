/-
  The exact law of RuleGet, proved: at every text the program tells its model's rule, in memory of its own.
-/
import Derived.Test.YtahkkelahocplaaDoorExactRuleGet
import Derived.Test.YtahkkelahocplaaDoorClosedG
import Derived.Test.YtahkkelahocplaaDoorCards
import Derived.Test.YtahkkelahocplaaDoorTie
import Derived.SevenTiedAt
import Derived.Shelf.Vars
namespace Go.Proofs.YtahkkelahocplaaDoor
open Go.RowKit

theorem maxIn_of_shape {W : World} (h : W.ShapedOpen Tryd.prog) : MaxIn W :=
  cell_of_shapedOpen_int (zero := #[.int .i64 0]) (t := 3) h (of_decide_eq_true (by kernel_rfl)) (by kernel_rfl) rfl (by kernel_rfl) (by kernel_rfl) Tryd.underlying3

end Go.Proofs.YtahkkelahocplaaDoor

namespace Go.Proofs.YtahkkelahocplaaDoor
open Go.RowKit Go.ChangeShapes Go.WideShapes Go.ChangeAt
open Go.ChangeMaps (open_string)

set_option maxRecDepth 100000 in
set_option maxHeartbeats 1000000 in
theorem exactRuleGet_lifted (os : Os) (started : os.Started) (H : Type) (enc : TypeId × Value → H) :
    ReturnsInHanded {} Tryd.checked os 5 .any (fun w args => (Rows.fnExactRuleGetSpec.pre enc Tryd.prog Tryd.f5 [] false w args ∧ laidMetH Tryd.prog laidG w) ∧ sizedMet enc Tryd.prog Tryd.f5 (OpenSpec.ofChange Rows.fnExactRuleGetSpec) false w args)
      (Rows.fnExactRuleGetSpec.post enc Tryd.prog Tryd.f5 false true false false) := by
  refine handed_shaped (C := Tryd.checked) (X := fun w => laidMetH Tryd.prog laidG w) Tryd.own started (by kernel_rfl) Tryd.func5
    (World.laidAll Tryd.prog os laidG) #[.string ByteArray.empty] (World.laidAll_os _ _ _) (laidG_shaped os) (by kernel_rfl) (by kernel_rfl) (by kernel_rfl) (laidG_met os _) ?_
  intro W args ds gs before hval0 hW hS
  have hval : ∀ (j : Nat) t v, Tryd.f5.params[j]? = some t → args[j]? = some v → Value.okWide Tryd.prog W .any W.heap.size t v := hval0
  have hW' := hW
  have hlt : ∀ x ∈ before, x.block < W.heap.size := fun x hx => hW.lt x hx
  obtain ⟨p, q, hA0, hV, hpq, hfz, hnd⟩ := hW
  have hA : DataW.TrodAll enc Tryd.prog W 0 (fun _ => true) true Tryd.f5.params.toList args.toList ds p := hA0
  rw [Tryd.params5] at hA hval
  obtain ⟨v0, d0, hargs, rfl, h0⟩ := trodAll_one hA
  obtain ⟨rfl, rfl⟩ := trodVars_none hV
  simp only [List.append_nil] at hpq
  subst hpq
  have hh0 := Lib.hid h0
  have hk := maxIn_of_shape hS
  obtain ⟨s, rfl, rfl, rfl, ws⟩ := open_string Tryd.underlying9 (hval 0 9 v0 rfl (by rw [hargs]; rfl)) h0
  subst hargs
  clear hA0 hval0
  refine (exactRuleGet_any s W hk).mono fun e W' ⟨he, hb⟩ => ?_
  subst he
  exact ⟨_, rfl, post_true (pv := []) hW' (trodAll_mk1 (shut_bool Tryd.underlying4 true)) (trodAll_mk1 (Below.trod Tryd.laidOut (by kernel_rfl) (of_decide_eq_true (by kernel_rfl)) hh0.out hb hlt)) rfl hb⟩

theorem exactRuleGet_in : (Rows.fnExactRuleGetRow.inPlace == Tryd.prog.inPlace 5) = true := by kernel_rfl
theorem exactRuleGet_un : (Rows.fnExactRuleGetRow.unfollowed == Tryd.prog.unfollowed 5) = true := by kernel_rfl
theorem exactRuleGet_rec : (Rows.fnExactRuleGetRow.recurses == Tryd.prog.recurses 5) = true := by kernel_rfl
theorem exactRuleGet_nam : (Rows.fnExactRuleGetRow.named == Tryd.prog.varsNamed 5) = true := by kernel_rfl
theorem exactRuleGet_goes : false = Rows.fnExactRuleGetRow.goesBy Tryd.prog := by kernel_rfl
theorem exactRuleGet_named : Tryd.pinned.checked.prog.funcNamed Rows.fnExactRuleGetRow.func = some 5 := by kernel_rfl
theorem exactRuleGet_joined : joinedFacts Tryd.prog 5 Tryd.f5 Rows.fnExactRuleGetSpec Rows.fnExactRuleGetRow = true :=
  joined_of (by kernel_rfl) Tryd.laidOut Tryd.c_rowed (by kernel_rfl) exactRuleGet_in exactRuleGet_un exactRuleGet_rec exactRuleGet_nam (by kernel_rfl) Tryd.c_keys rfl Tryd.c_heard Tryd.c_enter Tryd.c_lifted (by kernel_rfl)

theorem exactRuleGet_row : Rows.FnExactRuleGetSaid :=
  OpenClaim.holds_of_wide 5 Tryd.f5 rfl rfl rfl rfl rfl rfl rfl ⟨rfl, rfl, rfl, rfl, rfl⟩ rfl rfl rfl rfl rfl exactRuleGet_named Tryd.func5 exactRuleGet_joined
    (of_decide_eq_true (by kernel_rfl)) (by unfold Func.isWrapper; rw [if_neg (of_decide_eq_false (by kernel_rfl))]; exact ⟨rfl, rfl⟩)
    (fun os started H enc _ => exactRuleGet_lifted os started H enc)

theorem exactRuleGet_holds : Rows.FnExactRuleGetCardSaid :=
  Claim7.holds_tied_plain_at .later [] [.data, .pinned] true _ true
    exactRuleGet_row (fun _ h => by cases h) (by kernel_rfl) (fun _ h => by cases h) fnExactRuleGet_row_tie rfl ⟨rfl, rfl⟩ Tryd.c_main rfl
    (fun f fn hf hfn => by
      obtain rfl : f = 5 := Option.some.inj (exactRuleGet_named.symm.trans hf) |>.symm
      obtain rfl : fn = Tryd.f5 := (Option.some.inj (Tryd.func5.symm.trans hfn)).symm
      exact ⟨Tryd.c_looks, fun j t ht => by
        rw [Tryd.params5] at ht
        have h3 : t = 9 := by
          rcases j with _ | j
          · simpa using ht.symm
          · simp at ht
        subst h3
        exact (show Tryd.prog.wantsStandIn 9 = false by kernel_rfl)⟩)
    exactRuleGet_goes

end Go.Proofs.YtahkkelahocplaaDoor
