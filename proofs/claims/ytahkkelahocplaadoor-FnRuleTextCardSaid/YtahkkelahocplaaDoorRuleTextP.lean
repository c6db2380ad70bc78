/-
  The law of RuleText, proved: for every two codes, a rule that is drawn is read back from its text, and of a text that is drawn the program reads what its model reads.
-/
import Derived.Test.YtahkkelahocplaaDoorRuleTextAll
import Derived.Test.YtahkkelahocplaaDoorClosedG
import Derived.Test.YtahkkelahocplaaDoorCards
import Derived.Test.YtahkkelahocplaaDoorTie
import Derived.SevenTiedAt
import Derived.Test.YtahkkelahocplaaDoorOpenB
import Derived.Shelf.Vars
namespace Go.Proofs.YtahkkelahocplaaDoor
open Go.RowKit

theorem maxIn_of_shape {W : World} (h : W.ShapedOpen Tryd.prog) : MaxIn W :=
  cell_of_shapedOpen_int (zero := #[.int .i64 0]) (t := 3) h (of_decide_eq_true (by kernel_rfl)) (by kernel_rfl) rfl (by kernel_rfl) (by kernel_rfl) Tryd.underlying3

theorem laidG_shaped2 (os : Os) : ((World.laidAll Tryd.prog os laidG).forCall (fun _ _ => 0) ⟨#[], #[.slice none 0 0, .slice none 0 0], []⟩).Shaped Tryd.prog := World.shaped_of_ZipB (by kernel_rfl) (by kernel_rfl)

end Go.Proofs.YtahkkelahocplaaDoor

namespace Go.Proofs.YtahkkelahocplaaDoor
open Go.RowKit Go.ChangeShapes Go.WideShapes Go.ChangeAt

set_option maxRecDepth 100000 in
set_option maxHeartbeats 1000000 in
theorem ruleText_lifted (os : Os) (started : os.Started) (H : Type) (enc : TypeId × Value → H) :
    ReturnsInHanded {} Tryd.checked os 6 .any (fun w args => (Rows.fnRuleTextSpec.pre enc Tryd.prog Tryd.f6 [] false w args ∧ laidMetH Tryd.prog laidG w) ∧ sizedMet enc Tryd.prog Tryd.f6 (OpenSpec.ofChange Rows.fnRuleTextSpec) false w args)
      (Rows.fnRuleTextSpec.post enc Tryd.prog Tryd.f6 false true false false) := by
  refine handed_shaped (C := Tryd.checked) (X := fun w => laidMetH Tryd.prog laidG w) Tryd.own started (by kernel_rfl) Tryd.func6
    (World.laidAll Tryd.prog os laidG) #[.slice none 0 0, .slice none 0 0] (World.laidAll_os _ _ _) (laidG_shaped2 os) (by kernel_rfl) (by kernel_rfl) (by kernel_rfl) (laidG_met os _) ?_
  intro W args ds gs before hval0 hW hS
  have hval : ∀ (j : Nat) t v, Tryd.f6.params[j]? = some t → args[j]? = some v → Value.okWide Tryd.prog W .any W.heap.size t v := hval0
  have hW' := hW
  have hlt : ∀ x ∈ before, x.block < W.heap.size := fun x hx => hW.lt x hx
  obtain ⟨p, q, hA0, hV, hpq, hfz, hnd⟩ := hW
  have hA : DataW.TrodAll enc Tryd.prog W 0 (fun _ => true) true Tryd.f6.params.toList args.toList ds p := hA0
  rw [Tryd.params6] at hA hval
  obtain ⟨v0, v1, d0, d1, p0, p1, hargs, rfl, rfl, h0, h1⟩ := trodAll_two hA
  obtain ⟨rfl, rfl⟩ := trodVars_none hV
  simp only [List.append_nil] at hpq
  subst hpq
  have hh0 := Lib.hid h0
  have hh1 := Lib.hid h1
  have hk := maxIn_of_shape hS
  obtain ⟨A0, n0, c0, rfl, wt0⟩ := open_bytes (hval 0 30 v0 rfl (by rw [hargs]; rfl)) h0
  obtain ⟨A1, n1, c1, rfl, wt1⟩ := open_bytes (hval 1 30 v1 rfl (by rw [hargs]; rfl)) h1
  subst hargs
  clear hA0 hval0
  refine (ruleText_law A0 n0 c0 A1 n1 c1 W wt0 wt1 hk).mono fun e W' ⟨he, hb⟩ => ?_
  subst he
  exact ⟨_, rfl, post_true (pv := []) hW' (trodAll_mk1 (shut_bool Tryd.underlying4 true)) (trodAll_mk2 (Below.trod Tryd.laidOut (by kernel_rfl) (of_decide_eq_true (by kernel_rfl)) hh0.out hb (fun x hx => hlt x (by simp [hx]))) (Below.trod Tryd.laidOut (by kernel_rfl) (of_decide_eq_true (by kernel_rfl)) hh1.out hb (fun x hx => hlt x (by simp [hx])))) rfl hb⟩

theorem ruleText_in : (Rows.fnRuleTextRow.inPlace == Tryd.prog.inPlace 6) = true := by kernel_rfl
theorem ruleText_un : (Rows.fnRuleTextRow.unfollowed == Tryd.prog.unfollowed 6) = true := by kernel_rfl
theorem ruleText_rec : (Rows.fnRuleTextRow.recurses == Tryd.prog.recurses 6) = true := by kernel_rfl
theorem ruleText_nam : (Rows.fnRuleTextRow.named == Tryd.prog.varsNamed 6) = true := by kernel_rfl
theorem ruleText_goes : false = Rows.fnRuleTextRow.goesBy Tryd.prog := by kernel_rfl
theorem ruleText_named : Tryd.pinned.checked.prog.funcNamed Rows.fnRuleTextRow.func = some 6 := by kernel_rfl
theorem ruleText_joined : joinedFacts Tryd.prog 6 Tryd.f6 Rows.fnRuleTextSpec Rows.fnRuleTextRow = true :=
  joined_of (by kernel_rfl) Tryd.laidOut Tryd.c_rowed (by kernel_rfl) ruleText_in ruleText_un ruleText_rec ruleText_nam (by kernel_rfl) Tryd.c_keys rfl Tryd.c_heard Tryd.c_enter Tryd.c_lifted (by kernel_rfl)

theorem ruleText_row : Rows.FnRuleTextSaid :=
  OpenClaim.holds_of_wide 6 Tryd.f6 rfl rfl rfl rfl rfl rfl rfl ⟨rfl, rfl, rfl, rfl, rfl⟩ rfl rfl rfl rfl rfl ruleText_named Tryd.func6 ruleText_joined
    (of_decide_eq_true (by kernel_rfl)) (by unfold Func.isWrapper; rw [if_neg (of_decide_eq_false (by kernel_rfl))]; exact ⟨rfl, rfl⟩)
    (fun os started H enc _ => ruleText_lifted os started H enc)

theorem ruleText_holds : Rows.FnRuleTextCardSaid :=
  Claim7.holds_tied_plain_at .later [] [.data, .pinned] true _ true
    ruleText_row (fun _ h => by cases h) (by kernel_rfl) (fun _ h => by cases h) fnRuleText_row_tie rfl ⟨rfl, rfl⟩ Tryd.c_main rfl
    (fun f fn hf hfn => by
      obtain rfl : f = 6 := Option.some.inj (ruleText_named.symm.trans hf) |>.symm
      obtain rfl : fn = Tryd.f6 := (Option.some.inj (Tryd.func6.symm.trans hfn)).symm
      exact ⟨Tryd.c_looks, fun j t ht => by
        rw [Tryd.params6] at ht
        have h3 : t = 30 := by
          rcases j with _ | _ | j
          · simpa using ht.symm
          · simpa using ht.symm
          · simp at ht
        subst h3
        exact (show Tryd.prog.wantsStandIn 30 = false by kernel_rfl)⟩)
    ruleText_goes

end Go.Proofs.YtahkkelahocplaaDoor
