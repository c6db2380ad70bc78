/-
  The exact law of AtomGet, proved: at every text the program tells its model's atom, in memory of its own.
-/
import Derived.Test.YtahkkelahocplaaDoorExactAtomGet
import Derived.Test.YtahkkelahocplaaDoorClosedG
import Derived.Test.YtahkkelahocplaaDoorCards
import Derived.Test.YtahkkelahocplaaDoorTie
import Derived.SevenTiedAt
import Derived.Shelf.Vars
namespace Go.Proofs.YtahkkelahocplaaDoor
open Go.RowKit

theorem maxIn_of_shape {W : World} (h : W.ShapedOpen Tryd.prog) : MaxIn W :=
  cell_of_shapedOpen_int (zero := #[.int .i64 0]) (t := 3) h (of_decide_eq_true (by kernel_rfl)) (by kernel_rfl) rfl (by kernel_rfl) (by kernel_rfl) Tryd.underlying3

end Go.Proofs.YtahkkelahocplaaDoor

namespace Go.Proofs.YtahkkelahocplaaDoor
open Go.RowKit Go.ChangeShapes Go.WideShapes Go.ChangeAt
open Go.ChangeMaps (open_string)

set_option maxRecDepth 100000 in
set_option maxHeartbeats 1000000 in
theorem exactAtomGet_lifted (os : Os) (started : os.Started) (H : Type) (enc : TypeId × Value → H) :
    ReturnsInHanded {} Tryd.checked os 3 .any (fun w args => (Rows.fnExactAtomGetSpec.pre enc Tryd.prog Tryd.f3 [] false w args ∧ laidMetH Tryd.prog laidG w) ∧ sizedMet enc Tryd.prog Tryd.f3 (OpenSpec.ofChange Rows.fnExactAtomGetSpec) false w args)
      (Rows.fnExactAtomGetSpec.post enc Tryd.prog Tryd.f3 false true false false) := by
  refine handed_shaped (C := Tryd.checked) (X := fun w => laidMetH Tryd.prog laidG w) Tryd.own started (by kernel_rfl) Tryd.func3
    (World.laidAll Tryd.prog os laidG) #[.string ByteArray.empty] (World.laidAll_os _ _ _) (laidG_shaped os) (by kernel_rfl) (by kernel_rfl) (by kernel_rfl) (laidG_met os _) ?_
  intro W args ds gs before hval0 hW hS
  have hval : ∀ (j : Nat) t v, Tryd.f3.params[j]? = some t → args[j]? = some v → Value.okWide Tryd.prog W .any W.heap.size t v := hval0
  have hW' := hW
  have hlt : ∀ x ∈ before, x.block < W.heap.size := fun x hx => hW.lt x hx
  obtain ⟨p, q, hA0, hV, hpq, hfz, hnd⟩ := hW
  have hA : DataW.TrodAll enc Tryd.prog W 0 (fun _ => true) true Tryd.f3.params.toList args.toList ds p := hA0
  rw [Tryd.params3] at hA hval
  obtain ⟨v0, d0, hargs, rfl, h0⟩ := trodAll_one hA
  obtain ⟨rfl, rfl⟩ := trodVars_none hV
  simp only [List.append_nil] at hpq
  subst hpq
  have hh0 := Lib.hid h0
  have hk := maxIn_of_shape hS
  obtain ⟨s, rfl, rfl, rfl, ws⟩ := open_string Tryd.underlying9 (hval 0 9 v0 rfl (by rw [hargs]; rfl)) h0
  subst hargs
  clear hA0 hval0
  refine (exactAtomGet_any s W hk).mono fun e W' ⟨he, hb⟩ => ?_
  subst he
  exact ⟨_, rfl, post_true (pv := []) hW' (trodAll_mk1 (shut_bool Tryd.underlying4 true)) (trodAll_mk1 (Below.trod Tryd.laidOut (by kernel_rfl) (of_decide_eq_true (by kernel_rfl)) hh0.out hb hlt)) rfl hb⟩

theorem exactAtomGet_in : (Rows.fnExactAtomGetRow.inPlace == Tryd.prog.inPlace 3) = true := by kernel_rfl
theorem exactAtomGet_un : (Rows.fnExactAtomGetRow.unfollowed == Tryd.prog.unfollowed 3) = true := by kernel_rfl
theorem exactAtomGet_rec : (Rows.fnExactAtomGetRow.recurses == Tryd.prog.recurses 3) = true := by kernel_rfl
theorem exactAtomGet_nam : (Rows.fnExactAtomGetRow.named == Tryd.prog.varsNamed 3) = true := by kernel_rfl
theorem exactAtomGet_goes : false = Rows.fnExactAtomGetRow.goesBy Tryd.prog := by kernel_rfl
theorem exactAtomGet_named : Tryd.pinned.checked.prog.funcNamed Rows.fnExactAtomGetRow.func = some 3 := by kernel_rfl
theorem exactAtomGet_joined : joinedFacts Tryd.prog 3 Tryd.f3 Rows.fnExactAtomGetSpec Rows.fnExactAtomGetRow = true :=
  joined_of (by kernel_rfl) Tryd.laidOut Tryd.c_rowed (by kernel_rfl) exactAtomGet_in exactAtomGet_un exactAtomGet_rec exactAtomGet_nam (by kernel_rfl) Tryd.c_keys rfl Tryd.c_heard Tryd.c_enter Tryd.c_lifted (by kernel_rfl)

theorem exactAtomGet_row : Rows.FnExactAtomGetSaid :=
  OpenClaim.holds_of_wide 3 Tryd.f3 rfl rfl rfl rfl rfl rfl rfl ⟨rfl, rfl, rfl, rfl, rfl⟩ rfl rfl rfl rfl rfl exactAtomGet_named Tryd.func3 exactAtomGet_joined
    (of_decide_eq_true (by kernel_rfl)) (by unfold Func.isWrapper; rw [if_neg (of_decide_eq_false (by kernel_rfl))]; exact ⟨rfl, rfl⟩)
    (fun os started H enc _ => exactAtomGet_lifted os started H enc)

theorem exactAtomGet_holds : Rows.FnExactAtomGetCardSaid :=
  Claim7.holds_tied_plain_at .later [] [.data, .pinned] true _ true
    exactAtomGet_row (fun _ h => by cases h) (by kernel_rfl) (fun _ h => by cases h) fnExactAtomGet_row_tie rfl ⟨rfl, rfl⟩ Tryd.c_main rfl
    (fun f fn hf hfn => by
      obtain rfl : f = 3 := Option.some.inj (exactAtomGet_named.symm.trans hf) |>.symm
      obtain rfl : fn = Tryd.f3 := (Option.some.inj (Tryd.func3.symm.trans hfn)).symm
      exact ⟨Tryd.c_looks, fun j t ht => by
        rw [Tryd.params3] at ht
        have h3 : t = 9 := by
          rcases j with _ | j
          · simpa using ht.symm
          · simp at ht
        subst h3
        exact (show Tryd.prog.wantsStandIn 9 = false by kernel_rfl)⟩)
    exactAtomGet_goes

end Go.Proofs.YtahkkelahocplaaDoor
