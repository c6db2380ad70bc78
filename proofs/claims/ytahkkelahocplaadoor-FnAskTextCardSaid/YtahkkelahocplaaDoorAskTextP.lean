/-
  The law of AskText, proved: for every two codes, what is asked that is drawn is read back from its text, and of a text that is drawn the program reads what its model reads.
-/
import Derived.Test.YtahkkelahocplaaDoorAskTextAll
import Derived.Test.YtahkkelahocplaaDoorClosedG
import Derived.Test.YtahkkelahocplaaDoorCards
import Derived.Test.YtahkkelahocplaaDoorTie
import Derived.SevenTiedAt
import Derived.Test.YtahkkelahocplaaDoorOpenB
import Derived.Shelf.Vars
namespace Go.Proofs.YtahkkelahocplaaDoor
open Go.RowKit

theorem maxIn_of_shape {W : World} (h : W.ShapedOpen Tryd.prog) : MaxIn W :=
  cell_of_shapedOpen_int (zero := #[.int .i64 0]) (t := 3) h (of_decide_eq_true (by kernel_rfl)) (by kernel_rfl) rfl (by kernel_rfl) (by kernel_rfl) Tryd.underlying3

theorem laidG_shaped2 (os : Os) : ((World.laidAll Tryd.prog os laidG).forCall (fun _ _ => 0) ⟨#[], #[.slice none 0 0, .slice none 0 0], []⟩).Shaped Tryd.prog := World.shaped_of_ZipB (by kernel_rfl) (by kernel_rfl)

end Go.Proofs.YtahkkelahocplaaDoor

namespace Go.Proofs.YtahkkelahocplaaDoor
open Go.RowKit Go.ChangeShapes Go.WideShapes Go.ChangeAt

set_option maxRecDepth 100000 in
set_option maxHeartbeats 1000000 in
theorem askText_lifted (os : Os) (started : os.Started) (H : Type) (enc : TypeId × Value → H) :
    ReturnsInHanded {} Tryd.checked os 8 .any (fun w args => (Rows.fnAskTextSpec.pre enc Tryd.prog Tryd.f8 [] false w args ∧ laidMetH Tryd.prog laidG w) ∧ sizedMet enc Tryd.prog Tryd.f8 (OpenSpec.ofChange Rows.fnAskTextSpec) false w args)
      (Rows.fnAskTextSpec.post enc Tryd.prog Tryd.f8 false true false false) := by
  refine handed_shaped (C := Tryd.checked) (X := fun w => laidMetH Tryd.prog laidG w) Tryd.own started (by kernel_rfl) Tryd.func8
    (World.laidAll Tryd.prog os laidG) #[.slice none 0 0, .slice none 0 0] (World.laidAll_os _ _ _) (laidG_shaped2 os) (by kernel_rfl) (by kernel_rfl) (by kernel_rfl) (laidG_met os _) ?_
  intro W args ds gs before hval0 hW hS
  have hval : ∀ (j : Nat) t v, Tryd.f8.params[j]? = some t → args[j]? = some v → Value.okWide Tryd.prog W .any W.heap.size t v := hval0
  have hW' := hW
  have hlt : ∀ x ∈ before, x.block < W.heap.size := fun x hx => hW.lt x hx
  obtain ⟨p, q, hA0, hV, hpq, hfz, hnd⟩ := hW
  have hA : DataW.TrodAll enc Tryd.prog W 0 (fun _ => true) true Tryd.f8.params.toList args.toList ds p := hA0
  rw [Tryd.params8] at hA hval
  obtain ⟨v0, v1, d0, d1, p0, p1, hargs, rfl, rfl, h0, h1⟩ := trodAll_two hA
  obtain ⟨rfl, rfl⟩ := trodVars_none hV
  simp only [List.append_nil] at hpq
  subst hpq
  have hh0 := Lib.hid h0
  have hh1 := Lib.hid h1
  have hk := maxIn_of_shape hS
  obtain ⟨A0, n0, c0, rfl, wt0⟩ := open_bytes (hval 0 30 v0 rfl (by rw [hargs]; rfl)) h0
  obtain ⟨A1, n1, c1, rfl, wt1⟩ := open_bytes (hval 1 30 v1 rfl (by rw [hargs]; rfl)) h1
  subst hargs
  clear hA0 hval0
  refine (askText_law A0 n0 c0 A1 n1 c1 W wt0 wt1 hk).mono fun e W' ⟨he, hb⟩ => ?_
  subst he
  exact ⟨_, rfl, post_true (pv := []) hW' (trodAll_mk1 (shut_bool Tryd.underlying4 true)) (trodAll_mk2 (Below.trod Tryd.laidOut (by kernel_rfl) (of_decide_eq_true (by kernel_rfl)) hh0.out hb (fun x hx => hlt x (by simp [hx]))) (Below.trod Tryd.laidOut (by kernel_rfl) (of_decide_eq_true (by kernel_rfl)) hh1.out hb (fun x hx => hlt x (by simp [hx])))) rfl hb⟩

theorem askText_in : (Rows.fnAskTextRow.inPlace == Tryd.prog.inPlace 8) = true := by kernel_rfl
theorem askText_un : (Rows.fnAskTextRow.unfollowed == Tryd.prog.unfollowed 8) = true := by kernel_rfl
theorem askText_rec : (Rows.fnAskTextRow.recurses == Tryd.prog.recurses 8) = true := by kernel_rfl
theorem askText_nam : (Rows.fnAskTextRow.named == Tryd.prog.varsNamed 8) = true := by kernel_rfl
theorem askText_goes : false = Rows.fnAskTextRow.goesBy Tryd.prog := by kernel_rfl
theorem askText_named : Tryd.pinned.checked.prog.funcNamed Rows.fnAskTextRow.func = some 8 := by kernel_rfl
theorem askText_joined : joinedFacts Tryd.prog 8 Tryd.f8 Rows.fnAskTextSpec Rows.fnAskTextRow = true :=
  joined_of (by kernel_rfl) Tryd.laidOut Tryd.c_rowed (by kernel_rfl) askText_in askText_un askText_rec askText_nam (by kernel_rfl) Tryd.c_keys rfl Tryd.c_heard Tryd.c_enter Tryd.c_lifted (by kernel_rfl)

theorem askText_row : Rows.FnAskTextSaid :=
  OpenClaim.holds_of_wide 8 Tryd.f8 rfl rfl rfl rfl rfl rfl rfl ⟨rfl, rfl, rfl, rfl, rfl⟩ rfl rfl rfl rfl rfl askText_named Tryd.func8 askText_joined
    (of_decide_eq_true (by kernel_rfl)) (by unfold Func.isWrapper; rw [if_neg (of_decide_eq_false (by kernel_rfl))]; exact ⟨rfl, rfl⟩)
    (fun os started H enc _ => askText_lifted os started H enc)

theorem askText_holds : Rows.FnAskTextCardSaid :=
  Claim7.holds_tied_plain_at .later [] [.data, .pinned] true _ true
    askText_row (fun _ h => by cases h) (by kernel_rfl) (fun _ h => by cases h) fnAskText_row_tie rfl ⟨rfl, rfl⟩ Tryd.c_main rfl
    (fun f fn hf hfn => by
      obtain rfl : f = 8 := Option.some.inj (askText_named.symm.trans hf) |>.symm
      obtain rfl : fn = Tryd.f8 := (Option.some.inj (Tryd.func8.symm.trans hfn)).symm
      exact ⟨Tryd.c_looks, fun j t ht => by
        rw [Tryd.params8] at ht
        have h3 : t = 30 := by
          rcases j with _ | _ | j
          · simpa using ht.symm
          · simpa using ht.symm
          · simp at ht
        subst h3
        exact (show Tryd.prog.wantsStandIn 30 = false by kernel_rfl)⟩)
    askText_goes

end Go.Proofs.YtahkkelahocplaaDoor
