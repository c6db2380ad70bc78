/-
  The law of AtomText, proved: for every two codes, an atom that is drawn is read back from its text, and of a text that is drawn the program reads what its model reads.
-/
import Derived.Test.YtahkkelahocplaaDoorAtomTextLaw
import Derived.Test.YtahkkelahocplaaDoorClosedG
import Derived.Test.YtahkkelahocplaaDoorCards
import Derived.Test.YtahkkelahocplaaDoorTie
import Derived.SevenTiedAt
import Derived.Test.YtahkkelahocplaaDoorOpenB
import Derived.Shelf.Vars
namespace Go.Proofs.YtahkkelahocplaaDoor
open Go.RowKit

theorem maxIn_of_shape {W : World} (h : W.ShapedOpen Tryd.prog) : MaxIn W :=
  cell_of_shapedOpen_int (zero := #[.int .i64 0]) (t := 3) h (of_decide_eq_true (by kernel_rfl)) (by kernel_rfl) rfl (by kernel_rfl) (by kernel_rfl) Tryd.underlying3

theorem laidG_shaped2 (os : Os) : ((World.laidAll Tryd.prog os laidG).forCall (fun _ _ => 0) ⟨#[], #[.slice none 0 0, .slice none 0 0], []⟩).Shaped Tryd.prog := World.shaped_of_ZipB (by kernel_rfl) (by kernel_rfl)

end Go.Proofs.YtahkkelahocplaaDoor

namespace Go.Proofs.YtahkkelahocplaaDoor
open Go.RowKit Go.ChangeShapes Go.WideShapes Go.ChangeAt

set_option maxRecDepth 100000 in
set_option maxHeartbeats 1000000 in
theorem atomText_lifted (os : Os) (started : os.Started) (H : Type) (enc : TypeId × Value → H) :
    ReturnsInHanded {} Tryd.checked os 4 .any (fun w args => (Rows.fnAtomTextSpec.pre enc Tryd.prog Tryd.f4 [] false w args ∧ laidMetH Tryd.prog laidG w) ∧ sizedMet enc Tryd.prog Tryd.f4 (OpenSpec.ofChange Rows.fnAtomTextSpec) false w args)
      (Rows.fnAtomTextSpec.post enc Tryd.prog Tryd.f4 false true false false) := by
  refine handed_shaped (C := Tryd.checked) (X := fun w => laidMetH Tryd.prog laidG w) Tryd.own started (by kernel_rfl) Tryd.func4
    (World.laidAll Tryd.prog os laidG) #[.slice none 0 0, .slice none 0 0] (World.laidAll_os _ _ _) (laidG_shaped2 os) (by kernel_rfl) (by kernel_rfl) (by kernel_rfl) (laidG_met os _) ?_
  intro W args ds gs before hval0 hW hS
  have hval : ∀ (j : Nat) t v, Tryd.f4.params[j]? = some t → args[j]? = some v → Value.okWide Tryd.prog W .any W.heap.size t v := hval0
  have hW' := hW
  have hlt : ∀ x ∈ before, x.block < W.heap.size := fun x hx => hW.lt x hx
  obtain ⟨p, q, hA0, hV, hpq, hfz, hnd⟩ := hW
  have hA : DataW.TrodAll enc Tryd.prog W 0 (fun _ => true) true Tryd.f4.params.toList args.toList ds p := hA0
  rw [Tryd.params4] at hA hval
  obtain ⟨v0, v1, d0, d1, p0, p1, hargs, rfl, rfl, h0, h1⟩ := trodAll_two hA
  obtain ⟨rfl, rfl⟩ := trodVars_none hV
  simp only [List.append_nil] at hpq
  subst hpq
  have hh0 := Lib.hid h0
  have hh1 := Lib.hid h1
  have hk := maxIn_of_shape hS
  obtain ⟨A0, n0, c0, rfl, wt0⟩ := open_bytes (hval 0 30 v0 rfl (by rw [hargs]; rfl)) h0
  obtain ⟨A1, n1, c1, rfl, wt1⟩ := open_bytes (hval 1 30 v1 rfl (by rw [hargs]; rfl)) h1
  subst hargs
  clear hA0 hval0
  refine (atomText_law A0 n0 c0 A1 n1 c1 W wt0 wt1 hk).mono fun e W' ⟨he, hb⟩ => ?_
  subst he
  exact ⟨_, rfl, post_true (pv := []) hW' (trodAll_mk1 (shut_bool Tryd.underlying4 true)) (trodAll_mk2 (Below.trod Tryd.laidOut (by kernel_rfl) (of_decide_eq_true (by kernel_rfl)) hh0.out hb (fun x hx => hlt x (by simp [hx]))) (Below.trod Tryd.laidOut (by kernel_rfl) (of_decide_eq_true (by kernel_rfl)) hh1.out hb (fun x hx => hlt x (by simp [hx])))) rfl hb⟩

theorem atomText_in : (Rows.fnAtomTextRow.inPlace == Tryd.prog.inPlace 4) = true := by kernel_rfl
theorem atomText_un : (Rows.fnAtomTextRow.unfollowed == Tryd.prog.unfollowed 4) = true := by kernel_rfl
theorem atomText_rec : (Rows.fnAtomTextRow.recurses == Tryd.prog.recurses 4) = true := by kernel_rfl
theorem atomText_nam : (Rows.fnAtomTextRow.named == Tryd.prog.varsNamed 4) = true := by kernel_rfl
theorem atomText_goes : false = Rows.fnAtomTextRow.goesBy Tryd.prog := by kernel_rfl
theorem atomText_named : Tryd.pinned.checked.prog.funcNamed Rows.fnAtomTextRow.func = some 4 := by kernel_rfl
theorem atomText_joined : joinedFacts Tryd.prog 4 Tryd.f4 Rows.fnAtomTextSpec Rows.fnAtomTextRow = true :=
  joined_of (by kernel_rfl) Tryd.laidOut Tryd.c_rowed (by kernel_rfl) atomText_in atomText_un atomText_rec atomText_nam (by kernel_rfl) Tryd.c_keys rfl Tryd.c_heard Tryd.c_enter Tryd.c_lifted (by kernel_rfl)

theorem atomText_row : Rows.FnAtomTextSaid :=
  OpenClaim.holds_of_wide 4 Tryd.f4 rfl rfl rfl rfl rfl rfl rfl ⟨rfl, rfl, rfl, rfl, rfl⟩ rfl rfl rfl rfl rfl atomText_named Tryd.func4 atomText_joined
    (of_decide_eq_true (by kernel_rfl)) (by unfold Func.isWrapper; rw [if_neg (of_decide_eq_false (by kernel_rfl))]; exact ⟨rfl, rfl⟩)
    (fun os started H enc _ => atomText_lifted os started H enc)

theorem atomText_holds : Rows.FnAtomTextCardSaid :=
  Claim7.holds_tied_plain_at .later [] [.data, .pinned] true _ true
    atomText_row (fun _ h => by cases h) (by kernel_rfl) (fun _ h => by cases h) fnAtomText_row_tie rfl ⟨rfl, rfl⟩ Tryd.c_main rfl
    (fun f fn hf hfn => by
      obtain rfl : f = 4 := Option.some.inj (atomText_named.symm.trans hf) |>.symm
      obtain rfl : fn = Tryd.f4 := (Option.some.inj (Tryd.func4.symm.trans hfn)).symm
      exact ⟨Tryd.c_looks, fun j t ht => by
        rw [Tryd.params4] at ht
        have h3 : t = 30 := by
          rcases j with _ | _ | j
          · simpa using ht.symm
          · simpa using ht.symm
          · simp at ht
        subst h3
        exact (show Tryd.prog.wantsStandIn 30 = false by kernel_rfl)⟩)
    atomText_goes

end Go.Proofs.YtahkkelahocplaaDoor
