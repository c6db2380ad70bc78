/-
  The exact law of ProofPut, proved: of every proof that can be read the program puts its model's text, and the proof is as it was. Its conditions: what its row lists is laid.
-/
import Derived.Test.YtiekfjlhioekcaaDoorExactProofPut
import Derived.Test.YtiekfjlhioekcaaDoorOpenT
import Derived.Test.YtiekfjlhioekcaaDoorOpen
import Derived.Test.YtiekfjlhioekcaaDoorClosedP
import Derived.Test.YtiekfjlhioekcaaDoorCards
import Derived.Test.YtiekfjlhioekcaaDoorTie
import Derived.SevenTiedAt
import Derived.LaidSub
import Derived.MakeChecks
import Derived.Lib.LaidTab
import Derived.LaidMore
namespace Go.Proofs.YtiekfjlhioekcaaDoor
open Go.RowKit

/-- A table of numbers, as the program names it. -/
def tabB (P : Program) (nm : String) : Bool :=
  match P.globalNamed nm with
  | none => false
  | some g => match (P.globals[g]?).map (·.type) with
    | none => false
    | some t => match P.underlying t with
      | some (.array n e) => (match P.underlying e with | some (.int .u64) => true | _ => false) && decide (P.cellsOf e = 1) && decide (P.cellsOf t = n)
      | _ => false

theorem tab_of {P : Program} {W : World} {nm : String} {zs : List Int} (hb : tabB P nm = true) (h : laidMet P [(nm, Lib.tabData .u64 zs)] W) : Lib.TabIs P W nm .u64 zs := by
  unfold tabB at hb
  split at hb
  · cases hb
  · rename_i g hg
    split at hb
    · cases hb
    · rename_i t ht
      split at hb
      · rename_i n e hu
        simp only [Bool.and_eq_true, decide_eq_true_eq] at hb
        obtain ⟨⟨h1, h2⟩, h3⟩ := hb
        split at h1
        · rename_i hi
          exact Lib.tabIs_of_head hg ht hu hi h2 h3 h
        · cases h1
      · cases hb

abbrev laidT : List (String × DataW Unit) := [("math/bits.deBruijn32tab", Rows.laid_math_bits_deBruijn32tab), ("math/bits.deBruijn64tab", Rows.laid_math_bits_deBruijn64tab), ("internal/strconv.uint64pow10", Rows.laid_internal_strconv_uint64pow10)]

theorem laidT_plain : (laidT.all fun x => x.2.handleName?.isNone) = true := by kernel_rfl
theorem laidT_pow : laidT.filter (fun x => x.1 == "internal/strconv.uint64pow10") = [("internal/strconv.uint64pow10", Lib.tabData .u64 Lib.pow10Tab)] := by rfl
theorem Tryd.tabPow : tabB Tryd.prog "internal/strconv.uint64pow10" = true := by kernel_rfl

theorem pow_of_laid {W : World} (h : laidMetH Tryd.prog laidT W) : PowTab W := by
  rw [Go.MakeChecks.laidMetH_plain _ _ _ laidT_plain] at h
  have h2 := h.filter (fun x => x.1 == "internal/strconv.uint64pow10")
  rw [laidT_pow] at h2
  exact tab_of Tryd.tabPow h2

theorem tab_met (os : Os) (args : Array Value) : laidMetH Tryd.prog laidT ((World.doorLaid Tryd.prog 400 os).forCall (fun _ _ => 0) ⟨#[], args, []⟩).memory := by
  rw [Go.MakeChecks.laidMetH_plain _ _ _ laidT_plain]
  exact laidMet_of_run' 80 (by kernel_rfl) (by kernel_rfl)

end Go.Proofs.YtiekfjlhioekcaaDoor

namespace Go.Proofs.YtiekfjlhioekcaaDoor
open Go.RowKit Go.ChangeShapes Go.WideShapes Go.ChangeAt
open Go.ChangeMaps (open_string)

set_option maxRecDepth 100000 in
set_option maxHeartbeats 1000000 in
theorem exactProofPut_lifted (os : Os) (started : os.Started) (H : Type) (enc : TypeId × Value → H) :
    ReturnsInHanded {} Tryd.checked os 3 .any (fun w args => (Rows.fnExactProofPutSpec.pre enc Tryd.prog Tryd.f3 [] false w args ∧ laidMetH Tryd.prog laidT w) ∧ sizedMet enc Tryd.prog Tryd.f3 (OpenSpec.ofChange Rows.fnExactProofPutSpec) false w args)
      (Rows.fnExactProofPutSpec.post enc Tryd.prog Tryd.f3 false true false false) := by
  refine returnsInHanded_of_change_and (C := Tryd.checked) (X := fun w _ => laidMetH Tryd.prog laidT w) (fun _ _ _ hh h => h.of_heap hh) Tryd.own started (by kernel_rfl) Tryd.func3
    (ChangeSpec.witness_shaped (enc := enc) (C := Tryd.checked) (os := os) (X := fun w _ => laidMetH Tryd.prog laidT w) false (World.doorLaid Tryd.prog 400 os) #[.agg #[.string ByteArray.empty, .slice none 0 0, .int .i64 0, .slice none 0 0]] 8 rfl (World.shaped_of_RefB (by kernel_rfl) (by kernel_rfl)) (by kernel_rfl) (by kernel_rfl) (by kernel_rfl) (tab_met os _)) ?_
  intro W base args ds gs before hval0 hW _ _ hL _
  have hval : ∀ (j : Nat) t v, Tryd.f3.params[j]? = some t → args[j]? = some v → Value.okWide Tryd.prog W .any base t v := hval0
  have hW' := hW
  have hlt : ∀ x ∈ before, x.block < W.heap.size := fun x hx => hW.lt x hx
  obtain ⟨p, q, hA0, hV, hpq, hfz, hnd⟩ := hW
  have hA : DataW.TrodAll enc Tryd.prog W 0 (fun _ => true) true Tryd.f3.params.toList args.toList ds p := hA0
  rw [Tryd.params3] at hA hval
  obtain ⟨v0, d0, hargs, rfl, h0⟩ := trodAll_one hA
  obtain ⟨rfl, rfl⟩ := trodVars_none hV
  simp only [List.append_nil] at hpq
  subst hpq
  have hh0 := Lib.hid h0
  have hk := pow_of_laid hL
  obtain ⟨N0, t0, A0, n0, c0, B0, m0, e0, rfl, ws0, wt0, wr0⟩ := open_proof (hval 0 27 v0 rfl (by rw [hargs]; rfl)) h0
  subst hargs
  clear hA0 hval0
  refine (exactProofPut_any N0 A0 n0 c0 B0 m0 e0 t0 W ws0 wt0 wr0 hk).mono fun e W' ⟨he, hb⟩ => ?_
  subst he
  exact ⟨_, rfl, post_true (pv := []) hW' (trodAll_mk1 (shut_bool Tryd.underlying4 true)) (trodAll_mk1 (Below.trod Tryd.laidOut (by kernel_rfl) (of_decide_eq_true (by kernel_rfl)) hh0.out hb hlt)) rfl hb⟩

theorem exactProofPut_in : (Rows.fnExactProofPutRow.inPlace == Tryd.prog.inPlace 3) = true := by kernel_rfl
theorem exactProofPut_un : (Rows.fnExactProofPutRow.unfollowed == Tryd.prog.unfollowed 3) = true := by kernel_rfl
theorem exactProofPut_rec : (Rows.fnExactProofPutRow.recurses == Tryd.prog.recurses 3) = true := by kernel_rfl
theorem exactProofPut_nam : (Rows.fnExactProofPutRow.named == Tryd.prog.varsNamed 3) = true := by kernel_rfl
theorem exactProofPut_goes : false = Rows.fnExactProofPutRow.goesBy Tryd.prog := by kernel_rfl
theorem exactProofPut_named : Tryd.pinned.checked.prog.funcNamed Rows.fnExactProofPutRow.func = some 3 := by kernel_rfl
theorem exactProofPut_joined : joinedFacts Tryd.prog 3 Tryd.f3 Rows.fnExactProofPutSpec Rows.fnExactProofPutRow = true :=
  joined_of (by kernel_rfl) Tryd.laidOut Tryd.c_rowed (by kernel_rfl) exactProofPut_in exactProofPut_un exactProofPut_rec exactProofPut_nam (by kernel_rfl) Tryd.c_keys rfl Tryd.c_heard Tryd.c_enter Tryd.c_lifted (by kernel_rfl)

theorem exactProofPut_row : Rows.FnExactProofPutSaid :=
  OpenClaim.holds_of_wide 3 Tryd.f3 rfl rfl rfl rfl rfl rfl rfl ⟨rfl, rfl, rfl, rfl, rfl⟩ rfl rfl rfl rfl rfl exactProofPut_named Tryd.func3 exactProofPut_joined
    (of_decide_eq_true (by kernel_rfl)) (by unfold Func.isWrapper; rw [if_neg (of_decide_eq_false (by kernel_rfl))]; exact ⟨rfl, rfl⟩)
    (fun os started H enc _ => exactProofPut_lifted os started H enc)

theorem exactProofPut_holds : Rows.FnExactProofPutCardSaid :=
  Claim7.holds_tied_plain_at .later [] [.data, .data, .data] true _ false
    exactProofPut_row (fun _ h => by cases h) (by kernel_rfl) (fun _ h => by cases h) fnExactProofPut_row_tie rfl ⟨rfl, rfl⟩ Tryd.c_main rfl
    (fun f fn hf hfn => by
      obtain rfl : f = 3 := Option.some.inj (exactProofPut_named.symm.trans hf) |>.symm
      obtain rfl : fn = Tryd.f3 := (Option.some.inj (Tryd.func3.symm.trans hfn)).symm
      exact ⟨Tryd.c_looks, fun j t ht => by
        rw [Tryd.params3] at ht
        have h3 : t = 27 := by
          rcases j with _ | j
          · simpa using ht.symm
          · simp at ht
        subst h3
        exact (show Tryd.prog.wantsStandIn 27 = false by kernel_rfl)⟩)
    exactProofPut_goes

end Go.Proofs.YtiekfjlhioekcaaDoor

