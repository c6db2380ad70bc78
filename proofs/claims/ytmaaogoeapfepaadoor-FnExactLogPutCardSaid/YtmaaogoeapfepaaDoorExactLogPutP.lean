/-
  The exact law of LogPut, proved: at every time and every change that can be read, the program tells its model's text; nothing is written into the change.
-/
import Derived.Test.YtmaaogoeapfepaaDoorExactLogPut
import Derived.Test.YtmaaogoeapfepaaDoorOpenC
import Derived.Test.YtmaaogoeapfepaaDoorOpen
import Derived.Test.YtmaaogoeapfepaaDoorClosedL
import Derived.Test.YtmaaogoeapfepaaDoorCards
import Derived.Test.YtmaaogoeapfepaaDoorTie
import Derived.SevenTiedAt
import Derived.LaidSub
import Derived.MakeChecks
import Derived.Lib.LaidTab
import Derived.LaidMore
namespace Go.Proofs.YtmaaogoeapfepaaDoor
open Go.RowKit

/-- A table of numbers, as the program names it. -/
def tabB (P : Program) (nm : String) : Bool :=
  match P.globalNamed nm with
  | none => false
  | some g => match (P.globals[g]?).map (·.type) with
    | none => false
    | some t => match P.underlying t with
      | some (.array n e) => (match P.underlying e with | some (.int .u64) => true | _ => false) && decide (P.cellsOf e = 1) && decide (P.cellsOf t = n)
      | _ => false

theorem tab_of {P : Program} {W : World} {nm : String} {zs : List Int} (hb : tabB P nm = true) (h : laidMet P [(nm, Lib.tabData .u64 zs)] W) : Lib.TabIs P W nm .u64 zs := by
  unfold tabB at hb
  split at hb
  · cases hb
  · rename_i g hg
    split at hb
    · cases hb
    · rename_i t ht
      split at hb
      · rename_i n e hu
        simp only [Bool.and_eq_true, decide_eq_true_eq] at hb
        obtain ⟨⟨h1, h2⟩, h3⟩ := hb
        split at h1
        · rename_i hi
          exact Lib.tabIs_of_head hg ht hu hi h2 h3 h
        · cases h1
      · cases hb

abbrev laidT : List (String × DataW Unit) := [("math/bits.deBruijn32tab", Rows.laid_math_bits_deBruijn32tab), ("math/bits.deBruijn64tab", Rows.laid_math_bits_deBruijn64tab), ("internal/strconv.uint64pow10", Rows.laid_internal_strconv_uint64pow10)]

theorem laidT_plain : (laidT.all fun x => x.2.handleName?.isNone) = true := by kernel_rfl
theorem laidT_pow : laidT.filter (fun x => x.1 == "internal/strconv.uint64pow10") = [("internal/strconv.uint64pow10", Lib.tabData .u64 Lib.pow10Tab)] := by rfl
theorem Tryd.tabPow : tabB Tryd.prog "internal/strconv.uint64pow10" = true := by kernel_rfl

theorem pow_of_laid {W : World} (h : laidMetH Tryd.prog laidT W) : PowTab W := by
  rw [Go.MakeChecks.laidMetH_plain _ _ _ laidT_plain] at h
  have h2 := h.filter (fun x => x.1 == "internal/strconv.uint64pow10")
  rw [laidT_pow] at h2
  exact tab_of Tryd.tabPow h2

theorem tab_met (os : Os) (args : Array Value) : laidMetH Tryd.prog laidT ((World.doorLaid Tryd.prog 400 os).forCall (fun _ _ => 0) ⟨#[], args, []⟩).memory := by
  rw [Go.MakeChecks.laidMetH_plain _ _ _ laidT_plain]
  exact laidMet_of_run' 80 (by kernel_rfl) (by kernel_rfl)

end Go.Proofs.YtmaaogoeapfepaaDoor

namespace Go.Proofs.YtmaaogoeapfepaaDoor
open Go.RowKit Go.ChangeShapes Go.WideShapes Go.ChangeAt
open Go.ChangeMaps (open_string)

set_option maxRecDepth 100000 in
set_option maxHeartbeats 1000000 in
theorem exactLogPut_lifted (os : Os) (started : os.Started) (H : Type) (enc : TypeId × Value → H) :
    ReturnsInHanded {} Tryd.checked os 3 .any (fun w args => (Rows.fnExactLogPutSpec.pre enc Tryd.prog Tryd.f3 [] false w args ∧ laidMetH Tryd.prog laidT w) ∧ sizedMet enc Tryd.prog Tryd.f3 (OpenSpec.ofChange Rows.fnExactLogPutSpec) false w args)
      (Rows.fnExactLogPutSpec.post enc Tryd.prog Tryd.f3 false true false false) := by
  refine returnsInHanded_of_change_and (C := Tryd.checked) (X := fun w _ => laidMetH Tryd.prog laidT w) (fun _ _ _ hh h => h.of_heap hh) Tryd.own started (by kernel_rfl) Tryd.func3
    (ChangeSpec.witness_shaped (enc := enc) (C := Tryd.checked) (os := os) (X := fun w _ => laidMetH Tryd.prog laidT w) false (World.doorLaid Tryd.prog 400 os) #[.int .i64 0, .agg #[.slice none 0 0, .slice none 0 0]] 8 rfl (World.shaped_of_RefB (by kernel_rfl) (by kernel_rfl)) (by kernel_rfl) (by kernel_rfl) (by kernel_rfl) (tab_met os _)) ?_
  intro W base args ds gs before hval0 hW _ _ hL _
  have hval : ∀ (j : Nat) t v, Tryd.f3.params[j]? = some t → args[j]? = some v → Value.okWide Tryd.prog W .any base t v := hval0
  have hW' := hW
  have hlt : ∀ x ∈ before, x.block < W.heap.size := fun x hx => hW.lt x hx
  obtain ⟨p, q, hA0, hV, hpq, hfz, hnd⟩ := hW
  have hA : DataW.TrodAll enc Tryd.prog W 0 (fun _ => true) true Tryd.f3.params.toList args.toList ds p := hA0
  rw [Tryd.params3] at hA hval
  obtain ⟨v0, v1, d0, d1, p0, p1, hargs, rfl, rfl, h0, h1⟩ := trodAll_two hA
  obtain ⟨rfl, rfl⟩ := trodVars_none hV
  simp only [List.append_nil] at hpq
  subst hpq
  have hh0 := Lib.hid h0
  have hh1 := Lib.hid h1
  have hk := pow_of_laid hL
  obtain ⟨t0, rfl, rfl, rfl, _⟩ := open_int Tryd.underlying3 (hval 0 3 v0 rfl (by rw [hargs]; rfl)) h0
  obtain ⟨A1, n1, c1, B1, m1, e1, xs1, ys1, rfl, ws1, wt1⟩ := open_change (hval 1 24 v1 rfl (by rw [hargs]; rfl)) h1
  subst hargs
  clear hA0 hval0
  refine (exactLogPut_any t0 A1 B1 n1 c1 m1 e1 xs1 ys1 W ws1 wt1 hk).mono fun e W' ⟨he, hb⟩ => ?_
  subst he
  exact ⟨_, rfl, post_true (pv := []) hW' (trodAll_mk1 (shut_bool Tryd.underlying4 true)) (trodAll_mk2 (Below.trod Tryd.laidOut (by kernel_rfl) (of_decide_eq_true (by kernel_rfl)) hh0.out hb (fun x hx => by cases hx)) (Below.trod Tryd.laidOut (by kernel_rfl) (of_decide_eq_true (by kernel_rfl)) hh1.out hb (fun x hx => hlt x (by simp [hx])))) rfl hb⟩

theorem exactLogPut_in : (Rows.fnExactLogPutRow.inPlace == Tryd.prog.inPlace 3) = true := by kernel_rfl
theorem exactLogPut_un : (Rows.fnExactLogPutRow.unfollowed == Tryd.prog.unfollowed 3) = true := by kernel_rfl
theorem exactLogPut_rec : (Rows.fnExactLogPutRow.recurses == Tryd.prog.recurses 3) = true := by kernel_rfl
theorem exactLogPut_nam : (Rows.fnExactLogPutRow.named == Tryd.prog.varsNamed 3) = true := by kernel_rfl
theorem exactLogPut_goes : false = Rows.fnExactLogPutRow.goesBy Tryd.prog := by kernel_rfl
theorem exactLogPut_named : Tryd.pinned.checked.prog.funcNamed Rows.fnExactLogPutRow.func = some 3 := by kernel_rfl
theorem exactLogPut_joined : joinedFacts Tryd.prog 3 Tryd.f3 Rows.fnExactLogPutSpec Rows.fnExactLogPutRow = true :=
  joined_of (by kernel_rfl) Tryd.laidOut Tryd.c_rowed (by kernel_rfl) exactLogPut_in exactLogPut_un exactLogPut_rec exactLogPut_nam (by kernel_rfl) Tryd.c_keys rfl Tryd.c_heard Tryd.c_enter Tryd.c_lifted (by kernel_rfl)

theorem exactLogPut_row : Rows.FnExactLogPutSaid :=
  OpenClaim.holds_of_wide 3 Tryd.f3 rfl rfl rfl rfl rfl rfl rfl ⟨rfl, rfl, rfl, rfl, rfl⟩ rfl rfl rfl rfl rfl exactLogPut_named Tryd.func3 exactLogPut_joined
    (of_decide_eq_true (by kernel_rfl)) (by unfold Func.isWrapper; rw [if_neg (of_decide_eq_false (by kernel_rfl))]; exact ⟨rfl, rfl⟩)
    (fun os started H enc _ => exactLogPut_lifted os started H enc)

theorem exactLogPut_holds : Rows.FnExactLogPutCardSaid :=
  Claim7.holds_tied_plain_at .later [] [.data, .data, .data] true _ true
    exactLogPut_row (fun _ h => by cases h) (by kernel_rfl) (fun _ h => by cases h) fnExactLogPut_row_tie rfl ⟨rfl, rfl⟩ Tryd.c_main rfl
    (fun f fn hf hfn => by
      obtain rfl : f = 3 := Option.some.inj (exactLogPut_named.symm.trans hf) |>.symm
      obtain rfl : fn = Tryd.f3 := (Option.some.inj (Tryd.func3.symm.trans hfn)).symm
      exact ⟨Tryd.c_looks, fun j t ht => by
        rw [Tryd.params3] at ht
        have h3 : t = 3 ∨ t = 24 := by
          rcases j with _ | _ | j
          · exact .inl (by simpa using ht.symm)
          · exact .inr (by simpa using ht.symm)
          · simp at ht
        rcases h3 with rfl | rfl
        · exact (show Tryd.prog.wantsStandIn 3 = false by kernel_rfl)
        · exact (show Tryd.prog.wantsStandIn 24 = false by kernel_rfl)⟩)
    exactLogPut_goes

end Go.Proofs.YtmaaogoeapfepaaDoor

