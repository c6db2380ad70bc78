/-
  Texts of one claim, put together.
-/
import Derived.Test.YtogonjkklioaaaaGreatDoorLg24
import Derived.Test.YtogonjkklioaaaaGreatDoorCards
import Derived.Test.YtogonjkklioaaaaGreatDoorLg25
import Derived.SevenTiedAt
import Derived.Lay
import Derived.LaidSub
import Derived.HandedShaped
import Derived.LaidMore
set_option maxRecDepth 100000
set_option maxHeartbeats 8000000
namespace Go.Proofs.YtogonjkklioaaaaGreatDoor
open Go.RowKit
theorem joined_of {P : Program} {f : FuncId} {fn : Func} {s : ChangeSpec} {c : OpenClaim}
    (h1 : c.wf (OpenSpec.ofChange s) = true) (h2 : laidOutB P = true) (h3 : mapsRowed P = true)
    (h4 : (fn.params.all (P.readableRec ·) && namedTie P c.named s.vars && (c.stops == []) && (P.stops == []) && (c.knobs == []) && (P.stopKnobs == [])) = true)
    (h5 : (c.inPlace == P.inPlace f) = true) (h6 : (c.unfollowed == P.unfollowed f) = true) (h7 : (c.recurses == P.recurses f) = true) (h8 : (c.named == P.varsNamed f) = true)
    (h9 : ((c.maps == (fn.params.toList ++ s.plain.varTypes P).any (P.mapsRec ·)) && (c.ifaces == (fn.params.toList ++ s.plain.varTypes P).any (P.ifacesRec ·)) && (c.mapsOut == P.mapsAmong fn.resultTypes.toList) &&
      (c.loops == (fn.params.toList ++ s.plain.varTypes P).any (P.loopsFrom ·)) && (c.wideKeys == (fn.params.toList ++ s.plain.varTypes P ++ fn.resultTypes.toList).any (P.wideKeysFrom ·)) &&
      s.vars.all (P.varReadable ·) && fn.resultTypes.all (fun t => P.readableRec t && decide (t < P.types.size)) && (c.ifacesOut == fn.resultTypes.toList.any (P.ifacesRec ·)) && (c.loopsOut == fn.resultTypes.toList.any (P.loopsFrom ·))) = true)
    (h10 : (c.plainKeys == P.plainKeys) = true) (h11 : c.shortTexts.isNone = true) (h12 : P.stopsHeard = true) (h13 : P.mayEnter = true) (h14 : (c.lifted == P.liftsFinal) = true)
    (h15 : ((P.make == some c.make) && (c.kinds == (if c.domain.isEmpty then [] else fn.params.toList.map fun t => match P.underlying t with | some (.int k) => some k | _ => none)) && (c.pinned == c.pinnedBy) &&
      (c.veiled == (fn.params.toList ++ s.plain.varTypes P ++ fn.resultTypes.toList).any (P.veiledRec ·)) && c.veiledFits P fn.params.toList (fn.params.toList ++ s.plain.varTypes P ++ fn.resultTypes.toList)) = true) : joinedFacts P f fn s c = true := by
  simp only [Bool.and_eq_true] at h4 h9 h15; obtain ⟨⟨⟨⟨⟨a1, a2⟩, a3⟩, a4⟩, a5⟩, a6⟩ := h4; obtain ⟨⟨⟨⟨⟨⟨⟨⟨b1, b2⟩, b3⟩, b4⟩, b5⟩, b6⟩, b7⟩, b8⟩, b9⟩ := h9; obtain ⟨⟨⟨⟨d1, d2⟩, d3⟩, d4⟩, d5⟩ := h15; simp only [joinedFacts, Bool.and_eq_true]; exact ⟨⟨⟨⟨⟨⟨⟨⟨⟨⟨⟨⟨⟨⟨⟨⟨⟨⟨⟨⟨⟨⟨⟨⟨⟨⟨⟨⟨⟨⟨⟨h1, h2⟩, h3⟩, a1⟩, a2⟩, a3⟩, a4⟩, a5⟩, a6⟩, h5⟩, h6⟩, h7⟩, h8⟩, b1⟩, b2⟩, b3⟩, b4⟩, b5⟩, b6⟩, b7⟩, b8⟩, b9⟩, h10⟩, h11⟩, h12⟩, h13⟩, h14⟩, d1⟩, d2⟩, d3⟩, d4⟩, d5⟩
theorem Tryz.c_rowed : mapsRowed Tryz.prog = true := by kernel_rfl
theorem Tryz.c_heard : Tryz.prog.stopsHeard = true := by kernel_rfl
theorem Tryz.c_enter : Tryz.prog.mayEnter = true := by kernel_rfl
theorem Tryz.c_lifted : (Rows.fnLogGetRow.lifted == Tryz.prog.liftsFinal) = true := by kernel_rfl
theorem Tryz.c_keys : (Rows.fnLogGetRow.plainKeys == Tryz.prog.plainKeys) = true := by kernel_rfl
theorem Tryz.c_main : Tryz.pinned.checked.prog.mainIs = some (Rows.fnLogGetCard.stood.harness.1, Rows.fnLogGetCard.stood.harness.2.toList) := by kernel_rfl
theorem Tryz.c_looks : true = Tryz.prog.looks [] := by kernel_rfl
abbrev laidX : List (String × DataW Unit) := [("math/bits.deBruijn32tab", Rows.laid_math_bits_deBruijn32tab), ("math/bits.deBruijn64tab", Rows.laid_math_bits_deBruijn64tab), ("internal/strconv.uint64pow10", Rows.laid_internal_strconv_uint64pow10), ("unicode/utf8.acceptRanges", Rows.laid_unicode_utf8_acceptRanges), ("io.EOF", Rows.laid_io_EOF), ("unicode/utf8.first", Rows.laid_unicode_utf8_first)]
theorem ziz : (laidX.all fun x => x.2.handleName?.isNone) = true := by kernel_rfl
theorem laidX_met (os : Os) (args : Array Value) : laidMetH Tryz.prog laidX ((World.laidAll Tryz.prog os laidX).forCall (fun _ _ => 0) ⟨#[], args, []⟩).memory := by
  rw [Go.MakeChecks.laidMetH_plain _ _ _ ziz]; exact laidMet_laidAll _ qab qab
theorem laidX_shaped2 (os : Os) : ((World.laidAll Tryz.prog os laidX).forCall (fun _ _ => 0) ⟨#[], #[.slice none 0 0, .slice none 0 0], []⟩).Shaped Tryz.prog := World.shaped_of_ZipB qab qab
theorem iface_of_trod {P : Program} {W : World} {sp : Nat → Bool} {t : TypeId} {ms : Array (String × TypeId)} (ht : P.underlying t = some (.interface ms)) {n : Nat} {vs : List Value} {nm : String} {d : DataW Unit} {p : List MemPlace}
    (h : DataW.trod (fun _ => ()) P W 0 sp false n t vs = some (.iface nm d, p)) : ∃ u v, vs = [.iface u v] := by
  cases n with
  | zero => simp [DataW.trod] at h
  | succ n =>
    cases vs with
    | nil => simp [DataW.trod, ht] at h
    | cons E r =>
      cases r with
      | cons E2 r => cases E <;> simp [DataW.trod, ht] at h
      | nil =>
        cases E with
        | iface u v => exact ⟨u, v, rfl⟩
        | _ => simp [DataW.trod, ht] at h
theorem laidX_eof : laidX.filter (fun x => x.1 == "io.EOF") = [("io.EOF", Rows.laid_io_EOF)] := by rfl
theorem eofIn_of_laid {W : World} (h : laidMetH Tryz.prog laidX W.memory) : EofIn W := by
  rw [Go.MakeChecks.laidMetH_plain _ _ _ ziz] at h; have h2 := h.filter (fun x => x.1 == "io.EOF"); rw [laidX_eof] at h2; obtain ⟨ps, ⟨g, t, cs, a2, p, q, hg, ht, hv, hd, _, _⟩, _⟩ := h2; have e1 : Tryz.prog.globalNamed "io.EOF" = some 0 := qab; obtain rfl := Option.some.inj (e1.symm.trans hg); have e2 : (Tryz.prog.globals[0]?).map (·.type) = some 53 := qab; obtain rfl := Option.some.inj (e2.symm.trans ht); obtain ⟨u, v, e⟩ := iface_of_trod Tryz.underlying53 hd; refine ⟨u, v, ?_⟩; have h1 := World.var?_cell e1 hv 0; have h2 : cs[0]? = some (.iface u v) := by rw [← Array.getElem?_toList, e]; rfl
  rw [h2] at h1; exact h1
def tabB (P : Program) (nm : String) : Bool :=
  match P.globalNamed nm with
  | none => false
  | some g => match (P.globals[g]?).map (·.type) with
    | none => false
    | some t => match P.underlying t with
      | some (.array n e) => (match P.underlying e with | some (.int .u64) => true | _ => false) && decide (P.cellsOf e = 1) && decide (P.cellsOf t = n)
      | _ => false
theorem tab_of {P : Program} {W : World} {nm : String} {zs : List Int} (hb : tabB P nm = true) (h : laidMet P [(nm, Lib.tabData .u64 zs)] W) : Lib.TabIs P W nm .u64 zs := by
  unfold tabB at hb; split at hb
  · cases hb
  · rename_i g hg
    split at hb
    · cases hb
    · rename_i t ht
      split at hb
      · rename_i n e hu
        simp only [Bool.and_eq_true, decide_eq_true_eq] at hb; obtain ⟨⟨h1, h2⟩, h3⟩ := hb; split at h1
        · rename_i hi
          exact Lib.tabIs_of_head hg ht hu hi h2 h3 h
        · cases h1
      · cases hb
theorem laidX_pow : laidX.filter (fun x => x.1 == "internal/strconv.uint64pow10") = [("internal/strconv.uint64pow10", Lib.tabData .u64 Lib.pow10Tab)] := by rfl
theorem Tryz.tabPow : tabB Tryz.prog "internal/strconv.uint64pow10" = true := by kernel_rfl
theorem pow_of_laid {W : World} (h : laidMetH Tryz.prog laidX W.memory) : PowTab W := by
  rw [Go.MakeChecks.laidMetH_plain _ _ _ ziz] at h; have h2 := h.filter (fun x => x.1 == "internal/strconv.uint64pow10"); rw [laidX_pow] at h2; exact (tab_of (W := W.memory) Tryz.tabPow h2 : Lib.TabIs Tryz.prog W.memory _ _ _)
section
variable {H : Type} {enc : TypeId × Value → H}
theorem zpd {C : Checked} {os : Os} {f : FuncId} {fn : Func} {s : ChangeSpec} {X : World → Prop}
    (own : ownKnob C.prog.godebug = none) (started : os.Started) (noInit : C.prog.inits.idxOf? f = none) (hfn : C.prog.funcs[f]? = some fn)
    (w0 : World) (args0 : Array Value) (hos : w0.os = os) (hsh : (w0.forCall (fun _ _ => 0) ⟨#[], args0, []⟩).Shaped C.prog)
    (hok : Input.okWideB C.prog (w0.forCall (fun _ _ => 0) ⟨#[], args0, []⟩) f ⟨#[], args0, []⟩ = true)
    (hpre : s.preB enc C.prog fn [] false (w0.forCall (fun _ _ => 0) ⟨#[], args0, []⟩).memory args0 8 = true)
    (hsz : s.sizedB enc C.prog fn false (w0.forCall (fun _ _ => 0) ⟨#[], args0, []⟩).memory args0 8 = true)
    (hx : X (w0.forCall (fun _ _ => 0) ⟨#[], args0, []⟩).memory)
    (walk : ∀ (W : World) (args : Array Value) (ds gs : List (DataW H)) (before : List MemPlace), (∀ (j : Nat) t v, fn.params[j]? = some t → args[j]? = some v → Value.okWide C.prog W .any W.heap.size t v) →
      DataW.Whole enc C.prog fn.params.toList s.vars false W args.toList ds gs before → W.ShapedOpen C.prog → X W.memory →
      Calls C.prog f args W fun e W' => ∃ v, e = .returned v ∧ s.post enc C.prog fn false true false false W args v W') :
    ReturnsInHanded {} C os f .any (fun w args => (s.pre enc C.prog fn [] false w args ∧ X w) ∧ sizedMet enc C.prog fn (OpenSpec.ofChange s) false w args) (s.post enc C.prog fn false true false false) :=
  returnsInHanded_of_calls own started noInit (ChangeSpec.witness_shaped (X := fun w _ => X w) false w0 args0 8 hos hsh hok hpre hsz hx) fun w tape i _ hS _ hin hp _ => by
    obtain ⟨_, _, _, fn', hf', _, _, _, _, hval⟩ := hin; obtain rfl : fn' = fn := Option.some.inj (hf'.symm.trans hfn); obtain ⟨⟨⟨ds, gs, before, hw, _⟩, hX⟩, _⟩ := hp
    exact (walk (w.forCall tape i) i.args ds gs before hval (DataW.Whole.of_heap qad hw) hS hX).mono fun e W' ⟨v, he, hq⟩ => by
      subst he; exact ChangeSpec.post_blind hq
end
theorem maxIn_of_shape {W : World} (h : W.ShapedOpen Tryz.prog) : MaxIn W :=
  cell_of_shapedOpen_int (zero := #[.int .i64 0]) (t := 3) h (of_decide_eq_true qab) qab rfl qab qab Tryz.underlying3
end Go.Proofs.YtogonjkklioaaaaGreatDoor
