/-
  The exact law of ChangeGet, proved: at every text the program tells its model's change, in memory of its own.
-/
import Derived.Test.YtahkkelahocplaaDoorChangeAll
import Derived.Test.YtahkkelahocplaaDoorClosedG
import Derived.Test.YtahkkelahocplaaDoorCards
import Derived.Test.YtahkkelahocplaaDoorTie
import Derived.SevenTiedAt
import Derived.Shelf.Vars
namespace Go.Proofs.YtahkkelahocplaaDoor
open Go.RowKit

/-- The tables that the row of ChangeGet lists, and what tells a text's end. -/
abbrev laidX : List (String × DataW Unit) := [("unicode/utf8.acceptRanges", Rows.laid_unicode_utf8_acceptRanges), ("io.EOF", Rows.laid_io_EOF), ("unicode/utf8.first", Rows.laid_unicode_utf8_first)]

theorem laidX_met (os : Os) (args : Array Value) : laidMetH Tryd.prog laidX ((World.laidAll Tryd.prog os laidX).forCall (fun _ _ => 0) ⟨#[], args, []⟩).memory := by
  rw [Go.MakeChecks.laidMetH_plain _ _ _ (by kernel_rfl)]
  exact laidMet_laidAll _ (by kernel_rfl) (by kernel_rfl)

theorem laidX_shaped (os : Os) : ((World.laidAll Tryd.prog os laidX).forCall (fun _ _ => 0) ⟨#[], #[.string ByteArray.empty], []⟩).Shaped Tryd.prog := World.shaped_of_ZipB (by kernel_rfl) (by kernel_rfl)

theorem iface_of_trod {P : Program} {W : World} {sp : Nat → Bool} {t : TypeId} {ms : Array (String × TypeId)} (ht : P.underlying t = some (.interface ms)) {n : Nat} {vs : List Value} {nm : String} {d : DataW Unit} {p : List MemPlace}
    (h : DataW.trod (fun _ => ()) P W 0 sp false n t vs = some (.iface nm d, p)) : ∃ u v, vs = [.iface u v] := by
  cases n with
  | zero => simp [DataW.trod] at h
  | succ n =>
    cases vs with
    | nil => simp [DataW.trod, ht] at h
    | cons E r =>
      cases r with
      | cons E2 r => cases E <;> simp [DataW.trod, ht] at h
      | nil =>
        cases E with
        | iface u v => exact ⟨u, v, rfl⟩
        | _ => simp [DataW.trod, ht] at h

theorem eofIn_of_laid {W : World} (h : laidMetH Tryd.prog laidX W.memory) : EofIn W := by
  rw [Go.MakeChecks.laidMetH_plain _ _ _ (by kernel_rfl)] at h
  obtain ⟨ps, ⟨_, _, _, _, _, _, _, _, _, _, ⟨g, t, cs, fuel, p, q, hg, ht, hv, hd, _, _⟩, _⟩, _⟩ := h
  have e1 : Tryd.prog.globalNamed "io.EOF" = some 1 := by kernel_rfl
  obtain rfl := Option.some.inj (e1.symm.trans hg)
  have e2 : (Tryd.prog.globals[1]?).map (·.type) = some 147 := by kernel_rfl
  obtain rfl := Option.some.inj (e2.symm.trans ht)
  obtain ⟨u, v, e⟩ := iface_of_trod Tryd.underlying147 hd
  refine ⟨u, v, ?_⟩
  have h1 := World.var?_cell e1 hv 0
  have h2 : cs[0]? = some (.iface u v) := by rw [← Array.getElem?_toList, e]; rfl
  rw [h2] at h1
  exact h1

section
variable {H : Type} {enc : TypeId × Value → H}

/-- A call whose world has a shape besides what is laid. -/
theorem handed_shaped_x {C : Checked} {os : Os} {f : FuncId} {fn : Func} {s : ChangeSpec} {X : World → Prop}
    (own : ownKnob C.prog.godebug = none) (started : os.Started) (noInit : C.prog.inits.idxOf? f = none) (hfn : C.prog.funcs[f]? = some fn)
    (w0 : World) (args0 : Array Value) (hos : w0.os = os) (hsh : (w0.forCall (fun _ _ => 0) ⟨#[], args0, []⟩).Shaped C.prog)
    (hok : Input.okWideB C.prog (w0.forCall (fun _ _ => 0) ⟨#[], args0, []⟩) f ⟨#[], args0, []⟩ = true)
    (hpre : s.preB enc C.prog fn [] false (w0.forCall (fun _ _ => 0) ⟨#[], args0, []⟩).memory args0 8 = true)
    (hsz : s.sizedB enc C.prog fn false (w0.forCall (fun _ _ => 0) ⟨#[], args0, []⟩).memory args0 8 = true)
    (hx : X (w0.forCall (fun _ _ => 0) ⟨#[], args0, []⟩).memory)
    (walk : ∀ (W : World) (args : Array Value) (ds gs : List (DataW H)) (before : List MemPlace), (∀ (j : Nat) t v, fn.params[j]? = some t → args[j]? = some v → Value.okWide C.prog W .any W.heap.size t v) →
      DataW.Whole enc C.prog fn.params.toList s.vars false W args.toList ds gs before → W.ShapedOpen C.prog → X W.memory →
      Calls C.prog f args W fun e W' => ∃ v, e = .returned v ∧ s.post enc C.prog fn false true false false W args v W') :
    ReturnsInHanded {} C os f .any (fun w args => (s.pre enc C.prog fn [] false w args ∧ X w) ∧ sizedMet enc C.prog fn (OpenSpec.ofChange s) false w args) (s.post enc C.prog fn false true false false) :=
  returnsInHanded_of_calls own started noInit (ChangeSpec.witness_shaped (X := fun w _ => X w) false w0 args0 8 hos hsh hok hpre hsz hx) fun w tape i _ hS _ hin hp _ => by
    obtain ⟨_, _, _, fn', hf', _, _, _, _, hval⟩ := hin
    obtain rfl : fn' = fn := Option.some.inj (hf'.symm.trans hfn)
    obtain ⟨⟨⟨ds, gs, before, hw, _⟩, hX⟩, _⟩ := hp
    exact (walk (w.forCall tape i) i.args ds gs before hval (DataW.Whole.of_heap (by rfl) hw) hS hX).mono fun e W' ⟨v, he, hq⟩ => by
      subst he
      exact ChangeSpec.post_blind hq
end

theorem maxIn_of_shape {W : World} (h : W.ShapedOpen Tryd.prog) : MaxIn W :=
  cell_of_shapedOpen_int (zero := #[.int .i64 0]) (t := 3) h (of_decide_eq_true (by kernel_rfl)) (by kernel_rfl) rfl (by kernel_rfl) (by kernel_rfl) Tryd.underlying3

end Go.Proofs.YtahkkelahocplaaDoor

namespace Go.Proofs.YtahkkelahocplaaDoor
open Go.RowKit Go.ChangeShapes Go.WideShapes Go.ChangeAt
open Go.ChangeMaps (open_string)

set_option maxRecDepth 100000 in
set_option maxHeartbeats 1000000 in
theorem exactChangeGet_lifted (os : Os) (started : os.Started) (H : Type) (enc : TypeId × Value → H) :
    ReturnsInHanded {} Tryd.checked os 9 .any (fun w args => (Rows.fnExactChangeGetSpec.pre enc Tryd.prog Tryd.f9 [] false w args ∧ laidMetH Tryd.prog laidX w) ∧ sizedMet enc Tryd.prog Tryd.f9 (OpenSpec.ofChange Rows.fnExactChangeGetSpec) false w args)
      (Rows.fnExactChangeGetSpec.post enc Tryd.prog Tryd.f9 false true false false) := by
  refine handed_shaped_x (C := Tryd.checked) (X := fun w => laidMetH Tryd.prog laidX w) Tryd.own started (by kernel_rfl) Tryd.func9
    (World.laidAll Tryd.prog os laidX) #[.string ByteArray.empty] (World.laidAll_os _ _ _) (laidX_shaped os) (by kernel_rfl) (by kernel_rfl) (by kernel_rfl) (laidX_met os _) ?_
  intro W args ds gs before hval0 hW hS hL
  have hval : ∀ (j : Nat) t v, Tryd.f9.params[j]? = some t → args[j]? = some v → Value.okWide Tryd.prog W .any W.heap.size t v := hval0
  have hW' := hW
  have hlt : ∀ x ∈ before, x.block < W.heap.size := fun x hx => hW.lt x hx
  obtain ⟨p, q, hA0, hV, hpq, hfz, hnd⟩ := hW
  have hA : DataW.TrodAll enc Tryd.prog W 0 (fun _ => true) true Tryd.f9.params.toList args.toList ds p := hA0
  rw [Tryd.params9] at hA hval
  obtain ⟨v0, d0, hargs, rfl, h0⟩ := trodAll_one hA
  obtain ⟨rfl, rfl⟩ := trodVars_none hV
  simp only [List.append_nil] at hpq
  subst hpq
  have hh0 := Lib.hid h0
  have hk := maxIn_of_shape hS
  obtain ⟨s, rfl, rfl, rfl, ws⟩ := open_string Tryd.underlying9 (hval 0 9 v0 rfl (by rw [hargs]; rfl)) h0
  subst hargs
  clear hA0 hval0
  refine (exactChangeGet_any s W hk (eofIn_of_laid hL)).mono fun e W' ⟨he, hb⟩ => ?_
  subst he
  exact ⟨_, rfl, post_true (pv := []) hW' (trodAll_mk1 (shut_bool Tryd.underlying4 true)) (trodAll_mk1 (Below.trod Tryd.laidOut (by kernel_rfl) (of_decide_eq_true (by kernel_rfl)) hh0.out hb hlt)) rfl hb⟩

theorem exactChangeGet_in : (Rows.fnExactChangeGetRow.inPlace == Tryd.prog.inPlace 9) = true := by kernel_rfl
theorem exactChangeGet_un : (Rows.fnExactChangeGetRow.unfollowed == Tryd.prog.unfollowed 9) = true := by kernel_rfl
theorem exactChangeGet_rec : (Rows.fnExactChangeGetRow.recurses == Tryd.prog.recurses 9) = true := by kernel_rfl
theorem exactChangeGet_nam : (Rows.fnExactChangeGetRow.named == Tryd.prog.varsNamed 9) = true := by kernel_rfl
theorem exactChangeGet_goes : false = Rows.fnExactChangeGetRow.goesBy Tryd.prog := by kernel_rfl
theorem exactChangeGet_named : Tryd.pinned.checked.prog.funcNamed Rows.fnExactChangeGetRow.func = some 9 := by kernel_rfl
theorem exactChangeGet_joined : joinedFacts Tryd.prog 9 Tryd.f9 Rows.fnExactChangeGetSpec Rows.fnExactChangeGetRow = true :=
  joined_of (by kernel_rfl) Tryd.laidOut Tryd.c_rowed (by kernel_rfl) exactChangeGet_in exactChangeGet_un exactChangeGet_rec exactChangeGet_nam (by kernel_rfl) Tryd.c_keys rfl Tryd.c_heard Tryd.c_enter Tryd.c_lifted (by kernel_rfl)

theorem exactChangeGet_row : Rows.FnExactChangeGetSaid :=
  OpenClaim.holds_of_wide 9 Tryd.f9 rfl rfl rfl rfl rfl rfl rfl ⟨rfl, rfl, rfl, rfl, rfl⟩ rfl rfl rfl rfl rfl exactChangeGet_named Tryd.func9 exactChangeGet_joined
    (of_decide_eq_true (by kernel_rfl)) (by unfold Func.isWrapper; rw [if_neg (of_decide_eq_false (by kernel_rfl))]; exact ⟨rfl, rfl⟩)
    (fun os started H enc _ => exactChangeGet_lifted os started H enc)

theorem exactChangeGet_holds : Rows.FnExactChangeGetCardSaid :=
  Claim7.holds_tied_plain_at .later [] [.data, .sentinel, .pinned] true _ true
    exactChangeGet_row (fun _ h => by cases h) (by kernel_rfl) (fun _ h => by cases h) fnExactChangeGet_row_tie rfl ⟨rfl, rfl⟩ Tryd.c_main rfl
    (fun f fn hf hfn => by
      obtain rfl : f = 9 := Option.some.inj (exactChangeGet_named.symm.trans hf) |>.symm
      obtain rfl : fn = Tryd.f9 := (Option.some.inj (Tryd.func9.symm.trans hfn)).symm
      exact ⟨Tryd.c_looks, fun j t ht => by
        rw [Tryd.params9] at ht
        have h3 : t = 9 := by
          rcases j with _ | j
          · simpa using ht.symm
          · simp at ht
        subst h3
        exact (show Tryd.prog.wantsStandIn 9 = false by kernel_rfl)⟩)
    exactChangeGet_goes

end Go.Proofs.YtahkkelahocplaaDoor
