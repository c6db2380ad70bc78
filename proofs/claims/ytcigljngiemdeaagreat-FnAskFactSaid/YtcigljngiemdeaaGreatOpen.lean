/-
  What comes in: an atom by value, opened to its terms in memory; and what a law owes behind the call, if nothing old has turned.
-/
import Derived.Test.YtcigljngiemdeaaGreatEa0
import Derived.Lib.SmallJoins
import Derived.Below
namespace Go.Proofs.YtcigljngiemdeaaGreat
open Go.ChangeShapes Go.WideShapes Go.ChangeAt Go.RowKit Go.Deep Go.Joins
open Go.ChangeMaps (open_string shut_string)

theorem Tryz.own : ownKnob Tryz.prog.godebug = none := by kernel_rfl
theorem Tryz.laidOut : laidOutB Tryz.prog = true := by kernel_rfl
theorem Tryz.cellsTerm : Tryz.prog.cellsOf 180 = 2 := by kernel_rfl
theorem Tryz.cellsAtom : Tryz.prog.cellsOf 65 = 2 := by kernel_rfl

section
variable {H : Type} {enc : TypeId × Value → H} {w : World} {base : Nat} {spare : Nat → Bool} {held : Bool}

/-- A slice of terms, opened. -/
theorem open_terms {fuel : Nat} {v : Value} {x : DataW H × List MemPlace} (h : DataW.trod enc Tryz.prog w base spare held fuel 63 [v] = some x) :
    ∃ A n c ts, v = .slice A n c ∧ IsTerms w 0 w.heap.size A n c ts := by
  rcases open_slice_pairs Tryz.underlying63 Tryz.underlying180 Tryz.cellsTerm rfl rfl (by kernel_rfl) (by kernel_rfl) h with ⟨hc, _⟩ | ⟨a, len, cap, m, n, V0, V1, D0, D1, P0, P1, hc, _, hl, hm, hmm, _, hi⟩
  · simp only [List.cons.injEq, and_true] at hc
    exact ⟨none, 0, 0, [], hc, rfl, Nat.le_refl _, Nat.zero_le _, fun h0 => absurd h0 (by omega)⟩
  · simp only [List.cons.injEq, and_true] at hc
    have hlm : len ≤ m := by rw [hmm]; split <;> omega
    have each : ∀ i, i < m → ∃ t : Tm, w.cell? (a.add (i * 2)) = some (.bool t.1) ∧ w.cell? (a.add (i * 2 + 1)) = some (.string t.2) ∧ t.2.size ≤ maxLen := by
      intro i him
      obtain ⟨c0, c1, t0, t1⟩ := hi i him
      obtain ⟨b, hb, _⟩ := DataW.trod_bool Tryz.underlying4 t0
      obtain ⟨s, hs, _, hz⟩ := DataW.trod_string Tryz.underlying9 t1
      simp only [List.cons.injEq, and_true] at hb hs
      exact ⟨(b, s), by rw [c0, hb], by rw [c1, hs], hz⟩
    obtain ⟨f, hf⟩ := choose_lt each
    refine ⟨some a, len, cap, (List.range len).map f, hc, by simp, hl, hm, fun h0 => ⟨a, rfl, Nat.zero_le _, World.block_lt_of_cell? _ _ (by simpa [Addr.add] using (hf 0 (by omega)).1), fun i t ht => ?_⟩⟩
    have hil : i < len := by
      have := (List.getElem?_eq_some_iff.1 ht).1
      simpa using this
    have ht' : f i = t := by simpa [hil] using ht
    rw [← ht']
    exact hf i (by omega)

set_option maxRecDepth 100000 in
/-- An atom by value, opened. -/
theorem open_atom {b0 : Nat} {v : Value} {d : DataW H} {p : List MemPlace} (hv : Value.okWide Tryz.prog w .any b0 65 v) (h : DataW.Trod enc Tryz.prog w base spare held 65 v d p) :
    ∃ nm A n c ts, v = .agg #[.string nm, .slice A n c] ∧ nm.size ≤ maxLen ∧ IsTerms w 0 w.heap.size A n c ts := by
  obtain ⟨v0, v1, y0, y1, m, rfl, _, _, h0, h1⟩ := open_agg2 Tryz.underlying65 (by kernel_rfl) Tryz.cellsAtom hv h
  obtain ⟨s, hs, _, hz⟩ := DataW.trod_string Tryz.underlying9 h0
  simp only [List.cons.injEq, and_true] at hs
  obtain ⟨A, n, c, ts, hv1, ht⟩ := open_terms h1
  exact ⟨s, A, n, c, ts, by rw [hs, hv1], hz, ht⟩
end

/-- What a law owes behind the call: it answered true, and all that was there is as it was. -/
theorem post_true {H : Type} {enc : TypeId × Value → H} {f : Func} {s : ChangeSpec} {apart : Bool} {W W' : World} {args : Array Value} {ds gs : List (DataW H)} {before pa pv : List MemPlace}
    (hW : DataW.Whole enc Tryz.prog f.params.toList s.vars apart W args.toList ds gs before)
    (hres : DataW.TrodAll enc Tryz.prog W' W.heap.size (fun _ => false) false f.resultTypes.toList ((Value.bool true).resultList f.resultTypes.size) (s.fn H (ds ++ gs)).results [])
    (hargs : DataW.TrodAll enc Tryz.prog W' 0 (fun b => decide (b < W.heap.size)) true f.params.toList args.toList (s.fn H (ds ++ gs)).args pa)
    (hvars : DataW.TrodVars enc Tryz.prog W' (fun b => decide (b < W.heap.size)) s.vars (s.fn H (ds ++ gs)).vars pv)
    (hb : Below W.heap.size W W') :
    s.post enc Tryz.prog f apart true false false W args (.bool true) W' :=
  ⟨ds, gs, before, [], pa, pv, hW, hres, hargs, hvars, hb.frame _, fun h => by cases h⟩

end Go.Proofs.YtcigljngiemdeaaGreat
