/-
  What comes in: proofs, opened.
-/
import Derived.Test.YtiekfjlhioekcaaDoorOpenR
import Derived.Test.YtiekfjlhioekcaaDoorTree
import Derived.Deep.Strs
namespace Go.Proofs.YtiekfjlhioekcaaDoor
open Go.ChangeShapes Go.WideShapes Go.ChangeAt Go.RowKit Go.Deep Go.Joins

instance : Inhabited Tr := ⟨.mk (default, []) 0 []⟩

theorem Tryd.cellsProof : Tryd.prog.cellsOf 27 = 4 := by kernel_rfl
theorem Tryd.cellsInt : Tryd.prog.cellsOf 3 = 1 := by kernel_rfl
theorem Tryd.cellsProofS : Tryd.prog.cellsOf 25 = 1 := by kernel_rfl

section
variable {H : Type} {enc : TypeId × Value → H} {w : World} {base : Nat} {spare : Nat → Bool} {held : Bool}

/-- The four cells of a proof, opened, where its list of what it needs can be. -/
theorem open_pf4 {N fuel : Nat} {v0 v1 v2 v3 : Value} {x : DataW H × List MemPlace} (h : DataW.trod enc Tryd.prog w base spare held fuel 27 [v0, v1, v2, v3] = some x) (hx : SizeOf.sizeOf x.1 ≤ N)
    (ih : ∀ (fuel : Nat) (v : Value) (y : DataW H × List MemPlace), DataW.trod enc Tryd.prog w base spare held fuel 25 [v] = some y → SizeOf.sizeOf y.1 < N → ∃ B m e ks, v = .slice B m e ∧ IsPfs (N - 1) w 0 w.heap.size B m e ks ∧ ∀ k ∈ ks, RuleIn (N - 1) k) :
    ∃ (t : Tr) (A : Option Addr) (n c : Nat) (B : Option Addr) (m e : Nat), v0 = .string t.a.1 ∧ v1 = .slice A n c ∧ v2 = .int .i64 t.r ∧ v3 = .slice B m e ∧ t.a.1.size ≤ maxLen ∧ IsPf (N - 1) w 0 w.heap.size A n c B m e t ∧ RuleIn (N - 1 + 1) t := by
  obtain ⟨y0, y1, y2, k, rfl, _, t0, t1, t2⟩ := trod_struct3 Tryd.underlying27 h
  simp [Tryd.cellsAtom, Tryd.cellsInt, Tryd.cellsProofS] at t0 t1 t2
  obtain ⟨nm, A, n, c, ts, hv0, hv1, hz, ht⟩ := open_atom2 t0
  obtain ⟨i, hi, _, hwf⟩ := DataW.trod_int Tryd.underlying3 t1
  have hir : -9223372036854775808 ≤ i ∧ i ≤ 9223372036854775807 := by
    have h9 : IntKind.i64.min ≤ i ∧ i ≤ IntKind.i64.max := by simpa [Lit.wf] using hwf
    have h7 : IntKind.i64.min = -9223372036854775808 := by rfl
    have h8 : IntKind.i64.max = 9223372036854775807 := by rfl
    rw [h7, h8] at h9
    exact h9
  simp only [List.cons.injEq, and_true] at hi
  have hlt : SizeOf.sizeOf y2.1 < N := by
    simp only [DataW.agg.sizeOf_spec, List.cons.sizeOf_spec, List.nil.sizeOf_spec] at hx
    omega
  obtain ⟨B, m, e, ks, hv3, hk, hr⟩ := ih _ _ _ t2 hlt
  exact ⟨.mk (nm, ts) i ks, A, n, c, B, m, e, hv0, hv1, hi, hv3, hz, ⟨ht, hk⟩, hir.1, hir.2, hr⟩

/-- A slice of proofs, opened. -/
theorem open_pfsF : ∀ (N fuel : Nat) (v : Value) (x : DataW H × List MemPlace), DataW.trod enc Tryd.prog w base spare held fuel 25 [v] = some x → SizeOf.sizeOf x.1 ≤ N →
    ∃ A n c ks, v = .slice A n c ∧ IsPfs N w 0 w.heap.size A n c ks ∧ ∀ k ∈ ks, RuleIn N k := by
  intro N
  induction N with
  | zero =>
    intro fuel v x h hx
    rcases open_slice Tryd.underlying25 h with ⟨hc, _⟩ | ⟨a, len, cap, m, n, D, Pl, hc, _, hl, hm, hmm, rfl, hi⟩
    · simp only [List.cons.injEq, and_true] at hc
      exact ⟨none, 0, 0, [], hc, ⟨rfl, Nat.le_refl _, Nat.zero_le _, fun h0 => absurd h0 (by omega)⟩, fun k hk => by simp at hk⟩
    · simp only [DataW.slice.sizeOf_spec] at hx
      omega
  | succ N ih =>
    intro fuel v x h hx
    rcases open_slice Tryd.underlying25 h with ⟨hc, _⟩ | ⟨a, len, cap, m, n, D, Pl, hc, _, hl, hm, hmm, rfl, hi⟩
    · simp only [List.cons.injEq, and_true] at hc
      exact ⟨none, 0, 0, [], hc, ⟨rfl, Nat.le_refl _, Nat.zero_le _, fun h0 => absurd h0 (by omega)⟩, fun k hk => by simp at hk⟩
    · simp only [List.cons.injEq, and_true] at hc
      have hlm : len ≤ m := by rw [hmm]; split <;> omega
      have each : ∀ i, i < len → ∃ q : Tr, PfE (N + 1) w 0 w.heap.size (a.add (i * 4)) q ∧ RuleIn (N + 1) q := by
        intro i him
        obtain ⟨cs', h1, h2⟩ := hi i (by omega)
        rw [Tryd.cellsProof] at h1
        obtain ⟨_, hlen, hcell⟩ := World.cells?_some h1
        have hsz : SizeOf.sizeOf (D i) ≤ N + 1 := by
          have h3 : D i ∈ (List.range len).map D := List.mem_map.2 ⟨i, List.mem_range.2 him, rfl⟩
          have h4 := List.sizeOf_lt_of_mem h3
          simp only [DataW.slice.sizeOf_spec] at hx
          omega
        match cs', hlen with
        | [u0, u1, u2, u3], _ =>
          obtain ⟨t, A, n', c', B, m', e', hv0, hv1, hv2, hv3, hz, ⟨ht, hk⟩, hr⟩ := open_pf4 (N := N + 1) h2 hsz (fun fuel v y hy hlt => ih fuel v y hy (by omega))
          have e0 := hcell 0 (by omega)
          have e1 := hcell 1 (by omega)
          have e2 := hcell 2 (by omega)
          have e3 := hcell 3 (by omega)
          simp at e0 e1 e2 e3
          refine ⟨t, ⟨?_, hz, ⟨A, n', c', ?_, ht⟩, ?_, B, m', e', ?_, hk⟩, hr⟩
          · rw [← hv0]; simpa [Addr.add] using e0
          · rw [next_eq _ _ (by omega), ← hv1]; exact e1
          · rw [next_eq _ _ (by omega), ← hv2]; exact e2
          · rw [next_eq _ _ (by omega), ← hv3]; exact e3
      obtain ⟨f, hf⟩ := choose_lt each
      refine ⟨some a, len, cap, (List.range len).map f, hc, ⟨by simp, hl, hm, fun h0 => ⟨a, rfl, Nat.zero_le _, World.block_lt_of_cell? _ _ (by simpa [Addr.add] using (hf 0 (by omega)).1.1), fun i t ht => ?_⟩⟩, fun k hk => by
        obtain ⟨i, hi2, rfl⟩ := List.mem_map.1 hk
        exact (hf i (List.mem_range.1 hi2)).2⟩
      have hil : i < len := by
        have := (List.getElem?_eq_some_iff.1 ht).1
        simpa using this
      have ht' : f i = t := by simpa [hil] using ht
      rw [← ht']
      exact (hf i hil).1

set_option maxRecDepth 100000 in
/-- A proof by value, opened. -/
theorem open_proof {b0 : Nat} {v : Value} {d : DataW H} {p : List MemPlace} (hv : Value.okWide Tryd.prog w .any b0 27 v) (h : DataW.Trod enc Tryd.prog w base spare held 27 v d p) :
    ∃ (N : Nat) (t : Tr) (A : Option Addr) (n c : Nat) (B : Option Addr) (m e : Nat), v = .agg #[.string t.a.1, .slice A n c, .int .i64 t.r, .slice B m e] ∧ t.a.1.size ≤ maxLen ∧ IsPf N w 0 w.heap.size A n c B m e t ∧ RuleIn (N + 1) t := by
  obtain ⟨cs, rfl, hsz⟩ := okWide_struct Tryd.underlying27 hv
  have hs4 := hsz.trans Tryd.cellsProof
  obtain ⟨u0, u1, u2, u3, rfl⟩ : ∃ u0 u1 u2 u3, cs = #[u0, u1, u2, u3] := by
    match cs, hs4 with
    | ⟨[u0, u1, u2, u3]⟩, _ => exact ⟨u0, u1, u2, u3, rfl⟩
  obtain ⟨fuel, hf⟩ := h
  obtain ⟨t, A, n, c, B, m, e, hv0, hv1, hv2, hv3, hz, hk, hr⟩ := open_pf4 (N := SizeOf.sizeOf d) (by simpa [Value.cells] using hf) (Nat.le_refl _) (fun fuel v y hy hlt => open_pfsF (SizeOf.sizeOf d - 1) fuel v y hy (by omega))
  exact ⟨_, t, A, n, c, B, m, e, by rw [hv0, hv1, hv2, hv3], hz, hk, hr⟩
end

end Go.Proofs.YtiekfjlhioekcaaDoor
