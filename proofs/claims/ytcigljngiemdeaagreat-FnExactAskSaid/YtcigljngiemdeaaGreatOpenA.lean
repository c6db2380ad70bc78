/-
  What comes in: lists of atoms, opened.
-/
import Derived.Test.YtcigljngiemdeaaGreatOpen
import Derived.Test.YtcigljngiemdeaaGreatEa0
namespace Go.Proofs.YtcigljngiemdeaaGreat
open Go.ChangeShapes Go.WideShapes Go.ChangeAt Go.RowKit Go.Deep Go.Joins

theorem Tryz.cellsStr : Tryz.prog.cellsOf 9 = 1 := by kernel_rfl
theorem Tryz.cellsTerms : Tryz.prog.cellsOf 63 = 1 := by kernel_rfl

section
variable {H : Type} {enc : TypeId × Value → H} {w : World} {base : Nat} {spare : Nat → Bool} {held : Bool}

/-- The two cells of an atom, opened. -/
theorem open_atom2 {fuel : Nat} {v0 v1 : Value} {x : DataW H × List MemPlace} (h : DataW.trod enc Tryz.prog w base spare held fuel 65 [v0, v1] = some x) :
    ∃ nm A n c ts, v0 = .string nm ∧ v1 = .slice A n c ∧ nm.size ≤ maxLen ∧ IsTerms w 0 w.heap.size A n c ts := by
  obtain ⟨y0, y1, n, _, _, h0, h1⟩ := trod_struct2 Tryz.underlying65 h
  simp [Tryz.cellsStr, Tryz.cellsTerms] at h0 h1
  obtain ⟨s, hs, _, hz⟩ := DataW.trod_string Tryz.underlying9 h0
  simp only [List.cons.injEq, and_true] at hs
  obtain ⟨A, k, c, ts, hv1, ht⟩ := open_terms h1
  exact ⟨s, A, k, c, ts, hs, hv1, hz, ht⟩

/-- The cell k behind an address, in either spelling. -/
theorem next_eq (a : Addr) (k : Nat) (hk : k ≠ 0) : nextTo a k = a.add k := by
  unfold nextTo Addr.add
  simp [hk]

/-- A slice of atoms, opened. -/
theorem open_atomsF {fuel : Nat} {v : Value} {x : DataW H × List MemPlace} (h : DataW.trod enc Tryz.prog w base spare held fuel 22 [v] = some x) :
    ∃ A n c xs, v = .slice A n c ∧ IsAtoms w 0 w.heap.size A n c xs := by
  rcases open_slice Tryz.underlying22 h with ⟨hc, _⟩ | ⟨a, len, cap, m, n, D, Pl, hc, _, hl, hm, hmm, _, hi⟩
  · simp only [List.cons.injEq, and_true] at hc
    exact ⟨none, 0, 0, [], hc, rfl, Nat.le_refl _, Nat.zero_le _, fun h0 => absurd h0 (by omega)⟩
  · simp only [List.cons.injEq, and_true] at hc
    have hlm : len ≤ m := by rw [hmm]; split <;> omega
    have each : ∀ i, i < m → ∃ q : At, AtomE w 0 w.heap.size (a.add (i * 2)) q := by
      intro i him
      obtain ⟨cs', h1, h2⟩ := hi i him
      rw [Tryz.cellsAtom] at h1
      obtain ⟨_, hlen, hcell⟩ := World.cells?_some h1
      match cs', hlen with
      | [u0, u1], _ =>
        obtain ⟨nm, A, n', c', ts, hv0, hv1, hz, ht⟩ := open_atom2 h2
        have e0 := hcell 0 (by omega)
        have e1 := hcell 1 (by omega)
        simp at e0 e1
        refine ⟨(nm, ts), ?_, hz, A, n', c', ?_, ht⟩
        · rw [← hv0]; simpa [Addr.add] using e0
        · rw [next_eq _ _ (by omega), ← hv1]; exact e1
    obtain ⟨f, hf⟩ := choose_lt each
    refine ⟨some a, len, cap, (List.range len).map f, hc, by simp, hl, hm, fun h0 => ⟨a, rfl, Nat.zero_le _, World.block_lt_of_cell? _ _ (by simpa [Addr.add] using (hf 0 (by omega)).1), fun i t ht => ?_⟩⟩
    have hil : i < len := by
      have := (List.getElem?_eq_some_iff.1 ht).1
      simpa using this
    have ht' : f i = t := by simpa [hil] using ht
    rw [← ht']
    exact hf i (by omega)

set_option maxRecDepth 100000 in
theorem open_atoms {b0 : Nat} {v : Value} {d : DataW H} {p : List MemPlace} (hv : Value.okWide Tryz.prog w .any b0 22 v) (h : DataW.Trod enc Tryz.prog w base spare held 22 v d p) :
    ∃ A n c xs, v = .slice A n c ∧ IsAtoms w 0 w.heap.size A n c xs := by
  obtain ⟨A, n, c, rfl⟩ := okWide_slice Tryz.underlying22 hv
  obtain ⟨fuel, hf⟩ := h
  exact open_atomsF (by simpa [Value.cells] using hf)
end

end Go.Proofs.YtcigljngiemdeaaGreat
