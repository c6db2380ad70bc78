/-
  What comes in: a slice of bytes, opened.
-/
import Derived.Test.YtcigljngiemdeaaGreatOpen
import Derived.Test.YtcigljngiemdeaaGreatDraw
namespace Go.Proofs.YtcigljngiemdeaaGreat
open Go.ChangeShapes Go.WideShapes Go.ChangeAt Go.RowKit Go.Deep

theorem Tryz.cellsByte : Tryz.prog.cellsOf 5 = 1 := by kernel_rfl

section
variable {H : Type} {enc : TypeId × Value → H} {w : World} {base : Nat} {spare : Nat → Bool} {held : Bool}

set_option maxRecDepth 100000 in
theorem open_bytes {b0 : Nat} {v : Value} {d : DataW H} {p : List MemPlace} (hv : Value.okWide Tryz.prog w .any b0 39 v) (h : DataW.Trod enc Tryz.prog w base spare held 39 v d p) :
    ∃ A n c, v = .slice A n c ∧ IsBytes w w.heap.size A n c := by
  obtain ⟨A, n, c, rfl⟩ := okWide_slice Tryz.underlying39 hv
  obtain ⟨fuel, hf⟩ := h
  rcases open_slice1 Tryz.underlying39 Tryz.cellsByte (by simpa [Value.cells] using hf) with ⟨hc, _⟩ | ⟨a, len, cap, m, k, V, D, P, hc, _, hl, hm, hmm, _, hi⟩
  · simp only [List.cons.injEq, and_true, Value.slice.injEq] at hc
    obtain ⟨rfl, rfl, rfl⟩ := hc
    exact ⟨none, 0, 0, rfl, Nat.le_refl _, Nat.zero_le _, fun h0 => absurd h0 (by omega)⟩
  · simp only [List.cons.injEq, and_true, Value.slice.injEq] at hc
    obtain ⟨rfl, rfl, rfl⟩ := hc
    have hlm : n ≤ m := by rw [hmm]; split <;> omega
    refine ⟨_, _, _, rfl, hl, hm, fun h0 => ⟨a, rfl, World.block_lt_of_cell? _ _ (by simpa [Addr.add] using (hi 0 (by omega)).1), fun i hin => ?_⟩⟩
    obtain ⟨c1, t1⟩ := hi i (by omega)
    obtain ⟨z, hz, _, hw⟩ := DataW.trod_int Tryz.underlying5 t1
    simp only [List.cons.injEq, and_true] at hz
    have hb : 0 ≤ z ∧ z ≤ 255 := by
      have h9 := hw
      simp [Lit.wf, IntKind.min, IntKind.max, IntKind.signed, IntKind.bits] at h9
      omega
    refine ⟨z.toNat, by omega, ?_⟩
    rw [c1, hz, Int.toNat_of_nonneg hb.1]
end

end Go.Proofs.YtcigljngiemdeaaGreat
