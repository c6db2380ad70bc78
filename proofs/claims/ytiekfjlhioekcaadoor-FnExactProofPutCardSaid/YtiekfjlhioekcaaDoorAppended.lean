/-
  What stays where a row of atoms is appended to.
-/
import Derived.Test.YtiekfjlhioekcaaDoorCopy
namespace Go.Proofs.YtiekfjlhioekcaaDoor
open Go.RowKit

/-- What atoms' terms lie in stays where a row of atoms is appended to. -/
theorem OwnIn.appended {w w' : World} {lo hi hi' base k : Nat} {v : Value} {cs : List Value} {rs : List Rf} (h : OwnIn w lo hi rs) (hrow : w.ownsRow base 32 2 v k cs) (hg : w.grownBy w' v.ownBlock) (hh : hi ≤ hi') : OwnIn w' lo hi' rs := by
  have hw : OwnIn w' lo hi rs := by
    rcases hrow.2 with ⟨rfl, _⟩ | ⟨g, cap, cur, rfl, _, hgb, _⟩
    · refine ⟨fun q hq => termsFar (g := w.heap.size) (fun b hb _ => hg.block b hb (by simp [Value.ownBlock])) (h.1 q hq) (fun h0 e => ?_), h.2⟩
      obtain ⟨g2, _, _, x1, _, _, x4, _⟩ := (h.1 q hq).2.2 h0
      rw [e] at x1
      injection x1 with x1
      injection x1 with x1
      have := x4.lt
      omega
    · refine ⟨fun q hq => termsFar (g := g) (fun b hb hne => hg.block b hb (by simp [Value.ownBlock]; exact hne)) (h.1 q hq) (fun h0 e => ?_), h.2⟩
      obtain ⟨g2, _, _, x1, _, _, x4, _⟩ := (h.1 q hq).2.2 h0
      rw [e] at x1
      injection x1 with x1
      injection x1 with x1
      subst x1
      obtain ⟨c2, y1, _⟩ := x4
      rw [hgb] at y1
      injection y1 with y1
      injection y1 with _ y1
      exact absurd y1 (by decide)
  exact hw.keep (fun _ _ _ => rfl) (Nat.le_refl _) hh

theorem two_new (W : World) (x y : Value) (t : TypeId) : ∀ j u, [x, y][j]? = some u → (W.alloc (.cells #[x, y] t)).cell? ((⟨W.heap.size, 0, none⟩ : Addr).add j) = some u := by
  intro j u hu
  match j, hu with
  | 0, hu => simp at hu; subst hu; simp [go_sem, Addr.add]
  | 1, hu => simp at hu; subst hu; simp [go_sem, Addr.add]

/-- A copy of a list of atoms. -/
def CopySPost (xs : List At) (w : World) (e : Ending) (w' : World) : Prop :=
  ∃ A c rs, e = .returned (.slice A xs.length c) ∧ OwnRefs w' w.heap.size w'.heap.size A xs.length c rs ∧ rs.map rAt = xs ∧ Below w.heap.size w w'

/-- One more in a copy. -/
theorem copy_more {w wr w1 w2 : World} {k g cap n' d : Nat} {v : Value} {rs : List Rf} {L : List At} {q : At} {A' : Option Addr} {o : Obj} (hl : rs.length = k) (hm : rs.map rAt = L)
    (ho : OwnIn wr w.heap.size wr.heap.size rs) (hb : Below w.heap.size w wr) (hb1 : Below wr.heap.size wr w1) (hs : q.1.size ≤ maxLen)
    (hT : IsTerms w1 wr.heap.size w1.heap.size A' n' d q.2) (hR : 0 < n' → RowAt w1 wr.heap.size w1.heap.size 75 A' (n' * 2))
    (hrow : w1.ownsRow w.heap.size 32 2 v k (rcells rs)) (hown : w2.ownsRow w.heap.size 32 2 (.slice (some ⟨g, 0, none⟩) (k + 1) cap) (k + 1) (rcells rs ++ [.string q.1, .slice A' n' d])) (hgrow : (w1.alloc o).grownBy w2 v.ownBlock) :
    ∃ rs', rs'.length = k + 1 ∧ rs'.map rAt = L ++ [q] ∧ w2.ownsRow w.heap.size 32 2 (.slice (some ⟨g, 0, none⟩) (k + 1) cap) (k + 1) (rcells rs') ∧ OwnIn w2 w.heap.size w2.heap.size rs' ∧ Below w.heap.size w w2 := by
  have hsz : w1.heap.size ≤ w2.heap.size := Nat.le_trans (by simp) hgrow.size
  have hB1 : Below w.heap.size w w1 := belowThen hb hb1
  refine ⟨rs ++ [(q.1, A', n', d, q.2)], by rw [List.length_append, hl]; rfl, ?_, ?_, ?_, ?_⟩
  · rw [List.map_append, hm]; rfl
  · rw [rcells_snoc]; exact hown
  · have h1 := ho.snoc (w' := w1) (hi' := w1.heap.size) (r := (q.1, A', n', d, q.2)) (fun b _ h2 => hb1.block b h2) hb1.size hs hb.size hT hR
    have h2 := h1.keep (w' := w1.alloc o) (fun b _ h => Below.heap_alloc w1 o b h) (Nat.le_refl _) (Nat.le_refl _)
    exact h2.appended (hrow.alloc o) hgrow hsz
  · refine ((hB1.alloc hB1.size o).grown hgrow (by simp; have := hB1.size; omega) (fun j ej => ?_))
    rcases hrow.2 with ⟨rfl, _⟩ | ⟨g', cap', cur, rfl, hbg, _, _⟩
    · simp [Value.ownBlock] at ej
    · obtain rfl : g' = j := by simpa [Value.ownBlock] using ej
      exact hbg

theorem copy_on {w wr w1 w2 : World} {k g cap n' d : Nat} {v : Value} {rs : List Rf} {xs : List At} {q : At} {A' : Option Addr} {o : Obj} (hl : rs.length = k) (hm : rs.map rAt = xs.take k) (hq : xs[k]? = some q)
    (ho : OwnIn wr w.heap.size wr.heap.size rs) (hb : Below w.heap.size w wr) (hb1 : Below wr.heap.size wr w1) (hs : q.1.size ≤ maxLen)
    (hT : IsTerms w1 wr.heap.size w1.heap.size A' n' d q.2) (hR : 0 < n' → RowAt w1 wr.heap.size w1.heap.size 75 A' (n' * 2))
    (hrow : w1.ownsRow w.heap.size 32 2 v k (rcells rs)) (hown : w2.ownsRow w.heap.size 32 2 (.slice (some ⟨g, 0, none⟩) (k + 1) cap) (k + 1) (rcells rs ++ [.string q.1, .slice A' n' d])) (hgrow : (w1.alloc o).grownBy w2 v.ownBlock) :
    ∃ rs', rs'.length = k + 1 ∧ rs'.map rAt = xs.take (k + 1) ∧ w2.ownsRow w.heap.size 32 2 (.slice (some ⟨g, 0, none⟩) (k + 1) cap) (k + 1) (rcells rs') ∧ OwnIn w2 w.heap.size w2.heap.size rs' ∧ Below w.heap.size w w2 := by
  obtain ⟨rs', a, b, c, d', e⟩ := copy_more hl hm ho hb hb1 hs hT hR hrow hown hgrow
  exact ⟨rs', a, by rw [b, List.take_add_one, hq]; rfl, c, d', e⟩

theorem ownsRow_up {w w' : World} {base size k : Nat} {e : TypeId} {v : Value} {xs : List Value} (h : w.ownsRow base e size v k xs) (hb : Below w.heap.size w w') : w'.ownsRow base e size v k xs :=
  h.kept (row := none) ⟨hb.os, hb.tape, hb.output, hb.size, fun i hi _ => hb.block i hi⟩ (by
    rcases h.2 with ⟨rfl, _⟩ | ⟨g, cap, cur, rfl, _⟩
    · exact .inl rfl
    · exact .inr (by simp [Value.ownBlock]))

end Go.Proofs.YtiekfjlhioekcaaDoor
