/-
  Rules: the law's own sizes, copies and comparisons of one rule.
-/
import Derived.Test.YtiekfjlhioekcaaDoorParts
namespace Go.Proofs.YtiekfjlhioekcaaDoor
open Go.RowKit

/-- The terms of a rule's head, and its parts. -/
def IsRule (w : World) (hi : Nat) (A : Option Addr) (n c : Nat) (B : Option Addr) (m d : Nat) (ts : List Tm) (xs : List Pt) : Prop := IsTerms w 0 hi A n c ts ∧ IsParts w 0 hi B m d xs

theorem IsRule.up {w w' : World} {A B : Option Addr} {n c m d : Nat} {ts : List Tm} {xs : List Pt} (h : IsRule w w.heap.size A n c B m d ts xs) (hb : Below w.heap.size w w') : IsRule w' w'.heap.size A n c B m d ts xs :=
  ⟨h.1.up hb, h.2.up PartE.stays hb⟩

theorem IsRule.head {w : World} {hi n c m d : Nat} {A B : Option Addr} {ts : List Tm} {xs : List Pt} (h : IsRule w hi A n c B m d ts xs) : IsTerms w 0 hi A n c ts := h.1
theorem IsRule.body {w : World} {hi n c m d : Nat} {A B : Option Addr} {ts : List Tm} {xs : List Pt} (h : IsRule w hi A n c B m d ts xs) : IsParts w 0 hi B m d xs := h.2

/-- Three cells of a box. -/
def Box3 (w : World) (b : Nat) (u v x : Value) : Prop := b < w.heap.size ∧ w.cell? ⟨b, 0, none⟩ = some u ∧ w.cell? ⟨b, 1, none⟩ = some v ∧ w.cell? ⟨b, 2, none⟩ = some x

theorem Box3.new (w : World) (u v x : Value) (t : TypeId) : Box3 (w.alloc (.cells #[u, v, x] t)) w.heap.size u v x := by
  refine ⟨by simp, ?_, ?_, ?_⟩ <;> simp [go_sem]

theorem Box3.later {w w' : World} {b : Nat} {u v x : Value} (h : Box3 w b u v x) (hb : Below w.heap.size w w') : Box3 w' b u v x :=
  ⟨Nat.lt_of_lt_of_le h.1 hb.size, (hb.cell (p := ⟨b, 0, none⟩) h.1).trans h.2.1, (hb.cell (p := ⟨b, 1, none⟩) h.1).trans h.2.2.1, (hb.cell (p := ⟨b, 2, none⟩) h.1).trans h.2.2.2⟩

theorem Box3.other {w : World} {b : Nat} {u v x : Value} (h : Box3 w b u v x) {a : Addr} (ha : b ≠ a.block) (y : Value) : Box3 (w.setCell a y) b u v x :=
  ⟨by rw [size_setCell]; exact h.1, by rw [World.cell?_setCell_other _ _ _ _ (fun e => by subst e; simp at ha)]; exact h.2.1, by rw [World.cell?_setCell_other _ _ _ _ (fun e => by subst e; simp at ha)]; exact h.2.2.1, by rw [World.cell?_setCell_other _ _ _ _ (fun e => by subst e; simp at ha)]; exact h.2.2.2⟩

/-- A rule by value has few terms and parts. -/
def SmallRule (n m : Nat) (xs : List Pt) : Prop := n ≤ 1048576 ∧ SmallParts m xs


/-- A copy of a rule, in memory of its own. -/
def OwnRule (w : World) (g g' n m : Nat) (ts : List Tm) (xs : List Pt) : Prop := IsTerms w 0 w.heap.size (some ⟨g, 0, none⟩) n n ts ∧ IsParts w 0 w.heap.size (some ⟨g', 0, none⟩) m m xs

theorem OwnRule.below {w w' : World} {g g' n m : Nat} {ts : List Tm} {xs : List Pt} (h : OwnRule w g g' n m ts xs) (hb : Below w.heap.size w w') : OwnRule w' g g' n m ts xs := ⟨h.1.up hb, h.2.up PartE.stays hb⟩

theorem OwnRule.is_ {w : World} {g g' n m : Nat} {ts : List Tm} {xs : List Pt} (h : OwnRule w g g' n m ts xs) : IsRule w w.heap.size (some ⟨g, 0, none⟩) n n (some ⟨g', 0, none⟩) m m ts xs := h

def RulePost (nm : ByteArray) (n m : Nat) (ts : List Tm) (xs : List Pt) (w : World) (e : Ending) (w' : World) : Prop := ∃ g g', e = .returned (.agg #[.string nm, .slice (some ⟨g, 0, none⟩) n n, .slice (some ⟨g', 0, none⟩) m m]) ∧ OwnRule w' g g' n m ts xs ∧ Below w.heap.size w w'

/-- A block that was there, whose first cells may be written. -/
def Mine (w : World) (b n : Nat) : Prop := b < w.heap.size ∧ ∀ j, j < n → w.frozen? ⟨b, j, none⟩ = false ∧ ∃ x, w.cell? ⟨b, j, none⟩ = some x


end Go.Proofs.YtiekfjlhioekcaaDoor
