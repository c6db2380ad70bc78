/-
  Rules: the law's own sizes, copies and comparisons of one rule.
-/
import Derived.Test.YtnhbnhibphjljaaGreatDoorParts
namespace Go.Proofs.YtnhbnhibphjljaaGreatDoor
open Go.RowKit

/-- The terms of a rule's head, and its parts. -/
def IsRule (w : World) (hi : Nat) (A : Option Addr) (n c : Nat) (B : Option Addr) (m d : Nat) (ts : List Tm) (xs : List Pt) : Prop := IsTerms w 0 hi A n c ts ∧ IsParts w 0 hi B m d xs

theorem IsRule.up {w w' : World} {A B : Option Addr} {n c m d : Nat} {ts : List Tm} {xs : List Pt} (h : IsRule w w.heap.size A n c B m d ts xs) (hb : Below w.heap.size w w') : IsRule w' w'.heap.size A n c B m d ts xs :=
  ⟨h.1.up hb, h.2.up PartE.stays hb⟩

theorem IsRule.head {w : World} {hi n c m d : Nat} {A B : Option Addr} {ts : List Tm} {xs : List Pt} (h : IsRule w hi A n c B m d ts xs) : IsTerms w 0 hi A n c ts := h.1
theorem IsRule.body {w : World} {hi n c m d : Nat} {A B : Option Addr} {ts : List Tm} {xs : List Pt} (h : IsRule w hi A n c B m d ts xs) : IsParts w 0 hi B m d xs := h.2

/-- Three cells of a box. -/
def Box3 (w : World) (b : Nat) (u v x : Value) : Prop := b < w.heap.size ∧ w.cell? ⟨b, 0, none⟩ = some u ∧ w.cell? ⟨b, 1, none⟩ = some v ∧ w.cell? ⟨b, 2, none⟩ = some x

theorem Box3.new (w : World) (u v x : Value) (t : TypeId) : Box3 (w.alloc (.cells #[u, v, x] t)) w.heap.size u v x := by
  refine ⟨by simp, ?_, ?_, ?_⟩ <;> simp [go_sem]

theorem Box3.later {w w' : World} {b : Nat} {u v x : Value} (h : Box3 w b u v x) (hb : Below w.heap.size w w') : Box3 w' b u v x :=
  ⟨Nat.lt_of_lt_of_le h.1 hb.size, (hb.cell (p := ⟨b, 0, none⟩) h.1).trans h.2.1, (hb.cell (p := ⟨b, 1, none⟩) h.1).trans h.2.2.1, (hb.cell (p := ⟨b, 2, none⟩) h.1).trans h.2.2.2⟩

theorem Box3.other {w : World} {b : Nat} {u v x : Value} (h : Box3 w b u v x) {a : Addr} (ha : b ≠ a.block) (y : Value) : Box3 (w.setCell a y) b u v x :=
  ⟨by rw [size_setCell]; exact h.1, by rw [World.cell?_setCell_other _ _ _ _ (fun e => by subst e; simp at ha)]; exact h.2.1, by rw [World.cell?_setCell_other _ _ _ _ (fun e => by subst e; simp at ha)]; exact h.2.2.1, by rw [World.cell?_setCell_other _ _ _ _ (fun e => by subst e; simp at ha)]; exact h.2.2.2⟩

/-- A rule by value has few terms and parts. -/
def SmallRule (n m : Nat) (xs : List Pt) : Prop := n ≤ 1048576 ∧ SmallParts m xs

set_option maxHeartbeats 1000000 in
theorem szRule_any (nm : ByteArray) (A : Option Addr) (n c : Nat) (B : Option Addr) (m d : Nat) (ts : List Tm) (xs : List Pt) (z : Int) (w : World) (hs : nm.size ≤ maxLen) (h : IsRule w w.heap.size A n c B m d ts xs) (hz0 : 0 ≤ z) (hz1 : z ≤ 1048576) :
    Calls Tryz.prog 55 #[.agg #[.string nm, .slice A n c, .slice B m d], .int .i64 z] w (SzPost z (SmallRule n m xs) w) := by
  have H := Lib.hid h; clear h
  have B0 := Lib.hid (Box3.new w (.string nm) (.slice A n c) (.slice B m d) 83)
  go_enter Tryz.func55, Tryz.ntmps55
  go_wp2_with fail
  refine (szAtom_any _ _ _ _ ts _ _ hs (H.out.up (below1 _ _)).1 hz0 hz1).mono ?_; rintro e w1 ⟨y1, ⟨rfl, hy2, hy3, hy4⟩, hb1⟩
  obtain ⟨x1, x2, x3, x4⟩ := B0.out.later hb1
  have HB1 := belowThen (below1 _ _) hb1
  go_wp2_with fail
  · go_ret; exact ⟨_, ⟨rfl, by omega, by omega, by omega⟩, HB1⟩
  · have hn : n ≤ 1048576 := hy4 (by assumption)
    refine (szPartS_any _ _ _ xs _ _ (H.out.up HB1).2 (by assumption) (by omega)).mono ?_; rintro e w2 ⟨y2, ⟨rfl, hz2, hz3, hz4⟩, hb2⟩
    go_wp2
    · go_ret; exact ⟨_, ⟨rfl, by omega, by omega, by omega⟩, belowThen HB1 hb2⟩
    · go_ret; exact ⟨_, ⟨rfl, by omega, by omega, fun h0 => ⟨hn, hz4 h0⟩⟩, belowThen HB1 hb2⟩

/-- A copy of a rule, in memory of its own. -/
def OwnRule (w : World) (g g' n m : Nat) (ts : List Tm) (xs : List Pt) : Prop := IsTerms w 0 w.heap.size (some ⟨g, 0, none⟩) n n ts ∧ IsParts w 0 w.heap.size (some ⟨g', 0, none⟩) m m xs

theorem OwnRule.below {w w' : World} {g g' n m : Nat} {ts : List Tm} {xs : List Pt} (h : OwnRule w g g' n m ts xs) (hb : Below w.heap.size w w') : OwnRule w' g g' n m ts xs := ⟨h.1.up hb, h.2.up PartE.stays hb⟩

theorem OwnRule.is_ {w : World} {g g' n m : Nat} {ts : List Tm} {xs : List Pt} (h : OwnRule w g g' n m ts xs) : IsRule w w.heap.size (some ⟨g, 0, none⟩) n n (some ⟨g', 0, none⟩) m m ts xs := h

def RulePost (nm : ByteArray) (n m : Nat) (ts : List Tm) (xs : List Pt) (w : World) (e : Ending) (w' : World) : Prop := ∃ g g', e = .returned (.agg #[.string nm, .slice (some ⟨g, 0, none⟩) n n, .slice (some ⟨g', 0, none⟩) m m]) ∧ OwnRule w' g g' n m ts xs ∧ Below w.heap.size w w'

/-- A block that was there, whose first cells may be written. -/
def Mine (w : World) (b n : Nat) : Prop := b < w.heap.size ∧ ∀ j, j < n → w.frozen? ⟨b, j, none⟩ = false ∧ ∃ x, w.cell? ⟨b, j, none⟩ = some x

set_option maxHeartbeats 2000000 in
theorem toRule_any (nm : ByteArray) (A : Option Addr) (n c : Nat) (B : Option Addr) (m d : Nat) (ts : List Tm) (xs : List Pt) (w : World) (h : IsRule w w.heap.size A n c B m d ts xs) (hn : SmallRule n m xs) :
    Calls Tryz.prog 60 #[.agg #[.string nm, .slice A n c, .slice B m d]] w (RulePost nm n m ts xs w) := by
  obtain ⟨hn1, hn2⟩ := hn
  have H := Lib.hid h; clear h
  have HN := Lib.hid hn2; clear hn2
  go_enter Tryz.func60, Tryz.ntmps60
  go_wp2_with fail
  refine (toAtom_any _ _ _ _ ts _ (H.out.up (below3 _ _ _ _)).1 hn1).mono ?_; rintro e w1 ⟨g, rfl, hg, ho, hb1⟩
  simp only [size_alloc_eq] at hg
  have HB1 := belowThen (below3 _ _ _ _) hb1
  obtain ⟨hc, hf⟩ := oldCells hb1
  have hz : w.heap.size + 1 + 1 < w1.heap.size := by have := hb1.size; simp at this; omega
  have hz' : w.heap.size + 1 < w1.heap.size := by omega
  have hz'' : w.heap.size < w1.heap.size := by omega
  have R1 : Box3 w1 (w.heap.size + 1) (.string ⟨#[]⟩) (.slice none 0 0) (.slice none 0 0) := by
    refine ⟨by omega, ?_, ?_, ?_⟩ <;> (rw [hc _ _ (by simp)]; simp [go_sem])
  have RW := (R1.other (a := ⟨w.heap.size + 1 + 1, 0, none⟩) (by simp) (.string nm)).other (a := ⟨w.heap.size + 1 + 1, 1, none⟩) (by simp) (.slice (some ⟨g, 0, none⟩) n n)
  have HBW := (HB1.setCell (p := ⟨w.heap.size + 1 + 1, 0, none⟩) (by simp; omega) (.string nm)).setCell (p := ⟨w.heap.size + 1 + 1, 1, none⟩) (by simp; omega) (.slice (some ⟨g, 0, none⟩) n n)
  have hoW := (ho.setOther (a := ⟨w.heap.size + 1 + 1, 0, none⟩) (by simp; omega) (.string nm)).setOther (a := ⟨w.heap.size + 1 + 1, 1, none⟩) (by simp; omega) (.slice (some ⟨g, 0, none⟩) n n)
  go_wp2_with fail
  refine (toPartS_any _ _ _ xs _ (H.out.up HBW).2 HN.out).mono ?_; rintro e w2 ⟨g', rfl, hg', hp2, hb2⟩
  have HB2 := belowThen HBW hb2
  have ho2 := hoW.below hb2
  have R2 := RW.later hb2
  clear HBW hoW RW R1
  obtain ⟨hc2, hf2⟩ := oldCells hb2
  simp only [size_setCell] at hg'
  have hy : w.heap.size + 1 + 1 < w2.heap.size := by have := hb2.size; rw [size_setCell, size_setCell] at this; omega
  go_wp2
  obtain ⟨r1, r2, r3, r4⟩ := R2
  have hx1 : g < w2.heap.size := ho2.2.2.lt
  have hlo : w.heap.size + 1 + 1 < g' := by omega
  refine bodyPost_ret (v := .agg #[.string nm, .slice (some ⟨g, 0, none⟩) n n, .slice (some ⟨g', 0, none⟩) m m]) (by simp [results, Tryz.results60, go_sem, r2, r3, r4]) rfl ⟨g, g', rfl, ?_, ?_⟩
  · refine ⟨((((ho2.setOther (a := ⟨w.heap.size + 1 + 1, 2, none⟩) (by simp; omega) _).setOther (a := ⟨w.heap.size + 1, 0, none⟩) (by simp; omega) _).setOther (a := ⟨w.heap.size + 1, 1, none⟩) (by simp; omega) _).setOther (a := ⟨w.heap.size + 1, 2, none⟩) (by simp; omega) _).is_ (by unfold maxLen; omega) (Nat.zero_le _), ?_⟩
    refine hp2.keep PartE.stays (fun q hq _ => ?_) (Nat.zero_le _) (by simp [World.setCell])
    have hq' : w.heap.size + 1 + 1 < q.block := by rw [size_setCell, size_setCell] at hq; omega
    rw [World.cell?_setCell_other _ _ _ _ (fun e => by subst e; simp at hq'; try omega), World.cell?_setCell_other _ _ _ _ (fun e => by subst e; simp at hq'; try omega), World.cell?_setCell_other _ _ _ _ (fun e => by subst e; simp at hq'; try omega), World.cell?_setCell_other _ _ _ _ (fun e => by subst e; simp at hq'; try omega)]
  · exact (((HB2.setCell (p := ⟨w.heap.size + 1 + 1, 2, none⟩) (by simp; omega) _).setCell (p := ⟨w.heap.size + 1, 0, none⟩) (by simp) _).setCell (p := ⟨w.heap.size + 1, 1, none⟩) (by simp) _).setCell (p := ⟨w.heap.size + 1, 2, none⟩) (by simp) _

end Go.Proofs.YtnhbnhibphjljaaGreatDoor
