/-
  Facts drawn twice, facts and a change, two changes.
-/
import Derived.Test.YtbhkihnekendbaaDrawChange
import Derived.Test.YtbhkihnekendbaaDrawUp
namespace Go.Proofs.Ytbhkihnekendbaa
open Go.RowKit

/-- Two lists of facts were drawn. -/
def TwoLists (w : World) (e : Ending) (w' : World) : Prop :=
  ∃ (A : Option Addr) (k c : Nat) (xs : List At) (B : Option Addr) (m d : Nat) (ys : List At), (e = .returned (.tuple #[.slice A k c, .slice B m d]) ∧ k ≤ 41 ∧ m ≤ 41) ∧
    IsAtoms w' 0 w'.heap.size A k c xs ∧ IsAtoms w' 0 w'.heap.size B m d ys ∧ Below w.heap.size w w'

set_option maxRecDepth 100000 in
set_option maxHeartbeats 4000000 in
theorem drawChangeOf_any (A : Option Addr) (n c : Nat) (w : World) (h : IsBytes w w.heap.size A n c) :
    Calls Try.prog 25 #[.slice A n c] w (TwoLists w) := by
  go_enter Try.func25, Try.ntmps25
  go_wp2_with fail
  refine (open_any A n c w h).mono ?_; rintro e w1 ⟨b, n', ⟨rfl, hb⟩, hr, hb1⟩
  have HB1 := Lib.hid hb1; have R1 := Lib.hid hr
  have hbw : b < w1.heap.size := hr.1
  clear hb1 hr
  go_wp2_with fail
  refine (any_facts_draw b A n' c 0 w1 R1.out (by omega)).mono ?_; rintro e w2 ⟨L, k, d, xs, p2, ⟨rfl, hk, hp2⟩, hI, hr2, hg2⟩
  have hs2 := hg2.size
  have HI2 := Lib.hid hI; have R2 := Lib.hid hr2; have HB2 := Lib.hid (below_row HB1.out hg2 hb)
  clear hI hr2 hg2
  go_wp2_with fail
  refine (any_facts_draw b A n' c p2 w2 R2.out (by omega)).mono ?_; rintro e w3 ⟨L', k', d', ys, p3, ⟨rfl, hk', hp3⟩, hI', hr3, hg3⟩
  have HI3 := Lib.hid (atoms_grown HI2.out hg3 hbw).low; have HJ3 := Lib.hid hI'.low; have HB3 := Lib.hid (below_row HB2.out hg3 hb)
  clear hI' hr3 hg3
  go_wp2
  refine bodyPost_ret (v := .tuple #[.slice L k d, .slice L' k' d']) (by simp [results, Try.results25, go_sem]) rfl ?_
  exact ⟨L, k, d, xs, L', k', d', ys, ⟨rfl, hk, hk'⟩, HI3.out, HJ3.out, HB3.out⟩

/-- Facts and a change were drawn. -/
def ListChange (w : World) (e : Ending) (w' : World) : Prop :=
  ∃ (A : Option Addr) (k c : Nat) (xs : List At) (B : Option Addr) (m d : Nat) (cs : List At) (D : Option Addr) (m' d' : Nat) (gs : List At), (e = .returned (.tuple #[.slice A k c, .agg #[.slice B m d, .slice D m' d']]) ∧ k ≤ 41 ∧ m ≤ 41 ∧ m' ≤ 41) ∧
    IsAtoms w' 0 w'.heap.size A k c xs ∧ IsAtoms w' 0 w'.heap.size B m d cs ∧ IsAtoms w' 0 w'.heap.size D m' d' gs ∧ Below w.heap.size w w'

set_option maxRecDepth 100000 in
set_option maxHeartbeats 4000000 in
theorem drawChangeDo_any (A : Option Addr) (n c : Nat) (w : World) (h : IsBytes w w.heap.size A n c) :
    Calls Try.prog 32 #[.slice A n c] w (ListChange w) := by
  have hX0 := Bx.new w (.slice none 0 0) (.slice none 0 0) 38
  go_enter Try.func32, Try.ntmps32
  go_wp2_with fail
  refine (open_any A n c _ (h.up (below1 w _))).mono ?_; rintro e w1 ⟨b, n', ⟨rfl, hb⟩, hr, hb1⟩
  rw [size_alloc_eq] at hb
  have X1 := Lib.hid (hX0.later hb1)
  have HB1 := Lib.hid (belowThen (below1 w _) hb1); have R1 := Lib.hid hr
  have hbw : b < w1.heap.size := hr.1
  have hx1 := X1.out.1
  clear hb1 hr hX0
  go_wp2_with fail
  refine (any_facts_draw b A n' c 0 w1 R1.out (by omega)).mono ?_; rintro e w2 ⟨L, k, d, xs, p2, ⟨rfl, hk, hp2⟩, hI, hr2, hg2⟩
  have hs2 := hg2.size
  have HI2 := Lib.hid hI; have R2 := Lib.hid hr2; have HB2 := Lib.hid (below_row HB1.out hg2 (by omega)); have X2 := Lib.hid (X1.out.row hg2 (by omega))
  clear hI hr2 hg2
  go_wp2_with fail
  refine (any_change_draw b A n' c p2 w2 R2.out (by omega)).mono ?_; rintro e w3 ⟨A1, k1, c1, cs, A2, k2, c2, gs, p3, ⟨rfl, hk1, hk2, hp3⟩, hC, hG, hr3, hg3⟩
  have HI3 := Lib.hid (atoms_grown HI2.out hg3 hbw); have HC3 := Lib.hid hC; have HG3 := Lib.hid hG; have HB3 := Lib.hid (below_row HB2.out hg3 (by omega)); have X3 := Lib.hid (X2.out.row hg3 (by omega))
  clear hC hG hr3 hg3
  obtain ⟨x1, x2, x3, x4, x5⟩ := X3.out
  go_wp2
  refine bodyPost_ret (v := .tuple #[.slice L k d, .agg #[.slice A1 k1 c1, .slice A2 k2 c2]]) (by simp [results, Try.results32, go_sem, x2, x3]) rfl ?_
  exact ⟨L, k, d, xs, A1, k1, c1, cs, A2, k2, c2, gs, ⟨rfl, hk, hk1, hk2⟩, atoms_two HI3.out (by omega) (Nat.zero_le _), atoms_two HC3.out (by omega) (Nat.zero_le _), atoms_two HG3.out (by omega) (Nat.zero_le _), below_two HB3.out (Nat.le_refl _)⟩

end Go.Proofs.Ytbhkihnekendbaa
