/-
  Two changes drawn, and what they do one behind the other.
-/
import Derived.Test.YtbhkihnekendbaaLawKit2
import Derived.Test.YtbhkihnekendbaaDrawPairs
import Derived.Test.YtbhkihnekendbaaBothI
namespace Go.Proofs.Ytbhkihnekendbaa
open Go.RowKit

/-- Two changes were drawn. -/
def TwoChanges (w : World) (e : Ending) (w' : World) : Prop :=
  ∃ (A1 : Option Addr) (n1 c1 : Nat) (ca : List At) (A2 : Option Addr) (n2 c2 : Nat) (ga : List At) (B1 : Option Addr) (m1 d1 : Nat) (cb : List At) (B2 : Option Addr) (m2 d2 : Nat) (gb : List At),
    (e = .returned (.tuple #[.agg #[.slice A1 n1 c1, .slice A2 n2 c2], .agg #[.slice B1 m1 d1, .slice B2 m2 d2]]) ∧ n1 ≤ 41 ∧ n2 ≤ 41 ∧ m1 ≤ 41 ∧ m2 ≤ 41) ∧
    (IsAtoms w' 0 w'.heap.size A1 n1 c1 ca ∧ IsAtoms w' 0 w'.heap.size A2 n2 c2 ga) ∧ (IsAtoms w' 0 w'.heap.size B1 m1 d1 cb ∧ IsAtoms w' 0 w'.heap.size B2 m2 d2 gb) ∧ Below w.heap.size w w'

theorem atoms_four {w : World} {lo n c x x' : Nat} {A : Option Addr} {xs : List At} {u v u' v' : Value} (h : IsAtoms w lo w.heap.size A n c xs) (hx : x < lo) (hx' : x' < lo) :
    IsAtoms ((((w.setCell ⟨x, 0, none⟩ u).setCell ⟨x, 1, none⟩ v).setCell ⟨x', 0, none⟩ u').setCell ⟨x', 1, none⟩ v') 0 ((((w.setCell ⟨x, 0, none⟩ u).setCell ⟨x, 1, none⟩ v).setCell ⟨x', 0, none⟩ u').setCell ⟨x', 1, none⟩ v').heap.size A n c xs :=
  atoms_two (atoms_two (lo' := lo) h hx (Nat.le_refl _)) hx' (Nat.zero_le _)

set_option maxRecDepth 100000 in
set_option maxHeartbeats 4000000 in
theorem drawChangeBoth_any (A : Option Addr) (n c : Nat) (w : World) (h : IsBytes w w.heap.size A n c) :
    Calls Try.prog 35 #[.slice A n c] w (TwoChanges w) := by
  have hX0 := (Bx.new w (.slice none 0 0) (.slice none 0 0) 38).later (below1 _ (.cells #[.slice none 0 0, .slice none 0 0] 38))
  have hY0 := Bx.new (w.alloc (.cells #[.slice none 0 0, .slice none 0 0] 38)) (.slice none 0 0) (.slice none 0 0) 38
  rw [size_alloc_eq] at hY0
  go_enter Try.func35, Try.ntmps35
  go_wp2_with fail
  refine (open_any A n c _ (h.up (below2 w _ _))).mono ?_; rintro e w1 ⟨b, n', ⟨rfl, hb⟩, hr, hb1⟩
  rw [size_alloc_eq, size_alloc_eq] at hb
  have X1 := Lib.hid (hX0.later hb1); have Y1 := Lib.hid (hY0.later hb1)
  have HB1 := Lib.hid (belowThen (below2 w _ _) hb1); have R1 := Lib.hid hr
  have hbw : b < w1.heap.size := hr.1
  have hx1 := Y1.out.1
  clear hb1 hr hX0 hY0
  go_wp2_with fail
  refine (any_change_draw b A n' c 0 w1 R1.out (by omega)).mono ?_; rintro e w2 ⟨A1, n1, c1, ca, A2, n2, c2, ga, p2, ⟨rfl, hk1, hk2, hp2⟩, hC, hG, hr2, hg2⟩
  have hs2 := hg2.size
  have HC2 := Lib.hid hC; have HG2 := Lib.hid hG; have R2 := Lib.hid hr2; have HB2 := Lib.hid (below_row HB1.out hg2 (by omega)); have X2 := Lib.hid (X1.out.row hg2 (by omega)); have Y2 := Lib.hid (Y1.out.row hg2 (by omega))
  clear hC hG hr2 hg2 X1 Y1
  go_wp2_with fail
  refine (any_change_draw b A n' c p2 w2 R2.out (by omega)).mono ?_; rintro e w3 ⟨B1, m1, d1, cb, B2, m2, d2, gb, p3, ⟨rfl, hk3, hk4, hp3⟩, hC, hG, hr3, hg3⟩
  have HC3 := Lib.hid (atoms_grown HC2.out hg3 hbw); have HG3 := Lib.hid (atoms_grown HG2.out hg3 hbw); have KC3 := Lib.hid hC; have KG3 := Lib.hid hG; have HB3 := Lib.hid (below_row HB2.out hg3 (by omega)); have X3 := Lib.hid (X2.out.row hg3 (by omega)); have Y3 := Lib.hid (Y2.out.row hg3 (by omega))
  clear hC hG hr3 hg3 X2 Y2
  obtain ⟨x1, x2, x3, x4, x5⟩ := X3.out
  obtain ⟨y1, y2, y3, y4, y5⟩ := Y3.out
  go_wp2
  refine bodyPost_ret (v := .tuple #[.agg #[.slice A1 n1 c1, .slice A2 n2 c2], .agg #[.slice B1 m1 d1, .slice B2 m2 d2]]) (by simp [results, Try.results35, go_sem, x2, x3, y2, y3]) rfl ?_
  exact ⟨A1, n1, c1, ca, A2, n2, c2, ga, B1, m1, d1, cb, B2, m2, d2, gb, ⟨rfl, hk1, hk2, hk3, hk4⟩, ⟨atoms_four HC3.out (by omega) (by omega), atoms_four HG3.out (by omega) (by omega)⟩, ⟨atoms_four KC3.out (by omega) (by omega), atoms_four KG3.out (by omega) (by omega)⟩, below_two (below_two HB3.out (Nat.le_refl _)) (by omega)⟩

/-- A list of facts was drawn. -/
def OneList (w : World) (e : Ending) (w' : World) : Prop := ∃ (A : Option Addr) (k c : Nat) (xs : List At), (e = .returned (.slice A k c) ∧ k ≤ 41) ∧ IsAtoms w' 0 w'.heap.size A k c xs ∧ Below w.heap.size w w'

set_option maxRecDepth 100000 in
set_option maxHeartbeats 4000000 in
theorem drawFactsOk_any (A : Option Addr) (n c : Nat) (w : World) (h : IsBytes w w.heap.size A n c) :
    Calls Try.prog 38 #[.slice A n c] w (OneList w) := by
  go_enter Try.func38, Try.ntmps38
  go_wp2_with fail
  refine (open_any A n c w h).mono ?_; rintro e w1 ⟨b, n', ⟨rfl, hb⟩, hr, hb1⟩
  go_wp2_with fail
  refine (any_facts_draw b A n' c 0 w1 hr (by omega)).mono ?_; rintro e w2 ⟨L, k, d, xs, p2, ⟨rfl, hk, hp2⟩, hI, hr2, hg2⟩
  have HI := Lib.hid hI.low; have HB := Lib.hid (below_row hb1 hg2 hb)
  clear hI hr2 hg2 hr hb1
  go_wp2
  go_ret
  exact ⟨_, _, _, xs, ⟨rfl, hk⟩, HI.out, HB.out⟩

/-- Two lists were told, and whether it was done, in a world that keeps what was in w. -/
def PairBFrom (w : World) (P Q : List At) (q : Bool) (e : Ending) (W' : World) : Prop := ∃ (A : Option Addr) (c : Nat) (B : Option Addr) (d : Nat), e = .returned (.tuple #[.agg #[.slice A P.length c, .slice B Q.length d], .bool q]) ∧
  IsAtoms W' 0 W'.heap.size A P.length c P ∧ IsAtoms W' 0 W'.heap.size B Q.length d Q ∧ Below w.heap.size w W'

theorem OwnQPost.pair {w W W' : World} {p : (List At × List At) × Bool} {P Q : List At} {q : Bool} {e : Ending} (hW : Below w.heap.size w W) (hp : p = ((P, Q), q)) (h : OwnQPost p W e W') : PairBFrom w P Q q e W' := by
  subst hp
  obtain ⟨A, c, ra, B, d, rb, mid, rfl, ⟨h1, h2⟩, ⟨h3, h4⟩, ⟨h5, h6⟩, h7⟩ := h
  exact ⟨A, c, B, d, rfl, h1.told h2 h6, h3.told h4 (Nat.le_refl _), belowThen hW h7⟩

section
variable {w W : World} {A1 A2 B1 B2 : Option Addr} {n1 c1 n2 c2 m1 d1 m2 d2 : Nat} {ca ga cb gb P Q : List At} {q : Bool}
theorem bothI_from (h1 : IsAtoms w 0 w.heap.size A1 n1 c1 ca) (h2 : IsAtoms w 0 w.heap.size A2 n2 c2 ga) (h3 : IsAtoms w 0 w.heap.size B1 m1 d1 cb) (h4 : IsAtoms w 0 w.heap.size B2 m2 d2 gb) (hp : bothL ca ga cb gb = ((P, Q), q)) (hW : Below w.heap.size w W) :
    Calls Try.prog 36 #[.agg #[.slice A1 n1 c1, .slice A2 n2 c2], .agg #[.slice B1 m1 d1, .slice B2 m2 d2]] W (PairBFrom w P Q q) :=
  (implChangeBoth_any A1 A2 B1 B2 n1 c1 n2 c2 m1 d1 m2 d2 ca ga cb gb W (h1.up AtomE.stays hW) (h2.up AtomE.stays hW) (h3.up AtomE.stays hW) (h4.up AtomE.stays hW)).mono fun _ _ x => x.pair hW hp
theorem bothS_from (h1 : IsAtoms w 0 w.heap.size A1 n1 c1 ca) (h2 : IsAtoms w 0 w.heap.size A2 n2 c2 ga) (h3 : IsAtoms w 0 w.heap.size B1 m1 d1 cb) (h4 : IsAtoms w 0 w.heap.size B2 m2 d2 gb) (hp : bothL ca ga cb gb = ((P, Q), q)) (hW : Below w.heap.size w W) :
    Calls Try.prog 37 #[.agg #[.slice A1 n1 c1, .slice A2 n2 c2], .agg #[.slice B1 m1 d1, .slice B2 m2 d2]] W (PairBFrom w P Q q) :=
  (specChangeBoth_any A1 A2 B1 B2 n1 c1 n2 c2 m1 d1 m2 d2 ca ga cb gb W (h1.up AtomE.stays hW) (h2.up AtomE.stays hW) (h3.up AtomE.stays hW) (h4.up AtomE.stays hW)).mono fun _ _ x => x.pair hW hp
end

/-- A change that two are made does what both do, one behind the other. -/
theorem both_law {xs ca ga cb gb P Q : List At} (hx : factsB 300 xs = true) (h : bothL ca ga cb gb = ((P, Q), true)) (hl : xs.length ≤ 100) (ha : ca.length ≤ 41) (hb : cb.length ≤ 41) :
    ∃ D1 D2, (doneL xs P Q).1 = D2 ∧ (doneL xs ca ga).1 = D1 ∧ (doneL D1 cb gb).1 = D2 := by
  have hc : changeB ca ga = true ∧ changeB cb gb = true ∧ changeB (doL ca cb gb) (doL ga gb cb) = true := by
    unfold bothL at h
    by_cases hh : (changeB ca ga && changeB cb gb && changeB (doL ca cb gb) (doL ga gb cb)) = true
    · simp only [Bool.and_eq_true] at hh; exact ⟨hh.1.1, hh.1.2, hh.2⟩
    · rw [if_neg hh] at h; injection h with _ h2; cases h2
  obtain ⟨h1, h2, h3⟩ := hc
  rw [bothL_yes (by rw [h1]; rfl) (by rw [h2]; rfl) (by rw [h3]; rfl)] at h
  injection h with hpq _
  injection hpq with hp hq
  subst hp; subst hq
  obtain ⟨x1, x2, x3⟩ := facts_parts hx
  have p1 := changeB_parts (cs := ca) (gs := ga) (by rw [h1]; rfl)
  have p2 := changeB_parts (cs := cb) (gs := gb) (by rw [h2]; rfl)
  have p3 := changeB_parts (cs := doL ca cb gb) (gs := doL ga gb cb) (by rw [h3]; rfl)
  obtain ⟨a1, a2, a3⟩ := facts_parts p1.1
  obtain ⟨g1, g2, g3⟩ := facts_parts p1.2
  obtain ⟨b1, b2, b3⟩ := facts_parts p2.1
  obtain ⟨k1, k2, k3⟩ := facts_parts p2.2
  have d1 := do_all (gs := ga) x1 x2 a1
  have hf1 : factsB 300 (doL xs ca ga) = true := facts_of d1.1 d1.2.1 (by have := d1.2.2; omega)
  have d2 := do_all (gs := gb) d1.1 d1.2.1 b1
  have hf2 : factsB 300 (doL (doL xs ca ga) cb gb) = true := facts_of d2.1 d2.2.1 (by have := d1.2.2; have := d2.2.2; omega)
  have e1 := do_all (gs := gb) a1 a2 b1
  have e2 := do_all (gs := cb) g1 g2 k1
  have d3 := do_all (xs := xs) (cs := doL ca cb gb) (gs := doL ga gb cb) x1 x2 e1.1
  have he : doL xs (doL ca cb gb) (doL ga gb cb) = doL (doL xs ca ga) cb gb := by
    refine sorted_ext d3.2.1 d2.2.1 fun y => ?_
    rw [mem_do x1 x2 e1.1 e2.1, mem_do a1 a2 b1 k1, mem_do g1 g2 k1 b1, mem_do d1.1 d1.2.1 b1 k1, mem_do x1 x2 a1 g1]
    by_cases q1 : y ∈ xs <;> by_cases q2 : y ∈ ca <;> by_cases q3 : y ∈ ga <;> by_cases q4 : y ∈ cb <;> by_cases q5 : y ∈ gb <;> simp [q1, q2, q3, q4, q5]
  refine ⟨doL xs ca ga, doL (doL xs ca ga) cb gb, ?_, ?_, ?_⟩
  · unfold doneL; rw [hx, h3, he, hf2]; rfl
  · unfold doneL; rw [hx, h1, hf1]; rfl
  · unfold doneL; rw [hf1, h2, hf2]; rfl

end Go.Proofs.Ytbhkihnekendbaa
