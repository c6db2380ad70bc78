/-
  The law's own copies of atoms and of changes lie in memory of their own.
-/
import Derived.Test.YtahkkelahocplaaDoorAtoms
import Derived.Test.YtahkkelahocplaaDoorOwn
import Derived.Test.YtahkkelahocplaaDoorMem
namespace Go.Proofs.YtahkkelahocplaaDoor
open Go.RowKit

/-- A copy of atoms, in memory of its own from lo on. -/
def OwnSPost (n : Nat) (xs : List At) (w : World) (e : Ending) (w' : World) : Prop :=
  ∃ A rs, e = .returned (.slice A n n) ∧ OwnRefs w' w.heap.size w'.heap.size A n n rs ∧ rs.map rAt = xs ∧ Below w.heap.size w w'

theorem ownTermsRow {w : World} {g n lo hi : Nat} {ts : List Tm} (h : OwnTerms w g n ts) (h1 : lo ≤ g) (h2 : g < hi) : RowAt w lo hi 62 (some ⟨g, 0, none⟩) (n * 2) :=
  ⟨g, n * 2, tcell ts, rfl, h1, h2, h.2.2, Nat.le_refl _⟩

theorem set2_block {w : World} {g i j : Nat} {u v : Value} {b : Nat} (hb : b ≠ g) : ((w.setCell ⟨g, i, none⟩ u).setCell ⟨g, j, none⟩ v).heap[b]? = w.heap[b]? :=
  (Below.heap_setCell _ _ _ b hb).trans (Below.heap_setCell _ _ _ b hb)

theorem rcells_put {rs : List Rf} {r : Rf} {k : Nat} {f : Nat → Value} (hk : rs.length = k) (h : ∀ j u, (rcells rs)[j]? = some u → f j = u) :
    ∀ j u, (rcells (rs ++ [r]))[j]? = some u → (if j = k * 2 + 1 then .slice r.2.1 r.2.2.1 r.2.2.2.1 else if j = k * 2 then .string r.1 else f j) = u := by
  intro j u hu
  rw [rcells_snoc] at hu
  have hl := rcells_len rs
  by_cases h1 : j < (rcells rs).length
  · rw [List.getElem?_append_left h1] at hu
    rw [if_neg (by omega), if_neg (by omega)]
    exact h j u hu
  · rw [List.getElem?_append_right (by omega)] at hu
    have : j = k * 2 ∨ j = k * 2 + 1 := by
      have := (List.getElem?_eq_some_iff.1 hu).1
      simp at this; omega
    rcases this with rfl | rfl
    · rw [if_neg (by omega), if_pos rfl]
      rw [show k * 2 - (rcells rs).length = 0 by omega] at hu
      simpa using hu
    · rw [if_pos rfl]
      rw [show k * 2 + 1 - (rcells rs).length = 1 by omega] at hu
      simpa using hu


/-- A copy of a change, in memory of its own. -/
def OwnCPost (n n' : Nat) (xs ys : List At) (w : World) (e : Ending) (w' : World) : Prop :=
  ∃ A B ra rb mid, e = .returned (.agg #[.slice A n n, .slice B n' n']) ∧ (OwnRefs w' w.heap.size mid A n n ra ∧ ra.map rAt = xs) ∧ (OwnRefs w' mid w'.heap.size B n' n' rb ∧ rb.map rAt = ys) ∧ (w.heap.size ≤ mid ∧ mid ≤ w'.heap.size) ∧ Below w.heap.size w w'

/-- The two lists of a change are both small. -/
def SmallChange (n n' : Nat) (xs ys : List At) : Prop := SmallAtoms n xs ∧ SmallAtoms n' ys



/-- Are two changes the same? -/
def changeEq (xs ys xs' ys' : List At) : Bool := listEq atomEq xs xs' && listEq atomEq ys ys'

theorem changeEq_refl (xs ys : List At) : changeEq xs ys xs ys = true := by unfold changeEq; rw [listEq_refl atomEq_refl, listEq_refl atomEq_refl]; rfl
theorem changeEq_no1 {xs ys xs' ys' : List At} (h : (!listEq atomEq xs xs') = true) : changeEq xs ys xs' ys' = false := by unfold changeEq; rw [show listEq atomEq xs xs' = false by simpa using h]; rfl
theorem changeEq_on {xs ys xs' ys' : List At} (h : (!listEq atomEq xs xs') = false) : changeEq xs ys xs' ys' = listEq atomEq ys ys' := by unfold changeEq; rw [show listEq atomEq xs xs' = true by simpa using h]; rfl

set_option maxHeartbeats 1000000 in
theorem eqChange_any (A B : Option Addr) (n c n' c' : Nat) (A2 B2 : Option Addr) (m d m' d' : Nat) (xs ys xs' ys' : List At) (w : World) (h1 : IsAtoms w 0 w.heap.size A n c xs) (h2 : IsAtoms w 0 w.heap.size B n' c' ys) (h3 : IsAtoms w 0 w.heap.size A2 m d xs') (h4 : IsAtoms w 0 w.heap.size B2 m' d' ys') :
    Calls Tryd.prog 46 #[.agg #[.slice A n c, .slice B n' c'], .agg #[.slice A2 m d, .slice B2 m' d']] w (BoolPost (changeEq xs ys xs' ys') w) := by
  have H1 := Lib.hid h1; have H2 := Lib.hid h2; have H3 := Lib.hid h3; have H4 := Lib.hid h4
  clear h1 h2 h3 h4
  have hw2 := below2 w (.cells #[.slice A n c, .slice B n' c'] 54) (.cells #[.slice A2 m d, .slice B2 m' d'] 54)
  have X1 := Lib.hid ((Box.new w (.slice A n c) (.slice B n' c') 54).up (.cells #[.slice A2 m d, .slice B2 m' d'] 54))
  have Y1 := Lib.hid (Box.new2 w (.cells #[.slice A n c, .slice B n' c'] 54) (.slice A2 m d) (.slice B2 m' d') 54)
  go_enter Tryd.func46, Tryd.ntmps46
  go_wp2_with fail
  refine (eqAtomS_any A A2 n c m d xs xs' _ (H1.out.up AtomE.stays hw2) (H3.out.up AtomE.stays hw2)).mono ?_; rintro e w1 ⟨rfl, hb1⟩
  have HB1 := belowThen hw2 hb1
  obtain ⟨b0, b1, b2⟩ := X1.out.later hb1
  obtain ⟨d0, d1, d2⟩ := Y1.out.later hb1
  by_cases hx : (!listEq atomEq xs xs') = true
  · have E := Lib.hid (changeEq_no1 (ys := ys) (ys' := ys') hx)
    go_wp2
    go_ret; exact ⟨retB E.out.symm, HB1⟩
  · have hx' : (!listEq atomEq xs xs') = false := by simpa using hx
    clear hx
    have E := Lib.hid (changeEq_on (ys := ys) (ys' := ys') hx')
    go_wp2_with fail
    refine (eqAtomS_any B B2 n' c' m' d' ys ys' _ (H2.out.up AtomE.stays HB1) (H4.out.up AtomE.stays HB1)).mono ?_; rintro e w2 ⟨rfl, hb2⟩
    go_wp2
    all_goals
      go_ret; refine ⟨retB ?_, belowThen HB1 hb2⟩; rw [E.out]; simp_all

end Go.Proofs.YtahkkelahocplaaDoor
