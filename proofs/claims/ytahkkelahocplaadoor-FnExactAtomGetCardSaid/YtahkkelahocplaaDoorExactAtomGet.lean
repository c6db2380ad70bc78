/-
  The exact law of AtomGet: what the law's own text does.
-/
import Derived.Test.YtahkkelahocplaaDoorAtomGet
import Derived.Test.YtahkkelahocplaaDoorRRule
namespace Go.Proofs.YtahkkelahocplaaDoor
open Go.RowKit

/-- An atom's cells, boxed. -/
def rfBox (W : World) (b : Nat) (r : Rf) : Prop := Blk W b 24 #[.string r.1, .slice r.2.1 r.2.2.1 r.2.2.2.1]

theorem rfBox.cells {W : World} {b : Nat} {r : Rf} (h : rfBox W b r) : W.cell? ⟨b, 0, none⟩ = some (.string r.1) ∧ W.cell? ⟨b, 1, none⟩ = some (.slice r.2.1 r.2.2.1 r.2.2.2.1) := ⟨Blk.cell h 0, Blk.cell h 1⟩

/-- What the law holds: the model's atom, the program's atom; each in blocks apart. -/
structure ALaw (w : World) (a d : Nat) (r3 r5 : Rf) (W : World) : Prop where
  hb : Below w.heap.size w W
  h1 : w.heap.size ≤ a
  h2 : a + 1 ≤ d
  h4 : d + 1 ≤ W.heap.size
  T : HeadApart W w.heap.size a r3
  X3 : rfBox W a r3
  O : HeadApart W (a + 1) d r5
  X5 : rfBox W d r5

section
variable {w : World} {a d : Nat} {r3 r5 : Rf} {W W' : World}

theorem ALaw.below (h : ALaw w a d r3 r5 W) (hw : Below W.heap.size W W') : ALaw w a d r3 r5 W' :=
  have h1 := h.h1; have h2 := h.h2; have h4 := h.h4
  ⟨belowThen h.hb hw, h.h1, h.h2, Nat.le_trans h.h4 hw.size, h.T.keep (fun x _ hx => hw.block x (by omega)) (Nat.le_refl _) (Nat.le_refl _), Blk.below h.X3 hw, h.O.keep (fun x _ hx => hw.block x (by omega)) (Nat.le_refl _) (Nat.le_refl _), Blk.below h.X5 hw⟩

theorem ALaw.marked {k : Nat} (h : ALaw w a d r3 r5 W) (hw : Within (a + 1) d W W') (hO : HeadApart W' (a + 1) d (markHd k r5)) : ALaw w a d r3 (markHd k r5) W' :=
  have h1 := h.h1; have h2 := h.h2; have h4 := h.h4
  ⟨h.hb.trans (hw.low (by omega) (by omega)), h.h1, h.h2, Nat.le_trans h.h4 hw.size, h.T.keep (fun x _ hx => hw.block x (by omega) (.inl (by omega))) (Nat.le_refl _) (Nat.le_refl _), (hw.block a (by omega) (.inl (by omega))).trans h.X3, hO, (hw.block d (by omega) (.inr (Nat.le_refl _))).trans h.X5⟩

theorem HeadApart.terms {lo hi : Nat} {r : Rf} (h : HeadApart W lo hi r) (hh : hi ≤ W.heap.size) : IsTerms W 0 W.heap.size r.2.1 r.2.2.1 r.2.2.2.1 (rAt r).2 := h.2.1.keep (fun _ _ _ => rfl) (Nat.zero_le _) hh
theorem ALaw.model (h : ALaw w a d r3 r5 W) : IsTerms W 0 W.heap.size r3.2.1 r3.2.2.1 r3.2.2.2.1 (rAt r3).2 :=
  have h2 := h.h2; have h4 := h.h4
  h.T.terms (by omega)
theorem ALaw.answer (h : ALaw w a d r3 r5 W) : IsTerms W 0 W.heap.size r5.2.1 r5.2.2.1 r5.2.2.2.1 (rAt r5).2 :=
  have h4 := h.h4
  h.O.terms (by omega)
end

/-- Atoms that are the same are told so. -/
theorem eqAtom_same (r r' : Rf) (w : World) (h : IsTerms w 0 w.heap.size r.2.1 r.2.2.1 r.2.2.2.1 (rAt r).2) (h' : IsTerms w 0 w.heap.size r'.2.1 r'.2.2.1 r'.2.2.2.1 (rAt r').2) (he : rAt r = rAt r') :
    Calls Tryd.prog 12 #[.agg #[.string r.1, .slice r.2.1 r.2.2.1 r.2.2.2.1], .agg #[.string r'.1, .slice r'.2.1 r'.2.2.1 r'.2.2.2.1]] w (BoolPost true w) := by
  have e : atomEq (r.1, (rAt r).2) (r'.1, (rAt r').2) = true := by
    have e1 : (r.1, (rAt r).2) = rAt r := rfl
    have e2 : (r'.1, (rAt r').2) = rAt r' := rfl
    rw [e1, e2, he]; exact atomEq_refl _
  have := eqAtom_any r.1 r'.1 r.2.1 r'.2.1 r.2.2.1 r.2.2.2.1 r'.2.2.1 r'.2.2.2.1 (rAt r).2 (rAt r').2 w h h'
  rw [e] at this
  exact this

/-- The marks of an atom that was told are few. -/
theorem markHd_few {w : World} {lo hi : Nat} {l : List UInt8} {r : Rf} (h : HeadApart w lo hi r) (hr : rAt r = (getB l).getD (⟨#[]⟩, [])) : 1 + 2 * rN r ≤ 2 ^ 62 := by
  have h1 : rN r = (rAt r).2.length := h.2.1.1.symm
  rw [h1, hr]
  cases hg : getB l with
  | none => simp
  | some a =>
    have := (atom_parts (getB_some hg).1).2.2
    show 1 + 2 * a.2.length ≤ _
    omega

/-- A marked atom, read. -/
theorem marked_head {w : World} {lo hi k : Nat} {r : Rf} (h : HeadApart w lo hi (markHd k r)) (hh : hi ≤ w.heap.size) : IsTerms w 0 w.heap.size r.2.1 r.2.2.1 r.2.2.2.1 (markTs k r.2.2.1) := h.2.1.keep (fun _ _ _ => rfl) (Nat.zero_le _) hh

set_option maxRecDepth 100000 in
set_option maxHeartbeats 2000000 in
theorem exactAtomGet_any (s : ByteArray) (w : World) (hm : MaxIn w) :
    Calls Tryd.prog 3 #[.string s] w (BoolPost true w) := by
  obtain ⟨bo, hbo⟩ : ∃ bo, (getB s.data.toList).isSome = bo := ⟨_, rfl⟩
  obtain ⟨rl, hrl⟩ : ∃ rl, (getB s.data.toList).getD (⟨#[]⟩, []) = rl := ⟨_, rfl⟩
  have HBO := Lib.hid hbo; have HRL := Lib.hid hrl
  clear hbo hrl
  go_enter Tryd.func3, Tryd.ntmps3
  go_wp2_with fail
  all_goals try (go_ret; exact ⟨rfl, Below.refl _ _⟩)
  have hsz : s.size ≤ 1048576 := by omega
  refine (specAtomGet_any s w hsz).mono ?_; rintro e w3 ⟨r3, rfl, T3, hr3, hb3⟩
  unfold rfVal
  rw [HBO.out]
  have X3 := Blk.new w3 24 #[.string r3.1, .slice r3.2.1 r3.2.2.1 r3.2.2.2.1]
  have hbx := below1 w3 (.cells #[.string r3.1, .slice r3.2.1 r3.2.2.1 r3.2.2.2.1] 24)
  have HB3 := belowThen hb3 hbx
  have hz3 := hb3.size
  have HT3 := Lib.hid (T3.keep (w' := w3.alloc (.cells #[.string r3.1, .slice r3.2.1 r3.2.2.1 r3.2.2.2.1] 24)) (lo' := w.heap.size) (hi' := w3.heap.size) (fun b _ h2 => hbx.block b h2) (Nat.le_refl _) (Nat.le_refl _))
  have HX3 := Lib.hid X3; have HR3 := Lib.hid (hr3.trans HRL.out)
  have hzx : (w3.alloc (.cells #[.string r3.1, .slice r3.2.1 r3.2.2.1 r3.2.2.2.1] 24)).heap.size = w3.heap.size + 1 := by simp
  clear hb3 hbx T3 X3 hr3
  obtain ⟨W3, hW3⟩ : ∃ W3, w3.alloc (.cells #[.string r3.1, .slice r3.2.1 r3.2.2.1 r3.2.2.2.1] 24) = W3 := ⟨_, rfl⟩
  rw [hW3] at HB3 HT3 HX3 hzx
  have hm3 := hm.below HB3
  go_wp2_with fail
  refine (implAtomGet_any s W3 hsz hm3).mono ?_; rintro e w5 ⟨r5, rfl, O5, hr5, hb5⟩
  unfold rfVal
  rw [HBO.out]
  have HR5 := Lib.hid (hr5.trans HRL.out)
  have HMK := Lib.hid (markHd_few O5 hr5)
  have hz5 := hb5.size
  have V5' : ALaw w w3.heap.size w5.heap.size r3 r5 (w5.alloc (.cells #[.string r5.1, .slice r5.2.1 r5.2.2.1 r5.2.2.2.1] 24)) := by
    have hbx := below1 w5 (.cells #[.string r5.1, .slice r5.2.1 r5.2.2.1 r5.2.2.2.1] 24)
    have hbA := belowThen hb5 hbx
    refine ⟨belowThen HB3 hbA, hz3, by omega, by simp, HT3.out.keep (fun b _ h2 => hbA.block b (by omega)) (Nat.le_refl _) (Nat.le_refl _), Blk.below HX3.out hbA, O5.keep (fun b _ h2 => hbx.block b h2) (by omega) (Nat.le_refl _), Blk.new w5 _ _⟩
  have V5 := Lib.hid V5'
  clear O5 hr5 HT3 HX3 HB3 hb5 V5' hW3
  obtain ⟨W5, hW5⟩ : ∃ W5, w5.alloc (.cells #[.string r5.1, .slice r5.2.1 r5.2.2.1 r5.2.2.2.1] 24) = W5 := ⟨_, rfl⟩
  rw [hW5] at V5
  obtain ⟨x0, x1⟩ := V5.out.X3.cells
  obtain ⟨y0, y1⟩ := V5.out.X5.cells
  go_wp2_with fail
  refine (eqAtom_same r5 r3 _ V5.out.answer V5.out.model (HR5.out.trans HR3.out.symm)).mono ?_; rintro e w6 ⟨rfl, hb6⟩
  have V6 := Lib.hid (V5.out.below hb6)
  clear hb6 x0 x1 y0 y1 hW5 V5
  obtain ⟨y0, y1⟩ := V6.out.X5.cells
  go_wp2_with fail
  obtain ⟨mk, hmk⟩ : ∃ mk, 1 + 2 * r5.2.2.1 = mk := ⟨_, rfl⟩
  have hmk2 : 1 + 2 * rN r5 = mk := hmk
  refine (markAtom_head _ _ r5 1 1 rfl _ V6.out.O (by have := V6.out.h4; omega) HMK.out).mono ?_; rintro e w11 ⟨rfl, hO11, hw11⟩
  rw [hmk2]
  have HMK2 := Lib.hid hmk
  clear hmk hmk2
  have V11 := Lib.hid (V6.out.marked hw11 hO11)
  clear hO11 hw11 V6 y0 y1
  obtain ⟨y0, y1⟩ : w11.cell? ⟨w5.heap.size, 0, none⟩ = some (.string r5.1) ∧ w11.cell? ⟨w5.heap.size, 1, none⟩ = some (.slice r5.2.1 r5.2.2.1 r5.2.2.2.1) := V11.out.X5.cells
  go_wp2_with fail
  refine (heldAtom_head r5.1 _ r5.2.2.1 _ 1 _ (marked_head V11.out.O (by have := V11.out.h4; omega)) HMK.out).mono ?_; rintro e w12 ⟨rfl, hb12⟩
  have V12 := Lib.hid (V11.out.below hb12)
  clear hb12 V11 y0 y1
  rw [HMK2.out]
  have hmn : ¬ ((mk : Int) < 0) := by omega
  have hm12 := hm.below V12.out.hb
  go_wp2_with fail
  refine (implAtomGet_any s w12 hsz hm12).mono ?_; rintro e w14 ⟨r14, rfl, O14, hr14, hb14⟩
  unfold rfVal
  rw [HBO.out]
  have hbx := below1 w14 (.cells #[.string r14.1, .slice r14.2.1 r14.2.2.1 r14.2.2.2.1] 24)
  have HR14 := Lib.hid (hr14.trans HRL.out)
  have V14 := Lib.hid (V12.out.below (belowThen hb14 hbx))
  have X14' : rfBox (w14.alloc (.cells #[.string r14.1, .slice r14.2.1 r14.2.2.1 r14.2.2.2.1] 24)) w14.heap.size r14 := Blk.new w14 _ _
  have I14 := Lib.hid ((O14.terms (Nat.le_refl _)).up hbx)
  have X14 := Lib.hid X14'
  clear O14 hb14 V12 hr14 hbx X14'
  obtain ⟨W14, hW14⟩ : ∃ W14, w14.alloc (.cells #[.string r14.1, .slice r14.2.1 r14.2.2.1 r14.2.2.2.1] 24) = W14 := ⟨_, rfl⟩
  rw [hW14] at V14 X14 I14
  obtain ⟨x0, x1⟩ := V14.out.X3.cells
  obtain ⟨y0, y1⟩ := X14.out.cells
  go_wp2_with fail
  refine (eqAtom_same r14 r3 _ I14.out V14.out.model (HR14.out.trans HR3.out.symm)).mono ?_; rintro e w15 ⟨rfl, hb15⟩
  have V15 := Lib.hid (V14.out.below hb15)
  clear hb15 V14 x0 x1 y0 y1 hW14 X14 I14
  obtain ⟨y0, y1⟩ : w15.cell? ⟨w5.heap.size, 0, none⟩ = some (.string r5.1) ∧ w15.cell? ⟨w5.heap.size, 1, none⟩ = some (.slice r5.2.1 r5.2.2.1 r5.2.2.2.1) := V15.out.X5.cells
  go_wp2_with fail
  refine (heldAtom_head r5.1 _ r5.2.2.1 _ 1 _ (marked_head V15.out.O (by have := V15.out.h4; omega)) HMK.out).mono ?_; rintro e w16 ⟨rfl, hb16⟩
  have V16 := Lib.hid (V15.out.below hb16)
  rw [HMK2.out]
  clear hb16 V15 y0 y1
  go_wp2
  go_ret; exact ⟨rfl, V16.out.hb⟩

end Go.Proofs.YtahkkelahocplaaDoor
