/-
  The exact law of RuleGet: what the law's own text does.
-/
import Derived.Test.YtahkkelahocplaaDoorRuleGet
import Derived.Test.YtahkkelahocplaaDoorRRule
namespace Go.Proofs.YtahkkelahocplaaDoor
open Go.RowKit

/-- A rule's cells, boxed. -/
def ruBox (W : World) (b : Nat) (r : Rr) : Prop := Blk W b 38 #[.string r.1.1, .slice r.1.2.1 r.1.2.2.1 r.1.2.2.2.1, .slice r.2.1 r.2.2.1 r.2.2.2.1]

/-- What the law holds: the model's rule, the program's rule; each in blocks apart. -/
structure GLaw (w : World) (a d : Nat) (r3 r5 : Rr) (W : World) : Prop where
  hb : Below w.heap.size w W
  h1 : w.heap.size ≤ a
  h2 : a + 1 ≤ d
  h4 : d + 1 ≤ W.heap.size
  T : RuleApart W w.heap.size a r3
  X3 : ruBox W a r3
  O : RuleApart W (a + 1) d r5
  X5 : ruBox W d r5

theorem RuleApart.isR {w : World} {lo hi : Nat} {r : Rr} (h : RuleApart w lo hi r) (hh : hi ≤ w.heap.size) : IsRule w w.heap.size r.1.2.1 r.1.2.2.1 r.1.2.2.2.1 r.2.1 r.2.2.1 r.2.2.2.1 (rRl r).1.2 (rRl r).2 := by
  obtain ⟨a, b, c, d, e1, e2, e3, e4, e5, e6, e7, e8, e9⟩ := h
  exact ⟨e8.2.1.keep (fun _ _ _ => rfl) (Nat.zero_le _) (by omega), e9.parts.keep PartE.stays (fun _ _ _ => rfl) (Nat.zero_le _) (by omega)⟩

section
variable {w : World} {a d : Nat} {r3 r5 : Rr} {W W' : World}

theorem GLaw.below (h : GLaw w a d r3 r5 W) (hw : Below W.heap.size W W') : GLaw w a d r3 r5 W' :=
  have h1 := h.h1; have h2 := h.h2; have h4 := h.h4
  ⟨belowThen h.hb hw, h.h1, h.h2, Nat.le_trans h.h4 hw.size, h.T.keep (fun x _ hx => hw.block x (by omega)) (Nat.le_refl _) (Nat.le_refl _), Blk.below h.X3 hw, h.O.keep (fun x _ hx => hw.block x (by omega)) (Nat.le_refl _) (Nat.le_refl _), Blk.below h.X5 hw⟩

theorem GLaw.marked {k : Nat} (h : GLaw w a d r3 r5 W) (hw : Within (a + 1) d W W') (hO : RuleApart W' (a + 1) d (markRr k r5)) : GLaw w a d r3 (markRr k r5) W' :=
  have h1 := h.h1; have h2 := h.h2; have h4 := h.h4
  ⟨h.hb.trans (hw.low (by omega) (by omega)), h.h1, h.h2, Nat.le_trans h.h4 hw.size, h.T.keep (fun x _ hx => hw.block x (by omega) (.inl (by omega))) (Nat.le_refl _) (Nat.le_refl _), (hw.block a (by omega) (.inl (by omega))).trans h.X3, hO, (hw.block d (by omega) (.inr (Nat.le_refl _))).trans h.X5⟩

theorem GLaw.model (h : GLaw w a d r3 r5 W) : IsRule W W.heap.size r3.1.2.1 r3.1.2.2.1 r3.1.2.2.2.1 r3.2.1 r3.2.2.1 r3.2.2.2.1 (rRl r3).1.2 (rRl r3).2 :=
  have h2 := h.h2; have h4 := h.h4
  h.T.isR (by omega)
theorem GLaw.answer (h : GLaw w a d r3 r5 W) : IsRule W W.heap.size r5.1.2.1 r5.1.2.2.1 r5.1.2.2.2.1 r5.2.1 r5.2.2.1 r5.2.2.2.1 (rRl r5).1.2 (rRl r5).2 :=
  have h4 := h.h4
  h.O.isR (by omega)

theorem ruBox.cells {b : Nat} {r : Rr} (h : ruBox W b r) : W.cell? ⟨b, 0, none⟩ = some (.string r.1.1) ∧ W.cell? ⟨b, 1, none⟩ = some (.slice r.1.2.1 r.1.2.2.1 r.1.2.2.2.1) ∧ W.cell? ⟨b, 2, none⟩ = some (.slice r.2.1 r.2.2.1 r.2.2.2.1) := ⟨Blk.cell h 0, Blk.cell h 1, Blk.cell h 2⟩
end

/-- Rules that are the same are told so. -/
theorem eqRule_alike (r r' : Rr) (w : World) (h : IsRule w w.heap.size r.1.2.1 r.1.2.2.1 r.1.2.2.2.1 r.2.1 r.2.2.1 r.2.2.2.1 (rRl r).1.2 (rRl r).2) (h' : IsRule w w.heap.size r'.1.2.1 r'.1.2.2.1 r'.1.2.2.2.1 r'.2.1 r'.2.2.1 r'.2.2.2.1 (rRl r').1.2 (rRl r').2) (he : rRl r = rRl r') :
    Calls Tryd.prog 24 #[ruVal r, ruVal r'] w (BoolPost true w) := by
  have e : ruleEq ((r.1.1, (rRl r).1.2), (rRl r).2) ((r'.1.1, (rRl r').1.2), (rRl r').2) = true := by
    have : ((r.1.1, (rRl r).1.2), (rRl r).2) = rRl r := rfl
    have e2 : ((r'.1.1, (rRl r').1.2), (rRl r').2) = rRl r' := rfl
    rw [this, e2, he]; exact ruleEq_refl _
  have := eqRule_any r.1.1 r'.1.1 _ _ _ _ _ _ _ _ _ _ _ _ _ _ _ _ w h h'
  rw [e] at this
  exact this

/-- The marks of a rule that was told are few. -/
theorem markRu_few {w : World} {lo hi : Nat} {l : List UInt8} {r : Rr} (h : RuleApart w lo hi r) (hr : rRl r = (readR l).getD ((⟨#[]⟩, []), [])) : markRrN 1 r ≤ 2 ^ 62 := by
  obtain ⟨a, b, c, d, _, _, _, _, _, _, _, hH, hP⟩ := h
  have h1 : rN r.1 ≤ 3 ∧ r.2.2.2.2.length ≤ 4 ∧ ∀ p ∈ r.2.2.2.2, rN p.2 ≤ 3 := by
    have e1 : rN r.1 = (rRl r).1.2.length := hH.2.1.1.symm
    have e2 : r.2.2.2.2.length = (rRl r).2.length := by unfold rRl; simp
    have e3 : ∀ p ∈ r.2.2.2.2, rN p.2 = (pAt p).2.2.length := fun p hp => (hP.2.2.2.2.1 p.2 (List.mem_map_of_mem hp)).2.1.1.symm
    have e4 : ∀ p ∈ r.2.2.2.2, pAt p ∈ (rRl r).2 := fun p hp => List.mem_map_of_mem hp
    rw [e1, e2]
    cases hg : readR l with
    | none =>
      rw [hr, hg] at e4 ⊢
      exact ⟨by simp, by simp, fun p hp => absurd (e4 p hp) (by simp)⟩
    | some q =>
      have hq := rule_parts (readR_sound hg).1
      rw [hr, hg] at e4 ⊢
      refine ⟨(atom_parts hq.2.1).2.2, hq.2.2, fun p hp => ?_⟩
      rw [e3 p hp]
      have hb := hq.1
      unfold bodyB at hb
      exact (atom_parts (List.all_eq_true.1 hb _ (e4 p hp))).2.2
  have h2 := markPN_le 3 (1 + 2 * rN r.1) r.2.2.2.2 h1.2.2
  unfold markRrN
  have h3 : r.2.2.2.2.length * (2 + 2 * 3) ≤ 4 * (2 + 2 * 3) := Nat.mul_le_mul_right _ h1.2.1
  omega

/-- A marked rule, read. -/
theorem marked_ru {w : World} {lo hi k : Nat} {r : Rr} (h : RuleApart w lo hi (markRr k r)) (hh : hi ≤ w.heap.size) : IsRule w w.heap.size r.1.2.1 r.1.2.2.1 r.1.2.2.2.1 r.2.1 r.2.2.1 r.2.2.2.1 (markTs k r.1.2.2.1) ((markPs (k + 2 * r.1.2.2.1) r.2.2.2.2).map pAt) := h.isR hh

set_option maxRecDepth 100000 in
set_option maxHeartbeats 2000000 in
theorem exactRuleGet_any (s : ByteArray) (w : World) (hm : MaxIn w) :
    Calls Tryd.prog 5 #[.string s] w (BoolPost true w) := by
  obtain ⟨bo, hbo⟩ : ∃ bo, (readR s.data.toList).isSome = bo := ⟨_, rfl⟩
  obtain ⟨rl, hrl⟩ : ∃ rl, (readR s.data.toList).getD ((⟨#[]⟩, []), []) = rl := ⟨_, rfl⟩
  have HBO := Lib.hid hbo; have HRL := Lib.hid hrl
  clear hbo hrl
  go_enter Tryd.func5, Tryd.ntmps5
  go_wp2_with fail
  all_goals try (go_ret; exact ⟨rfl, Below.refl _ _⟩)
  have hsz : s.size ≤ 1048576 := by omega
  refine (specRuleGet_any s w hsz).mono ?_; rintro e w3 ⟨r3, rfl, T3, hr3, hb3⟩
  unfold ruVal
  rw [HBO.out]
  have X3 := Blk.new w3 38 #[.string r3.1.1, .slice r3.1.2.1 r3.1.2.2.1 r3.1.2.2.2.1, .slice r3.2.1 r3.2.2.1 r3.2.2.2.1]
  have hbx := below1 w3 (.cells #[.string r3.1.1, .slice r3.1.2.1 r3.1.2.2.1 r3.1.2.2.2.1, .slice r3.2.1 r3.2.2.1 r3.2.2.2.1] 38)
  have HB3 := belowThen hb3 hbx
  have hz3 := hb3.size
  have HT3 := Lib.hid (T3.keep (w' := w3.alloc (.cells #[.string r3.1.1, .slice r3.1.2.1 r3.1.2.2.1 r3.1.2.2.2.1, .slice r3.2.1 r3.2.2.1 r3.2.2.2.1] 38)) (lo' := w.heap.size) (hi' := w3.heap.size) (fun b _ h2 => hbx.block b h2) (Nat.le_refl _) (Nat.le_refl _))
  have HX3 := Lib.hid X3; have HR3 := Lib.hid (hr3.trans HRL.out)
  have hzx : (w3.alloc (.cells #[.string r3.1.1, .slice r3.1.2.1 r3.1.2.2.1 r3.1.2.2.2.1, .slice r3.2.1 r3.2.2.1 r3.2.2.2.1] 38)).heap.size = w3.heap.size + 1 := by simp
  clear hb3 hbx T3 X3 hr3
  obtain ⟨W3, hW3⟩ : ∃ W3, w3.alloc (.cells #[.string r3.1.1, .slice r3.1.2.1 r3.1.2.2.1 r3.1.2.2.2.1, .slice r3.2.1 r3.2.2.1 r3.2.2.2.1] 38) = W3 := ⟨_, rfl⟩
  rw [hW3] at HB3 HT3 HX3 hzx
  have hm3 := hm.below HB3
  go_wp2_with fail
  refine (implRuleGet_any s W3 hsz hm3).mono ?_; rintro e w5 ⟨r5, rfl, O5, hr5, hb5⟩
  unfold ruVal
  rw [HBO.out]
  have HR5 := Lib.hid (hr5.trans HRL.out)
  have HMK := Lib.hid (markRu_few O5 hr5)
  have hz5 := hb5.size
  have V5' : GLaw w w3.heap.size w5.heap.size r3 r5 (w5.alloc (.cells #[.string r5.1.1, .slice r5.1.2.1 r5.1.2.2.1 r5.1.2.2.2.1, .slice r5.2.1 r5.2.2.1 r5.2.2.2.1] 38)) := by
    have hbx := below1 w5 (.cells #[.string r5.1.1, .slice r5.1.2.1 r5.1.2.2.1 r5.1.2.2.2.1, .slice r5.2.1 r5.2.2.1 r5.2.2.2.1] 38)
    have hbA := belowThen hb5 hbx
    refine ⟨belowThen HB3 hbA, hz3, by omega, by simp, HT3.out.keep (fun b _ h2 => hbA.block b (by omega)) (Nat.le_refl _) (Nat.le_refl _), Blk.below HX3.out hbA, O5.keep (fun b _ h2 => hbx.block b h2) (by omega) (Nat.le_refl _), Blk.new w5 _ _⟩
  have V5 := Lib.hid V5'
  clear O5 hr5 HT3 HX3 HB3 hb5 V5' hW3
  obtain ⟨W5, hW5⟩ : ∃ W5, w5.alloc (.cells #[.string r5.1.1, .slice r5.1.2.1 r5.1.2.2.1 r5.1.2.2.2.1, .slice r5.2.1 r5.2.2.1 r5.2.2.2.1] 38) = W5 := ⟨_, rfl⟩
  rw [hW5] at V5
  obtain ⟨x0, x1, x2⟩ := V5.out.X3.cells
  obtain ⟨y0, y1, y2⟩ := V5.out.X5.cells
  go_wp2_with fail
  refine (eqRule_alike r5 r3 _ V5.out.answer V5.out.model (HR5.out.trans HR3.out.symm)).mono ?_; rintro e w6 ⟨rfl, hb6⟩
  have V6 := Lib.hid (V5.out.below hb6)
  clear hb6 x0 x1 x2 y0 y1 y2 hW5 V5
  obtain ⟨y0, y1, y2⟩ := V6.out.X5.cells
  obtain ⟨mk, hmk⟩ : ∃ mk, markPN (1 + 2 * r5.1.2.2.1) r5.2.2.2.2 = mk := ⟨_, rfl⟩
  have hmk2 : markRrN 1 r5 = mk := hmk
  go_wp2_with fail
  refine (markRule_any _ _ r5 1 _ V6.out.O (by have := V6.out.h4; omega) HMK.out).mono ?_; rintro e w11 ⟨rfl, hO11, hw11⟩
  rw [hmk2]
  have HMK2 := Lib.hid hmk
  clear hmk hmk2
  have V11 := Lib.hid (V6.out.marked hw11 hO11)
  clear hO11 hw11 V6 y0 y1 y2
  obtain ⟨y0, y1, y2⟩ : w11.cell? ⟨w5.heap.size, 0, none⟩ = some (.string r5.1.1) ∧ w11.cell? ⟨w5.heap.size, 1, none⟩ = some (.slice r5.1.2.1 r5.1.2.2.1 r5.1.2.2.2.1) ∧ w11.cell? ⟨w5.heap.size, 2, none⟩ = some (.slice r5.2.1 r5.2.2.1 r5.2.2.2.1) := V11.out.X5.cells
  go_wp2_with fail
  refine (heldRule_any r5.1.1 _ _ _ _ _ _ 1 r5.2.2.2.2 _ (marked_ru V11.out.O (by have := V11.out.h4; omega)) HMK.out).mono ?_; rintro e w12 ⟨rfl, hb12⟩
  have V12 := Lib.hid (V11.out.below hb12)
  clear hb12 V11 y0 y1 y2
  rw [HMK2.out]
  have hmn : ¬ ((mk : Int) < 0) := by omega
  have hm12 := hm.below V12.out.hb
  go_wp2_with fail
  refine (implRuleGet_any s w12 hsz hm12).mono ?_; rintro e w14 ⟨r14, rfl, O14, hr14, hb14⟩
  unfold ruVal
  rw [HBO.out]
  have hbx := below1 w14 (.cells #[.string r14.1.1, .slice r14.1.2.1 r14.1.2.2.1 r14.1.2.2.2.1, .slice r14.2.1 r14.2.2.1 r14.2.2.2.1] 38)
  have HR14 := Lib.hid (hr14.trans HRL.out)
  have V14 := Lib.hid (V12.out.below (belowThen hb14 hbx))
  have X14' : ruBox (w14.alloc (.cells #[.string r14.1.1, .slice r14.1.2.1 r14.1.2.2.1 r14.1.2.2.2.1, .slice r14.2.1 r14.2.2.1 r14.2.2.2.1] 38)) w14.heap.size r14 := Blk.new w14 _ _
  have I14 := Lib.hid ((O14.isR (Nat.le_refl _)).up hbx)
  have X14 := Lib.hid X14'
  clear O14 hb14 V12 hr14 hbx X14'
  obtain ⟨W14, hW14⟩ : ∃ W14, w14.alloc (.cells #[.string r14.1.1, .slice r14.1.2.1 r14.1.2.2.1 r14.1.2.2.2.1, .slice r14.2.1 r14.2.2.1 r14.2.2.2.1] 38) = W14 := ⟨_, rfl⟩
  rw [hW14] at V14 X14 I14
  obtain ⟨x0, x1, x2⟩ := V14.out.X3.cells
  obtain ⟨y0, y1, y2⟩ := X14.out.cells
  go_wp2_with fail
  refine (eqRule_alike r14 r3 _ I14.out V14.out.model (HR14.out.trans HR3.out.symm)).mono ?_; rintro e w15 ⟨rfl, hb15⟩
  have V15 := Lib.hid (V14.out.below hb15)
  clear hb15 V14 x0 x1 x2 y0 y1 y2 hW14 X14 I14
  obtain ⟨y0, y1, y2⟩ : w15.cell? ⟨w5.heap.size, 0, none⟩ = some (.string r5.1.1) ∧ w15.cell? ⟨w5.heap.size, 1, none⟩ = some (.slice r5.1.2.1 r5.1.2.2.1 r5.1.2.2.2.1) ∧ w15.cell? ⟨w5.heap.size, 2, none⟩ = some (.slice r5.2.1 r5.2.2.1 r5.2.2.2.1) := V15.out.X5.cells
  go_wp2_with fail
  refine (heldRule_any r5.1.1 _ _ _ _ _ _ 1 r5.2.2.2.2 _ (marked_ru V15.out.O (by have := V15.out.h4; omega)) HMK.out).mono ?_; rintro e w16 ⟨rfl, hb16⟩
  have V16 := Lib.hid (V15.out.below hb16)
  rw [HMK2.out]
  clear hb16 V15 y0 y1 y2
  go_wp2
  go_ret; exact ⟨rfl, V16.out.hb⟩

end Go.Proofs.YtahkkelahocplaaDoor
