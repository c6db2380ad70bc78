/-
  The exact law of AtomOk: at every atom the function answers as its model, and the atom that it was given is as it was.
-/
import Derived.Test.YteipacbklofabaaAtomOk
import Derived.Test.YteipacbklofabaaSz
import Derived.Test.YteipacbklofabaaTo
import Derived.Test.YteipacbklofabaaEq
import Derived.Test.YteipacbklofabaaOpen
namespace Go.Proofs.Yteipacbklofabaa
open Go.RowKit

/-- The two cells of a box, later on. -/
def Box (w : World) (b : Nat) (u v : Value) : Prop := b < w.heap.size ∧ w.cell? ⟨b, 0, none⟩ = some u ∧ w.cell? ⟨b, 1, none⟩ = some v

theorem Box.new (w : World) (u v : Value) (t : TypeId) : Box (w.alloc (.cells #[u, v] t)) w.heap.size u v := by
  refine ⟨by simp, ?_, ?_⟩ <;> simp [go_sem]

theorem Box.later {w w' : World} {b : Nat} {u v : Value} (h : Box w b u v) (hb : Below w.heap.size w w') : Box w' b u v :=
  ⟨Nat.lt_of_lt_of_le h.1 hb.size, (hb.cell (p := ⟨b, 0, none⟩) h.1).trans h.2.1, (hb.cell (p := ⟨b, 1, none⟩) h.1).trans h.2.2⟩

set_option maxHeartbeats 1000000 in
theorem exactAtomOk_any (nm : ByteArray) (A : Option Addr) (n c : Nat) (ts : List Tm) (w : World) (hs : nm.size ≤ maxLen) (h : IsTerms w 0 w.heap.size A n c ts) :
    Calls Try.prog 5 #[.agg #[.string nm, .slice A n c]] w (BoolPost true w) := by
  have hcc : c ≤ maxLen := h.2.2.1
  have H := Lib.hid h; clear h
  have B0 := Lib.hid (Box.new w (.string nm) (.slice A n c) 28)
  go_enter Try.func5, Try.ntmps5
  go_wp2_with fail
  refine (szAtom_any _ _ _ _ ts _ _ hs (H.out.up (below1 _ _)) (by omega) (by omega)).mono ?_; rintro e w1 ⟨y1, ⟨rfl, hy2, hy3, hy4⟩, hb1⟩
  have HB1 := belowThen (below1 _ _) hb1
  have B1 := Lib.hid (B0.out.later hb1); clear hb1 B0
  obtain ⟨x1, x2, x3⟩ := B1.out
  go_wp2_with fail
  · go_ret; exact ⟨rfl, HB1⟩
  · have hn : n ≤ 1048576 := hy4 (by assumption)
    clear hy4 hy2 hy3
    have hnm : n ≤ maxLen := by unfold maxLen; omega
    refine (toAtom_any _ _ _ _ ts _ (H.out.up HB1) hn).mono ?_; rintro e w2 ⟨g2, rfl, hg2, ho2, hb2⟩
    have HB2 := belowThen HB1 hb2
    have B2 := Lib.hid (B1.out.later hb2); clear B1 x1 x2 x3 hb2
    obtain ⟨x1, x2, x3⟩ := B2.out
    go_wp2_with fail
    refine (specAtomOk_any _ _ _ _ ts _ hs (ho2.is_ hnm (Nat.zero_le _))).mono ?_; rintro e w3 ⟨rfl, hb3⟩
    have HB3 := belowThen HB2 hb3
    have B3 := Lib.hid (B2.out.later hb3); clear B2 x1 x2 x3 hb3 ho2
    obtain ⟨x1, x2, x3⟩ := B3.out
    go_wp2_with fail
    refine (toAtom_any _ _ _ _ ts _ (H.out.up HB3) hn).mono ?_; rintro e w4 ⟨g4, rfl, hg4, ho4, hb4⟩
    have HB4 := belowThen HB3 hb4
    have B4 := Lib.hid (B3.out.later hb4); clear B3 x1 x2 x3 hb4
    have HB5 := belowThen HB4 (below1 w4 (.cells #[.string nm, .slice (some ⟨g4, 0, none⟩) n n] 33))
    have B5 := Lib.hid (B4.out.later (below1 w4 (.cells #[.string nm, .slice (some ⟨g4, 0, none⟩) n n] 33)))
    have X5 := Lib.hid (Box.new w4 (.string nm) (.slice (some ⟨g4, 0, none⟩) n n) 33)
    have ho5 := ho4.below (below1 w4 (.cells #[.string nm, .slice (some ⟨g4, 0, none⟩) n n] 33))
    clear B4 ho4
    go_wp2_with fail
    refine (implAtomOk_any _ _ _ _ ts _ hs (ho5.is_ hnm (Nat.zero_le _))).mono ?_; rintro e w6 ⟨rfl, hb6⟩
    have HB6 := belowThen HB5 hb6
    have B6 := Lib.hid (B5.out.later hb6)
    have X6 := Lib.hid (X5.out.later hb6)
    have ho6 := ho5.below hb6
    clear B5 X5 ho5 hb6
    obtain ⟨x1, x2, x3⟩ := B6.out
    obtain ⟨y1, y2, y3⟩ := X6.out
    go_wp2_with fail
    go_region_with (first
      | (go_at_call 15; refine (toAtom_any _ _ _ _ ts _ (H.out.up HB6.drew) hn).mono ?_; rintro e w7 ⟨g7, rfl, hg7, ho7, hb7'⟩; have hb7 : Below w6.heap.size w6 w7 := undrew hb7'; clear hb7'; have HB7 := belowThen HB6 hb7; have ho67 := ho6.below (w' := w7) hb7; obtain ⟨z1, z2, z3⟩ := X6.out.later (w' := w7) hb7; clear hb7)
      | (go_at_call 17; refine (eqAtom_any _ _ _ _ _ _ _ _ ts ts _ (ho67.is_ hnm (Nat.zero_le _)) (ho7.is_ hnm (Nat.zero_le _))).mono ?_; rintro e w8 ⟨rfl, hb8⟩))
    all_goals (rw [atomEq_refl]; go_wp2)
    all_goals (go_ret; exact ⟨rfl, belowThen HB7 hb8⟩)

open Go.ChangeShapes Go.WideShapes Go.ChangeAt

set_option maxRecDepth 100000 in
theorem exactAtomOk_lifted (os : Os) (started : os.Started) (H : Type) (enc : TypeId × Value → H) :
    ReturnsInHanded {} Try.checked os 5 .any (Rows.fnExactAtomOkSpec.pre6 enc Try.prog Try.f5 Rows.fnExactAtomOkRow.domain false) (Rows.fnExactAtomOkSpec.post enc Try.prog Try.f5 false true false false) := by
  refine returnsInHanded_of_change (C := Try.checked) Try.own started (by kernel_rfl) Try.func5
    (ChangeSpec.witness6 (enc := enc) (C := Try.checked) false ⟨#[], #[.agg #[.string ByteArray.empty, .slice none 0 0]], []⟩ 8 (by kernel_rfl) (by kernel_rfl) (by kernel_rfl) (by kernel_rfl)) ?_
  intro W base args ds gs before hval0 hW hcnd _
  have hval : ∀ (j : Nat) t v, Try.f5.params[j]? = some t → args[j]? = some v → Value.okWide Try.prog W .any base t v := hval0
  have hW' := hW
  have hlt : ∀ x ∈ before, x.block < W.heap.size := fun x hx => hW.lt x hx
  obtain ⟨p, q, hA0, hV, hpq, hfz, hnd⟩ := hW
  have hA : DataW.TrodAll enc Try.prog W 0 (fun _ => true) true Try.f5.params.toList args.toList ds p := hA0
  rw [Try.params5] at hA hval
  obtain ⟨v0, d0, hargs, rfl, h0⟩ := trodAll_one hA
  obtain ⟨rfl, rfl⟩ := trodVars_none hV
  simp only [List.append_nil] at hpq
  subst hpq
  have h0' := Lib.hid h0
  obtain ⟨nm, A, n, c, ts, rfl, hs, ht⟩ := open_atom (hval 0 28 v0 rfl (by rw [hargs]; rfl)) h0
  subst hargs
  clear hA0 hval0
  refine (exactAtomOk_any nm A n c ts W hs ht).mono fun e W' ⟨he, hb⟩ => ?_
  subst he
  exact ⟨_, rfl, post_true (pv := []) hW' (trodAll_mk1 (shut_bool Try.underlying4 true)) (trodAll_mk1 (Below.trod Try.laidOut (by kernel_rfl) (of_decide_eq_true (by kernel_rfl)) h0'.out hb hlt)) rfl hb⟩

theorem exactAtomOk_holds : Rows.FnExactAtomOkSaid :=
  OpenClaim.holds_of_wide 5 Try.f5 rfl rfl rfl rfl rfl rfl rfl ⟨rfl, rfl, rfl, rfl, rfl⟩ rfl rfl rfl rfl rfl (by kernel_rfl) Try.func5 (by kernel_rfl)
    (of_decide_eq_true (by kernel_rfl)) (by unfold Func.isWrapper; rw [if_neg (of_decide_eq_false (by kernel_rfl))]; exact ⟨rfl, rfl⟩)
    (fun os started H enc _ => exactAtomOk_lifted os started H enc)

end Go.Proofs.Yteipacbklofabaa
