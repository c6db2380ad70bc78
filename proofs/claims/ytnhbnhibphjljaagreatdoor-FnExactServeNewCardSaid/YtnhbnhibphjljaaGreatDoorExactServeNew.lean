/-
  The exact law of ServeNew: at every list of rules the program answers as its model, every field; its answer owns its memory, and nothing is written into the list. (Written by tools/basenew.py.)
-/
import Derived.Test.YtnhbnhibphjljaaGreatDoorBaseKit
import Derived.Test.YtnhbnhibphjljaaGreatDoorRulesS
import Derived.Test.YtnhbnhibphjljaaGreatDoorRulesOwn
import Derived.Test.YtnhbnhibphjljaaGreatDoorOpen
import Derived.Test.YtnhbnhibphjljaaGreatDoorClosed
import Derived.Test.YtnhbnhibphjljaaGreatDoorCards
import Derived.Test.YtnhbnhibphjljaaGreatDoorTie
import Derived.SevenTiedAt
namespace Go.Proofs.YtnhbnhibphjljaaGreatDoor
open Go.RowKit

/-- A server was told of rules alone, which are the call's own. -/
def ServerPost (xs : List Rl) (w : World) (e : Ending) (w' : World) : Prop :=
  ∃ A n c rs, e = .returned (.agg #[.slice A n c, .int .i64 0, .slice none 0 0, .slice none 0 0, .string ⟨#[]⟩, .slice none 0 0, .slice none 0 0]) ∧ RulesApart w' w.heap.size w'.heap.size A n c rs ∧ rs.map rRl = baseB xs ∧ Below w.heap.size w w'

theorem rules_set7 {w : World} {b lo lo' n c : Nat} {A : Option Addr} {rs : List Rr} {u0 u1 u2 u3 u4 u5 u6 : Value} (h : RulesApart w lo w.heap.size A n c rs) (hb : b < lo) (hl : lo' ≤ lo) :
    RulesApart (((((((w.setCell ⟨b, 0, none⟩ u0).setCell ⟨b, 1, none⟩ u1).setCell ⟨b, 2, none⟩ u2).setCell ⟨b, 3, none⟩ u3).setCell ⟨b, 4, none⟩ u4).setCell ⟨b, 5, none⟩ u5).setCell ⟨b, 6, none⟩ u6) lo' (((((((w.setCell ⟨b, 0, none⟩ u0).setCell ⟨b, 1, none⟩ u1).setCell ⟨b, 2, none⟩ u2).setCell ⟨b, 3, none⟩ u3).setCell ⟨b, 4, none⟩ u4).setCell ⟨b, 5, none⟩ u5).setCell ⟨b, 6, none⟩ u6).heap.size A n c rs := by
  refine h.keep (fun x hx _ => ?_) hl (by simp only [size_setCell]; exact Nat.le_refl _)
  rw [Below.heap_setCell _ _ _ x (by show x ≠ b; omega), Below.heap_setCell _ _ _ x (by show x ≠ b; omega), Below.heap_setCell _ _ _ x (by show x ≠ b; omega), Below.heap_setCell _ _ _ x (by show x ≠ b; omega), Below.heap_setCell _ _ _ x (by show x ≠ b; omega), Below.heap_setCell _ _ _ x (by show x ≠ b; omega), Below.heap_setCell _ _ _ x (by show x ≠ b; omega)]

set_option maxRecDepth 100000 in
set_option maxHeartbeats 4000000 in
theorem specServeNew_any (A : Option Addr) (n c : Nat) (xs : List Rl) (w : World) (h : IsRules w 0 w.heap.size A n c xs) :
    Calls Tryz.prog 39 #[.slice A n c] w (ServerPost xs w) := by
  have hb0 := below1 w (.cells #[.slice none 0 0, .int .i64 0, .slice none 0 0, .slice none 0 0, .string ⟨#[]⟩, .slice none 0 0, .slice none 0 0] 51)
  have X0 := Blk.new w 51 #[.slice none 0 0, .int .i64 0, .slice none 0 0, .slice none 0 0, .string ⟨#[]⟩, .slice none 0 0, .slice none 0 0]
  have HX0 := Lib.hid X0; have HB0 := Lib.hid hb0; have H := Lib.hid (h.up RuleE.stays hb0)
  have hz0 : (w.alloc (.cells #[.slice none 0 0, .int .i64 0, .slice none 0 0, .slice none 0 0, .string ⟨#[]⟩, .slice none 0 0, .slice none 0 0] 51)).heap.size = w.heap.size + 1 := by simp
  clear h X0 hb0
  go_enter Tryz.func39, Tryz.ntmps39
  go_wp2_with fail
  refine (specBaseNew_any A n c xs _ H.out).mono ?_; rintro e w2 ⟨A2, n2, c2, rs, rfl, hO, hm, hb2⟩
  have HX2 := Lib.hid (HX0.out.below hb2); have HB2 := Lib.hid (belowThen HB0.out hb2)
  have HO := Lib.hid hO; have HM := Lib.hid hm
  have hz2 := hb2.size
  rw [hz0] at hz2
  clear hO hm hb2
  have r0 := HX2.out.cell 0; have f0 := HX2.out.frozen 0
  have r1 := HX2.out.cell 1; have f1 := HX2.out.frozen 1
  have r2 := HX2.out.cell 2; have f2 := HX2.out.frozen 2
  have r3 := HX2.out.cell 3; have f3 := HX2.out.frozen 3
  have r4 := HX2.out.cell 4; have f4 := HX2.out.frozen 4
  have r5 := HX2.out.cell 5; have f5 := HX2.out.frozen 5
  have r6 := HX2.out.cell 6; have f6 := HX2.out.frozen 6
  have hzz := HX2.out.lt
  go_wp2
  have Z := (((((((HX2.out.set 0 (.slice A2 n2 c2)).set 1 (.int .i64 0)).set 2 (.slice none 0 0)).set 3 (.slice none 0 0)).set 4 (.string ⟨#[]⟩)).set 5 (.slice none 0 0)).set 6 (.slice none 0 0))
  have z0 := Z.cell 0; have z1 := Z.cell 1; have z2 := Z.cell 2; have z3 := Z.cell 3; have z4 := Z.cell 4; have z5 := Z.cell 5; have z6 := Z.cell 6
  refine bodyPost_ret (v := .agg #[.slice A2 n2 c2, .int .i64 0, .slice none 0 0, .slice none 0 0, .string ⟨#[]⟩, .slice none 0 0, .slice none 0 0]) (by simp [results, Tryz.results39, go_sem, r0, r1, r2, r3, r4, r5, r6]) rfl ⟨A2, n2, c2, rs, rfl, rules_set7 HO.out (by omega) (by omega), HM.out, (((((((HB2.out.setCell (by simp) _).setCell (by simp) _).setCell (by simp) _).setCell (by simp) _).setCell (by simp) _).setCell (by simp) _).setCell (by simp) _)⟩

set_option maxRecDepth 100000 in
set_option maxHeartbeats 4000000 in
theorem implServeNew_any (A : Option Addr) (n c : Nat) (xs : List Rl) (w : World) (h : IsRules w 0 w.heap.size A n c xs) (hk : ErrKind w) :
    Calls Tryz.prog 40 #[.slice A n c] w (ServerPost xs w) := by
  have hb0 := below1 w (.cells #[.slice none 0 0, .int .i64 0, .slice none 0 0, .slice none 0 0, .string ⟨#[]⟩, .slice none 0 0, .slice none 0 0] 51)
  have X0 := Blk.new w 51 #[.slice none 0 0, .int .i64 0, .slice none 0 0, .slice none 0 0, .string ⟨#[]⟩, .slice none 0 0, .slice none 0 0]
  have HKE := Lib.hid (hk.later hb0); clear hk
  have HX0 := Lib.hid X0; have HB0 := Lib.hid hb0; have H := Lib.hid (h.up RuleE.stays hb0)
  have hz0 : (w.alloc (.cells #[.slice none 0 0, .int .i64 0, .slice none 0 0, .slice none 0 0, .string ⟨#[]⟩, .slice none 0 0, .slice none 0 0] 51)).heap.size = w.heap.size + 1 := by simp
  clear h X0 hb0
  go_enter Tryz.func40, Tryz.ntmps40
  go_wp2_with fail
  refine (implBaseNew_any A n c xs _ H.out HKE.out).mono ?_; rintro e w2 ⟨A2, n2, c2, rs, rfl, hO, hm, hb2⟩
  have HX2 := Lib.hid (HX0.out.below hb2); have HB2 := Lib.hid (belowThen HB0.out hb2)
  have HO := Lib.hid hO; have HM := Lib.hid hm
  have hz2 := hb2.size
  rw [hz0] at hz2
  clear hO hm hb2
  have r0 := HX2.out.cell 0; have f0 := HX2.out.frozen 0
  have r1 := HX2.out.cell 1; have f1 := HX2.out.frozen 1
  have r2 := HX2.out.cell 2; have f2 := HX2.out.frozen 2
  have r3 := HX2.out.cell 3; have f3 := HX2.out.frozen 3
  have r4 := HX2.out.cell 4; have f4 := HX2.out.frozen 4
  have r5 := HX2.out.cell 5; have f5 := HX2.out.frozen 5
  have r6 := HX2.out.cell 6; have f6 := HX2.out.frozen 6
  have hzz := HX2.out.lt
  go_wp2
  have Z := (((((((HX2.out.set 0 (.slice A2 n2 c2)).set 1 (.int .i64 0)).set 2 (.slice none 0 0)).set 3 (.slice none 0 0)).set 4 (.string ⟨#[]⟩)).set 5 (.slice none 0 0)).set 6 (.slice none 0 0))
  have z0 := Z.cell 0; have z1 := Z.cell 1; have z2 := Z.cell 2; have z3 := Z.cell 3; have z4 := Z.cell 4; have z5 := Z.cell 5; have z6 := Z.cell 6
  refine bodyPost_ret (v := .agg #[.slice A2 n2 c2, .int .i64 0, .slice none 0 0, .slice none 0 0, .string ⟨#[]⟩, .slice none 0 0, .slice none 0 0]) (by simp [results, Tryz.results40, go_sem, r0, r1, r2, r3, r4, r5, r6]) rfl ⟨A2, n2, c2, rs, rfl, rules_set7 HO.out (by omega) (by omega), HM.out, (((((((HB2.out.setCell (by simp) _).setCell (by simp) _).setCell (by simp) _).setCell (by simp) _).setCell (by simp) _).setCell (by simp) _).setCell (by simp) _)⟩

set_option maxRecDepth 100000 in
set_option maxHeartbeats 4000000 in
theorem exactServeNew_any (A : Option Addr) (n c : Nat) (l : List Rl) (w : World) (h : IsRules w 0 w.heap.size A n c l) (hk : ErrKind w) :
    Calls Tryz.prog 9 #[.slice A n c] w (BoolPost true w) := by
  have H := Lib.hid h; clear h
  have HK := Lib.hid hk; clear hk
  go_enter Tryz.func9, Tryz.ntmps9
  go_wp2_with fail
  all_goals try (go_ret; exact ⟨rfl, Below.refl _ _⟩)
  refine (szRuleS_any _ _ _ l _ _ H.out (by omega) (by omega)).mono ?_; rintro e w1 ⟨y, ⟨rfl, ha, hb, hc⟩, hb1⟩
  go_wp2_with fail
  all_goals try (go_ret; exact ⟨rfl, hb1⟩)
  have hn : SmallRules n l := hc (by assumption)
  have hnn := hn.1
  have HN := Lib.hid hn
  clear ha hb hc hn
  refine (toRuleS_any _ _ _ l _ (H.out.up RuleE.stays hb1) HN.out).mono ?_; rintro e w2 ⟨g2, rfl, hg2, o2, hb2⟩
  have HB2 := belowThen hb1 hb2
  go_wp2_with fail
  refine (specServeNew_any _ _ _ l _ (lowRulesB o2 (Nat.le_refl _))).mono ?_; rintro e w3 ⟨A3, n3, c3, rs3, rfl, T3, hr3, hb3⟩
  have X3 := Blk.new w3 51 #[.slice A3 n3 c3, .int .i64 0, .slice none 0 0, .slice none 0 0, .string ⟨#[]⟩, .slice none 0 0, .slice none 0 0]
  have hbx := below1 w3 (.cells #[.slice A3 n3 c3, .int .i64 0, .slice none 0 0, .slice none 0 0, .string ⟨#[]⟩, .slice none 0 0, .slice none 0 0] 51)
  have HB3 := belowThen (belowThen HB2 hb3) hbx
  have hz23 := hb3.size; have hzw2 := HB2.size
  have HT3 := Lib.hid (T3.keep (w' := w3.alloc (.cells #[.slice A3 n3 c3, .int .i64 0, .slice none 0 0, .slice none 0 0, .string ⟨#[]⟩, .slice none 0 0, .slice none 0 0] 51)) (lo' := w.heap.size) (hi' := w3.heap.size) (fun b _ h2 => hbx.block b h2) hzw2 (Nat.le_refl _))
  have HX3 := Lib.hid X3; have HR3 := Lib.hid hr3
  have hzx : (w3.alloc (.cells #[.slice A3 n3 c3, .int .i64 0, .slice none 0 0, .slice none 0 0, .string ⟨#[]⟩, .slice none 0 0, .slice none 0 0] 51)).heap.size = w3.heap.size + 1 := by simp
  clear hb1 hb2 hb3 hbx o2 HB2 T3 X3 hr3
  go_wp2_with fail
  generalize hW3 : w3.alloc (.cells #[.slice A3 n3 c3, .int .i64 0, .slice none 0 0, .slice none 0 0, .string ⟨#[]⟩, .slice none 0 0, .slice none 0 0] 51) = W3 at HB3 HT3 HX3 hzx ⊢
  clear hW3
  refine (toRuleS_row _ _ _ l _ (H.out.up RuleE.stays HB3) HN.out).mono ?_; rintro e w4 ⟨g4, rfl, hg4, o4, r4, hb4⟩
  have HO4 := Lib.hid o4; have HR4 := Lib.hid r4
  clear o4 r4
  go_wp2_with fail
  refine (implServeNew_any _ _ _ l _ (lowRulesB HO4.out (Nat.le_refl _)) (HK.out.later (belowThen HB3 hb4))).mono ?_; rintro e w5 ⟨A5, n5, c5, rs5, rfl, O5, hr5, hb5⟩
  have HR5 := Lib.hid hr5
  have HMK := Lib.hid (base_few O5 hr5)
  have hz4 := hb4.size; have hz5 := hb5.size
  have V5' : ServerLaw w w3.heap.size w4.heap.size w5.heap.size A3 n3 c3 rs3 g4 n A5 n5 c5 rs5 (w5.alloc (.cells #[.slice A5 n5 c5, .int .i64 0, .slice none 0 0, .slice none 0 0, .string ⟨#[]⟩, .slice none 0 0, .slice none 0 0] 51)) := by
    have hbx := below1 w5 (.cells #[.slice A5 n5 c5, .int .i64 0, .slice none 0 0, .slice none 0 0, .string ⟨#[]⟩, .slice none 0 0, .slice none 0 0] 51)
    have hbA := belowThen (belowThen hb4 hb5) hbx
    have hR4 := HR4.out
    rw [hzx] at hR4 hz4
    refine ⟨belowThen HB3 hbA, by omega, hz4, hz5, by simp, HT3.out.keep (fun b _ h2 => hbA.block b (by omega)) (Nat.le_refl _) (Nat.le_refl _), Blk.below HX3.out hbA, hR4.keep (fun x _ hx => (belowThen hb5 hbx).block x hx), O5.keep (fun b _ h2 => hbx.block b h2) (Nat.le_refl _) (Nat.le_refl _), Blk.new w5 _ _⟩
  have HP5' := HO4.out.below RuleE.stays (belowThen hb5 (below1 w5 (.cells #[.slice A5 n5 c5, .int .i64 0, .slice none 0 0, .slice none 0 0, .string ⟨#[]⟩, .slice none 0 0, .slice none 0 0] 51))) (Nat.le_refl _)
  have V5 := Lib.hid V5'; have HP5 := Lib.hid HP5'
  clear O5 hr5 HT3 HX3 HR4 HO4 HB3 hb4 hb5 V5' HP5'
  have x0 := V5.out.X3.cell 0; have x1 := V5.out.X3.cell 1; have x2 := V5.out.X3.cell 2; have x3 := V5.out.X3.cell 3; have x4 := V5.out.X3.cell 4; have x5 := V5.out.X3.cell 5; have x6 := V5.out.X3.cell 6
  have y0 := V5.out.X5.cell 0; have y1 := V5.out.X5.cell 1; have y2 := V5.out.X5.cell 2; have y3 := V5.out.X5.cell 3; have y4 := V5.out.X5.cell 4; have y5 := V5.out.X5.cell 5; have y6 := V5.out.X5.cell 6
  go_wp2_with fail
  generalize hW5 : w5.alloc (.cells #[.slice A5 n5 c5, .int .i64 0, .slice none 0 0, .slice none 0 0, .string ⟨#[]⟩, .slice none 0 0, .slice none 0 0] 51) = W5 at V5 HP5 x0 x1 x2 x3 x4 x5 x6 y0 y1 y2 y3 y4 y5 y6 ⊢
  clear hW5
  refine (eqServer_same A5 A3 n5 c5 n3 c3 (baseB l) _ (base_same V5.out.answer HR5.out) (base_same V5.out.model HR3.out)).mono ?_; rintro e w6 ⟨rfl, hb6⟩
  have V6 := Lib.hid (V5.out.below hb6)
  have HBE := Lib.hid hb6
  clear hb6 x0 x1 x2 x3 x4 x5 x6 y0 y1 y2 y3 y4 y5 y6
  have HP6 := Lib.hid (HP5.out.below RuleE.stays HBE.out (by have := V5.out.h4; have := V5.out.h3; omega))
  clear HP5 HBE
  go_wp2_with fail
  refine (toRuleS_any _ _ _ l _ (H.out.up RuleE.stays V6.out.hb) HN.out).mono ?_; rintro e w7 ⟨g7, rfl, hg7, o7, hb7⟩
  have V7 := Lib.hid (V6.out.below hb7)
  have HP7 := Lib.hid (HP6.out.below RuleE.stays hb7 (by have := V6.out.h4; have := V6.out.h3; omega))
  have hz7 := V7.out.h4; have hz7' := V7.out.h3
  clear hb7 V6 HP6
  go_wp2_with fail
  refine (eqRuleS_any _ _ _ _ _ _ l l _ (lowRulesB HP7.out (by omega)) (lowRulesB o7 (Nat.le_refl _))).mono ?_; rintro e w8 ⟨rfl, hb8⟩
  have V8 := Lib.hid (V7.out.below hb8)
  rw [listEq_refl ruleEq_refl]
  clear hb8 o7 V7 HP7
  go_wp2_with fail
  refine (markRuleS_marks _ _ g4 n n 1 _ V8.out.R (by omega)).mono ?_; rintro e w9 ⟨⟨k9, rfl⟩, hm9⟩
  have V9 := Lib.hid (V8.out.rules hm9.within (V8.out.R.marks hm9))
  clear hm9 V8
  have hkn : ¬ (k9 : Int) < 0 := by omega
  have x0 := V9.out.X3.cell 0; have x1 := V9.out.X3.cell 1; have x2 := V9.out.X3.cell 2; have x3 := V9.out.X3.cell 3; have x4 := V9.out.X3.cell 4; have x5 := V9.out.X3.cell 5; have x6 := V9.out.X3.cell 6
  have y0 := V9.out.X5.cell 0; have y1 := V9.out.X5.cell 1; have y2 := V9.out.X5.cell 2; have y3 := V9.out.X5.cell 3; have y4 := V9.out.X5.cell 4; have y5 := V9.out.X5.cell 5; have y6 := V9.out.X5.cell 6
  go_wp2_with fail
  refine (eqServer_same A5 A3 n5 c5 n3 c3 (baseB l) _ (base_same V9.out.answer HR5.out) (base_same V9.out.model HR3.out)).mono ?_; rintro e w10 ⟨rfl, hb10⟩
  have V10 := Lib.hid (V9.out.below hb10)
  clear hb10 x0 x1 x2 x3 x4 x5 x6 y0 y1 y2 y3 y4 y5 y6
  clear V9
  have y0 := V10.out.X5.cell 0; have y1 := V10.out.X5.cell 1; have y2 := V10.out.X5.cell 2; have y3 := V10.out.X5.cell 3; have y4 := V10.out.X5.cell 4; have y5 := V10.out.X5.cell 5; have y6 := V10.out.X5.cell 6
  go_wp2_with fail
  refine (markServer_own _ _ A5 n5 c5 1 rs5 _ V10.out.O (by have := V10.out.h4; omega) HMK.out).mono ?_; rintro e w11 ⟨rfl, hO11, hw11⟩
  have V11 := Lib.hid (V10.out.marked hw11 hO11)
  clear hO11 hw11 V10 y0 y1 y2 y3 y4 y5 y6
  have y0 := V11.out.X5.cell 0; have y1 := V11.out.X5.cell 1; have y2 := V11.out.X5.cell 2; have y3 := V11.out.X5.cell 3; have y4 := V11.out.X5.cell 4; have y5 := V11.out.X5.cell 5; have y6 := V11.out.X5.cell 6
  go_wp2_with fail
  refine (heldServer_any A5 n5 c5 1 rs5 _ V11.out.answer HMK.out).mono ?_; rintro e w12 ⟨rfl, hb12⟩
  have V12 := Lib.hid (V11.out.below hb12)
  clear hb12 V11 y0 y1 y2 y3 y4 y5 y6
  have hmn : ¬ (((markRlsN 1 rs5 : Nat) : Int) < 0) := by omega
  obtain ⟨mk, hmk⟩ : ∃ mk, markRlsN 1 rs5 = mk := ⟨_, rfl⟩
  rw [hmk] at hmn ⊢
  have HMK2 := Lib.hid hmk
  clear hmk
  go_wp2_with fail
  refine (toRuleS_any _ _ _ l _ (H.out.up RuleE.stays V12.out.hb) HN.out).mono ?_; rintro e w13 ⟨g13, rfl, hg13, o13, hb13⟩
  have V13 := Lib.hid (V12.out.below hb13)
  clear hb13 V12
  go_wp2_with fail
  refine (implServeNew_any _ _ _ l _ (lowRulesB o13 (Nat.le_refl _)) (HK.out.later V13.out.hb)).mono ?_; rintro e w14 ⟨A14, n14, c14, rs14, rfl, O14, hr14, hb14⟩
  have hbx := below1 w14 (.cells #[.slice A14 n14 c14, .int .i64 0, .slice none 0 0, .slice none 0 0, .string ⟨#[]⟩, .slice none 0 0, .slice none 0 0] 51)
  have HR14 := Lib.hid hr14
  have V14 := Lib.hid (V13.out.below (belowThen hb14 hbx))
  have X14' := Blk.new w14 51 #[.slice A14 n14 c14, .int .i64 0, .slice none 0 0, .slice none 0 0, .string ⟨#[]⟩, .slice none 0 0, .slice none 0 0]
  have I14 := Lib.hid ((lowRulesB O14.rules (Nat.le_refl _)).up RuleE.stays hbx)
  have X14 := Lib.hid X14'
  clear O14 hb14 V13 o13 hr14 hbx X14'
  have x0 := V14.out.X3.cell 0; have x1 := V14.out.X3.cell 1; have x2 := V14.out.X3.cell 2; have x3 := V14.out.X3.cell 3; have x4 := V14.out.X3.cell 4; have x5 := V14.out.X3.cell 5; have x6 := V14.out.X3.cell 6
  have y0 := X14.out.cell 0; have y1 := X14.out.cell 1; have y2 := X14.out.cell 2; have y3 := X14.out.cell 3; have y4 := X14.out.cell 4; have y5 := X14.out.cell 5; have y6 := X14.out.cell 6
  go_wp2_with fail
  generalize hW14 : w14.alloc (.cells #[.slice A14 n14 c14, .int .i64 0, .slice none 0 0, .slice none 0 0, .string ⟨#[]⟩, .slice none 0 0, .slice none 0 0] 51) = W14 at V14 X14 I14 x0 x1 x2 x3 x4 x5 x6 y0 y1 y2 y3 y4 y5 y6 ⊢
  clear hW14
  refine (eqServer_same A14 A3 n14 c14 n3 c3 (baseB l) _ (base_same I14.out HR14.out) (base_same V14.out.model HR3.out)).mono ?_; rintro e w15 ⟨rfl, hb15⟩
  have V15 := Lib.hid (V14.out.below hb15)
  clear hb15 V14 x0 x1 x2 x3 x4 x5 x6 y0 y1 y2 y3 y4 y5 y6 X14 I14
  have y0 := V15.out.X5.cell 0; have y1 := V15.out.X5.cell 1; have y2 := V15.out.X5.cell 2; have y3 := V15.out.X5.cell 3; have y4 := V15.out.X5.cell 4; have y5 := V15.out.X5.cell 5; have y6 := V15.out.X5.cell 6
  go_wp2_with fail
  refine (heldServer_any A5 n5 c5 1 rs5 _ V15.out.answer HMK.out).mono ?_; rintro e w16 ⟨rfl, hb16⟩
  have V16 := Lib.hid (V15.out.below hb16)
  rw [HMK2.out]
  clear hb16 V15 y0 y1 y2 y3 y4 y5 y6
  go_wp2
  go_ret; exact ⟨rfl, V16.out.hb⟩

end Go.Proofs.YtnhbnhibphjljaaGreatDoor

namespace Go.Proofs.YtnhbnhibphjljaaGreatDoor
open Go.RowKit Go.ChangeShapes Go.WideShapes Go.ChangeAt

set_option maxRecDepth 100000 in
set_option maxHeartbeats 1000000 in
theorem exactServeNew_lifted (os : Os) (started : os.Started) (H : Type) (enc : TypeId × Value → H) :
    ReturnsInHanded {} Tryz.checked os 9 .any (fun w args => (Rows.fnExactServeNewSpec.pre enc Tryz.prog Tryz.f9 [] false w args ∧ laidMetH Tryz.prog laidE w) ∧ sizedMet enc Tryz.prog Tryz.f9 (OpenSpec.ofChange Rows.fnExactServeNewSpec) false w args)
      (Rows.fnExactServeNewSpec.post enc Tryz.prog Tryz.f9 false true false false) := by
  refine returnsInHanded_of_change_and (C := Tryz.checked) (X := fun w _ => laidMetH Tryz.prog laidE w) (fun _ _ _ hh h => h.of_heap hh) Tryz.own started (by kernel_rfl) Tryz.func9
    (ChangeSpec.witness_shaped (enc := enc) (C := Tryz.checked) (os := os) (X := fun w _ => laidMetH Tryz.prog laidE w) false (World.doorLaid Tryz.prog 400 os) #[.slice none 0 0] 8 rfl (World.shaped_of_RefB (by kernel_rfl) (by kernel_rfl)) (by kernel_rfl) (by kernel_rfl) (by kernel_rfl) (err_met os _)) ?_
  intro W base args ds gs before hval0 hW _ _ hL _
  have hval : ∀ (j : Nat) t v, Tryz.f9.params[j]? = some t → args[j]? = some v → Value.okWide Tryz.prog W .any base t v := hval0
  have hW' := hW
  have hlt : ∀ x ∈ before, x.block < W.heap.size := fun x hx => hW.lt x hx
  obtain ⟨p, q, hA0, hV, hpq, hfz, hnd⟩ := hW
  have hA : DataW.TrodAll enc Tryz.prog W 0 (fun _ => true) true Tryz.f9.params.toList args.toList ds p := hA0
  rw [Tryz.params9] at hA hval
  obtain ⟨v0, d0, hargs, rfl, h0⟩ := trodAll_one hA
  obtain ⟨rfl, rfl⟩ := trodVars_none hV
  simp only [List.append_nil] at hpq
  subst hpq
  have hh0 := Lib.hid h0
  have hk := errKind_of_laid hL
  obtain ⟨A0, n0, c0, l0, rfl, wt0⟩ := open_rules (hval 0 22 v0 rfl (by rw [hargs]; rfl)) h0
  subst hargs
  clear hA0 hval0
  refine (exactServeNew_any A0 n0 c0 l0 W wt0 hk).mono fun e W' ⟨he, hb⟩ => ?_
  subst he
  exact ⟨_, rfl, post_true (pv := []) hW' (trodAll_mk1 (shut_bool Tryz.underlying4 true)) (trodAll_mk1 (Below.trod Tryz.laidOut (by kernel_rfl) (of_decide_eq_true (by kernel_rfl)) hh0.out hb hlt)) rfl hb⟩

theorem exactServeNew_in : (Rows.fnExactServeNewRow.inPlace == Tryz.prog.inPlace 9) = true := by kernel_rfl
theorem exactServeNew_un : (Rows.fnExactServeNewRow.unfollowed == Tryz.prog.unfollowed 9) = true := by kernel_rfl
theorem exactServeNew_rec : (Rows.fnExactServeNewRow.recurses == Tryz.prog.recurses 9) = true := by kernel_rfl
theorem exactServeNew_nam : (Rows.fnExactServeNewRow.named == Tryz.prog.varsNamed 9) = true := by kernel_rfl
theorem exactServeNew_goes : false = Rows.fnExactServeNewRow.goesBy Tryz.prog := by kernel_rfl
theorem exactServeNew_named : Tryz.pinned.checked.prog.funcNamed Rows.fnExactServeNewRow.func = some 9 := by kernel_rfl
theorem exactServeNew_joined : joinedFacts Tryz.prog 9 Tryz.f9 Rows.fnExactServeNewSpec Rows.fnExactServeNewRow = true :=
  joined_of (by kernel_rfl) Tryz.laidOut Tryz.c_rowed (by kernel_rfl) exactServeNew_in exactServeNew_un exactServeNew_rec exactServeNew_nam (by kernel_rfl) Tryz.c_keys rfl Tryz.c_heard Tryz.c_enter Tryz.c_lifted (by kernel_rfl)

theorem exactServeNew_row : Rows.FnExactServeNewSaid :=
  OpenClaim.holds_of_wide 9 Tryz.f9 rfl rfl rfl rfl rfl rfl rfl ⟨rfl, rfl, rfl, rfl, rfl⟩ rfl rfl rfl rfl rfl exactServeNew_named Tryz.func9 exactServeNew_joined
    (of_decide_eq_true (by kernel_rfl)) (by unfold Func.isWrapper; rw [if_neg (of_decide_eq_false (by kernel_rfl))]; exact ⟨rfl, rfl⟩)
    (fun os started H enc _ => exactServeNew_lifted os started H enc)

theorem exactServeNew_holds : Rows.FnExactServeNewCardSaid :=
  Claim7.holds_tied_plain_at .later [] [.handle] true _ true
    exactServeNew_row (fun _ h => by cases h) (by kernel_rfl) (fun _ h => by cases h) fnExactServeNew_row_tie rfl ⟨rfl, rfl⟩ Tryz.c_main rfl
    (fun f fn hf hfn => by
      obtain rfl : f = 9 := Option.some.inj (exactServeNew_named.symm.trans hf) |>.symm
      obtain rfl : fn = Tryz.f9 := (Option.some.inj (Tryz.func9.symm.trans hfn)).symm
      exact ⟨Tryz.c_looks, fun j t ht => by
        rw [Tryz.params9] at ht
        have h3 : t = 22 := by
          rcases j with _ | j
          · simpa using ht.symm
          · simp at ht
        subst h3
        exact (show Tryz.prog.wantsStandIn 22 = false by kernel_rfl)⟩)
    exactServeNew_goes

end Go.Proofs.YtnhbnhibphjljaaGreatDoor

