/-
  The law of ChangeBoth: its walk. (Written by tools/bothlaw.py.)
-/
import Derived.Test.YtbhkihnekendbaaBothKit
import Derived.Deep.RegionHeld3
namespace Go.Proofs.Ytbhkihnekendbaa
open Go.RowKit

section
variable {w W : World} {A B D A1 A2 B1 B2 : Option Addr} {n c m d m' d' n1 c1 n2 c2 m1 d1 m2 d2 : Nat} {xs cs gs P Q : List At}
theorem changes_tell (h1 : IsAtoms w 0 w.heap.size A1 n1 c1 P) (h2 : IsAtoms w 0 w.heap.size A2 n2 c2 Q) (h3 : IsAtoms w 0 w.heap.size B1 m1 d1 P) (h4 : IsAtoms w 0 w.heap.size B2 m2 d2 Q) (hW : Below w.heap.size w W) :
    Calls Try.prog 27 #[.agg #[.slice A1 n1 c1, .slice A2 n2 c2], .agg #[.slice B1 m1 d1, .slice B2 m2 d2]] W (Tells w true) :=
  changeNow_tells h1 h2 (h3.up AtomE.stays hW) (h4.up AtomE.stays hW) hW

/-- A list was told, in a world that keeps what was in w, and what was just now. -/
def ListNow (w W : World) (P : List At) (e : Ending) (W' : World) : Prop := ∃ (A : Option Addr) (c : Nat), e = .returned (.slice A P.length c) ∧ IsAtoms W' 0 W'.heap.size A P.length c P ∧ Below w.heap.size w W' ∧ Below W.heap.size W W'

theorem doNow (hz : IsAtoms W 0 W.heap.size A n c xs) (h1 : IsAtoms w 0 w.heap.size B m d cs) (h2 : IsAtoms w 0 w.heap.size D m' d' gs) (hp : (doneL xs cs gs).1 = P) (hW : Below w.heap.size w W) : Calls Try.prog 31 #[.slice A n c, .agg #[.slice B m d, .slice D m' d']] W (ListNow w W P) :=
  (implChangeDo_any A n c xs B m d cs D m' d' gs W hz (h1.up AtomE.stays hW) (h2.up AtomE.stays hW)).mono fun e W' x => by
    subst hp
    obtain ⟨A, c, rs, rfl, q1, q2, q3⟩ := x
    exact ⟨A, c, rfl, q1.told q2 (Nat.le_refl _), belowThen hW q3, q3⟩

theorem doLong (h : IsAtoms w 0 w.heap.size A n c xs) (h1 : IsAtoms w 0 w.heap.size B m d cs) (h2 : IsAtoms w 0 w.heap.size D m' d' gs) (hp : (doneL xs cs gs).1 = P) (hW : Below w.heap.size w W) : Calls Try.prog 31 #[.slice A n c, .agg #[.slice B m d, .slice D m' d']] W (ListNow w W P) :=
  doNow (h.up AtomE.stays hW) h1 h2 hp hW

theorem same_now (hz : IsAtoms W 0 W.heap.size A n c xs) (hz' : IsAtoms W 0 W.heap.size B m d xs) (hW : Below w.heap.size w W) : Calls Try.prog 17 #[.slice A n c, .slice B m d] W (Tells w true) :=
  (fsSame_any A B n c m d xs xs W hz hz').mono fun _ _ x => tells hW (listEq_self xs) x
end

set_option maxRecDepth 100000 in
set_option maxHeartbeats 8000000 in
theorem changeBothLaw_any (A : Option Addr) (n c : Nat) (A' : Option Addr) (n' c' : Nat) (w : World) (h : IsBytes w w.heap.size A n c) (h' : IsBytes w w.heap.size A' n' c') :
    Calls Try.prog 7 #[.slice A n c, .slice A' n' c'] w (BoolPost true w) := by
  have hn : n ≤ maxLen := by have := h.1; have := h.2.1; omega
  have hn' : n' ≤ maxLen := by have := h'.1; have := h'.2.1; omega
  unfold maxLen at hn hn'
  have H := Lib.hid h; clear h
  have H' := Lib.hid h'; clear h'
  go_enter Try.func7, Try.ntmps7
  go_wp2_with fail
  all_goals try (go_ret; exact ⟨rfl, Below.refl _ _⟩)
  refine (drawChangeBoth_any A n c w H.out).mono ?_; rintro e w1 ⟨A1, n1, r1, ca, A2, n2, r2, ga, B1, m1, d1, cb, B2, m2, d2, gb, ⟨rfl, hn1, hn2, hm1, hm2⟩, ⟨hC, hG⟩, ⟨kC, kG⟩, hb1⟩
  have HP := below2 w1 (.cells #[.slice A1 n1 r1, .slice A2 n2 r2] 38) (.cells #[.slice B1 m1 d1, .slice B2 m2 d2] 38)
  have X0 := (Box.new w1 (.slice A1 n1 r1) (.slice A2 n2 r2) 38).up (.cells #[.slice B1 m1 d1, .slice B2 m2 d2] 38)
  have Y0 := Box.new2 w1 (.cells #[.slice A1 n1 r1, .slice A2 n2 r2] 38) (.slice B1 m1 d1) (.slice B2 m2 d2) 38
  obtain ⟨w2, hw2⟩ : ∃ w2, (w1.alloc (.cells #[.slice A1 n1 r1, .slice A2 n2 r2] 38)).alloc (.cells #[.slice B1 m1 d1, .slice B2 m2 d2] 38) = w2 := ⟨_, rfl⟩
  rw [hw2] at HP X0 Y0
  have HA2 := Lib.hid (hC.up AtomE.stays HP); have HG2 := Lib.hid (hG.up AtomE.stays HP); have KA2 := Lib.hid (kC.up AtomE.stays HP); have KG2 := Lib.hid (kG.up AtomE.stays HP); have XA2 := Lib.hid X0; have XC2 := Lib.hid Y0; have HW2 := Lib.hid (belowThen hb1 HP); have HM2 := Lib.hid (H'.out.up (belowThen hb1 HP))
  have hcl := hC.1; have hkl := kC.1
  clear hC hG kC kG hb1 HP X0 Y0
  obtain ⟨P, Q, q, hp⟩ : ∃ P Q q, bothL ca ga cb gb = ((P, Q), q) := ⟨_, _, _, rfl⟩
  have HPQ := Lib.hid hp; clear hp
  obtain ⟨_, u0, u1⟩ := XA2.out; obtain ⟨_, u2, u3⟩ := XC2.out
  go_wp2_with fail
  clear u0 u1 u2 u3
  refine (bothI_from HA2.out HG2.out KA2.out KG2.out HPQ.out (Below.refl _ _)).mono ?_; rintro e w3 ⟨X1, e1, X2, e2, rfl, hx1, hx2, hb⟩
  have HP := below1 w3 (.cells #[.slice X1 P.length e1, .slice X2 Q.length e2] 38)
  have X0 := Box.new w3 (.slice X1 P.length e1) (.slice X2 Q.length e2) 38
  obtain ⟨w4, hw4⟩ : ∃ w4, w3.alloc (.cells #[.slice X1 P.length e1, .slice X2 Q.length e2] 38) = w4 := ⟨_, rfl⟩
  rw [hw4] at HP X0
  have hb4 := belowThen hb HP
  have HA4 := Lib.hid (HA2.out.up AtomE.stays hb4); have HG4 := Lib.hid (HG2.out.up AtomE.stays hb4); have KA4 := Lib.hid (KA2.out.up AtomE.stays hb4); have KG4 := Lib.hid (KG2.out.up AtomE.stays hb4); have XA4 := Lib.hid (XA2.out.later hb4); have XC4 := Lib.hid (XC2.out.later hb4); have HW4 := Lib.hid (belowThen HW2.out hb4); have HM4 := Lib.hid (HM2.out.up hb4)
  clear HA2 HG2 KA2 KG2 XA2 XC2 HW2 HM2
  have HX4 := Lib.hid (hx1.up AtomE.stays HP); have HY4 := Lib.hid (hx2.up AtomE.stays HP); have XD4 := Lib.hid X0
  clear hx1 hx2 hb HP X0 hb4
  obtain ⟨_, u0, u1⟩ := XA4.out; obtain ⟨_, u2, u3⟩ := XC4.out; obtain ⟨_, u4, u5⟩ := XD4.out
  go_wp2_with fail
  clear u0 u1 u2 u3 u4 u5
  refine (bothS_from HA4.out HG4.out KA4.out KG4.out HPQ.out (Below.refl _ _)).mono ?_; rintro e w5 ⟨Y1, f1, Y2, f2, rfl, hy1, hy2, hb⟩
  have HP := below1 w5 (.cells #[.slice Y1 P.length f1, .slice Y2 Q.length f2] 38)
  have X0 := Box.new w5 (.slice Y1 P.length f1) (.slice Y2 Q.length f2) 38
  obtain ⟨w6, hw6⟩ : ∃ w6, w5.alloc (.cells #[.slice Y1 P.length f1, .slice Y2 Q.length f2] 38) = w6 := ⟨_, rfl⟩
  rw [hw6] at HP X0
  have hb6 := belowThen hb HP
  have HA6 := Lib.hid (HA4.out.up AtomE.stays hb6); have HG6 := Lib.hid (HG4.out.up AtomE.stays hb6); have KA6 := Lib.hid (KA4.out.up AtomE.stays hb6); have KG6 := Lib.hid (KG4.out.up AtomE.stays hb6); have XA6 := Lib.hid (XA4.out.later hb6); have XC6 := Lib.hid (XC4.out.later hb6); have HX6 := Lib.hid (HX4.out.up AtomE.stays hb6); have HY6 := Lib.hid (HY4.out.up AtomE.stays hb6); have XD6 := Lib.hid (XD4.out.later hb6); have HW6 := Lib.hid (belowThen HW4.out hb6); have HM6 := Lib.hid (HM4.out.up hb6)
  clear HA4 HG4 KA4 KG4 XA4 XC4 HX4 HY4 XD4 HW4 HM4
  have JX6 := Lib.hid (hy1.up AtomE.stays HP); have JY6 := Lib.hid (hy2.up AtomE.stays HP); have XE6 := Lib.hid X0
  clear hy1 hy2 hb HP X0 hb6
  have hB : Below w6.heap.size w6 w6 := Below.refl _ _
  have c0 := XA6.out.in1 hB; have c1 := XA6.out.in2 hB; have c2 := XC6.out.in1 hB; have c3 := XC6.out.in2 hB; have c4 := XD6.out.in1 hB; have c5 := XD6.out.in2 hB; have c6 := XE6.out.in1 hB; have c7 := XE6.out.in2 hB
  cases q
  · skip
    go_wp2_with (first | (go_at_call 27; (with_reducible refine (changes_tell HX6.out HY6.out JX6.out JY6.out (by first | exact hB | exact hB.drew | exact (Below.refl _ _).drew | exact Below.refl _ _)).mono ?_); rintro e W5 ⟨rfl, hB⟩; have c0 := XA6.out.in1 hB; have c1 := XA6.out.in2 hB; have c2 := XC6.out.in1 hB; have c3 := XC6.out.in2 hB; have c4 := XD6.out.in1 hB; have c5 := XD6.out.in2 hB; have c6 := XE6.out.in1 hB; have c7 := XE6.out.in2 hB))
    go_wp2
    go_ret; exact ⟨rfl, belowThen HW6.out hB⟩
  · skip
    go_wp2_with (first | (go_at_call 27; (with_reducible refine (changes_tell HX6.out HY6.out JX6.out JY6.out (by first | exact hB | exact hB.drew | exact (Below.refl _ _).drew | exact Below.refl _ _)).mono ?_); rintro e W5 ⟨rfl, hB⟩; have c0 := XA6.out.in1 hB; have c1 := XA6.out.in2 hB; have c2 := XC6.out.in1 hB; have c3 := XC6.out.in2 hB; have c4 := XD6.out.in1 hB; have c5 := XD6.out.in2 hB; have c6 := XE6.out.in1 hB; have c7 := XE6.out.in2 hB))
    have hB0 := Lib.hid hB; have q0 := Lib.hid c0; have q1 := Lib.hid c1; have q2 := Lib.hid c2; have q3 := Lib.hid c3; have q4 := Lib.hid c4; have q5 := Lib.hid c5; have q6 := Lib.hid c6; have q7 := Lib.hid c7
    clear hB c0 c1 c2 c3 c4 c5 c6 c7
    have hB := hB0.out; have c0 := q0.out; have c1 := q1.out; have c2 := q2.out; have c3 := q3.out; have c4 := q4.out; have c5 := q5.out; have c6 := q6.out; have c7 := q7.out
    refine (drawFactsOk_any A' n' c' _ (HM6.out.up hB)).mono ?_; rintro e w7 ⟨L, k, d, xs, ⟨rfl, hk⟩, hI, hb7⟩
    have h7 := Lib.hid (belowThen hB hb7)
    clear hB c0 c1 c2 c3 c4 c5 c6 c7 hb7
    have HI7 := Lib.hid hI; clear hI
    have HA7 := Lib.hid (HA6.out.up AtomE.stays h7.out); have HG7 := Lib.hid (HG6.out.up AtomE.stays h7.out); have KA7 := Lib.hid (KA6.out.up AtomE.stays h7.out); have KG7 := Lib.hid (KG6.out.up AtomE.stays h7.out); have XA7 := Lib.hid (XA6.out.later h7.out); have XC7 := Lib.hid (XC6.out.later h7.out); have HX7 := Lib.hid (HX6.out.up AtomE.stays h7.out); have HY7 := Lib.hid (HY6.out.up AtomE.stays h7.out); have XD7 := Lib.hid (XD6.out.later h7.out); have XE7 := Lib.hid (XE6.out.later h7.out); have HW7 := Lib.hid (belowThen HW6.out h7.out); have HM7 := Lib.hid (HM6.out.up h7.out)
    clear HA6 HG6 KA6 KG6 XA6 XC6 HX6 HY6 XD6 XE6 HW6 HM6
    have hB : Below w7.heap.size w7 w7 := Below.refl _ _
    have c0 := XA7.out.in1 hB; have c1 := XA7.out.in2 hB; have c2 := XC7.out.in1 hB; have c3 := XC7.out.in2 hB; have c4 := XD7.out.in1 hB; have c5 := XD7.out.in2 hB; have c6 := XE7.out.in1 hB; have c7 := XE7.out.in2 hB
    obtain ⟨F1, hF1⟩ : ∃ F, factsB 300 xs = F := ⟨_, rfl⟩
    have HF1 := Lib.hid hF1; clear hF1
    have hxl := HI7.out.1
    have hk3 : ¬ (100 : Int) < (k : Int) := by omega
    cases F1
    · skip
      go_wp2_with (first | (go_at_call 19; (with_reducible refine (okS_tells HI7.out HF1.out (by first | exact hB | exact hB.drew | exact (Below.refl _ _).drew | exact Below.refl _ _)).mono ?_); rintro e W5 ⟨rfl, hB⟩; have c0 := XA7.out.in1 hB; have c1 := XA7.out.in2 hB; have c2 := XC7.out.in1 hB; have c3 := XC7.out.in2 hB; have c4 := XD7.out.in1 hB; have c5 := XD7.out.in2 hB; have c6 := XE7.out.in1 hB; have c7 := XE7.out.in2 hB))
      go_wp2
      go_ret; exact ⟨rfl, belowThen HW7.out hB⟩
    · obtain ⟨D1, D2, l1, l2, l3⟩ := both_law HF1.out HPQ.out (by omega) (by omega) (by omega)
      have L1 := Lib.hid l1; have L2 := Lib.hid l2; have L3 := Lib.hid l3; clear l1 l2 l3
      go_wp2_with (first | (go_at_call 19; (with_reducible refine (okS_tells HI7.out HF1.out (by first | exact hB | exact hB.drew | exact (Below.refl _ _).drew | exact Below.refl _ _)).mono ?_); rintro e W5 ⟨rfl, hB⟩; have c0 := XA7.out.in1 hB; have c1 := XA7.out.in2 hB; have c2 := XC7.out.in1 hB; have c3 := XC7.out.in2 hB; have c4 := XD7.out.in1 hB; have c5 := XD7.out.in2 hB; have c6 := XE7.out.in1 hB; have c7 := XE7.out.in2 hB))
      have hB0 := Lib.hid hB; have q0 := Lib.hid c0; have q1 := Lib.hid c1; have q2 := Lib.hid c2; have q3 := Lib.hid c3; have q4 := Lib.hid c4; have q5 := Lib.hid c5; have q6 := Lib.hid c6; have q7 := Lib.hid c7
      clear hB c0 c1 c2 c3 c4 c5 c6 c7
      have hB := hB0.out; have c0 := q0.out; have c1 := q1.out; have c2 := q2.out; have c3 := q3.out; have c4 := q4.out; have c5 := q5.out; have c6 := q6.out; have c7 := q7.out
      go_region_held3 (fun W => Below w7.heap.size w7 W ∧ W.cell? ⟨w1.heap.size, 0, none⟩ = some (.slice A1 n1 r1) ∧ W.cell? ⟨w1.heap.size, 1, none⟩ = some (.slice A2 n2 r2) ∧ W.cell? ⟨w1.heap.size + 1, 0, none⟩ = some (.slice B1 m1 d1) ∧ W.cell? ⟨w1.heap.size + 1, 1, none⟩ = some (.slice B2 m2 d2) ∧ W.cell? ⟨w3.heap.size, 0, none⟩ = some (.slice X1 P.length e1) ∧ W.cell? ⟨w3.heap.size, 1, none⟩ = some (.slice X2 Q.length e2) ∧ W.cell? ⟨w5.heap.size, 0, none⟩ = some (.slice Y1 P.length f1) ∧ W.cell? ⟨w5.heap.size, 1, none⟩ = some (.slice Y2 Q.length f2)) (first | exact ⟨hB, c0, c1, c2, c3, c4, c5, c6, c7⟩ | exact ⟨hB.drew, c0, c1, c2, c3, c4, c5, c6, c7⟩) (first | (go_at_call 31; (with_reducible refine (doLong HI7.out HX7.out HY7.out L1.out (by first | exact hB | exact hB.drew | exact (Below.refl _ _).drew | exact Below.refl _ _)).mono ?_); rintro e W5 ⟨Z1, z1, rfl, hza, hB, hBW⟩; have c0 := XA7.out.in1 hB; have c1 := XA7.out.in2 hB; have c2 := XC7.out.in1 hB; have c3 := XC7.out.in2 hB; have c4 := XD7.out.in1 hB; have c5 := XD7.out.in2 hB; have c6 := XE7.out.in1 hB; have c7 := XE7.out.in2 hB) | (go_at_call 31; (with_reducible refine (doLong HI7.out HA7.out HG7.out L2.out (by first | exact hB | exact hB.drew | exact (Below.refl _ _).drew | exact Below.refl _ _)).mono ?_); rintro e W5 ⟨Z2, z2, rfl, hzb, hB, hBW⟩; have c0 := XA7.out.in1 hB; have c1 := XA7.out.in2 hB; have c2 := XC7.out.in1 hB; have c3 := XC7.out.in2 hB; have c4 := XD7.out.in1 hB; have c5 := XD7.out.in2 hB; have c6 := XE7.out.in1 hB; have c7 := XE7.out.in2 hB; have hza := hza.up AtomE.stays hBW) | (go_at_call 31; (with_reducible refine (doNow hzb KA7.out KG7.out L3.out (by first | exact hB | exact hB.drew | exact (Below.refl _ _).drew | exact Below.refl _ _)).mono ?_); rintro e W5 ⟨Z3, z3, rfl, hzc, hB, hBW⟩; have c0 := XA7.out.in1 hB; have c1 := XA7.out.in2 hB; have c2 := XC7.out.in1 hB; have c3 := XC7.out.in2 hB; have c4 := XD7.out.in1 hB; have c5 := XD7.out.in2 hB; have c6 := XE7.out.in1 hB; have c7 := XE7.out.in2 hB; have hza := hza.up AtomE.stays hBW) | (go_at_call 17; (with_reducible refine (same_now hza hzc (by first | exact hB | exact hB.drew | exact (Below.refl _ _).drew | exact Below.refl _ _)).mono ?_); rintro e W5 ⟨rfl, hB⟩; have c0 := XA7.out.in1 hB; have c1 := XA7.out.in2 hB; have c2 := XC7.out.in1 hB; have c3 := XC7.out.in2 hB; have c4 := XD7.out.in1 hB; have c5 := XD7.out.in2 hB; have c6 := XE7.out.in1 hB; have c7 := XE7.out.in2 hB))
      go_wp2
      go_ret; exact ⟨rfl, belowThen HW7.out hB⟩

end Go.Proofs.Ytbhkihnekendbaa
