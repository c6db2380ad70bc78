/-
  The law of FactsGone: its walk. (Written by tools/factslaw.py.)
-/
import Derived.Test.YtbhkihnekendbaaLawKit
import Derived.Deep.RegionHeld3
namespace Go.Proofs.Ytbhkihnekendbaa
open Go.RowKit

theorem drawFactsGone_any (A : Option Addr) (n c : Nat) (w : World) (h : IsBytes w w.heap.size A n c) :
    Calls Try.prog 23 #[.slice A n c] w (FactsAnd w) := by
  have X0 := Bx.new w (.string ⟨#[]⟩) (.slice none 0 0) 26
  go_enter Try.func23, Try.ntmps23
  go_wp2_with fail
  refine (drawFactsAdd_any A n c _ (h.up (below1 w _))).mono ?_; rintro e w1 ⟨L, k, d, xs, nm, B, m, d', ts, ⟨rfl, hk, hnm⟩, hI, hT, hb1⟩
  have hbw := belowThen (below1 w _) hb1
  have X1 := X0.later hb1
  obtain ⟨x1, x2, x3, x4, x5⟩ := X1
  have HI := Lib.hid hI; have HT := Lib.hid hT; have HB := Lib.hid hbw
  clear hI hT hbw hb1
  go_wp2
  refine bodyPost_ret (v := .tuple #[.slice L k d, .agg #[.string nm, .slice B m d']]) (by simp [results, Try.results23, go_sem, x2, x3]) rfl ?_
  exact ⟨_, k, d, xs, nm, B, m, d', _, ⟨rfl, hk, hnm⟩, atoms_two HI.out (by simp) (by simp), terms_two HT.out (by simp) (by simp), below_two HB.out (by omega)⟩

set_option maxRecDepth 100000 in
set_option maxHeartbeats 8000000 in
theorem factsGoneLaw_any (A : Option Addr) (n c : Nat) (w : World) (h : IsBytes w w.heap.size A n c) :
    Calls Try.prog 4 #[.slice A n c] w (BoolPost true w) := by
  have hn : n ≤ maxLen := by have := h.1; have := h.2.1; omega
  unfold maxLen at hn
  have H := Lib.hid h; clear h
  go_enter Try.func4, Try.ntmps4
  go_wp2_with fail
  all_goals try (go_ret; exact ⟨rfl, Below.refl _ _⟩)
  refine (drawFactsGone_any A n c w H.out).mono ?_; rintro e w1 ⟨L, k, d, xs, nm, B, m, d', ts, ⟨rfl, hk, hnm⟩, hI, hT, hb1⟩
  have HP := below1 w1 (.cells #[.string nm, .slice B m d'] 26)
  have X0 := Box.new w1 (.string nm) (.slice B m d') 26
  obtain ⟨W0, hW0⟩ : ∃ W0, w1.alloc (.cells #[.string nm, .slice B m d'] 26) = W0 := ⟨_, rfl⟩
  rw [hW0] at HP X0
  have HI0 := Lib.hid (hI.low.up AtomE.stays HP); have HT0 := Lib.hid (hT.low.up HP); have XB0 := Lib.hid X0; have HW0 := Lib.hid (belowThen hb1 HP)
  obtain ⟨P, q, hp⟩ : ∃ P q, goneL xs (nm, ts) = (P, q) := ⟨_, _, rfl⟩
  have HPQ := Lib.hid hp
  clear hI hT hb1 HP hp X0
  obtain ⟨_, y0, y1⟩ := XB0.out
  go_wp2_with fail
  clear y0 y1
  refine (implGone_list L k d xs nm B m d' ts W0 HI0.out hnm HT0.out HPQ.out).mono ?_; rintro e w2 ⟨X, kx, cx, rfl, hx, hb⟩
  have HI2 := Lib.hid (HI0.out.up AtomE.stays hb); have HT2 := Lib.hid (HT0.out.up hb); have XB2 := Lib.hid (XB0.out.later hb); have HW2 := Lib.hid (belowThen HW0.out hb); have HX2 := Lib.hid hx
  clear HI0 HT0 HW0 hb hx hW0
  obtain ⟨_, z0, z1⟩ := XB2.out
  go_wp2_with fail
  refine (specGone_list L k d xs nm B m d' ts w2 HI2.out hnm HT2.out HPQ.out).mono ?_; rintro e w3 ⟨Y, ky, cy, rfl, hy, hb⟩
  clear z0 z1
  have HI := Lib.hid (HI2.out.up AtomE.stays hb); have HT := Lib.hid (HT2.out.up hb); have XB := Lib.hid (XB2.out.later hb); have HW := Lib.hid (belowThen HW2.out hb); have HX := Lib.hid (HX2.out.up AtomE.stays hb); have HY := Lib.hid hy
  clear HI2 HT2 XB2 HW2 HX2 hb hy XB0
  obtain ⟨F, hF⟩ : ∃ F, factsB 300 xs = F := ⟨_, rfl⟩
  have HF := Lib.hid hF; clear hF
  obtain ⟨hh, hhh⟩ : ∃ hh, hasFB xs (nm, ts) = hh := ⟨_, rfl⟩
  have HH := Lib.hid hhh; clear hhh
  obtain ⟨_, z0, z1⟩ := XB.out
  cases F
  · have hpp := HPQ.out
    rw [goneL_no (by rw [HF.out]; rfl)] at hpp
    injection hpp with hp1 hp2
    subst hp1; subst hp2
    skip
    go_wp2_with (first | (go_at_call 17; (with_reducible refine (same_tells HX.out HY.out (by first | exact hB | exact hB.drew | exact (Below.refl _ _).drew | exact Below.refl _ _)).mono ?_); rintro e W5 ⟨rfl, hB⟩; have c0 := XB.out.in1 hB; have c1 := XB.out.in2 hB) | (go_at_call 19; (with_reducible refine (okS_tells HI.out HF.out (by first | exact hB | exact hB.drew | exact (Below.refl _ _).drew | exact Below.refl _ _)).mono ?_); rintro e W5 ⟨rfl, hB⟩; have c0 := XB.out.in1 hB; have c1 := XB.out.in2 hB))
    go_wp2
    go_ret; exact ⟨rfl, belowThen HW.out hB⟩
  · obtain ⟨F0, F1⟩ := goneL_case HF.out HPQ.out |> fun h => And.intro h trivial
    cases q
    · have hPx : P = xs := by
        rcases F0 with ⟨_, h, _⟩ | ⟨h, _⟩
        · exact h
        · cases h
      have hno : hasFB xs (nm, ts) = false := by
        rcases F0 with ⟨_, _, h⟩ | ⟨h, _⟩
        · unfold hasFB; rw [h]; simp
        · cases h
      rw [HH.out] at hno; subst hno
      subst hPx; clear F0 F1
      skip
      go_wp2_with (first | (go_at_call 17; (with_reducible refine (same_tells HX.out HY.out (by first | exact hB | exact hB.drew | exact (Below.refl _ _).drew | exact Below.refl _ _)).mono ?_); rintro e W5 ⟨rfl, hB⟩; have c0 := XB.out.in1 hB; have c1 := XB.out.in2 hB) | (go_at_call 19; (with_reducible refine (okS_tells HI.out HF.out (by first | exact hB | exact hB.drew | exact (Below.refl _ _).drew | exact Below.refl _ _)).mono ?_); rintro e W5 ⟨rfl, hB⟩; have c0 := XB.out.in1 hB; have c1 := XB.out.in2 hB) | (go_at_call 17; (with_reducible refine (same_tells HX.out HI.out (by first | exact hB | exact hB.drew | exact (Below.refl _ _).drew | exact Below.refl _ _)).mono ?_); rintro e W5 ⟨rfl, hB⟩; have c0 := XB.out.in1 hB; have c1 := XB.out.in2 hB) | (go_at_call 20; (with_reducible refine (hasI_tells HI.out hnm HT.out HH.out (by first | exact hB | exact hB.drew | exact (Below.refl _ _).drew | exact Below.refl _ _)).mono ?_); rintro e W5 ⟨rfl, hB⟩; have c0 := XB.out.in1 hB; have c1 := XB.out.in2 hB))
      go_wp2
      go_ret; exact ⟨rfl, belowThen HW.out hB⟩
    · clear F0 F1
      obtain ⟨l1, l2, l3⟩ := gone_law HF.out HPQ.out
      have L1 := Lib.hid l1; have L2 := Lib.hid l2; have L3 := Lib.hid l3; clear l1 l2 l3
      skip
      go_wp2_with (first | (go_at_call 17; (with_reducible refine (same_tells HX.out HY.out (by first | exact hB | exact hB.drew | exact (Below.refl _ _).drew | exact Below.refl _ _)).mono ?_); rintro e W5 ⟨rfl, hB⟩; have c0 := XB.out.in1 hB; have c1 := XB.out.in2 hB) | (go_at_call 19; (with_reducible refine (okS_tells HI.out HF.out (by first | exact hB | exact hB.drew | exact (Below.refl _ _).drew | exact Below.refl _ _)).mono ?_); rintro e W5 ⟨rfl, hB⟩; have c0 := XB.out.in1 hB; have c1 := XB.out.in2 hB))
      have hB0 := Lib.hid hB; have q0 := Lib.hid c0; have q1 := Lib.hid c1
      clear hB c0 c1
      have hB := hB0.out; have c0 := q0.out; have c1 := q1.out
      refine (implAdd_list X kx cx P nm B m d' ts W5 (HX.out.up AtomE.stays hB) hnm (HT.out.up hB) L3.out).mono ?_; rintro e w7 ⟨Z, kz, cz, rfl, hz, hb7⟩
      have h7 := Lib.hid (belowThen hB hb7)
      have HI7 := Lib.hid (HI.out.up AtomE.stays h7.out); have HX7 := Lib.hid (HX.out.up AtomE.stays h7.out); have HT7 := Lib.hid (HT.out.up h7.out); have XB7 := Lib.hid (XB.out.later h7.out); have HW7 := Lib.hid (belowThen HW.out h7.out); have HZ7 := Lib.hid hz
      clear hB c0 c1 hb7 hz z0 z1
      obtain ⟨_, z0, z1⟩ := XB7.out
      go_wp2_with (first | (go_at_call 18; (with_reducible refine (okI_tells HX7.out L1.out (by first | exact hB | exact hB.drew | exact (Below.refl _ _).drew | exact Below.refl _ _)).mono ?_); rintro e W5 ⟨rfl, hB⟩; have c0 := XB7.out.in1 hB; have c1 := XB7.out.in2 hB) | (go_at_call 20; (with_reducible refine (hasI_tells HX7.out hnm HT7.out L2.out (by first | exact hB | exact hB.drew | exact (Below.refl _ _).drew | exact Below.refl _ _)).mono ?_); rintro e W5 ⟨rfl, hB⟩; have c0 := XB7.out.in1 hB; have c1 := XB7.out.in2 hB) | (go_at_call 17; (with_reducible refine (same_tells HZ7.out HI7.out (by first | exact hB | exact hB.drew | exact (Below.refl _ _).drew | exact Below.refl _ _)).mono ?_); rintro e W5 ⟨rfl, hB⟩; have c0 := XB7.out.in1 hB; have c1 := XB7.out.in2 hB))
      go_wp2
      go_ret; exact ⟨rfl, belowThen HW7.out hB⟩

end Go.Proofs.Ytbhkihnekendbaa
