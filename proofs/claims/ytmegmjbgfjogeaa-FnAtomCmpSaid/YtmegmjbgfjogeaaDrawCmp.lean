/-
  Drawing: two atoms, of which the second may be a copy of the first.
-/
import Derived.Test.YtmegmjbgfjogeaaDraw3
import Derived.Test.YtmegmjbgfjogeaaDraw4
namespace Go.Proofs.Ytmegmjbgfjogeaa
open Go.RowKit

theorem two {a : World} {x : Nat} {u v y y' : Value} {q q' : Addr} (h : Bx a x u v) (hq : x ≠ q.block) (hq' : x ≠ q'.block) :
    ((a.setCell q y).setCell q' y').cell? ⟨x, 0, none⟩ = some u ∧ ((a.setCell q y).setCell q' y').cell? ⟨x, 1, none⟩ = some v :=
  ⟨((h.other hq y).other hq' y').2.1, ((h.other hq y).other hq' y').2.2.1⟩

theorem four {a : World} {x : Nat} {u v y y' y'' y3 : Value} {q q' q'' q3 : Addr} (h : Bx a x u v) (hq : x ≠ q.block) (hq' : x ≠ q'.block) (hq'' : x ≠ q''.block) (hq3 : x ≠ q3.block) :
    ((((a.setCell q y).setCell q' y').setCell q'' y'').setCell q3 y3).cell? ⟨x, 0, none⟩ = some u ∧ ((((a.setCell q y).setCell q' y').setCell q'' y'').setCell q3 y3).cell? ⟨x, 1, none⟩ = some v :=
  two ((h.other hq y).other hq' y') hq'' hq3

theorem terms_four {w : World} {lo n c : Nat} {A : Option Addr} {ts : List Tm} {q q' q'' q3 : Addr} {y y' y'' y3 : Value} (h : IsTerms w lo w.heap.size A n c ts) (hq : q.block < lo) (hq' : q'.block < lo) (hq'' : q''.block < lo) (hq3 : q3.block < lo) :
    IsTerms ((((w.setCell q y).setCell q' y').setCell q'' y'').setCell q3 y3) 0 ((((w.setCell q y).setCell q' y').setCell q'' y'').setCell q3 y3).heap.size A n c ts := by
  refine h.keep (fun x hx _ => ?_) (Nat.zero_le _) (by simp only [size_setCell]; exact Nat.le_refl _)
  rw [World.cell?_setCell_other _ _ _ _ (fun e => by subst e; omega), World.cell?_setCell_other _ _ _ _ (fun e => by subst e; omega), World.cell?_setCell_other _ _ _ _ (fun e => by subst e; omega), World.cell?_setCell_other _ _ _ _ (fun e => by subst e; omega)]

theorem below_four {w W : World} {B : Nat} {q q' q'' q3 : Addr} {y y' y'' y3 : Value} (h : Below B w W) (hq : B ≤ q.block) (hq' : B ≤ q'.block) (hq'' : B ≤ q''.block) (hq3 : B ≤ q3.block) :
    Below B w ((((W.setCell q y).setCell q' y').setCell q'' y'').setCell q3 y3) := (((h.setCell hq _).setCell hq' _).setCell hq'' _).setCell hq3 _

/-- Two atoms were drawn. -/
def TwoAtoms (w : World) (e : Ending) (w' : World) : Prop :=
  ∃ (nm : ByteArray) (A : Option Addr) (k d : Nat) (ts : List Tm) (nm' : ByteArray) (A' : Option Addr) (k' d' : Nat) (us : List Tm),
    (e = .returned (.tuple #[.agg #[.string nm, .slice A k d], .agg #[.string nm', .slice A' k' d']]) ∧ nm.size ≤ 16 ∧ nm'.size ≤ 16) ∧
      IsTerms w' 0 w'.heap.size A k d ts ∧ IsTerms w' 0 w'.heap.size A' k' d' us ∧ Below w.heap.size w w'

theorem IsBytes.up {w w' : World} {A : Option Addr} {n c : Nat} (h : IsBytes w w.heap.size A n c) (hb : Below w.heap.size w w') : IsBytes w' w'.heap.size A n c := by
  obtain ⟨h1, h2, h3⟩ := h.keep (w' := w') (fun q hq => hb.cell hq)
  exact ⟨h1, h2, fun hn => by
    obtain ⟨q, hq, hb', hc⟩ := h3 hn
    exact ⟨q, hq, Nat.lt_of_lt_of_le hb' hb.size, hc⟩⟩

theorem Bx.later {a b : World} {x : Nat} {u v : Value} (h : Bx a x u v) (hb : Below a.heap.size a b) : Bx b x u v := h.grown (grownBelow hb none) (by simp)

set_option maxRecDepth 100000 in
set_option maxHeartbeats 2000000 in
theorem drawAtomCmp_any (A : Option Addr) (n c : Nat) (w : World) (h : IsBytes w w.heap.size A n c) :
    Calls Try.prog 13 #[.slice A n c] w (TwoAtoms w) := by
  go_enter Try.func13, Try.ntmps13
  go_wp2_with fail
  have hX0 := (Bx.new w (.string ⟨#[]⟩) (.slice none 0 0) 28).later (below1 _ (.cells #[.string ⟨#[]⟩, .slice none 0 0] 28))
  have hX1 := Bx.new (w.alloc (.cells #[.string ⟨#[]⟩, .slice none 0 0] 28)) (.string ⟨#[]⟩) (.slice none 0 0) 28
  rw [size_alloc_eq] at hX1
  refine (open_any A n c _ (h.up (below2 w _ _))).mono ?_; rintro e w1 ⟨b, n', ⟨rfl, hb⟩, hr, hb1⟩
  rw [size_alloc_eq, size_alloc_eq] at hb
  have X1 := Lib.hid (hX0.later hb1)
  have Y1 := Lib.hid (hX1.later hb1)
  have HB1 := belowThen (below2 w _ _) hb1
  have R1 := Lib.hid hr
  clear hX0 hX1 hb1 hr
  go_wp2_with fail
  refine (any_atom_draw b A n' c 0 w1 R1.out (by omega)).mono ?_; rintro e w2 ⟨nm, A', k, d, ts, p', ⟨rfl, hnm, hk, hp'⟩, hlen, hs', hown, hrd, hg2⟩
  have hbw1 : b < w1.heap.size := R1.out.1
  have hal := below1 w2 (.cells #[.string nm, .slice A' k d] 28)
  have X2 := Lib.hid ((X1.out.grown hg2 (fun e => by injection e with e; omega)).later hal)
  have Y2 := Lib.hid ((Y1.out.grown hg2 (fun e => by injection e with e; omega)).later hal)
  have Z2 := Lib.hid (Bx.new w2 (.string nm) (.slice A' k d) 28)
  have R2 := Lib.hid (hrd.below hal)
  have O2 := Lib.hid (hown.alloc (.cells #[.string nm, .slice A' k d] 28))
  have hsz2 := hg2.size
  have G2 := Lib.hid (grownTrans hg2 (grownBelow hal (some b)))
  have L2 := Lib.hid hlen; have S2 := Lib.hid hs'
  clear hal hrd hown hg2 hlen hs' R1 X1 Y1
  go_wp2_with fail
  refine (pick_any b A n' c _ _ _ R2.out (by omega) (by omega)).mono ?_; rintro e w3 ⟨kk, ⟨rfl, hkk⟩, hrd3, hg3⟩
  have hg23 := grownTrans G2.out hg3
  have X3 := X2.out.grown hg3 (fun e => by injection e with e; omega)
  have Y3 := Y2.out.grown hg3 (fun e => by injection e with e; omega)
  have Z3 := Z2.out.grown hg3 (fun e => by injection e with e; omega)
  have O3 := Lib.hid (World.ownsRow.kept O2.out hg3 (ownNe O2.out (by omega)))
  have G3 := Lib.hid hg23
  have R3 := Lib.hid (show Rd w3.drew b A n' c (p' + 1) from hrd3)
  have HX3 := Lib.hid X3; have HY3 := Lib.hid Y3; have HZ3 := Lib.hid Z3
  clear hg23 hrd3 hg3 X2 Y2 Z2 O2 G2 R2
  obtain ⟨x1, x2, x3, x4, x5⟩ := X3
  obtain ⟨y1, y2, y3, y4, y5⟩ := Y3
  obtain ⟨z1, z2, z3, z4, z5⟩ := Z3
  by_cases k0 : kk = 0
  · subst k0
    obtain ⟨A'', d'', hv, hT⟩ := owned_terms O3.out L2.out S2.out
    injection hv with hv1 hv2 hv3
    subst hv1; subst hv3
    have HT := Lib.hid hT; clear hT
    have HT0 := Lib.hid (show IsTerms w3.drew 0 w3.drew.heap.size A' k d ts from HT.out.keep (fun _ _ _ => rfl) (Nat.zero_le _) (Nat.le_refl _))
    go_wp2_with fail
    have zd2 : w3.drew.cell? ⟨w2.heap.size, 0, none⟩ = some (.string nm) := z2
    have zd3 : w3.drew.cell? ⟨w2.heap.size, 1, none⟩ = some (.slice A' k d) := z3
    go_region_held3 (fun W => W.cell? ⟨w2.heap.size, 0, none⟩ = some (.string nm) ∧ W.cell? ⟨w2.heap.size, 1, none⟩ = some (.slice A' k d))
      (first | (with_reducible exact t4) | (with_reducible exact t2) | (with_reducible exact ⟨zz2, zz3⟩) | (with_reducible exact ⟨zd2, zd3⟩) | (with_reducible exact ⟨z2, z3⟩))
      (((with_reducible refine (l3Atom_any nm A' k d ts _ HT0.out hk S2.out).mono ?_); rintro e w4 ⟨A4, d4, rfl, hT4, hb4'⟩; have hb4 : Below w3.heap.size w3 w4 := undrew hb4'; clear hb4'; have Z4 := HZ3.out.later hb4; have X4 := HX3.out.later hb4; have Y4 := HY3.out.later hb4; have zz2 := Z4.2.1; have zz3 := Z4.2.2.1; have t2 := two Z4 (q := ⟨w.heap.size, 0, none⟩) (q' := ⟨w.heap.size, 1, none⟩) (y := .string nm) (y' := .slice A' k d) (by simp; omega) (by simp; omega); have t4 := four Z4 (q := ⟨w.heap.size, 0, none⟩) (q' := ⟨w.heap.size, 1, none⟩) (y := .string nm) (y' := .slice A' k d) (q'' := ⟨w.heap.size + 1, 0, none⟩) (q3 := ⟨w.heap.size + 1, 1, none⟩) (y'' := .string nm) (y3 := .slice A4 k d4) (by simp; omega) (by simp; omega) (by simp; omega) (by simp; omega); have xx2 := X4.2.1; have xx3 := X4.2.2.1; have xx4 := X4.2.2.2.1; have xx5 := X4.2.2.2.2; have yy2 := Y4.2.1; have yy3 := Y4.2.2.1; have yy4 := Y4.2.2.2.1; have yy5 := Y4.2.2.2.2))
    all_goals
      clear t2 t4 zz2 zz3
      go_wp2
      refine bodyPost_ret (v := .tuple #[.agg #[.string nm, .slice A' k d], .agg #[.string nm, .slice A4 k d4]]) (by simp [results, Try.results13, go_sem, xx2, xx3, yy2, yy3]) rfl ?_
      refine ⟨nm, A', k, d, ts, nm, A4, k, d4, ts, ⟨rfl, hnm, hnm⟩, ?_, ?_, ?_⟩
      · exact terms_four (HT.out.up hb4) (by simp; omega) (by simp; omega) (by simp; omega) (by simp; omega)
      · exact terms_four hT4 (by simp; omega) (by simp; omega) (by simp; omega) (by simp; omega)
      · exact below_four ((HB1.grown G3.out HB1.size (fun k hk => by injection hk with hk; omega)).trans (hb4.mono (by have := G3.out.size; have := HB1.size; omega))) (by simp) (by simp) (by simp) (by simp)
  · have zd2 : w3.drew.cell? ⟨w2.heap.size, 0, none⟩ = some (.string nm) := z2
    have zd3 : w3.drew.cell? ⟨w2.heap.size, 1, none⟩ = some (.slice A' k d) := z3
    go_wp2_with fail
    go_region_held3 (fun W => W.cell? ⟨w2.heap.size, 0, none⟩ = some (.string nm) ∧ W.cell? ⟨w2.heap.size, 1, none⟩ = some (.slice A' k d))
      (first | (with_reducible exact t4) | (with_reducible exact t2) | (with_reducible exact ⟨zz2, zz3⟩) | (with_reducible exact ⟨zd2, zd3⟩) | (with_reducible exact ⟨z2, z3⟩))
      (((with_reducible refine (any_atom_draw b A n' c (p' + 1) _ R3.out (by omega)).mono ?_); rintro e w4 ⟨nm2, A2, k4, d4, us, p4, ⟨rfl, hnm2, hk4, hp4⟩, hl4, hs4, hown4, hr4, hg4'⟩; have hg4 := ungrown hg4'; clear hg4'; have Z4 := HZ3.out.grown hg4 (fun e => by (injection e with e; omega)); have X4 := HX3.out.grown hg4 (fun e => by (injection e with e; omega)); have Y4 := HY3.out.grown hg4 (fun e => by (injection e with e; omega)); have zz2 := Z4.2.1; have zz3 := Z4.2.2.1; have t2 := two Z4 (q := ⟨w.heap.size, 0, none⟩) (q' := ⟨w.heap.size, 1, none⟩) (y := .string nm) (y' := .slice A' k d) (by simp; omega) (by simp; omega); have t4 := four Z4 (q := ⟨w.heap.size, 0, none⟩) (q' := ⟨w.heap.size, 1, none⟩) (y := .string nm) (y' := .slice A' k d) (q'' := ⟨w.heap.size + 1, 0, none⟩) (q3 := ⟨w.heap.size + 1, 1, none⟩) (y'' := .string nm2) (y3 := .slice A2 k4 d4) (by simp; omega) (by simp; omega) (by simp; omega) (by simp; omega); have xx2 := X4.2.1; have xx3 := X4.2.2.1; have xx4 := X4.2.2.2.1; have xx5 := X4.2.2.2.2; have yy2 := Y4.2.1; have yy3 := Y4.2.2.1; have yy4 := Y4.2.2.2.1; have yy5 := Y4.2.2.2.2))
    all_goals
      clear t2 t4 zz2 zz3
      obtain ⟨A'', d'', hv, hT⟩ := owned_terms (World.ownsRow.kept O3.out hg4 (ownNe O3.out (by omega))) L2.out S2.out
      injection hv with hv1 hv2 hv3
      subst hv1; subst hv3
      obtain ⟨A5, d5, hv, hT5⟩ := owned_terms hown4 hl4 hs4
      injection hv with hv1 hv2 hv3
      subst hv1; subst hv3
      have hsz4 := hg4.size
      have hsz3 : w2.heap.size + 1 ≤ w3.heap.size := by omega
      have hd3 : w3.drew.heap.size = w3.heap.size := rfl
      go_wp2
      refine bodyPost_ret (v := .tuple #[.agg #[.string nm, .slice A' k d], .agg #[.string nm2, .slice A2 k4 d4]]) (by simp [results, Try.results13, go_sem, xx2, xx3, yy2, yy3]) rfl ?_
      refine ⟨nm, A', k, d, ts, nm2, A2, k4, d4, us, ⟨rfl, hnm, hnm2⟩, ?_, ?_, ?_⟩
      · exact terms_four hT (by simp; omega) (by simp; omega) (by simp; omega) (by simp; omega)
      · exact terms_four hT5 (by simp; omega) (by simp; omega) (by simp; omega) (by simp; omega)
      · exact below_four (HB1.grown (grownTrans G3.out hg4) HB1.size (fun k hk => by injection hk with hk; omega)) (by simp) (by simp) (by simp) (by simp)

end Go.Proofs.Ytmegmjbgfjogeaa
