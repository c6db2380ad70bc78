/-
  Facts and their rounds with one more, in the model: a call and a row that grows, in whatever order. (Written by tools/l4put.py.)
-/
import Derived.Test.YtcigljngiemdeaaGreatAo0
import Derived.Test.YtcigljngiemdeaaGreatAo19
import Derived.Test.YtcigljngiemdeaaGreatAo15
set_option maxRecDepth 100000
set_option maxHeartbeats 8000000
namespace Go.Proofs.YtcigljngiemdeaaGreat
open Go.RowKit
def Told (rb : Nat) (V W : World) (v : Value) (A : Option Addr) (n c : Nat) (L : List At) : Prop :=
  (IsAtoms V 0 V.heap.size A n c L ∧ Blk V rb 166 #[.slice none 0 0, .slice none 0 0]) ∧ But rb V W ∧ V.heap.size ≤ W.heap.size ∧ ∀ (g o : Nat), v.ownBlock = some g → V.cell? ⟨g, o, none⟩ = none
structure PJ (V : World) (rb : Nat) (arr : Array Value) (ls : List Nat) (x : Nat) (ms : List Nat) (L : List At) (k : Nat) (b t : Bool) (v u y : Value) (W : World) : Prop where
  r0 : k = 0 → v = undef
  r1 : k = 1 → ∃ g, v = .slice (some ⟨g, 0, none⟩) 0 0 ∧ Blk W g 3 #[] ∧ W.ownsRow (rb + 1) 3 1 v 0 []
  r2 : k = 2 → W.ownsRow (rb + 1) 3 1 v ls.length (ncl ls)
  r3 : k = 3 → W.ownsRow (rb + 1) 3 1 v (ls.length + 1) (ncl ls ++ [.int .i64 (x : Int)])
  r4 : k = 4 → W.ownsRow (rb + 1) 3 1 v (ls.length + 1 + ms.length) (ncl ls ++ [.int .i64 (x : Int)] ++ ncl ms)
  bz : b = false → u = undef
  b1 : b = true → ∃ g, u = .slice (some ⟨g, 0, none⟩) 1 1 ∧ Blk W g 3 #[.int .i64 (x : Int)] ∧ rb + 1 ≤ g
  tz : t = false → y = undef ∧ k ≤ 1
  t1 : t = true → ∃ V1 A n c, y = .slice A n c ∧ Told rb V1 W v A n c L
  ap : ∀ g, v.ownBlock = some g → u.ownBlock ≠ some g
  lv : ∀ g, v.ownBlock = some g → g < W.heap.size
  lu : ∀ g, u.ownBlock = some g → g < W.heap.size
  gr : Below rb V W
  res : Blk W rb 166 arr
  hb : rb + 1 ≤ W.heap.size
theorem blk_none {W : World} {g o : Nat} {T : TypeId} (h : Blk W g T #[]) : W.cell? ⟨g, o, none⟩ = none := by
  rw [h.cell]; rfl
theorem cell_far_none {W : World} {g o : Nat} (h : W.heap.size ≤ g) : W.cell? ⟨g, o, none⟩ = none := by
  unfold World.cell?; simp [Array.getElem?_eq_none h]
section
variable {V W W' : World} {rb : Nat} {arr : Array Value} {ls ms : List Nat} {x : Nat} {L : List At} {k k' : Nat} {b t : Bool} {v u y v' : Value}
theorem PJ.below (h : PJ V rb arr ls x ms L k b t v u y W) (hb : Below W.heap.size W W') : PJ V rb arr ls x ms L k b t v u y W' := by
  have hs := hb.size
  exact ⟨h.r0, fun e => by
      obtain ⟨g, e1, e2, e3⟩ := h.r1 e; exact ⟨g, e1, e2.below hb, ownsRow_up e3 hb⟩, fun e => ownsRow_up (h.r2 e) hb, fun e => ownsRow_up (h.r3 e) hb, fun e => ownsRow_up (h.r4 e) hb, h.bz, fun e => by
      obtain ⟨g, e1, e2, e3⟩ := h.b1 e; exact ⟨g, e1, e2.below hb, e3⟩, h.tz, fun e => by
      obtain ⟨V1, A, n, c, e1, e2, e3, e4, e5⟩ := h.t1 e; exact ⟨V1, A, n, c, e1, e2, e3.trans (But.below hb), by omega, e5⟩, h.ap, fun g e => Nat.lt_of_lt_of_le (h.lv g e) hs, fun g e => Nat.lt_of_lt_of_le (h.lu g e) hs, h.gr.trans (hb.mono qeg), h.res.below hb, by have := h.hb; omega⟩
theorem PJ.made (h : PJ V rb arr ls x ms L 0 b t v u y W) : PJ V rb arr ls x ms L 1 b t (.slice (some ⟨W.heap.size, 0, none⟩) 0 0) u y (W.alloc (.cells #[] 3)) := by
  have h2 := h.below (below1 W (.cells #[] 3)); have hs : (W.alloc (.cells #[] 3)).heap.size = W.heap.size + 1 := qad
  exact ⟨fun e => by omega, fun _ => ⟨_, rfl, Blk.new W _ _, ⟨rfl, .inr ⟨W.heap.size, 0, #[], rfl, h.hb, heap_alloc_new W _, nl _, by unfold maxLen; omega, rfl, rfl⟩⟩⟩, fun e => by omega, fun e => by omega, fun e => by omega, h2.bz, h2.b1, fun e => ⟨(h.tz e).1, nl _⟩, fun e => by
      obtain ⟨V1, A, n, c, e1, e2, e3, e4, e5⟩ := h2.t1 e; obtain ⟨V2, A2, n2, c2, f1, f2, f3, f4, f5⟩ := h.t1 e; rw [f1] at e1; injection e1 with g1 g2 g3; refine ⟨V2, A2, n2, c2, f1, f2, f3.trans (But.below (below1 W _)), by omega, fun g o eg => ?_⟩; simp [Value.ownBlock] at eg; exact cell_far_none qaa, fun g e e2 => by
      simp [Value.ownBlock] at e; have := h.lu g e2; omega, fun g e => by simp [Value.ownBlock] at e; omega, h2.lu, h2.gr, h2.res, h2.hb⟩
theorem PJ.boxed (h : PJ V rb arr ls x ms L k false t v u y W) : PJ V rb arr ls x ms L k true t v (.slice (some ⟨W.heap.size, 0, none⟩) 1 1) y (W.alloc (.cells #[.int .i64 (x : Int)] 3)) := by
  have h2 := h.below (below1 W (.cells #[.int .i64 (x : Int)] 3))
  exact ⟨h2.r0, h2.r1, h2.r2, h2.r3, h2.r4, fun e => qam, fun _ => ⟨_, rfl, Blk.new W _ _, h.hb⟩, h2.tz, h2.t1, fun g e e2 => by
      simp [Value.ownBlock] at e2; have := h.lv g e; omega, h2.lv, fun g e => by simp [Value.ownBlock] at e; simp; omega, h2.gr, h2.res, h2.hb⟩
theorem PJ.told (h : PJ V rb #[.slice none 0 0, .slice none 0 0] ls x ms L k b false v u y W) (hb : Below W.heap.size W W') {A : Option Addr} {n c : Nat} (ha : IsAtoms W' 0 W'.heap.size A n c L) : PJ V rb #[.slice none 0 0, .slice none 0 0] ls x ms L k b true v u (.slice A n c) W' := by
  have h2 := h.below hb; have hk := (h.tz rfl).2
  exact ⟨h2.r0, h2.r1, h2.r2, h2.r3, h2.r4, h2.bz, h2.b1, fun e => qam, fun _ => ⟨W', A, n, c, rfl, ⟨ha, h2.res⟩, But.refl _ _, nl _, fun g o e => by
      have hk2 : k = 0 ∨ k = 1 := qaa; rcases hk2 with e1 | e1
      · rw [h.r0 e1] at e; simp [undef, Value.ownBlock] at e
      · obtain ⟨g2, e2, e3, _⟩ := h2.r1 e1
        rw [e2] at e; simp [Value.ownBlock] at e; subst e; exact blk_none e3⟩, h2.ap, h2.lv, h2.lu, h2.gr, h2.res, h2.hb⟩
theorem PJ.grown (h : PJ V rb arr ls x ms L k b true v u y W) (hk : k = 1 ∨ k = 2 ∨ k = 3) (hk' : k' = 2 ∨ k' = 3 ∨ k' = 4) (h2 : k' = 2 → W'.ownsRow (rb + 1) 3 1 v' ls.length (ncl ls)) (h3 : k' = 3 → W'.ownsRow (rb + 1) 3 1 v' (ls.length + 1) (ncl ls ++ [.int .i64 (x : Int)])) (h4 : k' = 4 → W'.ownsRow (rb + 1) 3 1 v' (ls.length + 1 + ms.length) (ncl ls ++ [.int .i64 (x : Int)] ++ ncl ms))
    (hg : W.grownBy W' v.ownBlock) (hat : v'.ownBlock = v.ownBlock ∨ v'.ownBlock = some W.heap.size) : PJ V rb arr ls x ms L k' b true v' u y W' := by
  have hs := hg.size
  have hrow : ∀ g, v.ownBlock = some g → rb + 1 ≤ g := fun g e => by
    rcases hk with e1 | e1 | e1
    · obtain ⟨_, _, _, f3⟩ := h.r1 e1; exact (f3.lt g e).1
    · exact ((h.r2 e1).lt g e).1
    · exact ((h.r3 e1).lt g e).1
  have hlt : ∀ g, v'.ownBlock = some g → g < W'.heap.size := fun g e => by
    rcases hk' with e1 | e1 | e1
    · exact ((h2 e1).lt g e).2
    · exact ((h3 e1).lt g e).2
    · exact ((h4 e1).lt g e).2
  exact ⟨fun e => by omega, fun e => by omega, h2, h3, h4, h.bz, fun e => by
      obtain ⟨g, e1, e2, e4⟩ := h.b1 e; exact ⟨g, e1, e2.kept hg (fun e3 => h.ap g e3.symm (by rw [e1]; rfl)), e4⟩, fun e => qam, fun e => by
      obtain ⟨V1, A, n, c, e1, e2, e3, e4, e5⟩ := h.t1 e; refine ⟨V1, A, n, c, e1, e2, fun q z hqb hq => ?_, by omega, fun g o eg => ?_⟩
      · have hz := e3 q z hqb hq
        have hql := World.block_lt_of_cell? W q hz; obtain ⟨qb, qo, qs⟩ := q; refine (cb_ (hg.block qb hql (fun e6 => ?_))).trans hz
        cases qs with
        | none => have := e5 qb qo e6.symm; rw [this] at hq; cases hq
        | some s =>
          have hno : V1.cell? ⟨qb, qo, some s⟩ = none := by unfold World.cell?; split <;> simp
          rw [hno] at hq; cases hq
      · rcases hat with e6 | e6
        · exact e5 g o (by rw [← e6]; exact eg)
        · rw [e6] at eg; injection eg with eg
          exact cell_far_none qaa, fun g e e2 => by
      rcases hat with e6 | e6
      · exact h.ap g (by rw [← e6]; exact e) e2
      · rw [e6] at e; injection e with e; have := h.lu g e2; omega, hlt, fun g e => Nat.lt_of_lt_of_le (h.lu g e) hs, h.gr.grown hg qeg (fun k e => by have := hrow k e; omega), h.res.kept hg (fun e => by have := hrow rb e.symm; omega), by have := h.hb; omega⟩
theorem PJ.put (h : PJ V rb #[.slice none 0 0, .slice none 0 0] ls x ms L 4 b true v u y W) (a c : Value) : PJ V rb ((#[Value.slice none 0 0, Value.slice none 0 0].setIfInBounds 0 a).setIfInBounds 1 c) ls x ms L 4 b true v u y ((W.setCell ⟨rb, 0, none⟩ a).setCell ⟨rb, 1, none⟩ c) := by
  have hs : ((W.setCell ⟨rb, 0, none⟩ a).setCell ⟨rb, 1, none⟩ c).heap.size = W.heap.size := qbp; have hb1 : Below rb W ((W.setCell ⟨rb, 0, none⟩ a).setCell ⟨rb, 1, none⟩ c) := ((Below.refl rb W).setCell (p := ⟨rb, 0, none⟩) (nl rb) a).setCell (p := ⟨rb, 1, none⟩) (nl rb) c; have hrow : v.ownBlock ≠ some rb := fun e => by have := ((h.r4 rfl).lt _ e).1; omega
  exact ⟨fun e => by omega, fun e => by omega, fun e => by omega, fun e => by omega, fun _ => row_set (row_set (h.r4 rfl) (p := ⟨rb, 0, none⟩) hrow a) (p := ⟨rb, 1, none⟩) hrow c, h.bz, fun e => by
      obtain ⟨g, e1, e2, e3⟩ := h.b1 e; exact ⟨g, e1, (e2.far (p := ⟨rb, 0, none⟩) (by show g ≠ rb; omega) _).far (p := ⟨rb, 1, none⟩) (by show g ≠ rb; omega) _, e3⟩, fun e => qam, fun e => by
      obtain ⟨V1, A, n, d, e1, e2, e3, e4, e5⟩ := h.t1 e; exact ⟨V1, A, n, d, e1, e2, e3.trans (But.store W rb a c), by omega, e5⟩, h.ap, fun g e => by rw [hs]; exact h.lv g e, fun g e => by rw [hs]; exact h.lu g e, h.gr.trans hb1, (h.res.set 0 a).set 1 c, by rw [hs]; exact h.hb⟩
end
theorem l4Put_any (A : Option Addr) (n c : Nat) (B : Option Addr) (m d : Nat) (r : RdL) (nm : ByteArray) (C : Option Addr) (l e : Nat) (ts : List Tm) (x : Nat) (w : World) (h1 : IsAtoms w 0 w.heap.size A n c (factsR r)) (h2 : IsNums w 0 w.heap.size B m d (roundsR r)) (hs : nm.size ≤ maxLen) (h3 : IsTerms w 0 w.heap.size C l e ts) (hr : risesB (factsR r) = true) (hmax : n ≤ 137438953472) :
    Calls Tryz.prog 151 #[.agg #[.slice A n c, .slice B m d], .agg #[.string nm, .slice C l e], .int .i64 (x : Int)] w fun e w' => ∃ A' n' c' B' m' d', e = .returned (.agg #[.slice A' n' c', .slice B' m' d']) ∧ IsAtoms w' 0 w'.heap.size A' n' c' (factsR (putRd r (nm, ts) x)) ∧ IsNums w' 0 w'.heap.size B' m' d' (roundsR (putRd r (nm, ts) x)) ∧ Below w.heap.size w w' := by
  have hn := h1.len; have hd1 := h2.2.1; have hd2 := h2.2.2.1; unfold maxLen at hn hd2; have l1 : n = r.length := by rw [← h1.1]; unfold factsR; rw [List.length_map]
  have l2 : m = r.length := by rw [← h2.1]; unfold roundsR; rw [List.length_map]
  have L1 := hid l1; have L2 := hid l2; have hmn := hid (show m = n by omega); have H1 := hid h1; have H2 := hid h2; have H3 := hid h3; have HRR := hid hr; clear h1 h2 h3 hr l1 l2; obtain ⟨i0, hi, hz, hsz, hby⟩ := info_parts Tryz.infoInt; have hw3 := below3 w (.cells #[.slice A n c, .slice B m d] 166) (.cells #[.string nm, .slice C l e] 49) (.cells #[.slice none 0 0, .slice none 0 0] 166); obtain ⟨w3, hq3⟩ : ∃ w3, ((w.alloc (.cells #[.slice A n c, .slice B m d] 166)).alloc (.cells #[.string nm, .slice C l e] 49)).alloc (.cells #[.slice none 0 0, .slice none 0 0] 166) = w3 := ⟨_, rfl⟩
  have xa := ((Blk.new w 166 #[.slice A n c, .slice B m d]).alloc (.cells #[.string nm, .slice C l e] 49)).alloc (.cells #[.slice none 0 0, .slice none 0 0] 166); have xf := (Blk.made (b := w.heap.size + 1) (w.alloc (.cells #[.slice A n c, .slice B m d] 166)) 49 #[.string nm, .slice C l e] qad).alloc (.cells #[.slice none 0 0, .slice none 0 0] 166); have xr := Blk.made (b := w.heap.size + 2) ((w.alloc (.cells #[.slice A n c, .slice B m d] 166)).alloc (.cells #[.string nm, .slice C l e] 49)) 166 #[.slice none 0 0, .slice none 0 0] qad
  rw [hq3] at hw3 xa xf xr; have hz3 : w3.heap.size = w.heap.size + 3 := by rw [← hq3]; simp
  have HQ3 := hid hq3; have y0 := xa.cell 0; have y1 := xa.cell 1; have y2 := xf.cell 0; have y3 := xf.cell 1; have y4 := xr.cell 0; have y5 := xr.cell 1; have y6 := xr.frozen 0; have y7 := xr.frozen 1; clear hq3; have K1 := hid (H1.out.up AtomE.stays hw3); have K3 := hid (H3.out.up hw3); go_enter Tryz.func151, Tryz.ntmps151; go_wp2_with (rw [HQ3.out]); refine (l3At_any A n c (factsR r) nm C l e ts w3 K1.out K3.out HRR.out).mono ?_; rintro e1 w4 ⟨k, ⟨rfl, hk, hlo, hat⟩, hb4⟩; have hz4 := hb4.size; have z0 := (xa.below hb4).cell 0; have z1 := (xa.below hb4).cell 1; have z2 := (xf.below hb4).cell 0; have z3 := (xf.below hb4).cell 1; have z4 := (xr.below hb4).cell 0; have z5 := (xr.below hb4).cell 1; have z6 := (xr.below hb4).frozen 0; have z7 := (xr.below hb4).frozen 1
  have XR := hid (xr.below hb4); have XA := hid (xa.below hb4); have XF := hid (xf.below hb4); have HBW := hid (belowThen hw3 hb4); clear y0 y1 y2 y3 y4 y5 y6 y7 K1 K3 xa xf xr hw3 hb4 HQ3; obtain ⟨th, hth⟩ : ∃ th, hasB (factsR r) (nm, ts) = th := ⟨_, rfl⟩; have HTH := hid hth; rw [hth]
  cases th with
  | true =>
    have hput := hid (show putRd r (nm, ts) x = r from by unfold putRd; rw [HTH.out, if_pos rfl]); clear hth hlo hat; go_wp2; have hb9 : Below w.heap.size w4 ((w4.setCell ⟨w.heap.size + 2, 0, none⟩ (.slice A n c)).setCell ⟨w.heap.size + 2, 1, none⟩ (.slice B m d)) := ((Below.refl _ _).setCell (p := ⟨w.heap.size + 2, 0, none⟩) (Nat.le_add_right _ _) _).setCell (p := ⟨w.heap.size + 2, 1, none⟩) (Nat.le_add_right _ _) _; have hsz9 : w.heap.size ≤ ((w4.setCell ⟨w.heap.size + 2, 0, none⟩ (.slice A n c)).setCell ⟨w.heap.size + 2, 1, none⟩ (.slice B m d)).heap.size := by rw [size_setCell, size_setCell]; omega
    refine bodyPost_ret (v := .agg #[.slice A n c, .slice B m d]) (by simp [results, Tryz.results151, go_sem, z4, z5]) rfl ⟨_, _, _, _, _, _, rfl, ?_, ?_, HBW.out.trans hb9⟩
    · rw [hput.out]; exact (H1.out.below AtomE.stays (HBW.out.trans hb9) (nl _)).keep AtomE.stays (fun _ _ _ => rfl) (nl _) hsz9
    · rw [hput.out]; exact (H2.out.below NumE.stays (HBW.out.trans hb9) (nl _)).keep NumE.stays (fun _ _ _ => rfl) (nl _) hsz9
  | false =>
    have hput := hid (putRd_take (r := r) (a := (nm, ts)) (n := x) (k := k) HTH.out (by rw [← L1.out]; exact hk) hlo hat); have hpl := hid (show putL (factsR r) (nm, ts) = factsR (putRd r (nm, ts) x) from (factsR_put r (nm, ts) x).symm); clear hth hlo hat; obtain ⟨V, hV⟩ : ∃ V, w4.drew = V := ⟨_, rfl⟩; have hVz : w4.heap.size = V.heap.size := by rw [← hV]; rfl
    have hVw : Below w.heap.size w V := hV ▸ HBW.out.drew; have x0 : V.cell? ⟨w.heap.size, 0, none⟩ = some (.slice A n c) := hV ▸ z0; have x1 : V.cell? ⟨w.heap.size, 1, none⟩ = some (.slice B m d) := hV ▸ z1; have x2 : V.cell? ⟨w.heap.size + 1, 0, none⟩ = some (.string nm) := hV ▸ z2; have x3 : V.cell? ⟨w.heap.size + 1, 1, none⟩ = some (.slice C l e) := hV ▸ z3; have xrV : Blk V (w.heap.size + 2) 166 #[.slice none 0 0, .slice none 0 0] := hV ▸ XR.out; have HV0 := hid hV; have hki : (k : Int) ≤ (d : Int) := qct; have hkm : (k : Int) ≤ (m : Int) := qct; clear hV z0 z1 z2 z3 z4 z5 z6 z7
    go_wp2_with fail; rw [show w.heap.size + 1 + 1 = w.heap.size + 2 from rfl]
    cases B with
    | none =>
      have SM : Hid (∀ W, Below w.heap.size w W → SrcZ 1 W none k (ncl ((roundsR r).take k)) ∧ SrcZ 1 W none (m - k) (ncl ((roundsR r).drop k))) := hid (fun W hb => by
        have h := H2.out.below NumE.stays hb (nl _)
        have hm0 : m = 0 := by
          rcases Nat.eq_zero_or_pos m with h1 | h1
          · exact h1
          · obtain ⟨p, hp, _⟩ := h.2.2.2 h1; cases hp
        have hk0 : k = 0 := qct; subst hk0; subst hm0; have hl0 : roundsR r = [] := List.eq_nil_of_length_eq_zero h.1; rw [hl0]; exact ⟨⟨rfl, fun ad hA => (by cases hA), fun _ => rfl⟩, ⟨rfl, fun ad hA => (by cases hA), fun _ => rfl⟩⟩)
      have hk0 : k = 0 := by
        have := hmn.out; rcases Nat.eq_zero_or_pos m with h1 | h1
        · omega
        · obtain ⟨p, hp, _⟩ := H2.out.2.2.2 h1; cases hp
      refine wp_region_held_drew (S := fun W => W.cell? ⟨w.heap.size, 0, none⟩ = some (.slice A n c) ∧ W.cell? ⟨w.heap.size, 1, none⟩ = some (.slice none m d) ∧ W.cell? ⟨w.heap.size + 1, 0, none⟩ = some (.string nm) ∧ W.cell? ⟨w.heap.size + 1, 1, none⟩ = some (.slice C l e)) qae (by rw [HV0.out]; exact ⟨x0, x1, x2, x3⟩) ?_; rw [HV0.out]; intro hS_; refine tk 0 (.pointer (some ⟨w.heap.size, 0, none⟩)) hS_ ?_; refine tk 1 (.slice A n c) hS_ ?_; refine tk 2 (.agg #[.string nm, .slice C l e]) hS_ ?_; refine tk 5 (.pointer (some ⟨w.heap.size, 1, none⟩)) hS_ ?_; refine tk 6 (.slice none m d) hS_ ?_; refine tk 7 (.int .i64 (k : Int)) hS_ ?_
      refine tk 8 (.slice none k d) hS_ ?_; refine tk 10 (.int .i64 (x : Int)) hS_ ?_; refine tk 13 (.pointer (some ⟨w.heap.size, 1, none⟩)) hS_ ?_; refine tk 14 (.slice none m d) hS_ ?_; refine tk 15 (.int .i64 (k : Int)) hS_ ?_; refine tk 16 (.slice none (m - k) (d - k)) hS_ ?_; have HK0 := hid hk0; clear hk0; obtain ⟨rt, hrt⟩ : ∃ z, (roundsR r).take k = z := ⟨_, rfl⟩; obtain ⟨rd, hrd⟩ : ∃ z, (roundsR r).drop k = z := ⟨_, rfl⟩; obtain ⟨L0, hL0⟩ : ∃ z, putL (factsR r) (nm, ts) = z := ⟨_, rfl⟩; have lrt : rt.length = k := by rw [← hrt, List.length_take]; unfold roundsR; rw [List.length_map]; have := L2.out; have := hmn.out; omega
      have lrd : rd.length = m - k := by rw [← hrd, List.length_drop]; unfold roundsR; rw [List.length_map]; have := L2.out; omega
      rw [hrt, hrd] at SM; have HRT := hid hrt; have HRD := hid hrd; have HL0 := hid hL0; clear hrt hrd hL0
      have J0 : PJ V (w.heap.size + 2) #[.slice none 0 0, .slice none 0 0] rt x rd L0 0 false false undef undef undef V := by
        have u0 : ∀ g, undef.ownBlock = some g → False := fun g e => by simp [undef, Value.ownBlock] at e
        exact ⟨fun _ => rfl, fun e => by omega, fun e => by omega, fun e => by omega, fun e => by omega, fun _ => rfl, fun e => qam, fun _ => ⟨rfl, by omega⟩, fun e => qam, fun g e => (u0 g e).elim, fun g e => (u0 g e).elim, fun g e => (u0 g e).elim, Below.refl _ _, xrV, xrV.lt⟩
      have bel : ∀ W, Below (w.heap.size + 2) V W → Below w.heap.size w W := fun W hb => hVw.trans (hb.mono qaa); have HVS := hid hS_; clear hS_ xrV; have hl64 : k + 1 + (m - k) ≤ 137438953473 := qct; refine wpAnyH_inv (I := fun (L : Array Bool) (a : Act) (W : World) => ∃ (kk : Nat) (bf tf l18 l19 : Bool) (x21 x22 x27 x29 x30 x35 x36 v : Value) (arr : Array Value), L = #[true, true, true, tf, decide (1 ≤ kk), true, true, true, true, decide (2 ≤ kk), true, bf, decide (3 ≤ kk), true, true, true, true, decide (4 ≤ kk), l18, l19] ∧ a = ⟨#[.agg #[.slice A n c, .slice none m d], .agg #[.string nm, .slice C l e], .int .i64 (x : Int), .pointer (some ⟨w.heap.size, 0, none⟩), .pointer (some ⟨w.heap.size + 1, 0, none⟩), undef, .pointer (some ⟨w.heap.size + 2, 0, none⟩), .int .i64 (k : Int), .bool false, .tuple #[.int .i64 (k : Int), .bool false], .pointer (some ⟨w.heap.size, 0, none⟩), .slice A n c, .agg #[.string nm, .slice C l e], .tuple #[.int .i64 (k : Int), .bool false], .int .i64 (k : Int), .bool false, .bool false, undef, .pointer (some ⟨w.heap.size, 0, none⟩), .slice A n c, .agg #[.string nm, .slice C l e], x21, x22, .pointer (some ⟨w.heap.size, 1, none⟩), .slice none m d, .int .i64 (k : Int), .slice none k d, x27, .int .i64 (x : Int), x29, x30, .pointer (some ⟨w.heap.size, 1, none⟩), .slice none m d, .int .i64 (k : Int), .slice none (m - k) (d - k), x35, x36], []⟩ ∧ (kk = 1 → x22 = v) ∧ (kk = 2 → x27 = v) ∧ (kk = 3 → x30 = v) ∧ (kk = 4 → x35 = v) ∧ kk ≤ 4 ∧ (l18 = true → x36 = .agg #[x21, v] ∧ kk = 4 ∧ tf = true) ∧ (l19 = true → l18 = true) ∧ arr = (if l19 = true then #[x21, v] else #[.slice none 0 0, .slice none 0 0]) ∧ PJ V (w.heap.size + 2) arr rt x rd L0 kk bf tf v x29 x21 W) ?keep ?step ?fin _ _ _ _ ?lf ⟨0, false, false, false, false, undef, undef, undef, undef, undef, undef, undef, undef, _, rfl, rfl, fun e => by omega, fun e => by omega, fun e => by omega, fun e => by omega, by omega, fun e => qam, fun e => qam, rfl, J0⟩
      case lf => decide
      case keep =>
        rintro L a W ⟨kk, bf, tf, l18, l19, x21, x22, x27, x29, x30, x35, x36, v, arr, -, -, -, -, -, -, -, -, -, -, J⟩; exact ⟨(J.gr.cell (p := ⟨w.heap.size, 0, none⟩) qcw).trans HVS.out.1, (J.gr.cell (p := ⟨w.heap.size, 1, none⟩) qcw).trans HVS.out.2.1, (J.gr.cell (p := ⟨w.heap.size + 1, 0, none⟩) qcm).trans HVS.out.2.2.1, (J.gr.cell (p := ⟨w.heap.size + 1, 1, none⟩) qcm).trans HVS.out.2.2.2⟩
      case step =>
        rintro L a W i o ⟨kk, bf, tf, l18, l19, x21, x22, x27, x29, x30, x35, x36, v, arr, rfl, rfl, e22, e27, e30, e35, hkk, e36, e19, rfl, J⟩ ho h0 hd K hK; have hi20 : i < 20 := qbu; have hii : i = 0 ∨ i = 1 ∨ i = 2 ∨ i = 3 ∨ i = 4 ∨ i = 5 ∨ i = 6 ∨ i = 7 ∨ i = 8 ∨ i = 9 ∨ i = 10 ∨ i = 11 ∨ i = 12 ∨ i = 13 ∨ i = 14 ∨ i = 15 ∨ i = 16 ∨ i = 17 ∨ i = 18 ∨ i = 19 := qaa; have l19f : l18 = false → l19 = false := fun e => by cases l19 with | false => rfl | true => have := e19 rfl; rw [e] at this; cases this
        have l18k : (kk = 4 → tf = true → False) → l18 = false := fun hj => by cases l18 with | false => rfl | true => exact (hj (e36 rfl).2.1 (e36 rfl).2.2).elim
        rcases hii with rfl | rfl | rfl | rfl | rfl | rfl | rfl | rfl | rfl | rfl | rfl | rfl | rfl | rfl | rfl | rfl | rfl | rfl | rfl | rfl
        all_goals (injection ho with ho; subst ho)
        · simp at h0
        · simp at h0
        · simp at h0
        · have hf : tf = false := qbe
          subst hf; have l18f := l18k (fun a b => by cases b); have l19g := l19f l18f; subst l18f; subst l19g; have J := (show PJ V (w.heap.size + 2) #[.slice none 0 0, .slice none 0 0] rt x rd L0 _ _ _ _ _ _ _ from J); rw [if_pos qab]; go_simp; go_at_call 106; have hbW := bel _ J.gr; have hszW := hbW.size; refine (l3Put_any A n c (factsR r) nm C l e ts W ((H1.out.below AtomE.stays hbW (nl _)).keep AtomE.stays (fun _ _ _ => rfl) (nl _) hszW) hs ((H3.out.below hbW (nl _)).keep (fun _ _ _ => rfl) (nl _) hszW) HRR.out hmax).mono ?_; rintro e1 w9 ⟨A9, c9, rs9, rfl, h9, hm9, hb9⟩
          have hJ := J.told hb9 (A := A9) (n := rs9.length) (c := c9) (by have := h9.atoms; rw [hm9, HL0.out] at this; exact this); exact hK.out _ _ ⟨kk, bf, true, false, false, _, x22, x27, x29, x30, x35, x36, v, _, rfl, rfl, e22, e27, e30, e35, hkk, fun e => qam, fun e => qam, rfl, hJ⟩
        · have hk1 : kk = 0 := by simp at h0; omega
          subst hk1; have l18f := l18k qbk; have l19g := l19f l18f; subst l18f; subst l19g; have J := (show PJ V (w.heap.size + 2) #[.slice none 0 0, .slice none 0 0] rt x rd L0 _ _ _ _ _ _ _ from J); rw [if_pos qab]; go_simp; exact hK.out _ _ ⟨1, bf, tf, false, false, x21, _, x27, x29, x30, x35, x36, _, _, rfl, rfl, fun _ => rfl, fun e => by omega, fun e => by omega, fun e => by omega, by omega, fun e => qam, fun e => qam, rfl, J.made⟩
        · simp at h0
        · simp at h0
        · simp at h0
        · simp at h0
        · have d0 := hd ⟨4, .data⟩ qad rfl
          have d1 := hd ⟨3, .chain⟩ qad rfl; have hk1 : kk = 1 := qbq; have hf : tf = true := qdt; subst hk1; subst hf; have l18f := l18k qbk; have l19g := l19f l18f; subst l18f; subst l19g; have J := (show PJ V (w.heap.size + 2) #[.slice none 0 0, .slice none 0 0] rt x rd L0 _ _ _ _ _ _ _ from J); have hx := e22 rfl; subst hx; obtain ⟨_, _, _, hown1⟩ := J.r1 rfl; refine step_appL 1 qaa qab _ _ _ qab (w.heap.size + 2 + 1) 3 i0 _ 8 Tryz.underlying164 hi hz hsz hby rfl x22 0 [] qab hown1 none k d (ncl rt) qab (SM.out _ (bel _ J.gr)).1 (ncl_one _) qac qaa J.hb ?_; intro v9 W9 hown hgrow hat; have hJ := J.grown (k' := 2) (.inl rfl) (.inl rfl) (fun _ => by rw [Nat.zero_add, List.nil_append, ← lrt] at hown; exact hown) qbg qbg hgrow hat
          exact hK.out _ _ ⟨2, bf, true, false, false, x21, x22, v9, x29, x30, x35, x36, v9, _, rfl, rfl, fun e => by omega, fun _ => rfl, fun e => by omega, fun e => by omega, by omega, fun e => qam, fun e => qam, rfl, hJ⟩
        · simp at h0
        · have hf : bf = false := qbe
          subst hf; rw [if_pos qab]; go_simp; exact hK.out _ _ ⟨kk, true, tf, l18, l19, x21, x22, x27, _, x30, x35, x36, v, _, rfl, rfl, e22, e27, e30, e35, hkk, e36, e19, rfl, J.boxed⟩
        · have d0 := hd ⟨9, .data⟩ qad rfl
          have d1 := hd ⟨11, .data⟩ qad rfl; have hk1 : kk = 2 := qbq; have hf : bf = true := qdt; subst hk1; subst hf; have l18f := l18k qbk; have l19g := l19f l18f; subst l18f; subst l19g; have J := (show PJ V (w.heap.size + 2) #[.slice none 0 0, .slice none 0 0] rt x rd L0 _ _ _ _ _ _ _ from J); have hx := e27 rfl; subst hx
          have htf : tf = true := by
            cases tf with
            | false => have := (J.tz rfl).2; omega
            | true => rfl
          subst htf; obtain ⟨gb, rfl, hB, -⟩ := J.b1 rfl; refine step_appL 1 qaa qab _ _ _ qab (w.heap.size + 2 + 1) 3 i0 _ 8 Tryz.underlying164 hi hz hsz hby rfl x27 _ _ qab (J.r2 rfl) (some ⟨gb, 0, none⟩) 1 1 [.int .i64 (x : Int)] qab (srcOne1 _ _ _ _ hB) qai qac qaa J.hb ?_; intro v9 W9 hown hgrow hat; have hJ := J.grown (k' := 3) (.inr (.inl rfl)) (.inr (.inl rfl)) qbg (fun _ => hown) qbg hgrow hat; exact hK.out _ _ ⟨3, true, true, false, false, x21, x22, x27, _, v9, x35, x36, v9, _, rfl, rfl, fun e => by omega, fun e => by omega, fun _ => rfl, fun e => by omega, by omega, fun e => qam, fun e => qam, rfl, hJ⟩
        · simp at h0
        · simp at h0
        · simp at h0
        · simp at h0
        · have d0 := hd ⟨12, .data⟩ qad rfl
          have hk1 : kk = 3 := qbq; subst hk1; have l18f := l18k qbk; have l19g := l19f l18f; subst l18f; subst l19g; have J := (show PJ V (w.heap.size + 2) #[.slice none 0 0, .slice none 0 0] rt x rd L0 _ _ _ _ _ _ _ from J); have hx := e30 rfl; subst hx
          have htf : tf = true := by
            cases tf with
            | false => have := (J.tz rfl).2; omega
            | true => rfl
          subst htf; refine step_appL 1 qaa qab _ _ _ qab (w.heap.size + 2 + 1) 3 i0 _ 8 Tryz.underlying164 hi hz hsz hby rfl x30 _ _ qab (J.r3 rfl) none (m - k) (d - k) (ncl rd) qab (SM.out _ (bel _ J.gr)).2 (ncl_one _) qac qaa J.hb ?_; intro v9 W9 hown hgrow hat; have hJ := J.grown (k' := 4) (.inr (.inr rfl)) (.inr (.inr rfl)) qbg qbg (fun _ => by rw [lrd]; exact hown) hgrow hat; exact hK.out _ _ ⟨4, bf, true, false, false, x21, x22, x27, x29, x30, v9, x36, v9, _, rfl, rfl, fun e => by omega, fun e => by omega, fun e => by omega, fun _ => rfl, by omega, fun e => qam, fun e => qam, rfl, hJ⟩
        · have d0 := hd ⟨17, .data⟩ qad rfl
          have hk1 : kk = 4 := by simp at d0; omega
          have hl : l18 = false := qbe; have l19g := l19f hl; subst hk1; subst hl; subst l19g; have hx := e35 rfl; subst hx
          have htf : tf = true := by
            cases tf with
            | false => have := (J.tz rfl).2; omega
            | true => rfl
          subst htf; obtain ⟨V1, A9, n9, c9, q1, -⟩ := J.t1 rfl; subst q1; obtain ⟨p2, c2, q2, -⟩ := nums_own (ls := rt ++ [x] ++ rd) (lo := 0) qaj qaa (Nat.zero_le _); obtain ⟨lz, hlz⟩ : ∃ z, (rt ++ [x] ++ rd).length = z := ⟨_, rfl⟩; rw [hlz] at q2; clear hlz; subst q2; clear hd h0; rw [if_pos qab]; go_simp; exact hK.out _ _ ⟨4, bf, true, true, false, _, x22, x27, x29, x30, _, _, _, _, rfl, rfl, fun e => by omega, fun e => by omega, fun e => by omega, fun _ => rfl, by omega, fun _ => ⟨rfl, rfl, rfl⟩, fun e => qam, rfl, J⟩
        · have d0 := hd ⟨18, .data⟩ qad rfl
          have hl : l18 = true := by simpa using d0
          have hl2 : l19 = false := qbe; subst hl; subst hl2; obtain ⟨hx, hk1, htf⟩ := e36 rfl; subst hx; subst hk1; subst htf; have hx := e35 rfl; subst hx; obtain ⟨V1, A9, n9, c9, q1, -⟩ := J.t1 rfl; subst q1; obtain ⟨p2, c2, q2, -⟩ := nums_own (ls := rt ++ [x] ++ rd) (lo := 0) qaj qaa (Nat.zero_le _); obtain ⟨lz, hlz⟩ : ∃ z, (rt ++ [x] ++ rd).length = z := ⟨_, rfl⟩; rw [hlz] at q2; clear hlz; subst q2; clear hd h0; have r2 : W.cell? ⟨w.heap.size + 2, 0, none⟩ = some (.slice none 0 0) := J.res.cell 0; have r3 : W.cell? ⟨w.heap.size + 2, 1, none⟩ = some (.slice none 0 0) := J.res.cell 1; have r4 := J.res.frozen 0
          have r5 := J.res.frozen 1; rw [if_pos qab]; go_simp; exact hK.out _ _ ⟨4, bf, true, true, true, _, x22, x27, x29, x30, _, _, _, _, rfl, rfl, fun e => by omega, fun e => by omega, fun e => by omega, fun _ => rfl, by omega, fun _ => ⟨rfl, rfl, rfl⟩, fun _ => rfl, rfl, J.put _ _⟩
      case fin =>
        rintro L a W ⟨kk, bf, tf, l18, l19, x21, x22, x27, x29, x30, x35, x36, v, arr, rfl, rfl, e22, e27, e30, e35, hkk, e36, e19, rfl, J⟩ hr; have up := all_up qae rfl hr; have hl : l19 = true := up 19 qal; subst hl; obtain ⟨hx, hk1, htf⟩ := e36 (e19 rfl); subst hx; subst hk1; subst htf; have hx := e35 rfl; subst hx; obtain ⟨V1, A9, n9, c9, q1, ⟨t1, t2⟩, t3, t4, -⟩ := J.t1 rfl; subst q1; obtain ⟨p2, c2, q2, i2⟩ := nums_own (ls := rt ++ [x] ++ rd) (lo := 0) qaj qaa (Nat.zero_le _); subst q2; have k1 := t1.box t2 t3 t4 (hi' := W.heap.size); have KA := hid (show IsAtoms W 0 W.heap.size A9 n9 c9 (factsR (putRd r (nm, ts) x)) from by rw [← hpl.out, HL0.out]; exact k1)
        have KN := hid (show IsNums W 0 W.heap.size (some p2) (rt ++ [x] ++ rd).length c2 (roundsR (putRd r (nm, ts) x)) from by
          have e : roundsR (putRd r (nm, ts) x) = rt ++ [x] ++ rd := by rw [hput.out, ← HRT.out, ← HRD.out]; unfold roundsR; simp
          rw [e]; exact i2)
        have r2 : W.cell? ⟨w.heap.size + 2, 0, none⟩ = some (.slice A9 n9 c9) := J.res.cell 0; have r3 : W.cell? ⟨w.heap.size + 2, 1, none⟩ = some (.slice (some p2) (rt ++ [x] ++ rd).length c2) := J.res.cell 1; have hgr := hid (bel _ J.gr); obtain ⟨lz, hlz⟩ : ∃ z, (rt ++ [x] ++ rd).length = z := ⟨_, rfl⟩; rw [hlz] at KN r3; rw [hlz] at e35 e36; clear J up hr t1 t2 t3 t4 i2 k1 e22 e27 e30 e35 e36; go_wp2
        refine bodyPost_ret (v := .agg #[.slice A9 n9 c9, .slice (some p2) lz c2]) (by simp [results, Tryz.results151, go_sem, r2, r3]) rfl ⟨_, _, _, _, _, _, rfl, KA.out, KN.out, hgr.out⟩
    | some pb =>
      obtain ⟨QK, hQK⟩ : ∃ q, (if d = k then some pb else some (pb.add k)) = q := ⟨_, rfl⟩
      have SM : Hid (∀ W, Below w.heap.size w W → SrcZ 1 W (some pb) k (ncl ((roundsR r).take k)) ∧ SrcZ 1 W QK (m - k) (ncl ((roundsR r).drop k))) := hid (fun W hb => by
        have h := H2.out.below NumE.stays hb (nl _); exact ⟨IsNums.srcTake h qct, IsNums.srcDrop h qct hQK.symm⟩)
      refine wp_region_held_drew (S := fun W => W.cell? ⟨w.heap.size, 0, none⟩ = some (.slice A n c) ∧ W.cell? ⟨w.heap.size, 1, none⟩ = some (.slice (some pb) m d) ∧ W.cell? ⟨w.heap.size + 1, 0, none⟩ = some (.string nm) ∧ W.cell? ⟨w.heap.size + 1, 1, none⟩ = some (.slice C l e)) qae (by rw [HV0.out]; exact ⟨x0, x1, x2, x3⟩) ?_; rw [HV0.out]; intro hS_; refine tk 0 (.pointer (some ⟨w.heap.size, 0, none⟩)) hS_ ?_; refine tk 1 (.slice A n c) hS_ ?_; refine tk 2 (.agg #[.string nm, .slice C l e]) hS_ ?_; refine tk 5 (.pointer (some ⟨w.heap.size, 1, none⟩)) hS_ ?_; refine tk 6 (.slice (some pb) m d) hS_ ?_
      refine tk 7 (.int .i64 (k : Int)) hS_ ?_; refine tk 8 (.slice (some pb) k d) hS_ ?_; refine tk 10 (.int .i64 (x : Int)) hS_ ?_; refine tk 13 (.pointer (some ⟨w.heap.size, 1, none⟩)) hS_ ?_; refine tk 14 (.slice (some pb) m d) hS_ ?_; refine tk 15 (.int .i64 (k : Int)) hS_ ?_; refine tk 16 (.slice QK (m - k) (d - k)) hS_ ?_; obtain ⟨rt, hrt⟩ : ∃ z, (roundsR r).take k = z := ⟨_, rfl⟩; obtain ⟨rd, hrd⟩ : ∃ z, (roundsR r).drop k = z := ⟨_, rfl⟩; obtain ⟨L0, hL0⟩ : ∃ z, putL (factsR r) (nm, ts) = z := ⟨_, rfl⟩; have lrt : rt.length = k := by rw [← hrt, List.length_take]; unfold roundsR; rw [List.length_map]; have := L2.out; have := hmn.out; omega
      have lrd : rd.length = m - k := by rw [← hrd, List.length_drop]; unfold roundsR; rw [List.length_map]; have := L2.out; omega
      rw [hrt, hrd] at SM; have HRT := hid hrt; have HRD := hid hrd; have HL0 := hid hL0; clear hrt hrd hL0
      have J0 : PJ V (w.heap.size + 2) #[.slice none 0 0, .slice none 0 0] rt x rd L0 0 false false undef undef undef V := by
        have u0 : ∀ g, undef.ownBlock = some g → False := fun g e => by simp [undef, Value.ownBlock] at e
        exact ⟨fun _ => rfl, fun e => by omega, fun e => by omega, fun e => by omega, fun e => by omega, fun _ => rfl, fun e => qam, fun _ => ⟨rfl, by omega⟩, fun e => qam, fun g e => (u0 g e).elim, fun g e => (u0 g e).elim, fun g e => (u0 g e).elim, Below.refl _ _, xrV, xrV.lt⟩
      have bel : ∀ W, Below (w.heap.size + 2) V W → Below w.heap.size w W := fun W hb => hVw.trans (hb.mono qaa); have HVS := hid hS_; clear hS_ xrV; have hl64 : k + 1 + (m - k) ≤ 137438953473 := qct; refine wpAnyH_inv (I := fun (L : Array Bool) (a : Act) (W : World) => ∃ (kk : Nat) (bf tf l18 l19 : Bool) (x21 x22 x27 x29 x30 x35 x36 v : Value) (arr : Array Value), L = #[true, true, true, tf, decide (1 ≤ kk), true, true, true, true, decide (2 ≤ kk), true, bf, decide (3 ≤ kk), true, true, true, true, decide (4 ≤ kk), l18, l19] ∧ a = ⟨#[.agg #[.slice A n c, .slice (some pb) m d], .agg #[.string nm, .slice C l e], .int .i64 (x : Int), .pointer (some ⟨w.heap.size, 0, none⟩), .pointer (some ⟨w.heap.size + 1, 0, none⟩), undef, .pointer (some ⟨w.heap.size + 2, 0, none⟩), .int .i64 (k : Int), .bool false, .tuple #[.int .i64 (k : Int), .bool false], .pointer (some ⟨w.heap.size, 0, none⟩), .slice A n c, .agg #[.string nm, .slice C l e], .tuple #[.int .i64 (k : Int), .bool false], .int .i64 (k : Int), .bool false, .bool false, undef, .pointer (some ⟨w.heap.size, 0, none⟩), .slice A n c, .agg #[.string nm, .slice C l e], x21, x22, .pointer (some ⟨w.heap.size, 1, none⟩), .slice (some pb) m d, .int .i64 (k : Int), .slice (some pb) k d, x27, .int .i64 (x : Int), x29, x30, .pointer (some ⟨w.heap.size, 1, none⟩), .slice (some pb) m d, .int .i64 (k : Int), .slice QK (m - k) (d - k), x35, x36], []⟩ ∧ (kk = 1 → x22 = v) ∧ (kk = 2 → x27 = v) ∧ (kk = 3 → x30 = v) ∧ (kk = 4 → x35 = v) ∧ kk ≤ 4 ∧ (l18 = true → x36 = .agg #[x21, v] ∧ kk = 4 ∧ tf = true) ∧ (l19 = true → l18 = true) ∧ arr = (if l19 = true then #[x21, v] else #[.slice none 0 0, .slice none 0 0]) ∧ PJ V (w.heap.size + 2) arr rt x rd L0 kk bf tf v x29 x21 W) ?keep ?step ?fin _ _ _ _ ?lf ⟨0, false, false, false, false, undef, undef, undef, undef, undef, undef, undef, undef, _, rfl, rfl, fun e => by omega, fun e => by omega, fun e => by omega, fun e => by omega, by omega, fun e => qam, fun e => qam, rfl, J0⟩
      case lf => decide
      case keep =>
        rintro L a W ⟨kk, bf, tf, l18, l19, x21, x22, x27, x29, x30, x35, x36, v, arr, -, -, -, -, -, -, -, -, -, -, J⟩; exact ⟨(J.gr.cell (p := ⟨w.heap.size, 0, none⟩) qcw).trans HVS.out.1, (J.gr.cell (p := ⟨w.heap.size, 1, none⟩) qcw).trans HVS.out.2.1, (J.gr.cell (p := ⟨w.heap.size + 1, 0, none⟩) qcm).trans HVS.out.2.2.1, (J.gr.cell (p := ⟨w.heap.size + 1, 1, none⟩) qcm).trans HVS.out.2.2.2⟩
      case step =>
        rintro L a W i o ⟨kk, bf, tf, l18, l19, x21, x22, x27, x29, x30, x35, x36, v, arr, rfl, rfl, e22, e27, e30, e35, hkk, e36, e19, rfl, J⟩ ho h0 hd K hK; have hi20 : i < 20 := qbu; have hii : i = 0 ∨ i = 1 ∨ i = 2 ∨ i = 3 ∨ i = 4 ∨ i = 5 ∨ i = 6 ∨ i = 7 ∨ i = 8 ∨ i = 9 ∨ i = 10 ∨ i = 11 ∨ i = 12 ∨ i = 13 ∨ i = 14 ∨ i = 15 ∨ i = 16 ∨ i = 17 ∨ i = 18 ∨ i = 19 := qaa; have l19f : l18 = false → l19 = false := fun e => by cases l19 with | false => rfl | true => have := e19 rfl; rw [e] at this; cases this
        have l18k : (kk = 4 → tf = true → False) → l18 = false := fun hj => by cases l18 with | false => rfl | true => exact (hj (e36 rfl).2.1 (e36 rfl).2.2).elim
        rcases hii with rfl | rfl | rfl | rfl | rfl | rfl | rfl | rfl | rfl | rfl | rfl | rfl | rfl | rfl | rfl | rfl | rfl | rfl | rfl | rfl
        all_goals (injection ho with ho; subst ho)
        · simp at h0
        · simp at h0
        · simp at h0
        · have hf : tf = false := qbe
          subst hf; have l18f := l18k (fun a b => by cases b); have l19g := l19f l18f; subst l18f; subst l19g; have J := (show PJ V (w.heap.size + 2) #[.slice none 0 0, .slice none 0 0] rt x rd L0 _ _ _ _ _ _ _ from J); rw [if_pos qab]; go_simp; go_at_call 106; have hbW := bel _ J.gr; have hszW := hbW.size; refine (l3Put_any A n c (factsR r) nm C l e ts W ((H1.out.below AtomE.stays hbW (nl _)).keep AtomE.stays (fun _ _ _ => rfl) (nl _) hszW) hs ((H3.out.below hbW (nl _)).keep (fun _ _ _ => rfl) (nl _) hszW) HRR.out hmax).mono ?_; rintro e1 w9 ⟨A9, c9, rs9, rfl, h9, hm9, hb9⟩
          have hJ := J.told hb9 (A := A9) (n := rs9.length) (c := c9) (by have := h9.atoms; rw [hm9, HL0.out] at this; exact this); exact hK.out _ _ ⟨kk, bf, true, false, false, _, x22, x27, x29, x30, x35, x36, v, _, rfl, rfl, e22, e27, e30, e35, hkk, fun e => qam, fun e => qam, rfl, hJ⟩
        · have hk1 : kk = 0 := by simp at h0; omega
          subst hk1; have l18f := l18k qbk; have l19g := l19f l18f; subst l18f; subst l19g; have J := (show PJ V (w.heap.size + 2) #[.slice none 0 0, .slice none 0 0] rt x rd L0 _ _ _ _ _ _ _ from J); rw [if_pos qab]; go_simp; exact hK.out _ _ ⟨1, bf, tf, false, false, x21, _, x27, x29, x30, x35, x36, _, _, rfl, rfl, fun _ => rfl, fun e => by omega, fun e => by omega, fun e => by omega, by omega, fun e => qam, fun e => qam, rfl, J.made⟩
        · simp at h0
        · simp at h0
        · simp at h0
        · simp at h0
        · have d0 := hd ⟨4, .data⟩ qad rfl
          have d1 := hd ⟨3, .chain⟩ qad rfl; have hk1 : kk = 1 := qbq; have hf : tf = true := qdt; subst hk1; subst hf; have l18f := l18k qbk; have l19g := l19f l18f; subst l18f; subst l19g; have J := (show PJ V (w.heap.size + 2) #[.slice none 0 0, .slice none 0 0] rt x rd L0 _ _ _ _ _ _ _ from J); have hx := e22 rfl; subst hx; obtain ⟨_, _, _, hown1⟩ := J.r1 rfl; refine step_appL 1 qaa qab _ _ _ qab (w.heap.size + 2 + 1) 3 i0 _ 8 Tryz.underlying164 hi hz hsz hby rfl x22 0 [] qab hown1 (some pb) k d (ncl rt) qab (SM.out _ (bel _ J.gr)).1 (ncl_one _) qac qaa J.hb ?_; intro v9 W9 hown hgrow hat
          have hJ := J.grown (k' := 2) (.inl rfl) (.inl rfl) (fun _ => by rw [Nat.zero_add, List.nil_append, ← lrt] at hown; exact hown) qbg qbg hgrow hat; exact hK.out _ _ ⟨2, bf, true, false, false, x21, x22, v9, x29, x30, x35, x36, v9, _, rfl, rfl, fun e => by omega, fun _ => rfl, fun e => by omega, fun e => by omega, by omega, fun e => qam, fun e => qam, rfl, hJ⟩
        · simp at h0
        · have hf : bf = false := qbe
          subst hf; rw [if_pos qab]; go_simp; exact hK.out _ _ ⟨kk, true, tf, l18, l19, x21, x22, x27, _, x30, x35, x36, v, _, rfl, rfl, e22, e27, e30, e35, hkk, e36, e19, rfl, J.boxed⟩
        · have d0 := hd ⟨9, .data⟩ qad rfl
          have d1 := hd ⟨11, .data⟩ qad rfl; have hk1 : kk = 2 := qbq; have hf : bf = true := qdt; subst hk1; subst hf; have l18f := l18k qbk; have l19g := l19f l18f; subst l18f; subst l19g; have J := (show PJ V (w.heap.size + 2) #[.slice none 0 0, .slice none 0 0] rt x rd L0 _ _ _ _ _ _ _ from J); have hx := e27 rfl; subst hx
          have htf : tf = true := by
            cases tf with
            | false => have := (J.tz rfl).2; omega
            | true => rfl
          subst htf; obtain ⟨gb, rfl, hB, -⟩ := J.b1 rfl; refine step_appL 1 qaa qab _ _ _ qab (w.heap.size + 2 + 1) 3 i0 _ 8 Tryz.underlying164 hi hz hsz hby rfl x27 _ _ qab (J.r2 rfl) (some ⟨gb, 0, none⟩) 1 1 [.int .i64 (x : Int)] qab (srcOne1 _ _ _ _ hB) qai qac qaa J.hb ?_; intro v9 W9 hown hgrow hat; have hJ := J.grown (k' := 3) (.inr (.inl rfl)) (.inr (.inl rfl)) qbg (fun _ => hown) qbg hgrow hat; exact hK.out _ _ ⟨3, true, true, false, false, x21, x22, x27, _, v9, x35, x36, v9, _, rfl, rfl, fun e => by omega, fun e => by omega, fun _ => rfl, fun e => by omega, by omega, fun e => qam, fun e => qam, rfl, hJ⟩
        · simp at h0
        · simp at h0
        · simp at h0
        · simp at h0
        · have d0 := hd ⟨12, .data⟩ qad rfl
          have hk1 : kk = 3 := qbq; subst hk1; have l18f := l18k qbk; have l19g := l19f l18f; subst l18f; subst l19g; have J := (show PJ V (w.heap.size + 2) #[.slice none 0 0, .slice none 0 0] rt x rd L0 _ _ _ _ _ _ _ from J); have hx := e30 rfl; subst hx
          have htf : tf = true := by
            cases tf with
            | false => have := (J.tz rfl).2; omega
            | true => rfl
          subst htf; refine step_appL 1 qaa qab _ _ _ qab (w.heap.size + 2 + 1) 3 i0 _ 8 Tryz.underlying164 hi hz hsz hby rfl x30 _ _ qab (J.r3 rfl) QK (m - k) (d - k) (ncl rd) qab (SM.out _ (bel _ J.gr)).2 (ncl_one _) qac qaa J.hb ?_; intro v9 W9 hown hgrow hat; have hJ := J.grown (k' := 4) (.inr (.inr rfl)) (.inr (.inr rfl)) qbg qbg (fun _ => by rw [lrd]; exact hown) hgrow hat; exact hK.out _ _ ⟨4, bf, true, false, false, x21, x22, x27, x29, x30, v9, x36, v9, _, rfl, rfl, fun e => by omega, fun e => by omega, fun e => by omega, fun _ => rfl, by omega, fun e => qam, fun e => qam, rfl, hJ⟩
        · have d0 := hd ⟨17, .data⟩ qad rfl
          have hk1 : kk = 4 := by simp at d0; omega
          have hl : l18 = false := qbe; have l19g := l19f hl; subst hk1; subst hl; subst l19g; have hx := e35 rfl; subst hx
          have htf : tf = true := by
            cases tf with
            | false => have := (J.tz rfl).2; omega
            | true => rfl
          subst htf; obtain ⟨V1, A9, n9, c9, q1, -⟩ := J.t1 rfl; subst q1; obtain ⟨p2, c2, q2, -⟩ := nums_own (ls := rt ++ [x] ++ rd) (lo := 0) qaj qaa (Nat.zero_le _); obtain ⟨lz, hlz⟩ : ∃ z, (rt ++ [x] ++ rd).length = z := ⟨_, rfl⟩; rw [hlz] at q2; clear hlz; subst q2; clear hd h0; rw [if_pos qab]; go_simp; exact hK.out _ _ ⟨4, bf, true, true, false, _, x22, x27, x29, x30, _, _, _, _, rfl, rfl, fun e => by omega, fun e => by omega, fun e => by omega, fun _ => rfl, by omega, fun _ => ⟨rfl, rfl, rfl⟩, fun e => qam, rfl, J⟩
        · have d0 := hd ⟨18, .data⟩ qad rfl
          have hl : l18 = true := by simpa using d0
          have hl2 : l19 = false := qbe; subst hl; subst hl2; obtain ⟨hx, hk1, htf⟩ := e36 rfl; subst hx; subst hk1; subst htf; have hx := e35 rfl; subst hx; obtain ⟨V1, A9, n9, c9, q1, -⟩ := J.t1 rfl; subst q1; obtain ⟨p2, c2, q2, -⟩ := nums_own (ls := rt ++ [x] ++ rd) (lo := 0) qaj qaa (Nat.zero_le _); obtain ⟨lz, hlz⟩ : ∃ z, (rt ++ [x] ++ rd).length = z := ⟨_, rfl⟩; rw [hlz] at q2; clear hlz; subst q2; clear hd h0; have r2 : W.cell? ⟨w.heap.size + 2, 0, none⟩ = some (.slice none 0 0) := J.res.cell 0; have r3 : W.cell? ⟨w.heap.size + 2, 1, none⟩ = some (.slice none 0 0) := J.res.cell 1; have r4 := J.res.frozen 0
          have r5 := J.res.frozen 1; rw [if_pos qab]; go_simp; exact hK.out _ _ ⟨4, bf, true, true, true, _, x22, x27, x29, x30, _, _, _, _, rfl, rfl, fun e => by omega, fun e => by omega, fun e => by omega, fun _ => rfl, by omega, fun _ => ⟨rfl, rfl, rfl⟩, fun _ => rfl, rfl, J.put _ _⟩
      case fin =>
        rintro L a W ⟨kk, bf, tf, l18, l19, x21, x22, x27, x29, x30, x35, x36, v, arr, rfl, rfl, e22, e27, e30, e35, hkk, e36, e19, rfl, J⟩ hr; have up := all_up qae rfl hr; have hl : l19 = true := up 19 qal; subst hl; obtain ⟨hx, hk1, htf⟩ := e36 (e19 rfl); subst hx; subst hk1; subst htf; have hx := e35 rfl; subst hx; obtain ⟨V1, A9, n9, c9, q1, ⟨t1, t2⟩, t3, t4, -⟩ := J.t1 rfl; subst q1; obtain ⟨p2, c2, q2, i2⟩ := nums_own (ls := rt ++ [x] ++ rd) (lo := 0) qaj qaa (Nat.zero_le _); subst q2; have k1 := t1.box t2 t3 t4 (hi' := W.heap.size); have KA := hid (show IsAtoms W 0 W.heap.size A9 n9 c9 (factsR (putRd r (nm, ts) x)) from by rw [← hpl.out, HL0.out]; exact k1)
        have KN := hid (show IsNums W 0 W.heap.size (some p2) (rt ++ [x] ++ rd).length c2 (roundsR (putRd r (nm, ts) x)) from by
          have e : roundsR (putRd r (nm, ts) x) = rt ++ [x] ++ rd := by rw [hput.out, ← HRT.out, ← HRD.out]; unfold roundsR; simp
          rw [e]; exact i2)
        have r2 : W.cell? ⟨w.heap.size + 2, 0, none⟩ = some (.slice A9 n9 c9) := J.res.cell 0; have r3 : W.cell? ⟨w.heap.size + 2, 1, none⟩ = some (.slice (some p2) (rt ++ [x] ++ rd).length c2) := J.res.cell 1; have hgr := hid (bel _ J.gr); obtain ⟨lz, hlz⟩ : ∃ z, (rt ++ [x] ++ rd).length = z := ⟨_, rfl⟩; rw [hlz] at KN r3; rw [hlz] at e35 e36; clear J up hr t1 t2 t3 t4 i2 k1 e22 e27 e30 e35 e36; go_wp2; refine bodyPost_ret (v := .agg #[.slice A9 n9 c9, .slice (some p2) lz c2]) (by simp [results, Tryz.results151, go_sem, r2, r3]) rfl ⟨_, _, _, _, _, _, rfl, KA.out, KN.out, hgr.out⟩
end Go.Proofs.YtcigljngiemdeaaGreat
