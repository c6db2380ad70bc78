/-
  Texts of one claim, put together.
-/
import Derived.Test.YtogonjkklioaaaaGreatDoorLg28
import Derived.Test.YtogonjkklioaaaaGreatDoorLg19
set_option maxRecDepth 100000
set_option maxHeartbeats 8000000
namespace Go.Proofs.YtogonjkklioaaaaGreatDoor
open Go.RowKit Go.Shelf
attribute [local go_sem] Oper.semAt_some
theorem Tryz.infoCh : (Tryz.prog.info? 25).map (fun i => (i.zero, i.size, i.bytes)) = some (some (.agg #[.slice none 0 0, .slice none 0 0]), 2, 48) := by kernel_rfl
theorem zgg {P : Program} {t : TypeId} {z : Value} {a b : Nat} (h : (P.info? t).map (fun i => (i.zero, i.size, i.bytes)) = some (some z, a, b)) : ∃ i, P.info? t = some i ∧ i.zero = some z ∧ i.size = a ∧ i.bytes = b := by
  cases hi : P.info? t with
  | none => rw [hi] at h; cases h
  | some i =>
    rw [hi] at h; simp only [Option.map_some, Option.some.injEq, Prod.mk.injEq] at h; exact ⟨i, rfl, h.1, h.2.1, h.2.2⟩
def LogR (l : List UInt8) (cs : List Ch) (n : Nat) : Prop := (l.length ≤ 400000 ∧ LogOf l cs ∧ n = (zeb 0 cs).length) ∨ (400000 < l.length ∧ cs = [] ∧ n = 0)
theorem LogR.uniq {l : List UInt8} {cs ds : List Ch} {n m : Nat} (h : LogR l cs n) (h' : LogR l ds m) : cs = ds ∧ n = m := by
  rcases h with ⟨h1, h2, h3⟩ | ⟨h1, h2, h3⟩
  · rcases h' with ⟨_, k2, k3⟩ | ⟨k1, _, _⟩
    · have e := h2.uniq k2
      exact ⟨e, by rw [h3, k3, e]⟩
    · omega
  · rcases h' with ⟨k1, _, _⟩ | ⟨_, k2, k3⟩
    · omega
    · exact ⟨h2.trans k2.symm, h3.trans k3.symm⟩
theorem LogOf.few {l : List UInt8} {cs : List Ch} (h : LogOf l cs) (hl : l.length ≤ 400000) : cs.length ≤ 100000 := by
  have h1 := zjt 0 cs; have h2 := h.tx.length_le; omega
theorem LogR.few {l : List UInt8} {cs : List Ch} {n : Nat} (h : LogR l cs n) : cs.length ≤ 100000 := by
  rcases h with ⟨h1, h2, _⟩ | ⟨_, h2, _⟩
  · exact h2.few h1
  · rw [h2]; simp
def LogIPost (l : List UInt8) (w : World) (e : Ending) (w' : World) : Prop :=
  ∃ (A : Option Addr) (c : Nat) (xs : List Cf) (n lo : Nat), e = .returned (.tuple #[.slice A xs.length c, .int .i64 (n : Int)]) ∧ w'.ownsRow lo 25 2 (.slice A xs.length c) xs.length (zeh xs) ∧
    OwnCs w' lo w'.heap.size (Value.slice A xs.length c).ownBlock xs ∧ (w.heap.size ≤ lo ∧ lo ≤ w'.heap.size) ∧ Below w.heap.size w w' ∧ LogR l (xs.map cfAt) n
theorem recordsOf_any (R : Nat) (w : World) :
    Calls Tryz.prog 42 #[.pointer (some ⟨R, 0, none⟩)] w fun e w' => e = .returned (.func (.func 73) #[] #[.pointer (some ⟨w.heap.size, 0, none⟩)]) ∧ Blk w' w.heap.size 58 #[.pointer (some ⟨R, 0, none⟩)] ∧ Below w.heap.size w w' ∧ w'.heap.size = w.heap.size + 1 := by
  have h0 := hid (Blk.new w 58 #[.pointer (some ⟨R, 0, none⟩)]); have hb := hid (zac w (.cells #[.pointer (some ⟨R, 0, none⟩)] 58)); go_enter Tryz.func42, Tryz.ntmps42; go_wp2; go_ret; exact ⟨rfl, h0.out, hb.out, by simp⟩
theorem records_stops (n : Nat) (hn : 1 ≤ n) (rb R n₀ : Nat) (s : ByteArray) (W : World) (hs : s.size ≤ 400000) (hb : Blk W rb 58 #[.pointer (some ⟨R, 0, none⟩)]) (hr : Rdr W R s 0) (hne : rb ≠ R) (hnR : n₀ ≤ R) (hn0 : n₀ ≤ W.heap.size)
    (hE : ∀ W', W'.heap.size ≥ n₀ → (∀ k, k < n₀ → W'.heap[k]? = W.heap[k]?) → EofIn W') (hM : ∀ W', W'.heap.size ≥ n₀ → (∀ k, k < n₀ → W'.heap[k]? = W.heap[k]?) → MaxIn W') (hP : ∀ W', W'.heap.size ≥ n₀ → (∀ k, k < n₀ → W'.heap[k]? = W.heap[k]?) → PowTab W') (hR1 : 0 ≠ R) (hR2 : 1 ≠ R) :
    SeqT Fence.wide n Tryz.prog 73 #[.pointer (some ⟨rb, 0, none⟩)] rxE (fun _ X Y => X.grownBy Y (some R)) (KeepsTwo n₀ rb R) RecPre (fun xs _ _ => LogOf s.data.toList (rxC xs)) (fun _ _ _ => True) W :=
  fun l J Jx W' hW hY h0 => by
    have hlow : ∀ k, k < n₀ → W'.heap[k]? = W.heap[k]? := fun k hk => hW.block k qaa; have hz := hW.size
    exact records1_in n hn l rb R n₀ s J Jx W' hY hs (hb.below hW) (hr.below hW) hne hnR qaa h0
      (fun V h1 h2 => hE V h1 (fun k hk => (h2 k hk).trans (hlow k hk))) (fun V h1 h2 => hM V h1 (fun k hk => (h2 k hk).trans (hlow k hk))) (fun V h1 h2 => hP V h1 (fun k hk => (h2 k hk).trans (hlow k hk))) hR1 hR2
theorem eof_low {w W : World} (h : EofIn w) (hk : ∀ k, k < w.heap.size → W.heap[k]? = w.heap[k]?) : EofIn W := by
  obtain ⟨t, u, hm⟩ := h; exact ⟨t, u, (cb_ (hk _ (World.block_lt_of_cell? _ _ hm))).trans hm⟩
theorem max_low {w W : World} (h : MaxIn w) (hk : ∀ k, k < w.heap.size → W.heap[k]? = w.heap[k]?) : MaxIn W := by
  obtain ⟨m, hm⟩ := h; exact ⟨m, (cb_ (hk _ (World.block_lt_of_cell? _ _ hm))).trans hm⟩
theorem pow_low {w W : World} (h : PowTab w) (hz : w.heap.size ≤ W.heap.size) (hk : ∀ k, k < w.heap.size → W.heap[k]? = w.heap[k]?) : PowTab W := by
  have hb : Below w.heap.size w { W with os := w.os, tape := w.tape, output := w.output } := ⟨rfl, rfl, rfl, hz, hk⟩; have := h.below hb; exact this
def LogI (w : World) (cb sb lo : Nat) (pre : List Rx) (W : World) : Prop := ∃ v hi, LG w cb sb lo hi v (zeb 0 (rxC pre)).length (pre.map (·.1)) W
def LogA (w : World) (cb sb lo : Nat) (tm : Nat → Rx → Array Value) (pre : List Rx) (x : Rx) (a' : Act) (W : World) : Prop :=
  ∃ v hi Bx, LG w cb sb lo hi v (zeb 0 (rxC pre)).length (pre.map (·.1)) W ∧ (hi ≤ x.1.lo ∧ x.1.hi ≤ Bx ∧ lo ≤ Bx) ∧ OwnCf W x.1 ∧ Blk W Bx 25 #[cfV x.1, cfU x.1] ∧ a' = { tmps := tm Bx x, defers := [] } ∧ pre.length ≤ 100000 ∧ x.2 = (zeb 0 (rxC (pre ++ [x]))).length ∧ x.2 ≤ 1048576
theorem zin (s : ByteArray) (w : World) (hs : s.size ≤ 1048576) (hm : MaxIn w) (hE : EofIn w) (hP : PowTab w) :
    Calls Tryz.prog 16 #[.string s] w (LogIPost s.data.toList w) := by
  obtain ⟨i0, hi, hz, hsz, hby⟩ := zgg Tryz.infoCh; have HI := hid hi; have HZ := hid hz; have HSZ := hid hsz; have HYY := hid hby; clear hi hz hsz hby; have e8 := World.block_lt_of_cell? _ _ hm.choose_spec; have c7 := World.block_lt_of_cell? _ _ hE.choose_spec.choose_spec; have h7 : 0 ≠ w.heap.size + 2 := by have : 0 < w.heap.size := c7; omega
  have g8 : 1 ≠ w.heap.size + 2 := by have : 1 < w.heap.size := e8; omega
  have hmx : Tryz.prog.follows .mixedOrders = true := qab; have hll : s.data.toList.length = s.size := qag; clear e8 c7; refine (callsIn_wide (n := 5)).1 ?_; refine callsIn_of_wp_marks Tryz.func16 rfl trivial ?_ rfl; simp only [Tryz.ntmps16, List.size_toArray, List.length_cons, List.length_nil, Nat.reduceAdd, Nat.reduceSub, Array.replicate_succ, Array.replicate_zero, List.push_toArray, List.append_toArray, List.nil_append, List.cons_append]; by_cases hbig : 400000 < s.size
  · have g0 : (400000 : Int) < (s.size : Int) := qaa
    gi_wp2; refine ⟨.tuple #[.slice none 0 0, .int .i64 0], ?_, none, 0, [], 0, w.heap.size, rfl, ⟨rfl, .inl ⟨rfl, rfl⟩⟩, OwnCs.nil, ⟨nl _, nl _⟩, Below.refl _ _, .inr ⟨by omega, rfl, rfl⟩⟩; simp [results, Tryz.f16, go_sem]
  · have g0 : ¬ (400000 : Int) < (s.size : Int) := qaa
    have e6 := zbj w (.cells #[.slice none 0 0] 34) (.cells #[.int .i64 0] 3); have C0 := (Blk.new w 34 #[.slice none 0 0]).alloc (.cells #[.int .i64 0] 3); have Z0 := Blk.made (w.alloc (.cells #[.slice none 0 0] 34)) (b := w.heap.size + 1) 3 #[.int .i64 0] qag; have c3 : ((w.alloc (.cells #[.slice none 0 0] 34)).alloc (.cells #[.int .i64 0] 3)).heap.size = w.heap.size + 2 := qag; gi_wp2_with (refine ⟨trivial, ?_⟩; gi_at_call 30; refine (callsIn_wide.2 (zjr s _)).mono ?_; rintro e W1 ⟨rfl, b4, hb1, a5⟩)
    rw [c3] at b4 a5; have C1 := hid (C0.below hb1); have Z1 := hid (Z0.below hb1); have e7 := hid b4; have HB1 := hid (zaa e6 hb1); clear e6 C0 Z0 b4 hb1 c3; gi_wp2_with (refine ⟨trivial, ?_⟩; gi_at_call 42; refine (callsIn_wide.2 (recordsOf_any (w.heap.size + 2) W1)).mono ?_; rintro e W2 ⟨rfl, a8, hb2, hz2⟩); have C2 := hid (C1.out.below hb2); have Z2 := hid (Z1.out.below hb2); have g1 := hid (e7.out.below hb2); have HB2 := hid (zaa HB1.out hb2); have g5 := hid a8; clear C1 Z1 e7 HB1 a8 hb2; have g2 : W2.heap.size ≤ W1.heap.size + 1 := qaa; have g6 : W1.heap.size + 1 ≤ W2.heap.size := qaa
    clear hz2; have g7 : Rdr W2 (w.heap.size + 2) s 0 := g1.out; have hz1 : w.heap.size + 3 ≤ W1.heap.size := a5; have b7 : ∀ V : World, V.heap.size ≥ w.heap.size → (∀ k, k < w.heap.size → V.heap[k]? = W2.heap[k]?) → ∀ k, k < w.heap.size → V.heap[k]? = w.heap[k]? := fun V _ h2 k hk => (h2 k hk).trans (HB2.out.block k hk); have h6 := hid (records_stops (5 - 1) qaa W1.heap.size (w.heap.size + 2) w.heap.size s W2 qaa g5.out g7 qaa qaa qaa (fun V h1 h2 => eof_low hE (b7 V h1 h2)) (fun V h1 h2 => max_low hm (b7 V h1 h2)) (fun V h1 h2 => pow_low hP h1 (b7 V h1 h2)) h7 g8)
    refine wpIn_rangeT rfl qaa (gf := 73) (lb := #[.pointer (some ⟨W1.heap.size, 0, none⟩)]) rfl trivial (enters_of Tryz.func73 qab rfl) h6.out
      KeepsTwo.trans (fun W r r' hl => ⟨belowK_b (w := W2) qaa W _ _ _ qaa hl rfl rfl, World.putObj_heap_other qaa, World.putObj_heap_other qaa⟩) (Below.refl _ _) (fun _ => rfl)
      (fun B X Y hB hT k h1 h2 ho => hT.block k (Array.getElem?_eq_some_iff.1 ho.choose_spec.1).1 qaj)
      (LogI w w.heap.size (w.heap.size + 1) (W2.heap.size + 2)) (fun _ _ _ => False)
      (fun pre W r o' hI hl => by obtain ⟨v, hi, h⟩ := hI; exact ⟨v, hi, h.book hl qaa qaa⟩)
      (fun _ _ W r o' h _ => h.elim)
      (fun V hV hVz => ⟨.slice none 0 0, W2.heap.size + 2, C2.out.below hV, Z2.out.below hV, ⟨rfl, .inl ⟨rfl, rfl⟩⟩, OwnCs.nil, nl _, Nat.lt_succ_self _, by omega, nl _, by omega, fun g e => by simp [Value.ownBlock] at e, HB2.out.trans (hV.mono HB2.out.size)⟩)
      (LogA w w.heap.size (w.heap.size + 1) (W2.heap.size + 2) (fun Bx x => #[.string s, undef, .slice none 0 0, .int .i64 0, .pointer (some ⟨w.heap.size, 0, none⟩), .pointer (some ⟨w.heap.size + 1, 0, none⟩), .pointer (some ⟨Bx, 0, none⟩), .int .i64 ((x.2 : Nat) : Int), .string s, .int .i64 (s.size : Int), .bool false, .string s, .pointer (some ⟨w.heap.size + 2, 0, none⟩), .func (.func 73) #[] #[.pointer (some ⟨W1.heap.size, 0, none⟩)], .agg #[cfV x.1, cfU x.1], .int .i64 ((x.2 : Nat) : Int), undef, undef, undef, undef, undef, undef, undef]))
      (fun pre x a' W r o' hA hl => by
        obtain ⟨v, hi, Bx, h1, h2, h3, h4, h5⟩ := hA; have b5 := h1.h1; exact ⟨v, hi, Bx, h1.book hl qaa qaa, h2, h3.keep (fun b b1 b2 => World.putObj_heap_other qaa), (World.putObj_heap_other qaa).trans h4, h5⟩)
      ?assign ?body ?done ?stop
    case assign =>
      rintro B pre x X0 X1 K hB ⟨v, hi, a2⟩ hT ⟨p1, p2, p3, p4, p5, p6, p7⟩ hK; have P6 := hid p6; clear p6; unfold rxE cfV cfU; gi_wp2; have a3 := a2.step hT qaa qaa qaa qaa; have b6 := zac X1 (.cells #[cfV x.1, cfU x.1] 25); have hzz := hT.size; have b9 := a3.h2; have hgr := a3.gr.size; have b5 := a3.h1; exact hK _ _ ((KeepsOthers.alloc _ _).from _) (KeepsTwo.of b6 qaa qaa qaa) ⟨v, hi, X1.heap.size, a3.below b6, ⟨by have := a2.h2; omega, p3, by omega⟩, p1.keep (fun b _ b2 => b6.block b qaa), Blk.new X1 _ _, rfl, p5, P6.out, p7⟩
    case body =>
      rintro pre x a' W hrc ⟨v, hi, Bx, a2, ⟨q1, q2, q3⟩, hO, hX, rfl, p5, p6, p7⟩; have c0 : W.cell? ⟨w.heap.size, 0, none⟩ = some v := a2.C.cell 0; have f0 := a2.C.frozen 0; have x0 : W.cell? ⟨Bx, 0, none⟩ = some (cfV x.1) := hX.cell 0; have x1 : W.cell? ⟨Bx, 1, none⟩ = some (cfU x.1) := hX.cell 1; have hpl : (pre.map (·.1)).length = pre.length := List.length_map _; have hXl := hX.lt; have hgr := a2.gr.size; have b9 := a2.h2; have a7 := hid a2; have HO := hid hO; have HX := hid hX; have P6 := hid p6; have b5 := a2.h0; have hcs := a2.hs; have hlh := a2.h1; have hfar : ∀ g, v.ownBlock = some g → W2.heap.size + 2 ≤ g := fun g hg => (a2.K.lt g hg).1
      have HFAR := hid hfar; clear a2 hO hX p6 hfar; gi_wp2_with (gi_at_builtin; refine zii rfl _ _ 34 rfl (W2.heap.size + 2) 25 i0 _ 2 48 Tryz.underlying34 HI.out HZ.out HSZ.out HYY.out rfl qaa v (pre.map (·.1)).length (zeh (pre.map (·.1))) rfl (a7.out.K.alloc _) ⟨W.heap.size, 0, none⟩ 1 1 [cfV x.1, cfU x.1] rfl rfl (zbr _ _ _ _) (by simp [cfV, cfU, Value.oneCell']) qaa qaf qaa qah (W.heap.size + 1) qag ?_; intro g' cap W9 hown hgrow hat hlt9; have C9 := (a7.out.C.alloc (.cells #[cfV x.1, cfU x.1] 25)).kept hgrow qel; have Z9 := (a7.out.Z.alloc (.cells #[cfV x.1, cfU x.1] 25)).kept hgrow qel; have c9 := C9.cell 0; have d9 := C9.frozen 0; have ZZ := Z9.far (p := ⟨w.heap.size, 0, none⟩) (by show w.heap.size + 1 ≠ w.heap.size; omega) (.slice (some ⟨g', 0, none⟩) (pre.length + 1) cap); have z9 := ZZ.cell 0; have y9 := ZZ.frozen 0)
      have a6 : W9.ownsRow (W2.heap.size + 2) 25 2 (.slice (some ⟨g', 0, none⟩) (pre.length + 1) cap) ((pre.map (·.1)).length + 1) (zeh (pre.map (·.1)) ++ [cfV x.1, cfU x.1]) := by have := hown; simp only [List.length_map] at this ⊢; exact this
      have hM := a7.out.more HO.out qaa qaa a6 hgrow hat x.2; have hgz := hgrow.size; have hza : (W.alloc (.cells #[cfV x.1, cfU x.1] 25)).heap.size = W.heap.size + 1 := qag; have hk1 : KeepsOthers W W9 := ((KeepsOthers.alloc W (.cells #[cfV x.1, cfU x.1] 25))).trans (keeps_append (a7.out.K.alloc _) hgrow)
      have a4 : ∀ b, b < W2.heap.size → b ≠ w.heap.size → b ≠ w.heap.size + 1 → ((W9.setCell ⟨w.heap.size, 0, none⟩ (.slice (some ⟨g', 0, none⟩) (pre.length + 1) cap)).setCell ⟨w.heap.size + 1, 0, none⟩ (.int .i64 ((x.2 : Nat) : Int))).heap[b]? = W.heap[b]? := fun b b1 b2 b3 =>
        (hs_ _ _ _ b (by show b ≠ w.heap.size + 1; omega)).trans ((hs_ _ _ _ b qbh).trans ((hgrow.block b qaa qel).trans (Below.heap_alloc _ _ _ qaa)))
      have hsz : ((W9.setCell ⟨w.heap.size, 0, none⟩ (.slice (some ⟨g', 0, none⟩) (pre.length + 1) cap)).setCell ⟨w.heap.size + 1, 0, none⟩ (.int .i64 ((x.2 : Nat) : Int))).heap.size = W9.heap.size := by simp only [zab]
      refine ⟨((hk1.trans (KeepsOthers.setCell _ _ _)).trans (KeepsOthers.setCell _ _ _)).from _, ⟨⟨?_, ?_, ?_, ?_, fun k hk => a4 k qaa qaa qaa⟩, a4 _ qaa qaa qaa, a4 _ qaa qaa qaa⟩, ?_⟩
      · exact hgrow.os
      · exact hgrow.tape
      · exact hgrow.output
      · omega
      · refine ⟨.slice (some ⟨g', 0, none⟩) (pre.length + 1) cap, W9.heap.size, ?_⟩
        rw [← P6.out, List.map_append]; exact hM
    case done =>
      rintro B xs X0 X X' hB hS ⟨v, hi, a2⟩ hT ⟨r, r', hl, rfl⟩ hD; have b9 := a2.h2; have b5 := a2.h1; have a3 := a2.step hT qaa qaa qaa qaa; have a9 := a3.book (r' := r') hl qaa qaa; obtain ⟨X9, d7⟩ : ∃ X9, X.putObj (W2.heap.size + 1) (.loop r') = X9 := ⟨_, rfl⟩; rw [d7] at a9 hD ⊢; clear d7 a3 hT hl; have c0 : X9.drew.cell? ⟨w.heap.size, 0, none⟩ = some v := a9.C.cell 0; have z0 : X9.drew.cell? ⟨w.heap.size + 1, 0, none⟩ = some (.int .i64 (((zeb 0 (rxC xs)).length : Nat) : Int)) := a9.Z.cell 0; have HL2 := hid a9; clear a9; gi_wp2; gi_region
      all_goals gi_wp2
      obtain ⟨A, cc, hv⟩ : ∃ A cc, v = .slice A (xs.map (·.1)).length cc := by
        rcases HL2.out.K.2 with ⟨e, h0⟩ | ⟨g, cap, cur, e, _⟩
        · exact ⟨none, 0, by rw [e, h0]⟩
        · exact ⟨_, cap, e⟩
      subst hv; have d4 : X9.drew.heap[W2.heap.size]? = some (.deferred (some [])) := hD; have L3 : LG w w.heap.size (w.heap.size + 1) (W2.heap.size + 2) hi (.slice A (xs.map (·.1)).length cc) (zeb 0 (rxC xs)).length (xs.map (·.1)) X9.drew := HL2.out.below (Below.refl _ _).drew; have LF := L3.h2; have LZ := L3.gr.size; have L4 := L3.mark d4 qaa qaa; refine ⟨by simp, .inl ⟨_, _, rfl, run_takeDeferred d4, ?_⟩⟩; refine ⟨.tuple #[.slice A (xs.map (·.1)).length cc, .int .i64 (((zeb 0 (rxC xs)).length : Nat) : Int)], ?_, A, cc, xs.map (·.1), (zeb 0 (rxC xs)).length, W2.heap.size + 2, rfl, L4.K, L4.raise.O, ⟨by omega, by have := L4.h1; have := L4.h2; omega⟩, L4.gr, .inl ⟨by omega, by rw [List.map_map]; exact hS, by rw [List.map_map]; rfl⟩⟩
      simp [results, Tryz.f16, go_sem]
    case stop =>
      rintro B c pre X0 X X' hB _ hF; exact hF.elim
end Go.Proofs.YtogonjkklioaaaaGreatDoor

namespace Go.Proofs.YtogonjkklioaaaaGreatDoor
open Go.RowKit
def ChE (w : World) (lo hi : Nat) (p : Addr) (c : Ch) : Prop :=
  (∃ A n d, w.cell? p = some (.slice A n d) ∧ IsAtoms w lo hi A n d c.1) ∧ (∃ B m d, w.cell? (zcw p 1) = some (.slice B m d) ∧ IsAtoms w lo hi B m d c.2)
theorem ChE.stays : zqg ChE := by
  intro w w' lo hi lo' hi' p a ⟨⟨A, n, c, h3, h4⟩, ⟨B, m, d, h5, h6⟩⟩ hp1 hp2 hk hl hh; exact ⟨⟨A, n, c, (hk p hp1 hp2).trans h3, h4.keep AtomE.stays hk hl hh⟩, ⟨B, m, d, (hk (zcw p 1) hp1 hp2).trans h5, h6.keep AtomE.stays hk hl hh⟩⟩
theorem ChE.out {w : World} {lo hi : Nat} {p : Addr} {c : Ch} (h : ChE w lo hi p c) : ∃ A n d B m d', w.cell? p = some (.slice A n d) ∧ IsAtoms w lo hi A n d c.1 ∧ w.cell? ⟨p.block, p.off + 1, none⟩ = some (.slice B m d') ∧ IsAtoms w lo hi B m d' c.2 := by
  obtain ⟨⟨A, n, d, h1, h2⟩, ⟨B, m, d', h3, h4⟩⟩ := h; exact ⟨A, n, d, B, m, d', h1, h2, h3, h4⟩
abbrev zht := IsSeq 2 ChE
section
variable {W W' : World} {lo hi base n c : Nat} {A : Option Addr} {xs : List Cf}
theorem chs_of_row (hrow : W.ownsRow lo 25 2 (.slice A xs.length c) xs.length (zeh xs)) (ho : OwnCs W lo W.heap.size (Value.slice A xs.length c).ownBlock xs) : zht W 0 W.heap.size A xs.length c (xs.map cfAt) := by
  rcases hrow.2 with ⟨e, h0⟩ | ⟨g, cap, cur, e, hb, hgb, hle, hcap, hsz, htk⟩
  · injection e with e1 e2 e3
    subst e1; subst e3; exact ⟨List.length_map _, by omega, by unfold maxLen; omega, fun hp => by omega⟩
  · injection e with e1 e2 e3
    subst e1; subst e3; have hlt := (Array.getElem?_eq_some_iff.1 hgb).1; refine ⟨List.length_map _, hle, hcap, fun _ => ⟨_, rfl, Nat.zero_le _, hlt, fun i x hx => ?_⟩⟩; rw [List.getElem?_map] at hx; obtain ⟨f, hf, rfl⟩ := Option.map_eq_some_iff.1 hx; have hi := (List.getElem?_eq_some_iff.1 hf).1; obtain ⟨y0, y1⟩ := ccells_at hf; have a0 : ∀ j, (⟨g, 0, none⟩ : Addr).add j = ⟨g, j, none⟩ := fun j => by unfold Addr.add; split <;> simp_all
    have hc : ∀ j u, (zeh xs)[j]? = some u → W.cell? ⟨g, j, none⟩ = some u := fun j u hu => by
      have hj := (List.getElem?_eq_some_iff.1 hu).1; rw [ccells_len] at hj; rw [← htk, List.getElem?_take, if_pos qaa] at hu; unfold World.cell?; rw [hgb]; simpa using hu
    obtain ⟨o1, o2, o3, _⟩ := ho.own f (List.mem_of_getElem? hf); have k1 := o1.h1; have k2 := o1.h2; rw [a0]; exact ⟨⟨_, _, _, hc _ _ y0, o1.a.atoms.keep AtomE.stays (fun _ _ _ => rfl) (Nat.zero_le _) qaa⟩, ⟨_, _, _, hc _ _ y1, o1.b.atoms.keep AtomE.stays (fun _ _ _ => rfl) (Nat.zero_le _) qaa⟩⟩
end
def ChV : zmn Ch := fun W lo hi vs c => ∃ A n e B m d, vs = [.slice A n e, .slice B m d] ∧ IsAtoms W lo hi A n e c.1 ∧ IsAtoms W lo hi B m d c.2
theorem ChV.keep : TKeep ChV := fun _ _ _ _ _ _ ⟨A, n, c, B, m, d, h1, h2, h3⟩ hk =>
  ⟨A, n, c, B, m, d, h1, h2.keep AtomE.stays (fun q h1 h2 => cb_ (hk q.block h1 h2)) (nl _) (nl _), h3.keep AtomE.stays (fun q h1 h2 => cb_ (hk q.block h1 h2)) (nl _) (nl _)⟩
theorem GR.store {α : Type} {T : TypeId} {sz a : Nat} {V : zmn α} {w W : World} {v : Value} {xs : List (Ex α)} (h : GR T sz V w a v xs W) (hV : TKeep V) (hlo : ∀ x ∈ xs, a ≤ x.lo) {p : Addr} (hp : p.block < a) (hw : w.heap.size ≤ p.block) (u : Value) : GR T sz V w a v xs (W.setCell p u) := by
  have hs : (W.setCell p u).heap.size = W.heap.size := zab _ _ _
  exact ⟨znw h.K (fun e => by have := (h.K.lt _ e).1; omega) u, fun x hx => by
    obtain ⟨o0, o1, o2, o3⟩ := h.O x hx; have hl := hlo x hx; exact ⟨o0, hV _ _ _ _ _ _ o1 (fun b h1 _ => hs_ _ _ _ b qaa), by omega, o3⟩, h.h0, h.gr.setCell hw u⟩
structure KJ (V : World) (rs : List Rl) (gs : List At) (c1 c2 fa : Bool) (x7 x12 x3 : Value) (arr : Array Value) (W : World) : Prop where
  r : c1 = true → ∃ A c lo hi, x7 = .slice A rs.length c ∧ zap W lo hi A rs.length c rs ∧ V.heap.size ≤ lo ∧ hi ≤ W.heap.size ∧ ∀ g, x3 = .pointer (some ⟨g, 0, none⟩) → g < lo ∨ hi ≤ g
  s : c2 = true → ∃ A c lo hi, x12 = .slice A gs.length c ∧ IsAtoms W lo hi A gs.length c gs ∧ V.heap.size ≤ lo ∧ hi ≤ W.heap.size ∧ ∀ g, x3 = .pointer (some ⟨g, 0, none⟩) → g < lo ∨ hi ≤ g
  a : fa = true → ∃ g, x3 = .pointer (some ⟨g, 0, none⟩) ∧ V.heap.size ≤ g ∧ Blk W g 119 arr
  z1 : c1 = false → x7 = undef
  z2 : c2 = false → x12 = undef
  z3 : fa = false → x3 = undef
  gr : Below V.heap.size V W
section
variable {V W W' : World} {rs : List Rl} {gs : List At} {c1 c2 fa : Bool} {x7 x12 x3 : Value} {arr : Array Value}
theorem KJ.below (h : KJ V rs gs c1 c2 fa x7 x12 x3 arr W) (hb : Below W.heap.size W W') : KJ V rs gs c1 c2 fa x7 x12 x3 arr W' := by
  have hs := hb.size
  exact ⟨fun e => by
    obtain ⟨A, c, lo, hi, e1, e2, e3, e4, e5⟩ := h.r e; exact ⟨A, c, lo, hi, e1, e2.below RuleE.stays hb e4, e3, by omega, e5⟩, fun e => by
    obtain ⟨A, c, lo, hi, e1, e2, e3, e4, e5⟩ := h.s e; exact ⟨A, c, lo, hi, e1, e2.below AtomE.stays hb e4, e3, by omega, e5⟩, fun e => by
    obtain ⟨g, e1, e2, e3⟩ := h.a e; exact ⟨g, e1, e2, e3.below hb⟩, h.z1, h.z2, h.z3, h.gr.trans (hb.mono h.gr.size)⟩
theorem KJ.before (h : KJ V rs gs c1 c2 fa x7 x12 x3 arr W) : ∀ g, x3 = .pointer (some ⟨g, 0, none⟩) → g < W.heap.size := fun g e => by
  cases fa with
  | false => rw [h.z3 rfl] at e; simp [undef] at e
  | true =>
    obtain ⟨g', e1, _, e3⟩ := h.a rfl; rw [e1] at e; simp at e; subst e; exact e3.lt
theorem KJ.made (h : KJ V rs gs c1 c2 false x7 x12 x3 #[.slice none 0 0, .int .i64 0, .slice none 0 0, .slice none 0 0] W) : KJ V rs gs c1 c2 true x7 x12 (.pointer (some ⟨W.heap.size, 0, none⟩)) #[.slice none 0 0, .int .i64 0, .slice none 0 0, .slice none 0 0] (W.alloc (.cells #[.slice none 0 0, .int .i64 0, .slice none 0 0, .slice none 0 0] 119)) := by
  have h2 := h.below (zac W (.cells #[.slice none 0 0, .int .i64 0, .slice none 0 0, .slice none 0 0] 119))
  exact ⟨fun e => by
    obtain ⟨A, c, lo, hi, e1, e2, e3, e4, e5⟩ := h.r e; exact ⟨A, c, lo, hi, e1, e2.below RuleE.stays (zac W _) e4, e3, by simp; omega, fun g e => by simp at e; right; omega⟩, fun e => by
    obtain ⟨A, c, lo, hi, e1, e2, e3, e4, e5⟩ := h.s e; exact ⟨A, c, lo, hi, e1, e2.below AtomE.stays (zac W _) e4, e3, by simp; omega, fun g e => by simp at e; right; omega⟩, fun _ => ⟨_, rfl, h.gr.size, Blk.new W _ _⟩, h2.z1, h2.z2, fun e => qar, h2.gr⟩
end
theorem KJ.put {V W : World} {rs : List Rl} {gs : List At} {A G : Option Addr} {n c m d g : Nat} (h : KJ V rs gs true true true (.slice A n c) (.slice G m d) (.pointer (some ⟨g, 0, none⟩)) #[.slice none 0 0, .int .i64 0, .slice none 0 0, .slice none 0 0] W) (tv e : Value) : KJ V rs gs true true true (.slice A n c) (.slice G m d) (.pointer (some ⟨g, 0, none⟩)) #[.slice A n c, tv, .slice G m d, e] ((((W.setCell ⟨g, 0, none⟩ (.slice A n c)).setCell ⟨g, 1, none⟩ tv).setCell ⟨g, 2, none⟩ (.slice G m d)).setCell ⟨g, 3, none⟩ e) := by
  obtain ⟨g', e1, e2, e3⟩ := h.a rfl; simp at e1; subst e1; have hk : ∀ b, b ≠ g → ((((W.setCell ⟨g, 0, none⟩ (.slice A n c)).setCell ⟨g, 1, none⟩ tv).setCell ⟨g, 2, none⟩ (.slice G m d)).setCell ⟨g, 3, none⟩ e).heap[b]? = W.heap[b]? := fun b hb => (hs_ _ _ _ b hb).trans ((hs_ _ _ _ b hb).trans ((hs_ _ _ _ b hb).trans (hs_ _ _ _ b hb))); have hs : ((((W.setCell ⟨g, 0, none⟩ (.slice A n c)).setCell ⟨g, 1, none⟩ tv).setCell ⟨g, 2, none⟩ (.slice G m d)).setCell ⟨g, 3, none⟩ e).heap.size = W.heap.size := qch; refine ⟨fun _ => ?_, fun _ => ?_, fun _ => ⟨g, rfl, e2, (((e3.set 0 _).set 1 _).set 2 _).set 3 _⟩, fun e => qar, fun e => qar, fun e => qar, (((h.gr.setCell (p := ⟨g, 0, none⟩) e2 _).setCell (p := ⟨g, 1, none⟩) e2 _).setCell (p := ⟨g, 2, none⟩) e2 _).setCell (p := ⟨g, 3, none⟩) e2 _⟩
  · obtain ⟨A', c', lo, hi, f1, f2, f3, f4, f5⟩ := h.r rfl
    have f6 := f5 g rfl; exact ⟨A', c', lo, hi, f1, f2.keep RuleE.stays (fun q h1 h2 => cb_ (hk _ qaa)) (nl _) (nl _), f3, by omega, f5⟩
  · obtain ⟨A', c', lo, hi, f1, f2, f3, f4, f5⟩ := h.s rfl
    have f6 := f5 g rfl; exact ⟨A', c', lo, hi, f1, f2.keep AtomE.stays (fun q h1 h2 => cb_ (hk _ qaa)) (nl _) (nl _), f3, by omega, f5⟩
structure CB (w : World) (rc0 : Array Value) (g a lo hi lo2 hi2 : Nat) (A : Option Addr) (c : Nat) (rs : List Rl) (t : Nat) (G : Option Addr) (d : Nat) (gs : List At) (v : Value) (zs : List (Ex Ch)) (W : World) : Prop where
  xb : Blk W w.heap.size 119 rc0
  xr : Blk W (w.heap.size + 1) 119 #[.slice none 0 0, .int .i64 0, .slice none 0 0, .slice none 0 0]
  xo : Blk W g 119 #[.slice A rs.length c, .int .i64 (t : Int), .slice G gs.length d, v]
  ru : zap W lo hi A rs.length c rs
  fa : IsAtoms W lo2 hi2 G gs.length d gs
  gg : GR 25 2 ChV w a v zs W
  lw : ∀ x ∈ zs, a ≤ x.lo
  n1 : w.heap.size + 1 < g
  n2 : g < a
  n3 : (g < lo ∨ hi ≤ g) ∧ (g < lo2 ∨ hi2 ≤ g)
  n4 : hi ≤ a ∧ hi2 ≤ a ∧ a ≤ W.heap.size
  n5 : w.heap.size + 2 ≤ lo ∧ w.heap.size + 2 ≤ lo2
section
variable {w W W' W9 : World} {rc0 : Array Value} {g a lo hi lo2 hi2 c t d g' n' cap : Nat} {A G : Option Addr} {rs : List Rl} {gs : List At} {v : Value} {zs : List (Ex Ch)} {x : Ex Ch} {ob : Obj}
theorem CB.below (h : CB w rc0 g a lo hi lo2 hi2 A c rs t G d gs v zs W) (hb : Below W.heap.size W W') : CB w rc0 g a lo hi lo2 hi2 A c rs t G d gs v zs W' := by
  have hs := hb.size; have h4 := h.n4; exact ⟨h.xb.below hb, h.xr.below hb, h.xo.below hb, h.ru.below RuleE.stays hb qaa, h.fa.below AtomE.stays hb qaa, h.gg.below ChV.keep hb, h.lw, h.n1, h.n2, h.n3, by omega, h.n5⟩
theorem CB.more (h : CB w rc0 g a lo hi lo2 hi2 A c rs t G d gs v zs W) (hl : x.vs.length = 2) (ho : ChV W x.lo x.hi x.vs x.x) (h2 : x.hi ≤ W.heap.size) (hlo : a ≤ x.lo) (hr : ∀ g, v.ownBlock = some g → g < x.lo ∨ x.hi ≤ g)
    (hown : W9.ownsRow a 25 2 (.slice (some ⟨g', 0, none⟩) n' cap) (zs.length + 1) (zea zs ++ x.vs)) (hgrow : (W.alloc ob).grownBy W9 v.ownBlock) (hat : v.ownBlock = some g' ∨ g' = W.heap.size + 1) :
    CB w rc0 g a lo hi lo2 hi2 A c rs t G d gs (.slice (some ⟨g', 0, none⟩) n' cap) (zs ++ [x]) (W9.setCell ⟨g, 3, none⟩ (.slice (some ⟨g', 0, none⟩) n' cap)) := by
  have hb1 := zac W ob; have hA := h.below hb1; have hsz : (W.alloc ob).heap.size = W.heap.size + 1 := qag; have a1 := h.n1; have a2 := h.n2; have a3 := h.n3; have a4 := h.n4; have a5 := h.n5; have hne : ∀ b, b < a → v.ownBlock ≠ some b := fun b hb e => by have := (h.gg.K.lt b e).1; omega
  have kk : ∀ b, b < a → b ≠ g → (W9.setCell ⟨g, 3, none⟩ (.slice (some ⟨g', 0, none⟩) n' cap)).heap[b]? = (W.alloc ob).heap[b]? := fun b hb hbg => (hs_ _ _ _ b hbg).trans (hgrow.block b qaa (fun e => hne b hb e.symm)); have hg := h.gg.more ChV.keep hb1 hl (ChV.keep _ _ _ _ _ _ ho (fun q _ h3 => hb1.block q qaa)) qaa hr hown hgrow (hat.imp id (fun e => by rw [e, hsz])); have hgs := hgrow.size
  have a6 : ∀ y ∈ zs ++ [x], a ≤ y.lo := fun y hy => by
    rcases List.mem_append.1 hy with hy | hy
    · exact h.lw y hy
    · rw [List.mem_singleton.1 hy]; exact hlo
  exact ⟨(hA.xb.kept hgrow (fun e => hne _ qaa e.symm)).far (p := ⟨g, 3, none⟩) (by show w.heap.size ≠ g; omega) _, (hA.xr.kept hgrow (fun e => hne _ qaa e.symm)).far (p := ⟨g, 3, none⟩) (by show w.heap.size + 1 ≠ g; omega) _, (hA.xo.kept hgrow (fun e => hne _ qaa e.symm)).set 3 _,
    hA.ru.keep RuleE.stays (fun q h1 h2 => cb_ (kk _ qaa qaa)) (nl _) (nl _), hA.fa.keep AtomE.stays (fun q h1 h2 => cb_ (kk _ qaa qaa)) (nl _) (nl _),
    hg.store ChV.keep a6 (p := ⟨g, 3, none⟩) a2 qbs _, a6, a1, a2, a3, by rw [zab]; omega, a5⟩
end
theorem ZBaseCopy0 {p : Prop} (h : p := by
  refine rd0 9 fun K_ hK_ => ?_; refine step_append_lies _ qad _ _ _ qad a 25 i0 _ 2 48 Tryz.underlying34 HI.out HZ.out HSZ.out HYY.out rfl qaa (.slice H zs.length f) zs.length (zea zs) qad (C6.out.gg.K.alloc _) ⟨w6.heap.size, 0, none⟩ 1 1 [.slice A6 ch.1.length c6, .slice B6 ch.2.length d6] qad qad (zbr w6 _ _ _) qal qaa qaf qaa qah (w6.heap.size + 1) qag ?_; intro g9 cap9 w9 hown hgrow hat _; have hne : ∀ b, b < a → (Value.slice H zs.length f).ownBlock ≠ some b := fun b hb e => by have := (C6.out.gg.K.lt b e).1; omega
  have hk9 : ∀ b, b < a → w9.heap[b]? = (w6.alloc (.cells #[.slice A6 ch.1.length c6, .slice B6 ch.2.length d6] 25)).heap[b]? := fun b hb => hgrow.block b qah (fun e => hne b hb e.symm); have f7 := (cb_ (a := ⟨w.heap.size, 3, none⟩) (hk9 w.heap.size qaa)).trans f4; have f8 := (cb_ (a := p.add (i * 2)) (hk9 _ qat)).trans f5; have f9 := (cb_ (a := ⟨(p.add (i * 2)).block, (p.add (i * 2)).off + 1, none⟩) (hk9 _ (by show (p.add (i * 2)).block < a; rw [zah]; omega))).trans f6; have xo9 := (C6.out.xo.alloc (.cells #[.slice A6 ch.1.length c6, .slice B6 ch.2.length d6] 25)).kept hgrow (fun e => hne g n2 e.symm)
  have g3 := xo9.cell 3; have g4 := xo9.frozen 3; have HN := hid (C6.out.more (x := ⟨V2.heap.size, w6.heap.size, [.slice A6 ch.1.length c6, .slice B6 ch.2.length d6], (ch.1, ch.2)⟩) rfl ⟨A6, _, c6, B6, _, d6, rfl, I6.out, J6.out⟩ (nl _) (by show a ≤ V2.heap.size; omega) (fun q hq => .inl (CV.out.gg.K.lt q hq).2) hown hgrow hat); refine hK_.out _ _ ⟨f7, f8, f9⟩ fun hS_ => ?_; clear hK_; refine tk 10 (.pointer (some ⟨g, 3, none⟩)) hS_ ?_; refine rd1 11 fun K_ hK_ => ?_; go_simp; have xb9 := HN.out.xb.cell 3; have hk11 : ∀ b, b ≠ g → (w9.setCell ⟨g, 3, none⟩ (.slice (some ⟨g9, 0, none⟩) (zs.length + 1) cap9)).heap[b]? = w9.heap[b]? := fun b hb => hs_ _ _ _ b hb
  have k8 := (cb_ (a := p.add (i * 2)) (hk11 _ qat)).trans f8; have k9 := (cb_ (a := ⟨(p.add (i * 2)).block, (p.add (i * 2)).off + 1, none⟩) (hk11 _ (by show (p.add (i * 2)).block ≠ g; rw [zah]; omega))).trans f9; refine hK_.out _ _ ⟨xb9, k8, k9⟩ fun hS_ => ?_; clear hK_; refine wpAnyH_done qab ?_ _; have hnext := hid (show (zs ++ [(⟨V2.heap.size, w6.heap.size, [.slice A6 ch.1.length c6, .slice B6 ch.2.length d6], (ch.1, ch.2)⟩ : Ex Ch)]).map (·.x) = hs.take (i + 1) from by rw [List.map_append, HZS.out, List.take_add_one, HGC.out]; rfl); clear hS_ hown hgrow hat hne hk9 hk11 xo9 xb9 k8 k9 f0 f1 f2 f3 f4 f5 f6 f7 f8 f9 g3 g4 e0 e1 e2 e3 hb7
  go_wp2; go_roundw
  case rel => exact ⟨i + 1, _, _, zs ++ [(⟨V2.heap.size, w6.heap.size, [.slice A6 ch.1.length c6, .slice B6 ch.2.length d6], (ch.1, ch.2)⟩ : Ex Ch)], by omega, by go_num, by rw [List.length_append]; exact HN.out, hnext.out⟩
  case measure => exact qms) : p := h
theorem ZBaseCopy1 {p : Prop} (h : p := by
  refine hK_.out _ _ ⟨f0, f1, f2⟩ fun hS_ => ?_; clear hK_; refine rd1 8 fun K_ hK_ => ?_; go_simp; have hb7 := zac w6 (.cells #[.slice A6 ch.1.length c6, .slice B6 ch.2.length d6] 25); have f4 := (hb7.cell (p := ⟨w.heap.size, 3, none⟩) qak).trans f0; have f5 := (hb7.cell (p := p.add (i * 2)) qat).trans f1; have f6 := (hb7.cell (p := ⟨(p.add (i * 2)).block, (p.add (i * 2)).off + 1, none⟩) qcx).trans f2; refine hK_.out _ _ ⟨f4, f5, f6⟩ fun hS_ => ?_; clear hK_; exact ZBaseCopy0) : p := h
theorem l7Copy_any (RA : Option Addr) (rn rc : Nat) (rs : List Rl) (t : Nat) (GA : Option Addr) (gn gc : Nat) (gs : List At) (HA : Option Addr) (hn hc : Nat) (hs : List Ch) (w : World) (h0 : zap w 0 w.heap.size RA rn rc rs) (h1 : IsAtoms w 0 w.heap.size GA gn gc gs) (h2 : zht w 0 w.heap.size HA hn hc hs) (s0 : rn ≤ 1048576) (s1 : ∀ r ∈ rs, zhs r.1.2.length r.2.length r.2) (s2 : zay gn gs) (s3 : ∀ c ∈ hs, zay c.1.length c.1 ∧ zay c.2.length c.2) (s4 : hn ≤ 1000) :
    Calls Tryz.prog 144 #[.agg #[.slice RA rn rc, .int .i64 (t : Int), .slice GA gn gc, .slice HA hn hc]] w fun e w' => ∃ A c lo hi G d lo2 hi2 a H f zs, e = .returned (.agg #[.slice A rs.length c, .int .i64 (t : Int), .slice G gs.length d, .slice H zs.length f]) ∧ (zap w' lo hi A rs.length c rs ∧ w.heap.size ≤ lo ∧ hi ≤ a) ∧ (IsAtoms w' lo2 hi2 G gs.length d gs ∧ w.heap.size ≤ lo2 ∧ hi2 ≤ a) ∧ GR 25 2 ChV w a (.slice H zs.length f) zs w' ∧ zs.map (·.x) = hs ∧ (∀ x ∈ zs, a ≤ x.lo) ∧ a ≤ w'.heap.size := by
  have H0 := hid h0; have H1 := hid h1; have H2 := hid h2; have S1 := hid s1; have S2 := hid s2; have S3 := hid s3; have L0 := hid h0.1; have L1 := hid h1.1; have L2 := hid h2.1; clear h0 h1 h2 s1 s2 s3; obtain ⟨i0, hi, hz, hsz, hby⟩ := zgg Tryz.infoCh; have HI := hid hi; have HZ := hid hz; have HSZ := hid hsz; have HYY := hid hby; clear hi hz hsz hby; have b5 := zbj w (.cells #[.slice RA rn rc, .int .i64 (t : Int), .slice GA gn gc, .slice HA hn hc] 119) (.cells #[.slice none 0 0, .int .i64 0, .slice none 0 0, .slice none 0 0] 119)
  have xa := (Blk.new w 119 #[.slice RA rn rc, .int .i64 (t : Int), .slice GA gn gc, .slice HA hn hc]).alloc (.cells #[.slice none 0 0, .int .i64 0, .slice none 0 0, .slice none 0 0] 119); have xr := Blk.made (b := w.heap.size + 1) (w.alloc (.cells #[.slice RA rn rc, .int .i64 (t : Int), .slice GA gn gc, .slice HA hn hc] 119)) 119 #[.slice none 0 0, .int .i64 0, .slice none 0 0, .slice none 0 0] qag; obtain ⟨w2, b4⟩ : ∃ w2, (w.alloc (.cells #[.slice RA rn rc, .int .i64 (t : Int), .slice GA gn gc, .slice HA hn hc] 119)).alloc (.cells #[.slice none 0 0, .int .i64 0, .slice none 0 0, .slice none 0 0] 119) = w2 := ⟨_, rfl⟩
  rw [b4] at b5 xa xr; have hz2 : w2.heap.size = w.heap.size + 2 := by rw [← b4]; simp
  have g5 := hid b4; clear b4; go_enter Tryz.func144, Tryz.ntmps144; go_wp2_with (rw [g5.out]); obtain ⟨V, hV⟩ : ∃ V, w2.drew = V := ⟨_, rfl⟩; have hVz : w.heap.size + 2 = V.heap.size := by rw [← hV]; exact hz2.symm
  have hVw : Below w.heap.size w V := hV ▸ b5.drew; have b3 : Blk V w.heap.size 119 #[.slice RA rn rc, .int .i64 (t : Int), .slice GA gn gc, .slice HA hn hc] := hV ▸ xa; have xrV : Blk V (w.heap.size + 1) 119 #[.slice none 0 0, .int .i64 0, .slice none 0 0, .slice none 0 0] := hV ▸ xr; have x0 : V.cell? ⟨w.heap.size, 0, none⟩ = some (.slice RA rn rc) := b3.cell 0; have x1 : V.cell? ⟨w.heap.size, 1, none⟩ = some (.int .i64 (t : Int)) := b3.cell 1; have x2 : V.cell? ⟨w.heap.size, 2, none⟩ = some (.slice GA gn gc) := b3.cell 2; have HV0 := hid hV
  clear hV b5 xa xr; refine wp_region_held_drew (S := fun W => W.cell? ⟨w.heap.size, 0, none⟩ = some (.slice RA rn rc) ∧ W.cell? ⟨w.heap.size, 1, none⟩ = some (.int .i64 (t : Int)) ∧ W.cell? ⟨w.heap.size, 2, none⟩ = some (.slice GA gn gc)) qab qdf ?_; rw [HV0.out]; intro hS_; refine tk 0 (.pointer (some ⟨w.heap.size, 0, none⟩)) hS_ ?_; refine tk 1 (.slice RA rn rc) hS_ ?_; refine tk 3 (.pointer (some ⟨w.heap.size, 1, none⟩)) hS_ ?_; refine tk 4 (.int .i64 (t : Int)) hS_ ?_; refine tk 5 (.pointer (some ⟨w.heap.size, 2, none⟩)) hS_ ?_; refine tk 6 (.slice GA gn gc) hS_ ?_; have J0 : KJ V rs gs false false false undef undef undef #[.slice none 0 0, .int .i64 0, .slice none 0 0, .slice none 0 0] V := ⟨fun e => qar, fun e => qar, fun e => qar, fun _ => rfl, fun _ => rfl, fun _ => rfl, Below.refl _ _⟩
  have bel : ∀ W, Below V.heap.size V W → Below w.heap.size w W := fun W hb => hVw.trans (hb.mono qaa); have HVS := hid hS_; clear hS_ x0 x1 x2; refine zem (I := fun (L : Array Bool) (a : Act) (W : World) => ∃ (c1 c2 fa fb fs : Bool) (x7 a3 x3 a4 : Value) (arr : Array Value), L = #[true, true, c1, true, true, true, true, c2, fb, fa, fs] ∧ a = ⟨#[.agg #[.slice RA rn rc, .int .i64 (t : Int), .slice GA gn gc, .slice HA hn hc], .pointer (some ⟨w.heap.size, 0, none⟩), .pointer (some ⟨w.heap.size + 1, 0, none⟩), x3, undef, .pointer (some ⟨w.heap.size, 0, none⟩), .slice RA rn rc, x7, .pointer (some ⟨w.heap.size, 1, none⟩), .int .i64 (t : Int), .pointer (some ⟨w.heap.size, 2, none⟩), .slice GA gn gc, a3, a4, undef, undef, undef, undef, undef, undef, undef, undef, undef, undef, undef, undef, undef, undef, undef, undef, undef, undef, undef], []⟩ ∧ (fb = true → a4 = .agg #[x7, .int .i64 (t : Int), a3, .slice none 0 0] ∧ c1 = true ∧ c2 = true) ∧ (fs = true → fb = true ∧ fa = true) ∧ arr = (if fs = true then #[x7, .int .i64 (t : Int), a3, .slice none 0 0] else #[.slice none 0 0, .int .i64 0, .slice none 0 0, .slice none 0 0]) ∧ KJ V rs gs c1 c2 fa x7 a3 x3 arr W) ?keep ?step ?fin _ _ _ _ ?lf ⟨false, false, false, false, false, undef, undef, undef, undef, _, rfl, rfl, fun e => qar, fun e => qar, rfl, J0⟩
  case lf => decide
  case keep =>
    rintro L a W ⟨c1, c2, fa, fb, fs, x7, a3, x3, a4, arr, -, -, -, -, -, J⟩; exact ⟨(J.gr.cell (p := ⟨w.heap.size, 0, none⟩) qak).trans HVS.out.1, (J.gr.cell (p := ⟨w.heap.size, 1, none⟩) qak).trans HVS.out.2.1, (J.gr.cell (p := ⟨w.heap.size, 2, none⟩) qak).trans HVS.out.2.2⟩
  case step =>
    rintro L a W i o ⟨c1, c2, fa, fb, fs, x7, a3, x3, a4, arr, rfl, rfl, eb, es, rfl, J⟩ ho h0 hd K hK; have g0 : i < 11 := qbt; have g8 : i = 0 ∨ i = 1 ∨ i = 2 ∨ i = 3 ∨ i = 4 ∨ i = 5 ∨ i = 6 ∨ i = 7 ∨ i = 8 ∨ i = 9 ∨ i = 10 := qaa; have c0 : fb = false → fs = false := fun e => by cases fs with | false => rfl | true => have := (es rfl).1; rw [e] at this; cases this
    have g2 : fa = false → fs = false := fun e => by cases fs with | false => rfl | true => have := (es rfl).2; rw [e] at this; cases this
    have hbW := bel _ J.gr; have hszW := hbW.size; rcases g8 with rfl | rfl | rfl | rfl | rfl | rfl | rfl | rfl | rfl | rfl | rfl
    all_goals (injection ho with ho; subst ho)
    · simp at h0
    · simp at h0
    · have hf : c1 = false := qbg
      subst hf
      have a7 : fb = false := by
        cases fb with
        | false => rfl
        | true => have := (eb rfl).2.1; cases this
      have a6 := c0 a7; subst a7; subst a6; have J := (show KJ V rs gs _ _ _ _ _ _ #[.slice none 0 0, .int .i64 0, .slice none 0 0, .slice none 0 0] W from J); rw [if_pos qad]; go_simp; go_at_call 134; refine (zor RA rn rc rs W ((H0.out.below RuleE.stays hbW (nl _)).keep RuleE.stays (fun _ _ _ => rfl) (nl _) hszW) s0 S1.out).mono ?_; rintro e1 w9 ⟨A9, c9, rs9, rfl, h9, hm9, hb9⟩; have hJ := J.below hb9; have hat : zap w9 W.heap.size w9.heap.size A9 rs.length c9 rs := by have := h9.rules; rw [hm9] at this; exact this
      exact hK.out _ _ ⟨true, c2, fa, false, false, _, a3, x3, a4, _, rfl, rfl, fun e => qar, fun e => qar, rfl, ⟨fun _ => ⟨A9, c9, _, _, rfl, hat, J.gr.size, nl _, fun g e => .inl (J.before g e)⟩, hJ.s, hJ.a, fun e => qar, hJ.z2, hJ.z3, hJ.gr⟩⟩
    · simp at h0
    · simp at h0
    · simp at h0
    · simp at h0
    · have hf : c2 = false := qbg
      subst hf
      have a7 : fb = false := by
        cases fb with
        | false => rfl
        | true => have := (eb rfl).2.2; cases this
      have a6 := c0 a7; subst a7; subst a6; have J := (show KJ V rs gs _ _ _ _ _ _ #[.slice none 0 0, .int .i64 0, .slice none 0 0, .slice none 0 0] W from J); rw [if_pos qad]; go_simp; go_at_call 141; refine (zcz GA gn gc gs W ((H1.out.below AtomE.stays hbW (nl _)).keep AtomE.stays (fun _ _ _ => rfl) (nl _) hszW) S2.out).mono ?_; rintro e1 w9 ⟨A9, c9, rs9, rfl, h9, hm9, hb9⟩; have hJ := J.below hb9; have hat := zcd h9 hm9; exact hK.out _ _ ⟨c1, true, fa, false, false, x7, _, x3, a4, _, rfl, rfl, fun e => qar, fun e => qar, rfl, ⟨hJ.r, fun _ => ⟨A9, c9, _, _, rfl, hat, J.gr.size, nl _, fun g e => .inl (J.before g e)⟩, hJ.a, hJ.z1, fun e => qar, hJ.z3, hJ.gr⟩⟩
    · have d0 := hd ⟨2, .data⟩ qag rfl
      have d1 := hd ⟨7, .data⟩ qag rfl; have hc1 : c1 = true := by simpa using d0
      have a8 : c2 = true := qdu; have hf : fb = false := qbg; have a6 := c0 hf; subst hc1; subst a8; subst hf; subst a6; obtain ⟨A9, c9, _, _, q1, -⟩ := J.r rfl; obtain ⟨G9, d9, _, _, q2, -⟩ := J.s rfl; subst q1; subst q2; clear hd h0; rw [if_pos qad]; go_simp; exact hK.out _ _ ⟨true, true, fa, true, false, _, _, x3, _, _, rfl, rfl, fun _ => ⟨rfl, rfl, rfl⟩, fun e => qar, rfl, J⟩
    · have hf : fa = false := qbg
      subst hf; have a6 := g2 rfl; subst a6; have J := (show KJ V rs gs _ _ _ _ _ _ #[.slice none 0 0, .int .i64 0, .slice none 0 0, .slice none 0 0] W from J); rw [if_pos qad]; go_simp; exact hK.out _ _ ⟨c1, c2, true, fb, false, x7, a3, _, a4, _, rfl, rfl, eb, fun e => qar, rfl, J.made⟩
    · have d0 := hd ⟨8, .data⟩ qag rfl
      have d1 := hd ⟨9, .data⟩ qag rfl; have b6 : fb = true := by simpa using d0
      have ha : fa = true := qdu; have hf : fs = false := qbg; subst b6; subst ha; subst hf; obtain ⟨hx, hc1, a8⟩ := eb rfl; subst hx; subst hc1; subst a8; obtain ⟨A9, c9, _, _, q1, -⟩ := J.r rfl; obtain ⟨G9, d9, _, _, q2, -⟩ := J.s rfl; obtain ⟨g9, q3, hg9, xo⟩ := J.a rfl; subst q1; subst q2; subst q3; clear hd h0; have J := (show KJ V rs gs true true true _ _ _ #[.slice none 0 0, .int .i64 0, .slice none 0 0, .slice none 0 0] W from J); have xo := (show Blk W g9 119 #[.slice none 0 0, .int .i64 0, .slice none 0 0, .slice none 0 0] from xo); have r0 := xo.cell 0; have r1 := xo.cell 1; have r2 := xo.cell 2; have r3 := xo.cell 3; have r4 := xo.frozen 0; have r5 := xo.frozen 1; have r6 := xo.frozen 2; have r7 := xo.frozen 3
      rw [if_pos qad]; go_simp; exact hK.out _ _ ⟨true, true, true, true, true, _, _, _, _, _, rfl, rfl, fun _ => ⟨rfl, rfl, rfl⟩, fun _ => ⟨rfl, rfl⟩, rfl, J.put _ _⟩
  case fin =>
    rintro L a W ⟨c1, c2, fa, fb, fs, x7, a3, x3, a4, arr, rfl, rfl, eb, es, rfl, J⟩ hr; have up := all_up qab rfl hr; have hl : fs = true := up 10 qan; subst hl; obtain ⟨b6, ha⟩ := es rfl; subst b6; subst ha; obtain ⟨hx, hc1, a8⟩ := eb rfl; subst hx; subst hc1; subst a8; obtain ⟨A, c, lo, hi, q1, i1, i2, i3, i4⟩ := J.r rfl; obtain ⟨G, d, lo2, hi2, q2, j1, j2, j3, j4⟩ := J.s rfl; obtain ⟨g, q3, hg, xo⟩ := J.a rfl; subst q1; subst q2; subst q3; have xo := (show Blk W g 119 #[.slice A rs.length c, .int .i64 (t : Int), .slice G gs.length d, .slice none 0 0] from xo); have C0 := hid (show CB w #[.slice RA rn rc, .int .i64 (t : Int), .slice GA gn gc, .slice HA hn hc] g W.heap.size lo hi lo2 hi2 A c rs t G d gs (.slice none 0 0) [] W from ⟨b3.below J.gr, xrV.below J.gr, xo, i1, j1, GR.start _ ⟨rfl, .inl ⟨rfl, rfl⟩⟩ (bel _ J.gr).size (bel _ J.gr), fun x hx => by simp at hx, by omega, xo.lt, ⟨i4 g rfl, j4 g rfl⟩, ⟨i3, j3, nl _⟩, by omega⟩)
    have HW := hid (bel _ J.gr); obtain ⟨a, ha⟩ : ∃ a, W.heap.size = a := ⟨_, rfl⟩; rw [ha] at C0; have y3 := C0.out.xb.cell 3; clear J up hr i1 i2 i3 i4 j1 j2 j3 j4 xo eb es hg ha HVS J0 bel; go_wp2; go_loopw [4] (fun x wr => ∃ (i : Nat) (H : Option Addr) (f : Nat) (zs : List (Ex Ch)), i ≤ hn ∧ x = .int .i64 (i : Int) ∧ CB w #[.slice RA rn rc, .int .i64 (t : Int), .slice GA gn gc, .slice HA hn hc] g a lo hi lo2 hi2 A c rs t G d gs (.slice H zs.length f) zs wr ∧ zs.map (·.x) = hs.take i) (fun x _ => hn - (intOf x).toNat)
    case atStart => exact ⟨0, none, 0, [], Nat.zero_le _, rfl, C0.out, by simp⟩
    case round =>
      clear C0 y3; obtain ⟨i, H, f, zs, hi_, rfl, hS, a9⟩ := hrel; have HS := hid hS; have HZS := hid a9; have y3 : wr.cell? ⟨w.heap.size, 3, none⟩ = some (.slice HA hn hc) := hS.xb.cell 3; have hzl : zs.length ≤ hn := by have := congrArg List.length a9; rw [List.length_map, List.length_take, L2.out] at this; omega
      by_cases hlt : i < hn
      · have g6 : (i : Int) < (hn : Int) := qaa
        obtain ⟨p, ch, hA, g1, d7, b9, hE⟩ := (H2.out.below ChE.stays hS.gg.gr (nl _)).at_ hlt; obtain ⟨A5, n5, c5, B5, m5, d5, d1, d2, d3, d4⟩ := hE.out; subst hA; have hpb : p.block < w.heap.size := d7; obtain ⟨q1, q2⟩ := S3.out ch (List.mem_of_getElem? b9); have c3 : ch.1.length = n5 := d2.1; have e6 : ch.2.length = m5 := d4.1; rw [c3] at q1; rw [e6] at q2; have Q1 := hid q1; have Q2 := hid q2; have HGC := hid b9; have D2 := hid d2; have D4 := hid d4; obtain ⟨V2, a5⟩ : ∃ V2, wr.drew = V2 := ⟨_, rfl⟩; have e8 : wr.heap.size = V2.heap.size := by rw [← a5]; rfl
        have CV := hid (show CB w #[.slice RA rn rc, .int .i64 (t : Int), .slice GA gn gc, .slice (some p) hn hc] g a lo hi lo2 hi2 A c rs t G d gs (.slice H zs.length f) zs V2 from a5 ▸ hS.below (Below.refl _ _).drew); have e0 : V2.cell? ⟨w.heap.size, 3, none⟩ = some (.slice (some p) hn hc) := CV.out.xb.cell 3; have e1 : V2.cell? (p.add (i * 2)) = some (.slice A5 n5 c5) := a5 ▸ d1; have e2 : V2.cell? ⟨(p.add (i * 2)).block, (p.add (i * 2)).off + 1, none⟩ = some (.slice B5 m5 d5) := a5 ▸ d3; have e3 : V2.cell? ⟨g, 3, none⟩ = some (.slice H zs.length f) := CV.out.xo.cell 3; have e7 : w.heap.size ≤ V2.heap.size := CV.out.gg.gr.size
        have M1 := hid (show IsAtoms V2 0 V2.heap.size A5 n5 c5 ch.1 from d2.keep AtomE.stays (fun q h1 h2 => by rw [← a5]; rfl) (nl _) e7); have M2 := hid (show IsAtoms V2 0 V2.heap.size B5 m5 d5 ch.2 from d4.keep AtomE.stays (fun q h1 h2 => by rw [← a5]; rfl) (nl _) e7); have c7 := hid a5; have n1 := CV.out.n1; have n2 := CV.out.n2; have n4 := CV.out.n4; clear hE b9 g1 d7 d2 d4 q1 q2 hS a9 a5 c3 e6; go_wp2_with fail; clear y3 d1 d3; refine wp_region_held_drew (S := fun W => W.cell? ⟨w.heap.size, 3, none⟩ = some (.slice (some p) hn hc) ∧ W.cell? (p.add (i * 2)) = some (.slice A5 n5 c5) ∧ W.cell? ⟨(p.add (i * 2)).block, (p.add (i * 2)).off + 1, none⟩ = some (.slice B5 m5 d5)) qab (by rw [c7.out]; exact ⟨e0, e1, e2⟩) ?_
        rw [c7.out]; intro hS_; refine tk 0 (.pointer (some ⟨g, 3, none⟩)) hS_ ?_; refine tk 2 (.pointer (some ⟨w.heap.size, 3, none⟩)) hS_ ?_; refine tk 3 (.slice (some p) hn hc) hS_ ?_; refine tk 4 (.int .i64 (i : Int)) hS_ ?_; refine tk 5 (.pointer (some (p.add (i * 2)))) hS_ ?_; refine tk 6 (.agg #[.slice A5 n5 c5, .slice B5 m5 d5]) hS_ ?_; refine rd2 1 7 (fun K_ hK_ => ?_) fun K_ hK_ => ?_
        · rw [if_pos qad]
          go_simp; refine hK_.out _ _ ⟨e0, e1, e2⟩ fun hS_ => ?_; clear hK_; refine rd1 7 fun K_ hK_ => ?_; go_simp; go_at_call 139; refine (zcy A5 n5 c5 ch.1 B5 m5 d5 ch.2 V2 M1.out M2.out Q1.out Q2.out).mono ?_; rintro e9 w6 ⟨A6, c6, B6, d6, rfl, i6, j6, a2⟩; have C6 := hid (CV.out.below a2); have hz6 := a2.size; have I6 := hid i6; have J6 := hid j6; have f0 : w6.cell? ⟨w.heap.size, 3, none⟩ = some (.slice (some p) hn hc) := C6.out.xb.cell 3; have f1 := (a2.cell (p := p.add (i * 2)) qat).trans e1; have f2 := (a2.cell (p := ⟨(p.add (i * 2)).block, (p.add (i * 2)).off + 1, none⟩) qcx).trans e2
          have f3 : w6.cell? ⟨g, 3, none⟩ = some (.slice H zs.length f) := C6.out.xo.cell 3; clear i6 j6 a2; exact ZBaseCopy1
        · rw [if_pos qad]
          go_simp; go_at_call 139; refine (zcy A5 n5 c5 ch.1 B5 m5 d5 ch.2 V2 M1.out M2.out Q1.out Q2.out).mono ?_; rintro e9 w6 ⟨A6, c6, B6, d6, rfl, i6, j6, a2⟩; have C6 := hid (CV.out.below a2); have hz6 := a2.size; have I6 := hid i6; have J6 := hid j6; have f0 : w6.cell? ⟨w.heap.size, 3, none⟩ = some (.slice (some p) hn hc) := C6.out.xb.cell 3; have f1 := (a2.cell (p := p.add (i * 2)) qat).trans e1; have f2 := (a2.cell (p := ⟨(p.add (i * 2)).block, (p.add (i * 2)).off + 1, none⟩) qcx).trans e2; have f3 : w6.cell? ⟨g, 3, none⟩ = some (.slice H zs.length f) := C6.out.xo.cell 3
          clear i6 j6 a2; refine hK_.out _ _ ⟨f0, f1, f2⟩ fun hS_ => ?_; clear hK_; refine rd2 1 8 (fun K_ hK_ => ?_) fun K_ hK_ => ?_
          · rw [if_pos qad]
            go_simp; exact ZBaseCopy1
          · rw [if_pos qad]
            go_simp; have hb7 := zac w6 (.cells #[.slice A6 ch.1.length c6, .slice B6 ch.2.length d6] 25); have f4 := (hb7.cell (p := ⟨w.heap.size, 3, none⟩) qak).trans f0; have f5 := (hb7.cell (p := p.add (i * 2)) qat).trans f1; have f6 := (hb7.cell (p := ⟨(p.add (i * 2)).block, (p.add (i * 2)).off + 1, none⟩) qcx).trans f2; refine hK_.out _ _ ⟨f4, f5, f6⟩ fun hS_ => ?_; clear hK_; have g7 := (hb7.cell (p := ⟨g, 3, none⟩) (by show g < _; omega)).trans f3; refine rd1 1 fun K_ hK_ => ?_; go_simp; refine hK_.out _ _ ⟨f4, f5, f6⟩ fun hS_ => ?_; clear hK_; clear g7; exact ZBaseCopy0
      · have b7 := hid (show zs.map (·.x) = hs from by rw [a9, List.take_of_length_le (by rw [L2.out]; omega)])
        have u0 := hS.xo.cell 0; have u1 := hS.xo.cell 1; have u2 := hS.xo.cell 2; have u3 := hS.xo.cell 3; have v0 := hS.xr.cell 0; have v1 := hS.xr.cell 1; have v2 := hS.xr.cell 2; have v3 := hS.xr.cell 3; have v4 := hS.xr.frozen 0; have v5 := hS.xr.frozen 1; have v6 := hS.xr.frozen 2; have v7 := hS.xr.frozen 3; clear hS a9; go_wp2; have hS := HS.out; have n1 := hS.n1; have n2 := hS.n2; have n3 := hS.n3; have n4 := hS.n4; have n5 := hS.n5; have hk : ∀ b, b ≠ w.heap.size + 1 → ((((wr.setCell ⟨w.heap.size + 1, 0, none⟩ (.slice A rs.length c)).setCell ⟨w.heap.size + 1, 1, none⟩ (.int .i64 (t : Int))).setCell ⟨w.heap.size + 1, 2, none⟩ (.slice G gs.length d)).setCell ⟨w.heap.size + 1, 3, none⟩ (.slice H zs.length f)).heap[b]? = wr.heap[b]? := fun b hb => (hs_ _ _ _ b hb).trans ((hs_ _ _ _ b hb).trans ((hs_ _ _ _ b hb).trans (hs_ _ _ _ b hb)))
        refine bodyPost_ret (v := .agg #[.slice A rs.length c, .int .i64 (t : Int), .slice G gs.length d, .slice H zs.length f]) (by simp [results, Tryz.results144, go_sem, v0, v1, v2, v3]) rfl ⟨A, c, lo, hi, G, d, lo2, hi2, a, H, f, zs, rfl, ⟨hS.ru.keep RuleE.stays (fun q h1 h2 => cb_ (hk _ qaa)) (nl _) (nl _), by omega, n4.1⟩, ⟨hS.fa.keep AtomE.stays (fun q h1 h2 => cb_ (hk _ qaa)) (nl _) (nl _), by omega, n4.2.1⟩, (((hS.gg.store ChV.keep hS.lw (p := ⟨w.heap.size + 1, 0, none⟩) qej (Nat.le_succ _) _).store ChV.keep hS.lw (p := ⟨w.heap.size + 1, 1, none⟩) qej (Nat.le_succ _) _).store ChV.keep hS.lw (p := ⟨w.heap.size + 1, 2, none⟩) qej (Nat.le_succ _) _).store ChV.keep hS.lw (p := ⟨w.heap.size + 1, 3, none⟩) qej (Nat.le_succ _) _, b7.out, hS.lw, by rw [zab, zab, zab, zab]; exact n4.2.2⟩
end Go.Proofs.YtogonjkklioaaaaGreatDoor
