/-
  Texts of one claim, put together.
-/
import Derived.Test.YtogonjkklioaaaaGreatDoorZq
import Derived.Test.YtogonjkklioaaaaGreatDoorLt30
import Derived.RangeFuncBound
import Derived.RangeFuncLeaves
import Derived.Test.YtogonjkklioaaaaGreatDoorLt21
import Derived.Test.YtogonjkklioaaaaGreatDoorLt2
import Derived.Test.YtogonjkklioaaaaGreatDoorLt1
import Derived.Deep.RegionWith
import Derived.Test.YtogonjkklioaaaaGreatDoorLt6
import Derived.Test.YtogonjkklioaaaaGreatDoorLt43
set_option maxRecDepth 100000
set_option maxHeartbeats 8000000
namespace Go.Proofs.YtogonjkklioaaaaGreatDoor
open Go.RowKit Go.Shelf
attribute [local go_sem] Oper.semAt_some
theorem Tryz.infoCh : (Tryz.prog.info? 25).map (fun i => (i.zero, i.size, i.bytes)) = some (some (.agg #[.slice none 0 0, .slice none 0 0]), 2, 48) := by kernel_rfl
theorem zge {P : Program} {t : TypeId} {z : Value} {a b : Nat} (h : (P.info? t).map (fun i => (i.zero, i.size, i.bytes)) = some (some z, a, b)) : ∃ i, P.info? t = some i ∧ i.zero = some z ∧ i.size = a ∧ i.bytes = b := by
  cases hi : P.info? t with
  | none => rw [hi] at h; cases h
  | some i =>
    rw [hi] at h; simp only [Option.map_some, Option.some.injEq, Prod.mk.injEq] at h; exact ⟨i, rfl, h.1, h.2.1, h.2.2⟩
def LogR (l : List UInt8) (cs : List Ch) (n : Nat) : Prop := (l.length ≤ 400000 ∧ LogOf l cs ∧ n = (zcr 0 cs).length) ∨ (400000 < l.length ∧ cs = [] ∧ n = 0)
theorem LogR.uniq {l : List UInt8} {cs ds : List Ch} {n m : Nat} (h : LogR l cs n) (h' : LogR l ds m) : cs = ds ∧ n = m := by
  rcases h with ⟨h1, h2, h3⟩ | ⟨h1, h2, h3⟩
  · rcases h' with ⟨_, k2, k3⟩ | ⟨k1, _, _⟩
    · have e := h2.uniq k2
      exact ⟨e, by rw [h3, k3, e]⟩
    · omega
  · rcases h' with ⟨k1, _, _⟩ | ⟨_, k2, k3⟩
    · omega
    · exact ⟨h2.trans k2.symm, h3.trans k3.symm⟩
theorem LogOf.few {l : List UInt8} {cs : List Ch} (h : LogOf l cs) (hl : l.length ≤ 400000) : cs.length ≤ 100000 := by
  have h1 := zmv 0 cs; have h2 := h.tx.length_le; omega
theorem LogR.few {l : List UInt8} {cs : List Ch} {n : Nat} (h : LogR l cs n) : cs.length ≤ 100000 := by
  rcases h with ⟨h1, h2, _⟩ | ⟨_, h2, _⟩
  · exact h2.few h1
  · rw [h2]; simp
def LogIPost (l : List UInt8) (w : World) (e : Ending) (w' : World) : Prop :=
  ∃ (A : Option Addr) (c : Nat) (xs : List Cf) (n lo : Nat), e = .returned (.tuple #[.slice A xs.length c, .int .i64 (n : Int)]) ∧ w'.ownsRow lo 25 2 (.slice A xs.length c) xs.length (zef xs) ∧
    OwnCs w' lo w'.heap.size (Value.slice A xs.length c).ownBlock xs ∧ (w.heap.size ≤ lo ∧ lo ≤ w'.heap.size) ∧ Below w.heap.size w w' ∧ LogR l (xs.map cfAt) n
theorem recordsOf_any (R : Nat) (w : World) :
    Calls Tryz.prog 42 #[.pointer (some ⟨R, 0, none⟩)] w fun e w' => e = .returned (.func (.func 73) #[] #[.pointer (some ⟨w.heap.size, 0, none⟩)]) ∧ Blk w' w.heap.size 58 #[.pointer (some ⟨R, 0, none⟩)] ∧ Below w.heap.size w w' ∧ w'.heap.size = w.heap.size + 1 := by
  have h0 := hid (Blk.new w 58 #[.pointer (some ⟨R, 0, none⟩)]); have hb := hid (zac w (.cells #[.pointer (some ⟨R, 0, none⟩)] 58)); go_enter Tryz.func42, Tryz.ntmps42; go_wp2; go_ret; exact ⟨rfl, h0.out, hb.out, by simp⟩
theorem records_stops (n : Nat) (hn : 1 ≤ n) (rb R n₀ : Nat) (s : ByteArray) (W : World) (hs : s.size ≤ 400000) (hb : Blk W rb 58 #[.pointer (some ⟨R, 0, none⟩)]) (hr : Rdr W R s 0) (hne : rb ≠ R) (hnR : n₀ ≤ R) (hn0 : n₀ ≤ W.heap.size)
    (hE : ∀ W', W'.heap.size ≥ n₀ → (∀ k, k < n₀ → W'.heap[k]? = W.heap[k]?) → EofIn W') (hM : ∀ W', W'.heap.size ≥ n₀ → (∀ k, k < n₀ → W'.heap[k]? = W.heap[k]?) → MaxIn W') (hP : ∀ W', W'.heap.size ≥ n₀ → (∀ k, k < n₀ → W'.heap[k]? = W.heap[k]?) → PowTab W') (hR1 : 0 ≠ R) (hR2 : 1 ≠ R) :
    SeqT Fence.wide n Tryz.prog 73 #[.pointer (some ⟨rb, 0, none⟩)] rxE (fun _ X Y => X.grownBy Y (some R)) (KeepsTwo n₀ rb R) RecPre (fun xs _ _ => LogOf s.data.toList (rxC xs)) (fun _ _ _ => True) W :=
  fun l J Jx W' hW hY h0 => by
    have hlow : ∀ k, k < n₀ → W'.heap[k]? = W.heap[k]? := fun k hk => hW.block k qaa; have hz := hW.size
    exact records1_in n hn l rb R n₀ s J Jx W' hY hs (hb.below hW) (hr.below hW) hne hnR qaa h0
      (fun V h1 h2 => hE V h1 (fun k hk => (h2 k hk).trans (hlow k hk))) (fun V h1 h2 => hM V h1 (fun k hk => (h2 k hk).trans (hlow k hk))) (fun V h1 h2 => hP V h1 (fun k hk => (h2 k hk).trans (hlow k hk))) hR1 hR2
theorem eof_low {w W : World} (h : EofIn w) (hk : ∀ k, k < w.heap.size → W.heap[k]? = w.heap[k]?) : EofIn W := by
  obtain ⟨t, u, hm⟩ := h; exact ⟨t, u, (cb_ (hk _ (World.block_lt_of_cell? _ _ hm))).trans hm⟩
theorem max_low {w W : World} (h : MaxIn w) (hk : ∀ k, k < w.heap.size → W.heap[k]? = w.heap[k]?) : MaxIn W := by
  obtain ⟨m, hm⟩ := h; exact ⟨m, (cb_ (hk _ (World.block_lt_of_cell? _ _ hm))).trans hm⟩
theorem pow_low {w W : World} (h : PowTab w) (hz : w.heap.size ≤ W.heap.size) (hk : ∀ k, k < w.heap.size → W.heap[k]? = w.heap[k]?) : PowTab W := by
  have hb : Below w.heap.size w { W with os := w.os, tape := w.tape, output := w.output } := ⟨rfl, rfl, rfl, hz, hk⟩; have := h.below hb; exact this
def LogI (w : World) (cb sb lo : Nat) (pre : List Rx) (W : World) : Prop := ∃ v hi, LG w cb sb lo hi v (zcr 0 (rxC pre)).length (pre.map (·.1)) W
def LogA (w : World) (cb sb lo : Nat) (tm : Nat → Rx → Array Value) (pre : List Rx) (x : Rx) (a' : Act) (W : World) : Prop :=
  ∃ v hi Bx, LG w cb sb lo hi v (zcr 0 (rxC pre)).length (pre.map (·.1)) W ∧ (hi ≤ x.1.lo ∧ x.1.hi ≤ Bx ∧ lo ≤ Bx) ∧ OwnCf W x.1 ∧ Blk W Bx 25 #[cfV x.1, cfU x.1] ∧ a' = { tmps := tm Bx x, defers := [] } ∧ pre.length ≤ 100000 ∧ x.2 = (zcr 0 (rxC (pre ++ [x]))).length ∧ x.2 ≤ 1048576
theorem zff (s : ByteArray) (w : World) (hs : s.size ≤ 1048576) (hm : MaxIn w) (hE : EofIn w) (hP : PowTab w) :
    Calls Tryz.prog 16 #[.string s] w (LogIPost s.data.toList w) := by
  obtain ⟨i0, hi, hz, hsz, hby⟩ := zge Tryz.infoCh; have HI := hid hi; have HZ := hid hz; have HSZ := hid hsz; have HYY := hid hby; clear hi hz hsz hby; have e7 := World.block_lt_of_cell? _ _ hm.choose_spec; have c4 := World.block_lt_of_cell? _ _ hE.choose_spec.choose_spec; have h6 : 0 ≠ w.heap.size + 2 := by have : 0 < w.heap.size := c4; omega
  have g7 : 1 ≠ w.heap.size + 2 := by have : 1 < w.heap.size := e7; omega
  have hmx : Tryz.prog.follows .mixedOrders = true := qab; have hll : s.data.toList.length = s.size := qag; clear e7 c4; refine (callsIn_wide (n := 5)).1 ?_; refine callsIn_of_wp_marks Tryz.func16 rfl trivial ?_ rfl; simp only [Tryz.ntmps16, List.size_toArray, List.length_cons, List.length_nil, Nat.reduceAdd, Nat.reduceSub, Array.replicate_succ, Array.replicate_zero, List.push_toArray, List.append_toArray, List.nil_append, List.cons_append]; by_cases hbig : 400000 < s.size
  · have e8 : (400000 : Int) < (s.size : Int) := qaa
    gi_wp2; refine ⟨.tuple #[.slice none 0 0, .int .i64 0], ?_, none, 0, [], 0, w.heap.size, rfl, ⟨rfl, .inl ⟨rfl, rfl⟩⟩, OwnCs.nil, ⟨nl _, nl _⟩, Below.refl _ _, .inr ⟨by omega, rfl, rfl⟩⟩; simp [results, Tryz.f16, go_sem]
  · have e8 : ¬ (400000 : Int) < (s.size : Int) := qaa
    have d7 := zbj w (.cells #[.slice none 0 0] 34) (.cells #[.int .i64 0] 3); have C0 := (Blk.new w 34 #[.slice none 0 0]).alloc (.cells #[.int .i64 0] 3); have Z0 := Blk.made (w.alloc (.cells #[.slice none 0 0] 34)) (b := w.heap.size + 1) 3 #[.int .i64 0] qag; have c3 : ((w.alloc (.cells #[.slice none 0 0] 34)).alloc (.cells #[.int .i64 0] 3)).heap.size = w.heap.size + 2 := qag; gi_wp2_with (refine ⟨trivial, ?_⟩; gi_at_call 30; refine (callsIn_wide.2 (zjq s _)).mono ?_; rintro e W1 ⟨rfl, b4, hb1, a5⟩)
    rw [c3] at b4 a5; have C1 := hid (C0.below hb1); have Z1 := hid (Z0.below hb1); have e6 := hid b4; have HB1 := hid (zaa d7 hb1); clear d7 C0 Z0 b4 hb1 c3; gi_wp2_with (refine ⟨trivial, ?_⟩; gi_at_call 42; refine (callsIn_wide.2 (recordsOf_any (w.heap.size + 2) W1)).mono ?_; rintro e W2 ⟨rfl, a8, hb2, hz2⟩); have C2 := hid (C1.out.below hb2); have Z2 := hid (Z1.out.below hb2); have g0 := hid (e6.out.below hb2); have HB2 := hid (zaa HB1.out hb2); have g2 := hid a8; clear C1 Z1 e6 HB1 a8 hb2; have g1 : W2.heap.size ≤ W1.heap.size + 1 := qaa; have g5 : W1.heap.size + 1 ≤ W2.heap.size := qaa
    clear hz2; have g6 : Rdr W2 (w.heap.size + 2) s 0 := g0.out; have hz1 : w.heap.size + 3 ≤ W1.heap.size := a5; have b7 : ∀ V : World, V.heap.size ≥ w.heap.size → (∀ k, k < w.heap.size → V.heap[k]? = W2.heap[k]?) → ∀ k, k < w.heap.size → V.heap[k]? = w.heap[k]? := fun V _ h2 k hk => (h2 k hk).trans (HB2.out.block k hk); have g8 := hid (records_stops (5 - 1) qaa W1.heap.size (w.heap.size + 2) w.heap.size s W2 qaa g2.out g6 qaa qaa qaa (fun V h1 h2 => eof_low hE (b7 V h1 h2)) (fun V h1 h2 => max_low hm (b7 V h1 h2)) (fun V h1 h2 => pow_low hP h1 (b7 V h1 h2)) h6 g7)
    refine wpIn_rangeT rfl qaa (gf := 73) (lb := #[.pointer (some ⟨W1.heap.size, 0, none⟩)]) rfl trivial (enters_of Tryz.func73 qab rfl) g8.out
      KeepsTwo.trans (fun W r r' hl => ⟨belowK_b (w := W2) qaa W _ _ _ qaa hl rfl rfl, World.putObj_heap_other qaa, World.putObj_heap_other qaa⟩) (Below.refl _ _) (fun _ => rfl)
      (fun B X Y hB hT k h1 h2 ho => hT.block k (Array.getElem?_eq_some_iff.1 ho.choose_spec.1).1 qao)
      (LogI w w.heap.size (w.heap.size + 1) (W2.heap.size + 2)) (fun _ _ _ => False)
      (fun pre W r o' hI hl => by obtain ⟨v, hi, h⟩ := hI; exact ⟨v, hi, h.book hl qaa qaa⟩)
      (fun _ _ W r o' h _ => h.elim)
      (fun V hV hVz => ⟨.slice none 0 0, W2.heap.size + 2, C2.out.below hV, Z2.out.below hV, ⟨rfl, .inl ⟨rfl, rfl⟩⟩, OwnCs.nil, nl _, Nat.lt_succ_self _, by omega, nl _, by omega, fun g e => by simp [Value.ownBlock] at e, HB2.out.trans (hV.mono HB2.out.size)⟩)
      (LogA w w.heap.size (w.heap.size + 1) (W2.heap.size + 2) (fun Bx x => #[.string s, undef, .slice none 0 0, .int .i64 0, .pointer (some ⟨w.heap.size, 0, none⟩), .pointer (some ⟨w.heap.size + 1, 0, none⟩), .pointer (some ⟨Bx, 0, none⟩), .int .i64 ((x.2 : Nat) : Int), .string s, .int .i64 (s.size : Int), .bool false, .string s, .pointer (some ⟨w.heap.size + 2, 0, none⟩), .func (.func 73) #[] #[.pointer (some ⟨W1.heap.size, 0, none⟩)], .agg #[cfV x.1, cfU x.1], .int .i64 ((x.2 : Nat) : Int), undef, undef, undef, undef, undef, undef, undef]))
      (fun pre x a' W r o' hA hl => by
        obtain ⟨v, hi, Bx, h1, h2, h3, h4, h5⟩ := hA; have b5 := h1.h1; exact ⟨v, hi, Bx, h1.book hl qaa qaa, h2, h3.keep (fun b b1 b2 => World.putObj_heap_other qaa), (World.putObj_heap_other qaa).trans h4, h5⟩)
      ?assign ?body ?done ?stop
    case assign =>
      rintro B pre x X0 X1 K hB ⟨v, hi, a2⟩ hT ⟨p1, p2, p3, p4, p5, p6, p7⟩ hK; have P6 := hid p6; clear p6; unfold rxE cfV cfU; gi_wp2; have a3 := a2.step hT qaa qaa qaa qaa; have b6 := zac X1 (.cells #[cfV x.1, cfU x.1] 25); have hzz := hT.size; have b9 := a3.h2; have hgr := a3.gr.size; have b5 := a3.h1; exact hK _ _ ((KeepsOthers.alloc _ _).from _) (KeepsTwo.of b6 qaa qaa qaa) ⟨v, hi, X1.heap.size, a3.below b6, ⟨by have := a2.h2; omega, p3, by omega⟩, p1.keep (fun b _ b2 => b6.block b qaa), Blk.new X1 _ _, rfl, p5, P6.out, p7⟩
    case body =>
      rintro pre x a' W hrc ⟨v, hi, Bx, a2, ⟨q1, q2, q3⟩, hO, hX, rfl, p5, p6, p7⟩; have c0 : W.cell? ⟨w.heap.size, 0, none⟩ = some v := a2.C.cell 0; have f0 := a2.C.frozen 0; have x0 : W.cell? ⟨Bx, 0, none⟩ = some (cfV x.1) := hX.cell 0; have x1 : W.cell? ⟨Bx, 1, none⟩ = some (cfU x.1) := hX.cell 1; have hpl : (pre.map (·.1)).length = pre.length := List.length_map _; have hXl := hX.lt; have hgr := a2.gr.size; have b9 := a2.h2; have a7 := hid a2; have HO := hid hO; have HX := hid hX; have P6 := hid p6; have b5 := a2.h0; have hcs := a2.hs; have hlh := a2.h1; have hfar : ∀ g, v.ownBlock = some g → W2.heap.size + 2 ≤ g := fun g hg => (a2.K.lt g hg).1
      have HFAR := hid hfar; clear a2 hO hX p6 hfar; gi_wp2_with (gi_at_builtin; refine zie rfl _ _ 34 rfl (W2.heap.size + 2) 25 i0 _ 2 48 Tryz.underlying34 HI.out HZ.out HSZ.out HYY.out rfl qaa v (pre.map (·.1)).length (zef (pre.map (·.1))) rfl (a7.out.K.alloc _) ⟨W.heap.size, 0, none⟩ 1 1 [cfV x.1, cfU x.1] rfl rfl (zbv _ _ _ _) (by simp [cfV, cfU, Value.oneCell']) qaa qaf qaa qai (W.heap.size + 1) qag ?_; intro g' cap W9 hown hgrow hat hlt9; have C9 := (a7.out.C.alloc (.cells #[cfV x.1, cfU x.1] 25)).kept hgrow qei; have Z9 := (a7.out.Z.alloc (.cells #[cfV x.1, cfU x.1] 25)).kept hgrow qei; have c9 := C9.cell 0; have d9 := C9.frozen 0; have ZZ := Z9.far (p := ⟨w.heap.size, 0, none⟩) (by show w.heap.size + 1 ≠ w.heap.size; omega) (.slice (some ⟨g', 0, none⟩) (pre.length + 1) cap); have z9 := ZZ.cell 0; have y9 := ZZ.frozen 0)
      have a6 : W9.ownsRow (W2.heap.size + 2) 25 2 (.slice (some ⟨g', 0, none⟩) (pre.length + 1) cap) ((pre.map (·.1)).length + 1) (zef (pre.map (·.1)) ++ [cfV x.1, cfU x.1]) := by have := hown; simp only [List.length_map] at this ⊢; exact this
      have hM := a7.out.more HO.out qaa qaa a6 hgrow hat x.2; have hgz := hgrow.size; have hza : (W.alloc (.cells #[cfV x.1, cfU x.1] 25)).heap.size = W.heap.size + 1 := qag; have hk1 : KeepsOthers W W9 := ((KeepsOthers.alloc W (.cells #[cfV x.1, cfU x.1] 25))).trans (keeps_append (a7.out.K.alloc _) hgrow)
      have a4 : ∀ b, b < W2.heap.size → b ≠ w.heap.size → b ≠ w.heap.size + 1 → ((W9.setCell ⟨w.heap.size, 0, none⟩ (.slice (some ⟨g', 0, none⟩) (pre.length + 1) cap)).setCell ⟨w.heap.size + 1, 0, none⟩ (.int .i64 ((x.2 : Nat) : Int))).heap[b]? = W.heap[b]? := fun b b1 b2 b3 =>
        (hs_ _ _ _ b (by show b ≠ w.heap.size + 1; omega)).trans ((hs_ _ _ _ b qbg).trans ((hgrow.block b qaa qei).trans (Below.heap_alloc _ _ _ qaa)))
      have hsz : ((W9.setCell ⟨w.heap.size, 0, none⟩ (.slice (some ⟨g', 0, none⟩) (pre.length + 1) cap)).setCell ⟨w.heap.size + 1, 0, none⟩ (.int .i64 ((x.2 : Nat) : Int))).heap.size = W9.heap.size := by simp only [zab]
      refine ⟨((hk1.trans (KeepsOthers.setCell _ _ _)).trans (KeepsOthers.setCell _ _ _)).from _, ⟨⟨?_, ?_, ?_, ?_, fun k hk => a4 k qaa qaa qaa⟩, a4 _ qaa qaa qaa, a4 _ qaa qaa qaa⟩, ?_⟩
      · exact hgrow.os
      · exact hgrow.tape
      · exact hgrow.output
      · omega
      · refine ⟨.slice (some ⟨g', 0, none⟩) (pre.length + 1) cap, W9.heap.size, ?_⟩
        rw [← P6.out, List.map_append]; exact hM
    case done =>
      rintro B xs X0 X X' hB hS ⟨v, hi, a2⟩ hT ⟨r, r', hl, rfl⟩ hD; have b9 := a2.h2; have b5 := a2.h1; have a3 := a2.step hT qaa qaa qaa qaa; have a9 := a3.book (r' := r') hl qaa qaa; obtain ⟨X9, d4⟩ : ∃ X9, X.putObj (W2.heap.size + 1) (.loop r') = X9 := ⟨_, rfl⟩; rw [d4] at a9 hD ⊢; clear d4 a3 hT hl; have c0 : X9.drew.cell? ⟨w.heap.size, 0, none⟩ = some v := a9.C.cell 0; have z0 : X9.drew.cell? ⟨w.heap.size + 1, 0, none⟩ = some (.int .i64 (((zcr 0 (rxC xs)).length : Nat) : Int)) := a9.Z.cell 0; have HL2 := hid a9; clear a9; gi_wp2; gi_region
      all_goals gi_wp2
      obtain ⟨A, cc, hv⟩ : ∃ A cc, v = .slice A (xs.map (·.1)).length cc := by
        rcases HL2.out.K.2 with ⟨e, h0⟩ | ⟨g, cap, cur, e, _⟩
        · exact ⟨none, 0, by rw [e, h0]⟩
        · exact ⟨_, cap, e⟩
      subst hv; have c7 : X9.drew.heap[W2.heap.size]? = some (.deferred (some [])) := hD; have L3 : LG w w.heap.size (w.heap.size + 1) (W2.heap.size + 2) hi (.slice A (xs.map (·.1)).length cc) (zcr 0 (rxC xs)).length (xs.map (·.1)) X9.drew := HL2.out.below (Below.refl _ _).drew; have LF := L3.h2; have LZ := L3.gr.size; have L4 := L3.mark c7 qaa qaa; refine ⟨by simp, .inl ⟨_, _, rfl, run_takeDeferred c7, ?_⟩⟩; refine ⟨.tuple #[.slice A (xs.map (·.1)).length cc, .int .i64 (((zcr 0 (rxC xs)).length : Nat) : Int)], ?_, A, cc, xs.map (·.1), (zcr 0 (rxC xs)).length, W2.heap.size + 2, rfl, L4.K, L4.raise.O, ⟨by omega, by have := L4.h1; have := L4.h2; omega⟩, L4.gr, .inl ⟨by omega, by rw [List.map_map]; exact hS, by rw [List.map_map]; rfl⟩⟩
      simp [results, Tryz.f16, go_sem]
    case stop =>
      rintro B c pre X0 X X' hB _ hF; exact hF.elim
end Go.Proofs.YtogonjkklioaaaaGreatDoor

namespace Go.Proofs.YtogonjkklioaaaaGreatDoor
open Go.RowKit
def ChE (w : World) (lo hi : Nat) (p : Addr) (c : Ch) : Prop :=
  (∃ A n d, w.cell? p = some (.slice A n d) ∧ IsAtoms w lo hi A n d c.1) ∧ (∃ B m d, w.cell? (zda p 1) = some (.slice B m d) ∧ IsAtoms w lo hi B m d c.2)
theorem ChE.stays : zpx ChE := by
  intro w w' lo hi lo' hi' p a ⟨⟨A, n, c, h3, h4⟩, ⟨B, m, d, h5, h6⟩⟩ hp1 hp2 hk hl hh; exact ⟨⟨A, n, c, (hk p hp1 hp2).trans h3, h4.keep AtomE.stays hk hl hh⟩, ⟨B, m, d, (hk (zda p 1) hp1 hp2).trans h5, h6.keep AtomE.stays hk hl hh⟩⟩
theorem ChE.out {w : World} {lo hi : Nat} {p : Addr} {c : Ch} (h : ChE w lo hi p c) : ∃ A n d B m d', w.cell? p = some (.slice A n d) ∧ IsAtoms w lo hi A n d c.1 ∧ w.cell? ⟨p.block, p.off + 1, none⟩ = some (.slice B m d') ∧ IsAtoms w lo hi B m d' c.2 := by
  obtain ⟨⟨A, n, d, h1, h2⟩, ⟨B, m, d', h3, h4⟩⟩ := h; exact ⟨A, n, d, B, m, d', h1, h2, h3, h4⟩
abbrev zgn := IsSeq 2 ChE
section
variable {W W' : World} {lo hi base n c : Nat} {A : Option Addr} {xs : List Cf}
theorem zlf (hrow : W.ownsRow lo 25 2 (.slice A xs.length c) xs.length (zef xs)) (ho : OwnCs W lo W.heap.size (Value.slice A xs.length c).ownBlock xs) : zgn W 0 W.heap.size A xs.length c (xs.map cfAt) := by
  rcases hrow.2 with ⟨e, h0⟩ | ⟨g, cap, cur, e, hb, hgb, hle, hcap, hsz, htk⟩
  · injection e with e1 e2 e3
    subst e1; subst e3; exact ⟨List.length_map _, by omega, by unfold maxLen; omega, fun hp => by omega⟩
  · injection e with e1 e2 e3
    subst e1; subst e3; have hlt := (Array.getElem?_eq_some_iff.1 hgb).1; refine ⟨List.length_map _, hle, hcap, fun _ => ⟨_, rfl, Nat.zero_le _, hlt, fun i x hx => ?_⟩⟩; rw [List.getElem?_map] at hx; obtain ⟨f, hf, rfl⟩ := Option.map_eq_some_iff.1 hx; have hi := (List.getElem?_eq_some_iff.1 hf).1; obtain ⟨y0, y1⟩ := ccells_at hf; have a0 : ∀ j, (⟨g, 0, none⟩ : Addr).add j = ⟨g, j, none⟩ := fun j => by unfold Addr.add; split <;> simp_all
    have hc : ∀ j u, (zef xs)[j]? = some u → W.cell? ⟨g, j, none⟩ = some u := fun j u hu => by
      have hj := (List.getElem?_eq_some_iff.1 hu).1; rw [ccells_len] at hj; rw [← htk, List.getElem?_take, if_pos qaa] at hu; unfold World.cell?; rw [hgb]; simpa using hu
    obtain ⟨o1, o2, o3, _⟩ := ho.own f (List.mem_of_getElem? hf); have k1 := o1.h1; have k2 := o1.h2; rw [a0]; exact ⟨⟨_, _, _, hc _ _ y0, o1.a.atoms.keep AtomE.stays (fun _ _ _ => rfl) (Nat.zero_le _) qaa⟩, ⟨_, _, _, hc _ _ y1, o1.b.atoms.keep AtomE.stays (fun _ _ _ => rfl) (Nat.zero_le _) qaa⟩⟩
end
end Go.Proofs.YtogonjkklioaaaaGreatDoor
