/-
  Texts of one claim, put together.
-/
import Derived.Test.YtogonjkklioaaaaGreatDoorLg25
import Derived.RangeFuncBound
import Derived.RangeFuncLeaves
import Derived.Test.YtogonjkklioaaaaGreatDoorLg13
import Derived.Test.YtogonjkklioaaaaGreatDoorLg0
import Derived.Deep.RegionWith
import Derived.Test.YtogonjkklioaaaaGreatDoorLg11
namespace Go.Proofs.YtogonjkklioaaaaGreatDoor
open Go.RowKit Go.Shelf
attribute [local go_sem] Oper.semAt_some

theorem Tryz.infoCh : (Tryz.prog.info? 25).map (fun i => (i.zero, i.size, i.bytes)) = some (some (.agg #[.slice none 0 0, .slice none 0 0]), 2, 48) := by kernel_rfl

theorem info_parts2 {P : Program} {t : TypeId} {z : Value} {a b : Nat} (h : (P.info? t).map (fun i => (i.zero, i.size, i.bytes)) = some (some z, a, b)) : ∃ i, P.info? t = some i ∧ i.zero = some z ∧ i.size = a ∧ i.bytes = b := by
  cases hi : P.info? t with
  | none => rw [hi] at h; cases h
  | some i =>
    rw [hi] at h
    simp only [Option.map_some, Option.some.injEq, Prod.mk.injEq] at h
    exact ⟨i, rfl, h.1, h.2.1, h.2.2⟩

/-- What is read of a log, and how many bytes that takes. -/
def LogR (l : List UInt8) (cs : List Ch) (n : Nat) : Prop := (l.length ≤ 400000 ∧ LogOf l cs ∧ n = (logL 0 cs).length) ∨ (400000 < l.length ∧ cs = [] ∧ n = 0)

theorem LogR.uniq {l : List UInt8} {cs ds : List Ch} {n m : Nat} (h : LogR l cs n) (h' : LogR l ds m) : cs = ds ∧ n = m := by
  rcases h with ⟨h1, h2, h3⟩ | ⟨h1, h2, h3⟩
  · rcases h' with ⟨_, k2, k3⟩ | ⟨k1, _, _⟩
    · have e := h2.uniq k2
      exact ⟨e, by rw [h3, k3, e]⟩
    · omega
  · rcases h' with ⟨k1, _, _⟩ | ⟨_, k2, k3⟩
    · omega
    · exact ⟨h2.trans k2.symm, h3.trans k3.symm⟩

theorem LogOf.few {l : List UInt8} {cs : List Ch} (h : LogOf l cs) (hl : l.length ≤ 400000) : cs.length ≤ 100000 := by
  have h1 := logL_len 0 cs
  have h2 := h.tx.length_le
  omega

theorem LogR.few {l : List UInt8} {cs : List Ch} {n : Nat} (h : LogR l cs n) : cs.length ≤ 100000 := by
  rcases h with ⟨h1, h2, _⟩ | ⟨_, h2, _⟩
  · exact h2.few h1
  · rw [h2]; simp

theorem LogR.okc {l : List UInt8} {cs : List Ch} {n : Nat} (h : LogR l cs n) : ∀ c ∈ cs, okC c := by
  rcases h with ⟨_, h2, _⟩ | ⟨_, h2, _⟩
  · exact h2.ok
  · rw [h2]; intro c hc; simp at hc

/-- A list of changes was told, in memory of the call's own. -/
def LogIPost (l : List UInt8) (w : World) (e : Ending) (w' : World) : Prop :=
  ∃ (A : Option Addr) (c : Nat) (xs : List Cf) (n lo : Nat), e = .returned (.tuple #[.slice A xs.length c, .int .i64 (n : Int)]) ∧ w'.ownsRow lo 25 2 (.slice A xs.length c) xs.length (ccells xs) ∧
    OwnCs w' lo w'.heap.size (Value.slice A xs.length c).ownBlock xs ∧ (w.heap.size ≤ lo ∧ lo ≤ w'.heap.size) ∧ Below w.heap.size w w' ∧ LogR l (xs.map cfAt) n

set_option maxHeartbeats 1000000 in
theorem recordsOf_any (R : Nat) (w : World) :
    Calls Tryz.prog 42 #[.pointer (some ⟨R, 0, none⟩)] w fun e w' => e = .returned (.func (.func 73) #[] #[.pointer (some ⟨w.heap.size, 0, none⟩)]) ∧ Blk w' w.heap.size 58 #[.pointer (some ⟨R, 0, none⟩)] ∧ Below w.heap.size w w' ∧ w'.heap.size = w.heap.size + 1 := by
  have h0 := Lib.hid (Blk.new w 58 #[.pointer (some ⟨R, 0, none⟩)])
  have hb := Lib.hid (below1 w (.cells #[.pointer (some ⟨R, 0, none⟩)] 58))
  go_enter Tryz.func42, Tryz.ntmps42
  go_wp2
  go_ret
  exact ⟨rfl, h0.out, hb.out, by simp⟩

theorem records_stops (n : Nat) (hn : 1 ≤ n) (rb R n₀ : Nat) (s : ByteArray) (W : World) (hs : s.size ≤ 400000) (hb : Blk W rb 58 #[.pointer (some ⟨R, 0, none⟩)]) (hr : Rdr W R s 0) (hne : rb ≠ R) (hnR : n₀ ≤ R) (hn0 : n₀ ≤ W.heap.size)
    (hE : ∀ W', W'.heap.size ≥ n₀ → (∀ k, k < n₀ → W'.heap[k]? = W.heap[k]?) → EofIn W') (hM : ∀ W', W'.heap.size ≥ n₀ → (∀ k, k < n₀ → W'.heap[k]? = W.heap[k]?) → MaxIn W') (hP : ∀ W', W'.heap.size ≥ n₀ → (∀ k, k < n₀ → W'.heap[k]? = W.heap[k]?) → PowTab W') (hR1 : 0 ≠ R) (hR2 : 1 ≠ R) :
    SeqT Fence.wide n Tryz.prog 73 #[.pointer (some ⟨rb, 0, none⟩)] rxE (fun _ X Y => X.grownBy Y (some R)) (KeepsTwo n₀ rb R) RecPre (fun xs _ _ => LogOf s.data.toList (rxC xs)) (fun _ _ _ => True) W :=
  fun l J Jx W' hW hY h0 => by
    have hlow : ∀ k, k < n₀ → W'.heap[k]? = W.heap[k]? := fun k hk => hW.block k (by omega)
    have hz := hW.size
    exact records1_in n hn l rb R n₀ s J Jx W' hY hs (hb.below hW) (hr.below hW) hne hnR (by omega) h0
      (fun V h1 h2 => hE V h1 (fun k hk => (h2 k hk).trans (hlow k hk))) (fun V h1 h2 => hM V h1 (fun k hk => (h2 k hk).trans (hlow k hk))) (fun V h1 h2 => hP V h1 (fun k hk => (h2 k hk).trans (hlow k hk))) hR1 hR2

theorem eof_low {w W : World} (h : EofIn w) (hk : ∀ k, k < w.heap.size → W.heap[k]? = w.heap[k]?) : EofIn W := by
  obtain ⟨t, u, hm⟩ := h
  exact ⟨t, u, (World.cell?_of_block (hk _ (World.block_lt_of_cell? _ _ hm))).trans hm⟩
theorem max_low {w W : World} (h : MaxIn w) (hk : ∀ k, k < w.heap.size → W.heap[k]? = w.heap[k]?) : MaxIn W := by
  obtain ⟨m, hm⟩ := h
  exact ⟨m, (World.cell?_of_block (hk _ (World.block_lt_of_cell? _ _ hm))).trans hm⟩
theorem pow_low {w W : World} (h : PowTab w) (hz : w.heap.size ≤ W.heap.size) (hk : ∀ k, k < w.heap.size → W.heap[k]? = w.heap[k]?) : PowTab W := by
  have hb : Below w.heap.size w { W with os := w.os, tape := w.tape, output := w.output } := ⟨rfl, rfl, rfl, hz, hk⟩
  have := h.below hb
  exact this

/-- What the loop holds. -/
def LogI (w : World) (cb sb lo : Nat) (pre : List Rx) (W : World) : Prop := ∃ v hi, LG w cb sb lo hi v (logL 0 (rxC pre)).length (pre.map (·.1)) W
/-- .. where a record was handed over, and boxed. -/
def LogA (w : World) (cb sb lo : Nat) (tm : Nat → Rx → Array Value) (pre : List Rx) (x : Rx) (a' : Act) (W : World) : Prop :=
  ∃ v hi Bx, LG w cb sb lo hi v (logL 0 (rxC pre)).length (pre.map (·.1)) W ∧ (hi ≤ x.1.lo ∧ x.1.hi ≤ Bx ∧ lo ≤ Bx) ∧ OwnCf W x.1 ∧ Blk W Bx 25 #[cfV x.1, cfU x.1] ∧ a' = { tmps := tm Bx x, defers := [] } ∧ pre.length ≤ 100000 ∧ x.2 = (logL 0 (rxC (pre ++ [x]))).length ∧ x.2 ≤ 1048576

set_option maxRecDepth 100000 in
set_option maxHeartbeats 8000000 in
theorem implLogGet_any (s : ByteArray) (w : World) (hs : s.size ≤ 1048576) (hm : MaxIn w) (hE : EofIn w) (hP : PowTab w) :
    Calls Tryz.prog 16 #[.string s] w (LogIPost s.data.toList w) := by
  obtain ⟨i0, hi, hz, hsz, hby⟩ := info_parts2 Tryz.infoCh
  have HI := Lib.hid hi; have HZ := Lib.hid hz; have HSZ := Lib.hid hsz; have HYY := Lib.hid hby
  clear hi hz hsz hby
  have hml := World.block_lt_of_cell? _ _ hm.choose_spec
  have hel := World.block_lt_of_cell? _ _ hE.choose_spec.choose_spec
  have hR1 : 0 ≠ w.heap.size + 2 := by have : 0 < w.heap.size := hel; omega
  have hR2 : 1 ≠ w.heap.size + 2 := by have : 1 < w.heap.size := hml; omega
  have hmx : Tryz.prog.follows .mixedOrders = true := by kernel_rfl
  have hll : s.data.toList.length = s.size := by simp
  clear hml hel
  refine (callsIn_wide (n := 5)).1 ?_
  refine callsIn_of_wp_marks Tryz.func16 rfl trivial ?_ rfl
  simp only [Tryz.ntmps16, List.size_toArray, List.length_cons, List.length_nil, Nat.reduceAdd, Nat.reduceSub, Array.replicate_succ, Array.replicate_zero, List.push_toArray, List.append_toArray, List.nil_append, List.cons_append]
  by_cases hbig : 400000 < s.size
  · have hbI : (400000 : Int) < (s.size : Int) := by omega
    gi_wp2
    refine ⟨.tuple #[.slice none 0 0, .int .i64 0], ?_, none, 0, [], 0, w.heap.size, rfl, ⟨rfl, .inl ⟨rfl, rfl⟩⟩, OwnCs.nil, ⟨Nat.le_refl _, Nat.le_refl _⟩, Below.refl _ _, .inr ⟨by omega, rfl, rfl⟩⟩
    simp [results, Tryz.f16, go_sem]
  · have hbI : ¬ (400000 : Int) < (s.size : Int) := by omega
    have hb0 := below2 w (.cells #[.slice none 0 0] 34) (.cells #[.int .i64 0] 3)
    have C0 := (Blk.new w 34 #[.slice none 0 0]).alloc (.cells #[.int .i64 0] 3)
    have Z0 := Blk.made (w.alloc (.cells #[.slice none 0 0] 34)) (b := w.heap.size + 1) 3 #[.int .i64 0] (by simp)
    have hz0 : ((w.alloc (.cells #[.slice none 0 0] 34)).alloc (.cells #[.int .i64 0] 3)).heap.size = w.heap.size + 2 := by simp
    gi_wp2_with (refine ⟨trivial, ?_⟩; gi_at_call 30; refine (callsIn_wide.2 (newReader_any s _)).mono ?_; rintro e W1 ⟨rfl, hr1, hb1, hlt1⟩)
    rw [hz0] at hr1 hlt1
    have C1 := Lib.hid (C0.below hb1); have Z1 := Lib.hid (Z0.below hb1); have HR1 := Lib.hid hr1; have HB1 := Lib.hid (belowThen hb0 hb1)
    clear hb0 C0 Z0 hr1 hb1 hz0
    gi_wp2_with (refine ⟨trivial, ?_⟩; gi_at_call 42; refine (callsIn_wide.2 (recordsOf_any (w.heap.size + 2) W1)).mono ?_; rintro e W2 ⟨rfl, hbk2, hb2, hz2⟩)
    have C2 := Lib.hid (C1.out.below hb2); have Z2 := Lib.hid (Z1.out.below hb2); have HR2 := Lib.hid (HR1.out.below hb2); have HB2 := Lib.hid (belowThen HB1.out hb2); have HK2 := Lib.hid hbk2
    clear C1 Z1 HR1 HB1 hbk2 hb2
    have hz2a : W2.heap.size ≤ W1.heap.size + 1 := by omega
    have hz2b : W1.heap.size + 1 ≤ W2.heap.size := by omega
    clear hz2
    have hpt : Rdr W2 (w.heap.size + 2) s 0 := HR2.out
    have hz1 : w.heap.size + 3 ≤ W1.heap.size := hlt1
    have hlw : ∀ V : World, V.heap.size ≥ w.heap.size → (∀ k, k < w.heap.size → V.heap[k]? = W2.heap[k]?) → ∀ k, k < w.heap.size → V.heap[k]? = w.heap[k]? := fun V _ h2 k hk => (h2 k hk).trans (HB2.out.block k hk)
    have HST := Lib.hid (records_stops (5 - 1) (by omega) W1.heap.size (w.heap.size + 2) w.heap.size s W2 (by omega) HK2.out hpt (by omega) (by omega) (by omega) (fun V h1 h2 => eof_low hE (hlw V h1 h2)) (fun V h1 h2 => max_low hm (hlw V h1 h2)) (fun V h1 h2 => pow_low hP h1 (hlw V h1 h2)) hR1 hR2)
    refine wpIn_rangeT rfl (by omega) (gf := 73) (lb := #[.pointer (some ⟨W1.heap.size, 0, none⟩)]) rfl trivial (enters_of Tryz.func73 (by kernel_rfl) rfl) HST.out
      KeepsTwo.trans (fun W r r' hl => ⟨belowK_b (w := W2) (by omega) W _ _ _ (by omega) hl rfl rfl, World.putObj_heap_other (by omega), World.putObj_heap_other (by omega)⟩) (Below.refl _ _) (fun _ => rfl)
      (fun B X Y hB hT k h1 h2 ho => hT.block k (Array.getElem?_eq_some_iff.1 ho.choose_spec.1).1 (fun e => by injection e with e; omega))
      (LogI w w.heap.size (w.heap.size + 1) (W2.heap.size + 2)) (fun _ _ _ => False)
      (fun pre W r o' hI hl => by obtain ⟨v, hi, h⟩ := hI; exact ⟨v, hi, h.book hl (by omega) (by omega)⟩)
      (fun _ _ W r o' h _ => h.elim)
      (fun V hV hVz => ⟨.slice none 0 0, W2.heap.size + 2, C2.out.below hV, Z2.out.below hV, ⟨rfl, .inl ⟨rfl, rfl⟩⟩, OwnCs.nil, Nat.le_refl _, Nat.lt_succ_self _, by omega, Nat.le_refl _, by omega, fun g e => by simp [Value.ownBlock] at e, HB2.out.trans (hV.mono HB2.out.size)⟩)
      (LogA w w.heap.size (w.heap.size + 1) (W2.heap.size + 2) (fun Bx x => #[.string s, undef, .slice none 0 0, .int .i64 0, .pointer (some ⟨w.heap.size, 0, none⟩), .pointer (some ⟨w.heap.size + 1, 0, none⟩), .pointer (some ⟨Bx, 0, none⟩), .int .i64 ((x.2 : Nat) : Int), .string s, .int .i64 (s.size : Int), .bool false, .string s, .pointer (some ⟨w.heap.size + 2, 0, none⟩), .func (.func 73) #[] #[.pointer (some ⟨W1.heap.size, 0, none⟩)], .agg #[cfV x.1, cfU x.1], .int .i64 ((x.2 : Nat) : Int), undef, undef, undef, undef, undef, undef, undef]))
      (fun pre x a' W r o' hA hl => by
        obtain ⟨v, hi, Bx, h1, h2, h3, h4, h5⟩ := hA
        have hlo := h1.h1
        exact ⟨v, hi, Bx, h1.book hl (by omega) (by omega), h2, h3.keep (fun b b1 b2 => World.putObj_heap_other (by omega)), (World.putObj_heap_other (by omega)).trans h4, h5⟩)
      ?assign ?body ?done ?stop
    case assign =>
      rintro B pre x X0 X1 K hB ⟨v, hi, hLG⟩ hT ⟨p1, p2, p3, p4, p5, p6, p7⟩ hK
      have P6 := Lib.hid p6
      clear p6
      unfold rxE cfV cfU
      gi_wp2
      have hL1 := hLG.step hT (by omega) (by omega) (by omega) (by omega)
      have hal := below1 X1 (.cells #[cfV x.1, cfU x.1] 25)
      have hzz := hT.size
      have h22 := hL1.h2
      have hgr := hL1.gr.size
      have hlo := hL1.h1
      exact hK _ _ ((KeepsOthers.alloc _ _).from _) (KeepsTwo.of hal (by omega) (by omega) (by omega)) ⟨v, hi, X1.heap.size, hL1.below hal, ⟨by have := hLG.h2; omega, p3, by omega⟩, p1.keep (fun b _ b2 => hal.block b (by omega)), Blk.new X1 _ _, rfl, p5, P6.out, p7⟩
    case body =>
      rintro pre x a' W hrc ⟨v, hi, Bx, hLG, ⟨q1, q2, q3⟩, hO, hX, rfl, p5, p6, p7⟩
      have c0 : W.cell? ⟨w.heap.size, 0, none⟩ = some v := hLG.C.cell 0
      have f0 := hLG.C.frozen 0
      have x0 : W.cell? ⟨Bx, 0, none⟩ = some (cfV x.1) := hX.cell 0
      have x1 : W.cell? ⟨Bx, 1, none⟩ = some (cfU x.1) := hX.cell 1
      have hpl : (pre.map (·.1)).length = pre.length := List.length_map _
      have hXl := hX.lt
      have hgr := hLG.gr.size
      have h22 := hLG.h2
      have HLG := Lib.hid hLG; have HO := Lib.hid hO; have HX := Lib.hid hX; have P6 := Lib.hid p6
      have hlo := hLG.h0; have hcs := hLG.hs; have hlh := hLG.h1
      have hfar : ∀ g, v.ownBlock = some g → W2.heap.size + 2 ≤ g := fun g hg => (hLG.K.lt g hg).1
      have HFAR := Lib.hid hfar
      clear hLG hO hX p6 hfar
      gi_wp2_with (gi_at_builtin; refine wpListIn_append_lies rfl _ _ 34 rfl (W2.heap.size + 2) 25 i0 _ 2 48 Tryz.underlying34 HI.out HZ.out HSZ.out HYY.out rfl (by omega) v (pre.map (·.1)).length (ccells (pre.map (·.1))) rfl (HLG.out.K.alloc _) ⟨W.heap.size, 0, none⟩ 1 1 [cfV x.1, cfU x.1] rfl rfl (two_new _ _ _ _) (by simp [cfV, cfU, Value.oneCell']) (by omega) (by unfold maxLen; omega) (by omega) (by simp; omega) (W.heap.size + 1) (by simp) ?_; intro g' cap W9 hown hgrow hat hlt9; have C9 := (HLG.out.C.alloc (.cells #[cfV x.1, cfU x.1] 25)).kept hgrow (fun e => by have := HFAR.out _ e.symm; omega); have Z9 := (HLG.out.Z.alloc (.cells #[cfV x.1, cfU x.1] 25)).kept hgrow (fun e => by have := HFAR.out _ e.symm; omega); have c9 := C9.cell 0; have d9 := C9.frozen 0; have ZZ := Z9.far (p := ⟨w.heap.size, 0, none⟩) (by show w.heap.size + 1 ≠ w.heap.size; omega) (.slice (some ⟨g', 0, none⟩) (pre.length + 1) cap); have z9 := ZZ.cell 0; have y9 := ZZ.frozen 0)
      have hown2 : W9.ownsRow (W2.heap.size + 2) 25 2 (.slice (some ⟨g', 0, none⟩) (pre.length + 1) cap) ((pre.map (·.1)).length + 1) (ccells (pre.map (·.1)) ++ [cfV x.1, cfU x.1]) := by have := hown; simp only [List.length_map] at this ⊢; exact this
      have hM := HLG.out.more HO.out (by omega) (by omega) hown2 hgrow hat x.2
      have hgz := hgrow.size
      have hza : (W.alloc (.cells #[cfV x.1, cfU x.1] 25)).heap.size = W.heap.size + 1 := by simp
      have hk1 : KeepsOthers W W9 := ((KeepsOthers.alloc W (.cells #[cfV x.1, cfU x.1] 25))).trans (keeps_append (HLG.out.K.alloc _) hgrow)
      have hblk : ∀ b, b < W2.heap.size → b ≠ w.heap.size → b ≠ w.heap.size + 1 → ((W9.setCell ⟨w.heap.size, 0, none⟩ (.slice (some ⟨g', 0, none⟩) (pre.length + 1) cap)).setCell ⟨w.heap.size + 1, 0, none⟩ (.int .i64 ((x.2 : Nat) : Int))).heap[b]? = W.heap[b]? := fun b b1 b2 b3 =>
        (Below.heap_setCell _ _ _ b (by show b ≠ w.heap.size + 1; omega)).trans ((Below.heap_setCell _ _ _ b (by show b ≠ w.heap.size; omega)).trans ((hgrow.block b (by omega) (fun e => by have := HFAR.out _ e.symm; omega)).trans (Below.heap_alloc _ _ _ (by omega))))
      have hsz : ((W9.setCell ⟨w.heap.size, 0, none⟩ (.slice (some ⟨g', 0, none⟩) (pre.length + 1) cap)).setCell ⟨w.heap.size + 1, 0, none⟩ (.int .i64 ((x.2 : Nat) : Int))).heap.size = W9.heap.size := by simp only [size_setCell]
      refine ⟨((hk1.trans (KeepsOthers.setCell _ _ _)).trans (KeepsOthers.setCell _ _ _)).from _, ⟨⟨?_, ?_, ?_, ?_, fun k hk => hblk k (by omega) (by omega) (by omega)⟩, hblk _ (by omega) (by omega) (by omega), hblk _ (by omega) (by omega) (by omega)⟩, ?_⟩
      · exact hgrow.os
      · exact hgrow.tape
      · exact hgrow.output
      · omega
      · refine ⟨.slice (some ⟨g', 0, none⟩) (pre.length + 1) cap, W9.heap.size, ?_⟩
        rw [← P6.out, List.map_append]
        exact hM
    case done =>
      rintro B xs X0 X X' hB hS ⟨v, hi, hLG⟩ hT ⟨r, r', hl, rfl⟩ hD
      have h22 := hLG.h2
      have hlo := hLG.h1
      have hL1 := hLG.step hT (by omega) (by omega) (by omega) (by omega)
      have hL2 := hL1.book (r' := r') hl (by omega) (by omega)
      obtain ⟨X9, hX9⟩ : ∃ X9, X.putObj (W2.heap.size + 1) (.loop r') = X9 := ⟨_, rfl⟩
      rw [hX9] at hL2 hD ⊢
      clear hX9 hL1 hT hl
      have c0 : X9.drew.cell? ⟨w.heap.size, 0, none⟩ = some v := hL2.C.cell 0
      have z0 : X9.drew.cell? ⟨w.heap.size + 1, 0, none⟩ = some (.int .i64 (((logL 0 (rxC xs)).length : Nat) : Int)) := hL2.Z.cell 0
      have HL2 := Lib.hid hL2
      clear hL2
      gi_wp2
      gi_region
      all_goals gi_wp2
      obtain ⟨A, cc, hv⟩ : ∃ A cc, v = .slice A (xs.map (·.1)).length cc := by
        rcases HL2.out.K.2 with ⟨e, h0⟩ | ⟨g, cap, cur, e, _⟩
        · exact ⟨none, 0, by rw [e, h0]⟩
        · exact ⟨_, cap, e⟩
      subst hv
      have hD9 : X9.drew.heap[W2.heap.size]? = some (.deferred (some [])) := hD
      have L3 : LG w w.heap.size (w.heap.size + 1) (W2.heap.size + 2) hi (.slice A (xs.map (·.1)).length cc) (logL 0 (rxC xs)).length (xs.map (·.1)) X9.drew := HL2.out.below (Below.refl _ _).drew
      have LF := L3.h2; have LZ := L3.gr.size
      have L4 := L3.mark hD9 (by omega) (by omega)
      refine ⟨by simp, .inl ⟨_, _, rfl, run_takeDeferred hD9, ?_⟩⟩
      refine ⟨.tuple #[.slice A (xs.map (·.1)).length cc, .int .i64 (((logL 0 (rxC xs)).length : Nat) : Int)], ?_, A, cc, xs.map (·.1), (logL 0 (rxC xs)).length, W2.heap.size + 2, rfl, L4.K, L4.raise.O, ⟨by omega, by have := L4.h1; have := L4.h2; omega⟩, L4.gr, .inl ⟨by omega, by rw [List.map_map]; exact hS, by rw [List.map_map]; rfl⟩⟩
      simp [results, Tryz.f16, go_sem]
    case stop =>
      rintro B c pre X0 X X' hB _ hF
      exact hF.elim

end Go.Proofs.YtogonjkklioaaaaGreatDoor

namespace Go.Proofs.YtogonjkklioaaaaGreatDoor
open Go.RowKit

/-- Marked atoms, from k on; the number behind them. -/
def markR (k : Nat) (r : Rf) : Rf := (markB k, r.2.1, r.2.2.1, r.2.2.2.1, markTs (k + 1) (rN r))
def markN (k : Nat) : List Rf → Nat
  | [] => k
  | r :: rs => markN (k + 1 + 2 * rN r) rs
def markRs (k : Nat) : List Rf → List Rf
  | [] => []
  | r :: rs => markR k r :: markRs (k + 1 + 2 * rN r) rs

theorem markN_snoc : ∀ (k : Nat) (l : List Rf) (r : Rf), markN k (l ++ [r]) = markN k l + 1 + 2 * rN r
  | _, [], _ => rfl
  | k, q :: l, r => markN_snoc (k + 1 + 2 * rN q) l r

theorem markN_app : ∀ (k : Nat) (l l' : List Rf), markN k (l ++ l') = markN (markN k l) l'
  | _, [], _ => rfl
  | k, q :: l, l' => markN_app (k + 1 + 2 * rN q) l l'

theorem markN_ge : ∀ (k : Nat) (l : List Rf), k ≤ markN k l
  | _, [] => Nat.le_refl _
  | k, q :: l => Nat.le_trans (by omega) (markN_ge (k + 1 + 2 * rN q) l)

theorem markN_le (M : Nat) : ∀ (k : Nat) (l : List Rf), (∀ r ∈ l, rN r ≤ M) → markN k l ≤ k + l.length * (1 + 2 * M)
  | _, [], _ => by simp [markN]
  | k, q :: l, h => by
    have h1 := markN_le M (k + 1 + 2 * rN q) l (fun r hr => h r (by simp [hr]))
    have h2 := h q (by simp)
    rw [List.length_cons, Nat.add_mul]
    show markN (k + 1 + 2 * rN q) l ≤ _
    omega

theorem markRs_snoc : ∀ (k : Nat) (l : List Rf) (r : Rf), markRs k (l ++ [r]) = markRs k l ++ [markR (markN k l) r]
  | _, [], _ => rfl
  | k, q :: l, r => by
    show markR k q :: markRs (k + 1 + 2 * rN q) (l ++ [r]) = _
    rw [markRs_snoc (k + 1 + 2 * rN q) l r]; rfl

theorem markRs_len : ∀ (k : Nat) (l : List Rf), (markRs k l).length = l.length
  | _, [] => rfl
  | k, q :: l => by
    show (markRs (k + 1 + 2 * rN q) l).length + 1 = _
    rw [markRs_len, List.length_cons]

theorem markRs_at : ∀ (k : Nat) (l1 : List Rf) (r : Rf) (l2 : List Rf), (markRs k (l1 ++ r :: l2))[l1.length]? = some (markR (markN k l1) r)
  | _, [], _, _ => rfl
  | k, q :: l, r, l2 => by
    show (markR k q :: markRs (k + 1 + 2 * rN q) (l ++ r :: l2))[l.length + 1]? = _
    rw [List.getElem?_cons_succ, markRs_at]; rfl

/-- What an owned list has at a place. -/
theorem OwnRefs.place {w : World} {lo hi n c : Nat} {A : Option Addr} {l1 l2 : List Rf} {r : Rf} (h : OwnRefs w lo hi A n c (l1 ++ r :: l2)) :
    ∃ g, A = some ⟨g, 0, none⟩ ∧ lo ≤ g ∧ g < hi ∧ g < w.heap.size ∧ l1.length < n ∧ (∃ x, w.cell? ⟨g, l1.length * 2, none⟩ = some x) ∧ w.cell? ⟨g, l1.length * 2 + 1, none⟩ = some (.slice r.2.1 r.2.2.1 r.2.2.2.1) ∧ w.frozen? ⟨g, l1.length * 2, none⟩ = false := by
  obtain ⟨a, b, d, e, f⟩ := h
  have hl : l1.length < n := by rw [← a]; simp
  obtain ⟨g, k, f', e1, e2, e3, e4, e5, e6⟩ := e (by omega)
  have ha : (l1 ++ r :: l2)[l1.length]? = some r := by simp
  obtain ⟨c1, c2⟩ := rcells_at ha
  refine ⟨g, e1, e2, e3, e4.lt, hl, ⟨_, e4.cell (by omega)⟩, ?_, e4.frozen _⟩
  rw [e4.cell (by omega), e6 _ _ c2]

def MarkPost (lo hi : Nat) (A : Option Addr) (n c k : Nat) (rs : List Rf) (w : World) (e : Ending) (w' : World) : Prop :=
  e = .returned (.int .i64 ((markN k rs : Nat) : Int)) ∧ OwnRefs w' lo hi A n c (markRs k rs) ∧ Within lo hi w w'

theorem markTermS_at (lo hi : Nat) (A : Option Addr) (n c : Nat) (l1 l2 : List Rf) (r : Rf) (k : Nat) (w : World) (z : Int) (hz : z = ((k + 1 : Nat) : Int)) (h : OwnRefs w lo hi A n c (l1 ++ (markB k, r.2) :: l2)) (hk : k + 1 + 2 * rN r ≤ 2 ^ 62) :
    Calls Tryz.prog 78 #[.slice r.2.1 r.2.2.1 r.2.2.2.1, .int .i64 z] w fun e w' => e = .returned (.int .i64 ((k + 1 + 2 * rN r : Nat) : Int)) ∧ OwnRefs w' lo hi A n c (l1 ++ markR k r :: l2) ∧ Within lo hi w w' := by
  subst hz
  obtain ⟨y1, y2, y3⟩ := h.2.2.2.2.1 (markB k, r.2) (by simp)
  by_cases h0 : 0 < rN r
  · obtain ⟨g, m, f, e1, e2, e3, e4, e5⟩ := y3 h0
    have e1' : r.2.1 = some ⟨g, 0, none⟩ := e1
    rw [e1']
    refine (markTermS_any g m r.2.2.1 r.2.2.2.1 (k + 1) f w e4 e5 hk).mono ?_
    rintro e w' ⟨rfl, ⟨f', r1, r2⟩, hg⟩
    have hT : IsTerms w' lo hi (some ⟨g, 0, none⟩) r.2.2.1 r.2.2.2.1 (markTs (k + 1) (rN r)) := marked_terms r1 e5 r2 hk y2.2.1 y2.2.2.1 e2 e3
    refine ⟨rfl, ?_, Within.row hg e2 e3⟩
    have := OwnRefs.terms (r := (markB k, r.2)) h (g := g) e1 h0 (fun b hb hne => hg.block b hb (fun e => hne (by injection e))) (markTs (k + 1) (rN r)) (by show IsTerms w' lo hi r.2.1 _ _ _; rw [e1']; exact hT) ⟨g, m, f', e1, e2, e3, r1, e5⟩
    exact this
  · have hn : r.2.2.1 = 0 := by unfold rN at h0; omega
    have hn' : rN r = 0 := hn
    have ht : r.2.2.2.2 = [] := List.eq_nil_of_length_eq_zero (by have := y2.1; simp only at this; omega)
    rw [hn]
    refine (markTermS_none r.2.1 r.2.2.2.1 (k + 1) w).mono ?_
    rintro e w' ⟨rfl, rfl⟩
    refine ⟨by rw [hn'], ?_, Within.refl⟩
    have e : markR k r = (markB k, r.2) := by
      unfold markR
      rw [hn']
      obtain ⟨a, b, c, d, t⟩ := r
      simp only at ht ⊢
      subst ht
      rfl
    rw [e]; exact h

set_option maxRecDepth 100000 in
set_option maxHeartbeats 1000000 in
theorem markAtomS_any (lo hi : Nat) (A : Option Addr) (n c k : Nat) (rs : List Rf) (w : World) (h : OwnRefs w lo hi A n c rs) (hh : hi ≤ w.heap.size) (hk : markN k rs ≤ 2 ^ 62) :
    Calls Tryz.prog 44 #[.slice A n c, .int .i64 (k : Int)] w (MarkPost lo hi A n c k rs w) := by
  have hn := h.2.2.1
  have hnc := h.2.1
  have HN := Lib.hid h.1
  unfold maxLen at hn
  have H := Lib.hid h; clear h
  go_enter Tryz.func44, Tryz.ntmps44
  go_wp2
  go_loopw [1, 5] (fun x y wr => ∃ l1 l2 : List Rf, rs = l1 ++ l2 ∧ x = .int .i64 ((markN k l1 : Nat) : Int) ∧ y = .int .i64 ((l1.length : Nat) : Int) ∧ OwnRefs wr lo hi A n c (markRs k l1 ++ l2) ∧ Within lo hi w wr) (fun _ y _ => n - (intOf y).toNat)
  case atStart => exact ⟨[], rs, rfl, rfl, rfl, H.out, Within.refl⟩
  case round =>
    obtain ⟨l1, l2, hs, rfl, rfl, ho, hw⟩ := hrel
    have HS := Lib.hid hs; clear hs
    have HO := Lib.hid ho; clear ho
    have HL := Lib.hid (markRs_len k l1)
    obtain ⟨i, hi'⟩ : ∃ i, l1.length = i := ⟨_, rfl⟩
    obtain ⟨q, hq⟩ : ∃ q, markN k l1 = q := ⟨_, rfl⟩
    rw [hi', hq]
    cases l2 with
    | nil =>
      have e1 : rs = l1 := by have := HS.out; rwa [List.append_nil] at this
      have hin : i = n := by have := HN.out; rw [e1, hi'] at this; exact this
      have HQ := Lib.hid hq; have HI := Lib.hid hi'; have HE := Lib.hid e1
      clear hq hi' e1
      subst hin
      go_wp2
      go_ret; exact ⟨by rw [HE.out, HQ.out]; rfl, by rw [HE.out]; have := HO.out; rwa [List.append_nil] at this, hw⟩
    | cons r l2 =>
      obtain ⟨g, hA, p1, p2, p3, p4, ⟨x0, p5⟩, p6, p7⟩ := HO.out.place
      rw [HL.out, hi'] at p4 p5 p6 p7
      have hb1 : q + 1 + 2 * rN r ≤ 2 ^ 62 := by
        have e1 : markN k rs = markN (q + 1 + 2 * rN r) l2 := by rw [HS.out, markN_app, hq]; rfl
        have := markN_ge (q + 1 + 2 * rN r) l2
        omega
      have HQ := Lib.hid hq; have HI := Lib.hid hi'
      clear hq hi'
      subst hA
      have hws := hw.size
      go_wp2_with fail
      refine (markText_is _ q rfl (by omega) _).mono ?_; rintro e w1 ⟨rfl, hb1'⟩
      have c0 := (hb1'.cell (p := ⟨g, i * 2, none⟩) p3).trans p5
      have c1 := (hb1'.cell (p := ⟨g, i * 2 + 1, none⟩) p3).trans p6
      have z0 := (hb1'.frozen (p := ⟨g, i * 2, none⟩) p3).trans p7
      have hO1 := (HO.out.below hb1' (Nat.le_trans hh hws)).name rfl (markB q) (markB_size q (by omega))
      rw [HL.out, HI.out] at hO1
      have hw1 := (hw.trans (Within.of hb1')).trans (Within.row (grownSet w1 g (i * 2) (.string (markB q))) p1 p2)
      have HO1 := Lib.hid hO1
      clear hO1 p5 p6 p7 hb1'
      go_wp2_with fail
      refine (markTermS_at lo hi (some ⟨g, 0, none⟩) n c (markRs k l1) l2 r q _ _ (by omega) HO1.out hb1).mono ?_; rintro e w2 ⟨rfl, hO2, hw2⟩
      clear c0 c1 z0
      go_wp2
      go_roundw
      case rel => exact ⟨l1 ++ [r], l2, by rw [HS.out, List.append_assoc]; rfl, by rw [markN_snoc, HQ.out]; go_num, by rw [List.length_append, HI.out]; go_num, by rw [markRs_snoc, HQ.out, List.append_assoc]; exact hO2, hw1.trans hw2⟩
      case measure => simp [intOf]; omega

set_option maxRecDepth 100000 in
set_option maxHeartbeats 1000000 in
theorem heldAtomS_any (A : Option Addr) (n c k : Nat) (rs : List Rf) (w : World) (h : IsRefs w 0 w.heap.size A n c (markRs k rs)) (hk : markN k rs ≤ 2 ^ 62) :
    Calls Tryz.prog 45 #[.slice A n c, .int .i64 (k : Int)] w fun e w' => e = .returned (.int .i64 ((markN k rs : Nat) : Int)) ∧ Below w.heap.size w w' := by
  have hn := h.len
  unfold maxLen at hn
  have HN := Lib.hid h.1
  have H := Lib.hid h; clear h
  go_enter Tryz.func45, Tryz.ntmps45
  go_wp2
  go_loopw [1, 5] (fun x y wr => ∃ l1 l2 : List Rf, rs = l1 ++ l2 ∧ x = .int .i64 ((markN k l1 : Nat) : Int) ∧ y = .int .i64 ((l1.length : Nat) : Int) ∧ Below w.heap.size w wr) (fun _ y _ => n - (intOf y).toNat)
  case atStart => exact ⟨[], rs, rfl, rfl, rfl, Below.refl _ _⟩
  case round =>
    obtain ⟨l1, l2, hs, rfl, rfl, hb⟩ := hrel
    have HS := Lib.hid hs; clear hs
    obtain ⟨i, hi'⟩ : ∃ i, l1.length = i := ⟨_, rfl⟩
    obtain ⟨q, hq⟩ : ∃ q, markN k l1 = q := ⟨_, rfl⟩
    rw [hi', hq]
    have HLN : Hid (l1.length + l2.length = n) := Lib.hid (by have := HN.out; rw [markRs_len, HS.out, List.length_append] at this; exact this)
    cases l2 with
    | nil =>
      have e1 : rs = l1 := by have := HS.out; rwa [List.append_nil] at this
      have hin : i = n := by have := HLN.out; rw [hi'] at this; simpa using this
      have HQ := Lib.hid hq; have HI := Lib.hid hi'; have HE := Lib.hid e1
      clear hq hi' e1
      subst hin
      go_wp2
      go_ret; exact ⟨by rw [HE.out, HQ.out]; rfl, hb⟩
    | cons r l2 =>
      have hin : i < n := by have := HLN.out; rw [hi', List.length_cons] at this; omega
      obtain ⟨p, r', hA, hlo, hhi, hg, hE⟩ := (H.out.below RefE.stays hb (Nat.le_refl _)).at_ hin
      have hat := markRs_at k l1 r l2
      rw [← HS.out, hi', hg] at hat
      injection hat with hat
      subst hat
      rw [hq] at hE
      obtain ⟨d1, d2, d3, d4⟩ := hE.out
      clear hE hg
      have d1' : wr.cell? (p.add (i * 2)) = some (.string (markB q)) := d1
      have d3' : wr.cell? ⟨(p.add (i * 2)).block, (p.add (i * 2)).off + 1, none⟩ = some (.slice r.2.1 r.2.2.1 r.2.2.2.1) := d3
      have d4' : IsTerms wr 0 w.heap.size r.2.1 r.2.2.1 r.2.2.2.1 (markTs (q + 1) r.2.2.1) := d4
      clear d1 d2 d3 d4
      have hb1 : q + 1 + 2 * rN r ≤ 2 ^ 62 := by
        have e1 : markN k rs = markN (q + 1 + 2 * rN r) l2 := by rw [HS.out, markN_app, hq]; rfl
        have := markN_ge (q + 1 + 2 * rN r) l2
        omega
      have hb2 : q + 1 + 2 * r.2.2.1 ≤ 2 ^ 62 := hb1
      have HQ := Lib.hid hq; have HI := Lib.hid hi'
      clear hq hi'
      subst hA
      have hpz : p.block < wr.heap.size := Nat.lt_of_lt_of_le hhi hb.size
      have x1 : wr.drew.cell? (p.add (i * 2)) = some (.string (markB q)) := d1'
      have x2 : wr.drew.cell? ⟨(p.add (i * 2)).block, (p.add (i * 2)).off + 1, none⟩ = some (.slice r.2.1 r.2.2.1 r.2.2.2.1) := d3'
      have HT := Lib.hid (show IsTerms wr.drew 0 wr.drew.heap.size r.2.1 r.2.2.1 r.2.2.2.1 (markTs (q + 1) r.2.2.1) from d4'.keep (fun _ _ _ => rfl) (Nat.le_refl _) hb.size)
      have hbd := hb.drew
      clear d1' d3' d4'
      go_wp2
      refine wp_region_held_drew (S := fun W => W.cell? (p.add (i * 2)) = some (.string (markB q)) ∧ W.cell? ⟨(p.add (i * 2)).block, (p.add (i * 2)).off + 1, none⟩ = some (.slice r.2.1 r.2.2.1 r.2.2.2.1)) (by kernel_rfl) ⟨x1, x2⟩ ?_
      intro hS_
      refine takeV (i := 0) (v := .slice (some p) n c) (by (simp only [List.getElem?_toArray, List.getElem?_cons_zero]); rfl) (by kernel_rfl) (by kernel_rfl) (by kernel_rfl) (by rfl) (fun _ _ _ h => h) (Or.inl ⟨by rfl, ?_⟩) hS_ (by (simp only [List.setIfInBounds_toArray, List.set_cons_succ, List.set_cons_zero]); rfl) ?_
      · intro w_ hSw_; (try dsimp only at hSw_); go_simp
      refine takeV (i := 1) (v := .int .i64 (i : Int)) (by (simp only [List.getElem?_toArray, List.getElem?_cons_succ, List.getElem?_cons_zero]); rfl) (by kernel_rfl) (by kernel_rfl) (by kernel_rfl) (by rfl) (fun _ _ _ h => h) (Or.inl ⟨by rfl, ?_⟩) hS_ (by (simp only [List.setIfInBounds_toArray, List.set_cons_succ, List.set_cons_zero]); rfl) ?_
      · intro w_ hSw_; (try dsimp only at hSw_); go_simp
      refine takeV (i := 2) (v := .pointer (some (p.add (i * 2)))) (by (simp only [List.getElem?_toArray, List.getElem?_cons_succ, List.getElem?_cons_zero]); rfl) (by kernel_rfl) (by kernel_rfl) (by kernel_rfl) (by rfl) (fun _ _ _ h => h) (Or.inl ⟨by rfl, ?_⟩) hS_ (by (simp only [List.setIfInBounds_toArray, List.set_cons_succ, List.set_cons_zero]); rfl) ?_
      · intro w_ hSw_; (try dsimp only at hSw_); go_simp
      refine takeV (i := 3) (v := .pointer (some (p.add (i * 2)))) (by (simp only [List.getElem?_toArray, List.getElem?_cons_succ, List.getElem?_cons_zero]); rfl) (by kernel_rfl) (by kernel_rfl) (by kernel_rfl) (by rfl) (fun _ _ _ h => h) (Or.inl ⟨by rfl, ?_⟩) hS_ (by (simp only [List.setIfInBounds_toArray, List.set_cons_succ, List.set_cons_zero]); rfl) ?_
      · intro w_ hSw_; (try dsimp only at hSw_); go_simp
      refine takeV (i := 4) (v := .string (markB q)) (by (simp only [List.getElem?_toArray, List.getElem?_cons_succ, List.getElem?_cons_zero]); rfl) (by kernel_rfl) (by kernel_rfl) (by kernel_rfl) (by rfl) (fun _ _ _ h => h) (Or.inl ⟨by rfl, ?_⟩) hS_ (by (simp only [List.setIfInBounds_toArray, List.set_cons_succ, List.set_cons_zero]); rfl) ?_
      · intro w_ hSw_; (try dsimp only at hSw_); go_simp
      refine takeV (i := 5) (v := .int .i64 (q : Int)) (by (simp only [List.getElem?_toArray, List.getElem?_cons_succ, List.getElem?_cons_zero]); rfl) (by kernel_rfl) (by kernel_rfl) (by kernel_rfl) (by rfl) (fun _ _ _ h => h) (Or.inl ⟨by rfl, ?_⟩) hS_ (by (simp only [List.setIfInBounds_toArray, List.set_cons_succ, List.set_cons_zero]); rfl) ?_
      · intro w_ hSw_; (try dsimp only at hSw_); go_simp
      refine wpAnyH_ready (rs := [6]) (by kernel_rfl) (by simp) ?_
      refine AllReadyH.cons (o := _) (by (simp only [List.getElem?_toArray, List.getElem?_cons_succ, List.getElem?_cons_zero]); rfl) (fun K_ hK_ => ?_) AllReadyH.nil
      rw [if_pos (by rfl)]
      go_simp
      go_at_call 77
      refine (markText_is _ q rfl (by omega) _).mono ?_; rintro e w1 ⟨rfl, hb1'⟩
      have y1 := (hb1'.cell (p := p.add (i * 2)) (by rw [block_add]; exact hpz)).trans x1
      have y2 := (hb1'.cell (p := ⟨(p.add (i * 2)).block, (p.add (i * 2)).off + 1, none⟩) (by rw [block_add]; exact hpz)).trans x2
      refine hK_.out _ _ ⟨y1, y2⟩ (fun hS2_ => ?_)
      clear hK_ hS_
      have hS_ := hS2_; clear hS2_
      refine takeV (i := 7) (v := .bool false) (by (simp only [List.getElem?_toArray, List.getElem?_cons_succ, List.getElem?_cons_zero]); rfl) (by kernel_rfl) (by kernel_rfl) (by kernel_rfl) (by rfl) (fun _ _ _ h => h) (Or.inl ⟨by rfl, ?_⟩) hS_ (by (simp only [List.setIfInBounds_toArray, List.set_cons_succ, List.set_cons_zero]); rfl) ?_
      · intro w_ hSw_; (try dsimp only at hSw_); go_simp
      refine wpAnyH_done (by kernel_rfl) ?_ _
      go_wp2_with fail
      refine (heldTermS_is r.2.1 r.2.2.1 r.2.2.2.1 (q + 1) _ _ (by omega) (HT.out.up hb1') hb2).mono ?_; rintro e w2 ⟨rfl, hb2'⟩
      clear y1 y2 x1 x2
      have hnn : ¬ (((q + 1 + 2 * r.2.2.1 : Nat) : Int) < 0) := by omega
      go_wp2
      go_roundw
      case rel => exact ⟨l1 ++ [r], l2, by rw [HS.out, List.append_assoc]; rfl, by rw [markN_snoc, HQ.out]; go_num, by rw [List.length_append, HI.out]; go_num, belowThen hbd (belowThen hb1' hb2')⟩
      case measure => simp [intOf]; omega

theorem markN_small {n c lo hi : Nat} {w : World} {A : Option Addr} {rs : List Rf} {xs : List At} (h : IsRefs w lo hi A n c rs) (hx : rs.map rAt = xs) (hs : SmallAtoms n xs) : markN 1 rs ≤ 2 ^ 62 := by
  have h1 := markN_le 1048576 1 rs (fun r hr => by
    have h2 := hs.2 (rAt r) (by rw [← hx]; exact List.mem_map_of_mem hr)
    have h3 := ((RefsIn.of h) r hr).2.1
    show r.2.2.1 ≤ _
    rw [← h3]; exact h2)
  have h4 := h.1
  have h5 := hs.1
  have h6 : rs.length * (1 + 2 * 1048576) ≤ 1048576 * (1 + 2 * 1048576) := Nat.mul_le_mul_right _ (by omega)
  omega

end Go.Proofs.YtogonjkklioaaaaGreatDoor

namespace Go.Proofs.YtogonjkklioaaaaGreatDoor
open Go.RowKit


/-- A copy of atoms, in memory of its own. -/
def AtomSPost (n : Nat) (xs : List At) (w : World) (e : Ending) (w' : World) : Prop := ∃ g, e = .returned (.slice (some ⟨g, 0, none⟩) n n) ∧ w.heap.size ≤ g ∧ IsAtoms w' w.heap.size w'.heap.size (some ⟨g, 0, none⟩) n n xs ∧ Below w.heap.size w w'


set_option maxHeartbeats 1000000 in
theorem eqAtomS_any (A B : Option Addr) (n c n' c' : Nat) (xs ys : List At) (w : World) (h : IsAtoms w 0 w.heap.size A n c xs) (h' : IsAtoms w 0 w.heap.size B n' c' ys) :
    Calls Tryz.prog 76 #[.slice A n c, .slice B n' c'] w (BoolPost (listEq atomEq xs ys) w) := by
  have hm := h.len
  unfold maxLen at hm
  have H := Lib.hid h; clear h
  have H' := Lib.hid h'; clear h'
  by_cases hne : n = n'
  · subst hne
    go_enter Tryz.func76, Tryz.ntmps76
    go_wp2
    go_loopw [5] (fun i wr => ∃ k : Nat, k ≤ n ∧ i = .int .i64 k ∧ listEq atomEq (xs.drop k) (ys.drop k) = listEq atomEq xs ys ∧ Below w.heap.size w wr) (fun i _ => n - (intOf i).toNat)
    case atStart => exact ⟨0, Nat.zero_le _, rfl, rfl, Below.refl _ _⟩
    case round =>
      obtain ⟨k, hk, rfl, hd, hb⟩ := hrel
      have HD := Lib.hid hd; clear hd
      by_cases hlt : k < n
      · obtain ⟨p, q, hA, hlo, hhi, hg, hE⟩ := (H.out.below AtomE.stays hb (Nat.le_refl _)).at_ hlt
        obtain ⟨p', q', hA', hlo', hhi', hg', hE'⟩ := (H'.out.below AtomE.stays hb (Nat.le_refl _)).at_ hlt
        obtain ⟨C, m, d, d1, d3, d4, d5⟩ := hE.out
        obtain ⟨C', m', d', f1, f3, f4, f5⟩ := hE'.out
        clear hE hE'
        subst hA; subst hA'
        have HG := Lib.hid hg; clear hg
        have HG' := Lib.hid hg'; clear hg'
        have HT := Lib.hid (d5.keep (w' := wr.drew) (lo' := 0) (hi' := wr.drew.heap.size) (fun _ _ _ => rfl) (Nat.le_refl _) hb.size); clear d5
        have HT' := Lib.hid (f5.keep (w' := wr.drew) (lo' := 0) (hi' := wr.drew.heap.size) (fun _ _ _ => rfl) (Nat.le_refl _) hb.size); clear f5
        have hbd := hb.drew
        go_wp2_with fail
        go_region_with (go_at_call 105; refine (eqAtom_any _ _ _ _ _ _ _ _ q.2 q'.2 _ HT.out HT'.out).mono ?_; rintro e w1 ⟨rfl, hb1⟩)
        all_goals go_wp2
        all_goals first
          | (go_ret; exact ⟨retB (listEq_no HG.out HG'.out HD.out (by assumption)), belowThen hbd hb1⟩)
          | (go_roundw
             case rel => exact ⟨k + 1, by omega, by go_num, listEq_on HG.out HG'.out HD.out (by assumption), belowThen hbd hb1⟩
             case measure => simp [intOf]; omega)
      · have hl := Lib.hid H.out.1
        have hl' := Lib.hid H'.out.1
        go_wp2
        go_ret
        exact ⟨retB (listEq_end hl.out hl'.out HD.out hlt), hb⟩
  · have hlen : xs.length ≠ ys.length := by rw [H.out.1, H'.out.1]; exact hne
    go_enter Tryz.func76, Tryz.ntmps76
    go_wp2
    go_ret
    exact ⟨retB (listEq_len hlen).symm, Below.refl _ _⟩

end Go.Proofs.YtogonjkklioaaaaGreatDoor

namespace Go.Proofs.YtogonjkklioaaaaGreatDoor
open Go.RowKit

/-- A copy of atoms, in memory of its own from lo on. -/
def OwnSPost (n : Nat) (xs : List At) (w : World) (e : Ending) (w' : World) : Prop :=
  ∃ A rs, e = .returned (.slice A n n) ∧ OwnRefs w' w.heap.size w'.heap.size A n n rs ∧ rs.map rAt = xs ∧ Below w.heap.size w w'

theorem ownTermsRow {w : World} {g n lo hi : Nat} {ts : List Tm} (h : OwnTerms w g n ts) (h1 : lo ≤ g) (h2 : g < hi) : RowAt w lo hi 110 (some ⟨g, 0, none⟩) (n * 2) :=
  ⟨g, n * 2, tcell ts, rfl, h1, h2, h.2.2, Nat.le_refl _⟩

theorem set2_block {w : World} {g i j : Nat} {u v : Value} {b : Nat} (hb : b ≠ g) : ((w.setCell ⟨g, i, none⟩ u).setCell ⟨g, j, none⟩ v).heap[b]? = w.heap[b]? :=
  (Below.heap_setCell _ _ _ b hb).trans (Below.heap_setCell _ _ _ b hb)

theorem rcells_put {rs : List Rf} {r : Rf} {k : Nat} {f : Nat → Value} (hk : rs.length = k) (h : ∀ j u, (rcells rs)[j]? = some u → f j = u) :
    ∀ j u, (rcells (rs ++ [r]))[j]? = some u → (if j = k * 2 + 1 then .slice r.2.1 r.2.2.1 r.2.2.2.1 else if j = k * 2 then .string r.1 else f j) = u := by
  intro j u hu
  rw [rcells_snoc] at hu
  have hl := rcells_len rs
  by_cases h1 : j < (rcells rs).length
  · rw [List.getElem?_append_left h1] at hu
    rw [if_neg (by omega), if_neg (by omega)]
    exact h j u hu
  · rw [List.getElem?_append_right (by omega)] at hu
    have : j = k * 2 ∨ j = k * 2 + 1 := by
      have := (List.getElem?_eq_some_iff.1 hu).1
      simp at this; omega
    rcases this with rfl | rfl
    · rw [if_neg (by omega), if_pos rfl]
      rw [show k * 2 - (rcells rs).length = 0 by omega] at hu
      simpa using hu
    · rw [if_pos rfl]
      rw [show k * 2 + 1 - (rcells rs).length = 1 by omega] at hu
      simpa using hu


/-- A copy of a change, in memory of its own. -/
def OwnCPost (n n' : Nat) (xs ys : List At) (w : World) (e : Ending) (w' : World) : Prop :=
  ∃ A B ra rb mid, e = .returned (.agg #[.slice A n n, .slice B n' n']) ∧ (OwnRefs w' w.heap.size mid A n n ra ∧ ra.map rAt = xs) ∧ (OwnRefs w' mid w'.heap.size B n' n' rb ∧ rb.map rAt = ys) ∧ (w.heap.size ≤ mid ∧ mid ≤ w'.heap.size) ∧ Below w.heap.size w w'

/-- The two lists of a change are both small. -/
def SmallChange (n n' : Nat) (xs ys : List At) : Prop := SmallAtoms n xs ∧ SmallAtoms n' ys



/-- Are two changes the same? -/
def changeEq (xs ys xs' ys' : List At) : Bool := listEq atomEq xs xs' && listEq atomEq ys ys'

theorem changeEq_refl (xs ys : List At) : changeEq xs ys xs ys = true := by unfold changeEq; rw [listEq_refl atomEq_refl, listEq_refl atomEq_refl]; rfl
theorem changeEq_no1 {xs ys xs' ys' : List At} (h : (!listEq atomEq xs xs') = true) : changeEq xs ys xs' ys' = false := by unfold changeEq; rw [show listEq atomEq xs xs' = false by simpa using h]; rfl
theorem changeEq_on {xs ys xs' ys' : List At} (h : (!listEq atomEq xs xs') = false) : changeEq xs ys xs' ys' = listEq atomEq ys ys' := by unfold changeEq; rw [show listEq atomEq xs xs' = true by simpa using h]; rfl

set_option maxHeartbeats 1000000 in
theorem eqChange_any (A B : Option Addr) (n c n' c' : Nat) (A2 B2 : Option Addr) (m d m' d' : Nat) (xs ys xs' ys' : List At) (w : World) (h1 : IsAtoms w 0 w.heap.size A n c xs) (h2 : IsAtoms w 0 w.heap.size B n' c' ys) (h3 : IsAtoms w 0 w.heap.size A2 m d xs') (h4 : IsAtoms w 0 w.heap.size B2 m' d' ys') :
    Calls Tryz.prog 43 #[.agg #[.slice A n c, .slice B n' c'], .agg #[.slice A2 m d, .slice B2 m' d']] w (BoolPost (changeEq xs ys xs' ys') w) := by
  have H1 := Lib.hid h1; have H2 := Lib.hid h2; have H3 := Lib.hid h3; have H4 := Lib.hid h4
  clear h1 h2 h3 h4
  have hw2 := below2 w (.cells #[.slice A n c, .slice B n' c'] 25) (.cells #[.slice A2 m d, .slice B2 m' d'] 25)
  have X1 := Lib.hid ((Box.new w (.slice A n c) (.slice B n' c') 25).up (.cells #[.slice A2 m d, .slice B2 m' d'] 25))
  have Y1 := Lib.hid (Box.new2 w (.cells #[.slice A n c, .slice B n' c'] 25) (.slice A2 m d) (.slice B2 m' d') 25)
  go_enter Tryz.func43, Tryz.ntmps43
  go_wp2_with fail
  refine (eqAtomS_any A A2 n c m d xs xs' _ (H1.out.up AtomE.stays hw2) (H3.out.up AtomE.stays hw2)).mono ?_; rintro e w1 ⟨rfl, hb1⟩
  have HB1 := belowThen hw2 hb1
  obtain ⟨b0, b1, b2⟩ := X1.out.later hb1
  obtain ⟨d0, d1, d2⟩ := Y1.out.later hb1
  by_cases hx : (!listEq atomEq xs xs') = true
  · have E := Lib.hid (changeEq_no1 (ys := ys) (ys' := ys') hx)
    go_wp2
    go_ret; exact ⟨retB E.out.symm, HB1⟩
  · have hx' : (!listEq atomEq xs xs') = false := by simpa using hx
    clear hx
    have E := Lib.hid (changeEq_on (ys := ys) (ys' := ys') hx')
    go_wp2_with fail
    refine (eqAtomS_any B B2 n' c' m' d' ys ys' _ (H2.out.up AtomE.stays HB1) (H4.out.up AtomE.stays HB1)).mono ?_; rintro e w2 ⟨rfl, hb2⟩
    go_wp2
    all_goals
      go_ret; refine ⟨retB ?_, belowThen HB1 hb2⟩; rw [E.out]; simp_all

end Go.Proofs.YtogonjkklioaaaaGreatDoor
