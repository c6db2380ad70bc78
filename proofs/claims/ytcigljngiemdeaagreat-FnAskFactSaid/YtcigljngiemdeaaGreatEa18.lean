/-
  Texts of one claim, put together.
-/
import Derived.Test.YtcigljngiemdeaaGreatEa17
import Derived.Lib.AppendZeros
namespace Go.Proofs.YtcigljngiemdeaaGreat
open Go.RowKit

theorem Tryz.infoPrt : (Tryz.prog.info? 52).map (fun i => (i.zero, i.size, i.bytes)) = some (some (.agg #[.bool false, .string ⟨#[]⟩, .slice none 0 0]), 3, 48) := by kernel_rfl

/-- Parts were parted. -/
def SplitPost (hiT : Nat) (qs : List Pr) (w : World) (e : Ending) (w' : World) : Prop := ∃ A n c B m d, e = .returned (.tuple #[.slice A n c, .slice B m d]) ∧
  PartsIn w' hiT (fun k => w.heap.size ≤ k) A n c (qs.filter fun q => !q.no) ∧ PartsIn w' hiT (fun k => w.heap.size ≤ k) B m d (qs.filter fun q => q.no) ∧ Below w.heap.size w w'

/-- Two rows in the making. -/
structure SplitIn (w : World) (hiT : Nat) (v u : Value) (ps ns : List Pr) (W : World) : Prop where
  V : W.ownsRow w.heap.size 52 3 v ps.length (psCells ps)
  U : W.ownsRow w.heap.size 52 3 u ns.length (psCells ns)
  apart : ∀ g, v.ownBlock = some g → u.ownBlock ≠ some g
  gr : Below w.heap.size w W

theorem SplitIn.swap {w : World} {hiT : Nat} {v u : Value} {ps ns : List Pr} {W : World} (h : SplitIn w hiT v u ps ns W) : SplitIn w hiT u v ns ps W := ⟨h.U, h.V, fun g e e' => h.apart g e' e, h.gr⟩

theorem SplitIn.below {w : World} {hiT : Nat} {v u : Value} {ps ns : List Pr} {W W' : World} (h : SplitIn w hiT v u ps ns W) (hb : Below W.heap.size W W') : SplitIn w hiT v u ps ns W' :=
  ⟨ownsRow_up h.V hb, ownsRow_up h.U hb, h.apart, belowThen h.gr hb⟩

/-- One more in the first row: how it is appended. -/
theorem SplitIn.more {w : World} {hiT : Nat} {v u : Value} {ps ns : List Pr} {W W1 : World} {q : Pr} {P : Nat} (h : SplitIn w hiT v u ps ns W) (hb : Below W.heap.size W W1) (hP : Blk W1 P 52 (pcells q).toArray) (hl : ps.length ≤ 1000000) :
    ∃ g m cap W2, (Builtin.append_ #[30, 30] 30 #[v, .slice (some ⟨P, 0, none⟩) 1 1]).run Tryz.prog W1 = .ok (.slice (some ⟨g, 0, none⟩) m cap) W2 ∧ SplitIn w hiT (.slice (some ⟨g, 0, none⟩) m cap) u (ps ++ [q]) ns W2 := by
  have h1 := h.below hb
  obtain ⟨i0, hi0, hz0, hsz0, hby0⟩ := info_parts Tryz.infoPrt
  have hs1 := h1.gr.size
  obtain ⟨g, cap, W2, hr, hown, hg, hlies, _⟩ := run_append_lies (P := Tryz.prog) W1 30 30 w.heap.size 52 i0 _ 3 48 Tryz.underlying30 hi0 hz0 hsz0 hby0 rfl (by omega) v ps.length (psCells ps) h1.V ⟨P, 0, none⟩ 1 1 (pcells q) (by rfl) (World.news_of_block hP) (by intro u hu; unfold pcells at hu; simp at hu; rcases hu with rfl | rfl | rfl <;> rfl) (by omega) (by unfold maxLen; omega) (by omega) hs1 W1.heap.size rfl
  refine ⟨g, _, cap, W2, hr, by rw [psCells_snoc, List.length_append]; exact hown, h1.U.kept hg ?_, ?_, h1.gr.grown hg hs1 (fun j e => (h1.V.lt j e).1)⟩
  · cases ho : u.ownBlock with
    | none => exact .inl rfl
    | some k => exact .inr (fun e => h1.apart k e.symm ho)
  · intro k hk e
    obtain rfl : g = k := by simpa [Value.ownBlock] using hk
    rcases hlies with e' | e'
    · exact h1.apart _ e' e
    · have := (h1.U.lt _ e).2; omega

theorem filter_yes {α : Type} {p : α → Bool} {xs : List α} {k : Nat} {x : α} (h : xs[k]? = some x) (hp : p x = true) : (xs.take (k + 1)).filter p = (xs.take k).filter p ++ [x] := by
  rw [List.take_add_one, h, List.filter_append]; simp [hp]
theorem filter_not {α : Type} {p : α → Bool} {xs : List α} {k : Nat} {x : α} (h : xs[k]? = some x) (hp : p x = false) : (xs.take (k + 1)).filter p = (xs.take k).filter p := by
  rw [List.take_add_one, h, List.filter_append]; simp [hp]
theorem filter_few {α : Type} (p : α → Bool) (xs : List α) (k : Nat) : ((xs.take k).filter p).length ≤ k := Nat.le_trans (List.length_filter_le _ _) (by rw [List.length_take]; omega)

set_option maxRecDepth 100000 in
set_option maxHeartbeats 8000000 in
theorem implSplit_any (hiT : Nat) (Ok : Nat → Prop) (A : Option Addr) (n c : Nat) (qs : List Pr) (w : World) (h : PartsIn w hiT Ok A n c qs) (hT : hiT ≤ w.heap.size) (hL : n ≤ 1000) :
    Calls Tryz.prog 46 #[.slice A n c] w (SplitPost hiT qs w) := by
  have H := Lib.hid h; have HC := Lib.hid h.cap; have HM := Lib.hid h.max; have HL := Lib.hid h.len
  have hcap := h.cap; have hmax := h.max
  unfold maxLen at hmax
  clear h
  have h0 : SplitIn w hiT (.slice none 0 0) (.slice none 0 0) [] [] w := ⟨World.ownsRow_nil _ _ _ _, World.ownsRow_nil _ _ _ _, (fun g e => by cases e), Below.refl _ _⟩
  have H0 := Lib.hid h0
  clear h0
  go_enter Tryz.func46, Tryz.ntmps46
  go_wp2
  go_loopw [4, 5, 10] (fun v u i wr => ∃ k : Nat, k ≤ n ∧ i = .int .i64 (k : Int) ∧ SplitIn w hiT v u ((qs.take k).filter fun q => !q.no) ((qs.take k).filter fun q => q.no) wr) (fun _ _ i _ => n - (intOf i).toNat)
  case atStart => exact ⟨0, Nat.zero_le _, rfl, H0.out⟩
  case round =>
    clear H0
    obtain ⟨k, hk, rfl, hS⟩ := hrel
    have HS := Lib.hid hS
    clear hS
    by_cases hlt : k < n
    · have hltI : (k : Int) < (n : Int) := by omega
      obtain ⟨p, q, hA, _, hpb, hq, z0, z1, z2⟩ := (H.out.up hT HS.out.gr).at_ hlt
      subst hA
      have HQ := Lib.hid hq
      have xb := Blk.new wr 52 #[.bool q.no, .string q.nm, .slice q.A q.n q.c]
      obtain ⟨w4, hq4⟩ : ∃ w4, wr.alloc (.cells #[.bool q.no, .string q.nm, .slice q.A q.n q.c] 52) = w4 := ⟨_, rfl⟩
      have hb4 : Below wr.heap.size wr w4 := by rw [← hq4]; exact below1 _ _
      rw [hq4] at xb
      have y0 := xb.cell 0; have y1 := xb.cell 1; have y2 := xb.cell 2
      simp at y0 y1 y2
      have hb5 := belowThen hb4 (below1 w4 (.cells #[.bool q.no, .string q.nm, .slice q.A q.n q.c] 52))
      have HQ4 := Lib.hid hq4
      clear hq hpb hq4
      cases hno : q.no with
      | true =>
        obtain ⟨g, m, cap, W2, hr, hS2⟩ := HS.out.swap.more (q := q) (P := w4.heap.size) hb5 (Blk.new w4 _ _) (Nat.le_trans (filter_few _ _ _) (by omega))
        rw [hno] at hr HQ4 z0 y0
        have HR := Lib.hid hr
        have HS2 := Lib.hid hS2.swap
        clear hr hS2 hb4 hb5 xb
        go_wp2_with (first | rw [HQ4.out] | (at_builtin; refine wpList_append_at rfl rfl rfl rfl rfl HR.out ?_))
        refine ⟨⟨k + 1, by omega, by go_num, ?_⟩, by simp [intOf]; omega⟩
        rw [filter_yes HQ.out hno, filter_not HQ.out (by rw [hno]; rfl)]
        exact HS2.out
      | false =>
        obtain ⟨g, m, cap, W2, hr, hS2⟩ := HS.out.more (q := q) (P := w4.heap.size) hb5 (Blk.new w4 _ _) (Nat.le_trans (filter_few _ _ _) (by omega))
        rw [hno] at hr HQ4 z0 y0
        have HR := Lib.hid hr
        have HS2 := Lib.hid hS2
        clear hr hS2 hb4 hb5 xb
        go_wp2_with (first | rw [HQ4.out] | (at_builtin; refine wpList_append_at rfl rfl rfl rfl rfl HR.out ?_))
        refine ⟨⟨k + 1, by omega, by go_num, ?_⟩, by simp [intOf]; omega⟩
        rw [filter_not HQ.out hno, filter_yes HQ.out (by rw [hno]; rfl)]
        exact HS2.out
    · have hkn : qs.take k = qs := List.take_of_length_le (by have := HL.out; omega)
      have hS := HS.out
      rw [hkn] at hS
      have hqs := (H.out.up hT hS.gr).ok
      obtain ⟨A1, c1, rfl, hP1⟩ := PartsIn.own (hiT := hiT) (Ok := fun k => w.heap.size ≤ k) hS.V (fun q hq => hqs q (List.mem_filter.1 hq).1) (fun g e => (hS.V.lt g e).1)
      obtain ⟨A2, c2, rfl, hP2⟩ := PartsIn.own (hiT := hiT) (Ok := fun k => w.heap.size ≤ k) hS.U (fun q hq => hqs q (List.mem_filter.1 hq).1) (fun g e => (hS.U.lt g e).1)
      have HP1 := Lib.hid hP1; have HP2 := Lib.hid hP2; have HG := Lib.hid hS.gr
      clear hP1 hP2 hS hqs hkn
      go_wp2
      refine bodyPost_ret (v := .tuple #[.slice A1 _ c1, .slice A2 _ c2]) (by simp [results, Tryz.results46, go_sem]) rfl ⟨_, _, _, _, _, _, rfl, HP1.out, HP2.out, HG.out⟩

theorem size_zeroCells (z : Array Value) : ∀ n : Nat, (Builtin.zeroCells z n).size = n * z.size := by
  intro n
  unfold Builtin.zeroCells
  simp

/-- append of nothing. -/
theorem run_append_none {P : Program} (w : World) (t e : TypeId) (ty : TypeId) (i : TypeInfo) (ht : P.underlying t = some (.slice e)) (hi : P.info? e = some i) (A : Option Addr) (n c : Nat) (hn : n ≤ c) (B : Option Addr) (d : Nat) :
    (Builtin.append_ #[t, t] ty #[.slice A n c, .slice B 0 d]).run P w = .ok (.slice A n c) w := by
  have hlen : (Builtin.lenOf (.slice B 0 d)).run P w = .ok 0 w := by simp [Builtin.lenOf]
  have hcells : (Builtin.firstCells i.size 0 (.slice B 0 d)).run P w = .ok #[] w := by
    cases B with
    | none => exact run_firstCells_none w _ _ _ _
    | some b => exact run_firstCells_some w i.size 0 b 0 d [] (by simp) (fun j v h => by simp at h)
  cases A <;> simp [Builtin.append_, run_underlying ht, sizeOf, typeInfo, hi, hlen, hn, hcells, storeCells]

set_option maxRecDepth 100000 in
set_option maxHeartbeats 4000000 in
theorem implGrow_any (k : Nat) (w : World) (hk : k ≤ 1000000) :
    Calls Tryz.prog 99 #[.slice none 0 0, .int .i64 (k : Int)] w fun e w' => ∃ v, e = .returned v ∧ w'.ownsRow w.heap.size 52 3 v 0 [] ∧ Below w.heap.size w w' := by
  obtain ⟨i0, hi0, hz0, hsz0, hby0⟩ := info_parts Tryz.infoPrt
  go_enter Tryz.func99, Tryz.ntmps99
  by_cases h0 : k = 0
  · subst h0
    go_wp2
    go_ret
    exact ⟨_, rfl, World.ownsRow_nil _ _ _ _, Below.refl _ _⟩
  · have hkI : ¬ (k : Int) < 0 := by omega
    have hkp : (0 : Int) < (k : Int) := by omega
    have hw : IntKind.i64.wrap ((k : Int) - 0) = (k : Int) := by rw [IntKind.wrap_i64]; omega
    have hz : IntKind.i64.wrap (0 - 0 : Int) = 0 := by rw [IntKind.wrap_i64]; omega
    have hrun := Lib.run_append_nil_zeros (P := Tryz.prog) w 30 3 30 52 i0 _ .i64 .i64 Tryz.underlying30 Tryz.underlying3 hi0 hz0 k (by omega) (by omega) (by omega) (by rw [hby0]; omega)
    have HR := Lib.hid hrun
    clear hrun
    go_wp2_with (first | (at_builtin; refine Lib.wpList_append_run _ rfl _ _ _ _ rfl _ _ rfl rfl _ _ HR.out ?_))
    have hc1 := grownCap_ge w k 0 52
    have hc2 := grownCap_le_maxLen w k 0 52 (by unfold maxLen; omega)
    refine bodyPost_ret (v := .slice (some ⟨w.heap.size, 0, none⟩) 0 (grownCap w k 0 52)) (by simp [results, Tryz.results99, go_sem]) rfl ⟨_, rfl, ?_, (below1 w _).drew⟩
    refine World.ownsRow_made w _ _ (Nat.le_refl _) hc2 ?_
    rw [Array.size_append, size_zeroCells, size_zeroCells]
    show k * 3 + (grownCap w k 0 52 - k) * 3 = _
    omega

/-- Two slices of parts were put one behind the other. -/
def ConcatPost (hiT : Nat) (qs : List Pr) (w : World) (e : Ending) (w' : World) : Prop := ∃ A c, e = .returned (.slice A qs.length c) ∧ PartsIn w' hiT (fun k => w.heap.size ≤ k) A qs.length c qs ∧ Below w.heap.size w w'

/-- A row of parts to which a slice of parts is appended. -/
theorem append_parts {w W : World} {v : Value} {hiT n c : Nat} {Ok : Nat → Prop} {B : Option Addr} {ps qs : List Pr} (hown : W.ownsRow w.heap.size 52 3 v ps.length (psCells ps)) (hgr : Below w.heap.size w W) (hq : PartsIn W hiT Ok B n c qs) (hl : ps.length + n ≤ 1000000) :
    ∃ v' W', (Builtin.append_ #[30, 30] 30 #[v, .slice B n c]).run Tryz.prog W = .ok v' W' ∧ W'.ownsRow w.heap.size 52 3 v' (ps ++ qs).length (psCells (ps ++ qs)) ∧ Below w.heap.size w W' ∧ W.grownBy W' v.ownBlock := by
  obtain ⟨i0, hi0, hz0, hsz0, hby0⟩ := info_parts Tryz.infoPrt
  by_cases h0 : n = 0
  · subst h0
    have e0 : qs = [] := List.length_eq_zero_iff.1 hq.len
    subst e0
    rw [List.append_nil]
    obtain ⟨A1, n1, c1, rfl, h1⟩ : ∃ A1 n1 c1, v = .slice A1 n1 c1 ∧ n1 ≤ c1 := by
      rcases hown.2 with ⟨e, _⟩ | ⟨g, cap, cur, e, _, _, h1, _⟩
      · exact ⟨_, _, _, e, Nat.le_refl _⟩
      · exact ⟨_, _, _, e, h1⟩
    exact ⟨_, W, run_append_none W _ 52 _ i0 Tryz.underlying30 hi0 A1 n1 c1 h1 B c, hown, hgr, ⟨rfl, rfl, rfl, Nat.le_refl _, fun _ _ _ => rfl⟩⟩
  · obtain ⟨p, hp, _, _, hcell⟩ := hq.row (by omega)
    subst hp
    have hs := hgr.size
    obtain ⟨g, cap, W', hr, h1, h2, _, _⟩ := run_append_lies (P := Tryz.prog) W 30 30 w.heap.size 52 i0 _ 3 48 Tryz.underlying30 hi0 hz0 hsz0 hby0 rfl (by omega) v ps.length (psCells ps) hown p n c (psCells qs) (by rw [psCells_len, hq.len]) hcell (psCells_one qs) (by omega) (by unfold maxLen; omega) (by omega) hs W.heap.size rfl
    refine ⟨_, W', hr, ?_, hgr.grown h2 hs (fun j e => (hown.lt j e).1), h2⟩
    rw [psCells_append, List.length_append, hq.len]; exact h1

set_option maxRecDepth 100000 in
set_option maxHeartbeats 8000000 in
theorem implConcat_any (hiT : Nat) (Ok : Nat → Prop) (A : Option Addr) (n c : Nat) (qs : List Pr) (B : Option Addr) (m d : Nat) (ps : List Pr) (R : Nat) (w : World) (hA : PartsIn w hiT Ok A n c qs) (hB : PartsIn w hiT Ok B m d ps) (hR : Blk w R 30 #[.slice A n c, .slice B m d]) (hT : hiT ≤ w.heap.size) (hn : n ≤ 1000) (hm : m ≤ 1000) :
    Calls Tryz.prog 48 #[.slice (some ⟨R, 0, none⟩) 2 2] w (ConcatPost hiT (qs ++ ps) w) := by
  have HA := Lib.hid hA; have HB := Lib.hid hB; have HR := Lib.hid hR
  have r0 := hR.cell 0; have r1 := hR.cell 1
  simp at r0 r1
  clear hA hB hR
  go_enter Tryz.func48, Tryz.ntmps48
  go_wp2
  go_loopw [3, 11] (fun s i wr => ∃ k : Nat, k ≤ 2 ∧ i = .int .i64 (k : Int) ∧ s = .int .i64 (((if 0 < k then n else 0) + (if 1 < k then m else 0) : Nat) : Int) ∧ wr = w) (fun _ i _ => 2 - (intOf i).toNat)
  case atStart => exact ⟨0, by omega, rfl, rfl, rfl⟩
  case round =>
    obtain ⟨k, hk, rfl, rfl, rfl⟩ := hrel
    have hk3 : k = 0 ∨ k = 1 ∨ k = 2 := by omega
    rcases hk3 with e | e | e
    · subst e
      have h1 : ¬ (n : Int) < 0 := by omega
      have h2 : IntKind.i64.wrap (0 + (n : Int)) = (n : Int) := by rw [IntKind.wrap_i64]; omega
      go_wp2
      exact ⟨⟨1, by omega, rfl, by simp, trivial⟩, by simp [intOf]⟩
    · subst e
      have h1 : ¬ ((n : Int) + (m : Int)) < 0 := by omega
      have h2 : IntKind.i64.wrap ((n : Int) + (m : Int)) = (n : Int) + (m : Int) := by rw [IntKind.wrap_i64]; omega
      go_wp2
      exact ⟨⟨2, by omega, rfl, by simp, trivial⟩, by simp [intOf]⟩
    · subst e
      obtain ⟨w0, hw0⟩ : ∃ w0 : World, w0 = wr := ⟨_, rfl⟩
      subst hw0
      have HAL := Lib.hid HA.out.len; have HBL := Lib.hid HB.out.len
      go_wp2_with fail
      refine (implGrow_any (n + m) w0 (by omega)).mono ?_; rintro e w2 ⟨v, rfl, hown, hb⟩
      have HO := Lib.hid hown; have HG := Lib.hid hb
      clear hown hb
      go_wp2
      clear r0 r1
      go_loopw [6, 27] (fun v i W => ∃ k : Nat, k ≤ 2 ∧ i = .int .i64 (k : Int) ∧ W.ownsRow w0.heap.size 52 3 v ((if 0 < k then qs else []) ++ (if 1 < k then ps else [])).length (psCells ((if 0 < k then qs else []) ++ (if 1 < k then ps else []))) ∧ Below w0.heap.size w0 W) (fun _ i _ => 2 - (intOf i).toNat)
      case atStart => exact ⟨0, by omega, rfl, HO.out, HG.out⟩
      case round =>
        clear HO HG
        obtain ⟨k, hk, rfl, hO, hG⟩ := hrel
        have HG := Lib.hid hG
        have hR := HR.out.below hG
        have r0 := hR.cell 0; have r1 := hR.cell 1
        simp at r0 r1
        clear hR
        have hk3 : k = 0 ∨ k = 1 ∨ k = 2 := by omega
        rcases hk3 with e | e | e
        · subst e
          obtain ⟨v', W', hrun, hO', hG', _⟩ := append_parts (ps := []) hO hG (HA.out.up hT hG) (by have := HAL.out; simp; omega)
          have HRU := Lib.hid hrun; have HO := Lib.hid hO'; have HG1 := Lib.hid hG'
          clear hrun hO' hG' hO hG
          go_wp2_with (first | (at_builtin; refine wpList_append_at rfl rfl rfl rfl rfl HRU.out ?_))
          exact ⟨⟨1, by omega, rfl, by simpa using HO.out, HG1.out⟩, by simp [intOf]⟩
        · subst e
          have hO2 : wr.ownsRow w0.heap.size 52 3 u6 qs.length (psCells qs) := by simpa using hO
          obtain ⟨v', W', hrun, hO', hG', _⟩ := append_parts hO2 hG (HB.out.up hT hG) (by have := HAL.out; omega)
          have HRU := Lib.hid hrun; have HO := Lib.hid hO'; have HG1 := Lib.hid hG'
          clear hrun hO' hG' hO hO2 hG
          go_wp2_with (first | (at_builtin; refine wpList_append_at rfl rfl rfl rfl rfl HRU.out ?_))
          exact ⟨⟨2, by omega, rfl, by simpa using HO.out, HG1.out⟩, by simp [intOf]⟩
        · subst e
          have hO2 : wr.ownsRow w0.heap.size 52 3 u6 (qs ++ ps).length (psCells (qs ++ ps)) := by simpa using hO
          obtain ⟨A1, c1, hv, hP⟩ := PartsIn.own (hiT := hiT) (Ok := fun k => w0.heap.size ≤ k) hO2 (fun q hq => by
            rcases List.mem_append.1 hq with h | h
            · exact (HA.out.up hT hG).ok q h
            · exact (HB.out.up hT hG).ok q h) (fun g e => (hO2.lt g e).1)
          subst hv
          have HP := Lib.hid hP
          clear hP hO hO2 hG
          go_wp2
          exact bodyPost_ret (v := .slice A1 (qs ++ ps).length c1) (by simp [results, Tryz.results48, go_sem]) rfl ⟨A1, c1, rfl, HP.out, HG.out⟩

set_option maxRecDepth 100000 in
set_option maxHeartbeats 4000000 in
theorem implShares_any (g bb pb : Nat) (b : Bd) (p q : Pr) (hiT : Nat) (w : World) (h : BdIn w g b) (hg : g < w.heap.size) (hbb : Blk w bb 71 #[.pointer (some ⟨g, 0, none⟩)]) (hpb : Blk w pb 52 #[.bool p.no, .string p.nm, .slice p.A p.n p.c])
    (hp : PrOk w hiT p) (hq : PrOk w hiT q) (hT : hiT ≤ w.heap.size) :
    Calls Tryz.prog 172 #[.agg #[.bool q.no, .string q.nm, .slice q.A q.n q.c], .pointer (some ⟨bb, 0, none⟩), .pointer (some ⟨pb, 0, none⟩)] w fun e w' => e = .returned (.bool (shareB b p.pt.2 q.pt.2)) ∧ Below w.heap.size w w' := by
  have hb1 := below1 w (.cells #[.bool q.no, .string q.nm, .slice q.A q.n q.c] 52)
  have xq := Blk.new w 52 #[.bool q.no, .string q.nm, .slice q.A q.n q.c]
  obtain ⟨w1, hq1⟩ : ∃ w1, w.alloc (.cells #[.bool q.no, .string q.nm, .slice q.A q.n q.c] 52) = w1 := ⟨_, rfl⟩
  rw [hq1] at hb1 xq
  have z0 := (hbb.below hb1).cell 0
  have p1 := (hpb.below hb1).cell 1; have p2 := (hpb.below hb1).cell 2
  have q1 := xq.cell 1; have q2 := xq.cell 2
  simp at z0 p1 p2 q1 q2
  have hsz := hb1.size
  have hs := shareOpen_any g b p.nm q.nm p.A p.n p.c p.ts q.A q.n q.c q.ts w1 (h.keep (fun j => hb1.cell hg) (fun j => hb1.frozen hg)) (by omega)
    ((hp.2.2.keep (fun x _ hx => hb1.cell (by omega)) (Nat.le_refl _) (Nat.le_refl _)).keep (fun _ _ _ => rfl) (Nat.le_refl _) (by omega)) ((hq.2.2.keep (fun x _ hx => hb1.cell (by omega)) (Nat.le_refl _) (Nat.le_refl _)).keep (fun _ _ _ => rfl) (Nat.le_refl _) (by omega))
  obtain ⟨k, hk⟩ : ∃ k, shareB b p.pt.2 q.pt.2 = k := ⟨_, rfl⟩
  have hs' : shareB b (p.nm, p.ts) (q.nm, q.ts) = k := hk
  rw [hs'] at hs
  rw [hk]
  have HS := Lib.hid hs; have HQ1 := Lib.hid hq1; have HB := Lib.hid hb1
  clear hs hq1 hb1 xq h hbb hpb hp hq hk hs'
  go_enter Tryz.func172, Tryz.ntmps172
  go_wp2_with (rw [HQ1.out])
  refine HS.out.mono ?_; rintro e w2 ⟨rfl, hb2⟩
  go_wp2
  refine bodyPost_ret (v := .bool k) (by simp [results, Tryz.results172, go_sem]) rfl ⟨rfl, belowThen HB.out hb2⟩

theorem joins_snoc {b : Bd} {p : Pt} {qs : List Pr} {k n : Nat} (h : ∀ j q, j < k → qs[j]? = some q → shareB b p.2 q.pt.2 = false) (hk : ¬ k < n) (hn : qs.length = n) : joinsB b p (qs.map Pr.pt) = false := by
  cases hj : joinsB b p (qs.map Pr.pt) with
  | false => rfl
  | true =>
    unfold joinsB at hj
    obtain ⟨x, h1, h2⟩ := List.any_eq_true.1 hj
    obtain ⟨q, hq, rfl⟩ := List.mem_map.1 h1
    obtain ⟨j, hj⟩ := List.getElem?_of_mem hq
    have := (List.getElem?_eq_some_iff.1 hj).1
    rw [h j q (by omega) hj] at h2; cases h2

theorem joins_hit {b : Bd} {p : Pt} {qs : List Pr} {q : Pr} (h : q ∈ qs) (hs : shareB b p.2 q.pt.2 = true) : joinsB b p (qs.map Pr.pt) = true := by
  unfold joinsB
  exact List.any_eq_true.2 ⟨_, List.mem_map.2 ⟨q, h, rfl⟩, hs⟩

/-- An index was told, if there is one. -/
def FoundPost (p : Bool) (w : World) (e : Ending) (w' : World) : Prop := (∃ k : Int, e = .returned (.int .i64 k) ∧ (if p = true then 0 ≤ k else k = -1)) ∧ Below w.heap.size w w'

set_option maxRecDepth 100000 in
set_option maxHeartbeats 4000000 in
theorem implIndexFn_any (g bb pb : Nat) (b : Bd) (p : Pr) (hiT : Nat) (Ok : Nat → Prop) (A : Option Addr) (n c : Nat) (qs : List Pr) (w : World) (h : BdIn w g b) (hg : g < w.heap.size) (hbb : Blk w bb 71 #[.pointer (some ⟨g, 0, none⟩)]) (hpb : Blk w pb 52 #[.bool p.no, .string p.nm, .slice p.A p.n p.c])
    (hp : PrOk w hiT p) (hq : PartsIn w hiT Ok A n c qs) (hT : hiT ≤ w.heap.size) :
    Calls Tryz.prog 193 #[.slice A n c, .func (.func 172) #[] #[.pointer (some ⟨bb, 0, none⟩), .pointer (some ⟨pb, 0, none⟩)]] w (FoundPost (joinsB b p.pt (qs.map Pr.pt)) w) := by
  obtain ⟨r, hr⟩ : ∃ r, joinsB b p.pt (qs.map Pr.pt) = r := ⟨_, rfl⟩
  have HR := Lib.hid hr
  rw [hr]
  have H := Lib.hid h; have HG := Lib.hid hg; have HBB := Lib.hid hbb; have HPB := Lib.hid hpb; have HP := Lib.hid hp; have HQ := Lib.hid hq; have HL := Lib.hid hq.len
  have hcap := hq.cap; have hmax := hq.max
  unfold maxLen at hmax
  clear h hg hbb hpb hp hq hr
  go_enter Tryz.func193, Tryz.ntmps193
  go_wp2
  go_loopw [8] (fun i wr => ∃ k : Nat, k ≤ n ∧ i = .int .i64 (k : Int) ∧ (∀ j q, j < k → qs[j]? = some q → shareB b p.pt.2 q.pt.2 = false) ∧ Below w.heap.size w wr) (fun i _ => n - (intOf i).toNat)
  case atStart => exact ⟨0, Nat.zero_le _, rfl, fun j q hj => absurd hj (Nat.not_lt_zero _), Below.refl _ _⟩
  case round =>
    obtain ⟨k, hk, rfl, hl, hb⟩ := hrel
    have HLL := Lib.hid hl; have HB := Lib.hid hb
    clear hl hb
    by_cases hlt : k < n
    · have hltI : (k : Int) < (n : Int) := by omega
      have HQ2 := HQ.out.up hT HB.out
      obtain ⟨pa, q, hA, _, hpb, hqk, z0, z1, z2⟩ := HQ2.at_ hlt
      subst hA
      have hsh := implShares_any g bb pb b p q hiT wr (H.out.keep (fun j => HB.out.cell HG.out) (fun j => HB.out.frozen HG.out)) (Nat.lt_of_lt_of_le HG.out HB.out.size) (HBB.out.below HB.out) (HPB.out.below HB.out) (HP.out.keep fun k hk => HB.out.block k (by omega)) (HQ2.ok q (List.mem_of_getElem? hqk)) (Nat.le_trans hT HB.out.size)
      have HSH := Lib.hid hsh; have HQK := Lib.hid hqk
      clear hsh hqk HQ2 hpb
      go_wp2_with fail
      refine HSH.out.mono ?_; rintro e w2 ⟨rfl, hb2⟩
      have HB2 := Lib.hid (belowThen HB.out hb2)
      clear HSH hb2 z0 z1 z2
      cases hs : shareB b p.pt.2 q.pt.2 with
      | true =>
        have hr := joins_hit (List.mem_of_getElem? HQK.out) hs
        rw [HR.out] at hr
        subst hr
        go_wp2
        refine bodyPost_ret (v := .int .i64 (k : Int)) (by simp [results, Tryz.results193, go_sem]) rfl ⟨⟨k, rfl, by simp⟩, HB2.out⟩
      | false =>
        have HS := Lib.hid hs
        clear hs
        go_wp2
        refine ⟨⟨k + 1, by omega, by go_num, fun j x hj hx => ?_, HB2.out⟩, by simp [intOf]; omega⟩
        by_cases e : j = k
        · subst e; rw [HQK.out] at hx; injection hx with hx; rw [← hx]; exact HS.out
        · exact HLL.out j x (by omega) hx
    · have hr := joins_snoc (b := b) (p := p.pt) HLL.out hlt HL.out
      rw [HR.out] at hr
      subst hr
      go_wp2
      refine bodyPost_ret (v := .int .i64 (-1)) (by simp [results, Tryz.results193, go_sem]) rfl ⟨⟨-1, rfl, by simp⟩, HB.out⟩

set_option maxRecDepth 100000 in
set_option maxHeartbeats 4000000 in
theorem implContainsFn_any (g bb pb : Nat) (b : Bd) (p : Pr) (hiT : Nat) (Ok : Nat → Prop) (A : Option Addr) (n c : Nat) (qs : List Pr) (w : World) (h : BdIn w g b) (hg : g < w.heap.size) (hbb : Blk w bb 71 #[.pointer (some ⟨g, 0, none⟩)]) (hpb : Blk w pb 52 #[.bool p.no, .string p.nm, .slice p.A p.n p.c])
    (hp : PrOk w hiT p) (hq : PartsIn w hiT Ok A n c qs) (hT : hiT ≤ w.heap.size) :
    Calls Tryz.prog 171 #[.slice A n c, .func (.func 172) #[] #[.pointer (some ⟨bb, 0, none⟩), .pointer (some ⟨pb, 0, none⟩)]] w fun e w' => e = .returned (.bool (joinsB b p.pt (qs.map Pr.pt))) ∧ Below w.heap.size w w' := by
  have hi := implIndexFn_any g bb pb b p hiT Ok A n c qs w h hg hbb hpb hp hq hT
  obtain ⟨r, hr⟩ : ∃ r, joinsB b p.pt (qs.map Pr.pt) = r := ⟨_, rfl⟩
  rw [hr] at hi ⊢
  have HI := Lib.hid hi
  clear hi h hg hbb hpb hp hq hr
  go_enter Tryz.func171, Tryz.ntmps171
  go_wp2_with fail
  refine HI.out.mono ?_; rintro e w2 ⟨⟨k, rfl, hk⟩, hb2⟩
  cases r with
  | true =>
    have hk2 : (0 : Int) ≤ k := by simpa using hk
    go_wp2
    go_ret
    exact ⟨rfl, hb2⟩
  | false =>
    have hk2 : k = -1 := by simpa using hk
    subst hk2
    go_wp2
    go_ret
    exact ⟨rfl, hb2⟩

/-- A group by value. -/
structure Gp where
  A : Option Addr
  n : Nat
  c : Nat
  qs : List Pr

def Gp.v (G : Gp) : Value := .slice G.A G.n G.c
def Gp.pts (G : Gp) : List Pt := G.qs.map Pr.pt
def gsCells (gs : List Gp) : List Value := gs.map Gp.v

/-- A row of groups of the call's own. -/
structure GsIn (w : World) (hiT base : Nat) (v : Value) (gs : List Gp) : Prop where
  row : w.ownsRow base 30 1 v gs.length (gsCells gs)
  ok : ∀ G ∈ gs, w.ownsRow base 52 3 G.v G.qs.length (psCells G.qs) ∧ ∀ q ∈ G.qs, PrOk w hiT q

theorem rows_apart {W : World} {a b T1 T2 s1 s2 n1 n2 : Nat} {v1 v2 : Value} {x1 x2 : List Value} (h1 : W.ownsRow a T1 s1 v1 n1 x1) (h2 : W.ownsRow b T2 s2 v2 n2 x2) (hne : T1 ≠ T2) : v1.ownBlock = none ∨ v1.ownBlock ≠ v2.ownBlock := by
  rcases h1.2 with ⟨e, _⟩ | ⟨g, cap, cur, e, _, hg, _⟩
  · exact .inl (by rw [e]; rfl)
  · refine .inr fun e' => ?_
    rcases h2.2 with ⟨e2, _⟩ | ⟨g2, cap2, cur2, e2, _, hg2, _⟩
    · rw [e, e2] at e'; cases e'
    · rw [e, e2] at e'
      obtain rfl : g = g2 := by simpa [Value.ownBlock] using e'
      rw [hg] at hg2
      simp at hg2
      exact hne hg2.2

theorem GsIn.below {w w' : World} {hiT base : Nat} {v : Value} {gs : List Gp} (h : GsIn w hiT base v gs) (hT : hiT ≤ w.heap.size) (hb : Below w.heap.size w w') : GsIn w' hiT base v gs :=
  ⟨ownsRow_up h.row hb, fun G hG => ⟨ownsRow_up (h.ok G hG).1 hb, fun q hq => ((h.ok G hG).2 q hq).keep fun k hk => hb.block k (by omega)⟩⟩

theorem Tryz.infoPrts : (Tryz.prog.info? 30).map (fun i => (i.zero, i.size, i.bytes)) = some (some (.slice none 0 0), 1, 24) := by kernel_rfl

/-- A group, read. -/
theorem GsIn.at_ {w : World} {hiT base : Nat} {v : Value} {gs : List Gp} (h : GsIn w hiT base v gs) {G : Gp} (hG : G ∈ gs) : PartsIn w hiT (fun k => base ≤ k) G.A G.n G.c G.qs := by
  obtain ⟨h1, h2⟩ := h.ok G hG
  obtain ⟨A, c, e, hP⟩ := PartsIn.own (hiT := hiT) (Ok := fun k => base ≤ k) h1 h2 (fun g e => (h1.lt g e).1)
  unfold Gp.v at e
  injection e with e1 e2 e3
  rw [e1, e2, e3]; exact hP

/-- One group more. -/
theorem GsIn.more {W W1 : World} {hiT base : Nat} {v : Value} {gs : List Gp} {G : Gp} {P : Nat} (h : GsIn W hiT base v gs) (hb : Below W.heap.size W W1) (hP : Blk W1 P 30 #[G.v]) (hG : W1.ownsRow base 52 3 G.v G.qs.length (psCells G.qs)) (hGq : ∀ q ∈ G.qs, PrOk W1 hiT q) (hT : hiT ≤ base) (hB : base ≤ W.heap.size) (hl : gs.length ≤ 1000000) :
    ∃ g m cap W2, (Builtin.append_ #[152, 152] 152 #[v, .slice (some ⟨P, 0, none⟩) 1 1]).run Tryz.prog W1 = .ok (.slice (some ⟨g, 0, none⟩) m cap) W2 ∧ GsIn W2 hiT base (.slice (some ⟨g, 0, none⟩) m cap) (gs ++ [G]) ∧ W1.grownBy W2 v.ownBlock ∧ Below base W W2 := by
  have h1 := h.below (Nat.le_trans hT hB) hb
  obtain ⟨i0, hi0, hz0, hsz0, hby0⟩ := info_parts Tryz.infoPrts
  have hs1 := hb.size
  obtain ⟨g, cap, W2, hr, hown, hg, _, _⟩ := run_append_lies (P := Tryz.prog) W1 152 152 base 30 i0 _ 1 24 Tryz.underlying152 hi0 hz0 hsz0 hby0 rfl (by omega) v gs.length (gsCells gs) h1.row ⟨P, 0, none⟩ 1 1 [G.v] (by rfl) (World.news_of_block hP) (by intro u hu; rw [List.mem_singleton.1 hu]; rfl) (by omega) (by unfold maxLen; omega) (by omega) (by omega) W1.heap.size rfl
  have hvb : ∀ k, v.ownBlock = some k → base ≤ k := fun k hk => (h1.row.lt k hk).1
  have key : ∀ K : Gp, (W1.ownsRow base 52 3 K.v K.qs.length (psCells K.qs) ∧ ∀ q ∈ K.qs, PrOk W1 hiT q) → (W2.ownsRow base 52 3 K.v K.qs.length (psCells K.qs) ∧ ∀ q ∈ K.qs, PrOk W2 hiT q) := fun K hK =>
    ⟨hK.1.kept hg (rows_apart hK.1 h1.row (by decide)), fun q hq => (hK.2 q hq).keep fun k hk => hg.block k (by omega) (fun e => by have := hvb k e.symm; omega)⟩
  refine ⟨g, _, cap, W2, hr, ⟨by unfold gsCells; rw [List.length_append, List.map_append]; exact hown, fun K hK => ?_⟩, hg, (hb.mono hB).grown hg (by omega) (fun j e => hvb j e)⟩
  rcases List.mem_append.1 hK with hK | hK
  · exact key K (h1.ok K hK)
  · rw [List.mem_singleton.1 hK]
    exact key G ⟨hG, hGq⟩

/-- What the groups are that share no variable with a part; and the parts of those that do. -/
def keptG (b : Bd) (p : Pr) (gs : List Gp) : List Gp := gs.filter fun G => !joinsB b p.pt G.pts
def joinedG (b : Bd) (p : Pr) (gs : List Gp) : List Pr := (gs.filter fun G => joinsB b p.pt G.pts).flatMap (·.qs)

theorem addG_gs (b : Bd) (p : Pr) (gs : List Gp) (G : Gp) (hG : G.qs = p :: joinedG b p gs) : (keptG b p gs ++ [G]).map Gp.pts = addG b (gs.map Gp.pts) p.pt := by
  unfold addG keptG
  rw [List.map_append, List.filter_map, List.filter_map]
  congr 1
  show [G.qs.map Pr.pt] = _
  rw [hG, List.map_cons]
  unfold joinedG
  congr 2
  rw [List.map_flatMap]
  show _ = (List.map Gp.pts _).flatten
  rw [← List.flatMap_def]; rfl

theorem kept_snoc_yes {b : Bd} {p : Pr} {gs : List Gp} {j : Nat} {G : Gp} (h : gs[j]? = some G) (hj : joinsB b p.pt G.pts = true) : keptG b p (gs.take (j + 1)) = keptG b p (gs.take j) ∧ joinedG b p (gs.take (j + 1)) = joinedG b p (gs.take j) ++ G.qs := by
  unfold keptG joinedG
  rw [List.take_add_one, h, List.filter_append, List.filter_append, List.flatMap_append]
  simp [hj]

theorem kept_snoc_no {b : Bd} {p : Pr} {gs : List Gp} {j : Nat} {G : Gp} (h : gs[j]? = some G) (hj : joinsB b p.pt G.pts = false) : keptG b p (gs.take (j + 1)) = keptG b p (gs.take j) ++ [G] ∧ joinedG b p (gs.take (j + 1)) = joinedG b p (gs.take j) := by
  unfold keptG joinedG
  rw [List.take_add_one, h, List.filter_append, List.filter_append, List.flatMap_append]
  simp [hj]

theorem flat_take {α β : Type} (f : α → List β) (xs : List α) (p : α → Bool) : ((xs.filter p).flatMap f).length ≤ (xs.flatMap f).length := by
  induction xs with
  | nil => simp
  | cons x xs ih =>
    rw [List.filter_cons]
    split
    · rw [List.flatMap_cons, List.flatMap_cons, List.length_append, List.length_append]; omega
    · rw [List.flatMap_cons, List.length_append]; omega

theorem flat_pre {α β : Type} (f : α → List β) : ∀ (xs : List α) (k : Nat), ((xs.take k).flatMap f).length ≤ (xs.flatMap f).length
  | [], k => by simp
  | x :: xs, 0 => by simp
  | x :: xs, k + 1 => by
    have := flat_pre f xs k
    rw [List.take_succ_cons, List.flatMap_cons, List.flatMap_cons, List.length_append, List.length_append]; omega

/-- The groups were told. -/
def GroupsPost (hiT : Nat) (b : Bd) (qs : List Pr) (w : World) (e : Ending) (w' : World) : Prop := ∃ A c gs, e = .returned (.slice A gs.length c) ∧ GsIn w' hiT w.heap.size (.slice A gs.length c) gs ∧ gs.length ≤ c ∧ c ≤ maxLen ∧ gs.map Gp.pts = groupsB b (qs.map Pr.pt) ∧ Below w.heap.size w w'

theorem ownsRow_base {w : World} {base base' e size n : Nat} {v : Value} {xs : List Value} (h : w.ownsRow base e size v n xs) (hb : base' ≤ base) : w.ownsRow base' e size v n xs := by
  refine ⟨h.1, ?_⟩
  rcases h.2 with h1 | ⟨g, cap, cur, e, hg, rest⟩
  · exact .inl h1
  · exact .inr ⟨g, cap, cur, e, by omega, rest⟩

theorem ownsRow_form {w : World} {base e size n : Nat} {v : Value} {xs : List Value} (h : w.ownsRow base e size v n xs) : ∃ A c, v = .slice A n c ∧ n ≤ c ∧ c ≤ maxLen := by
  rcases h.2 with ⟨e, h0⟩ | ⟨g, cap, cur, e, _, _, h1, h2, _⟩
  · exact ⟨none, 0, by rw [e, h0], by omega, by unfold maxLen; omega⟩
  · exact ⟨_, cap, e, h1, h2⟩

/-- A row of slices to which one is appended. -/
theorem append_gp {W : World} {base n P : Nat} {v x : Value} {xs : List Value} (hown : W.ownsRow base 30 1 v n xs) (hb : base ≤ W.heap.size) (hP : Blk W P 30 #[x]) (hx : x.oneCell' = true) (hn : n ≤ 1000000) :
    ∃ g m cap W2, (Builtin.append_ #[152, 152] 152 #[v, .slice (some ⟨P, 0, none⟩) 1 1]).run Tryz.prog W = .ok (.slice (some ⟨g, 0, none⟩) m cap) W2 ∧ W2.ownsRow base 30 1 (.slice (some ⟨g, 0, none⟩) m cap) (n + 1) (xs ++ [x]) ∧ W.grownBy W2 v.ownBlock := by
  obtain ⟨i0, hi0, hz0, hsz0, hby0⟩ := info_parts Tryz.infoPrts
  obtain ⟨g, cap, W2, hr, hown2, hg, _, _⟩ := run_append_lies (P := Tryz.prog) W 152 152 base 30 i0 _ 1 24 Tryz.underlying152 hi0 hz0 hsz0 hby0 rfl (by omega) v n xs hown ⟨P, 0, none⟩ 1 1 [x] (by rfl) (World.news_of_block hP) (by intro u hu; rw [List.mem_singleton.1 hu]; exact hx) (by omega) (by unfold maxLen; omega) (by omega) hb W.heap.size rfl
  exact ⟨g, _, cap, W2, hr, hown2, hg⟩

theorem flat_parts {α β : Type} (f : α → List β) (p : α → Bool) : ∀ xs : List α, ((xs.filter fun x => !p x).flatMap f).length + ((xs.filter p).flatMap f).length = (xs.flatMap f).length
  | [] => rfl
  | x :: xs => by
    have := flat_parts f p xs
    cases h : p x with
    | true => rw [List.filter_cons_of_neg (by simp [h]), List.filter_cons_of_pos h, List.flatMap_cons, List.flatMap_cons, List.length_append, List.length_append]; omega
    | false => rw [List.filter_cons_of_pos (by simp [h]), List.filter_cons_of_neg (by simp [h]), List.flatMap_cons, List.flatMap_cons, List.length_append, List.length_append]; omega

/-- A row of parts to which a slice of parts is appended; above a line. -/
theorem append_parts_at {W : World} {base : Nat} {v : Value} {hiT n c : Nat} {Ok : Nat → Prop} {B : Option Addr} {ps qs : List Pr} (hown : W.ownsRow base 52 3 v ps.length (psCells ps)) (hb : base ≤ W.heap.size) (hq : PartsIn W hiT Ok B n c qs) (hl : ps.length + n ≤ 1000000) :
    ∃ v' W', (Builtin.append_ #[30, 30] 30 #[v, .slice B n c]).run Tryz.prog W = .ok v' W' ∧ W'.ownsRow base 52 3 v' (ps ++ qs).length (psCells (ps ++ qs)) ∧ W.heap.size ≤ W'.heap.size ∧ W.grownBy W' v.ownBlock := by
  obtain ⟨i0, hi0, hz0, hsz0, hby0⟩ := info_parts Tryz.infoPrt
  by_cases h0 : n = 0
  · subst h0
    have e0 : qs = [] := List.length_eq_zero_iff.1 hq.len
    subst e0
    rw [List.append_nil]
    obtain ⟨A1, c1, rfl, h1, _⟩ := ownsRow_form hown
    exact ⟨_, W, run_append_none W _ 52 _ i0 Tryz.underlying30 hi0 A1 _ c1 h1 B c, hown, Nat.le_refl _, ⟨rfl, rfl, rfl, Nat.le_refl _, fun _ _ _ => rfl⟩⟩
  · obtain ⟨p, hp, _, _, hcell⟩ := hq.row (by omega)
    subst hp
    obtain ⟨g, cap, W', hr, h1, h2, _, _⟩ := run_append_lies (P := Tryz.prog) W 30 30 base 52 i0 _ 3 48 Tryz.underlying30 hi0 hz0 hsz0 hby0 rfl (by omega) v ps.length (psCells ps) hown p n c (psCells qs) (by rw [psCells_len, hq.len]) hcell (psCells_one qs) (by omega) (by unfold maxLen; omega) (by omega) hb W.heap.size rfl
    refine ⟨_, W', hr, ?_, h2.size, h2⟩
    rw [psCells_append, List.length_append, hq.len]; exact h1

set_option maxRecDepth 100000 in
set_option maxHeartbeats 16000000 in
theorem implGroups_any (g : Nat) (b : Bd) (hiT : Nat) (Ok : Nat → Prop) (A : Option Addr) (n c : Nat) (qs : List Pr) (w : World) (h : BdIn w g b) (hg : g < w.heap.size) (hq : PartsIn w hiT Ok A n c qs) (hT : hiT ≤ w.heap.size) (hn : n ≤ 1000) :
    Calls Tryz.prog 133 #[.pointer (some ⟨g, 0, none⟩), .slice A n c] w (GroupsPost hiT b qs w) := by
  have H := Lib.hid h; have HG := Lib.hid hg; have HQ := Lib.hid hq; have HL := Lib.hid hq.len
  have hcap := hq.cap; have hmax := hq.max
  unfold maxLen at hmax
  have hb1 := below1 w (.cells #[.pointer (some ⟨g, 0, none⟩)] 71)
  have xb := Blk.new w 71 #[.pointer (some ⟨g, 0, none⟩)]
  obtain ⟨w1, hq1⟩ : ∃ w1, w.alloc (.cells #[.pointer (some ⟨g, 0, none⟩)] 71) = w1 := ⟨_, rfl⟩
  rw [hq1] at hb1 xb
  have HQ1 := Lib.hid hq1; have HB1 := Lib.hid hb1; have XB := Lib.hid xb
  clear h hg hq hq1 hb1 xb
  have hmf : ∀ (fn : Fn) (first cap : Array Value) (w : World), (Instr.makeFunc fn first cap).run Tryz.prog w = .ok (.func fn first cap) w := fun _ _ _ _ => rfl
  go_enter Tryz.func133, Tryz.ntmps133
  go_wp2_with (rw [HQ1.out])
  go_loopw [5, 14] (fun v i wr => ∃ (k : Nat) (gs : List Gp), k ≤ n ∧ i = .int .i64 (k : Int) ∧ GsIn wr hiT w.heap.size v gs ∧ gs.map Gp.pts = ((qs.take k).map Pr.pt).foldl (addG b) [] ∧ gs.length ≤ k ∧ (gs.flatMap (·.qs)).length ≤ k ∧ Below w1.heap.size w1 wr) (fun _ i _ => n - (intOf i).toNat)
  case atStart => exact ⟨0, [], Nat.zero_le _, rfl, ⟨World.ownsRow_nil _ _ _ _, fun G hG => by simp at hG⟩, rfl, Nat.zero_le _, by simp, Below.refl _ _⟩
  case round =>
    obtain ⟨k, gs, hk, rfl, hI, hgs, hlen, hfl, hB⟩ := hrel
    obtain ⟨A5, c5, hv5, hc5, hm5⟩ := ownsRow_form hI.row
    subst hv5
    unfold maxLen at hm5
    have HI := Lib.hid hI; have HGS := Lib.hid hgs; have HB := Lib.hid hB; have HW := Lib.hid (belowThen HB1.out hB)
    clear hI hgs hB
    by_cases hlt : k < n
    · have hltI : (k : Int) < (n : Int) := by omega
      obtain ⟨w0, hw0⟩ : ∃ w0 : World, w0 = wr := ⟨_, rfl⟩
      subst hw0
      have hsw := HW.out.size
      have HQw := HQ.out.up hT HW.out
      obtain ⟨pa, p, hA, _, _, hpk, z0, z1, z2⟩ := HQw.at_ hlt
      subst hA
      have HPK := Lib.hid hpk; have HP := Lib.hid (HQw.ok p (List.mem_of_getElem? hpk))
      have xp := Blk.new w0 52 #[.bool p.no, .string p.nm, .slice p.A p.n p.c]
      obtain ⟨w4, hq4⟩ : ∃ w4, w0.alloc (.cells #[.bool p.no, .string p.nm, .slice p.A p.n p.c] 52) = w4 := ⟨_, rfl⟩
      have hb4 : Below w0.heap.size w0 w4 := by rw [← hq4]; exact below1 _ _
      rw [hq4] at xp
      have y0 := xp.cell 0; have y1 := xp.cell 1; have y2 := xp.cell 2
      simp at y0 y1 y2
      have xr := Blk.new w4 52 #[.bool p.no, .string p.nm, .slice p.A p.n p.c]
      have hb5 := belowThen hb4 (below1 w4 (.cells #[.bool p.no, .string p.nm, .slice p.A p.n p.c] 52))
      have xp5 := xp.alloc (.cells #[.bool p.no, .string p.nm, .slice p.A p.n p.c] 52)
      have hs4 := hb4.size
      have hz4 : w4.heap.size = w0.heap.size + 1 := by rw [← hq4]; simp
      have h8 : (w4.alloc (.cells #[.bool p.no, .string p.nm, .slice p.A p.n p.c] 52)).ownsRow (w0.heap.size + 1) 52 3 (.slice (some ⟨w4.heap.size, 0, none⟩) 1 1) 1 (psCells [p]) :=
        ⟨rfl, .inr ⟨w4.heap.size, 1, _, rfl, by omega, xr, Nat.le_refl _, by unfold maxLen; omega, rfl, rfl⟩⟩
      obtain ⟨w5, hq5⟩ : ∃ w5, w4.alloc (.cells #[.bool p.no, .string p.nm, .slice p.A p.n p.c] 52) = w5 := ⟨_, rfl⟩
      rw [hq5] at hb5 xp5 h8
      have HQ4 := Lib.hid hq4; have HQ5 := Lib.hid hq5; have H8 := Lib.hid h8; have XP5 := Lib.hid xp5; have HB5 := Lib.hid hb5
      clear hq4 hq5 h8 xp5 hb5 xr xp hb4 HQw hpk
      clear hz4 hs4
      go_wp2_with (first | rw [HQ4.out] | rw [HQ5.out])
      clear y0 y1 y2 z0 z1 z2
      go_loopw [8, 9, 22] (fun v8 v9 i W => ∃ j : Nat, j ≤ gs.length ∧ i = .int .i64 (j : Int) ∧ W.ownsRow (w0.heap.size + 1) 52 3 v8 (p :: joinedG b p (gs.take j)).length (psCells (p :: joinedG b p (gs.take j))) ∧ W.ownsRow (w0.heap.size + 1) 30 1 v9 (keptG b p (gs.take j)).length (gsCells (keptG b p (gs.take j))) ∧ Blk W w0.heap.size 52 #[.bool p.no, .string p.nm, .slice p.A p.n p.c] ∧ Below w0.heap.size w0 W) (fun _ _ i _ => gs.length - (intOf i).toNat)
      case atStart => exact ⟨0, Nat.zero_le _, rfl, H8.out, World.ownsRow_nil _ _ _ _, XP5.out, HB5.out⟩
      case round =>
        clear H8 XP5 HB5 HQ4 HQ5
        obtain ⟨j, hj, rfl, h8, h9, hxp, hB6⟩ := hrel
        have hI6 := HI.out.below (Nat.le_trans hT hsw) hB6
        have H8 := Lib.hid h8; have H9 := Lib.hid h9; have XP := Lib.hid hxp; have HB6 := Lib.hid hB6; have HI6 := Lib.hid hI6
        have hsr := hB6.size
        have hz8 := (h8.lt)
        clear hxp hB6 hz8
        by_cases hlj : j < gs.length
        · have hljI : (j : Int) < (gs.length : Int) := by omega
          obtain ⟨G, hGj⟩ : ∃ G, gs[j]? = some G := ⟨_, List.getElem?_eq_getElem hlj⟩
          have hGP := hI6.at_ (List.mem_of_getElem? hGj)
          obtain ⟨r5, hr5, cG⟩ : ∃ r5, A5 = some ⟨r5, 0, none⟩ ∧ wr.cell? ⟨r5, j, none⟩ = some (.slice G.A G.n G.c) := by
            rcases hI6.row.2 with ⟨e, h0⟩ | ⟨r5, cap, cur, e, _, hg5, e1, e2, e3, e4⟩
            · omega
            · injection e with e5 e6 e7
              refine ⟨r5, e5, ?_⟩
              have e8 : (gsCells gs)[j]? = some G.v := by unfold gsCells; rw [List.getElem?_map, hGj]; rfl
              rw [← e4, List.getElem?_take, if_pos (by omega)] at e8
              simp [World.cell?, hg5]
              simpa [Gp.v] using e8
          subst hr5
          have HGJ := Lib.hid hGj; have HGP := Lib.hid hGP
          have p0 := XP.out.cell 0; have p1 := XP.out.cell 1; have p2 := XP.out.cell 2
          have hct := implContainsFn_any g w.heap.size w0.heap.size b p hiT _ G.A G.n G.c G.qs wr (H.out.keep (fun j => (HW.out.trans (HB6.out.mono hsw)).cell HG.out) (fun j => (HW.out.trans (HB6.out.mono hsw)).frozen HG.out)) (by have := HG.out; omega) (XB.out.below (HB.out.trans (HB6.out.mono HB.out.size))) XP.out (HP.out.keep fun k hk => HB6.out.block k (by omega)) hGP (by omega)
          have HCT := Lib.hid hct
          clear hct hGj hGP hI6 h8 h9
          go_wp2_with fail
          refine HCT.out.mono ?_; rintro e w7 ⟨rfl, hb7⟩
          have HB7 := Lib.hid (HB6.out.trans (hb7.mono hsr))
          have h8' := ownsRow_up H8.out hb7; have h9' := ownsRow_up H9.out hb7
          have XP7 := Lib.hid (XP.out.below hb7)
          have hGP7 := HGP.out.up (by omega) hb7
          have hs7 := hb7.size
          have hfl2 : (joinedG b p (gs.take j)).length + G.n ≤ 1000 := by
            have h1 : (joinedG b p (gs.take j)).length ≤ ((gs.take j).flatMap Gp.qs).length := flat_take Gp.qs (gs.take j) (fun G => joinsB b p.pt G.pts)
            have h2 := flat_pre Gp.qs gs (j + 1)
            have h4 : gs.take (j + 1) = gs.take j ++ [G] := by rw [List.take_add_one, HGJ.out]; rfl
            rw [h4, List.flatMap_append, List.length_append, List.flatMap_singleton] at h2
            have h3 := HGP.out.len
            have h5 : (gs.flatMap Gp.qs).length ≤ k := hfl
            omega
          clear HCT hb7 cG p0 p1 p2
          cases hjn : joinsB b p.pt G.pts with
          | true =>
            have hjn' : joinsB b p.pt (G.qs.map Pr.pt) = true := hjn
            obtain ⟨e1, e2⟩ := kept_snoc_yes HGJ.out hjn
            obtain ⟨v', W', hrun, hO', hG', hgb⟩ := append_parts_at (base := w0.heap.size + 1) h8' (by have := XP7.out.lt; omega) hGP7 (by simp; omega)
            have HRU := Lib.hid hrun; have HO := Lib.hid hO'
            have h9'' := h9'.kept hgb (rows_apart h9' h8' (by decide))
            have hbl : Below w0.heap.size w0 W' := HB7.out.grown hgb (by omega) (fun j e => by have := (h8'.lt j e).1; omega)
            have xp8 := XP7.out.kept hgb (fun e => by have := (h8'.lt _ e.symm).1; omega)
            have H92 := Lib.hid h9''; have HBL := Lib.hid hbl; have XP8 := Lib.hid xp8
            clear hrun hO' hG' hgb h9'' hbl xp8 h8' h9' hGP7
            rw [hjn']
            go_wp2_with (first | (at_builtin; refine wpList_append_at rfl rfl rfl rfl rfl HRU.out ?_))
            refine ⟨⟨j + 1, by omega, by go_num, ?_, ?_, XP8.out, HBL.out⟩, by simp [intOf]; omega⟩
            · rw [e2]; exact HO.out
            · rw [e1]; exact H92.out
          | false =>
            have hjn' : joinsB b p.pt (G.qs.map Pr.pt) = false := hjn
            obtain ⟨e1, e2⟩ := kept_snoc_no HGJ.out hjn
            have hb8 := below1 w7 (.cells #[.slice G.A G.n G.c] 30)
            have hkl : (keptG b p (gs.take j)).length ≤ 1000 := by
              have h1 : (keptG b p (gs.take j)).length ≤ (gs.take j).length := List.length_filter_le _ _
              rw [List.length_take] at h1; omega
            obtain ⟨g9, m9, c9, W', hrun, hO', hgb⟩ := append_gp (P := w7.heap.size) (x := .slice G.A G.n G.c) (ownsRow_up h9' hb8) (by have := XP7.out.lt; simp; omega) (Blk.new w7 _ _) rfl (by omega)
            have HRU := Lib.hid hrun; have HO := Lib.hid hO'
            have h8'' := (ownsRow_up h8' hb8).kept hgb (rows_apart h8' h9' (by decide))
            have hbl : Below w0.heap.size w0 W' := (belowThen HB7.out (hb8.mono (by omega))).grown hgb (by simp; omega) (fun j e => by have := (h9'.lt j e).1; omega)
            have xp8 := (XP7.out.below hb8).kept hgb (fun e => by have := (h9'.lt _ e.symm).1; omega)
            have H82 := Lib.hid h8''; have HBL := Lib.hid hbl; have XP8 := Lib.hid xp8
            clear hrun hO' hgb h8'' hbl xp8 h8' h9' hGP7 hb8
            rw [hjn']
            go_wp2_with (first | (at_builtin; refine wpList_append_at rfl rfl rfl rfl rfl HRU.out ?_))
            refine ⟨⟨j + 1, by omega, by go_num, ?_, ?_, XP8.out, HBL.out⟩, by simp [intOf]; omega⟩
            · rw [e2]; exact H82.out
            · rw [e1, List.length_append]; unfold gsCells; rw [List.map_append]; exact HO.out
        · have hjl : gs.take j = gs := List.take_of_length_le (by omega)
          rw [hjl] at h8 h9
          obtain ⟨A8, c8, hv8, hc8, hm8⟩ := ownsRow_form h8
          have hb8 := below1 wr (.cells #[u8] 30)
          have hkl : (keptG b p gs).length ≤ gs.length := List.length_filter_le _ _
          have hkf : (joinedG b p gs).length ≤ (gs.flatMap (·.qs)).length := flat_take _ _ _
          obtain ⟨g9, m9, c9, W', hrun, hO', hgb⟩ := append_gp (P := wr.heap.size) (x := u8) (ownsRow_up h9 hb8) (by have := XP.out.lt; simp; omega) (Blk.new wr _ _) (by rw [hv8]; rfl) (by omega)
          have h8' := (ownsRow_up h8 hb8).kept hgb (rows_apart h8 h9 (by decide))
          have hbl : Below w0.heap.size w0 W' := (belowThen HB6.out (hb8.mono (by omega))).grown hgb (by simp; omega) (fun j e => by have := (h9.lt j e).1; omega)
          have hnew : GsIn W' hiT w.heap.size (.slice (some ⟨g9, 0, none⟩) m9 c9) (keptG b p gs ++ [(⟨A8, (p :: joinedG b p gs).length, c8, p :: joinedG b p gs⟩ : Gp)]) := by
            refine ⟨?_, fun K hK => ?_⟩
            · rw [List.length_append]
              unfold gsCells
              rw [List.map_append]
              have := ownsRow_base hO' (show w.heap.size ≤ w0.heap.size + 1 by omega)
              rw [hv8] at this
              exact this
            · rcases List.mem_append.1 hK with hK | hK
              · exact (HI.out.below (Nat.le_trans hT hsw) hbl).ok K (List.mem_filter.1 hK).1
              · rw [List.mem_singleton.1 hK]
                refine ⟨?_, fun q hq => ?_⟩
                · show W'.ownsRow _ _ _ (.slice A8 _ c8) _ _
                  rw [← hv8]; exact ownsRow_base h8' (by omega)
                · rcases List.mem_cons.1 hq with e | e
                  · rw [e]; exact HP.out.keep fun k hk => hbl.block k (by omega)
                  · unfold joinedG at e
                    obtain ⟨G, hG, hqG⟩ := List.mem_flatMap.1 e
                    exact ((HI.out.below (Nat.le_trans hT hsw) hbl).ok G (List.mem_filter.1 hG).1).2 q hqG
          have hadd : (keptG b p gs ++ [(⟨A8, (p :: joinedG b p gs).length, c8, p :: joinedG b p gs⟩ : Gp)]).map Gp.pts = ((qs.take (k + 1)).map Pr.pt).foldl (addG b) [] := by
            rw [addG_gs b p gs _ rfl, HGS.out, List.take_add_one, HPK.out, List.map_append, List.foldl_append]; rfl
          have HNEW := Lib.hid hnew; have HADD := Lib.hid hadd; have HRU := Lib.hid hrun
          have HBL := Lib.hid (HB.out.trans (hbl.mono HB.out.size))
          have hfl3 : ((keptG b p gs ++ [(⟨A8, (p :: joinedG b p gs).length, c8, p :: joinedG b p gs⟩ : Gp)]).flatMap (·.qs)).length ≤ k + 1 := by
            rw [List.flatMap_append, List.length_append, List.flatMap_singleton]
            have h1 : ((keptG b p gs).flatMap Gp.qs).length + (joinedG b p gs).length = (gs.flatMap Gp.qs).length := flat_parts Gp.qs (fun G => joinsB b p.pt G.pts) gs
            have h2 : (gs.flatMap Gp.qs).length ≤ k := hfl
            show ((keptG b p gs).flatMap Gp.qs).length + (p :: joinedG b p gs).length ≤ k + 1
            rw [List.length_cons]
            omega
          have hlen3 : (keptG b p gs ++ [(⟨A8, (p :: joinedG b p gs).length, c8, p :: joinedG b p gs⟩ : Gp)]).length ≤ k + 1 := by
            rw [List.length_append, List.length_singleton]; omega
          obtain ⟨gs', hgs'⟩ : ∃ gs', keptG b p gs ++ [(⟨A8, (p :: joinedG b p gs).length, c8, p :: joinedG b p gs⟩ : Gp)] = gs' := ⟨_, rfl⟩
          rw [hgs'] at HNEW HADD hfl3 hlen3
          subst hv8
          clear hrun hnew hadd hO' hgb h8 h9 h8' hbl hb8 hI6 hgs'
          go_wp2_with (first | (at_builtin; refine wpList_append_at rfl rfl rfl rfl rfl HRU.out ?_))
          exact ⟨⟨k + 1, gs', by omega, by go_num, HNEW.out, HADD.out, hlen3, hfl3, HBL.out⟩, by simp [intOf]; omega⟩
    · have hkn : qs.take k = qs := List.take_of_length_le (by have := HL.out; omega)
      rw [hkn] at HGS
      go_wp2
      exact bodyPost_ret (v := .slice A5 gs.length c5) (by simp [results, Tryz.results133, go_sem]) rfl ⟨A5, c5, gs, rfl, HI.out, hc5, by unfold maxLen; exact hm5, HGS.out, HW.out⟩

/-- What a search stands on: an index; the words so far; parts whose terms lie below the words. -/
structure SeekIn (w : World) (Bs : Nat → Prop) (x g : Nat) (L : List (At × Nat)) (b : Bd) (hiT : Nat) (V : List ByteArray) : Prop where
  ix : IxIn w Bs x L
  few : L.length ≤ 300
  bd : BdIn w g b
  lt : g < w.heap.size
  off : ¬ Bs g
  sm : SmB b
  keys : KeysIn V b
  vs : V.length ≤ 12
  line : hiT ≤ g

theorem SeekIn.below {w w' : World} {Bs : Nat → Prop} {x g : Nat} {L : List (At × Nat)} {b : Bd} {hiT : Nat} {V : List ByteArray} (h : SeekIn w Bs x g L b hiT V) (hb : Below w.heap.size w w') : SeekIn w' Bs x g L b hiT V :=
  ⟨h.ix.keep fun k _ hk => hb.block k hk, h.few, h.bd.keep (fun _ => hb.cell h.lt) (fun _ => hb.frozen h.lt), Nat.lt_of_lt_of_le h.lt hb.size, h.off, h.sm, h.keys, h.vs, h.line⟩

theorem CandOk.len {Bs : Nat → Prop} {L : List (At × Nat)} {b : Bd} {a : At} {v : Value} {W : World} (h : CandOk Bs L b a v W) : ∃ A m c, v = .slice A m c ∧ m ≤ L.length ∧ m ≤ c ∧ c ≤ maxLen := by
  obtain ⟨p, hF, _, _⟩ := h
  obtain ⟨A, c, e, h1, h2⟩ := hF.form
  refine ⟨A, _, c, e, ?_, h1, h2⟩
  have := List.length_filter_le p (L.map (·.1))
  rwa [List.length_map] at this

/-- A place was told: of a part that must be, if there is one. -/
def PlacePost (qs : List Pr) (w : World) (e : Ending) (w' : World) : Prop := ∃ k : Nat, e = .returned (.int .i64 (k : Int)) ∧ (k = 0 ∨ k < qs.length) ∧ ((∃ q ∈ qs, q.no = false) → ∃ q, qs[k]? = some q ∧ q.no = false) ∧ Below w.heap.size w w'

set_option maxRecDepth 100000 in
set_option maxHeartbeats 8000000 in
theorem implFewest_any (Bs : Nat → Prop) (x g : Nat) (L : List (At × Nat)) (b : Bd) (hiT : Nat) (V : List ByteArray) (Ok : Nat → Prop) (A : Option Addr) (n c : Nat) (qs : List Pr) (w : World) (h : SeekIn w Bs x g L b hiT V) (hq : PartsIn w hiT Ok A n c qs) :
    Calls Tryz.prog 174 #[.agg #[.pointer (some ⟨x, 0, none⟩), .pointer (some ⟨x, 0, none⟩)], .slice A n c, .pointer (some ⟨g, 0, none⟩)] w (PlacePost qs w) := by
  have H := Lib.hid h; have HQ := Lib.hid hq; have HL := Lib.hid hq.len
  have hcap := hq.cap; have hmax := hq.max
  unfold maxLen at hmax
  have hlg := h.line; have hglt := h.lt
  have hb1 := below1 w (.cells #[.pointer (some ⟨x, 0, none⟩), .pointer (some ⟨x, 0, none⟩)] 79)
  have xs := Blk.new w 79 #[.pointer (some ⟨x, 0, none⟩), .pointer (some ⟨x, 0, none⟩)]
  obtain ⟨w1, hq1⟩ : ∃ w1, w.alloc (.cells #[.pointer (some ⟨x, 0, none⟩), .pointer (some ⟨x, 0, none⟩)] 79) = w1 := ⟨_, rfl⟩
  rw [hq1] at hb1 xs
  have HQ1 := Lib.hid hq1; have HB1 := Lib.hid hb1; have XS := Lib.hid xs
  clear h hq hq1 hb1 xs
  go_enter Tryz.func174, Tryz.ntmps174
  go_wp2_with (rw [HQ1.out])
  go_loopw [7, 8, 14] (fun best least i wr => ∃ k bk lk : Nat, k ≤ n ∧ i = .int .i64 (k : Int) ∧ best = .int .i64 (bk : Int) ∧ least = .int .i64 (lk : Int) ∧ ((bk = 0 ∧ lk = 301 ∧ ∀ j q, j < k → qs[j]? = some q → q.no = true) ∨ (bk < k ∧ lk ≤ 300 ∧ ∃ q, qs[bk]? = some q ∧ q.no = false)) ∧ Below w1.heap.size w1 wr) (fun _ _ i _ => n - (intOf i).toNat)
  case atStart => exact ⟨0, 0, 301, Nat.zero_le _, rfl, rfl, rfl, .inl ⟨rfl, rfl, fun j q hj => absurd hj (Nat.not_lt_zero _)⟩, Below.refl _ _⟩
  case round =>
    obtain ⟨k, bk, lk, hk, rfl, rfl, rfl, hor, hB⟩ := hrel
    have HOR := Lib.hid hor; have HB := Lib.hid hB; have HW := Lib.hid (belowThen HB1.out hB)
    clear hor hB
    have hlk : lk ≤ 301 := by rcases HOR.out with h | h <;> omega
    have hbk : bk ≤ k := by rcases HOR.out with h | h <;> omega
    by_cases hlt : k < n
    · have hltI : (k : Int) < (n : Int) := by omega
      have HQw := HQ.out.up (by omega) HW.out
      obtain ⟨pa, q, hA, _, _, hqk, z0, z1, z2⟩ := HQw.at_ hlt
      subst hA
      have HQK := Lib.hid hqk; have HP := Lib.hid (HQw.ok q (List.mem_of_getElem? hqk))
      have xq := Blk.new wr 52 #[.bool q.no, .string q.nm, .slice q.A q.n q.c]
      obtain ⟨w4, hq4⟩ : ∃ w4, wr.alloc (.cells #[.bool q.no, .string q.nm, .slice q.A q.n q.c] 52) = w4 := ⟨_, rfl⟩
      have hb4 : Below wr.heap.size wr w4 := by rw [← hq4]; exact below1 _ _
      rw [hq4] at xq
      have HB4 := Lib.hid (belowThen HB.out hb4); have HW4 := Lib.hid (belowThen HW.out hb4)
      have y0 := xq.cell 0; have y1 := xq.cell 1; have y2 := xq.cell 2
      have s0 := (XS.out.below HB4.out).cell 0
      simp at y0 y1 y2 s0
      have HQ4 := Lib.hid hq4
      have hsw := HW.out.size; have hs4 := hb4.size
      clear HQw hqk hq4
      cases hno : q.no with
      | true =>
        rw [hno] at HQ4 z0 y0
        have hnew : ((bk = 0 ∧ lk = 301 ∧ ∀ j r, j < k + 1 → qs[j]? = some r → r.no = true) ∨ (bk < k + 1 ∧ lk ≤ 300 ∧ ∃ q, qs[bk]? = some q ∧ q.no = false)) := by
          rcases HOR.out with ⟨h1, h2, h3⟩ | ⟨h1, h2, h3⟩
          · refine .inl ⟨h1, h2, fun j r hj hr => ?_⟩
            by_cases e : j = k
            · subst e; rw [HQK.out] at hr; injection hr with hr; rw [← hr]; exact hno
            · exact h3 j r (by omega) hr
          · exact .inr ⟨by omega, h2, h3⟩
        have HNEW := Lib.hid hnew
        clear hnew hb4 xq
        go_wp2_with (rw [HQ4.out])
        exact ⟨⟨k + 1, bk, lk, by omega, by go_num, rfl, rfl, HNEW.out, HB4.out⟩, by simp [intOf]; omega⟩
      | false =>
        have hp4 := HP.out.keep (w' := w4) fun k hk => hb4.block k (by omega)
        have hcd := implCands_any Bs x g L b q.nm q.A q.n q.c q.ts w4 (H.out.below HW4.out).ix (H.out.below HW4.out).bd (by omega) H.out.sm (hp4.2.2.keep (fun _ _ _ => rfl) (Nat.le_refl _) (by omega)) hp4.2.1 hp4.1
        have HCD := Lib.hid hcd
        rw [hno] at HQ4 z0 y0
        clear hcd hp4
        go_wp2_with (first | rw [HQ4.out])
        refine HCD.out.mono ?_; rintro e w5 ⟨v, rfl, hC, hb5⟩
        obtain ⟨A5, m5, c5, rfl, hm5, _, _⟩ := hC.len
        have hm300 : m5 ≤ 300 := Nat.le_trans hm5 H.out.few
        have HB5 := Lib.hid (belowThen HB4.out hb5)
        clear hC hb5 HCD hb4 xq y0 y1 y2 s0 z0 z1 z2
        by_cases hml : m5 < lk
        · have hmlI : (m5 : Int) < (lk : Int) := by omega
          go_wp2
          exact ⟨⟨k + 1, k, m5, by omega, by go_num, rfl, rfl, .inr ⟨by omega, by omega, q, HQK.out, hno⟩, HB5.out⟩, by simp [intOf]; omega⟩
        · have hmlI : ¬ (m5 : Int) < (lk : Int) := by omega
          have hnew : bk < k ∧ lk ≤ 300 ∧ ∃ q, qs[bk]? = some q ∧ q.no = false := by
            rcases HOR.out with ⟨h1, h2, _⟩ | h1
            · omega
            · exact h1
          have HNEW := Lib.hid hnew
          clear hnew
          go_wp2
          exact ⟨⟨k + 1, bk, lk, by omega, by go_num, rfl, rfl, .inr ⟨by omega, HNEW.out.2.1, HNEW.out.2.2⟩, HB5.out⟩, by simp [intOf]; omega⟩
    · have hfin : (bk = 0 ∨ bk < qs.length) ∧ ((∃ q ∈ qs, q.no = false) → ∃ q, qs[bk]? = some q ∧ q.no = false) := by
        have hL := HL.out
        rcases HOR.out with ⟨h1, h2, h3⟩ | ⟨h1, h2, h3⟩
        · refine ⟨.inl h1, fun ⟨q, hq, hno⟩ => ?_⟩
          obtain ⟨j, hj⟩ := List.getElem?_of_mem hq
          have := (List.getElem?_eq_some_iff.1 hj).1
          rw [h3 j q (by omega) hj] at hno; cases hno
        · exact ⟨.inr (by omega), fun _ => h3⟩
      have HF := Lib.hid hfin
      clear hfin
      go_wp2
      exact bodyPost_ret (v := .int .i64 (bk : Int)) (by simp [results, Tryz.results174, go_sem]) rfl ⟨bk, rfl, HF.out.1, HF.out.2, HW.out⟩
end Go.Proofs.YtcigljngiemdeaaGreat
