/-
  Texts of one claim, put together.
-/
import Derived.Test.YtcigljngiemdeaaGreatEa3
import Derived.Test.YtcigljngiemdeaaGreatEa4
import Derived.Test.YtcigljngiemdeaaGreatTight
import Derived.Maps.OwnIn
import Derived.Maps.OwnSet
import Derived.Maps.Views
import Derived.RangeFuncWrites
namespace Go.Proofs.YtcigljngiemdeaaGreat
open Go.RowKit Go.Shelf
attribute [local go_sem] Oper.semAt_some

/-- What a round keeps: what lay below n₀; and all cells. -/
structure KeepsCells (n₀ : Nat) (W W' : World) : Prop where
  below : Below n₀ W W'
  same : ∀ (b : Nat) (o : Obj), W.heap[b]? = some o → o.isCells = true → W'.heap[b]? = W.heap[b]?

theorem KeepsCells.refl (n₀ : Nat) (W : World) : KeepsCells n₀ W W := ⟨Below.refl _ _, fun _ _ _ _ => rfl⟩
theorem KeepsCells.trans {n₀ : Nat} {A B C : World} (h : KeepsCells n₀ A B) (k : KeepsCells n₀ B C) : KeepsCells n₀ A C :=
  ⟨h.below.trans k.below, fun b o hb ho => (k.same b o ((h.same b o hb ho).trans hb) ho).trans (h.same b o hb ho)⟩
theorem KeepsCells.of {n₀ : Nat} {A B : World} (h : Below A.heap.size A B) (hn : n₀ ≤ A.heap.size) : KeepsCells n₀ A B :=
  ⟨h.mono hn, fun b _ hb _ => h.block b (Array.getElem?_eq_some_iff.1 hb).1⟩
theorem cells_of_cell {W : World} {p : Addr} {v : Value} (h : W.cell? p = some v) : ∃ o, W.heap[p.block]? = some o ∧ o.isCells = true := by
  unfold World.cell? at h
  split at h
  · rename_i c e f hb; exact ⟨_, hb, rfl⟩
  · cases h
theorem KeepsCells.cell {n₀ : Nat} {W W' : World} (h : KeepsCells n₀ W W') {p : Addr} {v : Value} (hc : W.cell? p = some v) : W'.cell? p = some v := by
  obtain ⟨o, ho, hi⟩ := cells_of_cell hc
  exact (World.cell?_of_block (h.same _ o ho hi)).trans hc
theorem keepsC_t {n₀ : Nat} {A B C : World} (h : KeepsCells n₀ A B) (k : KeepsCells n₀ B C) : KeepsCells n₀ A C := h.trans k
theorem keepsC_b {n₀ : Nat} {w : World} (hn : n₀ ≤ w.heap.size) (W : World) (l : Nat) (o o' : Obj) (hl : w.heap.size ≤ l) (h : W.heap[l]? = some o) (hc : o.isCells = false) (hw : o.isWalk = false) : KeepsCells n₀ W (W.putObj l o') :=
  ⟨belowK_b hn W l o o' hl h hc hw, fun b o2 hb hc2 => (grownBy_putObj' W l o').block b (Array.getElem?_eq_some_iff.1 hb).1 (fun e => by injection e with e; subst e; rw [h] at hb; cases hb; rw [hc] at hc2; cases hc2)⟩
theorem ownFrom_cells {β : Type} {n₀ B : Nat} {w₀ : World} (hn : n₀ ≤ w₀.heap.size) (hB : n₀ ≤ B) : OwnFrom B (fun (_ : β) W => KeepsCells n₀ w₀ W) :=
  fun s A C row hs hg hr => ⟨ownFrom_below hn hB s A C row hs.below hg hr, fun b o hb ho => by
    have hA := (hs.same b o hb ho).trans hb
    refine (hg.block b (Array.getElem?_eq_some_iff.1 hA).1 (fun e => ?_)).trans (hs.same b o hb ho)
    obtain ⟨_, o', h1, h2⟩ := hr b e.symm
    rw [hA] at h1; cases h1; rw [ho] at h2; cases h2⟩

/-- An atom that lay there in this world. -/
abbrev Lain (w : World) (n₀ : Nat) := { x : (ByteArray × Option Addr) × (Nat × Nat) × List Tm // x.1.1.size ≤ maxLen ∧ IsTerms w 0 n₀ x.1.2 x.2.1.1 x.2.1.2 x.2.2 }
def lainAt {w : World} {n₀ : Nat} (x : Lain w n₀) : At := (x.1.1.1, x.1.2.2)

/-- The atoms of rules: each head, and what stands in its body. -/
def atsOf (rs : List Rl) : List At := rs.flatMap fun r => r.1 :: r.2.map (·.2)

theorem atsOf_step {rs : List Rl} {k : Nat} {r : Rl} (h : rs[k]? = some r) : atsOf (rs.take (k + 1)) = atsOf (rs.take k) ++ r.1 :: r.2.map (·.2) := by
  unfold atsOf; rw [List.take_add_one, h, List.flatMap_append]; simp
theorem atsOf_pre {rs : List Rl} {k : Nat} {r : Rl} (h : rs[k]? = some r) (j : Nat) : (atsOf (rs.take k) ++ r.1 :: (r.2.take j).map (·.2)) <+: atsOf rs := by
  have h1 : atsOf (rs.take (k + 1)) <+: atsOf rs := by
    conv => rhs; rw [← List.take_append_drop (k + 1) rs]
    unfold atsOf; rw [List.flatMap_append]; exact List.prefix_append _ _
  refine List.IsPrefix.trans ?_ h1
  rw [atsOf_step h, List.prefix_append_right_inj, List.cons_prefix_cons]
  exact ⟨rfl, List.IsPrefix.map _ (List.take_prefix _ _)⟩
theorem atsIn_step {qs : List Pt} {j : Nat} {q : Pt} (h : qs[j]? = some q) (L : List At) (a : At) : L ++ a :: (qs.take (j + 1)).map (·.2) = (L ++ a :: (qs.take j).map (·.2)) ++ [q.2] := by
  rw [List.take_add_one, h, List.map_append]; simp
theorem pre_lt {α β : Type} {f : α → β} {ps : List α} {L M : List β} {b : β} (h : ps.map f = L) (hp : (L ++ [b]) <+: M) : ps.length < M.length := by
  have h1 := congrArg List.length h; have h2 := hp.length_le
  rw [List.length_map] at h1; rw [List.length_append, List.length_singleton] at h2; omega

theorem RuleE.out {w : World} {lo hi : Nat} {p : Addr} {r : Rl} (h : RuleE w lo hi p r) : ∃ A n c B m d, w.cell? p = some (.string r.1.1) ∧ r.1.1.size ≤ maxLen ∧ w.cell? ⟨p.block, p.off + 1, none⟩ = some (.slice A n c) ∧ IsTerms w lo hi A n c r.1.2 ∧ w.cell? ⟨p.block, p.off + 2, none⟩ = some (.slice B m d) ∧ IsParts w lo hi B m d r.2 := by
  obtain ⟨h1, h2, ⟨A, n, c, h3, h4⟩, ⟨B, m, d, h5, h6⟩⟩ := h
  exact ⟨A, n, c, B, m, d, h1, h2, h3, h4, h5, h6⟩

set_option maxRecDepth 100000 in
set_option maxHeartbeats 4000000 in
theorem atomsS_in (n : Nat) (hn : 1 ≤ n) (l Bs n₀ : Nat) (A : Option Addr) (m c : Nat) (rs : List Rl) (w : World) (J Jx : List (Lain w n₀) → World → Prop) (W : World) (hJ : AbidesFrom W.heap.size J)
    (hY : ∀ pre (x : Lain w n₀) W1, J pre W1 → pre.length < (atsOf rs).length → YieldAt Fence.wide (n - 1) Tryz.prog l #[.agg #[.string x.1.1.1, .slice x.1.1.2 x.1.2.1.1 x.1.2.1.2]] W1 fun e W' =>
      (e = .returned (.bool true) ∧ J (pre ++ [x]) W' ∧ KeepsCells n₀ W1 W') ∨ (e = .returned (.bool false) ∧ Jx (pre ++ [x]) W'))
    (hB : W.cell? ⟨Bs, 0, none⟩ = some (.slice A m c)) (hw : n₀ ≤ w.heap.size) (hb0 : Below n₀ w W) (hT : IsRules w 0 n₀ A m c rs) (h0 : J [] W) :
    CallsIn Fence.wide n Tryz.prog 170 #[.func (.yield l) #[] #[], .pointer (some ⟨Bs, 0, none⟩)] W fun e W' => (∃ v, e = .returned v) ∧
      ((∃ ys, ys.map lainAt = atsOf rs ∧ J ys W') ∨ (∃ pre, pre.map lainAt <+: atsOf rs ∧ Jx pre W')) := by
  have hm : m ≤ maxLen := by have := hT.2.1; have := hT.2.2.1; omega
  unfold maxLen at hm
  have HT := Lib.hid hT; clear hT
  have HY := Lib.hid hY; clear hY
  have HJ0 := Lib.hid hJ; clear hJ
  have HB0 := Lib.hid hb0; clear hb0
  have hW0 := HB0.out.size
  refine callsIn_of_wp Tryz.func170 rfl trivial ?_ rfl
  simp only [Tryz.ntmps170, List.size_toArray, List.length_cons, List.length_nil, Nat.reduceAdd, Nat.reduceSub, Array.replicate_succ, Array.replicate_zero, List.push_toArray, List.append_toArray, List.nil_append, List.cons_append]
  gi_wp2
  gi_loopw [9] (fun i wr => ∃ k : Nat, k ≤ m ∧ i = .int .i64 k ∧ (∃ ps : List (Lain w n₀), ps.map lainAt = atsOf (rs.take k) ∧ J ps wr) ∧ KeepsCells n₀ W wr) (fun i _ => m - (intOf i).toNat)
  case atStart => exact ⟨0, Nat.zero_le _, rfl, ⟨[], rfl, h0⟩, KeepsCells.refl _ _⟩
  case round =>
    obtain ⟨k, hk, rfl, ⟨ps, hps, hJs⟩, hb⟩ := hrel
    have HPS := Lib.hid hps; clear hps
    have HJ := Lib.hid hJs; clear hJs
    have HK := Lib.hid hb
    have hbw := HB0.out.trans hb.below
    have hwr := hbw.size
    have hwr2 := hb.below.size
    by_cases hlt : k < m
    · have hlt2 : (k : Int) < (m : Int) := by omega
      obtain ⟨p, r, hA, hlo, hhi, hg, hE⟩ := HT.out.at_ hlt
      obtain ⟨C, n5, c5, D, n6, c6, c1, hs, c2, hT5, c4, hP6⟩ := hE.out
      subst hA
      have hpb : (p.add (k * 3)).block < n₀ := by rw [block_add]; exact hhi
      have e1 := (hbw.cell (p := p.add (k * 3)) hpb).trans c1
      have e2 := (hbw.cell (p := ⟨(p.add (k * 3)).block, (p.add (k * 3)).off + 1, none⟩) hpb).trans c2
      have e4 := (hbw.cell (p := ⟨(p.add (k * 3)).block, (p.add (k * 3)).off + 2, none⟩) hpb).trans c4
      have HG := Lib.hid hg; have HT5 := Lib.hid hT5; have HP6 := Lib.hid hP6
      clear hg hE hT5 hP6 c1 c2 c4
      have hal := below1 wr (.cells #[.string r.1.1, .slice C n5 c5, .slice D n6 c6] 114)
      have X0 := Blk.new wr 114 #[.string r.1.1, .slice C n5 c5, .slice D n6 c6]
      obtain ⟨fn, tmps, assign, body, hy, hR⟩ := HY.out ps ⟨((r.1.1, C), (n5, c5), r.1.2), hs, HT5.out⟩ (wr.alloc (.cells #[.string r.1.1, .slice C n5 c5, .slice D n6 c6] 114)) (HJ0.out _ _ _ none HJ.out (grownOf hal (Nat.le_refl _)) (fun r e => by cases e)) (pre_lt HPS.out (atsOf_pre HG.out 0))
      dsimp only at hy hR
      gi_wp2
      refine hR.mono ?_
      rintro e W3 (⟨rfl, hJ3, hk3⟩ | ⟨rfl, hJx3⟩)
      · have K3 := (KeepsCells.of hal (by omega)).trans hk3
        have f2 : W3.cell? ⟨wr.heap.size, 2, none⟩ = some (.slice D n6 c6) := hk3.cell (X0.cell 2)
        have hz3 := hk3.below.size
        have HJ3 := Lib.hid hJ3; clear hJ3
        have hm6 : n6 ≤ maxLen := by have := HP6.out.2.1; have := HP6.out.2.2.1; omega
        unfold maxLen at hm6
        gi_wp2
        gi_loopw [21] (fun i wq => ∃ j : Nat, j ≤ n6 ∧ i = .int .i64 j ∧ (∃ ps : List (Lain w n₀), ps.map lainAt = atsOf (rs.take k) ++ r.1 :: (r.2.take j).map (·.2) ∧ J ps wq) ∧ KeepsCells n₀ wr wq) (fun i _ => n6 - (intOf i).toNat)
        case atStart => exact ⟨0, Nat.zero_le _, rfl, ⟨_, by rw [List.map_append, HPS.out]; rfl, HJ3.out⟩, K3⟩
        case round =>
          obtain ⟨j, hj, rfl, ⟨qs, hqs, hJq⟩, hbq⟩ := hrel
          have HQS := Lib.hid hqs; have HJQ := Lib.hid hJq; have HKQ := Lib.hid hbq
          clear hqs hJq hbq
          have HBQ := hbw.trans HKQ.out.below
          have hqz := HKQ.out.below.size
          have hnq : n₀ ≤ wr.heap.size := by omega
          by_cases hlq : j < n6
          · have hlq2 : (j : Int) < (n6 : Int) := by omega
            obtain ⟨q, t, hA2, -, hhi2, hg2, hE2⟩ := HP6.out.at_ hlq
            obtain ⟨C2, n7, c7, d1, d2, ds, d4, dT⟩ := hE2.out
            subst hA2
            have hqb : (q.add (j * 3)).block < n₀ := by rw [block_add]; exact hhi2
            have g1 := (HBQ.cell (p := q.add (j * 3)) hqb).trans d1
            have g2 := (HBQ.cell (p := ⟨(q.add (j * 3)).block, (q.add (j * 3)).off + 1, none⟩) hqb).trans d2
            have g4 := (HBQ.cell (p := ⟨(q.add (j * 3)).block, (q.add (j * 3)).off + 2, none⟩) hqb).trans d4
            have HG2 := Lib.hid hg2; have HT7 := Lib.hid dT
            clear hg2 hE2 d1 d2 d4 dT
            have hal2 := below1 wr (.cells #[.bool t.1, .string t.2.1, .slice C2 n7 c7] 52)
            obtain ⟨fn2, tmps2, assign2, body2, hy2, hR2⟩ := HY.out qs ⟨((t.2.1, C2), (n7, c7), t.2.2), ds, HT7.out⟩ (wr.alloc (.cells #[.bool t.1, .string t.2.1, .slice C2 n7 c7] 52)) (HJ0.out _ _ _ none HJQ.out (grownOf hal2 (Nat.le_refl _)) (fun r e => by cases e)) (pre_lt HQS.out (by rw [← atsIn_step HG2.out]; exact atsOf_pre HG.out (j + 1)))
            dsimp only at hy2 hR2
            gi_wp2
            refine hR2.mono ?_
            rintro e W4 (⟨rfl, hJ4, hk4⟩ | ⟨rfl, hJx4⟩)
            · have K4 := (HKQ.out.trans (KeepsCells.of hal2 hnq)).trans hk4
              gi_wp2
              go_roundw
              case rel => exact ⟨j + 1, by omega, by go_num, ⟨_, by rw [List.map_append, HQS.out, atsIn_step HG2.out]; rfl, hJ4⟩, K4⟩
              case measure => simp [intOf]; omega
            · gi_wp2
              refine bodyPost_ret (results_none rfl _ _ _) rfl ?_
              exact ⟨⟨_, rfl⟩, .inr ⟨_, by rw [List.map_append, HQS.out]; show _ ++ [t.2] <+: _; rw [← atsIn_step HG2.out]; exact atsOf_pre HG.out (j + 1), hJx4⟩⟩
          · have hlq2 : ¬ (j : Int) < (n6 : Int) := by omega
            have E6 := Lib.hid (show r.2.take j = r.2 from List.take_of_length_le (by have := HP6.out.1; omega))
            gi_wp2
            go_roundw
            case rel => exact ⟨k + 1, by omega, by go_num, ⟨qs, by rw [HQS.out, atsOf_step HG.out, E6.out], HJQ.out⟩, HK.out.trans HKQ.out⟩
            case measure => simp [intOf]; omega
      · gi_wp2
        refine bodyPost_ret (results_none rfl _ _ _) rfl ?_
        exact ⟨⟨_, rfl⟩, .inr ⟨_, by rw [List.map_append, HPS.out]; exact atsOf_pre HG.out 0, hJx3⟩⟩
    · have E := Lib.hid (show atsOf (rs.take k) = atsOf rs by rw [List.take_of_length_le (by have := HT.out.1; omega)])
      gi_wp2
      go_end0
      exact ⟨⟨_, rfl⟩, .inl ⟨ps, by rw [HPS.out, E.out], HJ.out⟩⟩

end Go.Proofs.YtcigljngiemdeaaGreat

namespace Go.Proofs.YtcigljngiemdeaaGreat
open Go.RowKit Go.Shelf Go.Maps Go.WideMaps
attribute [local go_sem] Oper.semAt_some

/-- Blocks that hold nothing to be done later. -/
def Marks (Ds : List Nat) (W : World) : Prop := Ds.Nodup ∧ ∀ D ∈ Ds, W.heap[D]? = some (.deferred (some []))
def marks (Ds : List Nat) : List Deferred := Ds.map fun D => { target := .collected D, args := #[] }

theorem Marks.kept {Ds : List Nat} {W W' : World} {row : Option Nat} (h : Marks Ds W) (hg : W.grownBy W' row) (hr : ∀ r, row = some r → r ∉ Ds) : Marks Ds W' :=
  ⟨h.1, fun D hD => (hg.block D (Array.getElem?_eq_some_iff.1 (h.2 D hD)).1 (fun e => hr D e.symm hD)).trans (h.2 D hD)⟩

/-- What they held is taken: nothing. -/
theorem leaves_marks {F : Fence} {n : Nat} {P : Program} {fn : Func} {tmps : Array Value} {R : Ending → World → Prop} : ∀ (Ds : List Nat) (W : World), Marks Ds W →
    (∀ W' : World, W'.os = W.os → W'.tape = W.tape → W'.output = W.output → W'.heap.size = W.heap.size → (∀ i, i ∉ Ds → W'.heap[i]? = W.heap[i]?) → LeavesInM F n P fn tmps R [] .returning W') → LeavesInM F n P fn tmps R (marks Ds) .returning W
  | [], W, _, h => h W rfl rfl rfl rfl (fun _ _ => rfl)
  | D :: Ds, W, hM, h => by
    have hD := hM.2 D (List.mem_cons_self ..)
    have hnd := List.nodup_cons.1 hM.1
    have hg := grownBy_putObj' W D (.deferred none)
    refine ⟨by simp, .inl ⟨D, _, rfl, run_takeDeferred hD, leaves_marks Ds _ ?_ ?_⟩⟩
    · exact ⟨hnd.2, fun D' hD' => (hg.block D' (Array.getElem?_eq_some_iff.1 (hM.2 D' (List.mem_cons_of_mem _ hD'))).1 (fun e => by injection e with e; subst e; exact hnd.1 hD')).trans (hM.2 D' (List.mem_cons_of_mem _ hD'))⟩
    · intro W' h1 h2 h3 h4 h5
      refine h W' (h1.trans hg.os) (h2.trans hg.tape) (h3.trans hg.output) (h4.trans (by simp [World.putObj])) (fun i hi => ?_)
      have hiD : i ≠ D := fun e => hi (by rw [e]; exact List.mem_cons_self ..)
      have hiDs : i ∉ Ds := fun e => hi (List.mem_cons_of_mem _ e)
      rw [h5 i hiDs]
      simp [World.putObj, Ne.symm hiD]

/-- A set of texts, as the map's datum. -/
def bset (vs : List ByteArray) : DataW Unit := setOf (.lit (.bool true)) (vs.map fun s => .string s.data.toList)

theorem bset_snoc (vs : List ByteArray) (s : ByteArray) : bset (vs ++ [s]) = (bset vs).put (.string s.data.toList) (.lit (.bool true)) := by unfold bset; rw [List.map_append]; exact setOf_snoc _ _ _



theorem Tryz.lawS : Keyed Tryz.prog 9 := string_keyed Tryz.underlying9

/-- The variables of parts that must be, as often as they stand there. -/
def mvars (qs : List Pt) : List ByteArray := (musts qs).flatMap fun q => varsOf q.2.2

theorem mvars_no {qs : List Pt} {k : Nat} {q : Pt} (h : qs[k]? = some q) (hq : q.1 = true) : mvars (qs.take (k + 1)) = mvars (qs.take k) := by unfold mvars; rw [musts_no h hq]
theorem mvars_yes {qs : List Pt} {k : Nat} {q : Pt} (h : qs[k]? = some q) (hq : q.1 = false) : mvars (qs.take (k + 1)) = mvars (qs.take k) ++ varsOf q.2.2 := by unfold mvars; rw [musts_yes h hq, List.flatMap_append]; simp

/-- A map of just these texts was told. -/
def BoundPost (vs : List ByteArray) (w : World) (e : Ending) (w' : World) : Prop :=
  ∃ b N, e = .returned (.map (some b)) ∧ w.heap.size ≤ b ∧ w'.ownsMap Tryz.prog 9 (plainElem Tryz.prog 4) b N (bset vs) ∧ Below w.heap.size w w'

set_option maxRecDepth 100000 in
set_option maxHeartbeats 8000000 in
theorem boundVars_any (B : Option Addr) (m d : Nat) (qs : List Pt) (w : World) (h : IsParts w 0 w.heap.size B m d qs) (h3 : ∀ q ∈ qs, q.2.2.length ≤ 3) (hmax : m ≤ 1000) :
    Calls Tryz.prog 68 #[.slice B m d] w (BoundPost (mvars qs) w) := by
  have HL := Lib.hid h.1
  have H := Lib.hid h; clear h
  have H3 := Lib.hid h3; clear h3
  have hmm := @run_makeMap Tryz.prog
  refine (callsIn_wide (n := 5)).1 ?_
  refine callsIn_of_wp_marks Tryz.func68 rfl trivial ?_ rfl
  simp only [Tryz.ntmps68, List.size_toArray, List.length_cons, List.length_nil, Nat.reduceAdd, Nat.reduceSub, Array.replicate_succ, Array.replicate_zero, List.push_toArray, List.append_toArray, List.nil_append, List.cons_append]
  gi_wp2
  refine wpIn_loop (fun a W => ∃ (k : Nat) (Ds : List Nat) (N : Nat) (u5 u11 u12 u13 u14 u15 u16 u17 u18 u22 : Value), a = { tmps := #[.slice B m d, undef, .map none, .pointer (some ⟨w.heap.size + 1, 0, none⟩), undef, u5, undef, .map (some w.heap.size), .slice B m d, .int .i64 (m : Int), .int .i64 (k : Int), u11, u12, u13, u14, u15, u16, u17, u18, undef, undef, undef, u22, undef], defers := marks Ds } ∧ k ≤ m ∧ N ≤ 3 * k ∧ Blk W (w.heap.size + 1) 109 #[.map (some w.heap.size)] ∧ W.ownsMap Tryz.prog 9 (plainElem Tryz.prog 4) w.heap.size N (bset (mvars (qs.take k))) ∧ Marks Ds W ∧ (∀ D ∈ Ds, w.heap.size + 2 ≤ D) ∧ Below w.heap.size w W ∧ w.heap.size + 2 ≤ W.heap.size) (fun a _ => m - (intOf (a.tmps.getD 10 undef)).toNat) ?_ ?_
  · exact ⟨0, [], 0, _, _, _, _, _, _, _, _, _, _, rfl, Nat.zero_le _, Nat.le_refl _, Blk.made _ _ _ (by simp), (World.ownsMap_made _ _ _ _).alloc _, ⟨List.nodup_nil, fun D hD => absurd hD (by simp)⟩, fun D hD => absurd hD (by simp), below2 w _ _, by simp⟩
  · rintro a W ⟨k, Ds, N, u5, u11, u12, u13, u14, u15, u16, u17, u18, u22, rfl, hk, hN, hbk, hmap, hM, hDs, hb, hsz⟩
    have HBK := Lib.hid hbk; have HMP := Lib.hid hmap; have HMK := Lib.hid hM; have HDS := Lib.hid hDs; have HB := Lib.hid hb
    clear hbk hmap hM hDs hb
    by_cases hlt : k < m
    · have hlt2 : (k : Int) < (m : Int) := by omega
      obtain ⟨q, t, hA, -, hhi, hg, hE⟩ := (H.out.below PartE.stays HB.out (Nat.le_refl _)).at_ hlt
      obtain ⟨C, n5, c5, c1, c2, c3, c4, c5'⟩ := hE.out
      clear hE
      subst hA
      have HG := Lib.hid hg; clear hg
      have HT5 := Lib.hid c5'; clear c5'
      cases ht : t.1
      · rw [ht] at c1
        have hm3 := H3.out t (List.mem_of_getElem? HG.out)
        have hl5 := HT5.out.1
        gi_wp2_with fail
        refine ⟨trivial, (callsIn_wide.2 (variablesOf_any t.2.1 C n5 c5 _)).mono ?_⟩
        rintro e w' ⟨rfl, rfl⟩
        have hal := below2 W (.cells #[.bool false, .string t.2.1, .slice C n5 c5] 52) (.cells #[.string t.2.1, .slice C n5 c5] 49)
        have b2 : ((W.alloc (.cells #[.bool false, .string t.2.1, .slice C n5 c5] 52)).alloc (.cells #[.string t.2.1, .slice C n5 c5] 49)).cell? ⟨W.heap.size + 1, 1, none⟩ = some (.slice C n5 c5) := by simp [go_sem]
        have hz2 : ((W.alloc (.cells #[.bool false, .string t.2.1, .slice C n5 c5] 52)).alloc (.cells #[.string t.2.1, .slice C n5 c5] 49)).heap.size = W.heap.size + 2 := by simp
        have HBK2 := Lib.hid ((HBK.out.alloc (.cells #[.bool false, .string t.2.1, .slice C n5 c5] 52)).alloc (.cells #[.string t.2.1, .slice C n5 c5] 49))
        have HMP2 := Lib.hid ((HMP.out.alloc (.cells #[.bool false, .string t.2.1, .slice C n5 c5] 52)).alloc (.cells #[.string t.2.1, .slice C n5 c5] 49))
        gi_wp2
        obtain ⟨W2, hW2⟩ : ∃ W2, (W.alloc (.cells #[.bool false, .string t.2.1, .slice C n5 c5] 52)).alloc (.cells #[.string t.2.1, .slice C n5 c5] 49) = W2 := ⟨_, rfl⟩
        rw [hW2] at hal b2 hz2 HBK2 HMP2 ⊢
        clear hW2
        have HMK2 := Lib.hid (HMK.out.kept (grownBelow hal none) (by simp))
        have HB2 := Lib.hid (HB.out.trans (hal.mono HB.out.size))
        have T2 := HT5.out.below (hal.mono HB.out.size) (Nat.le_refl _)
        have hs2 : w.heap.size ≤ W2.heap.size := by omega
        have HDL : Hid (∀ D ∈ Ds, D < W2.heap.size) := Lib.hid (fun D hD => (Array.getElem?_eq_some_iff.1 (HMK2.out.2 D hD)).1)
        refine wpIn_rangeFunc_ownG rfl (by omega) (gf := 160) (lb := #[.pointer (some ⟨W.heap.size + 1, 0, none⟩)]) rfl trivial (enters_of Tryz.func160 (by kernel_rfl) rfl)
          (varsS_stops (5 - 1) (by omega) (W.heap.size + 1) w.heap.size C n5 c5 t.2.2 W2 (by omega) hs2 b2 T2) belowK_t (belowK_b hs2) (Below.refl _ _) (fun _ => rfl)
          (fun pre V => (V.ownsMap Tryz.prog 9 (plainElem Tryz.prog 4) w.heap.size (N + pre.length) (bset (mvars (qs.take k) ++ pre.map (·.1))) ∧ Blk V (w.heap.size + 1) 109 #[.map (some w.heap.size)] ∧ Marks Ds V) ∧ Below w.heap.size w V)
          (fun _ _ _ => False)
          (fun s X Y row hs hg hr => ⟨⟨hs.1.1.kept hg (fun e => by have := (hr _ e.symm).1; omega), hs.1.2.1.kept hg (fun e => by have := (hr _ e.symm).1; omega), hs.1.2.2.kept hg (fun r e hD => by have := (hr r e).1; have := HDL.out r hD; omega)⟩, hs.2.grown hg hs.2.size (fun r e => by have := (hr r e).1; omega)⟩)
          (fun _ _ _ _ _ hs _ _ => hs)
          ⟨⟨by simpa using HMP2.out, HBK2.out, HMK2.out⟩, HB2.out⟩
          (fun x => { tmps := #[.slice (some q) m d, undef, .map none, .pointer (some ⟨w.heap.size + 1, 0, none⟩), undef, .pointer (some ⟨W.heap.size, 0, none⟩), .string x.1, .map (some w.heap.size), .slice (some q) m d, .int .i64 (m : Int), .int .i64 (k : Int), .bool true, .pointer (some (q.add (k * 3))), .agg #[.bool false, .string t.2.1, .slice C n5 c5], .pointer (some ⟨W.heap.size, 0, none⟩), .bool false, .pointer (some ⟨W.heap.size, 1, none⟩), .agg #[.string t.2.1, .slice C n5 c5], .func (.func 160) #[] #[.pointer (some ⟨W.heap.size + 1, 0, none⟩)], .string x.1, undef, undef, u22, undef], defers := [] }) ?assign ?body ?done ?stop
        case assign =>
          intro l x V K hK
          gi_wp2
          simpa using hK
        case body =>
          rintro l pre x V ⟨⟨hmp, hbk, hmk⟩, hB⟩ hlp
          have cB : V.cell? ⟨w.heap.size + 1, 0, none⟩ = some (.map (some w.heap.size)) := hbk.cell 0
          have hBs := hB.size
          gi_wp2_with (gi_at_mapUpdate; go_loud (refine wpListIn_mapUpdate_own _ rfl _ _ _ 109 rfl 9 4 Tryz.lawS Tryz.underlying109 _ w.heap.size (N + pre.length) _ rfl hmp (by unfold maxLen; omega) _ _ _ rfl rfl (keyOf_string_mk Tryz.underlying9 x.2) _ [] (plainElem_bool Tryz.underlying4 true) ?_; intro V1 hmp1 hgr1))
          have hb1 := hB.grown hgr1 hB.size (fun k e => by cases e; exact Nat.le_refl _)
          refine ⟨KeepsFrom.of_grownBy hgr1 (fun j e => by cases e; omega), (Below.refl w.heap.size V).grown hgr1 hBs (fun k e => by cases e; exact Nat.le_refl _), ⟨⟨?_, hbk.kept hgr1 (fun e => by injection e with e; omega), hmk.kept hgr1 (fun r e hD => by cases e; have := HDS.out _ hD; omega)⟩, hb1⟩⟩
          rw [List.map_append, ← List.append_assoc, List.length_append]
          show V1.ownsMap _ _ _ _ _ (bset ((mvars (qs.take k) ++ pre.map (·.1)) ++ [x.1]))
          rw [bset_snoc]
          exact hmp1
        case done =>
          rintro D ys V hD hys ⟨⟨hmp, hbk, hmk⟩, hB⟩ hK
          have hyl : ys.length ≤ 3 := by have h1 := congrArg List.length hys; rw [List.length_map] at h1; have h2 := varsOf_len t.2.2 t.2.2.length; rw [List.take_of_length_le (Nat.le_refl _)] at h2; omega
          have hBs := hB.size
          have hDV := (Array.getElem?_eq_some_iff.1 hK).1
          rw [hys] at hmp
          gi_wp2
          exact ⟨⟨k + 1, D :: Ds, N + ys.length, _, _, _, _, _, _, _, _, _, _, rfl, by omega, by omega, hbk, by rw [mvars_yes HG.out ht]; exact hmp, ⟨List.nodup_cons.2 ⟨fun hD2 => by have := HDL.out D hD2; omega, hmk.1⟩, fun D2 hD2 => by rcases List.mem_cons.1 hD2 with rfl | hD2; exact hK; exact hmk.2 D2 hD2⟩, fun D2 hD2 => by rcases List.mem_cons.1 hD2 with rfl | hD2; omega; exact HDS.out D2 hD2, hB, by omega⟩, by simp [intOf]; omega⟩
        case stop =>
          rintro D c pre V hD hpre hF
          exact hF.elim
      · rw [ht] at c1
        have hal := below1 W (.cells #[.bool true, .string t.2.1, .slice C n5 c5] 52)
        gi_wp2
        exact ⟨⟨k + 1, Ds, N, _, _, _, _, _, _, _, _, _, _, rfl, by omega, by omega, HBK.out.alloc _, by rw [mvars_no HG.out ht]; exact HMP.out.alloc _, HMK.out.kept (grownBelow hal none) (by simp), HDS.out, HB.out.trans (hal.mono HB.out.size), by simp; omega⟩, by simp [intOf]; omega⟩
    · have hlt2 : ¬ (k : Int) < (m : Int) := by omega
      have E := Lib.hid (show mvars (qs.take k) = mvars qs by rw [List.take_of_length_le (by rw [HL.out]; omega)])
      have cB : W.cell? ⟨w.heap.size + 1, 0, none⟩ = some (.map (some w.heap.size)) := HBK.out.cell 0
      gi_wp2
      refine leaves_marks Ds _ HMK.out (fun W' h1 h2 h3 h4 h5 => ?_)
      have hBW : Below (w.heap.size + 2) W W' := ⟨h1, h2, h3, by omega, fun i hi => h5 i (fun hD => by have := HDS.out _ hD; omega)⟩
      have hm5 : W'.heap[w.heap.size]? = W.heap[w.heap.size]? := hBW.block _ (by omega)
      refine ⟨.map (some w.heap.size), ?_, w.heap.size, N, rfl, Nat.le_refl _, ?_, HB.out.trans (hBW.mono (by omega))⟩
      · simp [results, Tryz.f68, go_sem]
      · rw [← E.out]
        obtain ⟨es, clock, hb, F, hs, hD⟩ := HMP.out
        exact ⟨es, clock, hm5.trans hb, F, hs, hD⟩

end Go.Proofs.YtcigljngiemdeaaGreat

namespace Go.Proofs.YtcigljngiemdeaaGreat
open Go.RowKit Go.Shelf Go.Maps Go.WideMaps
attribute [local go_sem] Oper.semAt_some

theorem plainElem_bool_inv {H : Type} {P : Program} {e : TypeId} (he : P.underlying e = some .bool) {v : Value} {z : DataW H × List MemPlace} (h : plainElem P e v = some z) : ∃ x, v = .bool x ∧ z = (.lit (.bool x), []) := by
  unfold plainElem at h
  rw [he] at h
  cases v <;> simp at h
  exact ⟨_, rfl, h.symm⟩

/-- Is a text one of these? -/
def memT (vs : List ByteArray) (s : ByteArray) : Bool := vs.any fun v => decide (v = s)

theorem memT_iff {vs : List ByteArray} {s : ByteArray} : memT vs s = true ↔ s ∈ vs := by
  unfold memT
  rw [List.any_eq_true]
  exact ⟨fun ⟨v, hv, e⟩ => by have := of_decide_eq_true e; rwa [← this], fun h => ⟨s, h, decide_eq_true rfl⟩⟩

/-- A look-up at elements that are true or false. -/
theorem wpListIn_lookup_bool {H : Type} {F : Fence} {nF : Nat} {P : Program} (w : World) {ops : Array Oper} {rest : List Oper} {o : Oper} {a : Act} {Q : Exit → Act → World → Prop}
    (hg : o.guard = none) (m x : Operand) (t : TypeId) (hop : o.op = Op.lookup t m x false)
    (k e : TypeId) (K : Keyed P k) (ht : P.underlying t = some (.map k e)) (he : P.underlying e = some .bool) (hz : (zeroValue e).run P w = .ok (.bool false) w) (b n : Nat) (D : DataW H)
    (hm : a.eval m = .map (some b)) (hown : w.ownsMap P k (plainElem P e) b n D) (key : Value) (kl : Lit) (hx : a.eval x = key) (hkey : keyOf P k key = some kl) (c : Bool) (hc : D.atKey kl (.lit (.bool false)) = .lit (.bool c))
    (hK : wpListIn F nF P ops Q rest (a.put o.dst (.bool c)) w) :
    wpListIn F nF P ops Q (o :: rest) a w := by
  refine wpListIn_plain hg fun K' hK' => ?_
  obtain ⟨v, ps, hrun, hv⟩ := hown.lookup K ht hz (plainElem_bool he false) hkey
  obtain ⟨x', rfl, hx'⟩ := plainElem_bool_inv he hv
  have e1 : x' = c := by
    have := congrArg Prod.fst hx'
    simp only [hc] at this
    injection this with this
    injection this with this
    exact this.symm
  subst e1
  unfold Oper.wpIn
  refine ⟨by simp [Oper.about, hop], ?_⟩
  rw [Oper.semAt_plain F _ _ (by rw [hop]; intro c hc'; cases hc')]
  simp [execOp, hop, hm, hx, hrun, Result.andThen]
  exact hK' _ _ hK

theorem bset_at (s : ByteArray) (vs : List ByteArray) : (bset vs).atKey (.string s.data.toList) (.lit (.bool false)) = .lit (.bool (memT vs s)) := by
  have hk : ∀ l : List ByteArray, ∀ y ∈ l.map (fun s : ByteArray => Lit.string s.data.toList), WideAt.IsKeyLit y := by
    intro l y hy
    obtain ⟨u, _, rfl⟩ := List.mem_map.1 hy
    trivial
  have hm : ∀ l : List ByteArray, ∀ v, memT (l ++ [v]) s = (memT l s || decide (v = s)) := by
    intro l v; unfold memT; rw [List.any_append]; simp
  suffices h : ∀ vs : List ByteArray, (bset vs.reverse).atKey (.string s.data.toList) (.lit (.bool false)) = .lit (.bool (memT vs.reverse s)) by
    have := h vs.reverse
    rwa [List.reverse_reverse] at this
  intro vs
  induction vs with
  | nil => rfl
  | cons v vs ih =>
    rw [List.reverse_cons, bset_snoc]
    by_cases hv : s = v
    · subst hv
      rw [show (bset vs.reverse).put (.string s.data.toList) (.lit (.bool true)) = (setOf (.lit (.bool true)) (vs.reverse.map fun s => .string s.data.toList)).put (.string s.data.toList) (.lit (.bool true)) from rfl, atKey_put_same (tidy_setOf _ _ (hk _)).isMap (show WideAt.IsKeyLit (.string s.data.toList) from trivial), hm]
      simp
    · have hne : (Lit.string s.data.toList) ≠ .string v.data.toList := fun e => hv (by
        injection e with e
        cases s; cases v
        simpa using e)
      rw [atKey_put_other hne, ih, hm]
      simp [Ne.symm hv]

/-- Is a variable of these rules none of these? -/
def looseB (rs : List Rl) (vs : List ByteArray) : Bool := (atsOf rs).any fun a => (varsOf a.2).any fun v => !memT vs v

theorem loose_no {w : World} {n₀ : Nat} {rs : List Rl} {vs : List ByteArray} {ys : List (Lain w n₀)} (h : ys.map lainAt = atsOf rs) (hp : ∀ x ∈ ys, ∀ v ∈ varsOf (lainAt x).2, v ∈ vs) : looseB rs vs = false := by
  unfold looseB
  rw [← h, List.any_eq_false]
  intro a ha
  obtain ⟨x, hx, rfl⟩ := List.mem_map.1 ha
  simp only [List.any_eq_true, not_exists, not_and]
  intro v hv
  rw [memT_iff.2 (hp x hx v hv)]
  simp

theorem loose_yes {w : World} {n₀ : Nat} {rs : List Rl} {vs : List ByteArray} {ys : List (Lain w n₀)} (h : ys.map lainAt <+: atsOf rs) (hp : ∃ x ∈ ys, ∃ v ∈ varsOf (lainAt x).2, v ∉ vs) : looseB rs vs = true := by
  obtain ⟨x, hx, v, hv, hn⟩ := hp
  unfold looseB
  rw [List.any_eq_true]
  exact ⟨lainAt x, h.subset (List.mem_map_of_mem hx), List.any_eq_true.2 ⟨v, hv, by cases h : memT vs v; rfl; exact absurd (memT_iff.1 h) hn⟩⟩

theorem ownsMap_below {H : Type} {P : Program} {k : TypeId} {R : Value → Option (DataW H × List MemPlace)} {w w' : World} {B b n : Nat} {D : DataW H} (h : w.ownsMap P k R b n D) (hb : Below B w w') (hB : b < B) : w'.ownsMap P k R b n D := by
  obtain ⟨es, clock, h1, F, hs, hD⟩ := h
  exact ⟨es, clock, (hb.block b hB).trans h1, F, hs, hD⟩

theorem atoms_stops (n : Nat) (hn : 1 ≤ n) (Bs n₀ : Nat) (A : Option Addr) (m c : Nat) (rs : List Rl) (w : World) (hBs : Bs < w.heap.size) (hn0 : n₀ ≤ w.heap.size) (hB : w.cell? ⟨Bs, 0, none⟩ = some (.slice A m c)) (hT : IsRules w 0 n₀ A m c rs) :
    SeqStopsK Fence.wide n Tryz.prog 170 #[.pointer (some ⟨Bs, 0, none⟩)] (fun x : Lain w n₀ => #[Value.agg #[.string x.1.1.1, .slice x.1.1.2 x.1.2.1.1 x.1.2.1.2]]) (KeepsCells n₀) (fun ys => ys.map lainAt = atsOf rs) (fun pre => pre.map lainAt <+: atsOf rs) (atsOf rs).length w := fun l J Jx W hW hJ _ hY h0 =>
  atomsS_in n hn l Bs n₀ A m c rs w J Jx W hJ hY ((hW.cell (p := ⟨Bs, 0, none⟩) hBs).trans hB) hn0 (hW.mono hn0) hT h0

theorem atomsOf_any (A : Option Addr) (m c : Nat) (w : World) :
    Calls Tryz.prog 130 #[.slice A m c] w fun e w' => e = .returned (.func (.func 170) #[] #[.pointer (some ⟨w.heap.size, 0, none⟩)]) ∧ w' = w.alloc (.cells #[.slice A m c] 100) := by
  go_enter Tryz.func130, Tryz.ntmps130
  go_wp2
  go_ret
  exact ⟨rfl, rfl⟩

set_option maxRecDepth 100000 in
set_option maxHeartbeats 8000000 in
theorem isLoose_any (nm : ByteArray) (A : Option Addr) (n c : Nat) (hd : List Tm) (B : Option Addr) (m d : Nat) (qs : List Pt) (w : World) (hs : nm.size ≤ maxLen) (h : IsTerms w 0 w.heap.size A n c hd) (h' : IsParts w 0 w.heap.size B m d qs) (h3 : ∀ q ∈ qs, q.2.2.length ≤ 3) (hmax : m ≤ 1000) :
    Calls Tryz.prog 90 #[.agg #[.string nm, .slice A n c, .slice B m d]] w (BoolPost (looseB [((nm, hd), qs)] (mvars qs)) w) := by
  have h2 := below2 w (.cells #[.string nm, .slice A n c, .slice B m d] 114) (.cells #[.bool false] 4)
  have X0 := (Blk.new w 114 #[.string nm, .slice A n c, .slice B m d]).alloc (.cells #[.bool false] 4)
  have Y0 := Blk.made (w.alloc (.cells #[.string nm, .slice A n c, .slice B m d] 114)) (b := w.heap.size + 1) 4 #[.bool false] (by simp)
  obtain ⟨W1, hW1⟩ : ∃ W1, (w.alloc (.cells #[.string nm, .slice A n c, .slice B m d] 114)).alloc (.cells #[.bool false] 4) = W1 := ⟨_, rfl⟩
  have hz1 : W1.heap.size = w.heap.size + 2 := by rw [← hW1]; simp
  have h2' := h2; have X0' := X0; have Y0' := Y0
  rw [hW1] at h2' X0' Y0'
  have HB1 := Lib.hid h2'; have X1 := Lib.hid X0'; have Y1 := Lib.hid Y0'
  have HT1 := Lib.hid (h.up h2'); have HP1 := Lib.hid (h'.up PartE.stays h2')
  clear h h' h2 X0 Y0 h2' X0' Y0'
  have x2 : W1.cell? ⟨w.heap.size, 2, none⟩ = some (.slice B m d) := X1.out.cell 2
  refine (callsIn_wide (n := 6)).1 ?_
  refine callsIn_of_wp_marks Tryz.func90 rfl trivial ?_ rfl
  simp only [Tryz.ntmps90, List.size_toArray, List.length_cons, List.length_nil, Nat.reduceAdd, Nat.reduceSub, Array.replicate_succ, Array.replicate_zero, List.push_toArray, List.append_toArray, List.nil_append, List.cons_append]
  gi_wp2_with fail
  refine ⟨trivial, (callsIn_wide.2 (boundVars_any B m d qs W1 HP1.out h3 hmax)).mono ?_⟩
  rintro e w2 ⟨b, N, rfl, hb, hmap, hb2⟩
  have hz2 := hb2.size
  have X2 := X1.out.below hb2
  have Y2 := Y1.out.below hb2
  have hB2 := belowThen HB1.out hb2
  have r0 : w2.cell? ⟨w.heap.size, 0, none⟩ = some (.string nm) := X2.cell 0
  have r1 : w2.cell? ⟨w.heap.size, 1, none⟩ = some (.slice A n c) := X2.cell 1
  have r2 : w2.cell? ⟨w.heap.size, 2, none⟩ = some (.slice B m d) := X2.cell 2
  have hX := X2.lt
  gi_wp2_with (refine ⟨trivial, ?_⟩; gi_at_call 130; refine (callsIn_wide.2 (atomsOf_any _ _ _ _)).mono ?_; rintro e w' ⟨rfl, rfl⟩)
  have hb3 := below3 w2 (.cells #[.map (some b)] 109) (.cells #[.string nm, .slice A n c, .slice B m d] 114) (.cells #[.slice (some ⟨w2.heap.size + 1, 0, none⟩) 1 1] 100)
  have Y3 := ((Y2.alloc (.cells #[.map (some b)] 109)).alloc (.cells #[.string nm, .slice A n c, .slice B m d] 114)).alloc (.cells #[.slice (some ⟨w2.heap.size + 1, 0, none⟩) 1 1] 100)
  have M3 := ((Blk.new w2 109 #[.map (some b)]).alloc (.cells #[.string nm, .slice A n c, .slice B m d] 114)).alloc (.cells #[.slice (some ⟨w2.heap.size + 1, 0, none⟩) 1 1] 100)
  have R3 := (Blk.made (w2.alloc (.cells #[.map (some b)] 109)) (b := w2.heap.size + 1) 114 #[.string nm, .slice A n c, .slice B m d] (by simp)).alloc (.cells #[.slice (some ⟨w2.heap.size + 1, 0, none⟩) 1 1] 100)
  have L3 := Blk.made ((w2.alloc (.cells #[.map (some b)] 109)).alloc (.cells #[.string nm, .slice A n c, .slice B m d] 114)) (b := w2.heap.size + 1 + 1) 100 #[.slice (some ⟨w2.heap.size + 1, 0, none⟩) 1 1] (by simp)
  have hz3 : (((w2.alloc (.cells #[.map (some b)] 109)).alloc (.cells #[.string nm, .slice A n c, .slice B m d] 114)).alloc (.cells #[.slice (some ⟨w2.heap.size + 1, 0, none⟩) 1 1] 100)).heap.size = w2.heap.size + 3 := by simp
  obtain ⟨W0, hW0⟩ : ∃ W0, ((w2.alloc (.cells #[.map (some b)] 109)).alloc (.cells #[.string nm, .slice A n c, .slice B m d] 114)).alloc (.cells #[.slice (some ⟨w2.heap.size + 1, 0, none⟩) 1 1] 100) = W0 := ⟨_, rfl⟩
  rw [hW0] at hb3 Y3 M3 R3 L3 hz3 ⊢
  clear hW0 hW1 x2 r0 r1 r2
  have hB0 := belowThen hB2 hb3
  have hB10 := belowThen hb2 hb3
  have MP := ownsMap_below hmap hb3 hmap.lt
  have hlb := hmap.lt
  have TR : IsRules W0 0 W0.heap.size (some ⟨w2.heap.size + 1, 0, none⟩) 1 1 [((nm, hd), qs)] := ⟨rfl, Nat.le_refl _, by unfold maxLen; omega, fun _ => ⟨⟨w2.heap.size + 1, 0, none⟩, rfl, Nat.zero_le _, by show w2.heap.size + 1 < W0.heap.size; omega, fun i x hx => by
    cases i with
    | succ i => simp at hx
    | zero =>
      simp only [List.getElem?_cons_zero, Option.some.injEq] at hx
      subst hx
      exact ⟨R3.cell 0, hs, ⟨A, n, c, R3.cell 1, HT1.out.up hB10⟩, ⟨B, m, d, R3.cell 2, HP1.out.up PartE.stays hB10⟩⟩⟩⟩
  have HY3 := Lib.hid Y3; have HM3 := Lib.hid M3; have HMP := Lib.hid MP; have HB0 := Lib.hid hB0
  clear Y3 M3 MP R3 X2 Y2 hmap hb3 hb2 hB10
  refine wpIn_rangeFunc_ownH rfl (by omega) (gf := 170) (lb := #[.pointer (some ⟨w2.heap.size + 1 + 1, 0, none⟩)]) rfl trivial (enters_of Tryz.func170 (by kernel_rfl) rfl)
    (atoms_stops (6 - 1) (by omega) (w2.heap.size + 1 + 1) W0.heap.size _ 1 1 _ W0 (by omega) (Nat.le_refl _) (L3.cell 0) TR) keepsC_t (keepsC_b (Nat.le_refl _)) (Below.refl _ _) (fun _ => rfl)
    (fun pre W => (∀ x ∈ pre, ∀ v ∈ varsOf (lainAt x).2, v ∈ mvars qs) ∧ Below W0.heap.size W0 W)
    (fun c pre W => ((c = .ret ∧ ∃ x ∈ pre, ∃ v ∈ varsOf (lainAt x).2, v ∉ mvars qs) ∧ Blk W (w.heap.size + 1) 4 #[.bool true]) ∧ Below w.heap.size w W)
    (OwnFrom.and (ownFrom_pure _ _) (ownFrom_below (Nat.le_refl _) (Nat.le_refl _)))
    (fun c => OwnFrom.and (OwnFrom.and (ownFrom_pure _ _) (Own.from (Blk.own _ _ _) _)) (ownFrom_below (Nat.le_refl _) (by omega)))
    ⟨by simp, Below.refl _ _⟩
    (fun x a' W => ∃ Bx, Blk W Bx 49 #[.string x.1.1.1, .slice x.1.1.2 x.1.2.1.1 x.1.2.1.2] ∧ a' = { tmps := #[.agg #[.string nm, .slice A n c, .slice B m d], .pointer (some ⟨w.heap.size, 0, none⟩), .pointer (some ⟨w.heap.size + 1, 0, none⟩), .pointer (some ⟨w2.heap.size, 0, none⟩), .pointer (some ⟨Bx, 0, none⟩), undef, .pointer (some ⟨w.heap.size, 2, none⟩), .slice B m d, .map (some b), .agg #[.string nm, .slice A n c, .slice B m d], .slice (some ⟨w2.heap.size + 1, 0, none⟩) 1 1, .func (.func 170) #[] #[.pointer (some ⟨w2.heap.size + 1 + 1, 0, none⟩)], .agg #[.string x.1.1.1, .slice x.1.1.2 x.1.2.1.1 x.1.2.1.2], undef, undef, undef, undef, undef, undef, undef], defers := [] })
    (fun x a' _ X Y row hs hg hr => by obtain ⟨Bx, e2, e3⟩ := hs; exact ⟨Bx, Blk.own Bx _ _ () X Y row e2 hg (fun r e => (hr r e).2), e3⟩)
    ?assign ?body ?done ?stop
  case assign =>
    rintro l pre x W K ⟨hp, hB⟩ hK
    have hsz := hB.size
    gi_wp2
    exact hK _ _ ((KeepsOthers.alloc _ _).from _) (KeepsCells.of (below1 W _) hsz) ⟨hp, hB.alloc hsz _⟩ ⟨W.heap.size, Blk.new W _ _, rfl⟩
  case body =>
    rintro l pre ⟨⟨⟨nm5, C⟩, ⟨n5, c5⟩, ts5⟩, hx1, hx2⟩ a' W hl ⟨r, hr⟩ ⟨hp, hB⟩ ⟨Bx, bX, rfl⟩ hlt
    have hsW := hB.size
    have c0 : W.cell? ⟨Bx, 0, none⟩ = some (.string nm5) := bX.cell 0
    have c1 : W.cell? ⟨Bx, 1, none⟩ = some (.slice C n5 c5) := bX.cell 1
    gi_wp2_with (refine ⟨trivial, ?_⟩; gi_at_call 117; refine (CallsIn.inRound l (callsIn_wide.2 (variablesOf_any nm5 C n5 c5 _))).mono ?_; rintro e w' ⟨rfl, rfl⟩)
    have bN := Blk.new W 49 #[.string nm5, .slice C n5 c5]
    have hr' : (W.alloc (.cells #[.string nm5, .slice C n5 c5] 49)).heap[l]? = some (.loop r) := (Below.heap_alloc W _ l (Array.getElem?_eq_some_iff.1 hr).1).trans hr
    have hT5 : IsTerms (W.alloc (.cells #[.string nm5, .slice C n5 c5] 49)) 0 W0.heap.size C n5 c5 ts5 := IsTerms.below hx2 (hB.alloc hsW _) (Nat.le_refl _)
    refine wpIn_rangeFunc_ownN (l₀ := l) (r₀ := r) rfl hr' (by omega) (gf := 160) (lb := #[.pointer (some ⟨W.heap.size, 0, none⟩)]) rfl trivial (enters_of Tryz.func160 (by kernel_rfl) rfl)
      ((varsS_stops (6 - 1 - 1 - 1) (by omega) W.heap.size W0.heap.size C n5 c5 ts5 _ (by simp) (by simp; omega) (bN.cell 1) hT5).inRound l) belowK_t (belowK_b (by simp; omega)) (Below.refl _ _) (fun _ => rfl)
      (fun pre' W' => (∀ v ∈ pre', v.1 ∈ mvars qs) ∧ (KeepsCells W0.heap.size W W' ∧ KeepsFrom W0.heap.size W W'))
      (fun c pre' W' => ((c = .ret ∧ ∃ v ∈ pre', v.1 ∉ mvars qs) ∧ Blk W' (w.heap.size + 1) 4 #[.bool true]) ∧ (Below w.heap.size W W' ∧ KeepsFrom W0.heap.size W W'))
      (OwnFrom.and (ownFrom_pure _ _) (OwnFrom.and (ownFrom_cells hsW (by simp; omega)) (ownFrom_keepsFrom (by simp))))
      (fun c => OwnFrom.and (OwnFrom.and (ownFrom_pure _ _) (Own.from (Blk.own _ _ _) _)) (OwnFrom.and (ownFrom_below (by omega) (by simp; omega)) (ownFrom_keepsFrom (by simp))))
      ⟨by simp, KeepsCells.of (below1 W _) hsW, (KeepsOthers.alloc _ _).from _⟩
      (fun y a'' _ => a'' = { tmps := #[.agg #[.string nm, .slice A n c, .slice B m d], .pointer (some ⟨w.heap.size, 0, none⟩), .pointer (some ⟨w.heap.size + 1, 0, none⟩), .pointer (some ⟨w2.heap.size, 0, none⟩), .pointer (some ⟨Bx, 0, none⟩), .string y.1, .pointer (some ⟨w.heap.size, 2, none⟩), .slice B m d, .map (some b), .agg #[.string nm, .slice A n c, .slice B m d], .slice (some ⟨w2.heap.size + 1, 0, none⟩) 1 1, .func (.func 170) #[] #[.pointer (some ⟨w2.heap.size + 1 + 1, 0, none⟩)], .agg #[.string nm5, .slice C n5 c5], .agg #[.string nm5, .slice C n5 c5], .func (.func 160) #[] #[.pointer (some ⟨W.heap.size, 0, none⟩)], .string y.1, undef, undef, undef, undef], defers := [] })
      (fun _ _ _ _ _ _ hs _ _ => hs)
      ?assign2 ?body2 ?done2 ?stop2
    case assign2 =>
      rintro l2 pre' y W' K hi hK
      gi_wp2
      exact hK _ _ (KeepsFrom.refl _ _) (Below.refl _ _) hi rfl
    case body2 =>
      rintro l2 pre' y a'' W' _ _ ⟨hq, hKC, hKF⟩ rfl _
      have hB' := hB.trans hKC.below
      have hs' := hB'.size
      have cM : W'.cell? ⟨w2.heap.size, 0, none⟩ = some (.map (some b)) := (HM3.out.below hB').cell 0
      have Y4 := HY3.out.below hB'
      have cR : W'.cell? ⟨w.heap.size + 1, 0, none⟩ = some (.bool false) := Y4.cell 0
      have fR := Y4.frozen 0
      have mp := ownsMap_below HMP.out hB' (by omega)
      have hyl := y.2
      cases hmem : memT (mvars qs) y.1
      · have hat := bset_at y.1 (mvars qs)
        rw [hmem] at hat
        gi_wp2_with (gi_at_lookup; go_loud (refine wpListIn_lookup_bool _ rfl _ _ 109 rfl 9 4 Tryz.lawS Tryz.underlying109 Tryz.underlying4 (Tryz.zeroValue4 _) b N _ rfl mp _ _ rfl (keyOf_string_mk Tryz.underlying9 hyl) false hat ?_))
        exact ⟨(KeepsOthers.setCell _ _ _).from _, ⟨⟨rfl, y, List.mem_append.2 (.inr (by simp)), fun hin => by rw [memT_iff.2 hin] at hmem; cases hmem⟩, Y4.set 0 (.bool true)⟩, (hKC.below.mono (by omega)).setCell (p := ⟨w.heap.size + 1, 0, none⟩) (by simp) _, hKF.trans ((KeepsOthers.setCell _ _ _).from _)⟩
      · have hat := bset_at y.1 (mvars qs)
        rw [hmem] at hat
        gi_wp2_with (gi_at_lookup; go_loud (refine wpListIn_lookup_bool _ rfl _ _ 109 rfl 9 4 Tryz.lawS Tryz.underlying109 Tryz.underlying4 (Tryz.zeroValue4 _) b N _ rfl mp _ _ rfl (keyOf_string_mk Tryz.underlying9 hyl) true hat ?_))
        exact ⟨KeepsFrom.refl _ _, Below.refl _ _, fun z hz => (List.mem_append.1 hz).elim (hq z) (fun e => by simp only [List.mem_singleton] at e; subst e; exact memT_iff.1 hmem), hKC, hKF⟩
    case done2 =>
      rintro ys' W' hys ⟨hq, hKC, hKF⟩
      gi_wp2
      exact ⟨hKF, hKC, fun x hx => (List.mem_append.1 hx).elim (hp x) (fun e v hv => by
        simp only [List.mem_singleton] at e
        subst e
        change v ∈ varsOf ts5 at hv
        rw [← hys] at hv
        obtain ⟨z, hz, rfl⟩ := List.mem_map.1 hv
        exact hq z hz), hB.trans hKC.below⟩
    case stop2 =>
      rintro c pre' W' hpre ⟨⟨⟨rfl, v, hv, hn⟩, Y5⟩, hBW, hKF⟩
      gi_wp2
      exact ⟨hKF, ⟨⟨rfl, _, List.mem_append.2 (.inr (List.mem_singleton.2 rfl)), v.1, hpre.subset (List.mem_map_of_mem hv), hn⟩, Y5⟩, (HB0.out.trans (hB.mono (by omega))).trans hBW⟩
  case done =>
    rintro D ys W hD hys ⟨hp, hB⟩ hK
    have Y4 := HY3.out.below hB
    have cR : W.cell? ⟨w.heap.size + 1, 0, none⟩ = some (.bool false) := Y4.cell 0
    have fR := Y4.frozen 0
    have hsz := hB.size
    gi_wp2
    have hK' := (KeepsOthers.setCell W ⟨w.heap.size + 1, 0, none⟩ (.bool false)).same D _ hK rfl
    refine ⟨by simp, .inl ⟨_, _, rfl, run_takeDeferred hK', ?_⟩⟩
    have hc5 := cell_kept (show (W.setCell ⟨w.heap.size + 1, 0, none⟩ (.bool false)).cell? ⟨w.heap.size + 1, 0, none⟩ = some (.bool false) from (Y4.set 0 (.bool false)).cell 0) (grownBy_putObj' _ D (.deferred none)) (fun r e => by cases e; exact ⟨_, hK', rfl⟩)
    refine ⟨.bool false, ?_, by rw [loose_no hys hp], ((HB0.out.trans (hB.mono (by omega))).setCell (p := ⟨w.heap.size + 1, 0, none⟩) (by simp) _).trans (belowK_b (w := w) (Nat.le_refl _) _ D _ _ (by omega) hK' rfl rfl)⟩
    simp [results, Tryz.f90, go_sem, hc5]
  case stop =>
    rintro D c pre W hD hpre ⟨⟨⟨rfl, hp⟩, Y4⟩, hB⟩ hK
    gi_wp2
    refine ⟨by simp, .inl ⟨_, _, rfl, run_takeDeferred hK, ?_⟩⟩
    have hc5 := cell_kept (show W.cell? ⟨w.heap.size + 1, 0, none⟩ = some (.bool true) from Y4.cell 0) (grownBy_putObj' _ D (.deferred none)) (fun r e => by cases e; exact ⟨_, hK, rfl⟩)
    refine ⟨.bool true, ?_, by rw [loose_yes hpre hp], hB.trans (belowK_b (w := w) (Nat.le_refl _) W D _ _ (by omega) hK rfl rfl)⟩
    simp [results, Tryz.f90, go_sem, hc5]

end Go.Proofs.YtcigljngiemdeaaGreat
