/-
  The atoms of rules, as the program goes through them.
-/
import Derived.Test.YtcigljngiemdeaaGreatAo0
import Derived.Test.YtcigljngiemdeaaGreatAo2
set_option maxRecDepth 100000
set_option maxHeartbeats 8000000
namespace Go.Proofs.YtcigljngiemdeaaGreat
open Go.RowKit Go.Shelf
attribute [local go_sem] Oper.semAt_some
structure KeepsCells (n₀ : Nat) (W W' : World) : Prop where
  below : Below n₀ W W'
  same : ∀ (b : Nat) (o : Obj), W.heap[b]? = some o → o.isCells = true → W'.heap[b]? = W.heap[b]?
theorem KeepsCells.refl (n₀ : Nat) (W : World) : KeepsCells n₀ W W := ⟨Below.refl _ _, fun _ _ _ _ => rfl⟩
theorem KeepsCells.trans {n₀ : Nat} {A B C : World} (h : KeepsCells n₀ A B) (k : KeepsCells n₀ B C) : KeepsCells n₀ A C :=
  ⟨h.below.trans k.below, fun b o hb ho => (k.same b o ((h.same b o hb ho).trans hb) ho).trans (h.same b o hb ho)⟩
theorem KeepsCells.of {n₀ : Nat} {A B : World} (h : Below A.heap.size A B) (hn : n₀ ≤ A.heap.size) : KeepsCells n₀ A B :=
  ⟨h.mono hn, fun b _ hb _ => h.block b (Array.getElem?_eq_some_iff.1 hb).1⟩
theorem cells_of_cell {W : World} {p : Addr} {v : Value} (h : W.cell? p = some v) : ∃ o, W.heap[p.block]? = some o ∧ o.isCells = true := by
  unfold World.cell? at h; split at h
  · rename_i c e f hb; exact ⟨_, hb, rfl⟩
  · cases h
theorem KeepsCells.cell {n₀ : Nat} {W W' : World} (h : KeepsCells n₀ W W') {p : Addr} {v : Value} (hc : W.cell? p = some v) : W'.cell? p = some v := by
  obtain ⟨o, ho, hi⟩ := cells_of_cell hc; exact (cb_ (h.same _ o ho hi)).trans hc
theorem keepsC_t {n₀ : Nat} {A B C : World} (h : KeepsCells n₀ A B) (k : KeepsCells n₀ B C) : KeepsCells n₀ A C := h.trans k
theorem keepsC_b {n₀ : Nat} {w : World} (hn : n₀ ≤ w.heap.size) (W : World) (l : Nat) (o o' : Obj) (hl : w.heap.size ≤ l) (h : W.heap[l]? = some o) (hc : o.isCells = false) (hw : o.isWalk = false) : KeepsCells n₀ W (W.putObj l o') :=
  ⟨belowK_b hn W l o o' hl h hc hw, fun b o2 hb hc2 => (grownBy_putObj' W l o').block b (Array.getElem?_eq_some_iff.1 hb).1 (fun e => by injection e with e; subst e; rw [h] at hb; cases hb; rw [hc] at hc2; cases hc2)⟩
theorem ownFrom_cells {β : Type} {n₀ B : Nat} {w₀ : World} (hn : n₀ ≤ w₀.heap.size) (hB : n₀ ≤ B) : OwnFrom B (fun (_ : β) W => KeepsCells n₀ w₀ W) :=
  fun s A C row hs hg hr => ⟨ownFrom_below hn hB s A C row hs.below hg hr, fun b o hb ho => by
    have hA := (hs.same b o hb ho).trans hb; refine (hg.block b (Array.getElem?_eq_some_iff.1 hA).1 (fun e => ?_)).trans (hs.same b o hb ho); obtain ⟨_, o', h1, h2⟩ := hr b e.symm; rw [hA] at h1; cases h1; rw [ho] at h2; cases h2⟩
abbrev Lain (w : World) (n₀ : Nat) := { x : (ByteArray × Option Addr) × (Nat × Nat) × List Tm // x.1.1.size ≤ maxLen ∧ IsTerms w 0 n₀ x.1.2 x.2.1.1 x.2.1.2 x.2.2 }
def lainAt {w : World} {n₀ : Nat} (x : Lain w n₀) : At := (x.1.1.1, x.1.2.2)
def atsOf (rs : List Rl) : List At := rs.flatMap fun r => r.1 :: r.2.map (·.2)
theorem atsOf_step {rs : List Rl} {k : Nat} {r : Rl} (h : rs[k]? = some r) : atsOf (rs.take (k + 1)) = atsOf (rs.take k) ++ r.1 :: r.2.map (·.2) := by
  unfold atsOf; rw [List.take_add_one, h, List.flatMap_append]; simp
theorem atsOf_pre {rs : List Rl} {k : Nat} {r : Rl} (h : rs[k]? = some r) (j : Nat) : (atsOf (rs.take k) ++ r.1 :: (r.2.take j).map (·.2)) <+: atsOf rs := by
  have h1 : atsOf (rs.take (k + 1)) <+: atsOf rs := by
    conv => rhs; rw [← List.take_append_drop (k + 1) rs]
    unfold atsOf; rw [List.flatMap_append]; exact List.prefix_append _ _
  refine List.IsPrefix.trans ?_ h1; rw [atsOf_step h, List.prefix_append_right_inj, List.cons_prefix_cons]; exact ⟨rfl, List.IsPrefix.map _ (List.take_prefix _ _)⟩
theorem atsIn_step {qs : List Pt} {j : Nat} {q : Pt} (h : qs[j]? = some q) (L : List At) (a : At) : L ++ a :: (qs.take (j + 1)).map (·.2) = (L ++ a :: (qs.take j).map (·.2)) ++ [q.2] := by
  rw [List.take_add_one, h, List.map_append]; simp
theorem pre_lt {α β : Type} {f : α → β} {ps : List α} {L M : List β} {b : β} (h : ps.map f = L) (hp : (L ++ [b]) <+: M) : ps.length < M.length := by
  have h1 := congrArg List.length h; have h2 := hp.length_le; rw [List.length_map] at h1; rw [List.length_append, List.length_singleton] at h2; omega
theorem RuleE.out {w : World} {lo hi : Nat} {p : Addr} {r : Rl} (h : RuleE w lo hi p r) : ∃ A n c B m d, w.cell? p = some (.string r.1.1) ∧ r.1.1.size ≤ maxLen ∧ w.cell? ⟨p.block, p.off + 1, none⟩ = some (.slice A n c) ∧ IsTerms w lo hi A n c r.1.2 ∧ w.cell? ⟨p.block, p.off + 2, none⟩ = some (.slice B m d) ∧ IsParts w lo hi B m d r.2 := by
  obtain ⟨h1, h2, ⟨A, n, c, h3, h4⟩, ⟨B, m, d, h5, h6⟩⟩ := h; exact ⟨A, n, c, B, m, d, h1, h2, h3, h4, h5, h6⟩
theorem atomsS_in (n : Nat) (hn : 1 ≤ n) (l Bs n₀ : Nat) (A : Option Addr) (m c : Nat) (rs : List Rl) (w : World) (J Jx : List (Lain w n₀) → World → Prop) (W : World) (hJ : AbidesFrom W.heap.size J)
    (hY : ∀ pre (x : Lain w n₀) W1, J pre W1 → pre.length < (atsOf rs).length → YieldAt Fence.wide (n - 1) Tryz.prog l #[.agg #[.string x.1.1.1, .slice x.1.1.2 x.1.2.1.1 x.1.2.1.2]] W1 fun e W' =>
      (e = .returned (.bool true) ∧ J (pre ++ [x]) W' ∧ KeepsCells n₀ W1 W') ∨ (e = .returned (.bool false) ∧ Jx (pre ++ [x]) W'))
    (hB : W.cell? ⟨Bs, 0, none⟩ = some (.slice A m c)) (hw : n₀ ≤ w.heap.size) (hb0 : Below n₀ w W) (hT : IsRules w 0 n₀ A m c rs) (h0 : J [] W) :
    CallsIn Fence.wide n Tryz.prog 170 #[.func (.yield l) #[] #[], .pointer (some ⟨Bs, 0, none⟩)] W fun e W' => (∃ v, e = .returned v) ∧
      ((∃ ys, ys.map lainAt = atsOf rs ∧ J ys W') ∨ (∃ pre, pre.map lainAt <+: atsOf rs ∧ Jx pre W')) := by
  have hm : m ≤ maxLen := qea; unfold maxLen at hm; have HT := hid hT; clear hT; have HY := hid hY; clear hY; have HJ0 := hid hJ; clear hJ; have HB0 := hid hb0; clear hb0; have hW0 := HB0.out.size; refine callsIn_of_wp Tryz.func170 rfl trivial ?_ rfl; simp only [Tryz.ntmps170, List.size_toArray, List.length_cons, List.length_nil, Nat.reduceAdd, Nat.reduceSub, Array.replicate_succ, Array.replicate_zero, List.push_toArray, List.append_toArray, List.nil_append, List.cons_append]; gi_wp2; gi_loopw [9] (fun i wr => ∃ k : Nat, k ≤ m ∧ i = .int .i64 k ∧ (∃ ps : List (Lain w n₀), ps.map lainAt = atsOf (rs.take k) ∧ J ps wr) ∧ KeepsCells n₀ W wr) (fun i _ => m - (intOf i).toNat)
  case atStart => exact ⟨0, Nat.zero_le _, rfl, ⟨[], rfl, h0⟩, KeepsCells.refl _ _⟩
  case round =>
    obtain ⟨k, hk, rfl, ⟨ps, hps, hJs⟩, hb⟩ := hrel; have HPS := hid hps; clear hps; have HJ := hid hJs; clear hJs; have HK := hid hb; have hbw := HB0.out.trans hb.below; have hwr := hbw.size; have hwr2 := hb.below.size; by_cases hlt : k < m
    · have hlt2 : (k : Int) < (m : Int) := qaa
      obtain ⟨p, r, hA, hlo, hhi, hg, hE⟩ := HT.out.at_ hlt; obtain ⟨C, n5, c5, D, n6, c6, c1, hs, c2, hT5, c4, hP6⟩ := hE.out; subst hA; have hpb : (p.add (k * 3)).block < n₀ := by rw [block_add]; exact hhi
      have e1 := (hbw.cell (p := p.add (k * 3)) hpb).trans c1; have e2 := (hbw.cell (p := ⟨(p.add (k * 3)).block, (p.add (k * 3)).off + 1, none⟩) hpb).trans c2; have e4 := (hbw.cell (p := ⟨(p.add (k * 3)).block, (p.add (k * 3)).off + 2, none⟩) hpb).trans c4; have HG := hid hg; have HT5 := hid hT5; have HP6 := hid hP6; clear hg hE hT5 hP6 c1 c2 c4; have hal := below1 wr (.cells #[.string r.1.1, .slice C n5 c5, .slice D n6 c6] 114); have X0 := Blk.new wr 114 #[.string r.1.1, .slice C n5 c5, .slice D n6 c6]; obtain ⟨fn, tmps, assign, body, hy, hR⟩ := HY.out ps ⟨((r.1.1, C), (n5, c5), r.1.2), hs, HT5.out⟩ (wr.alloc (.cells #[.string r.1.1, .slice C n5 c5, .slice D n6 c6] 114)) (HJ0.out _ _ _ none HJ.out (grownOf hal (nl _)) qdz) (pre_lt HPS.out (atsOf_pre HG.out 0))
      dsimp only at hy hR; gi_wp2; refine hR.mono ?_; rintro e W3 (⟨rfl, hJ3, hk3⟩ | ⟨rfl, hJx3⟩)
      · have K3 := (KeepsCells.of hal qaa).trans hk3
        have f2 : W3.cell? ⟨wr.heap.size, 2, none⟩ = some (.slice D n6 c6) := hk3.cell (X0.cell 2); have hz3 := hk3.below.size; have HJ3 := hid hJ3; clear hJ3; have hm6 : n6 ≤ maxLen := by have := HP6.out.2.1; have := HP6.out.2.2.1; omega
        unfold maxLen at hm6; gi_wp2; gi_loopw [21] (fun i wq => ∃ j : Nat, j ≤ n6 ∧ i = .int .i64 j ∧ (∃ ps : List (Lain w n₀), ps.map lainAt = atsOf (rs.take k) ++ r.1 :: (r.2.take j).map (·.2) ∧ J ps wq) ∧ KeepsCells n₀ wr wq) (fun i _ => n6 - (intOf i).toNat)
        case atStart => exact ⟨0, Nat.zero_le _, rfl, ⟨_, by rw [List.map_append, HPS.out]; rfl, HJ3.out⟩, K3⟩
        case round =>
          obtain ⟨j, hj, rfl, ⟨qs, hqs, hJq⟩, hbq⟩ := hrel; have HQS := hid hqs; have HJQ := hid hJq; have HKQ := hid hbq; clear hqs hJq hbq; have HBQ := hbw.trans HKQ.out.below; have hqz := HKQ.out.below.size; have hnq : n₀ ≤ wr.heap.size := qaa; by_cases hlq : j < n6
          · have hlq2 : (j : Int) < (n6 : Int) := qaa
            obtain ⟨q, t, hA2, -, hhi2, hg2, hE2⟩ := HP6.out.at_ hlq; obtain ⟨C2, n7, c7, d1, d2, ds, d4, dT⟩ := hE2.out; subst hA2; have hqb : (q.add (j * 3)).block < n₀ := by rw [block_add]; exact hhi2
            have g1 := (HBQ.cell (p := q.add (j * 3)) hqb).trans d1; have g2 := (HBQ.cell (p := ⟨(q.add (j * 3)).block, (q.add (j * 3)).off + 1, none⟩) hqb).trans d2; have g4 := (HBQ.cell (p := ⟨(q.add (j * 3)).block, (q.add (j * 3)).off + 2, none⟩) hqb).trans d4; have HG2 := hid hg2; have HT7 := hid dT; clear hg2 hE2 d1 d2 d4 dT; have hal2 := below1 wr (.cells #[.bool t.1, .string t.2.1, .slice C2 n7 c7] 52); obtain ⟨fn2, tmps2, assign2, body2, hy2, hR2⟩ := HY.out qs ⟨((t.2.1, C2), (n7, c7), t.2.2), ds, HT7.out⟩ (wr.alloc (.cells #[.bool t.1, .string t.2.1, .slice C2 n7 c7] 52)) (HJ0.out _ _ _ none HJQ.out (grownOf hal2 (nl _)) qdz) (pre_lt HQS.out (by rw [← atsIn_step HG2.out]; exact atsOf_pre HG.out (j + 1)))
            dsimp only at hy2 hR2; gi_wp2; refine hR2.mono ?_; rintro e W4 (⟨rfl, hJ4, hk4⟩ | ⟨rfl, hJx4⟩)
            · have K4 := (HKQ.out.trans (KeepsCells.of hal2 hnq)).trans hk4
              gi_wp2; go_roundw
              case rel => exact ⟨j + 1, by omega, by go_num, ⟨_, by rw [List.map_append, HQS.out, atsIn_step HG2.out]; rfl, hJ4⟩, K4⟩
              case measure => exact qms
            · gi_wp2
              refine bodyPost_ret (results_none rfl _ _ _) rfl ?_; exact ⟨⟨_, rfl⟩, .inr ⟨_, by rw [List.map_append, HQS.out]; show _ ++ [t.2] <+: _; rw [← atsIn_step HG2.out]; exact atsOf_pre HG.out (j + 1), hJx4⟩⟩
          · have hlq2 : ¬ (j : Int) < (n6 : Int) := qaa
            have E6 := hid (show r.2.take j = r.2 from List.take_of_length_le (by have := HP6.out.1; omega)); gi_wp2; go_roundw
            case rel => exact ⟨k + 1, by omega, by go_num, ⟨qs, by rw [HQS.out, atsOf_step HG.out, E6.out], HJQ.out⟩, HK.out.trans HKQ.out⟩
            case measure => exact qms
      · gi_wp2
        refine bodyPost_ret (results_none rfl _ _ _) rfl ?_; exact ⟨⟨_, rfl⟩, .inr ⟨_, by rw [List.map_append, HPS.out]; exact atsOf_pre HG.out 0, hJx3⟩⟩
    · have E := hid (show atsOf (rs.take k) = atsOf rs by rw [List.take_of_length_le (by have := HT.out.1; omega)])
      gi_wp2; go_end0; exact ⟨⟨_, rfl⟩, .inl ⟨ps, by rw [HPS.out, E.out], HJ.out⟩⟩
end Go.Proofs.YtcigljngiemdeaaGreat
