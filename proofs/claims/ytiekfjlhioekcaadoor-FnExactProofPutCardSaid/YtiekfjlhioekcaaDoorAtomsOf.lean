/-
  The atoms of rules, as the program goes through them.
-/
import Derived.Test.YtiekfjlhioekcaaDoorVars
import Derived.Test.YtiekfjlhioekcaaDoorBlk
namespace Go.Proofs.YtiekfjlhioekcaaDoor
open Go.RowKit Go.Shelf
attribute [local go_sem] Oper.semAt_some

/-- What a round keeps: what lay below n₀; and all cells. -/
structure KeepsCells (n₀ : Nat) (W W' : World) : Prop where
  below : Below n₀ W W'
  same : ∀ (b : Nat) (o : Obj), W.heap[b]? = some o → o.isCells = true → W'.heap[b]? = W.heap[b]?

theorem KeepsCells.refl (n₀ : Nat) (W : World) : KeepsCells n₀ W W := ⟨Below.refl _ _, fun _ _ _ _ => rfl⟩
theorem KeepsCells.trans {n₀ : Nat} {A B C : World} (h : KeepsCells n₀ A B) (k : KeepsCells n₀ B C) : KeepsCells n₀ A C :=
  ⟨h.below.trans k.below, fun b o hb ho => (k.same b o ((h.same b o hb ho).trans hb) ho).trans (h.same b o hb ho)⟩
theorem KeepsCells.of {n₀ : Nat} {A B : World} (h : Below A.heap.size A B) (hn : n₀ ≤ A.heap.size) : KeepsCells n₀ A B :=
  ⟨h.mono hn, fun b _ hb _ => h.block b (Array.getElem?_eq_some_iff.1 hb).1⟩
theorem cells_of_cell {W : World} {p : Addr} {v : Value} (h : W.cell? p = some v) : ∃ o, W.heap[p.block]? = some o ∧ o.isCells = true := by
  unfold World.cell? at h
  split at h
  · rename_i c e f hb; exact ⟨_, hb, rfl⟩
  · cases h
theorem KeepsCells.cell {n₀ : Nat} {W W' : World} (h : KeepsCells n₀ W W') {p : Addr} {v : Value} (hc : W.cell? p = some v) : W'.cell? p = some v := by
  obtain ⟨o, ho, hi⟩ := cells_of_cell hc
  exact (World.cell?_of_block (h.same _ o ho hi)).trans hc
theorem keepsC_t {n₀ : Nat} {A B C : World} (h : KeepsCells n₀ A B) (k : KeepsCells n₀ B C) : KeepsCells n₀ A C := h.trans k
theorem keepsC_b {n₀ : Nat} {w : World} (hn : n₀ ≤ w.heap.size) (W : World) (l : Nat) (o o' : Obj) (hl : w.heap.size ≤ l) (h : W.heap[l]? = some o) (hc : o.isCells = false) (hw : o.isWalk = false) : KeepsCells n₀ W (W.putObj l o') :=
  ⟨belowK_b hn W l o o' hl h hc hw, fun b o2 hb hc2 => (grownBy_putObj' W l o').block b (Array.getElem?_eq_some_iff.1 hb).1 (fun e => by injection e with e; subst e; rw [h] at hb; cases hb; rw [hc] at hc2; cases hc2)⟩
theorem ownFrom_cells {β : Type} {n₀ B : Nat} {w₀ : World} (hn : n₀ ≤ w₀.heap.size) (hB : n₀ ≤ B) : OwnFrom B (fun (_ : β) W => KeepsCells n₀ w₀ W) :=
  fun s A C row hs hg hr => ⟨ownFrom_below hn hB s A C row hs.below hg hr, fun b o hb ho => by
    have hA := (hs.same b o hb ho).trans hb
    refine (hg.block b (Array.getElem?_eq_some_iff.1 hA).1 (fun e => ?_)).trans (hs.same b o hb ho)
    obtain ⟨_, o', h1, h2⟩ := hr b e.symm
    rw [hA] at h1; cases h1; rw [ho] at h2; cases h2⟩

/-- An atom that lay there in this world. -/
abbrev Lain (w : World) (n₀ : Nat) := { x : (ByteArray × Option Addr) × (Nat × Nat) × List Tm // x.1.1.size ≤ maxLen ∧ IsTerms w 0 n₀ x.1.2 x.2.1.1 x.2.1.2 x.2.2 }
def lainAt {w : World} {n₀ : Nat} (x : Lain w n₀) : At := (x.1.1.1, x.1.2.2)

/-- The atoms of rules: each head, and what stands in its body. -/
def atsOf (rs : List Rl) : List At := rs.flatMap fun r => r.1 :: r.2.map (·.2)

theorem atsOf_step {rs : List Rl} {k : Nat} {r : Rl} (h : rs[k]? = some r) : atsOf (rs.take (k + 1)) = atsOf (rs.take k) ++ r.1 :: r.2.map (·.2) := by
  unfold atsOf; rw [List.take_add_one, h, List.flatMap_append]; simp
theorem atsOf_pre {rs : List Rl} {k : Nat} {r : Rl} (h : rs[k]? = some r) (j : Nat) : (atsOf (rs.take k) ++ r.1 :: (r.2.take j).map (·.2)) <+: atsOf rs := by
  have h1 : atsOf (rs.take (k + 1)) <+: atsOf rs := by
    conv => rhs; rw [← List.take_append_drop (k + 1) rs]
    unfold atsOf; rw [List.flatMap_append]; exact List.prefix_append _ _
  refine List.IsPrefix.trans ?_ h1
  rw [atsOf_step h, List.prefix_append_right_inj, List.cons_prefix_cons]
  exact ⟨rfl, List.IsPrefix.map _ (List.take_prefix _ _)⟩
theorem atsIn_step {qs : List Pt} {j : Nat} {q : Pt} (h : qs[j]? = some q) (L : List At) (a : At) : L ++ a :: (qs.take (j + 1)).map (·.2) = (L ++ a :: (qs.take j).map (·.2)) ++ [q.2] := by
  rw [List.take_add_one, h, List.map_append]; simp
theorem pre_lt {α β : Type} {f : α → β} {ps : List α} {L M : List β} {b : β} (h : ps.map f = L) (hp : (L ++ [b]) <+: M) : ps.length < M.length := by
  have h1 := congrArg List.length h; have h2 := hp.length_le
  rw [List.length_map] at h1; rw [List.length_append, List.length_singleton] at h2; omega

theorem RuleE.out {w : World} {lo hi : Nat} {p : Addr} {r : Rl} (h : RuleE w lo hi p r) : ∃ A n c B m d, w.cell? p = some (.string r.1.1) ∧ r.1.1.size ≤ maxLen ∧ w.cell? ⟨p.block, p.off + 1, none⟩ = some (.slice A n c) ∧ IsTerms w lo hi A n c r.1.2 ∧ w.cell? ⟨p.block, p.off + 2, none⟩ = some (.slice B m d) ∧ IsParts w lo hi B m d r.2 := by
  obtain ⟨h1, h2, ⟨A, n, c, h3, h4⟩, ⟨B, m, d, h5, h6⟩⟩ := h
  exact ⟨A, n, c, B, m, d, h1, h2, h3, h4, h5, h6⟩


end Go.Proofs.YtiekfjlhioekcaaDoor
