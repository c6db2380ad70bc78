/-
  The proofs of which a proof is made, as the program goes through them.
-/
import Derived.Test.YtiekfjlhioekcaaDoorEachMath
import Derived.Test.YtiekfjlhioekcaaDoorRangeT
import Derived.Deep.AppendLies
namespace Go.Proofs.YtiekfjlhioekcaaDoor
open Go.RowKit

/-- A list that waits. -/
structure Wait where
  A : Option Addr
  n : Nat
  c : Nat
  ks : List Tr

def waitV (x : Wait) : Value := .slice x.A x.n x.c

/-- A proof as it is handed over: how far in it is; itself. -/
structure Px where
  lv : Nat
  t : Tr
  A : Option Addr
  n : Nat
  c : Nat
  B : Option Addr
  m : Nat
  e : Nat

def pxV (x : Px) : Value := .agg #[.string x.t.a.1, .slice x.A x.n x.c, .int .i64 x.t.r, .slice x.B x.m x.e]
def pxE (x : Px) : Array Value := #[.int .i64 (x.lv : Int), pxV x]
def pxT (x : Px) : Nat × Tr := (x.lv, x.t)

/-- What holds of a list that waits: its proofs lie ahead of n₀; or it is the first of all, at q. -/
def WaitOk (n₀ q d : Nat) (w : World) (x : Wait) : Prop :=
  IsPfs d w 0 n₀ x.A x.n x.c x.ks ∨ ∃ (t : Tr) (A : Option Addr) (n c : Nat) (B : Option Addr) (m e : Nat), x = ⟨some ⟨q, 0, none⟩, 1, 1, [t]⟩ ∧ Blk w q 35 #[.string t.a.1, .slice A n c, .int .i64 t.r, .slice B m e] ∧ t.a.1.size ≤ maxLen ∧ IsPf (d - 1) w 0 n₀ A n c B m e t ∧ 1 ≤ d

theorem WaitOk.keep {n₀ q d : Nat} {w w' : World} {x : Wait} (h : WaitOk n₀ q d w x) (hk : ∀ b, b < n₀ → w'.heap[b]? = w.heap[b]?) (hq : ∀ cs, Blk w q 35 cs → Blk w' q 35 cs) : WaitOk n₀ q d w' x := by
  rcases h with h | ⟨t, A, n, c, B, m, e, h1, h2, h3, h4, h5⟩
  · exact .inl (h.keep (PfE.stays d) (fun p _ hp => World.cell?_of_block (hk p.block hp)) (Nat.le_refl _) (Nat.le_refl _))
  · exact .inr ⟨t, A, n, c, B, m, e, h1, hq _ h2, h3, h4.keep (fun p _ hp => World.cell?_of_block (hk p.block hp)) (Nat.le_refl _) (Nat.le_refl _), h5⟩

theorem WaitOk.len {n₀ q d : Nat} {w : World} {x : Wait} (h : WaitOk n₀ q d w x) : x.ks.length = x.n ∧ x.n ≤ x.c ∧ x.c ≤ maxLen := by
  rcases h with h | ⟨t, A, n, c, B, m, e, h1, _⟩
  · exact ⟨h.1, h.2.1, h.2.2.1⟩
  · subst h1; exact ⟨rfl, Nat.le_refl _, by unfold maxLen; show 1 ≤ _; omega⟩

/-- The first of a list that waits, and what is left. -/
theorem WaitOk.take {n₀ q d : Nat} {w : World} {x : Wait} {t : Tr} {ks : List Tr} (h : WaitOk n₀ q d w x) (hk : x.ks = t :: ks) : ∃ (E : Nat) (p : Addr) (A : Option Addr) (n c : Nat) (B : Option Addr) (m e : Nat), d = E + 1 ∧ x.A = some p ∧
    w.cell? p = some (.string t.a.1) ∧ t.a.1.size ≤ maxLen ∧ w.cell? ⟨p.block, p.off + 1, none⟩ = some (.slice A n c) ∧ w.cell? ⟨p.block, p.off + 2, none⟩ = some (.int .i64 t.r) ∧ w.cell? ⟨p.block, p.off + 3, none⟩ = some (.slice B m e) ∧ IsPf E w 0 n₀ A n c B m e t ∧ (p.block < n₀ ∨ p.block = q) ∧
    WaitOk n₀ q d w ⟨if x.c = 1 then some p else some (p.add (1 * 4)), x.n - 1, x.c - 1, ks⟩ := by
  rcases h with h | ⟨t', A, n, c, B, m, e, h1, h2, h3, h4, h5⟩
  · rw [hk] at h
    have hl := h.1
    rw [List.length_cons] at hl
    obtain ⟨p, y, hA, _, hhi, hg, hE⟩ := h.at_ (i := 0) (by omega)
    simp only [List.getElem?_cons_zero, Option.some.injEq] at hg
    subst hg
    have e0 : p.add (0 * 4) = p := by unfold Addr.add; simp
    rw [e0] at hE
    cases d with
    | zero => exact hE.elim
    | succ E =>
      obtain ⟨A', n', c', B', m', e', d1, d2, d3, d4, d5, d6⟩ := hE.val
      refine ⟨E, p, A', n', c', B', m', e', rfl, hA, d1, d2, d3, d4, d5, d6, .inl hhi, .inl ?_⟩
      rw [hA] at h
      exact h.tail
  · subst h1
    simp only [List.cons.injEq] at hk
    obtain ⟨rfl, rfl⟩ := hk
    refine ⟨d - 1, ⟨q, 0, none⟩, A, n, c, B, m, e, by omega, rfl, h2.cell 0, h3, h2.cell 1, h2.cell 2, h2.cell 3, h4, .inr rfl, .inl ?_⟩
    exact ⟨rfl, Nat.le_refl _, Nat.zero_le _, fun h0 => absurd h0 (by show ¬ 0 < 1 - 1; omega)⟩

/-- What a round keeps for the iterator: what lay ahead of n₀; blocks of proofs, and of lists of them. -/
def KeepsT (n₀ : Nat) (W W' : World) : Prop := Below n₀ W W' ∧ ∀ (b : Nat) (cs : Array Value) (t : TypeId) (z : Nat × Nat), t = 33 ∨ t = 35 → W.heap[b]? = some (.cells cs t z) → W'.heap[b]? = W.heap[b]?

theorem KeepsT.trans {n₀ : Nat} {A B C : World} (h : KeepsT n₀ A B) (k : KeepsT n₀ B C) : KeepsT n₀ A C :=
  ⟨h.1.trans k.1, fun b cs t z ht hb => (k.2 b cs t z ht ((h.2 b cs t z ht hb).trans hb)).trans (h.2 b cs t z ht hb)⟩

theorem KeepsT.of {n₀ : Nat} {A B : World} (h : Below A.heap.size A B) (hn : n₀ ≤ A.heap.size) : KeepsT n₀ A B :=
  ⟨h.mono hn, fun b _ _ _ _ hb => h.block b (Array.getElem?_eq_some_iff.1 hb).1⟩

/-- What the iterator does between rounds: of what lay there it turns rows of lists of proofs alone, and none ahead of B. -/
structure TurnsT (B : Nat) (X Y : World) : Prop where
  os : Y.os = X.os
  tape : Y.tape = X.tape
  output : Y.output = X.output
  size : X.heap.size ≤ Y.heap.size
  block : ∀ b, b < X.heap.size → (b < B ∨ ¬ ∃ cs z, X.heap[b]? = some (.cells cs 33 z)) → Y.heap[b]? = X.heap[b]?

theorem TurnsT.refl (B : Nat) (X : World) : TurnsT B X X := ⟨rfl, rfl, rfl, Nat.le_refl _, fun _ _ _ => rfl⟩

theorem TurnsT.trans {B : Nat} {X Y Z : World} (h : TurnsT B X Y) (k : TurnsT B Y Z) : TurnsT B X Z :=
  ⟨k.os.trans h.os, k.tape.trans h.tape, k.output.trans h.output, Nat.le_trans h.size k.size, fun b hb hc => by
    have h1 := h.block b hb hc
    refine (k.block b (Nat.lt_of_lt_of_le hb h.size) ?_).trans h1
    rw [h1]; exact hc⟩

theorem TurnsT.of {B : Nat} {X Y : World} (h : Below X.heap.size X Y) : TurnsT B X Y := ⟨h.os, h.tape, h.output, h.size, fun b hb _ => h.block b hb⟩

/-- A row of lists of proofs grew, or was turned. -/
theorem TurnsT.row {B lo : Nat} {X Y : World} {v : Value} {k : Nat} {xs : List Value} (hg : X.grownBy Y v.ownBlock) (hr : X.ownsRow lo 33 1 v k xs) (hl : B ≤ lo) : TurnsT B X Y :=
  ⟨hg.os, hg.tape, hg.output, hg.size, fun b hb hc => hg.block b hb fun e => by
    rcases hr.2 with ⟨rfl, _⟩ | ⟨g, cap, cur, rfl, hB, hgb, _⟩
    · simp [Value.ownBlock] at e
    · simp [Value.ownBlock] at e
      subst e
      rcases hc with h | h
      · omega
      · exact h ⟨_, _, hgb⟩⟩

theorem TurnsT.low {B n₀ : Nat} {X Y : World} (h : TurnsT B X Y) (hn : n₀ ≤ B) (hs : n₀ ≤ X.heap.size) : Below n₀ X Y := ⟨h.os, h.tape, h.output, h.size, fun b hb => h.block b (by omega) (.inl (by omega))⟩

/-- A row stays where its block stays. -/
theorem row_same {W W' : World} {lo sz n : Nat} {e : TypeId} {v : Value} {xs : List Value} (h : W.ownsRow lo e sz v n xs) (hk : ∀ g cs z, v.ownBlock = some g → W.heap[g]? = some (.cells cs e z) → W'.heap[g]? = W.heap[g]?) : W'.ownsRow lo e sz v n xs := by
  refine ⟨h.1, h.2.imp id ?_⟩
  rintro ⟨g, cap, cur, e1, hb, hgb, rest⟩
  exact ⟨g, cap, cur, e1, hb, (hk g _ _ (by rw [e1]; rfl) hgb).trans hgb, rest⟩

/-- What holds where a proof is handed over. -/
def PxPre (n₀ D : Nat) (t : Tr) (pre : List Px) (x : Px) (_ W1 : World) : Prop := x.t.a.1.size ≤ maxLen ∧ (∃ d, IsPf d W1 0 n₀ x.A x.n x.c x.B x.m x.e x.t) ∧ (pre ++ [x]).map pxT <+: flatT D 0 t

/-- All were handed over; or a round stopped. -/
def EachPost (D B : Nat) (t : Tr) (J Jx : List Px → World → Prop) (e : Ending) (W' : World) : Prop := (∃ v, e = .returned v) ∧
  ((∃ xs W0, xs.map pxT = flatT D 0 t ∧ J xs W0 ∧ TurnsT B W0 W') ∨ (∃ pre W0, pre.map pxT <+: flatT D 0 t ∧ Jx pre W0 ∧ TurnsT B W0 W'))

/-- What the iterator holds ahead of a round, with M to do. -/
def EInv (n₀ D B : Nat) (t : Tr) (J : List Px → World → Prop) (M : Nat) (v : Value) (wr : World) : Prop :=
  ∃ (g cap : Nat) (L : List Wait) (pre : List Px) (W0 : World), v = .slice (some ⟨g, 0, none⟩) L.length cap ∧ wr.ownsRow (B + 1) 33 1 (.slice (some ⟨g, 0, none⟩) L.length cap) L.length (L.map waitV) ∧
    (∀ i x, L[i]? = some x → WaitOk n₀ B (D - i) wr x) ∧ J pre W0 ∧ TurnsT B W0 wr ∧ pre.map pxT ++ restS D 0 (L.map (·.ks)) = flatT D 0 t ∧ L.length ≤ pre.length + 1 ∧ M = 2 * (restS D 0 (L.map (·.ks))).length + L.length ∧ B ≤ wr.heap.size

theorem snoc_or {α : Type} : ∀ L : List α, L = [] ∨ ∃ L' x, L = L' ++ [x]
  | [] => .inl rfl
  | a :: L => by
    rcases snoc_or L with h | ⟨L', x, h⟩
    · exact .inr ⟨[], a, by rw [h]; rfl⟩
    · exact .inr ⟨a :: L', x, by rw [h]; rfl⟩

theorem has_least {P : Nat → Prop} : ∀ (n M : Nat), M ≤ n → P M → ∃ m, P m ∧ ∀ k, P k → m ≤ k
  | 0, M, hM, h => ⟨0, by have e : M = 0 := by omega
                          rw [← e]; exact h, fun _ _ => Nat.zero_le _⟩
  | n + 1, M, hM, h => by
    by_cases hk : ∃ k, k ≤ n ∧ P k
    · obtain ⟨k, h1, h2⟩ := hk
      exact has_least n k h1 h2
    · refine ⟨M, h, fun k hp => ?_⟩
      by_cases hkn : k ≤ n
      · exact absurd ⟨k, hkn, hp⟩ hk
      · omega

open Classical in
/-- The least that a relation allows. -/
noncomputable def leastM (P : Nat → Prop) : Nat := if h : ∃ m, P m ∧ ∀ k, P k → m ≤ k then Classical.choose h else 0

theorem leastM_spec {P : Nat → Prop} {M : Nat} (h : P M) : P (leastM P) := by
  have h2 := has_least M M (Nat.le_refl _) h
  unfold leastM; rw [dif_pos h2]; exact (Classical.choose_spec h2).1
theorem leastM_le {P : Nat → Prop} {M : Nat} (h : P M) : leastM P ≤ M := by
  have h2 := has_least M M (Nat.le_refl _) h
  unfold leastM; rw [dif_pos h2]; exact (Classical.choose_spec h2).2 M h

/-- What is left to do, at least. -/
noncomputable def toDo (n₀ D B : Nat) (t : Tr) (J : List Px → World → Prop) (v : Value) (wr : World) : Nat := leastM fun M => EInv n₀ D B t J M v wr

section
variable {n₀ D B M : Nat} {t : Tr} {J : List Px → World → Prop} {v : Value} {wr : World}
theorem EInv.least (h : EInv n₀ D B t J M v wr) : EInv n₀ D B t J (toDo n₀ D B t J v wr) v wr := leastM_spec (P := fun M => EInv n₀ D B t J M v wr) h
theorem EInv.le (h : EInv n₀ D B t J M v wr) : toDo n₀ D B t J v wr ≤ M := leastM_le (P := fun M => EInv n₀ D B t J M v wr) h
end

end Go.Proofs.YtiekfjlhioekcaaDoor
