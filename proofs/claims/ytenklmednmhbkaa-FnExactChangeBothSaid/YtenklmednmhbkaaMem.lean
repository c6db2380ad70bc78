/-
  Memory: what it means that values read as terms and as atoms; that this stays where nothing old is written.
-/
import Derived.Test.YtenklmednmhbkaaNames
import Derived.ProofKit
import Derived.Deep.Slices
import Derived.Deep.SlicePairs
namespace Go.Proofs.Ytenklmednmhbkaa
open Go.RowKit

/-- A term: is it a variable; its name. -/
abbrev Tm := Bool × ByteArray
/-- An atom: its name, its terms. -/
abbrev At := ByteArray × List Tm

/-- From address p on lie just these terms, in a block from lo on and below hi. -/
def TermsAt (w : World) (lo hi : Nat) (p : Addr) (ts : List Tm) : Prop :=
  lo ≤ p.block ∧ p.block < hi ∧ ∀ (i : Nat) (t : Tm), ts[i]? = some t → w.cell? (p.add (i * 2)) = some (.bool t.1) ∧ w.cell? (p.add (i * 2 + 1)) = some (.string t.2) ∧ t.2.size ≤ maxLen

/-- A slice of n elements that reads as these terms. -/
def IsTerms (w : World) (lo hi : Nat) (A : Option Addr) (n c : Nat) (ts : List Tm) : Prop :=
  ts.length = n ∧ n ≤ c ∧ c ≤ maxLen ∧ (0 < n → ∃ p, A = some p ∧ TermsAt w lo hi p ts)

theorem block_add (p : Addr) (k : Nat) : (p.add k).block = p.block := by
  unfold Addr.add; split <;> rfl

theorem TermsAt.keep {w w' : World} {lo hi lo' hi' : Nat} {p : Addr} {ts : List Tm} (h : TermsAt w lo hi p ts) (hk : ∀ q : Addr, lo ≤ q.block → q.block < hi → w'.cell? q = w.cell? q) (h1 : lo' ≤ lo) (h2 : hi ≤ hi') : TermsAt w' lo' hi' p ts := by
  obtain ⟨a, b, c⟩ := h
  refine ⟨by omega, by omega, fun i t ht => ?_⟩
  obtain ⟨c1, c2, c3⟩ := c i t ht
  refine ⟨?_, ?_, c3⟩
  · rw [hk _ (by rw [block_add]; exact a) (by rw [block_add]; exact b)]; exact c1
  · rw [hk _ (by rw [block_add]; exact a) (by rw [block_add]; exact b)]; exact c2

theorem IsTerms.keep {w w' : World} {lo hi lo' hi' : Nat} {A : Option Addr} {n c : Nat} {ts : List Tm} (h : IsTerms w lo hi A n c ts) (hk : ∀ q : Addr, lo ≤ q.block → q.block < hi → w'.cell? q = w.cell? q) (h1 : lo' ≤ lo) (h2 : hi ≤ hi') : IsTerms w' lo' hi' A n c ts := by
  obtain ⟨a, b, d, e⟩ := h
  refine ⟨a, b, d, fun hn => ?_⟩
  obtain ⟨p, hp, ht⟩ := e hn
  exact ⟨p, hp, ht.keep hk h1 h2⟩

theorem IsTerms.below {w w' : World} {lo hi B : Nat} {A : Option Addr} {n c : Nat} {ts : List Tm} (h : IsTerms w lo hi A n c ts) (hb : Below B w w') (hh : hi ≤ B) : IsTerms w' lo hi A n c ts :=
  h.keep (fun q _ hq => hb.cell (by omega)) (Nat.le_refl _) (Nat.le_refl _)

/-- In a world that has only grown, with its end. -/
theorem IsTerms.up {w w' : World} {lo : Nat} {A : Option Addr} {n c : Nat} {ts : List Tm} (h : IsTerms w lo w.heap.size A n c ts) (hb : Below w.heap.size w w') : IsTerms w' lo w'.heap.size A n c ts :=
  h.keep (fun _ _ hq => hb.cell hq) (Nat.le_refl _) hb.size

/-- Old cells and old marks, as the walk asks for them. -/
theorem oldCells {W w1 : World} (hb : Below W.heap.size W w1) : (∀ b o, b < W.heap.size → w1.cell? ⟨b, o, none⟩ = W.cell? ⟨b, o, none⟩) ∧ (∀ b o, b < W.heap.size → w1.frozen? ⟨b, o, none⟩ = W.frozen? ⟨b, o, none⟩) :=
  ⟨fun b o h => hb.cell (p := ⟨b, o, none⟩) h, fun b o h => hb.frozen (p := ⟨b, o, none⟩) h⟩

theorem below1 (w : World) (o : Obj) : Below w.heap.size w (w.alloc o) := (Below.refl _ _).alloc (Nat.le_refl _) _
theorem below2 (w : World) (o o' : Obj) : Below w.heap.size w ((w.alloc o).alloc o') := (below1 w o).alloc (by simp) _
theorem below3 (w : World) (o o' o'' : Obj) : Below w.heap.size w (((w.alloc o).alloc o').alloc o'') := (below2 w o o').alloc (by simp; omega) _

/-- What was done behind something new. -/
theorem belowThen {w w1 w2 : World} (h : Below w.heap.size w w1) (h' : Below w1.heap.size w1 w2) : Below w.heap.size w w2 := h.trans (h'.mono h.size)

/-- An old cell behind a new block, whatever that is. -/
theorem cellUp {w : World} {q : Addr} {v : Value} (h : w.cell? q = some v) : ∀ o, (w.alloc o).cell? q = some v :=
  fun o => (World.cell?_alloc_lt w o q (World.block_lt_of_cell? _ _ h)).trans h

/-- A draw turns nothing. -/
theorem undrew {B : Nat} {w w' : World} (h : Below B w.drew w') : Below B w w' := ⟨h.os, h.tape, h.output, h.size, h.block⟩

theorem add_next (p : Addr) (k : Nat) : (⟨(p.add k).block, (p.add k).off + 1, none⟩ : Addr) = p.add (k + 1) := by
  unfold Addr.add
  by_cases hk : k = 0
  · subst hk; simp
  · simp [hk, Nat.add_assoc]

/-- The i-th term's cells, spelled as the walk comes to them. -/
theorem IsTerms.at_ {w : World} {lo hi : Nat} {A : Option Addr} {n c : Nat} {ts : List Tm} (h : IsTerms w lo hi A n c ts) {i : Nat} (hi' : i < n) :
    ∃ p t, A = some p ∧ lo ≤ p.block ∧ p.block < hi ∧ ts[i]? = some t ∧ w.cell? (p.add (i * 2)) = some (.bool t.1) ∧ w.cell? ⟨(p.add (i * 2)).block, (p.add (i * 2)).off + 1, none⟩ = some (.string t.2) ∧ t.2.size ≤ maxLen := by
  obtain ⟨hl, _, _, e⟩ := h
  obtain ⟨p, hp, h1, h2, h3⟩ := e (by omega)
  have hlt : i < ts.length := by omega
  have hg : ts[i]? = some ts[i] := List.getElem?_eq_getElem hlt
  obtain ⟨c1, c2, c3⟩ := h3 i _ hg
  exact ⟨p, ts[i], hp, h1, h2, hg, c1, by rw [add_next]; exact c2, c3⟩

end Go.Proofs.Ytenklmednmhbkaa
