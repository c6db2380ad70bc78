/-
  Proofs, which are trees: how they read; how many facts they have; sameness.
-/
import Derived.Test.YtiekfjlhioekcaaDoorEq
import Derived.Test.YtiekfjlhioekcaaDoorBlk
namespace Go.Proofs.YtiekfjlhioekcaaDoor
open Go.RowKit

/-- A proof: a fact, a rule, what it needs. -/
inductive Tr where
  | mk (a : At) (r : Int) (ks : List Tr)

def Tr.a : Tr → At | .mk a _ _ => a
def Tr.r : Tr → Int | .mk _ r _ => r
def Tr.ks : Tr → List Tr | .mk _ _ ks => ks
theorem Tr.eta : ∀ t : Tr, Tr.mk t.a t.r t.ks = t | .mk _ _ _ => rfl

/-- A proof in four cells, at most so deep. -/
def PfE : Nat → World → Nat → Nat → Addr → Tr → Prop
  | 0 => fun _ _ _ _ _ => False
  | d + 1 => fun w lo hi p t => w.cell? p = some (.string t.a.1) ∧ t.a.1.size ≤ maxLen ∧ (∃ A n c, w.cell? (nextTo p 1) = some (.slice A n c) ∧ IsTerms w lo hi A n c t.a.2) ∧ w.cell? (nextTo p 2) = some (.int .i64 t.r) ∧
    ∃ B m e, w.cell? (nextTo p 3) = some (.slice B m e) ∧ IsSeq 4 (PfE d) w lo hi B m e t.ks

theorem PfE.stays : ∀ d : Nat, Stays (PfE d)
  | 0 => fun _ _ _ _ _ _ _ _ h => h.elim
  | d + 1 => fun _ _ _ _ _ _ p _ ⟨h1, h2, ⟨A, n, c, h3, h4⟩, h5, B, m, e, h6, h7⟩ hp1 hp2 hk hl hh =>
    ⟨(hk p hp1 hp2).trans h1, h2, ⟨A, n, c, (hk (nextTo p 1) hp1 hp2).trans h3, h4.keep hk hl hh⟩, (hk (nextTo p 2) hp1 hp2).trans h5, B, m, e, (hk (nextTo p 3) hp1 hp2).trans h6, h7.keep (PfE.stays d) hk hl hh⟩

theorem PfE.out {d : Nat} {w : World} {lo hi : Nat} {p : Addr} {t : Tr} (h : PfE (d + 1) w lo hi p t) : ∃ A n c B m e, w.cell? p = some (.string t.a.1) ∧ t.a.1.size ≤ maxLen ∧ w.cell? ⟨p.block, p.off + 1, none⟩ = some (.slice A n c) ∧ IsTerms w lo hi A n c t.a.2 ∧
    w.cell? ⟨p.block, p.off + 2, none⟩ = some (.int .i64 t.r) ∧ w.cell? ⟨p.block, p.off + 3, none⟩ = some (.slice B m e) ∧ IsSeq 4 (PfE d) w lo hi B m e t.ks := by
  obtain ⟨h1, h2, ⟨A, n, c, h3, h4⟩, h5, B, m, e, h6, h7⟩ := h
  exact ⟨A, n, c, B, m, e, h1, h2, h3, h4, h5, h6, h7⟩

/-- A slice of proofs. -/
abbrev IsPfs (d : Nat) := IsSeq 4 (PfE d)

theorem IsPfs.none_ {w : World} {lo hi : Nat} {A : Option Addr} {n c : Nat} {ks : List Tr} (h : IsPfs 0 w lo hi A n c ks) : n = 0 := by
  rcases Nat.eq_zero_or_pos n with h0 | h0
  · exact h0
  · obtain ⟨p, x, _, _, _, _, hE⟩ := h.at_ h0
    exact hE.elim

/-- How many facts a proof has. -/
def sizeT : Nat → Tr → Nat
  | 0 => fun _ => 0
  | d + 1 => fun t => 1 + (t.ks.map (sizeT d)).sum

/-- .. and a list of proofs. -/
def sizeL (d : Nat) (ks : List Tr) : Nat := (ks.map (sizeT d)).sum

theorem sizeT_succ (d : Nat) (t : Tr) : sizeT (d + 1) t = 1 + sizeL d t.ks := rfl

theorem sizeL_snoc (d : Nat) {ks : List Tr} {k : Nat} {t : Tr} (h : ks[k]? = some t) : sizeL d (ks.take (k + 1)) = sizeL d (ks.take k) + sizeT d t := by
  obtain ⟨h1, h2⟩ := List.getElem?_eq_some_iff.1 h
  unfold sizeL
  rw [List.take_succ_eq_append_getElem h1, h2, List.map_append, List.sum_append]
  simp

theorem sizeL_all (d : Nat) {ks : List Tr} {k : Nat} (h : ks.length ≤ k) : sizeL d (ks.take k) = sizeL d ks := by rw [List.take_of_length_le h]

theorem sizeL_cons (d : Nat) (t : Tr) (ks : List Tr) : sizeL d (t :: ks) = sizeT d t + sizeL d ks := by unfold sizeL; simp

/-- Few terms, few proofs, all the way. -/
def FewT : Nat → Tr → Prop
  | 0 => fun _ => True
  | d + 1 => fun t => t.a.2.length ≤ 1048576 ∧ t.ks.length ≤ 1048576 ∧ ∀ k ∈ t.ks, FewT d k

def FewL (d : Nat) (ks : List Tr) : Prop := ks.length ≤ 1048576 ∧ ∀ k ∈ ks, FewT d k

theorem FewT.kids {d : Nat} {t : Tr} (h : FewT (d + 1) t) : FewL d t.ks := h.2

theorem few_snoc {d : Nat} {ks : List Tr} {k : Nat} {t : Tr} (h : ks[k]? = some t) (hs : ∀ x ∈ ks.take k, FewT d x) (ht : FewT d t) : ∀ x ∈ ks.take (k + 1), FewT d x := by
  obtain ⟨h1, h2⟩ := List.getElem?_eq_some_iff.1 h
  rw [List.take_succ_eq_append_getElem h1, h2]
  intro x hx
  rcases List.mem_append.1 hx with hx | hx
  · exact hs x hx
  · rw [List.mem_singleton.1 hx]; exact ht

/-- The rules of a proof are numbers of the machine, all the way. -/
def RuleIn : Nat → Tr → Prop
  | 0 => fun _ => True
  | d + 1 => fun t => -9223372036854775808 ≤ t.r ∧ t.r ≤ 9223372036854775807 ∧ ∀ k ∈ t.ks, RuleIn d k

/-- Are two proofs the same? -/
def trEq : Nat → Tr → Tr → Bool
  | 0 => fun _ _ => true
  | d + 1 => fun t u => atomEq t.a u.a && (decide (t.r = u.r) && listEq (trEq d) t.ks u.ks)

theorem trEq_refl : ∀ (d : Nat) (t : Tr), trEq d t t = true
  | 0, _ => rfl
  | d + 1, t => by
    show (atomEq t.a t.a && (decide (t.r = t.r) && listEq (trEq d) t.ks t.ks)) = true
    rw [atomEq_refl, listEq_refl (trEq_refl d)]; simp

/-- A proof by value: its fact's terms, what it needs. -/
def IsPf (d : Nat) (w : World) (lo hi : Nat) (A : Option Addr) (n c : Nat) (B : Option Addr) (m e : Nat) (t : Tr) : Prop := IsTerms w lo hi A n c t.a.2 ∧ IsPfs d w lo hi B m e t.ks

theorem IsPf.up {d : Nat} {w w' : World} {lo : Nat} {A B : Option Addr} {n c m e : Nat} {t : Tr} (h : IsPf d w lo w.heap.size A n c B m e t) (hb : Below w.heap.size w w') : IsPf d w' lo w'.heap.size A n c B m e t :=
  ⟨h.1.keep (fun _ _ hq => hb.cell hq) (Nat.le_refl _) hb.size, h.2.up (PfE.stays d) hb⟩

theorem IsPf.keep {d : Nat} {w w' : World} {lo hi lo' hi' : Nat} {A B : Option Addr} {n c m e : Nat} {t : Tr} (h : IsPf d w lo hi A n c B m e t) (hk : ∀ q : Addr, lo ≤ q.block → q.block < hi → w'.cell? q = w.cell? q) (h1 : lo' ≤ lo) (h2 : hi ≤ hi') : IsPf d w' lo' hi' A n c B m e t :=
  ⟨h.1.keep hk h1 h2, h.2.keep (PfE.stays d) hk h1 h2⟩

theorem PfE.val {d : Nat} {w : World} {lo hi : Nat} {p : Addr} {t : Tr} (h : PfE (d + 1) w lo hi p t) : ∃ A n c B m e, w.cell? p = some (.string t.a.1) ∧ t.a.1.size ≤ maxLen ∧ w.cell? ⟨p.block, p.off + 1, none⟩ = some (.slice A n c) ∧
    w.cell? ⟨p.block, p.off + 2, none⟩ = some (.int .i64 t.r) ∧ w.cell? ⟨p.block, p.off + 3, none⟩ = some (.slice B m e) ∧ IsPf d w lo hi A n c B m e t := by
  obtain ⟨A, n, c, B, m, e, h1, h2, h3, h4, h5, h6, h7⟩ := h.out
  exact ⟨A, n, c, B, m, e, h1, h2, h3, h5, h6, h4, h7⟩

/-- What was asked of sizes: what is left, and what that tells. -/
def SzTPost (z : Int) (q : Int → Prop) (w : World) (e : Ending) (w' : World) : Prop := ∃ y : Int, (e = .returned (.int .i64 y) ∧ -1 ≤ y ∧ y ≤ z ∧ (0 ≤ y → q y)) ∧ Below w.heap.size w w'

end Go.Proofs.YtiekfjlhioekcaaDoor
