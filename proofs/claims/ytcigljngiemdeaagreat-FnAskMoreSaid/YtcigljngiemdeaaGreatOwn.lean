/-
  Lists of atoms in memory of their own: each row may be written, and no two of them are one.
-/
import Derived.Test.YtcigljngiemdeaaGreatAo0
import Derived.Test.YtcigljngiemdeaaGreatAo2
set_option maxRecDepth 100000
set_option maxHeartbeats 8000000
namespace Go.Proofs.YtcigljngiemdeaaGreat
open Go.RowKit
def rA (r : Rf) : Option Addr := r.2.1
def rN (r : Rf) : Nat := r.2.2.1
def RowAt (w : World) (lo hi : Nat) (t : TypeId) (A : Option Addr) (m : Nat) : Prop := ∃ g k f, A = some ⟨g, 0, none⟩ ∧ lo ≤ g ∧ g < hi ∧ w.rowIs g t k f ∧ m ≤ k
def OwnIn (w : World) (lo hi : Nat) (rs : List Rf) : Prop :=
  (∀ r ∈ rs, r.1.size ≤ maxLen ∧ IsTerms w lo hi r.2.1 r.2.2.1 r.2.2.2.1 r.2.2.2.2 ∧ (0 < rN r → RowAt w lo hi 59 (rA r) (rN r * 2))) ∧
  rs.Pairwise fun r r' => 0 < rN r → 0 < rN r' → rA r ≠ rA r'
def OwnRefs (w : World) (lo hi : Nat) (A : Option Addr) (n c : Nat) (rs : List Rf) : Prop :=
  rs.length = n ∧ n ≤ c ∧ c ≤ maxLen ∧
  (0 < n → ∃ g k f, A = some ⟨g, 0, none⟩ ∧ lo ≤ g ∧ g < hi ∧ w.rowIs g 49 k f ∧ n * 2 ≤ k ∧ ∀ j u, (rcells rs)[j]? = some u → f j = u) ∧
  OwnIn w lo hi rs
section
variable {w w' : World} {lo hi lo' hi' n c m : Nat} {t : TypeId} {A : Option Addr} {rs : List Rf} {r : Rf}
theorem RowAt.keep (h : RowAt w lo hi t A m) (hk : ∀ b, lo ≤ b → b < hi → w'.heap[b]? = w.heap[b]?) (h1 : lo' ≤ lo) (h2 : hi ≤ hi') : RowAt w' lo' hi' t A m := by
  obtain ⟨g, k, f, e, a, b, d, x⟩ := h; exact ⟨g, k, f, e, by omega, by omega, d.of_block (hk g a b), x⟩
theorem cellKeep (hk : ∀ b, lo ≤ b → b < hi → w'.heap[b]? = w.heap[b]?) : ∀ q : Addr, lo ≤ q.block → q.block < hi → w'.cell? q = w.cell? q :=
  fun q h1 h2 => cb_ (hk q.block h1 h2)
theorem OwnIn.keep (h : OwnIn w lo hi rs) (hk : ∀ b, lo ≤ b → b < hi → w'.heap[b]? = w.heap[b]?) (h1 : lo' ≤ lo) (h2 : hi ≤ hi') : OwnIn w' lo' hi' rs :=
  ⟨fun r hr => ⟨(h.1 r hr).1, (h.1 r hr).2.1.keep (cellKeep hk) h1 h2, fun hn => ((h.1 r hr).2.2 hn).keep hk h1 h2⟩, h.2⟩
theorem OwnRefs.refs (h : OwnRefs w lo hi A n c rs) : IsRefs w lo hi A n c rs := by
  obtain ⟨a, b, d, e, f⟩ := h; refine ⟨a, b, d, fun hn => ?_⟩; obtain ⟨g, k, f', e1, e2, e3, e4, e5, e6⟩ := e hn; refine ⟨_, e1, e2, e3, fun i r hr => ?_⟩; have hi := (List.getElem?_eq_some_iff.1 hr).1; have a0 : ∀ j, (⟨g, 0, none⟩ : Addr).add j = ⟨g, j, none⟩ := fun j => by unfold Addr.add; split <;> simp_all
  obtain ⟨c1, c2⟩ := rcells_at hr; obtain ⟨d1, d2, _⟩ := f.1 r (List.mem_of_getElem? hr); rw [a0]; refine ⟨?_, d1, ?_, d2⟩
  · rw [e4.cell qaa, e6 _ _ c1]
  · show w.cell? ⟨g, i * 2 + 1, none⟩ = _
    rw [e4.cell qaa, e6 _ _ c2]
theorem OwnRefs.atoms (h : OwnRefs w lo hi A n c rs) : IsAtoms w lo hi A n c (rs.map rAt) := h.refs.atoms
theorem OwnIn.nil : OwnIn w lo hi [] := ⟨fun r hr => by simp at hr, List.Pairwise.nil⟩
theorem OwnIn.snoc (h : OwnIn w lo hi rs) (hk : ∀ b, lo ≤ b → b < hi → w'.heap[b]? = w.heap[b]?) (h2 : hi ≤ hi') (hs : r.1.size ≤ maxLen) (hlo : lo ≤ hi) (ht : IsTerms w' hi hi' r.2.1 r.2.2.1 r.2.2.2.1 r.2.2.2.2)
    (hr : 0 < rN r → RowAt w' hi hi' 59 (rA r) (rN r * 2)) : OwnIn w' lo hi' (rs ++ [r]) := by
  have hk' := h.keep hk (nl _) h2; refine ⟨fun q hq => ?_, ?_⟩
  · rcases List.mem_append.1 hq with hq | hq
    · exact hk'.1 q hq
    · rw [List.mem_singleton.1 hq]
      exact ⟨hs, ht.keep (fun _ _ _ => rfl) hlo (nl _), fun hn => (hr hn).keep (fun _ _ _ => rfl) hlo (nl _)⟩
  · rw [List.pairwise_append]
    refine ⟨h.2, List.pairwise_singleton _ _, fun q hq q' hq' h0 h0' e => ?_⟩; rw [List.mem_singleton.1 hq'] at h0' e; obtain ⟨g, _, _, e1, _, e3, _⟩ := (h.1 q hq).2.2 h0; obtain ⟨g', _, _, f1, f2, _⟩ := hr h0'; rw [e1, f1] at e; injection e with e; injection e with e; omega
theorem OwnRefs.of_row {base : Nat} {v : Value} (h : w.ownsRow base 49 2 v n (rcells rs)) (hn : n = rs.length) (hb : lo ≤ base) (hr : OwnIn w lo hi rs) (hh : hi ≤ w.heap.size) :
    ∃ A c, v = .slice A n c ∧ OwnRefs w lo w.heap.size A n c rs := by
  subst hn; rcases h.2 with ⟨rfl, h0⟩ | ⟨g, cap, cur, rfl, hbg, hgb, hle, hcap, hsz, htk⟩
  · exact ⟨none, 0, by rw [h0], rfl, by omega, by unfold maxLen; omega, fun hp => absurd hp qaa, hr.keep (fun _ _ _ => rfl) (nl _) hh⟩
  · have hlt := (Array.getElem?_eq_some_iff.1 hgb).1
    refine ⟨_, cap, rfl, rfl, hle, hcap, fun _ => ⟨g, cap * 2, fun i => cur[i]?.getD undef, rfl, by omega, hlt, ⟨cur, hgb, hsz, fun i hi => by simp [hsz ▸ hi]⟩, Nat.mul_le_mul_right _ hle, fun j u hu => ?_⟩, hr.keep (fun _ _ _ => rfl) (nl _) hh⟩; have hj := (List.getElem?_eq_some_iff.1 hu).1; rw [rcells_len] at hj; rw [← htk, List.getElem?_take, if_pos qaa] at hu; have : cur[j]? = some u := by simpa using hu
    simp [this]
theorem termsFar {q : Rf} {g : Nat} (hk : ∀ b, b < w.heap.size → b ≠ g → w'.heap[b]? = w.heap[b]?)
    (y : q.1.size ≤ maxLen ∧ IsTerms w lo hi q.2.1 q.2.2.1 q.2.2.2.1 q.2.2.2.2 ∧ (0 < rN q → RowAt w lo hi 59 (rA q) (rN q * 2))) (hne : 0 < rN q → rA q ≠ some ⟨g, 0, none⟩) :
    q.1.size ≤ maxLen ∧ IsTerms w' lo hi q.2.1 q.2.2.1 q.2.2.2.1 q.2.2.2.2 ∧ (0 < rN q → RowAt w' lo hi 59 (rA q) (rN q * 2)) := by
  obtain ⟨y1, y2, y3⟩ := y; refine ⟨y1, ?_, ?_⟩
  · obtain ⟨p1, p2, p3, p4⟩ := y2
    refine ⟨p1, p2, p3, fun h0 => ?_⟩; obtain ⟨p, q1, q2, q3, q4⟩ := p4 h0; obtain ⟨g2, k2, f2, x1, _, _, x4, x5⟩ := y3 h0
    have hp : p = ⟨g2, 0, none⟩ := by
      have : some p = some (⟨g2, 0, none⟩ : Addr) := q1.symm.trans x1; injection this
    have hg2 : g2 ≠ g := fun e => hne h0 (by rw [x1, e]); subst hp; refine ⟨_, q1, q2, q3, fun i t ht => ?_⟩; obtain ⟨u1, u2, u3⟩ := q4 i t ht; have hb : g2 < w.heap.size := x4.lt; refine ⟨?_, ?_, u3⟩
    · rw [cb_ (hk _ (by rw [block_add]; exact hb) (by rw [block_add]; exact hg2))]; exact u1
    · rw [cb_ (hk _ (by rw [block_add]; exact hb) (by rw [block_add]; exact hg2))]; exact u2
  · intro h0
    obtain ⟨g2, k2, f2, x1, x2, x3, x4, x5⟩ := y3 h0; have hg2 : g2 ≠ g := fun e => hne h0 (by rw [x1, e]); exact ⟨g2, k2, f2, x1, x2, x3, x4.of_block (hk g2 x4.lt hg2), x5⟩
end
end Go.Proofs.YtcigljngiemdeaaGreat
