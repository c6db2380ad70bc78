/-
  Lists of atoms in memory of their own: each row may be written, and no two of them are one.
-/
import Derived.Test.YtcigljngiemdeaaGreatEa4
import Derived.Test.YtcigljngiemdeaaGreatEq
namespace Go.Proofs.YtcigljngiemdeaaGreat
open Go.RowKit

/-- Where an atom's terms lie, how many they are. -/
def rA (r : Rf) : Option Addr := r.2.1
def rN (r : Rf) : Nat := r.2.2.1

/-- A row of type t from block lo on and below hi, which may be written, of m cells at least. -/
def RowAt (w : World) (lo hi : Nat) (t : TypeId) (A : Option Addr) (m : Nat) : Prop := ∃ g k f, A = some ⟨g, 0, none⟩ ∧ lo ≤ g ∧ g < hi ∧ w.rowIs g t k f ∧ m ≤ k

/-- Each atom's terms lie in a row of their own. -/
def OwnIn (w : World) (lo hi : Nat) (rs : List Rf) : Prop :=
  (∀ r ∈ rs, r.1.size ≤ maxLen ∧ IsTerms w lo hi r.2.1 r.2.2.1 r.2.2.2.1 r.2.2.2.2 ∧ (0 < rN r → RowAt w lo hi 59 (rA r) (rN r * 2))) ∧
  rs.Pairwise fun r r' => 0 < rN r → 0 < rN r' → rA r ≠ rA r'

/-- A list of atoms in memory of its own. -/
def OwnRefs (w : World) (lo hi : Nat) (A : Option Addr) (n c : Nat) (rs : List Rf) : Prop :=
  rs.length = n ∧ n ≤ c ∧ c ≤ maxLen ∧
  (0 < n → ∃ g k f, A = some ⟨g, 0, none⟩ ∧ lo ≤ g ∧ g < hi ∧ w.rowIs g 49 k f ∧ n * 2 ≤ k ∧ ∀ j u, (rcells rs)[j]? = some u → f j = u) ∧
  OwnIn w lo hi rs

section
variable {w w' : World} {lo hi lo' hi' n c m : Nat} {t : TypeId} {A : Option Addr} {rs : List Rf} {r : Rf}

theorem RowAt.keep (h : RowAt w lo hi t A m) (hk : ∀ b, lo ≤ b → b < hi → w'.heap[b]? = w.heap[b]?) (h1 : lo' ≤ lo) (h2 : hi ≤ hi') : RowAt w' lo' hi' t A m := by
  obtain ⟨g, k, f, e, a, b, d, x⟩ := h
  exact ⟨g, k, f, e, by omega, by omega, d.of_block (hk g a b), x⟩

theorem cellKeep (hk : ∀ b, lo ≤ b → b < hi → w'.heap[b]? = w.heap[b]?) : ∀ q : Addr, lo ≤ q.block → q.block < hi → w'.cell? q = w.cell? q :=
  fun q h1 h2 => World.cell?_of_block (hk q.block h1 h2)

theorem OwnIn.keep (h : OwnIn w lo hi rs) (hk : ∀ b, lo ≤ b → b < hi → w'.heap[b]? = w.heap[b]?) (h1 : lo' ≤ lo) (h2 : hi ≤ hi') : OwnIn w' lo' hi' rs :=
  ⟨fun r hr => ⟨(h.1 r hr).1, (h.1 r hr).2.1.keep (cellKeep hk) h1 h2, fun hn => ((h.1 r hr).2.2 hn).keep hk h1 h2⟩, h.2⟩

theorem OwnRefs.keep (h : OwnRefs w lo hi A n c rs) (hk : ∀ b, lo ≤ b → b < hi → w'.heap[b]? = w.heap[b]?) (h1 : lo' ≤ lo) (h2 : hi ≤ hi') : OwnRefs w' lo' hi' A n c rs := by
  obtain ⟨a, b, d, e, f⟩ := h
  refine ⟨a, b, d, fun hn => ?_, f.keep hk h1 h2⟩
  obtain ⟨g, k, f, e1, e2, e3, e4, e5⟩ := e hn
  exact ⟨g, k, f, e1, by omega, by omega, e4.of_block (hk g e2 e3), e5⟩

theorem OwnRefs.below {B : Nat} (h : OwnRefs w lo hi A n c rs) (hb : Below B w w') (hh : hi ≤ B) : OwnRefs w' lo hi A n c rs :=
  h.keep (fun b _ hb' => hb.block b (by omega)) (Nat.le_refl _) (Nat.le_refl _)

/-- What it reads as. -/
theorem OwnRefs.refs (h : OwnRefs w lo hi A n c rs) : IsRefs w lo hi A n c rs := by
  obtain ⟨a, b, d, e, f⟩ := h
  refine ⟨a, b, d, fun hn => ?_⟩
  obtain ⟨g, k, f', e1, e2, e3, e4, e5, e6⟩ := e hn
  refine ⟨_, e1, e2, e3, fun i r hr => ?_⟩
  have hi := (List.getElem?_eq_some_iff.1 hr).1
  have a0 : ∀ j, (⟨g, 0, none⟩ : Addr).add j = ⟨g, j, none⟩ := fun j => by unfold Addr.add; split <;> simp_all
  obtain ⟨c1, c2⟩ := rcells_at hr
  obtain ⟨d1, d2, _⟩ := f.1 r (List.mem_of_getElem? hr)
  rw [a0]
  refine ⟨?_, d1, ?_, d2⟩
  · rw [e4.cell (by omega), e6 _ _ c1]
  · show w.cell? ⟨g, i * 2 + 1, none⟩ = _
    rw [e4.cell (by omega), e6 _ _ c2]

theorem OwnRefs.atoms (h : OwnRefs w lo hi A n c rs) : IsAtoms w lo hi A n c (rs.map rAt) := h.refs.atoms

theorem OwnIn.nil : OwnIn w lo hi [] := ⟨fun r hr => by simp at hr, List.Pairwise.nil⟩

/-- One more, whose terms lie behind all. -/
theorem OwnIn.snoc (h : OwnIn w lo hi rs) (hk : ∀ b, lo ≤ b → b < hi → w'.heap[b]? = w.heap[b]?) (h2 : hi ≤ hi') (hs : r.1.size ≤ maxLen) (hlo : lo ≤ hi) (ht : IsTerms w' hi hi' r.2.1 r.2.2.1 r.2.2.2.1 r.2.2.2.2)
    (hr : 0 < rN r → RowAt w' hi hi' 59 (rA r) (rN r * 2)) : OwnIn w' lo hi' (rs ++ [r]) := by
  have hk' := h.keep hk (Nat.le_refl _) h2
  refine ⟨fun q hq => ?_, ?_⟩
  · rcases List.mem_append.1 hq with hq | hq
    · exact hk'.1 q hq
    · rw [List.mem_singleton.1 hq]
      exact ⟨hs, ht.keep (fun _ _ _ => rfl) hlo (Nat.le_refl _), fun hn => (hr hn).keep (fun _ _ _ => rfl) hlo (Nat.le_refl _)⟩
  · rw [List.pairwise_append]
    refine ⟨h.2, List.pairwise_singleton _ _, fun q hq q' hq' h0 h0' e => ?_⟩
    rw [List.mem_singleton.1 hq'] at h0' e
    obtain ⟨g, _, _, e1, _, e3, _⟩ := (h.1 q hq).2.2 h0
    obtain ⟨g', _, _, f1, f2, _⟩ := hr h0'
    rw [e1, f1] at e
    injection e with e
    injection e with e
    omega

/-- A row that was grown by appending, and what its atoms lead on to. -/
theorem OwnRefs.of_row {base : Nat} {v : Value} (h : w.ownsRow base 49 2 v n (rcells rs)) (hn : n = rs.length) (hb : lo ≤ base) (hr : OwnIn w lo hi rs) (hh : hi ≤ w.heap.size) :
    ∃ A c, v = .slice A n c ∧ OwnRefs w lo w.heap.size A n c rs := by
  subst hn
  rcases h.2 with ⟨rfl, h0⟩ | ⟨g, cap, cur, rfl, hbg, hgb, hle, hcap, hsz, htk⟩
  · exact ⟨none, 0, by rw [h0], rfl, by omega, by unfold maxLen; omega, fun hp => absurd hp (by omega), hr.keep (fun _ _ _ => rfl) (Nat.le_refl _) hh⟩
  · have hlt := (Array.getElem?_eq_some_iff.1 hgb).1
    refine ⟨_, cap, rfl, rfl, hle, hcap, fun _ => ⟨g, cap * 2, fun i => cur[i]?.getD undef, rfl, by omega, hlt, ⟨cur, hgb, hsz, fun i hi => by simp [hsz ▸ hi]⟩, Nat.mul_le_mul_right _ hle, fun j u hu => ?_⟩, hr.keep (fun _ _ _ => rfl) (Nat.le_refl _) hh⟩
    have hj := (List.getElem?_eq_some_iff.1 hu).1
    rw [rcells_len] at hj
    rw [← htk, List.getElem?_take, if_pos (by omega)] at hu
    have : cur[j]? = some u := by simpa using hu
    simp [this]

/-- The atom at a place gets another name. -/
theorem OwnRefs.name {l1 l2 : List Rf} (h : OwnRefs w lo hi A n c (l1 ++ r :: l2)) {g : Nat} (hA : A = some ⟨g, 0, none⟩) (s : ByteArray) (hs : s.size ≤ maxLen) :
    OwnRefs (w.setCell ⟨g, l1.length * 2, none⟩ (.string s)) lo hi A n c (l1 ++ (s, r.2) :: l2) := by
  obtain ⟨a, b, d, e, f⟩ := h
  have hn : 0 < n := by rw [← a]; simp; omega
  obtain ⟨g', k, f', e1, e2, e3, e4, e5, e6⟩ := e hn
  rw [hA] at e1
  injection e1 with e1
  injection e1 with e1
  subst e1
  have hk : ∀ b, b ≠ g → (w.setCell ⟨g, l1.length * 2, none⟩ (.string s)).heap[b]? = w.heap[b]? := fun b hb => Below.heap_setCell _ _ _ b hb
  have hcells : ∀ q : Rf, q ∈ l1 ++ r :: l2 → 0 < rN q → rA q ≠ some ⟨g, 0, none⟩ := by
    intro q hq h0 e
    obtain ⟨g2, k2, f2, x1, _, _, x4, _⟩ := (f.1 q hq).2.2 h0
    rw [e] at x1
    injection x1 with x1
    injection x1 with x1
    subst x1
    obtain ⟨cs, y1, _⟩ := x4
    obtain ⟨cs', z1, _⟩ := e4
    rw [y1] at z1
    injection z1 with z1
    injection z1 with _ z1
    exact absurd z1 (by decide)
  have key : ∀ q : Rf, q ∈ l1 ++ r :: l2 → ∀ s' : ByteArray, s'.size ≤ maxLen → s'.size ≤ maxLen ∧ IsTerms (w.setCell ⟨g, l1.length * 2, none⟩ (.string s)) lo hi q.2.1 q.2.2.1 q.2.2.2.1 q.2.2.2.2 ∧ (0 < rN q → RowAt (w.setCell ⟨g, l1.length * 2, none⟩ (.string s)) lo hi 59 (rA q) (rN q * 2)) := by
    intro q hq s' hs'
    obtain ⟨_, y2, y3⟩ := f.1 q hq
    refine ⟨hs', ?_, ?_⟩
    · obtain ⟨p1, p2, p3, p4⟩ := y2
      refine ⟨p1, p2, p3, fun h0 => ?_⟩
      obtain ⟨p, q1, q2, q3, q4⟩ := p4 h0
      obtain ⟨g2, k2, f2, x1, _, _, x4, x5⟩ := y3 h0
      have hne := hcells q hq h0
      have hp : p = ⟨g2, 0, none⟩ := by
        have : some p = some (⟨g2, 0, none⟩ : Addr) := q1.symm.trans x1
        injection this
      have hg2 : g2 ≠ g := fun e => hne (by rw [x1, e])
      subst hp
      refine ⟨_, q1, q2, q3, fun i t ht => ?_⟩
      obtain ⟨u1, u2, u3⟩ := q4 i t ht
      refine ⟨?_, ?_, u3⟩
      · rw [World.cell?_of_block (hk _ (by rw [block_add]; exact hg2))]; exact u1
      · rw [World.cell?_of_block (hk _ (by rw [block_add]; exact hg2))]; exact u2
    · intro h0
      obtain ⟨g2, k2, f2, x1, x2, x3, x4, x5⟩ := y3 h0
      have hg2 : g2 ≠ g := fun e => hcells q hq h0 (by rw [x1, e])
      exact ⟨g2, k2, f2, x1, x2, x3, x4.of_block (hk g2 hg2), x5⟩
  refine ⟨by simpa using a, b, d, fun _ => ⟨g, k, _, hA, e2, e3, e4.set _ _, e5, fun j u hu => ?_⟩, ⟨fun q hq => ?_, ?_⟩⟩
  · have hl : (rcells l1).length = l1.length * 2 := rcells_len l1
    have ea : rcells (l1 ++ (s, r.2) :: l2) = rcells l1 ++ (.string s :: .slice r.2.1 r.2.2.1 r.2.2.2.1 :: rcells l2) := by unfold rcells; simp [List.flatMap_append]
    have eb : rcells (l1 ++ r :: l2) = rcells l1 ++ (.string r.1 :: .slice r.2.1 r.2.2.1 r.2.2.2.1 :: rcells l2) := by unfold rcells; simp [List.flatMap_append]
    rw [ea] at hu
    show (if j = l1.length * 2 then _ else _) = u
    by_cases hj : j = l1.length * 2
    · rw [if_pos hj]
      rw [List.getElem?_append_right (by omega), hl, hj, Nat.sub_self] at hu
      simpa using hu
    · rw [if_neg hj]
      refine e6 j u ?_
      rw [eb]
      by_cases hlt : j < l1.length * 2
      · rw [List.getElem?_append_left (by omega)] at hu ⊢; exact hu
      · rw [List.getElem?_append_right (by omega), hl] at hu ⊢
        obtain ⟨i, hi⟩ : ∃ i, j - l1.length * 2 = i + 1 := ⟨j - l1.length * 2 - 1, by omega⟩
        rw [hi] at hu ⊢
        simpa using hu
  · rcases List.mem_append.1 hq with hq | hq
    · exact key q (List.mem_append_left _ hq) q.1 (f.1 q (List.mem_append_left _ hq)).1
    · rcases List.mem_cons.1 hq with rfl | hq
      · exact key r (by simp) s hs
      · exact key q (by simp [hq]) q.1 (f.1 q (by simp [hq])).1
  · have hp := f.2
    rw [List.pairwise_append, List.pairwise_cons] at hp ⊢
    refine ⟨hp.1, ⟨fun q hq => hp.2.1.1 q hq, hp.2.1.2⟩, fun q hq q' hq' => ?_⟩
    rcases List.mem_cons.1 hq' with rfl | hq'
    · exact hp.2.2 q hq r (by simp)
    · exact hp.2.2 q hq q' (by simp [hq'])

/-- Where one block alone has turned, all terms that lie elsewhere are as they were. -/
theorem termsFar {q : Rf} {g : Nat} (hk : ∀ b, b < w.heap.size → b ≠ g → w'.heap[b]? = w.heap[b]?)
    (y : q.1.size ≤ maxLen ∧ IsTerms w lo hi q.2.1 q.2.2.1 q.2.2.2.1 q.2.2.2.2 ∧ (0 < rN q → RowAt w lo hi 59 (rA q) (rN q * 2))) (hne : 0 < rN q → rA q ≠ some ⟨g, 0, none⟩) :
    q.1.size ≤ maxLen ∧ IsTerms w' lo hi q.2.1 q.2.2.1 q.2.2.2.1 q.2.2.2.2 ∧ (0 < rN q → RowAt w' lo hi 59 (rA q) (rN q * 2)) := by
  obtain ⟨y1, y2, y3⟩ := y
  refine ⟨y1, ?_, ?_⟩
  · obtain ⟨p1, p2, p3, p4⟩ := y2
    refine ⟨p1, p2, p3, fun h0 => ?_⟩
    obtain ⟨p, q1, q2, q3, q4⟩ := p4 h0
    obtain ⟨g2, k2, f2, x1, _, _, x4, x5⟩ := y3 h0
    have hp : p = ⟨g2, 0, none⟩ := by
      have : some p = some (⟨g2, 0, none⟩ : Addr) := q1.symm.trans x1
      injection this
    have hg2 : g2 ≠ g := fun e => hne h0 (by rw [x1, e])
    subst hp
    refine ⟨_, q1, q2, q3, fun i t ht => ?_⟩
    obtain ⟨u1, u2, u3⟩ := q4 i t ht
    have hb : g2 < w.heap.size := x4.lt
    refine ⟨?_, ?_, u3⟩
    · rw [World.cell?_of_block (hk _ (by rw [block_add]; exact hb) (by rw [block_add]; exact hg2))]; exact u1
    · rw [World.cell?_of_block (hk _ (by rw [block_add]; exact hb) (by rw [block_add]; exact hg2))]; exact u2
  · intro h0
    obtain ⟨g2, k2, f2, x1, x2, x3, x4, x5⟩ := y3 h0
    have hg2 : g2 ≠ g := fun e => hne h0 (by rw [x1, e])
    exact ⟨g2, k2, f2, x1, x2, x3, x4.of_block (hk g2 x4.lt hg2), x5⟩

/-- The atom at a place gets other terms, in the same row. -/
theorem OwnRefs.terms {l1 l2 : List Rf} (h : OwnRefs w lo hi A n c (l1 ++ r :: l2)) {g : Nat} (hg : rA r = some ⟨g, 0, none⟩) (h0 : 0 < rN r) (hk : ∀ b, b < w.heap.size → b ≠ g → w'.heap[b]? = w.heap[b]?) (ts' : List Tm)
    (hT : IsTerms w' lo hi r.2.1 r.2.2.1 r.2.2.2.1 ts') (hR : RowAt w' lo hi 59 (rA r) (rN r * 2)) :
    OwnRefs w' lo hi A n c (l1 ++ (r.1, r.2.1, r.2.2.1, r.2.2.2.1, ts') :: l2) := by
  obtain ⟨a, b, d, e, f⟩ := h
  have hp := f.2
  rw [List.pairwise_append, List.pairwise_cons] at hp
  have hne : ∀ q, q ∈ l1 ∨ q ∈ l2 → 0 < rN q → rA q ≠ some ⟨g, 0, none⟩ := by
    intro q hq h1 e1
    rcases hq with hq | hq
    · exact hp.2.2 q hq r (by simp) h1 h0 (by rw [e1, hg])
    · exact hp.2.1.1 q hq h0 h1 (by rw [e1, hg])
  obtain ⟨g2, k2, f2, x1, _, _, x4, _⟩ := (f.1 r (by simp)).2.2 h0
  rw [hg] at x1
  injection x1 with x1
  injection x1 with x1
  subst x1
  refine ⟨by simpa using a, b, d, fun hn => ?_, ⟨fun q hq => ?_, ?_⟩⟩
  · obtain ⟨g', k, f', e1, e2, e3, e4, e5, e6⟩ := e hn
    have hne' : g' ≠ g := by
      intro e'
      subst e'
      obtain ⟨cs, y1, _⟩ := x4
      obtain ⟨cs', z1, _⟩ := e4
      rw [y1] at z1
      injection z1 with z1
      injection z1 with _ z1
      exact absurd z1 (by decide)
    refine ⟨g', k, f', e1, e2, e3, e4.of_block (hk g' e4.lt hne'), e5, fun j u hu => e6 j u ?_⟩
    rw [← hu]
    congr 1
    unfold rcells
    simp [List.flatMap_append]
  · rcases List.mem_append.1 hq with hq | hq
    · exact termsFar hk (f.1 q (List.mem_append_left _ hq)) (hne q (.inl hq))
    · rcases List.mem_cons.1 hq with rfl | hq
      · exact ⟨(f.1 r (by simp)).1, hT, fun _ => hR⟩
      · exact termsFar hk (f.1 q (by simp [hq])) (hne q (.inr hq))
  · rw [List.pairwise_append, List.pairwise_cons]
    refine ⟨hp.1, ⟨fun q hq => hp.2.1.1 q hq, hp.2.1.2⟩, fun q hq q' hq' => ?_⟩
    rcases List.mem_cons.1 hq' with rfl | hq'
    · exact hp.2.2 q hq r (by simp)
    · exact hp.2.2 q hq q' (by simp [hq'])
end

end Go.Proofs.YtcigljngiemdeaaGreat
