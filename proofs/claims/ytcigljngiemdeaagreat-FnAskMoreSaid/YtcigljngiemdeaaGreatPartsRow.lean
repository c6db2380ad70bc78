/-
  Rows of parts that a law makes: one appended behind the other, of parts that were there before.
-/
import Derived.Test.YtcigljngiemdeaaGreatAo0
import Derived.Test.YtcigljngiemdeaaGreatAo27
set_option maxRecDepth 100000
set_option maxHeartbeats 8000000
namespace Go.Proofs.YtcigljngiemdeaaGreat
open Go.RowKit
def PrS (w0 : World) (q : Pr) : Prop := q.nm.size ≤ maxLen ∧ IsTerms w0 0 w0.heap.size q.A q.n q.c q.ts
structure PRow (w0 : World) (v : Value) (qs : List Pr) (W : World) : Prop where
  row : W.ownsRow w0.heap.size 52 3 v qs.length (psCells qs)
  gr : Below w0.heap.size w0 W
theorem PRow.below {w0 W W' : World} {v : Value} {qs : List Pr} (h : PRow w0 v qs W) (hb : Below W.heap.size W W') : PRow w0 v qs W' := ⟨ownsRow_up h.row hb, belowThen h.gr hb⟩
theorem PRow.more {w0 W W1 : World} {v : Value} {qs ps : List Pr} {ad : Addr} {m c : Nat} (h : PRow w0 v qs W) (hb : Below W.heap.size W W1) (hm : ps.length = m) (hP : ∀ j u, (psCells ps)[j]? = some u → W1.cell? (ad.add j) = some u) (hl : qs.length + m ≤ 1000000) :
    ∃ v' W2, (Builtin.append_ #[30, 30] 30 #[v, .slice (some ad) m c]).run Tryz.prog W1 = .ok v' W2 ∧ PRow w0 v' (qs ++ ps) W2 ∧ W1.grownBy W2 v.ownBlock := by
  have h1 := h.below hb; obtain ⟨i0, hi0, hz0, hsz0, hby0⟩ := info_parts Tryz.infoPrt; have hs1 := h1.gr.size; obtain ⟨v', W2, hr, hown, hg, _⟩ := run_append_own_at (P := Tryz.prog) W1 w0.heap.size 30 30 52 i0 _ 3 48 Tryz.underlying30 hi0 hz0 hsz0 hby0 rfl qaa v qs.length (psCells qs) h1.row ad m c (psCells ps) (by rw [psCells_len, hm]) hP (psCells_one ps) qac qaa hs1; refine ⟨v', W2, hr, ⟨by rw [psCells_append, List.length_append, hm]; exact hown, h1.gr.grown hg hs1 (fun j e => (h1.row.lt j e).1)⟩, hg⟩
theorem PRow.new (w0 W : World) (hb : Below w0.heap.size w0 W) : PRow w0 (.slice (some ⟨W.heap.size, 0, none⟩) 0 0) [] (W.alloc (.cells #[] 52)) :=
  ⟨⟨rfl, .inr ⟨W.heap.size, 0, #[], rfl, hb.size, World.alloc_heap_new W _, nl _, by unfold maxLen; omega, rfl, rfl⟩⟩, belowThen hb (below1 _ _)⟩
theorem PRow.parts {w0 W : World} {v : Value} {qs : List Pr} (h : PRow w0 v qs W) (hs : ∀ q ∈ qs, PrS w0 q) : ∃ A c, v = .slice A qs.length c ∧ IsParts W 0 W.heap.size A qs.length c (qs.map Pr.pt) := by
  have hT : ∀ q ∈ qs, IsTerms W 0 W.heap.size q.A q.n q.c q.ts := fun q hq => ((hs q hq).2.keep (w' := W) (lo' := 0) (hi' := w0.heap.size) (fun p _ hp => h.gr.cell hp) (nl _) (nl _)).keep (fun _ _ _ => rfl) (nl _) h.gr.size; rcases h.row.2 with ⟨e, h0⟩ | ⟨g, cap, cur, e, hb, hg, h1, h2, h3, h4⟩
  · exact ⟨none, 0, by rw [e, h0], ⟨by simp, by omega, by unfold maxLen; omega, fun hn => by omega⟩⟩
  · have hgl := (Array.getElem?_eq_some_iff.1 hg).1
    have a0 : ∀ j, (⟨g, 0, none⟩ : Addr).add j = ⟨g, j, none⟩ := fun j => by unfold Addr.add; split <;> simp_all
    have hc : ∀ j u, (psCells qs)[j]? = some u → W.cell? ⟨g, j, none⟩ = some u := fun j u hu => by
      have hj := (List.getElem?_eq_some_iff.1 hu).1; rw [psCells_len] at hj; rw [← h4, List.getElem?_take, if_pos qaa] at hu; simp [World.cell?, hg]; simpa using hu
    refine ⟨_, cap, e, ⟨by simp, h1, h2, fun _ => ⟨⟨g, 0, none⟩, rfl, Nat.zero_le _, hgl, fun i x hx => ?_⟩⟩⟩; rw [List.getElem?_map] at hx; obtain ⟨q, hq, rfl⟩ := Option.map_eq_some_iff.1 hx; have hqm := List.mem_of_getElem? hq; have c0 := hc (i * 3 + 0) _ ((psCells_at hq 0 qaa).trans rfl); have c1 := hc (i * 3 + 1) _ ((psCells_at hq 1 qaa).trans rfl); have c2 := hc (i * 3 + 2) _ ((psCells_at hq 2 qaa).trans rfl); rw [a0]; exact ⟨c0, c1, (hs q hqm).1, q.A, q.n, q.c, c2, hT q hqm⟩
theorem prs_of {w : World} {A : Option Addr} {n c : Nat} {ps : List Pt} (h : IsParts w 0 w.heap.size A n c ps) : ∃ qs : List Pr, qs.map Pr.pt = ps ∧ qs.length = n ∧ (∀ q ∈ qs, PrS w q) ∧ ∀ p, A = some p → 0 < n → p.block < w.heap.size ∧ ∀ j u, (psCells qs)[j]? = some u → w.cell? (p.add j) = some u := by
  obtain ⟨h1, h2, h4, h5⟩ := h; by_cases hn : 0 < n
  · obtain ⟨p, hp, _, hhi, he⟩ := h5 hn
    obtain ⟨qs, hl, hq⟩ := list_choose (n := n) (R := fun i (q : Pr) => ps[i]? = some q.pt ∧ PrS w q ∧ w.cell? (p.add (i * 3)) = some (.bool q.no) ∧ w.cell? (nextTo (p.add (i * 3)) 1) = some (.string q.nm) ∧ w.cell? (nextTo (p.add (i * 3)) 2) = some (.slice q.A q.n q.c)) (fun i hi => by
      obtain ⟨x, hx⟩ : ∃ x, ps[i]? = some x := ⟨_, List.getElem?_eq_getElem qaa⟩; obtain ⟨e1, e2, e3, A', n', c', e4, e5⟩ := he i x hx; exact ⟨⟨x.1, x.2.1, A', n', c', x.2.2⟩, hx, ⟨e3, e5⟩, e1, e2, e4⟩)
    refine ⟨qs, ?_, hl, fun q hqm => ?_, fun p' hp' _ => ?_⟩
    · refine List.ext_getElem? fun i => ?_
      rw [List.getElem?_map]; by_cases hi : i < n
      · obtain ⟨q, hqi⟩ : ∃ q, qs[i]? = some q := ⟨_, List.getElem?_eq_getElem qaa⟩
        rw [hqi, (hq i q hqi).1]; rfl
      · rw [List.getElem?_eq_none qaa, List.getElem?_eq_none qaa]; rfl
    · obtain ⟨i, hi⟩ := List.getElem?_of_mem hqm
      exact (hq i q hi).2.1
    · rw [hp] at hp'
      injection hp' with hp'; subst hp'; refine ⟨hhi, fun j u hu => ?_⟩; have hj := (List.getElem?_eq_some_iff.1 hu).1; rw [psCells_len] at hj; obtain ⟨q, hqi⟩ : ∃ q, qs[j / 3]? = some q := ⟨_, List.getElem?_eq_getElem qaa⟩; have hcell := psCells_at hqi (j % 3) qaa; have hjj : j / 3 * 3 + j % 3 = j := qaa; rw [hjj, hu] at hcell; obtain ⟨_, _, c0, c1, c2⟩ := hq _ q hqi
      have hadd : ∀ m, w.cell? (nextTo (p.add (j / 3 * 3)) m) = w.cell? (p.add (j / 3 * 3 + m)) ∨ m = 0 := fun m => by
        by_cases hm : m = 0
        · exact .inr hm
        · left
          congr 1; unfold nextTo Addr.add; by_cases hk : j / 3 * 3 = 0
          · simp [hk, hm]
          · simp [hk, hm]; omega
      have h3j : j % 3 = 0 ∨ j % 3 = 1 ∨ j % 3 = 2 := qaa; rcases h3j with e | e | e
      · rw [e] at hcell hjj
        rw [← hjj, Nat.add_zero, c0]; simpa [pcells] using hcell.symm
      · rw [e] at hcell hjj
        rw [← hjj, ← ((hadd 1).resolve_right qaa), c1]; simpa [pcells] using hcell.symm
      · rw [e] at hcell hjj
        rw [← hjj, ← ((hadd 2).resolve_right qaa), c2]; simpa [pcells] using hcell.symm
  · have e0 : ps = [] := List.length_eq_zero_iff.1 qaa
    exact ⟨[], by rw [e0]; rfl, by simp; omega, fun q hq => by simp at hq, fun p _ h0 => absurd h0 hn⟩
end Go.Proofs.YtcigljngiemdeaaGreat
