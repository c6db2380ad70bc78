/-
  Copies of atoms: the program's own, and the model's: the same terms, in memory of their own. (Written by tools/copy.py.)
-/
import Derived.Test.YtiekfjlhioekcaaDoorOwn
import Derived.Deep.AppendLies
import Derived.Deep.RegionLaw
namespace Go.Proofs.YtiekfjlhioekcaaDoor
open Go.RowKit

/-- The cells of terms. -/
def tcs (ts : List Tm) : List Value := ts.flatMap fun t => [.bool t.1, .string t.2]

theorem tcs_len : ∀ (ts : List Tm), (tcs ts).length = ts.length * 2
  | [] => rfl
  | t :: l => by
    have e : tcs (t :: l) = .bool t.1 :: .string t.2 :: tcs l := rfl
    rw [e, List.length_cons, List.length_cons, tcs_len l, List.length_cons]
    omega

theorem tcs_at : ∀ (ts : List Tm) (i : Nat) (t : Tm), ts[i]? = some t → (tcs ts)[i * 2]? = some (.bool t.1) ∧ (tcs ts)[i * 2 + 1]? = some (.string t.2)
  | [], i, t, h => by simp at h
  | x :: r, 0, t, h => by simp at h; subst h; exact ⟨rfl, rfl⟩
  | x :: r, i + 1, t, h => by
    have ih := tcs_at r i t (by simpa using h)
    have e : tcs (x :: r) = .bool x.1 :: .string x.2 :: tcs r := rfl
    rw [e, show (i + 1) * 2 = i * 2 + 1 + 1 by omega]
    exact ⟨by simpa using ih.1, by simpa using ih.2⟩

theorem tcs_one : ∀ (ts : List Tm), ∀ u ∈ tcs ts, u.oneCell' = true := by
  intro ts u hu
  unfold tcs at hu
  obtain ⟨t, _, ht⟩ := List.mem_flatMap.1 hu
  simp at ht
  rcases ht with rfl | rfl <;> rfl

/-- What lies in a slice of terms, as cells. -/
theorem tcs_cells {w : World} {lo hi n c : Nat} {p : Addr} {ts : List Tm} (h : IsTerms w lo hi (some p) n c ts) (h0 : 0 < n) : ∀ j u, (tcs ts)[j]? = some u → w.cell? (p.add j) = some u := by
  obtain ⟨p', hp, _, _, hc⟩ := h.2.2.2 h0
  injection hp with hp
  subst hp
  intro j u hj
  have hlen := tcs_len ts
  have hjl : j < ts.length * 2 := by
    have := (List.getElem?_eq_some_iff.1 hj).1
    omega
  have hi2 : j / 2 < ts.length := by omega
  have ht : ts[j / 2]? = some ts[j / 2] := List.getElem?_eq_getElem hi2
  obtain ⟨c1, c2, _⟩ := hc _ _ ht
  obtain ⟨d1, d2⟩ := tcs_at ts _ _ ht
  by_cases he : j % 2 = 0
  · have : j / 2 * 2 = j := by omega
    rw [this] at c1 d1
    rw [c1]; rw [hj] at d1; exact d1.symm
  · have : j / 2 * 2 + 1 = j := by omega
    rw [this] at c2 d2
    rw [c2]; rw [hj] at d2; exact d2.symm

theorem terms_sizes {w : World} {lo hi n c : Nat} {A : Option Addr} {ts : List Tm} (h : IsTerms w lo hi A n c ts) : ∀ t ∈ ts, t.2.size ≤ maxLen := by
  intro t ht
  obtain ⟨i, hi⟩ := List.getElem?_of_mem ht
  have hl := (List.getElem?_eq_some_iff.1 hi).1
  obtain ⟨p, _, _, _, hc⟩ := h.2.2.2 (by have := h.1; omega)
  exact (hc i t hi).2.2

/-- A row of terms that was grown by appending. -/
theorem own_terms {w : World} {base lo g n cap : Nat} {ts : List Tm} (h : w.ownsRow base 75 2 (.slice (some ⟨g, 0, none⟩) n cap) n (tcs ts)) (hn : ts.length = n) (hs : ∀ t ∈ ts, t.2.size ≤ maxLen) (hlo : lo ≤ base) :
    IsTerms w lo w.heap.size (some ⟨g, 0, none⟩) n cap ts ∧ RowAt w lo w.heap.size 75 (some ⟨g, 0, none⟩) (n * 2) := by
  subst hn
  rcases h.2 with ⟨hv, _⟩ | ⟨g', cap', cur, hv, hbg, hgb, hle, hcap, hsz, htk⟩
  · simp at hv
  · injection hv with e1 _ e3
    injection e1 with e1
    injection e1 with e1
    subst e1; subst e3
    have hlt := (Array.getElem?_eq_some_iff.1 hgb).1
    have hcell : ∀ j u, (tcs ts)[j]? = some u → w.cell? ⟨g, j, none⟩ = some u := by
      intro j u hu
      have hj := (List.getElem?_eq_some_iff.1 hu).1
      rw [tcs_len] at hj
      rw [← htk, List.getElem?_take, if_pos (by omega)] at hu
      simp [World.cell?, hgb]
      simpa using hu
    have a0 : ∀ j, (⟨g, 0, none⟩ : Addr).add j = ⟨g, j, none⟩ := fun j => by unfold Addr.add; split <;> simp_all
    refine ⟨⟨rfl, hle, hcap, fun _ => ⟨_, rfl, by show lo ≤ g; omega, hlt, fun i t ht => ?_⟩⟩, ⟨g, cap * 2, fun i => cur[i]?.getD undef, rfl, by omega, hlt, ⟨cur, hgb, hsz, fun i hi => by simp [hsz ▸ hi]⟩, Nat.mul_le_mul_right _ hle⟩⟩
    obtain ⟨c1, c2⟩ := tcs_at ts i t ht
    rw [a0, a0]
    exact ⟨hcell _ _ c1, hcell _ _ c2, hs t (List.mem_of_getElem? ht)⟩

/-- A copy of an atom. -/
def CopyAPost (nm : ByteArray) (n : Nat) (ts : List Tm) (w : World) (e : Ending) (w' : World) : Prop :=
  ∃ A' d, e = .returned (.agg #[.string nm, .slice A' n d]) ∧ IsTerms w' w.heap.size w'.heap.size A' n d ts ∧ (0 < n → RowAt w' w.heap.size w'.heap.size 75 A' (n * 2)) ∧ Below w.heap.size w w'

theorem undrewG {a b : World} {row : Option Nat} (h : a.drew.grownBy b row) : a.grownBy b row := ⟨h.os, h.tape, h.output, h.size, h.block⟩

theorem set2_far {w : World} {g i j : Nat} {u v : Value} {b : Nat} (hb : b ≠ g) : ((w.setCell ⟨g, i, none⟩ u).setCell ⟨g, j, none⟩ v).heap[b]? = w.heap[b]? :=
  (Below.heap_setCell _ _ _ b hb).trans (Below.heap_setCell _ _ _ b hb)




end Go.Proofs.YtiekfjlhioekcaaDoor
