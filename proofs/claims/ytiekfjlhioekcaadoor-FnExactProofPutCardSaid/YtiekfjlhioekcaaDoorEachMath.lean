/-
  Proofs, each ahead of what it needs: the order; a stack of lists that wait; rows that are cut shorter, and turned at a place.
-/
import Derived.Test.YtiekfjlhioekcaaDoorTree
namespace Go.Proofs.YtiekfjlhioekcaaDoor
open Go.RowKit

/-- The proofs of which a proof is made, each with how far in it is. -/
def flatT : Nat → Nat → Tr → List (Nat × Tr)
  | 0 => fun _ _ => []
  | d + 1 => fun lv t => (lv, t) :: t.ks.flatMap (flatT d (lv + 1))

def flatL (d lv : Nat) (ks : List Tr) : List (Nat × Tr) := ks.flatMap (flatT d lv)

theorem flatL_nil (d lv : Nat) : flatL d lv [] = [] := rfl
theorem flatL_cons (d lv : Nat) (t : Tr) (ks : List Tr) : flatL (d + 1) lv (t :: ks) = (lv, t) :: (flatL d (lv + 1) t.ks ++ flatL (d + 1) lv ks) := rfl

theorem flatL_len : ∀ (d lv : Nat) (ks : List Tr), (flatL d lv ks).length = sizeL d ks
  | 0, lv, ks => by
    induction ks with
    | nil => rfl
    | cons t ks ih => rw [sizeL_cons]; show (flatT 0 lv t ++ flatL 0 lv ks).length = _; rw [List.length_append, ih]; rfl
  | d + 1, lv, ks => by
    induction ks with
    | nil => rfl
    | cons t ks ih => rw [sizeL_cons, flatL_cons, List.length_cons, List.length_append, ih, flatL_len d, sizeT_succ]; omega

theorem flatT_len (d lv : Nat) (t : Tr) : (flatT d lv t).length = sizeT d t := by
  have h := flatL_len d lv [t]
  rw [sizeL_cons] at h
  have e : flatL d lv [t] = flatT d lv t := by unfold flatL; simp
  rw [e] at h
  simpa [sizeL] using h

/-- What is left where lists wait, the last of them the innermost. -/
def restS : Nat → Nat → List (List Tr) → List (Nat × Tr)
  | _, _, [] => []
  | D, lv, ks :: L => restS (D - 1) (lv + 1) L ++ flatL D lv ks

theorem restS_snoc : ∀ (D lv : Nat) (L : List (List Tr)) (ks : List Tr), restS D lv (L ++ [ks]) = flatL (D - L.length) (lv + L.length) ks ++ restS D lv L
  | D, lv, [], ks => by simp [restS]
  | D, lv, k :: L, ks => by
    show restS (D - 1) (lv + 1) (L ++ [ks]) ++ flatL D lv k = _
    rw [restS_snoc (D - 1) (lv + 1) L ks]
    show _ = _ ++ (restS (D - 1) (lv + 1) L ++ flatL D lv k)
    rw [List.append_assoc, List.length_cons, show D - 1 - L.length = D - (L.length + 1) by omega, show lv + 1 + L.length = lv + (L.length + 1) by omega]

/-- A list that is at its end is dropped. -/
theorem restS_pop (D lv : Nat) (L : List (List Tr)) : restS D lv (L ++ [[]]) = restS D lv L := by rw [restS_snoc, flatL_nil]; rfl

/-- The first proof of the innermost list is next; behind it what it needs. -/
theorem restS_next {D lv E : Nat} {L : List (List Tr)} (t : Tr) (ks : List Tr) (h : D = L.length + E + 1) : restS D lv (L ++ [t :: ks]) = (lv + L.length, t) :: restS D lv (L ++ [ks] ++ [t.ks]) := by
  rw [restS_snoc, restS_snoc, restS_snoc]
  rw [List.length_append, List.length_singleton]
  rw [show D - L.length = E + 1 by omega, show D - (L.length + 1) = E by omega, flatL_cons, show lv + (L.length + 1) = lv + L.length + 1 by omega]
  simp

/-- A list of which the first is taken. -/
theorem IsSeq.tail {α : Type} {sz : Nat} {E : World → Nat → Nat → Addr → α → Prop} {w : World} {lo hi n c : Nat} {p : Addr} {x : α} {xs : List α} (h : IsSeq sz E w lo hi (some p) n c (x :: xs)) :
    IsSeq sz E w lo hi (if c = 1 then some p else some (p.add (1 * sz))) (n - 1) (c - 1) xs := by
  obtain ⟨h1, h2, h3, h4⟩ := h
  rw [List.length_cons] at h1
  refine ⟨by omega, by omega, by omega, fun hn => ?_⟩
  obtain ⟨p', e, hlo, hhi, hx⟩ := h4 (by omega)
  injection e with e
  subst e
  rw [if_neg (by omega)]
  refine ⟨_, rfl, by rw [block_add]; exact hlo, by rw [block_add]; exact hhi, fun i y hy => ?_⟩
  have := hx (i + 1) y (by simpa using hy)
  rw [add_add, show 1 * sz + i * sz = (i + 1) * sz by rw [Nat.add_mul]; omega]
  exact this

section
variable {W : World} {lo sz k : Nat} {e : TypeId} {g n cap : Nat} {xs : List Value}

/-- A row that is cut shorter. -/
theorem row_short (h : W.ownsRow lo e 1 (.slice (some ⟨g, 0, none⟩) n cap) n xs) (hk : k ≤ n) : W.ownsRow lo e 1 (.slice (some ⟨g, 0, none⟩) k cap) k (xs.take k) := by
  rcases h.2 with ⟨e1, _⟩ | ⟨g', cap', cur, e1, hb, hgb, hle, hcap, hsz, htk⟩
  · cases e1
  · injection e1 with e2 e3 e4
    injection e2 with e2
    injection e2 with e2
    subst e2; subst e4
    have hl := h.1
    refine ⟨by rw [List.length_take]; omega, .inr ⟨g, cap, cur, rfl, hb, hgb, by omega, hcap, hsz, ?_⟩⟩
    rw [← htk, List.take_take, Nat.min_eq_left (by omega), Nat.mul_one]

/-- A row one of whose cells is turned. -/
theorem row_turn (h : W.ownsRow lo e 1 (.slice (some ⟨g, 0, none⟩) n cap) n xs) (i : Nat) (u : Value) : (W.setCell ⟨g, i, none⟩ u).ownsRow lo e 1 (.slice (some ⟨g, 0, none⟩) n cap) n (xs.set i u) := by
  rcases h.2 with ⟨e1, _⟩ | ⟨g', cap', cur, e1, hb, hgb, hle, hcap, hsz, htk⟩
  · cases e1
  · injection e1 with e2 e3 e4
    injection e2 with e2
    injection e2 with e2
    subst e2; subst e4
    have hl := h.1
    have hB : Blk (W.setCell ⟨g, i, none⟩ u) g e (cur.setIfInBounds i u) := Blk.set (W := W) (b := g) (t := e) (cs := cur) hgb i u
    refine ⟨by rw [List.length_set]; exact hl, .inr ⟨g, cap, cur.setIfInBounds i u, rfl, hb, hB, hle, hcap, by simpa using hsz, ?_⟩⟩
    rw [← htk, Array.toList_setIfInBounds, List.take_set]

theorem row_cell (h : W.ownsRow lo e 1 (.slice (some ⟨g, 0, none⟩) n cap) n xs) {i : Nat} {u : Value} (hu : xs[i]? = some u) : W.cell? ⟨g, i, none⟩ = some u := by
  rcases h.2 with ⟨e1, _⟩ | ⟨g', cap', cur, e1, hb, hgb, hle, hcap, hsz, htk⟩
  · cases e1
  · injection e1 with e2 e3 e4
    injection e2 with e2
    injection e2 with e2
    subst e2; subst e4
    have hl := h.1
    have hi := (List.getElem?_eq_some_iff.1 hu).1
    rw [← htk, List.getElem?_take, if_pos (by omega)] at hu
    unfold World.cell?
    rw [hgb]
    simpa using hu
end

end Go.Proofs.YtiekfjlhioekcaaDoor
