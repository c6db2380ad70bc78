/-
  Blocks that are known whole; a row that grows beside them; what such a row reads as.
-/
import Derived.Test.YtiekfjlhioekcaaDoorRefs
import Derived.RangeFuncNested
import Derived.RangeFuncBox
namespace Go.Proofs.YtiekfjlhioekcaaDoor
open Go.RowKit

/-- Block b is just these cells of type t. -/
def Blk (W : World) (b : Nat) (t : TypeId) (cs : Array Value) : Prop := W.heap[b]? = some (.cells cs t (0, 0))

section
variable {W W' w1 : World} {b B n₀ size k m : Nat} {t e : TypeId} {cs : Array Value} {v v' : Value} {xs ys : List Value} {tmp : Obj}

theorem Blk.lt (h : Blk W b t cs) : b < W.heap.size := (Array.getElem?_eq_some_iff.1 h).1
theorem Blk.cell (h : Blk W b t cs) (i : Nat) : W.cell? ⟨b, i, none⟩ = cs[i]? := by
  unfold Blk at h
  simp [World.cell?, h]
theorem Blk.frozen (h : Blk W b t cs) (i : Nat) : W.frozen? ⟨b, i, none⟩ = false := by
  unfold Blk at h
  simp [World.frozen?, h]
theorem Blk.new (W : World) (t : TypeId) (cs : Array Value) : Blk (W.alloc (.cells cs t)) W.heap.size t cs := World.alloc_heap_new W _
theorem Blk.kept {row : Option Nat} (h : Blk W b t cs) (hg : W.grownBy W' row) (hne : some b ≠ row) : Blk W' b t cs := (hg.block b h.lt hne).trans h
theorem Blk.alloc (h : Blk W b t cs) (o : Obj) : Blk (W.alloc o) b t cs := h.kept (World.grownBy_alloc W o none) (by simp)
theorem Blk.below (h : Blk W b t cs) (hb : Below W.heap.size W W') : Blk W' b t cs := (hb.block b h.lt).trans h
theorem Blk.far (h : Blk W b t cs) {p : Addr} (hp : b ≠ p.block) (u : Value) : Blk (W.setCell p u) b t cs := (Below.heap_setCell W p u b hp).trans h
theorem Blk.own {β : Type} (b : Nat) (t : TypeId) (cs : Array Value) : Own (fun (_ : β) W => Blk W b t cs) := fun s X Y row hs hg hrow =>
  hs.kept hg (fun e' => by obtain ⟨o, ho, hc⟩ := hrow b e'.symm; rw [show X.heap[b]? = _ from hs] at ho; cases ho; cases hc)
theorem Blk.putObj (h : Blk W b t cs) {l : Nat} {o : Obj} (o' : Obj) (hl : W.heap[l]? = some o) (ho : o.isCells = false) : Blk (W.putObj l o') b t cs :=
  (Blk.own (β := Unit) b t cs).putObj o' (s := ()) h hl ho

theorem Blk.not_row (h : Blk W b t cs) (hte : t ≠ e) (hr : W.ownsRow n₀ e size v k xs) : some b ≠ v.ownBlock := by
  rcases hr.2 with ⟨rfl, _⟩ | ⟨g, cap, cur, rfl, _, hgb, _⟩
  · simp [Value.ownBlock]
  · intro e'
    obtain rfl : b = g := by simpa [Value.ownBlock] using e'
    have := (show W.heap[b]? = _ from h).symm.trans hgb
    simp at this
    exact hte this.2

/-- Beside a row to which something was appended, and whose box was stored anew. -/
theorem Blk.through (h : Blk W b t cs) (hte : t ≠ e) (hrow : W.ownsRow n₀ e size v k xs) (hgrow : (W.alloc tmp).grownBy w1 v.ownBlock) (hne : b ≠ B) (v' : Value) : Blk (w1.setCell ⟨B, 0, none⟩ v') b t cs :=
  ((h.alloc tmp).kept hgrow (h.not_row hte hrow)).far hne v'
end

theorem Blk.made (w : World) {b : Nat} (t : TypeId) (cs : Array Value) (h : b = w.heap.size) : Blk (w.alloc (.cells cs t)) b t cs := by subst h; exact Blk.new w t cs

theorem Blk.same {W W' : World} {b : Nat} {t : TypeId} {cs : Array Value} (h : Blk W b t cs) (h' : Blk W' b t cs) : W'.heap[b]? = W.heap[b]? := (show W'.heap[b]? = _ from h').trans (show W.heap[b]? = _ from h).symm

theorem Blk.set {W : World} {b : Nat} {t : TypeId} {cs : Array Value} (h : Blk W b t cs) (i : Nat) (u : Value) : Blk (W.setCell ⟨b, i, none⟩ u) b t (cs.setIfInBounds i u) := by
  unfold Blk at h ⊢
  simp [World.setCell, Array.getElem?_modify, h]

/-- The cells of atoms by value. -/
def rcells (rs : List Rf) : List Value := rs.flatMap fun r => [.string r.1, .slice r.2.1 r.2.2.1 r.2.2.2.1]

theorem rcells_len : ∀ rs : List Rf, (rcells rs).length = rs.length * 2
  | [] => rfl
  | r :: rs => by
    have := rcells_len rs
    unfold rcells at *
    simp only [List.flatMap_cons, List.length_append, List.length_cons, List.length_nil, this]
    omega

theorem rcells_snoc (rs : List Rf) (r : Rf) : rcells (rs ++ [r]) = rcells rs ++ [.string r.1, .slice r.2.1 r.2.2.1 r.2.2.2.1] := by
  unfold rcells; simp [List.flatMap_append]

theorem rcells_at : ∀ {rs : List Rf} {i : Nat} {r : Rf}, rs[i]? = some r → (rcells rs)[i * 2]? = some (.string r.1) ∧ (rcells rs)[i * 2 + 1]? = some (.slice r.2.1 r.2.2.1 r.2.2.2.1)
  | [], _, _, h => by simp at h
  | q :: rs, 0, r, h => by
    simp at h; subst h
    exact ⟨rfl, rfl⟩
  | q :: rs, i + 1, r, h => by
    have ih := rcells_at (rs := rs) (i := i) (r := r) (by simpa using h)
    have e : rcells (q :: rs) = .string q.1 :: .slice q.2.1 q.2.2.1 q.2.2.2.1 :: rcells rs := rfl
    rw [e, show (i + 1) * 2 = i * 2 + 1 + 1 by omega]
    exact ⟨by simpa using ih.1, by simpa using ih.2⟩

theorem rcells_one (rs : List Rf) : ∀ u ∈ rcells rs, u.oneCell' = true := by
  intro u hu
  unfold rcells at hu
  obtain ⟨r, _, hr⟩ := List.mem_flatMap.1 hu
  simp at hr
  rcases hr with rfl | rfl <;> rfl

/-- What the atoms that a row holds lead on to lies where it lies. -/
def RefsIn (W : World) (lo hi : Nat) (rs : List Rf) : Prop := ∀ r ∈ rs, r.1.size ≤ maxLen ∧ IsTerms W lo hi r.2.1 r.2.2.1 r.2.2.2.1 r.2.2.2.2

theorem RefsIn.of {W : World} {lo hi n c : Nat} {A : Option Addr} {rs : List Rf} (h : IsRefs W lo hi A n c rs) : RefsIn W lo hi rs := by
  obtain ⟨h1, _, _, h4⟩ := h
  intro r hr
  obtain ⟨i, hi⟩ := List.getElem?_of_mem hr
  have hn : 0 < n := by have := (List.getElem?_eq_some_iff.1 hi).1; omega
  obtain ⟨p, _, _, _, he⟩ := h4 hn
  obtain ⟨_, e2, _, e4⟩ := he i r hi
  exact ⟨e2, e4⟩

theorem RefsIn.keep {W W' : World} {lo hi lo' hi' : Nat} {rs : List Rf} (h : RefsIn W lo hi rs) (hk : ∀ q : Addr, lo ≤ q.block → q.block < hi → W'.cell? q = W.cell? q) (h1 : lo' ≤ lo) (h2 : hi ≤ hi') : RefsIn W' lo' hi' rs :=
  fun r hr => ⟨(h r hr).1, (h r hr).2.keep hk h1 h2⟩

theorem RefsIn.sub {W : World} {lo hi : Nat} {rs rs' : List Rf} (h : RefsIn W lo hi rs) (hs : ∀ r ∈ rs', r ∈ rs) : RefsIn W lo hi rs' := fun r hr => h r (hs r hr)

/-- A row of the call's own reads as the atoms that it holds. -/
theorem refs_own {W : World} {base lo hi : Nat} {v : Value} {rs : List Rf} {n : Nat} (h : W.ownsRow base 32 2 v n (rcells rs)) (hn : n = rs.length) (hb : lo ≤ base) (hr : RefsIn W lo hi rs) (hh : hi ≤ W.heap.size) :
    ∃ A c, v = .slice A n c ∧ IsRefs W lo W.heap.size A n c rs := by
  subst hn
  rcases h.2 with ⟨rfl, h0⟩ | ⟨g, cap, cur, rfl, hbg, hgb, hle, hcap, hsz, htk⟩
  · refine ⟨none, 0, by rw [h0], rfl, by omega, by unfold maxLen; omega, fun hp => absurd hp (by omega)⟩
  · have hlt := (Array.getElem?_eq_some_iff.1 hgb).1
    refine ⟨_, cap, rfl, rfl, hle, hcap, fun _ => ⟨_, rfl, by show lo ≤ g; omega, hlt, fun i r hi => ?_⟩⟩
    obtain ⟨c1, c2⟩ := rcells_at hi
    have hil := (List.getElem?_eq_some_iff.1 hi).1
    have a0 : ∀ j, (⟨g, 0, none⟩ : Addr).add j = ⟨g, j, none⟩ := fun j => by unfold Addr.add; split <;> simp_all
    have hcell : ∀ j u, (rcells rs)[j]? = some u → W.cell? ⟨g, j, none⟩ = some u := by
      intro j u hu
      have hj := (List.getElem?_eq_some_iff.1 hu).1
      rw [rcells_len] at hj
      rw [← htk, List.getElem?_take, if_pos (by omega)] at hu
      simp [World.cell?, hgb]
      simpa using hu
    rw [a0]
    exact ⟨hcell _ _ c1, (hr r (List.mem_of_getElem? hi)).1, hcell _ _ c2, (hr r (List.mem_of_getElem? hi)).2.keep (fun _ _ _ => rfl) (Nat.le_refl _) hh⟩

/-- Two lists merged: no more than both. -/
theorem merge_len : ∀ ra rb : List Rf, (mergeR ra rb).length ≤ ra.length + rb.length := by
  intro ra rb
  fun_induction mergeR ra rb with
  | case1 ra => simp
  | case2 b rb => simp
  | case3 a ra b rb h ih => simp at *; omega
  | case4 a ra b rb h h' ih => simp at *; omega
  | case5 a ra b rb h h' ih => simp at *; omega

theorem merge_mem : ∀ ra rb : List Rf, ∀ x ∈ mergeR ra rb, x.1 ∈ ra ∨ x.1 ∈ rb := by
  intro ra rb
  fun_induction mergeR ra rb with
  | case1 ra => intro x hx; obtain ⟨r, hr, rfl⟩ := List.mem_map.1 hx; exact .inl hr
  | case2 b rb => intro x hx; obtain ⟨r, hr, rfl⟩ := List.mem_map.1 hx; exact .inr hr
  | case3 a ra b rb h ih => intro x hx; rcases List.mem_cons.1 hx with rfl | hx; · simp
                            rcases ih x hx with h | h <;> simp_all
  | case4 a ra b rb h h' ih => intro x hx; rcases List.mem_cons.1 hx with rfl | hx; · simp
                               rcases ih x hx with h | h <;> simp_all
  | case5 a ra b rb h h' ih => intro x hx; rcases List.mem_cons.1 hx with rfl | hx; · simp
                               rcases ih x hx with h | h <;> simp_all

/-- Those that stand on one side. -/
def selR (v : Nat) (l : List (Rf × Nat)) : List Rf := (l.filter fun x => x.2 == v).map (·.1)

theorem selR_yes {v : Nat} {l : List (Rf × Nat)} {x : Rf × Nat} (h : x.2 = v) : selR v (l ++ [x]) = selR v l ++ [x.1] := by
  unfold selR; rw [List.filter_append]; simp [h]
theorem selR_no {v : Nat} {l : List (Rf × Nat)} {x : Rf × Nat} (h : ¬ x.2 = v) : selR v (l ++ [x]) = selR v l := by
  unfold selR; rw [List.filter_append]; simp [h]
theorem selR_len (v : Nat) (l : List (Rf × Nat)) : (selR v l).length ≤ l.length := by
  unfold selR; rw [List.length_map]; exact List.length_filter_le _ _
theorem selR_mem {v : Nat} {l : List (Rf × Nat)} : ∀ r ∈ selR v l, ∃ x ∈ l, x.1 = r := by
  intro r hr
  unfold selR at hr
  obtain ⟨x, hx, rfl⟩ := List.mem_map.1 hr
  exact ⟨x, (List.mem_filter.1 hx).1, rfl⟩

end Go.Proofs.YtiekfjlhioekcaaDoor
