/-
  Appending a part of a list to a row of the call's own, at a step of a region that draws its order.
-/
import Derived.Test.YtahkkelahocplaaDoorAppended
import Derived.Test.YtahkkelahocplaaDoorRegion
import Derived.Laws.OwnMore
import Derived.Laws.AppendOwn
namespace Go.Proofs.YtahkkelahocplaaDoor
open Go.RowKit

/-- The slice A, m long, holds these cells. -/
def SrcAt (w : World) (A : Option Addr) (m : Nat) (news : List Value) : Prop :=
  news.length = m * 2 ∧ (∀ ad, A = some ad → ∀ j u, news[j]? = some u → w.cell? (ad.add j) = some u) ∧ (A = none → m = 0)

section
variable {P : Program} {w : World}

theorem run_app_none (base : Nat) (t ty e : TypeId) (i : TypeInfo) (size : Nat) (ht : P.underlying t = some (.slice e)) (hi : P.info? e = some i)
    (v : Value) (n c : Nat) (xs : List Value) (hown : w.ownsRow base e size v n xs) : (Builtin.append_ #[t, t] ty #[v, .slice none 0 c]).run P w = .ok v w := by
  rcases hown.2 with ⟨rfl, rfl⟩ | ⟨g, cap, cur, rfl, _, _, hnc, _⟩
  · simp [Builtin.append_, run_underlying ht, sizeOf, typeInfo, hi, Builtin.lenOf, Builtin.firstCells]
  · simp [Builtin.append_, run_underlying ht, sizeOf, typeInfo, hi, Builtin.lenOf, Builtin.firstCells, hnc, storeCells]

theorem step_app {ops : Array Oper} {o : Oper} {a : Act} {K : Act → World → Prop} {Q : Exit → Act → World → Prop} {E : Prop} (hgd : o.guard = none) (s x : Operand) (t : TypeId)
    (ho : o.op = .call { callee := .builtin .append, args := #[s, x], argTypes := #[t, t] })
    (base : Nat) (e : TypeId) (i : TypeInfo) (z : Value) (bytes : Nat) (ht : P.underlying t = some (.slice e)) (hi : P.info? e = some i) (hz : i.zero = some z)
    (hsize : i.size = 2) (hby : i.bytes = bytes) (hzs : z.cells.size = 2)
    (v : Value) (n : Nat) (xs : List Value) (hs : a.eval s = v) (hown : w.ownsRow base e 2 v n xs)
    (A : Option Addr) (m c : Nat) (news : List Value) (hx : a.eval x = .slice A m c) (hsrc : SrcAt w A m news) (h1 : ∀ u ∈ news, u.oneCell' = true)
    (h63 : n + m ≤ maxLen) (hbytes : (n + m) * bytes ≤ 140737488355328) (hbase : base ≤ w.heap.size)
    (h : ∀ v' w', w'.ownsRow base e 2 v' (n + m) (xs ++ news) → w.grownBy w' v.ownBlock → K (a.put o.dst v') w') :
    if Region.wanted o (yielded ops a.tmps) = true then Oper.wp P o a w K Q else E := by
  have hw : Region.wanted o (yielded ops a.tmps) = true := by simp [Region.wanted, hgd]
  rw [if_pos hw]
  obtain ⟨hl, hc, hn⟩ := hsrc
  cases A with
  | none =>
    have hm := hn rfl
    subst hm
    have hnil : news = [] := List.eq_nil_of_length_eq_zero (by simpa using hl)
    subst hnil
    have hrun := run_app_none (P := P) base t o.type e i 2 ht hi v n c xs hown
    unfold Oper.wp execOp
    simp only [ho, resolve, invoke, builtin, Sem.run_bind, Sem.run_pure, Result.andThen_ok, List.map_toArray, List.map_cons, List.map_nil, hs, hx, hrun]
    exact h v w (by simpa using hown) (World.grownBy.refl w _)
  | some ad => exact wp_append_own w s x t ho base e i z 2 bytes ht hi hz hsize hby hzs (by omega) v n xs hs hown ad m c news hx hl (hc ad rfl) h1 h63 hbytes hbase fun v' w' h2 h3 _ => h v' w' h2 h3

theorem own_ne {base b size n : Nat} {e : TypeId} {v : Value} {xs : List Value} (h : w.ownsRow base e size v n xs) (hb : b < base) : some b ≠ v.ownBlock := by
  rcases h.2 with ⟨rfl, _⟩ | ⟨g, cap, cur, rfl, hbg, _⟩
  · simp [Value.ownBlock]
  · simp [Value.ownBlock]; omega

theorem own_below {w' : World} {base B size n : Nat} {e : TypeId} {v : Value} {xs : List Value} (h : w.ownsRow base e size v n xs) (hg : w.grownBy w' v.ownBlock) (hB : B ≤ base) (hs : B ≤ w.heap.size) : Below B w w' :=
  (Below.refl B w).grown hg hs (fun k e => by
    by_cases hk : k < base
    · exact absurd e.symm (own_ne h hk)
    · omega)
end

section
variable {w : World} {lo hi n c : Nat} {rs : List Rf}

theorem rcells_take (rs : List Rf) (k : Nat) : rcells (rs.take k) = (rcells rs).take (k * 2) := by
  induction rs generalizing k with
  | nil => simp [rcells]
  | cons r rs ih =>
    cases k with
    | zero => simp [rcells]
    | succ k =>
      have e : rcells (r :: rs) = .string r.1 :: .slice r.2.1 r.2.2.1 r.2.2.2.1 :: rcells rs := rfl
      have e2 : rcells ((r :: rs).take (k + 1)) = .string r.1 :: .slice r.2.1 r.2.2.1 r.2.2.2.1 :: rcells (rs.take k) := rfl
      rw [e, e2, ih, show (k + 1) * 2 = k * 2 + 1 + 1 by omega, List.take_succ_cons, List.take_succ_cons]

theorem rcells_drop (rs : List Rf) (k : Nat) : rcells (rs.drop k) = (rcells rs).drop (k * 2) := by
  induction rs generalizing k with
  | nil => simp [rcells]
  | cons r rs ih =>
    cases k with
    | zero => simp
    | succ k =>
      have e : rcells (r :: rs) = .string r.1 :: .slice r.2.1 r.2.2.1 r.2.2.2.1 :: rcells rs := rfl
      rw [List.drop_succ_cons, ih, e, show (k + 1) * 2 = k * 2 + 1 + 1 by omega, List.drop_succ_cons, List.drop_succ_cons]

theorem rcells_app (rs rs' : List Rf) : rcells (rs ++ rs') = rcells rs ++ rcells rs' := by unfold rcells; simp [List.flatMap_append]

/-- The cells of a list of atoms, one by one. -/
theorem IsRefs.cells {A : Option Addr} {p : Addr} (h : IsRefs w lo hi A n c rs) (hA : A = some p) : ∀ j u, (rcells rs)[j]? = some u → w.cell? (p.add j) = some u := by
  obtain ⟨h1, h2, h3, h4⟩ := h
  intro j u hj
  have hl := rcells_len rs
  have hjl : j < rs.length * 2 := by
    have := (List.getElem?_eq_some_iff.1 hj).1
    omega
  obtain ⟨p', hp, _, _, he⟩ := h4 (by omega)
  rw [hA] at hp
  injection hp with hp
  subst hp
  have hr : rs[j / 2]? = some rs[j / 2] := List.getElem?_eq_getElem (by omega)
  obtain ⟨e1, _, e3, _⟩ := he _ _ hr
  obtain ⟨d1, d2⟩ := rcells_at hr
  by_cases hx : j % 2 = 0
  · have : j / 2 * 2 = j := by omega
    rw [this] at e1 d1
    rw [e1]; rw [hj] at d1; exact d1.symm
  · have : j / 2 * 2 + 1 = j := by omega
    rw [this] at d2
    have e3' : w.cell? ((p.add (j / 2 * 2)).add 1) = some (.slice rs[j / 2].2.1 rs[j / 2].2.2.1 rs[j / 2].2.2.2.1) := by
      have : (p.add (j / 2 * 2)).add 1 = nextTo (p.add (j / 2 * 2)) 1 := by unfold nextTo; rfl
      rw [this]; exact e3
    rw [add_add, this] at e3'
    rw [e3']; rw [hj] at d2; exact d2.symm

theorem IsRefs.srcTake {A : Option Addr} (h : IsRefs w lo hi A n c rs) {k : Nat} (hk : k ≤ n) : SrcAt w A k (rcells (rs.take k)) := by
  refine ⟨by rw [rcells_len, List.length_take, h.1, Nat.min_eq_left hk], fun ad hA j u hu => ?_, fun hA => ?_⟩
  · rw [rcells_take] at hu
    rw [List.getElem?_take] at hu
    split at hu
    · exact h.cells hA j u hu
    · simp at hu
  · rcases Nat.eq_zero_or_pos n with h0 | h0
    · omega
    · obtain ⟨p, hp, _⟩ := h.2.2.2 h0
      rw [hA] at hp; cases hp

theorem IsRefs.srcDrop {p : Addr} (h : IsRefs w lo hi (some p) n c rs) {k : Nat} (hk : k ≤ n) {q : Option Addr} (hq : q = if c = k then some p else some (p.add (k * 2))) : SrcAt w q (n - k) (rcells (rs.drop k)) := by
  have hnc := h.2.1
  have hl := h.1
  subst hq
  by_cases hc : c = k
  · have hn : n - k = 0 := by omega
    rw [hn, List.drop_eq_nil_of_le (by omega)]
    exact ⟨rfl, fun ad _ j u hu => by simp [rcells] at hu, fun _ => rfl⟩
  · rw [if_neg hc]
    refine ⟨by rw [rcells_len, List.length_drop, hl], fun ad hA j u hu => ?_, fun hA => by cases hA⟩
    injection hA with hA
    subst hA
    rw [rcells_drop, List.getElem?_drop] at hu
    rw [add_add]
    exact h.cells rfl _ u hu

theorem srcOne (W : World) (g : Nat) (t : TypeId) (x y : Value) (h : Blk W g t #[x, y]) : SrcAt W (some ⟨g, 0, none⟩) 1 [x, y] := by
  refine ⟨rfl, fun ad hA j u hu => ?_, fun hA => by cases hA⟩
  injection hA with hA
  subst hA
  have a0 : ∀ j, (⟨g, 0, none⟩ : Addr).add j = ⟨g, j, none⟩ := fun j => by unfold Addr.add; split <;> simp_all
  rw [a0, h.cell]
  simpa using hu

theorem own_empty (w : World) (t : TypeId) (B : Nat) (hB : B ≤ w.heap.size) : (w.alloc (.cells #[] t)).ownsRow B t 2 (.slice (some ⟨w.heap.size, 0, none⟩) 0 0) 0 [] :=
  ⟨rfl, .inr ⟨w.heap.size, 0, #[], rfl, hB, heap_alloc_new w _, Nat.le_refl _, by unfold maxLen; omega, rfl, rfl⟩⟩
end

end Go.Proofs.YtahkkelahocplaaDoor
