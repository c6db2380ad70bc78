/-
  Texts of one claim, put together.
-/
import Derived.Test.YtcigljngiemdeaaGreatEa0
import Derived.Deep.RegionHeld
import Derived.Test.YtcigljngiemdeaaGreatBindGet
import Derived.Test.YtcigljngiemdeaaGreatEa3
namespace Go.Proofs.YtcigljngiemdeaaGreat
open Go

section
variable {P : Program} {ops : Array Oper} {Q : Exit → Act → World → Prop} {md : Region.Mode} {S : World → Prop}

/-- How many have not come up. -/
def leftN (L : Array Bool) : Nat := L.toList.count false

theorem left_set {L : Array Bool} {i : Nat} (h : L.getD i true = false) : leftN (L.setIfInBounds i true) + 1 = leftN L := by
  rcases Nat.lt_or_ge i L.size with hi | hi
  · have hg : L[i] = false := by simpa [hi] using h
    unfold leftN
    have hl : i < L.toList.length := by simpa using hi
    have hg2 : L.toList[i] = false := by simpa using hg
    have hpos : 0 < L.toList.count false := List.count_pos_iff.2 (by rw [← hg2]; exact List.getElem_mem hl)
    have e1 : (if (false == false) = true then 1 else 0) = 1 := rfl
    have e2 : (if (true == false) = true then 1 else 0) = 0 := rfl
    rw [Array.toList_setIfInBounds, List.count_set hl, hg2, e1, e2]
    omega
  · simp [Array.getElem?_eq_none hi] at h

theorem wpAnyH_inv (I : Array Bool → Act → World → Prop) (hS : ∀ L a w, I L a w → S w)
    (step : ∀ L a w i o, I L a w → ops[i]? = some o → L.getD i true = false → (∀ e ∈ o.after, Region.binds md e = true → L.getD e.on false = true) →
      ∀ K : Act → World → Prop, Shut (∀ a' w', I (L.setIfInBounds i true) a' w' → K a' w') → if Region.wanted o (yielded ops a.tmps) = true then Oper.wp P o a w K Q else K (a.put o.dst undef) w)
    (fin : ∀ L a w, I L a w → Region.ready md ops L = [] → Q .normal a w) :
    ∀ (fuel : Nat) (L : Array Bool) (a : Act) (w : World), leftN L ≤ fuel → I L a w → wpAnyH P md ops Q S fuel L a w
  | 0, L, a, w, hl, hI => by
    have hr : Region.ready md ops L = [] := by
      rw [List.eq_nil_iff_forall_not_mem]; intro i hi
      have := left_set (mem_ready.1 hi).1
      omega
    exact ⟨hr, fin L a w hI hr⟩
  | fuel + 1, L, a, w, hl, hI => by
    refine ⟨fun hr => fin L a w hI hr, fun i hi => ?_⟩
    obtain ⟨h0, o, ho, hd⟩ := mem_ready.1 hi
    have hc := left_set h0
    exact wpOp_step ho fun K' hK => step L a w i o hI ho h0 hd K' (fun a' w' hI' => hK a' w' ⟨hS _ _ _ hI', wpAnyH_inv I hS step fin fuel _ a' w' (by omega) hI'⟩)

/-- Whoever waits waits for earlier ones. -/
def backB (ops : Array Oper) : Bool := (List.range ops.size).all fun i => match ops[i]? with | some o => o.after.all fun e => decide (e.on < i) | none => true

/-- Where nothing is ready all have come up. -/
theorem all_up {L : Array Bool} (hb : backB ops = true) (hs : L.size = ops.size) (hr : Region.ready md ops L = []) : ∀ (i : Nat), i < ops.size → L.getD i false = true := by
  intro i
  induction i using Nat.strongRecOn with
  | _ i ih =>
    intro hi
    cases hL : L.getD i false with
    | true => rfl
    | false =>
      exfalso
      have hil : i < L.size := by omega
      have ho : ops[i]? = some ops[i] := Array.getElem?_eq_getElem hi
      have hall := List.all_eq_true.1 hb i (List.mem_range.2 hi)
      simp only [ho] at hall
      have hm : i ∈ Region.ready md ops L := mem_ready.2 ⟨by simp [hil] at hL ⊢; exact hL, _, ho, fun e he _ => ih e.on (by
        have := Array.all_eq_true_iff_forall_mem.1 hall e he
        simpa using this) (by
        have := Array.all_eq_true_iff_forall_mem.1 hall e he
        have h2 : e.on < i := by simpa using this
        omega)⟩
      rw [hr] at hm
      cases hm
end

end Go.Proofs.YtcigljngiemdeaaGreat

namespace Go.Proofs.YtcigljngiemdeaaGreat
open Go.RowKit

/-- One row in the making: how far it is; the row; the box of what is put behind it. -/
structure Chn (base : Nat) (ls : List ByteArray) (s : ByteArray) (k : Nat) (bx : Bool) (v u : Value) (W : World) : Prop where
  r1 : k = 1 → W.ownsRow base 9 1 v 0 []
  r2 : k = 2 → W.ownsRow base 9 1 v ls.length (tcl ls)
  r3 : k = 3 → W.ownsRow base 9 1 v (ls.length + 1) (tcl ls ++ [.string s])
  z : k = 0 → v = undef
  bz : bx = false → u = undef
  b : bx = true → ∃ g, u = .slice (some ⟨g, 0, none⟩) 1 1 ∧ Blk W g 9 #[.string s] ∧ base ≤ g

/-- Two blocks are not one. -/
def Ap (a b : Value) : Prop := ∀ g, a.ownBlock = some g → b.ownBlock ≠ some g
/-- A block is there. -/
def Lt0 (a : Value) (W : World) : Prop := ∀ g, a.ownBlock = some g → g < W.heap.size

theorem Ap.symm {a b : Value} (h : Ap a b) : Ap b a := fun g h1 h2 => h g h2 h1
theorem Ap.undef (a : Value) : Ap undef a := fun g h => by simp [Go.undef, Value.ownBlock] at h

theorem Lt0.mono {a : Value} {W W' : World} (h : Lt0 a W) (hs : W.heap.size ≤ W'.heap.size) : Lt0 a W' := fun g e => Nat.lt_of_lt_of_le (h g e) hs
/-- What is new is none of the old. -/
theorem Ap.new {a b : Value} {W : World} (h : Lt0 a W) (hb : ∀ g, b.ownBlock = some g → W.heap.size ≤ g) : Ap a b := fun g h1 h2 => by have := h g h1; have := hb g h2; omega
theorem Ap.grown {a v v' : Value} {W : World} (h : Ap a v) (hl : Lt0 a W) (hat : v'.ownBlock = v.ownBlock ∨ v'.ownBlock = some W.heap.size) : Ap a v' := fun g h1 h2 => by
  rcases hat with e | e
  · rw [e] at h2; exact h g h1 h2
  · rw [e] at h2; injection h2 with h2; have := hl g h1; omega

section
variable {base : Nat} {ls : List ByteArray} {s : ByteArray} {k : Nat} {bx : Bool} {v u x : Value} {W W' : World}

/-- It is as it was where its row and its box are not touched. -/
theorem Chn.kept (h : Chn base ls s k bx v u W) (hg : W.grownBy W' x.ownBlock) (h1 : Ap v x) (h2 : Ap u x) : Chn base ls s k bx v u W' := by
  have ne : v.ownBlock = none ∨ v.ownBlock ≠ x.ownBlock := by
    cases e : v.ownBlock with
    | none => exact .inl rfl
    | some g => exact .inr (fun e2 => h1 g e e2.symm)
  exact ⟨fun e => (h.r1 e).kept hg ne, fun e => (h.r2 e).kept hg ne, fun e => (h.r3 e).kept hg ne, h.z, h.bz, fun e => by
    obtain ⟨g, e1, e2, e4⟩ := h.b e
    exact ⟨g, e1, e2.kept hg (fun e3 => h2 g (by rw [e1]; rfl) e3.symm), e4⟩⟩

theorem Chn.up (h : Chn base ls s k bx v u W) (o : Obj) : Chn base ls s k bx v u (W.alloc o) :=
  h.kept (x := .slice none 0 0) (grownBelow (below1 W o) _) (fun g _ e => by simp [Value.ownBlock] at e) (fun g _ e => by simp [Value.ownBlock] at e)
end

/-- Two rows in the making, and what else is there. -/
structure WJ (V : World) (rb : Nat) (tb : TypeId) (arr : Array Value) (l1 : List ByteArray) (s1 : ByteArray) (l2 : List ByteArray) (s2 : ByteArray) (k1 k2 : Nat) (b1 b2 : Bool) (v1 u1 v2 u2 : Value) (W : World) : Prop where
  c1 : Chn (rb + 1) l1 s1 k1 b1 v1 u1 W
  c2 : Chn (rb + 1) l2 s2 k2 b2 v2 u2 W
  a1 : Ap v1 u1
  a2 : Ap v1 v2
  a3 : Ap v1 u2
  a4 : Ap u1 v2
  a5 : Ap u1 u2
  a6 : Ap v2 u2
  t1 : Lt0 v1 W
  t2 : Lt0 u1 W
  t3 : Lt0 v2 W
  t4 : Lt0 u2 W
  gr : Below rb V W
  res : Blk W rb tb arr
  hb : rb + 1 ≤ W.heap.size

section
variable {w V W W' : World} {rb : Nat} {tb : TypeId} {arr : Array Value} {l1 l2 : List ByteArray} {s1 s2 : ByteArray} {k1 k2 k' : Nat} {b1 b2 : Bool} {v1 u1 v2 u2 v' : Value}

theorem WJ.swap (h : WJ V rb tb arr l1 s1 l2 s2 k1 k2 b1 b2 v1 u1 v2 u2 W) : WJ V rb tb arr l2 s2 l1 s1 k2 k1 b2 b1 v2 u2 v1 u1 W :=
  ⟨h.c2, h.c1, h.a6, h.a2.symm, h.a4.symm, h.a3.symm, h.a5.symm, h.a1, h.t3, h.t4, h.t1, h.t2, h.gr, h.res, h.hb⟩

theorem newBlock {W : World} {n c : Nat} : ∀ g, (Value.slice (some ⟨W.heap.size, 0, none⟩) n c).ownBlock = some g → W.heap.size ≤ g := fun g e => by simp [Value.ownBlock] at e; omega
theorem ltNew {W : World} {n c : Nat} (o : Obj) : Lt0 (.slice (some ⟨W.heap.size, 0, none⟩) n c) (W.alloc o) := fun g e => by simp [Value.ownBlock] at e; simp; omega

theorem WJ.made (h : WJ V rb tb arr l1 s1 l2 s2 0 k2 b1 b2 v1 u1 v2 u2 W) : WJ V rb tb arr l1 s1 l2 s2 1 k2 b1 b2 (.slice (some ⟨W.heap.size, 0, none⟩) 0 0) u1 v2 u2 (W.alloc (.cells #[] 9)) := by
  have hs : W.heap.size ≤ (W.alloc (.cells #[] 9)).heap.size := by simp
  have c := h.c1.up (.cells #[] 9)
  exact ⟨⟨fun _ => ⟨rfl, .inr ⟨W.heap.size, 0, #[], rfl, h.hb, heap_alloc_new W _, Nat.le_refl _, by unfold maxLen; omega, rfl, rfl⟩⟩, fun e => by omega, fun e => by omega, fun e => by omega, c.bz, c.b⟩, h.c2.up _,
    (Ap.new h.t2 newBlock).symm, (Ap.new h.t3 newBlock).symm, (Ap.new h.t4 newBlock).symm, h.a4, h.a5, h.a6, ltNew _, h.t2.mono hs, h.t3.mono hs, h.t4.mono hs, h.gr.alloc (by have := h.hb; omega) _, h.res.alloc _, by have := h.hb; omega⟩

theorem WJ.boxed (h : WJ V rb tb arr l1 s1 l2 s2 k1 k2 false b2 v1 u1 v2 u2 W) : WJ V rb tb arr l1 s1 l2 s2 k1 k2 true b2 v1 (.slice (some ⟨W.heap.size, 0, none⟩) 1 1) v2 u2 (W.alloc (.cells #[.string s1] 9)) := by
  have hs : W.heap.size ≤ (W.alloc (.cells #[.string s1] 9)).heap.size := by simp
  have c := h.c1.up (.cells #[.string s1] 9)
  exact ⟨⟨c.r1, c.r2, c.r3, c.z, fun e => (by cases e), fun _ => ⟨_, rfl, Blk.new W _ _, h.hb⟩⟩, h.c2.up _,
    Ap.new h.t1 newBlock, h.a2, h.a3, (Ap.new h.t3 newBlock).symm, (Ap.new h.t4 newBlock).symm, h.a6, h.t1.mono hs, ltNew _, h.t3.mono hs, h.t4.mono hs, h.gr.alloc (by have := h.hb; omega) _, h.res.alloc _, by have := h.hb; omega⟩

theorem WJ.grown (h : WJ V rb tb arr l1 s1 l2 s2 k1 k2 b1 b2 v1 u1 v2 u2 W) (hk : k1 = 1 ∨ k1 = 2) (hk' : k' = 2 ∨ k' = 3) (h2 : k' = 2 → W'.ownsRow (rb + 1) 9 1 v' l1.length (tcl l1)) (h3 : k' = 3 → W'.ownsRow (rb + 1) 9 1 v' (l1.length + 1) (tcl l1 ++ [.string s1]))
    (hg : W.grownBy W' v1.ownBlock) (hat : v'.ownBlock = v1.ownBlock ∨ v'.ownBlock = some W.heap.size) : WJ V rb tb arr l1 s1 l2 s2 k' k2 b1 b2 v' u1 v2 u2 W' := by
  have hs := hg.size
  have hrow : ∀ g, v1.ownBlock = some g → rb + 1 ≤ g := fun g e => by
    rcases hk with e1 | e1
    · exact ((h.c1.r1 e1).lt g e).1
    · exact ((h.c1.r2 e1).lt g e).1
  have hlt : Lt0 v' W' := fun g e => by
    rcases hk' with e1 | e1
    · exact ((h2 e1).lt g e).2
    · exact ((h3 e1).lt g e).2
  exact ⟨⟨fun e => by omega, h2, h3, fun e => by omega, h.c1.bz, fun e => by
      obtain ⟨g, e1, e2, e4⟩ := h.c1.b e
      exact ⟨g, e1, e2.kept hg (fun e3 => h.a1 g e3.symm (by rw [e1]; rfl)), e4⟩⟩, h.c2.kept hg h.a2.symm h.a3.symm,
    (h.a1.symm.grown h.t2 hat).symm, (h.a2.symm.grown h.t3 hat).symm, (h.a3.symm.grown h.t4 hat).symm, h.a4, h.a5, h.a6, hlt, h.t2.mono hs, h.t3.mono hs, h.t4.mono hs,
    h.gr.grown hg (by have := h.hb; omega) (fun k e => by have := hrow k e; omega), h.res.kept hg (fun e => by have := hrow rb e.symm; omega), by have := h.hb; omega⟩

theorem Chn.far {base : Nat} {ls : List ByteArray} {s : ByteArray} {k : Nat} {bx : Bool} {v u : Value} {W : World} {g c d : Nat} (h : Chn base ls s k bx v u W) (hk : k = 3) (hg : g < base) : Ap v (.slice (some ⟨g, 0, none⟩) c d) ∧ (bx = true → Ap u (.slice (some ⟨g, 0, none⟩) c d)) ∧ (bx = false → Ap u (.slice (some ⟨g, 0, none⟩) c d)) := by
  refine ⟨fun x e e2 => ?_, fun hb x e e2 => ?_, fun hb x e => ?_⟩
  · have := ((h.r3 hk).lt x e).1; simp [Value.ownBlock] at e2; omega
  · obtain ⟨y, e3, _, e4⟩ := h.b hb
    rw [e3] at e; simp [Value.ownBlock] at e e2; omega
  · rw [h.bz hb] at e; simp [undef, Value.ownBlock] at e

theorem Chn.far2 {base : Nat} {ls : List ByteArray} {s : ByteArray} {k : Nat} {bx : Bool} {v u : Value} {W : World} {g c d : Nat} (h : Chn base ls s k bx v u W) (hk : k = 3) (hg : g < base) : Ap u (.slice (some ⟨g, 0, none⟩) c d) := by
  cases bx
  · exact (h.far hk hg).2.2 rfl
  · exact (h.far hk hg).2.1 rfl

/-- What is stored into the result. -/
theorem WJ.put (h : WJ V rb tb arr l1 s1 l2 s2 3 3 b1 b2 v1 u1 v2 u2 W) (a b : Value) : WJ V rb tb ((arr.setIfInBounds 0 a).setIfInBounds 1 b) l1 s1 l2 s2 3 3 b1 b2 v1 u1 v2 u2 ((W.setCell ⟨rb, 0, none⟩ a).setCell ⟨rb, 1, none⟩ b) := by
  have hs : ((W.setCell ⟨rb, 0, none⟩ a).setCell ⟨rb, 1, none⟩ b).heap.size = W.heap.size := by rw [size_setCell, size_setCell]
  have hb1 : Below rb W ((W.setCell ⟨rb, 0, none⟩ a).setCell ⟨rb, 1, none⟩ b) := ((Below.refl rb W).setCell (p := ⟨rb, 0, none⟩) (Nat.le_refl rb) a).setCell (p := ⟨rb, 1, none⟩) (Nat.le_refl rb) b
  have hg : W.grownBy ((W.setCell ⟨rb, 0, none⟩ a).setCell ⟨rb, 1, none⟩ b) (Value.slice (some ⟨rb, 0, none⟩) 0 0).ownBlock := ⟨hb1.os, hb1.tape, hb1.output, hb1.size, fun i _ hne => by
    have hi : i ≠ rb := fun e => hne (by rw [e]; rfl)
    exact (Below.heap_setCell _ _ _ i hi).trans (Below.heap_setCell _ _ _ i hi)⟩
  exact ⟨h.c1.kept hg (h.c1.far rfl (Nat.lt_succ_self _)).1 (h.c1.far2 rfl (Nat.lt_succ_self _)), h.c2.kept hg (h.c2.far rfl (Nat.lt_succ_self _)).1 (h.c2.far2 rfl (Nat.lt_succ_self _)),
    h.a1, h.a2, h.a3, h.a4, h.a5, h.a6, h.t1.mono (Nat.le_of_eq hs.symm), h.t2.mono (Nat.le_of_eq hs.symm), h.t3.mono (Nat.le_of_eq hs.symm), h.t4.mono (Nat.le_of_eq hs.symm), h.gr.trans hb1, (h.res.set 0 a).set 1 b, by rw [hs]; exact h.hb⟩
end

theorem step_appL {P : Program} {w : World} (sz : Nat) (hsz0 : 0 < sz) {ops : Array Oper} {o : Oper} {a : Act} {K : Act → World → Prop} {Q : Exit → Act → World → Prop} {E : Prop} (hgd : o.guard = none) (s x : Operand) (t : TypeId)
    (ho : o.op = .call { callee := .builtin .append, args := #[s, x], argTypes := #[t, t] })
    (base : Nat) (e : TypeId) (i : TypeInfo) (z : Value) (bytes : Nat) (ht : P.underlying t = some (.slice e)) (hi : P.info? e = some i) (hz : i.zero = some z)
    (hsize : i.size = sz) (hby : i.bytes = bytes) (hzs : z.cells.size = sz)
    (v : Value) (n : Nat) (xs : List Value) (hs : a.eval s = v) (hown : w.ownsRow base e sz v n xs)
    (A : Option Addr) (m c : Nat) (news : List Value) (hx : a.eval x = .slice A m c) (hsrc : SrcZ sz w A m news) (h1 : ∀ u ∈ news, u.oneCell' = true)
    (h63 : n + m ≤ maxLen) (hbytes : (n + m) * bytes ≤ 140737488355328) (hbase : base ≤ w.heap.size)
    (h : ∀ v' w', w'.ownsRow base e sz v' (n + m) (xs ++ news) → w.grownBy w' v.ownBlock → (v'.ownBlock = v.ownBlock ∨ v'.ownBlock = some w.heap.size) → K (a.put o.dst v') w') :
    if Region.wanted o (yielded ops a.tmps) = true then Oper.wp P o a w K Q else E := by
  have hw : Region.wanted o (yielded ops a.tmps) = true := by simp [Region.wanted, hgd]
  rw [if_pos hw]
  obtain ⟨hl, hc, hn⟩ := hsrc
  cases A with
  | none =>
    have hm := hn rfl
    subst hm
    have hnil : news = [] := List.eq_nil_of_length_eq_zero (by simpa using hl)
    subst hnil
    have hrun := run_app_none (P := P) base t o.type e i sz ht hi v n c xs hown
    unfold Oper.wp execOp
    simp only [ho, resolve, invoke, builtin, Sem.run_bind, Sem.run_pure, Result.andThen_ok, List.map_toArray, List.map_cons, List.map_nil, hs, hx, hrun]
    exact h v w (by simpa using hown) (World.grownBy.refl w _) (.inl rfl)
  | some ad =>
    obtain ⟨v', w', hr, h2, h3, _, h5⟩ := run_append_own_at (P := P) w base t o.type e i z sz bytes ht hi hz hsize hby hzs hsz0 v n xs hown ad m c news hl (hc ad rfl) h1 h63 hbytes hbase
    unfold Oper.wp execOp
    simp only [ho, resolve, invoke, builtin, Sem.run_bind, Sem.run_pure, Result.andThen_ok, List.map_toArray, List.map_cons, List.map_nil, hs, hx, hr]
    exact h v' w' h2 h3 h5

theorem IsTexts.src {w : World} {lo hi n c : Nat} {A : Option Addr} {ls : List ByteArray} (h : IsTexts w lo hi A n c ls) : SrcZ 1 w A n (tcl ls) := by
  refine ⟨by unfold tcl; rw [List.length_map, h.1, Nat.mul_one], fun ad hA j u hu => ?_, fun hA => ?_⟩
  · subst hA; exact h.cells j u hu
  · rcases Nat.eq_zero_or_pos n with h0 | h0
    · exact h0
    · obtain ⟨p, hp, _⟩ := h.2.2.2 h0; rw [hA] at hp; cases hp

/-- A whole row, read. -/
theorem texts_row {W : World} {base n : Nat} {v : Value} {ls : List ByteArray} {s : ByteArray} (h : W.ownsRow base 9 1 v (ls.length + 1) (tcl ls ++ [.string s])) {lo : Nat} (hlo : lo ≤ base) (hn : n = ls.length + 1) : ∃ p c, v = .slice (some p) n c ∧ IsTexts W lo W.heap.size (some p) n c (ls ++ [s]) := by
  have e : tcl ls ++ [.string s] = tcl (ls ++ [s]) := by unfold tcl; simp
  rw [e] at h
  obtain ⟨p, c, e1, e2⟩ := texts_own h (by omega) hlo
  have e3 : (ls ++ [s]).length = n := by rw [List.length_append, hn]; rfl
  rw [e3] at e1 e2
  exact ⟨p, c, e1, e2⟩



set_option maxRecDepth 100000 in
set_option maxHeartbeats 8000000 in
theorem l4With_any (A B : Option Addr) (n c m d : Nat) (b : Bd) (x y : ByteArray) (w : World) (h : IsTexts w 0 w.heap.size A n c (b.map (·.1))) (h' : IsTexts w 0 w.heap.size B m d (b.map (·.2))) (hb : b.length ≤ 1048576) :
    Calls Tryz.prog 168 #[.agg #[.slice A n c, .slice B m d], .string x, .string y] w fun e w' => ∃ A' n' c' B' m' d', e = .returned (.agg #[.slice A' n' c', .slice B' m' d']) ∧ IsTexts w' w.heap.size w'.heap.size A' n' c' ((b ++ [(x, y)]).map (·.1)) ∧ IsTexts w' w.heap.size w'.heap.size B' m' d' ((b ++ [(x, y)]).map (·.2)) ∧ Below w.heap.size w w' := by
  have h1 := Lib.hid (show n = b.length by rw [← h.1, List.length_map])
  have h2 := Lib.hid (show m = b.length by rw [← h'.1, List.length_map])
  have H := Lib.hid h; have H' := Lib.hid h'; clear h h'
  obtain ⟨i0, hi, hz, hsz, hby⟩ := info_parts Tryz.infoText
  have hw1 := below2 w (.cells #[.slice A n c, .slice B m d] 128) (.cells #[.slice none 0 0, .slice none 0 0] 128)
  have X0 := ((Box.new w (.slice A n c) (.slice B m d) 128).up (.cells #[.slice none 0 0, .slice none 0 0] 128))
  have R0 := Blk.new (w.alloc (.cells #[.slice A n c, .slice B m d] 128)) 128 #[.slice none 0 0, .slice none 0 0]
  go_enter Tryz.func168, Tryz.ntmps168
  go_wp2_with fail
  obtain ⟨V, hV⟩ : ∃ V, ((w.alloc (.cells #[.slice A n c, .slice B m d] 128)).alloc (.cells #[.slice none 0 0, .slice none 0 0] 128)).drew = V := ⟨_, rfl⟩
  refine wp_region_held_drew (S := fun W => W.cell? ⟨w.heap.size, 0, none⟩ = some (.slice A n c) ∧ W.cell? ⟨w.heap.size, 1, none⟩ = some (.slice B m d)) (by kernel_rfl) ?_ ?_
  · exact ⟨X0.2.1, X0.2.2⟩
  rw [hV]
  intro hS_
  refine tk 1 (.pointer (some ⟨w.heap.size, 0, none⟩)) hS_ ?_
  refine tk 2 (.slice A n c) hS_ ?_
  refine tk 4 (.string x) hS_ ?_
  refine tk 8 (.pointer (some ⟨w.heap.size, 1, none⟩)) hS_ ?_
  refine tk 9 (.slice B m d) hS_ ?_
  refine tk 11 (.string y) hS_ ?_
  obtain ⟨bn, hbn⟩ : ∃ z, b.map (·.1) = z := ⟨_, rfl⟩
  obtain ⟨bv, hbv⟩ : ∃ z, b.map (·.2) = z := ⟨_, rfl⟩
  have ln : bn.length = b.length := by rw [← hbn, List.length_map]
  have lv : bv.length = b.length := by rw [← hbv, List.length_map]
  rw [hbn] at H
  rw [hbv] at H'
  have HBN := Lib.hid hbn
  have HBV := Lib.hid hbv
  clear hbn hbv
  have J0 : WJ V (w.heap.size + 1) 128 #[.slice none 0 0, .slice none 0 0] bn x bv y 0 0 false false undef undef undef undef V := by
    have u0 : ∀ g, undef.ownBlock = some g → False := fun g e => by simp [undef, Value.ownBlock] at e
    refine ⟨⟨fun e => by omega, fun e => by omega, fun e => by omega, fun _ => rfl, fun _ => rfl, fun e => by cases e⟩, ⟨fun e => by omega, fun e => by omega, fun e => by omega, fun _ => rfl, fun _ => rfl, fun e => by cases e⟩, Ap.undef _, Ap.undef _, Ap.undef _, Ap.undef _, Ap.undef _, Ap.undef _, fun g e => (u0 g e).elim, fun g e => (u0 g e).elim, fun g e => (u0 g e).elim, fun g e => (u0 g e).elim, Below.refl _ _, ?_, ?_⟩
    · rw [← hV]; have h := R0; rw [show (w.alloc (.cells #[.slice A n c, .slice B m d] 128)).heap.size = w.heap.size + 1 by simp] at h; exact h
    · rw [← hV]; show w.heap.size + 1 + 1 ≤ ((w.alloc _).alloc _).heap.size; simp
  have hVw : Below w.heap.size w V := by rw [← hV]; exact hw1.drew
  have bel : ∀ W, Below (w.heap.size + 1) V W → Below w.heap.size w W := fun W hb => hVw.trans (hb.mono (Nat.le_succ _))
  have HVS := Lib.hid hS_
  clear hV hS_ X0 R0
  have SN : Hid (∀ W, Below w.heap.size w W → SrcZ 1 W A n (tcl bn)) := Lib.hid (fun W hb => IsTexts.src (H.out.below TextE.stays hb (Nat.le_refl _)))
  have SM : Hid (∀ W, Below w.heap.size w W → SrcZ 1 W B m (tcl bv)) := Lib.hid (fun W hb => IsTexts.src (H'.out.below TextE.stays hb (Nat.le_refl _)))
  refine wpAnyH_inv (I := fun (L : Array Bool) (a : Act) (W : World) => ∃ (k1 k2 : Nat) (f5 f12 l14 l15 : Bool) (x7 x10 x13 x14 x17 x20 x21 v1 v2 x12 x19 : Value) (arr : Array Value), L = #[decide (1 ≤ k1), true, true, decide (2 ≤ k1), true, f5, decide (3 ≤ k1), decide (1 ≤ k2), true, true, decide (2 ≤ k2), true, f12, decide (3 ≤ k2), l14, l15] ∧ a = ⟨#[.agg #[.slice A n c, .slice B m d], .string x, .string y, .pointer (some ⟨w.heap.size, 0, none⟩), undef, undef, .pointer (some ⟨w.heap.size + 1, 0, none⟩), x7, .pointer (some ⟨w.heap.size, 0, none⟩), .slice A n c, x10, .string x, x12, x13, x14, .pointer (some ⟨w.heap.size, 1, none⟩), .slice B m d, x17, .string y, x19, x20, x21], []⟩ ∧ (k1 = 1 → x7 = v1) ∧ (k1 = 2 → x10 = v1) ∧ (k1 = 3 → x13 = v1) ∧ (k2 = 1 → x14 = v2) ∧ (k2 = 2 → x17 = v2) ∧ (k2 = 3 → x20 = v2) ∧ k1 ≤ 3 ∧ k2 ≤ 3 ∧ (l14 = true → x21 = .agg #[v1, v2] ∧ k1 = 3 ∧ k2 = 3) ∧ (l15 = true → l14 = true) ∧ arr = (if l15 = true then #[v1, v2] else #[.slice none 0 0, .slice none 0 0]) ∧ WJ V (w.heap.size + 1) 128 arr bn x bv y k1 k2 f5 f12 v1 x12 v2 x19 W) ?keep ?step ?fin _ _ _ _ ?lf ⟨0, 0, false, false, false, false, undef, undef, undef, undef, undef, undef, undef, undef, undef, undef, undef, _, rfl, rfl, fun e => by omega, fun e => by omega, fun e => by omega, fun e => by omega, fun e => by omega, fun e => by omega, by omega, by omega, fun e => (by cases e), fun e => (by cases e), rfl, J0⟩
  case lf => decide
  case keep =>
    rintro L a W ⟨k1, k2, f5, f12, l14, l15, x7, x10, x13, x14, x17, x20, x21, v1, v2, x12, x19, arr, -, -, -, -, -, -, -, -, -, -, -, -, -, J⟩
    exact ⟨(J.gr.cell (p := ⟨w.heap.size, 0, none⟩) (Nat.lt_succ_self _)).trans HVS.out.1, (J.gr.cell (p := ⟨w.heap.size, 1, none⟩) (Nat.lt_succ_self _)).trans HVS.out.2⟩
  case step =>
    rintro L a W i o ⟨k1, k2, f5, f12, l14, l15, x7, x10, x13, x14, x17, x20, x21, v1, v2, x12, x19, arr, rfl, rfl, e7, e10, e13, e14, e17, e20, hk1, hk2, e21, e15, rfl, J⟩ ho h0 hd K hK
    have hi16 : i < 16 := by have := (Array.getElem?_eq_some_iff.1 ho).1; exact this
    have hii : i = 0 ∨ i = 1 ∨ i = 2 ∨ i = 3 ∨ i = 4 ∨ i = 5 ∨ i = 6 ∨ i = 7 ∨ i = 8 ∨ i = 9 ∨ i = 10 ∨ i = 11 ∨ i = 12 ∨ i = 13 ∨ i = 14 ∨ i = 15 := by omega
    have l15f : l14 = false → l15 = false := fun e => by cases l15 with | false => rfl | true => have := e15 rfl; rw [e] at this; cases this
    have l14k : ∀ {j : Nat}, (k1 = 3 → k2 = 3 → False) → l14 = false := fun hj => by cases l14 with | false => rfl | true => exact (hj (e21 rfl).2.1 (e21 rfl).2.2).elim
    rcases hii with rfl | rfl | rfl | rfl | rfl | rfl | rfl | rfl | rfl | rfl | rfl | rfl | rfl | rfl | rfl | rfl
    all_goals (injection ho with ho; subst ho)
    · have hk : k1 = 0 := by simp at h0; omega
      subst hk
      have l14f := l14k (j := 0) (fun a b => by omega)
      have l15g := l15f l14f
      subst l14f; subst l15g
      rw [if_pos (by rfl)]
      go_simp
      refine hK.out _ _ ⟨1, k2, f5, f12, false, false, (.slice (some ⟨W.heap.size, 0, none⟩) 0 0), x10, x13, x14, x17, x20, x21, (.slice (some ⟨W.heap.size, 0, none⟩) 0 0), v2, x12, x19, _, rfl, rfl, fun _ => rfl, fun e => by omega, fun e => by omega, e14, e17, e20, by omega, by omega, fun e => (by cases e), e15, rfl, ?_⟩
      exact J.made
    · simp at h0
    · simp at h0
    · have d0 := hd ⟨0, .data⟩ (by simp) rfl
      have hk : k1 = 1 := by simp at h0 d0; omega
      subst hk
      have l14f := l14k (j := 0) (fun a b => by omega)
      have l15g := l15f l14f
      subst l14f; subst l15g
      have hx := e7 rfl
      subst hx
      refine step_appL 1 (by omega) (by rfl) _ _ _ (by rfl) (w.heap.size + 1 + 1) 9 i0 _ 16 Tryz.underlying42 hi hz hsz hby rfl x7 0 [] (by rfl) (J.c1.r1 rfl) A n c (tcl bn) (by rfl) (SN.out _ (bel _ J.gr)) (tcl_one _) (by have := h1.out; have := h2.out; unfold maxLen; omega) (by have := h1.out; have := h2.out; omega) J.hb ?_
      intro v9 W9 hown hgrow hat
      have hJ := J.grown (k' := 2) (.inl rfl) (.inl rfl) (fun _ => by rw [Nat.zero_add, List.nil_append, h1.out, ← ln] at hown; exact hown) (fun e => by omega) hgrow hat
      refine hK.out _ _ ⟨2, k2, f5, f12, false, false, x7, v9, x13, x14, x17, x20, x21, v9, v2, x12, x19, _, rfl, rfl, fun e => by omega, fun _ => rfl, fun e => by omega, e14, e17, e20, by omega, by omega, fun e => (by cases e), e15, rfl, hJ⟩
    · simp at h0
    · have hf : f5 = false := by simpa using h0
      subst hf
      rw [if_pos (by rfl)]
      go_simp
      refine hK.out _ _ ⟨k1, k2, true, f12, l14, l15, x7, x10, x13, x14, x17, x20, x21, v1, v2, (.slice (some ⟨W.heap.size, 0, none⟩) 1 1), x19, _, rfl, rfl, e7, e10, e13, e14, e17, e20, hk1, hk2, e21, e15, rfl, ?_⟩
      exact J.boxed
    · have d0 := hd ⟨3, .data⟩ (by simp) rfl
      have d1 := hd ⟨5, .data⟩ (by simp) rfl
      have hk : k1 = 2 := by simp at h0 d0; omega
      have hf : f5 = true := by simpa using d1
      subst hk; subst hf
      have l14f := l14k (j := 0) (fun a b => by omega)
      have l15g := l15f l14f
      subst l14f; subst l15g
      have hx := e10 rfl
      subst hx
      obtain ⟨gb, rfl, hB, -⟩ := J.c1.b rfl
      refine step_appL 1 (by omega) (by rfl) _ _ _ (by rfl) (w.heap.size + 1 + 1) 9 i0 _ 16 Tryz.underlying42 hi hz hsz hby rfl x10 _ _ (by rfl) (J.c1.r2 rfl) (some ⟨gb, 0, none⟩) 1 1 [.string x] (by rfl) (srcOne1 _ _ _ _ hB) (by simp [Value.oneCell']) (by unfold maxLen; omega) (by omega) J.hb ?_
      intro v9 W9 hown hgrow hat
      have hJ := J.grown (k' := 3) (.inr rfl) (.inr rfl) (fun e => by omega) (fun _ => hown) hgrow hat
      refine hK.out _ _ ⟨3, k2, true, f12, false, false, x7, x10, v9, x14, x17, x20, x21, v9, v2, _, x19, _, rfl, rfl, fun e => by omega, fun e => by omega, fun _ => rfl, e14, e17, e20, by omega, by omega, fun e => (by cases e), e15, rfl, hJ⟩
    · have hk : k2 = 0 := by simp at h0; omega
      subst hk
      have l14f := l14k (j := 0) (fun a b => by omega)
      have l15g := l15f l14f
      subst l14f; subst l15g
      rw [if_pos (by rfl)]
      go_simp
      refine hK.out _ _ ⟨k1, 1, f5, f12, false, false, x7, x10, x13, (.slice (some ⟨W.heap.size, 0, none⟩) 0 0), x17, x20, x21, v1, (.slice (some ⟨W.heap.size, 0, none⟩) 0 0), x12, x19, _, rfl, rfl, e7, e10, e13, fun _ => rfl, fun e => by omega, fun e => by omega, by omega, by omega, fun e => (by cases e), e15, rfl, ?_⟩
      exact J.swap.made.swap
    · simp at h0
    · simp at h0
    · have d0 := hd ⟨7, .data⟩ (by simp) rfl
      have hk : k2 = 1 := by simp at h0 d0; omega
      subst hk
      have l14f := l14k (j := 0) (fun a b => by omega)
      have l15g := l15f l14f
      subst l14f; subst l15g
      have hx := e14 rfl
      subst hx
      refine step_appL 1 (by omega) (by rfl) _ _ _ (by rfl) (w.heap.size + 1 + 1) 9 i0 _ 16 Tryz.underlying42 hi hz hsz hby rfl x14 0 [] (by rfl) (J.swap.c1.r1 rfl) B m d (tcl bv) (by rfl) (SM.out _ (bel _ J.gr)) (tcl_one _) (by have := h1.out; have := h2.out; unfold maxLen; omega) (by have := h1.out; have := h2.out; omega) J.hb ?_
      intro v9 W9 hown hgrow hat
      have hJ := J.swap.grown (k' := 2) (.inl rfl) (.inl rfl) (fun _ => by rw [Nat.zero_add, List.nil_append, h2.out, ← lv] at hown; exact hown) (fun e => by omega) hgrow hat
      refine hK.out _ _ ⟨k1, 2, f5, f12, false, false, x7, x10, x13, x14, v9, x20, x21, v1, v9, x12, x19, _, rfl, rfl, e7, e10, e13, fun e => by omega, fun _ => rfl, fun e => by omega, by omega, by omega, fun e => (by cases e), e15, rfl, hJ.swap⟩
    · simp at h0
    · have hf : f12 = false := by simpa using h0
      subst hf
      rw [if_pos (by rfl)]
      go_simp
      refine hK.out _ _ ⟨k1, k2, f5, true, l14, l15, x7, x10, x13, x14, x17, x20, x21, v1, v2, x12, (.slice (some ⟨W.heap.size, 0, none⟩) 1 1), _, rfl, rfl, e7, e10, e13, e14, e17, e20, hk1, hk2, e21, e15, rfl, ?_⟩
      exact J.swap.boxed.swap
    · have d0 := hd ⟨10, .data⟩ (by simp) rfl
      have d1 := hd ⟨12, .data⟩ (by simp) rfl
      have hk : k2 = 2 := by simp at h0 d0; omega
      have hf : f12 = true := by simpa using d1
      subst hk; subst hf
      have l14f := l14k (j := 0) (fun a b => by omega)
      have l15g := l15f l14f
      subst l14f; subst l15g
      have hx := e17 rfl
      subst hx
      obtain ⟨gb, rfl, hB, -⟩ := J.swap.c1.b rfl
      refine step_appL 1 (by omega) (by rfl) _ _ _ (by rfl) (w.heap.size + 1 + 1) 9 i0 _ 16 Tryz.underlying42 hi hz hsz hby rfl x17 _ _ (by rfl) (J.swap.c1.r2 rfl) (some ⟨gb, 0, none⟩) 1 1 [.string y] (by rfl) (srcOne1 _ _ _ _ hB) (by simp [Value.oneCell']) (by unfold maxLen; omega) (by omega) J.hb ?_
      intro v9 W9 hown hgrow hat
      have hJ := J.swap.grown (k' := 3) (.inr rfl) (.inr rfl) (fun e => by omega) (fun _ => hown) hgrow hat
      refine hK.out _ _ ⟨k1, 3, f5, true, false, false, x7, x10, x13, x14, x17, v9, x21, v1, v9, x12, _, _, rfl, rfl, e7, e10, e13, fun e => by omega, fun e => by omega, fun _ => rfl, by omega, by omega, fun e => (by cases e), e15, rfl, hJ.swap⟩
    · have d0 := hd ⟨6, .data⟩ (by simp) rfl
      have d1 := hd ⟨13, .data⟩ (by simp) rfl
      have hk : k1 = 3 := by simp at d0; omega
      have hk2 : k2 = 3 := by simp at d1; omega
      have hl : l14 = false := by simpa using h0
      have l15g := l15f hl
      subst hk; subst hk2; subst hl; subst l15g
      have hx := e13 rfl
      have hy := e20 rfl
      subst hx; subst hy
      obtain ⟨p1, c1, q1, -⟩ := texts_row (n := b.length + 1) (J.c1.r3 rfl) (Nat.zero_le _) (by omega)
      obtain ⟨p2, c2, q2, -⟩ := texts_row (n := b.length + 1) (J.c2.r3 rfl) (Nat.zero_le _) (by omega)
      subst q1; subst q2
      clear hd h0
      rw [if_pos (by rfl)]
      go_simp
      refine hK.out _ _ ⟨3, 3, f5, f12, true, false, x7, x10, _, x14, x17, _, _, _, _, x12, x19, _, rfl, rfl, e7, e10, fun _ => rfl, e14, e17, fun _ => rfl, by omega, by omega, fun _ => ⟨rfl, rfl, rfl⟩, fun e => (by cases e), rfl, J⟩
    · have d0 := hd ⟨14, .data⟩ (by simp) rfl
      have hl : l14 = true := by simpa using d0
      have hl2 : l15 = false := by simpa using h0
      subst hl; subst hl2
      obtain ⟨hx, hk, hk2⟩ := e21 rfl
      subst hx; subst hk; subst hk2
      obtain ⟨p1, c1, q1, -⟩ := texts_row (n := b.length + 1) (J.c1.r3 rfl) (Nat.zero_le _) (by omega)
      obtain ⟨p2, c2, q2, -⟩ := texts_row (n := b.length + 1) (J.c2.r3 rfl) (Nat.zero_le _) (by omega)
      subst q1; subst q2
      clear hd h0
      have r2 : W.cell? ⟨w.heap.size + 1, 0, none⟩ = some (.slice none 0 0) := J.res.cell 0
      have r3 : W.cell? ⟨w.heap.size + 1, 1, none⟩ = some (.slice none 0 0) := J.res.cell 1
      have r4 := J.res.frozen 0
      have r5 := J.res.frozen 1
      rw [if_pos (by rfl)]
      go_simp
      refine hK.out _ _ ⟨3, 3, f5, f12, true, true, x7, x10, _, x14, x17, _, _, _, _, x12, x19, _, rfl, rfl, e7, e10, fun _ => rfl, e14, e17, fun _ => rfl, by omega, by omega, fun _ => ⟨rfl, rfl, rfl⟩, fun _ => rfl, rfl, ?_⟩
      exact J.put _ _
  case fin =>
    rintro L a W ⟨k1, k2, f5, f12, l14, l15, x7, x10, x13, x14, x17, x20, x21, v1, v2, x12, x19, arr, rfl, rfl, e7, e10, e13, e14, e17, e20, hk1, hk2, e21, e15, rfl, J⟩ hr
    have up := all_up (by kernel_rfl) rfl hr
    have hl : l15 = true := up 15 (by decide)
    subst hl
    obtain ⟨hx, hk, hk2⟩ := e21 (e15 rfl)
    subst hx; subst hk; subst hk2
    have hx := e13 rfl
    have hy := e20 rfl
    subst hx; subst hy
    obtain ⟨p1, c1, q1, i1⟩ := texts_row (n := b.length + 1) (lo := w.heap.size) (J.c1.r3 rfl) (by omega) (by omega)
    obtain ⟨p2, c2, q2, i2⟩ := texts_row (n := b.length + 1) (lo := w.heap.size) (J.c2.r3 rfl) (by omega) (by omega)
    subst q1; subst q2
    have r2 : W.cell? ⟨w.heap.size + 1, 0, none⟩ = some (.slice (some p1) (b.length + 1) c1) := J.res.cell 0
    have r3 : W.cell? ⟨w.heap.size + 1, 1, none⟩ = some (.slice (some p2) (b.length + 1) c2) := J.res.cell 1
    have hgr := Lib.hid (bel _ J.gr)
    clear J up hr
    have K1 := Lib.hid i1
    have K2 := Lib.hid i2
    clear i1 i2
    go_wp2
    refine bodyPost_ret (v := .agg #[.slice (some p1) (b.length + 1) c1, .slice (some p2) (b.length + 1) c2]) (by simp [results, Tryz.results168, go_sem, r2, r3]) rfl ⟨_, _, _, _, _, _, rfl, by rw [HBN.out]; exact K1.out, by rw [HBV.out]; exact K2.out, hgr.out⟩

end Go.Proofs.YtcigljngiemdeaaGreat
