/-
  Texts of one claim, put together.
-/
import Derived.Test.YtcigljngiemdeaaGreatAo0
import Derived.Deep.RegionHeld
import Derived.Test.YtcigljngiemdeaaGreatAo39
import Derived.Test.YtcigljngiemdeaaGreatAo1
set_option maxRecDepth 100000
set_option maxHeartbeats 8000000
namespace Go.Proofs.YtcigljngiemdeaaGreat
open Go
section
variable {P : Program} {ops : Array Oper} {Q : Exit → Act → World → Prop} {md : Region.Mode} {S : World → Prop}
def leftN (L : Array Bool) : Nat := L.toList.count false
theorem left_set {L : Array Bool} {i : Nat} (h : L.getD i true = false) : leftN (L.setIfInBounds i true) + 1 = leftN L := by
  rcases Nat.lt_or_ge i L.size with hi | hi
  · have hg : L[i] = false := by simpa [hi] using h
    unfold leftN; have hl : i < L.toList.length := by simpa using hi
    have hg2 : L.toList[i] = false := by simpa using hg
    have hpos : 0 < L.toList.count false := List.count_pos_iff.2 (by rw [← hg2]; exact List.getElem_mem hl); have e1 : (if (false == false) = true then 1 else 0) = 1 := rfl; have e2 : (if (true == false) = true then 1 else 0) = 0 := rfl; rw [Array.toList_setIfInBounds, List.count_set hl, hg2, e1, e2]; omega
  · simp [Array.getElem?_eq_none hi] at h
theorem wpAnyH_inv (I : Array Bool → Act → World → Prop) (hS : ∀ L a w, I L a w → S w)
    (step : ∀ L a w i o, I L a w → ops[i]? = some o → L.getD i true = false → (∀ e ∈ o.after, Region.binds md e = true → L.getD e.on false = true) →
      ∀ K : Act → World → Prop, Shut (∀ a' w', I (L.setIfInBounds i true) a' w' → K a' w') → if Region.wanted o (yielded ops a.tmps) = true then Oper.wp P o a w K Q else K (a.put o.dst undef) w)
    (fin : ∀ L a w, I L a w → Region.ready md ops L = [] → Q .normal a w) :
    ∀ (fuel : Nat) (L : Array Bool) (a : Act) (w : World), leftN L ≤ fuel → I L a w → wpAnyH P md ops Q S fuel L a w
  | 0, L, a, w, hl, hI => by
    have hr : Region.ready md ops L = [] := by
      rw [List.eq_nil_iff_forall_not_mem]; intro i hi; have := left_set (mem_ready.1 hi).1; omega
    exact ⟨hr, fin L a w hI hr⟩
  | fuel + 1, L, a, w, hl, hI => by
    refine ⟨fun hr => fin L a w hI hr, fun i hi => ?_⟩; obtain ⟨h0, o, ho, hd⟩ := mem_ready.1 hi; have hc := left_set h0; exact wpOp_step ho fun K' hK => step L a w i o hI ho h0 hd K' (fun a' w' hI' => hK a' w' ⟨hS _ _ _ hI', wpAnyH_inv I hS step fin fuel _ a' w' qaa hI'⟩)
def backB (ops : Array Oper) : Bool := (List.range ops.size).all fun i => match ops[i]? with | some o => o.after.all fun e => decide (e.on < i) | none => true
theorem all_up {L : Array Bool} (hb : backB ops = true) (hs : L.size = ops.size) (hr : Region.ready md ops L = []) : ∀ (i : Nat), i < ops.size → L.getD i false = true := by
  intro i
  induction i using Nat.strongRecOn with
  | _ i ih =>
    intro hi
    cases hL : L.getD i false with
    | true => rfl
    | false =>
      exfalso; have hil : i < L.size := qaa; have ho : ops[i]? = some ops[i] := Array.getElem?_eq_getElem hi; have hall := List.all_eq_true.1 hb i (List.mem_range.2 hi); simp only [ho] at hall
      have hm : i ∈ Region.ready md ops L := mem_ready.2 ⟨by simp [hil] at hL ⊢; exact hL, _, ho, fun e he _ => ih e.on (by
        have := Array.all_eq_true_iff_forall_mem.1 hall e he; simpa using this) (by
        have := Array.all_eq_true_iff_forall_mem.1 hall e he; have h2 : e.on < i := by simpa using this
        omega)⟩
      rw [hr] at hm; cases hm
end
end Go.Proofs.YtcigljngiemdeaaGreat

namespace Go.Proofs.YtcigljngiemdeaaGreat
open Go.RowKit
structure Chn (base : Nat) (ls : List ByteArray) (s : ByteArray) (k : Nat) (bx : Bool) (v u : Value) (W : World) : Prop where
  r1 : k = 1 → W.ownsRow base 9 1 v 0 []
  r2 : k = 2 → W.ownsRow base 9 1 v ls.length (tcl ls)
  r3 : k = 3 → W.ownsRow base 9 1 v (ls.length + 1) (tcl ls ++ [.string s])
  z : k = 0 → v = undef
  bz : bx = false → u = undef
  b : bx = true → ∃ g, u = .slice (some ⟨g, 0, none⟩) 1 1 ∧ Blk W g 9 #[.string s] ∧ base ≤ g
def Ap (a b : Value) : Prop := ∀ g, a.ownBlock = some g → b.ownBlock ≠ some g
def Lt0 (a : Value) (W : World) : Prop := ∀ g, a.ownBlock = some g → g < W.heap.size
theorem Ap.symm {a b : Value} (h : Ap a b) : Ap b a := fun g h1 h2 => h g h2 h1
theorem Ap.undef (a : Value) : Ap undef a := fun g h => by simp [Go.undef, Value.ownBlock] at h
theorem Lt0.mono {a : Value} {W W' : World} (h : Lt0 a W) (hs : W.heap.size ≤ W'.heap.size) : Lt0 a W' := fun g e => Nat.lt_of_lt_of_le (h g e) hs
theorem Ap.new {a b : Value} {W : World} (h : Lt0 a W) (hb : ∀ g, b.ownBlock = some g → W.heap.size ≤ g) : Ap a b := fun g h1 h2 => by have := h g h1; have := hb g h2; omega
theorem Ap.grown {a v v' : Value} {W : World} (h : Ap a v) (hl : Lt0 a W) (hat : v'.ownBlock = v.ownBlock ∨ v'.ownBlock = some W.heap.size) : Ap a v' := fun g h1 h2 => by
  rcases hat with e | e
  · rw [e] at h2; exact h g h1 h2
  · rw [e] at h2; injection h2 with h2; have := hl g h1; omega
section
variable {base : Nat} {ls : List ByteArray} {s : ByteArray} {k : Nat} {bx : Bool} {v u x : Value} {W W' : World}
theorem Chn.kept (h : Chn base ls s k bx v u W) (hg : W.grownBy W' x.ownBlock) (h1 : Ap v x) (h2 : Ap u x) : Chn base ls s k bx v u W' := by
  have ne : v.ownBlock = none ∨ v.ownBlock ≠ x.ownBlock := by
    cases e : v.ownBlock with
    | none => exact .inl rfl
    | some g => exact .inr (fun e2 => h1 g e e2.symm)
  exact ⟨fun e => (h.r1 e).kept hg ne, fun e => (h.r2 e).kept hg ne, fun e => (h.r3 e).kept hg ne, h.z, h.bz, fun e => by
    obtain ⟨g, e1, e2, e4⟩ := h.b e; exact ⟨g, e1, e2.kept hg (fun e3 => h2 g (by rw [e1]; rfl) e3.symm), e4⟩⟩
theorem Chn.up (h : Chn base ls s k bx v u W) (o : Obj) : Chn base ls s k bx v u (W.alloc o) :=
  h.kept (x := .slice none 0 0) (grownBelow (below1 W o) _) (fun g _ e => by simp [Value.ownBlock] at e) (fun g _ e => by simp [Value.ownBlock] at e)
end
structure WJ (V : World) (rb : Nat) (tb : TypeId) (arr : Array Value) (l1 : List ByteArray) (s1 : ByteArray) (l2 : List ByteArray) (s2 : ByteArray) (k1 k2 : Nat) (b1 b2 : Bool) (v1 u1 v2 u2 : Value) (W : World) : Prop where
  c1 : Chn (rb + 1) l1 s1 k1 b1 v1 u1 W
  c2 : Chn (rb + 1) l2 s2 k2 b2 v2 u2 W
  a1 : Ap v1 u1
  a2 : Ap v1 v2
  a3 : Ap v1 u2
  a4 : Ap u1 v2
  a5 : Ap u1 u2
  a6 : Ap v2 u2
  t1 : Lt0 v1 W
  t2 : Lt0 u1 W
  t3 : Lt0 v2 W
  t4 : Lt0 u2 W
  gr : Below rb V W
  res : Blk W rb tb arr
  hb : rb + 1 ≤ W.heap.size
section
variable {w V W W' : World} {rb : Nat} {tb : TypeId} {arr : Array Value} {l1 l2 : List ByteArray} {s1 s2 : ByteArray} {k1 k2 k' : Nat} {b1 b2 : Bool} {v1 u1 v2 u2 v' : Value}
theorem WJ.swap (h : WJ V rb tb arr l1 s1 l2 s2 k1 k2 b1 b2 v1 u1 v2 u2 W) : WJ V rb tb arr l2 s2 l1 s1 k2 k1 b2 b1 v2 u2 v1 u1 W :=
  ⟨h.c2, h.c1, h.a6, h.a2.symm, h.a4.symm, h.a3.symm, h.a5.symm, h.a1, h.t3, h.t4, h.t1, h.t2, h.gr, h.res, h.hb⟩
theorem newBlock {W : World} {n c : Nat} : ∀ g, (Value.slice (some ⟨W.heap.size, 0, none⟩) n c).ownBlock = some g → W.heap.size ≤ g := fun g e => by simp [Value.ownBlock] at e; omega
theorem ltNew {W : World} {n c : Nat} (o : Obj) : Lt0 (.slice (some ⟨W.heap.size, 0, none⟩) n c) (W.alloc o) := fun g e => by simp [Value.ownBlock] at e; simp; omega
theorem WJ.made (h : WJ V rb tb arr l1 s1 l2 s2 0 k2 b1 b2 v1 u1 v2 u2 W) : WJ V rb tb arr l1 s1 l2 s2 1 k2 b1 b2 (.slice (some ⟨W.heap.size, 0, none⟩) 0 0) u1 v2 u2 (W.alloc (.cells #[] 9)) := by
  have hs : W.heap.size ≤ (W.alloc (.cells #[] 9)).heap.size := qad; have c := h.c1.up (.cells #[] 9)
  exact ⟨⟨fun _ => ⟨rfl, .inr ⟨W.heap.size, 0, #[], rfl, h.hb, heap_alloc_new W _, nl _, by unfold maxLen; omega, rfl, rfl⟩⟩, fun e => by omega, fun e => by omega, fun e => by omega, c.bz, c.b⟩, h.c2.up _,
    (Ap.new h.t2 newBlock).symm, (Ap.new h.t3 newBlock).symm, (Ap.new h.t4 newBlock).symm, h.a4, h.a5, h.a6, ltNew _, h.t2.mono hs, h.t3.mono hs, h.t4.mono hs, h.gr.alloc qeg _, h.res.alloc _, by have := h.hb; omega⟩
theorem WJ.boxed (h : WJ V rb tb arr l1 s1 l2 s2 k1 k2 false b2 v1 u1 v2 u2 W) : WJ V rb tb arr l1 s1 l2 s2 k1 k2 true b2 v1 (.slice (some ⟨W.heap.size, 0, none⟩) 1 1) v2 u2 (W.alloc (.cells #[.string s1] 9)) := by
  have hs : W.heap.size ≤ (W.alloc (.cells #[.string s1] 9)).heap.size := qad; have c := h.c1.up (.cells #[.string s1] 9)
  exact ⟨⟨c.r1, c.r2, c.r3, c.z, fun e => qam, fun _ => ⟨_, rfl, Blk.new W _ _, h.hb⟩⟩, h.c2.up _,
    Ap.new h.t1 newBlock, h.a2, h.a3, (Ap.new h.t3 newBlock).symm, (Ap.new h.t4 newBlock).symm, h.a6, h.t1.mono hs, ltNew _, h.t3.mono hs, h.t4.mono hs, h.gr.alloc qeg _, h.res.alloc _, by have := h.hb; omega⟩
theorem WJ.grown (h : WJ V rb tb arr l1 s1 l2 s2 k1 k2 b1 b2 v1 u1 v2 u2 W) (hk : k1 = 1 ∨ k1 = 2) (hk' : k' = 2 ∨ k' = 3) (h2 : k' = 2 → W'.ownsRow (rb + 1) 9 1 v' l1.length (tcl l1)) (h3 : k' = 3 → W'.ownsRow (rb + 1) 9 1 v' (l1.length + 1) (tcl l1 ++ [.string s1]))
    (hg : W.grownBy W' v1.ownBlock) (hat : v'.ownBlock = v1.ownBlock ∨ v'.ownBlock = some W.heap.size) : WJ V rb tb arr l1 s1 l2 s2 k' k2 b1 b2 v' u1 v2 u2 W' := by
  have hs := hg.size
  have hrow : ∀ g, v1.ownBlock = some g → rb + 1 ≤ g := fun g e => by
    rcases hk with e1 | e1
    · exact ((h.c1.r1 e1).lt g e).1
    · exact ((h.c1.r2 e1).lt g e).1
  have hlt : Lt0 v' W' := fun g e => by
    rcases hk' with e1 | e1
    · exact ((h2 e1).lt g e).2
    · exact ((h3 e1).lt g e).2
  exact ⟨⟨fun e => by omega, h2, h3, fun e => by omega, h.c1.bz, fun e => by
      obtain ⟨g, e1, e2, e4⟩ := h.c1.b e; exact ⟨g, e1, e2.kept hg (fun e3 => h.a1 g e3.symm (by rw [e1]; rfl)), e4⟩⟩, h.c2.kept hg h.a2.symm h.a3.symm,
    (h.a1.symm.grown h.t2 hat).symm, (h.a2.symm.grown h.t3 hat).symm, (h.a3.symm.grown h.t4 hat).symm, h.a4, h.a5, h.a6, hlt, h.t2.mono hs, h.t3.mono hs, h.t4.mono hs,
    h.gr.grown hg qeg (fun k e => by have := hrow k e; omega), h.res.kept hg (fun e => by have := hrow rb e.symm; omega), by have := h.hb; omega⟩
theorem Chn.far {base : Nat} {ls : List ByteArray} {s : ByteArray} {k : Nat} {bx : Bool} {v u : Value} {W : World} {g c d : Nat} (h : Chn base ls s k bx v u W) (hk : k = 3) (hg : g < base) : Ap v (.slice (some ⟨g, 0, none⟩) c d) ∧ (bx = true → Ap u (.slice (some ⟨g, 0, none⟩) c d)) ∧ (bx = false → Ap u (.slice (some ⟨g, 0, none⟩) c d)) := by
  refine ⟨fun x e e2 => ?_, fun hb x e e2 => ?_, fun hb x e => ?_⟩
  · have := ((h.r3 hk).lt x e).1; simp [Value.ownBlock] at e2; omega
  · obtain ⟨y, e3, _, e4⟩ := h.b hb
    rw [e3] at e; simp [Value.ownBlock] at e e2; omega
  · rw [h.bz hb] at e; simp [undef, Value.ownBlock] at e
theorem Chn.far2 {base : Nat} {ls : List ByteArray} {s : ByteArray} {k : Nat} {bx : Bool} {v u : Value} {W : World} {g c d : Nat} (h : Chn base ls s k bx v u W) (hk : k = 3) (hg : g < base) : Ap u (.slice (some ⟨g, 0, none⟩) c d) := by
  cases bx
  · exact (h.far hk hg).2.2 rfl
  · exact (h.far hk hg).2.1 rfl
theorem WJ.put (h : WJ V rb tb arr l1 s1 l2 s2 3 3 b1 b2 v1 u1 v2 u2 W) (a b : Value) : WJ V rb tb ((arr.setIfInBounds 0 a).setIfInBounds 1 b) l1 s1 l2 s2 3 3 b1 b2 v1 u1 v2 u2 ((W.setCell ⟨rb, 0, none⟩ a).setCell ⟨rb, 1, none⟩ b) := by
  have hs : ((W.setCell ⟨rb, 0, none⟩ a).setCell ⟨rb, 1, none⟩ b).heap.size = W.heap.size := qbp; have hb1 : Below rb W ((W.setCell ⟨rb, 0, none⟩ a).setCell ⟨rb, 1, none⟩ b) := ((Below.refl rb W).setCell (p := ⟨rb, 0, none⟩) (nl rb) a).setCell (p := ⟨rb, 1, none⟩) (nl rb) b
  have hg : W.grownBy ((W.setCell ⟨rb, 0, none⟩ a).setCell ⟨rb, 1, none⟩ b) (Value.slice (some ⟨rb, 0, none⟩) 0 0).ownBlock := ⟨hb1.os, hb1.tape, hb1.output, hb1.size, fun i _ hne => by
    have hi : i ≠ rb := fun e => hne qed; exact (hs_ _ _ _ i hi).trans (hs_ _ _ _ i hi)⟩
  exact ⟨h.c1.kept hg (h.c1.far rfl (Nat.lt_succ_self _)).1 (h.c1.far2 rfl (Nat.lt_succ_self _)), h.c2.kept hg (h.c2.far rfl (Nat.lt_succ_self _)).1 (h.c2.far2 rfl (Nat.lt_succ_self _)),
    h.a1, h.a2, h.a3, h.a4, h.a5, h.a6, h.t1.mono (Nat.le_of_eq hs.symm), h.t2.mono (Nat.le_of_eq hs.symm), h.t3.mono (Nat.le_of_eq hs.symm), h.t4.mono (Nat.le_of_eq hs.symm), h.gr.trans hb1, (h.res.set 0 a).set 1 b, by rw [hs]; exact h.hb⟩
end
theorem step_appL {P : Program} {w : World} (sz : Nat) (hsz0 : 0 < sz) {ops : Array Oper} {o : Oper} {a : Act} {K : Act → World → Prop} {Q : Exit → Act → World → Prop} {E : Prop} (hgd : o.guard = none) (s x : Operand) (t : TypeId)
    (ho : o.op = .call { callee := .builtin .append, args := #[s, x], argTypes := #[t, t] })
    (base : Nat) (e : TypeId) (i : TypeInfo) (z : Value) (bytes : Nat) (ht : P.underlying t = some (.slice e)) (hi : P.info? e = some i) (hz : i.zero = some z)
    (hsize : i.size = sz) (hby : i.bytes = bytes) (hzs : z.cells.size = sz)
    (v : Value) (n : Nat) (xs : List Value) (hs : a.eval s = v) (hown : w.ownsRow base e sz v n xs)
    (A : Option Addr) (m c : Nat) (news : List Value) (hx : a.eval x = .slice A m c) (hsrc : SrcZ sz w A m news) (h1 : ∀ u ∈ news, u.oneCell' = true)
    (h63 : n + m ≤ maxLen) (hbytes : (n + m) * bytes ≤ 140737488355328) (hbase : base ≤ w.heap.size)
    (h : ∀ v' w', w'.ownsRow base e sz v' (n + m) (xs ++ news) → w.grownBy w' v.ownBlock → (v'.ownBlock = v.ownBlock ∨ v'.ownBlock = some w.heap.size) → K (a.put o.dst v') w') :
    if Region.wanted o (yielded ops a.tmps) = true then Oper.wp P o a w K Q else E := by
  have hw : Region.wanted o (yielded ops a.tmps) = true := by simp [Region.wanted, hgd]
  rw [if_pos hw]; obtain ⟨hl, hc, hn⟩ := hsrc
  cases A with
  | none =>
    have hm := hn rfl; subst hm; have hnil : news = [] := List.eq_nil_of_length_eq_zero (by simpa using hl); subst hnil; have hrun := run_app_none (P := P) base t o.type e i sz ht hi v n c xs hown; unfold Oper.wp execOp; simp only [ho, resolve, invoke, builtin, Sem.run_bind, Sem.run_pure, Result.andThen_ok, List.map_toArray, List.map_cons, List.map_nil, hs, hx, hrun]
    exact h v w (by simpa using hown) (World.grownBy.refl w _) (.inl rfl)
  | some ad =>
    obtain ⟨v', w', hr, h2, h3, _, h5⟩ := run_append_own_at (P := P) w base t o.type e i z sz bytes ht hi hz hsize hby hzs hsz0 v n xs hown ad m c news hl (hc ad rfl) h1 h63 hbytes hbase; unfold Oper.wp execOp; simp only [ho, resolve, invoke, builtin, Sem.run_bind, Sem.run_pure, Result.andThen_ok, List.map_toArray, List.map_cons, List.map_nil, hs, hx, hr]; exact h v' w' h2 h3 h5
theorem IsTexts.src {w : World} {lo hi n c : Nat} {A : Option Addr} {ls : List ByteArray} (h : IsTexts w lo hi A n c ls) : SrcZ 1 w A n (tcl ls) := by
  refine ⟨by unfold tcl; rw [List.length_map, h.1, Nat.mul_one], fun ad hA j u hu => ?_, fun hA => ?_⟩
  · subst hA; exact h.cells j u hu
  · rcases Nat.eq_zero_or_pos n with h0 | h0
    · exact h0
    · obtain ⟨p, hp, _⟩ := h.2.2.2 h0; rw [hA] at hp; cases hp
theorem texts_row {W : World} {base n : Nat} {v : Value} {ls : List ByteArray} {s : ByteArray} (h : W.ownsRow base 9 1 v (ls.length + 1) (tcl ls ++ [.string s])) {lo : Nat} (hlo : lo ≤ base) (hn : n = ls.length + 1) : ∃ p c, v = .slice (some p) n c ∧ IsTexts W lo W.heap.size (some p) n c (ls ++ [s]) := by
  have e : tcl ls ++ [.string s] = tcl (ls ++ [s]) := by unfold tcl; simp
  rw [e] at h; obtain ⟨p, c, e1, e2⟩ := texts_own h qaa hlo; have e3 : (ls ++ [s]).length = n := by rw [List.length_append, hn]; rfl
  rw [e3] at e1 e2; exact ⟨p, c, e1, e2⟩
theorem l4With_any (A B : Option Addr) (n c m d : Nat) (b : Bd) (x y : ByteArray) (w : World) (h : IsTexts w 0 w.heap.size A n c (b.map (·.1))) (h' : IsTexts w 0 w.heap.size B m d (b.map (·.2))) (hb : b.length ≤ 1048576) :
    Calls Tryz.prog 168 #[.agg #[.slice A n c, .slice B m d], .string x, .string y] w fun e w' => ∃ A' n' c' B' m' d', e = .returned (.agg #[.slice A' n' c', .slice B' m' d']) ∧ IsTexts w' w.heap.size w'.heap.size A' n' c' ((b ++ [(x, y)]).map (·.1)) ∧ IsTexts w' w.heap.size w'.heap.size B' m' d' ((b ++ [(x, y)]).map (·.2)) ∧ Below w.heap.size w w' := by
  have h1 := hid (show n = b.length by rw [← h.1, List.length_map]); have h2 := hid (show m = b.length by rw [← h'.1, List.length_map]); have H := hid h; have H' := hid h'; clear h h'; obtain ⟨i0, hi, hz, hsz, hby⟩ := info_parts Tryz.infoText; have hw1 := below2 w (.cells #[.slice A n c, .slice B m d] 128) (.cells #[.slice none 0 0, .slice none 0 0] 128); have X0 := ((Box.new w (.slice A n c) (.slice B m d) 128).up (.cells #[.slice none 0 0, .slice none 0 0] 128))
  have R0 := Blk.new (w.alloc (.cells #[.slice A n c, .slice B m d] 128)) 128 #[.slice none 0 0, .slice none 0 0]; go_enter Tryz.func168, Tryz.ntmps168; go_wp2_with fail; obtain ⟨V, hV⟩ : ∃ V, ((w.alloc (.cells #[.slice A n c, .slice B m d] 128)).alloc (.cells #[.slice none 0 0, .slice none 0 0] 128)).drew = V := ⟨_, rfl⟩; refine wp_region_held_drew (S := fun W => W.cell? ⟨w.heap.size, 0, none⟩ = some (.slice A n c) ∧ W.cell? ⟨w.heap.size, 1, none⟩ = some (.slice B m d)) qae ?_ ?_
  · exact ⟨X0.2.1, X0.2.2⟩
  rw [hV]; intro hS_; refine tk 1 (.pointer (some ⟨w.heap.size, 0, none⟩)) hS_ ?_; refine tk 2 (.slice A n c) hS_ ?_; refine tk 4 (.string x) hS_ ?_; refine tk 8 (.pointer (some ⟨w.heap.size, 1, none⟩)) hS_ ?_; refine tk 9 (.slice B m d) hS_ ?_; refine tk 11 (.string y) hS_ ?_; obtain ⟨bn, hbn⟩ : ∃ z, b.map (·.1) = z := ⟨_, rfl⟩; obtain ⟨bv, hbv⟩ : ∃ z, b.map (·.2) = z := ⟨_, rfl⟩; have ln : bn.length = b.length := by rw [← hbn, List.length_map]
  have lv : bv.length = b.length := by rw [← hbv, List.length_map]
  rw [hbn] at H; rw [hbv] at H'; have HBN := hid hbn; have HBV := hid hbv; clear hbn hbv
  have J0 : WJ V (w.heap.size + 1) 128 #[.slice none 0 0, .slice none 0 0] bn x bv y 0 0 false false undef undef undef undef V := by
    have u0 : ∀ g, undef.ownBlock = some g → False := fun g e => by simp [undef, Value.ownBlock] at e
    refine ⟨⟨fun e => by omega, fun e => by omega, fun e => by omega, fun _ => rfl, fun _ => rfl, fun e => by cases e⟩, ⟨fun e => by omega, fun e => by omega, fun e => by omega, fun _ => rfl, fun _ => rfl, fun e => by cases e⟩, Ap.undef _, Ap.undef _, Ap.undef _, Ap.undef _, Ap.undef _, Ap.undef _, fun g e => (u0 g e).elim, fun g e => (u0 g e).elim, fun g e => (u0 g e).elim, fun g e => (u0 g e).elim, Below.refl _ _, ?_, ?_⟩
    · rw [← hV]; have h := R0; rw [show (w.alloc (.cells #[.slice A n c, .slice B m d] 128)).heap.size = w.heap.size + 1 by simp] at h; exact h
    · rw [← hV]; show w.heap.size + 1 + 1 ≤ ((w.alloc _).alloc _).heap.size; simp
  have hVw : Below w.heap.size w V := by rw [← hV]; exact hw1.drew
  have bel : ∀ W, Below (w.heap.size + 1) V W → Below w.heap.size w W := fun W hb => hVw.trans (hb.mono (Nat.le_succ _)); have HVS := hid hS_; clear hV hS_ X0 R0; have SN : Hid (∀ W, Below w.heap.size w W → SrcZ 1 W A n (tcl bn)) := hid (fun W hb => IsTexts.src (H.out.below TextE.stays hb (nl _))); have SM : Hid (∀ W, Below w.heap.size w W → SrcZ 1 W B m (tcl bv)) := hid (fun W hb => IsTexts.src (H'.out.below TextE.stays hb (nl _))); refine wpAnyH_inv (I := fun (L : Array Bool) (a : Act) (W : World) => ∃ (k1 k2 : Nat) (f5 f12 l14 l15 : Bool) (x7 x10 x13 x14 x17 x20 x21 v1 v2 x12 x19 : Value) (arr : Array Value), L = #[decide (1 ≤ k1), true, true, decide (2 ≤ k1), true, f5, decide (3 ≤ k1), decide (1 ≤ k2), true, true, decide (2 ≤ k2), true, f12, decide (3 ≤ k2), l14, l15] ∧ a = ⟨#[.agg #[.slice A n c, .slice B m d], .string x, .string y, .pointer (some ⟨w.heap.size, 0, none⟩), undef, undef, .pointer (some ⟨w.heap.size + 1, 0, none⟩), x7, .pointer (some ⟨w.heap.size, 0, none⟩), .slice A n c, x10, .string x, x12, x13, x14, .pointer (some ⟨w.heap.size, 1, none⟩), .slice B m d, x17, .string y, x19, x20, x21], []⟩ ∧ (k1 = 1 → x7 = v1) ∧ (k1 = 2 → x10 = v1) ∧ (k1 = 3 → x13 = v1) ∧ (k2 = 1 → x14 = v2) ∧ (k2 = 2 → x17 = v2) ∧ (k2 = 3 → x20 = v2) ∧ k1 ≤ 3 ∧ k2 ≤ 3 ∧ (l14 = true → x21 = .agg #[v1, v2] ∧ k1 = 3 ∧ k2 = 3) ∧ (l15 = true → l14 = true) ∧ arr = (if l15 = true then #[v1, v2] else #[.slice none 0 0, .slice none 0 0]) ∧ WJ V (w.heap.size + 1) 128 arr bn x bv y k1 k2 f5 f12 v1 x12 v2 x19 W) ?keep ?step ?fin _ _ _ _ ?lf ⟨0, 0, false, false, false, false, undef, undef, undef, undef, undef, undef, undef, undef, undef, undef, undef, _, rfl, rfl, fun e => by omega, fun e => by omega, fun e => by omega, fun e => by omega, fun e => by omega, fun e => by omega, by omega, by omega, fun e => qam, fun e => qam, rfl, J0⟩
  case lf => decide
  case keep =>
    rintro L a W ⟨k1, k2, f5, f12, l14, l15, x7, x10, x13, x14, x17, x20, x21, v1, v2, x12, x19, arr, -, -, -, -, -, -, -, -, -, -, -, -, -, J⟩; exact ⟨(J.gr.cell (p := ⟨w.heap.size, 0, none⟩) (Nat.lt_succ_self _)).trans HVS.out.1, (J.gr.cell (p := ⟨w.heap.size, 1, none⟩) (Nat.lt_succ_self _)).trans HVS.out.2⟩
  case step =>
    rintro L a W i o ⟨k1, k2, f5, f12, l14, l15, x7, x10, x13, x14, x17, x20, x21, v1, v2, x12, x19, arr, rfl, rfl, e7, e10, e13, e14, e17, e20, hk1, hk2, e21, e15, rfl, J⟩ ho h0 hd K hK; have hi16 : i < 16 := qbu; have hii : i = 0 ∨ i = 1 ∨ i = 2 ∨ i = 3 ∨ i = 4 ∨ i = 5 ∨ i = 6 ∨ i = 7 ∨ i = 8 ∨ i = 9 ∨ i = 10 ∨ i = 11 ∨ i = 12 ∨ i = 13 ∨ i = 14 ∨ i = 15 := qaa; have l15f : l14 = false → l15 = false := fun e => by cases l15 with | false => rfl | true => have := e15 rfl; rw [e] at this; cases this
    have l14k : ∀ {j : Nat}, (k1 = 3 → k2 = 3 → False) → l14 = false := fun hj => by cases l14 with | false => rfl | true => exact (hj (e21 rfl).2.1 (e21 rfl).2.2).elim
    rcases hii with rfl | rfl | rfl | rfl | rfl | rfl | rfl | rfl | rfl | rfl | rfl | rfl | rfl | rfl | rfl | rfl
    all_goals (injection ho with ho; subst ho)
    · have hk : k1 = 0 := by simp at h0; omega
      subst hk; have l14f := l14k (j := 0) qbk; have l15g := l15f l14f; subst l14f; subst l15g; rw [if_pos qab]; go_simp; refine hK.out _ _ ⟨1, k2, f5, f12, false, false, (.slice (some ⟨W.heap.size, 0, none⟩) 0 0), x10, x13, x14, x17, x20, x21, (.slice (some ⟨W.heap.size, 0, none⟩) 0 0), v2, x12, x19, _, rfl, rfl, fun _ => rfl, fun e => by omega, fun e => by omega, e14, e17, e20, by omega, by omega, fun e => qam, e15, rfl, ?_⟩; exact J.made
    · simp at h0
    · simp at h0
    · have d0 := hd ⟨0, .data⟩ qad rfl
      have hk : k1 = 1 := qbq; subst hk; have l14f := l14k (j := 0) qbk; have l15g := l15f l14f; subst l14f; subst l15g; have hx := e7 rfl; subst hx; refine step_appL 1 qaa qab _ _ _ qab (w.heap.size + 1 + 1) 9 i0 _ 16 Tryz.underlying42 hi hz hsz hby rfl x7 0 [] qab (J.c1.r1 rfl) A n c (tcl bn) qab (SN.out _ (bel _ J.gr)) (tcl_one _) (by have := h1.out; have := h2.out; unfold maxLen; omega) (by have := h1.out; have := h2.out; omega) J.hb ?_; intro v9 W9 hown hgrow hat; have hJ := J.grown (k' := 2) (.inl rfl) (.inl rfl) (fun _ => by rw [Nat.zero_add, List.nil_append, h1.out, ← ln] at hown; exact hown) qbg hgrow hat
      refine hK.out _ _ ⟨2, k2, f5, f12, false, false, x7, v9, x13, x14, x17, x20, x21, v9, v2, x12, x19, _, rfl, rfl, fun e => by omega, fun _ => rfl, fun e => by omega, e14, e17, e20, by omega, by omega, fun e => qam, e15, rfl, hJ⟩
    · simp at h0
    · have hf : f5 = false := qbe
      subst hf; rw [if_pos qab]; go_simp; refine hK.out _ _ ⟨k1, k2, true, f12, l14, l15, x7, x10, x13, x14, x17, x20, x21, v1, v2, (.slice (some ⟨W.heap.size, 0, none⟩) 1 1), x19, _, rfl, rfl, e7, e10, e13, e14, e17, e20, hk1, hk2, e21, e15, rfl, ?_⟩; exact J.boxed
    · have d0 := hd ⟨3, .data⟩ qad rfl
      have d1 := hd ⟨5, .data⟩ qad rfl; have hk : k1 = 2 := qbq; have hf : f5 = true := qdt; subst hk; subst hf; have l14f := l14k (j := 0) qbk; have l15g := l15f l14f; subst l14f; subst l15g; have hx := e10 rfl; subst hx; obtain ⟨gb, rfl, hB, -⟩ := J.c1.b rfl; refine step_appL 1 qaa qab _ _ _ qab (w.heap.size + 1 + 1) 9 i0 _ 16 Tryz.underlying42 hi hz hsz hby rfl x10 _ _ qab (J.c1.r2 rfl) (some ⟨gb, 0, none⟩) 1 1 [.string x] qab (srcOne1 _ _ _ _ hB) qai qac qaa J.hb ?_; intro v9 W9 hown hgrow hat; have hJ := J.grown (k' := 3) (.inr rfl) (.inr rfl) qbg (fun _ => hown) hgrow hat; refine hK.out _ _ ⟨3, k2, true, f12, false, false, x7, x10, v9, x14, x17, x20, x21, v9, v2, _, x19, _, rfl, rfl, fun e => by omega, fun e => by omega, fun _ => rfl, e14, e17, e20, by omega, by omega, fun e => qam, e15, rfl, hJ⟩
    · have hk : k2 = 0 := by simp at h0; omega
      subst hk; have l14f := l14k (j := 0) qbk; have l15g := l15f l14f; subst l14f; subst l15g; rw [if_pos qab]; go_simp; refine hK.out _ _ ⟨k1, 1, f5, f12, false, false, x7, x10, x13, (.slice (some ⟨W.heap.size, 0, none⟩) 0 0), x17, x20, x21, v1, (.slice (some ⟨W.heap.size, 0, none⟩) 0 0), x12, x19, _, rfl, rfl, e7, e10, e13, fun _ => rfl, fun e => by omega, fun e => by omega, by omega, by omega, fun e => qam, e15, rfl, ?_⟩; exact J.swap.made.swap
    · simp at h0
    · simp at h0
    · have d0 := hd ⟨7, .data⟩ qad rfl
      have hk : k2 = 1 := qbq; subst hk; have l14f := l14k (j := 0) qbk; have l15g := l15f l14f; subst l14f; subst l15g; have hx := e14 rfl; subst hx; refine step_appL 1 qaa qab _ _ _ qab (w.heap.size + 1 + 1) 9 i0 _ 16 Tryz.underlying42 hi hz hsz hby rfl x14 0 [] qab (J.swap.c1.r1 rfl) B m d (tcl bv) qab (SM.out _ (bel _ J.gr)) (tcl_one _) (by have := h1.out; have := h2.out; unfold maxLen; omega) (by have := h1.out; have := h2.out; omega) J.hb ?_; intro v9 W9 hown hgrow hat; have hJ := J.swap.grown (k' := 2) (.inl rfl) (.inl rfl) (fun _ => by rw [Nat.zero_add, List.nil_append, h2.out, ← lv] at hown; exact hown) qbg hgrow hat
      refine hK.out _ _ ⟨k1, 2, f5, f12, false, false, x7, x10, x13, x14, v9, x20, x21, v1, v9, x12, x19, _, rfl, rfl, e7, e10, e13, fun e => by omega, fun _ => rfl, fun e => by omega, by omega, by omega, fun e => qam, e15, rfl, hJ.swap⟩
    · simp at h0
    · have hf : f12 = false := qbe
      subst hf; rw [if_pos qab]; go_simp; refine hK.out _ _ ⟨k1, k2, f5, true, l14, l15, x7, x10, x13, x14, x17, x20, x21, v1, v2, x12, (.slice (some ⟨W.heap.size, 0, none⟩) 1 1), _, rfl, rfl, e7, e10, e13, e14, e17, e20, hk1, hk2, e21, e15, rfl, ?_⟩; exact J.swap.boxed.swap
    · have d0 := hd ⟨10, .data⟩ qad rfl
      have d1 := hd ⟨12, .data⟩ qad rfl; have hk : k2 = 2 := qbq; have hf : f12 = true := qdt; subst hk; subst hf; have l14f := l14k (j := 0) qbk; have l15g := l15f l14f; subst l14f; subst l15g; have hx := e17 rfl; subst hx; obtain ⟨gb, rfl, hB, -⟩ := J.swap.c1.b rfl; refine step_appL 1 qaa qab _ _ _ qab (w.heap.size + 1 + 1) 9 i0 _ 16 Tryz.underlying42 hi hz hsz hby rfl x17 _ _ qab (J.swap.c1.r2 rfl) (some ⟨gb, 0, none⟩) 1 1 [.string y] qab (srcOne1 _ _ _ _ hB) qai qac qaa J.hb ?_; intro v9 W9 hown hgrow hat; have hJ := J.swap.grown (k' := 3) (.inr rfl) (.inr rfl) qbg (fun _ => hown) hgrow hat
      refine hK.out _ _ ⟨k1, 3, f5, true, false, false, x7, x10, x13, x14, x17, v9, x21, v1, v9, x12, _, _, rfl, rfl, e7, e10, e13, fun e => by omega, fun e => by omega, fun _ => rfl, by omega, by omega, fun e => qam, e15, rfl, hJ.swap⟩
    · have d0 := hd ⟨6, .data⟩ qad rfl
      have d1 := hd ⟨13, .data⟩ qad rfl; have hk : k1 = 3 := by simp at d0; omega
      have hk2 : k2 = 3 := by simp at d1; omega
      have hl : l14 = false := qbe; have l15g := l15f hl; subst hk; subst hk2; subst hl; subst l15g; have hx := e13 rfl; have hy := e20 rfl; subst hx; subst hy; obtain ⟨p1, c1, q1, -⟩ := texts_row (n := b.length + 1) (J.c1.r3 rfl) (Nat.zero_le _) qaa; obtain ⟨p2, c2, q2, -⟩ := texts_row (n := b.length + 1) (J.c2.r3 rfl) (Nat.zero_le _) qaa; subst q1; subst q2; clear hd h0; rw [if_pos qab]; go_simp; refine hK.out _ _ ⟨3, 3, f5, f12, true, false, x7, x10, _, x14, x17, _, _, _, _, x12, x19, _, rfl, rfl, e7, e10, fun _ => rfl, e14, e17, fun _ => rfl, by omega, by omega, fun _ => ⟨rfl, rfl, rfl⟩, fun e => qam, rfl, J⟩
    · have d0 := hd ⟨14, .data⟩ qad rfl
      have hl : l14 = true := by simpa using d0
      have hl2 : l15 = false := qbe; subst hl; subst hl2; obtain ⟨hx, hk, hk2⟩ := e21 rfl; subst hx; subst hk; subst hk2; obtain ⟨p1, c1, q1, -⟩ := texts_row (n := b.length + 1) (J.c1.r3 rfl) (Nat.zero_le _) qaa; obtain ⟨p2, c2, q2, -⟩ := texts_row (n := b.length + 1) (J.c2.r3 rfl) (Nat.zero_le _) qaa; subst q1; subst q2; clear hd h0; have r2 : W.cell? ⟨w.heap.size + 1, 0, none⟩ = some (.slice none 0 0) := J.res.cell 0; have r3 : W.cell? ⟨w.heap.size + 1, 1, none⟩ = some (.slice none 0 0) := J.res.cell 1; have r4 := J.res.frozen 0; have r5 := J.res.frozen 1; rw [if_pos qab]; go_simp; refine hK.out _ _ ⟨3, 3, f5, f12, true, true, x7, x10, _, x14, x17, _, _, _, _, x12, x19, _, rfl, rfl, e7, e10, fun _ => rfl, e14, e17, fun _ => rfl, by omega, by omega, fun _ => ⟨rfl, rfl, rfl⟩, fun _ => rfl, rfl, ?_⟩
      exact J.put _ _
  case fin =>
    rintro L a W ⟨k1, k2, f5, f12, l14, l15, x7, x10, x13, x14, x17, x20, x21, v1, v2, x12, x19, arr, rfl, rfl, e7, e10, e13, e14, e17, e20, hk1, hk2, e21, e15, rfl, J⟩ hr; have up := all_up qae rfl hr; have hl : l15 = true := up 15 qal; subst hl; obtain ⟨hx, hk, hk2⟩ := e21 (e15 rfl); subst hx; subst hk; subst hk2; have hx := e13 rfl; have hy := e20 rfl; subst hx; subst hy; obtain ⟨p1, c1, q1, i1⟩ := texts_row (n := b.length + 1) (lo := w.heap.size) (J.c1.r3 rfl) qaa qaa; obtain ⟨p2, c2, q2, i2⟩ := texts_row (n := b.length + 1) (lo := w.heap.size) (J.c2.r3 rfl) qaa qaa; subst q1; subst q2; have r2 : W.cell? ⟨w.heap.size + 1, 0, none⟩ = some (.slice (some p1) (b.length + 1) c1) := J.res.cell 0
    have r3 : W.cell? ⟨w.heap.size + 1, 1, none⟩ = some (.slice (some p2) (b.length + 1) c2) := J.res.cell 1; have hgr := hid (bel _ J.gr); clear J up hr; have K1 := hid i1; have K2 := hid i2; clear i1 i2; go_wp2; refine bodyPost_ret (v := .agg #[.slice (some p1) (b.length + 1) c1, .slice (some p2) (b.length + 1) c2]) (by simp [results, Tryz.results168, go_sem, r2, r3]) rfl ⟨_, _, _, _, _, _, rfl, by rw [HBN.out]; exact K1.out, by rw [HBV.out]; exact K2.out, hgr.out⟩
structure MS (w : World) (H0 : Nat) (nm : ByteArray) (A1 : Option Addr) (n1 c1 : Nat) (nm2 : ByteArray) (A2 : Option Addr) (n2 c2 : Nat) (A : Option Addr) (n c : Nat) (B : Option Addr) (m d : Nat) (bs : Bd) (W : World) : Prop where
  xa : Blk W w.heap.size 49 #[.string nm, .slice A1 n1 c1]
  xf : Blk W (w.heap.size + 1) 49 #[.string nm2, .slice A2 n2 c2]
  xb : Blk W (w.heap.size + 2) 128 #[.slice A n c, .slice B m d]
  xr : Blk W (w.heap.size + 3) 128 #[.slice none 0 0, .slice none 0 0]
  ms : ∃ lo hi, IsTexts W lo hi A n c (bs.map (·.1)) ∧ IsTexts W lo hi B m d (bs.map (·.2)) ∧ hi ≤ W.heap.size ∧ (hi ≤ H0 ∨ w.heap.size + 4 ≤ lo)
  gr : Below w.heap.size w W
  hs : w.heap.size + 4 ≤ W.heap.size
section
variable {w W W' : World} {H0 : Nat} {nm nm2 : ByteArray} {A1 A2 A B A' B' : Option Addr} {n1 c1 n2 c2 n c m d n' c' m' d' : Nat} {bs bs' : Bd}
theorem MS.below (h : MS w H0 nm A1 n1 c1 nm2 A2 n2 c2 A n c B m d bs W) (hb : Below W.heap.size W W') : MS w H0 nm A1 n1 c1 nm2 A2 n2 c2 A n c B m d bs W' := by
  have hs := hb.size; have h4 := h.hs; obtain ⟨lo, hi, m1, m2, m3, m4⟩ := h.ms; exact ⟨h.xa.below hb, h.xf.below hb, h.xb.below hb, h.xr.below hb, ⟨lo, hi, m1.below TextE.stays hb m3, m2.below TextE.stays hb m3, by omega, m4⟩, h.gr.trans (hb.mono qaa), by omega⟩
theorem MS.drew (h : MS w H0 nm A1 n1 c1 nm2 A2 n2 c2 A n c B m d bs W) : MS w H0 nm A1 n1 c1 nm2 A2 n2 c2 A n c B m d bs W.drew := h.below (Below.refl _ _).drew
theorem MS.texts (h : MS w H0 nm A1 n1 c1 nm2 A2 n2 c2 A n c B m d bs W) : IsTexts W 0 W.heap.size A n c (bs.map (·.1)) ∧ IsTexts W 0 W.heap.size B m d (bs.map (·.2)) := by
  obtain ⟨lo, hi, m1, m2, m3, m4⟩ := h.ms; exact ⟨m1.keep TextE.stays (fun _ _ _ => rfl) (Nat.zero_le _) m3, m2.keep TextE.stays (fun _ _ _ => rfl) (Nat.zero_le _) m3⟩
theorem MS.put (h : MS w H0 nm A1 n1 c1 nm2 A2 n2 c2 A n c B m d bs W) {lo hi : Nat} (i1 : IsTexts W lo hi A' n' c' (bs'.map (·.1))) (i2 : IsTexts W lo hi B' m' d' (bs'.map (·.2))) (i3 : hi ≤ W.heap.size) (i4 : w.heap.size + 4 ≤ lo) :
    MS w H0 nm A1 n1 c1 nm2 A2 n2 c2 A' n' c' B' m' d' bs' ((W.setCell ⟨w.heap.size + 2, 0, none⟩ (.slice A' n' c')).setCell ⟨w.heap.size + 2, 1, none⟩ (.slice B' m' d')) := by
  have hs : ((W.setCell ⟨w.heap.size + 2, 0, none⟩ (.slice A' n' c')).setCell ⟨w.heap.size + 2, 1, none⟩ (.slice B' m' d')).heap.size = W.heap.size := qbp; have hk : ∀ b, b ≠ w.heap.size + 2 → ((W.setCell ⟨w.heap.size + 2, 0, none⟩ (.slice A' n' c')).setCell ⟨w.heap.size + 2, 1, none⟩ (.slice B' m' d')).heap[b]? = W.heap[b]? := fun b hb => (hs_ _ _ _ b hb).trans (hs_ _ _ _ b hb); have hq : ∀ q : Addr, lo ≤ q.block → q.block < hi → ((W.setCell ⟨w.heap.size + 2, 0, none⟩ (.slice A' n' c')).setCell ⟨w.heap.size + 2, 1, none⟩ (.slice B' m' d')).cell? q = W.cell? q := fun q h1 _ => cb_ (hk _ qaa)
  exact ⟨(h.xa.far (p := ⟨w.heap.size + 2, 0, none⟩) qdx _).far (p := ⟨w.heap.size + 2, 1, none⟩) qdx _,
    (h.xf.far (p := ⟨w.heap.size + 2, 0, none⟩) qdq _).far (p := ⟨w.heap.size + 2, 1, none⟩) qdq _,
    (h.xb.set 0 _).set 1 _,
    (h.xr.far (p := ⟨w.heap.size + 2, 0, none⟩) (by show w.heap.size + 3 ≠ w.heap.size + 2; omega) _).far (p := ⟨w.heap.size + 2, 1, none⟩) (by show w.heap.size + 3 ≠ w.heap.size + 2; omega) _,
    ⟨lo, hi, i1.keep TextE.stays hq (nl _) (nl _), i2.keep TextE.stays hq (nl _) (nl _), by omega, .inr i4⟩,
    (h.gr.setCell (p := ⟨w.heap.size + 2, 0, none⟩) (Nat.le_add_right _ _) _).setCell (p := ⟨w.heap.size + 2, 1, none⟩) (Nat.le_add_right _ _) _, by rw [hs]; exact h.hs⟩
theorem MS.told (h : MS w H0 nm A1 n1 c1 nm2 A2 n2 c2 A n c B m d bs W) (h0 : H0 ≤ w.heap.size) : ∃ lo hi, IsTexts ((W.setCell ⟨w.heap.size + 3, 0, none⟩ (.slice A n c)).setCell ⟨w.heap.size + 3, 1, none⟩ (.slice B m d)) lo hi A n c (bs.map (·.1)) ∧ IsTexts ((W.setCell ⟨w.heap.size + 3, 0, none⟩ (.slice A n c)).setCell ⟨w.heap.size + 3, 1, none⟩ (.slice B m d)) lo hi B m d (bs.map (·.2)) ∧ hi ≤ ((W.setCell ⟨w.heap.size + 3, 0, none⟩ (.slice A n c)).setCell ⟨w.heap.size + 3, 1, none⟩ (.slice B m d)).heap.size ∧ (hi ≤ H0 ∨ w.heap.size ≤ lo) ∧ Below w.heap.size w ((W.setCell ⟨w.heap.size + 3, 0, none⟩ (.slice A n c)).setCell ⟨w.heap.size + 3, 1, none⟩ (.slice B m d)) := by
  obtain ⟨lo, hi, m1, m2, m3, m4⟩ := h.ms; have hs : ((W.setCell ⟨w.heap.size + 3, 0, none⟩ (.slice A n c)).setCell ⟨w.heap.size + 3, 1, none⟩ (.slice B m d)).heap.size = W.heap.size := qbp; have hk : ∀ b, b ≠ w.heap.size + 3 → ((W.setCell ⟨w.heap.size + 3, 0, none⟩ (.slice A n c)).setCell ⟨w.heap.size + 3, 1, none⟩ (.slice B m d)).heap[b]? = W.heap[b]? := fun b hb => (hs_ _ _ _ b hb).trans (hs_ _ _ _ b hb); have hq : ∀ q : Addr, lo ≤ q.block → q.block < hi → ((W.setCell ⟨w.heap.size + 3, 0, none⟩ (.slice A n c)).setCell ⟨w.heap.size + 3, 1, none⟩ (.slice B m d)).cell? q = W.cell? q := fun q h1 _ => cb_ (hk _ qaa)
  exact ⟨lo, hi, m1.keep TextE.stays hq (nl _) (nl _), m2.keep TextE.stays hq (nl _) (nl _), by omega, by omega, (h.gr.setCell (p := ⟨w.heap.size + 3, 0, none⟩) (Nat.le_add_right _ _) _).setCell (p := ⟨w.heap.size + 3, 1, none⟩) (Nat.le_add_right _ _) _⟩
end
def MatchSPost (a f : At) (b : Bd) (H0 : Nat) (w : World) (e : Ending) (w' : World) : Prop :=
  ∃ (A : Option Addr) (n c : Nat) (B : Option Addr) (m d : Nat) (bs : Bd) (ok : Bool) (lo hi : Nat), e = .returned (.tuple #[.agg #[.slice A n c, .slice B m d], .bool ok]) ∧ IsTexts w' lo hi A n c (bs.map (·.1)) ∧ IsTexts w' lo hi B m d (bs.map (·.2)) ∧ hi ≤ w'.heap.size ∧ (hi ≤ H0 ∨ w.heap.size ≤ lo) ∧ Below w.heap.size w w' ∧ (ok = true → matchA a f b = some bs) ∧ (ok = false → matchA a f b = none)
theorem l4Match_any (nm : ByteArray) (A1 : Option Addr) (n1 c1 : Nat) (ts : List Tm) (nm2 : ByteArray) (A2 : Option Addr) (n2 c2 : Nat) (us : List Tm) (A : Option Addr) (n c : Nat) (B : Option Addr) (m d : Nat) (b : Bd) (H0 : Nat) (w : World) (h1 : IsTerms w 0 w.heap.size A1 n1 c1 ts) (h2 : IsTerms w 0 w.heap.size A2 n2 c2 us)
    (h3 : IsTexts w 0 H0 A n c (b.map (·.1))) (h4 : IsTexts w 0 H0 B m d (b.map (·.2))) (h0 : H0 ≤ w.heap.size) (hmax : b.length + n1 ≤ 1048576) :
    Calls Tryz.prog 126 #[.agg #[.string nm, .slice A1 n1 c1], .agg #[.string nm2, .slice A2 n2 c2], .agg #[.slice A n c, .slice B m d]] w (MatchSPost (nm, ts) (nm2, us) b H0 w) := by
  have hn1 := h1.1; have hn2 := h2.1; have hc1 := h1.2.1; have hm1 := h1.2.2.1; have hc2 := h2.2.1; have hm2 := h2.2.2.1; unfold maxLen at hm1 hm2; have L1 := hid hn1; have L2 := hid hn2; have H1 := hid h1; have H2 := hid h2; have hw3 := below3 w (.cells #[.string nm, .slice A1 n1 c1] 49) (.cells #[.string nm2, .slice A2 n2 c2] 49) (.cells #[.slice A n c, .slice B m d] 128); obtain ⟨w3, hq3⟩ : ∃ w3, ((w.alloc (.cells #[.string nm, .slice A1 n1 c1] 49)).alloc (.cells #[.string nm2, .slice A2 n2 c2] 49)).alloc (.cells #[.slice A n c, .slice B m d] 128) = w3 := ⟨_, rfl⟩
  have xa := ((Blk.new w 49 #[.string nm, .slice A1 n1 c1]).alloc (.cells #[.string nm2, .slice A2 n2 c2] 49)).alloc (.cells #[.slice A n c, .slice B m d] 128); have xf := (Blk.made (b := w.heap.size + 1) (w.alloc (.cells #[.string nm, .slice A1 n1 c1] 49)) 49 #[.string nm2, .slice A2 n2 c2] qad).alloc (.cells #[.slice A n c, .slice B m d] 128); have xb := Blk.made (b := w.heap.size + 2) ((w.alloc (.cells #[.string nm, .slice A1 n1 c1] 49)).alloc (.cells #[.string nm2, .slice A2 n2 c2] 49)) 128 #[.slice A n c, .slice B m d] qad
  rw [hq3] at hw3 xa xf xb; have hz3 : w3.heap.size = w.heap.size + 3 := by rw [← hq3]; simp
  obtain ⟨w4, hq4⟩ : ∃ w4, w3.alloc (.cells #[.slice none 0 0, .slice none 0 0] 128) = w4 := ⟨_, rfl⟩; have hb4 := below1 w3 (.cells #[.slice none 0 0, .slice none 0 0] 128); have xr := Blk.made (b := w.heap.size + 3) w3 128 #[.slice none 0 0, .slice none 0 0] hz3.symm; rw [hq4] at hb4 xr; have hz4 : w4.heap.size = w.heap.size + 4 := by rw [← hq4]; simp; omega
  have M0 : MS w H0 nm A1 n1 c1 nm2 A2 n2 c2 A n c B m d b w4 := ⟨xa.below hb4, xf.below hb4, xb.below hb4, xr, ⟨0, H0, h3.below TextE.stays (belowThen hw3 hb4) h0, h4.below TextE.stays (belowThen hw3 hb4) h0, by omega, .inl (nl _)⟩, belowThen hw3 hb4, by omega⟩; have q0 := M0.xa.cell 0; have q1 := M0.xa.cell 1; have q2 := M0.xf.cell 0; have q3 := M0.xf.cell 1; have q4 := M0.xb.cell 0; have q5 := M0.xb.cell 1; have q6 := M0.xr.frozen 0; have q7 := M0.xr.frozen 1; have q8 := M0.xr.cell 0; have q9 := M0.xr.cell 1; have HM0 := hid M0; have HQ3 := hid hq3; have HQ4 := hid hq4; clear h1 h2 h3 h4 hn1 hn2 xa xf xb xr hw3 hb4 hq3 hq4 M0
  go_enter Tryz.func126, Tryz.ntmps126; by_cases hnm : nm = nm2 ∧ n1 = n2
  · obtain ⟨hnm, hnn⟩ := hnm
    subst hnm; subst hnn; have hself : (nm.toList == nm.toList) = true := beq_self_eq_true _; have hpure := hid (show matchA (nm, ts) (nm, us) b = matchT ts us b from by unfold matchA; rw [if_pos ⟨rfl, by show ts.length = us.length; rw [L1.out, L2.out]⟩]); go_wp2_with (first | rw [HQ3.out] | rw [HQ4.out]); go_loopw [8] (fun i wr => ∃ (k : Nat) (A : Option Addr) (n c : Nat) (B : Option Addr) (m d : Nat) (bs : Bd), k ≤ n1 ∧ i = .int .i64 (k : Int) ∧ MS w H0 nm A1 n1 c1 nm A2 n1 c2 A n c B m d bs wr ∧ matchT (ts.drop k) (us.drop k) bs = matchT ts us b ∧ bs.length ≤ b.length + k) (fun i _ => n1 - (intOf i).toNat)
    case atStart => exact ⟨0, A, n, c, B, m, d, b, Nat.zero_le _, rfl, HM0.out, rfl, nl _⟩
    case round =>
      clear q0 q1 q2 q3 q4 q5 q6 q7 q8 q9 HM0 HQ3 HQ4 hz3 hz4; obtain ⟨k, A, n, c, B, m, d, bs, hk, rfl, hM, hP, hL⟩ := hrel; have HM := hid hM; have HP := hid hP; have y0 := hM.xa.cell 0; have y1 := hM.xa.cell 1; have y2 := hM.xf.cell 0; have y3 := hM.xf.cell 1; have y4 := hM.xb.cell 0; have y5 := hM.xb.cell 1; have y6 := hM.xr.frozen 0; have y7 := hM.xr.frozen 1; have y8 := hM.xr.cell 0; have y9 := hM.xr.cell 1; by_cases hlt : k < n1
      · have hltI : (k : Int) < (n1 : Int) := qaa
        obtain ⟨p, t, hA, plo, phi, hg, d1, d2, d3⟩ := (H1.out.below hM.gr (nl _)).at_ hlt; obtain ⟨p', u, hA', plo', phi', hg', f1, f2, f3⟩ := (H2.out.below hM.gr (nl _)).at_ hlt; subst hA; subst hA'; have HG := hid hg; have HG' := hid hg'; have hpb : p.block < w.heap.size := phi; have hpb' : p'.block < w.heap.size := phi'; clear hM hP hg hg' plo plo' phi phi'; obtain ⟨tv, s⟩ := t; cases tv
        · -- no variable
          cases he : (s.toList == u.2.toList)
          · have hno : matchT ts us b = none := HP.out ▸ matchT_no (b := bs) HG.out HG'.out qad (by show s ≠ u.2; intro e; rw [e] at he; simp at he)
            have HNO := hid hno; clear hno; go_wp2; obtain ⟨lo, hi, j1, j2, j3, j4, j5⟩ := HM.out.told h0; refine bodyPost_ret (v := .tuple #[.agg #[.slice A n c, .slice B m d], .bool false]) (by simp [results, Tryz.results126, go_sem, y8, y9]) rfl ⟨_, _, _, _, _, _, bs, false, lo, hi, rfl, j1, j2, j3, j4, j5, fun e => qam, fun _ => by rw [hpure.out]; exact HNO.out⟩
          · have hse : s = u.2 := bytesEq qbc
            have hon := hid (matchT_same (b := bs) HG.out HG'.out qad (show wordT bs (false, s) = u.2 from hse)); clear hse; go_wp2; go_roundw
            case rel => exact ⟨k + 1, A, n, c, B, m, d, bs, by omega, by go_num, HM.out, hon.out ▸ HP.out, by omega⟩
            case measure => exact qms
        · -- a variable
          have TX := HM.out.drew.texts; have HTX := hid TX; clear TX; have x0 : wr.drew.cell? ⟨w.heap.size, 1, none⟩ = some (.slice (some p) n1 c1) := y1; have x1 : wr.drew.cell? ⟨w.heap.size + 1, 1, none⟩ = some (.slice (some p') n1 c2) := y3; have x2 : wr.drew.cell? ⟨w.heap.size + 2, 0, none⟩ = some (.slice A n c) := y4; have x3 : wr.drew.cell? ⟨w.heap.size + 2, 1, none⟩ = some (.slice B m d) := y5; have x4 : wr.drew.cell? ⟨(p.add (k * 2)).block, (p.add (k * 2)).off + 1, none⟩ = some (.string s) := d2; have x5 : wr.drew.cell? ⟨(p'.add (k * 2)).block, (p'.add (k * 2)).off + 1, none⟩ = some (.string u.2) := f2
          obtain ⟨gw, hgw⟩ : ∃ gw, getW bs s = gw := ⟨_, rfl⟩; have HGW := hid hgw; clear hgw
          cases gw with
          | none =>
            go_wp2_with fail; refine wp_region_held_drew (S := fun W => W.cell? ⟨w.heap.size, 1, none⟩ = some (.slice (some p) n1 c1) ∧ W.cell? ⟨w.heap.size + 1, 1, none⟩ = some (.slice (some p') n1 c2) ∧ W.cell? ⟨w.heap.size + 2, 0, none⟩ = some (.slice A n c) ∧ W.cell? ⟨w.heap.size + 2, 1, none⟩ = some (.slice B m d) ∧ W.cell? ⟨(p.add (k * 2)).block, (p.add (k * 2)).off + 1, none⟩ = some (.string s) ∧ W.cell? ⟨(p'.add (k * 2)).block, (p'.add (k * 2)).off + 1, none⟩ = some (.string u.2)) qae ⟨x0, x1, x2, x3, x4, x5⟩ ?_; intro hS_; refine tk 0 (.agg #[.slice A n c, .slice B m d]) hS_ ?_; refine tk 1 (.pointer (some ⟨w.heap.size, 1, none⟩)) hS_ ?_
            refine tk 2 (.slice (some p) n1 c1) hS_ ?_; refine tk 3 (.int .i64 (k : Int)) hS_ ?_; refine tk 4 (.pointer (some (p.add (k * 2)))) hS_ ?_; refine tk 5 (.pointer (some ⟨(p.add (k * 2)).block, (p.add (k * 2)).off + 1, none⟩)) hS_ ?_; refine tk 6 (.string s) hS_ ?_; refine rd1 7 fun K_ hK_ => ?_; go_simp; go_at_call 85; refine (l4Get_any A B n c m d bs s _ HTX.out.1 HTX.out.2).mono ?_; rintro e w5 ⟨rfl, hb5⟩; rw [HGW.out]; have hM5 := HM.out.drew.below hb5; have HM5 := hid hM5; have z0 := hM5.xa.cell 0; have z1 : w5.cell? ⟨w.heap.size, 1, none⟩ = some (.slice (some p) n1 c1) := hM5.xa.cell 1; have z2 := hM5.xf.cell 0; have z3 : w5.cell? ⟨w.heap.size + 1, 1, none⟩ = some (.slice (some p') n1 c2) := hM5.xf.cell 1; have z4 : w5.cell? ⟨w.heap.size + 2, 0, none⟩ = some (.slice A n c) := hM5.xb.cell 0; have z5 : w5.cell? ⟨w.heap.size + 2, 1, none⟩ = some (.slice B m d) := hM5.xb.cell 1; have z6 := hM5.xr.frozen 0; have z7 := hM5.xr.frozen 1; have z8 := hM5.xr.cell 0; have z9 := hM5.xr.cell 1
            have hzz : w.heap.size ≤ wr.drew.heap.size := by have := HM.out.hs; show w.heap.size ≤ wr.heap.size; omega
            have g1 : w5.cell? ⟨(p.add (k * 2)).block, (p.add (k * 2)).off + 1, none⟩ = some (.string s) := (hb5.cell (p := ⟨(p.add (k * 2)).block, (p.add (k * 2)).off + 1, none⟩) qca).trans x4; have g2 : w5.cell? ⟨(p'.add (k * 2)).block, (p'.add (k * 2)).off + 1, none⟩ = some (.string u.2) := (hb5.cell (p := ⟨(p'.add (k * 2)).block, (p'.add (k * 2)).off + 1, none⟩) qbw).trans x5; refine hK_.out _ _ ⟨z1, z3, z4, z5, g1, g2⟩ fun hS_ => ?_; clear hK_; refine tk 8 (.tuple #[.string ⟨#[]⟩, .bool false]) hS_ ?_; refine tk 9 (.string ⟨#[]⟩) hS_ ?_; refine tk 10 (.bool false) hS_ ?_; refine tk 11 (.string ⟨#[]⟩) hS_ ?_
            refine tk 12 (.bool false) hS_ ?_; refine wpAnyH_done qae ?_ _; clear hM5 hS_ y0 y1 y2 y3 y4 y5 y6 y7 y8 y9 x0 x1 x2 x3 x4 x5 HTX; have TX := HM5.out.drew.texts; have HTX := hid TX; clear TX; have x0 : w5.drew.cell? ⟨w.heap.size, 1, none⟩ = some (.slice (some p) n1 c1) := z1; have x1 : w5.drew.cell? ⟨w.heap.size + 1, 1, none⟩ = some (.slice (some p') n1 c2) := z3; have x2 : w5.drew.cell? ⟨w.heap.size + 2, 0, none⟩ = some (.slice A n c) := z4; have x3 : w5.drew.cell? ⟨w.heap.size + 2, 1, none⟩ = some (.slice B m d) := z5; have x4 : w5.drew.cell? ⟨(p.add (k * 2)).block, (p.add (k * 2)).off + 1, none⟩ = some (.string s) := g1
            have x5 : w5.drew.cell? ⟨(p'.add (k * 2)).block, (p'.add (k * 2)).off + 1, none⟩ = some (.string u.2) := g2; go_wp2_with fail; refine wp_region_held_drew (S := fun W => W.cell? ⟨w.heap.size, 1, none⟩ = some (.slice (some p) n1 c1) ∧ W.cell? ⟨w.heap.size + 1, 1, none⟩ = some (.slice (some p') n1 c2) ∧ W.cell? ⟨(p.add (k * 2)).block, (p.add (k * 2)).off + 1, none⟩ = some (.string s) ∧ W.cell? ⟨(p'.add (k * 2)).block, (p'.add (k * 2)).off + 1, none⟩ = some (.string u.2)) qae ⟨x0, x1, x4, x5⟩ ?_; intro hS_; refine tk 1 (.pointer (some ⟨w.heap.size, 1, none⟩)) hS_ ?_; refine tk 2 (.slice (some p) n1 c1) hS_ ?_
            refine tk 3 (.int .i64 (k : Int)) hS_ ?_; refine tk 4 (.pointer (some (p.add (k * 2)))) hS_ ?_; refine tk 5 (.pointer (some ⟨(p.add (k * 2)).block, (p.add (k * 2)).off + 1, none⟩)) hS_ ?_; refine tk 6 (.string s) hS_ ?_; refine tk 7 (.pointer (some ⟨w.heap.size + 1, 1, none⟩)) hS_ ?_; refine tk 8 (.slice (some p') n1 c2) hS_ ?_; refine tk 9 (.int .i64 (k : Int)) hS_ ?_; refine tk 10 (.pointer (some (p'.add (k * 2)))) hS_ ?_; refine tk 11 (.pointer (some ⟨(p'.add (k * 2)).block, (p'.add (k * 2)).off + 1, none⟩)) hS_ ?_; refine tk 12 (.string u.2) hS_ ?_; refine rd1 0 fun K_ hK_ => ?_; go_simp; refine hK_.out _ _ ⟨x0, x1, x4, x5⟩ fun hS_ => ?_
            clear hK_
            (try simp only [Act.put, List.setIfInBounds_toArray, List.set_cons_zero, List.set_cons_succ])
            refine rd1 13 fun K_ hK_ => ?_; go_simp; go_at_call 168; refine (l4With_any A B n c m d bs s u.2 _ HTX.out.1 HTX.out.2 qaa).mono ?_; rintro e w6 ⟨A6, n6, c6, B6, m6, d6, rfl, i6, j6, hb6⟩; have hM6 := HM5.out.drew.below hb6; have HM6 := hid hM6; have v1 : w6.cell? ⟨w.heap.size, 1, none⟩ = some (.slice (some p) n1 c1) := hM6.xa.cell 1; have v3 : w6.cell? ⟨w.heap.size + 1, 1, none⟩ = some (.slice (some p') n1 c2) := hM6.xf.cell 1; have v4 : w6.cell? ⟨w.heap.size + 2, 0, none⟩ = some (.slice A n c) := hM6.xb.cell 0; have v5 : w6.cell? ⟨w.heap.size + 2, 1, none⟩ = some (.slice B m d) := hM6.xb.cell 1; have v6 := hM6.xb.frozen 0; have v7 := hM6.xb.frozen 1
            have hzz5 : w.heap.size + 4 ≤ w5.drew.heap.size := HM5.out.hs; have k1 : w6.cell? ⟨(p.add (k * 2)).block, (p.add (k * 2)).off + 1, none⟩ = some (.string s) := (hb6.cell (p := ⟨(p.add (k * 2)).block, (p.add (k * 2)).off + 1, none⟩) qca).trans x4; have k2 : w6.cell? ⟨(p'.add (k * 2)).block, (p'.add (k * 2)).off + 1, none⟩ = some (.string u.2) := (hb6.cell (p := ⟨(p'.add (k * 2)).block, (p'.add (k * 2)).off + 1, none⟩) qbw).trans x5; have HI6 := hid i6; have HJ6 := hid j6; clear i6 j6; refine hK_.out _ _ ⟨v1, v3, k1, k2⟩ fun hS_ => ?_; clear hK_
            (try simp only [Act.put, List.setIfInBounds_toArray, List.set_cons_zero, List.set_cons_succ])
            refine rd1 14 fun K_ hK_ => ?_; go_simp; have hN := HM6.out.put (bs' := bs ++ [(s, u.2)]) HI6.out HJ6.out (nl _) hzz5; have HN := hid hN; have n1_ : ((w6.setCell ⟨w.heap.size + 2, 0, none⟩ (.slice A6 n6 c6)).setCell ⟨w.heap.size + 2, 1, none⟩ (.slice B6 m6 d6)).cell? ⟨w.heap.size, 1, none⟩ = some (.slice (some p) n1 c1) := hN.xa.cell 1; have n3_ : ((w6.setCell ⟨w.heap.size + 2, 0, none⟩ (.slice A6 n6 c6)).setCell ⟨w.heap.size + 2, 1, none⟩ (.slice B6 m6 d6)).cell? ⟨w.heap.size + 1, 1, none⟩ = some (.slice (some p') n1 c2) := hN.xf.cell 1; have fk : ∀ q : Addr, q.block < w.heap.size → ((w6.setCell ⟨w.heap.size + 2, 0, none⟩ (.slice A6 n6 c6)).setCell ⟨w.heap.size + 2, 1, none⟩ (.slice B6 m6 d6)).cell? q = w6.cell? q := fun q hq => cb_ ((hs_ _ _ _ _ (by show q.block ≠ w.heap.size + 2; omega)).trans (hs_ _ _ _ _ (by show q.block ≠ w.heap.size + 2; omega)))
            refine hK_.out _ _ ⟨n1_, n3_, (fk _ qca).trans k1, (fk _ qbw).trans k2⟩ (fun hS2_ => ?_); refine wpAnyH_done qae ?_ _; clear hK_ hS_ hS2_ hN n1_ n3_ fk v1 v3 v4 v5 v6 v7 k1 k2 x0 x1 x2 x3 x4 x5 z0 z1 z2 z3 z4 z5 z6 z7 z8 z9 g1 g2; have hon := hid (matchT_free (b := bs) HG.out HG'.out (show (true, s).1 = true from rfl) HGW.out); go_wp2; go_roundw
            case rel => exact ⟨k + 1, A6, n6, c6, B6, m6, d6, bs ++ [(s, u.2)], by omega, by go_num, HN.out, hon.out ▸ HP.out, by rw [List.length_append]; simp; omega⟩
            case measure => exact qms
          | some v =>
            go_wp2_with fail; refine wp_region_held_drew (S := fun W => W.cell? ⟨w.heap.size, 1, none⟩ = some (.slice (some p) n1 c1) ∧ W.cell? ⟨w.heap.size + 1, 1, none⟩ = some (.slice (some p') n1 c2) ∧ W.cell? ⟨w.heap.size + 2, 0, none⟩ = some (.slice A n c) ∧ W.cell? ⟨w.heap.size + 2, 1, none⟩ = some (.slice B m d) ∧ W.cell? ⟨(p.add (k * 2)).block, (p.add (k * 2)).off + 1, none⟩ = some (.string s) ∧ W.cell? ⟨(p'.add (k * 2)).block, (p'.add (k * 2)).off + 1, none⟩ = some (.string u.2)) qae ⟨x0, x1, x2, x3, x4, x5⟩ ?_; intro hS_; refine tk 0 (.agg #[.slice A n c, .slice B m d]) hS_ ?_; refine tk 1 (.pointer (some ⟨w.heap.size, 1, none⟩)) hS_ ?_
            refine tk 2 (.slice (some p) n1 c1) hS_ ?_; refine tk 3 (.int .i64 (k : Int)) hS_ ?_; refine tk 4 (.pointer (some (p.add (k * 2)))) hS_ ?_; refine tk 5 (.pointer (some ⟨(p.add (k * 2)).block, (p.add (k * 2)).off + 1, none⟩)) hS_ ?_; refine tk 6 (.string s) hS_ ?_; refine rd1 7 fun K_ hK_ => ?_; go_simp; go_at_call 85; refine (l4Get_any A B n c m d bs s _ HTX.out.1 HTX.out.2).mono ?_; rintro e w5 ⟨rfl, hb5⟩; rw [HGW.out]; have hM5 := HM.out.drew.below hb5; have HM5 := hid hM5; have z0 := hM5.xa.cell 0; have z1 : w5.cell? ⟨w.heap.size, 1, none⟩ = some (.slice (some p) n1 c1) := hM5.xa.cell 1; have z2 := hM5.xf.cell 0; have z3 : w5.cell? ⟨w.heap.size + 1, 1, none⟩ = some (.slice (some p') n1 c2) := hM5.xf.cell 1; have z4 : w5.cell? ⟨w.heap.size + 2, 0, none⟩ = some (.slice A n c) := hM5.xb.cell 0; have z5 : w5.cell? ⟨w.heap.size + 2, 1, none⟩ = some (.slice B m d) := hM5.xb.cell 1; have z6 := hM5.xr.frozen 0; have z7 := hM5.xr.frozen 1; have z8 := hM5.xr.cell 0; have z9 := hM5.xr.cell 1
            have hzz : w.heap.size ≤ wr.drew.heap.size := by have := HM.out.hs; show w.heap.size ≤ wr.heap.size; omega
            have g1 : w5.cell? ⟨(p.add (k * 2)).block, (p.add (k * 2)).off + 1, none⟩ = some (.string s) := (hb5.cell (p := ⟨(p.add (k * 2)).block, (p.add (k * 2)).off + 1, none⟩) qca).trans x4; have g2 : w5.cell? ⟨(p'.add (k * 2)).block, (p'.add (k * 2)).off + 1, none⟩ = some (.string u.2) := (hb5.cell (p := ⟨(p'.add (k * 2)).block, (p'.add (k * 2)).off + 1, none⟩) qbw).trans x5; refine hK_.out _ _ ⟨z1, z3, z4, z5, g1, g2⟩ fun hS_ => ?_; clear hK_; refine tk 8 (.tuple #[.string v, .bool true]) hS_ ?_; refine tk 9 (.string v) hS_ ?_; refine tk 10 (.bool true) hS_ ?_; refine tk 11 (.string v) hS_ ?_; refine tk 12 (.bool true) hS_ ?_
            refine wpAnyH_done qae ?_ _; clear hM5 hS_ y0 y1 y2 y3 y4 y5 y6 y7 y8 y9 x0 x1 x2 x3 x4 x5 HTX; have hfr : ¬ ((true, s).1 = true ∧ getW bs (true, s).2 = none) := fun e => by have := e.2; rw [HGW.out] at this; cases this
            have hwt : wordT bs (true, s) = v := by unfold wordT; rw [if_pos rfl, HGW.out]; rfl
            cases he : (v.toList == u.2.toList)
            · have hno : matchT ts us b = none := HP.out ▸ matchT_no (b := bs) HG.out HG'.out hfr (by rw [hwt]; intro e; rw [e] at he; simp at he)
              have HNO := hid hno; clear hno hfr hwt; have g2' := g2; go_wp2; obtain ⟨lo, hi, j1, j2, j3, j4, j5⟩ := HM5.out.told h0; refine bodyPost_ret (v := .tuple #[.agg #[.slice A n c, .slice B m d], .bool false]) (by simp [results, Tryz.results126, go_sem, z8, z9]) rfl ⟨_, _, _, _, _, _, bs, false, lo, hi, rfl, j1, j2, j3, j4, j5, fun e => qam, fun _ => by rw [hpure.out]; exact HNO.out⟩
            · have hse : v = u.2 := bytesEq qbc
              have hon := hid (matchT_same (b := bs) HG.out HG'.out hfr (hwt.trans hse)); clear hse hfr hwt; go_wp2; go_roundw
              case rel => exact ⟨k + 1, A, n, c, B, m, d, bs, by omega, by go_num, HM5.out, hon.out ▸ HP.out, by omega⟩
              case measure => exact qms
      · have hend := hid (show matchT ts us b = some bs from HP.out ▸ matchT_end (by rw [L1.out]; exact hlt))
        clear hM hP; go_wp2; obtain ⟨lo, hi, j1, j2, j3, j4, j5⟩ := HM.out.told h0; refine bodyPost_ret (v := .tuple #[.agg #[.slice A n c, .slice B m d], .bool true]) (by simp [results, Tryz.results126, go_sem, y8, y9]) rfl ⟨_, _, _, _, _, _, bs, true, lo, hi, rfl, j1, j2, j3, j4, j5, fun _ => by rw [hpure.out]; exact hend.out, fun e => qam⟩
  · have hpure := hid (show matchA (nm, ts) (nm2, us) b = none from by
      unfold matchA; rw [if_neg]; rintro ⟨e1, e2⟩; exact hnm ⟨e1, by rw [← L1.out, ← L2.out]; exact e2⟩)
    have fin : ∀ W9 : World, W9 = w4 → True := fun _ _ => trivial; by_cases e1 : nm = nm2
    · have e2 : ¬ n1 = n2 := fun e => hnm ⟨e1, e⟩
      have e3 : ¬ (n1 : Int) = (n2 : Int) := qaa; have e4 : (nm.toList == nm2.toList) = true := by rw [e1]; exact beq_self_eq_true _
      clear hnm e1 e2 fin; go_wp2_with (first | rw [HQ3.out] | rw [HQ4.out]); obtain ⟨lo, hi, j1, j2, j3, j4, j5⟩ := HM0.out.told h0; refine bodyPost_ret (v := .tuple #[.agg #[.slice A n c, .slice B m d], .bool false]) (by simp [results, Tryz.results126, go_sem, q8, q9]) rfl ⟨_, _, _, _, _, _, b, false, lo, hi, rfl, j1, j2, j3, j4, j5, fun e => qam, fun _ => hpure.out⟩
    · have e4 : (nm.toList == nm2.toList) = false := by
        cases e : (nm.toList == nm2.toList)
        · rfl
        · exact absurd (bytesEq (by have h1 := eq_of_beq e; rwa [ByteArray.toList_eq, ByteArray.toList_eq] at h1)) e1
      clear hnm e1 fin; go_wp2_with (first | rw [HQ3.out] | rw [HQ4.out]); obtain ⟨lo, hi, j1, j2, j3, j4, j5⟩ := HM0.out.told h0; refine bodyPost_ret (v := .tuple #[.agg #[.slice A n c, .slice B m d], .bool false]) (by simp [results, Tryz.results126, go_sem, q8, q9]) rfl ⟨_, _, _, _, _, _, b, false, lo, hi, rfl, j1, j2, j3, j4, j5, fun e => qam, fun _ => hpure.out⟩
end Go.Proofs.YtcigljngiemdeaaGreat
