/-
  Texts of one claim, put together.
-/
import Derived.Test.YtogonjkklioaaaaGreatDoorLg27
set_option maxRecDepth 100000
set_option maxHeartbeats 8000000
namespace Go.Proofs.YtogonjkklioaaaaGreatDoor
open Go.RowKit
def SeqT {α : Type} (F : Fence) (n : Nat) (P : Program) (g : Nat) (lb : Array Value) (encs : α → Array Value) (T : Nat → World → World → Prop) (Kp : World → World → Prop) (Pre : List α → α → World → World → Prop) (S Sp : List α → World → World → Prop) (w : World) : Prop :=
  ∀ (l : Nat) (J Jx : List α → World → Prop) (W : World), Below w.heap.size w W →
    (∀ pre x W0 W1, J pre W0 → T W.heap.size W0 W1 → Pre pre x W0 W1 → YieldAt F (n - 1) P l (encs x) W1 fun e W' =>
      (e = .returned (.bool true) ∧ J (pre ++ [x]) W' ∧ Kp W1 W') ∨ (e = .returned (.bool false) ∧ Jx (pre ++ [x]) W' ∧ Kp W1 W')) →
    J [] W →
    CallsIn F n P g (#[.func (.yield l) #[] #[]] ++ lb) W fun e W' => (∃ v, e = .returned v) ∧
      ((∃ xs W0, S xs W0 W' ∧ J xs W0 ∧ T W.heap.size W0 W') ∨ (∃ pre W0, Sp pre W0 W' ∧ Jx pre W0 ∧ T W.heap.size W0 W'))
def postT {α : Type} (B : Nat) (Kp : World → World → Prop) (I : List α → World → Prop) (Ix : Code → List α → World → Prop) (xs : List α) (W : World) : Exit → Act → World → Prop
  | .normal, _, W' => KeepsFrom B W W' ∧ Kp W W' ∧ I xs W'
  | .ret, _, W' => KeepsFrom B W W' ∧ Kp W W' ∧ Ix .ret xs W'
  | .exit id, _, W' => KeepsFrom B W W' ∧ Kp W W' ∧ Ix (.exit id) xs W'
  | .goto t, _, W' => KeepsFrom B W W' ∧ Kp W W' ∧ Ix (.goto t) xs W'
  | .panic _, _, _ => False
  | .outgrown, _, _ => False
def Bookish (l : Nat) (I : World → Prop) : Prop := ∀ (W : World) (r o' : Loop), I W → W.heap[l]? = some (.loop r) → I (W.putObj l (.loop o'))
section
variable {F : Fence} {n : Nat} {P : Program}
theorem wpIn_rangeT {α : Type} {g : Operand} {ps : Array Tmp} {assign body : Code} {Q : Exit → Act → World → Prop} {a : Act} {w : World}
    (hro : F.round = none) (h1 : 1 ≤ n) {gf : Nat} {lb : Array Value} (hg : a.eval g = .func (.func gf) #[] lb) (hFg : F.fn gf) (eg : ∀ args w, (callFunc gf args).run P w = .ok (.enter gf args) w)
    {encs : α → Array Value} {T : Nat → World → World → Prop} {Kp : World → World → Prop} {Pre : List α → α → World → World → Prop} {S Sp : List α → World → World → Prop} {w0 : World} (hseq : SeqT F (n - 1) P gf lb encs T Kp Pre S Sp w0)
    (hKt : ∀ {A B C : World}, Kp A B → Kp B C → Kp A C) (hKb : ∀ (W : World) (r r' : Loop), W.heap[w.heap.size + 1]? = some (.loop r) → Kp W (W.putObj (w.heap.size + 1) (.loop r'))) (hb0 : Below w0.heap.size w0 w) (hps : ∀ x, (encs x).size = ps.size)
    (hTb : ∀ (B : Nat) (X Y : World), w.heap.size + 2 ≤ B → T B X Y → ∀ k, w.heap.size ≤ k → k < w.heap.size + 2 → (∃ o, X.heap[k]? = some o ∧ o.isCells = false) → Y.heap[k]? = X.heap[k]?)
    (I : List α → World → Prop) (Ix : Code → List α → World → Prop) (hI : ∀ s, Bookish (w.heap.size + 1) (I s)) (hIx : ∀ c s, Bookish (w.heap.size + 1) (Ix c s)) (h0 : ∀ W1, Below w.heap.size w W1 → W1.heap.size = w.heap.size + 2 → I [] W1)
    (Ax : List α → α → Act → World → Prop) (hAx : ∀ pre x a', Bookish (w.heap.size + 1) (Ax pre x a'))
    (hassign : ∀ (B : Nat) (pre : List α) (x : α) (W0 W1 : World) (K : Act → World → Prop), w.heap.size + 2 ≤ B → I pre W0 → T B W0 W1 → Pre pre x W0 W1 → (∀ a' W', KeepsFrom w.heap.size W1 W' → Kp W1 W' → Ax pre x a' W' → K a' W') →
      assign.wpIn (F.inRound (w.heap.size + 1)) (n - 1 - 1) P (Exit.then K (fun _ _ _ => False)) { tmps := (ps.zip (encs x)).foldl (fun t (p, v) => t.setIfInBounds p v) a.tmps, defers := [] } W1)
    (hbody : ∀ (pre : List α) (x : α) (a' : Act) (W : World), (∃ r, W.heap[w.heap.size + 1]? = some (.loop r)) → Ax pre x a' W → body.wpIn (F.inRound (w.heap.size + 1)) (n - 1 - 1) P (postT w.heap.size Kp I Ix (pre ++ [x]) W) a' W)
    (hdone : ∀ (B : Nat) (xs : List α) (W0 W W' : World), w.heap.size + 2 ≤ B → S xs W0 W → I xs W0 → T B W0 W → (∃ r r', W.heap[w.heap.size + 1]? = some (.loop r) ∧ W' = W.putObj (w.heap.size + 1) (.loop r')) → W'.heap[w.heap.size]? = some (.deferred (some [])) → Q .normal { a with defers := { target := .collected w.heap.size, args := #[] } :: a.defers } W')
    (hstop : ∀ (B : Nat) (c : Code) (pre : List α) (W0 W W' : World), w.heap.size + 2 ≤ B → Sp pre W0 W → Ix c pre W0 → T B W0 W → (∃ r r', W.heap[w.heap.size + 1]? = some (.loop r) ∧ W' = W.putObj (w.heap.size + 1) (.loop r')) → W'.heap[w.heap.size]? = some (.deferred (some [])) → c.wpIn F n P Q { a with defers := { target := .collected w.heap.size, args := #[] } :: a.defers } W') :
    (Code.rangeFunc g ps assign body).wpIn F n P Q a w := by
  refine wpIn_rangeFunc ?_; intro fn hfn; rw [hro]; obtain ⟨a4, a2⟩ : ∃ a4 : LoopState → Option Code → Loop, a4 = fun st pe => { state := st, pending := pe, fn, tmps := a.tmps, params := ps, assign, body, defers := w.heap.size } := ⟨_, rfl⟩; obtain ⟨W1, b3⟩ : ∃ W1, (w.alloc (.deferred (some []))).alloc (.loop (a4 .ready none)) = W1 := ⟨_, rfl⟩
  have c0 : W1.heap[w.heap.size + 1]? = some (.loop (a4 .ready none)) := by
    rw [← b3]; have := World.alloc_heap_new (w.alloc (.deferred (some []))) (.loop (a4 .ready none)); rwa [World.size_alloc] at this
  have c7 : W1.heap[w.heap.size]? = some (.deferred (some [])) := by
    rw [← b3]; exact (Below.heap_alloc _ _ _ qag).trans (World.alloc_heap_new w _)
  have b7 : W1.heap.size = w.heap.size + 2 := by rw [← b3]; simp
  have hbw : Below w.heap.size w W1 := by
    rw [← b3]; exact ((Below.refl _ w).alloc (nl _) _).alloc qag _
  have hb1 : Below w0.heap.size w0 W1 := hb0.trans (hbw.mono hb0.size); have c3 : I [] W1 := h0 W1 hbw b7
  refine ⟨w.heap.size + 1, [{ target := .collected w.heap.size, args := #[] }], W1, { target := .fn (.func gf) lb, args := #[.func (.yield (w.heap.size + 1)) #[] #[]] }, W1, gf,
    #[.func (.yield (w.heap.size + 1)) #[] #[]] ++ lb, W1, ?_, ?_, ?_, ?_, fun _ => h1, ?_⟩
  · rw [← b3, a2]; exact run_enterLoop_outer _ _ _ _ _
  · simp only [resolve, hg]
    simp [go_sem]
  · intro f' hf'; simp [Target.leads] at hf'; subst hf'; exact hFg
  · simp [invoke, go_sem, eg]
  · refine (hseq (w.heap.size + 1)
      (fun pre W => I pre W ∧ W.heap[w.heap.size + 1]? = some (.loop (a4 .ready none)) ∧ W.heap[w.heap.size]? = some (.deferred (some [])))
      (fun pre W => ∃ c, Ix c pre W ∧ W.heap[w.heap.size + 1]? = some (.loop (a4 .done (some c))) ∧ W.heap[w.heap.size]? = some (.deferred (some [])))
      W1 hb1 ?_ ⟨c3, c0, c7⟩).mono ?_
    · rintro pre x Wa W ⟨hi, hl, hk⟩ hT b4
      replace hl : W.heap[w.heap.size + 1]? = some (.loop (a4 .ready none)) := (hTb _ _ _ qaa hT _ qaa qaa ⟨_, hl, rfl⟩).trans hl; replace hk : W.heap[w.heap.size]? = some (.deferred (some [])) := (hTb _ _ _ qaa hT _ qaa qaa ⟨_, hk, rfl⟩).trans hk; have hy := run_yield (P := P) (args := encs x) hl (by rw [a2]; exact hps x); rw [a2] at hy; refine ⟨fn, _, assign, body, hy, roundIn_of_wpIn hfn (hassign _ pre x Wa W _ qaa hi hT b4 ?_)⟩; clear hy b4 hT; intro a' Wb hkfa hkpa hax; replace hl := hkfa.same _ _ qaa hl rfl; replace hk := hkfa.same _ _ (nl _) hk rfl; have hlt : w.heap.size + 1 < Wb.heap.size := (Array.getElem?_eq_some_iff.1 hl).1
      refine ⟨_, run_beginRound hl (by rw [a2]), ?_⟩; have hl2 : (Wb.putObj (w.heap.size + 1) (.loop { a4 .ready none with state := .busy })).heap[w.heap.size + 1]? = some (.loop { a4 .ready none with state := .busy }) := World.putObj_heap_same hlt; have hk2 : (Wb.putObj (w.heap.size + 1) (.loop { a4 .ready none with state := .busy })).heap[w.heap.size]? = some (.deferred (some [])) := (World.putObj_heap_other qaa).trans hk; have b6 : Kp Wb (Wb.putObj (w.heap.size + 1) (.loop { a4 .ready none with state := .busy })) := hKb _ _ _ hl; refine wpIn_mono (hbody pre x a' _ ⟨_, hl2⟩ (hAx pre x a' _ _ _ hax hl)) ?_
      have b5 : ∀ (jump : Option Code) (W3 : World), KeepsFrom w.heap.size (Wb.putObj (w.heap.size + 1) (.loop { a4 .ready none with state := .busy })) W3 →
          (Instr.endRound (w.heap.size + 1) jump).run P W3 = .ok (.bool jump.isNone) (W3.putObj (w.heap.size + 1) (.loop (a4 (if jump.isNone then .ready else .done) jump))) ∧
          W3.heap[w.heap.size + 1]? = some (.loop { a4 .ready none with state := .busy }) ∧
          (W3.putObj (w.heap.size + 1) (.loop (a4 (if jump.isNone then .ready else .done) jump))).heap[w.heap.size + 1]? = some (.loop (a4 (if jump.isNone then .ready else .done) jump)) ∧
          (W3.putObj (w.heap.size + 1) (.loop (a4 (if jump.isNone then .ready else .done) jump))).heap[w.heap.size]? = some (.deferred (some [])) := fun jump W3 hk3 => by
        have a5 := hk3.same _ _ qaa hl2 rfl; have := run_endRound (P := P) jump a5; rw [a2] at this ⊢; exact ⟨this, by rw [a2] at a5; exact a5, World.putObj_heap_same (Array.getElem?_eq_some_iff.1 a5).1, (World.putObj_heap_other qaa).trans (hk3.same _ _ (nl _) hk2 rfl)⟩
      rintro e a3 W3 hp
      cases e with
      | normal =>
        obtain ⟨hk3, a6, a9⟩ := hp; obtain ⟨hr, a5, a7, a8⟩ := b5 none W3 hk3
        exact ⟨_, _, hr, .inl ⟨rfl, ⟨hI _ _ _ _ a9 a5, a7, a8⟩, hKt hkpa (hKt (hKt b6 a6) (hKb _ _ _ a5))⟩⟩
      | ret =>
        obtain ⟨hk3, a6, a9⟩ := hp; obtain ⟨hr, a5, a7, a8⟩ := b5 (some .ret) W3 hk3
        exact ⟨_, _, hr, .inr ⟨rfl, ⟨.ret, hIx _ _ _ _ _ a9 a5, a7, a8⟩, hKt hkpa (hKt (hKt b6 a6) (hKb _ _ _ a5))⟩⟩
      | exit id =>
        obtain ⟨hk3, a6, a9⟩ := hp; obtain ⟨hr, a5, a7, a8⟩ := b5 (some (.exit id)) W3 hk3
        exact ⟨_, _, hr, .inr ⟨rfl, ⟨.exit id, hIx _ _ _ _ _ a9 a5, a7, a8⟩, hKt hkpa (hKt (hKt b6 a6) (hKb _ _ _ a5))⟩⟩
      | goto t =>
        obtain ⟨hk3, a6, a9⟩ := hp; obtain ⟨hr, a5, a7, a8⟩ := b5 (some (.goto t)) W3 hk3
        exact ⟨_, _, hr, .inr ⟨rfl, ⟨.goto t, hIx _ _ _ _ _ a9 a5, a7, a8⟩, hKt hkpa (hKt (hKt b6 a6) (hKb _ _ _ a5))⟩⟩
      | panic ch => exact hp.elim
      | outgrown => exact hp.elim
    · rintro e W2 ⟨⟨v, rfl⟩, (⟨xs, W0, hS, ⟨hi, hl, hk⟩, hT⟩ | ⟨pre, W0, b9, ⟨c, hi, hl, hk⟩, hT⟩)⟩
      · replace hl := (hTb _ _ _ qaa hT _ qaa qaa ⟨_, hl, rfl⟩).trans hl
        replace hk := (hTb _ _ _ qaa hT _ qaa qaa ⟨_, hk, rfl⟩).trans hk; refine ⟨none, _, by have := run_endLoop (P := P) hl (by rw [a2]; simp); rw [a2] at this; exact this, hdone _ xs W0 W2 _ (Nat.le_of_eq b7.symm) hS hi hT ⟨_, _, hl, rfl⟩ ?_⟩; exact (World.putObj_heap_other qaa).trans hk
      · replace hl := (hTb _ _ _ qaa hT _ qaa qaa ⟨_, hl, rfl⟩).trans hl
        replace hk := (hTb _ _ _ qaa hT _ qaa qaa ⟨_, hk, rfl⟩).trans hk; refine ⟨some c, _, by have := run_endLoop (P := P) hl (by rw [a2]; simp); rw [a2] at this; exact this, hstop _ c pre W0 W2 _ (Nat.le_of_eq b7.symm) b9 hi hT ⟨_, _, hl, rfl⟩ ?_⟩; exact (World.putObj_heap_other qaa).trans hk
end
end Go.Proofs.YtogonjkklioaaaaGreatDoor

namespace Go.Proofs.YtogonjkklioaaaaGreatDoor
open Go
section
variable {F : Fence} {n : Nat} {P : Program} {ops : Array Oper} {Q : Exit → Act → World → Prop} {md : Region.Mode} {S : Array Bool → World → Prop}
def zjp (ops : Array Oper) : Bool := ops.toList.all fun o => match o.op with | .defer _ => false | _ => true
theorem zjo {ops : Array Oper} (h : zjp ops = true) {j : Nat} {o : Oper} (hj : ops[j]? = some o) : ∀ c, o.op ≠ .defer c := by
  intro c hc; have hm : o ∈ ops.toList := by rw [Array.mem_toList_iff]; exact Array.mem_of_getElem? hj
  have h1 := List.all_eq_true.1 h o hm; rw [hc] at h1; cases h1
def NoneOn (ops : Array Oper) (md : Region.Mode) (i : Nat) (L : Array Bool) : Prop := ∀ k ok, ops[k]? = some ok → (∃ e ∈ ok.after, Region.binds md e = true ∧ e.on = i) → L.getD k true = false
def YieldsHIn (P : Program) (md : Region.Mode) (ops : Array Oper) (S : Array Bool → World → Prop) (i : Nat) (o : Oper) (v : Value) (a : Act) : Prop :=
  ((Region.wanted o (yielded ops a.tmps) = true ∧ ∀ L w, NoneOn ops md i L → S L w → (execOp a.eval o).run P w = .ok (.value v) w) ∨
  (Region.wanted o (yielded ops a.tmps) = false ∧ v = undef)) ∧ ∀ w, o.about P w a.eval = none
theorem YieldsHIn.wpOpIn {i : Nat} {o : Oper} {v : Value} {a : Act} {L : Array Bool} (hro : zjp ops = true) (hi : ops[i]? = some o) (hy : YieldsHIn P md ops S i o v a)
    {K : Act → World → Prop} {w : World} (hD : NoneOn ops md i L) (hS : S L w) (h : K (a.put o.dst v) w) : wpOpIn F n P ops Q i K a w := by
  unfold Go.wpOpIn; simp only [hi]; have a2 : ∀ f, o.about P w a.eval = some f → F.fn f := fun f hf => by rw [hy.2 w] at hf; cases hf
  rcases hy.1 with ⟨hw, hv⟩ | ⟨hw, rfl⟩
  · simp only [hw, if_true, Oper.wpIn, Oper.semAt_plain F _ _ (zjo hro hi), hv L w hD hS, Oper.uponIn]; exact ⟨a2, h⟩
  · simp only [hw, Bool.false_eq_true, if_false]; exact ⟨a2, h⟩
theorem YieldsHIn.of_same {i : Nat} {o : Oper} {v : Value} {a a' : Act} (hy : YieldsHIn P md ops S i o v a) (he : execOp a'.eval o = execOp a.eval o)
    (hw : Region.wanted o (yielded ops a'.tmps) = Region.wanted o (yielded ops a.tmps)) (hb : ∀ w, o.about P w a'.eval = o.about P w a.eval) : YieldsHIn P md ops S i o v a' :=
  ⟨by rw [he, hw]; exact hy.1, fun w => by rw [hb w]; exact hy.2 w⟩
theorem wpOpIn_putH {i j : Nat} {oi oj : Oper} {v : Value} (hro : zjp ops = true) (hj : ops[j]? = some oj) (hap : oi.apart ops oj = true)
    (hsi : ∀ cs b, oi.op ≠ .select cs b) (hsj : ∀ cs b, oj.op ≠ .select cs b)
    (hQ : ∀ c a w, Q (.panic c) (a.put oi.dst v) w → Q (.panic c) a w) {K : Act → World → Prop} {a : Act} {w : World}
    (hy : YieldsHIn P md ops S i oi v a) (h : wpOpIn F n P ops Q j K (a.put oi.dst v) w) :
    wpOpIn F n P ops Q j (fun a' w' => YieldsHIn P md ops S i oi v a' ∧ K (a'.put oi.dst v) w') a w := by
  have a3 := zjo hro hj; obtain ⟨h1, h2, h3⟩ := Oper.apart_spec hap
  have keep : ∀ (a : Act), YieldsHIn P md ops S i oi v a → ∀ u, YieldsHIn P md ops S i oi v (a.put oj.dst u) := fun a hy u =>
    hy.of_same (execOp_put oi hsi a oj.dst u h3) (wanted_put oi a oj.dst u h3) (fun w => about_put oi w a oj.dst u h3)
  have a2 : ∀ d, YieldsHIn P md ops S i oi v { a with defers := d :: a.defers } := fun d => hy.of_same rfl rfl (fun _ => rfl); unfold wpOpIn at *; simp only [hj] at *; rw [wanted_put oj a oi.dst v h1, about_put oj w a oi.dst v h1] at h; split
  · rename_i hw
    simp only [hw, if_true] at h; unfold Oper.wpIn at *; rw [about_put oj w a oi.dst v h1] at h; refine ⟨h.1, ?_⟩; have h := h.2; rw [Oper.semAt_plain F _ _ a3, execOp_put oj hsj a oi.dst v h1] at h; rw [Oper.semAt_plain F _ _ a3]; generalize (execOp a.eval oj).run P w = r at *
    cases r with
    | ok x w' =>
      cases x <;> simp only [Oper.uponIn] at h ⊢
      case value u => exact ⟨keep a hy u, by rw [← Act.put_comm a v u h2]; exact h⟩
      case skip => exact ⟨keep a hy _, by rw [← Act.put_comm a v undef h2]; exact h⟩
      case defer d =>
        refine ⟨keep _ (a2 d) _, ?_⟩; rw [← Act.put_comm _ v undef h2, ← Act.put_defers]; exact h
      case enter f args =>
        refine ⟨h.1, CallsIn.mono h.2 fun e w'' he => ?_⟩
        cases e with
        | returned u => exact ⟨keep a hy u, by rw [← Act.put_comm a v u h2]; exact he⟩
        | panicked c => exact hQ _ _ _ he
        | outgrown => exact he
      case row row args => exact ⟨h.1, RowsIn.mono h.2 fun u w'' he => ⟨keep a hy u, by rw [← Act.put_comm a v u h2]; exact he⟩⟩
      case round l f tmps assign body =>
        refine ⟨h.1, RoundIn.mono h.2 fun e w'' he => ?_⟩
        cases e with
        | returned u => exact ⟨keep a hy u, by rw [← Act.put_comm a v u h2]; exact he⟩
        | panicked c => exact hQ _ _ _ he
        | outgrown => exact he
    | halt x w' =>
      cases x <;> simp only [Oper.uponIn] at h ⊢
      case panic u => exact hQ _ _ _ h
  · rename_i hw
    simp only [hw] at h; exact ⟨h.1, keep a hy _, by rw [← Act.put_comm a v undef h2]; exact h.2⟩
def zdc (F : Fence) (n : Nat) (P : Program) (md : Region.Mode) (ops : Array Oper) (Q : Exit → Act → World → Prop) (S : Array Bool → World → Prop) : Nat → Array Bool → Act → World → Prop
  | 0, listed, a, w => Region.ready md ops listed = [] ∧ Q .normal a w
  | fuel + 1, listed, a, w =>
    (Region.ready md ops listed = [] → Q .normal a w) ∧
    ∀ i ∈ Region.ready md ops listed, wpOpIn F n P ops Q i (fun a' w' => S (listed.setIfInBounds i true) w' ∧ zdc F n P md ops Q S fuel (listed.setIfInBounds i true) a' w') a w
theorem zgq : ∀ (fuel : Nat) (listed : Array Bool) (a : Act) (w : World), zdc F n P md ops Q S fuel listed a w → wpAnyIn F n P md ops Q fuel listed a w
  | 0, _, _, _, h => h
  | fuel + 1, _, _, _, h => ⟨h.1, fun i hi => wpOpIn_mono (fun a' w' h' => zgq fuel _ a' w' h'.2) (h.2 i hi)⟩
theorem wpAnyHIn_first {i : Nat} {oi : Oper} {v : Value} (hSi : ∀ L w, S (L.setIfInBounds i true) w ↔ S L w) (hro : zjp ops = true) (hi : ops[i]? = some oi) (hsel : ∀ (j : Nat) (o : Oper) cs b, ops[j]? = some o → o.op ≠ .select cs b)
    (hQ : ∀ c a w, Q (.panic c) (a.put oi.dst v) w → Q (.panic c) a w) :
    ∀ (fuel : Nat) (listed : Array Bool) (a : Act) (w : World),
      (∀ j oj, ops[j]? = some oj → j ≠ i → listed.getD j true = false → (∀ e ∈ oj.after, Region.binds md e = true → e.on ≠ i) → oi.apart ops oj = true) →
      i ∈ Region.ready md ops listed → NoneOn ops md i listed → YieldsHIn P md ops S i oi v a → S listed w →
      zdc F n P md ops Q S fuel (listed.setIfInBounds i true) (a.put oi.dst v) w → zdc F n P md ops Q S (fuel + 1) listed a w := by
  intro fuel
  induction fuel with
  | zero =>
    intro listed a w _ hr hD hy hS H; refine ⟨fun h => (by rw [h] at hr; cases hr), fun j hj => ?_⟩; by_cases hji : j = i
    · subst hji; exact hy.wpOpIn hro hi hD hS ⟨(hSi _ _).2 hS, H⟩
    · have := ready_mono hj hji
      rw [H.1] at this
      cases this
  | succ fuel ih =>
    intro listed a w hfree hr hD hy hS H; refine ⟨fun h => (by rw [h] at hr; cases hr), fun j hj => ?_⟩; by_cases hji : j = i
    · subst hji; exact hy.wpOpIn hro hi hD hS ⟨(hSi _ _).2 hS, H⟩
    · have h1 := H.2 j (ready_mono hj hji)
      obtain ⟨a4, oj, a5, a6⟩ := mem_ready.1 hj
      have a3 : ∀ e ∈ oj.after, Region.binds md e = true → e.on ≠ i := fun e he hb heq => by
        have h1 := a6 e he hb; have h0 := (mem_ready.1 hr).1; rw [heq] at h1; rcases Nat.lt_or_ge i listed.size with h' | h'
        · simp [h'] at h0 h1; rw [h0] at h1; cases h1
        · simp [Array.getElem?_eq_none h'] at h1
      have h2 := wpOpIn_putH hro a5 (hfree j oj a5 hji a4 a3) (fun cs b => hsel i oi cs b hi) (fun cs b => hsel j oj cs b a5) hQ hy h1
      have a2 : ∀ k ok, ops[k]? = some ok → k ≠ i → (listed.setIfInBounds j true).getD k true = false →
          (∀ e ∈ ok.after, Region.binds md e = true → e.on ≠ i) → oi.apart ops ok = true := fun k ok hk hki hun hno => by
        refine hfree k ok hk hki ?_ hno; by_cases hjk : j = k
        · subst hjk; exact a4
        · rw [getD_set_ne true hjk] at hun; exact hun
      have a8 : NoneOn ops md i (listed.setIfInBounds j true) := fun k ok hk hke => by
        by_cases hjk : j = k
        · subst hjk
          obtain ⟨e, he, hb, a7⟩ := hke; rw [a5] at hk; injection hk with hk; subst hk; exact absurd a7 (a3 e he hb)
        · rw [getD_set_ne true hjk]; exact hD k ok hk hke
      have hc : (listed.setIfInBounds i true).setIfInBounds j true = (listed.setIfInBounds j true).setIfInBounds i true := Array.setIfInBounds_comm _ _ (Ne.symm hji); rw [hc] at h2; exact wpOpIn_mono (fun a' w' h3 => ⟨(hSi _ _).1 h3.2.1, ih (listed.setIfInBounds j true) a' w' a2 (ready_mono hr (Ne.symm hji)) a8 h3.1 ((hSi _ _).1 h3.2.1) h3.2.2⟩) h2
theorem zbm {i d : Nat} {oi : Oper} {v : Value} {fuel : Nat} {listed : Array Bool} {a : Act} {w : World} {tm : Array Value} (hro : zjp ops = true)
    (hi : ops[i]? = some oi) (hs : Region.noSelect ops = true) (hf : Region.free md ops listed i = true) (hr : (Region.ready md ops listed).contains i = true) (hd : oi.dst = some d)
    (hSi : ∀ L w, S (L.setIfInBounds i true) w ↔ S L w) (hD : (ops.toList.zipIdx.all fun x => !(x.1.after.any fun e => Region.binds md e && e.on == i) || !(listed.getD x.2 true)) = true)
    (hQ : ∀ c a w, Q (.panic c) (a.put (some d) v) w → Q (.panic c) a w) (hy : (Region.wanted oi (yielded ops a.tmps) = true ∧ ∀ L w, NoneOn ops md i L → S L w → (execOp a.eval oi).run P w = .ok (.value v) w) ∨ (Region.wanted oi (yielded ops a.tmps) = false ∧ v = undef)) (hb : ∀ w, oi.about P w a.eval = none) (hS : S listed w) (hput : a.tmps.setIfInBounds d v = tm)
    (h : zdc F n P md ops Q S fuel (listed.setIfInBounds i true) { tmps := tm, defers := a.defers } w) : zdc F n P md ops Q S (fuel + 1) listed a w := by
  refine wpAnyHIn_first hSi hro hi (Region.noSelect_spec hs) ?_ fuel listed a w (Region.free_spec hi hf) (by simpa using hr) ?_ ⟨hy, hb⟩ hS ?_
  · rw [hd]; exact hQ
  · rintro k ok hk ⟨e, he, a3, a2⟩
    have hm : (ok, k) ∈ ops.toList.zipIdx := by
      rw [List.mem_zipIdx_iff_getElem?]; simpa using hk
    have h1 := List.all_eq_true.1 hD (ok, k) hm; have h2 : (ok.after.any fun e => Region.binds md e && e.on == i) = true := Array.any_eq_true'.2 ⟨e, he, by simp [a3, a2]⟩; rw [h2] at h1; simpa using h1
  · rw [hd]
    subst hput; exact h
theorem zfx {listed : Array Bool} {a : Act} {w : World} (hr : Region.ready md ops listed = []) (h : Q .normal a w) :
    ∀ fuel, zdc F n P md ops Q S fuel listed a w
  | 0 => ⟨hr, h⟩
  | _ + 1 => ⟨fun _ => h, by rw [hr]; simp⟩
def AllReadyHIn (F : Fence) (n : Nat) (P : Program) (md : Region.Mode) (ops : Array Oper) (Q : Exit → Act → World → Prop) (S : Array Bool → World → Prop) (fuel : Nat) (listed : Array Bool) (a : Act) (w : World) (rs : List Nat) : Prop :=
  ∀ i ∈ rs, wpOpIn F n P ops Q i (fun a' w' => S (listed.setIfInBounds i true) w' ∧ zdc F n P md ops Q S fuel (listed.setIfInBounds i true) a' w') a w
theorem AllReadyHIn.nil {fuel : Nat} {listed : Array Bool} {a : Act} {w : World} : AllReadyHIn F n P md ops Q S fuel listed a w [] := fun _ h => by cases h
theorem AllReadyHIn.cons {fuel : Nat} {listed : Array Bool} {a : Act} {w : World} {i : Nat} {o : Oper} {rs : List Nat} (ho : ops[i]? = some o)
    (h : ∀ K' : Act → World → Prop, Shut (∀ a w, S (listed.setIfInBounds i true) w → (S (listed.setIfInBounds i true) w → zdc F n P md ops Q S fuel (listed.setIfInBounds i true) a w) → K' a w) → if Region.wanted o (yielded ops a.tmps) = true then Oper.wpIn F n P o a w K' Q else (∀ f, o.about P w a.eval = some f → F.fn f) ∧ K' (a.put o.dst undef) w)
    (hs : AllReadyHIn F n P md ops Q S fuel listed a w rs) : AllReadyHIn F n P md ops Q S fuel listed a w (i :: rs) := fun j hj => by
  rcases List.mem_cons.1 hj with rfl | hj
  · exact wpOpIn_step ho (fun K' hK => h K' (fun a w hS hW => hK a w ⟨hS, hW hS⟩))
  · exact hs j hj
theorem zcp {rs : List Nat} {fuel : Nat} {listed : Array Bool} {a : Act} {w : World} (hr : Region.ready md ops listed = rs) (hne : rs ≠ [])
    (h : AllReadyHIn F n P md ops Q S fuel listed a w rs) : zdc F n P md ops Q S (fuel + 1) listed a w :=
  ⟨fun h0 => absurd (hr ▸ h0) hne, hr ▸ h⟩
theorem zdv {id : Nat} {a : Act} {w : World} (hm : P.follows .mixedOrders = true) (hS : S (Array.replicate ops.size false) w.drew)
    (h : S (Array.replicate ops.size false) w.drew → zdc F n P .any ops Q S ops.size (Array.replicate ops.size false) a w.drew) : (Code.region id ops true).wpIn F n P Q a w :=
  wpIn_region_any hm (zgq _ _ _ _ (h hS))
end
end Go.Proofs.YtogonjkklioaaaaGreatDoor

namespace Go.Proofs.YtogonjkklioaaaaGreatDoor
open Go.RowKit Go.Shelf
attribute [local go_sem] Oper.semAt_some
abbrev Rx := Cf × Nat
def rxE (x : Rx) : Array Value := #[.agg #[cfV x.1, cfU x.1], .int .i64 ((x.2 : Nat) : Int)]
def rxC (xs : List Rx) : List Ch := xs.map fun x => cfAt x.1
def KeepsTwo (n₀ a b : Nat) (W W' : World) : Prop := Below n₀ W W' ∧ W'.heap[a]? = W.heap[a]? ∧ W'.heap[b]? = W.heap[b]?
theorem KeepsTwo.trans {n₀ a b : Nat} {A B C : World} (h : KeepsTwo n₀ a b A B) (k : KeepsTwo n₀ a b B C) : KeepsTwo n₀ a b A C := ⟨h.1.trans k.1, k.2.1.trans h.2.1, k.2.2.trans h.2.2⟩
theorem KeepsTwo.of {n₀ a b : Nat} {A B : World} (h : Below A.heap.size A B) (hn : n₀ ≤ A.heap.size) (ha : a < A.heap.size) (hb : b < A.heap.size) : KeepsTwo n₀ a b A B := ⟨h.mono hn, h.block a ha, h.block b hb⟩
def RecPre (pre : List Rx) (x : Rx) (W0 W1 : World) : Prop := OwnCf W1 x.1 ∧ W0.heap.size ≤ x.1.lo ∧ x.1.hi ≤ W1.heap.size ∧ okC (cfAt x.1) ∧ pre.length ≤ 100000 ∧ x.2 = (zeb 0 (rxC (pre ++ [x]))).length ∧ x.2 ≤ 1048576
theorem rxC_snoc (xs : List Rx) (x : Rx) : rxC (xs ++ [x]) = rxC xs ++ [cfAt x.1] := by unfold rxC; simp
theorem grownLater {w wr W : World} {R : Nat} (h : w.grownBy wr (some R)) (hb : Below wr.heap.size wr W) : w.grownBy W (some R) := zad h (zae hb (some R))
def RecsPost (s : ByteArray) (J Jx : List Rx → World → Prop) (R : Nat) (e : Ending) (W' : World) : Prop := (∃ v, e = .returned v) ∧
      ((∃ xs W0, LogOf s.data.toList (rxC xs) ∧ J xs W0 ∧ W0.grownBy W' (some R)) ∨ (∃ pre W0, True ∧ Jx pre W0 ∧ W0.grownBy W' (some R)))
theorem records1_in (n : Nat) (hn : 1 ≤ n) (l rb R n₀ : Nat) (s : ByteArray) (J Jx : List Rx → World → Prop) (W : World)
    (hY : ∀ pre x W0 W1, J pre W0 → W0.grownBy W1 (some R) → RecPre pre x W0 W1 → YieldAt Fence.wide (n - 1) Tryz.prog l (rxE x) W1 fun e W' =>
      (e = .returned (.bool true) ∧ J (pre ++ [x]) W' ∧ KeepsTwo n₀ rb R W1 W') ∨ (e = .returned (.bool false) ∧ Jx (pre ++ [x]) W' ∧ KeepsTwo n₀ rb R W1 W'))
    (hs : s.size ≤ 400000) (hb : Blk W rb 58 #[.pointer (some ⟨R, 0, none⟩)]) (hr : Rdr W R s 0) (hne : rb ≠ R) (hnR : n₀ ≤ R) (hn0 : n₀ ≤ W.heap.size) (h0 : J [] W)
    (hE : ∀ W', W'.heap.size ≥ n₀ → (∀ k, k < n₀ → W'.heap[k]? = W.heap[k]?) → EofIn W') (hM : ∀ W', W'.heap.size ≥ n₀ → (∀ k, k < n₀ → W'.heap[k]? = W.heap[k]?) → MaxIn W') (hP : ∀ W', W'.heap.size ≥ n₀ → (∀ k, k < n₀ → W'.heap[k]? = W.heap[k]?) → PowTab W') (hR1 : 0 ≠ R) (hR2 : 1 ≠ R) :
    CallsIn Fence.wide n Tryz.prog 73 #[.func (.yield l) #[] #[], .pointer (some ⟨rb, 0, none⟩)] W (RecsPost s J Jx R) := by
  have HY := hid hY; clear hY; have HE := hid hE; have HM := hid hM; have HP := hid hP; clear hE hM hP; have d4 : Tryz.prog.follows .mixedOrders = true := qab; have hRW := hr.lt; have hbW := hb.lt; refine callsIn_of_wp Tryz.func73 rfl trivial ?_ rfl; simp only [Tryz.ntmps73, List.size_toArray, List.length_cons, List.length_nil, Nat.reduceAdd, Nat.reduceSub, Array.replicate_succ, Array.replicate_zero, List.push_toArray, List.append_toArray, List.nil_append, List.cons_append]; have B0 := hid hb; have R0 := hid hr; clear hb hr
  gi_wp2; gi_loopw [3] (fun t wr => ∃ (pre : List Rx) (W0 : World) (i : Nat), t = .int .i64 (pre.length : Int) ∧ J pre W0 ∧ W0.grownBy wr (some R) ∧ Rdr wr R s i ∧ i ≤ s.size ∧ i = (zeb 0 (rxC pre)).length ∧ s.data.toList = zeb 0 (rxC pre) ++ s.data.toList.drop i ∧ (∀ x ∈ pre, okC (cfAt x.1)) ∧ Blk wr rb 58 #[.pointer (some ⟨R, 0, none⟩)] ∧ (wr.heap.size ≥ n₀ ∧ ∀ k, k < n₀ → wr.heap[k]? = W.heap[k]?)) (fun _ wr => match wr.cell? ⟨R, 1, none⟩ with | some (.int _ j) => s.size - j.toNat | _ => 0)
  case atStart => exact ⟨[], W, 0, rfl, h0, World.grownBy.refl _ _, R0.out, Nat.zero_le _, rfl, by simp [rxC, zeb], fun x h => by simp at h, B0.out, hn0, fun _ _ => rfl⟩
  case round =>
    obtain ⟨pre, W0, i, rfl, hJ, hg, hr, hi, d9, c7, e8, hb, hz, hlow⟩ := hrel; clear R0 B0; have HJ := hid hJ; have HG := hid hg; have HR := hid hr; have HI := hid d9; have HT := hid c7; have HO := hid e8; have HB := hid hb; have HL := hid hlow; have hk4 := zjt 0 (rxC pre); have b4 : (rxC pre).length = pre.length := by unfold rxC; rw [List.length_map]
    have hpl : pre.length ≤ 100000 := qaa; have y1 : wr.cell? ⟨R, 1, none⟩ = some (.int .i64 (i : Int)) := qek; have b0 : wr.cell? ⟨rb, 0, none⟩ = some (.pointer (some ⟨R, 0, none⟩)) := hb.cell 0; have hE := HE.out wr hz hlow; have hM := HM.out wr hz hlow; have c3 : ∀ w', wr.grownBy w' (some R) → PowTab w' := fun w' hw => HP.out w' (by have := hw.size; omega) (fun k hk => (hw.block k qaa qaj).trans (hlow k hk)); have i1 := hr.lt; have h8 := hb.lt; have i5 := hg.size; clear hJ hg hr d9 c7 e8 hb hlow; gi_wp2_with (refine ⟨trivial, ?_⟩; gi_at_call 74; refine (callsIn_wide.2 (record_any R i pre.length s wr HR.out hi qaa hpl hE hR1 hM hR2 c3)).mono ?_; rintro e w5 ⟨A, ca, ra, B, cb, a2, a7, ok, j, rfl, hO, hG, ⟨h6, hm2⟩, b6, e6, a8, hyes, hno⟩)
    have HYS := hid hyes; have HNO := hid hno; have a6 := zac w5 (.cells #[.slice A ra.length ca, .slice B a2.length cb] 25); have B6 := hid ((HB.out.kept a8 (fun e => hne (by injection e))).below a6); have R6 := hid (b6.below a6); have G6 := hid (zad HG.out (zad a8 (zae a6 (some R)))); have d7 := hid (zad a8 (zae a6 (some R))); have C6 := hid (Box.new w5 (.slice A ra.length ca) (.slice B a2.length cb) 25)
    have O6 := hid (show OwnCf (w5.alloc (.cells #[.slice A ra.length ca, .slice B a2.length cb] 25)) ⟨wr.heap.size, a7, w5.heap.size, A, ca, ra, B, cb, a2⟩ from
      ⟨hO.keep (fun b _ h2 => a6.block b h2) (nl _) (nl _), hG.keep (fun b _ h2 => a6.block b qaa) (nl _) (nl _), h6, hm2⟩)
    have hz5 := a8.size; have i4 : (w5.alloc (.cells #[.slice A ra.length ca, .slice B a2.length cb] 25)).heap.size = w5.heap.size + 1 := qag; clear hO hG b6 a8 a6 hyes hno HB HR HG hE hM c3 b0; obtain ⟨W6, a9⟩ : ∃ W6, w5.alloc (.cells #[.slice A ra.length ca, .slice B a2.length cb] 25) = W6 := ⟨_, rfl⟩; rw [a9] at B6 R6 G6 d7 C6 O6 i4; have LW : ∀ W7, Below W6.heap.size W6 W7 → W7.heap.size ≥ n₀ ∧ ∀ k, k < n₀ → W7.heap[k]? = W.heap[k]? := fun W7 h7 => ⟨by have := h7.size; omega, fun k hk => (h7.block k qaa).trans ((d7.out.block k qaa qaj).trans (HL.out k hk))⟩
    have h4 := hid LW; clear LW; have i7 := hid (show W0.heap.size ≤ wr.heap.size from i5); have g5 : W6.cell? ⟨rb, 0, none⟩ = some (.pointer (some ⟨R, 0, none⟩)) := B6.out.cell 0; cases ok
    · gi_wp2
      (try rw [a9])
      refine zdv (S := (fun _ _ => True)) d4 trivial ?_; intro hS_; refine zbm (i := 0) (v := .bool false) rfl (by (simp only [List.getElem?_toArray, List.getElem?_cons_zero]); rfl) qab qab qab qad (fun _ _ => Iff.rfl) qab (fun _ _ _ h => h) (Or.inl ⟨by rfl, ?_⟩) (fun _ => rfl) hS_ qae ?_
      · intro L_ w_ hD_ hSw_; (try dsimp only at hSw_); go_simp
      refine zbm (i := 1) (v := .bool true) rfl qac qab qab qab qad (fun _ _ => Iff.rfl) qab (fun _ _ _ h => h) (Or.inl ⟨by rfl, ?_⟩) (fun _ => rfl) hS_ qae ?_
      · intro L_ w_ hD_ hSw_; (try dsimp only at hSw_); go_simp
      refine zbm (i := 2) (v := .bool true) rfl qac qab qab qab qad (fun _ _ => Iff.rfl) qab (fun _ _ _ h => h) (Or.inl ⟨by rfl, ?_⟩) (fun _ => rfl) hS_ qae ?_
      · intro L_ w_ hD_ hSw_; (try dsimp only at hSw_); go_simp
      refine zbm (i := 3) (v := undef) rfl qac qab qab qab qad (fun _ _ => Iff.rfl) qab (fun _ _ _ h => h) (Or.inr ⟨by rfl, rfl⟩) (fun _ => rfl) hS_ qae ?_; refine zbm (i := 4) (v := undef) rfl qac qab qab qab qad (fun _ _ => Iff.rfl) qab (fun _ _ _ h => h) (Or.inr ⟨by rfl, rfl⟩) (fun _ => rfl) hS_ qae ?_; refine zbm (i := 5) (v := undef) rfl qac qab qab qab qad (fun _ _ => Iff.rfl) qab (fun _ _ _ h => h) (Or.inr ⟨by rfl, rfl⟩) (fun _ => rfl) hS_ qae ?_; refine zbm (i := 6) (v := undef) rfl qac qab qab qab qad (fun _ _ => Iff.rfl) qab (fun _ _ _ h => h) (Or.inr ⟨by rfl, rfl⟩) (fun _ => rfl) hS_ qae ?_
      refine zbm (i := 7) (v := undef) rfl qac qab qab qab qad (fun _ _ => Iff.rfl) qab (fun _ _ _ h => h) (Or.inr ⟨by rfl, rfl⟩) (fun _ => rfl) hS_ qae ?_; refine zbm (i := 9) (v := undef) rfl qac qab qab qab qad (fun _ _ => Iff.rfl) qab (fun _ _ _ h => h) (Or.inr ⟨by rfl, rfl⟩) (fun _ => rfl) hS_ qae ?_; refine zbm (i := 10) (v := undef) rfl qac qab qab qab qad (fun _ _ => Iff.rfl) qab (fun _ _ _ h => h) (Or.inr ⟨by rfl, rfl⟩) (fun _ => rfl) hS_ qae ?_; refine zbm (i := 11) (v := undef) rfl qac qab qab qab qad (fun _ _ => Iff.rfl) qab (fun _ _ _ h => h) (Or.inr ⟨by rfl, rfl⟩) (fun _ => rfl) hS_ qae ?_
      refine zcp (rs := [8]) qab qag ?_; refine AllReadyHIn.cons (o := _) qac (fun K_ hK_ => ?_) AllReadyHIn.nil; split; rename_i e_; exact absurd (show false = true from e_) qan; refine ⟨fun _ _ => trivial, ?_⟩; refine hK_.out _ _ trivial fun hS_ => ?_; clear hK_; refine zcp (rs := [12]) qab qag ?_; refine AllReadyHIn.cons (o := _) qac (fun K_ hK_ => ?_) AllReadyHIn.nil; split; rename_i e_; exact absurd (show false = true from e_) qan; refine ⟨fun _ _ => trivial, ?_⟩; refine hK_.out _ _ trivial fun hS_ => ?_; clear hK_; refine zbm (i := 13) (v := undef) rfl qac qab qab qab qad (fun _ _ => Iff.rfl) qab (fun _ _ _ h => h) (Or.inr ⟨by rfl, rfl⟩) (fun _ => rfl) hS_ qae ?_
      refine zbm (i := 14) (v := undef) rfl qac qab qab qab qad (fun _ _ => Iff.rfl) qab (fun _ _ _ h => h) (Or.inr ⟨by rfl, rfl⟩) (fun _ => rfl) hS_ qae ?_; refine zbm (i := 15) (v := undef) rfl qac qab qab qab qad (fun _ _ => Iff.rfl) qab (fun _ _ _ h => h) (Or.inr ⟨by rfl, rfl⟩) (fun _ => rfl) hS_ qae ?_; refine zbm (i := 16) (v := .bool true) rfl qac qab qab qab qad (fun _ _ => Iff.rfl) qab (fun _ _ _ h => h) (Or.inl ⟨by rfl, ?_⟩) (fun _ => rfl) hS_ qae ?_
      · intro L_ w_ hD_ hSw_; (try dsimp only at hSw_); go_simp
      refine zfx qab ?_ _; clear hS_; gi_wp2; refine bodyPost_ret (results_none rfl _ _ _) rfl ⟨⟨_, rfl⟩, .inl ⟨pre, W0, ⟨fun c hc => ?_, ⟨_, HT.out.symm⟩, fun c r hc he => ?_⟩, HJ.out, grownLater G6.out (Below.refl W6.heap.size W6).drew⟩⟩
      · unfold rxC at hc; obtain ⟨x, hx, rfl⟩ := List.mem_map.1 hc; exact HO.out x hx
      · have h1 := HT.out.symm.trans he
        exact HNO.out qdp c r hc (by rw [b4] at h1; exact List.append_cancel_left h1)
    · obtain ⟨b5, b9, e7⟩ := HYS.out qdp
      have g1 := hid b5; have g8 := hid b9; have g2 := hid e7; have hln := line_len pre.length (chC (ra.map rAt, a2.map rAt)); have hij : i + 4 ≤ j := qaa; clear b5 b9 e7 HYS HNO; have i6 : IntKind.i64.wrap ((s.size : Int) - ((s.size - j : Nat) : Int)) = (j : Int) := qao; obtain ⟨_, c0, c1⟩ := C6.out; gi_wp2
      (try rw [a9])
      refine zdv (S := (fun L Wx => Wx.cell? ⟨rb, 0, none⟩ = some (.pointer (some ⟨R, 0, none⟩)) ∧ (L.getD 14 true = false → Wx.cell? ⟨w5.heap.size, 0, none⟩ = some (.slice A ra.length ca) ∧ Wx.cell? ⟨w5.heap.size, 1, none⟩ = some (.slice B a2.length cb)))) d4 ⟨g5, fun _ => ⟨c0, c1⟩⟩ ?_; intro hS_; refine zbm (i := 0) (v := .bool true) rfl (by (simp only [List.getElem?_toArray, List.getElem?_cons_zero]); rfl) qab qab qab qad (fun L w => by (try dsimp only); (try rw [getD_set_ne true (show 0 ≠ 14 by decide)])) qab (fun _ _ _ h => h) (Or.inl ⟨by rfl, ?_⟩) (fun _ => rfl) hS_ qae ?_
      · intro L_ w_ hD_ hSw_; (try dsimp only at hSw_); go_simp
      refine zbm (i := 1) (v := .bool false) rfl qac qab qab qab qad (fun L w => by (try dsimp only); (try rw [getD_set_ne true (show 1 ≠ 14 by decide)])) qab (fun _ _ _ h => h) (Or.inl ⟨by rfl, ?_⟩) (fun _ => rfl) hS_ qae ?_
      · intro L_ w_ hD_ hSw_; (try dsimp only at hSw_); go_simp
      refine zbm (i := 2) (v := .bool false) rfl qac qab qab qab qad (fun L w => by (try dsimp only); (try rw [getD_set_ne true (show 2 ≠ 14 by decide)])) qab (fun _ _ _ h => h) (Or.inl ⟨by rfl, ?_⟩) (fun _ => rfl) hS_ qae ?_
      · intro L_ w_ hD_ hSw_; (try dsimp only at hSw_); go_simp
      refine zbm (i := 3) (v := .func (.yield l) #[] #[]) rfl qac qab qab qab qad (fun L w => by (try dsimp only); (try rw [getD_set_ne true (show 3 ≠ 14 by decide)])) qab (fun _ _ _ h => h) (Or.inl ⟨by rfl, ?_⟩) (fun _ => rfl) hS_ qae ?_
      · intro L_ w_ hD_ hSw_; (try dsimp only at hSw_); go_simp
      refine zbm (i := 4) (v := (.agg #[.slice A ra.length ca, .slice B a2.length cb])) rfl qac qab qab qab qad (fun L w => by (try dsimp only); (try rw [getD_set_ne true (show 4 ≠ 14 by decide)])) qab (fun _ _ _ h => h) (Or.inl ⟨by rfl, ?_⟩) (fun _ => rfl) hS_ qae ?_
      · intro L_ w_ hD_ hSw_; (try dsimp only at hSw_); obtain ⟨z0, z1⟩ := hSw_.2 (hD_ 14 _ qad ⟨_, Array.mem_of_getElem? (i := 1) qad, by rfl, by rfl⟩); go_simp
      refine zbm (i := 5) (v := (.pointer (some ⟨R, 0, none⟩))) rfl qac qab qab qab qad (fun L w => by (try dsimp only); (try rw [getD_set_ne true (show 5 ≠ 14 by decide)])) qab (fun _ _ _ h => h) (Or.inl ⟨by rfl, ?_⟩) (fun _ => rfl) hS_ qae ?_
      · intro L_ w_ hD_ hSw_; (try dsimp only at hSw_); obtain ⟨z0, _⟩ := hSw_; go_simp
      refine zbm (i := 6) (v := (.pointer (some ⟨R, 0, none⟩))) rfl qac qab qab qab qad (fun L w => by (try dsimp only); (try rw [getD_set_ne true (show 6 ≠ 14 by decide)])) qab (fun _ _ _ h => h) (Or.inl ⟨by rfl, ?_⟩) (fun _ => rfl) hS_ qae ?_
      · intro L_ w_ hD_ hSw_; (try dsimp only at hSw_); go_simp
      refine zbm (i := 7) (v := (.pointer (some ⟨R, 0, none⟩))) rfl qac qab qab qab qad (fun L w => by (try dsimp only); (try rw [getD_set_ne true (show 7 ≠ 14 by decide)])) qab (fun _ _ _ h => h) (Or.inl ⟨by rfl, ?_⟩) (fun _ => rfl) hS_ qae ?_
      · intro L_ w_ hD_ hSw_; (try dsimp only at hSw_); go_simp
      refine zbm (i := 9) (v := (.pointer (some ⟨R, 0, none⟩))) rfl qac qab qab qab qad (fun L w => by (try dsimp only); (try rw [getD_set_ne true (show 9 ≠ 14 by decide)])) qab (fun _ _ _ h => h) (Or.inl ⟨by rfl, ?_⟩) (fun _ => rfl) hS_ qae ?_
      · intro L_ w_ hD_ hSw_; (try dsimp only at hSw_); obtain ⟨z0, _⟩ := hSw_; go_simp
      refine zbm (i := 10) (v := (.pointer (some ⟨R, 0, none⟩))) rfl qac qab qab qab qad (fun L w => by (try dsimp only); (try rw [getD_set_ne true (show 10 ≠ 14 by decide)])) qab (fun _ _ _ h => h) (Or.inl ⟨by rfl, ?_⟩) (fun _ => rfl) hS_ qae ?_
      · intro L_ w_ hD_ hSw_; (try dsimp only at hSw_); go_simp
      refine zbm (i := 11) (v := (.pointer (some ⟨R, 0, none⟩))) rfl qac qab qab qab qad (fun L w => by (try dsimp only); (try rw [getD_set_ne true (show 11 ≠ 14 by decide)])) qab (fun _ _ _ h => h) (Or.inl ⟨by rfl, ?_⟩) (fun _ => rfl) hS_ qae ?_
      · intro L_ w_ hD_ hSw_; (try dsimp only at hSw_); go_simp
      refine zcp (rs := [8]) qab qag ?_; refine AllReadyHIn.cons (o := _) qac (fun K_ hK_ => ?_) AllReadyHIn.nil; rw [if_pos qad]; go_simp; refine ⟨trivial, ?_⟩; gi_at_call 75; refine (callsIn_wide.2 (rdSize_any R j s W6.drew (R6.out.below (Below.refl _ _).drew))).mono ?_; rintro e W7 ⟨rfl, hb7⟩; have a3 : Below W6.heap.size W6 W7 := zjg hb7; have R7 := R6.out.below a3; have B7 := B6.out.below a3; obtain ⟨_, c0, c1⟩ := C6.out.later a3; refine hK_.out _ _ ⟨B7.cell 0, fun _ => ⟨c0, c1⟩⟩ fun hS_ => ?_; clear hK_; refine zcp (rs := [12]) qab qag ?_; refine AllReadyHIn.cons (o := _) qac (fun K_ hK_ => ?_) AllReadyHIn.nil
      rw [if_pos qad]; go_simp; refine ⟨trivial, ?_⟩; gi_at_call 31; refine (callsIn_wide.2 (rdLen_any R j s W7 R7 e6 qaa)).mono ?_; rintro e W8 ⟨rfl, hb8⟩; have a5 := zaa a3 hb8; have R8 := hid (R7.below hb8); have B8 := hid (B7.below hb8); obtain ⟨_, c0, c1⟩ := C6.out.later a5; have a4 := hid a5; refine hK_.out _ _ ⟨B8.out.cell 0, fun _ => ⟨c0, c1⟩⟩ fun hS_ => ?_; clear hK_; clear hb7 a3 R7 B7 hb8 c0 c1 a5; refine zbm (i := 13) (v := .int .i64 (j : Int)) rfl qac qab qab qab qad (fun L w => by (try dsimp only); (try rw [getD_set_ne true (show 13 ≠ 14 by decide)])) qab (fun _ _ _ h => h) (Or.inl ⟨by rfl, ?_⟩) (fun _ => rfl) hS_ qae ?_
      · intro L_ w_ hD_ hSw_; (try dsimp only at hSw_); go_simp
      refine zcp (rs := [14]) qab qag ?_; refine AllReadyHIn.cons (o := _) qac (fun K_ hK_ => ?_) AllReadyHIn.nil; rw [if_pos qad]; have hz8 := a4.out.size; have b7 : (zeb 0 (rxC (pre ++ [(⟨wr.heap.size, a7, w5.heap.size, A, ca, ra, B, cb, a2⟩, j)]))).length = j := by rw [rxC_snoc, zdy, List.length_append, ← HI.out, Nat.zero_add, b4]; exact g2.out.symm
      have hyy : YieldAt Fence.wide (n - 1) Tryz.prog l #[.agg #[.slice A ra.length ca, .slice B a2.length cb], .int .i64 (j : Int)] W8 (fun e W' => (e = .returned (.bool true) ∧ J (pre ++ [(⟨wr.heap.size, a7, w5.heap.size, A, ca, ra, B, cb, a2⟩, j)]) W' ∧ KeepsTwo n₀ rb R W8 W') ∨ (e = .returned (.bool false) ∧ Jx (pre ++ [(⟨wr.heap.size, a7, w5.heap.size, A, ca, ra, B, cb, a2⟩, j)]) W' ∧ KeepsTwo n₀ rb R W8 W')) := HY.out pre (⟨wr.heap.size, a7, w5.heap.size, A, ca, ra, B, cb, a2⟩, j) W0 W8 HJ.out (grownLater G6.out a4.out)
        ⟨O6.out.keep (fun b _ h2 => a4.out.block b (by show b < W6.heap.size; have : b < w5.heap.size := h2; omega)), i7.out, by show w5.heap.size ≤ W8.heap.size; omega, g1.out, hpl, b7.symm, by show j ≤ 1048576; omega⟩
      obtain ⟨fn, tmps, assign, body, hy, g6⟩ := hyy; go_simp; refine g6.mono ?_; rintro e W9 (⟨rfl, g0, hk9⟩ | ⟨rfl, b3, hk9⟩)
      · have B9 : Blk W9 rb 58 #[.pointer (some ⟨R, 0, none⟩)] := hk9.2.1.trans B8.out
        have R9 : Rdr W9 R s j := by obtain ⟨p, hr⟩ := R8.out; exact ⟨p, hk9.2.2.trans hr⟩
        refine hK_.out _ _ ⟨B9.cell 0, fun h => by cases h⟩ fun hS_ => ?_; clear hK_; refine zbm (i := 15) (v := .bool false) rfl qac qab qab qab qad (fun L w => by (try dsimp only); (try rw [getD_set_ne true (show 15 ≠ 14 by decide)])) qab (fun _ _ _ h => h) (Or.inl ⟨by rfl, ?_⟩) (fun _ => rfl) hS_ qae ?_
        · intro L_ w_ hD_ hSw_; (try dsimp only at hSw_); go_simp
        refine zbm (i := 16) (v := .bool false) rfl qac qab qab qab qad (fun L w => by (try dsimp only); (try rw [getD_set_ne true (show 16 ≠ 14 by decide)])) qab (fun _ _ _ h => h) (Or.inl ⟨by rfl, ?_⟩) (fun _ => rfl) hS_ qae ?_
        · intro L_ w_ hD_ hSw_; (try dsimp only at hSw_); go_simp
        refine zfx qab ?_ _; have i3 := hid g0; have HB9 := hid B9; have g7 := hid R9; have h5 := hid hk9; have z9 : W9.cell? ⟨R, 1, none⟩ = some (.int .i64 (j : Int)) := by obtain ⟨p, hr⟩ := R9; exact hr.cell 1
        have i8 := h4.out W8 a4.out; have hk1 := hk9.1.size; clear g0 B9 R9 hk9 hS_; gi_wp2; go_roundw
        case rel => exact ⟨pre ++ [(⟨wr.heap.size, a7, w5.heap.size, A, ca, ra, B, cb, a2⟩, j)], W9, j, by rw [List.length_append]; go_num, i3.out, World.grownBy.refl _ _, g7.out, e6, b7.symm, by rw [rxC_snoc, zdy, Nat.zero_add, b4, List.append_assoc]; exact HT.out.trans (congrArg _ g8.out), fun x hx => (by rcases List.mem_append.1 hx with hx | hx; exact HO.out x hx; rw [List.mem_singleton.1 hx]; exact g1.out), HB9.out, by omega, fun k hk => (h5.out.1.block k hk).trans (i8.2 k hk)⟩
        case measure =>
          rw [z9, y1]; show s.size - ((j : Nat) : Int).toNat < s.size - ((i : Nat) : Int).toNat; omega
      · have B9 : Blk W9 rb 58 #[.pointer (some ⟨R, 0, none⟩)] := hk9.2.1.trans B8.out
        have R9 : Rdr W9 R s j := by obtain ⟨p, hr⟩ := R8.out; exact ⟨p, hk9.2.2.trans hr⟩
        refine hK_.out _ _ ⟨B9.cell 0, fun h => by cases h⟩ fun hS_ => ?_; clear hK_; refine zbm (i := 15) (v := .bool true) rfl qac qab qab qab qad (fun L w => by (try dsimp only); (try rw [getD_set_ne true (show 15 ≠ 14 by decide)])) qab (fun _ _ _ h => h) (Or.inl ⟨by rfl, ?_⟩) (fun _ => rfl) hS_ qae ?_
        · intro L_ w_ hD_ hSw_; (try dsimp only at hSw_); go_simp
        refine zbm (i := 16) (v := .bool true) rfl qac qab qab qab qad (fun L w => by (try dsimp only); (try rw [getD_set_ne true (show 16 ≠ 14 by decide)])) qab (fun _ _ _ h => h) (Or.inl ⟨by rfl, ?_⟩) (fun _ => rfl) hS_ qae ?_
        · intro L_ w_ hD_ hSw_; (try dsimp only at hSw_); go_simp
        refine zfx qab ?_ _; gi_wp2; refine bodyPost_ret (results_none rfl _ _ _) rfl ⟨⟨_, rfl⟩, .inr ⟨_, W9, trivial, b3, World.grownBy.refl _ _⟩⟩
end Go.Proofs.YtogonjkklioaaaaGreatDoor
