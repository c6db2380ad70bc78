/-
  A loop over an iterator that has memory of its own: what it turns between two rounds is said by a relation of the iterator's choice.
-/
import Derived.RangeFuncNested
namespace Go.Proofs.YtiekfjlhioekcaaDoor
open Go.RowKit

/-- An iterator's contract: T: what it does between rounds (told from where the call began); Kp: what a round keeps for it; Pre: what holds when it hands over x. -/
def SeqT {α : Type} (F : Fence) (n : Nat) (P : Program) (g : Nat) (lb : Array Value) (encs : α → Array Value) (T : Nat → World → World → Prop) (Kp : World → World → Prop) (Pre : List α → α → World → World → Prop) (S Sp : List α → World → World → Prop) (w : World) : Prop :=
  ∀ (l : Nat) (J Jx : List α → World → Prop) (W : World), Below w.heap.size w W →
    (∀ pre x W0 W1, J pre W0 → T W.heap.size W0 W1 → Pre pre x W0 W1 → YieldAt F (n - 1) P l (encs x) W1 fun e W' =>
      (e = .returned (.bool true) ∧ J (pre ++ [x]) W' ∧ Kp W1 W') ∨ (e = .returned (.bool false) ∧ Jx (pre ++ [x]) W' ∧ Kp W1 W')) →
    J [] W →
    CallsIn F n P g (#[.func (.yield l) #[] #[]] ++ lb) W fun e W' => (∃ v, e = .returned v) ∧
      ((∃ xs W0, S xs W0 W' ∧ J xs W0 ∧ T W.heap.size W0 W') ∨ (∃ pre W0, Sp pre W0 W' ∧ Jx pre W0 ∧ T W.heap.size W0 W'))

theorem SeqT.inRound {α : Type} {F : Fence} {n : Nat} {P : Program} {g : Nat} {lb : Array Value} {encs : α → Array Value} {T : Nat → World → World → Prop} {Kp : World → World → Prop} {Pre : List α → α → World → World → Prop} {S Sp : List α → World → World → Prop} {w : World} (l : Nat)
    (h : SeqT F n P g lb encs T Kp Pre S Sp w) : SeqT (F.inRound l) n P g lb encs T Kp Pre S Sp w := h

/-- How the body of a round may be left. -/
def postT {α : Type} (B : Nat) (Kp : World → World → Prop) (I : List α → World → Prop) (Ix : Code → List α → World → Prop) (xs : List α) (W : World) : Exit → Act → World → Prop
  | .normal, _, W' => KeepsFrom B W W' ∧ Kp W W' ∧ I xs W'
  | .ret, _, W' => KeepsFrom B W W' ∧ Kp W W' ∧ Ix .ret xs W'
  | .exit id, _, W' => KeepsFrom B W W' ∧ Kp W W' ∧ Ix (.exit id) xs W'
  | .goto t, _, W' => KeepsFrom B W W' ∧ Kp W W' ∧ Ix (.goto t) xs W'
  | .panic _, _, _ => False
  | .outgrown, _, _ => False

/-- What says nothing of what the loop's record at l holds. -/
def Bookish (l : Nat) (I : World → Prop) : Prop := ∀ (W : World) (r o' : Loop), I W → W.heap[l]? = some (.loop r) → I (W.putObj l (.loop o'))

section
variable {F : Fence} {n : Nat} {P : Program}

set_option maxHeartbeats 1000000 in
theorem wpIn_rangeT {α : Type} {g : Operand} {ps : Array Tmp} {assign body : Code} {Q : Exit → Act → World → Prop} {a : Act} {w : World}
    (hro : F.round = none) (h1 : 1 ≤ n) {gf : Nat} {lb : Array Value} (hg : a.eval g = .func (.func gf) #[] lb) (hFg : F.fn gf) (eg : ∀ args w, (callFunc gf args).run P w = .ok (.enter gf args) w)
    {encs : α → Array Value} {T : Nat → World → World → Prop} {Kp : World → World → Prop} {Pre : List α → α → World → World → Prop} {S Sp : List α → World → World → Prop} {w0 : World} (hseq : SeqT F (n - 1) P gf lb encs T Kp Pre S Sp w0)
    (hKt : ∀ {A B C : World}, Kp A B → Kp B C → Kp A C) (hKb : ∀ (W : World) (r r' : Loop), W.heap[w.heap.size + 1]? = some (.loop r) → Kp W (W.putObj (w.heap.size + 1) (.loop r'))) (hb0 : Below w0.heap.size w0 w) (hps : ∀ x, (encs x).size = ps.size)
    (hTb : ∀ (B : Nat) (X Y : World), w.heap.size + 2 ≤ B → T B X Y → ∀ k, w.heap.size ≤ k → k < w.heap.size + 2 → (∃ o, X.heap[k]? = some o ∧ o.isCells = false) → Y.heap[k]? = X.heap[k]?)
    (I : List α → World → Prop) (Ix : Code → List α → World → Prop) (hI : ∀ s, Bookish (w.heap.size + 1) (I s)) (hIx : ∀ c s, Bookish (w.heap.size + 1) (Ix c s)) (h0 : ∀ W1, Below w.heap.size w W1 → W1.heap.size = w.heap.size + 2 → I [] W1)
    (Ax : List α → α → Act → World → Prop) (hAx : ∀ pre x a', Bookish (w.heap.size + 1) (Ax pre x a'))
    (hassign : ∀ (B : Nat) (pre : List α) (x : α) (W0 W1 : World) (K : Act → World → Prop), w.heap.size + 2 ≤ B → I pre W0 → T B W0 W1 → Pre pre x W0 W1 → (∀ a' W', KeepsFrom w.heap.size W1 W' → Kp W1 W' → Ax pre x a' W' → K a' W') →
      assign.wpIn (F.inRound (w.heap.size + 1)) (n - 1 - 1) P (Exit.then K (fun _ _ _ => False)) { tmps := (ps.zip (encs x)).foldl (fun t (p, v) => t.setIfInBounds p v) a.tmps, defers := [] } W1)
    (hbody : ∀ (pre : List α) (x : α) (a' : Act) (W : World), (∃ r, W.heap[w.heap.size + 1]? = some (.loop r)) → Ax pre x a' W → body.wpIn (F.inRound (w.heap.size + 1)) (n - 1 - 1) P (postT w.heap.size Kp I Ix (pre ++ [x]) W) a' W)
    (hdone : ∀ (B : Nat) (xs : List α) (W0 W W' : World), w.heap.size + 2 ≤ B → S xs W0 W → I xs W0 → T B W0 W → (∃ r r', W.heap[w.heap.size + 1]? = some (.loop r) ∧ W' = W.putObj (w.heap.size + 1) (.loop r')) → W'.heap[w.heap.size]? = some (.deferred (some [])) → Q .normal { a with defers := { target := .collected w.heap.size, args := #[] } :: a.defers } W')
    (hstop : ∀ (B : Nat) (c : Code) (pre : List α) (W0 W W' : World), w.heap.size + 2 ≤ B → Sp pre W0 W → Ix c pre W0 → T B W0 W → (∃ r r', W.heap[w.heap.size + 1]? = some (.loop r) ∧ W' = W.putObj (w.heap.size + 1) (.loop r')) → W'.heap[w.heap.size]? = some (.deferred (some [])) → c.wpIn F n P Q { a with defers := { target := .collected w.heap.size, args := #[] } :: a.defers } W') :
    (Code.rangeFunc g ps assign body).wpIn F n P Q a w := by
  refine wpIn_rangeFunc ?_
  intro fn hfn
  rw [hro]
  obtain ⟨rec, hrec⟩ : ∃ rec : LoopState → Option Code → Loop, rec = fun st pe => { state := st, pending := pe, fn, tmps := a.tmps, params := ps, assign, body, defers := w.heap.size } := ⟨_, rfl⟩
  obtain ⟨W1, hW1⟩ : ∃ W1, (w.alloc (.deferred (some []))).alloc (.loop (rec .ready none)) = W1 := ⟨_, rfl⟩
  have hL1 : W1.heap[w.heap.size + 1]? = some (.loop (rec .ready none)) := by
    rw [← hW1]; have := World.alloc_heap_new (w.alloc (.deferred (some []))) (.loop (rec .ready none)); rwa [World.size_alloc] at this
  have hK1 : W1.heap[w.heap.size]? = some (.deferred (some [])) := by
    rw [← hW1]; exact (Below.heap_alloc _ _ _ (by simp)).trans (World.alloc_heap_new w _)
  have hZ1 : W1.heap.size = w.heap.size + 2 := by rw [← hW1]; simp
  have hbw : Below w.heap.size w W1 := by
    rw [← hW1]; exact ((Below.refl _ w).alloc (Nat.le_refl _) _).alloc (by simp) _
  have hb1 : Below w0.heap.size w0 W1 := hb0.trans (hbw.mono hb0.size)
  have hI1 : I [] W1 := h0 W1 hbw hZ1
  refine ⟨w.heap.size + 1, [{ target := .collected w.heap.size, args := #[] }], W1, { target := .fn (.func gf) lb, args := #[.func (.yield (w.heap.size + 1)) #[] #[]] }, W1, gf,
    #[.func (.yield (w.heap.size + 1)) #[] #[]] ++ lb, W1, ?_, ?_, ?_, ?_, fun _ => h1, ?_⟩
  · rw [← hW1, hrec]; exact run_enterLoop_outer _ _ _ _ _
  · simp only [resolve, hg]
    simp [go_sem]
  · intro f' hf'; simp [Target.leads] at hf'; subst hf'; exact hFg
  · simp [invoke, go_sem, eg]
  · refine (hseq (w.heap.size + 1)
      (fun pre W => I pre W ∧ W.heap[w.heap.size + 1]? = some (.loop (rec .ready none)) ∧ W.heap[w.heap.size]? = some (.deferred (some [])))
      (fun pre W => ∃ c, Ix c pre W ∧ W.heap[w.heap.size + 1]? = some (.loop (rec .done (some c))) ∧ W.heap[w.heap.size]? = some (.deferred (some [])))
      W1 hb1 ?_ ⟨hI1, hL1, hK1⟩).mono ?_
    · rintro pre x Wa W ⟨hi, hl, hk⟩ hT hpre
      replace hl : W.heap[w.heap.size + 1]? = some (.loop (rec .ready none)) := (hTb _ _ _ (by omega) hT _ (by omega) (by omega) ⟨_, hl, rfl⟩).trans hl
      replace hk : W.heap[w.heap.size]? = some (.deferred (some [])) := (hTb _ _ _ (by omega) hT _ (by omega) (by omega) ⟨_, hk, rfl⟩).trans hk
      have hy := run_yield (P := P) (args := encs x) hl (by rw [hrec]; exact hps x)
      rw [hrec] at hy
      refine ⟨fn, _, assign, body, hy, roundIn_of_wpIn hfn (hassign _ pre x Wa W _ (by omega) hi hT hpre ?_)⟩
      clear hy hpre hT
      intro a' Wb hkfa hkpa hax
      replace hl := hkfa.same _ _ (by omega) hl rfl
      replace hk := hkfa.same _ _ (Nat.le_refl _) hk rfl
      have hlt : w.heap.size + 1 < Wb.heap.size := (Array.getElem?_eq_some_iff.1 hl).1
      refine ⟨_, run_beginRound hl (by rw [hrec]), ?_⟩
      have hl2 : (Wb.putObj (w.heap.size + 1) (.loop { rec .ready none with state := .busy })).heap[w.heap.size + 1]? = some (.loop { rec .ready none with state := .busy }) := World.putObj_heap_same hlt
      have hk2 : (Wb.putObj (w.heap.size + 1) (.loop { rec .ready none with state := .busy })).heap[w.heap.size]? = some (.deferred (some [])) := (World.putObj_heap_other (by omega)).trans hk
      have hw2 : Kp Wb (Wb.putObj (w.heap.size + 1) (.loop { rec .ready none with state := .busy })) := hKb _ _ _ hl
      refine wpIn_mono (hbody pre x a' _ ⟨_, hl2⟩ (hAx pre x a' _ _ _ hax hl)) ?_
      have fin : ∀ (jump : Option Code) (W3 : World), KeepsFrom w.heap.size (Wb.putObj (w.heap.size + 1) (.loop { rec .ready none with state := .busy })) W3 →
          (Instr.endRound (w.heap.size + 1) jump).run P W3 = .ok (.bool jump.isNone) (W3.putObj (w.heap.size + 1) (.loop (rec (if jump.isNone then .ready else .done) jump))) ∧
          W3.heap[w.heap.size + 1]? = some (.loop { rec .ready none with state := .busy }) ∧
          (W3.putObj (w.heap.size + 1) (.loop (rec (if jump.isNone then .ready else .done) jump))).heap[w.heap.size + 1]? = some (.loop (rec (if jump.isNone then .ready else .done) jump)) ∧
          (W3.putObj (w.heap.size + 1) (.loop (rec (if jump.isNone then .ready else .done) jump))).heap[w.heap.size]? = some (.deferred (some [])) := fun jump W3 hk3 => by
        have hl3 := hk3.same _ _ (by omega) hl2 rfl
        have := run_endRound (P := P) jump hl3
        rw [hrec] at this ⊢
        exact ⟨this, by rw [hrec] at hl3; exact hl3, World.putObj_heap_same (Array.getElem?_eq_some_iff.1 hl3).1, (World.putObj_heap_other (by omega)).trans (hk3.same _ _ (Nat.le_refl _) hk2 rfl)⟩
      rintro e a3 W3 hp
      cases e with
      | normal =>
        obtain ⟨hk3, hkp3, hi3⟩ := hp
        obtain ⟨hr, hl3, hl4, hk4⟩ := fin none W3 hk3
        exact ⟨_, _, hr, .inl ⟨rfl, ⟨hI _ _ _ _ hi3 hl3, hl4, hk4⟩, hKt hkpa (hKt (hKt hw2 hkp3) (hKb _ _ _ hl3))⟩⟩
      | ret =>
        obtain ⟨hk3, hkp3, hi3⟩ := hp
        obtain ⟨hr, hl3, hl4, hk4⟩ := fin (some .ret) W3 hk3
        exact ⟨_, _, hr, .inr ⟨rfl, ⟨.ret, hIx _ _ _ _ _ hi3 hl3, hl4, hk4⟩, hKt hkpa (hKt (hKt hw2 hkp3) (hKb _ _ _ hl3))⟩⟩
      | exit id =>
        obtain ⟨hk3, hkp3, hi3⟩ := hp
        obtain ⟨hr, hl3, hl4, hk4⟩ := fin (some (.exit id)) W3 hk3
        exact ⟨_, _, hr, .inr ⟨rfl, ⟨.exit id, hIx _ _ _ _ _ hi3 hl3, hl4, hk4⟩, hKt hkpa (hKt (hKt hw2 hkp3) (hKb _ _ _ hl3))⟩⟩
      | goto t =>
        obtain ⟨hk3, hkp3, hi3⟩ := hp
        obtain ⟨hr, hl3, hl4, hk4⟩ := fin (some (.goto t)) W3 hk3
        exact ⟨_, _, hr, .inr ⟨rfl, ⟨.goto t, hIx _ _ _ _ _ hi3 hl3, hl4, hk4⟩, hKt hkpa (hKt (hKt hw2 hkp3) (hKb _ _ _ hl3))⟩⟩
      | panic ch => exact hp.elim
      | outgrown => exact hp.elim
    · rintro e W2 ⟨⟨v, rfl⟩, (⟨xs, W0, hS, ⟨hi, hl, hk⟩, hT⟩ | ⟨pre, W0, hSp, ⟨c, hi, hl, hk⟩, hT⟩)⟩
      · replace hl := (hTb _ _ _ (by omega) hT _ (by omega) (by omega) ⟨_, hl, rfl⟩).trans hl
        replace hk := (hTb _ _ _ (by omega) hT _ (by omega) (by omega) ⟨_, hk, rfl⟩).trans hk
        refine ⟨none, _, by have := run_endLoop (P := P) hl (by rw [hrec]; simp); rw [hrec] at this; exact this, hdone _ xs W0 W2 _ (Nat.le_of_eq hZ1.symm) hS hi hT ⟨_, _, hl, rfl⟩ ?_⟩
        exact (World.putObj_heap_other (by omega)).trans hk
      · replace hl := (hTb _ _ _ (by omega) hT _ (by omega) (by omega) ⟨_, hl, rfl⟩).trans hl
        replace hk := (hTb _ _ _ (by omega) hT _ (by omega) (by omega) ⟨_, hk, rfl⟩).trans hk
        refine ⟨some c, _, by have := run_endLoop (P := P) hl (by rw [hrec]; simp); rw [hrec] at this; exact this, hstop _ c pre W0 W2 _ (Nat.le_of_eq hZ1.symm) hSp hi hT ⟨_, _, hl, rfl⟩ ?_⟩
        exact (World.putObj_heap_other (by omega)).trans hk
end

end Go.Proofs.YtiekfjlhioekcaaDoor
