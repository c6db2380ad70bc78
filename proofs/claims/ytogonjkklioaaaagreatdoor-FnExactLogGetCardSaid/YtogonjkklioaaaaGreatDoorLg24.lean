/-
  Texts of one claim, put together.
-/
import Derived.Test.YtogonjkklioaaaaGreatDoorLg23
import Derived.Test.YtogonjkklioaaaaGreatDoorLg20
import Derived.Deep.AppendLies
import Derived.OwnWalkIn
import Derived.RangeFuncNested
import Derived.OrdersHeld
import Derived.OrdersIn
import Derived.Deep.RegionHeld
namespace Go.Proofs.YtogonjkklioaaaaGreatDoor
open Go.RowKit

/-- A change as it lies: where its memory begins, where what goes ends, where it ends; what comes; what goes. -/
structure Cf where
  lo : Nat
  mid : Nat
  hi : Nat
  A : Option Addr
  c : Nat
  ra : List Rf
  B : Option Addr
  d : Nat
  rb : List Rf

def cfAt (x : Cf) : Ch := (x.ra.map rAt, x.rb.map rAt)
def cfV (x : Cf) : Value := .slice x.A x.ra.length x.c
def cfU (x : Cf) : Value := .slice x.B x.rb.length x.d

/-- It lies in memory of its own. -/
structure OwnCf (W : World) (x : Cf) : Prop where
  a : OwnRefs W x.mid x.hi x.A x.ra.length x.c x.ra
  b : OwnRefs W x.lo x.mid x.B x.rb.length x.d x.rb
  h1 : x.lo ≤ x.mid
  h2 : x.mid ≤ x.hi

def ccells (xs : List Cf) : List Value := xs.flatMap fun x => [cfV x, cfU x]

theorem ccells_len : ∀ xs : List Cf, (ccells xs).length = xs.length * 2
  | [] => rfl
  | x :: xs => by
    have h := ccells_len xs
    unfold ccells at h ⊢
    rw [List.flatMap_cons, List.length_append, h, List.length_cons]
    simp only [List.length_cons, List.length_nil]; omega

theorem ccells_snoc (xs : List Cf) (x : Cf) : ccells (xs ++ [x]) = ccells xs ++ [cfV x, cfU x] := by
  unfold ccells; rw [List.flatMap_append, List.flatMap_singleton]

theorem ccells_at : ∀ {xs : List Cf} {i : Nat} {x : Cf}, xs[i]? = some x → (ccells xs)[i * 2]? = some (cfV x) ∧ (ccells xs)[i * 2 + 1]? = some (cfU x)
  | [], i, x, h => by simp at h
  | y :: xs, 0, x, h => by
    simp at h; subst h
    exact ⟨rfl, rfl⟩
  | y :: xs, i + 1, x, h => by
    obtain ⟨a, b⟩ := ccells_at (xs := xs) (i := i) (x := x) (by simpa using h)
    have e : ccells (y :: xs) = cfV y :: cfU y :: ccells xs := rfl
    rw [e, show (i + 1) * 2 = i * 2 + 1 + 1 by omega]
    exact ⟨by simpa using a, by simpa using b⟩

theorem ccells_one (xs : List Cf) : ∀ u ∈ ccells xs, u.oneCell' = true := by
  intro u hu
  obtain ⟨x, _, hx⟩ := List.mem_flatMap.1 hu
  simp at hx
  rcases hx with rfl | rfl <;> rfl

/-- Changes whose memory lies one behind the other, from lo on and ahead of hi; the block r is none of it. -/
structure OwnCs (W : World) (lo hi : Nat) (r : Option Nat) (xs : List Cf) : Prop where
  own : ∀ x ∈ xs, OwnCf W x ∧ lo ≤ x.lo ∧ x.hi ≤ hi ∧ ∀ g, r = some g → g < x.lo ∨ x.hi ≤ g
  on : xs.Pairwise fun x y => x.hi ≤ y.lo

section
variable {W W' : World} {lo hi lo' hi' : Nat} {r : Option Nat} {xs : List Cf} {x : Cf}

theorem OwnCf.keep (h : OwnCf W x) (hk : ∀ b, x.lo ≤ b → b < x.hi → W'.heap[b]? = W.heap[b]?) : OwnCf W' x := by
  have h1 := h.h1; have h2 := h.h2
  exact ⟨h.a.keep (fun b h3 h4 => hk b (by omega) h4) (Nat.le_refl _) (Nat.le_refl _), h.b.keep (fun b h3 h4 => hk b h3 (by omega)) (Nat.le_refl _) (Nat.le_refl _), h1, h2⟩

theorem OwnCs.nil : OwnCs W lo hi r [] := ⟨fun x h => by simp at h, List.Pairwise.nil⟩

theorem OwnCs.keep (h : OwnCs W lo hi r xs) (hk : ∀ b, lo ≤ b → b < hi → r ≠ some b → W'.heap[b]? = W.heap[b]?) (h1 : lo' ≤ lo) (h2 : hi ≤ hi') : OwnCs W' lo' hi' r xs :=
  ⟨fun x hx => by
    obtain ⟨a, b, c, d⟩ := h.own x hx
    exact ⟨a.keep (fun g h3 h4 => hk g (by omega) (by omega) (fun e => by rcases d g e with h5 | h5 <;> omega)), by omega, by omega, d⟩, h.on⟩

theorem OwnCs.row (h : OwnCs W lo hi r xs) {g : Nat} (hg : hi ≤ g) : OwnCs W lo hi (some g) xs :=
  ⟨fun x hx => by
    obtain ⟨a, b, c, _⟩ := h.own x hx
    exact ⟨a, b, c, fun g' e => by injection e with e; omega⟩, h.on⟩

/-- One more. -/
theorem OwnCs.snoc (h : OwnCs W lo hi r xs) (ho : OwnCf W' x) (hk : ∀ b, lo ≤ b → b < hi → r ≠ some b → W'.heap[b]? = W.heap[b]?) (h0 : lo ≤ hi) (h1 : hi ≤ x.lo) (h2 : x.hi ≤ hi') (hr : ∀ g, r = some g → g < x.lo) : OwnCs W' lo hi' r (xs ++ [x]) := by
  have hx := ho.h1; have hy := ho.h2
  refine ⟨fun y hyy => ?_, ?_⟩
  · rcases List.mem_append.1 hyy with hyy | hyy
    · exact (h.keep hk (Nat.le_refl _) (by omega)).own y hyy
    · rw [List.mem_singleton.1 hyy]
      exact ⟨ho, by omega, h2, fun g e => .inl (hr g e)⟩
  · rw [List.pairwise_append]
    refine ⟨h.on, List.pairwise_singleton _ _, fun y hyy z hz => ?_⟩
    rw [List.mem_singleton.1 hz]
    have := (h.own y hyy).2.2.1
    omega
end

/-- The list in the making: its box, its row, its changes. -/
structure LG (w : World) (cb sb lo hi : Nat) (v : Value) (n : Nat) (xs : List Cf) (W : World) : Prop where
  C : Blk W cb 34 #[v]
  Z : Blk W sb 3 #[.int .i64 (n : Int)]
  K : W.ownsRow lo 25 2 v xs.length (ccells xs)
  O : OwnCs W lo hi v.ownBlock xs
  hc : w.heap.size ≤ cb
  hs : cb < sb
  h0 : sb < lo
  h1 : lo ≤ hi
  h2 : hi ≤ W.heap.size
  kb : ∀ g, v.ownBlock = some g → g < hi
  gr : Below w.heap.size w W

section
variable {w W W' W9 : World} {cb sb lo hi R n : Nat} {v v' : Value} {xs : List Cf} {x : Cf} {ob : Obj} {g' m cap : Nat}

theorem LG.raise (h : LG w cb sb lo hi v n xs W) : LG w cb sb lo W.heap.size v n xs W :=
  ⟨h.C, h.Z, h.K, h.O.keep (fun _ _ _ _ => rfl) (Nat.le_refl _) h.h2, h.hc, h.hs, h.h0, Nat.le_trans h.h1 h.h2, Nat.le_refl _, fun g e => by have := h.kb g e; have := h.h2; omega, h.gr⟩

theorem LG.below (h : LG w cb sb lo hi v n xs W) (hb : Below W.heap.size W W') : LG w cb sb lo hi v n xs W' := by
  have h2 := h.h2; have hbs := hb.size; have hs := h.gr.size
  exact ⟨h.C.below hb, h.Z.below hb, ownsRow_up h.K hb, h.O.keep (fun b _ a2 _ => hb.block b (by omega)) (Nat.le_refl _) (Nat.le_refl _), h.hc, h.hs, h.h0, h.h1, Nat.le_trans h2 hbs, h.kb, h.gr.trans (hb.mono hs)⟩

/-- What turns in the reader's block alone. -/
theorem LG.step (h : LG w cb sb lo hi v n xs W) (hg : W.grownBy W' (some R)) (hR : R < lo) (hne : R ≠ cb) (hne2 : R ≠ sb) (hw : w.heap.size ≤ R) : LG w cb sb lo hi v n xs W' := by
  have h0 := h.h0; have h1 := h.h1; have h2 := h.h2; have hgs := hg.size; have hs := h.gr.size
  exact ⟨h.C.kept hg (fun e => hne (by injection e with e; exact e.symm)), h.Z.kept hg (fun e => hne2 (by injection e with e; exact e.symm)), h.K.kept hg (ownNe h.K hR), h.O.keep (fun b a1 a2 _ => hg.block b (by omega) (fun e => by injection e with e; omega)) (Nat.le_refl _) (Nat.le_refl _), h.hc, h.hs, h.h0, h.h1, Nat.le_trans h2 hgs, h.kb,
    ⟨hg.os.trans h.gr.os, hg.tape.trans h.gr.tape, hg.output.trans h.gr.output, Nat.le_trans hs hgs, fun k hk => (hg.block k (by omega) (fun e => by injection e with e; omega)).trans (h.gr.block k hk)⟩⟩

/-- A loop's record is none of it. -/
theorem LG.book (h : LG w cb sb lo hi v n xs W) {l : Nat} {r r' : Loop} (hl : W.heap[l]? = some (.loop r)) (hwl : w.heap.size ≤ l) (hll : l < lo) : LG w cb sb lo hi v n xs (W.putObj l (.loop r')) := by
  have hs := h.gr.size
  have hsz : (W.putObj l (.loop r')).heap.size = W.heap.size := by simp [World.putObj]
  have hrow : ∀ {b : Nat} {o : Obj}, W.heap[b]? = some o → o.isCells = true → (W.putObj l (.loop r')).heap[b]? = some o := fun {b o} hb ho => by
    rw [World.putObj_heap_other (fun e => by subst e; rw [hl] at hb; cases hb; cases ho)]; exact hb
  refine ⟨hrow h.C rfl, hrow h.Z rfl, ownsRow_putObj h.K (.loop r') hl rfl, h.O.keep (fun b a1 _ _ => World.putObj_heap_other (by omega)) (Nat.le_refl _) (Nat.le_refl _), h.hc, h.hs, h.h0, h.h1, by rw [hsz]; exact h.h2, h.kb, ?_⟩
  exact ⟨h.gr.os, h.gr.tape, h.gr.output, by rw [hsz]; exact hs, fun k hk => (World.putObj_heap_other (by omega)).trans (h.gr.block k hk)⟩
/-- .. nor what is to be done later. -/
theorem LG.mark (h : LG w cb sb lo hi v n xs W) {D : Nat} {ds : List Deferred} (hl : W.heap[D]? = some (.deferred (some ds))) (hwl : w.heap.size ≤ D) (hll : D < lo) : LG w cb sb lo hi v n xs (W.putObj D (.deferred none)) := by
  have hs := h.gr.size
  have hsz : (W.putObj D (.deferred none)).heap.size = W.heap.size := by simp [World.putObj]
  have hrow : ∀ {b : Nat} {o : Obj}, W.heap[b]? = some o → o.isCells = true → (W.putObj D (.deferred none)).heap[b]? = some o := fun {b o} hb ho => by
    rw [World.putObj_heap_other (fun e => by subst e; rw [hl] at hb; cases hb; cases ho)]; exact hb
  refine ⟨hrow h.C rfl, hrow h.Z rfl, ownsRow_putObj h.K (.deferred none) hl rfl, h.O.keep (fun b a1 _ _ => World.putObj_heap_other (by omega)) (Nat.le_refl _) (Nat.le_refl _), h.hc, h.hs, h.h0, h.h1, by rw [hsz]; exact h.h2, h.kb, ?_⟩
  exact ⟨h.gr.os, h.gr.tape, h.gr.output, by rw [hsz]; exact hs, fun k hk => (World.putObj_heap_other (by omega)).trans (h.gr.block k hk)⟩

/-- One more. -/
theorem LG.more (h : LG w cb sb lo hi v n xs W) (ho : OwnCf W x) (h1 : hi ≤ x.lo) (h2 : x.hi ≤ W.heap.size)
    (hown : W9.ownsRow lo 25 2 (.slice (some ⟨g', 0, none⟩) m cap) (xs.length + 1) (ccells xs ++ [cfV x, cfU x])) (hgrow : (W.alloc ob).grownBy W9 v.ownBlock) (hat : v.ownBlock = some g' ∨ g' = W.heap.size + 1) (k : Nat) :
    LG w cb sb lo W9.heap.size (.slice (some ⟨g', 0, none⟩) m cap) k (xs ++ [x]) ((W9.setCell ⟨cb, 0, none⟩ (.slice (some ⟨g', 0, none⟩) m cap)).setCell ⟨sb, 0, none⟩ (.int .i64 (k : Int))) := by
  have a0 := h.h0; have a1 := h.h1; have a2 := h.h2; have as_ := h.hs; have ac := h.hc; have ag := h.gr.size
  have x1 := ho.h1; have x2 := ho.h2
  have hb1 := below1 W ob
  have hbs : (W.alloc ob).heap.size = W.heap.size + 1 := by simp
  have hA := h.below hb1
  have hgs := hgrow.size
  have far : ∀ g, v.ownBlock = some g → lo ≤ g ∧ g < hi := fun g hg => ⟨(hA.K.lt g hg).1, h.kb g hg⟩
  have c9 : Blk W9 cb 34 #[v] := hA.C.kept hgrow (fun e => by have := far cb e.symm; omega)
  have z9 : Blk W9 sb 3 #[.int .i64 (n : Int)] := hA.Z.kept hgrow (fun e => by have := far sb e.symm; omega)
  have o9 : OwnCs W9 lo hi v.ownBlock xs := hA.O.keep (fun b _ b2 hne => hgrow.block b (by omega) (fun e => hne e.symm)) (Nat.le_refl _) (Nat.le_refl _)
  have q9 : OwnCf W9 x := ho.keep (fun b b1 b2 => (hgrow.block b (by omega) (fun e => by have := far b e.symm; omega)).trans (hb1.block b (by omega)))
  have s9 : OwnCs W9 lo W9.heap.size v.ownBlock (xs ++ [x]) := o9.snoc q9 (fun _ _ _ _ => rfl) a1 h1 (by omega) (fun g hg => by have := far g hg; omega)
  have hg9 : lo ≤ g' ∧ g' < W9.heap.size := hown.lt g' rfl
  have r9 : OwnCs W9 lo W9.heap.size (some g') (xs ++ [x]) := by
    rcases hat with e | e
    · rw [← e]; exact s9
    · refine ⟨fun y hy => ?_, s9.on⟩
      obtain ⟨y1, y2, y3, _⟩ := s9.own y hy
      refine ⟨y1, y2, y3, fun g eg => .inr ?_⟩
      injection eg with eg
      rcases List.mem_append.1 hy with hy | hy
      · have := (h.O.own y hy).2.2.1; omega
      · rw [List.mem_singleton.1 hy]; omega
  have hsz : ((W9.setCell ⟨cb, 0, none⟩ (.slice (some ⟨g', 0, none⟩) m cap)).setCell ⟨sb, 0, none⟩ (.int .i64 (k : Int))).heap.size = W9.heap.size := by simp only [size_setCell]
  refine ⟨(c9.set 0 _).far (p := ⟨sb, 0, none⟩) (by show cb ≠ sb; omega) _, (z9.far (p := ⟨cb, 0, none⟩) (by show sb ≠ cb; omega) _).set 0 _, ?_, r9.keep (fun b b1 _ _ => (Below.heap_setCell _ _ _ b (by show b ≠ sb; omega)).trans (Below.heap_setCell _ _ _ b (by show b ≠ cb; omega))) (Nat.le_refl _) (Nat.le_refl _), ac, as_, a0, by omega, by rw [hsz]; exact Nat.le_refl _, fun g e => by simp [Value.ownBlock] at e; omega, ?_⟩
  · rw [List.length_append, ccells_snoc]
    exact row_far (row_far hown (p := ⟨cb, 0, none⟩) (fun e => by simp [Value.ownBlock] at e; omega) _) (p := ⟨sb, 0, none⟩) (fun e => by simp [Value.ownBlock] at e; omega) _
  · refine (Below.setCell ?_ ac _).setCell (by show w.heap.size ≤ sb; omega) _
    exact ⟨hgrow.os.trans hA.gr.os, hgrow.tape.trans hA.gr.tape, hgrow.output.trans hA.gr.output, by omega, fun k hk => (hgrow.block k (by omega) (fun e => by have := far k e.symm; omega)).trans (hA.gr.block k hk)⟩

/-- Where what was appended lies, inside a fence. -/
theorem wpListIn_append_lies {F : Fence} {n : Nat} {P : Program} {w : World} {ops : Array Oper} {rest : List Oper} {o : Oper} {a : Act} {Q : Exit → Act → World → Prop} (hgd : o.guard = none) (s x : Operand) (t : TypeId)
    (ho : o.op = .call { callee := .builtin .append, args := #[s, x], argTypes := #[t, t] })
    (base : Nat) (e : TypeId) (i : TypeInfo) (z : Value) (size bytes : Nat) (ht : P.underlying t = some (.slice e)) (hi : P.info? e = some i) (hz : i.zero = some z)
    (hsize : i.size = size) (hby : i.bytes = bytes) (hzs : z.cells.size = size) (hsz : 0 < size)
    (v : Value) (k : Nat) (xs : List Value) (hs : a.eval s = v) (hown : w.ownsRow base e size v k xs)
    (ad : Addr) (m c : Nat) (news : List Value) (hx : a.eval x = .slice (some ad) m c) (hl : news.length = m * size) (hnews : ∀ j u, news[j]? = some u → w.cell? (ad.add j) = some u) (h1 : ∀ u ∈ news, u.oneCell' = true)
    (hm : 0 < m) (h63 : k + m ≤ maxLen) (hbytes : (k + m) * bytes ≤ 140737488355328) (hbase : base ≤ w.heap.size) (H : Nat) (hH : w.heap.size = H)
    (h : ∀ g cap w', w'.ownsRow base e size (.slice (some ⟨g, 0, none⟩) (k + m) cap) (k + m) (xs ++ news) → w.grownBy w' v.ownBlock → (v.ownBlock = some g ∨ g = H) → g < w'.heap.size → wpListIn F n P ops Q rest (a.put o.dst (.slice (some ⟨g, 0, none⟩) (k + m) cap)) w') : wpListIn F n P ops Q (o :: rest) a w := by
  refine wpListIn_plain hgd fun K hK' => ?_
  obtain ⟨g, cap, w', hrun, r1, r2, r3, r4⟩ := run_append_lies (P := P) w t o.type base e i z size bytes ht hi hz hsize hby hzs hsz v k xs hown ad m c news hl hnews h1 hm h63 hbytes hbase H hH
  unfold Oper.wpIn
  refine ⟨?_, ?_⟩
  · simp [Oper.about, ho, resolve, Target.leads, Sem.run_pure]
  · rw [Oper.semAt_plain F _ _ (by rw [ho]; intro c hc'; cases hc')]
    simp [execOp, ho, resolve, invoke, builtin, hs, hx, hrun, Result.andThen]
    exact hK' _ _ (h g cap w' r1 r2 r3 r4)

/-- A row that grows is a row of cells. -/
theorem keeps_append {Wt W9 : World} {base sz k : Nat} {e : TypeId} {v : Value} {xs : List Value} (hrow : Wt.ownsRow base e sz v k xs) (hg : Wt.grownBy W9 v.ownBlock) : KeepsOthers Wt W9 :=
  ⟨hg.size, fun q o hq ho => by
    refine (hg.block q (Array.getElem?_eq_some_iff.1 hq).1 (fun e => ?_)).trans hq
    rcases hrow.2 with ⟨rfl, _⟩ | ⟨g, cap, cur, rfl, _, hgb, _⟩
    · simp [Value.ownBlock] at e
    · simp [Value.ownBlock] at e
      subst e
      rw [hgb] at hq
      cases hq
      cases ho⟩
end

end Go.Proofs.YtogonjkklioaaaaGreatDoor

namespace Go.Proofs.YtogonjkklioaaaaGreatDoor
open Go.RowKit

/-- An iterator's contract: T: what it does between rounds (told from where the call began); Kp: what a round keeps for it; Pre: what holds when it hands over x. -/
def SeqT {α : Type} (F : Fence) (n : Nat) (P : Program) (g : Nat) (lb : Array Value) (encs : α → Array Value) (T : Nat → World → World → Prop) (Kp : World → World → Prop) (Pre : List α → α → World → World → Prop) (S Sp : List α → World → World → Prop) (w : World) : Prop :=
  ∀ (l : Nat) (J Jx : List α → World → Prop) (W : World), Below w.heap.size w W →
    (∀ pre x W0 W1, J pre W0 → T W.heap.size W0 W1 → Pre pre x W0 W1 → YieldAt F (n - 1) P l (encs x) W1 fun e W' =>
      (e = .returned (.bool true) ∧ J (pre ++ [x]) W' ∧ Kp W1 W') ∨ (e = .returned (.bool false) ∧ Jx (pre ++ [x]) W' ∧ Kp W1 W')) →
    J [] W →
    CallsIn F n P g (#[.func (.yield l) #[] #[]] ++ lb) W fun e W' => (∃ v, e = .returned v) ∧
      ((∃ xs W0, S xs W0 W' ∧ J xs W0 ∧ T W.heap.size W0 W') ∨ (∃ pre W0, Sp pre W0 W' ∧ Jx pre W0 ∧ T W.heap.size W0 W'))

theorem SeqT.inRound {α : Type} {F : Fence} {n : Nat} {P : Program} {g : Nat} {lb : Array Value} {encs : α → Array Value} {T : Nat → World → World → Prop} {Kp : World → World → Prop} {Pre : List α → α → World → World → Prop} {S Sp : List α → World → World → Prop} {w : World} (l : Nat)
    (h : SeqT F n P g lb encs T Kp Pre S Sp w) : SeqT (F.inRound l) n P g lb encs T Kp Pre S Sp w := h

/-- How the body of a round may be left. -/
def postT {α : Type} (B : Nat) (Kp : World → World → Prop) (I : List α → World → Prop) (Ix : Code → List α → World → Prop) (xs : List α) (W : World) : Exit → Act → World → Prop
  | .normal, _, W' => KeepsFrom B W W' ∧ Kp W W' ∧ I xs W'
  | .ret, _, W' => KeepsFrom B W W' ∧ Kp W W' ∧ Ix .ret xs W'
  | .exit id, _, W' => KeepsFrom B W W' ∧ Kp W W' ∧ Ix (.exit id) xs W'
  | .goto t, _, W' => KeepsFrom B W W' ∧ Kp W W' ∧ Ix (.goto t) xs W'
  | .panic _, _, _ => False
  | .outgrown, _, _ => False

/-- What says nothing of what the loop's record at l holds. -/
def Bookish (l : Nat) (I : World → Prop) : Prop := ∀ (W : World) (r o' : Loop), I W → W.heap[l]? = some (.loop r) → I (W.putObj l (.loop o'))

section
variable {F : Fence} {n : Nat} {P : Program}

set_option maxHeartbeats 1000000 in
theorem wpIn_rangeT {α : Type} {g : Operand} {ps : Array Tmp} {assign body : Code} {Q : Exit → Act → World → Prop} {a : Act} {w : World}
    (hro : F.round = none) (h1 : 1 ≤ n) {gf : Nat} {lb : Array Value} (hg : a.eval g = .func (.func gf) #[] lb) (hFg : F.fn gf) (eg : ∀ args w, (callFunc gf args).run P w = .ok (.enter gf args) w)
    {encs : α → Array Value} {T : Nat → World → World → Prop} {Kp : World → World → Prop} {Pre : List α → α → World → World → Prop} {S Sp : List α → World → World → Prop} {w0 : World} (hseq : SeqT F (n - 1) P gf lb encs T Kp Pre S Sp w0)
    (hKt : ∀ {A B C : World}, Kp A B → Kp B C → Kp A C) (hKb : ∀ (W : World) (r r' : Loop), W.heap[w.heap.size + 1]? = some (.loop r) → Kp W (W.putObj (w.heap.size + 1) (.loop r'))) (hb0 : Below w0.heap.size w0 w) (hps : ∀ x, (encs x).size = ps.size)
    (hTb : ∀ (B : Nat) (X Y : World), w.heap.size + 2 ≤ B → T B X Y → ∀ k, w.heap.size ≤ k → k < w.heap.size + 2 → (∃ o, X.heap[k]? = some o ∧ o.isCells = false) → Y.heap[k]? = X.heap[k]?)
    (I : List α → World → Prop) (Ix : Code → List α → World → Prop) (hI : ∀ s, Bookish (w.heap.size + 1) (I s)) (hIx : ∀ c s, Bookish (w.heap.size + 1) (Ix c s)) (h0 : ∀ W1, Below w.heap.size w W1 → W1.heap.size = w.heap.size + 2 → I [] W1)
    (Ax : List α → α → Act → World → Prop) (hAx : ∀ pre x a', Bookish (w.heap.size + 1) (Ax pre x a'))
    (hassign : ∀ (B : Nat) (pre : List α) (x : α) (W0 W1 : World) (K : Act → World → Prop), w.heap.size + 2 ≤ B → I pre W0 → T B W0 W1 → Pre pre x W0 W1 → (∀ a' W', KeepsFrom w.heap.size W1 W' → Kp W1 W' → Ax pre x a' W' → K a' W') →
      assign.wpIn (F.inRound (w.heap.size + 1)) (n - 1 - 1) P (Exit.then K (fun _ _ _ => False)) { tmps := (ps.zip (encs x)).foldl (fun t (p, v) => t.setIfInBounds p v) a.tmps, defers := [] } W1)
    (hbody : ∀ (pre : List α) (x : α) (a' : Act) (W : World), (∃ r, W.heap[w.heap.size + 1]? = some (.loop r)) → Ax pre x a' W → body.wpIn (F.inRound (w.heap.size + 1)) (n - 1 - 1) P (postT w.heap.size Kp I Ix (pre ++ [x]) W) a' W)
    (hdone : ∀ (B : Nat) (xs : List α) (W0 W W' : World), w.heap.size + 2 ≤ B → S xs W0 W → I xs W0 → T B W0 W → (∃ r r', W.heap[w.heap.size + 1]? = some (.loop r) ∧ W' = W.putObj (w.heap.size + 1) (.loop r')) → W'.heap[w.heap.size]? = some (.deferred (some [])) → Q .normal { a with defers := { target := .collected w.heap.size, args := #[] } :: a.defers } W')
    (hstop : ∀ (B : Nat) (c : Code) (pre : List α) (W0 W W' : World), w.heap.size + 2 ≤ B → Sp pre W0 W → Ix c pre W0 → T B W0 W → (∃ r r', W.heap[w.heap.size + 1]? = some (.loop r) ∧ W' = W.putObj (w.heap.size + 1) (.loop r')) → W'.heap[w.heap.size]? = some (.deferred (some [])) → c.wpIn F n P Q { a with defers := { target := .collected w.heap.size, args := #[] } :: a.defers } W') :
    (Code.rangeFunc g ps assign body).wpIn F n P Q a w := by
  refine wpIn_rangeFunc ?_
  intro fn hfn
  rw [hro]
  obtain ⟨rec, hrec⟩ : ∃ rec : LoopState → Option Code → Loop, rec = fun st pe => { state := st, pending := pe, fn, tmps := a.tmps, params := ps, assign, body, defers := w.heap.size } := ⟨_, rfl⟩
  obtain ⟨W1, hW1⟩ : ∃ W1, (w.alloc (.deferred (some []))).alloc (.loop (rec .ready none)) = W1 := ⟨_, rfl⟩
  have hL1 : W1.heap[w.heap.size + 1]? = some (.loop (rec .ready none)) := by
    rw [← hW1]; have := World.alloc_heap_new (w.alloc (.deferred (some []))) (.loop (rec .ready none)); rwa [World.size_alloc] at this
  have hK1 : W1.heap[w.heap.size]? = some (.deferred (some [])) := by
    rw [← hW1]; exact (Below.heap_alloc _ _ _ (by simp)).trans (World.alloc_heap_new w _)
  have hZ1 : W1.heap.size = w.heap.size + 2 := by rw [← hW1]; simp
  have hbw : Below w.heap.size w W1 := by
    rw [← hW1]; exact ((Below.refl _ w).alloc (Nat.le_refl _) _).alloc (by simp) _
  have hb1 : Below w0.heap.size w0 W1 := hb0.trans (hbw.mono hb0.size)
  have hI1 : I [] W1 := h0 W1 hbw hZ1
  refine ⟨w.heap.size + 1, [{ target := .collected w.heap.size, args := #[] }], W1, { target := .fn (.func gf) lb, args := #[.func (.yield (w.heap.size + 1)) #[] #[]] }, W1, gf,
    #[.func (.yield (w.heap.size + 1)) #[] #[]] ++ lb, W1, ?_, ?_, ?_, ?_, fun _ => h1, ?_⟩
  · rw [← hW1, hrec]; exact run_enterLoop_outer _ _ _ _ _
  · simp only [resolve, hg]
    simp [go_sem]
  · intro f' hf'; simp [Target.leads] at hf'; subst hf'; exact hFg
  · simp [invoke, go_sem, eg]
  · refine (hseq (w.heap.size + 1)
      (fun pre W => I pre W ∧ W.heap[w.heap.size + 1]? = some (.loop (rec .ready none)) ∧ W.heap[w.heap.size]? = some (.deferred (some [])))
      (fun pre W => ∃ c, Ix c pre W ∧ W.heap[w.heap.size + 1]? = some (.loop (rec .done (some c))) ∧ W.heap[w.heap.size]? = some (.deferred (some [])))
      W1 hb1 ?_ ⟨hI1, hL1, hK1⟩).mono ?_
    · rintro pre x Wa W ⟨hi, hl, hk⟩ hT hpre
      replace hl : W.heap[w.heap.size + 1]? = some (.loop (rec .ready none)) := (hTb _ _ _ (by omega) hT _ (by omega) (by omega) ⟨_, hl, rfl⟩).trans hl
      replace hk : W.heap[w.heap.size]? = some (.deferred (some [])) := (hTb _ _ _ (by omega) hT _ (by omega) (by omega) ⟨_, hk, rfl⟩).trans hk
      have hy := run_yield (P := P) (args := encs x) hl (by rw [hrec]; exact hps x)
      rw [hrec] at hy
      refine ⟨fn, _, assign, body, hy, roundIn_of_wpIn hfn (hassign _ pre x Wa W _ (by omega) hi hT hpre ?_)⟩
      clear hy hpre hT
      intro a' Wb hkfa hkpa hax
      replace hl := hkfa.same _ _ (by omega) hl rfl
      replace hk := hkfa.same _ _ (Nat.le_refl _) hk rfl
      have hlt : w.heap.size + 1 < Wb.heap.size := (Array.getElem?_eq_some_iff.1 hl).1
      refine ⟨_, run_beginRound hl (by rw [hrec]), ?_⟩
      have hl2 : (Wb.putObj (w.heap.size + 1) (.loop { rec .ready none with state := .busy })).heap[w.heap.size + 1]? = some (.loop { rec .ready none with state := .busy }) := World.putObj_heap_same hlt
      have hk2 : (Wb.putObj (w.heap.size + 1) (.loop { rec .ready none with state := .busy })).heap[w.heap.size]? = some (.deferred (some [])) := (World.putObj_heap_other (by omega)).trans hk
      have hw2 : Kp Wb (Wb.putObj (w.heap.size + 1) (.loop { rec .ready none with state := .busy })) := hKb _ _ _ hl
      refine wpIn_mono (hbody pre x a' _ ⟨_, hl2⟩ (hAx pre x a' _ _ _ hax hl)) ?_
      have fin : ∀ (jump : Option Code) (W3 : World), KeepsFrom w.heap.size (Wb.putObj (w.heap.size + 1) (.loop { rec .ready none with state := .busy })) W3 →
          (Instr.endRound (w.heap.size + 1) jump).run P W3 = .ok (.bool jump.isNone) (W3.putObj (w.heap.size + 1) (.loop (rec (if jump.isNone then .ready else .done) jump))) ∧
          W3.heap[w.heap.size + 1]? = some (.loop { rec .ready none with state := .busy }) ∧
          (W3.putObj (w.heap.size + 1) (.loop (rec (if jump.isNone then .ready else .done) jump))).heap[w.heap.size + 1]? = some (.loop (rec (if jump.isNone then .ready else .done) jump)) ∧
          (W3.putObj (w.heap.size + 1) (.loop (rec (if jump.isNone then .ready else .done) jump))).heap[w.heap.size]? = some (.deferred (some [])) := fun jump W3 hk3 => by
        have hl3 := hk3.same _ _ (by omega) hl2 rfl
        have := run_endRound (P := P) jump hl3
        rw [hrec] at this ⊢
        exact ⟨this, by rw [hrec] at hl3; exact hl3, World.putObj_heap_same (Array.getElem?_eq_some_iff.1 hl3).1, (World.putObj_heap_other (by omega)).trans (hk3.same _ _ (Nat.le_refl _) hk2 rfl)⟩
      rintro e a3 W3 hp
      cases e with
      | normal =>
        obtain ⟨hk3, hkp3, hi3⟩ := hp
        obtain ⟨hr, hl3, hl4, hk4⟩ := fin none W3 hk3
        exact ⟨_, _, hr, .inl ⟨rfl, ⟨hI _ _ _ _ hi3 hl3, hl4, hk4⟩, hKt hkpa (hKt (hKt hw2 hkp3) (hKb _ _ _ hl3))⟩⟩
      | ret =>
        obtain ⟨hk3, hkp3, hi3⟩ := hp
        obtain ⟨hr, hl3, hl4, hk4⟩ := fin (some .ret) W3 hk3
        exact ⟨_, _, hr, .inr ⟨rfl, ⟨.ret, hIx _ _ _ _ _ hi3 hl3, hl4, hk4⟩, hKt hkpa (hKt (hKt hw2 hkp3) (hKb _ _ _ hl3))⟩⟩
      | exit id =>
        obtain ⟨hk3, hkp3, hi3⟩ := hp
        obtain ⟨hr, hl3, hl4, hk4⟩ := fin (some (.exit id)) W3 hk3
        exact ⟨_, _, hr, .inr ⟨rfl, ⟨.exit id, hIx _ _ _ _ _ hi3 hl3, hl4, hk4⟩, hKt hkpa (hKt (hKt hw2 hkp3) (hKb _ _ _ hl3))⟩⟩
      | goto t =>
        obtain ⟨hk3, hkp3, hi3⟩ := hp
        obtain ⟨hr, hl3, hl4, hk4⟩ := fin (some (.goto t)) W3 hk3
        exact ⟨_, _, hr, .inr ⟨rfl, ⟨.goto t, hIx _ _ _ _ _ hi3 hl3, hl4, hk4⟩, hKt hkpa (hKt (hKt hw2 hkp3) (hKb _ _ _ hl3))⟩⟩
      | panic ch => exact hp.elim
      | outgrown => exact hp.elim
    · rintro e W2 ⟨⟨v, rfl⟩, (⟨xs, W0, hS, ⟨hi, hl, hk⟩, hT⟩ | ⟨pre, W0, hSp, ⟨c, hi, hl, hk⟩, hT⟩)⟩
      · replace hl := (hTb _ _ _ (by omega) hT _ (by omega) (by omega) ⟨_, hl, rfl⟩).trans hl
        replace hk := (hTb _ _ _ (by omega) hT _ (by omega) (by omega) ⟨_, hk, rfl⟩).trans hk
        refine ⟨none, _, by have := run_endLoop (P := P) hl (by rw [hrec]; simp); rw [hrec] at this; exact this, hdone _ xs W0 W2 _ (Nat.le_of_eq hZ1.symm) hS hi hT ⟨_, _, hl, rfl⟩ ?_⟩
        exact (World.putObj_heap_other (by omega)).trans hk
      · replace hl := (hTb _ _ _ (by omega) hT _ (by omega) (by omega) ⟨_, hl, rfl⟩).trans hl
        replace hk := (hTb _ _ _ (by omega) hT _ (by omega) (by omega) ⟨_, hk, rfl⟩).trans hk
        refine ⟨some c, _, by have := run_endLoop (P := P) hl (by rw [hrec]; simp); rw [hrec] at this; exact this, hstop _ c pre W0 W2 _ (Nat.le_of_eq hZ1.symm) hSp hi hT ⟨_, _, hl, rfl⟩ ?_⟩
        exact (World.putObj_heap_other (by omega)).trans hk
end

end Go.Proofs.YtogonjkklioaaaaGreatDoor

namespace Go.Proofs.YtogonjkklioaaaaGreatDoor
open Go

section
variable {F : Fence} {n : Nat} {P : Program} {ops : Array Oper} {Q : Exit → Act → World → Prop} {md : Region.Mode} {S : Array Bool → World → Prop}

/-- Nobody who waits for number i has come up. -/
def NoneOn (ops : Array Oper) (md : Region.Mode) (i : Nat) (L : Array Bool) : Prop := ∀ k ok, ops[k]? = some ok → (∃ e ∈ ok.after, Region.binds md e = true ∧ e.on = i) → L.getD k true = false

/-- It yields in every world that meets S, while nobody who waits for it has come up, and is about to make no call. -/
def YieldsHIn (P : Program) (md : Region.Mode) (ops : Array Oper) (S : Array Bool → World → Prop) (i : Nat) (o : Oper) (v : Value) (a : Act) : Prop :=
  ((Region.wanted o (yielded ops a.tmps) = true ∧ ∀ L w, NoneOn ops md i L → S L w → (execOp a.eval o).run P w = .ok (.value v) w) ∨
  (Region.wanted o (yielded ops a.tmps) = false ∧ v = undef)) ∧ ∀ w, o.about P w a.eval = none

theorem YieldsHIn.wpOpIn {i : Nat} {o : Oper} {v : Value} {a : Act} {L : Array Bool} (hro : F.round = none) (hi : ops[i]? = some o) (hy : YieldsHIn P md ops S i o v a)
    {K : Act → World → Prop} {w : World} (hD : NoneOn ops md i L) (hS : S L w) (h : K (a.put o.dst v) w) : wpOpIn F n P ops Q i K a w := by
  unfold Go.wpOpIn
  simp only [hi]
  have hab : ∀ f, o.about P w a.eval = some f → F.fn f := fun f hf => by rw [hy.2 w] at hf; cases hf
  rcases hy.1 with ⟨hw, hv⟩ | ⟨hw, rfl⟩
  · simp only [hw, if_true, Oper.wpIn, hro, Oper.semAt_none, hv L w hD hS, Oper.uponIn]; exact ⟨hab, h⟩
  · simp only [hw, Bool.false_eq_true, if_false]; exact ⟨hab, h⟩

theorem YieldsHIn.of_same {i : Nat} {o : Oper} {v : Value} {a a' : Act} (hy : YieldsHIn P md ops S i o v a) (he : execOp a'.eval o = execOp a.eval o)
    (hw : Region.wanted o (yielded ops a'.tmps) = Region.wanted o (yielded ops a.tmps)) (hb : ∀ w, o.about P w a'.eval = o.about P w a.eval) : YieldsHIn P md ops S i o v a' :=
  ⟨by rw [he, hw]; exact hy.1, fun w => by rw [hb w]; exact hy.2 w⟩

theorem wpOpIn_putH {i j : Nat} {oi oj : Oper} {v : Value} (hro : F.round = none) (hj : ops[j]? = some oj) (hap : oi.apart ops oj = true)
    (hsi : ∀ cs b, oi.op ≠ .select cs b) (hsj : ∀ cs b, oj.op ≠ .select cs b)
    (hQ : ∀ c a w, Q (.panic c) (a.put oi.dst v) w → Q (.panic c) a w) {K : Act → World → Prop} {a : Act} {w : World}
    (hy : YieldsHIn P md ops S i oi v a) (h : wpOpIn F n P ops Q j K (a.put oi.dst v) w) :
    wpOpIn F n P ops Q j (fun a' w' => YieldsHIn P md ops S i oi v a' ∧ K (a'.put oi.dst v) w') a w := by
  obtain ⟨h1, h2, h3⟩ := Oper.apart_spec hap
  have keep : ∀ (a : Act), YieldsHIn P md ops S i oi v a → ∀ u, YieldsHIn P md ops S i oi v (a.put oj.dst u) := fun a hy u =>
    hy.of_same (execOp_put oi hsi a oj.dst u h3) (wanted_put oi a oj.dst u h3) (fun w => about_put oi w a oj.dst u h3)
  have keepD : ∀ d, YieldsHIn P md ops S i oi v { a with defers := d :: a.defers } := fun d => hy.of_same rfl rfl (fun _ => rfl)
  unfold wpOpIn at *
  simp only [hj] at *
  rw [wanted_put oj a oi.dst v h1, about_put oj w a oi.dst v h1] at h
  split
  · rename_i hw
    simp only [hw, if_true] at h
    unfold Oper.wpIn at *
    rw [about_put oj w a oi.dst v h1] at h
    refine ⟨h.1, ?_⟩
    have h := h.2
    rw [hro, Oper.semAt_none, execOp_put oj hsj a oi.dst v h1] at h
    rw [hro, Oper.semAt_none]
    generalize (execOp a.eval oj).run P w = r at *
    cases r with
    | ok x w' =>
      cases x <;> simp only [Oper.uponIn] at h ⊢
      case value u => exact ⟨keep a hy u, by rw [← Act.put_comm a v u h2]; exact h⟩
      case skip => exact ⟨keep a hy _, by rw [← Act.put_comm a v undef h2]; exact h⟩
      case defer d =>
        refine ⟨keep _ (keepD d) _, ?_⟩
        rw [← Act.put_comm _ v undef h2, ← Act.put_defers]
        exact h
      case enter f args =>
        refine ⟨h.1, CallsIn.mono h.2 fun e w'' he => ?_⟩
        cases e with
        | returned u => exact ⟨keep a hy u, by rw [← Act.put_comm a v u h2]; exact he⟩
        | panicked c => exact hQ _ _ _ he
        | outgrown => exact he
      case row row args => exact ⟨h.1, RowsIn.mono h.2 fun u w'' he => ⟨keep a hy u, by rw [← Act.put_comm a v u h2]; exact he⟩⟩
      case round l f tmps assign body =>
        refine ⟨h.1, RoundIn.mono h.2 fun e w'' he => ?_⟩
        cases e with
        | returned u => exact ⟨keep a hy u, by rw [← Act.put_comm a v u h2]; exact he⟩
        | panicked c => exact hQ _ _ _ he
        | outgrown => exact he
    | halt x w' =>
      cases x <;> simp only [Oper.uponIn] at h ⊢
      case panic u => exact hQ _ _ _ h
  · rename_i hw
    simp only [hw] at h
    exact ⟨h.1, keep a hy _, by rw [← Act.put_comm a v undef h2]; exact h.2⟩

/-- Whatever order is picked from here on, and S holds behind every operation. -/
def wpAnyHIn (F : Fence) (n : Nat) (P : Program) (md : Region.Mode) (ops : Array Oper) (Q : Exit → Act → World → Prop) (S : Array Bool → World → Prop) : Nat → Array Bool → Act → World → Prop
  | 0, listed, a, w => Region.ready md ops listed = [] ∧ Q .normal a w
  | fuel + 1, listed, a, w =>
    (Region.ready md ops listed = [] → Q .normal a w) ∧
    ∀ i ∈ Region.ready md ops listed, wpOpIn F n P ops Q i (fun a' w' => S (listed.setIfInBounds i true) w' ∧ wpAnyHIn F n P md ops Q S fuel (listed.setIfInBounds i true) a' w') a w

theorem wpAnyIn_of_held : ∀ (fuel : Nat) (listed : Array Bool) (a : Act) (w : World), wpAnyHIn F n P md ops Q S fuel listed a w → wpAnyIn F n P md ops Q fuel listed a w
  | 0, _, _, _, h => h
  | fuel + 1, _, _, _, h => ⟨h.1, fun i hi => wpOpIn_mono (fun a' w' h' => wpAnyIn_of_held fuel _ a' w' h'.2) (h.2 i hi)⟩

theorem wpAnyHIn_first {i : Nat} {oi : Oper} {v : Value} (hSi : ∀ L w, S (L.setIfInBounds i true) w ↔ S L w) (hro : F.round = none) (hi : ops[i]? = some oi) (hsel : ∀ (j : Nat) (o : Oper) cs b, ops[j]? = some o → o.op ≠ .select cs b)
    (hQ : ∀ c a w, Q (.panic c) (a.put oi.dst v) w → Q (.panic c) a w) :
    ∀ (fuel : Nat) (listed : Array Bool) (a : Act) (w : World),
      (∀ j oj, ops[j]? = some oj → j ≠ i → listed.getD j true = false → (∀ e ∈ oj.after, Region.binds md e = true → e.on ≠ i) → oi.apart ops oj = true) →
      i ∈ Region.ready md ops listed → NoneOn ops md i listed → YieldsHIn P md ops S i oi v a → S listed w →
      wpAnyHIn F n P md ops Q S fuel (listed.setIfInBounds i true) (a.put oi.dst v) w → wpAnyHIn F n P md ops Q S (fuel + 1) listed a w := by
  intro fuel
  induction fuel with
  | zero =>
    intro listed a w _ hr hD hy hS H
    refine ⟨fun h => (by rw [h] at hr; cases hr), fun j hj => ?_⟩
    by_cases hji : j = i
    · subst hji; exact hy.wpOpIn hro hi hD hS ⟨(hSi _ _).2 hS, H⟩
    · have := ready_mono hj hji
      rw [H.1] at this
      cases this
  | succ fuel ih =>
    intro listed a w hfree hr hD hy hS H
    refine ⟨fun h => (by rw [h] at hr; cases hr), fun j hj => ?_⟩
    by_cases hji : j = i
    · subst hji; exact hy.wpOpIn hro hi hD hS ⟨(hSi _ _).2 hS, H⟩
    · have h1 := H.2 j (ready_mono hj hji)
      obtain ⟨hjun, oj, hoj, hall⟩ := mem_ready.1 hj
      have hnot : ∀ e ∈ oj.after, Region.binds md e = true → e.on ≠ i := fun e he hb heq => by
        have h1 := hall e he hb
        have h0 := (mem_ready.1 hr).1
        rw [heq] at h1
        rcases Nat.lt_or_ge i listed.size with h' | h'
        · simp [h'] at h0 h1; rw [h0] at h1; cases h1
        · simp [Array.getElem?_eq_none h'] at h1
      have h2 := wpOpIn_putH hro hoj (hfree j oj hoj hji hjun hnot) (fun cs b => hsel i oi cs b hi) (fun cs b => hsel j oj cs b hoj) hQ hy h1
      have hfree' : ∀ k ok, ops[k]? = some ok → k ≠ i → (listed.setIfInBounds j true).getD k true = false →
          (∀ e ∈ ok.after, Region.binds md e = true → e.on ≠ i) → oi.apart ops ok = true := fun k ok hk hki hun hno => by
        refine hfree k ok hk hki ?_ hno
        by_cases hjk : j = k
        · subst hjk; exact hjun
        · rw [getD_set_ne true hjk] at hun; exact hun
      have hD' : NoneOn ops md i (listed.setIfInBounds j true) := fun k ok hk hke => by
        by_cases hjk : j = k
        · subst hjk
          obtain ⟨e, he, hb, hon⟩ := hke
          rw [hoj] at hk
          injection hk with hk
          subst hk
          exact absurd hon (hnot e he hb)
        · rw [getD_set_ne true hjk]; exact hD k ok hk hke
      have hc : (listed.setIfInBounds i true).setIfInBounds j true = (listed.setIfInBounds j true).setIfInBounds i true := Array.setIfInBounds_comm _ _ (Ne.symm hji)
      rw [hc] at h2
      exact wpOpIn_mono (fun a' w' h3 => ⟨(hSi _ _).1 h3.2.1, ih (listed.setIfInBounds j true) a' w' hfree' (ready_mono hr (Ne.symm hji)) hD' h3.1 ((hSi _ _).1 h3.2.1) h3.2.2⟩) h2

/-- One operation is taken first, its value put. -/
theorem takeIn {i d : Nat} {oi : Oper} {v : Value} {fuel : Nat} {listed : Array Bool} {a : Act} {w : World} {tm : Array Value} (hro : F.round = none)
    (hi : ops[i]? = some oi) (hs : Region.noSelect ops = true) (hf : Region.free md ops listed i = true) (hr : (Region.ready md ops listed).contains i = true) (hd : oi.dst = some d)
    (hSi : ∀ L w, S (L.setIfInBounds i true) w ↔ S L w) (hD : (ops.toList.zipIdx.all fun x => !(x.1.after.any fun e => Region.binds md e && e.on == i) || !(listed.getD x.2 true)) = true)
    (hQ : ∀ c a w, Q (.panic c) (a.put (some d) v) w → Q (.panic c) a w) (hy : (Region.wanted oi (yielded ops a.tmps) = true ∧ ∀ L w, NoneOn ops md i L → S L w → (execOp a.eval oi).run P w = .ok (.value v) w) ∨ (Region.wanted oi (yielded ops a.tmps) = false ∧ v = undef)) (hb : ∀ w, oi.about P w a.eval = none) (hS : S listed w) (hput : a.tmps.setIfInBounds d v = tm)
    (h : wpAnyHIn F n P md ops Q S fuel (listed.setIfInBounds i true) { tmps := tm, defers := a.defers } w) : wpAnyHIn F n P md ops Q S (fuel + 1) listed a w := by
  refine wpAnyHIn_first hSi hro hi (Region.noSelect_spec hs) ?_ fuel listed a w (Region.free_spec hi hf) (by simpa using hr) ?_ ⟨hy, hb⟩ hS ?_
  · rw [hd]; exact hQ
  · rintro k ok hk ⟨e, he, hbe, hon⟩
    have hm : (ok, k) ∈ ops.toList.zipIdx := by
      rw [List.mem_zipIdx_iff_getElem?]
      simpa using hk
    have h1 := List.all_eq_true.1 hD (ok, k) hm
    have h2 : (ok.after.any fun e => Region.binds md e && e.on == i) = true := Array.any_eq_true'.2 ⟨e, he, by simp [hbe, hon]⟩
    rw [h2] at h1
    simpa using h1
  · rw [hd]
    subst hput
    exact h

theorem wpAnyHIn_done {listed : Array Bool} {a : Act} {w : World} (hr : Region.ready md ops listed = []) (h : Q .normal a w) :
    ∀ fuel, wpAnyHIn F n P md ops Q S fuel listed a w
  | 0 => ⟨hr, h⟩
  | _ + 1 => ⟨fun _ => h, by rw [hr]; simp⟩

def AllReadyHIn (F : Fence) (n : Nat) (P : Program) (md : Region.Mode) (ops : Array Oper) (Q : Exit → Act → World → Prop) (S : Array Bool → World → Prop) (fuel : Nat) (listed : Array Bool) (a : Act) (w : World) (rs : List Nat) : Prop :=
  ∀ i ∈ rs, wpOpIn F n P ops Q i (fun a' w' => S (listed.setIfInBounds i true) w' ∧ wpAnyHIn F n P md ops Q S fuel (listed.setIfInBounds i true) a' w') a w

theorem AllReadyHIn.nil {fuel : Nat} {listed : Array Bool} {a : Act} {w : World} : AllReadyHIn F n P md ops Q S fuel listed a w [] := fun _ h => by cases h

theorem AllReadyHIn.cons {fuel : Nat} {listed : Array Bool} {a : Act} {w : World} {i : Nat} {o : Oper} {rs : List Nat} (ho : ops[i]? = some o)
    (h : ∀ K' : Act → World → Prop, Shut (∀ a w, S (listed.setIfInBounds i true) w → (S (listed.setIfInBounds i true) w → wpAnyHIn F n P md ops Q S fuel (listed.setIfInBounds i true) a w) → K' a w) → if Region.wanted o (yielded ops a.tmps) = true then Oper.wpIn F n P o a w K' Q else (∀ f, o.about P w a.eval = some f → F.fn f) ∧ K' (a.put o.dst undef) w)
    (hs : AllReadyHIn F n P md ops Q S fuel listed a w rs) : AllReadyHIn F n P md ops Q S fuel listed a w (i :: rs) := fun j hj => by
  rcases List.mem_cons.1 hj with rfl | hj
  · exact wpOpIn_step ho (fun K' hK => h K' (fun a w hS hW => hK a w ⟨hS, hW hS⟩))
  · exact hs j hj

theorem wpAnyHIn_ready {rs : List Nat} {fuel : Nat} {listed : Array Bool} {a : Act} {w : World} (hr : Region.ready md ops listed = rs) (hne : rs ≠ [])
    (h : AllReadyHIn F n P md ops Q S fuel listed a w rs) : wpAnyHIn F n P md ops Q S (fuel + 1) listed a w :=
  ⟨fun h0 => absurd (hr ▸ h0) hne, hr ▸ h⟩

theorem wpIn_region_held_drew {id : Nat} {a : Act} {w : World} (hm : P.follows .mixedOrders = true) (hS : S (Array.replicate ops.size false) w.drew)
    (h : S (Array.replicate ops.size false) w.drew → wpAnyHIn F n P .any ops Q S ops.size (Array.replicate ops.size false) a w.drew) : (Code.region id ops true).wpIn F n P Q a w :=
  wpIn_region_any hm (wpAnyIn_of_held _ _ _ _ (h hS))
end

end Go.Proofs.YtogonjkklioaaaaGreatDoor
