/-
  Maps of numbers under texts, as they are written one behind the other; how many terms each name has. (Of no code.)
  How many terms each name has, as the program keeps it: a map, or that names have unlike numbers.
-/
import Derived.Test.YtnhbnhibphjljaaGreatDoorAtomsL
import Derived.Test.YtnhbnhibphjljaaGreatDoorLoose
namespace Go.Proofs.YtnhbnhibphjljaaGreatDoor
open Go.RowKit Go.Maps

def strK (s : ByteArray) : Lit := .string s.data.toList
theorem strK_key (s : ByteArray) : WideAt.IsKeyLit (strK s) := trivial
theorem strK_inj {s t : ByteArray} (h : strK s = strK t) : s = t := by
  unfold strK at h
  injection h with h
  cases s; cases t
  simp only [ByteArray.mk.injEq]
  exact Array.toList_inj.1 h

/-- A map of numbers under texts, written pair by pair. -/
def imap (ps : List (ByteArray × Nat)) : DataW Unit := ps.foldl (fun D p => D.put (strK p.1) (.lit (.int .i64 (p.2 : Int)))) (.map [])

/-- What was written last under a text. -/
def lastOf : List (ByteArray × Nat) → ByteArray → Option Nat
  | [], _ => none
  | p :: ps, s => (lastOf ps s).or (if p.1 = s then some p.2 else none)

theorem imap_snoc (ps : List (ByteArray × Nat)) (s : ByteArray) (n : Nat) : imap (ps ++ [(s, n)]) = (imap ps).put (strK s) (.lit (.int .i64 (n : Int))) := by
  unfold imap; rw [List.foldl_append]; rfl

theorem lastOf_snoc (s t : ByteArray) (n : Nat) : ∀ ps : List (ByteArray × Nat), lastOf (ps ++ [(s, n)]) t = if s = t then some n else lastOf ps t
  | [] => by simp [lastOf]
  | p :: ps => by
    rw [List.cons_append, lastOf, lastOf_snoc s t n ps, lastOf]
    split <;> simp

theorem snoc_ind {α : Type} {P : List α → Prop} (h0 : P []) (hs : ∀ l x, P l → P (l ++ [x])) (l : List α) : P l := by
  have h : ∀ l : List α, P l.reverse := by
    intro l
    induction l with
    | nil => exact h0
    | cons x l ih => rw [List.reverse_cons]; exact hs _ _ ih
  have := h l.reverse
  rwa [List.reverse_reverse] at this

theorem imap_tidy (ps : List (ByteArray × Nat)) : Tidy (imap ps) := by
  refine snoc_ind (P := fun ps => Tidy (imap ps)) ?_ ?_ ps
  · exact ⟨[], rfl, List.Pairwise.nil⟩
  · intro l p h
    rw [show l ++ [p] = l ++ [(p.1, p.2)] from rfl, imap_snoc]
    exact h.put (strK_key _) _

theorem imap_has (s : ByteArray) (ps : List (ByteArray × Nat)) : Maps.has (imap ps) (strK s) = (lastOf ps s).isSome := by
  refine snoc_ind (P := fun ps => Maps.has (imap ps) (strK s) = (lastOf ps s).isSome) rfl ?_ ps
  intro l p h
  rw [show l ++ [p] = l ++ [(p.1, p.2)] from rfl, imap_snoc, lastOf_snoc]
  by_cases e : p.1 = s
  · rw [if_pos e, ← e, has_put_same (imap_tidy l).isMap (strK_key _)]; rfl
  · rw [if_neg e, has_put_other (fun h' => e (strK_inj h').symm)]; exact h

theorem imap_at (s : ByteArray) (ps : List (ByteArray × Nat)) : (imap ps).atKey (strK s) (.lit (.int .i64 0)) = .lit (.int .i64 (((lastOf ps s).getD 0 : Nat) : Int)) := by
  refine snoc_ind (P := fun ps => (imap ps).atKey (strK s) (.lit (.int .i64 0)) = .lit (.int .i64 (((lastOf ps s).getD 0 : Nat) : Int))) rfl ?_ ps
  intro l p h
  rw [show l ++ [p] = l ++ [(p.1, p.2)] from rfl, imap_snoc, lastOf_snoc]
  by_cases e : p.1 = s
  · rw [if_pos e, ← e, atKey_put_same (imap_tidy l).isMap (strK_key _)]; rfl
  · rw [if_neg e, atKey_put_other (fun h' => e (strK_inj h').symm)]; exact h

theorem lastOf_mem {ps : List (ByteArray × Nat)} {s : ByteArray} {n : Nat} (h : lastOf ps s = some n) : (s, n) ∈ ps := by
  revert h
  refine snoc_ind (P := fun ps => lastOf ps s = some n → (s, n) ∈ ps) (fun h => by cases h) ?_ ps
  intro l p ih h
  rw [show l ++ [p] = l ++ [(p.1, p.2)] from rfl, lastOf_snoc] at h
  by_cases e : p.1 = s
  · rw [if_pos e] at h
    injection h with h
    rw [← e, ← h]; exact List.mem_append.2 (.inr (List.mem_singleton.2 rfl))
  · rw [if_neg e] at h; exact List.mem_append.2 (.inl (ih h))

theorem lastOf_none {ps : List (ByteArray × Nat)} {s : ByteArray} (h : lastOf ps s = none) : ∀ n, (s, n) ∉ ps := by
  revert h
  refine snoc_ind (P := fun ps => lastOf ps s = none → ∀ n, (s, n) ∉ ps) (fun _ n h => by simp at h) ?_ ps
  intro l p ih h n hm
  rw [show l ++ [p] = l ++ [(p.1, p.2)] from rfl, lastOf_snoc] at h
  by_cases e : p.1 = s
  · rw [if_pos e] at h; cases h
  · rw [if_neg e] at h
    rcases List.mem_append.1 hm with hm | hm
    · exact ih h n hm
    · rw [List.mem_singleton] at hm; exact e (by rw [← hm])

/-- How many terms each name has, atom by atom. -/
def cnts (xs : List At) : List (ByteArray × Nat) := xs.map fun a => (a.1, a.2.length)

theorem cnts_snoc (xs : List At) (a : At) : cnts (xs ++ [a]) = cnts xs ++ [(a.1, a.2.length)] := by unfold cnts; rw [List.map_append]; rfl

theorem alike_pair {xs : List At} (h : alikeB xs = true) {a b : At} (ha : a ∈ xs) (hb : b ∈ xs) : pairOk a b = true := by
  unfold alikeB at h
  exact List.all_eq_true.1 (List.all_eq_true.1 h a ha) b hb

theorem pairOk_iff {a b : At} : pairOk a b = true ↔ (a.1 = b.1 → a.2.length = b.2.length) := by
  unfold pairOk
  by_cases h : a.1 = b.1 <;> simp [h]

theorem alike_more {xs : List At} {a : At} (h : alikeB xs = true) (hn : ∀ n, lastOf (cnts xs) a.1 = some n → n = a.2.length) : alikeB (xs ++ [a]) = true := by
  have key : ∀ b ∈ xs, pairOk b a = true := by
    intro b hb
    rw [pairOk_iff]
    intro e
    cases hl : lastOf (cnts xs) a.1 with
    | none => exact absurd (List.mem_map.2 ⟨b, hb, by rw [← e]⟩) (lastOf_none hl b.2.length)
    | some n =>
      have h1 := hn n hl
      obtain ⟨c, hc, e2⟩ := List.mem_map.1 (lastOf_mem hl)
      injection e2 with e3 e4
      have := pairOk_iff.1 (alike_pair h hb hc) (by rw [e, e3])
      omega
  unfold alikeB
  rw [List.all_eq_true]
  intro x hx
  rw [List.all_eq_true]
  intro y hy
  rcases List.mem_append.1 hx with hx | hx <;> rcases List.mem_append.1 hy with hy | hy
  · exact alike_pair h hx hy
  · rw [List.mem_singleton.1 hy]; exact key x hx
  · rw [List.mem_singleton.1 hx, pairOk_symm]; exact key y hy
  · rw [List.mem_singleton.1 hx, List.mem_singleton.1 hy]; exact pairOk_self a

theorem alike_bad {xs ys : List At} {a : At} {n : Nat} (hl : lastOf (cnts xs) a.1 = some n) (hn : n ≠ a.2.length) (hp : xs ++ [a] <+: ys) : alikeB ys = false := by
  obtain ⟨c, hc, e2⟩ := List.mem_map.1 (lastOf_mem hl)
  injection e2 with e3 e4
  refine alikeB_no (a := c) (b := a) (hp.subset (List.mem_append.2 (.inl hc))) (hp.subset (List.mem_append.2 (.inr (List.mem_singleton.2 rfl)))) ?_
  cases h : pairOk c a
  · rfl
  · exact absurd (pairOk_iff.1 h e3) (by omega)

end Go.Proofs.YtnhbnhibphjljaaGreatDoor

namespace Go.Proofs.YtnhbnhibphjljaaGreatDoor
open Go.RowKit Go.Shelf Go.Maps Go.WideMaps
attribute [local go_sem] Oper.semAt_some

/-- The map of how many terms each name has, or that names have unlike numbers. -/
def CountsPost (xs : List At) (w : World) (e : Ending) (w' : World) : Prop :=
  ∃ v, e = .returned (.tuple #[v, .bool (alikeB xs)]) ∧ (alikeB xs = true → ∃ b N, v = .map (some b) ∧ w.heap.size ≤ b ∧ w'.ownsMap Tryz.prog 9 (plainElem Tryz.prog 3) b N (imap (cnts xs))) ∧ Below w.heap.size w w'

theorem ownFrom_map {β : Type} {B b N : Nat} {D : β → DataW Unit} (hb : b < B) : OwnFrom B (fun (s : β) W => W.ownsMap Tryz.prog 9 (plainElem Tryz.prog 3) b N (D s)) :=
  fun _ _ _ _ hs hg hr => hs.kept hg (fun e => by have := (hr _ e.symm).1; omega)

theorem ownFrom_mapN {β : Type} {B b : Nat} {N : β → Nat} {D : β → DataW Unit} (hb : b < B) : OwnFrom B (fun (s : β) W => W.ownsMap Tryz.prog 9 (plainElem Tryz.prog 3) b (N s) (D s)) :=
  fun _ _ _ _ hs hg hr => hs.kept hg (fun e => by have := (hr _ e.symm).1; omega)

theorem wf_small {n : Nat} (h : n ≤ maxLen) : (Lit.int .i64 (n : Int)).wf = true := by
  unfold Lit.wf
  simp only [Bool.and_eq_true, decide_eq_true_eq]
  have h1 : IntKind.i64.min = -9223372036854775808 := by decide
  have h2 : IntKind.i64.max = 9223372036854775807 := by decide
  rw [h1, h2]; unfold maxLen at h; omega

section
variable {F : Fence} {nF : Nat} {ops : Array Oper} {rest : List Oper} {o : Oper} {a : Act} {Q : Exit → Act → World → Prop}

/-- 'v, ok := m[s]' on such a map. -/
theorem lookup_ok (w : World) (hg : o.guard = none) (m x : Operand) (hop : o.op = Op.lookup 87 m x true) (b N : Nat) (ps : List (ByteArray × Nat)) (hm : a.eval m = .map (some b)) (hown : w.ownsMap Tryz.prog 9 (plainElem Tryz.prog 3) b N (imap ps)) (s : ByteArray) (hx : a.eval x = .string s) (hs : s.size ≤ maxLen) (n : Nat) (sn : Bool) (h1 : (lastOf ps s).getD 0 = n) (h2 : (lastOf ps s).isSome = sn)
    (hK : wpListIn F nF Tryz.prog ops Q rest (a.put o.dst (.tuple #[.int .i64 (n : Int), .bool sn])) w) : wpListIn F nF Tryz.prog ops Q (o :: rest) a w :=
  wpListIn_lookup_own_ok_int w hg m x _ hop 9 3 .i64 Tryz.lawS Tryz.underlying87 Tryz.underlying3 (Tryz.zeroValue3 _) b N _ hm hown _ (strK s) hx (keyOf_string_mk Tryz.underlying9 hs) (fun c hat _ => by
    rw [imap_at] at hat
    injection hat with hat
    injection hat with _ hat
    rw [imap_has, ← hat, h1, h2]; exact hK)

/-- 'm[s]' on such a map. -/
theorem lookup_at (w : World) (hg : o.guard = none) (m x : Operand) (hop : o.op = Op.lookup 87 m x false) (b N : Nat) (ps : List (ByteArray × Nat)) (hm : a.eval m = .map (some b)) (hown : w.ownsMap Tryz.prog 9 (plainElem Tryz.prog 3) b N (imap ps)) (s : ByteArray) (hx : a.eval x = .string s) (hs : s.size ≤ maxLen) (n : Nat) (h1 : (lastOf ps s).getD 0 = n)
    (hK : wpListIn F nF Tryz.prog ops Q rest (a.put o.dst (.int .i64 (n : Int))) w) : wpListIn F nF Tryz.prog ops Q (o :: rest) a w :=
  wpListIn_lookup_own_int w hg m x _ hop 9 3 .i64 Tryz.lawS Tryz.underlying87 Tryz.underlying3 (Tryz.zeroValue3 _) b N _ hm hown _ (strK s) hx (keyOf_string_mk Tryz.underlying9 hs) (fun c hat _ => by
    rw [imap_at] at hat
    injection hat with hat
    injection hat with _ hat
    rw [← hat, h1]; exact hK)

/-- 'm[s] = n' on such a map. -/
theorem store_at (w : World) (hg : o.guard = none) (m x v : Operand) (hop : o.op = Op.mapUpdate 87 m x v) (b N : Nat) (ps : List (ByteArray × Nat)) (hm : a.eval m = .map (some b)) (hown : w.ownsMap Tryz.prog 9 (plainElem Tryz.prog 3) b N (imap ps)) (hN : N < maxLen) (s : ByteArray) (hx : a.eval x = .string s) (hs : s.size ≤ maxLen) (n : Nat) (hv : a.eval v = .int .i64 (n : Int)) (hn : n ≤ maxLen)
    (hK : ∀ w', w'.ownsMap Tryz.prog 9 (plainElem Tryz.prog 3) b (N + 1) (imap (ps ++ [(s, n)])) → w.grownBy w' (some b) → wpListIn F nF Tryz.prog ops Q rest (a.put o.dst undef) w') : wpListIn F nF Tryz.prog ops Q (o :: rest) a w :=
  wpListIn_mapUpdate_own w hg m x v _ hop 9 3 Tryz.lawS Tryz.underlying87 _ b N _ hm hown hN _ _ (strK s) hx hv (keyOf_string_mk Tryz.underlying9 hs) _ [] (plainElem_int Tryz.underlying3 (wf_small hn)) (fun w' h1 h2 => hK w' (by rw [imap_snoc]; exact h1) h2)
end

/-- A name that stood there with another number of terms. -/
def BadAt (xs : List At) : Prop := ∃ (l : List At) (a : At) (n : Nat), xs = l ++ [a] ∧ lastOf (cnts l) a.1 = some n ∧ n ≠ a.2.length

theorem grownBy_setC (W : World) (p : Addr) (v : Value) : W.grownBy (W.setCell p v) (some p.block) :=
  ⟨by simp [World.setCell], by simp [World.setCell], by simp [World.setCell], by rw [size_setCell]; exact Nat.le_refl _, fun i _ hne => Below.heap_setCell _ _ _ i (fun e => hne (by rw [e]))⟩

/-- What a store into a map keeps: all cells, and what lies below. -/
theorem keepsC_map {H : Type} {P : Program} {k : TypeId} {R : Value → Option (DataW H × List MemPlace)} {V V1 : World} {b N n₀ : Nat} {D : DataW H} (h : V.ownsMap P k R b N D) (hg : V.grownBy V1 (some b)) (hb : n₀ ≤ b) (hs : n₀ ≤ V.heap.size) : KeepsCells n₀ V V1 :=
  ⟨(Below.refl _ V).grown hg hs (fun j e => by cases e; exact hb), fun x o hx ho => hg.block x (Array.getElem?_eq_some_iff.1 hx).1 (fun e => by
    injection e with e
    subst e
    obtain ⟨es, clock, h1, _⟩ := h
    rw [h1] at hx
    injection hx with hx
    subst hx
    cases ho)⟩

set_option maxRecDepth 100000 in
set_option maxHeartbeats 8000000 in
theorem argCounts_any (A : Option Addr) (m c : Nat) (rs : List Rl) (w : World) (h : IsRules w 0 w.heap.size A m c rs) (hn : m ≤ 8) (h4 : ∀ r ∈ rs, r.2.length ≤ 4) (h3 : ∀ a ∈ atsOf rs, a.2.length ≤ 3 ∧ a.1.size ≤ maxLen) :
    Calls Tryz.prog 62 #[.slice A m c] w (CountsPost (atsOf rs) w) := by
  have H := Lib.hid h
  have hlen := Nat.le_trans (atsOf_len rs h4) (Nat.mul_le_mul_left 5 (show rs.length ≤ 8 by rw [h.1]; exact hn))
  have HLEN := Lib.hid hlen; have H3 := Lib.hid h3
  clear h h4 hlen h3
  have hmm := @run_makeMap Tryz.prog
  refine (callsIn_wide (n := 6)).1 ?_
  refine callsIn_of_wp_marks Tryz.func62 rfl trivial ?_ rfl
  simp only [Tryz.ntmps62, List.size_toArray, List.length_cons, List.length_nil, Nat.reduceAdd, Nat.reduceSub, Array.replicate_succ, Array.replicate_zero, List.push_toArray, List.append_toArray, List.nil_append, List.cons_append]
  gi_wp2_with (refine ⟨trivial, ?_⟩; gi_at_call 110; refine (callsIn_wide.2 (atomsOf_any _ _ _ _)).mono ?_; rintro e w' ⟨rfl, rfl⟩)
  have hb5 : Below w.heap.size w (((((w.alloc (.cells #[.map none] 87)).alloc (.cells #[.bool false] 4)).alloc (.map #[] 0)).alloc (.cells #[.map (some (w.heap.size + 1 + 1))] 87)).alloc (.cells #[.slice A m c] 25)) := ((((below1 w _).alloc (by simp) _).alloc (by simp; omega) _).alloc (by simp; omega) _).alloc (by simp; omega) _
  have R0 := ((((Blk.new w 87 #[.map none]).alloc (.cells #[.bool false] 4)).alloc (.map #[] 0)).alloc (.cells #[.map (some (w.heap.size + 1 + 1))] 87)).alloc (.cells #[.slice A m c] 25)
  have R1 := (((Blk.made (w.alloc (.cells #[.map none] 87)) (b := w.heap.size + 1) 4 #[.bool false] (by simp)).alloc (.map #[] 0)).alloc (.cells #[.map (some (w.heap.size + 1 + 1))] 87)).alloc (.cells #[.slice A m c] 25)
  have R3 := (Blk.made (((w.alloc (.cells #[.map none] 87)).alloc (.cells #[.bool false] 4)).alloc (.map #[] 0)) (b := w.heap.size + 1 + 1 + 1) 87 #[.map (some (w.heap.size + 1 + 1))] (by simp)).alloc (.cells #[.slice A m c] 25)
  have R4 := Blk.made ((((w.alloc (.cells #[.map none] 87)).alloc (.cells #[.bool false] 4)).alloc (.map #[] 0)).alloc (.cells #[.map (some (w.heap.size + 1 + 1))] 87)) (b := w.heap.size + 1 + 1 + 1 + 1) 25 #[.slice A m c] (by simp)
  have M2 : (((((w.alloc (.cells #[.map none] 87)).alloc (.cells #[.bool false] 4)).alloc (.map #[] 0)).alloc (.cells #[.map (some (w.heap.size + 1 + 1))] 87)).alloc (.cells #[.slice A m c] 25)).ownsMap Tryz.prog 9 (plainElem Tryz.prog 3) (w.heap.size + 1 + 1) 0 (imap []) := by
    have h0 := World.ownsMap_made ((w.alloc (.cells #[.map none] 87)).alloc (.cells #[.bool false] 4)) Tryz.prog 9 (plainElem (H := Unit) Tryz.prog 3)
    rw [show ((w.alloc (.cells #[.map none] 87)).alloc (.cells #[.bool false] 4)).heap.size = w.heap.size + 1 + 1 by simp] at h0
    exact (h0.alloc _).alloc _
  have hz5 : (((((w.alloc (.cells #[.map none] 87)).alloc (.cells #[.bool false] 4)).alloc (.map #[] 0)).alloc (.cells #[.map (some (w.heap.size + 1 + 1))] 87)).alloc (.cells #[.slice A m c] 25)).heap.size = w.heap.size + 5 := by simp
  obtain ⟨W0, hW0⟩ : ∃ W0, ((((w.alloc (.cells #[.map none] 87)).alloc (.cells #[.bool false] 4)).alloc (.map #[] 0)).alloc (.cells #[.map (some (w.heap.size + 1 + 1))] 87)).alloc (.cells #[.slice A m c] 25) = W0 := ⟨_, rfl⟩
  rw [hW0] at hb5 R0 R1 R3 R4 M2 hz5 ⊢
  clear hW0
  have TR : IsRules W0 0 w.heap.size A m c rs := H.out.below RuleE.stays hb5 (Nat.le_refl _)
  refine wpIn_rangeFunc_ownH rfl (by omega) (gf := 150) (lb := #[.pointer (some ⟨w.heap.size + 1 + 1 + 1 + 1, 0, none⟩)]) rfl trivial (enters_of Tryz.func150 (by kernel_rfl) rfl)
    (atoms_stops (6 - 1) (by omega) (w.heap.size + 1 + 1 + 1 + 1) w.heap.size A m c rs W0 (by omega) (by omega) (R4.cell 0) TR) keepsC_t (keepsC_b (by omega)) (Below.refl _ _) (fun _ => rfl)
    (fun pre V => (alikeB (pre.map lainAt) = true ∧ V.ownsMap Tryz.prog 9 (plainElem Tryz.prog 3) (w.heap.size + 1 + 1) pre.length (imap (cnts (pre.map lainAt)))) ∧ ((Blk V w.heap.size 87 #[.map none] ∧ Blk V (w.heap.size + 1) 4 #[.bool false]) ∧ Blk V (w.heap.size + 1 + 1 + 1) 87 #[.map (some (w.heap.size + 1 + 1))]) ∧ Below w.heap.size w V)
    (fun c pre V => (c = .ret ∧ BadAt (pre.map lainAt)) ∧ (Blk V w.heap.size 87 #[.map none] ∧ Blk V (w.heap.size + 1) 4 #[.bool false]) ∧ Below w.heap.size w V)
    (OwnFrom.and (OwnFrom.and (ownFrom_pure _ _) (ownFrom_mapN (by omega))) (OwnFrom.and (OwnFrom.and (OwnFrom.and (Own.from (Blk.own _ _ _) _) (Own.from (Blk.own _ _ _) _)) (Own.from (Blk.own _ _ _) _)) (ownFrom_below (Nat.le_refl _) (by omega))))
    (fun c => OwnFrom.and (ownFrom_pure _ _) (OwnFrom.and (OwnFrom.and (Own.from (Blk.own _ _ _) _) (Own.from (Blk.own _ _ _) _)) (ownFrom_below (Nat.le_refl _) (by omega))))
    ⟨⟨rfl, M2⟩, ⟨⟨R0, R1⟩, R3⟩, hb5⟩
    (fun x a' W => ∃ Bx, Blk W Bx 67 #[.string x.1.1.1, .slice x.1.1.2 x.1.2.1.1 x.1.2.1.2] ∧ a' = { tmps := #[.slice A m c, undef, .pointer (some ⟨w.heap.size, 0, none⟩), .pointer (some ⟨w.heap.size + 1, 0, none⟩), .pointer (some ⟨w.heap.size + 1 + 1 + 1, 0, none⟩), .pointer (some ⟨Bx, 0, none⟩), undef, undef, .map (some (w.heap.size + 1 + 1)), .slice A m c, .func (.func 150) #[] #[.pointer (some ⟨w.heap.size + 1 + 1 + 1 + 1, 0, none⟩)], .agg #[.string x.1.1.1, .slice x.1.1.2 x.1.2.1.1 x.1.2.1.2], undef, undef, undef, undef, undef, undef, undef, undef, undef, undef, undef, undef, undef, undef, undef, undef, undef, undef, undef, undef, undef, undef], defers := [] })
    (fun x a' _ X Y row hs hg hr => by obtain ⟨Bx, e2, e3⟩ := hs; exact ⟨Bx, Blk.own Bx _ _ () X Y row e2 hg (fun r e => (hr r e).2), e3⟩)
    ?assign ?body ?done ?stop
  case assign =>
    rintro l pre x W K ⟨⟨hal, hmp⟩, ⟨⟨b0, b1⟩, b3⟩, hB⟩ hK
    have hsz := hB.size
    gi_wp2
    exact hK _ _ ((KeepsOthers.alloc _ _).from _) (KeepsCells.of (below1 W _) (by omega)) ⟨⟨hal, hmp.alloc _⟩, ⟨⟨b0.alloc _, b1.alloc _⟩, b3.alloc _⟩, hB.alloc hsz _⟩ ⟨W.heap.size, Blk.new W _ _, rfl⟩
  case body =>
    rintro l pre ⟨⟨⟨nm5, C⟩, ⟨n5, c5⟩, ts5⟩, hx1, hx2⟩ a' W hl ⟨r, hr⟩ ⟨⟨hal, hmp⟩, ⟨⟨b0, b1⟩, b3⟩, hB⟩ ⟨Bx, bX, rfl⟩ hlt
    have hsW := hB.size
    have c0 : W.cell? ⟨Bx, 0, none⟩ = some (.string nm5) := bX.cell 0
    have c1 : W.cell? ⟨Bx, 1, none⟩ = some (.slice C n5 c5) := bX.cell 1
    have cM : W.cell? ⟨w.heap.size + 1 + 1 + 1, 0, none⟩ = some (.map (some (w.heap.size + 1 + 1))) := b3.cell 0
    have hT5 := hx2.1
    simp only at hT5
    have hn5 : n5 ≤ maxLen := by have := hx2.2.1; have := hx2.2.2.1; simp only at *; omega
    have HT5 := Lib.hid hT5; clear hT5
    have hL := HLEN.out
    cases hl : lastOf (cnts (pre.map lainAt)) nm5 with
    | none =>
      gi_wp2_with (first
        | (gi_at_lookup; refine lookup_ok _ rfl _ _ rfl (w.heap.size + 1 + 1) pre.length (cnts (pre.map lainAt)) rfl hmp nm5 rfl hx1 0 false (by rw [hl]; rfl) (by rw [hl]; rfl) ?_)
        | (gi_at_mapUpdate; refine store_at _ rfl _ _ _ rfl (w.heap.size + 1 + 1) pre.length (cnts (pre.map lainAt)) rfl hmp (by unfold maxLen; omega) nm5 rfl hx1 n5 rfl hn5 ?_; intro V1 hmp1 hgr1))
      have hT5 := HT5.out
      refine ⟨KeepsFrom.of_grownBy hgr1 (fun j e => by cases e; omega), keepsC_map hmp hgr1 (by omega) hsW, ⟨?_, ?_⟩, ⟨⟨b0.kept hgr1 (fun e => by injection e with e; omega), b1.kept hgr1 (fun e => by injection e with e; omega)⟩, b3.kept hgr1 (fun e => by injection e with e; omega)⟩, hB.grown hgr1 hsW (fun j e => by cases e; omega)⟩
      · rw [List.map_append]
        exact alike_more hal (fun n hn => by have hn2 : lastOf (cnts (pre.map lainAt)) nm5 = some n := hn; rw [hl] at hn2; cases hn2)
      · rw [List.map_append, List.length_append]
        show V1.ownsMap _ _ _ _ _ (imap (cnts (pre.map lainAt ++ [(nm5, ts5)])))
        rw [cnts_snoc]
        rw [← hT5] at hmp1
        exact hmp1
    | some n0 =>
      by_cases hne : n0 = n5
      · subst hne
        gi_wp2_with (first
          | (gi_at_lookup; refine lookup_ok _ rfl _ _ rfl (w.heap.size + 1 + 1) pre.length (cnts (pre.map lainAt)) rfl hmp nm5 rfl hx1 n0 true (by rw [hl]; rfl) (by rw [hl]; rfl) ?_)
          | (gi_at_mapUpdate; refine store_at _ rfl _ _ _ rfl (w.heap.size + 1 + 1) pre.length (cnts (pre.map lainAt)) rfl hmp (by unfold maxLen; omega) nm5 rfl hx1 n0 rfl hn5 ?_; intro V1 hmp1 hgr1))
        have hT5 := HT5.out
        refine ⟨KeepsFrom.of_grownBy hgr1 (fun j e => by cases e; omega), keepsC_map hmp hgr1 (by omega) hsW, ⟨?_, ?_⟩, ⟨⟨b0.kept hgr1 (fun e => by injection e with e; omega), b1.kept hgr1 (fun e => by injection e with e; omega)⟩, b3.kept hgr1 (fun e => by injection e with e; omega)⟩, hB.grown hgr1 hsW (fun j e => by cases e; omega)⟩
        · rw [List.map_append]
          exact alike_more hal (fun n hn => by have hn2 : lastOf (cnts (pre.map lainAt)) nm5 = some n := hn; rw [hl] at hn2; injection hn2 with hn2; rw [← hn2]; exact hT5.symm)
        · rw [List.map_append, List.length_append]
          show V1.ownsMap _ _ _ _ _ (imap (cnts (pre.map lainAt ++ [(nm5, ts5)])))
          rw [cnts_snoc]
          rw [← hT5] at hmp1
          exact hmp1
      · have e1 : ((n0 : Int) == (n5 : Int)) = false := beq_eq_false_iff_ne.2 (fun e => hne (by omega))
        have e2 : ((n0 : Int) != (n5 : Int)) = true := by rw [bne, e1]; rfl
        have e3 : (n0 == n5) = false := by simpa using hne
        have r0 : W.cell? ⟨w.heap.size, 0, none⟩ = some (.map none) := b0.cell 0
        have r1 : W.cell? ⟨w.heap.size + 1, 0, none⟩ = some (.bool false) := b1.cell 0
        have f0 := b0.frozen 0
        have f1 := b1.frozen 0
        gi_wp2_with (first
          | (gi_at_lookup; refine lookup_ok _ rfl _ _ rfl (w.heap.size + 1 + 1) pre.length (cnts (pre.map lainAt)) rfl hmp nm5 rfl hx1 n0 true (by rw [hl]; rfl) (by rw [hl]; rfl) ?_)
          | (gi_at_mapUpdate; refine store_at _ rfl _ _ _ rfl (w.heap.size + 1 + 1) pre.length (cnts (pre.map lainAt)) rfl hmp (by unfold maxLen; omega) nm5 rfl hx1 n5 rfl hn5 ?_; intro V1 hmp1 hgr1))
        have k0 := (b0.set 0 (.map none)).far (p := ⟨w.heap.size + 1, 0, none⟩) (by simp) (.bool false)
        have k1 := (b1.far (p := ⟨w.heap.size, 0, none⟩) (by simp) (.map none)).set 0 (.bool false)
        exact ⟨((KeepsOthers.setCell _ _ _).from _).trans ((KeepsOthers.setCell _ _ _).from _), ⟨rfl, pre.map lainAt, (nm5, ts5), n0, by rw [List.map_append]; rfl, hl, fun e => hne (by rw [e]; exact HT5.out)⟩, ⟨k0, k1⟩, (hB.setCell (p := ⟨w.heap.size, 0, none⟩) (by simp) _).setCell (p := ⟨w.heap.size + 1, 0, none⟩) (by simp) _⟩
  case done =>
    rintro D ys W hD hys ⟨⟨hal, hmp⟩, ⟨⟨b0, b1⟩, b3⟩, hB⟩ hK
    have cM : W.cell? ⟨w.heap.size + 1 + 1 + 1, 0, none⟩ = some (.map (some (w.heap.size + 1 + 1))) := b3.cell 0
    have r0 : W.cell? ⟨w.heap.size, 0, none⟩ = some (.map none) := b0.cell 0
    have r1 : W.cell? ⟨w.heap.size + 1, 0, none⟩ = some (.bool false) := b1.cell 0
    have f0 := b0.frozen 0
    have f1 := b1.frozen 0
    have hsz := hB.size
    gi_wp2
    have k0 := (b0.set 0 (.map (some (w.heap.size + 1 + 1)))).far (p := ⟨w.heap.size + 1, 0, none⟩) (by simp) (.bool true)
    have k1 := (b1.far (p := ⟨w.heap.size, 0, none⟩) (by simp) (.map (some (w.heap.size + 1 + 1)))).set 0 (.bool true)
    have hK' := (KeepsOthers.setCell (W.setCell ⟨w.heap.size, 0, none⟩ (.map (some (w.heap.size + 1 + 1)))) ⟨w.heap.size + 1, 0, none⟩ (.bool true)).same D _ ((KeepsOthers.setCell W ⟨w.heap.size, 0, none⟩ (.map (some (w.heap.size + 1 + 1)))).same D _ hK rfl) rfl
    refine ⟨by simp, .inl ⟨_, _, rfl, run_takeDeferred hK', ?_⟩⟩
    have hc0 := cell_kept (show ((W.setCell ⟨w.heap.size, 0, none⟩ (.map (some (w.heap.size + 1 + 1)))).setCell ⟨w.heap.size + 1, 0, none⟩ (.bool true)).cell? ⟨w.heap.size, 0, none⟩ = some (.map (some (w.heap.size + 1 + 1))) from k0.cell 0) (grownBy_putObj' _ D (.deferred none)) (fun r e => by cases e; exact ⟨_, hK', rfl⟩)
    have hc1 := cell_kept (show ((W.setCell ⟨w.heap.size, 0, none⟩ (.map (some (w.heap.size + 1 + 1)))).setCell ⟨w.heap.size + 1, 0, none⟩ (.bool true)).cell? ⟨w.heap.size + 1, 0, none⟩ = some (.bool true) from k1.cell 0) (grownBy_putObj' _ D (.deferred none)) (fun r e => by cases e; exact ⟨_, hK', rfl⟩)
    rw [hys] at hal hmp
    refine ⟨.tuple #[.map (some (w.heap.size + 1 + 1)), .bool true], ?_, .map (some (w.heap.size + 1 + 1)), by rw [hal], fun _ => ⟨_, ys.length, rfl, by omega, ?_⟩, ((hB.setCell (p := ⟨w.heap.size, 0, none⟩) (by simp) _).setCell (p := ⟨w.heap.size + 1, 0, none⟩) (by simp) _).trans (belowK_b (w := w) (Nat.le_refl _) _ D _ _ (by omega) hK' rfl rfl)⟩
    · simp [results, Tryz.f62, go_sem, hc0, hc1]
    · have h1 := (hmp.kept (grownBy_setC W ⟨w.heap.size, 0, none⟩ (.map (some (w.heap.size + 1 + 1)))) (fun e => by injection e with e; simp only at e; omega)).kept (grownBy_setC _ ⟨w.heap.size + 1, 0, none⟩ (.bool true)) (fun e => by injection e with e; simp only at e; omega)
      exact h1.kept (grownBy_putObj' _ D (.deferred none)) (fun e => by injection e with e; omega)
  case stop =>
    rintro D cc pre W hD hpre ⟨⟨rfl, l, a, n, he, hl, hne⟩, ⟨b0, b1⟩, hB⟩ hK
    have hbad := alike_bad hl hne (by rw [← he]; exact hpre)
    gi_wp2
    refine ⟨by simp, .inl ⟨_, _, rfl, run_takeDeferred hK, ?_⟩⟩
    have hc0 := cell_kept (show W.cell? ⟨w.heap.size, 0, none⟩ = some (.map none) from b0.cell 0) (grownBy_putObj' _ D (.deferred none)) (fun r e => by cases e; exact ⟨_, hK, rfl⟩)
    have hc1 := cell_kept (show W.cell? ⟨w.heap.size + 1, 0, none⟩ = some (.bool false) from b1.cell 0) (grownBy_putObj' _ D (.deferred none)) (fun r e => by cases e; exact ⟨_, hK, rfl⟩)
    refine ⟨.tuple #[.map none, .bool false], ?_, .map none, by rw [hbad], (fun h => by rw [hbad] at h; cases h), hB.trans (belowK_b (w := w) (Nat.le_refl _) W D _ _ (by omega) hK rfl rfl)⟩
    simp [results, Tryz.f62, go_sem, hc0, hc1]

end Go.Proofs.YtnhbnhibphjljaaGreatDoor

