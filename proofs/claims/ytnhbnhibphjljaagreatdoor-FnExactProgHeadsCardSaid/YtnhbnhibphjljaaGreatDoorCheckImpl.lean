/-
  errors.As, as the program calls it: of no error it is false; of the program's own error, with its own kind as a target, it is true, and writes the target alone. errors.As at the program's own error: it is told, and the target alone is written.
  What is wrong with rules, told in two ways that come to the same. (Of no code.) What is wrong with rules, in the model. What is wrong with rules, in the program. What is wrong with rules, in the program: all of it. The kind of errors, as it lies when a call begins: out of the tie, and a world where it lies so.
-/
import Derived.Test.YtnhbnhibphjljaaGreatDoorMem
import Derived.LaidEql
import Derived.Lib.ReflectliteSlice
import Derived.Stop.Asserts
import Derived.RowKitTokens
import Derived.Test.YtnhbnhibphjljaaGreatDoorAskMath
import Derived.Test.YtnhbnhibphjljaaGreatDoorAtomsL
import Derived.Test.YtnhbnhibphjljaaGreatDoorRuleOk
import Derived.Test.YtnhbnhibphjljaaGreatDoorLevelsRun
import Derived.Test.YtnhbnhibphjljaaGreatDoorStrataRun
import Derived.Test.YtnhbnhibphjljaaGreatDoorCounts
import Derived.Test.YtnhbnhibphjljaaGreatDoorRows
import Derived.ProofKit
import Derived.LaidMore
import Derived.LaidLaws
import Derived.LaidHandle
import Derived.Stop.Joined
namespace Go.Proofs.YtnhbnhibphjljaaGreatDoor
open Go.RowKit Go.Extern.Stop Go.Stop Go.Extern Go.Lib

/-- errors.As of no error. -/
theorem as_nil (t : Value) (w : World) :
    Calls Tryz.prog 66 #[.nilIface, t] w fun e w' => e = .returned (.bool false) ∧ w = w' := by
  go_enter Tryz.func66, Tryz.ntmps66
  go_wp2
  go_ret
  exact ⟨rfl, rfl⟩

/-- The block that handles of types point into. -/
noncomputable def hB : Nat := Tryz.prog.globals.size

theorem Tryz.valueOfP (t : Addr) (w : World) : (ReflectliteValue.unpack (.iface 98 (.pointer (some t)))).run Tryz.prog w
    = .ok (.agg #[.pointer (some ⟨hB, 98, none⟩), .pointer (some ⟨w.heap.size, 0, none⟩), .int .u64 150]) (w.alloc (.cells #[.pointer (some t)] 98)) := by kernel_rfl
theorem Tryz.typeP (a : Addr) (w : World) : (ReflectliteValue.methodAny (ReflectliteValue.valueError "reflectlite.Value.Type" 0) (fun t _ _ _ => ReflectliteType.toType t) #[.agg #[.pointer (some ⟨hB, 98, none⟩), .pointer (some a), .int .u64 150]]).run Tryz.prog w
    = .ok (.iface 199 (.agg #[.pointer (some ⟨hB, 98, none⟩)])) w := by kernel_rfl
theorem Tryz.kindP (w : World) : ((ReflectliteType.abiMethod fun t => (fun a : Nat => Value.int IntKind.u8 (a : Int)) <$> Rtype.kind t) #[.pointer (some ⟨hB, 98, none⟩)]).run Tryz.prog w = .ok (.int .u8 22) w := by kernel_rfl
theorem Tryz.kindE (w : World) : ((ReflectliteType.abiMethod fun t => (fun a : Nat => Value.int IntKind.u8 (a : Int)) <$> Rtype.kind t) #[.pointer (some ⟨hB, 96, none⟩)]).run Tryz.prog w = .ok (.int .u8 25) w := by kernel_rfl
theorem Tryz.partsP (a : Addr) (w : World) : (ReflectliteValue.parts (.agg #[.pointer (some ⟨hB, 98, none⟩), .pointer (some a), .int .u64 150])).run Tryz.prog w = .ok (some (98, a, 150)) w := by kernel_rfl
theorem Tryz.elemP (w : World) : (ReflectliteType.method ReflectliteType.elem #[.agg #[.pointer (some ⟨hB, 98, none⟩)]]).run Tryz.prog w = .ok (.iface 199 (.agg #[.pointer (some ⟨hB, 96, none⟩)])) w := by kernel_rfl
theorem Tryz.implementsE (w : World) : (ReflectliteType.relation "Implements" ReflectliteType.implements_ #[.agg #[.pointer (some ⟨hB, 96, none⟩)], .iface 199 (.agg #[.pointer (some ⟨hB, 92, none⟩)])]).run Tryz.prog w = .ok (.bool true) w := by kernel_rfl
theorem Tryz.typeOfE (v : Value) (w : World) : (ReflectliteType.typeOf #[.iface 96 v]).run Tryz.prog w = .ok (.iface 199 (.agg #[.pointer (some ⟨hB, 96, none⟩)])) w := by kernel_rfl
theorem Tryz.assignableE (w : World) : (ReflectliteType.relation "AssignableTo" ReflectliteType.assignableTo #[.agg #[.pointer (some ⟨hB, 96, none⟩)], .iface 199 (.agg #[.pointer (some ⟨hB, 96, none⟩)])]).run Tryz.prog w = .ok (.bool true) w := by kernel_rfl
theorem Tryz.valueOfE (s : ByteArray) (w : World) : (ReflectliteValue.unpack (.iface 96 (.agg #[.string s]))).run Tryz.prog w
    = .ok (.agg #[.pointer (some ⟨hB, 96, none⟩), .pointer (some ⟨w.heap.size, 0, none⟩), .int .u64 153]) (w.alloc (.cells #[.string s] 96)) := by kernel_rfl
theorem Tryz.elemOfP (w : World) : (Rtype.elem? 98).run Tryz.prog w = .ok (some 96) w := by kernel_rfl
theorem Tryz.mkE (p : Addr) (w : World) : (ReflectliteValue.mk 96 p ReflectliteValue.flagAddr).run Tryz.prog w = .ok (.agg #[.pointer (some ⟨hB, 96, none⟩), .pointer (some p), .int .u64 409]) w := by kernel_rfl
theorem Tryz.partsEa (a : Addr) (w : World) : (ReflectliteValue.parts (.agg #[.pointer (some ⟨hB, 96, none⟩), .pointer (some a), .int .u64 409])).run Tryz.prog w = .ok (some (96, a, 409)) w := by kernel_rfl
theorem Tryz.partsE (a : Addr) (w : World) : (ReflectliteValue.parts (.agg #[.pointer (some ⟨hB, 96, none⟩), .pointer (some a), .int .u64 153])).run Tryz.prog w = .ok (some (96, a, 153)) w := by kernel_rfl
theorem Tryz.directE (w : World) : (Rtype.directlyAssignable 96 96).run Tryz.prog w = .ok true w := by kernel_rfl
theorem Tryz.sizeE (w : World) : (sizeOf 96).run Tryz.prog w = .ok 1 w := by kernel_rfl

theorem Tryz.methodKind (n : Nat) (h : Value) (w : World) : (Go.method (n + 1) 199 (.agg #[h]) "Kind").run Tryz.prog w = .ok (215, h) w := by kernel_rfl
theorem Tryz.methodImplements (n : Nat) (h : Value) (w : World) : (Go.method (n + 1) 199 (.agg #[h]) "Implements").run Tryz.prog w = .ok (230, .agg #[h]) w := by kernel_rfl
theorem Tryz.methodAssignableTo (n : Nat) (h : Value) (w : World) : (Go.method (n + 1) 199 (.agg #[h]) "AssignableTo").run Tryz.prog w = .ok (227, .agg #[h]) w := by kernel_rfl
theorem Tryz.methodElem (n : Nat) (h : Value) (w : World) : (Go.method (n + 1) 199 (.agg #[h]) "Elem").run Tryz.prog w = .ok (229, .agg #[h]) w := by kernel_rfl

/-- Is the target nil? It is not. -/
theorem isNilP (a p : Addr) (W : World) (ha : W.cell? a = some (.pointer (some p))) :
    (ReflectliteValue.method (ReflectliteValue.valueError "reflectlite.Value.IsNil" 0) ReflectliteValue.isNil #[.agg #[.pointer (some ⟨hB, 98, none⟩), .pointer (some a), .int .u64 150]]).run Tryz.prog W = .ok (.bool false) W := by
  rw [rl_method]
  simp only [Sem.run_bind, Tryz.partsP, Result.andThen]
  simp [ReflectliteValue.isNil, loadVar, isAgg, underlying, Tryz.underlying98, ha, Result.andThen]

/-- What the target leads to, to be written. -/
theorem elemVP (a p : Addr) (W : World) (ha : W.cell? a = some (.pointer (some p))) :
    (ReflectliteValue.method (ReflectliteValue.valueError "reflectlite.Value.Elem" 0) ReflectliteValue.elem #[.agg #[.pointer (some ⟨hB, 98, none⟩), .pointer (some a), .int .u64 150]]).run Tryz.prog W
      = .ok (.agg #[.pointer (some ⟨hB, 96, none⟩), .pointer (some p), .int .u64 409]) W := by
  rw [rl_method]
  simp only [Sem.run_bind, Tryz.partsP, Result.andThen]
  simp [ReflectliteValue.elem, loadVar, isAgg, underlying, Tryz.underlying98, ha, Result.andThen, Tryz.elemOfP, Tryz.mkE]

/-- The target is written. -/
theorem setE (ta b : Addr) (s : ByteArray) (old : Value) (W : World) (hb : W.cell? b = some (.string s)) (ht : W.cell? ta = some old) (hf : W.frozen? ta = false) :
    (ReflectliteValue.set #[.agg #[.pointer (some ⟨hB, 96, none⟩), .pointer (some ta), .int .u64 409], .agg #[.pointer (some ⟨hB, 96, none⟩), .pointer (some b), .int .u64 153]]).run Tryz.prog W
      = .ok (.tuple #[]) (W.setCell ta (.string s)) := by
  show Sem.run _ (ReflectliteValue.parts (.agg #[.pointer (some ⟨hB, 96, none⟩), .pointer (some ta), .int .u64 409]) >>= fun q => ReflectliteValue.parts (.agg #[.pointer (some ⟨hB, 96, none⟩), .pointer (some b), .int .u64 153]) >>= _) _ = _
  rw [Sem.run_bind, Tryz.partsEa]
  simp only [Result.andThen]
  rw [Sem.run_bind, Tryz.partsE]
  simp only [Result.andThen]
  have hl : Sem.run Tryz.prog (loadCells b 1) W = .ok #[.string s] W := by
    simp [loadCells, loadCellsFrom, hb, Addr.add]
  simp only [ReflectliteValue.flagAddr, loadVar, isAgg, underlying]
  simp [Result.andThen, Tryz.directE, hl]
  simp [storeVar, Value.cells, storeCells, Addr.add, Result.andThen]
  rw [run_store Tryz.prog W ta _ _ (by rfl)]
  simp [ht, hf]

end Go.Proofs.YtnhbnhibphjljaaGreatDoor

namespace Go.Proofs.YtnhbnhibphjljaaGreatDoor
open Go.RowKit Go.Extern.Stop Go.Stop Go.Extern Go.Lib

set_option maxHeartbeats 4000000 in
set_option maxRecDepth 20000 in
/-- errors.As of the program's own error, its kind the target's: true; the target alone is written. -/
theorem as_hit (s : ByteArray) (t : Addr) (old : Value) (w : World) (hg : w.cell? ⟨0, 0, none⟩ = some (.iface 199 (.agg #[.pointer (some ⟨hB, 92, none⟩)]))) (ht0 : w.cell? t = some old) (hf0 : w.frozen? t = false) :
    Calls Tryz.prog 66 #[.iface 96 (.agg #[.string s]), .iface 98 (.pointer (some t))] w fun ev w' => ev = .returned (.bool true) ∧ w' = ((((w.alloc (.cells #[.pointer (some t)] 98)).alloc (.cells #[.pointer (some ⟨hB, 98, none⟩), .pointer (some ⟨w.heap.size, 0, none⟩), .int .u64 150] 146)).alloc (.cells #[.pointer (some ⟨hB, 98, none⟩), .pointer (some ⟨w.heap.size, 0, none⟩), .int .u64 150] 146)).alloc (.cells #[.string s] 96)).setCell t (.string s) := by
  have h6 := @run_callFunc_extern Tryz.prog 116 _ (fun args => ReflectliteValue.unpack (args.getD 0 (.tuple #[]))) Tryz.func116 (by kernel_rfl) (by kernel_rfl) (by kernel_rfl) (by kernel_rfl)
  have h7 := @run_callFunc_extern Tryz.prog 117 _ (ReflectliteValue.methodAny (ReflectliteValue.valueError "reflectlite.Value.Type" 0) (fun t _ _ _ => ReflectliteType.toType t)) Tryz.func117 (by kernel_rfl) (by kernel_rfl) (by kernel_rfl) (by kernel_rfl)
  have h8 := @run_callFunc_extern Tryz.prog 118 _ (ReflectliteValue.method (ReflectliteValue.valueError "reflectlite.Value.IsNil" 0) ReflectliteValue.isNil) Tryz.func118 (by kernel_rfl) (by kernel_rfl) (by kernel_rfl) (by kernel_rfl)
  have h27 := @run_callFunc_extern Tryz.prog 215 _ (ReflectliteType.abiMethod fun t => do pure (.int .u8 (← Rtype.kind t))) Tryz.func215 (by kernel_rfl) (by kernel_rfl) (by kernel_rfl) (by kernel_rfl)
  have h37 := @run_callFunc_extern Tryz.prog 229 _ (ReflectliteType.method ReflectliteType.elem) Tryz.func229 (by kernel_rfl) (by kernel_rfl) (by kernel_rfl) (by kernel_rfl)
  have h38 := @run_callFunc_extern Tryz.prog 230 _ (ReflectliteType.relation "Implements" ReflectliteType.implements_) Tryz.func230 (by kernel_rfl) (by kernel_rfl) (by kernel_rfl) (by kernel_rfl)
  have h10 := @run_callFunc_extern Tryz.prog 152 _ (ReflectliteType.typeOf) Tryz.func152 (by kernel_rfl) (by kernel_rfl) (by kernel_rfl) (by kernel_rfl)
  have h35 := @run_callFunc_extern Tryz.prog 227 _ (ReflectliteType.relation "AssignableTo" ReflectliteType.assignableTo) Tryz.func227 (by kernel_rfl) (by kernel_rfl) (by kernel_rfl) (by kernel_rfl)
  have h11 := @run_callFunc_extern Tryz.prog 153 _ (ReflectliteValue.method (ReflectliteValue.valueError "reflectlite.Value.Elem" 0) ReflectliteValue.elem) Tryz.func153 (by kernel_rfl) (by kernel_rfl) (by kernel_rfl) (by kernel_rfl)
  have h12 := @run_callFunc_extern Tryz.prog 154 _ (ReflectliteValue.set) Tryz.func154 (by kernel_rfl) (by kernel_rfl) (by kernel_rfl) (by kernel_rfl)
  have tO := Tryz.typeOfE
  have mA := Tryz.methodAssignableTo
  have aE := Tryz.assignableE
  have vE := Tryz.valueOfE
  have vP := Tryz.valueOfP
  have tP := Tryz.typeP
  have mK := Tryz.methodKind
  have mE := Tryz.methodElem
  have mI := Tryz.methodImplements
  have kP := Tryz.kindP
  have kE := Tryz.kindE
  have eP := Tryz.elemP
  have iE := Tryz.implementsE
  have n8 := isNilP ⟨w.heap.size, 0, none⟩ t ((w.alloc (.cells #[.pointer (some t)] 98)).alloc (.cells #[.pointer (some ⟨hB, 98, none⟩), .pointer (some ⟨w.heap.size, 0, none⟩), .int .u64 150] 146)) (by simp)
  have hlt : 0 < w.heap.size := by
    rcases Nat.eq_zero_or_pos w.heap.size with h0 | h
    · simp [World.cell?, h0] at hg
    · exact h
  have hg2 : ((w.alloc (.cells #[.pointer (some t)] 98)).alloc (.cells #[.pointer (some ⟨hB, 98, none⟩), .pointer (some ⟨w.heap.size, 0, none⟩), .int .u64 150] 146)).cell? ⟨0, 0, none⟩ = some (.iface 199 (.agg #[.pointer (some ⟨hB, 92, none⟩)])) := by
    rw [World.cell?_alloc_lt _ _ ⟨0, 0, none⟩ (by simp), World.cell?_alloc_lt _ _ ⟨0, 0, none⟩ hlt]; exact hg
  have htl : t.block < w.heap.size := by
    rcases Nat.lt_or_ge t.block w.heap.size with h | h
    · exact h
    · simp [World.cell?, Array.getElem?_eq_none h] at ht0
  have el := elemVP ⟨w.heap.size, 0, none⟩ t (((w.alloc (.cells #[.pointer (some t)] 98)).alloc (.cells #[.pointer (some ⟨hB, 98, none⟩), .pointer (some ⟨w.heap.size, 0, none⟩), .int .u64 150] 146)).alloc (.cells #[.pointer (some ⟨hB, 98, none⟩), .pointer (some ⟨w.heap.size, 0, none⟩), .int .u64 150] 146)) (by rw [World.cell?_alloc_lt _ _ ⟨w.heap.size, 0, none⟩ (by simp; omega)]; simp)
  have st := setE t ⟨w.heap.size + 1 + 1 + 1, 0, none⟩ s old ((((w.alloc (.cells #[.pointer (some t)] 98)).alloc (.cells #[.pointer (some ⟨hB, 98, none⟩), .pointer (some ⟨w.heap.size, 0, none⟩), .int .u64 150] 146)).alloc (.cells #[.pointer (some ⟨hB, 98, none⟩), .pointer (some ⟨w.heap.size, 0, none⟩), .int .u64 150] 146)).alloc (.cells #[.string s] 96))
    (by rw [World.cell?_alloc_at _ _ _ _ (by simp)]; rfl)
    (by rw [World.cell?_alloc_lt _ _ t (by simp; omega), World.cell?_alloc_lt _ _ t (by simp; omega), World.cell?_alloc_lt _ _ t (by simp; omega), World.cell?_alloc_lt _ _ t htl]; exact ht0)
    (by rw [World.frozen?_alloc_old _ _ t (by simp; omega), World.frozen?_alloc_old _ _ t (by simp; omega), World.frozen?_alloc_old _ _ t (by simp; omega), World.frozen?_alloc_old _ _ t (Nat.ne_of_lt htl)]; exact hf0)
  go_enter Tryz.func66, Tryz.ntmps66
  go_wp2
  refine wp_loop_rounds 1 ?_
  rw [rounds_succ]
  go_wp2
  go_ret
  exact ⟨rfl, rfl⟩

end Go.Proofs.YtnhbnhibphjljaaGreatDoor

namespace Go.Proofs.YtnhbnhibphjljaaGreatDoor
open Go.RowKit

/-- Each variable of a rule in something that must be: by two counts, and by a search. -/
theorem tight_rule (r : Rl) : tightB r.1.2 r.2 = !looseB [r] (mvars r.2) := by
  have hA : ∀ x, x ∈ partsT (varsT [] r.1.2) r.2 ↔ ∃ a ∈ atsOf [r], x ∈ varsOf a.2 := by
    intro x
    have hat : atsOf [r] = r.1 :: r.2.map (·.2) := by unfold atsOf; simp
    unfold varsT
    rw [partsT_all, mem_puts, mem_puts, hat]
    simp only [List.mem_flatMap, List.mem_cons, List.mem_map, List.not_mem_nil, or_false]
    constructor
    · rintro (⟨q, hq, h⟩ | h)
      · exact ⟨q.2, .inr ⟨q, hq, rfl⟩, h⟩
      · exact ⟨r.1, .inl rfl, h⟩
    · rintro ⟨a, rfl | ⟨q, hq, rfl⟩, h⟩
      · exact .inr h
      · exact .inl ⟨q, hq, h⟩
  have hB : ∀ x, x ∈ partsT [] (musts r.2) ↔ x ∈ mvars r.2 := by
    intro x
    rw [partsT_all, mem_puts]
    unfold mvars
    simp
  have nA : (partsT (varsT [] r.1.2) r.2).Nodup := by rw [partsT_all]; exact (InRow.puts (InRow.puts List.Pairwise.nil)).nodup
  have nB : (partsT [] (musts r.2)).Nodup := by rw [partsT_all]; exact (InRow.puts List.Pairwise.nil).nodup
  have hsub : ∀ x ∈ partsT [] (musts r.2), x ∈ partsT (varsT [] r.1.2) r.2 := by
    intro x hx
    rw [hB] at hx
    rw [hA]
    unfold mvars musts at hx
    obtain ⟨q, hq, hx⟩ := List.mem_flatMap.1 hx
    exact ⟨q.2, by unfold atsOf; rw [List.flatMap_singleton]; exact List.mem_cons_of_mem _ (List.mem_map_of_mem (List.mem_filter.1 hq).1), hx⟩
  have hl : looseB [r] (mvars r.2) = true ↔ ∃ a ∈ atsOf [r], ∃ x ∈ varsOf a.2, x ∉ mvars r.2 := by
    unfold looseB
    rw [List.any_eq_true]
    constructor
    · rintro ⟨a, ha, h⟩
      obtain ⟨v, hv, hn⟩ := List.any_eq_true.1 h
      exact ⟨a, ha, v, hv, fun hin => by rw [memT_iff.2 hin] at hn; cases hn⟩
    · rintro ⟨a, ha, v, hv, hn⟩
      refine ⟨a, ha, List.any_eq_true.2 ⟨v, hv, ?_⟩⟩
      cases h : memT (mvars r.2) v
      · rfl
      · exact absurd (memT_iff.1 h) hn
  unfold tightB
  cases hL : looseB [r] (mvars r.2)
  · have hno : ∀ x ∈ partsT (varsT [] r.1.2) r.2, x ∈ partsT [] (musts r.2) := by
      intro x hx
      rw [hA] at hx
      obtain ⟨a, ha, hx⟩ := hx
      refine Classical.byContradiction fun hn => ?_
      have := hl.2 ⟨a, ha, x, hx, fun h => hn ((hB x).2 h)⟩
      rw [hL] at this
      cases this
    have h1 := nodup_sub nB hsub
    have h2 := nodup_sub nA hno
    exact decide_eq_true (by omega)
  · obtain ⟨a, ha, x, hx, hn⟩ := hl.1 hL
    have h1 := nodup_sub (l := x :: partsT [] (musts r.2)) (List.nodup_cons.2 ⟨fun h => hn ((hB x).1 h), nB⟩) (fun y hy => (List.mem_cons.1 hy).elim (fun e => by rw [e]; exact (hA x).2 ⟨a, ha, hx⟩) (hsub y))
    rw [List.length_cons] at h1
    exact decide_eq_false (by omega)

/-- Is each variable of the rule in something that must be? -/
def ruleTight (r : Rl) : Bool := tightB r.1.2 r.2

/-- What is wrong with rules, the first first. -/
def progB (rs : List Rl) : Nat :=
  if rs.all ruleB = false then 1 else if 8 < rs.length then 2 else if alikeB (atsOf rs) = false then 3 else if rs.all ruleTight = false then 4 else if cycB rs = true then 5 else 0

theorem all_no {α : Type} {f : α → Bool} {l : List α} {x : α} (h : x ∈ l) (hf : f x = false) : l.all f = false := by
  rw [List.all_eq_false]; exact ⟨x, h, by rw [hf]; decide⟩

theorem all_end {α : Type} {f : α → Bool} {l : List α} {n : Nat} (hn : l.length = n) (h : ∀ q ∈ l.take n, f q = true) : l.all f = true := by
  rw [List.take_of_length_le (by omega)] at h
  rw [List.all_eq_true]; exact h

theorem ruleB_parts {r : Rl} (h : ruleB r = true) : bodyB r.2 = true ∧ atomB r.1 = true ∧ r.2.length ≤ 4 := by
  unfold ruleB at h
  simp only [Bool.and_eq_true, decide_eq_true_eq] at h
  exact ⟨h.1, h.2.1, h.2.2⟩

theorem atomB_three {a : At} (h : atomB a = true) : a.2.length ≤ 3 := by
  unfold atomB at h
  simp only [Bool.and_eq_true, decide_eq_true_eq] at h
  exact h.2.2

theorem rule_three {qs : List Pt} (h : bodyB qs = true) : ∀ q ∈ qs, q.2.2.length ≤ 3 := by
  intro q hq
  unfold bodyB at h
  exact atomB_three (List.all_eq_true.1 h q hq)

end Go.Proofs.YtnhbnhibphjljaaGreatDoor

namespace Go.Proofs.YtnhbnhibphjljaaGreatDoor
open Go.RowKit

set_option maxRecDepth 100000 in
set_option maxHeartbeats 2000000 in
theorem l2Cycle_any (A : Option Addr) (n c : Nat) (rs : List Rl) (w : World) (h : IsRules w 0 w.heap.size A n c rs) (hn : n ≤ 8) (h4 : ∀ r ∈ rs, r.2.length ≤ 4) :
    Calls Tryz.prog 59 #[.slice A n c] w (BoolPost (cycB rs) w) := by
  have HL := Lib.hid h.1
  have H := Lib.hid h; have H4 := Lib.hid h4; clear h h4
  go_enter Tryz.func59, Tryz.ntmps59
  go_wp2_with fail
  refine (l2Levels_any A n c rs _ H.out hn H4.out).mono ?_; rintro e w1 ⟨rfl, hI, hb1⟩
  have hcap := Capped.levels rs
  rw [HL.out] at hcap
  obtain ⟨T, hT⟩ : ∃ T, levelsL rs = T := ⟨_, rfl⟩
  rw [hT] at hI hcap
  have HT := Lib.hid hT; have HI := Lib.hid hI; have HC := Lib.hid hcap
  clear hT hI hcap
  go_wp2
  go_loop [4] (fun x => ∃ i : Nat, i ≤ n ∧ x = .int .i64 (i : Int) ∧ ∀ q ∈ T.take i, ¬ n ≤ q) (fun x => n - (intOf x).toNat)
  case atStart => exact ⟨0, Nat.zero_le _, rfl, fun q hq => by simp at hq⟩
  case round =>
    obtain ⟨i, hin, rfl, hS⟩ := hrel
    have HS := Lib.hid hS; clear hS
    by_cases hlt : i < n
    · have x1 := HI.out.cell hlt
      have hle := HC.out.le i
      obtain ⟨a, ha⟩ : ∃ a, at0 T i = a := ⟨_, rfl⟩
      rw [ha] at x1 hle
      have hTi : T[i]? = some a := by
        have hl : i < T.length := by rw [HI.out.1]; exact hlt
        rw [List.getElem?_eq_getElem hl]
        unfold at0 at ha; rw [List.getElem?_eq_getElem hl] at ha
        exact congrArg some ha
      have HTi := Lib.hid hTi; clear hTi ha
      by_cases hge : n ≤ a
      · have E := Lib.hid (show cycB rs = true by unfold cycB; rw [HT.out, HL.out, List.any_eq_true]; exact ⟨a, List.mem_of_getElem? HTi.out, decide_eq_true hge⟩)
        have hgeI : (n : Int) ≤ (a : Int) := by omega
        go_wp2
        go_ret; exact ⟨retB E.out.symm, hb1⟩
      · have hgeI : ¬ (n : Int) ≤ (a : Int) := by omega
        go_wp2
        go_round
        case rel => exact ⟨i + 1, by omega, by go_num, all_snoc HTi.out HS.out hge⟩
        case measure => simp [intOf]; omega
    · have hie : i = n := by omega
      have E := Lib.hid (show cycB rs = false by
        unfold cycB; rw [HT.out, HL.out, List.any_eq_false]
        intro q hq
        have := HS.out q (by rw [List.take_of_length_le (by rw [HI.out.1]; omega)]; exact hq)
        simpa using this)
      go_wp2
      go_ret; exact ⟨retB E.out.symm, hb1⟩

/-- A code was told. -/
def CodePost (k : Nat) (w : World) (e : Ending) (w' : World) : Prop := e = .returned (.int .i64 (k : Int)) ∧ Below w.heap.size w w'

theorem prog1 {rs : List Rl} (h : rs.all ruleB = false) : progB rs = 1 := if_pos h
theorem prog2 {rs : List Rl} (h : rs.all ruleB = true) (h2 : 8 < rs.length) : progB rs = 2 := by unfold progB; rw [if_neg (by rw [h]; decide), if_pos h2]
theorem prog3 {rs : List Rl} (h : rs.all ruleB = true) (h2 : ¬ 8 < rs.length) (h3 : alikeB (atsOf rs) = false) : progB rs = 3 := by unfold progB; rw [if_neg (by rw [h]; decide), if_neg h2, if_pos h3]
theorem prog4 {rs : List Rl} (h : rs.all ruleB = true) (h2 : ¬ 8 < rs.length) (h3 : alikeB (atsOf rs) = true) (h4 : rs.all ruleTight = false) : progB rs = 4 := by unfold progB; rw [if_neg (by rw [h]; decide), if_neg h2, if_neg (by rw [h3]; decide), if_pos h4]
theorem prog5 {rs : List Rl} (h : rs.all ruleB = true) (h2 : ¬ 8 < rs.length) (h3 : alikeB (atsOf rs) = true) (h4 : rs.all ruleTight = true) : progB rs = if cycB rs = true then 5 else 0 := by unfold progB; rw [if_neg (by rw [h]; decide), if_neg h2, if_neg (by rw [h3]; decide), if_neg (by rw [h4]; decide)]

theorem code_is {k j : Nat} (h : j = k) : Ending.returned (.int .i64 (k : Int)) = .returned (.int .i64 ((j : Nat) : Int)) := by rw [h]

theorem rule_four {rs : List Rl} (h : rs.all ruleB = true) : ∀ r ∈ rs, r.2.length ≤ 4 := fun r hr => (ruleB_parts (List.all_eq_true.1 h r hr)).2.2

set_option maxRecDepth 100000 in
set_option maxHeartbeats 4000000 in
theorem specProgCheck_any (A : Option Addr) (n c : Nat) (rs : List Rl) (w : World) (h : IsRules w 0 w.heap.size A n c rs) :
    Calls Tryz.prog 15 #[.slice A n c] w (CodePost (progB rs) w) := by
  have hm := h.len
  unfold maxLen at hm
  have HL := Lib.hid h.1
  have H := Lib.hid h; clear h
  go_enter Tryz.func15, Tryz.ntmps15
  go_wp2
  go_loopw [3] (fun x wr => ∃ i : Nat, i ≤ n ∧ x = .int .i64 (i : Int) ∧ (∀ q ∈ rs.take i, ruleB q = true) ∧ Below w.heap.size w wr) (fun x _ => n - (intOf x).toNat)
  case atStart => exact ⟨0, Nat.zero_le _, rfl, fun q hq => by simp at hq, Below.refl _ _⟩
  case round =>
    obtain ⟨i, hin, rfl, hS, hb⟩ := hrel
    have HS := Lib.hid hS; clear hS
    by_cases hlt : i < n
    · obtain ⟨p, r, A', n', c', B, m, d, hA, hpb, hg, d1, d2, d3, d4, d5, d6⟩ := rule_at (H.out.below RuleE.stays hb (Nat.le_refl _)) hlt
      subst hA
      have HG := Lib.hid hg
      have HR : Hid (IsRule wr wr.heap.size A' n' c' B m d r.1.2 r.2) := Lib.hid ⟨d4.keep (fun _ _ _ => rfl) (Nat.le_refl _) hb.size, d6.keep PartE.stays (fun _ _ _ => rfl) (Nat.le_refl _) hb.size⟩
      clear hg d4 d6
      go_wp2_with fail
      refine (l1Rule_any r.1.1 A' n' c' B m d r.1.2 r.2 _ d2 HR.out).mono ?_; rintro e w1 ⟨rfl, hb1⟩
      cases hr : ruleB r
      · have E := Lib.hid (prog1 (all_no (List.mem_of_getElem? HG.out) hr))
        have hr' : ruleB ((r.1.1, r.1.2), r.2) = false := hr
        try rw [hr']
        clear hr hr' d1 d3 d5
        go_wp2
        go_ret; exact ⟨code_is E.out, belowThen hb hb1⟩
      · have hr' : ruleB ((r.1.1, r.1.2), r.2) = true := hr
        have HS2 := Lib.hid (all_snoc HG.out HS.out hr)
        try rw [hr']
        clear hr hr' d1 d3 d5
        go_wp2
        go_roundw
        case rel => exact ⟨i + 1, by omega, by go_num, HS2.out, belowThen hb hb1⟩
        case measure => simp [intOf]; omega
    · have hie : i = n := by omega
      subst hie
      have HALL := Lib.hid (all_end (f := ruleB) HL.out HS.out)
      by_cases h8 : 8 < i
      · have E := Lib.hid (prog2 HALL.out (by rw [HL.out]; exact h8))
        have h8I : (8 : Int) < (i : Int) := by omega
        go_wp2
        go_ret; exact ⟨code_is E.out, hb⟩
      · have h8I : ¬ (8 : Int) < (i : Int) := by omega
        have H8 := Lib.hid (show ¬ 8 < rs.length by rw [HL.out]; exact h8)
        have H4 := Lib.hid (rule_four HALL.out)
        go_wp2_with fail
        refine (l2Args_any A i c rs _ (H.out.up RuleE.stays hb) (by omega) H4.out).mono ?_; rintro e w1 ⟨rfl, hb1⟩
        cases h3 : alikeB (atsOf rs)
        · have E := Lib.hid (prog3 HALL.out H8.out h3)
          clear h3
          go_wp2
          go_ret; exact ⟨code_is E.out, belowThen hb hb1⟩
        · have HB1 := belowThen hb hb1
          have H3 := Lib.hid h3
          clear h3
          go_wp2
          go_loopw [4] (fun x wr => ∃ k : Nat, k ≤ i ∧ x = .int .i64 (k : Int) ∧ (∀ q ∈ rs.take k, ruleTight q = true) ∧ Below w.heap.size w wr) (fun x _ => i - (intOf x).toNat)
          case atStart => exact ⟨0, Nat.zero_le _, rfl, fun q hq => by simp at hq, HB1⟩
          case round =>
            obtain ⟨k, hkn, rfl, hS, hb⟩ := hrel
            have HQ := Lib.hid hS; clear hS
            by_cases hlk : k < i
            · obtain ⟨p, r, A', n', c', B, m, d, hA, hpb, hg, d1, d2, d3, d4, d5, d6⟩ := rule_at (H.out.below RuleE.stays hb (Nat.le_refl _)) hlk
              subst hA
              have hok := ruleB_parts (List.all_eq_true.1 HALL.out r (List.mem_of_getElem? hg))
              have HG := Lib.hid hg; have HO := Lib.hid hok
              have hn3 : n' ≤ 3 := by rw [← d4.1]; exact atomB_three hok.2.1
              have hm4 : m ≤ 4 := by rw [← d6.1]; exact hok.2.2
              have HT := Lib.hid (d4.keep (lo' := 0) (hi' := wr.heap.size) (fun _ _ _ => rfl) (Nat.le_refl _) hb.size)
              have HP := Lib.hid (d6.keep (lo' := 0) (hi' := wr.heap.size) PartE.stays (fun _ _ _ => rfl) (Nat.le_refl _) hb.size)
              clear hg d4 d6 hok
              go_wp2_with fail
              refine (l2Tight_any r.1.1 A' n' c' r.1.2 B m d r.2 _ HT.out HP.out (rule_three HO.out.1) (by omega) (by omega)).mono ?_; rintro e w2 ⟨rfl, hb2⟩
              cases hr : ruleTight r
              · have E := Lib.hid (prog4 HALL.out H8.out H3.out (all_no (List.mem_of_getElem? HG.out) hr))
                have hr' : tightB r.1.2 r.2 = false := hr
                try rw [hr']
                clear hr hr' d1 d3 d5
                go_wp2
                go_ret; exact ⟨code_is E.out, belowThen hb hb2⟩
              · have hr' : tightB r.1.2 r.2 = true := hr
                have HS2 := Lib.hid (all_snoc HG.out HQ.out hr)
                try rw [hr']
                clear hr hr' d1 d3 d5
                go_wp2
                go_roundw
                case rel => exact ⟨k + 1, by omega, by go_num, HS2.out, belowThen hb hb2⟩
                case measure => simp [intOf]; omega
            · have hke : k = i := by omega
              subst hke
              have HT := Lib.hid (all_end (f := ruleTight) HL.out HQ.out)
              have HE := Lib.hid (prog5 HALL.out H8.out H3.out HT.out)
              go_wp2_with fail
              refine (l2Cycle_any A k c rs _ (H.out.up RuleE.stays hb) (by omega) H4.out).mono ?_; rintro e w2 ⟨rfl, hb2⟩
              cases hc : cycB rs
              · have E := Lib.hid (show progB rs = 0 by rw [HE.out, hc]; rfl)
                clear hc
                go_wp2
                go_ret; exact ⟨code_is E.out, belowThen hb hb2⟩
              · have E := Lib.hid (show progB rs = 5 by rw [HE.out, hc]; rfl)
                clear hc
                go_wp2
                go_ret; exact ⟨code_is E.out, belowThen hb hb2⟩

end Go.Proofs.YtnhbnhibphjljaaGreatDoor

namespace Go.Proofs.YtnhbnhibphjljaaGreatDoor
open Go.RowKit

theorem atomB_name {a : At} (h : atomB a = true) : a.1.size ≤ maxLen := by
  unfold atomB nameB at h
  simp only [Bool.and_eq_true, decide_eq_true_eq] at h
  have h1 := h.2.1.1
  unfold letters at h1
  simp only [Bool.and_eq_true, decide_eq_true_eq] at h1
  have h2 : a.1.size = a.1.data.toList.length := (Array.length_toList (xs := a.1.data)).symm
  have h3 := h1.2.2
  rw [h2]; unfold maxLen; clear h h1; omega

theorem atsOf_ok {rs : List Rl} (h : rs.all ruleB = true) : ∀ a ∈ atsOf rs, a.2.length ≤ 3 ∧ a.1.size ≤ maxLen := by
  intro a ha
  have hB : atomB a = true := by
    unfold atsOf at ha
    obtain ⟨r, hr, ha⟩ := List.mem_flatMap.1 ha
    have hp := ruleB_parts (List.all_eq_true.1 h r hr)
    rcases List.mem_cons.1 ha with rfl | ha
    · exact hp.2.1
    · obtain ⟨q, hq, rfl⟩ := List.mem_map.1 ha
      have := hp.1
      unfold bodyB at this
      exact List.all_eq_true.1 this q hq
  exact ⟨atomB_three hB, atomB_name hB⟩

/-- Is there a rule that is loose? -/
def IdxPost (rs : List Rl) (w : World) (e : Ending) (w' : World) : Prop :=
  ∃ k : Int, e = .returned (.int .i64 k) ∧ decide (0 ≤ k) = !rs.all ruleTight ∧ Below w.heap.size w w'

set_option maxRecDepth 100000 in
set_option maxHeartbeats 4000000 in
theorem indexLoose_any (A : Option Addr) (n c : Nat) (rs : List Rl) (w : World) (h : IsRules w 0 w.heap.size A n c rs) (hn : n ≤ 8) (hok : rs.all ruleB = true) :
    Calls Tryz.prog 111 #[.slice A n c, .func (.func 64) #[] #[]] w (IdxPost rs w) := by
  have HL := Lib.hid h.1
  have H := Lib.hid h; clear h
  have HALL := Lib.hid hok; clear hok
  go_enter Tryz.func111, Tryz.ntmps111
  go_wp2
  go_loopw [5, 8] (fun _ x wr => ∃ k : Nat, k ≤ n ∧ x = .int .i64 (k : Int) ∧ (∀ q ∈ rs.take k, ruleTight q = true) ∧ Below w.heap.size w wr) (fun _ x _ => n - (intOf x).toNat)
  case atStart => exact ⟨0, Nat.zero_le _, rfl, fun q hq => by simp at hq, Below.refl _ _⟩
  case round =>
    obtain ⟨k, hkn, rfl, hS, hb⟩ := hrel
    have HQ := Lib.hid hS; clear hS
    by_cases hlk : k < n
    · obtain ⟨p, r, A', n', c', B, m, d, hA, hpb, hg, d1, d2, d3, d4, d5, d6⟩ := rule_at (H.out.below RuleE.stays hb (Nat.le_refl _)) hlk
      subst hA
      have hok := ruleB_parts (List.all_eq_true.1 HALL.out r (List.mem_of_getElem? hg))
      have HG := Lib.hid hg; have HO := Lib.hid hok
      have hm4 : m ≤ 4 := by rw [← d6.1]; exact hok.2.2
      have HT := Lib.hid (d4.keep (lo' := 0) (hi' := wr.heap.size) (fun _ _ _ => rfl) (Nat.le_refl _) hb.size)
      have HP := Lib.hid (d6.keep (lo' := 0) (hi' := wr.heap.size) PartE.stays (fun _ _ _ => rfl) (Nat.le_refl _) hb.size)
      have HN := Lib.hid d2
      clear hg d2 d4 d6 hok
      go_wp2_with fail
      refine (isLoose_any r.1.1 A' n' c' r.1.2 B m d r.2 _ HN.out HT.out HP.out (rule_three HO.out.1) (by omega)).mono ?_; rintro e w2 ⟨rfl, hb2⟩
      cases hr : ruleTight r
      · have E := Lib.hid (all_no (List.mem_of_getElem? HG.out) hr)
        have hr' : looseB [((r.1.1, r.1.2), r.2)] (mvars r.2) = true := by
          have := tight_rule r
          unfold ruleTight at hr
          rw [hr] at this
          simpa using this.symm
        rw [hr']
        clear hr hr' d1 d3 d5
        go_wp2
        go_ret; exact ⟨(k : Int), rfl, by rw [E.out]; simp, belowThen hb hb2⟩
      · have hr' : looseB [((r.1.1, r.1.2), r.2)] (mvars r.2) = false := by
          have := tight_rule r
          unfold ruleTight at hr
          rw [hr] at this
          simpa using this.symm
        have HS2 := Lib.hid (all_snoc HG.out HQ.out hr)
        rw [hr']
        clear hr hr' d1 d3 d5
        go_wp2
        go_roundw
        case rel => exact ⟨k + 1, by omega, by go_num, HS2.out, belowThen hb hb2⟩
        case measure => simp [intOf]; omega
    · have hke : k = n := by omega
      subst hke
      have HT := Lib.hid (all_end (f := ruleTight) HL.out HQ.out)
      go_wp2
      go_ret; exact ⟨-1, rfl, by rw [HT.out]; simp, hb⟩

set_option maxRecDepth 100000 in
set_option maxHeartbeats 4000000 in
theorem containsLoose_any (A : Option Addr) (n c : Nat) (rs : List Rl) (w : World) (h : IsRules w 0 w.heap.size A n c rs) (hn : n ≤ 8) (hok : rs.all ruleB = true) :
    Calls Tryz.prog 63 #[.slice A n c, .func (.func 64) #[] #[]] w (BoolPost (!rs.all ruleTight) w) := by
  have H := Lib.hid h; clear h
  have HALL := Lib.hid hok; clear hok
  go_enter Tryz.func63, Tryz.ntmps63
  go_wp2_with fail
  refine (indexLoose_any A n c rs _ H.out (by omega) HALL.out).mono ?_; rintro e w1 ⟨k, rfl, hk, hb1⟩
  have HK := Lib.hid hk; clear hk
  go_wp2
  go_ret; exact ⟨retB (by rw [← HK.out]), hb1⟩

end Go.Proofs.YtnhbnhibphjljaaGreatDoor

namespace Go.Proofs.YtnhbnhibphjljaaGreatDoor
open Go.RowKit

/-- The kind of errors lies where the program keeps it. -/
def ErrKind (w : World) : Prop := w.cell? ⟨0, 0, none⟩ = some (.iface 199 (.agg #[.pointer (some ⟨hB, 92, none⟩)]))

theorem ErrKind.pos {w : World} (h : ErrKind w) : 0 < w.heap.size := by
  rcases Nat.eq_zero_or_pos w.heap.size with h0 | h1
  · unfold ErrKind at h; simp [World.cell?, h0] at h
  · exact h1

theorem ErrKind.later {w w' : World} (h : ErrKind w) (hb : Below w.heap.size w w') : ErrKind w' :=
  (hb.cell (p := ⟨0, 0, none⟩) h.pos).trans h

set_option maxRecDepth 100000 in
set_option maxHeartbeats 4000000 in
theorem implProgCheck_any (A : Option Addr) (n c : Nat) (rs : List Rl) (w : World) (h : IsRules w 0 w.heap.size A n c rs) (hk : ErrKind w) :
    Calls Tryz.prog 17 #[.slice A n c] w (CodePost (progB rs) w) := by
  have hm := h.len
  unfold maxLen at hm
  have HL := Lib.hid h.1
  have H := Lib.hid h; clear h
  have HK := Lib.hid hk; clear hk
  go_enter Tryz.func17, Tryz.ntmps17
  go_wp2
  go_loopw [4, 12] (fun _ x wr => ∃ i : Nat, i ≤ n ∧ x = .int .i64 (i : Int) ∧ (∀ q ∈ rs.take i, ruleB q = true) ∧ Below w.heap.size w wr) (fun _ x _ => n - (intOf x).toNat)
  case atStart => exact ⟨0, Nat.zero_le _, rfl, fun q hq => by simp at hq, Below.refl _ _⟩
  case round =>
    obtain ⟨i, hin, rfl, hS, hb⟩ := hrel
    have HS := Lib.hid hS; clear hS
    by_cases hlt : i < n
    · obtain ⟨p, r, A', n', c', B, m, d, hA, hpb, hg, d1, d2, d3, d4, d5, d6⟩ := rule_at (H.out.below RuleE.stays hb (Nat.le_refl _)) hlt
      subst hA
      have HG := Lib.hid hg
      have hb0 := below1 wr (.cells #[.string r.1.1, .slice A' n' c', .slice B m d] 72)
      have HN := Lib.hid d2
      have HR : Hid (IsRule wr wr.heap.size A' n' c' B m d r.1.2 r.2) := Lib.hid ⟨d4.keep (fun _ _ _ => rfl) (Nat.le_refl _) hb.size, d6.keep PartE.stays (fun _ _ _ => rfl) (Nat.le_refl _) hb.size⟩
      clear hg d2 d4 d6
      go_wp2_with fail
      refine (ruleOk_any r.1.1 A' n' c' B m d r.1.2 r.2 _ HN.out (HR.out.up hb0)).mono ?_; rintro e w1 ⟨rfl, hb1⟩
      have hb2 := belowThen (belowThen hb hb0) hb1
      cases hr : ruleB r
      · have E := Lib.hid (prog1 (all_no (List.mem_of_getElem? HG.out) hr))
        have hr' : ruleB ((r.1.1, r.1.2), r.2) = false := hr
        try rw [hr']
        clear hr hr' d1 d3 d5
        go_wp2
        go_ret; exact ⟨code_is E.out, hb2⟩
      · have hr' : ruleB ((r.1.1, r.1.2), r.2) = true := hr
        have HS2 := Lib.hid (all_snoc HG.out HS.out hr)
        try rw [hr']
        clear hr hr' d1 d3 d5
        go_wp2
        go_roundw
        case rel => exact ⟨i + 1, by omega, by go_num, HS2.out, hb2⟩
        case measure => simp [intOf]; omega
    · have hie : i = n := by omega
      subst hie
      have HALL := Lib.hid (all_end (f := ruleB) HL.out HS.out)
      by_cases h8 : 8 < i
      · have E := Lib.hid (prog2 HALL.out (by rw [HL.out]; exact h8))
        have h8I : (8 : Int) < (i : Int) := by omega
        go_wp2
        go_ret; exact ⟨code_is E.out, hb⟩
      · have h8I : ¬ (8 : Int) < (i : Int) := by omega
        have H8 := Lib.hid (show ¬ 8 < rs.length by rw [HL.out]; exact h8)
        have H4 := Lib.hid (rule_four HALL.out)
        have HA := Lib.hid (atsOf_ok HALL.out)
        go_wp2_with fail
        refine (argCounts_any A i c rs _ (H.out.up RuleE.stays hb) (by omega) H4.out HA.out).mono ?_; rintro e w1 ⟨v, rfl, _, hb1⟩
        cases h3 : alikeB (atsOf rs)
        · have E := Lib.hid (prog3 HALL.out H8.out h3)
          clear h3
          go_wp2
          go_ret; exact ⟨code_is E.out, belowThen hb hb1⟩
        · have HB1 := belowThen hb hb1
          have H3 := Lib.hid h3
          clear h3
          go_wp2_with fail
          refine (containsLoose_any A i c rs _ (H.out.up RuleE.stays HB1) (by omega) HALL.out).mono ?_; rintro e w2 ⟨rfl, hb2⟩
          have HB2 := belowThen HB1 hb2
          cases h4 : rs.all ruleTight
          · have E := Lib.hid (prog4 HALL.out H8.out H3.out h4)
            clear h4
            go_wp2
            go_ret; exact ⟨code_is E.out, HB2⟩
          · have HE := Lib.hid (prog5 HALL.out H8.out H3.out h4)
            clear h4
            go_wp2_with fail
            refine (strataOf_any A i c rs _ (H.out.up RuleE.stays HB2) (by omega) H4.out (fun a ha => (HA.out a ha).2)).mono ?_
            rintro e w3 (⟨hc, nm, rfl, hb3⟩ | ⟨hc, v3, rfl, _, hb3⟩)
            · have HB3 := belowThen HB2 hb3
              have E := Lib.hid (show progB rs = 5 by rw [HE.out, hc]; rfl)
              have HK3 := Lib.hid (HK.out.later HB3)
              clear hc hb3 hb2 hb1 hb HB1 HB2
              go_wp2_with fail
              refine (as_hit nm ⟨w3.heap.size, 0, none⟩ (.string ⟨#[]⟩) _ (HK3.out.later (below1 w3 _)) (by simp) (by simp)).mono ?_; rintro e w4 ⟨rfl, rfl⟩
              have hall : ∀ o0 o1 o2 o3 o4, Below w3.heap.size w3 (((((w3.alloc o0).alloc o1).alloc o2).alloc o3).alloc o4) := fun o0 o1 o2 o3 o4 =>
                (((((Below.refl _ _).alloc (Nat.le_refl _) _).alloc (by simp) _).alloc (by simp; omega) _).alloc (by simp; omega) _).alloc (by simp; omega) _
              go_wp2
              go_ret; exact ⟨code_is E.out, belowThen HB3 (hall _ _ _ _ _)⟩
            · have HB3 := belowThen HB2 hb3
              have E := Lib.hid (show progB rs = 0 by rw [HE.out, hc]; rfl)
              clear hc hb3 hb2 hb1 hb HB1 HB2
              go_wp2_with fail
              refine (as_nil _ _).mono ?_; rintro e w4 ⟨rfl, rfl⟩
              go_wp2
              go_ret; exact ⟨code_is E.out, belowThen HB3 (below1 _ _)⟩

end Go.Proofs.YtnhbnhibphjljaaGreatDoor

namespace Go.Proofs.YtnhbnhibphjljaaGreatDoor
open Go.ChangeShapes Go.WideShapes Go.ChangeAt Go.RowKit

/-- What the rows list. -/
abbrev laidE : List (String × DataW Unit) := [("errors.errorType", Rows.laid_errors_errorType)]

theorem Tryz.gErr : Tryz.prog.globalNamed "errors.errorType" = some 0 := by kernel_rfl
theorem Tryz.tRtype : (Tryz.prog.cutTypes.find? (·.1 == "internal/reflectlite.rtype")).map (·.2) = some 199 := by kernel_rfl
theorem Tryz.oneErr : ((List.range Tryz.prog.types.size).filter fun t => Tryz.prog.rowNamed t [101, 114, 114, 111, 114]) = [92] := by kernel_rfl

theorem errKind_of_laid {W : World} (h : laidMetH Tryz.prog laidE W) : ErrKind W := by
  have h' : laidMet Tryz.prog [] W ∧ handlesMet Tryz.prog laidE W := h
  obtain ⟨name, u, ty, e1, e2, e3, e4, e5⟩ := h'.2 _ (List.mem_singleton.2 rfl)
  have en : name = [101, 114, 114, 111, 114] := (Option.some.inj e1).symm
  subst en
  obtain rfl := Option.some.inj (Tryz.tRtype.symm.trans e2)
  have hm : ty ∈ (List.range Tryz.prog.types.size).filter fun t => Tryz.prog.rowNamed t [101, 114, 114, 111, 114] := List.mem_filter.2 ⟨List.mem_range.2 e3, e4⟩
  rw [Tryz.oneErr] at hm
  obtain rfl := List.mem_singleton.1 hm
  have hh : typeHandle Tryz.prog 92 = .pointer (some ⟨hB, 92, none⟩) := by kernel_rfl
  rw [hh] at e5
  unfold ErrKind
  simpa using World.var?_cell Tryz.gErr e5 0

theorem err_met (os : Os) (args : Array Value) : laidMetH Tryz.prog laidE ((World.doorLaid Tryz.prog 400 os).forCall (fun _ _ => 0) ⟨#[], args, []⟩).memory :=
  laidMetH_of_parts3 (fuel := 8) (laidMet_of_run' 8 (by kernel_rfl) (by kernel_rfl)) (by kernel_rfl) (by kernel_rfl)

end Go.Proofs.YtnhbnhibphjljaaGreatDoor

namespace Go.Proofs.YtnhbnhibphjljaaGreatDoor
open Go.RowKit

theorem names_step {xs : List At} {k : Nat} {a : At} (h : xs[k]? = some a) : namesL (xs.take (k + 1)) = putT (namesL (xs.take k)) a.1 := by
  unfold namesL; rw [List.take_add_one, h, List.map_append, List.foldl_append]; rfl

set_option maxRecDepth 100000 in
set_option maxHeartbeats 4000000 in
theorem l2Names_any (A : Option Addr) (n c : Nat) (rs : List Rl) (w : World) (h : IsRules w 0 w.heap.size A n c rs) (hn : n ≤ 8) (h4 : ∀ r ∈ rs, r.2.length ≤ 4) :
    Calls Tryz.prog 68 #[.slice A n c] w (TextsPost w.heap.size (namesL (atsOf rs)) w) := by
  have H := Lib.hid h; have H4 := Lib.hid h4
  have hlen := Nat.le_trans (atsOf_len rs h4) (Nat.mul_le_mul_left 5 (show rs.length ≤ 8 by rw [h.1]; exact hn))
  obtain ⟨xs, hxs⟩ : ∃ xs, atsOf rs = xs := ⟨_, rfl⟩
  obtain ⟨z, hz⟩ : ∃ z, xs.length = z := ⟨_, rfl⟩
  rw [hxs, hz] at hlen
  have HXS := Lib.hid hxs; have HM := Lib.hid hz
  clear h h4 hxs hz
  rw [HXS.out]
  have h0 := below1 w (.cells #[] 9)
  go_enter Tryz.func68, Tryz.ntmps68
  go_wp2_with fail
  refine (l2Atoms_any A n c rs _ (H.out.up RuleE.stays h0) hn H4.out).mono ?_; rintro e w1 ⟨A', c', rfl, hI, hb1⟩
  have hsz := h0.size
  have HB1 := belowThen h0 hb1
  have hs1 := HB1.size
  rw [HXS.out, HM.out] at hI ⊢
  have HI := Lib.hid hI; clear hI hb1 h0
  go_wp2
  go_loopw [3, 5] (fun v x wr => ∃ (k : Nat) (p' : Addr) (d' : Nat), k ≤ z ∧ x = .int .i64 (k : Int) ∧ v = .slice (some p') (namesL (xs.take k)).length d' ∧ IsTexts wr w.heap.size wr.heap.size (some p') (namesL (xs.take k)).length d' (namesL (xs.take k)) ∧ Below w1.heap.size w1 wr) (fun _ x _ => z - (intOf x).toNat)
  case atStart => exact ⟨0, ⟨w.heap.size, 0, none⟩, 0, Nat.zero_le _, rfl, rfl, ⟨rfl, Nat.le_refl _, Nat.zero_le _, fun h0 => absurd h0 (by simp [namesL])⟩, Below.refl _ _⟩
  case round =>
    obtain ⟨k, p', d', hkz, rfl, rfl, hT, hb⟩ := hrel
    have HT := Lib.hid hT; clear hT
    by_cases hlk : k < z
    · have hlkI : (k : Int) < (z : Int) := by omega
      obtain ⟨p, a, hA, _, _, hga, hEa⟩ := (HI.out.below AtomE.stays hb (Nat.le_refl _)).at_ hlk
      obtain ⟨A1, n1, c1, a1, a2, a3, a4⟩ := hEa.out
      clear hEa
      subst hA
      have HG := Lib.hid hga; clear hga a4
      have hnl := namesL_len (xs.take k)
      rw [List.length_take, HM.out] at hnl
      have hmin := Nat.min_le_left k z
      go_wp2_with fail
      refine (l2Put_any p' _ d' (namesL (xs.take k)) a.1 wr w.heap.size (by have := hb.size; omega) HT.out (by omega)).mono ?_; rintro e w2 ⟨p2, d2, rfl, hT2, hb2⟩
      have HT2 := Lib.hid hT2; have hb3 := belowThen hb hb2; clear hT2 hb2
      go_wp2
      go_roundw
      case rel => exact ⟨k + 1, p2, d2, by omega, by go_num, by rw [names_step HG.out], by rw [names_step HG.out]; exact HT2.out, hb3⟩
      case measure => simp [intOf]; omega
    · have hkz' : k = z := by omega
      have e : namesL (xs.take k) = namesL xs := by rw [List.take_of_length_le (by rw [HM.out]; omega)]
      have E := Lib.hid e; clear e
      go_wp2
      go_ret; exact ⟨p', d', by rw [E.out]; rfl, by rw [← E.out]; exact HT.out, belowThen HB1 hb⟩

theorem prog_fine {rs : List Rl} (h : progB rs = 0) : rs.all ruleB = true ∧ rs.length ≤ 8 := by
  cases h1 : rs.all ruleB with
  | false => rw [prog1 h1] at h; exact absurd h (by decide)
  | true =>
    by_cases h2 : 8 < rs.length
    · rw [prog2 h1 h2] at h; exact absurd h (by decide)
    · exact ⟨rfl, by omega⟩

theorem field_names (v : Value) (b : Nat) (W : World) : (Instr.field 101 (.agg #[v, .map (some b)]) 0).run Tryz.prog W = .ok v W := by kernel_rfl

end Go.Proofs.YtnhbnhibphjljaaGreatDoor

