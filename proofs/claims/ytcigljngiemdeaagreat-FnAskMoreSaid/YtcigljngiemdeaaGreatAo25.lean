/-
  Texts of one claim, put together.
-/
import Derived.Test.YtcigljngiemdeaaGreatAo0
import Derived.Test.YtcigljngiemdeaaGreatAo2
import Derived.Maps.Own
import Derived.DeepKeys4
import Derived.Test.YtcigljngiemdeaaGreatAo24
import Derived.Deep.AppendLies
set_option maxRecDepth 100000
set_option maxHeartbeats 8000000
namespace Go.Proofs.YtcigljngiemdeaaGreat
open Go.RowKit Go.Maps Go.MapKept Go.ChangeMaps
structure MapIn (P : Program) (k : TypeId) (w : World) (b : Nat) (kvs : List (Value × Value)) : Prop where
  lies : ∃ es clock, w.heap[b]? = some (.map es clock) ∧ Stamped es clock ∧ es.toList.map (fun e => (e.key, e.val)) = kvs
  keys : ∀ q ∈ kvs, ∃ l, keyOf P k q.1 = some l
section
variable {P : Program} {k t e : TypeId} {w w' : World} {b i : Nat} {kvs : List (Value × Value)} {key val v z : Value} {kl : Lit}
theorem MapIn.lt (h : MapIn P k w b kvs) : b < w.heap.size := by
  obtain ⟨es, clock, hb, _⟩ := h.lies; exact (Array.getElem?_eq_some_iff.1 hb).1
theorem MapIn.keep (h : MapIn P k w b kvs) (hk : w'.heap[b]? = w.heap[b]?) : MapIn P k w' b kvs := by
  obtain ⟨es, clock, hb, h2, h3⟩ := h.lies; exact ⟨⟨es, clock, hk.trans hb, h2, h3⟩, h.keys⟩
theorem MapIn.noCells (h : MapIn P k w b kvs) : ∃ o : Obj, w.heap[b]? = some o ∧ o.isCells = false := by
  obtain ⟨es, clock, hb, _⟩ := h.lies; exact ⟨_, hb, rfl⟩
theorem MapIn.made (P : Program) (k : TypeId) (w : World) : MapIn P k (w.alloc (.map #[] 0)) w.heap.size [] :=
  ⟨⟨#[], 0, World.alloc_heap_new w _, stamped_empty 0, rfl⟩, fun q hq => by simp at hq⟩
theorem MapIn.once (h : MapIn P k w b kvs) : (kvs.map (·.1)).Nodup := by
  obtain ⟨es, clock, _, h2, h3⟩ := h.lies; rw [← h3, List.map_map]; exact h2.2.2
theorem MapIn.find (h : MapIn P k w b kvs) :
    ∃ es clock, w.heap[b]? = some (.map es clock) ∧ Stamped es clock ∧ es.toList.map (fun e => (e.key, e.val)) = kvs ∧ (∀ e ∈ es.toList, ∃ l, keyOf P k e.key = some l) := by
  obtain ⟨es, clock, hb, h2, h3⟩ := h.lies; refine ⟨es, clock, hb, h2, h3, fun x hx => ?_⟩; obtain ⟨l, hl⟩ := h.keys (x.key, x.val) qdi; exact ⟨l, hl⟩
theorem MapIn.hit (c : Bool) (h : MapIn P k w b kvs) (K : Keyed P k) (ht : P.underlying t = some (.map k e)) (hkey : keyOf P k key = some kl) (hi : (key, v) ∈ kvs) :
    (Instr.lookup t (.map (some b)) key c).run P w = .ok (if c then .tuple #[v, .bool true] else v) w := by
  obtain ⟨es, clock, hb, h2, h3, h4⟩ := h.find; rw [← h3] at hi; obtain ⟨x, hx, hxe⟩ := List.mem_map.1 hi; injection hxe with hx1 hx2; rcases K.find w hkey es.toList h4 with ⟨_, hn⟩ | ⟨j, e0, h1, he, hk⟩
  · exact absurd hx1 (hn x hx)
  · have hxx : x = e0 := by
      obtain ⟨i, hi⟩ := List.getElem?_of_mem hx; have hnd := h2.2.2; have e1 : (es.toList.map (·.key))[i]? = some key := by rw [List.getElem?_map, hi]; simp [hx1]
      have e2 : (es.toList.map (·.key))[j]? = some key := by rw [List.getElem?_map, he]; simp [hk]
      have hij : i = j := by
        obtain ⟨a1, a2⟩ := List.getElem?_eq_some_iff.1 e1; obtain ⟨b1, b2⟩ := List.getElem?_eq_some_iff.1 e2; exact (List.getElem_inj (xs := es.toList.map (·.key)) hnd).1 (a2.trans b2.symm)
      subst hij; rw [hi] at he; injection he
    subst hxx; subst hx2; simp [Instr.lookup, run_underlying ht, MapKept.run_getObj_map hb, K.check w _ hkey, h1, Result.andThen]
theorem MapIn.miss (c : Bool) (h : MapIn P k w b kvs) (K : Keyed P k) (ht : P.underlying t = some (.map k e)) (hkey : keyOf P k key = some kl) (hz : (zeroValue e).run P w = .ok z w) (hi : ∀ q ∈ kvs, q.1 ≠ key) :
    (Instr.lookup t (.map (some b)) key c).run P w = .ok (if c then .tuple #[z, .bool false] else z) w := by
  obtain ⟨es, clock, hb, h2, h3, h4⟩ := h.find; rcases K.find w hkey es.toList h4 with ⟨h1, _⟩ | ⟨j, e0, h1, he, hk⟩
  · simp [Instr.lookup, run_underlying ht, MapKept.run_getObj_map hb, K.check w _ hkey, h1, hz, Result.andThen]
  · exact absurd hk (hi (e0.key, e0.val) (by rw [← h3]; exact List.mem_map.2 ⟨e0, List.mem_of_getElem? he, rfl⟩))
theorem grownBy_setBlock {es : Array MapEntry} {clock : Nat} (hb : w.heap[b]? = some (.map es clock)) (o : Obj) : w.grownBy (setBlock w b o) (some b) :=
  ⟨rfl, rfl, rfl, by simp [setBlock], fun i _ hi => heap_setBlock_other hb _ (fun e => hi (by rw [e]))⟩
theorem MapIn.push (h : MapIn P k w b kvs) (K : Keyed P k) (ht : P.underlying t = some (.map k e)) (hkey : keyOf P k key = some kl) (hi : ∀ q ∈ kvs, q.1 ≠ key) :
    ∃ w', (Instr.mapUpdate t (.map (some b)) key val).run P w = .ok () w' ∧ MapIn P k w' b (kvs ++ [(key, val)]) ∧ w.grownBy w' (some b) := by
  obtain ⟨es, clock, hb, h2, h3, h4⟩ := h.find; have hne : ∀ x ∈ es.toList, x.key ≠ key := fun x hx => hi (x.key, x.val) qdi; rcases K.find w hkey es.toList h4 with ⟨h1, _⟩ | ⟨j, e0, h1, he, hk⟩
  · refine ⟨setBlock w b (.map (es.push { key, val, born := clock }) (clock + 1)), ?_, ⟨⟨_, _, heap_setBlock_same hb _, stamped_push h2 hne, ?_⟩, fun q hq => ?_⟩, grownBy_setBlock hb _⟩
    · simp [Instr.mapUpdate, run_underlying ht, MapKept.run_getObj_map hb, K.check w false hkey, h1, MapKept.run_setObj_map _ hb, Result.andThen, setBlock]
    · rw [Array.toList_push, List.map_append, h3]; rfl
    · rcases List.mem_append.1 hq with hq | hq
      · exact h.keys q hq
      · rw [List.mem_singleton.1 hq]; exact ⟨kl, hkey⟩
  · exact absurd hk (hne e0 (List.mem_of_getElem? he))
end
def StampAt (w : World) (b i s : Nat) : Prop := ∃ es clock x, w.heap[b]? = some (.map es clock) ∧ es.toList[i]? = some x ∧ x.born = s
section
variable {P : Program} {k t e : TypeId} {w w' : World} {b i s : Nat} {kvs : List (Value × Value)} {key val v z : Value} {kl : Lit}
theorem StampAt.keep (h : StampAt w b i s) (hk : w'.heap[b]? = w.heap[b]?) : StampAt w' b i s := by
  obtain ⟨es, clock, x, h1, h2, h3⟩ := h; exact ⟨es, clock, x, hk.trans h1, h2, h3⟩
theorem MapIn.entryHit (h : MapIn P k w b kvs) (K : Keyed P k) (ht : P.underlying t = some (.map k e)) (hkey : keyOf P k key = some kl) (hi : kvs[i]? = some (key, v)) :
    ∃ w' s, (Instr.mapEntry t (.map (some b)) key).run P w = .ok (.tuple #[v, .int .i64 (s : Nat)]) w' ∧ MapIn P k w' b kvs ∧ StampAt w' b i s ∧ w.grownBy w' (some b) := by
  obtain ⟨es, clock, hb, h2, h3, h4⟩ := h.find; have hi0 := hi; rw [← h3, List.getElem?_map] at hi; obtain ⟨x, hx, hxe⟩ := Option.map_eq_some_iff.1 hi; injection hxe with hx1 hx2; rcases K.find w hkey es.toList h4 with ⟨_, hn⟩ | ⟨j, e0, h1, he, hk⟩
  · exact absurd hx1 (hn x (List.mem_of_getElem? hx))
  · have hij : i = j := by
      have hnd := h2.2.2; have e1 : (es.toList.map (·.key))[i]? = some key := by rw [List.getElem?_map, hx]; simp [hx1]
      have e2 : (es.toList.map (·.key))[j]? = some key := by rw [List.getElem?_map, he]; simp [hk]
      obtain ⟨a1, a2⟩ := List.getElem?_eq_some_iff.1 e1; obtain ⟨b1, b2⟩ := List.getElem?_eq_some_iff.1 e2; exact (List.getElem_inj (xs := es.toList.map (·.key)) hnd).1 (a2.trans b2.symm)
    subst hij; rw [hx] at he; injection he with he; subst he; have hj : es[i]? = some x := by simpa using hx
    have hkeyf : ∀ e', es[i]? = some e' → ({ e' with key := key } : MapEntry).key = e'.key := fun e' he' => by rw [hj] at he'; cases he'; exact hk.symm
    have hlist : (es.modify i (fun e' => { e' with key := key })).toList = es.toList.set i { x with key := key } := by rw [Array.toList_modify, Go.ChangeMaps.modify_eq_set _ _ _ _ hx]
    have hil : i < es.toList.length := (List.getElem?_eq_some_iff.1 hx).1; refine ⟨setBlock w b (.map (es.modify i (fun e' => { e' with key := key })) clock), x.born, ?_, ⟨⟨_, _, heap_setBlock_same hb _, stamped_modify h2 _ _ (fun _ _ => rfl) (fun e' _ he' => hkeyf e' he'), ?_⟩, h.keys⟩, ⟨_, _, { x with key := key }, heap_setBlock_same hb _, by rw [hlist, List.getElem?_set_self hil], rfl⟩, grownBy_setBlock hb _⟩
    · simp [Instr.mapEntry, run_underlying ht, MapKept.run_getObj_map hb, K.check w false hkey, h1, hj, hk, K.stays w hkey, MapKept.run_setObj_map _ hb, Result.andThen, setBlock, goInt, hx2]
    · rw [hlist, List.map_set, h3]
      refine List.ext_getElem? fun n => ?_; by_cases hn : i = n
      · subst hn
        rw [List.getElem?_set_self (by rw [← h3]; simpa using hil), hi0, hx2]
      · rw [List.getElem?_set_ne hn]
theorem MapIn.entryMiss (h : MapIn P k w b kvs) (K : Keyed P k) (ht : P.underlying t = some (.map k e)) (hkey : keyOf P k key = some kl) (hz : (zeroValue e).run P w = .ok z w) (hi : ∀ q ∈ kvs, q.1 ≠ key) :
    ∃ w' s, (Instr.mapEntry t (.map (some b)) key).run P w = .ok (.tuple #[z, .int .i64 (s : Nat)]) w' ∧ MapIn P k w' b (kvs ++ [(key, z)]) ∧ StampAt w' b kvs.length s ∧ w.grownBy w' (some b) := by
  obtain ⟨es, clock, hb, h2, h3, h4⟩ := h.find; have hne : ∀ x ∈ es.toList, x.key ≠ key := fun x hx => hi (x.key, x.val) qdi; rcases K.find w hkey es.toList h4 with ⟨h1, _⟩ | ⟨j, e0, h1, he, hk⟩
  · refine ⟨setBlock w b (.map (es.push { key, val := z, born := clock }) (clock + 1)), clock, ?_, ⟨⟨_, _, heap_setBlock_same hb _, stamped_push h2 hne, ?_⟩, fun q hq => ?_⟩, ⟨_, _, ⟨key, z, clock⟩, heap_setBlock_same hb _, ?_, rfl⟩, grownBy_setBlock hb _⟩
    · simp [Instr.mapEntry, run_underlying ht, MapKept.run_getObj_map hb, K.check w false hkey, h1, hz, MapKept.run_setObj_map _ hb, Result.andThen, setBlock, goInt]
    · rw [Array.toList_push, List.map_append, h3]; rfl
    · rcases List.mem_append.1 hq with hq | hq
      · exact h.keys q hq
      · rw [List.mem_singleton.1 hq]; exact ⟨kl, hkey⟩
    · have hl : kvs.length = es.toList.length := by rw [← h3]; simp
      rw [Array.toList_push, hl, List.getElem?_append_right (nl _), Nat.sub_self]; rfl
  · exact absurd hk (hne e0 (List.mem_of_getElem? he))
theorem MapIn.entryStore (h : MapIn P k w b kvs) (hs : StampAt w b i s) (hi : kvs[i]? = some (key, v)) :
    ∃ w', (Instr.entryStore t (.map (some b)) (.int .i64 (s : Nat)) val).run P w = .ok () w' ∧ MapIn P k w' b (kvs.set i (key, val)) ∧ w.grownBy w' (some b) := by
  obtain ⟨es, clock, hb, h2, h3⟩ := h.lies; obtain ⟨es', clock', x, hb', hx, hborn⟩ := hs; rw [hb] at hb'; injection hb' with hb'; injection hb' with e1 e2; subst e1; subst e2; have hi0 := hi; have hil : i < es.toList.length := (List.getElem?_eq_some_iff.1 hx).1; have hixs : i < es.size := by simpa using hil
  have hxx : es[i]? = some x := by simpa using hx
  have hxk : x.key = key := by
    rw [← h3, List.getElem?_map, hx] at hi; simp at hi; exact hi.1
  have hfind : es.findIdx? (fun e => (e.born : Int) == ((s : Nat) : Int)) = some i := by
    rw [Array.findIdx?_eq_some_iff_getElem]; refine ⟨hixs, ?_, fun j hji => ?_⟩
    · have : es[i] = x := (Array.getElem?_eq_some_iff.1 hxx).2
      rw [this, hborn]; simp
    · intro hc
      have hjs : j < es.size := qaa
      have hb1 : (es[j]'hjs).born = s := by
        have h9 : ((es[j]'hjs).born : Int) = ((s : Nat) : Int) := by simpa using hc
        omega
      have hnd := h2.2.1; have e1 : (es.toList.map (·.born))[j]? = some s := by rw [List.getElem?_map, Array.getElem?_toList, Array.getElem?_eq_getElem hjs]; simp [hb1]
      have e2 : (es.toList.map (·.born))[i]? = some s := by rw [List.getElem?_map, hx]; simp [hborn]
      obtain ⟨a1, a2⟩ := List.getElem?_eq_some_iff.1 e1; obtain ⟨b1, b2⟩ := List.getElem?_eq_some_iff.1 e2; have := (List.getElem_inj (xs := es.toList.map (·.born)) hnd).1 (a2.trans b2.symm); omega
  refine ⟨setBlock w b (.map (es.modify i (fun e' => { e' with val := val })) clock), ?_, ⟨⟨_, _, heap_setBlock_same hb _, stamped_modify h2 _ _ (fun _ _ => rfl) (fun _ _ _ => rfl), ?_⟩, fun q hq => ?_⟩, grownBy_setBlock hb _⟩
  · simp [Instr.entryStore, MapKept.run_getObj_map hb, asInt, asIntOf, hfind, MapKept.run_setObj_map _ hb, Result.andThen, setBlock]
  · rw [Array.toList_modify, Go.ChangeMaps.modify_eq_set _ _ _ _ hx, List.map_set, h3, hxk]
  · rcases List.mem_or_eq_of_mem_set hq with hq | hq
    · exact h.keys q hq
    · rw [hq]; exact h.keys (key, v) (List.mem_of_getElem? hi0)
end
section
variable {P : Program} (w : World) {ops : Array Oper} {rest : List Oper} {o : Oper} {a : Act} {Q : Exit → Act → World → Prop}
theorem wpList_update_in (hg : o.guard = none) (m x v : Operand) (t : TypeId) (hop : o.op = Op.mapUpdate t m x v) (b : Nat) (hm : a.eval m = .map (some b)) (key val : Value) (hx : a.eval x = key) (hv : a.eval v = val)
    (R : World → Prop) (hR : ∃ w', (Instr.mapUpdate t (.map (some b)) key val).run P w = .ok () w' ∧ R w')
    (hK : ∀ w', R w' → wpList P ops Q rest (a.put o.dst undef) w') : wpList P ops Q (o :: rest) a w := by
  refine wpList_plain hg fun K' hK' => ?_; obtain ⟨w', hrun, r1⟩ := hR; unfold Oper.wp; simp [execOp, hop, hm, hx, hv, hrun, Result.andThen]; exact hK' _ _ (hK w' r1)
end
end Go.Proofs.YtcigljngiemdeaaGreat

namespace Go.Proofs.YtcigljngiemdeaaGreat
open Go.RowKit Go.Maps
abbrev Sp := (ByteArray × Nat) × (Nat × ByteArray)
def spotV (s : Sp) : Value := .agg #[.string s.1.1, .int .i64 s.1.2, .int .i64 s.2.1, .string s.2.2]
structure FactOk (a : At) : Prop where
  name : a.1.size ≤ maxLen
  few : a.2.length ≤ 3
  words : ∀ u ∈ a.2, u.1 = false ∧ u.2.size ≤ maxLen ∧ u.2.size ≠ 0
theorem FactOk.word {a : At} (h : FactOk a) (i : Nat) : (wordAt a.2 i).size ≤ maxLen := by
  unfold wordAt
  cases hg : a.2[i]? with
  | none => show (⟨#[]⟩ : ByteArray).size ≤ maxLen; show 0 ≤ _; omega
  | some t => exact (h.words t (List.mem_of_getElem? hg)).2.1
theorem wf_count {n : Nat} (h : n ≤ maxLen) : (Lit.int .i64 (n : Int)).wf = true := by
  unfold Lit.wf; simp only [Bool.and_eq_true, decide_eq_true_eq]; have h1 : IntKind.i64.min = -9223372036854775808 := qal; have h2 : IntKind.i64.max = 9223372036854775807 := qal; rw [h1, h2]; unfold maxLen at h; omega
theorem Tryz.laidOutF : laidOutB Tryz.prog = true := by kernel_rfl
theorem Tryz.rowF : (143 : TypeId) < Tryz.prog.types.size := of_decide_eq_true qae
theorem Tryz.rowS : (189 : TypeId) < Tryz.prog.types.size := of_decide_eq_true qae
theorem Tryz.wideF : (match Tryz.prog.underlying 143 with | some (.array _ _) | some (.struct _) => true | _ => false) = true := by kernel_rfl
theorem Tryz.wideS : (match Tryz.prog.underlying 189 with | some (.array _ _) | some (.struct _) => true | _ => false) = true := by kernel_rfl
theorem Tryz.lawF : Keyed Tryz.prog 143 := Keyed.of_law (deep_law_laid Tryz.laidOutF (m := 4) qaa Tryz.rowF qae Tryz.wideF)
theorem Tryz.lawSp : Keyed Tryz.prog 189 := Keyed.of_law (deep_law_laid Tryz.laidOutF (m := 4) qaa Tryz.rowS qae Tryz.wideS)
theorem Tryz.keyTypeF : Tryz.prog.keyType 143 = true := by kernel_rfl
theorem Tryz.keyTypeS : Tryz.prog.keyType 189 = true := by kernel_rfl
theorem Tryz.cellsF : Tryz.prog.cellsOf 143 = 5 := by kernel_rfl
theorem Tryz.cellsK : Tryz.prog.cellsOf 140 = 2 := by kernel_rfl
theorem Tryz.cellsW : Tryz.prog.cellsOf 141 = 3 := by kernel_rfl
theorem Tryz.cellsS : Tryz.prog.cellsOf 9 = 1 := by kernel_rfl
theorem Tryz.cellsI : Tryz.prog.cellsOf 3 = 1 := by kernel_rfl
theorem Tryz.cellsSp : Tryz.prog.cellsOf 189 = 4 := by kernel_rfl
theorem keyLits_string (n : Nat) {s : ByteArray} (h : s.size ≤ maxLen) : Tryz.prog.keyLits (n + 1) 9 [.string s] = some [.string s.data.toList] := by
  simp [Program.keyLits, Tryz.underlying9, h]
theorem keyLits_int (n : Nat) {k : Nat} (h : k ≤ maxLen) : Tryz.prog.keyLits (n + 1) 3 [.int .i64 (k : Int)] = some [.int .i64 (k : Int)] := by
  simp [Program.keyLits, Tryz.underlying3, wf_count h]
theorem keyLits_kind (n : Nat) {s : ByteArray} {k : Nat} (h : s.size ≤ maxLen) (h' : k ≤ maxLen) : Tryz.prog.keyLits (n + 2) 140 [.string s, .int .i64 (k : Int)] = some [.string s.data.toList, .int .i64 (k : Int)] := by
  unfold Program.keyLits; simp only [Tryz.underlying140, Tryz.cellsK]; simp [Tryz.cellsS, Tryz.cellsI, keyLits_string n h, keyLits_int n h']
theorem keyLits_words (n : Nat) {s0 s1 s2 : ByteArray} (h0 : s0.size ≤ maxLen) (h1 : s1.size ≤ maxLen) (h2 : s2.size ≤ maxLen) : Tryz.prog.keyLits (n + 2) 141 [.string s0, .string s1, .string s2] = some [.string s0.data.toList, .string s1.data.toList, .string s2.data.toList] := by
  unfold Program.keyLits; simp only [Tryz.underlying141, Tryz.cellsW]; simp [Tryz.cellsS, List.range, List.range.loop, keyLits_string n h0, keyLits_string n h1, keyLits_string n h2]
theorem key_fact {s s0 s1 s2 : ByteArray} {k : Nat} (hs : s.size ≤ maxLen) (hk : k ≤ maxLen) (h0 : s0.size ≤ maxLen) (h1 : s1.size ≤ maxLen) (h2 : s2.size ≤ maxLen) :
    ∃ l, keyOf Tryz.prog 143 (.agg #[.string s, .int .i64 (k : Int), .string s0, .string s1, .string s2]) = some l := by
  obtain ⟨n, hn⟩ : ∃ n, Tryz.prog.types.size + 1 = n + 3 := ⟨Tryz.prog.types.size - 2, by have h0 : (143 : Nat) < Tryz.prog.types.size := Tryz.rowF; omega⟩; unfold keyOf; simp only [Tryz.underlying143]; rw [if_pos (by rw [Tryz.keyTypeF]; simp [Value.formed, Tryz.underlying143, Tryz.cellsF]), hn]; unfold Program.keyLits; simp only [Tryz.underlying143, Tryz.cellsF]; simp [Tryz.cellsK, Tryz.cellsW, Value.cells, keyLits_kind n hs hk, keyLits_words n h0 h1 h2]
theorem key_spot {s t : ByteArray} {k i : Nat} (hs : s.size ≤ maxLen) (hk : k ≤ maxLen) (hi : i ≤ maxLen) (ht : t.size ≤ maxLen) :
    ∃ l, keyOf Tryz.prog 189 (.agg #[.string s, .int .i64 (k : Int), .int .i64 (i : Int), .string t]) = some l := by
  obtain ⟨n, hn⟩ : ∃ n, Tryz.prog.types.size + 1 = n + 3 := ⟨Tryz.prog.types.size - 2, by have h0 : (143 : Nat) < Tryz.prog.types.size := Tryz.rowF; omega⟩; unfold keyOf; simp only [Tryz.underlying189]; rw [if_pos (by rw [Tryz.keyTypeS]; simp [Value.formed, Tryz.underlying189, Tryz.cellsSp]), hn]; unfold Program.keyLits; simp only [Tryz.underlying189, Tryz.cellsSp]; simp [Tryz.cellsK, Tryz.cellsS, Tryz.cellsI, Value.cells, keyLits_kind n hs hk, keyLits_int (n + 1) hi, keyLits_string (n + 1) ht]
structure KeyOk (a : At) : Prop where
  name : a.1.size ≤ maxLen
  few : a.2.length ≤ 3
  words : ∀ u ∈ a.2, u.1 = false ∧ u.2.size ≤ maxLen
theorem FactOk.keyOk {a : At} (h : FactOk a) : KeyOk a := ⟨h.name, h.few, fun u hu => ⟨(h.words u hu).1, (h.words u hu).2.1⟩⟩
theorem KeyOk.word {a : At} (h : KeyOk a) (i : Nat) : (wordAt a.2 i).size ≤ maxLen := by
  unfold wordAt
  cases hg : a.2[i]? with
  | none => show (⟨#[]⟩ : ByteArray).size ≤ maxLen; show 0 ≤ _; omega
  | some t => exact (h.words t (List.mem_of_getElem? hg)).2
theorem KeyOk.key {a : At} (h : KeyOk a) : ∃ l, keyOf Tryz.prog 143 (factV a) = some l :=
  key_fact h.name (by have := h.few; unfold maxLen; omega) (h.word 0) (h.word 1) (h.word 2)
theorem FactOk.key {a : At} (h : FactOk a) : ∃ l, keyOf Tryz.prog 143 (factV a) = some l := h.keyOk.key
theorem keyV_inj {a b : At} (ha : KeyOk a) (hb : KeyOk b) (h : factV a = factV b) : a = b := by
  unfold factV at h; simp at h; obtain ⟨h1, h2, h3, h4, h5⟩ := h; refine Prod.ext h1 (List.ext_getElem? fun i => ?_); have hlen : a.2.length = b.2.length := qaa; by_cases hi : i < a.2.length
  · have e1 := List.getElem?_eq_getElem hi
    have e2 := List.getElem?_eq_getElem (show i < b.2.length by omega)
    have hw : wordAt a.2 i = wordAt b.2 i := by
      have := ha.few; have h3i : i = 0 ∨ i = 1 ∨ i = 2 := qaa; rcases h3i with e | e | e <;> subst e <;> assumption
    unfold wordAt at hw; rw [e1, e2] at hw ⊢; simp only at hw; have f1 := (ha.words _ (List.mem_of_getElem? e1)).1; have f2 := (hb.words _ (List.mem_of_getElem? e2)).1; rw [Prod.ext (f1.trans f2.symm) hw]
  · rw [List.getElem?_eq_none qaa, List.getElem?_eq_none qaa]
theorem factV_inj {a b : At} (ha : FactOk a) (hb : FactOk b) (h : factV a = factV b) : a = b := keyV_inj ha.keyOk hb.keyOk h
theorem spotV_inj {s t : Sp} (h : spotV s = spotV t) : s = t := by
  obtain ⟨⟨a, b⟩, c, d⟩ := s; obtain ⟨⟨a', b'⟩, c', d'⟩ := t; unfold spotV at h; simp at h; obtain ⟨h1, h2, h3, h4⟩ := h; subst h1; subst h4; have e1 : b = b' := qaa; have e2 : c = c' := qaa; rw [e1, e2]
def SpotOk (s : Sp) : Prop := s.1.1.size ≤ maxLen ∧ s.1.2 ≤ maxLen ∧ s.2.1 ≤ maxLen ∧ s.2.2.size ≤ maxLen
theorem SpotOk.key {s : Sp} (h : SpotOk s) : ∃ l, keyOf Tryz.prog 189 (spotV s) = some l := key_spot h.1 h.2.1 h.2.2.1 h.2.2.2
def allSpot (f : At) : Sp := ((f.1, f.2.length), (0, ⟨#[]⟩))
def atSpot (f : At) (i : Nat) (x : ByteArray) : Sp := ((f.1, f.2.length), (i, x))
def spotsOf (f : At) : List Sp := allSpot f :: (List.range f.2.length).map fun i => atSpot f i (wordAt f.2 i)
noncomputable def inSpot (s : Sp) (f : At) : Bool := @decide (s ∈ spotsOf f) (Classical.propDecidable _)
theorem inSpot_iff {s : Sp} {f : At} : inSpot s f = true ↔ s ∈ spotsOf f := by unfold inSpot; simp
theorem inSpot_kind {s : Sp} {f : At} (h : inSpot s f = true) : f.1 = s.1.1 ∧ f.2.length = s.1.2 := by
  rcases List.mem_cons.1 (inSpot_iff.1 h) with e | e
  · subst e; exact ⟨rfl, rfl⟩
  · obtain ⟨i, _, rfl⟩ := List.mem_map.1 e; exact ⟨rfl, rfl⟩
theorem spots_nodup {f : At} (h : FactOk f) : (spotsOf f).Nodup := by
  unfold spotsOf; refine List.nodup_cons.2 ⟨fun hm => ?_, ?_⟩
  · obtain ⟨i, hi, e⟩ := List.mem_map.1 hm
    have hi := List.mem_range.1 hi; unfold atSpot allSpot at e; simp at e; have hg := List.getElem?_eq_getElem hi; have h3 := (h.words _ (List.mem_of_getElem? hg)).2.2; have e2 := e.2; unfold wordAt at e2; rw [hg] at e2; simp only at e2; rw [e2] at h3; exact h3 rfl
  · refine List.pairwise_map.2 (List.Pairwise.imp (fun {i j} hij e => ?_) List.nodup_range)
    unfold atSpot at e; simp at e; exact hij e.1
theorem spots_ok {f : At} (h : FactOk f) : ∀ s ∈ spotsOf f, SpotOk s := fun s hs => by
  have h3 : f.2.length ≤ maxLen := by have := h.few; unfold maxLen; omega
  rcases List.mem_cons.1 hs with e | e
  · subst e; exact ⟨h.name, h3, Nat.zero_le _, Nat.zero_le _⟩
  · obtain ⟨i, hi, rfl⟩ := List.mem_map.1 e
    have hi := List.mem_range.1 hi; exact ⟨h.name, h3, by show i ≤ maxLen; omega, h.word i⟩
end Go.Proofs.YtcigljngiemdeaaGreat

namespace Go.Proofs.YtcigljngiemdeaaGreat
open Go.RowKit Go.Maps
structure OffB (Bs : Nat → Prop) (w w' : World) : Prop where
  os : w'.os = w.os
  tape : w'.tape = w.tape
  output : w'.output = w.output
  size : w.heap.size ≤ w'.heap.size
  block : ∀ k, k < w.heap.size → ¬ Bs k → w'.heap[k]? = w.heap[k]?
section
variable {Bs Bs' : Nat → Prop} {w w' a b c : World}
theorem OffB.trans (h : OffB Bs a b) (k : OffB Bs' b c) (hs : ∀ i, i < a.heap.size → Bs' i → Bs i) : OffB Bs a c :=
  ⟨k.os.trans h.os, k.tape.trans h.tape, k.output.trans h.output, Nat.le_trans h.size k.size, fun i hi hn => (k.block i (Nat.lt_of_lt_of_le hi h.size) (fun e => hn (hs i hi e))).trans (h.block i hi hn)⟩
theorem OffB.of_below (h : Below w.heap.size w w') : OffB Bs w w' := ⟨h.os, h.tape, h.output, h.size, fun k hk _ => h.block k hk⟩
theorem OffB.below (h : OffB Bs a b) (k : Below b.heap.size b c) : OffB Bs a c := h.trans (OffB.of_below (Bs := Bs) k) fun _ _ e => e
theorem OffB.grown (h : OffB Bs a b) {row : Option Nat} (k : b.grownBy c row) (hs : ∀ g, row = some g → g < a.heap.size → Bs g) : OffB Bs a c :=
  ⟨k.os.trans h.os, k.tape.trans h.tape, k.output.trans h.output, Nat.le_trans h.size k.size, fun i hi hn => (k.block i (Nat.lt_of_lt_of_le hi h.size) (fun e => hn (hs i e.symm hi))).trans (h.block i hi hn)⟩
end
def fcells (f : At) : List Value := [.string f.1, .int .i64 f.2.length, .string (wordAt f.2 0), .string (wordAt f.2 1), .string (wordAt f.2 2)]
def fsCells (fs : List At) : List Value := fs.flatMap fcells
theorem fsCells_snoc (fs : List At) (f : At) : fsCells (fs ++ [f]) = fsCells fs ++ fcells f := by unfold fsCells; simp [List.flatMap_append]
abbrev Rw := Sp × (Value × List At)
structure UnderIn (w : World) (Bs : Nat → Prop) (mu : Nat) (rows : List Rw) : Prop where
  map : MapIn Tryz.prog 189 w mu (rows.map fun r => (spotV r.1, r.2.1))
  row : ∀ r ∈ rows, w.ownsRow 0 143 5 r.2.1 r.2.2.length (fsCells r.2.2) ∧ (∀ g, r.2.1.ownBlock = some g → Bs g)
  apart : rows.Pairwise fun r s => ∀ g, r.2.1.ownBlock = some g → s.2.1.ownBlock ≠ some g
def rowsAt (rows : List Rw) (s : Sp) : List At := match rows.find? (fun r => decide (r.1 = s)) with | some r => r.2.2 | none => []
theorem ownBlock_form {w : World} {v : Value} {n : Nat} {xs : List Value} (h : w.ownsRow 0 143 5 v n xs) {g : Nat} (hg : v.ownBlock = some g) : ∃ cur, w.heap[g]? = some (.cells cur 143 (0, 0)) := by
  rcases h.2 with ⟨rfl, _⟩ | ⟨g', cap, cur, rfl, _, hb, _⟩
  · cases hg
  · obtain rfl : g' = g := by simpa [Value.ownBlock] using hg
    exact ⟨cur, hb⟩
section
variable {w w' : World} {Bs Bs' : Nat → Prop} {mu : Nat} {rows : List Rw} {s : Sp}
theorem UnderIn.keys (h : UnderIn w Bs mu rows) : (rows.map (·.1)).Nodup := by
  have h1 := h.map.once; rw [List.map_map] at h1; unfold List.Nodup at h1 ⊢; rw [List.pairwise_map] at h1 ⊢; exact h1.imp fun hne e => hne (by simp only [Function.comp_def]; rw [e])
theorem find_at : ∀ {rows : List Rw} {s : Sp} {r : Rw}, (rows.map (·.1)).Nodup → r ∈ rows → r.1 = s → rows.find? (fun r => decide (r.1 = s)) = some r
  | [], _, _, _, h, _ => by simp at h
  | q :: rows, s, r, hn, h, e => by
    rw [List.map_cons] at hn; obtain ⟨n1, n2⟩ := List.nodup_cons.1 hn; rcases List.mem_cons.1 h with e' | e'
    · subst e'; rw [List.find?_cons_of_pos (by simp [e])]
    · rw [List.find?_cons_of_neg]
      · exact find_at n2 e' e
      · simp only [decide_eq_true_eq]
        intro hq; exact n1 (List.mem_map.2 ⟨r, e', by rw [e, hq]⟩)
theorem UnderIn.at_ (h : UnderIn w Bs mu rows) {r : Rw} (hr : r ∈ rows) : rowsAt rows r.1 = r.2.2 := by
  unfold rowsAt; rw [find_at h.keys hr rfl]
theorem rowsAt_none (hn : ∀ r ∈ rows, r.1 ≠ s) : rowsAt rows s = [] := by
  unfold rowsAt; rw [List.find?_eq_none.2 (fun r hr => by simpa using hn r hr)]
theorem UnderIn.keep (h : UnderIn w Bs mu rows) (hm : w'.heap[mu]? = w.heap[mu]?) (hk : ∀ g, Bs g → g < w.heap.size → w'.heap[g]? = w.heap[g]?) : UnderIn w' Bs mu rows := by
  refine ⟨h.map.keep hm, fun r hr => ⟨?_, (h.row r hr).2⟩, h.apart⟩; obtain ⟨h1, h2⟩ := h.row r hr; refine ⟨h1.1, ?_⟩; rcases h1.2 with e | ⟨g, cap, cur, e, hb, hg, rest⟩
  · exact .inl e
  · exact .inr ⟨g, cap, cur, e, hb, (hk g (h2 g qed) (Array.getElem?_eq_some_iff.1 hg).1).trans hg, rest⟩
theorem UnderIn.keepC (h : UnderIn w Bs mu rows) (hm : w'.heap[mu]? = w.heap[mu]?) (hk : ∀ g cur, Bs g → w.heap[g]? = some (.cells cur 143 (0, 0)) → w'.heap[g]? = w.heap[g]?) : UnderIn w' Bs mu rows := by
  refine ⟨h.map.keep hm, fun r hr => ⟨?_, (h.row r hr).2⟩, h.apart⟩; obtain ⟨h1, h2⟩ := h.row r hr; refine ⟨h1.1, ?_⟩; rcases h1.2 with e | ⟨g, cap, cur, e, hb, hg, rest⟩
  · exact .inl e
  · exact .inr ⟨g, cap, cur, e, hb, (hk g cur (h2 g qed) hg).trans hg, rest⟩
theorem UnderIn.more (h : UnderIn w Bs mu rows) (hs : ∀ g, Bs g → Bs' g) : UnderIn w Bs' mu rows := ⟨h.map, fun r hr => ⟨(h.row r hr).1, fun g hg => hs g ((h.row r hr).2 g hg)⟩, h.apart⟩
theorem UnderIn.no_row (h : UnderIn w Bs mu rows) {r : Rw} (hr : r ∈ rows) {g : Nat} (hg : r.2.1.ownBlock = some g) : g ≠ mu := by
  intro e; subst e; obtain ⟨cur, hb⟩ := ownBlock_form (h.row r hr).1 hg; obtain ⟨o, ho, hc⟩ := h.map.noCells; rw [hb] at ho; cases ho; cases hc
theorem UnderIn.entry (h : UnderIn w Bs mu rows) (hs : SpotOk s) :
    ∃ w' st i v fs rows', (Instr.mapEntry 135 (.map (some mu)) (spotV s)).run Tryz.prog w = .ok (.tuple #[v, .int .i64 (st : Nat)]) w' ∧ UnderIn w' Bs mu rows' ∧ rows'[i]? = some (s, v, fs) ∧ StampAt w' mu i st ∧ (∀ t, rowsAt rows' t = rowsAt rows t) ∧ w.grownBy w' (some mu) := by
  obtain ⟨kl, hkey⟩ := hs.key; have hz : (zeroValue 148).run Tryz.prog w = .ok (.slice none 0 0) w := Tryz.zeroValue148 w; by_cases hin : ∃ r ∈ rows, r.1 = s
  · obtain ⟨r, hr, hrs⟩ := hin
    obtain ⟨i, hi⟩ := List.getElem?_of_mem hr; have hi2 : (rows.map fun r => (spotV r.1, r.2.1))[i]? = some (spotV s, r.2.1) := by rw [List.getElem?_map, hi]; simp [hrs]
    obtain ⟨w', st, hrun, hM, hS, hg⟩ := h.map.entryHit Tryz.lawSp Tryz.underlying135 hkey hi2; refine ⟨w', st, i, r.2.1, r.2.2, rows, hrun, ⟨hM, fun q hq => ⟨?_, (h.row q hq).2⟩, h.apart⟩, by rw [hi, ← hrs], hS, fun _ => rfl, hg⟩
    exact (h.row q hq).1.kept hg (by
      cases ho : q.2.1.ownBlock with
      | none => exact .inl rfl
      | some g => exact .inr (fun e => h.no_row hq ho qck))
  · have hno : ∀ q ∈ rows.map (fun r => (spotV r.1, r.2.1)), q.1 ≠ spotV s := fun q hq e => by
      obtain ⟨r, hr, rfl⟩ := List.mem_map.1 hq; exact hin ⟨r, hr, spotV_inj e⟩
    obtain ⟨w', st, hrun, hM, hS, hg⟩ := h.map.entryMiss Tryz.lawSp Tryz.underlying135 hkey hz hno; have hne : ∀ r ∈ rows, r.1 ≠ s := fun r hr e => hin ⟨r, hr, e⟩; refine ⟨w', st, rows.length, .slice none 0 0, [], rows ++ [(s, .slice none 0 0, [])], hrun, ⟨?_, fun q hq => ?_, ?_⟩, ?_, by rwa [List.length_map] at hS, fun t => ?_, hg⟩
    · rw [List.map_append]; exact hM
    · rcases List.mem_append.1 hq with hq | hq
      · refine ⟨(h.row q hq).1.kept hg ?_, (h.row q hq).2⟩
        cases ho : q.2.1.ownBlock with
        | none => exact .inl rfl
        | some g => exact .inr (fun e => h.no_row hq ho qck)
      · rw [List.mem_singleton.1 hq]
        exact ⟨World.ownsRow_nil _ _ _ _, fun g hg => by cases hg⟩
    · refine List.pairwise_append.2 ⟨h.apart, List.pairwise_singleton _ _, fun a ha b hb g hg e => ?_⟩
      rw [List.mem_singleton.1 hb] at e; cases e
    · rw [List.getElem?_append_right (nl _), Nat.sub_self]; rfl
    · unfold rowsAt
      rw [List.find?_append]
      cases hf : rows.find? (fun r => decide (r.1 = t)) with
      | some q => rfl
      | none =>
        by_cases ht : s = t
        · simp [ht]
        · simp [ht]
theorem rowsAt_set : ∀ {rows : List Rw} {i : Nat} {s : Sp} {v v' : Value} {fs fs' : List At}, (rows.map (·.1)).Nodup → rows[i]? = some (s, v, fs) → ∀ t, rowsAt (rows.set i (s, v', fs')) t = if t = s then fs' else rowsAt rows t
  | [], i, _, _, _, _, _, _, h, _ => by simp at h
  | q :: rows, 0, s, v, v', fs, fs', hn, h, t => by
    simp at h; subst h; unfold rowsAt; rw [List.set_cons_zero]; by_cases ht : t = s
    · rw [if_pos ht, List.find?_cons_of_pos (by simp [ht])]
    · rw [if_neg ht, List.find?_cons_of_neg (by simp; exact fun e => ht e.symm), List.find?_cons_of_neg (by simp; exact fun e => ht e.symm)]
  | q :: rows, i + 1, s, v, v', fs, fs', hn, h, t => by
    have h' : rows[i]? = some (s, v, fs) := qbd; rw [List.map_cons] at hn; obtain ⟨n1, n2⟩ := List.nodup_cons.1 hn; have ih := rowsAt_set (v' := v') (fs' := fs') n2 h' t; have hqs : q.1 ≠ s := fun e => n1 (List.mem_map.2 ⟨_, List.mem_of_getElem? h', e.symm⟩); unfold rowsAt at ih ⊢; rw [List.set_cons_succ]; by_cases hq : q.1 = t
    · rw [List.find?_cons_of_pos qdr, List.find?_cons_of_pos qdr, if_neg (fun e => hqs (hq.trans e))]
    · rw [List.find?_cons_of_neg qdr, List.find?_cons_of_neg qdr]
      exact ih
theorem UnderIn.store {w2 : World} {i st g cap : Nat} {v : Value} {fs : List At} {f : At} (h : UnderIn w Bs mu rows) (hi : rows[i]? = some (s, v, fs)) (hst : StampAt w mu i st)
    (hg2 : w.grownBy w2 v.ownBlock) (hown : w2.ownsRow 0 143 5 (.slice (some ⟨g, 0, none⟩) (fs.length + 1) cap) (fs.length + 1) (fsCells fs ++ fcells f)) (hlies : v.ownBlock = some g ∨ g = w.heap.size) :
    ∃ w3, (Instr.entryStore 135 (.map (some mu)) (.int .i64 (st : Nat)) (.slice (some ⟨g, 0, none⟩) (fs.length + 1) cap)).run Tryz.prog w2 = .ok () w3 ∧
      UnderIn w3 (fun k => Bs k ∨ (w.heap.size ≤ k ∧ k < w2.heap.size)) mu (rows.set i (s, .slice (some ⟨g, 0, none⟩) (fs.length + 1) cap, fs ++ [f])) ∧ (∀ t, rowsAt (rows.set i (s, .slice (some ⟨g, 0, none⟩) (fs.length + 1) cap, fs ++ [f])) t = if t = s then fs ++ [f] else rowsAt rows t) ∧ w2.grownBy w3 (some mu) := by
  have hmem := List.mem_of_getElem? hi; have hil := (List.getElem?_eq_some_iff.1 hi).1; have hmuv : some mu ≠ v.ownBlock := fun e => h.no_row hmem e.symm rfl; have hm2 : w2.heap[mu]? = w.heap[mu]? := hg2.block mu h.map.lt hmuv; have M2 := h.map.keep hm2; have hi2 : (rows.map fun r => (spotV r.1, r.2.1))[i]? = some (spotV s, v) := by rw [List.getElem?_map, hi]; rfl
  obtain ⟨w3, hrun, M3, hg3⟩ := M2.entryStore (t := 135) (val := .slice (some ⟨g, 0, none⟩) (fs.length + 1) cap) (hst.keep hm2) hi2; have hglt := (hown.lt g rfl).2
  have hgmu : g ≠ mu := by
    rcases hlies with e | e
    · exact h.no_row hmem e
    · have := h.map.lt; omega
  have hnew : w3.ownsRow 0 143 5 (.slice (some ⟨g, 0, none⟩) (fs.length + 1) cap) (fs.length + 1) (fsCells fs ++ fcells f) := hown.kept hg3 (.inr (fun e => hgmu (by simpa [Value.ownBlock] using e)))
  have hold : ∀ j r, j ≠ i → rows[j]? = some r → w3.ownsRow 0 143 5 r.2.1 r.2.2.length (fsCells r.2.2) ∧ (∀ k, r.2.1.ownBlock = some k → k ≠ g) := by
    intro j r hji hr; have hrm := List.mem_of_getElem? hr
    have hap : ∀ k, r.2.1.ownBlock = some k → v.ownBlock ≠ some k := by
      have hp := List.pairwise_iff_getElem.1 h.apart; obtain ⟨j1, j2⟩ := List.getElem?_eq_some_iff.1 hr; obtain ⟨i1, i2⟩ := List.getElem?_eq_some_iff.1 hi; rcases Nat.lt_or_gt_of_ne hji with hlt | hlt
      · have := hp j i j1 i1 hlt
        rw [j2, i2] at this; exact this
      · have := hp i j i1 j1 hlt
        rw [j2, i2] at this; exact fun k e e' => this k e' e
    have h2 : w2.ownsRow 0 143 5 r.2.1 r.2.2.length (fsCells r.2.2) := (h.row r hrm).1.kept hg2 (by
      cases ho : r.2.1.ownBlock with
      | none => exact .inl rfl
      | some k => exact .inr (fun e => hap k ho e.symm))
    refine ⟨h2.kept hg3 (by
      cases ho : r.2.1.ownBlock with
      | none => exact .inl rfl
      | some k => exact .inr (fun e => h.no_row hrm ho qck)), fun k hk e => ?_⟩
    subst e; rcases hlies with e | e
    · exact hap k hk e
    · have := ((h.row r hrm).1.lt k hk).2; omega
  refine ⟨w3, hrun, ⟨?_, fun r hr => ?_, ?_⟩, rowsAt_set h.keys hi, hg3⟩
  · rw [List.map_set]; exact M3
  · obtain ⟨j, hj⟩ := List.getElem?_of_mem hr
    by_cases e : j = i
    · subst e
      rw [List.getElem?_set_self hil] at hj; injection hj with hj; subst hj; refine ⟨by simpa [fsCells_snoc] using hnew, fun k hk => ?_⟩; obtain rfl : g = k := by simpa [Value.ownBlock] using hk
      rcases hlies with e | e
      · exact .inl ((h.row _ hmem).2 _ e)
      · exact .inr ⟨by omega, hglt⟩
    · rw [List.getElem?_set_ne (fun e' => e e'.symm)] at hj
      exact ⟨(hold j r e hj).1, fun k hk => .inl ((h.row r (List.mem_of_getElem? hj)).2 k hk)⟩
  · rw [List.pairwise_iff_getElem]
    intro j k hj hk hjk; rw [List.length_set] at hj hk; have hp := List.pairwise_iff_getElem.1 h.apart; rw [List.getElem_set, List.getElem_set]; by_cases e1 : i = j
    · rw [if_pos e1, if_neg qaa]
      intro b hb e; obtain rfl : g = b := by simpa [Value.ownBlock] using hb
      exact (hold k _ qaa (List.getElem?_eq_getElem hk)).2 _ e rfl
    · rw [if_neg e1]
      by_cases e2 : i = k
      · rw [if_pos e2]
        intro b hb e; obtain rfl : g = b := by simpa [Value.ownBlock] using e
        exact (hold j _ (fun e => e1 e.symm) (List.getElem?_eq_getElem hj)).2 _ hb rfl
      · rw [if_neg e2]
        exact hp j k hj hk hjk
end
structure IxIn (w : World) (Bs : Nat → Prop) (x : Nat) (L : List (At × Nat)) : Prop where
  lies : ∃ mr mu rows, Blk w x 137 #[.map (some mr), .map (some mu)] ∧ Bs mr ∧ Bs mu ∧ mr ≠ mu ∧
    MapIn Tryz.prog 143 w mr (L.map fun q => (factV q.1, .int .i64 (q.2 : Int))) ∧ UnderIn w Bs mu rows ∧ (∀ s, rowsAt rows s = (L.map (·.1)).filter (inSpot s))
  own : Bs x
  ok : ∀ q ∈ L, FactOk q.1
theorem IxIn.keep {w w' : World} {Bs : Nat → Prop} {x : Nat} {L : List (At × Nat)} (h : IxIn w Bs x L) (hk : ∀ g, Bs g → g < w.heap.size → w'.heap[g]? = w.heap[g]?) : IxIn w' Bs x L := by
  obtain ⟨⟨mr, mu, rows, h1, h2, h3, h4, h5, h6, h7⟩, h8, h9⟩ := h; exact ⟨⟨mr, mu, rows, (hk x h8 h1.lt).trans h1, h2, h3, h4, h5.keep (hk mr h2 h5.lt), h6.keep (hk mu h3 h6.map.lt) hk, h7⟩, h8, h9⟩
theorem IxIn.more {w : World} {Bs Bs' : Nat → Prop} {x : Nat} {L : List (At × Nat)} (h : IxIn w Bs x L) (hs : ∀ g, Bs g → Bs' g) : IxIn w Bs' x L := by
  obtain ⟨⟨mr, mu, rows, h1, h2, h3, h4, h5, h6, h7⟩, h8, h9⟩ := h; exact ⟨⟨mr, mu, rows, h1, hs _ h2, hs _ h3, h4, h5, h6.more hs, h7⟩, hs _ h8, h9⟩
end Go.Proofs.YtcigljngiemdeaaGreat
