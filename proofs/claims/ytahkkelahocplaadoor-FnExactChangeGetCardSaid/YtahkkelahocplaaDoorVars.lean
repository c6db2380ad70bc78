/-
  The variables of an atom, as the program goes through them: an iterator of its own; and what the program calls a fact.
  The variables of an atom, as the program goes through them: each a text that a map may have as a key.
-/
import Derived.RangeFuncNested
import Derived.RangeFuncBound
import Derived.RangeFuncCalls
import Derived.RangeFuncLeaves
import Derived.RangeFuncFrom
import Derived.Shelf.Abstract
import Derived.Shelf.RegionOpen
import Derived.WalkKit
import Derived.OwnWalkIn
import Derived.TacticsInMore
import Derived.LoopNIn
import Derived.LoopIn
import Derived.Test.YtahkkelahocplaaDoorFactSpec
namespace Go.Proofs.YtahkkelahocplaaDoor
open Go.RowKit Go.Shelf
attribute [local go_sem] Oper.semAt_some

/-- The names of the variables, one behind the other. -/
def varsOf (ts : List Tm) : List ByteArray := (ts.filter (·.1)).map (·.2)

theorem varsOf_no {ts : List Tm} {k : Nat} {t : Tm} (h : ts[k]? = some t) (ht : t.1 = false) : varsOf (ts.take (k + 1)) = varsOf (ts.take k) := by
  obtain ⟨h1, h2⟩ := List.getElem?_eq_some_iff.1 h
  unfold varsOf
  rw [List.take_succ_eq_append_getElem h1, List.filter_append, h2]; simp [ht]

theorem varsOf_yes {ts : List Tm} {k : Nat} {t : Tm} (h : ts[k]? = some t) (ht : t.1 = true) : varsOf (ts.take (k + 1)) = varsOf (ts.take k) ++ [t.2] := by
  obtain ⟨h1, h2⟩ := List.getElem?_eq_some_iff.1 h
  unfold varsOf
  rw [List.take_succ_eq_append_getElem h1, List.filter_append, h2]; simp [ht]

theorem varsOf_pre (ts : List Tm) (k : Nat) : varsOf (ts.take k) <+: varsOf ts := by
  conv => rhs; rw [← List.take_append_drop k ts]
  unfold varsOf
  rw [List.filter_append, List.map_append]
  exact List.prefix_append _ _

theorem varsOf_len (ts : List Tm) (k : Nat) : (varsOf (ts.take k)).length ≤ k := by
  unfold varsOf
  rw [List.length_map]
  exact Nat.le_trans (List.length_filter_le _ _) (by rw [List.length_take]; omega)

theorem varsOf_none {ts : List Tm} : wordsB ts = true ↔ varsOf ts = [] := by
  unfold wordsB varsOf
  rw [List.map_eq_nil_iff, List.filter_eq_nil_iff, List.all_eq_true]
  exact ⟨fun h t ht => by have := h t ht; simpa using this, fun h t ht => by have := h t ht; simpa using this⟩

theorem varsOf_all {ts : List Tm} {k n : Nat} (h : ts.length = n) (hk : ¬ k < n) : varsOf (ts.take k) = varsOf ts := by
  rw [List.take_of_length_le (by omega)]

theorem assert_var (s : ByteArray) (W : World) : (Instr.typeAssert (.iface 112 (.string s)) 75 112 true).run Tryd.prog W = .ok (.tuple #[.string s, .bool true]) W := by kernel_rfl
theorem assert_word (s : ByteArray) (W : World) : (Instr.typeAssert (.iface 113 (.string s)) 75 113 true).run Tryd.prog W = .ok (.tuple #[.string s, .bool true]) W := by kernel_rfl
theorem assert_not (s : ByteArray) (W : World) : (Instr.typeAssert (.iface 113 (.string s)) 75 112 true).run Tryd.prog W = .ok (.tuple #[.string ⟨#[]⟩, .bool false]) W := by kernel_rfl

theorem grownOf {B : Nat} {a b : World} (h : Below B a b) (hB : a.heap.size ≤ B) : a.grownBy b none := ⟨h.os, h.tape, h.output, h.size, fun i hi _ => h.block i (Nat.lt_of_lt_of_le hi hB)⟩

set_option maxRecDepth 100000 in
set_option maxHeartbeats 2000000 in
theorem vars1_in (n : Nat) (hn : 1 ≤ n) (l Bs n₀ : Nat) (A : Option Addr) (m c : Nat) (ts : List Tm) (J Jx : List ByteArray → World → Prop) (W : World) (hJ : AbidesFrom W.heap.size J)
    (hY : ∀ pre x W1, J pre W1 → pre.length < m → YieldAt Fence.wide (n - 1) Tryd.prog l #[.string x] W1 fun e W' =>
      (e = .returned (.bool true) ∧ J (pre ++ [x]) W' ∧ Below n₀ W1 W') ∨ (e = .returned (.bool false) ∧ Jx (pre ++ [x]) W'))
    (hB : W.cell? ⟨Bs, 1, none⟩ = some (.slice A m c)) (hn0 : n₀ ≤ W.heap.size) (hT : IsTerms W 0 n₀ A m c ts) (h0 : J [] W) :
    CallsIn Fence.wide n Tryd.prog 127 #[.func (.yield l) #[] #[], .pointer (some ⟨Bs, 0, none⟩)] W fun e W' => (∃ v, e = .returned v) ∧
      ((∃ ys, ys = varsOf ts ∧ J ys W') ∨ (∃ pre, pre <+: varsOf ts ∧ Jx pre W')) := by
  have hm : m ≤ maxLen := by have := hT.2.1; have := hT.2.2.1; omega
  unfold maxLen at hm
  have HT := Lib.hid hT; clear hT
  have HY := Lib.hid hY; clear hY
  have HJ0 := Lib.hid hJ; clear hJ
  refine callsIn_of_wp Tryd.func127 rfl trivial ?_ rfl
  simp only [Tryd.ntmps127, List.size_toArray, List.length_cons, List.length_nil, Nat.reduceAdd, Nat.reduceSub, Array.replicate_succ, Array.replicate_zero, List.push_toArray, List.append_toArray, List.nil_append, List.cons_append]
  gi_wp2
  gi_loopw [10] (fun i wr => ∃ k : Nat, k ≤ m ∧ i = .int .i64 k ∧ J (varsOf (ts.take k)) wr ∧ Below n₀ W wr) (fun i _ => m - (intOf i).toNat)
  case atStart => exact ⟨0, Nat.zero_le _, rfl, h0, Below.refl _ _⟩
  case round =>
    obtain ⟨k, hk, rfl, hJs, hb⟩ := hrel
    have HJ := Lib.hid hJs; clear hJs
    by_cases hlt : k < m
    · obtain ⟨p, ⟨v, s⟩, hA, hlo, hhi, hg, c1, c2, c3⟩ := (HT.out.below hb (Nat.le_refl _)).at_ hlt
      subst hA
      have HG := Lib.hid hg; clear hg
      have hwr := hb.size
      have ta1 := assert_var s
      have ta2 := assert_word s
      have ta3 := assert_not s
      cases v
      · gi_wp2_with (refine ⟨trivial, ?_⟩; gi_at_call 62; refine (callsIn_wide.2 (termWord_any _ _)).mono ?_; rintro e w1 ⟨rfl, hb1⟩; have hbx := belowThen (below1 wr (.cells #[.bool false, .string s] 62)) hb1)
        go_roundw
        case rel => exact ⟨k + 1, by omega, by go_num, by rw [varsOf_no HG.out rfl]; exact HJ0.out _ _ _ none HJ.out (grownOf hbx (Nat.le_refl _)) (fun r e => by cases e), hb.trans (hbx.mono (by omega))⟩
        case measure => simp [intOf]; omega
      · gi_wp2_with (refine ⟨trivial, ?_⟩; gi_at_call 62; refine (callsIn_wide.2 (termVar_any _ _)).mono ?_; rintro e w1 ⟨rfl, hb1⟩; have hbx := belowThen (below1 wr (.cells #[.bool true, .string s] 62)) hb1; obtain ⟨fn, tmps, assign, body, hy, hR⟩ := HY.out _ s w1 (HJ0.out _ _ _ none HJ.out (grownOf hbx (Nat.le_refl _)) (fun r e => by cases e)) (Nat.lt_of_le_of_lt (varsOf_len _ _) hlt))
        refine hR.mono ?_
        rintro e W3 (⟨rfl, hJ3, hk3⟩ | ⟨rfl, hJx3⟩)
        · gi_wp2
          go_roundw
          case rel => exact ⟨k + 1, by omega, by go_num, by rw [varsOf_yes HG.out rfl]; exact hJ3, (hb.trans (hbx.mono (by omega))).trans hk3⟩
          case measure => simp [intOf]; omega
        · gi_wp2
          refine bodyPost_ret (results_none rfl _ _ _) rfl ?_
          exact ⟨⟨_, rfl⟩, .inr ⟨_, by rw [← varsOf_yes (t := (true, s)) HG.out rfl]; exact varsOf_pre _ _, hJx3⟩⟩
    · have E := Lib.hid (varsOf_all HT.out.1 hlt)
      gi_wp2
      go_end0
      exact ⟨⟨_, rfl⟩, .inl ⟨_, rfl, by rw [← E.out]; exact HJ.out⟩⟩

theorem vars_stops (n : Nat) (hn : 1 ≤ n) (Bs n₀ : Nat) (A : Option Addr) (m c : Nat) (ts : List Tm) (w : World) (hBs : Bs < w.heap.size) (hn0 : n₀ ≤ w.heap.size) (hB : w.cell? ⟨Bs, 1, none⟩ = some (.slice A m c)) (hT : IsTerms w 0 n₀ A m c ts) :
    SeqStopsK Fence.wide n Tryd.prog 127 #[.pointer (some ⟨Bs, 0, none⟩)] (fun x : ByteArray => #[Value.string x]) (Below n₀) (fun ys => ys = varsOf ts) (fun pre => pre <+: varsOf ts) m w := fun l J Jx W hW hJ _ hY h0 =>
  vars1_in n hn l Bs n₀ A m c ts J Jx W hJ hY ((hW.cell (p := ⟨Bs, 1, none⟩) hBs).trans hB) (Nat.le_trans hn0 hW.size) (hT.below hW hn0) h0

set_option maxHeartbeats 400000 in
theorem variablesOf_any (nm : ByteArray) (A : Option Addr) (n c : Nat) (w : World) :
    Calls Tryd.prog 109 #[.agg #[.string nm, .slice A n c]] w fun e w' => e = .returned (.func (.func 127) #[] #[.pointer (some ⟨w.heap.size, 0, none⟩)]) ∧ w' = w.alloc (.cells #[.string nm, .slice A n c] 24) := by
  go_enter Tryd.func109, Tryd.ntmps109
  go_wp2
  go_ret
  exact ⟨rfl, rfl⟩

end Go.Proofs.YtahkkelahocplaaDoor

namespace Go.Proofs.YtahkkelahocplaaDoor
open Go.RowKit Go.Shelf
attribute [local go_sem] Oper.semAt_some

/-- A text that is none too long. -/
abbrev SmallT := { x : ByteArray // x.size ≤ maxLen }

set_option maxRecDepth 100000 in
set_option maxHeartbeats 2000000 in
theorem vars1S_in (n : Nat) (hn : 1 ≤ n) (l Bs n₀ : Nat) (A : Option Addr) (m c : Nat) (ts : List Tm) (J Jx : List SmallT → World → Prop) (W : World) (hJ : AbidesFrom W.heap.size J)
    (hY : ∀ pre x W1, J pre W1 → pre.length < m → YieldAt Fence.wide (n - 1) Tryd.prog l #[.string x.1] W1 fun e W' =>
      (e = .returned (.bool true) ∧ J (pre ++ [x]) W' ∧ Below n₀ W1 W') ∨ (e = .returned (.bool false) ∧ Jx (pre ++ [x]) W'))
    (hB : W.cell? ⟨Bs, 1, none⟩ = some (.slice A m c)) (hn0 : n₀ ≤ W.heap.size) (hT : IsTerms W 0 n₀ A m c ts) (h0 : J [] W) :
    CallsIn Fence.wide n Tryd.prog 127 #[.func (.yield l) #[] #[], .pointer (some ⟨Bs, 0, none⟩)] W fun e W' => (∃ v, e = .returned v) ∧
      ((∃ ys, ys.map (·.1) = varsOf ts ∧ J ys W') ∨ (∃ pre, pre.map (·.1) <+: varsOf ts ∧ Jx pre W')) := by
  have hm : m ≤ maxLen := by have := hT.2.1; have := hT.2.2.1; omega
  unfold maxLen at hm
  have HT := Lib.hid hT; clear hT
  have HY := Lib.hid hY; clear hY
  have HJ0 := Lib.hid hJ; clear hJ
  refine callsIn_of_wp Tryd.func127 rfl trivial ?_ rfl
  simp only [Tryd.ntmps127, List.size_toArray, List.length_cons, List.length_nil, Nat.reduceAdd, Nat.reduceSub, Array.replicate_succ, Array.replicate_zero, List.push_toArray, List.append_toArray, List.nil_append, List.cons_append]
  gi_wp2
  gi_loopw [10] (fun i wr => ∃ k : Nat, k ≤ m ∧ i = .int .i64 k ∧ (∃ ps : List SmallT, ps.map (·.1) = varsOf (ts.take k) ∧ J ps wr) ∧ Below n₀ W wr) (fun i _ => m - (intOf i).toNat)
  case atStart => exact ⟨0, Nat.zero_le _, rfl, ⟨[], rfl, h0⟩, Below.refl _ _⟩
  case round =>
    obtain ⟨k, hk, rfl, ⟨ps, hps, hJs⟩, hb⟩ := hrel
    have HPS := Lib.hid hps; clear hps
    have HJ := Lib.hid hJs; clear hJs
    by_cases hlt : k < m
    · obtain ⟨p, ⟨v, s⟩, hA, hlo, hhi, hg, c1, c2, c3⟩ := (HT.out.below hb (Nat.le_refl _)).at_ hlt
      subst hA
      have HG := Lib.hid hg; clear hg
      have hwr := hb.size
      have ta1 := assert_var s
      have ta2 := assert_word s
      have ta3 := assert_not s
      cases v
      · gi_wp2_with (refine ⟨trivial, ?_⟩; gi_at_call 62; refine (callsIn_wide.2 (termWord_any _ _)).mono ?_; rintro e w1 ⟨rfl, hb1⟩; have hbx := belowThen (below1 wr (.cells #[.bool false, .string s] 62)) hb1)
        go_roundw
        case rel => exact ⟨k + 1, by omega, by go_num, ⟨ps, by rw [varsOf_no HG.out rfl]; exact HPS.out, HJ0.out _ _ _ none HJ.out (grownOf hbx (Nat.le_refl _)) (fun r e => by cases e)⟩, hb.trans (hbx.mono (by omega))⟩
        case measure => simp [intOf]; omega
      · gi_wp2_with (refine ⟨trivial, ?_⟩; gi_at_call 62; refine (callsIn_wide.2 (termVar_any _ _)).mono ?_; rintro e w1 ⟨rfl, hb1⟩; have hbx := belowThen (below1 wr (.cells #[.bool true, .string s] 62)) hb1; obtain ⟨fn, tmps, assign, body, hy, hR⟩ := HY.out ps ⟨s, c3⟩ w1 (HJ0.out _ _ _ none HJ.out (grownOf hbx (Nat.le_refl _)) (fun r e => by cases e)) (by have h1 := congrArg List.length HPS.out; rw [List.length_map] at h1; have h2 := varsOf_len ts k; omega); dsimp only at hy hR)
        refine hR.mono ?_
        rintro e W3 (⟨rfl, hJ3, hk3⟩ | ⟨rfl, hJx3⟩)
        · gi_wp2
          go_roundw
          case rel => exact ⟨k + 1, by omega, by go_num, ⟨ps ++ [⟨s, c3⟩], by rw [varsOf_yes HG.out rfl, List.map_append, HPS.out]; rfl, hJ3⟩, (hb.trans (hbx.mono (by omega))).trans hk3⟩
          case measure => simp [intOf]; omega
        · gi_wp2
          refine bodyPost_ret (results_none rfl _ _ _) rfl ?_
          exact ⟨⟨_, rfl⟩, .inr ⟨ps ++ [⟨s, c3⟩], by rw [List.map_append, HPS.out]; show varsOf (ts.take k) ++ [s] <+: _; rw [← varsOf_yes (t := (true, s)) HG.out rfl]; exact varsOf_pre _ _, hJx3⟩⟩
    · have E := Lib.hid (varsOf_all HT.out.1 hlt)
      gi_wp2
      go_end0
      exact ⟨⟨_, rfl⟩, .inl ⟨ps, by rw [HPS.out, E.out], HJ.out⟩⟩

theorem varsS_stops (n : Nat) (hn : 1 ≤ n) (Bs n₀ : Nat) (A : Option Addr) (m c : Nat) (ts : List Tm) (w : World) (hBs : Bs < w.heap.size) (hn0 : n₀ ≤ w.heap.size) (hB : w.cell? ⟨Bs, 1, none⟩ = some (.slice A m c)) (hT : IsTerms w 0 n₀ A m c ts) :
    SeqStopsK Fence.wide n Tryd.prog 127 #[.pointer (some ⟨Bs, 0, none⟩)] (fun x : SmallT => #[Value.string x.1]) (Below n₀) (fun ys => ys.map (·.1) = varsOf ts) (fun pre => pre.map (·.1) <+: varsOf ts) m w := fun l J Jx W hW hJ _ hY h0 =>
  vars1S_in n hn l Bs n₀ A m c ts J Jx W hJ hY ((hW.cell (p := ⟨Bs, 1, none⟩) hBs).trans hB) (Nat.le_trans hn0 hW.size) (hT.below hW hn0) h0

end Go.Proofs.YtahkkelahocplaaDoor

