/-
  Texts of one claim, put together.
-/
import Derived.RangeFuncNested
import Derived.RangeFuncBound
import Derived.RangeFuncCalls
import Derived.RangeFuncLeaves
import Derived.RangeFuncFrom
import Derived.Shelf.Abstract
import Derived.Shelf.RegionOpen
import Derived.WalkKit
import Derived.OwnWalkIn
import Derived.TacticsInMore
import Derived.LoopNIn
import Derived.LoopIn
import Derived.Test.YtcigljngiemdeaaGreatEa2
import Derived.Deep.RegionHeld3
import Derived.Test.YtcigljngiemdeaaGreatEa0
namespace Go.Proofs.YtcigljngiemdeaaGreat
open Go.RowKit Go.Shelf
attribute [local go_sem] Oper.semAt_some

/-- The names of the variables, one behind the other. -/
def varsOf (ts : List Tm) : List ByteArray := (ts.filter (·.1)).map (·.2)

theorem varsOf_no {ts : List Tm} {k : Nat} {t : Tm} (h : ts[k]? = some t) (ht : t.1 = false) : varsOf (ts.take (k + 1)) = varsOf (ts.take k) := by
  obtain ⟨h1, h2⟩ := List.getElem?_eq_some_iff.1 h
  unfold varsOf
  rw [List.take_succ_eq_append_getElem h1, List.filter_append, h2]; simp [ht]

theorem varsOf_yes {ts : List Tm} {k : Nat} {t : Tm} (h : ts[k]? = some t) (ht : t.1 = true) : varsOf (ts.take (k + 1)) = varsOf (ts.take k) ++ [t.2] := by
  obtain ⟨h1, h2⟩ := List.getElem?_eq_some_iff.1 h
  unfold varsOf
  rw [List.take_succ_eq_append_getElem h1, List.filter_append, h2]; simp [ht]

theorem varsOf_pre (ts : List Tm) (k : Nat) : varsOf (ts.take k) <+: varsOf ts := by
  conv => rhs; rw [← List.take_append_drop k ts]
  unfold varsOf
  rw [List.filter_append, List.map_append]
  exact List.prefix_append _ _

theorem varsOf_len (ts : List Tm) (k : Nat) : (varsOf (ts.take k)).length ≤ k := by
  unfold varsOf
  rw [List.length_map]
  exact Nat.le_trans (List.length_filter_le _ _) (by rw [List.length_take]; omega)

theorem varsOf_none {ts : List Tm} : wordsB ts = true ↔ varsOf ts = [] := by
  unfold wordsB varsOf
  rw [List.map_eq_nil_iff, List.filter_eq_nil_iff, List.all_eq_true]
  exact ⟨fun h t ht => by have := h t ht; simpa using this, fun h t ht => by have := h t ht; simpa using this⟩

theorem varsOf_all {ts : List Tm} {k n : Nat} (h : ts.length = n) (hk : ¬ k < n) : varsOf (ts.take k) = varsOf ts := by
  rw [List.take_of_length_le (by omega)]

theorem assert_var (s : ByteArray) (W : World) : (Instr.typeAssert (.iface 217 (.string s)) 215 217 true).run Tryz.prog W = .ok (.tuple #[.string s, .bool true]) W := by kernel_rfl
theorem assert_word (s : ByteArray) (W : World) : (Instr.typeAssert (.iface 218 (.string s)) 215 218 true).run Tryz.prog W = .ok (.tuple #[.string s, .bool true]) W := by kernel_rfl
theorem assert_not (s : ByteArray) (W : World) : (Instr.typeAssert (.iface 218 (.string s)) 215 217 true).run Tryz.prog W = .ok (.tuple #[.string ⟨#[]⟩, .bool false]) W := by kernel_rfl

theorem grownOf {B : Nat} {a b : World} (h : Below B a b) (hB : a.heap.size ≤ B) : a.grownBy b none := ⟨h.os, h.tape, h.output, h.size, fun i hi _ => h.block i (Nat.lt_of_lt_of_le hi hB)⟩

set_option maxRecDepth 100000 in
set_option maxHeartbeats 2000000 in
theorem vars1_in (n : Nat) (hn : 1 ≤ n) (l Bs n₀ : Nat) (A : Option Addr) (m c : Nat) (ts : List Tm) (J Jx : List ByteArray → World → Prop) (W : World) (hJ : AbidesFrom W.heap.size J)
    (hY : ∀ pre x W1, J pre W1 → pre.length < m → YieldAt Fence.wide (n - 1) Tryz.prog l #[.string x] W1 fun e W' =>
      (e = .returned (.bool true) ∧ J (pre ++ [x]) W' ∧ Below n₀ W1 W') ∨ (e = .returned (.bool false) ∧ Jx (pre ++ [x]) W'))
    (hB : W.cell? ⟨Bs, 1, none⟩ = some (.slice A m c)) (hn0 : n₀ ≤ W.heap.size) (hT : IsTerms W 0 n₀ A m c ts) (h0 : J [] W) :
    CallsIn Fence.wide n Tryz.prog 160 #[.func (.yield l) #[] #[], .pointer (some ⟨Bs, 0, none⟩)] W fun e W' => (∃ v, e = .returned v) ∧
      ((∃ ys, ys = varsOf ts ∧ J ys W') ∨ (∃ pre, pre <+: varsOf ts ∧ Jx pre W')) := by
  have hm : m ≤ maxLen := by have := hT.2.1; have := hT.2.2.1; omega
  unfold maxLen at hm
  have HT := Lib.hid hT; clear hT
  have HY := Lib.hid hY; clear hY
  have HJ0 := Lib.hid hJ; clear hJ
  refine callsIn_of_wp Tryz.func160 rfl trivial ?_ rfl
  simp only [Tryz.ntmps160, List.size_toArray, List.length_cons, List.length_nil, Nat.reduceAdd, Nat.reduceSub, Array.replicate_succ, Array.replicate_zero, List.push_toArray, List.append_toArray, List.nil_append, List.cons_append]
  gi_wp2
  gi_loopw [10] (fun i wr => ∃ k : Nat, k ≤ m ∧ i = .int .i64 k ∧ J (varsOf (ts.take k)) wr ∧ Below n₀ W wr) (fun i _ => m - (intOf i).toNat)
  case atStart => exact ⟨0, Nat.zero_le _, rfl, h0, Below.refl _ _⟩
  case round =>
    obtain ⟨k, hk, rfl, hJs, hb⟩ := hrel
    have HJ := Lib.hid hJs; clear hJs
    by_cases hlt : k < m
    · obtain ⟨p, ⟨v, s⟩, hA, hlo, hhi, hg, c1, c2, c3⟩ := (HT.out.below hb (Nat.le_refl _)).at_ hlt
      subst hA
      have HG := Lib.hid hg; clear hg
      have hwr := hb.size
      have ta1 := assert_var s
      have ta2 := assert_word s
      have ta3 := assert_not s
      cases v
      · gi_wp2_with (refine ⟨trivial, ?_⟩; gi_at_call 161; refine (callsIn_wide.2 (termWord_any _ _)).mono ?_; rintro e w1 ⟨rfl, hb1⟩; have hbx := belowThen (below1 wr (.cells #[.bool false, .string s] 59)) hb1)
        go_roundw
        case rel => exact ⟨k + 1, by omega, by go_num, by rw [varsOf_no HG.out rfl]; exact HJ0.out _ _ _ none HJ.out (grownOf hbx (Nat.le_refl _)) (fun r e => by cases e), hb.trans (hbx.mono (by omega))⟩
        case measure => simp [intOf]; omega
      · gi_wp2_with (refine ⟨trivial, ?_⟩; gi_at_call 161; refine (callsIn_wide.2 (termVar_any _ _)).mono ?_; rintro e w1 ⟨rfl, hb1⟩; have hbx := belowThen (below1 wr (.cells #[.bool true, .string s] 59)) hb1; obtain ⟨fn, tmps, assign, body, hy, hR⟩ := HY.out _ s w1 (HJ0.out _ _ _ none HJ.out (grownOf hbx (Nat.le_refl _)) (fun r e => by cases e)) (Nat.lt_of_le_of_lt (varsOf_len _ _) hlt))
        refine hR.mono ?_
        rintro e W3 (⟨rfl, hJ3, hk3⟩ | ⟨rfl, hJx3⟩)
        · gi_wp2
          go_roundw
          case rel => exact ⟨k + 1, by omega, by go_num, by rw [varsOf_yes HG.out rfl]; exact hJ3, (hb.trans (hbx.mono (by omega))).trans hk3⟩
          case measure => simp [intOf]; omega
        · gi_wp2
          refine bodyPost_ret (results_none rfl _ _ _) rfl ?_
          exact ⟨⟨_, rfl⟩, .inr ⟨_, by rw [← varsOf_yes (t := (true, s)) HG.out rfl]; exact varsOf_pre _ _, hJx3⟩⟩
    · have E := Lib.hid (varsOf_all HT.out.1 hlt)
      gi_wp2
      go_end0
      exact ⟨⟨_, rfl⟩, .inl ⟨_, rfl, by rw [← E.out]; exact HJ.out⟩⟩

theorem vars_stops (n : Nat) (hn : 1 ≤ n) (Bs n₀ : Nat) (A : Option Addr) (m c : Nat) (ts : List Tm) (w : World) (hBs : Bs < w.heap.size) (hn0 : n₀ ≤ w.heap.size) (hB : w.cell? ⟨Bs, 1, none⟩ = some (.slice A m c)) (hT : IsTerms w 0 n₀ A m c ts) :
    SeqStopsK Fence.wide n Tryz.prog 160 #[.pointer (some ⟨Bs, 0, none⟩)] (fun x : ByteArray => #[Value.string x]) (Below n₀) (fun ys => ys = varsOf ts) (fun pre => pre <+: varsOf ts) m w := fun l J Jx W hW hJ _ hY h0 =>
  vars1_in n hn l Bs n₀ A m c ts J Jx W hJ hY ((hW.cell (p := ⟨Bs, 1, none⟩) hBs).trans hB) (Nat.le_trans hn0 hW.size) (hT.below hW hn0) h0

set_option maxHeartbeats 400000 in
theorem variablesOf_any (nm : ByteArray) (A : Option Addr) (n c : Nat) (w : World) :
    Calls Tryz.prog 117 #[.agg #[.string nm, .slice A n c]] w fun e w' => e = .returned (.func (.func 160) #[] #[.pointer (some ⟨w.heap.size, 0, none⟩)]) ∧ w' = w.alloc (.cells #[.string nm, .slice A n c] 49) := by
  go_enter Tryz.func117, Tryz.ntmps117
  go_wp2
  go_ret
  exact ⟨rfl, rfl⟩

end Go.Proofs.YtcigljngiemdeaaGreat

namespace Go.Proofs.YtcigljngiemdeaaGreat
open Go.RowKit Go.Shelf
attribute [local go_sem] Oper.semAt_some

/-- A text that is none too long. -/
abbrev SmallT := { x : ByteArray // x.size ≤ maxLen }

set_option maxRecDepth 100000 in
set_option maxHeartbeats 2000000 in
theorem vars1S_in (n : Nat) (hn : 1 ≤ n) (l Bs n₀ : Nat) (A : Option Addr) (m c : Nat) (ts : List Tm) (J Jx : List SmallT → World → Prop) (W : World) (hJ : AbidesFrom W.heap.size J)
    (hY : ∀ pre x W1, J pre W1 → pre.length < m → YieldAt Fence.wide (n - 1) Tryz.prog l #[.string x.1] W1 fun e W' =>
      (e = .returned (.bool true) ∧ J (pre ++ [x]) W' ∧ Below n₀ W1 W') ∨ (e = .returned (.bool false) ∧ Jx (pre ++ [x]) W'))
    (hB : W.cell? ⟨Bs, 1, none⟩ = some (.slice A m c)) (hn0 : n₀ ≤ W.heap.size) (hT : IsTerms W 0 n₀ A m c ts) (h0 : J [] W) :
    CallsIn Fence.wide n Tryz.prog 160 #[.func (.yield l) #[] #[], .pointer (some ⟨Bs, 0, none⟩)] W fun e W' => (∃ v, e = .returned v) ∧
      ((∃ ys, ys.map (·.1) = varsOf ts ∧ J ys W') ∨ (∃ pre, pre.map (·.1) <+: varsOf ts ∧ Jx pre W')) := by
  have hm : m ≤ maxLen := by have := hT.2.1; have := hT.2.2.1; omega
  unfold maxLen at hm
  have HT := Lib.hid hT; clear hT
  have HY := Lib.hid hY; clear hY
  have HJ0 := Lib.hid hJ; clear hJ
  refine callsIn_of_wp Tryz.func160 rfl trivial ?_ rfl
  simp only [Tryz.ntmps160, List.size_toArray, List.length_cons, List.length_nil, Nat.reduceAdd, Nat.reduceSub, Array.replicate_succ, Array.replicate_zero, List.push_toArray, List.append_toArray, List.nil_append, List.cons_append]
  gi_wp2
  gi_loopw [10] (fun i wr => ∃ k : Nat, k ≤ m ∧ i = .int .i64 k ∧ (∃ ps : List SmallT, ps.map (·.1) = varsOf (ts.take k) ∧ J ps wr) ∧ Below n₀ W wr) (fun i _ => m - (intOf i).toNat)
  case atStart => exact ⟨0, Nat.zero_le _, rfl, ⟨[], rfl, h0⟩, Below.refl _ _⟩
  case round =>
    obtain ⟨k, hk, rfl, ⟨ps, hps, hJs⟩, hb⟩ := hrel
    have HPS := Lib.hid hps; clear hps
    have HJ := Lib.hid hJs; clear hJs
    by_cases hlt : k < m
    · obtain ⟨p, ⟨v, s⟩, hA, hlo, hhi, hg, c1, c2, c3⟩ := (HT.out.below hb (Nat.le_refl _)).at_ hlt
      subst hA
      have HG := Lib.hid hg; clear hg
      have hwr := hb.size
      have ta1 := assert_var s
      have ta2 := assert_word s
      have ta3 := assert_not s
      cases v
      · gi_wp2_with (refine ⟨trivial, ?_⟩; gi_at_call 161; refine (callsIn_wide.2 (termWord_any _ _)).mono ?_; rintro e w1 ⟨rfl, hb1⟩; have hbx := belowThen (below1 wr (.cells #[.bool false, .string s] 59)) hb1)
        go_roundw
        case rel => exact ⟨k + 1, by omega, by go_num, ⟨ps, by rw [varsOf_no HG.out rfl]; exact HPS.out, HJ0.out _ _ _ none HJ.out (grownOf hbx (Nat.le_refl _)) (fun r e => by cases e)⟩, hb.trans (hbx.mono (by omega))⟩
        case measure => simp [intOf]; omega
      · gi_wp2_with (refine ⟨trivial, ?_⟩; gi_at_call 161; refine (callsIn_wide.2 (termVar_any _ _)).mono ?_; rintro e w1 ⟨rfl, hb1⟩; have hbx := belowThen (below1 wr (.cells #[.bool true, .string s] 59)) hb1; obtain ⟨fn, tmps, assign, body, hy, hR⟩ := HY.out ps ⟨s, c3⟩ w1 (HJ0.out _ _ _ none HJ.out (grownOf hbx (Nat.le_refl _)) (fun r e => by cases e)) (by have h1 := congrArg List.length HPS.out; rw [List.length_map] at h1; have h2 := varsOf_len ts k; omega); dsimp only at hy hR)
        refine hR.mono ?_
        rintro e W3 (⟨rfl, hJ3, hk3⟩ | ⟨rfl, hJx3⟩)
        · gi_wp2
          go_roundw
          case rel => exact ⟨k + 1, by omega, by go_num, ⟨ps ++ [⟨s, c3⟩], by rw [varsOf_yes HG.out rfl, List.map_append, HPS.out]; rfl, hJ3⟩, (hb.trans (hbx.mono (by omega))).trans hk3⟩
          case measure => simp [intOf]; omega
        · gi_wp2
          refine bodyPost_ret (results_none rfl _ _ _) rfl ?_
          exact ⟨⟨_, rfl⟩, .inr ⟨ps ++ [⟨s, c3⟩], by rw [List.map_append, HPS.out]; show varsOf (ts.take k) ++ [s] <+: _; rw [← varsOf_yes (t := (true, s)) HG.out rfl]; exact varsOf_pre _ _, hJx3⟩⟩
    · have E := Lib.hid (varsOf_all HT.out.1 hlt)
      gi_wp2
      go_end0
      exact ⟨⟨_, rfl⟩, .inl ⟨ps, by rw [HPS.out, E.out], HJ.out⟩⟩

theorem varsS_stops (n : Nat) (hn : 1 ≤ n) (Bs n₀ : Nat) (A : Option Addr) (m c : Nat) (ts : List Tm) (w : World) (hBs : Bs < w.heap.size) (hn0 : n₀ ≤ w.heap.size) (hB : w.cell? ⟨Bs, 1, none⟩ = some (.slice A m c)) (hT : IsTerms w 0 n₀ A m c ts) :
    SeqStopsK Fence.wide n Tryz.prog 160 #[.pointer (some ⟨Bs, 0, none⟩)] (fun x : SmallT => #[Value.string x.1]) (Below n₀) (fun ys => ys.map (·.1) = varsOf ts) (fun pre => pre.map (·.1) <+: varsOf ts) m w := fun l J Jx W hW hJ _ hY h0 =>
  vars1S_in n hn l Bs n₀ A m c ts J Jx W hJ hY ((hW.cell (p := ⟨Bs, 1, none⟩) hBs).trans hB) (Nat.le_trans hn0 hW.size) (hT.below hW hn0) h0

end Go.Proofs.YtcigljngiemdeaaGreat


namespace Go.Proofs.YtcigljngiemdeaaGreat
open Go

theorem takeV {P : Program} {ops : Array Oper} {Q : Exit → Act → World → Prop} {md : Region.Mode} {S : World → Prop} {i d : Nat} {oi : Oper} {v : Value} {fuel : Nat} {listed : Array Bool} {a : Act} {w : World} {tm : Array Value}
    (hi : ops[i]? = some oi) (hs : Region.noSelect ops = true) (hf : Region.free md ops listed i = true) (hr : (Region.ready md ops listed).contains i = true) (hd : oi.dst = some d)
    (hQ : ∀ c a w, Q (.panic c) (a.put (some d) v) w → Q (.panic c) a w) (hy : YieldsIf P ops S oi v a) (hS : S w) (hput : a.tmps.setIfInBounds d v = tm)
    (h : wpAnyH P md ops Q S fuel (listed.setIfInBounds i true) { tmps := tm, defers := a.defers } w) : wpAnyH P md ops Q S (fuel + 1) listed a w := by
  refine wpAnyH_take hi hs hf hr ?_ hy hS ?_
  · rw [hd]; exact hQ
  · rw [hd]
    subst hput
    exact h

/-- .. all that can be reckoned left to the kernel and to the walk. -/
theorem tk (i : Nat) (v : Value) {P : Program} {ops : Array Oper} {Q : Exit → Act → World → Prop} {md : Region.Mode} {S : World → Prop} {d : Nat} {oi : Oper} {fuel : Nat} {listed : Array Bool} {a : Act} {w : World} {tm : Array Value}
    (hS : S w) (h : wpAnyH P md ops Q S fuel (listed.setIfInBounds i true) { tmps := tm, defers := a.defers } w)
    (hi : ops[i]? = some oi := by (simp only [List.getElem?_toArray, List.getElem?_cons_succ, List.getElem?_cons_zero]); rfl) (hs : Region.noSelect ops = true := by kernel_rfl) (hf : Region.free md ops listed i = true := by kernel_rfl) (hr : (Region.ready md ops listed).contains i = true := by kernel_rfl) (hd : oi.dst = some d := by rfl)
    (hQ : ∀ c a w, Q (.panic c) (a.put (some d) v) w → Q (.panic c) a w := by exact fun _ _ _ h => h)
    (hy : YieldsIf P ops S oi v a := by refine Or.inl ⟨by rfl, ?_⟩; intro w_ hSw_; (try dsimp only at hSw_); go_simp)
    (hput : a.tmps.setIfInBounds d v = tm := by (simp only [Act.put, List.setIfInBounds_toArray, List.set_cons_succ, List.set_cons_zero]); rfl) : wpAnyH P md ops Q S (fuel + 1) listed a w := takeV hi hs hf hr hd hQ hy hS hput h

/-- One operation alone is ready. -/
theorem rd1 (i : Nat) {P : Program} {ops : Array Oper} {Q : Exit → Act → World → Prop} {md : Region.Mode} {S : World → Prop} {o : Oper} {fuel : Nat} {listed : Array Bool} {a : Act} {w : World}
    (h : ∀ K' : Act → World → Prop, Shut (∀ a w, S w → (S w → wpAnyH P md ops Q S fuel (listed.setIfInBounds i true) a w) → K' a w) → Oper.wp P o a w K' Q)
    (ho : ops[i]? = some o := by (simp only [List.getElem?_toArray, List.getElem?_cons_succ, List.getElem?_cons_zero]); rfl) (hr : Region.ready md ops listed = [i] := by kernel_rfl) (hw : Region.wanted o (yielded ops a.tmps) = true := by rfl) : wpAnyH P md ops Q S (fuel + 1) listed a w :=
  wpAnyH_ready hr (by simp) (AllReadyH.cons ho (fun K hK => by rw [if_pos hw]; exact h K hK) AllReadyH.nil)

/-- One operation is passed over. -/
theorem sk (i : Nat) {P : Program} {ops : Array Oper} {Q : Exit → Act → World → Prop} {md : Region.Mode} {S : World → Prop} {d : Nat} {oi : Oper} {fuel : Nat} {listed : Array Bool} {a : Act} {w : World} {tm : Array Value}
    (hS : S w) (h : wpAnyH P md ops Q S fuel (listed.setIfInBounds i true) { tmps := tm, defers := a.defers } w)
    (hi : ops[i]? = some oi := by (simp only [List.getElem?_toArray, List.getElem?_cons_succ, List.getElem?_cons_zero]); rfl) (hs : Region.noSelect ops = true := by kernel_rfl) (hf : Region.free md ops listed i = true := by kernel_rfl) (hr : (Region.ready md ops listed).contains i = true := by kernel_rfl) (hd : oi.dst = some d := by rfl)
    (hQ : ∀ c a w, Q (.panic c) (a.put (some d) undef) w → Q (.panic c) a w := by exact fun _ _ _ h => h)
    (hw : Region.wanted oi (yielded ops a.tmps) = false := by rfl)
    (hput : a.tmps.setIfInBounds d undef = tm := by (simp only [Act.put, List.setIfInBounds_toArray, List.set_cons_succ, List.set_cons_zero]); rfl) : wpAnyH P md ops Q S (fuel + 1) listed a w := takeV hi hs hf hr hd hQ (Or.inr ⟨hw, rfl⟩) hS hput h

/-- One alone is ready, wanted or not; or two. -/
theorem rd0 (i : Nat) {P : Program} {ops : Array Oper} {Q : Exit → Act → World → Prop} {md : Region.Mode} {S : World → Prop} {o : Oper} {fuel : Nat} {listed : Array Bool} {a : Act} {w : World} (h : ∀ K' : Act → World → Prop, Shut (∀ a w, S w → (S w → wpAnyH P md ops Q S fuel (listed.setIfInBounds i true) a w) → K' a w) → if Region.wanted o (yielded ops a.tmps) = true then Oper.wp P o a w K' Q else K' (a.put o.dst undef) w)
    (ho : ops[i]? = some o := by (simp only [List.getElem?_toArray, List.getElem?_cons_succ, List.getElem?_cons_zero]); rfl) (hr : Region.ready md ops listed = [i] := by kernel_rfl) : wpAnyH P md ops Q S (fuel + 1) listed a w := wpAnyH_ready hr (by simp) (AllReadyH.cons ho h AllReadyH.nil)

theorem rd2 (i k : Nat) {P : Program} {ops : Array Oper} {Q : Exit → Act → World → Prop} {md : Region.Mode} {S : World → Prop} {o p : Oper} {fuel : Nat} {listed : Array Bool} {a : Act} {w : World} (h : ∀ K' : Act → World → Prop, Shut (∀ a w, S w → (S w → wpAnyH P md ops Q S fuel (listed.setIfInBounds i true) a w) → K' a w) → if Region.wanted o (yielded ops a.tmps) = true then Oper.wp P o a w K' Q else K' (a.put o.dst undef) w)
    (h' : ∀ K' : Act → World → Prop, Shut (∀ a w, S w → (S w → wpAnyH P md ops Q S fuel (listed.setIfInBounds k true) a w) → K' a w) → if Region.wanted p (yielded ops a.tmps) = true then Oper.wp P p a w K' Q else K' (a.put p.dst undef) w)
    (ho : ops[i]? = some o := by (simp only [List.getElem?_toArray, List.getElem?_cons_succ, List.getElem?_cons_zero]); rfl) (hp : ops[k]? = some p := by (simp only [List.getElem?_toArray, List.getElem?_cons_succ, List.getElem?_cons_zero]); rfl) (hr : Region.ready md ops listed = [i, k] := by kernel_rfl) : wpAnyH P md ops Q S (fuel + 1) listed a w := wpAnyH_ready hr (by simp) (AllReadyH.cons ho h (AllReadyH.cons hp h' AllReadyH.nil))

end Go.Proofs.YtcigljngiemdeaaGreat

namespace Go.Proofs.YtcigljngiemdeaaGreat
open Go.RowKit

set_option maxHeartbeats 2000000 in
theorem l3Ok_any (A : Option Addr) (n c : Nat) (xs : List At) (m : Nat) (w : World) (h : IsAtoms w 0 w.heap.size A n c xs) :
    Calls Tryz.prog 80 #[.slice A n c, .int .i64 (m : Int)] w (BoolPost (factsB m xs) w) := by
  have hn := h.len
  unfold maxLen at hn
  have L := Lib.hid h.1
  have H := Lib.hid h; clear h
  go_enter Tryz.func80, Tryz.ntmps80
  go_wp2
  go_loopw [5] (fun i wr => ∃ k : Nat, k ≤ n ∧ i = .int .i64 k ∧ (xs.take k).all factB = true ∧ risesB (xs.take k) = true ∧ Below w.heap.size w wr) (fun i _ => n - (intOf i).toNat)
  case atStart => exact ⟨0, Nat.zero_le _, rfl, rfl, rfl, Below.refl _ _⟩
  case round =>
    obtain ⟨k, hk, rfl, hd, hr, hb⟩ := hrel
    have HD := Lib.hid hd; have HR := Lib.hid hr; clear hd hr
    by_cases hlt : k < n
    · obtain ⟨p, q, hA, hlo, hhi, hg, hE⟩ := (H.out.below AtomE.stays hb (Nat.le_refl _)).at_ hlt
      obtain ⟨A', n', c', d1, d3, d4, d5⟩ := hE.out
      clear hE
      have HG := Lib.hid hg; clear hg
      have HT := Lib.hid (d5.keep (w' := wr.drew) (lo' := 0) (hi' := wr.drew.heap.size) (fun _ _ _ => rfl) (Nat.le_refl _) hb.size); clear d5
      have hbd := hb.drew
      have x1 : wr.drew.cell? (p.add (k * 2)) = some (.string q.1) := d1
      have x2 : wr.drew.cell? ⟨(p.add (k * 2)).block, (p.add (k * 2)).off + 1, none⟩ = some (.slice A' n' c') := d4
      cases hF : factB q
      · have hF' : factB (q.1, q.2) = false := hF
        have cG : Calls Tryz.prog 78 #[.agg #[.string q.1, .slice A' n' c']] wr.drew (BoolPost false wr.drew) := by
          have := l3Ground_any q.1 A' n' c' q.2 _ d3 HT.out
          rwa [hF'] at this
        subst hA
        have E := Lib.hid (factsB_no (m := m) HG.out hF); clear hF
        go_wp2_with fail
        refine wp_region_held_drew (S := fun W => W.cell? (p.add (k * 2)) = some (.string q.1) ∧ W.cell? ⟨(p.add (k * 2)).block, (p.add (k * 2)).off + 1, none⟩ = some (.slice A' n' c')) (by kernel_rfl) ⟨x1, x2⟩ ?_
        intro hS_
        refine tk 0 (.slice (some p) n c) hS_ ?_
        refine tk 1 (.int .i64 (k : Int)) hS_ ?_
        refine tk 2 (.pointer (some (p.add (k * 2)))) hS_ ?_
        refine tk 3 (.agg #[.string q.1, .slice A' n' c']) hS_ ?_
        refine rd1 4 fun K_ hK_ => ?_
        go_simp
        go_at_call 78
        refine (cG).mono ?_; rintro e w1 ⟨rfl, hb1⟩
        have y1 := (hb1.cell (p := p.add (k * 2)) (by rw [block_add]; exact Nat.lt_of_lt_of_le hhi hb.size)).trans d1
        have y2 := (hb1.cell (p := ⟨(p.add (k * 2)).block, (p.add (k * 2)).off + 1, none⟩) (by rw [block_add]; exact Nat.lt_of_lt_of_le hhi hb.size)).trans d4
        refine hK_.out _ _ ⟨y1, y2⟩ (fun hS2_ => ?_)
        clear hK_ hS_
        have hS_ := hS2_; clear hS2_
        refine tk 5 (.bool true) hS_ ?_
        refine tk 6 (.bool true) hS_ ?_
        refine sk 7 hS_ ?_
        refine sk 8 hS_ ?_
        refine sk 9 hS_ ?_
        refine sk 10 hS_ ?_
        refine sk 11 hS_ ?_
        refine sk 12 hS_ ?_
        refine sk 13 hS_ ?_
        refine sk 14 hS_ ?_
        refine sk 15 hS_ ?_
        refine sk 16 hS_ ?_
        refine sk 17 hS_ ?_
        refine sk 18 hS_ ?_
        refine sk 19 hS_ ?_
        refine sk 20 hS_ ?_
        refine sk 21 hS_ ?_
        refine tk 22 (.bool true) hS_ ?_
        refine wpAnyH_done (by kernel_rfl) ?_ _
        go_wp2
        go_ret; exact ⟨retB E.out.symm, belowThen hbd hb1⟩
      · have hF' : factB (q.1, q.2) = true := hF
        have cG : Calls Tryz.prog 78 #[.agg #[.string q.1, .slice A' n' c']] wr.drew (BoolPost true wr.drew) := by
          have := l3Ground_any q.1 A' n' c' q.2 _ d3 HT.out
          rwa [hF'] at this
        have EF := Lib.hid hF; clear hF
        by_cases hk0 : k = 0
        · have hki : ¬ (0 : Int) < (k : Int) := by omega
          have KK := Lib.hid hk0; clear hk0
          subst hA
          go_wp2_with fail
          refine wp_region_held_drew (S := fun W => W.cell? (p.add (k * 2)) = some (.string q.1) ∧ W.cell? ⟨(p.add (k * 2)).block, (p.add (k * 2)).off + 1, none⟩ = some (.slice A' n' c')) (by kernel_rfl) ⟨x1, x2⟩ ?_
          intro hS_
          refine tk 0 (.slice (some p) n c) hS_ ?_
          refine tk 1 (.int .i64 (k : Int)) hS_ ?_
          refine tk 2 (.pointer (some (p.add (k * 2)))) hS_ ?_
          refine tk 3 (.agg #[.string q.1, .slice A' n' c']) hS_ ?_
          refine rd1 4 fun K_ hK_ => ?_
          go_simp
          go_at_call 78
          refine (cG).mono ?_; rintro e w1 ⟨rfl, hb1⟩
          have y1 := (hb1.cell (p := p.add (k * 2)) (by rw [block_add]; exact Nat.lt_of_lt_of_le hhi hb.size)).trans d1
          have y2 := (hb1.cell (p := ⟨(p.add (k * 2)).block, (p.add (k * 2)).off + 1, none⟩) (by rw [block_add]; exact Nat.lt_of_lt_of_le hhi hb.size)).trans d4
          refine hK_.out _ _ ⟨y1, y2⟩ (fun hS2_ => ?_)
          clear hK_ hS_
          have hS_ := hS2_; clear hS2_
          refine tk 5 (.bool false) hS_ ?_
          refine tk 6 (.bool false) hS_ ?_
          refine tk 7 (.int .i64 (k : Int)) hS_ ?_
          refine tk 8 (.bool false) hS_ ?_ (hy := Or.inl ⟨by rfl, by intro w_ hSw_; (try dsimp only at hSw_); go_simp; exact KK.out⟩)
          refine tk 9 (.bool false) hS_ ?_
          refine sk 10 hS_ ?_
          refine sk 11 hS_ ?_
          refine sk 12 hS_ ?_
          refine sk 13 hS_ ?_
          refine sk 14 hS_ ?_
          refine sk 15 hS_ ?_
          refine sk 16 hS_ ?_
          refine sk 17 hS_ ?_
          refine sk 18 hS_ ?_
          refine sk 19 hS_ ?_
          refine sk 20 hS_ ?_
          refine tk 21 (.bool false) hS_ ?_
          refine tk 22 (.bool false) hS_ ?_
          refine wpAnyH_done (by kernel_rfl) ?_ _
          go_wp2
          go_roundw
          case rel => exact ⟨k + 1, by omega, by go_num, allB_snoc HG.out HD.out EF.out, rises_next HR.out KK.out, belowThen hbd hb1⟩
          case measure => simp [intOf]; omega
        · obtain ⟨j, hj⟩ : ∃ j, k = j + 1 := ⟨k - 1, by omega⟩
          have hjn : j < n := by omega
          have hki : (0 : Int) < (k : Int) := by omega
          have hsub : (k : Int) - 1 = (j : Int) := by omega
          have HJ := Lib.hid hj; clear hj hk0
          obtain ⟨p', q', hA', hlo', hhi', hg', hE'⟩ := (H.out.below AtomE.stays hb (Nat.le_refl _)).at_ hjn
          obtain ⟨A2, n2, c2, f1, f3, f4, f5⟩ := hE'.out
          clear hE'
          obtain rfl : p = p' := by rw [hA] at hA'; injection hA'
          clear hA'
          subst hA
          have HG' := Lib.hid hg'; clear hg'
          have HT' := Lib.hid (f5.keep (w' := wr.drew) (lo' := 0) (hi' := wr.drew.heap.size) (fun _ _ _ => rfl) (Nat.le_refl _) hb.size); clear f5
          have x3 : wr.drew.cell? (p.add (j * 2)) = some (.string q'.1) := f1
          have x4 : wr.drew.cell? ⟨(p.add (j * 2)).block, (p.add (j * 2)).off + 1, none⟩ = some (.slice A2 n2 c2) := f4
          by_cases hc : 0 ≤ atomCmp q' q
          · have hc' : 0 ≤ atomCmp (q'.1, q'.2) (q.1, q.2) := hc
            have E := Lib.hid (factsB_order (m := m) (a := q') (b := q) HG'.out (by rw [← HJ.out]; exact HG.out) hc); clear hc
            go_wp2_with fail
            refine wp_region_held_drew (S := fun W => (W.cell? (p.add (k * 2)) = some (.string q.1) ∧ W.cell? ⟨(p.add (k * 2)).block, (p.add (k * 2)).off + 1, none⟩ = some (.slice A' n' c')) ∧ W.cell? (p.add (j * 2)) = some (.string q'.1) ∧ W.cell? ⟨(p.add (j * 2)).block, (p.add (j * 2)).off + 1, none⟩ = some (.slice A2 n2 c2)) (by kernel_rfl) ⟨⟨x1, x2⟩, x3, x4⟩ ?_
            intro hS_
            refine tk 0 (.slice (some p) n c) hS_ ?_
            refine tk 1 (.int .i64 (k : Int)) hS_ ?_
            refine tk 2 (.pointer (some (p.add (k * 2)))) hS_ ?_
            refine tk 3 (.agg #[.string q.1, .slice A' n' c']) hS_ ?_
            refine rd1 4 fun K_ hK_ => ?_
            go_simp
            go_at_call 78
            refine (cG).mono ?_; rintro e w1 ⟨rfl, hb1⟩
            have y1 := (hb1.cell (p := p.add (k * 2)) (by rw [block_add]; exact Nat.lt_of_lt_of_le hhi hb.size)).trans d1
            have y2 := (hb1.cell (p := ⟨(p.add (k * 2)).block, (p.add (k * 2)).off + 1, none⟩) (by rw [block_add]; exact Nat.lt_of_lt_of_le hhi hb.size)).trans d4
            have y3 := (hb1.cell (p := p.add (j * 2)) (by rw [block_add]; exact Nat.lt_of_lt_of_le hhi hb.size)).trans f1
            have y4 := (hb1.cell (p := ⟨(p.add (j * 2)).block, (p.add (j * 2)).off + 1, none⟩) (by rw [block_add]; exact Nat.lt_of_lt_of_le hhi hb.size)).trans f4
            have u1 := HT.out.up hb1
            have u2 := HT'.out.up hb1
            refine hK_.out _ _ ⟨⟨y1, y2⟩, y3, y4⟩ (fun hS2_ => ?_)
            clear hK_ hS_
            have hS_ := hS2_; clear hS2_
            refine tk 5 (.bool false) hS_ ?_
            refine tk 6 (.bool false) hS_ ?_
            refine tk 7 (.int .i64 (k : Int)) hS_ ?_
            refine tk 8 (.bool true) hS_ ?_ (hy := Or.inl ⟨by rfl, by intro w_ hSw_; (try dsimp only at hSw_); go_simp; omega⟩)
            refine tk 9 (.bool true) hS_ ?_
            refine tk 10 (.slice (some p) n c) hS_ ?_
            refine tk 11 (.int .i64 (k : Int)) hS_ ?_
            refine tk 12 (.int .i64 (j : Int)) hS_ ?_ (hy := Or.inl ⟨by rfl, by intro w_ hSw_; (try dsimp only at hSw_); go_simp; (rw [IntKind.wrap_i64]; omega)⟩)
            refine tk 13 (.pointer (some (p.add (j * 2)))) hS_ ?_
            refine tk 14 (.agg #[.string q'.1, .slice A2 n2 c2]) hS_ ?_
            refine tk 15 (.slice (some p) n c) hS_ ?_
            refine tk 16 (.int .i64 (k : Int)) hS_ ?_
            refine tk 17 (.pointer (some (p.add (k * 2)))) hS_ ?_
            refine tk 18 (.agg #[.string q.1, .slice A' n' c']) hS_ ?_
            refine rd1 19 fun K_ hK_ => ?_
            go_simp
            go_at_call 123
            refine (l1Cmp_any q'.1 q.1 A2 A' n2 c2 n' c' q'.2 q.2 _ u2 u1).mono ?_; rintro e w2 ⟨rfl, hb2⟩
            have z1 := (hb2.cell (p := p.add (k * 2)) (by rw [block_add]; exact Nat.lt_of_lt_of_le hhi (Nat.le_trans hb.size hb1.size))).trans y1
            have z2 := (hb2.cell (p := ⟨(p.add (k * 2)).block, (p.add (k * 2)).off + 1, none⟩) (by rw [block_add]; exact Nat.lt_of_lt_of_le hhi (Nat.le_trans hb.size hb1.size))).trans y2
            have z3 := (hb2.cell (p := p.add (j * 2)) (by rw [block_add]; exact Nat.lt_of_lt_of_le hhi (Nat.le_trans hb.size hb1.size))).trans y3
            have z4 := (hb2.cell (p := ⟨(p.add (j * 2)).block, (p.add (j * 2)).off + 1, none⟩) (by rw [block_add]; exact Nat.lt_of_lt_of_le hhi (Nat.le_trans hb.size hb1.size))).trans y4
            refine hK_.out _ _ ⟨⟨z1, z2⟩, z3, z4⟩ (fun hS2_ => ?_)
            clear hK_ hS_
            have hS_ := hS2_; clear hS2_
            refine tk 20 (.bool true) hS_ ?_
            refine tk 21 (.bool true) hS_ ?_
            refine tk 22 (.bool true) hS_ ?_
            refine wpAnyH_done (by kernel_rfl) ?_ _
            go_wp2
            go_ret; exact ⟨retB E.out.symm, belowThen hbd (belowThen hb1 hb2)⟩
          · have hc' : ¬ 0 ≤ atomCmp (q'.1, q'.2) (q.1, q.2) := hc
            have E := Lib.hid (show risesB (xs.take (k + 1)) = true by
              have h1 := HG.out; have h2 := HR.out
              rw [HJ.out] at h1 h2 ⊢
              exact risesB_snoc (a := q') (b := q) HG'.out h1 h2 (by omega))
            clear hc
            go_wp2_with fail
            refine wp_region_held_drew (S := fun W => (W.cell? (p.add (k * 2)) = some (.string q.1) ∧ W.cell? ⟨(p.add (k * 2)).block, (p.add (k * 2)).off + 1, none⟩ = some (.slice A' n' c')) ∧ W.cell? (p.add (j * 2)) = some (.string q'.1) ∧ W.cell? ⟨(p.add (j * 2)).block, (p.add (j * 2)).off + 1, none⟩ = some (.slice A2 n2 c2)) (by kernel_rfl) ⟨⟨x1, x2⟩, x3, x4⟩ ?_
            intro hS_
            refine tk 0 (.slice (some p) n c) hS_ ?_
            refine tk 1 (.int .i64 (k : Int)) hS_ ?_
            refine tk 2 (.pointer (some (p.add (k * 2)))) hS_ ?_
            refine tk 3 (.agg #[.string q.1, .slice A' n' c']) hS_ ?_
            refine rd1 4 fun K_ hK_ => ?_
            go_simp
            go_at_call 78
            refine (cG).mono ?_; rintro e w1 ⟨rfl, hb1⟩
            have y1 := (hb1.cell (p := p.add (k * 2)) (by rw [block_add]; exact Nat.lt_of_lt_of_le hhi hb.size)).trans d1
            have y2 := (hb1.cell (p := ⟨(p.add (k * 2)).block, (p.add (k * 2)).off + 1, none⟩) (by rw [block_add]; exact Nat.lt_of_lt_of_le hhi hb.size)).trans d4
            have y3 := (hb1.cell (p := p.add (j * 2)) (by rw [block_add]; exact Nat.lt_of_lt_of_le hhi hb.size)).trans f1
            have y4 := (hb1.cell (p := ⟨(p.add (j * 2)).block, (p.add (j * 2)).off + 1, none⟩) (by rw [block_add]; exact Nat.lt_of_lt_of_le hhi hb.size)).trans f4
            have u1 := HT.out.up hb1
            have u2 := HT'.out.up hb1
            refine hK_.out _ _ ⟨⟨y1, y2⟩, y3, y4⟩ (fun hS2_ => ?_)
            clear hK_ hS_
            have hS_ := hS2_; clear hS2_
            refine tk 5 (.bool false) hS_ ?_
            refine tk 6 (.bool false) hS_ ?_
            refine tk 7 (.int .i64 (k : Int)) hS_ ?_
            refine tk 8 (.bool true) hS_ ?_ (hy := Or.inl ⟨by rfl, by intro w_ hSw_; (try dsimp only at hSw_); go_simp; omega⟩)
            refine tk 9 (.bool true) hS_ ?_
            refine tk 10 (.slice (some p) n c) hS_ ?_
            refine tk 11 (.int .i64 (k : Int)) hS_ ?_
            refine tk 12 (.int .i64 (j : Int)) hS_ ?_ (hy := Or.inl ⟨by rfl, by intro w_ hSw_; (try dsimp only at hSw_); go_simp; (rw [IntKind.wrap_i64]; omega)⟩)
            refine tk 13 (.pointer (some (p.add (j * 2)))) hS_ ?_
            refine tk 14 (.agg #[.string q'.1, .slice A2 n2 c2]) hS_ ?_
            refine tk 15 (.slice (some p) n c) hS_ ?_
            refine tk 16 (.int .i64 (k : Int)) hS_ ?_
            refine tk 17 (.pointer (some (p.add (k * 2)))) hS_ ?_
            refine tk 18 (.agg #[.string q.1, .slice A' n' c']) hS_ ?_
            refine rd1 19 fun K_ hK_ => ?_
            go_simp
            go_at_call 123
            refine (l1Cmp_any q'.1 q.1 A2 A' n2 c2 n' c' q'.2 q.2 _ u2 u1).mono ?_; rintro e w2 ⟨rfl, hb2⟩
            have z1 := (hb2.cell (p := p.add (k * 2)) (by rw [block_add]; exact Nat.lt_of_lt_of_le hhi (Nat.le_trans hb.size hb1.size))).trans y1
            have z2 := (hb2.cell (p := ⟨(p.add (k * 2)).block, (p.add (k * 2)).off + 1, none⟩) (by rw [block_add]; exact Nat.lt_of_lt_of_le hhi (Nat.le_trans hb.size hb1.size))).trans y2
            have z3 := (hb2.cell (p := p.add (j * 2)) (by rw [block_add]; exact Nat.lt_of_lt_of_le hhi (Nat.le_trans hb.size hb1.size))).trans y3
            have z4 := (hb2.cell (p := ⟨(p.add (j * 2)).block, (p.add (j * 2)).off + 1, none⟩) (by rw [block_add]; exact Nat.lt_of_lt_of_le hhi (Nat.le_trans hb.size hb1.size))).trans y4
            refine hK_.out _ _ ⟨⟨z1, z2⟩, z3, z4⟩ (fun hS2_ => ?_)
            clear hK_ hS_
            have hS_ := hS2_; clear hS2_
            refine tk 20 (.bool false) hS_ ?_
            refine tk 21 (.bool false) hS_ ?_
            refine tk 22 (.bool false) hS_ ?_
            refine wpAnyH_done (by kernel_rfl) ?_ _
            go_wp2
            go_roundw
            case rel => exact ⟨k + 1, by omega, by go_num, allB_snoc HG.out HD.out EF.out, E.out, belowThen hbd (belowThen hb1 hb2)⟩
            case measure => simp [intOf]; omega
    · have E := Lib.hid (factsB_end (m := m) L.out hlt HD.out HR.out)
      go_wp2
      go_ret; exact ⟨retB (by rw [E.out]), hb⟩

theorem specFactsOk_any (A : Option Addr) (n c : Nat) (xs : List At) (w : World) (h : IsAtoms w 0 w.heap.size A n c xs) :
    Calls Tryz.prog 33 #[.slice A n c] w (BoolPost (factsB 300 xs) w) := by
  have H := Lib.hid h; clear h
  go_enter Tryz.func33, Tryz.ntmps33
  go_wp2_with fail
  refine (l3Ok_any _ _ _ xs 300 _ H.out).mono ?_; rintro e w1 ⟨rfl, hb1⟩
  go_wp2
  go_ret; exact ⟨rfl, hb1⟩

end Go.Proofs.YtcigljngiemdeaaGreat

namespace Go.Proofs.YtcigljngiemdeaaGreat
open Go.RowKit Go.Shelf
attribute [local go_sem] Oper.semAt_some

theorem factB_not {nm : ByteArray} {ts : List Tm} (h : (!atomB (nm, ts)) = true) : factB (nm, ts) = false := by
  unfold factB
  rw [show atomB (nm, ts) = false by simpa using h, Bool.and_false]

theorem factB_vars {nm : ByteArray} {ts : List Tm} (h : (!atomB (nm, ts)) = false) (hv : varsOf ts = []) : factB (nm, ts) = true := by
  unfold factB
  rw [show atomB (nm, ts) = true by simpa using h, varsOf_none.2 hv]; rfl

theorem factB_some {nm : ByteArray} {ts : List Tm} (hv : varsOf ts ≠ []) : factB (nm, ts) = false := by
  unfold factB
  cases h : wordsB ts
  · rfl
  · exact absurd (varsOf_none.1 h) hv

set_option maxRecDepth 100000 in
set_option maxHeartbeats 2000000 in
theorem factOk_any (nm : ByteArray) (A : Option Addr) (n c : Nat) (ts : List Tm) (w : World) (hs : nm.size ≤ maxLen) (h : IsTerms w 0 w.heap.size A n c ts) :
    Calls Tryz.prog 75 #[.agg #[.string nm, .slice A n c]] w (BoolPost (factB (nm, ts)) w) := by
  have H := Lib.hid h; clear h
  have hw0 := below2 w (.cells #[.string nm, .slice A n c] 49) (.cells #[.bool false] 4)
  refine (callsIn_wide (n := 5)).1 ?_
  refine callsIn_of_wp_marks Tryz.func75 rfl trivial ?_ rfl
  simp only [Tryz.ntmps75, List.size_toArray, List.length_cons, List.length_nil, Nat.reduceAdd, Nat.reduceSub, Array.replicate_succ, Array.replicate_zero, List.push_toArray, List.append_toArray, List.nil_append, List.cons_append]
  gi_wp2_with (refine ⟨trivial, ?_⟩; gi_at_call 119; refine (callsIn_wide.2 (implAtomOk_any nm A n c ts _ hs (H.out.up hw0))).mono ?_; rintro e w1 ⟨rfl, hb1⟩; have HB1 := belowThen hw0 hb1; obtain ⟨hc, hf⟩ := oldCells hb1; have hz1 : w.heap.size + 1 < w1.heap.size := (by have := hb1.size; simp at this; omega); have hz0 : w.heap.size < w1.heap.size := (by omega))
  · have hd : (!atomB (nm, ts)) = true := by assumption
    have c1 : w1.cell? ⟨w.heap.size + 1, 0, none⟩ = some (.bool false) := by rw [hc _ _ (by simp)]; simp [go_sem]
    exact ⟨.bool false, by simp [results, Tryz.f75, go_sem, c1], by rw [factB_not hd], HB1.setCell (by simp) _⟩
  · have hd : (!atomB (nm, ts)) = false := by assumption
    have HD := Lib.hid hd
    refine ⟨trivial, (callsIn_wide.2 (variablesOf_any nm A n c w1)).mono ?_⟩
    rintro e w' ⟨rfl, rfl⟩
    have c1 : w1.cell? ⟨w.heap.size + 1, 0, none⟩ = some (.bool false) := by rw [hc _ _ (by simp)]; simp [go_sem]
    have f1 : w1.frozen? ⟨w.heap.size + 1, 0, none⟩ = false := by rw [hf _ _ (by simp)]; simp [go_sem]
    have hw2 := below1 w1 (.cells #[.string nm, .slice A n c] 49)
    have HB2 := belowThen HB1 hw2
    have c2 := (hw2.cell (p := ⟨w.heap.size + 1, 0, none⟩) hz1).trans c1
    have f2 := (hw2.frozen (p := ⟨w.heap.size + 1, 0, none⟩) hz1).trans f1
    have b2 : (w1.alloc (.cells #[.string nm, .slice A n c] 49)).cell? ⟨w1.heap.size, 1, none⟩ = some (.slice A n c) := by simp [go_sem]
    have T2 : IsTerms (w1.alloc (.cells #[.string nm, .slice A n c] 49)) 0 w.heap.size A n c ts := H.out.below HB2 (Nat.le_refl _)
    have hs2 : w.heap.size ≤ (w1.alloc (.cells #[.string nm, .slice A n c] 49)).heap.size := HB2.size
    have hl2 : w1.heap.size < (w1.alloc (.cells #[.string nm, .slice A n c] 49)).heap.size := by simp
    gi_wp2
    refine wpIn_rangeFunc_ownF rfl (by omega) (gf := 160) (lb := #[.pointer (some ⟨w1.heap.size, 0, none⟩)]) rfl trivial (enters_of Tryz.func160 (by kernel_rfl) rfl)
      (vars_stops (5 - 1) (by omega) w1.heap.size w.heap.size A n c ts _ hl2 hs2 b2 T2) belowK_t (belowK_b hs2) (Below.refl _ _) (fun _ => rfl)
      (fun pre W => (pre = [] ∧ W.cell? ⟨w.heap.size + 1, 0, none⟩ = some (.bool false) ∧ W.frozen? ⟨w.heap.size + 1, 0, none⟩ = false) ∧ Below w.heap.size w W)
      (fun c pre W => (c = .ret ∧ pre ≠ [] ∧ W.cell? ⟨w.heap.size + 1, 0, none⟩ = some (.bool false)) ∧ Below w.heap.size w W)
      (OwnFrom.and (Own.from (fun s A B row hs hg hr => ⟨hs.1, cell_kept hs.2.1 hg hr, (frozen_kept hs.2.1 hg hr).trans hs.2.2⟩) _) (ownFrom_below (Nat.le_refl _) hs2))
      (fun c => OwnFrom.and (Own.from (fun s A B row hs hg hr => ⟨hs.1, hs.2.1, cell_kept hs.2.2 hg hr⟩) _) (ownFrom_below (Nat.le_refl _) hs2))
      ⟨⟨rfl, c2, f2⟩, HB2⟩
      (fun x => { tmps := #[.agg #[.string nm, .slice A n c], .pointer (some ⟨w.heap.size, 0, none⟩), .pointer (some ⟨w.heap.size + 1, 0, none⟩), .agg #[.string nm, .slice A n c], .bool (atomB (nm, ts)), .bool false, .agg #[.string nm, .slice A n c], .func (.func 160) #[] #[.pointer (some ⟨w1.heap.size, 0, none⟩)], .string x], defers := [] }) ?assign ?body ?done ?stop
    case assign =>
      intro l x W K hK
      gi_wp2
      simpa using hK
    case body =>
      rintro l pre x W ⟨⟨_, hcr, hfr⟩, hB⟩ _
      gi_wp2
      exact ⟨KeepsOthers.setCell _ _ _, ⟨rfl, by simp, World.cell?_setCell_same' _ _ _ (by rw [hcr]; rfl)⟩, hB.setCell (p := ⟨w.heap.size + 1, 0, none⟩) (by simp) _⟩
    case done =>
      rintro D ys W hD rfl ⟨⟨hne, hcr, hfr⟩, hB⟩ hK
      gi_wp2
      have hK' := (KeepsOthers.setCell W ⟨w.heap.size + 1, 0, none⟩ (.bool true)).same D _ hK rfl
      refine ⟨by simp, .inl ⟨_, _, rfl, run_takeDeferred hK', ?_⟩⟩
      have hc5 := cell_kept (World.cell?_setCell_same' W ⟨w.heap.size + 1, 0, none⟩ (.bool true) (by rw [hcr]; rfl)) (grownBy_putObj' _ D (.deferred none)) (fun r e => by cases e; exact ⟨_, hK', rfl⟩)
      refine ⟨.bool true, ?_, by rw [factB_vars HD.out hne], (hB.setCell (p := ⟨w.heap.size + 1, 0, none⟩) (by simp) _).trans (belowK_b (w := w) (Nat.le_refl _) _ D _ _ (by omega) hK' rfl rfl)⟩
      simp [results, Tryz.f75, go_sem, hc5]
    case stop =>
      rintro D c pre W hD hpre ⟨⟨rfl, hne, hcr⟩, hB⟩ hK
      gi_wp2
      refine ⟨by simp, .inl ⟨_, _, rfl, run_takeDeferred hK, ?_⟩⟩
      have hc5 := cell_kept hcr (grownBy_putObj' _ D (.deferred none)) (fun r e => by cases e; exact ⟨_, hK, rfl⟩)
      refine ⟨.bool false, ?_, by rw [factB_some (fun e => by rw [e] at hpre; exact hne (List.prefix_nil.1 hpre))], hB.trans (belowK_b (w := w) (Nat.le_refl _) W D _ _ (by omega) hK rfl rfl)⟩
      simp [results, Tryz.f75, go_sem, hc5]

theorem run_store_func {P : Program} {w : World} {a : Addr} {m : Mode} (f : Fn) (c l : Array Value) : (store a (.func f c l) m).run P w = stored P w a (.func f c l) m := run_store P w a _ m rfl
attribute [local go_sem] run_store_func

/-- The program's own word for a list in order. -/
def listV (A : Option Addr) (n c : Nat) : Value := .agg #[.slice A n c, .func (.func 120) #[] #[]]

theorem factList_any (A : Option Addr) (n c : Nat) (w : World) :
    Calls Tryz.prog 76 #[.slice A n c] w fun e w' => e = .returned (listV A n c) ∧ Below w.heap.size w w' := by
  go_enter Tryz.func76, Tryz.ntmps76
  go_wp2
  exact bodyPost_ret (v := listV A n c) (by simp [results, Tryz.results76, go_sem, listV]) rfl ⟨rfl, below1 w _⟩

set_option maxHeartbeats 2000000 in
theorem isSorted_any (A : Option Addr) (n c : Nat) (xs : List At) (w : World) (h : IsAtoms w 0 w.heap.size A n c xs) :
    Calls Tryz.prog 88 #[listV A n c] w (BoolPost (risesB xs) w) := by
  have hn := h.len
  unfold maxLen at hn
  have L := Lib.hid h.1
  have H := Lib.hid h; clear h
  unfold listV
  have hw0 := below1 w (.cells #[.slice A n c, .func (.func 120) #[] #[]] 118)
  have X0 := Lib.hid (Box.new w (.slice A n c) (.func (.func 120) #[] #[]) 118)
  go_enter Tryz.func88, Tryz.ntmps88
  go_wp2
  go_loopw [3] (fun i wr => ∃ k : Nat, 1 ≤ k ∧ k ≤ n + 1 ∧ i = .int .i64 k ∧ risesB (xs.take k) = true ∧ Below (w.alloc (.cells #[.slice A n c, .func (.func 120) #[] #[]] 118)).heap.size (w.alloc (.cells #[.slice A n c, .func (.func 120) #[] #[]] 118)) wr) (fun i _ => n + 1 - (intOf i).toNat)
  case atStart => exact ⟨1, by omega, by omega, rfl, rises_next (xs := xs) rfl rfl, Below.refl _ _⟩
  case round =>
    obtain ⟨k, hk1, hk, rfl, hr, hb⟩ := hrel
    have HR := Lib.hid hr; clear hr
    have HB := belowThen hw0 hb
    have XB := X0.out.later hb
    by_cases hlt : k < n
    · obtain ⟨p, q, hA, hlo, hhi, hg, hE⟩ := (H.out.below AtomE.stays HB (Nat.le_refl _)).at_ hlt
      obtain ⟨A', n', c', d1, d3, d4, d5⟩ := hE.out
      clear hE
      obtain ⟨j, hj⟩ : ∃ j, k = j + 1 := ⟨k - 1, by omega⟩
      have hjn : j < n := by omega
      have hsub : (k : Int) - 1 = (j : Int) := by omega
      have hwj : IntKind.i64.wrap (j : Int) = (j : Int) := by rw [IntKind.wrap_i64]; omega
      have HJ := Lib.hid hj; clear hj
      obtain ⟨p', q', hA', hlo', hhi', hg', hE'⟩ := (H.out.below AtomE.stays HB (Nat.le_refl _)).at_ hjn
      obtain ⟨A2, n2, c2, f1, f3, f4, f5⟩ := hE'.out
      clear hE'
      obtain rfl : p = p' := by rw [hA] at hA'; injection hA'
      clear hA'
      subst hA
      obtain ⟨b0, b1, b2⟩ := XB
      have hsz := HB.size
      have HG := Lib.hid hg; have HG' := Lib.hid hg'; clear hg hg'
      have HT := Lib.hid (d5.keep (w' := wr.drew) (lo' := 0) (hi' := wr.drew.heap.size) (fun _ _ _ => rfl) (Nat.le_refl _) HB.size); clear d5
      have HT' := Lib.hid (f5.keep (w' := wr.drew) (lo' := 0) (hi' := wr.drew.heap.size) (fun _ _ _ => rfl) (Nat.le_refl _) HB.size); clear f5
      have hbd := hb.drew
      have e1 : wr.drew.cell? ⟨w.heap.size, 0, none⟩ = some (.slice (some p) n c) := b1
      have e2 : wr.drew.cell? ⟨w.heap.size, 1, none⟩ = some (.func (.func 120) #[] #[]) := b2
      have x1 : wr.drew.cell? (p.add (k * 2)) = some (.string q.1) := d1
      have x2 : wr.drew.cell? ⟨(p.add (k * 2)).block, (p.add (k * 2)).off + 1, none⟩ = some (.slice A' n' c') := d4
      have x3 : wr.drew.cell? (p.add (j * 2)) = some (.string q'.1) := f1
      have x4 : wr.drew.cell? ⟨(p.add (j * 2)).block, (p.add (j * 2)).off + 1, none⟩ = some (.slice A2 n2 c2) := f4
      go_wp2_with fail
      go_region_held3 (fun W => ((W.cell? ⟨w.heap.size, 0, none⟩ = some (.slice (some p) n c) ∧ W.cell? ⟨w.heap.size, 1, none⟩ = some (.func (.func 120) #[] #[])) ∧ W.cell? (p.add (k * 2)) = some (.string q.1) ∧ W.cell? ⟨(p.add (k * 2)).block, (p.add (k * 2)).off + 1, none⟩ = some (.slice A' n' c')) ∧ W.cell? (p.add (j * 2)) = some (.string q'.1) ∧ W.cell? ⟨(p.add (j * 2)).block, (p.add (j * 2)).off + 1, none⟩ = some (.slice A2 n2 c2))
        (first | (with_reducible exact ⟨⟨⟨y5, y6⟩, y1, y2⟩, y3, y4⟩) | (with_reducible exact ⟨⟨⟨e1, e2⟩, x1, x2⟩, x3, x4⟩) | (with_reducible exact ⟨⟨⟨b1, b2⟩, d1, d4⟩, f1, f4⟩))
        (((with_reducible refine (compareAtoms_any q'.1 q.1 A2 A' n2 c2 n' c' q'.2 q.2 _ HT'.out HT.out).mono ?_); rintro e w1 ⟨rfl, hb1⟩; have y1 := (hb1.cell (p := p.add (k * 2)) (by rw [block_add]; exact Nat.lt_of_lt_of_le hhi hsz)).trans d1; have y2 := (hb1.cell (p := ⟨(p.add (k * 2)).block, (p.add (k * 2)).off + 1, none⟩) (by rw [block_add]; exact Nat.lt_of_lt_of_le hhi hsz)).trans d4; have y3 := (hb1.cell (p := p.add (j * 2)) (by rw [block_add]; exact Nat.lt_of_lt_of_le hhi hsz)).trans f1; have y4 := (hb1.cell (p := ⟨(p.add (j * 2)).block, (p.add (j * 2)).off + 1, none⟩) (by rw [block_add]; exact Nat.lt_of_lt_of_le hhi hsz)).trans f4; have y5 := (hb1.cell (p := ⟨w.heap.size, 0, none⟩) b0).trans b1; have y6 := (hb1.cell (p := ⟨w.heap.size, 1, none⟩) b0).trans b2))
      all_goals
        clear y1 y2 y3 y4 y5 y6 x1 x2 x3 x4 e1 e2
        go_wp2
      all_goals first
        | (go_ret; exact ⟨retB (risesB_no (a := q') (b := q) HG'.out (by rw [← HJ.out]; exact HG.out) (Int.not_lt.2 (by assumption))).symm, belowThen hw0 (belowThen hbd hb1)⟩)
        | (go_roundw
           case rel => exact ⟨k + 1, by omega, by omega, by go_num, by
             have h1 := HG.out; have h2 := HR.out
             rw [HJ.out] at h1 h2 ⊢
             exact risesB_snoc (a := q') (b := q) HG'.out h1 h2 (by assumption), belowThen hbd hb1⟩
           case measure => simp [intOf]; omega)
    · have E := Lib.hid (show risesB xs = true by have := HR.out; rwa [List.take_of_length_le (by have := L.out; omega)] at this)
      obtain ⟨b0, b1, b2⟩ := XB
      go_wp2
      go_ret; exact ⟨retB E.out.symm, HB⟩

set_option maxHeartbeats 1000000 in
theorem implFactsOk_any (A : Option Addr) (n c : Nat) (xs : List At) (w : World) (h : IsAtoms w 0 w.heap.size A n c xs) :
    Calls Tryz.prog 41 #[.slice A n c] w (BoolPost (factsB 300 xs) w) := by
  have hn := h.len
  unfold maxLen at hn
  have L := Lib.hid h.1
  have H := Lib.hid h; clear h
  by_cases hlong : 300 < n
  · have hi : (300 : Int) < (n : Int) := by omega
    have E := Lib.hid (factsB_long (m := 300) (xs := xs) (by rw [L.out]; exact hlong))
    go_enter Tryz.func41, Tryz.ntmps41
    go_wp2
    go_ret; exact ⟨retB E.out.symm, Below.refl _ _⟩
  · have hi : ¬ (300 : Int) < (n : Int) := by omega
    go_enter Tryz.func41, Tryz.ntmps41
    go_wp2
    go_loopw [4, 10] (fun _ i wr => ∃ k : Nat, k ≤ n ∧ i = .int .i64 k ∧ (xs.take k).all factB = true ∧ Below w.heap.size w wr) (fun _ i _ => n - (intOf i).toNat)
    case atStart => exact ⟨0, Nat.zero_le _, rfl, rfl, Below.refl _ _⟩
    case round =>
      obtain ⟨k, hk, rfl, hd, hb⟩ := hrel
      have HD := Lib.hid hd; clear hd
      by_cases hlt : k < n
      · obtain ⟨p, q, hA, hlo, hhi, hg, hE⟩ := (H.out.below AtomE.stays hb (Nat.le_refl _)).at_ hlt
        obtain ⟨A', n', c', d1, d3, d4, d5⟩ := hE.out
        clear hE
        subst hA
        have HG := Lib.hid hg; clear hg
        have hb1 := below1 wr (.cells #[.string q.1, .slice A' n' c'] 49)
        have HT := Lib.hid ((d5.keep (lo' := 0) (hi' := wr.heap.size) (fun _ _ _ => rfl) (Nat.le_refl _) hb.size).up hb1); clear d5
        cases hF : factB q
        · have hF' : factB (q.1, q.2) = false := hF
          have E := Lib.hid (factsB_no (m := 300) HG.out hF); clear hF
          go_wp2_with fail
          refine (factOk_any _ _ _ _ q.2 _ d3 HT.out).mono ?_; rintro e w1 ⟨rfl, hb2⟩
          go_wp2
          go_ret; exact ⟨retB E.out.symm, belowThen hb (belowThen hb1 hb2)⟩
        · have hF' : factB (q.1, q.2) = true := hF
          have EF := Lib.hid hF; clear hF
          go_wp2_with fail
          refine (factOk_any _ _ _ _ q.2 _ d3 HT.out).mono ?_; rintro e w1 ⟨rfl, hb2⟩
          go_wp2
          go_roundw
          case rel => exact ⟨k + 1, by omega, by go_num, allB_snoc HG.out HD.out EF.out, belowThen hb (belowThen hb1 hb2)⟩
          case measure => simp [intOf]; omega
      · have E := Lib.hid (show factsB 300 xs = risesB xs by
          have h1 := HD.out; have h2 := L.out
          rw [List.take_of_length_le (by omega)] at h1
          unfold factsB
          rw [h1, Bool.true_and, decide_eq_true (by omega), Bool.and_true])
        go_wp2_with fail
        refine (factList_any _ _ _ _).mono ?_; rintro e w1 ⟨rfl, hb1⟩
        go_wp2_with fail
        refine (isSorted_any _ _ _ xs _ (H.out.up AtomE.stays (belowThen hb hb1))).mono ?_; rintro e w2 ⟨rfl, hb2⟩
        go_wp2
        go_ret; exact ⟨retB E.out.symm, belowThen (belowThen hb hb1) hb2⟩

end Go.Proofs.YtcigljngiemdeaaGreat
