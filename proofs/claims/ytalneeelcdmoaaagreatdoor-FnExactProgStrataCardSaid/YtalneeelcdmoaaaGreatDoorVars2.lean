/-
  The variables of an atom, as the program goes through them: each a text that a map may have as a key.
-/
import Derived.Test.YtalneeelcdmoaaaGreatDoorVars
namespace Go.Proofs.YtalneeelcdmoaaaGreatDoor
open Go.RowKit Go.Shelf
attribute [local go_sem] Oper.semAt_some

/-- A text that is none too long. -/
abbrev SmallT := { x : ByteArray // x.size ≤ maxLen }

set_option maxRecDepth 100000 in
set_option maxHeartbeats 2000000 in
theorem vars1S_in (n : Nat) (hn : 1 ≤ n) (l Bs n₀ : Nat) (A : Option Addr) (m c : Nat) (ts : List Tm) (J Jx : List SmallT → World → Prop) (W : World) (hJ : AbidesFrom W.heap.size J)
    (hY : ∀ pre x W1, J pre W1 → pre.length < m → YieldAt Fence.wide (n - 1) Tryz.prog l #[.string x.1] W1 fun e W' =>
      (e = .returned (.bool true) ∧ J (pre ++ [x]) W' ∧ Below n₀ W1 W') ∨ (e = .returned (.bool false) ∧ Jx (pre ++ [x]) W'))
    (hB : W.cell? ⟨Bs, 1, none⟩ = some (.slice A m c)) (hn0 : n₀ ≤ W.heap.size) (hT : IsTerms W 0 n₀ A m c ts) (h0 : J [] W) :
    CallsIn Fence.wide n Tryz.prog 137 #[.func (.yield l) #[] #[], .pointer (some ⟨Bs, 0, none⟩)] W fun e W' => (∃ v, e = .returned v) ∧
      ((∃ ys, ys.map (·.1) = varsOf ts ∧ J ys W') ∨ (∃ pre, pre.map (·.1) <+: varsOf ts ∧ Jx pre W')) := by
  have hm : m ≤ maxLen := by have := hT.2.1; have := hT.2.2.1; omega
  unfold maxLen at hm
  have HT := Lib.hid hT; clear hT
  have HY := Lib.hid hY; clear hY
  have HJ0 := Lib.hid hJ; clear hJ
  refine callsIn_of_wp Tryz.func137 rfl trivial ?_ rfl
  simp only [Tryz.ntmps137, List.size_toArray, List.length_cons, List.length_nil, Nat.reduceAdd, Nat.reduceSub, Array.replicate_succ, Array.replicate_zero, List.push_toArray, List.append_toArray, List.nil_append, List.cons_append]
  gi_wp2
  gi_loopw [10] (fun i wr => ∃ k : Nat, k ≤ m ∧ i = .int .i64 k ∧ (∃ ps : List SmallT, ps.map (·.1) = varsOf (ts.take k) ∧ J ps wr) ∧ Below n₀ W wr) (fun i _ => m - (intOf i).toNat)
  case atStart => exact ⟨0, Nat.zero_le _, rfl, ⟨[], rfl, h0⟩, Below.refl _ _⟩
  case round =>
    obtain ⟨k, hk, rfl, ⟨ps, hps, hJs⟩, hb⟩ := hrel
    have HPS := Lib.hid hps; clear hps
    have HJ := Lib.hid hJs; clear hJs
    by_cases hlt : k < m
    · obtain ⟨p, ⟨v, s⟩, hA, hlo, hhi, hg, c1, c2, c3⟩ := (HT.out.below hb (Nat.le_refl _)).at_ hlt
      subst hA
      have HG := Lib.hid hg; clear hg
      have hwr := hb.size
      have ta1 := assert_var s
      have ta2 := assert_word s
      have ta3 := assert_not s
      cases v
      · gi_wp2_with (refine ⟨trivial, ?_⟩; gi_at_call 135; refine (callsIn_wide.2 (termWord_any _ _)).mono ?_; rintro e w1 ⟨rfl, hb1⟩; have hbx := belowThen (below1 wr (.cells #[.bool false, .string s] 57)) hb1)
        go_roundw
        case rel => exact ⟨k + 1, by omega, by go_num, ⟨ps, by rw [varsOf_no HG.out rfl]; exact HPS.out, HJ0.out _ _ _ none HJ.out (grownOf hbx (Nat.le_refl _)) (fun r e => by cases e)⟩, hb.trans (hbx.mono (by omega))⟩
        case measure => simp [intOf]; omega
      · gi_wp2_with (refine ⟨trivial, ?_⟩; gi_at_call 135; refine (callsIn_wide.2 (termVar_any _ _)).mono ?_; rintro e w1 ⟨rfl, hb1⟩; have hbx := belowThen (below1 wr (.cells #[.bool true, .string s] 57)) hb1; obtain ⟨fn, tmps, assign, body, hy, hR⟩ := HY.out ps ⟨s, c3⟩ w1 (HJ0.out _ _ _ none HJ.out (grownOf hbx (Nat.le_refl _)) (fun r e => by cases e)) (by have h1 := congrArg List.length HPS.out; rw [List.length_map] at h1; have h2 := varsOf_len ts k; omega); dsimp only at hy hR)
        refine hR.mono ?_
        rintro e W3 (⟨rfl, hJ3, hk3⟩ | ⟨rfl, hJx3⟩)
        · gi_wp2
          go_roundw
          case rel => exact ⟨k + 1, by omega, by go_num, ⟨ps ++ [⟨s, c3⟩], by rw [varsOf_yes HG.out rfl, List.map_append, HPS.out]; rfl, hJ3⟩, (hb.trans (hbx.mono (by omega))).trans hk3⟩
          case measure => simp [intOf]; omega
        · gi_wp2
          refine bodyPost_ret (results_none rfl _ _ _) rfl ?_
          exact ⟨⟨_, rfl⟩, .inr ⟨ps ++ [⟨s, c3⟩], by rw [List.map_append, HPS.out]; show varsOf (ts.take k) ++ [s] <+: _; rw [← varsOf_yes (t := (true, s)) HG.out rfl]; exact varsOf_pre _ _, hJx3⟩⟩
    · have E := Lib.hid (varsOf_all HT.out.1 hlt)
      gi_wp2
      go_end0
      exact ⟨⟨_, rfl⟩, .inl ⟨ps, by rw [HPS.out, E.out], HJ.out⟩⟩

theorem varsS_stops (n : Nat) (hn : 1 ≤ n) (Bs n₀ : Nat) (A : Option Addr) (m c : Nat) (ts : List Tm) (w : World) (hBs : Bs < w.heap.size) (hn0 : n₀ ≤ w.heap.size) (hB : w.cell? ⟨Bs, 1, none⟩ = some (.slice A m c)) (hT : IsTerms w 0 n₀ A m c ts) :
    SeqStopsK Fence.wide n Tryz.prog 137 #[.pointer (some ⟨Bs, 0, none⟩)] (fun x : SmallT => #[Value.string x.1]) (Below n₀) (fun ys => ys.map (·.1) = varsOf ts) (fun pre => pre.map (·.1) <+: varsOf ts) m w := fun l J Jx W hW hJ _ hY h0 =>
  vars1S_in n hn l Bs n₀ A m c ts J Jx W hJ hY ((hW.cell (p := ⟨Bs, 1, none⟩) hBs).trans hB) (Nat.le_trans hn0 hW.size) (hT.below hW hn0) h0

end Go.Proofs.YtalneeelcdmoaaaGreatDoor
