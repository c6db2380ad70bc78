/-
  What the law's helpers tell of lists that hold nothing. (Written by tools/none.py.)
  A base of rules without facts, in the model and in the program; how the law holds two of them against each other, marks one and reads it again.
  How the law holds two bases, or servers, of rules alone against each other, marks one and reads it again; what the laws of BaseNew and ServeNew hold. (Written by tools/basenew.py.)
-/
import Derived.Test.YtnhbnhibphjljaaGreatDoorRulesS
import Derived.Test.YtnhbnhibphjljaaGreatDoorRMarks
import Derived.Test.YtnhbnhibphjljaaGreatDoorCheckImpl
import Derived.Test.YtnhbnhibphjljaaGreatDoorRulesOwn
namespace Go.Proofs.YtnhbnhibphjljaaGreatDoor
open Go.RowKit

theorem eqAtomS_none (w : World) : Calls Tryz.prog 48 #[.slice none 0 0, .slice none 0 0] w fun e w' => e = .returned (.bool true) ∧ w' = w := by
  go_enter Tryz.func48, Tryz.ntmps48
  go_wp2
  go_loop [5] (fun y => y = .int .i64 0) (fun _ => 0)
  case atStart => rfl
  case round =>
    obtain rfl := hrel
    go_wp2
    go_ret; exact ⟨rfl, rfl⟩

theorem markAtomS_none (z : Int) (w : World) : Calls Tryz.prog 82 #[.slice none 0 0, .int .i64 z] w fun e w' => e = .returned (.int .i64 z) ∧ w' = w := by
  go_enter Tryz.func82, Tryz.ntmps82
  go_wp2
  go_loop [1, 5] (fun x y => x = .int .i64 z ∧ y = .int .i64 0) (fun _ _ => 0)
  case atStart => exact ⟨rfl, rfl⟩
  case round =>
    obtain ⟨rfl, rfl⟩ := hrel
    go_wp2
    go_ret; exact ⟨rfl, rfl⟩

theorem heldAtomS_none (z : Int) (w : World) : Calls Tryz.prog 85 #[.slice none 0 0, .int .i64 z] w fun e w' => e = .returned (.int .i64 z) ∧ w' = w := by
  go_enter Tryz.func85, Tryz.ntmps85
  go_wp2
  go_loop [1, 5] (fun x y => x = .int .i64 z ∧ y = .int .i64 0) (fun _ _ => 0)
  case atStart => exact ⟨rfl, rfl⟩
  case round =>
    obtain ⟨rfl, rfl⟩ := hrel
    go_wp2
    go_ret; exact ⟨rfl, rfl⟩

theorem eqChangeS_none (w : World) : Calls Tryz.prog 81 #[.slice none 0 0, .slice none 0 0] w fun e w' => e = .returned (.bool true) ∧ w' = w := by
  go_enter Tryz.func81, Tryz.ntmps81
  go_wp2
  go_loop [5] (fun y => y = .int .i64 0) (fun _ => 0)
  case atStart => rfl
  case round =>
    obtain rfl := hrel
    go_wp2
    go_ret; exact ⟨rfl, rfl⟩

theorem markChangeS_none (z : Int) (w : World) : Calls Tryz.prog 83 #[.slice none 0 0, .int .i64 z] w fun e w' => e = .returned (.int .i64 z) ∧ w' = w := by
  go_enter Tryz.func83, Tryz.ntmps83
  go_wp2
  go_loop [1, 5] (fun x y => x = .int .i64 z ∧ y = .int .i64 0) (fun _ _ => 0)
  case atStart => exact ⟨rfl, rfl⟩
  case round =>
    obtain ⟨rfl, rfl⟩ := hrel
    go_wp2
    go_ret; exact ⟨rfl, rfl⟩

theorem heldChangeS_none (z : Int) (w : World) : Calls Tryz.prog 86 #[.slice none 0 0, .int .i64 z] w fun e w' => e = .returned (.int .i64 z) ∧ w' = w := by
  go_enter Tryz.func86, Tryz.ntmps86
  go_wp2
  go_loop [1, 5] (fun x y => x = .int .i64 z ∧ y = .int .i64 0) (fun _ _ => 0)
  case atStart => exact ⟨rfl, rfl⟩
  case round =>
    obtain ⟨rfl, rfl⟩ := hrel
    go_wp2
    go_ret; exact ⟨rfl, rfl⟩

theorem eqOpenS_none (w : World) : Calls Tryz.prog 87 #[.slice none 0 0, .slice none 0 0] w fun e w' => e = .returned (.bool true) ∧ w' = w := by
  go_enter Tryz.func87, Tryz.ntmps87
  go_wp2
  go_loop [5] (fun y => y = .int .i64 0) (fun _ => 0)
  case atStart => rfl
  case round =>
    obtain rfl := hrel
    go_wp2
    go_ret; exact ⟨rfl, rfl⟩

theorem markOpenS_none (z : Int) (w : World) : Calls Tryz.prog 89 #[.slice none 0 0, .int .i64 z] w fun e w' => e = .returned (.int .i64 z) ∧ w' = w := by
  go_enter Tryz.func89, Tryz.ntmps89
  go_wp2
  go_loop [1, 5] (fun x y => x = .int .i64 z ∧ y = .int .i64 0) (fun _ _ => 0)
  case atStart => exact ⟨rfl, rfl⟩
  case round =>
    obtain ⟨rfl, rfl⟩ := hrel
    go_wp2
    go_ret; exact ⟨rfl, rfl⟩

theorem heldOpenS_none (z : Int) (w : World) : Calls Tryz.prog 91 #[.slice none 0 0, .int .i64 z] w fun e w' => e = .returned (.int .i64 z) ∧ w' = w := by
  go_enter Tryz.func91, Tryz.ntmps91
  go_wp2
  go_loop [1, 5] (fun x y => x = .int .i64 z ∧ y = .int .i64 0) (fun _ _ => 0)
  case atStart => exact ⟨rfl, rfl⟩
  case round =>
    obtain ⟨rfl, rfl⟩ := hrel
    go_wp2
    go_ret; exact ⟨rfl, rfl⟩

theorem eqWatchS_none (w : World) : Calls Tryz.prog 88 #[.slice none 0 0, .slice none 0 0] w fun e w' => e = .returned (.bool true) ∧ w' = w := by
  go_enter Tryz.func88, Tryz.ntmps88
  go_wp2
  go_loop [5] (fun y => y = .int .i64 0) (fun _ => 0)
  case atStart => rfl
  case round =>
    obtain rfl := hrel
    go_wp2
    go_ret; exact ⟨rfl, rfl⟩

theorem markWatchS_none (z : Int) (w : World) : Calls Tryz.prog 90 #[.slice none 0 0, .int .i64 z] w fun e w' => e = .returned (.int .i64 z) ∧ w' = w := by
  go_enter Tryz.func90, Tryz.ntmps90
  go_wp2
  go_loop [1, 5] (fun x y => x = .int .i64 z ∧ y = .int .i64 0) (fun _ _ => 0)
  case atStart => exact ⟨rfl, rfl⟩
  case round =>
    obtain ⟨rfl, rfl⟩ := hrel
    go_wp2
    go_ret; exact ⟨rfl, rfl⟩

theorem heldWatchS_none (z : Int) (w : World) : Calls Tryz.prog 92 #[.slice none 0 0, .int .i64 z] w fun e w' => e = .returned (.int .i64 z) ∧ w' = w := by
  go_enter Tryz.func92, Tryz.ntmps92
  go_wp2
  go_loop [1, 5] (fun x y => x = .int .i64 z ∧ y = .int .i64 0) (fun _ _ => 0)
  case atStart => exact ⟨rfl, rfl⟩
  case round =>
    obtain ⟨rfl, rfl⟩ := hrel
    go_wp2
    go_ret; exact ⟨rfl, rfl⟩

end Go.Proofs.YtnhbnhibphjljaaGreatDoor

namespace Go.Proofs.YtnhbnhibphjljaaGreatDoor
open Go.RowKit

/-- The rules of a base: those that came in, if they are fine. -/
def baseB (xs : List Rl) : List Rl := if progB xs = 0 then xs else []

/-- The cells of a base of rules alone. -/
def bcells (A : Option Addr) (n c : Nat) : Array Value := #[.slice A n c, .int .i64 0, .slice none 0 0, .slice none 0 0]

/-- A base was told whose rules are the call's own. -/
def BasePost (xs : List Rl) (w : World) (e : Ending) (w' : World) : Prop :=
  ∃ A n c rs, e = .returned (.agg #[.slice A n c, .int .i64 0, .slice none 0 0, .slice none 0 0]) ∧ RulesApart w' w.heap.size w'.heap.size A n c rs ∧ rs.map rRl = baseB xs ∧ Below w.heap.size w w'

theorem fine_small {xs : List Rl} (h : progB xs = 0) : xs.length ≤ 1048576 ∧ ∀ r ∈ xs, SmallRule r.1.2.length r.2.length r.2 := by
  obtain ⟨h1, h2⟩ := prog_fine h
  refine ⟨by omega, fun r hr => ?_⟩
  obtain ⟨a, b, c⟩ := ruleB_parts (List.all_eq_true.1 h1 r hr)
  refine ⟨?_, by omega, fun q hq => ?_⟩
  · unfold atomB at b; simp only [Bool.and_eq_true, decide_eq_true_eq] at b; omega
  · unfold bodyB at a
    have := List.all_eq_true.1 a q hq
    unfold atomB at this; simp only [Bool.and_eq_true, decide_eq_true_eq] at this; omega

theorem RulesIn.lower {w : World} {hi : Nat} : ∀ {rs : List Rr} {lo lo' : Nat}, RulesIn w lo hi rs → lo' ≤ lo → RulesIn w lo' hi rs
  | [], _, _, h, hh => Nat.le_trans hh h
  | _ :: _, _, _, ⟨m, h1, h2, h3, h4⟩, hh => ⟨m, Nat.le_trans hh h1, h2, h3.keep (fun _ _ _ => rfl) hh (Nat.le_refl _), h4⟩

theorem RulesApart.keep {w w' : World} {lo hi lo' hi' n c : Nat} {A : Option Addr} {rs : List Rr} (h : RulesApart w lo hi A n c rs) (hk : ∀ b, lo ≤ b → b < hi → w'.heap[b]? = w.heap[b]?) (h1 : lo' ≤ lo) (h2 : hi ≤ hi') : RulesApart w' lo' hi' A n c rs := by
  obtain ⟨a, b, d, e, f⟩ := h
  refine ⟨a, b, d, fun hn => ?_, ((f.keep hk).wide h2).lower h1⟩
  obtain ⟨g, k, f', e1, e2, e3, e4, e5, e6⟩ := e hn
  exact ⟨g, k, f', e1, by omega, by omega, e4.of_block (hk g e2 e3), e5, e6⟩

theorem rules_set4 {w : World} {b lo lo' n c : Nat} {A : Option Addr} {rs : List Rr} {u0 u1 u2 u3 : Value} (h : RulesApart w lo w.heap.size A n c rs) (hb : b < lo) (hl : lo' ≤ lo) :
    RulesApart ((((w.setCell ⟨b, 0, none⟩ u0).setCell ⟨b, 1, none⟩ u1).setCell ⟨b, 2, none⟩ u2).setCell ⟨b, 3, none⟩ u3) lo' ((((w.setCell ⟨b, 0, none⟩ u0).setCell ⟨b, 1, none⟩ u1).setCell ⟨b, 2, none⟩ u2).setCell ⟨b, 3, none⟩ u3).heap.size A n c rs := by
  refine h.keep (fun x hx _ => ?_) hl (by simp only [size_setCell]; exact Nat.le_refl _)
  rw [Below.heap_setCell _ _ _ x (by show x ≠ b; omega), Below.heap_setCell _ _ _ x (by show x ≠ b; omega), Below.heap_setCell _ _ _ x (by show x ≠ b; omega), Below.heap_setCell _ _ _ x (by show x ≠ b; omega)]

theorem none_apart {w : World} {lo hi : Nat} (h : lo ≤ hi) : RulesApart w lo hi none 0 0 [] :=
  ⟨rfl, Nat.le_refl _, Nat.zero_le _, fun h0 => absurd h0 (Nat.lt_irrefl _), h⟩

/-- How high the marks of a base's rules go. -/
theorem base_few {w : World} {lo hi n c : Nat} {A : Option Addr} {rs : List Rr} {xs : List Rl} (h : RulesApart w lo hi A n c rs) (hr : rs.map rRl = baseB xs) : markRlsN 1 rs ≤ 2 ^ 62 := by
  have key : rs.length ≤ 8 ∧ ∀ r ∈ rs, rN r.1 ≤ 3 ∧ r.2.2.2.2.length ≤ 4 ∧ ∀ p ∈ r.2.2.2.2, rN p.2 ≤ 3 := by
    unfold baseB at hr
    by_cases h0 : progB xs = 0
    · rw [if_pos h0] at hr
      obtain ⟨h1, h2⟩ := prog_fine h0
      refine ⟨by rw [← hr, List.length_map] at h2; exact h2, fun r hm => ?_⟩
      obtain ⟨lo', hi', _, _, _, _, _, _, _, _, _, _, _, _, _, z8, z9⟩ := h.2.2.2.2.each r hm
      have hx : rRl r ∈ xs := by rw [← hr]; exact List.mem_map_of_mem hm
      obtain ⟨a, b, c⟩ := ruleB_parts (List.all_eq_true.1 h1 _ hx)
      have b' : r.1.2.2.2.2.length ≤ 3 := by unfold atomB at b; simp only [Bool.and_eq_true, decide_eq_true_eq] at b; exact b.2.2
      refine ⟨by have := z8.2.1.1; unfold rN; omega, by have : (r.2.2.2.2.map pAt).length ≤ 4 := c; rwa [List.length_map] at this, fun p hp => ?_⟩
      have := List.all_eq_true.1 (show (r.2.2.2.2.map pAt).all (fun q => atomB q.2) = true from a) (pAt p) (List.mem_map_of_mem hp)
      unfold atomB at this; simp only [Bool.and_eq_true, decide_eq_true_eq] at this
      have h3 : p.2.2.2.2.2.length ≤ 3 := this.2.2
      have h4 := (z9.2.2.2.2.1 p.2 (List.mem_map_of_mem hp)).2.1.1
      unfold rN; omega
    · rw [if_neg h0] at hr
      have : rs = [] := by simpa using hr
      subst this
      exact ⟨by simp, fun r hr => by simp at hr⟩
  have := markRlsN_le 3 4 1 rs key.2
  omega

set_option maxRecDepth 100000 in
set_option maxHeartbeats 4000000 in
theorem specBaseNew_any (A : Option Addr) (n c : Nat) (xs : List Rl) (w : World) (h : IsRules w 0 w.heap.size A n c xs) :
    Calls Tryz.prog 34 #[.slice A n c] w (BasePost xs w) := by
  have HL := Lib.hid h.1
  have hb0 := below1 w (.cells #[.slice none 0 0, .int .i64 0, .slice none 0 0, .slice none 0 0] 44)
  have X0 := Blk.new w 44 #[.slice none 0 0, .int .i64 0, .slice none 0 0, .slice none 0 0]
  have HX0 := Lib.hid X0; have HB0 := Lib.hid hb0; have H := Lib.hid (h.up RuleE.stays hb0)
  have hz0 : (w.alloc (.cells #[.slice none 0 0, .int .i64 0, .slice none 0 0, .slice none 0 0] 44)).heap.size = w.heap.size + 1 := by simp
  clear h X0 hb0
  go_enter Tryz.func34, Tryz.ntmps34
  go_wp2_with fail
  refine (specProgCheck_any A n c xs _ H.out).mono ?_; rintro e w1 ⟨rfl, hb1⟩
  obtain ⟨k, hk⟩ : ∃ k, progB xs = k := ⟨_, rfl⟩
  rw [hk]
  have HX1 := Lib.hid (HX0.out.below hb1); have HB1 := Lib.hid (belowThen HB0.out hb1); have H1 := Lib.hid (H.out.up RuleE.stays hb1)
  have hz1 := hb1.size
  rw [hz0] at hz1
  clear hb1
  by_cases h0 : k = 0
  · have hI : (k : Int) = 0 := by omega
    have HF := Lib.hid (hk.trans h0)
    obtain ⟨hs1, hs2⟩ := fine_small HF.out
    have HS2 := Lib.hid hs2
    clear hk h0 hs2
    go_wp2_with fail
    refine (l7Rules_any A n c xs _ H1.out (by rw [← HL.out]; exact hs1) HS2.out).mono ?_; rintro e w2 ⟨A2, c2, rs, rfl, hO, hm, hb2⟩
    have HX2 := Lib.hid (HX1.out.below hb2); have HB2 := Lib.hid (belowThen HB1.out hb2)
    have HO := Lib.hid hO; have HM := Lib.hid hm
    have hz2 := hb2.size
    clear hO hm hb2
    have r0 := HX2.out.cell 0; have r1 := HX2.out.cell 1; have r2 := HX2.out.cell 2; have r3 := HX2.out.cell 3
    have f0 := HX2.out.frozen 0; have f1 := HX2.out.frozen 1; have f2 := HX2.out.frozen 2; have f3 := HX2.out.frozen 3
    have hzz := HX2.out.lt
    go_wp2
    have Z := (((HX2.out.set 0 (.slice A2 xs.length c2)).set 1 (.int .i64 0)).set 2 (.slice none 0 0)).set 3 (.slice none 0 0)
    have z0 := Z.cell 0; have z1 := Z.cell 1; have z2 := Z.cell 2; have z3 := Z.cell 3
    refine bodyPost_ret (v := .agg #[.slice A2 xs.length c2, .int .i64 0, .slice none 0 0, .slice none 0 0]) (by simp [results, Tryz.results34, go_sem, r0, r1, r2, r3]) rfl ⟨A2, xs.length, c2, rs, rfl, ?_, by unfold baseB; rw [if_pos HF.out]; exact HM.out, (((HB2.out.setCell (by simp) _).setCell (by simp) _).setCell (by simp) _).setCell (by simp) _⟩
    exact rules_set4 HO.out (by omega) (by omega)
  · have hI : ¬ (k : Int) = 0 := by omega
    have HK := Lib.hid (show ¬ progB xs = 0 by rw [hk]; exact h0)
    clear hk h0
    have r0 := HX1.out.cell 0; have r1 := HX1.out.cell 1; have r2 := HX1.out.cell 2; have r3 := HX1.out.cell 3
    have f0 := HX1.out.frozen 0; have f1 := HX1.out.frozen 1; have f2 := HX1.out.frozen 2; have f3 := HX1.out.frozen 3
    have hzz := HX1.out.lt
    go_wp2
    have Z := (((HX1.out.set 0 (.slice none 0 0)).set 1 (.int .i64 0)).set 2 (.slice none 0 0)).set 3 (.slice none 0 0)
    have z0 := Z.cell 0; have z1 := Z.cell 1; have z2 := Z.cell 2; have z3 := Z.cell 3
    refine bodyPost_ret (v := .agg #[.slice none 0 0, .int .i64 0, .slice none 0 0, .slice none 0 0]) (by simp [results, Tryz.results34, go_sem, r0, r1, r2, r3]) rfl ⟨none, 0, 0, [], rfl, none_apart (by simp only [size_setCell]; omega), by unfold baseB; rw [if_neg HK.out]; rfl, (((HB1.out.setCell (by simp) _).setCell (by simp) _).setCell (by simp) _).setCell (by simp) _⟩

set_option maxRecDepth 100000 in
set_option maxHeartbeats 4000000 in
theorem implBaseNew_any (A : Option Addr) (n c : Nat) (xs : List Rl) (w : World) (h : IsRules w 0 w.heap.size A n c xs) (hk : ErrKind w) :
    Calls Tryz.prog 35 #[.slice A n c] w (BasePost xs w) := by
  have HL := Lib.hid h.1
  have hb0 := below1 w (.cells #[.slice none 0 0, .int .i64 0, .slice none 0 0, .slice none 0 0] 44)
  have X0 := Blk.new w 44 #[.slice none 0 0, .int .i64 0, .slice none 0 0, .slice none 0 0]
  have HKE := Lib.hid (hk.later hb0); clear hk
  have HX0 := Lib.hid X0; have HB0 := Lib.hid hb0; have H := Lib.hid (h.up RuleE.stays hb0)
  have hz0 : (w.alloc (.cells #[.slice none 0 0, .int .i64 0, .slice none 0 0, .slice none 0 0] 44)).heap.size = w.heap.size + 1 := by simp
  clear h X0 hb0
  go_enter Tryz.func35, Tryz.ntmps35
  go_wp2_with fail
  refine (implProgCheck_any A n c xs _ H.out HKE.out).mono ?_; rintro e w1 ⟨rfl, hb1⟩
  obtain ⟨k, hk⟩ : ∃ k, progB xs = k := ⟨_, rfl⟩
  rw [hk]
  have HX1 := Lib.hid (HX0.out.below hb1); have HB1 := Lib.hid (belowThen HB0.out hb1); have H1 := Lib.hid (H.out.up RuleE.stays hb1)
  have hz1 := hb1.size
  rw [hz0] at hz1
  clear hb1
  by_cases h0 : k = 0
  · have hI : (k : Int) = 0 := by omega
    have HF := Lib.hid (hk.trans h0)
    obtain ⟨hs1, hs2⟩ := fine_small HF.out
    have HS2 := Lib.hid hs2
    clear hk h0 hs2
    go_wp2_with fail
    refine (copyRules_any A n c xs _ H1.out (by rw [← HL.out]; exact hs1) HS2.out).mono ?_; rintro e w2 ⟨A2, c2, rs, rfl, hO, hm, hb2⟩
    have HX2 := Lib.hid (HX1.out.below hb2); have HB2 := Lib.hid (belowThen HB1.out hb2)
    have HO := Lib.hid hO; have HM := Lib.hid hm
    have hz2 := hb2.size
    clear hO hm hb2
    have r0 := HX2.out.cell 0; have r1 := HX2.out.cell 1; have r2 := HX2.out.cell 2; have r3 := HX2.out.cell 3
    have f0 := HX2.out.frozen 0; have f1 := HX2.out.frozen 1; have f2 := HX2.out.frozen 2; have f3 := HX2.out.frozen 3
    have hzz := HX2.out.lt
    go_wp2
    have Z := (((HX2.out.set 0 (.slice A2 xs.length c2)).set 1 (.int .i64 0)).set 2 (.slice none 0 0)).set 3 (.slice none 0 0)
    have z0 := Z.cell 0; have z1 := Z.cell 1; have z2 := Z.cell 2; have z3 := Z.cell 3
    refine bodyPost_ret (v := .agg #[.slice A2 xs.length c2, .int .i64 0, .slice none 0 0, .slice none 0 0]) (by simp [results, Tryz.results35, go_sem, r0, r1, r2, r3]) rfl ⟨A2, xs.length, c2, rs, rfl, ?_, by unfold baseB; rw [if_pos HF.out]; exact HM.out, (((HB2.out.setCell (by simp) _).setCell (by simp) _).setCell (by simp) _).setCell (by simp) _⟩
    exact rules_set4 HO.out (by omega) (by omega)
  · have hI : ¬ (k : Int) = 0 := by omega
    have HK := Lib.hid (show ¬ progB xs = 0 by rw [hk]; exact h0)
    clear hk h0
    have r0 := HX1.out.cell 0; have r1 := HX1.out.cell 1; have r2 := HX1.out.cell 2; have r3 := HX1.out.cell 3
    have f0 := HX1.out.frozen 0; have f1 := HX1.out.frozen 1; have f2 := HX1.out.frozen 2; have f3 := HX1.out.frozen 3
    have hzz := HX1.out.lt
    go_wp2
    have Z := (((HX1.out.set 0 (.slice none 0 0)).set 1 (.int .i64 0)).set 2 (.slice none 0 0)).set 3 (.slice none 0 0)
    have z0 := Z.cell 0; have z1 := Z.cell 1; have z2 := Z.cell 2; have z3 := Z.cell 3
    refine bodyPost_ret (v := .agg #[.slice none 0 0, .int .i64 0, .slice none 0 0, .slice none 0 0]) (by simp [results, Tryz.results35, go_sem, r0, r1, r2, r3]) rfl ⟨none, 0, 0, [], rfl, none_apart (by simp only [size_setCell]; omega), by unfold baseB; rw [if_neg HK.out]; rfl, (((HB1.out.setCell (by simp) _).setCell (by simp) _).setCell (by simp) _).setCell (by simp) _⟩

end Go.Proofs.YtnhbnhibphjljaaGreatDoor

namespace Go.Proofs.YtnhbnhibphjljaaGreatDoor
open Go.RowKit

theorem lowRulesB {w : World} {lo hi n c : Nat} {A : Option Addr} {xs : List Rl} (h : IsRules w lo hi A n c xs) (hh : hi ≤ w.heap.size) : IsRules w 0 w.heap.size A n c xs := h.keep RuleE.stays (fun _ _ _ => rfl) (Nat.zero_le _) hh

theorem base_same {w : World} {n c : Nat} {A : Option Addr} {xs : List Rl} {rs : List Rr} (h : IsRules w 0 w.heap.size A n c (rs.map rRl)) (hr : rs.map rRl = baseB xs) : IsRules w 0 w.heap.size A n c (baseB xs) := hr ▸ h

set_option maxRecDepth 100000 in
set_option maxHeartbeats 4000000 in
theorem eqBase_same (A B : Option Addr) (n c n' c' : Nat) (xs : List Rl) (w : World) (h : IsRules w 0 w.heap.size A n c xs) (h' : IsRules w 0 w.heap.size B n' c' xs) :
    Calls Tryz.prog 36 #[.agg #[.slice A n c, .int .i64 0, .slice none 0 0, .slice none 0 0], .agg #[.slice B n' c', .int .i64 0, .slice none 0 0, .slice none 0 0]] w (BoolPost true w) := by
  have hb0 := below2 w (.cells #[.slice A n c, .int .i64 0, .slice none 0 0, .slice none 0 0] 44) (.cells #[.slice B n' c', .int .i64 0, .slice none 0 0, .slice none 0 0] 44)
  have X1 := (Blk.new w 44 #[.slice A n c, .int .i64 0, .slice none 0 0, .slice none 0 0]).alloc (.cells #[.slice B n' c', .int .i64 0, .slice none 0 0, .slice none 0 0] 44)
  have X2 := Blk.made (w.alloc (.cells #[.slice A n c, .int .i64 0, .slice none 0 0, .slice none 0 0] 44)) (b := w.heap.size + 1) 44 #[.slice B n' c', .int .i64 0, .slice none 0 0, .slice none 0 0] (by simp)
  have HX1 := Lib.hid X1; have HX2 := Lib.hid X2; have HB0 := Lib.hid hb0
  have H1 := Lib.hid (h.up RuleE.stays hb0); have H2 := Lib.hid (h'.up RuleE.stays hb0)
  have x0 := X1.cell 0; have y0 := X2.cell 0
  have x1 := X1.cell 1; have y1 := X2.cell 1
  have x2 := X1.cell 2; have y2 := X2.cell 2
  have x3 := X1.cell 3; have y3 := X2.cell 3
  clear h h' hb0 X1 X2
  go_enter Tryz.func36, Tryz.ntmps36
  go_wp2_with fail
  refine (eqRuleS_any A B n c n' c' xs xs _ H1.out H2.out).mono ?_; rintro e w1 ⟨rfl, hb1⟩
  rw [listEq_refl ruleEq_refl]
  have HX3 := Lib.hid (HX1.out.below hb1); have HX4 := Lib.hid (HX2.out.below hb1); have HB1 := belowThen HB0.out hb1
  clear hb1 x0 x1 x2 x3 y0 y1 y2 y3
  have x1 := HX3.out.cell 1; have y1 := HX4.out.cell 1
  have x2 := HX3.out.cell 2; have y2 := HX4.out.cell 2
  have x3 := HX3.out.cell 3; have y3 := HX4.out.cell 3
  go_wp2_with fail
  refine (eqAtomS_none _).mono ?_; rintro e w_ ⟨rfl, rfl⟩
  go_wp2_with fail
  refine (eqChangeS_none _).mono ?_; rintro e w_ ⟨rfl, rfl⟩
  go_wp2
  go_ret; exact ⟨rfl, HB1⟩

set_option maxRecDepth 100000 in
set_option maxHeartbeats 4000000 in
theorem markBase_own (lo hi : Nat) (A : Option Addr) (n c k : Nat) (rs : List Rr) (w : World) (h : RulesApart w lo hi A n c rs) (hh : hi ≤ w.heap.size) (hk : markRlsN k rs ≤ 2 ^ 62) :
    Calls Tryz.prog 37 #[.agg #[.slice A n c, .int .i64 0, .slice none 0 0, .slice none 0 0], .int .i64 (k : Int)] w fun e w' => e = .returned (.int .i64 ((markRlsN k rs : Nat) : Int)) ∧ RulesApart w' lo hi A n c (markRls k rs) ∧ Within lo hi w w' := by
  have hb0 := below1 w (.cells #[.slice A n c, .int .i64 0, .slice none 0 0, .slice none 0 0] 44)
  have X1 := Blk.new w 44 #[.slice A n c, .int .i64 0, .slice none 0 0, .slice none 0 0]
  have HX1 := Lib.hid X1; have HB0 := Lib.hid hb0
  have H1 := Lib.hid (h.keep (w' := w.alloc (.cells #[.slice A n c, .int .i64 0, .slice none 0 0, .slice none 0 0] 44)) (lo' := lo) (hi' := hi) (fun b _ h2 => hb0.block b (by omega)) (Nat.le_refl _) (Nat.le_refl _))
  have x0 := X1.cell 0
  have x1 := X1.cell 1
  have x2 := X1.cell 2
  have x3 := X1.cell 3
  clear h hb0 X1
  go_enter Tryz.func37, Tryz.ntmps37
  go_wp2_with fail
  refine (markRuleS_own lo hi A n c k rs _ H1.out (by simp; omega) hk).mono ?_; rintro e w1 ⟨rfl, hO, hw1⟩
  have HO := Lib.hid hO
  have HW := (Within.of (lo := lo) (hi := hi) HB0.out).trans hw1
  have HX2 : Blk w1 w.heap.size 44 #[.slice A n c, .int .i64 0, .slice none 0 0, .slice none 0 0] := (hw1.block w.heap.size (by simp) (.inr hh)).trans HX1.out
  clear hO hw1 x0 x1 x2 x3
  have x1 := HX2.cell 1
  have x2 := HX2.cell 2
  have x3 := HX2.cell 3
  go_wp2_with fail
  refine (markAtomS_none _ _).mono ?_; rintro e w_ ⟨rfl, rfl⟩
  go_wp2_with fail
  refine (markChangeS_none _ _).mono ?_; rintro e w_ ⟨rfl, rfl⟩
  go_wp2
  go_ret; exact ⟨rfl, HO.out, HW⟩

set_option maxRecDepth 100000 in
set_option maxHeartbeats 4000000 in
theorem heldBase_any (A : Option Addr) (n c k : Nat) (rs : List Rr) (w : World) (h : IsRules w 0 w.heap.size A n c ((markRls k rs).map rRl)) (hk : markRlsN k rs ≤ 2 ^ 62) :
    Calls Tryz.prog 38 #[.agg #[.slice A n c, .int .i64 0, .slice none 0 0, .slice none 0 0], .int .i64 (k : Int)] w fun e w' => e = .returned (.int .i64 ((markRlsN k rs : Nat) : Int)) ∧ Below w.heap.size w w' := by
  have hb0 := below1 w (.cells #[.slice A n c, .int .i64 0, .slice none 0 0, .slice none 0 0] 44)
  have X1 := Blk.new w 44 #[.slice A n c, .int .i64 0, .slice none 0 0, .slice none 0 0]
  have HX1 := Lib.hid X1; have HB0 := Lib.hid hb0
  have H1 := Lib.hid (h.up RuleE.stays hb0)
  have hmn : ¬ (((markRlsN k rs : Nat) : Int) < 0) := by omega
  have x0 := X1.cell 0
  have x1 := X1.cell 1
  have x2 := X1.cell 2
  have x3 := X1.cell 3
  clear h hb0 X1
  go_enter Tryz.func38, Tryz.ntmps38
  go_wp2_with fail
  refine (heldRuleS_any A n c k rs _ H1.out hk).mono ?_; rintro e w1 ⟨rfl, hb1⟩
  have HX2 := HX1.out.below hb1; have HB1 := belowThen HB0.out hb1
  clear hb1 x0 x1 x2 x3
  have x1 := HX2.cell 1
  have x2 := HX2.cell 2
  have x3 := HX2.cell 3
  go_wp2_with fail
  refine (heldAtomS_none _ _).mono ?_; rintro e w_ ⟨rfl, rfl⟩
  go_wp2_with fail
  refine (heldChangeS_none _ _).mono ?_; rintro e w_ ⟨rfl, rfl⟩
  go_wp2
  go_ret; exact ⟨rfl, HB1⟩

/-- What the law holds: the model's answer, its own rules, the program's answer; each in blocks apart. -/
structure BaseLaw (w : World) (a b d : Nat) (A3 : Option Addr) (n3 c3 : Nat) (rs3 : List Rr) (g4 n : Nat) (A5 : Option Addr) (n5 c5 : Nat) (rs5 : List Rr) (W : World) : Prop where
  hb : Below w.heap.size w W
  h1 : w.heap.size ≤ a
  h2 : a + 1 ≤ b
  h3 : b ≤ d
  h4 : d + 1 ≤ W.heap.size
  T : RulesApart W w.heap.size a A3 n3 c3 rs3
  X3 : Blk W a 44 #[.slice A3 n3 c3, .int .i64 0, .slice none 0 0, .slice none 0 0]
  R : RuleRow W (a + 1) b g4 n
  O : RulesApart W b d A5 n5 c5 rs5
  X5 : Blk W d 44 #[.slice A5 n5 c5, .int .i64 0, .slice none 0 0, .slice none 0 0]

section
variable {w : World} {a b d : Nat} {A3 : Option Addr} {n3 c3 : Nat} {rs3 : List Rr} {g4 n : Nat} {A5 : Option Addr} {n5 c5 : Nat} {rs5 rs6 : List Rr} {W W' : World}

theorem BaseLaw.below (h : BaseLaw w a b d A3 n3 c3 rs3 g4 n A5 n5 c5 rs5 W) (hw : Below W.heap.size W W') : BaseLaw w a b d A3 n3 c3 rs3 g4 n A5 n5 c5 rs5 W' :=
  have h1 := h.h1; have h2 := h.h2; have h3 := h.h3; have h4 := h.h4
  ⟨belowThen h.hb hw, h.h1, h.h2, h.h3, Nat.le_trans h.h4 hw.size, h.T.keep (fun x _ hx => hw.block x (by omega)) (Nat.le_refl _) (Nat.le_refl _), Blk.below h.X3 hw, h.R.keep (fun x _ hx => hw.block x (by omega)), h.O.keep (fun x _ hx => hw.block x (by omega)) (Nat.le_refl _) (Nat.le_refl _), Blk.below h.X5 hw⟩

theorem BaseLaw.rules (h : BaseLaw w a b d A3 n3 c3 rs3 g4 n A5 n5 c5 rs5 W) (hw : Within (a + 1) b W W') (hR : RuleRow W' (a + 1) b g4 n) : BaseLaw w a b d A3 n3 c3 rs3 g4 n A5 n5 c5 rs5 W' :=
  have h1 := h.h1; have h2 := h.h2; have h3 := h.h3; have h4 := h.h4
  ⟨h.hb.trans (hw.low (by omega) (by omega)), h.h1, h.h2, h.h3, Nat.le_trans h.h4 hw.size, h.T.keep (fun x _ hx => hw.block x (by omega) (.inl (by omega))) (Nat.le_refl _) (Nat.le_refl _), (hw.block a (by omega) (.inl (by omega))).trans h.X3, hR, h.O.keep (fun x hx hx' => hw.block x (by omega) (.inr (by omega))) (Nat.le_refl _) (Nat.le_refl _), (hw.block d (by omega) (.inr (by omega))).trans h.X5⟩

theorem BaseLaw.marked (h : BaseLaw w a b d A3 n3 c3 rs3 g4 n A5 n5 c5 rs5 W) (hw : Within b d W W') (hO : RulesApart W' b d A5 n5 c5 rs6) : BaseLaw w a b d A3 n3 c3 rs3 g4 n A5 n5 c5 rs6 W' :=
  have h1 := h.h1; have h2 := h.h2; have h3 := h.h3; have h4 := h.h4
  ⟨h.hb.trans (hw.low (by omega) (by omega)), h.h1, h.h2, h.h3, Nat.le_trans h.h4 hw.size, h.T.keep (fun x _ hx => hw.block x (by omega) (.inl (by omega))) (Nat.le_refl _) (Nat.le_refl _), (hw.block a (by omega) (.inl (by omega))).trans h.X3, h.R.keep (fun x hx hx' => hw.block x (by omega) (.inl (by omega))), hO, (hw.block d (by omega) (.inr (Nat.le_refl _))).trans h.X5⟩

theorem BaseLaw.model (h : BaseLaw w a b d A3 n3 c3 rs3 g4 n A5 n5 c5 rs5 W) : IsRules W 0 W.heap.size A3 n3 c3 (rs3.map rRl) :=
  have h2 := h.h2; have h3 := h.h3; have h4 := h.h4
  h.T.rules.keep RuleE.stays (fun _ _ _ => rfl) (Nat.zero_le _) (by omega)
theorem BaseLaw.answer (h : BaseLaw w a b d A3 n3 c3 rs3 g4 n A5 n5 c5 rs5 W) : IsRules W 0 W.heap.size A5 n5 c5 (rs5.map rRl) :=
  have h4 := h.h4
  h.O.rules.keep RuleE.stays (fun _ _ _ => rfl) (Nat.zero_le _) (by omega)
end

set_option maxRecDepth 100000 in
set_option maxHeartbeats 4000000 in
theorem eqServer_same (A B : Option Addr) (n c n' c' : Nat) (xs : List Rl) (w : World) (h : IsRules w 0 w.heap.size A n c xs) (h' : IsRules w 0 w.heap.size B n' c' xs) :
    Calls Tryz.prog 41 #[.agg #[.slice A n c, .int .i64 0, .slice none 0 0, .slice none 0 0, .string ⟨#[]⟩, .slice none 0 0, .slice none 0 0], .agg #[.slice B n' c', .int .i64 0, .slice none 0 0, .slice none 0 0, .string ⟨#[]⟩, .slice none 0 0, .slice none 0 0]] w (BoolPost true w) := by
  have hb0 := below2 w (.cells #[.slice A n c, .int .i64 0, .slice none 0 0, .slice none 0 0, .string ⟨#[]⟩, .slice none 0 0, .slice none 0 0] 51) (.cells #[.slice B n' c', .int .i64 0, .slice none 0 0, .slice none 0 0, .string ⟨#[]⟩, .slice none 0 0, .slice none 0 0] 51)
  have X1 := (Blk.new w 51 #[.slice A n c, .int .i64 0, .slice none 0 0, .slice none 0 0, .string ⟨#[]⟩, .slice none 0 0, .slice none 0 0]).alloc (.cells #[.slice B n' c', .int .i64 0, .slice none 0 0, .slice none 0 0, .string ⟨#[]⟩, .slice none 0 0, .slice none 0 0] 51)
  have X2 := Blk.made (w.alloc (.cells #[.slice A n c, .int .i64 0, .slice none 0 0, .slice none 0 0, .string ⟨#[]⟩, .slice none 0 0, .slice none 0 0] 51)) (b := w.heap.size + 1) 51 #[.slice B n' c', .int .i64 0, .slice none 0 0, .slice none 0 0, .string ⟨#[]⟩, .slice none 0 0, .slice none 0 0] (by simp)
  have HX1 := Lib.hid X1; have HX2 := Lib.hid X2; have HB0 := Lib.hid hb0
  have H1 := Lib.hid (h.up RuleE.stays hb0); have H2 := Lib.hid (h'.up RuleE.stays hb0)
  have x0 := X1.cell 0; have y0 := X2.cell 0
  have x1 := X1.cell 1; have y1 := X2.cell 1
  have x2 := X1.cell 2; have y2 := X2.cell 2
  have x3 := X1.cell 3; have y3 := X2.cell 3
  have x4 := X1.cell 4; have y4 := X2.cell 4
  have x5 := X1.cell 5; have y5 := X2.cell 5
  have x6 := X1.cell 6; have y6 := X2.cell 6
  clear h h' hb0 X1 X2
  go_enter Tryz.func41, Tryz.ntmps41
  go_wp2_with fail
  refine (eqBase_same A B n c n' c' xs _ H1.out H2.out).mono ?_; rintro e w1 ⟨rfl, hb1⟩
  have HX3 := Lib.hid (HX1.out.below hb1); have HX4 := Lib.hid (HX2.out.below hb1); have HB1 := belowThen HB0.out hb1
  clear hb1 x0 x1 x2 x3 x4 x5 x6 y0 y1 y2 y3 y4 y5 y6
  have x4 := HX3.out.cell 4; have y4 := HX4.out.cell 4
  have x5 := HX3.out.cell 5; have y5 := HX4.out.cell 5
  have x6 := HX3.out.cell 6; have y6 := HX4.out.cell 6
  go_wp2_with fail
  refine (eqOpenS_none _).mono ?_; rintro e w_ ⟨rfl, rfl⟩
  go_wp2_with fail
  refine (eqWatchS_none _).mono ?_; rintro e w_ ⟨rfl, rfl⟩
  go_wp2
  go_ret; exact ⟨rfl, HB1⟩

set_option maxRecDepth 100000 in
set_option maxHeartbeats 4000000 in
theorem markServer_own (lo hi : Nat) (A : Option Addr) (n c k : Nat) (rs : List Rr) (w : World) (h : RulesApart w lo hi A n c rs) (hh : hi ≤ w.heap.size) (hk : markRlsN k rs ≤ 2 ^ 62) :
    Calls Tryz.prog 42 #[.agg #[.slice A n c, .int .i64 0, .slice none 0 0, .slice none 0 0, .string ⟨#[]⟩, .slice none 0 0, .slice none 0 0], .int .i64 (k : Int)] w fun e w' => e = .returned (.int .i64 ((markRlsN k rs : Nat) : Int)) ∧ RulesApart w' lo hi A n c (markRls k rs) ∧ Within lo hi w w' := by
  have hb0 := below1 w (.cells #[.slice A n c, .int .i64 0, .slice none 0 0, .slice none 0 0, .string ⟨#[]⟩, .slice none 0 0, .slice none 0 0] 51)
  have X1 := Blk.new w 51 #[.slice A n c, .int .i64 0, .slice none 0 0, .slice none 0 0, .string ⟨#[]⟩, .slice none 0 0, .slice none 0 0]
  have HX1 := Lib.hid X1; have HB0 := Lib.hid hb0
  have H1 := Lib.hid (h.keep (w' := w.alloc (.cells #[.slice A n c, .int .i64 0, .slice none 0 0, .slice none 0 0, .string ⟨#[]⟩, .slice none 0 0, .slice none 0 0] 51)) (lo' := lo) (hi' := hi) (fun b _ h2 => hb0.block b (by omega)) (Nat.le_refl _) (Nat.le_refl _))
  have x0 := X1.cell 0
  have x1 := X1.cell 1
  have x2 := X1.cell 2
  have x3 := X1.cell 3
  have x4 := X1.cell 4
  have x5 := X1.cell 5
  have x6 := X1.cell 6
  clear h hb0 X1
  go_enter Tryz.func42, Tryz.ntmps42
  go_wp2_with fail
  refine (markBase_own lo hi A n c k rs _ H1.out (by simp; omega) hk).mono ?_; rintro e w1 ⟨rfl, hO, hw1⟩
  have HO := Lib.hid hO
  have HW := (Within.of (lo := lo) (hi := hi) HB0.out).trans hw1
  have HX2 : Blk w1 w.heap.size 51 #[.slice A n c, .int .i64 0, .slice none 0 0, .slice none 0 0, .string ⟨#[]⟩, .slice none 0 0, .slice none 0 0] := (hw1.block w.heap.size (by simp) (.inr hh)).trans HX1.out
  clear hO hw1 x0 x1 x2 x3 x4 x5 x6
  have x4 := HX2.cell 4
  have x5 := HX2.cell 5
  have x6 := HX2.cell 6
  go_wp2_with fail
  refine (markOpenS_none _ _).mono ?_; rintro e w_ ⟨rfl, rfl⟩
  go_wp2_with fail
  refine (markWatchS_none _ _).mono ?_; rintro e w_ ⟨rfl, rfl⟩
  go_wp2
  go_ret; exact ⟨rfl, HO.out, HW⟩

set_option maxRecDepth 100000 in
set_option maxHeartbeats 4000000 in
theorem heldServer_any (A : Option Addr) (n c k : Nat) (rs : List Rr) (w : World) (h : IsRules w 0 w.heap.size A n c ((markRls k rs).map rRl)) (hk : markRlsN k rs ≤ 2 ^ 62) :
    Calls Tryz.prog 43 #[.agg #[.slice A n c, .int .i64 0, .slice none 0 0, .slice none 0 0, .string ⟨#[]⟩, .slice none 0 0, .slice none 0 0], .int .i64 (k : Int)] w fun e w' => e = .returned (.int .i64 ((markRlsN k rs : Nat) : Int)) ∧ Below w.heap.size w w' := by
  have hb0 := below1 w (.cells #[.slice A n c, .int .i64 0, .slice none 0 0, .slice none 0 0, .string ⟨#[]⟩, .slice none 0 0, .slice none 0 0] 51)
  have X1 := Blk.new w 51 #[.slice A n c, .int .i64 0, .slice none 0 0, .slice none 0 0, .string ⟨#[]⟩, .slice none 0 0, .slice none 0 0]
  have HX1 := Lib.hid X1; have HB0 := Lib.hid hb0
  have H1 := Lib.hid (h.up RuleE.stays hb0)
  have hmn : ¬ (((markRlsN k rs : Nat) : Int) < 0) := by omega
  have x0 := X1.cell 0
  have x1 := X1.cell 1
  have x2 := X1.cell 2
  have x3 := X1.cell 3
  have x4 := X1.cell 4
  have x5 := X1.cell 5
  have x6 := X1.cell 6
  clear h hb0 X1
  go_enter Tryz.func43, Tryz.ntmps43
  go_wp2_with fail
  refine (heldBase_any A n c k rs _ H1.out hk).mono ?_; rintro e w1 ⟨rfl, hb1⟩
  have HX2 := HX1.out.below hb1; have HB1 := belowThen HB0.out hb1
  clear hb1 x0 x1 x2 x3 x4 x5 x6
  have x4 := HX2.cell 4
  have x5 := HX2.cell 5
  have x6 := HX2.cell 6
  go_wp2_with fail
  refine (heldOpenS_none _ _).mono ?_; rintro e w_ ⟨rfl, rfl⟩
  go_wp2_with fail
  refine (heldWatchS_none _ _).mono ?_; rintro e w_ ⟨rfl, rfl⟩
  go_wp2
  go_ret; exact ⟨rfl, HB1⟩

/-- What the law holds: the model's answer, its own rules, the program's answer; each in blocks apart. -/
structure ServerLaw (w : World) (a b d : Nat) (A3 : Option Addr) (n3 c3 : Nat) (rs3 : List Rr) (g4 n : Nat) (A5 : Option Addr) (n5 c5 : Nat) (rs5 : List Rr) (W : World) : Prop where
  hb : Below w.heap.size w W
  h1 : w.heap.size ≤ a
  h2 : a + 1 ≤ b
  h3 : b ≤ d
  h4 : d + 1 ≤ W.heap.size
  T : RulesApart W w.heap.size a A3 n3 c3 rs3
  X3 : Blk W a 51 #[.slice A3 n3 c3, .int .i64 0, .slice none 0 0, .slice none 0 0, .string ⟨#[]⟩, .slice none 0 0, .slice none 0 0]
  R : RuleRow W (a + 1) b g4 n
  O : RulesApart W b d A5 n5 c5 rs5
  X5 : Blk W d 51 #[.slice A5 n5 c5, .int .i64 0, .slice none 0 0, .slice none 0 0, .string ⟨#[]⟩, .slice none 0 0, .slice none 0 0]

section
variable {w : World} {a b d : Nat} {A3 : Option Addr} {n3 c3 : Nat} {rs3 : List Rr} {g4 n : Nat} {A5 : Option Addr} {n5 c5 : Nat} {rs5 rs6 : List Rr} {W W' : World}

theorem ServerLaw.below (h : ServerLaw w a b d A3 n3 c3 rs3 g4 n A5 n5 c5 rs5 W) (hw : Below W.heap.size W W') : ServerLaw w a b d A3 n3 c3 rs3 g4 n A5 n5 c5 rs5 W' :=
  have h1 := h.h1; have h2 := h.h2; have h3 := h.h3; have h4 := h.h4
  ⟨belowThen h.hb hw, h.h1, h.h2, h.h3, Nat.le_trans h.h4 hw.size, h.T.keep (fun x _ hx => hw.block x (by omega)) (Nat.le_refl _) (Nat.le_refl _), Blk.below h.X3 hw, h.R.keep (fun x _ hx => hw.block x (by omega)), h.O.keep (fun x _ hx => hw.block x (by omega)) (Nat.le_refl _) (Nat.le_refl _), Blk.below h.X5 hw⟩

theorem ServerLaw.rules (h : ServerLaw w a b d A3 n3 c3 rs3 g4 n A5 n5 c5 rs5 W) (hw : Within (a + 1) b W W') (hR : RuleRow W' (a + 1) b g4 n) : ServerLaw w a b d A3 n3 c3 rs3 g4 n A5 n5 c5 rs5 W' :=
  have h1 := h.h1; have h2 := h.h2; have h3 := h.h3; have h4 := h.h4
  ⟨h.hb.trans (hw.low (by omega) (by omega)), h.h1, h.h2, h.h3, Nat.le_trans h.h4 hw.size, h.T.keep (fun x _ hx => hw.block x (by omega) (.inl (by omega))) (Nat.le_refl _) (Nat.le_refl _), (hw.block a (by omega) (.inl (by omega))).trans h.X3, hR, h.O.keep (fun x hx hx' => hw.block x (by omega) (.inr (by omega))) (Nat.le_refl _) (Nat.le_refl _), (hw.block d (by omega) (.inr (by omega))).trans h.X5⟩

theorem ServerLaw.marked (h : ServerLaw w a b d A3 n3 c3 rs3 g4 n A5 n5 c5 rs5 W) (hw : Within b d W W') (hO : RulesApart W' b d A5 n5 c5 rs6) : ServerLaw w a b d A3 n3 c3 rs3 g4 n A5 n5 c5 rs6 W' :=
  have h1 := h.h1; have h2 := h.h2; have h3 := h.h3; have h4 := h.h4
  ⟨h.hb.trans (hw.low (by omega) (by omega)), h.h1, h.h2, h.h3, Nat.le_trans h.h4 hw.size, h.T.keep (fun x _ hx => hw.block x (by omega) (.inl (by omega))) (Nat.le_refl _) (Nat.le_refl _), (hw.block a (by omega) (.inl (by omega))).trans h.X3, h.R.keep (fun x hx hx' => hw.block x (by omega) (.inl (by omega))), hO, (hw.block d (by omega) (.inr (Nat.le_refl _))).trans h.X5⟩

theorem ServerLaw.model (h : ServerLaw w a b d A3 n3 c3 rs3 g4 n A5 n5 c5 rs5 W) : IsRules W 0 W.heap.size A3 n3 c3 (rs3.map rRl) :=
  have h2 := h.h2; have h3 := h.h3; have h4 := h.h4
  h.T.rules.keep RuleE.stays (fun _ _ _ => rfl) (Nat.zero_le _) (by omega)
theorem ServerLaw.answer (h : ServerLaw w a b d A3 n3 c3 rs3 g4 n A5 n5 c5 rs5 W) : IsRules W 0 W.heap.size A5 n5 c5 (rs5.map rRl) :=
  have h4 := h.h4
  h.O.rules.keep RuleE.stays (fun _ _ _ => rfl) (Nat.zero_le _) (by omega)
end

end Go.Proofs.YtnhbnhibphjljaaGreatDoor

