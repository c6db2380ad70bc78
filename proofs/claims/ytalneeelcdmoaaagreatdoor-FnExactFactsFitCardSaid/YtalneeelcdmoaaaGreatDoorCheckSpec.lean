/-
  What is wrong with rules, told in two ways that come to the same. (Of no code.) What is wrong with rules, in the model.
-/
import Derived.Test.YtalneeelcdmoaaaGreatDoorAskMath
import Derived.Test.YtalneeelcdmoaaaGreatDoorAtomsL
import Derived.Test.YtalneeelcdmoaaaGreatDoorRuleOk
import Derived.Test.YtalneeelcdmoaaaGreatDoorLevelsRun
namespace Go.Proofs.YtalneeelcdmoaaaGreatDoor
open Go.RowKit

/-- Each variable of a rule in something that must be: by two counts, and by a search. -/
theorem tight_rule (r : Rl) : tightB r.1.2 r.2 = !looseB [r] (mvars r.2) := by
  have hA : ∀ x, x ∈ partsT (varsT [] r.1.2) r.2 ↔ ∃ a ∈ atsOf [r], x ∈ varsOf a.2 := by
    intro x
    have hat : atsOf [r] = r.1 :: r.2.map (·.2) := by unfold atsOf; simp
    unfold varsT
    rw [partsT_all, mem_puts, mem_puts, hat]
    simp only [List.mem_flatMap, List.mem_cons, List.mem_map, List.not_mem_nil, or_false]
    constructor
    · rintro (⟨q, hq, h⟩ | h)
      · exact ⟨q.2, .inr ⟨q, hq, rfl⟩, h⟩
      · exact ⟨r.1, .inl rfl, h⟩
    · rintro ⟨a, rfl | ⟨q, hq, rfl⟩, h⟩
      · exact .inr h
      · exact .inl ⟨q, hq, h⟩
  have hB : ∀ x, x ∈ partsT [] (musts r.2) ↔ x ∈ mvars r.2 := by
    intro x
    rw [partsT_all, mem_puts]
    unfold mvars
    simp
  have nA : (partsT (varsT [] r.1.2) r.2).Nodup := by rw [partsT_all]; exact (InRow.puts (InRow.puts List.Pairwise.nil)).nodup
  have nB : (partsT [] (musts r.2)).Nodup := by rw [partsT_all]; exact (InRow.puts List.Pairwise.nil).nodup
  have hsub : ∀ x ∈ partsT [] (musts r.2), x ∈ partsT (varsT [] r.1.2) r.2 := by
    intro x hx
    rw [hB] at hx
    rw [hA]
    unfold mvars musts at hx
    obtain ⟨q, hq, hx⟩ := List.mem_flatMap.1 hx
    exact ⟨q.2, by unfold atsOf; rw [List.flatMap_singleton]; exact List.mem_cons_of_mem _ (List.mem_map_of_mem (List.mem_filter.1 hq).1), hx⟩
  have hl : looseB [r] (mvars r.2) = true ↔ ∃ a ∈ atsOf [r], ∃ x ∈ varsOf a.2, x ∉ mvars r.2 := by
    unfold looseB
    rw [List.any_eq_true]
    constructor
    · rintro ⟨a, ha, h⟩
      obtain ⟨v, hv, hn⟩ := List.any_eq_true.1 h
      exact ⟨a, ha, v, hv, fun hin => by rw [memT_iff.2 hin] at hn; cases hn⟩
    · rintro ⟨a, ha, v, hv, hn⟩
      refine ⟨a, ha, List.any_eq_true.2 ⟨v, hv, ?_⟩⟩
      cases h : memT (mvars r.2) v
      · rfl
      · exact absurd (memT_iff.1 h) hn
  unfold tightB
  cases hL : looseB [r] (mvars r.2)
  · have hno : ∀ x ∈ partsT (varsT [] r.1.2) r.2, x ∈ partsT [] (musts r.2) := by
      intro x hx
      rw [hA] at hx
      obtain ⟨a, ha, hx⟩ := hx
      refine Classical.byContradiction fun hn => ?_
      have := hl.2 ⟨a, ha, x, hx, fun h => hn ((hB x).2 h)⟩
      rw [hL] at this
      cases this
    have h1 := nodup_sub nB hsub
    have h2 := nodup_sub nA hno
    exact decide_eq_true (by omega)
  · obtain ⟨a, ha, x, hx, hn⟩ := hl.1 hL
    have h1 := nodup_sub (l := x :: partsT [] (musts r.2)) (List.nodup_cons.2 ⟨fun h => hn ((hB x).1 h), nB⟩) (fun y hy => (List.mem_cons.1 hy).elim (fun e => by rw [e]; exact (hA x).2 ⟨a, ha, hx⟩) (hsub y))
    rw [List.length_cons] at h1
    exact decide_eq_false (by omega)

/-- Is each variable of the rule in something that must be? -/
def ruleTight (r : Rl) : Bool := tightB r.1.2 r.2

/-- What is wrong with rules, the first first. -/
def progB (rs : List Rl) : Nat :=
  if rs.all ruleB = false then 1 else if 8 < rs.length then 2 else if alikeB (atsOf rs) = false then 3 else if rs.all ruleTight = false then 4 else if cycB rs = true then 5 else 0

theorem all_no {α : Type} {f : α → Bool} {l : List α} {x : α} (h : x ∈ l) (hf : f x = false) : l.all f = false := by
  rw [List.all_eq_false]; exact ⟨x, h, by rw [hf]; decide⟩

theorem all_end {α : Type} {f : α → Bool} {l : List α} {n : Nat} (hn : l.length = n) (h : ∀ q ∈ l.take n, f q = true) : l.all f = true := by
  rw [List.take_of_length_le (by omega)] at h
  rw [List.all_eq_true]; exact h

theorem ruleB_parts {r : Rl} (h : ruleB r = true) : bodyB r.2 = true ∧ atomB r.1 = true ∧ r.2.length ≤ 4 := by
  unfold ruleB at h
  simp only [Bool.and_eq_true, decide_eq_true_eq] at h
  exact ⟨h.1, h.2.1, h.2.2⟩

theorem atomB_three {a : At} (h : atomB a = true) : a.2.length ≤ 3 := by
  unfold atomB at h
  simp only [Bool.and_eq_true, decide_eq_true_eq] at h
  exact h.2.2

theorem rule_three {qs : List Pt} (h : bodyB qs = true) : ∀ q ∈ qs, q.2.2.length ≤ 3 := by
  intro q hq
  unfold bodyB at h
  exact atomB_three (List.all_eq_true.1 h q hq)

end Go.Proofs.YtalneeelcdmoaaaGreatDoor

namespace Go.Proofs.YtalneeelcdmoaaaGreatDoor
open Go.RowKit

set_option maxRecDepth 100000 in
set_option maxHeartbeats 2000000 in
theorem l2Cycle_any (A : Option Addr) (n c : Nat) (rs : List Rl) (w : World) (h : IsRules w 0 w.heap.size A n c rs) (hn : n ≤ 8) (h4 : ∀ r ∈ rs, r.2.length ≤ 4) :
    Calls Tryz.prog 53 #[.slice A n c] w (BoolPost (cycB rs) w) := by
  have HL := Lib.hid h.1
  have H := Lib.hid h; have H4 := Lib.hid h4; clear h h4
  go_enter Tryz.func53, Tryz.ntmps53
  go_wp2_with fail
  refine (l2Levels_any A n c rs _ H.out hn H4.out).mono ?_; rintro e w1 ⟨rfl, hI, hb1⟩
  have hcap := Capped.levels rs
  rw [HL.out] at hcap
  obtain ⟨T, hT⟩ : ∃ T, levelsL rs = T := ⟨_, rfl⟩
  rw [hT] at hI hcap
  have HT := Lib.hid hT; have HI := Lib.hid hI; have HC := Lib.hid hcap
  clear hT hI hcap
  go_wp2
  go_loop [4] (fun x => ∃ i : Nat, i ≤ n ∧ x = .int .i64 (i : Int) ∧ ∀ q ∈ T.take i, ¬ n ≤ q) (fun x => n - (intOf x).toNat)
  case atStart => exact ⟨0, Nat.zero_le _, rfl, fun q hq => by simp at hq⟩
  case round =>
    obtain ⟨i, hin, rfl, hS⟩ := hrel
    have HS := Lib.hid hS; clear hS
    by_cases hlt : i < n
    · have x1 := HI.out.cell hlt
      have hle := HC.out.le i
      obtain ⟨a, ha⟩ : ∃ a, at0 T i = a := ⟨_, rfl⟩
      rw [ha] at x1 hle
      have hTi : T[i]? = some a := by
        have hl : i < T.length := by rw [HI.out.1]; exact hlt
        rw [List.getElem?_eq_getElem hl]
        unfold at0 at ha; rw [List.getElem?_eq_getElem hl] at ha
        exact congrArg some ha
      have HTi := Lib.hid hTi; clear hTi ha
      by_cases hge : n ≤ a
      · have E := Lib.hid (show cycB rs = true by unfold cycB; rw [HT.out, HL.out, List.any_eq_true]; exact ⟨a, List.mem_of_getElem? HTi.out, decide_eq_true hge⟩)
        have hgeI : (n : Int) ≤ (a : Int) := by omega
        go_wp2
        go_ret; exact ⟨retB E.out.symm, hb1⟩
      · have hgeI : ¬ (n : Int) ≤ (a : Int) := by omega
        go_wp2
        go_round
        case rel => exact ⟨i + 1, by omega, by go_num, all_snoc HTi.out HS.out hge⟩
        case measure => simp [intOf]; omega
    · have hie : i = n := by omega
      have E := Lib.hid (show cycB rs = false by
        unfold cycB; rw [HT.out, HL.out, List.any_eq_false]
        intro q hq
        have := HS.out q (by rw [List.take_of_length_le (by rw [HI.out.1]; omega)]; exact hq)
        simpa using this)
      go_wp2
      go_ret; exact ⟨retB E.out.symm, hb1⟩

/-- A code was told. -/
def CodePost (k : Nat) (w : World) (e : Ending) (w' : World) : Prop := e = .returned (.int .i64 (k : Int)) ∧ Below w.heap.size w w'

theorem prog1 {rs : List Rl} (h : rs.all ruleB = false) : progB rs = 1 := if_pos h
theorem prog2 {rs : List Rl} (h : rs.all ruleB = true) (h2 : 8 < rs.length) : progB rs = 2 := by unfold progB; rw [if_neg (by rw [h]; decide), if_pos h2]
theorem prog3 {rs : List Rl} (h : rs.all ruleB = true) (h2 : ¬ 8 < rs.length) (h3 : alikeB (atsOf rs) = false) : progB rs = 3 := by unfold progB; rw [if_neg (by rw [h]; decide), if_neg h2, if_pos h3]
theorem prog4 {rs : List Rl} (h : rs.all ruleB = true) (h2 : ¬ 8 < rs.length) (h3 : alikeB (atsOf rs) = true) (h4 : rs.all ruleTight = false) : progB rs = 4 := by unfold progB; rw [if_neg (by rw [h]; decide), if_neg h2, if_neg (by rw [h3]; decide), if_pos h4]
theorem prog5 {rs : List Rl} (h : rs.all ruleB = true) (h2 : ¬ 8 < rs.length) (h3 : alikeB (atsOf rs) = true) (h4 : rs.all ruleTight = true) : progB rs = if cycB rs = true then 5 else 0 := by unfold progB; rw [if_neg (by rw [h]; decide), if_neg h2, if_neg (by rw [h3]; decide), if_neg (by rw [h4]; decide)]

theorem code_is {k j : Nat} (h : j = k) : Ending.returned (.int .i64 (k : Int)) = .returned (.int .i64 ((j : Nat) : Int)) := by rw [h]

theorem rule_four {rs : List Rl} (h : rs.all ruleB = true) : ∀ r ∈ rs, r.2.length ≤ 4 := fun r hr => (ruleB_parts (List.all_eq_true.1 h r hr)).2.2

set_option maxRecDepth 100000 in
set_option maxHeartbeats 4000000 in
theorem specProgCheck_any (A : Option Addr) (n c : Nat) (rs : List Rl) (w : World) (h : IsRules w 0 w.heap.size A n c rs) :
    Calls Tryz.prog 14 #[.slice A n c] w (CodePost (progB rs) w) := by
  have hm := h.len
  unfold maxLen at hm
  have HL := Lib.hid h.1
  have H := Lib.hid h; clear h
  go_enter Tryz.func14, Tryz.ntmps14
  go_wp2
  go_loopw [3] (fun x wr => ∃ i : Nat, i ≤ n ∧ x = .int .i64 (i : Int) ∧ (∀ q ∈ rs.take i, ruleB q = true) ∧ Below w.heap.size w wr) (fun x _ => n - (intOf x).toNat)
  case atStart => exact ⟨0, Nat.zero_le _, rfl, fun q hq => by simp at hq, Below.refl _ _⟩
  case round =>
    obtain ⟨i, hin, rfl, hS, hb⟩ := hrel
    have HS := Lib.hid hS; clear hS
    by_cases hlt : i < n
    · obtain ⟨p, r, A', n', c', B, m, d, hA, hpb, hg, d1, d2, d3, d4, d5, d6⟩ := rule_at (H.out.below RuleE.stays hb (Nat.le_refl _)) hlt
      subst hA
      have HG := Lib.hid hg
      have HR : Hid (IsRule wr wr.heap.size A' n' c' B m d r.1.2 r.2) := Lib.hid ⟨d4.keep (fun _ _ _ => rfl) (Nat.le_refl _) hb.size, d6.keep PartE.stays (fun _ _ _ => rfl) (Nat.le_refl _) hb.size⟩
      clear hg d4 d6
      go_wp2_with fail
      refine (l1Rule_any r.1.1 A' n' c' B m d r.1.2 r.2 _ d2 HR.out).mono ?_; rintro e w1 ⟨rfl, hb1⟩
      cases hr : ruleB r
      · have E := Lib.hid (prog1 (all_no (List.mem_of_getElem? HG.out) hr))
        have hr' : ruleB ((r.1.1, r.1.2), r.2) = false := hr
        try rw [hr']
        clear hr hr' d1 d3 d5
        go_wp2
        go_ret; exact ⟨code_is E.out, belowThen hb hb1⟩
      · have hr' : ruleB ((r.1.1, r.1.2), r.2) = true := hr
        have HS2 := Lib.hid (all_snoc HG.out HS.out hr)
        try rw [hr']
        clear hr hr' d1 d3 d5
        go_wp2
        go_roundw
        case rel => exact ⟨i + 1, by omega, by go_num, HS2.out, belowThen hb hb1⟩
        case measure => simp [intOf]; omega
    · have hie : i = n := by omega
      subst hie
      have HALL := Lib.hid (all_end (f := ruleB) HL.out HS.out)
      by_cases h8 : 8 < i
      · have E := Lib.hid (prog2 HALL.out (by rw [HL.out]; exact h8))
        have h8I : (8 : Int) < (i : Int) := by omega
        go_wp2
        go_ret; exact ⟨code_is E.out, hb⟩
      · have h8I : ¬ (8 : Int) < (i : Int) := by omega
        have H8 := Lib.hid (show ¬ 8 < rs.length by rw [HL.out]; exact h8)
        have H4 := Lib.hid (rule_four HALL.out)
        go_wp2_with fail
        refine (l2Args_any A i c rs _ (H.out.up RuleE.stays hb) (by omega) H4.out).mono ?_; rintro e w1 ⟨rfl, hb1⟩
        cases h3 : alikeB (atsOf rs)
        · have E := Lib.hid (prog3 HALL.out H8.out h3)
          clear h3
          go_wp2
          go_ret; exact ⟨code_is E.out, belowThen hb hb1⟩
        · have HB1 := belowThen hb hb1
          have H3 := Lib.hid h3
          clear h3
          go_wp2
          go_loopw [4] (fun x wr => ∃ k : Nat, k ≤ i ∧ x = .int .i64 (k : Int) ∧ (∀ q ∈ rs.take k, ruleTight q = true) ∧ Below w.heap.size w wr) (fun x _ => i - (intOf x).toNat)
          case atStart => exact ⟨0, Nat.zero_le _, rfl, fun q hq => by simp at hq, HB1⟩
          case round =>
            obtain ⟨k, hkn, rfl, hS, hb⟩ := hrel
            have HQ := Lib.hid hS; clear hS
            by_cases hlk : k < i
            · obtain ⟨p, r, A', n', c', B, m, d, hA, hpb, hg, d1, d2, d3, d4, d5, d6⟩ := rule_at (H.out.below RuleE.stays hb (Nat.le_refl _)) hlk
              subst hA
              have hok := ruleB_parts (List.all_eq_true.1 HALL.out r (List.mem_of_getElem? hg))
              have HG := Lib.hid hg; have HO := Lib.hid hok
              have hn3 : n' ≤ 3 := by rw [← d4.1]; exact atomB_three hok.2.1
              have hm4 : m ≤ 4 := by rw [← d6.1]; exact hok.2.2
              have HT := Lib.hid (d4.keep (lo' := 0) (hi' := wr.heap.size) (fun _ _ _ => rfl) (Nat.le_refl _) hb.size)
              have HP := Lib.hid (d6.keep (lo' := 0) (hi' := wr.heap.size) PartE.stays (fun _ _ _ => rfl) (Nat.le_refl _) hb.size)
              clear hg d4 d6 hok
              go_wp2_with fail
              refine (l2Tight_any r.1.1 A' n' c' r.1.2 B m d r.2 _ HT.out HP.out (rule_three HO.out.1) (by omega) (by omega)).mono ?_; rintro e w2 ⟨rfl, hb2⟩
              cases hr : ruleTight r
              · have E := Lib.hid (prog4 HALL.out H8.out H3.out (all_no (List.mem_of_getElem? HG.out) hr))
                have hr' : tightB r.1.2 r.2 = false := hr
                try rw [hr']
                clear hr hr' d1 d3 d5
                go_wp2
                go_ret; exact ⟨code_is E.out, belowThen hb hb2⟩
              · have hr' : tightB r.1.2 r.2 = true := hr
                have HS2 := Lib.hid (all_snoc HG.out HQ.out hr)
                try rw [hr']
                clear hr hr' d1 d3 d5
                go_wp2
                go_roundw
                case rel => exact ⟨k + 1, by omega, by go_num, HS2.out, belowThen hb hb2⟩
                case measure => simp [intOf]; omega
            · have hke : k = i := by omega
              subst hke
              have HT := Lib.hid (all_end (f := ruleTight) HL.out HQ.out)
              have HE := Lib.hid (prog5 HALL.out H8.out H3.out HT.out)
              go_wp2_with fail
              refine (l2Cycle_any A k c rs _ (H.out.up RuleE.stays hb) (by omega) H4.out).mono ?_; rintro e w2 ⟨rfl, hb2⟩
              cases hc : cycB rs
              · have E := Lib.hid (show progB rs = 0 by rw [HE.out, hc]; rfl)
                clear hc
                go_wp2
                go_ret; exact ⟨code_is E.out, belowThen hb hb2⟩
              · have E := Lib.hid (show progB rs = 5 by rw [HE.out, hc]; rfl)
                clear hc
                go_wp2
                go_ret; exact ⟨code_is E.out, belowThen hb hb2⟩

end Go.Proofs.YtalneeelcdmoaaaGreatDoor

