/-
  What is wrong with rules, in the program. What is wrong with rules, in the program: all of it. The kind of errors, as it lies when a call begins: out of the tie, and a world where it lies so.
-/
import Derived.Test.YtalneeelcdmoaaaGreatDoorCheckSpec
import Derived.Test.YtalneeelcdmoaaaGreatDoorStrataRun
import Derived.Test.YtalneeelcdmoaaaGreatDoorCounts
import Derived.Test.YtalneeelcdmoaaaGreatDoorErrAs
import Derived.Test.YtalneeelcdmoaaaGreatDoorRows
import Derived.ProofKit
import Derived.LaidMore
import Derived.LaidLaws
import Derived.LaidHandle
import Derived.Stop.Joined
namespace Go.Proofs.YtalneeelcdmoaaaGreatDoor
open Go.RowKit

theorem atomB_name {a : At} (h : atomB a = true) : a.1.size ≤ maxLen := by
  unfold atomB nameB at h
  simp only [Bool.and_eq_true, decide_eq_true_eq] at h
  have h1 := h.2.1.1
  unfold letters at h1
  simp only [Bool.and_eq_true, decide_eq_true_eq] at h1
  have h2 : a.1.size = a.1.data.toList.length := (Array.length_toList (xs := a.1.data)).symm
  have h3 := h1.2.2
  rw [h2]; unfold maxLen; clear h h1; omega

theorem atsOf_ok {rs : List Rl} (h : rs.all ruleB = true) : ∀ a ∈ atsOf rs, a.2.length ≤ 3 ∧ a.1.size ≤ maxLen := by
  intro a ha
  have hB : atomB a = true := by
    unfold atsOf at ha
    obtain ⟨r, hr, ha⟩ := List.mem_flatMap.1 ha
    have hp := ruleB_parts (List.all_eq_true.1 h r hr)
    rcases List.mem_cons.1 ha with rfl | ha
    · exact hp.2.1
    · obtain ⟨q, hq, rfl⟩ := List.mem_map.1 ha
      have := hp.1
      unfold bodyB at this
      exact List.all_eq_true.1 this q hq
  exact ⟨atomB_three hB, atomB_name hB⟩

/-- Is there a rule that is loose? -/
def IdxPost (rs : List Rl) (w : World) (e : Ending) (w' : World) : Prop :=
  ∃ k : Int, e = .returned (.int .i64 k) ∧ decide (0 ≤ k) = !rs.all ruleTight ∧ Below w.heap.size w w'

set_option maxRecDepth 100000 in
set_option maxHeartbeats 4000000 in
theorem indexLoose_any (A : Option Addr) (n c : Nat) (rs : List Rl) (w : World) (h : IsRules w 0 w.heap.size A n c rs) (hn : n ≤ 8) (hok : rs.all ruleB = true) :
    Calls Tryz.prog 99 #[.slice A n c, .func (.func 58) #[] #[]] w (IdxPost rs w) := by
  have HL := Lib.hid h.1
  have H := Lib.hid h; clear h
  have HALL := Lib.hid hok; clear hok
  go_enter Tryz.func99, Tryz.ntmps99
  go_wp2
  go_loopw [5, 8] (fun _ x wr => ∃ k : Nat, k ≤ n ∧ x = .int .i64 (k : Int) ∧ (∀ q ∈ rs.take k, ruleTight q = true) ∧ Below w.heap.size w wr) (fun _ x _ => n - (intOf x).toNat)
  case atStart => exact ⟨0, Nat.zero_le _, rfl, fun q hq => by simp at hq, Below.refl _ _⟩
  case round =>
    obtain ⟨k, hkn, rfl, hS, hb⟩ := hrel
    have HQ := Lib.hid hS; clear hS
    by_cases hlk : k < n
    · obtain ⟨p, r, A', n', c', B, m, d, hA, hpb, hg, d1, d2, d3, d4, d5, d6⟩ := rule_at (H.out.below RuleE.stays hb (Nat.le_refl _)) hlk
      subst hA
      have hok := ruleB_parts (List.all_eq_true.1 HALL.out r (List.mem_of_getElem? hg))
      have HG := Lib.hid hg; have HO := Lib.hid hok
      have hm4 : m ≤ 4 := by rw [← d6.1]; exact hok.2.2
      have HT := Lib.hid (d4.keep (lo' := 0) (hi' := wr.heap.size) (fun _ _ _ => rfl) (Nat.le_refl _) hb.size)
      have HP := Lib.hid (d6.keep (lo' := 0) (hi' := wr.heap.size) PartE.stays (fun _ _ _ => rfl) (Nat.le_refl _) hb.size)
      have HN := Lib.hid d2
      clear hg d2 d4 d6 hok
      go_wp2_with fail
      refine (isLoose_any r.1.1 A' n' c' r.1.2 B m d r.2 _ HN.out HT.out HP.out (rule_three HO.out.1) (by omega)).mono ?_; rintro e w2 ⟨rfl, hb2⟩
      cases hr : ruleTight r
      · have E := Lib.hid (all_no (List.mem_of_getElem? HG.out) hr)
        have hr' : looseB [((r.1.1, r.1.2), r.2)] (mvars r.2) = true := by
          have := tight_rule r
          unfold ruleTight at hr
          rw [hr] at this
          simpa using this.symm
        rw [hr']
        clear hr hr' d1 d3 d5
        go_wp2
        go_ret; exact ⟨(k : Int), rfl, by rw [E.out]; simp, belowThen hb hb2⟩
      · have hr' : looseB [((r.1.1, r.1.2), r.2)] (mvars r.2) = false := by
          have := tight_rule r
          unfold ruleTight at hr
          rw [hr] at this
          simpa using this.symm
        have HS2 := Lib.hid (all_snoc HG.out HQ.out hr)
        rw [hr']
        clear hr hr' d1 d3 d5
        go_wp2
        go_roundw
        case rel => exact ⟨k + 1, by omega, by go_num, HS2.out, belowThen hb hb2⟩
        case measure => simp [intOf]; omega
    · have hke : k = n := by omega
      subst hke
      have HT := Lib.hid (all_end (f := ruleTight) HL.out HQ.out)
      go_wp2
      go_ret; exact ⟨-1, rfl, by rw [HT.out]; simp, hb⟩

set_option maxRecDepth 100000 in
set_option maxHeartbeats 4000000 in
theorem containsLoose_any (A : Option Addr) (n c : Nat) (rs : List Rl) (w : World) (h : IsRules w 0 w.heap.size A n c rs) (hn : n ≤ 8) (hok : rs.all ruleB = true) :
    Calls Tryz.prog 57 #[.slice A n c, .func (.func 58) #[] #[]] w (BoolPost (!rs.all ruleTight) w) := by
  have H := Lib.hid h; clear h
  have HALL := Lib.hid hok; clear hok
  go_enter Tryz.func57, Tryz.ntmps57
  go_wp2_with fail
  refine (indexLoose_any A n c rs _ H.out (by omega) HALL.out).mono ?_; rintro e w1 ⟨k, rfl, hk, hb1⟩
  have HK := Lib.hid hk; clear hk
  go_wp2
  go_ret; exact ⟨retB (by rw [← HK.out]), hb1⟩

end Go.Proofs.YtalneeelcdmoaaaGreatDoor

namespace Go.Proofs.YtalneeelcdmoaaaGreatDoor
open Go.RowKit

/-- The kind of errors lies where the program keeps it. -/
def ErrKind (w : World) : Prop := w.cell? ⟨0, 0, none⟩ = some (.iface 180 (.agg #[.pointer (some ⟨hB, 85, none⟩)]))

theorem ErrKind.pos {w : World} (h : ErrKind w) : 0 < w.heap.size := by
  rcases Nat.eq_zero_or_pos w.heap.size with h0 | h1
  · unfold ErrKind at h; simp [World.cell?, h0] at h
  · exact h1

theorem ErrKind.later {w w' : World} (h : ErrKind w) (hb : Below w.heap.size w w') : ErrKind w' :=
  (hb.cell (p := ⟨0, 0, none⟩) h.pos).trans h

set_option maxRecDepth 100000 in
set_option maxHeartbeats 4000000 in
theorem implProgCheck_any (A : Option Addr) (n c : Nat) (rs : List Rl) (w : World) (h : IsRules w 0 w.heap.size A n c rs) (hk : ErrKind w) :
    Calls Tryz.prog 16 #[.slice A n c] w (CodePost (progB rs) w) := by
  have hm := h.len
  unfold maxLen at hm
  have HL := Lib.hid h.1
  have H := Lib.hid h; clear h
  have HK := Lib.hid hk; clear hk
  go_enter Tryz.func16, Tryz.ntmps16
  go_wp2
  go_loopw [4, 12] (fun _ x wr => ∃ i : Nat, i ≤ n ∧ x = .int .i64 (i : Int) ∧ (∀ q ∈ rs.take i, ruleB q = true) ∧ Below w.heap.size w wr) (fun _ x _ => n - (intOf x).toNat)
  case atStart => exact ⟨0, Nat.zero_le _, rfl, fun q hq => by simp at hq, Below.refl _ _⟩
  case round =>
    obtain ⟨i, hin, rfl, hS, hb⟩ := hrel
    have HS := Lib.hid hS; clear hS
    by_cases hlt : i < n
    · obtain ⟨p, r, A', n', c', B, m, d, hA, hpb, hg, d1, d2, d3, d4, d5, d6⟩ := rule_at (H.out.below RuleE.stays hb (Nat.le_refl _)) hlt
      subst hA
      have HG := Lib.hid hg
      have hb0 := below1 wr (.cells #[.string r.1.1, .slice A' n' c', .slice B m d] 65)
      have HN := Lib.hid d2
      have HR : Hid (IsRule wr wr.heap.size A' n' c' B m d r.1.2 r.2) := Lib.hid ⟨d4.keep (fun _ _ _ => rfl) (Nat.le_refl _) hb.size, d6.keep PartE.stays (fun _ _ _ => rfl) (Nat.le_refl _) hb.size⟩
      clear hg d2 d4 d6
      go_wp2_with fail
      refine (ruleOk_any r.1.1 A' n' c' B m d r.1.2 r.2 _ HN.out (HR.out.up hb0)).mono ?_; rintro e w1 ⟨rfl, hb1⟩
      have hb2 := belowThen (belowThen hb hb0) hb1
      cases hr : ruleB r
      · have E := Lib.hid (prog1 (all_no (List.mem_of_getElem? HG.out) hr))
        have hr' : ruleB ((r.1.1, r.1.2), r.2) = false := hr
        try rw [hr']
        clear hr hr' d1 d3 d5
        go_wp2
        go_ret; exact ⟨code_is E.out, hb2⟩
      · have hr' : ruleB ((r.1.1, r.1.2), r.2) = true := hr
        have HS2 := Lib.hid (all_snoc HG.out HS.out hr)
        try rw [hr']
        clear hr hr' d1 d3 d5
        go_wp2
        go_roundw
        case rel => exact ⟨i + 1, by omega, by go_num, HS2.out, hb2⟩
        case measure => simp [intOf]; omega
    · have hie : i = n := by omega
      subst hie
      have HALL := Lib.hid (all_end (f := ruleB) HL.out HS.out)
      by_cases h8 : 8 < i
      · have E := Lib.hid (prog2 HALL.out (by rw [HL.out]; exact h8))
        have h8I : (8 : Int) < (i : Int) := by omega
        go_wp2
        go_ret; exact ⟨code_is E.out, hb⟩
      · have h8I : ¬ (8 : Int) < (i : Int) := by omega
        have H8 := Lib.hid (show ¬ 8 < rs.length by rw [HL.out]; exact h8)
        have H4 := Lib.hid (rule_four HALL.out)
        have HA := Lib.hid (atsOf_ok HALL.out)
        go_wp2_with fail
        refine (argCounts_any A i c rs _ (H.out.up RuleE.stays hb) (by omega) H4.out HA.out).mono ?_; rintro e w1 ⟨v, rfl, _, hb1⟩
        cases h3 : alikeB (atsOf rs)
        · have E := Lib.hid (prog3 HALL.out H8.out h3)
          clear h3
          go_wp2
          go_ret; exact ⟨code_is E.out, belowThen hb hb1⟩
        · have HB1 := belowThen hb hb1
          have H3 := Lib.hid h3
          clear h3
          go_wp2_with fail
          refine (containsLoose_any A i c rs _ (H.out.up RuleE.stays HB1) (by omega) HALL.out).mono ?_; rintro e w2 ⟨rfl, hb2⟩
          have HB2 := belowThen HB1 hb2
          cases h4 : rs.all ruleTight
          · have E := Lib.hid (prog4 HALL.out H8.out H3.out h4)
            clear h4
            go_wp2
            go_ret; exact ⟨code_is E.out, HB2⟩
          · have HE := Lib.hid (prog5 HALL.out H8.out H3.out h4)
            clear h4
            go_wp2_with fail
            refine (strataOf_any A i c rs _ (H.out.up RuleE.stays HB2) (by omega) H4.out (fun a ha => (HA.out a ha).2)).mono ?_
            rintro e w3 (⟨hc, nm, rfl, hb3⟩ | ⟨hc, v3, rfl, _, hb3⟩)
            · have HB3 := belowThen HB2 hb3
              have E := Lib.hid (show progB rs = 5 by rw [HE.out, hc]; rfl)
              have HK3 := Lib.hid (HK.out.later HB3)
              clear hc hb3 hb2 hb1 hb HB1 HB2
              go_wp2_with fail
              refine (as_hit nm ⟨w3.heap.size, 0, none⟩ (.string ⟨#[]⟩) _ (HK3.out.later (below1 w3 _)) (by simp) (by simp)).mono ?_; rintro e w4 ⟨rfl, rfl⟩
              have hall : ∀ o0 o1 o2 o3 o4, Below w3.heap.size w3 (((((w3.alloc o0).alloc o1).alloc o2).alloc o3).alloc o4) := fun o0 o1 o2 o3 o4 =>
                (((((Below.refl _ _).alloc (Nat.le_refl _) _).alloc (by simp) _).alloc (by simp; omega) _).alloc (by simp; omega) _).alloc (by simp; omega) _
              go_wp2
              go_ret; exact ⟨code_is E.out, belowThen HB3 (hall _ _ _ _ _)⟩
            · have HB3 := belowThen HB2 hb3
              have E := Lib.hid (show progB rs = 0 by rw [HE.out, hc]; rfl)
              clear hc hb3 hb2 hb1 hb HB1 HB2
              go_wp2_with fail
              refine (as_nil _ _).mono ?_; rintro e w4 ⟨rfl, rfl⟩
              go_wp2
              go_ret; exact ⟨code_is E.out, belowThen HB3 (below1 _ _)⟩

end Go.Proofs.YtalneeelcdmoaaaGreatDoor

namespace Go.Proofs.YtalneeelcdmoaaaGreatDoor
open Go.ChangeShapes Go.WideShapes Go.ChangeAt Go.RowKit

/-- What the rows list. -/
abbrev laidE : List (String × DataW Unit) := [("errors.errorType", Rows.laid_errors_errorType)]

theorem Tryz.gErr : Tryz.prog.globalNamed "errors.errorType" = some 0 := by kernel_rfl
theorem Tryz.tRtype : (Tryz.prog.cutTypes.find? (·.1 == "internal/reflectlite.rtype")).map (·.2) = some 180 := by kernel_rfl
theorem Tryz.oneErr : ((List.range Tryz.prog.types.size).filter fun t => Tryz.prog.rowNamed t [101, 114, 114, 111, 114]) = [85] := by kernel_rfl

theorem errKind_of_laid {W : World} (h : laidMetH Tryz.prog laidE W) : ErrKind W := by
  have h' : laidMet Tryz.prog [] W ∧ handlesMet Tryz.prog laidE W := h
  obtain ⟨name, u, ty, e1, e2, e3, e4, e5⟩ := h'.2 _ (List.mem_singleton.2 rfl)
  have en : name = [101, 114, 114, 111, 114] := (Option.some.inj e1).symm
  subst en
  obtain rfl := Option.some.inj (Tryz.tRtype.symm.trans e2)
  have hm : ty ∈ (List.range Tryz.prog.types.size).filter fun t => Tryz.prog.rowNamed t [101, 114, 114, 111, 114] := List.mem_filter.2 ⟨List.mem_range.2 e3, e4⟩
  rw [Tryz.oneErr] at hm
  obtain rfl := List.mem_singleton.1 hm
  have hh : typeHandle Tryz.prog 85 = .pointer (some ⟨hB, 85, none⟩) := by kernel_rfl
  rw [hh] at e5
  unfold ErrKind
  simpa using World.var?_cell Tryz.gErr e5 0

theorem err_met (os : Os) (args : Array Value) : laidMetH Tryz.prog laidE ((World.doorLaid Tryz.prog 400 os).forCall (fun _ _ => 0) ⟨#[], args, []⟩).memory :=
  laidMetH_of_parts3 (fuel := 8) (laidMet_of_run' 8 (by kernel_rfl) (by kernel_rfl)) (by kernel_rfl) (by kernel_rfl)

end Go.Proofs.YtalneeelcdmoaaaGreatDoor

