/-
  May a body be asked? In the program and in the model.
-/
import Derived.Test.YtahkkelahocplaaDoorL5
import Derived.Test.YtahkkelahocplaaDoorAskMath
import Derived.Test.YtahkkelahocplaaDoorRule3
namespace Go.Proofs.YtahkkelahocplaaDoor
open Go.RowKit

/-- A body may be asked. -/
def askB (qs : List Pt) : Bool := decide (1 ≤ qs.length) && (bodyB qs && decide (qs.length ≤ 4)) && tightB (asVars (partsT [] qs)) qs

theorem body_three {qs : List Pt} (h : bodyB qs = true) : ∀ q ∈ qs, q.2.2.length ≤ 3 := by
  intro q hq
  unfold bodyB at h
  have := List.all_eq_true.1 h q hq
  unfold atomB at this
  simp only [Bool.and_eq_true, decide_eq_true_eq] at this
  exact this.2.2

theorem body_small {qs : List Pt} (h : bodyB qs = true) : ∀ s ∈ partsT [] qs, s.size ≤ 16 := by
  intro s hs
  rw [partsT_all, mem_puts] at hs
  rcases hs with hs | hs
  · obtain ⟨q, hq, hv⟩ := List.mem_flatMap.1 hs
    unfold bodyB at h
    have := List.all_eq_true.1 h q hq
    unfold atomB at this
    simp only [Bool.and_eq_true, decide_eq_true_eq] at this
    obtain ⟨t, ht, rfl⟩ := List.mem_map.1 hv
    have ha := this.1
    unfold argsB at ha
    have h1 := List.all_eq_true.1 ha t (List.mem_filter.1 ht).1
    unfold termB at h1
    rw [show t.2.size = t.2.data.toList.length from rfl]
    split at h1
    · have := var_le h1; omega
    · have := name_le h1; omega
  · simp at hs

set_option maxHeartbeats 1000000 in
theorem implAskOk_any (B : Option Addr) (m d : Nat) (qs : List Pt) (w : World) (h : IsParts w 0 w.heap.size B m d qs) :
    Calls Tryd.prog 40 #[.slice B m d] w (BoolPost (askB qs) w) := by
  have L := Lib.hid h.1
  have H := Lib.hid h; clear h
  by_cases hm : (0 : Int) < (m : Int)
  · go_enter Tryd.func40, Tryd.ntmps40
    go_wp2_with fail
    refine (bodyOk_any B m d qs w H.out).mono ?_; rintro e w1 ⟨rfl, hb1⟩
    cases hB : (bodyB qs && decide (qs.length ≤ 4))
    · have E := Lib.hid (show askB qs = false by unfold askB; rw [hB]; simp)
      go_wp2
      go_ret; exact ⟨retB E.out.symm, hb1⟩
    · have h4 : bodyB qs = true ∧ qs.length ≤ 4 := by simpa using hB
      have E := Lib.hid (show askB qs = !looseB [((⟨#[]⟩, []), qs)] (mvars qs) by unfold askB; rw [hB, tight_loose ⟨#[]⟩, L.out]; simp; omega)
      have hl := L.out
      go_wp2_with fail
      refine (isLoose_any ⟨#[]⟩ none 0 0 [] B m d qs w1 (Nat.zero_le _) ⟨rfl, Nat.le_refl _, Nat.zero_le _, fun h0 => absurd h0 (by simp)⟩ (H.out.up PartE.stays hb1) (body_three h4.1) (by omega)).mono ?_; rintro e w2 ⟨rfl, hb2⟩
      go_wp2
      go_ret; exact ⟨retB E.out.symm, belowThen hb1 hb2⟩
  · have E := Lib.hid (show askB qs = false by unfold askB; rw [L.out]; (have : m = 0 := by omega); subst this; rfl)
    go_enter Tryd.func40, Tryd.ntmps40
    go_wp2
    go_ret; exact ⟨retB E.out.symm, Below.refl _ _⟩

set_option maxHeartbeats 1000000 in
theorem specAskOk_any (B : Option Addr) (m d : Nat) (qs : List Pt) (w : World) (h : IsParts w 0 w.heap.size B m d qs) :
    Calls Tryd.prog 41 #[.slice B m d] w (BoolPost (askB qs) w) := by
  have L := Lib.hid h.1
  have hmx := h.len
  unfold maxLen at hmx
  have H := Lib.hid h; clear h
  go_enter Tryd.func41, Tryd.ntmps41
  go_wp2
  go_loopw [3] (fun i wr => ∃ k : Nat, k ≤ m ∧ i = .int .i64 (k : Int) ∧ bodyB (qs.take k) = true ∧ Below w.heap.size w wr) (fun i _ => m - (intOf i).toNat)
  case atStart => exact ⟨0, Nat.zero_le _, rfl, rfl, Below.refl _ _⟩
  case round =>
    obtain ⟨k, hk, rfl, hd, HB⟩ := hrel
    have HD := Lib.hid hd; clear hd
    by_cases hlt : k < m
    · have hlt2 : (k : Int) < (m : Int) := by omega
      obtain ⟨p, q, hA, hlo, hhi, hg, hE⟩ := (H.out.below PartE.stays HB (Nat.le_refl _)).at_ hlt
      obtain ⟨C, n', c', d1, d2, d3, d4, d5⟩ := hE.out
      clear hE
      subst hA
      have HG := Lib.hid hg; clear hg
      have HT := Lib.hid (d5.keep (lo' := 0) (hi' := wr.heap.size) (fun _ _ _ => rfl) (Nat.le_refl _) HB.size); clear d5
      go_wp2_with fail
      refine (specAtomOk_any _ _ _ _ q.2.2 _ d3 HT.out).mono ?_; rintro e w1 ⟨rfl, hb1⟩
      go_wp2
      · go_ret; exact ⟨retB (by unfold askB; rw [bodyB_no HG.out (atom_no (by assumption))]; simp), belowThen HB hb1⟩
      · go_roundw
        case rel => exact ⟨k + 1, by omega, by go_num, bodyB_snoc HG.out HD.out (atom_yes (by assumption)), belowThen HB hb1⟩
        case measure => simp [intOf]; omega
    · have hbo := bodyB_all L.out hlt HD.out
      have E := Lib.hid hbo
      have hl := L.out
      by_cases hr : (1 ≤ m ∧ m ≤ 4)
      · have hi : (decide ((1 : Int) ≤ (m : Int)) && decide ((m : Int) ≤ 4)) = true := by simp; omega
        have E2 := Lib.hid (show askB qs = tightB (asVars (partsT [] qs)) qs by unfold askB; rw [hbo, L.out]; simp; omega)
        have hlenV := partsT_len qs [] (body_three hbo)
        rw [hl] at hlenV
        simp only [List.length_nil] at hlenV
        go_wp2_with (go_at_call 82; refine (in_any _ _ _ _).mono ?_; rintro e w' ⟨rfl, rfl⟩)
        refine (l5Rule_any ⟨#[120]⟩ B m d qs wr (H.out.up PartE.stays HB) (body_three E.out) (by omega) (body_small E.out)).mono ?_; rintro e w1 ⟨A5, c5, rfl, hT5, hb1⟩
        have HT5 := Lib.hid hT5; have HB1 := belowThen HB hb1
        clear hT5
        go_wp2_with fail
        refine (l2Tight_any _ A5 _ c5 _ B m d qs w1 HT5.out (H.out.up PartE.stays HB1) (body_three E.out) (by omega) (by omega)).mono ?_; rintro e w2 ⟨rfl, hb2⟩
        go_wp2
        go_ret; exact ⟨retB E2.out.symm, belowThen HB1 hb2⟩
      · have hi : (decide ((1 : Int) ≤ (m : Int)) && decide ((m : Int) ≤ 4)) = false := by simp; omega
        have E2 := Lib.hid (show askB qs = false by unfold askB; rw [hbo, L.out]; simp; omega)
        go_wp2_with (go_at_call 82; refine (in_any _ _ _ _).mono ?_; rintro e w' ⟨rfl, rfl⟩)
        go_ret; exact ⟨retB E2.out.symm, HB⟩

end Go.Proofs.YtahkkelahocplaaDoor
