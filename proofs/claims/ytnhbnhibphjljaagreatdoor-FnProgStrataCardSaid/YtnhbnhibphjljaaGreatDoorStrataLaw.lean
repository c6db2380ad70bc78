/-
  The law of ProgStrata, proved: for every code that can be read, of the rules that are drawn: the strata are told as the model tells them; rules of one name are of one stratum, and no part stands above, nor a "not" at, its rule's own.
-/
import Derived.Test.YtnhbnhibphjljaaGreatDoorDrawLaw
import Derived.Test.YtnhbnhibphjljaaGreatDoorOpenB
import Derived.Test.YtnhbnhibphjljaaGreatDoorOpen
import Derived.Test.YtnhbnhibphjljaaGreatDoorClosed
import Derived.Test.YtnhbnhibphjljaaGreatDoorCards
import Derived.Test.YtnhbnhibphjljaaGreatDoorTie
import Derived.SevenTiedAt
namespace Go.Proofs.YtnhbnhibphjljaaGreatDoor
open Go.RowKit

theorem belowSee {w w' : World} (h : Below w.heap.size w w') {p : Addr} {v : Value} (c : w.cell? p = some v) : w'.cell? p = some v := (h.cell (World.block_lt_of_cell? _ _ c)).trans c

theorem belowDrewq {B : Nat} {a w : World} (h : Below B a w) (n : Nat) : Below B a (w.drewN n) := ⟨h.os, h.tape, h.output, h.size, h.block⟩

theorem level_tell {rs : List Rl} (hp : progB rs = 0) {i : Nat} (hi : i < rs.length) :
    Der (edgesOf rs) (headAt rs i) (at0 (levelsL rs) i) ∧ ∀ v, Der (edgesOf rs) (headAt rs i) v → v ≤ at0 (levelsL rs) i := by
  obtain ⟨h1, _, h3⟩ := passes_tell (ups_cover rs) _ (turns_lt rs.length) (levelsL rs) (levelsL_ups rs).symm
  refine h3 (fun hc => ?_) i hi
  have h := (cycB_high rs).2 (h1.2 hc)
  rw [(prog_sound hp).2.2] at h
  cases h

theorem level_even {rs : List Rl} (hp : progB rs = 0) {i k : Nat} {ri rk : Rl} (hi : rs[i]? = some ri) (hk : rs[k]? = some rk) (e : ri.1.1 = rk.1.1) : at0 (levelsL rs) i = at0 (levelsL rs) k := by
  obtain ⟨i1, i2⟩ := level_tell hp (List.getElem?_eq_some_iff.1 hi).1
  obtain ⟨k1, k2⟩ := level_tell hp (List.getElem?_eq_some_iff.1 hk).1
  rw [headAt_of hi, e] at i1 i2
  rw [headAt_of hk] at k1 k2
  exact Nat.le_antisymm (k2 _ i1) (i2 _ k1)

theorem level_part {rs : List Rl} (hp : progB rs = 0) {i k : Nat} {ri rk : Rl} (hi : rs[i]? = some ri) (hk : rs[k]? = some rk) {q : Pt} (hq : q ∈ ri.2) (e : q.2.1 = rk.1.1) : at0 (levelsL rs) k + (if q.1 then 1 else 0) ≤ at0 (levelsL rs) i := by
  obtain ⟨hil, _⟩ := List.getElem?_eq_some_iff.1 hi
  obtain ⟨hkl, _⟩ := List.getElem?_eq_some_iff.1 hk
  obtain ⟨_, i2⟩ := level_tell hp hil
  obtain ⟨k1, _⟩ := level_tell hp hkl
  rw [headAt_of hi] at i2
  rw [headAt_of hk] at k1
  refine i2 _ (Der.step (s := q.1) ?_ k1)
  refine mem_edges.2 ⟨ri, List.mem_of_getElem? hi, q, hq, ⟨k, hkl, ?_⟩, rfl, e, rfl⟩
  rw [headAt_of hk, e]

theorem strata_at {rs : List Rl} {w : World} {lo hi m c : Nat} {A : Option Addr} {X : List Int} (hX : X = (levelsL rs).map fun x => ((x : Nat) : Int)) (h : OwnIs w lo hi A m c X) {i : Nat} (hm : i < m) : ∃ g, A = some ⟨g, 0, none⟩ ∧ w.cell? ⟨g, i, none⟩ = some (.int .i64 ((at0 (levelsL rs) i : Nat) : Int)) := by
  obtain ⟨g, s, hA, hs, hc, _⟩ := h.at_ hm
  refine ⟨g, hA, ?_⟩
  subst hX
  rw [List.getElem?_map] at hs
  cases hl : (levelsL rs)[i]? with
  | none => rw [hl] at hs; cases hs
  | some y =>
    rw [hl] at hs
    injection hs with hs
    rw [hc, ← hs]
    unfold at0; rw [hl]; rfl

set_option maxRecDepth 100000 in
set_option maxHeartbeats 8000000 in
theorem strataLaw_any (A : Option Addr) (n c : Nat) (w : World) (h : IsBytes w w.heap.size A n c) (hk : ErrKind w) :
    Calls Tryz.prog 12 #[.slice A n c] w (BoolPost true w) := by
  have HK := Lib.hid hk; clear hk
  go_enter Tryz.func12, Tryz.ntmps12
  go_wp2_with fail
  all_goals try (go_ret; exact ⟨rfl, Below.refl _ _⟩)
  refine (drawProgStrata_any A n c _ h).mono ?_; rintro e w1 ⟨B, k, d, rs, rfl, hD⟩
  have HD := Lib.hid hD
  clear hD
  obtain ⟨ls, hls⟩ : ∃ ls, rs.map rRl = ls := ⟨_, rfl⟩
  have HLN := Lib.hid (show ls.length = k by rw [← hls, List.length_map]; exact HD.out.len)
  have HI := Lib.hid (hls ▸ HD.out.rules)
  have HB1 := Lib.hid HD.out.be
  have hk9 := HD.out.few
  clear hls
  obtain ⟨X, hX⟩ : ∃ X, progStrata ls = X := ⟨_, rfl⟩
  have HX := Lib.hid hX
  have hx1 := progStrata_eight ls
  rw [hX] at hx1
  obtain ⟨m, hm⟩ : ∃ m, X.length = m := ⟨_, rfl⟩
  have HM := Lib.hid hm
  rw [hm] at hx1
  clear hX hm
  go_wp2_with fail
  refine (implProgStrata_any B k d ls _ HI.out (HK.out.later HB1.out)).mono ?_; rintro e w2 ⟨v, rfl, hrow, hb2⟩
  rw [HX.out, HM.out] at hrow
  obtain ⟨A2, c2, rfl, O2⟩ := OwnIs.of_row hrow HM.out.symm (Nat.zero_le _)
  have S2 := Lib.hid O2
  have HB2 := Lib.hid (belowThen HB1.out hb2)
  have HI2 := Lib.hid (HI.out.up RuleE.stays hb2)
  clear hrow O2 hb2 HI
  go_wp2_with fail
  refine (specProgStrata_any B k d ls _ HI2.out).mono ?_; rintro e w3 ⟨A3, c3, rfl, T3, hb3⟩
  rw [HX.out, HM.out] at T3 ⊢
  have S3 := Lib.hid ((S2.out.below hb3 (Nat.le_refl _)).keep (lo' := 0) (hi' := w3.heap.size) (fun _ _ _ => rfl) (Nat.le_refl _) hb3.size)
  have TT3 := Lib.hid (T3.keep (lo' := 0) (hi' := w3.heap.size) (fun _ _ _ => rfl) (Nat.zero_le _) (Nat.le_refl _))
  have HB3 := Lib.hid (belowThen HB2.out hb3)
  have HI3 := Lib.hid (HI2.out.up RuleE.stays hb3)
  clear T3 hb3 HI2 S2
  go_wp2_with fail
  refine (fsInts_same _ _ _ _ _ _ X _ S3.out TT3.out).mono ?_; rintro e w4 ⟨rfl, hb4⟩
  have S4 := Lib.hid ((S3.out.below hb4 (Nat.le_refl _)).keep (lo' := 0) (hi' := w4.heap.size) (fun _ _ _ => rfl) (Nat.le_refl _) hb4.size)
  have HB4 := Lib.hid (belowThen HB3.out hb4)
  have HI4 := Lib.hid (HI3.out.up RuleE.stays hb4)
  clear hb4 HI3 S3 TT3
  go_wp2_with fail
  refine (specProgCheck_any B k d ls _ HI4.out).mono ?_; rintro e w5 ⟨rfl, hb5⟩
  have S5 := Lib.hid ((S4.out.below hb5 (Nat.le_refl _)).keep (lo' := 0) (hi' := w5.heap.size) (fun _ _ _ => rfl) (Nat.le_refl _) hb5.size)
  have HB5 := Lib.hid (belowThen HB4.out hb5)
  have HI5 := Lib.hid (HI4.out.up RuleE.stays hb5)
  clear hb5 HI4 S4
  obtain ⟨z, hz⟩ : ∃ z, progB ls = z := ⟨_, rfl⟩
  rw [hz]
  have HZ := Lib.hid hz; clear hz
  by_cases h0 : z = 0
  · subst h0
    have HXL := Lib.hid (show X = (levelsL ls).map fun x => ((x : Nat) : Int) by rw [← HX.out]; exact if_pos HZ.out)
    have hmk : m = k := by rw [← HM.out, HXL.out, List.length_map, levels_count, HLN.out]
    subst hmk
    go_wp2
    go_loopw [5] (fun x wr => ∃ i : Nat, i ≤ m ∧ x = .int .i64 (i : Int) ∧ Below w5.heap.size w5 wr) (fun x _ => m - (intOf x).toNat)
    case atStart => exact ⟨0, Nat.zero_le _, rfl, Below.refl _ _⟩
    case round =>
      obtain ⟨i, hi, rfl, hbi⟩ := hrel
      have HBi := Lib.hid hbi; clear hbi
      by_cases hli : i < m
      · have hliI : (i : Int) < (m : Int) := by omega
        go_wp2
        go_loopw [6] (fun x wr => ∃ j : Nat, j ≤ m ∧ x = .int .i64 (j : Int) ∧ Below w5.heap.size w5 wr) (fun x _ => m - (intOf x).toNat)
        case atStart => exact ⟨0, Nat.zero_le _, rfl, HBi.out⟩
        case round =>
          obtain ⟨j, hj, rfl, hbj⟩ := hrel
          by_cases hlj : j < m
          · have hljI : (j : Int) < (m : Int) := by omega
            have HBj := Lib.hid hbj; clear hbj
            obtain ⟨p, ri, Bb, mb, db, hA, hgi, ci, cb, hP⟩ := rules_at HI5.out hli
            obtain ⟨p', rk, _, _, _, hA', hgk, ck, _, _⟩ := rules_at HI5.out hlj
            rw [hA] at hA'
            injection hA' with hA'
            subst hA'
            subst hA
            obtain ⟨g, hA2, xi⟩ := strata_at HXL.out S5.out hli
            obtain ⟨g', hA2', xk⟩ := strata_at HXL.out S5.out hlj
            rw [hA2] at hA2'
            injection hA2' with hA2'
            injection hA2' with hA2'
            subst hA2'
            subst hA2
            have HGi := Lib.hid hgi; have HGk := Lib.hid hgk
            have hm2 := hP.len; unfold maxLen at hm2
            have HP := Lib.hid hP
            obtain ⟨ai, hai⟩ : ∃ a, at0 (levelsL ls) i = a := ⟨_, rfl⟩
            obtain ⟨ak, hak⟩ : ∃ a, at0 (levelsL ls) j = a := ⟨_, rfl⟩
            rw [hai] at xi; rw [hak] at xk
            have HAi := Lib.hid hai; have HAk := Lib.hid hak
            have HCI := Lib.hid ci; have HCB := Lib.hid cb; have HCK := Lib.hid ck; have HXI := Lib.hid xi; have HXK := Lib.hid xk
            clear hai hak hgi hgk hP ci cb ck xi xk
            obtain ⟨b, hb⟩ : ∃ b, (ri.1.1.toList == rk.1.1.toList) = b := ⟨_, rfl⟩
            have hne : b = true → ((ai : Int) != (ak : Int)) = false := fun e => by
              have h2 := of_decide_eq_true ((bytes_is hb).symm.trans e)
              have h3 := level_even HZ.out HGi.out HGk.out h2
              rw [HAi.out, HAk.out] at h3
              subst h3
              simp
            have vi := belowSee HBj.out HCI.out; have vb := belowSee HBj.out HCB.out; have vk := belowSee HBj.out HCK.out; have yi := belowSee HBj.out HXI.out; have yk := belowSee HBj.out HXK.out
            cases b
            · clear hne
              go_wp2_with fail
              go_quiet (fail)
              have HBq := Lib.hid (belowDrewq HBj.out nq)
              go_wp2
              go_loopw [7] (fun x wr => ∃ q : Nat, q ≤ mb ∧ x = .int .i64 (q : Int) ∧ Below w5.heap.size w5 wr) (fun x _ => mb - (intOf x).toNat)
              case atStart => exact ⟨0, Nat.zero_le _, rfl, HBq.out⟩
              case round =>
                obtain ⟨q, hq, rfl, hbq⟩ := hrel
                have vb := belowSee hbq HCB.out
                by_cases hlq : q < mb
                · have hlqI : (q : Int) < (mb : Int) := by omega
                  obtain ⟨pp, pq, hB, _, _, hgq, hE⟩ := HP.out.at_ hlq
                  obtain ⟨f1, f2, _, A5, n5, c5, f3, _⟩ := hE
                  subst hB
                  have HPT := Lib.hid (level_part HZ.out HGi.out HGk.out (List.mem_of_getElem? hgq)); rw [HAi.out, HAk.out] at HPT
                  obtain ⟨bq, nmq, tq⟩ := pq
                  simp only at f1 f2 HPT
                  have g1 := belowSee hbq f1; have g2 : wr.cell? ⟨(pp.add (q * 3)).block, (pp.add (q * 3)).off + 1, none⟩ = some (.string nmq) := belowSee hbq f2; have g3 : wr.cell? ⟨(pp.add (q * 3)).block, (pp.add (q * 3)).off + 2, none⟩ = some (.slice A5 n5 c5) := belowSee hbq f3
                  have vk := belowSee hbq HCK.out; have vi := belowSee hbq HXI.out; have vj := belowSee hbq HXK.out
                  have uk := cellUp vk; have ui := cellUp vi; have uj := cellUp vj
                  have HBn := Lib.hid (hbq.alloc hbq.size)
                  clear f1 f2 f3 hgq hbq vk vi vj
                  obtain ⟨b2, hb2⟩ : ∃ b2, (nmq.toList == rk.1.1.toList) = b2 := ⟨_, rfl⟩
                  have HB2 := Lib.hid (bytes_is hb2)
                  cases b2
                  · skip
                    go_wp2_with fail
                    go_quiet (fail)
                    go_wp2
                    go_roundw
                    case rel => exact ⟨q + 1, by omega, by go_num, belowDrewq (HBn.out _) _⟩
                    case measure => simp [intOf]; omega
                  · have hpt := HPT.out (of_decide_eq_true HB2.out.symm)
                    cases bq
                    · simp only [Bool.false_eq_true, if_false, Nat.add_zero] at hpt
                      have hx : ¬ (ai : Int) < (ak : Int) := by omega
                      clear hpt
                      go_wp2_with fail
                      go_quiet (fail)
                      go_wp2
                      go_roundw
                      case rel => exact ⟨q + 1, by omega, by go_num, belowDrewq (HBn.out _) _⟩
                      case measure => simp [intOf]; omega
                    · simp only [if_true] at hpt
                      have hx : ¬ (ai : Int) < (ak : Int) := by omega
                      have hx2 : ¬ (ai : Int) ≤ (ak : Int) := by omega
                      have hx3 : (ak : Int) < (ai : Int) := by omega
                      have hx4 : decide ((ai : Int) ≤ (ak : Int)) = false := decide_eq_false hx2
                      have hx5 : ¬ ai ≤ ak := by omega
                      clear hpt
                      go_wp2_with fail
                      go_quiet (fail)
                      go_wp2
                      go_roundw
                      case rel => exact ⟨q + 1, by omega, by go_num, belowDrewq (HBn.out _) _⟩
                      case measure => simp [intOf]; omega
                · have hlqI : ¬ (q : Int) < (mb : Int) := by omega
                  have HBy := Lib.hid hbq; clear hbq
                  go_wp2
                  go_roundw
                  case rel => exact ⟨j + 1, by omega, by go_num, HBy.out⟩
                  case measure => simp [intOf]; omega
            · have hne2 := hne rfl; clear hne
              go_wp2_with fail
              go_quiet (fail)
              have HBq := Lib.hid (belowDrewq HBj.out nq)
              go_wp2
              go_loopw [7] (fun x wr => ∃ q : Nat, q ≤ mb ∧ x = .int .i64 (q : Int) ∧ Below w5.heap.size w5 wr) (fun x _ => mb - (intOf x).toNat)
              case atStart => exact ⟨0, Nat.zero_le _, rfl, HBq.out⟩
              case round =>
                obtain ⟨q, hq, rfl, hbq⟩ := hrel
                have vb := belowSee hbq HCB.out
                by_cases hlq : q < mb
                · have hlqI : (q : Int) < (mb : Int) := by omega
                  obtain ⟨pp, pq, hB, _, _, hgq, hE⟩ := HP.out.at_ hlq
                  obtain ⟨f1, f2, _, A5, n5, c5, f3, _⟩ := hE
                  subst hB
                  have HPT := Lib.hid (level_part HZ.out HGi.out HGk.out (List.mem_of_getElem? hgq)); rw [HAi.out, HAk.out] at HPT
                  obtain ⟨bq, nmq, tq⟩ := pq
                  simp only at f1 f2 HPT
                  have g1 := belowSee hbq f1; have g2 : wr.cell? ⟨(pp.add (q * 3)).block, (pp.add (q * 3)).off + 1, none⟩ = some (.string nmq) := belowSee hbq f2; have g3 : wr.cell? ⟨(pp.add (q * 3)).block, (pp.add (q * 3)).off + 2, none⟩ = some (.slice A5 n5 c5) := belowSee hbq f3
                  have vk := belowSee hbq HCK.out; have vi := belowSee hbq HXI.out; have vj := belowSee hbq HXK.out
                  have uk := cellUp vk; have ui := cellUp vi; have uj := cellUp vj
                  have HBn := Lib.hid (hbq.alloc hbq.size)
                  clear f1 f2 f3 hgq hbq vk vi vj
                  obtain ⟨b2, hb2⟩ : ∃ b2, (nmq.toList == rk.1.1.toList) = b2 := ⟨_, rfl⟩
                  have HB2 := Lib.hid (bytes_is hb2)
                  cases b2
                  · skip
                    go_wp2_with fail
                    go_quiet (fail)
                    go_wp2
                    go_roundw
                    case rel => exact ⟨q + 1, by omega, by go_num, belowDrewq (HBn.out _) _⟩
                    case measure => simp [intOf]; omega
                  · have hpt := HPT.out (of_decide_eq_true HB2.out.symm)
                    cases bq
                    · simp only [Bool.false_eq_true, if_false, Nat.add_zero] at hpt
                      have hx : ¬ (ai : Int) < (ak : Int) := by omega
                      clear hpt
                      go_wp2_with fail
                      go_quiet (fail)
                      go_wp2
                      go_roundw
                      case rel => exact ⟨q + 1, by omega, by go_num, belowDrewq (HBn.out _) _⟩
                      case measure => simp [intOf]; omega
                    · simp only [if_true] at hpt
                      have hx : ¬ (ai : Int) < (ak : Int) := by omega
                      have hx2 : ¬ (ai : Int) ≤ (ak : Int) := by omega
                      have hx3 : (ak : Int) < (ai : Int) := by omega
                      have hx4 : decide ((ai : Int) ≤ (ak : Int)) = false := decide_eq_false hx2
                      have hx5 : ¬ ai ≤ ak := by omega
                      clear hpt
                      go_wp2_with fail
                      go_quiet (fail)
                      go_wp2
                      go_roundw
                      case rel => exact ⟨q + 1, by omega, by go_num, belowDrewq (HBn.out _) _⟩
                      case measure => simp [intOf]; omega
                · have hlqI : ¬ (q : Int) < (mb : Int) := by omega
                  have HBy := Lib.hid hbq; clear hbq
                  go_wp2
                  go_roundw
                  case rel => exact ⟨j + 1, by omega, by go_num, HBy.out⟩
                  case measure => simp [intOf]; omega
          · have hljI : ¬ (j : Int) < (m : Int) := by omega
            have HBj := Lib.hid hbj; clear hbj
            go_wp2
            go_roundw
            case rel => exact ⟨i + 1, by omega, by go_num, HBj.out⟩
            case measure => simp [intOf]; omega
      · have hliI : ¬ (i : Int) < (m : Int) := by omega
        go_wp2
        go_ret; exact ⟨rfl, belowThen HB5.out HBi.out⟩
  · have hI : ¬ (z : Int) = 0 := by omega
    have hzb : ((z : Int) != 0) = true := by simpa using hI
    go_wp2_with fail
    refine (specProgStrata_any B k d ls _ HI5.out).mono ?_; rintro e w6 ⟨A6, c6, rfl, T6, hb6⟩
    rw [HX.out, HM.out] at T6 ⊢
    have S6 := Lib.hid ((S5.out.below hb6 (Nat.le_refl _)).keep (lo' := 0) (hi' := w6.heap.size) (fun _ _ _ => rfl) (Nat.le_refl _) hb6.size)
    have TT6 := Lib.hid (T6.keep (lo' := 0) (hi' := w6.heap.size) (fun _ _ _ => rfl) (Nat.zero_le _) (Nat.le_refl _))
    have HB6 := Lib.hid (belowThen HB5.out hb6)
    clear T6 hb6 S5
    go_wp2_with fail
    refine (fsInts_same _ _ _ _ _ _ X _ S6.out TT6.out).mono ?_; rintro e w7 ⟨rfl, hb7⟩
    have HB7 := Lib.hid (belowThen HB6.out hb7)
    clear hb7
    go_wp2
    go_ret; exact ⟨rfl, HB7.out⟩

end Go.Proofs.YtnhbnhibphjljaaGreatDoor

namespace Go.Proofs.YtnhbnhibphjljaaGreatDoor
open Go.RowKit Go.ChangeShapes Go.WideShapes Go.ChangeAt

set_option maxRecDepth 100000 in
set_option maxHeartbeats 1000000 in
theorem progStrata_lifted (os : Os) (started : os.Started) (H : Type) (enc : TypeId × Value → H) :
    ReturnsInHanded {} Tryz.checked os 12 .any (fun w args => (Rows.fnProgStrataSpec.pre enc Tryz.prog Tryz.f12 [] false w args ∧ laidMetH Tryz.prog laidE w) ∧ sizedMet enc Tryz.prog Tryz.f12 (OpenSpec.ofChange Rows.fnProgStrataSpec) false w args)
      (Rows.fnProgStrataSpec.post enc Tryz.prog Tryz.f12 false true false false) := by
  refine returnsInHanded_of_change_and (C := Tryz.checked) (X := fun w _ => laidMetH Tryz.prog laidE w) (fun _ _ _ hh h => h.of_heap hh) Tryz.own started (by kernel_rfl) Tryz.func12
    (ChangeSpec.witness_shaped (enc := enc) (C := Tryz.checked) (os := os) (X := fun w _ => laidMetH Tryz.prog laidE w) false (World.doorLaid Tryz.prog 400 os) #[.slice none 0 0] 8 rfl (World.shaped_of_RefB (by kernel_rfl) (by kernel_rfl)) (by kernel_rfl) (by kernel_rfl) (by kernel_rfl) (err_met os _)) ?_
  intro W base args ds gs before hval0 hW _ _ hL _
  have hval : ∀ (j : Nat) t v, Tryz.f12.params[j]? = some t → args[j]? = some v → Value.okWide Tryz.prog W .any base t v := hval0
  have hW' := hW
  have hlt : ∀ x ∈ before, x.block < W.heap.size := fun x hx => hW.lt x hx
  obtain ⟨p, q, hA0, hV, hpq, hfz, hnd⟩ := hW
  have hA : DataW.TrodAll enc Tryz.prog W 0 (fun _ => true) true Tryz.f12.params.toList args.toList ds p := hA0
  rw [Tryz.params12] at hA hval
  obtain ⟨v0, d0, hargs, rfl, h0⟩ := trodAll_one hA
  obtain ⟨rfl, rfl⟩ := trodVars_none hV
  simp only [List.append_nil] at hpq
  subst hpq
  have hh0 := Lib.hid h0
  have hk := errKind_of_laid hL
  obtain ⟨A0, n0, c0, rfl, wt0⟩ := open_bytes (hval 0 61 v0 rfl (by rw [hargs]; rfl)) h0
  subst hargs
  clear hA0 hval0
  refine (strataLaw_any A0 n0 c0 W wt0 hk).mono fun e W' ⟨he, hb⟩ => ?_
  subst he
  exact ⟨_, rfl, post_true (pv := []) hW' (trodAll_mk1 (shut_bool Tryz.underlying4 true)) (trodAll_mk1 (Below.trod Tryz.laidOut (by kernel_rfl) (of_decide_eq_true (by kernel_rfl)) hh0.out hb hlt)) rfl hb⟩

theorem progStrata_in : (Rows.fnProgStrataRow.inPlace == Tryz.prog.inPlace 12) = true := by kernel_rfl
theorem progStrata_un : (Rows.fnProgStrataRow.unfollowed == Tryz.prog.unfollowed 12) = true := by kernel_rfl
theorem progStrata_rec : (Rows.fnProgStrataRow.recurses == Tryz.prog.recurses 12) = true := by kernel_rfl
theorem progStrata_nam : (Rows.fnProgStrataRow.named == Tryz.prog.varsNamed 12) = true := by kernel_rfl
theorem progStrata_goes : false = Rows.fnProgStrataRow.goesBy Tryz.prog := by kernel_rfl
theorem progStrata_named : Tryz.pinned.checked.prog.funcNamed Rows.fnProgStrataRow.func = some 12 := by kernel_rfl
theorem progStrata_joined : joinedFacts Tryz.prog 12 Tryz.f12 Rows.fnProgStrataSpec Rows.fnProgStrataRow = true :=
  joined_of (by kernel_rfl) Tryz.laidOut Tryz.c_rowed (by kernel_rfl) progStrata_in progStrata_un progStrata_rec progStrata_nam (by kernel_rfl) Tryz.c_keys rfl Tryz.c_heard Tryz.c_enter Tryz.c_lifted (by kernel_rfl)

theorem progStrata_row : Rows.FnProgStrataSaid :=
  OpenClaim.holds_of_wide 12 Tryz.f12 rfl rfl rfl rfl rfl rfl rfl ⟨rfl, rfl, rfl, rfl, rfl⟩ rfl rfl rfl rfl rfl progStrata_named Tryz.func12 progStrata_joined
    (of_decide_eq_true (by kernel_rfl)) (by unfold Func.isWrapper; rw [if_neg (of_decide_eq_false (by kernel_rfl))]; exact ⟨rfl, rfl⟩)
    (fun os started H enc _ => progStrata_lifted os started H enc)

theorem progStrata_holds : Rows.FnProgStrataCardSaid :=
  Claim7.holds_tied_plain_at .later [] [.handle] true _ true
    progStrata_row (fun _ h => by cases h) (by kernel_rfl) (fun _ h => by cases h) fnProgStrata_row_tie rfl ⟨rfl, rfl⟩ Tryz.c_main rfl
    (fun f fn hf hfn => by
      obtain rfl : f = 12 := Option.some.inj (progStrata_named.symm.trans hf) |>.symm
      obtain rfl : fn = Tryz.f12 := (Option.some.inj (Tryz.func12.symm.trans hfn)).symm
      exact ⟨Tryz.c_looks, fun j t ht => by
        rw [Tryz.params12] at ht
        have h3 : t = 61 := by
          rcases j with _ | j
          · simpa using ht.symm
          · simp at ht
        subst h3
        exact (show Tryz.prog.wantsStandIn 61 = false by kernel_rfl)⟩)
    progStrata_goes

end Go.Proofs.YtnhbnhibphjljaaGreatDoor

