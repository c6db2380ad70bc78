/-
  Levels: what the model's own text works out, and whether something goes round.
-/
import Derived.Test.YtnhbnhibphjljaaGreatDoorRulesAt
import Derived.Deep.QuietTactic
import Derived.BigQuiet
namespace Go.Proofs.YtnhbnhibphjljaaGreatDoor
open Go.RowKit

/-- What the levels are so far. -/
def LevelsAre (w : World) (g n : Nat) (T : List Nat) (wr : World) : Prop := IntRow wr g n T ∧ Capped n T ∧ Below w.heap.size w wr

theorem LevelsAre.drewN {w wr : World} {g n : Nat} {T : List Nat} (h : LevelsAre w g n T wr) (a : Nat) : LevelsAre w g n T (wr.drewN a) :=
  ⟨h.1.keep rfl, h.2.1, ⟨h.2.2.os, h.2.2.tape, h.2.2.output, h.2.2.size, h.2.2.block⟩⟩

theorem LevelsAre.alloc {w wr : World} {g n : Nat} {T : List Nat} (h : LevelsAre w g n T wr) (hg : w.heap.size ≤ wr.heap.size) (o : Obj) : LevelsAre w g n T (wr.alloc o) :=
  ⟨h.1.below (below1 wr o), h.2.1, h.2.2.alloc hg o⟩

theorem LevelsAre.raised {w wr : World} {n i : Nat} {T : List Nat} (h : LevelsAre w w.heap.size n T wr) (hi : i < n) (v : Nat) (hc : Capped n (T.set i v)) : LevelsAre w w.heap.size n (T.set i v) (wr.setCell ⟨w.heap.size, i, none⟩ (.int .i64 ((v : Nat) : Int))) :=
  ⟨h.1.set hi v, hc, h.2.2.setCell (Nat.le_refl _) _⟩

set_option maxRecDepth 100000 in
set_option maxHeartbeats 8000000 in
theorem l2Levels_any (A : Option Addr) (n c : Nat) (rs : List Rl) (w : World) (h : IsRules w 0 w.heap.size A n c rs) (hn : n ≤ 8) (h4 : ∀ r ∈ rs, r.2.length ≤ 4) :
    Calls Tryz.prog 75 #[.slice A n c] w fun e w' => e = .returned (.slice (some ⟨w.heap.size, 0, none⟩) n n) ∧ IntRow w' w.heap.size n (levelsL rs) ∧ Below w.heap.size w w' := by
  have HL := Lib.hid h.1
  have H := Lib.hid h; have H4 := Lib.hid h4; clear h h4
  obtain ⟨i0, hi, hz, hsz, hby⟩ := info_parts Tryz.infoInt
  have hmk : ∀ W : World, (Instr.makeSlice 36 (.int .i64 (n : Int)) (.int .i64 (n : Int))).run Tryz.prog W = .ok (.slice (some ⟨W.heap.size, 0, none⟩) n n) (W.alloc (.cells (madeCells #[.int .i64 0] (n * 1)) 3)) := by
    intro W
    have hr := run_make (P := Tryz.prog) W 36 3 i0 _ Tryz.underlying36 hi hz .i64 .i64 n n (by omega) (Int.le_refl _) (by rw [hby]; omega) (by omega)
    rw [hsz] at hr
    exact hr
  clear hi hz hsz hby
  have hTn : (n + 1) * (n + 2) ≤ 90 := Nat.mul_le_mul (show n + 1 ≤ 9 by omega) (show n + 2 ≤ 10 by omega)
  have hTi : ((n : Int) + 1) * ((n : Int) + 2) = (((n + 1) * (n + 2) : Nat) : Int) := by rw [Int.natCast_mul]; rfl
  have hT0 : ((n : Int) + 1) * ((n : Int) + 2) ≤ 90 := by rw [hTi]; omega
  have hT1 : 0 ≤ ((n : Int) + 1) * ((n : Int) + 2) := by rw [hTi]; omega
  have HTI := Lib.hid hTi; clear hTi
  go_enter Tryz.func75, Tryz.ntmps75
  go_wp2
  have hr0 : IntRow (w.alloc (.cells (madeCells #[.int .i64 0] n) 3)) w.heap.size n (List.replicate n 0) := by
    refine ⟨List.length_replicate, ?_⟩
    have := World.rowIs_made w (.int .i64 0) n 3
    refine this.congr fun j hj => ?_
    unfold at0; rw [List.getElem?_replicate, if_pos hj]; rfl
  have hb0 := below1 w (.cells (madeCells #[.int .i64 0] n) 3)
  have HR0 := Lib.hid hr0; clear hr0 hmk
  go_loopw [4] (fun x wr => ∃ t : Nat, t ≤ (n + 1) * (n + 2) ∧ x = .int .i64 (t : Int) ∧ LevelsAre w w.heap.size n (again (passF rs) t (List.replicate n 0)) wr) (fun x _ => (n + 1) * (n + 2) - (intOf x).toNat)
  case atStart => exact ⟨0, Nat.zero_le _, rfl, HR0.out, Capped.zero n, hb0⟩
  case round =>
    obtain ⟨t, ht, rfl, hS⟩ := hrel
    obtain ⟨T, hT⟩ : ∃ T, again (passF rs) t (List.replicate n 0) = T := ⟨_, rfl⟩
    rw [hT] at hS
    have HT := Lib.hid hT; have HS := Lib.hid hS; clear hT hS
    by_cases hlt : (t : Int) < ((n : Int) + 1) * ((n : Int) + 2)
    · go_wp2
      obtain ⟨w0, rfl⟩ : ∃ w0 : World, w0 = wr := ⟨_, rfl⟩
      go_loopw [5] (fun x wr => ∃ i : Nat, i ≤ n ∧ x = .int .i64 (i : Int) ∧ LevelsAre w w.heap.size n ((List.range i).foldl (rowF rs) T) wr) (fun x _ => n - (intOf x).toNat)
      case atStart => exact ⟨0, Nat.zero_le _, rfl, HS.out⟩
      case round =>
        obtain ⟨i, hin, rfl, hSi⟩ := hrel
        obtain ⟨R, hR⟩ : ∃ R, (List.range i).foldl (rowF rs) T = R := ⟨_, rfl⟩
        rw [hR] at hSi
        have HRi := Lib.hid hR; have HSi := Lib.hid hSi; clear hR hSi
        by_cases hli : i < n
        · go_wp2
          obtain ⟨w1, rfl⟩ : ∃ w1 : World, w1 = wr := ⟨_, rfl⟩
          go_loopw [6] (fun x wr => ∃ k : Nat, k ≤ n ∧ x = .int .i64 (k : Int) ∧ LevelsAre w w.heap.size n ((List.range k).foldl (pairF rs i) R) wr) (fun x _ => n - (intOf x).toNat)
          case atStart => exact ⟨0, Nat.zero_le _, rfl, HSi.out⟩
          case round =>
            obtain ⟨k, hkn, rfl, hSk⟩ := hrel
            obtain ⟨K0, hK⟩ : ∃ K0, (List.range k).foldl (pairF rs i) R = K0 := ⟨_, rfl⟩
            rw [hK] at hSk
            have HK := Lib.hid hK; have HSk := Lib.hid hSk; clear hK hSk
            by_cases hlk : k < n
            · have hbr := HSk.out.2.2
              obtain ⟨p, ri, B, m, d, hA, hgi, ci, cb, hP⟩ := rules_at (H.out.below RuleE.stays hbr (Nat.le_refl _)) hli
              obtain ⟨p', rk, _, _, _, hA', hgk, ck, _, _⟩ := rules_at (H.out.below RuleE.stays hbr (Nat.le_refl _)) hlk
              rw [hA] at hA'
              injection hA' with hA'
              subst hA'
              subst hA
              have HGi := Lib.hid hgi; have HGk := Lib.hid hgk; have HP := Lib.hid hP; clear hgi hgk hP
              have xi := HSk.out.1.cell hli; have xk := HSk.out.1.cell hlk
              have zi := HSk.out.1.frozen i
              have li := HSk.out.2.1.le i; have lk := HSk.out.2.1.le k
              obtain ⟨ai, hai⟩ : ∃ a, at0 K0 i = a := ⟨_, rfl⟩
              obtain ⟨ak, hak⟩ : ∃ a, at0 K0 k = a := ⟨_, rfl⟩
              rw [hai] at xi li; rw [hak] at xk lk
              have HAi := Lib.hid hai; have HAk := Lib.hid hak; clear hai hak
              obtain ⟨b, hb⟩ : ∃ b, (rk.1.1.toList == ri.1.1.toList) = b := ⟨_, rfl⟩
              have HB := Lib.hid (bytes_is hb)
              have hln : (k : Int) < (n : Int) := by omega
              cases b
              · have he : evenF rs i k K0 = K0 := if_neg (by rw [headAt_of HGk.out, headAt_of HGi.out]; exact of_decide_eq_false HB.out.symm)
                have HEV := Lib.hid he; clear he
                go_wp2_with fail
                go_quiet (fail)
                have HE : LevelsAre w w.heap.size n (evenF rs i k K0) (wr.drewN nq) := by rw [HEV.out]; exact HSk.out.drewN _
                go_wp2_with fail
                have hm4 : m ≤ 4 := by rw [← HP.out.1]; exact H4.out ri (List.mem_of_getElem? HGi.out)
                go_loopw [7] (fun x wr => ∃ j : Nat, j ≤ m ∧ x = .int .i64 (j : Int) ∧ LevelsAre w w.heap.size n ((ri.2.take j).foldl (partF rs i k) (evenF rs i k K0)) wr) (fun x _ => m - (intOf x).toNat)
                case atStart => exact ⟨0, Nat.zero_le _, rfl, HE⟩
                case round =>
                  obtain ⟨j, hjm, rfl, hSj⟩ := hrel
                  obtain ⟨J0, hJ⟩ : ∃ J0, (ri.2.take j).foldl (partF rs i k) (evenF rs i k K0) = J0 := ⟨_, rfl⟩
                  rw [hJ] at hSj
                  have HJ := Lib.hid hJ; have HSj := Lib.hid hSj; clear hJ hSj
                  have hbj := HSj.out.2.2
                  have hsj := hbj.size
                  have hcap : ∀ q, Capped n (partF rs i k J0 q) := fun q => by
                    have := Capped.part (rs := rs) (i := i) (k := k) (L := J0) q (by rw [HL.out]; exact HSj.out.2.1) (by rw [HL.out]; exact hli) (by rw [HL.out]; exact hlk)
                    rwa [HL.out] at this
                  have HCAP := Lib.hid hcap; clear hcap
                  obtain ⟨p2, ri2, B2, m2, d2, hA2, hgi2, ci2, cb2, hP2⟩ := rules_at (H.out.below RuleE.stays hbj (Nat.le_refl _)) hli
                  obtain ⟨p3, rk2, _, _, _, hA3, hgk2, ck2, _, _⟩ := rules_at (H.out.below RuleE.stays hbj (Nat.le_refl _)) hlk
                  injection hA2 with hA2
                  injection hA3 with hA3
                  subst hA2; subst hA3
                  have hri : ri2 = ri := by have := HGi.out; rw [hgi2] at this; injection this
                  have hrk : rk2 = rk := by have := HGk.out; rw [hgk2] at this; injection this
                  subst hri; subst hrk
                  have hm2 : m2 = m := hP2.1.symm.trans HP.out.1
                  subst hm2
                  have HGk2 := Lib.hid hgk2; have HP2 := Lib.hid hP2; clear hgi2 hgk2 hP2
                  have yi := HSj.out.1.cell hli; have yk := HSj.out.1.cell hlk
                  have vi := HSj.out.1.frozen i
                  have lj := HSj.out.2.1.le i; have lk2 := HSj.out.2.1.le k
                  obtain ⟨aj, haj⟩ : ∃ a, at0 J0 i = a := ⟨_, rfl⟩
                  obtain ⟨ak, hak⟩ : ∃ a, at0 J0 k = a := ⟨_, rfl⟩
                  rw [haj] at yi lj; rw [hak] at yk lk2
                  have HAj := Lib.hid haj; have HAk2 := Lib.hid hak; clear haj hak
                  by_cases hlj : j < m2
                  · have hljI : (j : Int) < (m2 : Int) := by omega
                    obtain ⟨pp, q, hB, _, _, hg2, hEq⟩ := HP2.out.at_ hlj
                    obtain ⟨A5, n5, c5, f1, f2, _, f4, _⟩ := hEq.out
                    clear hEq
                    subst hB
                    obtain ⟨bq, nq1, tq⟩ := q
                    simp only at f1 f2
                    have HG2 := Lib.hid hg2; clear hg2
                    have uk := cellUp ck2; have ui := cellUp yi; have uk2 := cellUp yk
                    have uf : ∀ o, (wr.alloc o).frozen? ⟨w.heap.size, i, none⟩ = false := fun o => (HSj.out.1.below (below1 wr o)).frozen i
                    obtain ⟨b2, hb2⟩ : ∃ b2, (nq1.toList == rk2.1.1.toList) = b2 := ⟨_, rfl⟩
                    have HB2 := Lib.hid (bytes_is hb2)
                    cases b2
                    · go_wp2_with fail
                      go_quiet (fail)
                      go_wp2
                      go_roundw
                      case rel =>
                        refine ⟨j + 1, by omega, by go_num, ?_⟩
                        rw [fold_step HG2.out, HJ.out, show partF rs i k J0 (bq, nq1, tq) = J0 from if_neg (by rw [headAt_of HGk2.out]; exact of_decide_eq_false HB2.out.symm)]
                        exact (HSj.out.alloc hsj _).drewN _
                      case measure => simp [intOf]; omega
                    · have hcap := HCAP.out
                      have hg2 := HG2.out
                      clear hcap hg2
                      cases bq
                      · go_wp2_with fail
                        go_quiet (fail)
                        have hcap := HCAP.out
                        have hg2 := HG2.out
                        have HPF := Lib.hid (show partF rs i k J0 (false, nq1, tq) = raise rs.length J0 ⟨i, k, 0, true⟩ from if_pos (show nq1 = headAt rs k by rw [headAt_of HGk2.out]; exact of_decide_eq_true HB2.out.symm))
                        by_cases hgt : aj < (ak + 0)
                        · by_cases hle : aj ≤ n
                          · have HC := Lib.hid (hcap (false, nq1, tq))
                            have hgt' : (aj : Int) < (ak : Int) := by omega
                            have hle' : (aj : Int) ≤ (n : Int) := by omega
                            have e1 : decide ((aj : Int) < (ak : Int)) = true := decide_eq_true hgt'
                            have e2 : decide ((aj : Int) ≤ (n : Int)) = true := decide_eq_true hle'
                            go_wp2
                            go_roundw
                            case rel =>
                              refine ⟨j + 1, by omega, by go_num, ?_⟩
                              rw [fold_step hg2, HJ.out, HPF.out, raise_yes (by rw [HAj.out, HAk2.out]; exact hgt) (fun _ => by rw [HAj.out, HL.out]; exact hle), HAk2.out]
                              have hcc : Capped n (J0.set i (ak + 0)) := by
                                have := HC.out
                                rwa [HPF.out, raise_yes (by rw [HAj.out, HAk2.out]; exact hgt) (fun _ => by rw [HAj.out, HL.out]; exact hle), HAk2.out] at this
                              exact ((HSj.out.alloc hsj _).drewN _).raised hli (ak + 0) hcc
                            case measure => simp [intOf]; omega
                          · have hle' : ¬ (aj : Int) ≤ (n : Int) := by omega
                            have hgt' : (aj : Int) < (ak : Int) := by omega
                            go_wp2
                            go_roundw
                            case rel =>
                              refine ⟨j + 1, by omega, by go_num, ?_⟩
                              rw [fold_step hg2, HJ.out, HPF.out, raise_no (fun hh => hle (by have := hh.2 rfl; rwa [HAj.out, HL.out] at this))]
                              exact (HSj.out.alloc hsj _).drewN _
                            case measure => simp [intOf]; omega
                        · have hgt' : ¬ (aj : Int) < (ak : Int) := by omega
                          go_wp2
                          go_roundw
                          case rel =>
                            refine ⟨j + 1, by omega, by go_num, ?_⟩
                            rw [fold_step hg2, HJ.out, HPF.out, raise_no (fun hh => hgt (by have := hh.1; rwa [HAj.out, HAk2.out] at this))]
                            exact (HSj.out.alloc hsj _).drewN _
                          case measure => simp [intOf]; omega
                      · go_wp2_with fail
                        go_quiet (fail)
                        have hcap := HCAP.out
                        have hg2 := HG2.out
                        have HPF := Lib.hid (show partF rs i k J0 (true, nq1, tq) = raise rs.length J0 ⟨i, k, 1, true⟩ from if_pos (show nq1 = headAt rs k by rw [headAt_of HGk2.out]; exact of_decide_eq_true HB2.out.symm))
                        by_cases hgt : aj < (ak + 1)
                        · by_cases hle : aj ≤ n
                          · have HC := Lib.hid (hcap (true, nq1, tq))
                            have hgt' : (aj : Int) < (ak : Int) + 1 := by omega
                            have hle' : (aj : Int) ≤ (n : Int) := by omega
                            have e1 : decide ((aj : Int) < (ak : Int) + 1) = true := decide_eq_true hgt'
                            have e2 : decide ((aj : Int) ≤ (n : Int)) = true := decide_eq_true hle'
                            go_wp2
                            go_roundw
                            case rel =>
                              refine ⟨j + 1, by omega, by go_num, ?_⟩
                              rw [fold_step hg2, HJ.out, HPF.out, raise_yes (by rw [HAj.out, HAk2.out]; exact hgt) (fun _ => by rw [HAj.out, HL.out]; exact hle), HAk2.out]
                              have hcc : Capped n (J0.set i (ak + 1)) := by
                                have := HC.out
                                rwa [HPF.out, raise_yes (by rw [HAj.out, HAk2.out]; exact hgt) (fun _ => by rw [HAj.out, HL.out]; exact hle), HAk2.out] at this
                              exact ((HSj.out.alloc hsj _).drewN _).raised hli (ak + 1) hcc
                            case measure => simp [intOf]; omega
                          · have hle' : ¬ (aj : Int) ≤ (n : Int) := by omega
                            have hgt' : (aj : Int) < (ak : Int) + 1 := by omega
                            go_wp2
                            go_roundw
                            case rel =>
                              refine ⟨j + 1, by omega, by go_num, ?_⟩
                              rw [fold_step hg2, HJ.out, HPF.out, raise_no (fun hh => hle (by have := hh.2 rfl; rwa [HAj.out, HL.out] at this))]
                              exact (HSj.out.alloc hsj _).drewN _
                            case measure => simp [intOf]; omega
                        · have hgt' : ¬ (aj : Int) < (ak : Int) + 1 := by omega
                          go_wp2
                          go_roundw
                          case rel =>
                            refine ⟨j + 1, by omega, by go_num, ?_⟩
                            rw [fold_step hg2, HJ.out, HPF.out, raise_no (fun hh => hgt (by have := hh.1; rwa [HAj.out, HAk2.out] at this))]
                            exact (HSj.out.alloc hsj _).drewN _
                          case measure => simp [intOf]; omega
                  · have hjme : j = m2 := by omega
                    subst hjme
                    have HJe := Lib.hid (show (List.range (k + 1)).foldl (pairF rs i) R = J0 by rw [range_step, HK.out, ← HJ.out, List.take_of_length_le (Nat.le_of_eq HP2.out.1)]; unfold pairF; rw [bodyAt_of HGi.out])
                    go_wp2
                    go_roundw
                    case rel => exact ⟨k + 1, by omega, by go_num, by rw [HJe.out]; exact HSj.out⟩
                    case measure => simp [intOf]; omega
              · have he : evenF rs i k K0 = raise rs.length K0 ⟨i, k, 0, false⟩ := if_pos (by rw [headAt_of HGk.out, headAt_of HGi.out]; exact of_decide_eq_true HB.out.symm)
                have hc : Capped n (evenF rs i k K0) := by
                  have := Capped.even (rs := rs) (i := i) (k := k) (L := K0) (by rw [HL.out]; exact HSk.out.2.1) (by rw [HL.out]; exact hli) (by rw [HL.out]; exact hlk)
                  rwa [HL.out] at this
                have HC := Lib.hid hc; have HEV := Lib.hid he; clear he hc
                by_cases hgt : ai < ak
                · have hgtI : (ai : Int) < (ak : Int) := by omega
                  have e1 : decide (ai < ak) = true := decide_eq_true hgt
                  have HEV2 := Lib.hid (show evenF rs i k K0 = K0.set i ak by rw [HEV.out, raise_yes (by rw [HAi.out, HAk.out]; exact hgt) (fun h => by cases h), HAk.out]; rfl)
                  go_wp2_with fail
                  go_quiet (fail)
                  have HE : LevelsAre w w.heap.size n (evenF rs i k K0) ((wr.drewN nq).setCell ⟨w.heap.size, i, none⟩ (.int .i64 (ak : Int))) := by
                    rw [HEV2.out]
                    exact (HSk.out.drewN _).raised hli ak (by rw [← HEV2.out]; exact HC.out)
                  go_wp2_with fail
                  have hm4 : m ≤ 4 := by rw [← HP.out.1]; exact H4.out ri (List.mem_of_getElem? HGi.out)
                  go_loopw [7] (fun x wr => ∃ j : Nat, j ≤ m ∧ x = .int .i64 (j : Int) ∧ LevelsAre w w.heap.size n ((ri.2.take j).foldl (partF rs i k) (evenF rs i k K0)) wr) (fun x _ => m - (intOf x).toNat)
                  case atStart => exact ⟨0, Nat.zero_le _, rfl, HE⟩
                  case round =>
                    obtain ⟨j, hjm, rfl, hSj⟩ := hrel
                    obtain ⟨J0, hJ⟩ : ∃ J0, (ri.2.take j).foldl (partF rs i k) (evenF rs i k K0) = J0 := ⟨_, rfl⟩
                    rw [hJ] at hSj
                    have HJ := Lib.hid hJ; have HSj := Lib.hid hSj; clear hJ hSj
                    have hbj := HSj.out.2.2
                    have hsj := hbj.size
                    have hcap : ∀ q, Capped n (partF rs i k J0 q) := fun q => by
                      have := Capped.part (rs := rs) (i := i) (k := k) (L := J0) q (by rw [HL.out]; exact HSj.out.2.1) (by rw [HL.out]; exact hli) (by rw [HL.out]; exact hlk)
                      rwa [HL.out] at this
                    have HCAP := Lib.hid hcap; clear hcap
                    obtain ⟨p2, ri2, B2, m2, d2, hA2, hgi2, ci2, cb2, hP2⟩ := rules_at (H.out.below RuleE.stays hbj (Nat.le_refl _)) hli
                    obtain ⟨p3, rk2, _, _, _, hA3, hgk2, ck2, _, _⟩ := rules_at (H.out.below RuleE.stays hbj (Nat.le_refl _)) hlk
                    injection hA2 with hA2
                    injection hA3 with hA3
                    subst hA2; subst hA3
                    have hri : ri2 = ri := by have := HGi.out; rw [hgi2] at this; injection this
                    have hrk : rk2 = rk := by have := HGk.out; rw [hgk2] at this; injection this
                    subst hri; subst hrk
                    have hm2 : m2 = m := hP2.1.symm.trans HP.out.1
                    subst hm2
                    have HGk2 := Lib.hid hgk2; have HP2 := Lib.hid hP2; clear hgi2 hgk2 hP2
                    have yi := HSj.out.1.cell hli; have yk := HSj.out.1.cell hlk
                    have vi := HSj.out.1.frozen i
                    have lj := HSj.out.2.1.le i; have lk2 := HSj.out.2.1.le k
                    obtain ⟨aj, haj⟩ : ∃ a, at0 J0 i = a := ⟨_, rfl⟩
                    obtain ⟨ak, hak⟩ : ∃ a, at0 J0 k = a := ⟨_, rfl⟩
                    rw [haj] at yi lj; rw [hak] at yk lk2
                    have HAj := Lib.hid haj; have HAk2 := Lib.hid hak; clear haj hak
                    by_cases hlj : j < m2
                    · have hljI : (j : Int) < (m2 : Int) := by omega
                      obtain ⟨pp, q, hB, _, _, hg2, hEq⟩ := HP2.out.at_ hlj
                      obtain ⟨A5, n5, c5, f1, f2, _, f4, _⟩ := hEq.out
                      clear hEq
                      subst hB
                      obtain ⟨bq, nq1, tq⟩ := q
                      simp only at f1 f2
                      have HG2 := Lib.hid hg2; clear hg2
                      have uk := cellUp ck2; have ui := cellUp yi; have uk2 := cellUp yk
                      have uf : ∀ o, (wr.alloc o).frozen? ⟨w.heap.size, i, none⟩ = false := fun o => (HSj.out.1.below (below1 wr o)).frozen i
                      obtain ⟨b2, hb2⟩ : ∃ b2, (nq1.toList == rk2.1.1.toList) = b2 := ⟨_, rfl⟩
                      have HB2 := Lib.hid (bytes_is hb2)
                      cases b2
                      · go_wp2_with fail
                        go_quiet (fail)
                        go_wp2
                        go_roundw
                        case rel =>
                          refine ⟨j + 1, by omega, by go_num, ?_⟩
                          rw [fold_step HG2.out, HJ.out, show partF rs i k J0 (bq, nq1, tq) = J0 from if_neg (by rw [headAt_of HGk2.out]; exact of_decide_eq_false HB2.out.symm)]
                          exact (HSj.out.alloc hsj _).drewN _
                        case measure => simp [intOf]; omega
                      · have hcap := HCAP.out
                        have hg2 := HG2.out
                        clear hcap hg2
                        cases bq
                        · go_wp2_with fail
                          go_quiet (fail)
                          have hcap := HCAP.out
                          have hg2 := HG2.out
                          have HPF := Lib.hid (show partF rs i k J0 (false, nq1, tq) = raise rs.length J0 ⟨i, k, 0, true⟩ from if_pos (show nq1 = headAt rs k by rw [headAt_of HGk2.out]; exact of_decide_eq_true HB2.out.symm))
                          by_cases hgt : aj < (ak + 0)
                          · by_cases hle : aj ≤ n
                            · have HC := Lib.hid (hcap (false, nq1, tq))
                              have hgt' : (aj : Int) < (ak : Int) := by omega
                              have hle' : (aj : Int) ≤ (n : Int) := by omega
                              have e1 : decide ((aj : Int) < (ak : Int)) = true := decide_eq_true hgt'
                              have e2 : decide ((aj : Int) ≤ (n : Int)) = true := decide_eq_true hle'
                              go_wp2
                              go_roundw
                              case rel =>
                                refine ⟨j + 1, by omega, by go_num, ?_⟩
                                rw [fold_step hg2, HJ.out, HPF.out, raise_yes (by rw [HAj.out, HAk2.out]; exact hgt) (fun _ => by rw [HAj.out, HL.out]; exact hle), HAk2.out]
                                have hcc : Capped n (J0.set i (ak + 0)) := by
                                  have := HC.out
                                  rwa [HPF.out, raise_yes (by rw [HAj.out, HAk2.out]; exact hgt) (fun _ => by rw [HAj.out, HL.out]; exact hle), HAk2.out] at this
                                exact ((HSj.out.alloc hsj _).drewN _).raised hli (ak + 0) hcc
                              case measure => simp [intOf]; omega
                            · have hle' : ¬ (aj : Int) ≤ (n : Int) := by omega
                              have hgt' : (aj : Int) < (ak : Int) := by omega
                              go_wp2
                              go_roundw
                              case rel =>
                                refine ⟨j + 1, by omega, by go_num, ?_⟩
                                rw [fold_step hg2, HJ.out, HPF.out, raise_no (fun hh => hle (by have := hh.2 rfl; rwa [HAj.out, HL.out] at this))]
                                exact (HSj.out.alloc hsj _).drewN _
                              case measure => simp [intOf]; omega
                          · have hgt' : ¬ (aj : Int) < (ak : Int) := by omega
                            go_wp2
                            go_roundw
                            case rel =>
                              refine ⟨j + 1, by omega, by go_num, ?_⟩
                              rw [fold_step hg2, HJ.out, HPF.out, raise_no (fun hh => hgt (by have := hh.1; rwa [HAj.out, HAk2.out] at this))]
                              exact (HSj.out.alloc hsj _).drewN _
                            case measure => simp [intOf]; omega
                        · go_wp2_with fail
                          go_quiet (fail)
                          have hcap := HCAP.out
                          have hg2 := HG2.out
                          have HPF := Lib.hid (show partF rs i k J0 (true, nq1, tq) = raise rs.length J0 ⟨i, k, 1, true⟩ from if_pos (show nq1 = headAt rs k by rw [headAt_of HGk2.out]; exact of_decide_eq_true HB2.out.symm))
                          by_cases hgt : aj < (ak + 1)
                          · by_cases hle : aj ≤ n
                            · have HC := Lib.hid (hcap (true, nq1, tq))
                              have hgt' : (aj : Int) < (ak : Int) + 1 := by omega
                              have hle' : (aj : Int) ≤ (n : Int) := by omega
                              have e1 : decide ((aj : Int) < (ak : Int) + 1) = true := decide_eq_true hgt'
                              have e2 : decide ((aj : Int) ≤ (n : Int)) = true := decide_eq_true hle'
                              go_wp2
                              go_roundw
                              case rel =>
                                refine ⟨j + 1, by omega, by go_num, ?_⟩
                                rw [fold_step hg2, HJ.out, HPF.out, raise_yes (by rw [HAj.out, HAk2.out]; exact hgt) (fun _ => by rw [HAj.out, HL.out]; exact hle), HAk2.out]
                                have hcc : Capped n (J0.set i (ak + 1)) := by
                                  have := HC.out
                                  rwa [HPF.out, raise_yes (by rw [HAj.out, HAk2.out]; exact hgt) (fun _ => by rw [HAj.out, HL.out]; exact hle), HAk2.out] at this
                                exact ((HSj.out.alloc hsj _).drewN _).raised hli (ak + 1) hcc
                              case measure => simp [intOf]; omega
                            · have hle' : ¬ (aj : Int) ≤ (n : Int) := by omega
                              have hgt' : (aj : Int) < (ak : Int) + 1 := by omega
                              go_wp2
                              go_roundw
                              case rel =>
                                refine ⟨j + 1, by omega, by go_num, ?_⟩
                                rw [fold_step hg2, HJ.out, HPF.out, raise_no (fun hh => hle (by have := hh.2 rfl; rwa [HAj.out, HL.out] at this))]
                                exact (HSj.out.alloc hsj _).drewN _
                              case measure => simp [intOf]; omega
                          · have hgt' : ¬ (aj : Int) < (ak : Int) + 1 := by omega
                            go_wp2
                            go_roundw
                            case rel =>
                              refine ⟨j + 1, by omega, by go_num, ?_⟩
                              rw [fold_step hg2, HJ.out, HPF.out, raise_no (fun hh => hgt (by have := hh.1; rwa [HAj.out, HAk2.out] at this))]
                              exact (HSj.out.alloc hsj _).drewN _
                            case measure => simp [intOf]; omega
                    · have hjme : j = m2 := by omega
                      subst hjme
                      have HJe := Lib.hid (show (List.range (k + 1)).foldl (pairF rs i) R = J0 by rw [range_step, HK.out, ← HJ.out, List.take_of_length_le (Nat.le_of_eq HP2.out.1)]; unfold pairF; rw [bodyAt_of HGi.out])
                      go_wp2
                      go_roundw
                      case rel => exact ⟨k + 1, by omega, by go_num, by rw [HJe.out]; exact HSj.out⟩
                      case measure => simp [intOf]; omega
                · have hgtI : ¬ (ai : Int) < (ak : Int) := by omega
                  have e1 : decide (ai < ak) = false := decide_eq_false hgt
                  have e2 : decide ((ai : Int) < (ak : Int)) = false := decide_eq_false hgtI
                  have HEV2 := Lib.hid (show evenF rs i k K0 = K0 by rw [HEV.out]; exact raise_no (fun hh => hgt (by have := hh.1; rwa [HAi.out, HAk.out] at this)))
                  go_wp2_with fail
                  go_quiet (fail)
                  have HE : LevelsAre w w.heap.size n (evenF rs i k K0) (wr.drewN nq) := by rw [HEV2.out]; exact HSk.out.drewN _
                  go_wp2_with fail
                  have hm4 : m ≤ 4 := by rw [← HP.out.1]; exact H4.out ri (List.mem_of_getElem? HGi.out)
                  go_loopw [7] (fun x wr => ∃ j : Nat, j ≤ m ∧ x = .int .i64 (j : Int) ∧ LevelsAre w w.heap.size n ((ri.2.take j).foldl (partF rs i k) (evenF rs i k K0)) wr) (fun x _ => m - (intOf x).toNat)
                  case atStart => exact ⟨0, Nat.zero_le _, rfl, HE⟩
                  case round =>
                    obtain ⟨j, hjm, rfl, hSj⟩ := hrel
                    obtain ⟨J0, hJ⟩ : ∃ J0, (ri.2.take j).foldl (partF rs i k) (evenF rs i k K0) = J0 := ⟨_, rfl⟩
                    rw [hJ] at hSj
                    have HJ := Lib.hid hJ; have HSj := Lib.hid hSj; clear hJ hSj
                    have hbj := HSj.out.2.2
                    have hsj := hbj.size
                    have hcap : ∀ q, Capped n (partF rs i k J0 q) := fun q => by
                      have := Capped.part (rs := rs) (i := i) (k := k) (L := J0) q (by rw [HL.out]; exact HSj.out.2.1) (by rw [HL.out]; exact hli) (by rw [HL.out]; exact hlk)
                      rwa [HL.out] at this
                    have HCAP := Lib.hid hcap; clear hcap
                    obtain ⟨p2, ri2, B2, m2, d2, hA2, hgi2, ci2, cb2, hP2⟩ := rules_at (H.out.below RuleE.stays hbj (Nat.le_refl _)) hli
                    obtain ⟨p3, rk2, _, _, _, hA3, hgk2, ck2, _, _⟩ := rules_at (H.out.below RuleE.stays hbj (Nat.le_refl _)) hlk
                    injection hA2 with hA2
                    injection hA3 with hA3
                    subst hA2; subst hA3
                    have hri : ri2 = ri := by have := HGi.out; rw [hgi2] at this; injection this
                    have hrk : rk2 = rk := by have := HGk.out; rw [hgk2] at this; injection this
                    subst hri; subst hrk
                    have hm2 : m2 = m := hP2.1.symm.trans HP.out.1
                    subst hm2
                    have HGk2 := Lib.hid hgk2; have HP2 := Lib.hid hP2; clear hgi2 hgk2 hP2
                    have yi := HSj.out.1.cell hli; have yk := HSj.out.1.cell hlk
                    have vi := HSj.out.1.frozen i
                    have lj := HSj.out.2.1.le i; have lk2 := HSj.out.2.1.le k
                    obtain ⟨aj, haj⟩ : ∃ a, at0 J0 i = a := ⟨_, rfl⟩
                    obtain ⟨ak, hak⟩ : ∃ a, at0 J0 k = a := ⟨_, rfl⟩
                    rw [haj] at yi lj; rw [hak] at yk lk2
                    have HAj := Lib.hid haj; have HAk2 := Lib.hid hak; clear haj hak
                    by_cases hlj : j < m2
                    · have hljI : (j : Int) < (m2 : Int) := by omega
                      obtain ⟨pp, q, hB, _, _, hg2, hEq⟩ := HP2.out.at_ hlj
                      obtain ⟨A5, n5, c5, f1, f2, _, f4, _⟩ := hEq.out
                      clear hEq
                      subst hB
                      obtain ⟨bq, nq1, tq⟩ := q
                      simp only at f1 f2
                      have HG2 := Lib.hid hg2; clear hg2
                      have uk := cellUp ck2; have ui := cellUp yi; have uk2 := cellUp yk
                      have uf : ∀ o, (wr.alloc o).frozen? ⟨w.heap.size, i, none⟩ = false := fun o => (HSj.out.1.below (below1 wr o)).frozen i
                      obtain ⟨b2, hb2⟩ : ∃ b2, (nq1.toList == rk2.1.1.toList) = b2 := ⟨_, rfl⟩
                      have HB2 := Lib.hid (bytes_is hb2)
                      cases b2
                      · go_wp2_with fail
                        go_quiet (fail)
                        go_wp2
                        go_roundw
                        case rel =>
                          refine ⟨j + 1, by omega, by go_num, ?_⟩
                          rw [fold_step HG2.out, HJ.out, show partF rs i k J0 (bq, nq1, tq) = J0 from if_neg (by rw [headAt_of HGk2.out]; exact of_decide_eq_false HB2.out.symm)]
                          exact (HSj.out.alloc hsj _).drewN _
                        case measure => simp [intOf]; omega
                      · have hcap := HCAP.out
                        have hg2 := HG2.out
                        clear hcap hg2
                        cases bq
                        · go_wp2_with fail
                          go_quiet (fail)
                          have hcap := HCAP.out
                          have hg2 := HG2.out
                          have HPF := Lib.hid (show partF rs i k J0 (false, nq1, tq) = raise rs.length J0 ⟨i, k, 0, true⟩ from if_pos (show nq1 = headAt rs k by rw [headAt_of HGk2.out]; exact of_decide_eq_true HB2.out.symm))
                          by_cases hgt : aj < (ak + 0)
                          · by_cases hle : aj ≤ n
                            · have HC := Lib.hid (hcap (false, nq1, tq))
                              have hgt' : (aj : Int) < (ak : Int) := by omega
                              have hle' : (aj : Int) ≤ (n : Int) := by omega
                              have e1 : decide ((aj : Int) < (ak : Int)) = true := decide_eq_true hgt'
                              have e2 : decide ((aj : Int) ≤ (n : Int)) = true := decide_eq_true hle'
                              go_wp2
                              go_roundw
                              case rel =>
                                refine ⟨j + 1, by omega, by go_num, ?_⟩
                                rw [fold_step hg2, HJ.out, HPF.out, raise_yes (by rw [HAj.out, HAk2.out]; exact hgt) (fun _ => by rw [HAj.out, HL.out]; exact hle), HAk2.out]
                                have hcc : Capped n (J0.set i (ak + 0)) := by
                                  have := HC.out
                                  rwa [HPF.out, raise_yes (by rw [HAj.out, HAk2.out]; exact hgt) (fun _ => by rw [HAj.out, HL.out]; exact hle), HAk2.out] at this
                                exact ((HSj.out.alloc hsj _).drewN _).raised hli (ak + 0) hcc
                              case measure => simp [intOf]; omega
                            · have hle' : ¬ (aj : Int) ≤ (n : Int) := by omega
                              have hgt' : (aj : Int) < (ak : Int) := by omega
                              go_wp2
                              go_roundw
                              case rel =>
                                refine ⟨j + 1, by omega, by go_num, ?_⟩
                                rw [fold_step hg2, HJ.out, HPF.out, raise_no (fun hh => hle (by have := hh.2 rfl; rwa [HAj.out, HL.out] at this))]
                                exact (HSj.out.alloc hsj _).drewN _
                              case measure => simp [intOf]; omega
                          · have hgt' : ¬ (aj : Int) < (ak : Int) := by omega
                            go_wp2
                            go_roundw
                            case rel =>
                              refine ⟨j + 1, by omega, by go_num, ?_⟩
                              rw [fold_step hg2, HJ.out, HPF.out, raise_no (fun hh => hgt (by have := hh.1; rwa [HAj.out, HAk2.out] at this))]
                              exact (HSj.out.alloc hsj _).drewN _
                            case measure => simp [intOf]; omega
                        · go_wp2_with fail
                          go_quiet (fail)
                          have hcap := HCAP.out
                          have hg2 := HG2.out
                          have HPF := Lib.hid (show partF rs i k J0 (true, nq1, tq) = raise rs.length J0 ⟨i, k, 1, true⟩ from if_pos (show nq1 = headAt rs k by rw [headAt_of HGk2.out]; exact of_decide_eq_true HB2.out.symm))
                          by_cases hgt : aj < (ak + 1)
                          · by_cases hle : aj ≤ n
                            · have HC := Lib.hid (hcap (true, nq1, tq))
                              have hgt' : (aj : Int) < (ak : Int) + 1 := by omega
                              have hle' : (aj : Int) ≤ (n : Int) := by omega
                              have e1 : decide ((aj : Int) < (ak : Int) + 1) = true := decide_eq_true hgt'
                              have e2 : decide ((aj : Int) ≤ (n : Int)) = true := decide_eq_true hle'
                              go_wp2
                              go_roundw
                              case rel =>
                                refine ⟨j + 1, by omega, by go_num, ?_⟩
                                rw [fold_step hg2, HJ.out, HPF.out, raise_yes (by rw [HAj.out, HAk2.out]; exact hgt) (fun _ => by rw [HAj.out, HL.out]; exact hle), HAk2.out]
                                have hcc : Capped n (J0.set i (ak + 1)) := by
                                  have := HC.out
                                  rwa [HPF.out, raise_yes (by rw [HAj.out, HAk2.out]; exact hgt) (fun _ => by rw [HAj.out, HL.out]; exact hle), HAk2.out] at this
                                exact ((HSj.out.alloc hsj _).drewN _).raised hli (ak + 1) hcc
                              case measure => simp [intOf]; omega
                            · have hle' : ¬ (aj : Int) ≤ (n : Int) := by omega
                              have hgt' : (aj : Int) < (ak : Int) + 1 := by omega
                              go_wp2
                              go_roundw
                              case rel =>
                                refine ⟨j + 1, by omega, by go_num, ?_⟩
                                rw [fold_step hg2, HJ.out, HPF.out, raise_no (fun hh => hle (by have := hh.2 rfl; rwa [HAj.out, HL.out] at this))]
                                exact (HSj.out.alloc hsj _).drewN _
                              case measure => simp [intOf]; omega
                          · have hgt' : ¬ (aj : Int) < (ak : Int) + 1 := by omega
                            go_wp2
                            go_roundw
                            case rel =>
                              refine ⟨j + 1, by omega, by go_num, ?_⟩
                              rw [fold_step hg2, HJ.out, HPF.out, raise_no (fun hh => hgt (by have := hh.1; rwa [HAj.out, HAk2.out] at this))]
                              exact (HSj.out.alloc hsj _).drewN _
                            case measure => simp [intOf]; omega
                    · have hjme : j = m2 := by omega
                      subst hjme
                      have HJe := Lib.hid (show (List.range (k + 1)).foldl (pairF rs i) R = J0 by rw [range_step, HK.out, ← HJ.out, List.take_of_length_le (Nat.le_of_eq HP2.out.1)]; unfold pairF; rw [bodyAt_of HGi.out])
                      go_wp2
                      go_roundw
                      case rel => exact ⟨k + 1, by omega, by go_num, by rw [HJe.out]; exact HSj.out⟩
                      case measure => simp [intOf]; omega
            · have hke : k = n := by omega
              have hrange := Lib.hid (show (List.range (i + 1)).foldl (rowF rs) T = K0 by rw [range_step, HRi.out, ← HK.out]; unfold rowF; rw [HL.out, hke])
              have hlkI : ¬ (k : Int) < (n : Int) := by omega
              go_wp2
              go_roundw
              case rel => exact ⟨i + 1, by omega, by go_num, by rw [hrange.out]; exact HSk.out⟩
              case measure => simp [intOf]; omega
        · have hie : i = n := by omega
          have hpass := Lib.hid (show again (passF rs) (t + 1) (List.replicate n 0) = R by rw [again_succ, HT.out, ← HRi.out]; unfold passF; rw [HL.out, hie])
          have hliI : ¬ (i : Int) < (n : Int) := by omega
          have hlt' := HTI.out
          go_wp2
          go_roundw
          case rel => exact ⟨t + 1, by omega, by go_num, by rw [hpass.out]; exact HSi.out⟩
          case measure => simp [intOf]; omega
    · have hte : t = (n + 1) * (n + 2) := by have := HTI.out; omega
      subst hte
      have hl := HL.out
      go_wp2
      go_ret
      refine ⟨rfl, ?_, HS.out.2.2⟩
      unfold levelsL; rw [hl, HT.out]; exact HS.out.1

end Go.Proofs.YtnhbnhibphjljaaGreatDoor
