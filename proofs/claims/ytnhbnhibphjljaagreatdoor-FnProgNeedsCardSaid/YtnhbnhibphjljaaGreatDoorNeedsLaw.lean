/-
  The law of ProgNeeds, proved: for every code that can be read, of the rules and the name that are drawn: it is told as the model tells it; what a name needs needs nothing more; all are names of the rules, ascending, and it is one of them. (Written by tools/needslaw.py.)
-/
import Derived.Test.YtnhbnhibphjljaaGreatDoorDrawLaw
import Derived.Test.YtnhbnhibphjljaaGreatDoorOpenB
import Derived.Test.YtnhbnhibphjljaaGreatDoorOpen
import Derived.Test.YtnhbnhibphjljaaGreatDoorClosed
import Derived.Test.YtnhbnhibphjljaaGreatDoorCards
import Derived.Test.YtnhbnhibphjljaaGreatDoorTie
import Derived.SevenTiedAt
namespace Go.Proofs.YtnhbnhibphjljaaGreatDoor
open Go.RowKit

theorem needs_shut {rs : List Rl} {nm : ByteArray} {r : Rl} {q : Pt} (hr : r ∈ rs) (hq : q ∈ r.2) (h : r.1.1 ∈ progNeeds rs nm) : q.2.1 ∈ progNeeds rs nm := by
  unfold progNeeds at h ⊢
  split at h
  · rename_i hf
    rw [if_pos hf]
    rw [mem_needsOf] at h ⊢
    have hs : Reach rs nm q.2.1 := h.2.step ⟨r, hr, rfl, q, hq, rfl⟩
    exact ⟨reach_names hf.2 hs, hs⟩
  · simp at h

theorem needs_names {rs : List Rl} {nm x : ByteArray} (h : x ∈ progNeeds rs nm) : x ∈ progNames rs := by
  unfold progNeeds at h
  split at h
  · rename_i hf
    unfold progNames
    rw [if_pos hf.1]
    exact (mem_needsOf.1 h).1
  · simp at h

theorem needs_self {rs : List Rl} {nm x : ByteArray} (h : x ∈ progNeeds rs nm) : nm ∈ progNeeds rs nm := by
  unfold progNeeds at h ⊢
  split at h
  · rename_i hf
    rw [if_pos hf]
    exact mem_needsOf.2 ⟨hf.2, .refl⟩
  · simp at h

theorem needs_row (rs : List Rl) (nm : ByteArray) : InRow (progNeeds rs nm) := by
  unfold progNeeds
  split
  · exact needsOf_row _ _
  · exact List.Pairwise.nil

theorem row_next {ls : List ByteArray} (h : InRow ls) {i : Nat} {s t : ByteArray} (hs : ls[i]? = some s) (ht : ls[i + 1]? = some t) : ltT t s = true := by
  obtain ⟨h1, e1⟩ := List.getElem?_eq_some_iff.1 hs
  obtain ⟨h2, e2⟩ := List.getElem?_eq_some_iff.1 ht
  have := List.pairwise_iff_getElem.1 h i (i + 1) h1 h2 (by omega)
  rw [e1, e2] at this
  exact this

set_option maxRecDepth 100000 in
set_option maxHeartbeats 8000000 in
theorem needsLaw_any (A : Option Addr) (n c : Nat) (w : World) (h : IsBytes w w.heap.size A n c) (hk : ErrKind w) :
    Calls Tryz.prog 13 #[.slice A n c] w (BoolPost true w) := by
  have HK := Lib.hid hk; clear hk
  go_enter Tryz.func13, Tryz.ntmps13
  go_wp2_with fail
  all_goals try (go_ret; exact ⟨rfl, Below.refl _ _⟩)
  refine (drawProgNeeds_any A n c _ h).mono ?_; rintro e w1 ⟨B, k, d, rs, nm, rfl, hnm, hD⟩
  have HD := Lib.hid hD
  clear hD
  obtain ⟨ls, hls⟩ : ∃ ls, rs.map rRl = ls := ⟨_, rfl⟩
  have HLS := Lib.hid hls
  have HI := Lib.hid (hls ▸ HD.out.rules)
  have HB1 := Lib.hid HD.out.be
  have hk9 := HD.out.few
  clear hls
  have hnm' : nm.size ≤ maxLen := by unfold maxLen; omega
  obtain ⟨X, hX⟩ : ∃ X, progNeeds ls nm = X := ⟨_, rfl⟩
  obtain ⟨Y, hY⟩ : ∃ Y, progNames ls = Y := ⟨_, rfl⟩
  obtain ⟨hb, hhb⟩ : ∃ hb, headsA ls nm = hb := ⟨_, rfl⟩
  have HX := Lib.hid hX; have HY := Lib.hid hY; have HHB := Lib.hid hhb
  obtain ⟨hx1, hx2⟩ := progNeeds_small ls nm
  obtain ⟨hy1, hy2⟩ := progNames_small ls
  rw [hX] at hx1 hx2; rw [hY] at hy1 hy2
  have HX2 := Lib.hid hx2; have HY2 := Lib.hid hy2
  obtain ⟨m, hm⟩ : ∃ m, X.length = m := ⟨_, rfl⟩
  obtain ⟨l, hl⟩ : ∃ l, Y.length = l := ⟨_, rfl⟩
  have HM := Lib.hid hm; have HL := Lib.hid hl
  rw [hm] at hx1; rw [hl] at hy1
  clear hX hY hhb hx2 hy2 hm hl
  go_wp2_with fail
  refine (implProgNeeds_any B k d ls nm _ HI.out hnm' (HK.out.later HB1.out)).mono ?_; rintro e w2 ⟨v, rfl, hrow, hb2⟩
  rw [HX.out, HM.out] at hrow
  obtain ⟨A2, c2, rfl, O2⟩ := OwnTx.of_row hrow HM.out.symm HX2.out (Nat.zero_le _)
  have TX2 := Lib.hid O2.texts
  have HB2 := Lib.hid (belowThen HB1.out hb2)
  have HI2 := Lib.hid (HI.out.up RuleE.stays hb2)
  clear hrow O2 hb2 HI
  go_wp2_with fail
  refine (implProgNames_any B k d ls _ HI2.out (HK.out.later HB2.out)).mono ?_; rintro e w3 ⟨v, rfl, hrow, hb3⟩
  rw [HY.out, HL.out] at hrow
  obtain ⟨A3, c3, rfl, O3⟩ := OwnTx.of_row hrow HL.out.symm HY2.out (Nat.zero_le _)
  have TY3 := Lib.hid O3.texts
  have TX3 := Lib.hid (TX2.out.up TextE.stays hb3)
  have HB3 := Lib.hid (belowThen HB2.out hb3)
  have HI3 := Lib.hid (HI2.out.up RuleE.stays hb3)
  clear hrow O3 hb3 HI2 TX2
  go_wp2_with fail
  refine (specProgNeeds_any B k d ls nm _ HI3.out).mono ?_; rintro e w4 ⟨A4, c4, rfl, T4, hb4⟩
  rw [HX.out, HM.out] at T4 ⊢
  have TX4 := Lib.hid (TX3.out.up TextE.stays hb4); have TY4 := Lib.hid (TY3.out.up TextE.stays hb4); have HB4 := Lib.hid (belowThen HB3.out hb4); have HI4 := Lib.hid (HI3.out.up RuleE.stays hb4)
  have TT4 := Lib.hid T4; clear T4
  clear hb4
  clear TX3 TY3 HI3
  go_wp2_with fail
  refine (fsTexts_same _ _ _ _ _ _ X _ TX4.out TT4.out).mono ?_; rintro e w5 ⟨rfl, hb5⟩
  have TX5 := Lib.hid (TX4.out.up TextE.stays hb5); have TY5 := Lib.hid (TY4.out.up TextE.stays hb5); have HB5 := Lib.hid (belowThen HB4.out hb5); have HI5 := Lib.hid (HI4.out.up RuleE.stays hb5)
  clear hb5
  clear TX4 TY4 HI4
  go_wp2_with fail
  refine (specProgNames_any B k d ls _ HI5.out).mono ?_; rintro e w6 ⟨A6, c6, rfl, T6', hb6⟩
  rw [HY.out, HL.out] at T6' ⊢
  have T6 := T6'.keep (w' := w6) (lo' := 0) (hi' := w6.heap.size) TextE.stays (fun _ _ _ => rfl) (Nat.zero_le _) (Nat.le_refl _)
  clear T6'
  have TX6 := Lib.hid (TX5.out.up TextE.stays hb6); have TY6 := Lib.hid (TY5.out.up TextE.stays hb6); have HB6 := Lib.hid (belowThen HB5.out hb6); have HI6 := Lib.hid (HI5.out.up RuleE.stays hb6)
  have TT6 := Lib.hid T6; clear T6
  clear hb6
  clear TX5 TY5 HI5
  go_wp2_with fail
  refine (fsTexts_same _ _ _ _ _ _ Y _ TY6.out TT6.out).mono ?_; rintro e w7 ⟨rfl, hb7⟩
  have TX7 := Lib.hid (TX6.out.up TextE.stays hb7); have TY7 := Lib.hid (TY6.out.up TextE.stays hb7); have HB7 := Lib.hid (belowThen HB6.out hb7); have HI7 := Lib.hid (HI6.out.up RuleE.stays hb7)
  clear hb7
  clear TX6 TY6 HI6
  go_wp2_with fail
  refine (implProgHeads_any B k d ls nm _ HI7.out (HK.out.later HB7.out)).mono ?_; rintro e w8 ⟨rfl, hb8⟩
  rw [HHB.out]
  have TX8 := Lib.hid (TX7.out.up TextE.stays hb8); have TY8 := Lib.hid (TY7.out.up TextE.stays hb8); have HB8 := Lib.hid (belowThen HB7.out hb8); have HI8 := Lib.hid (HI7.out.up RuleE.stays hb8)
  clear hb8
  clear TX7 TY7 HI7
  go_wp2_with fail
  refine (specProgHeads_any B k d ls nm _ HI8.out).mono ?_; rintro e w9 ⟨rfl, hb9⟩
  rw [HHB.out]
  have TX9 := Lib.hid (TX8.out.up TextE.stays hb9); have TY9 := Lib.hid (TY8.out.up TextE.stays hb9); have HB9 := Lib.hid (belowThen HB8.out hb9); have HI9 := Lib.hid (HI8.out.up RuleE.stays hb9)
  clear hb9
  clear TX8 TY8 HI8
  have hbb : (hb != hb) = false := by simp
  by_cases h0 : m = 0
  · subst h0
    go_wp2_with fail
    refine (specProgNeeds_any B k d ls nm _ HI9.out).mono ?_; rintro e w10 ⟨A10, c10, rfl, T10, hb10⟩
    rw [HX.out, HM.out] at T10 ⊢
    have TX10 := Lib.hid (TX9.out.up TextE.stays hb10); have TY10 := Lib.hid (TY9.out.up TextE.stays hb10); have HB10 := Lib.hid (belowThen HB9.out hb10); have HI10 := Lib.hid (HI9.out.up RuleE.stays hb10)
    have TT10 := Lib.hid T10; clear T10
    clear hb10
    clear TX9 TY9 HI9
    go_wp2_with fail
    refine (fsTexts_same _ _ _ _ _ _ X _ TX10.out TT10.out).mono ?_; rintro e w11 ⟨rfl, hb11⟩
    have TX11 := Lib.hid (TX10.out.up TextE.stays hb11); have TY11 := Lib.hid (TY10.out.up TextE.stays hb11); have HB11 := Lib.hid (belowThen HB10.out hb11); have HI11 := Lib.hid (HI10.out.up RuleE.stays hb11)
    clear hb11
    clear TX10 TY10 HI10
    go_wp2_with fail
    refine (specProgNames_any B k d ls _ HI11.out).mono ?_; rintro e w12 ⟨A12, c12, rfl, T12', hb12⟩
    rw [HY.out, HL.out] at T12' ⊢
    have T12 := T12'.keep (w' := w12) (lo' := 0) (hi' := w12.heap.size) TextE.stays (fun _ _ _ => rfl) (Nat.zero_le _) (Nat.le_refl _)
    clear T12'
    have TX12 := Lib.hid (TX11.out.up TextE.stays hb12); have TY12 := Lib.hid (TY11.out.up TextE.stays hb12); have HB12 := Lib.hid (belowThen HB11.out hb12); have HI12 := Lib.hid (HI11.out.up RuleE.stays hb12)
    have TT12 := Lib.hid T12; clear T12
    clear hb12
    clear TX11 TY11 HI11
    go_wp2_with fail
    refine (fsTexts_same _ _ _ _ _ _ Y _ TY12.out TT12.out).mono ?_; rintro e w13 ⟨rfl, hb13⟩
    have TX13 := Lib.hid (TX12.out.up TextE.stays hb13); have TY13 := Lib.hid (TY12.out.up TextE.stays hb13); have HB13 := Lib.hid (belowThen HB12.out hb13); have HI13 := Lib.hid (HI12.out.up RuleE.stays hb13)
    clear hb13
    clear TX12 TY12 HI12
    go_wp2_with fail
    refine (implProgHeads_any B k d ls nm _ HI13.out (HK.out.later HB13.out)).mono ?_; rintro e w14 ⟨rfl, hb14⟩
    rw [HHB.out]
    have TX14 := Lib.hid (TX13.out.up TextE.stays hb14); have TY14 := Lib.hid (TY13.out.up TextE.stays hb14); have HB14 := Lib.hid (belowThen HB13.out hb14); have HI14 := Lib.hid (HI13.out.up RuleE.stays hb14)
    clear hb14
    clear TX13 TY13 HI13
    go_wp2_with fail
    refine (specProgHeads_any B k d ls nm _ HI14.out).mono ?_; rintro e w15 ⟨rfl, hb15⟩
    rw [HHB.out]
    have TX15 := Lib.hid (TX14.out.up TextE.stays hb15); have TY15 := Lib.hid (TY14.out.up TextE.stays hb15); have HB15 := Lib.hid (belowThen HB14.out hb15); have HI15 := Lib.hid (HI14.out.up RuleE.stays hb15)
    clear hb15
    clear TX14 TY14 HI14
    have hbe : (hb == hb) = true := by simp
    go_wp2
    go_ret; exact ⟨by simp, HB15.out⟩
  · have h0I : ¬ (m : Int) = 0 := by omega
    have hmb : ((m : Int) == 0) = false := by simpa using h0I
    have HXE := Lib.hid (show ∀ r ∈ ls, ∀ q ∈ r.2, r.1.1 ∈ X → q.2.1 ∈ X from fun r hr q hq h => by rw [← HX.out] at h ⊢; exact needs_shut hr hq h)
    have HXY := Lib.hid (show ∀ x ∈ X, x ∈ Y from fun x h => by rw [← HX.out] at h; rw [← HY.out]; exact needs_names h)
    have HXR := Lib.hid (show InRow X by rw [← HX.out]; exact needs_row _ _)
    have HXS := Lib.hid (show nm ∈ X by
      obtain ⟨y, hy⟩ : ∃ y, y ∈ X := by
        cases hX : X with
        | nil => have := HM.out; rw [hX] at this; simp at this; omega
        | cons y ys => exact ⟨y, List.mem_cons_self⟩
      rw [← HX.out] at hy ⊢; exact needs_self hy)
    have HXL := Lib.hid HM.out
    go_wp2
    go_loopw [7] (fun i wr => ∃ j : Nat, j ≤ k ∧ i = .int .i64 (j : Int) ∧ Below w9.heap.size w9 wr) (fun i _ => k - (intOf i).toNat)
    case atStart => exact ⟨0, Nat.zero_le _, rfl, Below.refl _ _⟩
    case round =>
      obtain ⟨j, hj, rfl, hb⟩ := hrel
      by_cases hlt : j < k
      · have hltI : (j : Int) < (k : Int) := by omega
        obtain ⟨p, r, A', n', c', B2, m2, d2, hA, hpb, hg, d1, _, _, _, d5, d6⟩ := rule_here (HI9.out.below RuleE.stays hb (Nat.le_refl _)) hlt
        subst hA
        have HG := Lib.hid (List.mem_of_getElem? hg)
        have D1 := Lib.hid d1; have D5 := Lib.hid d5
        have HP0 := Lib.hid (d6.keep (w' := wr) (lo' := 0) (hi' := wr.heap.size) PartE.stays (fun _ _ _ => rfl) (Nat.le_refl _) hb.size)
        have hpz : p.block < wr.heap.size := Nat.lt_of_lt_of_le hpb hb.size
        have HPL := Lib.hid d6.1
        have hm2 := d6.len; unfold maxLen at hm2
        have HB0 := Lib.hid hb
        clear hg d1 d6 d5 hb hpb
        go_wp2
        obtain ⟨w0, hw0⟩ : ∃ w0 : World, w0 = wr := ⟨_, rfl⟩
        subst hw0
        go_loopw [8] (fun y wr => ∃ q : Nat, q ≤ m2 ∧ y = .int .i64 (q : Int) ∧ Below w0.heap.size w0 wr) (fun y _ => m2 - (intOf y).toNat)
        case atStart => exact ⟨0, Nat.zero_le _, rfl, Below.refl _ _⟩
        case round =>
          obtain ⟨q, hq, rfl, hbi⟩ := hrel
          have e1 := (hbi.cell (p := p.add (j * 3)) (by rw [block_add]; exact hpz)).trans D1.out
          have e5 := (hbi.cell (p := ⟨(p.add (j * 3)).block, (p.add (j * 3)).off + 2, none⟩) (by rw [block_add]; exact hpz)).trans D5.out
          have hbo := belowThen HB0.out hbi
          have HBO := Lib.hid hbo
          have hjI : (j : Int) < (k : Int) := by omega
          by_cases hqm : q < m2
          · have hqI : (q : Int) < (m2 : Int) := by omega
            go_wp2_with fail
            refine (fsText_any _ _ _ X r.1.1 _ (TX9.out.up TextE.stays hbo)).mono ?_; rintro e w10 ⟨rfl, hb10⟩
            have HBI := Lib.hid (belowThen hbi hb10)
            have HBO2 := Lib.hid (belowThen hbo hb10)
            have e5b := (hb10.cell (p := ⟨(p.add (j * 3)).block, (p.add (j * 3)).off + 2, none⟩) (by rw [block_add]; have := hbi.size; omega)).trans e5
            clear e1 e5 hbo hb10
            obtain ⟨tb, htb⟩ : ∃ tb, thereB X r.1.1 = tb := ⟨_, rfl⟩
            rw [htb]
            cases tb
            · clear htb
              go_wp2
              go_roundw
              case rel => exact ⟨j + 1, by omega, by go_num, HBO2.out⟩
              case measure => simp [intOf]; omega
            · have hin : r.1.1 ∈ X := by
                refine Classical.byContradiction fun hx => ?_
                rw [there_no hx] at htb; cases htb
              clear htb
              obtain ⟨pb, pq, hB, _, hpbb, hgq, hE⟩ := (HP0.out.below PartE.stays HBI.out (Nat.le_refl _)).at_ hqm
              obtain ⟨_, g2, _, _, _, _, _, _⟩ := hE
              subst hB
              have HPI := Lib.hid (HXE.out r HG.out pq (List.mem_of_getElem? hgq) hin)
              have g2' : w10.cell? ⟨(pb.add (q * 3)).block, (pb.add (q * 3)).off + 1, none⟩ = some (.string pq.2.1) := g2
              clear g2 hgq hin
              go_wp2_with fail
              refine (fsText_any _ _ _ X pq.2.1 _ (TX9.out.up TextE.stays HBO2.out)).mono ?_; rintro e w11 ⟨rfl, hb11⟩
              rw [there_yes HPI.out]
              have HBI3 := Lib.hid (belowThen HBI.out hb11)
              clear hb11 e5b g2'
              go_wp2
              go_roundw
              case rel => exact ⟨q + 1, by omega, by go_num, HBI3.out⟩
              case measure => simp [intOf]; omega
          · have hqI : ¬ (q : Int) < (m2 : Int) := by omega
            go_wp2
            go_roundw
            case rel => exact ⟨j + 1, by omega, by go_num, HBO.out⟩
            case measure => simp [intOf]; omega
      · have hltI : ¬ (j : Int) < (k : Int) := by omega
        have HB0 := Lib.hid hb
        clear hb
        go_wp2
        obtain ⟨w0, hw0⟩ : ∃ w0 : World, w0 = wr := ⟨_, rfl⟩
        subst hw0
        go_loopw [9] (fun i wr => ∃ q : Nat, q ≤ m ∧ i = .int .i64 (q : Int) ∧ Below w9.heap.size w9 wr) (fun i _ => m - (intOf i).toNat)
        case atStart => exact ⟨0, Nat.zero_le _, rfl, HB0.out⟩
        case round =>
          obtain ⟨q, hq, rfl, hb⟩ := hrel
          by_cases hqm : q < m
          · have hqI : (q : Int) < (m : Int) := by omega
            obtain ⟨px, t, hA, _, hpx, hg, hE⟩ := (TX9.out.below TextE.stays hb (Nat.le_refl _)).at_ hqm
            have c1 : wr.drew.cell? (px.add q) = some (.string t) := by have := hE; unfold TextE at this; rwa [Nat.mul_one] at this
            have HTY := Lib.hid (HXY.out t (List.mem_of_getElem? hg))
            have hpz : px.block < wr.heap.size := Nat.lt_of_lt_of_le hpx hb.size
            have HBD := Lib.hid (hb.drew)
            by_cases hq0 : 0 < q
            · have hq0I : (0 : Int) < (q : Int) := by omega
              obtain ⟨q1, hq1⟩ : ∃ q1, q1 + 1 = q := ⟨q - 1, by omega⟩
              obtain ⟨px2, s, hA2, _, _, hg2, hE2⟩ := (TX9.out.below TextE.stays hb (Nat.le_refl _)).at_ (show q1 < m by omega)
              have hlt2 : Op.bytesLess s.toList t.toList = true := row_next HXR.out hg2 (by rw [hq1]; exact hg)
              rw [hA] at hA2; injection hA2 with hA2; subst hA2
              have c0 : wr.drew.cell? (px.add q1) = some (.string s) := by have := hE2; unfold TextE at this; rwa [Nat.mul_one] at this
              have hsub : IntKind.i64.wrap ((q : Int) - 1) = (q1 : Int) := by rw [IntKind.wrap_i64]; omega
              have hql : (q1 : Int) < (m : Int) := by omega
              have HQ1 := Lib.hid hq1
              clear hE2 hg2 hq1
              subst hA
              clear hE hg
              go_wp2
              obtain ⟨V, hV⟩ : ∃ V, wr.drew = V := ⟨_, rfl⟩
              rw [hV] at c1 HBD c0
              have hzV : V.heap.size = wr.heap.size := by rw [← hV]; rfl
              refine wp_region_held_drew (S := fun W => W.cell? (px.add (q)) = some (.string t) ∧ W.cell? (px.add q1) = some (.string s)) (by kernel_rfl) (by rw [hV]; exact ⟨c1, c0⟩) ?_
              rw [hV]
              clear hV
              intro hS_
              refine takeV (i := 0) (v := .slice A3 l c3) (by (simp only [List.getElem?_toArray, List.getElem?_cons_zero]); rfl) (by kernel_rfl) (by kernel_rfl) (by kernel_rfl) (by rfl) (fun _ _ _ h => h) (Or.inl ⟨by rfl, ?_⟩) hS_ (by (simp only [List.setIfInBounds_toArray, List.set_cons_succ, List.set_cons_zero]); rfl) ?_
              · intro w_ hSw_; (try dsimp only at hSw_); go_simp
              refine takeV (i := 1) (v := .slice (some px) m c2) (by (simp only [List.getElem?_toArray, List.getElem?_cons_succ, List.getElem?_cons_zero]); rfl) (by kernel_rfl) (by kernel_rfl) (by kernel_rfl) (by rfl) (fun _ _ _ h => h) (Or.inl ⟨by rfl, ?_⟩) hS_ (by (simp only [List.setIfInBounds_toArray, List.set_cons_succ, List.set_cons_zero]); rfl) ?_
              · intro w_ hSw_; (try dsimp only at hSw_); go_simp
              refine takeV (i := 2) (v := .int .i64 ((q : Nat) : Int)) (by (simp only [List.getElem?_toArray, List.getElem?_cons_succ, List.getElem?_cons_zero]); rfl) (by kernel_rfl) (by kernel_rfl) (by kernel_rfl) (by rfl) (fun _ _ _ h => h) (Or.inl ⟨by rfl, ?_⟩) hS_ (by (simp only [List.setIfInBounds_toArray, List.set_cons_succ, List.set_cons_zero]); rfl) ?_
              · intro w_ hSw_; (try dsimp only at hSw_); go_simp
              refine takeV (i := 3) (v := .pointer (some (px.add (q)))) (by (simp only [List.getElem?_toArray, List.getElem?_cons_succ, List.getElem?_cons_zero]); rfl) (by kernel_rfl) (by kernel_rfl) (by kernel_rfl) (by rfl) (fun _ _ _ h => h) (Or.inl ⟨by rfl, ?_⟩) hS_ (by (simp only [List.setIfInBounds_toArray, List.set_cons_succ, List.set_cons_zero]); rfl) ?_
              · intro w_ hSw_; (try dsimp only at hSw_); go_simp
              refine takeV (i := 4) (v := .string t) (by (simp only [List.getElem?_toArray, List.getElem?_cons_succ, List.getElem?_cons_zero]); rfl) (by kernel_rfl) (by kernel_rfl) (by kernel_rfl) (by rfl) (fun _ _ _ h => h) (Or.inl ⟨by rfl, ?_⟩) hS_ (by (simp only [List.setIfInBounds_toArray, List.set_cons_succ, List.set_cons_zero]); rfl) ?_
              · intro w_ hSw_; (try dsimp only at hSw_); go_simp
              refine wpAnyH_ready (rs := [5]) (by kernel_rfl) (by simp) ?_
              refine AllReadyH.cons (o := _) (by (simp only [List.getElem?_toArray, List.getElem?_cons_succ, List.getElem?_cons_zero]); rfl) (fun K_ hK_ => ?_) AllReadyH.nil
              rw [if_pos (by rfl)]
              go_simp
              go_at_call 54
              refine (fsText_any _ _ _ Y t _ (TY9.out.up TextE.stays HBD.out)).mono ?_; rintro e w10 ⟨rfl, hb10⟩
              rw [there_yes HTY.out]
              have y1 := (hb10.cell (p := px.add (q)) (by rw [block_add]; omega)).trans c1
              have y0 := (hb10.cell (p := px.add q1) (by rw [block_add]; omega)).trans c0
              have HB10 := Lib.hid (belowThen HBD.out hb10)
              clear hb10 c1 c0
              refine hK_.out _ _ ⟨y1, y0⟩ (fun hS2_ => ?_)
              clear hK_ hS_; have hS_ := hS2_; clear hS2_
              (try simp only [Act.put, List.setIfInBounds_toArray, List.set_cons_zero, List.set_cons_succ])
              refine takeV (i := 6) (v := .bool false) (by (simp only [List.getElem?_toArray, List.getElem?_cons_succ, List.getElem?_cons_zero]); rfl) (by kernel_rfl) (by kernel_rfl) (by kernel_rfl) (by rfl) (fun _ _ _ h => h) (Or.inl ⟨by rfl, ?_⟩) hS_ (by (simp only [List.setIfInBounds_toArray, List.set_cons_succ, List.set_cons_zero]); rfl) ?_
              · intro w_ hSw_; (try dsimp only at hSw_); go_simp
              refine takeV (i := 7) (v := .bool false) (by (simp only [List.getElem?_toArray, List.getElem?_cons_succ, List.getElem?_cons_zero]); rfl) (by kernel_rfl) (by kernel_rfl) (by kernel_rfl) (by rfl) (fun _ _ _ h => h) (Or.inl ⟨by rfl, ?_⟩) hS_ (by (simp only [List.setIfInBounds_toArray, List.set_cons_succ, List.set_cons_zero]); rfl) ?_
              · intro w_ hSw_; (try dsimp only at hSw_); go_simp
              refine takeV (i := 8) (v := .int .i64 ((q : Nat) : Int)) (by (simp only [List.getElem?_toArray, List.getElem?_cons_succ, List.getElem?_cons_zero]); rfl) (by kernel_rfl) (by kernel_rfl) (by kernel_rfl) (by rfl) (fun _ _ _ h => h) (Or.inl ⟨by rfl, ?_⟩) hS_ (by (simp only [List.setIfInBounds_toArray, List.set_cons_succ, List.set_cons_zero]); rfl) ?_
              · intro w_ hSw_; (try dsimp only at hSw_); go_simp
              refine takeV (i := 9) (v := .bool true) (by (simp only [List.getElem?_toArray, List.getElem?_cons_succ, List.getElem?_cons_zero]); rfl) (by kernel_rfl) (by kernel_rfl) (by kernel_rfl) (by rfl) (fun _ _ _ h => h) (Or.inl ⟨by rfl, ?_⟩) hS_ (by (simp only [List.setIfInBounds_toArray, List.set_cons_succ, List.set_cons_zero]); rfl) ?_
              · intro w_ hSw_; (try dsimp only at hSw_); go_simp
              refine takeV (i := 10) (v := .bool true) (by (simp only [List.getElem?_toArray, List.getElem?_cons_succ, List.getElem?_cons_zero]); rfl) (by kernel_rfl) (by kernel_rfl) (by kernel_rfl) (by rfl) (fun _ _ _ h => h) (Or.inl ⟨by rfl, ?_⟩) hS_ (by (simp only [List.setIfInBounds_toArray, List.set_cons_succ, List.set_cons_zero]); rfl) ?_
              · intro w_ hSw_; (try dsimp only at hSw_); go_simp
              refine takeV (i := 11) (v := .slice (some px) m c2) (by (simp only [List.getElem?_toArray, List.getElem?_cons_succ, List.getElem?_cons_zero]); rfl) (by kernel_rfl) (by kernel_rfl) (by kernel_rfl) (by rfl) (fun _ _ _ h => h) (Or.inl ⟨by rfl, ?_⟩) hS_ (by (simp only [List.setIfInBounds_toArray, List.set_cons_succ, List.set_cons_zero]); rfl) ?_
              · intro w_ hSw_; (try dsimp only at hSw_); go_simp
              refine takeV (i := 12) (v := .int .i64 ((q : Nat) : Int)) (by (simp only [List.getElem?_toArray, List.getElem?_cons_succ, List.getElem?_cons_zero]); rfl) (by kernel_rfl) (by kernel_rfl) (by kernel_rfl) (by rfl) (fun _ _ _ h => h) (Or.inl ⟨by rfl, ?_⟩) hS_ (by (simp only [List.setIfInBounds_toArray, List.set_cons_succ, List.set_cons_zero]); rfl) ?_
              · intro w_ hSw_; (try dsimp only at hSw_); go_simp
              refine takeV (i := 13) (v := .int .i64 (q1 : Int)) (by (simp only [List.getElem?_toArray, List.getElem?_cons_succ, List.getElem?_cons_zero]); rfl) (by kernel_rfl) (by kernel_rfl) (by kernel_rfl) (by rfl) (fun _ _ _ h => h) (Or.inl ⟨by rfl, ?_⟩) hS_ (by (simp only [List.setIfInBounds_toArray, List.set_cons_succ, List.set_cons_zero]); rfl) ?_
              · intro w_ hSw_; (try dsimp only at hSw_); go_simp
              refine takeV (i := 14) (v := .pointer (some (px.add q1))) (by (simp only [List.getElem?_toArray, List.getElem?_cons_succ, List.getElem?_cons_zero]); rfl) (by kernel_rfl) (by kernel_rfl) (by kernel_rfl) (by rfl) (fun _ _ _ h => h) (Or.inl ⟨by rfl, ?_⟩) hS_ (by (simp only [List.setIfInBounds_toArray, List.set_cons_succ, List.set_cons_zero]); rfl) ?_
              · intro w_ hSw_; (try dsimp only at hSw_); go_simp
              refine takeV (i := 15) (v := .string s) (by (simp only [List.getElem?_toArray, List.getElem?_cons_succ, List.getElem?_cons_zero]); rfl) (by kernel_rfl) (by kernel_rfl) (by kernel_rfl) (by rfl) (fun _ _ _ h => h) (Or.inl ⟨by rfl, ?_⟩) hS_ (by (simp only [List.setIfInBounds_toArray, List.set_cons_succ, List.set_cons_zero]); rfl) ?_
              · intro w_ hSw_; (try dsimp only at hSw_); go_simp
              refine takeV (i := 16) (v := .slice (some px) m c2) (by (simp only [List.getElem?_toArray, List.getElem?_cons_succ, List.getElem?_cons_zero]); rfl) (by kernel_rfl) (by kernel_rfl) (by kernel_rfl) (by rfl) (fun _ _ _ h => h) (Or.inl ⟨by rfl, ?_⟩) hS_ (by (simp only [List.setIfInBounds_toArray, List.set_cons_succ, List.set_cons_zero]); rfl) ?_
              · intro w_ hSw_; (try dsimp only at hSw_); go_simp
              refine takeV (i := 17) (v := .int .i64 ((q : Nat) : Int)) (by (simp only [List.getElem?_toArray, List.getElem?_cons_succ, List.getElem?_cons_zero]); rfl) (by kernel_rfl) (by kernel_rfl) (by kernel_rfl) (by rfl) (fun _ _ _ h => h) (Or.inl ⟨by rfl, ?_⟩) hS_ (by (simp only [List.setIfInBounds_toArray, List.set_cons_succ, List.set_cons_zero]); rfl) ?_
              · intro w_ hSw_; (try dsimp only at hSw_); go_simp
              refine takeV (i := 18) (v := .pointer (some (px.add (q)))) (by (simp only [List.getElem?_toArray, List.getElem?_cons_succ, List.getElem?_cons_zero]); rfl) (by kernel_rfl) (by kernel_rfl) (by kernel_rfl) (by rfl) (fun _ _ _ h => h) (Or.inl ⟨by rfl, ?_⟩) hS_ (by (simp only [List.setIfInBounds_toArray, List.set_cons_succ, List.set_cons_zero]); rfl) ?_
              · intro w_ hSw_; (try dsimp only at hSw_); go_simp
              refine takeV (i := 19) (v := .string t) (by (simp only [List.getElem?_toArray, List.getElem?_cons_succ, List.getElem?_cons_zero]); rfl) (by kernel_rfl) (by kernel_rfl) (by kernel_rfl) (by rfl) (fun _ _ _ h => h) (Or.inl ⟨by rfl, ?_⟩) hS_ (by (simp only [List.setIfInBounds_toArray, List.set_cons_succ, List.set_cons_zero]); rfl) ?_
              · intro w_ hSw_; (try dsimp only at hSw_); go_simp
              refine takeV (i := 20) (v := .bool false) (by (simp only [List.getElem?_toArray, List.getElem?_cons_succ, List.getElem?_cons_zero]); rfl) (by kernel_rfl) (by kernel_rfl) (by kernel_rfl) (by rfl) (fun _ _ _ h => h) (Or.inl ⟨by rfl, ?_⟩) hS_ (by (simp only [List.setIfInBounds_toArray, List.set_cons_succ, List.set_cons_zero]); rfl) ?_
              · intro w_ hSw_; (try dsimp only at hSw_); go_simp
              refine takeV (i := 21) (v := .bool false) (by (simp only [List.getElem?_toArray, List.getElem?_cons_succ, List.getElem?_cons_zero]); rfl) (by kernel_rfl) (by kernel_rfl) (by kernel_rfl) (by rfl) (fun _ _ _ h => h) (Or.inl ⟨by rfl, ?_⟩) hS_ (by (simp only [List.setIfInBounds_toArray, List.set_cons_succ, List.set_cons_zero]); rfl) ?_
              · intro w_ hSw_; (try dsimp only at hSw_); go_simp
              refine takeV (i := 22) (v := .bool false) (by (simp only [List.getElem?_toArray, List.getElem?_cons_succ, List.getElem?_cons_zero]); rfl) (by kernel_rfl) (by kernel_rfl) (by kernel_rfl) (by rfl) (fun _ _ _ h => h) (Or.inl ⟨by rfl, ?_⟩) hS_ (by (simp only [List.setIfInBounds_toArray, List.set_cons_succ, List.set_cons_zero]); rfl) ?_
              · intro w_ hSw_; (try dsimp only at hSw_); go_simp
              refine wpAnyH_done (by kernel_rfl) ?_ _
              go_wp2
              go_roundw
              case rel => exact ⟨q + 1, by omega, by go_num, HB10.out⟩
              case measure => simp [intOf]; omega
            · have hq0I : ¬ (0 : Int) < (q : Int) := by omega
              subst hA
              clear hE hg
              go_wp2
              obtain ⟨V, hV⟩ : ∃ V, wr.drew = V := ⟨_, rfl⟩
              rw [hV] at c1 HBD
              have hzV : V.heap.size = wr.heap.size := by rw [← hV]; rfl
              refine wp_region_held_drew (S := fun W => W.cell? (px.add (q)) = some (.string t)) (by kernel_rfl) (by rw [hV]; exact c1) ?_
              rw [hV]
              clear hV
              intro hS_
              refine takeV (i := 0) (v := .slice A3 l c3) (by (simp only [List.getElem?_toArray, List.getElem?_cons_zero]); rfl) (by kernel_rfl) (by kernel_rfl) (by kernel_rfl) (by rfl) (fun _ _ _ h => h) (Or.inl ⟨by rfl, ?_⟩) hS_ (by (simp only [List.setIfInBounds_toArray, List.set_cons_succ, List.set_cons_zero]); rfl) ?_
              · intro w_ hSw_; (try dsimp only at hSw_); go_simp
              refine takeV (i := 1) (v := .slice (some px) m c2) (by (simp only [List.getElem?_toArray, List.getElem?_cons_succ, List.getElem?_cons_zero]); rfl) (by kernel_rfl) (by kernel_rfl) (by kernel_rfl) (by rfl) (fun _ _ _ h => h) (Or.inl ⟨by rfl, ?_⟩) hS_ (by (simp only [List.setIfInBounds_toArray, List.set_cons_succ, List.set_cons_zero]); rfl) ?_
              · intro w_ hSw_; (try dsimp only at hSw_); go_simp
              refine takeV (i := 2) (v := .int .i64 ((q : Nat) : Int)) (by (simp only [List.getElem?_toArray, List.getElem?_cons_succ, List.getElem?_cons_zero]); rfl) (by kernel_rfl) (by kernel_rfl) (by kernel_rfl) (by rfl) (fun _ _ _ h => h) (Or.inl ⟨by rfl, ?_⟩) hS_ (by (simp only [List.setIfInBounds_toArray, List.set_cons_succ, List.set_cons_zero]); rfl) ?_
              · intro w_ hSw_; (try dsimp only at hSw_); go_simp
              refine takeV (i := 3) (v := .pointer (some (px.add (q)))) (by (simp only [List.getElem?_toArray, List.getElem?_cons_succ, List.getElem?_cons_zero]); rfl) (by kernel_rfl) (by kernel_rfl) (by kernel_rfl) (by rfl) (fun _ _ _ h => h) (Or.inl ⟨by rfl, ?_⟩) hS_ (by (simp only [List.setIfInBounds_toArray, List.set_cons_succ, List.set_cons_zero]); rfl) ?_
              · intro w_ hSw_; (try dsimp only at hSw_); go_simp
              refine takeV (i := 4) (v := .string t) (by (simp only [List.getElem?_toArray, List.getElem?_cons_succ, List.getElem?_cons_zero]); rfl) (by kernel_rfl) (by kernel_rfl) (by kernel_rfl) (by rfl) (fun _ _ _ h => h) (Or.inl ⟨by rfl, ?_⟩) hS_ (by (simp only [List.setIfInBounds_toArray, List.set_cons_succ, List.set_cons_zero]); rfl) ?_
              · intro w_ hSw_; (try dsimp only at hSw_); go_simp
              refine wpAnyH_ready (rs := [5]) (by kernel_rfl) (by simp) ?_
              refine AllReadyH.cons (o := _) (by (simp only [List.getElem?_toArray, List.getElem?_cons_succ, List.getElem?_cons_zero]); rfl) (fun K_ hK_ => ?_) AllReadyH.nil
              rw [if_pos (by rfl)]
              go_simp
              go_at_call 54
              refine (fsText_any _ _ _ Y t _ (TY9.out.up TextE.stays HBD.out)).mono ?_; rintro e w10 ⟨rfl, hb10⟩
              rw [there_yes HTY.out]
              have y1 := (hb10.cell (p := px.add (q)) (by rw [block_add]; omega)).trans c1
              have HB10 := Lib.hid (belowThen HBD.out hb10)
              clear hb10 c1
              refine hK_.out _ _ y1 (fun hS2_ => ?_)
              clear hK_ hS_; have hS_ := hS2_; clear hS2_
              (try simp only [Act.put, List.setIfInBounds_toArray, List.set_cons_zero, List.set_cons_succ])
              refine takeV (i := 6) (v := .bool false) (by (simp only [List.getElem?_toArray, List.getElem?_cons_succ, List.getElem?_cons_zero]); rfl) (by kernel_rfl) (by kernel_rfl) (by kernel_rfl) (by rfl) (fun _ _ _ h => h) (Or.inl ⟨by rfl, ?_⟩) hS_ (by (simp only [List.setIfInBounds_toArray, List.set_cons_succ, List.set_cons_zero]); rfl) ?_
              · intro w_ hSw_; (try dsimp only at hSw_); go_simp
              refine takeV (i := 7) (v := .bool false) (by (simp only [List.getElem?_toArray, List.getElem?_cons_succ, List.getElem?_cons_zero]); rfl) (by kernel_rfl) (by kernel_rfl) (by kernel_rfl) (by rfl) (fun _ _ _ h => h) (Or.inl ⟨by rfl, ?_⟩) hS_ (by (simp only [List.setIfInBounds_toArray, List.set_cons_succ, List.set_cons_zero]); rfl) ?_
              · intro w_ hSw_; (try dsimp only at hSw_); go_simp
              refine takeV (i := 8) (v := .int .i64 ((q : Nat) : Int)) (by (simp only [List.getElem?_toArray, List.getElem?_cons_succ, List.getElem?_cons_zero]); rfl) (by kernel_rfl) (by kernel_rfl) (by kernel_rfl) (by rfl) (fun _ _ _ h => h) (Or.inl ⟨by rfl, ?_⟩) hS_ (by (simp only [List.setIfInBounds_toArray, List.set_cons_succ, List.set_cons_zero]); rfl) ?_
              · intro w_ hSw_; (try dsimp only at hSw_); go_simp
              refine takeV (i := 9) (v := .bool false) (by (simp only [List.getElem?_toArray, List.getElem?_cons_succ, List.getElem?_cons_zero]); rfl) (by kernel_rfl) (by kernel_rfl) (by kernel_rfl) (by rfl) (fun _ _ _ h => h) (Or.inl ⟨by rfl, ?_⟩) hS_ (by (simp only [List.setIfInBounds_toArray, List.set_cons_succ, List.set_cons_zero]); rfl) ?_
              · intro w_ hSw_; (try dsimp only at hSw_); go_simp
              refine takeV (i := 10) (v := .bool false) (by (simp only [List.getElem?_toArray, List.getElem?_cons_succ, List.getElem?_cons_zero]); rfl) (by kernel_rfl) (by kernel_rfl) (by kernel_rfl) (by rfl) (fun _ _ _ h => h) (Or.inl ⟨by rfl, ?_⟩) hS_ (by (simp only [List.setIfInBounds_toArray, List.set_cons_succ, List.set_cons_zero]); rfl) ?_
              · intro w_ hSw_; (try dsimp only at hSw_); go_simp
              refine takeV (i := 11) (v := undef) (by (simp only [List.getElem?_toArray, List.getElem?_cons_succ, List.getElem?_cons_zero]); rfl) (by kernel_rfl) (by kernel_rfl) (by kernel_rfl) (by rfl) (fun _ _ _ h => h) (Or.inr ⟨by rfl, rfl⟩) hS_ (by (simp only [List.setIfInBounds_toArray, List.set_cons_succ, List.set_cons_zero]); rfl) ?_
              refine takeV (i := 12) (v := undef) (by (simp only [List.getElem?_toArray, List.getElem?_cons_succ, List.getElem?_cons_zero]); rfl) (by kernel_rfl) (by kernel_rfl) (by kernel_rfl) (by rfl) (fun _ _ _ h => h) (Or.inr ⟨by rfl, rfl⟩) hS_ (by (simp only [List.setIfInBounds_toArray, List.set_cons_succ, List.set_cons_zero]); rfl) ?_
              refine takeV (i := 13) (v := undef) (by (simp only [List.getElem?_toArray, List.getElem?_cons_succ, List.getElem?_cons_zero]); rfl) (by kernel_rfl) (by kernel_rfl) (by kernel_rfl) (by rfl) (fun _ _ _ h => h) (Or.inr ⟨by rfl, rfl⟩) hS_ (by (simp only [List.setIfInBounds_toArray, List.set_cons_succ, List.set_cons_zero]); rfl) ?_
              refine takeV (i := 14) (v := undef) (by (simp only [List.getElem?_toArray, List.getElem?_cons_succ, List.getElem?_cons_zero]); rfl) (by kernel_rfl) (by kernel_rfl) (by kernel_rfl) (by rfl) (fun _ _ _ h => h) (Or.inr ⟨by rfl, rfl⟩) hS_ (by (simp only [List.setIfInBounds_toArray, List.set_cons_succ, List.set_cons_zero]); rfl) ?_
              refine takeV (i := 15) (v := undef) (by (simp only [List.getElem?_toArray, List.getElem?_cons_succ, List.getElem?_cons_zero]); rfl) (by kernel_rfl) (by kernel_rfl) (by kernel_rfl) (by rfl) (fun _ _ _ h => h) (Or.inr ⟨by rfl, rfl⟩) hS_ (by (simp only [List.setIfInBounds_toArray, List.set_cons_succ, List.set_cons_zero]); rfl) ?_
              refine takeV (i := 16) (v := undef) (by (simp only [List.getElem?_toArray, List.getElem?_cons_succ, List.getElem?_cons_zero]); rfl) (by kernel_rfl) (by kernel_rfl) (by kernel_rfl) (by rfl) (fun _ _ _ h => h) (Or.inr ⟨by rfl, rfl⟩) hS_ (by (simp only [List.setIfInBounds_toArray, List.set_cons_succ, List.set_cons_zero]); rfl) ?_
              refine takeV (i := 17) (v := undef) (by (simp only [List.getElem?_toArray, List.getElem?_cons_succ, List.getElem?_cons_zero]); rfl) (by kernel_rfl) (by kernel_rfl) (by kernel_rfl) (by rfl) (fun _ _ _ h => h) (Or.inr ⟨by rfl, rfl⟩) hS_ (by (simp only [List.setIfInBounds_toArray, List.set_cons_succ, List.set_cons_zero]); rfl) ?_
              refine takeV (i := 18) (v := undef) (by (simp only [List.getElem?_toArray, List.getElem?_cons_succ, List.getElem?_cons_zero]); rfl) (by kernel_rfl) (by kernel_rfl) (by kernel_rfl) (by rfl) (fun _ _ _ h => h) (Or.inr ⟨by rfl, rfl⟩) hS_ (by (simp only [List.setIfInBounds_toArray, List.set_cons_succ, List.set_cons_zero]); rfl) ?_
              refine takeV (i := 19) (v := undef) (by (simp only [List.getElem?_toArray, List.getElem?_cons_succ, List.getElem?_cons_zero]); rfl) (by kernel_rfl) (by kernel_rfl) (by kernel_rfl) (by rfl) (fun _ _ _ h => h) (Or.inr ⟨by rfl, rfl⟩) hS_ (by (simp only [List.setIfInBounds_toArray, List.set_cons_succ, List.set_cons_zero]); rfl) ?_
              refine takeV (i := 20) (v := undef) (by (simp only [List.getElem?_toArray, List.getElem?_cons_succ, List.getElem?_cons_zero]); rfl) (by kernel_rfl) (by kernel_rfl) (by kernel_rfl) (by rfl) (fun _ _ _ h => h) (Or.inr ⟨by rfl, rfl⟩) hS_ (by (simp only [List.setIfInBounds_toArray, List.set_cons_succ, List.set_cons_zero]); rfl) ?_
              refine takeV (i := 21) (v := .bool false) (by (simp only [List.getElem?_toArray, List.getElem?_cons_succ, List.getElem?_cons_zero]); rfl) (by kernel_rfl) (by kernel_rfl) (by kernel_rfl) (by rfl) (fun _ _ _ h => h) (Or.inl ⟨by rfl, ?_⟩) hS_ (by (simp only [List.setIfInBounds_toArray, List.set_cons_succ, List.set_cons_zero]); rfl) ?_
              · intro w_ hSw_; (try dsimp only at hSw_); go_simp
              refine takeV (i := 22) (v := .bool false) (by (simp only [List.getElem?_toArray, List.getElem?_cons_succ, List.getElem?_cons_zero]); rfl) (by kernel_rfl) (by kernel_rfl) (by kernel_rfl) (by rfl) (fun _ _ _ h => h) (Or.inl ⟨by rfl, ?_⟩) hS_ (by (simp only [List.setIfInBounds_toArray, List.set_cons_succ, List.set_cons_zero]); rfl) ?_
              · intro w_ hSw_; (try dsimp only at hSw_); go_simp
              refine wpAnyH_done (by kernel_rfl) ?_ _
              go_wp2
              go_roundw
              case rel => exact ⟨q + 1, by omega, by go_num, HB10.out⟩
              case measure => simp [intOf]; omega
          · have hqI : ¬ (q : Int) < (m : Int) := by omega
            have HB1b := Lib.hid hb
            clear hb
            go_wp2_with fail
            refine (fsText_any _ _ _ X nm _ (TX9.out.up TextE.stays HB1b.out)).mono ?_; rintro e w10 ⟨rfl, hb10⟩
            rw [there_yes HXS.out]
            go_wp2
            go_ret; exact ⟨rfl, belowThen (belowThen HB9.out HB1b.out) hb10⟩

end Go.Proofs.YtnhbnhibphjljaaGreatDoor

namespace Go.Proofs.YtnhbnhibphjljaaGreatDoor
open Go.RowKit Go.ChangeShapes Go.WideShapes Go.ChangeAt

set_option maxRecDepth 100000 in
set_option maxHeartbeats 1000000 in
theorem progNeeds_lifted (os : Os) (started : os.Started) (H : Type) (enc : TypeId × Value → H) :
    ReturnsInHanded {} Tryz.checked os 13 .any (fun w args => (Rows.fnProgNeedsSpec.pre enc Tryz.prog Tryz.f13 [] false w args ∧ laidMetH Tryz.prog laidE w) ∧ sizedMet enc Tryz.prog Tryz.f13 (OpenSpec.ofChange Rows.fnProgNeedsSpec) false w args)
      (Rows.fnProgNeedsSpec.post enc Tryz.prog Tryz.f13 false true false false) := by
  refine returnsInHanded_of_change_and (C := Tryz.checked) (X := fun w _ => laidMetH Tryz.prog laidE w) (fun _ _ _ hh h => h.of_heap hh) Tryz.own started (by kernel_rfl) Tryz.func13
    (ChangeSpec.witness_shaped (enc := enc) (C := Tryz.checked) (os := os) (X := fun w _ => laidMetH Tryz.prog laidE w) false (World.doorLaid Tryz.prog 400 os) #[.slice none 0 0] 8 rfl (World.shaped_of_RefB (by kernel_rfl) (by kernel_rfl)) (by kernel_rfl) (by kernel_rfl) (by kernel_rfl) (err_met os _)) ?_
  intro W base args ds gs before hval0 hW _ _ hL _
  have hval : ∀ (j : Nat) t v, Tryz.f13.params[j]? = some t → args[j]? = some v → Value.okWide Tryz.prog W .any base t v := hval0
  have hW' := hW
  have hlt : ∀ x ∈ before, x.block < W.heap.size := fun x hx => hW.lt x hx
  obtain ⟨p, q, hA0, hV, hpq, hfz, hnd⟩ := hW
  have hA : DataW.TrodAll enc Tryz.prog W 0 (fun _ => true) true Tryz.f13.params.toList args.toList ds p := hA0
  rw [Tryz.params13] at hA hval
  obtain ⟨v0, d0, hargs, rfl, h0⟩ := trodAll_one hA
  obtain ⟨rfl, rfl⟩ := trodVars_none hV
  simp only [List.append_nil] at hpq
  subst hpq
  have hh0 := Lib.hid h0
  have hk := errKind_of_laid hL
  obtain ⟨A0, n0, c0, rfl, wt0⟩ := open_bytes (hval 0 61 v0 rfl (by rw [hargs]; rfl)) h0
  subst hargs
  clear hA0 hval0
  refine (needsLaw_any A0 n0 c0 W wt0 hk).mono fun e W' ⟨he, hb⟩ => ?_
  subst he
  exact ⟨_, rfl, post_true (pv := []) hW' (trodAll_mk1 (shut_bool Tryz.underlying4 true)) (trodAll_mk1 (Below.trod Tryz.laidOut (by kernel_rfl) (of_decide_eq_true (by kernel_rfl)) hh0.out hb hlt)) rfl hb⟩

theorem progNeeds_in : (Rows.fnProgNeedsRow.inPlace == Tryz.prog.inPlace 13) = true := by kernel_rfl
theorem progNeeds_un : (Rows.fnProgNeedsRow.unfollowed == Tryz.prog.unfollowed 13) = true := by kernel_rfl
theorem progNeeds_rec : (Rows.fnProgNeedsRow.recurses == Tryz.prog.recurses 13) = true := by kernel_rfl
theorem progNeeds_nam : (Rows.fnProgNeedsRow.named == Tryz.prog.varsNamed 13) = true := by kernel_rfl
theorem progNeeds_goes : false = Rows.fnProgNeedsRow.goesBy Tryz.prog := by kernel_rfl
theorem progNeeds_named : Tryz.pinned.checked.prog.funcNamed Rows.fnProgNeedsRow.func = some 13 := by kernel_rfl
theorem progNeeds_joined : joinedFacts Tryz.prog 13 Tryz.f13 Rows.fnProgNeedsSpec Rows.fnProgNeedsRow = true :=
  joined_of (by kernel_rfl) Tryz.laidOut Tryz.c_rowed (by kernel_rfl) progNeeds_in progNeeds_un progNeeds_rec progNeeds_nam (by kernel_rfl) Tryz.c_keys rfl Tryz.c_heard Tryz.c_enter Tryz.c_lifted (by kernel_rfl)

theorem progNeeds_row : Rows.FnProgNeedsSaid :=
  OpenClaim.holds_of_wide 13 Tryz.f13 rfl rfl rfl rfl rfl rfl rfl ⟨rfl, rfl, rfl, rfl, rfl⟩ rfl rfl rfl rfl rfl progNeeds_named Tryz.func13 progNeeds_joined
    (of_decide_eq_true (by kernel_rfl)) (by unfold Func.isWrapper; rw [if_neg (of_decide_eq_false (by kernel_rfl))]; exact ⟨rfl, rfl⟩)
    (fun os started H enc _ => progNeeds_lifted os started H enc)

theorem progNeeds_holds : Rows.FnProgNeedsCardSaid :=
  Claim7.holds_tied_plain_at .later [] [.handle] true _ true
    progNeeds_row (fun _ h => by cases h) (by kernel_rfl) (fun _ h => by cases h) fnProgNeeds_row_tie rfl ⟨rfl, rfl⟩ Tryz.c_main rfl
    (fun f fn hf hfn => by
      obtain rfl : f = 13 := Option.some.inj (progNeeds_named.symm.trans hf) |>.symm
      obtain rfl : fn = Tryz.f13 := (Option.some.inj (Tryz.func13.symm.trans hfn)).symm
      exact ⟨Tryz.c_looks, fun j t ht => by
        rw [Tryz.params13] at ht
        have h3 : t = 61 := by
          rcases j with _ | j
          · simpa using ht.symm
          · simp at ht
        subst h3
        exact (show Tryz.prog.wantsStandIn 61 = false by kernel_rfl)⟩)
    progNeeds_goes

end Go.Proofs.YtnhbnhibphjljaaGreatDoor

