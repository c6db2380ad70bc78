/-
  The exact law of ProgHeads: at every list of rules and every name the program answers as its model, and nothing is written into what came in.
-/
import Derived.Test.YtalneeelcdmoaaaGreatDoorRulesS
import Derived.Test.YtalneeelcdmoaaaGreatDoorCheckImpl
import Derived.Test.YtalneeelcdmoaaaGreatDoorOpen
import Derived.Test.YtalneeelcdmoaaaGreatDoorCards
import Derived.Test.YtalneeelcdmoaaaGreatDoorTie
import Derived.SevenTiedAt
namespace Go.Proofs.YtalneeelcdmoaaaGreatDoor
open Go.RowKit

/-- Is a name the name of a head? -/
def headsB (rs : List Rl) (nm : ByteArray) : Bool := rs.any fun r => decide (r.1.1 = nm)

/-- Are the rules fine, and is the name a head's? -/
def headsA (rs : List Rl) (nm : ByteArray) : Bool := decide (progB rs = 0) && headsB rs nm

theorem heads_yes {rs : List Rl} {nm : ByteArray} {k : Nat} {r : Rl} (h : rs[k]? = some r) (he : true = decide (r.1.1 = nm)) : headsB rs nm = true := by
  unfold headsB; rw [List.any_eq_true]; exact ⟨r, List.mem_of_getElem? h, he.symm⟩

theorem heads_no {rs : List Rl} {nm : ByteArray} {n : Nat} (hn : rs.length = n) (h : ∀ q ∈ rs.take n, q.1.1 ≠ nm) : headsB rs nm = false := by
  rw [List.take_of_length_le (by omega)] at h
  unfold headsB; rw [List.any_eq_false]; exact fun q hq => by simpa using h q hq

set_option maxRecDepth 100000 in
set_option maxHeartbeats 4000000 in
theorem l2Heads_any (A : Option Addr) (n c : Nat) (rs : List Rl) (nm : ByteArray) (w : World) (h : IsRules w 0 w.heap.size A n c rs) :
    Calls Tryz.prog 67 #[.slice A n c, .string nm] w (BoolPost (headsB rs nm) w) := by
  have hm := h.len
  unfold maxLen at hm
  have HL := Lib.hid h.1
  have H := Lib.hid h; clear h
  go_enter Tryz.func67, Tryz.ntmps67
  go_wp2
  go_loopw [5] (fun x wr => ∃ k : Nat, k ≤ n ∧ x = .int .i64 (k : Int) ∧ (∀ q ∈ rs.take k, q.1.1 ≠ nm) ∧ Below w.heap.size w wr) (fun x _ => n - (intOf x).toNat)
  case atStart => exact ⟨0, Nat.zero_le _, rfl, fun q hq => by simp at hq, Below.refl _ _⟩
  case round =>
    obtain ⟨k, hkn, rfl, hS, hb⟩ := hrel
    have HQ := Lib.hid hS; clear hS
    by_cases hlk : k < n
    · obtain ⟨p, r, A', n', c', B, m, d, hA, hpb, hg, d1, d2, d3, d4, d5, d6⟩ := rule_at (H.out.below RuleE.stays hb (Nat.le_refl _)) hlk
      subst hA
      have HG := Lib.hid hg
      clear hg d2 d3 d4 d5 d6
      obtain ⟨b, hbb⟩ : ∃ b, (r.1.1.toList == nm.toList) = b := ⟨_, rfl⟩
      have HB := Lib.hid (bytes_is hbb)
      cases b
      · have HS2 := Lib.hid (all_snoc (P := fun q : Rl => q.1.1 ≠ nm) HG.out HQ.out (of_decide_eq_false HB.out.symm))
        go_wp2
        go_roundw
        case rel => exact ⟨k + 1, by omega, by go_num, HS2.out, hb⟩
        case measure => simp [intOf]; omega
      · have E := Lib.hid (heads_yes HG.out HB.out)
        go_wp2
        go_ret; exact ⟨retB E.out.symm, hb⟩
    · have hke : k = n := by omega
      subst hke
      have E := Lib.hid (heads_no HL.out HQ.out)
      go_wp2
      go_ret; exact ⟨retB E.out.symm, hb⟩

set_option maxRecDepth 100000 in
set_option maxHeartbeats 4000000 in
theorem specProgHeads_any (A : Option Addr) (n c : Nat) (rs : List Rl) (nm : ByteArray) (w : World) (h : IsRules w 0 w.heap.size A n c rs) :
    Calls Tryz.prog 24 #[.slice A n c, .string nm] w (BoolPost (headsA rs nm) w) := by
  have H := Lib.hid h; clear h
  go_enter Tryz.func24, Tryz.ntmps24
  go_wp2_with fail
  refine (specProgCheck_any A n c rs _ H.out).mono ?_; rintro e w1 ⟨rfl, hb1⟩
  obtain ⟨k, hk⟩ : ∃ k, progB rs = k := ⟨_, rfl⟩
  rw [hk]
  have HK := Lib.hid hk; clear hk
  by_cases h0 : k = 0
  · have E := Lib.hid (show headsA rs nm = headsB rs nm by unfold headsA; rw [HK.out, decide_eq_true h0, Bool.true_and])
    have hI : (k : Int) = 0 := by omega
    clear h0
    go_wp2_with fail
    refine (l2Heads_any A n c rs nm _ (H.out.up RuleE.stays hb1)).mono ?_; rintro e w2 ⟨rfl, hb2⟩
    go_wp2
    go_ret; exact ⟨retB E.out.symm, belowThen hb1 hb2⟩
  · have E := Lib.hid (show headsA rs nm = false by unfold headsA; rw [HK.out, decide_eq_false h0, Bool.false_and])
    have hI : ¬ (k : Int) = 0 := by omega
    clear h0
    go_wp2
    go_ret; exact ⟨retB E.out.symm, hb1⟩

/-- Is this the head that is looked for? -/
theorem headIs_any (s nm : ByteArray) (x y : Value) (b : Nat) (w : World) (hb : w.cell? ⟨b, 0, none⟩ = some (.string nm)) (hl : b < w.heap.size) :
    Calls Tryz.prog 68 #[.agg #[.string s, x, y], .pointer (some ⟨b, 0, none⟩)] w (BoolPost (decide (s = nm)) w) := by
  have hb' := ((below1 w (.cells #[.string s, x, y] 65)).cell (p := ⟨b, 0, none⟩) hl).trans hb
  obtain ⟨v, hv⟩ : ∃ v, (s.toList == nm.toList) = v := ⟨_, rfl⟩
  have HV := Lib.hid (bytes_is hv)
  go_enter Tryz.func68, Tryz.ntmps68
  go_wp2
  go_ret; exact ⟨retB HV.out, below1 _ _⟩

set_option maxRecDepth 100000 in
set_option maxHeartbeats 4000000 in
theorem indexHead_any (A : Option Addr) (n c : Nat) (rs : List Rl) (nm : ByteArray) (b : Nat) (w : World) (h : IsRules w 0 w.heap.size A n c rs) (hbx : w.cell? ⟨b, 0, none⟩ = some (.string nm)) (hbl : b < w.heap.size) :
    Calls Tryz.prog 99 #[.slice A n c, .func (.func 68) #[] #[.pointer (some ⟨b, 0, none⟩)]] w (fun e w' => ∃ k : Int, e = .returned (.int .i64 k) ∧ decide (0 ≤ k) = headsB rs nm ∧ Below w.heap.size w w') := by
  have hm := h.len
  unfold maxLen at hm
  have HL := Lib.hid h.1
  have H := Lib.hid h; clear h
  have HX := Lib.hid hbx; clear hbx
  go_enter Tryz.func99, Tryz.ntmps99
  go_wp2
  go_loopw [5, 8] (fun _ x wr => ∃ k : Nat, k ≤ n ∧ x = .int .i64 (k : Int) ∧ (∀ q ∈ rs.take k, q.1.1 ≠ nm) ∧ Below w.heap.size w wr) (fun _ x _ => n - (intOf x).toNat)
  case atStart => exact ⟨0, Nat.zero_le _, rfl, fun q hq => by simp at hq, Below.refl _ _⟩
  case round =>
    obtain ⟨k, hkn, rfl, hS, hb⟩ := hrel
    have HQ := Lib.hid hS; clear hS
    by_cases hlk : k < n
    · obtain ⟨p, r, A', n', c', B, m, d, hA, hpb, hg, d1, d2, d3, d4, d5, d6⟩ := rule_at (H.out.below RuleE.stays hb (Nat.le_refl _)) hlk
      subst hA
      have HG := Lib.hid hg
      clear hg d2 d4 d6
      have hc := (hb.cell (p := ⟨b, 0, none⟩) hbl).trans HX.out
      have HC := Lib.hid hc; clear hc
      go_wp2_with fail
      refine (headIs_any r.1.1 nm _ _ b _ HC.out (Nat.lt_of_lt_of_le hbl hb.size)).mono ?_; rintro e w2 ⟨rfl, hb2⟩
      by_cases hr : r.1.1 = nm
      · have E := Lib.hid (heads_yes HG.out (decide_eq_true hr).symm)
        rw [decide_eq_true hr]
        clear hr d1 d3 d5
        go_wp2
        go_ret; exact ⟨(k : Int), rfl, by rw [E.out]; simp, belowThen hb hb2⟩
      · have HS2 := Lib.hid (all_snoc (P := fun q : Rl => q.1.1 ≠ nm) HG.out HQ.out hr)
        rw [decide_eq_false hr]
        clear hr d1 d3 d5
        go_wp2
        go_roundw
        case rel => exact ⟨k + 1, by omega, by go_num, HS2.out, belowThen hb hb2⟩
        case measure => simp [intOf]; omega
    · have hke : k = n := by omega
      subst hke
      have E := Lib.hid (heads_no HL.out HQ.out)
      go_wp2
      go_ret; exact ⟨-1, rfl, by rw [E.out]; simp, hb⟩

set_option maxRecDepth 100000 in
set_option maxHeartbeats 4000000 in
theorem containsHead_any (A : Option Addr) (n c : Nat) (rs : List Rl) (nm : ByteArray) (b : Nat) (w : World) (h : IsRules w 0 w.heap.size A n c rs) (hbx : w.cell? ⟨b, 0, none⟩ = some (.string nm)) (hbl : b < w.heap.size) :
    Calls Tryz.prog 57 #[.slice A n c, .func (.func 68) #[] #[.pointer (some ⟨b, 0, none⟩)]] w (BoolPost (headsB rs nm) w) := by
  have H := Lib.hid h; clear h
  have HX := Lib.hid hbx; clear hbx
  go_enter Tryz.func57, Tryz.ntmps57
  go_wp2_with fail
  refine (indexHead_any A n c rs nm b _ H.out HX.out hbl).mono ?_; rintro e w1 ⟨k, rfl, hk, hb1⟩
  have HK := Lib.hid hk; clear hk
  go_wp2
  go_ret; exact ⟨retB (by rw [← HK.out]), hb1⟩

set_option maxRecDepth 100000 in
set_option maxHeartbeats 4000000 in
theorem implProgHeads_any (A : Option Addr) (n c : Nat) (rs : List Rl) (nm : ByteArray) (w : World) (h : IsRules w 0 w.heap.size A n c rs) (hk : ErrKind w) :
    Calls Tryz.prog 25 #[.slice A n c, .string nm] w (BoolPost (headsA rs nm) w) := by
  have H := Lib.hid h; clear h
  have HE := Lib.hid hk; clear hk
  have h0 := below1 w (.cells #[.string nm] 9)
  have hc0 : (w.alloc (.cells #[.string nm] 9)).cell? ⟨w.heap.size, 0, none⟩ = some (.string nm) := by simp
  have HC := Lib.hid hc0; clear hc0
  go_enter Tryz.func25, Tryz.ntmps25
  go_wp2_with fail
  refine (implProgCheck_any A n c rs _ (H.out.up RuleE.stays h0) (HE.out.later h0)).mono ?_; rintro e w1 ⟨rfl, hb1⟩
  have HB1 := belowThen h0 hb1
  have hlt : w.heap.size < (w.alloc (.cells #[.string nm] 9)).heap.size := by simp
  have hc1 := (hb1.cell (p := ⟨w.heap.size, 0, none⟩) hlt).trans HC.out
  have hl1 : w.heap.size < w1.heap.size := Nat.lt_of_lt_of_le hlt hb1.size
  have HC1 := Lib.hid hc1; clear hc1 hlt hb1
  obtain ⟨k, hk⟩ : ∃ k, progB rs = k := ⟨_, rfl⟩
  rw [hk]
  have HK := Lib.hid hk; clear hk
  by_cases h0 : k = 0
  · have E := Lib.hid (show headsA rs nm = headsB rs nm by unfold headsA; rw [HK.out, decide_eq_true h0, Bool.true_and])
    have hI : (k : Int) = 0 := by omega
    clear h0
    go_wp2_with fail
    refine (containsHead_any A n c rs nm _ _ (H.out.up RuleE.stays HB1) HC1.out hl1).mono ?_; rintro e w2 ⟨rfl, hb2⟩
    go_wp2
    go_ret; exact ⟨retB E.out.symm, belowThen HB1 hb2⟩
  · have E := Lib.hid (show headsA rs nm = false by unfold headsA; rw [HK.out, decide_eq_false h0, Bool.false_and])
    have hI : ¬ (k : Int) = 0 := by omega
    clear h0
    go_wp2
    go_ret; exact ⟨retB E.out.symm, HB1⟩

set_option maxHeartbeats 2000000 in
theorem exactProgHeads_any (A : Option Addr) (n c : Nat) (l : List Rl) (nm : ByteArray) (w : World) (h : IsRules w 0 w.heap.size A n c l) (hk : ErrKind w) :
    Calls Tryz.prog 5 #[.slice A n c, .string nm] w (BoolPost true w) := by
  have H := Lib.hid h; clear h
  have HK := Lib.hid hk; clear hk
  go_enter Tryz.func5, Tryz.ntmps5
  go_wp2_with fail
  all_goals try (go_ret; exact ⟨rfl, Below.refl _ _⟩)
  refine (szRuleS_any _ _ _ l _ _ H.out (by omega) (by omega)).mono ?_; rintro e w1 ⟨y, ⟨rfl, ha, hb, hc⟩, hb1⟩
  go_wp2_with fail
  all_goals try (go_ret; exact ⟨rfl, hb1⟩)
  have hn : SmallRules n l := hc (by assumption)
  clear ha hb hc
  refine (toRuleS_any _ _ _ l _ (H.out.up RuleE.stays hb1) hn).mono ?_; rintro e w2 ⟨g2, rfl, hg2, o2, hb2⟩
  have HB2 := belowThen hb1 hb2
  go_wp2_with fail
  refine (specProgHeads_any _ _ _ l nm _ (o2.keep RuleE.stays (fun _ _ _ => rfl) (Nat.zero_le _) (Nat.le_refl _))).mono ?_; rintro e w3 ⟨rfl, hb3⟩
  have HB3 := belowThen HB2 hb3
  clear hb1 hb2 hb3 o2 HB2
  go_wp2_with fail
  refine (toRuleS_any _ _ _ l _ (H.out.up RuleE.stays HB3) hn).mono ?_; rintro e w4 ⟨g4, rfl, hg4, o4, hb4⟩
  have HB4 := belowThen HB3 hb4
  have o4' := o4.keep (lo' := 0) (hi' := w4.heap.size) RuleE.stays (fun _ _ _ => rfl) (Nat.zero_le _) (Nat.le_refl _)
  go_wp2_with fail
  refine (implProgHeads_any _ _ _ l nm _ o4' (HK.out.later HB4)).mono ?_; rintro e w5 ⟨rfl, hb5⟩
  have HB5 := belowThen HB4 hb5
  have o5 := o4'.up RuleE.stays hb5
  clear hb4 hb5 o4 o4' HB4
  go_wp2_with fail
  refine (toRuleS_any _ _ _ l _ (H.out.up RuleE.stays HB5) hn).mono ?_; rintro e w6 ⟨g6, rfl, hg6, o6, hb6⟩
  have HB6 := belowThen HB5 hb6
  have o56 := o5.up RuleE.stays hb6
  have o6' := o6.keep (lo' := 0) (hi' := w6.heap.size) RuleE.stays (fun _ _ _ => rfl) (Nat.zero_le _) (Nat.le_refl _)
  go_wp2_with fail
  refine (eqRuleS_any _ _ _ _ _ _ l l _ o56 o6').mono ?_; rintro e w7 ⟨rfl, hb7⟩
  have HB7 := belowThen HB6 hb7
  rw [listEq_refl ruleEq_refl]
  go_wp2
  go_ret; exact ⟨rfl, HB7⟩

end Go.Proofs.YtalneeelcdmoaaaGreatDoor

namespace Go.Proofs.YtalneeelcdmoaaaGreatDoor
open Go.RowKit Go.ChangeShapes Go.WideShapes Go.ChangeAt
open Go.ChangeMaps (open_string)

set_option maxRecDepth 100000 in
set_option maxHeartbeats 1000000 in
theorem exactProgHeads_lifted (os : Os) (started : os.Started) (H : Type) (enc : TypeId × Value → H) :
    ReturnsInHanded {} Tryz.checked os 5 .any (fun w args => (Rows.fnExactProgHeadsSpec.pre enc Tryz.prog Tryz.f5 [] false w args ∧ laidMetH Tryz.prog laidE w) ∧ sizedMet enc Tryz.prog Tryz.f5 (OpenSpec.ofChange Rows.fnExactProgHeadsSpec) false w args)
      (Rows.fnExactProgHeadsSpec.post enc Tryz.prog Tryz.f5 false true false false) := by
  refine returnsInHanded_of_change_and (C := Tryz.checked) (X := fun w _ => laidMetH Tryz.prog laidE w) (fun _ _ _ hh h => h.of_heap hh) Tryz.own started (by kernel_rfl) Tryz.func5
    (ChangeSpec.witness_shaped (enc := enc) (C := Tryz.checked) (os := os) (X := fun w _ => laidMetH Tryz.prog laidE w) false (World.doorLaid Tryz.prog 400 os) #[.slice none 0 0, .string ByteArray.empty] 8 rfl (World.shaped_of_RefB (by kernel_rfl) (by kernel_rfl)) (by kernel_rfl) (by kernel_rfl) (by kernel_rfl) (err_met os _)) ?_
  intro W base args ds gs before hval0 hW _ _ hL _
  have hval : ∀ (j : Nat) t v, Tryz.f5.params[j]? = some t → args[j]? = some v → Value.okWide Tryz.prog W .any base t v := hval0
  have hW' := hW
  have hlt : ∀ x ∈ before, x.block < W.heap.size := fun x hx => hW.lt x hx
  obtain ⟨p, q, hA0, hV, hpq, hfz, hnd⟩ := hW
  have hA : DataW.TrodAll enc Tryz.prog W 0 (fun _ => true) true Tryz.f5.params.toList args.toList ds p := hA0
  rw [Tryz.params5] at hA hval
  obtain ⟨v0, v1, d0, d1, p0, p1, hargs, rfl, rfl, h0, h1⟩ := trodAll_two hA
  obtain ⟨rfl, rfl⟩ := trodVars_none hV
  simp only [List.append_nil] at hpq
  subst hpq
  have hh0 := Lib.hid h0
  have hh1 := Lib.hid h1
  have hk := errKind_of_laid hL
  obtain ⟨A0, n0, c0, l0, rfl, wt0⟩ := open_rules (hval 0 22 v0 rfl (by rw [hargs]; rfl)) h0
  obtain ⟨s1, rfl, rfl, rfl, _⟩ := open_string Tryz.underlying9 (hval 1 9 v1 rfl (by rw [hargs]; rfl)) h1
  subst hargs
  clear hA0 hval0
  refine (exactProgHeads_any A0 n0 c0 l0 s1 W wt0 hk).mono fun e W' ⟨he, hb⟩ => ?_
  subst he
  exact ⟨_, rfl, post_true (pv := []) hW' (trodAll_mk1 (shut_bool Tryz.underlying4 true)) (trodAll_mk2 (Below.trod Tryz.laidOut (by kernel_rfl) (of_decide_eq_true (by kernel_rfl)) hh0.out hb (fun x hx => hlt x (by simp [hx]))) (Below.trod Tryz.laidOut (by kernel_rfl) (of_decide_eq_true (by kernel_rfl)) hh1.out hb (fun x hx => by cases hx))) rfl hb⟩

theorem exactProgHeads_row : Rows.FnExactProgHeadsSaid :=
  OpenClaim.holds_of_wide 5 Tryz.f5 rfl rfl rfl rfl rfl rfl rfl ⟨rfl, rfl, rfl, rfl, rfl⟩ rfl rfl rfl rfl rfl (by kernel_rfl) Tryz.func5 (by kernel_rfl)
    (of_decide_eq_true (by kernel_rfl)) (by unfold Func.isWrapper; rw [if_neg (of_decide_eq_false (by kernel_rfl))]; exact ⟨rfl, rfl⟩)
    (fun os started H enc _ => exactProgHeads_lifted os started H enc)

theorem exactProgHeads_holds : Rows.FnExactProgHeadsCardSaid :=
  Claim7.holds_tied_plain_at .later [] [.handle] true _ true
    exactProgHeads_row (fun _ h => by cases h) (by kernel_rfl) (fun _ h => by cases h) fnExactProgHeads_row_tie rfl ⟨rfl, rfl⟩ (by kernel_rfl) rfl
    (fun f fn hf hfn => by
      obtain rfl : f = 5 := Option.some.inj ((show Tryz.prog.funcNamed "loop.example/springhead/laws.FnExactProgHeads" = some 5 by kernel_rfl).symm.trans hf) |>.symm
      obtain rfl : fn = Tryz.f5 := (Option.some.inj (Tryz.func5.symm.trans hfn)).symm
      exact ⟨by kernel_rfl, fun j t ht => by
        rw [Tryz.params5] at ht
        have h3 : t = 22 ∨ t = 9 := by
          rcases j with _ | _ | j
          · exact .inl (by simpa using ht.symm)
          · exact .inr (by simpa using ht.symm)
          · simp at ht
        rcases h3 with rfl | rfl
        · exact (show Tryz.prog.wantsStandIn 22 = false by kernel_rfl)
        · exact (show Tryz.prog.wantsStandIn 9 = false by kernel_rfl)⟩)
    (by kernel_rfl)

end Go.Proofs.YtalneeelcdmoaaaGreatDoor

