/-
  A rule that asks what is asked, in the model and in the program.
  The exact law of AskRule: what the law's own text does.
-/
import Derived.Test.YtfghmphaldefbaaRKeep
import Derived.Test.YtfghmphaldefbaaExactAskVars
namespace Go.Proofs.Ytfghmphaldefbaa
open Go.RowKit

/-- What AskRule tells. -/
def askRuleB (s : ByteArray) (xs : List Pt) : Rl × Bool :=
  if nameB s.data.toList = true ∧ askB xs = true ∧ (partsT [] xs).length ≤ 3 then (((s, asVars (partsT [] xs)), xs), true) else (((⟨#[]⟩, []), []), false)

theorem askRule_no {s : ByteArray} {xs : List Pt} (h : nameB s.data.toList = false ∨ askB xs = false ∨ 3 < (partsT [] xs).length) : askRuleB s xs = (((⟨#[]⟩, []), []), false) := by
  unfold askRuleB
  rw [if_neg]
  rintro ⟨a, b, c⟩
  rcases h with h | h | h
  · rw [h] at a; cases a
  · rw [h] at b; cases b
  · omega
theorem askRule_yes {s : ByteArray} {xs : List Pt} (h : nameB s.data.toList = true) (k : askB xs = true) (l : (partsT [] xs).length ≤ 3) : askRuleB s xs = (((s, asVars (partsT [] xs)), xs), true) := by
  unfold askRuleB; rw [if_pos ⟨h, k, l⟩]

/-- A rule, as it is handed on. -/
def rrVal (r : Rr) : Value := .agg #[.string r.1.1, .slice r.1.2.1 r.1.2.2.1 r.1.2.2.2.1, .slice r.2.1 r.2.2.1 r.2.2.2.1]

/-- A rule was told whose rows are the call's own. -/
def AskRPost (s : ByteArray) (xs : List Pt) (w : World) (e : Ending) (w' : World) : Prop :=
  ∃ r : Rr, e = .returned (.tuple #[rrVal r, .bool (askRuleB s xs).2]) ∧ RuleApart w' w.heap.size w'.heap.size r ∧ rRl r = (askRuleB s xs).1 ∧ Below w.heap.size w w'

/-- No rule. -/
def noRr : Rr := ((⟨#[]⟩, none, 0, 0, []), none, 0, 0, [])

theorem noRr_apart {w : World} {lo hi : Nat} (h : lo ≤ hi) : RuleApart w lo hi noRr :=
  ⟨lo, lo, lo, lo, Nat.le_refl _, Nat.le_refl _, h, Nat.le_refl _, Nat.le_refl _, h, .inl (Nat.le_refl _), ⟨Nat.zero_le _, ⟨rfl, Nat.le_refl _, Nat.zero_le _, fun h0 => absurd h0 (Nat.lt_irrefl _)⟩, fun h0 => absurd h0 (Nat.lt_irrefl _)⟩, ⟨rfl, Nat.le_refl _, Nat.zero_le _, fun h0 => absurd h0 (Nat.lt_irrefl _), OwnIn.nil⟩⟩

/-- What a rule reads as. -/
theorem RuleApart.is {w : World} {lo hi : Nat} {r : Rr} (h : RuleApart w lo hi r) (hh : hi ≤ w.heap.size) : IsRule w w.heap.size r.1.2.1 r.1.2.2.1 r.1.2.2.2.1 r.2.1 r.2.2.1 r.2.2.2.1 (rRl r).1.2 (rRl r).2 := by
  obtain ⟨a, b, c, d, e1, e2, e3, e4, e5, e6, e7, e8, e9⟩ := h
  exact ⟨e8.2.1.keep (fun _ _ _ => rfl) (Nat.zero_le _) (by omega), e9.parts.keep PartE.stays (fun _ _ _ => rfl) (Nat.zero_le _) (by omega)⟩

theorem ask_few {xs : List Pt} (h : askB xs = true) : ∀ q ∈ xs, q.2.2.length ≤ 1048576 := fun q hq => Nat.le_trans (body_three (askB_ok h).1 q hq) (by decide)

/-- A row of one rule. -/
theorem one_rule {W : World} {s : ByteArray} {A B : Option Addr} {n c m d : Nat} {ts : List Tm} {xs : List Pt} (hs : s.size ≤ maxLen) (hT : IsTerms (W.alloc (.cells #[.string s, .slice A n c, .slice B m d] 55)) 0 (W.alloc (.cells #[.string s, .slice A n c, .slice B m d] 55)).heap.size A n c ts) (hP : IsParts (W.alloc (.cells #[.string s, .slice A n c, .slice B m d] 55)) 0 (W.alloc (.cells #[.string s, .slice A n c, .slice B m d] 55)).heap.size B m d xs) :
    IsRules (W.alloc (.cells #[.string s, .slice A n c, .slice B m d] 55)) 0 (W.alloc (.cells #[.string s, .slice A n c, .slice B m d] 55)).heap.size (some ⟨W.heap.size, 0, none⟩) 1 1 [((s, ts), xs)] := by
  have X := Blk.new W 55 #[.string s, .slice A n c, .slice B m d]
  have hl := X.lt
  refine ⟨rfl, Nat.le_refl _, by unfold maxLen; omega, fun _ => ⟨_, rfl, Nat.zero_le _, hl, fun i r hr => ?_⟩⟩
  match i, hr with
  | 0, hr =>
    simp at hr
    subst hr
    have a0 : (⟨W.heap.size, 0, none⟩ : Addr).add (0 * 3) = ⟨W.heap.size, 0, none⟩ := by simp [Addr.add]
    rw [a0]
    exact ⟨X.cell 0, hs, ⟨_, _, _, X.cell 1, hT⟩, ⟨_, _, _, X.cell 2, hP⟩⟩
  | i + 1, hr => simp at hr

set_option maxRecDepth 100000 in
set_option maxHeartbeats 4000000 in
theorem specAskRule_any (s : ByteArray) (B : Option Addr) (m d : Nat) (xs : List Pt) (w : World) (hs : s.size ≤ maxLen) (h : IsParts w 0 w.heap.size B m d xs) :
    Calls Try.prog 38 #[.string s, .slice B m d] w (AskRPost s xs w) := by
  have HL := Lib.hid h.1
  have H := Lib.hid h; clear h
  have hb0 := below1 w (.cells #[.string ⟨#[]⟩, .slice none 0 0, .slice none 0 0] 55)
  have X0 := Blk.new w 55 #[.string ⟨#[]⟩, .slice none 0 0, .slice none 0 0]
  obtain ⟨W0, hW0⟩ : ∃ W0, w.alloc (.cells #[.string ⟨#[]⟩, .slice none 0 0, .slice none 0 0] 55) = W0 := ⟨_, rfl⟩
  rw [hW0] at hb0 X0
  have hz0 : W0.heap.size = w.heap.size + 1 := by rw [← hW0]; simp
  have HX0 := Lib.hid X0; have HB0 := Lib.hid hb0; have HP0 := Lib.hid (H.out.up PartE.stays hb0)
  clear X0 hb0
  cases hN : nameB s.data.toList
  · have E := Lib.hid (askRule_no (s := s) (xs := xs) (.inl hN)); have HN := Lib.hid hN; clear hN
    go_enter Try.func38, Try.ntmps38
    go_wp2_with fail
    refine (specName_any s _ hs).mono ?_; rintro e w' ⟨rfl, rfl⟩
    rw [HN.out]
    have r0 := HX0.out.cell 0; have r1 := HX0.out.cell 1; have r2 := HX0.out.cell 2
    have f0 := HX0.out.frozen 0; have f1 := HX0.out.frozen 1; have f2 := HX0.out.frozen 2
    have hzz := HX0.out.lt
    go_wp2
    have Z := ((HX0.out.set 0 (.string ⟨#[]⟩)).set 1 (.slice none 0 0)).set 2 (.slice none 0 0)
    have z0 := Z.cell 0; have z1 := Z.cell 1; have z2 := Z.cell 2
    refine bodyPost_ret (v := .tuple #[.agg #[.string ⟨#[]⟩, .slice none 0 0, .slice none 0 0], .bool false]) (by simp [results, Try.results38, go_sem, r0, r1, r2]) rfl ⟨noRr, by rw [E.out]; rfl, noRr_apart (by simp only [size_setCell]; omega), by rw [E.out]; rfl, ((HB0.out.setCell (by simp) _).setCell (by simp) _).setCell (by simp) _⟩
  · have HN := Lib.hid hN; clear hN
    cases hA : askB xs
    · have E := Lib.hid (askRule_no (s := s) (xs := xs) (.inr (.inl hA))); have HA := Lib.hid hA; clear hA
      go_enter Try.func38, Try.ntmps38
      go_wp2_with fail
      refine (specName_any s _ hs).mono ?_; rintro e w' ⟨rfl, rfl⟩
      rw [HN.out]
      go_wp2_with fail
      refine (specAskOk_any B m d xs _ HP0.out).mono ?_; rintro e w1 ⟨rfl, hb1⟩
      rw [HA.out]
      have HX1 := Lib.hid (HX0.out.below hb1); have HB1 := Lib.hid (belowThen HB0.out hb1)
      clear hb1
      have r0 := HX1.out.cell 0; have r1 := HX1.out.cell 1; have r2 := HX1.out.cell 2
      have f0 := HX1.out.frozen 0; have f1 := HX1.out.frozen 1; have f2 := HX1.out.frozen 2
      have hzz := HX1.out.lt
      go_wp2
      have Z := ((HX1.out.set 0 (.string ⟨#[]⟩)).set 1 (.slice none 0 0)).set 2 (.slice none 0 0)
      have z0 := Z.cell 0; have z1 := Z.cell 1; have z2 := Z.cell 2
      refine bodyPost_ret (v := .tuple #[.agg #[.string ⟨#[]⟩, .slice none 0 0, .slice none 0 0], .bool false]) (by simp [results, Try.results38, go_sem, r0, r1, r2]) rfl ⟨noRr, by rw [E.out]; rfl, noRr_apart (by simp only [size_setCell]; omega), by rw [E.out]; rfl, ((HB1.out.setCell (by simp) _).setCell (by simp) _).setCell (by simp) _⟩
    · have HA := Lib.hid hA
      have EA := askB_ok hA
      have hm4 : m ≤ 4 := by rw [← HL.out]; exact EA.2
      have E3 := Lib.hid (body_three EA.1)
      have HSM := Lib.hid (body_small EA.1)
      have HFEW := Lib.hid (ask_few hA)
      clear hA EA
      obtain ⟨vs, hvs⟩ : ∃ vs, partsT [] xs = vs := ⟨_, rfl⟩
      have HVS := Lib.hid hvs
      have hvl : vs.length ≤ 12 := by
        have := partsT_len xs [] E3.out
        rw [hvs, HL.out] at this
        simp only [List.length_nil] at this
        omega
      clear hvs
      by_cases h3 : vs.length ≤ 3
      · have E := Lib.hid (askRule_yes (s := s) (xs := xs) HN.out HA.out (by rw [HVS.out]; exact h3))
        have h3I : ¬ (3 : Int) < (vs.length : Int) := by omega
        go_enter Try.func38, Try.ntmps38
        go_wp2_with fail
        refine (specName_any s _ hs).mono ?_; rintro e w' ⟨rfl, rfl⟩
        rw [HN.out]
        go_wp2_with fail
        refine (specAskOk_any B m d xs _ HP0.out).mono ?_; rintro e w1 ⟨rfl, hb1⟩
        rw [HA.out]
        have HX1 := Lib.hid (HX0.out.below hb1); have HB1 := Lib.hid (belowThen HB0.out hb1); have HP1 := Lib.hid (HP0.out.up PartE.stays hb1)
        clear hb1
        go_wp2_with fail
        refine (l5Vars_any B m d xs w1 HP1.out E3.out (by omega)).mono ?_; rintro e w2 ⟨p2, c2, rfl, hT2, hb2⟩
        rw [HVS.out]
        have HX2 := Lib.hid (HX1.out.below hb2); have HB2 := Lib.hid (belowThen HB1.out hb2); have HP2 := Lib.hid (HP1.out.up PartE.stays hb2)
        clear hb2 hT2
        go_wp2_with fail
        refine (l5Rule_any s B m d xs w2 HP2.out E3.out (by omega) HSM.out).mono ?_; rintro e w3 ⟨A3, c3, rfl, hT3, hb3⟩
        rw [HVS.out] at hT3 ⊢
        have hb3' := belowThen hb3 (below1 w3 (.cells #[.string s, .slice A3 vs.length c3, .slice B m d] 55))
        have HX3 := Lib.hid ((HX2.out.below hb3).alloc (.cells #[.string s, .slice A3 vs.length c3, .slice B m d] 55))
        have HB3 := Lib.hid (belowThen HB2.out hb3')
        have Y3 := Blk.new w3 55 #[.string s, .slice A3 vs.length c3, .slice B m d]
        have y0 : (w3.alloc (.cells #[.string s, .slice A3 vs.length c3, .slice B m d] 55)).cell? ⟨w3.heap.size, 0, none⟩ = some (.string s) := Y3.cell 0
        have y1 : (w3.alloc (.cells #[.string s, .slice A3 vs.length c3, .slice B m d] 55)).cell? ⟨w3.heap.size, 1, none⟩ = some (.slice A3 vs.length c3) := Y3.cell 1
        have y2 : (w3.alloc (.cells #[.string s, .slice A3 vs.length c3, .slice B m d] 55)).cell? ⟨w3.heap.size, 2, none⟩ = some (.slice B m d) := Y3.cell 2
        have HP3 := Lib.hid (HP2.out.up PartE.stays hb3')
        have HT3 := Lib.hid (hT3.up (below1 w3 (.cells #[.string s, .slice A3 vs.length c3, .slice B m d] 55)))
        have hz3 : w.heap.size < w3.heap.size := by have := HX2.out.lt; have := hb3.size; omega
        clear hT3 hb3 hb3' Y3
        obtain ⟨W3, hW3⟩ : ∃ W3, w3.alloc (.cells #[.string s, .slice A3 vs.length c3, .slice B m d] 55) = W3 := ⟨_, rfl⟩
        rw [hW3] at HX3 HB3 HP3 HT3 y0 y1 y2
        have hz4 : W3.heap.size = w3.heap.size + 1 := by rw [← hW3]; simp
        have hb4 := below1 W3 (.cells #[.string s, .slice A3 vs.length c3, .slice B m d] 55)
        have HR4 : Hid (IsRules (W3.alloc (.cells #[.string s, .slice A3 vs.length c3, .slice B m d] 55)) 0 (W3.alloc (.cells #[.string s, .slice A3 vs.length c3, .slice B m d] 55)).heap.size (some ⟨w3.heap.size + 1, 0, none⟩) 1 1 [((s, asVars vs), xs)]) := Lib.hid (by rw [← hz4]; exact one_rule hs (HT3.out.up hb4) (HP3.out.up PartE.stays hb4))
        have HX4 := Lib.hid (HX3.out.alloc (.cells #[.string s, .slice A3 vs.length c3, .slice B m d] 55)); have HB4 := Lib.hid (belowThen HB3.out hb4)
        clear hb4
        go_wp2_with fail
        refine (l7Rules_any (some ⟨w3.heap.size + 1, 0, none⟩) 1 1 [((s, asVars vs), xs)] _ HR4.out (by omega) (fun r hr => by rw [List.mem_singleton.1 hr]; exact ⟨by unfold asVars; rw [List.length_map]; show vs.length ≤ _; omega, by show xs.length ≤ _; rw [HL.out]; omega, HFEW.out⟩)).mono ?_; rintro e w5 ⟨A5, c5, rs5, rfl, hO5, hr5, hb5⟩
        obtain ⟨r5, rfl⟩ : ∃ r5, rs5 = [r5] := by
          have := congrArg List.length hr5
          rw [List.length_map] at this
          exact List.length_eq_one_iff.1 this
        have hr5' : rRl r5 = ((s, asVars vs), xs) := by injection hr5
        obtain ⟨_, _, _, hO6, _, hle, _, hRA, hle2⟩ := hO5
        obtain ⟨g5, k5, f5, e5, hlo5, hhi5, hrow5, hk5, hf5⟩ := hO6 (by simp)
        subst e5
        obtain ⟨q0, q1, q2⟩ := rrcells_at (rs := [r5]) (i := 0) rfl
        have v0 : w5.cell? ⟨g5, 0, none⟩ = some (.string r5.1.1) := by rw [hrow5.cell (by simp at hk5; omega), hf5 _ _ q0]
        have v1 : w5.cell? ⟨g5, 1, none⟩ = some (.slice r5.1.2.1 r5.1.2.2.1 r5.1.2.2.2.1) := by rw [hrow5.cell (by simp at hk5; omega), hf5 _ _ q1]
        have v2 : w5.cell? ⟨g5, 2, none⟩ = some (.slice r5.2.1 r5.2.2.1 r5.2.2.2.1) := by rw [hrow5.cell (by simp at hk5; omega), hf5 _ _ q2]
        have HX5 := Lib.hid (HX4.out.below hb5); have HB5 := Lib.hid (belowThen HB4.out hb5)
        have HRA := Lib.hid (hRA.keep (w' := w5) (lo' := w.heap.size + 1) (hi' := w5.heap.size) (fun _ _ _ => rfl) (by simp only [size_alloc_eq]; omega) hle2)
        have HR5 := Lib.hid hr5'
        have hz5 := HX5.out.lt
        have hc5 : (1 : Nat) ≤ c5 := by assumption
        clear hr5 hr5' hO6 hrow5 hf5 hRA q0 q1 q2 hb5 hk5
        have r0 := HX5.out.cell 0; have r1 := HX5.out.cell 1; have r2 := HX5.out.cell 2
        have f0 := HX5.out.frozen 0; have f1 := HX5.out.frozen 1; have f2 := HX5.out.frozen 2
        go_wp2
        have Z := ((HX5.out.set 0 (.string r5.1.1)).set 1 (.slice r5.1.2.1 r5.1.2.2.1 r5.1.2.2.2.1)).set 2 (.slice r5.2.1 r5.2.2.1 r5.2.2.2.1)
        have z0 := Z.cell 0; have z1 := Z.cell 1; have z2 := Z.cell 2
        refine bodyPost_ret (v := .tuple #[rrVal r5, .bool true]) (by simp [results, Try.results38, go_sem, rrVal, r0, r1, r2]) rfl ⟨r5, by rw [E.out], ?_, by rw [E.out, HVS.out]; exact HR5.out, ((HB5.out.setCell (by simp) _).setCell (by simp) _).setCell (by simp) _⟩
        exact HRA.out.keep (fun b h1 h2 => (Below.heap_setCell _ _ _ b (by simp; omega)).trans ((Below.heap_setCell _ _ _ b (by simp; omega)).trans (Below.heap_setCell _ _ _ b (by simp; omega)))) (by omega) (by rw [size_setCell, size_setCell, size_setCell]; exact Nat.le_refl _)
      · have E := Lib.hid (askRule_no (s := s) (xs := xs) (.inr (.inr (by rw [HVS.out]; omega))))
        have h3I : (3 : Int) < (vs.length : Int) := by omega
        go_enter Try.func38, Try.ntmps38
        go_wp2_with fail
        refine (specName_any s _ hs).mono ?_; rintro e w' ⟨rfl, rfl⟩
        rw [HN.out]
        go_wp2_with fail
        refine (specAskOk_any B m d xs _ HP0.out).mono ?_; rintro e w1 ⟨rfl, hb1⟩
        rw [HA.out]
        have HX1 := Lib.hid (HX0.out.below hb1); have HB1 := Lib.hid (belowThen HB0.out hb1); have HP1 := Lib.hid (HP0.out.up PartE.stays hb1)
        clear hb1
        go_wp2_with fail
        refine (l5Vars_any B m d xs w1 HP1.out E3.out (by omega)).mono ?_; rintro e w2 ⟨p2, c2, rfl, hT2, hb2⟩
        rw [HVS.out]
        have HX2 := Lib.hid (HX1.out.below hb2); have HB2 := Lib.hid (belowThen HB1.out hb2)
        clear hb2 hT2
        have r0 := HX2.out.cell 0; have r1 := HX2.out.cell 1; have r2 := HX2.out.cell 2
        have f0 := HX2.out.frozen 0; have f1 := HX2.out.frozen 1; have f2 := HX2.out.frozen 2
        have hzz := HX2.out.lt
        go_wp2
        have Z := ((HX2.out.set 0 (.string ⟨#[]⟩)).set 1 (.slice none 0 0)).set 2 (.slice none 0 0)
        have z0 := Z.cell 0; have z1 := Z.cell 1; have z2 := Z.cell 2
        refine bodyPost_ret (v := .tuple #[.agg #[.string ⟨#[]⟩, .slice none 0 0, .slice none 0 0], .bool false]) (by simp [results, Try.results38, go_sem, r0, r1, r2]) rfl ⟨noRr, by rw [E.out]; rfl, noRr_apart (by simp only [size_setCell]; omega), by rw [E.out]; rfl, ((HB2.out.setCell (by simp) _).setCell (by simp) _).setCell (by simp) _⟩

/-- A row of terms that was grown by appending, or none. -/
theorem head_of_row {w : World} {base n : Nat} {v : Value} {s : ByteArray} {ts : List Tm} (h : w.ownsRow base 123 2 v n (tcs ts)) (hn : ts.length = n) (hs : ∀ t ∈ ts, t.2.size ≤ maxLen) (hz : s.size ≤ maxLen) :
    ∃ A c, v = .slice A n c ∧ HeadApart w base w.heap.size (s, A, n, c, ts) := by
  have h' := h
  rcases h.2 with ⟨rfl, h0⟩ | ⟨g, cap, cur, rfl, _⟩
  · subst h0
    exact ⟨none, 0, rfl, hz, ⟨hn, Nat.le_refl _, Nat.zero_le _, fun hp => absurd hp (Nat.lt_irrefl _)⟩, fun hp => absurd hp (Nat.lt_irrefl _)⟩
  · obtain ⟨a, b⟩ := own_terms h' hn hs (Nat.le_refl _)
    exact ⟨_, cap, rfl, hz, a, fun _ => b⟩

theorem tcs_vars {vs : List ByteArray} {k : Nat} {s : ByteArray} (h : vs[k]? = some s) : tcs (asVars (vs.take (k + 1))) = tcs (asVars (vs.take k)) ++ [.bool true, .string s] := by
  unfold asVars tcs
  rw [List.take_add_one, h, List.map_append, List.flatMap_append]
  rfl

set_option maxRecDepth 100000 in
set_option maxHeartbeats 4000000 in
theorem implAskRule_any (s : ByteArray) (B : Option Addr) (m d : Nat) (xs : List Pt) (w : World) (hs : s.size ≤ maxLen) (h : IsParts w 0 w.heap.size B m d xs) :
    Calls Try.prog 39 #[.string s, .slice B m d] w (AskRPost s xs w) := by
  have HL := Lib.hid h.1
  have H := Lib.hid h; clear h
  have hb0 := below1 w (.cells #[.string ⟨#[]⟩, .slice none 0 0, .slice none 0 0] 55)
  have X0 := Blk.new w 55 #[.string ⟨#[]⟩, .slice none 0 0, .slice none 0 0]
  obtain ⟨W0, hW0⟩ : ∃ W0, w.alloc (.cells #[.string ⟨#[]⟩, .slice none 0 0, .slice none 0 0] 55) = W0 := ⟨_, rfl⟩
  rw [hW0] at hb0 X0
  have hz0 : W0.heap.size = w.heap.size + 1 := by rw [← hW0]; simp
  have HX0 := Lib.hid X0; have HB0 := Lib.hid hb0; have HP0 := Lib.hid (H.out.up PartE.stays hb0)
  clear X0 hb0
  obtain ⟨hv1, hv2⟩ := askVars_small xs
  obtain ⟨ls, hls⟩ : ∃ ls, askVarsB xs = ls := ⟨_, rfl⟩
  rw [hls] at hv1 hv2
  obtain ⟨n, hnl⟩ : ∃ n, ls.length = n := ⟨_, rfl⟩
  rw [hnl] at hv1
  have VSL' := Lib.hid hnl
  have VM2 := Lib.hid hv2
  have HLS := Lib.hid hls
  clear hls hnl hv2
  cases hN : nameB s.data.toList
  · have E := Lib.hid (askRule_no (s := s) (xs := xs) (.inl hN)); have HN := Lib.hid hN; clear hN
    go_enter Try.func39, Try.ntmps39
    go_wp2_with fail
    refine (implAskVars_any B m d xs _ HP0.out).mono ?_; rintro e w1 ⟨v, rfl, hrow, hb1⟩
    rw [HLS.out, VSL'.out] at hrow
    obtain ⟨A1, c1, rfl, O1⟩ := OwnTx.of_row hrow VSL'.out.symm (fun s hs => Nat.le_trans (VM2.out s hs) (by decide)) (Nat.le_refl _)
    have HX1 := Lib.hid (HX0.out.below hb1); have HB1 := Lib.hid (belowThen HB0.out hb1); have HP1 := Lib.hid (HP0.out.up PartE.stays hb1)
    have HO1 := Lib.hid O1.texts
    have hz1 := hb1.size
    clear hb1 hrow O1
    go_wp2_with fail
    refine (implName_any s _ hs).mono ?_; rintro e w' ⟨rfl, rfl⟩
    rw [HN.out]
    have r0 := HX1.out.cell 0; have r1 := HX1.out.cell 1; have r2 := HX1.out.cell 2
    have f0 := HX1.out.frozen 0; have f1 := HX1.out.frozen 1; have f2 := HX1.out.frozen 2
    have hzz := HX1.out.lt
    go_wp2
    have Z := ((HX1.out.set 0 (.string ⟨#[]⟩)).set 1 (.slice none 0 0)).set 2 (.slice none 0 0)
    have z0 := Z.cell 0; have z1 := Z.cell 1; have z2 := Z.cell 2
    refine bodyPost_ret (v := .tuple #[.agg #[.string ⟨#[]⟩, .slice none 0 0, .slice none 0 0], .bool false]) (by simp [results, Try.results39, go_sem, r0, r1, r2]) rfl ⟨noRr, by rw [E.out]; rfl, noRr_apart (by simp only [size_setCell]; omega), by rw [E.out]; rfl, ((HB1.out.setCell (by simp) _).setCell (by simp) _).setCell (by simp) _⟩
  · have HN := Lib.hid hN; clear hN
    cases hA : askB xs
    · have E := Lib.hid (askRule_no (s := s) (xs := xs) (.inr (.inl hA))); have HA := Lib.hid hA; clear hA
      go_enter Try.func39, Try.ntmps39
      go_wp2_with fail
      refine (implAskVars_any B m d xs _ HP0.out).mono ?_; rintro e w1 ⟨v, rfl, hrow, hb1⟩
      rw [HLS.out, VSL'.out] at hrow
      obtain ⟨A1, c1, rfl, O1⟩ := OwnTx.of_row hrow VSL'.out.symm (fun s hs => Nat.le_trans (VM2.out s hs) (by decide)) (Nat.le_refl _)
      have HX1 := Lib.hid (HX0.out.below hb1); have HB1 := Lib.hid (belowThen HB0.out hb1); have HP1 := Lib.hid (HP0.out.up PartE.stays hb1)
      have HO1 := Lib.hid O1.texts
      have hz1 := hb1.size
      clear hb1 hrow O1
      go_wp2_with fail
      refine (implName_any s _ hs).mono ?_; rintro e w' ⟨rfl, rfl⟩
      rw [HN.out]
      go_wp2_with fail
      refine (implAskOk_any B m d xs _ HP1.out).mono ?_; rintro e w2 ⟨rfl, hb2⟩
      rw [HA.out]
      have HX2 := Lib.hid (HX1.out.below hb2); have HB2 := Lib.hid (belowThen HB1.out hb2); have HP2 := Lib.hid (HP1.out.up PartE.stays hb2)
      have HO2 := Lib.hid (HO1.out.below TextE.stays hb2 (Nat.le_refl _))
      have hz2 := hb2.size
      clear hb2
      have r0 := HX2.out.cell 0; have r1 := HX2.out.cell 1; have r2 := HX2.out.cell 2
      have f0 := HX2.out.frozen 0; have f1 := HX2.out.frozen 1; have f2 := HX2.out.frozen 2
      have hzz := HX2.out.lt
      go_wp2
      have Z := ((HX2.out.set 0 (.string ⟨#[]⟩)).set 1 (.slice none 0 0)).set 2 (.slice none 0 0)
      have z0 := Z.cell 0; have z1 := Z.cell 1; have z2 := Z.cell 2
      refine bodyPost_ret (v := .tuple #[.agg #[.string ⟨#[]⟩, .slice none 0 0, .slice none 0 0], .bool false]) (by simp [results, Try.results39, go_sem, r0, r1, r2]) rfl ⟨noRr, by rw [E.out]; rfl, noRr_apart (by simp only [size_setCell]; omega), by rw [E.out]; rfl, ((HB2.out.setCell (by simp) _).setCell (by simp) _).setCell (by simp) _⟩
    · have HA := Lib.hid hA
      have EA := askB_ok hA
      have hm4 : m ≤ 4 := by rw [← HL.out]; exact EA.2
      have HFEW := Lib.hid (ask_few hA)
      have HVS : Hid (partsT [] xs = ls) := Lib.hid (by have := HLS.out; unfold askVarsB at this; rw [hA] at this; exact this)
      clear hA EA
      by_cases h3 : n ≤ 3
      · have E := Lib.hid (askRule_yes (s := s) (xs := xs) HN.out HA.out (by rw [HVS.out, VSL'.out]; exact h3))
        have h3I : ¬ (3 : Int) < (n : Int) := by omega
        obtain ⟨i0, hi, hz, hsz, hby⟩ := info_parts Try.infoTm
        have HI := Lib.hid hi; have HZ := Lib.hid hz; have HSZ := Lib.hid hsz; have HYY := Lib.hid hby
        clear hi hz hsz hby
        go_enter Try.func39, Try.ntmps39
        go_wp2_with fail
        refine (implAskVars_any B m d xs _ HP0.out).mono ?_; rintro e w1 ⟨v, rfl, hrow, hb1⟩
        rw [HLS.out, VSL'.out] at hrow
        obtain ⟨A1, c1, rfl, O1⟩ := OwnTx.of_row hrow VSL'.out.symm (fun s hs => Nat.le_trans (VM2.out s hs) (by decide)) (Nat.le_refl _)
        have HX1 := Lib.hid (HX0.out.below hb1); have HB1 := Lib.hid (belowThen HB0.out hb1); have HP1 := Lib.hid (HP0.out.up PartE.stays hb1)
        have HO1 := Lib.hid O1.texts
        have hz1 := hb1.size
        clear hb1 hrow O1
        go_wp2_with fail
        refine (implName_any s _ hs).mono ?_; rintro e w' ⟨rfl, rfl⟩
        rw [HN.out]
        go_wp2_with fail
        refine (implAskOk_any B m d xs _ HP1.out).mono ?_; rintro e w2 ⟨rfl, hb2⟩
        rw [HA.out]
        have HX2 := Lib.hid (HX1.out.below hb2); have HB2 := Lib.hid (belowThen HB1.out hb2); have HP2 := Lib.hid (HP1.out.up PartE.stays hb2)
        have HO2 := Lib.hid (HO1.out.below TextE.stays hb2 (Nat.le_refl _))
        have hz2 := hb2.size
        clear hb2
        have hT2 : IsTexts w2 0 w1.heap.size A1 n c1 ls := HO2.out.keep TextE.stays (fun _ _ _ => rfl) (Nat.zero_le _) (Nat.le_refl _)
        have HT2 := Lib.hid hT2
        clear hT2 HO2
        have Y2 := Lib.hid (Blk.new w2 26 #[.string s, .slice none 0 0])
        have hb3 := below1 w2 (.cells #[.string s, .slice none 0 0] 26)
        have X2 := Lib.hid (HX2.out.alloc (.cells #[.string s, .slice none 0 0] 26))
        have B2 := Lib.hid (belowThen HB2.out hb3)
        have T2 := Lib.hid (HT2.out.below TextE.stays hb3 hz2)
        have hzx := HX2.out.lt
        have hz3 : (w2.alloc (.cells #[.string s, .slice none 0 0] 26)).heap.size = w2.heap.size + 1 := by simp
        go_wp2
        go_loopw [30] (fun i wr => ∃ (k : Nat) (v : Value), k ≤ n ∧ i = .int .i64 (k : Int) ∧ Blk wr w2.heap.size 26 #[.string s, v] ∧ Blk wr w.heap.size 55 #[.string ⟨#[]⟩, .slice none 0 0, .slice none 0 0] ∧ wr.ownsRow (w2.heap.size + 1) 123 2 v k (tcs (asVars (ls.take k))) ∧ IsTexts wr 0 w1.heap.size A1 n c1 ls ∧ Below w.heap.size w wr ∧ w2.heap.size + 1 ≤ wr.heap.size ∧ Below w2.heap.size w2 wr) (fun i _ => n - (intOf i).toNat)
        case atStart => exact ⟨0, _, Nat.zero_le _, rfl, Y2.out, X2.out, ⟨rfl, .inl ⟨rfl, rfl⟩⟩, T2.out, B2.out, by omega, hb3⟩
        case round =>
          obtain ⟨k, v, hk, rfl, hY, hX, hrow, hT, hb, hsz, hb2⟩ := hrel
          obtain ⟨Av, cv, rfl⟩ : ∃ Av cv, v = .slice Av k cv := by
            rcases hrow.2 with ⟨e1, e2⟩ | ⟨g, cap, cur, e1, _⟩
            · exact ⟨none, 0, by rw [e1, e2]⟩
            · exact ⟨_, cap, e1⟩
          have HY := Lib.hid hY; have HX := Lib.hid hX; have HR := Lib.hid hrow; have HT3 := Lib.hid hT; have HB := Lib.hid hb; have HBB := Lib.hid hb2
          clear hY hX hrow hT hb hb2
          have y0 : wr.cell? ⟨w2.heap.size, 0, none⟩ = some (.string s) := HY.out.cell 0
          have y1 : wr.cell? ⟨w2.heap.size, 1, none⟩ = some (.slice Av k cv) := HY.out.cell 1
          have hlo2 : ∀ g, (Value.slice Av k cv).ownBlock = some g → w2.heap.size + 1 ≤ g := fun g hg => (HR.out.lt g hg).1
          by_cases hlt : k < n
          · have hltI : (k : Int) < (n : Int) := by omega
            obtain ⟨p, s5, hq, hlo, hhi, hg, hE⟩ := HT3.out.at_ hlt
            subst hq
            have c5 : wr.cell? (p.add k) = some (.string s5) := by have := hE; unfold TextE at this; rwa [Nat.mul_one] at this
            have HG := Lib.hid hg; clear hg hE
            go_wp2_with (at_builtin; refine wpList_append_own _ rfl _ _ 24 rfl (w2.heap.size + 1) 123 i0 _ 2 24 Try.underlying24 HI.out HZ.out HSZ.out HYY.out rfl (by decide) _ _ _ rfl (HR.out.alloc _) ⟨wr.heap.size, 0, none⟩ 1 1 [.bool true, .string s5] rfl rfl (two_new _ _ _ _) (by simp [Value.oneCell']) (by unfold maxLen; omega) (by omega) (by simp; omega) ?_; intro v' w6 hown' hgrow' _; obtain ⟨g', cap', rfl⟩ := ownsRow_succ hown'; have Y6 := (HY.out.alloc (.cells #[.bool true, .string s5] 123)).kept hgrow' (own_ne' (fun g h => by have := hlo2 g h; omega)); have z1 : w6.cell? ⟨w2.heap.size, 1, none⟩ = some (.slice Av k cv) := Y6.cell 1; have z2 := Y6.frozen 1; have hown := Lib.hid hown'; have hgrow := Lib.hid hgrow'; have HY6 := Lib.hid Y6; clear hown' hgrow' Y6)
            have hgg := (hown.out.lt g' rfl).1
            have hgs : wr.heap.size + 1 ≤ w6.heap.size := by have := hgrow.out.size; simp at this; exact this
            have hba := below1 wr (.cells #[.bool true, .string s5] 123)
            have A1' := Lib.hid (show Blk (w6.setCell ⟨w2.heap.size, 1, none⟩ (.slice (some ⟨g', 0, none⟩) (k + 1) cap')) w2.heap.size 26 #[.string s, .slice (some ⟨g', 0, none⟩) (k + 1) cap'] from HY6.out.set 1 _)
            have A2' := Lib.hid (((HX.out.alloc (.cells #[.bool true, .string s5] 123)).kept hgrow.out (own_ne' (fun g h => by have := hlo2 g h; omega))).far (p := ⟨w2.heap.size, 1, none⟩) (by simp; omega) (.slice (some ⟨g', 0, none⟩) (k + 1) cap'))
            have A3' : Hid ((w6.setCell ⟨w2.heap.size, 1, none⟩ (.slice (some ⟨g', 0, none⟩) (k + 1) cap')).ownsRow (w2.heap.size + 1) 123 2 (.slice (some ⟨g', 0, none⟩) (k + 1) cap') (k + 1) (tcs (asVars (ls.take (k + 1))))) := Lib.hid (by rw [tcs_vars HG.out]; exact row_away hown.out (fun e => by simp [Value.ownBlock] at e; omega) _)
            have hb6 : Below w2.heap.size w2 w6 := (HBB.out.trans (hba.mono (by omega))).grown hgrow.out (by simp; omega) (fun g h => by have := hlo2 g h; omega)
            have A4' := Lib.hid (HT2.out.below TextE.stays (hb6.setCell (p := ⟨w2.heap.size, 1, none⟩) (Nat.le_refl _) (.slice (some ⟨g', 0, none⟩) (k + 1) cap')) hz2)
            have A5' := Lib.hid ((HB2.out.trans (hb6.mono HB2.out.size)).setCell (p := ⟨w2.heap.size, 1, none⟩) (by simp; omega) (.slice (some ⟨g', 0, none⟩) (k + 1) cap'))
            have A6' : w2.heap.size + 1 ≤ (w6.setCell ⟨w2.heap.size, 1, none⟩ (.slice (some ⟨g', 0, none⟩) (k + 1) cap')).heap.size := by rw [size_setCell]; omega
            have A7' := Lib.hid (hb6.setCell (p := ⟨w2.heap.size, 1, none⟩) (Nat.le_refl _) (.slice (some ⟨g', 0, none⟩) (k + 1) cap'))
            clear z1 z2 y0 y1 c5 hlo2 hba hb6
            go_wp2
            go_roundw
            case rel => exact ⟨k + 1, _, by omega, by go_num, A1'.out, A2'.out, A3'.out, A4'.out, A5'.out, A6', A7'.out⟩
            case measure => simp [intOf]; omega
          · have hkn : k = n := by omega
            subst hkn
            have hkI : ¬ (k : Int) < (k : Int) := by omega
            have HP3 := Lib.hid (show IsParts wr.drew 0 wr.drew.heap.size B m d xs from HP2.out.up PartE.stays (HBB.out.drew))
            obtain ⟨A9, c9, e9, hH⟩ := head_of_row (s := s) HR.out (by unfold asVars; rw [List.length_map, List.length_take, VSL'.out, Nat.min_self]) (fun t ht => by
              unfold asVars at ht
              obtain ⟨u, hu, rfl⟩ := List.mem_map.1 ht
              exact Nat.le_trans (VM2.out u (List.mem_of_mem_take hu)) (by decide)) hs
            injection e9 with e9 _ e10
            subst e9; subst e10
            have hlt0 : ls.take k = ls := List.take_of_length_le (by rw [VSL'.out]; exact Nat.le_refl _)
            rw [hlt0] at hH
            have HH := Lib.hid hH
            have YD := Lib.hid (show Blk wr.drew w2.heap.size 26 #[.string s, .slice Av k cv] from HY.out)
            have XD := Lib.hid (show Blk wr.drew w.heap.size 55 #[.string ⟨#[]⟩, .slice none 0 0, .slice none 0 0] from HX.out)
            have BD := Lib.hid HB.out.drew
            have hzD : wr.drew.heap.size = wr.heap.size := rfl
            have HHD := Lib.hid (show HeadApart wr.drew (w2.heap.size + 1) wr.heap.size (s, Av, k, cv, asVars ls) from HH.out)
            clear hH hlt0 y0 y1 hlo2
            go_wp2
            obtain ⟨V, hV⟩ : ∃ V, wr.drew = V := ⟨_, rfl⟩
            rw [hV] at YD XD BD hzD HHD HP3
            refine wp_region_held_drew (S := fun W => W.cell? ⟨w2.heap.size, 0, none⟩ = some (.string s) ∧ W.cell? ⟨w2.heap.size, 1, none⟩ = some (.slice Av k cv)) (by kernel_rfl) (by rw [hV]; exact ⟨YD.out.cell 0, YD.out.cell 1⟩) ?_
            rw [hV]
            clear hV
            intro hS_
            refine takeV (i := 0) (v := .agg #[.string s, .slice Av k cv]) (by (simp only [List.getElem?_toArray, List.getElem?_cons_zero]); rfl) (by kernel_rfl) (by kernel_rfl) (by kernel_rfl) (by rfl) (fun _ _ _ h => h) (Or.inl ⟨by rfl, ?_⟩) hS_ (by (simp only [List.setIfInBounds_toArray, List.set_cons_succ, List.set_cons_zero]); rfl) ?_
            · intro w_ hSw_; (try dsimp only at hSw_); go_simp
            refine takeV (i := 1) (v := .slice B m d) (by (simp only [List.getElem?_toArray, List.getElem?_cons_succ, List.getElem?_cons_zero]); rfl) (by kernel_rfl) (by kernel_rfl) (by kernel_rfl) (by rfl) (fun _ _ _ h => h) (Or.inl ⟨by rfl, ?_⟩) hS_ (by (simp only [List.setIfInBounds_toArray, List.set_cons_succ, List.set_cons_zero]); rfl) ?_
            · intro w_ hSw_; (try dsimp only at hSw_); go_simp
            refine wpAnyH_ready (rs := [2]) (by kernel_rfl) (by simp) ?_
            refine AllReadyH.cons (o := _) (by (simp only [List.getElem?_toArray, List.getElem?_cons_succ, List.getElem?_cons_zero]); rfl) (fun K_ hK_ => ?_) AllReadyH.nil
            rw [if_pos (by rfl)]
            go_simp
            go_at_call 93
            refine (copyParts_any B m d xs _ HP3.out ⟨by omega, HFEW.out⟩).mono ?_; rintro e w8 ⟨A8, c8, ps, rfl, hO8, hm8, hb8⟩
            have Y8 := Lib.hid (YD.out.below hb8); have X8 := Lib.hid (XD.out.below hb8); have B8 := Lib.hid (belowThen BD.out hb8)
            have HO8 := Lib.hid hO8; have HM8 := Lib.hid hm8
            have HH8 := Lib.hid (HHD.out.keep (w' := w8) (lo' := w2.heap.size + 1) (hi' := wr.heap.size) (fun b _ h2 => hb8.block b (by omega)) (Nat.le_refl _) (Nat.le_refl _))
            have hz8 := hb8.size
            rw [hzD] at hz8 HO8
            rw [HL.out] at HO8 ⊢
            clear hO8 hm8 hb8
            refine hK_.out _ _ ⟨Y8.out.cell 0, Y8.out.cell 1⟩ (fun hS2_ => ?_)
            clear hK_ hS_; have hS_ := hS2_; clear hS2_
            (try simp only [Act.put, List.setIfInBounds_toArray, List.set_cons_zero, List.set_cons_succ])
            refine takeV (i := 3) (v := .agg #[.string s, .slice Av k cv, .slice A8 m c8]) (by (simp only [List.getElem?_toArray, List.getElem?_cons_succ, List.getElem?_cons_zero]); rfl) (by kernel_rfl) (by kernel_rfl) (by kernel_rfl) (by rfl) (fun _ _ _ h => h) (Or.inl ⟨by rfl, ?_⟩) hS_ (by (simp only [List.setIfInBounds_toArray, List.set_cons_succ, List.set_cons_zero]); rfl) ?_
            · intro w_ hSw_; (try dsimp only at hSw_); go_simp
            refine wpAnyH_ready (rs := [4]) (by kernel_rfl) (by simp) ?_
            refine AllReadyH.cons (o := _) (by (simp only [List.getElem?_toArray, List.getElem?_cons_succ, List.getElem?_cons_zero]); rfl) (fun K_ hK_ => ?_) AllReadyH.nil
            have r0 := X8.out.cell 0; have r1 := X8.out.cell 1; have r2 := X8.out.cell 2
            have f0 := X8.out.frozen 0; have f1 := X8.out.frozen 1; have f2 := X8.out.frozen 2
            have hxl := X8.out.lt
            rw [if_pos (by rfl)]
            go_simp
            have Y9 := Lib.hid (((Y8.out.far (p := ⟨w.heap.size, 0, none⟩) (by simp; omega) (.string s)).far (p := ⟨w.heap.size, 1, none⟩) (by simp; omega) (.slice Av k cv)).far (p := ⟨w.heap.size, 2, none⟩) (by simp; omega) (.slice A8 m c8))
            refine hK_.out _ _ ⟨Y9.out.cell 0, Y9.out.cell 1⟩ (fun hS2_ => ?_)
            clear hK_ hS_; have hS_ := hS2_; clear hS2_
            (try simp only [Act.put, List.setIfInBounds_toArray, List.set_cons_zero, List.set_cons_succ])
            refine takeV (i := 5) (v := .bool true) (by (simp only [List.getElem?_toArray, List.getElem?_cons_succ, List.getElem?_cons_zero]); rfl) (by kernel_rfl) (by kernel_rfl) (by kernel_rfl) (by rfl) (fun _ _ _ h => h) (Or.inl ⟨by rfl, ?_⟩) hS_ (by (simp only [List.setIfInBounds_toArray, List.set_cons_succ, List.set_cons_zero]); rfl) ?_
            · intro w_ hSw_; (try dsimp only at hSw_); go_simp
            refine wpAnyH_done (by kernel_rfl) ?_ _
            have hfar : ∀ b, w.heap.size < b → (((w8.setCell ⟨w.heap.size, 0, none⟩ (.string s)).setCell ⟨w.heap.size, 1, none⟩ (.slice Av k cv)).setCell ⟨w.heap.size, 2, none⟩ (.slice A8 m c8)).heap[b]? = w8.heap[b]? := fun b h => (Below.heap_setCell _ _ _ b (by simp; omega)).trans ((Below.heap_setCell _ _ _ b (by simp; omega)).trans (Below.heap_setCell _ _ _ b (by simp; omega)))
            have HF := Lib.hid hfar; clear hfar
            go_wp2
            refine bodyPost_ret (v := .tuple #[rrVal ((s, Av, k, cv, asVars ls), A8, m, c8, ps), .bool true]) (by simp [results, Try.results39, go_sem, rrVal, r0, r1, r2]) rfl ⟨((s, Av, k, cv, asVars ls), A8, m, c8, ps), by rw [E.out], ?_, ?_, ((B8.out.setCell (by simp) _).setCell (by simp) _).setCell (by simp) _⟩
            · refine ⟨w2.heap.size + 1, wr.heap.size, wr.heap.size, w8.heap.size, by omega, by omega, by rw [size_setCell, size_setCell, size_setCell]; omega, by omega, by omega, by rw [size_setCell, size_setCell, size_setCell]; exact Nat.le_refl _, .inl (Nat.le_refl _), HH8.out.keep (fun b h1 _ => HF.out b (by omega)) (Nat.le_refl _) (Nat.le_refl _), HO8.out.keep (fun b h1 _ => HF.out b (by omega)) (Nat.le_refl _) (Nat.le_refl _)⟩
            · rw [E.out, HVS.out]; unfold rRl; show ((s, asVars ls), ps.map pAt) = _; rw [HM8.out]
      · have E := Lib.hid (askRule_no (s := s) (xs := xs) (.inr (.inr (by rw [HVS.out, VSL'.out]; omega))))
        have h3I : (3 : Int) < (n : Int) := by omega
        go_enter Try.func39, Try.ntmps39
        go_wp2_with fail
        refine (implAskVars_any B m d xs _ HP0.out).mono ?_; rintro e w1 ⟨v, rfl, hrow, hb1⟩
        rw [HLS.out, VSL'.out] at hrow
        obtain ⟨A1, c1, rfl, O1⟩ := OwnTx.of_row hrow VSL'.out.symm (fun s hs => Nat.le_trans (VM2.out s hs) (by decide)) (Nat.le_refl _)
        have HX1 := Lib.hid (HX0.out.below hb1); have HB1 := Lib.hid (belowThen HB0.out hb1); have HP1 := Lib.hid (HP0.out.up PartE.stays hb1)
        have HO1 := Lib.hid O1.texts
        have hz1 := hb1.size
        clear hb1 hrow O1
        go_wp2_with fail
        refine (implName_any s _ hs).mono ?_; rintro e w' ⟨rfl, rfl⟩
        rw [HN.out]
        go_wp2_with fail
        refine (implAskOk_any B m d xs _ HP1.out).mono ?_; rintro e w2 ⟨rfl, hb2⟩
        rw [HA.out]
        have HX2 := Lib.hid (HX1.out.below hb2); have HB2 := Lib.hid (belowThen HB1.out hb2); have HP2 := Lib.hid (HP1.out.up PartE.stays hb2)
        have HO2 := Lib.hid (HO1.out.below TextE.stays hb2 (Nat.le_refl _))
        have hz2 := hb2.size
        clear hb2
        have r0 := HX2.out.cell 0; have r1 := HX2.out.cell 1; have r2 := HX2.out.cell 2
        have f0 := HX2.out.frozen 0; have f1 := HX2.out.frozen 1; have f2 := HX2.out.frozen 2
        have hzz := HX2.out.lt
        go_wp2
        have Z := ((HX2.out.set 0 (.string ⟨#[]⟩)).set 1 (.slice none 0 0)).set 2 (.slice none 0 0)
        have z0 := Z.cell 0; have z1 := Z.cell 1; have z2 := Z.cell 2
        refine bodyPost_ret (v := .tuple #[.agg #[.string ⟨#[]⟩, .slice none 0 0, .slice none 0 0], .bool false]) (by simp [results, Try.results39, go_sem, r0, r1, r2]) rfl ⟨noRr, by rw [E.out]; rfl, noRr_apart (by simp only [size_setCell]; omega), by rw [E.out]; rfl, ((HB2.out.setCell (by simp) _).setCell (by simp) _).setCell (by simp) _⟩

end Go.Proofs.Ytfghmphaldefbaa

namespace Go.Proofs.Ytfghmphaldefbaa
open Go.RowKit

/-- A rule's cells, boxed. -/
def rrBox (W : World) (b : Nat) (r : Rr) : Prop := Blk W b 55 #[.string r.1.1, .slice r.1.2.1 r.1.2.2.1 r.1.2.2.2.1, .slice r.2.1 r.2.2.1 r.2.2.2.1]

/-- What the law holds: the model's rule, its own body, the program's rule; each in blocks apart. -/
structure RLaw (w : World) (a b d : Nat) (r3 : Rr) (g4 n : Nat) (r5 : Rr) (W : World) : Prop where
  hb : Below w.heap.size w W
  h1 : w.heap.size ≤ a
  h2 : a + 1 ≤ b
  h3 : b ≤ d
  h4 : d + 1 ≤ W.heap.size
  T : RuleApart W w.heap.size a r3
  X3 : rrBox W a r3
  R : PartRow W (a + 1) b g4 n
  O : RuleApart W b d r5
  X5 : rrBox W d r5

section
variable {w : World} {a b d : Nat} {r3 r5 r5' : Rr} {g4 n : Nat} {W W' : World}

theorem RLaw.below (h : RLaw w a b d r3 g4 n r5 W) (hw : Below W.heap.size W W') : RLaw w a b d r3 g4 n r5 W' :=
  have h1 := h.h1; have h2 := h.h2; have h3 := h.h3; have h4 := h.h4
  ⟨belowThen h.hb hw, h.h1, h.h2, h.h3, Nat.le_trans h.h4 hw.size, h.T.keep (fun x _ hx => hw.block x (by omega)) (Nat.le_refl _) (Nat.le_refl _), Blk.below h.X3 hw, h.R.keep (fun x _ hx => hw.block x (by omega)), h.O.keep (fun x _ hx => hw.block x (by omega)) (Nat.le_refl _) (Nat.le_refl _), Blk.below h.X5 hw⟩

theorem RLaw.parts (h : RLaw w a b d r3 g4 n r5 W) (hw : Within (a + 1) b W W') (hR : PartRow W' (a + 1) b g4 n) : RLaw w a b d r3 g4 n r5 W' :=
  have h1 := h.h1; have h2 := h.h2; have h3 := h.h3; have h4 := h.h4
  ⟨h.hb.trans (hw.low (by omega) (by omega)), h.h1, h.h2, h.h3, Nat.le_trans h.h4 hw.size, h.T.keep (fun x _ hx => hw.block x (by omega) (.inl (by omega))) (Nat.le_refl _) (Nat.le_refl _), (hw.block a (by omega) (.inl (by omega))).trans h.X3, hR, h.O.keep (fun x hx hx' => hw.block x (by omega) (.inr (by omega))) (Nat.le_refl _) (Nat.le_refl _), (hw.block d (by omega) (.inr (by omega))).trans h.X5⟩

theorem RLaw.marked {k : Nat} (h : RLaw w a b d r3 g4 n r5 W) (hw : Within b d W W') (hO : RuleApart W' b d (markRr k r5)) : RLaw w a b d r3 g4 n (markRr k r5) W' :=
  have h1 := h.h1; have h2 := h.h2; have h3 := h.h3; have h4 := h.h4
  ⟨h.hb.trans (hw.low (by omega) (by omega)), h.h1, h.h2, h.h3, Nat.le_trans h.h4 hw.size, h.T.keep (fun x _ hx => hw.block x (by omega) (.inl (by omega))) (Nat.le_refl _) (Nat.le_refl _), (hw.block a (by omega) (.inl (by omega))).trans h.X3, h.R.keep (fun x hx hx' => hw.block x (by omega) (.inl (by omega))), hO, (hw.block d (by omega) (.inr (Nat.le_refl _))).trans h.X5⟩

theorem RLaw.model (h : RLaw w a b d r3 g4 n r5 W) : IsRule W W.heap.size r3.1.2.1 r3.1.2.2.1 r3.1.2.2.2.1 r3.2.1 r3.2.2.1 r3.2.2.2.1 (rRl r3).1.2 (rRl r3).2 :=
  have h2 := h.h2; have h3 := h.h3; have h4 := h.h4
  h.T.is (by omega)
theorem RLaw.answer (h : RLaw w a b d r3 g4 n r5 W) : IsRule W W.heap.size r5.1.2.1 r5.1.2.2.1 r5.1.2.2.2.1 r5.2.1 r5.2.2.1 r5.2.2.2.1 (rRl r5).1.2 (rRl r5).2 :=
  have h4 := h.h4
  h.O.is (by omega)

theorem rrBox.cells {b : Nat} {r : Rr} (h : rrBox W b r) : W.cell? ⟨b, 0, none⟩ = some (.string r.1.1) ∧ W.cell? ⟨b, 1, none⟩ = some (.slice r.1.2.1 r.1.2.2.1 r.1.2.2.2.1) ∧ W.cell? ⟨b, 2, none⟩ = some (.slice r.2.1 r.2.2.1 r.2.2.2.1) := ⟨Blk.cell h 0, Blk.cell h 1, Blk.cell h 2⟩
end

/-- Rules that are the same are told so. -/
theorem eqRule_same (r r' : Rr) (w : World) (h : IsRule w w.heap.size r.1.2.1 r.1.2.2.1 r.1.2.2.2.1 r.2.1 r.2.2.1 r.2.2.2.1 (rRl r).1.2 (rRl r).2) (h' : IsRule w w.heap.size r'.1.2.1 r'.1.2.2.1 r'.1.2.2.2.1 r'.2.1 r'.2.2.1 r'.2.2.2.1 (rRl r').1.2 (rRl r').2) (he : rRl r = rRl r') :
    Calls Try.prog 28 #[rrVal r, rrVal r'] w (BoolPost true w) := by
  have e : ruleEq ((r.1.1, (rRl r).1.2), (rRl r).2) ((r'.1.1, (rRl r').1.2), (rRl r').2) = true := by
    have : ((r.1.1, (rRl r).1.2), (rRl r).2) = rRl r := rfl
    have e2 : ((r'.1.1, (rRl r').1.2), (rRl r').2) = rRl r' := rfl
    rw [this, e2, he]; exact ruleEq_refl _
  have := eqRule_any r.1.1 r'.1.1 _ _ _ _ _ _ _ _ _ _ _ _ _ _ _ _ w h h'
  rw [e] at this
  exact this

/-- The marks of a rule that was told are few. -/
theorem markRr_few {w : World} {lo hi : Nat} {s : ByteArray} {xs : List Pt} {r : Rr} (h : RuleApart w lo hi r) (hr : rRl r = (askRuleB s xs).1) : markRrN 1 r ≤ 2 ^ 62 := by
  obtain ⟨a, b, c, d, _, _, _, _, _, _, _, hH, hP⟩ := h
  have h1 : rN r.1 ≤ 3 ∧ r.2.2.2.2.length ≤ 4 ∧ ∀ p ∈ r.2.2.2.2, rN p.2 ≤ 3 := by
    have e1 : rN r.1 = (rRl r).1.2.length := hH.2.1.1.symm
    have e2 : r.2.2.2.2.length = (rRl r).2.length := by unfold rRl; simp
    have e3 : ∀ p ∈ r.2.2.2.2, rN p.2 = (pAt p).2.2.length := fun p hp => (hP.2.2.2.2.1 p.2 (List.mem_map_of_mem hp)).2.1.1.symm
    have e4 : ∀ p ∈ r.2.2.2.2, pAt p ∈ (rRl r).2 := fun p hp => List.mem_map_of_mem hp
    rw [e1, e2]
    rw [hr] at e4 ⊢
    unfold askRuleB at e4 ⊢
    split at e4
    next hc =>
      rw [if_pos hc]
      have ha := askB_ok hc.2.1
      refine ⟨by unfold asVars; rw [List.length_map]; exact hc.2.2, ha.2, fun p hp => ?_⟩
      rw [e3 p hp]; exact body_three ha.1 _ (e4 p hp)
    next hc =>
      rw [if_neg hc]
      exact ⟨by simp, by simp, fun p hp => absurd (e4 p hp) (by simp)⟩
  have h2 := markPN_le 3 (1 + 2 * rN r.1) r.2.2.2.2 h1.2.2
  unfold markRrN
  have h3 : r.2.2.2.2.length * (2 + 2 * 3) ≤ 4 * (2 + 2 * 3) := Nat.mul_le_mul_right _ h1.2.1
  omega

/-- A marked rule, read. -/
theorem marked_rule {w : World} {lo hi k : Nat} {r : Rr} (h : RuleApart w lo hi (markRr k r)) (hh : hi ≤ w.heap.size) : IsRule w w.heap.size r.1.2.1 r.1.2.2.1 r.1.2.2.2.1 r.2.1 r.2.2.1 r.2.2.2.1 (markTs k r.1.2.2.1) ((markPs (k + 2 * r.1.2.2.1) r.2.2.2.2).map pAt) := h.is hh

set_option maxRecDepth 100000 in
set_option maxHeartbeats 2000000 in
theorem exactAskRule_any (s : ByteArray) (A : Option Addr) (n c : Nat) (l : List Pt) (w : World) (hs : s.size ≤ maxLen) (h : IsParts w 0 w.heap.size A n c l) :
    Calls Try.prog 7 #[.string s, .slice A n c] w (BoolPost true w) := by
  have H := Lib.hid h; clear h
  obtain ⟨bo, hbo⟩ : ∃ bo, (askRuleB s l).2 = bo := ⟨_, rfl⟩
  obtain ⟨rl, hrl⟩ : ∃ rl, (askRuleB s l).1 = rl := ⟨_, rfl⟩
  have HBO := Lib.hid hbo; have HRL := Lib.hid hrl
  clear hbo hrl
  go_enter Try.func7, Try.ntmps7
  go_wp2_with fail
  all_goals try (go_ret; exact ⟨rfl, Below.refl _ _⟩)
  refine (szPartS_any _ _ _ l _ _ H.out (by omega) (by omega)).mono ?_; rintro e w1 ⟨y, ⟨rfl, ha, hb, hc⟩, hb1⟩
  go_wp2_with fail
  all_goals try (go_ret; exact ⟨rfl, hb1⟩)
  have hn : SmallParts n l := hc (by assumption)
  have hnn := hn.1
  have HN := Lib.hid hn
  clear ha hb hc hn
  refine (toPartS_any _ _ _ l _ (H.out.up PartE.stays hb1) HN.out).mono ?_; rintro e w2 ⟨g2, rfl, hg2, o2, hb2⟩
  have HB2 := belowThen hb1 hb2
  --REST
  go_wp2_with fail
  refine (specAskRule_any s _ _ _ l _ hs (lowParts o2 (Nat.le_refl _))).mono ?_; rintro e w3 ⟨r3, rfl, T3, hr3, hb3⟩
  unfold rrVal
  rw [HBO.out]
  have X3 := Blk.new w3 55 #[.string r3.1.1, .slice r3.1.2.1 r3.1.2.2.1 r3.1.2.2.2.1, .slice r3.2.1 r3.2.2.1 r3.2.2.2.1]
  have hbx := below1 w3 (.cells #[.string r3.1.1, .slice r3.1.2.1 r3.1.2.2.1 r3.1.2.2.2.1, .slice r3.2.1 r3.2.2.1 r3.2.2.2.1] 55)
  have HB3 := belowThen (belowThen HB2 hb3) hbx
  have hz23 := hb3.size; have hzw2 := HB2.size
  have HT3 := Lib.hid (T3.keep (w' := w3.alloc (.cells #[.string r3.1.1, .slice r3.1.2.1 r3.1.2.2.1 r3.1.2.2.2.1, .slice r3.2.1 r3.2.2.1 r3.2.2.2.1] 55)) (lo' := w.heap.size) (hi' := w3.heap.size) (fun b _ h2 => hbx.block b h2) hzw2 (Nat.le_refl _))
  have HX3 := Lib.hid X3; have HR3 := Lib.hid (hr3.trans HRL.out)
  have hzx : (w3.alloc (.cells #[.string r3.1.1, .slice r3.1.2.1 r3.1.2.2.1 r3.1.2.2.2.1, .slice r3.2.1 r3.2.2.1 r3.2.2.2.1] 55)).heap.size = w3.heap.size + 1 := by simp
  clear hb1 hb2 hb3 hbx o2 HB2 T3 X3 hr3
  obtain ⟨W3, hW3⟩ : ∃ W3, w3.alloc (.cells #[.string r3.1.1, .slice r3.1.2.1 r3.1.2.2.1 r3.1.2.2.2.1, .slice r3.2.1 r3.2.2.1 r3.2.2.2.1] 55) = W3 := ⟨_, rfl⟩
  rw [hW3] at HB3 HT3 HX3 hzx
  go_wp2_with fail
  refine (toPartS_own _ _ _ l _ (H.out.up PartE.stays HB3) HN.out).mono ?_; rintro e w4 ⟨g4, rfl, hg4, o4, r4, hb4⟩
  have HO4 := Lib.hid o4; have HR4 := Lib.hid r4
  clear o4 r4
  go_wp2_with fail
  refine (implAskRule_any s _ _ _ l _ hs (lowParts HO4.out (Nat.le_refl _))).mono ?_; rintro e w5 ⟨r5, rfl, O5, hr5, hb5⟩
  unfold rrVal
  rw [HBO.out]
  have HR5 := Lib.hid (hr5.trans HRL.out)
  have HMK := Lib.hid (markRr_few O5 hr5)
  have hz4 := hb4.size; have hz5 := hb5.size
  have V5' : RLaw w w3.heap.size w4.heap.size w5.heap.size r3 g4 n r5 (w5.alloc (.cells #[.string r5.1.1, .slice r5.1.2.1 r5.1.2.2.1 r5.1.2.2.2.1, .slice r5.2.1 r5.2.2.1 r5.2.2.2.1] 55)) := by
    have hbx := below1 w5 (.cells #[.string r5.1.1, .slice r5.1.2.1 r5.1.2.2.1 r5.1.2.2.2.1, .slice r5.2.1 r5.2.2.1 r5.2.2.2.1] 55)
    have hbA := belowThen (belowThen hb4 hb5) hbx
    have hR4 := HR4.out
    rw [hzx] at hR4 hz4
    refine ⟨belowThen HB3 hbA, by omega, hz4, hz5, by simp, HT3.out.keep (fun b _ h2 => hbA.block b (by omega)) (Nat.le_refl _) (Nat.le_refl _), Blk.below HX3.out hbA, hR4.keep (fun x _ hx => (belowThen hb5 hbx).block x hx), O5.keep (fun b _ h2 => hbx.block b h2) (Nat.le_refl _) (Nat.le_refl _), Blk.new w5 _ _⟩
  have HP5' := HO4.out.below PartE.stays (belowThen hb5 (below1 w5 (.cells #[.string r5.1.1, .slice r5.1.2.1 r5.1.2.2.1 r5.1.2.2.2.1, .slice r5.2.1 r5.2.2.1 r5.2.2.2.1] 55))) (Nat.le_refl _)
  have V5 := Lib.hid V5'; have HP5 := Lib.hid HP5'
  clear O5 hr5 HT3 HX3 HR4 HO4 HB3 hb4 hb5 V5' HP5' hW3
  obtain ⟨W5, hW5⟩ : ∃ W5, w5.alloc (.cells #[.string r5.1.1, .slice r5.1.2.1 r5.1.2.2.1 r5.1.2.2.2.1, .slice r5.2.1 r5.2.2.1 r5.2.2.2.1] 55) = W5 := ⟨_, rfl⟩
  rw [hW5] at V5 HP5
  obtain ⟨x0, x1, x2⟩ := V5.out.X3.cells
  obtain ⟨y0, y1, y2⟩ := V5.out.X5.cells
  go_wp2_with fail
  refine (eqRule_same r5 r3 _ V5.out.answer V5.out.model (HR5.out.trans HR3.out.symm)).mono ?_; rintro e w6 ⟨rfl, hb6⟩
  have V6 := Lib.hid (V5.out.below hb6)
  have HBE := Lib.hid hb6
  clear hb6 x0 x1 x2 y0 y1 y2
  have HP6 := Lib.hid (HP5.out.below PartE.stays HBE.out (by have := V5.out.h4; have := V5.out.h3; omega))
  clear hW5 HP5 HBE
  go_wp2_with fail
  refine (toPartS_any _ _ _ l _ (H.out.up PartE.stays V6.out.hb) HN.out).mono ?_; rintro e w7 ⟨g7, rfl, hg7, o7, hb7⟩
  have V7 := Lib.hid (V6.out.below hb7)
  have HP7 := Lib.hid (HP6.out.below PartE.stays hb7 (by have := V6.out.h4; have := V6.out.h3; omega))
  have hz7 := V7.out.h4; have hz7' := V7.out.h3
  clear hb7 V6 HP6
  go_wp2_with fail
  refine (eqPartS_any _ _ _ _ _ _ l l _ (lowParts HP7.out (by omega)) (lowParts o7 (Nat.le_refl _))).mono ?_; rintro e w8 ⟨rfl, hb8⟩
  have V8 := Lib.hid (V7.out.below hb8)
  rw [listEq_refl partEq_refl]
  clear hb8 o7 V7 HP7
  go_wp2_with fail
  refine (markPartS_own _ _ g4 n n 1 _ V8.out.R (Nat.le_trans V8.out.h3 (by have := V8.out.h4; omega)) (by omega)).mono ?_; rintro e w9 ⟨⟨k9, rfl, hk9, _⟩, hR9, hw9⟩
  have V9 := Lib.hid (V8.out.parts hw9 hR9)
  clear hR9 hw9 V8
  have hkn : ¬ (k9 : Int) < 0 := by omega
  obtain ⟨x0, x1, x2⟩ := V9.out.X3.cells
  obtain ⟨y0, y1, y2⟩ := V9.out.X5.cells
  go_wp2_with fail
  refine (eqRule_same r5 r3 _ V9.out.answer V9.out.model (HR5.out.trans HR3.out.symm)).mono ?_; rintro e w10 ⟨rfl, hb10⟩
  have V10 := Lib.hid (V9.out.below hb10)
  clear hb10 x0 x1 x2 y0 y1 y2
  clear V9
  obtain ⟨y0, y1, y2⟩ := V10.out.X5.cells
  go_wp2_with fail
  refine (markRule_any _ _ r5 1 _ V10.out.O (by have := V10.out.h4; omega) HMK.out).mono ?_; rintro e w11 ⟨rfl, hO11, hw11⟩
  have V11 := Lib.hid (V10.out.marked hw11 hO11)
  clear hO11 hw11 V10 y0 y1 y2
  obtain ⟨y0, y1, y2⟩ : w11.cell? ⟨w5.heap.size, 0, none⟩ = some (.string r5.1.1) ∧ w11.cell? ⟨w5.heap.size, 1, none⟩ = some (.slice r5.1.2.1 r5.1.2.2.1 r5.1.2.2.2.1) ∧ w11.cell? ⟨w5.heap.size, 2, none⟩ = some (.slice r5.2.1 r5.2.2.1 r5.2.2.2.1) := V11.out.X5.cells
  go_wp2_with fail
  refine (heldRule_any r5.1.1 _ _ _ _ _ _ 1 r5.2.2.2.2 _ (marked_rule V11.out.O (by have := V11.out.h4; omega)) HMK.out).mono ?_; rintro e w12 ⟨rfl, hb12⟩
  have V12 := Lib.hid (V11.out.below hb12)
  clear hb12 V11 y0 y1 y2
  have hmn : ¬ (((markPN (1 + 2 * r5.1.2.2.1) r5.2.2.2.2 : Nat) : Int) < 0) := by omega
  obtain ⟨mk, hmk⟩ : ∃ mk, markPN (1 + 2 * r5.1.2.2.1) r5.2.2.2.2 = mk := ⟨_, rfl⟩
  have hmk2 : markRrN 1 r5 = mk := hmk
  rw [hmk] at hmn ⊢
  rw [hmk2]
  have HMK2 := Lib.hid hmk
  clear hmk hmk2
  go_wp2_with fail
  refine (toPartS_any _ _ _ l _ (H.out.up PartE.stays V12.out.hb) HN.out).mono ?_; rintro e w13 ⟨g13, rfl, hg13, o13, hb13⟩
  have V13 := Lib.hid (V12.out.below hb13)
  clear hb13 V12
  go_wp2_with fail
  refine (implAskRule_any s _ _ _ l _ hs (lowParts o13 (Nat.le_refl _))).mono ?_; rintro e w14 ⟨r14, rfl, O14, hr14, hb14⟩
  unfold rrVal
  rw [HBO.out]
  have hbx := below1 w14 (.cells #[.string r14.1.1, .slice r14.1.2.1 r14.1.2.2.1 r14.1.2.2.2.1, .slice r14.2.1 r14.2.2.1 r14.2.2.2.1] 55)
  have HR14 := Lib.hid (hr14.trans HRL.out)
  have V14 := Lib.hid (V13.out.below (belowThen hb14 hbx))
  have X14' : rrBox (w14.alloc (.cells #[.string r14.1.1, .slice r14.1.2.1 r14.1.2.2.1 r14.1.2.2.2.1, .slice r14.2.1 r14.2.2.1 r14.2.2.2.1] 55)) w14.heap.size r14 := Blk.new w14 _ _
  have I14 := Lib.hid ((O14.is (Nat.le_refl _)).up hbx)
  have X14 := Lib.hid X14'
  clear O14 hb14 V13 o13 hr14 hbx X14'
  obtain ⟨W14, hW14⟩ : ∃ W14, w14.alloc (.cells #[.string r14.1.1, .slice r14.1.2.1 r14.1.2.2.1 r14.1.2.2.2.1, .slice r14.2.1 r14.2.2.1 r14.2.2.2.1] 55) = W14 := ⟨_, rfl⟩
  rw [hW14] at V14 X14 I14
  obtain ⟨x0, x1, x2⟩ := V14.out.X3.cells
  obtain ⟨y0, y1, y2⟩ := X14.out.cells
  go_wp2_with fail
  refine (eqRule_same r14 r3 _ I14.out V14.out.model (HR14.out.trans HR3.out.symm)).mono ?_; rintro e w15 ⟨rfl, hb15⟩
  have V15 := Lib.hid (V14.out.below hb15)
  clear hb15 V14 x0 x1 x2 y0 y1 y2 hW14 X14 I14
  obtain ⟨y0, y1, y2⟩ : w15.cell? ⟨w5.heap.size, 0, none⟩ = some (.string r5.1.1) ∧ w15.cell? ⟨w5.heap.size, 1, none⟩ = some (.slice r5.1.2.1 r5.1.2.2.1 r5.1.2.2.2.1) ∧ w15.cell? ⟨w5.heap.size, 2, none⟩ = some (.slice r5.2.1 r5.2.2.1 r5.2.2.2.1) := V15.out.X5.cells
  go_wp2_with fail
  refine (heldRule_any r5.1.1 _ _ _ _ _ _ 1 r5.2.2.2.2 _ (marked_rule V15.out.O (by have := V15.out.h4; omega)) HMK.out).mono ?_; rintro e w16 ⟨rfl, hb16⟩
  have V16 := Lib.hid (V15.out.below hb16)
  rw [HMK2.out]
  clear hb16 V15 y0 y1 y2
  go_wp2
  go_ret; exact ⟨rfl, V16.out.hb⟩

end Go.Proofs.Ytfghmphaldefbaa

