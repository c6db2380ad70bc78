/-
  Texts of one claim, put together.
-/
import Derived.Test.YtogonjkklioaaaaGreatDoorLg13
import Derived.Test.YtogonjkklioaaaaGreatDoorLg15
namespace Go.Proofs.YtogonjkklioaaaaGreatDoor
open Go.RowKit

theorem argOf_eq (s : ByteArray) : argOf s.data.toList = ((argOf s.data.toList).1, s) := by
  unfold argOf
  cases s; rfl

theorem arg_first {s : ByteArray} (h : 0 < s.size) : (argOf s.data.toList).1 = capital s[0] := by
  rw [first_rest s h]; rfl

theorem arg_none {s : ByteArray} (h : s.size = 0) : (argOf s.data.toList).1 = false := by
  have : s.data.toList = [] := List.eq_nil_of_length_eq_zero (by simpa using h)
  rw [this]; rfl

/-- Words as terms. -/
def wordTs (ls : List ByteArray) : List Tm := ls.map fun s => argOf s.data.toList

theorem wordTs_step {ls : List ByteArray} {k : Nat} {s : ByteArray} (h : ls[k]? = some s) : tcs (wordTs (ls.take (k + 1))) = tcs (wordTs (ls.take k)) ++ [.bool (argOf s.data.toList).1, .string s] := by
  unfold wordTs tcs
  rw [List.take_add_one, h, List.map_append, List.flatMap_append]
  show _ = _
  rw [show (Option.some s).toList = [s] from rfl, List.map_cons, List.map_nil, argOf_eq s]
  rfl

theorem wordTs_cuts (c : UInt8) (s : ByteArray) : wordTs (cutsB c s) = (cuts c s.data.toList).map argOf := by
  unfold wordTs cutsB
  rw [List.map_map]
  exact List.map_congr_left fun x _ => by simp

set_option maxHeartbeats 1000000 in
theorem l1Arg_any (s : ByteArray) (w : World) (hs : s.size ≤ maxLen) :
    Calls Tryz.prog 69 #[.string s] w fun e w' => e = .returned (.agg #[.bool (argOf s.data.toList).1, .string s]) ∧ Below w.heap.size w w' := by
  have hs' := hs
  unfold maxLen at hs'
  have X := Blk.new w 110 #[.bool false, .string ⟨#[]⟩]
  by_cases hp : 0 < s.size
  · have hlt : (0 : Int) < (s.size : Int) := by omega
    have E := Lib.hid (arg_first hp)
    go_enter Tryz.func69, Tryz.ntmps69
    go_wp2_with fail
    all_goals
      refine bodyPost_ret (v := .agg #[.bool (argOf s.data.toList).1, .string s]) ?_ rfl ⟨rfl, below1 _ _⟩
      rw [E.out]
      unfold capital
      simp_all [results, Tryz.results69, go_sem]
      try omega
  · have h0 : s.size = 0 := by omega
    have E := Lib.hid (arg_none h0)
    go_enter Tryz.func69, Tryz.ntmps69
    go_wp2_with fail
    refine bodyPost_ret (v := .agg #[.bool (argOf s.data.toList).1, .string s]) ?_ rfl ⟨rfl, below1 _ _⟩
    rw [E.out]
    simp [results, Tryz.results69, go_sem]

/-- No atom. -/
def noRf : Rf := (⟨#[]⟩, none, 0, 0, [])
theorem noRf_apart {w : World} {lo hi : Nat} : HeadApart w lo hi noRf := ⟨Nat.zero_le _, ⟨rfl, Nat.le_refl _, Nat.zero_le _, fun h0 => absurd h0 (Nat.lt_irrefl _)⟩, fun h0 => absurd h0 (Nat.lt_irrefl _)⟩

/-- An atom as it is handed on. -/
def rfVal (r : Rf) : Value := .agg #[.string r.1, .slice r.2.1 r.2.2.1 r.2.2.2.1]

/-- An atom was told that is read of a text, in memory of the call's own; or that there is none. -/
def GetPost (l : List UInt8) (w : World) (e : Ending) (w' : World) : Prop :=
  ∃ r : Rf, e = .returned (.tuple #[rfVal r, .bool (getB l).isSome]) ∧ HeadApart w' w.heap.size w'.heap.size r ∧ rAt r = (getB l).getD (⟨#[]⟩, []) ∧ Below w.heap.size w w'

theorem head_row {w : World} {base n : Nat} {v : Value} {s : ByteArray} {ts : List Tm} (h : w.ownsRow base 110 2 v n (tcs ts)) (hn : ts.length = n) (hs : ∀ t ∈ ts, t.2.size ≤ maxLen) (hz : s.size ≤ maxLen) :
    ∃ A c, v = .slice A n c ∧ HeadApart w base w.heap.size (s, A, n, c, ts) := by
  have h' := h
  rcases h.2 with ⟨rfl, h0⟩ | ⟨g, cap, cur, rfl, _⟩
  · subst h0
    exact ⟨none, 0, rfl, hz, ⟨hn, Nat.le_refl _, Nat.zero_le _, fun hp => absurd hp (Nat.lt_irrefl _)⟩, fun hp => absurd hp (Nat.lt_irrefl _)⟩
  · obtain ⟨a, b⟩ := own_terms h' hn hs (Nat.le_refl _)
    exact ⟨_, cap, rfl, hz, a, fun _ => b⟩

theorem cutsB_size {c : UInt8} {s x : ByteArray} (h : x ∈ cutsB c s) : x.size ≤ s.size := by
  unfold cutsB at h
  obtain ⟨l, hl, rfl⟩ := List.mem_map.1 h
  have := cuts_size hl
  have e : (⟨l.toArray⟩ : ByteArray).size = l.length := by simp [ByteArray.size]
  rw [e]; simpa using this

theorem cutsB_data (c : UInt8) (s : ByteArray) : (cutsB c s).map (fun x => x.data.toList) = cuts c s.data.toList := by
  unfold cutsB
  rw [List.map_map]
  conv => rhs; rw [← List.map_id (cuts c s.data.toList)]
  exact List.map_congr_left fun x _ => by simp

theorem two_of {α : Type} {l : List α} (h : l.length = 2) : ∃ a b, l = [a, b] := by
  match l, h with
  | [a, b], _ => exact ⟨a, b, rfl⟩

theorem nil_of {s : ByteArray} (h : s.size = 0) : s.data.toList = [] := List.eq_nil_of_length_eq_zero (by simpa using h)
theorem size_nil {s : ByteArray} (h : s.data.toList = []) : s.size = 0 := by
  have : s.data.toList.length = s.size := by simp
  rw [← this, h]; rfl
theorem toList_data (s : ByteArray) : s.toList = s.data.toList := by rw [ByteArray.toList_eq]
theorem empty_of {s : ByteArray} (h : s.size = 0) : s.toList.isEmpty = true := by rw [toList_data, nil_of h]; rfl
theorem nonempty_of {s : ByteArray} (h : ¬ s.size = 0) : s.toList.isEmpty = false := by
  rw [toList_data]
  cases hl : s.data.toList with
  | nil => exact absurd (size_nil hl) h
  | cons b r => rfl

/-- The terms that the model reads, of what stands between the signs. -/
theorem spec_terms {p0 p1 inner : ByteArray} {q : Nat} (h : p1.extract 0 q = inner) (hq : p1.size = q + 1) : (specA p0.data.toList p1.data.toList).2 = termsOf inner.data.toList := by
  unfold specA
  rw [← h, Lib.extract_data]
  have e : p1.data.toList.length = p1.size := by simp
  rw [e, hq]
  simp

theorem spec_at {p0 p1 : ByteArray} : specA p0.data.toList p1.data.toList = (p0, (specA p0.data.toList p1.data.toList).2) := by
  unfold specA
  cases p0; rfl

/-- Two texts in a row. -/
theorem two_texts {w : World} {lo hi d : Nat} {p : Addr} {a b : ByteArray} (h : IsTexts w lo hi (some p) 2 d [a, b]) : w.cell? p = some (.string a) ∧ w.cell? ⟨p.block, p.off + 1, none⟩ = some (.string b) := by
  obtain ⟨h1, h2, h3, h4⟩ := h
  obtain ⟨q, hq, _, _, he⟩ := h4 (by omega)
  injection hq with hq
  subst hq
  have e0 := he 0 a rfl
  have e1 := he 1 b rfl
  unfold TextE at e0 e1
  unfold Addr.add at e0 e1
  exact ⟨by simpa using e0, by simpa using e1⟩

set_option maxRecDepth 100000 in
set_option maxHeartbeats 4000000 in
theorem specAtomGet_any (s : ByteArray) (w : World) (hs : s.size ≤ 1048576) :
    Calls Tryz.prog 40 #[.string s] w (GetPost s.data.toList w) := by
  obtain ⟨i0, hi, hz, hsz, hby⟩ := info_parts Tryz.infoTerm
  have hsl : s.data.toList.length = s.size := by simp
  have hb0 := below1 w (.cells #[.string ⟨#[]⟩, .slice none 0 0] 51)
  have X0 := Blk.new w 51 #[.string ⟨#[]⟩, .slice none 0 0]
  obtain ⟨W0, hW0⟩ : ∃ W0, w.alloc (.cells #[.string ⟨#[]⟩, .slice none 0 0] 51) = W0 := ⟨_, rfl⟩
  rw [hW0] at hb0 X0
  have hz0 : W0.heap.size = w.heap.size + 1 := by rw [← hW0]; simp
  have HX0 := Lib.hid X0; have HB0 := Lib.hid hb0
  clear X0 hb0
  obtain ⟨ps, hps⟩ : ∃ ps, cutsB 40 s = ps := ⟨_, rfl⟩
  have hpl : (cuts 40 s.data.toList).length = ps.length := by rw [← hps]; unfold cutsB; simp
  go_enter Tryz.func40, Tryz.ntmps40
  go_wp2_with fail
  refine (l1Cut_any s 40 W0 hs).mono ?_; rintro e w1 ⟨p, d, rfl, hT1, hb1⟩
  rw [hps] at hT1 ⊢
  have HT1 := Lib.hid hT1
  have HX1 := Lib.hid (HX0.out.below hb1); have HB1 := Lib.hid (belowThen HB0.out hb1)
  have hz1 := hb1.size
  have hxl := HX1.out.lt
  have r0 := HX1.out.cell 0; have r1 := HX1.out.cell 1
  have f0 := HX1.out.frozen 0; have f1 := HX1.out.frozen 1
  clear hb1 hT1
  by_cases h2 : ps.length = 2
  · obtain ⟨p0, p1, hpp⟩ := two_of h2
    subst hpp
    have hcut : cuts 40 s.data.toList = [p0.data.toList, p1.data.toList] := by rw [← cutsB_data, hps]; rfl
    have HC := Lib.hid hcut
    have hs0 : p0.size ≤ s.size := cutsB_size (c := 40) (by rw [hps]; simp)
    have hs1 : p1.size ≤ s.size := cutsB_size (c := 40) (by rw [hps]; simp)
    obtain ⟨c0, c1⟩ := two_texts HT1.out
    have hp2 : (((2 : Nat) : Int) == 2) = true := rfl
    clear hcut hps hpl h2
    by_cases hlen : s.size ≤ 1500
    · have hlenI : ¬ (1500 < (s.size : Int)) := by omega
      by_cases h1 : p1.size = 0
      · have hpe : ((p1.size : Int) == 0) = true := by rw [beq_iff_eq]; omega
        have E := Lib.hid (spec_empty (l := s.data.toList) (p0 := p0.data.toList) (by rw [HC.out, show p1.data.toList = [] from List.eq_nil_of_length_eq_zero (by simpa using h1)]))
        go_wp2_with fail
        have Z := (HX1.out.set 0 (.string ⟨#[]⟩)).set 1 (.slice none 0 0)
        have z0 := Z.cell 0; have z1 := Z.cell 1
        refine bodyPost_ret (v := .tuple #[rfVal noRf, .bool false]) (by simp [results, Tryz.results40, go_sem, r0, r1, rfVal, noRf]) rfl ⟨noRf, by rw [E.out]; rfl, noRf_apart, by rw [E.out]; rfl, (HB1.out.setCell (by simp) _).setCell (by simp) _⟩
      · have hpe : ((p1.size : Int) == 0) = false := by rw [beq_eq_false_iff_ne]; omega
        have hp1z : p1.size ≤ maxLen := by unfold maxLen; omega
        have hp0z : p0.size ≤ maxLen := by unfold maxLen; omega
        have hYA := below1 w1 (.cells #[.string p0, .slice none 0 0] 51)
        have Y2 := Lib.hid (Blk.new w1 51 #[.string p0, .slice none 0 0])
        have X2 := Lib.hid (HX1.out.below hYA)
        have HB2 := Lib.hid (belowThen HB1.out hYA)
        clear r0 r1 f0 f1 hYA
        have cu1 := cellUp c1
        have cu0 := cellUp c0
        obtain ⟨q, hq⟩ : ∃ q, p1.size = q + 1 := ⟨p1.size - 1, by omega⟩
        have hwq : IntKind.i64.wrap ((p1.size : Int) - 1) = (q : Int) := by rw [IntKind.wrap_i64]; omega
        have hq1 : (q : Int) ≤ (p1.size : Int) := by omega
        have hq2 : q ≤ p1.size := by omega
        have HQ := Lib.hid hq; clear hq
        go_wp2_with fail
        go_region_with fail
        all_goals
          have hil : (p1.extract 0 q).size = q := by rw [ByteArray.size_extract]; omega
          obtain ⟨inner, hinn⟩ : ∃ x, p1.extract 0 q = x := ⟨_, rfl⟩
          obtain ⟨ws, hws⟩ : ∃ x, cutsB 44 inner = x := ⟨_, rfl⟩
          rw [hinn] at hil
          have hwl : ws.length ≤ inner.size + 1 := by rw [← hws]; exact cutsB_len 44 inner
          have hw0 : 0 < ws.length := by rw [← hws]; unfold cutsB cuts; simp
          have hwz : ∀ x ∈ ws, x.size ≤ 1500 := fun x hx => Nat.le_trans (cutsB_size (c := 44) (s := inner) (by rw [hws]; exact hx)) (by omega)
          have HIN := Lib.hid hinn; have HWS := Lib.hid hws; have HWZ := Lib.hid hwz
          clear hinn hws hwz
          go_wp2_with fail
          rw [HIN.out]
          refine (l1Cut_any inner 44 _ (by omega)).mono ?_; rintro e w2 ⟨q2, d2, rfl, hT2, hb2'⟩
          rw [HWS.out] at hT2 ⊢
          have hb2 := undrew hb2'
          have HT2 := Lib.hid hT2
          have X3 := Lib.hid (X2.out.below hb2); have Y3 := Lib.hid (Y2.out.below hb2); have HB3 := Lib.hid (belowThen HB2.out hb2)
          have hz3 : w1.heap.size + 1 ≤ w2.heap.size := by have := hb2.size; simp at this; exact this
          clear hb2 hb2' hT2 cu0 cu1 c0 c1
          go_wp2_with fail
          go_loopw [8] (fun i wr => ∃ (k : Nat) (v : Value), k ≤ ws.length ∧ (inner.size = 0 → k = 0) ∧ i = .int .i64 (k : Int) ∧ Blk wr w1.heap.size 51 #[.string p0, v] ∧ Blk wr w.heap.size 51 #[.string ⟨#[]⟩, .slice none 0 0] ∧ wr.ownsRow w2.heap.size 110 2 v k (tcs (wordTs (ws.take k))) ∧ IsTexts wr (w1.heap.size + 1) w2.heap.size (some q2) ws.length d2 ws ∧ Below w.heap.size w wr ∧ w2.heap.size ≤ wr.heap.size) (fun i _ => ws.length - (intOf i).toNat)
          case atStart => exact ⟨0, _, Nat.zero_le _, fun _ => rfl, rfl, Y3.out, X3.out, ⟨rfl, .inl ⟨rfl, rfl⟩⟩, HT2.out.keep TextE.stays (fun _ _ _ => rfl) (by simp [World.drew]) (Nat.le_refl _), HB3.out, Nat.le_refl _⟩
          case round =>
            obtain ⟨k, v, hk, hk0, rfl, hY, hX, hrow, hT, hb, hwz2⟩ := hrel
            obtain ⟨Av, cv, rfl⟩ : ∃ Av cv, v = .slice Av k cv := by
              rcases hrow.2 with ⟨e1, e2⟩ | ⟨g, cap, cur, e1, _⟩
              · exact ⟨none, 0, by rw [e1, e2]⟩
              · exact ⟨_, cap, e1⟩
            have HY := Lib.hid hY; have HX := Lib.hid hX; have HR := Lib.hid hrow; have HT3 := Lib.hid hT; have HB := Lib.hid hb
            clear hY hX hrow hT hb
            have y0 := HY.out.cell 0
            have y1 := HY.out.cell 1
            by_cases hlt : k < ws.length
            · have hltI : (k : Int) < (ws.length : Int) := by omega
              by_cases hie : inner.size = 0
              · have hk00 := hk0 hie
                subst hk00
                have hie2 : (!inner.toList.isEmpty) = false := by rw [empty_of hie]; rfl
                have hH : HeadApart wr w2.heap.size wr.heap.size (p0, Av, 0, cv, (specA p0.data.toList p1.data.toList).2) := by
                  have e0 : (specA p0.data.toList p1.data.toList).2 = [] := by rw [spec_terms HIN.out HQ.out]; unfold termsOf; rw [if_pos (nil_of hie)]
                  rw [e0]
                  obtain ⟨A9, c9, e9, h9⟩ := head_row (s := p0) HR.out (by simp [wordTs]) (fun t ht => by simp [wordTs] at ht) hp0z
                  injection e9 with e9 _ e10
                  subst e9; subst e10
                  exact h9
                have HH := Lib.hid hH
                clear hH
                go_wp2_with fail
                refine (specAtomPut_any p0 Av 0 cv (specA p0.data.toList p1.data.toList).2 wr hp0z (HH.out.2.1.keep (fun _ _ _ => rfl) (Nat.zero_le _) (Nat.le_refl _))).mono ?_; rintro e w7 ⟨rfl, hb7⟩
                have X7 := Lib.hid (HX.out.below hb7); have Y7 := Lib.hid (HY.out.below hb7); have HB7 := Lib.hid (belowThen HB.out hb7)
                have HH7 := Lib.hid (HH.out.keep (w' := w7) (lo' := w2.heap.size) (hi' := w7.heap.size) (fun b _ h2 => hb7.block b h2) (Nat.le_refl _) hb7.size)
                have r0 := X7.out.cell 0; have r1 := X7.out.cell 1
                have f0 := X7.out.frozen 0; have f1 := X7.out.frozen 1
                have a0 := Y7.out.cell 0; have a1 := Y7.out.cell 1
                have x7l := X7.out.lt
                clear hb7
                by_cases hput : putB (p0, (specA p0.data.toList p1.data.toList).2) = s.data.toList
                · have E := Lib.hid (spec_yes HC.out (by omega) (fun e => h1 (size_nil e)) (by rw [spec_at]; exact hput))
                  have hpb : (putB (p0, (specA p0.data.toList p1.data.toList).2) == s.toList) = true := by rw [toList_data, hput]; exact beq_self_eq_true _
                  clear hput
                  go_wp2_with fail
                  have Z := (X7.out.set 0 (.string p0)).set 1 (.slice Av 0 cv)
                  have z0 := Z.cell 0; have z1 := Z.cell 1
                  refine bodyPost_ret (v := .tuple #[rfVal (p0, Av, 0, cv, (specA p0.data.toList p1.data.toList).2), .bool true]) (by simp [results, Tryz.results40, go_sem, r0, r1, rfVal]) rfl ⟨(p0, Av, 0, cv, (specA p0.data.toList p1.data.toList).2), by rw [E.out]; rfl, ?_, by rw [E.out]; exact spec_at.symm, (HB7.out.setCell (by simp) _).setCell (by simp) _⟩
                  exact HH7.out.keep (fun b h1 h2 => (Below.heap_setCell _ _ _ _ (by simp; omega)).trans (Below.heap_setCell _ _ _ _ (by simp; omega))) (by omega) (by simp)
                · have E := Lib.hid (spec_no (l := s.data.toList) HC.out (by rw [spec_at]; exact hput))
                  have hpb : (putB (p0, (specA p0.data.toList p1.data.toList).2) == s.toList) = false := by rw [toList_data, beq_eq_false_iff_ne]; exact hput
                  clear hput
                  go_wp2_with fail
                  have Z := (X7.out.set 0 (.string ⟨#[]⟩)).set 1 (.slice none 0 0)
                  have z0 := Z.cell 0; have z1 := Z.cell 1
                  refine bodyPost_ret (v := .tuple #[rfVal noRf, .bool false]) (by simp [results, Tryz.results40, go_sem, r0, r1, rfVal, noRf]) rfl ⟨noRf, by rw [E.out]; rfl, noRf_apart, by rw [E.out]; rfl, (HB7.out.setCell (by simp) _).setCell (by simp) _⟩
              · have hie2 : (!inner.toList.isEmpty) = true := by rw [nonempty_of hie]; rfl
                obtain ⟨q', s5, hq', hlo, hhi, hg, hE⟩ := HT3.out.at_ hlt
                injection hq' with hq'
                subst hq'
                have c5 : wr.cell? (q2.add k) = some (.string s5) := by have := hE; unfold TextE at this; rwa [Nat.mul_one] at this
                have hs5 : s5.size ≤ maxLen := Nat.le_trans (HWZ.out s5 (List.mem_of_getElem? hg)) (by decide)
                have HG := Lib.hid hg; clear hg hE
                have hlo2 : ∀ g, (Value.slice Av k cv).ownBlock = some g → w2.heap.size ≤ g := fun g hg => (HR.out.lt g hg).1
                have hyl := HY.out.lt
                go_wp2_with fail
                go_region_law (first
                  | (refine step_append_lies _ (by rfl) _ _ _ (by rfl) w2.heap.size 110 i0 _ 2 24 Tryz.underlying49 hi hz hsz hby rfl (by omega) (.slice Av k cv) k (tcs (wordTs (ws.take k))) (by rfl) (HR4.out.alloc _) ⟨w4.heap.size, 0, none⟩ 1 1 [.bool (argOf s5.data.toList).1, .string s5] (by rfl) (by rfl) (World.news_of_block (cs := #[.bool (argOf s5.data.toList).1, .string s5]) (t := 110) (fr := (0, 0)) (heap_alloc_new w4 _)) (by simp [Value.oneCell']) (by omega) (by unfold maxLen; omega) (by omega) (by simp; omega) (w4.heap.size + 1) (by simp) ?_; intro gg cap w6 hown6 hgrow hat hlt6; have Y6 := (Y4.out.alloc (.cells #[.bool (argOf s5.data.toList).1, .string s5] 110)).kept hgrow (fun e => (by have := hlo2 _ e.symm; omega)); have z3 : w6.cell? ⟨w1.heap.size, 1, none⟩ = some (.slice Av k cv) := Y6.cell 1; have z5 := Y6.frozen 1)
                  | ((go_simp; go_at_call 69; refine (l1Arg_any s5 _ hs5).mono ?_); rintro e w4 ⟨rfl, hb4'⟩; have hb4 : Below wr.heap.size wr w4 := undrew hb4'; clear hb4'; have Y4 := Lib.hid (HY.out.below hb4); have yy3 := Y4.out.cell 1; have cu3 := cellUp (show w4.cell? ⟨w1.heap.size, 1, none⟩ = some (.slice Av k cv) from yy3); have HR4 := Lib.hid (ownsRow_up HR.out hb4); have hs4 := hb4.size))
                all_goals
                  have hgg := (hown6.lt gg rfl).1
                  have hgs : wr.heap.size + 1 ≤ w6.heap.size := by have := hgrow.size; simp at this; omega
                  have X6 := ((HX.out.below hb4).alloc (.cells #[.bool (argOf s5.data.toList).1, .string s5] 110)).kept (W' := w6) hgrow (fun e => by have := hlo2 _ e.symm; omega)
                  have hset := grownSet w6 w1.heap.size 1 (.slice (some ⟨gg, 0, none⟩) (k + 1) cap)
                  have A1 := Lib.hid (show Blk (w6.setCell ⟨w1.heap.size, 1, none⟩ (.slice (some ⟨gg, 0, none⟩) (k + 1) cap)) w1.heap.size 51 #[.string p0, .slice (some ⟨gg, 0, none⟩) (k + 1) cap] from Y6.set 1 _)
                  have A2 := Lib.hid (X6.far (p := ⟨w1.heap.size, 1, none⟩) (by simp; omega) (.slice (some ⟨gg, 0, none⟩) (k + 1) cap))
                  have A3 : Hid ((w6.setCell ⟨w1.heap.size, 1, none⟩ (.slice (some ⟨gg, 0, none⟩) (k + 1) cap)).ownsRow w2.heap.size 110 2 (.slice (some ⟨gg, 0, none⟩) (k + 1) cap) (k + 1) (tcs (wordTs (ws.take (k + 1))))) := Lib.hid (by rw [wordTs_step HG.out]; exact row_away hown6 (fun e => by simp [Value.ownBlock] at e; omega) _)
                  have hlow : ∀ b, b < w2.heap.size → b ≠ w1.heap.size → (w6.setCell ⟨w1.heap.size, 1, none⟩ (.slice (some ⟨gg, 0, none⟩) (k + 1) cap)).heap[b]? = wr.heap[b]? := by
                    intro b hb1 hb2
                    have e1 := Below.heap_setCell w6 ⟨w1.heap.size, 1, none⟩ (.slice (some ⟨gg, 0, none⟩) (k + 1) cap) b (by simpa using hb2)
                    have e2 := hgrow.block b (by simp; omega) (fun e => by have := hlo2 _ e.symm; omega)
                    have e3 := (below1 w4 (.cells #[.bool (argOf s5.data.toList).1, .string s5] 110)).block b (by omega)
                    have e4 := hb4.block b (by omega)
                    exact e1.trans (e2.trans (e3.trans e4))
                  have A4 := Lib.hid (HT3.out.keep (w' := w6.setCell ⟨w1.heap.size, 1, none⟩ (.slice (some ⟨gg, 0, none⟩) (k + 1) cap)) TextE.stays (fun q h1 h2 => World.cell?_of_block (hlow q.block h2 (by omega))) (Nat.le_refl _) (Nat.le_refl _))
                  have A5 := Lib.hid (((belowThen HB.out hb4).alloc (belowThen HB.out hb4).size (.cells #[.bool (argOf s5.data.toList).1, .string s5] 110)).grown hgrow (by have := (belowThen HB.out hb4).size; simp; omega) (fun g hg => by have := hlo2 g hg; omega) |>.setCell (p := ⟨w1.heap.size, 1, none⟩) (by simp; omega) (.slice (some ⟨gg, 0, none⟩) (k + 1) cap))
                  have A6 : w2.heap.size ≤ (w6.setCell ⟨w1.heap.size, 1, none⟩ (.slice (some ⟨gg, 0, none⟩) (k + 1) cap)).heap.size := by rw [size_setCell]; omega
                  clear hown6 hgrow hat Y6 z3 z5 X6 hset hb4 Y4 yy3 cu3 HR4 hlow
                  go_wp2
                  go_roundw
                  case rel => exact ⟨k + 1, _, by omega, fun e => absurd e hie, by go_num, A1.out, A2.out, A3.out, A4.out, A5.out, A6⟩
                  case measure => simp [intOf]; omega
            · have hltI : ¬ (k : Int) < (ws.length : Int) := by omega
              have hkw : k = ws.length := by omega
              have hie : ¬ inner.size = 0 := fun e => by have := hk0 e; omega
              have hH : HeadApart wr w2.heap.size wr.heap.size (p0, Av, k, cv, (specA p0.data.toList p1.data.toList).2) := by
                have e0 : (specA p0.data.toList p1.data.toList).2 = wordTs ws := by rw [spec_terms HIN.out HQ.out]; unfold termsOf; rw [if_neg (fun e => hie (size_nil e)), ← HWS.out, wordTs_cuts]
                rw [e0]
                have hr := HR.out
                rw [List.take_of_length_le (by omega)] at hr
                obtain ⟨A9, c9, e9, h9⟩ := head_row (s := p0) hr (by unfold wordTs; rw [List.length_map]; omega) (fun t ht => by
                  unfold wordTs at ht
                  obtain ⟨x, hx, rfl⟩ := List.mem_map.1 ht
                  rw [argOf_eq]
                  exact Nat.le_trans (HWZ.out x hx) (by decide)) hp0z
                injection e9 with e9 _ e10
                subst e9; subst e10
                exact h9
              clear hkw
              have HH := Lib.hid hH
              clear hH
              go_wp2_with fail
              refine (specAtomPut_any p0 Av k cv (specA p0.data.toList p1.data.toList).2 wr hp0z (HH.out.2.1.keep (fun _ _ _ => rfl) (Nat.zero_le _) (Nat.le_refl _))).mono ?_; rintro e w7 ⟨rfl, hb7⟩
              have X7 := Lib.hid (HX.out.below hb7); have Y7 := Lib.hid (HY.out.below hb7); have HB7 := Lib.hid (belowThen HB.out hb7)
              have HH7 := Lib.hid (HH.out.keep (w' := w7) (lo' := w2.heap.size) (hi' := w7.heap.size) (fun b _ h2 => hb7.block b h2) (Nat.le_refl _) hb7.size)
              have r0 := X7.out.cell 0; have r1 := X7.out.cell 1
              have f0 := X7.out.frozen 0; have f1 := X7.out.frozen 1
              have a0 := Y7.out.cell 0; have a1 := Y7.out.cell 1
              have x7l := X7.out.lt
              clear hb7
              by_cases hput : putB (p0, (specA p0.data.toList p1.data.toList).2) = s.data.toList
              · have E := Lib.hid (spec_yes HC.out (by omega) (fun e => h1 (size_nil e)) (by rw [spec_at]; exact hput))
                have hpb : (putB (p0, (specA p0.data.toList p1.data.toList).2) == s.toList) = true := by rw [toList_data, hput]; exact beq_self_eq_true _
                clear hput
                go_wp2_with fail
                have Z := (X7.out.set 0 (.string p0)).set 1 (.slice Av k cv)
                have z0 := Z.cell 0; have z1 := Z.cell 1
                refine bodyPost_ret (v := .tuple #[rfVal (p0, Av, k, cv, (specA p0.data.toList p1.data.toList).2), .bool true]) (by simp [results, Tryz.results40, go_sem, r0, r1, rfVal]) rfl ⟨(p0, Av, k, cv, (specA p0.data.toList p1.data.toList).2), by rw [E.out]; rfl, ?_, by rw [E.out]; exact spec_at.symm, (HB7.out.setCell (by simp) _).setCell (by simp) _⟩
                exact HH7.out.keep (fun b h1 h2 => (Below.heap_setCell _ _ _ _ (by simp; omega)).trans (Below.heap_setCell _ _ _ _ (by simp; omega))) (by omega) (by simp)
              · have E := Lib.hid (spec_no (l := s.data.toList) HC.out (by rw [spec_at]; exact hput))
                have hpb : (putB (p0, (specA p0.data.toList p1.data.toList).2) == s.toList) = false := by rw [toList_data, beq_eq_false_iff_ne]; exact hput
                clear hput
                go_wp2_with fail
                have Z := (X7.out.set 0 (.string ⟨#[]⟩)).set 1 (.slice none 0 0)
                have z0 := Z.cell 0; have z1 := Z.cell 1
                refine bodyPost_ret (v := .tuple #[rfVal noRf, .bool false]) (by simp [results, Tryz.results40, go_sem, r0, r1, rfVal, noRf]) rfl ⟨noRf, by rw [E.out]; rfl, noRf_apart, by rw [E.out]; rfl, (HB7.out.setCell (by simp) _).setCell (by simp) _⟩
    · have hlenI : 1500 < (s.size : Int) := by omega
      have E := Lib.hid (getB_long (l := s.data.toList) (by omega))
      go_wp2_with fail
      have Z := (HX1.out.set 0 (.string ⟨#[]⟩)).set 1 (.slice none 0 0)
      have z0 := Z.cell 0; have z1 := Z.cell 1
      refine bodyPost_ret (v := .tuple #[rfVal noRf, .bool false]) (by simp [results, Tryz.results40, go_sem, r0, r1, rfVal, noRf]) rfl ⟨noRf, by rw [E.out]; rfl, noRf_apart, by rw [E.out]; rfl, (HB1.out.setCell (by simp) _).setCell (by simp) _⟩
  · have hp2 : ((ps.length : Int) == 2) = false := by rw [beq_eq_false_iff_ne]; omega
    have E := Lib.hid (spec_count (l := s.data.toList) (by rw [hpl]; exact h2))
    go_wp2
    have Z := (HX1.out.set 0 (.string ⟨#[]⟩)).set 1 (.slice none 0 0)
    have z0 := Z.cell 0; have z1 := Z.cell 1
    refine bodyPost_ret (v := .tuple #[rfVal noRf, .bool false]) (by simp [results, Tryz.results40, go_sem, r0, r1, rfVal, noRf]) rfl ⟨noRf, by rw [E.out]; rfl, noRf_apart, by rw [E.out]; rfl, (HB1.out.setCell (by simp) _).setCell (by simp) _⟩

end Go.Proofs.YtogonjkklioaaaaGreatDoor
