/-
  Texts of one claim, put together.
-/
import Derived.Test.YtogonjkklioaaaaGreatDoorCt16
import Derived.Test.YtogonjkklioaaaaGreatDoorCt18
import Derived.Test.YtogonjkklioaaaaGreatDoorCt7
import Derived.Test.YtogonjkklioaaaaGreatDoorCt11
import Derived.Test.YtogonjkklioaaaaGreatDoorCt14
namespace Go.Proofs.YtogonjkklioaaaaGreatDoor
open Go.RowKit

theorem argOf_eq (s : ByteArray) : argOf s.data.toList = ((argOf s.data.toList).1, s) := by
  unfold argOf
  cases s; rfl

theorem arg_first {s : ByteArray} (h : 0 < s.size) : (argOf s.data.toList).1 = capital s[0] := by
  rw [first_rest s h]; rfl

theorem arg_none {s : ByteArray} (h : s.size = 0) : (argOf s.data.toList).1 = false := by
  have : s.data.toList = [] := List.eq_nil_of_length_eq_zero (by simpa using h)
  rw [this]; rfl

/-- Words as terms. -/
def wordTs (ls : List ByteArray) : List Tm := ls.map fun s => argOf s.data.toList

theorem wordTs_step {ls : List ByteArray} {k : Nat} {s : ByteArray} (h : ls[k]? = some s) : tcs (wordTs (ls.take (k + 1))) = tcs (wordTs (ls.take k)) ++ [.bool (argOf s.data.toList).1, .string s] := by
  unfold wordTs tcs
  rw [List.take_add_one, h, List.map_append, List.flatMap_append]
  show _ = _
  rw [show (Option.some s).toList = [s] from rfl, List.map_cons, List.map_nil, argOf_eq s]
  rfl

theorem wordTs_cuts (c : UInt8) (s : ByteArray) : wordTs (cutsB c s) = (cuts c s.data.toList).map argOf := by
  unfold wordTs cutsB
  rw [List.map_map]
  exact List.map_congr_left fun x _ => by simp

set_option maxHeartbeats 1000000 in
theorem l1Arg_any (s : ByteArray) (w : World) (hs : s.size ≤ maxLen) :
    Calls Tryz.prog 69 #[.string s] w fun e w' => e = .returned (.agg #[.bool (argOf s.data.toList).1, .string s]) ∧ Below w.heap.size w w' := by
  have hs' := hs
  unfold maxLen at hs'
  have X := Blk.new w 110 #[.bool false, .string ⟨#[]⟩]
  by_cases hp : 0 < s.size
  · have hlt : (0 : Int) < (s.size : Int) := by omega
    have E := Lib.hid (arg_first hp)
    go_enter Tryz.func69, Tryz.ntmps69
    go_wp2_with fail
    all_goals
      refine bodyPost_ret (v := .agg #[.bool (argOf s.data.toList).1, .string s]) ?_ rfl ⟨rfl, below1 _ _⟩
      rw [E.out]
      unfold capital
      simp_all [results, Tryz.results69, go_sem]
      try omega
  · have h0 : s.size = 0 := by omega
    have E := Lib.hid (arg_none h0)
    go_enter Tryz.func69, Tryz.ntmps69
    go_wp2_with fail
    refine bodyPost_ret (v := .agg #[.bool (argOf s.data.toList).1, .string s]) ?_ rfl ⟨rfl, below1 _ _⟩
    rw [E.out]
    simp [results, Tryz.results69, go_sem]

/-- No atom. -/
def noRf : Rf := (⟨#[]⟩, none, 0, 0, [])
theorem noRf_apart {w : World} {lo hi : Nat} : HeadApart w lo hi noRf := ⟨Nat.zero_le _, ⟨rfl, Nat.le_refl _, Nat.zero_le _, fun h0 => absurd h0 (Nat.lt_irrefl _)⟩, fun h0 => absurd h0 (Nat.lt_irrefl _)⟩

/-- An atom as it is handed on. -/
def rfVal (r : Rf) : Value := .agg #[.string r.1, .slice r.2.1 r.2.2.1 r.2.2.2.1]

/-- An atom was told that is read of a text, in memory of the call's own; or that there is none. -/
def GetPost (l : List UInt8) (w : World) (e : Ending) (w' : World) : Prop :=
  ∃ r : Rf, e = .returned (.tuple #[rfVal r, .bool (getB l).isSome]) ∧ HeadApart w' w.heap.size w'.heap.size r ∧ rAt r = (getB l).getD (⟨#[]⟩, []) ∧ Below w.heap.size w w'

theorem head_row {w : World} {base n : Nat} {v : Value} {s : ByteArray} {ts : List Tm} (h : w.ownsRow base 110 2 v n (tcs ts)) (hn : ts.length = n) (hs : ∀ t ∈ ts, t.2.size ≤ maxLen) (hz : s.size ≤ maxLen) :
    ∃ A c, v = .slice A n c ∧ HeadApart w base w.heap.size (s, A, n, c, ts) := by
  have h' := h
  rcases h.2 with ⟨rfl, h0⟩ | ⟨g, cap, cur, rfl, _⟩
  · subst h0
    exact ⟨none, 0, rfl, hz, ⟨hn, Nat.le_refl _, Nat.zero_le _, fun hp => absurd hp (Nat.lt_irrefl _)⟩, fun hp => absurd hp (Nat.lt_irrefl _)⟩
  · obtain ⟨a, b⟩ := own_terms h' hn hs (Nat.le_refl _)
    exact ⟨_, cap, rfl, hz, a, fun _ => b⟩

theorem cutsB_size {c : UInt8} {s x : ByteArray} (h : x ∈ cutsB c s) : x.size ≤ s.size := by
  unfold cutsB at h
  obtain ⟨l, hl, rfl⟩ := List.mem_map.1 h
  have := cuts_size hl
  have e : (⟨l.toArray⟩ : ByteArray).size = l.length := by simp [ByteArray.size]
  rw [e]; simpa using this

theorem cutsB_data (c : UInt8) (s : ByteArray) : (cutsB c s).map (fun x => x.data.toList) = cuts c s.data.toList := by
  unfold cutsB
  rw [List.map_map]
  conv => rhs; rw [← List.map_id (cuts c s.data.toList)]
  exact List.map_congr_left fun x _ => by simp

theorem two_of {α : Type} {l : List α} (h : l.length = 2) : ∃ a b, l = [a, b] := by
  match l, h with
  | [a, b], _ => exact ⟨a, b, rfl⟩

theorem nil_of {s : ByteArray} (h : s.size = 0) : s.data.toList = [] := List.eq_nil_of_length_eq_zero (by simpa using h)
theorem size_nil {s : ByteArray} (h : s.data.toList = []) : s.size = 0 := by
  have : s.data.toList.length = s.size := by simp
  rw [← this, h]; rfl
theorem toList_data (s : ByteArray) : s.toList = s.data.toList := by rw [ByteArray.toList_eq]
theorem empty_of {s : ByteArray} (h : s.size = 0) : s.toList.isEmpty = true := by rw [toList_data, nil_of h]; rfl
theorem nonempty_of {s : ByteArray} (h : ¬ s.size = 0) : s.toList.isEmpty = false := by
  rw [toList_data]
  cases hl : s.data.toList with
  | nil => exact absurd (size_nil hl) h
  | cons b r => rfl

/-- The terms that the model reads, of what stands between the signs. -/
theorem spec_terms {p0 p1 inner : ByteArray} {q : Nat} (h : p1.extract 0 q = inner) (hq : p1.size = q + 1) : (specA p0.data.toList p1.data.toList).2 = termsOf inner.data.toList := by
  unfold specA
  rw [← h, Lib.extract_data]
  have e : p1.data.toList.length = p1.size := by simp
  rw [e, hq]
  simp

theorem spec_at {p0 p1 : ByteArray} : specA p0.data.toList p1.data.toList = (p0, (specA p0.data.toList p1.data.toList).2) := by
  unfold specA
  cases p0; rfl

/-- Two texts in a row. -/
theorem two_texts {w : World} {lo hi d : Nat} {p : Addr} {a b : ByteArray} (h : IsTexts w lo hi (some p) 2 d [a, b]) : w.cell? p = some (.string a) ∧ w.cell? ⟨p.block, p.off + 1, none⟩ = some (.string b) := by
  obtain ⟨h1, h2, h3, h4⟩ := h
  obtain ⟨q, hq, _, _, he⟩ := h4 (by omega)
  injection hq with hq
  subst hq
  have e0 := he 0 a rfl
  have e1 := he 1 b rfl
  unfold TextE at e0 e1
  unfold Addr.add at e0 e1
  exact ⟨by simpa using e0, by simpa using e1⟩

set_option maxRecDepth 100000 in
set_option maxHeartbeats 4000000 in
theorem specAtomGet_any (s : ByteArray) (w : World) (hs : s.size ≤ 1048576) :
    Calls Tryz.prog 40 #[.string s] w (GetPost s.data.toList w) := by
  obtain ⟨i0, hi, hz, hsz, hby⟩ := info_parts Tryz.infoTerm
  have hsl : s.data.toList.length = s.size := by simp
  have hb0 := below1 w (.cells #[.string ⟨#[]⟩, .slice none 0 0] 51)
  have X0 := Blk.new w 51 #[.string ⟨#[]⟩, .slice none 0 0]
  obtain ⟨W0, hW0⟩ : ∃ W0, w.alloc (.cells #[.string ⟨#[]⟩, .slice none 0 0] 51) = W0 := ⟨_, rfl⟩
  rw [hW0] at hb0 X0
  have hz0 : W0.heap.size = w.heap.size + 1 := by rw [← hW0]; simp
  have HX0 := Lib.hid X0; have HB0 := Lib.hid hb0
  clear X0 hb0
  obtain ⟨ps, hps⟩ : ∃ ps, cutsB 40 s = ps := ⟨_, rfl⟩
  have hpl : (cuts 40 s.data.toList).length = ps.length := by rw [← hps]; unfold cutsB; simp
  go_enter Tryz.func40, Tryz.ntmps40
  go_wp2_with fail
  refine (l1Cut_any s 40 W0 hs).mono ?_; rintro e w1 ⟨p, d, rfl, hT1, hb1⟩
  rw [hps] at hT1 ⊢
  have HT1 := Lib.hid hT1
  have HX1 := Lib.hid (HX0.out.below hb1); have HB1 := Lib.hid (belowThen HB0.out hb1)
  have hz1 := hb1.size
  have hxl := HX1.out.lt
  have r0 := HX1.out.cell 0; have r1 := HX1.out.cell 1
  have f0 := HX1.out.frozen 0; have f1 := HX1.out.frozen 1
  clear hb1 hT1
  by_cases h2 : ps.length = 2
  · obtain ⟨p0, p1, hpp⟩ := two_of h2
    subst hpp
    have hcut : cuts 40 s.data.toList = [p0.data.toList, p1.data.toList] := by rw [← cutsB_data, hps]; rfl
    have HC := Lib.hid hcut
    have hs0 : p0.size ≤ s.size := cutsB_size (c := 40) (by rw [hps]; simp)
    have hs1 : p1.size ≤ s.size := cutsB_size (c := 40) (by rw [hps]; simp)
    obtain ⟨c0, c1⟩ := two_texts HT1.out
    have hp2 : (((2 : Nat) : Int) == 2) = true := rfl
    clear hcut hps hpl h2
    by_cases hlen : s.size ≤ 1500
    · have hlenI : ¬ (1500 < (s.size : Int)) := by omega
      by_cases h1 : p1.size = 0
      · have hpe : ((p1.size : Int) == 0) = true := by rw [beq_iff_eq]; omega
        have E := Lib.hid (spec_empty (l := s.data.toList) (p0 := p0.data.toList) (by rw [HC.out, show p1.data.toList = [] from List.eq_nil_of_length_eq_zero (by simpa using h1)]))
        go_wp2_with fail
        have Z := (HX1.out.set 0 (.string ⟨#[]⟩)).set 1 (.slice none 0 0)
        have z0 := Z.cell 0; have z1 := Z.cell 1
        refine bodyPost_ret (v := .tuple #[rfVal noRf, .bool false]) (by simp [results, Tryz.results40, go_sem, r0, r1, rfVal, noRf]) rfl ⟨noRf, by rw [E.out]; rfl, noRf_apart, by rw [E.out]; rfl, (HB1.out.setCell (by simp) _).setCell (by simp) _⟩
      · have hpe : ((p1.size : Int) == 0) = false := by rw [beq_eq_false_iff_ne]; omega
        have hp1z : p1.size ≤ maxLen := by unfold maxLen; omega
        have hp0z : p0.size ≤ maxLen := by unfold maxLen; omega
        have hYA := below1 w1 (.cells #[.string p0, .slice none 0 0] 51)
        have Y2 := Lib.hid (Blk.new w1 51 #[.string p0, .slice none 0 0])
        have X2 := Lib.hid (HX1.out.below hYA)
        have HB2 := Lib.hid (belowThen HB1.out hYA)
        clear r0 r1 f0 f1 hYA
        have cu1 := cellUp c1
        have cu0 := cellUp c0
        obtain ⟨q, hq⟩ : ∃ q, p1.size = q + 1 := ⟨p1.size - 1, by omega⟩
        have hwq : IntKind.i64.wrap ((p1.size : Int) - 1) = (q : Int) := by rw [IntKind.wrap_i64]; omega
        have hq1 : (q : Int) ≤ (p1.size : Int) := by omega
        have hq2 : q ≤ p1.size := by omega
        have HQ := Lib.hid hq; clear hq
        go_wp2_with fail
        go_region_with fail
        all_goals
          have hil : (p1.extract 0 q).size = q := by rw [ByteArray.size_extract]; omega
          obtain ⟨inner, hinn⟩ : ∃ x, p1.extract 0 q = x := ⟨_, rfl⟩
          obtain ⟨ws, hws⟩ : ∃ x, cutsB 44 inner = x := ⟨_, rfl⟩
          rw [hinn] at hil
          have hwl : ws.length ≤ inner.size + 1 := by rw [← hws]; exact cutsB_len 44 inner
          have hw0 : 0 < ws.length := by rw [← hws]; unfold cutsB cuts; simp
          have hwz : ∀ x ∈ ws, x.size ≤ 1500 := fun x hx => Nat.le_trans (cutsB_size (c := 44) (s := inner) (by rw [hws]; exact hx)) (by omega)
          have HIN := Lib.hid hinn; have HWS := Lib.hid hws; have HWZ := Lib.hid hwz
          clear hinn hws hwz
          go_wp2_with fail
          rw [HIN.out]
          refine (l1Cut_any inner 44 _ (by omega)).mono ?_; rintro e w2 ⟨q2, d2, rfl, hT2, hb2'⟩
          rw [HWS.out] at hT2 ⊢
          have hb2 := undrew hb2'
          have HT2 := Lib.hid hT2
          have X3 := Lib.hid (X2.out.below hb2); have Y3 := Lib.hid (Y2.out.below hb2); have HB3 := Lib.hid (belowThen HB2.out hb2)
          have hz3 : w1.heap.size + 1 ≤ w2.heap.size := by have := hb2.size; simp at this; exact this
          clear hb2 hb2' hT2 cu0 cu1 c0 c1
          go_wp2_with fail
          go_loopw [8] (fun i wr => ∃ (k : Nat) (v : Value), k ≤ ws.length ∧ (inner.size = 0 → k = 0) ∧ i = .int .i64 (k : Int) ∧ Blk wr w1.heap.size 51 #[.string p0, v] ∧ Blk wr w.heap.size 51 #[.string ⟨#[]⟩, .slice none 0 0] ∧ wr.ownsRow w2.heap.size 110 2 v k (tcs (wordTs (ws.take k))) ∧ IsTexts wr (w1.heap.size + 1) w2.heap.size (some q2) ws.length d2 ws ∧ Below w.heap.size w wr ∧ w2.heap.size ≤ wr.heap.size) (fun i _ => ws.length - (intOf i).toNat)
          case atStart => exact ⟨0, _, Nat.zero_le _, fun _ => rfl, rfl, Y3.out, X3.out, ⟨rfl, .inl ⟨rfl, rfl⟩⟩, HT2.out.keep TextE.stays (fun _ _ _ => rfl) (by simp [World.drew]) (Nat.le_refl _), HB3.out, Nat.le_refl _⟩
          case round =>
            obtain ⟨k, v, hk, hk0, rfl, hY, hX, hrow, hT, hb, hwz2⟩ := hrel
            obtain ⟨Av, cv, rfl⟩ : ∃ Av cv, v = .slice Av k cv := by
              rcases hrow.2 with ⟨e1, e2⟩ | ⟨g, cap, cur, e1, _⟩
              · exact ⟨none, 0, by rw [e1, e2]⟩
              · exact ⟨_, cap, e1⟩
            have HY := Lib.hid hY; have HX := Lib.hid hX; have HR := Lib.hid hrow; have HT3 := Lib.hid hT; have HB := Lib.hid hb
            clear hY hX hrow hT hb
            have y0 := HY.out.cell 0
            have y1 := HY.out.cell 1
            by_cases hlt : k < ws.length
            · have hltI : (k : Int) < (ws.length : Int) := by omega
              by_cases hie : inner.size = 0
              · have hk00 := hk0 hie
                subst hk00
                have hie2 : (!inner.toList.isEmpty) = false := by rw [empty_of hie]; rfl
                have hH : HeadApart wr w2.heap.size wr.heap.size (p0, Av, 0, cv, (specA p0.data.toList p1.data.toList).2) := by
                  have e0 : (specA p0.data.toList p1.data.toList).2 = [] := by rw [spec_terms HIN.out HQ.out]; unfold termsOf; rw [if_pos (nil_of hie)]
                  rw [e0]
                  obtain ⟨A9, c9, e9, h9⟩ := head_row (s := p0) HR.out (by simp [wordTs]) (fun t ht => by simp [wordTs] at ht) hp0z
                  injection e9 with e9 _ e10
                  subst e9; subst e10
                  exact h9
                have HH := Lib.hid hH
                clear hH
                go_wp2_with fail
                refine (specAtomPut_any p0 Av 0 cv (specA p0.data.toList p1.data.toList).2 wr hp0z (HH.out.2.1.keep (fun _ _ _ => rfl) (Nat.zero_le _) (Nat.le_refl _))).mono ?_; rintro e w7 ⟨rfl, hb7⟩
                have X7 := Lib.hid (HX.out.below hb7); have Y7 := Lib.hid (HY.out.below hb7); have HB7 := Lib.hid (belowThen HB.out hb7)
                have HH7 := Lib.hid (HH.out.keep (w' := w7) (lo' := w2.heap.size) (hi' := w7.heap.size) (fun b _ h2 => hb7.block b h2) (Nat.le_refl _) hb7.size)
                have r0 := X7.out.cell 0; have r1 := X7.out.cell 1
                have f0 := X7.out.frozen 0; have f1 := X7.out.frozen 1
                have a0 := Y7.out.cell 0; have a1 := Y7.out.cell 1
                have x7l := X7.out.lt
                clear hb7
                by_cases hput : putB (p0, (specA p0.data.toList p1.data.toList).2) = s.data.toList
                · have E := Lib.hid (spec_yes HC.out (by omega) (fun e => h1 (size_nil e)) (by rw [spec_at]; exact hput))
                  have hpb : (putB (p0, (specA p0.data.toList p1.data.toList).2) == s.toList) = true := by rw [toList_data, hput]; exact beq_self_eq_true _
                  clear hput
                  go_wp2_with fail
                  have Z := (X7.out.set 0 (.string p0)).set 1 (.slice Av 0 cv)
                  have z0 := Z.cell 0; have z1 := Z.cell 1
                  refine bodyPost_ret (v := .tuple #[rfVal (p0, Av, 0, cv, (specA p0.data.toList p1.data.toList).2), .bool true]) (by simp [results, Tryz.results40, go_sem, r0, r1, rfVal]) rfl ⟨(p0, Av, 0, cv, (specA p0.data.toList p1.data.toList).2), by rw [E.out]; rfl, ?_, by rw [E.out]; exact spec_at.symm, (HB7.out.setCell (by simp) _).setCell (by simp) _⟩
                  exact HH7.out.keep (fun b h1 h2 => (Below.heap_setCell _ _ _ _ (by simp; omega)).trans (Below.heap_setCell _ _ _ _ (by simp; omega))) (by omega) (by simp)
                · have E := Lib.hid (spec_no (l := s.data.toList) HC.out (by rw [spec_at]; exact hput))
                  have hpb : (putB (p0, (specA p0.data.toList p1.data.toList).2) == s.toList) = false := by rw [toList_data, beq_eq_false_iff_ne]; exact hput
                  clear hput
                  go_wp2_with fail
                  have Z := (X7.out.set 0 (.string ⟨#[]⟩)).set 1 (.slice none 0 0)
                  have z0 := Z.cell 0; have z1 := Z.cell 1
                  refine bodyPost_ret (v := .tuple #[rfVal noRf, .bool false]) (by simp [results, Tryz.results40, go_sem, r0, r1, rfVal, noRf]) rfl ⟨noRf, by rw [E.out]; rfl, noRf_apart, by rw [E.out]; rfl, (HB7.out.setCell (by simp) _).setCell (by simp) _⟩
              · have hie2 : (!inner.toList.isEmpty) = true := by rw [nonempty_of hie]; rfl
                obtain ⟨q', s5, hq', hlo, hhi, hg, hE⟩ := HT3.out.at_ hlt
                injection hq' with hq'
                subst hq'
                have c5 : wr.cell? (q2.add k) = some (.string s5) := by have := hE; unfold TextE at this; rwa [Nat.mul_one] at this
                have hs5 : s5.size ≤ maxLen := Nat.le_trans (HWZ.out s5 (List.mem_of_getElem? hg)) (by decide)
                have HG := Lib.hid hg; clear hg hE
                have hlo2 : ∀ g, (Value.slice Av k cv).ownBlock = some g → w2.heap.size ≤ g := fun g hg => (HR.out.lt g hg).1
                have hyl := HY.out.lt
                go_wp2_with fail
                go_region_law (first
                  | (refine step_append_lies _ (by rfl) _ _ _ (by rfl) w2.heap.size 110 i0 _ 2 24 Tryz.underlying49 hi hz hsz hby rfl (by omega) (.slice Av k cv) k (tcs (wordTs (ws.take k))) (by rfl) (HR4.out.alloc _) ⟨w4.heap.size, 0, none⟩ 1 1 [.bool (argOf s5.data.toList).1, .string s5] (by rfl) (by rfl) (World.news_of_block (cs := #[.bool (argOf s5.data.toList).1, .string s5]) (t := 110) (fr := (0, 0)) (heap_alloc_new w4 _)) (by simp [Value.oneCell']) (by omega) (by unfold maxLen; omega) (by omega) (by simp; omega) (w4.heap.size + 1) (by simp) ?_; intro gg cap w6 hown6 hgrow hat hlt6; have Y6 := (Y4.out.alloc (.cells #[.bool (argOf s5.data.toList).1, .string s5] 110)).kept hgrow (fun e => (by have := hlo2 _ e.symm; omega)); have z3 : w6.cell? ⟨w1.heap.size, 1, none⟩ = some (.slice Av k cv) := Y6.cell 1; have z5 := Y6.frozen 1)
                  | ((go_simp; go_at_call 69; refine (l1Arg_any s5 _ hs5).mono ?_); rintro e w4 ⟨rfl, hb4'⟩; have hb4 : Below wr.heap.size wr w4 := undrew hb4'; clear hb4'; have Y4 := Lib.hid (HY.out.below hb4); have yy3 := Y4.out.cell 1; have cu3 := cellUp (show w4.cell? ⟨w1.heap.size, 1, none⟩ = some (.slice Av k cv) from yy3); have HR4 := Lib.hid (ownsRow_up HR.out hb4); have hs4 := hb4.size))
                all_goals
                  have hgg := (hown6.lt gg rfl).1
                  have hgs : wr.heap.size + 1 ≤ w6.heap.size := by have := hgrow.size; simp at this; omega
                  have X6 := ((HX.out.below hb4).alloc (.cells #[.bool (argOf s5.data.toList).1, .string s5] 110)).kept (W' := w6) hgrow (fun e => by have := hlo2 _ e.symm; omega)
                  have hset := grownSet w6 w1.heap.size 1 (.slice (some ⟨gg, 0, none⟩) (k + 1) cap)
                  have A1 := Lib.hid (show Blk (w6.setCell ⟨w1.heap.size, 1, none⟩ (.slice (some ⟨gg, 0, none⟩) (k + 1) cap)) w1.heap.size 51 #[.string p0, .slice (some ⟨gg, 0, none⟩) (k + 1) cap] from Y6.set 1 _)
                  have A2 := Lib.hid (X6.far (p := ⟨w1.heap.size, 1, none⟩) (by simp; omega) (.slice (some ⟨gg, 0, none⟩) (k + 1) cap))
                  have A3 : Hid ((w6.setCell ⟨w1.heap.size, 1, none⟩ (.slice (some ⟨gg, 0, none⟩) (k + 1) cap)).ownsRow w2.heap.size 110 2 (.slice (some ⟨gg, 0, none⟩) (k + 1) cap) (k + 1) (tcs (wordTs (ws.take (k + 1))))) := Lib.hid (by rw [wordTs_step HG.out]; exact row_away hown6 (fun e => by simp [Value.ownBlock] at e; omega) _)
                  have hlow : ∀ b, b < w2.heap.size → b ≠ w1.heap.size → (w6.setCell ⟨w1.heap.size, 1, none⟩ (.slice (some ⟨gg, 0, none⟩) (k + 1) cap)).heap[b]? = wr.heap[b]? := by
                    intro b hb1 hb2
                    have e1 := Below.heap_setCell w6 ⟨w1.heap.size, 1, none⟩ (.slice (some ⟨gg, 0, none⟩) (k + 1) cap) b (by simpa using hb2)
                    have e2 := hgrow.block b (by simp; omega) (fun e => by have := hlo2 _ e.symm; omega)
                    have e3 := (below1 w4 (.cells #[.bool (argOf s5.data.toList).1, .string s5] 110)).block b (by omega)
                    have e4 := hb4.block b (by omega)
                    exact e1.trans (e2.trans (e3.trans e4))
                  have A4 := Lib.hid (HT3.out.keep (w' := w6.setCell ⟨w1.heap.size, 1, none⟩ (.slice (some ⟨gg, 0, none⟩) (k + 1) cap)) TextE.stays (fun q h1 h2 => World.cell?_of_block (hlow q.block h2 (by omega))) (Nat.le_refl _) (Nat.le_refl _))
                  have A5 := Lib.hid (((belowThen HB.out hb4).alloc (belowThen HB.out hb4).size (.cells #[.bool (argOf s5.data.toList).1, .string s5] 110)).grown hgrow (by have := (belowThen HB.out hb4).size; simp; omega) (fun g hg => by have := hlo2 g hg; omega) |>.setCell (p := ⟨w1.heap.size, 1, none⟩) (by simp; omega) (.slice (some ⟨gg, 0, none⟩) (k + 1) cap))
                  have A6 : w2.heap.size ≤ (w6.setCell ⟨w1.heap.size, 1, none⟩ (.slice (some ⟨gg, 0, none⟩) (k + 1) cap)).heap.size := by rw [size_setCell]; omega
                  clear hown6 hgrow hat Y6 z3 z5 X6 hset hb4 Y4 yy3 cu3 HR4 hlow
                  go_wp2
                  go_roundw
                  case rel => exact ⟨k + 1, _, by omega, fun e => absurd e hie, by go_num, A1.out, A2.out, A3.out, A4.out, A5.out, A6⟩
                  case measure => simp [intOf]; omega
            · have hltI : ¬ (k : Int) < (ws.length : Int) := by omega
              have hkw : k = ws.length := by omega
              have hie : ¬ inner.size = 0 := fun e => by have := hk0 e; omega
              have hH : HeadApart wr w2.heap.size wr.heap.size (p0, Av, k, cv, (specA p0.data.toList p1.data.toList).2) := by
                have e0 : (specA p0.data.toList p1.data.toList).2 = wordTs ws := by rw [spec_terms HIN.out HQ.out]; unfold termsOf; rw [if_neg (fun e => hie (size_nil e)), ← HWS.out, wordTs_cuts]
                rw [e0]
                have hr := HR.out
                rw [List.take_of_length_le (by omega)] at hr
                obtain ⟨A9, c9, e9, h9⟩ := head_row (s := p0) hr (by unfold wordTs; rw [List.length_map]; omega) (fun t ht => by
                  unfold wordTs at ht
                  obtain ⟨x, hx, rfl⟩ := List.mem_map.1 ht
                  rw [argOf_eq]
                  exact Nat.le_trans (HWZ.out x hx) (by decide)) hp0z
                injection e9 with e9 _ e10
                subst e9; subst e10
                exact h9
              clear hkw
              have HH := Lib.hid hH
              clear hH
              go_wp2_with fail
              refine (specAtomPut_any p0 Av k cv (specA p0.data.toList p1.data.toList).2 wr hp0z (HH.out.2.1.keep (fun _ _ _ => rfl) (Nat.zero_le _) (Nat.le_refl _))).mono ?_; rintro e w7 ⟨rfl, hb7⟩
              have X7 := Lib.hid (HX.out.below hb7); have Y7 := Lib.hid (HY.out.below hb7); have HB7 := Lib.hid (belowThen HB.out hb7)
              have HH7 := Lib.hid (HH.out.keep (w' := w7) (lo' := w2.heap.size) (hi' := w7.heap.size) (fun b _ h2 => hb7.block b h2) (Nat.le_refl _) hb7.size)
              have r0 := X7.out.cell 0; have r1 := X7.out.cell 1
              have f0 := X7.out.frozen 0; have f1 := X7.out.frozen 1
              have a0 := Y7.out.cell 0; have a1 := Y7.out.cell 1
              have x7l := X7.out.lt
              clear hb7
              by_cases hput : putB (p0, (specA p0.data.toList p1.data.toList).2) = s.data.toList
              · have E := Lib.hid (spec_yes HC.out (by omega) (fun e => h1 (size_nil e)) (by rw [spec_at]; exact hput))
                have hpb : (putB (p0, (specA p0.data.toList p1.data.toList).2) == s.toList) = true := by rw [toList_data, hput]; exact beq_self_eq_true _
                clear hput
                go_wp2_with fail
                have Z := (X7.out.set 0 (.string p0)).set 1 (.slice Av k cv)
                have z0 := Z.cell 0; have z1 := Z.cell 1
                refine bodyPost_ret (v := .tuple #[rfVal (p0, Av, k, cv, (specA p0.data.toList p1.data.toList).2), .bool true]) (by simp [results, Tryz.results40, go_sem, r0, r1, rfVal]) rfl ⟨(p0, Av, k, cv, (specA p0.data.toList p1.data.toList).2), by rw [E.out]; rfl, ?_, by rw [E.out]; exact spec_at.symm, (HB7.out.setCell (by simp) _).setCell (by simp) _⟩
                exact HH7.out.keep (fun b h1 h2 => (Below.heap_setCell _ _ _ _ (by simp; omega)).trans (Below.heap_setCell _ _ _ _ (by simp; omega))) (by omega) (by simp)
              · have E := Lib.hid (spec_no (l := s.data.toList) HC.out (by rw [spec_at]; exact hput))
                have hpb : (putB (p0, (specA p0.data.toList p1.data.toList).2) == s.toList) = false := by rw [toList_data, beq_eq_false_iff_ne]; exact hput
                clear hput
                go_wp2_with fail
                have Z := (X7.out.set 0 (.string ⟨#[]⟩)).set 1 (.slice none 0 0)
                have z0 := Z.cell 0; have z1 := Z.cell 1
                refine bodyPost_ret (v := .tuple #[rfVal noRf, .bool false]) (by simp [results, Tryz.results40, go_sem, r0, r1, rfVal, noRf]) rfl ⟨noRf, by rw [E.out]; rfl, noRf_apart, by rw [E.out]; rfl, (HB7.out.setCell (by simp) _).setCell (by simp) _⟩
    · have hlenI : 1500 < (s.size : Int) := by omega
      have E := Lib.hid (getB_long (l := s.data.toList) (by omega))
      go_wp2_with fail
      have Z := (HX1.out.set 0 (.string ⟨#[]⟩)).set 1 (.slice none 0 0)
      have z0 := Z.cell 0; have z1 := Z.cell 1
      refine bodyPost_ret (v := .tuple #[rfVal noRf, .bool false]) (by simp [results, Tryz.results40, go_sem, r0, r1, rfVal, noRf]) rfl ⟨noRf, by rw [E.out]; rfl, noRf_apart, by rw [E.out]; rfl, (HB1.out.setCell (by simp) _).setCell (by simp) _⟩
  · have hp2 : ((ps.length : Int) == 2) = false := by rw [beq_eq_false_iff_ne]; omega
    have E := Lib.hid (spec_count (l := s.data.toList) (by rw [hpl]; exact h2))
    go_wp2
    have Z := (HX1.out.set 0 (.string ⟨#[]⟩)).set 1 (.slice none 0 0)
    have z0 := Z.cell 0; have z1 := Z.cell 1
    refine bodyPost_ret (v := .tuple #[rfVal noRf, .bool false]) (by simp [results, Tryz.results40, go_sem, r0, r1, rfVal, noRf]) rfl ⟨noRf, by rw [E.out]; rfl, noRf_apart, by rw [E.out]; rfl, (HB1.out.setCell (by simp) _).setCell (by simp) _⟩

end Go.Proofs.YtogonjkklioaaaaGreatDoor

namespace Go.Proofs.YtogonjkklioaaaaGreatDoor
open Go.RowKit

/-- A text was drawn that is not much longer. -/
def CutPost (s : ByteArray) (b : Nat) (A : Option Addr) (n c p : Nat) (w : World) (e : Ending) (w' : World) : Prop :=
  ∃ (t : ByteArray) (p' : Nat), (e = .returned (.string t) ∧ t.size ≤ s.size + 16 ∧ p' ≤ p + 3) ∧ Rd w' b A n c p' ∧ w.grownBy w' (some b)

/-- A text is taken out of a list that was laid ahead of a draw. -/
theorem of_drew (q : ByteArray → Bool) (g b m : Nat) (A : Option Addr) (n c p : Nat) (w : World) (cs : Array Value) (t : TypeId) (hg : w.heap.size = g) (h : Rd (w.alloc (.cells cs t)) b A n c p) (hp : p ≤ 1099511627776) (hc : cs.size = m) (hm : 0 < m) (hm' : m ≤ 1048576) (hq : cs.toList.all (strOk q) = true) :
    Calls Tryz.prog 66 #[.pointer (some ⟨b, 0, none⟩), .slice (some ⟨g, 0, none⟩) m m] (w.alloc (.cells cs t)).drew (OfPost (fun s => q s = true) b A n c p (w.alloc (.cells cs t)).drew) := by
  subst hg; subst hc
  have hl := laid q w cs t hq
  exact of_any (fun s => q s = true) b w.heap.size cs.size A n c p _ h.drawn hp hm hm' (by
    intro e
    obtain ⟨s, hs, _⟩ := hl 0 hm
    have h0 := h.2.1
    rw [← e] at h0
    rw [h0] at hs
    injection hs with hs
    cases hs) hl

set_option maxRecDepth 100000 in
set_option maxHeartbeats 2000000 in
theorem cut_draw (s : ByteArray) (b : Nat) (A : Option Addr) (n c p : Nat) (w : World) (h : Rd w b A n c p) (hp : p ≤ 1000000) (hs : s.size ≤ 1000000) :
    Calls Tryz.prog 37 #[.pointer (some ⟨b, 0, none⟩), .string s] w (CutPost s b A n c p w) := by
  have H := Lib.hid h; clear h
  have hbw := H.out.1
  have hsI : (s.size : Int) ≤ 1000000 := by omega
  have hws : IntKind.i64.wrap ((s.size : Int) + 1) = ((s.size + 1 : Nat) : Int) := by rw [IntKind.wrap_i64]; omega
  go_enter Tryz.func37, Tryz.ntmps37
  go_wp2_with fail
  refine (pick_any b A n c p _ w H.out (by omega) (by omega)).mono ?_; rintro e w1 ⟨k, ⟨rfl, hk⟩, hr1, hg1⟩
  have hks : k ≤ s.size := by omega
  have R1 := Lib.hid hr1; have G1 := Lib.hid hg1
  clear hr1 hg1 hk
  go_wp2_with fail
  refine (pick_any b A n c _ _ w1 R1.out (by omega) (by omega)).mono ?_; rintro e w2 ⟨j, ⟨rfl, hj⟩, hr2, hg2⟩
  have R2 := Lib.hid hr2; have G2 := Lib.hid (grownTrans G1.out hg2)
  clear hr2 hg2 R1 G1
  have hz2 := G2.out.size
  have hkI : (k : Int) ≤ (s.size : Int) := by omega
  have hke : (s.extract 0 k).size = k := by rw [ByteArray.size_extract]; omega
  have hkr : (s.extract k s.size).size = s.size - k := by rw [ByteArray.size_extract]; omega
  by_cases j0 : j = 0
  · subst j0
    have R2' := Lib.hid (show Rd w2.drew b A n c (p + 1 + 1) from R2.out)
    go_wp2_with fail
    go_region_with ((go_at_call 66; refine (of_drew (fun s => decide (s.size ≤ 16)) w2.heap.size b 12 A n c _ w2 _ _ rfl (R2.out.below (below1 _ _)) (by omega) (by rfl) (by omega) (by omega) (by rfl)).mono ?_); rintro e w5 ⟨t, ⟨rfl, ht⟩, hr5, hg5⟩; have ht16 : t.size ≤ 16 := of_decide_eq_true ht; have hc1 : (s.extract 0 k ++ t).size = k + t.size := by rw [ByteArray.size_append, hke])
    have hg5' := ungrown hg5
    have G5 := Lib.hid (grownTrans G2.out (grownTrans (grownBelow (below1 w2 _) (some b)) hg5'))
    have R5 := Lib.hid hr5
    clear hg5 hg5' hr5
    go_wp2
    go_ret
    exact ⟨_, _, ⟨rfl, by rw [ByteArray.size_append, hc1, hkr]; omega, by omega⟩, R5.out, G5.out⟩
  · have j0I : ((j : Int) == 0) = false := by rw [beq_eq_false_iff_ne]; omega
    by_cases j1 : j = 1
    · subst j1
      go_wp2_with fail
      go_ret
      exact ⟨_, _, ⟨rfl, by omega, by omega⟩, R2.out, G2.out⟩
    · have j1I : ((j : Int) == 1) = false := by rw [beq_eq_false_iff_ne]; omega
      go_wp2_with fail
      go_ret
      exact ⟨s, _, ⟨rfl, by omega, by omega⟩, R2.out, G2.out⟩

/-- An atom was drawn. -/
def DrawnAtom (w : World) (e : Ending) (w' : World) : Prop :=
  ∃ (nm : ByteArray) (A : Option Addr) (k d : Nat) (ts : List Tm), (e = .returned (.agg #[.string nm, .slice A k d]) ∧ nm.size ≤ 16 ∧ k ≤ 8) ∧ IsTerms w' 0 w'.heap.size A k d ts ∧ (∀ t ∈ ts, t.2.size ≤ 16) ∧ Below w.heap.size w w'


/-- A text was drawn. -/
def DrawnText (m : Nat) (w : World) (e : Ending) (w' : World) : Prop := ∃ t : ByteArray, (e = .returned (.string t) ∧ t.size ≤ m) ∧ Below w.heap.size w w'

theorem drawn_text_len {nm : ByteArray} {ts : List Tm} {k : Nat} (hn : nm.size ≤ 16) (hk : ts.length = k) (hk8 : k ≤ 8) (hs : ∀ t ∈ ts, t.2.size ≤ 16) : (textL (nm, ts)).length ≤ 200 := by
  have tail16 : ∀ xs : List (List UInt8), (∀ x ∈ xs, x.length ≤ 16) → (Lib.joinTail [44] xs).length ≤ 17 * xs.length := by
    intro xs
    induction xs with
    | nil => intro _; simp [Lib.joinTail]
    | cons x r ih =>
      intro h
      have h1 := h x (by simp)
      have h2 := ih (fun y hy => h y (by simp [hy]))
      rw [joinTail_cons]
      simp only [List.length_append, List.length_cons, List.length_nil]; omega
  have hj : (Lib.join (tmNames ts) [44]).length ≤ 17 * (tmNames ts).length := by
    have hx : ∀ x ∈ tmNames ts, x.length ≤ 16 := fun x hx => by
      unfold tmNames at hx
      obtain ⟨t, ht, rfl⟩ := List.mem_map.1 hx
      have := hs t ht
      simpa using this
    cases hxs : tmNames ts with
    | nil => simp [Lib.join_nil]
    | cons x r =>
      rw [hxs] at hx
      have h1 := hx x (by simp)
      have h2 := tail16 r (fun y hy => hx y (by simp [hy]))
      rw [Lib.join_cons]
      simp only [List.length_append, List.length_cons]; omega
  have hl : (tmNames ts).length = k := by unfold tmNames; rw [List.length_map, hk]
  have hnl : nm.data.toList.length = nm.size := by simp
  unfold textL
  simp only [List.length_append, List.length_cons, List.length_nil]
  omega


end Go.Proofs.YtogonjkklioaaaaGreatDoor

namespace Go.Proofs.YtogonjkklioaaaaGreatDoor
open Go.RowKit

/-- Atoms, each behind a sign and ahead of a blank. -/
def signL (c : UInt8) (xs : List At) : List UInt8 := xs.flatMap fun a => c :: (textL a ++ [32])
/-- A change's text: what goes, what comes. -/
def chL (xs ys : List At) : List UInt8 := signL 45 ys ++ signL 43 xs

theorem signL_step {c : UInt8} {xs : List At} {k : Nat} {a : At} (h : xs[k]? = some a) : signL c (xs.take (k + 1)) = signL c (xs.take k) ++ (c :: (textL a ++ [32])) := by
  unfold signL; rw [List.take_add_one, h, List.flatMap_append]; simp

theorem signL_len (c : UInt8) : ∀ (xs : List At), (∀ a ∈ xs, (textL a).length ≤ 128) → (signL c xs).length ≤ 130 * xs.length
  | [], _ => by simp [signL]
  | a :: xs, h => by
    have h1 := signL_len c xs (fun b hb => h b (List.mem_cons_of_mem _ hb))
    have h2 := h a (List.mem_cons_self ..)
    unfold signL at h1 ⊢
    rw [List.flatMap_cons, List.length_append, List.length_cons, List.length_cons, List.length_append]
    simp only [List.length_cons, List.length_nil]
    omega

theorem signL_take_len (c : UInt8) (xs : List At) (k : Nat) (h : ∀ a ∈ xs, (textL a).length ≤ 128) (hl : xs.length ≤ 300) : (signL c (xs.take k)).length ≤ 39000 := by
  have h1 := signL_len c (xs.take k) (fun a ha => h a (List.mem_of_mem_take ha))
  have h2 : (xs.take k).length ≤ xs.length := by rw [List.length_take]; exact Nat.min_le_right _ _
  omega

/-- A text, one more behind it. -/
theorem text_more {s t : ByteArray} {l : List UInt8} {p : List UInt8} {c : UInt8} (hs : s.data.toList = l) (ht : t.data.toList = p) : (s ++ ⟨#[c]⟩ ++ t ++ ⟨#[32]⟩).data.toList = l ++ (c :: (p ++ [32])) := by
  simp [ByteArray.data_append, hs, ht]

set_option maxRecDepth 100000 in
set_option maxHeartbeats 4000000 in
theorem l8Put_any (A : Option Addr) (n c : Nat) (B : Option Addr) (m d : Nat) (xs ys : List At) (w : World) (h : IsAtoms w 0 w.heap.size A n c xs) (h' : IsAtoms w 0 w.heap.size B m d ys) (hn : n ≤ 300) (hm : m ≤ 300) (hx : ∀ a ∈ xs, (textL a).length ≤ 128) (hy : ∀ a ∈ ys, (textL a).length ≤ 128) :
    Calls Tryz.prog 33 #[.agg #[.slice A n c, .slice B m d]] w (StrPost (chL xs ys) w) := by
  have LX := Lib.hid h.1; have LY := Lib.hid h'.1
  have HX := Lib.hid h; have HY := Lib.hid h'; have PX := Lib.hid hx; have PY := Lib.hid hy
  clear h h' hx hy
  have hb0 := below1 w (.cells #[.slice A n c, .slice B m d] 25)
  have c0 : (w.alloc (.cells #[.slice A n c, .slice B m d] 25)).cell? ⟨w.heap.size, 0, none⟩ = some (.slice A n c) := by simp [go_sem]
  have c1 : (w.alloc (.cells #[.slice A n c, .slice B m d] 25)).cell? ⟨w.heap.size, 1, none⟩ = some (.slice B m d) := by simp [go_sem]
  have hz0 : (w.alloc (.cells #[.slice A n c, .slice B m d] 25)).heap.size = w.heap.size + 1 := by simp
  obtain ⟨W0, hW0⟩ : ∃ W0, w.alloc (.cells #[.slice A n c, .slice B m d] 25) = W0 := ⟨_, rfl⟩
  rw [hW0] at hb0 c0 c1 hz0
  have C0 := Lib.hid c0; have C1 := Lib.hid c1; have HB0 := Lib.hid hb0
  clear c0 c1 hb0
  go_enter Tryz.func33, Tryz.ntmps33
  go_wp2
  go_loopw [3, 4] (fun x i wr => ∃ (k : Nat) (s : ByteArray), k ≤ m ∧ i = .int .i64 (k : Int) ∧ x = .string s ∧ s.data.toList = signL 45 (ys.take k) ∧ Below (w.heap.size + 1) W0 wr) (fun _ i _ => m - (intOf i).toNat)
  case atStart => exact ⟨0, _, Nat.zero_le _, rfl, rfl, by simp [signL], Below.refl _ _⟩
  case round =>
    obtain ⟨k, s, hk, rfl, rfl, hs, hb⟩ := hrel
    have hsl := signL_take_len 45 ys k PY.out (by rw [LY.out]; exact hm)
    rw [← hs] at hsl
    have hsz : s.size ≤ 39000 := hsl
    have HS := Lib.hid hs
    have c0 := (hb.cell (p := ⟨w.heap.size, 0, none⟩) (by simp)).trans C0.out
    have c1 := (hb.cell (p := ⟨w.heap.size, 1, none⟩) (by simp)).trans C1.out
    have HB := Lib.hid hb
    have hbz := hb.size
    have HBW := Lib.hid (HB0.out.trans (hb.mono (by omega)))
    clear hs hsl hb
    by_cases hlt : k < m
    · have hltI : (k : Int) < (m : Int) := by omega
      obtain ⟨p, a, hA, _, _, hg, hE⟩ := (HY.out.below AtomE.stays HBW.out (Nat.le_refl _)).at_ hlt
      obtain ⟨A', n', c', d1, d2, d3, d4⟩ := hE.out
      clear hE
      subst hA
      have hp := PY.out a (List.mem_of_getElem? hg)
      have HG := Lib.hid hg
      have HT := Lib.hid (show IsTerms wr 0 wr.heap.size A' n' c' a.2 from d4.keep (fun _ _ _ => rfl) (Nat.le_refl _) HBW.out.size)
      clear hg d2 d4
      go_wp2_with fail
      refine (l1Put_any a.1 A' n' c' a.2 _ HT.out (Nat.le_trans hp (by decide))).mono ?_; rintro e w1 ⟨rfl, hb1⟩
      obtain ⟨t, ht⟩ : ∃ t : ByteArray, (⟨(textL (a.1, a.2)).toArray⟩ : ByteArray) = t := ⟨_, rfl⟩
      have htl : t.data.toList = textL a := by rw [← ht]
      have hts : t.size ≤ 128 := by rw [← htl] at hp; exact hp
      rw [ht]
      have HTL := Lib.hid htl
      have HB1 := Lib.hid (HB.out.trans (hb1.mono (by omega)))
      have E := Lib.hid (signL_step (c := 45) HG.out)
      clear hb1 ht htl c0 c1 d1 d3
      go_wp2
      go_roundw
      case rel => exact ⟨k + 1, _, by omega, by go_num, rfl, by rw [E.out]; exact text_more HS.out HTL.out, HB1.out⟩
      case measure => simp [intOf]; omega
    · have hkm : k = m := by omega
      subst hkm
      have hkI : ¬ (k : Int) < (k : Int) := by omega
      have hys : ys.take k = ys := List.take_of_length_le (by rw [LY.out]; exact Nat.le_refl _)
      have HS2 : Hid (s.data.toList = signL 45 ys) := Lib.hid (by rw [HS.out, hys])
      clear hys
      go_wp2
      obtain ⟨W1, hW1⟩ : ∃ W1 : World, W1 = wr := ⟨_, rfl⟩
      subst hW1
      go_loopw [3, 5] (fun x i wr => ∃ (j : Nat) (s : ByteArray), j ≤ n ∧ i = .int .i64 (j : Int) ∧ x = .string s ∧ s.data.toList = signL 45 ys ++ signL 43 (xs.take j) ∧ Below (w.heap.size + 1) W0 wr) (fun _ i _ => n - (intOf i).toNat)
      case atStart => exact ⟨0, _, Nat.zero_le _, rfl, rfl, by rw [HS2.out]; simp [signL], HB.out⟩
      case round =>
        clear HS HS2 c0 c1
        obtain ⟨j, s, hj, rfl, rfl, hs, hb⟩ := hrel
        have hsl := signL_take_len 43 xs j PX.out (by rw [LX.out]; exact hn)
        have hsl2 := signL_len 45 ys PY.out
        have hlen : s.data.toList.length = (signL 45 ys).length + (signL 43 (xs.take j)).length := by rw [hs, List.length_append]
        have hly := LY.out
        have hsz2 : s.size ≤ 80000 := by show s.data.toList.length ≤ _; omega
        have HS := Lib.hid hs
        have c0 := (hb.cell (p := ⟨w.heap.size, 0, none⟩) (by simp)).trans C0.out
        have c1 := (hb.cell (p := ⟨w.heap.size, 1, none⟩) (by simp)).trans C1.out
        have HB2 := Lib.hid hb
        have hbz2 := hb.size
        have HBW2 := Lib.hid (HB0.out.trans (hb.mono (by omega)))
        clear hs hsl hsl2 hlen hly hb
        by_cases hlt2 : j < n
        · have hltI2 : (j : Int) < (n : Int) := by omega
          obtain ⟨p, a, hA, _, _, hg, hE⟩ := (HX.out.below AtomE.stays HBW2.out (Nat.le_refl _)).at_ hlt2
          obtain ⟨A', n', c', d1, d2, d3, d4⟩ := hE.out
          clear hE
          subst hA
          have hp := PX.out a (List.mem_of_getElem? hg)
          have HG := Lib.hid hg
          have HT := Lib.hid (show IsTerms wr 0 wr.heap.size A' n' c' a.2 from d4.keep (fun _ _ _ => rfl) (Nat.le_refl _) HBW2.out.size)
          clear hg d2 d4
          go_wp2_with fail
          refine (l1Put_any a.1 A' n' c' a.2 _ HT.out (Nat.le_trans hp (by decide))).mono ?_; rintro e w1 ⟨rfl, hb1⟩
          obtain ⟨t, ht⟩ : ∃ t : ByteArray, (⟨(textL (a.1, a.2)).toArray⟩ : ByteArray) = t := ⟨_, rfl⟩
          have htl : t.data.toList = textL a := by rw [← ht]
          have hts : t.size ≤ 128 := by rw [← htl] at hp; exact hp
          rw [ht]
          have HTL := Lib.hid htl
          have HB1 := Lib.hid (HB2.out.trans (hb1.mono (by omega)))
          have E := Lib.hid (signL_step (c := 43) HG.out)
          clear hb1 ht htl c0 c1 d1 d3
          go_wp2
          go_roundw
          case rel => exact ⟨j + 1, _, by omega, by go_num, rfl, by rw [E.out, ← List.append_assoc]; exact text_more HS.out HTL.out, HB1.out⟩
          case measure => simp [intOf]; omega
        · have hjn : j = n := by omega
          subst hjn
          have hjI : ¬ (j : Int) < (j : Int) := by omega
          have hxs : xs.take j = xs := List.take_of_length_le (by rw [LX.out]; exact Nat.le_refl _)
          have E : s = ⟨(chL xs ys).toArray⟩ := by
            have h1 := HS.out
            rw [hxs] at h1
            apply ByteArray.ext
            apply Array.toList_inj.1
            rw [h1]
            rfl
          have HE := Lib.hid E
          clear hxs E
          go_wp2
          go_ret
          exact ⟨congrArg (fun t => Ending.returned (.string t)) HE.out, HBW2.out⟩

end Go.Proofs.YtogonjkklioaaaaGreatDoor
