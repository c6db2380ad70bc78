/-
  Texts of one claim, put together.
-/
import Derived.Test.YtogonjkklioaaaaGreatDoorCt21
import Derived.Test.YtogonjkklioaaaaGreatDoorCt20
import Derived.Test.YtogonjkklioaaaaGreatDoorCt11
import Derived.Test.YtogonjkklioaaaaGreatDoorCt0
import Derived.Test.YtogonjkklioaaaaGreatDoorCt1
import Derived.Laws.StructEq
namespace Go.Proofs.YtogonjkklioaaaaGreatDoor
open Go.RowKit
attribute [local go_sem] run_store_func

/-- The change from facts to others: what comes, and what goes. -/
def ofL (xs ys : List At) : List At × List At := if factsB 300 xs && factsB 300 ys then (lessL ys xs, lessL xs ys) else ([], [])

theorem ofL_no1 {xs ys : List At} (h : (!factsB 300 xs) = true) : ofL xs ys = ([], []) := by unfold ofL; rw [show factsB 300 xs = false by simpa using h]; rfl
theorem ofL_no2 {xs ys : List At} (h : (!factsB 300 ys) = true) : ofL xs ys = ([], []) := by unfold ofL; rw [show factsB 300 ys = false by simpa using h, Bool.and_false]; rfl
theorem ofL_yes {xs ys : List At} (h : (!factsB 300 xs) = false) (h' : (!factsB 300 ys) = false) : ofL xs ys = (lessL ys xs, lessL xs ys) := by unfold ofL; rw [show factsB 300 xs = true by simpa using h, show factsB 300 ys = true by simpa using h']; rfl

theorem less_all {xs ys : List At} (h : FactsAll xs) : FactsAll (lessL xs ys) := fun q hq => h q (List.mem_filter.1 hq).1

theorem ofL_small {xs ys P Q : List At} (h : ofL xs ys = (P, Q)) : SmallAtoms P.length P ∧ SmallAtoms Q.length Q := by
  unfold ofL at h
  by_cases hc : (factsB 300 xs && factsB 300 ys) = true
  · rw [if_pos hc] at h
    injection h with h1 h2
    subst h1; subst h2
    rw [Bool.and_eq_true] at hc
    have a := factsB_len hc.1; have b := factsB_len hc.2
    have c := less_le ys xs; have d := less_le xs ys
    exact ⟨facts_small (less_all (facts_all hc.2)) (by omega), facts_small (less_all (facts_all hc.1)) (by omega)⟩
  · rw [if_neg hc] at h
    injection h with h1 h2
    subst h1; subst h2
    exact ⟨⟨Nat.zero_le _, fun q hq => absurd hq (by simp)⟩, ⟨Nat.zero_le _, fun q hq => absurd hq (by simp)⟩⟩

/-- A change in memory of its own, its two lists apart, handed back. -/
def OwnKPost (p : List At × List At) (w : World) (e : Ending) (w' : World) : Prop := ∃ A c ra B d rb mid, e = .returned (.agg #[.slice A p.1.length c, .slice B p.2.length d]) ∧ (OwnRefs w' w.heap.size mid A p.1.length c ra ∧ ra.map rAt = p.1) ∧ (OwnRefs w' mid w'.heap.size B p.2.length d rb ∧ rb.map rAt = p.2) ∧ (w.heap.size ≤ mid ∧ mid ≤ w'.heap.size) ∧ Below w.heap.size w w'

theorem OwnRefs.no {w : World} {lo hi : Nat} : OwnRefs w lo hi none 0 0 [] := ⟨rfl, Nat.le_refl _, Nat.zero_le _, fun h0 => absurd h0 (by simp), OwnIn.nil⟩

theorem own_neither {p : List At × List At} {w w' : World} (hp : p = ([], [])) (hb : Below w.heap.size w w') : OwnKPost p w (.returned (.agg #[.slice none 0 0, .slice none 0 0])) w' := by
  subst hp
  exact ⟨none, 0, [], none, 0, [], w.heap.size, rfl, ⟨OwnRefs.no, rfl⟩, ⟨OwnRefs.no, rfl⟩, ⟨Nat.le_refl _, hb.size⟩, hb⟩

theorem own_both {w w1 w2 w2' w3 : World} {g c d : Nat} {A B : Option Addr} {xs ys : List At} {ra rb : List Rf} {p : List At × List At} (hp : p = (xs, ys))
    (h1 : OwnRefs w2 w1.heap.size w2.heap.size A xs.length c ra) (m1 : ra.map rAt = xs) (h2 : OwnRefs w3 w2'.heap.size w3.heap.size B ys.length d rb) (m2 : rb.map rAt = ys)
    (hb : Below w2.heap.size w2 w3) (hs1 : w1.heap.size ≤ w2.heap.size) (hs : w2.heap.size ≤ w2'.heap.size) (hg : w.heap.size ≤ g) (hg1 : g < w1.heap.size) (hB : Below w.heap.size w w3) (u v : Value) :
    OwnKPost p w (.returned (.agg #[.slice A xs.length c, .slice B ys.length d])) ((w3.setCell ⟨g, 0, .none⟩ u).setCell ⟨g, 1, .none⟩ v) := by
  subst hp
  have hz : ((w3.setCell ⟨g, 0, .none⟩ u).setCell ⟨g, 1, .none⟩ v).heap.size = w3.heap.size := by rw [size_setCell, size_setCell]
  have h3 := hb.size
  refine ⟨A, c, ra, B, d, rb, w2.heap.size, rfl, ⟨?_, m1⟩, ⟨?_, m2⟩, ⟨by omega, by omega⟩, (hB.setCell hg u).setCell hg v⟩
  · exact (h1.below hb (Nat.le_refl _)).keep (fun b h1 h2 => set2_far (by omega)) (by omega) (Nat.le_refl _)
  · exact h2.keep (fun b h1 h2 => set2_far (by omega)) hs (by omega)

set_option maxRecDepth 100000 in
set_option maxHeartbeats 4000000 in
/-- Facts that are not among others, in memory of their own. -/
theorem l3Less_own (A : Option Addr) (n c : Nat) (xs : List At) (B : Option Addr) (n' c' : Nat) (ys : List At) (w : World) (h : IsAtoms w 0 w.heap.size A n c xs) (hn : SmallAtoms n xs) (h' : IsAtoms w 0 w.heap.size B n' c' ys) (hr : risesB ys = true) :
    Calls Tryz.prog 68 #[.slice A n c, .slice B n' c'] w (CopySPost (lessL xs ys) w) := by
  obtain ⟨hn1, hn2⟩ := hn
  obtain ⟨i0, hi, hz, hsz, hby⟩ := info_parts Tryz.infoAt
  have HN := Lib.hid hn2; clear hn2
  have HL0 := Lib.hid h.1
  have H := Lib.hid h; have H' := Lib.hid h'; clear h h'
  have HRR := Lib.hid hr; clear hr
  go_enter Tryz.func68, Tryz.ntmps68
  go_wp2
  go_loopw [5, 6] (fun o i wr => ∃ (k j : Nat) (Av : Option Addr) (cv : Nat) (rs : List Rf), k ≤ n ∧ i = .int .i64 k ∧ o = .slice Av j cv ∧ j ≤ k ∧ wr.ownsRow w.heap.size 51 2 (.slice Av j cv) j (rcells rs) ∧ rs.length = j ∧ rs.map rAt = lessL (xs.take k) ys ∧ OwnIn wr w.heap.size wr.heap.size rs ∧ Below w.heap.size w wr) (fun _ i _ => n - (intOf i).toNat)
  case atStart => exact ⟨0, 0, some ⟨w.heap.size, 0, none⟩, 0, [], Nat.zero_le _, rfl, rfl, Nat.le_refl _, ⟨rfl, .inr ⟨w.heap.size, 0, #[], rfl, Nat.le_refl _, heap_alloc_new w _, Nat.le_refl _, by unfold maxLen; omega, rfl, rfl⟩⟩, rfl, rfl, OwnIn.nil, below1 _ _⟩
  case round =>
    obtain ⟨k, j, Av, cv, rs, hk, rfl, rfl, hjk, hrow, hl, hm, ho, hb⟩ := hrel
    have HR := Lib.hid hrow; have HL := Lib.hid hl; have HM := Lib.hid hm; have HO := Lib.hid ho
    clear hrow hl hm ho
    by_cases hlt : k < n
    · obtain ⟨p, q, hA, hlo, hhi, hg, hE⟩ := (H.out.below AtomE.stays hb (Nat.le_refl _)).at_ hlt
      obtain ⟨A', m', d', d1, d3, d4, d5⟩ := hE.out
      clear hE
      subst hA
      have hq : m' ≤ 1048576 := by rw [← d5.1]; exact HN.out q (List.mem_of_getElem? hg)
      have HG := Lib.hid hg; clear hg
      have hwr := hb.size
      have hpz : p.block < wr.heap.size := Nat.lt_of_lt_of_le hhi hwr
      have HT := Lib.hid (d5.keep (w' := wr) (lo' := 0) (hi' := wr.heap.size) (fun _ _ _ => rfl) (Nat.le_refl _) hb.size); clear d5
      go_wp2_with fail
      refine (l3Has_any B n' c' ys q.1 A' m' d' q.2 _ (H'.out.up AtomE.stays hb) HT.out HRR.out).mono ?_; rintro e w0 ⟨rfl, hb0⟩
      have y1 := (hb0.cell (p := p.add (k * 2)) (by rw [block_add]; exact hpz)).trans d1
      have y2 := (hb0.cell (p := ⟨(p.add (k * 2)).block, (p.add (k * 2)).off + 1, none⟩) (by rw [block_add]; exact hpz)).trans d4
      have HB0 := belowThen hb hb0
      have hw0s := hb0.size
      have HO0 := Lib.hid (HO.out.keep (w' := w0) (fun b _ h2 => hb0.block b h2) (Nat.le_refl _) hb0.size)
      have HR0 := Lib.hid (ownsRow_up HR.out hb0)
      clear d1 d4
      cases hh : hasB ys (q.1, q.2)
      · have HH := Lib.hid (show hasB ys q = false from hh); clear hh
        go_wp2_with fail
        refine (l3AtomCopy_any q.1 A' m' d' q.2 _ (HT.out.up hb0) hq).mono ?_; rintro e w1 ⟨A2, d2, rfl, hT, hR, hb1⟩
        have HT1 := Lib.hid hT
        have HR1 := Lib.hid hR
        have HRW := Lib.hid (ownsRow_up HR0.out hb1)
        have hw1s : w.heap.size ≤ w1.heap.size := Nat.le_trans HB0.size hb1.size
        clear hT hR y1 y2
        go_wp2_with (at_builtin; refine wpList_append_own _ rfl _ _ 23 rfl w.heap.size 51 i0 _ 2 40 Tryz.underlying23 hi hz hsz hby rfl (by decide) _ _ _ rfl (HRW.out.alloc _) ⟨w1.heap.size, 0, none⟩ 1 1 [.string q.1, .slice A2 m' d2] rfl rfl (two_new _ _ _ _) (by simp [Value.oneCell']) (by unfold maxLen; omega) (by omega) (by simp; omega) ?_; intro v' w2 hown' hgrow' _; obtain ⟨g', cap', rfl⟩ := ownsRow_succ hown'; have hown := Lib.hid hown'; have hgrow := Lib.hid hgrow'; clear hown' hgrow')
        obtain ⟨rs', r1, r2, r3, r4, r5⟩ := copy_more HL.out HM.out HO0.out HB0 hb1 d3 HT1.out HR1.out HRW.out hown.out hgrow.out
        go_roundw
        case rel => exact ⟨k + 1, j + 1, _, _, rs', by omega, by go_num, rfl, by omega, r3, r1, by rw [r2, less_yes HG.out HH.out], r4, r5⟩
        case measure => simp [intOf]; omega
      · have HH := Lib.hid (show hasB ys q = true from hh); clear hh
        go_wp2
        go_roundw
        case rel => exact ⟨k + 1, j, _, _, rs, by omega, by go_num, rfl, by omega, HR0.out, HL.out, by rw [less_no HG.out HH.out]; exact HM.out, HO0.out, HB0⟩
        case measure => simp [intOf]; omega
    · have hxs : lessL (xs.take k) ys = lessL xs ys := by rw [List.take_of_length_le (by have := HL0.out; omega)]
      obtain ⟨A3, c3, e3, hO⟩ := OwnRefs.of_row HR.out HL.out.symm (Nat.le_refl _) HO.out (Nat.le_refl _)
      injection e3 with e3 _ e4
      subst e3; subst e4
      have HX := Lib.hid hxs; clear hxs
      go_wp2
      go_ret
      have hll : (lessL xs ys).length = j := by rw [← HX.out, ← HM.out, List.length_map, HL.out]
      exact ⟨Av, cv, rs, by rw [hll]; rfl, by rw [hll]; exact hO.keep (fun _ _ _ => rfl) (Nat.le_refl _) (Nat.le_refl _), by rw [HM.out]; exact HX.out, hb⟩

set_option maxRecDepth 100000 in
set_option maxHeartbeats 4000000 in
theorem specChangeOf_any (A : Option Addr) (n c : Nat) (xs : List At) (B : Option Addr) (n' c' : Nat) (ys : List At) (w : World) (h : IsAtoms w 0 w.heap.size A n c xs) (h' : IsAtoms w 0 w.heap.size B n' c' ys) :
    Calls Tryz.prog 166 #[.slice A n c, .slice B n' c'] w (OwnKPost (ofL xs ys) w) := by
  have H := Lib.hid h; have H' := Lib.hid h'; clear h h'
  have HX := Lib.hid H.out.1; have HY := Lib.hid H'.out.1
  have hw1 := below1 w (.cells #[.slice none 0 0, .slice none 0 0] 25)
  have B1 := Blk.new w 25 #[.slice none 0 0, .slice none 0 0]
  go_enter Tryz.func166, Tryz.ntmps166
  go_wp2_with fail
  refine (specFactsOk_any A n c xs _ (H.out.up AtomE.stays hw1)).mono ?_; rintro e w2 ⟨rfl, hb2⟩
  have HB2 := belowThen hw1 hb2
  have B2 := B1.below hb2
  by_cases hx : (!factsB 300 xs) = true
  · have E := Lib.hid (ofL_no1 (ys := ys) hx)
    have b0 : w2.cell? ⟨w.heap.size, 0, none⟩ = some (.slice none 0 0) := B2.cell 0
    have b1 : w2.cell? ⟨w.heap.size, 1, none⟩ = some (.slice none 0 0) := B2.cell 1
    have f0 := B2.frozen 0
    have f1 := B2.frozen 1
    go_wp2
    refine bodyPost_ret (v := .agg #[.slice none 0 0, .slice none 0 0]) (by simp [results, Tryz.results166, go_sem, b0, b1]) rfl (own_neither E.out ((HB2.setCell (Nat.le_refl _) _).setCell (Nat.le_refl _) _))
  · have hx' : (!factsB 300 xs) = false := by simpa using hx
    clear hx
    go_wp2_with fail
    refine (specFactsOk_any B n' c' ys _ (H'.out.up AtomE.stays HB2)).mono ?_; rintro e w3 ⟨rfl, hb3⟩
    have HB3 := belowThen HB2 hb3
    have B3 := B2.below hb3
    by_cases hy : (!factsB 300 ys) = true
    · have E := Lib.hid (ofL_no2 (xs := xs) hy)
      have b0 : w3.cell? ⟨w.heap.size, 0, none⟩ = some (.slice none 0 0) := B3.cell 0
      have b1 : w3.cell? ⟨w.heap.size, 1, none⟩ = some (.slice none 0 0) := B3.cell 1
      have f0 := B3.frozen 0
      have f1 := B3.frozen 1
      go_wp2
      refine bodyPost_ret (v := .agg #[.slice none 0 0, .slice none 0 0]) (by simp [results, Tryz.results166, go_sem, b0, b1]) rfl (own_neither E.out ((HB3.setCell (Nat.le_refl _) _).setCell (Nat.le_refl _) _))
    · have hy' : (!factsB 300 ys) = false := by simpa using hy
      clear hy
      have hrx := Lib.hid (factsB_rises (show factsB 300 xs = true by simpa using hx'))
      have hry := Lib.hid (factsB_rises (show factsB 300 ys = true by simpa using hy'))
      have sx := Lib.hid (facts_small (n := n) (facts_all (show factsB 300 xs = true by simpa using hx')) (by have := factsB_len (show factsB 300 xs = true by simpa using hx'); have := HX.out; omega))
      have sy := Lib.hid (facts_small (n := n') (facts_all (show factsB 300 ys = true by simpa using hy')) (by have := factsB_len (show factsB 300 ys = true by simpa using hy'); have := HY.out; omega))
      have E := Lib.hid (ofL_yes hx' hy')
      go_wp2_with fail
      refine (l3Less_own B n' c' ys A n c xs _ (H'.out.up AtomE.stays HB3) sy.out (H.out.up AtomE.stays HB3) hrx.out).mono ?_; rintro e w4 ⟨A4, c4, ra, rfl, ho4, hm4, hb4⟩
      have O4 := Lib.hid ho4; have M4 := Lib.hid hm4; clear ho4 hm4
      have HB4 := belowThen HB3 hb4
      have B4 := B3.below hb4
      obtain ⟨n4, hn4⟩ : ∃ z, (lessL ys xs).length = z := ⟨_, rfl⟩
      have N4 := Lib.hid hn4
      rw [hn4]; clear hn4
      go_wp2_with fail
      refine (l3Less_own A n c xs B n' c' ys _ (H.out.up AtomE.stays HB4) sx.out (H'.out.up AtomE.stays HB4) hry.out).mono ?_; rintro e w5 ⟨A5, c5, rb, rfl, ho5, hm5, hb5⟩
      have O5 := Lib.hid ho5; have M5 := Lib.hid hm5; clear ho5 hm5
      have HB5 := belowThen HB4 hb5
      have B5 := B4.below hb5
      obtain ⟨n5, hn5⟩ : ∃ z, (lessL xs ys).length = z := ⟨_, rfl⟩
      have N5 := Lib.hid hn5
      rw [hn5]; clear hn5
      have b0 : w5.cell? ⟨w.heap.size, 0, none⟩ = some (.slice none 0 0) := B5.cell 0
      have b1 : w5.cell? ⟨w.heap.size, 1, none⟩ = some (.slice none 0 0) := B5.cell 1
      have f0 := B5.frozen 0
      have f1 := B5.frozen 1
      go_wp2
      refine bodyPost_ret (v := .agg #[.slice A4 n4 c4, .slice A5 n5 c5]) (by simp [results, Tryz.results166, go_sem, b0, b1]) rfl ?_
      rw [← N4.out, ← N5.out]
      exact own_both E.out O4.out M4.out O5.out M5.out hb5 hb4.size (Nat.le_refl _) (Nat.le_refl _) B3.lt HB5 _ _

end Go.Proofs.YtogonjkklioaaaaGreatDoor

namespace Go.Proofs.YtogonjkklioaaaaGreatDoor
open Go.RowKit

/-- Facts behind a change of what comes and what goes. -/
def doL (xs cs gs : List At) : List At := cs.foldl putL (lessL xs gs)
def doneL (xs cs gs : List At) : List At × Bool := if factsB 300 xs && changeB cs gs && factsB 300 (doL xs cs gs) then (doL xs cs gs, true) else ([], false)

theorem doneL_no1 {xs cs gs : List At} (h : (!factsB 300 xs) = true) : doneL xs cs gs = ([], false) := by unfold doneL; rw [show factsB 300 xs = false by simpa using h]; rfl
theorem doneL_no2 {xs cs gs : List At} (h : (!changeB cs gs) = true) : doneL xs cs gs = ([], false) := by unfold doneL; rw [show changeB cs gs = false by simpa using h, Bool.and_false, Bool.false_and]; rfl
theorem doneL_no3 {xs cs gs : List At} (h : (!factsB 300 (doL xs cs gs)) = true) : doneL xs cs gs = ([], false) := by unfold doneL; rw [show factsB 300 (doL xs cs gs) = false by simpa using h, Bool.and_false]; rfl
theorem doneL_yes {xs cs gs : List At} (h : (!factsB 300 xs) = false) (h' : (!changeB cs gs) = false) (h3 : (!factsB 300 (doL xs cs gs)) = false) : doneL xs cs gs = (doL xs cs gs, true) := by
  unfold doneL; rw [show factsB 300 xs = true by simpa using h, show changeB cs gs = true by simpa using h', show factsB 300 (doL xs cs gs) = true by simpa using h3]; rfl

theorem changeB_parts {cs gs : List At} (h : (!changeB cs gs) = false) : factsB 300 cs = true ∧ factsB 300 gs = true := by
  have h1 : changeB cs gs = true := by simpa using h
  unfold changeB at h1
  rw [Bool.and_eq_true, Bool.and_eq_true] at h1
  exact h1.1

theorem less_rises {xs gs : List At} (h : risesB xs = true) : risesB (lessL xs gs) = true := rises_filter h

theorem do_part {xs cs gs : List At} (k : Nat) (hx : FactsAll xs) (hr : risesB xs = true) (hc : FactsAll cs) :
    FactsAll ((cs.take k).foldl putL (lessL xs gs)) ∧ risesB ((cs.take k).foldl putL (lessL xs gs)) = true ∧ ((cs.take k).foldl putL (lessL xs gs)).length ≤ xs.length + cs.length := by
  obtain ⟨a, b, _, d⟩ := puts_all (ys := cs.take k) (less_all (ys := gs) hx) (fun q hq => hc q (List.mem_of_mem_take hq)) (less_rises hr)
  have e := less_le xs gs
  have f : (cs.take k).length ≤ cs.length := by rw [List.length_take]; omega
  exact ⟨a, b, by omega⟩

theorem do_all {xs cs gs : List At} (hx : FactsAll xs) (hr : risesB xs = true) (hc : FactsAll cs) : FactsAll (doL xs cs gs) ∧ risesB (doL xs cs gs) = true ∧ (doL xs cs gs).length ≤ xs.length + cs.length := by
  have := do_part (gs := gs) cs.length hx hr hc
  rw [List.take_length] at this
  exact this

theorem do_step {xs cs gs : List At} {k : Nat} {q : At} (h : cs[k]? = some q) : (cs.take (k + 1)).foldl putL (lessL xs gs) = putL ((cs.take k).foldl putL (lessL xs gs)) q := by
  rw [List.take_add_one, h, List.foldl_append]; rfl

theorem doneL_small {xs cs gs P : List At} {q : Bool} (h : doneL xs cs gs = (P, q)) : SmallAtoms P.length P := by
  unfold doneL at h
  by_cases hc : (factsB 300 xs && changeB cs gs && factsB 300 (doL xs cs gs)) = true
  · rw [if_pos hc] at h
    injection h with h1 _
    subst h1
    rw [Bool.and_eq_true] at hc
    have := factsB_len hc.2
    exact facts_small (facts_all hc.2) (by omega)
  · rw [if_neg hc] at h
    injection h with h1 _
    subst h1
    exact ⟨Nat.zero_le _, fun q hq => absurd hq (by simp)⟩

set_option maxRecDepth 100000 in
set_option maxHeartbeats 4000000 in
theorem l3Do_any (A : Option Addr) (n c : Nat) (xs : List At) (B : Option Addr) (m d : Nat) (cs : List At) (D : Option Addr) (m' d' : Nat) (gs : List At) (w : World) (h : IsAtoms w 0 w.heap.size A n c xs) (h1 : IsAtoms w 0 w.heap.size B m d cs) (h2 : IsAtoms w 0 w.heap.size D m' d' gs)
    (fx : FactsAll xs) (rx : risesB xs = true) (fc : FactsAll cs) (rg : risesB gs = true) (hn : n ≤ 1000) (hm : m ≤ 1000) :
    Calls Tryz.prog 147 #[.slice A n c, .agg #[.slice B m d, .slice D m' d']] w (CopySPost (doL xs cs gs) w) := by
  have HX := Lib.hid h.1; have HC := Lib.hid h1.1
  have H := Lib.hid h; have H1 := Lib.hid h1; have H2 := Lib.hid h2; clear h h1 h2
  have SX := Lib.hid (facts_small (n := n) fx (by omega))
  have FX := Lib.hid fx; have RX := Lib.hid rx; have FC := Lib.hid fc; have RG := Lib.hid rg; clear fx rx fc rg
  have hw1 := below1 w (.cells #[.slice B m d, .slice D m' d'] 25)
  have B1 := Blk.new w 25 #[.slice B m d, .slice D m' d']
  go_enter Tryz.func147, Tryz.ntmps147
  go_wp2_with fail
  refine (l3Less_any A n c xs D m' d' gs _ (H.out.up AtomE.stays hw1) SX.out (H2.out.up AtomE.stays hw1) RG.out).mono ?_; rintro e w2 ⟨A2, c2, rs2, rfl, hi2, hm2, hb2⟩
  have HB2 := belowThen hw1 hb2
  have B2 := B1.below hb2
  have I2 := Lib.hid hi2.atoms
  rw [hm2] at I2
  obtain ⟨n2, hn2⟩ : ∃ z, rs2.length = z := ⟨_, rfl⟩
  rw [hn2] at I2
  rw [hn2]
  clear hi2 hm2 hn2 hb2 B1 hw1 rs2
  go_wp2
  go_loopw [5, 6] (fun o i wr => ∃ (k j : Nat) (Av : Option Addr) (cv : Nat), k ≤ m ∧ i = .int .i64 k ∧ o = .slice Av j cv ∧ IsAtoms wr 0 wr.heap.size Av j cv ((cs.take k).foldl putL (lessL xs gs)) ∧ Blk wr w.heap.size 25 #[.slice B m d, .slice D m' d'] ∧ Below w.heap.size w wr) (fun _ i _ => m - (intOf i).toNat)
  case atStart => exact ⟨0, n2, A2, c2, Nat.zero_le _, rfl, rfl, I2.out, B2, HB2⟩
  case round =>
    obtain ⟨k, j, Av, cv, hk, rfl, rfl, hI, hX, hb⟩ := hrel
    have HI := Lib.hid hI; clear hI
    have b0 : wr.cell? ⟨w.heap.size, 0, none⟩ = some (.slice B m d) := hX.cell 0
    have b1 : wr.cell? ⟨w.heap.size, 1, none⟩ = some (.slice D m' d') := hX.cell 1
    obtain ⟨p1, p2, p3⟩ := do_part (gs := gs) k FX.out RX.out FC.out
    have hj : j ≤ 2000 := by have e1 := HI.out.1; have e2 := HX.out; have e3 := HC.out; omega
    have P1 := Lib.hid p1; have P2 := Lib.hid p2
    clear p1 p2 p3
    by_cases hlt : k < m
    · obtain ⟨p, q, hA, hlo, hhi, hg, hE⟩ := (H1.out.below AtomE.stays hb (Nat.le_refl _)).at_ hlt
      obtain ⟨A', n3, d3, e1, e3, e4, e5⟩ := hE.out
      clear hE
      subst hA
      have HG := Lib.hid hg; clear hg
      have HT := Lib.hid (e5.keep (w' := wr) (lo' := 0) (hi' := wr.heap.size) (fun _ _ _ => rfl) (Nat.le_refl _) hb.size); clear e5
      go_wp2_with fail
      refine (l3Put_any Av j cv _ q.1 A' n3 d3 q.2 _ HI.out e3 HT.out P2.out (by omega)).mono ?_; rintro e w0 ⟨A4, c4, rs4, rfl, hi4, hm4, hb4⟩
      have HB4 := belowThen hb hb4
      have X4 := hX.below hb4
      have I4 := hi4.atoms
      rw [hm4] at I4
      obtain ⟨n4, hn4⟩ : ∃ z, rs4.length = z := ⟨_, rfl⟩
      rw [hn4] at I4 ⊢
      have HI4 := Lib.hid I4
      clear hi4 hm4 hn4 I4 e1 e4 b0 b1
      go_wp2
      go_roundw
      case rel => exact ⟨k + 1, n4, A4, c4, by omega, by go_num, rfl, by rw [do_step HG.out]; exact HI4.out, X4, HB4⟩
      case measure => simp [intOf]; omega
    · have hxs : (cs.take k).foldl putL (lessL xs gs) = doL xs cs gs := by rw [List.take_of_length_le (by have := HC.out; omega)]; rfl
      have E := Lib.hid hxs; clear hxs
      go_wp2_with fail
      refine (l3Copy_any Av j cv _ _ HI.out (facts_small P1.out (by omega))).mono ?_; rintro e w5 hpost
      rw [E.out] at hpost
      obtain ⟨A5, c5, rs5, rfl, ho5, hm5, hb5⟩ := hpost
      have HB5 := belowThen hb hb5
      have hz := hb.size
      have O5 := Lib.hid (ho5.keep (w' := w5) (lo' := w.heap.size) (hi' := w5.heap.size) (fun _ _ _ => rfl) hz (Nat.le_refl _)); have M5 := Lib.hid hm5; clear ho5 hm5
      obtain ⟨n5, hn5⟩ : ∃ z, (doL xs cs gs).length = z := ⟨_, rfl⟩
      have N5 := Lib.hid hn5
      rw [hn5]; clear hn5
      go_wp2
      go_ret; exact ⟨A5, c5, rs5, by rw [N5.out]; rfl, O5.out, M5.out, HB5⟩


end Go.Proofs.YtogonjkklioaaaaGreatDoor

namespace Go.Proofs.YtogonjkklioaaaaGreatDoor
open Go.RowKit

set_option maxHeartbeats 1000000 in
theorem fsAtom_any (nm nm' : ByteArray) (A B : Option Addr) (n c n' c' : Nat) (ts us : List Tm) (w : World) (h : IsTerms w 0 w.heap.size A n c ts) (h' : IsTerms w 0 w.heap.size B n' c' us) :
    Calls Tryz.prog 65 #[.agg #[.string nm, .slice A n c], .agg #[.string nm', .slice B n' c']] w (BoolPost (atomEq (nm, ts) (nm', us)) w) := by
  have hm : n ≤ maxLen := by have := h.2.1; have := h.2.2.1; omega
  unfold maxLen at hm
  have H := Lib.hid h; clear h
  have H' := Lib.hid h'; clear h'
  by_cases hne : n = n'
  · subst hne
    have hw0 := below2 w (.cells #[.string nm, .slice A n c] 51) (.cells #[.string nm', .slice B n c'] 51)
    go_enter Tryz.func65, Tryz.ntmps65
    by_cases hnm : nm.toList = nm'.toList
    · go_wp2_with fail
      go_loopw [5] (fun i wr => ∃ k : Nat, k ≤ n ∧ i = .int .i64 k ∧ termsEq (ts.drop k) (us.drop k) = termsEq ts us ∧ Below ((w.alloc (.cells #[.string nm, .slice A n c] 51)).alloc (.cells #[.string nm', .slice B n c'] 51)).heap.size ((w.alloc (.cells #[.string nm, .slice A n c] 51)).alloc (.cells #[.string nm', .slice B n c'] 51)) wr) (fun i _ => n - (intOf i).toNat)
      case atStart => exact ⟨0, Nat.zero_le _, rfl, rfl, Below.refl _ _⟩
      case round =>
        obtain ⟨k, hk, rfl, hd, hb⟩ := hrel
        have HD := Lib.hid hd; clear hd
        obtain ⟨hc, hf⟩ := oldCells hb
        by_cases hlt : k < n
        · obtain ⟨p, t, hA, hlo, hhi, hg, c1, c2, c3⟩ := ((H.out.up hw0).below hb (Nat.le_refl _)).at_ hlt
          obtain ⟨p', t', hA', hlo', hhi', hg', c1', c2', c3'⟩ := ((H'.out.up hw0).below hb (Nat.le_refl _)).at_ hlt
          subst hA; subst hA'
          have HG := Lib.hid hg; clear hg
          have HG' := Lib.hid hg'; clear hg'
          go_wp2_with fail
          have z1 : wr.cell? ⟨w.heap.size, 1, none⟩ = some (.slice (some p) n c) := (hc _ _ (by simp <;> omega)).trans (by simp [go_sem])
          have z2 : wr.cell? ⟨w.heap.size + 1, 1, none⟩ = some (.slice (some p') n c') := (hc _ _ (by simp <;> omega)).trans (by simp [go_sem])
          have hte : termEq (t.1, t.2) (t'.1, t'.2) = ((t.1 == t'.1) && (t.2.toList == t'.2.toList)) := rfl
          by_cases hv : t.1 = t'.1
          · by_cases hs : t.2.toList = t'.2.toList
            · have heq : (!termEq (t.1, t.2) (t'.1, t'.2)) = false := by rw [hte]; simp [hv, hs]
              have HE := Lib.hid heq; clear heq hte
              go_region_held3 (fun W => W.cell? ⟨w.heap.size, 1, none⟩ = some (.slice (some p) n c) ∧ W.cell? ⟨w.heap.size + 1, 1, none⟩ = some (.slice (some p') n c') ∧ W.cell? (p.add (k * 2)) = some (.bool t.1) ∧ W.cell? ⟨(p.add (k * 2)).block, (p.add (k * 2)).off + 1, none⟩ = some (.string t.2) ∧ W.cell? (p'.add (k * 2)) = some (.bool t'.1) ∧ W.cell? ⟨(p'.add (k * 2)).block, (p'.add (k * 2)).off + 1, none⟩ = some (.string t'.2))
                (exact ⟨z1, z2, c1, c2, c1', c2'⟩)
                (fail)
              go_wp2
              all_goals first
                | (go_ret
                   refine ⟨retB ?_, belowThen hw0 hb.drew⟩
                   have he := termsEq_no HG.out HG'.out HD.out HE.out
                   unfold atomEq; rw [← he]; simp)
                | (go_roundw
                   case rel => exact ⟨k + 1, by omega, by go_num, termsEq_on HG.out HG'.out HD.out HE.out, hb.drew⟩
                   case measure => simp [intOf]; omega)
            · have heq : (!termEq (t.1, t.2) (t'.1, t'.2)) = true := by rw [hte]; simp [hs]
              have HE := Lib.hid heq; clear heq hte
              go_region_held3 (fun W => W.cell? ⟨w.heap.size, 1, none⟩ = some (.slice (some p) n c) ∧ W.cell? ⟨w.heap.size + 1, 1, none⟩ = some (.slice (some p') n c') ∧ W.cell? (p.add (k * 2)) = some (.bool t.1) ∧ W.cell? ⟨(p.add (k * 2)).block, (p.add (k * 2)).off + 1, none⟩ = some (.string t.2) ∧ W.cell? (p'.add (k * 2)) = some (.bool t'.1) ∧ W.cell? ⟨(p'.add (k * 2)).block, (p'.add (k * 2)).off + 1, none⟩ = some (.string t'.2))
                (exact ⟨z1, z2, c1, c2, c1', c2'⟩)
                (fail)
              go_wp2
              all_goals first
                | (go_ret
                   refine ⟨retB ?_, belowThen hw0 hb.drew⟩
                   have he := termsEq_no HG.out HG'.out HD.out HE.out
                   unfold atomEq; rw [← he]; simp)
                | (go_roundw
                   case rel => exact ⟨k + 1, by omega, by go_num, termsEq_on HG.out HG'.out HD.out HE.out, hb.drew⟩
                   case measure => simp [intOf]; omega)
          · have heq : (!termEq (t.1, t.2) (t'.1, t'.2)) = true := by rw [hte]; simp [hv]
            have HE := Lib.hid heq; clear heq hte
            go_region_held3 (fun W => W.cell? ⟨w.heap.size, 1, none⟩ = some (.slice (some p) n c) ∧ W.cell? ⟨w.heap.size + 1, 1, none⟩ = some (.slice (some p') n c') ∧ W.cell? (p.add (k * 2)) = some (.bool t.1) ∧ W.cell? ⟨(p.add (k * 2)).block, (p.add (k * 2)).off + 1, none⟩ = some (.string t.2) ∧ W.cell? (p'.add (k * 2)) = some (.bool t'.1) ∧ W.cell? ⟨(p'.add (k * 2)).block, (p'.add (k * 2)).off + 1, none⟩ = some (.string t'.2))
              (exact ⟨z1, z2, c1, c2, c1', c2'⟩)
              (fail)
            go_wp2
            all_goals first
              | (go_ret
                 refine ⟨retB ?_, belowThen hw0 hb.drew⟩
                 have he := termsEq_no HG.out HG'.out HD.out HE.out
                 unfold atomEq; rw [← he]; simp)
              | (go_roundw
                 case rel => exact ⟨k + 1, by omega, by go_num, termsEq_on HG.out HG'.out HD.out HE.out, hb.drew⟩
                 case measure => simp [intOf]; omega)
        · go_wp2
          go_ret
          refine ⟨retB ?_, belowThen hw0 hb⟩
          have he := termsEq_end H.out.1 H'.out.1 HD.out hlt
          unfold atomEq; rw [← he]; simp [hnm]
    · go_wp2
      go_ret
      refine ⟨retB ?_, below2 _ _ _⟩
      unfold atomEq; simp [hnm]
  · go_enter Tryz.func65, Tryz.ntmps65
    go_wp2
    · go_ret
      refine ⟨retB ?_, below2 _ _ _⟩
      unfold atomEq; rw [termsEq_len (by rw [H.out.1, H'.out.1]; exact hne)]; simp
    · go_ret
      refine ⟨retB ?_, below2 _ _ _⟩
      unfold atomEq; rw [termsEq_len (by rw [H.out.1, H'.out.1]; exact hne)]; simp

end Go.Proofs.YtogonjkklioaaaaGreatDoor
