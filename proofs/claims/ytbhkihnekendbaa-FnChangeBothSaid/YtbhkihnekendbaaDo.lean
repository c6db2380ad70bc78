/-
  Facts behind a change: in the model.
-/
import Derived.Test.YtbhkihnekendbaaChangeOf
import Derived.Test.YtbhkihnekendbaaChangeOk
namespace Go.Proofs.Ytbhkihnekendbaa
open Go.RowKit

/-- Facts behind a change of what comes and what goes. -/
def doL (xs cs gs : List At) : List At := cs.foldl putL (lessL xs gs)
def doneL (xs cs gs : List At) : List At × Bool := if factsB 300 xs && changeB cs gs && factsB 300 (doL xs cs gs) then (doL xs cs gs, true) else ([], false)

theorem doneL_no1 {xs cs gs : List At} (h : (!factsB 300 xs) = true) : doneL xs cs gs = ([], false) := by unfold doneL; rw [show factsB 300 xs = false by simpa using h]; rfl
theorem doneL_no2 {xs cs gs : List At} (h : (!changeB cs gs) = true) : doneL xs cs gs = ([], false) := by unfold doneL; rw [show changeB cs gs = false by simpa using h, Bool.and_false, Bool.false_and]; rfl
theorem doneL_no3 {xs cs gs : List At} (h : (!factsB 300 (doL xs cs gs)) = true) : doneL xs cs gs = ([], false) := by unfold doneL; rw [show factsB 300 (doL xs cs gs) = false by simpa using h, Bool.and_false]; rfl
theorem doneL_yes {xs cs gs : List At} (h : (!factsB 300 xs) = false) (h' : (!changeB cs gs) = false) (h3 : (!factsB 300 (doL xs cs gs)) = false) : doneL xs cs gs = (doL xs cs gs, true) := by
  unfold doneL; rw [show factsB 300 xs = true by simpa using h, show changeB cs gs = true by simpa using h', show factsB 300 (doL xs cs gs) = true by simpa using h3]; rfl

theorem changeB_parts {cs gs : List At} (h : (!changeB cs gs) = false) : factsB 300 cs = true ∧ factsB 300 gs = true := by
  have h1 : changeB cs gs = true := by simpa using h
  unfold changeB at h1
  rw [Bool.and_eq_true, Bool.and_eq_true] at h1
  exact h1.1

theorem less_rises {xs gs : List At} (h : risesB xs = true) : risesB (lessL xs gs) = true := rises_filter h

theorem do_part {xs cs gs : List At} (k : Nat) (hx : FactsAll xs) (hr : risesB xs = true) (hc : FactsAll cs) :
    FactsAll ((cs.take k).foldl putL (lessL xs gs)) ∧ risesB ((cs.take k).foldl putL (lessL xs gs)) = true ∧ ((cs.take k).foldl putL (lessL xs gs)).length ≤ xs.length + cs.length := by
  obtain ⟨a, b, _, d⟩ := puts_all (ys := cs.take k) (less_all (ys := gs) hx) (fun q hq => hc q (List.mem_of_mem_take hq)) (less_rises hr)
  have e := less_le xs gs
  have f : (cs.take k).length ≤ cs.length := by rw [List.length_take]; omega
  exact ⟨a, b, by omega⟩

theorem do_all {xs cs gs : List At} (hx : FactsAll xs) (hr : risesB xs = true) (hc : FactsAll cs) : FactsAll (doL xs cs gs) ∧ risesB (doL xs cs gs) = true ∧ (doL xs cs gs).length ≤ xs.length + cs.length := by
  have := do_part (gs := gs) cs.length hx hr hc
  rw [List.take_length] at this
  exact this

theorem do_step {xs cs gs : List At} {k : Nat} {q : At} (h : cs[k]? = some q) : (cs.take (k + 1)).foldl putL (lessL xs gs) = putL ((cs.take k).foldl putL (lessL xs gs)) q := by
  rw [List.take_add_one, h, List.foldl_append]; rfl

theorem doneL_small {xs cs gs P : List At} {q : Bool} (h : doneL xs cs gs = (P, q)) : SmallAtoms P.length P := by
  unfold doneL at h
  by_cases hc : (factsB 300 xs && changeB cs gs && factsB 300 (doL xs cs gs)) = true
  · rw [if_pos hc] at h
    injection h with h1 _
    subst h1
    rw [Bool.and_eq_true] at hc
    have := factsB_len hc.2
    exact facts_small (facts_all hc.2) (by omega)
  · rw [if_neg hc] at h
    injection h with h1 _
    subst h1
    exact ⟨Nat.zero_le _, fun q hq => absurd hq (by simp)⟩

set_option maxRecDepth 100000 in
set_option maxHeartbeats 4000000 in
theorem l3Do_any (A : Option Addr) (n c : Nat) (xs : List At) (B : Option Addr) (m d : Nat) (cs : List At) (D : Option Addr) (m' d' : Nat) (gs : List At) (w : World) (h : IsAtoms w 0 w.heap.size A n c xs) (h1 : IsAtoms w 0 w.heap.size B m d cs) (h2 : IsAtoms w 0 w.heap.size D m' d' gs)
    (fx : FactsAll xs) (rx : risesB xs = true) (fc : FactsAll cs) (rg : risesB gs = true) (hn : n ≤ 1000) (hm : m ≤ 1000) :
    Calls Try.prog 90 #[.slice A n c, .agg #[.slice B m d, .slice D m' d']] w (CopySPost (doL xs cs gs) w) := by
  have HX := Lib.hid h.1; have HC := Lib.hid h1.1
  have H := Lib.hid h; have H1 := Lib.hid h1; have H2 := Lib.hid h2; clear h h1 h2
  have SX := Lib.hid (facts_small (n := n) fx (by omega))
  have FX := Lib.hid fx; have RX := Lib.hid rx; have FC := Lib.hid fc; have RG := Lib.hid rg; clear fx rx fc rg
  have hw1 := below1 w (.cells #[.slice B m d, .slice D m' d'] 38)
  have B1 := Blk.new w 38 #[.slice B m d, .slice D m' d']
  go_enter Try.func90, Try.ntmps90
  go_wp2_with fail
  refine (l3Less_any A n c xs D m' d' gs _ (H.out.up AtomE.stays hw1) SX.out (H2.out.up AtomE.stays hw1) RG.out).mono ?_; rintro e w2 ⟨A2, c2, rs2, rfl, hi2, hm2, hb2⟩
  have HB2 := belowThen hw1 hb2
  have B2 := B1.below hb2
  have I2 := Lib.hid hi2.atoms
  rw [hm2] at I2
  obtain ⟨n2, hn2⟩ : ∃ z, rs2.length = z := ⟨_, rfl⟩
  rw [hn2] at I2
  rw [hn2]
  clear hi2 hm2 hn2 hb2 B1 hw1 rs2
  go_wp2
  go_loopw [5, 6] (fun o i wr => ∃ (k j : Nat) (Av : Option Addr) (cv : Nat), k ≤ m ∧ i = .int .i64 k ∧ o = .slice Av j cv ∧ IsAtoms wr 0 wr.heap.size Av j cv ((cs.take k).foldl putL (lessL xs gs)) ∧ Blk wr w.heap.size 38 #[.slice B m d, .slice D m' d'] ∧ Below w.heap.size w wr) (fun _ i _ => m - (intOf i).toNat)
  case atStart => exact ⟨0, n2, A2, c2, Nat.zero_le _, rfl, rfl, I2.out, B2, HB2⟩
  case round =>
    obtain ⟨k, j, Av, cv, hk, rfl, rfl, hI, hX, hb⟩ := hrel
    have HI := Lib.hid hI; clear hI
    have b0 : wr.cell? ⟨w.heap.size, 0, none⟩ = some (.slice B m d) := hX.cell 0
    have b1 : wr.cell? ⟨w.heap.size, 1, none⟩ = some (.slice D m' d') := hX.cell 1
    obtain ⟨p1, p2, p3⟩ := do_part (gs := gs) k FX.out RX.out FC.out
    have hj : j ≤ 2000 := by have e1 := HI.out.1; have e2 := HX.out; have e3 := HC.out; omega
    have P1 := Lib.hid p1; have P2 := Lib.hid p2
    clear p1 p2 p3
    by_cases hlt : k < m
    · obtain ⟨p, q, hA, hlo, hhi, hg, hE⟩ := (H1.out.below AtomE.stays hb (Nat.le_refl _)).at_ hlt
      obtain ⟨A', n3, d3, e1, e3, e4, e5⟩ := hE.out
      clear hE
      subst hA
      have HG := Lib.hid hg; clear hg
      have HT := Lib.hid (e5.keep (w' := wr) (lo' := 0) (hi' := wr.heap.size) (fun _ _ _ => rfl) (Nat.le_refl _) hb.size); clear e5
      go_wp2_with fail
      refine (l3Put_any Av j cv _ q.1 A' n3 d3 q.2 _ HI.out e3 HT.out P2.out (by omega)).mono ?_; rintro e w0 ⟨A4, c4, rs4, rfl, hi4, hm4, hb4⟩
      have HB4 := belowThen hb hb4
      have X4 := hX.below hb4
      have I4 := hi4.atoms
      rw [hm4] at I4
      obtain ⟨n4, hn4⟩ : ∃ z, rs4.length = z := ⟨_, rfl⟩
      rw [hn4] at I4 ⊢
      have HI4 := Lib.hid I4
      clear hi4 hm4 hn4 I4 e1 e4 b0 b1
      go_wp2
      go_roundw
      case rel => exact ⟨k + 1, n4, A4, c4, by omega, by go_num, rfl, by rw [do_step HG.out]; exact HI4.out, X4, HB4⟩
      case measure => simp [intOf]; omega
    · have hxs : (cs.take k).foldl putL (lessL xs gs) = doL xs cs gs := by rw [List.take_of_length_le (by have := HC.out; omega)]; rfl
      have E := Lib.hid hxs; clear hxs
      go_wp2_with fail
      refine (l3Copy_any Av j cv _ _ HI.out (facts_small P1.out (by omega))).mono ?_; rintro e w5 hpost
      rw [E.out] at hpost
      obtain ⟨A5, c5, rs5, rfl, ho5, hm5, hb5⟩ := hpost
      have HB5 := belowThen hb hb5
      have hz := hb.size
      have O5 := Lib.hid (ho5.keep (w' := w5) (lo' := w.heap.size) (hi' := w5.heap.size) (fun _ _ _ => rfl) hz (Nat.le_refl _)); have M5 := Lib.hid hm5; clear ho5 hm5
      obtain ⟨n5, hn5⟩ : ∃ z, (doL xs cs gs).length = z := ⟨_, rfl⟩
      have N5 := Lib.hid hn5
      rw [hn5]; clear hn5
      go_wp2
      go_ret; exact ⟨A5, c5, rs5, by rw [N5.out]; rfl, O5.out, M5.out, HB5⟩

set_option maxRecDepth 100000 in
set_option maxHeartbeats 4000000 in
theorem specChangeDo_any (A : Option Addr) (n c : Nat) (xs : List At) (B : Option Addr) (m d : Nat) (cs : List At) (D : Option Addr) (m' d' : Nat) (gs : List At) (w : World) (h : IsAtoms w 0 w.heap.size A n c xs) (h1 : IsAtoms w 0 w.heap.size B m d cs) (h2 : IsAtoms w 0 w.heap.size D m' d' gs) :
    Calls Try.prog 33 #[.slice A n c, .agg #[.slice B m d, .slice D m' d']] w (CopySPost (doneL xs cs gs).1 w) := by
  have HX := Lib.hid h.1; have HC := Lib.hid h1.1
  have H := Lib.hid h; have H1 := Lib.hid h1; have H2 := Lib.hid h2; clear h h1 h2
  have hw1 := below1 w (.cells #[.slice B m d, .slice D m' d'] 38)
  have B1 := Blk.new w 38 #[.slice B m d, .slice D m' d']
  go_enter Try.func33, Try.ntmps33
  go_wp2_with fail
  refine (specFactsOk_any A n c xs _ (H.out.up AtomE.stays hw1)).mono ?_; rintro e w2 ⟨rfl, hb2⟩
  have HB2 := belowThen hw1 hb2
  have B2 := B1.below hb2
  have b0 : w2.cell? ⟨w.heap.size, 0, none⟩ = some (.slice B m d) := B2.cell 0
  have b1 : w2.cell? ⟨w.heap.size, 1, none⟩ = some (.slice D m' d') := B2.cell 1
  by_cases hx : (!factsB 300 xs) = true
  · have E := Lib.hid (doneL_no1 (cs := cs) (gs := gs) hx)
    go_wp2
    go_ret; rw [E.out]; exact ⟨_, _, [], rfl, ⟨rfl, Nat.le_refl _, Nat.zero_le _, fun h0 => absurd h0 (by simp), OwnIn.nil⟩, rfl, HB2.alloc HB2.size _⟩
  · have hx' : (!factsB 300 xs) = false := by simpa using hx
    clear hx
    go_wp2_with fail
    refine (specChangeOk_any B D m d m' d' cs gs _ (H1.out.up AtomE.stays HB2) (H2.out.up AtomE.stays HB2)).mono ?_; rintro e w3 ⟨rfl, hb3⟩
    have HB3 := belowThen HB2 hb3
    have B3 := B2.below hb3
    clear b0 b1
    have b0 : w3.cell? ⟨w.heap.size, 0, none⟩ = some (.slice B m d) := B3.cell 0
    have b1 : w3.cell? ⟨w.heap.size, 1, none⟩ = some (.slice D m' d') := B3.cell 1
    by_cases hy : (!changeB cs gs) = true
    · have E := Lib.hid (doneL_no2 (xs := xs) hy)
      go_wp2
      go_ret; rw [E.out]; exact ⟨_, _, [], rfl, ⟨rfl, Nat.le_refl _, Nat.zero_le _, fun h0 => absurd h0 (by simp), OwnIn.nil⟩, rfl, HB3.alloc HB3.size _⟩
    · have hy' : (!changeB cs gs) = false := by simpa using hy
      clear hy
      obtain ⟨fc, fg⟩ := changeB_parts hy'
      have fx : factsB 300 xs = true := by simpa using hx'
      have lx := factsB_len fx; have lc := factsB_len fc
      have ex := HX.out; have ec := HC.out
      have FX := Lib.hid (facts_all fx); have RX := Lib.hid (factsB_rises fx); have FC := Lib.hid (facts_all fc); have RG := Lib.hid (factsB_rises fg)
      clear fx fc fg
      have hn : n ≤ 1000 := by omega
      have hm : m ≤ 1000 := by omega
      clear lx lc ex ec
      go_wp2_with fail
      refine (l3Do_any A n c xs B m d cs D m' d' gs _ (H.out.up AtomE.stays HB3) (H1.out.up AtomE.stays HB3) (H2.out.up AtomE.stays HB3) FX.out RX.out FC.out RG.out hn hm).mono ?_; rintro e w4 ⟨A4, c4, rs4, rfl, ho4, hm4, hb4⟩
      have HB4 := belowThen HB3 hb4
      have hz := HB3.size
      have I4 := ho4.atoms
      rw [hm4] at I4
      obtain ⟨P, hP⟩ : ∃ z, doL xs cs gs = z := ⟨_, rfl⟩
      have EP := Lib.hid hP
      rw [hP] at I4 ho4 hm4 ⊢
      clear hP
      have I4' := Lib.hid (I4.keep AtomE.stays (w' := w4) (lo' := 0) (hi' := w4.heap.size) (fun _ _ _ => rfl) (Nat.zero_le _) (Nat.le_refl _))
      have O4 := Lib.hid (ho4.keep (w' := w4) (lo' := w.heap.size) (hi' := w4.heap.size) (fun _ _ _ => rfl) hz (Nat.le_refl _)); have M4 := Lib.hid hm4; clear ho4 hm4 I4
      clear b0 b1
      go_wp2_with fail
      refine (specFactsOk_any A4 P.length c4 P _ I4'.out).mono ?_; rintro e w5 ⟨rfl, hb5⟩
      have HB5 := belowThen HB4 hb5
      by_cases hq : (!factsB 300 P) = true
      · have E := Lib.hid (doneL_no3 (xs := xs) (cs := cs) (gs := gs) (by rw [EP.out]; exact hq))
        go_wp2
        go_ret; rw [E.out]; exact ⟨_, _, [], rfl, ⟨rfl, Nat.le_refl _, Nat.zero_le _, fun h0 => absurd h0 (by simp), OwnIn.nil⟩, rfl, HB5.alloc HB5.size _⟩
      · have hq' : (!factsB 300 P) = false := by simpa using hq
        clear hq
        have E := Lib.hid (doneL_yes hx' hy' (by rw [EP.out]; exact hq'))
        have hs5 := hb5.size
        go_wp2
        go_ret; rw [E.out, EP.out]; exact ⟨A4, c4, rs4, rfl, (O4.out.below hb5 (Nat.le_refl _)).keep (fun _ _ _ => rfl) (Nat.le_refl _) hs5, M4.out, HB5⟩

end Go.Proofs.Ytbhkihnekendbaa
