/-
  Facts with one, and without one, in the model. (Written by tools/factspec.py.)
-/
import Derived.Test.YtbhkihnekendbaaL3Less
namespace Go.Proofs.Ytbhkihnekendbaa
open Go.RowKit

/-- What FactsAdd answers. -/
def addL (xs : List At) (a : At) : List At × Bool := if factsB 300 xs then (if factB a && (!hasB xs a && decide (xs.length < 300)) then (putL xs a, true) else (xs, false)) else ([], false)
/-- What FactsGone answers. -/
def goneL (xs : List At) (a : At) : List At × Bool := if factsB 300 xs then (if factB a && hasB xs a then (xs.filter (fun y => !hasB [a] y), true) else (xs, false)) else ([], false)

theorem addL_no {xs : List At} {a : At} (h : (!factsB 300 xs) = true) : addL xs a = ([], false) := by unfold addL; rw [show factsB 300 xs = false by simpa using h]; rfl
theorem addL_as {xs : List At} {a : At} (h : (!factsB 300 xs) = false) (h' : (factB a && (!hasB xs a && decide (xs.length < 300))) = false) : addL xs a = (xs, false) := by unfold addL; rw [show factsB 300 xs = true by simpa using h, h']; rfl
theorem addL_yes {xs : List At} {a : At} (h : (!factsB 300 xs) = false) (h' : (factB a && (!hasB xs a && decide (xs.length < 300))) = true) : addL xs a = (putL xs a, true) := by unfold addL; rw [show factsB 300 xs = true by simpa using h, h']; rfl
theorem goneL_no {xs : List At} {a : At} (h : (!factsB 300 xs) = true) : goneL xs a = ([], false) := by unfold goneL; rw [show factsB 300 xs = false by simpa using h]; rfl
theorem goneL_as {xs : List At} {a : At} (h : (!factsB 300 xs) = false) (h' : (factB a && hasB xs a) = false) : goneL xs a = (xs, false) := by unfold goneL; rw [show factsB 300 xs = true by simpa using h, h']; rfl
theorem goneL_yes {xs : List At} {a : At} (h : (!factsB 300 xs) = false) (h' : (factB a && hasB xs a) = true) : goneL xs a = (xs.filter (fun y => !hasB [a] y), true) := by unfold goneL; rw [show factsB 300 xs = true by simpa using h, h']; rfl

theorem fact_small {a : At} (h : factB a = true) : a.2.length ≤ 1048576 := by
  unfold factB at h
  rw [Bool.and_eq_true] at h
  have h2 := h.2
  unfold atomB at h2
  simp only [Bool.and_eq_true, decide_eq_true_eq] at h2
  omega

theorem facts_all {m : Nat} {xs : List At} (h : factsB m xs = true) : FactsAll xs := by
  unfold factsB at h
  simp only [Bool.and_eq_true] at h
  exact fun a ha => List.all_eq_true.1 h.1.1 a ha

theorem facts_small {n : Nat} {xs : List At} (h : FactsAll xs) (hn : n ≤ 1048576) : SmallAtoms n xs := ⟨hn, fun q hq => fact_small (h q hq)⟩

theorem addL_small {xs P : List At} {a : At} {q : Bool} (h : addL xs a = (P, q)) : SmallAtoms P.length P := by
  unfold addL at h
  split at h
  · rename_i hf
    have hF := facts_all hf
    have hl := factsB_len hf
    split at h
    · rename_i hc
      rw [Bool.and_eq_true] at hc
      injection h with h1 _
      have h2 := put_len xs a
      rw [h1] at h2
      exact facts_small (h1 ▸ put_facts hF hc.1) (by omega)
    · injection h with h1 _
      rw [← h1]
      exact facts_small hF (by omega)
  · injection h with h1 _
    rw [← h1]
    exact ⟨by simp, fun q hq => by simp at hq⟩

theorem goneL_small {xs P : List At} {a : At} {q : Bool} (h : goneL xs a = (P, q)) : SmallAtoms P.length P := by
  unfold goneL at h
  split at h
  · rename_i hf
    have hF := facts_all hf
    have hl := factsB_len hf
    split at h
    · injection h with h1 _
      have h2 := List.length_filter_le (fun y => !hasB [a] y) xs
      rw [h1] at h2
      refine facts_small (fun b hb => hF b ?_) (by omega)
      rw [← h1] at hb
      exact (List.mem_filter.1 hb).1
    · injection h with h1 _
      rw [← h1]
      exact facts_small hF (by omega)
  · injection h with h1 _
    rw [← h1]
    exact ⟨by simp, fun q hq => by simp at hq⟩

/-- A list and whether it was done, handed back. -/
def ReadBPost (p : List At × Bool) (w : World) (e : Ending) (w' : World) : Prop := ∃ A c rs, e = .returned (.tuple #[.slice A rs.length c, .bool p.2]) ∧ IsRefs w' 0 w'.heap.size A rs.length c rs ∧ rs.map rAt = p.1 ∧ Below w.heap.size w w'

theorem OwnRefs.read {w : World} {lo n c : Nat} {A : Option Addr} {rs : List Rf} (h : OwnRefs w lo w.heap.size A n c rs) : IsRefs w 0 w.heap.size A n c rs := h.refs.keep RefE.stays (fun _ _ _ => rfl) (Nat.zero_le _) (Nat.le_refl _)

theorem read_copy {w w1 w2 : World} {A : Option Addr} {c : Nat} {rs : List Rf} {xs : List At} {p : List At × Bool} (hp : p = (xs, false)) (ho : OwnRefs w2 w1.heap.size w2.heap.size A xs.length c rs) (hm : rs.map rAt = xs) (hB : Below w.heap.size w w1) (hb : Below w1.heap.size w1 w2) :
    ReadBPost p w (.returned (.tuple #[.slice A xs.length c, .bool false])) w2 := by
  subst hp
  have hl := ho.1
  rw [← hl] at ho
  exact ⟨A, c, rs, by rw [hl], ho.read, hm, belowThen hB hb⟩

theorem read_copy1 {w w1 w2 : World} {A : Option Addr} {c : Nat} {rs : List Rf} {xs : List At} {p : List At × Bool} (hp : p = (xs, true)) (ho : OwnRefs w2 w1.heap.size w2.heap.size A xs.length c rs) (hm : rs.map rAt = xs) (hB : Below w.heap.size w w1) (hb : Below w1.heap.size w1 w2) :
    ReadBPost p w (.returned (.tuple #[.slice A xs.length c, .bool true])) w2 := by
  subst hp
  have hl := ho.1
  rw [← hl] at ho
  exact ⟨A, c, rs, by rw [hl], ho.read, hm, belowThen hB hb⟩

set_option maxRecDepth 100000 in
set_option maxHeartbeats 4000000 in
theorem specFactsAdd_any (A : Option Addr) (n c : Nat) (xs : List At) (nm : ByteArray) (B : Option Addr) (m d : Nat) (ts : List Tm) (w : World) (h : IsAtoms w 0 w.heap.size A n c xs) (hs : nm.size ≤ maxLen) (h' : IsTerms w 0 w.heap.size B m d ts) :
    Calls Try.prog 16 #[.slice A n c, .agg #[.string nm, .slice B m d]] w (ReadBPost (addL xs (nm, ts)) w) := by
  have H := Lib.hid h; have H' := Lib.hid h'; clear h h'
  have HX := Lib.hid H.out.1
  have hw1 := below1 w (.cells #[.string nm, .slice B m d] 26)
  have X1 := Lib.hid (Box.new w (.string nm) (.slice B m d) 26)
  go_enter Try.func16, Try.ntmps16
  go_wp2_with fail
  refine (specFactsOk_any A n c xs _ (H.out.up AtomE.stays hw1)).mono ?_; rintro e w2 ⟨rfl, hb2⟩
  have HB2 := belowThen hw1 hb2
  have X2 := Lib.hid (X1.out.later hb2); clear X1
  obtain ⟨b0, b1, b2⟩ := X2.out
  by_cases hx : (!factsB 300 xs) = true
  · have E := Lib.hid (addL_no (a := (nm, ts)) hx)
    go_wp2
    go_ret2
    rw [E.out]
    exact ⟨_, _, [], rfl, ⟨rfl, Nat.le_refl _, Nat.zero_le _, fun h0 => absurd h0 (by simp)⟩, rfl, belowThen HB2 (below1 w2 _)⟩
  · have hx' : (!factsB 300 xs) = false := by simpa using hx
    clear hx
    have hF := facts_all (show factsB 300 xs = true by simpa using hx')
    have hr := factsB_rises (show factsB 300 xs = true by simpa using hx')
    have hl300 := factsB_len (show factsB 300 xs = true by simpa using hx')
    rw [HX.out] at hl300
    have HF := Lib.hid hF; have HRS := Lib.hid hr; clear hF hr
    have HS := Lib.hid (facts_small HF.out (show n ≤ 1048576 by omega))
    have HFX := Lib.hid hx'
    go_wp2_with fail
    refine (l3At_any A n c xs nm B m d ts _ (H.out.up AtomE.stays HB2) (H'.out.up HB2) HRS.out).mono ?_; rintro e w3 ⟨k, ⟨rfl, -, -, -⟩, hb3⟩
    have HB3 := belowThen HB2 hb3
    have X3 := Lib.hid (X2.out.later hb3); clear X2 b0 b1 b2
    obtain ⟨b0, b1, b2⟩ := X3.out
    go_wp2_with fail
    refine (l3Ground_any nm B m d ts _ hs (H'.out.up HB3)).mono ?_; rintro e w4 ⟨rfl, hb4⟩
    have HB4 := belowThen HB3 hb4
    have X4 := Lib.hid (X3.out.later hb4); clear X3 b0 b1 b2
    obtain ⟨b0, b1, b2⟩ := X4.out
    cases hg : factB (nm, ts)
    · have hnn : (!false) = true := rfl
      have E := Lib.hid (addL_as (a := (nm, ts)) HFX.out (by rw [hg]; rfl))
      go_wp2_with fail
      refine (l3Copy_any A n c xs _ (H.out.up AtomE.stays HB4) HS.out).mono ?_; rintro e w5 ⟨A5, c5, rs5, rfl, ho5, hm5, hb5⟩
      have O5 := Lib.hid ho5; have M5 := Lib.hid hm5; clear ho5 hm5
      go_wp2
      go_ret2; exact read_copy E.out O5.out M5.out HB4 hb5
    · cases hh : hasB xs (nm, ts)
      · by_cases hlen : 300 ≤ n
        · have hli : (300 : Int) ≤ (n : Int) := by omega
          have E := Lib.hid (addL_as (a := (nm, ts)) HFX.out (by rw [hg, hh, decide_eq_false (by rw [HX.out]; omega)]; rfl))
          go_wp2_with fail
          refine (l3Copy_any A n c xs _ (H.out.up AtomE.stays HB4) HS.out).mono ?_; rintro e w5 ⟨A5, c5, rs5, rfl, ho5, hm5, hb5⟩
          have O5 := Lib.hid ho5; have M5 := Lib.hid hm5; clear ho5 hm5
          go_wp2
          go_ret2; exact read_copy E.out O5.out M5.out HB4 hb5
        · have hli : ¬ (300 : Int) ≤ (n : Int) := by omega
          have E := Lib.hid (addL_yes (a := (nm, ts)) HFX.out (by rw [hg, hh, decide_eq_true (by rw [HX.out]; omega)]; rfl))
          have HG := Lib.hid hg; clear hg hh
          go_wp2_with fail
          refine (l3Put_any A n c xs nm B m d ts _ (H.out.up AtomE.stays HB4) hs (H'.out.up HB4) HRS.out (by omega)).mono ?_; rintro e w5 ⟨A5, c5, rs5, rfl, hi5, hm5, hb5⟩
          have HB5 := belowThen HB4 hb5
          have hl5 : rs5.length ≤ 1048576 := by
            have h1 := put_len xs (nm, ts)
            have h2 := HX.out
            rw [← hm5, List.length_map] at h1; omega
          have hS5 := facts_small (n := rs5.length) (put_facts HF.out HG.out) hl5
          rw [← hm5] at hS5
          have i5 := hi5.atoms; clear hl5; generalize rs5.map rAt = x5 at i5 hS5 hm5; have I5 := Lib.hid i5; have S5 := Lib.hid hS5; have M5 := Lib.hid hm5; clear hi5 i5 hS5 hm5
          go_wp2_with fail
          refine (l3Copy_any A5 rs5.length c5 x5 _ I5.out S5.out).mono ?_; rintro e w6 ⟨A6, c6, rs6, rfl, ho6, hm6, hb6⟩
          have O6 := Lib.hid ho6; have M6 := Lib.hid hm6; clear ho6 hm6
          go_wp2
          go_ret2; exact read_copy1 (E.out.trans (by rw [M5.out])) O6.out M6.out HB5 hb6
      · have hnn : (!true) = false := rfl
        have E := Lib.hid (addL_as (a := (nm, ts)) HFX.out (by rw [hg, hh]; rfl))
        go_wp2_with fail
        refine (l3Copy_any A n c xs _ (H.out.up AtomE.stays HB4) HS.out).mono ?_; rintro e w5 ⟨A5, c5, rs5, rfl, ho5, hm5, hb5⟩
        have O5 := Lib.hid ho5; have M5 := Lib.hid hm5; clear ho5 hm5
        go_wp2
        go_ret2; exact read_copy E.out O5.out M5.out HB4 hb5

set_option maxRecDepth 100000 in
set_option maxHeartbeats 4000000 in
theorem specFactsGone_any (A : Option Addr) (n c : Nat) (xs : List At) (nm : ByteArray) (B : Option Addr) (m d : Nat) (ts : List Tm) (w : World) (h : IsAtoms w 0 w.heap.size A n c xs) (hs : nm.size ≤ maxLen) (h' : IsTerms w 0 w.heap.size B m d ts) :
    Calls Try.prog 24 #[.slice A n c, .agg #[.string nm, .slice B m d]] w (ReadBPost (goneL xs (nm, ts)) w) := by
  have H := Lib.hid h; have H' := Lib.hid h'; clear h h'
  have HX := Lib.hid H.out.1
  have hw1 := below1 w (.cells #[.string nm, .slice B m d] 26)
  have X1 := Lib.hid (Box.new w (.string nm) (.slice B m d) 26)
  go_enter Try.func24, Try.ntmps24
  go_wp2_with fail
  refine (specFactsOk_any A n c xs _ (H.out.up AtomE.stays hw1)).mono ?_; rintro e w2 ⟨rfl, hb2⟩
  have HB2 := belowThen hw1 hb2
  have X2 := Lib.hid (X1.out.later hb2); clear X1
  obtain ⟨b0, b1, b2⟩ := X2.out
  by_cases hx : (!factsB 300 xs) = true
  · have E := Lib.hid (goneL_no (a := (nm, ts)) hx)
    go_wp2
    go_ret2
    rw [E.out]
    exact ⟨_, _, [], rfl, ⟨rfl, Nat.le_refl _, Nat.zero_le _, fun h0 => absurd h0 (by simp)⟩, rfl, belowThen HB2 (below1 w2 _)⟩
  · have hx' : (!factsB 300 xs) = false := by simpa using hx
    clear hx
    have hF := facts_all (show factsB 300 xs = true by simpa using hx')
    have hr := factsB_rises (show factsB 300 xs = true by simpa using hx')
    have hl300 := factsB_len (show factsB 300 xs = true by simpa using hx')
    rw [HX.out] at hl300
    have HF := Lib.hid hF; have HRS := Lib.hid hr; clear hF hr
    have HS := Lib.hid (facts_small HF.out (show n ≤ 1048576 by omega))
    have HFX := Lib.hid hx'
    go_wp2_with fail
    refine (l3At_any A n c xs nm B m d ts _ (H.out.up AtomE.stays HB2) (H'.out.up HB2) HRS.out).mono ?_; rintro e w3 ⟨k, ⟨rfl, -, -, -⟩, hb3⟩
    have HB3 := belowThen HB2 hb3
    have X3 := Lib.hid (X2.out.later hb3); clear X2 b0 b1 b2
    obtain ⟨b0, b1, b2⟩ := X3.out
    cases hh : hasB xs (nm, ts)
    · have hnn : (!false) = true := rfl
      have E := Lib.hid (goneL_as (a := (nm, ts)) HFX.out (by rw [hh, Bool.and_false]))
      go_wp2_with fail
      refine (l3Copy_any A n c xs _ (H.out.up AtomE.stays HB3) HS.out).mono ?_; rintro e w5 ⟨A5, c5, rs5, rfl, ho5, hm5, hb5⟩
      have O5 := Lib.hid ho5; have M5 := Lib.hid hm5; clear ho5 hm5
      go_wp2
      go_ret2; exact read_copy E.out O5.out M5.out HB3 hb5
    · go_wp2_with fail
      refine (l3Ground_any nm B m d ts _ hs (H'.out.up HB3)).mono ?_; rintro e w4 ⟨rfl, hb4⟩
      have HB4 := belowThen HB3 hb4
      have X4 := Lib.hid (X3.out.later hb4); clear X3 b0 b1 b2
      obtain ⟨b0, b1, b2⟩ := X4.out
      cases hg : factB (nm, ts)
      · have hnn : (!false) = true := rfl
        have E := Lib.hid (goneL_as (a := (nm, ts)) HFX.out (by rw [hg]; rfl))
        go_wp2_with fail
        refine (l3Copy_any A n c xs _ (H.out.up AtomE.stays HB4) HS.out).mono ?_; rintro e w5 ⟨A5, c5, rs5, rfl, ho5, hm5, hb5⟩
        have O5 := Lib.hid ho5; have M5 := Lib.hid hm5; clear ho5 hm5
        go_wp2
        go_ret2; exact read_copy E.out O5.out M5.out HB4 hb5
      · have E := Lib.hid (goneL_yes (a := (nm, ts)) HFX.out (by rw [hg, hh]; rfl))
        have HH := Lib.hid hh; clear hg hh
        go_wp2_with fail
        refine (l3Without_any A n c xs nm B m d ts _ (H.out.up AtomE.stays HB4) (H'.out.up HB4) HRS.out HH.out (by omega)).mono ?_; rintro e w5 ⟨A5, c5, rs5, rfl, hi5, hm5, hb5⟩
        have HB5 := belowThen HB4 hb5
        have hl5 : rs5.length ≤ 1048576 := by
          have h1 := List.length_filter_le (fun y => !hasB [(nm, ts)] y) xs
          have h2 := HX.out
          rw [← hm5, List.length_map] at h1; omega
        have hS5 := facts_small (n := rs5.length) (xs := rs5.map rAt) (fun a ha => HF.out a (by rw [hm5] at ha; exact (List.mem_filter.1 ha).1)) hl5
        have i5 := hi5.atoms; clear hl5; generalize rs5.map rAt = x5 at i5 hS5 hm5; have I5 := Lib.hid i5; have S5 := Lib.hid hS5; have M5 := Lib.hid hm5; clear hi5 i5 hS5 hm5
        go_wp2_with fail
        refine (l3Copy_any A5 rs5.length c5 x5 _ I5.out S5.out).mono ?_; rintro e w6 ⟨A6, c6, rs6, rfl, ho6, hm6, hb6⟩
        have O6 := Lib.hid ho6; have M6 := Lib.hid hm6; clear ho6 hm6
        go_wp2
        go_ret2; exact read_copy1 (E.out.trans (by rw [M5.out])) O6.out M6.out HB5 hb6

end Go.Proofs.Ytbhkihnekendbaa
