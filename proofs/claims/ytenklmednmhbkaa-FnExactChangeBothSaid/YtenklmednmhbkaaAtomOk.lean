/-
  Atoms that are ok: what the program and its model answer.
-/
import Derived.Test.YtenklmednmhbkaaTermOk
import Derived.Deep.RegionWith
namespace Go.Proofs.Ytenklmednmhbkaa
open Go.RowKit

def argsB (ts : List Tm) : Bool := ts.all termB
def atomB (a : At) : Bool := argsB a.2 && (nameB a.1.data.toList && decide (a.2.length ≤ 3))

theorem argsB_snoc {ts : List Tm} {k : Nat} {t : Tm} (h : ts[k]? = some t) (hr : argsB (ts.take k) = true) (ht : termB t = true) : argsB (ts.take (k + 1)) = true := by
  obtain ⟨h1, h2⟩ := List.getElem?_eq_some_iff.1 h
  unfold argsB at *
  rw [List.take_succ_eq_append_getElem h1, List.all_append, hr, h2]; simp [ht]

theorem argsB_no {ts : List Tm} {k : Nat} {t : Tm} (h : ts[k]? = some t) (ht : termB t = false) : argsB ts = false := by
  unfold argsB
  rw [List.all_eq_false]
  exact ⟨t, List.mem_of_getElem? h, by simp [ht]⟩

theorem argsB_all {ts : List Tm} {k n : Nat} (h : ts.length = n) (hk : ¬ k < n) (hr : argsB (ts.take k) = true) : argsB ts = true := by
  rwa [List.take_of_length_le (by omega)] at hr

theorem term_yes {t : Tm} (h : (!termB (t.1, t.2)) = false) : termB t = true := by simpa using h

theorem atomB_no {nm : ByteArray} {ts : List Tm} {k : Nat} {t : Tm} (h : ts[k]? = some t) (ht : (!termB (t.1, t.2)) = true) : atomB (nm, ts) = false := by
  unfold atomB
  rw [argsB_no h (by simpa using ht)]; rfl

theorem atomB_end {nm : ByteArray} {ts : List Tm} {n : Nat} (hl : ts.length = n) (h : argsB ts = true) : atomB (nm, ts) = (nameB nm.data.toList && decide ((n : Int) ≤ 3)) := by
  unfold atomB
  rw [h, Bool.true_and, hl]
  congr 1
  rw [decide_eq_decide]; omega

theorem atomB_short {nm : ByteArray} {ts : List Tm} {n : Nat} (hl : ts.length = n) (h : nameB nm.data.toList = false ∨ 3 < (n : Int)) : atomB (nm, ts) = false := by
  unfold atomB
  rcases h with h | h
  · simp [h]
  · have : decide (ts.length ≤ 3) = false := by rw [decide_eq_false_iff_not]; omega
    simp [this]

set_option maxHeartbeats 400000 in
theorem specAtomOk_any (nm : ByteArray) (A : Option Addr) (n c : Nat) (ts : List Tm) (w : World) (hs : nm.size ≤ maxLen) (h : IsTerms w 0 w.heap.size A n c ts) :
    Calls Try.prog 96 #[.agg #[.string nm, .slice A n c]] w (BoolPost (atomB (nm, ts)) w) := by
  have hm : n ≤ maxLen := by have := h.2.1; have := h.2.2.1; omega
  unfold maxLen at hm
  have H := Lib.hid h; clear h
  go_enter Try.func96, Try.ntmps96
  go_wp2
  have hw0 := below1 w (.cells #[.string nm, .slice A n c] 26)
  go_loopw [3] (fun i wr => ∃ k : Nat, k ≤ n ∧ i = .int .i64 k ∧ argsB (ts.take k) = true ∧ Below (w.alloc (.cells #[.string nm, .slice A n c] 26)).heap.size (w.alloc (.cells #[.string nm, .slice A n c] 26)) wr) (fun i _ => n - (intOf i).toNat)
  case atStart => exact ⟨0, Nat.zero_le _, rfl, rfl, Below.refl _ _⟩
  case round =>
    obtain ⟨k, hk, rfl, hd, hb⟩ := hrel
    have HD := Lib.hid hd; clear hd
    obtain ⟨hc, hf⟩ := oldCells hb
    by_cases hlt : k < n
    · obtain ⟨p, t, hA, hlo, hhi, hg, c1, c2, c3⟩ := ((H.out.up hw0).below hb (Nat.le_refl _)).at_ hlt
      subst hA
      have HG := Lib.hid hg; clear hg
      go_wp2_with (go_at_call 114; refine (l1Term_any _ _ _ c3).mono ?_; rintro e w1 ⟨rfl, hb1⟩)
      · go_ret; exact ⟨retB (atomB_no HG.out (by assumption)).symm, belowThen hw0 (belowThen hb hb1)⟩
      · go_roundw
        case rel => exact ⟨k + 1, by omega, by go_num, argsB_snoc HG.out HD.out (term_yes (by assumption)), belowThen hb hb1⟩
        case measure => simp [intOf]; omega
    · go_wp2_with (go_at_call 115; refine (specName_any _ _ hs).mono ?_; rintro e w' ⟨rfl, rfl⟩)
      all_goals (go_ret; exact ⟨retB (by rw [atomB_end H.out.1 (argsB_all H.out.1 hlt HD.out)]; simp_all), belowThen hw0 hb⟩)

set_option maxHeartbeats 400000 in
theorem termWord_any (s : ByteArray) (w : World) :
    Calls Try.prog 106 #[.agg #[.bool false, .string s]] w fun e w' => e = .returned (.iface 125 (.string s)) ∧ Below w.heap.size w w' := by
  go_enter Try.func106, Try.ntmps106
  go_wp2
  go_ret
  exact ⟨rfl, below1 _ _⟩

set_option maxHeartbeats 400000 in
theorem termVar_any (s : ByteArray) (w : World) :
    Calls Try.prog 106 #[.agg #[.bool true, .string s]] w fun e w' => e = .returned (.iface 124 (.string s)) ∧ Below w.heap.size w w' := by
  go_enter Try.func106, Try.ntmps106
  go_wp2
  go_ret
  exact ⟨rfl, below1 _ _⟩

/-- The method's whole name. -/
def okName : String := String.intercalate (String.singleton (Char.ofNat 47)) ["loop.example", "springhead", "impl.ok"]

theorem method_word (k : Nat) (nm : String) (s : ByteArray) (w : World) (h : nm = okName) : (method (k + 1) 125 (.string s) nm).run Try.prog w = .ok (138, .string s) w := by
  subst h; kernel_rfl
theorem method_variable (k : Nat) (nm : String) (s : ByteArray) (w : World) (h : nm = okName) : (method (k + 1) 124 (.string s) nm).run Try.prog w = .ok (136, .string s) w := by
  subst h; kernel_rfl

set_option maxHeartbeats 400000 in
theorem implAtomOk_any (nm : ByteArray) (A : Option Addr) (n c : Nat) (ts : List Tm) (w : World) (hs : nm.size ≤ maxLen) (h : IsTerms w 0 w.heap.size A n c ts) :
    Calls Try.prog 89 #[.agg #[.string nm, .slice A n c]] w (BoolPost (atomB (nm, ts)) w) := by
  have hm : n ≤ maxLen := by have := h.2.1; have := h.2.2.1; omega
  unfold maxLen at hm
  have H := Lib.hid h; clear h
  have hw0 := below1 w (.cells #[.string nm, .slice A n c] 26)
  go_enter Try.func89, Try.ntmps89
  go_wp2_with (go_at_call 105; refine (implName_any _ _ hs).mono ?_; rintro e w' ⟨rfl, rfl⟩)
  · go_ret; exact ⟨retB (atomB_short H.out.1 (.inr (by assumption))).symm, hw0⟩
  · have hn3 : (n : Int) ≤ 3 := by assumption
    go_loopw [4, 18] (fun _ i wr => ∃ k : Nat, k ≤ n ∧ i = .int .i64 k ∧ argsB (ts.take k) = true ∧ Below (w.alloc (.cells #[.string nm, .slice A n c] 26)).heap.size (w.alloc (.cells #[.string nm, .slice A n c] 26)) wr) (fun _ i _ => n - (intOf i).toNat)
    case atStart => exact ⟨0, Nat.zero_le _, rfl, rfl, Below.refl _ _⟩
    case round =>
      obtain ⟨k, hk, rfl, hd, hb⟩ := hrel
      have HD := Lib.hid hd; clear hd
      obtain ⟨hc, hf⟩ := oldCells hb
      by_cases hlt : k < n
      · obtain ⟨p, ⟨v, s⟩, hA, hlo, hhi, hg, c1, c2, c3⟩ := ((H.out.up hw0).below hb (Nat.le_refl _)).at_ hlt
        subst hA
        have HG := Lib.hid hg; clear hg
        cases v
        · go_wp2_with (first
            | (go_at_call 106; refine (termWord_any _ _).mono ?_; rintro e w1 ⟨rfl, hb1⟩; have hb2 := belowThen hb (belowThen (below1 _ _) hb1); clear hb1)
            | (go_at_call 138; refine (word_any _ _ c3).mono ?_; rintro e w' ⟨rfl, rfl⟩)
            | (rw [method_word (h := ?hname)]; rotate_left; case hname => kernel_rfl))
          · go_ret; exact ⟨retB (atomB_no HG.out (by assumption)).symm, belowThen hw0 hb2⟩
          · go_roundw
            case rel => exact ⟨k + 1, by omega, by go_num, argsB_snoc HG.out HD.out (term_yes (by assumption)), hb2⟩
            case measure => simp [intOf]; omega
        · go_wp2_with (first
            | (go_at_call 106; refine (termVar_any _ _).mono ?_; rintro e w1 ⟨rfl, hb1⟩; have hb2 := belowThen hb (belowThen (below1 _ _) hb1); clear hb1)
            | (go_at_call 136; refine (variable_any _ _ c3).mono ?_; rintro e w' ⟨rfl, rfl⟩)
            | (rw [method_variable (h := ?hname)]; rotate_left; case hname => kernel_rfl))
          · go_ret; exact ⟨retB (atomB_no HG.out (by assumption)).symm, belowThen hw0 hb2⟩
          · go_roundw
            case rel => exact ⟨k + 1, by omega, by go_num, argsB_snoc HG.out HD.out (term_yes (by assumption)), hb2⟩
            case measure => simp [intOf]; omega
      · go_wp2
        go_ret
        exact ⟨retB (by rw [atomB_end H.out.1 (argsB_all H.out.1 hlt HD.out)]; simp_all), belowThen hw0 hb⟩
  · go_ret; exact ⟨retB (atomB_short H.out.1 (.inl (by simp_all))).symm, hw0⟩

end Go.Proofs.Ytenklmednmhbkaa
