/-
  The law's own sizes tell how long all names are together.
-/
import Derived.Test.YtiekfjlhioekcaaDoorTree
namespace Go.Proofs.YtiekfjlhioekcaaDoor
open Go.RowKit

/-- How many terms there are, and how long their names are together. -/
def tmLen (ts : List Tm) : Nat := (ts.map fun t => t.2.size).sum + ts.length

theorem tmLen_snoc {ts : List Tm} {k : Nat} {t : Tm} (h : ts[k]? = some t) : tmLen (ts.take (k + 1)) = tmLen (ts.take k) + t.2.size + 1 := by
  obtain ⟨h1, h2⟩ := List.getElem?_eq_some_iff.1 h
  unfold tmLen
  rw [List.take_succ_eq_append_getElem h1, h2, List.map_append, List.sum_append, List.length_append]
  simp; omega

set_option maxHeartbeats 400000 in
theorem szTerm_len (v : Bool) (s : ByteArray) (z : Int) (w : World) (hs : s.size ≤ maxLen) (hz0 : 0 ≤ z) (hz1 : z ≤ 1048576) :
    Calls Tryd.prog 37 #[.agg #[.bool v, .string s], .int .i64 z] w (SzTPost z (fun y => (s.size : Int) ≤ z - y) w) := by
  unfold maxLen at hs
  go_enter Tryd.func37, Tryd.ntmps37
  go_wp2
  all_goals (go_ret; exact ⟨_, ⟨rfl, by omega, by omega, fun _ => by omega⟩, (Below.refl _ _).alloc (Nat.le_refl _) _⟩)

set_option maxHeartbeats 400000 in
theorem szTermS_len (A : Option Addr) (n c : Nat) (ts : List Tm) (z : Int) (w : World) (h : IsTerms w 0 w.heap.size A n c ts) (hz0 : 0 ≤ z) (hz1 : z ≤ 1048576) :
    Calls Tryd.prog 24 #[.slice A n c, .int .i64 z] w (SzTPost z (fun y => n ≤ 1048576 ∧ (tmLen ts : Int) ≤ z - y) w) := by
  have hn : n ≤ maxLen := by have := h.2.1; have := h.2.2.1; omega
  unfold maxLen at hn
  have H := Lib.hid h; clear h
  go_enter Tryd.func24, Tryd.ntmps24
  go_wp2
  · go_ret; exact ⟨_, ⟨rfl, by omega, by omega, by omega⟩, Below.refl _ _⟩
  · have hzn : 0 ≤ z - (n : Int) := by assumption
    go_loopw [1, 5] (fun x i wr => ∃ (k : Nat) (y : Int), k ≤ n ∧ i = .int .i64 k ∧ x = .int .i64 y ∧ 0 ≤ y ∧ y ≤ z - n ∧ (tmLen (ts.take k) : Int) ≤ z - n + k - y ∧ Below w.heap.size w wr) (fun _ i _ => n - (intOf i).toNat)
    case atStart => exact ⟨0, _, Nat.zero_le _, rfl, rfl, by omega, by omega, by simp [tmLen], Below.refl _ _⟩
    case round =>
      obtain ⟨k, y, hk, rfl, rfl, hy0, hy1, hl, hb⟩ := hrel
      have HL := Lib.hid hl; clear hl
      by_cases hlt : k < n
      · obtain ⟨p, t, hA, hlo, hhi, hg, c1, c2, c3⟩ := (H.out.below hb (Nat.le_refl _)).at_ hlt
        subst hA
        have HG := Lib.hid hg; clear hg
        go_wp2_with (go_at_call 37; refine (szTerm_len _ _ _ _ c3 hy0 (by omega)).mono ?_; rintro e w1 ⟨y1, ⟨rfl, hy2, hy3, hy4⟩, hb1⟩)
        · go_ret; exact ⟨_, ⟨rfl, by omega, by omega, by omega⟩, hb.trans (hb1.mono hb.size)⟩
        · have h9 := hy4 (by assumption)
          go_roundw
          case rel => exact ⟨k + 1, y1, by omega, by go_num, rfl, by omega, by omega, by rw [tmLen_snoc HG.out]; have := HL.out; omega, hb.trans (hb1.mono hb.size)⟩
          case measure => simp [intOf]; omega
      · have hs : (tmLen ts : Int) ≤ z - y := by
          have := HL.out
          rw [List.take_of_length_le (by rw [H.out.1]; omega)] at this
          omega
        have HS := Lib.hid hs
        clear hs
        go_wp2
        go_ret; exact ⟨_, ⟨rfl, by omega, by omega, fun _ => ⟨by omega, HS.out⟩⟩, hb⟩

set_option maxHeartbeats 400000 in
theorem szAtom_len (nm : ByteArray) (A : Option Addr) (n c : Nat) (ts : List Tm) (z : Int) (w : World) (hs : nm.size ≤ maxLen) (h : IsTerms w 0 w.heap.size A n c ts) (hz0 : 0 ≤ z) (hz1 : z ≤ 1048576) :
    Calls Tryd.prog 9 #[.agg #[.string nm, .slice A n c], .int .i64 z] w (SzTPost z (fun y => n ≤ 1048576 ∧ ((nm.size + tmLen ts : Nat) : Int) ≤ z - y) w) := by
  unfold maxLen at hs
  have H := Lib.hid h; clear h
  go_enter Tryd.func9, Tryd.ntmps9
  have hb0 : Below w.heap.size w (w.alloc (.cells #[.string nm, .slice A n c] 24)) := (Below.refl _ _).alloc (Nat.le_refl _) _
  have H1 := Lib.hid ((H.out.below hb0 (Nat.le_refl _)).keep (hi' := (w.alloc (.cells #[.string nm, .slice A n c] 24)).heap.size) (lo' := 0) (fun _ _ _ => rfl) (Nat.le_refl _) hb0.size)
  go_wp2_with (go_at_call 24; refine (szTermS_len _ _ _ ts _ _ H1.out (by omega) (by omega)).mono ?_; rintro e w1 ⟨y1, ⟨rfl, hy2, hy3, hy4⟩, hb1⟩)
  · go_ret; exact ⟨_, ⟨rfl, by omega, by omega, by omega⟩, hb0⟩
  · go_ret; exact ⟨_, ⟨rfl, by omega, by omega, by omega⟩, hb0.trans (hb1.mono (by simp))⟩
  · have h9 := hy4 (by assumption)
    go_ret; exact ⟨_, ⟨rfl, by omega, by omega, fun _ => ⟨h9.1, by omega⟩⟩, hb0.trans (hb1.mono (by simp))⟩

/-- How long all names of a proof are together. -/
def lenT : Nat → Tr → Nat
  | 0 => fun _ => 0
  | d + 1 => fun t => t.a.1.size + tmLen t.a.2 + (t.ks.map (lenT d)).sum

def lenL (d : Nat) (ks : List Tr) : Nat := (ks.map (lenT d)).sum

theorem lenT_succ (d : Nat) (t : Tr) : lenT (d + 1) t = t.a.1.size + tmLen t.a.2 + lenL d t.ks := rfl

theorem lenL_snoc (d : Nat) {ks : List Tr} {k : Nat} {t : Tr} (h : ks[k]? = some t) : lenL d (ks.take (k + 1)) = lenL d (ks.take k) + lenT d t := by
  obtain ⟨h1, h2⟩ := List.getElem?_eq_some_iff.1 h
  unfold lenL
  rw [List.take_succ_eq_append_getElem h1, h2, List.map_append, List.sum_append]
  simp

theorem lenL_cons (d : Nat) (t : Tr) (ks : List Tr) : lenL d (t :: ks) = lenT d t + lenL d ks := by unfold lenL; simp

end Go.Proofs.YtiekfjlhioekcaaDoor
