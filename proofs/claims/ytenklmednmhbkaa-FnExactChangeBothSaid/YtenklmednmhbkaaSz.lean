/-
  Sizes: the law's own count of what came in, as far as it is wanted: it only falls, and it is not below 0 only where the list is short.
-/
import Derived.Test.YtenklmednmhbkaaMem
import Derived.Outline
import Derived.Deep.LoopGhost
namespace Go.Proofs.Ytenklmednmhbkaa
open Go.RowKit

/-- The count goes from z to a number that is not above it; not below 0 only if q holds. -/
def SzPost (z : Int) (q : Prop) (w : World) (e : Ending) (w' : World) : Prop := ∃ y : Int, (e = .returned (.int .i64 y) ∧ -1 ≤ y ∧ y ≤ z ∧ (0 ≤ y → q)) ∧ Below w.heap.size w w'

set_option maxHeartbeats 400000 in
theorem szTerm_any (v : Bool) (s : ByteArray) (z : Int) (w : World) (hs : s.size ≤ maxLen) (hz0 : 0 ≤ z) (hz1 : z ≤ 1048576) :
    Calls Try.prog 98 #[.agg #[.bool v, .string s], .int .i64 z] w (SzPost z True w) := by
  unfold maxLen at hs
  go_enter Try.func98, Try.ntmps98
  go_wp2
  all_goals (go_ret; exact ⟨_, ⟨rfl, by omega, by omega, fun _ => trivial⟩, (Below.refl _ _).alloc (Nat.le_refl _) _⟩)

set_option maxHeartbeats 400000 in
theorem szTermS_any (A : Option Addr) (n c : Nat) (ts : List Tm) (z : Int) (w : World) (h : IsTerms w 0 w.heap.size A n c ts) (hz0 : 0 ≤ z) (hz1 : z ≤ 1048576) :
    Calls Try.prog 72 #[.slice A n c, .int .i64 z] w (SzPost z (n ≤ 1048576) w) := by
  have hn : n ≤ maxLen := by have := h.2.1; have := h.2.2.1; omega
  unfold maxLen at hn
  have H := Lib.hid h; clear h
  go_enter Try.func72, Try.ntmps72
  go_wp2
  · go_ret; exact ⟨_, ⟨rfl, by omega, by omega, by omega⟩, Below.refl _ _⟩
  · have hzn : 0 ≤ z - (n : Int) := by assumption
    go_loopw [1, 5] (fun x i wr => ∃ (k : Nat) (y : Int), k ≤ n ∧ i = .int .i64 k ∧ x = .int .i64 y ∧ 0 ≤ y ∧ y ≤ z ∧ Below w.heap.size w wr) (fun _ i _ => n - (intOf i).toNat)
    case atStart => exact ⟨0, _, Nat.zero_le _, rfl, rfl, by omega, by omega, Below.refl _ _⟩
    case round =>
      obtain ⟨k, y, hk, rfl, rfl, hy0, hy1, hb⟩ := hrel
      by_cases hlt : k < n
      · obtain ⟨p, t, hA, hlo, hhi, hg, c1, c2, c3⟩ := (H.out.below hb (Nat.le_refl _)).at_ hlt
        subst hA
        go_wp2_with (go_at_call 98; refine (szTerm_any _ _ _ _ c3 hy0 (by omega)).mono ?_; rintro e w1 ⟨y1, ⟨rfl, hy2, hy3, _⟩, hb1⟩)
        · go_ret; exact ⟨_, ⟨rfl, by omega, by omega, by omega⟩, hb.trans (hb1.mono hb.size)⟩
        · go_roundw
          case rel => exact ⟨k + 1, y1, by omega, by go_num, rfl, by omega, by omega, hb.trans (hb1.mono hb.size)⟩
          case measure => simp [intOf]; omega
      · go_wp2
        go_ret; exact ⟨_, ⟨rfl, by omega, by omega, by omega⟩, hb⟩

set_option maxHeartbeats 400000 in
theorem szAtom_any (nm : ByteArray) (A : Option Addr) (n c : Nat) (ts : List Tm) (z : Int) (w : World) (hs : nm.size ≤ maxLen) (h : IsTerms w 0 w.heap.size A n c ts) (hz0 : 0 ≤ z) (hz1 : z ≤ 1048576) :
    Calls Try.prog 29 #[.agg #[.string nm, .slice A n c], .int .i64 z] w (SzPost z (n ≤ 1048576) w) := by
  unfold maxLen at hs
  have H := Lib.hid h; clear h
  go_enter Try.func29, Try.ntmps29
  have hb0 : Below w.heap.size w (w.alloc (.cells #[.string nm, .slice A n c] 41)) := (Below.refl _ _).alloc (Nat.le_refl _) _
  have H1 := Lib.hid ((H.out.below hb0 (Nat.le_refl _)).keep (hi' := (w.alloc (.cells #[.string nm, .slice A n c] 41)).heap.size) (lo' := 0) (fun _ _ _ => rfl) (Nat.le_refl _) hb0.size)
  go_wp2_with (go_at_call 72; refine (szTermS_any _ _ _ ts _ _ H1.out (by omega) (by omega)).mono ?_; rintro e w1 ⟨y1, ⟨rfl, hy2, hy3, hy4⟩, hb1⟩)
  · go_ret; exact ⟨_, ⟨rfl, by omega, by omega, by omega⟩, hb0⟩
  · go_ret; exact ⟨_, ⟨rfl, by omega, by omega, by omega⟩, hb0.trans (hb1.mono (by simp))⟩
  · go_ret; exact ⟨_, ⟨rfl, by omega, by omega, hy4⟩, hb0.trans (hb1.mono (by simp))⟩

end Go.Proofs.Ytenklmednmhbkaa
