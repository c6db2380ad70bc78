/-
  The law of NameOk: what is drawn is told as the model tells it; each byte of a name is a name; the word is none, and the empty text.
-/
import Derived.Test.YteipacbklofabaaDraw
import Derived.Test.YteipacbklofabaaEq
namespace Go.Proofs.Yteipacbklofabaa
open Go.RowKit

/-- A text was drawn. -/
def DrawnPost (Q : ByteArray → Prop) (w : World) (e : Ending) (w' : World) : Prop := ∃ s : ByteArray, (e = .returned (.string s) ∧ Q s) ∧ Below w.heap.size w w'

set_option maxHeartbeats 1000000 in
theorem drawName_any (A : Option Addr) (n c : Nat) (w : World) (h : IsBytes w w.heap.size A n c) :
    Calls Try.prog 12 #[.slice A n c] w (DrawnPost (fun s => s.size ≤ 16) w) := by
  go_enter Try.func12, Try.ntmps12
  go_wp2_with fail
  refine (open_any A n c w h).mono ?_; rintro e w1 ⟨b, n', ⟨rfl, hb⟩, hr, hb1⟩
  go_wp2_with fail
  refine (of_laid (fun s => decide (s.size ≤ 16)) b _ A n' c 0 w1 _ _ hr (by omega) (by rfl) (by omega) (by omega) (by rfl)).mono ?_; rintro e w2 ⟨s, ⟨rfl, hs⟩, hr2, hg2⟩
  go_wp2
  go_ret
  exact ⟨s, ⟨rfl, by simpa using hs⟩, ((belowThen hb1 (below1 _ _))).grown hg2 (by have := hb1.size; simp; omega) (fun k hk => by injection hk with hk; omega)⟩

theorem nameNot : nameB [110, 111, 116] = false := by rfl
theorem nameNone : nameB [] = false := by rfl

theorem name_small {l : List UInt8} (h : nameB l = true) : small l = true ∧ l.length ≤ 8 := by
  unfold nameB letters at h
  simp only [Bool.and_eq_true, decide_eq_true_eq] at h
  exact ⟨h.1.1, by omega⟩

/-- One byte of a name is a name. -/
theorem name_byte {l : List UInt8} (h : nameB l = true) {k : Nat} (hk : k < l.length) : nameB ((l.drop k).take 1) = true := by
  have hs := (name_small h).1
  have hc : okByte l[k] = true := List.all_eq_true.1 hs _ (List.getElem_mem hk)
  rw [List.drop_eq_getElem_cons hk]
  show nameB [l[k]] = true
  unfold nameB letters small
  simp [hc]

set_option maxHeartbeats 1000000 in
theorem nameOk_any (A : Option Addr) (n c : Nat) (w : World) (h : IsBytes w w.heap.size A n c) :
    Calls Try.prog 4 #[.slice A n c] w (BoolPost true w) := by
  have hn : n ≤ maxLen := by have := h.1; have := h.2.1; omega
  unfold maxLen at hn
  have H := Lib.hid h; clear h
  have N1 := nameNot
  have N2 := nameNone
  go_enter Try.func4, Try.ntmps4
  go_wp2_with fail
  · go_ret; exact ⟨rfl, Below.refl _ _⟩
  · refine (drawName_any A n c w H.out).mono ?_; rintro e w1 ⟨s, ⟨rfl, hs⟩, hb1⟩
    have hsm : s.size ≤ maxLen := by unfold maxLen; omega
    cases hN : nameB s.data.toList
    · have HN := Lib.hid hN
      go_wp2_with (first
        | (go_at_call 11; refine (implName_any _ _ (by first | exact hsm | (unfold maxLen; decide))).mono ?_; rintro e w' ⟨rfl, rfl⟩)
        | (go_at_call 10; refine (specName_any _ _ hsm).mono ?_; rintro e w' ⟨rfl, rfl⟩))
      go_loopw [5] (fun i wr => ∃ k : Nat, k ≤ s.size ∧ i = .int .i64 k ∧ wr = w1) (fun i _ => s.size - (intOf i).toNat)
      case atStart => exact ⟨0, Nat.zero_le _, rfl, rfl⟩
      case round =>
        obtain ⟨k, hk, rfl, rfl⟩ := hrel
        by_cases hlt : k < s.size
        · go_wp2
          go_ret; exact ⟨rfl, hb1⟩
        · go_wp2
          go_ret; exact ⟨rfl, hb1⟩
    · have HN := Lib.hid hN
      have hle := (name_small hN).2
      have hle8 : s.size ≤ 8 := hle
      clear hle
      go_wp2_with (first
        | (go_at_call 11; refine (implName_any _ _ (by first | exact hsm | (unfold maxLen; decide))).mono ?_; rintro e w' ⟨rfl, rfl⟩)
        | (go_at_call 10; refine (specName_any _ _ hsm).mono ?_; rintro e w' ⟨rfl, rfl⟩))
      go_loopw [5] (fun i wr => ∃ k : Nat, k ≤ s.size ∧ i = .int .i64 k ∧ wr = w1) (fun i _ => s.size - (intOf i).toNat)
      case atStart => exact ⟨0, Nat.zero_le _, rfl, rfl⟩
      case round =>
        obtain ⟨k, hk, rfl, rfl⟩ := hrel
        by_cases hlt : k < s.size
        · have hb := name_byte HN.out (k := k) hlt
          go_wp2_with (go_at_call 11; refine (implName_any _ _ ?hsz).mono ?_; rotate_left; rintro e w' ⟨rfl, rfl⟩)
          · go_round
            case rel => exact ⟨k + 1, by omega, by go_num, trivial⟩
            case measure => simp [intOf]; omega
          · rw [ByteArray.size_extract]; unfold maxLen; omega
        · go_wp2
          go_ret; exact ⟨retB (by simp; omega), hb1⟩

end Go.Proofs.Yteipacbklofabaa
