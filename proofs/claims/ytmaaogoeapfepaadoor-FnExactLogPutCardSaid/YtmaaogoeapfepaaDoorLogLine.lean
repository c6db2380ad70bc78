/-
  A change's text under a time, in the model.
-/
import Derived.Test.YtmaaogoeapfepaaDoorDec
import Derived.Test.YtmaaogoeapfepaaDoorSum
namespace Go.Proofs.YtmaaogoeapfepaaDoor
open Go.RowKit

/-- A time and a change's text. -/
def headL (k : Nat) (p : List UInt8) : List UInt8 := Lib.decDigits k ++ [58] ++ p
/-- .. and their sum, and the end of a line. -/
def lineL (k : Nat) (p : List UInt8) : List UInt8 := headL k p ++ Lib.decDigits (sumB (headL k p)) ++ [10]

theorem dec_len (q : Nat) (h : q ≤ 1000000000000) : (Lib.decDigits q).length ≤ 21 := by
  have h2 := Lib.itoa_length_le (q : Int) (by omega) (by omega)
  rwa [Lib.itoa_nonneg] at h2

theorem head_text (k : Nat) (s : ByteArray) : (⟨(Lib.decDigits k).toArray⟩ ++ ⟨#[58]⟩ ++ s : ByteArray) = ⟨(headL k s.data.toList).toArray⟩ := by
  apply ByteArray.ext
  simp [ByteArray.data_append, headL]

theorem line_text (h : List UInt8) (q : Nat) : (⟨h.toArray⟩ ++ ⟨(Lib.decDigits q).toArray⟩ ++ ⟨#[10]⟩ : ByteArray) = ⟨(h ++ Lib.decDigits q ++ [10]).toArray⟩ := by
  apply ByteArray.ext
  simp [ByteArray.data_append]

set_option maxHeartbeats 1000000 in
theorem l8Line_any (k : Nat) (hk : k ≤ 100000) (s : ByteArray) (hs : s.size ≤ 1000000) (w : World) :
    Calls Tryd.prog 57 #[.int .i64 (k : Int), .string s] w fun e w' => e = .returned (.string ⟨(lineL k s.data.toList).toArray⟩) ∧ Below w.heap.size w w' := by
  have hl := dec_len k (by omega)
  go_enter Tryd.func57, Tryd.ntmps57
  go_wp2_with fail
  refine (dec_all (k + 1) k (Nat.lt_succ_self k) (by omega) _).mono ?_; rintro e w1 ⟨rfl, hb1⟩
  have HB1 := Lib.hid hb1; clear hb1
  have hz1 : (⟨(Lib.decDigits k).toArray⟩ : ByteArray).size ≤ 21 := by show (Lib.decDigits k).toArray.size ≤ _; simpa using hl
  go_wp2_with fail
  rw [head_text]
  obtain ⟨u, hu⟩ : ∃ u : ByteArray, (⟨(headL k s.data.toList).toArray⟩ : ByteArray) = u := ⟨_, rfl⟩
  have hud : u.data.toList = headL k s.data.toList := by rw [← hu]
  have huz : u.size ≤ 1000022 := by
    show u.data.toList.length ≤ _
    rw [hud]; unfold headL
    simp only [List.length_append, List.length_cons, List.length_nil]
    have : s.data.toList.length = s.size := by simp
    omega
  rw [hu]
  have HU := Lib.hid hu; have HUD := Lib.hid hud
  clear hu hud
  refine (specSum_any u _ (by unfold maxLen; omega)).mono ?_; rintro e w2 ⟨rfl, rfl⟩
  have hs3 := sumB_lt u.data.toList
  have hl3 := dec_len (sumB u.data.toList) (by omega)
  obtain ⟨z, hz⟩ : ∃ z, sumB u.data.toList = z := ⟨_, rfl⟩
  rw [hz] at hs3 hl3 ⊢
  have HZ := Lib.hid hz; clear hz
  go_wp2_with fail
  refine (dec_all (z + 1) z (Nat.lt_succ_self z) (by omega) _).mono ?_; rintro e w3 ⟨rfl, hb3⟩
  have hz3 : (⟨(Lib.decDigits z).toArray⟩ : ByteArray).size ≤ 21 := by show (Lib.decDigits z).toArray.size ≤ _; simpa using hl3
  go_wp2
  go_ret
  refine ⟨?_, belowThen HB1.out hb3⟩
  rw [← HU.out, line_text]
  unfold lineL
  rw [← HUD.out, HZ.out]
  rfl

end Go.Proofs.YtmaaogoeapfepaaDoor
