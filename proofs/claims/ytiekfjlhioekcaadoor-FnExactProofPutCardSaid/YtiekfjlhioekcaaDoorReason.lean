/-
  Why a fact is there, as a text, in the program; how far in, as blanks.
-/
import Derived.Test.YtiekfjlhioekcaaDoorPutBoth
import Derived.Test.YtiekfjlhioekcaaDoorItoa
namespace Go.Proofs.YtiekfjlhioekcaaDoor
open Go.RowKit

set_option maxHeartbeats 1000000 in
theorem reason_any (r : Int) (h1 : -9223372036854775808 ≤ r) (h2 : r ≤ 9223372036854775807) (w : World) (hT : PowTab w) :
    Calls Tryd.prog 20 #[.int .i64 r] w (StrPost (whyL r) w) := by
  by_cases hneg : r < 0
  · go_enter Tryd.func20, Tryd.ntmps20
    go_wp2
    go_ret
    exact ⟨by unfold whyL; rw [if_pos hneg]; rfl, Below.refl _ _⟩
  · obtain ⟨k, hk⟩ : ∃ k : Nat, r = (k : Int) := ⟨r.toNat, by omega⟩
    subst hk
    have hl := dec_len k (by omega)
    have hz : (⟨(Lib.decDigits k).toArray⟩ : ByteArray).size ≤ 21 := by show (Lib.decDigits k).toArray.size ≤ _; simpa using hl
    have hw : (⟨#[98, 121, 32]⟩ ++ ⟨(Lib.decDigits k).toArray⟩ : ByteArray) = ⟨(whyL (k : Int)).toArray⟩ := by
      apply ByteArray.ext
      rw [ByteArray.data_append]
      apply Array.toList_inj.1
      unfold whyL
      rw [if_neg hneg]
      simp
    have HW := Lib.hid hw
    clear hw
    have hl9 : 3 + (Lib.decDigits k).length ≤ 9223372036854775807 := by omega
    go_enter Tryd.func20, Tryd.ntmps20
    go_wp2_with fail
    refine (itoa_any k (by omega) _ hT).mono ?_; rintro e w1 ⟨rfl, hb1⟩
    go_wp2
    go_ret
    exact ⟨by rw [← HW.out]; rfl, hb1⟩

end Go.Proofs.YtiekfjlhioekcaaDoor
