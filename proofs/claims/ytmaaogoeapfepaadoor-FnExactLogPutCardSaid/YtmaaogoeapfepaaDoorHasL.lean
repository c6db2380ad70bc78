/-
  What factsB tells; the model's look-up of a fact. (Cut out of Has.)
-/
import Derived.Test.YtmaaogoeapfepaaDoorHasSpec
import Derived.Test.YtmaaogoeapfepaaDoorFactsOk
import Derived.Test.YtmaaogoeapfepaaDoorRegion
namespace Go.Proofs.YtmaaogoeapfepaaDoor
open Go.RowKit

theorem factsB_rises {m : Nat} {xs : List At} (h : factsB m xs = true) : risesB xs = true := by
  unfold factsB at h
  simp only [Bool.and_eq_true] at h
  exact h.1.2

theorem factsB_len {m : Nat} {xs : List At} (h : factsB m xs = true) : xs.length ≤ m := by
  unfold factsB at h
  simp only [Bool.and_eq_true, decide_eq_true_eq] at h
  exact h.2

set_option maxHeartbeats 1000000 in
theorem l3Has_any (A : Option Addr) (n c : Nat) (xs : List At) (nm : ByteArray) (B : Option Addr) (m d : Nat) (ts : List Tm) (w : World) (h : IsAtoms w 0 w.heap.size A n c xs) (h' : IsTerms w 0 w.heap.size B m d ts) (hr : risesB xs = true) :
    Calls Tryd.prog 108 #[.slice A n c, .agg #[.string nm, .slice B m d]] w (BoolPost (hasB xs (nm, ts)) w) := by
  have H := Lib.hid h; clear h
  have H' := Lib.hid h'; clear h'
  have hw0 := below1 w (.cells #[.string nm, .slice B m d] 35)
  go_enter Tryd.func108, Tryd.ntmps108
  go_wp2_with fail
  refine (l3At_any _ _ _ xs nm B m d ts _ (H.out.up AtomE.stays hw0) (H'.out.up hw0) hr).mono ?_; rintro e w1 ⟨k, ⟨rfl, _, _, _⟩, hb1⟩
  go_wp2
  go_ret; exact ⟨rfl, belowThen hw0 hb1⟩

end Go.Proofs.YtmaaogoeapfepaaDoor
