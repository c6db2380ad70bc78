/-
  Facts that are ok, in the program.
-/
import Derived.Test.YtiekfjlhioekcaaDoorVars
import Derived.Test.YtiekfjlhioekcaaDoorL3Ok
import Derived.Test.YtiekfjlhioekcaaDoorMem
import Derived.Deep.RegionHeld3
namespace Go.Proofs.YtiekfjlhioekcaaDoor
open Go.RowKit Go.Shelf
attribute [local go_sem] Oper.semAt_some

theorem factB_not {nm : ByteArray} {ts : List Tm} (h : (!atomB (nm, ts)) = true) : factB (nm, ts) = false := by
  unfold factB
  rw [show atomB (nm, ts) = false by simpa using h, Bool.and_false]

theorem factB_vars {nm : ByteArray} {ts : List Tm} (h : (!atomB (nm, ts)) = false) (hv : varsOf ts = []) : factB (nm, ts) = true := by
  unfold factB
  rw [show atomB (nm, ts) = true by simpa using h, varsOf_none.2 hv]; rfl

theorem factB_some {nm : ByteArray} {ts : List Tm} (hv : varsOf ts ≠ []) : factB (nm, ts) = false := by
  unfold factB
  cases h : wordsB ts
  · rfl
  · exact absurd (varsOf_none.1 h) hv


theorem run_store_func {P : Program} {w : World} {a : Addr} {m : Mode} (f : Fn) (c l : Array Value) : (store a (.func f c l) m).run P w = stored P w a (.func f c l) m := run_store P w a _ m rfl
attribute [local go_sem] run_store_func





end Go.Proofs.YtiekfjlhioekcaaDoor
