/-
  A region that draws its order and is guarded, walked operation by operation: what is passed over is taken first, too.
-/
import Derived.Deep.RegionHeld3
namespace Go.Proofs.YtiekfjlhioekcaaDoor
open Go

theorem takeV {P : Program} {ops : Array Oper} {Q : Exit → Act → World → Prop} {md : Region.Mode} {S : World → Prop} {i d : Nat} {oi : Oper} {v : Value} {fuel : Nat} {listed : Array Bool} {a : Act} {w : World} {tm : Array Value}
    (hi : ops[i]? = some oi) (hs : Region.noSelect ops = true) (hf : Region.free md ops listed i = true) (hr : (Region.ready md ops listed).contains i = true) (hd : oi.dst = some d)
    (hQ : ∀ c a w, Q (.panic c) (a.put (some d) v) w → Q (.panic c) a w) (hy : YieldsIf P ops S oi v a) (hS : S w) (hput : a.tmps.setIfInBounds d v = tm)
    (h : wpAnyH P md ops Q S fuel (listed.setIfInBounds i true) { tmps := tm, defers := a.defers } w) : wpAnyH P md ops Q S (fuel + 1) listed a w := by
  refine wpAnyH_take hi hs hf hr ?_ hy hS ?_
  · rw [hd]; exact hQ
  · rw [hd]
    subst hput
    exact h

end Go.Proofs.YtiekfjlhioekcaaDoor
