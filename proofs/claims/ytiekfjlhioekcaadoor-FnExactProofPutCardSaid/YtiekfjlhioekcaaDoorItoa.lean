/-
  A number as decimal figures, in the program; its table of powers of ten.
-/
import Derived.Test.YtiekfjlhioekcaaDoorMem
import Derived.Test.YtiekfjlhioekcaaDoorShelf5
import Derived.Lib.ItoaNum
import Derived.Lib.ItoaMem
namespace Go.Proofs.YtiekfjlhioekcaaDoor
open Go.RowKit

theorem below_grow (w : World) (j : Nat) (os : Array Obj) : Below w.heap.size w (Go.Sort.grow (w.drewN j) os) :=
  ⟨rfl, rfl, rfl, by show w.heap.size ≤ (w.heap ++ os).size; rw [Array.size_append]; omega, fun k hk => by show (w.heap ++ os)[k]? = _; rw [Array.getElem?_append_left hk]⟩

theorem tab_later {P : Program} {w w' : World} {nm : String} {k : IntKind} {zs : List Int} (h : Lib.TabIs P w nm k zs) (hb : Below w.heap.size w w') : Lib.TabIs P w' nm k zs := by
  unfold Lib.TabIs World.var? at h ⊢
  cases hg : P.globalNamed nm with
  | none => simp [hg] at h
  | some g =>
    simp only [hg, Option.bind_some] at h ⊢
    have hlt : g < w.heap.size := by
      rcases Nat.lt_or_ge g w.heap.size with h' | h'
      · exact h'
      · simp [Array.getElem?_eq_none h'] at h
    rw [hb.block g hlt]
    exact h

abbrev PowTab (w : World) : Prop := Lib.TabIs Tryd.prog w "internal/strconv.uint64pow10" .u64 Lib.pow10Tab

theorem itoa_any (q : Nat) (hq : q ≤ 9223372036854775807) (w : World) (hT : PowTab w) :
    Calls Tryd.prog 35 #[.int .i64 (q : Int)] w fun e w' => e = .returned (.string ⟨(Lib.decDigits q).toArray⟩) ∧ Below w.heap.size w w' := by
  refine (Tryd.strconv_Itoa (q : Int) (by omega) (by omega) w hT).mono ?_
  rintro e w' ⟨rfl, j, os, rfl⟩
  exact ⟨by rw [Lib.itoa_nonneg], below_grow w j os⟩

end Go.Proofs.YtiekfjlhioekcaaDoor
