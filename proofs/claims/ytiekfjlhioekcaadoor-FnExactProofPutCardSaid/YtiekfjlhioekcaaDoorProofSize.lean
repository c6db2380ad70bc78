/-
  How many facts a proof has, in the program.
-/
import Derived.Test.YtiekfjlhioekcaaDoorEachIn
import Derived.RangeFuncBound
import Derived.RangeFuncLeaves
namespace Go.Proofs.YtiekfjlhioekcaaDoor
open Go.RowKit Go.Shelf
attribute [local go_sem] Oper.semAt_some

theorem KeepsT.refl (n₀ : Nat) (W : World) : KeepsT n₀ W W := ⟨Below.refl _ _, fun _ _ _ _ _ _ => rfl⟩

/-- A loop's record is nothing that the iterator keeps. -/
theorem KeepsT.book {n₀ l : Nat} {W : World} {r r' : Loop} (hl : W.heap[l]? = some (.loop r)) (hn : n₀ ≤ l) : KeepsT n₀ W (W.putObj l (.loop r')) := by
  have hsz : (W.putObj l (.loop r')).heap.size = W.heap.size := by simp [World.putObj]
  exact ⟨⟨rfl, rfl, rfl, by rw [hsz]; exact Nat.le_refl _, fun k hk => World.putObj_heap_other (by omega)⟩, fun b cs t z _ hb => World.putObj_heap_other (fun e => by subst e; rw [hl] at hb; cases hb)⟩

set_option maxHeartbeats 1000000 in
theorem eachOf_any (nm : ByteArray) (A : Option Addr) (n c : Nat) (r : Int) (B : Option Addr) (m e : Nat) (w : World) :
    Calls Tryd.prog 16 #[.agg #[.string nm, .slice A n c, .int .i64 r, .slice B m e]] w fun e1 w' => e1 = .returned (.func (.func 28) #[] #[.pointer (some ⟨w.heap.size, 0, none⟩)]) ∧ Blk w' w.heap.size 35 #[.string nm, .slice A n c, .int .i64 r, .slice B m e] ∧ Below w.heap.size w w' ∧ w'.heap.size = w.heap.size + 1 := by
  have h0 := Lib.hid (Blk.new w 35 #[.string nm, .slice A n c, .int .i64 r, .slice B m e])
  have hb := Lib.hid (below1 w (.cells #[.string nm, .slice A n c, .int .i64 r, .slice B m e] 35))
  go_enter Tryd.func16, Tryd.ntmps16
  go_wp2
  go_ret
  exact ⟨rfl, h0.out, hb.out, by simp⟩

theorem each_stops (n : Nat) (hn : 1 ≤ n) (pb n₀ d : Nat) (t : Tr) (A : Option Addr) (n1 c1 : Nat) (B : Option Addr) (m1 e1 : Nat) (W : World)
    (hp : Blk W pb 35 #[.string t.a.1, .slice A n1 c1, .int .i64 t.r, .slice B m1 e1]) (hs : t.a.1.size ≤ maxLen) (hk : IsPf d W 0 n₀ A n1 c1 B m1 e1 t) (hn0 : n₀ ≤ W.heap.size) (hz : sizeT (d + 1) t ≤ 2097152) :
    SeqT Fence.wide n Tryd.prog 28 #[.pointer (some ⟨pb, 0, none⟩)] pxE TurnsT (KeepsT n₀) (PxPre n₀ (d + 1) t) (fun xs _ _ => xs.map pxT = flatT (d + 1) 0 t) (fun pre _ _ => pre.map pxT <+: flatT (d + 1) 0 t) W :=
  fun l J Jx W' hW hY h0 => each_in n hn l pb n₀ d t A n1 c1 B m1 e1 J Jx W' hY (hp.below hW) hs (hk.keep (fun q _ hq => hW.cell (p := q) (by omega)) (Nat.le_refl _) (Nat.le_refl _)) (Nat.le_trans hn0 hW.size) hz h0

/-- What the loop holds. -/
def SizeI (w : World) (pre : List Px) (W : World) : Prop := Below w.heap.size w W ∧ Blk W (w.heap.size + 1) 3 #[.int .i64 ((pre.length : Nat) : Int)]

theorem SizeI.book {w : World} {pre : List Px} {W : World} {l : Nat} {r r' : Loop} (h : SizeI w pre W) (hl : W.heap[l]? = some (.loop r)) (hw : w.heap.size ≤ l) : SizeI w pre (W.putObj l (.loop r')) :=
  ⟨h.1.trans (KeepsT.book hl hw).1, (World.putObj_heap_other (fun e => by have h2 := h.2; rw [e] at h2; unfold Blk at h2; rw [hl] at h2; cases h2)).trans h.2⟩


end Go.Proofs.YtiekfjlhioekcaaDoor
