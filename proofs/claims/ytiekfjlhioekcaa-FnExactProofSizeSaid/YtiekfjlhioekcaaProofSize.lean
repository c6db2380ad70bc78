/-
  How many facts a proof has, in the program.
-/
import Derived.Test.YtiekfjlhioekcaaEachIn
import Derived.RangeFuncBound
import Derived.RangeFuncLeaves
namespace Go.Proofs.Ytiekfjlhioekcaa
open Go.RowKit Go.Shelf
attribute [local go_sem] Oper.semAt_some

theorem KeepsT.refl (n₀ : Nat) (W : World) : KeepsT n₀ W W := ⟨Below.refl _ _, fun _ _ _ _ _ _ => rfl⟩

/-- A loop's record is nothing that the iterator keeps. -/
theorem KeepsT.book {n₀ l : Nat} {W : World} {r r' : Loop} (hl : W.heap[l]? = some (.loop r)) (hn : n₀ ≤ l) : KeepsT n₀ W (W.putObj l (.loop r')) := by
  have hsz : (W.putObj l (.loop r')).heap.size = W.heap.size := by simp [World.putObj]
  exact ⟨⟨rfl, rfl, rfl, by rw [hsz]; exact Nat.le_refl _, fun k hk => World.putObj_heap_other (by omega)⟩, fun b cs t z _ hb => World.putObj_heap_other (fun e => by subst e; rw [hl] at hb; cases hb)⟩

set_option maxHeartbeats 1000000 in
theorem eachOf_any (nm : ByteArray) (A : Option Addr) (n c : Nat) (r : Int) (B : Option Addr) (m e : Nat) (w : World) :
    Calls Try.prog 20 #[.agg #[.string nm, .slice A n c, .int .i64 r, .slice B m e]] w fun e1 w' => e1 = .returned (.func (.func 37) #[] #[.pointer (some ⟨w.heap.size, 0, none⟩)]) ∧ Blk w' w.heap.size 35 #[.string nm, .slice A n c, .int .i64 r, .slice B m e] ∧ Below w.heap.size w w' ∧ w'.heap.size = w.heap.size + 1 := by
  have h0 := Lib.hid (Blk.new w 35 #[.string nm, .slice A n c, .int .i64 r, .slice B m e])
  have hb := Lib.hid (below1 w (.cells #[.string nm, .slice A n c, .int .i64 r, .slice B m e] 35))
  go_enter Try.func20, Try.ntmps20
  go_wp2
  go_ret
  exact ⟨rfl, h0.out, hb.out, by simp⟩

theorem each_stops (n : Nat) (hn : 1 ≤ n) (pb n₀ d : Nat) (t : Tr) (A : Option Addr) (n1 c1 : Nat) (B : Option Addr) (m1 e1 : Nat) (W : World)
    (hp : Blk W pb 35 #[.string t.a.1, .slice A n1 c1, .int .i64 t.r, .slice B m1 e1]) (hs : t.a.1.size ≤ maxLen) (hk : IsPf d W 0 n₀ A n1 c1 B m1 e1 t) (hn0 : n₀ ≤ W.heap.size) (hz : sizeT (d + 1) t ≤ 2097152) :
    SeqT Fence.wide n Try.prog 37 #[.pointer (some ⟨pb, 0, none⟩)] pxE TurnsT (KeepsT n₀) (PxPre n₀ (d + 1) t) (fun xs _ _ => xs.map pxT = flatT (d + 1) 0 t) (fun pre _ _ => pre.map pxT <+: flatT (d + 1) 0 t) W :=
  fun l J Jx W' hW hY h0 => each_in n hn l pb n₀ d t A n1 c1 B m1 e1 J Jx W' hY (hp.below hW) hs (hk.keep (fun q _ hq => hW.cell (p := q) (by omega)) (Nat.le_refl _) (Nat.le_refl _)) (Nat.le_trans hn0 hW.size) hz h0

/-- What the loop holds. -/
def SizeI (w : World) (pre : List Px) (W : World) : Prop := Below w.heap.size w W ∧ Blk W (w.heap.size + 1) 3 #[.int .i64 ((pre.length : Nat) : Int)]

theorem SizeI.book {w : World} {pre : List Px} {W : World} {l : Nat} {r r' : Loop} (h : SizeI w pre W) (hl : W.heap[l]? = some (.loop r)) (hw : w.heap.size ≤ l) : SizeI w pre (W.putObj l (.loop r')) :=
  ⟨h.1.trans (KeepsT.book hl hw).1, (World.putObj_heap_other (fun e => by have h2 := h.2; rw [e] at h2; unfold Blk at h2; rw [hl] at h2; cases h2)).trans h.2⟩

set_option maxRecDepth 100000 in
set_option maxHeartbeats 4000000 in
theorem implSize_any (d : Nat) (A : Option Addr) (n c : Nat) (B : Option Addr) (m e : Nat) (t : Tr) (w : World) (hs : t.a.1.size ≤ maxLen) (h : IsPf d w 0 w.heap.size A n c B m e t) (hz : sizeT (d + 1) t ≤ 2097152) :
    Calls Try.prog 8 #[.agg #[.string t.a.1, .slice A n c, .int .i64 t.r, .slice B m e]] w fun e1 w' => e1 = .returned (.int .i64 ((sizeT (d + 1) t : Nat) : Int)) ∧ Below w.heap.size w w' := by
  have H := Lib.hid h; clear h
  have hb0 := below2 w (.cells #[.string t.a.1, .slice A n c, .int .i64 t.r, .slice B m e] 35) (.cells #[.int .i64 0] 3)
  have P0 := (Blk.new w 35 #[.string t.a.1, .slice A n c, .int .i64 t.r, .slice B m e]).alloc (.cells #[.int .i64 0] 3)
  have Z0 := Blk.made (w.alloc (.cells #[.string t.a.1, .slice A n c, .int .i64 t.r, .slice B m e] 35)) (b := w.heap.size + 1) 3 #[.int .i64 0] (by simp)
  have hz0 : ((w.alloc (.cells #[.string t.a.1, .slice A n c, .int .i64 t.r, .slice B m e] 35)).alloc (.cells #[.int .i64 0] 3)).heap.size = w.heap.size + 2 := by simp
  refine (callsIn_wide (n := 5)).1 ?_
  refine callsIn_of_wp_marks Try.func8 rfl trivial ?_ rfl
  simp only [Try.ntmps8, List.size_toArray, List.length_cons, List.length_nil, Nat.reduceAdd, Nat.reduceSub, Array.replicate_succ, Array.replicate_zero, List.push_toArray, List.append_toArray, List.nil_append, List.cons_append]
  gi_wp2_with (first | (refine ⟨trivial, ?_⟩; gi_at_call 20; refine (callsIn_wide.2 (eachOf_any t.a.1 A n c t.r B m e _)).mono ?_; rintro e W2 ⟨rfl, hbk2, hb2, hz2⟩))
  rw [hz0] at hbk2
  have Z2 := Z0.below hb2
  have HB2 := belowThen hb0 hb2
  have hz2a : w.heap.size + 3 ≤ W2.heap.size := by omega
  clear hz2 hb2 Z0 P0
  have HST := Lib.hid (each_stops (5 - 1) (by omega) (w.heap.size + 2) w.heap.size d t A n c B m e W2 hbk2 hs (H.out.keep (fun q _ hq => HB2.cell (p := q) hq) (Nat.le_refl _) (Nat.le_refl _)) (by omega) hz)
  have HZ2 := Lib.hid Z2; have HBB := Lib.hid HB2
  clear hbk2 Z2 HB2
  refine wpIn_rangeT rfl (by omega) (gf := 37) (lb := #[.pointer (some ⟨w.heap.size + 2, 0, none⟩)]) rfl trivial (enters_of Try.func37 (by kernel_rfl) rfl) HST.out
    KeepsT.trans (fun W r r' hl => KeepsT.book hl (by omega)) (Below.refl _ _) (fun _ => rfl)
    (fun B X Y hB hT k h1 h2 ho => hT.block k (Array.getElem?_eq_some_iff.1 ho.choose_spec.1).1 (.inl (by omega)))
    (SizeI w) (fun _ _ _ => False)
    (fun pre W r o' hI hl => hI.book hl (by omega)) (fun _ _ W r o' h _ => h.elim)
    (fun V hV hVz => ⟨HBB.out.trans (hV.mono (by omega)), HZ2.out.below hV⟩)
    (fun pre x a' W => SizeI w pre W ∧ pre.length ≤ 2097152 ∧ a' = { tmps := #[.agg #[.string t.a.1, .slice A n c, .int .i64 t.r, .slice B m e], .pointer (some ⟨w.heap.size, 0, none⟩), .int .i64 0, .pointer (some ⟨w.heap.size + 1, 0, none⟩), .agg #[.string t.a.1, .slice A n c, .int .i64 t.r, .slice B m e], .func (.func 37) #[] #[.pointer (some ⟨w.heap.size + 2, 0, none⟩)], .int .i64 (x.lv : Int), pxV x, undef, undef, undef], defers := [] })
    (fun pre x a' W r o' hA hl => ⟨hA.1.book hl (by omega), hA.2⟩)
    ?assign ?body ?done ?stop
  case assign =>
    rintro BB pre x X0 X1 K hB hI hT ⟨p1, p2, p3⟩ hK
    have hpl : pre.length ≤ 2097152 := by
      have h1 := p3.length_le
      rw [List.length_map, List.length_append, List.length_singleton, flatT_len] at h1
      omega
    have hI1 : SizeI w pre X1 := ⟨hI.1.trans (hT.low (by omega) (hI.1.size)), (hT.block _ hI.2.lt (.inl (by omega))).trans hI.2⟩
    unfold pxE
    gi_wp2
    exact hK _ _ (KeepsFrom.refl _ _) (KeepsT.refl _ _) ⟨hI1, hpl, by first | rfl | simp⟩
  case body =>
    rintro pre x a' W hrc ⟨hI, hpl, rfl⟩
    have c0 : W.cell? ⟨w.heap.size + 1, 0, none⟩ = some (.int .i64 ((pre.length : Nat) : Int)) := hI.2.cell 0
    have f0 := hI.2.frozen 0
    have hadd : IntKind.i64.wrap (((pre.length : Nat) : Int) + 1) = ((pre.length + 1 : Nat) : Int) := by rw [IntKind.wrap_i64]; omega
    have HI := Lib.hid hI; clear hI
    gi_wp2
    refine ⟨(KeepsOthers.setCell _ _ _).from _, ⟨(Below.refl _ _).setCell (by show w.heap.size ≤ w.heap.size + 1; omega) _, fun b cs t z ht hb => Below.heap_setCell _ _ _ b (fun e => ?_)⟩, (HI.out.1.setCell (by show w.heap.size ≤ w.heap.size + 1; omega) _), ?_⟩
    · have e2 : b = w.heap.size + 1 := e
      subst e2
      have h2 : W.heap[w.heap.size + 1]? = some (.cells #[.int .i64 ((pre.length : Nat) : Int)] 3 (0, 0)) := HI.out.2
      rw [h2] at hb
      injection hb with hb
      injection hb with _ hb2 _
      subst hb2
      rcases ht with h | h <;> revert h <;> decide
    · rw [List.length_append]
      exact HI.out.2.set 0 _
  case done =>
    rintro BB xs X0 X X' hB hS hI hT ⟨r, r', hl, rfl⟩ hD
    have hlen : xs.length = sizeT (d + 1) t := by
      have h1 := congrArg List.length hS
      rw [List.length_map, flatT_len] at h1
      exact h1
    have hI1 : SizeI w xs X := ⟨hI.1.trans (hT.low (by omega) (hI.1.size)), (hT.block _ hI.2.lt (.inl (by omega))).trans hI.2⟩
    have hI2 := hI1.book (r' := r') hl (by omega)
    obtain ⟨X9, hX9⟩ : ∃ X9, X.putObj (W2.heap.size + 1) (.loop r') = X9 := ⟨_, rfl⟩
    rw [hX9] at hI2 hD ⊢
    clear hX9 hI1 hT hl
    have z0 : X9.cell? ⟨w.heap.size + 1, 0, none⟩ = some (.int .i64 ((xs.length : Nat) : Int)) := hI2.2.cell 0
    have HI2 := Lib.hid hI2
    rw [hlen] at z0
    clear hI2
    gi_wp2
    refine ⟨by simp, .inl ⟨_, _, rfl, run_takeDeferred hD, ?_⟩⟩
    refine ⟨.int .i64 ((sizeT (d + 1) t : Nat) : Int), ?_, rfl, ?_⟩
    · simp [results, Try.f8, go_sem]
    · have hsz : (X9.putObj W2.heap.size (.deferred none)).heap.size = X9.heap.size := by simp [World.putObj]
      have hb := HI2.out.1
      exact ⟨hb.os, hb.tape, hb.output, by rw [hsz]; exact hb.size, fun k hk => (World.putObj_heap_other (by omega)).trans (hb.block k hk)⟩
  case stop =>
    rintro BB c pre X0 X X' hB _ hF
    exact hF.elim

end Go.Proofs.Ytiekfjlhioekcaa
