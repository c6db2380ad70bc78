/-
  Texts of one claim, put together.
-/
import Derived.Test.YtiekfjlhioekcaaDoorProofSize
import Derived.Test.YtiekfjlhioekcaaDoorShelfK
namespace Go.Proofs.YtiekfjlhioekcaaDoor
open Go.RowKit Go.Shelf
attribute [local go_sem] Oper.semAt_some

theorem KeepsT.set {n₀ : Nat} {W : World} {p : Addr} {ty : TypeId} {cs : Array Value} (hn : n₀ ≤ p.block) (hb : Blk W p.block ty cs) (h1 : ty ≠ 33) (h2 : ty ≠ 35) (u : Value) : KeepsT n₀ W (W.setCell p u) := by
  refine ⟨(Below.refl _ _).setCell hn _, fun b cs' t z ht hc => Below.heap_setCell _ _ _ b (fun e => ?_)⟩
  subst e
  have h3 : W.heap[p.block]? = some (.cells cs ty (0, 0)) := hb
  rw [h3] at hc
  injection hc with hc
  injection hc with _ hc2 _
  subst hc2
  rcases ht with h | h
  · exact h1 h
  · exact h2 h

/-- What the loop holds .. -/
def TgI (w : World) (pre : List Px) (W : World) : Prop := Below w.heap.size w W ∧ Blk W (w.heap.size + 1) 4 #[.bool false] ∧ Blk W (w.heap.size + 2) 3 #[.int .i64 ((pre.length : Nat) : Int)] ∧ pre.length ≤ 60
/-- .. and where it stops. -/
def TgX (w : World) (c : Code) (pre : List Px) (W : World) : Prop := c = .ret ∧ Below w.heap.size w W ∧ Blk W (w.heap.size + 1) 4 #[.bool true] ∧ 60 < pre.length

theorem TgI.book {w : World} {pre : List Px} {W : World} {l : Nat} {r r' : Loop} (h : TgI w pre W) (hl : W.heap[l]? = some (.loop r)) (hw : w.heap.size ≤ l) : TgI w pre (W.putObj l (.loop r')) :=
  ⟨h.1.trans (KeepsT.book hl hw).1, h.2.1.putObj (.loop r') hl rfl, h.2.2.1.putObj (.loop r') hl rfl, h.2.2.2⟩
theorem TgX.book {w : World} {c : Code} {pre : List Px} {W : World} {l : Nat} {r r' : Loop} (h : TgX w c pre W) (hl : W.heap[l]? = some (.loop r)) (hw : w.heap.size ≤ l) : TgX w c pre (W.putObj l (.loop r')) :=
  ⟨h.1, h.2.1.trans (KeepsT.book hl hw).1, h.2.2.1.putObj (.loop r') hl rfl, h.2.2.2⟩

set_option maxRecDepth 100000 in
set_option maxHeartbeats 4000000 in
theorem tooGreat_any (d : Nat) (A : Option Addr) (n c : Nat) (B : Option Addr) (m e : Nat) (t : Tr) (w : World) (hs : t.a.1.size ≤ maxLen) (h : IsPf d w 0 w.heap.size A n c B m e t) (hz : sizeT (d + 1) t ≤ 2097152) :
    Calls Tryd.prog 15 #[.agg #[.string t.a.1, .slice A n c, .int .i64 t.r, .slice B m e]] w fun e1 w' => e1 = .returned (.bool (decide (60 < sizeT (d + 1) t))) ∧ Below w.heap.size w w' := by
  have H := Lib.hid h; clear h
  have hb0 := below3 w (.cells #[.string t.a.1, .slice A n c, .int .i64 t.r, .slice B m e] 35) (.cells #[.bool false] 4) (.cells #[.int .i64 0] 3)
  have R0 := (Blk.made (w.alloc (.cells #[.string t.a.1, .slice A n c, .int .i64 t.r, .slice B m e] 35)) (b := w.heap.size + 1) 4 #[.bool false] (by simp)).alloc (.cells #[.int .i64 0] 3)
  have Z0 := Blk.made ((w.alloc (.cells #[.string t.a.1, .slice A n c, .int .i64 t.r, .slice B m e] 35)).alloc (.cells #[.bool false] 4)) (b := w.heap.size + 2) 3 #[.int .i64 0] (by simp)
  have hz0 : (((w.alloc (.cells #[.string t.a.1, .slice A n c, .int .i64 t.r, .slice B m e] 35)).alloc (.cells #[.bool false] 4)).alloc (.cells #[.int .i64 0] 3)).heap.size = w.heap.size + 3 := by simp
  refine (callsIn_wide (n := 5)).1 ?_
  refine callsIn_of_wp_marks Tryd.func15 rfl trivial ?_ rfl
  simp only [Tryd.ntmps15, List.size_toArray, List.length_cons, List.length_nil, Nat.reduceAdd, Nat.reduceSub, Array.replicate_succ, Array.replicate_zero, List.push_toArray, List.append_toArray, List.nil_append, List.cons_append]
  gi_wp2_with (refine ⟨trivial, ?_⟩; gi_at_call 16; refine (callsIn_wide.2 (eachOf_any t.a.1 A n c t.r B m e _)).mono ?_; rintro e W2 ⟨rfl, hbk2, hb2, hz2⟩)
  rw [hz0] at hbk2
  have Z2 := Z0.below hb2
  have R2 := R0.below hb2
  have HB2 := belowThen hb0 hb2
  have hz2a : w.heap.size + 4 ≤ W2.heap.size := by omega
  clear hz2 hb2 Z0 R0
  have HST := Lib.hid (each_stops (5 - 1) (by omega) (w.heap.size + 3) w.heap.size d t A n c B m e W2 hbk2 hs (H.out.keep (fun q _ hq => HB2.cell (p := q) hq) (Nat.le_refl _) (Nat.le_refl _)) (by omega) hz)
  have HZ2 := Lib.hid Z2; have HR2 := Lib.hid R2; have HBB := Lib.hid HB2
  clear hbk2 Z2 HB2 R2
  refine wpIn_rangeT rfl (by omega) (gf := 28) (lb := #[.pointer (some ⟨w.heap.size + 3, 0, none⟩)]) rfl trivial (enters_of Tryd.func28 (by kernel_rfl) rfl) HST.out
    KeepsT.trans (fun W r r' hl => KeepsT.book hl (by omega)) (Below.refl _ _) (fun _ => rfl)
    (fun B X Y hB hT k h1 h2 ho => hT.block k (Array.getElem?_eq_some_iff.1 ho.choose_spec.1).1 (.inl (by omega)))
    (TgI w) (TgX w)
    (fun pre W r o' hI hl => hI.book hl (by omega)) (fun c pre W r o' h hl => h.book hl (by omega))
    (fun V hV hVz => ⟨HBB.out.trans (hV.mono (by omega)), HR2.out.below hV, HZ2.out.below hV, Nat.zero_le _⟩)
    (fun pre x a' W => TgI w pre W ∧ a' = { tmps := #[.agg #[.string t.a.1, .slice A n c, .int .i64 t.r, .slice B m e], .pointer (some ⟨w.heap.size, 0, none⟩), .pointer (some ⟨w.heap.size + 1, 0, none⟩), .pointer (some ⟨w.heap.size + 2, 0, none⟩), .agg #[.string t.a.1, .slice A n c, .int .i64 t.r, .slice B m e], .func (.func 28) #[] #[.pointer (some ⟨w.heap.size + 3, 0, none⟩)], .int .i64 (x.lv : Int), pxV x, undef, undef, undef, undef], defers := [] })
    (fun pre x a' W r o' hA hl => ⟨hA.1.book hl (by omega), hA.2⟩)
    ?assign ?body ?done ?stop
  case assign =>
    rintro BB pre x X0 X1 K hB hI hT ⟨p1, p2, p3⟩ hK
    have hI1 : TgI w pre X1 := ⟨hI.1.trans (hT.low (by omega) (hI.1.size)), (hT.block _ hI.2.1.lt (.inl (by omega))).trans hI.2.1, (hT.block _ hI.2.2.1.lt (.inl (by omega))).trans hI.2.2.1, hI.2.2.2⟩
    unfold pxE
    gi_wp2
    exact hK _ _ (KeepsFrom.refl _ _) (KeepsT.refl _ _) ⟨hI1, by first | rfl | simp⟩
  case body =>
    rintro pre x a' W hrc ⟨hI, rfl⟩
    have hpl := hI.2.2.2
    have c0 : W.cell? ⟨w.heap.size + 2, 0, none⟩ = some (.int .i64 ((pre.length : Nat) : Int)) := hI.2.2.1.cell 0
    have f0 := hI.2.2.1.frozen 0
    have r0 : W.cell? ⟨w.heap.size + 1, 0, none⟩ = some (.bool false) := hI.2.1.cell 0
    have g0 := hI.2.1.frozen 0
    have hadd : IntKind.i64.wrap (((pre.length : Nat) : Int) + 1) = ((pre.length + 1 : Nat) : Int) := by rw [IntKind.wrap_i64]; omega
    have HI := Lib.hid hI; clear hI
    have hk1 : KeepsT w.heap.size W (W.setCell ⟨w.heap.size + 2, 0, none⟩ (.int .i64 ((pre.length + 1 : Nat) : Int))) := KeepsT.set (p := ⟨w.heap.size + 2, 0, none⟩) (by show w.heap.size ≤ w.heap.size + 2; omega) HI.out.2.2.1 (by decide) (by decide) _
    have z1 : Blk (W.setCell ⟨w.heap.size + 2, 0, none⟩ (.int .i64 ((pre.length + 1 : Nat) : Int))) (w.heap.size + 2) 3 #[.int .i64 ((pre.length + 1 : Nat) : Int)] := HI.out.2.2.1.set 0 _
    have z2 : Blk (W.setCell ⟨w.heap.size + 2, 0, none⟩ (.int .i64 ((pre.length + 1 : Nat) : Int))) (w.heap.size + 1) 4 #[.bool false] := HI.out.2.1.far (p := ⟨w.heap.size + 2, 0, none⟩) (by show w.heap.size + 1 ≠ w.heap.size + 2; omega) _
    have HK1 := Lib.hid hk1; have Z1 := Lib.hid z1; have Z2 := Lib.hid z2
    clear hk1 z1 z2
    by_cases hg : 60 < pre.length + 1
    · have hgI : (60 : Int) < ((pre.length + 1 : Nat) : Int) := by omega
      gi_wp2
      refine ⟨((KeepsOthers.setCell _ _ _).trans (KeepsOthers.setCell _ _ _)).from _, HK1.out.trans (KeepsT.set (p := ⟨w.heap.size + 1, 0, none⟩) (by show w.heap.size ≤ w.heap.size + 1; omega) Z2.out (by decide) (by decide) _), rfl, (HI.out.1.trans HK1.out.1).setCell (by show w.heap.size ≤ w.heap.size + 1; omega) _, Z2.out.set 0 _, by rw [List.length_append]; exact hg⟩
    · have hgI : ¬ (60 : Int) < ((pre.length + 1 : Nat) : Int) := by omega
      gi_wp2
      refine ⟨(KeepsOthers.setCell _ _ _).from _, HK1.out, HI.out.1.trans HK1.out.1, Z2.out, by rw [List.length_append]; exact Z1.out, by rw [List.length_append, List.length_singleton]; omega⟩
  case done =>
    rintro BB xs X0 X X' hB hS hI hT ⟨r, r', hl, rfl⟩ hD
    have hlen : xs.length = sizeT (d + 1) t := by
      have h1 := congrArg List.length hS
      rw [List.length_map, flatT_len] at h1
      exact h1
    have hI1 : TgI w xs X := ⟨hI.1.trans (hT.low (by omega) (hI.1.size)), (hT.block _ hI.2.1.lt (.inl (by omega))).trans hI.2.1, (hT.block _ hI.2.2.1.lt (.inl (by omega))).trans hI.2.2.1, hI.2.2.2⟩
    have hI2 := hI1.book (r' := r') hl (by omega)
    obtain ⟨X9, hX9⟩ : ∃ X9, X.putObj (W2.heap.size + 1) (.loop r') = X9 := ⟨_, rfl⟩
    rw [hX9] at hI2 hD ⊢
    clear hX9 hI1 hT hl
    have hdec : decide (60 < sizeT (d + 1) t) = false := by rw [← hlen]; exact decide_eq_false (by have := hI2.2.2.2; omega)
    have z0 : X9.cell? ⟨w.heap.size + 1, 0, none⟩ = some (.bool false) := hI2.2.1.cell 0
    have g0 := hI2.2.1.frozen 0
    have HI2 := Lib.hid hI2
    clear hI2
    have HDEC := Lib.hid hdec
    clear hdec hlen
    gi_wp2
    have hD9 : (X9.setCell ⟨w.heap.size + 1, 0, none⟩ (.bool false)).heap[W2.heap.size]? = some (.deferred (some [])) := (Below.heap_setCell _ _ _ _ (by show W2.heap.size ≠ w.heap.size + 1; omega)).trans hD
    have r9 : Blk (X9.setCell ⟨w.heap.size + 1, 0, none⟩ (.bool false)) (w.heap.size + 1) 4 #[.bool false] := HI2.out.2.1.set 0 _
    have hb9 : Below w.heap.size w (X9.setCell ⟨w.heap.size + 1, 0, none⟩ (.bool false)) := HI2.out.1.setCell (by show w.heap.size ≤ w.heap.size + 1; omega) _
    obtain ⟨Y, hYe⟩ : ∃ Y, X9.setCell ⟨w.heap.size + 1, 0, none⟩ (.bool false) = Y := ⟨_, rfl⟩
    rw [hYe] at hD9 r9 hb9 ⊢
    have q9 := r9.putObj (.deferred none) hD9 rfl
    have c9 : (Y.putObj W2.heap.size (.deferred none)).cell? ⟨w.heap.size + 1, 0, none⟩ = some (.bool false) := q9.cell 0
    refine ⟨by simp, .inl ⟨_, _, rfl, run_takeDeferred hD9, ?_⟩⟩
    refine ⟨.bool false, ?_, by rw [HDEC.out], ?_⟩
    · simp [results, Tryd.f15, go_sem, c9]
    · have hsz : (Y.putObj W2.heap.size (.deferred none)).heap.size = Y.heap.size := by simp [World.putObj]
      exact ⟨hb9.os, hb9.tape, hb9.output, by rw [hsz]; exact hb9.size, fun k hk => (World.putObj_heap_other (by omega)).trans (hb9.block k hk)⟩
  case stop =>
    rintro BB c pre X0 X X' hB hSp ⟨rfl, hx1, hx2, hx3⟩ hT ⟨r, r', hl, rfl⟩ hD
    have hlen : 60 < sizeT (d + 1) t := by
      have h1 := hSp.length_le
      rw [List.length_map, flatT_len] at h1
      omega
    have hX1 : Below w.heap.size w X := hx1.trans (hT.low (by omega) hx1.size)
    have hX2 : Blk X (w.heap.size + 1) 4 #[.bool true] := (hT.block _ hx2.lt (.inl (by omega))).trans hx2
    have hb2 := hX1.trans (KeepsT.book (r' := r') hl (by omega)).1
    have hr2 := hX2.putObj (.loop r') hl rfl
    obtain ⟨X9, hX9⟩ : ∃ X9, X.putObj (W2.heap.size + 1) (.loop r') = X9 := ⟨_, rfl⟩
    rw [hX9] at hb2 hr2 hD ⊢
    clear hX9 hX1 hX2 hT hl
    have HDEC := Lib.hid (decide_eq_true hlen)
    clear hlen
    gi_wp2
    have hD9 := hD
    have r9 := hr2
    have hb9 := hb2
    have q9 := r9.putObj (.deferred none) hD9 rfl
    have c9 : (X9.putObj W2.heap.size (.deferred none)).cell? ⟨w.heap.size + 1, 0, none⟩ = some (.bool true) := q9.cell 0
    refine ⟨by simp, .inl ⟨_, _, rfl, run_takeDeferred hD9, ?_⟩⟩
    refine ⟨.bool true, ?_, by rw [HDEC.out], ?_⟩
    · simp [results, Tryd.f15, go_sem, c9]
    · have hsz : (X9.putObj W2.heap.size (.deferred none)).heap.size = X9.heap.size := by simp [World.putObj]
      exact ⟨hb9.os, hb9.tape, hb9.output, by rw [hsz]; exact hb9.size, fun k hk => (World.putObj_heap_other (by omega)).trans (hb9.block k hk)⟩

end Go.Proofs.YtiekfjlhioekcaaDoor

namespace Go.Proofs.YtiekfjlhioekcaaDoor
open Go.RowKit Go.Shelf

/-- A builder stays where blocks of its type and rows of bytes stay. -/
theorem bu_keep {T e : TypeId} {B b : Nat} {bs : List Value} {W W' : World} (h : Lib.IsBuilderF T e B b bs W) (hk : ∀ (k : Nat) (c : Array Value) (t : TypeId) (fz : Nat × Nat), W.heap[k]? = some (.cells c t fz) → t = T ∨ t = e → W'.heap[k]? = W.heap[k]?) : Lib.IsBuilderF T e B b bs W' := by
  have key : ∀ p, Lib.BuilderAtF T e B b p bs W → Lib.BuilderAtF T e B b p bs W' := by
    rintro p ⟨h1, v, h2, ⟨h3, h5⟩, h4⟩
    refine ⟨h1, v, (hk _ _ _ _ h2 (.inl rfl)).trans h2, ⟨h3, h5.imp id ?_⟩, h4⟩
    rintro ⟨g, cap, cur, m, e1, hb, hgb, rest⟩
    exact ⟨g, cap, cur, m, e1, hb, (hk _ _ _ _ hgb (.inr rfl)).trans hgb, rest⟩
  exact h.imp (key _) (key _)

theorem bu_turns {B b BB : Nat} {bs : List Value} {W W' : World} (h : Lib.IsBuilderF 49 5 B b bs W) (hT : TurnsT BB W W') : Lib.IsBuilderF 49 5 B b bs W' :=
  bu_keep h fun k c t fz hc ht => hT.block k (Array.getElem?_eq_some_iff.1 hc).1 (.inr (fun ⟨cs, z, h2⟩ => by
    rw [hc] at h2
    injection h2 with h2
    injection h2 with _ h3 _
    subst h3
    rcases ht with h | h <;> revert h <;> decide))

theorem bu_below {B b : Nat} {bs : List Value} {W W' : World} (h : Lib.IsBuilderF 49 5 B b bs W) (hb : Below W.heap.size W W') : Lib.IsBuilderF 49 5 B b bs W' :=
  bu_keep h fun k _ _ _ hc _ => hb.block k (Array.getElem?_eq_some_iff.1 hc).1

theorem bu_book {B b l : Nat} {bs : List Value} {W : World} {r r' : Loop} (h : Lib.IsBuilderF 49 5 B b bs W) (hl : W.heap[l]? = some (.loop r)) : Lib.IsBuilderF 49 5 B b bs (W.putObj l (.loop r')) :=
  bu_keep h fun k _ _ _ hc _ => World.putObj_heap_other (fun e => by subst e; rw [hl] at hc; cases hc)

theorem bu_keepsT {n₀ B b : Nat} {bs : List Value} {W W' : World} (h : Lib.IsBuilderF 49 5 B b bs W) (hb : Below B W W') (ho : Lib.OthersKept 5 (some b) W W') (hn : n₀ ≤ B) : KeepsT n₀ W W' := by
  refine ⟨hb.mono hn, fun k cs t z ht hc => ?_⟩
  have hne : k ≠ b := fun e => by
    subst e
    have : ∃ c, W.heap[k]? = some (.cells c 49 (0, 0)) := by
      rcases h with ⟨_, v, h2, _⟩ | ⟨_, v, h2, _⟩ <;> exact ⟨_, h2⟩
    obtain ⟨c, h2⟩ := this
    rw [hc] at h2
    injection h2 with h2
    injection h2 with _ h3 _
    subst h3
    rcases ht with h | h <;> revert h <;> decide
  rw [ho k _ hc (fun e => hne (by injection e)) (fun c fz e => ?_), hc]
  injection e with _ h3 _
  subst h3
  rcases ht with h | h <;> revert h <;> decide

end Go.Proofs.YtiekfjlhioekcaaDoor
