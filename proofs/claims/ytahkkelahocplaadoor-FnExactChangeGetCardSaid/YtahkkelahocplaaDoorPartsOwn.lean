/-
  A copy of parts lies in memory of its own; marks are written into it, and nothing else turns.
-/
import Derived.Test.YtahkkelahocplaaDoorParts
import Derived.Test.YtahkkelahocplaaDoorWithin
namespace Go.Proofs.YtahkkelahocplaaDoor
open Go.RowKit

/-- The three cells of a part that may be written, and what they lead on to. -/
def PartAt (w : World) (lo hi : Nat) (f : Nat → Value) (i : Nat) : Prop :=
  ∃ b s A n c, f (i * 3) = .bool b ∧ f (i * 3 + 1) = .string s ∧ f (i * 3 + 2) = .slice A n c ∧ n ≤ 1048576 ∧ (0 < n → RowAt w lo hi 62 A (n * 2))

/-- A row of parts that may be written, and what it leads on to. -/
def PartRow (w : World) (lo hi g n : Nat) : Prop :=
  lo ≤ g ∧ g < hi ∧ ∃ f, w.rowIs g 86 (n * 3) f ∧ ∀ i, i < n → PartAt w lo hi f i

theorem PartAt.keep {w w' : World} {lo hi lo' hi' i : Nat} {f : Nat → Value} (h : PartAt w lo hi f i) (hk : ∀ b, lo ≤ b → b < hi → w'.heap[b]? = w.heap[b]?) (h1 : lo' ≤ lo) (h2 : hi ≤ hi') : PartAt w' lo' hi' f i := by
  obtain ⟨b, s, A, n, c, e1, e2, e3, e4, e5⟩ := h
  exact ⟨b, s, A, n, c, e1, e2, e3, e4, fun h0 => (e5 h0).keep hk h1 h2⟩

theorem PartRow.keep {w w' : World} {lo hi g n : Nat} (h : PartRow w lo hi g n) (hk : ∀ b, lo ≤ b → b < hi → w'.heap[b]? = w.heap[b]?) : PartRow w' lo hi g n := by
  obtain ⟨h1, h2, f, hr, hp⟩ := h
  exact ⟨h1, h2, f, hr.of_block (hk g h1 h2), fun i hi => (hp i hi).keep hk (Nat.le_refl _) (Nat.le_refl _)⟩

theorem set3_block {w : World} {g i j k : Nat} {u v x : Value} {b : Nat} (hb : b ≠ g) : (((w.setCell ⟨g, i, none⟩ u).setCell ⟨g, j, none⟩ v).setCell ⟨g, k, none⟩ x).heap[b]? = w.heap[b]? :=
  (Below.heap_setCell _ _ _ b hb).trans ((Below.heap_setCell _ _ _ b hb).trans (Below.heap_setCell _ _ _ b hb))

/-- A copy of parts, in memory of its own. -/
def PartSOwn (n : Nat) (xs : List Pt) (w : World) (e : Ending) (w' : World) : Prop :=
  ∃ g, e = .returned (.slice (some ⟨g, 0, none⟩) n n) ∧ w.heap.size ≤ g ∧ IsParts w' w.heap.size w'.heap.size (some ⟨g, 0, none⟩) n n xs ∧ PartRow w' w.heap.size w'.heap.size g n ∧ Below w.heap.size w w'


/-- A row of terms is no row of parts. -/
theorem row_apart {w : World} {lo hi g m k : Nat} {A : Option Addr} {f : Nat → Value} (h : RowAt w lo hi 62 A m) (hr : w.rowIs g 86 k f) : A ≠ some ⟨g, 0, none⟩ := by
  intro e
  obtain ⟨g', k', f', e1, _, _, ⟨cs', y1, _⟩, _⟩ := h
  rw [e] at e1
  injection e1 with e1
  injection e1 with e1
  subst e1
  obtain ⟨cs, y2, _⟩ := hr
  rw [y2] at y1
  injection y1 with y1
  injection y1 with _ y1
  exact absurd y1 (by decide)

theorem RowAt.far {w : World} {lo hi g i m k : Nat} {A : Option Addr} {f : Nat → Value} (h : RowAt w lo hi 62 A m) (hr : w.rowIs g 86 k f) (v : Value) : RowAt (w.setCell ⟨g, i, none⟩ v) lo hi 62 A m := by
  have hne := row_apart h hr
  obtain ⟨g', k', f', e1, e2, e3, e4, e5⟩ := h
  exact ⟨g', k', f', e1, e2, e3, e4.of_block (Below.heap_setCell _ _ _ g' (fun e => hne (by rw [e1, e]))), e5⟩

/-- A part's Not, or its name, is written. -/
theorem PartRow.put {w : World} {lo hi g n : Nat} (h : PartRow w lo hi g n) (i d : Nat) (v : Value) (hd : (d = 0 ∧ ∃ b, v = .bool b) ∨ (d = 1 ∧ ∃ s, v = .string s)) : PartRow (w.setCell ⟨g, i * 3 + d, none⟩ v) lo hi g n := by
  obtain ⟨h1, h2, f, hr, hp⟩ := h
  refine ⟨h1, h2, _, hr.set (i * 3 + d) v, fun j hj => ?_⟩
  obtain ⟨b, s, A, m, c, e1, e2, e3, e4, e5⟩ := hp j hj
  rcases hd with ⟨rfl, b', rfl⟩ | ⟨rfl, s', rfl⟩
  · by_cases e : j = i
    · subst e
      exact ⟨b', s, A, m, c, by simp, by dsimp only; rw [if_neg (by omega)]; exact e2, by dsimp only; rw [if_neg (by omega)]; exact e3, e4, fun h0 => (e5 h0).far hr _⟩
    · exact ⟨b, s, A, m, c, by dsimp only; rw [if_neg (by omega)]; exact e1, by dsimp only; rw [if_neg (by omega)]; exact e2, by dsimp only; rw [if_neg (by omega)]; exact e3, e4, fun h0 => (e5 h0).far hr _⟩
  · by_cases e : j = i
    · subst e
      exact ⟨b, s', A, m, c, by dsimp only; rw [if_neg (by omega)]; exact e1, by simp, by dsimp only; rw [if_neg (by omega)]; exact e3, e4, fun h0 => (e5 h0).far hr _⟩
    · exact ⟨b, s, A, m, c, by dsimp only; rw [if_neg (by omega)]; exact e1, by dsimp only; rw [if_neg (by omega)]; exact e2, by dsimp only; rw [if_neg (by omega)]; exact e3, e4, fun h0 => (e5 h0).far hr _⟩

/-- A row of terms is written. -/
theorem PartRow.terms {w w' : World} {lo hi g n g' m : Nat} {f f' : Nat → Value} (h : PartRow w lo hi g n) (hr : w.rowIs g' 62 m f) (hr' : w'.rowIs g' 62 m f') (hg : w.grownBy w' (some g')) (hh : hi ≤ w.heap.size) : PartRow w' lo hi g n := by
  obtain ⟨h1, h2, f1, hr1, hp⟩ := h
  have hne : g ≠ g' := fun e => by
    subst e
    obtain ⟨cs, y1, _⟩ := hr1
    obtain ⟨cs', y2, _⟩ := hr
    rw [y2] at y1
    injection y1 with y1
    injection y1 with _ y1
    exact absurd y1 (by decide)
  refine ⟨h1, h2, f1, hr1.of_block (hg.block g (by omega) (fun e => hne (by injection e))), fun j hj => ?_⟩
  obtain ⟨b, s, A, k, c, e1, e2, e3, e4, e5⟩ := hp j hj
  refine ⟨b, s, A, k, c, e1, e2, e3, e4, fun h0 => ?_⟩
  obtain ⟨g2, k2, f2, x1, x2, x3, x4, x5⟩ := e5 h0
  by_cases e : g2 = g'
  · subst e
    have hkm : k2 = m := by
      obtain ⟨cs, y1, y2, _⟩ := x4
      obtain ⟨cs', z1, z2, _⟩ := hr
      rw [z1] at y1
      injection y1 with y1
      injection y1 with y1
      subst y1
      omega
    subst hkm
    exact ⟨g2, k2, f', x1, x2, x3, hr', x5⟩
  · exact ⟨g2, k2, f2, x1, x2, x3, x4.of_block (hg.block g2 (by omega) (fun e' => e (by injection e'))), x5⟩

theorem markTermS_is (g m n c k : Nat) (f : Nat → Value) (w : World) (z : Int) (hz : z = (k : Int)) (hr : w.rowIs g 62 m f) (hm : n * 2 ≤ m) (hk : k + 2 * n ≤ 2 ^ 62) :
    Calls Tryd.prog 55 #[.slice (some ⟨g, 0, none⟩) n c, .int .i64 z] w (MarkTPost g m n k w) := by
  subst hz; exact markTermS_any g m n c k f w hr hm hk

theorem markTermS_zero (A : Option Addr) (c k : Nat) (w : World) (z : Int) (hz : z = (k : Int)) : Calls Tryd.prog 55 #[.slice A 0 c, .int .i64 z] w fun e w' => e = .returned (.int .i64 (k : Int)) ∧ w' = w := by
  subst hz; exact markTermS_none A c k w

theorem mod3q {q : Nat} {b : Bool} (h : ((q : Int) % 3 == 0) = b) : b = decide (q % 3 = 0) := by
  rw [← h, Bool.eq_iff_iff, beq_iff_eq, decide_eq_true_eq]; omega

set_option maxRecDepth 100000 in
set_option maxHeartbeats 2000000 in
theorem markPartS_own (lo hi g n c k : Nat) (w : World) (h : PartRow w lo hi g n) (hh : hi ≤ w.heap.size) (hk : k + n * 2097154 ≤ 2 ^ 62) :
    Calls Tryd.prog 35 #[.slice (some ⟨g, 0, none⟩) n c, .int .i64 (k : Int)] w fun e w' => (∃ k' : Nat, e = .returned (.int .i64 (k' : Int)) ∧ k ≤ k' ∧ k' ≤ k + n * 2097154) ∧ PartRow w' lo hi g n ∧ Within lo hi w w' := by
  have H := Lib.hid h; clear h
  go_enter Tryd.func35, Tryd.ntmps35
  go_wp2
  go_loopw [1, 5] (fun x y wr => ∃ i q : Nat, i ≤ n ∧ x = .int .i64 (q : Int) ∧ y = .int .i64 (i : Int) ∧ k ≤ q ∧ q ≤ k + i * 2097154 ∧ PartRow wr lo hi g n ∧ Within lo hi w wr) (fun _ y _ => n - (intOf y).toNat)
  case atStart => exact ⟨0, k, Nat.zero_le _, rfl, rfl, Nat.le_refl _, by omega, H.out, Within.refl⟩
  case round =>
    obtain ⟨i, q, hi', rfl, rfl, hq1, hq2, hP, hw⟩ := hrel
    by_cases hlt : i < n
    · have hlt2 : (i : Int) < (n : Int) := by omega
      have hwz := hw.size
      have hq3 : q + 2097154 ≤ 2 ^ 62 := by omega
      obtain ⟨bv, hbv⟩ : ∃ bv, ((q : Int) % 3 == 0) = bv := ⟨_, rfl⟩
      have P1 : PartRow (wr.setCell ⟨g, i * 3, none⟩ (.bool bv)) lo hi g n := hP.put i 0 (.bool bv) (.inl ⟨rfl, bv, rfl⟩)
      obtain ⟨hlo, hhi, f, hr, hp⟩ := hP
      have c0 := hr.cell (i := i * 3) (by omega)
      have z0 := hr.frozen (i * 3)
      have hw1 := hw.trans (Within.row (grownSet wr g (i * 3) (.bool bv)) hlo hhi)
      have HP1 := Lib.hid P1
      clear P1 hr hp
      go_wp2_with fail
      refine (markText_is _ (q + 1) (by omega) (by omega) _).mono ?_; rintro e w1 ⟨rfl, hb1⟩
      have hw2 := hw1.trans (Within.of hb1)
      have hz2 := hw2.size
      have P2 : PartRow w1 lo hi g n := HP1.out.keep (fun b h1 h2 => hb1.block b (by rw [size_setCell]; omega))
      have P3 := P2.put i 1 (.string (markB (q + 1))) (.inr ⟨rfl, _, rfl⟩)
      obtain ⟨_, _, f2, hr2, _⟩ := P2
      have c1 := hr2.cell (i := i * 3 + 1) (by omega)
      have z1 := hr2.frozen (i * 3 + 1)
      have hw3 := hw2.trans (Within.row (grownSet w1 g (i * 3 + 1) (.string (markB (q + 1)))) hlo hhi)
      have HP3 := Lib.hid P3
      obtain ⟨_, _, f3, hr3, hp3⟩ := P3
      obtain ⟨b3, s3, A3, n3, c3, _, _, e3, e4, e5⟩ := hp3 i hlt
      have c2 := hr3.cell (i := i * 3 + 2) (by omega)
      rw [e3] at c2
      have hz3 : (w1.setCell ⟨g, i * 3 + 1, none⟩ (.string (markB (q + 1)))).heap.size = w1.heap.size := size_setCell _ _ _
      clear hr2 hr3 hp3 c0 z0 e3 hb1 HP1
      go_wp2_with fail
      by_cases h0 : 0 < n3
      · obtain ⟨g', k', f', x1, x2, x3, x4, x5⟩ := e5 h0
        subst x1
        refine (markTermS_is g' k' n3 c3 (q + 2) f' _ _ (by omega) x4 x5 (by omega)).mono ?_; rintro e w4 ⟨rfl, ⟨f4, r4, _⟩, hg4⟩
        have P4 := HP3.out.terms x4 r4 hg4 (by omega)
        have hw4 := hw3.trans (Within.row hg4 x2 x3)
        have HP4 := Lib.hid P4
        clear c1 z1 c2 x4 r4 P4
        go_wp2
        go_roundw
        case rel => exact ⟨i + 1, q + 2 + 2 * n3, by omega, by go_num, by go_num, by omega, by omega, HP4.out, hw4⟩
        case measure => simp [intOf]; omega
      · have hn0 : n3 = 0 := by omega
        subst hn0
        refine (markTermS_zero A3 c3 (q + 2) _ _ (by omega)).mono ?_; rintro e w4 ⟨rfl, rfl⟩
        clear c1 z1 c2
        go_wp2
        go_roundw
        case rel => exact ⟨i + 1, q + 2, by omega, by go_num, by go_num, by omega, by omega, HP3.out, hw3⟩
        case measure => simp [intOf]; omega
    · have hin : i = n := by omega
      subst hin
      go_wp2
      go_ret; exact ⟨⟨q, rfl, hq1, hq2⟩, hP, hw⟩

end Go.Proofs.YtahkkelahocplaaDoor
