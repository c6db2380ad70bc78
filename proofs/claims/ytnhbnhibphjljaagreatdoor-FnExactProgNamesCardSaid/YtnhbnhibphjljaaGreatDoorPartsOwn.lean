/-
  A copy of parts lies in memory of its own; marks are written into it, and nothing else turns.
-/
import Derived.Test.YtnhbnhibphjljaaGreatDoorParts
import Derived.Test.YtnhbnhibphjljaaGreatDoorWithin
namespace Go.Proofs.YtnhbnhibphjljaaGreatDoor
open Go.RowKit

/-- The three cells of a part that may be written, and what they lead on to. -/
def PartAt (w : World) (lo hi : Nat) (f : Nat → Value) (i : Nat) : Prop :=
  ∃ b s A n c, f (i * 3) = .bool b ∧ f (i * 3 + 1) = .string s ∧ f (i * 3 + 2) = .slice A n c ∧ n ≤ 1048576 ∧ (0 < n → RowAt w lo hi 64 A (n * 2))

/-- A row of parts that may be written, and what it leads on to. -/
def PartRow (w : World) (lo hi g n : Nat) : Prop :=
  lo ≤ g ∧ g < hi ∧ ∃ f, w.rowIs g 69 (n * 3) f ∧ ∀ i, i < n → PartAt w lo hi f i

theorem PartAt.keep {w w' : World} {lo hi lo' hi' i : Nat} {f : Nat → Value} (h : PartAt w lo hi f i) (hk : ∀ b, lo ≤ b → b < hi → w'.heap[b]? = w.heap[b]?) (h1 : lo' ≤ lo) (h2 : hi ≤ hi') : PartAt w' lo' hi' f i := by
  obtain ⟨b, s, A, n, c, e1, e2, e3, e4, e5⟩ := h
  exact ⟨b, s, A, n, c, e1, e2, e3, e4, fun h0 => (e5 h0).keep hk h1 h2⟩

theorem PartRow.keep {w w' : World} {lo hi g n : Nat} (h : PartRow w lo hi g n) (hk : ∀ b, lo ≤ b → b < hi → w'.heap[b]? = w.heap[b]?) : PartRow w' lo hi g n := by
  obtain ⟨h1, h2, f, hr, hp⟩ := h
  exact ⟨h1, h2, f, hr.of_block (hk g h1 h2), fun i hi => (hp i hi).keep hk (Nat.le_refl _) (Nat.le_refl _)⟩

theorem set3_block {w : World} {g i j k : Nat} {u v x : Value} {b : Nat} (hb : b ≠ g) : (((w.setCell ⟨g, i, none⟩ u).setCell ⟨g, j, none⟩ v).setCell ⟨g, k, none⟩ x).heap[b]? = w.heap[b]? :=
  (Below.heap_setCell _ _ _ b hb).trans ((Below.heap_setCell _ _ _ b hb).trans (Below.heap_setCell _ _ _ b hb))

/-- A copy of parts, in memory of its own. -/
def PartSOwn (n : Nat) (xs : List Pt) (w : World) (e : Ending) (w' : World) : Prop :=
  ∃ g, e = .returned (.slice (some ⟨g, 0, none⟩) n n) ∧ w.heap.size ≤ g ∧ IsParts w' w.heap.size w'.heap.size (some ⟨g, 0, none⟩) n n xs ∧ PartRow w' w.heap.size w'.heap.size g n ∧ Below w.heap.size w w'

set_option maxHeartbeats 1000000 in
theorem toPartS_own (A : Option Addr) (n c : Nat) (xs : List Pt) (w : World) (h : IsParts w 0 w.heap.size A n c xs) (hn : SmallParts n xs) :
    Calls Tryz.prog 107 #[.slice A n c] w (PartSOwn n xs w) := by
  obtain ⟨hn1, hn2⟩ := hn
  obtain ⟨i0, hi, hz, hsz, hby⟩ := info_parts Tryz.infoPart
  have hmk : ∀ W : World, (Instr.makeSlice 70 (.int .i64 (n : Int)) (.int .i64 (n : Int))).run Tryz.prog W = .ok (.slice (some ⟨W.heap.size, 0, none⟩) n n) (W.alloc (.cells (madeCells #[.bool false, .string ByteArray.empty, .slice none 0 0] (n * 3)) 69)) := by
    intro W
    have hr := run_make (P := Tryz.prog) W 70 69 i0 _ Tryz.underlying70 hi hz .i64 .i64 n n (by omega) (Int.le_refl _) (by rw [hby]; omega) (by omega)
    rw [hsz] at hr
    exact hr
  clear hi hz hsz hby
  have HN := Lib.hid hn2; clear hn2
  have H := Lib.hid h; clear h
  have hst := World.rowIs_alloc w (madeCells #[.bool false, .string ByteArray.empty, .slice none 0 0] (n * 3)) 69 (fun i => (madeCells #[.bool false, .string ByteArray.empty, .slice none 0 0] (n * 3))[i]?.getD undef) (fun i hi => by simp [hi])
  rw [size_madeCells] at hst
  have HST := Lib.hid hst; clear hst
  go_enter Tryz.func107, Tryz.ntmps107
  go_wp2
  go_loopw [4] (fun i wr => ∃ (k : Nat) (f : Nat → Value), k ≤ n ∧ i = .int .i64 k ∧ Rowed 69 3 PartV wr w.heap.size n k xs ∧ wr.rowIs w.heap.size 69 (n * 3) f ∧ (∀ i, i < k → PartAt wr (w.heap.size + 1) wr.heap.size f i) ∧ Below w.heap.size w wr) (fun i _ => n - (intOf i).toNat)
  case atStart => exact ⟨0, _, Nat.zero_le _, rfl, Rowed.start w _, HST.out, fun i hi => absurd hi (Nat.not_lt_zero _), below1 _ _⟩
  case round =>
    obtain ⟨k, f, hk, rfl, hf, hr, hp, hb⟩ := hrel
    have HF := Lib.hid hf; have HR := Lib.hid hr; have HP := Lib.hid hp; clear hf hr hp
    by_cases hlt : k < n
    · obtain ⟨p, q, hA, hlo, hhi, hg, hE⟩ := (H.out.below PartE.stays hb (Nat.le_refl _)).at_ hlt
      obtain ⟨A', n', c', d1, d2, d3, d4, d5⟩ := hE.out
      clear hE
      subst hA
      have hq : n' ≤ 1048576 := by rw [← d5.1]; exact HN.out q (List.mem_of_getElem? hg)
      have HG := Lib.hid hg; clear hg
      have HT := Lib.hid d5; clear d5
      go_wp2_with fail
      (refine (toPart_any _ _ _ _ _ q.2.2 _ (HT.out.keep (fun _ _ _ => rfl) (Nat.le_refl _) hb.size) hq).mono ?_; rintro e w1 ⟨g1, rfl, hg1, ho1, hb1⟩; have HF1 := HF.out.below PartV.keep hb1; have hg0 : w.heap.size < wr.heap.size := HF.out.lt; obtain ⟨⟨x0, hx0⟩, hz0⟩ := HF1.cells (j := k * 3) (by omega); obtain ⟨⟨x1, hx1⟩, hz1⟩ := HF1.cells (j := k * 3 + 1) (by omega); obtain ⟨⟨x2, hx2⟩, hz2⟩ := HF1.cells (j := k * 3 + 2) (by omega))
      have HR1 := Lib.hid (HR.out.of_block (hb1.block w.heap.size HR.out.lt))
      go_wp2
      go_roundw
      case rel =>
        refine ⟨k + 1, _, by omega, by go_num, HF1.step3 PartV.keep PartV.cong q HG.out _ _ _ ⟨rfl, rfl, d3, _, _, _, rfl, ho1.is_ (by unfold maxLen; omega) (by omega)⟩, ((HR1.out.set _ _).set _ _).set _ _, ?_, (((belowThen hb hb1).setCell (Nat.le_refl _) _).setCell (Nat.le_refl _) _).setCell (Nat.le_refl _) _⟩
        intro i hi
        have hks : ∀ b, w.heap.size + 1 ≤ b → b < w1.heap.size → (((w1.setCell ⟨w.heap.size, k * 3, none⟩ (.bool q.1)).setCell ⟨w.heap.size, k * 3 + 1, none⟩ (.string q.2.1)).setCell ⟨w.heap.size, k * 3 + 2, none⟩ (.slice (some ⟨g1, 0, none⟩) n' n')).heap[b]? = w1.heap[b]? := fun b h1 _ => set3_block (by omega)
        rw [size_setCell, size_setCell, size_setCell]
        by_cases e : i = k
        · subst e
          refine ⟨q.1, q.2.1, some ⟨g1, 0, none⟩, n', n', by simp, by simp, by simp, hq, fun _ => ?_⟩
          refine RowAt.keep (w := w1) ⟨g1, n' * 2, tcell q.2.2, rfl, by omega, ho1.2.2.lt, ho1.2.2, Nat.le_refl _⟩ hks (Nat.le_refl _) (Nat.le_refl _)
        · obtain ⟨b, s, A2, n2, c2, e1, e2, e3, e4, e5⟩ := HP.out i (by omega)
          refine ⟨b, s, A2, n2, c2, ?_, ?_, ?_, e4, fun h0 => ?_⟩
          · dsimp only; rw [if_neg (by omega), if_neg (by omega), if_neg (by omega)]; exact e1
          · dsimp only; rw [if_neg (by omega), if_neg (by omega), if_neg (by omega)]; exact e2
          · dsimp only; rw [if_neg (by omega), if_neg (by omega), if_neg (by omega)]; exact e3
          · exact (e5 h0).keep (fun b h1 h2 => (hks b h1 (Nat.lt_of_lt_of_le h2 hb1.size)).trans (hb1.block b h2)) (Nat.le_refl _) hb1.size
      case measure => simp [intOf]; omega
    · have hkn : k = n := by omega
      go_wp2
      go_ret
      exact ⟨_, rfl, Nat.le_refl _, HF.out.is_ hlt H.out.1 (by unfold maxLen; omega) (Nat.le_refl _) (PartV.is_ (Nat.le_refl _)), ⟨Nat.le_refl _, HR.out.lt, f, HR.out, fun i hi => (HP.out i (by omega)).keep (fun _ _ _ => rfl) (by omega) (Nat.le_refl _)⟩, hb⟩

/-- A row of terms is no row of parts. -/
theorem row_apart {w : World} {lo hi g m k : Nat} {A : Option Addr} {f : Nat → Value} (h : RowAt w lo hi 64 A m) (hr : w.rowIs g 69 k f) : A ≠ some ⟨g, 0, none⟩ := by
  intro e
  obtain ⟨g', k', f', e1, _, _, ⟨cs', y1, _⟩, _⟩ := h
  rw [e] at e1
  injection e1 with e1
  injection e1 with e1
  subst e1
  obtain ⟨cs, y2, _⟩ := hr
  rw [y2] at y1
  injection y1 with y1
  injection y1 with _ y1
  exact absurd y1 (by decide)

theorem RowAt.far {w : World} {lo hi g i m k : Nat} {A : Option Addr} {f : Nat → Value} (h : RowAt w lo hi 64 A m) (hr : w.rowIs g 69 k f) (v : Value) : RowAt (w.setCell ⟨g, i, none⟩ v) lo hi 64 A m := by
  have hne := row_apart h hr
  obtain ⟨g', k', f', e1, e2, e3, e4, e5⟩ := h
  exact ⟨g', k', f', e1, e2, e3, e4.of_block (Below.heap_setCell _ _ _ g' (fun e => hne (by rw [e1, e]))), e5⟩

/-- A part's Not, or its name, is written. -/
theorem PartRow.put {w : World} {lo hi g n : Nat} (h : PartRow w lo hi g n) (i d : Nat) (v : Value) (hd : (d = 0 ∧ ∃ b, v = .bool b) ∨ (d = 1 ∧ ∃ s, v = .string s)) : PartRow (w.setCell ⟨g, i * 3 + d, none⟩ v) lo hi g n := by
  obtain ⟨h1, h2, f, hr, hp⟩ := h
  refine ⟨h1, h2, _, hr.set (i * 3 + d) v, fun j hj => ?_⟩
  obtain ⟨b, s, A, m, c, e1, e2, e3, e4, e5⟩ := hp j hj
  rcases hd with ⟨rfl, b', rfl⟩ | ⟨rfl, s', rfl⟩
  · by_cases e : j = i
    · subst e
      exact ⟨b', s, A, m, c, by simp, by dsimp only; rw [if_neg (by omega)]; exact e2, by dsimp only; rw [if_neg (by omega)]; exact e3, e4, fun h0 => (e5 h0).far hr _⟩
    · exact ⟨b, s, A, m, c, by dsimp only; rw [if_neg (by omega)]; exact e1, by dsimp only; rw [if_neg (by omega)]; exact e2, by dsimp only; rw [if_neg (by omega)]; exact e3, e4, fun h0 => (e5 h0).far hr _⟩
  · by_cases e : j = i
    · subst e
      exact ⟨b, s', A, m, c, by dsimp only; rw [if_neg (by omega)]; exact e1, by simp, by dsimp only; rw [if_neg (by omega)]; exact e3, e4, fun h0 => (e5 h0).far hr _⟩
    · exact ⟨b, s, A, m, c, by dsimp only; rw [if_neg (by omega)]; exact e1, by dsimp only; rw [if_neg (by omega)]; exact e2, by dsimp only; rw [if_neg (by omega)]; exact e3, e4, fun h0 => (e5 h0).far hr _⟩

/-- A row of terms is written. -/
theorem PartRow.terms {w w' : World} {lo hi g n g' m : Nat} {f f' : Nat → Value} (h : PartRow w lo hi g n) (hr : w.rowIs g' 64 m f) (hr' : w'.rowIs g' 64 m f') (hg : w.grownBy w' (some g')) (hh : hi ≤ w.heap.size) : PartRow w' lo hi g n := by
  obtain ⟨h1, h2, f1, hr1, hp⟩ := h
  have hne : g ≠ g' := fun e => by
    subst e
    obtain ⟨cs, y1, _⟩ := hr1
    obtain ⟨cs', y2, _⟩ := hr
    rw [y2] at y1
    injection y1 with y1
    injection y1 with _ y1
    exact absurd y1 (by decide)
  refine ⟨h1, h2, f1, hr1.of_block (hg.block g (by omega) (fun e => hne (by injection e))), fun j hj => ?_⟩
  obtain ⟨b, s, A, k, c, e1, e2, e3, e4, e5⟩ := hp j hj
  refine ⟨b, s, A, k, c, e1, e2, e3, e4, fun h0 => ?_⟩
  obtain ⟨g2, k2, f2, x1, x2, x3, x4, x5⟩ := e5 h0
  by_cases e : g2 = g'
  · subst e
    have hkm : k2 = m := by
      obtain ⟨cs, y1, y2, _⟩ := x4
      obtain ⟨cs', z1, z2, _⟩ := hr
      rw [z1] at y1
      injection y1 with y1
      injection y1 with y1
      subst y1
      omega
    subst hkm
    exact ⟨g2, k2, f', x1, x2, x3, hr', x5⟩
  · exact ⟨g2, k2, f2, x1, x2, x3, x4.of_block (hg.block g2 (by omega) (fun e' => e (by injection e'))), x5⟩

theorem markTermS_is (g m n c k : Nat) (f : Nat → Value) (w : World) (z : Int) (hz : z = (k : Int)) (hr : w.rowIs g 64 m f) (hm : n * 2 ≤ m) (hk : k + 2 * n ≤ 2 ^ 62) :
    Calls Tryz.prog 71 #[.slice (some ⟨g, 0, none⟩) n c, .int .i64 z] w (MarkTPost g m n k w) := by
  subst hz; exact markTermS_any g m n c k f w hr hm hk

theorem markTermS_zero (A : Option Addr) (c k : Nat) (w : World) (z : Int) (hz : z = (k : Int)) : Calls Tryz.prog 71 #[.slice A 0 c, .int .i64 z] w fun e w' => e = .returned (.int .i64 (k : Int)) ∧ w' = w := by
  subst hz; exact markTermS_none A c k w

theorem mod3q {q : Nat} {b : Bool} (h : ((q : Int) % 3 == 0) = b) : b = decide (q % 3 = 0) := by
  rw [← h, Bool.eq_iff_iff, beq_iff_eq, decide_eq_true_eq]; omega

set_option maxRecDepth 100000 in
set_option maxHeartbeats 2000000 in
theorem markPartS_own (lo hi g n c k : Nat) (w : World) (h : PartRow w lo hi g n) (hh : hi ≤ w.heap.size) (hk : k + n * 2097154 ≤ 2 ^ 62) :
    Calls Tryz.prog 72 #[.slice (some ⟨g, 0, none⟩) n c, .int .i64 (k : Int)] w fun e w' => (∃ k' : Nat, e = .returned (.int .i64 (k' : Int)) ∧ k ≤ k' ∧ k' ≤ k + n * 2097154) ∧ PartRow w' lo hi g n ∧ Within lo hi w w' := by
  have H := Lib.hid h; clear h
  go_enter Tryz.func72, Tryz.ntmps72
  go_wp2
  go_loopw [1, 5] (fun x y wr => ∃ i q : Nat, i ≤ n ∧ x = .int .i64 (q : Int) ∧ y = .int .i64 (i : Int) ∧ k ≤ q ∧ q ≤ k + i * 2097154 ∧ PartRow wr lo hi g n ∧ Within lo hi w wr) (fun _ y _ => n - (intOf y).toNat)
  case atStart => exact ⟨0, k, Nat.zero_le _, rfl, rfl, Nat.le_refl _, by omega, H.out, Within.refl⟩
  case round =>
    obtain ⟨i, q, hi', rfl, rfl, hq1, hq2, hP, hw⟩ := hrel
    by_cases hlt : i < n
    · have hlt2 : (i : Int) < (n : Int) := by omega
      have hwz := hw.size
      have hq3 : q + 2097154 ≤ 2 ^ 62 := by omega
      obtain ⟨bv, hbv⟩ : ∃ bv, ((q : Int) % 3 == 0) = bv := ⟨_, rfl⟩
      have P1 : PartRow (wr.setCell ⟨g, i * 3, none⟩ (.bool bv)) lo hi g n := hP.put i 0 (.bool bv) (.inl ⟨rfl, bv, rfl⟩)
      obtain ⟨hlo, hhi, f, hr, hp⟩ := hP
      have c0 := hr.cell (i := i * 3) (by omega)
      have z0 := hr.frozen (i * 3)
      have hw1 := hw.trans (Within.row (grownSet wr g (i * 3) (.bool bv)) hlo hhi)
      have HP1 := Lib.hid P1
      clear P1 hr hp
      go_wp2_with fail
      refine (markText_is _ (q + 1) (by omega) (by omega) _).mono ?_; rintro e w1 ⟨rfl, hb1⟩
      have hw2 := hw1.trans (Within.of hb1)
      have hz2 := hw2.size
      have P2 : PartRow w1 lo hi g n := HP1.out.keep (fun b h1 h2 => hb1.block b (by rw [size_setCell]; omega))
      have P3 := P2.put i 1 (.string (markB (q + 1))) (.inr ⟨rfl, _, rfl⟩)
      obtain ⟨_, _, f2, hr2, _⟩ := P2
      have c1 := hr2.cell (i := i * 3 + 1) (by omega)
      have z1 := hr2.frozen (i * 3 + 1)
      have hw3 := hw2.trans (Within.row (grownSet w1 g (i * 3 + 1) (.string (markB (q + 1)))) hlo hhi)
      have HP3 := Lib.hid P3
      obtain ⟨_, _, f3, hr3, hp3⟩ := P3
      obtain ⟨b3, s3, A3, n3, c3, _, _, e3, e4, e5⟩ := hp3 i hlt
      have c2 := hr3.cell (i := i * 3 + 2) (by omega)
      rw [e3] at c2
      have hz3 : (w1.setCell ⟨g, i * 3 + 1, none⟩ (.string (markB (q + 1)))).heap.size = w1.heap.size := size_setCell _ _ _
      clear hr2 hr3 hp3 c0 z0 e3 hb1 HP1
      go_wp2_with fail
      by_cases h0 : 0 < n3
      · obtain ⟨g', k', f', x1, x2, x3, x4, x5⟩ := e5 h0
        subst x1
        refine (markTermS_is g' k' n3 c3 (q + 2) f' _ _ (by omega) x4 x5 (by omega)).mono ?_; rintro e w4 ⟨rfl, ⟨f4, r4, _⟩, hg4⟩
        have P4 := HP3.out.terms x4 r4 hg4 (by omega)
        have hw4 := hw3.trans (Within.row hg4 x2 x3)
        have HP4 := Lib.hid P4
        clear c1 z1 c2 x4 r4 P4
        go_wp2
        go_roundw
        case rel => exact ⟨i + 1, q + 2 + 2 * n3, by omega, by go_num, by go_num, by omega, by omega, HP4.out, hw4⟩
        case measure => simp [intOf]; omega
      · have hn0 : n3 = 0 := by omega
        subst hn0
        refine (markTermS_zero A3 c3 (q + 2) _ _ (by omega)).mono ?_; rintro e w4 ⟨rfl, rfl⟩
        clear c1 z1 c2
        go_wp2
        go_roundw
        case rel => exact ⟨i + 1, q + 2, by omega, by go_num, by go_num, by omega, by omega, HP3.out, hw3⟩
        case measure => simp [intOf]; omega
    · have hin : i = n := by omega
      subst hin
      go_wp2
      go_ret; exact ⟨⟨q, rfl, hq1, hq2⟩, hP, hw⟩

end Go.Proofs.YtnhbnhibphjljaaGreatDoor
