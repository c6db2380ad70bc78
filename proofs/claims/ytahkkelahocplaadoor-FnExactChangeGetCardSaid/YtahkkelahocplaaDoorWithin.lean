/-
  Marked terms: how the law writes them and reads them again; which blocks have turned. (Out of what tools/mark2.py wrote.)
-/
import Derived.Test.YtahkkelahocplaaDoorMark
import Derived.Test.YtahkkelahocplaaDoorRegion
namespace Go.Proofs.YtahkkelahocplaaDoor
open Go.RowKit

theorem markB_size (k : Nat) (hk : k ≤ 2 ^ 62) : (markB k).size ≤ maxLen := by
  have hl := digs_len 19 k (Nat.lt_of_le_of_lt hk (by decide))
  unfold markB markL maxLen
  show (109 :: (if k = 0 then [48] else digs k)).toArray.size ≤ _
  rw [List.size_toArray, List.length_cons]
  split
  · simp
  · omega

/-- Terms that hold marks from k on. -/
def markTs (k n : Nat) : List Tm := (List.range n).map fun i => (decide ((k + 2 * i) % 3 = 0), markB (k + 2 * i + 1))

theorem markTs_len (k n : Nat) : (markTs k n).length = n := by unfold markTs; simp
theorem markTs_at {k n i : Nat} (h : i < n) : (markTs k n)[i]? = some (decide ((k + 2 * i) % 3 = 0), markB (k + 2 * i + 1)) := by
  unfold markTs; simp [h]

theorem marked_terms {w : World} {g m n c k lo hi : Nat} {f : Nat → Value} (h : w.rowIs g 62 m f) (hm : n * 2 ≤ m) (hf : MarkedRow k n f) (hk : k + 2 * n ≤ 2 ^ 62) (hn : n ≤ c) (hc : c ≤ maxLen) (h1 : lo ≤ g) (h2 : g < hi) : IsTerms w lo hi (some ⟨g, 0, none⟩) n c (markTs k n) := by
  refine ⟨markTs_len k n, hn, hc, fun _ => ⟨_, rfl, h1, h2, fun i t ht => ?_⟩⟩
  have hi : i < n := by
    have := (List.getElem?_eq_some_iff.1 ht).1
    rwa [markTs_len] at this
  rw [markTs_at hi] at ht
  injection ht with ht
  subst ht
  have a0 : ∀ j, (⟨g, 0, none⟩ : Addr).add j = ⟨g, j, none⟩ := fun j => by unfold Addr.add; split <;> simp_all
  obtain ⟨d1, d2⟩ := hf i hi
  rw [a0, a0, h.cell (by omega), h.cell (by omega), d1, d2]
  exact ⟨rfl, rfl, markB_size _ (by omega)⟩

theorem markTermS_none (A : Option Addr) (c k : Nat) (w : World) : Calls Tryd.prog 55 #[.slice A 0 c, .int .i64 (k : Int)] w fun e w' => e = .returned (.int .i64 (k : Int)) ∧ w' = w := by
  go_enter Tryd.func55, Tryd.ntmps55
  go_wp2
  go_loop [1, 5] (fun x y => x = .int .i64 (k : Int) ∧ y = .int .i64 0) (fun _ _ => 0)
  case atStart => exact ⟨rfl, rfl⟩
  case round =>
    obtain ⟨rfl, rfl⟩ := hrel
    go_wp2
    go_ret; exact ⟨rfl, rfl⟩

set_option maxRecDepth 100000 in
set_option maxHeartbeats 1000000 in
theorem heldTermS_any (A : Option Addr) (n c k : Nat) (w : World) (h : IsTerms w 0 w.heap.size A n c (markTs k n)) (hk : k + 2 * n ≤ 2 ^ 62) :
    Calls Tryd.prog 56 #[.slice A n c, .int .i64 (k : Int)] w fun e w' => e = .returned (.int .i64 ((k + 2 * n : Nat) : Int)) ∧ Below w.heap.size w w' := by
  have H := Lib.hid h; clear h
  go_enter Tryd.func56, Tryd.ntmps56
  go_wp2
  go_loopw [1, 5] (fun x y wr => ∃ i : Nat, i ≤ n ∧ x = .int .i64 ((k + 2 * i : Nat) : Int) ∧ y = .int .i64 (i : Int) ∧ Below w.heap.size w wr) (fun _ y _ => n - (intOf y).toNat)
  case atStart => exact ⟨0, Nat.zero_le _, rfl, rfl, Below.refl _ _⟩
  case round =>
    obtain ⟨i, hi, rfl, rfl, hb⟩ := hrel
    by_cases hlt : i < n
    · obtain ⟨p, t, hA, hlo, hhi, hg, c1, c2, c3⟩ := (H.out.below hb (Nat.le_refl _)).at_ hlt
      subst hA
      rw [markTs_at hlt] at hg
      injection hg with hg
      subst hg
      obtain ⟨bv, hbv⟩ : ∃ bv, (((k : Int) + 2 * (i : Int)) % 3 == 0) = bv := ⟨_, rfl⟩
      rw [← mod3 hbv] at c1
      have hne : (bv != bv) = false := by simp
      have x1 : wr.drew.cell? ⟨(p.add (i * 2)).block, (p.add (i * 2)).off + 1, none⟩ = some (.string (markB (k + 2 * i + 1))) := c2
      have hbd := hb.drew
      go_wp2
      clear hne hbv
      refine wp_region_held_drew (S := fun W => W.cell? ⟨(p.add (i * 2)).block, (p.add (i * 2)).off + 1, none⟩ = some (.string (markB (k + 2 * i + 1)))) (by kernel_rfl) x1 ?_
      intro hS_
      refine takeV (i := 0) (v := .slice (some p) n c) (by (simp only [List.getElem?_toArray, List.getElem?_cons_zero]); rfl) (by kernel_rfl) (by kernel_rfl) (by kernel_rfl) (by rfl) (fun _ _ _ h => h) (Or.inl ⟨by rfl, ?_⟩) hS_ (by (simp only [List.setIfInBounds_toArray, List.set_cons_succ, List.set_cons_zero]); rfl) ?_
      · intro w_ hSw_; (try dsimp only at hSw_); go_simp
      refine takeV (i := 1) (v := .int .i64 (i : Int)) (by (simp only [List.getElem?_toArray, List.getElem?_cons_succ, List.getElem?_cons_zero]); rfl) (by kernel_rfl) (by kernel_rfl) (by kernel_rfl) (by rfl) (fun _ _ _ h => h) (Or.inl ⟨by rfl, ?_⟩) hS_ (by (simp only [List.setIfInBounds_toArray, List.set_cons_succ, List.set_cons_zero]); rfl) ?_
      · intro w_ hSw_; (try dsimp only at hSw_); go_simp
      refine takeV (i := 2) (v := .pointer (some (p.add (i * 2)))) (by (simp only [List.getElem?_toArray, List.getElem?_cons_succ, List.getElem?_cons_zero]); rfl) (by kernel_rfl) (by kernel_rfl) (by kernel_rfl) (by rfl) (fun _ _ _ h => h) (Or.inl ⟨by rfl, ?_⟩) hS_ (by (simp only [List.setIfInBounds_toArray, List.set_cons_succ, List.set_cons_zero]); rfl) ?_
      · intro w_ hSw_; (try dsimp only at hSw_); go_simp
      refine takeV (i := 3) (v := .pointer (some ⟨(p.add (i * 2)).block, (p.add (i * 2)).off + 1, none⟩)) (by (simp only [List.getElem?_toArray, List.getElem?_cons_succ, List.getElem?_cons_zero]); rfl) (by kernel_rfl) (by kernel_rfl) (by kernel_rfl) (by rfl) (fun _ _ _ h => h) (Or.inl ⟨by rfl, ?_⟩) hS_ (by (simp only [List.setIfInBounds_toArray, List.set_cons_succ, List.set_cons_zero]); rfl) ?_
      · intro w_ hSw_; (try dsimp only at hSw_); go_simp
      refine takeV (i := 4) (v := .string (markB (k + 2 * i + 1))) (by (simp only [List.getElem?_toArray, List.getElem?_cons_succ, List.getElem?_cons_zero]); rfl) (by kernel_rfl) (by kernel_rfl) (by kernel_rfl) (by rfl) (fun _ _ _ h => h) (Or.inl ⟨by rfl, ?_⟩) hS_ (by (simp only [List.setIfInBounds_toArray, List.set_cons_succ, List.set_cons_zero]); rfl) ?_
      · intro w_ hSw_; (try dsimp only at hSw_); go_simp
      refine takeV (i := 5) (v := .int .i64 ((k : Int) + 2 * (i : Int) + 1)) (by (simp only [List.getElem?_toArray, List.getElem?_cons_succ, List.getElem?_cons_zero]); rfl) (by kernel_rfl) (by kernel_rfl) (by kernel_rfl) (by rfl) (fun _ _ _ h => h) (Or.inl ⟨by rfl, ?_⟩) hS_ (by (simp only [List.setIfInBounds_toArray, List.set_cons_succ, List.set_cons_zero]); rfl) ?_
      · intro w_ hSw_; (try dsimp only at hSw_); go_simp
      refine wpAnyH_ready (rs := [6]) (by kernel_rfl) (by simp) ?_
      refine AllReadyH.cons (o := _) (by (simp only [List.getElem?_toArray, List.getElem?_cons_succ, List.getElem?_cons_zero]); rfl) (fun K_ hK_ => ?_) AllReadyH.nil
      rw [if_pos (by rfl)]
      go_simp
      go_at_call 77
      refine (markText_is _ (k + 2 * i + 1) (by omega) (by omega) _).mono ?_; rintro e w1 ⟨rfl, hb1⟩
      have y1 := (hb1.cell (p := ⟨(p.add (i * 2)).block, (p.add (i * 2)).off + 1, none⟩) (by rw [block_add]; exact Nat.lt_of_lt_of_le hhi hb.size)).trans x1
      refine hK_.out _ _ y1 (fun hS2_ => ?_)
      clear hK_ hS_
      have hS_ := hS2_; clear hS2_
      refine takeV (i := 7) (v := .bool false) (by (simp only [List.getElem?_toArray, List.getElem?_cons_succ, List.getElem?_cons_zero]); rfl) (by kernel_rfl) (by kernel_rfl) (by kernel_rfl) (by rfl) (fun _ _ _ h => h) (Or.inl ⟨by rfl, ?_⟩) hS_ (by (simp only [List.setIfInBounds_toArray, List.set_cons_succ, List.set_cons_zero]); rfl) ?_
      · intro w_ hSw_; (try dsimp only at hSw_); go_simp
      refine wpAnyH_done (by kernel_rfl) ?_ _
      go_wp2
      go_roundw
      case rel => exact ⟨i + 1, by omega, by go_num, by go_num, belowThen hbd hb1⟩
      case measure => simp [intOf]; omega
    · have hin : i = n := by omega
      subst hin
      go_wp2
      go_ret; exact ⟨by go_num, hb⟩

theorem heldTermS_is (A : Option Addr) (n c k : Nat) (w : World) (z : Int) (hz : z = (k : Int)) (h : IsTerms w 0 w.heap.size A n c (markTs k n)) (hk : k + 2 * n ≤ 2 ^ 62) :
    Calls Tryd.prog 56 #[.slice A n c, .int .i64 z] w fun e w' => e = .returned (.int .i64 ((k + 2 * n : Nat) : Int)) ∧ Below w.heap.size w w' := by
  subst hz; exact heldTermS_any A n c k w h hk

/-- Blocks from lo on and below hi alone have turned. -/
structure Within (lo hi : Nat) (w w' : World) : Prop where
  os : w'.os = w.os
  tape : w'.tape = w.tape
  output : w'.output = w.output
  size : w.heap.size ≤ w'.heap.size
  block : ∀ b, b < w.heap.size → (b < lo ∨ hi ≤ b) → w'.heap[b]? = w.heap[b]?

section
variable {lo hi : Nat} {w w' w'' : World}
theorem Within.refl : Within lo hi w w := ⟨rfl, rfl, rfl, Nat.le_refl _, fun _ _ _ => rfl⟩
theorem Within.trans (h : Within lo hi w w') (k : Within lo hi w' w'') : Within lo hi w w'' :=
  ⟨k.os.trans h.os, k.tape.trans h.tape, k.output.trans h.output, Nat.le_trans h.size k.size, fun b hb ho => (k.block b (Nat.lt_of_lt_of_le hb h.size) ho).trans (h.block b hb ho)⟩
theorem Within.of (h : Below w.heap.size w w') : Within lo hi w w' := ⟨h.os, h.tape, h.output, h.size, fun b hb _ => h.block b hb⟩
theorem Within.row {g : Nat} (h : w.grownBy w' (some g)) (h1 : lo ≤ g) (h2 : g < hi) : Within lo hi w w' :=
  ⟨h.os, h.tape, h.output, h.size, fun b hb ho => h.block b hb (fun e => by injection e with e; omega)⟩
theorem Within.low {B : Nat} (h : Within lo hi w w') (hB : B ≤ lo) (hs : lo ≤ w.heap.size) : Below B w w' :=
  ⟨h.os, h.tape, h.output, h.size, fun b hb => h.block b (by omega) (.inl (by omega))⟩
theorem Within.wide {lo' hi' : Nat} (h : Within lo hi w w') (h1 : lo' ≤ lo) (h2 : hi ≤ hi') : Within lo' hi' w w' :=
  ⟨h.os, h.tape, h.output, h.size, fun b hb ho => h.block b hb (by omega)⟩
end

end Go.Proofs.YtahkkelahocplaaDoor
