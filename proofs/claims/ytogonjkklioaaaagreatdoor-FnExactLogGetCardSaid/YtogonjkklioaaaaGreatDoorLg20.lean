/-
  Texts of one claim, put together.
-/
import Derived.Test.YtogonjkklioaaaaGreatDoorLg0
import Derived.Test.YtogonjkklioaaaaGreatDoorLg4
import Derived.Lib.ItoaNum
import Derived.Lib.ItoaMem
import Derived.Lib.ItoaLen
import Derived.Laws.IdiomStrings
import Derived.ProofKit
import Derived.IntWalk
import Derived.Test.YtogonjkklioaaaaGreatDoorLg19
import Derived.Test.YtogonjkklioaaaaGreatDoorLg15
namespace Go.Proofs.YtogonjkklioaaaaGreatDoor
open Go.RowKit

theorem oneFigure (j : Nat) (hj : j < 10) (W : World) : (convert 22 9 (.slice (some ⟨W.heap.size, 0, none⟩) 1 1)).run Tryz.prog (W.alloc (.cells #[.int .u8 (48 + (j : Int))] 5)) = .ok (.string ⟨#[UInt8.ofNat (48 + j)]⟩) (W.alloc (.cells #[.int .u8 (48 + (j : Int))] 5)) := by
  have hb : ((UInt8.ofNat (48 + j)).toNat : Int) = 48 + (j : Int) := by rw [UInt8.toNat_ofNat']; omega
  have h := run_convert_bytes_back (P := Tryz.prog) (W.alloc (.cells #[.int .u8 (48 + (j : Int))] 5)) 22 9 5 ⟨W.heap.size, 0, none⟩ 1 [UInt8.ofNat (48 + j)] Tryz.underlying22 Tryz.underlying5 Tryz.underlying9 (fun i hi => by
    have : i = 0 := by simpa using hi
    subst this
    show _ = some (Value.int .u8 ((UInt8.ofNat (48 + j)).toNat : Int))
    rw [hb]
    simp [go_sem, Addr.add])
  exact h

theorem fig_at (j : Nat) (hj : j < 10) (W : World) (g : Nat) (hc : W.cell? ⟨g, 0, none⟩ = some (.int .u8 (48 + (j : Int)))) : (convert 22 9 (.slice (some ⟨g, 0, none⟩) 1 1)).run Tryz.prog W = .ok (.string ⟨#[UInt8.ofNat (48 + j)]⟩) W := by
  have hb : ((UInt8.ofNat (48 + j)).toNat : Int) = 48 + (j : Int) := by rw [UInt8.toNat_ofNat']; omega
  have h := run_convert_bytes_back (P := Tryz.prog) W 22 9 5 ⟨g, 0, none⟩ 1 [UInt8.ofNat (48 + j)] Tryz.underlying22 Tryz.underlying5 Tryz.underlying9 (fun i hi => by
    have : i = 0 := by simpa using hi
    subst this
    show _ = some (Value.int .u8 ((UInt8.ofNat (48 + j)).toNat : Int))
    rw [hb]
    exact hc)
  exact h

theorem app_text (l : List UInt8) (c : UInt8) : (⟨l.toArray⟩ ++ ⟨#[c]⟩ : ByteArray) = ⟨(l ++ [c]).toArray⟩ := by
  apply ByteArray.ext
  simp [ByteArray.data_append]

theorem digits_more {k : Nat} (h : ¬ k < 10) : Lib.decDigits k = Lib.decDigits (k / 10) ++ [UInt8.ofNat (48 + k % 10)] := by rw [Lib.decDigits, dif_neg h]

set_option maxRecDepth 100000 in
set_option maxHeartbeats 1000000 in
theorem dec_all : ∀ (t k : Nat), k < t → k ≤ 1000000000000 → ∀ w : World,
    Calls Tryz.prog 71 #[.int .i64 (k : Int)] w fun e w' => e = .returned (.string ⟨(Lib.decDigits k).toArray⟩) ∧ Below w.heap.size w w'
  | 0, k, h, _, _ => absurd h (Nat.not_lt_zero k)
  | t + 1, k, h, hk, w => by
    have hneg : ¬ (k : Int) < 0 := by omega
    have hmin : ¬ (k : Int) < -9223372036854775807 := by omega
    by_cases h10 : k < 10
    · have h10I : (k : Int) < 10 := by omega
      have hcv := oneFigure k h10 w
      have hb := below1 w (.cells #[.int .u8 (48 + (k : Int))] 5)
      go_enter Tryz.func71, Tryz.ntmps71
      go_wp2
      go_ret; exact ⟨by rw [Lib.decDigits_one h10, UInt8.ofNat_add]; rfl, hb⟩
    · have h10I : ¬ (k : Int) < 10 := by omega
      have ht : k / 10 < t := by omega
      have hdm := digits_more h10
      go_enter Tryz.func71, Tryz.ntmps71
      obtain ⟨m, hm⟩ : ∃ m, k % 10 = m := ⟨_, rfl⟩
      obtain ⟨q, hq⟩ : ∃ q, k / 10 = q := ⟨_, rfl⟩
      have hm10 : m < 10 := by omega
      have hmI : (k : Int) % 10 = (m : Int) := by omega
      have hqI : (k : Int) / 10 = (q : Int) := by omega
      have hwr : IntKind.u8.wrap (48 + (m : Int)) = 48 + (m : Int) := by rw [IntKind.wrap_u8]; omega
      have hwq : IntKind.i64.wrap (q : Int) = (q : Int) := by rw [IntKind.wrap_i64]; omega
      have hql : (Lib.decDigits q).length ≤ 9223372036854775806 := by have h2 := Lib.itoa_length_le (q : Int) (by omega) (by omega); rw [Lib.itoa_nonneg] at h2; omega
      have htm : (k : Int).tmod 10 = (m : Int) := by rw [Int.tmod_eq_emod_of_nonneg (by omega)]; exact hmI
      have htd : (k : Int).tdiv 10 = (q : Int) := by rw [Int.tdiv_eq_ediv_of_nonneg (by omega)]; exact hqI
      have hw4 : IntKind.i64.wrap (48 + (m : Int)) = 48 + (m : Int) := by rw [IntKind.wrap_i64]; omega
      rw [hq] at ht; rw [hm, hq] at hdm
      have HD := Lib.hid hdm; clear hdm hm hq
      go_wp2_with fail
      obtain ⟨V, hV⟩ : ∃ V, w.drew = V := ⟨_, rfl⟩
      have HB := Lib.hid (show Below w.heap.size w V by rw [← hV]; exact (Below.refl _ _).drew)
      refine wp_region_held_drew (S := fun _ => True) (by kernel_rfl) trivial ?_
      rw [hV]
      clear hV
      intro hS_
      refine takeV (i := 0) (v := .int .i64 (k : Int)) (by (simp only [List.getElem?_toArray, List.getElem?_cons_zero]); rfl) (by kernel_rfl) (by kernel_rfl) (by kernel_rfl) (by rfl) (fun _ _ _ h => h) (Or.inl ⟨by rfl, ?_⟩) hS_ (by (simp only [List.setIfInBounds_toArray, List.set_cons_succ, List.set_cons_zero]); rfl) ?_
      · intro w_ hSw_; (try dsimp only at hSw_); go_simp
      refine takeV (i := 1) (v := .int .i64 (q : Int)) (by (simp only [List.getElem?_toArray, List.getElem?_cons_succ, List.getElem?_cons_zero]); rfl) (by kernel_rfl) (by kernel_rfl) (by kernel_rfl) (by rfl) (fun _ _ _ h => h) (Or.inl ⟨by rfl, ?_⟩) hS_ (by (simp only [List.setIfInBounds_toArray, List.set_cons_succ, List.set_cons_zero]); rfl) ?_
      · intro w_ hSw_; (try dsimp only at hSw_); go_simp
      refine takeV (i := 3) (v := .int .i64 (k : Int)) (by (simp only [List.getElem?_toArray, List.getElem?_cons_succ, List.getElem?_cons_zero]); rfl) (by kernel_rfl) (by kernel_rfl) (by kernel_rfl) (by rfl) (fun _ _ _ h => h) (Or.inl ⟨by rfl, ?_⟩) hS_ (by (simp only [List.setIfInBounds_toArray, List.set_cons_succ, List.set_cons_zero]); rfl) ?_
      · intro w_ hSw_; (try dsimp only at hSw_); go_simp
      refine takeV (i := 4) (v := .int .i64 (m : Int)) (by (simp only [List.getElem?_toArray, List.getElem?_cons_succ, List.getElem?_cons_zero]); rfl) (by kernel_rfl) (by kernel_rfl) (by kernel_rfl) (by rfl) (fun _ _ _ h => h) (Or.inl ⟨by rfl, ?_⟩) hS_ (by (simp only [List.setIfInBounds_toArray, List.set_cons_succ, List.set_cons_zero]); rfl) ?_
      · intro w_ hSw_; (try dsimp only at hSw_); go_simp
      refine takeV (i := 5) (v := .int .i64 (48 + (m : Int))) (by (simp only [List.getElem?_toArray, List.getElem?_cons_succ, List.getElem?_cons_zero]); rfl) (by kernel_rfl) (by kernel_rfl) (by kernel_rfl) (by rfl) (fun _ _ _ h => h) (Or.inl ⟨by rfl, ?_⟩) hS_ (by (simp only [List.setIfInBounds_toArray, List.set_cons_succ, List.set_cons_zero]); rfl) ?_
      · intro w_ hSw_; (try dsimp only at hSw_); go_simp
      refine takeV (i := 6) (v := .int .u8 (48 + (m : Int))) (by (simp only [List.getElem?_toArray, List.getElem?_cons_succ, List.getElem?_cons_zero]); rfl) (by kernel_rfl) (by kernel_rfl) (by kernel_rfl) (by rfl) (fun _ _ _ h => h) (Or.inl ⟨by rfl, ?_⟩) hS_ (by (simp only [List.setIfInBounds_toArray, List.set_cons_succ, List.set_cons_zero]); rfl) ?_
      · intro w_ hSw_; (try dsimp only at hSw_); go_simp
      refine wpAnyH_ready (rs := [2, 7]) (by kernel_rfl) (by simp) ?_
      refine (AllReadyH.cons (o := _) (by (simp only [List.getElem?_toArray, List.getElem?_cons_succ, List.getElem?_cons_zero]); rfl) (fun K_ hK_ => ?_) (AllReadyH.cons (o := _) (by (simp only [List.getElem?_toArray, List.getElem?_cons_succ, List.getElem?_cons_zero]); rfl) (fun K_ hK_ => ?_) AllReadyH.nil))
      · rw [if_pos (by rfl)]
        go_simp
        go_at_call 71
        refine (dec_all t q ht (by omega) _).mono ?_; rintro e_ W1 ⟨rfl, hb_⟩
        have HB1 := Lib.hid (belowThen HB.out hb_)
        clear hb_
        refine hK_.out _ _ trivial (fun hS2_ => ?_)
        clear hK_ hS_; have hS_ := hS2_; clear hS2_
        (try simp only [Act.put, List.setIfInBounds_toArray, List.set_cons_zero, List.set_cons_succ])
        refine wpAnyH_ready (rs := [7]) (by kernel_rfl) (by simp) ?_
        refine AllReadyH.cons (o := _) (by (simp only [List.getElem?_toArray, List.getElem?_cons_succ, List.getElem?_cons_zero]); rfl) (fun K_ hK_ => ?_) AllReadyH.nil
        rw [if_pos (by rfl)]
        go_simp
        have HB2 := Lib.hid (belowThen HB1.out (below1 W1 (.cells #[.int .u8 (48 + (m : Int))] 5)))
        have C2 : (W1.alloc (.cells #[.int .u8 (48 + (m : Int))] 5)).cell? ⟨W1.heap.size, 0, none⟩ = some (.int .u8 (48 + (m : Int))) := by simp [go_sem]
        obtain ⟨W2, hW2⟩ : ∃ X, W1.alloc (.cells #[.int .u8 (48 + (m : Int))] 5) = X := ⟨_, rfl⟩
        rw [hW2] at HB2 C2 ⊢; clear hW2
        refine hK_.out _ _ trivial (fun hS2_ => ?_)
        clear hK_ hS_; have hS_ := hS2_; clear hS2_
        (try simp only [Act.put, List.setIfInBounds_toArray, List.set_cons_zero, List.set_cons_succ])
        refine wpAnyH_ready (rs := [8]) (by kernel_rfl) (by simp) ?_
        refine AllReadyH.cons (o := _) (by (simp only [List.getElem?_toArray, List.getElem?_cons_succ, List.getElem?_cons_zero]); rfl) (fun K_ hK_ => ?_) AllReadyH.nil
        have hcv := fig_at m hm10 W2 _ C2
        rw [if_pos (by rfl)]
        go_simp
        refine hK_.out _ _ trivial (fun hS2_ => ?_)
        clear hK_ hS_; have hS_ := hS2_; clear hS2_
        (try simp only [Act.put, List.setIfInBounds_toArray, List.set_cons_zero, List.set_cons_succ])
        refine takeV (i := 9) (v := .string (⟨(Lib.decDigits q).toArray⟩ ++ ⟨#[UInt8.ofNat (48 + m)]⟩)) (by (simp only [List.getElem?_toArray, List.getElem?_cons_succ, List.getElem?_cons_zero]); rfl) (by kernel_rfl) (by kernel_rfl) (by kernel_rfl) (by rfl) (fun _ _ _ h => h) (Or.inl ⟨by rfl, ?_⟩) hS_ (by (simp only [List.setIfInBounds_toArray, List.set_cons_succ, List.set_cons_zero]); rfl) ?_
        · intro w_ hSw_; (try dsimp only at hSw_); go_simp
        refine takeV (i := 10) (v := .string (⟨(Lib.decDigits q).toArray⟩ ++ ⟨#[UInt8.ofNat (48 + m)]⟩)) (by (simp only [List.getElem?_toArray, List.getElem?_cons_succ, List.getElem?_cons_zero]); rfl) (by kernel_rfl) (by kernel_rfl) (by kernel_rfl) (by rfl) (fun _ _ _ h => h) (Or.inl ⟨by rfl, ?_⟩) hS_ (by (simp only [List.setIfInBounds_toArray, List.set_cons_succ, List.set_cons_zero]); rfl) ?_
        · intro w_ hSw_; (try dsimp only at hSw_); go_simp
        refine wpAnyH_done (by kernel_rfl) ?_ _
        go_wp2
        go_ret; exact ⟨by rw [HD.out]; exact congrArg (fun s => Ending.returned (.string s)) (app_text _ _), HB2.out⟩
      · rw [if_pos (by rfl)]
        go_simp
        have HB4 := Lib.hid (belowThen HB.out (below1 V (.cells #[.int .u8 (48 + (m : Int))] 5)))
        have C4 : (V.alloc (.cells #[.int .u8 (48 + (m : Int))] 5)).cell? ⟨V.heap.size, 0, none⟩ = some (.int .u8 (48 + (m : Int))) := by simp [go_sem]
        obtain ⟨W4, hW4⟩ : ∃ X, V.alloc (.cells #[.int .u8 (48 + (m : Int))] 5) = X := ⟨_, rfl⟩
        rw [hW4] at HB4 C4 ⊢; clear hW4
        refine hK_.out _ _ trivial (fun hS2_ => ?_)
        clear hK_ hS_; have hS_ := hS2_; clear hS2_
        (try simp only [Act.put, List.setIfInBounds_toArray, List.set_cons_zero, List.set_cons_succ])
        refine wpAnyH_ready (rs := [2, 8]) (by kernel_rfl) (by simp) ?_
        refine (AllReadyH.cons (o := _) (by (simp only [List.getElem?_toArray, List.getElem?_cons_succ, List.getElem?_cons_zero]); rfl) (fun K_ hK_ => ?_) (AllReadyH.cons (o := _) (by (simp only [List.getElem?_toArray, List.getElem?_cons_succ, List.getElem?_cons_zero]); rfl) (fun K_ hK_ => ?_) AllReadyH.nil))
        · rw [if_pos (by rfl)]
          go_simp
          go_at_call 71
          refine (dec_all t q ht (by omega) _).mono ?_; rintro e_ W5 ⟨rfl, hb_⟩
          have HB5 := Lib.hid (belowThen HB4.out hb_)
          have C5 : W5.cell? ⟨V.heap.size, 0, none⟩ = some (.int .u8 (48 + (m : Int))) := (hb_.cell (by exact World.block_lt_of_cell? _ _ C4)).trans C4
          clear hb_
          refine hK_.out _ _ trivial (fun hS2_ => ?_)
          clear hK_ hS_; have hS_ := hS2_; clear hS2_
          (try simp only [Act.put, List.setIfInBounds_toArray, List.set_cons_zero, List.set_cons_succ])
          refine wpAnyH_ready (rs := [8]) (by kernel_rfl) (by simp) ?_
          refine AllReadyH.cons (o := _) (by (simp only [List.getElem?_toArray, List.getElem?_cons_succ, List.getElem?_cons_zero]); rfl) (fun K_ hK_ => ?_) AllReadyH.nil
          have hcv := fig_at m hm10 W5 _ C5
          rw [if_pos (by rfl)]
          go_simp
          refine hK_.out _ _ trivial (fun hS2_ => ?_)
          clear hK_ hS_; have hS_ := hS2_; clear hS2_
          (try simp only [Act.put, List.setIfInBounds_toArray, List.set_cons_zero, List.set_cons_succ])
          refine takeV (i := 9) (v := .string (⟨(Lib.decDigits q).toArray⟩ ++ ⟨#[UInt8.ofNat (48 + m)]⟩)) (by (simp only [List.getElem?_toArray, List.getElem?_cons_succ, List.getElem?_cons_zero]); rfl) (by kernel_rfl) (by kernel_rfl) (by kernel_rfl) (by rfl) (fun _ _ _ h => h) (Or.inl ⟨by rfl, ?_⟩) hS_ (by (simp only [List.setIfInBounds_toArray, List.set_cons_succ, List.set_cons_zero]); rfl) ?_
          · intro w_ hSw_; (try dsimp only at hSw_); go_simp
          refine takeV (i := 10) (v := .string (⟨(Lib.decDigits q).toArray⟩ ++ ⟨#[UInt8.ofNat (48 + m)]⟩)) (by (simp only [List.getElem?_toArray, List.getElem?_cons_succ, List.getElem?_cons_zero]); rfl) (by kernel_rfl) (by kernel_rfl) (by kernel_rfl) (by rfl) (fun _ _ _ h => h) (Or.inl ⟨by rfl, ?_⟩) hS_ (by (simp only [List.setIfInBounds_toArray, List.set_cons_succ, List.set_cons_zero]); rfl) ?_
          · intro w_ hSw_; (try dsimp only at hSw_); go_simp
          refine wpAnyH_done (by kernel_rfl) ?_ _
          go_wp2
          go_ret; exact ⟨by rw [HD.out]; exact congrArg (fun s => Ending.returned (.string s)) (app_text _ _), HB5.out⟩
        · have hcv := fig_at m hm10 W4 _ C4
          rw [if_pos (by rfl)]
          go_simp
          refine hK_.out _ _ trivial (fun hS2_ => ?_)
          clear hK_ hS_; have hS_ := hS2_; clear hS2_
          (try simp only [Act.put, List.setIfInBounds_toArray, List.set_cons_zero, List.set_cons_succ])
          refine wpAnyH_ready (rs := [2]) (by kernel_rfl) (by simp) ?_
          refine AllReadyH.cons (o := _) (by (simp only [List.getElem?_toArray, List.getElem?_cons_succ, List.getElem?_cons_zero]); rfl) (fun K_ hK_ => ?_) AllReadyH.nil
          rw [if_pos (by rfl)]
          go_simp
          go_at_call 71
          refine (dec_all t q ht (by omega) _).mono ?_; rintro e_ W8 ⟨rfl, hb_⟩
          have HB8 := Lib.hid (belowThen HB4.out hb_)
          have C8 : W8.cell? ⟨V.heap.size, 0, none⟩ = some (.int .u8 (48 + (m : Int))) := (hb_.cell (by exact World.block_lt_of_cell? _ _ C4)).trans C4
          clear hb_
          refine hK_.out _ _ trivial (fun hS2_ => ?_)
          clear hK_ hS_; have hS_ := hS2_; clear hS2_
          (try simp only [Act.put, List.setIfInBounds_toArray, List.set_cons_zero, List.set_cons_succ])
          refine takeV (i := 9) (v := .string (⟨(Lib.decDigits q).toArray⟩ ++ ⟨#[UInt8.ofNat (48 + m)]⟩)) (by (simp only [List.getElem?_toArray, List.getElem?_cons_succ, List.getElem?_cons_zero]); rfl) (by kernel_rfl) (by kernel_rfl) (by kernel_rfl) (by rfl) (fun _ _ _ h => h) (Or.inl ⟨by rfl, ?_⟩) hS_ (by (simp only [List.setIfInBounds_toArray, List.set_cons_succ, List.set_cons_zero]); rfl) ?_
          · intro w_ hSw_; (try dsimp only at hSw_); go_simp
          refine takeV (i := 10) (v := .string (⟨(Lib.decDigits q).toArray⟩ ++ ⟨#[UInt8.ofNat (48 + m)]⟩)) (by (simp only [List.getElem?_toArray, List.getElem?_cons_succ, List.getElem?_cons_zero]); rfl) (by kernel_rfl) (by kernel_rfl) (by kernel_rfl) (by rfl) (fun _ _ _ h => h) (Or.inl ⟨by rfl, ?_⟩) hS_ (by (simp only [List.setIfInBounds_toArray, List.set_cons_succ, List.set_cons_zero]); rfl) ?_
          · intro w_ hSw_; (try dsimp only at hSw_); go_simp
          refine wpAnyH_done (by kernel_rfl) ?_ _
          go_wp2
          go_ret; exact ⟨by rw [HD.out]; exact congrArg (fun s => Ending.returned (.string s)) (app_text _ _), HB8.out⟩

end Go.Proofs.YtogonjkklioaaaaGreatDoor

namespace Go.Proofs.YtogonjkklioaaaaGreatDoor
open Go.RowKit

theorem ret_int {k : IntKind} {a b : Int} (h : a = b) : Ending.returned (.int k a) = .returned (.int k b) := by rw [h]

def sumStep (s : Nat) (c : UInt8) : Nat := (s * 31 + c.toNat + 7) % 1000003
/-- The sum of a text. -/
def sumB (l : List UInt8) : Nat := l.foldl sumStep 1

theorem sumB_snoc (l : List UInt8) (c : UInt8) : sumB (l ++ [c]) = sumStep (sumB l) c := by
  unfold sumB; rw [List.foldl_append]; rfl

theorem sumStep_lt (s : Nat) (c : UInt8) : sumStep s c < 1000003 := Nat.mod_lt _ (by decide)

theorem sumB_lt (l : List UInt8) : sumB l < 1000003 := by
  have h : ∀ (l : List UInt8) (s : Nat), s < 1000003 → l.foldl sumStep s < 1000003 := by
    intro l
    induction l with
    | nil => intro s h; exact h
    | cons c l ih => intro s _; exact ih _ (sumStep_lt s c)
  exact h l 1 (by decide)

theorem sum_step (s : ByteArray) (k S : Nat) (h : k < s.size) (hS : Hid (sumB (s.data.toList.take k) = S)) : sumB (s.data.toList.take (k + 1)) = sumStep S s[k] := by
  rw [take_snoc s k h, sumB_snoc, hS.out]

theorem sumStep_int (S : Nat) (c : UInt8) (h : S < 1000003) : (wrap64 (wrap64 ((S : Int) * 31 + wrap64 (c.toNat : Int)) + 7)).tmod 1000003 = ((sumStep S c : Nat) : Int) := by
  have hc := c.toNat_lt
  rw [IntWalk.wrap64_in (c.toNat : Int) (by omega), IntWalk.wrap64_in ((S : Int) * 31 + (c.toNat : Int)) (by omega), IntWalk.wrap64_in _ (by omega), Int.tmod_eq_emod_of_nonneg (by omega)]
  unfold sumStep; omega

theorem sum_all (s : ByteArray) (k S : Nat) (h : ¬ k < s.size) (hS : Hid (sumB (s.data.toList.take k) = S)) : (S : Int) = (sumB s.data.toList : Nat) := by
  have h' := hS.out
  rw [List.take_of_length_le (by simp; omega)] at h'
  rw [h']

set_option maxHeartbeats 400000 in
theorem specSum_any (s : ByteArray) (w : World) (hs : s.size ≤ maxLen) :
    Calls Tryz.prog 103 #[.string s] w fun e w' => e = .returned (.int .i64 (sumB s.data.toList : Nat)) ∧ w = w' := by
  unfold maxLen at hs
  go_enter Tryz.func103, Tryz.ntmps103
  go_wp2
  go_loop [3, 4] (fun v i => ∃ k S : Nat, k ≤ s.size ∧ i = .int .i64 k ∧ v = .int .i64 S ∧ S < 1000003 ∧ sumB (s.data.toList.take k) = S) (fun _ i => s.size - (intOf i).toNat)
  case atStart => exact ⟨0, 1, Nat.zero_le _, rfl, rfl, by omega, rfl⟩
  case round =>
    obtain ⟨k, S, hk, rfl, rfl, hS1, hrel⟩ := hrel
    have HR := Lib.hid hrel; clear hrel
    by_cases hlt : k < s.size
    · go_wp2
      go_round
      case rel => exact ⟨k + 1, _, by omega, by go_num, congrArg (Value.int .i64) (sumStep_int S s[k] hS1), sumStep_lt _ _, sum_step s k S hlt HR⟩
      case measure => simp [intOf]; omega
    · go_wp2
      go_ret
      exact ⟨ret_int (sum_all s k S hlt HR), rfl⟩

set_option maxHeartbeats 400000 in
theorem implSum_any (s : ByteArray) (w : World) (hs : s.size ≤ maxLen) :
    Calls Tryz.prog 48 #[.string s] w fun e w' => e = .returned (.int .i64 (sumB s.data.toList : Nat)) ∧ w = w' := by
  unfold maxLen at hs
  go_enter Tryz.func48, Tryz.ntmps48
  go_wp2
  go_loop [3, 4, 7] (fun v _ i => ∃ k S : Nat, k ≤ s.size ∧ i = .int .i64 k ∧ v = .int .i64 S ∧ S < 1000003 ∧ sumB (s.data.toList.take k) = S) (fun _ _ i => s.size - (intOf i).toNat)
  case atStart => exact ⟨0, 1, Nat.zero_le _, rfl, rfl, by omega, rfl⟩
  case round =>
    obtain ⟨k, S, hk, rfl, rfl, hS1, hrel⟩ := hrel
    have HR := Lib.hid hrel; clear hrel
    by_cases hlt : k < s.size
    · go_wp2
      go_round
      case rel => exact ⟨k + 1, _, by omega, by go_num, congrArg (Value.int .i64) (sumStep_int S s[k] hS1), sumStep_lt _ _, sum_step s k S hlt HR⟩
      case measure => simp [intOf]; omega
    · go_wp2
      go_ret
      exact ⟨ret_int (sum_all s k S hlt HR), rfl⟩

end Go.Proofs.YtogonjkklioaaaaGreatDoor

namespace Go.Proofs.YtogonjkklioaaaaGreatDoor
open Go.RowKit

/-- A time and a change's text. -/
def headL (k : Nat) (p : List UInt8) : List UInt8 := Lib.decDigits k ++ [58] ++ p
/-- .. and their sum, and the end of a line. -/
def lineL (k : Nat) (p : List UInt8) : List UInt8 := headL k p ++ Lib.decDigits (sumB (headL k p)) ++ [10]

theorem dec_len (q : Nat) (h : q ≤ 1000000000000) : (Lib.decDigits q).length ≤ 21 := by
  have h2 := Lib.itoa_length_le (q : Int) (by omega) (by omega)
  rwa [Lib.itoa_nonneg] at h2

theorem head_text (k : Nat) (s : ByteArray) : (⟨(Lib.decDigits k).toArray⟩ ++ ⟨#[58]⟩ ++ s : ByteArray) = ⟨(headL k s.data.toList).toArray⟩ := by
  apply ByteArray.ext
  simp [ByteArray.data_append, headL]

theorem line_text (h : List UInt8) (q : Nat) : (⟨h.toArray⟩ ++ ⟨(Lib.decDigits q).toArray⟩ ++ ⟨#[10]⟩ : ByteArray) = ⟨(h ++ Lib.decDigits q ++ [10]).toArray⟩ := by
  apply ByteArray.ext
  simp [ByteArray.data_append]

set_option maxHeartbeats 1000000 in
theorem l8Line_any (k : Nat) (hk : k ≤ 100000) (s : ByteArray) (hs : s.size ≤ 1000000) (w : World) :
    Calls Tryz.prog 72 #[.int .i64 (k : Int), .string s] w fun e w' => e = .returned (.string ⟨(lineL k s.data.toList).toArray⟩) ∧ Below w.heap.size w w' := by
  have hl := dec_len k (by omega)
  go_enter Tryz.func72, Tryz.ntmps72
  go_wp2_with fail
  refine (dec_all (k + 1) k (Nat.lt_succ_self k) (by omega) _).mono ?_; rintro e w1 ⟨rfl, hb1⟩
  have HB1 := Lib.hid hb1; clear hb1
  have hz1 : (⟨(Lib.decDigits k).toArray⟩ : ByteArray).size ≤ 21 := by show (Lib.decDigits k).toArray.size ≤ _; simpa using hl
  go_wp2_with fail
  rw [head_text]
  obtain ⟨u, hu⟩ : ∃ u : ByteArray, (⟨(headL k s.data.toList).toArray⟩ : ByteArray) = u := ⟨_, rfl⟩
  have hud : u.data.toList = headL k s.data.toList := by rw [← hu]
  have huz : u.size ≤ 1000022 := by
    show u.data.toList.length ≤ _
    rw [hud]; unfold headL
    simp only [List.length_append, List.length_cons, List.length_nil]
    have : s.data.toList.length = s.size := by simp
    omega
  rw [hu]
  have HU := Lib.hid hu; have HUD := Lib.hid hud
  clear hu hud
  refine (specSum_any u _ (by unfold maxLen; omega)).mono ?_; rintro e w2 ⟨rfl, rfl⟩
  have hs3 := sumB_lt u.data.toList
  have hl3 := dec_len (sumB u.data.toList) (by omega)
  obtain ⟨z, hz⟩ : ∃ z, sumB u.data.toList = z := ⟨_, rfl⟩
  rw [hz] at hs3 hl3 ⊢
  have HZ := Lib.hid hz; clear hz
  go_wp2_with fail
  refine (dec_all (z + 1) z (Nat.lt_succ_self z) (by omega) _).mono ?_; rintro e w3 ⟨rfl, hb3⟩
  have hz3 : (⟨(Lib.decDigits z).toArray⟩ : ByteArray).size ≤ 21 := by show (Lib.decDigits z).toArray.size ≤ _; simpa using hl3
  go_wp2
  go_ret
  refine ⟨?_, belowThen HB1.out hb3⟩
  rw [← HU.out, line_text]
  unfold lineL
  rw [← HUD.out, HZ.out]
  rfl

end Go.Proofs.YtogonjkklioaaaaGreatDoor

namespace Go.Proofs.YtogonjkklioaaaaGreatDoor
open Go.RowKit

theorem dec_digits (u : Nat) : ∀ c ∈ Lib.decDigits u, 48 ≤ c.toNat ∧ c.toNat ≤ 57 := by
  induction u using Nat.strongRecOn with
  | ind u ih =>
    intro c hc
    rw [Lib.decDigits] at hc
    split at hc
    · have e : c = UInt8.ofNat (48 + u) := by simpa using hc
      rw [e, UInt8.toNat_ofNat']; omega
    · rcases List.mem_append.1 hc with hc | hc
      · exact ih (u / 10) (by omega) c hc
      · have e : c = UInt8.ofNat (48 + u % 10) := by simpa using hc
        rw [e, UInt8.toNat_ofNat']; omega

theorem dec_no {u : Nat} {c : UInt8} (h : c.toNat < 48 ∨ 57 < c.toNat) : c ∉ Lib.decDigits u := fun hc => by have := dec_digits u c hc; omega

theorem dec_some (u : Nat) : 1 ≤ (Lib.decDigits u).length := by
  rw [Lib.decDigits]
  split
  · simp
  · simp

theorem plain_ten {c : UInt8} (h : plainC c) : c ≠ 10 := by
  intro e; subst e; revert h; unfold plainC; decide

theorem text_no_ten {a : At} (h : atomB a = true) : (10 : UInt8) ∉ textL a := by
  intro hc
  rcases text_plain h hc with e | e | e | e
  · cases e
  · cases e
  · cases e
  · exact plain_ten e rfl

theorem encS_no_ten : ∀ {l : List Sg}, (∀ x ∈ l, atomB x.2 = true ∧ x.1 ≠ 10) → (10 : UInt8) ∉ encS l
  | [], _ => by simp [encS]
  | x :: l, h => by
    rw [encS_cons]
    intro hc
    rcases List.mem_cons.1 hc with e | hc
    · exact (h x (by simp)).2 e.symm
    · rcases List.mem_append.1 hc with hc | hc
      · exact text_no_ten (h x (by simp)).1 hc
      · rcases List.mem_cons.1 hc with e | hc
        · cases e
        · exact encS_no_ten (fun y hy => h y (by simp [hy])) hc

theorem ch_no_ten {xs ys : List At} (h : changeB xs ys = true) : (10 : UInt8) ∉ chL xs ys := by
  obtain ⟨_, _, a1, a2⟩ := change_put h
  rw [← encS_sgs]
  refine encS_no_ten fun z hz => ⟨sgs_atoms a1 a2 z hz, ?_⟩
  unfold sgs at hz
  rcases List.mem_append.1 hz with hz | hz
  · obtain ⟨a, _, rfl⟩ := List.mem_map.1 hz; exact (show (45 : UInt8) ≠ 10 by decide)
  · obtain ⟨a, _, rfl⟩ := List.mem_map.1 hz; exact (show (43 : UInt8) ≠ 10 by decide)

/-- Nothing, or it ends with a blank. -/
def Blanked (l : List UInt8) : Prop := l = [] ∨ ∃ q, l = q ++ [32]

theorem encS_blanked : ∀ (l : List Sg), Blanked (encS l)
  | [] => .inl rfl
  | x :: l => by
    rw [encS_cons]
    rcases encS_blanked l with e | ⟨q, e⟩
    · exact .inr ⟨x.1 :: textL x.2, by rw [e]; rfl⟩
    · exact .inr ⟨x.1 :: (textL x.2 ++ 32 :: q), by rw [e]; simp⟩

theorem ch_blanked (xs ys : List At) : Blanked (chL xs ys) := by rw [← encS_sgs]; exact encS_blanked _

/-- Where a list is cut at its last blank. -/
theorem blank_last {u v u' v' : List UInt8} (h : u ++ v = u' ++ v') (hu : Blanked u) (hv : (32 : UInt8) ∉ v) (hu' : Blanked u') (hv' : (32 : UInt8) ∉ v') : u = u' ∧ v = v' := by
  rcases List.append_eq_append_iff.1 h with ⟨us, e1, e2⟩ | ⟨vs, e1, e2⟩
  · rcases hu' with e | ⟨q, e⟩
    · rw [e] at e1
      obtain ⟨h1, h2⟩ := List.append_eq_nil_iff.1 e1.symm
      rw [h2] at e2
      exact ⟨by rw [h1, e], e2⟩
    · cases us with
      | nil => rw [List.append_nil] at e1; exact ⟨e1.symm, e2⟩
      | cons x r =>
        exfalso
        rw [e] at e1
        have h1 : (32 : UInt8) ∈ x :: r := by
          have := congrArg List.getLast? e1
          rw [List.getLast?_append, List.getLast?_append] at this
          simp only [List.getLast?_singleton, Option.some_or] at this
          have h2 : (x :: r).getLast? = some 32 := by
            cases hl : (x :: r).getLast? with
            | none => simp at hl
            | some z => rw [hl] at this; simpa using this.symm
          exact List.mem_of_getLast? h2
        exact hv (by rw [e2]; exact List.mem_append_left _ h1)
  · rcases hu with e | ⟨q, e⟩
    · rw [e] at e1
      obtain ⟨h1, h2⟩ := List.append_eq_nil_iff.1 e1.symm
      rw [h2] at e2
      exact ⟨by rw [h1, e], e2.symm⟩
    · cases vs with
      | nil => rw [List.append_nil] at e1; exact ⟨e1, e2.symm⟩
      | cons x r =>
        exfalso
        rw [e] at e1
        have h1 : (32 : UInt8) ∈ x :: r := by
          have := congrArg List.getLast? e1
          rw [List.getLast?_append, List.getLast?_append] at this
          simp only [List.getLast?_singleton, Option.some_or] at this
          have h2 : (x :: r).getLast? = some 32 := by
            cases hl : (x :: r).getLast? with
            | none => simp at hl
            | some z => rw [hl] at this; simpa using this.symm
          exact List.mem_of_getLast? h2
        exact hv' (by rw [e2]; exact List.mem_append_left _ h1)

/-- A record without its line's end. -/
def recL (k : Nat) (p : List UInt8) : List UInt8 := headL k p ++ Lib.decDigits (sumB (headL k p))

theorem line_body (k : Nat) (p : List UInt8) : lineL k p = recL k p ++ [10] := rfl

theorem body_at (k : Nat) (p : List UInt8) : recL k p = Lib.decDigits k ++ 58 :: (p ++ Lib.decDigits (sumB (headL k p))) := by
  unfold recL headL; simp

theorem body_no_ten {k : Nat} {p : List UInt8} (h : (10 : UInt8) ∉ p) : (10 : UInt8) ∉ recL k p := by
  rw [body_at]
  intro hc
  rcases List.mem_append.1 hc with hc | hc
  · exact dec_no (.inl (by decide)) hc
  · rcases List.mem_cons.1 hc with e | hc
    · cases e
    · rcases List.mem_append.1 hc with hc | hc
      · exact h hc
      · exact dec_no (.inl (by decide)) hc

theorem body_inj {k : Nat} {p p' : List UInt8} (h : recL k p = recL k p') (hp : Blanked p) (hp' : Blanked p') : p = p' := by
  rw [body_at, body_at] at h
  have h1 := List.append_cancel_left h
  injection h1 with _ h1
  exact (blank_last h1 hp (dec_no (.inl (by decide))) hp' (dec_no (.inl (by decide)))).1

theorem line_len (k : Nat) (p : List UInt8) : 4 + p.length ≤ (lineL k p).length := by
  rw [line_body, body_at]
  have h1 := dec_some k
  have h2 := dec_some (sumB (headL k p))
  simp only [List.length_append, List.length_cons, List.length_nil]
  omega

/-- A change, by what it is. -/
abbrev Ch := List At × List At
/-- It is ok. -/
def okC (c : Ch) : Prop := changeB c.1 c.2 = true
def chC (c : Ch) : List UInt8 := chL c.1 c.2

theorem line_first {k : Nat} {c c' : Ch} {r r' : List UInt8} (h : okC c) (h' : okC c') (he : lineL k (chC c) ++ r = lineL k (chC c') ++ r') : c = c' ∧ r = r' := by
  rw [line_body, line_body, List.append_assoc, List.append_assoc] at he
  obtain ⟨h1, h2⟩ := mark_first he (body_no_ten (ch_no_ten h)) (body_no_ten (ch_no_ten h'))
  have h3 := body_inj h1 (ch_blanked _ _) (ch_blanked _ _)
  obtain ⟨h4, h5⟩ := chL_inj h h' h3
  exact ⟨Prod.ext h4 h5, by simpa using h2⟩

/-- A log: changes under the times from k on. -/
def logL (k : Nat) : List Ch → List UInt8
  | [] => []
  | c :: r => lineL k (chC c) ++ logL (k + 1) r

theorem logL_snoc : ∀ (k : Nat) (cs : List Ch) (c : Ch), logL k (cs ++ [c]) = logL k cs ++ lineL (k + cs.length) (chC c)
  | k, [], c => by simp [logL]
  | k, x :: cs, c => by
    show lineL k (chC x) ++ logL (k + 1) (cs ++ [c]) = (lineL k (chC x) ++ logL (k + 1) cs) ++ _
    rw [logL_snoc (k + 1) cs c, List.append_assoc, List.length_cons, Nat.add_assoc, Nat.add_comm 1]

theorem logL_app : ∀ (k : Nat) (cs ds : List Ch), logL k (cs ++ ds) = logL k cs ++ logL (k + cs.length) ds
  | k, [], ds => by simp [logL]
  | k, x :: cs, ds => by
    show lineL k (chC x) ++ logL (k + 1) (cs ++ ds) = (lineL k (chC x) ++ logL (k + 1) cs) ++ _
    rw [logL_app (k + 1) cs ds, List.append_assoc, List.length_cons, Nat.add_assoc, Nat.add_comm 1]

theorem logL_len : ∀ (k : Nat) (cs : List Ch), 4 * cs.length ≤ (logL k cs).length
  | _, [] => by simp
  | k, c :: cs => by
    have h1 := logL_len (k + 1) cs
    have h2 := line_len k (chC c)
    show 4 * (cs.length + 1) ≤ (lineL k (chC c) ++ logL (k + 1) cs).length
    rw [List.length_append]
    omega

/-- What is read of a log: its first changes, and no more. -/
structure LogOf (l : List UInt8) (cs : List Ch) : Prop where
  ok : ∀ c ∈ cs, okC c
  tx : logL 0 cs <+: l
  no : ∀ c r, okC c → l ≠ logL 0 cs ++ (lineL cs.length (chC c) ++ r)

theorem log_prefix : ∀ (k : Nat) (cs ds : List Ch) (r r' : List UInt8), (∀ c ∈ cs, okC c) → (∀ c ∈ ds, okC c) → logL k cs ++ r = logL k ds ++ r' → cs <+: ds ∨ ds <+: cs
  | _, [], ds, _, _, _, _, _ => .inl (List.nil_prefix)
  | _, _ :: _, [], _, _, _, _, _ => .inr (List.nil_prefix)
  | k, c :: cs, d :: ds, r, r', h, h', he => by
    have he' : lineL k (chC c) ++ (logL (k + 1) cs ++ r) = lineL k (chC d) ++ (logL (k + 1) ds ++ r') := by
      rw [← List.append_assoc, ← List.append_assoc]; exact he
    obtain ⟨h1, h2⟩ := line_first (h c (by simp)) (h' d (by simp)) he'
    subst h1
    rcases log_prefix (k + 1) cs ds r r' (fun x hx => h x (by simp [hx])) (fun x hx => h' x (by simp [hx])) h2 with h3 | h3
    · exact .inl ((List.prefix_cons_inj c).2 h3)
    · exact .inr ((List.prefix_cons_inj c).2 h3)

theorem LogOf.most {l : List UInt8} {cs ds : List Ch} (h : LogOf l cs) (h1 : ∀ c ∈ ds, okC c) (h2 : logL 0 ds <+: l) : ds <+: cs := by
  obtain ⟨r, hr⟩ := h.tx
  obtain ⟨r', hr'⟩ := h2
  rcases log_prefix 0 cs ds r r' h.ok h1 (hr.trans hr'.symm) with ⟨t, ht⟩ | ht
  · cases t with
    | nil => rw [List.append_nil] at ht; rw [ht]; exact List.prefix_rfl
    | cons c t =>
      exfalso
      subst ht
      refine h.no c (logL (cs.length + 1) t ++ r') (h1 c (by simp)) ?_
      rw [← hr', logL_app]
      show _ = _
      rw [Nat.zero_add]
      show (logL 0 cs ++ (lineL cs.length (chC c) ++ logL (cs.length + 1) t)) ++ r' = _
      simp
  · exact ht

theorem LogOf.uniq {l : List UInt8} {cs ds : List Ch} (h : LogOf l cs) (h' : LogOf l ds) : cs = ds := by
  have h1 := h.most h'.ok h'.tx
  have h2 := h'.most h.ok h.tx
  exact List.IsPrefix.eq_of_length_le h2 h1.length_le

end Go.Proofs.YtogonjkklioaaaaGreatDoor

namespace Go.Proofs.YtogonjkklioaaaaGreatDoor
open Go.RowKit

/-- A change in the making: what goes lies in memory ahead of what comes. -/
structure CG (w : World) (cb lo mid hi : Nat) (vc vg : Value) (rc rg : List Rf) (W : World) : Prop where
  C : Blk W cb 25 #[vc, vg]
  G : W.ownsRow lo 51 2 vg rg.length (rcells rg)
  GL : ∀ g, vg.ownBlock = some g → g < mid
  GI : OwnIn W lo mid rg
  K : W.ownsRow mid 51 2 vc rc.length (rcells rc)
  KI : OwnIn W mid hi rc
  hc : w.heap.size ≤ cb
  h0 : cb < lo
  h1 : lo ≤ mid
  h2 : mid ≤ hi
  h3 : hi ≤ W.heap.size
  gr : Below w.heap.size w W

section
variable {w : World} {cb lo mid hi : Nat} {vc vg : Value} {rc rg : List Rf} {W W' : World} {R : Nat}

theorem CG.raise (h : CG w cb lo mid hi vc vg rc rg W) : CG w cb lo mid W.heap.size vc vg rc rg W :=
  ⟨h.C, h.G, h.GL, h.GI, h.K, h.KI.keep (fun _ _ _ => rfl) (Nat.le_refl _) h.h3, h.hc, h.h0, h.h1, Nat.le_trans h.h2 h.h3, Nat.le_refl _, h.gr⟩

theorem CG.step (h : CG w cb lo mid hi vc vg rc rg W) (hg : W.grownBy W' (some R)) (hR : R < lo) (hne : R ≠ cb) (hw : w.heap.size ≤ R) : CG w cb lo mid hi vc vg rc rg W' := by
  have h0 := h.h0; have h1 := h.h1; have h2 := h.h2; have h3 := h.h3; have hgs := hg.size; have hs := h.gr.size
  exact ⟨h.C.kept hg (fun e => hne (by injection e with e; exact e.symm)), h.G.kept hg (ownNe h.G hR), h.GL, h.GI.keep (fun b a1 a2 => hg.block b (by omega) (fun e => by injection e with e; omega)) (Nat.le_refl _) (Nat.le_refl _),
    h.K.kept hg (ownNe h.K (by omega)), h.KI.keep (fun b a1 a2 => hg.block b (by omega) (fun e => by injection e with e; omega)) (Nat.le_refl _) (Nat.le_refl _), h.hc, h.h0, h.h1, h.h2, Nat.le_trans h3 hgs,
    ⟨hg.os.trans h.gr.os, hg.tape.trans h.gr.tape, hg.output.trans h.gr.output, Nat.le_trans hs hgs, fun k hk => (hg.block k (by omega) (fun e => by injection e with e; omega)).trans (h.gr.block k hk)⟩⟩

theorem CG.below (h : CG w cb lo mid hi vc vg rc rg W) (hb : Below W.heap.size W W') : CG w cb lo mid hi vc vg rc rg W' := by
  have h2 := h.h2; have h3 := h.h3; have hbs := hb.size; have hs := h.gr.size
  exact ⟨h.C.below hb, ownsRow_up h.G hb, h.GL, h.GI.keep (fun b _ a2 => hb.block b (by omega)) (Nat.le_refl _) (Nat.le_refl _), ownsRow_up h.K hb, h.KI.keep (fun b _ a2 => hb.block b (by omega)) (Nat.le_refl _) (Nat.le_refl _),
    h.hc, h.h0, h.h1, h.h2, Nat.le_trans h3 hbs, h.gr.trans (hb.mono hs)⟩

/-- A block of another kind than the row's is none of the row. -/
theorem CG.box_far {base k : Nat} {v : Value} {xs : List Value} (hrow : W.ownsRow base 51 2 v k xs) (hC : Blk W cb 25 #[vc, vg]) : some cb ≠ v.ownBlock := by
  rcases hrow.2 with ⟨rfl, _⟩ | ⟨g, cap, cur, rfl, _, hgb, _⟩
  · simp [Value.ownBlock]
  · intro e
    simp [Value.ownBlock] at e
    rw [← e, show W.heap[cb]? = _ from hC] at hgb
    injection hgb with hgb
    injection hgb with _ hgb
    exact absurd hgb (by decide)

/-- One more goes, where nothing comes yet. -/
theorem CG.goes {r : Rf} {v' : Value} {ob : Obj} {W9 : World} (h : CG w cb lo mid hi (.slice none 0 0) vg [] rg W) (hr : HeadApart W hi W.heap.size r)
    (hown : W9.ownsRow lo 51 2 v' (rg.length + 1) (rcells rg ++ [.string r.1, .slice r.2.1 r.2.2.1 r.2.2.2.1])) (hgrow : (W.alloc ob).grownBy W9 vg.ownBlock) :
    CG w cb lo W9.heap.size W9.heap.size (.slice none 0 0) v' [] (rg ++ [r]) (W9.setCell ⟨cb, 1, none⟩ v') := by
  have h0 := h.h0; have h1 := h.h1; have h2 := h.h2; have h3 := h.h3; have hs := h.gr.size; have hc := h.hc
  have hb1 := below1 W ob
  have hgs := hgrow.size
  have hbs := hb1.size
  have hA := h.below hb1
  have far : ∀ g, vg.ownBlock = some g → lo ≤ g := fun g hg => (hA.G.lt g hg).1
  have i1 : OwnIn W lo W.heap.size (rg ++ [r]) := (h.GI.keep (fun _ _ _ => rfl) (Nat.le_refl _) h2).snoc (fun _ _ _ => rfl) h3 hr.1 (Nat.le_trans h1 h2) hr.2.1 hr.2.2
  have i2 : OwnIn W9 lo W9.heap.size (rg ++ [r]) := (i1.keep (w' := W.alloc ob) (fun b _ a2 => hb1.block b a2) (Nat.le_refl _) hbs).appended hA.G hgrow hgs
  have c9 : Blk W9 cb 25 #[.slice none 0 0, vg] := hA.C.kept hgrow (CG.box_far hA.G hA.C)
  have hn9 := CG.box_far hown c9
  refine ⟨c9.set 1 v', ?_, fun g hg => (hown.lt g hg).2, ?_, ⟨rfl, .inl ⟨rfl, rfl⟩⟩, OwnIn.nil, hc, h0, by omega, Nat.le_refl _, by rw [size_setCell]; exact Nat.le_refl _, ?_⟩
  · rw [List.length_append, rcells_snoc]; exact row_away hown hn9 _
  · exact i2.keep (fun b a1 _ => Below.heap_setCell _ _ _ b (by show b ≠ cb; omega)) (Nat.le_refl _) (Nat.le_refl _)
  · refine Below.setCell ?_ hc _
    exact ⟨hgrow.os.trans hA.gr.os, hgrow.tape.trans hA.gr.tape, hgrow.output.trans hA.gr.output, by omega, fun k hk => (hgrow.block k (by omega) (fun e => by have := far k e.symm; omega)).trans (hA.gr.block k hk)⟩

/-- One more comes. -/
theorem CG.comes {r : Rf} {v' : Value} {ob : Obj} {W9 : World} (h : CG w cb lo mid hi vc vg rc rg W) (hr : HeadApart W hi W.heap.size r)
    (hown : W9.ownsRow mid 51 2 v' (rc.length + 1) (rcells rc ++ [.string r.1, .slice r.2.1 r.2.2.1 r.2.2.2.1])) (hgrow : (W.alloc ob).grownBy W9 vc.ownBlock) :
    CG w cb lo mid W9.heap.size v' vg (rc ++ [r]) rg (W9.setCell ⟨cb, 0, none⟩ v') := by
  have h0 := h.h0; have h1 := h.h1; have h2 := h.h2; have h3 := h.h3; have hs := h.gr.size; have hc := h.hc
  have hb1 := below1 W ob
  have hgs := hgrow.size
  have hbs := hb1.size
  have hA := h.below hb1
  have far : ∀ g, vc.ownBlock = some g → mid ≤ g := fun g hg => (hA.K.lt g hg).1
  have i1 : OwnIn W mid W.heap.size (rc ++ [r]) := h.KI.snoc (fun _ _ _ => rfl) h3 hr.1 h2 hr.2.1 hr.2.2
  have i2 : OwnIn W9 mid W9.heap.size (rc ++ [r]) := (i1.keep (w' := W.alloc ob) (fun b _ a2 => hb1.block b a2) (Nat.le_refl _) hbs).appended hA.K hgrow hgs
  have c9 : Blk W9 cb 25 #[vc, vg] := hA.C.kept hgrow (CG.box_far hA.K hA.C)
  have hn9 := CG.box_far hown c9
  have gne : vg.ownBlock = none ∨ vg.ownBlock ≠ vc.ownBlock := by
    cases hv : vg.ownBlock with
    | none => exact .inl rfl
    | some g => exact .inr (fun e => by have a1 := far g e.symm; have a2 := h.GL g hv; omega)
  have g9 := hA.G.kept hgrow gne
  refine ⟨c9.set 0 v', row_away g9 (CG.box_far g9 c9) _, h.GL, ?_, ?_, ?_, hc, h0, h1, by omega, by rw [size_setCell]; exact Nat.le_refl _, ?_⟩
  · exact hA.GI.keep (fun b a1 a2 => (Below.heap_setCell _ _ _ b (by show b ≠ cb; omega)).trans (hgrow.block b (by omega) (fun e => by have := far b e.symm; omega))) (Nat.le_refl _) (Nat.le_refl _)
  · rw [List.length_append, rcells_snoc]; exact row_away hown hn9 _
  · exact i2.keep (fun b a1 _ => Below.heap_setCell _ _ _ b (by show b ≠ cb; omega)) (Nat.le_refl _) (Nat.le_refl _)
  · refine Below.setCell ?_ hc _
    exact ⟨hgrow.os.trans hA.gr.os, hgrow.tape.trans hA.gr.tape, hgrow.output.trans hA.gr.output, by omega, fun k hk => (hgrow.block k (by omega) (fun e => by have := far k e.symm; omega)).trans (hA.gr.block k hk)⟩
end

end Go.Proofs.YtogonjkklioaaaaGreatDoor
