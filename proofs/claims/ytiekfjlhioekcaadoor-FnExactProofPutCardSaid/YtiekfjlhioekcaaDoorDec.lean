/-
  A number as decimal figures, in the model.
-/
import Derived.Test.YtiekfjlhioekcaaDoorMem
import Derived.Test.YtiekfjlhioekcaaDoorRegion
import Derived.Lib.ItoaNum
import Derived.Lib.ItoaMem
import Derived.Lib.ItoaLen
import Derived.Laws.IdiomStrings
namespace Go.Proofs.YtiekfjlhioekcaaDoor
open Go.RowKit

theorem oneFigure (j : Nat) (hj : j < 10) (W : World) : (convert 47 9 (.slice (some ⟨W.heap.size, 0, none⟩) 1 1)).run Tryd.prog (W.alloc (.cells #[.int .u8 (48 + (j : Int))] 5)) = .ok (.string ⟨#[UInt8.ofNat (48 + j)]⟩) (W.alloc (.cells #[.int .u8 (48 + (j : Int))] 5)) := by
  have hb : ((UInt8.ofNat (48 + j)).toNat : Int) = 48 + (j : Int) := by rw [UInt8.toNat_ofNat']; omega
  have h := run_convert_bytes_back (P := Tryd.prog) (W.alloc (.cells #[.int .u8 (48 + (j : Int))] 5)) 47 9 5 ⟨W.heap.size, 0, none⟩ 1 [UInt8.ofNat (48 + j)] Tryd.underlying47 Tryd.underlying5 Tryd.underlying9 (fun i hi => by
    have : i = 0 := by simpa using hi
    subst this
    show _ = some (Value.int .u8 ((UInt8.ofNat (48 + j)).toNat : Int))
    rw [hb]
    simp [go_sem, Addr.add])
  exact h

theorem fig_at (j : Nat) (hj : j < 10) (W : World) (g : Nat) (hc : W.cell? ⟨g, 0, none⟩ = some (.int .u8 (48 + (j : Int)))) : (convert 47 9 (.slice (some ⟨g, 0, none⟩) 1 1)).run Tryd.prog W = .ok (.string ⟨#[UInt8.ofNat (48 + j)]⟩) W := by
  have hb : ((UInt8.ofNat (48 + j)).toNat : Int) = 48 + (j : Int) := by rw [UInt8.toNat_ofNat']; omega
  have h := run_convert_bytes_back (P := Tryd.prog) W 47 9 5 ⟨g, 0, none⟩ 1 [UInt8.ofNat (48 + j)] Tryd.underlying47 Tryd.underlying5 Tryd.underlying9 (fun i hi => by
    have : i = 0 := by simpa using hi
    subst this
    show _ = some (Value.int .u8 ((UInt8.ofNat (48 + j)).toNat : Int))
    rw [hb]
    exact hc)
  exact h

theorem app_text (l : List UInt8) (c : UInt8) : (⟨l.toArray⟩ ++ ⟨#[c]⟩ : ByteArray) = ⟨(l ++ [c]).toArray⟩ := by
  apply ByteArray.ext
  simp [ByteArray.data_append]

theorem digits_more {k : Nat} (h : ¬ k < 10) : Lib.decDigits k = Lib.decDigits (k / 10) ++ [UInt8.ofNat (48 + k % 10)] := by rw [Lib.decDigits, dif_neg h]

theorem dec_len (q : Nat) (h : q ≤ 9223372036854775807) : (Lib.decDigits q).length ≤ 21 := by
  have h2 := Lib.itoa_length_le (q : Int) (by omega) (by omega)
  rwa [Lib.itoa_nonneg] at h2

set_option maxRecDepth 100000 in
set_option maxHeartbeats 1000000 in
theorem dec_all : ∀ (t k : Nat), k < t → k ≤ 9223372036854775807 → ∀ w : World,
    Calls Tryd.prog 26 #[.int .i64 (k : Int)] w fun e w' => e = .returned (.string ⟨(Lib.decDigits k).toArray⟩) ∧ Below w.heap.size w w'
  | 0, k, h, _, _ => absurd h (Nat.not_lt_zero k)
  | t + 1, k, h, hk, w => by
    have hneg : ¬ (k : Int) < 0 := by omega
    have hmin : ¬ (k : Int) < -9223372036854775807 := by omega
    by_cases h10 : k < 10
    · have h10I : (k : Int) < 10 := by omega
      have hcv := oneFigure k h10 w
      have hb := below1 w (.cells #[.int .u8 (48 + (k : Int))] 5)
      go_enter Tryd.func26, Tryd.ntmps26
      go_wp2
      go_ret; exact ⟨by rw [Lib.decDigits_one h10, UInt8.ofNat_add]; rfl, hb⟩
    · have h10I : ¬ (k : Int) < 10 := by omega
      have ht : k / 10 < t := by omega
      have hdm := digits_more h10
      go_enter Tryd.func26, Tryd.ntmps26
      obtain ⟨m, hm⟩ : ∃ m, k % 10 = m := ⟨_, rfl⟩
      obtain ⟨q, hq⟩ : ∃ q, k / 10 = q := ⟨_, rfl⟩
      have hm10 : m < 10 := by omega
      have hmI : (k : Int) % 10 = (m : Int) := by omega
      have hqI : (k : Int) / 10 = (q : Int) := by omega
      have hwr : IntKind.u8.wrap (48 + (m : Int)) = 48 + (m : Int) := by rw [IntKind.wrap_u8]; omega
      have hwq : IntKind.i64.wrap (q : Int) = (q : Int) := by rw [IntKind.wrap_i64]; omega
      have hql : (Lib.decDigits q).length ≤ 9223372036854775806 := by have h2 := Lib.itoa_length_le (q : Int) (by omega) (by omega); rw [Lib.itoa_nonneg] at h2; omega
      have htm : (k : Int).tmod 10 = (m : Int) := by rw [Int.tmod_eq_emod_of_nonneg (by omega)]; exact hmI
      have htd : (k : Int).tdiv 10 = (q : Int) := by rw [Int.tdiv_eq_ediv_of_nonneg (by omega)]; exact hqI
      have hw4 : IntKind.i64.wrap (48 + (m : Int)) = 48 + (m : Int) := by rw [IntKind.wrap_i64]; omega
      rw [hq] at ht; rw [hm, hq] at hdm
      have HD := Lib.hid hdm; clear hdm hm hq
      go_wp2_with fail
      obtain ⟨V, hV⟩ : ∃ V, w.drew = V := ⟨_, rfl⟩
      have HB := Lib.hid (show Below w.heap.size w V by rw [← hV]; exact (Below.refl _ _).drew)
      refine wp_region_held_drew (S := fun _ => True) (by kernel_rfl) trivial ?_
      rw [hV]
      clear hV
      intro hS_
      refine takeV (i := 0) (v := .int .i64 (k : Int)) (by (simp only [List.getElem?_toArray, List.getElem?_cons_zero]); rfl) (by kernel_rfl) (by kernel_rfl) (by kernel_rfl) (by rfl) (fun _ _ _ h => h) (Or.inl ⟨by rfl, ?_⟩) hS_ (by (simp only [List.setIfInBounds_toArray, List.set_cons_succ, List.set_cons_zero]); rfl) ?_
      · intro w_ hSw_; (try dsimp only at hSw_); go_simp
      refine takeV (i := 1) (v := .int .i64 (q : Int)) (by (simp only [List.getElem?_toArray, List.getElem?_cons_succ, List.getElem?_cons_zero]); rfl) (by kernel_rfl) (by kernel_rfl) (by kernel_rfl) (by rfl) (fun _ _ _ h => h) (Or.inl ⟨by rfl, ?_⟩) hS_ (by (simp only [List.setIfInBounds_toArray, List.set_cons_succ, List.set_cons_zero]); rfl) ?_
      · intro w_ hSw_; (try dsimp only at hSw_); go_simp
      refine takeV (i := 3) (v := .int .i64 (k : Int)) (by (simp only [List.getElem?_toArray, List.getElem?_cons_succ, List.getElem?_cons_zero]); rfl) (by kernel_rfl) (by kernel_rfl) (by kernel_rfl) (by rfl) (fun _ _ _ h => h) (Or.inl ⟨by rfl, ?_⟩) hS_ (by (simp only [List.setIfInBounds_toArray, List.set_cons_succ, List.set_cons_zero]); rfl) ?_
      · intro w_ hSw_; (try dsimp only at hSw_); go_simp
      refine takeV (i := 4) (v := .int .i64 (m : Int)) (by (simp only [List.getElem?_toArray, List.getElem?_cons_succ, List.getElem?_cons_zero]); rfl) (by kernel_rfl) (by kernel_rfl) (by kernel_rfl) (by rfl) (fun _ _ _ h => h) (Or.inl ⟨by rfl, ?_⟩) hS_ (by (simp only [List.setIfInBounds_toArray, List.set_cons_succ, List.set_cons_zero]); rfl) ?_
      · intro w_ hSw_; (try dsimp only at hSw_); go_simp
      refine takeV (i := 5) (v := .int .i64 (48 + (m : Int))) (by (simp only [List.getElem?_toArray, List.getElem?_cons_succ, List.getElem?_cons_zero]); rfl) (by kernel_rfl) (by kernel_rfl) (by kernel_rfl) (by rfl) (fun _ _ _ h => h) (Or.inl ⟨by rfl, ?_⟩) hS_ (by (simp only [List.setIfInBounds_toArray, List.set_cons_succ, List.set_cons_zero]); rfl) ?_
      · intro w_ hSw_; (try dsimp only at hSw_); go_simp
      refine takeV (i := 6) (v := .int .u8 (48 + (m : Int))) (by (simp only [List.getElem?_toArray, List.getElem?_cons_succ, List.getElem?_cons_zero]); rfl) (by kernel_rfl) (by kernel_rfl) (by kernel_rfl) (by rfl) (fun _ _ _ h => h) (Or.inl ⟨by rfl, ?_⟩) hS_ (by (simp only [List.setIfInBounds_toArray, List.set_cons_succ, List.set_cons_zero]); rfl) ?_
      · intro w_ hSw_; (try dsimp only at hSw_); go_simp
      refine wpAnyH_ready (rs := [2, 7]) (by kernel_rfl) (by simp) ?_
      refine (AllReadyH.cons (o := _) (by (simp only [List.getElem?_toArray, List.getElem?_cons_succ, List.getElem?_cons_zero]); rfl) (fun K_ hK_ => ?_) (AllReadyH.cons (o := _) (by (simp only [List.getElem?_toArray, List.getElem?_cons_succ, List.getElem?_cons_zero]); rfl) (fun K_ hK_ => ?_) AllReadyH.nil))
      · rw [if_pos (by rfl)]
        go_simp
        go_at_call 26
        refine (dec_all t q ht (by omega) _).mono ?_; rintro e_ W1 ⟨rfl, hb_⟩
        have HB1 := Lib.hid (belowThen HB.out hb_)
        clear hb_
        refine hK_.out _ _ trivial (fun hS2_ => ?_)
        clear hK_ hS_; have hS_ := hS2_; clear hS2_
        (try simp only [Act.put, List.setIfInBounds_toArray, List.set_cons_zero, List.set_cons_succ])
        refine wpAnyH_ready (rs := [7]) (by kernel_rfl) (by simp) ?_
        refine AllReadyH.cons (o := _) (by (simp only [List.getElem?_toArray, List.getElem?_cons_succ, List.getElem?_cons_zero]); rfl) (fun K_ hK_ => ?_) AllReadyH.nil
        rw [if_pos (by rfl)]
        go_simp
        have HB2 := Lib.hid (belowThen HB1.out (below1 W1 (.cells #[.int .u8 (48 + (m : Int))] 5)))
        have C2 : (W1.alloc (.cells #[.int .u8 (48 + (m : Int))] 5)).cell? ⟨W1.heap.size, 0, none⟩ = some (.int .u8 (48 + (m : Int))) := by simp [go_sem]
        obtain ⟨W2, hW2⟩ : ∃ X, W1.alloc (.cells #[.int .u8 (48 + (m : Int))] 5) = X := ⟨_, rfl⟩
        rw [hW2] at HB2 C2 ⊢; clear hW2
        refine hK_.out _ _ trivial (fun hS2_ => ?_)
        clear hK_ hS_; have hS_ := hS2_; clear hS2_
        (try simp only [Act.put, List.setIfInBounds_toArray, List.set_cons_zero, List.set_cons_succ])
        refine wpAnyH_ready (rs := [8]) (by kernel_rfl) (by simp) ?_
        refine AllReadyH.cons (o := _) (by (simp only [List.getElem?_toArray, List.getElem?_cons_succ, List.getElem?_cons_zero]); rfl) (fun K_ hK_ => ?_) AllReadyH.nil
        have hcv := fig_at m hm10 W2 _ C2
        rw [if_pos (by rfl)]
        go_simp
        refine hK_.out _ _ trivial (fun hS2_ => ?_)
        clear hK_ hS_; have hS_ := hS2_; clear hS2_
        (try simp only [Act.put, List.setIfInBounds_toArray, List.set_cons_zero, List.set_cons_succ])
        refine takeV (i := 9) (v := .string (⟨(Lib.decDigits q).toArray⟩ ++ ⟨#[UInt8.ofNat (48 + m)]⟩)) (by (simp only [List.getElem?_toArray, List.getElem?_cons_succ, List.getElem?_cons_zero]); rfl) (by kernel_rfl) (by kernel_rfl) (by kernel_rfl) (by rfl) (fun _ _ _ h => h) (Or.inl ⟨by rfl, ?_⟩) hS_ (by (simp only [List.setIfInBounds_toArray, List.set_cons_succ, List.set_cons_zero]); rfl) ?_
        · intro w_ hSw_; (try dsimp only at hSw_); go_simp
        refine takeV (i := 10) (v := .string (⟨(Lib.decDigits q).toArray⟩ ++ ⟨#[UInt8.ofNat (48 + m)]⟩)) (by (simp only [List.getElem?_toArray, List.getElem?_cons_succ, List.getElem?_cons_zero]); rfl) (by kernel_rfl) (by kernel_rfl) (by kernel_rfl) (by rfl) (fun _ _ _ h => h) (Or.inl ⟨by rfl, ?_⟩) hS_ (by (simp only [List.setIfInBounds_toArray, List.set_cons_succ, List.set_cons_zero]); rfl) ?_
        · intro w_ hSw_; (try dsimp only at hSw_); go_simp
        refine wpAnyH_done (by kernel_rfl) ?_ _
        go_wp2
        go_ret; exact ⟨by rw [HD.out]; exact congrArg (fun s => Ending.returned (.string s)) (app_text _ _), HB2.out⟩
      · rw [if_pos (by rfl)]
        go_simp
        have HB4 := Lib.hid (belowThen HB.out (below1 V (.cells #[.int .u8 (48 + (m : Int))] 5)))
        have C4 : (V.alloc (.cells #[.int .u8 (48 + (m : Int))] 5)).cell? ⟨V.heap.size, 0, none⟩ = some (.int .u8 (48 + (m : Int))) := by simp [go_sem]
        obtain ⟨W4, hW4⟩ : ∃ X, V.alloc (.cells #[.int .u8 (48 + (m : Int))] 5) = X := ⟨_, rfl⟩
        rw [hW4] at HB4 C4 ⊢; clear hW4
        refine hK_.out _ _ trivial (fun hS2_ => ?_)
        clear hK_ hS_; have hS_ := hS2_; clear hS2_
        (try simp only [Act.put, List.setIfInBounds_toArray, List.set_cons_zero, List.set_cons_succ])
        refine wpAnyH_ready (rs := [2, 8]) (by kernel_rfl) (by simp) ?_
        refine (AllReadyH.cons (o := _) (by (simp only [List.getElem?_toArray, List.getElem?_cons_succ, List.getElem?_cons_zero]); rfl) (fun K_ hK_ => ?_) (AllReadyH.cons (o := _) (by (simp only [List.getElem?_toArray, List.getElem?_cons_succ, List.getElem?_cons_zero]); rfl) (fun K_ hK_ => ?_) AllReadyH.nil))
        · rw [if_pos (by rfl)]
          go_simp
          go_at_call 26
          refine (dec_all t q ht (by omega) _).mono ?_; rintro e_ W5 ⟨rfl, hb_⟩
          have HB5 := Lib.hid (belowThen HB4.out hb_)
          have C5 : W5.cell? ⟨V.heap.size, 0, none⟩ = some (.int .u8 (48 + (m : Int))) := (hb_.cell (by exact World.block_lt_of_cell? _ _ C4)).trans C4
          clear hb_
          refine hK_.out _ _ trivial (fun hS2_ => ?_)
          clear hK_ hS_; have hS_ := hS2_; clear hS2_
          (try simp only [Act.put, List.setIfInBounds_toArray, List.set_cons_zero, List.set_cons_succ])
          refine wpAnyH_ready (rs := [8]) (by kernel_rfl) (by simp) ?_
          refine AllReadyH.cons (o := _) (by (simp only [List.getElem?_toArray, List.getElem?_cons_succ, List.getElem?_cons_zero]); rfl) (fun K_ hK_ => ?_) AllReadyH.nil
          have hcv := fig_at m hm10 W5 _ C5
          rw [if_pos (by rfl)]
          go_simp
          refine hK_.out _ _ trivial (fun hS2_ => ?_)
          clear hK_ hS_; have hS_ := hS2_; clear hS2_
          (try simp only [Act.put, List.setIfInBounds_toArray, List.set_cons_zero, List.set_cons_succ])
          refine takeV (i := 9) (v := .string (⟨(Lib.decDigits q).toArray⟩ ++ ⟨#[UInt8.ofNat (48 + m)]⟩)) (by (simp only [List.getElem?_toArray, List.getElem?_cons_succ, List.getElem?_cons_zero]); rfl) (by kernel_rfl) (by kernel_rfl) (by kernel_rfl) (by rfl) (fun _ _ _ h => h) (Or.inl ⟨by rfl, ?_⟩) hS_ (by (simp only [List.setIfInBounds_toArray, List.set_cons_succ, List.set_cons_zero]); rfl) ?_
          · intro w_ hSw_; (try dsimp only at hSw_); go_simp
          refine takeV (i := 10) (v := .string (⟨(Lib.decDigits q).toArray⟩ ++ ⟨#[UInt8.ofNat (48 + m)]⟩)) (by (simp only [List.getElem?_toArray, List.getElem?_cons_succ, List.getElem?_cons_zero]); rfl) (by kernel_rfl) (by kernel_rfl) (by kernel_rfl) (by rfl) (fun _ _ _ h => h) (Or.inl ⟨by rfl, ?_⟩) hS_ (by (simp only [List.setIfInBounds_toArray, List.set_cons_succ, List.set_cons_zero]); rfl) ?_
          · intro w_ hSw_; (try dsimp only at hSw_); go_simp
          refine wpAnyH_done (by kernel_rfl) ?_ _
          go_wp2
          go_ret; exact ⟨by rw [HD.out]; exact congrArg (fun s => Ending.returned (.string s)) (app_text _ _), HB5.out⟩
        · have hcv := fig_at m hm10 W4 _ C4
          rw [if_pos (by rfl)]
          go_simp
          refine hK_.out _ _ trivial (fun hS2_ => ?_)
          clear hK_ hS_; have hS_ := hS2_; clear hS2_
          (try simp only [Act.put, List.setIfInBounds_toArray, List.set_cons_zero, List.set_cons_succ])
          refine wpAnyH_ready (rs := [2]) (by kernel_rfl) (by simp) ?_
          refine AllReadyH.cons (o := _) (by (simp only [List.getElem?_toArray, List.getElem?_cons_succ, List.getElem?_cons_zero]); rfl) (fun K_ hK_ => ?_) AllReadyH.nil
          rw [if_pos (by rfl)]
          go_simp
          go_at_call 26
          refine (dec_all t q ht (by omega) _).mono ?_; rintro e_ W8 ⟨rfl, hb_⟩
          have HB8 := Lib.hid (belowThen HB4.out hb_)
          have C8 : W8.cell? ⟨V.heap.size, 0, none⟩ = some (.int .u8 (48 + (m : Int))) := (hb_.cell (by exact World.block_lt_of_cell? _ _ C4)).trans C4
          clear hb_
          refine hK_.out _ _ trivial (fun hS2_ => ?_)
          clear hK_ hS_; have hS_ := hS2_; clear hS2_
          (try simp only [Act.put, List.setIfInBounds_toArray, List.set_cons_zero, List.set_cons_succ])
          refine takeV (i := 9) (v := .string (⟨(Lib.decDigits q).toArray⟩ ++ ⟨#[UInt8.ofNat (48 + m)]⟩)) (by (simp only [List.getElem?_toArray, List.getElem?_cons_succ, List.getElem?_cons_zero]); rfl) (by kernel_rfl) (by kernel_rfl) (by kernel_rfl) (by rfl) (fun _ _ _ h => h) (Or.inl ⟨by rfl, ?_⟩) hS_ (by (simp only [List.setIfInBounds_toArray, List.set_cons_succ, List.set_cons_zero]); rfl) ?_
          · intro w_ hSw_; (try dsimp only at hSw_); go_simp
          refine takeV (i := 10) (v := .string (⟨(Lib.decDigits q).toArray⟩ ++ ⟨#[UInt8.ofNat (48 + m)]⟩)) (by (simp only [List.getElem?_toArray, List.getElem?_cons_succ, List.getElem?_cons_zero]); rfl) (by kernel_rfl) (by kernel_rfl) (by kernel_rfl) (by rfl) (fun _ _ _ h => h) (Or.inl ⟨by rfl, ?_⟩) hS_ (by (simp only [List.setIfInBounds_toArray, List.set_cons_succ, List.set_cons_zero]); rfl) ?_
          · intro w_ hSw_; (try dsimp only at hSw_); go_simp
          refine wpAnyH_done (by kernel_rfl) ?_ _
          go_wp2
          go_ret; exact ⟨by rw [HD.out]; exact congrArg (fun s => Ending.returned (.string s)) (app_text _ _), HB8.out⟩

end Go.Proofs.YtiekfjlhioekcaaDoor
