/-
  Texts of one claim, put together.
-/
import Derived.Test.YtogonjkklioaaaaGreatDoorZq
import Derived.Test.YtogonjkklioaaaaGreatDoorLt1
import Derived.Test.YtogonjkklioaaaaGreatDoorLt3
import Derived.Lib.ItoaNum
import Derived.Lib.ItoaMem
import Derived.Lib.ItoaLen
import Derived.Laws.IdiomStrings
import Derived.ProofKit
import Derived.IntWalk
set_option maxRecDepth 100000
set_option maxHeartbeats 8000000
namespace Go.Proofs.YtogonjkklioaaaaGreatDoor
open Go.RowKit
theorem oneFigure (j : Nat) (hj : j < 10) (W : World) : (convert 22 9 (.slice (some ⟨W.heap.size, 0, none⟩) 1 1)).run Tryz.prog (W.alloc (.cells #[.int .u8 (48 + (j : Int))] 5)) = .ok (.string ⟨#[UInt8.ofNat (48 + j)]⟩) (W.alloc (.cells #[.int .u8 (48 + (j : Int))] 5)) := by
  have hb : ((UInt8.ofNat (48 + j)).toNat : Int) = 48 + (j : Int) := by rw [UInt8.toNat_ofNat']; omega
  have h := run_convert_bytes_back (P := Tryz.prog) (W.alloc (.cells #[.int .u8 (48 + (j : Int))] 5)) 22 9 5 ⟨W.heap.size, 0, none⟩ 1 [UInt8.ofNat (48 + j)] Tryz.underlying22 Tryz.underlying5 Tryz.underlying9 (fun i hi => by
    have : i = 0 := by simpa using hi
    subst this; show _ = some (Value.int .u8 ((UInt8.ofNat (48 + j)).toNat : Int)); rw [hb]; simp [go_sem, Addr.add])
  exact h
theorem fig_at (j : Nat) (hj : j < 10) (W : World) (g : Nat) (hc : W.cell? ⟨g, 0, none⟩ = some (.int .u8 (48 + (j : Int)))) : (convert 22 9 (.slice (some ⟨g, 0, none⟩) 1 1)).run Tryz.prog W = .ok (.string ⟨#[UInt8.ofNat (48 + j)]⟩) W := by
  have hb : ((UInt8.ofNat (48 + j)).toNat : Int) = 48 + (j : Int) := by rw [UInt8.toNat_ofNat']; omega
  have h := run_convert_bytes_back (P := Tryz.prog) W 22 9 5 ⟨g, 0, none⟩ 1 [UInt8.ofNat (48 + j)] Tryz.underlying22 Tryz.underlying5 Tryz.underlying9 (fun i hi => by
    have : i = 0 := by simpa using hi
    subst this; show _ = some (Value.int .u8 ((UInt8.ofNat (48 + j)).toNat : Int)); rw [hb]; exact hc)
  exact h
theorem app_text (l : List UInt8) (c : UInt8) : (⟨l.toArray⟩ ++ ⟨#[c]⟩ : ByteArray) = ⟨(l ++ [c]).toArray⟩ := by
  apply ByteArray.ext; simp [ByteArray.data_append]
theorem zpf {k : Nat} (h : ¬ k < 10) : Lib.decDigits k = Lib.decDigits (k / 10) ++ [UInt8.ofNat (48 + k % 10)] := by rw [Lib.decDigits, dif_neg h]
theorem ziy (q : Nat) (h : q ≤ 9223372036854775807) : (Lib.decDigits q).length ≤ 21 := by
  have h2 := Lib.itoa_length_le (q : Int) qaa qaa
  rwa [Lib.itoa_nonneg] at h2
theorem zld : ∀ (t k : Nat), k < t → k ≤ 9223372036854775807 → ∀ w : World,
    Calls Tryz.prog 71 #[.int .i64 (k : Int)] w fun e w' => e = .returned (.string ⟨(Lib.decDigits k).toArray⟩) ∧ Below w.heap.size w w'
  | 0, k, h, _, _ => absurd h (Nat.not_lt_zero k)
  | t + 1, k, h, hk, w => by
    have hneg : ¬ (k : Int) < 0 := qaa; have hmin : ¬ (k : Int) < -9223372036854775807 := qaa; by_cases h10 : k < 10
    · have h10I : (k : Int) < 10 := qaa
      have hcv := oneFigure k h10 w; have hb := zac w (.cells #[.int .u8 (48 + (k : Int))] 5); go_enter Tryz.func71, Tryz.ntmps71; go_wp2; go_ret; exact ⟨by rw [Lib.decDigits_one h10, UInt8.ofNat_add]; rfl, hb⟩
    · have h10I : ¬ (k : Int) < 10 := qaa
      have ht : k / 10 < t := qaa; have hdm := zpf h10; go_enter Tryz.func71, Tryz.ntmps71; obtain ⟨m, hm⟩ : ∃ m, k % 10 = m := ⟨_, rfl⟩; obtain ⟨q, hq⟩ : ∃ q, k / 10 = q := ⟨_, rfl⟩; have hm10 : m < 10 := qaa; have hmI : (k : Int) % 10 = (m : Int) := qaa; have hqI : (k : Int) / 10 = (q : Int) := qaa; have hwr : IntKind.u8.wrap (48 + (m : Int)) = 48 + (m : Int) := by rw [IntKind.wrap_u8]; omega
      have hwq : IntKind.i64.wrap (q : Int) = (q : Int) := qap; have hql : (Lib.decDigits q).length ≤ 9223372036854775806 := by have h2 := Lib.itoa_length_le (q : Int) qaa qaa; rw [Lib.itoa_nonneg] at h2; omega
      have htm : (k : Int).tmod 10 = (m : Int) := by rw [Int.tmod_eq_emod_of_nonneg qaa]; exact hmI
      have htd : (k : Int).tdiv 10 = (q : Int) := by rw [Int.tdiv_eq_ediv_of_nonneg qaa]; exact hqI
      have hw4 : IntKind.i64.wrap (48 + (m : Int)) = 48 + (m : Int) := qap; rw [hq] at ht; rw [hm, hq] at hdm; have HD := hid hdm; clear hdm hm hq; go_wp2_with fail; obtain ⟨V, hV⟩ : ∃ V, w.drew = V := ⟨_, rfl⟩; have HB := hid (show Below w.heap.size w V by rw [← hV]; exact (Below.refl _ _).drew); refine wp_region_held_drew (S := fun _ => True) qab trivial ?_; rw [hV]; clear hV; intro hS_; refine tk 0 (.int .i64 (k : Int)) hS_ ?_; refine tk 1 (.int .i64 (q : Int)) hS_ ?_; refine tk 3 (.int .i64 (k : Int)) hS_ ?_; refine tk 4 (.int .i64 (m : Int)) hS_ ?_; refine tk 5 (.int .i64 (48 + (m : Int))) hS_ ?_
      refine tk 6 (.int .u8 (48 + (m : Int))) hS_ ?_; refine rd2 2 7 (fun K_ hK_ => ?_) fun K_ hK_ => ?_
      · rw [if_pos qad]
        go_simp; go_at_call 71; refine (zld t q ht qaa _).mono ?_; rintro e_ W1 ⟨rfl, a2⟩; have HB1 := hid (zaa HB.out a2); clear a2; refine hK_.out _ _ trivial fun hS_ => ?_; clear hK_; refine rd1 7 fun K_ hK_ => ?_; go_simp; have HB2 := hid (zaa HB1.out (zac W1 (.cells #[.int .u8 (48 + (m : Int))] 5))); have C2 : (W1.alloc (.cells #[.int .u8 (48 + (m : Int))] 5)).cell? ⟨W1.heap.size, 0, none⟩ = some (.int .u8 (48 + (m : Int))) := qer; obtain ⟨W2, a3⟩ : ∃ X, W1.alloc (.cells #[.int .u8 (48 + (m : Int))] 5) = X := ⟨_, rfl⟩; rw [a3] at HB2 C2 ⊢; clear a3
        refine hK_.out _ _ trivial fun hS_ => ?_; clear hK_; refine rd0 8 fun K_ hK_ => ?_; have hcv := fig_at m hm10 W2 _ C2; rw [if_pos qad]; go_simp; refine hK_.out _ _ trivial fun hS_ => ?_; clear hK_; refine tk 9 (.string (⟨(Lib.decDigits q).toArray⟩ ++ ⟨#[UInt8.ofNat (48 + m)]⟩)) hS_ ?_; refine tk 10 (.string (⟨(Lib.decDigits q).toArray⟩ ++ ⟨#[UInt8.ofNat (48 + m)]⟩)) hS_ ?_; refine wpAnyH_done qab ?_ _; go_wp2; go_ret; exact ⟨by rw [HD.out]; exact congrArg (fun s => Ending.returned (.string s)) (app_text _ _), HB2.out⟩
      · rw [if_pos qad]
        go_simp; have HB4 := hid (zaa HB.out (zac V (.cells #[.int .u8 (48 + (m : Int))] 5))); have C4 : (V.alloc (.cells #[.int .u8 (48 + (m : Int))] 5)).cell? ⟨V.heap.size, 0, none⟩ = some (.int .u8 (48 + (m : Int))) := qer; obtain ⟨W4, a4⟩ : ∃ X, V.alloc (.cells #[.int .u8 (48 + (m : Int))] 5) = X := ⟨_, rfl⟩; rw [a4] at HB4 C4 ⊢; clear a4; refine hK_.out _ _ trivial fun hS_ => ?_; clear hK_; refine rd2 2 8 (fun K_ hK_ => ?_) fun K_ hK_ => ?_
        · rw [if_pos qad]
          go_simp; go_at_call 71; refine (zld t q ht qaa _).mono ?_; rintro e_ W5 ⟨rfl, a2⟩; have HB5 := hid (zaa HB4.out a2); have C5 : W5.cell? ⟨V.heap.size, 0, none⟩ = some (.int .u8 (48 + (m : Int))) := (a2.cell (by exact World.block_lt_of_cell? _ _ C4)).trans C4; clear a2; refine hK_.out _ _ trivial fun hS_ => ?_; clear hK_; refine rd0 8 fun K_ hK_ => ?_; have hcv := fig_at m hm10 W5 _ C5; rw [if_pos qad]; go_simp; refine hK_.out _ _ trivial fun hS_ => ?_; clear hK_; refine tk 9 (.string (⟨(Lib.decDigits q).toArray⟩ ++ ⟨#[UInt8.ofNat (48 + m)]⟩)) hS_ ?_; refine tk 10 (.string (⟨(Lib.decDigits q).toArray⟩ ++ ⟨#[UInt8.ofNat (48 + m)]⟩)) hS_ ?_
          refine wpAnyH_done qab ?_ _; go_wp2; go_ret; exact ⟨by rw [HD.out]; exact congrArg (fun s => Ending.returned (.string s)) (app_text _ _), HB5.out⟩
        · have hcv := fig_at m hm10 W4 _ C4
          rw [if_pos qad]; go_simp; refine hK_.out _ _ trivial fun hS_ => ?_; clear hK_; refine rd1 2 fun K_ hK_ => ?_; go_simp; go_at_call 71; refine (zld t q ht qaa _).mono ?_; rintro e_ W8 ⟨rfl, a2⟩; have HB8 := hid (zaa HB4.out a2); have C8 : W8.cell? ⟨V.heap.size, 0, none⟩ = some (.int .u8 (48 + (m : Int))) := (a2.cell (by exact World.block_lt_of_cell? _ _ C4)).trans C4; clear a2; refine hK_.out _ _ trivial fun hS_ => ?_; clear hK_; refine tk 9 (.string (⟨(Lib.decDigits q).toArray⟩ ++ ⟨#[UInt8.ofNat (48 + m)]⟩)) hS_ ?_; refine tk 10 (.string (⟨(Lib.decDigits q).toArray⟩ ++ ⟨#[UInt8.ofNat (48 + m)]⟩)) hS_ ?_
          refine wpAnyH_done qab ?_ _; go_wp2; go_ret; exact ⟨by rw [HD.out]; exact congrArg (fun s => Ending.returned (.string s)) (app_text _ _), HB8.out⟩
theorem ret_int {k : IntKind} {a b : Int} (h : a = b) : Ending.returned (.int k a) = .returned (.int k b) := by rw [h]
def zch (s : Nat) (c : UInt8) : Nat := (s * 31 + c.toNat + 7) % 1000003
def zhq (l : List UInt8) : Nat := l.foldl zch 1
theorem sumB_snoc (l : List UInt8) (c : UInt8) : zhq (l ++ [c]) = zch (zhq l) c := by
  unfold zhq; rw [List.foldl_append]; rfl
theorem zem (s : Nat) (c : UInt8) : zch s c < 1000003 := Nat.mod_lt _ qam
theorem sumB_lt (l : List UInt8) : zhq l < 1000003 := by
  have h : ∀ (l : List UInt8) (s : Nat), s < 1000003 → l.foldl zch s < 1000003 := by
    intro l
    induction l with
    | nil => intro s h; exact h
    | cons c l ih => intro s _; exact ih _ (zem s c)
  exact h l 1 qam
theorem sum_step (s : ByteArray) (k S : Nat) (h : k < s.size) (hS : Hid (zhq (s.data.toList.take k) = S)) : zhq (s.data.toList.take (k + 1)) = zch S s[k] := by
  rw [take_snoc s k h, sumB_snoc, hS.out]
theorem sumStep_int (S : Nat) (c : UInt8) (h : S < 1000003) : (wrap64 (wrap64 ((S : Int) * 31 + wrap64 (c.toNat : Int)) + 7)).tmod 1000003 = ((zch S c : Nat) : Int) := by
  have hc := c.toNat_lt; rw [IntWalk.wrap64_in (c.toNat : Int) qaa, IntWalk.wrap64_in ((S : Int) * 31 + (c.toNat : Int)) qaa, IntWalk.wrap64_in _ qaa, Int.tmod_eq_emod_of_nonneg qaa]; unfold zch; omega
theorem sum_all (s : ByteArray) (k S : Nat) (h : ¬ k < s.size) (hS : Hid (zhq (s.data.toList.take k) = S)) : (S : Int) = (zhq s.data.toList : Nat) := by
  have h' := hS.out; rw [List.take_of_length_le qai] at h'; rw [h']
theorem ZSum0 {p : Prop} (h : p := by
  obtain ⟨k, S, hk, rfl, rfl, hS1, hrel⟩ := hrel; have HR := hid hrel; clear hrel; by_cases hlt : k < s.size
  · go_wp2
    go_round
    case rel => exact ⟨k + 1, _, by omega, by go_num, congrArg (Value.int .i64) (sumStep_int S s[k] hS1), zem _ _, sum_step s k S hlt HR⟩
    case measure => exact qms
  · go_wp2
    go_ret; exact ⟨ret_int (sum_all s k S hlt HR), rfl⟩) : p := h
theorem specSum_any (s : ByteArray) (w : World) (hs : s.size ≤ maxLen) :
    Calls Tryz.prog 103 #[.string s] w fun e w' => e = .returned (.int .i64 (zhq s.data.toList : Nat)) ∧ w = w' := by
  unfold maxLen at hs; go_enter Tryz.func103, Tryz.ntmps103; go_wp2; go_loop [3, 4] (fun v i => ∃ k S : Nat, k ≤ s.size ∧ i = .int .i64 k ∧ v = .int .i64 S ∧ S < 1000003 ∧ zhq (s.data.toList.take k) = S) (fun _ i => s.size - (intOf i).toNat)
  case atStart => exact ⟨0, 1, Nat.zero_le _, rfl, rfl, by omega, rfl⟩
  case round =>
    exact ZSum0
theorem implSum_any (s : ByteArray) (w : World) (hs : s.size ≤ maxLen) :
    Calls Tryz.prog 48 #[.string s] w fun e w' => e = .returned (.int .i64 (zhq s.data.toList : Nat)) ∧ w = w' := by
  unfold maxLen at hs; go_enter Tryz.func48, Tryz.ntmps48; go_wp2; go_loop [3, 4, 7] (fun v _ i => ∃ k S : Nat, k ≤ s.size ∧ i = .int .i64 k ∧ v = .int .i64 S ∧ S < 1000003 ∧ zhq (s.data.toList.take k) = S) (fun _ _ i => s.size - (intOf i).toNat)
  case atStart => exact ⟨0, 1, Nat.zero_le _, rfl, rfl, by omega, rfl⟩
  case round =>
    exact ZSum0
def zcp (k : Nat) (p : List UInt8) : List UInt8 := Lib.decDigits k ++ [58] ++ p
def zbo (k : Nat) (p : List UInt8) : List UInt8 := zcp k p ++ Lib.decDigits (zhq (zcp k p)) ++ [10]
theorem head_text (k : Nat) (s : ByteArray) : (⟨(Lib.decDigits k).toArray⟩ ++ ⟨#[58]⟩ ++ s : ByteArray) = ⟨(zcp k s.data.toList).toArray⟩ := by
  apply ByteArray.ext; simp [ByteArray.data_append, zcp]
theorem line_text (h : List UInt8) (q : Nat) : (⟨h.toArray⟩ ++ ⟨(Lib.decDigits q).toArray⟩ ++ ⟨#[10]⟩ : ByteArray) = ⟨(h ++ Lib.decDigits q ++ [10]).toArray⟩ := by
  apply ByteArray.ext; simp [ByteArray.data_append]
theorem l8Line_any (k : Nat) (hk : k ≤ 100000) (s : ByteArray) (hs : s.size ≤ 1000000) (w : World) :
    Calls Tryz.prog 72 #[.int .i64 (k : Int), .string s] w fun e w' => e = .returned (.string ⟨(zbo k s.data.toList).toArray⟩) ∧ Below w.heap.size w w' := by
  have hl := ziy k qaa; go_enter Tryz.func72, Tryz.ntmps72; go_wp2_with fail; refine (zld (k + 1) k (Nat.lt_succ_self k) qaa _).mono ?_; rintro e w1 ⟨rfl, hb1⟩; have HB1 := hid hb1; clear hb1; have hz1 : (⟨(Lib.decDigits k).toArray⟩ : ByteArray).size ≤ 21 := by show (Lib.decDigits k).toArray.size ≤ _; simpa using hl
  go_wp2_with fail; rw [head_text]; obtain ⟨u, hu⟩ : ∃ u : ByteArray, (⟨(zcp k s.data.toList).toArray⟩ : ByteArray) = u := ⟨_, rfl⟩; have a2 : u.data.toList = zcp k s.data.toList := by rw [← hu]
  have huz : u.size ≤ 1000022 := by
    show u.data.toList.length ≤ _; rw [a2]; unfold zcp; simp only [List.length_append, List.length_cons, List.length_nil]; have : s.data.toList.length = s.size := qag; omega
  rw [hu]; have HU := hid hu; have a4 := hid a2; clear hu a2; refine (specSum_any u _ qaf).mono ?_; rintro e w2 ⟨rfl, rfl⟩; have hs3 := sumB_lt u.data.toList; have a3 := ziy (zhq u.data.toList) qaa; obtain ⟨z, hz⟩ : ∃ z, zhq u.data.toList = z := ⟨_, rfl⟩; rw [hz] at hs3 a3 ⊢; have HZ := hid hz; clear hz; go_wp2_with fail; refine (zld (z + 1) z (Nat.lt_succ_self z) qaa _).mono ?_; rintro e w3 ⟨rfl, hb3⟩; have hz3 : (⟨(Lib.decDigits z).toArray⟩ : ByteArray).size ≤ 21 := by show (Lib.decDigits z).toArray.size ≤ _; simpa using a3
  go_wp2; go_ret; refine ⟨?_, zaa HB1.out hb3⟩; rw [← HU.out, line_text]; unfold zbo; rw [← a4.out, HZ.out]; rfl
end Go.Proofs.YtogonjkklioaaaaGreatDoor
