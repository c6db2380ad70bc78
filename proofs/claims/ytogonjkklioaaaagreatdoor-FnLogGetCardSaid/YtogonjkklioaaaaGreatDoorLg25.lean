/-
  Texts of one claim, put together.
-/
import Derived.Lib.ItoaLen
import Derived.Test.YtogonjkklioaaaaGreatDoorLg22
import Derived.Test.YtogonjkklioaaaaGreatDoorShelf3
import Derived.Test.YtogonjkklioaaaaGreatDoorShelf5
set_option maxRecDepth 100000
set_option maxHeartbeats 8000000
namespace Go.Proofs.YtogonjkklioaaaaGreatDoor
open Go.RowKit
theorem oneFigure (j : Nat) (hj : j < 10) (W : World) : (convert 22 9 (.slice (some ⟨W.heap.size, 0, none⟩) 1 1)).run Tryz.prog (W.alloc (.cells #[.int .u8 (48 + (j : Int))] 5)) = .ok (.string ⟨#[UInt8.ofNat (48 + j)]⟩) (W.alloc (.cells #[.int .u8 (48 + (j : Int))] 5)) := by
  have hb : ((UInt8.ofNat (48 + j)).toNat : Int) = 48 + (j : Int) := by rw [UInt8.toNat_ofNat']; omega
  have h := run_convert_bytes_back (P := Tryz.prog) (W.alloc (.cells #[.int .u8 (48 + (j : Int))] 5)) 22 9 5 ⟨W.heap.size, 0, none⟩ 1 [UInt8.ofNat (48 + j)] Tryz.underlying22 Tryz.underlying5 Tryz.underlying9 (fun i hi => by
    have : i = 0 := by simpa using hi
    subst this; show _ = some (Value.int .u8 ((UInt8.ofNat (48 + j)).toNat : Int)); rw [hb]; simp [go_sem, Addr.add])
  exact h
theorem fig_at (j : Nat) (hj : j < 10) (W : World) (g : Nat) (hc : W.cell? ⟨g, 0, none⟩ = some (.int .u8 (48 + (j : Int)))) : (convert 22 9 (.slice (some ⟨g, 0, none⟩) 1 1)).run Tryz.prog W = .ok (.string ⟨#[UInt8.ofNat (48 + j)]⟩) W := by
  have hb : ((UInt8.ofNat (48 + j)).toNat : Int) = 48 + (j : Int) := by rw [UInt8.toNat_ofNat']; omega
  have h := run_convert_bytes_back (P := Tryz.prog) W 22 9 5 ⟨g, 0, none⟩ 1 [UInt8.ofNat (48 + j)] Tryz.underlying22 Tryz.underlying5 Tryz.underlying9 (fun i hi => by
    have : i = 0 := by simpa using hi
    subst this; show _ = some (Value.int .u8 ((UInt8.ofNat (48 + j)).toNat : Int)); rw [hb]; exact hc)
  exact h
theorem app_text (l : List UInt8) (c : UInt8) : (⟨l.toArray⟩ ++ ⟨#[c]⟩ : ByteArray) = ⟨(l ++ [c]).toArray⟩ := by
  apply ByteArray.ext; simp [ByteArray.data_append]
theorem digits_more {k : Nat} (h : ¬ k < 10) : Lib.decDigits k = Lib.decDigits (k / 10) ++ [UInt8.ofNat (48 + k % 10)] := by rw [Lib.decDigits, dif_neg h]
theorem zjb (q : Nat) (h : q ≤ 9223372036854775807) : (Lib.decDigits q).length ≤ 21 := by
  have h2 := Lib.itoa_length_le (q : Int) qaa qaa
  rwa [Lib.itoa_nonneg] at h2
theorem zlh : ∀ (t k : Nat), k < t → k ≤ 9223372036854775807 → ∀ w : World,
    Calls Tryz.prog 71 #[.int .i64 (k : Int)] w fun e w' => e = .returned (.string ⟨(Lib.decDigits k).toArray⟩) ∧ Below w.heap.size w w'
  | 0, k, h, _, _ => absurd h (Nat.not_lt_zero k)
  | t + 1, k, h, hk, w => by
    have hneg : ¬ (k : Int) < 0 := qaa; have hmin : ¬ (k : Int) < -9223372036854775807 := qaa; by_cases h10 : k < 10
    · have h10I : (k : Int) < 10 := qaa
      have hcv := oneFigure k h10 w; have hb := zac w (.cells #[.int .u8 (48 + (k : Int))] 5); go_enter Tryz.func71, Tryz.ntmps71; go_wp2; go_ret; exact ⟨by rw [Lib.decDigits_one h10, UInt8.ofNat_add]; rfl, hb⟩
    · have h10I : ¬ (k : Int) < 10 := qaa
      have ht : k / 10 < t := qaa; have hdm := digits_more h10; go_enter Tryz.func71, Tryz.ntmps71; obtain ⟨m, hm⟩ : ∃ m, k % 10 = m := ⟨_, rfl⟩; obtain ⟨q, hq⟩ : ∃ q, k / 10 = q := ⟨_, rfl⟩; have hm10 : m < 10 := qaa; have hmI : (k : Int) % 10 = (m : Int) := qaa; have hqI : (k : Int) / 10 = (q : Int) := qaa; have hwr : IntKind.u8.wrap (48 + (m : Int)) = 48 + (m : Int) := by rw [IntKind.wrap_u8]; omega
      have hwq : IntKind.i64.wrap (q : Int) = (q : Int) := qao; have hql : (Lib.decDigits q).length ≤ 9223372036854775806 := by have h2 := Lib.itoa_length_le (q : Int) qaa qaa; rw [Lib.itoa_nonneg] at h2; omega
      have htm : (k : Int).tmod 10 = (m : Int) := by rw [Int.tmod_eq_emod_of_nonneg qaa]; exact hmI
      have htd : (k : Int).tdiv 10 = (q : Int) := by rw [Int.tdiv_eq_ediv_of_nonneg qaa]; exact hqI
      have hw4 : IntKind.i64.wrap (48 + (m : Int)) = 48 + (m : Int) := qao; rw [hq] at ht; rw [hm, hq] at hdm; have HD := hid hdm; clear hdm hm hq; go_wp2_with fail; obtain ⟨V, hV⟩ : ∃ V, w.drew = V := ⟨_, rfl⟩; have HB := hid (show Below w.heap.size w V by rw [← hV]; exact (Below.refl _ _).drew); refine wp_region_held_drew (S := fun _ => True) qab trivial ?_; rw [hV]; clear hV; intro hS_; refine tk 0 (.int .i64 (k : Int)) hS_ ?_; refine tk 1 (.int .i64 (q : Int)) hS_ ?_; refine tk 3 (.int .i64 (k : Int)) hS_ ?_; refine tk 4 (.int .i64 (m : Int)) hS_ ?_; refine tk 5 (.int .i64 (48 + (m : Int))) hS_ ?_
      refine tk 6 (.int .u8 (48 + (m : Int))) hS_ ?_; refine rd2 2 7 (fun K_ hK_ => ?_) fun K_ hK_ => ?_
      · rw [if_pos qad]
        go_simp; go_at_call 71; refine (zlh t q ht qaa _).mono ?_; rintro e_ W1 ⟨rfl, a2⟩; have HB1 := hid (zaa HB.out a2); clear a2; refine hK_.out _ _ trivial fun hS_ => ?_; clear hK_; refine rd1 7 fun K_ hK_ => ?_; go_simp; have HB2 := hid (zaa HB1.out (zac W1 (.cells #[.int .u8 (48 + (m : Int))] 5))); have C2 : (W1.alloc (.cells #[.int .u8 (48 + (m : Int))] 5)).cell? ⟨W1.heap.size, 0, none⟩ = some (.int .u8 (48 + (m : Int))) := qev; obtain ⟨W2, a3⟩ : ∃ X, W1.alloc (.cells #[.int .u8 (48 + (m : Int))] 5) = X := ⟨_, rfl⟩; rw [a3] at HB2 C2 ⊢; clear a3
        refine hK_.out _ _ trivial fun hS_ => ?_; clear hK_; refine rd0 8 fun K_ hK_ => ?_; have hcv := fig_at m hm10 W2 _ C2; rw [if_pos qad]; go_simp; refine hK_.out _ _ trivial fun hS_ => ?_; clear hK_; refine tk 9 (.string (⟨(Lib.decDigits q).toArray⟩ ++ ⟨#[UInt8.ofNat (48 + m)]⟩)) hS_ ?_; refine tk 10 (.string (⟨(Lib.decDigits q).toArray⟩ ++ ⟨#[UInt8.ofNat (48 + m)]⟩)) hS_ ?_; refine wpAnyH_done qab ?_ _; go_wp2; go_ret; exact ⟨by rw [HD.out]; exact congrArg (fun s => Ending.returned (.string s)) (app_text _ _), HB2.out⟩
      · rw [if_pos qad]
        go_simp; have HB4 := hid (zaa HB.out (zac V (.cells #[.int .u8 (48 + (m : Int))] 5))); have C4 : (V.alloc (.cells #[.int .u8 (48 + (m : Int))] 5)).cell? ⟨V.heap.size, 0, none⟩ = some (.int .u8 (48 + (m : Int))) := qev; obtain ⟨W4, a4⟩ : ∃ X, V.alloc (.cells #[.int .u8 (48 + (m : Int))] 5) = X := ⟨_, rfl⟩; rw [a4] at HB4 C4 ⊢; clear a4; refine hK_.out _ _ trivial fun hS_ => ?_; clear hK_; refine rd2 2 8 (fun K_ hK_ => ?_) fun K_ hK_ => ?_
        · rw [if_pos qad]
          go_simp; go_at_call 71; refine (zlh t q ht qaa _).mono ?_; rintro e_ W5 ⟨rfl, a2⟩; have HB5 := hid (zaa HB4.out a2); have C5 : W5.cell? ⟨V.heap.size, 0, none⟩ = some (.int .u8 (48 + (m : Int))) := (a2.cell (by exact World.block_lt_of_cell? _ _ C4)).trans C4; clear a2; refine hK_.out _ _ trivial fun hS_ => ?_; clear hK_; refine rd0 8 fun K_ hK_ => ?_; have hcv := fig_at m hm10 W5 _ C5; rw [if_pos qad]; go_simp; refine hK_.out _ _ trivial fun hS_ => ?_; clear hK_; refine tk 9 (.string (⟨(Lib.decDigits q).toArray⟩ ++ ⟨#[UInt8.ofNat (48 + m)]⟩)) hS_ ?_; refine tk 10 (.string (⟨(Lib.decDigits q).toArray⟩ ++ ⟨#[UInt8.ofNat (48 + m)]⟩)) hS_ ?_
          refine wpAnyH_done qab ?_ _; go_wp2; go_ret; exact ⟨by rw [HD.out]; exact congrArg (fun s => Ending.returned (.string s)) (app_text _ _), HB5.out⟩
        · have hcv := fig_at m hm10 W4 _ C4
          rw [if_pos qad]; go_simp; refine hK_.out _ _ trivial fun hS_ => ?_; clear hK_; refine rd1 2 fun K_ hK_ => ?_; go_simp; go_at_call 71; refine (zlh t q ht qaa _).mono ?_; rintro e_ W8 ⟨rfl, a2⟩; have HB8 := hid (zaa HB4.out a2); have C8 : W8.cell? ⟨V.heap.size, 0, none⟩ = some (.int .u8 (48 + (m : Int))) := (a2.cell (by exact World.block_lt_of_cell? _ _ C4)).trans C4; clear a2; refine hK_.out _ _ trivial fun hS_ => ?_; clear hK_; refine tk 9 (.string (⟨(Lib.decDigits q).toArray⟩ ++ ⟨#[UInt8.ofNat (48 + m)]⟩)) hS_ ?_; refine tk 10 (.string (⟨(Lib.decDigits q).toArray⟩ ++ ⟨#[UInt8.ofNat (48 + m)]⟩)) hS_ ?_
          refine wpAnyH_done qab ?_ _; go_wp2; go_ret; exact ⟨by rw [HD.out]; exact congrArg (fun s => Ending.returned (.string s)) (app_text _ _), HB8.out⟩
theorem ret_int {k : IntKind} {a b : Int} (h : a = b) : Ending.returned (.int k a) = .returned (.int k b) := by rw [h]
def zis (s : Nat) (c : UInt8) : Nat := (s * 31 + c.toNat + 7) % 1000003
def zns (l : List UInt8) : Nat := l.foldl zis 1
theorem sumB_snoc (l : List UInt8) (c : UInt8) : zns (l ++ [c]) = zis (zns l) c := by
  unfold zns; rw [List.foldl_append]; rfl
theorem sumStep_lt (s : Nat) (c : UInt8) : zis s c < 1000003 := Nat.mod_lt _ qan
theorem sumB_lt (l : List UInt8) : zns l < 1000003 := by
  have h : ∀ (l : List UInt8) (s : Nat), s < 1000003 → l.foldl zis s < 1000003 := by
    intro l
    induction l with
    | nil => intro s h; exact h
    | cons c l ih => intro s _; exact ih _ (sumStep_lt s c)
  exact h l 1 qan
theorem sum_step (s : ByteArray) (k S : Nat) (h : k < s.size) (hS : Hid (zns (s.data.toList.take k) = S)) : zns (s.data.toList.take (k + 1)) = zis S s[k] := by
  rw [take_snoc s k h, sumB_snoc, hS.out]
theorem sumStep_int (S : Nat) (c : UInt8) (h : S < 1000003) : (wrap64 (wrap64 ((S : Int) * 31 + wrap64 (c.toNat : Int)) + 7)).tmod 1000003 = ((zis S c : Nat) : Int) := by
  have hc := c.toNat_lt; rw [IntWalk.wrap64_in (c.toNat : Int) qaa, IntWalk.wrap64_in ((S : Int) * 31 + (c.toNat : Int)) qaa, IntWalk.wrap64_in _ qaa, Int.tmod_eq_emod_of_nonneg qaa]; unfold zis; omega
theorem sum_all (s : ByteArray) (k S : Nat) (h : ¬ k < s.size) (hS : Hid (zns (s.data.toList.take k) = S)) : (S : Int) = (zns s.data.toList : Nat) := by
  have h' := hS.out; rw [List.take_of_length_le qah] at h'; rw [h']
theorem ZSum0 {p : Prop} (h : p := by
  obtain ⟨k, S, hk, rfl, rfl, hS1, hrel⟩ := hrel; have HR := hid hrel; clear hrel; by_cases hlt : k < s.size
  · go_wp2
    go_round
    case rel => exact ⟨k + 1, _, by omega, by go_num, congrArg (Value.int .i64) (sumStep_int S s[k] hS1), sumStep_lt _ _, sum_step s k S hlt HR⟩
    case measure => exact qms
  · go_wp2
    go_ret; exact ⟨ret_int (sum_all s k S hlt HR), rfl⟩) : p := h
theorem specSum_any (s : ByteArray) (w : World) (hs : s.size ≤ maxLen) :
    Calls Tryz.prog 103 #[.string s] w fun e w' => e = .returned (.int .i64 (zns s.data.toList : Nat)) ∧ w = w' := by
  unfold maxLen at hs; go_enter Tryz.func103, Tryz.ntmps103; go_wp2; go_loop [3, 4] (fun v i => ∃ k S : Nat, k ≤ s.size ∧ i = .int .i64 k ∧ v = .int .i64 S ∧ S < 1000003 ∧ zns (s.data.toList.take k) = S) (fun _ i => s.size - (intOf i).toNat)
  case atStart => exact ⟨0, 1, Nat.zero_le _, rfl, rfl, by omega, rfl⟩
  case round =>
    exact ZSum0
theorem implSum_any (s : ByteArray) (w : World) (hs : s.size ≤ maxLen) :
    Calls Tryz.prog 48 #[.string s] w fun e w' => e = .returned (.int .i64 (zns s.data.toList : Nat)) ∧ w = w' := by
  unfold maxLen at hs; go_enter Tryz.func48, Tryz.ntmps48; go_wp2; go_loop [3, 4, 7] (fun v _ i => ∃ k S : Nat, k ≤ s.size ∧ i = .int .i64 k ∧ v = .int .i64 S ∧ S < 1000003 ∧ zns (s.data.toList.take k) = S) (fun _ _ i => s.size - (intOf i).toNat)
  case atStart => exact ⟨0, 1, Nat.zero_le _, rfl, rfl, by omega, rfl⟩
  case round =>
    exact ZSum0
def zff (k : Nat) (p : List UInt8) : List UInt8 := Lib.decDigits k ++ [58] ++ p
def zbo (k : Nat) (p : List UInt8) : List UInt8 := zff k p ++ Lib.decDigits (zns (zff k p)) ++ [10]
theorem head_text (k : Nat) (s : ByteArray) : (⟨(Lib.decDigits k).toArray⟩ ++ ⟨#[58]⟩ ++ s : ByteArray) = ⟨(zff k s.data.toList).toArray⟩ := by
  apply ByteArray.ext; simp [ByteArray.data_append, zff]
theorem line_text (h : List UInt8) (q : Nat) : (⟨h.toArray⟩ ++ ⟨(Lib.decDigits q).toArray⟩ ++ ⟨#[10]⟩ : ByteArray) = ⟨(h ++ Lib.decDigits q ++ [10]).toArray⟩ := by
  apply ByteArray.ext; simp [ByteArray.data_append]
theorem l8Line_any (k : Nat) (hk : k ≤ 100000) (s : ByteArray) (hs : s.size ≤ 1000000) (w : World) :
    Calls Tryz.prog 72 #[.int .i64 (k : Int), .string s] w fun e w' => e = .returned (.string ⟨(zbo k s.data.toList).toArray⟩) ∧ Below w.heap.size w w' := by
  have hl := zjb k qaa; go_enter Tryz.func72, Tryz.ntmps72; go_wp2_with fail; refine (zlh (k + 1) k (Nat.lt_succ_self k) qaa _).mono ?_; rintro e w1 ⟨rfl, hb1⟩; have HB1 := hid hb1; clear hb1; have hz1 : (⟨(Lib.decDigits k).toArray⟩ : ByteArray).size ≤ 21 := by show (Lib.decDigits k).toArray.size ≤ _; simpa using hl
  go_wp2_with fail; rw [head_text]; obtain ⟨u, hu⟩ : ∃ u : ByteArray, (⟨(zff k s.data.toList).toArray⟩ : ByteArray) = u := ⟨_, rfl⟩; have a2 : u.data.toList = zff k s.data.toList := by rw [← hu]
  have huz : u.size ≤ 1000022 := by
    show u.data.toList.length ≤ _; rw [a2]; unfold zff; simp only [List.length_append, List.length_cons, List.length_nil]; have : s.data.toList.length = s.size := qag; omega
  rw [hu]; have HU := hid hu; have a4 := hid a2; clear hu a2; refine (specSum_any u _ qaf).mono ?_; rintro e w2 ⟨rfl, rfl⟩; have hs3 := sumB_lt u.data.toList; have a3 := zjb (zns u.data.toList) qaa; obtain ⟨z, hz⟩ : ∃ z, zns u.data.toList = z := ⟨_, rfl⟩; rw [hz] at hs3 a3 ⊢; have HZ := hid hz; clear hz; go_wp2_with fail; refine (zlh (z + 1) z (Nat.lt_succ_self z) qaa _).mono ?_; rintro e w3 ⟨rfl, hb3⟩; have hz3 : (⟨(Lib.decDigits z).toArray⟩ : ByteArray).size ≤ 21 := by show (Lib.decDigits z).toArray.size ≤ _; simpa using a3
  go_wp2; go_ret; refine ⟨?_, zaa HB1.out hb3⟩; rw [← HU.out, line_text]; unfold zbo; rw [← a4.out, HZ.out]; rfl
theorem rowUp {w w' : World} {base size k : Nat} {e : TypeId} {v : Value} {xs : List Value} (h : w.ownsRow base e size v k xs) (hb : Below w.heap.size w w') : w'.ownsRow base e size v k xs :=
  h.kept (row := none) ⟨hb.os, hb.tape, hb.output, hb.size, fun i hi _ => hb.block i hi⟩ (by
    rcases h.2 with ⟨rfl, _⟩ | ⟨g, cap, cur, rfl, _⟩
    · exact .inl rfl
    · exact .inr qcs)
theorem builderUp {T e : TypeId} {B b : Nat} {bs : List Value} {W W' : World} (h : Lib.IsBuilder T e B b bs W) (hb : Below W.heap.size W W') : Lib.IsBuilder T e B b bs W' := by
  rcases h with ⟨h1, v, h2, h3, h4⟩ | ⟨h1, v, h2, h3, h4⟩
  · exact .inl ⟨h1, v, (hb.block b (Array.getElem?_eq_some_iff.1 h2).1).trans h2, rowUp h3 hb, h4⟩
  · exact .inr ⟨h1, v, (hb.block b (Array.getElem?_eq_some_iff.1 h2).1).trans h2, rowUp h3 hb, h4⟩
theorem cells_more {l p : List UInt8} {c : UInt8} {t : ByteArray} (ht : t.data.toList = p) : Lib.byteCells l ++ Lib.strCells (⟨#[c]⟩ ++ t ++ ⟨#[32]⟩) = Lib.byteCells (l ++ (c :: (p ++ [32]))) := by
  rw [Lib.strCells_eq, ← Lib.byteCells_append]; congr 2; simp [ByteArray.data_append, ht]
theorem cells_len (l : List UInt8) : (Lib.byteCells l).length = l.length := by unfold Lib.byteCells; simp
theorem zla (A : Option Addr) (n c : Nat) (B : Option Addr) (m d : Nat) (xs ys : List At) (w : World) (h : IsAtoms w 0 w.heap.size A n c xs) (h' : IsAtoms w 0 w.heap.size B m d ys) :
    Calls Tryz.prog 8 #[.agg #[.slice A n c, .slice B m d]] w (zex (chB xs ys) w) := by
  have LX := hid h.1; have LY := hid h'.1; have HX := hid h; have HY := hid h'; clear h h'; have c0 := zac w (.cells #[.slice A n c, .slice B m d] 25); have X0 := hid (Box.new w (.slice A n c) (.slice B m d) 25); go_enter Tryz.func8, Tryz.ntmps8; go_wp2_with fail; refine (zee A B n c m d xs ys _ (HX.out.up AtomE.stays c0) (HY.out.up AtomE.stays c0)).mono ?_; rintro e w1 ⟨rfl, hb1⟩; have HB1 := zaa c0 hb1; have X1 := hid (X0.out.later hb1); clear hb1 X0
  cases hc : zao xs ys
  · have E := hid (show chB xs ys = [] by unfold chB; rw [hc]; rfl)
    clear hc; go_wp2; go_ret; exact ⟨by rw [E.out]; rfl, HB1⟩
  · have E := hid (show chB xs ys = chL xs ys by unfold chB; rw [hc]; rfl)
    have HC := hid (zbk hc); have g7 : n ≤ 300 := by rw [← LX.out]; exact HC.out.1
    have g6 : m ≤ 300 := by rw [← LY.out]; exact HC.out.2.1
    have PX : Hid (∀ a ∈ xs, (zau a).length ≤ 128) := hid (fun a ha => zcq (HC.out.2.2.1 a ha)); have PY : Hid (∀ a ∈ ys, (zau a).length ≤ 128) := hid (fun a ha => zcq (HC.out.2.2.2 a ha)); clear hc; have b5 := zac w1 (.cells #[.pointer none, .slice none 0 0] 48); have BB := hid (Lib.fresh_isBuilder 48 5 w1); have X2 := hid (X1.out.later b5); obtain ⟨u0, u1, u2⟩ := X2.out; have HB2 := zaa HB1 b5; have hz2 : (w1.alloc (.cells #[.pointer none, .slice none 0 0] 48)).heap.size = w1.heap.size + 1 := qag; obtain ⟨W2, g0⟩ : ∃ W2, w1.alloc (.cells #[.pointer none, .slice none 0 0] 48) = W2 := ⟨_, rfl⟩
    rw [g0] at b5 BB X2 HB2 hz2 u0 u1 u2; have HBB := hid b5; have a3 := hid HB2; have hwz := HB1.size; have hxl : w.heap.size < w1.heap.size := X1.out.1; clear b5 HB2; go_wp2; go_loopw [14] (fun i wr => ∃ k : Nat, k ≤ m ∧ i = .int .i64 (k : Int) ∧ Lib.IsBuilder 48 5 w1.heap.size w1.heap.size (Lib.byteCells (zcf 45 (ys.take k))) wr ∧ Below w1.heap.size W2 wr ∧ w1.heap.size + 1 ≤ wr.heap.size) (fun i _ => m - (intOf i).toNat)
    case atStart => exact ⟨0, Nat.zero_le _, rfl, BB.out, Below.refl _ _, by omega⟩
    case round =>
      obtain ⟨k, hk, rfl, hB, hb, c7⟩ := hrel; have a8 := hid hB; have b9 := zdr 45 ys k PY.out (by rw [LY.out]; exact g6); have b7 : (Lib.byteCells (zcf 45 (ys.take k))).length ≤ 39000 := by rw [cells_len]; exact b9
      have HB := hid hb; have a9 := hid (a3.out.trans (hb.mono qaa)); have b6 := hid b7; clear hB b9 hb b7; by_cases hlt : k < m
      · have c3 : (k : Int) < (m : Int) := qaa
        obtain ⟨p, a, hA, _, _, hg, hE⟩ := (HY.out.below AtomE.stays a9.out (nl _)).at_ hlt; obtain ⟨A', n', c', d1, d2, d3, d4⟩ := hE.out; clear hE; subst hA; have hp := PY.out a (List.mem_of_getElem? hg); have hat := HC.out.2.2.2 a (List.mem_of_getElem? hg); have hpb : zms (a.1, a.2) = zau a := by unfold zms; exact if_pos hat
        have HG := hid hg; have a5 := zac wr (.cells #[.string a.1, .slice A' n' c'] 51); have HT := hid ((d4.keep (w' := wr) (lo' := 0) (hi' := wr.heap.size) (fun _ _ _ => rfl) (nl _) a9.out.size).up a5); have D2 := hid d2; have d9 := hid a5; clear hg d2 d4 hat a5; go_wp2_with fail; refine (zhh a.1 A' n' c' a.2 _ D2.out HT.out).mono ?_; rintro e w3 ⟨rfl, hb3⟩; rw [hpb]; obtain ⟨t, ht⟩ : ∃ t : ByteArray, (⟨(zau a).toArray⟩ : ByteArray) = t := ⟨_, rfl⟩; have htl : t.data.toList = zau a := by rw [← ht]
        have h6 : t.size ≤ 128 := qer; rw [ht]; have e7 := hid htl; have hb4 := zaa d9.out hb3; have g8 := hb4.size; have HB4 := hid (HB.out.trans (hb4.mono qaa)); have a4 := hid (builderUp a8.out hb4); have E5 := hid (zhv (c := 45) HG.out); have b4 : (⟨#[45]⟩ ++ t ++ ⟨#[32]⟩ : ByteArray).size ≤ 130 := by simp only [ByteArray.size_append]; show 1 + t.size + 1 ≤ 130; omega
        have e6 := hid b4; clear hb3 hb4 ht htl d1 d3 hpb b4; go_wp2_with fail; refine (Tryz.Builder_WriteString w1.heap.size w1.heap.size _ _ w3 a4.out (by have := b6.out; have := e6.out; omega) qaa).mono ?_; rintro e w5 ⟨rfl, a7, hb5⟩; have b3 := cells_more (l := zcf 45 (ys.take k)) (c := 45) e7.out; rw [b3, ← E5.out] at a7; have a6 := hid (show Lib.IsBuilder 48 5 w1.heap.size w1.heap.size (Lib.byteCells (zcf 45 (ys.take (k + 1)))) w5 from .inr a7); have HB5 := hid (HB4.out.trans hb5); have hz5 := hb5.size; clear a7 hb5 b3; go_wp2; go_roundw
        case rel => exact ⟨k + 1, by omega, by go_num, a6.out, HB5.out, by omega⟩
        case measure => exact qms
      · have g1 : k = m := qaa
        subst g1; have hkI : ¬ (k : Int) < (k : Int) := qaa; have hys : ys.take k = ys := List.take_of_length_le (by rw [LY.out]; exact nl _); have a2 := hid (by have := a8.out; rw [hys] at this; exact this); have u3 := (HB.out.cell (p := ⟨w.heap.size, 0, none⟩) qaa).trans u1; have u4 := (HB.out.cell (p := ⟨w.heap.size, 1, none⟩) qaa).trans u2; clear hys a8 b6; go_wp2; obtain ⟨W1, g2⟩ : ∃ W1 : World, W1 = wr := ⟨_, rfl⟩; subst g2; go_loopw [27] (fun i wr => ∃ j : Nat, j ≤ n ∧ i = .int .i64 (j : Int) ∧ Lib.IsBuilder 48 5 w1.heap.size w1.heap.size (Lib.byteCells (zcf 45 ys ++ zcf 43 (xs.take j))) wr ∧ Below w1.heap.size W2 wr ∧ w1.heap.size + 1 ≤ wr.heap.size) (fun i _ => n - (intOf i).toNat)
        case atStart => exact ⟨0, Nat.zero_le _, rfl, by have := a2.out; simpa [zcf] using this, HB.out, c7⟩
        case round =>
          clear a2 u3 u4 a9; obtain ⟨j, hj, rfl, hB, hb, g5⟩ := hrel; have a8 := hid hB; have b9 := zdr 43 xs j PX.out (by rw [LX.out]; exact g7); have d7 := zdx 45 ys PY.out; have h4 := LY.out; have b7 : (Lib.byteCells (zcf 45 ys ++ zcf 43 (xs.take j))).length ≤ 78000 := by rw [cells_len, List.length_append]; omega
          have HB3 := hid hb; have a9 := hid (a3.out.trans (hb.mono qaa)); have b6 := hid b7; clear hB b9 d7 h4 hb b7; by_cases hlt2 : j < n
          · have c3 : (j : Int) < (n : Int) := qaa
            obtain ⟨p, a, hA, _, _, hg, hE⟩ := (HX.out.below AtomE.stays a9.out (nl _)).at_ hlt2; obtain ⟨A', n', c', d1, d2, d3, d4⟩ := hE.out; clear hE; subst hA; have hp := PX.out a (List.mem_of_getElem? hg); have hat := HC.out.2.2.1 a (List.mem_of_getElem? hg); have hpb : zms (a.1, a.2) = zau a := by unfold zms; exact if_pos hat
            have HG := hid hg; have a5 := zac wr (.cells #[.string a.1, .slice A' n' c'] 51); have HT := hid ((d4.keep (w' := wr) (lo' := 0) (hi' := wr.heap.size) (fun _ _ _ => rfl) (nl _) a9.out.size).up a5); have D2 := hid d2; have d9 := hid a5; clear hg d2 d4 hat a5; go_wp2_with fail; refine (zhh a.1 A' n' c' a.2 _ D2.out HT.out).mono ?_; rintro e w3 ⟨rfl, hb3⟩; rw [hpb]; obtain ⟨t, ht⟩ : ∃ t : ByteArray, (⟨(zau a).toArray⟩ : ByteArray) = t := ⟨_, rfl⟩; have htl : t.data.toList = zau a := by rw [← ht]
            have h6 : t.size ≤ 128 := qer; rw [ht]; have e7 := hid htl; have hb4 := zaa d9.out hb3; have g8 := hb4.size; have HB4 := hid (HB3.out.trans (hb4.mono qaa)); have a4 := hid (builderUp a8.out hb4); have E5 := hid (zhv (c := 43) HG.out); have b4 : (⟨#[43]⟩ ++ t ++ ⟨#[32]⟩ : ByteArray).size ≤ 130 := by simp only [ByteArray.size_append]; show 1 + t.size + 1 ≤ 130; omega
            have e6 := hid b4; clear hb3 hb4 ht htl d1 d3 hpb b4; go_wp2_with fail; refine (Tryz.Builder_WriteString w1.heap.size w1.heap.size _ _ w3 a4.out (by have := b6.out; have := e6.out; omega) qaa).mono ?_; rintro e w5 ⟨rfl, a7, hb5⟩; have b3 := cells_more (l := zcf 45 ys ++ zcf 43 (xs.take j)) (c := 43) e7.out; rw [b3, List.append_assoc, ← E5.out] at a7; have a6 := hid (show Lib.IsBuilder 48 5 w1.heap.size w1.heap.size (Lib.byteCells (zcf 45 ys ++ zcf 43 (xs.take (j + 1)))) w5 from .inr a7); have HB5 := hid (HB4.out.trans hb5); have hz5 := hb5.size; clear a7 hb5 b3; go_wp2
            go_roundw
            case rel => exact ⟨j + 1, by omega, by go_num, a6.out, HB5.out, by omega⟩
            case measure => exact qms
          · have h5 : j = n := qaa
            subst h5; have hjI : ¬ (j : Int) < (j : Int) := qaa; have e8 : xs.take j = xs := List.take_of_length_le (by rw [LX.out]; exact nl _); have a2 : Hid (Lib.IsBuilder 48 5 w1.heap.size w1.heap.size (Lib.byteCells (chL xs ys)) wr) := hid (by have := a8.out; rw [e8] at this; exact this); clear e8 a8 b6; go_wp2_with fail; by_cases hnil : chL xs ys = []
            · have HN := hid hnil; clear hnil
              refine (Tryz.Builder_String_empty w1.heap.size w1.heap.size wr (by have := a2.out; rw [HN.out] at this; exact this) qaa).mono ?_; rintro e w5 ⟨rfl, hb5⟩; have HB5 := hid ((a3.out.trans (HB3.out.mono qaa)).trans (hb5.mono qaa)); clear hb5; go_wp2; go_ret; exact ⟨by rw [E.out, HN.out]; rfl, HB5.out⟩
            · have HN := hid hnil; clear hnil
              refine (Tryz.Builder_String w1.heap.size w1.heap.size (chL xs ys) wr a2.out HN.out).mono ?_; rintro e w5 ⟨rfl, hb5⟩; have HB5 := hid ((a3.out.trans (HB3.out.mono qaa)).trans (hb5.mono qaa)); clear hb5; go_wp2; go_ret; exact ⟨by rw [E.out]; rfl, HB5.out⟩
theorem below_grow (w : World) (j : Nat) (os : Array Obj) : Below w.heap.size w (Go.Sort.grow (w.drewN j) os) :=
  ⟨rfl, rfl, rfl, by show w.heap.size ≤ (w.heap ++ os).size; rw [Array.size_append]; omega, fun k hk => by show (w.heap ++ os)[k]? = _; rw [Array.getElem?_append_left hk]⟩
theorem znr {P : Program} {w w' : World} {nm : String} {k : IntKind} {zs : List Int} (h : Lib.TabIs P w nm k zs) (hb : Below w.heap.size w w') : Lib.TabIs P w' nm k zs := by
  unfold Lib.TabIs World.var? at h ⊢
  cases hg : P.globalNamed nm with
  | none => simp [hg] at h
  | some g =>
    simp only [hg, Option.bind_some] at h ⊢
    have hlt : g < w.heap.size := by
      rcases Nat.lt_or_ge g w.heap.size with h' | h'
      · exact h'
      · simp [Array.getElem?_eq_none h'] at h
    rw [hb.block g hlt]; exact h
abbrev PowTab (w : World) : Prop := Lib.TabIs Tryz.prog w "internal/strconv.uint64pow10" .u64 Lib.pow10Tab
theorem itoa_any (q : Nat) (hq : q ≤ 9223372036854775807) (w : World) (hT : PowTab w) :
    Calls Tryz.prog 47 #[.int .i64 (q : Int)] w fun e w' => e = .returned (.string ⟨(Lib.decDigits q).toArray⟩) ∧ Below w.heap.size w w' := by
  refine (Tryz.strconv_Itoa (q : Int) qaa qaa w hT).mono ?_; rintro e w' ⟨rfl, j, os, rfl⟩; exact ⟨by rw [Lib.itoa_nonneg], below_grow w j os⟩
def znb (t : Int) (xs ys : List At) : List UInt8 := if zao xs ys = true ∧ 0 ≤ t ∧ t ≤ 100000 then zbo t.toNat (chL xs ys) else []
theorem ch_small {xs ys : List At} (h : zao xs ys = true) : (chL xs ys).length ≤ 80000 := by
  obtain ⟨h1, h2, h3, h4⟩ := zbk h; have e1 := zdx 45 ys (fun a ha => zcq (h4 a ha)); have e2 := zdx 43 xs (fun a ha => zcq (h3 a ha)); unfold chL; rw [List.length_append]; omega
theorem zim (t : Int) (A : Option Addr) (n c : Nat) (B : Option Addr) (m d : Nat) (xs ys : List At) (w : World) (h : IsAtoms w 0 w.heap.size A n c xs) (h' : IsAtoms w 0 w.heap.size B m d ys) :
    Calls Tryz.prog 81 #[.int .i64 t, .agg #[.slice A n c, .slice B m d]] w (zex (znb t xs ys) w) := by
  have LX := hid h.1; have LY := hid h'.1; have HX := hid h; have HY := hid h'; clear h h'; have a2 := zac w (.cells #[.slice A n c, .slice B m d] 25); have X0 := hid (Box.new w (.slice A n c) (.slice B m d) 25); go_enter Tryz.func81, Tryz.ntmps81; go_wp2_with fail; refine (zec A B n c m d xs ys _ (HX.out.up AtomE.stays a2) (HY.out.up AtomE.stays a2)).mono ?_; rintro e w1 ⟨rfl, hb1⟩; have HB1 := zaa a2 hb1; have X1 := hid (X0.out.later hb1); obtain ⟨u0, u1, u2⟩ := X1.out
  clear hb1 X0; cases hc : zao xs ys
  · have E := hid (show znb t xs ys = [] by unfold znb; rw [if_neg (by rw [hc]; simp)])
    clear hc; go_wp2; go_ret; exact ⟨by rw [E.out]; rfl, HB1⟩
  · have a5 := hid hc
    have HC := hid (zbk hc); have HS := hid (ch_small hc); clear hc; go_wp2_with fail; refine (in_any t 0 100000 _).mono ?_; rintro e w2 ⟨rfl, rfl⟩; by_cases hr : 0 ≤ t ∧ t ≤ 100000
    · obtain ⟨a4, a3⟩ := hr
      have E := hid (show znb t xs ys = zbo t.toNat (chL xs ys) from if_pos ⟨a5.out, a4, a3⟩); obtain ⟨k, hk⟩ : ∃ k : Nat, t = (k : Int) := ⟨t.toNat, by omega⟩; subst hk; have e1 : (decide ((0 : Int) ≤ (k : Int)) && decide ((k : Int) ≤ 100000)) = true := by simp [a3]
      go_wp2_with fail; refine (l8Put_any A n c B m d xs ys _ (HX.out.up AtomE.stays HB1) (HY.out.up AtomE.stays HB1) (by rw [← LX.out]; exact HC.out.1) (by rw [← LY.out]; exact HC.out.2.1) (fun a ha => zcq (HC.out.2.2.1 a ha)) (fun a ha => zcq (HC.out.2.2.2 a ha))).mono ?_; rintro e w3 ⟨rfl, hb3⟩; have hz : (⟨(chL xs ys).toArray⟩ : ByteArray).size ≤ 1000000 := by show (chL xs ys).toArray.size ≤ _; have := HS.out; simp; omega
      have HB3 := zaa HB1 hb3; clear hb3; go_wp2_with fail; refine (l8Line_any k qaa _ hz _).mono ?_; rintro e w4 ⟨rfl, hb4⟩; go_wp2; go_ret; exact ⟨by rw [E.out]; rfl, zaa HB3 hb4⟩
    · have E := hid (show znb t xs ys = [] from if_neg (fun e => hr e.2))
      have e1 : (decide ((0 : Int) ≤ t) && decide (t ≤ 100000)) = false := by
        rw [Bool.and_eq_false_iff]; by_cases h0 : 0 ≤ t
        · exact .inr (decide_eq_false (fun e => hr ⟨h0, e⟩))
        · exact .inl (decide_eq_false h0)
      go_wp2; go_ret; exact ⟨by rw [E.out]; rfl, HB1⟩
theorem zfe (t : Int) (A : Option Addr) (n c : Nat) (B : Option Addr) (m d : Nat) (xs ys : List At) (w : World) (h : IsAtoms w 0 w.heap.size A n c xs) (h' : IsAtoms w 0 w.heap.size B m d ys) (hT : PowTab w) :
    Calls Tryz.prog 22 #[.int .i64 t, .agg #[.slice A n c, .slice B m d]] w (zex (znb t xs ys) w) := by
  have HT := hid hT; clear hT; have HX := hid h; have HY := hid h'; clear h h'; have a2 := zac w (.cells #[.slice A n c, .slice B m d] 25); have X0 := hid (Box.new w (.slice A n c) (.slice B m d) 25); go_enter Tryz.func22, Tryz.ntmps22; by_cases hr : 0 ≤ t ∧ t ≤ 100000
  · obtain ⟨a9, b7⟩ := hr
    obtain ⟨k, hk⟩ : ∃ k : Nat, t = (k : Int) := ⟨t.toNat, by omega⟩; subst hk; have a7 : ¬ (k : Int) < 0 := qaa; have b5 : ¬ (100000 : Int) < (k : Int) := qaa; obtain ⟨u0, u1, u2⟩ := X0.out; go_wp2_with fail; refine (zee A B n c m d xs ys _ (HX.out.up AtomE.stays a2) (HY.out.up AtomE.stays a2)).mono ?_; rintro e w1 ⟨rfl, hb1⟩; have HB1 := zaa a2 hb1; have X1 := hid (X0.out.later hb1); clear hb1 X0 u0 u1 u2; obtain ⟨u0, u1, u2⟩ := X1.out; cases hc : zao xs ys
    · have E := hid (show znb (k : Int) xs ys = [] by unfold znb; rw [if_neg (by rw [hc]; simp)])
      clear hc; go_wp2; go_ret; exact ⟨by rw [E.out]; rfl, HB1⟩
    · have E := hid (show znb (k : Int) xs ys = zbo k (chL xs ys) from if_pos ⟨hc, a9, b7⟩)
      have EC := hid (show chB xs ys = chL xs ys by unfold chB; rw [hc]; rfl); have HS := hid (ch_small hc); have hl := zjb k qaa; clear hc; go_wp2_with fail; have hl9 : (Lib.decDigits k).length ≤ 9223372036854775806 := qaa; obtain ⟨V, hV⟩ : ∃ V, w1.drew = V := ⟨_, rfl⟩; have a4 : Below w1.heap.size w1 V := by rw [← hV]; exact (Below.refl _ _).drew
      have HBV := hid (zaa HB1 a4); obtain ⟨x0, x1, x2⟩ := X1.out.later a4; clear a4 u0 u1 u2 X1; refine wp_region_held_drew (S := fun W => W.cell? ⟨w.heap.size, 0, none⟩ = some (.slice A n c) ∧ W.cell? ⟨w.heap.size, 1, none⟩ = some (.slice B m d)) qab qeu ?_; rw [hV]; clear hV; intro hS_; refine tk 0 (.int .i64 (k : Int)) hS_ ?_; refine tk 3 (.agg #[.slice A n c, .slice B m d]) hS_ ?_; refine rd1 1 fun K_ hK_ => ?_; go_simp; go_at_call 47; refine (itoa_any k qaa _ (znr HT.out HBV.out)).mono ?_; rintro e_ w2 ⟨rfl, hb2⟩; have HB2 := hid (zaa HBV.out hb2); have z1 := (hb2.cell (p := ⟨w.heap.size, 0, none⟩) x0).trans x1; have z2 := (hb2.cell (p := ⟨w.heap.size, 1, none⟩) x0).trans x2
      have z0 : w.heap.size < w2.heap.size := Nat.lt_of_lt_of_le x0 hb2.size; clear hb2 x1 x2; refine hK_.out _ _ ⟨z1, z2⟩ fun hS_ => ?_; clear hK_; have b4 : (⟨(Lib.decDigits k).toArray⟩ : ByteArray).size ≤ 21 := by show (Lib.decDigits k).toArray.size ≤ _; simpa using hl
      refine tk 2 (.string (⟨(Lib.decDigits k).toArray⟩ ++ ⟨#[58]⟩)) hS_ ?_; refine rd1 4 fun K_ hK_ => ?_; go_simp; go_at_call 8; refine (zla A n c B m d xs ys _ (HX.out.up AtomE.stays HB2.out) (HY.out.up AtomE.stays HB2.out)).mono ?_; rintro e_ w3 ⟨rfl, hb3⟩; rw [EC.out]; have HB3 := hid (zaa HB2.out hb3); have y1 := (hb3.cell (p := ⟨w.heap.size, 0, none⟩) z0).trans z1; have y2 := (hb3.cell (p := ⟨w.heap.size, 1, none⟩) z0).trans z2; clear hb3; refine hK_.out _ _ ⟨y1, y2⟩ fun hS_ => ?_; clear hK_; have hz2 : (⟨(chL xs ys).toArray⟩ : ByteArray).size ≤ 80000 := by show (chL xs ys).toArray.size ≤ _; simpa using HS.out
      obtain ⟨u, hu⟩ : ∃ u : ByteArray, (⟨(zff k (chL xs ys)).toArray⟩ : ByteArray) = u := ⟨_, rfl⟩; have b3 : (⟨(Lib.decDigits k).toArray⟩ ++ ⟨#[58]⟩ ++ ⟨(chL xs ys).toArray⟩ : ByteArray) = u := by rw [head_text, ← hu]
      have a5 : u.data.toList = zff k (chL xs ys) := by rw [← hu]
      have huz : u.size ≤ 80022 := by
        show u.data.toList.length ≤ _; rw [a5]; unfold zff; simp only [List.length_append, List.length_cons, List.length_nil]; have := HS.out; omega
      have a3 : (Lib.decDigits k).length + 1 + (chL xs ys).length ≤ 9223372036854775807 := by have := HS.out; omega
      have HU := hid hu; have b6 := hid a5; clear hu a5; refine tk 5 (.string u) hS_ ?_; refine tk 6 (.string u) hS_ ?_; refine wpAnyH_done qab ?_ _; clear hS_ y1 y2 z0 z1 z2 x0 b4 hz2 b3 a3; go_wp2_with fail; refine (implSum_any u _ qaf).mono ?_; rintro e_ w5 ⟨rfl, rfl⟩; have hs3 := sumB_lt u.data.toList; have a8 := zjb (zns u.data.toList) qaa; obtain ⟨z, hz⟩ : ∃ z, zns u.data.toList = z := ⟨_, rfl⟩; rw [hz] at hs3 a8 ⊢; have HZ := hid hz; clear hz; go_wp2_with fail; refine (itoa_any z qaa _ (znr HT.out HB3.out)).mono ?_; rintro e_ w6 ⟨rfl, a6⟩; have HB6 := hid (zaa HB3.out a6); clear a6; have hz3 : (⟨(Lib.decDigits z).toArray⟩ : ByteArray).size ≤ 21 := by show (Lib.decDigits z).toArray.size ≤ _; simpa using a8
      go_wp2; go_ret; refine ⟨?_, HB6.out⟩; rw [E.out, ← HU.out, line_text]; unfold zbo; rw [← b6.out, HZ.out]; rfl
  · have E := hid (show znb t xs ys = [] from if_neg (fun e => hr e.2))
    by_cases h0 : 0 ≤ t
    · have a7 : ¬ t < 0 := qaa
      have b5 : (100000 : Int) < t := Int.lt_of_not_ge (fun e => hr ⟨h0, e⟩); go_wp2; go_ret; exact ⟨by rw [E.out]; rfl, a2⟩
    · have a7 : t < 0 := qaa
      go_wp2; go_ret; exact ⟨by rw [E.out]; rfl, a2⟩
end Go.Proofs.YtogonjkklioaaaaGreatDoor
