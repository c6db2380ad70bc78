/-
  Texts of one claim, put together.
-/
import Derived.Test.YtogonjkklioaaaaGreatDoorLg21
import Derived.Test.YtogonjkklioaaaaGreatDoorLg17
set_option maxRecDepth 100000
set_option maxHeartbeats 8000000
namespace Go.Proofs.YtogonjkklioaaaaGreatDoor
open Go.RowKit
def zcf (c : UInt8) (xs : List At) : List UInt8 := xs.flatMap fun a => c :: (zau a ++ [32])
def chL (xs ys : List At) : List UInt8 := zcf 45 ys ++ zcf 43 xs
theorem zhv {c : UInt8} {xs : List At} {k : Nat} {a : At} (h : xs[k]? = some a) : zcf c (xs.take (k + 1)) = zcf c (xs.take k) ++ (c :: (zau a ++ [32])) := by
  unfold zcf; rw [List.take_add_one, h, List.flatMap_append]; simp
theorem zdx (c : UInt8) : ∀ (xs : List At), (∀ a ∈ xs, (zau a).length ≤ 128) → (zcf c xs).length ≤ 130 * xs.length
  | [], _ => by simp [zcf]
  | a :: xs, h => by
    have h1 := zdx c xs (fun b hb => h b (List.mem_cons_of_mem _ hb)); have h2 := h a (List.mem_cons_self ..); unfold zcf at h1 ⊢; rw [List.flatMap_cons, List.length_append, List.length_cons, List.length_cons, List.length_append]; simp only [List.length_cons, List.length_nil]; omega
theorem zdr (c : UInt8) (xs : List At) (k : Nat) (h : ∀ a ∈ xs, (zau a).length ≤ 128) (hl : xs.length ≤ 300) : (zcf c (xs.take k)).length ≤ 39000 := by
  have h1 := zdx c (xs.take k) (fun a ha => h a (List.mem_of_mem_take ha)); have h2 : (xs.take k).length ≤ xs.length := by rw [List.length_take]; exact Nat.min_le_right _ _
  omega
theorem text_more {s t : ByteArray} {l : List UInt8} {p : List UInt8} {c : UInt8} (hs : s.data.toList = l) (ht : t.data.toList = p) : (s ++ ⟨#[c]⟩ ++ t ++ ⟨#[32]⟩).data.toList = l ++ (c :: (p ++ [32])) := by
  simp [ByteArray.data_append, hs, ht]
theorem l8Put_any (A : Option Addr) (n c : Nat) (B : Option Addr) (m d : Nat) (xs ys : List At) (w : World) (h : IsAtoms w 0 w.heap.size A n c xs) (h' : IsAtoms w 0 w.heap.size B m d ys) (hn : n ≤ 300) (hm : m ≤ 300) (hx : ∀ a ∈ xs, (zau a).length ≤ 128) (hy : ∀ a ∈ ys, (zau a).length ≤ 128) :
    Calls Tryz.prog 33 #[.agg #[.slice A n c, .slice B m d]] w (zex (chL xs ys) w) := by
  have LX := hid h.1; have LY := hid h'.1; have HX := hid h; have HY := hid h'; have PX := hid hx; have PY := hid hy; clear h h' hx hy; have a4 := zac w (.cells #[.slice A n c, .slice B m d] 25); have c0 : (w.alloc (.cells #[.slice A n c, .slice B m d] 25)).cell? ⟨w.heap.size, 0, none⟩ = some (.slice A n c) := qev; have c1 : (w.alloc (.cells #[.slice A n c, .slice B m d] 25)).cell? ⟨w.heap.size, 1, none⟩ = some (.slice B m d) := qev; have b7 : (w.alloc (.cells #[.slice A n c, .slice B m d] 25)).heap.size = w.heap.size + 1 := qag
  obtain ⟨W0, b9⟩ : ∃ W0, w.alloc (.cells #[.slice A n c, .slice B m d] 25) = W0 := ⟨_, rfl⟩; rw [b9] at a4 c0 c1 b7; have C0 := hid c0; have C1 := hid c1; have a7 := hid a4; clear c0 c1 a4; go_enter Tryz.func33, Tryz.ntmps33; go_wp2; go_loopw [3, 4] (fun x i wr => ∃ (k : Nat) (s : ByteArray), k ≤ m ∧ i = .int .i64 (k : Int) ∧ x = .string s ∧ s.data.toList = zcf 45 (ys.take k) ∧ Below (w.heap.size + 1) W0 wr) (fun _ i _ => m - (intOf i).toNat)
  case atStart => exact ⟨0, _, Nat.zero_le _, rfl, rfl, by simp [zcf], Below.refl _ _⟩
  case round =>
    obtain ⟨k, s, hk, rfl, rfl, hs, hb⟩ := hrel; have a3 := zdr 45 ys k PY.out (by rw [LY.out]; exact hm); rw [← hs] at a3; have hsz : s.size ≤ 39000 := a3; have HS := hid hs; have c0 := (hb.cell (p := ⟨w.heap.size, 0, none⟩) qag).trans C0.out; have c1 := (hb.cell (p := ⟨w.heap.size, 1, none⟩) qag).trans C1.out; have HB := hid hb; have hbz := hb.size; have b3 := hid (a7.out.trans (hb.mono qaa)); clear hs a3 hb; by_cases hlt : k < m
    · have d7 : (k : Int) < (m : Int) := qaa
      obtain ⟨p, a, hA, _, _, hg, hE⟩ := (HY.out.below AtomE.stays b3.out (nl _)).at_ hlt; obtain ⟨A', n', c', d1, d2, d3, d4⟩ := hE.out; clear hE; subst hA; have hp := PY.out a (List.mem_of_getElem? hg); have HG := hid hg; have HT := hid (show IsTerms wr 0 wr.heap.size A' n' c' a.2 from d4.keep (fun _ _ _ => rfl) (nl _) b3.out.size); clear hg d2 d4; go_wp2_with fail; refine (zoy a.1 A' n' c' a.2 _ HT.out (Nat.le_trans hp qan)).mono ?_; rintro e w1 ⟨rfl, hb1⟩; obtain ⟨t, ht⟩ : ∃ t : ByteArray, (⟨(zau (a.1, a.2)).toArray⟩ : ByteArray) = t := ⟨_, rfl⟩; have htl : t.data.toList = zau a := by rw [← ht]
      have d9 : t.size ≤ 128 := qer; rw [ht]; have a6 := hid htl; have HB1 := hid (HB.out.trans (hb1.mono qaa)); have E := hid (zhv (c := 45) HG.out); clear hb1 ht htl c0 c1 d1 d3; go_wp2; go_roundw
      case rel => exact ⟨k + 1, _, by omega, by go_num, rfl, by rw [E.out]; exact text_more HS.out a6.out, HB1.out⟩
      case measure => exact qms
    · have b5 : k = m := qaa
      subst b5; have hkI : ¬ (k : Int) < (k : Int) := qaa; have hys : ys.take k = ys := List.take_of_length_le (by rw [LY.out]; exact nl _); have a9 : Hid (s.data.toList = zcf 45 ys) := hid (by rw [HS.out, hys]); clear hys; go_wp2; obtain ⟨W1, b6⟩ : ∃ W1 : World, W1 = wr := ⟨_, rfl⟩; subst b6; go_loopw [3, 5] (fun x i wr => ∃ (j : Nat) (s : ByteArray), j ≤ n ∧ i = .int .i64 (j : Int) ∧ x = .string s ∧ s.data.toList = zcf 45 ys ++ zcf 43 (xs.take j) ∧ Below (w.heap.size + 1) W0 wr) (fun _ i _ => n - (intOf i).toNat)
      case atStart => exact ⟨0, _, Nat.zero_le _, rfl, rfl, by rw [a9.out]; simp [zcf], HB.out⟩
      case round =>
        clear HS a9 c0 c1; obtain ⟨j, s, hj, rfl, rfl, hs, hb⟩ := hrel; have a3 := zdr 43 xs j PX.out (by rw [LX.out]; exact hn); have a5 := zdx 45 ys PY.out; have hlen : s.data.toList.length = (zcf 45 ys).length + (zcf 43 (xs.take j)).length := by rw [hs, List.length_append]
        have c3 := LY.out; have e6 : s.size ≤ 80000 := by show s.data.toList.length ≤ _; omega
        have HS := hid hs; have c0 := (hb.cell (p := ⟨w.heap.size, 0, none⟩) qag).trans C0.out; have c1 := (hb.cell (p := ⟨w.heap.size, 1, none⟩) qag).trans C1.out; have HB2 := hid hb; have e7 := hb.size; have a2 := hid (a7.out.trans (hb.mono qaa)); clear hs a3 a5 hlen c3 hb; by_cases hlt2 : j < n
        · have b4 : (j : Int) < (n : Int) := qaa
          obtain ⟨p, a, hA, _, _, hg, hE⟩ := (HX.out.below AtomE.stays a2.out (nl _)).at_ hlt2; obtain ⟨A', n', c', d1, d2, d3, d4⟩ := hE.out; clear hE; subst hA; have hp := PX.out a (List.mem_of_getElem? hg); have HG := hid hg; have HT := hid (show IsTerms wr 0 wr.heap.size A' n' c' a.2 from d4.keep (fun _ _ _ => rfl) (nl _) a2.out.size); clear hg d2 d4; go_wp2_with fail; refine (zoy a.1 A' n' c' a.2 _ HT.out (Nat.le_trans hp qan)).mono ?_; rintro e w1 ⟨rfl, hb1⟩; obtain ⟨t, ht⟩ : ∃ t : ByteArray, (⟨(zau (a.1, a.2)).toArray⟩ : ByteArray) = t := ⟨_, rfl⟩; have htl : t.data.toList = zau a := by rw [← ht]
          have d9 : t.size ≤ 128 := qer; rw [ht]; have a6 := hid htl; have HB1 := hid (HB2.out.trans (hb1.mono qaa)); have E := hid (zhv (c := 43) HG.out); clear hb1 ht htl c0 c1 d1 d3; go_wp2; go_roundw
          case rel => exact ⟨j + 1, _, by omega, by go_num, rfl, by rw [E.out, ← List.append_assoc]; exact text_more HS.out a6.out, HB1.out⟩
          case measure => exact qms
        · have c7 : j = n := qaa
          subst c7; have hjI : ¬ (j : Int) < (j : Int) := qaa; have a8 : xs.take j = xs := List.take_of_length_le (by rw [LX.out]; exact nl _)
          have E : s = ⟨(chL xs ys).toArray⟩ := by
            have h1 := HS.out; rw [a8] at h1; apply ByteArray.ext; apply Array.toList_inj.1; rw [h1]; rfl
          have HE := hid E; clear a8 E; go_wp2; go_ret; exact ⟨congrArg (fun t => Ending.returned (.string t)) HE.out, a2.out⟩
def chB (xs ys : List At) : List UInt8 := if zao xs ys = true then chL xs ys else []
theorem zbk {xs ys : List At} (h : zao xs ys = true) : xs.length ≤ 300 ∧ ys.length ≤ 300 ∧ (∀ a ∈ xs, zax a = true) ∧ ∀ a ∈ ys, zax a = true := by
  unfold zao zag at h; simp only [Bool.and_eq_true, decide_eq_true_eq, List.all_eq_true] at h; obtain ⟨⟨⟨⟨h1, _⟩, h2⟩, ⟨h3, _⟩, h4⟩, _⟩ := h; have f : ∀ a, zby a = true → zax a = true := fun a h => by unfold zby at h; simp only [Bool.and_eq_true] at h; exact h.2
  exact ⟨h2, h4, fun a ha => f a (h1 a ha), fun a ha => f a (h3 a ha)⟩
theorem zcq {a : At} (h : zax a = true) : (zau a).length ≤ 128 := Nat.le_trans (zmw h) qan
theorem zkn (A : Option Addr) (n c : Nat) (B : Option Addr) (m d : Nat) (xs ys : List At) (w : World) (h : IsAtoms w 0 w.heap.size A n c xs) (h' : IsAtoms w 0 w.heap.size B m d ys) :
    Calls Tryz.prog 10 #[.agg #[.slice A n c, .slice B m d]] w (zex (chB xs ys) w) := by
  have LX := hid h.1; have LY := hid h'.1; have HX := hid h; have HY := hid h'; clear h h'; have a2 := zac w (.cells #[.slice A n c, .slice B m d] 25); have X0 := hid (Box.new w (.slice A n c) (.slice B m d) 25); go_enter Tryz.func10, Tryz.ntmps10; go_wp2_with fail; refine (zec A B n c m d xs ys _ (HX.out.up AtomE.stays a2) (HY.out.up AtomE.stays a2)).mono ?_; rintro e w1 ⟨rfl, hb1⟩; have HB1 := zaa a2 hb1; have X1 := hid (X0.out.later hb1); obtain ⟨u0, u1, u2⟩ := X1.out
  clear hb1 X0; cases hc : zao xs ys
  · have E := hid (show chB xs ys = [] by unfold chB; rw [hc]; rfl)
    clear hc; go_wp2; go_ret; exact ⟨by rw [E.out]; rfl, HB1⟩
  · have E := hid (show chB xs ys = chL xs ys by unfold chB; rw [hc]; rfl)
    have HC := hid (zbk hc); clear hc; go_wp2_with fail; refine (l8Put_any A n c B m d xs ys w1 (HX.out.up AtomE.stays HB1) (HY.out.up AtomE.stays HB1) (by rw [← LX.out]; exact HC.out.1) (by rw [← LY.out]; exact HC.out.2.1) (fun a ha => zcq (HC.out.2.2.1 a ha)) (fun a ha => zcq (HC.out.2.2.2 a ha))).mono ?_; rintro e w2 ⟨rfl, hb2⟩; have HB2 := zaa HB1 hb2; clear hb2; go_wp2; go_ret; exact ⟨by rw [E.out]; rfl, HB2⟩
end Go.Proofs.YtogonjkklioaaaaGreatDoor
