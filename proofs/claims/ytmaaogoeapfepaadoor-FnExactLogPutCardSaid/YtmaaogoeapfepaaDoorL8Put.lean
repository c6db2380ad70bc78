/-
  A change as a text, in the model.
-/
import Derived.Test.YtmaaogoeapfepaaDoorPut2
namespace Go.Proofs.YtmaaogoeapfepaaDoor
open Go.RowKit

/-- Atoms, each behind a sign and ahead of a blank. -/
def signL (c : UInt8) (xs : List At) : List UInt8 := xs.flatMap fun a => c :: (textL a ++ [32])
/-- A change's text: what goes, what comes. -/
def chL (xs ys : List At) : List UInt8 := signL 45 ys ++ signL 43 xs

theorem signL_step {c : UInt8} {xs : List At} {k : Nat} {a : At} (h : xs[k]? = some a) : signL c (xs.take (k + 1)) = signL c (xs.take k) ++ (c :: (textL a ++ [32])) := by
  unfold signL; rw [List.take_add_one, h, List.flatMap_append]; simp

theorem signL_len (c : UInt8) : ∀ (xs : List At), (∀ a ∈ xs, (textL a).length ≤ 128) → (signL c xs).length ≤ 130 * xs.length
  | [], _ => by simp [signL]
  | a :: xs, h => by
    have h1 := signL_len c xs (fun b hb => h b (List.mem_cons_of_mem _ hb))
    have h2 := h a (List.mem_cons_self ..)
    unfold signL at h1 ⊢
    rw [List.flatMap_cons, List.length_append, List.length_cons, List.length_cons, List.length_append]
    simp only [List.length_cons, List.length_nil]
    omega

theorem signL_take_len (c : UInt8) (xs : List At) (k : Nat) (h : ∀ a ∈ xs, (textL a).length ≤ 128) (hl : xs.length ≤ 300) : (signL c (xs.take k)).length ≤ 39000 := by
  have h1 := signL_len c (xs.take k) (fun a ha => h a (List.mem_of_mem_take ha))
  have h2 : (xs.take k).length ≤ xs.length := by rw [List.length_take]; exact Nat.min_le_right _ _
  omega

/-- A text, one more behind it. -/
theorem text_more {s t : ByteArray} {l : List UInt8} {p : List UInt8} {c : UInt8} (hs : s.data.toList = l) (ht : t.data.toList = p) : (s ++ ⟨#[c]⟩ ++ t ++ ⟨#[32]⟩).data.toList = l ++ (c :: (p ++ [32])) := by
  simp [ByteArray.data_append, hs, ht]

set_option maxRecDepth 100000 in
set_option maxHeartbeats 4000000 in
theorem l8Put_any (A : Option Addr) (n c : Nat) (B : Option Addr) (m d : Nat) (xs ys : List At) (w : World) (h : IsAtoms w 0 w.heap.size A n c xs) (h' : IsAtoms w 0 w.heap.size B m d ys) (hn : n ≤ 300) (hm : m ≤ 300) (hx : ∀ a ∈ xs, (textL a).length ≤ 128) (hy : ∀ a ∈ ys, (textL a).length ≤ 128) :
    Calls Tryd.prog 58 #[.agg #[.slice A n c, .slice B m d]] w (StrPost (chL xs ys) w) := by
  have LX := Lib.hid h.1; have LY := Lib.hid h'.1
  have HX := Lib.hid h; have HY := Lib.hid h'; have PX := Lib.hid hx; have PY := Lib.hid hy
  clear h h' hx hy
  have hb0 := below1 w (.cells #[.slice A n c, .slice B m d] 29)
  have c0 : (w.alloc (.cells #[.slice A n c, .slice B m d] 29)).cell? ⟨w.heap.size, 0, none⟩ = some (.slice A n c) := by simp [go_sem]
  have c1 : (w.alloc (.cells #[.slice A n c, .slice B m d] 29)).cell? ⟨w.heap.size, 1, none⟩ = some (.slice B m d) := by simp [go_sem]
  have hz0 : (w.alloc (.cells #[.slice A n c, .slice B m d] 29)).heap.size = w.heap.size + 1 := by simp
  obtain ⟨W0, hW0⟩ : ∃ W0, w.alloc (.cells #[.slice A n c, .slice B m d] 29) = W0 := ⟨_, rfl⟩
  rw [hW0] at hb0 c0 c1 hz0
  have C0 := Lib.hid c0; have C1 := Lib.hid c1; have HB0 := Lib.hid hb0
  clear c0 c1 hb0
  go_enter Tryd.func58, Tryd.ntmps58
  go_wp2
  go_loopw [3, 4] (fun x i wr => ∃ (k : Nat) (s : ByteArray), k ≤ m ∧ i = .int .i64 (k : Int) ∧ x = .string s ∧ s.data.toList = signL 45 (ys.take k) ∧ Below (w.heap.size + 1) W0 wr) (fun _ i _ => m - (intOf i).toNat)
  case atStart => exact ⟨0, _, Nat.zero_le _, rfl, rfl, by simp [signL], Below.refl _ _⟩
  case round =>
    obtain ⟨k, s, hk, rfl, rfl, hs, hb⟩ := hrel
    have hsl := signL_take_len 45 ys k PY.out (by rw [LY.out]; exact hm)
    rw [← hs] at hsl
    have hsz : s.size ≤ 39000 := hsl
    have HS := Lib.hid hs
    have c0 := (hb.cell (p := ⟨w.heap.size, 0, none⟩) (by simp)).trans C0.out
    have c1 := (hb.cell (p := ⟨w.heap.size, 1, none⟩) (by simp)).trans C1.out
    have HB := Lib.hid hb
    have hbz := hb.size
    have HBW := Lib.hid (HB0.out.trans (hb.mono (by omega)))
    clear hs hsl hb
    by_cases hlt : k < m
    · have hltI : (k : Int) < (m : Int) := by omega
      obtain ⟨p, a, hA, _, _, hg, hE⟩ := (HY.out.below AtomE.stays HBW.out (Nat.le_refl _)).at_ hlt
      obtain ⟨A', n', c', d1, d2, d3, d4⟩ := hE.out
      clear hE
      subst hA
      have hp := PY.out a (List.mem_of_getElem? hg)
      have HG := Lib.hid hg
      have HT := Lib.hid (show IsTerms wr 0 wr.heap.size A' n' c' a.2 from d4.keep (fun _ _ _ => rfl) (Nat.le_refl _) HBW.out.size)
      clear hg d2 d4
      go_wp2_with fail
      refine (l1Put_any a.1 A' n' c' a.2 _ HT.out (Nat.le_trans hp (by decide))).mono ?_; rintro e w1 ⟨rfl, hb1⟩
      obtain ⟨t, ht⟩ : ∃ t : ByteArray, (⟨(textL (a.1, a.2)).toArray⟩ : ByteArray) = t := ⟨_, rfl⟩
      have htl : t.data.toList = textL a := by rw [← ht]
      have hts : t.size ≤ 128 := by rw [← htl] at hp; exact hp
      rw [ht]
      have HTL := Lib.hid htl
      have HB1 := Lib.hid (HB.out.trans (hb1.mono (by omega)))
      have E := Lib.hid (signL_step (c := 45) HG.out)
      clear hb1 ht htl c0 c1 d1 d3
      go_wp2
      go_roundw
      case rel => exact ⟨k + 1, _, by omega, by go_num, rfl, by rw [E.out]; exact text_more HS.out HTL.out, HB1.out⟩
      case measure => simp [intOf]; omega
    · have hkm : k = m := by omega
      subst hkm
      have hkI : ¬ (k : Int) < (k : Int) := by omega
      have hys : ys.take k = ys := List.take_of_length_le (by rw [LY.out]; exact Nat.le_refl _)
      have HS2 : Hid (s.data.toList = signL 45 ys) := Lib.hid (by rw [HS.out, hys])
      clear hys
      go_wp2
      obtain ⟨W1, hW1⟩ : ∃ W1 : World, W1 = wr := ⟨_, rfl⟩
      subst hW1
      go_loopw [3, 5] (fun x i wr => ∃ (j : Nat) (s : ByteArray), j ≤ n ∧ i = .int .i64 (j : Int) ∧ x = .string s ∧ s.data.toList = signL 45 ys ++ signL 43 (xs.take j) ∧ Below (w.heap.size + 1) W0 wr) (fun _ i _ => n - (intOf i).toNat)
      case atStart => exact ⟨0, _, Nat.zero_le _, rfl, rfl, by rw [HS2.out]; simp [signL], HB.out⟩
      case round =>
        clear HS HS2 c0 c1
        obtain ⟨j, s, hj, rfl, rfl, hs, hb⟩ := hrel
        have hsl := signL_take_len 43 xs j PX.out (by rw [LX.out]; exact hn)
        have hsl2 := signL_len 45 ys PY.out
        have hlen : s.data.toList.length = (signL 45 ys).length + (signL 43 (xs.take j)).length := by rw [hs, List.length_append]
        have hly := LY.out
        have hsz2 : s.size ≤ 80000 := by show s.data.toList.length ≤ _; omega
        have HS := Lib.hid hs
        have c0 := (hb.cell (p := ⟨w.heap.size, 0, none⟩) (by simp)).trans C0.out
        have c1 := (hb.cell (p := ⟨w.heap.size, 1, none⟩) (by simp)).trans C1.out
        have HB2 := Lib.hid hb
        have hbz2 := hb.size
        have HBW2 := Lib.hid (HB0.out.trans (hb.mono (by omega)))
        clear hs hsl hsl2 hlen hly hb
        by_cases hlt2 : j < n
        · have hltI2 : (j : Int) < (n : Int) := by omega
          obtain ⟨p, a, hA, _, _, hg, hE⟩ := (HX.out.below AtomE.stays HBW2.out (Nat.le_refl _)).at_ hlt2
          obtain ⟨A', n', c', d1, d2, d3, d4⟩ := hE.out
          clear hE
          subst hA
          have hp := PX.out a (List.mem_of_getElem? hg)
          have HG := Lib.hid hg
          have HT := Lib.hid (show IsTerms wr 0 wr.heap.size A' n' c' a.2 from d4.keep (fun _ _ _ => rfl) (Nat.le_refl _) HBW2.out.size)
          clear hg d2 d4
          go_wp2_with fail
          refine (l1Put_any a.1 A' n' c' a.2 _ HT.out (Nat.le_trans hp (by decide))).mono ?_; rintro e w1 ⟨rfl, hb1⟩
          obtain ⟨t, ht⟩ : ∃ t : ByteArray, (⟨(textL (a.1, a.2)).toArray⟩ : ByteArray) = t := ⟨_, rfl⟩
          have htl : t.data.toList = textL a := by rw [← ht]
          have hts : t.size ≤ 128 := by rw [← htl] at hp; exact hp
          rw [ht]
          have HTL := Lib.hid htl
          have HB1 := Lib.hid (HB2.out.trans (hb1.mono (by omega)))
          have E := Lib.hid (signL_step (c := 43) HG.out)
          clear hb1 ht htl c0 c1 d1 d3
          go_wp2
          go_roundw
          case rel => exact ⟨j + 1, _, by omega, by go_num, rfl, by rw [E.out, ← List.append_assoc]; exact text_more HS.out HTL.out, HB1.out⟩
          case measure => simp [intOf]; omega
        · have hjn : j = n := by omega
          subst hjn
          have hjI : ¬ (j : Int) < (j : Int) := by omega
          have hxs : xs.take j = xs := List.take_of_length_le (by rw [LX.out]; exact Nat.le_refl _)
          have E : s = ⟨(chL xs ys).toArray⟩ := by
            have h1 := HS.out
            rw [hxs] at h1
            apply ByteArray.ext
            apply Array.toList_inj.1
            rw [h1]
            rfl
          have HE := Lib.hid E
          clear hxs E
          go_wp2
          go_ret
          exact ⟨congrArg (fun t => Ending.returned (.string t)) HE.out, HBW2.out⟩

end Go.Proofs.YtmaaogoeapfepaaDoor
