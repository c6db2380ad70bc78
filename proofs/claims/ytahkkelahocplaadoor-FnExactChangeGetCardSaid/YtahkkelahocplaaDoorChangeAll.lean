/-
  Texts of one claim, put together.
-/
import Derived.Test.YtahkkelahocplaaDoorPut2
import Derived.Test.YtahkkelahocplaaDoorChOkAll
import Derived.Test.YtahkkelahocplaaDoorGetAll
import Derived.Test.YtahkkelahocplaaDoorRule
import Derived.Test.YtahkkelahocplaaDoorShelf4
import Derived.Test.YtahkkelahocplaaDoorDraw
import Derived.Deep.RegionHeld3
import Derived.Test.YtahkkelahocplaaDoorRKeep
import Derived.Test.YtahkkelahocplaaDoorMarkAll
import Derived.Test.YtahkkelahocplaaDoorOwn2
namespace Go.Proofs.YtahkkelahocplaaDoor
open Go.RowKit

/-- Atoms, each behind a sign and ahead of a blank. -/
def signL (c : UInt8) (xs : List At) : List UInt8 := xs.flatMap fun a => c :: (textL a ++ [32])
/-- A change's text: what goes, what comes. -/
def chL (xs ys : List At) : List UInt8 := signL 45 ys ++ signL 43 xs

theorem signL_step {c : UInt8} {xs : List At} {k : Nat} {a : At} (h : xs[k]? = some a) : signL c (xs.take (k + 1)) = signL c (xs.take k) ++ (c :: (textL a ++ [32])) := by
  unfold signL; rw [List.take_add_one, h, List.flatMap_append]; simp

theorem signL_len (c : UInt8) : ∀ (xs : List At), (∀ a ∈ xs, (textL a).length ≤ 128) → (signL c xs).length ≤ 130 * xs.length
  | [], _ => by simp [signL]
  | a :: xs, h => by
    have h1 := signL_len c xs (fun b hb => h b (List.mem_cons_of_mem _ hb))
    have h2 := h a (List.mem_cons_self ..)
    unfold signL at h1 ⊢
    rw [List.flatMap_cons, List.length_append, List.length_cons, List.length_cons, List.length_append]
    simp only [List.length_cons, List.length_nil]
    omega

theorem signL_take_len (c : UInt8) (xs : List At) (k : Nat) (h : ∀ a ∈ xs, (textL a).length ≤ 128) (hl : xs.length ≤ 300) : (signL c (xs.take k)).length ≤ 39000 := by
  have h1 := signL_len c (xs.take k) (fun a ha => h a (List.mem_of_mem_take ha))
  have h2 : (xs.take k).length ≤ xs.length := by rw [List.length_take]; exact Nat.min_le_right _ _
  omega

/-- A text, one more behind it. -/
theorem text_more {s t : ByteArray} {l : List UInt8} {p : List UInt8} {c : UInt8} (hs : s.data.toList = l) (ht : t.data.toList = p) : (s ++ ⟨#[c]⟩ ++ t ++ ⟨#[32]⟩).data.toList = l ++ (c :: (p ++ [32])) := by
  simp [ByteArray.data_append, hs, ht]

set_option maxRecDepth 100000 in
set_option maxHeartbeats 4000000 in
theorem l8Put_any (A : Option Addr) (n c : Nat) (B : Option Addr) (m d : Nat) (xs ys : List At) (w : World) (h : IsAtoms w 0 w.heap.size A n c xs) (h' : IsAtoms w 0 w.heap.size B m d ys) (hn : n ≤ 300) (hm : m ≤ 300) (hx : ∀ a ∈ xs, (textL a).length ≤ 128) (hy : ∀ a ∈ ys, (textL a).length ≤ 128) :
    Calls Tryd.prog 113 #[.agg #[.slice A n c, .slice B m d]] w (StrPost (chL xs ys) w) := by
  have LX := Lib.hid h.1; have LY := Lib.hid h'.1
  have HX := Lib.hid h; have HY := Lib.hid h'; have PX := Lib.hid hx; have PY := Lib.hid hy
  clear h h' hx hy
  have hb0 := below1 w (.cells #[.slice A n c, .slice B m d] 54)
  have c0 : (w.alloc (.cells #[.slice A n c, .slice B m d] 54)).cell? ⟨w.heap.size, 0, none⟩ = some (.slice A n c) := by simp [go_sem]
  have c1 : (w.alloc (.cells #[.slice A n c, .slice B m d] 54)).cell? ⟨w.heap.size, 1, none⟩ = some (.slice B m d) := by simp [go_sem]
  have hz0 : (w.alloc (.cells #[.slice A n c, .slice B m d] 54)).heap.size = w.heap.size + 1 := by simp
  obtain ⟨W0, hW0⟩ : ∃ W0, w.alloc (.cells #[.slice A n c, .slice B m d] 54) = W0 := ⟨_, rfl⟩
  rw [hW0] at hb0 c0 c1 hz0
  have C0 := Lib.hid c0; have C1 := Lib.hid c1; have HB0 := Lib.hid hb0
  clear c0 c1 hb0
  go_enter Tryd.func113, Tryd.ntmps113
  go_wp2
  go_loopw [3, 4] (fun x i wr => ∃ (k : Nat) (s : ByteArray), k ≤ m ∧ i = .int .i64 (k : Int) ∧ x = .string s ∧ s.data.toList = signL 45 (ys.take k) ∧ Below (w.heap.size + 1) W0 wr) (fun _ i _ => m - (intOf i).toNat)
  case atStart => exact ⟨0, _, Nat.zero_le _, rfl, rfl, by simp [signL], Below.refl _ _⟩
  case round =>
    obtain ⟨k, s, hk, rfl, rfl, hs, hb⟩ := hrel
    have hsl := signL_take_len 45 ys k PY.out (by rw [LY.out]; exact hm)
    rw [← hs] at hsl
    have hsz : s.size ≤ 39000 := hsl
    have HS := Lib.hid hs
    have c0 := (hb.cell (p := ⟨w.heap.size, 0, none⟩) (by simp)).trans C0.out
    have c1 := (hb.cell (p := ⟨w.heap.size, 1, none⟩) (by simp)).trans C1.out
    have HB := Lib.hid hb
    have hbz := hb.size
    have HBW := Lib.hid (HB0.out.trans (hb.mono (by omega)))
    clear hs hsl hb
    by_cases hlt : k < m
    · have hltI : (k : Int) < (m : Int) := by omega
      obtain ⟨p, a, hA, _, _, hg, hE⟩ := (HY.out.below AtomE.stays HBW.out (Nat.le_refl _)).at_ hlt
      obtain ⟨A', n', c', d1, d2, d3, d4⟩ := hE.out
      clear hE
      subst hA
      have hp := PY.out a (List.mem_of_getElem? hg)
      have HG := Lib.hid hg
      have HT := Lib.hid (show IsTerms wr 0 wr.heap.size A' n' c' a.2 from d4.keep (fun _ _ _ => rfl) (Nat.le_refl _) HBW.out.size)
      clear hg d2 d4
      go_wp2_with fail
      refine (l1Put_any a.1 A' n' c' a.2 _ HT.out (Nat.le_trans hp (by decide))).mono ?_; rintro e w1 ⟨rfl, hb1⟩
      obtain ⟨t, ht⟩ : ∃ t : ByteArray, (⟨(textL (a.1, a.2)).toArray⟩ : ByteArray) = t := ⟨_, rfl⟩
      have htl : t.data.toList = textL a := by rw [← ht]
      have hts : t.size ≤ 128 := by rw [← htl] at hp; exact hp
      rw [ht]
      have HTL := Lib.hid htl
      have HB1 := Lib.hid (HB.out.trans (hb1.mono (by omega)))
      have E := Lib.hid (signL_step (c := 45) HG.out)
      clear hb1 ht htl c0 c1 d1 d3
      go_wp2
      go_roundw
      case rel => exact ⟨k + 1, _, by omega, by go_num, rfl, by rw [E.out]; exact text_more HS.out HTL.out, HB1.out⟩
      case measure => simp [intOf]; omega
    · have hkm : k = m := by omega
      subst hkm
      have hkI : ¬ (k : Int) < (k : Int) := by omega
      have hys : ys.take k = ys := List.take_of_length_le (by rw [LY.out]; exact Nat.le_refl _)
      have HS2 : Hid (s.data.toList = signL 45 ys) := Lib.hid (by rw [HS.out, hys])
      clear hys
      go_wp2
      obtain ⟨W1, hW1⟩ : ∃ W1 : World, W1 = wr := ⟨_, rfl⟩
      subst hW1
      go_loopw [3, 5] (fun x i wr => ∃ (j : Nat) (s : ByteArray), j ≤ n ∧ i = .int .i64 (j : Int) ∧ x = .string s ∧ s.data.toList = signL 45 ys ++ signL 43 (xs.take j) ∧ Below (w.heap.size + 1) W0 wr) (fun _ i _ => n - (intOf i).toNat)
      case atStart => exact ⟨0, _, Nat.zero_le _, rfl, rfl, by rw [HS2.out]; simp [signL], HB.out⟩
      case round =>
        clear HS HS2 c0 c1
        obtain ⟨j, s, hj, rfl, rfl, hs, hb⟩ := hrel
        have hsl := signL_take_len 43 xs j PX.out (by rw [LX.out]; exact hn)
        have hsl2 := signL_len 45 ys PY.out
        have hlen : s.data.toList.length = (signL 45 ys).length + (signL 43 (xs.take j)).length := by rw [hs, List.length_append]
        have hly := LY.out
        have hsz2 : s.size ≤ 80000 := by show s.data.toList.length ≤ _; omega
        have HS := Lib.hid hs
        have c0 := (hb.cell (p := ⟨w.heap.size, 0, none⟩) (by simp)).trans C0.out
        have c1 := (hb.cell (p := ⟨w.heap.size, 1, none⟩) (by simp)).trans C1.out
        have HB2 := Lib.hid hb
        have hbz2 := hb.size
        have HBW2 := Lib.hid (HB0.out.trans (hb.mono (by omega)))
        clear hs hsl hsl2 hlen hly hb
        by_cases hlt2 : j < n
        · have hltI2 : (j : Int) < (n : Int) := by omega
          obtain ⟨p, a, hA, _, _, hg, hE⟩ := (HX.out.below AtomE.stays HBW2.out (Nat.le_refl _)).at_ hlt2
          obtain ⟨A', n', c', d1, d2, d3, d4⟩ := hE.out
          clear hE
          subst hA
          have hp := PX.out a (List.mem_of_getElem? hg)
          have HG := Lib.hid hg
          have HT := Lib.hid (show IsTerms wr 0 wr.heap.size A' n' c' a.2 from d4.keep (fun _ _ _ => rfl) (Nat.le_refl _) HBW2.out.size)
          clear hg d2 d4
          go_wp2_with fail
          refine (l1Put_any a.1 A' n' c' a.2 _ HT.out (Nat.le_trans hp (by decide))).mono ?_; rintro e w1 ⟨rfl, hb1⟩
          obtain ⟨t, ht⟩ : ∃ t : ByteArray, (⟨(textL (a.1, a.2)).toArray⟩ : ByteArray) = t := ⟨_, rfl⟩
          have htl : t.data.toList = textL a := by rw [← ht]
          have hts : t.size ≤ 128 := by rw [← htl] at hp; exact hp
          rw [ht]
          have HTL := Lib.hid htl
          have HB1 := Lib.hid (HB2.out.trans (hb1.mono (by omega)))
          have E := Lib.hid (signL_step (c := 43) HG.out)
          clear hb1 ht htl c0 c1 d1 d3
          go_wp2
          go_roundw
          case rel => exact ⟨j + 1, _, by omega, by go_num, rfl, by rw [E.out, ← List.append_assoc]; exact text_more HS.out HTL.out, HB1.out⟩
          case measure => simp [intOf]; omega
        · have hjn : j = n := by omega
          subst hjn
          have hjI : ¬ (j : Int) < (j : Int) := by omega
          have hxs : xs.take j = xs := List.take_of_length_le (by rw [LX.out]; exact Nat.le_refl _)
          have E : s = ⟨(chL xs ys).toArray⟩ := by
            have h1 := HS.out
            rw [hxs] at h1
            apply ByteArray.ext
            apply Array.toList_inj.1
            rw [h1]
            rfl
          have HE := Lib.hid E
          clear hxs E
          go_wp2
          go_ret
          exact ⟨congrArg (fun t => Ending.returned (.string t)) HE.out, HBW2.out⟩

end Go.Proofs.YtahkkelahocplaaDoor

namespace Go.Proofs.YtahkkelahocplaaDoor
open Go.RowKit

/-- What ChangePut tells. -/
def chB (xs ys : List At) : List UInt8 := if changeB xs ys = true then chL xs ys else []

theorem change_put {xs ys : List At} (h : changeB xs ys = true) : xs.length ≤ 300 ∧ ys.length ≤ 300 ∧ (∀ a ∈ xs, atomB a = true) ∧ ∀ a ∈ ys, atomB a = true := by
  unfold changeB factsB at h
  simp only [Bool.and_eq_true, decide_eq_true_eq, List.all_eq_true] at h
  obtain ⟨⟨⟨⟨h1, _⟩, h2⟩, ⟨h3, _⟩, h4⟩, _⟩ := h
  have f : ∀ a, factB a = true → atomB a = true := fun a h => by unfold factB at h; simp only [Bool.and_eq_true] at h; exact h.2
  exact ⟨h2, h4, fun a ha => f a (h1 a ha), fun a ha => f a (h3 a ha)⟩

theorem put_small {a : At} (h : atomB a = true) : (textL a).length ≤ 128 := Nat.le_trans (textL_le h) (by decide)

set_option maxRecDepth 100000 in
set_option maxHeartbeats 2000000 in
theorem specChangePut_any (A : Option Addr) (n c : Nat) (B : Option Addr) (m d : Nat) (xs ys : List At) (w : World) (h : IsAtoms w 0 w.heap.size A n c xs) (h' : IsAtoms w 0 w.heap.size B m d ys) :
    Calls Tryd.prog 85 #[.agg #[.slice A n c, .slice B m d]] w (StrPost (chB xs ys) w) := by
  have LX := Lib.hid h.1; have LY := Lib.hid h'.1
  have HX := Lib.hid h; have HY := Lib.hid h'
  clear h h'
  have hb0 := below1 w (.cells #[.slice A n c, .slice B m d] 54)
  have X0 := Lib.hid (Box.new w (.slice A n c) (.slice B m d) 54)
  go_enter Tryd.func85, Tryd.ntmps85
  go_wp2_with fail
  refine (specChangeOk_any A B n c m d xs ys _ (HX.out.up AtomE.stays hb0) (HY.out.up AtomE.stays hb0)).mono ?_; rintro e w1 ⟨rfl, hb1⟩
  have HB1 := belowThen hb0 hb1
  have X1 := Lib.hid (X0.out.later hb1)
  obtain ⟨u0, u1, u2⟩ := X1.out
  clear hb1 X0
  cases hc : changeB xs ys
  · have E := Lib.hid (show chB xs ys = [] by unfold chB; rw [hc]; rfl)
    clear hc
    go_wp2
    go_ret; exact ⟨by rw [E.out]; rfl, HB1⟩
  · have E := Lib.hid (show chB xs ys = chL xs ys by unfold chB; rw [hc]; rfl)
    have HC := Lib.hid (change_put hc)
    clear hc
    go_wp2_with fail
    refine (l8Put_any A n c B m d xs ys w1 (HX.out.up AtomE.stays HB1) (HY.out.up AtomE.stays HB1) (by rw [← LX.out]; exact HC.out.1) (by rw [← LY.out]; exact HC.out.2.1) (fun a ha => put_small (HC.out.2.2.1 a ha)) (fun a ha => put_small (HC.out.2.2.2 a ha))).mono ?_; rintro e w2 ⟨rfl, hb2⟩
    have HB2 := belowThen HB1 hb2
    clear hb2
    go_wp2
    go_ret; exact ⟨by rw [E.out]; rfl, HB2⟩

end Go.Proofs.YtahkkelahocplaaDoor

namespace Go.Proofs.YtahkkelahocplaaDoor
open Go.RowKit

/-- A reader, at byte i of its text. -/
def Rdr (w : World) (R : Nat) (s : ByteArray) (i : Nat) : Prop := ∃ p : Int, Blk w R 100 #[.string s, .int .i64 (i : Int), .int .i64 p]

/-- What tells a text's end is there. -/
def EofIn (w : World) : Prop := ∃ (t : TypeId) (u : Value), w.cell? ⟨1, 0, none⟩ = some (.iface t u)

theorem EofIn.below {w w' : World} (h : EofIn w) (hb : Below w.heap.size w w') : EofIn w' := by
  obtain ⟨t, u, hm⟩ := h
  exact ⟨t, u, (hb.cell (World.block_lt_of_cell? _ _ hm)).trans hm⟩
theorem EofIn.grown {w w' : World} {R : Nat} (h : EofIn w) (hb : w.grownBy w' (some R)) (hR : 1 ≠ R) : EofIn w' := by
  obtain ⟨t, u, hm⟩ := h
  exact ⟨t, u, hb.cell hm (by simp [hR])⟩

theorem Rdr.lt {w : World} {R i : Nat} {s : ByteArray} (h : Rdr w R s i) : R < w.heap.size := by
  obtain ⟨p, h⟩ := h; exact h.lt
theorem Rdr.below {w w' : World} {R i : Nat} {s : ByteArray} (h : Rdr w R s i) (hb : Below w.heap.size w w') : Rdr w' R s i := by
  obtain ⟨p, h⟩ := h; exact ⟨p, h.below hb⟩
theorem Rdr.kept {w w' : World} {R i b : Nat} {s : ByteArray} (h : Rdr w R s i) (hb : w.grownBy w' (some b)) (hne : R ≠ b) : Rdr w' R s i := by
  obtain ⟨p, h⟩ := h; exact ⟨p, h.kept hb (fun e => hne (by injection e))⟩

theorem grown_at (w : World) (R off : Nat) (v : Value) : w.grownBy (w.setCell ⟨R, off, none⟩ v) (some R) :=
  have h := World.grownBy.refl w (some R)
  ⟨h.os, h.tape, h.output, by rw [size_setCell]; exact Nat.le_refl _, fun i _ hne => Below.heap_setCell _ _ _ i (fun e => hne (by rw [e]))⟩

set_option maxHeartbeats 1000000 in
theorem rdReset_any (R i : Nat) (s t : ByteArray) (w : World) (h : Rdr w R s i) :
    Calls Tryd.prog 114 #[.pointer (some ⟨R, 0, none⟩), .string t] w fun e w' => e = .returned (.tuple #[]) ∧ Rdr w' R t 0 ∧ w.grownBy w' (some R) := by
  obtain ⟨p, h⟩ := h
  have x0 : w.cell? ⟨R, 0, none⟩ = some (.string s) := h.cell 0
  have x1 : w.cell? ⟨R, 1, none⟩ = some (.int .i64 (i : Int)) := h.cell 1
  have x2 : w.cell? ⟨R, 2, none⟩ = some (.int .i64 p) := h.cell 2
  have f0 := h.frozen 0; have f1 := h.frozen 1; have f2 := h.frozen 2
  have g1 := ((h.set 0 (.string t)).set 1 (.int .i64 0)).set 2 (.int .i64 (-1))
  have g2 := grownTrans (grownTrans (grown_at w R 0 (.string t)) (grown_at _ R 1 (.int .i64 0))) (grown_at _ R 2 (.int .i64 (-1)))
  have G1 := Lib.hid g1; have G2 := Lib.hid g2
  clear g1 g2 h
  go_enter Tryd.func114, Tryd.ntmps114
  go_wp2
  exact bodyPost_end (v := .tuple #[]) (by simp [results, Tryd.results114, go_sem]) rfl ⟨rfl, ⟨_, G1.out⟩, G2.out⟩

set_option maxHeartbeats 1000000 in
theorem rdLen_any (R i : Nat) (s : ByteArray) (w : World) (h : Rdr w R s i) (hi : i ≤ s.size) (hs : s.size ≤ 1048576) :
    Calls Tryd.prog 87 #[.pointer (some ⟨R, 0, none⟩)] w fun e w' => e = .returned (.int .i64 ((s.size - i : Nat) : Int)) ∧ Below w.heap.size w w' := by
  obtain ⟨p, h⟩ := h
  have x0 : w.cell? ⟨R, 0, none⟩ = some (.string s) := h.cell 0
  have x1 : w.cell? ⟨R, 1, none⟩ = some (.int .i64 (i : Int)) := h.cell 1
  have hw : IntKind.i64.wrap ((s.size : Int) - (i : Int)) = ((s.size - i : Nat) : Int) := by rw [IntKind.wrap_i64]; omega
  by_cases hlt : i < s.size
  · have hI : ¬ (s.size : Int) ≤ (i : Int) := by omega
    go_enter Tryd.func87, Tryd.ntmps87
    go_wp2_with fail
    go_region_held3 (fun W => W.cell? ⟨R, 0, none⟩ = some (.string s) ∧ W.cell? ⟨R, 1, none⟩ = some (.int .i64 (i : Int))) (exact ⟨x0, x1⟩) (fail)
    go_wp2_with fail
    go_region_held3 (fun W => W.cell? ⟨R, 0, none⟩ = some (.string s) ∧ W.cell? ⟨R, 1, none⟩ = some (.int .i64 (i : Int))) (exact ⟨x0, x1⟩) (fail)
    go_wp2
    go_ret
    exact ⟨rfl, (Below.refl _ _).drew.drew⟩
  · have hI : (s.size : Int) ≤ (i : Int) := by omega
    have h0 : ((s.size - i : Nat) : Int) = 0 := by omega
    go_enter Tryd.func87, Tryd.ntmps87
    go_wp2_with fail
    go_region_held3 (fun W => W.cell? ⟨R, 0, none⟩ = some (.string s) ∧ W.cell? ⟨R, 1, none⟩ = some (.int .i64 (i : Int))) (exact ⟨x0, x1⟩) (fail)
    go_wp2
    go_ret
    exact ⟨by rw [h0]; rfl, (Below.refl _ _).drew⟩

/-- A byte was read. -/
def ReadPost (R i : Nat) (s : ByteArray) (hi : i < s.size) (w : World) (e : Ending) (w' : World) : Prop :=
  e = .returned (.tuple #[.int .u8 ((s[i]'hi).toNat : Int), .nilIface]) ∧ Rdr w' R s (i + 1) ∧ w.grownBy w' (some R)

set_option maxHeartbeats 2000000 in
theorem rdByte_any (R i : Nat) (s : ByteArray) (w : World) (h : Rdr w R s i) (hi : i < s.size) (hs : s.size ≤ 1048576) :
    Calls Tryd.prog 131 #[.pointer (some ⟨R, 0, none⟩)] w (ReadPost R i s hi w) := by
  obtain ⟨p, h⟩ := h
  have g1 := h.set 2 (.int .i64 (-1))
  have x0 : w.cell? ⟨R, 0, none⟩ = some (.string s) := h.cell 0
  have x1 : w.cell? ⟨R, 1, none⟩ = some (.int .i64 (i : Int)) := h.cell 1
  have x2 : w.cell? ⟨R, 2, none⟩ = some (.int .i64 p) := h.cell 2
  have f2 := h.frozen 2
  have hI : ¬ (s.size : Int) ≤ (i : Int) := by omega
  have hI2 : (i : Int) < (s.size : Int) := by omega
  have hw : IntKind.i64.wrap ((i : Int) + 1) = ((i + 1 : Nat) : Int) := by rw [IntKind.wrap_i64]; omega
  go_enter Tryd.func131, Tryd.ntmps131
  go_wp2_with fail
  have G2 := Lib.hid (grown_at w R 2 (.int .i64 (-1)))
  obtain ⟨W1, hW1⟩ : ∃ W1, w.setCell ⟨R, 2, none⟩ (.int .i64 (-1)) = W1 := ⟨_, rfl⟩
  rw [hW1] at g1 G2 ⊢
  have y0 : W1.cell? ⟨R, 0, none⟩ = some (.string s) := Blk.cell g1 0
  have y1 : W1.cell? ⟨R, 1, none⟩ = some (.int .i64 (i : Int)) := Blk.cell g1 1
  have f1 : W1.frozen? ⟨R, 1, none⟩ = false := Blk.frozen g1 1
  clear hW1 x0 x1 x2 f2
  go_region_held3 (fun W => W.cell? ⟨R, 0, none⟩ = some (.string s) ∧ W.cell? ⟨R, 1, none⟩ = some (.int .i64 (i : Int))) (exact ⟨y0, y1⟩) (fail)
  go_wp2_with fail
  go_region_held3 (fun W => W.cell? ⟨R, 0, none⟩ = some (.string s) ∧ W.cell? ⟨R, 1, none⟩ = some (.int .i64 (i : Int))) (exact ⟨y0, y1⟩) (fail)
  go_wp2
  refine bodyPost_ret (results_tmp2 Tryd.results131 _ _ _) rfl ?_
  refine ⟨rfl, ⟨-1, ?_⟩, ?_⟩
  · have := Blk.set (W := W1.drew.drew) g1 1 (.int .i64 ((i + 1 : Nat) : Int))
    exact this
  · exact grownTrans (grownTrans G2.out (grown_at W1 R 1 _)) (grownBelow ((Below.refl _ _).drew.drew) (some R))

set_option maxHeartbeats 2000000 in
theorem rdEnd_any (R i : Nat) (s : ByteArray) (w : World) (h : Rdr w R s i) (hi : i = s.size) (hE : EofIn w) (hR : 1 ≠ R) :
    Calls Tryd.prog 131 #[.pointer (some ⟨R, 0, none⟩)] w fun e w' => (∃ t u, e = .returned (.tuple #[.int .u8 0, .iface t u])) ∧ Rdr w' R s i ∧ w.grownBy w' (some R) := by
  obtain ⟨p, h⟩ := h
  have g1 := h.set 2 (.int .i64 (-1))
  have x0 : w.cell? ⟨R, 0, none⟩ = some (.string s) := h.cell 0
  have x1 : w.cell? ⟨R, 1, none⟩ = some (.int .i64 (i : Int)) := h.cell 1
  have x2 : w.cell? ⟨R, 2, none⟩ = some (.int .i64 p) := h.cell 2
  have f2 := h.frozen 2
  have hI : (s.size : Int) ≤ (i : Int) := by omega
  go_enter Tryd.func131, Tryd.ntmps131
  go_wp2_with fail
  have G2 := Lib.hid (grown_at w R 2 (.int .i64 (-1)))
  obtain ⟨t, u, e1⟩ := hE.grown G2.out hR
  obtain ⟨W1, hW1⟩ : ∃ W1, w.setCell ⟨R, 2, none⟩ (.int .i64 (-1)) = W1 := ⟨_, rfl⟩
  rw [hW1] at g1 G2 e1 ⊢
  have y0 : W1.cell? ⟨R, 0, none⟩ = some (.string s) := Blk.cell g1 0
  have y1 : W1.cell? ⟨R, 1, none⟩ = some (.int .i64 (i : Int)) := Blk.cell g1 1
  clear hW1 x0 x1 x2 f2
  go_region_held3 (fun W => W.cell? ⟨R, 0, none⟩ = some (.string s) ∧ W.cell? ⟨R, 1, none⟩ = some (.int .i64 (i : Int))) (exact ⟨y0, y1⟩) (fail)
  go_wp2_with fail
  go_region_held3 (fun W => W.cell? ⟨1, 0, none⟩ = some (.iface t u)) (exact e1) (fail)
  go_wp2
  refine bodyPost_ret (results_tmp2 Tryd.results131 _ _ _) rfl ?_
  exact ⟨⟨t, u, rfl⟩, ⟨-1, g1⟩, grownTrans G2.out (grownBelow ((Below.refl _ _).drew.drew) (some R))⟩

end Go.Proofs.YtahkkelahocplaaDoor

namespace Go.Proofs.YtahkkelahocplaaDoor
open Go.RowKit

theorem byte_there {s : ByteArray} {i : Nat} {pre post : List UInt8} {b : UInt8} (h : s.data.toList.drop i = pre ++ b :: post) (hi : i ≤ s.size) : ∃ hj : i + pre.length < s.size, s[i + pre.length]'hj = b := by
  have h1 := congrArg List.length h
  have h0 : s.data.toList.length = s.size := by simp
  simp only [List.length_drop, List.length_append, List.length_cons, h0] at h1
  have hj : i + pre.length < s.size := by omega
  refine ⟨hj, ?_⟩
  have h2 : (s.data.toList.drop i)[pre.length]? = some b := by rw [h]; simp
  rw [List.getElem?_drop] at h2
  have hj2 : i + pre.length < s.data.toList.length := by omega
  rw [List.getElem?_eq_getElem hj2] at h2
  exact Option.some.inj h2

theorem rest_end {s : ByteArray} {i : Nat} {pre : List UInt8} (h : s.data.toList.drop i = pre) (hi : i ≤ s.size) : i + pre.length = s.size := by
  have h1 := congrArg List.length h
  have h0 : s.data.toList.length = s.size := by simp
  simp only [List.length_drop, h0] at h1
  omega

theorem grownOn {w wr w5 : World} {R : Nat} (hg : w.grownBy wr (some R)) (hb : Below w.heap.size wr w5) : w.grownBy w5 (some R) :=
  ⟨hb.os.trans hg.os, hb.tape.trans hg.tape, hb.output.trans hg.output, Nat.le_trans hg.size hb.size, fun k hk hne => (hb.block k hk).trans (hg.block k hk hne)⟩

theorem Rdr.under {w w' : World} {R i B : Nat} {s : ByteArray} (h : Rdr w R s i) (hb : Below B w w') (hR : R < B) : Rdr w' R s i := by
  obtain ⟨p, h⟩ := h; exact ⟨p, (hb.block R hR).trans h⟩

theorem bytes_step (l : List UInt8) (b : UInt8) : Lib.byteCells l ++ [.int .u8 (b.toNat : Int)] = Lib.byteCells (l ++ [b]) := by unfold Lib.byteCells; simp

theorem builderGrown {T e : TypeId} {B b R : Nat} {bs : List Value} {W W' : World} (h : Lib.IsBuilder T e B b bs W) (hg : W.grownBy W' (some R)) (hR : R < B) : Lib.IsBuilder T e B b bs W' := by
  have key : ∀ p, Lib.BuilderAt T e B b p bs W → Lib.BuilderAt T e B b p bs W' := fun p ⟨h1, v, h2, h3, h4⟩ =>
    ⟨h1, v, (hg.block b (Array.getElem?_eq_some_iff.1 h2).1 (fun e => by injection e with e; omega)).trans h2, World.ownsRow.kept h3 hg (ownNe h3 (by omega)), h4⟩
  rcases h with h | h
  · exact .inl (key _ h)
  · exact .inr (key _ h)

/-- What lies ahead of a mark was read, and the mark; or there is none. -/
def UntilPost (R i : Nat) (s : ByteArray) (c : UInt8) (w : World) (e : Ending) (w' : World) : Prop :=
  ((∃ pre post, s.data.toList.drop i = pre ++ c :: post ∧ c ∉ pre ∧ e = .returned (.tuple #[.string ⟨pre.toArray⟩, .bool true]) ∧ Rdr w' R s (i + pre.length + 1)) ∨
   (c ∉ s.data.toList.drop i ∧ e = .returned (.tuple #[.string ⟨#[]⟩, .bool false]) ∧ Rdr w' R s s.size)) ∧ w.grownBy w' (some R)

set_option maxRecDepth 100000 in
set_option maxHeartbeats 4000000 in
theorem until_any (R i : Nat) (s : ByteArray) (c : UInt8) (w : World) (h : Rdr w R s i) (hi : i ≤ s.size) (hs : s.size ≤ 1048576) (hE : EofIn w) (hR : 1 ≠ R) :
    Calls Tryd.prog 115 #[.pointer (some ⟨R, 0, none⟩), .int .u8 (c.toNat : Int)] w (UntilPost R i s c w) := by
  have hlR := h.lt
  have hb0 := below1 w (.cells #[.pointer none, .slice none 0 0] 144)
  have R0 := Lib.hid (h.below hb0)
  have B0 : Hid (Lib.IsBuilder 144 5 w.heap.size w.heap.size (Lib.byteCells []) (w.alloc (.cells #[.pointer none, .slice none 0 0] 144))) := Lib.hid (.inl ⟨Nat.le_refl _, .slice none 0 0, World.alloc_heap_new w _, ⟨rfl, .inl ⟨rfl, rfl⟩⟩, by simp [Value.ownBlock]⟩)
  have G0 := Lib.hid (grownBelow hb0 (some R))
  clear h
  go_enter Tryd.func115, Tryd.ntmps115
  go_wp2_with fail
  go_loopw [] (fun wr => ∃ (pre post : List UInt8), s.data.toList.drop i = pre ++ post ∧ c ∉ pre ∧ Rdr wr R s (i + pre.length) ∧ Lib.IsBuilder 144 5 w.heap.size w.heap.size (Lib.byteCells pre) wr ∧ w.grownBy wr (some R)) (fun wr => match wr.cell? ⟨R, 1, none⟩ with | some (.int _ j) => s.size - j.toNat | _ => 0)
  case atStart => exact ⟨[], _, rfl, by simp, R0.out, B0.out, G0.out⟩
  case round =>
    obtain ⟨pre, post, hp, hc, hr, hb, hg⟩ := hrel
    clear R0 B0 G0
    have HP := Lib.hid hp; have HR := Lib.hid hr; have HB := Lib.hid hb; have HG := Lib.hid hg; have HC := Lib.hid hc
    have hwr := hg.size
    have hEr := hE.grown hg hR
    have y1 : wr.cell? ⟨R, 1, none⟩ = some (.int .i64 ((i + pre.length : Nat) : Int)) := by obtain ⟨p, hr⟩ := hr; exact hr.cell 1
    clear hp hr hb hg hc
    cases post with
    | nil =>
      have hpe := HP.out
      rw [List.append_nil] at hpe
      have hend := rest_end hpe hi
      go_wp2_with fail
      refine (rdEnd_any R (i + pre.length) s wr HR.out hend hEr hR).mono ?_; rintro e w5 ⟨⟨t, u, rfl⟩, hr5, hg5⟩
      rw [hend] at hr5
      have HR5 := Lib.hid hr5; have HG5 := Lib.hid (grownTrans HG.out hg5)
      clear hr5 hg5
      go_wp2
      refine bodyPost_ret (results_tmp2 Tryd.results115 _ _ _) rfl ⟨.inr ⟨by rw [hpe]; exact HC.out, rfl, HR5.out⟩, HG5.out⟩
    | cons b post =>
      obtain ⟨hj, hbe⟩ := byte_there HP.out hi
      have hpl : pre.length ≤ 1048576 := by omega
      go_wp2_with fail
      refine (rdByte_any R (i + pre.length) s wr HR.out hj hs).mono ?_; rintro e w5 ⟨rfl, hr5, hg5⟩
      rw [hbe]
      have HR5 := Lib.hid hr5; have HG5 := Lib.hid (grownTrans HG.out hg5)
      have HB5 := Lib.hid (builderGrown HB.out hg5 hlR)
      have hz5 := HG5.out.size
      clear hr5 hg5 HB HR hbe
      by_cases hbc : b = c
      · subst hbc
        go_wp2_with fail
        refine (Tryd.Builder_String_any w.heap.size w.heap.size pre w5 HB5.out hz5).mono ?_; rintro e w6 ⟨rfl, hb6⟩
        have HG6 := Lib.hid (grownOn HG5.out hb6)
        have HR6 := Lib.hid (HR5.out.under hb6 hlR)
        go_wp2
        refine bodyPost_ret (results_tmp2 Tryd.results115 _ _ _) rfl ⟨.inl ⟨pre, post, HP.out, HC.out, rfl, HR6.out⟩, HG6.out⟩
      · have hbI : ¬ (b.toNat : Int) = (c.toNat : Int) := fun e => hbc (UInt8.toNat_inj.1 (by omega))
        go_wp2_with fail
        refine (Tryd.Builder_WriteByte w.heap.size w.heap.size (Lib.byteCells pre) (b.toNat : Int) w5 HB5.out (by rw [Lib.byteCells_length]; omega) hz5).mono ?_; rintro e w6 ⟨rfl, hB6, hb6⟩
        have HG6 := Lib.hid (grownOn HG5.out hb6)
        have hr6 := HR5.out.under hb6 hlR
        have HB6 : Hid (Lib.IsBuilder 144 5 w.heap.size w.heap.size (Lib.byteCells (pre ++ [b])) w6) := Lib.hid (by rw [← bytes_step]; exact .inr hB6)
        have y6 : w6.cell? ⟨R, 1, none⟩ = some (.int .i64 ((i + pre.length + 1 : Nat) : Int)) := by obtain ⟨p, hr⟩ := hr6; exact hr.cell 1
        have HR6 := Lib.hid (show Rdr w6 R s (i + (pre ++ [b]).length) by rw [List.length_append]; exact hr6)
        clear hb6 hB6 hr6
        go_wp2
        go_roundw
        case rel => exact ⟨pre ++ [b], post, by rw [HP.out]; simp, by
          intro hm
          rcases List.mem_append.1 hm with hm | hm
          · exact HC.out hm
          · exact hbc (List.mem_singleton.1 hm).symm, HR6.out, HB6.out, HG6.out⟩
        case measure =>
          rw [y6, y1]
          show s.size - ((i + pre.length + 1 : Nat) : Int).toNat < s.size - ((i + pre.length : Nat) : Int).toNat
          omega

end Go.Proofs.YtahkkelahocplaaDoor

namespace Go.Proofs.YtahkkelahocplaaDoor
open Go.RowKit

/-- A sign and an atom were read, and the blank behind them; or there are none. -/
def SignPost (R i : Nat) (s : ByteArray) (w : World) (e : Ending) (w' : World) : Prop :=
  ∃ (x : UInt8) (r : Rf) (ok : Bool) (j : Nat), e = .returned (.tuple #[.int .u8 (x.toNat : Int), rfVal r, .bool ok]) ∧ j ≤ s.size ∧ Rdr w' R s j ∧ HeadApart w' w.heap.size w'.heap.size r ∧ w.grownBy w' (some R) ∧
    (ok = true → ∃ p post, s.data.toList.drop i = (x :: p) ++ 32 :: post ∧ 32 ∉ x :: p ∧ getB p = some (rAt r) ∧ j = i + p.length + 2) ∧
    (ok = false → ∀ y p post, s.data.toList.drop i = (y :: p) ++ 32 :: post → 32 ∉ y :: p → getB p = none)

theorem MaxIn.grown {w w' : World} {R : Nat} (h : MaxIn w) (hb : w.grownBy w' (some R)) (hR : 0 ≠ R) : MaxIn w' := by
  obtain ⟨m, hm⟩ := h
  exact ⟨m, hb.cell hm (by simp [hR])⟩

theorem mark_first {c : UInt8} : ∀ {a b x y : List UInt8}, a ++ c :: x = b ++ c :: y → c ∉ a → c ∉ b → a = b ∧ x = y
  | [], [], x, y, h, _, _ => ⟨rfl, by simpa using h⟩
  | [], d :: b, x, y, h, _, hb => by simp at h; exact absurd h.1 (fun e => hb (by rw [e]; simp))
  | d :: a, [], x, y, h, ha, _ => by simp at h; exact absurd h.1.symm (fun e => ha (by rw [e]; simp))
  | d :: a, e :: b, x, y, h, ha, hb => by
    simp only [List.cons_append, List.cons.injEq] at h
    obtain ⟨h1, h2⟩ := mark_first h.2 (fun hm => ha (by simp [hm])) (fun hm => hb (by simp [hm]))
    exact ⟨by rw [h.1, h1], h2⟩

theorem mark_len {s : ByteArray} {i : Nat} {pre post : List UInt8} {b : UInt8} (h : s.data.toList.drop i = pre ++ b :: post) (hi : i ≤ s.size) : i + pre.length + 1 ≤ s.size := by
  obtain ⟨hj, _⟩ := byte_there h hi
  omega

set_option maxRecDepth 100000 in
set_option maxHeartbeats 4000000 in
theorem signed_any (R i : Nat) (s : ByteArray) (w : World) (h : Rdr w R s i) (hi : i ≤ s.size) (hs : s.size ≤ 1048576) (hE : EofIn w) (hR : 1 ≠ R) (hm : MaxIn w) (hR2 : 0 ≠ R) :
    Calls Tryd.prog 88 #[.pointer (some ⟨R, 0, none⟩)] w (SignPost R i s w) := by
  have hlR := h.lt
  have hb0 := below1 w (.cells #[.string ⟨#[]⟩, .slice none 0 0] 24)
  have R0 := Lib.hid (h.below hb0)
  have X0 := Lib.hid (Blk.new w 24 #[.string ⟨#[]⟩, .slice none 0 0])
  have G0 := Lib.hid (grownBelow hb0 (some R))
  have E0 := hE.below hb0
  obtain ⟨W0, hW0⟩ : ∃ W0, w.alloc (.cells #[.string ⟨#[]⟩, .slice none 0 0] 24) = W0 := ⟨_, rfl⟩
  clear h hb0
  go_enter Tryd.func88, Tryd.ntmps88
  go_wp2_with fail
  have hz0 : W0.heap.size = w.heap.size + 1 := by rw [← hW0]; simp
  rw [hW0] at R0 X0 G0 E0
  clear hW0
  refine (until_any R i s 32 W0 R0.out hi hs E0 hR).mono ?_; rintro e w1 ⟨hcase, hg1⟩
  have G1 := Lib.hid (grownTrans G0.out hg1)
  have X1 := Lib.hid (X0.out.kept hg1 (fun e => by injection e with e; omega))
  have hz1 := hg1.size
  clear hg1 R0 X0 G0
  have NO : ∀ (j : Nat), j ≤ s.size → Rdr w1 R s j → (∀ y p post, s.data.toList.drop i = (y :: p) ++ 32 :: post → 32 ∉ y :: p → getB p = none) → SignPost R i s w (.returned (.tuple #[.int .u8 0, .agg #[.string ⟨#[]⟩, .slice none 0 0], .bool false])) ((w1.setCell ⟨w.heap.size, 0, none⟩ (.string ⟨#[]⟩)).setCell ⟨w.heap.size, 1, none⟩ (.slice none 0 0)) := by
    intro j hj hr hno
    refine ⟨0, noRf, false, j, rfl, hj, ?_, noRf_apart, ?_, (fun h => by cases h), fun _ => hno⟩
    · obtain ⟨p, hr⟩ := hr
      exact ⟨p, (Blk.far hr (p := ⟨w.heap.size, 0, none⟩) (by show R ≠ w.heap.size; omega) _).far (by show R ≠ w.heap.size; omega) _⟩
    · exact ⟨G1.out.os, G1.out.tape, G1.out.output, by simp only [size_setCell]; exact G1.out.size, fun q hq hne => (Below.heap_setCell _ _ _ q (by show q ≠ w.heap.size; omega)).trans ((Below.heap_setCell _ _ _ q (by show q ≠ w.heap.size; omega)).trans (G1.out.block q hq hne))⟩
  have HNO := Lib.hid NO; clear NO
  have x0 : w1.cell? ⟨w.heap.size, 0, none⟩ = some (.string ⟨#[]⟩) := X1.out.cell 0
  have x1 : w1.cell? ⟨w.heap.size, 1, none⟩ = some (.slice none 0 0) := X1.out.cell 1
  have q0 := X1.out.frozen 0; have q1 := X1.out.frozen 1
  rcases hcase with ⟨pre, post, hp, hc, rfl, hr1⟩ | ⟨hc, rfl, hr1⟩
  · have hl := mark_len hp hi
    cases pre with
    | nil =>
      have HR1 := Lib.hid hr1; have HP := Lib.hid hp
      clear hr1 hp
      go_wp2
      refine bodyPost_ret (v := .tuple #[.int .u8 0, .agg #[.string ⟨#[]⟩, .slice none 0 0], .bool false]) (by simp [results, Tryd.results88, go_sem, x0, x1]) rfl (HNO.out _ (by simpa using hl) HR1.out fun y p post' h1 h2 => ?_)
      rw [HP.out] at h1
      simp at h1
      exact absurd h1.1 (fun e => h2 (by rw [e]; simp))
    | cons x p =>
      have HR1 := Lib.hid hr1; have HP := Lib.hid hp; have HC := Lib.hid hc
      obtain ⟨L, hL⟩ : ∃ L, x :: p = L := ⟨_, rfl⟩
      have HL := Lib.hid hL
      rw [hL]
      have hne : ¬ L = [] := by rw [← hL]; simp
      have hne2 : (L == []) = false := by rw [beq_eq_false_iff_ne]; exact hne
      have hlen : L.length = p.length + 1 := by rw [← hL]; simp
      clear hr1 hp hc hL
      go_wp2_with fail
      obtain ⟨T, hT⟩ : ∃ T : ByteArray, (⟨L.toArray⟩ : ByteArray).extract 1 (p.length + 1) = T := ⟨_, rfl⟩
      have hTd : T.data.toList = p := by rw [← hT, ← HL.out]; simp [ByteArray.data_extract]
      have hTs : T.size ≤ 1048576 := by
        have h1 : T.size = T.data.toList.length := by simp
        have h2 : (x :: p).length = p.length + 1 := rfl
        rw [h1, hTd]; omega
      rw [hT]
      have hm1 : MaxIn w1 := hm.grown G1.out hR2
      clear hT
      refine (implAtomGet_any T w1 hTs hm1).mono ?_; rintro e w2 ⟨r, rfl, hH, hr, hb2⟩
      rw [hTd] at hr ⊢
      unfold rfVal
      have hLx := HL.out
      subst hLx
      clear HL
      have hbx := below1 w2 (.cells #[.string r.1, .slice r.2.1 r.2.2.1 r.2.2.2.1] 24)
      have X2 := (X1.out.below hb2).below hbx
      have Y2 := Blk.new w2 24 #[.string r.1, .slice r.2.1 r.2.2.1 r.2.2.2.1]
      have HR2 := (HR1.out.below hb2).below hbx
      have G2 := grownTrans G1.out (grownBelow (belowThen hb2 hbx) (some R))
      have hz2 := hb2.size
      obtain ⟨W2, hW2⟩ : ∃ W2, w2.alloc (.cells #[.string r.1, .slice r.2.1 r.2.2.1 r.2.2.2.1] 24) = W2 := ⟨_, rfl⟩
      have hzW : W2.heap.size = w2.heap.size + 1 := by rw [← hW2]; simp
      have hHW : HeadApart W2 w1.heap.size w2.heap.size r := hH.keep (fun b _ h2 => by rw [← hW2]; exact hbx.block b h2) (Nat.le_refl _) (Nat.le_refl _)
      go_wp2_with fail
      rw [hW2] at X2 Y2 HR2 G2
      have e0 : W2.cell? ⟨w2.heap.size, 0, none⟩ = some (.string r.1) := Y2.cell 0
      have e1 : W2.cell? ⟨w2.heap.size, 1, none⟩ = some (.slice r.2.1 r.2.2.1 r.2.2.2.1) := Y2.cell 1
      have d0 : W2.cell? ⟨w.heap.size, 0, none⟩ = some (.string ⟨#[]⟩) := X2.cell 0
      have d1 : W2.cell? ⟨w.heap.size, 1, none⟩ = some (.slice none 0 0) := X2.cell 1
      have u0 := X2.frozen 0; have u1 := X2.frozen 1
      clear x0 x1 q0 q1
      have far : ∀ k, (⟨w.heap.size, 0, none⟩ : Addr) ≠ ⟨w2.heap.size, k, none⟩ ∧ (⟨w.heap.size, 1, none⟩ : Addr) ≠ ⟨w2.heap.size, k, none⟩ := fun k => ⟨fun e => by (injection e with e; omega), fun e => by (injection e with e; omega)⟩
      have k0 : ((W2.setCell ⟨w.heap.size, 0, none⟩ (.string r.1)).setCell ⟨w.heap.size, 1, none⟩ (.slice r.2.1 r.2.2.1 r.2.2.2.1)).cell? ⟨w2.heap.size, 0, none⟩ = some (.string r.1) := (World.cell?_setCell_other _ _ _ _ (far 0).2).trans ((World.cell?_setCell_other _ _ _ _ (far 0).1).trans e0)
      have k1 : ((W2.setCell ⟨w.heap.size, 0, none⟩ (.string r.1)).setCell ⟨w.heap.size, 1, none⟩ (.slice r.2.1 r.2.2.1 r.2.2.2.1)).cell? ⟨w2.heap.size, 1, none⟩ = some (.slice r.2.1 r.2.2.1 r.2.2.2.1) := (World.cell?_setCell_other _ _ _ _ (far 1).2).trans ((World.cell?_setCell_other _ _ _ _ (far 1).1).trans e1)
      clear far
      go_region_held3 (fun W => W.cell? ⟨w2.heap.size, 0, none⟩ = some (.string r.1) ∧ W.cell? ⟨w2.heap.size, 1, none⟩ = some (.slice r.2.1 r.2.2.1 r.2.2.2.1)) (first | exact ⟨e0, e1⟩ | exact ⟨k0, k1⟩) (fail)
      go_wp2
      refine bodyPost_ret (v := .tuple #[.int .u8 (x.toNat : Int), .agg #[.string r.1, .slice r.2.1 r.2.2.1 r.2.2.2.1], .bool (getB p).isSome]) (by simp [results, Tryd.results88, go_sem, d0, d1]; rfl) rfl ⟨x, r, (getB p).isSome, _, rfl, hl, ?_, ?_, ?_, fun h1 => ?_, fun h1 y p' post' h2 h3 => ?_⟩
      · obtain ⟨q, hr⟩ := HR2
        exact ⟨q, (Blk.far hr (p := ⟨w.heap.size, 0, none⟩) (by show R ≠ w.heap.size; omega) _).far (by show R ≠ w.heap.size; omega) _⟩
      · refine hHW.keep (fun b h1 _ => (Below.heap_setCell _ _ _ b (by show b ≠ w.heap.size; omega)).trans (Below.heap_setCell _ _ _ b (by show b ≠ w.heap.size; omega))) (by omega) (by simp only [size_setCell, World.drew]; omega)
      · exact ⟨G2.os, G2.tape, G2.output, by simp only [size_setCell, World.drew]; omega, fun q hq hne => (Below.heap_setCell _ _ _ q (by show q ≠ w.heap.size; omega)).trans ((Below.heap_setCell _ _ _ q (by show q ≠ w.heap.size; omega)).trans (G2.block q hq hne))⟩
      · obtain ⟨a, ha⟩ := Option.isSome_iff_exists.1 h1
        rw [ha] at hr
        exact ⟨p, post, HP.out, HC.out, by rw [ha]; exact congrArg some hr.symm, by simp only [List.length_cons]; omega⟩
      · rw [HP.out] at h2
        obtain ⟨h4, _⟩ := mark_first h2 HC.out h3
        injection h4 with _ h4
        rw [← h4]
        cases hg : getB p with
        | none => rfl
        | some a => rw [hg] at h1; cases h1
  · have HR1 := Lib.hid hr1; have HC := Lib.hid hc
    clear hr1 hc
    go_wp2
    refine bodyPost_ret (v := .tuple #[.int .u8 0, .agg #[.string ⟨#[]⟩, .slice none 0 0], .bool false]) (by simp [results, Tryd.results88, go_sem, x0, x1]) rfl (HNO.out _ (Nat.le_refl _) HR1.out fun y p post' h1 h2 => ?_)
    exact absurd (by rw [h1]; simp) HC.out

end Go.Proofs.YtahkkelahocplaaDoor

namespace Go.Proofs.YtahkkelahocplaaDoor
open Go.RowKit

theorem pw_all {α : Type} {R : α → α → Prop} : ∀ (l : List α), (∀ a ∈ l, ∀ b ∈ l, R a b) → l.Pairwise R
  | [], _ => .nil
  | x :: r, h => .cons (fun b hb => h x (by simp) b (by simp [hb])) (pw_all r fun a ha b hb => h a (by simp [ha]) b (by simp [hb]))

/-- Signs, and atoms behind them. -/
abbrev Sg := UInt8 × At
def encS (l : List Sg) : List UInt8 := l.flatMap fun x => x.1 :: (textL x.2 ++ [32])
/-- What comes and what goes, with signs. -/
def sgs (xs ys : List At) : List Sg := ys.map (fun a => (45, a)) ++ xs.map (fun a => (43, a))

theorem encS_cons (x : Sg) (l : List Sg) : encS (x :: l) = x.1 :: (textL x.2 ++ 32 :: encS l) := by simp [encS]
theorem encS_app (l m : List Sg) : encS (l ++ m) = encS l ++ encS m := by simp [encS]

theorem encS_sgs (xs ys : List At) : encS (sgs xs ys) = chL xs ys := by
  unfold encS sgs chL signL
  rw [List.flatMap_append, List.flatMap_map, List.flatMap_map]

theorem encS_prefix : ∀ {T W : List Sg} {rest : List UInt8}, (∀ x ∈ W, atomB x.2 = true) → (∀ x ∈ T, atomB x.2 = true) → encS W = encS T ++ rest → ∃ V, W = T ++ V ∧ rest = encS V
  | [], W, rest, _, _, h => ⟨W, rfl, by simpa [encS] using h.symm⟩
  | x :: T, [], rest, _, _, h => by rw [encS_cons] at h; simp [encS] at h
  | x :: T, y :: W, rest, hW, hT, h => by
    rw [encS_cons, encS_cons, List.cons_append, List.append_assoc, List.cons_append] at h
    injection h with h1 h2
    have hy := hW y (by simp)
    have hx := hT x (by simp)
    obtain ⟨h3, h4⟩ := mark_first h2 (text_no_blank hy) (text_no_blank hx)
    have h5 : y.2 = x.2 := by
      have e1 := getB_text hy
      rw [h3, getB_text hx] at e1
      exact (Option.some.inj e1).symm
    obtain ⟨V, h6, h7⟩ := encS_prefix (fun z hz => hW z (by simp [hz])) (fun z hz => hT z (by simp [hz])) h4
    exact ⟨V, by rw [h6, show y = x from Prod.ext h1 h5]; rfl, h7⟩

theorem sgs_atoms {xs ys : List At} (hx : ∀ a ∈ xs, atomB a = true) (hy : ∀ a ∈ ys, atomB a = true) : ∀ z ∈ sgs xs ys, atomB z.2 = true := by
  intro z hz
  unfold sgs at hz
  rcases List.mem_append.1 hz with hz | hz
  · obtain ⟨a, ha, rfl⟩ := List.mem_map.1 hz; exact hy a ha
  · obtain ⟨a, ha, rfl⟩ := List.mem_map.1 hz; exact hx a ha

theorem sgs_inj {xs ys xs' ys' : List At} (h : sgs xs ys = sgs xs' ys') : xs = xs' ∧ ys = ys' := by
  have key : ∀ us vs : List At, (sgs us vs).filterMap (fun z => if z.1 = 43 then some z.2 else none) = us ∧ (sgs us vs).filterMap (fun z => if z.1 = 45 then some z.2 else none) = vs := by
    intro us vs
    unfold sgs
    simp [List.filterMap_append, List.filterMap_map, Function.comp_def]
  have k1 := key xs ys; have k2 := key xs' ys'
  rw [h] at k1
  exact ⟨k1.1.symm.trans k2.1, k1.2.symm.trans k2.2⟩

/-- A change's text is no other change's. -/
theorem chL_inj {xs ys xs' ys' : List At} (h : changeB xs ys = true) (h' : changeB xs' ys' = true) (he : chL xs ys = chL xs' ys') : xs = xs' ∧ ys = ys' := by
  obtain ⟨_, _, a1, a2⟩ := change_put h
  obtain ⟨_, _, b1, b2⟩ := change_put h'
  rw [← encS_sgs, ← encS_sgs] at he
  obtain ⟨V, h1, h2⟩ := encS_prefix (rest := []) (sgs_atoms a1 a2) (sgs_atoms b1 b2) (by rw [List.append_nil]; exact he)
  cases V with
  | nil => rw [List.append_nil] at h1; exact sgs_inj h1
  | cons z V => rw [encS_cons] at h2; cases h2

/-- Where the next sign or atom is wrong there is no change that has the text. -/
theorem no_change {l rest : List UInt8} {cs gs : List At} (hl : l = chL cs gs ++ rest) (hc : ∀ a ∈ cs, atomB a = true) (hg : ∀ a ∈ gs, atomB a = true) (hr : rest ≠ [])
    (hno : ∀ y p post a, rest = (y :: p) ++ 32 :: post → 32 ∉ y :: p → getB p = some a → ¬ (y = 45 ∧ cs = []) ∧ y ≠ 43) (xs ys : List At) (h : changeB xs ys = true) : l ≠ chL xs ys := by
  intro he
  obtain ⟨_, _, a1, a2⟩ := change_put h
  rw [hl, ← encS_sgs, ← encS_sgs] at he
  obtain ⟨V, h1, h2⟩ := encS_prefix (sgs_atoms a1 a2) (sgs_atoms hc hg) he.symm
  cases V with
  | nil => exact hr (by rw [h2]; rfl)
  | cons z V =>
    have hz : z ∈ sgs xs ys := by rw [h1]; simp
    have hza := sgs_atoms a1 a2 z hz
    have hz4 : z.1 = 45 ∨ z.1 = 43 := by
      unfold sgs at hz
      rcases List.mem_append.1 hz with hz | hz
      · obtain ⟨a, _, rfl⟩ := List.mem_map.1 hz; exact .inl rfl
      · obtain ⟨a, _, rfl⟩ := List.mem_map.1 hz; exact .inr rfl
    have h32 : (32 : UInt8) ∉ z.1 :: textL z.2 := by
      intro hm
      rcases List.mem_cons.1 hm with hm | hm
      · rcases hz4 with e | e <;> rw [e] at hm <;> exact absurd hm (by decide)
      · exact text_no_blank hza hm
    obtain ⟨n1, n2⟩ := hno z.1 (textL z.2) (encS V) z.2 (by rw [h2, encS_cons]; rfl) h32 (getB_text hza)
    rcases hz4 with e | e
    · cases cs with
      | nil => exact n1 ⟨e, rfl⟩
      | cons c cs =>
        unfold sgs at h1
        have hp : (ys.map (fun a => ((45, a) : Sg)) ++ xs.map (fun a => ((43, a) : Sg))).Pairwise (fun u v : Sg => u.1 = 43 → v.1 = 43) := by
          rw [List.pairwise_append]
          refine ⟨pw_all _ fun u hu v _ h => ?_, pw_all _ fun u _ v hv _ => ?_, fun u hu v hv h => ?_⟩
          · obtain ⟨a, _, rfl⟩ := List.mem_map.1 hu
            exact absurd h (show ¬ (45 : UInt8) = 43 by decide)
          · obtain ⟨a, _, rfl⟩ := List.mem_map.1 hv
            rfl
          · obtain ⟨a, _, rfl⟩ := List.mem_map.1 hu
            exact absurd h (show ¬ (45 : UInt8) = 43 by decide)
        rw [h1, List.pairwise_append] at hp
        have := hp.2.2 (43, c) (by simp) z (by simp) rfl
        rw [e] at this
        exact absurd this (by decide)
    · exact n2 e

end Go.Proofs.YtahkkelahocplaaDoor

namespace Go.Proofs.YtahkkelahocplaaDoor
open Go.RowKit

/-- A change in the making: what goes lies in memory ahead of what comes. -/
structure CG (w : World) (cb lo mid hi : Nat) (vc vg : Value) (rc rg : List Rf) (W : World) : Prop where
  C : Blk W cb 54 #[vc, vg]
  G : W.ownsRow lo 24 2 vg rg.length (rcells rg)
  GL : ∀ g, vg.ownBlock = some g → g < mid
  GI : OwnIn W lo mid rg
  K : W.ownsRow mid 24 2 vc rc.length (rcells rc)
  KI : OwnIn W mid hi rc
  hc : w.heap.size ≤ cb
  h0 : cb < lo
  h1 : lo ≤ mid
  h2 : mid ≤ hi
  h3 : hi ≤ W.heap.size
  gr : Below w.heap.size w W

section
variable {w : World} {cb lo mid hi : Nat} {vc vg : Value} {rc rg : List Rf} {W W' : World} {R : Nat}

theorem CG.raise (h : CG w cb lo mid hi vc vg rc rg W) : CG w cb lo mid W.heap.size vc vg rc rg W :=
  ⟨h.C, h.G, h.GL, h.GI, h.K, h.KI.keep (fun _ _ _ => rfl) (Nat.le_refl _) h.h3, h.hc, h.h0, h.h1, Nat.le_trans h.h2 h.h3, Nat.le_refl _, h.gr⟩

theorem CG.step (h : CG w cb lo mid hi vc vg rc rg W) (hg : W.grownBy W' (some R)) (hR : R < lo) (hne : R ≠ cb) (hw : w.heap.size ≤ R) : CG w cb lo mid hi vc vg rc rg W' := by
  have h0 := h.h0; have h1 := h.h1; have h2 := h.h2; have h3 := h.h3; have hgs := hg.size; have hs := h.gr.size
  exact ⟨h.C.kept hg (fun e => hne (by injection e with e; exact e.symm)), h.G.kept hg (ownNe h.G hR), h.GL, h.GI.keep (fun b a1 a2 => hg.block b (by omega) (fun e => by injection e with e; omega)) (Nat.le_refl _) (Nat.le_refl _),
    h.K.kept hg (ownNe h.K (by omega)), h.KI.keep (fun b a1 a2 => hg.block b (by omega) (fun e => by injection e with e; omega)) (Nat.le_refl _) (Nat.le_refl _), h.hc, h.h0, h.h1, h.h2, Nat.le_trans h3 hgs,
    ⟨hg.os.trans h.gr.os, hg.tape.trans h.gr.tape, hg.output.trans h.gr.output, Nat.le_trans hs hgs, fun k hk => (hg.block k (by omega) (fun e => by injection e with e; omega)).trans (h.gr.block k hk)⟩⟩

theorem CG.below (h : CG w cb lo mid hi vc vg rc rg W) (hb : Below W.heap.size W W') : CG w cb lo mid hi vc vg rc rg W' := by
  have h2 := h.h2; have h3 := h.h3; have hbs := hb.size; have hs := h.gr.size
  exact ⟨h.C.below hb, ownsRow_up h.G hb, h.GL, h.GI.keep (fun b _ a2 => hb.block b (by omega)) (Nat.le_refl _) (Nat.le_refl _), ownsRow_up h.K hb, h.KI.keep (fun b _ a2 => hb.block b (by omega)) (Nat.le_refl _) (Nat.le_refl _),
    h.hc, h.h0, h.h1, h.h2, Nat.le_trans h3 hbs, h.gr.trans (hb.mono hs)⟩

/-- A block of another kind than the row's is none of the row. -/
theorem CG.box_far {base k : Nat} {v : Value} {xs : List Value} (hrow : W.ownsRow base 24 2 v k xs) (hC : Blk W cb 54 #[vc, vg]) : some cb ≠ v.ownBlock := by
  rcases hrow.2 with ⟨rfl, _⟩ | ⟨g, cap, cur, rfl, _, hgb, _⟩
  · simp [Value.ownBlock]
  · intro e
    simp [Value.ownBlock] at e
    rw [← e, show W.heap[cb]? = _ from hC] at hgb
    injection hgb with hgb
    injection hgb with _ hgb
    exact absurd hgb (by decide)

/-- One more goes, where nothing comes yet. -/
theorem CG.goes {r : Rf} {v' : Value} {ob : Obj} {W9 : World} (h : CG w cb lo mid hi (.slice none 0 0) vg [] rg W) (hr : HeadApart W hi W.heap.size r)
    (hown : W9.ownsRow lo 24 2 v' (rg.length + 1) (rcells rg ++ [.string r.1, .slice r.2.1 r.2.2.1 r.2.2.2.1])) (hgrow : (W.alloc ob).grownBy W9 vg.ownBlock) :
    CG w cb lo W9.heap.size W9.heap.size (.slice none 0 0) v' [] (rg ++ [r]) (W9.setCell ⟨cb, 1, none⟩ v') := by
  have h0 := h.h0; have h1 := h.h1; have h2 := h.h2; have h3 := h.h3; have hs := h.gr.size; have hc := h.hc
  have hb1 := below1 W ob
  have hgs := hgrow.size
  have hbs := hb1.size
  have hA := h.below hb1
  have far : ∀ g, vg.ownBlock = some g → lo ≤ g := fun g hg => (hA.G.lt g hg).1
  have i1 : OwnIn W lo W.heap.size (rg ++ [r]) := (h.GI.keep (fun _ _ _ => rfl) (Nat.le_refl _) h2).snoc (fun _ _ _ => rfl) h3 hr.1 (Nat.le_trans h1 h2) hr.2.1 hr.2.2
  have i2 : OwnIn W9 lo W9.heap.size (rg ++ [r]) := (i1.keep (w' := W.alloc ob) (fun b _ a2 => hb1.block b a2) (Nat.le_refl _) hbs).appended hA.G hgrow hgs
  have c9 : Blk W9 cb 54 #[.slice none 0 0, vg] := hA.C.kept hgrow (CG.box_far hA.G hA.C)
  have hn9 := CG.box_far hown c9
  refine ⟨c9.set 1 v', ?_, fun g hg => (hown.lt g hg).2, ?_, ⟨rfl, .inl ⟨rfl, rfl⟩⟩, OwnIn.nil, hc, h0, by omega, Nat.le_refl _, by rw [size_setCell]; exact Nat.le_refl _, ?_⟩
  · rw [List.length_append, rcells_snoc]; exact row_away hown hn9 _
  · exact i2.keep (fun b a1 _ => Below.heap_setCell _ _ _ b (by show b ≠ cb; omega)) (Nat.le_refl _) (Nat.le_refl _)
  · refine Below.setCell ?_ hc _
    exact ⟨hgrow.os.trans hA.gr.os, hgrow.tape.trans hA.gr.tape, hgrow.output.trans hA.gr.output, by omega, fun k hk => (hgrow.block k (by omega) (fun e => by have := far k e.symm; omega)).trans (hA.gr.block k hk)⟩

/-- One more comes. -/
theorem CG.comes {r : Rf} {v' : Value} {ob : Obj} {W9 : World} (h : CG w cb lo mid hi vc vg rc rg W) (hr : HeadApart W hi W.heap.size r)
    (hown : W9.ownsRow mid 24 2 v' (rc.length + 1) (rcells rc ++ [.string r.1, .slice r.2.1 r.2.2.1 r.2.2.2.1])) (hgrow : (W.alloc ob).grownBy W9 vc.ownBlock) :
    CG w cb lo mid W9.heap.size v' vg (rc ++ [r]) rg (W9.setCell ⟨cb, 0, none⟩ v') := by
  have h0 := h.h0; have h1 := h.h1; have h2 := h.h2; have h3 := h.h3; have hs := h.gr.size; have hc := h.hc
  have hb1 := below1 W ob
  have hgs := hgrow.size
  have hbs := hb1.size
  have hA := h.below hb1
  have far : ∀ g, vc.ownBlock = some g → mid ≤ g := fun g hg => (hA.K.lt g hg).1
  have i1 : OwnIn W mid W.heap.size (rc ++ [r]) := h.KI.snoc (fun _ _ _ => rfl) h3 hr.1 h2 hr.2.1 hr.2.2
  have i2 : OwnIn W9 mid W9.heap.size (rc ++ [r]) := (i1.keep (w' := W.alloc ob) (fun b _ a2 => hb1.block b a2) (Nat.le_refl _) hbs).appended hA.K hgrow hgs
  have c9 : Blk W9 cb 54 #[vc, vg] := hA.C.kept hgrow (CG.box_far hA.K hA.C)
  have hn9 := CG.box_far hown c9
  have gne : vg.ownBlock = none ∨ vg.ownBlock ≠ vc.ownBlock := by
    cases hv : vg.ownBlock with
    | none => exact .inl rfl
    | some g => exact .inr (fun e => by have a1 := far g e.symm; have a2 := h.GL g hv; omega)
  have g9 := hA.G.kept hgrow gne
  refine ⟨c9.set 0 v', row_away g9 (CG.box_far g9 c9) _, h.GL, ?_, ?_, ?_, hc, h0, h1, by omega, by rw [size_setCell]; exact Nat.le_refl _, ?_⟩
  · exact hA.GI.keep (fun b a1 a2 => (Below.heap_setCell _ _ _ b (by show b ≠ cb; omega)).trans (hgrow.block b (by omega) (fun e => by have := far b e.symm; omega))) (Nat.le_refl _) (Nat.le_refl _)
  · rw [List.length_append, rcells_snoc]; exact row_away hown hn9 _
  · exact i2.keep (fun b a1 _ => Below.heap_setCell _ _ _ b (by show b ≠ cb; omega)) (Nat.le_refl _) (Nat.le_refl _)
  · refine Below.setCell ?_ hc _
    exact ⟨hgrow.os.trans hA.gr.os, hgrow.tape.trans hA.gr.tape, hgrow.output.trans hA.gr.output, by omega, fun k hk => (hgrow.block k (by omega) (fun e => by have := far k e.symm; omega)).trans (hA.gr.block k hk)⟩
end

end Go.Proofs.YtahkkelahocplaaDoor

namespace Go.Proofs.YtahkkelahocplaaDoor
open Go.RowKit

set_option maxHeartbeats 1000000 in
theorem newReader_any (s : ByteArray) (w : World) :
    Calls Tryd.prog 86 #[.string s] w fun e w' => e = .returned (.pointer (some ⟨w.heap.size, 0, none⟩)) ∧ Rdr w' w.heap.size s 0 ∧ Below w.heap.size w w' ∧ w.heap.size < w'.heap.size := by
  have h0 : Hid (Rdr (w.alloc (.cells #[.string ⟨#[]⟩, .int .i64 0, .int .i64 0] 100)) w.heap.size ⟨#[]⟩ 0) := Lib.hid ⟨0, Blk.new w _ _⟩
  have hb := below1 w (.cells #[.string ⟨#[]⟩, .int .i64 0, .int .i64 0] 100)
  go_enter Tryd.func86, Tryd.ntmps86
  go_wp2_with fail
  refine (rdReset_any w.heap.size 0 ⟨#[]⟩ s _ h0.out).mono ?_; rintro e w2 ⟨rfl, hr, hg⟩
  have HR := Lib.hid hr; have HG := Lib.hid hg
  clear hr hg
  go_wp2
  go_ret
  exact ⟨rfl, HR.out, hb.grown HG.out hb.size (fun k hk => by injection hk with hk; omega), HR.out.lt⟩

/-- A change is told that a text is of, in memory of the call's own; or that it is of none. -/
def GetCPost (l : List UInt8) (w : World) (e : Ending) (w' : World) : Prop :=
  ∃ (A : Option Addr) (c : Nat) (ra : List Rf) (B : Option Addr) (d : Nat) (rb : List Rf) (mid : Nat) (ok : Bool), e = .returned (.tuple #[.agg #[.slice A ra.length c, .slice B rb.length d], .bool ok]) ∧
    OwnRefs w' mid w'.heap.size A ra.length c ra ∧ OwnRefs w' w.heap.size mid B rb.length d rb ∧ (w.heap.size ≤ mid ∧ mid ≤ w'.heap.size) ∧ Below w.heap.size w w' ∧
    (ok = true → changeB (ra.map rAt) (rb.map rAt) = true ∧ l = chL (ra.map rAt) (rb.map rAt)) ∧ (ok = false → ra = [] ∧ rb = [] ∧ ∀ xs ys, changeB xs ys = true → l ≠ chL xs ys)

section
variable {w : World} {cb lo mid hi : Nat} {vc vg : Value} {rc rg : List Rf} {W : World}

theorem CG.own (h : CG w cb lo mid hi vc vg rc rg W) : ∃ A c B d, vc = .slice A rc.length c ∧ vg = .slice B rg.length d ∧ OwnRefs W mid W.heap.size A rc.length c rc ∧ OwnRefs W w.heap.size mid B rg.length d rg := by
  have h0 := h.h0; have h1 := h.h1; have h2 := h.h2; have h3 := h.h3; have hc := h.hc
  obtain ⟨A, c, e1, o1⟩ := OwnRefs.of_row (lo := mid) h.K rfl (Nat.le_refl _) (h.KI.keep (fun _ _ _ => rfl) (Nat.le_refl _) h.h3) (Nat.le_refl _)
  obtain ⟨B, d, e2, o2⟩ := OwnRefs.of_row (lo := lo) h.G rfl (Nat.le_refl _) (h.GI.keep (fun _ _ _ => rfl) (Nat.le_refl _) (Nat.le_trans h.h2 h.h3)) (Nat.le_refl _)
  refine ⟨A, c, B, d, e1, e2, o1, o2.1, o2.2.1, o2.2.2.1, fun hn => ?_, h.GI.keep (fun _ _ _ => rfl) (by omega) (Nat.le_refl _)⟩
  obtain ⟨g, k, f, a1, a2, a3, a4⟩ := o2.2.2.2.1 hn
  exact ⟨g, k, f, a1, by omega, h.GL g (by rw [e2, a1]; rfl), a4⟩
end

theorem chL_goes (gs : List At) (a : At) : chL [] (gs ++ [a]) = chL [] gs ++ (45 :: (textL a ++ [32])) := by unfold chL signL; simp
theorem chL_comes (cs gs : List At) (a : At) : chL (cs ++ [a]) gs = chL cs gs ++ (43 :: (textL a ++ [32])) := by unfold chL signL; simp

theorem noRefs {w : World} {lo hi : Nat} : OwnRefs w lo hi none 0 0 [] := ⟨rfl, Nat.le_refl _, Nat.zero_le _, fun h0 => absurd h0 (by simp), OwnIn.nil⟩

theorem chL_uniq {xs ys xs' ys' : List At} (a1 : ∀ a ∈ xs, atomB a = true) (a2 : ∀ a ∈ ys, atomB a = true) (h' : changeB xs' ys' = true) (he : chL xs ys = chL xs' ys') : xs = xs' ∧ ys = ys' := by
  obtain ⟨_, _, b1, b2⟩ := change_put h'
  rw [← encS_sgs, ← encS_sgs] at he
  obtain ⟨V, h1, h2⟩ := encS_prefix (rest := []) (sgs_atoms a1 a2) (sgs_atoms b1 b2) (by rw [List.append_nil]; exact he)
  cases V with
  | nil => rw [List.append_nil] at h1; exact sgs_inj h1
  | cons z V => rw [encS_cons] at h2; cases h2

theorem Rdr.turned {w W9 : World} {R i base k cb c : Nat} {s : ByteArray} {v u : Value} {xs : List Value} {e : TypeId} {sz : Nat} {ob : Obj} (h : Rdr w R s i) (hrow : w.ownsRow base e sz v k xs) (hR : R < base) (hg : (w.alloc ob).grownBy W9 v.ownBlock) (hne : R ≠ cb) : Rdr (W9.setCell ⟨cb, c, none⟩ u) R s i := by
  obtain ⟨p, h⟩ := h
  exact ⟨p, ((h.alloc ob).kept hg (fun e' => by have := (hrow.lt R e'.symm).1; omega)).far (p := ⟨cb, c, none⟩) hne _⟩

/-- Where a change's reading stands. -/
structure CAt (s : ByteArray) (i : Nat) (rc rg : List Rf) : Prop where
  li : i ≤ s.size
  ln : rc.length + rg.length ≤ i
  ac : ∀ a ∈ rc.map rAt, atomB a = true
  ag : ∀ a ∈ rg.map rAt, atomB a = true
  tx : s.data.toList = chL (rc.map rAt) (rg.map rAt) ++ s.data.toList.drop i

section
variable {s : ByteArray} {i : Nat} {rc rg : List Rf} {r : Rf} {x : UInt8} {p post : List UInt8}

theorem CAt.start (s : ByteArray) : CAt s 0 [] [] := ⟨Nat.zero_le _, Nat.le_refl _, fun a h => by simp at h, fun a h => by simp at h, by simp [chL, signL]⟩

theorem drop_on (h : s.data.toList.drop i = (x :: p) ++ 32 :: post) : s.data.toList.drop (i + p.length + 2) = post := by
  rw [Nat.add_assoc, ← List.drop_drop, h]
  have : (x :: p) ++ 32 :: post = (x :: (p ++ [32])) ++ post := by simp
  rw [this]
  exact List.drop_left' (by simp)

theorem CAt.goes (h : CAt s i [] rg) (hd : s.data.toList.drop i = (45 :: p) ++ 32 :: post) (hg : getB p = some (rAt r)) (hj : i + p.length + 2 ≤ s.size) : CAt s (i + p.length + 2) [] (rg ++ [r]) := by
  obtain ⟨h1, h2, _⟩ := getB_some hg
  refine ⟨hj, by have := h.ln; simp only [List.length_append, List.length_nil, List.length_cons] at *; omega, h.ac, fun a ha => ?_, ?_⟩
  · rw [List.map_append] at ha
    rcases List.mem_append.1 ha with ha | ha
    · exact h.ag a ha
    · have ha' : a = rAt r := by simpa using ha
      rw [ha']; exact h1
  · rw [drop_on hd, List.map_append]
    show _ = chL [] (rg.map rAt ++ [rAt r]) ++ post
    rw [chL_goes, h2]
    have := h.tx
    rw [hd] at this
    rw [this]
    simp

theorem CAt.comes (h : CAt s i rc rg) (hd : s.data.toList.drop i = (43 :: p) ++ 32 :: post) (hg : getB p = some (rAt r)) (hj : i + p.length + 2 ≤ s.size) : CAt s (i + p.length + 2) (rc ++ [r]) rg := by
  obtain ⟨h1, h2, _⟩ := getB_some hg
  refine ⟨hj, by have := h.ln; simp only [List.length_append, List.length_nil, List.length_cons] at *; omega, fun a ha => ?_, h.ag, ?_⟩
  · rw [List.map_append] at ha
    rcases List.mem_append.1 ha with ha | ha
    · exact h.ac a ha
    · have ha' : a = rAt r := by simpa using ha
      rw [ha']; exact h1
  · rw [drop_on hd, List.map_append]
    show _ = chL (rc.map rAt ++ [rAt r]) (rg.map rAt) ++ post
    rw [chL_comes, h2]
    have := h.tx
    rw [hd] at this
    rw [this]
    simp

theorem CAt.none (h : CAt s i rc rg) (hi : i < s.size) (hno : ∀ y p post a, s.data.toList.drop i = (y :: p) ++ 32 :: post → 32 ∉ y :: p → getB p = some a → ¬ (y = 45 ∧ rc = []) ∧ y ≠ 43) :
    ∀ xs ys, changeB xs ys = true → s.data.toList ≠ chL xs ys :=
  no_change h.tx h.ac h.ag (fun e => by
    have h1 := congrArg List.length e
    have h0 : s.data.toList.length = s.size := by simp
    simp only [List.length_drop, h0, List.length_nil] at h1
    omega) (fun y p post a h1 h2 h3 => by
      obtain ⟨k1, k2⟩ := hno y p post a h1 h2 h3
      exact ⟨fun ⟨e1, e2⟩ => k1 ⟨e1, by simpa using e2⟩, k2⟩)

theorem CAt.all (h : CAt s i rc rg) (hi : ¬ i < s.size) : s.data.toList = chL (rc.map rAt) (rg.map rAt) := by
  have h1 := h.tx
  have h0 : s.data.toList.length = s.size := by simp
  rw [List.drop_of_length_le (by omega), List.append_nil] at h1
  exact h1
end

end Go.Proofs.YtahkkelahocplaaDoor

namespace Go.Proofs.YtahkkelahocplaaDoor
open Go.RowKit

set_option maxRecDepth 100000 in
set_option maxHeartbeats 8000000 in
theorem implChangeGet_any (s : ByteArray) (w : World) (hs : s.size ≤ 1048576) (hm : MaxIn w) (hE : EofIn w) :
    Calls Tryd.prog 45 #[.string s] w (GetCPost s.data.toList w) := by
  obtain ⟨i0, hi, hz, hsz, hby⟩ := info_parts Tryd.infoAt
  have HI := Lib.hid hi; have HZ := Lib.hid hz; have HSZ := Lib.hid hsz; have HYY := Lib.hid hby
  clear hi hz hsz hby
  have hml := World.block_lt_of_cell? _ _ hm.choose_spec
  have hel := World.block_lt_of_cell? _ _ hE.choose_spec.choose_spec
  have hb0 := below1 w (.cells #[.slice none 0 0, .slice none 0 0] 54)
  have X0 := Blk.new w 54 #[.slice none 0 0, .slice none 0 0]
  obtain ⟨w1, hw1⟩ : ∃ w1, w.alloc (.cells #[.slice none 0 0, .slice none 0 0] 54) = w1 := ⟨_, rfl⟩
  rw [hw1] at hb0 X0
  have hz1 : w1.heap.size = w.heap.size + 1 := by rw [← hw1]; simp
  have hb1 := below1 w1 (.cells #[.slice none 0 0, .slice none 0 0] 54)
  have X1 := Blk.new w1 54 #[.slice none 0 0, .slice none 0 0]
  obtain ⟨w2, hw2⟩ : ∃ w2, w1.alloc (.cells #[.slice none 0 0, .slice none 0 0] 54) = w2 := ⟨_, rfl⟩
  rw [hw2] at hb1 X1
  have hz2 : w2.heap.size = w.heap.size + 2 := by rw [← hw2]; simp [hz1]
  go_enter Tryd.func45, Tryd.ntmps45
  go_wp2_with fail
  refine (newReader_any s w2).mono ?_; rintro e w3 ⟨rfl, hr3, hb3, hlt3⟩
  rw [hz2] at hr3 hlt3 ⊢
  have HR3 := Lib.hid hr3
  have HC3 : Hid (CG w1 (w.heap.size + 1) (w.heap.size + 3) w3.heap.size w3.heap.size (.slice none 0 0) (.slice none 0 0) [] [] w3) := Lib.hid ⟨by have := X1.below hb3; rw [hz1] at this; exact this, ⟨rfl, .inl ⟨rfl, rfl⟩⟩, fun g hg => by simp [Value.ownBlock] at hg, OwnIn.nil, ⟨rfl, .inl ⟨rfl, rfl⟩⟩, OwnIn.nil, by omega, by omega, by omega, Nat.le_refl _, Nat.le_refl _, belowThen hb1 hb3⟩
  have X0 := Lib.hid X0; have HB0 := Lib.hid hb0
  clear hr3 hb3 hb1 hb0 X1 hw1 hw2
  have NO : ∀ (W : World) (mid hi : Nat) (vc vg : Value) (rc rg : List Rf), CG w1 (w.heap.size + 1) (w.heap.size + 3) mid hi vc vg rc rg W → (∀ xs ys, changeB xs ys = true → s.data.toList ≠ chL xs ys) → GetCPost s.data.toList w (.returned (.tuple #[.agg #[.slice none 0 0, .slice none 0 0], .bool false])) ((W.setCell ⟨w.heap.size, 0, none⟩ (.slice none 0 0)).setCell ⟨w.heap.size, 1, none⟩ (.slice none 0 0)) := by
    intro W mid hi vc vg rc rg hC hno
    have hg := hC.gr
    have hgs := hg.size
    have hb : Below w.heap.size w W := belowThen HB0.out hg
    have hb2 := (hb.setCell (p := ⟨w.heap.size, 0, none⟩) (Nat.le_refl _) (.slice none 0 0)).setCell (p := ⟨w.heap.size, 1, none⟩) (Nat.le_refl _) (.slice none 0 0)
    exact ⟨none, 0, [], none, 0, [], w.heap.size, false, rfl, noRefs, noRefs, ⟨Nat.le_refl _, hb2.size⟩, hb2, (fun h => by cases h), fun _ => ⟨rfl, rfl, hno⟩⟩
  have HNO := Lib.hid NO; clear NO
  have hR1 : 1 ≠ w.heap.size + 2 := by have : 1 < w.heap.size := hel; omega
  have hR2 : 0 ≠ w.heap.size + 2 := by have : 0 < w.heap.size := hml; omega
  have hE1 := hE.below HB0.out; have hm1 := hm.below HB0.out
  clear hE hm hml hel
  go_wp2_with fail
  go_loopw [] (fun wr => ∃ (i mid hi : Nat) (vc vg : Value) (rc rg : List Rf), Rdr wr (w.heap.size + 2) s i ∧ CG w1 (w.heap.size + 1) (w.heap.size + 3) mid hi vc vg rc rg wr ∧ CAt s i rc rg ∧ (rc = [] → vc = .slice none 0 0)) (fun wr => match wr.cell? ⟨w.heap.size + 2, 1, none⟩ with | some (.int _ j) => s.size - j.toNat | _ => 0)
  case atStart => exact ⟨0, _, _, _, _, [], [], HR3.out, HC3.out, CAt.start s, fun _ => rfl⟩
  case round =>
    obtain ⟨i, mid, hi, vc, vg, rc, rg, hr, hC, hA, hv⟩ := hrel
    clear HR3 HC3
    have HR := Lib.hid hr; have HC := Lib.hid hC.raise; have HA := Lib.hid hA; have HV := Lib.hid hv
    have hli := hA.li; have hln := hA.ln
    have hEr := hE1.below hC.gr; have hmr := hm1.below hC.gr
    have y1 : wr.cell? ⟨w.heap.size + 2, 1, none⟩ = some (.int .i64 (i : Int)) := by obtain ⟨p, hr⟩ := hr; exact hr.cell 1
    clear hr hC hA hv
    go_wp2_with fail
    refine (rdLen_any (w.heap.size + 2) i s wr HR.out hli hs).mono ?_; rintro e w4 ⟨rfl, hb4⟩
    have HR4 := Lib.hid (HR.out.below hb4); have HC4 := Lib.hid (HC.out.below hb4).raise
    have hE4 := hEr.below hb4; have hm4 := hmr.below hb4
    clear hb4 HR HC hEr hmr
    by_cases hlt : i < s.size
    · have hltI : (0 : Int) < ((s.size - i : Nat) : Int) := by omega
      go_wp2_with fail
      refine (signed_any (w.heap.size + 2) i s w4 HR4.out hli hs hE4 hR1 hm4 hR2).mono ?_; rintro e w5 ⟨x, r, ok, j, rfl, hj, hr5, hH5, hg5, hok, hno⟩
      unfold rfVal
      have hbx := below1 w5 (.cells #[.string r.1, .slice r.2.1 r.2.2.1 r.2.2.2.1] 24)
      have HC6 := (HC4.out.step hg5 (by omega) (by omega) (by omega)).below hbx
      have HR6 := hr5.below hbx
      have B6 := Blk.new w5 24 #[.string r.1, .slice r.2.1 r.2.2.1 r.2.2.2.1]
      have H6 : HeadApart (w5.alloc (.cells #[.string r.1, .slice r.2.1 r.2.2.1 r.2.2.2.1] 24)) w4.heap.size (w5.alloc (.cells #[.string r.1, .slice r.2.1 r.2.2.1 r.2.2.2.1] 24)).heap.size r := hH5.keep (fun b _ h2 => hbx.block b h2) (Nat.le_refl _) hbx.size
      obtain ⟨W6, hW6⟩ : ∃ W6, w5.alloc (.cells #[.string r.1, .slice r.2.1 r.2.2.1 r.2.2.2.1] 24) = W6 := ⟨_, rfl⟩
      rw [hW6] at HC6 HR6 B6 H6
      have b0 : W6.cell? ⟨w5.heap.size, 0, none⟩ = some (.string r.1) := B6.cell 0
      have b1 : W6.cell? ⟨w5.heap.size, 1, none⟩ = some (.slice r.2.1 r.2.2.1 r.2.2.2.1) := B6.cell 1
      obtain ⟨A, c, B, d, ea, eb, _, _⟩ := HC6.own
      subst ea; subst eb
      have c0 : W6.cell? ⟨w.heap.size + 1, 0, none⟩ = some (.slice A rc.length c) := HC6.C.cell 0
      have c1 : W6.cell? ⟨w.heap.size + 1, 1, none⟩ = some (.slice B rg.length d) := HC6.C.cell 1
      have X6 := X0.out.below HC6.gr
      have a0 : W6.cell? ⟨w.heap.size, 0, none⟩ = some (.slice none 0 0) := X6.cell 0
      have a1 : W6.cell? ⟨w.heap.size, 1, none⟩ = some (.slice none 0 0) := X6.cell 1
      have f0 := X6.frozen 0; have f1 := X6.frozen 1
      have HCB := Lib.hid (HC6.C.alloc (.cells #[.string r.1, .slice r.2.1 r.2.2.1 r.2.2.2.1] 24))
      have hz6 := HC6.h3; have hz6a := HC6.h1; have hz6b := HC6.h2
      have HC := Lib.hid HC6; have HR := Lib.hid HR6; have H := Lib.hid H6; have HOK := Lib.hid hok; have HN := Lib.hid hno; have HW := Lib.hid hW6
      clear HC6 HR6 H6 hok hno hW6 B6 X6 hbx hr5 hH5 hg5 HR4 HC4 hE4 hm4
      by_cases hA1 : ok = true ∧ x = 45 ∧ rc = []
      · obtain ⟨rfl, rfl, rfl⟩ := hA1
        obtain ⟨p, post, h1, h2, h3, rfl⟩ := HOK.out rfl
        have hv := HV.out rfl
        injection hv with e1 _ e2
        subst e1; subst e2
        have HRW := Lib.hid HC.out.G
        have H1 := Lib.hid h1; have H3 := Lib.hid h3
        clear HV h1 h2 h3 HOK HN
        have hwx := HW.out
        go_wp2_with (at_builtin; refine wpList_append_own _ rfl _ _ 52 rfl (w.heap.size + 3) 24 i0 _ 2 40 Tryd.underlying52 HI.out HZ.out HSZ.out HYY.out rfl (by decide) _ _ _ rfl (HRW.out.alloc _) ⟨W6.heap.size, 0, none⟩ 1 1 [.string r.1, .slice r.2.1 r.2.2.1 r.2.2.2.1] rfl rfl (two_new _ _ _ _) (by simp [Value.oneCell']) (by unfold maxLen; omega) (by omega) (by simp; omega) ?_; intro v' w9 hown' hgrow' _; have X9 := Blk.kept HCB.out hgrow' (CG.box_far (HRW.out.alloc _) HCB.out); have q2 := X9.cell 1; have q2' := X9.frozen 1; obtain ⟨g', cap', rfl⟩ := ownsRow_succ hown'; have hown := Lib.hid hown'; have hgrow := Lib.hid hgrow'; clear hown' hgrow' X9)
        have hM := HC.out.goes H.out hown.out hgrow.out
        have hR9 := HR.out.turned (cb := w.heap.size + 1) (c := 1) (u := .slice (some ⟨g', 0, none⟩) (rg.length + 1) cap') HRW.out (by omega) hgrow.out (by omega)
        have y9 : (w9.setCell ⟨w.heap.size + 1, 1, none⟩ (.slice (some ⟨g', 0, none⟩) (rg.length + 1) cap')).cell? ⟨w.heap.size + 2, 1, none⟩ = some (.int .i64 ((i + p.length + 2 : Nat) : Int)) := by obtain ⟨p', hr⟩ := hR9; exact hr.cell 1
        go_roundw
        case rel => exact ⟨_, _, _, _, _, [], rg ++ [r], hR9, hM, HA.out.goes H1.out H3.out hj, fun _ => rfl⟩
        case measure =>
          rw [y9, y1]
          show s.size - ((i + p.length + 2 : Nat) : Int).toNat < s.size - ((i : Nat) : Int).toNat
          omega
      · by_cases hB1 : ok = true ∧ x = 43
        · obtain ⟨rfl, rfl⟩ := hB1
          obtain ⟨p, post, h1, h2, h3, rfl⟩ := HOK.out rfl
          have HRW := Lib.hid HC.out.K
          have H1 := Lib.hid h1; have H3 := Lib.hid h3
          clear HV h1 h2 h3 HOK HN hA1
          have hwx := HW.out
          go_wp2_with (at_builtin; refine wpList_append_own _ rfl _ _ 52 rfl mid 24 i0 _ 2 40 Tryd.underlying52 HI.out HZ.out HSZ.out HYY.out rfl (by decide) _ _ _ rfl (HRW.out.alloc _) ⟨W6.heap.size, 0, none⟩ 1 1 [.string r.1, .slice r.2.1 r.2.2.1 r.2.2.2.1] rfl rfl (two_new _ _ _ _) (by simp [Value.oneCell']) (by unfold maxLen; omega) (by omega) (by simp; omega) ?_; intro v' w9 hown' hgrow' _; have X9 := Blk.kept HCB.out hgrow' (CG.box_far (HRW.out.alloc _) HCB.out); have q2 := X9.cell 0; have q2' := X9.frozen 0; obtain ⟨g', cap', rfl⟩ := ownsRow_succ hown'; have hown := Lib.hid hown'; have hgrow := Lib.hid hgrow'; clear hown' hgrow' X9)
          have hM := HC.out.comes H.out hown.out hgrow.out
          have hR9 := HR.out.turned (cb := w.heap.size + 1) (c := 0) (u := .slice (some ⟨g', 0, none⟩) (rc.length + 1) cap') HRW.out (by omega) hgrow.out (by omega)
          have y9 : (w9.setCell ⟨w.heap.size + 1, 0, none⟩ (.slice (some ⟨g', 0, none⟩) (rc.length + 1) cap')).cell? ⟨w.heap.size + 2, 1, none⟩ = some (.int .i64 ((i + p.length + 2 : Nat) : Int)) := by obtain ⟨p', hr⟩ := hR9; exact hr.cell 1
          go_roundw
          case rel => exact ⟨_, _, _, _, _, rc ++ [r], rg, hR9, hM, HA.out.comes H1.out H3.out hj, fun h => absurd h (by simp)⟩
          case measure =>
            rw [y9, y1]
            show s.size - ((i + p.length + 2 : Nat) : Int).toNat < s.size - ((i : Nat) : Int).toNat
            omega
        · have hnone := HA.out.none hlt (fun y p post a h1 h2 h3 => by
            cases ok with
            | false => rw [HN.out rfl y p post h1 h2] at h3; cases h3
            | true =>
              obtain ⟨p', post', k1, k2, k3, _⟩ := HOK.out rfl
              obtain ⟨k4, _⟩ := mark_first (k1.symm.trans h1) k2 h2
              injection k4 with k4 _
              subst k4
              exact ⟨fun ⟨e1, e2⟩ => hA1 ⟨rfl, e1, e2⟩, fun e1 => hB1 ⟨rfl, e1⟩⟩)
          have HNN := Lib.hid hnone
          have hwx := HW.out
          clear hnone HOK HN HV
          cases ok with
          | false =>
            go_wp2
            exact bodyPost_ret (v := .tuple #[.agg #[.slice none 0 0, .slice none 0 0], .bool false]) (by simp [results, Tryd.results45, go_sem, a0, a1]) rfl (HNO.out W6 _ _ _ _ _ _ HC.out HNN.out)
          | true =>
            have h43 : ¬ (x.toNat : Int) = 43 := fun e => hB1 ⟨rfl, UInt8.toNat_inj.1 (show x.toNat = (43 : UInt8).toNat by show x.toNat = 43; omega)⟩
            by_cases h45 : x = 45
            · subst h45
              have hnr : ¬ (rc.length : Int) = 0 := fun e => hA1 ⟨rfl, rfl, List.eq_nil_of_length_eq_zero (by omega)⟩
              go_wp2
              exact bodyPost_ret (v := .tuple #[.agg #[.slice none 0 0, .slice none 0 0], .bool false]) (by simp [results, Tryd.results45, go_sem, a0, a1]) rfl (HNO.out W6 _ _ _ _ _ _ HC.out HNN.out)
            · have h45I : ¬ (x.toNat : Int) = 45 := fun e => h45 (UInt8.toNat_inj.1 (show x.toNat = (45 : UInt8).toNat by show x.toNat = 45; omega))
              go_wp2
              exact bodyPost_ret (v := .tuple #[.agg #[.slice none 0 0, .slice none 0 0], .bool false]) (by simp [results, Tryd.results45, go_sem, a0, a1]) rfl (HNO.out W6 _ _ _ _ _ _ HC.out HNN.out)
    · have hltI : ¬ (0 : Int) < ((s.size - i : Nat) : Int) := by omega
      obtain ⟨A, c, B, d, ea, eb, oa, og⟩ := HC4.out.own
      subst ea; subst eb
      have c0 : w4.cell? ⟨w.heap.size + 1, 0, none⟩ = some (.slice A rc.length c) := HC4.out.C.cell 0
      have c1 : w4.cell? ⟨w.heap.size + 1, 1, none⟩ = some (.slice B rg.length d) := HC4.out.C.cell 1
      have IA := Lib.hid (oa.atoms.keep (w' := w4) (lo' := 0) (hi' := w4.heap.size) AtomE.stays (fun _ _ _ => rfl) (Nat.zero_le _) (Nat.le_refl _))
      have IG := Lib.hid (og.atoms.keep (w' := w4) (lo' := 0) (hi' := w4.heap.size) AtomE.stays (fun _ _ _ => rfl) (Nat.zero_le _) (Nat.le_trans HC4.out.h2 HC4.out.h3))
      have OA := Lib.hid oa; have OG := Lib.hid og
      have hall := HA.out.all hlt
      clear oa og
      go_wp2_with fail
      refine (implChangeOk_any A B rc.length c rg.length d (rc.map rAt) (rg.map rAt) w4 IA.out IG.out).mono ?_; rintro e w7 ⟨rfl, hb7⟩
      have HC7 := Lib.hid (HC4.out.below hb7)
      have X7 := X0.out.below HC7.out.gr
      have a0 : w7.cell? ⟨w.heap.size, 0, none⟩ = some (.slice none 0 0) := X7.cell 0
      have a1 : w7.cell? ⟨w.heap.size, 1, none⟩ = some (.slice none 0 0) := X7.cell 1
      have f0 := X7.frozen 0; have f1 := X7.frozen 1
      have d0 : w7.cell? ⟨w.heap.size + 1, 0, none⟩ = some (.slice A rc.length c) := HC7.out.C.cell 0
      have d1 : w7.cell? ⟨w.heap.size + 1, 1, none⟩ = some (.slice B rg.length d) := HC7.out.C.cell 1
      clear hb7 X7 c0 c1 HC4
      cases hch : changeB (rc.map rAt) (rg.map rAt)
      · have hnone : ∀ xs ys, changeB xs ys = true → s.data.toList ≠ chL xs ys := fun xs ys h he => by
          obtain ⟨e1, e2⟩ := chL_uniq HA.out.ac HA.out.ag h (hall.symm.trans he)
          rw [e1, e2, h] at hch; cases hch
        have HNN := Lib.hid hnone
        clear hnone
        go_wp2
        exact bodyPost_ret (v := .tuple #[.agg #[.slice none 0 0, .slice none 0 0], .bool false]) (by simp [results, Tryd.results45, go_sem, a0, a1]) rfl (HNO.out w7 _ _ _ _ _ _ HC7.out HNN.out)
      · obtain ⟨A', c', B', d', ea, eb, oa, og⟩ := HC7.out.own
        injection ea with e1 _ e2
        injection eb with e3 _ e4
        subst e1; subst e2; subst e3; subst e4
        have k0 := HC7.out.h0; have k1 := HC7.out.h1; have k2 := HC7.out.h2; have k3 := HC7.out.h3
        have OA7 := Lib.hid oa; have OG7 := Lib.hid og
        have HB7 := Lib.hid (belowThen HB0.out HC7.out.gr)
        clear oa og
        go_wp2
        refine bodyPost_ret (v := .tuple #[.agg #[.slice A rc.length c, .slice B rg.length d], .bool true]) (by simp [results, Tryd.results45, go_sem, a0, a1]) rfl ⟨A, c, rc, B, d, rg, mid, true, rfl, ?_, ?_, ⟨by omega, by simp only [size_setCell]; omega⟩, (HB7.out.setCell (Nat.le_refl _) _).setCell (Nat.le_refl _) _, fun _ => ⟨hch, hall⟩, (fun h => by cases h)⟩
        · exact OA7.out.keep (fun b a1 _ => (Below.heap_setCell _ _ _ b (by show b ≠ w.heap.size; omega)).trans (Below.heap_setCell _ _ _ b (by show b ≠ w.heap.size; omega))) (Nat.le_refl _) (by simp only [size_setCell]; exact Nat.le_refl _)
        · exact OG7.out.keep (fun b a1 _ => (Below.heap_setCell _ _ _ b (by show b ≠ w.heap.size; omega)).trans (Below.heap_setCell _ _ _ b (by show b ≠ w.heap.size; omega))) (by omega) (Nat.le_refl _)

end Go.Proofs.YtahkkelahocplaaDoor

namespace Go.Proofs.YtahkkelahocplaaDoor
open Go.RowKit

/-- A change in the making, its rows in any order. -/
structure SG (w : World) (cb lo hi : Nat) (vc vg : Value) (rc rg : List Rf) (W : World) : Prop where
  C : Blk W cb 54 #[vc, vg]
  G : W.ownsRow lo 24 2 vg rg.length (rcells rg)
  K : W.ownsRow lo 24 2 vc rc.length (rcells rc)
  NE : ∀ g, vg.ownBlock = some g → vc.ownBlock ≠ some g
  GI : OwnIn W lo hi rg
  KI : OwnIn W lo hi rc
  hc : w.heap.size ≤ cb
  h0 : cb < lo
  h1 : lo ≤ hi
  h3 : hi ≤ W.heap.size
  gr : Below w.heap.size w W

section
variable {w : World} {cb lo hi : Nat} {vc vg : Value} {rc rg : List Rf} {W W' : World} {r : Rf} {ob : Obj} {W9 : World} {g' n cap : Nat}

theorem SG.raise (h : SG w cb lo hi vc vg rc rg W) : SG w cb lo W.heap.size vc vg rc rg W :=
  ⟨h.C, h.G, h.K, h.NE, h.GI.keep (fun _ _ _ => rfl) (Nat.le_refl _) h.h3, h.KI.keep (fun _ _ _ => rfl) (Nat.le_refl _) h.h3, h.hc, h.h0, Nat.le_trans h.h1 h.h3, Nat.le_refl _, h.gr⟩

theorem SG.below (h : SG w cb lo hi vc vg rc rg W) (hb : Below W.heap.size W W') : SG w cb lo hi vc vg rc rg W' := by
  have h3 := h.h3; have hbs := hb.size; have hs := h.gr.size
  exact ⟨h.C.below hb, ownsRow_up h.G hb, ownsRow_up h.K hb, h.NE, h.GI.keep (fun b _ a2 => hb.block b (by omega)) (Nat.le_refl _) (Nat.le_refl _), h.KI.keep (fun b _ a2 => hb.block b (by omega)) (Nat.le_refl _) (Nat.le_refl _),
    h.hc, h.h0, h.h1, Nat.le_trans h3 hbs, h.gr.trans (hb.mono hs)⟩

theorem SG.goes (h : SG w cb lo hi vc vg rc rg W) (hr : HeadApart W hi W.heap.size r)
    (hown : W9.ownsRow lo 24 2 (.slice (some ⟨g', 0, none⟩) n cap) (rg.length + 1) (rcells rg ++ [.string r.1, .slice r.2.1 r.2.2.1 r.2.2.2.1])) (hgrow : (W.alloc ob).grownBy W9 vg.ownBlock) (hat : vg.ownBlock = some g' ∨ g' = W.heap.size + 1) :
    SG w cb lo W9.heap.size vc (.slice (some ⟨g', 0, none⟩) n cap) rc (rg ++ [r]) (W9.setCell ⟨cb, 1, none⟩ (.slice (some ⟨g', 0, none⟩) n cap)) := by
  have h0 := h.h0; have h1 := h.h1; have h3 := h.h3; have hs := h.gr.size; have hc := h.hc
  have hb1 := below1 W ob
  have hgs := hgrow.size
  have hbs := hb1.size
  have hA := h.below hb1
  have far : ∀ g, vg.ownBlock = some g → lo ≤ g := fun g hg => (hA.G.lt g hg).1
  have i1 : OwnIn W lo W.heap.size (rg ++ [r]) := h.GI.snoc (fun _ _ _ => rfl) h3 hr.1 h1 hr.2.1 hr.2.2
  have i2 : OwnIn W9 lo W9.heap.size (rg ++ [r]) := (i1.keep (w' := W.alloc ob) (fun b _ a2 => hb1.block b a2) (Nat.le_refl _) hbs).appended hA.G hgrow hgs
  have j2 : OwnIn W9 lo W9.heap.size rc := (hA.KI.keep (fun _ _ _ => rfl) (Nat.le_refl _) hA.h3).appended hA.G hgrow hgs
  have c9 : Blk W9 cb 54 #[vc, vg] := hA.C.kept hgrow (CG.box_far hA.G hA.C)
  have hn9 := CG.box_far hown c9
  have kne : vc.ownBlock = none ∨ vc.ownBlock ≠ vg.ownBlock := by
    cases hv : vg.ownBlock with
    | none => cases hv2 : vc.ownBlock with
      | none => exact .inl rfl
      | some g => exact .inr (by simp)
    | some g => exact .inr (h.NE g hv)
  have k9 := hA.K.kept hgrow kne
  refine ⟨c9.set 1 _, ?_, row_away k9 (CG.box_far k9 c9) _, fun g hg hg2 => ?_, ?_, ?_, hc, h0, by omega, by rw [size_setCell]; exact Nat.le_refl _, ?_⟩
  · rw [List.length_append, rcells_snoc]; exact row_away hown hn9 _
  · simp [Value.ownBlock] at hg
    subst hg
    rcases hat with e | e
    · exact h.NE g' e hg2
    · have := (h.K.lt g' hg2).2; omega
  · exact i2.keep (fun b a1 _ => Below.heap_setCell _ _ _ b (by show b ≠ cb; omega)) (Nat.le_refl _) (Nat.le_refl _)
  · exact j2.keep (fun b a1 _ => Below.heap_setCell _ _ _ b (by show b ≠ cb; omega)) (Nat.le_refl _) (Nat.le_refl _)
  · refine Below.setCell ?_ hc _
    exact ⟨hgrow.os.trans hA.gr.os, hgrow.tape.trans hA.gr.tape, hgrow.output.trans hA.gr.output, by omega, fun k hk => (hgrow.block k (by omega) (fun e => by have := far k e.symm; omega)).trans (hA.gr.block k hk)⟩

theorem SG.comes (h : SG w cb lo hi vc vg rc rg W) (hr : HeadApart W hi W.heap.size r)
    (hown : W9.ownsRow lo 24 2 (.slice (some ⟨g', 0, none⟩) n cap) (rc.length + 1) (rcells rc ++ [.string r.1, .slice r.2.1 r.2.2.1 r.2.2.2.1])) (hgrow : (W.alloc ob).grownBy W9 vc.ownBlock) (hat : vc.ownBlock = some g' ∨ g' = W.heap.size + 1) :
    SG w cb lo W9.heap.size (.slice (some ⟨g', 0, none⟩) n cap) vg (rc ++ [r]) rg (W9.setCell ⟨cb, 0, none⟩ (.slice (some ⟨g', 0, none⟩) n cap)) := by
  have h0 := h.h0; have h1 := h.h1; have h3 := h.h3; have hs := h.gr.size; have hc := h.hc
  have hb1 := below1 W ob
  have hgs := hgrow.size
  have hbs := hb1.size
  have hA := h.below hb1
  have far : ∀ g, vc.ownBlock = some g → lo ≤ g := fun g hg => (hA.K.lt g hg).1
  have i1 : OwnIn W lo W.heap.size (rc ++ [r]) := h.KI.snoc (fun _ _ _ => rfl) h3 hr.1 h1 hr.2.1 hr.2.2
  have i2 : OwnIn W9 lo W9.heap.size (rc ++ [r]) := (i1.keep (w' := W.alloc ob) (fun b _ a2 => hb1.block b a2) (Nat.le_refl _) hbs).appended hA.K hgrow hgs
  have j2 : OwnIn W9 lo W9.heap.size rg := (hA.GI.keep (fun _ _ _ => rfl) (Nat.le_refl _) hA.h3).appended hA.K hgrow hgs
  have c9 : Blk W9 cb 54 #[vc, vg] := hA.C.kept hgrow (CG.box_far hA.K hA.C)
  have hn9 := CG.box_far hown c9
  have kne : vg.ownBlock = none ∨ vg.ownBlock ≠ vc.ownBlock := by
    cases hv : vg.ownBlock with
    | none => exact .inl rfl
    | some g => exact .inr (fun e => h.NE g hv e.symm)
  have k9 := hA.G.kept hgrow kne
  refine ⟨c9.set 0 _, row_away k9 (CG.box_far k9 c9) _, ?_, fun g hg hg2 => ?_, ?_, ?_, hc, h0, by omega, by rw [size_setCell]; exact Nat.le_refl _, ?_⟩
  · rw [List.length_append, rcells_snoc]; exact row_away hown hn9 _
  · simp [Value.ownBlock] at hg2
    subst hg2
    rcases hat with e | e
    · exact h.NE g' hg e
    · have := (h.G.lt g' hg).2; omega
  · exact j2.keep (fun b a1 _ => Below.heap_setCell _ _ _ b (by show b ≠ cb; omega)) (Nat.le_refl _) (Nat.le_refl _)
  · exact i2.keep (fun b a1 _ => Below.heap_setCell _ _ _ b (by show b ≠ cb; omega)) (Nat.le_refl _) (Nat.le_refl _)
  · refine Below.setCell ?_ hc _
    exact ⟨hgrow.os.trans hA.gr.os, hgrow.tape.trans hA.gr.tape, hgrow.output.trans hA.gr.output, by omega, fun k hk => (hgrow.block k (by omega) (fun e => by have := far k e.symm; omega)).trans (hA.gr.block k hk)⟩

theorem SG.tells (h : SG w cb lo hi vc vg rc rg W) : ∃ A c B d, vc = .slice A rc.length c ∧ vg = .slice B rg.length d ∧ IsAtoms W lo W.heap.size A rc.length c (rc.map rAt) ∧ IsAtoms W lo W.heap.size B rg.length d (rg.map rAt) := by
  obtain ⟨A, c, e1, o1⟩ := OwnRefs.of_row (lo := lo) h.K rfl (Nat.le_refl _) (h.KI.keep (fun _ _ _ => rfl) (Nat.le_refl _) h.h3) (Nat.le_refl _)
  obtain ⟨B, d, e2, o2⟩ := OwnRefs.of_row (lo := lo) h.G rfl (Nat.le_refl _) (h.GI.keep (fun _ _ _ => rfl) (Nat.le_refl _) h.h3) (Nat.le_refl _)
  exact ⟨A, c, B, d, e1, e2, o1.atoms, o2.atoms⟩
end

/-- A change is told that a text is of; or that it is of none. -/
def GetDPost (l : List UInt8) (w : World) (e : Ending) (w' : World) : Prop :=
  ∃ (A : Option Addr) (c n : Nat) (xs : List At) (B : Option Addr) (d m : Nat) (ys : List At) (ok : Bool), e = .returned (.tuple #[.agg #[.slice A n c, .slice B m d], .bool ok]) ∧
    IsAtoms w' 0 w'.heap.size A n c xs ∧ IsAtoms w' 0 w'.heap.size B m d ys ∧ Below w.heap.size w w' ∧
    (ok = true → changeB xs ys = true ∧ l = chL xs ys) ∧ (ok = false → xs = [] ∧ ys = [] ∧ ∀ us vs, changeB us vs = true → l ≠ chL us vs)

theorem cuts_free (c : UInt8) : ∀ (n : Nat) (l : List UInt8), l.length ≤ n → ∀ x ∈ cuts c l, c ∉ x
  | n, l, hn => by
    rcases first_of c l with h | ⟨x, r, rfl, h⟩
    · rw [cuts_none h]; intro y hy; rw [List.mem_singleton.1 hy]; exact h
    · rw [cuts_first h]; intro y hy
      rcases List.mem_cons.1 hy with rfl | hy
      · exact h
      · cases n with
        | zero => simp at hn
        | succ n => exact cuts_free c n r (by simp at hn; omega) y hy

theorem join_on {x y : List UInt8} {r : List (List UInt8)} : Lib.join (x :: y :: r) [32] = x ++ 32 :: Lib.join (y :: r) [32] := by
  rw [Lib.join_cons, joinTail_cons, Lib.join_cons]; simp

theorem join_signed : ∀ (T : List Sg) (r : List (List UInt8)), r ≠ [] → Lib.join (T.map (fun z => z.1 :: textL z.2) ++ r) [32] = encS T ++ Lib.join r [32]
  | [], r, _ => by simp [encS]
  | z :: T, r, hr => by
    have ih := join_signed T r hr
    rw [encS_cons, List.map_cons, List.cons_append]
    cases hm : T.map (fun z => z.1 :: textL z.2) ++ r with
    | nil => simp at hm; exact absurd hm.2 hr
    | cons y q => rw [join_on, ← hm, ih]; simp

/-- Where the model's reading stands: k words are signs and atoms. -/
structure SAt (ws : List (List UInt8)) (k : Nat) (T : List Sg) (cs gs : List At) : Prop where
  len : T.length = k
  at_ : ∀ z ∈ T, atomB z.2 = true
  wd : ws.take k = T.map fun z => z.1 :: textL z.2
  ec : cs = T.filterMap fun z => if z.1 = 45 then none else some z.2
  eg : gs = T.filterMap fun z => if z.1 = 45 then some z.2 else none

section
variable {ws : List (List UInt8)} {k : Nat} {T : List Sg} {cs gs : List At} {l : List UInt8}

theorem SAt.start (ws : List (List UInt8)) : SAt ws 0 [] [] [] := ⟨rfl, fun z h => by simp at h, by simp, rfl, rfl⟩

theorem SAt.text (h : SAt ws k T cs gs) (hl : cuts 32 l = ws) (hk : k < ws.length) : l = encS T ++ Lib.join (ws.drop k) [32] := by
  have h1 := cuts_join 32 l
  rw [hl, ← List.take_append_drop k ws, h.wd, join_signed _ _ (fun e => by have := congrArg List.length e; simp at this; omega)] at h1
  exact h1.symm

theorem SAt.goes {p : List UInt8} {a : At} (h : SAt ws k T cs gs) (hw : ws[k]? = some (45 :: p)) (hg : getB p = some a) : SAt ws (k + 1) (T ++ [(45, a)]) cs (gs ++ [a]) := by
  obtain ⟨h1, h2, _⟩ := getB_some hg
  refine ⟨by rw [List.length_append, h.len]; rfl, fun z hz => ?_, by rw [List.take_add_one, hw, h.wd, List.map_append]; simp [h2], by rw [List.filterMap_append, ← h.ec]; simp, by rw [List.filterMap_append, ← h.eg]; simp⟩
  rcases List.mem_append.1 hz with hz | hz
  · exact h.at_ z hz
  · rw [List.mem_singleton.1 hz]; exact h1

theorem SAt.comes {p : List UInt8} {a : At} {x : UInt8} (h : SAt ws k T cs gs) (hx : x ≠ 45) (hw : ws[k]? = some (x :: p)) (hg : getB p = some a) : SAt ws (k + 1) (T ++ [(x, a)]) (cs ++ [a]) gs := by
  obtain ⟨h1, h2, _⟩ := getB_some hg
  refine ⟨by rw [List.length_append, h.len]; rfl, fun z hz => ?_, by rw [List.take_add_one, hw, h.wd, List.map_append]; simp [h2], by rw [List.filterMap_append, ← h.ec]; simp [hx], by rw [List.filterMap_append, ← h.eg]; simp [hx]⟩
  rcases List.mem_append.1 hz with hz | hz
  · exact h.at_ z hz
  · rw [List.mem_singleton.1 hz]; exact h1

/-- A word that is no sign with an atom: there is no change. -/
theorem SAt.none {x : List UInt8} (h : SAt ws k T cs gs) (hl : cuts 32 l = ws) (hk : k + 1 < ws.length) (hw : ws[k]? = some x) (hx : (32 : UInt8) ∉ x) (hno : ∀ y p, x = y :: p → getB p = none) (us vs : List At) (hch : changeB us vs = true) : l ≠ chL us vs := by
  intro he
  obtain ⟨_, _, a1, a2⟩ := change_put hch
  have ht := h.text hl (by omega)
  rw [he, ← encS_sgs] at ht
  obtain ⟨V, h1, h2⟩ := encS_prefix (sgs_atoms a1 a2) h.at_ ht
  obtain ⟨hk0, hkx⟩ := List.getElem?_eq_some_iff.1 hw
  have hd : ws.drop k = x :: ws[k + 1] :: ws.drop (k + 2) := by
    rw [List.drop_eq_getElem_cons hk0, hkx, List.drop_eq_getElem_cons hk]
  rw [hd, join_on] at h2
  cases V with
  | nil => simp [encS] at h2
  | cons z V =>
    rw [encS_cons] at h2
    have hz := sgs_atoms a1 a2 z (by rw [h1]; simp)
    have hz4 : z.1 ≠ 32 := by
      have hz : z ∈ sgs us vs := by rw [h1]; simp
      unfold sgs at hz
      rcases List.mem_append.1 hz with hz | hz
      · obtain ⟨a, _, rfl⟩ := List.mem_map.1 hz; exact (show (45 : UInt8) ≠ 32 by decide)
      · obtain ⟨a, _, rfl⟩ := List.mem_map.1 hz; exact (show (43 : UInt8) ≠ 32 by decide)
    have h32 : (32 : UInt8) ∉ z.1 :: textL z.2 := fun hm => by
      rcases List.mem_cons.1 hm with hm | hm
      · exact hz4 hm.symm
      · exact text_no_blank hz hm
    obtain ⟨h3, _⟩ := mark_first (a := x) (b := z.1 :: textL z.2) (by rw [h2]; rfl) hx h32
    have h4 := hno z.1 (textL z.2) h3
    rw [getB_text hz] at h4
    cases h4

/-- All words but the last are read. -/
theorem SAt.all (h : SAt ws k T cs gs) (hl : cuts 32 l = ws) (hk : k + 1 = ws.length) (hb : ∀ x ∈ ws, (32 : UInt8) ∉ x) :
    (chB cs gs = l → changeB cs gs = true ∧ l = chL cs gs) ∧ (chB cs gs ≠ l → ∀ us vs, changeB us vs = true → l ≠ chL us vs) := by
  have ht := h.text hl (by omega)
  have hk0 : k < ws.length := by omega
  have hd : ws.drop k = [ws[k]] := by
    rw [List.drop_eq_getElem_cons hk0, List.drop_of_length_le (by omega)]
  rw [hd, Lib.join_cons] at ht
  rw [show Lib.joinTail [32] ([] : List (List UInt8)) = [] from rfl, List.append_nil] at ht
  have hlast := hb ws[k] (List.getElem_mem hk0)
  refine ⟨fun he => ?_, fun hne us vs hch he => ?_⟩
  · cases hc : changeB cs gs
    · exfalso
      unfold chB at he
      rw [hc, if_neg (by simp)] at he
      subst he
      have h1 : ws = [[]] := by rw [← hl]; exact cuts_none (by simp)
      have h2 : T = [] := List.eq_nil_of_length_eq_zero (by rw [h.len]; rw [h1] at hk; simp at hk; exact hk)
      rw [h.ec, h.eg, h2] at hc
      revert hc
      decide
    · unfold chB at he
      rw [hc, if_pos rfl] at he
      exact ⟨rfl, he.symm⟩
  · obtain ⟨_, _, a1, a2⟩ := change_put hch
    rw [he, ← encS_sgs] at ht
    obtain ⟨V, h1, h2⟩ := encS_prefix (sgs_atoms a1 a2) h.at_ ht
    cases V with
    | cons z V => rw [h2, encS_cons] at hlast; exact hlast (by simp)
    | nil =>
      rw [List.append_nil] at h1
      have e1 : cs = us := by rw [h.ec, ← h1]; unfold sgs; simp [List.filterMap_append, List.filterMap_map, Function.comp_def]
      have e2 : gs = vs := by rw [h.eg, ← h1]; unfold sgs; simp [List.filterMap_append, List.filterMap_map, Function.comp_def]
      apply hne
      rw [e1, e2, he]
      unfold chB
      rw [if_pos hch]
end

end Go.Proofs.YtahkkelahocplaaDoor

namespace Go.Proofs.YtahkkelahocplaaDoor
open Go.RowKit

set_option maxRecDepth 100000 in
set_option maxHeartbeats 8000000 in
theorem specChangeGet_any (s : ByteArray) (w : World) (hs : s.size ≤ 1048576) :
    Calls Tryd.prog 44 #[.string s] w (GetDPost s.data.toList w) := by
  obtain ⟨i0, hi, hz, hsz, hby⟩ := info_parts Tryd.infoAt
  have HI := Lib.hid hi; have HZ := Lib.hid hz; have HSZ := Lib.hid hsz; have HYY := Lib.hid hby
  clear hi hz hsz hby
  obtain ⟨ws, hws⟩ : ∃ x, cutsB 32 s = x := ⟨_, rfl⟩
  have hwl : ws.length ≤ s.size + 1 := by rw [← hws]; exact cutsB_len 32 s
  have hwz : ∀ x ∈ ws, x.size ≤ 1048576 := fun x hx => Nat.le_trans (cutsB_size (c := 32) (s := s) (by rw [hws]; exact hx)) hs
  have hwd : cuts 32 s.data.toList = ws.map (fun x => x.data.toList) := by rw [← hws]; exact (cutsB_data 32 s).symm
  have hfree : ∀ x ∈ ws.map (fun x => x.data.toList), (32 : UInt8) ∉ x := by rw [← hwd]; exact cuts_free 32 _ _ (Nat.le_refl _)
  have hw0 : 0 < ws.length := by
    have h1 := congrArg List.length hwd
    rw [cuts_eq] at h1
    simp at h1; omega
  have HWS := Lib.hid hws; have HWZ := Lib.hid hwz; have HWD := Lib.hid hwd; have HFR := Lib.hid hfree
  clear hws hwz hwd hfree
  have hb0 := below1 w (.cells #[.slice none 0 0, .slice none 0 0] 54)
  have X0 := Blk.new w 54 #[.slice none 0 0, .slice none 0 0]
  obtain ⟨w1, hw1⟩ : ∃ w1, w.alloc (.cells #[.slice none 0 0, .slice none 0 0] 54) = w1 := ⟨_, rfl⟩
  rw [hw1] at hb0 X0
  have hz1 : w1.heap.size = w.heap.size + 1 := by rw [← hw1]; simp
  have hb1 := below1 w1 (.cells #[.slice none 0 0, .slice none 0 0] 54)
  have X1 := Blk.new w1 54 #[.slice none 0 0, .slice none 0 0]
  obtain ⟨w2, hw2⟩ : ∃ w2, w1.alloc (.cells #[.slice none 0 0, .slice none 0 0] 54) = w2 := ⟨_, rfl⟩
  rw [hw2] at hb1 X1
  have hz2 : w2.heap.size = w.heap.size + 2 := by rw [← hw2]; simp [hz1]
  have HW2 := Lib.hid hw2; clear hw2
  go_enter Tryd.func44, Tryd.ntmps44
  go_wp2_with fail
  rw [HW2.out]
  refine (l1Cut_any s 32 w2 hs).mono ?_; rintro e w3 ⟨pp, d3, rfl, hT3, hb3⟩
  rw [HWS.out] at hT3 ⊢
  have hz3 := hb3.size
  have HC3 : Hid (SG w1 (w.heap.size + 1) w3.heap.size w3.heap.size (.slice none 0 0) (.slice none 0 0) [] [] w3) := Lib.hid ⟨by have := X1.below hb3; rw [hz1] at this; exact this, ⟨rfl, .inl ⟨rfl, rfl⟩⟩, ⟨rfl, .inl ⟨rfl, rfl⟩⟩, fun g hg => by simp [Value.ownBlock] at hg, OwnIn.nil, OwnIn.nil, by omega, by omega, by omega, Nat.le_refl _, belowThen hb1 hb3⟩
  have HT3 := Lib.hid hT3
  rw [hz2] at HT3
  have X0 := Lib.hid X0; have HB0 := Lib.hid hb0
  clear hT3 hb3 hb1 hb0 X1 hw1 HW2
  have NO : ∀ (W : World) (hi : Nat) (vc vg : Value) (rc rg : List Rf), SG w1 (w.heap.size + 1) w3.heap.size hi vc vg rc rg W → (∀ us vs, changeB us vs = true → s.data.toList ≠ chL us vs) → GetDPost s.data.toList w (.returned (.tuple #[.agg #[.slice none 0 0, .slice none 0 0], .bool false])) ((W.setCell ⟨w.heap.size, 0, none⟩ (.slice none 0 0)).setCell ⟨w.heap.size, 1, none⟩ (.slice none 0 0)) := by
    intro W hi vc vg rc rg hC hno
    have hb : Below w.heap.size w W := belowThen HB0.out hC.gr
    have hb2 := (hb.setCell (p := ⟨w.heap.size, 0, none⟩) (Nat.le_refl _) (.slice none 0 0)).setCell (p := ⟨w.heap.size, 1, none⟩) (Nat.le_refl _) (.slice none 0 0)
    exact ⟨none, 0, 0, [], none, 0, 0, [], false, rfl, (noRefs (lo := 0) (hi := _)).atoms, (noRefs (lo := 0) (hi := _)).atoms, hb2, (fun h => by cases h), fun _ => ⟨rfl, rfl, hno⟩⟩
  have HNO := Lib.hid NO; clear NO
  go_wp2_with fail
  go_loopw [6] (fun i wr => ∃ (k hi : Nat) (vc vg : Value) (rc rg : List Rf) (T : List Sg), k + 1 ≤ ws.length ∧ i = .int .i64 (k : Int) ∧ SG w1 (w.heap.size + 1) w3.heap.size hi vc vg rc rg wr ∧ SAt (ws.map (fun x => x.data.toList)) k T (rc.map rAt) (rg.map rAt) ∧ rc.length + rg.length ≤ k ∧ ∀ b, w.heap.size + 2 ≤ b → b < w3.heap.size → wr.heap[b]? = w3.heap[b]?) (fun i _ => ws.length - (intOf i).toNat)
  case atStart => exact ⟨0, _, _, _, [], [], [], by omega, rfl, HC3.out, SAt.start _, Nat.le_refl _, fun _ _ _ => rfl⟩
  case round =>
    obtain ⟨k, hi, vc, vg, rc, rg, T, hk, rfl, hC, hA, hln, hkeep⟩ := hrel
    clear HC3
    have HC := Lib.hid hC.raise; have HA := Lib.hid hA; have HK := Lib.hid hkeep
    have hT := HT3.out.keep TextE.stays (fun q h1 h2 => World.cell?_of_block (hkeep q.block h1 h2)) (Nat.le_refl _) (Nat.le_refl _)
    clear hC hA hkeep
    have hwk : IntKind.i64.wrap ((k : Int) + 1) = ((k + 1 : Nat) : Int) := by rw [IntKind.wrap_i64]; omega
    by_cases hlt : k + 1 < ws.length
    · have hltI : ((k + 1 : Nat) : Int) < (ws.length : Int) := by omega
      have hkI : (k : Int) < (ws.length : Int) := by omega
      obtain ⟨p, x, hA1, hlo, hhi, hg, hE⟩ := hT.at_ (show k < ws.length by omega)
      injection hA1 with hA1
      subst hA1
      have cE : wr.cell? (pp.add (k * 1)) = some (.string x) := hE
      have cE2 : wr.cell? (pp.add k) = some (.string x) := by rw [Nat.mul_one] at cE; exact cE
      have hxz : x.size ≤ 1048576 := HWZ.out x (List.mem_of_getElem? hg)
      have hgd : (ws.map (fun x => x.data.toList))[k]? = some x.data.toList := by rw [List.getElem?_map, hg]; rfl
      have hx32 : (32 : UInt8) ∉ x.data.toList := HFR.out _ (List.mem_of_getElem? hgd)
      have HGD := Lib.hid hgd; have HX32 := Lib.hid hx32
      clear hT hE hg hgd hx32
      have X6 := X0.out.below HC.out.gr
      have a0 : wr.cell? ⟨w.heap.size, 0, none⟩ = some (.slice none 0 0) := X6.cell 0
      have a1 : wr.cell? ⟨w.heap.size, 1, none⟩ = some (.slice none 0 0) := X6.cell 1
      have f0 := X6.frozen 0; have f1 := X6.frozen 1
      by_cases hx0 : x.size = 0
      · have hnone := HA.out.none HWD.out (by rw [List.length_map]; exact hlt) HGD.out HX32.out (fun y p e => by
          have h1 := congrArg List.length e
          have h2 : x.data.toList.length = x.size := by simp
          rw [h2] at h1; simp at h1; omega)
        have HNN := Lib.hid hnone
        clear hnone X6
        have hx0I : (x.size : Int) = 0 := by omega
        go_wp2
        exact bodyPost_ret (v := .tuple #[.agg #[.slice none 0 0, .slice none 0 0], .bool false]) (by simp [results, Tryd.results44, go_sem, a0, a1]) rfl (HNO.out wr _ _ _ _ _ HC.out HNN.out)
      · obtain ⟨y, q, hyq⟩ : ∃ y q, x.data.toList = y :: q := by
          cases h : x.data.toList with
          | nil =>
            have h2 : x.data.toList.length = x.size := by simp
            rw [h] at h2; simp at h2; omega
          | cons y q => exact ⟨y, q, rfl⟩
        have hxl : x.size = q.length + 1 := by
          have h2 : x.data.toList.length = x.size := by simp
          rw [hyq] at h2; simp at h2; omega
        have hx0I : ¬ (x.size : Int) = 0 := by omega
        have hx1I : (1 : Int) ≤ (x.size : Int) := by omega
        have hx2I : (0 : Int) < (x.size : Int) := by omega
        have HYQ := Lib.hid hyq
        clear hyq
        obtain ⟨T0, hT0⟩ : ∃ T0 : ByteArray, x.extract 1 (q.length + 1) = T0 := ⟨_, rfl⟩
        have hTd : T0.data.toList = q := by rw [← hT0, ByteArray.data_extract, Array.toList_extract, HYQ.out]; simp
        have hTs : T0.size ≤ 1048576 := by
          have h1 : T0.size = T0.data.toList.length := by simp
          rw [h1, hTd]; omega
        obtain ⟨hj0, hxe'⟩ := byte_there (s := x) (i := 0) (pre := []) (post := q) (b := y) (by simpa using HYQ.out) (Nat.zero_le _)
        have hpos : 0 < x.size := by omega
        have hxe : x[0]'hpos = y := hxe'
        clear hxe' hj0 X6
        go_wp2_with fail
        clear hT0
        refine (specAtomGet_any T0 wr hTs).mono ?_; rintro e w5 ⟨r, rfl, hH, hr, hb5⟩
        rw [hTd] at hr ⊢
        unfold rfVal
        have hbx := below1 w5 (.cells #[.string r.1, .slice r.2.1 r.2.2.1 r.2.2.2.1] 24)
        have hb6 := belowThen hb5 hbx
        have H6 : HeadApart (w5.alloc (.cells #[.string r.1, .slice r.2.1 r.2.2.1 r.2.2.2.1] 24)) wr.heap.size (w5.alloc (.cells #[.string r.1, .slice r.2.1 r.2.2.1 r.2.2.2.1] 24)).heap.size r := hH.keep (fun b _ h2 => hbx.block b h2) (Nat.le_refl _) hbx.size
        have B6 := Blk.new w5 24 #[.string r.1, .slice r.2.1 r.2.2.1 r.2.2.2.1]
        obtain ⟨W6, hW6⟩ : ∃ W6, w5.alloc (.cells #[.string r.1, .slice r.2.1 r.2.2.1 r.2.2.2.1] 24) = W6 := ⟨_, rfl⟩
        rw [hW6] at hb6 H6 B6
        have hz6 := hb6.size
        have hz61 := HC.out.h1
        have b0 : W6.cell? ⟨w5.heap.size, 0, none⟩ = some (.string r.1) := B6.cell 0
        have b1 : W6.cell? ⟨w5.heap.size, 1, none⟩ = some (.slice r.2.1 r.2.2.1 r.2.2.2.1) := B6.cell 1
        have cE6 : W6.cell? (pp.add (k * 1)) = some (.string x) := (hb6.cell (p := pp.add (k * 1)) (by rw [block_add]; omega)).trans cE
        have cE7 : W6.cell? (pp.add k) = some (.string x) := by rw [Nat.mul_one] at cE6; exact cE6
        have hC6 := HC.out.below hb6
        have X6 := X0.out.below hC6.gr
        have a0 : W6.cell? ⟨w.heap.size, 0, none⟩ = some (.slice none 0 0) := X6.cell 0
        have a1 : W6.cell? ⟨w.heap.size, 1, none⟩ = some (.slice none 0 0) := X6.cell 1
        have f0 := X6.frozen 0; have f1 := X6.frozen 1
        obtain ⟨A, c, B, d, ea, eb, _, _⟩ := hC6.tells
        have c0 : W6.cell? ⟨w.heap.size + 1, 0, none⟩ = some vc := hC6.C.cell 0
        have c1 : W6.cell? ⟨w.heap.size + 1, 1, none⟩ = some vg := hC6.C.cell 1
        have HCB := Lib.hid (hC6.C.alloc (.cells #[.string r.1, .slice r.2.1 r.2.2.1 r.2.2.2.1] 24))
        have HC6 := Lib.hid hC6; have H := Lib.hid H6; have HB6 := Lib.hid hb6; have HW := Lib.hid hW6
        clear hC6 H6 hb6 hW6 B6 X6 hbx hb5 hH HC
        cases hgb : getB q with
        | none =>
          have hnone := HA.out.none HWD.out (by rw [List.length_map]; exact hlt) HGD.out HX32.out (fun y' p e => by
            rw [HYQ.out] at e
            injection e with _ e
            rw [← e]; exact hgb)
          have HNN := Lib.hid hnone
          clear hnone hgb hr
          rw [show (none : Option At).isSome = false from rfl]
          have hwx := HW.out
          go_wp2
          exact bodyPost_ret (v := .tuple #[.agg #[.slice none 0 0, .slice none 0 0], .bool false]) (by simp [results, Tryd.results44, go_sem, a0, a1]) rfl (HNO.out W6 _ _ _ _ _ HC6.out HNN.out)
        | some a =>
          have hra : rAt r = a := by rw [hr, hgb]; rfl
          rw [show (some a : Option At).isSome = true from rfl]
          by_cases hy : y = 45
          · subst hy
            have hI : ((x[0]'hpos).toNat : Int) = 45 := by rw [hxe]; rfl
            have HS := Lib.hid (HA.out.goes (by rw [HGD.out, HYQ.out]) (by rw [hgb, ← hra]))
            clear hgb hr hra
            have hwx := HW.out
            subst eb
            have HRW := Lib.hid HC6.out.G
            go_wp2_with (at_builtin; refine wpList_append_lies _ rfl _ _ 52 rfl w3.heap.size 24 i0 _ 2 40 Tryd.underlying52 HI.out HZ.out HSZ.out HYY.out rfl (by decide) _ _ _ rfl (HRW.out.alloc _) ⟨W6.heap.size, 0, none⟩ 1 1 [.string r.1, .slice r.2.1 r.2.2.1 r.2.2.2.1] rfl rfl (two_new _ _ _ _) (by simp [Value.oneCell']) (by omega) (by unfold maxLen; omega) (by omega) (by simp; omega) (W6.heap.size + 1) (by simp) ?_; intro g' cap' w9 hown' hgrow' hat' _; have X9 := Blk.kept HCB.out hgrow' (CG.box_far (HRW.out.alloc _) HCB.out); have q2 := X9.cell 1; have q2' := X9.frozen 1; have hown := Lib.hid hown'; have hgrow := Lib.hid hgrow'; have hat := Lib.hid hat'; clear hown' hgrow' hat' X9)
            have hM := HC6.out.goes H.out hown.out hgrow.out hat.out
            have hfar : ∀ b, (Value.slice B rg.length d).ownBlock = some b → w3.heap.size ≤ b := fun b hb => (HC6.out.G.lt b hb).1
            go_roundw
            case rel => exact ⟨k + 1, _, _, _, _, _, _, by omega, by go_num, hM, by rw [List.map_append]; exact HS.out, by simp only [List.length_append, List.length_cons, List.length_nil]; omega, fun b h1 h2 => (Below.heap_setCell _ _ _ b (by show b ≠ w.heap.size + 1; omega)).trans ((hgrow.out.block b (by have := (below1 W6 (.cells #[.string r.1, .slice r.2.1 r.2.2.1 r.2.2.2.1] 24)).size; omega) (fun e => by have := hfar b e.symm; omega)).trans (((below1 W6 _).block b (by omega)).trans ((HB6.out.block b (by omega)).trans (HK.out b h1 h2))))⟩
            case measure => simp [intOf]; omega
          · have hI : ¬ ((x[0]'hpos).toNat : Int) = 45 := by
              rw [hxe]
              exact fun e => hy (UInt8.toNat_inj.1 (show y.toNat = (45 : UInt8).toNat by show y.toNat = 45; omega))
            have hI2 : ¬ (y.toNat : Int) = 45 := by rw [← hxe]; exact hI
            have HS := Lib.hid (HA.out.comes hy (by rw [HGD.out, HYQ.out]) (by rw [hgb, ← hra]))
            clear hgb hr hra
            have hwx := HW.out
            subst ea
            have HRW := Lib.hid HC6.out.K
            go_wp2_with (at_builtin; refine wpList_append_lies _ rfl _ _ 52 rfl w3.heap.size 24 i0 _ 2 40 Tryd.underlying52 HI.out HZ.out HSZ.out HYY.out rfl (by decide) _ _ _ rfl (HRW.out.alloc _) ⟨W6.heap.size, 0, none⟩ 1 1 [.string r.1, .slice r.2.1 r.2.2.1 r.2.2.2.1] rfl rfl (two_new _ _ _ _) (by simp [Value.oneCell']) (by omega) (by unfold maxLen; omega) (by omega) (by simp; omega) (W6.heap.size + 1) (by simp) ?_; intro g' cap' w9 hown' hgrow' hat' _; have X9 := Blk.kept HCB.out hgrow' (CG.box_far (HRW.out.alloc _) HCB.out); have q2 := X9.cell 0; have q2' := X9.frozen 0; have hown := Lib.hid hown'; have hgrow := Lib.hid hgrow'; have hat := Lib.hid hat'; clear hown' hgrow' hat' X9)
            have hM := HC6.out.comes H.out hown.out hgrow.out hat.out
            have hfar : ∀ b, (Value.slice A rc.length c).ownBlock = some b → w3.heap.size ≤ b := fun b hb => (HC6.out.K.lt b hb).1
            go_roundw
            case rel => exact ⟨k + 1, _, _, _, _, _, _, by omega, by go_num, hM, by rw [List.map_append]; exact HS.out, by simp only [List.length_append, List.length_cons, List.length_nil]; omega, fun b h1 h2 => (Below.heap_setCell _ _ _ b (by show b ≠ w.heap.size + 1; omega)).trans ((hgrow.out.block b (by have := (below1 W6 (.cells #[.string r.1, .slice r.2.1 r.2.2.1 r.2.2.2.1] 24)).size; omega) (fun e => by have := hfar b e.symm; omega)).trans (((below1 W6 _).block b (by omega)).trans ((HB6.out.block b (by omega)).trans (HK.out b h1 h2))))⟩
            case measure => simp [intOf]; omega
    · have hltI : ¬ ((k + 1 : Nat) : Int) < (ws.length : Int) := by omega
      obtain ⟨A, c, B, d, ea, eb, ia, ig⟩ := HC.out.tells
      subst ea; subst eb
      have c0 : wr.cell? ⟨w.heap.size + 1, 0, none⟩ = some (.slice A rc.length c) := HC.out.C.cell 0
      have c1 : wr.cell? ⟨w.heap.size + 1, 1, none⟩ = some (.slice B rg.length d) := HC.out.C.cell 1
      have IA := Lib.hid (ia.keep (w' := wr) (lo' := 0) (hi' := wr.heap.size) AtomE.stays (fun _ _ _ => rfl) (Nat.zero_le _) (Nat.le_refl _)); have IG := Lib.hid (ig.keep (w' := wr) (lo' := 0) (hi' := wr.heap.size) AtomE.stays (fun _ _ _ => rfl) (Nat.zero_le _) (Nat.le_refl _))
      have JA := Lib.hid ia; have JG := Lib.hid ig
      obtain ⟨hall, hbad⟩ := HA.out.all HWD.out (by rw [List.length_map]; omega) HFR.out
      clear ia ig hT
      go_wp2_with fail
      refine (specChangePut_any A rc.length c B rg.length d (rc.map rAt) (rg.map rAt) wr IA.out IG.out).mono ?_; rintro e w7 ⟨rfl, hb7⟩
      have HC7 := Lib.hid (HC.out.below hb7)
      have X7 := X0.out.below HC7.out.gr
      have a0 : w7.cell? ⟨w.heap.size, 0, none⟩ = some (.slice none 0 0) := X7.cell 0
      have a1 : w7.cell? ⟨w.heap.size, 1, none⟩ = some (.slice none 0 0) := X7.cell 1
      have f0 := X7.frozen 0; have f1 := X7.frozen 1
      have d0 : w7.cell? ⟨w.heap.size + 1, 0, none⟩ = some (.slice A rc.length c) := HC7.out.C.cell 0
      have d1 : w7.cell? ⟨w.heap.size + 1, 1, none⟩ = some (.slice B rg.length d) := HC7.out.C.cell 1
      have IA7 := Lib.hid (JA.out.keep (w' := w7) (lo' := w3.heap.size) (hi' := w7.heap.size) AtomE.stays (fun q _ h2 => hb7.cell (p := q) h2) (Nat.le_refl _) hb7.size); have IG7 := Lib.hid (JG.out.keep (w' := w7) (lo' := w3.heap.size) (hi' := w7.heap.size) AtomE.stays (fun q _ h2 => hb7.cell (p := q) h2) (Nat.le_refl _) hb7.size)
      clear hb7 X7 c0 c1 HC IA IG
      by_cases hput : chB (rc.map rAt) (rg.map rAt) = s.data.toList
      · obtain ⟨h1, h2⟩ := hall hput
        have hpb : (chB (rc.map rAt) (rg.map rAt) == s.toList) = true := by rw [toList_data, hput]; exact beq_self_eq_true _
        clear hput hall hbad
        have HB7 := Lib.hid (belowThen HB0.out HC7.out.gr)
        go_wp2
        refine bodyPost_ret (v := .tuple #[.agg #[.slice A rc.length c, .slice B rg.length d], .bool true]) (by simp [results, Tryd.results44, go_sem, a0, a1]) rfl ⟨A, c, _, rc.map rAt, B, d, _, rg.map rAt, true, rfl, ?_, ?_, (HB7.out.setCell (Nat.le_refl _) _).setCell (Nat.le_refl _) _, fun _ => ⟨h1, h2⟩, (fun h => by cases h)⟩
        · exact IA7.out.keep AtomE.stays (fun q h1 _ => World.cell?_of_block ((Below.heap_setCell _ _ _ _ (by show q.block ≠ w.heap.size; omega)).trans (Below.heap_setCell _ _ _ _ (by show q.block ≠ w.heap.size; omega)))) (Nat.zero_le _) (by simp only [size_setCell]; exact Nat.le_refl _)
        · exact IG7.out.keep AtomE.stays (fun q h1 _ => World.cell?_of_block ((Below.heap_setCell _ _ _ _ (by show q.block ≠ w.heap.size; omega)).trans (Below.heap_setCell _ _ _ _ (by show q.block ≠ w.heap.size; omega)))) (Nat.zero_le _) (by simp only [size_setCell]; exact Nat.le_refl _)
      · have HNN := Lib.hid (hbad hput)
        have hpb : (chB (rc.map rAt) (rg.map rAt) == s.toList) = false := by rw [toList_data, beq_eq_false_iff_ne]; exact hput
        clear hput hall hbad
        go_wp2
        exact bodyPost_ret (v := .tuple #[.agg #[.slice none 0 0, .slice none 0 0], .bool false]) (by simp [results, Tryd.results44, go_sem, a0, a1]) rfl (HNO.out w7 _ _ _ _ _ HC7.out HNN.out)

end Go.Proofs.YtahkkelahocplaaDoor

namespace Go.Proofs.YtahkkelahocplaaDoor
open Go.RowKit

set_option maxRecDepth 100000 in
set_option maxHeartbeats 1000000 in
theorem markChange_rev (lo mid hi : Nat) (A B : Option Addr) (n c n' c' k : Nat) (ra rb : List Rf) (w : World) (h : OwnRefs w mid hi A n c ra) (h' : OwnRefs w lo mid B n' c' rb) (hl : lo ≤ mid) (hm : mid ≤ hi) (hh : hi ≤ w.heap.size) (hk1 : markN k ra ≤ 2 ^ 62) (hk2 : markN (markN k ra) rb ≤ 2 ^ 62) :
    Calls Tryd.prog 47 #[.agg #[.slice A n c, .slice B n' c'], .int .i64 (k : Int)] w fun e w' => e = .returned (.int .i64 ((markN (markN k ra) rb : Nat) : Int)) ∧ OwnRefs w' mid hi A n c (markRs k ra) ∧ OwnRefs w' lo mid B n' c' (markRs (markN k ra) rb) ∧ Within lo hi w w' := by
  have H := Lib.hid h; have H' := Lib.hid h'; clear h h'
  have hw1 := below1 w (.cells #[.slice A n c, .slice B n' c'] 54)
  have B1 := Blk.new w 54 #[.slice A n c, .slice B n' c']
  obtain ⟨X, hX⟩ : ∃ X, w.alloc (.cells #[.slice A n c, .slice B n' c'] 54) = X := ⟨_, rfl⟩
  have hXd := Lib.hid hX
  rw [hX] at hw1 B1; clear hX
  have hz1 := hw1.size
  have HX := Lib.hid (H.out.below hw1 hh); have HX' := Lib.hid (H'.out.below hw1 (by omega)); clear H H'
  obtain ⟨k1, e1⟩ : ∃ z, markN k ra = z := ⟨_, rfl⟩
  rw [e1] at hk1 hk2 ⊢
  obtain ⟨k2, e2⟩ : ∃ z, markN k1 rb = z := ⟨_, rfl⟩
  rw [e2] at hk2 ⊢
  have E1 := Lib.hid e1; have E2 := Lib.hid e2; clear e1 e2
  have b0 : X.cell? ⟨w.heap.size, 0, none⟩ = some (.slice A n c) := B1.cell 0
  go_enter Tryd.func47, Tryd.ntmps47
  go_wp2_with fail
  rw [hXd.out]
  refine (markAtomS_any mid hi A n c k ra _ HX.out (by omega) (by rw [E1.out]; exact hk1)).mono ?_; rintro e w2 ⟨rfl, ho2, hb2⟩
  rw [E1.out]
  have O2 := Lib.hid ho2; clear ho2
  have B2 := B1.within hb2 (.inr (by omega))
  have b1 : w2.cell? ⟨w.heap.size, 1, none⟩ = some (.slice B n' c') := B2.cell 1
  have hz2 := hb2.size
  have O2' := Lib.hid (HX'.out.keep (w' := w2) (fun b h1 h2 => hb2.block b (by omega) (.inl h2)) (Nat.le_refl _) (Nat.le_refl _))
  clear b0
  go_wp2_with fail
  refine (markAtomS_any lo mid B n' c' k1 rb _ O2'.out (by omega) (by rw [E2.out]; exact hk2)).mono ?_; rintro e w3 ⟨rfl, ho3, hb3⟩
  rw [E2.out]
  have O3 := Lib.hid ho3; clear ho3
  have O3' := Lib.hid (O2.out.keep (w' := w3) (fun b h1 h2 => hb3.block b (by omega) (.inr h1)) (Nat.le_refl _) (Nat.le_refl _))
  have hw := ((Within.of (lo := lo) (hi := hi) hw1).trans (hb2.wide hl (Nat.le_refl _))).trans (hb3.wide (Nat.le_refl _) hm)
  clear b1
  go_wp2
  go_ret; exact ⟨rfl, O3'.out, O3.out, hw⟩

theorem few_change {xs ys : List At} (h : changeB xs ys = true) : SmallAtoms xs.length xs ∧ SmallAtoms ys.length ys := by
  obtain ⟨h1, h2, h3, h4⟩ := change_put h
  have key : ∀ a : At, atomB a = true → a.2.length ≤ 1048576 := fun a ha => by
    unfold atomB at ha
    simp only [Bool.and_eq_true, decide_eq_true_eq] at ha
    have := ha.2.2
    omega
  exact ⟨⟨by omega, fun q hq => key q (h3 q hq)⟩, ⟨by omega, fun q hq => key q (h4 q hq)⟩⟩

/-- Two readings of one text tell the same. -/
theorem same_change {l : List UInt8} {xs ys us vs : List At} {p q : Bool} (hp : p = true → changeB xs ys = true ∧ l = chL xs ys) (hp2 : p = false → xs = [] ∧ ys = [] ∧ ∀ us vs, changeB us vs = true → l ≠ chL us vs)
    (hq : q = true → changeB us vs = true ∧ l = chL us vs) (hq2 : q = false → us = [] ∧ vs = [] ∧ ∀ us vs, changeB us vs = true → l ≠ chL us vs) : q = p ∧ us = xs ∧ vs = ys := by
  cases p <;> cases q
  · obtain ⟨h1, h2, _⟩ := hp2 rfl
    obtain ⟨h3, h4, _⟩ := hq2 rfl
    exact ⟨rfl, h3.trans h1.symm, h4.trans h2.symm⟩
  · obtain ⟨_, _, h1⟩ := hp2 rfl
    obtain ⟨h2, h3⟩ := hq rfl
    exact absurd h3 (h1 _ _ h2)
  · obtain ⟨_, _, h1⟩ := hq2 rfl
    obtain ⟨h2, h3⟩ := hp rfl
    exact absurd h3 (h1 _ _ h2)
  · obtain ⟨h1, h2⟩ := hp rfl
    obtain ⟨h3, h4⟩ := hq rfl
    obtain ⟨h5, h6⟩ := chL_inj h3 h1 (h4.symm.trans h2)
    exact ⟨rfl, h5, h6⟩

theorem few_told {l : List UInt8} {xs ys : List At} {p : Bool} (hp : p = true → changeB xs ys = true ∧ l = chL xs ys) (hp2 : p = false → xs = [] ∧ ys = [] ∧ ∀ us vs, changeB us vs = true → l ≠ chL us vs) : SmallAtoms xs.length xs ∧ SmallAtoms ys.length ys := by
  cases p
  · obtain ⟨rfl, rfl, _⟩ := hp2 rfl
    exact ⟨⟨Nat.zero_le _, fun q hq => by simp at hq⟩, ⟨Nat.zero_le _, fun q hq => by simp at hq⟩⟩
  · exact few_change (hp rfl).1

/-- What a law holds of two answers: the model's, and the program's in memory of its own. -/
structure CLaw (w : World) (a m d : Nat) (A3 B3 : Option Addr) (n3 c3 m3 d3 : Nat) (xs ys : List At) (A5 B5 : Option Addr) (n5 c5 m5 d5 : Nat) (ra rb : List Rf) (W : World) : Prop where
  hb : Below w.heap.size w W
  h1 : w.heap.size ≤ a
  h2 : a + 1 ≤ m
  h3 : m ≤ d
  h4 : d + 1 ≤ W.heap.size
  I : IsAtoms W 0 a A3 n3 c3 xs
  J : IsAtoms W 0 a B3 m3 d3 ys
  X3 : Blk W a 54 #[.slice A3 n3 c3, .slice B3 m3 d3]
  O : OwnRefs W m d A5 n5 c5 ra
  G : OwnRefs W (a + 1) m B5 m5 d5 rb
  X5 : Blk W d 54 #[.slice A5 n5 c5, .slice B5 m5 d5]

section
variable {w : World} {a m d : Nat} {A3 B3 : Option Addr} {n3 c3 m3 d3 : Nat} {xs ys : List At} {A5 B5 : Option Addr} {n5 c5 m5 d5 : Nat} {ra rb : List Rf} {W W' : World}

theorem CLaw.below (h : CLaw w a m d A3 B3 n3 c3 m3 d3 xs ys A5 B5 n5 c5 m5 d5 ra rb W) (hw : Below W.heap.size W W') : CLaw w a m d A3 B3 n3 c3 m3 d3 xs ys A5 B5 n5 c5 m5 d5 ra rb W' := by
  have h1 := h.h1; have h2 := h.h2; have h3 := h.h3; have h4 := h.h4
  exact ⟨belowThen h.hb hw, h1, h2, h3, Nat.le_trans h4 hw.size, h.I.keep AtomE.stays (fun q _ hx => hw.cell (p := q) (by omega)) (Nat.le_refl _) (Nat.le_refl _), h.J.keep AtomE.stays (fun q _ hx => hw.cell (p := q) (by omega)) (Nat.le_refl _) (Nat.le_refl _), h.X3.below hw,
    h.O.keep (fun b _ hx => hw.block b (by omega)) (Nat.le_refl _) (Nat.le_refl _), h.G.keep (fun b _ hx => hw.block b (by omega)) (Nat.le_refl _) (Nat.le_refl _), h.X5.below hw⟩

theorem CLaw.marked {ra' rb' : List Rf} (h : CLaw w a m d A3 B3 n3 c3 m3 d3 xs ys A5 B5 n5 c5 m5 d5 ra rb W) (hw : Within (a + 1) d W W') (hO : OwnRefs W' m d A5 n5 c5 ra') (hG : OwnRefs W' (a + 1) m B5 m5 d5 rb') : CLaw w a m d A3 B3 n3 c3 m3 d3 xs ys A5 B5 n5 c5 m5 d5 ra' rb' W' := by
  have h1 := h.h1; have h2 := h.h2; have h3 := h.h3; have h4 := h.h4
  have hl : Below (a + 1) W W' := hw.low (Nat.le_refl _) (by omega)
  exact ⟨h.hb.trans (hl.mono (by omega)), h1, h2, h3, Nat.le_trans h4 hw.size, h.I.keep AtomE.stays (fun q _ hx => World.cell?_of_block (hl.block q.block (by omega))) (Nat.le_refl _) (Nat.le_refl _), h.J.keep AtomE.stays (fun q _ hx => World.cell?_of_block (hl.block q.block (by omega))) (Nat.le_refl _) (Nat.le_refl _), (hl.block a (by omega)).trans h.X3,
    hO, hG, (hw.block d (by omega) (.inr (Nat.le_refl _))).trans h.X5⟩

theorem CLaw.model (h : CLaw w a m d A3 B3 n3 c3 m3 d3 xs ys A5 B5 n5 c5 m5 d5 ra rb W) : IsAtoms W 0 W.heap.size A3 n3 c3 xs ∧ IsAtoms W 0 W.heap.size B3 m3 d3 ys := by
  have h1 := h.h1; have h2 := h.h2; have h3 := h.h3; have h4 := h.h4
  exact ⟨h.I.keep AtomE.stays (fun _ _ _ => rfl) (Nat.le_refl _) (by omega), h.J.keep AtomE.stays (fun _ _ _ => rfl) (Nat.le_refl _) (by omega)⟩

theorem CLaw.answer (h : CLaw w a m d A3 B3 n3 c3 m3 d3 xs ys A5 B5 n5 c5 m5 d5 ra rb W) : IsRefs W 0 W.heap.size A5 n5 c5 ra ∧ IsRefs W 0 W.heap.size B5 m5 d5 rb := by
  have h1 := h.h1; have h2 := h.h2; have h3 := h.h3; have h4 := h.h4
  exact ⟨h.O.refs.keep RefE.stays (fun _ _ _ => rfl) (Nat.zero_le _) (by omega), h.G.refs.keep RefE.stays (fun _ _ _ => rfl) (Nat.zero_le _) (by omega)⟩
end

set_option maxRecDepth 100000 in
set_option maxHeartbeats 4000000 in
theorem exactChangeGet_any (s : ByteArray) (w : World) (hm : MaxIn w) (hE : EofIn w) :
    Calls Tryd.prog 9 #[.string s] w (BoolPost true w) := by
  go_enter Tryd.func9, Tryd.ntmps9
  go_wp2_with fail
  all_goals try (go_ret; exact ⟨rfl, Below.refl _ _⟩)
  have hsz : s.size ≤ 1048576 := by omega
  refine (specChangeGet_any s w hsz).mono ?_; rintro e w3 ⟨A3, c3, n3, xs, B3, d3, m3, ys, ok, rfl, hI3, hJ3, hb3, hy3, hn3⟩
  have HY3 := Lib.hid hy3; have HN3 := Lib.hid hn3
  have X3 := Blk.new w3 54 #[.slice A3 n3 c3, .slice B3 m3 d3]
  have hbx := below1 w3 (.cells #[.slice A3 n3 c3, .slice B3 m3 d3] 54)
  have HB3 := belowThen hb3 hbx
  have hz3 := hb3.size
  have I3 := hI3.keep (w' := w3.alloc (.cells #[.slice A3 n3 c3, .slice B3 m3 d3] 54)) AtomE.stays (fun q _ h2 => hbx.cell (p := q) h2) (Nat.le_refl _) (Nat.le_refl _)
  have J3 := hJ3.keep (w' := w3.alloc (.cells #[.slice A3 n3 c3, .slice B3 m3 d3] 54)) AtomE.stays (fun q _ h2 => hbx.cell (p := q) h2) (Nat.le_refl _) (Nat.le_refl _)
  have hzx : (w3.alloc (.cells #[.slice A3 n3 c3, .slice B3 m3 d3] 54)).heap.size = w3.heap.size + 1 := by simp
  clear hI3 hJ3 hb3 hbx hy3 hn3
  obtain ⟨W3, hW3⟩ : ∃ W3, w3.alloc (.cells #[.slice A3 n3 c3, .slice B3 m3 d3] 54) = W3 := ⟨_, rfl⟩
  rw [hW3] at X3 HB3 I3 J3 hzx
  have HI := Lib.hid I3; have HJ := Lib.hid J3; have HX := Lib.hid X3; have HW3 := Lib.hid HB3
  have hm3 := hm.below HB3; have hE3 := hE.below HB3
  clear X3 HB3 I3 J3
  go_wp2_with fail
  refine (implChangeGet_any s W3 hsz hm3 hE3).mono ?_; rintro e w5 ⟨A5, c5, ra, B5, d5, rb, m, ok5, rfl, hO, hG, ⟨hm1, hm2⟩, hb5, hy5, hn5⟩
  obtain ⟨rfl, hxa, hyb⟩ := same_change HY3.out HN3.out hy5 (fun h => by obtain ⟨e1, e2, e3⟩ := hn5 h; exact ⟨by rw [e1]; rfl, by rw [e2]; rfl, e3⟩)
  have HXA := Lib.hid hxa; have HYB := Lib.hid hyb
  have hz5 := hb5.size
  have V5' : CLaw w w3.heap.size m w5.heap.size A3 B3 n3 c3 m3 d3 xs ys A5 B5 ra.length c5 rb.length d5 ra rb (w5.alloc (.cells #[.slice A5 ra.length c5, .slice B5 rb.length d5] 54)) := by
    have hbx := below1 w5 (.cells #[.slice A5 ra.length c5, .slice B5 rb.length d5] 54)
    have hbA := belowThen hb5 hbx
    refine ⟨belowThen HW3.out hbA, hz3, by omega, hm2, by simp, HI.out.keep AtomE.stays (fun q _ h2 => hbA.cell (p := q) (by omega)) (Nat.le_refl _) (Nat.le_refl _), HJ.out.keep AtomE.stays (fun q _ h2 => hbA.cell (p := q) (by omega)) (Nat.le_refl _) (Nat.le_refl _), HX.out.below hbA, hO.keep (fun b _ h2 => hbx.block b h2) (Nat.le_refl _) (Nat.le_refl _), hG.keep (fun b _ h2 => hbx.block b (by omega)) (by omega) (Nat.le_refl _), Blk.new w5 _ _⟩
  have V5 := Lib.hid V5'
  have few := few_told hy5 (fun h => by obtain ⟨e1, e2, e3⟩ := hn5 h; exact ⟨by rw [e1]; rfl, by rw [e2]; rfl, e3⟩)
  have k1 : markN 1 ra ≤ 1 + 2 ^ 42 := markN_more (xs := ra.map rAt) hO.refs rfl (by have := few.1; rw [List.length_map] at this; exact this)
  have k2 : markN (markN 1 ra) rb ≤ markN 1 ra + 2 ^ 42 := markN_more (xs := rb.map rAt) hG.refs rfl (by have := few.2; rw [List.length_map] at this; exact this)
  have K1 := Lib.hid (show markN 1 ra ≤ 2 ^ 62 by omega); have K2 := Lib.hid (show markN (markN 1 ra) rb ≤ 2 ^ 62 by omega)
  clear hO hG hb5 V5' hxa hyb hy5 hn5 few k1 k2 HI HJ HX HW3 hW3
  obtain ⟨W5, hW5⟩ : ∃ W5, w5.alloc (.cells #[.slice A5 ra.length c5, .slice B5 rb.length d5] 54) = W5 := ⟨_, rfl⟩
  rw [hW5] at V5
  have x0 : W5.cell? ⟨w3.heap.size, 0, none⟩ = some (.slice A3 n3 c3) := V5.out.X3.cell 0
  have x1 : W5.cell? ⟨w3.heap.size, 1, none⟩ = some (.slice B3 m3 d3) := V5.out.X3.cell 1
  have y0 : W5.cell? ⟨w5.heap.size, 0, none⟩ = some (.slice A5 ra.length c5) := V5.out.X5.cell 0
  have y1 : W5.cell? ⟨w5.heap.size, 1, none⟩ = some (.slice B5 rb.length d5) := V5.out.X5.cell 1
  go_wp2_with fail
  refine (eqChange_any A5 B5 ra.length c5 rb.length d5 A3 B3 n3 c3 m3 d3 (ra.map rAt) (rb.map rAt) xs ys _ V5.out.answer.1.atoms V5.out.answer.2.atoms V5.out.model.1 V5.out.model.2).mono ?_; rintro e w6 ⟨rfl, hb6⟩
  rw [HXA.out, HYB.out, changeEq_refl]
  have V6 := Lib.hid (V5.out.below hb6)
  clear hb6 x0 x1 y0 y1 hW5 V5
  have y0 : w6.cell? ⟨w5.heap.size, 0, none⟩ = some (.slice A5 ra.length c5) := V6.out.X5.cell 0
  have y1 : w6.cell? ⟨w5.heap.size, 1, none⟩ = some (.slice B5 rb.length d5) := V6.out.X5.cell 1
  go_wp2_with fail
  obtain ⟨mk, hmk⟩ : ∃ mk, markN (markN 1 ra) rb = mk := ⟨_, rfl⟩
  refine (markChange_rev (w3.heap.size + 1) m w5.heap.size A5 B5 ra.length c5 rb.length d5 1 ra rb _ V6.out.O V6.out.G V6.out.h2 V6.out.h3 (by have := V6.out.h4; omega) K1.out K2.out).mono ?_; rintro e w11 ⟨rfl, hO11, hG11, hw11⟩
  rw [hmk]
  have HMK := Lib.hid hmk
  have V11 := Lib.hid (V6.out.marked hw11 hO11 hG11)
  clear hO11 hG11 hw11 V6 y0 y1 hmk
  have y0 : w11.cell? ⟨w5.heap.size, 0, none⟩ = some (.slice A5 ra.length c5) := V11.out.X5.cell 0
  have y1 : w11.cell? ⟨w5.heap.size, 1, none⟩ = some (.slice B5 rb.length d5) := V11.out.X5.cell 1
  go_wp2_with fail
  refine (heldChange_any A5 B5 ra.length c5 rb.length d5 1 ra rb _ V11.out.answer.1 V11.out.answer.2 K1.out K2.out).mono ?_; rintro e w12 ⟨rfl, hb12⟩
  rw [HMK.out]
  have V12 := Lib.hid (V11.out.below hb12)
  clear hb12 V11 y0 y1
  have hmn : ¬ ((mk : Int) < 0) := by omega
  have hm12 := hm.below V12.out.hb; have hE12 := hE.below V12.out.hb
  go_wp2_with fail
  refine (implChangeGet_any s w12 hsz hm12 hE12).mono ?_; rintro e w14 ⟨A7, c7, rc, B7, d7, rd, m7, ok7, rfl, hO7, hG7, ⟨hm71, hm72⟩, hb14, hy7, hn7⟩
  obtain ⟨rfl, hxa7, hyb7⟩ := same_change HY3.out HN3.out hy7 (fun h => by obtain ⟨e1, e2, e3⟩ := hn7 h; exact ⟨by rw [e1]; rfl, by rw [e2]; rfl, e3⟩)
  have HXA7 := Lib.hid hxa7; have HYB7 := Lib.hid hyb7
  have hbx := below1 w14 (.cells #[.slice A7 rc.length c7, .slice B7 rd.length d7] 54)
  have V14 := Lib.hid (V12.out.below (belowThen hb14 hbx))
  have X14 := Blk.new w14 54 #[.slice A7 rc.length c7, .slice B7 rd.length d7]
  have I14 := Lib.hid ((hO7.atoms.keep (w' := w14) (lo' := 0) (hi' := w14.heap.size) AtomE.stays (fun _ _ _ => rfl) (Nat.zero_le _) (Nat.le_refl _)).up AtomE.stays hbx)
  have J14 := Lib.hid ((hG7.atoms.keep (w' := w14) (lo' := 0) (hi' := w14.heap.size) AtomE.stays (fun _ _ _ => rfl) (Nat.zero_le _) hm72).up AtomE.stays hbx)
  clear hO7 hG7 hb14 hy7 hn7 V12 hbx hxa7 hyb7
  obtain ⟨W14, hW14⟩ : ∃ W14, w14.alloc (.cells #[.slice A7 rc.length c7, .slice B7 rd.length d7] 54) = W14 := ⟨_, rfl⟩
  rw [hW14] at V14 X14 I14 J14
  have x0 : W14.cell? ⟨w3.heap.size, 0, none⟩ = some (.slice A3 n3 c3) := V14.out.X3.cell 0
  have x1 : W14.cell? ⟨w3.heap.size, 1, none⟩ = some (.slice B3 m3 d3) := V14.out.X3.cell 1
  have y0 : W14.cell? ⟨w14.heap.size, 0, none⟩ = some (.slice A7 rc.length c7) := X14.cell 0
  have y1 : W14.cell? ⟨w14.heap.size, 1, none⟩ = some (.slice B7 rd.length d7) := X14.cell 1
  clear X14
  go_wp2_with fail
  refine (eqChange_any A7 B7 rc.length c7 rd.length d7 A3 B3 n3 c3 m3 d3 (rc.map rAt) (rd.map rAt) xs ys _ I14.out J14.out V14.out.model.1 V14.out.model.2).mono ?_; rintro e w15 ⟨rfl, hb15⟩
  rw [HXA7.out, HYB7.out, changeEq_refl]
  have V15 := Lib.hid (V14.out.below hb15)
  clear hb15 V14 x0 x1 y0 y1 hW14 I14 J14
  have y0 : w15.cell? ⟨w5.heap.size, 0, none⟩ = some (.slice A5 ra.length c5) := V15.out.X5.cell 0
  have y1 : w15.cell? ⟨w5.heap.size, 1, none⟩ = some (.slice B5 rb.length d5) := V15.out.X5.cell 1
  go_wp2_with fail
  refine (heldChange_any A5 B5 ra.length c5 rb.length d5 1 ra rb _ V15.out.answer.1 V15.out.answer.2 K1.out K2.out).mono ?_; rintro e w16 ⟨rfl, hb16⟩
  rw [HMK.out]
  have V16 := Lib.hid (V15.out.below hb16)
  clear hb16 V15 y0 y1
  go_wp2
  go_ret; exact ⟨rfl, V16.out.hb⟩

end Go.Proofs.YtahkkelahocplaaDoor
