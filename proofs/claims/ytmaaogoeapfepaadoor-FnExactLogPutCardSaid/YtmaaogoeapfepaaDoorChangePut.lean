/-
  A change as a text, in the model and in the program.
-/
import Derived.Test.YtmaaogoeapfepaaDoorL8Put
import Derived.Test.YtmaaogoeapfepaaDoorChangeOk
import Derived.Test.YtmaaogoeapfepaaDoorShelf3
namespace Go.Proofs.YtmaaogoeapfepaaDoor
open Go.RowKit

/-- What ChangePut tells. -/
def chB (xs ys : List At) : List UInt8 := if changeB xs ys = true then chL xs ys else []

theorem change_put {xs ys : List At} (h : changeB xs ys = true) : xs.length ≤ 300 ∧ ys.length ≤ 300 ∧ (∀ a ∈ xs, atomB a = true) ∧ ∀ a ∈ ys, atomB a = true := by
  unfold changeB factsB at h
  simp only [Bool.and_eq_true, decide_eq_true_eq, List.all_eq_true] at h
  obtain ⟨⟨⟨⟨h1, _⟩, h2⟩, ⟨h3, _⟩, h4⟩, _⟩ := h
  have f : ∀ a, factB a = true → atomB a = true := fun a h => by unfold factB at h; simp only [Bool.and_eq_true] at h; exact h.2
  exact ⟨h2, h4, fun a ha => f a (h1 a ha), fun a ha => f a (h3 a ha)⟩

theorem put_small {a : At} (h : atomB a = true) : (textL a).length ≤ 128 := Nat.le_trans (textL_le h) (by decide)

set_option maxRecDepth 100000 in
set_option maxHeartbeats 2000000 in
theorem specChangePut_any (A : Option Addr) (n c : Nat) (B : Option Addr) (m d : Nat) (xs ys : List At) (w : World) (h : IsAtoms w 0 w.heap.size A n c xs) (h' : IsAtoms w 0 w.heap.size B m d ys) :
    Calls Tryd.prog 77 #[.agg #[.slice A n c, .slice B m d]] w (StrPost (chB xs ys) w) := by
  have LX := Lib.hid h.1; have LY := Lib.hid h'.1
  have HX := Lib.hid h; have HY := Lib.hid h'
  clear h h'
  have hb0 := below1 w (.cells #[.slice A n c, .slice B m d] 29)
  have X0 := Lib.hid (Box.new w (.slice A n c) (.slice B m d) 29)
  go_enter Tryd.func77, Tryd.ntmps77
  go_wp2_with fail
  refine (specChangeOk_any A B n c m d xs ys _ (HX.out.up AtomE.stays hb0) (HY.out.up AtomE.stays hb0)).mono ?_; rintro e w1 ⟨rfl, hb1⟩
  have HB1 := belowThen hb0 hb1
  have X1 := Lib.hid (X0.out.later hb1)
  obtain ⟨u0, u1, u2⟩ := X1.out
  clear hb1 X0
  cases hc : changeB xs ys
  · have E := Lib.hid (show chB xs ys = [] by unfold chB; rw [hc]; rfl)
    clear hc
    go_wp2
    go_ret; exact ⟨by rw [E.out]; rfl, HB1⟩
  · have E := Lib.hid (show chB xs ys = chL xs ys by unfold chB; rw [hc]; rfl)
    have HC := Lib.hid (change_put hc)
    clear hc
    go_wp2_with fail
    refine (l8Put_any A n c B m d xs ys w1 (HX.out.up AtomE.stays HB1) (HY.out.up AtomE.stays HB1) (by rw [← LX.out]; exact HC.out.1) (by rw [← LY.out]; exact HC.out.2.1) (fun a ha => put_small (HC.out.2.2.1 a ha)) (fun a ha => put_small (HC.out.2.2.2 a ha))).mono ?_; rintro e w2 ⟨rfl, hb2⟩
    have HB2 := belowThen HB1 hb2
    clear hb2
    go_wp2
    go_ret; exact ⟨by rw [E.out]; rfl, HB2⟩

theorem rowUp {w w' : World} {base size k : Nat} {e : TypeId} {v : Value} {xs : List Value} (h : w.ownsRow base e size v k xs) (hb : Below w.heap.size w w') : w'.ownsRow base e size v k xs :=
  h.kept (row := none) ⟨hb.os, hb.tape, hb.output, hb.size, fun i hi _ => hb.block i hi⟩ (by
    rcases h.2 with ⟨rfl, _⟩ | ⟨g, cap, cur, rfl, _⟩
    · exact .inl rfl
    · exact .inr (by simp [Value.ownBlock]))

theorem builderUp {T e : TypeId} {B b : Nat} {bs : List Value} {W W' : World} (h : Lib.IsBuilder T e B b bs W) (hb : Below W.heap.size W W') : Lib.IsBuilder T e B b bs W' := by
  rcases h with ⟨h1, v, h2, h3, h4⟩ | ⟨h1, v, h2, h3, h4⟩
  · exact .inl ⟨h1, v, (hb.block b (Array.getElem?_eq_some_iff.1 h2).1).trans h2, rowUp h3 hb, h4⟩
  · exact .inr ⟨h1, v, (hb.block b (Array.getElem?_eq_some_iff.1 h2).1).trans h2, rowUp h3 hb, h4⟩

theorem cells_more {l p : List UInt8} {c : UInt8} {t : ByteArray} (ht : t.data.toList = p) : Lib.byteCells l ++ Lib.strCells (⟨#[c]⟩ ++ t ++ ⟨#[32]⟩) = Lib.byteCells (l ++ (c :: (p ++ [32]))) := by
  rw [Lib.strCells_eq, ← Lib.byteCells_append]
  congr 2
  simp [ByteArray.data_append, ht]

theorem cells_len (l : List UInt8) : (Lib.byteCells l).length = l.length := by unfold Lib.byteCells; simp

set_option maxRecDepth 100000 in
set_option maxHeartbeats 4000000 in
theorem implChangePut_any (A : Option Addr) (n c : Nat) (B : Option Addr) (m d : Nat) (xs ys : List At) (w : World) (h : IsAtoms w 0 w.heap.size A n c xs) (h' : IsAtoms w 0 w.heap.size B m d ys) :
    Calls Tryd.prog 62 #[.agg #[.slice A n c, .slice B m d]] w (StrPost (chB xs ys) w) := by
  have LX := Lib.hid h.1; have LY := Lib.hid h'.1
  have HX := Lib.hid h; have HY := Lib.hid h'
  clear h h'
  have hb0 := below1 w (.cells #[.slice A n c, .slice B m d] 29)
  have X0 := Lib.hid (Box.new w (.slice A n c) (.slice B m d) 29)
  go_enter Tryd.func62, Tryd.ntmps62
  go_wp2_with fail
  refine (implChangeOk_any A B n c m d xs ys _ (HX.out.up AtomE.stays hb0) (HY.out.up AtomE.stays hb0)).mono ?_; rintro e w1 ⟨rfl, hb1⟩
  have HB1 := belowThen hb0 hb1
  have X1 := Lib.hid (X0.out.later hb1)
  clear hb1 X0
  cases hc : changeB xs ys
  · have E := Lib.hid (show chB xs ys = [] by unfold chB; rw [hc]; rfl)
    clear hc
    go_wp2
    go_ret; exact ⟨by rw [E.out]; rfl, HB1⟩
  · have E := Lib.hid (show chB xs ys = chL xs ys by unfold chB; rw [hc]; rfl)
    have HC := Lib.hid (change_put hc)
    have hn3 : n ≤ 300 := by rw [← LX.out]; exact HC.out.1
    have hm3 : m ≤ 300 := by rw [← LY.out]; exact HC.out.2.1
    have PX : Hid (∀ a ∈ xs, (textL a).length ≤ 128) := Lib.hid (fun a ha => put_small (HC.out.2.2.1 a ha))
    have PY : Hid (∀ a ∈ ys, (textL a).length ≤ 128) := Lib.hid (fun a ha => put_small (HC.out.2.2.2 a ha))
    clear hc
    have hbb := below1 w1 (.cells #[.pointer none, .slice none 0 0] 132)
    have BB := Lib.hid (Lib.fresh_isBuilder 132 5 w1)
    have X2 := Lib.hid (X1.out.later hbb)
    obtain ⟨u0, u1, u2⟩ := X2.out
    have HB2 := belowThen HB1 hbb
    have hz2 : (w1.alloc (.cells #[.pointer none, .slice none 0 0] 132)).heap.size = w1.heap.size + 1 := by simp
    obtain ⟨W2, hW2⟩ : ∃ W2, w1.alloc (.cells #[.pointer none, .slice none 0 0] 132) = W2 := ⟨_, rfl⟩
    rw [hW2] at hbb BB X2 HB2 hz2 u0 u1 u2
    have HBB := Lib.hid hbb; have HB2' := Lib.hid HB2
    have hwz := HB1.size
    have hxl : w.heap.size < w1.heap.size := X1.out.1
    clear hbb HB2
    go_wp2
    go_loopw [14] (fun i wr => ∃ k : Nat, k ≤ m ∧ i = .int .i64 (k : Int) ∧ Lib.IsBuilder 132 5 w1.heap.size w1.heap.size (Lib.byteCells (signL 45 (ys.take k))) wr ∧ Below w1.heap.size W2 wr ∧ w1.heap.size + 1 ≤ wr.heap.size) (fun i _ => m - (intOf i).toNat)
    case atStart => exact ⟨0, Nat.zero_le _, rfl, BB.out, Below.refl _ _, by omega⟩
    case round =>
      obtain ⟨k, hk, rfl, hB, hb, hwz2⟩ := hrel
      have HBU := Lib.hid hB
      have hsl := signL_take_len 45 ys k PY.out (by rw [LY.out]; exact hm3)
      have hsc : (Lib.byteCells (signL 45 (ys.take k))).length ≤ 39000 := by rw [cells_len]; exact hsl
      have HB := Lib.hid hb
      have HBW := Lib.hid (HB2'.out.trans (hb.mono (by omega)))
      have HSC := Lib.hid hsc
      clear hB hsl hb hsc
      by_cases hlt : k < m
      · have hltI : (k : Int) < (m : Int) := by omega
        obtain ⟨p, a, hA, _, _, hg, hE⟩ := (HY.out.below AtomE.stays HBW.out (Nat.le_refl _)).at_ hlt
        obtain ⟨A', n', c', d1, d2, d3, d4⟩ := hE.out
        clear hE
        subst hA
        have hp := PY.out a (List.mem_of_getElem? hg)
        have hat := HC.out.2.2.2 a (List.mem_of_getElem? hg)
        have hpb : putB (a.1, a.2) = textL a := by unfold putB; exact if_pos hat
        have HG := Lib.hid hg
        have hbx := below1 wr (.cells #[.string a.1, .slice A' n' c'] 35)
        have HT := Lib.hid ((d4.keep (w' := wr) (lo' := 0) (hi' := wr.heap.size) (fun _ _ _ => rfl) (Nat.le_refl _) HBW.out.size).up hbx)
        have D2 := Lib.hid d2
        have HBX := Lib.hid hbx
        clear hg d2 d4 hat hbx
        go_wp2_with fail
        refine (implAtomPut_any a.1 A' n' c' a.2 _ D2.out HT.out).mono ?_; rintro e w3 ⟨rfl, hb3⟩
        rw [hpb]
        obtain ⟨t, ht⟩ : ∃ t : ByteArray, (⟨(textL a).toArray⟩ : ByteArray) = t := ⟨_, rfl⟩
        have htl : t.data.toList = textL a := by rw [← ht]
        have hts : t.size ≤ 128 := by rw [← htl] at hp; exact hp
        rw [ht]
        have HTL := Lib.hid htl
        have hb4 := belowThen HBX.out hb3
        have hz4 := hb4.size
        have HB4 := Lib.hid (HB.out.trans (hb4.mono (by omega)))
        have HBU4 := Lib.hid (builderUp HBU.out hb4)
        have E5 := Lib.hid (signL_step (c := 45) HG.out)
        have hst : (⟨#[45]⟩ ++ t ++ ⟨#[32]⟩ : ByteArray).size ≤ 130 := by simp only [ByteArray.size_append]; show 1 + t.size + 1 ≤ 130; omega
        have HST := Lib.hid hst
        clear hb3 hb4 ht htl d1 d3 hpb hst
        go_wp2_with fail
        refine (Tryd.Builder_WriteString w1.heap.size w1.heap.size _ _ w3 HBU4.out (by have := HSC.out; have := HST.out; omega) (by omega)).mono ?_; rintro e w5 ⟨rfl, hB5, hb5⟩
        have hcm := cells_more (l := signL 45 (ys.take k)) (c := 45) HTL.out
        rw [hcm, ← E5.out] at hB5
        have HBU5 := Lib.hid (show Lib.IsBuilder 132 5 w1.heap.size w1.heap.size (Lib.byteCells (signL 45 (ys.take (k + 1)))) w5 from .inr hB5)
        have HB5 := Lib.hid (HB4.out.trans hb5)
        have hz5 := hb5.size
        clear hB5 hb5 hcm
        go_wp2
        go_roundw
        case rel => exact ⟨k + 1, by omega, by go_num, HBU5.out, HB5.out, by omega⟩
        case measure => simp [intOf]; omega
      · have hkm : k = m := by omega
        subst hkm
        have hkI : ¬ (k : Int) < (k : Int) := by omega
        have hys : ys.take k = ys := List.take_of_length_le (by rw [LY.out]; exact Nat.le_refl _)
        have HBU2 := Lib.hid (by have := HBU.out; rw [hys] at this; exact this)
        have u3 := (HB.out.cell (p := ⟨w.heap.size, 0, none⟩) (by omega)).trans u1
        have u4 := (HB.out.cell (p := ⟨w.heap.size, 1, none⟩) (by omega)).trans u2
        clear hys HBU HSC
        go_wp2
        obtain ⟨W1, hW1⟩ : ∃ W1 : World, W1 = wr := ⟨_, rfl⟩
        subst hW1
        go_loopw [27] (fun i wr => ∃ j : Nat, j ≤ n ∧ i = .int .i64 (j : Int) ∧ Lib.IsBuilder 132 5 w1.heap.size w1.heap.size (Lib.byteCells (signL 45 ys ++ signL 43 (xs.take j))) wr ∧ Below w1.heap.size W2 wr ∧ w1.heap.size + 1 ≤ wr.heap.size) (fun i _ => n - (intOf i).toNat)
        case atStart => exact ⟨0, Nat.zero_le _, rfl, by have := HBU2.out; simpa [signL] using this, HB.out, hwz2⟩
        case round =>
          clear HBU2 u3 u4 HBW
          obtain ⟨j, hj, rfl, hB, hb, hwz3⟩ := hrel
          have HBU := Lib.hid hB
          have hsl := signL_take_len 43 xs j PX.out (by rw [LX.out]; exact hn3)
          have hsl2 := signL_len 45 ys PY.out
          have hly := LY.out
          have hsc : (Lib.byteCells (signL 45 ys ++ signL 43 (xs.take j))).length ≤ 78000 := by rw [cells_len, List.length_append]; omega
          have HB3 := Lib.hid hb
          have HBW := Lib.hid (HB2'.out.trans (hb.mono (by omega)))
          have HSC := Lib.hid hsc
          clear hB hsl hsl2 hly hb hsc
          by_cases hlt2 : j < n
          · have hltI : (j : Int) < (n : Int) := by omega
            obtain ⟨p, a, hA, _, _, hg, hE⟩ := (HX.out.below AtomE.stays HBW.out (Nat.le_refl _)).at_ hlt2
            obtain ⟨A', n', c', d1, d2, d3, d4⟩ := hE.out
            clear hE
            subst hA
            have hp := PX.out a (List.mem_of_getElem? hg)
            have hat := HC.out.2.2.1 a (List.mem_of_getElem? hg)
            have hpb : putB (a.1, a.2) = textL a := by unfold putB; exact if_pos hat
            have HG := Lib.hid hg
            have hbx := below1 wr (.cells #[.string a.1, .slice A' n' c'] 35)
            have HT := Lib.hid ((d4.keep (w' := wr) (lo' := 0) (hi' := wr.heap.size) (fun _ _ _ => rfl) (Nat.le_refl _) HBW.out.size).up hbx)
            have D2 := Lib.hid d2
            have HBX := Lib.hid hbx
            clear hg d2 d4 hat hbx
            go_wp2_with fail
            refine (implAtomPut_any a.1 A' n' c' a.2 _ D2.out HT.out).mono ?_; rintro e w3 ⟨rfl, hb3⟩
            rw [hpb]
            obtain ⟨t, ht⟩ : ∃ t : ByteArray, (⟨(textL a).toArray⟩ : ByteArray) = t := ⟨_, rfl⟩
            have htl : t.data.toList = textL a := by rw [← ht]
            have hts : t.size ≤ 128 := by rw [← htl] at hp; exact hp
            rw [ht]
            have HTL := Lib.hid htl
            have hb4 := belowThen HBX.out hb3
            have hz4 := hb4.size
            have HB4 := Lib.hid (HB3.out.trans (hb4.mono (by omega)))
            have HBU4 := Lib.hid (builderUp HBU.out hb4)
            have E5 := Lib.hid (signL_step (c := 43) HG.out)
            have hst : (⟨#[43]⟩ ++ t ++ ⟨#[32]⟩ : ByteArray).size ≤ 130 := by simp only [ByteArray.size_append]; show 1 + t.size + 1 ≤ 130; omega
            have HST := Lib.hid hst
            clear hb3 hb4 ht htl d1 d3 hpb hst
            go_wp2_with fail
            refine (Tryd.Builder_WriteString w1.heap.size w1.heap.size _ _ w3 HBU4.out (by have := HSC.out; have := HST.out; omega) (by omega)).mono ?_; rintro e w5 ⟨rfl, hB5, hb5⟩
            have hcm := cells_more (l := signL 45 ys ++ signL 43 (xs.take j)) (c := 43) HTL.out
            rw [hcm, List.append_assoc, ← E5.out] at hB5
            have HBU5 := Lib.hid (show Lib.IsBuilder 132 5 w1.heap.size w1.heap.size (Lib.byteCells (signL 45 ys ++ signL 43 (xs.take (j + 1)))) w5 from .inr hB5)
            have HB5 := Lib.hid (HB4.out.trans hb5)
            have hz5 := hb5.size
            clear hB5 hb5 hcm
            go_wp2
            go_roundw
            case rel => exact ⟨j + 1, by omega, by go_num, HBU5.out, HB5.out, by omega⟩
            case measure => simp [intOf]; omega
          · have hjn : j = n := by omega
            subst hjn
            have hjI : ¬ (j : Int) < (j : Int) := by omega
            have hxs : xs.take j = xs := List.take_of_length_le (by rw [LX.out]; exact Nat.le_refl _)
            have HBU2 : Hid (Lib.IsBuilder 132 5 w1.heap.size w1.heap.size (Lib.byteCells (chL xs ys)) wr) := Lib.hid (by have := HBU.out; rw [hxs] at this; exact this)
            clear hxs HBU HSC
            go_wp2_with fail
            by_cases hnil : chL xs ys = []
            · have HN := Lib.hid hnil; clear hnil
              refine (Tryd.Builder_String_empty w1.heap.size w1.heap.size wr (by have := HBU2.out; rw [HN.out] at this; exact this) (by omega)).mono ?_; rintro e w5 ⟨rfl, hb5⟩
              have HB5 := Lib.hid ((HB2'.out.trans (HB3.out.mono (by omega))).trans (hb5.mono (by omega)))
              clear hb5
              go_wp2
              go_ret; exact ⟨by rw [E.out, HN.out]; rfl, HB5.out⟩
            · have HN := Lib.hid hnil; clear hnil
              refine (Tryd.Builder_String w1.heap.size w1.heap.size (chL xs ys) wr HBU2.out HN.out).mono ?_; rintro e w5 ⟨rfl, hb5⟩
              have HB5 := Lib.hid ((HB2'.out.trans (HB3.out.mono (by omega))).trans (hb5.mono (by omega)))
              clear hb5
              go_wp2
              go_ret; exact ⟨by rw [E.out]; rfl, HB5.out⟩

end Go.Proofs.YtmaaogoeapfepaaDoor
