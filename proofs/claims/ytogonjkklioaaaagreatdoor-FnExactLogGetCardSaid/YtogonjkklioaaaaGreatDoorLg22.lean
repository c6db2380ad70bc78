/-
  Texts of one claim, put together.
-/
import Derived.Test.YtogonjkklioaaaaGreatDoorLg10
import Derived.Test.YtogonjkklioaaaaGreatDoorShelf3
import Derived.Test.YtogonjkklioaaaaGreatDoorLg20
import Derived.Test.YtogonjkklioaaaaGreatDoorShelf5
import Derived.Test.YtogonjkklioaaaaGreatDoorLg21
namespace Go.Proofs.YtogonjkklioaaaaGreatDoor
open Go.RowKit

theorem rowUp {w w' : World} {base size k : Nat} {e : TypeId} {v : Value} {xs : List Value} (h : w.ownsRow base e size v k xs) (hb : Below w.heap.size w w') : w'.ownsRow base e size v k xs :=
  h.kept (row := none) ⟨hb.os, hb.tape, hb.output, hb.size, fun i hi _ => hb.block i hi⟩ (by
    rcases h.2 with ⟨rfl, _⟩ | ⟨g, cap, cur, rfl, _⟩
    · exact .inl rfl
    · exact .inr (by simp [Value.ownBlock]))

theorem builderUp {T e : TypeId} {B b : Nat} {bs : List Value} {W W' : World} (h : Lib.IsBuilder T e B b bs W) (hb : Below W.heap.size W W') : Lib.IsBuilder T e B b bs W' := by
  rcases h with ⟨h1, v, h2, h3, h4⟩ | ⟨h1, v, h2, h3, h4⟩
  · exact .inl ⟨h1, v, (hb.block b (Array.getElem?_eq_some_iff.1 h2).1).trans h2, rowUp h3 hb, h4⟩
  · exact .inr ⟨h1, v, (hb.block b (Array.getElem?_eq_some_iff.1 h2).1).trans h2, rowUp h3 hb, h4⟩

theorem cells_more {l p : List UInt8} {c : UInt8} {t : ByteArray} (ht : t.data.toList = p) : Lib.byteCells l ++ Lib.strCells (⟨#[c]⟩ ++ t ++ ⟨#[32]⟩) = Lib.byteCells (l ++ (c :: (p ++ [32]))) := by
  rw [Lib.strCells_eq, ← Lib.byteCells_append]
  congr 2
  simp [ByteArray.data_append, ht]

theorem cells_len (l : List UInt8) : (Lib.byteCells l).length = l.length := by unfold Lib.byteCells; simp

set_option maxRecDepth 100000 in
set_option maxHeartbeats 4000000 in
theorem implChangePut_any (A : Option Addr) (n c : Nat) (B : Option Addr) (m d : Nat) (xs ys : List At) (w : World) (h : IsAtoms w 0 w.heap.size A n c xs) (h' : IsAtoms w 0 w.heap.size B m d ys) :
    Calls Tryz.prog 8 #[.agg #[.slice A n c, .slice B m d]] w (StrPost (chB xs ys) w) := by
  have LX := Lib.hid h.1; have LY := Lib.hid h'.1
  have HX := Lib.hid h; have HY := Lib.hid h'
  clear h h'
  have hb0 := below1 w (.cells #[.slice A n c, .slice B m d] 25)
  have X0 := Lib.hid (Box.new w (.slice A n c) (.slice B m d) 25)
  go_enter Tryz.func8, Tryz.ntmps8
  go_wp2_with fail
  refine (implChangeOk_any A B n c m d xs ys _ (HX.out.up AtomE.stays hb0) (HY.out.up AtomE.stays hb0)).mono ?_; rintro e w1 ⟨rfl, hb1⟩
  have HB1 := belowThen hb0 hb1
  have X1 := Lib.hid (X0.out.later hb1)
  clear hb1 X0
  cases hc : changeB xs ys
  · have E := Lib.hid (show chB xs ys = [] by unfold chB; rw [hc]; rfl)
    clear hc
    go_wp2
    go_ret; exact ⟨by rw [E.out]; rfl, HB1⟩
  · have E := Lib.hid (show chB xs ys = chL xs ys by unfold chB; rw [hc]; rfl)
    have HC := Lib.hid (change_put hc)
    have hn3 : n ≤ 300 := by rw [← LX.out]; exact HC.out.1
    have hm3 : m ≤ 300 := by rw [← LY.out]; exact HC.out.2.1
    have PX : Hid (∀ a ∈ xs, (textL a).length ≤ 128) := Lib.hid (fun a ha => put_small (HC.out.2.2.1 a ha))
    have PY : Hid (∀ a ∈ ys, (textL a).length ≤ 128) := Lib.hid (fun a ha => put_small (HC.out.2.2.2 a ha))
    clear hc
    have hbb := below1 w1 (.cells #[.pointer none, .slice none 0 0] 48)
    have BB := Lib.hid (Lib.fresh_isBuilder 48 5 w1)
    have X2 := Lib.hid (X1.out.later hbb)
    obtain ⟨u0, u1, u2⟩ := X2.out
    have HB2 := belowThen HB1 hbb
    have hz2 : (w1.alloc (.cells #[.pointer none, .slice none 0 0] 48)).heap.size = w1.heap.size + 1 := by simp
    obtain ⟨W2, hW2⟩ : ∃ W2, w1.alloc (.cells #[.pointer none, .slice none 0 0] 48) = W2 := ⟨_, rfl⟩
    rw [hW2] at hbb BB X2 HB2 hz2 u0 u1 u2
    have HBB := Lib.hid hbb; have HB2' := Lib.hid HB2
    have hwz := HB1.size
    have hxl : w.heap.size < w1.heap.size := X1.out.1
    clear hbb HB2
    go_wp2
    go_loopw [14] (fun i wr => ∃ k : Nat, k ≤ m ∧ i = .int .i64 (k : Int) ∧ Lib.IsBuilder 48 5 w1.heap.size w1.heap.size (Lib.byteCells (signL 45 (ys.take k))) wr ∧ Below w1.heap.size W2 wr ∧ w1.heap.size + 1 ≤ wr.heap.size) (fun i _ => m - (intOf i).toNat)
    case atStart => exact ⟨0, Nat.zero_le _, rfl, BB.out, Below.refl _ _, by omega⟩
    case round =>
      obtain ⟨k, hk, rfl, hB, hb, hwz2⟩ := hrel
      have HBU := Lib.hid hB
      have hsl := signL_take_len 45 ys k PY.out (by rw [LY.out]; exact hm3)
      have hsc : (Lib.byteCells (signL 45 (ys.take k))).length ≤ 39000 := by rw [cells_len]; exact hsl
      have HB := Lib.hid hb
      have HBW := Lib.hid (HB2'.out.trans (hb.mono (by omega)))
      have HSC := Lib.hid hsc
      clear hB hsl hb hsc
      by_cases hlt : k < m
      · have hltI : (k : Int) < (m : Int) := by omega
        obtain ⟨p, a, hA, _, _, hg, hE⟩ := (HY.out.below AtomE.stays HBW.out (Nat.le_refl _)).at_ hlt
        obtain ⟨A', n', c', d1, d2, d3, d4⟩ := hE.out
        clear hE
        subst hA
        have hp := PY.out a (List.mem_of_getElem? hg)
        have hat := HC.out.2.2.2 a (List.mem_of_getElem? hg)
        have hpb : putB (a.1, a.2) = textL a := by unfold putB; exact if_pos hat
        have HG := Lib.hid hg
        have hbx := below1 wr (.cells #[.string a.1, .slice A' n' c'] 51)
        have HT := Lib.hid ((d4.keep (w' := wr) (lo' := 0) (hi' := wr.heap.size) (fun _ _ _ => rfl) (Nat.le_refl _) HBW.out.size).up hbx)
        have D2 := Lib.hid d2
        have HBX := Lib.hid hbx
        clear hg d2 d4 hat hbx
        go_wp2_with fail
        refine (implAtomPut_any a.1 A' n' c' a.2 _ D2.out HT.out).mono ?_; rintro e w3 ⟨rfl, hb3⟩
        rw [hpb]
        obtain ⟨t, ht⟩ : ∃ t : ByteArray, (⟨(textL a).toArray⟩ : ByteArray) = t := ⟨_, rfl⟩
        have htl : t.data.toList = textL a := by rw [← ht]
        have hts : t.size ≤ 128 := by rw [← htl] at hp; exact hp
        rw [ht]
        have HTL := Lib.hid htl
        have hb4 := belowThen HBX.out hb3
        have hz4 := hb4.size
        have HB4 := Lib.hid (HB.out.trans (hb4.mono (by omega)))
        have HBU4 := Lib.hid (builderUp HBU.out hb4)
        have E5 := Lib.hid (signL_step (c := 45) HG.out)
        have hst : (⟨#[45]⟩ ++ t ++ ⟨#[32]⟩ : ByteArray).size ≤ 130 := by simp only [ByteArray.size_append]; show 1 + t.size + 1 ≤ 130; omega
        have HST := Lib.hid hst
        clear hb3 hb4 ht htl d1 d3 hpb hst
        go_wp2_with fail
        refine (Tryz.Builder_WriteString w1.heap.size w1.heap.size _ _ w3 HBU4.out (by have := HSC.out; have := HST.out; omega) (by omega)).mono ?_; rintro e w5 ⟨rfl, hB5, hb5⟩
        have hcm := cells_more (l := signL 45 (ys.take k)) (c := 45) HTL.out
        rw [hcm, ← E5.out] at hB5
        have HBU5 := Lib.hid (show Lib.IsBuilder 48 5 w1.heap.size w1.heap.size (Lib.byteCells (signL 45 (ys.take (k + 1)))) w5 from .inr hB5)
        have HB5 := Lib.hid (HB4.out.trans hb5)
        have hz5 := hb5.size
        clear hB5 hb5 hcm
        go_wp2
        go_roundw
        case rel => exact ⟨k + 1, by omega, by go_num, HBU5.out, HB5.out, by omega⟩
        case measure => simp [intOf]; omega
      · have hkm : k = m := by omega
        subst hkm
        have hkI : ¬ (k : Int) < (k : Int) := by omega
        have hys : ys.take k = ys := List.take_of_length_le (by rw [LY.out]; exact Nat.le_refl _)
        have HBU2 := Lib.hid (by have := HBU.out; rw [hys] at this; exact this)
        have u3 := (HB.out.cell (p := ⟨w.heap.size, 0, none⟩) (by omega)).trans u1
        have u4 := (HB.out.cell (p := ⟨w.heap.size, 1, none⟩) (by omega)).trans u2
        clear hys HBU HSC
        go_wp2
        obtain ⟨W1, hW1⟩ : ∃ W1 : World, W1 = wr := ⟨_, rfl⟩
        subst hW1
        go_loopw [27] (fun i wr => ∃ j : Nat, j ≤ n ∧ i = .int .i64 (j : Int) ∧ Lib.IsBuilder 48 5 w1.heap.size w1.heap.size (Lib.byteCells (signL 45 ys ++ signL 43 (xs.take j))) wr ∧ Below w1.heap.size W2 wr ∧ w1.heap.size + 1 ≤ wr.heap.size) (fun i _ => n - (intOf i).toNat)
        case atStart => exact ⟨0, Nat.zero_le _, rfl, by have := HBU2.out; simpa [signL] using this, HB.out, hwz2⟩
        case round =>
          clear HBU2 u3 u4 HBW
          obtain ⟨j, hj, rfl, hB, hb, hwz3⟩ := hrel
          have HBU := Lib.hid hB
          have hsl := signL_take_len 43 xs j PX.out (by rw [LX.out]; exact hn3)
          have hsl2 := signL_len 45 ys PY.out
          have hly := LY.out
          have hsc : (Lib.byteCells (signL 45 ys ++ signL 43 (xs.take j))).length ≤ 78000 := by rw [cells_len, List.length_append]; omega
          have HB3 := Lib.hid hb
          have HBW := Lib.hid (HB2'.out.trans (hb.mono (by omega)))
          have HSC := Lib.hid hsc
          clear hB hsl hsl2 hly hb hsc
          by_cases hlt2 : j < n
          · have hltI : (j : Int) < (n : Int) := by omega
            obtain ⟨p, a, hA, _, _, hg, hE⟩ := (HX.out.below AtomE.stays HBW.out (Nat.le_refl _)).at_ hlt2
            obtain ⟨A', n', c', d1, d2, d3, d4⟩ := hE.out
            clear hE
            subst hA
            have hp := PX.out a (List.mem_of_getElem? hg)
            have hat := HC.out.2.2.1 a (List.mem_of_getElem? hg)
            have hpb : putB (a.1, a.2) = textL a := by unfold putB; exact if_pos hat
            have HG := Lib.hid hg
            have hbx := below1 wr (.cells #[.string a.1, .slice A' n' c'] 51)
            have HT := Lib.hid ((d4.keep (w' := wr) (lo' := 0) (hi' := wr.heap.size) (fun _ _ _ => rfl) (Nat.le_refl _) HBW.out.size).up hbx)
            have D2 := Lib.hid d2
            have HBX := Lib.hid hbx
            clear hg d2 d4 hat hbx
            go_wp2_with fail
            refine (implAtomPut_any a.1 A' n' c' a.2 _ D2.out HT.out).mono ?_; rintro e w3 ⟨rfl, hb3⟩
            rw [hpb]
            obtain ⟨t, ht⟩ : ∃ t : ByteArray, (⟨(textL a).toArray⟩ : ByteArray) = t := ⟨_, rfl⟩
            have htl : t.data.toList = textL a := by rw [← ht]
            have hts : t.size ≤ 128 := by rw [← htl] at hp; exact hp
            rw [ht]
            have HTL := Lib.hid htl
            have hb4 := belowThen HBX.out hb3
            have hz4 := hb4.size
            have HB4 := Lib.hid (HB3.out.trans (hb4.mono (by omega)))
            have HBU4 := Lib.hid (builderUp HBU.out hb4)
            have E5 := Lib.hid (signL_step (c := 43) HG.out)
            have hst : (⟨#[43]⟩ ++ t ++ ⟨#[32]⟩ : ByteArray).size ≤ 130 := by simp only [ByteArray.size_append]; show 1 + t.size + 1 ≤ 130; omega
            have HST := Lib.hid hst
            clear hb3 hb4 ht htl d1 d3 hpb hst
            go_wp2_with fail
            refine (Tryz.Builder_WriteString w1.heap.size w1.heap.size _ _ w3 HBU4.out (by have := HSC.out; have := HST.out; omega) (by omega)).mono ?_; rintro e w5 ⟨rfl, hB5, hb5⟩
            have hcm := cells_more (l := signL 45 ys ++ signL 43 (xs.take j)) (c := 43) HTL.out
            rw [hcm, List.append_assoc, ← E5.out] at hB5
            have HBU5 := Lib.hid (show Lib.IsBuilder 48 5 w1.heap.size w1.heap.size (Lib.byteCells (signL 45 ys ++ signL 43 (xs.take (j + 1)))) w5 from .inr hB5)
            have HB5 := Lib.hid (HB4.out.trans hb5)
            have hz5 := hb5.size
            clear hB5 hb5 hcm
            go_wp2
            go_roundw
            case rel => exact ⟨j + 1, by omega, by go_num, HBU5.out, HB5.out, by omega⟩
            case measure => simp [intOf]; omega
          · have hjn : j = n := by omega
            subst hjn
            have hjI : ¬ (j : Int) < (j : Int) := by omega
            have hxs : xs.take j = xs := List.take_of_length_le (by rw [LX.out]; exact Nat.le_refl _)
            have HBU2 : Hid (Lib.IsBuilder 48 5 w1.heap.size w1.heap.size (Lib.byteCells (chL xs ys)) wr) := Lib.hid (by have := HBU.out; rw [hxs] at this; exact this)
            clear hxs HBU HSC
            go_wp2_with fail
            by_cases hnil : chL xs ys = []
            · have HN := Lib.hid hnil; clear hnil
              refine (Tryz.Builder_String_empty w1.heap.size w1.heap.size wr (by have := HBU2.out; rw [HN.out] at this; exact this) (by omega)).mono ?_; rintro e w5 ⟨rfl, hb5⟩
              have HB5 := Lib.hid ((HB2'.out.trans (HB3.out.mono (by omega))).trans (hb5.mono (by omega)))
              clear hb5
              go_wp2
              go_ret; exact ⟨by rw [E.out, HN.out]; rfl, HB5.out⟩
            · have HN := Lib.hid hnil; clear hnil
              refine (Tryz.Builder_String w1.heap.size w1.heap.size (chL xs ys) wr HBU2.out HN.out).mono ?_; rintro e w5 ⟨rfl, hb5⟩
              have HB5 := Lib.hid ((HB2'.out.trans (HB3.out.mono (by omega))).trans (hb5.mono (by omega)))
              clear hb5
              go_wp2
              go_ret; exact ⟨by rw [E.out]; rfl, HB5.out⟩

end Go.Proofs.YtogonjkklioaaaaGreatDoor

namespace Go.Proofs.YtogonjkklioaaaaGreatDoor
open Go.RowKit

/-- What LogPut tells. -/
def logB (t : Int) (xs ys : List At) : List UInt8 := if changeB xs ys = true ∧ 0 ≤ t ∧ t ≤ 100000 then lineL t.toNat (chL xs ys) else []

theorem ch_small {xs ys : List At} (h : changeB xs ys = true) : (chL xs ys).length ≤ 80000 := by
  obtain ⟨h1, h2, h3, h4⟩ := change_put h
  have e1 := signL_len 45 ys (fun a ha => put_small (h4 a ha))
  have e2 := signL_len 43 xs (fun a ha => put_small (h3 a ha))
  unfold chL
  rw [List.length_append]
  omega

set_option maxHeartbeats 4000000 in
theorem specLogPut_any (t : Int) (A : Option Addr) (n c : Nat) (B : Option Addr) (m d : Nat) (xs ys : List At) (w : World) (h : IsAtoms w 0 w.heap.size A n c xs) (h' : IsAtoms w 0 w.heap.size B m d ys) :
    Calls Tryz.prog 81 #[.int .i64 t, .agg #[.slice A n c, .slice B m d]] w (StrPost (logB t xs ys) w) := by
  have LX := Lib.hid h.1; have LY := Lib.hid h'.1
  have HX := Lib.hid h; have HY := Lib.hid h'
  clear h h'
  have hb0 := below1 w (.cells #[.slice A n c, .slice B m d] 25)
  have X0 := Lib.hid (Box.new w (.slice A n c) (.slice B m d) 25)
  go_enter Tryz.func81, Tryz.ntmps81
  go_wp2_with fail
  refine (specChangeOk_any A B n c m d xs ys _ (HX.out.up AtomE.stays hb0) (HY.out.up AtomE.stays hb0)).mono ?_; rintro e w1 ⟨rfl, hb1⟩
  have HB1 := belowThen hb0 hb1
  have X1 := Lib.hid (X0.out.later hb1)
  obtain ⟨u0, u1, u2⟩ := X1.out
  clear hb1 X0
  cases hc : changeB xs ys
  · have E := Lib.hid (show logB t xs ys = [] by unfold logB; rw [if_neg (by rw [hc]; simp)])
    clear hc
    go_wp2
    go_ret; exact ⟨by rw [E.out]; rfl, HB1⟩
  · have HCH := Lib.hid hc
    have HC := Lib.hid (change_put hc)
    have HS := Lib.hid (ch_small hc)
    clear hc
    go_wp2_with fail
    refine (in_any t 0 100000 _).mono ?_; rintro e w2 ⟨rfl, rfl⟩
    by_cases hr : 0 ≤ t ∧ t ≤ 100000
    · obtain ⟨hr0, hr1⟩ := hr
      have E := Lib.hid (show logB t xs ys = lineL t.toNat (chL xs ys) from if_pos ⟨HCH.out, hr0, hr1⟩)
      obtain ⟨k, hk⟩ : ∃ k : Nat, t = (k : Int) := ⟨t.toNat, by omega⟩
      subst hk
      have e1 : (decide ((0 : Int) ≤ (k : Int)) && decide ((k : Int) ≤ 100000)) = true := by simp [hr1]
      go_wp2_with fail
      refine (l8Put_any A n c B m d xs ys _ (HX.out.up AtomE.stays HB1) (HY.out.up AtomE.stays HB1) (by rw [← LX.out]; exact HC.out.1) (by rw [← LY.out]; exact HC.out.2.1) (fun a ha => put_small (HC.out.2.2.1 a ha)) (fun a ha => put_small (HC.out.2.2.2 a ha))).mono ?_; rintro e w3 ⟨rfl, hb3⟩
      have hz : (⟨(chL xs ys).toArray⟩ : ByteArray).size ≤ 1000000 := by show (chL xs ys).toArray.size ≤ _; have := HS.out; simp; omega
      have HB3 := belowThen HB1 hb3
      clear hb3
      go_wp2_with fail
      refine (l8Line_any k (by omega) _ hz _).mono ?_; rintro e w4 ⟨rfl, hb4⟩
      go_wp2
      go_ret; exact ⟨by rw [E.out]; rfl, belowThen HB3 hb4⟩
    · have E := Lib.hid (show logB t xs ys = [] from if_neg (fun e => hr e.2))
      have e1 : (decide ((0 : Int) ≤ t) && decide (t ≤ 100000)) = false := by
        rw [Bool.and_eq_false_iff]
        by_cases h0 : 0 ≤ t
        · exact .inr (decide_eq_false (fun e => hr ⟨h0, e⟩))
        · exact .inl (decide_eq_false h0)
      go_wp2
      go_ret; exact ⟨by rw [E.out]; rfl, HB1⟩

theorem below_grow (w : World) (j : Nat) (os : Array Obj) : Below w.heap.size w (Go.Sort.grow (w.drewN j) os) :=
  ⟨rfl, rfl, rfl, by show w.heap.size ≤ (w.heap ++ os).size; rw [Array.size_append]; omega, fun k hk => by show (w.heap ++ os)[k]? = _; rw [Array.getElem?_append_left hk]⟩

theorem tab_later {P : Program} {w w' : World} {nm : String} {k : IntKind} {zs : List Int} (h : Lib.TabIs P w nm k zs) (hb : Below w.heap.size w w') : Lib.TabIs P w' nm k zs := by
  unfold Lib.TabIs World.var? at h ⊢
  cases hg : P.globalNamed nm with
  | none => simp [hg] at h
  | some g =>
    simp only [hg, Option.bind_some] at h ⊢
    have hlt : g < w.heap.size := by
      rcases Nat.lt_or_ge g w.heap.size with h' | h'
      · exact h'
      · simp [Array.getElem?_eq_none h'] at h
    rw [hb.block g hlt]
    exact h

abbrev PowTab (w : World) : Prop := Lib.TabIs Tryz.prog w "internal/strconv.uint64pow10" .u64 Lib.pow10Tab

theorem itoa_any (q : Nat) (hq : q ≤ 1000000000000) (w : World) (hT : PowTab w) :
    Calls Tryz.prog 47 #[.int .i64 (q : Int)] w fun e w' => e = .returned (.string ⟨(Lib.decDigits q).toArray⟩) ∧ Below w.heap.size w w' := by
  refine (Tryz.strconv_Itoa (q : Int) (by omega) (by omega) w hT).mono ?_
  rintro e w' ⟨rfl, j, os, rfl⟩
  exact ⟨by rw [Lib.itoa_nonneg], below_grow w j os⟩

set_option maxHeartbeats 4000000 in
theorem implLogPut_any (t : Int) (A : Option Addr) (n c : Nat) (B : Option Addr) (m d : Nat) (xs ys : List At) (w : World) (h : IsAtoms w 0 w.heap.size A n c xs) (h' : IsAtoms w 0 w.heap.size B m d ys) (hT : PowTab w) :
    Calls Tryz.prog 22 #[.int .i64 t, .agg #[.slice A n c, .slice B m d]] w (StrPost (logB t xs ys) w) := by
  have HT := Lib.hid hT; clear hT
  have HX := Lib.hid h; have HY := Lib.hid h'
  clear h h'
  have hb0 := below1 w (.cells #[.slice A n c, .slice B m d] 25)
  have X0 := Lib.hid (Box.new w (.slice A n c) (.slice B m d) 25)
  go_enter Tryz.func22, Tryz.ntmps22
  by_cases hr : 0 ≤ t ∧ t ≤ 100000
  · obtain ⟨hr0, hr1⟩ := hr
    obtain ⟨k, hk⟩ : ∃ k : Nat, t = (k : Int) := ⟨t.toNat, by omega⟩
    subst hk
    have hn0 : ¬ (k : Int) < 0 := by omega
    have hn1 : ¬ (100000 : Int) < (k : Int) := by omega
    obtain ⟨u0, u1, u2⟩ := X0.out
    go_wp2_with fail
    refine (implChangeOk_any A B n c m d xs ys _ (HX.out.up AtomE.stays hb0) (HY.out.up AtomE.stays hb0)).mono ?_; rintro e w1 ⟨rfl, hb1⟩
    have HB1 := belowThen hb0 hb1
    have X1 := Lib.hid (X0.out.later hb1)
    clear hb1 X0 u0 u1 u2
    obtain ⟨u0, u1, u2⟩ := X1.out
    cases hc : changeB xs ys
    · have E := Lib.hid (show logB (k : Int) xs ys = [] by unfold logB; rw [if_neg (by rw [hc]; simp)])
      clear hc
      go_wp2
      go_ret; exact ⟨by rw [E.out]; rfl, HB1⟩
    · have E := Lib.hid (show logB (k : Int) xs ys = lineL k (chL xs ys) from if_pos ⟨hc, hr0, hr1⟩)
      have EC := Lib.hid (show chB xs ys = chL xs ys by unfold chB; rw [hc]; rfl)
      have HS := Lib.hid (ch_small hc)
      have hl := dec_len k (by omega)
      clear hc
      go_wp2_with fail
      have hl9 : (Lib.decDigits k).length ≤ 9223372036854775806 := by omega
      obtain ⟨V, hV⟩ : ∃ V, w1.drew = V := ⟨_, rfl⟩
      have hBV : Below w1.heap.size w1 V := by rw [← hV]; exact (Below.refl _ _).drew
      have HBV := Lib.hid (belowThen HB1 hBV)
      obtain ⟨x0, x1, x2⟩ := X1.out.later hBV
      clear hBV u0 u1 u2 X1
      refine wp_region_held_drew (S := fun W => W.cell? ⟨w.heap.size, 0, none⟩ = some (.slice A n c) ∧ W.cell? ⟨w.heap.size, 1, none⟩ = some (.slice B m d)) (by kernel_rfl) (by rw [hV]; exact ⟨x1, x2⟩) ?_
      rw [hV]
      clear hV
      intro hS_
      refine takeV (i := 0) (v := .int .i64 (k : Int)) (by (simp only [List.getElem?_toArray, List.getElem?_cons_zero]); rfl) (by kernel_rfl) (by kernel_rfl) (by kernel_rfl) (by rfl) (fun _ _ _ h => h) (Or.inl ⟨by rfl, ?_⟩) hS_ (by (simp only [List.setIfInBounds_toArray, List.set_cons_succ, List.set_cons_zero]); rfl) ?_
      · intro w_ hSw_; (try dsimp only at hSw_); go_simp
      refine takeV (i := 3) (v := .agg #[.slice A n c, .slice B m d]) (by (simp only [List.getElem?_toArray, List.getElem?_cons_succ, List.getElem?_cons_zero]); rfl) (by kernel_rfl) (by kernel_rfl) (by kernel_rfl) (by rfl) (fun _ _ _ h => h) (Or.inl ⟨by rfl, ?_⟩) hS_ (by (simp only [List.setIfInBounds_toArray, List.set_cons_succ, List.set_cons_zero]); rfl) ?_
      · intro w_ hSw_; (try dsimp only at hSw_); go_simp
      refine wpAnyH_ready (rs := [1]) (by kernel_rfl) (by simp) ?_
      refine AllReadyH.cons (o := _) (by (simp only [List.getElem?_toArray, List.getElem?_cons_succ, List.getElem?_cons_zero]); rfl) (fun K_ hK_ => ?_) AllReadyH.nil
      rw [if_pos (by rfl)]
      go_simp
      go_at_call 47
      refine (itoa_any k (by omega) _ (tab_later HT.out HBV.out)).mono ?_; rintro e_ w2 ⟨rfl, hb2⟩
      have HB2 := Lib.hid (belowThen HBV.out hb2)
      have z1 := (hb2.cell (p := ⟨w.heap.size, 0, none⟩) x0).trans x1; have z2 := (hb2.cell (p := ⟨w.heap.size, 1, none⟩) x0).trans x2
      have z0 : w.heap.size < w2.heap.size := Nat.lt_of_lt_of_le x0 hb2.size
      clear hb2 x1 x2
      refine hK_.out _ _ ⟨z1, z2⟩ (fun hS2_ => ?_)
      clear hK_ hS_; have hS_ := hS2_; clear hS2_
      (try simp only [Act.put, List.setIfInBounds_toArray, List.set_cons_zero, List.set_cons_succ])
      have hz1 : (⟨(Lib.decDigits k).toArray⟩ : ByteArray).size ≤ 21 := by show (Lib.decDigits k).toArray.size ≤ _; simpa using hl
      refine takeV (i := 2) (v := .string (⟨(Lib.decDigits k).toArray⟩ ++ ⟨#[58]⟩)) (by (simp only [List.getElem?_toArray, List.getElem?_cons_succ, List.getElem?_cons_zero]); rfl) (by kernel_rfl) (by kernel_rfl) (by kernel_rfl) (by rfl) (fun _ _ _ h => h) (Or.inl ⟨by rfl, ?_⟩) hS_ (by (simp only [List.setIfInBounds_toArray, List.set_cons_succ, List.set_cons_zero]); rfl) ?_
      · intro w_ hSw_; (try dsimp only at hSw_); go_simp
      refine wpAnyH_ready (rs := [4]) (by kernel_rfl) (by simp) ?_
      refine AllReadyH.cons (o := _) (by (simp only [List.getElem?_toArray, List.getElem?_cons_succ, List.getElem?_cons_zero]); rfl) (fun K_ hK_ => ?_) AllReadyH.nil
      rw [if_pos (by rfl)]
      go_simp
      go_at_call 8
      refine (implChangePut_any A n c B m d xs ys _ (HX.out.up AtomE.stays HB2.out) (HY.out.up AtomE.stays HB2.out)).mono ?_; rintro e_ w3 ⟨rfl, hb3⟩
      rw [EC.out]
      have HB3 := Lib.hid (belowThen HB2.out hb3)
      have y1 := (hb3.cell (p := ⟨w.heap.size, 0, none⟩) z0).trans z1; have y2 := (hb3.cell (p := ⟨w.heap.size, 1, none⟩) z0).trans z2
      clear hb3
      refine hK_.out _ _ ⟨y1, y2⟩ (fun hS2_ => ?_)
      clear hK_ hS_; have hS_ := hS2_; clear hS2_
      (try simp only [Act.put, List.setIfInBounds_toArray, List.set_cons_zero, List.set_cons_succ])
      have hz2 : (⟨(chL xs ys).toArray⟩ : ByteArray).size ≤ 80000 := by show (chL xs ys).toArray.size ≤ _; simpa using HS.out
      obtain ⟨u, hu⟩ : ∃ u : ByteArray, (⟨(headL k (chL xs ys)).toArray⟩ : ByteArray) = u := ⟨_, rfl⟩
      have hue : (⟨(Lib.decDigits k).toArray⟩ ++ ⟨#[58]⟩ ++ ⟨(chL xs ys).toArray⟩ : ByteArray) = u := by rw [head_text, ← hu]
      have hud : u.data.toList = headL k (chL xs ys) := by rw [← hu]
      have huz : u.size ≤ 80022 := by
        show u.data.toList.length ≤ _
        rw [hud]; unfold headL
        simp only [List.length_append, List.length_cons, List.length_nil]
        have := HS.out; omega
      have hsum : (Lib.decDigits k).length + 1 + (chL xs ys).length ≤ 9223372036854775807 := by have := HS.out; omega
      have HU := Lib.hid hu; have HUD := Lib.hid hud
      clear hu hud
      refine takeV (i := 5) (v := .string u) (by (simp only [List.getElem?_toArray, List.getElem?_cons_succ, List.getElem?_cons_zero]); rfl) (by kernel_rfl) (by kernel_rfl) (by kernel_rfl) (by rfl) (fun _ _ _ h => h) (Or.inl ⟨by rfl, ?_⟩) hS_ (by (simp only [List.setIfInBounds_toArray, List.set_cons_succ, List.set_cons_zero]); rfl) ?_
      · intro w_ hSw_; (try dsimp only at hSw_); go_simp
      refine takeV (i := 6) (v := .string u) (by (simp only [List.getElem?_toArray, List.getElem?_cons_succ, List.getElem?_cons_zero]); rfl) (by kernel_rfl) (by kernel_rfl) (by kernel_rfl) (by rfl) (fun _ _ _ h => h) (Or.inl ⟨by rfl, ?_⟩) hS_ (by (simp only [List.setIfInBounds_toArray, List.set_cons_succ, List.set_cons_zero]); rfl) ?_
      · intro w_ hSw_; (try dsimp only at hSw_); go_simp
      refine wpAnyH_done (by kernel_rfl) ?_ _
      clear hS_ y1 y2 z0 z1 z2 x0 hz1 hz2 hue hsum
      go_wp2_with fail
      refine (implSum_any u _ (by unfold maxLen; omega)).mono ?_; rintro e_ w5 ⟨rfl, rfl⟩
      have hs3 := sumB_lt u.data.toList
      have hl3 := dec_len (sumB u.data.toList) (by omega)
      obtain ⟨z, hz⟩ : ∃ z, sumB u.data.toList = z := ⟨_, rfl⟩
      rw [hz] at hs3 hl3 ⊢
      have HZ := Lib.hid hz; clear hz
      go_wp2_with fail
      refine (itoa_any z (by omega) _ (tab_later HT.out HB3.out)).mono ?_; rintro e_ w6 ⟨rfl, hb6⟩
      have HB6 := Lib.hid (belowThen HB3.out hb6)
      clear hb6
      have hz3 : (⟨(Lib.decDigits z).toArray⟩ : ByteArray).size ≤ 21 := by show (Lib.decDigits z).toArray.size ≤ _; simpa using hl3
      go_wp2
      go_ret
      refine ⟨?_, HB6.out⟩
      rw [E.out, ← HU.out, line_text]
      unfold lineL
      rw [← HUD.out, HZ.out]
      rfl
  · have E := Lib.hid (show logB t xs ys = [] from if_neg (fun e => hr e.2))
    by_cases h0 : 0 ≤ t
    · have hn0 : ¬ t < 0 := by omega
      have hn1 : (100000 : Int) < t := Int.lt_of_not_ge (fun e => hr ⟨h0, e⟩)
      go_wp2
      go_ret; exact ⟨by rw [E.out]; rfl, hb0⟩
    · have hn0 : t < 0 := by omega
      go_wp2
      go_ret; exact ⟨by rw [E.out]; rfl, hb0⟩

end Go.Proofs.YtogonjkklioaaaaGreatDoor

namespace Go.Proofs.YtogonjkklioaaaaGreatDoor
open Go.RowKit

/-- The last word. -/
theorem cuts_last : ∀ (n : Nat) (l : List UInt8), l.length ≤ n → ∃ init lw u, cuts 32 l = init ++ [lw] ∧ l = u ++ lw ∧ Blanked u ∧ (32 : UInt8) ∉ lw
  | n, l, hn => by
    rcases first_of 32 l with h | ⟨x, r, rfl, h⟩
    · exact ⟨[], l, [], by rw [cuts_none h]; rfl, rfl, .inl rfl, h⟩
    · cases n with
      | zero => simp at hn
      | succ n =>
        obtain ⟨init, lw, u, h1, h2, h3, h4⟩ := cuts_last n r (by simp at hn; omega)
        refine ⟨x :: init, lw, x ++ 32 :: u, by rw [cuts_first h, h1]; rfl, by rw [h2]; simp, ?_, h4⟩
        rcases h3 with e | ⟨q, e⟩
        · exact .inr ⟨x, by rw [e]⟩
        · exact .inr ⟨x ++ 32 :: q, by rw [e]; simp⟩

/-- A line was read; or it is none of that time. -/
def NextPost (k : Nat) (s : ByteArray) (w : World) (e : Ending) (w' : World) : Prop :=
  ∃ (A : Option Addr) (n c : Nat) (xs : List At) (B : Option Addr) (m d : Nat) (ys : List At) (ok : Bool), e = .returned (.tuple #[.agg #[.slice A n c, .slice B m d], .bool ok]) ∧
    IsAtoms w' w.heap.size w'.heap.size A n c xs ∧ IsAtoms w' w.heap.size w'.heap.size B m d ys ∧ Below w.heap.size w w' ∧
    (ok = true → okC (xs, ys) ∧ s.data.toList = recL k (chC (xs, ys))) ∧ (ok = false → ∀ c, okC c → s.data.toList ≠ recL k (chC c))

theorem next_none {k : Nat} {s : ByteArray} {w W : World} (hb : Below w.heap.size w W) (hno : ∀ c, okC c → s.data.toList ≠ recL k (chC c)) :
    NextPost k s w (.returned (.tuple #[.agg #[.slice none 0 0, .slice none 0 0], .bool false])) ((W.setCell ⟨w.heap.size, 0, none⟩ (.slice none 0 0)).setCell ⟨w.heap.size, 1, none⟩ (.slice none 0 0)) :=
  ⟨none, 0, 0, [], none, 0, 0, [], false, rfl, (noRefs (lo := w.heap.size) (hi := _)).atoms, (noRefs (lo := w.heap.size) (hi := _)).atoms, (hb.setCell (p := ⟨w.heap.size, 0, none⟩) (Nat.le_refl _) _).setCell (p := ⟨w.heap.size, 1, none⟩) (Nat.le_refl _) _, (fun h => by cases h), fun _ => hno⟩

theorem ext_data (s : ByteArray) (a b : Nat) : (s.extract a b).data.toList = (s.data.toList.take b).drop a := by
  simp [ByteArray.data_extract, List.drop_take]

set_option maxRecDepth 100000 in
set_option maxHeartbeats 4000000 in
theorem specNext_any (s : ByteArray) (k : Nat) (w : World) (hs : s.size ≤ 400000) (hk : k ≤ 100000) :
    Calls Tryz.prog 41 #[.string s, .int .i64 (k : Int)] w (NextPost k s w) := by
  have hl := dec_len k (by omega)
  have hb0 := Lib.hid (below1 w (.cells #[.slice none 0 0, .slice none 0 0] 25))
  have X0 := Lib.hid (Blk.new w 25 #[.slice none 0 0, .slice none 0 0])
  have hsl : s.data.toList.length = s.size := by simp
  go_enter Tryz.func41, Tryz.ntmps41
  go_wp2_with fail
  refine (dec_all (k + 1) k (Nat.lt_succ_self k) (by omega) _).mono ?_; rintro e w1 ⟨rfl, hb1⟩
  have X1 := Lib.hid (X0.out.below hb1); have HB1 := Lib.hid (belowThen hb0.out hb1)
  clear hb1 X0 hb0
  obtain ⟨dg, hdg⟩ : ∃ dg : ByteArray, (⟨(Lib.decDigits k).toArray⟩ : ByteArray) = dg := ⟨_, rfl⟩
  have hdd : dg.data.toList = Lib.decDigits k := by rw [← hdg]
  rw [hdg]
  clear hdg
  have hdz : dg.size ≤ 21 := by show dg.data.toList.length ≤ _; rw [hdd]; exact hl
  obtain ⟨hd, hhd⟩ : ∃ hd : ByteArray, (dg ++ ⟨#[58]⟩ : ByteArray) = hd := ⟨_, rfl⟩
  have hhl : hd.data.toList = Lib.decDigits k ++ [58] := by rw [← hhd]; simp [ByteArray.data_append, hdd]
  have hhz : hd.size ≤ 22 := by rw [← hhd, ByteArray.size_append]; show dg.size + 1 ≤ 22; omega
  have hhs : hd.data.toList.length = hd.size := by simp
  have HHD := Lib.hid hhl
  have HHE := Lib.hid hhd
  clear hdd hhl hhd
  have x0 : w1.cell? ⟨w.heap.size, 0, none⟩ = some (.slice none 0 0) := X1.out.cell 0
  have x1 : w1.cell? ⟨w.heap.size, 1, none⟩ = some (.slice none 0 0) := X1.out.cell 1
  have q0 := X1.out.frozen 0; have q1 := X1.out.frozen 1
  have HREC := Lib.hid (show ∀ p, recL k p = hd.data.toList ++ (p ++ Lib.decDigits (sumB (headL k p))) from fun p => by rw [body_at, HHD.out, List.append_assoc]; rfl)
  by_cases hshort : s.size < hd.size
  · have hshI : (s.size : Int) < (hd.size : Int) := by omega
    go_wp2_with (rw [HHE.out])
    refine bodyPost_ret (v := .tuple #[.agg #[.slice none 0 0, .slice none 0 0], .bool false]) (by simp [results, Tryz.results41, go_sem, x0, x1]) rfl (next_none HB1.out fun c hc he => ?_)
    have h1 := congrArg List.length (he.trans (HREC.out _))
    rw [List.length_append] at h1
    omega
  · have hshI : ¬ (s.size : Int) < (hd.size : Int) := by omega
    have hleI : (hd.size : Int) ≤ (s.size : Int) := by omega
    by_cases heq : s.extract 0 hd.size = hd
    · have hq : ((s.extract 0 hd.size).toList == hd.toList) = true := by rw [heq]; exact beq_self_eq_true _
      have hpre : s.data.toList = hd.data.toList ++ s.data.toList.drop hd.size := by
        have h1 := ext_data s 0 hd.size
        rw [heq] at h1
        conv => lhs; rw [← List.take_append_drop hd.size s.data.toList]
        rw [h1]; simp
      have HPRE := Lib.hid hpre
      clear hpre heq
      obtain ⟨rs, hrs⟩ : ∃ rs, s.extract hd.size s.size = rs := ⟨_, rfl⟩
      have hrd : rs.data.toList = s.data.toList.drop hd.size := by rw [← hrs, ext_data, List.take_of_length_le (by omega)]
      have hrz : rs.size ≤ 400000 := by rw [← hrs, ByteArray.size_extract]; omega
      have hrl : rs.data.toList.length = rs.size := by simp
      have HRD := Lib.hid hrd
      have HRS := Lib.hid hrs
      clear hrd hrs
      go_wp2_with (rw [HHE.out])
      rw [HRS.out]
      refine (l1Cut_any rs 32 w1 (by omega)).mono ?_; rintro e w2 ⟨pp, d2, rfl, hT2, hb2⟩
      obtain ⟨init, lw, u, hc1, hc2, hc3, hc4⟩ := cuts_last rs.data.toList.length rs.data.toList (Nat.le_refl _)
      obtain ⟨ws, hws⟩ : ∃ ws, cutsB 32 rs = ws := ⟨_, rfl⟩
      have hwd : ws.map (fun x => x.data.toList) = init ++ [lw] := by rw [← hws, ← hc1]; exact cutsB_data 32 rs
      have hwl : ws.length = init.length + 1 := by have := congrArg List.length hwd; simpa using this
      have hwl2 : ws.length ≤ rs.size + 1 := by rw [← hws]; exact cutsB_len 32 rs
      rw [hws] at hT2 ⊢
      clear hws
      have hlast : ws.length - 1 < ws.length := by omega
      obtain ⟨p, x, hA, hlo, hhi, hg, hE⟩ := hT2.at_ hlast
      injection hA with hA
      subst hA
      have hxw : x.data.toList = lw := by
        have h1 : (ws.map (fun x => x.data.toList))[ws.length - 1]? = some x.data.toList := by rw [List.getElem?_map, hg]; rfl
        rw [hwd, hwl, Nat.add_sub_cancel, List.getElem?_append_right (Nat.le_refl _), Nat.sub_self] at h1
        exact (Option.some.inj h1).symm
      have hxl : x.data.toList.length = x.size := by simp
      have hux : u.length + x.size = rs.size := by rw [← hxl, hxw, ← hrl, hc2, List.length_append]
      have hsz : hd.size + rs.size = s.size := by
        have := congrArg List.length HRD.out
        rw [List.length_drop] at this
        omega
      have cE : w2.cell? (pp.add ((ws.length - 1) * 1)) = some (.string x) := hE
      rw [Nat.mul_one] at cE
      have hm1 : IntKind.i64.wrap ((ws.length : Int) - 1) = ((ws.length - 1 : Nat) : Int) := by rw [IntKind.wrap_i64]; omega
      have hm2 : IntKind.i64.wrap ((s.size : Int) - (x.size : Int)) = ((s.size - x.size : Nat) : Int) := by rw [IntKind.wrap_i64]; omega
      have hi1 : ((ws.length - 1 : Nat) : Int) < (ws.length : Int) := by omega
      have hi2 : (hd.size : Int) ≤ ((s.size - x.size : Nat) : Int) := by omega
      have hi3 : ((s.size - x.size : Nat) : Int) ≤ (s.size : Int) := by omega
      obtain ⟨tx, htx⟩ : ∃ tx, s.extract hd.size (s.size - x.size) = tx := ⟨_, rfl⟩
      have htd : tx.data.toList = u := by
        rw [← htx, ext_data, List.drop_take, ← HRD.out, hc2]
        exact List.take_left' (by omega)
      have htz : tx.size ≤ 400000 := by rw [← htx, ByteArray.size_extract]; omega
      have HTX := Lib.hid htx; have HTD := Lib.hid htd; have HBL := Lib.hid hc3
      have HSD := Lib.hid (show s.data.toList = hd.data.toList ++ (u ++ lw) by rw [← hc2, HRD.out]; exact HPRE.out)
      have HLW := Lib.hid hc4
      have X2 := Lib.hid (X1.out.below hb2); have HB2 := Lib.hid (belowThen HB1.out hb2)
      clear hT2 hE hg hwd hxw hc1 hc2 hc3 hc4 htx htd hux hrl hxl hb2 X1 HB1 x0 x1 q0 q1 hwl hsz
      go_wp2_with fail
      rw [HTX.out]
      refine (specChangeGet_new tx w2 (by omega)).mono ?_; rintro e w3 ⟨A, c, n, xs, B, d, m, ys, ok, rfl, hI, hJ, hb3, hy, hno⟩
      have hbx := below1 w3 (.cells #[.slice A n c, .slice B m d] 25)
      have hb34 := belowThen hb3 hbx
      have X3 := Lib.hid (X2.out.below hb34)
      have Y3 := Lib.hid (Box.new w3 (.slice A n c) (.slice B m d) 25)
      have I3 := Lib.hid (hI.up AtomE.stays hbx); have J3 := Lib.hid (hJ.up AtomE.stays hbx)
      have HB3 := Lib.hid (belowThen HB2.out hb34)
      have HY := Lib.hid hy; have HN := Lib.hid hno
      have hz3 := HB2.out.size; have hz33 := hb3.size; have hz2 : w.heap.size < w2.heap.size := X2.out.lt
      clear hI hJ hb3 hbx hb34 hy hno X2 HB2
      obtain ⟨W3, hW3⟩ : ∃ W3, w3.alloc (.cells #[.slice A n c, .slice B m d] 25) = W3 := ⟨_, rfl⟩
      have HW3 := Lib.hid hW3
      rw [hW3] at X3 Y3 I3 J3 HB3
      clear hW3
      have HNX := Lib.hid (show (∀ c, okC c → tx.data.toList ≠ chC c ∨ lineL k (chC c) ≠ s.data.toList ++ [10]) → ∀ c, okC c → s.data.toList ≠ recL k (chC c) from fun hh c hc he => by
        have h1 := HSD.out.symm.trans (he.trans (HREC.out _))
        have h2 := List.append_cancel_left h1
        obtain ⟨h3, _⟩ := blank_last h2 HBL.out HLW.out (ch_blanked _ _) (dec_no (.inl (by decide)))
        rcases hh c hc with h | h
        · exact h (HTD.out.trans h3)
        · exact h (by rw [line_body, he]))
      have x0 : W3.cell? ⟨w.heap.size, 0, none⟩ = some (.slice none 0 0) := X3.out.cell 0
      have x1 : W3.cell? ⟨w.heap.size, 1, none⟩ = some (.slice none 0 0) := X3.out.cell 1
      have q0 := X3.out.frozen 0; have q1 := X3.out.frozen 1
      obtain ⟨_, y0, y1⟩ := Y3.out
      cases ok
      · go_wp2_with (rw [HW3.out])
        refine bodyPost_ret (v := .tuple #[.agg #[.slice none 0 0, .slice none 0 0], .bool false]) (by simp [results, Tryz.results41, go_sem, x0, x1]) rfl (next_none HB3.out (HNX.out fun c hc => .inl ((HN.out (by first | rfl | trivial)).2.2 c.1 c.2 hc)))
      · obtain ⟨hch, hct⟩ := HY.out (by first | rfl | trivial)
        have HCH := Lib.hid hch; have HCT := Lib.hid hct
        clear hch hct
        go_wp2_with (rw [HW3.out])
        refine (l8Line_any k hk tx (by omega) W3).mono ?_; rintro e w5 ⟨rfl, hb5⟩
        have X5 := Lib.hid (X3.out.below hb5); have Y5 := Lib.hid (Y3.out.later hb5); have HB5 := Lib.hid (belowThen HB3.out hb5)
        have I5 := Lib.hid (I3.out.up AtomE.stays hb5); have J5 := Lib.hid (J3.out.up AtomE.stays hb5)
        have hz5 := hb5.size
        clear hb5 X3 Y3 HB3 I3 J3 x0 x1 q0 q1 y0 y1
        have x0 : w5.cell? ⟨w.heap.size, 0, none⟩ = some (.slice none 0 0) := X5.out.cell 0
        have x1 : w5.cell? ⟨w.heap.size, 1, none⟩ = some (.slice none 0 0) := X5.out.cell 1
        have q0 := X5.out.frozen 0; have q1 := X5.out.frozen 1
        obtain ⟨_, y0, y1⟩ := Y5.out
        obtain ⟨v, hv⟩ : ∃ v : ByteArray, (⟨(lineL k tx.data.toList).toArray⟩ : ByteArray) = v := ⟨_, rfl⟩
        have hvd : v.data.toList = lineL k (chL xs ys) := by rw [← hv, HCT.out]
        rw [hv]
        have HVD := Lib.hid hvd
        clear hv hvd
        by_cases hE2 : v = s ++ ⟨#[10]⟩
        · have hq2 : (v.toList == (s ++ ⟨#[10]⟩ : ByteArray).toList) = true := by rw [hE2]; exact beq_self_eq_true _
          have hln : s.data.toList = recL k (chL xs ys) := by
            have h1 : lineL k (chL xs ys) = s.data.toList ++ [10] := by rw [← HVD.out, hE2]; simp [ByteArray.data_append]
            rw [line_body] at h1
            exact (List.append_cancel_right h1).symm
          have HLN := Lib.hid hln
          clear hE2 hln
          go_wp2
          refine bodyPost_ret (v := .tuple #[.agg #[.slice A n c, .slice B m d], .bool true]) (by simp [results, Tryz.results41, go_sem, x0, x1]) rfl ⟨A, n, c, xs, B, m, d, ys, true, rfl, ?_, ?_, (HB5.out.setCell (Nat.le_refl _) _).setCell (Nat.le_refl _) _, fun _ => ⟨HCH.out, HLN.out⟩, (fun h => by cases h)⟩
          · exact (I5.out.keep AtomE.stays (fun q h1 _ => World.cell?_of_block ((Below.heap_setCell _ _ _ _ (by show q.block ≠ w.heap.size; omega)).trans (Below.heap_setCell _ _ _ _ (by show q.block ≠ w.heap.size; omega)))) (by omega) (by simp only [size_setCell]; exact Nat.le_refl _))
          · exact (J5.out.keep AtomE.stays (fun q h1 _ => World.cell?_of_block ((Below.heap_setCell _ _ _ _ (by show q.block ≠ w.heap.size; omega)).trans (Below.heap_setCell _ _ _ _ (by show q.block ≠ w.heap.size; omega)))) (by omega) (by simp only [size_setCell]; exact Nat.le_refl _))
        · have hq2 : (v.toList == (s ++ ⟨#[10]⟩ : ByteArray).toList) = false := by rw [beq_eq_false_iff_ne]; intro e; rw [toList_data, toList_data] at e; exact hE2 (by rw [← Lib.mk_data v, ← Lib.mk_data (s ++ ⟨#[10]⟩), e])
          have HE2 := Lib.hid hE2
          clear hE2
          go_wp2
          refine bodyPost_ret (v := .tuple #[.agg #[.slice none 0 0, .slice none 0 0], .bool false]) (by simp [results, Tryz.results41, go_sem, x0, x1]) rfl (next_none HB5.out (HNX.out fun c hc => ?_))
          by_cases hcc : tx.data.toList = chC c
          · right
            intro h2
            have h1 : chC c = chL xs ys := hcc.symm.trans HCT.out
            rw [h1] at h2
            refine HE2.out ?_
            rw [← Lib.mk_data v, HVD.out, h2, ← Lib.mk_data (s ++ ⟨#[10]⟩)]
            simp [ByteArray.data_append]
          · exact .inl hcc
    · have hq : ((s.extract 0 hd.size).toList == hd.toList) = false := by rw [beq_eq_false_iff_ne]; intro e; rw [toList_data, toList_data] at e; exact heq (by rw [← Lib.mk_data (s.extract 0 hd.size), ← Lib.mk_data hd, e])
      have HEQ := Lib.hid heq
      clear heq
      go_wp2_with (rw [HHE.out])
      refine bodyPost_ret (v := .tuple #[.agg #[.slice none 0 0, .slice none 0 0], .bool false]) (by simp [results, Tryz.results41, go_sem, x0, x1]) rfl (next_none HB1.out fun c hc he => HEQ.out ?_)
      rw [← Lib.mk_data (s.extract 0 hd.size), ext_data, he, HREC.out, ← hhs, List.take_left' rfl, List.drop_zero, Lib.mk_data]

end Go.Proofs.YtogonjkklioaaaaGreatDoor
