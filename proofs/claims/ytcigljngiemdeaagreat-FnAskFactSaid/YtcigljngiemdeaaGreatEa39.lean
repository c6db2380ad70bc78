/-
  Texts of one claim, put together.
-/
import Derived.Test.YtcigljngiemdeaaGreatEa6
import Derived.RangeFuncBox
import Derived.Test.YtcigljngiemdeaaGreatDraw
import Derived.Test.YtcigljngiemdeaaGreatEa8
import Derived.Test.YtcigljngiemdeaaGreatL3PutOwn
namespace Go.Proofs.YtcigljngiemdeaaGreat
open Go.RowKit


set_option maxRecDepth 100000 in
set_option maxHeartbeats 4000000 in
theorem l3Copy_any (A : Option Addr) (n c : Nat) (xs : List At) (w : World) (h : IsAtoms w 0 w.heap.size A n c xs) (hn : SmallAtoms n xs) :
    Calls Tryz.prog 148 #[.slice A n c] w (CopySPost xs w) := by
  obtain ⟨hn1, hn2⟩ := hn
  obtain ⟨i0, hi, hz, hsz, hby⟩ := info_parts Tryz.infoAt
  have HN := Lib.hid hn2; clear hn2
  have HL0 := Lib.hid h.1
  have H := Lib.hid h; clear h
  go_enter Tryz.func148, Tryz.ntmps148
  go_wp2
  go_loopw [3, 4] (fun o i wr => ∃ (k : Nat) (Av : Option Addr) (cv : Nat) (rs : List Rf), k ≤ n ∧ i = .int .i64 k ∧ o = .slice Av k cv ∧ wr.ownsRow w.heap.size 49 2 (.slice Av k cv) k (rcells rs) ∧ rs.length = k ∧ rs.map rAt = xs.take k ∧ OwnIn wr w.heap.size wr.heap.size rs ∧ Below w.heap.size w wr) (fun _ i _ => n - (intOf i).toNat)
  case atStart => exact ⟨0, some ⟨w.heap.size, 0, none⟩, 0, [], Nat.zero_le _, rfl, rfl, ⟨rfl, .inr ⟨w.heap.size, 0, #[], rfl, Nat.le_refl _, heap_alloc_new w _, Nat.le_refl _, by unfold maxLen; omega, rfl, rfl⟩⟩, rfl, rfl, OwnIn.nil, below1 _ _⟩
  case round =>
    obtain ⟨k, Av, cv, rs, hk, rfl, rfl, hrow, hl, hm, ho, hb⟩ := hrel
    have HR := Lib.hid hrow; have HL := Lib.hid hl; have HM := Lib.hid hm; have HO := Lib.hid ho
    clear hrow hl hm ho
    by_cases hlt : k < n
    · obtain ⟨p, q, hA, hlo, hhi, hg, hE⟩ := (H.out.below AtomE.stays hb (Nat.le_refl _)).at_ hlt
      obtain ⟨A', n', c', d1, d3, d4, d5⟩ := hE.out
      clear hE
      subst hA
      have hq : n' ≤ 1048576 := by rw [← d5.1]; exact HN.out q (List.mem_of_getElem? hg)
      have HG := Lib.hid hg; clear hg
      have hwr := hb.size
      have hbx := below1 wr (.cells #[.string q.1, .slice A' n' c'] 49)
      have HT := Lib.hid (d5.keep (w' := wr) (lo' := 0) (hi' := wr.heap.size) (fun _ _ _ => rfl) (Nat.le_refl _) hb.size); clear d5
      go_wp2_with fail
      refine (l3AtomCopy_any q.1 A' n' c' q.2 _ HT.out hq).mono ?_; rintro e w1 ⟨A2, d2, rfl, hT, hR, hb1⟩
      have HB1 : Below wr.heap.size wr w1 := hb1
      have HT1 := Lib.hid (hT.keep (w' := w1) (lo' := wr.heap.size) (hi' := w1.heap.size) (fun _ _ _ => rfl) (by simp) (Nat.le_refl _))
      have HR1 := Lib.hid (fun h0 => (hR h0).keep (w' := w1) (lo' := wr.heap.size) (hi' := w1.heap.size) (fun _ _ _ => rfl) (by simp) (Nat.le_refl _))
      have hrow1 : w1.ownsRow w.heap.size 49 2 (.slice Av k cv) k (rcells rs) := ownsRow_up HR.out HB1
      have HRW := Lib.hid hrow1
      have hw1s : w.heap.size ≤ w1.heap.size := Nat.le_trans hwr HB1.size
      clear hT hR hrow1 hb1 hbx
      go_wp2_with (at_builtin; refine wpList_append_own _ rfl _ _ 28 rfl w.heap.size 49 i0 _ 2 40 Tryz.underlying28 hi hz hsz hby rfl (by decide) _ _ _ rfl (HRW.out.alloc _) ⟨w1.heap.size, 0, none⟩ 1 1 [.string q.1, .slice A2 n' d2] rfl rfl (two_new _ _ _ _) (by simp [Value.oneCell']) (by unfold maxLen; omega) (by omega) (by simp; omega) ?_; intro v' w2 hown' hgrow' _; obtain ⟨g', cap', rfl⟩ := ownsRow_succ hown'; have hown := Lib.hid hown'; have hgrow := Lib.hid hgrow'; clear hown' hgrow')
      obtain ⟨rs', r1, r2, r3, r4, r5⟩ := copy_on HL.out HM.out HG.out HO.out hb HB1 d3 HT1.out HR1.out HRW.out hown.out hgrow.out
      go_roundw
      case rel => exact ⟨k + 1, _, _, rs', by omega, by go_num, rfl, r3, r1, r2, r4, r5⟩
      case measure => simp [intOf]; omega
    · have hkn : k = n := by omega
      subst hkn
      have hxs : xs.take k = xs := List.take_of_length_le (by have := HL0.out; omega)
      obtain ⟨A3, c3, e3, hO⟩ := OwnRefs.of_row HR.out HL.out.symm (Nat.le_refl _) HO.out (Nat.le_refl _)
      injection e3 with e3 _ e4
      subst e3; subst e4
      have HX := Lib.hid hxs; clear hxs
      go_wp2
      go_ret
      exact ⟨Av, cv, rs, by rw [HL0.out]; rfl, by rw [HL0.out]; exact hO, by rw [HM.out]; exact HX.out, hb⟩



theorem IsBytes.up {w w' : World} {A : Option Addr} {n c : Nat} (h : IsBytes w w.heap.size A n c) (hb : Below w.heap.size w w') : IsBytes w' w'.heap.size A n c := by
  obtain ⟨h1, h2, h3⟩ := h.keep (w' := w') (fun q hq => hb.cell hq)
  exact ⟨h1, h2, fun hn => by
    obtain ⟨q, hq, hb', hc⟩ := h3 hn
    exact ⟨q, hq, Nat.lt_of_lt_of_le hb' hb.size, hc⟩⟩

theorem Bx.later {a b : World} {x : Nat} {u v : Value} (h : Bx a x u v) (hb : Below a.heap.size a b) : Bx b x u v := h.grown (grownBelow hb none) (by simp)


def vOf (i : Nat) : ByteArray := ⟨#[118, UInt8.ofNat (48 + i)]⟩
def tabAt (i k : Nat) : At := (⟨#[101]⟩, [(false, vOf i), (false, vOf k)])
def tab (n : Nat) : List At := ((List.range n).map fun j => tabAt (j / 6) (j % 6)).foldl putL []

theorem tab_succ (j : Nat) : tab (j + 1) = putL (tab j) (tabAt (j / 6) (j % 6)) := by
  unfold tab; rw [List.range_succ, List.map_append, List.foldl_append]; rfl

theorem tab_at (i k : Nat) (hk : k < 6) : tab (i * 6 + k + 1) = putL (tab (i * 6 + k)) (tabAt i k) := by
  rw [tab_succ, show (i * 6 + k) / 6 = i by omega, show (i * 6 + k) % 6 = k by omega]

theorem tab_rises : ∀ n : Nat, risesB (tab n) = true
  | 0 => rfl
  | n + 1 => by rw [tab_succ]; exact put_rises (tab_rises n)

theorem tab_len : ∀ n : Nat, (tab n).length ≤ n
  | 0 => Nat.le_refl _
  | n + 1 => by rw [tab_succ]; have := put_len (tab n) (tabAt (n / 6) (n % 6)); have := tab_len n; omega

theorem tab_all : (tab 42).length = 42 := by kernel_rfl

end Go.Proofs.YtcigljngiemdeaaGreat

namespace Go.Proofs.YtcigljngiemdeaaGreat
open Go.RowKit

theorem oneFig (j : Nat) (hj : j < 10) (W : World) : (convert 39 9 (.slice (some ⟨W.heap.size, 0, none⟩) 1 1)).run Tryz.prog (W.alloc (.cells #[.int .u8 (48 + (j : Int))] 5)) = .ok (.string ⟨#[UInt8.ofNat (48 + j)]⟩) (W.alloc (.cells #[.int .u8 (48 + (j : Int))] 5)) := by
  have hb : ((UInt8.ofNat (48 + j)).toNat : Int) = 48 + (j : Int) := by rw [UInt8.toNat_ofNat']; omega
  have h := run_convert_bytes_back (P := Tryz.prog) (W.alloc (.cells #[.int .u8 (48 + (j : Int))] 5)) 39 9 5 ⟨W.heap.size, 0, none⟩ 1 [UInt8.ofNat (48 + j)] Tryz.underlying39 Tryz.underlying5 Tryz.underlying9 (fun i hi => by
    have : i = 0 := by simpa using hi
    subst this
    show _ = some (Value.int .u8 ((UInt8.ofNat (48 + j)).toNat : Int))
    rw [hb]
    simp [go_sem, Addr.add])
  exact h

set_option maxRecDepth 100000 in
set_option maxHeartbeats 1000000 in
theorem dec_any (k : Nat) (hk : k < 10) (w : World) :
    Calls Tryz.prog 107 #[.int .i64 (k : Int)] w fun e w' => e = .returned (.string ⟨#[UInt8.ofNat (48 + k)]⟩) ∧ Below w.heap.size w w' := by
  have hcv := oneFig k hk w
  have hb := below1 w (.cells #[.int .u8 (48 + (k : Int))] 5)
  go_enter Tryz.func107, Tryz.ntmps107
  go_wp2
  go_ret; exact ⟨by rw [UInt8.ofNat_add]; rfl, hb⟩

theorem vText (k : Nat) : (⟨#[118]⟩ ++ ⟨#[UInt8.ofNat (48 + k)]⟩ : ByteArray) = vOf k := by
  apply ByteArray.ext
  simp [ByteArray.data_append, vOf]

theorem vOf_size (k : Nat) : (vOf k).size = 2 := rfl

end Go.Proofs.YtcigljngiemdeaaGreat

namespace Go.Proofs.YtcigljngiemdeaaGreat
open Go.RowKit

set_option maxRecDepth 100000 in
set_option maxHeartbeats 4000000 in
theorem fact_draw (b : Nat) (A : Option Addr) (n c p : Nat) (w : World) (h : Rd w b A n c p) (hp : p ≤ 900000) :
    Calls Tryz.prog 105 #[.pointer (some ⟨b, 0, none⟩)] w (AtomDraw 3 8 b A n c p w) := by
  have H := Lib.hid h; clear h
  have hbw : b < w.heap.size := H.out.1
  go_enter Tryz.func105, Tryz.ntmps105
  go_wp2_with fail
  refine (of_laidAt nmB (w.heap.size + 1) b _ A n c p _ _ _ (by simp) (H.out.below (below1 _ _)) (by omega) (by rfl) (by omega) (by omega) (by rfl)).mono ?_; rintro e w1 ⟨s, ⟨rfl, hs⟩, hr1, hg1⟩
  have HR1 := Lib.hid hr1
  have hgw1 := grownTrans (grownBelow (below2 w _ _) (some b)) hg1
  have HG1 := Lib.hid hgw1
  have hX0 := Bx.new w (.string ⟨#[]⟩) (.slice none 0 0) 49
  have HX1 := Lib.hid ((hX0.grown (grownBelow (below1 _ _) none) (by simp)).grown hg1 (by simp; omega))
  clear hr1 hgw1 hX0 hg1
  go_wp2_with fail
  refine (atom_draw b A n c (p + 1) s false w1 HR1.out (by omega) (nm_of hs)).mono ?_; rintro e w2 ⟨nm, A', k, d, ts, p', ⟨rfl, hnm, hk, hp'⟩, hlen, hs', hown, hrd, hg2⟩
  have hsz1 := HG1.out.size
  have hsz2 := hg2.size
  have hlx := HX1.out.1
  have HX2 := Lib.hid (HX1.out.grown hg2 (by simp; omega))
  have HG2 := Lib.hid (grownTrans HG1.out hg2)
  have HO2 := Lib.hid hown; have HR2 := Lib.hid hrd; have HL := Lib.hid hlen; have HS := Lib.hid hs'
  have hne : (Value.slice A' k d).ownBlock ≠ some w.heap.size := fun e => by have := hown.lt _ e; omega
  have HN := Lib.hid hne
  clear hown hrd hg2 hne hlen hs'
  obtain ⟨x1, x2, x3, x4, x5⟩ := HX2.out
  go_wp2
  have hsz3 := HG2.out.size
  refine bodyPost_ret (v := .agg #[.string nm, .slice A' k d]) (by simp [results, Tryz.results105, go_sem, x2, x3]) rfl ⟨nm, A', k, d, ts, p', ⟨rfl, hnm, hk, by omega⟩, HL.out, HS.out, ?_, ?_, ?_⟩
  · exact ownsRow_setCell_other (ownsRow_setCell_other (ownsLess HO2.out (by omega)) HN.out _) HN.out _
  · exact (HR2.out.set (by simp; omega) _).set (by simp; omega) _
  · have h1 := HG2.out
    exact ⟨h1.os, h1.tape, h1.output, by rw [size_setCell, size_setCell]; exact h1.size, fun i hi hne => (set2_far (by omega)).trans (h1.block i hi hne)⟩

theorem put_mem {xs : List At} {a y : At} (h : y ∈ putL xs a) : y ∈ xs ∨ y = a := by
  unfold putL at h
  split at h
  · exact .inl h
  · exact (mem_ins xs a y).1 h

theorem OwnRow.grown {V W : World} {B b : Nat} {xs : List At} {v : Value} (h : OwnRow V B xs v) (hg : V.grownBy W (some b)) (hB : b < B) : OwnRow W B xs v := by
  obtain ⟨n, M, rs, ⟨h5, h6⟩, h1, h2, h3, h4⟩ := h
  exact ⟨n, M, rs, ⟨h5, Nat.le_trans h6 hg.size⟩, h1, h2, h3.kept hg (ownNe h3 (by omega)), h4.keep (fun q hq hq' => hg.cell_far _ (Nat.lt_of_lt_of_le hq' h6) (fun e => by injection e with e; omega)) (Nat.le_refl _) (Nat.le_refl _)⟩

theorem OwnRow.nil {V : World} {B : Nat} {v : Value} (hB : B ≤ V.heap.size) (h : V.ownsRow B 49 2 v 0 []) : OwnRow V B [] v := ⟨0, B, [], ⟨Nat.le_refl _, hB⟩, rfl, rfl, h, fun r hr => absurd hr (by simp)⟩

/-- Facts were drawn: they stand in order, in memory of their own. -/
def FactsRow (most s : Nat) (b : Nat) (A : Option Addr) (n c p : Nat) (w : World) (e : Ending) (w' : World) : Prop :=
  ∃ (v : Value) (xs : List At) (p' : Nat), (e = .returned v ∧ xs.length ≤ most ∧ p' ≤ p + s) ∧ OwnRow w' w.heap.size xs v ∧ risesB xs = true ∧ (∀ q ∈ xs, q.1.size ≤ 16 ∧ q.2.length ≤ 3 ∧ ∀ t ∈ q.2, t.2.size ≤ 16) ∧ Rd w' b A n c p' ∧ w.grownBy w' (some b)

set_option maxRecDepth 100000 in
set_option maxHeartbeats 4000000 in
theorem facts_draw (b : Nat) (A : Option Addr) (n c p most : Nat) (w : World) (h : Rd w b A n c p) (hp : p ≤ 800000) (hmost : most ≤ 1000) :
    Calls Tryz.prog 63 #[.pointer (some ⟨b, 0, none⟩), .int .i64 (most : Int)] w (FactsRow most (1 + 8 * most) b A n c p w) := by
  have H := Lib.hid h; clear h
  have hbw : b < w.heap.size := H.out.1
  go_enter Tryz.func63, Tryz.ntmps63
  go_wp2_with fail
  refine (pick_any b A n c p most _ (H.out.below (below1 _ _)) (by omega) (by omega)).mono ?_; rintro e w1 ⟨k0, ⟨rfl, hk0⟩, hr1, hg1⟩
  have hk0' : k0 ≤ most := by omega
  have HR1 := Lib.hid hr1
  have HG1 := Lib.hid (grownTrans (grownBelow (below1 w _) (some b)) hg1)
  have hs1 := HG1.out.size
  have HE1 : Hid (w1.ownsRow w.heap.size 49 2 (.slice (some ⟨w.heap.size, 0, none⟩) 0 0) 0 []) := Lib.hid ((own_empty w 49 w.heap.size (Nat.le_refl _)).kept hg1 (.inr (by simp [Value.ownBlock]; omega)))
  clear hr1 hg1 hk0
  go_wp2
  go_loopw [5, 6] (fun o i wr => ∃ (k : Nat) (xs : List At) (p' : Nat), k ≤ k0 ∧ i = .int .i64 (k : Int) ∧ xs.length ≤ k0 - k ∧ p' ≤ p + 1 + 8 * (k0 - k) ∧ OwnRow wr w.heap.size xs o ∧ risesB xs = true ∧ (∀ q ∈ xs, q.1.size ≤ 16 ∧ q.2.length ≤ 3 ∧ ∀ t ∈ q.2, t.2.size ≤ 16) ∧ Rd wr b A n c p' ∧ w.grownBy wr (some b)) (fun _ i _ => (intOf i).toNat)
  case atStart => exact ⟨k0, [], p + 1, Nat.le_refl _, rfl, by simp, by omega, OwnRow.nil hs1 HE1.out, rfl, fun q hq => absurd hq (by simp), HR1.out, HG1.out⟩
  case round =>
    obtain ⟨k, xs, p', hk, rfl, hj, hp', hI, hR, hS, hrd, hg⟩ := hrel
    have HI := Lib.hid hI; have HRS := Lib.hid hR; have HS := Lib.hid hS; have HRD := Lib.hid hrd; have HG := Lib.hid hg
    have hsz := hg.size
    clear hI hR hS hrd hg
    by_cases h0 : 0 < k
    · have h0' : (0 : Int) < (k : Int) := by omega
      go_wp2_with fail
      refine (fact_draw b A n c p' _ HRD.out (by omega)).mono ?_; rintro e w3 ⟨nm, A', k3, d3, ts, p3, ⟨rfl, hnm, hk3, hp3⟩, hlen, hs3, hown, hrd3, hg3⟩
      have hsz3 := hg3.size
      obtain ⟨A4, c4, e4, hT⟩ := owned_terms hown hlen hs3
      injection e4 with e4 _ e5
      subst e4; subst e5
      have T3 := hT.keep (w' := w3) (lo' := w.heap.size) (hi' := w3.heap.size) (fun _ _ _ => rfl) hsz (Nat.le_refl _)
      have HI3 := Lib.hid (HI.out.grown hg3 hbw); have HT3 := Lib.hid T3; have HRD3 := Lib.hid hrd3; have HG3 := Lib.hid (grownTrans HG.out hg3)
      have HS3 := Lib.hid hs3
      clear hown hT T3 hrd3 hg3 hs3
      have hnm' : nm.size ≤ maxLen := by unfold maxLen; omega
      go_wp2_with fail
      refine (l3Put_row _ xs nm A' k3 d3 ts _ w.heap.size (by omega) HI3.out hnm' HT3.out HRS.out (by omega)).mono ?_; rintro e w4 ⟨v5, rfl, ho5, hb5⟩
      have hl5 := put_len xs (nm, ts)
      have HI5 := Lib.hid ho5
      have HRD5 := Lib.hid (HRD3.out.below hb5); have HG5 := Lib.hid (grownTrans HG3.out (grownBelow hb5 (some b)))
      clear ho5 hb5
      go_wp2
      go_roundw
      case rel =>
        refine ⟨k - 1, putL xs (nm, ts), p3, by omega, by go_num, by omega, by omega, HI5.out, put_rises HRS.out, fun q hq => ?_, HRD5.out, HG5.out⟩
        rcases put_mem hq with hq | rfl
        · exact HS.out q hq
        · exact ⟨hnm.1, by show ts.length ≤ 3; omega, HS3.out⟩
      case measure => simp [intOf]; omega
    · have h0' : ¬ (0 : Int) < (k : Int) := by omega
      go_wp2
      go_ret; exact ⟨_, xs, p', ⟨rfl, by omega, by omega⟩, HI.out, HRS.out, HS.out, HRD.out, HG.out⟩

end Go.Proofs.YtcigljngiemdeaaGreat

namespace Go.Proofs.YtcigljngiemdeaaGreat
open Go.RowKit

theorem atoms_take {w : World} {lo hi n c k : Nat} {A : Option Addr} {xs : List At} (h : IsAtoms w lo hi A n c xs) (hk : k ≤ n) : IsAtoms w lo hi A k c (xs.take k) := by
  obtain ⟨h1, h2, h3, h4⟩ := h
  refine ⟨by rw [List.length_take]; omega, by omega, h3, fun h0 => ?_⟩
  obtain ⟨p, e, a, b, f⟩ := h4 (by omega)
  refine ⟨p, e, a, b, fun i x hx => f i x ?_⟩
  rw [List.getElem?_take] at hx
  by_cases hi : i < k
  · rwa [if_pos hi] at hx
  · rw [if_neg hi] at hx; cases hx

/-- One more behind a row. -/
theorem row_more {w3 w4 : World} {B M S n k d cap g' : Nat} {v : Value} {rs : List Rf} {xs : List At} {nm : ByteArray} {A' : Option Addr} {ts : List Tm} {o : Obj}
    (hB : B ≤ M) (hM : M ≤ S) (hS : S ≤ w3.heap.size) (hl : rs.length = n) (hm : rs.map rAt = xs) (h3 : w3.ownsRow M 49 2 v n (rcells rs)) (hv : ∀ g, v.ownBlock = some g → g < S) (hR : RefsIn w3 B M rs)
    (hs : nm.size ≤ maxLen) (hT : IsTerms w3 S w3.heap.size A' k d ts)
    (hown : w4.ownsRow M 49 2 (.slice (some ⟨g', 0, none⟩) (n + 1) cap) (n + 1) (rcells rs ++ [.string nm, .slice A' k d])) (hg : (w3.alloc o).grownBy w4 v.ownBlock) :
    IsAtoms w4 B w4.heap.size (some ⟨g', 0, none⟩) (n + 1) cap (xs ++ [(nm, ts)]) := by
  have hlow : ∀ g, v.ownBlock = some g → M ≤ g := fun g hgg => (h3.lt g hgg).1
  have hz : w3.heap.size ≤ w4.heap.size := by have := hg.size; simp at this; omega
  have hc : ∀ q : Addr, q.block < w3.heap.size → (∀ g, v.ownBlock = some g → q.block ≠ g) → w4.cell? q = w3.cell? q := fun q hq hne =>
    (hg.cell_far _ (by simp; omega) (fun e => hne _ e.symm rfl)).trans ((below1 w3 o).cell hq)
  have hr : RefsIn w4 B w4.heap.size (rs ++ [(nm, A', k, d, ts)]) := by
    intro r hr
    rcases List.mem_append.1 hr with h1 | h1
    · exact ⟨(hR r h1).1, (hR r h1).2.keep (fun q _ h2 => hc q (by omega) (fun g e => by have := hlow g e; omega)) (Nat.le_refl _) (by omega)⟩
    · rw [List.mem_singleton.1 h1]
      exact ⟨hs, hT.keep (fun q h2 h3' => hc q h3' (fun g e => by have := hv g e; omega)) (by omega) hz⟩
  have e : rcells rs ++ [.string nm, .slice A' k d] = rcells (rs ++ [(nm, A', k, d, ts)]) := by rw [rcells_app]; rfl
  rw [e] at hown
  obtain ⟨A, c, he, hI⟩ := refs_own hown (by simp [hl]) hB hr (Nat.le_refl _)
  injection he with e1 _ e2
  subst e1; subst e2
  have := hI.atoms
  rw [List.map_append, hm] at this
  exact this

theorem two_terms (W : World) (x y : ByteArray) (hx : x.size ≤ maxLen) (hy : y.size ≤ maxLen) : IsTerms (W.alloc (.cells #[.bool false, .string x, .bool false, .string y] 59)) W.heap.size (W.heap.size + 1) (some ⟨W.heap.size, 0, none⟩) 2 2 [(false, x), (false, y)] := by
  refine ⟨rfl, Nat.le_refl _, by unfold maxLen; omega, fun _ => ⟨_, rfl, Nat.le_refl _, Nat.lt_succ_self _, fun i t ht => ?_⟩⟩
  match i, ht with
  | 0, ht => injection ht with ht; subst ht; exact ⟨by simp [go_sem, Addr.add], by simp [go_sem, Addr.add], hx⟩
  | 1, ht => injection ht with ht; subst ht; exact ⟨by simp [go_sem, Addr.add], by simp [go_sem, Addr.add], hy⟩
  | i + 2, ht => simp at ht

/-- Any facts were drawn. -/
def AnyFacts (s : Nat) (b : Nat) (A : Option Addr) (n c p : Nat) (w : World) (e : Ending) (w' : World) : Prop :=
  ∃ (A' : Option Addr) (k d : Nat) (xs : List At) (p' : Nat), (e = .returned (.slice A' k d) ∧ k ≤ 41 ∧ p' ≤ p + s) ∧ IsAtoms w' w.heap.size w'.heap.size A' k d xs ∧ Rd w' b A n c p' ∧ w.grownBy w' (some b)

theorem facts_draw9 (b : Nat) (A : Option Addr) (n c p : Nat) (w : World) (h : Rd w b A n c p) (hp : p ≤ 800000) :
    Calls Tryz.prog 63 #[.pointer (some ⟨b, 0, none⟩), .int .i64 9] w (FactsRow 9 73 b A n c p w) := facts_draw b A n c p 9 w h hp (by omega)

theorem grownWide {a b c : World} {row : Option Nat} {r : Nat} (h : a.grownBy b (some r)) (k : b.grownBy c row) (hr : ∀ g, row = some g → a.heap.size ≤ g) : a.grownBy c (some r) :=
  ⟨k.os.trans h.os, k.tape.trans h.tape, k.output.trans h.output, Nat.le_trans h.size k.size, fun i hi hne => (k.block i (Nat.lt_of_lt_of_le hi h.size) (fun e => by have := hr i e.symm; omega)).trans (h.block i hi hne)⟩

set_option maxRecDepth 100000 in
set_option maxHeartbeats 8000000 in
theorem any_facts_draw (b : Nat) (A : Option Addr) (n c p : Nat) (w : World) (h : Rd w b A n c p) (hp : p ≤ 700000) :
    Calls Tryz.prog 59 #[.pointer (some ⟨b, 0, none⟩)] w (AnyFacts 120 b A n c p w) := by
  have H := Lib.hid h; clear h
  have hbw : b < w.heap.size := H.out.1
  obtain ⟨i0, hi, hz, hsz, hby⟩ := info_parts Tryz.infoAt
  go_enter Tryz.func59, Tryz.ntmps59
  go_wp2_with fail
  refine (facts_draw9 b A n c p _ H.out (by omega)).mono ?_; rintro e w1 ⟨v, xs, p1, ⟨rfl, hk, hp1⟩, hrow, hris, hsm, hrd, hg1⟩
  have HRW := Lib.hid hrow; have HRS := Lib.hid hris; have R1 := Lib.hid hrd; have G1 := Lib.hid hg1
  have hs1 := hg1.size
  clear hrow hris hsm hrd hg1
  go_wp2_with fail
  refine (pick_any b A n c p1 _ _ R1.out (by omega) (by omega)).mono ?_; rintro e w2 ⟨kk, ⟨rfl, hkk⟩, hr2, hg2⟩
  have HRW2 := Lib.hid (HRW.out.grown hg2 hbw); have R2 := Lib.hid hr2; have G2 := Lib.hid (grownTrans G1.out hg2)
  have hs2 := hg2.size
  clear hr2 hg2 HRW G1 R1
  obtain ⟨Av, cv, rfl, -⟩ := HRW2.out.atoms
  by_cases k0 : kk = 0
  · subst k0
    obtain ⟨n0, M, rs, ⟨m1, m2⟩, hl, hm, hown, href⟩ := HRW2.out
    have hn0 : n0 = xs.length := by rw [← hm, List.length_map, hl]
    subst hn0
    have HO2 := Lib.hid hown; have HF2 := Lib.hid href; clear hown href
    go_wp2_with fail
    refine (any_atom_draw b A n c (p1 + 1) w2 R2.out (by omega)).mono ?_; rintro e w3 ⟨nm, A', k, d, ts, p', ⟨rfl, hnm, hk', hp'⟩, hlen, hs', hown3, hr3, hg3⟩
    obtain ⟨A4, c4, e4, hT⟩ := owned_terms hown3 hlen hs'
    injection e4 with e4 _ e5
    subst e4; subst e5
    have hs3 := hg3.size
    have HR3 := Lib.hid (HO2.out.kept hg3 (ownNe HO2.out (by omega)))
    have HF3 := Lib.hid (HF2.out.keep (W' := w3) (fun q hq hq' => hg3.cell_far _ (Nat.lt_of_lt_of_le hq' m2) (fun e => by injection e with e; omega)) (Nat.le_refl _) (Nat.le_refl _))
    have HT := Lib.hid hT; have R3 := Lib.hid hr3; have G3 := Lib.hid (grownTrans G2.out hg3)
    have hnm' : nm.size ≤ maxLen := by unfold maxLen; omega
    clear hT hr3 hg3 hown3
    go_wp2_with (at_builtin; refine wpList_append_own _ rfl _ _ 28 rfl M 49 i0 _ 2 40 Tryz.underlying28 hi hz hsz hby rfl (by decide) _ _ _ rfl (HR3.out.alloc _) ⟨w3.heap.size, 0, none⟩ 1 1 [.string nm, .slice A' k d] rfl rfl (two_new _ _ _ _) (by simp [Value.oneCell']) (by unfold maxLen; omega) (by omega) (by simp; omega) ?_; intro v' w4 hown' hgrow' _; obtain ⟨g', cap', rfl⟩ := ownsRow_succ hown'; have hown := Lib.hid hown'; have hgrow := Lib.hid hgrow'; clear hown' hgrow')
    have hlow : ∀ g, (Value.slice Av xs.length cv).ownBlock = some g → M ≤ g ∧ g < w2.heap.size := fun g hg => HO2.out.lt g hg
    go_ret
    refine ⟨_, _, _, _, p', ⟨rfl, by omega, by omega⟩, row_more m1 m2 hs3 hl hm HR3.out (fun g hg => (hlow g hg).2) HF3.out hnm' HT.out hown.out hgrow.out, ?_, ?_⟩
    · exact (R3.out.below (below1 _ _)).grown hgrow.out (fun g hg => by have := (hlow g hg).1; omega)
    · exact grownWide (grownTrans G3.out (grownBelow (below1 _ _) (some b))) hgrow.out (fun g hg => by have := (hlow g hg).1; omega)
  · by_cases k1 : kk = 1
    · subst k1
      obtain ⟨n0, M, rs, ⟨m1, m2⟩, hl, hm, hown, href⟩ := HRW2.out
      have hn0 : n0 = xs.length := by rw [← hm, List.length_map, hl]
      subst hn0
      have HO2 := Lib.hid hown; have HF2 := Lib.hid href; clear hown href
      go_wp2_with fail
      refine (fact_draw b A n c (p1 + 1) w2 R2.out (by omega)).mono ?_; rintro e w3 ⟨nm, A', k, d, ts, p', ⟨rfl, hnm, hk', hp'⟩, hlen, hs', hown3, hr3, hg3⟩
      obtain ⟨A4, c4, e4, hT⟩ := owned_terms hown3 hlen hs'
      injection e4 with e4 _ e5
      subst e4; subst e5
      have hs3 := hg3.size
      have HR3 := Lib.hid (HO2.out.kept hg3 (ownNe HO2.out (by omega)))
      have HF3 := Lib.hid (HF2.out.keep (W' := w3) (fun q hq hq' => hg3.cell_far _ (Nat.lt_of_lt_of_le hq' m2) (fun e => by injection e with e; omega)) (Nat.le_refl _) (Nat.le_refl _))
      have HT := Lib.hid hT; have R3 := Lib.hid hr3; have G3 := Lib.hid (grownTrans G2.out hg3)
      have hnm' : nm.size ≤ maxLen := by unfold maxLen; omega
      clear hT hr3 hg3 hown3
      go_wp2_with (at_builtin; refine wpList_append_own _ rfl _ _ 28 rfl M 49 i0 _ 2 40 Tryz.underlying28 hi hz hsz hby rfl (by decide) _ _ _ rfl (HR3.out.alloc _) ⟨w3.heap.size, 0, none⟩ 1 1 [.string nm, .slice A' k d] rfl rfl (two_new _ _ _ _) (by simp [Value.oneCell']) (by unfold maxLen; omega) (by omega) (by simp; omega) ?_; intro v' w4 hown' hgrow' _; obtain ⟨g', cap', rfl⟩ := ownsRow_succ hown'; have hown := Lib.hid hown'; have hgrow := Lib.hid hgrow'; clear hown' hgrow')
      have hlow : ∀ g, (Value.slice Av xs.length cv).ownBlock = some g → M ≤ g ∧ g < w2.heap.size := fun g hg => HO2.out.lt g hg
      go_ret
      refine ⟨_, _, _, _, p', ⟨rfl, by omega, by omega⟩, row_more m1 m2 hs3 hl hm HR3.out (fun g hg => (hlow g hg).2) HF3.out hnm' HT.out hown.out hgrow.out, ?_, ?_⟩
      · exact (R3.out.below (below1 _ _)).grown hgrow.out (fun g hg => by have := (hlow g hg).1; omega)
      · exact grownWide (grownTrans G3.out (grownBelow (below1 _ _) (some b))) hgrow.out (fun g hg => by have := (hlow g hg).1; omega)
    · by_cases k2 : kk = 2
      · subst k2
        go_wp2_with fail
        refine (l3Put_row _ xs _ _ 2 2 [(false, ⟨#[97]⟩), (false, ⟨#[98]⟩)] _ w.heap.size (by simp; omega) (HRW2.out.up (below1 w2 _)) (by decide) ((two_terms w2 ⟨#[97]⟩ ⟨#[98]⟩ (by decide) (by decide)).keep (fun _ _ _ => rfl) (by omega) (by simp)) HRS.out (by omega)).mono ?_; rintro e w3 ⟨v', rfl, ho, hb⟩
        obtain ⟨A', c', rfl, hI⟩ := ho.atoms
        have hl5 := put_len xs (⟨#[112]⟩, [(false, ⟨#[97]⟩), (false, ⟨#[98]⟩)])
        have HI := Lib.hid hI; have R3 := Lib.hid ((R2.out.below (below1 w2 _)).below hb); have G3 := Lib.hid (grownTrans (grownTrans G2.out (grownBelow (below1 w2 _) (some b))) (grownBelow hb (some b)))
        clear ho hI hb
        go_wp2
        go_ret
        exact ⟨_, _, _, _, p1 + 1, ⟨rfl, by omega, by omega⟩, HI.out, R3.out, G3.out⟩
      · by_cases k3 : kk = 3
        · subst k3
          have hs12 := Nat.le_trans hs1 hs2
          have hvo : ∀ k : Nat, ({ data := #[118] } ++ { data := #[48 + UInt8.ofNat k] } : ByteArray) = vOf k := fun k => by rw [← vText, UInt8.ofNat_add]; rfl
          go_wp2
          go_loopw [4, 5] (fun o i wr => ∃ k : Nat, k ≤ 7 ∧ i = .int .i64 (k : Int) ∧ OwnRow wr w.heap.size (tab (k * 6)) o ∧ Rd wr b A n c (p1 + 1) ∧ w.grownBy wr (some b)) (fun _ i _ => 7 - (intOf i).toNat)
          case atStart => exact ⟨0, by omega, rfl, OwnRow.nil (by simp; omega) (own_empty w2 49 w.heap.size hs12), R2.out.below (below1 _ _), grownTrans G2.out (grownBelow (below1 _ _) (some b))⟩
          case round =>
            obtain ⟨k, hk7, rfl, ho, hr, hg⟩ := hrel
            have HO := Lib.hid ho; have HR := Lib.hid hr; have HG := Lib.hid hg
            clear ho hr hg
            by_cases hlt : k < 7
            · have hlt7 : (k : Int) < 7 := by omega
              go_wp2
              go_loopw [4, 6] (fun o i wr' => ∃ j : Nat, j ≤ 6 ∧ i = .int .i64 (j : Int) ∧ OwnRow wr' w.heap.size (tab (k * 6 + j)) o ∧ Rd wr' b A n c (p1 + 1) ∧ w.grownBy wr' (some b)) (fun _ i _ => 6 - (intOf i).toNat)
              case atStart => exact ⟨0, by omega, rfl, HO.out, HR.out, HG.out⟩
              case round =>
                obtain ⟨j, hj6, rfl, ho, hr, hg⟩ := hrel
                have HO2 := Lib.hid ho; have HR2 := Lib.hid hr; have HG2 := Lib.hid hg
                clear ho hr hg
                by_cases hlt' : j < 6
                · go_wp2_with fail
                  refine (dec_any k (by omega) _).mono ?_; rintro e w3 ⟨rfl, hb3⟩
                  have HO3 := Lib.hid (HO2.out.up hb3); have HR3 := Lib.hid (HR2.out.below hb3); have HG3 := Lib.hid (grownTrans HG2.out (grownBelow hb3 (some b)))
                  clear hb3
                  go_wp2_with fail
                  refine (dec_any j (by omega) _).mono ?_; rintro e w4 ⟨rfl, hb4⟩
                  have HO4 := Lib.hid (HO3.out.up hb4); have HR4 := Lib.hid (HR3.out.below hb4); have HG4 := Lib.hid (grownTrans HG3.out (grownBelow hb4 (some b)))
                  clear hb4
                  go_wp2_with fail
                  refine (l3Put_row _ (tab (k * 6 + j)) _ _ 2 2 [(false, vOf k), (false, vOf j)] _ w.heap.size (by have := HG4.out.size; simp; omega) (HO4.out.up (below1 w4 _)) (by decide) ((two_terms w4 (vOf k) (vOf j) (by rw [vOf_size]; decide) (by rw [vOf_size]; decide)).keep (fun _ _ _ => rfl) HG4.out.size (by simp)) (tab_rises _) (by have := tab_len (k * 6 + j); omega)).mono ?_; rintro e w5 ⟨v', rfl, ho, hb⟩
                  have hta : putL (tab (k * 6 + j)) (⟨#[101]⟩, [(false, vOf k), (false, vOf j)]) = tab (k * 6 + (j + 1)) := (tab_at k j hlt').symm
                  rw [hta] at ho
                  have HO5 := Lib.hid ho; have HR5 := Lib.hid ((HR4.out.below (below1 w4 _)).below hb); have HG5 := Lib.hid (grownTrans (grownTrans HG4.out (grownBelow (below1 w4 _) (some b))) (grownBelow hb (some b)))
                  clear ho hb hta
                  go_wp2
                  go_roundw
                  case rel => exact ⟨j + 1, by omega, by go_num, HO5.out, HR5.out, HG5.out⟩
                  case measure => simp [intOf]; omega
                · go_wp2
                  go_roundw
                  case rel => exact ⟨k + 1, by omega, by go_num, by rw [show (k + 1) * 6 = k * 6 + j by omega]; exact HO2.out, HR2.out, HG2.out⟩
                  case measure => simp [intOf]; omega
            · have hk77 : k = 7 := by omega
              subst hk77
              go_wp2_with fail
              refine (pick_any b A n c (p1 + 1) _ _ HR.out (by omega) (by omega)).mono ?_; rintro e w3 ⟨kp, ⟨rfl, hkp⟩, hr3, hg3⟩
              have hkp' : kp < 2 := by omega
              obtain ⟨A', c', rfl, hI⟩ := (HO.out.grown hg3 hbw).atoms
              have hI2 : IsAtoms w3 w.heap.size w3.heap.size A' 42 c' (tab 42) := by have h42 := tab_all; rwa [show 7 * 6 = 42 from rfl, h42] at hI
              have HI := Lib.hid hI2; have HR3 := Lib.hid hr3; have HG3 := Lib.hid (grownTrans HG.out hg3)
              clear hI hI2 hr3 hg3
              obtain ⟨pA, rfl, -⟩ := HI.out.2.2.2 (by omega)
              have hcap := HI.out.2.1
              have hcm := HI.out.2.2.1
              unfold maxLen at hcm
              have hin : 40 + (kp : Int) ≤ (c' : Int) := by omega
              have hin2 : (0 : Int) ≤ 40 + (kp : Int) := by omega
              go_wp2
              go_ret
              exact ⟨_, _, _, _, p1 + 1 + 1, ⟨rfl, by omega, by omega⟩, atoms_take HI.out (by omega), HR3.out, HG3.out⟩
        · have hks : kk ≠ 0 ∧ kk ≠ 1 ∧ kk ≠ 2 ∧ kk ≠ 3 := ⟨k0, k1, k2, k3⟩
          obtain ⟨A', c', e', hI⟩ := HRW2.out.atoms
          injection e' with e1 _ e2
          subst e1; subst e2
          have HI := Lib.hid hI
          clear hI
          go_wp2
          go_ret
          exact ⟨_, _, _, _, p1 + 1, ⟨rfl, by omega, by omega⟩, HI.out, R2.out, G2.out⟩

end Go.Proofs.YtcigljngiemdeaaGreat

namespace Go.Proofs.YtcigljngiemdeaaGreat
open Go.RowKit



theorem Bx.row {a b : World} {x r : Nat} {u v : Value} (h : Bx a x u v) (hg : a.grownBy b (some r)) (hx : x ≠ r) : Bx b x u v := h.grown hg (fun e => by injection e with e; exact hx e)

/-- Facts and one were drawn. -/
def FactsAnd (w : World) (e : Ending) (w' : World) : Prop :=
  ∃ (A : Option Addr) (k d : Nat) (xs : List At) (nm : ByteArray) (B : Option Addr) (m d' : Nat) (ts : List Tm), (e = .returned (.tuple #[.slice A k d, .agg #[.string nm, .slice B m d']]) ∧ k ≤ 41 ∧ nm.size ≤ maxLen) ∧
    IsAtoms w' w.heap.size w'.heap.size A k d xs ∧ IsTerms w' w.heap.size w'.heap.size B m d' ts ∧ Below w.heap.size w w'

theorem IsTerms.low {w : World} {lo n c : Nat} {A : Option Addr} {ts : List Tm} (h : IsTerms w lo w.heap.size A n c ts) : IsTerms w 0 w.heap.size A n c ts := h.keep (fun _ _ _ => rfl) (Nat.zero_le _) (Nat.le_refl _)

/-- What lies behind a box stays where the box is written. -/
theorem atoms_two {w : World} {lo lo' n c x : Nat} {A : Option Addr} {xs : List At} {u v : Value} (h : IsAtoms w lo w.heap.size A n c xs) (hx : x < lo) (hl : lo' ≤ lo) :
    IsAtoms ((w.setCell ⟨x, 0, none⟩ u).setCell ⟨x, 1, none⟩ v) lo' ((w.setCell ⟨x, 0, none⟩ u).setCell ⟨x, 1, none⟩ v).heap.size A n c xs :=
  h.keep AtomE.stays (fun q hq _ => World.cell?_of_block ((Below.heap_setCell _ _ _ _ (by simp; omega)).trans (Below.heap_setCell _ _ _ _ (by simp; omega)))) hl (by rw [size_setCell, size_setCell]; exact Nat.le_refl _)

theorem terms_two {w : World} {lo lo' n c x : Nat} {A : Option Addr} {ts : List Tm} {u v : Value} (h : IsTerms w lo w.heap.size A n c ts) (hx : x < lo) (hl : lo' ≤ lo) :
    IsTerms ((w.setCell ⟨x, 0, none⟩ u).setCell ⟨x, 1, none⟩ v) lo' ((w.setCell ⟨x, 0, none⟩ u).setCell ⟨x, 1, none⟩ v).heap.size A n c ts :=
  h.keep (fun q hq _ => World.cell?_of_block ((Below.heap_setCell _ _ _ _ (by simp; omega)).trans (Below.heap_setCell _ _ _ _ (by simp; omega)))) hl (by rw [size_setCell, size_setCell]; exact Nat.le_refl _)

theorem below_two {w W : World} {x : Nat} {u v : Value} (h : Below w.heap.size w W) (hx : w.heap.size ≤ x) : Below w.heap.size w ((W.setCell ⟨x, 0, none⟩ u).setCell ⟨x, 1, none⟩ v) :=
  ⟨h.os, h.tape, h.output, by rw [size_setCell, size_setCell]; exact h.size, fun i hi => ((Below.heap_setCell _ _ _ i (by simp; omega)).trans (Below.heap_setCell _ _ _ i (by simp; omega))).trans (h.block i hi)⟩

theorem below_row {w w1 W : World} {b : Nat} (h : Below w.heap.size w w1) (hg : w1.grownBy W (some b)) (hb : w.heap.size ≤ b) : Below w.heap.size w W := h.grown hg h.size (fun k hk => by injection hk with hk; omega)

set_option maxRecDepth 100000 in
set_option maxHeartbeats 8000000 in
theorem drawFactsAdd_any (A : Option Addr) (n c : Nat) (w : World) (h : IsBytes w w.heap.size A n c) :
    Calls Tryz.prog 74 #[.slice A n c] w (FactsAnd w) := by
  go_enter Tryz.func74, Tryz.ntmps74
  go_wp2_with fail
  have hX0 := Bx.new w (.string ⟨#[]⟩) (.slice none 0 0) 49
  refine (open_any A n c _ (h.up (below1 w _))).mono ?_; rintro e w1 ⟨b, n', ⟨rfl, hb⟩, hr, hb1⟩
  rw [size_alloc_eq] at hb
  have X1 := Lib.hid (hX0.later hb1)
  have HB1 := Lib.hid (belowThen (below1 w _) hb1)
  have R1 := Lib.hid hr
  have hbw : b < w1.heap.size := hr.1
  clear hX0 hb1 hr
  go_wp2_with fail
  refine (any_facts_draw b A n' c 0 w1 R1.out (by omega)).mono ?_; rintro e w2 ⟨L, k, d, xs, p2, ⟨rfl, hk, hp2⟩, hI, hr2, hg2⟩
  have hs2 := hg2.size
  have HI2 := Lib.hid hI; have R2 := Lib.hid hr2; have X2 := Lib.hid (X1.out.row hg2 (by omega)); have HB2 := Lib.hid (below_row HB1.out hg2 (by omega)); have G2 := Lib.hid hg2
  have hx1 := X1.out.1
  clear hI hr2 hg2
  by_cases hk0 : 0 < k
  · have hk0' : (0 : Int) < (k : Int) := by omega
    go_wp2_with fail
    refine (pick_any b A n' c p2 _ _ R2.out (by omega) (by omega)).mono ?_; rintro e w3 ⟨kk, ⟨rfl, hkk⟩, hr3, hg3⟩
    have hs3 := hg3.size
    have HI3 := Lib.hid (HI2.out.keep (w' := w3) AtomE.stays (fun q h1 h2 => hg3.cell_far _ h2 (fun e => by injection e with e; omega)) (Nat.le_refl _) hs3)
    have R3 := Lib.hid hr3; have X3 := Lib.hid (X2.out.row hg3 (by omega)); have HB3 := Lib.hid (below_row HB2.out hg3 (by omega))
    clear hr3 hg3
    by_cases k0 : kk = 0
    · subst k0
      obtain ⟨pL, rfl, hpl1, hpl2, -⟩ := HI3.out.2.2.2 hk0
      obtain ⟨x1, x2, x3, x4, x5⟩ := X3.out
      have R3' := Lib.hid (show Rd w3.drew b A n' c (p2 + 1) from R3.out)
      go_wp2_with fail
      go_region_with (go_at_call 60; refine (pick_any b A n' c _ _ _ R3'.out (by omega) (by omega)).mono ?_; rintro e w4 ⟨kq, ⟨rfl, hkq⟩, hr4, hg4'⟩; have hg4 := ungrown hg4'; clear hg4'; have hkq' : kq < k := (by omega); have hkq2 : (kq : Int) < (k : Int) := (by omega); have hkz : (0 : Int) ≤ (kq : Int) := (by omega); have hs4 := hg4.size; have HI4 := HI3.out.keep (w' := w4) AtomE.stays (fun q h1 h2 => hg4.cell_far _ h2 (fun e => by (injection e with e; omega))) (Nat.le_refl _) hs4; obtain ⟨pM, q, hpe, -, -, hgq, hE⟩ := HI4.at_ hkq'; injection hpe with hpe; subst hpe; obtain ⟨A5, m5, c5, d1, d3, d4, d5⟩ := hE.out; clear hE; have Y4 := X3.out.row hg4 (by omega); have y2 := Y4.2.1; have y3 := Y4.2.2.1; have y4 := Y4.2.2.2.1; have y5 := Y4.2.2.2.2)
      have HI5 := Lib.hid HI4; have HB5 := Lib.hid (below_row HB3.out hg4 (by omega)); have Y5 := Lib.hid Y4; have HT5 := Lib.hid d5
      clear HI4 hr4 hg4 Y4 y2 y3 y4 y5 d1 d4 d5
      obtain ⟨z1, z2, z3, z4, z5⟩ := Y5.out
      go_wp2
      refine bodyPost_ret (v := .tuple #[.slice (some pL) k d, .agg #[.string q.1, .slice A5 m5 c5]]) (by simp [results, Tryz.results74, go_sem, z2, z3]) rfl ?_
      exact ⟨_, k, d, xs, q.1, A5, m5, c5, _, ⟨rfl, hk, by unfold maxLen at *; omega⟩, atoms_two HI5.out (by omega) (by omega), terms_two HT5.out (by omega) (by omega), below_two HB5.out (by omega)⟩
    · skip
      go_wp2_with fail
      refine (pick_any b A n' c (p2 + 1) _ _ R3.out (by omega) (by omega)).mono ?_; rintro e w5 ⟨k6, ⟨rfl, hk6⟩, hr5, hg5⟩
      have hs5 := hg5.size
      have HI5 := Lib.hid (HI3.out.keep (w' := w5) AtomE.stays (fun q h1 h2 => hg5.cell_far _ h2 (fun e => by injection e with e; omega)) (Nat.le_refl _) hg5.size)
      have R5 := Lib.hid hr5; have X5 := Lib.hid (X3.out.row hg5 (by omega)); have HB5 := Lib.hid (below_row HB3.out hg5 (by omega))
      clear hr5 hg5
      by_cases k60 : k6 = 0
      · subst k60
        go_wp2_with fail
        refine (any_atom_draw b A n' c _ w5 R5.out (by omega)).mono ?_; rintro e w6 ⟨nm, A6, m6, c6, ts, p6, ⟨rfl, hnm, -, hp6⟩, hlen, hs', hown, hr6, hg6⟩
        obtain ⟨A4, c4, e4, hT⟩ := owned_terms hown hlen hs'
        injection e4 with e4 _ e5
        subst e4; subst e5
        have hs6 := hg6.size
        have HI6 := Lib.hid (HI5.out.keep (w' := w6) AtomE.stays (fun q h1 h2 => hg6.cell_far _ h2 (fun e => by injection e with e; omega)) (Nat.le_refl _) hg6.size)
        have X6 := Lib.hid (X5.out.row hg6 (by omega)); have HB6 := Lib.hid (below_row HB5.out hg6 (by omega)); have HT6 := Lib.hid hT
        clear hr6 hg6 hT hown
        obtain ⟨z1, z2, z3, z4, z5⟩ := X6.out
        go_wp2
        refine bodyPost_ret (v := .tuple #[.slice L k d, .agg #[.string nm, .slice A6 m6 c6]]) (by simp [results, Tryz.results74, go_sem, z2, z3]) rfl ?_
        exact ⟨_, k, d, xs, nm, A6, m6, c6, _, ⟨rfl, hk, by unfold maxLen at *; omega⟩, atoms_two HI6.out (by omega) (by omega), terms_two HT6.out (by omega) (by omega), below_two HB6.out (by omega)⟩
      · skip
        go_wp2_with fail
        refine (fact_draw b A n' c _ w5 R5.out (by omega)).mono ?_; rintro e w6 ⟨nm, A6, m6, c6, ts, p6, ⟨rfl, hnm, -, hp6⟩, hlen, hs', hown, hr6, hg6⟩
        obtain ⟨A4, c4, e4, hT⟩ := owned_terms hown hlen hs'
        injection e4 with e4 _ e5
        subst e4; subst e5
        have hs6 := hg6.size
        have HI6 := Lib.hid (HI5.out.keep (w' := w6) AtomE.stays (fun q h1 h2 => hg6.cell_far _ h2 (fun e => by injection e with e; omega)) (Nat.le_refl _) hg6.size)
        have X6 := Lib.hid (X5.out.row hg6 (by omega)); have HB6 := Lib.hid (below_row HB5.out hg6 (by omega)); have HT6 := Lib.hid hT
        clear hr6 hg6 hT hown
        obtain ⟨z1, z2, z3, z4, z5⟩ := X6.out
        go_wp2
        refine bodyPost_ret (v := .tuple #[.slice L k d, .agg #[.string nm, .slice A6 m6 c6]]) (by simp [results, Tryz.results74, go_sem, z2, z3]) rfl ?_
        exact ⟨_, k, d, xs, nm, A6, m6, c6, _, ⟨rfl, hk, by unfold maxLen at *; omega⟩, atoms_two HI6.out (by omega) (by omega), terms_two HT6.out (by omega) (by omega), below_two HB6.out (by omega)⟩
  · have hk0' : ¬ (0 : Int) < (k : Int) := by omega
    go_wp2_with fail
    refine (pick_any b A n' c p2 _ _ R2.out (by omega) (by omega)).mono ?_; rintro e w5 ⟨k6, ⟨rfl, hk6⟩, hr5, hg5⟩
    have hs5 := hg5.size
    have HI5 := Lib.hid (HI2.out.keep (w' := w5) AtomE.stays (fun q h1 h2 => hg5.cell_far _ h2 (fun e => by injection e with e; omega)) (Nat.le_refl _) hg5.size)
    have R5 := Lib.hid hr5; have X5 := Lib.hid (X2.out.row hg5 (by omega)); have HB5 := Lib.hid (below_row HB2.out hg5 (by omega))
    clear hr5 hg5
    by_cases k60 : k6 = 0
    · subst k60
      go_wp2_with fail
      refine (any_atom_draw b A n' c _ w5 R5.out (by omega)).mono ?_; rintro e w6 ⟨nm, A6, m6, c6, ts, p6, ⟨rfl, hnm, -, hp6⟩, hlen, hs', hown, hr6, hg6⟩
      obtain ⟨A4, c4, e4, hT⟩ := owned_terms hown hlen hs'
      injection e4 with e4 _ e5
      subst e4; subst e5
      have hs6 := hg6.size
      have HI6 := Lib.hid (HI5.out.keep (w' := w6) AtomE.stays (fun q h1 h2 => hg6.cell_far _ h2 (fun e => by injection e with e; omega)) (Nat.le_refl _) hg6.size)
      have X6 := Lib.hid (X5.out.row hg6 (by omega)); have HB6 := Lib.hid (below_row HB5.out hg6 (by omega)); have HT6 := Lib.hid hT
      clear hr6 hg6 hT hown
      obtain ⟨z1, z2, z3, z4, z5⟩ := X6.out
      go_wp2
      refine bodyPost_ret (v := .tuple #[.slice L k d, .agg #[.string nm, .slice A6 m6 c6]]) (by simp [results, Tryz.results74, go_sem, z2, z3]) rfl ?_
      exact ⟨_, k, d, xs, nm, A6, m6, c6, _, ⟨rfl, hk, by unfold maxLen at *; omega⟩, atoms_two HI6.out (by omega) (by omega), terms_two HT6.out (by omega) (by omega), below_two HB6.out (by omega)⟩
    · skip
      go_wp2_with fail
      refine (fact_draw b A n' c _ w5 R5.out (by omega)).mono ?_; rintro e w6 ⟨nm, A6, m6, c6, ts, p6, ⟨rfl, hnm, -, hp6⟩, hlen, hs', hown, hr6, hg6⟩
      obtain ⟨A4, c4, e4, hT⟩ := owned_terms hown hlen hs'
      injection e4 with e4 _ e5
      subst e4; subst e5
      have hs6 := hg6.size
      have HI6 := Lib.hid (HI5.out.keep (w' := w6) AtomE.stays (fun q h1 h2 => hg6.cell_far _ h2 (fun e => by injection e with e; omega)) (Nat.le_refl _) hg6.size)
      have X6 := Lib.hid (X5.out.row hg6 (by omega)); have HB6 := Lib.hid (below_row HB5.out hg6 (by omega)); have HT6 := Lib.hid hT
      clear hr6 hg6 hT hown
      obtain ⟨z1, z2, z3, z4, z5⟩ := X6.out
      go_wp2
      refine bodyPost_ret (v := .tuple #[.slice L k d, .agg #[.string nm, .slice A6 m6 c6]]) (by simp [results, Tryz.results74, go_sem, z2, z3]) rfl ?_
      exact ⟨_, k, d, xs, nm, A6, m6, c6, _, ⟨rfl, hk, by unfold maxLen at *; omega⟩, atoms_two HI6.out (by omega) (by omega), terms_two HT6.out (by omega) (by omega), below_two HB6.out (by omega)⟩

end Go.Proofs.YtcigljngiemdeaaGreat

