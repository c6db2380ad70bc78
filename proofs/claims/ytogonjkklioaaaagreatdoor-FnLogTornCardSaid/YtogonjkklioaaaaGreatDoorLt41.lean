/-
  Texts of one claim, put together.
-/
import Derived.Test.YtogonjkklioaaaaGreatDoorZq
import Derived.Test.YtogonjkklioaaaaGreatDoorLt19
import Derived.Test.YtogonjkklioaaaaGreatDoorLt38
import Derived.Test.YtogonjkklioaaaaGreatDoorLt18
import Derived.Deep.RegionLaw
import Derived.Deep.AppendLies
import Derived.Test.YtogonjkklioaaaaGreatDoorLt43
import Derived.Test.YtogonjkklioaaaaGreatDoorLt24
import Derived.Test.YtogonjkklioaaaaGreatDoorLt28
import Derived.Test.YtogonjkklioaaaaGreatDoorLt2
import Derived.Test.YtogonjkklioaaaaGreatDoorLt4
import Derived.Laws.StructEq
import Derived.Test.YtogonjkklioaaaaGreatDoorLt31
import Derived.Test.YtogonjkklioaaaaGreatDoorLt39
import Derived.Test.YtogonjkklioaaaaGreatDoorLt40
set_option maxRecDepth 100000
set_option maxHeartbeats 8000000
namespace Go.Proofs.YtogonjkklioaaaaGreatDoor
open Go.RowKit
def OwnRowT (V : World) (B : Nat) (xs : List At) (v : Value) : Prop := ∃ (n : Nat) (rs : List Rf), rs.length = n ∧ rs.map rAt = xs ∧ V.ownsRow B 51 2 v n (zai rs) ∧ OwnIn V B V.heap.size rs
theorem l3Less_row (A : Option Addr) (n c : Nat) (xs : List At) (B : Option Addr) (n' c' : Nat) (ys : List At) (w : World) (h : IsAtoms w 0 w.heap.size A n c xs) (hn : zax n xs) (h' : IsAtoms w 0 w.heap.size B n' c' ys) (hr : zaj ys = true) :
    Calls Tryz.prog 68 #[.slice A n c, .slice B n' c'] w (fun e w' => ∃ v, e = .returned v ∧ OwnRowT w' w.heap.size (zbx xs ys) v ∧ Below w.heap.size w w') := by
  obtain ⟨hn1, a7⟩ := hn; obtain ⟨i0, hi, hz, hsz, hby⟩ := info_parts Tryz.infoAt; have HN := hid a7; clear a7; have HL0 := hid h.1; have H := hid h; have H' := hid h'; clear h h'; have HRR := hid hr; clear hr; go_enter Tryz.func68, Tryz.ntmps68; go_wp2; go_loopw [5, 6] (fun o i wr => ∃ (k j : Nat) (Av : Option Addr) (cv : Nat) (rs : List Rf), k ≤ n ∧ i = .int .i64 k ∧ o = .slice Av j cv ∧ j ≤ k ∧ wr.ownsRow w.heap.size 51 2 (.slice Av j cv) j (zai rs) ∧ rs.length = j ∧ rs.map rAt = zbx (xs.take k) ys ∧ OwnIn wr w.heap.size wr.heap.size rs ∧ Below w.heap.size w wr) (fun _ i _ => n - (intOf i).toNat)
  case atStart => exact ⟨0, 0, some ⟨w.heap.size, 0, none⟩, 0, [], Nat.zero_le _, rfl, rfl, nl _, ⟨rfl, .inr ⟨w.heap.size, 0, #[], rfl, nl _, heap_alloc_new w _, nl _, by unfold maxLen; omega, rfl, rfl⟩⟩, rfl, rfl, OwnIn.nil, zac _ _⟩
  case round =>
    obtain ⟨k, j, Av, cv, rs, hk, rfl, rfl, hjk, a3, hl, hm, ho, hb⟩ := hrel; have HR := hid a3; have HL := hid hl; have HM := hid hm; have HO := hid ho; clear a3 hl hm ho; by_cases hlt : k < n
    · obtain ⟨p, q, hA, hlo, hhi, hg, hE⟩ := (H.out.below AtomE.stays hb (nl _)).at_ hlt
      obtain ⟨A', m', d', d1, d3, d4, d5⟩ := hE.out; clear hE; subst hA; have hq : m' ≤ 1048576 := qcl; have HG := hid hg; clear hg; have b6 := hb.size; have hpz : p.block < wr.heap.size := Nat.lt_of_lt_of_le hhi b6; have HT := hid (d5.keep (w' := wr) (lo' := 0) (hi' := wr.heap.size) (fun _ _ _ => rfl) (nl _) hb.size); clear d5; go_wp2_with fail; refine (zcu B n' c' ys q.1 A' m' d' q.2 _ (H'.out.up AtomE.stays hb) HT.out HRR.out).mono ?_; rintro e w0 ⟨rfl, a2⟩; have y1 := (a2.cell (p := p.add (k * 2)) qbk).trans d1; have y2 := (a2.cell (p := ⟨(p.add (k * 2)).block, (p.add (k * 2)).off + 1, none⟩) qbk).trans d4
      have a4 := zaa hb a2; have b5 := a2.size; have a5 := hid (HO.out.keep (w' := w0) (fun b _ h2 => a2.block b h2) (nl _) a2.size); have a6 := hid (zan HR.out a2); clear d1 d4; cases hh : zbr ys (q.1, q.2)
      · have HH := hid (show zbr ys q = false from hh); clear hh
        go_wp2_with fail; refine (zbt q.1 A' m' d' q.2 _ (HT.out.up a2) hq).mono ?_; rintro e w1 ⟨A2, d2, rfl, hT, hR, hb1⟩; have b7 := hid hT; have b4 := hid hR; have HRW := hid (zan a6.out hb1); have a9 : w.heap.size ≤ w1.heap.size := Nat.le_trans a4.size hb1.size; clear hT hR y1 y2; go_wp2_with (at_builtin; refine wpList_append_own _ rfl _ _ 23 rfl w.heap.size 51 i0 _ 2 40 Tryz.underlying23 hi hz hsz hby rfl qam _ _ _ rfl (HRW.out.alloc _) ⟨w1.heap.size, 0, none⟩ 1 1 [.string q.1, .slice A2 m' d2] rfl rfl (zbv _ _ _ _) qal qaf qaa qai ?_; intro v' w2 hown' hgrow' _; obtain ⟨g', cap', rfl⟩ := ownsRow_succ hown'; have hown := hid hown'; have hgrow := hid hgrow'; clear hown' hgrow')
        obtain ⟨b3, r1, r2, r3, r4, r5⟩ := zjy HL.out HM.out a5.out a4 hb1 d3 b7.out b4.out HRW.out hown.out hgrow.out; go_roundw
        case rel => exact ⟨k + 1, j + 1, _, _, b3, by omega, by go_num, rfl, by omega, r3, r1, by rw [r2, less_yes HG.out HH.out], r4, r5⟩
        case measure => exact qms
      · have HH := hid (show zbr ys q = true from hh); clear hh
        go_wp2; go_roundw
        case rel => exact ⟨k + 1, j, _, _, rs, by omega, by go_num, rfl, by omega, a6.out, HL.out, by rw [less_no HG.out HH.out]; exact HM.out, a5.out, a4⟩
        case measure => exact qms
    · have a8 : zbx (xs.take k) ys = zbx xs ys := qdp
      have HX := hid a8; clear a8; go_wp2; go_ret; exact ⟨_, rfl, ⟨j, rs, HL.out, by rw [HM.out]; exact HX.out, HR.out, HO.out⟩, hb⟩
theorem OwnRowT.atoms {V : World} {B : Nat} {xs : List At} {v : Value} (h : OwnRowT V B xs v) : ∃ A c, v = .slice A xs.length c ∧ IsAtoms V B V.heap.size A xs.length c xs := by
  obtain ⟨n, rs, h1, h2, h3, h4⟩ := h; have hl : xs.length = n := by rw [← h2, List.length_map, h1]
  rw [hl]; obtain ⟨A, c, e, hI⟩ := zgb h3 h1.symm (nl _) (fun r hr => ⟨(h4.1 r hr).1, (h4.1 r hr).2.1⟩) (nl _); refine ⟨A, c, e, ?_⟩; have := hI.atoms
  rwa [h2] at this
theorem OwnRowT.turned {V W : World} {B B' : Nat} {xs : List At} {v : Value} (h : OwnRowT V B xs v) (hk : ∀ i, B ≤ i → i < V.heap.size → W.heap[i]? = V.heap[i]?) (hs : V.heap.size ≤ W.heap.size) (hB : B' ≤ B) : OwnRowT W B' xs v := by
  obtain ⟨n, rs, h1, h2, h3, h4⟩ := h; refine ⟨n, rs, h1, h2, ⟨h3.1, h3.2.imp id ?_⟩, h4.keep hk hB hs⟩; rintro ⟨g, cap, a2, hv, hg, hgb, rest⟩; exact ⟨g, cap, a2, hv, by omega, (hk g hg (Array.getElem?_eq_some_iff.1 hgb).1).trans hgb, rest⟩
theorem OwnRowT.two {V : World} {B B' x : Nat} {xs : List At} {v u u' : Value} (h : OwnRowT V B xs v) (hx : x < B) (hB : B' ≤ B) : OwnRowT ((V.setCell ⟨x, 0, none⟩ u).setCell ⟨x, 1, none⟩ u') B' xs v :=
  h.turned (fun i h1 _ => (hs_ _ _ _ i qai).trans (hs_ _ _ _ i qai)) qbn hB
theorem zpb (b : Nat) (A : Option Addr) (n c p : Nat) (w : World) (h : Rd w b A n c p) (hp : p ≤ 800000) :
    Calls Tryz.prog 67 #[.pointer (some ⟨b, 0, none⟩), .int .i64 5] w (FactsRow 5 41 b A n c p w) := facts_draw b A n c p 5 w h hp qaa
theorem atoms_set {w : World} {lo hi n c : Nat} {A : Option Addr} {xs : List At} (h : IsAtoms w lo hi A n c xs) {q : Addr} (hq : q.block < lo ∨ hi ≤ q.block) (hh : hi ≤ w.heap.size) (y : Value) : IsAtoms (w.setCell q y) lo hi A n c xs :=
  h.keep AtomE.stays (fun a h1 h2 => (zij w q y).cell_far _ qaa qao) (nl _) (nl _)
theorem zic {w : World} {lo hi lo' hi' n c : Nat} {A : Option Addr} {xs : List At} (h : IsAtoms w lo hi A n c xs) (h1 : lo' ≤ lo) (h2 : hi ≤ hi') : IsAtoms w lo' hi' A n c xs := h.keep AtomE.stays (fun _ _ _ => rfl) h1 h2
def ChangeDraw (s : Nat) (b : Nat) (A : Option Addr) (n c p : Nat) (w : World) (e : Ending) (w' : World) : Prop :=
  ∃ (M : Nat) (A1 : Option Addr) (k1 c1 : Nat) (cs : List At) (A2 : Option Addr) (k2 c2 : Nat) (gs : List At) (p' : Nat), (e = .returned (.agg #[.slice A1 k1 c1, .slice A2 k2 c2]) ∧ k1 ≤ 5 ∧ k2 ≤ 5 ∧ p' ≤ p + s) ∧ (w.heap.size ≤ M ∧ M ≤ w'.heap.size) ∧
    IsAtoms w' w.heap.size M A1 k1 c1 cs ∧ OwnRowT w' M gs (.slice A2 k2 c2) ∧ Rd w' b A n c p' ∧ w.grownBy w' (some b)
def ShortAts (xs : List At) : Prop := ∀ q ∈ xs, q.1.size ≤ 16 ∧ q.2.length ≤ 3 ∧ ∀ t ∈ q.2, t.2.size ≤ 16
def ChangeDrawS (s : Nat) (b : Nat) (A : Option Addr) (n c p : Nat) (w : World) (e : Ending) (w' : World) : Prop :=
  ∃ (M : Nat) (A1 : Option Addr) (k1 c1 : Nat) (cs : List At) (A2 : Option Addr) (k2 c2 : Nat) (gs : List At) (p' : Nat), (e = .returned (.agg #[.slice A1 k1 c1, .slice A2 k2 c2]) ∧ k1 ≤ 5 ∧ k2 ≤ 5 ∧ p' ≤ p + s) ∧ (w.heap.size ≤ M ∧ M ≤ w'.heap.size) ∧
    IsAtoms w' w.heap.size M A1 k1 c1 cs ∧ OwnRowT w' M gs (.slice A2 k2 c2) ∧ Rd w' b A n c p' ∧ w.grownBy w' (some b) ∧ ShortAts cs ∧ ShortAts gs
theorem grown_two {w W : World} {b x : Nat} {u v : Value} (h : w.grownBy W (some b)) (hx : w.heap.size ≤ x) : w.grownBy ((W.setCell ⟨x, 0, none⟩ u).setCell ⟨x, 1, none⟩ v) (some b) :=
  ⟨h.os, h.tape, h.output, by rw [zab, zab]; exact h.size, fun i hi hne => ((hs_ _ _ _ i qai).trans (hs_ _ _ _ i qai)).trans (h.block i hi hne)⟩
theorem change_drawS (b : Nat) (A : Option Addr) (n c p : Nat) (w : World) (h : Rd w b A n c p) (hp : p ≤ 700000) :
    Calls Tryz.prog 38 #[.pointer (some ⟨b, 0, none⟩)] w (ChangeDrawS 82 b A n c p w) := by
  have H := hid h; clear h; have hbw : b < w.heap.size := H.out.1; have X0 := hid (Bx.new w (.slice none 0 0) (.slice none 0 0) 25); go_enter Tryz.func38, Tryz.ntmps38; go_wp2_with fail; refine (zpb b A n c p _ (H.out.below (zac _ _)) qaa).mono ?_; rintro e w1 ⟨v1, cs, p1, ⟨rfl, hk1, hp1⟩, a4, a2, a8, hrd1, a9⟩; obtain ⟨L1, c1, rfl, b4⟩ := a4.atoms; have c0 := a9.size; rw [zeh] at b4 c0; have X1 := hid (X0.out.row a9 qaa); have I1 := hid b4; have R1 := hid hrd1; have G1 := hid (zaf (zah (zac w _) (some b)) a9); have b9 := hid a2; have c4 := hid a8
  clear a4 b4 hrd1 a9 X0 a8 a2; go_wp2_with fail; refine (zpb b A n c p1 w1 R1.out qaa).mono ?_; rintro e w2 ⟨v2, gs, p2, ⟨rfl, hk2, hp2⟩, a3, a7, a6, a5, hg2⟩; obtain ⟨L2, c2, rfl, b6⟩ := a3.atoms; have b5 := hg2.size; have X2 := hid (X1.out.row hg2 qaa); have b7 := hid (I1.out.keep (w' := w2) AtomE.stays (fun q h1 h2 => hg2.cell_far _ h2 qao) (nl _) (nl _)); have I2 := hid b6; have R2 := hid a5; have G2 := hid (zaf G1.out hg2); have HM := hid a6; clear a3 b6 a5 hg2 X1 I1 a6 a7; go_wp2_with fail; refine (l3Less_row L2 gs.length c2 gs L1 cs.length c1 cs w2 I2.out.low ⟨by omega, fun q hq => by have := (HM.out q hq).2.1; omega⟩ (zic b7.out (Nat.zero_le _) b5) b9.out).mono ?_; rintro e w3 ⟨v3, rfl, b3, hb3⟩
  obtain ⟨L3, c3, rfl, -⟩ := b3.atoms; have hl3 := less_le gs cs; have X3 := X2.out.later hb3; have hs3 := hb3.size; obtain ⟨x1, x2, x3, x4, x5⟩ := X3; have O3 := hid b3; have I3 := hid (b7.out.below AtomE.stays hb3 b5); have R3 := hid (R2.out.below hb3); have G3 := hid (zaf G2.out (zah hb3 (some b))); clear b3 hb3; go_wp2; refine bodyPost_ret (v := .agg #[.slice L1 cs.length c1, .slice L3 (zbx gs cs).length c3]) (by simp [results, Tryz.results38, go_sem, x2, x3]) rfl ?_; exact ⟨w1.heap.size, _, _, _, cs, _, _, _, zbx gs cs, p2, ⟨rfl, hk1, by omega, by omega⟩, ⟨by omega, by rw [zab, zab]; omega⟩, zic (atoms_set (atoms_set I3.out (.inl qag) qaa _) (.inl qag) (by rw [zab]; omega) _) qaa (nl _), O3.out.two qaa b5, (R3.out.set qai _).set qai _, grown_two G3.out (nl _), c4.out, fun q hq => HM.out q (List.mem_filter.1 hq).1⟩
theorem change_draw (b : Nat) (A : Option Addr) (n c p : Nat) (w : World) (h : Rd w b A n c p) (hp : p ≤ 700000) :
    Calls Tryz.prog 38 #[.pointer (some ⟨b, 0, none⟩)] w (ChangeDraw 82 b A n c p w) := by
  refine (change_drawS b A n c p w h hp).mono ?_; rintro e w' ⟨M, A1, k1, c1, cs, A2, k2, c2, gs, p', h1, h2, h3, h4, h5, h6, _, _⟩; exact ⟨M, A1, k1, c1, cs, A2, k2, c2, gs, p', h1, h2, h3, h4, h5, h6⟩
def CutPost (s : ByteArray) (b : Nat) (A : Option Addr) (n c p : Nat) (w : World) (e : Ending) (w' : World) : Prop :=
  ∃ (t : ByteArray) (p' : Nat), (e = .returned (.string t) ∧ t.size ≤ s.size + 16 ∧ p' ≤ p + 3) ∧ Rd w' b A n c p' ∧ w.grownBy w' (some b)
theorem of_drew (q : ByteArray → Bool) (g b m : Nat) (A : Option Addr) (n c p : Nat) (w : World) (cs : Array Value) (t : TypeId) (hg : w.heap.size = g) (h : Rd (w.alloc (.cells cs t)) b A n c p) (hp : p ≤ 1099511627776) (hc : cs.size = m) (hm : 0 < m) (hm' : m ≤ 1048576) (hq : cs.toList.all (strOk q) = true) :
    Calls Tryz.prog 66 #[.pointer (some ⟨b, 0, none⟩), .slice (some ⟨g, 0, none⟩) m m] (w.alloc (.cells cs t)).drew (OfPost (fun s => q s = true) b A n c p (w.alloc (.cells cs t)).drew) := by
  subst hg; subst hc; have hl := laid q w cs t hq
  exact of_any (fun s => q s = true) b w.heap.size cs.size A n c p _ h.drawn hp hm hm' (by
    intro e; obtain ⟨s, hs, _⟩ := hl 0 hm; have h0 := h.2.1; rw [← e] at h0; rw [h0] at hs; injection hs with hs; cases hs) hl
theorem cut_draw (s : ByteArray) (b : Nat) (A : Option Addr) (n c p : Nat) (w : World) (h : Rd w b A n c p) (hp : p ≤ 1000000) (hs : s.size ≤ 1000000) :
    Calls Tryz.prog 37 #[.pointer (some ⟨b, 0, none⟩), .string s] w (CutPost s b A n c p w) := by
  have H := hid h; clear h; have hbw := H.out.1; have hsI : (s.size : Int) ≤ 1000000 := qaa; have hws : IntKind.i64.wrap ((s.size : Int) + 1) = ((s.size + 1 : Nat) : Int) := qap; go_enter Tryz.func37, Tryz.ntmps37; go_wp2_with fail; refine (zbi b A n c p _ w H.out qaa qaa).mono ?_; rintro e w1 ⟨k, ⟨rfl, hk⟩, a6, a4⟩; have hks : k ≤ s.size := qaa; have R1 := hid a6; have G1 := hid a4; clear a6 a4 hk; go_wp2_with fail; refine (zbi b A n c _ _ w1 R1.out qaa qaa).mono ?_; rintro e w2 ⟨j, ⟨rfl, hj⟩, hr2, hg2⟩; have R2 := hid hr2; have G2 := hid (zaf G1.out hg2)
  clear hr2 hg2 R1 G1; have hz2 := G2.out.size; have hkI : (k : Int) ≤ (s.size : Int) := qaa; have a9 : (s.extract 0 k).size = k := by rw [ByteArray.size_extract]; omega
  have a8 : (s.extract k s.size).size = s.size - k := by rw [ByteArray.size_extract]; omega
  by_cases j0 : j = 0
  · subst j0
    have R2' := hid (show Rd w2.drew b A n c (p + 1 + 1) from R2.out); go_wp2_with fail; go_region_with ((go_at_call 66; refine (of_drew (fun s => decide (s.size ≤ 16)) w2.heap.size b 12 A n c _ w2 _ _ rfl (R2.out.below (zac _ _)) qaa qad qaa qaa qad).mono ?_); rintro e w5 ⟨t, ⟨rfl, ht⟩, a3, a5⟩; have a7 : t.size ≤ 16 := of_decide_eq_true ht; have hc1 : (s.extract 0 k ++ t).size = k + t.size := by rw [ByteArray.size_append, a9]); have a2 := ungrown a5; have G5 := hid (zaf G2.out (zaf (zah (zac w2 _) (some b)) a2)); have R5 := hid a3; clear a5 a2 a3; go_wp2; go_ret
    exact ⟨_, _, ⟨rfl, by rw [ByteArray.size_append, hc1, a8]; omega, by omega⟩, R5.out, G5.out⟩
  · have j0I : ((j : Int) == 0) = false := qbo
    by_cases j1 : j = 1
    · subst j1
      go_wp2_with fail; go_ret; exact ⟨_, _, ⟨rfl, by omega, by omega⟩, R2.out, G2.out⟩
    · have j1I : ((j : Int) == 1) = false := qbo
      go_wp2_with fail; go_ret; exact ⟨s, _, ⟨rfl, by omega, by omega⟩, R2.out, G2.out⟩
theorem logB_len (t : Int) (xs ys : List At) (k : Nat) (hk : xs.length + ys.length ≤ k) : (logB t xs ys).length ≤ 130 * k + 50 := by
  unfold logB; split
  · rename_i h
    obtain ⟨_, _, h3, h4⟩ := zbd h.1; have e1 := zdx 45 ys (fun a ha => zct (h4 a ha)); have e2 := zdx 43 xs (fun a ha => zct (h3 a ha)); have d1 := ziy t.toNat qaa; have s1 := sumB_lt (zcp t.toNat (chL xs ys)); have d2 := ziy (zhq (zcp t.toNat (chL xs ys))) qaa; unfold zbo; rw [List.length_append, List.length_append]
    have hh : (zcp t.toNat (chL xs ys)).length = (Lib.decDigits t.toNat).length + 1 + ((zcg 45 ys).length + (zcg 43 xs).length) := by
      unfold zcp chL; simp only [List.length_append, List.length_cons, List.length_nil]
    rw [hh]; simp only [List.length_cons, List.length_nil]; omega
  · simp
def TextDraw (m s : Nat) (b : Nat) (A : Option Addr) (n c p : Nat) (w : World) (e : Ending) (w' : World) : Prop :=
  ∃ (t : ByteArray) (p' : Nat), (e = .returned (.string t) ∧ t.size ≤ m ∧ p' ≤ p + s) ∧ Rd w' b A n c p' ∧ w.grownBy w' (some b)
theorem ZDrawLog0 {p : Prop} (h : p := by
  go_wp2_with fail; refine (zbi b A n c p1 8 wr R1.out qaa qaa).mono ?_; rintro e w6 ⟨k, ⟨rfl, hk⟩, hr6, hg6⟩; have R6 := hid hr6; have G6 := hid (zaf G1.out hg6); have X6 := hid ((XB.out.below HB.out).kept hg6 qao); clear hr6 hg6 hk x1 x3; rcases (Classical.em ((k : Int) = 0)) with hkI | hkI
  · go_wp2_with fail
    obtain ⟨V, hV⟩ : ∃ V, w6.drew = V := ⟨_, rfl⟩; have xV : V.cell? ⟨g, 3, none⟩ = some (.slice HA hs.length hc) := hV ▸ X6.out.cell 3; have RV := hid (show Rd V b A n c (p1 + 1) from hV ▸ R6.out); have hzV : w6.heap.size = V.heap.size := qbv; have GV := hid (show w.grownBy V (some b) from zaf G6.out (hV ▸ zah ((Below.refl _ _).drew) (some b))); have glt := X6.out.lt; have HV := hid hV; clear hV; refine wp_region_held_drew (S := fun W => W.cell? ⟨g, 3, none⟩ = some (.slice HA hs.length hc)) qab (by rw [HV.out]; exact xV) ?_; rw [HV.out]; intro hS_; refine tk 0 (.string s) hS_ ?_; refine tk 1 (.pointer (some ⟨g, 3, none⟩)) hS_ ?_
    refine tk 2 (.slice HA hs.length hc) hS_ ?_; refine tk 3 (.int .i64 (hs.length : Int)) hS_ ?_; refine tk 4 (.pointer (some ⟨b, 0, none⟩)) hS_ ?_; refine rd1 5 fun K_ hK_ => ?_; go_simp; go_at_call 38; refine (change_draw b A n c (p1 + 1) V RV.out qaa).mono ?_; rintro e w7 ⟨M, A1, k1, c1, cs, A2, k2, c2, ds, p6, ⟨rfl, hk1, hk2, hp6⟩, ⟨hM1, hM2⟩, hI, hO, hr7, hg7⟩; obtain ⟨L2, d2, e2, hJ⟩ := hO.atoms; injection e2 with e3 e4 e5; subst e3; subst e4; subst e5; have J1 := hid (zic hI (Nat.zero_le _) hM2); have J2 := hid (zic hJ (Nat.zero_le _) (nl _)); have hcl := hI.1
    have R7 := hid hr7; have G7 := hid (zaf GV.out hg7); have x7 : w7.cell? ⟨g, 3, none⟩ = some (.slice HA hs.length hc) := (cb_ (hg7.block g qaa qao)).trans xV; have hz7 := hg7.size; clear hI hO hJ hr7 hg7; refine hK_.out _ _ x7 fun hS_ => ?_; clear hK_; refine rd1 6 fun K_ hK_ => ?_; go_simp; go_at_call 81; refine (zii (hs.length : Int) A1 k1 c1 A2 ds.length c2 cs ds w7 J1.out J2.out).mono ?_; rintro e w8 ⟨rfl, hb8⟩; have hln := logB_len (hs.length : Int) cs ds 10 qaa; obtain ⟨u, hu⟩ : ∃ u : ByteArray, (⟨(logB (hs.length : Int) cs ds).toArray⟩ : ByteArray) = u := ⟨_, rfl⟩
    have hus : u.size ≤ 1350 := by rw [← hu]; show (logB (hs.length : Int) cs ds).toArray.size ≤ _; simp only [List.size_toArray]; omega
    rw [hu]; have R8 := hid (R7.out.below hb8); have G8 := hid (zaf G7.out (zah hb8 (some b))); have x8 : w8.cell? ⟨g, 3, none⟩ = some (.slice HA hs.length hc) := (hb8.cell (p := ⟨g, 3, none⟩) (by show g < _; omega)).trans x7; have hsu : s.size + u.size ≤ 9223372036854775807 := qaa; clear hb8 hu hln; refine hK_.out _ _ x8 fun hS_ => ?_; clear hK_; refine tk 7 (.string (s ++ u)) hS_ ?_ (hy := Or.inl ⟨by rfl, by intro w_ hSw_; (try dsimp only at hSw_); go_simp <;> omega⟩); refine tk 8 (.string (s ++ u)) hS_ ?_; refine wpAnyH_done qab ?_ _; clear hS_; go_wp2; go_ret; exact ⟨s ++ u, p6, ⟨rfl, by rw [ByteArray.size_append]; omega, by omega⟩, R8.out, G8.out⟩
  · go_wp2
    go_ret; exact ⟨s, p1 + 1, ⟨rfl, by omega, by omega⟩, R6.out, G6.out⟩) : p := h
theorem log_draw (b : Nat) (A : Option Addr) (n c p : Nat) (w : World) (h : Rd w b A n c p) (hp : p ≤ 500000) :
    Calls Tryz.prog 46 #[.pointer (some ⟨b, 0, none⟩)] w (TextDraw 320000 1500 b A n c p w) := by
  have H := hid h; clear h; have hbw : b < w.heap.size := H.out.1; go_enter Tryz.func46, Tryz.ntmps46; go_wp2_with fail; refine (base_draw b A n c p w H.out qaa).mono ?_; rintro e w1 ⟨RA, rc, rs, t, GA, gc, gs, HA, hc, hs, p1, rfl, a4, hp1, a9, a3, -, -, hI⟩; have xb := Blk.new w1 119 #[.slice RA rs.length rc, .int .i64 (t : Int), .slice GA gs.length gc, .slice HA hs.length hc]; have hb2 := zac w1 (.cells #[.slice RA rs.length rc, .int .i64 (t : Int), .slice GA gs.length gc, .slice HA hs.length hc] 119)
  have b5 := a3.size; obtain ⟨w2, a6⟩ : ∃ w2, w1.alloc (.cells #[.slice RA rs.length rc, .int .i64 (t : Int), .slice GA gs.length gc, .slice HA hs.length hc] 119) = w2 := ⟨_, rfl⟩; rw [a6] at xb hb2; have b9 := hid a6; have hz2 := hb2.size; obtain ⟨g, hg⟩ : ∃ g, w1.heap.size = g := ⟨_, rfl⟩; have HI := hid (hI.below ChE.stays hb2 (nl _)); have HR := hid (a9.below hb2); have HG := hid (zaf a3 (zah hb2 (some b))); have XB := hid xb; have c0 := hid hg; rw [hg] at XB HI b5 hz2; have a2 := hid a4.each; have hsh := a4.short; clear hI a9 a3 xb hb2 a6 a4 hg; go_wp2_with (rw [b9.out])
  rw [c0.out]; go_loopw [3, 5] (fun x y wr => ∃ (s : ByteArray) (i : Nat), (x = .string s ∧ y = .int .i64 (i : Int)) ∧ i ≤ hs.length ∧ s.size ≤ i * 10450 ∧ Below w2.heap.size w2 wr) (fun _ y _ => hs.length - (intOf y).toNat)
  case atStart => exact ⟨_, 0, ⟨rfl, rfl⟩, Nat.zero_le _, Nat.zero_le _, Below.refl _ _⟩
  case round =>
    obtain ⟨s, i, ⟨rfl, rfl⟩, hi, b6, hB⟩ := hrel; have x1 := (XB.out.below hB).cell 1; have x3 := (XB.out.below hB).cell 3; have c3 : (s.size : Int) ≤ 400000 := qaa; by_cases hlt : i < hs.length ∧ t = hs.length
    · obtain ⟨hl, ht⟩ := hlt
      have b3 : (i : Int) < (hs.length : Int) := qaa; have b4 : ((t : Int) == (hs.length : Int)) = true := by simp [ht]
      clear ht; have IC := (HI.out.below ChE.stays hB hz2); obtain ⟨p0, ⟨cs, ds⟩, b7, hg0, a3, a5, hE⟩ := IC.at_ hl; subst b7; obtain ⟨A1, n1, d1, B1, m1, d2, n0, a8, n1', a7⟩ := hE.out; have f1 := zaw (a2.out _ (List.mem_of_getElem? a5)).1; have f2 := zaw (a2.out _ (List.mem_of_getElem? a5)).2; have hz := hB.size; have J1 := hid (a8.keep (w' := wr) (lo' := 0) (hi' := wr.heap.size) AtomE.stays (fun _ _ _ => rfl) (Nat.zero_le _) qaa); have J2 := hid (a7.keep (w' := wr) (lo' := 0) (hi' := wr.heap.size) AtomE.stays (fun _ _ _ => rfl) (Nat.zero_le _) qaa); have HB := hid hB; clear hB IC hE a8 a7 a5; go_wp2_with fail
      refine (zii (i : Int) A1 n1 d1 B1 m1 d2 cs ds wr J1.out J2.out).mono ?_; rintro e w5 ⟨rfl, hb5⟩; have hln := logB_len (i : Int) cs ds 80 qaa; obtain ⟨u, hu⟩ : ∃ u : ByteArray, (⟨(logB (i : Int) cs ds).toArray⟩ : ByteArray) = u := ⟨_, rfl⟩; have hus : u.size ≤ 10450 := by rw [← hu]; show (logB (i : Int) cs ds).toArray.size ≤ _; simp only [List.size_toArray]; omega
      rw [hu]; have HB5 := hid (zaa HB.out hb5); clear hb5 hu hln; have hwi : IntKind.i64.wrap ((i : Int) + 1) = ((i + 1 : Nat) : Int) := qap; go_wp2; go_roundw
      case rel => exact ⟨s ++ u, i + 1, ⟨rfl, by go_num⟩, by omega, by rw [ByteArray.size_append]; omega, HB5.out⟩
      case measure => exact qms
    · have HB := hid hB
      have R1 := hid (HR.out.below hB); have G1 := hid (zaf HG.out (zah hB (some b))); clear hB; have hgb : b < g := qaa; rcases (Classical.em ((i : Int) < (hs.length : Int))) with b3 | b3
      · have htn : ¬ t = hs.length := fun e => hlt ⟨by omega, e⟩
        have b4 : ((t : Int) == (hs.length : Int)) = false := qai; exact ZDrawLog0
      · skip
        exact ZDrawLog0
theorem drawLogGet_any (A : Option Addr) (n c : Nat) (w : World) (h : IsBytes w w.heap.size A n c) :
    Calls Tryz.prog 20 #[.slice A n c] w fun e w' => ∃ t : ByteArray, (e = .returned (.string t) ∧ t.size ≤ 321000) ∧ Below w.heap.size w w' := by
  go_enter Tryz.func20, Tryz.ntmps20; go_wp2_with fail; refine (open_any A n c w h).mono ?_; rintro e w1 ⟨b, n', ⟨rfl, hb⟩, hr, hb1⟩; have HB1 := hid hb1; have R1 := hid hr; have hbw : b < w1.heap.size := hr.1; clear hb1 hr; go_wp2_with fail; refine (log_draw b A n' c 0 w1 R1.out qaa).mono ?_; rintro e w2 ⟨s, p2, ⟨rfl, hs, hp2⟩, hr2, hg2⟩; have R2 := hid hr2; have G2 := hid hg2; clear hr2 hg2; go_wp2_with fail; refine (cut_draw s b A n' c _ w2 R2.out qaa qaa).mono ?_; rintro e w4 ⟨t, p4, ⟨rfl, ht, _⟩, a3, a2⟩; have G4 := hid (zaf G2.out a2)
  clear a3 a2; go_wp2; go_ret; exact ⟨t, ⟨rfl, by omega⟩, HB1.out.grown G4.out HB1.out.size (fun k hk => by injection hk with hk; omega)⟩
theorem ZFs0 {p : Prop} (h : p := by
  have HE := hid heq; clear heq hte
  go_region_held3 (fun W => W.cell? ⟨w.heap.size, 1, none⟩ = some (.slice (some p) n c) ∧ W.cell? ⟨w.heap.size + 1, 1, none⟩ = some (.slice (some p') n c') ∧ W.cell? (p.add (k * 2)) = some (.bool t.1) ∧ W.cell? ⟨(p.add (k * 2)).block, (p.add (k * 2)).off + 1, none⟩ = some (.string t.2) ∧ W.cell? (p'.add (k * 2)) = some (.bool t'.1) ∧ W.cell? ⟨(p'.add (k * 2)).block, (p'.add (k * 2)).off + 1, none⟩ = some (.string t'.2))
    (exact ⟨z1, z2, c1, c2, c1', c2'⟩)
    (fail)
  go_wp2
  all_goals first
    | (go_ret
       refine ⟨zdf ?_, zaa hw0 hb.drew⟩; have he := termsEq_no HG.out HG'.out HD.out HE.out
       unfold zgl; rw [← he]; simp)
    | (go_roundw
       case rel => exact ⟨k + 1, by omega, by go_num, termsEq_on HG.out HG'.out HD.out HE.out, hb.drew⟩
       case measure => exact qms)) : p := h
theorem fsAtom_any (nm nm' : ByteArray) (A B : Option Addr) (n c n' c' : Nat) (ts us : List Tm) (w : World) (h : IsTerms w 0 w.heap.size A n c ts) (h' : IsTerms w 0 w.heap.size B n' c' us) :
    Calls Tryz.prog 65 #[.agg #[.string nm, .slice A n c], .agg #[.string nm', .slice B n' c']] w (zas (zgl (nm, ts) (nm', us)) w) := by
  have hm : n ≤ maxLen := qbu; unfold maxLen at hm; have H := hid h; clear h; have H' := hid h'; clear h'; by_cases hne : n = n'
  · subst hne
    have hw0 := zbj w (.cells #[.string nm, .slice A n c] 51) (.cells #[.string nm', .slice B n c'] 51); go_enter Tryz.func65, Tryz.ntmps65; by_cases hnm : nm.toList = nm'.toList
    · go_wp2_with fail
      go_loopw [5] (fun i wr => ∃ k : Nat, k ≤ n ∧ i = .int .i64 k ∧ zbw (ts.drop k) (us.drop k) = zbw ts us ∧ Below ((w.alloc (.cells #[.string nm, .slice A n c] 51)).alloc (.cells #[.string nm', .slice B n c'] 51)).heap.size ((w.alloc (.cells #[.string nm, .slice A n c] 51)).alloc (.cells #[.string nm', .slice B n c'] 51)) wr) (fun i _ => n - (intOf i).toNat)
      case atStart => exact ⟨0, Nat.zero_le _, rfl, rfl, Below.refl _ _⟩
      case round =>
        obtain ⟨k, hk, rfl, hd, hb⟩ := hrel; have HD := hid hd; clear hd; obtain ⟨hc, hf⟩ := zht hb; by_cases hlt : k < n
        · obtain ⟨p, t, hA, hlo, hhi, hg, c1, c2, c3⟩ := ((H.out.up hw0).below hb (nl _)).at_ hlt
          obtain ⟨p', t', a3, a5, a4, a2, c1', c2', c3'⟩ := ((H'.out.up hw0).below hb (nl _)).at_ hlt; subst hA; subst a3; have HG := hid hg; clear hg; have HG' := hid a2; clear a2; go_wp2_with fail; have z1 : wr.cell? ⟨w.heap.size, 1, none⟩ = some (.slice (some p) n c) := (hc _ _ (by simp <;> omega)).trans qer; have z2 : wr.cell? ⟨w.heap.size + 1, 1, none⟩ = some (.slice (some p') n c') := (hc _ _ (by simp <;> omega)).trans qer; have hte : zgh (t.1, t.2) (t'.1, t'.2) = ((t.1 == t'.1) && (t.2.toList == t'.2.toList)) := rfl; by_cases hv : t.1 = t'.1
          · by_cases hs : t.2.toList = t'.2.toList
            · have heq : (!zgh (t.1, t.2) (t'.1, t'.2)) = false := by rw [hte]; simp [hv, hs]
              exact ZFs0
            · have heq : (!zgh (t.1, t.2) (t'.1, t'.2)) = true := by rw [hte]; simp [hs]
              exact ZFs0
          · have heq : (!zgh (t.1, t.2) (t'.1, t'.2)) = true := by rw [hte]; simp [hv]
            exact ZFs0
        · go_wp2
          go_ret; refine ⟨zdf ?_, zaa hw0 hb⟩; have he := termsEq_end H.out.1 H'.out.1 HD.out hlt; unfold zgl; rw [← he]; simp [hnm]
    · go_wp2
      go_ret; refine ⟨zdf ?_, zbj _ _ _⟩; unfold zgl; simp [hnm]
  · go_enter Tryz.func65, Tryz.ntmps65
    go_wp2
    · go_ret
      refine ⟨zdf ?_, zbj _ _ _⟩; unfold zgl; rw [zio (by rw [H.out.1, H'.out.1]; exact hne)]; simp
    · go_ret
      refine ⟨zdf ?_, zbj _ _ _⟩; unfold zgl; rw [zio (by rw [H.out.1, H'.out.1]; exact hne)]; simp
end Go.Proofs.YtogonjkklioaaaaGreatDoor
namespace Go.Proofs.YtogonjkklioaaaaGreatDoor
open Go.RowKit
theorem fsSame_any (A B : Option Addr) (n c n' c' : Nat) (xs ys : List At) (w : World) (h : IsAtoms w 0 w.heap.size A n c xs) (h' : IsAtoms w 0 w.heap.size B n' c' ys) :
    Calls Tryz.prog 36 #[.slice A n c, .slice B n' c'] w (zas (zdb zgl xs ys) w) := by
  have hm := h.len; unfold maxLen at hm; have H := hid h; clear h; have H' := hid h'; clear h'; by_cases hne : n = n'
  · subst hne
    go_enter Tryz.func36, Tryz.ntmps36; go_wp2; go_loopw [5] (fun i wr => ∃ k : Nat, k ≤ n ∧ i = .int .i64 k ∧ zdb zgl (xs.drop k) (ys.drop k) = zdb zgl xs ys ∧ Below w.heap.size w wr) (fun i _ => n - (intOf i).toNat)
    case atStart => exact ⟨0, Nat.zero_le _, rfl, rfl, Below.refl _ _⟩
    case round =>
      obtain ⟨k, hk, rfl, hd, hb⟩ := hrel; have HD := hid hd; clear hd; by_cases hlt : k < n
      · obtain ⟨p, q, hA, hlo, hhi, hg, hE⟩ := (H.out.below AtomE.stays hb (nl _)).at_ hlt
        obtain ⟨p', q', a6, a8, a7, a3, a2⟩ := (H'.out.below AtomE.stays hb (nl _)).at_ hlt; obtain ⟨C, m, d, d1, d3, d4, d5⟩ := hE.out; obtain ⟨C', m', d', f1, f3, f4, f5⟩ := a2.out; clear hE a2; subst hA; subst a6; have HG := hid hg; clear hg; have HG' := hid a3; clear a3; have HT := hid (d5.keep (w' := wr.drew) (lo' := 0) (hi' := wr.drew.heap.size) (fun _ _ _ => rfl) (nl _) hb.size); clear d5; have a4 := hid (f5.keep (w' := wr.drew) (lo' := 0) (hi' := wr.drew.heap.size) (fun _ _ _ => rfl) (nl _) hb.size); clear f5; have hbd := hb.drew; go_wp2_with fail; go_region_with (go_at_call 65; refine (fsAtom_any _ _ _ _ _ _ _ _ q.2 q'.2 _ HT.out a4.out).mono ?_; rintro e w1 ⟨rfl, hb1⟩)
        all_goals go_wp2
        all_goals first
          | (go_ret; exact ⟨zdf (listEq_no HG.out HG'.out HD.out qbl), zaa hbd hb1⟩)
          | (go_roundw
             case rel => exact ⟨k + 1, by omega, by go_num, listEq_on HG.out HG'.out HD.out qbl, zaa hbd hb1⟩
             case measure => exact qms)
      · have hl := hid H.out.1
        have a5 := hid H'.out.1; go_wp2; go_ret; exact ⟨zdf (listEq_end hl.out a5.out HD.out hlt), hb⟩
  · have hlen : xs.length ≠ ys.length := by rw [H.out.1, H'.out.1]; exact hne
    go_enter Tryz.func36, Tryz.ntmps36; go_wp2; go_ret; exact ⟨zdf (listEq_len hlen).symm, Below.refl _ _⟩
theorem listEq_self (xs : List At) : zdb zgl xs xs = true := by
  induction xs with
  | nil => rfl
  | cons x l ih => simp [zdb, atomEq_refl, ih]
end Go.Proofs.YtogonjkklioaaaaGreatDoor
namespace Go.Proofs.YtogonjkklioaaaaGreatDoor
open Go.RowKit
section
variable (A : Option Addr) (n c : Nat) (xs : List At) (nm : ByteArray) (B : Option Addr) (m d : Nat) (ts : List Tm) (w : World) (h : IsAtoms w 0 w.heap.size A n c xs) (hs : nm.size ≤ maxLen) (h' : IsTerms w 0 w.heap.size B m d ts) {P : List At} {q : Bool}
include h hs h'
end
def Tells (w : World) (b : Bool) (e : Ending) (w' : World) : Prop := e = .returned (.bool b) ∧ Below w.heap.size w w'
theorem tells {w W : World} {b b' : Bool} {e : Ending} {W' : World} (hW : Below w.heap.size w W) (hb : b = b') (h : zas b W e W') : Tells w b' e W' := ⟨by rw [← hb]; exact h.1, zaa hW h.2⟩
theorem same_tells {w W : World} {A B : Option Addr} {n c n' c' : Nat} {xs : List At} (h : IsAtoms w 0 w.heap.size A n c xs) (h' : IsAtoms w 0 w.heap.size B n' c' xs) (hW : Below w.heap.size w W) :
    Calls Tryz.prog 36 #[.slice A n c, .slice B n' c'] W (Tells w true) :=
  (fsSame_any A B n c n' c' xs xs W (h.up AtomE.stays hW) (h'.up AtomE.stays hW)).mono fun _ _ x => tells hW (listEq_self xs) x
end Go.Proofs.YtogonjkklioaaaaGreatDoor

namespace Go.Proofs.YtogonjkklioaaaaGreatDoor
open Go.RowKit
attribute [local go_sem] zbf
attribute [local go_sem] zbf
section
variable {w W : World} {A B D : Option Addr} {n c m d m' d' : Nat} {xs ys cs gs P Q : List At}
end
theorem fsChange_any (A1 A2 B1 B2 : Option Addr) (n1 c1 n2 c2 m1 d1 m2 d2 : Nat) (P Q : List At) (w : World) (h1 : IsAtoms w 0 w.heap.size A1 n1 c1 P) (h2 : IsAtoms w 0 w.heap.size A2 n2 c2 Q) (h3 : IsAtoms w 0 w.heap.size B1 m1 d1 P) (h4 : IsAtoms w 0 w.heap.size B2 m2 d2 Q) :
    Calls Tryz.prog 12 #[.agg #[.slice A1 n1 c1, .slice A2 n2 c2], .agg #[.slice B1 m1 d1, .slice B2 m2 d2]] w (zas true w) := by
  have HP := zbj w (.cells #[.slice A1 n1 c1, .slice A2 n2 c2] 25) (.cells #[.slice B1 m1 d1, .slice B2 m2 d2] 25); have XA := (Box.new w (.slice A1 n1 c1) (.slice A2 n2 c2) 25).up (.cells #[.slice B1 m1 d1, .slice B2 m2 d2] 25); have XC := Box.new2 w (.cells #[.slice A1 n1 c1, .slice A2 n2 c2] 25) (.slice B1 m1 d1) (.slice B2 m2 d2) 25; have K1 := hid (h1.up AtomE.stays HP); have K2 := hid (h2.up AtomE.stays HP); have K3 := hid (h3.up AtomE.stays HP); have K4 := hid (h4.up AtomE.stays HP)
  have YA := hid XA; have YC := hid XC; have a3 := hid HP; clear h1 h2 h3 h4 HP XA XC; go_enter Tryz.func12, Tryz.ntmps12; obtain ⟨_, x0, x1⟩ := YA.out; obtain ⟨_, y0, y1⟩ := YC.out; go_wp2_with fail; refine (same_tells K1.out K3.out (Below.refl _ _)).mono ?_; rintro e w3 ⟨rfl, hB⟩; clear x0 x1 y0 y1; obtain ⟨_, x0, x1⟩ := YA.out.later hB; obtain ⟨_, y0, y1⟩ := YC.out.later hB; go_wp2_with fail; refine (same_tells K2.out K4.out hB).mono ?_; rintro e w4 ⟨rfl, a2⟩; go_wp2; go_ret; exact ⟨rfl, zaa a3.out a2⟩
theorem zej (A B : Option Addr) (n c n' c' : Nat) (xs : List Ch) (w : World) (h : zgn w 0 w.heap.size A n c xs) (h' : zgn w 0 w.heap.size B n' c' xs) :
    Calls Tryz.prog 21 #[.slice A n c, .slice B n' c'] w (zas true w) := by
  have hm := h.len; unfold maxLen at hm; have hne : n = n' := h.1.symm.trans h'.1; subst hne; have H := hid h; clear h; have H' := hid h'; clear h'; go_enter Tryz.func21, Tryz.ntmps21; go_wp2; go_loopw [5] (fun i wr => ∃ k : Nat, k ≤ n ∧ i = .int .i64 k ∧ Below w.heap.size w wr) (fun i _ => n - (intOf i).toNat)
  case atStart => exact ⟨0, Nat.zero_le _, rfl, Below.refl _ _⟩
  case round =>
    obtain ⟨k, hk, rfl, hb⟩ := hrel; by_cases hlt : k < n
    · obtain ⟨p, q, hA, hlo, hhi, hg, hE⟩ := (H.out.below ChE.stays hb (nl _)).at_ hlt
      obtain ⟨p', q', a5, a7, a6, a3, a2⟩ := (H'.out.below ChE.stays hb (nl _)).at_ hlt; have a4 : q = q' := Option.some.inj (hg.symm.trans a3); subst a4; obtain ⟨C, m, d, D, i, j, d1, d2, d3, d4⟩ := hE.out; obtain ⟨C', m', d', D', i', j', f1, f2, f3, f4⟩ := a2.out; clear hE a2 hg a3; subst hA; subst a5; have K1 := hid (d2.keep (w' := wr.drew) (lo' := 0) (hi' := wr.drew.heap.size) AtomE.stays (fun _ _ _ => rfl) (nl _) hb.size); have K2 := hid (d4.keep (w' := wr.drew) (lo' := 0) (hi' := wr.drew.heap.size) AtomE.stays (fun _ _ _ => rfl) (nl _) hb.size); have K3 := hid (f2.keep (w' := wr.drew) (lo' := 0) (hi' := wr.drew.heap.size) AtomE.stays (fun _ _ _ => rfl) (nl _) hb.size)
      have K4 := hid (f4.keep (w' := wr.drew) (lo' := 0) (hi' := wr.drew.heap.size) AtomE.stays (fun _ _ _ => rfl) (nl _) hb.size); clear d2 d4 f2 f4; have hbd := hb.drew; go_wp2_with fail; go_region_with (go_at_call 12; refine (fsChange_any _ _ _ _ _ _ _ _ _ _ _ _ q.1 q.2 _ K1.out K2.out K3.out K4.out).mono ?_; rintro e w1 ⟨rfl, hb1⟩)
      all_goals go_wp2
      all_goals
        go_roundw
        case rel => exact ⟨k + 1, by omega, by go_num, zaa hbd hb1⟩
        case measure => exact qms
    · go_wp2
      go_ret; exact ⟨rfl, hb⟩
theorem IsSeq.first {α : Type} {sz lo hi n c m : Nat} {E : World → Nat → Nat → Addr → α → Prop} {w : World} {A : Option Addr} {xs : List α} (h : IsSeq sz E w lo hi A n c xs) (hm : m ≤ n) : IsSeq sz E w lo hi A m c (xs.take m) := by
  obtain ⟨a, b, d, e⟩ := h; refine ⟨by rw [List.length_take, a]; omega, by omega, d, fun h0 => ?_⟩; obtain ⟨p, hp, h1, h2, h3⟩ := e qaa; refine ⟨p, hp, h1, h2, fun i x hx => h3 i x ?_⟩; rw [List.getElem?_take] at hx; split at hx
  · exact hx
  · cases hx
theorem LogR.little {l : List UInt8} {cs : List Ch} {n : Nat} (h : LogR l cs n) (hl : l.length ≤ 400000) : LogOf l cs ∧ n = (zcr 0 cs).length := by
  rcases h with ⟨_, h2, h3⟩ | ⟨h1, _, _⟩
  · exact ⟨h2, h3⟩
  · omega
theorem torn_back {w W : World} {g cap n k : Nat} {s : ByteArray} (hb : Below w.heap.size w W) (hg : w.heap.size ≤ g) (hc : ∀ j (hj : j < s.size), W.cell? ⟨g, j, none⟩ = some (.int .u8 ((s.data.toList[j]'(by simpa using hj)).toNat : Int))) (hk : k < s.size) :
    ∃ (s' : ByteArray) (d : UInt8), (convert 22 9 (.slice (some ⟨g, 0, none⟩) s.size cap)).run Tryz.prog (W.setCell ⟨g, k, none⟩ (.int .u8 (bits .xor .u8 (s.data[k].toNat : Int) (1 + (n : Int) % 127)))) = .ok (.string s') (W.setCell ⟨g, k, none⟩ (.int .u8 (bits .xor .u8 (s.data[k].toNat : Int) (1 + (n : Int) % 127)))) ∧
      s'.size = s.size ∧ Below w.heap.size w (W.setCell ⟨g, k, none⟩ (.int .u8 (bits .xor .u8 (s.data[k].toNat : Int) (1 + (n : Int) % 127)))) ∧ s'.data.toList = s.data.toList.set k d ∧ d ≠ s.data[k] := by
  obtain ⟨d, hd, hne⟩ := xor_turn s.data[k] (1 + n % 127) qaa qaa; rw [show (((1 + n % 127 : Nat)) : Int) = 1 + (n : Int) % 127 by omega] at hd; rw [hd]; have hl : s.data.toList.length = s.size := qag; refine ⟨⟨(s.data.toList.set k d).toArray⟩, d, ?_, by show (s.data.toList.set k d).toArray.size = _; simp, hb.setCell hg _, by simp, hne⟩; have a0 : ∀ j, (⟨g, 0, none⟩ : Addr).add j = ⟨g, j, none⟩ := fun j => by unfold Addr.add; split <;> simp_all
  have h := run_convert_bytes_back (P := Tryz.prog) (W.setCell ⟨g, k, none⟩ (.int .u8 (d.toNat : Int))) 22 9 5 ⟨g, 0, none⟩ cap (s.data.toList.set k d) Tryz.underlying22 Tryz.underlying5 Tryz.underlying9 (fun j hj => by
    have a2 : j < s.size := by rw [List.length_set, hl] at hj; exact hj
    rw [a0]; by_cases e : k = j
    · subst e
      rw [show (W.setCell ⟨g, k, none⟩ (.int .u8 (d.toNat : Int))).cell? ⟨g, k, none⟩ = some (.int .u8 (d.toNat : Int)) by apply World.cell?_setCell_same; exact hc k hk]; simp
    · rw [show (W.setCell ⟨g, k, none⟩ (.int .u8 (d.toNat : Int))).cell? ⟨g, j, none⟩ = W.cell? ⟨g, j, none⟩ by apply World.cell?_setCell_other; intro e2; injection e2 with _ e3; exact e e3, hc j a2]
      simp [List.getElem_set_ne e])
  rwa [List.length_set, hl] at h
theorem logTorn_law (A : Option Addr) (n c : Nat) (A' : Option Addr) (n' c' : Nat) (w : World) (h : IsBytes w w.heap.size A n c) (h' : IsBytes w w.heap.size A' n' c') (hm : MaxIn w) (hE : EofIn w) (hP : PowTab w) :
    Calls Tryz.prog 6 #[.slice A n c, .slice A' n' c'] w (zas true w) := by
  have hn : n ≤ maxLen := by have := h.1; have := h.2.1; omega
  have l4 : n' ≤ maxLen := by have := h'.1; have := h'.2.1; omega
  unfold maxLen at hn l4; have H := hid h; clear h; clear h'; go_enter Tryz.func6, Tryz.ntmps6; go_wp2_with fail
  all_goals try (go_ret; exact ⟨rfl, Below.refl _ _⟩)
  refine (drawLogGet_any A n c w H.out).mono ?_; rintro e w1 ⟨t, ⟨rfl, ht⟩, hb1⟩; have j7 := hm.below hb1; have h8 := hE.below hb1; have i5 := hP.below hb1; have HB1 := hid hb1; clear hb1; go_wp2_with fail; refine (zff t w1 qaa j7 h8 i5).mono ?_; rintro e w2 ⟨A5, c5, xs, z, lo, rfl, a2, hown, -, hb2, hR⟩; have hI := zlf a2 hown; obtain ⟨cs, e7⟩ : ∃ cs, xs.map cfAt = cs := ⟨_, rfl⟩; have hlen : xs.length = cs.length := by rw [← e7, List.length_map]
  rw [e7] at hI hR; rw [hlen] at hI ⊢; have HI := hid hI; have HB2 := hid (zaa HB1.out hb2); have HR := hid hR; clear hI hb2 hR a2 hown e7 hlen j7 h8 i5; go_wp2_with fail; refine (specLogGet_any t w2 qaa).mono ?_; rintro e w3 ⟨A3, n3, c3, cs3, z3, rfl, i1, hb3, h5⟩; obtain ⟨e1, e2⟩ := HR.out.uniq h5; subst e1; subst e2; have g6 := hid i1; have HJ := hid (HI.out.up ChE.stays hb3); have HB3 := hid (zaa HB2.out hb3); clear i1 hb3 h5; go_wp2_with fail; refine (zej A5 A3 cs.length c5 n3 c3 cs w3 HJ.out g6.out).mono ?_; rintro e w4 ⟨rfl, hb4⟩; have tl : t.data.toList.length = t.size := qag; obtain ⟨hL, hz⟩ := HR.out.little qaa
  have hzt : z ≤ t.size := by rw [hz, ← tl]; exact hL.tx.length_le
  have hcl : cs.length ≤ 100000 := HR.out.few; have a7 : (t.data.toList.take z) = zcr 0 cs := by rw [hz]; obtain ⟨r, hr⟩ := hL.tx; rw [← hr, List.take_left']; rfl
  have a5 := hid a7; have HL := hid hL; have h4 := hid (HJ.out.up ChE.stays hb4); have h6 := hid (g6.out.up ChE.stays hb4); have HB4 := hid (zaa HB3.out hb4); clear hb4 HJ g6 HB3 HR hL tl a7 hz HI HB2; have hzz : ((z : Int) != (z : Int)) = false := qag; by_cases hz0 : z = 0
  · have b9 : ((z : Int) == 0) = true := by simp [hz0]
    clear hz0; go_wp2_with fail; refine (zej A5 A3 cs.length c5 n3 c3 cs w4 h4.out h6.out).mono ?_; rintro e w5 ⟨rfl, hb5⟩; have hze : ((z : Int) == (z : Int)) = true := qag; go_wp2; go_ret; exact ⟨by simp, zaa HB4.out hb5⟩
  · have b9 : ((z : Int) == 0) = false := qai
    have n7 : 0 < z := qaa; obtain ⟨k, hk⟩ : ∃ k, n' % z = k := ⟨_, rfl⟩; have hks : k < z := by rw [← hk]; exact Nat.mod_lt _ n7
    have m4 : (n' : Int).tmod (z : Int) = (k : Int) := by rw [← hk]; rfl
    have l0 : ¬ (z : Int) = 0 := qaa; have hkI : (0 : Int) ≤ (k : Int) := qaa; have m1 : (k : Int) ≤ (t.size : Int) := qaa; have hm4 := hm.below HB4.out; have i8 := hE.below HB4.out; have i3 := hP.below HB4.out; clear hz0; go_wp2_with fail; have e6 : (t.extract 0 k).data.toList = t.data.toList.take k := qag; have j0 : (t.extract 0 k).data.toList.length = (t.extract 0 k).size := qag; have a6 := j0; rw [e6, List.length_take] at a6; have hss : (t.extract 0 k).size ≤ 321000 := qaa; refine (zff (t.extract 0 k) w4 qaa hm4 i8 i3).mono ?_; rintro e w5 ⟨A6, c6, ys, m, lo6, rfl, a2, hown, -, hb5, hR⟩; have hI := zlf a2 hown
    obtain ⟨ds, g2⟩ : ∃ ds, ys.map cfAt = ds := ⟨_, rfl⟩; have hlen : ys.length = ds.length := by rw [← g2, List.length_map]
    rw [g2] at hI hR; rw [hlen] at hI ⊢; obtain ⟨a9, g7⟩ := hR.little qaa; rw [e6] at a9; have l9 := hid a9; obtain ⟨c4, l5⟩ := HL.out.cut a9; rw [← g7] at l5; have k4 : ds.length ≤ cs.length := c4.length_le; have l7 := hid (show cs.take ds.length = ds from (List.prefix_iff_eq_take.1 c4).symm); have j6 := hid hI; have j8 := hid (h4.out.up ChE.stays hb5); have HB5 := hid (zaa HB4.out hb5); have m6 := hid g7; clear hI hb5 hR a2 hown g2 hlen a9 c4 g7 e6 hss j0 a6 h6 h4 HB4 hm4 i8 i3; have b4 : (t.extract 0 z).data.toList = zcr 0 cs := by rw [← a5.out]; simp
    have b6 : (t.extract 0 z).size = z := by
      have e : (t.extract 0 z).data.toList.length = (t.extract 0 z).size := qag; rw [← e, b4, ← a5.out, List.length_take]; simp; omega
    have n4 : (z : Int) ≤ (t.size : Int) := qaa; have k3 : (0 : Int) ≤ (z : Int) := qaa; obtain ⟨s1, b5⟩ : ∃ s1, t.extract 0 z = s1 := ⟨_, rfl⟩; rw [b5] at b4 b6; have HS1 := hid b5; have HD1 := hid b4; have hk1 : k < s1.size := qaa; have o0 : (k : Int) < (s1.size : Int) := qaa; obtain ⟨cap, W, e8, hbW, l2, d7, i7, hcap⟩ := bytes_apart w5 s1; obtain ⟨s', d, a3, m0, b3, a8, hne⟩ := torn_back (cap := cap) (n := n) hbW (nl _) d7 hk1; have k5 := d7 k hk1; have m5 := i7 k hk1; have HSD := hid a8; have m3 := hid hne; have j9 : z ≤ cap := by rw [b6] at hcap; exact hcap
    rw [b6] at e8; rw [b6] at a3 m0; rw [← b5] at e8; clear b5 b4 d7 i7 a8 hne hbW hcap; go_wp2_with fail; have a4 := zaa HB5.out b3; have g1 := hm.below a4; have b7 := hE.below a4; have g5 := hP.below a4; have g0 := hid (j8.out.up ChE.stays b3); have d9 := hid (j6.out.up ChE.stays b3); have HB6 := hid a4; obtain ⟨w6, k0⟩ : ∃ w6, (W.setCell ⟨w5.heap.size, k, none⟩ (.int .u8 (bits .xor .u8 (s1.data[k].toNat : Int) (1 + (n : Int) % 127)))) = w6 := ⟨_, rfl⟩; rw [k0] at g1 b7 g5 g0 d9 HB6 ⊢; clear k0 a4 b3 a3 e8 HB5 j8 j6 k5 m5 l2; refine (zff s' w6 qaa g1 b7 g5).mono ?_; rintro e w7 ⟨A7, c7, zs, m7, lo7, rfl, a2, hown, -, hb7, hR⟩
    have hI := zlf a2 hown; obtain ⟨fs, d4⟩ : ∃ fs, zs.map cfAt = fs := ⟨_, rfl⟩; have hlen : zs.length = fs.length := by rw [← d4, List.length_map]
    rw [d4] at hI hR; rw [hlen] at hI ⊢; have l3 : s'.data.toList.length = s'.size := qag; obtain ⟨c0, h7⟩ := hR.little qaa; rw [HSD.out, HD1.out] at c0
    have hx : (zcr 0 cs)[k]? = some s1.data[k] := by
      rw [← HD1.out]; have hk2 : k < s1.data.toList.length := by simpa using hk1
      rw [List.getElem?_eq_getElem hk2]; simp
    have k6 : fs = ds := HL.out.torn l9.out hx m3.out c0; subst k6; have n6 : m7 = m := by rw [h7, m6.out]
    subst n6; have l1 := hid hI; have i6 := hid (d9.out.up ChE.stays hb7); have i4 := hid (g0.out.up ChE.stays hb7); have HB7 := hid (zaa HB6.out hb7); clear hI hb7 hR a2 hown d4 hlen c0 h7 hx l3 g1 b7 g5 d9 g0 HB6; have m9 : (fs.length : Int) ≤ (cs.length : Int) := qaa; have o1 : (m7 : Int) ≤ (k : Int) := qaa; have l8 : (0 : Int) ≤ (fs.length : Int) := qaa; have l6 : (fs.length : Int) ≤ (c5 : Int) := by have := i4.out.2.1; omega
    have o2 : ((m7 : Int) == (m7 : Int)) = true := qag; have HF := hid (show zgn w7 0 w7.heap.size A5 fs.length c5 fs from by have h := i4.out.first k4; rw [l7.out] at h; exact h); go_wp2_with fail; refine (zej A6 A5 fs.length c6 fs.length c5 fs w7 i6.out HF.out).mono ?_; rintro e w8 ⟨rfl, hb8⟩; have n0 := hid (l1.out.up ChE.stays hb8); have g8 := hid (i6.out.up ChE.stays hb8); have HB8 := hid (zaa HB7.out hb8); clear hb8; go_wp2_with fail; refine (zej A7 A6 fs.length c7 fs.length c6 fs w8 n0.out g8.out).mono ?_; rintro e w9 ⟨rfl, hb9⟩; go_wp2; go_ret; exact ⟨by simp, zaa HB8.out hb9⟩
end Go.Proofs.YtogonjkklioaaaaGreatDoor
