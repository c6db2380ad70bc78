/-
  Texts of one claim, put together.
-/
import Derived.Test.YtogonjkklioaaaaGreatDoorLg36
set_option maxRecDepth 100000
set_option maxHeartbeats 8000000
namespace Go.Proofs.YtogonjkklioaaaaGreatDoor
open Go.RowKit
def OwnRowT (V : World) (B : Nat) (xs : List At) (v : Value) : Prop := ∃ (n : Nat) (rs : List Rf), rs.length = n ∧ rs.map rAt = xs ∧ V.ownsRow B 51 2 v n (zai rs) ∧ OwnIn V B V.heap.size rs
theorem l3Less_row (A : Option Addr) (n c : Nat) (xs : List At) (B : Option Addr) (n' c' : Nat) (ys : List At) (w : World) (h : IsAtoms w 0 w.heap.size A n c xs) (hn : zay n xs) (h' : IsAtoms w 0 w.heap.size B n' c' ys) (hr : zaj ys = true) :
    Calls Tryz.prog 68 #[.slice A n c, .slice B n' c'] w (fun e w' => ∃ v, e = .returned v ∧ OwnRowT w' w.heap.size (zbv xs ys) v ∧ Below w.heap.size w w') := by
  obtain ⟨hn1, a7⟩ := hn; obtain ⟨i0, hi, hz, hsz, hby⟩ := info_parts Tryz.infoAt; have HN := hid a7; clear a7; have HL0 := hid h.1; have H := hid h; have H' := hid h'; clear h h'; have HRR := hid hr; clear hr; go_enter Tryz.func68, Tryz.ntmps68; go_wp2; go_loopw [5, 6] (fun o i wr => ∃ (k j : Nat) (Av : Option Addr) (cv : Nat) (rs : List Rf), k ≤ n ∧ i = .int .i64 k ∧ o = .slice Av j cv ∧ j ≤ k ∧ wr.ownsRow w.heap.size 51 2 (.slice Av j cv) j (zai rs) ∧ rs.length = j ∧ rs.map rAt = zbv (xs.take k) ys ∧ OwnIn wr w.heap.size wr.heap.size rs ∧ Below w.heap.size w wr) (fun _ i _ => n - (intOf i).toNat)
  case atStart => exact ⟨0, 0, some ⟨w.heap.size, 0, none⟩, 0, [], Nat.zero_le _, rfl, rfl, nl _, ⟨rfl, .inr ⟨w.heap.size, 0, #[], rfl, nl _, heap_alloc_new w _, nl _, by unfold maxLen; omega, rfl, rfl⟩⟩, rfl, rfl, OwnIn.nil, zac _ _⟩
  case round =>
    obtain ⟨k, j, Av, cv, rs, hk, rfl, rfl, hjk, a3, hl, hm, ho, hb⟩ := hrel; have HR := hid a3; have HL := hid hl; have HM := hid hm; have HO := hid ho; clear a3 hl hm ho; by_cases hlt : k < n
    · obtain ⟨p, q, hA, hlo, hhi, hg, hE⟩ := (H.out.below AtomE.stays hb (nl _)).at_ hlt
      obtain ⟨A', m', d', d1, d3, d4, d5⟩ := hE.out; clear hE; subst hA; have hq : m' ≤ 1048576 := qco; have HG := hid hg; clear hg; have b6 := hb.size; have hpz : p.block < wr.heap.size := Nat.lt_of_lt_of_le hhi b6; have HT := hid (d5.keep (w' := wr) (lo' := 0) (hi' := wr.heap.size) (fun _ _ _ => rfl) (nl _) hb.size); clear d5; go_wp2_with fail; refine (zcr B n' c' ys q.1 A' m' d' q.2 _ (H'.out.up AtomE.stays hb) HT.out HRR.out).mono ?_; rintro e w0 ⟨rfl, a2⟩; have y1 := (a2.cell (p := p.add (k * 2)) qbm).trans d1; have y2 := (a2.cell (p := ⟨(p.add (k * 2)).block, (p.add (k * 2)).off + 1, none⟩) qbm).trans d4
      have a4 := zaa hb a2; have b5 := a2.size; have a5 := hid (HO.out.keep (w' := w0) (fun b _ h2 => a2.block b h2) (nl _) a2.size); have a6 := hid (zan HR.out a2); clear d1 d4; cases hh : zbq ys (q.1, q.2)
      · have HH := hid (show zbq ys q = false from hh); clear hh
        go_wp2_with fail; refine (zbs q.1 A' m' d' q.2 _ (HT.out.up a2) hq).mono ?_; rintro e w1 ⟨A2, d2, rfl, hT, hR, hb1⟩; have b7 := hid hT; have b4 := hid hR; have HRW := hid (zan a6.out hb1); have a9 : w.heap.size ≤ w1.heap.size := Nat.le_trans a4.size hb1.size; clear hT hR y1 y2; go_wp2_with (at_builtin; refine wpList_append_own _ rfl _ _ 23 rfl w.heap.size 51 i0 _ 2 40 Tryz.underlying23 hi hz hsz hby rfl qan _ _ _ rfl (HRW.out.alloc _) ⟨w1.heap.size, 0, none⟩ 1 1 [.string q.1, .slice A2 m' d2] rfl rfl (zbr _ _ _ _) qal qaf qaa qah ?_; intro v' w2 hown' hgrow' _; obtain ⟨g', cap', rfl⟩ := ownsRow_succ hown'; have hown := hid hown'; have hgrow := hid hgrow'; clear hown' hgrow')
        obtain ⟨b3, r1, r2, r3, r4, r5⟩ := zkc HL.out HM.out a5.out a4 hb1 d3 b7.out b4.out HRW.out hown.out hgrow.out; go_roundw
        case rel => exact ⟨k + 1, j + 1, _, _, b3, by omega, by go_num, rfl, by omega, r3, r1, by rw [r2, less_yes HG.out HH.out], r4, r5⟩
        case measure => exact qms
      · have HH := hid (show zbq ys q = true from hh); clear hh
        go_wp2; go_roundw
        case rel => exact ⟨k + 1, j, _, _, rs, by omega, by go_num, rfl, by omega, a6.out, HL.out, by rw [less_no HG.out HH.out]; exact HM.out, a5.out, a4⟩
        case measure => exact qms
    · have a8 : zbv (xs.take k) ys = zbv xs ys := qdt
      have HX := hid a8; clear a8; go_wp2; go_ret; exact ⟨_, rfl, ⟨j, rs, HL.out, by rw [HM.out]; exact HX.out, HR.out, HO.out⟩, hb⟩
theorem OwnRowT.atoms {V : World} {B : Nat} {xs : List At} {v : Value} (h : OwnRowT V B xs v) : ∃ A c, v = .slice A xs.length c ∧ IsAtoms V B V.heap.size A xs.length c xs := by
  obtain ⟨n, rs, h1, h2, h3, h4⟩ := h; have hl : xs.length = n := by rw [← h2, List.length_map, h1]
  rw [hl]; obtain ⟨A, c, e, hI⟩ := zej h3 h1.symm (nl _) (fun r hr => ⟨(h4.1 r hr).1, (h4.1 r hr).2.1⟩) (nl _); refine ⟨A, c, e, ?_⟩; have := hI.atoms
  rwa [h2] at this
theorem OwnRowT.turned {V W : World} {B B' : Nat} {xs : List At} {v : Value} (h : OwnRowT V B xs v) (hk : ∀ i, B ≤ i → i < V.heap.size → W.heap[i]? = V.heap[i]?) (hs : V.heap.size ≤ W.heap.size) (hB : B' ≤ B) : OwnRowT W B' xs v := by
  obtain ⟨n, rs, h1, h2, h3, h4⟩ := h; refine ⟨n, rs, h1, h2, ⟨h3.1, h3.2.imp id ?_⟩, h4.keep hk hB hs⟩; rintro ⟨g, cap, a2, hv, hg, hgb, rest⟩; exact ⟨g, cap, a2, hv, by omega, (hk g hg (Array.getElem?_eq_some_iff.1 hgb).1).trans hgb, rest⟩
theorem OwnRowT.two {V : World} {B B' x : Nat} {xs : List At} {v u u' : Value} (h : OwnRowT V B xs v) (hx : x < B) (hB : B' ≤ B) : OwnRowT ((V.setCell ⟨x, 0, none⟩ u).setCell ⟨x, 1, none⟩ u') B' xs v :=
  h.turned (fun i h1 _ => (hs_ _ _ _ i qah).trans (hs_ _ _ _ i qah)) qbc hB
theorem rowT_more {V W : World} {B S H n k d cap g' : Nat} {v : Value} {rs : List Rf} {xs : List At} {nm : ByteArray} {A' : Option Addr} {ts : List Tm} {o : Obj}
    (hB : B ≤ H) (hH : H < S) (hS : S ≤ V.heap.size) (hl : rs.length = n) (hm : rs.map rAt = xs) (h3 : V.ownsRow B 51 2 v n (zai rs)) (hv : ∀ g, v.ownBlock = some g → g < H) (ho : OwnIn V B H rs)
    (hs : nm.size ≤ maxLen) (hT : IsTerms V S V.heap.size A' k d ts)
    (hown : W.ownsRow B 51 2 (.slice (some ⟨g', 0, none⟩) (n + 1) cap) (n + 1) (zai rs ++ [.string nm, .slice A' k d])) (hg : (V.alloc o).grownBy W v.ownBlock) (hat : v.ownBlock = some g' ∨ g' = V.heap.size + 1) (y : Value) :
    IsAtoms (W.setCell ⟨H, 1, none⟩ y) B (W.setCell ⟨H, 1, none⟩ y).heap.size (some ⟨g', 0, none⟩) (n + 1) cap (xs ++ [(nm, ts)]) := by
  have hz : V.heap.size ≤ W.heap.size := by have := hg.size; simp at this; omega
  have a2 := zfh W ⟨H, 1, none⟩ y
  have hc : ∀ q : Addr, q.block < V.heap.size → (∀ g, v.ownBlock = some g → q.block ≠ g) → q.block ≠ H → (W.setCell ⟨H, 1, none⟩ y).cell? q = V.cell? q := fun q hq hne hqH =>
    ((a2.cell_far _ qaa (fun e => hqH (by injection e))).trans (hg.cell_far _ qah (fun e => hne _ e.symm rfl))).trans ((zac V o).cell hq)
  have a5 : OwnIn W B H rs := OwnIn.appended (ho.keep (w' := V.alloc o) (fun b _ h2 => (zac V o).block b qaa) (nl _) (nl _)) (h3.alloc o) hg (nl _); have a3 : OwnIn (W.setCell ⟨H, 1, none⟩ y) B H rs := a5.keep (fun b _ h2 => a2.block b qaa (fun e => by injection e with e; simp at e; omega)) (nl _) (nl _); have a4 : H ≤ (W.setCell ⟨H, 1, none⟩ y).heap.size := by rw [zab]; omega
  have hr : RefsIn (W.setCell ⟨H, 1, none⟩ y) B (W.setCell ⟨H, 1, none⟩ y).heap.size (rs ++ [(nm, A', k, d, ts)]) := by
    intro r hr; rcases List.mem_append.1 hr with h1 | h1
    · exact ⟨(a3.1 r h1).1, (a3.1 r h1).2.1.keep (fun _ _ _ => rfl) (nl _) a4⟩
    · rw [List.mem_singleton.1 h1]
      exact ⟨hs, hT.keep (fun q h2 h3' => hc q h3' (fun g e => by have := hv g e; omega) qaa) qaa (by rw [zab]; exact hz)⟩
  have e : zai rs ++ [.string nm, .slice A' k d] = zai (rs ++ [(nm, A', k, d, ts)]) := by rw [zhw]; rfl
  rw [e] at hown
  have hne : some (⟨H, 1, none⟩ : Addr).block ≠ (Value.slice (some ⟨g', 0, none⟩) (n + 1) cap).ownBlock := by
    intro e2; injection e2 with e2; simp at e2; rcases hat with h | h
    · have := hv _ h; omega
    · omega
  obtain ⟨A, c, he, hI⟩ := zej (znx hown hne y) (by simp [hl]) (nl _) hr (nl _); injection he with e1 _ e2; subst e1; subst e2; have := hI.atoms; rw [List.map_append, hm] at this; exact this
theorem zpi (b : Nat) (A : Option Addr) (n c p : Nat) (w : World) (h : Rd w b A n c p) (hp : p ≤ 800000) :
    Calls Tryz.prog 67 #[.pointer (some ⟨b, 0, none⟩), .int .i64 5] w (FactsRow 5 41 b A n c p w) := facts_draw b A n c p 5 w h hp qaa
theorem zdg {w : World} {lo hi n c : Nat} {A : Option Addr} {xs : List At} (h : IsAtoms w lo hi A n c xs) {q : Addr} (hq : q.block < lo ∨ hi ≤ q.block) (hh : hi ≤ w.heap.size) (y : Value) : IsAtoms (w.setCell q y) lo hi A n c xs :=
  h.keep AtomE.stays (fun a h1 h2 => (zfh w q y).cell_far _ qaa qaj) (nl _) (nl _)
theorem grown_set {w W : World} {b : Nat} {q : Addr} (h : w.grownBy W (some b)) (hx : w.heap.size ≤ q.block) (y : Value) : w.grownBy (W.setCell q y) (some b) :=
  ⟨h.os, h.tape, h.output, by rw [zab]; exact h.size, fun i hi hne => (hs_ _ _ _ i qaa).trans (h.block i hi hne)⟩
theorem zbx {w : World} {lo hi lo' hi' n c : Nat} {A : Option Addr} {xs : List At} (h : IsAtoms w lo hi A n c xs) (h1 : lo' ≤ lo) (h2 : hi ≤ hi') : IsAtoms w lo' hi' A n c xs := h.keep AtomE.stays (fun _ _ _ => rfl) h1 h2
def ChangeDraw (s : Nat) (b : Nat) (A : Option Addr) (n c p : Nat) (w : World) (e : Ending) (w' : World) : Prop :=
  ∃ (M : Nat) (A1 : Option Addr) (k1 c1 : Nat) (cs : List At) (A2 : Option Addr) (k2 c2 : Nat) (gs : List At) (p' : Nat), (e = .returned (.agg #[.slice A1 k1 c1, .slice A2 k2 c2]) ∧ k1 ≤ 5 ∧ k2 ≤ 5 ∧ p' ≤ p + s) ∧ (w.heap.size ≤ M ∧ M ≤ w'.heap.size) ∧
    IsAtoms w' w.heap.size M A1 k1 c1 cs ∧ OwnRowT w' M gs (.slice A2 k2 c2) ∧ Rd w' b A n c p' ∧ w.grownBy w' (some b)
def ShortAts (xs : List At) : Prop := ∀ q ∈ xs, q.1.size ≤ 16 ∧ q.2.length ≤ 3 ∧ ∀ t ∈ q.2, t.2.size ≤ 16
def ChangeDrawS (s : Nat) (b : Nat) (A : Option Addr) (n c p : Nat) (w : World) (e : Ending) (w' : World) : Prop :=
  ∃ (M : Nat) (A1 : Option Addr) (k1 c1 : Nat) (cs : List At) (A2 : Option Addr) (k2 c2 : Nat) (gs : List At) (p' : Nat), (e = .returned (.agg #[.slice A1 k1 c1, .slice A2 k2 c2]) ∧ k1 ≤ 5 ∧ k2 ≤ 5 ∧ p' ≤ p + s) ∧ (w.heap.size ≤ M ∧ M ≤ w'.heap.size) ∧
    IsAtoms w' w.heap.size M A1 k1 c1 cs ∧ OwnRowT w' M gs (.slice A2 k2 c2) ∧ Rd w' b A n c p' ∧ w.grownBy w' (some b) ∧ ShortAts cs ∧ ShortAts gs
theorem zjw {w W : World} {b x : Nat} {u v : Value} (h : w.grownBy W (some b)) (hx : w.heap.size ≤ x) : w.grownBy ((W.setCell ⟨x, 0, none⟩ u).setCell ⟨x, 1, none⟩ v) (some b) :=
  ⟨h.os, h.tape, h.output, by rw [zab, zab]; exact h.size, fun i hi hne => ((hs_ _ _ _ i qah).trans (hs_ _ _ _ i qah)).trans (h.block i hi hne)⟩
theorem change_drawS (b : Nat) (A : Option Addr) (n c p : Nat) (w : World) (h : Rd w b A n c p) (hp : p ≤ 700000) :
    Calls Tryz.prog 38 #[.pointer (some ⟨b, 0, none⟩)] w (ChangeDrawS 82 b A n c p w) := by
  have H := hid h; clear h; have hbw : b < w.heap.size := H.out.1; have X0 := hid (Bx.new w (.slice none 0 0) (.slice none 0 0) 25); go_enter Tryz.func38, Tryz.ntmps38; go_wp2_with fail; refine (zpi b A n c p _ (H.out.below (zac _ _)) qaa).mono ?_; rintro e w1 ⟨v1, cs, p1, ⟨rfl, hk1, hp1⟩, a4, a2, a8, hrd1, a9⟩; obtain ⟨L1, c1, rfl, b4⟩ := a4.atoms; have c0 := a9.size; rw [zcj] at b4 c0; have X1 := hid (X0.out.row a9 qaa); have I1 := hid b4; have R1 := hid hrd1; have G1 := hid (zad (zae (zac w _) (some b)) a9); have b9 := hid a2; have c7 := hid a8
  clear a4 b4 hrd1 a9 X0 a8 a2; go_wp2_with fail; refine (zpi b A n c p1 w1 R1.out qaa).mono ?_; rintro e w2 ⟨v2, gs, p2, ⟨rfl, hk2, hp2⟩, a3, a7, a6, a5, hg2⟩; obtain ⟨L2, c2, rfl, b6⟩ := a3.atoms; have b5 := hg2.size; have X2 := hid (X1.out.row hg2 qaa); have b7 := hid (I1.out.keep (w' := w2) AtomE.stays (fun q h1 h2 => hg2.cell_far _ h2 qaj) (nl _) (nl _)); have I2 := hid b6; have R2 := hid a5; have G2 := hid (zad G1.out hg2); have HM := hid a6; clear a3 b6 a5 hg2 X1 I1 a6 a7; go_wp2_with fail; refine (l3Less_row L2 gs.length c2 gs L1 cs.length c1 cs w2 I2.out.low ⟨by omega, fun q hq => by have := (HM.out q hq).2.1; omega⟩ (zbx b7.out (Nat.zero_le _) b5) b9.out).mono ?_; rintro e w3 ⟨v3, rfl, b3, hb3⟩
  obtain ⟨L3, c3, rfl, -⟩ := b3.atoms; have hl3 := less_le gs cs; have X3 := X2.out.later hb3; have hs3 := hb3.size; obtain ⟨x1, x2, x3, x4, x5⟩ := X3; have O3 := hid b3; have I3 := hid (b7.out.below AtomE.stays hb3 b5); have R3 := hid (R2.out.below hb3); have G3 := hid (zad G2.out (zae hb3 (some b))); clear b3 hb3; go_wp2; refine bodyPost_ret (v := .agg #[.slice L1 cs.length c1, .slice L3 (zbv gs cs).length c3]) (by simp [results, Tryz.results38, go_sem, x2, x3]) rfl ?_; exact ⟨w1.heap.size, _, _, _, cs, _, _, _, zbv gs cs, p2, ⟨rfl, hk1, by omega, by omega⟩, ⟨by omega, by rw [zab, zab]; omega⟩, zbx (zdg (zdg I3.out (.inl qag) qaa _) (.inl qag) (by rw [zab]; omega) _) qaa (nl _), O3.out.two qaa b5, (R3.out.set qah _).set qah _, zjw G3.out (nl _), c7.out, fun q hq => HM.out q (List.mem_filter.1 hq).1⟩
theorem zpq (b : Nat) (A : Option Addr) (n c p : Nat) (w : World) (h : Rd w b A n c p) (hp : p ≤ 700000) :
    Calls Tryz.prog 38 #[.pointer (some ⟨b, 0, none⟩)] w (ChangeDraw 82 b A n c p w) := by
  refine (change_drawS b A n c p w h hp).mono ?_; rintro e w' ⟨M, A1, k1, c1, cs, A2, k2, c2, gs, p', h1, h2, h3, h4, h5, h6, _, _⟩; exact ⟨M, A1, k1, c1, cs, A2, k2, c2, gs, p', h1, h2, h3, h4, h5, h6⟩
def AnyChange (s : Nat) (b : Nat) (A : Option Addr) (n c p : Nat) (w : World) (e : Ending) (w' : World) : Prop :=
  ∃ (A1 : Option Addr) (k1 c1 : Nat) (cs : List At) (A2 : Option Addr) (k2 c2 : Nat) (gs : List At) (p' : Nat), (e = .returned (.agg #[.slice A1 k1 c1, .slice A2 k2 c2]) ∧ k1 ≤ 41 ∧ k2 ≤ 41 ∧ p' ≤ p + s) ∧
    IsAtoms w' w.heap.size w'.heap.size A1 k1 c1 cs ∧ IsAtoms w' w.heap.size w'.heap.size A2 k2 c2 gs ∧ Rd w' b A n c p' ∧ w.grownBy w' (some b)
theorem zpy (b : Nat) (A : Option Addr) (n c p : Nat) (w : World) (h : Rd w b A n c p) (hp : p ≤ 600000) :
    Calls Tryz.prog 24 #[.pointer (some ⟨b, 0, none⟩)] w (AnyChange 300 b A n c p w) := by
  have H := hid h; clear h; have hbw : b < w.heap.size := H.out.1; obtain ⟨i0, hi, hz, hsz, hby⟩ := info_parts Tryz.infoAt; have HI := hid hi; have HZ := hid hz; have HSZ := hid hsz; have HYY := hid hby; clear hi hz hsz hby; have X0 := hid (Bx.new w (.slice none 0 0) (.slice none 0 0) 25); go_enter Tryz.func24, Tryz.ntmps24; go_wp2_with fail; refine (zpq b A n c p _ (H.out.below (zac _ _)) qaa).mono ?_; rintro e w1 ⟨M, A1, k1, c1, cs, A2, k2, c2, gs, p1, ⟨rfl, hk1, hk2, hp1⟩, ⟨hM1, hM2⟩, b7, e8, hrd1, b3⟩
  have g5 := b3.size; rw [zcj] at b7 hM1 g5; have a7 := zac w1 (.cells #[.slice A1 k1 c1, .slice A2 k2 c2] 25); have X2 := hid ((X0.out.row b3 qaa).later a7); have Y2 := hid (Bx.new w1 (.slice A1 k1 c1) (.slice A2 k2 c2) 25); have I2 := hid (b7.below AtomE.stays a7 hM2); obtain ⟨n0, rs, hl, hm, a4, a6⟩ := e8; have O2 := hid (a4.alloc (.cells #[.slice A1 k1 c1, .slice A2 k2 c2] 25)); have N2 := hid (a6.keep (w' := w1.alloc (.cells #[.slice A1 k1 c1, .slice A2 k2 c2] 25)) (fun i _ h2 => a7.block i h2) (nl _) (nl _))
  have R2 := hid (hrd1.below a7); have G2 := hid (zad (zad (zae (zac w _) (some b)) b3) (zae a7 (some b))); have HV : Hid (∀ g, (Value.slice A2 k2 c2).ownBlock = some g → g < w1.heap.size) := hid (fun g hg => (a4.lt g hg).2); obtain ⟨A9, c9, e9, d9⟩ := OwnRowT.atoms (V := w1) (B := M) (xs := gs) (v := .slice A2 k2 c2) ⟨n0, rs, hl, hm, a4, a6⟩; injection e9 with e91 e92 e93; subst e91; subst e92; subst e93; have J2 := hid (d9.below AtomE.stays a7 (nl _)); clear b7 hrd1 b3 X0 a7 d9 a4 a6; go_wp2_with fail; refine (zav b A n c p1 _ _ R2.out qaa qaa).mono ?_; rintro e w3 ⟨kk, ⟨rfl, hkk⟩, hr3, hg3⟩; have hs3 := hg3.size
  rw [zcj] at hs3; have hx3 : w.heap.size < w1.heap.size := qaa; have X3 := hid (X2.out.row hg3 qaa); have Y3 := hid (Y2.out.row hg3 qaa); have R3 := hid hr3; have G3 := hid (zad G2.out hg3); have I3 := hid (I2.out.keep (w' := w3) AtomE.stays (fun q h1 h2 => hg3.cell_far _ qah qaj) (nl _) (nl _)); have J3 := hid (J2.out.keep (w' := w3) AtomE.stays (fun q h1 h2 => hg3.cell_far _ qah qaj) (nl _) (nl _)); have O3 := hid (O2.out.kept hg3 (zge O2.out qaa)); have N3 := hid (N2.out.keep (w' := w3) (fun i h1 h2 => hg3.block i qah qaj) (nl _) (nl _)); clear hr3 hg3 X2 Y2 I2 O2 R2 G2 J2 N2; by_cases k0 : kk = 0
  · subst k0
    have g8 : n0 = gs.length := by rw [← hm, List.length_map, hl]
    subst g8; have HR3 := hid O3.out; have c3 := hid (show Rd w3.drew b A n c (p1 + 1) from R3.out); obtain ⟨y1, y2, y3, y4, y5⟩ := Y3.out; go_wp2_with fail
    go_region_law (first
      | (refine step_append_lies _ qad _ _ _ qad M 51 i0 _ 2 40 Tryz.underlying23 HI.out HZ.out HSZ.out HYY.out rfl qaa (.slice A2 gs.length c2) gs.length (zai rs) qad (e6.out.alloc _) ⟨w4.heap.size, 0, none⟩ 1 1 [.string nm, .slice A' k d] qad qad (World.news_of_block (cs := #[.string nm, .slice A' k d]) (t := 51) (fr := (0, 0)) (heap_alloc_new w4 _)) qal qaa qaf qaa qah (w4.heap.size + 1) qag ?_; intro gg cap w6 hown6 hgrow hat hlt6; have Y6 := (Y4.later (zac w4 (.cells #[.string nm, .slice A' k d] 51))).grown hgrow (fun e => (by have h1 := HV.out _ e.symm; omega)); have z3 := Y6.2.2.1; have z5 := Y6.2.2.2.2)
      | ((go_simp; go_at_call 51; refine (zkg b A n c _ _ c3.out qaa).mono ?_); rintro e w4 ⟨nm, A', k, d, ts, p4, ⟨rfl, hnm, hk', g7⟩, g6, b9, a5, a8, a9⟩; have a2 := zgr a9; clear a9; have d4 := a2.size; have Y4 := Y3.out.row a2 qaa; have c7 := Y4.2.2.1; have g2 := zfa c7; have e6 := hid (HR3.out.kept a2 (zge HR3.out qaa))))
    all_goals
      obtain ⟨A4, c4, e4, hT⟩ := zbz a5 g6 b9; injection e4 with e4 _ e5; subst e4; subst e5; have hnm' : nm.size ≤ maxLen := qaf; have g0 : w3.drew.heap.size = w3.heap.size := rfl; rw [g0] at hT; have N4 := N3.out.keep (w' := w4) (fun i h1 h2 => a2.block i qaa qaj) (nl _) (nl _); have c0 := HV.out; have AT := hid (rowT_more qaa qaa d4 hl hm e6.out c0 N4 hnm' hT hown6 hgrow hat (.slice (some ⟨gg, 0, none⟩) (gs.length + 1) cap)); have g1 : w4.heap.size ≤ w6.heap.size := by have := hgrow.size; simp at this; omega
      have a3 := zac w4 (.cells #[.string nm, .slice A' k d] 51); have b5 : ∀ g, (Value.slice A2 gs.length c2).ownBlock = some g → w.heap.size < g := fun g hg => by have := (HR3.out.lt g hg).1; omega
      have X6 := hid ((((X3.out.row a2 qaa).later a3).grown hgrow (fun e => by have := b5 _ e.symm; omega)).other (q := ⟨w1.heap.size, 1, none⟩) qah (.slice (some ⟨gg, 0, none⟩) (gs.length + 1) cap)); have R6 := hid ((((a8.below a3).grown hgrow (fun g hg => by have := b5 g hg; omega))).set (q := ⟨w1.heap.size, 1, none⟩) qah (.slice (some ⟨gg, 0, none⟩) (gs.length + 1) cap)); have G6 := hid (grown_set (grownWide (zad (zad G3.out a2) (zae a3 (some b))) hgrow (fun g hg => by have := b5 g hg; omega)) (q := ⟨w1.heap.size, 1, none⟩) qah (.slice (some ⟨gg, 0, none⟩) (gs.length + 1) cap)); have I4 := I3.out.keep (w' := w4) AtomE.stays (fun q h1 h2 => a2.cell_far _ qaa qaj) (nl _) (nl _)
      have e7 : ∀ g, (Value.slice A2 gs.length c2).ownBlock = some g → M ≤ g := fun g hg => (HR3.out.lt g hg).1; have I6 := hid (zdg (I4.keep (w' := w6) AtomE.stays (fun q h1 h2 => (hgrow.cell_far _ qah (fun e => by have := e7 _ e.symm; omega)).trans (a3.cell qaa)) (nl _) (nl _)) (q := ⟨w1.heap.size, 1, none⟩) (.inr hM2) qaa (.slice (some ⟨gg, 0, none⟩) (gs.length + 1) cap)); have b6 : (w6.setCell ⟨w1.heap.size, 1, none⟩ (.slice (some ⟨gg, 0, none⟩) (gs.length + 1) cap)).heap.size = w6.heap.size := zab _ _ _; have Y7 := Y6.set1 (.slice (some ⟨gg, 0, none⟩) (gs.length + 1) cap); clear hown6 hgrow hat a5 a8 a2 N4 hT c0 b5 e7 a3 I4 c7 g2 z3 z5 y2 y3 y4 y5
      obtain ⟨W7, b4⟩ : ∃ W7, w6.setCell ⟨w1.heap.size, 1, none⟩ (.slice (some ⟨gg, 0, none⟩) (gs.length + 1) cap) = W7 := ⟨_, rfl⟩; rw [b4] at AT X6 R6 G6 I6 b6 Y7; obtain ⟨y1, y2, y3, y4, y5⟩ := Y7; obtain ⟨x1, x2, x3, x4, x5⟩ := X6.out; have HW7 := hid b4; rw [b4]; clear b4; go_wp2; refine bodyPost_ret (v := .agg #[.slice A1 k1 c1, .slice (some ⟨gg, 0, none⟩) (gs.length + 1) cap]) qbw rfl ?_; exact ⟨_, _, _, cs, _, _, _, gs ++ [(nm, ts)], p4, ⟨rfl, by omega, by omega, by omega⟩, zfw (zbx I6.out (nl _) qaa) qaa qaa, zfw AT.out qaa qaa, (R6.out.set qah _).set qah _, zjw G6.out (nl _)⟩
  · by_cases k1' : kk = 1
    · subst k1'
      have c3 := hid (show Rd w3.drew b A n c (p1 + 1) from R3.out); go_wp2_with fail; refine (any_facts_draw b A n c (p1 + 1) w3 R3.out qaa).mono ?_; rintro e w4 ⟨L, k, d, xs, p4, ⟨rfl, hk, g7⟩, d7, a8, a2⟩; have d4 := a2.size; have J4 := hid (J3.out.keep (w' := w4) AtomE.stays (fun q h1 h2 => a2.cell_far _ qaa qaj) (nl _) (nl _)); have K4 := hid d7; have R4 := hid a8; have G4 := hid (zad G3.out a2); have X4 := hid (X3.out.row a2 qaa); have Y4 := hid (Y3.out.row a2 qaa); clear d7 a8 a2; obtain ⟨y1, y2, y3, y4, y5⟩ := Y4.out; obtain ⟨x1, x2, x3, x4, x5⟩ := X4.out; have hX := hid ((X4.out.other (q := ⟨w1.heap.size, 0, none⟩) qah (.slice L k d)))
      go_wp2; refine bodyPost_ret (v := .agg #[.slice L k d, .slice A2 gs.length c2]) qbw rfl ?_; refine ⟨_, _, _, xs, _, _, _, gs, p4, ⟨rfl, hk, by omega, by omega⟩, ?_, ?_, (((R4.out.set qah _).set qah _).set qah _), zjw (grown_set G4.out qah _) (nl _)⟩
      · exact zfw (zbx (zdg K4.out (.inl qah) (nl _) _) (nl _) (by rw [zab]; exact nl _)) qaa qaa
      · exact zfw (zbx (zdg J4.out (.inr qag) qaa _) (nl _) (by rw [zab]; omega)) qaa qaa
    · have hks : kk ≠ 0 ∧ kk ≠ 1 := ⟨k0, k1'⟩
      obtain ⟨y1, y2, y3, y4, y5⟩ := Y3.out; obtain ⟨x1, x2, x3, x4, x5⟩ := X3.out; go_wp2; refine bodyPost_ret (v := .agg #[.slice A1 k1 c1, .slice A2 gs.length c2]) qbw rfl ?_; refine ⟨_, _, _, cs, _, _, _, gs, p1 + 1, ⟨rfl, by omega, by omega, by omega⟩, zfw (zbx I3.out (nl _) qaa) qaa qaa, zfw (zbx J3.out (nl _) qaa) qaa qaa, (R3.out.set qah _).set qah _, zjw G3.out (nl _)⟩
def CutPost (s : ByteArray) (b : Nat) (A : Option Addr) (n c p : Nat) (w : World) (e : Ending) (w' : World) : Prop :=
  ∃ (t : ByteArray) (p' : Nat), (e = .returned (.string t) ∧ t.size ≤ s.size + 16 ∧ p' ≤ p + 3) ∧ Rd w' b A n c p' ∧ w.grownBy w' (some b)
theorem of_drew (q : ByteArray → Bool) (g b m : Nat) (A : Option Addr) (n c p : Nat) (w : World) (cs : Array Value) (t : TypeId) (hg : w.heap.size = g) (h : Rd (w.alloc (.cells cs t)) b A n c p) (hp : p ≤ 1099511627776) (hc : cs.size = m) (hm : 0 < m) (hm' : m ≤ 1048576) (hq : cs.toList.all (strOk q) = true) :
    Calls Tryz.prog 66 #[.pointer (some ⟨b, 0, none⟩), .slice (some ⟨g, 0, none⟩) m m] (w.alloc (.cells cs t)).drew (OfPost (fun s => q s = true) b A n c p (w.alloc (.cells cs t)).drew) := by
  subst hg; subst hc; have hl := laid q w cs t hq
  exact of_any (fun s => q s = true) b w.heap.size cs.size A n c p _ h.drawn hp hm hm' (by
    intro e; obtain ⟨s, hs, _⟩ := hl 0 hm; have h0 := h.2.1; rw [← e] at h0; rw [h0] at hs; injection hs with hs; cases hs) hl
theorem cut_draw (s : ByteArray) (b : Nat) (A : Option Addr) (n c p : Nat) (w : World) (h : Rd w b A n c p) (hp : p ≤ 1000000) (hs : s.size ≤ 1000000) :
    Calls Tryz.prog 37 #[.pointer (some ⟨b, 0, none⟩), .string s] w (CutPost s b A n c p w) := by
  have H := hid h; clear h; have hbw := H.out.1; have hsI : (s.size : Int) ≤ 1000000 := qaa; have hws : IntKind.i64.wrap ((s.size : Int) + 1) = ((s.size + 1 : Nat) : Int) := qao; go_enter Tryz.func37, Tryz.ntmps37; go_wp2_with fail; refine (zav b A n c p _ w H.out qaa qaa).mono ?_; rintro e w1 ⟨k, ⟨rfl, hk⟩, a6, a4⟩; have hks : k ≤ s.size := qaa; have R1 := hid a6; have G1 := hid a4; clear a6 a4 hk; go_wp2_with fail; refine (zav b A n c _ _ w1 R1.out qaa qaa).mono ?_; rintro e w2 ⟨j, ⟨rfl, hj⟩, hr2, hg2⟩; have R2 := hid hr2; have G2 := hid (zad G1.out hg2)
  clear hr2 hg2 R1 G1; have hz2 := G2.out.size; have hkI : (k : Int) ≤ (s.size : Int) := qaa; have a9 : (s.extract 0 k).size = k := by rw [ByteArray.size_extract]; omega
  have a8 : (s.extract k s.size).size = s.size - k := by rw [ByteArray.size_extract]; omega
  by_cases j0 : j = 0
  · subst j0
    have R2' := hid (show Rd w2.drew b A n c (p + 1 + 1) from R2.out); go_wp2_with fail; go_region_with ((go_at_call 66; refine (of_drew (fun s => decide (s.size ≤ 16)) w2.heap.size b 12 A n c _ w2 _ _ rfl (R2.out.below (zac _ _)) qaa qad qaa qaa qad).mono ?_); rintro e w5 ⟨t, ⟨rfl, ht⟩, a3, a5⟩; have a7 : t.size ≤ 16 := of_decide_eq_true ht; have hc1 : (s.extract 0 k ++ t).size = k + t.size := by rw [ByteArray.size_append, a9]); have a2 := zgr a5; have G5 := hid (zad G2.out (zad (zae (zac w2 _) (some b)) a2)); have R5 := hid a3; clear a5 a2 a3; go_wp2; go_ret
    exact ⟨_, _, ⟨rfl, by rw [ByteArray.size_append, hc1, a8]; omega, by omega⟩, R5.out, G5.out⟩
  · have j0I : ((j : Int) == 0) = false := qbp
    by_cases j1 : j = 1
    · subst j1
      go_wp2_with fail; go_ret; exact ⟨_, _, ⟨rfl, by omega, by omega⟩, R2.out, G2.out⟩
    · have j1I : ((j : Int) == 1) = false := qbp
      go_wp2_with fail; go_ret; exact ⟨s, _, ⟨rfl, by omega, by omega⟩, R2.out, G2.out⟩
theorem zna (t : Int) (xs ys : List At) (k : Nat) (hk : xs.length + ys.length ≤ k) : (znb t xs ys).length ≤ 130 * k + 50 := by
  unfold znb; split
  · rename_i h
    obtain ⟨_, _, h3, h4⟩ := zbk h.1; have e1 := zdx 45 ys (fun a ha => zcq (h4 a ha)); have e2 := zdx 43 xs (fun a ha => zcq (h3 a ha)); have d1 := zjb t.toNat qaa; have s1 := sumB_lt (zff t.toNat (chL xs ys)); have d2 := zjb (zns (zff t.toNat (chL xs ys))) qaa; unfold zbo; rw [List.length_append, List.length_append]
    have hh : (zff t.toNat (chL xs ys)).length = (Lib.decDigits t.toNat).length + 1 + ((zcf 45 ys).length + (zcf 43 xs).length) := by
      unfold zff chL; simp only [List.length_append, List.length_cons, List.length_nil]
    rw [hh]; simp only [List.length_cons, List.length_nil]; omega
  · simp
def TextDraw (m s : Nat) (b : Nat) (A : Option Addr) (n c p : Nat) (w : World) (e : Ending) (w' : World) : Prop :=
  ∃ (t : ByteArray) (p' : Nat), (e = .returned (.string t) ∧ t.size ≤ m ∧ p' ≤ p + s) ∧ Rd w' b A n c p' ∧ w.grownBy w' (some b)
theorem ZDrawLog0 {p : Prop} (h : p := by
  go_wp2_with fail; refine (zav b A n c p1 8 wr R1.out qaa qaa).mono ?_; rintro e w6 ⟨k, ⟨rfl, hk⟩, hr6, hg6⟩; have R6 := hid hr6; have G6 := hid (zad G1.out hg6); have X6 := hid ((XB.out.below HB.out).kept hg6 qaj); clear hr6 hg6 hk x1 x3; rcases (Classical.em ((k : Int) = 0)) with hkI | hkI
  · go_wp2_with fail
    obtain ⟨V, hV⟩ : ∃ V, w6.drew = V := ⟨_, rfl⟩; have xV : V.cell? ⟨g, 3, none⟩ = some (.slice HA hs.length hc) := hV ▸ X6.out.cell 3; have RV := hid (show Rd V b A n c (p1 + 1) from hV ▸ R6.out); have hzV : w6.heap.size = V.heap.size := qbx; have GV := hid (show w.grownBy V (some b) from zad G6.out (hV ▸ zae ((Below.refl _ _).drew) (some b))); have glt := X6.out.lt; have HV := hid hV; clear hV; refine wp_region_held_drew (S := fun W => W.cell? ⟨g, 3, none⟩ = some (.slice HA hs.length hc)) qab (by rw [HV.out]; exact xV) ?_; rw [HV.out]; intro hS_; refine tk 0 (.string s) hS_ ?_; refine tk 1 (.pointer (some ⟨g, 3, none⟩)) hS_ ?_
    refine tk 2 (.slice HA hs.length hc) hS_ ?_; refine tk 3 (.int .i64 (hs.length : Int)) hS_ ?_; refine tk 4 (.pointer (some ⟨b, 0, none⟩)) hS_ ?_; refine rd1 5 fun K_ hK_ => ?_; go_simp; go_at_call 38; refine (zpq b A n c (p1 + 1) V RV.out qaa).mono ?_; rintro e w7 ⟨M, A1, k1, c1, cs, A2, k2, c2, ds, p6, ⟨rfl, hk1, hk2, hp6⟩, ⟨hM1, hM2⟩, hI, hO, hr7, hg7⟩; obtain ⟨L2, d2, e2, hJ⟩ := hO.atoms; injection e2 with e3 e4 e5; subst e3; subst e4; subst e5; have J1 := hid (zbx hI (Nat.zero_le _) hM2); have J2 := hid (zbx hJ (Nat.zero_le _) (nl _)); have hcl := hI.1
    have R7 := hid hr7; have G7 := hid (zad GV.out hg7); have x7 : w7.cell? ⟨g, 3, none⟩ = some (.slice HA hs.length hc) := (cb_ (hg7.block g qaa qaj)).trans xV; have hz7 := hg7.size; clear hI hO hJ hr7 hg7; refine hK_.out _ _ x7 fun hS_ => ?_; clear hK_; refine rd1 6 fun K_ hK_ => ?_; go_simp; go_at_call 81; refine (zim (hs.length : Int) A1 k1 c1 A2 ds.length c2 cs ds w7 J1.out J2.out).mono ?_; rintro e w8 ⟨rfl, hb8⟩; have hln := zna (hs.length : Int) cs ds 10 qaa; obtain ⟨u, hu⟩ : ∃ u : ByteArray, (⟨(znb (hs.length : Int) cs ds).toArray⟩ : ByteArray) = u := ⟨_, rfl⟩
    have hus : u.size ≤ 1350 := by rw [← hu]; show (znb (hs.length : Int) cs ds).toArray.size ≤ _; simp only [List.size_toArray]; omega
    rw [hu]; have R8 := hid (R7.out.below hb8); have G8 := hid (zad G7.out (zae hb8 (some b))); have x8 : w8.cell? ⟨g, 3, none⟩ = some (.slice HA hs.length hc) := (hb8.cell (p := ⟨g, 3, none⟩) (by show g < _; omega)).trans x7; have hsu : s.size + u.size ≤ 9223372036854775807 := qaa; clear hb8 hu hln; refine hK_.out _ _ x8 fun hS_ => ?_; clear hK_; refine tk 7 (.string (s ++ u)) hS_ ?_ (hy := Or.inl ⟨by rfl, by intro w_ hSw_; (try dsimp only at hSw_); go_simp <;> omega⟩); refine tk 8 (.string (s ++ u)) hS_ ?_; refine wpAnyH_done qab ?_ _; clear hS_; go_wp2; go_ret; exact ⟨s ++ u, p6, ⟨rfl, by rw [ByteArray.size_append]; omega, by omega⟩, R8.out, G8.out⟩
  · go_wp2
    go_ret; exact ⟨s, p1 + 1, ⟨rfl, by omega, by omega⟩, R6.out, G6.out⟩) : p := h
theorem log_draw (b : Nat) (A : Option Addr) (n c p : Nat) (w : World) (h : Rd w b A n c p) (hp : p ≤ 500000) :
    Calls Tryz.prog 46 #[.pointer (some ⟨b, 0, none⟩)] w (TextDraw 320000 1500 b A n c p w) := by
  have H := hid h; clear h; have hbw : b < w.heap.size := H.out.1; go_enter Tryz.func46, Tryz.ntmps46; go_wp2_with fail; refine (base_draw b A n c p w H.out qaa).mono ?_; rintro e w1 ⟨RA, rc, rs, t, GA, gc, gs, HA, hc, hs, p1, rfl, a4, hp1, a9, a3, -, -, hI⟩; have xb := Blk.new w1 119 #[.slice RA rs.length rc, .int .i64 (t : Int), .slice GA gs.length gc, .slice HA hs.length hc]; have hb2 := zac w1 (.cells #[.slice RA rs.length rc, .int .i64 (t : Int), .slice GA gs.length gc, .slice HA hs.length hc] 119)
  have b5 := a3.size; obtain ⟨w2, a6⟩ : ∃ w2, w1.alloc (.cells #[.slice RA rs.length rc, .int .i64 (t : Int), .slice GA gs.length gc, .slice HA hs.length hc] 119) = w2 := ⟨_, rfl⟩; rw [a6] at xb hb2; have b9 := hid a6; have hz2 := hb2.size; obtain ⟨g, hg⟩ : ∃ g, w1.heap.size = g := ⟨_, rfl⟩; have HI := hid (hI.below ChE.stays hb2 (nl _)); have HR := hid (a9.below hb2); have HG := hid (zad a3 (zae hb2 (some b))); have XB := hid xb; have c0 := hid hg; rw [hg] at XB HI b5 hz2; have a2 := hid a4.each; have hsh := a4.short; clear hI a9 a3 xb hb2 a6 a4 hg; go_wp2_with (rw [b9.out])
  rw [c0.out]; go_loopw [3, 5] (fun x y wr => ∃ (s : ByteArray) (i : Nat), (x = .string s ∧ y = .int .i64 (i : Int)) ∧ i ≤ hs.length ∧ s.size ≤ i * 10450 ∧ Below w2.heap.size w2 wr) (fun _ y _ => hs.length - (intOf y).toNat)
  case atStart => exact ⟨_, 0, ⟨rfl, rfl⟩, Nat.zero_le _, Nat.zero_le _, Below.refl _ _⟩
  case round =>
    obtain ⟨s, i, ⟨rfl, rfl⟩, hi, b6, hB⟩ := hrel; have x1 := (XB.out.below hB).cell 1; have x3 := (XB.out.below hB).cell 3; have c3 : (s.size : Int) ≤ 400000 := qaa; by_cases hlt : i < hs.length ∧ t = hs.length
    · obtain ⟨hl, ht⟩ := hlt
      have b3 : (i : Int) < (hs.length : Int) := qaa; have b4 : ((t : Int) == (hs.length : Int)) = true := by simp [ht]
      clear ht; have IC := (HI.out.below ChE.stays hB hz2); obtain ⟨p0, ⟨cs, ds⟩, b7, hg0, a3, a5, hE⟩ := IC.at_ hl; subst b7; obtain ⟨A1, n1, d1, B1, m1, d2, n0, a8, n1', a7⟩ := hE.out; have f1 := zaw (a2.out _ (List.mem_of_getElem? a5)).1; have f2 := zaw (a2.out _ (List.mem_of_getElem? a5)).2; have hz := hB.size; have J1 := hid (a8.keep (w' := wr) (lo' := 0) (hi' := wr.heap.size) AtomE.stays (fun _ _ _ => rfl) (Nat.zero_le _) qaa); have J2 := hid (a7.keep (w' := wr) (lo' := 0) (hi' := wr.heap.size) AtomE.stays (fun _ _ _ => rfl) (Nat.zero_le _) qaa); have HB := hid hB; clear hB IC hE a8 a7 a5; go_wp2_with fail
      refine (zim (i : Int) A1 n1 d1 B1 m1 d2 cs ds wr J1.out J2.out).mono ?_; rintro e w5 ⟨rfl, hb5⟩; have hln := zna (i : Int) cs ds 80 qaa; obtain ⟨u, hu⟩ : ∃ u : ByteArray, (⟨(znb (i : Int) cs ds).toArray⟩ : ByteArray) = u := ⟨_, rfl⟩; have hus : u.size ≤ 10450 := by rw [← hu]; show (znb (i : Int) cs ds).toArray.size ≤ _; simp only [List.size_toArray]; omega
      rw [hu]; have HB5 := hid (zaa HB.out hb5); clear hb5 hu hln; have hwi : IntKind.i64.wrap ((i : Int) + 1) = ((i + 1 : Nat) : Int) := qao; go_wp2; go_roundw
      case rel => exact ⟨s ++ u, i + 1, ⟨rfl, by go_num⟩, by omega, by rw [ByteArray.size_append]; omega, HB5.out⟩
      case measure => exact qms
    · have HB := hid hB
      have R1 := hid (HR.out.below hB); have G1 := hid (zad HG.out (zae hB (some b))); clear hB; have hgb : b < g := qaa; rcases (Classical.em ((i : Int) < (hs.length : Int))) with b3 | b3
      · have htn : ¬ t = hs.length := fun e => hlt ⟨by omega, e⟩
        have b4 : ((t : Int) == (hs.length : Int)) = false := qah; exact ZDrawLog0
      · skip
        exact ZDrawLog0
theorem drawLogGet_any (A : Option Addr) (n c : Nat) (w : World) (h : IsBytes w w.heap.size A n c) :
    Calls Tryz.prog 20 #[.slice A n c] w fun e w' => ∃ t : ByteArray, (e = .returned (.string t) ∧ t.size ≤ 321000) ∧ Below w.heap.size w w' := by
  go_enter Tryz.func20, Tryz.ntmps20; go_wp2_with fail; refine (open_any A n c w h).mono ?_; rintro e w1 ⟨b, n', ⟨rfl, hb⟩, hr, hb1⟩; have HB1 := hid hb1; have R1 := hid hr; have hbw : b < w1.heap.size := hr.1; clear hb1 hr; go_wp2_with fail; refine (log_draw b A n' c 0 w1 R1.out qaa).mono ?_; rintro e w2 ⟨s, p2, ⟨rfl, hs, hp2⟩, hr2, hg2⟩; have R2 := hid hr2; have G2 := hid hg2; clear hr2 hg2; go_wp2_with fail; refine (cut_draw s b A n' c _ w2 R2.out qaa qaa).mono ?_; rintro e w4 ⟨t, p4, ⟨rfl, ht, _⟩, a3, a2⟩; have G4 := hid (zad G2.out a2)
  clear a3 a2; go_wp2; go_ret; exact ⟨t, ⟨rfl, by omega⟩, HB1.out.grown G4.out HB1.out.size qes⟩
theorem one_any (b g m : Nat) (A : Option Addr) (n c p : Nat) (w : World) (h : Rd w b A n c p) (hp : p ≤ 1099511627776) (hm : 0 < m) (hm' : m ≤ 1048576) (hg : g ≠ b)
    (hl : ∀ i, i < m → ∃ k : Int, w.cell? ⟨g, i, none⟩ = some (.int .i64 k)) :
    Calls Tryz.prog 49 #[.pointer (some ⟨b, 0, none⟩), .slice (some ⟨g, 0, none⟩) m m] w fun e w' => ∃ k : Int, e = .returned (.int .i64 k) ∧ Rd w' b A n c (p + 1) ∧ w.grownBy w' (some b) := by
  have HL := hid hl; clear hl; go_enter Tryz.func49, Tryz.ntmps49; go_wp2_with fail; refine (zav b A n c p _ _ h hp qaa).mono ?_; rintro e w1 ⟨k, ⟨rfl, hk⟩, a4, a2⟩; have a3 : k < m := qaa; clear hk; obtain ⟨s, hs⟩ := HL.out k a3; have hs1 : w1.cell? ⟨g, k, none⟩ = some (.int .i64 s) := a2.cell hs (by simp [hg]); have hk0 : (0 : Int) ≤ (k : Int) := qaa; have hk1 : (k : Int) < (m : Int) := qaa; go_wp2; go_ret; exact ⟨s, rfl, a4, a2⟩
theorem drawLogPut_any (A : Option Addr) (n c : Nat) (w : World) (h : IsBytes w w.heap.size A n c) :
    Calls Tryz.prog 23 #[.slice A n c] w fun e w' => ∃ (k : Int) (A1 : Option Addr) (k1 c1 : Nat) (cs : List At) (A2 : Option Addr) (k2 c2 : Nat) (gs : List At), (e = .returned (.tuple #[.int .i64 k, .agg #[.slice A1 k1 c1, .slice A2 k2 c2]]) ∧ k1 ≤ 41 ∧ k2 ≤ 41) ∧
      IsAtoms w' 0 w'.heap.size A1 k1 c1 cs ∧ IsAtoms w' 0 w'.heap.size A2 k2 c2 gs ∧ Below w.heap.size w w' := by
  have xr := Blk.new w 25 #[.slice none 0 0, .slice none 0 0]; have a3 := zac w (.cells #[.slice none 0 0, .slice none 0 0] 25); obtain ⟨w0, a4⟩ : ∃ w0, w.alloc (.cells #[.slice none 0 0, .slice none 0 0] 25) = w0 := ⟨_, rfl⟩; rw [a4] at xr a3; have a8 := hid a4; have b9 := hid xr; have H0 := hid (h.up a3); have hz0 : w.heap.size < w0.heap.size := by rw [← a4]; simp
  have b3 := hid a3; clear a4 xr a3 h; go_enter Tryz.func23, Tryz.ntmps23; go_wp2_with (rw [a8.out]); refine (open_any A n c w0 H0.out).mono ?_; rintro e w1 ⟨b, n', ⟨rfl, hb⟩, hr, hb1⟩; have hz1 := hb1.size; have R1 := hid hr; have a7 := hid (b9.out.below hb1); have HB1 := hid (zaa b3.out hb1); have hbw : b < w1.heap.size := hr.1; clear hb1 hr; have xl := Blk.new w1 3 #[.int .i64 0, .int .i64 1, .int .i64 7, .int .i64 100000, .int .i64 100001, .int .i64 (-1)]; have hb2 := zac w1 (.cells #[.int .i64 0, .int .i64 1, .int .i64 7, .int .i64 100000, .int .i64 100001, .int .i64 (-1)] 3)
  obtain ⟨w2, a6⟩ : ∃ w2, w1.alloc (.cells #[.int .i64 0, .int .i64 1, .int .i64 7, .int .i64 100000, .int .i64 100001, .int .i64 (-1)] 3) = w2 := ⟨_, rfl⟩; rw [a6] at xl hb2; have b5 := hid a6
  have hl : ∀ i, i < 6 → ∃ k : Int, w2.cell? ⟨w1.heap.size, i, none⟩ = some (.int .i64 k) := fun i hi => by
    rw [xl.cell i]; rcases i with _ | _ | _ | _ | _ | _ | i
    · exact ⟨_, rfl⟩
    · exact ⟨_, rfl⟩
    · exact ⟨_, rfl⟩
    · exact ⟨_, rfl⟩
    · exact ⟨_, rfl⟩
    · exact ⟨_, rfl⟩
    · omega
  have R2 := hid (R1.out.below hb2); have b4 := hid (a7.out.below hb2); have HB2 := hid (zaa HB1.out hb2); have HL := hid hl; have b7 := hb2.size; clear xl hb2 a6 hl; go_wp2_with (rw [b5.out]); refine (one_any b w1.heap.size 6 A n' c 0 w2 R2.out qaa qaa qaa qaa HL.out).mono ?_; rintro e w3 ⟨k, rfl, hr3, hg3⟩; have R3 := hid hr3; have b6 := hid (b4.out.kept hg3 qaj); have G3 := hid hg3; clear hr3 hg3; go_wp2_with fail; refine (zpy b A n' c 1 w3 R3.out qaa).mono ?_; rintro e w4 ⟨A1, k1, c1, cs, A2, k2, c2, gs, p4, ⟨rfl, hk1, hk2, -⟩, hI, hJ, a9, a5⟩; have a2 := hid (b6.out.kept a5 qaj); have G4 := hid (zad G3.out a5)
  have hz2 := HB2.out.size; have hz3 := G3.out.size; have hz4 := a5.size; have HI := hid hI; have HJ := hid hJ; have HB4 := hid (HB2.out.grown G4.out HB2.out.size qes); clear a9 a5 hI hJ; have x0 := a2.out.cell 0; have x1 := a2.out.cell 1; have x2 := a2.out.frozen 0; have x3 := a2.out.frozen 1; go_wp2; have y := (a2.out.set 0 (.slice A1 k1 c1)).set 1 (.slice A2 k2 c2); have y0 := y.cell 0; have y1 := y.cell 1; refine bodyPost_ret (v := .tuple #[.int .i64 k, .agg #[.slice A1 k1 c1, .slice A2 k2 c2]]) (by simp [results, Tryz.results23, go_sem, x0, x1]) rfl ?_
  have s1 : (w4.setCell ⟨w.heap.size, 0, none⟩ (.slice A1 k1 c1)).heap.size = w4.heap.size := zab _ _ _; have s2 : ((w4.setCell ⟨w.heap.size, 0, none⟩ (.slice A1 k1 c1)).setCell ⟨w.heap.size, 1, none⟩ (.slice A2 k2 c2)).heap.size = w4.heap.size := by rw [zab, s1]
  exact ⟨k, A1, k1, c1, cs, A2, k2, c2, gs, ⟨rfl, hk1, hk2⟩,
    zbx (zdg (zdg HI.out (q := ⟨w.heap.size, 0, none⟩) (.inl qak) (nl _) _) (q := ⟨w.heap.size, 1, none⟩) (.inl qak) (by rw [s1]; exact nl _) _) (Nat.zero_le _) (by rw [s2]; exact nl _),
    zbx (zdg (zdg HJ.out (q := ⟨w.heap.size, 0, none⟩) (.inl qak) (nl _) _) (q := ⟨w.heap.size, 1, none⟩) (.inl qak) (by rw [s1]; exact nl _) _) (Nat.zero_le _) (by rw [s2]; exact nl _),
    (HB4.out.setCell (p := ⟨w.heap.size, 0, none⟩) (nl _) _).setCell (p := ⟨w.heap.size, 1, none⟩) (nl _) _⟩
end Go.Proofs.YtogonjkklioaaaaGreatDoor
