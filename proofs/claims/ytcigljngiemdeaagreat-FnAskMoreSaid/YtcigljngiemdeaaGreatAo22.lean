/-
  Texts of one claim, put together.
-/
import Derived.Test.YtcigljngiemdeaaGreatAo0
import Derived.Test.YtcigljngiemdeaaGreatDraw
import Derived.Test.YtcigljngiemdeaaGreatAo14
import Derived.Test.YtcigljngiemdeaaGreatAo19
import Derived.Test.YtcigljngiemdeaaGreatAo21
import Derived.Test.YtcigljngiemdeaaGreatAo12
import Derived.Test.YtcigljngiemdeaaGreatDrawRls
set_option maxRecDepth 100000
set_option maxHeartbeats 8000000
namespace Go.Proofs.YtcigljngiemdeaaGreat
open Go.RowKit
theorem IsBytes.up {w w' : World} {A : Option Addr} {n c : Nat} (h : IsBytes w w.heap.size A n c) (hb : Below w.heap.size w w') : IsBytes w' w'.heap.size A n c := by
  obtain ⟨h1, h2, h3⟩ := h.keep (w' := w') (fun q hq => hb.cell hq)
  exact ⟨h1, h2, fun hn => by
    obtain ⟨q, hq, hb', hc⟩ := h3 hn; exact ⟨q, hq, Nat.lt_of_lt_of_le hb' hb.size, hc⟩⟩
def vOf (i : Nat) : ByteArray := ⟨#[118, UInt8.ofNat (48 + i)]⟩
def tabAt (i k : Nat) : At := (⟨#[101]⟩, [(false, vOf i), (false, vOf k)])
def tab (n : Nat) : List At := ((List.range n).map fun j => tabAt (j / 6) (j % 6)).foldl putL []
theorem tab_succ (j : Nat) : tab (j + 1) = putL (tab j) (tabAt (j / 6) (j % 6)) := by
  unfold tab; rw [List.range_succ, List.map_append, List.foldl_append]; rfl
theorem tab_at (i k : Nat) (hk : k < 6) : tab (i * 6 + k + 1) = putL (tab (i * 6 + k)) (tabAt i k) := by
  rw [tab_succ, show (i * 6 + k) / 6 = i by omega, show (i * 6 + k) % 6 = k by omega]
theorem tab_rises : ∀ n : Nat, risesB (tab n) = true
  | 0 => rfl
  | n + 1 => by rw [tab_succ]; exact put_rises (tab_rises n)
theorem tab_len : ∀ n : Nat, (tab n).length ≤ n
  | 0 => nl _
  | n + 1 => by rw [tab_succ]; have := put_len (tab n) (tabAt (n / 6) (n % 6)); have := tab_len n; omega
theorem tab_all : (tab 42).length = 42 := by kernel_rfl
end Go.Proofs.YtcigljngiemdeaaGreat
namespace Go.Proofs.YtcigljngiemdeaaGreat
open Go.RowKit
theorem oneFig (j : Nat) (hj : j < 10) (W : World) : (convert 39 9 (.slice (some ⟨W.heap.size, 0, none⟩) 1 1)).run Tryz.prog (W.alloc (.cells #[.int .u8 (48 + (j : Int))] 5)) = .ok (.string ⟨#[UInt8.ofNat (48 + j)]⟩) (W.alloc (.cells #[.int .u8 (48 + (j : Int))] 5)) := by
  have hb : ((UInt8.ofNat (48 + j)).toNat : Int) = 48 + (j : Int) := by rw [UInt8.toNat_ofNat']; omega
  have h := run_convert_bytes_back (P := Tryz.prog) (W.alloc (.cells #[.int .u8 (48 + (j : Int))] 5)) 39 9 5 ⟨W.heap.size, 0, none⟩ 1 [UInt8.ofNat (48 + j)] Tryz.underlying39 Tryz.underlying5 Tryz.underlying9 (fun i hi => by
    have : i = 0 := by simpa using hi
    subst this; show _ = some (Value.int .u8 ((UInt8.ofNat (48 + j)).toNat : Int)); rw [hb]; simp [go_sem, Addr.add])
  exact h
theorem dec_any (k : Nat) (hk : k < 10) (w : World) :
    Calls Tryz.prog 107 #[.int .i64 (k : Int)] w fun e w' => e = .returned (.string ⟨#[UInt8.ofNat (48 + k)]⟩) ∧ Below w.heap.size w w' := by
  have hcv := oneFig k hk w; have hb := below1 w (.cells #[.int .u8 (48 + (k : Int))] 5); go_enter Tryz.func107, Tryz.ntmps107; go_wp2; go_ret; exact ⟨by rw [UInt8.ofNat_add]; rfl, hb⟩
theorem vText (k : Nat) : (⟨#[118]⟩ ++ ⟨#[UInt8.ofNat (48 + k)]⟩ : ByteArray) = vOf k := by
  apply ByteArray.ext; simp [ByteArray.data_append, vOf]
theorem vOf_size (k : Nat) : (vOf k).size = 2 := rfl
end Go.Proofs.YtcigljngiemdeaaGreat
namespace Go.Proofs.YtcigljngiemdeaaGreat
open Go.RowKit
theorem fact_draw (b : Nat) (A : Option Addr) (n c p : Nat) (w : World) (h : Rd w b A n c p) (hp : p ≤ 900000) :
    Calls Tryz.prog 105 #[.pointer (some ⟨b, 0, none⟩)] w (AtomDraw 3 8 b A n c p w) := by
  have H := hid h; clear h; have hbw : b < w.heap.size := H.out.1; go_enter Tryz.func105, Tryz.ntmps105; go_wp2_with fail; refine (of_laidAt nmB (w.heap.size + 1) b _ A n c p _ _ _ qad (H.out.below (below1 _ _)) qaa qab qaa qaa qab).mono ?_; rintro e w1 ⟨s, ⟨rfl, hs⟩, hr1, hg1⟩; have HR1 := hid hr1; have hgw1 := grownTrans (grownBelow (below2 w _ _) (some b)) hg1; have HG1 := hid hgw1; have hX0 := Bx.new w (.string ⟨#[]⟩) (.slice none 0 0) 49; have HX1 := hid ((hX0.grown (grownBelow (below1 _ _) none) qad).grown hg1 qaf)
  clear hr1 hgw1 hX0 hg1; go_wp2_with fail; refine (atom_draw b A n c (p + 1) s false w1 HR1.out qaa (nm_of hs)).mono ?_; rintro e w2 ⟨nm, A', k, d, ts, p', ⟨rfl, hnm, hk, hp'⟩, hlen, hs', hown, hrd, hg2⟩; have hsz1 := HG1.out.size; have hsz2 := hg2.size; have hlx := HX1.out.1; have HX2 := hid (HX1.out.grown hg2 qaf); have HG2 := hid (grownTrans HG1.out hg2); have HO2 := hid hown; have HR2 := hid hrd; have HL := hid hlen; have HS := hid hs'; have hne : (Value.slice A' k d).ownBlock ≠ some w.heap.size := fun e => by have := hown.lt _ e; omega
  have HN := hid hne; clear hown hrd hg2 hne hlen hs'; obtain ⟨x1, x2, x3, x4, x5⟩ := HX2.out; go_wp2; have hsz3 := HG2.out.size; refine bodyPost_ret (v := .agg #[.string nm, .slice A' k d]) (by simp [results, Tryz.results105, go_sem, x2, x3]) rfl ⟨nm, A', k, d, ts, p', ⟨rfl, hnm, hk, by omega⟩, HL.out, HS.out, ?_, ?_, ?_⟩
  · exact ownsRow_setCell_other (ownsRow_setCell_other (ownsLess HO2.out qaa) HN.out _) HN.out _
  · exact (HR2.out.set qaf _).set qaf _
  · have h1 := HG2.out
    exact ⟨h1.os, h1.tape, h1.output, by rw [size_setCell, size_setCell]; exact h1.size, fun i hi hne => (set2_far qaa).trans (h1.block i hi hne)⟩
theorem put_mem {xs : List At} {a y : At} (h : y ∈ putL xs a) : y ∈ xs ∨ y = a := by
  unfold putL at h; split at h
  · exact .inl h
  · exact (mem_ins xs a y).1 h
theorem OwnRow.grown {V W : World} {B b : Nat} {xs : List At} {v : Value} (h : OwnRow V B xs v) (hg : V.grownBy W (some b)) (hB : b < B) : OwnRow W B xs v := by
  obtain ⟨n, M, rs, ⟨h5, h6⟩, h1, h2, h3, h4⟩ := h; exact ⟨n, M, rs, ⟨h5, Nat.le_trans h6 hg.size⟩, h1, h2, h3.kept hg (ownNe h3 qaa), h4.keep (fun q hq hq' => hg.cell_far _ (Nat.lt_of_lt_of_le hq' h6) qaw) (nl _) (nl _)⟩
theorem OwnRow.nil {V : World} {B : Nat} {v : Value} (hB : B ≤ V.heap.size) (h : V.ownsRow B 49 2 v 0 []) : OwnRow V B [] v := ⟨0, B, [], ⟨nl _, hB⟩, rfl, rfl, h, fun r hr => absurd hr qad⟩
def FactsRow (most s : Nat) (b : Nat) (A : Option Addr) (n c p : Nat) (w : World) (e : Ending) (w' : World) : Prop :=
  ∃ (v : Value) (xs : List At) (p' : Nat), (e = .returned v ∧ xs.length ≤ most ∧ p' ≤ p + s) ∧ OwnRow w' w.heap.size xs v ∧ risesB xs = true ∧ (∀ q ∈ xs, q.1.size ≤ 16 ∧ q.2.length ≤ 3 ∧ ∀ t ∈ q.2, t.2.size ≤ 16) ∧ Rd w' b A n c p' ∧ w.grownBy w' (some b)
theorem facts_draw (b : Nat) (A : Option Addr) (n c p most : Nat) (w : World) (h : Rd w b A n c p) (hp : p ≤ 800000) (hmost : most ≤ 1000) :
    Calls Tryz.prog 63 #[.pointer (some ⟨b, 0, none⟩), .int .i64 (most : Int)] w (FactsRow most (1 + 8 * most) b A n c p w) := by
  have H := hid h; clear h; have hbw : b < w.heap.size := H.out.1; go_enter Tryz.func63, Tryz.ntmps63; go_wp2_with fail; refine (pick_any b A n c p most _ (H.out.below (below1 _ _)) qaa qaa).mono ?_; rintro e w1 ⟨k0, ⟨rfl, hk0⟩, hr1, hg1⟩; have hk0' : k0 ≤ most := qaa; have HR1 := hid hr1; have HG1 := hid (grownTrans (grownBelow (below1 w _) (some b)) hg1); have hs1 := HG1.out.size; have HE1 : Hid (w1.ownsRow w.heap.size 49 2 (.slice (some ⟨w.heap.size, 0, none⟩) 0 0) 0 []) := hid ((own_empty w 49 w.heap.size (nl _)).kept hg1 (.inr qav))
  clear hr1 hg1 hk0; go_wp2; go_loopw [5, 6] (fun o i wr => ∃ (k : Nat) (xs : List At) (p' : Nat), k ≤ k0 ∧ i = .int .i64 (k : Int) ∧ xs.length ≤ k0 - k ∧ p' ≤ p + 1 + 8 * (k0 - k) ∧ OwnRow wr w.heap.size xs o ∧ risesB xs = true ∧ (∀ q ∈ xs, q.1.size ≤ 16 ∧ q.2.length ≤ 3 ∧ ∀ t ∈ q.2, t.2.size ≤ 16) ∧ Rd wr b A n c p' ∧ w.grownBy wr (some b)) (fun _ i _ => (intOf i).toNat)
  case atStart => exact ⟨k0, [], p + 1, nl _, rfl, by simp, by omega, OwnRow.nil hs1 HE1.out, rfl, fun q hq => absurd hq qad, HR1.out, HG1.out⟩
  case round =>
    obtain ⟨k, xs, p', hk, rfl, hj, hp', hI, hR, hS, hrd, hg⟩ := hrel; have HI := hid hI; have HRS := hid hR; have HS := hid hS; have HRD := hid hrd; have HG := hid hg; have hsz := hg.size; clear hI hR hS hrd hg; by_cases h0 : 0 < k
    · have h0' : (0 : Int) < (k : Int) := qaa
      go_wp2_with fail; refine (fact_draw b A n c p' _ HRD.out qaa).mono ?_; rintro e w3 ⟨nm, A', k3, d3, ts, p3, ⟨rfl, hnm, hk3, hp3⟩, hlen, hs3, hown, hrd3, hg3⟩; have hsz3 := hg3.size; obtain ⟨A4, c4, e4, hT⟩ := owned_terms hown hlen hs3; injection e4 with e4 _ e5; subst e4; subst e5; have T3 := hT.keep (w' := w3) (lo' := w.heap.size) (hi' := w3.heap.size) (fun _ _ _ => rfl) hsz (nl _); have HI3 := hid (HI.out.grown hg3 hbw); have HT3 := hid T3; have HRD3 := hid hrd3; have HG3 := hid (grownTrans HG.out hg3); have HS3 := hid hs3; clear hown hT T3 hrd3 hg3 hs3; have hnm' : nm.size ≤ maxLen := qac; go_wp2_with fail
      refine (l3Put_row _ xs nm A' k3 d3 ts _ w.heap.size qaa HI3.out hnm' HT3.out HRS.out qaa).mono ?_; rintro e w4 ⟨v5, rfl, ho5, hb5⟩; have hl5 := put_len xs (nm, ts); have HI5 := hid ho5; have HRD5 := hid (HRD3.out.below hb5); have HG5 := hid (grownTrans HG3.out (grownBelow hb5 (some b))); clear ho5 hb5; go_wp2; go_roundw
      case rel =>
        refine ⟨k - 1, putL xs (nm, ts), p3, by omega, by go_num, by omega, by omega, HI5.out, put_rises HRS.out, fun q hq => ?_, HRD5.out, HG5.out⟩; rcases put_mem hq with hq | rfl
        · exact HS.out q hq
        · exact ⟨hnm.1, by show ts.length ≤ 3; omega, HS3.out⟩
      case measure => exact qms
    · have h0' : ¬ (0 : Int) < (k : Int) := qaa
      go_wp2; go_ret; exact ⟨_, xs, p', ⟨rfl, by omega, by omega⟩, HI.out, HRS.out, HS.out, HRD.out, HG.out⟩
end Go.Proofs.YtcigljngiemdeaaGreat
namespace Go.Proofs.YtcigljngiemdeaaGreat
open Go.RowKit
theorem atoms_take {w : World} {lo hi n c k : Nat} {A : Option Addr} {xs : List At} (h : IsAtoms w lo hi A n c xs) (hk : k ≤ n) : IsAtoms w lo hi A k c (xs.take k) := by
  obtain ⟨h1, h2, h3, h4⟩ := h; refine ⟨by rw [List.length_take]; omega, by omega, h3, fun h0 => ?_⟩; obtain ⟨p, e, a, b, f⟩ := h4 qaa; refine ⟨p, e, a, b, fun i x hx => f i x ?_⟩; rw [List.getElem?_take] at hx; by_cases hi : i < k
  · rwa [if_pos hi] at hx
  · rw [if_neg hi] at hx; cases hx
theorem row_more {w3 w4 : World} {B M S n k d cap g' : Nat} {v : Value} {rs : List Rf} {xs : List At} {nm : ByteArray} {A' : Option Addr} {ts : List Tm} {o : Obj}
    (hB : B ≤ M) (hM : M ≤ S) (hS : S ≤ w3.heap.size) (hl : rs.length = n) (hm : rs.map rAt = xs) (h3 : w3.ownsRow M 49 2 v n (rcells rs)) (hv : ∀ g, v.ownBlock = some g → g < S) (hR : RefsIn w3 B M rs)
    (hs : nm.size ≤ maxLen) (hT : IsTerms w3 S w3.heap.size A' k d ts)
    (hown : w4.ownsRow M 49 2 (.slice (some ⟨g', 0, none⟩) (n + 1) cap) (n + 1) (rcells rs ++ [.string nm, .slice A' k d])) (hg : (w3.alloc o).grownBy w4 v.ownBlock) :
    IsAtoms w4 B w4.heap.size (some ⟨g', 0, none⟩) (n + 1) cap (xs ++ [(nm, ts)]) := by
  have hlow : ∀ g, v.ownBlock = some g → M ≤ g := fun g hgg => (h3.lt g hgg).1; have hz : w3.heap.size ≤ w4.heap.size := by have := hg.size; simp at this; omega
  have hc : ∀ q : Addr, q.block < w3.heap.size → (∀ g, v.ownBlock = some g → q.block ≠ g) → w4.cell? q = w3.cell? q := fun q hq hne =>
    (hg.cell_far _ qaf (fun e => hne _ e.symm rfl)).trans ((below1 w3 o).cell hq)
  have hr : RefsIn w4 B w4.heap.size (rs ++ [(nm, A', k, d, ts)]) := by
    intro r hr; rcases List.mem_append.1 hr with h1 | h1
    · exact ⟨(hR r h1).1, (hR r h1).2.keep (fun q _ h2 => hc q qaa (fun g e => by have := hlow g e; omega)) (nl _) qaa⟩
    · rw [List.mem_singleton.1 h1]
      exact ⟨hs, hT.keep (fun q h2 h3' => hc q h3' (fun g e => by have := hv g e; omega)) qaa hz⟩
  have e : rcells rs ++ [.string nm, .slice A' k d] = rcells (rs ++ [(nm, A', k, d, ts)]) := by rw [rcells_app]; rfl
  rw [e] at hown; obtain ⟨A, c, he, hI⟩ := refs_own hown (by simp [hl]) hB hr (nl _); injection he with e1 _ e2; subst e1; subst e2; have := hI.atoms; rw [List.map_append, hm] at this; exact this
theorem two_terms (W : World) (x y : ByteArray) (hx : x.size ≤ maxLen) (hy : y.size ≤ maxLen) : IsTerms (W.alloc (.cells #[.bool false, .string x, .bool false, .string y] 59)) W.heap.size (W.heap.size + 1) (some ⟨W.heap.size, 0, none⟩) 2 2 [(false, x), (false, y)] := by
  refine ⟨rfl, nl _, by unfold maxLen; omega, fun _ => ⟨_, rfl, nl _, Nat.lt_succ_self _, fun i t ht => ?_⟩⟩
  match i, ht with
  | 0, ht => injection ht with ht; subst ht; exact ⟨by simp [go_sem, Addr.add], by simp [go_sem, Addr.add], hx⟩
  | 1, ht => injection ht with ht; subst ht; exact ⟨by simp [go_sem, Addr.add], by simp [go_sem, Addr.add], hy⟩
  | i + 2, ht => simp at ht
def AnyFacts (s : Nat) (b : Nat) (A : Option Addr) (n c p : Nat) (w : World) (e : Ending) (w' : World) : Prop :=
  ∃ (A' : Option Addr) (k d : Nat) (xs : List At) (p' : Nat), (e = .returned (.slice A' k d) ∧ k ≤ 41 ∧ p' ≤ p + s) ∧ IsAtoms w' w.heap.size w'.heap.size A' k d xs ∧ Rd w' b A n c p' ∧ w.grownBy w' (some b)
theorem facts_draw9 (b : Nat) (A : Option Addr) (n c p : Nat) (w : World) (h : Rd w b A n c p) (hp : p ≤ 800000) :
    Calls Tryz.prog 63 #[.pointer (some ⟨b, 0, none⟩), .int .i64 9] w (FactsRow 9 73 b A n c p w) := facts_draw b A n c p 9 w h hp qaa
theorem grownWide {a b c : World} {row : Option Nat} {r : Nat} (h : a.grownBy b (some r)) (k : b.grownBy c row) (hr : ∀ g, row = some g → a.heap.size ≤ g) : a.grownBy c (some r) :=
  ⟨k.os.trans h.os, k.tape.trans h.tape, k.output.trans h.output, Nat.le_trans h.size k.size, fun i hi hne => (k.block i (Nat.lt_of_lt_of_le hi h.size) (fun e => by have := hr i e.symm; omega)).trans (h.block i hi hne)⟩
theorem any_facts_draw (b : Nat) (A : Option Addr) (n c p : Nat) (w : World) (h : Rd w b A n c p) (hp : p ≤ 700000) :
    Calls Tryz.prog 59 #[.pointer (some ⟨b, 0, none⟩)] w (AnyFacts 120 b A n c p w) := by
  have H := hid h; clear h; have hbw : b < w.heap.size := H.out.1; obtain ⟨i0, hi, hz, hsz, hby⟩ := info_parts Tryz.infoAt; go_enter Tryz.func59, Tryz.ntmps59; go_wp2_with fail; refine (facts_draw9 b A n c p _ H.out qaa).mono ?_; rintro e w1 ⟨v, xs, p1, ⟨rfl, hk, hp1⟩, hrow, hris, hsm, hrd, hg1⟩; have HRW := hid hrow; have HRS := hid hris; have R1 := hid hrd; have G1 := hid hg1; have hs1 := hg1.size; clear hrow hris hsm hrd hg1; go_wp2_with fail; refine (pick_any b A n c p1 _ _ R1.out qaa qaa).mono ?_; rintro e w2 ⟨kk, ⟨rfl, hkk⟩, hr2, hg2⟩
  have HRW2 := hid (HRW.out.grown hg2 hbw); have R2 := hid hr2; have G2 := hid (grownTrans G1.out hg2); have hs2 := hg2.size; clear hr2 hg2 HRW G1 R1; obtain ⟨Av, cv, rfl, -⟩ := HRW2.out.atoms; by_cases k0 : kk = 0
  · subst k0
    obtain ⟨n0, M, rs, ⟨m1, m2⟩, hl, hm, hown, href⟩ := HRW2.out; have hn0 : n0 = xs.length := by rw [← hm, List.length_map, hl]
    subst hn0; have HO2 := hid hown; have HF2 := hid href; clear hown href; go_wp2_with fail; refine (any_atom_draw b A n c (p1 + 1) w2 R2.out qaa).mono ?_; rintro e w3 ⟨nm, A', k, d, ts, p', ⟨rfl, hnm, hk', hp'⟩, hlen, hs', hown3, hr3, hg3⟩; obtain ⟨A4, c4, e4, hT⟩ := owned_terms hown3 hlen hs'; injection e4 with e4 _ e5; subst e4; subst e5; have hs3 := hg3.size; have HR3 := hid (HO2.out.kept hg3 (ownNe HO2.out qaa)); have HF3 := hid (HF2.out.keep (W' := w3) (fun q hq hq' => hg3.cell_far _ (Nat.lt_of_lt_of_le hq' m2) qaw) (nl _) (nl _)); have HT := hid hT; have R3 := hid hr3; have G3 := hid (grownTrans G2.out hg3)
    have hnm' : nm.size ≤ maxLen := qac; clear hT hr3 hg3 hown3; go_wp2_with (at_builtin; refine wpList_append_own _ rfl _ _ 28 rfl M 49 i0 _ 2 40 Tryz.underlying28 hi hz hsz hby rfl qal _ _ _ rfl (HR3.out.alloc _) ⟨w3.heap.size, 0, none⟩ 1 1 [.string nm, .slice A' k d] rfl rfl (two_new _ _ _ _) qai qac qaa qaf ?_; intro v' w4 hown' hgrow' _; obtain ⟨g', cap', rfl⟩ := ownsRow_succ hown'; have hown := hid hown'; have hgrow := hid hgrow'; clear hown' hgrow'); have hlow : ∀ g, (Value.slice Av xs.length cv).ownBlock = some g → M ≤ g ∧ g < w2.heap.size := fun g hg => HO2.out.lt g hg
    go_ret; refine ⟨_, _, _, _, p', ⟨rfl, by omega, by omega⟩, row_more m1 m2 hs3 hl hm HR3.out (fun g hg => (hlow g hg).2) HF3.out hnm' HT.out hown.out hgrow.out, ?_, ?_⟩
    · exact (R3.out.below (below1 _ _)).grown hgrow.out qdc
    · exact grownWide (grownTrans G3.out (grownBelow (below1 _ _) (some b))) hgrow.out qdc
  · by_cases k1 : kk = 1
    · subst k1
      obtain ⟨n0, M, rs, ⟨m1, m2⟩, hl, hm, hown, href⟩ := HRW2.out; have hn0 : n0 = xs.length := by rw [← hm, List.length_map, hl]
      subst hn0; have HO2 := hid hown; have HF2 := hid href; clear hown href; go_wp2_with fail; refine (fact_draw b A n c (p1 + 1) w2 R2.out qaa).mono ?_; rintro e w3 ⟨nm, A', k, d, ts, p', ⟨rfl, hnm, hk', hp'⟩, hlen, hs', hown3, hr3, hg3⟩; obtain ⟨A4, c4, e4, hT⟩ := owned_terms hown3 hlen hs'; injection e4 with e4 _ e5; subst e4; subst e5; have hs3 := hg3.size; have HR3 := hid (HO2.out.kept hg3 (ownNe HO2.out qaa)); have HF3 := hid (HF2.out.keep (W' := w3) (fun q hq hq' => hg3.cell_far _ (Nat.lt_of_lt_of_le hq' m2) qaw) (nl _) (nl _)); have HT := hid hT; have R3 := hid hr3; have G3 := hid (grownTrans G2.out hg3)
      have hnm' : nm.size ≤ maxLen := qac; clear hT hr3 hg3 hown3; go_wp2_with (at_builtin; refine wpList_append_own _ rfl _ _ 28 rfl M 49 i0 _ 2 40 Tryz.underlying28 hi hz hsz hby rfl qal _ _ _ rfl (HR3.out.alloc _) ⟨w3.heap.size, 0, none⟩ 1 1 [.string nm, .slice A' k d] rfl rfl (two_new _ _ _ _) qai qac qaa qaf ?_; intro v' w4 hown' hgrow' _; obtain ⟨g', cap', rfl⟩ := ownsRow_succ hown'; have hown := hid hown'; have hgrow := hid hgrow'; clear hown' hgrow'); have hlow : ∀ g, (Value.slice Av xs.length cv).ownBlock = some g → M ≤ g ∧ g < w2.heap.size := fun g hg => HO2.out.lt g hg
      go_ret; refine ⟨_, _, _, _, p', ⟨rfl, by omega, by omega⟩, row_more m1 m2 hs3 hl hm HR3.out (fun g hg => (hlow g hg).2) HF3.out hnm' HT.out hown.out hgrow.out, ?_, ?_⟩
      · exact (R3.out.below (below1 _ _)).grown hgrow.out qdc
      · exact grownWide (grownTrans G3.out (grownBelow (below1 _ _) (some b))) hgrow.out qdc
    · by_cases k2 : kk = 2
      · subst k2
        go_wp2_with fail; refine (l3Put_row _ xs _ _ 2 2 [(false, ⟨#[97]⟩), (false, ⟨#[98]⟩)] _ w.heap.size qaf (HRW2.out.up (below1 w2 _)) qal ((two_terms w2 ⟨#[97]⟩ ⟨#[98]⟩ qal qal).keep (fun _ _ _ => rfl) qaa qad) HRS.out qaa).mono ?_; rintro e w3 ⟨v', rfl, ho, hb⟩; obtain ⟨A', c', rfl, hI⟩ := ho.atoms; have hl5 := put_len xs (⟨#[112]⟩, [(false, ⟨#[97]⟩), (false, ⟨#[98]⟩)]); have HI := hid hI; have R3 := hid ((R2.out.below (below1 w2 _)).below hb); have G3 := hid (grownTrans (grownTrans G2.out (grownBelow (below1 w2 _) (some b))) (grownBelow hb (some b))); clear ho hI hb; go_wp2; go_ret; exact ⟨_, _, _, _, p1 + 1, ⟨rfl, by omega, by omega⟩, HI.out, R3.out, G3.out⟩
      · by_cases k3 : kk = 3
        · subst k3
          have hs12 := Nat.le_trans hs1 hs2; have hvo : ∀ k : Nat, ({ data := #[118] } ++ { data := #[48 + UInt8.ofNat k] } : ByteArray) = vOf k := fun k => by rw [← vText, UInt8.ofNat_add]; rfl
          go_wp2; go_loopw [4, 5] (fun o i wr => ∃ k : Nat, k ≤ 7 ∧ i = .int .i64 (k : Int) ∧ OwnRow wr w.heap.size (tab (k * 6)) o ∧ Rd wr b A n c (p1 + 1) ∧ w.grownBy wr (some b)) (fun _ i _ => 7 - (intOf i).toNat)
          case atStart => exact ⟨0, by omega, rfl, OwnRow.nil qaf (own_empty w2 49 w.heap.size hs12), R2.out.below (below1 _ _), grownTrans G2.out (grownBelow (below1 _ _) (some b))⟩
          case round =>
            obtain ⟨k, hk7, rfl, ho, hr, hg⟩ := hrel; have HO := hid ho; have HR := hid hr; have HG := hid hg; clear ho hr hg; by_cases hlt : k < 7
            · have hlt7 : (k : Int) < 7 := qaa
              go_wp2; go_loopw [4, 6] (fun o i wr' => ∃ j : Nat, j ≤ 6 ∧ i = .int .i64 (j : Int) ∧ OwnRow wr' w.heap.size (tab (k * 6 + j)) o ∧ Rd wr' b A n c (p1 + 1) ∧ w.grownBy wr' (some b)) (fun _ i _ => 6 - (intOf i).toNat)
              case atStart => exact ⟨0, by omega, rfl, HO.out, HR.out, HG.out⟩
              case round =>
                obtain ⟨j, hj6, rfl, ho, hr, hg⟩ := hrel; have HO2 := hid ho; have HR2 := hid hr; have HG2 := hid hg; clear ho hr hg; by_cases hlt' : j < 6
                · go_wp2_with fail
                  refine (dec_any k qaa _).mono ?_; rintro e w3 ⟨rfl, hb3⟩; have HO3 := hid (HO2.out.up hb3); have HR3 := hid (HR2.out.below hb3); have HG3 := hid (grownTrans HG2.out (grownBelow hb3 (some b))); clear hb3; go_wp2_with fail; refine (dec_any j qaa _).mono ?_; rintro e w4 ⟨rfl, hb4⟩; have HO4 := hid (HO3.out.up hb4); have HR4 := hid (HR3.out.below hb4); have HG4 := hid (grownTrans HG3.out (grownBelow hb4 (some b))); clear hb4; go_wp2_with fail; refine (l3Put_row _ (tab (k * 6 + j)) _ _ 2 2 [(false, vOf k), (false, vOf j)] _ w.heap.size (by have := HG4.out.size; simp; omega) (HO4.out.up (below1 w4 _)) qal ((two_terms w4 (vOf k) (vOf j) (by rw [vOf_size]; decide) (by rw [vOf_size]; decide)).keep (fun _ _ _ => rfl) HG4.out.size qad) (tab_rises _) (by have := tab_len (k * 6 + j); omega)).mono ?_; rintro e w5 ⟨v', rfl, ho, hb⟩
                  have hta : putL (tab (k * 6 + j)) (⟨#[101]⟩, [(false, vOf k), (false, vOf j)]) = tab (k * 6 + (j + 1)) := (tab_at k j hlt').symm; rw [hta] at ho; have HO5 := hid ho; have HR5 := hid ((HR4.out.below (below1 w4 _)).below hb); have HG5 := hid (grownTrans (grownTrans HG4.out (grownBelow (below1 w4 _) (some b))) (grownBelow hb (some b))); clear ho hb hta; go_wp2; go_roundw
                  case rel => exact ⟨j + 1, by omega, by go_num, HO5.out, HR5.out, HG5.out⟩
                  case measure => exact qms
                · go_wp2
                  go_roundw
                  case rel => exact ⟨k + 1, by omega, by go_num, by rw [show (k + 1) * 6 = k * 6 + j by omega]; exact HO2.out, HR2.out, HG2.out⟩
                  case measure => exact qms
            · have hk77 : k = 7 := qaa
              subst hk77; go_wp2_with fail; refine (pick_any b A n c (p1 + 1) _ _ HR.out qaa qaa).mono ?_; rintro e w3 ⟨kp, ⟨rfl, hkp⟩, hr3, hg3⟩; have hkp' : kp < 2 := qaa; obtain ⟨A', c', rfl, hI⟩ := (HO.out.grown hg3 hbw).atoms; have hI2 : IsAtoms w3 w.heap.size w3.heap.size A' 42 c' (tab 42) := by have h42 := tab_all; rwa [show 7 * 6 = 42 from rfl, h42] at hI
              have HI := hid hI2; have HR3 := hid hr3; have HG3 := hid (grownTrans HG.out hg3); clear hI hI2 hr3 hg3; obtain ⟨pA, rfl, -⟩ := HI.out.2.2.2 qaa; have hcap := HI.out.2.1; have hcm := HI.out.2.2.1; unfold maxLen at hcm; have hin : 40 + (kp : Int) ≤ (c' : Int) := qaa; have hin2 : (0 : Int) ≤ 40 + (kp : Int) := qaa; go_wp2; go_ret; exact ⟨_, _, _, _, p1 + 1 + 1, ⟨rfl, by omega, by omega⟩, atoms_take HI.out qaa, HR3.out, HG3.out⟩
        · have hks : kk ≠ 0 ∧ kk ≠ 1 ∧ kk ≠ 2 ∧ kk ≠ 3 := ⟨k0, k1, k2, k3⟩
          obtain ⟨A', c', e', hI⟩ := HRW2.out.atoms; injection e' with e1 _ e2; subst e1; subst e2; have HI := hid hI; clear hI; go_wp2; go_ret; exact ⟨_, _, _, _, p1 + 1, ⟨rfl, by omega, by omega⟩, HI.out, R2.out, G2.out⟩
end Go.Proofs.YtcigljngiemdeaaGreat
namespace Go.Proofs.YtcigljngiemdeaaGreat
open Go.RowKit
theorem below_row {w w1 W : World} {b : Nat} (h : Below w.heap.size w w1) (hg : w1.grownBy W (some b)) (hb : w.heap.size ≤ b) : Below w.heap.size w W := h.grown hg h.size (fun k hk => by injection hk with hk; omega)
end Go.Proofs.YtcigljngiemdeaaGreat

namespace Go.Proofs.YtcigljngiemdeaaGreat
open Go.RowKit
def AnyBody (b : Nat) (w : World) (e : Ending) (w' : World) : Prop :=
  ∃ (B : Option Addr) (k d : Nat) (xs : List Pt), (e = .returned (.slice B k d) ∧ k ≤ 5) ∧ IsParts w' 0 w'.heap.size B k d xs ∧ w.grownBy w' (some b)
theorem DP.told {b n c p : Nat} {A : Option Addr} {w W3 W : World} {B : Option Addr} {m d : Nat} {ps : List Pf} (h : DP b A n c W3 p W (.slice B m d) ps) (hm : ps.length = m) (hg : w.grownBy W3 (some b)) : IsParts W 0 W.heap.size B m d (ps.map pAt) ∧ w.grownBy W (some b) := by
  subst hm; obtain ⟨B', d', e, hT⟩ := ty_parts h.row rfl h.hd; injection e with e1 _ e2; subst e1; subst e2; exact ⟨hT.parts.keep PartE.stays (fun _ _ _ => rfl) (Nat.zero_le _) (nl _), grownTrans hg h.gr⟩
theorem anyBody_draw (b : Nat) (A : Option Addr) (n c p : Nat) (w : World) (h : Rd w b A n c p) (hp : p ≤ 800000) :
    Calls Tryz.prog 65 #[.pointer (some ⟨b, 0, none⟩)] w (AnyBody b w) := by
  obtain ⟨i0, hi, hz, hsz, hby⟩ := info_parts Tryz.infoPart; have HI := hid hi; have HZ := hid hz; have HSZ := hid hsz; have HYY := hid hby; clear hi hz hsz hby; have hbw : b < w.heap.size := h.1; have HS3 := hid (laid nmB w #[.string ⟨#[101]⟩, .string ⟨#[112]⟩, .string ⟨#[116]⟩, .string ⟨#[113]⟩, .string ⟨#[114]⟩, .string ⟨#[122]⟩, .string ⟨#[101]⟩] 9 qab); have R3 := hid (h.below (below1 w (.cells #[.string ⟨#[101]⟩, .string ⟨#[112]⟩, .string ⟨#[116]⟩, .string ⟨#[113]⟩, .string ⟨#[114]⟩, .string ⟨#[122]⟩, .string ⟨#[101]⟩] 9))); have G3 := hid (grownBelow (below1 w (.cells #[.string ⟨#[101]⟩, .string ⟨#[112]⟩, .string ⟨#[116]⟩, .string ⟨#[113]⟩, .string ⟨#[114]⟩, .string ⟨#[122]⟩, .string ⟨#[101]⟩] 9)) (some b))
  have hz3 : w.heap.size < (w.alloc (.cells #[.string ⟨#[101]⟩, .string ⟨#[112]⟩, .string ⟨#[116]⟩, .string ⟨#[113]⟩, .string ⟨#[114]⟩, .string ⟨#[122]⟩, .string ⟨#[101]⟩] 9)).heap.size := qad; clear h; go_enter Tryz.func65, Tryz.ntmps65; go_wp2_with fail; obtain ⟨W3, hW3⟩ : ∃ W3, (w.alloc (.cells #[.string ⟨#[101]⟩, .string ⟨#[112]⟩, .string ⟨#[116]⟩, .string ⟨#[113]⟩, .string ⟨#[114]⟩, .string ⟨#[122]⟩, .string ⟨#[101]⟩] 9)) = W3 := ⟨_, rfl⟩; rw [hW3] at HS3 R3 G3 hz3 ⊢; clear hW3; refine (body_draw_w b w.heap.size 7 A n c p _ R3.out qaa qaa qaa qaa HS3.out).mono ?_; rintro e w4 ⟨v4, ps, p4, rfl, hl4, hp4, hDP, hQ4, h04⟩
  obtain ⟨B4, d4, hv4, _⟩ := ty_parts hDP.row rfl hDP.hd; subst hv4; obtain ⟨m4, hm4⟩ : ∃ m4, ps.length = m4 := ⟨_, rfl⟩; have HDP := hid hDP; rw [hm4] at HDP hl4 h04 ⊢; have HM4 := hid hm4; have hbW : b < W3.heap.size := qaa; clear hDP hQ4 hm4 R3 HS3; go_wp2_with fail; refine (pick_any b A n c p4 12 _ HDP.out.rd qaa qaa).mono ?_; rintro e w5 ⟨kk, ⟨rfl, hkk⟩, hr5, hg5⟩; have D5 := hid (HDP.out.step hbW hg5 hr5); clear hr5 hg5 HDP hkk; by_cases k0 : kk = 0
  · subst k0
    go_wp2; go_ret; have hE : DP b A n c W3 (p4 + 1) (w5.alloc (.cells #[] 52)) (.slice (some ⟨w5.heap.size, 0, none⟩) 0 0) [] := ⟨own_empty3 w5 _ _ D5.out.gr.size, fun q hq => absurd hq List.not_mem_nil, D5.out.rd.below (below1 _ _), grownTrans D5.out.gr (grownBelow (below1 _ _) (some b))⟩; obtain ⟨h1, h2⟩ := hE.told rfl G3.out; exact ⟨_, 0, 0, [], ⟨rfl, by omega⟩, h1, h2⟩
  · have k0I : ¬ (kk : Int) = 0 := qaa
    by_cases k1 : kk = 1
    · subst k1
      go_wp2_with fail; refine (any_atom_draw b A n c _ w5 D5.out.rd qaa).mono ?_; rintro e w6 ⟨nm, A', k, d', ts, p6, ⟨rfl, hnm, hk, hp6⟩, hlen, hs6, hown6, hrd6, hg6⟩; have hz5 := D5.out.gr.size; have HH := hid ((head_drawn hnm hlen hs6 hown6).keep (w' := w6) (lo' := W3.heap.size) (hi' := w6.heap.size) (fun _ _ _ => rfl) hz5 (nl _)); have D6 := hid (D5.out.step hbW hg6 hrd6); have hz6 := D6.out.gr.size; have HRW : Hid (w6.ownsRow W3.heap.size 52 3 (.slice B4 m4 d4) m4 (pfcells ps)) := hid (by have := D6.out.row; rw [HM4.out] at this; exact this); clear hlen hs6 hown6 hrd6 hg6 hnm
      go_wp2_with (at_builtin; refine wpList_append_own _ rfl _ _ 30 rfl W3.heap.size 52 i0 _ 3 48 Tryz.underlying30 HI.out HZ.out HSZ.out HYY.out rfl qal _ _ _ rfl (HRW.out.alloc _) ⟨w6.heap.size, 0, none⟩ 1 1 [.bool true, .string nm, .slice A' k d'] rfl rfl (three_new _ _ _ _ _) qai qac qaa qaf ?_; intro v' w9 hown' hgrow' _; obtain ⟨g', cap', rfl⟩ := ownsRow_succ hown'; have hown := hid hown'; have hgrow := hid hgrow'; clear hown' hgrow'); have hM := DP.more (q := (true, nm, A', k, d', ts)) (v' := .slice (some ⟨g', 0, none⟩) (m4 + 1) cap') D6.out hbW HH.out (by rw [HM4.out]; exact hown.out) hgrow.out
      obtain ⟨h1, h2⟩ := hM.told (m := m4 + 1) (by rw [List.length_append, HM4.out]; rfl) G3.out; go_wp2; go_ret; exact ⟨_, m4 + 1, cap', _, ⟨rfl, by omega⟩, h1, h2⟩
    · have k1I : ¬ (kk : Int) = 1 := qaa
      by_cases k2 : kk = 2
      · subst k2
        clear k0 k0I k1 k1I; go_wp2_with fail; go_loopw [3] (fun o wr => ∃ (B : Option Addr) (L d : Nat) (qs : List Pf) (p2 : Nat), o = .slice B L d ∧ qs.length = L ∧ 0 < L ∧ L ≤ 5 ∧ p2 ≤ p4 + 1 + L ∧ DP b A n c W3 p2 wr (.slice B L d) qs) (fun o _ => match o with | .slice _ L _ => 10 - L | _ => 0)
        case atStart => exact ⟨B4, m4, d4, ps, _, rfl, HM4.out, h04, by omega, by omega, D5.out⟩
        case round =>
          obtain ⟨B, L, d, qs, p2, rfl, hL, hL0, hL5, hp2, hD⟩ := hrel; have HL := hid hL; have HD := hid hD; clear hL hD D5 HM4; go_wp2_with fail; refine (pick_any b A n c p2 2 _ HD.out.rd qaa qaa).mono ?_; rintro e w6 ⟨kk, ⟨rfl, hkk⟩, hr6, hg6⟩; have HD6 := hid (HD.out.step hbW hg6 hr6); have hz6 := HD6.out.gr.size; have hkk' : kk < 2 := qaa; clear hr6 hg6 hkk HD; have hw4 : IntKind.i64.wrap (4 + (kk : Int)) = 4 + (kk : Int) := qbj; by_cases hlt : L < 4 + kk
          · have hltI : (L : Int) < 4 + (kk : Int) := qaa
            have hL0I : (0 : Int) < (L : Int) := qaa
            obtain ⟨q, r, hqr⟩ : ∃ q r, qs = q :: r := by
              cases qs with
              | nil => exact absurd HL.out qaf
              | cons q r => exact ⟨q, r, rfl⟩
            have HRW : Hid (w6.ownsRow W3.heap.size 52 3 (.slice B L d) L (pfcells qs)) := hid (by have := HD6.out.row; rw [HL.out] at this; exact this)
            obtain ⟨g, rfl⟩ : ∃ g, B = some ⟨g, 0, none⟩ := by
              rcases HRW.out.2 with ⟨e, h0⟩ | ⟨g, cap, cur, e, _⟩
              · omega
              · injection e with e _ _; exact ⟨g, e⟩
            have src := srcRow HRW.out (by rw [pcells_len, HL.out]); have a0 : ∀ j, (⟨g, 0, none⟩ : Addr).add j = ⟨g, j, none⟩ := fun j => by unfold Addr.add; split <;> simp_all
            have e0 : w6.cell? ⟨g, 0, none⟩ = some (.bool q.1) := by have := src.2.1 _ rfl 0 (.bool q.1) (by rw [hqr]; rfl); rwa [a0] at this
            have e1 : w6.cell? ⟨g, 1, none⟩ = some (.string q.2.1) := by have := src.2.1 _ rfl 1 (.string q.2.1) (by rw [hqr]; rfl); rwa [a0] at this
            have e2 : w6.cell? ⟨g, 2, none⟩ = some (.slice q.2.2.1 q.2.2.2.1 q.2.2.2.2.1) := by have := src.2.1 _ rfl 2 (.slice q.2.2.1 q.2.2.2.1 q.2.2.2.2.1) (by rw [hqr]; rfl); rwa [a0] at this
            have HH := hid (HD6.out.hd q (by rw [hqr]; simp)); have aa := a0 0; clear src a0 hqr; go_wp2_with (at_builtin; refine wpList_append_own _ rfl _ _ 30 rfl W3.heap.size 52 i0 _ 3 48 Tryz.underlying30 HI.out HZ.out HSZ.out HYY.out rfl qal _ _ _ rfl (HRW.out.alloc _) ⟨w6.heap.size, 0, none⟩ 1 1 [.bool q.1, .string q.2.1, .slice q.2.2.1 q.2.2.2.1 q.2.2.2.2.1] rfl rfl (three_new _ _ _ _ _) qai qac qaa qaf ?_; intro v' w9 hown' hgrow' _; obtain ⟨g', cap', rfl⟩ := ownsRow_succ hown'; have hown := hid hown'; have hgrow := hid hgrow'; clear hown' hgrow')
            have hM := DP.more (q := q) (v' := .slice (some ⟨g', 0, none⟩) (L + 1) cap') HD6.out hbW HH.out (by rw [HL.out]; exact hown.out) hgrow.out; refine ⟨⟨_, L + 1, _, _, p2 + 1, rfl, by rw [List.length_append, HL.out]; rfl, by omega, by omega, by omega, hM⟩, ?_⟩; show 10 - (L + 1) < 10 - L; omega
          · have hltI : ¬ (L : Int) < 4 + (kk : Int) := qaa
            obtain ⟨h1, h2⟩ := HD6.out.told HL.out G3.out; go_wp2; go_ret; exact ⟨B, L, d, _, ⟨rfl, hL5⟩, h1, h2⟩
      · have k2I : ¬ (kk : Int) = 2 := qaa
        obtain ⟨h1, h2⟩ := D5.out.told HM4.out G3.out; go_wp2; go_ret; exact ⟨B4, m4, d4, _, ⟨rfl, by omega⟩, h1, h2⟩
theorem rd_not {V : World} {b n c p : Nat} {A : Option Addr} (hr : Rd V b A n c p) {q : Addr} {u : Value} (h : V.cell? q = some u) (hu : ∀ A n c, u ≠ .slice A n c) (hi : ∀ k : Int, u ≠ .int .i64 k) : q.block ≠ b := by
  intro e; obtain ⟨_, _, _, _, _, T, hb⟩ := hr; obtain ⟨qb, qo, qs⟩ := q; simp only at e; subst e
  cases qs with
  | some s =>
    have hno : V.cell? ⟨qb, qo, some s⟩ = none := by unfold World.cell?; split <;> simp
    rw [hno] at h; cases h
  | none =>
    rw [(show Blk V qb T _ from hb).cell] at h
    match qo, h with
    | 0, h => simp at h; exact hu _ _ _ h.symm
    | 1, h => simp at h; exact hi _ h.symm
    | k + 2, h => simp at h
section
variable {V W : World} {b n c n1 c1 p : Nat} {A A1 : Option Addr}
theorem rd_keep (hr : Rd V b A1 n1 c1 p) (hg : V.grownBy W (some b)) {q : Addr} {u : Value} (hlt : q.block < V.heap.size) (h : V.cell? q = some u) (hu : ∀ A n c, u ≠ .slice A n c) (hi : ∀ k : Int, u ≠ .int .i64 k) : W.cell? q = some u :=
  (hg.cell_far _ hlt (fun e => by injection e with e; exact rd_not hr h hu hi e)).trans h
theorem IsTerms.byRd {ts : List Tm} (h : IsTerms V 0 V.heap.size A n c ts) (hr : Rd V b A1 n1 c1 p) (hg : V.grownBy W (some b)) : IsTerms W 0 W.heap.size A n c ts := by
  obtain ⟨a, b', d, e⟩ := h; refine ⟨a, b', d, fun hn => ?_⟩; obtain ⟨p', hp, h1, h2, h3⟩ := e hn; refine ⟨p', hp, h1, Nat.lt_of_lt_of_le h2 hg.size, fun i t ht => ?_⟩; obtain ⟨e1, e2, e3⟩ := h3 i t ht; exact ⟨rd_keep hr hg (by rw [block_add]; exact h2) e1 qbt (fun _ h => by cases h), rd_keep hr hg (by rw [block_add]; exact h2) e2 qbt (fun _ h => by cases h), e3⟩
theorem IsAtoms.byRd {xs : List At} (h : IsAtoms V 0 V.heap.size A n c xs) (hr : Rd V b A1 n1 c1 p) (hg : V.grownBy W (some b)) : IsAtoms W 0 W.heap.size A n c xs := by
  obtain ⟨a, b', d, e⟩ := h; refine ⟨a, b', d, fun hn => ?_⟩; obtain ⟨p', hp, h1, h2, h3⟩ := e hn; refine ⟨p', hp, h1, Nat.lt_of_lt_of_le h2 hg.size, fun i x hx => ?_⟩; obtain ⟨e1, e2, B, m, f, e3, e4⟩ := h3 i x hx; have hb2 : (p'.add (i * 2)).block < V.heap.size := by rw [block_add]; exact h2
  have hne := rd_not hr e1 qbt (fun _ h => by cases h); have hnb : (nextTo (p'.add (i * 2)) 1).block = (p'.add (i * 2)).block := rfl; exact ⟨rd_keep hr hg hb2 e1 qbt (fun _ h => by cases h), e2, B, m, f, (hg.cell_far _ (by rw [hnb]; exact hb2) (fun e => by injection e with e; exact hne (by rw [← hnb]; exact e))).trans e3, e4.byRd hr hg⟩
end
def DrawnAskL (w : World) (e : Ending) (w' : World) : Prop :=
  ∃ (A : Option Addr) (k d : Nat) (xs : List At) (B : Option Addr) (m f : Nat) (ps : List Pt), (e = .returned (.tuple #[.slice A k d, .slice B m f]) ∧ m ≤ 5) ∧ IsAtoms w' 0 w'.heap.size A k d xs ∧ IsParts w' 0 w'.heap.size B m f ps ∧ Below w.heap.size w w'
theorem drawAskL_any (A : Option Addr) (n c : Nat) (w : World) (h : IsBytes w w.heap.size A n c) :
    Calls Tryz.prog 22 #[.slice A n c] w (DrawnAskL w) := by
  obtain ⟨i0, hi, hz, hsz, hby⟩ := info_parts Tryz.infoAt; have HI := hid hi; have HZ := hid hz; have HSZ := hid hsz; have HYY := hid hby; clear hi hz hsz hby; go_enter Tryz.func22, Tryz.ntmps22; go_wp2_with fail; refine (open_any A n c _ h).mono ?_; rintro e w1 ⟨b, n', ⟨rfl, hb⟩, hr, hb1⟩; have HB1 := hid hb1; have R1 := hid hr; clear hb1 hr h; go_wp2_with fail; refine (any_facts_draw b A n' c 0 w1 R1.out qaa).mono ?_; rintro e w2 ⟨L, k, d, xs, p2, ⟨rfl, hk, hp2⟩, hI, hr2, hg2⟩; have HI2 := hid (hI.low); have R2 := hid hr2; have HB2 := hid (below_row HB1.out hg2 hb)
  clear hI hr2 hg2; go_wp2_with fail; refine (pick_any b A n' c p2 2 _ R2.out qaa qaa).mono ?_; rintro e w3 ⟨kk, ⟨rfl, hkk⟩, hr3, hg3⟩; have HI3 := hid (HI2.out.byRd R2.out hg3); have R3 := hid hr3; have HB3 := hid (below_row HB2.out hg3 hb); clear hr3 hg3 HI2 R2 HB2 HB1 R1 hkk; by_cases k0 : kk = 0
  · subst k0
    go_wp2_with fail; refine (rules_draw b A n' c (p2 + 1) w3 R3.out qaa).mono ?_; rintro e w4 ⟨B4, k4, d4, rs, p4, rfl, hl4, hk4, hp4, hDR, _⟩; obtain ⟨B, d5, e4, hRl⟩ := ty_rules hDR.row rfl hDR.ty; rw [hl4] at hRl e4; injection e4 with e4 _ e5; subst e4 e5; have hbw3 : b < w3.heap.size := R3.out.1; have HRl := hid hRl; have R4 := hid hDR.rd; have HI4 := hid (HI3.out.byRd R3.out hDR.gr); have HB4 := hid (below_row HB3.out hDR.gr hb); clear hDR hRl R3 HI3 HB3 hl4; go_wp2_with fail; refine (facts_draw b A n' c p4 10 w4 R4.out qaa qaa).mono ?_; rintro e w5 ⟨v5, xs5, p5, ⟨rfl, hl5, hp5⟩, hO5, hri5, hq5, hr5, hg5⟩
    obtain ⟨A5, c5, rfl, hI5⟩ := hO5.atoms; obtain ⟨l5, hl5'⟩ : ∃ l5, xs5.length = l5 := ⟨_, rfl⟩; rw [hl5'] at hI5 ⊢; have HRl5 := hid (HRl.out.keep (w' := w5) (lo' := 0) (hi' := w5.heap.size) RuleE.stays (fun q h1 h2 => hg5.cell_far _ h2 qaw) (Nat.zero_le _) hg5.size); have HI5 := hid (HI4.out.byRd R4.out hg5); have R5 := hid hr5; have HB5 := hid (below_row HB4.out hg5 hb); have HX5 := hid hI5.low; clear hO5 hri5 hq5 hr5 hg5 hI5 hl5 hl5' HRl R4 HI4 HB4; go_wp2_with fail; refine (specEval_any _ _ _ _ _ _ _ _ w5 HRl5.out HX5.out).mono ?_; rintro e w6 ⟨C6, l6, c6, rfl, hI6, hb6⟩; obtain ⟨⟨x1, x2⟩, hX⟩ : ∃ X, evalL (rs.map rRl) xs5 = X := ⟨_, rfl⟩
    rw [hX] at hI6 ⊢; have HI6 := hid (HI5.out.up AtomE.stays hb6); have HE6 := hid hI6; have R6 := hid (R5.out.below hb6); have HB6 := hid (belowThen HB5.out hb6); clear hI6 hb6 hX HRl5 HX5 HI5 R5 HB5; simp only; cases x2
    · have HI7 : Hid (∃ ys, IsAtoms w6 0 w6.heap.size L k d ys) := hid ⟨_, HI6.out⟩
      have R7 : Hid (∃ p7, p7 ≤ 1000 ∧ Rd w6 b A n' c p7) := hid ⟨_, by omega, R6.out⟩; have HB7 := HB6; clear HI6 HE6 R6 HB6; go_wp2_with fail; obtain ⟨p7, hp7, hr7⟩ := R7.out; obtain ⟨ys, hI7⟩ := HI7.out; have RX := hid hr7; have HX := hid hI7; clear hr7 hI7 R7 HI7; refine (pick_any b A n' c p7 3 _ RX.out qaa qaa).mono ?_; rintro e w8 ⟨k8, ⟨rfl, hk8⟩, hr8, hg8⟩; have HI8 := hid (HX.out.byRd RX.out hg8); have R8 := hid hr8; have HB8 := hid (below_row HB7.out hg8 hb); clear hr8 hg8 RX HX HB7 hk8; by_cases k80 : k8 = 0
      · subst k80
        go_wp2_with fail; refine (anyBody_draw b A n' c (p7 + 1) w8 R8.out qaa).mono ?_; rintro e w9 ⟨B9, k9, d9, ps, ⟨rfl, hk9⟩, hP, hg9⟩; have HI9 := hid (HI8.out.byRd R8.out hg9); have HP9 := hid hP; have HB9 := hid (below_row HB8.out hg9 hb); clear hP hg9 HI8 R8 HB8; go_wp2; refine bodyPost_ret (v := .tuple #[_, .slice B9 k9 d9]) qao rfl ⟨_, _, _, ys, B9, k9, d9, ps, ⟨rfl, hk9⟩, HI9.out, HP9.out, HB9.out⟩
      · have hk80 : (k8 : Int) > 0 := qaa
        have hbl := below1 w8 (.cells #[] 49); have hd0 := own_empty w8 49 w8.heap.size (nl _); have hz8 : (w8.alloc (.cells #[] 49)).heap.size = w8.heap.size + 1 := qad; have HD0 := hid hd0; have HZ8 := hid hz8; have HBL := hid hbl; have hb8 : b < w8.heap.size := R8.out.1; clear k80 hd0 hz8 hbl; go_wp2_with fail; refine (facts_draw b A n' c (p7 + 1) 16 _ (R8.out.below HBL.out) qaa qaa).mono ?_; rintro e w9 ⟨v9, xs9, p9, ⟨rfl, hl9, hp9⟩, ⟨n9, M, rs9, ⟨hM1, hM2⟩, hn9, hm9, hrow9, href9⟩, hri9, hq9, hr9, hg9⟩
        rw [HZ8.out] at hM1; have HD9 := hid (World.ownsRow.kept HD0.out hg9 (.inr qbx)); have R9 := hid hr9; have HB9 := hid (below_row (belowThen HB8.out HBL.out) hg9 hb); have hz08 := HB8.out.size; have hg9s := hg9.size; rw [HZ8.out] at hg9s; have HM9 := hid hm9; have hn16 : n9 ≤ 16 := qcp; have HRF := hid (refs_own hrow9 hn9.symm (Nat.zero_le _) (href9.keep (fun _ _ _ => rfl) (Nat.zero_le _) (nl _)) hM2); have HREF := hid href9; have HN9 := hid hn9; have HROW := hid hrow9.2; clear hri9 hq9 hr9 hg9 hl9 hm9 hrow9 href9 HI8 R8 HB8 hn9
        have key : ∀ v' w', w'.ownsRow w8.heap.size 49 2 v' n9 (rcells rs9) → w9.grownBy w' (some w8.heap.size) → Rd w' b A n' c p9 ∧ (∃ C f, v' = .slice C n9 f ∧ IsAtoms w' 0 w'.heap.size C n9 f xs9) ∧ Below w.heap.size w w' := by
          intro v' w' ho hg; have hz8 := HZ8.out; refine ⟨R9.out.grown hg (fun g e => by injection e with e; omega), ?_, HB9.out.grown hg HB9.out.size (fun k e => by injection e with e; omega)⟩; have hrf' : RefsIn w' 0 w'.heap.size rs9 := HREF.out.keep (fun q h1 h2 => hg.cell_far _ qaa qaw) (Nat.zero_le _) (Nat.le_trans hM2 hg.size); obtain ⟨C, f, e, hI⟩ := refs_own ho HN9.out.symm (Nat.zero_le _) hrf' (nl _); have hI' := hI.atoms; rw [HM9.out] at hI'; exact ⟨C, f, e, hI'⟩
        have KEY := hid key; clear key
        have hlast : ∀ (w10 : World) (C : Option Addr) (f : Nat), Rd w10 b A n' c p9 → IsAtoms w10 0 w10.heap.size C n9 f xs9 → Below w.heap.size w w10 →
            Calls Tryz.prog 64 #[.pointer (some ⟨b, 0, none⟩), .slice (some ⟨w10.heap.size, 0, none⟩) 5 5] (w10.alloc (.cells #[.string ⟨#[101]⟩, .string ⟨#[101]⟩, .string ⟨#[101]⟩, .string ⟨#[112]⟩, .string ⟨#[101]⟩] 9)) fun e w' => ∃ B m d ps, (e = .returned (.slice B m d) ∧ m ≤ 5) ∧ IsAtoms w' 0 w'.heap.size C n9 f xs9 ∧ IsParts w' 0 w'.heap.size B m d ps ∧ Below w.heap.size w w' := by
          intro w10 C f r10 i10 b10; have hl := below1 w10 (.cells #[.string ⟨#[101]⟩, .string ⟨#[101]⟩, .string ⟨#[101]⟩, .string ⟨#[112]⟩, .string ⟨#[101]⟩] 9); have rr := r10.below hl; have hbw : b < w10.heap.size := r10.1; refine (body_draw_w b w10.heap.size 5 A n' c p9 _ rr qaa qaa qaa qaa (laid nmB w10 #[.string ⟨#[101]⟩, .string ⟨#[101]⟩, .string ⟨#[101]⟩, .string ⟨#[112]⟩, .string ⟨#[101]⟩] 9 qab)).mono ?_; rintro e w11 ⟨v11, ps, p11, rfl, hl11, hp11, hDP, hQ11, h011⟩; obtain ⟨B11, d11, hv11, _⟩ := ty_parts hDP.row rfl hDP.hd; subst hv11; obtain ⟨hP, hg⟩ := hDP.told rfl ⟨rfl, rfl, rfl, nl _, fun _ _ _ => rfl⟩
          exact ⟨B11, ps.length, d11, _, ⟨rfl, by omega⟩, IsAtoms.byRd (i10.up AtomE.stays hl) rr hg, hP, below_row (belowThen b10 hl) hg hb⟩
        have HLAST := hid hlast; clear hlast; rcases HROW.out with ⟨hv9, h0⟩ | ⟨g, cap, cur, hv9, _, _, _, _, _, _⟩
        · subst hv9
          have h0' : n9 = 0 := qaa; subst h0'; have hrs : rs9 = [] := List.eq_nil_of_length_eq_zero HN9.out; subst hrs; obtain ⟨r10, ⟨C, f, e, i10⟩, b10⟩ := KEY.out _ _ HD9.out ⟨rfl, rfl, rfl, nl _, fun _ _ _ => rfl⟩; injection e with e1 _ e2; subst e1 e2; have HCL := hid (HLAST.out w9 _ _ r10 i10 b10); clear r10 i10 b10 HRF HREF KEY R9 HB9; go_wp2_with (at_builtin; refine wpList_append_own_none rfl _ _ 28 rfl w8.heap.size 49 i0 2 Tryz.underlying28 HI.out _ 0 [] rfl HD9.out rfl ?_); refine HCL.out.mono ?_; rintro e w11 ⟨B, m, d', ps, ⟨rfl, hm5⟩, h1, h2, h3⟩
          have H1 := hid h1; have H2 := hid h2; have H3 := hid h3; clear h1 h2 h3; go_wp2; refine bodyPost_ret (v := .tuple #[_, .slice B m d']) qao rfl ⟨_, _, _, _, B, m, d', ps, ⟨rfl, hm5⟩, H1.out, H2.out, H3.out⟩
        · subst hv9
          obtain ⟨A9, c9, e9, hrf⟩ := HRF.out; injection e9 with e9 _ e9'; subst e9 e9'; have HC := hid (hrf.cells rfl); clear hrf HRF; go_wp2_with (at_builtin; refine wpList_append_own _ rfl _ _ 28 rfl w8.heap.size 49 i0 _ 2 40 Tryz.underlying28 HI.out HZ.out HSZ.out HYY.out rfl qal _ 0 [] rfl HD9.out ⟨g, 0, none⟩ n9 cap (rcells rs9) rfl (by rw [rcells_len, HN9.out]) HC.out (rcells_one rs9) qac qaa qaa ?_; intro v' w10 hown' hgr' _; rw [Nat.zero_add, List.nil_append] at hown'; obtain ⟨r10, ⟨C, f, rfl, i10⟩, b10⟩ := KEY.out _ _ hown' hgr'; have HCL := hid (HLAST.out w10 _ _ r10 i10 b10); clear r10 i10 b10 hown' hgr')
          refine HCL.out.mono ?_; rintro e w11 ⟨B, m, d', ps, ⟨rfl, hm5⟩, h1, h2, h3⟩; have H1 := hid h1; have H2 := hid h2; have H3 := hid h3; clear h1 h2 h3; go_wp2; refine bodyPost_ret (v := .tuple #[_, .slice B m d']) qao rfl ⟨_, _, _, _, B, m, d', ps, ⟨rfl, hm5⟩, H1.out, H2.out, H3.out⟩
    · have HI7 : Hid (∃ ys, IsAtoms w6 0 w6.heap.size C6 l6 c6 ys) := hid ⟨_, HE6.out⟩
      have R7 : Hid (∃ p7, p7 ≤ 1000 ∧ Rd w6 b A n' c p7) := hid ⟨_, by omega, R6.out⟩; have HB7 := HB6; clear HI6 HE6 R6 HB6; go_wp2_with fail; obtain ⟨p7, hp7, hr7⟩ := R7.out; obtain ⟨ys, hI7⟩ := HI7.out; have RX := hid hr7; have HX := hid hI7; clear hr7 hI7 R7 HI7; refine (pick_any b A n' c p7 3 _ RX.out qaa qaa).mono ?_; rintro e w8 ⟨k8, ⟨rfl, hk8⟩, hr8, hg8⟩; have HI8 := hid (HX.out.byRd RX.out hg8); have R8 := hid hr8; have HB8 := hid (below_row HB7.out hg8 hb); clear hr8 hg8 RX HX HB7 hk8; by_cases k80 : k8 = 0
      · subst k80
        go_wp2_with fail; refine (anyBody_draw b A n' c (p7 + 1) w8 R8.out qaa).mono ?_; rintro e w9 ⟨B9, k9, d9, ps, ⟨rfl, hk9⟩, hP, hg9⟩; have HI9 := hid (HI8.out.byRd R8.out hg9); have HP9 := hid hP; have HB9 := hid (below_row HB8.out hg9 hb); clear hP hg9 HI8 R8 HB8; go_wp2; refine bodyPost_ret (v := .tuple #[_, .slice B9 k9 d9]) qao rfl ⟨_, _, _, ys, B9, k9, d9, ps, ⟨rfl, hk9⟩, HI9.out, HP9.out, HB9.out⟩
      · have hk80 : (k8 : Int) > 0 := qaa
        have hbl := below1 w8 (.cells #[] 49); have hd0 := own_empty w8 49 w8.heap.size (nl _); have hz8 : (w8.alloc (.cells #[] 49)).heap.size = w8.heap.size + 1 := qad; have HD0 := hid hd0; have HZ8 := hid hz8; have HBL := hid hbl; have hb8 : b < w8.heap.size := R8.out.1; clear k80 hd0 hz8 hbl; go_wp2_with fail; refine (facts_draw b A n' c (p7 + 1) 16 _ (R8.out.below HBL.out) qaa qaa).mono ?_; rintro e w9 ⟨v9, xs9, p9, ⟨rfl, hl9, hp9⟩, ⟨n9, M, rs9, ⟨hM1, hM2⟩, hn9, hm9, hrow9, href9⟩, hri9, hq9, hr9, hg9⟩
        rw [HZ8.out] at hM1; have HD9 := hid (World.ownsRow.kept HD0.out hg9 (.inr qbx)); have R9 := hid hr9; have HB9 := hid (below_row (belowThen HB8.out HBL.out) hg9 hb); have hz08 := HB8.out.size; have hg9s := hg9.size; rw [HZ8.out] at hg9s; have HM9 := hid hm9; have hn16 : n9 ≤ 16 := qcp; have HRF := hid (refs_own hrow9 hn9.symm (Nat.zero_le _) (href9.keep (fun _ _ _ => rfl) (Nat.zero_le _) (nl _)) hM2); have HREF := hid href9; have HN9 := hid hn9; have HROW := hid hrow9.2; clear hri9 hq9 hr9 hg9 hl9 hm9 hrow9 href9 HI8 R8 HB8 hn9
        have key : ∀ v' w', w'.ownsRow w8.heap.size 49 2 v' n9 (rcells rs9) → w9.grownBy w' (some w8.heap.size) → Rd w' b A n' c p9 ∧ (∃ C f, v' = .slice C n9 f ∧ IsAtoms w' 0 w'.heap.size C n9 f xs9) ∧ Below w.heap.size w w' := by
          intro v' w' ho hg; have hz8 := HZ8.out; refine ⟨R9.out.grown hg (fun g e => by injection e with e; omega), ?_, HB9.out.grown hg HB9.out.size (fun k e => by injection e with e; omega)⟩; have hrf' : RefsIn w' 0 w'.heap.size rs9 := HREF.out.keep (fun q h1 h2 => hg.cell_far _ qaa qaw) (Nat.zero_le _) (Nat.le_trans hM2 hg.size); obtain ⟨C, f, e, hI⟩ := refs_own ho HN9.out.symm (Nat.zero_le _) hrf' (nl _); have hI' := hI.atoms; rw [HM9.out] at hI'; exact ⟨C, f, e, hI'⟩
        have KEY := hid key; clear key
        have hlast : ∀ (w10 : World) (C : Option Addr) (f : Nat), Rd w10 b A n' c p9 → IsAtoms w10 0 w10.heap.size C n9 f xs9 → Below w.heap.size w w10 →
            Calls Tryz.prog 64 #[.pointer (some ⟨b, 0, none⟩), .slice (some ⟨w10.heap.size, 0, none⟩) 5 5] (w10.alloc (.cells #[.string ⟨#[101]⟩, .string ⟨#[101]⟩, .string ⟨#[101]⟩, .string ⟨#[112]⟩, .string ⟨#[101]⟩] 9)) fun e w' => ∃ B m d ps, (e = .returned (.slice B m d) ∧ m ≤ 5) ∧ IsAtoms w' 0 w'.heap.size C n9 f xs9 ∧ IsParts w' 0 w'.heap.size B m d ps ∧ Below w.heap.size w w' := by
          intro w10 C f r10 i10 b10; have hl := below1 w10 (.cells #[.string ⟨#[101]⟩, .string ⟨#[101]⟩, .string ⟨#[101]⟩, .string ⟨#[112]⟩, .string ⟨#[101]⟩] 9); have rr := r10.below hl; have hbw : b < w10.heap.size := r10.1; refine (body_draw_w b w10.heap.size 5 A n' c p9 _ rr qaa qaa qaa qaa (laid nmB w10 #[.string ⟨#[101]⟩, .string ⟨#[101]⟩, .string ⟨#[101]⟩, .string ⟨#[112]⟩, .string ⟨#[101]⟩] 9 qab)).mono ?_; rintro e w11 ⟨v11, ps, p11, rfl, hl11, hp11, hDP, hQ11, h011⟩; obtain ⟨B11, d11, hv11, _⟩ := ty_parts hDP.row rfl hDP.hd; subst hv11; obtain ⟨hP, hg⟩ := hDP.told rfl ⟨rfl, rfl, rfl, nl _, fun _ _ _ => rfl⟩
          exact ⟨B11, ps.length, d11, _, ⟨rfl, by omega⟩, IsAtoms.byRd (i10.up AtomE.stays hl) rr hg, hP, below_row (belowThen b10 hl) hg hb⟩
        have HLAST := hid hlast; clear hlast; rcases HROW.out with ⟨hv9, h0⟩ | ⟨g, cap, cur, hv9, _, _, _, _, _, _⟩
        · subst hv9
          have h0' : n9 = 0 := qaa; subst h0'; have hrs : rs9 = [] := List.eq_nil_of_length_eq_zero HN9.out; subst hrs; obtain ⟨r10, ⟨C, f, e, i10⟩, b10⟩ := KEY.out _ _ HD9.out ⟨rfl, rfl, rfl, nl _, fun _ _ _ => rfl⟩; injection e with e1 _ e2; subst e1 e2; have HCL := hid (HLAST.out w9 _ _ r10 i10 b10); clear r10 i10 b10 HRF HREF KEY R9 HB9; go_wp2_with (at_builtin; refine wpList_append_own_none rfl _ _ 28 rfl w8.heap.size 49 i0 2 Tryz.underlying28 HI.out _ 0 [] rfl HD9.out rfl ?_); refine HCL.out.mono ?_; rintro e w11 ⟨B, m, d', ps, ⟨rfl, hm5⟩, h1, h2, h3⟩
          have H1 := hid h1; have H2 := hid h2; have H3 := hid h3; clear h1 h2 h3; go_wp2; refine bodyPost_ret (v := .tuple #[_, .slice B m d']) qao rfl ⟨_, _, _, _, B, m, d', ps, ⟨rfl, hm5⟩, H1.out, H2.out, H3.out⟩
        · subst hv9
          obtain ⟨A9, c9, e9, hrf⟩ := HRF.out; injection e9 with e9 _ e9'; subst e9 e9'; have HC := hid (hrf.cells rfl); clear hrf HRF; go_wp2_with (at_builtin; refine wpList_append_own _ rfl _ _ 28 rfl w8.heap.size 49 i0 _ 2 40 Tryz.underlying28 HI.out HZ.out HSZ.out HYY.out rfl qal _ 0 [] rfl HD9.out ⟨g, 0, none⟩ n9 cap (rcells rs9) rfl (by rw [rcells_len, HN9.out]) HC.out (rcells_one rs9) qac qaa qaa ?_; intro v' w10 hown' hgr' _; rw [Nat.zero_add, List.nil_append] at hown'; obtain ⟨r10, ⟨C, f, rfl, i10⟩, b10⟩ := KEY.out _ _ hown' hgr'; have HCL := hid (HLAST.out w10 _ _ r10 i10 b10); clear r10 i10 b10 hown' hgr')
          refine HCL.out.mono ?_; rintro e w11 ⟨B, m, d', ps, ⟨rfl, hm5⟩, h1, h2, h3⟩; have H1 := hid h1; have H2 := hid h2; have H3 := hid h3; clear h1 h2 h3; go_wp2; refine bodyPost_ret (v := .tuple #[_, .slice B m d']) qao rfl ⟨_, _, _, _, B, m, d', ps, ⟨rfl, hm5⟩, H1.out, H2.out, H3.out⟩
  · have k0I : ¬ (kk : Int) = 0 := qaa
    have HI7 : Hid (∃ ys, IsAtoms w3 0 w3.heap.size L k d ys) := hid ⟨_, HI3.out⟩; have R7 : Hid (∃ p7, p7 ≤ 1000 ∧ Rd w3 b A n' c p7) := hid ⟨_, by omega, R3.out⟩; have HB7 := HB3; clear HI3 R3 HB3 k0; go_wp2_with fail; obtain ⟨p7, hp7, hr7⟩ := R7.out; obtain ⟨ys, hI7⟩ := HI7.out; have RX := hid hr7; have HX := hid hI7; clear hr7 hI7 R7 HI7; refine (pick_any b A n' c p7 3 _ RX.out qaa qaa).mono ?_; rintro e w8 ⟨k8, ⟨rfl, hk8⟩, hr8, hg8⟩; have HI8 := hid (HX.out.byRd RX.out hg8); have R8 := hid hr8; have HB8 := hid (below_row HB7.out hg8 hb); clear hr8 hg8 RX HX HB7 hk8; by_cases k80 : k8 = 0
    · subst k80
      go_wp2_with fail; refine (anyBody_draw b A n' c (p7 + 1) w8 R8.out qaa).mono ?_; rintro e w9 ⟨B9, k9, d9, ps, ⟨rfl, hk9⟩, hP, hg9⟩; have HI9 := hid (HI8.out.byRd R8.out hg9); have HP9 := hid hP; have HB9 := hid (below_row HB8.out hg9 hb); clear hP hg9 HI8 R8 HB8; go_wp2; refine bodyPost_ret (v := .tuple #[_, .slice B9 k9 d9]) qao rfl ⟨_, _, _, ys, B9, k9, d9, ps, ⟨rfl, hk9⟩, HI9.out, HP9.out, HB9.out⟩
    · have hk80 : (k8 : Int) > 0 := qaa
      have hbl := below1 w8 (.cells #[] 49); have hd0 := own_empty w8 49 w8.heap.size (nl _); have hz8 : (w8.alloc (.cells #[] 49)).heap.size = w8.heap.size + 1 := qad; have HD0 := hid hd0; have HZ8 := hid hz8; have HBL := hid hbl; have hb8 : b < w8.heap.size := R8.out.1; clear k80 hd0 hz8 hbl; go_wp2_with fail; refine (facts_draw b A n' c (p7 + 1) 16 _ (R8.out.below HBL.out) qaa qaa).mono ?_; rintro e w9 ⟨v9, xs9, p9, ⟨rfl, hl9, hp9⟩, ⟨n9, M, rs9, ⟨hM1, hM2⟩, hn9, hm9, hrow9, href9⟩, hri9, hq9, hr9, hg9⟩
      rw [HZ8.out] at hM1; have HD9 := hid (World.ownsRow.kept HD0.out hg9 (.inr qbx)); have R9 := hid hr9; have HB9 := hid (below_row (belowThen HB8.out HBL.out) hg9 hb); have hz08 := HB8.out.size; have hg9s := hg9.size; rw [HZ8.out] at hg9s; have HM9 := hid hm9; have hn16 : n9 ≤ 16 := qcp; have HRF := hid (refs_own hrow9 hn9.symm (Nat.zero_le _) (href9.keep (fun _ _ _ => rfl) (Nat.zero_le _) (nl _)) hM2); have HREF := hid href9; have HN9 := hid hn9; have HROW := hid hrow9.2; clear hri9 hq9 hr9 hg9 hl9 hm9 hrow9 href9 HI8 R8 HB8 hn9
      have key : ∀ v' w', w'.ownsRow w8.heap.size 49 2 v' n9 (rcells rs9) → w9.grownBy w' (some w8.heap.size) → Rd w' b A n' c p9 ∧ (∃ C f, v' = .slice C n9 f ∧ IsAtoms w' 0 w'.heap.size C n9 f xs9) ∧ Below w.heap.size w w' := by
        intro v' w' ho hg; have hz8 := HZ8.out; refine ⟨R9.out.grown hg (fun g e => by injection e with e; omega), ?_, HB9.out.grown hg HB9.out.size (fun k e => by injection e with e; omega)⟩; have hrf' : RefsIn w' 0 w'.heap.size rs9 := HREF.out.keep (fun q h1 h2 => hg.cell_far _ qaa qaw) (Nat.zero_le _) (Nat.le_trans hM2 hg.size); obtain ⟨C, f, e, hI⟩ := refs_own ho HN9.out.symm (Nat.zero_le _) hrf' (nl _); have hI' := hI.atoms; rw [HM9.out] at hI'; exact ⟨C, f, e, hI'⟩
      have KEY := hid key; clear key
      have hlast : ∀ (w10 : World) (C : Option Addr) (f : Nat), Rd w10 b A n' c p9 → IsAtoms w10 0 w10.heap.size C n9 f xs9 → Below w.heap.size w w10 →
          Calls Tryz.prog 64 #[.pointer (some ⟨b, 0, none⟩), .slice (some ⟨w10.heap.size, 0, none⟩) 5 5] (w10.alloc (.cells #[.string ⟨#[101]⟩, .string ⟨#[101]⟩, .string ⟨#[101]⟩, .string ⟨#[112]⟩, .string ⟨#[101]⟩] 9)) fun e w' => ∃ B m d ps, (e = .returned (.slice B m d) ∧ m ≤ 5) ∧ IsAtoms w' 0 w'.heap.size C n9 f xs9 ∧ IsParts w' 0 w'.heap.size B m d ps ∧ Below w.heap.size w w' := by
        intro w10 C f r10 i10 b10; have hl := below1 w10 (.cells #[.string ⟨#[101]⟩, .string ⟨#[101]⟩, .string ⟨#[101]⟩, .string ⟨#[112]⟩, .string ⟨#[101]⟩] 9); have rr := r10.below hl; have hbw : b < w10.heap.size := r10.1; refine (body_draw_w b w10.heap.size 5 A n' c p9 _ rr qaa qaa qaa qaa (laid nmB w10 #[.string ⟨#[101]⟩, .string ⟨#[101]⟩, .string ⟨#[101]⟩, .string ⟨#[112]⟩, .string ⟨#[101]⟩] 9 qab)).mono ?_; rintro e w11 ⟨v11, ps, p11, rfl, hl11, hp11, hDP, hQ11, h011⟩; obtain ⟨B11, d11, hv11, _⟩ := ty_parts hDP.row rfl hDP.hd; subst hv11; obtain ⟨hP, hg⟩ := hDP.told rfl ⟨rfl, rfl, rfl, nl _, fun _ _ _ => rfl⟩
        exact ⟨B11, ps.length, d11, _, ⟨rfl, by omega⟩, IsAtoms.byRd (i10.up AtomE.stays hl) rr hg, hP, below_row (belowThen b10 hl) hg hb⟩
      have HLAST := hid hlast; clear hlast; rcases HROW.out with ⟨hv9, h0⟩ | ⟨g, cap, cur, hv9, _, _, _, _, _, _⟩
      · subst hv9
        have h0' : n9 = 0 := qaa; subst h0'; have hrs : rs9 = [] := List.eq_nil_of_length_eq_zero HN9.out; subst hrs; obtain ⟨r10, ⟨C, f, e, i10⟩, b10⟩ := KEY.out _ _ HD9.out ⟨rfl, rfl, rfl, nl _, fun _ _ _ => rfl⟩; injection e with e1 _ e2; subst e1 e2; have HCL := hid (HLAST.out w9 _ _ r10 i10 b10); clear r10 i10 b10 HRF HREF KEY R9 HB9; go_wp2_with (at_builtin; refine wpList_append_own_none rfl _ _ 28 rfl w8.heap.size 49 i0 2 Tryz.underlying28 HI.out _ 0 [] rfl HD9.out rfl ?_); refine HCL.out.mono ?_; rintro e w11 ⟨B, m, d', ps, ⟨rfl, hm5⟩, h1, h2, h3⟩
        have H1 := hid h1; have H2 := hid h2; have H3 := hid h3; clear h1 h2 h3; go_wp2; refine bodyPost_ret (v := .tuple #[_, .slice B m d']) qao rfl ⟨_, _, _, _, B, m, d', ps, ⟨rfl, hm5⟩, H1.out, H2.out, H3.out⟩
      · subst hv9
        obtain ⟨A9, c9, e9, hrf⟩ := HRF.out; injection e9 with e9 _ e9'; subst e9 e9'; have HC := hid (hrf.cells rfl); clear hrf HRF; go_wp2_with (at_builtin; refine wpList_append_own _ rfl _ _ 28 rfl w8.heap.size 49 i0 _ 2 40 Tryz.underlying28 HI.out HZ.out HSZ.out HYY.out rfl qal _ 0 [] rfl HD9.out ⟨g, 0, none⟩ n9 cap (rcells rs9) rfl (by rw [rcells_len, HN9.out]) HC.out (rcells_one rs9) qac qaa qaa ?_; intro v' w10 hown' hgr' _; rw [Nat.zero_add, List.nil_append] at hown'; obtain ⟨r10, ⟨C, f, rfl, i10⟩, b10⟩ := KEY.out _ _ hown' hgr'; have HCL := hid (HLAST.out w10 _ _ r10 i10 b10); clear r10 i10 b10 hown' hgr')
        refine HCL.out.mono ?_; rintro e w11 ⟨B, m, d', ps, ⟨rfl, hm5⟩, h1, h2, h3⟩; have H1 := hid h1; have H2 := hid h2; have H3 := hid h3; clear h1 h2 h3; go_wp2; refine bodyPost_ret (v := .tuple #[_, .slice B m d']) qao rfl ⟨_, _, _, _, B, m, d', ps, ⟨rfl, hm5⟩, H1.out, H2.out, H3.out⟩
end Go.Proofs.YtcigljngiemdeaaGreat
