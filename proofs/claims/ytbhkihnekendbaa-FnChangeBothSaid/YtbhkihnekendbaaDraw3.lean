/-
  Drawing: any atom, fine or not.
-/
import Derived.Test.YtbhkihnekendbaaDraw2
namespace Go.Proofs.Ytbhkihnekendbaa
open Go.RowKit

/-- One of a list of texts that was just laid out, in a block of that number. -/
theorem of_laidAt (q : ByteArray → Bool) (g b m : Nat) (A : Option Addr) (n c p : Nat) (w : World) (cs : Array Value) (t : TypeId) (hg : w.heap.size = g) (h : Rd w b A n c p) (hp : p ≤ 1099511627776) (hc : cs.size = m) (hm : 0 < m) (hm' : m ≤ 1048576) (hq : cs.toList.all (strOk q) = true) :
    Calls Try.prog 131 #[.pointer (some ⟨b, 0, none⟩), .slice (some ⟨g, 0, none⟩) m m] (w.alloc (.cells cs t)) (OfPost (fun s => q s = true) b A n c p (w.alloc (.cells cs t))) := by
  subst hg
  exact of_laid q b m A n c p w cs t h hp hc hm hm' hq

theorem Rd.drawn {w : World} {b : Nat} {A : Option Addr} {n c p : Nat} (h : Rd w b A n c p) : Rd w.drew b A n c p := h

/-- Texts that were laid out ahead of what was picked. -/
theorem laidKept (q : ByteArray → Bool) {w w' : World} {b m : Nat} {cs : Array Value} {t : TypeId} (hm : cs.size = m) (hq : cs.toList.all (strOk q) = true) (hg : (w.alloc (.cells cs t)).grownBy w' (some b)) (hb : w.heap.size ≠ b) :
    ∀ i, i < m → ∃ s, w'.cell? ⟨w.heap.size, i, none⟩ = some (.string s) ∧ q s = true := by
  intro i hi
  obtain ⟨s, hs, hqs⟩ := laid q w cs t hq i (by omega)
  exact ⟨s, hg.cell hs (by simp [hb]), hqs⟩

theorem Bx.set0 {a : World} {x : Nat} {u v : Value} (h : Bx a x u v) (u' : Value) : Bx (a.setCell ⟨x, 0, none⟩ u') x u' v := by
  obtain ⟨h1, h2, h3, h4, h5⟩ := h
  refine ⟨by rw [size_setCell]; exact h1, ?_, ?_, ?_, ?_⟩
  · simp [go_sem, h2]
  · rw [World.cell?_setCell_other _ _ _ _ (by simp)]; exact h3
  · simp [go_sem, h4]
  · simp [go_sem, h5]

/-- An atom in the box x, its terms in a row that lies from B on; w is the world ahead of all. -/
def AnyAt (j s : Nat) (b : Nat) (A : Option Addr) (n c p : Nat) (w : World) (B x : Nat) (W : World) (nm : ByteArray) (v : Value) (len : Nat) : Prop :=
  ∃ (ts : List Tm) (p' : Nat), (nm.size ≤ 16 ∧ len ≤ j ∧ p' ≤ p + s) ∧ ts.length = len ∧ (∀ t ∈ ts, t.2.size ≤ 16) ∧ W.ownsRow B 135 2 v len (tmCells ts) ∧ v.ownBlock ≠ some x ∧
    Bx W w.heap.size (.string ⟨#[]⟩) (.slice none 0 0) ∧ Bx W x (.string nm) v ∧ Rd W b A n c p' ∧ w.grownBy W (some b)

/-- A number was picked. -/
theorem AnyAt.pick {j s b n c p B x len : Nat} {A : Option Addr} {w W W' : World} {nm : ByteArray} {v : Value} {ts : List Tm} {p' : Nat} (hb : b < w.heap.size) (hB : w.heap.size < B) (hx : B ≤ x)
    (h0 : nm.size ≤ 16 ∧ len ≤ j ∧ p' ≤ p + s) (h1 : ts.length = len) (h2 : ∀ t ∈ ts, t.2.size ≤ 16) (h3 : W.ownsRow B 135 2 v len (tmCells ts)) (h4 : v.ownBlock ≠ some x)
    (h5 : Bx W w.heap.size (.string ⟨#[]⟩) (.slice none 0 0)) (h6 : Bx W x (.string nm) v) (h7 : w.grownBy W (some b)) (hr : Rd W' b A n c (p' + 1)) (hg : W.grownBy W' (some b)) :
    AnyAt j (s + 1) b A n c p w B x W' nm v len :=
  ⟨ts, p' + 1, ⟨h0.1, h0.2.1, by omega⟩, h1, h2, World.ownsRow.kept h3 hg (ownNe h3 (by omega)), h4, h5.grown hg (by simp; omega), h6.grown hg (by simp; omega), hr, grownTrans h7 hg⟩

/-- The atom of the box is answered. -/
theorem AnyAt.done {j s b n c p B x len : Nat} {A : Option Addr} {w W : World} {nm : ByteArray} {v : Value} (hb : b < w.heap.size) (hB : w.heap.size < B) (h : AnyAt j s b A n c p w B x W nm v len) :
    AtomDraw j s b A n c p w (.returned (.agg #[.string nm, v])) ((W.setCell ⟨w.heap.size, 0, none⟩ (.string nm)).setCell ⟨w.heap.size, 1, none⟩ v) := by
  obtain ⟨ts, p', h0, h1, h2, h3, h4, h5, h6, h7, h8⟩ := h
  obtain ⟨A', d, rfl, hT⟩ := owned_terms h3 h1 h2
  refine ⟨nm, A', len, d, ts, p', ⟨rfl, h0⟩, h1, h2, ?_, ?_, ?_⟩
  · exact ownsLess (ownsRow_setCell_below (ownsRow_setCell_below h3 (by simp; omega) _) (by simp; omega) _) (by omega)
  · exact (h7.set (by simp; omega) _).set (by simp; omega) _
  · exact ⟨h8.os, h8.tape, h8.output, by rw [size_setCell, size_setCell]; exact h8.size, fun i hi hne => ((Below.heap_setCell _ _ _ i (by simp; omega)).trans (Below.heap_setCell _ _ _ i (by simp; omega))).trans (h8.block i hi hne)⟩

/-- One term more. -/
theorem AnyAt.more {j s b n c p B x len p' gg cap : Nat} {A : Option Addr} {w W1 W3 : World} {nm s' : ByteArray} {q : Bool} {v : Value} {ts : List Tm} {o : Obj} (hbw : b < w.heap.size) (hB : w.heap.size < B) (hx : B ≤ x)
    (h0 : nm.size ≤ 16 ∧ len + 1 ≤ j ∧ p' ≤ p + s) (h1 : ts.length = len) (h2 : ∀ t ∈ ts, t.2.size ≤ 16) (hss : s'.size ≤ 16) (HO1 : W1.ownsRow B 135 2 v len (tmCells ts)) (h4 : v.ownBlock ≠ some x)
    (h5 : Bx W1 w.heap.size (.string ⟨#[]⟩) (.slice none 0 0)) (h6 : Bx W1 x (.string nm) v) (h7 : Rd W1 b A n c p') (h8 : w.grownBy W1 (some b))
    (hown3 : W3.ownsRow B 135 2 (.slice (some ⟨gg, 0, none⟩) (len + 1) cap) (len + 1) (tmCells ts ++ [.bool q, .string s'])) (hgrow : (W1.alloc o).grownBy W3 v.ownBlock) (hat : v.ownBlock = some gg ∨ gg = W1.heap.size + 1) :
    AnyAt j s b A n c p w B x (W3.setCell ⟨x, 1, none⟩ (.slice (some ⟨gg, 0, none⟩) (len + 1) cap)) nm (.slice (some ⟨gg, 0, none⟩) (len + 1) cap) (len + 1) := by
  have hal := grownBelow (below1 W1 o) none
  have far : ∀ g, v.ownBlock = some g → B ≤ g := fun g hg => (HO1.lt g hg).1
  have hsz := h6.1
  have hnew : gg ≠ x := by
    rcases hat with hat | hat
    · intro e; rw [e] at hat; exact h4 hat
    · omega
  have hnew' : (Value.slice (some ⟨gg, 0, none⟩) (len + 1) cap).ownBlock ≠ some x := by
    intro e; injection e with e; exact hnew e
  refine ⟨ts ++ [(q, s')], p', h0, by simp [h1], ?_, ?_, hnew', ?_, ?_, ?_, ?_⟩
  · intro t ht
    rcases List.mem_append.1 ht with ht | ht
    · exact h2 t ht
    · rw [List.mem_singleton.1 ht]; exact hss
  · rw [tmCells_snoc]
    exact ownsRow_setCell_other hown3 hnew' _
  · exact ((h5.grown hal (by simp)).grown hgrow (fun e => by have := far _ e.symm; omega)).other (by simp; omega) _
  · exact ((h6.grown hal (by simp)).grown hgrow (fun e => h4 e.symm)).set1 _
  · exact ((h7.grown hal (by simp)).grown hgrow (fun g hg => by have := far g hg; omega)).set (by simp; omega) _
  · have h1 : w.grownBy W3 (some b) := grownOther hgrow (B := B) (by simp; omega) far (grownTrans h8 (grownBelow (below1 W1 o) _)) (by omega)
    exact ⟨h1.os, h1.tape, h1.output, by rw [size_setCell]; exact h1.size, fun i hi hne => (Below.heap_setCell _ _ _ i (by simp; omega)).trans (h1.block i hi hne)⟩

set_option maxRecDepth 100000 in
set_option maxHeartbeats 4000000 in
theorem any_atom_draw (b : Nat) (A : Option Addr) (n c p : Nat) (w : World) (h : Rd w b A n c p) (hp : p ≤ 999000) :
    Calls Try.prog 69 #[.pointer (some ⟨b, 0, none⟩)] w (AtomDraw 8 40 b A n c p w) := by
  have H := Lib.hid h; clear h
  have hbw : b < w.heap.size := H.out.1
  go_enter Try.func69, Try.ntmps69
  go_wp2_with fail
  refine (of_laidAt (fun s => decide (s.size ≤ 16)) (w.heap.size + 1) b _ A n c p _ _ _ (by simp) (H.out.below (below1 _ _)) (by omega) (by rfl) (by omega) (by omega) (by rfl)).mono ?_; rintro e w1 ⟨s, ⟨rfl, hs⟩, hr1, hg1⟩
  have HR1 := Lib.hid hr1
  have hgw1 := grownTrans (grownBelow (below2 w _ _) (some b)) hg1
  have HG1 := Lib.hid hgw1
  have hX0 := Bx.new w (.string ⟨#[]⟩) (.slice none 0 0) 26
  have HX1 := Lib.hid ((hX0.grown (grownBelow (below1 _ _) none) (by simp)).grown hg1 (by simp; omega))
  clear hr1 hgw1 hX0 hg1
  go_wp2_with fail
  refine (atom_draw b A n c (p + 1) s true w1 HR1.out (by omega) (by simpa using hs)).mono ?_; rintro e w2 ⟨nm, A', k, d, ts, p', ⟨rfl, hnm, hk, hp'⟩, hlen, hs', hown, hrd, hg2⟩
  have hsz1 := HG1.out.size
  have hsz2 := hg2.size
  have hlx := HX1.out.1
  have hhg := grownTrans HG1.out hg2
  have HG2 := Lib.hid (grownTrans hhg (grownBelow (below1 w2 (.cells #[.string nm, .slice A' k d] 26)) (some b)))
  have HX2 := Lib.hid ((HX1.out.grown hg2 (by simp; omega)).grown (grownBelow (below1 w2 (.cells #[.string nm, .slice A' k d] 26)) none) (by simp))
  have HA2 := Lib.hid (Bx.new w2 (.string nm) (.slice A' k d) 26)
  have HR2 := Lib.hid (hrd.below (below1 w2 (.cells #[.string nm, .slice A' k d] 26)))
  have HO2 := Lib.hid (hown.alloc (.cells #[.string nm, .slice A' k d] 26))
  have hne : (Value.slice A' k d).ownBlock ≠ some w2.heap.size := fun e => by have := hown.lt _ e; omega
  have HN := Lib.hid hne
  have HS := Lib.hid hs'
  have HL := Lib.hid hlen
  clear hg2 hown hrd hhg hne hs' hlen
  go_wp2_with fail
  refine (pick_any b A n c _ _ _ HR2.out (by omega) (by omega)).mono ?_; rintro e w3 ⟨kk, ⟨rfl, hkk⟩, hrd3, hg3⟩
  have HY := Lib.hid (AnyAt.pick (j := 3) (s := 7) (p := p) hbw (B := w1.heap.size) (by omega) (by omega) ⟨hnm, hk, by omega⟩ HL.out HS.out HO2.out HN.out HX2.out HA2.out HG2.out hrd3 hg3)
  clear HG2 HX2 HA2 HR2 HO2 HN HS HL hrd3 hg3 HG1 HX1 HR1
  by_cases k0 : kk = 0
  · subst k0
    obtain ⟨ts3, p3, ⟨q1, q2, q3⟩, q4, q5, q6, q7, q8, q9, q10, q11⟩ := HY.out
    have R3 := Lib.hid q10; have O3 := Lib.hid q6; have X3 := Lib.hid q8; have Y3 := Lib.hid q9; have G3 := Lib.hid q11; have S3 := Lib.hid q5; have L3 := Lib.hid q4; have N3 := Lib.hid q7
    clear q4 q5 q6 q7 q8 q9 q10 q11 HY
    go_wp2_with fail
    refine (of_laidAt (fun s => decide (s.size ≤ 16)) w3.heap.size b _ A n c _ w3 _ _ rfl R3.out (by omega) (by rfl) (by omega) (by omega) (by rfl)).mono ?_; rintro e w4 ⟨s', ⟨rfl, hs4⟩, hr4, hg4⟩
    have hg34 := grownTrans (grownBelow (below1 w3 _) (some b)) hg4
    have Y4 := Y3.out.grown hg34 (by simp; omega)
    have X4 := Lib.hid (X3.out.grown hg34 (by simp; omega))
    have HY4 := Lib.hid Y4
    obtain ⟨x1, x2, x3, x4, x5⟩ := Y4
    obtain ⟨y1, y2, y3, y4, y5⟩ := X4.out
    go_wp2
    have W5 : AnyAt 8 40 b A n c p w w1.heap.size w2.heap.size (w4.setCell ⟨w2.heap.size, 0, none⟩ (.string s')) s' (.slice A' k d) k := by
      have hg3 := G3.out
      refine ⟨ts3, p3 + 1, ⟨by simpa using hs4, by omega, by omega⟩, L3.out, S3.out, ?_, N3.out, X4.out.other (by simp; omega) _, HY4.out.set0 _, hr4.set (by simp; omega) _, ?_⟩
      · exact ownsRow_setCell_other (World.ownsRow.kept (O3.out.alloc _) hg4 (ownNe O3.out (by omega))) N3.out _
      · have h8 := grownTrans hg3 hg34
        exact ⟨h8.os, h8.tape, h8.output, by rw [size_setCell]; exact h8.size, fun i hi hne => (Below.heap_setCell _ _ _ i (by simp; omega)).trans (h8.block i hi hne)⟩
    refine bodyPost_ret (v := .agg #[.string s', .slice A' k d]) (by simp [results, Try.results69, go_sem, y2, y3]) rfl ?_
    exact W5.done hbw (by omega)
  · by_cases k1 : kk = 1
    · subst k1
      obtain ⟨i0, hi, hz, hsz, hby⟩ := info_parts Try.infoTm
      have HI := Lib.hid hi; have HZ := Lib.hid hz; have HSZ := Lib.hid hsz; have HYY := Lib.hid hby
      clear hi hz hsz hby k0 hkk
      obtain ⟨ts3, p3, ⟨q1, q2, q3⟩, q4, q5, q6, q7, q8, q9, q10, q11⟩ := HY.out
      have R3 := Lib.hid (show Rd w3.drew b A n c p3 from q10); have O3 := Lib.hid q6; have X3 := Lib.hid q8; have Y3 := Lib.hid q9; have G3 := Lib.hid q11; have S3 := Lib.hid q5; have L3 := Lib.hid q4; have N3 := Lib.hid q7
      have y0 := q9.2.2.1
      have hb3 := q10.1
      have R30 := Lib.hid q10
      have cu0 := cellUp y0
      clear q4 q5 q6 q7 q8 q9 q10 q11 HY
      go_wp2_with fail
      go_region_law (first
        | (refine step_append_lies _ (by rfl) _ _ _ (by rfl) w1.heap.size 135 i0 _ 2 24 Try.underlying24 HI.out HZ.out HSZ.out HYY.out rfl (by omega) (.slice A' k d) k (tmCells ts3) (by rfl) (O5.out.alloc _) ⟨w5.heap.size, 0, none⟩ 1 1 [.bool ((kk : Int) == 0), .string s'] (by rfl) (by rfl) (World.news_of_block (cs := #[.bool ((kk : Int) == 0), .string s']) (t := 135) (fr := (0, 0)) (heap_alloc_new w5 _)) (by simp [Value.oneCell']) (by omega) (by unfold maxLen; omega) (by omega) (by have := Y5.1; simp; omega) (w5.heap.size + 1) (by simp) ?_; intro gg cap w6 hown6 hgrow hat hlt6; have Y7 := Y6.grown hgrow (fun e => N3.out e.symm); have z3 := Y7.2.2.1; have z5 := Y7.2.2.2.2)
        | ((go_simp; go_at_call 68; refine (pick_any b A n c p3 _ _ R3.out (by omega) (by omega)).mono ?_); rintro e w4 ⟨kk, ⟨rfl, hkk⟩, hr4, hg4'⟩; have hg4 : w3.grownBy w4 (some b) := ungrown hg4'; clear hg4'; have Y4 := Y3.out.grown hg4 (fun e => by (injection e with e; omega)); have yy4 := Y4.2.2.1; have cu4 := cellUp yy4)
        | ((have hld := HLD; clear hld; go_simp; go_at_call 131; refine (of_any (fun s => decide (s.size ≤ 16) = true) b w3.heap.size 7 A n c _ w4 hr4 (by omega) (by omega) (by omega) (by omega) HLD.out).mono ?_); rintro e w5 ⟨s', ⟨rfl, hs5⟩, hr5, hg5⟩; have hg35 := grownTrans hg4 hg5; have Y5 := Y3.out.grown hg35 (fun e => by (injection e with e; omega)); have yy5 := Y5.2.2.1; have O5 := Lib.hid (World.ownsRow.kept (w' := w5) O3.out hg35 (ownNe O3.out (by omega))); have Y6 := Y5.grown (grownBelow (below1 w5 (.cells #[.bool ((kk : Int) == 0), .string s'] 135)) none) (by simp); have yy6 := Y6.2.2.1)
        | ((go_simp; go_at_call 131; refine (of_laidAt (fun s => decide (s.size ≤ 16)) w4.heap.size b _ A n c _ w4 _ _ rfl hr4 (by omega) (by rfl) (by omega) (by omega) (by rfl)).mono ?_); rintro e w5 ⟨s', ⟨rfl, hs5⟩, hr5, hg5⟩; have hg45 := grownTrans (grownBelow (below1 w4 _) (some b)) hg5; have hg35 := grownTrans hg4 hg45; have Y5 := Y3.out.grown hg35 (fun e => by (injection e with e; omega)); have yy5 := Y5.2.2.1; have O5 := Lib.hid (World.ownsRow.kept (w' := w5) O3.out hg35 (ownNe O3.out (by omega))); have Y6 := Y5.grown (grownBelow (below1 w5 (.cells #[.bool ((kk : Int) == 0), .string s'] 135)) none) (by simp); have yy6 := Y6.2.2.1)
        | ((go_simp; go_at_call 68; refine (pick_any b A n c p3 _ _ (R30.out.below (below1 _ _)).drawn (by omega) (by omega)).mono ?_); rintro e w4 ⟨kk, ⟨rfl, hkk⟩, hr4, hg4'⟩; have hg40 := ungrown hg4'; have HLD := Lib.hid (laidKept (fun s => decide (s.size ≤ 16)) (m := 7) (by rfl) (by rfl) hg40 (by omega)); have hg4 : w3.grownBy w4 (some b) := grownTrans (grownBelow (below1 w3 _) (some b)) hg40; clear hg4' hg40; have Y4 := Y3.out.grown hg4 (fun e => by (injection e with e; omega)); have yy4 := Y4.2.2.1; have cu4 := cellUp yy4))
      all_goals
        have X5 := X3.out.grown hg35 (fun e => by (injection e with e; omega))
        have W7 := Lib.hid (AnyAt.more (j := 8) (s := 40) (p := p) (p' := p3 + 1 + 1) (B := w1.heap.size) (x := w2.heap.size) hbw (by omega) (by omega) ⟨q1, by omega, by omega⟩ L3.out S3.out (of_decide_eq_true hs5) O5.out N3.out X5 Y5 hr5 (grownTrans G3.out hg35) hown6 hgrow hat)
        have X6 := X5.grown (grownBelow (below1 w5 (.cells #[.bool ((kk : Int) == 0), .string s'] 135)) none) (by simp)
        have X7 := X6.grown hgrow (fun e => by have := (O5.out.lt _ e.symm).1; omega)
        obtain ⟨y1, y2, y3, y4, y5⟩ := X7
        obtain ⟨x1, x2, x3, x4, x5⟩ := Y7
        clear hgrow hown6 hat hg35 hr5 hr4 Y5 Y6 X5 X6 hg4
        go_wp2
        refine bodyPost_ret (v := .agg #[.string nm, .slice (some ⟨gg, 0, none⟩) (k + 1) cap]) (by simp [results, Try.results69, go_sem, y2, y3]) rfl ?_
        exact W7.out.done hbw (by omega)
    · by_cases k2 : kk = 2
      · subst k2
        obtain ⟨i0, hi, hz, hsz, hby⟩ := info_parts Try.infoTm
        have HI := Lib.hid hi; have HZ := Lib.hid hz; have HSZ := Lib.hid hsz; have HYY := Lib.hid hby
        clear hi hz hsz hby k0 k1 hkk
        go_wp2_with fail
        go_loopw [] (fun wr => ∃ (v : Value) (len : Nat), len ≤ 4 ∧ AnyAt 8 (10 + 2 * len) b A n c p w w1.heap.size w2.heap.size wr nm v len) (fun wr => match wr.cell? ⟨w2.heap.size, 1, none⟩ with | some (.slice _ len _) => 5 - len | _ => 0)
        case atStart =>
          obtain ⟨ts3, p3, ⟨q1, q2, q3⟩, q4⟩ := HY.out
          exact ⟨_, k, by omega, ts3, p3, ⟨q1, by omega, by omega⟩, q4⟩
        case round =>
          obtain ⟨v, len, hl4, ts3, p3, ⟨q1, q2, q3⟩, q4, q5, q6, q7, q8, q9, q10, q11⟩ := hrel
          obtain ⟨A'', d', rfl, hT⟩ := owned_terms q6 q4 q5
          clear hT HY
          have R3 := Lib.hid (show Rd wr.drew b A n c p3 from q10); have O3 := Lib.hid q6; have X3 := Lib.hid q8; have Y3 := Lib.hid q9; have G3 := Lib.hid q11; have S3 := Lib.hid q5; have L3 := Lib.hid q4; have N3 := Lib.hid q7
          have y0 := q9.2.2.1
          clear q4 q5 q6 q7 q8 q9 q10 q11
          have HWR := Lib.hid (show ∀ m : Nat, m < 2 → IntKind.i64.wrap (3 + (m : Int)) = 3 + (m : Int) from fun m hm => by rw [IntKind.wrap_i64]; omega)
          go_wp2_with fail
          go_region_held3 (fun W => W.cell? ⟨w2.heap.size, 1, none⟩ = some (.slice A'' len d'))
            (first | exact y0 | exact yy4)
            (((with_reducible refine (pick_any b A n c p3 _ _ R3.out (by omega) (by omega)).mono ?_); rintro e w4 ⟨kk, ⟨rfl, hkk⟩, hr4, hg4'⟩; have hg4 : wr.grownBy w4 (some b) := ungrown hg4'; clear hg4'; have Y4 := Y3.out.grown hg4 (fun e => by (injection e with e; omega)); have yy4 := Y4.2.2.1; have hk2 : kk < 2 := (by omega); have hw3 := HWR.out kk hk2))
          have X4 := X3.out.grown hg4 (by simp; omega)
          have HX4 := Lib.hid X4
          have HY4 := Lib.hid Y4
          have O4 := Lib.hid (World.ownsRow.kept (w' := w4) O3.out hg4 (ownNe O3.out (by omega)))
          have G4 := Lib.hid (grownTrans G3.out hg4)
          have R4 := Lib.hid hr4
          clear hr4 hkk hg4
          obtain ⟨x1, x2, x3, x4, x5⟩ := Y4
          by_cases hlt : len < 3 + kk
          · have hin : (len : Int) < 3 + (kk : Int) := by omega
            go_wp2_with (at_builtin; refine wpList_append_lies _ (by rfl) _ _ _ (by rfl) w1.heap.size 135 i0 _ 2 24 Try.underlying24 HI.out HZ.out HSZ.out HYY.out rfl (by omega) (.slice A'' len d') len (tmCells ts3) (by rfl) (O4.out.alloc _) ⟨w4.heap.size, 0, none⟩ 1 1 [.bool false, .string ⟨#[97]⟩] (by rfl) (by rfl) (World.news_of_block (cs := #[.bool false, .string ⟨#[97]⟩]) (t := 135) (fr := (0, 0)) (heap_alloc_new w4 _)) (by simp [Value.oneCell']) (by omega) (by unfold maxLen; omega) (by omega) (by simp; omega) (w4.heap.size + 1) (by simp) ?_; intro gg cap w5 hown5 hgrow hat hlt5; have Y5 := (HY4.out.grown (grownBelow (below1 w4 (.cells #[.bool false, .string ⟨#[97]⟩] 135)) none) (by simp)).grown hgrow (fun e => N3.out e.symm); have z3 := Y5.2.2.1; have z5 := Y5.2.2.2.2)
            refine ⟨⟨_, len + 1, by omega, AnyAt.more hbw (by omega) (by omega) ⟨q1, by omega, by omega⟩ L3.out S3.out (by decide) O4.out N3.out HX4.out HY4.out R4.out G4.out hown5 hgrow hat⟩, ?_⟩
            rw [show (w5.setCell ⟨w2.heap.size, 1, none⟩ (.slice (some ⟨gg, 0, none⟩) (len + 1) cap)).cell? ⟨w2.heap.size, 1, none⟩ = some (.slice (some ⟨gg, 0, none⟩) (len + 1) cap) by simp [go_sem, z3], y0]
            show 5 - (len + 1) < 5 - len
            omega
          · have hin : ¬ (len : Int) < 3 + (kk : Int) := by omega
            obtain ⟨y1, y2, y3, y4, y5⟩ := X4
            go_wp2
            have W5 : AnyAt 8 40 b A n c p w w1.heap.size w2.heap.size w4 nm (.slice A'' len d') len := ⟨ts3, p3 + 1, ⟨q1, by omega, by omega⟩, L3.out, S3.out, O4.out, N3.out, HX4.out, HY4.out, R4.out, G4.out⟩
            refine bodyPost_ret (v := .agg #[.string nm, .slice A'' len d']) (by simp [results, Try.results69, go_sem, y2, y3]) rfl ?_
            exact W5.done hbw (by omega)
      · obtain ⟨ts3, p3, ⟨q1, q2, q3⟩, q4, q5, q6, q7, q8, q9, q10, q11⟩ := HY.out
        have X4 := q8
        obtain ⟨x1, x2, x3, x4, x5⟩ := q9
        have W5 : AnyAt 8 40 b A n c p w w1.heap.size w2.heap.size w3 nm (.slice A' k d) k := ⟨ts3, p3, ⟨q1, by omega, by omega⟩, q4, q5, q6, q7, q8, ⟨x1, x2, x3, x4, x5⟩, q10, q11⟩
        have W6 := Lib.hid W5
        obtain ⟨y1, y2, y3, y4, y5⟩ := q8
        clear q1 q2 q3 q4 q5 q6 q7 q10 q11 W5
        go_wp2
        exact bodyPost_ret (v := .agg #[.string nm, .slice A' k d]) (by simp [results, Try.results69, go_sem, y2, y3]) rfl (W6.out.done hbw (by omega))

end Go.Proofs.Ytbhkihnekendbaa
