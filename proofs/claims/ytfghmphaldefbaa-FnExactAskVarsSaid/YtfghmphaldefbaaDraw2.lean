/-
  Drawing: words, variables, and atoms of them.
-/
import Derived.Test.YtfghmphaldefbaaDraw
import Derived.Test.YtfghmphaldefbaaMem
import Derived.Test.YtfghmphaldefbaaEq
import Derived.Deep.RegionHeld3
import Derived.Deep.AppendLies
import Derived.Deep.RegionLaw
import Derived.Deep.LoopGhost
namespace Go.Proofs.Ytfghmphaldefbaa
open Go.RowKit

theorem grownTrans {a b c : World} {row : Option Nat} (h : a.grownBy b row) (k : b.grownBy c row) : a.grownBy c row :=
  ⟨k.os.trans h.os, k.tape.trans h.tape, k.output.trans h.output, Nat.le_trans h.size k.size, fun i hi hne => (k.block i (Nat.lt_of_lt_of_le hi h.size) hne).trans (h.block i hi hne)⟩


/-- Of what was ahead of B only row may have turned, where B is not below the old end. -/
theorem grownOther {a b : World} {row row' : Option Nat} {B : Nat} (h : b.grownBy a row') (hB : B ≤ b.heap.size) (hr : ∀ g, row' = some g → B ≤ g) {o : World} (k : o.grownBy b row) (ho : o.heap.size ≤ B) : o.grownBy a row :=
  ⟨h.os.trans k.os, h.tape.trans k.tape, h.output.trans k.output, Nat.le_trans k.size h.size, fun i hi hne => (h.block i (by omega) (fun e => by have := hr i e.symm; omega)).trans (k.block i hi hne)⟩

def WordPost (b : Nat) (A : Option Addr) (n c p : Nat) (w : World) (e : Ending) (w' : World) : Prop :=
  ∃ s : ByteArray, (e = .returned (.string s) ∧ s.size ≤ 16) ∧ Rd w' b A n c (p + 1) ∧ w.grownBy w' (some b)

set_option maxHeartbeats 400000 in
theorem word_draw (b : Nat) (A : Option Addr) (n c p : Nat) (w : World) (h : Rd w b A n c p) (hp : p ≤ 1099511627776) :
    Calls Try.prog 135 #[.pointer (some ⟨b, 0, none⟩)] w (WordPost b A n c p w) := by
  go_enter Try.func135, Try.ntmps135
  go_wp2_with fail
  refine (of_laid (fun s => decide (s.size ≤ 16)) b _ A n c p w _ _ h hp (by rfl) (by omega) (by omega) (by rfl)).mono ?_; rintro e w2 ⟨s, ⟨rfl, hs⟩, hr2, hg2⟩
  go_wp2
  go_ret
  exact ⟨s, ⟨rfl, by simpa using hs⟩, hr2, grownTrans (grownBelow (below1 _ _) _) hg2⟩

set_option maxHeartbeats 400000 in
theorem var_draw (b : Nat) (A : Option Addr) (n c p : Nat) (w : World) (h : Rd w b A n c p) (hp : p ≤ 1099511627776) :
    Calls Try.prog 134 #[.pointer (some ⟨b, 0, none⟩)] w (WordPost b A n c p w) := by
  go_enter Try.func134, Try.ntmps134
  go_wp2_with fail
  refine (of_laid (fun s => decide (s.size ≤ 16)) b _ A n c p w _ _ h hp (by rfl) (by omega) (by omega) (by rfl)).mono ?_; rintro e w2 ⟨s, ⟨rfl, hs⟩, hr2, hg2⟩
  go_wp2
  go_ret
  exact ⟨s, ⟨rfl, by simpa using hs⟩, hr2, grownTrans (grownBelow (below1 _ _) _) hg2⟩

def ArgsPost (w : World) (e : Ending) (w' : World) : Prop := (∃ k : Nat, e = .returned (.int .i64 (k : Int)) ∧ k ≤ 3) ∧ w = w'

set_option maxHeartbeats 400000 in
theorem args_any (s : ByteArray) (w : World) : Calls Try.prog 133 #[.string s] w (ArgsPost w) := by
  go_enter Try.func133, Try.ntmps133
  go_wp2
  all_goals (go_ret; first | exact ⟨⟨2, rfl, by omega⟩, rfl⟩ | exact ⟨⟨0, rfl, by omega⟩, rfl⟩ | exact ⟨⟨3, rfl, by omega⟩, rfl⟩ | exact ⟨⟨1, rfl, by omega⟩, rfl⟩)

/-- The cells of terms. -/
def tmCells (ts : List Tm) : List Value := ts.flatMap fun t => [.bool t.1, .string t.2]

theorem tmCells_snoc (ts : List Tm) (t : Tm) : tmCells (ts ++ [t]) = tmCells ts ++ [.bool t.1, .string t.2] := by simp [tmCells]

theorem tmCells_at : ∀ (ts : List Tm) (i : Nat) (t : Tm), ts[i]? = some t → (tmCells ts)[i * 2]? = some (.bool t.1) ∧ (tmCells ts)[i * 2 + 1]? = some (.string t.2)
  | [], i, t, h => by simp at h
  | x :: r, 0, t, h => by
    simp at h; subst h
    exact ⟨rfl, rfl⟩
  | x :: r, i + 1, t, h => by
    have h' : r[i]? = some t := by simpa using h
    obtain ⟨h1, h2⟩ := tmCells_at r i t h'
    have e : tmCells (x :: r) = [.bool x.1, .string x.2] ++ tmCells r := rfl
    rw [e, show (i + 1) * 2 = i * 2 + 2 by omega, show i * 2 + 2 + 1 = (i * 2 + 1) + 2 by omega]
    exact ⟨h1, h2⟩

/-- Terms that the call has appended: they read as terms. -/
theorem owned_terms {w : World} {base : Nat} {v : Value} {n : Nat} {ts : List Tm} (h : w.ownsRow base 123 2 v n (tmCells ts)) (hn : ts.length = n) (hs : ∀ t ∈ ts, t.2.size ≤ 16) :
    ∃ A c, v = .slice A n c ∧ IsTerms w base w.heap.size A n c ts := by
  rcases h.2 with ⟨rfl, rfl⟩ | ⟨g, cap, cur, rfl, hg, hh, hnc, hcm, _, _⟩
  · exact ⟨none, 0, rfl, hn, Nat.le_refl _, Nat.zero_le _, fun h0 => absurd h0 (by omega)⟩
  · refine ⟨_, cap, rfl, hn, hnc, hcm, fun h0 => ⟨_, rfl, hg, (h.lt g rfl).2, fun i t ht => ?_⟩⟩
    obtain ⟨h1, h2⟩ := tmCells_at ts i t ht
    have hc := h.cells (g := g) rfl
    exact ⟨hc _ _ h1, hc _ _ h2, by have := hs t (List.mem_of_getElem? ht); unfold maxLen; omega⟩

/-- An atom was drawn: its terms lie in memory of its own, to which more may be appended. -/
def AtomDraw (j s : Nat) (b : Nat) (A : Option Addr) (n c p : Nat) (w : World) (e : Ending) (w' : World) : Prop :=
  ∃ (nm : ByteArray) (A' : Option Addr) (k d : Nat) (ts : List Tm) (p' : Nat), (e = .returned (.agg #[.string nm, .slice A' k d]) ∧ nm.size ≤ 16 ∧ k ≤ j ∧ p' ≤ p + s) ∧ ts.length = k ∧ (∀ t ∈ ts, t.2.size ≤ 16) ∧
    w'.ownsRow w.heap.size 123 2 (.slice A' k d) k (tmCells ts) ∧ Rd w' b A n c p' ∧ w.grownBy w' (some b)

theorem ownsLess {w : World} {base base' : Nat} {e : TypeId} {size n : Nat} {v : Value} {xs : List Value} (h : w.ownsRow base e size v n xs) (hb : base' ≤ base) : w.ownsRow base' e size v n xs := by
  refine ⟨h.1, ?_⟩
  rcases h.2 with hn | ⟨g, cap, cur, hv, hg, rest⟩
  · exact .inl hn
  · exact .inr ⟨g, cap, cur, hv, by omega, rest⟩

/-- The box of a struct of two cells, its first cell known, which may be written. -/
def Bx (w : World) (x : Nat) (u v : Value) : Prop := x < w.heap.size ∧ w.cell? ⟨x, 0, none⟩ = some u ∧ w.cell? ⟨x, 1, none⟩ = some v ∧ w.frozen? ⟨x, 0, none⟩ = false ∧ w.frozen? ⟨x, 1, none⟩ = false

theorem Bx.new (w : World) (u v : Value) (t : TypeId) : Bx (w.alloc (.cells #[u, v] t)) w.heap.size u v := by
  refine ⟨by simp, ?_, ?_, ?_, ?_⟩ <;> simp [go_sem]

theorem Bx.grown {a b : World} {x : Nat} {u v : Value} {row : Option Nat} (h : Bx a x u v) (hg : a.grownBy b row) (hne : some x ≠ row) : Bx b x u v := by
  obtain ⟨h1, h2, h3, h4, h5⟩ := h
  exact ⟨Nat.lt_of_lt_of_le h1 hg.size, (hg.cell_far _ h1 hne).trans h2, (hg.cell_far _ h1 hne).trans h3, (hg.frozen_far _ h1 hne).trans h4, (hg.frozen_far _ h1 hne).trans h5⟩

theorem Bx.set1 {a : World} {x : Nat} {u v : Value} (h : Bx a x u v) (v' : Value) : Bx (a.setCell ⟨x, 1, none⟩ v') x u v' := by
  obtain ⟨h1, h2, h3, h4, h5⟩ := h
  refine ⟨by rw [size_setCell]; exact h1, ?_, ?_, ?_, ?_⟩
  · rw [World.cell?_setCell_other _ _ _ _ (by simp)]; exact h2
  · simp [go_sem, h3]
  · simp [go_sem, h4]
  · simp [go_sem, h5]

theorem Bx.other {a : World} {x : Nat} {u v : Value} (h : Bx a x u v) {q : Addr} (hq : x ≠ q.block) (y : Value) : Bx (a.setCell q y) x u v := by
  obtain ⟨h1, h2, h3, h4, h5⟩ := h
  have hc : ∀ j, (⟨x, j, none⟩ : Addr) ≠ q := fun j e => hq (by rw [← e])
  refine ⟨by rw [size_setCell]; exact h1, ?_, ?_, ?_, ?_⟩
  · rw [World.cell?_setCell_other _ _ _ _ (fun e => by subst e; simp at hq)]; exact h2
  · rw [World.cell?_setCell_other _ _ _ _ (fun e => by subst e; simp at hq)]; exact h3
  · simpa [go_sem] using h4
  · simpa [go_sem] using h5

/-- Where the loop stands that appends terms to an atom in the box x; r is the box of the result. -/
def Drawing (b : Nat) (A : Option Addr) (n c p : Nat) (w0 : World) (nm : ByteArray) (k : Nat) (w : World) : Prop :=
  ∃ (v : Value) (len : Nat) (ts : List Tm) (p' : Nat), (len + k ≤ 3 ∧ p' ≤ p + 2 * len) ∧ ts.length = len ∧ (∀ t ∈ ts, t.2.size ≤ 16) ∧ w.ownsRow (w0.heap.size + 2) 123 2 v len (tmCells ts) ∧
    Bx w w0.heap.size (.string ⟨#[]⟩) (.slice none 0 0) ∧ Bx w (w0.heap.size + 1) (.string nm) v ∧ Rd w b A n c p' ∧ w0.grownBy w (some b)

theorem Rd.grown {w w' : World} {b : Nat} {A : Option Addr} {n c p : Nat} {row : Option Nat} (h : Rd w b A n c p) (hg : w.grownBy w' row) (hne : ∀ g, row = some g → b < g) : Rd w' b A n c p := by
  obtain ⟨h1, h2, h3, h4, h5⟩ := h
  have hb : some b ≠ row := fun e => by have := hne b e.symm; omega
  exact ⟨Nat.lt_of_lt_of_le h1 hg.size, (hg.cell_far _ h1 hb).trans h2, (hg.cell_far _ h1 hb).trans h3, (hg.frozen_far _ h1 hb).trans h4, h5.keep fun q hq => hg.cell_far q (by omega) (fun e => by have := hne _ e.symm; omega)⟩

theorem ungrown {a b : World} {row : Option Nat} (h : a.drew.grownBy b row) : a.grownBy b row := ⟨h.os, h.tape, h.output, h.size, h.block⟩

/-- A row of the call's own is not an old block. -/
theorem ownNe {w : World} {base : Nat} {e : TypeId} {size n b : Nat} {v : Value} {xs : List Value} (h : w.ownsRow base e size v n xs) (hb : b < base) : v.ownBlock = none ∨ v.ownBlock ≠ some b := by
  right
  intro he
  have := (h.lt b he).1
  omega

theorem ownFar {w : World} {base : Nat} {e : TypeId} {size n b : Nat} {v : Value} {xs : List Value} (h : w.ownsRow base e size v n xs) (hb : b < base) : some b ≠ v.ownBlock := by
  intro he
  have := (h.lt b he.symm).1
  omega

theorem Try.infoTm : (Try.prog.info? 123).map (fun i => (i.zero, i.size, i.bytes)) = some (some (.agg #[.bool false, .string ByteArray.empty]), 2, 24) := by kernel_rfl

theorem Rd.set {w : World} {b : Nat} {A : Option Addr} {n c p : Nat} (h : Rd w b A n c p) {q : Addr} (hq : b < q.block) (y : Value) : Rd (w.setCell q y) b A n c p := by
  obtain ⟨h1, h2, h3, h4, h5⟩ := h
  refine ⟨by rw [size_setCell]; exact h1, ?_, ?_, ?_, h5.keep fun a ha => World.cell?_setCell_other _ _ _ _ (fun e => by subst e; omega)⟩
  · rw [World.cell?_setCell_other _ _ _ _ (fun e => by subst e; simp at hq)]; exact h2
  · rw [World.cell?_setCell_other _ _ _ _ (fun e => by subst e; simp at hq)]; exact h3
  · simpa [go_sem] using h4

/-- One term more. -/
theorem Drawing.next {b : Nat} {A A' : Option Addr} {n c p p' q' len k d gg cap : Nat} {w w1 w3 : World} {nm s : ByteArray} {x : Bool} {ts : List Tm} {o : Obj} (hbw : b < w.heap.size)
    (hl : ts.length = len) (hs : ∀ t ∈ ts, t.2.size ≤ 16) (hk : len + k ≤ 3) (hk0 : 0 < k) (hp : p' ≤ p + 2 * len) (hq : q' ≤ p' + 2) (hss : s.size ≤ 16)
    (HO1 : w1.ownsRow (w.heap.size + 2) 123 2 (.slice A' len d) len (tmCells ts))
    (hown3 : w3.ownsRow (w.heap.size + 2) 123 2 (.slice (some ⟨gg, 0, none⟩) (len + 1) cap) (len + 1) (tmCells ts ++ [.bool x, .string s]))
    (hgrow : (w1.alloc o).grownBy w3 (Value.slice A' len d).ownBlock)
    (RB1 : Bx w1 w.heap.size (.string ⟨#[]⟩) (.slice none 0 0)) (XB1 : Bx w1 (w.heap.size + 1) (.string nm) (.slice A' len d)) (hrd1 : Rd w1 b A n c q') (GG1 : w.grownBy w1 (some b)) :
    Drawing b A n c p w nm (k - 1) (w3.setCell ⟨w.heap.size + 1, 1, none⟩ (.slice (some ⟨gg, 0, none⟩) (len + 1) cap)) := by
  have hal := grownBelow (below1 w1 o) none
  have far : ∀ g, (Value.slice A' len d).ownBlock = some g → w.heap.size + 2 ≤ g := fun g hg => (HO1.lt g hg).1
  have hsz := XB1.1
  refine ⟨.slice (some ⟨gg, 0, none⟩) (len + 1) cap, len + 1, ts ++ [(x, s)], q', ⟨by omega, by omega⟩, by simp [hl], ?_, ?_, ?_, ?_, ?_, ?_⟩
  · intro t ht
    rcases List.mem_append.1 ht with ht | ht
    · exact hs t ht
    · rw [List.mem_singleton.1 ht]; exact hss
  · rw [tmCells_snoc]
    exact ownsRow_setCell_below hown3 (by simp) _
  · exact ((RB1.grown hal (by simp)).grown hgrow (fun e => by have := far _ e.symm; omega)).other (by simp) _
  · exact ((XB1.grown hal (by simp)).grown hgrow (fun e => by have := far _ e.symm; omega)).set1 _
  · exact ((hrd1.grown hal (by simp)).grown hgrow (fun g hg => by have := far g hg; omega)).set (by simp; omega) _
  · have h1 : w.grownBy w3 (some b) := grownOther hgrow (B := w.heap.size + 2) (by simp; omega) far (grownTrans GG1 (grownBelow (below1 w1 o) _)) (by omega)
    exact ⟨h1.os, h1.tape, h1.output, by rw [size_setCell]; exact h1.size, fun i hi hne => (Below.heap_setCell _ _ _ i (by simp; omega)).trans (h1.block i hi hne)⟩

set_option maxRecDepth 100000 in
set_option maxHeartbeats 2000000 in
theorem atom_draw (b : Nat) (A : Option Addr) (n c p : Nat) (nm : ByteArray) (vars : Bool) (w : World) (h : Rd w b A n c p) (hp : p ≤ 1000000) (hnm : nm.size ≤ 16) :
    Calls Try.prog 102 #[.pointer (some ⟨b, 0, none⟩), .string nm, .bool vars] w (AtomDraw 3 6 b A n c p w) := by
  have H := Lib.hid h; clear h
  go_enter Try.func102, Try.ntmps102
  go_wp2_with fail
  refine (args_any _ _).mono ?_; rintro e w1 ⟨⟨k, rfl, hk⟩, rfl⟩
  go_wp2_with fail
  have hR := Bx.new w (.string ⟨#[]⟩) (.slice none 0 0) 26
  have hR1 := Lib.hid (hR.grown (grownBelow (below1 _ (.cells #[.string nm, .slice none 0 0] 26)) none) (by simp)); clear hR
  have hX := Bx.new (w.alloc (.cells #[.string ⟨#[]⟩, .slice none 0 0] 26)) (.string nm) (.slice none 0 0) 26
  rw [size_alloc_eq] at hX
  have HX := Lib.hid hX; clear hX
  obtain ⟨i0, hi, hz, hsz, hby⟩ := info_parts Try.infoTm
  have HI := Lib.hid hi; have HZ := Lib.hid hz; have HS := Lib.hid hsz; have HY := Lib.hid hby
  clear hi hz hsz hby
  have hbw : b < w.heap.size := H.out.1
  go_loopw [8] (fun i wr => ∃ k : Nat, k ≤ 3 ∧ i = .int .i64 k ∧ Drawing b A n c p w nm k wr) (fun i _ => (intOf i).toNat)
  case atStart => exact ⟨k, hk, rfl, .slice none 0 0, 0, [], p, ⟨by omega, by omega⟩, rfl, fun t ht => by simp at ht, World.ownsRow_nil _ _ _ _, hR1.out, HX.out, H.out.below (below2 _ _ _), grownBelow (below2 _ _ _) _⟩
  case round =>
    obtain ⟨k, hk, rfl, v, len, ts, p', ⟨hl1, hp'⟩, hlen, hs, hown, hr, hx, hrd, hg⟩ := hrel
    obtain ⟨A', d, rfl, hT⟩ := owned_terms hown hlen hs
    have HT := Lib.hid hT; clear hT
    have HL := Lib.hid hlen; clear hlen
    have HO := Lib.hid hown; clear hown
    have HG := Lib.hid hg; clear hg
    have HSM := Lib.hid hs; clear hs
    have HRD := Lib.hid hrd; clear hrd
    have HRB := Lib.hid hr; clear hr
    have HXB := Lib.hid hx
    obtain ⟨x1, x2, x3, x4, x5⟩ := hx
    by_cases hlt : 0 < k
    · cases vars
      · have HRDd := Lib.hid (show Rd wr.drew b A n c p' from HRD.out)
        go_wp2_with fail
        go_region_law (first
          | (refine step_append_lies _ (by rfl) _ _ _ (by rfl) (w.heap.size + 2) 123 i0 _ 2 24 Try.underlying24 HI.out HZ.out HS.out HY.out rfl (by omega) (.slice A' len d) len (tmCells ts) (by rfl) (HO1.out.alloc _) ⟨w1.heap.size, 0, none⟩ 1 1 [.bool false, .string s] (by rfl) (by rfl) (World.news_of_block (cs := #[.bool false, .string s]) (t := 123) (fr := (0, 0)) (heap_alloc_new w1 _)) (by simp [Value.oneCell']) (by omega) (by unfold maxLen; omega) (by omega) (by have := XB1.1; simp; omega) (w1.heap.size + 1) (by simp) ?_; intro gg cap w3 hown3 hgrow hat hlt3; have XB3 := XB2.grown hgrow (ownFar HO1.out (by omega)); have z3 := XB3.2.2.1; have z5 := XB3.2.2.2.2)
          | ((go_simp; go_at_call 135; refine (word_draw b A n c _ _ HRDd.out (by omega)).mono ?_); rintro e w1 ⟨s, ⟨rfl, hss⟩, hrd1, hg1'⟩; have hg1 : World.grownBy wr w1 (some b) := ungrown hg1'; clear hg1'; have XB1 := HXB.out.grown hg1 (by simp; omega); have y3 := XB1.2.2.1; have y2 := XB1.2.1; have RB1 := HRB.out.grown hg1 (by simp; omega); have HO1 := Lib.hid (World.ownsRow.kept (w' := w1) HO.out hg1 (ownNe HO.out (by omega))); have GG1 := grownTrans HG.out hg1; have XB2 := XB1.grown (grownBelow (below1 w1 (.cells #[.bool false, .string s] 123)) none) (by simp); have yy3 := XB2.2.2.1))
        all_goals go_wp2
        all_goals
          go_roundw
          case rel => exact ⟨k - 1, by omega, by rw [show ((k - 1 : Nat) : Int) = (k : Int) - 1 by omega], Drawing.next hbw HL.out HSM.out hl1 hlt hp' (by omega) hss HO1.out hown3 hgrow RB1 XB1 hrd1 GG1⟩
          case measure => simp [intOf]; omega
      · go_wp2_with fail
        refine (pick_any b A n c p' _ wr HRD.out (by omega) (by omega)).mono ?_; rintro e wp ⟨kk, ⟨rfl, hkk⟩, hrdp, hgp⟩
        clear hkk x1 x2 x3 x4 x5
        have HRDdp := Lib.hid (show Rd wp.drew b A n c (p' + 1) from hrdp)
        have HXBp := Lib.hid (HXB.out.grown hgp (by simp; omega))
        have HRBp := Lib.hid (HRB.out.grown hgp (by simp; omega))
        have HOp := Lib.hid (World.ownsRow.kept (w' := wp) HO.out hgp (ownNe HO.out (by omega)))
        have HGp := Lib.hid (grownTrans HG.out hgp)
        clear hrdp hgp
        obtain ⟨x1, x2, x3, x4, x5⟩ := HXBp.out
        by_cases h0 : 0 < kk
        · go_wp2_with fail
          go_region_law (first
            | (refine step_append_lies _ (by rfl) _ _ _ (by rfl) (w.heap.size + 2) 123 i0 _ 2 24 Try.underlying24 HI.out HZ.out HS.out HY.out rfl (by omega) (.slice A' len d) len (tmCells ts) (by rfl) (HO1.out.alloc _) ⟨w1.heap.size, 0, none⟩ 1 1 [.bool true, .string s] (by rfl) (by rfl) (World.news_of_block (cs := #[.bool true, .string s]) (t := 123) (fr := (0, 0)) (heap_alloc_new w1 _)) (by simp [Value.oneCell']) (by omega) (by unfold maxLen; omega) (by omega) (by have := XB1.1; simp; omega) (w1.heap.size + 1) (by simp) ?_; intro gg cap w3 hown3 hgrow hat hlt3; have XB3 := XB2.grown hgrow (ownFar HO1.out (by omega)); have z3 := XB3.2.2.1; have z5 := XB3.2.2.2.2)
            | ((go_simp; go_at_call 134; refine (var_draw b A n c _ _ HRDdp.out (by omega)).mono ?_); rintro e w1 ⟨s, ⟨rfl, hss⟩, hrd1, hg1'⟩; have hg1 : World.grownBy wp w1 (some b) := ungrown hg1'; clear hg1'; have XB1 := HXBp.out.grown hg1 (by simp; omega); have y3 := XB1.2.2.1; have y2 := XB1.2.1; have RB1 := HRBp.out.grown hg1 (by simp; omega); have HO1 := Lib.hid (World.ownsRow.kept (w' := w1) HOp.out hg1 (ownNe HOp.out (by omega))); have GG1 := grownTrans HGp.out hg1; have XB2 := XB1.grown (grownBelow (below1 w1 (.cells #[.bool true, .string s] 123)) none) (by simp); have yy3 := XB2.2.2.1))
          all_goals go_wp2
          all_goals
            go_roundw
            case rel => exact ⟨k - 1, by omega, by rw [show ((k - 1 : Nat) : Int) = (k : Int) - 1 by omega], Drawing.next hbw HL.out HSM.out hl1 hlt hp' (by omega) hss HO1.out hown3 hgrow RB1 XB1 hrd1 GG1⟩
            case measure => simp [intOf]; omega
        · go_wp2_with fail
          go_region_law (first
            | (refine step_append_lies _ (by rfl) _ _ _ (by rfl) (w.heap.size + 2) 123 i0 _ 2 24 Try.underlying24 HI.out HZ.out HS.out HY.out rfl (by omega) (.slice A' len d) len (tmCells ts) (by rfl) (HO1.out.alloc _) ⟨w1.heap.size, 0, none⟩ 1 1 [.bool false, .string s] (by rfl) (by rfl) (World.news_of_block (cs := #[.bool false, .string s]) (t := 123) (fr := (0, 0)) (heap_alloc_new w1 _)) (by simp [Value.oneCell']) (by omega) (by unfold maxLen; omega) (by omega) (by have := XB1.1; simp; omega) (w1.heap.size + 1) (by simp) ?_; intro gg cap w3 hown3 hgrow hat hlt3; have XB3 := XB2.grown hgrow (ownFar HO1.out (by omega)); have z3 := XB3.2.2.1; have z5 := XB3.2.2.2.2)
            | ((go_simp; go_at_call 135; refine (word_draw b A n c _ _ HRDdp.out (by omega)).mono ?_); rintro e w1 ⟨s, ⟨rfl, hss⟩, hrd1, hg1'⟩; have hg1 : World.grownBy wp w1 (some b) := ungrown hg1'; clear hg1'; have XB1 := HXBp.out.grown hg1 (by simp; omega); have y3 := XB1.2.2.1; have y2 := XB1.2.1; have RB1 := HRBp.out.grown hg1 (by simp; omega); have HO1 := Lib.hid (World.ownsRow.kept (w' := w1) HOp.out hg1 (ownNe HOp.out (by omega))); have GG1 := grownTrans HGp.out hg1; have XB2 := XB1.grown (grownBelow (below1 w1 (.cells #[.bool false, .string s] 123)) none) (by simp); have yy3 := XB2.2.2.1))
          all_goals go_wp2
          all_goals
            go_roundw
            case rel => exact ⟨k - 1, by omega, by rw [show ((k - 1 : Nat) : Int) = (k : Int) - 1 by omega], Drawing.next hbw HL.out HSM.out hl1 hlt hp' (by omega) hss HO1.out hown3 hgrow RB1 XB1 hrd1 GG1⟩
            case measure => simp [intOf]; omega
    · obtain ⟨r1, r2, r3, r4, r5⟩ := HRB.out
      go_wp2
      have hrow := HG.out
      refine bodyPost_ret (v := .agg #[.string nm, .slice A' len d]) (by simp [results, Try.results102, go_sem, r2, r3]) rfl ⟨nm, A', len, d, ts, p', ⟨rfl, hnm, by omega, by omega⟩, HL.out, HSM.out, ?_, ?_, ?_⟩
      · exact ownsLess (ownsRow_setCell_below (ownsRow_setCell_below HO.out (by simp) _) (by simp) _) (by omega)
      · exact (HRD.out.set (by simp; omega) _).set (by simp; omega) _
      · exact ⟨hrow.os, hrow.tape, hrow.output, by rw [size_setCell, size_setCell]; exact hrow.size, fun i hi hne => ((Below.heap_setCell _ _ _ i (by simp; omega)).trans (Below.heap_setCell _ _ _ i (by simp; omega))).trans (hrow.block i hi hne)⟩

end Go.Proofs.Ytfghmphaldefbaa
