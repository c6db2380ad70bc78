/-
  Proofs: the law's own copies of them.
-/
import Derived.Test.YtiekfjlhioekcaaDoorTree
namespace Go.Proofs.YtiekfjlhioekcaaDoor
open Go.RowKit

/-- What a row of proofs says. -/
def PfV : Nat → Says Tr
  | 0 => fun _ _ _ _ => False
  | d + 1 => fun w lo cs t => cs 0 = .string t.a.1 ∧ t.a.1.size ≤ maxLen ∧ (∃ A n c, cs 1 = .slice A n c ∧ IsTerms w lo w.heap.size A n c t.a.2) ∧ cs 2 = .int .i64 t.r ∧ ∃ B m e, cs 3 = .slice B m e ∧ IsPfs d w lo w.heap.size B m e t.ks

theorem PfV.keep : ∀ d : Nat, SaysKeep (PfV d)
  | 0 => fun _ _ _ _ _ h => h.elim
  | d + 1 => fun _ _ _ _ _ ⟨h1, h2, ⟨A, n, c, h3, h4⟩, h5, B, m, e, h6, h7⟩ hk hs => ⟨h1, h2, ⟨A, n, c, h3, h4.keep hk (Nat.le_refl _) hs⟩, h5, B, m, e, h6, h7.keep (PfE.stays d) hk (Nat.le_refl _) hs⟩
theorem PfV.cong : ∀ d : Nat, SaysCong 4 (PfV d)
  | 0 => fun _ _ _ _ _ _ h => h.elim
  | _ + 1 => fun _ _ _ _ _ hc ⟨h1, h2, ⟨A, n, c, h3, h4⟩, h5, B, m, e, h6, h7⟩ => ⟨(hc 0 (by omega)).symm.trans h1, h2, ⟨A, n, c, (hc 1 (by omega)).symm.trans h3, h4⟩, (hc 2 (by omega)).symm.trans h5, B, m, e, (hc 3 (by omega)).symm.trans h6, h7⟩

theorem PfV.is_ {w : World} {g lo : Nat} (hlo : lo ≤ g) : ∀ (d : Nat) (p : Addr) (cs : Nat → Value) (a : Tr), PfV d w (g + 1) cs a → (∀ j, j < 4 → w.cell? (⟨p.block, p.off + j, none⟩) = some (cs j)) → p.spot = none → PfE d w lo w.heap.size p a
  | 0, _, _, _, h, _, _ => h.elim
  | d + 1, p, cs, a, h, hc, hp => by
    obtain ⟨h1, h2, ⟨A, n, c, h3, h4⟩, h5, B, m, e, h6, h7⟩ := h
    obtain ⟨b, o, s⟩ := p
    simp only at hp
    subst hp
    exact ⟨by rw [← h1]; exact hc 0 (by omega), h2, ⟨A, n, c, by rw [← h3]; exact hc 1 (by omega), h4.keep (fun _ _ _ => rfl) (by omega) (Nat.le_refl _)⟩, by rw [← h5]; exact hc 2 (by omega), B, m, e, by rw [← h6]; exact hc 3 (by omega), h7.keep (PfE.stays d) (fun _ _ _ => rfl) (by omega) (Nat.le_refl _)⟩

theorem Rowed.step4 {α : Type} {T : Nat} {V : Says α} {w : World} {g n k : Nat} {xs : List α} (h : Rowed T 4 V w g n k xs) (hV : SaysKeep V) (hC : SaysCong 4 V) (x : α) (hx : xs[k]? = some x) (v0 v1 v2 v3 : Value) (hn : V w (g + 1) (fun j => if j = 3 then v3 else if j = 2 then v2 else if j = 1 then v1 else v0) x) :
    Rowed T 4 V ((((w.setCell ⟨g, k * 4, none⟩ v0).setCell ⟨g, k * 4 + 1, none⟩ v1).setCell ⟨g, k * 4 + 2, none⟩ v2).setCell ⟨g, k * 4 + 3, none⟩ v3) g n (k + 1) xs := by
  refine h.step hV hC x hx (fun f j => if j = k * 4 + 3 then v3 else if j = k * 4 + 2 then v2 else if j = k * 4 + 1 then v1 else if j = k * 4 then v0 else f j) _ hn (fun f hf => (((hf.set (k * 4) v0).set (k * 4 + 1) v1).set (k * 4 + 2) v2).set (k * 4 + 3) v3) (by simp only [size_setCell]; exact Nat.le_refl _) (fun q hq _ => ?_) (fun f i j hi hj => ?_) (fun f j hj => ?_)
  · rw [World.cell?_setCell_other _ _ _ _ (fun e => by subst e; simp at hq; omega), World.cell?_setCell_other _ _ _ _ (fun e => by subst e; simp at hq; omega), World.cell?_setCell_other _ _ _ _ (fun e => by subst e; simp at hq; omega), World.cell?_setCell_other _ _ _ _ (fun e => by subst e; simp at hq; omega)]
  · have e3 : ¬ i * 4 + j = k * 4 + 3 := by omega
    have e2 : ¬ i * 4 + j = k * 4 + 2 := by omega
    have e1 : ¬ i * 4 + j = k * 4 + 1 := by omega
    have e0 : ¬ i * 4 + j = k * 4 := by omega
    simp only [e3, e2, e1, e0, if_false]
  · match j, hj with
    | 0, _ => simp
    | 1, _ => simp
    | 2, _ => simp
    | 3, _ => simp

theorem Tryd.infoPf : (Tryd.prog.info? 35).map (fun i => (i.zero, i.size, i.bytes)) = some (some (.agg #[.string ByteArray.empty, .slice none 0 0, .int .i64 0, .slice none 0 0]), 4, 72) := by kernel_rfl

/-- A copy of proofs, in memory of its own. -/
def PfSPost (d n : Nat) (ks : List Tr) (w : World) (e : Ending) (w' : World) : Prop := ∃ g, e = .returned (.slice (some ⟨g, 0, none⟩) n n) ∧ w.heap.size ≤ g ∧ IsPfs d w' w.heap.size w'.heap.size (some ⟨g, 0, none⟩) n n ks ∧ Below w.heap.size w w'

/-- .. and of one. -/
def PfPost (d : Nat) (t : Tr) (w : World) (e : Ending) (w' : World) : Prop := ∃ A n c B m e', e = .returned (.agg #[.string t.a.1, .slice A n c, .int .i64 t.r, .slice B m e']) ∧ IsPf d w' w.heap.size w'.heap.size A n c B m e' t ∧ Below w.heap.size w w'

def ToAll (d : Nat) : Prop := ∀ (A : Option Addr) (n c : Nat) (ks : List Tr) (w : World), IsPfs d w 0 w.heap.size A n c ks → FewL d ks →
  Calls Tryd.prog 14 #[.slice A n c] w (PfSPost d n ks w)

def ToOne (d : Nat) : Prop := ∀ (A : Option Addr) (n c : Nat) (B : Option Addr) (m e : Nat) (t : Tr) (w : World), IsPf d w 0 w.heap.size A n c B m e t → FewT (d + 1) t →
  Calls Tryd.prog 6 #[.agg #[.string t.a.1, .slice A n c, .int .i64 t.r, .slice B m e]] w (PfPost d t w)

set_option maxHeartbeats 4000000 in
theorem toProof_of (d : Nat) (hQ : ToAll d) : ToOne d := by
  intro A n c B m e t w h hf
  have hn : n ≤ 1048576 := by rw [← h.1.1]; exact hf.1
  have HF := Lib.hid hf.kids
  have H := Lib.hid h; clear h hf
  go_enter Tryd.func6, Tryd.ntmps6
  go_wp2_with fail
  refine (toAtom_any _ _ _ _ t.a.2 _ (H.out.up (below3 _ _ _ _)).1 hn).mono ?_; rintro e1 w1 ⟨g, rfl, hg, ho, hb1⟩
  have xa := (((Blk.new w 27 #[.string t.a.1, .slice A n c, .int .i64 t.r, .slice B m e]).alloc (.cells #[.string ⟨#[]⟩, .slice none 0 0, .int .i64 0, .slice none 0 0] 35)).alloc (.cells #[.string ⟨#[]⟩, .slice none 0 0, .int .i64 0, .slice none 0 0] 35)).below hb1
  have xr := ((Blk.made (w.alloc (.cells #[.string t.a.1, .slice A n c, .int .i64 t.r, .slice B m e] 27)) (b := w.heap.size + 1) 35 #[.string ⟨#[]⟩, .slice none 0 0, .int .i64 0, .slice none 0 0] (by simp)).alloc (.cells #[.string ⟨#[]⟩, .slice none 0 0, .int .i64 0, .slice none 0 0] 35)).below hb1
  have xo := (Blk.made ((w.alloc (.cells #[.string t.a.1, .slice A n c, .int .i64 t.r, .slice B m e] 27)).alloc (.cells #[.string ⟨#[]⟩, .slice none 0 0, .int .i64 0, .slice none 0 0] 35)) (b := w.heap.size + 1 + 1) 35 #[.string ⟨#[]⟩, .slice none 0 0, .int .i64 0, .slice none 0 0] (by simp)).below hb1
  simp only [size_alloc_eq] at hg
  have HB1 := belowThen (below3 _ _ _ _) hb1
  have hz : w.heap.size + 1 + 1 < w1.heap.size := xo.lt
  have I1 := Lib.hid (ho.is_ (lo := w.heap.size + 1 + 1 + 1) (by unfold maxLen; omega) (by omega))
  have a2 : w1.cell? ⟨w.heap.size, 2, none⟩ = some (.int .i64 t.r) := xa.cell 2
  have o0 : w1.cell? ⟨w.heap.size + 1 + 1, 0, none⟩ = some (.string ⟨#[]⟩) := xo.cell 0
  have o1 : w1.cell? ⟨w.heap.size + 1 + 1, 1, none⟩ = some (.slice none 0 0) := xo.cell 1
  have o2 : w1.cell? ⟨w.heap.size + 1 + 1, 2, none⟩ = some (.int .i64 0) := xo.cell 2
  have q0 := xo.frozen 0; have q1 := xo.frozen 1; have q2 := xo.frozen 2
  obtain ⟨W1, hW1⟩ : ∃ W1, ((w1.setCell ⟨w.heap.size + 1 + 1, 0, none⟩ (.string t.a.1)).setCell ⟨w.heap.size + 1 + 1, 1, none⟩ (.slice (some ⟨g, 0, none⟩) n n)).setCell ⟨w.heap.size + 1 + 1, 2, none⟩ (.int .i64 t.r) = W1 := ⟨_, rfl⟩
  have hsz1 : W1.heap.size = w1.heap.size := by rw [← hW1]; simp only [size_setCell]
  have hh1 : ∀ b, b ≠ w.heap.size + 1 + 1 → W1.heap[b]? = w1.heap[b]? := fun b hb => by
    rw [← hW1]
    exact (Below.heap_setCell _ _ _ b hb).trans ((Below.heap_setCell _ _ _ b hb).trans (Below.heap_setCell _ _ _ b hb))
  have BW1 : Below w.heap.size w W1 := by
    rw [← hW1]
    exact ((HB1.setCell (p := ⟨w.heap.size + 1 + 1, 0, none⟩) (by simp; omega) _).setCell (p := ⟨w.heap.size + 1 + 1, 1, none⟩) (by simp; omega) _).setCell (p := ⟨w.heap.size + 1 + 1, 2, none⟩) (by simp; omega) _
  have xo1 : Blk W1 (w.heap.size + 1 + 1) 35 #[.string t.a.1, .slice (some ⟨g, 0, none⟩) n n, .int .i64 t.r, .slice none 0 0] := by
    rw [← hW1]; exact ((xo.set 0 _).set 1 _).set 2 _
  have xa1 : Blk W1 w.heap.size 27 #[.string t.a.1, .slice A n c, .int .i64 t.r, .slice B m e] := (hh1 _ (by omega)).trans xa
  have xr1 : Blk W1 (w.heap.size + 1) 35 #[.string ⟨#[]⟩, .slice none 0 0, .int .i64 0, .slice none 0 0] := (hh1 _ (by omega)).trans xr
  have a3 : W1.cell? ⟨w.heap.size, 3, none⟩ = some (.slice B m e) := xa1.cell 3
  have IW1 := Lib.hid (I1.out.keep (w' := W1) (lo' := w.heap.size + 1 + 1 + 1) (hi' := W1.heap.size) (fun q h1 _ => World.cell?_of_block (hh1 q.block (by omega))) (Nat.le_refl _) (by omega))
  have HB := Lib.hid BW1; have HW1 := Lib.hid hW1; have XO := Lib.hid xo1; have XR := Lib.hid xr1
  have hgW : w.heap.size + 1 + 1 < W1.heap.size := by omega
  clear hh1 hW1 BW1 hsz1 ho xa xr xo xo1 xa1 xr1 hb1 I1 HB1
  go_wp2_with (rw [HW1.out])
  refine (hQ _ _ _ t.ks _ (H.out.up HB.out).2 HF.out).mono ?_; rintro e2 w2 ⟨g2, rfl, hg2, hp2, hb2⟩
  clear a2 o0 o1 o2 q0 q1 q2 a3
  have xo2 := XO.out.below hb2; have xr2 := XR.out.below hb2
  have o0 : w2.cell? ⟨w.heap.size + 1 + 1, 0, none⟩ = some (.string t.a.1) := xo2.cell 0
  have o1 : w2.cell? ⟨w.heap.size + 1 + 1, 1, none⟩ = some (.slice (some ⟨g, 0, none⟩) n n) := xo2.cell 1
  have o2 : w2.cell? ⟨w.heap.size + 1 + 1, 2, none⟩ = some (.int .i64 t.r) := xo2.cell 2
  have o3 : w2.cell? ⟨w.heap.size + 1 + 1, 3, none⟩ = some (.slice none 0 0) := xo2.cell 3
  have q3 := xo2.frozen 3
  have r0 : w2.cell? ⟨w.heap.size + 1, 0, none⟩ = some (.string ⟨#[]⟩) := xr2.cell 0
  have r1 : w2.cell? ⟨w.heap.size + 1, 1, none⟩ = some (.slice none 0 0) := xr2.cell 1
  have r2 : w2.cell? ⟨w.heap.size + 1, 2, none⟩ = some (.int .i64 0) := xr2.cell 2
  have r3 : w2.cell? ⟨w.heap.size + 1, 3, none⟩ = some (.slice none 0 0) := xr2.cell 3
  have f0 := xr2.frozen 0; have f1 := xr2.frozen 1; have f2 := xr2.frozen 2; have f3 := xr2.frozen 3
  have I2 := Lib.hid (IW1.out.keep (w' := w2) (lo' := w.heap.size + 1 + 1 + 1) (hi' := w2.heap.size) (fun q _ h2 => hb2.cell (p := q) h2) (Nat.le_refl _) hb2.size)
  have K2 := Lib.hid hp2
  have HB2 := Lib.hid (belowThen HB.out hb2)
  obtain ⟨W2, hW2⟩ : ∃ W2, ((((w2.setCell ⟨w.heap.size + 1 + 1, 3, none⟩ (.slice (some ⟨g2, 0, none⟩) m m)).setCell ⟨w.heap.size + 1, 0, none⟩ (.string t.a.1)).setCell ⟨w.heap.size + 1, 1, none⟩ (.slice (some ⟨g, 0, none⟩) n n)).setCell ⟨w.heap.size + 1, 2, none⟩ (.int .i64 t.r)).setCell ⟨w.heap.size + 1, 3, none⟩ (.slice (some ⟨g2, 0, none⟩) m m) = W2 := ⟨_, rfl⟩
  have hsz2 : W2.heap.size = w2.heap.size := by rw [← hW2]; simp only [size_setCell]
  have hh2 : ∀ b, w.heap.size + 1 + 1 < b ∨ b < w.heap.size → W2.heap[b]? = w2.heap[b]? := fun b hb => by
    rw [← hW2]
    exact (Below.heap_setCell _ _ _ b (by show b ≠ w.heap.size + 1; omega)).trans ((Below.heap_setCell _ _ _ b (by show b ≠ w.heap.size + 1; omega)).trans ((Below.heap_setCell _ _ _ b (by show b ≠ w.heap.size + 1; omega)).trans ((Below.heap_setCell _ _ _ b (by show b ≠ w.heap.size + 1; omega)).trans (Below.heap_setCell _ _ _ b (by show b ≠ w.heap.size + 1 + 1; omega)))))
  have BW2 : Below w.heap.size w W2 := by
    rw [← hW2]
    exact ((((HB2.out.setCell (p := ⟨w.heap.size + 1 + 1, 3, none⟩) (by simp; omega) _).setCell (p := ⟨w.heap.size + 1, 0, none⟩) (by simp) _).setCell (p := ⟨w.heap.size + 1, 1, none⟩) (by simp) _).setCell (p := ⟨w.heap.size + 1, 2, none⟩) (by simp) _).setCell (p := ⟨w.heap.size + 1, 3, none⟩) (by simp) _
  have xr3 : Blk W2 (w.heap.size + 1) 35 #[.string t.a.1, .slice (some ⟨g, 0, none⟩) n n, .int .i64 t.r, .slice (some ⟨g2, 0, none⟩) m m] := by
    rw [← hW2]; exact ((((xr2.far (p := ⟨w.heap.size + 1 + 1, 3, none⟩) (by show w.heap.size + 1 ≠ w.heap.size + 1 + 1; omega) _).set 0 _).set 1 _).set 2 _).set 3 _
  have y0 : W2.cell? ⟨w.heap.size + 1, 0, none⟩ = some (.string t.a.1) := xr3.cell 0
  have y1 : W2.cell? ⟨w.heap.size + 1, 1, none⟩ = some (.slice (some ⟨g, 0, none⟩) n n) := xr3.cell 1
  have y2 : W2.cell? ⟨w.heap.size + 1, 2, none⟩ = some (.int .i64 t.r) := xr3.cell 2
  have y3 : W2.cell? ⟨w.heap.size + 1, 3, none⟩ = some (.slice (some ⟨g2, 0, none⟩) m m) := xr3.cell 3
  have RES : PfPost d t w (.returned (.agg #[.string t.a.1, .slice (some ⟨g, 0, none⟩) n n, .int .i64 t.r, .slice (some ⟨g2, 0, none⟩) m m])) W2 :=
    ⟨_, _, _, _, _, _, rfl, ⟨I2.out.keep (fun q h1 _ => World.cell?_of_block (hh2 q.block (.inl (by omega)))) (by omega) (by omega), K2.out.keep (PfE.stays d) (fun q h1 _ => World.cell?_of_block (hh2 q.block (.inl (by omega)))) (by omega) (by omega)⟩, BW2⟩
  have HRES := Lib.hid RES; have HW2 := Lib.hid hW2
  clear RES hW2 hh2 hsz2 BW2 xr3 hp2 hb2 xo2 xr2
  go_wp2_with (rw [HW2.out])
  refine bodyPost_ret (v := .agg #[.string t.a.1, .slice (some ⟨g, 0, none⟩) n n, .int .i64 t.r, .slice (some ⟨g2, 0, none⟩) m m]) (by simp [results, Tryd.results6, go_sem, y0, y1, y2, y3]) rfl HRES.out

set_option maxHeartbeats 4000000 in
theorem toProofS_of (d : Nat) (hP : ∀ d', d = d' + 1 → ToOne d') : ToAll d := by
  intro A n c ks w h hn
  obtain ⟨hn1, hn2⟩ := hn
  have hl0 : n ≤ 1048576 := by rw [← h.1]; exact hn1
  obtain ⟨i0, hi, hz, hsz, hby⟩ := info_parts Tryd.infoPf
  have hmk : ∀ W : World, (Instr.makeSlice 33 (.int .i64 (n : Int)) (.int .i64 (n : Int))).run Tryd.prog W = .ok (.slice (some ⟨W.heap.size, 0, none⟩) n n) (W.alloc (.cells (madeCells #[.string ByteArray.empty, .slice none 0 0, .int .i64 0, .slice none 0 0] (n * 4)) 35)) := by
    intro W
    have hr := run_make (P := Tryd.prog) W 33 35 i0 _ Tryd.underlying33 hi hz .i64 .i64 n n (by omega) (Int.le_refl _) (by rw [hby]; omega) (by omega)
    rw [hsz] at hr
    exact hr
  clear hi hz hsz hby
  have HN := Lib.hid hn2; clear hn2
  have H := Lib.hid h; clear h
  go_enter Tryd.func14, Tryd.ntmps14
  go_wp2
  go_loopw [4] (fun i wr => ∃ k : Nat, k ≤ n ∧ i = .int .i64 k ∧ Rowed 35 4 (PfV d) wr w.heap.size n k ks ∧ Below w.heap.size w wr) (fun i _ => n - (intOf i).toNat)
  case atStart => exact ⟨0, Nat.zero_le _, rfl, Rowed.start w _, below1 _ _⟩
  case round =>
    obtain ⟨k, hk, rfl, hf, hb⟩ := hrel
    have HF := Lib.hid hf; clear hf
    by_cases hlt : k < n
    · obtain ⟨p, r, hA, hpb, hhi, hg, hE⟩ := (H.out.below (PfE.stays d) hb (Nat.le_refl _)).at_ hlt
      cases d with
      | zero => exact hE.elim
      | succ d' =>
        obtain ⟨A', n', c', B, m, e, d1, d2, d3, d4, d5, d6⟩ := hE.val
        clear hE
        subst hA
        have HQ := Lib.hid (HN.out r (List.mem_of_getElem? hg))
        have HG := Lib.hid hg
        have HR := Lib.hid (d6.keep (w' := wr) (lo' := 0) (hi' := wr.heap.size) (fun _ _ _ => rfl) (Nat.le_refl _) hb.size)
        have HN2 := Lib.hid d2
        clear hg d2 d6
        go_wp2_with fail
        refine (hP d' rfl _ _ _ _ _ _ r _ HR.out HQ.out).mono ?_; rintro e1 w1 ⟨A1, n1, c1, B1, m1, e2, rfl, ho1, hb1⟩
        have HF1 := HF.out.below (PfV.keep (d' + 1)) hb1
        have hg0 : w.heap.size < wr.heap.size := HF.out.lt
        obtain ⟨⟨x0, hx0⟩, hz0⟩ := HF1.cells (j := k * 4) (by omega)
        obtain ⟨⟨x1, hx1⟩, hz1⟩ := HF1.cells (j := k * 4 + 1) (by omega)
        obtain ⟨⟨x2, hx2⟩, hz2⟩ := HF1.cells (j := k * 4 + 2) (by omega)
        obtain ⟨⟨x3, hx3⟩, hz3⟩ := HF1.cells (j := k * 4 + 3) (by omega)
        have HT1 := Lib.hid (ho1.keep (w' := w1) (lo' := w.heap.size + 1) (hi' := w1.heap.size) (fun _ _ _ => rfl) (by omega) (Nat.le_refl _))
        clear ho1
        have HF2 := Lib.hid HF1
        clear HF1
        go_wp2
        go_roundw
        case rel => exact ⟨k + 1, by omega, by go_num, HF2.out.step4 (PfV.keep (d' + 1)) (PfV.cong (d' + 1)) r HG.out _ _ _ _ ⟨rfl, HN2.out, ⟨_, _, _, rfl, HT1.out.1⟩, rfl, _, _, _, rfl, HT1.out.2⟩, ((((belowThen hb hb1).setCell (Nat.le_refl _) _).setCell (Nat.le_refl _) _).setCell (Nat.le_refl _) _).setCell (Nat.le_refl _) _⟩
        case measure => simp [intOf]; omega
    · go_wp2
      go_ret
      exact ⟨_, rfl, Nat.le_refl _, HF.out.is_ hlt H.out.1 (by unfold maxLen; omega) (Nat.le_refl _) (PfV.is_ (Nat.le_refl _) d), hb⟩

theorem toProofS_any : ∀ d : Nat, ToAll d
  | 0 => toProofS_of 0 (fun _ e => by omega)
  | d + 1 => toProofS_of (d + 1) (fun d' e => by
    have e2 : d = d' := by omega
    subst e2
    exact toProof_of d (toProofS_any d))

theorem toProof_any (d : Nat) : ToOne d := toProof_of d (toProofS_any d)

end Go.Proofs.YtiekfjlhioekcaaDoor
