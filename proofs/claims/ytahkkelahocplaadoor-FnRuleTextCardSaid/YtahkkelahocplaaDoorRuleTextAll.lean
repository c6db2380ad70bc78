/-
  Texts of one claim, put together.
-/
import Derived.Test.YtahkkelahocplaaDoorTextKit
import Derived.Test.YtahkkelahocplaaDoorRule2
import Derived.Test.YtahkkelahocplaaDoorDrawBody
import Derived.Test.YtahkkelahocplaaDoorDrawText
import Derived.Test.YtahkkelahocplaaDoorRule
import Derived.Test.YtahkkelahocplaaDoorRuleGetAll
import Derived.Test.YtahkkelahocplaaDoorRule4
import Derived.Test.YtahkkelahocplaaDoorRKeep
namespace Go.Proofs.YtahkkelahocplaaDoor
open Go.RowKit

set_option maxRecDepth 100000 in
set_option maxHeartbeats 4000000 in
theorem fsParts_same (A B : Option Addr) (n c n' c' : Nat) (xs : List Pt) (w : World) (h : IsParts w 0 w.heap.size A n c xs) (h' : IsParts w 0 w.heap.size B n' c' xs) :
    Calls Tryd.prog 42 #[.slice A n c, .slice B n' c'] w (BoolPost true w) := by
  have hm := h.len
  unfold maxLen at hm
  have hn : n = n' := h.1.symm.trans h'.1
  subst hn
  have H := Lib.hid h; clear h
  have H' := Lib.hid h'; clear h'
  go_enter Tryd.func42, Tryd.ntmps42
  go_wp2
  go_loopw [5] (fun i wr => ∃ k : Nat, k ≤ n ∧ i = .int .i64 k ∧ Below w.heap.size w wr) (fun i _ => n - (intOf i).toNat)
  case atStart => exact ⟨0, Nat.zero_le _, rfl, Below.refl _ _⟩
  case round =>
    obtain ⟨k, hk, rfl, hb⟩ := hrel
    by_cases hlt : k < n
    · have hltI : (k : Int) < (n : Int) := by omega
      obtain ⟨p, q, hA, hlo, hhi, hg, hE⟩ := (H.out.below PartE.stays hb (Nat.le_refl _)).at_ hlt
      obtain ⟨p', q', hA', hlo', hhi', hg', hE'⟩ := (H'.out.below PartE.stays hb (Nat.le_refl _)).at_ hlt
      obtain rfl : q = q' := by rw [hg] at hg'; exact Option.some.inj hg'
      obtain ⟨C, m, d, d1, d2, d3, d4, d5⟩ := hE.out
      obtain ⟨C', m', d', f1, f2, f3, f4, f5⟩ := hE'.out
      clear hE hE' hg hg'
      subst hA; subst hA'
      have hz := hb.size
      have HT := Lib.hid (d5.keep (w' := wr) (lo' := 0) (hi' := wr.heap.size) (fun _ _ _ => rfl) (Nat.le_refl _) hz); clear d5
      have HT' := Lib.hid (f5.keep (w' := wr) (lo' := 0) (hi' := wr.heap.size) (fun _ _ _ => rfl) (Nat.le_refl _) hz); clear f5
      have blk : (p.add (k * 3)).block < wr.heap.size := by rw [block_add]; omega
      have blk' : (p'.add (k * 3)).block < wr.heap.size := by rw [block_add]; omega
      have HB := Lib.hid hb; clear hb
      have hB : Below wr.heap.size wr wr := Below.refl _ _
      have c0 := (hB.cell (p := p.add (k * 3)) blk).trans d1; have c1 := (hB.cell (p := ⟨(p.add (k * 3)).block, (p.add (k * 3)).off + 1, none⟩) blk).trans d2; have c2 := (hB.cell (p := ⟨(p.add (k * 3)).block, (p.add (k * 3)).off + 2, none⟩) blk).trans d4; have c3 := (hB.cell (p := p'.add (k * 3)) blk').trans f1; have c4 := (hB.cell (p := ⟨(p'.add (k * 3)).block, (p'.add (k * 3)).off + 1, none⟩) blk').trans f2; have c5 := (hB.cell (p := ⟨(p'.add (k * 3)).block, (p'.add (k * 3)).off + 2, none⟩) blk').trans f4
      go_wp2_with fail
      go_region_held3 (fun W => Below wr.heap.size wr W ∧ W.cell? (p.add (k * 3)) = some (.bool q.1) ∧ W.cell? (⟨(p.add (k * 3)).block, (p.add (k * 3)).off + 1, none⟩) = some (.string q.2.1) ∧ W.cell? (⟨(p.add (k * 3)).block, (p.add (k * 3)).off + 2, none⟩) = some (.slice C m d) ∧ W.cell? (p'.add (k * 3)) = some (.bool q.1) ∧ W.cell? (⟨(p'.add (k * 3)).block, (p'.add (k * 3)).off + 1, none⟩) = some (.string q.2.1) ∧ W.cell? (⟨(p'.add (k * 3)).block, (p'.add (k * 3)).off + 2, none⟩) = some (.slice C' m' d')) (first | exact ⟨hB, c0, c1, c2, c3, c4, c5⟩ | exact ⟨hB.drew, c0, c1, c2, c3, c4, c5⟩) ((go_at_call 20; (with_reducible refine (fs_tells (nm := q.2.1) (nm' := q.2.1) HT.out HT'.out rfl (by first | exact hB | exact hB.drew | exact (Below.refl _ _).drew | exact Below.refl _ _)).mono ?_); rintro e W5 ⟨rfl, hB⟩; have c0 := (hB.cell (p := p.add (k * 3)) blk).trans d1; have c1 := (hB.cell (p := ⟨(p.add (k * 3)).block, (p.add (k * 3)).off + 1, none⟩) blk).trans d2; have c2 := (hB.cell (p := ⟨(p.add (k * 3)).block, (p.add (k * 3)).off + 2, none⟩) blk).trans d4; have c3 := (hB.cell (p := p'.add (k * 3)) blk').trans f1; have c4 := (hB.cell (p := ⟨(p'.add (k * 3)).block, (p'.add (k * 3)).off + 1, none⟩) blk').trans f2; have c5 := (hB.cell (p := ⟨(p'.add (k * 3)).block, (p'.add (k * 3)).off + 2, none⟩) blk').trans f4))
      have hB0 := Lib.hid hB
      clear hB c0 c1 c2 c3 c4 c5 d1 d2 d4 f1 f2 f4
      go_wp2
      go_roundw
      case rel => exact ⟨k + 1, by omega, by go_num, belowThen HB.out hB0.out⟩
      case measure => simp [intOf]; omega
    · have hltI : ¬ (k : Int) < (n : Int) := by omega
      go_wp2
      go_ret
      exact ⟨rfl, hb⟩

set_option maxHeartbeats 1000000 in
theorem fsRule_same (nm nm' : ByteArray) (A A' B B' : Option Addr) (n c m d n' c' m' d' : Nat) (ts us : List Tm) (xs ys : List Pt) (w : World) (h : IsRule w w.heap.size A n c B m d ts xs) (h' : IsRule w w.heap.size A' n' c' B' m' d' us ys) (he : (((nm, ts), xs) : Rl) = ((nm', us), ys)) :
    Calls Tryd.prog 30 #[.agg #[.string nm, .slice A n c, .slice B m d], .agg #[.string nm', .slice A' n' c', .slice B' m' d']] w (BoolPost true w) := by
  obtain ⟨rfl, rfl, rfl⟩ : nm = nm' ∧ ts = us ∧ xs = ys := by
    simp only [Prod.mk.injEq] at he; exact ⟨he.1.1, he.1.2, he.2⟩
  have hmm : m = m' := h.2.1.symm.trans h'.2.1
  subst hmm
  have H := Lib.hid h; clear h
  have H' := Lib.hid h'; clear h'
  have hw0 := below2 w (.cells #[.string nm, .slice A n c, .slice B m d] 38) (.cells #[.string nm, .slice A' n' c', .slice B' m d'] 38)
  have X0 := Lib.hid ((Box3.new w (.string nm) (.slice A n c) (.slice B m d) 38).later (below1 _ (.cells #[.string nm, .slice A' n' c', .slice B' m d'] 38)))
  have Y0 := Lib.hid (Box3.new (w.alloc (.cells #[.string nm, .slice A n c, .slice B m d] 38)) (.string nm) (.slice A' n' c') (.slice B' m d') 38)
  go_enter Tryd.func30, Tryd.ntmps30
  go_wp2_with fail
  refine (fs_tells (nm := nm) (nm' := nm) (H.out.up hw0).1 (H'.out.up hw0).1 rfl (Below.refl _ _)).mono ?_; rintro e w1 ⟨rfl, hb1⟩
  have HB1 := belowThen hw0 hb1
  obtain ⟨x1, x2, x3, x4⟩ := X0.out.later hb1
  obtain ⟨y1, y2, y3, y4⟩ := Y0.out.later hb1
  simp only [size_alloc_eq] at y1 y2 y3 y4
  go_wp2_with fail
  refine (fsParts_same _ _ _ _ _ _ xs _ (H.out.up HB1).2 (H'.out.up HB1).2).mono ?_; rintro e w2 ⟨rfl, hb2⟩
  go_wp2
  go_ret; exact ⟨rfl, belowThen HB1 hb2⟩

end Go.Proofs.YtahkkelahocplaaDoor

namespace Go.Proofs.YtahkkelahocplaaDoor
open Go.RowKit

/-- A rule was drawn. -/
def DrawnRule (w : World) (e : Ending) (w' : World) : Prop :=
  ∃ (nm : ByteArray) (A : Option Addr) (k d : Nat) (ts : List Tm) (B : Option Addr) (m c : Nat) (xs : List Pt), (e = .returned (.agg #[.string nm, .slice A k d, .slice B m c]) ∧ nm.size ≤ 16) ∧ IsRule w' w'.heap.size A k d B m c ts xs ∧ Below w.heap.size w w'

set_option maxRecDepth 100000 in
set_option maxHeartbeats 8000000 in
theorem drawRulePut_any (A : Option Addr) (n c : Nat) (w : World) (h : IsBytes w w.heap.size A n c) :
    Calls Tryd.prog 27 #[.slice A n c] w (DrawnRule w) := by
  obtain ⟨i0, hi, hz, hsz, hby⟩ := info_parts Tryd.infoPart
  have HI := Lib.hid hi; have HZ := Lib.hid hz; have HSZ := Lib.hid hsz; have HYY := Lib.hid hby
  clear hi hz hsz hby
  go_enter Tryd.func27, Tryd.ntmps27
  go_wp2_with fail
  have hX0 := Blk.new w 38 #[.string ⟨#[]⟩, .slice none 0 0, .slice none 0 0]
  refine (open_any A n c _ (h.up (below1 w _))).mono ?_; rintro e w1 ⟨b, n', ⟨rfl, hb⟩, hr, hb1⟩
  rw [size_alloc_eq] at hb
  have X1 := Lib.hid (hX0.below hb1)
  have HB1 := Lib.hid (belowThen (below1 w _) hb1)
  have hbw : b < w1.heap.size := hr.1
  have R1 := Lib.hid hr
  clear hX0 hb1 hr
  go_wp2_with fail
  refine (any_atom_draw b A n' c 0 w1 R1.out (by omega)).mono ?_; rintro e w2 ⟨nm, A', k, d', ts, p2, ⟨rfl, hnm, hk, hp2⟩, hlen, hs2, hown2, hrd2, hg2⟩
  have HH := Lib.hid ((head_drawn hnm hlen hs2 hown2).keep (w' := w2) (lo' := w1.heap.size) (hi' := w2.heap.size) (fun _ _ _ => rfl) (Nat.le_refl _) (Nat.le_refl _))
  have HNM := Lib.hid hnm; have HLN := Lib.hid hlen
  have hz2 := hg2.size
  have HS3 := Lib.hid (laid nmB w2 #[.string ⟨#[101]⟩, .string ⟨#[112]⟩, .string ⟨#[116]⟩] 9 (by rfl))
  have hb23 := below1 w2 (.cells #[.string ⟨#[101]⟩, .string ⟨#[112]⟩, .string ⟨#[116]⟩] 9)
  have HHb := Lib.hid (HH.out.on hb23)
  have R3 := Lib.hid (hrd2.below hb23)
  have G3 := Lib.hid (grownTrans hg2 (grownBelow hb23 (some b)))
  clear hlen hs2 hown2 hrd2 hg2 hnm hb23 HH
  have hz3 : w2.heap.size < (w2.alloc (.cells #[.string ⟨#[101]⟩, .string ⟨#[112]⟩, .string ⟨#[116]⟩] 9)).heap.size := by simp
  go_wp2_with fail
  obtain ⟨W3, hW3⟩ : ∃ W3, (w2.alloc (.cells #[.string ⟨#[101]⟩, .string ⟨#[112]⟩, .string ⟨#[116]⟩] 9)) = W3 := ⟨_, rfl⟩
  rw [hW3] at HS3 HHb R3 G3 hz3 ⊢
  clear hW3
  refine (body_draw b w2.heap.size 3 A n' c p2 _ R3.out (by omega) (by omega) (by omega) (by omega) HS3.out).mono ?_; rintro e w4 ⟨v4, ps, p4, rfl, hl4, hp4, hDP, hQ4⟩
  obtain ⟨B4, d4, hv4, _⟩ := ty_parts hDP.row rfl hDP.hd
  subst hv4
  obtain ⟨m4, hm4⟩ : ∃ m4, ps.length = m4 := ⟨_, rfl⟩
  have HDP := Lib.hid hDP
  rw [hm4] at HDP hl4 ⊢
  have HM4 := Lib.hid hm4
  have hz4 := hDP.gr.size
  have hz31 := G3.out.size
  have HX4 : Hid (XB b A n' c w1 w4.heap.size (nm, A', k, d', ts) p4 (.slice none 0 0) [] W3 B4 m4 d4 ps (w4.alloc (.cells #[.string nm, .slice A' k d', .slice B4 m4 d4] 38))) := by
    have h1 : Old w1 (.slice none 0 0) [] (nm, A', k, d', ts) W3 W3 := ⟨⟨rfl, .inl ⟨rfl, rfl⟩⟩, fun r hr => absurd hr List.not_mem_nil, HHb.out, fun g hg => by simp [Value.ownBlock] at hg, hz31⟩
    have XO := h1.keep (grown_low hDP.gr (show b < w1.heap.size from hbw) (Nat.le_refl _))
    have hbx := below1 w4 (.cells #[.string nm, .slice A' k d', .slice B4 m4 d4] 38)
    exact Lib.hid ⟨XO.keep (fun y _ hy => hbx.block y (by omega)), HDP.out.below (by omega) hbx, Blk.new w4 _ _, hz4, grownTrans (grownTrans G3.out hDP.gr) (grownBelow hbx (some b))⟩
  clear hDP hQ4 hm4 HDP R3 HHb HS3 R1
  go_wp2_with fail
  rename_i K3 a3 KC3 aC3 KL3 aL3
  have REST : ∀ (y0 y1 y5 y6 y7 y8 y9 y10 y11 y12 y13 y14 y15 y16 y17 y18 y19 y20 y21 y22 y23 y24 y25 y26 y27 y28 y29 y30 y31 y32 y33 y34 y35 y36 : Value) (C : Option Addr) (m e : Nat) (qs : List Pf) (p5 : Nat) (W : World), qs.length = m → m ≤ 3 → p5 ≤ p4 + 1 → XB b A n' c w1 w4.heap.size (nm, A', k, d', ts) p5 (.slice none 0 0) [] W3 C m e qs W → K3 { tmps := #[y0, y1, .pointer (some ⟨w.heap.size, 0, none⟩), .pointer (some ⟨b, 0, none⟩), .pointer (some ⟨w4.heap.size, 0, none⟩), y5, y6, y7, y8, y9, y10, y11, y12, y13, y14, y15, y16, y17, y18, y19, y20, y21, y22, y23, y24, y25, y26, y27, y28, y29, y30, y31, y32, y33, y34, y35, y36], defers := [] } W := by
    intro y0 y1 y5 y6 y7 y8 y9 y10 y11 y12 y13 y14 y15 y16 y17 y18 y19 y20 y21 y22 y23 y24 y25 y26 y27 y28 y29 y30 y31 y32 y33 y34 y35 y36 C m e qs p5 W hm hm3 hp5 hX
    have HM := Lib.hid hm; have HX := Lib.hid hX
    clear hm hX HX4 HM4
    refine a3 _ _ ?_
    clear a3 aC3 aL3
    go_wp2_with fail
    rename_i K4 a4 KC4 aC4 KL4 aL4
    have REST2 : ∀ (y0 y1 y5 y6 y7 y8 y9 y10 y11 y12 y13 y14 y15 y16 y17 y18 y19 y20 y21 y22 y23 y24 y25 y26 y27 y28 y29 y30 y31 y32 y33 y34 y35 y36 : Value) (C : Option Addr) (m e : Nat) (qs : List Pf) (p5 : Nat) (W : World), qs.length = m → XB b A n' c w1 w4.heap.size (nm, A', k, d', ts) p5 (.slice none 0 0) [] W3 C m e qs W → K4 { tmps := #[y0, y1, .pointer (some ⟨w.heap.size, 0, none⟩), .pointer (some ⟨b, 0, none⟩), .pointer (some ⟨w4.heap.size, 0, none⟩), y5, y6, y7, y8, y9, y10, y11, y12, y13, y14, y15, y16, y17, y18, y19, y20, y21, y22, y23, y24, y25, y26, y27, y28, y29, y30, y31, y32, y33, y34, y35, y36], defers := [] } W := by
      intro y0 y1 y5 y6 y7 y8 y9 y10 y11 y12 y13 y14 y15 y16 y17 y18 y19 y20 y21 y22 y23 y24 y25 y26 y27 y28 y29 y30 y31 y32 y33 y34 y35 y36 C m e qs p5 W hm hX
      have HM := Lib.hid hm; have HX0 := HX; clear HX; have HX := Lib.hid hX
      clear hm hX HX0
      refine a4 _ _ ?_
      clear a4 aC4 aL4
      have x0 : W.cell? ⟨w4.heap.size, 0, none⟩ = some (.string nm) := HX.out.X.cell 0
      have x1 : W.cell? ⟨w4.heap.size, 1, none⟩ = some (.slice A' k d') := HX.out.X.cell 1
      have x2 : W.cell? ⟨w4.heap.size, 2, none⟩ = some (.slice C m e) := HX.out.X.cell 2
      have XB0 := X1.out.kept HX.out.gr (fun e => by injection e with e; omega)
      have z0 := XB0.cell 0; have z1 := XB0.cell 1; have z2 := XB0.cell 2; have f0 := XB0.frozen 0; have f1 := XB0.frozen 1; have f2 := XB0.frozen 2
      have hlt := X1.out.lt
      have hzW := HX.out.gr.size
      have TR := HX.out.rule HM.out
      have HT := Lib.hid TR.1.2.1; have HP := Lib.hid TR.2.parts
      have HBW := Lib.hid (HB1.out.grown HX.out.gr HB1.out.size (fun k hk => by injection hk with hk; omega))
      clear TR XB0
      go_wp2
      refine bodyPost_ret (v := .agg #[.string nm, .slice A' k d', .slice C m e]) (by simp [results, Tryd.results27, go_sem, z0, z1, z2]) rfl ⟨nm, A', k, d', ts, C, m, e, qs.map pAt, ⟨rfl, HNM.out.1⟩, ⟨?_, ?_⟩, ((HBW.out.setCell (by simp) _).setCell (by simp) _).setCell (by simp) _⟩
      · exact HT.out.keep (fun q h1 _ => World.cell?_of_block (((Below.heap_setCell _ _ _ _ (by simp; omega)).trans (Below.heap_setCell _ _ _ _ (by simp; omega))).trans (Below.heap_setCell _ _ _ _ (by simp; omega)))) (Nat.zero_le _) (by simp)
      · exact HP.out.keep PartE.stays (fun q h1 _ => World.cell?_of_block (((Below.heap_setCell _ _ _ _ (by simp; omega)).trans (Below.heap_setCell _ _ _ _ (by simp; omega))).trans (Below.heap_setCell _ _ _ _ (by simp; omega)))) (Nat.zero_le _) (by simp)
    have HREST2 := Lib.hid REST2; clear REST2 a4
    refine (pick_any b A n' c p5 16 _ HX.out.P.rd (by omega) (by omega)).mono ?_; rintro e_ w6 ⟨kk, ⟨rfl, hkk⟩, hr6, hg6⟩
    have HX6 := Lib.hid (HX.out.step hbw hg6 hr6)
    clear hr6 hg6 HX hkk
    by_cases hkk0 : kk = 0
    · subst hkk0
      go_wp2_with fail
      go_loopw [] (fun wr => ∃ (C : Option Addr) (m e : Nat) (qs : List Pf) (p6 : Nat), qs.length = m ∧ m ≤ 5 ∧ p6 ≤ p4 + 10 + 60 * m ∧ XB b A n' c w1 w4.heap.size (nm, A', k, d', ts) p6 (.slice none 0 0) [] W3 C m e qs wr) (fun wr => match wr.cell? ⟨w4.heap.size, 2, none⟩ with | some (.slice _ len _) => 6 - len | _ => 0)
      case atStart => exact ⟨C, m, e, qs, p5 + 1, HM.out, by omega, by omega, HX6.out⟩
      case round =>
        obtain ⟨C, m, e, qs, p6, hm, hm5, hp6, hX⟩ := hrel
        clear HM HX6
        have HM := Lib.hid hm; have HX := Lib.hid hX
        have y0 : wr.cell? ⟨w4.heap.size, 2, none⟩ = some (.slice C m e) := hX.X.cell 2
        have R5 := Lib.hid (show Rd wr.drew b A n' c p6 from hX.P.rd)
        have HWR := Lib.hid (show ∀ m : Nat, m < 2 → IntKind.i64.wrap (4 + (m : Int)) = 4 + (m : Int) from fun m hm => by rw [IntKind.wrap_i64]; omega)
        clear hm hX
        go_wp2_with fail
        go_region_held3 (fun W => W.cell? ⟨w4.heap.size, 2, none⟩ = some (.slice C m e))
          (first | exact y0 | exact yy4)
          (((with_reducible refine (pick_any b A n' c p6 _ _ R5.out (by omega) (by omega)).mono ?_); rintro e_ w7 ⟨kk, ⟨rfl, hkk⟩, hr7, hg7'⟩; have hg7 : wr.grownBy w7 (some b) := ungrown hg7'; clear hg7'; have HX7 := Lib.hid (HX.out.step hbw hg7 hr7); have yy4 : w7.cell? ⟨w4.heap.size, 2, none⟩ = some (.slice C m e) := HX7.out.X.cell 2; have hk2 : kk < 2 := (by omega); have hw3 := HWR.out kk hk2))
        clear R5 HWR hkk hr7 hg7
        by_cases hlt : m < 4 + kk
        · have hltI : (m : Int) < 4 + (kk : Int) := by omega
          have R7 := Lib.hid (show Rd w7.drew b A n' c (p6 + 1) from HX7.out.P.rd)
          have hz7 := HX7.out.P.gr.size
          go_wp2_with fail
          go_region_law (first
            | (refine step_append_lies _ (by rfl) _ _ _ (by rfl) W3.heap.size 86 i0 _ 3 48 Tryd.underlying36 HI.out HZ.out HSZ.out HYY.out rfl (by omega) (.slice C m e) m (pcells qs) (by rfl) (O8.out.alloc _) ⟨w8.heap.size, 0, none⟩ 1 1 [.bool false, .string nm8, .slice A8 k8 d8] (by rfl) (by rfl) (World.news_of_block (cs := #[.bool false, .string nm8, .slice A8 k8 d8]) (t := 86) (fr := (0, 0)) (heap_alloc_new w8 _)) (by simp [Value.oneCell']) (by omega) (by unfold maxLen; omega) (by omega) (by simp; omega) (w8.heap.size + 1) (by simp) ?_; intro gg cap w9 hown9 hgrow hat hlt9; have X9 := (HX8.out.below hbw (below1 w8 (.cells #[.bool false, .string nm8, .slice A8 k8 d8] 86))).X.kept hgrow (own_kind (HX8.out.below hbw (below1 w8 (.cells #[.bool false, .string nm8, .slice A8 k8 d8] 86))).P.row (HX8.out.below hbw (below1 w8 (.cells #[.bool false, .string nm8, .slice A8 k8 d8] 86))).X (by decide)); have q2 := X9.cell 2; have q2' := X9.frozen 2)
            | ((go_simp; go_at_call 57; refine (any_atom_draw b A n' c _ _ R7.out (by omega)).mono ?_); rintro e_ w8 ⟨nm8, A8, k8, d8, ts8, p8, ⟨rfl, hnm8, hk8, hp8⟩, hlen8, hs8, hown8, hrd8, hg8'⟩; have hg8 : w7.grownBy w8 (some b) := ungrown hg8'; have hz8 := hg8.size; have HH8 := Lib.hid ((head_drawn hnm8 hlen8 hs8 hown8).keep (w' := w8) (lo' := W3.heap.size) (hi' := w8.heap.size) (fun _ _ _ => rfl) (show W3.heap.size ≤ w7.drew.heap.size from hz7) (Nat.le_refl _)); have HX8 := Lib.hid (HX7.out.step hbw hg8 hrd8); have O8 : Hid (w8.ownsRow W3.heap.size 86 3 (.slice C m e) m (pcells qs)) := Lib.hid (by have := HX8.out.P.row; rw [HM.out] at this; exact this); have yy8 : w8.cell? ⟨w4.heap.size, 2, none⟩ = some (.slice C m e) := HX8.out.X.cell 2; have yy9 : (w8.alloc (.cells #[.bool false, .string nm8, .slice A8 k8 d8] 86)).cell? ⟨w4.heap.size, 2, none⟩ = some (.slice C m e) := (HX8.out.below hbw (below1 w8 _)).X.cell 2; clear hg8' hnm8 hlen8 hs8 hown8 hrd8 hg8))
          all_goals
            have hM := HX8.out.more (q := (false, nm8, A8, k8, d8, ts8)) hbw HM.out HH8.out hown9 hgrow
            go_roundw
            case rel => exact ⟨_, _, _, _, _, _, _, _, _, _, _, _, _, _, _, ⟨_, m + 1, _, _, p8, by rw [List.length_append, HM.out]; rfl, by omega, by omega, hM⟩, rfl⟩
            case measure =>
              rw [show (w9.setCell ⟨w4.heap.size, 2, none⟩ (.slice (some ⟨gg, 0, none⟩) (m + 1) cap)).cell? ⟨w4.heap.size, 2, none⟩ = some (.slice (some ⟨gg, 0, none⟩) (m + 1) cap) by simp [go_sem, q2], y0]
              show 6 - (m + 1) < 6 - m
              omega
        · have hltI : ¬ (m : Int) < 4 + (kk : Int) := by omega
          go_wp2
          exact HREST2.out _ _ _ _ _ _ _ _ _ _ _ _ _ _ _ _ _ _ _ _ _ _ _ _ _ _ _ _ _ _ _ _ _ _ C m e qs _ w7 HM.out HX7.out
    · have hkI : ¬ (kk : Int) = 0 := by omega
      go_wp2
      exact HREST2.out _ _ _ _ _ _ _ _ _ _ _ _ _ _ _ _ _ _ _ _ _ _ _ _ _ _ _ _ _ _ _ _ _ _ C m e qs _ w6 HM.out HX6.out
  have HREST := Lib.hid REST; clear REST a3
  refine (pick_any b A n' c p4 8 _ HX4.out.P.rd (by omega) (by omega)).mono ?_; rintro e w6 ⟨kk, ⟨rfl, hkk⟩, hr6, hg6⟩
  have HX6 := Lib.hid (HX4.out.step hbw hg6 hr6)
  clear hr6 hg6 HX4
  by_cases hkk0 : kk = 0
  · subst hkk0
    have x2 : w6.cell? ⟨w4.heap.size, 2, none⟩ = some (.slice B4 m4 d4) := HX6.out.X.cell 2
    have q2' : (w6.alloc (.cells #[] 86)).frozen? ⟨w4.heap.size, 2, none⟩ = false := (HX6.out.below hbw (below1 _ _)).X.frozen 2
    have q2 : (w6.alloc (.cells #[] 86)).cell? ⟨w4.heap.size, 2, none⟩ = some (.slice B4 m4 d4) := (HX6.out.below hbw (below1 _ _)).X.cell 2
    have hz6 := HX6.out.P.gr.size
    have hlx := HX6.out.X.lt
    have h7 := HX6.out.below hbw (below1 w6 (.cells #[] 86))
    have hM := XB.turn (B' := some ⟨w6.heap.size, 0, none⟩) (m := 0) (e' := 0) (ps := []) h7.O ⟨own_empty3 w6 _ _ hz6, fun q hq => absurd hq List.not_mem_nil, h7.P.rd, h7.P.gr⟩ h7.X h7.lx h7.gr hbw
    rw [World.setCell_alloc_past _ _ _ _ hlx] at hM
    have HMT := Lib.hid hM; clear hM h7
    go_wp2
    exact HREST.out _ _ _ _ _ _ _ _ _ _ _ _ _ _ _ _ _ _ _ _ _ _ _ _ _ _ _ _ _ _ _ _ _ _ _ 0 0 [] (p4 + 1) _ rfl (by omega) (by omega) HMT.out
  · have hkI : ¬ (kk : Int) = 0 := by omega
    go_wp2
    exact HREST.out _ _ _ _ _ _ _ _ _ _ _ _ _ _ _ _ _ _ _ _ _ _ _ _ _ _ _ _ _ _ _ _ _ _ B4 m4 d4 ps (p4 + 1) w6 HM4.out hl4 (by omega) HX6.out

end Go.Proofs.YtahkkelahocplaaDoor

namespace Go.Proofs.YtahkkelahocplaaDoor
open Go.RowKit

theorem partL_wide {q : Pt} (h : (textL q.2).length ≤ 200) : (partL q).length ≤ 204 := by
  unfold partL
  split <;> simp only [List.length_append, List.length_cons, List.length_nil] <;> omega

theorem bodyL_wide : ∀ (xs : List Pt), (∀ q ∈ xs, (textL q.2).length ≤ 200) → (Lib.joinTail [32, 97, 110, 100, 32] (xs.map partL)).length ≤ 209 * xs.length
  | [], _ => by simp [Lib.joinTail]
  | q :: r, h => by
    have h1 := partL_wide (h q (by simp))
    have h2 := bodyL_wide r (fun x hx => h x (by simp [hx]))
    have h3 : Lib.joinTail [32, 97, 110, 100, 32] ((q :: r).map partL) = [32, 97, 110, 100, 32] ++ partL q ++ Lib.joinTail [32, 97, 110, 100, 32] (r.map partL) := by simp [Lib.joinTail]
    rw [h3]
    simp only [List.length_append, List.length_cons, List.length_nil]
    omega

theorem bodyL_lens {xs : List Pt} (h : ∀ q ∈ xs, (textL q.2).length ≤ 200) : (bodyL xs).length ≤ 209 * xs.length := by
  cases xs with
  | nil => simp [bodyL, Lib.join_nil]
  | cons q r =>
    have h1 := partL_wide (h q (by simp))
    have h2 := bodyL_wide r (fun x hx => h x (by simp [hx]))
    unfold bodyL
    rw [List.map_cons, Lib.join_cons]
    simp only [List.length_append, List.length_cons] at *
    omega

theorem ruleL_wide {r : Rl} (ha : (textL r.1).length ≤ 200) (hb : ∀ q ∈ r.2, (textL q.2).length ≤ 200) : (ruleL r).length ≤ 204 + 209 * r.2.length := by
  have h1 := bodyL_lens hb
  unfold ruleL
  split <;> simp only [List.length_append, List.length_cons, List.length_nil] <;> omega

theorem RPart.size_wide {r : Rl} {s : ByteArray} {k : Nat} (h : RPart r k s) (hb : ∀ q ∈ r.2, (textL q.2).length ≤ 200) (ha : (textL r.1).length ≤ 200) (hl : r.2.length ≤ 5) : s.size ≤ 1300 := by
  have h1 : s.size = s.data.toList.length := rfl
  rw [h1, h]
  have h3 : (bodyL (r.2.take k)).length ≤ 209 * (r.2.take k).length := bodyL_lens fun x hx => hb x (List.mem_of_mem_take hx)
  have h4 : (r.2.take k).length ≤ 5 := by rw [List.length_take]; omega
  split <;> simp only [List.length_append, List.length_cons, List.length_nil] <;> omega

set_option maxHeartbeats 2000000 in
theorem l1RulePut_wide (nm : ByteArray) (A : Option Addr) (n c : Nat) (B : Option Addr) (m d : Nat) (ts : List Tm) (xs : List Pt) (w : World) (h : IsRule w w.heap.size A n c B m d ts xs) (hA : (textL (nm, ts)).length ≤ 200) (hB : ∀ q ∈ xs, (textL q.2).length ≤ 200) (hL : xs.length ≤ 5) :
    Calls Tryd.prog 75 #[.agg #[.string nm, .slice A n c, .slice B m d]] w (StrPost (ruleL ((nm, ts), xs)) w) := by
  have hm := h.2.len
  unfold maxLen at hm
  have hput := hA
  have L := Lib.hid h.2.1
  have H := Lib.hid h; clear h
  have EB := Lib.hid hB; have EA := Lib.hid hA; have EL := Lib.hid hL
  clear hB hA hL
  have hw0 := below1 w (.cells #[.string nm, .slice A n c, .slice B m d] 38)
  have X0 := Lib.hid (Box3.new w (.string nm) (.slice A n c) (.slice B m d) 38)
  have P0 := Lib.hid (RPart.start ((nm, ts), xs))
  go_enter Tryd.func75, Tryd.ntmps75
  go_wp2_with fail
  refine (l1Put_any _ _ _ _ ts _ (H.out.up hw0).1 (by omega)).mono ?_; rintro e w1 ⟨rfl, hb1⟩
  have HB1 := belowThen hw0 hb1
  have X1 := Lib.hid (X0.out.later hb1); clear hb1 X0
  go_wp2_with fail
  go_loopw [3, 4] (fun x i wr => ∃ (k : Nat) (s : ByteArray), k ≤ m ∧ i = .int .i64 k ∧ x = .string s ∧ RPart ((nm, ts), xs) k s ∧ Below w1.heap.size w1 wr) (fun _ i _ => m - (intOf i).toNat)
  case atStart => exact ⟨0, _, Nat.zero_le _, rfl, rfl, P0.out, Below.refl _ _⟩
  case round =>
    obtain ⟨k, s, hk, rfl, rfl, hd, hb⟩ := hrel
    have hsz := hd.size_wide EB.out EA.out EL.out
    have HD := Lib.hid hd; clear hd
    have HB := belowThen HB1 hb
    obtain ⟨x1, x2, x3, x4⟩ := X1.out.later hb
    by_cases hlt : k < m
    · obtain ⟨p, q, hA, hlo, hhi, hg, hE⟩ := (H.out.2.below PartE.stays HB (Nat.le_refl _)).at_ hlt
      obtain ⟨C, n', c', d1, d2, d3, d4, d5⟩ := hE.out
      clear hE
      subst hA
      have hqp := EB.out q (List.mem_of_getElem? hg)
      have hql := partL_wide hqp
      have hql' : (partL (q.1, q.2.1, q.2.2)).length ≤ 204 := hql
      have hqp' : (textL (q.2.1, q.2.2)).length ≤ 200 := hqp
      have HG := Lib.hid hg; clear hg
      have HT := Lib.hid (d5.keep (lo' := 0) (hi' := wr.heap.size) (fun _ _ _ => rfl) (Nat.le_refl _) HB.size); clear d5
      rcases Nat.eq_zero_or_pos k with h0 | h0
      · have hk0 : ((k : Int) == 0) = true := by rw [beq_iff_eq]; omega
        have HN := Lib.hid (HD.out.one h0 HG.out (t := ⟨(partL q).toArray⟩) (by simp))
        clear h0
        go_wp2_with fail
        refine (l1Part_any _ _ _ _ _ q.2.2 _ HT.out (by omega)).mono ?_; rintro e w2 ⟨rfl, hb2⟩
        go_wp2
        go_roundw
        case rel => exact ⟨k + 1, _, by omega, by go_num, rfl, HN.out, belowThen hb hb2⟩
        case measure => simp [intOf]; omega
      · have hk0 : ((k : Int) == 0) = false := by rw [beq_eq_false_iff_ne]; omega
        have HN := Lib.hid (HD.out.next h0 HG.out (t := ⟨(partL q).toArray⟩) (by simp))
        clear h0
        go_wp2_with fail
        refine (l1Part_any _ _ _ _ _ q.2.2 _ HT.out (by omega)).mono ?_; rintro e w2 ⟨rfl, hb2⟩
        go_wp2
        go_roundw
        case rel => exact ⟨k + 1, _, by omega, by go_num, rfl, HN.out, belowThen hb hb2⟩
        case measure => simp [intOf]; omega
    · have E := Lib.hid (HD.out.all L.out hlt hk)
      go_wp2
      go_ret
      exact ⟨strEq E.out, HB⟩


/-- Few small terms: the text is not long. -/
theorem head_wide {w : World} {lo hi : Nat} {r : Rf} (h : HeadApart w lo hi r) (hn : r.1.size ≤ 16) (hk : rN r ≤ 8) (hs : ∀ t ∈ r.2.2.2.2, t.2.size ≤ 16) : (textL (rAt r)).length ≤ 200 :=
  drawn_text_len (k := rN r) hn h.2.1.1 hk hs

set_option maxRecDepth 100000 in
set_option maxHeartbeats 4000000 in
theorem drawRuleGet_any (A : Option Addr) (n c : Nat) (w : World) (h : IsBytes w w.heap.size A n c) :
    Calls Tryd.prog 31 #[.slice A n c] w (DrawnText 1000 w) := by
  go_enter Tryd.func31, Tryd.ntmps31
  go_wp2_with fail
  refine (open_any A n c _ h).mono ?_; rintro e w1 ⟨b, n', ⟨rfl, hb⟩, hr, hb1⟩
  have HB1 := Lib.hid hb1
  have R1 := Lib.hid hr
  have hbw : b < w1.heap.size := hr.1
  clear hb1 hr
  go_wp2_with fail
  refine (atom_draw b A n' c 0 ⟨#[116]⟩ true w1 R1.out (by omega) (nm_lit 116)).mono ?_; rintro e w2 ⟨nm, A', k, d', ts, p2, ⟨rfl, hnm, hk, hp2⟩, hlen, hs2, hown2, hrd2, hg2⟩
  have HH := Lib.hid ((head_drawn hnm hlen hs2 hown2).keep (w' := w2) (lo' := w1.heap.size) (hi' := w2.heap.size) (fun _ _ _ => rfl) (Nat.le_refl _) (Nat.le_refl _))
  have hz2 := hg2.size
  have HTL := Lib.hid (drawn_text_len hnm.1 hlen (show k ≤ 8 by omega) hs2)
  have HS3 := Lib.hid (laid nmB w2 #[.string ⟨#[101]⟩, .string ⟨#[112]⟩, .string ⟨#[122]⟩] 9 (by rfl))
  have hb23 := below1 w2 (.cells #[.string ⟨#[101]⟩, .string ⟨#[112]⟩, .string ⟨#[122]⟩] 9)
  have HHb := Lib.hid (HH.out.on hb23)
  have R3 := Lib.hid (hrd2.below hb23)
  have G3 := Lib.hid (grownTrans hg2 (grownBelow hb23 (some b)))
  clear hlen hs2 hown2 hrd2 hg2 hnm hb23 HH
  have hz3 : w2.heap.size < (w2.alloc (.cells #[.string ⟨#[101]⟩, .string ⟨#[112]⟩, .string ⟨#[122]⟩] 9)).heap.size := by simp
  go_wp2_with fail
  obtain ⟨W3, hW3⟩ : ∃ W3, (w2.alloc (.cells #[.string ⟨#[101]⟩, .string ⟨#[112]⟩, .string ⟨#[122]⟩] 9)) = W3 := ⟨_, rfl⟩
  rw [hW3] at HS3 HHb R3 G3 hz3 ⊢
  clear hW3
  refine (body_draw_w b w2.heap.size 3 A n' c p2 _ R3.out (by omega) (by omega) (by omega) (by omega) HS3.out).mono ?_; rintro e w4 ⟨v4, ps, p4, rfl, hl4, hp4, hDP, hQ4⟩
  obtain ⟨B4, d4, hv4, hTP⟩ := ty_parts hDP.row rfl hDP.hd
  subst hv4
  have hz4 := hDP.gr.size
  have hz31 := G3.out.size
  have HR : Hid (IsRule w4 w4.heap.size A' k d' B4 ps.length d4 ts (ps.map pAt)) := by
    have h1 := (HHb.out.by_ hDP.gr (show b < w1.heap.size from hbw)).2.1
    exact Lib.hid ⟨h1.keep (fun _ _ _ => rfl) (Nat.zero_le _) (Nat.le_refl _), hTP.parts.keep PartE.stays (fun _ _ _ => rfl) (Nat.zero_le _) (Nat.le_refl _)⟩
  have HPL := Lib.hid (show ∀ q ∈ ps.map pAt, (textL q.2).length ≤ 200 from fun q hq => by
    obtain ⟨r, hr, rfl⟩ := List.mem_map.1 hq
    exact head_wide (hDP.hd r hr) (hQ4 r hr).1.1.1 (Nat.le_trans (hQ4 r hr).1.2 (by omega)) (hQ4 r hr).2)
  have R4 := Lib.hid hDP.rd
  have G4 := Lib.hid (grownTrans G3.out hDP.gr)
  have hwl := ruleL_wide (r := ((nm, ts), ps.map pAt)) HTL.out HPL.out
  have hlm : (ps.map pAt).length = ps.length := List.length_map _
  simp only [hlm] at hwl
  clear hDP hQ4 hTP R3 HHb HS3 R1
  go_wp2_with fail
  refine (l1RulePut_wide nm A' k d' B4 ps.length d4 ts (ps.map pAt) w4 HR.out HTL.out HPL.out (by rw [hlm]; omega)).mono ?_; rintro e w5 ⟨rfl, hb5⟩
  have R5 := Lib.hid (R4.out.below hb5)
  have G5 := Lib.hid (grownTrans G4.out (grownBelow hb5 (some b)))
  clear hb5
  have hsz : (⟨(ruleL ((nm, ts), ps.map pAt)).toArray⟩ : ByteArray).size = (ruleL ((nm, ts), ps.map pAt)).length := by simp [ByteArray.size]
  go_wp2_with fail
  refine (cut_draw _ b A n' c _ w5 R5.out (by omega) (by rw [hsz]; omega)).mono ?_; rintro e w6 ⟨t, p6, ⟨rfl, ht, _⟩, hr6, hg6⟩
  have G6 := Lib.hid (grownTrans G5.out hg6)
  clear hr6 hg6
  go_wp2
  go_ret
  exact ⟨t, ⟨rfl, by omega⟩, HB1.out.grown G6.out HB1.out.size (fun k hk => by injection hk with hk; omega)⟩

end Go.Proofs.YtahkkelahocplaaDoor

namespace Go.Proofs.YtahkkelahocplaaDoor
open Go.RowKit

theorem Box3.in1 {w W : World} {x : Nat} {u v y : Value} (h : Box3 w x u v y) (hW : Below w.heap.size w W) : W.cell? ⟨x, 0, none⟩ = some u := (h.later hW).2.1
theorem Box3.in2 {w W : World} {x : Nat} {u v y : Value} (h : Box3 w x u v y) (hW : Below w.heap.size w W) : W.cell? ⟨x, 1, none⟩ = some v := (h.later hW).2.2.1
theorem Box3.in3 {w W : World} {x : Nat} {u v y : Value} (h : Box3 w x u v y) (hW : Below w.heap.size w W) : W.cell? ⟨x, 2, none⟩ = some y := (h.later hW).2.2.2

theorem ruleL_ne (r : Rl) : ¬ ruleL r = [] := by
  intro h
  have h1 := text_open r.1
  unfold ruleL at h
  rw [(List.append_eq_nil_iff.1 h).1] at h1
  cases h1

/-- What is read of the text that a rule is told as. -/
theorem readRule_put (r : Rl) : readR (rulePutB r) = if ruleB r then some r else none := by
  unfold rulePutB
  cases h : ruleB r
  · show readR [] = none
    cases hr : readR [] with
    | none => rfl
    | some q => exact absurd (readR_sound hr).2 (ruleL_ne q)
  · exact readR_text h

theorem rulePutB_le (r : Rl) : (rulePutB r).length ≤ 2000 := by
  unfold rulePutB
  cases h : ruleB r
  · simp
  · obtain ⟨h1, h2, h3⟩ := rule_parts h
    have h4 := ruleL_wide (r := r) (by have := textL_le h2; omega) (fun q hq => by
      unfold bodyB at h1
      have := textL_le (List.all_eq_true.1 h1 q hq)
      omega)
    rw [if_pos rfl]; omega

/-- The text of what was read is the text. -/
theorem rulePut_get {l : List UInt8} {r : Rl} (h : readR l = some r) : rulePutB r = l := by
  obtain ⟨h1, h2⟩ := readR_sound h
  unfold rulePutB
  rw [if_pos h1, h2]

theorem RuleApart.isQ {w : World} {lo hi : Nat} {r : Rr} (h : RuleApart w lo hi r) (hh : hi ≤ w.heap.size) : r.1.1.size ≤ maxLen ∧ IsRule w w.heap.size r.1.2.1 r.1.2.2.1 r.1.2.2.2.1 r.2.1 r.2.2.1 r.2.2.2.1 (rRl r).1.2 (rRl r).2 := by
  refine ⟨?_, ?_⟩
  · obtain ⟨_, _, _, _, _, _, _, _, _, _, _, hH, _⟩ := h
    exact hH.1
  · skip
    obtain ⟨a, b, c, d, e1, e2, e3, e4, e5, e6, e7, e8, e9⟩ := h
    exact ⟨e8.2.1.keep (fun _ _ _ => rfl) (Nat.zero_le _) (by omega), e9.parts.keep PartE.stays (fun _ _ _ => rfl) (Nat.zero_le _) (by omega)⟩

section
variable {w W : World} {nm nm' : ByteArray} {A A' B B' : Option Addr} {n c m d n' c' m' d' : Nat} {ts us : List Tm} {xs ys : List Pt}

theorem putRS_tells (hs : nm.size ≤ maxLen) (h : IsRule w w.heap.size A n c B m d ts xs) (hB : Below w.heap.size w W) :
    Calls Tryd.prog 29 #[.agg #[.string nm, .slice A n c, .slice B m d]] W fun e W' => e = .returned (.string ⟨(rulePutB ((nm, ts), xs)).toArray⟩) ∧ Below w.heap.size w W' :=
  (specRulePut_any nm A n c B m d ts xs W hs (h.up hB)).mono fun _ _ ⟨he, hb⟩ => ⟨he, belowThen hB hb⟩

theorem fsR_tells (h : IsRule w w.heap.size A n c B m d ts xs) (h' : IsRule w w.heap.size A' n' c' B' m' d' us ys) (he : (((nm, ts), xs) : Rl) = ((nm', us), ys)) (hB : Below w.heap.size w W) :
    Calls Tryd.prog 30 #[.agg #[.string nm, .slice A n c, .slice B m d], .agg #[.string nm', .slice A' n' c', .slice B' m' d']] W fun e W' => e = .returned (.bool true) ∧ Below w.heap.size w W' :=
  (fsRule_same nm nm' A A' B B' n c m d n' c' m' d' ts us xs ys W (h.up hB) (h'.up hB) he).mono fun _ _ ⟨h1, hb⟩ => ⟨h1, belowThen hB hb⟩
end

set_option maxRecDepth 100000 in
set_option maxHeartbeats 8000000 in
theorem ruleText_law (A : Option Addr) (n c : Nat) (A' : Option Addr) (n' c' : Nat) (w : World) (h : IsBytes w w.heap.size A n c) (h' : IsBytes w w.heap.size A' n' c') (hm : MaxIn w) :
    Calls Tryd.prog 6 #[.slice A n c, .slice A' n' c'] w (BoolPost true w) := by
  have hn : n ≤ maxLen := by have := h.1; have := h.2.1; omega
  have hn' : n' ≤ maxLen := by have := h'.1; have := h'.2.1; omega
  unfold maxLen at hn hn'
  have H := Lib.hid h; clear h
  have H' := Lib.hid h'; clear h'
  go_enter Tryd.func6, Tryd.ntmps6
  go_wp2_with fail
  all_goals try (go_ret; exact ⟨rfl, Below.refl _ _⟩)
  refine (drawRulePut_any A n c w H.out).mono ?_; rintro e w1 ⟨nm, B, k, d, ts, D, m, q, xs, ⟨rfl, hnm⟩, ht, hb1⟩
  have hsm : nm.size ≤ maxLen := by unfold maxLen; omega
  have HP := below1 w1 (.cells #[.string nm, .slice B k d, .slice D m q] 38)
  have HT1 := Lib.hid (ht.up HP); have XA1 := Lib.hid (Box3.new w1 (.string nm) (.slice B k d) (.slice D m q) 38); have HB1 := Lib.hid (belowThen hb1 HP)
  clear HP ht hb1
  go_wp2_with fail
  refine (implRulePut_any nm B k d D m q ts xs _ hsm HT1.out).mono ?_; rintro e w2 ⟨rfl, hb2⟩
  have HT2 := Lib.hid (HT1.out.up hb2); have XA2 := Lib.hid (XA1.out.later hb2); have HB2 := Lib.hid (belowThen HB1.out hb2)
  clear hb2 HT1 XA1 HB1
  have hm2 := hm.below HB2.out
  have hpl := rulePutB_le ((nm, ts), xs)
  have hrp := readRule_put ((nm, ts), xs)
  obtain ⟨L, hL⟩ : ∃ L, rulePutB ((nm, ts), xs) = L := ⟨_, rfl⟩
  have HL := Lib.hid hL
  rw [hL] at hpl hrp ⊢
  clear hL
  go_wp2_with fail
  refine (implRuleGet_any ⟨L.toArray⟩ w2 (by rw [mk_size]; omega) hm2).mono ?_; rintro e w3 ⟨r, rfl, hH, hr, hb3⟩
  rw [mk_data, hrp] at hr ⊢
  unfold ruVal
  obtain ⟨hrs, hHQ⟩ := hH.isQ (Nat.le_refl _)
  have HP := below1 w3 (.cells #[.string r.1.1, .slice r.1.2.1 r.1.2.2.1 r.1.2.2.2.1, .slice r.2.1 r.2.2.1 r.2.2.2.1] 38)
  have hb34 := belowThen hb3 HP
  have HT4 := HT2.out.up hb34; have XA4 := XA2.out.later hb34; have HB4 := belowThen HB2.out hb34
  have HX4 := hHQ.up HP
  have XX4 := Box3.new w3 (.string r.1.1) (.slice r.1.2.1 r.1.2.2.1 r.1.2.2.2.1) (.slice r.2.1 r.2.2.1 r.2.2.2.1) 38
  obtain ⟨w4, hw4⟩ : ∃ w4, w3.alloc (.cells #[.string r.1.1, .slice r.1.2.1 r.1.2.2.1 r.1.2.2.2.1, .slice r.2.1 r.2.2.1 r.2.2.2.1] 38) = w4 := ⟨_, rfl⟩
  rw [hw4] at HT4 XA4 HB4 HX4 XX4
  have HT := Lib.hid HT4; have XA := Lib.hid XA4; have HW := Lib.hid HB4; have HX := Lib.hid HX4; have XX := Lib.hid XX4
  clear HT2 XA2 HB2 hH hHQ hb3 HP hb34 HT4 XA4 HB4 HX4 XX4
  obtain ⟨ob, hob⟩ : ∃ ob, (if ruleB ((nm, ts), xs) = true then some ((nm, ts), xs) else none : Option Rl) = ob := ⟨_, rfl⟩
  rw [hob] at hr ⊢
  clear hrp
  cases hA : ruleB ((nm, ts), xs)
  · skip
    have hob2 : ob = none := by rw [← hob, hA]; rfl
    have hLv : L = [] := by rw [← HL.out]; unfold rulePutB; rw [hA]; rfl
    clear hA hob
    subst hob2
    rw [show (none : Option Rl).isSome = false from rfl]
    have hB : Below w4.heap.size w4 w4 := Below.refl _ _
    have c0 := XA.out.in1 hB; have c1 := XA.out.in2 hB; have c2 := XA.out.in3 hB; have c3 := XX.out.in1 hB; have c4 := XX.out.in2 hB; have c5 := XX.out.in3 hB
    have okS := fun W (hW : Below w4.heap.size w4 W) => putRS_tells hsm HT.out hW
    rw [HL.out] at okS
    subst hLv
    clear HL
    go_wp2_with fail
    refine (okS _ (Below.refl _ _)).mono ?_; rintro e w5 ⟨rfl, hB⟩; have c0 := XA.out.in1 hB; have c1 := XA.out.in2 hB; have c2 := XA.out.in3 hB; have c3 := XX.out.in1 hB; have c4 := XX.out.in2 hB; have c5 := XX.out.in3 hB
    have HW5 := Lib.hid (belowThen HW.out hB)
    clear hB HT XA HX XX okS
    go_wp2_with fail
    clear c0 c1 c2 c3 c4 c5
    refine (drawRuleGet_any A' n' c' _ (H'.out.up HW5.out)).mono ?_; rintro e w6 ⟨t, ⟨rfl, ht6⟩, hb6⟩
    have HW6 := Lib.hid (belowThen HW5.out hb6)
    clear hb6 HW5
    have hm6 := hm.below HW6.out
    go_wp2_with fail
    refine (implRuleGet_any t w6 (by omega) hm6).mono ?_; rintro e w7 ⟨y, rfl, hH7, hr7, hb7⟩
    unfold ruVal
    have HP := below1 w7 (.cells #[.string y.1.1, .slice y.1.2.1 y.1.2.2.1 y.1.2.2.2.1, .slice y.2.1 y.2.2.1 y.2.2.2.1] 38)
    obtain ⟨hys, hYQ⟩ := hH7.isQ (Nat.le_refl _)
    have HY8 := Lib.hid (hYQ.up HP)
    have XY8 := Lib.hid (Box3.new w7 (.string y.1.1) (.slice y.1.2.1 y.1.2.2.1 y.1.2.2.2.1) (.slice y.2.1 y.2.2.1 y.2.2.2.1) 38)
    have HW8 := Lib.hid (belowThen HW6.out (belowThen hb7 HP))
    have HYZ := Lib.hid hys
    clear hH7 hb7 HP HW6 hYQ hys
    go_wp2_with fail
    refine (specRuleGet_any t _ (by omega)).mono ?_; rintro e w9 ⟨z, rfl, hH9, hr9, hb9⟩
    unfold ruVal
    have HP := below1 w9 (.cells #[.string z.1.1, .slice z.1.2.1 z.1.2.2.1 z.1.2.2.2.1, .slice z.2.1 z.2.2.1 z.2.2.2.1] 38)
    have HZ := Lib.hid ((hH9.isQ (Nat.le_refl _)).2.up HP)
    have XZ := Lib.hid (Box3.new w9 (.string z.1.1) (.slice z.1.2.1 z.1.2.2.1 z.1.2.2.2.1) (.slice z.2.1 z.2.2.1 z.2.2.2.1) 38)
    have HY := Lib.hid (HY8.out.up (belowThen hb9 HP)); have XY := Lib.hid (XY8.out.later (belowThen hb9 HP)); have HW9 := Lib.hid (belowThen HW8.out (belowThen hb9 HP))
    clear hH9 hb9 HP HY8 XY8 HW8
    obtain ⟨_, y0, y1, y2⟩ := XY.out
    obtain ⟨_, z0, z1, z2⟩ := XZ.out
    cases hg : readR t.data.toList with
    | none =>
      rw [hg] at hr7 hr9
      rw [show (none : Option Rl).isSome = false from rfl]
      go_wp2_with fail
      refine (fsR_tells (nm := y.1.1) (nm' := z.1.1) HY.out HZ.out (show rRl y = rRl z from hr7.trans hr9.symm) (Below.refl _ _)).mono ?_; rintro e w10 ⟨rfl, hb10⟩
      have HW10 := belowThen HW9.out hb10
      clear hb10
      go_wp2
      go_ret; exact ⟨rfl, HW10⟩
    | some a =>
      rw [hg] at hr7 hr9
      have hpt := rulePut_get hg
      have hya : rRl y = a := hr7
      rw [show (some a : Option Rl).isSome = true from rfl]
      go_wp2_with fail
      refine (fsR_tells (nm := y.1.1) (nm' := z.1.1) HY.out HZ.out (show rRl y = rRl z from hr7.trans hr9.symm) (Below.refl _ _)).mono ?_; rintro e w10 ⟨rfl, hb10⟩
      have HW10 := belowThen HW9.out hb10
      have HY10 := HY.out.up hb10
      have c0 := XY.out.in1 hb10; have c1 := XY.out.in2 hb10; have c2 := XY.out.in3 hb10
      clear hb10 y0 y1 y2 z0 z1 z2
      go_wp2_with fail
      refine (implRulePut_any y.1.1 y.1.2.1 y.1.2.2.1 y.1.2.2.2.1 y.2.1 y.2.2.1 y.2.2.2.1 (rRl y).1.2 (rRl y).2 w10 HYZ.out HY10).mono ?_; rintro e w11 ⟨rfl, hb11⟩
      rw [show ((y.1.1, (rRl y).1.2), (rRl y).2) = a from hya, hpt]
      have hpe : (t.data.toList == t.toList) = true := by rw [toList_data]; exact beq_self_eq_true _
      have HW11 := belowThen HW10 hb11
      clear hb11
      go_wp2
      go_ret; exact ⟨rfl, HW11⟩
  · skip
    have hob2 : ob = some ((nm, ts), xs) := by rw [← hob, hA]; rfl
    have hLv : L = ruleL ((nm, ts), xs) := by rw [← HL.out]; unfold rulePutB; rw [hA]; rfl
    clear hA hob
    subst hob2
    rw [show (some ((nm, ts), xs) : Option Rl).isSome = true from rfl]
    have hB : Below w4.heap.size w4 w4 := Below.refl _ _
    have c0 := XA.out.in1 hB; have c1 := XA.out.in2 hB; have c2 := XA.out.in3 hB; have c3 := XX.out.in1 hB; have c4 := XX.out.in2 hB; have c5 := XX.out.in3 hB
    have okS := fun W (hW : Below w4.heap.size w4 W) => putRS_tells hsm HT.out hW
    rw [HL.out] at okS
    have hne : ¬ L = [] := by rw [hLv]; exact ruleL_ne _
    have hne2 : (L == []) = false := by rw [beq_eq_false_iff_ne]; exact hne
    clear hLv
    clear HL
    go_wp2_with fail
    refine (okS _ (Below.refl _ _)).mono ?_; rintro e w5 ⟨rfl, hB⟩; have c0 := XA.out.in1 hB; have c1 := XA.out.in2 hB; have c2 := XA.out.in3 hB; have c3 := XX.out.in1 hB; have c4 := XX.out.in2 hB; have c5 := XX.out.in3 hB
    go_wp2_with fail
    refine (fsR_tells (nm := r.1.1) (nm' := nm) HX.out HT.out (show rRl r = ((nm, ts), xs) from hr) hB).mono ?_; rintro e w5b ⟨rfl, hB⟩; have c0 := XA.out.in1 hB; have c1 := XA.out.in2 hB; have c2 := XA.out.in3 hB; have c3 := XX.out.in1 hB; have c4 := XX.out.in2 hB; have c5 := XX.out.in3 hB
    have HW5 := Lib.hid (belowThen HW.out hB)
    clear hB HT XA HX XX okS
    go_wp2_with fail
    clear c0 c1 c2 c3 c4 c5
    refine (drawRuleGet_any A' n' c' _ (H'.out.up HW5.out)).mono ?_; rintro e w6 ⟨t, ⟨rfl, ht6⟩, hb6⟩
    have HW6 := Lib.hid (belowThen HW5.out hb6)
    clear hb6 HW5
    have hm6 := hm.below HW6.out
    go_wp2_with fail
    refine (implRuleGet_any t w6 (by omega) hm6).mono ?_; rintro e w7 ⟨y, rfl, hH7, hr7, hb7⟩
    unfold ruVal
    have HP := below1 w7 (.cells #[.string y.1.1, .slice y.1.2.1 y.1.2.2.1 y.1.2.2.2.1, .slice y.2.1 y.2.2.1 y.2.2.2.1] 38)
    obtain ⟨hys, hYQ⟩ := hH7.isQ (Nat.le_refl _)
    have HY8 := Lib.hid (hYQ.up HP)
    have XY8 := Lib.hid (Box3.new w7 (.string y.1.1) (.slice y.1.2.1 y.1.2.2.1 y.1.2.2.2.1) (.slice y.2.1 y.2.2.1 y.2.2.2.1) 38)
    have HW8 := Lib.hid (belowThen HW6.out (belowThen hb7 HP))
    have HYZ := Lib.hid hys
    clear hH7 hb7 HP HW6 hYQ hys
    go_wp2_with fail
    refine (specRuleGet_any t _ (by omega)).mono ?_; rintro e w9 ⟨z, rfl, hH9, hr9, hb9⟩
    unfold ruVal
    have HP := below1 w9 (.cells #[.string z.1.1, .slice z.1.2.1 z.1.2.2.1 z.1.2.2.2.1, .slice z.2.1 z.2.2.1 z.2.2.2.1] 38)
    have HZ := Lib.hid ((hH9.isQ (Nat.le_refl _)).2.up HP)
    have XZ := Lib.hid (Box3.new w9 (.string z.1.1) (.slice z.1.2.1 z.1.2.2.1 z.1.2.2.2.1) (.slice z.2.1 z.2.2.1 z.2.2.2.1) 38)
    have HY := Lib.hid (HY8.out.up (belowThen hb9 HP)); have XY := Lib.hid (XY8.out.later (belowThen hb9 HP)); have HW9 := Lib.hid (belowThen HW8.out (belowThen hb9 HP))
    clear hH9 hb9 HP HY8 XY8 HW8
    obtain ⟨_, y0, y1, y2⟩ := XY.out
    obtain ⟨_, z0, z1, z2⟩ := XZ.out
    cases hg : readR t.data.toList with
    | none =>
      rw [hg] at hr7 hr9
      rw [show (none : Option Rl).isSome = false from rfl]
      go_wp2_with fail
      refine (fsR_tells (nm := y.1.1) (nm' := z.1.1) HY.out HZ.out (show rRl y = rRl z from hr7.trans hr9.symm) (Below.refl _ _)).mono ?_; rintro e w10 ⟨rfl, hb10⟩
      have HW10 := belowThen HW9.out hb10
      clear hb10
      go_wp2
      go_ret; exact ⟨rfl, HW10⟩
    | some a =>
      rw [hg] at hr7 hr9
      have hpt := rulePut_get hg
      have hya : rRl y = a := hr7
      rw [show (some a : Option Rl).isSome = true from rfl]
      go_wp2_with fail
      refine (fsR_tells (nm := y.1.1) (nm' := z.1.1) HY.out HZ.out (show rRl y = rRl z from hr7.trans hr9.symm) (Below.refl _ _)).mono ?_; rintro e w10 ⟨rfl, hb10⟩
      have HW10 := belowThen HW9.out hb10
      have HY10 := HY.out.up hb10
      have c0 := XY.out.in1 hb10; have c1 := XY.out.in2 hb10; have c2 := XY.out.in3 hb10
      clear hb10 y0 y1 y2 z0 z1 z2
      go_wp2_with fail
      refine (implRulePut_any y.1.1 y.1.2.1 y.1.2.2.1 y.1.2.2.2.1 y.2.1 y.2.2.1 y.2.2.2.1 (rRl y).1.2 (rRl y).2 w10 HYZ.out HY10).mono ?_; rintro e w11 ⟨rfl, hb11⟩
      rw [show ((y.1.1, (rRl y).1.2), (rRl y).2) = a from hya, hpt]
      have hpe : (t.data.toList == t.toList) = true := by rw [toList_data]; exact beq_self_eq_true _
      have HW11 := belowThen HW10 hb11
      clear hb11
      go_wp2
      go_ret; exact ⟨rfl, HW11⟩

end Go.Proofs.YtahkkelahocplaaDoor
