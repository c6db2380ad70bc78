/-
  Texts of one claim, put together.
-/
import Derived.Test.YtahkkelahocplaaDoorTextKit
import Derived.Test.YtahkkelahocplaaDoorRule2
import Derived.Test.YtahkkelahocplaaDoorDrawBody
import Derived.Test.YtahkkelahocplaaDoorDrawText
import Derived.Test.YtahkkelahocplaaDoorRule
import Derived.Test.YtahkkelahocplaaDoorAskGetAll
import Derived.Test.YtahkkelahocplaaDoorRule4
import Derived.Test.YtahkkelahocplaaDoorAskPutAll
import Derived.Test.YtahkkelahocplaaDoorRKeep
namespace Go.Proofs.YtahkkelahocplaaDoor
open Go.RowKit

set_option maxRecDepth 100000 in
set_option maxHeartbeats 4000000 in
theorem fsParts_same (A B : Option Addr) (n c n' c' : Nat) (xs : List Pt) (w : World) (h : IsParts w 0 w.heap.size A n c xs) (h' : IsParts w 0 w.heap.size B n' c' xs) :
    Calls Tryd.prog 42 #[.slice A n c, .slice B n' c'] w (BoolPost true w) := by
  have hm := h.len
  unfold maxLen at hm
  have hn : n = n' := h.1.symm.trans h'.1
  subst hn
  have H := Lib.hid h; clear h
  have H' := Lib.hid h'; clear h'
  go_enter Tryd.func42, Tryd.ntmps42
  go_wp2
  go_loopw [5] (fun i wr => ∃ k : Nat, k ≤ n ∧ i = .int .i64 k ∧ Below w.heap.size w wr) (fun i _ => n - (intOf i).toNat)
  case atStart => exact ⟨0, Nat.zero_le _, rfl, Below.refl _ _⟩
  case round =>
    obtain ⟨k, hk, rfl, hb⟩ := hrel
    by_cases hlt : k < n
    · have hltI : (k : Int) < (n : Int) := by omega
      obtain ⟨p, q, hA, hlo, hhi, hg, hE⟩ := (H.out.below PartE.stays hb (Nat.le_refl _)).at_ hlt
      obtain ⟨p', q', hA', hlo', hhi', hg', hE'⟩ := (H'.out.below PartE.stays hb (Nat.le_refl _)).at_ hlt
      obtain rfl : q = q' := by rw [hg] at hg'; exact Option.some.inj hg'
      obtain ⟨C, m, d, d1, d2, d3, d4, d5⟩ := hE.out
      obtain ⟨C', m', d', f1, f2, f3, f4, f5⟩ := hE'.out
      clear hE hE' hg hg'
      subst hA; subst hA'
      have hz := hb.size
      have HT := Lib.hid (d5.keep (w' := wr) (lo' := 0) (hi' := wr.heap.size) (fun _ _ _ => rfl) (Nat.le_refl _) hz); clear d5
      have HT' := Lib.hid (f5.keep (w' := wr) (lo' := 0) (hi' := wr.heap.size) (fun _ _ _ => rfl) (Nat.le_refl _) hz); clear f5
      have blk : (p.add (k * 3)).block < wr.heap.size := by rw [block_add]; omega
      have blk' : (p'.add (k * 3)).block < wr.heap.size := by rw [block_add]; omega
      have HB := Lib.hid hb; clear hb
      have hB : Below wr.heap.size wr wr := Below.refl _ _
      have c0 := (hB.cell (p := p.add (k * 3)) blk).trans d1; have c1 := (hB.cell (p := ⟨(p.add (k * 3)).block, (p.add (k * 3)).off + 1, none⟩) blk).trans d2; have c2 := (hB.cell (p := ⟨(p.add (k * 3)).block, (p.add (k * 3)).off + 2, none⟩) blk).trans d4; have c3 := (hB.cell (p := p'.add (k * 3)) blk').trans f1; have c4 := (hB.cell (p := ⟨(p'.add (k * 3)).block, (p'.add (k * 3)).off + 1, none⟩) blk').trans f2; have c5 := (hB.cell (p := ⟨(p'.add (k * 3)).block, (p'.add (k * 3)).off + 2, none⟩) blk').trans f4
      go_wp2_with fail
      go_region_held3 (fun W => Below wr.heap.size wr W ∧ W.cell? (p.add (k * 3)) = some (.bool q.1) ∧ W.cell? (⟨(p.add (k * 3)).block, (p.add (k * 3)).off + 1, none⟩) = some (.string q.2.1) ∧ W.cell? (⟨(p.add (k * 3)).block, (p.add (k * 3)).off + 2, none⟩) = some (.slice C m d) ∧ W.cell? (p'.add (k * 3)) = some (.bool q.1) ∧ W.cell? (⟨(p'.add (k * 3)).block, (p'.add (k * 3)).off + 1, none⟩) = some (.string q.2.1) ∧ W.cell? (⟨(p'.add (k * 3)).block, (p'.add (k * 3)).off + 2, none⟩) = some (.slice C' m' d')) (first | exact ⟨hB, c0, c1, c2, c3, c4, c5⟩ | exact ⟨hB.drew, c0, c1, c2, c3, c4, c5⟩) ((go_at_call 20; (with_reducible refine (fs_tells (nm := q.2.1) (nm' := q.2.1) HT.out HT'.out rfl (by first | exact hB | exact hB.drew | exact (Below.refl _ _).drew | exact Below.refl _ _)).mono ?_); rintro e W5 ⟨rfl, hB⟩; have c0 := (hB.cell (p := p.add (k * 3)) blk).trans d1; have c1 := (hB.cell (p := ⟨(p.add (k * 3)).block, (p.add (k * 3)).off + 1, none⟩) blk).trans d2; have c2 := (hB.cell (p := ⟨(p.add (k * 3)).block, (p.add (k * 3)).off + 2, none⟩) blk).trans d4; have c3 := (hB.cell (p := p'.add (k * 3)) blk').trans f1; have c4 := (hB.cell (p := ⟨(p'.add (k * 3)).block, (p'.add (k * 3)).off + 1, none⟩) blk').trans f2; have c5 := (hB.cell (p := ⟨(p'.add (k * 3)).block, (p'.add (k * 3)).off + 2, none⟩) blk').trans f4))
      have hB0 := Lib.hid hB
      clear hB c0 c1 c2 c3 c4 c5 d1 d2 d4 f1 f2 f4
      go_wp2
      go_roundw
      case rel => exact ⟨k + 1, by omega, by go_num, belowThen HB.out hB0.out⟩
      case measure => simp [intOf]; omega
    · have hltI : ¬ (k : Int) < (n : Int) := by omega
      go_wp2
      go_ret
      exact ⟨rfl, hb⟩

set_option maxHeartbeats 1000000 in
theorem fsRule_same (nm nm' : ByteArray) (A A' B B' : Option Addr) (n c m d n' c' m' d' : Nat) (ts us : List Tm) (xs ys : List Pt) (w : World) (h : IsRule w w.heap.size A n c B m d ts xs) (h' : IsRule w w.heap.size A' n' c' B' m' d' us ys) (he : (((nm, ts), xs) : Rl) = ((nm', us), ys)) :
    Calls Tryd.prog 30 #[.agg #[.string nm, .slice A n c, .slice B m d], .agg #[.string nm', .slice A' n' c', .slice B' m' d']] w (BoolPost true w) := by
  obtain ⟨rfl, rfl, rfl⟩ : nm = nm' ∧ ts = us ∧ xs = ys := by
    simp only [Prod.mk.injEq] at he; exact ⟨he.1.1, he.1.2, he.2⟩
  have hmm : m = m' := h.2.1.symm.trans h'.2.1
  subst hmm
  have H := Lib.hid h; clear h
  have H' := Lib.hid h'; clear h'
  have hw0 := below2 w (.cells #[.string nm, .slice A n c, .slice B m d] 38) (.cells #[.string nm, .slice A' n' c', .slice B' m d'] 38)
  have X0 := Lib.hid ((Box3.new w (.string nm) (.slice A n c) (.slice B m d) 38).later (below1 _ (.cells #[.string nm, .slice A' n' c', .slice B' m d'] 38)))
  have Y0 := Lib.hid (Box3.new (w.alloc (.cells #[.string nm, .slice A n c, .slice B m d] 38)) (.string nm) (.slice A' n' c') (.slice B' m d') 38)
  go_enter Tryd.func30, Tryd.ntmps30
  go_wp2_with fail
  refine (fs_tells (nm := nm) (nm' := nm) (H.out.up hw0).1 (H'.out.up hw0).1 rfl (Below.refl _ _)).mono ?_; rintro e w1 ⟨rfl, hb1⟩
  have HB1 := belowThen hw0 hb1
  obtain ⟨x1, x2, x3, x4⟩ := X0.out.later hb1
  obtain ⟨y1, y2, y3, y4⟩ := Y0.out.later hb1
  simp only [size_alloc_eq] at y1 y2 y3 y4
  go_wp2_with fail
  refine (fsParts_same _ _ _ _ _ _ xs _ (H.out.up HB1).2 (H'.out.up HB1).2).mono ?_; rintro e w2 ⟨rfl, hb2⟩
  go_wp2
  go_ret; exact ⟨rfl, belowThen HB1 hb2⟩

end Go.Proofs.YtahkkelahocplaaDoor

namespace Go.Proofs.YtahkkelahocplaaDoor
open Go.RowKit

/-- A rule was drawn. -/
def DrawnRule (w : World) (e : Ending) (w' : World) : Prop :=
  ∃ (nm : ByteArray) (A : Option Addr) (k d : Nat) (ts : List Tm) (B : Option Addr) (m c : Nat) (xs : List Pt), (e = .returned (.agg #[.string nm, .slice A k d, .slice B m c]) ∧ nm.size ≤ 16) ∧ IsRule w' w'.heap.size A k d B m c ts xs ∧ Below w.heap.size w w'

set_option maxRecDepth 100000 in
set_option maxHeartbeats 8000000 in
theorem drawRulePut_any (A : Option Addr) (n c : Nat) (w : World) (h : IsBytes w w.heap.size A n c) :
    Calls Tryd.prog 27 #[.slice A n c] w (DrawnRule w) := by
  obtain ⟨i0, hi, hz, hsz, hby⟩ := info_parts Tryd.infoPart
  have HI := Lib.hid hi; have HZ := Lib.hid hz; have HSZ := Lib.hid hsz; have HYY := Lib.hid hby
  clear hi hz hsz hby
  go_enter Tryd.func27, Tryd.ntmps27
  go_wp2_with fail
  have hX0 := Blk.new w 38 #[.string ⟨#[]⟩, .slice none 0 0, .slice none 0 0]
  refine (open_any A n c _ (h.up (below1 w _))).mono ?_; rintro e w1 ⟨b, n', ⟨rfl, hb⟩, hr, hb1⟩
  rw [size_alloc_eq] at hb
  have X1 := Lib.hid (hX0.below hb1)
  have HB1 := Lib.hid (belowThen (below1 w _) hb1)
  have hbw : b < w1.heap.size := hr.1
  have R1 := Lib.hid hr
  clear hX0 hb1 hr
  go_wp2_with fail
  refine (any_atom_draw b A n' c 0 w1 R1.out (by omega)).mono ?_; rintro e w2 ⟨nm, A', k, d', ts, p2, ⟨rfl, hnm, hk, hp2⟩, hlen, hs2, hown2, hrd2, hg2⟩
  have HH := Lib.hid ((head_drawn hnm hlen hs2 hown2).keep (w' := w2) (lo' := w1.heap.size) (hi' := w2.heap.size) (fun _ _ _ => rfl) (Nat.le_refl _) (Nat.le_refl _))
  have HNM := Lib.hid hnm; have HLN := Lib.hid hlen
  have hz2 := hg2.size
  have HS3 := Lib.hid (laid nmB w2 #[.string ⟨#[101]⟩, .string ⟨#[112]⟩, .string ⟨#[116]⟩] 9 (by rfl))
  have hb23 := below1 w2 (.cells #[.string ⟨#[101]⟩, .string ⟨#[112]⟩, .string ⟨#[116]⟩] 9)
  have HHb := Lib.hid (HH.out.on hb23)
  have R3 := Lib.hid (hrd2.below hb23)
  have G3 := Lib.hid (grownTrans hg2 (grownBelow hb23 (some b)))
  clear hlen hs2 hown2 hrd2 hg2 hnm hb23 HH
  have hz3 : w2.heap.size < (w2.alloc (.cells #[.string ⟨#[101]⟩, .string ⟨#[112]⟩, .string ⟨#[116]⟩] 9)).heap.size := by simp
  go_wp2_with fail
  obtain ⟨W3, hW3⟩ : ∃ W3, (w2.alloc (.cells #[.string ⟨#[101]⟩, .string ⟨#[112]⟩, .string ⟨#[116]⟩] 9)) = W3 := ⟨_, rfl⟩
  rw [hW3] at HS3 HHb R3 G3 hz3 ⊢
  clear hW3
  refine (body_draw b w2.heap.size 3 A n' c p2 _ R3.out (by omega) (by omega) (by omega) (by omega) HS3.out).mono ?_; rintro e w4 ⟨v4, ps, p4, rfl, hl4, hp4, hDP, hQ4⟩
  obtain ⟨B4, d4, hv4, _⟩ := ty_parts hDP.row rfl hDP.hd
  subst hv4
  obtain ⟨m4, hm4⟩ : ∃ m4, ps.length = m4 := ⟨_, rfl⟩
  have HDP := Lib.hid hDP
  rw [hm4] at HDP hl4 ⊢
  have HM4 := Lib.hid hm4
  have hz4 := hDP.gr.size
  have hz31 := G3.out.size
  have HX4 : Hid (XB b A n' c w1 w4.heap.size (nm, A', k, d', ts) p4 (.slice none 0 0) [] W3 B4 m4 d4 ps (w4.alloc (.cells #[.string nm, .slice A' k d', .slice B4 m4 d4] 38))) := by
    have h1 : Old w1 (.slice none 0 0) [] (nm, A', k, d', ts) W3 W3 := ⟨⟨rfl, .inl ⟨rfl, rfl⟩⟩, fun r hr => absurd hr List.not_mem_nil, HHb.out, fun g hg => by simp [Value.ownBlock] at hg, hz31⟩
    have XO := h1.keep (grown_low hDP.gr (show b < w1.heap.size from hbw) (Nat.le_refl _))
    have hbx := below1 w4 (.cells #[.string nm, .slice A' k d', .slice B4 m4 d4] 38)
    exact Lib.hid ⟨XO.keep (fun y _ hy => hbx.block y (by omega)), HDP.out.below (by omega) hbx, Blk.new w4 _ _, hz4, grownTrans (grownTrans G3.out hDP.gr) (grownBelow hbx (some b))⟩
  clear hDP hQ4 hm4 HDP R3 HHb HS3 R1
  go_wp2_with fail
  rename_i K3 a3 KC3 aC3 KL3 aL3
  have REST : ∀ (y0 y1 y5 y6 y7 y8 y9 y10 y11 y12 y13 y14 y15 y16 y17 y18 y19 y20 y21 y22 y23 y24 y25 y26 y27 y28 y29 y30 y31 y32 y33 y34 y35 y36 : Value) (C : Option Addr) (m e : Nat) (qs : List Pf) (p5 : Nat) (W : World), qs.length = m → m ≤ 3 → p5 ≤ p4 + 1 → XB b A n' c w1 w4.heap.size (nm, A', k, d', ts) p5 (.slice none 0 0) [] W3 C m e qs W → K3 { tmps := #[y0, y1, .pointer (some ⟨w.heap.size, 0, none⟩), .pointer (some ⟨b, 0, none⟩), .pointer (some ⟨w4.heap.size, 0, none⟩), y5, y6, y7, y8, y9, y10, y11, y12, y13, y14, y15, y16, y17, y18, y19, y20, y21, y22, y23, y24, y25, y26, y27, y28, y29, y30, y31, y32, y33, y34, y35, y36], defers := [] } W := by
    intro y0 y1 y5 y6 y7 y8 y9 y10 y11 y12 y13 y14 y15 y16 y17 y18 y19 y20 y21 y22 y23 y24 y25 y26 y27 y28 y29 y30 y31 y32 y33 y34 y35 y36 C m e qs p5 W hm hm3 hp5 hX
    have HM := Lib.hid hm; have HX := Lib.hid hX
    clear hm hX HX4 HM4
    refine a3 _ _ ?_
    clear a3 aC3 aL3
    go_wp2_with fail
    rename_i K4 a4 KC4 aC4 KL4 aL4
    have REST2 : ∀ (y0 y1 y5 y6 y7 y8 y9 y10 y11 y12 y13 y14 y15 y16 y17 y18 y19 y20 y21 y22 y23 y24 y25 y26 y27 y28 y29 y30 y31 y32 y33 y34 y35 y36 : Value) (C : Option Addr) (m e : Nat) (qs : List Pf) (p5 : Nat) (W : World), qs.length = m → XB b A n' c w1 w4.heap.size (nm, A', k, d', ts) p5 (.slice none 0 0) [] W3 C m e qs W → K4 { tmps := #[y0, y1, .pointer (some ⟨w.heap.size, 0, none⟩), .pointer (some ⟨b, 0, none⟩), .pointer (some ⟨w4.heap.size, 0, none⟩), y5, y6, y7, y8, y9, y10, y11, y12, y13, y14, y15, y16, y17, y18, y19, y20, y21, y22, y23, y24, y25, y26, y27, y28, y29, y30, y31, y32, y33, y34, y35, y36], defers := [] } W := by
      intro y0 y1 y5 y6 y7 y8 y9 y10 y11 y12 y13 y14 y15 y16 y17 y18 y19 y20 y21 y22 y23 y24 y25 y26 y27 y28 y29 y30 y31 y32 y33 y34 y35 y36 C m e qs p5 W hm hX
      have HM := Lib.hid hm; have HX0 := HX; clear HX; have HX := Lib.hid hX
      clear hm hX HX0
      refine a4 _ _ ?_
      clear a4 aC4 aL4
      have x0 : W.cell? ⟨w4.heap.size, 0, none⟩ = some (.string nm) := HX.out.X.cell 0
      have x1 : W.cell? ⟨w4.heap.size, 1, none⟩ = some (.slice A' k d') := HX.out.X.cell 1
      have x2 : W.cell? ⟨w4.heap.size, 2, none⟩ = some (.slice C m e) := HX.out.X.cell 2
      have XB0 := X1.out.kept HX.out.gr (fun e => by injection e with e; omega)
      have z0 := XB0.cell 0; have z1 := XB0.cell 1; have z2 := XB0.cell 2; have f0 := XB0.frozen 0; have f1 := XB0.frozen 1; have f2 := XB0.frozen 2
      have hlt := X1.out.lt
      have hzW := HX.out.gr.size
      have TR := HX.out.rule HM.out
      have HT := Lib.hid TR.1.2.1; have HP := Lib.hid TR.2.parts
      have HBW := Lib.hid (HB1.out.grown HX.out.gr HB1.out.size (fun k hk => by injection hk with hk; omega))
      clear TR XB0
      go_wp2
      refine bodyPost_ret (v := .agg #[.string nm, .slice A' k d', .slice C m e]) (by simp [results, Tryd.results27, go_sem, z0, z1, z2]) rfl ⟨nm, A', k, d', ts, C, m, e, qs.map pAt, ⟨rfl, HNM.out.1⟩, ⟨?_, ?_⟩, ((HBW.out.setCell (by simp) _).setCell (by simp) _).setCell (by simp) _⟩
      · exact HT.out.keep (fun q h1 _ => World.cell?_of_block (((Below.heap_setCell _ _ _ _ (by simp; omega)).trans (Below.heap_setCell _ _ _ _ (by simp; omega))).trans (Below.heap_setCell _ _ _ _ (by simp; omega)))) (Nat.zero_le _) (by simp)
      · exact HP.out.keep PartE.stays (fun q h1 _ => World.cell?_of_block (((Below.heap_setCell _ _ _ _ (by simp; omega)).trans (Below.heap_setCell _ _ _ _ (by simp; omega))).trans (Below.heap_setCell _ _ _ _ (by simp; omega)))) (Nat.zero_le _) (by simp)
    have HREST2 := Lib.hid REST2; clear REST2 a4
    refine (pick_any b A n' c p5 16 _ HX.out.P.rd (by omega) (by omega)).mono ?_; rintro e_ w6 ⟨kk, ⟨rfl, hkk⟩, hr6, hg6⟩
    have HX6 := Lib.hid (HX.out.step hbw hg6 hr6)
    clear hr6 hg6 HX hkk
    by_cases hkk0 : kk = 0
    · subst hkk0
      go_wp2_with fail
      go_loopw [] (fun wr => ∃ (C : Option Addr) (m e : Nat) (qs : List Pf) (p6 : Nat), qs.length = m ∧ m ≤ 5 ∧ p6 ≤ p4 + 10 + 60 * m ∧ XB b A n' c w1 w4.heap.size (nm, A', k, d', ts) p6 (.slice none 0 0) [] W3 C m e qs wr) (fun wr => match wr.cell? ⟨w4.heap.size, 2, none⟩ with | some (.slice _ len _) => 6 - len | _ => 0)
      case atStart => exact ⟨C, m, e, qs, p5 + 1, HM.out, by omega, by omega, HX6.out⟩
      case round =>
        obtain ⟨C, m, e, qs, p6, hm, hm5, hp6, hX⟩ := hrel
        clear HM HX6
        have HM := Lib.hid hm; have HX := Lib.hid hX
        have y0 : wr.cell? ⟨w4.heap.size, 2, none⟩ = some (.slice C m e) := hX.X.cell 2
        have R5 := Lib.hid (show Rd wr.drew b A n' c p6 from hX.P.rd)
        have HWR := Lib.hid (show ∀ m : Nat, m < 2 → IntKind.i64.wrap (4 + (m : Int)) = 4 + (m : Int) from fun m hm => by rw [IntKind.wrap_i64]; omega)
        clear hm hX
        go_wp2_with fail
        go_region_held3 (fun W => W.cell? ⟨w4.heap.size, 2, none⟩ = some (.slice C m e))
          (first | exact y0 | exact yy4)
          (((with_reducible refine (pick_any b A n' c p6 _ _ R5.out (by omega) (by omega)).mono ?_); rintro e_ w7 ⟨kk, ⟨rfl, hkk⟩, hr7, hg7'⟩; have hg7 : wr.grownBy w7 (some b) := ungrown hg7'; clear hg7'; have HX7 := Lib.hid (HX.out.step hbw hg7 hr7); have yy4 : w7.cell? ⟨w4.heap.size, 2, none⟩ = some (.slice C m e) := HX7.out.X.cell 2; have hk2 : kk < 2 := (by omega); have hw3 := HWR.out kk hk2))
        clear R5 HWR hkk hr7 hg7
        by_cases hlt : m < 4 + kk
        · have hltI : (m : Int) < 4 + (kk : Int) := by omega
          have R7 := Lib.hid (show Rd w7.drew b A n' c (p6 + 1) from HX7.out.P.rd)
          have hz7 := HX7.out.P.gr.size
          go_wp2_with fail
          go_region_law (first
            | (refine step_append_lies _ (by rfl) _ _ _ (by rfl) W3.heap.size 86 i0 _ 3 48 Tryd.underlying36 HI.out HZ.out HSZ.out HYY.out rfl (by omega) (.slice C m e) m (pcells qs) (by rfl) (O8.out.alloc _) ⟨w8.heap.size, 0, none⟩ 1 1 [.bool false, .string nm8, .slice A8 k8 d8] (by rfl) (by rfl) (World.news_of_block (cs := #[.bool false, .string nm8, .slice A8 k8 d8]) (t := 86) (fr := (0, 0)) (heap_alloc_new w8 _)) (by simp [Value.oneCell']) (by omega) (by unfold maxLen; omega) (by omega) (by simp; omega) (w8.heap.size + 1) (by simp) ?_; intro gg cap w9 hown9 hgrow hat hlt9; have X9 := (HX8.out.below hbw (below1 w8 (.cells #[.bool false, .string nm8, .slice A8 k8 d8] 86))).X.kept hgrow (own_kind (HX8.out.below hbw (below1 w8 (.cells #[.bool false, .string nm8, .slice A8 k8 d8] 86))).P.row (HX8.out.below hbw (below1 w8 (.cells #[.bool false, .string nm8, .slice A8 k8 d8] 86))).X (by decide)); have q2 := X9.cell 2; have q2' := X9.frozen 2)
            | ((go_simp; go_at_call 57; refine (any_atom_draw b A n' c _ _ R7.out (by omega)).mono ?_); rintro e_ w8 ⟨nm8, A8, k8, d8, ts8, p8, ⟨rfl, hnm8, hk8, hp8⟩, hlen8, hs8, hown8, hrd8, hg8'⟩; have hg8 : w7.grownBy w8 (some b) := ungrown hg8'; have hz8 := hg8.size; have HH8 := Lib.hid ((head_drawn hnm8 hlen8 hs8 hown8).keep (w' := w8) (lo' := W3.heap.size) (hi' := w8.heap.size) (fun _ _ _ => rfl) (show W3.heap.size ≤ w7.drew.heap.size from hz7) (Nat.le_refl _)); have HX8 := Lib.hid (HX7.out.step hbw hg8 hrd8); have O8 : Hid (w8.ownsRow W3.heap.size 86 3 (.slice C m e) m (pcells qs)) := Lib.hid (by have := HX8.out.P.row; rw [HM.out] at this; exact this); have yy8 : w8.cell? ⟨w4.heap.size, 2, none⟩ = some (.slice C m e) := HX8.out.X.cell 2; have yy9 : (w8.alloc (.cells #[.bool false, .string nm8, .slice A8 k8 d8] 86)).cell? ⟨w4.heap.size, 2, none⟩ = some (.slice C m e) := (HX8.out.below hbw (below1 w8 _)).X.cell 2; clear hg8' hnm8 hlen8 hs8 hown8 hrd8 hg8))
          all_goals
            have hM := HX8.out.more (q := (false, nm8, A8, k8, d8, ts8)) hbw HM.out HH8.out hown9 hgrow
            go_roundw
            case rel => exact ⟨_, _, _, _, _, _, _, _, _, _, _, _, _, _, _, ⟨_, m + 1, _, _, p8, by rw [List.length_append, HM.out]; rfl, by omega, by omega, hM⟩, rfl⟩
            case measure =>
              rw [show (w9.setCell ⟨w4.heap.size, 2, none⟩ (.slice (some ⟨gg, 0, none⟩) (m + 1) cap)).cell? ⟨w4.heap.size, 2, none⟩ = some (.slice (some ⟨gg, 0, none⟩) (m + 1) cap) by simp [go_sem, q2], y0]
              show 6 - (m + 1) < 6 - m
              omega
        · have hltI : ¬ (m : Int) < 4 + (kk : Int) := by omega
          go_wp2
          exact HREST2.out _ _ _ _ _ _ _ _ _ _ _ _ _ _ _ _ _ _ _ _ _ _ _ _ _ _ _ _ _ _ _ _ _ _ C m e qs _ w7 HM.out HX7.out
    · have hkI : ¬ (kk : Int) = 0 := by omega
      go_wp2
      exact HREST2.out _ _ _ _ _ _ _ _ _ _ _ _ _ _ _ _ _ _ _ _ _ _ _ _ _ _ _ _ _ _ _ _ _ _ C m e qs _ w6 HM.out HX6.out
  have HREST := Lib.hid REST; clear REST a3
  refine (pick_any b A n' c p4 8 _ HX4.out.P.rd (by omega) (by omega)).mono ?_; rintro e w6 ⟨kk, ⟨rfl, hkk⟩, hr6, hg6⟩
  have HX6 := Lib.hid (HX4.out.step hbw hg6 hr6)
  clear hr6 hg6 HX4
  by_cases hkk0 : kk = 0
  · subst hkk0
    have x2 : w6.cell? ⟨w4.heap.size, 2, none⟩ = some (.slice B4 m4 d4) := HX6.out.X.cell 2
    have q2' : (w6.alloc (.cells #[] 86)).frozen? ⟨w4.heap.size, 2, none⟩ = false := (HX6.out.below hbw (below1 _ _)).X.frozen 2
    have q2 : (w6.alloc (.cells #[] 86)).cell? ⟨w4.heap.size, 2, none⟩ = some (.slice B4 m4 d4) := (HX6.out.below hbw (below1 _ _)).X.cell 2
    have hz6 := HX6.out.P.gr.size
    have hlx := HX6.out.X.lt
    have h7 := HX6.out.below hbw (below1 w6 (.cells #[] 86))
    have hM := XB.turn (B' := some ⟨w6.heap.size, 0, none⟩) (m := 0) (e' := 0) (ps := []) h7.O ⟨own_empty3 w6 _ _ hz6, fun q hq => absurd hq List.not_mem_nil, h7.P.rd, h7.P.gr⟩ h7.X h7.lx h7.gr hbw
    rw [World.setCell_alloc_past _ _ _ _ hlx] at hM
    have HMT := Lib.hid hM; clear hM h7
    go_wp2
    exact HREST.out _ _ _ _ _ _ _ _ _ _ _ _ _ _ _ _ _ _ _ _ _ _ _ _ _ _ _ _ _ _ _ _ _ _ _ 0 0 [] (p4 + 1) _ rfl (by omega) (by omega) HMT.out
  · have hkI : ¬ (kk : Int) = 0 := by omega
    go_wp2
    exact HREST.out _ _ _ _ _ _ _ _ _ _ _ _ _ _ _ _ _ _ _ _ _ _ _ _ _ _ _ _ _ _ _ _ _ _ B4 m4 d4 ps (p4 + 1) w6 HM4.out hl4 (by omega) HX6.out

end Go.Proofs.YtahkkelahocplaaDoor

namespace Go.Proofs.YtahkkelahocplaaDoor
open Go.RowKit

theorem partL_wide {q : Pt} (h : (textL q.2).length ≤ 200) : (partL q).length ≤ 204 := by
  unfold partL
  split <;> simp only [List.length_append, List.length_cons, List.length_nil] <;> omega

theorem bodyL_wide : ∀ (xs : List Pt), (∀ q ∈ xs, (textL q.2).length ≤ 200) → (Lib.joinTail [32, 97, 110, 100, 32] (xs.map partL)).length ≤ 209 * xs.length
  | [], _ => by simp [Lib.joinTail]
  | q :: r, h => by
    have h1 := partL_wide (h q (by simp))
    have h2 := bodyL_wide r (fun x hx => h x (by simp [hx]))
    have h3 : Lib.joinTail [32, 97, 110, 100, 32] ((q :: r).map partL) = [32, 97, 110, 100, 32] ++ partL q ++ Lib.joinTail [32, 97, 110, 100, 32] (r.map partL) := by simp [Lib.joinTail]
    rw [h3]
    simp only [List.length_append, List.length_cons, List.length_nil]
    omega

theorem bodyL_lens {xs : List Pt} (h : ∀ q ∈ xs, (textL q.2).length ≤ 200) : (bodyL xs).length ≤ 209 * xs.length := by
  cases xs with
  | nil => simp [bodyL, Lib.join_nil]
  | cons q r =>
    have h1 := partL_wide (h q (by simp))
    have h2 := bodyL_wide r (fun x hx => h x (by simp [hx]))
    unfold bodyL
    rw [List.map_cons, Lib.join_cons]
    simp only [List.length_append, List.length_cons] at *
    omega

theorem ruleL_wide {r : Rl} (ha : (textL r.1).length ≤ 200) (hb : ∀ q ∈ r.2, (textL q.2).length ≤ 200) : (ruleL r).length ≤ 204 + 209 * r.2.length := by
  have h1 := bodyL_lens hb
  unfold ruleL
  split <;> simp only [List.length_append, List.length_cons, List.length_nil] <;> omega

theorem RPart.size_wide {r : Rl} {s : ByteArray} {k : Nat} (h : RPart r k s) (hb : ∀ q ∈ r.2, (textL q.2).length ≤ 200) (ha : (textL r.1).length ≤ 200) (hl : r.2.length ≤ 5) : s.size ≤ 1300 := by
  have h1 : s.size = s.data.toList.length := rfl
  rw [h1, h]
  have h3 : (bodyL (r.2.take k)).length ≤ 209 * (r.2.take k).length := bodyL_lens fun x hx => hb x (List.mem_of_mem_take hx)
  have h4 : (r.2.take k).length ≤ 5 := by rw [List.length_take]; omega
  split <;> simp only [List.length_append, List.length_cons, List.length_nil] <;> omega

set_option maxHeartbeats 2000000 in
theorem l1RulePut_wide (nm : ByteArray) (A : Option Addr) (n c : Nat) (B : Option Addr) (m d : Nat) (ts : List Tm) (xs : List Pt) (w : World) (h : IsRule w w.heap.size A n c B m d ts xs) (hA : (textL (nm, ts)).length ≤ 200) (hB : ∀ q ∈ xs, (textL q.2).length ≤ 200) (hL : xs.length ≤ 5) :
    Calls Tryd.prog 75 #[.agg #[.string nm, .slice A n c, .slice B m d]] w (StrPost (ruleL ((nm, ts), xs)) w) := by
  have hm := h.2.len
  unfold maxLen at hm
  have hput := hA
  have L := Lib.hid h.2.1
  have H := Lib.hid h; clear h
  have EB := Lib.hid hB; have EA := Lib.hid hA; have EL := Lib.hid hL
  clear hB hA hL
  have hw0 := below1 w (.cells #[.string nm, .slice A n c, .slice B m d] 38)
  have X0 := Lib.hid (Box3.new w (.string nm) (.slice A n c) (.slice B m d) 38)
  have P0 := Lib.hid (RPart.start ((nm, ts), xs))
  go_enter Tryd.func75, Tryd.ntmps75
  go_wp2_with fail
  refine (l1Put_any _ _ _ _ ts _ (H.out.up hw0).1 (by omega)).mono ?_; rintro e w1 ⟨rfl, hb1⟩
  have HB1 := belowThen hw0 hb1
  have X1 := Lib.hid (X0.out.later hb1); clear hb1 X0
  go_wp2_with fail
  go_loopw [3, 4] (fun x i wr => ∃ (k : Nat) (s : ByteArray), k ≤ m ∧ i = .int .i64 k ∧ x = .string s ∧ RPart ((nm, ts), xs) k s ∧ Below w1.heap.size w1 wr) (fun _ i _ => m - (intOf i).toNat)
  case atStart => exact ⟨0, _, Nat.zero_le _, rfl, rfl, P0.out, Below.refl _ _⟩
  case round =>
    obtain ⟨k, s, hk, rfl, rfl, hd, hb⟩ := hrel
    have hsz := hd.size_wide EB.out EA.out EL.out
    have HD := Lib.hid hd; clear hd
    have HB := belowThen HB1 hb
    obtain ⟨x1, x2, x3, x4⟩ := X1.out.later hb
    by_cases hlt : k < m
    · obtain ⟨p, q, hA, hlo, hhi, hg, hE⟩ := (H.out.2.below PartE.stays HB (Nat.le_refl _)).at_ hlt
      obtain ⟨C, n', c', d1, d2, d3, d4, d5⟩ := hE.out
      clear hE
      subst hA
      have hqp := EB.out q (List.mem_of_getElem? hg)
      have hql := partL_wide hqp
      have hql' : (partL (q.1, q.2.1, q.2.2)).length ≤ 204 := hql
      have hqp' : (textL (q.2.1, q.2.2)).length ≤ 200 := hqp
      have HG := Lib.hid hg; clear hg
      have HT := Lib.hid (d5.keep (lo' := 0) (hi' := wr.heap.size) (fun _ _ _ => rfl) (Nat.le_refl _) HB.size); clear d5
      rcases Nat.eq_zero_or_pos k with h0 | h0
      · have hk0 : ((k : Int) == 0) = true := by rw [beq_iff_eq]; omega
        have HN := Lib.hid (HD.out.one h0 HG.out (t := ⟨(partL q).toArray⟩) (by simp))
        clear h0
        go_wp2_with fail
        refine (l1Part_any _ _ _ _ _ q.2.2 _ HT.out (by omega)).mono ?_; rintro e w2 ⟨rfl, hb2⟩
        go_wp2
        go_roundw
        case rel => exact ⟨k + 1, _, by omega, by go_num, rfl, HN.out, belowThen hb hb2⟩
        case measure => simp [intOf]; omega
      · have hk0 : ((k : Int) == 0) = false := by rw [beq_eq_false_iff_ne]; omega
        have HN := Lib.hid (HD.out.next h0 HG.out (t := ⟨(partL q).toArray⟩) (by simp))
        clear h0
        go_wp2_with fail
        refine (l1Part_any _ _ _ _ _ q.2.2 _ HT.out (by omega)).mono ?_; rintro e w2 ⟨rfl, hb2⟩
        go_wp2
        go_roundw
        case rel => exact ⟨k + 1, _, by omega, by go_num, rfl, HN.out, belowThen hb hb2⟩
        case measure => simp [intOf]; omega
    · have E := Lib.hid (HD.out.all L.out hlt hk)
      go_wp2
      go_ret
      exact ⟨strEq E.out, HB⟩


/-- Few small terms: the text is not long. -/
theorem head_wide {w : World} {lo hi : Nat} {r : Rf} (h : HeadApart w lo hi r) (hn : r.1.size ≤ 16) (hk : rN r ≤ 8) (hs : ∀ t ∈ r.2.2.2.2, t.2.size ≤ 16) : (textL (rAt r)).length ≤ 200 :=
  drawn_text_len (k := rN r) hn h.2.1.1 hk hs

set_option maxRecDepth 100000 in
set_option maxHeartbeats 4000000 in
theorem drawRuleGet_any (A : Option Addr) (n c : Nat) (w : World) (h : IsBytes w w.heap.size A n c) :
    Calls Tryd.prog 31 #[.slice A n c] w (DrawnText 1000 w) := by
  go_enter Tryd.func31, Tryd.ntmps31
  go_wp2_with fail
  refine (open_any A n c _ h).mono ?_; rintro e w1 ⟨b, n', ⟨rfl, hb⟩, hr, hb1⟩
  have HB1 := Lib.hid hb1
  have R1 := Lib.hid hr
  have hbw : b < w1.heap.size := hr.1
  clear hb1 hr
  go_wp2_with fail
  refine (atom_draw b A n' c 0 ⟨#[116]⟩ true w1 R1.out (by omega) (nm_lit 116)).mono ?_; rintro e w2 ⟨nm, A', k, d', ts, p2, ⟨rfl, hnm, hk, hp2⟩, hlen, hs2, hown2, hrd2, hg2⟩
  have HH := Lib.hid ((head_drawn hnm hlen hs2 hown2).keep (w' := w2) (lo' := w1.heap.size) (hi' := w2.heap.size) (fun _ _ _ => rfl) (Nat.le_refl _) (Nat.le_refl _))
  have hz2 := hg2.size
  have HTL := Lib.hid (drawn_text_len hnm.1 hlen (show k ≤ 8 by omega) hs2)
  have HS3 := Lib.hid (laid nmB w2 #[.string ⟨#[101]⟩, .string ⟨#[112]⟩, .string ⟨#[122]⟩] 9 (by rfl))
  have hb23 := below1 w2 (.cells #[.string ⟨#[101]⟩, .string ⟨#[112]⟩, .string ⟨#[122]⟩] 9)
  have HHb := Lib.hid (HH.out.on hb23)
  have R3 := Lib.hid (hrd2.below hb23)
  have G3 := Lib.hid (grownTrans hg2 (grownBelow hb23 (some b)))
  clear hlen hs2 hown2 hrd2 hg2 hnm hb23 HH
  have hz3 : w2.heap.size < (w2.alloc (.cells #[.string ⟨#[101]⟩, .string ⟨#[112]⟩, .string ⟨#[122]⟩] 9)).heap.size := by simp
  go_wp2_with fail
  obtain ⟨W3, hW3⟩ : ∃ W3, (w2.alloc (.cells #[.string ⟨#[101]⟩, .string ⟨#[112]⟩, .string ⟨#[122]⟩] 9)) = W3 := ⟨_, rfl⟩
  rw [hW3] at HS3 HHb R3 G3 hz3 ⊢
  clear hW3
  refine (body_draw_w b w2.heap.size 3 A n' c p2 _ R3.out (by omega) (by omega) (by omega) (by omega) HS3.out).mono ?_; rintro e w4 ⟨v4, ps, p4, rfl, hl4, hp4, hDP, hQ4, _⟩
  obtain ⟨B4, d4, hv4, hTP⟩ := ty_parts hDP.row rfl hDP.hd
  subst hv4
  have hz4 := hDP.gr.size
  have hz31 := G3.out.size
  have HR : Hid (IsRule w4 w4.heap.size A' k d' B4 ps.length d4 ts (ps.map pAt)) := by
    have h1 := (HHb.out.by_ hDP.gr (show b < w1.heap.size from hbw)).2.1
    exact Lib.hid ⟨h1.keep (fun _ _ _ => rfl) (Nat.zero_le _) (Nat.le_refl _), hTP.parts.keep PartE.stays (fun _ _ _ => rfl) (Nat.zero_le _) (Nat.le_refl _)⟩
  have HPL := Lib.hid (show ∀ q ∈ ps.map pAt, (textL q.2).length ≤ 200 from fun q hq => by
    obtain ⟨r, hr, rfl⟩ := List.mem_map.1 hq
    exact head_wide (hDP.hd r hr) (hQ4 r hr).1.1.1 (Nat.le_trans (hQ4 r hr).1.2 (by omega)) (hQ4 r hr).2)
  have R4 := Lib.hid hDP.rd
  have G4 := Lib.hid (grownTrans G3.out hDP.gr)
  have hwl := ruleL_wide (r := ((nm, ts), ps.map pAt)) HTL.out HPL.out
  have hlm : (ps.map pAt).length = ps.length := List.length_map _
  simp only [hlm] at hwl
  clear hDP hQ4 hTP R3 HHb HS3 R1
  go_wp2_with fail
  refine (l1RulePut_wide nm A' k d' B4 ps.length d4 ts (ps.map pAt) w4 HR.out HTL.out HPL.out (by rw [hlm]; omega)).mono ?_; rintro e w5 ⟨rfl, hb5⟩
  have R5 := Lib.hid (R4.out.below hb5)
  have G5 := Lib.hid (grownTrans G4.out (grownBelow hb5 (some b)))
  clear hb5
  have hsz : (⟨(ruleL ((nm, ts), ps.map pAt)).toArray⟩ : ByteArray).size = (ruleL ((nm, ts), ps.map pAt)).length := by simp [ByteArray.size]
  go_wp2_with fail
  refine (cut_draw _ b A n' c _ w5 R5.out (by omega) (by rw [hsz]; omega)).mono ?_; rintro e w6 ⟨t, p6, ⟨rfl, ht, _⟩, hr6, hg6⟩
  have G6 := Lib.hid (grownTrans G5.out hg6)
  clear hr6 hg6
  go_wp2
  go_ret
  exact ⟨t, ⟨rfl, by omega⟩, HB1.out.grown G6.out HB1.out.size (fun k hk => by injection hk with hk; omega)⟩

end Go.Proofs.YtahkkelahocplaaDoor

namespace Go.Proofs.YtahkkelahocplaaDoor
open Go.RowKit

/-- A body was drawn, of whatever atoms. -/
def AnyBody (b : Nat) (w : World) (e : Ending) (w' : World) : Prop :=
  ∃ (B : Option Addr) (k d : Nat) (xs : List Pt), (e = .returned (.slice B k d) ∧ k ≤ 5) ∧ IsParts w' 0 w'.heap.size B k d xs ∧ w.grownBy w' (some b)

theorem DP.told {b n c p : Nat} {A : Option Addr} {w W3 W : World} {B : Option Addr} {m d : Nat} {ps : List Pf} (h : DP b A n c W3 p W (.slice B m d) ps) (hm : ps.length = m) (hg : w.grownBy W3 (some b)) : IsParts W 0 W.heap.size B m d (ps.map pAt) ∧ w.grownBy W (some b) := by
  subst hm
  obtain ⟨B', d', e, hT⟩ := ty_parts h.row rfl h.hd
  injection e with e1 _ e2
  subst e1; subst e2
  exact ⟨hT.parts.keep PartE.stays (fun _ _ _ => rfl) (Nat.zero_le _) (Nat.le_refl _), grownTrans hg h.gr⟩

set_option maxRecDepth 100000 in
set_option maxHeartbeats 4000000 in
theorem anyBody_draw (b : Nat) (A : Option Addr) (n c p : Nat) (w : World) (h : Rd w b A n c p) (hp : p ≤ 1000) :
    Calls Tryd.prog 78 #[.pointer (some ⟨b, 0, none⟩)] w (AnyBody b w) := by
  obtain ⟨i0, hi, hz, hsz, hby⟩ := info_parts Tryd.infoPart
  have HI := Lib.hid hi; have HZ := Lib.hid hz; have HSZ := Lib.hid hsz; have HYY := Lib.hid hby
  clear hi hz hsz hby
  have hbw : b < w.heap.size := h.1
  have HS3 := Lib.hid (laid nmB w #[.string ⟨#[101]⟩, .string ⟨#[112]⟩, .string ⟨#[116]⟩, .string ⟨#[113]⟩, .string ⟨#[114]⟩, .string ⟨#[122]⟩, .string ⟨#[101]⟩] 9 (by rfl))
  have R3 := Lib.hid (h.below (below1 w (.cells #[.string ⟨#[101]⟩, .string ⟨#[112]⟩, .string ⟨#[116]⟩, .string ⟨#[113]⟩, .string ⟨#[114]⟩, .string ⟨#[122]⟩, .string ⟨#[101]⟩] 9)))
  have G3 := Lib.hid (grownBelow (below1 w (.cells #[.string ⟨#[101]⟩, .string ⟨#[112]⟩, .string ⟨#[116]⟩, .string ⟨#[113]⟩, .string ⟨#[114]⟩, .string ⟨#[122]⟩, .string ⟨#[101]⟩] 9)) (some b))
  have hz3 : w.heap.size < (w.alloc (.cells #[.string ⟨#[101]⟩, .string ⟨#[112]⟩, .string ⟨#[116]⟩, .string ⟨#[113]⟩, .string ⟨#[114]⟩, .string ⟨#[122]⟩, .string ⟨#[101]⟩] 9)).heap.size := by simp
  clear h
  go_enter Tryd.func78, Tryd.ntmps78
  go_wp2_with fail
  obtain ⟨W3, hW3⟩ : ∃ W3, (w.alloc (.cells #[.string ⟨#[101]⟩, .string ⟨#[112]⟩, .string ⟨#[116]⟩, .string ⟨#[113]⟩, .string ⟨#[114]⟩, .string ⟨#[122]⟩, .string ⟨#[101]⟩] 9)) = W3 := ⟨_, rfl⟩
  rw [hW3] at HS3 R3 G3 hz3 ⊢
  clear hW3
  refine (body_draw_w b w.heap.size 7 A n c p _ R3.out (by omega) (by omega) (by omega) (by omega) HS3.out).mono ?_; rintro e w4 ⟨v4, ps, p4, rfl, hl4, hp4, hDP, hQ4, h04⟩
  obtain ⟨B4, d4, hv4, _⟩ := ty_parts hDP.row rfl hDP.hd
  subst hv4
  obtain ⟨m4, hm4⟩ : ∃ m4, ps.length = m4 := ⟨_, rfl⟩
  have HDP := Lib.hid hDP
  rw [hm4] at HDP hl4 h04 ⊢
  have HM4 := Lib.hid hm4
  have hbW : b < W3.heap.size := by omega
  clear hDP hQ4 hm4 R3 HS3
  go_wp2_with fail
  refine (pick_any b A n c p4 12 _ HDP.out.rd (by omega) (by omega)).mono ?_; rintro e w5 ⟨kk, ⟨rfl, hkk⟩, hr5, hg5⟩
  have D5 := Lib.hid (HDP.out.step hbW hg5 hr5)
  clear hr5 hg5 HDP hkk
  by_cases k0 : kk = 0
  · subst k0
    go_wp2
    go_ret
    have hE : DP b A n c W3 (p4 + 1) (w5.alloc (.cells #[] 86)) (.slice (some ⟨w5.heap.size, 0, none⟩) 0 0) [] := ⟨own_empty3 w5 _ _ D5.out.gr.size, fun q hq => absurd hq List.not_mem_nil, D5.out.rd.below (below1 _ _), grownTrans D5.out.gr (grownBelow (below1 _ _) (some b))⟩
    obtain ⟨h1, h2⟩ := hE.told rfl G3.out
    exact ⟨_, 0, 0, [], ⟨rfl, by omega⟩, h1, h2⟩
  · have k0I : ¬ (kk : Int) = 0 := by omega
    by_cases k1 : kk = 1
    · subst k1
      go_wp2_with fail
      refine (any_atom_draw b A n c _ w5 D5.out.rd (by omega)).mono ?_; rintro e w6 ⟨nm, A', k, d', ts, p6, ⟨rfl, hnm, hk, hp6⟩, hlen, hs6, hown6, hrd6, hg6⟩
      have hz5 := D5.out.gr.size
      have HH := Lib.hid ((head_drawn hnm hlen hs6 hown6).keep (w' := w6) (lo' := W3.heap.size) (hi' := w6.heap.size) (fun _ _ _ => rfl) hz5 (Nat.le_refl _))
      have D6 := Lib.hid (D5.out.step hbW hg6 hrd6)
      have hz6 := D6.out.gr.size
      have HRW : Hid (w6.ownsRow W3.heap.size 86 3 (.slice B4 m4 d4) m4 (pcells ps)) := Lib.hid (by have := D6.out.row; rw [HM4.out] at this; exact this)
      clear hlen hs6 hown6 hrd6 hg6 hnm
      go_wp2_with (at_builtin; refine wpList_append_own _ rfl _ _ 36 rfl W3.heap.size 86 i0 _ 3 48 Tryd.underlying36 HI.out HZ.out HSZ.out HYY.out rfl (by decide) _ _ _ rfl (HRW.out.alloc _) ⟨w6.heap.size, 0, none⟩ 1 1 [.bool true, .string nm, .slice A' k d'] rfl rfl (three_new _ _ _ _ _) (by simp [Value.oneCell']) (by unfold maxLen; omega) (by omega) (by simp; omega) ?_; intro v' w9 hown' hgrow' _; obtain ⟨g', cap', rfl⟩ := ownsRow_succ hown'; have hown := Lib.hid hown'; have hgrow := Lib.hid hgrow'; clear hown' hgrow')
      have hM := DP.more (q := (true, nm, A', k, d', ts)) (v' := .slice (some ⟨g', 0, none⟩) (m4 + 1) cap') D6.out hbW HH.out (by rw [HM4.out]; exact hown.out) hgrow.out
      obtain ⟨h1, h2⟩ := hM.told (m := m4 + 1) (by rw [List.length_append, HM4.out]; rfl) G3.out
      go_wp2
      go_ret
      exact ⟨_, m4 + 1, cap', _, ⟨rfl, by omega⟩, h1, h2⟩
    · have k1I : ¬ (kk : Int) = 1 := by omega
      by_cases k2 : kk = 2
      · subst k2
        clear k0 k0I k1 k1I
        go_wp2_with fail
        go_loopw [3] (fun o wr => ∃ (B : Option Addr) (L d : Nat) (qs : List Pf) (p2 : Nat), o = .slice B L d ∧ qs.length = L ∧ 0 < L ∧ L ≤ 5 ∧ p2 ≤ p4 + 1 + L ∧ DP b A n c W3 p2 wr (.slice B L d) qs) (fun o _ => match o with | .slice _ L _ => 10 - L | _ => 0)
        case atStart => exact ⟨B4, m4, d4, ps, _, rfl, HM4.out, h04, by omega, by omega, D5.out⟩
        case round =>
          obtain ⟨B, L, d, qs, p2, rfl, hL, hL0, hL5, hp2, hD⟩ := hrel
          have HL := Lib.hid hL; have HD := Lib.hid hD
          clear hL hD D5 HM4
          go_wp2_with fail
          refine (pick_any b A n c p2 2 _ HD.out.rd (by omega) (by omega)).mono ?_; rintro e w6 ⟨kk, ⟨rfl, hkk⟩, hr6, hg6⟩
          have HD6 := Lib.hid (HD.out.step hbW hg6 hr6)
          have hz6 := HD6.out.gr.size
          have hkk' : kk < 2 := by omega
          clear hr6 hg6 hkk HD
          have hw4 : IntKind.i64.wrap (4 + (kk : Int)) = 4 + (kk : Int) := by rw [IntKind.wrap_i64]; omega
          by_cases hlt : L < 4 + kk
          · have hltI : (L : Int) < 4 + (kk : Int) := by omega
            have hL0I : (0 : Int) < (L : Int) := by omega
            obtain ⟨q, r, hqr⟩ : ∃ q r, qs = q :: r := by
              cases qs with
              | nil => exact absurd HL.out (by simp; omega)
              | cons q r => exact ⟨q, r, rfl⟩
            have HRW : Hid (w6.ownsRow W3.heap.size 86 3 (.slice B L d) L (pcells qs)) := Lib.hid (by have := HD6.out.row; rw [HL.out] at this; exact this)
            obtain ⟨g, rfl⟩ : ∃ g, B = some ⟨g, 0, none⟩ := by
              rcases HRW.out.2 with ⟨e, h0⟩ | ⟨g, cap, cur, e, _⟩
              · omega
              · injection e with e _ _; exact ⟨g, e⟩
            have src := srcRow HRW.out (by rw [pcells_len, HL.out])
            have a0 : ∀ j, (⟨g, 0, none⟩ : Addr).add j = ⟨g, j, none⟩ := fun j => by unfold Addr.add; split <;> simp_all
            have e0 : w6.cell? ⟨g, 0, none⟩ = some (.bool q.1) := by have := src.2.1 _ rfl 0 (.bool q.1) (by rw [hqr]; rfl); rwa [a0] at this
            have e1 : w6.cell? ⟨g, 1, none⟩ = some (.string q.2.1) := by have := src.2.1 _ rfl 1 (.string q.2.1) (by rw [hqr]; rfl); rwa [a0] at this
            have e2 : w6.cell? ⟨g, 2, none⟩ = some (.slice q.2.2.1 q.2.2.2.1 q.2.2.2.2.1) := by have := src.2.1 _ rfl 2 (.slice q.2.2.1 q.2.2.2.1 q.2.2.2.2.1) (by rw [hqr]; rfl); rwa [a0] at this
            have HH := Lib.hid (HD6.out.hd q (by rw [hqr]; simp))
            have aa := a0 0
            clear src a0 hqr
            go_wp2_with (at_builtin; refine wpList_append_own _ rfl _ _ 36 rfl W3.heap.size 86 i0 _ 3 48 Tryd.underlying36 HI.out HZ.out HSZ.out HYY.out rfl (by decide) _ _ _ rfl (HRW.out.alloc _) ⟨w6.heap.size, 0, none⟩ 1 1 [.bool q.1, .string q.2.1, .slice q.2.2.1 q.2.2.2.1 q.2.2.2.2.1] rfl rfl (three_new _ _ _ _ _) (by simp [Value.oneCell']) (by unfold maxLen; omega) (by omega) (by simp; omega) ?_; intro v' w9 hown' hgrow' _; obtain ⟨g', cap', rfl⟩ := ownsRow_succ hown'; have hown := Lib.hid hown'; have hgrow := Lib.hid hgrow'; clear hown' hgrow')
            have hM := DP.more (q := q) (v' := .slice (some ⟨g', 0, none⟩) (L + 1) cap') HD6.out hbW HH.out (by rw [HL.out]; exact hown.out) hgrow.out
            refine ⟨⟨_, L + 1, _, _, p2 + 1, rfl, by rw [List.length_append, HL.out]; rfl, by omega, by omega, by omega, hM⟩, ?_⟩
            show 10 - (L + 1) < 10 - L
            omega
          · have hltI : ¬ (L : Int) < 4 + (kk : Int) := by omega
            obtain ⟨h1, h2⟩ := HD6.out.told HL.out G3.out
            go_wp2
            go_ret
            exact ⟨B, L, d, _, ⟨rfl, hL5⟩, h1, h2⟩
      · have k2I : ¬ (kk : Int) = 2 := by omega
        obtain ⟨h1, h2⟩ := D5.out.told HM4.out G3.out
        go_wp2
        go_ret
        exact ⟨B4, m4, d4, _, ⟨rfl, by omega⟩, h1, h2⟩

/-- What is asked was drawn. -/
def DrawnAsk (w : World) (e : Ending) (w' : World) : Prop :=
  ∃ (B : Option Addr) (k d : Nat) (xs : List Pt), (e = .returned (.slice B k d) ∧ k ≤ 5) ∧ IsParts w' 0 w'.heap.size B k d xs ∧ Below w.heap.size w w'

set_option maxRecDepth 100000 in
set_option maxHeartbeats 2000000 in
theorem drawAskPut_any (A : Option Addr) (n c : Nat) (w : World) (h : IsBytes w w.heap.size A n c) :
    Calls Tryd.prog 37 #[.slice A n c] w (DrawnAsk w) := by
  go_enter Tryd.func37, Tryd.ntmps37
  go_wp2_with fail
  refine (open_any A n c _ h).mono ?_; rintro e w1 ⟨b, n', ⟨rfl, hb⟩, hr, hb1⟩
  have HB1 := Lib.hid hb1
  have R1 := Lib.hid hr
  clear hb1 hr
  go_wp2_with fail
  refine (anyBody_draw b A n' c 0 w1 R1.out (by omega)).mono ?_; rintro e w2 ⟨B, k, d, xs, ⟨rfl, hk⟩, hP, hg2⟩
  have HP := Lib.hid hP; have G2 := Lib.hid hg2
  clear hP hg2
  go_wp2
  go_ret
  exact ⟨B, k, d, xs, ⟨rfl, hk⟩, HP.out, HB1.out.grown G2.out HB1.out.size (fun k hk => by injection hk with hk; omega)⟩

theorem APart.size_wide {xs : List Pt} {s : ByteArray} {k : Nat} (h : APart xs k s) (hb : ∀ q ∈ xs, (textL q.2).length ≤ 200) (hl : xs.length ≤ 5) : s.size ≤ 1100 := by
  have h1 : s.size = s.data.toList.length := rfl
  rw [h1, h]
  have h3 : (bodyL (xs.take k)).length ≤ 209 * (xs.take k).length := bodyL_lens fun x hx => hb x (List.mem_of_mem_take hx)
  have h4 : (xs.take k).length ≤ 5 := by rw [List.length_take]; omega
  omega

set_option maxHeartbeats 2000000 in
theorem l5Text_wide (B : Option Addr) (m d : Nat) (xs : List Pt) (w : World) (h : IsParts w 0 w.heap.size B m d xs) (hB : ∀ q ∈ xs, (textL q.2).length ≤ 200) (hL : xs.length ≤ 5) :
    Calls Tryd.prog 79 #[.slice B m d] w (StrPost (bodyL xs) w) := by
  have hm := h.len
  unfold maxLen at hm
  have L := Lib.hid h.1
  have H := Lib.hid h; clear h
  have EB := Lib.hid hB; have EL := Lib.hid hL
  clear hB hL
  go_enter Tryd.func79, Tryd.ntmps79
  go_wp2
  go_loopw [3, 4] (fun x i wr => ∃ (k : Nat) (s : ByteArray), k ≤ m ∧ i = .int .i64 k ∧ x = .string s ∧ APart xs k s ∧ Below w.heap.size w wr) (fun _ i _ => m - (intOf i).toNat)
  case atStart => exact ⟨0, _, Nat.zero_le _, rfl, rfl, APart.start xs, Below.refl _ _⟩
  case round =>
    obtain ⟨k, s, hk, rfl, rfl, hd, HB⟩ := hrel
    have hsz := hd.size_wide EB.out EL.out
    have HD := Lib.hid hd; clear hd
    by_cases hlt : k < m
    · obtain ⟨p, q, hA, hlo, hhi, hg, hE⟩ := (H.out.below PartE.stays HB (Nat.le_refl _)).at_ hlt
      obtain ⟨C, n', c', d1, d2, d3, d4, d5⟩ := hE.out
      clear hE
      subst hA
      have hqp := EB.out q (List.mem_of_getElem? hg)
      have hql := partL_wide hqp
      have hql' : (partL (q.1, q.2.1, q.2.2)).length ≤ 204 := hql
      have hqp' : (textL (q.2.1, q.2.2)).length ≤ 200 := hqp
      have HG := Lib.hid hg; clear hg
      have HT := Lib.hid (d5.keep (lo' := 0) (hi' := wr.heap.size) (fun _ _ _ => rfl) (Nat.le_refl _) HB.size); clear d5
      rcases Nat.eq_zero_or_pos k with h0 | h0
      · have hk0 : ¬ (0 : Int) < (k : Int) := by omega
        have HN := Lib.hid (HD.out.one h0 HG.out (t := ⟨(partL q).toArray⟩) (by simp))
        clear h0
        go_wp2_with fail
        refine (l1Part_any _ _ _ _ _ q.2.2 _ HT.out (by omega)).mono ?_; rintro e w2 ⟨rfl, hb2⟩
        go_wp2
        go_roundw
        case rel => exact ⟨k + 1, _, by omega, by go_num, rfl, HN.out, belowThen HB hb2⟩
        case measure => simp [intOf]; omega
      · have hk0 : (0 : Int) < (k : Int) := by omega
        have HN := Lib.hid (HD.out.next h0 HG.out (t := ⟨(partL q).toArray⟩) (by simp))
        clear h0
        go_wp2_with fail
        refine (l1Part_any _ _ _ _ _ q.2.2 _ HT.out (by omega)).mono ?_; rintro e w2 ⟨rfl, hb2⟩
        go_wp2
        go_roundw
        case rel => exact ⟨k + 1, _, by omega, by go_num, rfl, HN.out, belowThen HB hb2⟩
        case measure => simp [intOf]; omega
    · have E := Lib.hid (HD.out.all L.out hlt)
      go_wp2
      go_ret
      exact ⟨strEq E.out, HB⟩


set_option maxRecDepth 100000 in
set_option maxHeartbeats 4000000 in
theorem drawAskGet_any (A : Option Addr) (n c : Nat) (w : World) (h : IsBytes w w.heap.size A n c) :
    Calls Tryd.prog 43 #[.slice A n c] w (DrawnText 1000 w) := by
  go_enter Tryd.func43, Tryd.ntmps43
  go_wp2_with fail
  refine (open_any A n c _ h).mono ?_; rintro e w1 ⟨b, n', ⟨rfl, hb⟩, hr, hb1⟩
  have HB1 := Lib.hid hb1
  have hbw : b < w1.heap.size := hr.1
  have HS3 := Lib.hid (laid nmB w1 #[.string ⟨#[101]⟩, .string ⟨#[112]⟩, .string ⟨#[122]⟩] 9 (by rfl))
  have R3 := Lib.hid (hr.below (below1 w1 (.cells #[.string ⟨#[101]⟩, .string ⟨#[112]⟩, .string ⟨#[122]⟩] 9)))
  have G3 := Lib.hid (grownBelow (below1 w1 (.cells #[.string ⟨#[101]⟩, .string ⟨#[112]⟩, .string ⟨#[122]⟩] 9)) (some b))
  have hz3 : w1.heap.size < (w1.alloc (.cells #[.string ⟨#[101]⟩, .string ⟨#[112]⟩, .string ⟨#[122]⟩] 9)).heap.size := by simp
  clear hb1 hr
  go_wp2_with fail
  obtain ⟨W3, hW3⟩ : ∃ W3, (w1.alloc (.cells #[.string ⟨#[101]⟩, .string ⟨#[112]⟩, .string ⟨#[122]⟩] 9)) = W3 := ⟨_, rfl⟩
  rw [hW3] at HS3 R3 G3 hz3 ⊢
  clear hW3
  refine (body_draw_w b w1.heap.size 3 A n' c 0 _ R3.out (by omega) (by omega) (by omega) (by omega) HS3.out).mono ?_; rintro e w4 ⟨v4, ps, p4, rfl, hl4, hp4, hDP, hQ4, h04⟩
  obtain ⟨B4, d4, hv4, hTP⟩ := ty_parts hDP.row rfl hDP.hd
  subst hv4
  have hz4 := hDP.gr.size
  have HP := Lib.hid (hTP.parts.keep (w' := w4) (lo' := 0) (hi' := w4.heap.size) PartE.stays (fun _ _ _ => rfl) (Nat.zero_le _) (Nat.le_refl _))
  have HPL := Lib.hid (show ∀ q ∈ ps.map pAt, (textL q.2).length ≤ 200 from fun q hq => by
    obtain ⟨r, hr, rfl⟩ := List.mem_map.1 hq
    exact head_wide (hDP.hd r hr) (hQ4 r hr).1.1.1 (Nat.le_trans (hQ4 r hr).1.2 (by omega)) (hQ4 r hr).2)
  have R4 := Lib.hid hDP.rd
  have G4 := Lib.hid (grownTrans G3.out hDP.gr)
  have hwl := bodyL_lens HPL.out
  have hlm : (ps.map pAt).length = ps.length := List.length_map _
  rw [hlm] at hwl
  clear hDP hQ4 hTP R3 HS3
  go_wp2_with fail
  refine (l5Text_wide B4 ps.length d4 (ps.map pAt) w4 HP.out HPL.out (by rw [hlm]; omega)).mono ?_; rintro e w5 ⟨rfl, hb5⟩
  have R5 := Lib.hid (R4.out.below hb5)
  have G5 := Lib.hid (grownTrans G4.out (grownBelow hb5 (some b)))
  clear hb5
  have hsz : (⟨(bodyL (ps.map pAt)).toArray⟩ : ByteArray).size = (bodyL (ps.map pAt)).length := by simp [ByteArray.size]
  go_wp2_with fail
  refine (cut_draw _ b A n' c _ w5 R5.out (by omega) (by rw [hsz]; omega)).mono ?_; rintro e w6 ⟨t, p6, ⟨rfl, ht, _⟩, hr6, hg6⟩
  have G6 := Lib.hid (grownTrans G5.out hg6)
  clear hr6 hg6
  go_wp2
  go_ret
  exact ⟨t, ⟨rfl, by omega⟩, HB1.out.grown G6.out HB1.out.size (fun k hk => by injection hk with hk; omega)⟩

end Go.Proofs.YtahkkelahocplaaDoor

namespace Go.Proofs.YtahkkelahocplaaDoor
open Go.RowKit

/-- What is read of the text that a body is told as. -/
theorem readAsk_told (xs : List Pt) : readAsk (askPutB xs) = if askB xs then some xs else none := by
  unfold askPutB
  cases h : askB xs
  · show readAsk [] = none
    cases hr : readAsk [] with
    | none => rfl
    | some ys =>
      obtain ⟨h1, h2⟩ := readAsk_sound hr
      obtain ⟨h3, h4, _⟩ := askB_parts h1
      have h5 := body_len h4
      rw [h2] at h5
      exact absurd (List.eq_nil_of_length_eq_zero (by simpa using h5)) h3
  · exact readAsk_text h

theorem askPutB_le (xs : List Pt) : (askPutB xs).length ≤ 2000 := by
  unfold askPutB
  cases h : askB xs
  · simp
  · obtain ⟨_, h1, h2⟩ := askB_parts h
    have := bodyL_short h1 h2
    rw [if_pos rfl]; omega

/-- The text of what was read is the text. -/
theorem askPut_get {l : List UInt8} {xs : List Pt} (h : readAsk l = some xs) : askPutB xs = l := by
  obtain ⟨h1, h2⟩ := readAsk_sound h
  unfold askPutB
  rw [if_pos h1, h2]

section
variable {w W : World} {A B : Option Addr} {n c n' c' : Nat} {xs : List Pt}

theorem askPS_tells (h : IsParts w 0 w.heap.size A n c xs) (hB : Below w.heap.size w W) :
    Calls Tryd.prog 39 #[.slice A n c] W fun e W' => e = .returned (.string ⟨(askPutB xs).toArray⟩) ∧ Below w.heap.size w W' :=
  (specAskPut_any A n c xs W (h.up PartE.stays hB)).mono fun _ _ ⟨he, hb⟩ => ⟨he, belowThen hB hb⟩

theorem askOI_tells (h : IsParts w 0 w.heap.size A n c xs) (hB : Below w.heap.size w W) :
    Calls Tryd.prog 40 #[.slice A n c] W fun e W' => e = .returned (.bool (askB xs)) ∧ Below w.heap.size w W' :=
  (implAskOk_any A n c xs W (h.up PartE.stays hB)).mono fun _ _ ⟨he, hb⟩ => ⟨he, belowThen hB hb⟩

theorem askOS_tells (h : IsParts w 0 w.heap.size A n c xs) (hB : Below w.heap.size w W) :
    Calls Tryd.prog 41 #[.slice A n c] W fun e W' => e = .returned (.bool (askB xs)) ∧ Below w.heap.size w W' :=
  (specAskOk_any A n c xs W (h.up PartE.stays hB)).mono fun _ _ ⟨he, hb⟩ => ⟨he, belowThen hB hb⟩

theorem fsP_tells {ys : List Pt} (h : IsParts w 0 w.heap.size A n c xs) (h' : IsParts w 0 w.heap.size B n' c' ys) (he : xs = ys) (hB : Below w.heap.size w W) :
    Calls Tryd.prog 42 #[.slice A n c, .slice B n' c'] W fun e W' => e = .returned (.bool true) ∧ Below w.heap.size w W' := by
  subst he
  exact (fsParts_same A B n c n' c' xs W (h.up PartE.stays hB) (h'.up PartE.stays hB)).mono fun _ _ ⟨h1, hb⟩ => ⟨h1, belowThen hB hb⟩
end

theorem OwnParts.isP {w : World} {lo : Nat} {A : Option Addr} {n c : Nat} {ps : List Pf} (h : OwnParts w lo w.heap.size A n c ps) : IsParts w 0 w.heap.size A n c (ps.map pAt) :=
  h.parts.keep PartE.stays (fun _ _ _ => rfl) (Nat.zero_le _) (Nat.le_refl _)

set_option maxRecDepth 100000 in
set_option maxHeartbeats 8000000 in
theorem askText_law (A : Option Addr) (n c : Nat) (A' : Option Addr) (n' c' : Nat) (w : World) (h : IsBytes w w.heap.size A n c) (h' : IsBytes w w.heap.size A' n' c') (hm : MaxIn w) :
    Calls Tryd.prog 8 #[.slice A n c, .slice A' n' c'] w (BoolPost true w) := by
  have hn : n ≤ maxLen := by have := h.1; have := h.2.1; omega
  have hn' : n' ≤ maxLen := by have := h'.1; have := h'.2.1; omega
  unfold maxLen at hn hn'
  have H := Lib.hid h; clear h
  have H' := Lib.hid h'; clear h'
  go_enter Tryd.func8, Tryd.ntmps8
  go_wp2_with fail
  all_goals try (go_ret; exact ⟨rfl, Below.refl _ _⟩)
  refine (drawAskPut_any A n c w H.out).mono ?_; rintro e w1 ⟨B, k, d, xs, ⟨rfl, hk⟩, hP, hb1⟩
  have HP1 := Lib.hid hP; have HB1 := Lib.hid hb1
  clear hP hb1
  go_wp2_with fail
  refine (implAskPut_any B k d xs _ HP1.out).mono ?_; rintro e w2 ⟨rfl, hb2⟩
  have HP2 := Lib.hid (HP1.out.up PartE.stays hb2); have HB2 := Lib.hid (belowThen HB1.out hb2)
  clear hb2 HP1 HB1
  have hm2 := hm.below HB2.out
  have hpl := askPutB_le xs
  have hrp := readAsk_told xs
  obtain ⟨L, hL⟩ : ∃ L, askPutB xs = L := ⟨_, rfl⟩
  have HL := Lib.hid hL
  rw [hL] at hpl hrp ⊢
  clear hL
  go_wp2_with fail
  refine (implAskGet_any ⟨L.toArray⟩ w2 (by rw [mk_size]; omega) hm2).mono ?_; rintro e w3 ⟨C, m, q, ps, rfl, hO, hps, hb3⟩
  rw [mk_data, hrp] at hps ⊢
  have HX := Lib.hid hO.isP; have HT := Lib.hid (HP2.out.up PartE.stays hb3); have HW := Lib.hid (belowThen HB2.out hb3)
  clear HP2 HB2 hO hb3 hrp
  cases hA : askB xs
  · skip
    rw [hA] at hps
    rw [if_neg (by decide)] at hps ⊢
    rw [show (none : Option (List Pt)).isSome = false from rfl]
    have okP := fun W (hW : Below w3.heap.size w3 W) => askPS_tells HT.out hW; have okI := fun W (hW : Below w3.heap.size w3 W) => askOI_tells HT.out hW; have okS := fun W (hW : Below w3.heap.size w3 W) => askOS_tells HT.out hW
    rw [HL.out] at okP; rw [hA] at okI okS
    clear HL hA
    have hB : Below w3.heap.size w3 w3 := Below.refl _ _
    go_wp2_with fail
    refine (okP _ hB).mono ?_; rintro e v0 ⟨rfl, hB⟩
    go_wp2_with fail
    refine (okI _ hB).mono ?_; rintro e v1 ⟨rfl, hB⟩
    go_wp2_with fail
    refine (okS _ hB).mono ?_; rintro e v2 ⟨rfl, hB⟩
    go_wp2_with fail
    refine (okS _ hB).mono ?_; rintro e v3 ⟨rfl, hB⟩
    have HW5 := Lib.hid (belowThen HW.out hB)
    clear hB HT HX okS okI okP
    go_wp2_with fail
    refine (drawAskGet_any A' n' c' _ (H'.out.up HW5.out)).mono ?_; rintro e w6 ⟨t, ⟨rfl, ht6⟩, hb6⟩
    have HW6 := Lib.hid (belowThen HW5.out hb6)
    clear hb6 HW5
    have hm6 := hm.below HW6.out
    go_wp2_with fail
    refine (implAskGet_any t w6 (by omega) hm6).mono ?_; rintro e w7 ⟨Y, y1, y2, ys, rfl, hO7, hr7, hb7⟩
    have HY7 := Lib.hid hO7.isP; have HW7 := Lib.hid (belowThen HW6.out hb7)
    clear hO7 hb7 HW6
    go_wp2_with fail
    refine (specAskGet_any t _ (by omega)).mono ?_; rintro e w9 ⟨Z, z1, z2, zs, rfl, hO9, hr9, hb9⟩
    have HZ := Lib.hid hO9.isP; have HY := Lib.hid (HY7.out.up PartE.stays hb9); have HW9 := Lib.hid (belowThen HW7.out hb9)
    clear hO9 hb9 HY7 HW7
    cases hg : readAsk t.data.toList with
    | none =>
      rw [hg] at hr7 hr9
      rw [show (none : Option (List Pt)).isSome = false from rfl]
      go_wp2_with fail
      refine (fsP_tells HY.out HZ.out (hr7.trans hr9.symm) (Below.refl _ _)).mono ?_; rintro e w10 ⟨rfl, hb10⟩
      have HW10 := belowThen HW9.out hb10
      clear hb10
      go_wp2
      go_ret; exact ⟨rfl, HW10⟩
    | some a =>
      rw [hg] at hr7 hr9
      have hpt := askPut_get hg
      have hya : ys.map pAt = a := hr7
      rw [show (some a : Option (List Pt)).isSome = true from rfl]
      go_wp2_with fail
      refine (fsP_tells HY.out HZ.out (hr7.trans hr9.symm) (Below.refl _ _)).mono ?_; rintro e w10 ⟨rfl, hb10⟩
      have HW10 := belowThen HW9.out hb10
      have HY10 := HY.out.up PartE.stays hb10
      clear hb10
      go_wp2_with fail
      refine (implAskPut_any Y y1 y2 (ys.map pAt) w10 HY10).mono ?_; rintro e w11 ⟨rfl, hb11⟩
      rw [hya, hpt]
      have hpe : (t.data.toList == t.toList) = true := by rw [toList_data]; exact beq_self_eq_true _
      have HW11 := belowThen HW10 hb11
      clear hb11
      go_wp2
      go_ret; exact ⟨rfl, HW11⟩
  · skip
    rw [hA] at hps
    rw [if_pos rfl] at hps ⊢
    rw [show (some xs : Option (List Pt)).isSome = true from rfl]
    have okP := fun W (hW : Below w3.heap.size w3 W) => askPS_tells HT.out hW; have okI := fun W (hW : Below w3.heap.size w3 W) => askOI_tells HT.out hW; have okS := fun W (hW : Below w3.heap.size w3 W) => askOS_tells HT.out hW
    rw [HL.out] at okP; rw [hA] at okI okS
    clear HL hA
    have hB : Below w3.heap.size w3 w3 := Below.refl _ _
    go_wp2_with fail
    refine (okP _ hB).mono ?_; rintro e v0 ⟨rfl, hB⟩
    go_wp2_with fail
    refine (okI _ hB).mono ?_; rintro e v1 ⟨rfl, hB⟩
    go_wp2_with fail
    refine (okS _ hB).mono ?_; rintro e v2 ⟨rfl, hB⟩
    go_wp2_with fail
    refine (okS _ hB).mono ?_; rintro e v3 ⟨rfl, hB⟩
    go_wp2_with fail
    refine (fsP_tells HX.out HT.out hps hB).mono ?_; rintro e v4 ⟨rfl, hB⟩
    have HW5 := Lib.hid (belowThen HW.out hB)
    clear hB HT HX okS okI okP
    go_wp2_with fail
    refine (drawAskGet_any A' n' c' _ (H'.out.up HW5.out)).mono ?_; rintro e w6 ⟨t, ⟨rfl, ht6⟩, hb6⟩
    have HW6 := Lib.hid (belowThen HW5.out hb6)
    clear hb6 HW5
    have hm6 := hm.below HW6.out
    go_wp2_with fail
    refine (implAskGet_any t w6 (by omega) hm6).mono ?_; rintro e w7 ⟨Y, y1, y2, ys, rfl, hO7, hr7, hb7⟩
    have HY7 := Lib.hid hO7.isP; have HW7 := Lib.hid (belowThen HW6.out hb7)
    clear hO7 hb7 HW6
    go_wp2_with fail
    refine (specAskGet_any t _ (by omega)).mono ?_; rintro e w9 ⟨Z, z1, z2, zs, rfl, hO9, hr9, hb9⟩
    have HZ := Lib.hid hO9.isP; have HY := Lib.hid (HY7.out.up PartE.stays hb9); have HW9 := Lib.hid (belowThen HW7.out hb9)
    clear hO9 hb9 HY7 HW7
    cases hg : readAsk t.data.toList with
    | none =>
      rw [hg] at hr7 hr9
      rw [show (none : Option (List Pt)).isSome = false from rfl]
      go_wp2_with fail
      refine (fsP_tells HY.out HZ.out (hr7.trans hr9.symm) (Below.refl _ _)).mono ?_; rintro e w10 ⟨rfl, hb10⟩
      have HW10 := belowThen HW9.out hb10
      clear hb10
      go_wp2
      go_ret; exact ⟨rfl, HW10⟩
    | some a =>
      rw [hg] at hr7 hr9
      have hpt := askPut_get hg
      have hya : ys.map pAt = a := hr7
      rw [show (some a : Option (List Pt)).isSome = true from rfl]
      go_wp2_with fail
      refine (fsP_tells HY.out HZ.out (hr7.trans hr9.symm) (Below.refl _ _)).mono ?_; rintro e w10 ⟨rfl, hb10⟩
      have HW10 := belowThen HW9.out hb10
      have HY10 := HY.out.up PartE.stays hb10
      clear hb10
      go_wp2_with fail
      refine (implAskPut_any Y y1 y2 (ys.map pAt) w10 HY10).mono ?_; rintro e w11 ⟨rfl, hb11⟩
      rw [hya, hpt]
      have hpe : (t.data.toList == t.toList) = true := by rw [toList_data]; exact beq_self_eq_true _
      have HW11 := belowThen HW10 hb11
      clear hb11
      go_wp2
      go_ret; exact ⟨rfl, HW11⟩

end Go.Proofs.YtahkkelahocplaaDoor
