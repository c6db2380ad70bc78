/-
  Texts of one claim, put together.
-/
import Derived.Test.YtogonjkklioaaaaGreatDoorCt26
import Derived.Test.YtogonjkklioaaaaGreatDoorCt16
import Derived.Test.YtogonjkklioaaaaGreatDoorCt0
import Derived.Deep.RegionWith
import Derived.Test.YtogonjkklioaaaaGreatDoorCt8
namespace Go.Proofs.YtogonjkklioaaaaGreatDoor
open Go.RowKit

set_option maxRecDepth 100000 in
set_option maxHeartbeats 8000000 in
theorem specChangeGet_any (s : ByteArray) (w : World) (hs : s.size ≤ 1048576) :
    Calls Tryz.prog 14 #[.string s] w (GetDPost s.data.toList w) := by
  obtain ⟨i0, hi, hz, hsz, hby⟩ := info_parts Tryz.infoAt
  have HI := Lib.hid hi; have HZ := Lib.hid hz; have HSZ := Lib.hid hsz; have HYY := Lib.hid hby
  clear hi hz hsz hby
  obtain ⟨ws, hws⟩ : ∃ x, cutsB 32 s = x := ⟨_, rfl⟩
  have hwl : ws.length ≤ s.size + 1 := by rw [← hws]; exact cutsB_len 32 s
  have hwz : ∀ x ∈ ws, x.size ≤ 1048576 := fun x hx => Nat.le_trans (cutsB_size (c := 32) (s := s) (by rw [hws]; exact hx)) hs
  have hwd : cuts 32 s.data.toList = ws.map (fun x => x.data.toList) := by rw [← hws]; exact (cutsB_data 32 s).symm
  have hfree : ∀ x ∈ ws.map (fun x => x.data.toList), (32 : UInt8) ∉ x := by rw [← hwd]; exact cuts_free 32 _ _ (Nat.le_refl _)
  have hw0 : 0 < ws.length := by
    have h1 := congrArg List.length hwd
    rw [cuts_eq] at h1
    simp at h1; omega
  have HWS := Lib.hid hws; have HWZ := Lib.hid hwz; have HWD := Lib.hid hwd; have HFR := Lib.hid hfree
  clear hws hwz hwd hfree
  have hb0 := below1 w (.cells #[.slice none 0 0, .slice none 0 0] 25)
  have X0 := Blk.new w 25 #[.slice none 0 0, .slice none 0 0]
  obtain ⟨w1, hw1⟩ : ∃ w1, w.alloc (.cells #[.slice none 0 0, .slice none 0 0] 25) = w1 := ⟨_, rfl⟩
  rw [hw1] at hb0 X0
  have hz1 : w1.heap.size = w.heap.size + 1 := by rw [← hw1]; simp
  have hb1 := below1 w1 (.cells #[.slice none 0 0, .slice none 0 0] 25)
  have X1 := Blk.new w1 25 #[.slice none 0 0, .slice none 0 0]
  obtain ⟨w2, hw2⟩ : ∃ w2, w1.alloc (.cells #[.slice none 0 0, .slice none 0 0] 25) = w2 := ⟨_, rfl⟩
  rw [hw2] at hb1 X1
  have hz2 : w2.heap.size = w.heap.size + 2 := by rw [← hw2]; simp [hz1]
  have HW2 := Lib.hid hw2; clear hw2
  go_enter Tryz.func14, Tryz.ntmps14
  go_wp2_with fail
  rw [HW2.out]
  refine (l1Cut_any s 32 w2 hs).mono ?_; rintro e w3 ⟨pp, d3, rfl, hT3, hb3⟩
  rw [HWS.out] at hT3 ⊢
  have hz3 := hb3.size
  have HC3 : Hid (SG w1 (w.heap.size + 1) w3.heap.size w3.heap.size (.slice none 0 0) (.slice none 0 0) [] [] w3) := Lib.hid ⟨by have := X1.below hb3; rw [hz1] at this; exact this, ⟨rfl, .inl ⟨rfl, rfl⟩⟩, ⟨rfl, .inl ⟨rfl, rfl⟩⟩, fun g hg => by simp [Value.ownBlock] at hg, OwnIn.nil, OwnIn.nil, by omega, by omega, by omega, Nat.le_refl _, belowThen hb1 hb3⟩
  have HT3 := Lib.hid hT3
  rw [hz2] at HT3
  have X0 := Lib.hid X0; have HB0 := Lib.hid hb0
  clear hT3 hb3 hb1 hb0 X1 hw1 HW2
  have NO : ∀ (W : World) (hi : Nat) (vc vg : Value) (rc rg : List Rf), SG w1 (w.heap.size + 1) w3.heap.size hi vc vg rc rg W → (∀ us vs, changeB us vs = true → s.data.toList ≠ chL us vs) → GetDPost s.data.toList w (.returned (.tuple #[.agg #[.slice none 0 0, .slice none 0 0], .bool false])) ((W.setCell ⟨w.heap.size, 0, none⟩ (.slice none 0 0)).setCell ⟨w.heap.size, 1, none⟩ (.slice none 0 0)) := by
    intro W hi vc vg rc rg hC hno
    have hb : Below w.heap.size w W := belowThen HB0.out hC.gr
    have hb2 := (hb.setCell (p := ⟨w.heap.size, 0, none⟩) (Nat.le_refl _) (.slice none 0 0)).setCell (p := ⟨w.heap.size, 1, none⟩) (Nat.le_refl _) (.slice none 0 0)
    exact ⟨none, 0, 0, [], none, 0, 0, [], false, rfl, (noRefs (lo := 0) (hi := _)).atoms, (noRefs (lo := 0) (hi := _)).atoms, hb2, (fun h => by cases h), fun _ => ⟨rfl, rfl, hno⟩⟩
  have HNO := Lib.hid NO; clear NO
  go_wp2_with fail
  go_loopw [6] (fun i wr => ∃ (k hi : Nat) (vc vg : Value) (rc rg : List Rf) (T : List Sg), k + 1 ≤ ws.length ∧ i = .int .i64 (k : Int) ∧ SG w1 (w.heap.size + 1) w3.heap.size hi vc vg rc rg wr ∧ SAt (ws.map (fun x => x.data.toList)) k T (rc.map rAt) (rg.map rAt) ∧ rc.length + rg.length ≤ k ∧ ∀ b, w.heap.size + 2 ≤ b → b < w3.heap.size → wr.heap[b]? = w3.heap[b]?) (fun i _ => ws.length - (intOf i).toNat)
  case atStart => exact ⟨0, _, _, _, [], [], [], by omega, rfl, HC3.out, SAt.start _, Nat.le_refl _, fun _ _ _ => rfl⟩
  case round =>
    obtain ⟨k, hi, vc, vg, rc, rg, T, hk, rfl, hC, hA, hln, hkeep⟩ := hrel
    clear HC3
    have HC := Lib.hid hC.raise; have HA := Lib.hid hA; have HK := Lib.hid hkeep
    have hT := HT3.out.keep TextE.stays (fun q h1 h2 => World.cell?_of_block (hkeep q.block h1 h2)) (Nat.le_refl _) (Nat.le_refl _)
    clear hC hA hkeep
    have hwk : IntKind.i64.wrap ((k : Int) + 1) = ((k + 1 : Nat) : Int) := by rw [IntKind.wrap_i64]; omega
    by_cases hlt : k + 1 < ws.length
    · have hltI : ((k + 1 : Nat) : Int) < (ws.length : Int) := by omega
      have hkI : (k : Int) < (ws.length : Int) := by omega
      obtain ⟨p, x, hA1, hlo, hhi, hg, hE⟩ := hT.at_ (show k < ws.length by omega)
      injection hA1 with hA1
      subst hA1
      have cE : wr.cell? (pp.add (k * 1)) = some (.string x) := hE
      have cE2 : wr.cell? (pp.add k) = some (.string x) := by rw [Nat.mul_one] at cE; exact cE
      have hxz : x.size ≤ 1048576 := HWZ.out x (List.mem_of_getElem? hg)
      have hgd : (ws.map (fun x => x.data.toList))[k]? = some x.data.toList := by rw [List.getElem?_map, hg]; rfl
      have hx32 : (32 : UInt8) ∉ x.data.toList := HFR.out _ (List.mem_of_getElem? hgd)
      have HGD := Lib.hid hgd; have HX32 := Lib.hid hx32
      clear hT hE hg hgd hx32
      have X6 := X0.out.below HC.out.gr
      have a0 : wr.cell? ⟨w.heap.size, 0, none⟩ = some (.slice none 0 0) := X6.cell 0
      have a1 : wr.cell? ⟨w.heap.size, 1, none⟩ = some (.slice none 0 0) := X6.cell 1
      have f0 := X6.frozen 0; have f1 := X6.frozen 1
      by_cases hx0 : x.size = 0
      · have hnone := HA.out.none HWD.out (by rw [List.length_map]; exact hlt) HGD.out HX32.out (fun y p e => by
          have h1 := congrArg List.length e
          have h2 : x.data.toList.length = x.size := by simp
          rw [h2] at h1; simp at h1; omega)
        have HNN := Lib.hid hnone
        clear hnone X6
        have hx0I : (x.size : Int) = 0 := by omega
        go_wp2
        exact bodyPost_ret (v := .tuple #[.agg #[.slice none 0 0, .slice none 0 0], .bool false]) (by simp [results, Tryz.results14, go_sem, a0, a1]) rfl (HNO.out wr _ _ _ _ _ HC.out HNN.out)
      · obtain ⟨y, q, hyq⟩ : ∃ y q, x.data.toList = y :: q := by
          cases h : x.data.toList with
          | nil =>
            have h2 : x.data.toList.length = x.size := by simp
            rw [h] at h2; simp at h2; omega
          | cons y q => exact ⟨y, q, rfl⟩
        have hxl : x.size = q.length + 1 := by
          have h2 : x.data.toList.length = x.size := by simp
          rw [hyq] at h2; simp at h2; omega
        have hx0I : ¬ (x.size : Int) = 0 := by omega
        have hx1I : (1 : Int) ≤ (x.size : Int) := by omega
        have hx2I : (0 : Int) < (x.size : Int) := by omega
        have HYQ := Lib.hid hyq
        clear hyq
        obtain ⟨T0, hT0⟩ : ∃ T0 : ByteArray, x.extract 1 (q.length + 1) = T0 := ⟨_, rfl⟩
        have hTd : T0.data.toList = q := by rw [← hT0, ByteArray.data_extract, Array.toList_extract, HYQ.out]; simp
        have hTs : T0.size ≤ 1048576 := by
          have h1 : T0.size = T0.data.toList.length := by simp
          rw [h1, hTd]; omega
        obtain ⟨hj0, hxe'⟩ := byte_there (s := x) (i := 0) (pre := []) (post := q) (b := y) (by simpa using HYQ.out) (Nat.zero_le _)
        have hpos : 0 < x.size := by omega
        have hxe : x[0]'hpos = y := hxe'
        clear hxe' hj0 X6
        go_wp2_with fail
        clear hT0
        refine (specAtomGet_any T0 wr hTs).mono ?_; rintro e w5 ⟨r, rfl, hH, hr, hb5⟩
        rw [hTd] at hr ⊢
        unfold rfVal
        have hbx := below1 w5 (.cells #[.string r.1, .slice r.2.1 r.2.2.1 r.2.2.2.1] 51)
        have hb6 := belowThen hb5 hbx
        have H6 : HeadApart (w5.alloc (.cells #[.string r.1, .slice r.2.1 r.2.2.1 r.2.2.2.1] 51)) wr.heap.size (w5.alloc (.cells #[.string r.1, .slice r.2.1 r.2.2.1 r.2.2.2.1] 51)).heap.size r := hH.keep (fun b _ h2 => hbx.block b h2) (Nat.le_refl _) hbx.size
        have B6 := Blk.new w5 51 #[.string r.1, .slice r.2.1 r.2.2.1 r.2.2.2.1]
        obtain ⟨W6, hW6⟩ : ∃ W6, w5.alloc (.cells #[.string r.1, .slice r.2.1 r.2.2.1 r.2.2.2.1] 51) = W6 := ⟨_, rfl⟩
        rw [hW6] at hb6 H6 B6
        have hz6 := hb6.size
        have hz61 := HC.out.h1
        have b0 : W6.cell? ⟨w5.heap.size, 0, none⟩ = some (.string r.1) := B6.cell 0
        have b1 : W6.cell? ⟨w5.heap.size, 1, none⟩ = some (.slice r.2.1 r.2.2.1 r.2.2.2.1) := B6.cell 1
        have cE6 : W6.cell? (pp.add (k * 1)) = some (.string x) := (hb6.cell (p := pp.add (k * 1)) (by rw [block_add]; omega)).trans cE
        have cE7 : W6.cell? (pp.add k) = some (.string x) := by rw [Nat.mul_one] at cE6; exact cE6
        have hC6 := HC.out.below hb6
        have X6 := X0.out.below hC6.gr
        have a0 : W6.cell? ⟨w.heap.size, 0, none⟩ = some (.slice none 0 0) := X6.cell 0
        have a1 : W6.cell? ⟨w.heap.size, 1, none⟩ = some (.slice none 0 0) := X6.cell 1
        have f0 := X6.frozen 0; have f1 := X6.frozen 1
        obtain ⟨A, c, B, d, ea, eb, _, _⟩ := hC6.tells
        have c0 : W6.cell? ⟨w.heap.size + 1, 0, none⟩ = some vc := hC6.C.cell 0
        have c1 : W6.cell? ⟨w.heap.size + 1, 1, none⟩ = some vg := hC6.C.cell 1
        have HCB := Lib.hid (hC6.C.alloc (.cells #[.string r.1, .slice r.2.1 r.2.2.1 r.2.2.2.1] 51))
        have HC6 := Lib.hid hC6; have H := Lib.hid H6; have HB6 := Lib.hid hb6; have HW := Lib.hid hW6
        clear hC6 H6 hb6 hW6 B6 X6 hbx hb5 hH HC
        cases hgb : getB q with
        | none =>
          have hnone := HA.out.none HWD.out (by rw [List.length_map]; exact hlt) HGD.out HX32.out (fun y' p e => by
            rw [HYQ.out] at e
            injection e with _ e
            rw [← e]; exact hgb)
          have HNN := Lib.hid hnone
          clear hnone hgb hr
          rw [show (none : Option At).isSome = false from rfl]
          have hwx := HW.out
          go_wp2
          exact bodyPost_ret (v := .tuple #[.agg #[.slice none 0 0, .slice none 0 0], .bool false]) (by simp [results, Tryz.results14, go_sem, a0, a1]) rfl (HNO.out W6 _ _ _ _ _ HC6.out HNN.out)
        | some a =>
          have hra : rAt r = a := by rw [hr, hgb]; rfl
          rw [show (some a : Option At).isSome = true from rfl]
          by_cases hy : y = 45
          · subst hy
            have hI : ((x[0]'hpos).toNat : Int) = 45 := by rw [hxe]; rfl
            have HS := Lib.hid (HA.out.goes (by rw [HGD.out, HYQ.out]) (by rw [hgb, ← hra]))
            clear hgb hr hra
            have hwx := HW.out
            subst eb
            have HRW := Lib.hid HC6.out.G
            go_wp2_with (at_builtin; refine wpList_append_lies _ rfl _ _ 23 rfl w3.heap.size 51 i0 _ 2 40 Tryz.underlying23 HI.out HZ.out HSZ.out HYY.out rfl (by decide) _ _ _ rfl (HRW.out.alloc _) ⟨W6.heap.size, 0, none⟩ 1 1 [.string r.1, .slice r.2.1 r.2.2.1 r.2.2.2.1] rfl rfl (two_new _ _ _ _) (by simp [Value.oneCell']) (by omega) (by unfold maxLen; omega) (by omega) (by simp; omega) (W6.heap.size + 1) (by simp) ?_; intro g' cap' w9 hown' hgrow' hat' _; have X9 := Blk.kept HCB.out hgrow' (CG.box_far (HRW.out.alloc _) HCB.out); have q2 := X9.cell 1; have q2' := X9.frozen 1; have hown := Lib.hid hown'; have hgrow := Lib.hid hgrow'; have hat := Lib.hid hat'; clear hown' hgrow' hat' X9)
            have hM := HC6.out.goes H.out hown.out hgrow.out hat.out
            have hfar : ∀ b, (Value.slice B rg.length d).ownBlock = some b → w3.heap.size ≤ b := fun b hb => (HC6.out.G.lt b hb).1
            go_roundw
            case rel => exact ⟨k + 1, _, _, _, _, _, _, by omega, by go_num, hM, by rw [List.map_append]; exact HS.out, by simp only [List.length_append, List.length_cons, List.length_nil]; omega, fun b h1 h2 => (Below.heap_setCell _ _ _ b (by show b ≠ w.heap.size + 1; omega)).trans ((hgrow.out.block b (by have := (below1 W6 (.cells #[.string r.1, .slice r.2.1 r.2.2.1 r.2.2.2.1] 51)).size; omega) (fun e => by have := hfar b e.symm; omega)).trans (((below1 W6 _).block b (by omega)).trans ((HB6.out.block b (by omega)).trans (HK.out b h1 h2))))⟩
            case measure => simp [intOf]; omega
          · have hI : ¬ ((x[0]'hpos).toNat : Int) = 45 := by
              rw [hxe]
              exact fun e => hy (UInt8.toNat_inj.1 (show y.toNat = (45 : UInt8).toNat by show y.toNat = 45; omega))
            have hI2 : ¬ (y.toNat : Int) = 45 := by rw [← hxe]; exact hI
            have HS := Lib.hid (HA.out.comes hy (by rw [HGD.out, HYQ.out]) (by rw [hgb, ← hra]))
            clear hgb hr hra
            have hwx := HW.out
            subst ea
            have HRW := Lib.hid HC6.out.K
            go_wp2_with (at_builtin; refine wpList_append_lies _ rfl _ _ 23 rfl w3.heap.size 51 i0 _ 2 40 Tryz.underlying23 HI.out HZ.out HSZ.out HYY.out rfl (by decide) _ _ _ rfl (HRW.out.alloc _) ⟨W6.heap.size, 0, none⟩ 1 1 [.string r.1, .slice r.2.1 r.2.2.1 r.2.2.2.1] rfl rfl (two_new _ _ _ _) (by simp [Value.oneCell']) (by omega) (by unfold maxLen; omega) (by omega) (by simp; omega) (W6.heap.size + 1) (by simp) ?_; intro g' cap' w9 hown' hgrow' hat' _; have X9 := Blk.kept HCB.out hgrow' (CG.box_far (HRW.out.alloc _) HCB.out); have q2 := X9.cell 0; have q2' := X9.frozen 0; have hown := Lib.hid hown'; have hgrow := Lib.hid hgrow'; have hat := Lib.hid hat'; clear hown' hgrow' hat' X9)
            have hM := HC6.out.comes H.out hown.out hgrow.out hat.out
            have hfar : ∀ b, (Value.slice A rc.length c).ownBlock = some b → w3.heap.size ≤ b := fun b hb => (HC6.out.K.lt b hb).1
            go_roundw
            case rel => exact ⟨k + 1, _, _, _, _, _, _, by omega, by go_num, hM, by rw [List.map_append]; exact HS.out, by simp only [List.length_append, List.length_cons, List.length_nil]; omega, fun b h1 h2 => (Below.heap_setCell _ _ _ b (by show b ≠ w.heap.size + 1; omega)).trans ((hgrow.out.block b (by have := (below1 W6 (.cells #[.string r.1, .slice r.2.1 r.2.2.1 r.2.2.2.1] 51)).size; omega) (fun e => by have := hfar b e.symm; omega)).trans (((below1 W6 _).block b (by omega)).trans ((HB6.out.block b (by omega)).trans (HK.out b h1 h2))))⟩
            case measure => simp [intOf]; omega
    · have hltI : ¬ ((k + 1 : Nat) : Int) < (ws.length : Int) := by omega
      obtain ⟨A, c, B, d, ea, eb, ia, ig⟩ := HC.out.tells
      subst ea; subst eb
      have c0 : wr.cell? ⟨w.heap.size + 1, 0, none⟩ = some (.slice A rc.length c) := HC.out.C.cell 0
      have c1 : wr.cell? ⟨w.heap.size + 1, 1, none⟩ = some (.slice B rg.length d) := HC.out.C.cell 1
      have IA := Lib.hid (ia.keep (w' := wr) (lo' := 0) (hi' := wr.heap.size) AtomE.stays (fun _ _ _ => rfl) (Nat.zero_le _) (Nat.le_refl _)); have IG := Lib.hid (ig.keep (w' := wr) (lo' := 0) (hi' := wr.heap.size) AtomE.stays (fun _ _ _ => rfl) (Nat.zero_le _) (Nat.le_refl _))
      have JA := Lib.hid ia; have JG := Lib.hid ig
      obtain ⟨hall, hbad⟩ := HA.out.all HWD.out (by rw [List.length_map]; omega) HFR.out
      clear ia ig hT
      go_wp2_with fail
      refine (specChangePut_any A rc.length c B rg.length d (rc.map rAt) (rg.map rAt) wr IA.out IG.out).mono ?_; rintro e w7 ⟨rfl, hb7⟩
      have HC7 := Lib.hid (HC.out.below hb7)
      have X7 := X0.out.below HC7.out.gr
      have a0 : w7.cell? ⟨w.heap.size, 0, none⟩ = some (.slice none 0 0) := X7.cell 0
      have a1 : w7.cell? ⟨w.heap.size, 1, none⟩ = some (.slice none 0 0) := X7.cell 1
      have f0 := X7.frozen 0; have f1 := X7.frozen 1
      have d0 : w7.cell? ⟨w.heap.size + 1, 0, none⟩ = some (.slice A rc.length c) := HC7.out.C.cell 0
      have d1 : w7.cell? ⟨w.heap.size + 1, 1, none⟩ = some (.slice B rg.length d) := HC7.out.C.cell 1
      have IA7 := Lib.hid (JA.out.keep (w' := w7) (lo' := w3.heap.size) (hi' := w7.heap.size) AtomE.stays (fun q _ h2 => hb7.cell (p := q) h2) (Nat.le_refl _) hb7.size); have IG7 := Lib.hid (JG.out.keep (w' := w7) (lo' := w3.heap.size) (hi' := w7.heap.size) AtomE.stays (fun q _ h2 => hb7.cell (p := q) h2) (Nat.le_refl _) hb7.size)
      clear hb7 X7 c0 c1 HC IA IG
      by_cases hput : chB (rc.map rAt) (rg.map rAt) = s.data.toList
      · obtain ⟨h1, h2⟩ := hall hput
        have hpb : (chB (rc.map rAt) (rg.map rAt) == s.toList) = true := by rw [toList_data, hput]; exact beq_self_eq_true _
        clear hput hall hbad
        have HB7 := Lib.hid (belowThen HB0.out HC7.out.gr)
        go_wp2
        refine bodyPost_ret (v := .tuple #[.agg #[.slice A rc.length c, .slice B rg.length d], .bool true]) (by simp [results, Tryz.results14, go_sem, a0, a1]) rfl ⟨A, c, _, rc.map rAt, B, d, _, rg.map rAt, true, rfl, ?_, ?_, (HB7.out.setCell (Nat.le_refl _) _).setCell (Nat.le_refl _) _, fun _ => ⟨h1, h2⟩, (fun h => by cases h)⟩
        · exact IA7.out.keep AtomE.stays (fun q h1 _ => World.cell?_of_block ((Below.heap_setCell _ _ _ _ (by show q.block ≠ w.heap.size; omega)).trans (Below.heap_setCell _ _ _ _ (by show q.block ≠ w.heap.size; omega)))) (Nat.zero_le _) (by simp only [size_setCell]; exact Nat.le_refl _)
        · exact IG7.out.keep AtomE.stays (fun q h1 _ => World.cell?_of_block ((Below.heap_setCell _ _ _ _ (by show q.block ≠ w.heap.size; omega)).trans (Below.heap_setCell _ _ _ _ (by show q.block ≠ w.heap.size; omega)))) (Nat.zero_le _) (by simp only [size_setCell]; exact Nat.le_refl _)
      · have HNN := Lib.hid (hbad hput)
        have hpb : (chB (rc.map rAt) (rg.map rAt) == s.toList) = false := by rw [toList_data, beq_eq_false_iff_ne]; exact hput
        clear hput hall hbad
        go_wp2
        exact bodyPost_ret (v := .tuple #[.agg #[.slice none 0 0, .slice none 0 0], .bool false]) (by simp [results, Tryz.results14, go_sem, a0, a1]) rfl (HNO.out w7 _ _ _ _ _ HC7.out HNN.out)

end Go.Proofs.YtogonjkklioaaaaGreatDoor

namespace Go.Proofs.YtogonjkklioaaaaGreatDoor
open Go.RowKit

/-- Marked atoms, from k on; the number behind them. -/
def markR (k : Nat) (r : Rf) : Rf := (markB k, r.2.1, r.2.2.1, r.2.2.2.1, markTs (k + 1) (rN r))
def markN (k : Nat) : List Rf → Nat
  | [] => k
  | r :: rs => markN (k + 1 + 2 * rN r) rs
def markRs (k : Nat) : List Rf → List Rf
  | [] => []
  | r :: rs => markR k r :: markRs (k + 1 + 2 * rN r) rs

theorem markN_snoc : ∀ (k : Nat) (l : List Rf) (r : Rf), markN k (l ++ [r]) = markN k l + 1 + 2 * rN r
  | _, [], _ => rfl
  | k, q :: l, r => markN_snoc (k + 1 + 2 * rN q) l r

theorem markN_app : ∀ (k : Nat) (l l' : List Rf), markN k (l ++ l') = markN (markN k l) l'
  | _, [], _ => rfl
  | k, q :: l, l' => markN_app (k + 1 + 2 * rN q) l l'

theorem markN_ge : ∀ (k : Nat) (l : List Rf), k ≤ markN k l
  | _, [] => Nat.le_refl _
  | k, q :: l => Nat.le_trans (by omega) (markN_ge (k + 1 + 2 * rN q) l)

theorem markN_le (M : Nat) : ∀ (k : Nat) (l : List Rf), (∀ r ∈ l, rN r ≤ M) → markN k l ≤ k + l.length * (1 + 2 * M)
  | _, [], _ => by simp [markN]
  | k, q :: l, h => by
    have h1 := markN_le M (k + 1 + 2 * rN q) l (fun r hr => h r (by simp [hr]))
    have h2 := h q (by simp)
    rw [List.length_cons, Nat.add_mul]
    show markN (k + 1 + 2 * rN q) l ≤ _
    omega

theorem markRs_snoc : ∀ (k : Nat) (l : List Rf) (r : Rf), markRs k (l ++ [r]) = markRs k l ++ [markR (markN k l) r]
  | _, [], _ => rfl
  | k, q :: l, r => by
    show markR k q :: markRs (k + 1 + 2 * rN q) (l ++ [r]) = _
    rw [markRs_snoc (k + 1 + 2 * rN q) l r]; rfl

theorem markRs_len : ∀ (k : Nat) (l : List Rf), (markRs k l).length = l.length
  | _, [] => rfl
  | k, q :: l => by
    show (markRs (k + 1 + 2 * rN q) l).length + 1 = _
    rw [markRs_len, List.length_cons]

theorem markRs_at : ∀ (k : Nat) (l1 : List Rf) (r : Rf) (l2 : List Rf), (markRs k (l1 ++ r :: l2))[l1.length]? = some (markR (markN k l1) r)
  | _, [], _, _ => rfl
  | k, q :: l, r, l2 => by
    show (markR k q :: markRs (k + 1 + 2 * rN q) (l ++ r :: l2))[l.length + 1]? = _
    rw [List.getElem?_cons_succ, markRs_at]; rfl

/-- What an owned list has at a place. -/
theorem OwnRefs.place {w : World} {lo hi n c : Nat} {A : Option Addr} {l1 l2 : List Rf} {r : Rf} (h : OwnRefs w lo hi A n c (l1 ++ r :: l2)) :
    ∃ g, A = some ⟨g, 0, none⟩ ∧ lo ≤ g ∧ g < hi ∧ g < w.heap.size ∧ l1.length < n ∧ (∃ x, w.cell? ⟨g, l1.length * 2, none⟩ = some x) ∧ w.cell? ⟨g, l1.length * 2 + 1, none⟩ = some (.slice r.2.1 r.2.2.1 r.2.2.2.1) ∧ w.frozen? ⟨g, l1.length * 2, none⟩ = false := by
  obtain ⟨a, b, d, e, f⟩ := h
  have hl : l1.length < n := by rw [← a]; simp
  obtain ⟨g, k, f', e1, e2, e3, e4, e5, e6⟩ := e (by omega)
  have ha : (l1 ++ r :: l2)[l1.length]? = some r := by simp
  obtain ⟨c1, c2⟩ := rcells_at ha
  refine ⟨g, e1, e2, e3, e4.lt, hl, ⟨_, e4.cell (by omega)⟩, ?_, e4.frozen _⟩
  rw [e4.cell (by omega), e6 _ _ c2]

def MarkPost (lo hi : Nat) (A : Option Addr) (n c k : Nat) (rs : List Rf) (w : World) (e : Ending) (w' : World) : Prop :=
  e = .returned (.int .i64 ((markN k rs : Nat) : Int)) ∧ OwnRefs w' lo hi A n c (markRs k rs) ∧ Within lo hi w w'

theorem markTermS_at (lo hi : Nat) (A : Option Addr) (n c : Nat) (l1 l2 : List Rf) (r : Rf) (k : Nat) (w : World) (z : Int) (hz : z = ((k + 1 : Nat) : Int)) (h : OwnRefs w lo hi A n c (l1 ++ (markB k, r.2) :: l2)) (hk : k + 1 + 2 * rN r ≤ 2 ^ 62) :
    Calls Tryz.prog 78 #[.slice r.2.1 r.2.2.1 r.2.2.2.1, .int .i64 z] w fun e w' => e = .returned (.int .i64 ((k + 1 + 2 * rN r : Nat) : Int)) ∧ OwnRefs w' lo hi A n c (l1 ++ markR k r :: l2) ∧ Within lo hi w w' := by
  subst hz
  obtain ⟨y1, y2, y3⟩ := h.2.2.2.2.1 (markB k, r.2) (by simp)
  by_cases h0 : 0 < rN r
  · obtain ⟨g, m, f, e1, e2, e3, e4, e5⟩ := y3 h0
    have e1' : r.2.1 = some ⟨g, 0, none⟩ := e1
    rw [e1']
    refine (markTermS_any g m r.2.2.1 r.2.2.2.1 (k + 1) f w e4 e5 hk).mono ?_
    rintro e w' ⟨rfl, ⟨f', r1, r2⟩, hg⟩
    have hT : IsTerms w' lo hi (some ⟨g, 0, none⟩) r.2.2.1 r.2.2.2.1 (markTs (k + 1) (rN r)) := marked_terms r1 e5 r2 hk y2.2.1 y2.2.2.1 e2 e3
    refine ⟨rfl, ?_, Within.row hg e2 e3⟩
    have := OwnRefs.terms (r := (markB k, r.2)) h (g := g) e1 h0 (fun b hb hne => hg.block b hb (fun e => hne (by injection e))) (markTs (k + 1) (rN r)) (by show IsTerms w' lo hi r.2.1 _ _ _; rw [e1']; exact hT) ⟨g, m, f', e1, e2, e3, r1, e5⟩
    exact this
  · have hn : r.2.2.1 = 0 := by unfold rN at h0; omega
    have hn' : rN r = 0 := hn
    have ht : r.2.2.2.2 = [] := List.eq_nil_of_length_eq_zero (by have := y2.1; simp only at this; omega)
    rw [hn]
    refine (markTermS_none r.2.1 r.2.2.2.1 (k + 1) w).mono ?_
    rintro e w' ⟨rfl, rfl⟩
    refine ⟨by rw [hn'], ?_, Within.refl⟩
    have e : markR k r = (markB k, r.2) := by
      unfold markR
      rw [hn']
      obtain ⟨a, b, c, d, t⟩ := r
      simp only at ht ⊢
      subst ht
      rfl
    rw [e]; exact h

set_option maxRecDepth 100000 in
set_option maxHeartbeats 1000000 in
theorem markAtomS_any (lo hi : Nat) (A : Option Addr) (n c k : Nat) (rs : List Rf) (w : World) (h : OwnRefs w lo hi A n c rs) (hh : hi ≤ w.heap.size) (hk : markN k rs ≤ 2 ^ 62) :
    Calls Tryz.prog 44 #[.slice A n c, .int .i64 (k : Int)] w (MarkPost lo hi A n c k rs w) := by
  have hn := h.2.2.1
  have hnc := h.2.1
  have HN := Lib.hid h.1
  unfold maxLen at hn
  have H := Lib.hid h; clear h
  go_enter Tryz.func44, Tryz.ntmps44
  go_wp2
  go_loopw [1, 5] (fun x y wr => ∃ l1 l2 : List Rf, rs = l1 ++ l2 ∧ x = .int .i64 ((markN k l1 : Nat) : Int) ∧ y = .int .i64 ((l1.length : Nat) : Int) ∧ OwnRefs wr lo hi A n c (markRs k l1 ++ l2) ∧ Within lo hi w wr) (fun _ y _ => n - (intOf y).toNat)
  case atStart => exact ⟨[], rs, rfl, rfl, rfl, H.out, Within.refl⟩
  case round =>
    obtain ⟨l1, l2, hs, rfl, rfl, ho, hw⟩ := hrel
    have HS := Lib.hid hs; clear hs
    have HO := Lib.hid ho; clear ho
    have HL := Lib.hid (markRs_len k l1)
    obtain ⟨i, hi'⟩ : ∃ i, l1.length = i := ⟨_, rfl⟩
    obtain ⟨q, hq⟩ : ∃ q, markN k l1 = q := ⟨_, rfl⟩
    rw [hi', hq]
    cases l2 with
    | nil =>
      have e1 : rs = l1 := by have := HS.out; rwa [List.append_nil] at this
      have hin : i = n := by have := HN.out; rw [e1, hi'] at this; exact this
      have HQ := Lib.hid hq; have HI := Lib.hid hi'; have HE := Lib.hid e1
      clear hq hi' e1
      subst hin
      go_wp2
      go_ret; exact ⟨by rw [HE.out, HQ.out]; rfl, by rw [HE.out]; have := HO.out; rwa [List.append_nil] at this, hw⟩
    | cons r l2 =>
      obtain ⟨g, hA, p1, p2, p3, p4, ⟨x0, p5⟩, p6, p7⟩ := HO.out.place
      rw [HL.out, hi'] at p4 p5 p6 p7
      have hb1 : q + 1 + 2 * rN r ≤ 2 ^ 62 := by
        have e1 : markN k rs = markN (q + 1 + 2 * rN r) l2 := by rw [HS.out, markN_app, hq]; rfl
        have := markN_ge (q + 1 + 2 * rN r) l2
        omega
      have HQ := Lib.hid hq; have HI := Lib.hid hi'
      clear hq hi'
      subst hA
      have hws := hw.size
      go_wp2_with fail
      refine (markText_is _ q rfl (by omega) _).mono ?_; rintro e w1 ⟨rfl, hb1'⟩
      have c0 := (hb1'.cell (p := ⟨g, i * 2, none⟩) p3).trans p5
      have c1 := (hb1'.cell (p := ⟨g, i * 2 + 1, none⟩) p3).trans p6
      have z0 := (hb1'.frozen (p := ⟨g, i * 2, none⟩) p3).trans p7
      have hO1 := (HO.out.below hb1' (Nat.le_trans hh hws)).name rfl (markB q) (markB_size q (by omega))
      rw [HL.out, HI.out] at hO1
      have hw1 := (hw.trans (Within.of hb1')).trans (Within.row (grownSet w1 g (i * 2) (.string (markB q))) p1 p2)
      have HO1 := Lib.hid hO1
      clear hO1 p5 p6 p7 hb1'
      go_wp2_with fail
      refine (markTermS_at lo hi (some ⟨g, 0, none⟩) n c (markRs k l1) l2 r q _ _ (by omega) HO1.out hb1).mono ?_; rintro e w2 ⟨rfl, hO2, hw2⟩
      clear c0 c1 z0
      go_wp2
      go_roundw
      case rel => exact ⟨l1 ++ [r], l2, by rw [HS.out, List.append_assoc]; rfl, by rw [markN_snoc, HQ.out]; go_num, by rw [List.length_append, HI.out]; go_num, by rw [markRs_snoc, HQ.out, List.append_assoc]; exact hO2, hw1.trans hw2⟩
      case measure => simp [intOf]; omega

set_option maxRecDepth 100000 in
set_option maxHeartbeats 1000000 in
theorem heldAtomS_any (A : Option Addr) (n c k : Nat) (rs : List Rf) (w : World) (h : IsRefs w 0 w.heap.size A n c (markRs k rs)) (hk : markN k rs ≤ 2 ^ 62) :
    Calls Tryz.prog 45 #[.slice A n c, .int .i64 (k : Int)] w fun e w' => e = .returned (.int .i64 ((markN k rs : Nat) : Int)) ∧ Below w.heap.size w w' := by
  have hn := h.len
  unfold maxLen at hn
  have HN := Lib.hid h.1
  have H := Lib.hid h; clear h
  go_enter Tryz.func45, Tryz.ntmps45
  go_wp2
  go_loopw [1, 5] (fun x y wr => ∃ l1 l2 : List Rf, rs = l1 ++ l2 ∧ x = .int .i64 ((markN k l1 : Nat) : Int) ∧ y = .int .i64 ((l1.length : Nat) : Int) ∧ Below w.heap.size w wr) (fun _ y _ => n - (intOf y).toNat)
  case atStart => exact ⟨[], rs, rfl, rfl, rfl, Below.refl _ _⟩
  case round =>
    obtain ⟨l1, l2, hs, rfl, rfl, hb⟩ := hrel
    have HS := Lib.hid hs; clear hs
    obtain ⟨i, hi'⟩ : ∃ i, l1.length = i := ⟨_, rfl⟩
    obtain ⟨q, hq⟩ : ∃ q, markN k l1 = q := ⟨_, rfl⟩
    rw [hi', hq]
    have HLN : Hid (l1.length + l2.length = n) := Lib.hid (by have := HN.out; rw [markRs_len, HS.out, List.length_append] at this; exact this)
    cases l2 with
    | nil =>
      have e1 : rs = l1 := by have := HS.out; rwa [List.append_nil] at this
      have hin : i = n := by have := HLN.out; rw [hi'] at this; simpa using this
      have HQ := Lib.hid hq; have HI := Lib.hid hi'; have HE := Lib.hid e1
      clear hq hi' e1
      subst hin
      go_wp2
      go_ret; exact ⟨by rw [HE.out, HQ.out]; rfl, hb⟩
    | cons r l2 =>
      have hin : i < n := by have := HLN.out; rw [hi', List.length_cons] at this; omega
      obtain ⟨p, r', hA, hlo, hhi, hg, hE⟩ := (H.out.below RefE.stays hb (Nat.le_refl _)).at_ hin
      have hat := markRs_at k l1 r l2
      rw [← HS.out, hi', hg] at hat
      injection hat with hat
      subst hat
      rw [hq] at hE
      obtain ⟨d1, d2, d3, d4⟩ := hE.out
      clear hE hg
      have d1' : wr.cell? (p.add (i * 2)) = some (.string (markB q)) := d1
      have d3' : wr.cell? ⟨(p.add (i * 2)).block, (p.add (i * 2)).off + 1, none⟩ = some (.slice r.2.1 r.2.2.1 r.2.2.2.1) := d3
      have d4' : IsTerms wr 0 w.heap.size r.2.1 r.2.2.1 r.2.2.2.1 (markTs (q + 1) r.2.2.1) := d4
      clear d1 d2 d3 d4
      have hb1 : q + 1 + 2 * rN r ≤ 2 ^ 62 := by
        have e1 : markN k rs = markN (q + 1 + 2 * rN r) l2 := by rw [HS.out, markN_app, hq]; rfl
        have := markN_ge (q + 1 + 2 * rN r) l2
        omega
      have hb2 : q + 1 + 2 * r.2.2.1 ≤ 2 ^ 62 := hb1
      have HQ := Lib.hid hq; have HI := Lib.hid hi'
      clear hq hi'
      subst hA
      have hpz : p.block < wr.heap.size := Nat.lt_of_lt_of_le hhi hb.size
      have x1 : wr.drew.cell? (p.add (i * 2)) = some (.string (markB q)) := d1'
      have x2 : wr.drew.cell? ⟨(p.add (i * 2)).block, (p.add (i * 2)).off + 1, none⟩ = some (.slice r.2.1 r.2.2.1 r.2.2.2.1) := d3'
      have HT := Lib.hid (show IsTerms wr.drew 0 wr.drew.heap.size r.2.1 r.2.2.1 r.2.2.2.1 (markTs (q + 1) r.2.2.1) from d4'.keep (fun _ _ _ => rfl) (Nat.le_refl _) hb.size)
      have hbd := hb.drew
      clear d1' d3' d4'
      go_wp2
      refine wp_region_held_drew (S := fun W => W.cell? (p.add (i * 2)) = some (.string (markB q)) ∧ W.cell? ⟨(p.add (i * 2)).block, (p.add (i * 2)).off + 1, none⟩ = some (.slice r.2.1 r.2.2.1 r.2.2.2.1)) (by kernel_rfl) ⟨x1, x2⟩ ?_
      intro hS_
      refine takeV (i := 0) (v := .slice (some p) n c) (by (simp only [List.getElem?_toArray, List.getElem?_cons_zero]); rfl) (by kernel_rfl) (by kernel_rfl) (by kernel_rfl) (by rfl) (fun _ _ _ h => h) (Or.inl ⟨by rfl, ?_⟩) hS_ (by (simp only [List.setIfInBounds_toArray, List.set_cons_succ, List.set_cons_zero]); rfl) ?_
      · intro w_ hSw_; (try dsimp only at hSw_); go_simp
      refine takeV (i := 1) (v := .int .i64 (i : Int)) (by (simp only [List.getElem?_toArray, List.getElem?_cons_succ, List.getElem?_cons_zero]); rfl) (by kernel_rfl) (by kernel_rfl) (by kernel_rfl) (by rfl) (fun _ _ _ h => h) (Or.inl ⟨by rfl, ?_⟩) hS_ (by (simp only [List.setIfInBounds_toArray, List.set_cons_succ, List.set_cons_zero]); rfl) ?_
      · intro w_ hSw_; (try dsimp only at hSw_); go_simp
      refine takeV (i := 2) (v := .pointer (some (p.add (i * 2)))) (by (simp only [List.getElem?_toArray, List.getElem?_cons_succ, List.getElem?_cons_zero]); rfl) (by kernel_rfl) (by kernel_rfl) (by kernel_rfl) (by rfl) (fun _ _ _ h => h) (Or.inl ⟨by rfl, ?_⟩) hS_ (by (simp only [List.setIfInBounds_toArray, List.set_cons_succ, List.set_cons_zero]); rfl) ?_
      · intro w_ hSw_; (try dsimp only at hSw_); go_simp
      refine takeV (i := 3) (v := .pointer (some (p.add (i * 2)))) (by (simp only [List.getElem?_toArray, List.getElem?_cons_succ, List.getElem?_cons_zero]); rfl) (by kernel_rfl) (by kernel_rfl) (by kernel_rfl) (by rfl) (fun _ _ _ h => h) (Or.inl ⟨by rfl, ?_⟩) hS_ (by (simp only [List.setIfInBounds_toArray, List.set_cons_succ, List.set_cons_zero]); rfl) ?_
      · intro w_ hSw_; (try dsimp only at hSw_); go_simp
      refine takeV (i := 4) (v := .string (markB q)) (by (simp only [List.getElem?_toArray, List.getElem?_cons_succ, List.getElem?_cons_zero]); rfl) (by kernel_rfl) (by kernel_rfl) (by kernel_rfl) (by rfl) (fun _ _ _ h => h) (Or.inl ⟨by rfl, ?_⟩) hS_ (by (simp only [List.setIfInBounds_toArray, List.set_cons_succ, List.set_cons_zero]); rfl) ?_
      · intro w_ hSw_; (try dsimp only at hSw_); go_simp
      refine takeV (i := 5) (v := .int .i64 (q : Int)) (by (simp only [List.getElem?_toArray, List.getElem?_cons_succ, List.getElem?_cons_zero]); rfl) (by kernel_rfl) (by kernel_rfl) (by kernel_rfl) (by rfl) (fun _ _ _ h => h) (Or.inl ⟨by rfl, ?_⟩) hS_ (by (simp only [List.setIfInBounds_toArray, List.set_cons_succ, List.set_cons_zero]); rfl) ?_
      · intro w_ hSw_; (try dsimp only at hSw_); go_simp
      refine wpAnyH_ready (rs := [6]) (by kernel_rfl) (by simp) ?_
      refine AllReadyH.cons (o := _) (by (simp only [List.getElem?_toArray, List.getElem?_cons_succ, List.getElem?_cons_zero]); rfl) (fun K_ hK_ => ?_) AllReadyH.nil
      rw [if_pos (by rfl)]
      go_simp
      go_at_call 77
      refine (markText_is _ q rfl (by omega) _).mono ?_; rintro e w1 ⟨rfl, hb1'⟩
      have y1 := (hb1'.cell (p := p.add (i * 2)) (by rw [block_add]; exact hpz)).trans x1
      have y2 := (hb1'.cell (p := ⟨(p.add (i * 2)).block, (p.add (i * 2)).off + 1, none⟩) (by rw [block_add]; exact hpz)).trans x2
      refine hK_.out _ _ ⟨y1, y2⟩ (fun hS2_ => ?_)
      clear hK_ hS_
      have hS_ := hS2_; clear hS2_
      refine takeV (i := 7) (v := .bool false) (by (simp only [List.getElem?_toArray, List.getElem?_cons_succ, List.getElem?_cons_zero]); rfl) (by kernel_rfl) (by kernel_rfl) (by kernel_rfl) (by rfl) (fun _ _ _ h => h) (Or.inl ⟨by rfl, ?_⟩) hS_ (by (simp only [List.setIfInBounds_toArray, List.set_cons_succ, List.set_cons_zero]); rfl) ?_
      · intro w_ hSw_; (try dsimp only at hSw_); go_simp
      refine wpAnyH_done (by kernel_rfl) ?_ _
      go_wp2_with fail
      refine (heldTermS_is r.2.1 r.2.2.1 r.2.2.2.1 (q + 1) _ _ (by omega) (HT.out.up hb1') hb2).mono ?_; rintro e w2 ⟨rfl, hb2'⟩
      clear y1 y2 x1 x2
      have hnn : ¬ (((q + 1 + 2 * r.2.2.1 : Nat) : Int) < 0) := by omega
      go_wp2
      go_roundw
      case rel => exact ⟨l1 ++ [r], l2, by rw [HS.out, List.append_assoc]; rfl, by rw [markN_snoc, HQ.out]; go_num, by rw [List.length_append, HI.out]; go_num, belowThen hbd (belowThen hb1' hb2')⟩
      case measure => simp [intOf]; omega

theorem markN_small {n c lo hi : Nat} {w : World} {A : Option Addr} {rs : List Rf} {xs : List At} (h : IsRefs w lo hi A n c rs) (hx : rs.map rAt = xs) (hs : SmallAtoms n xs) : markN 1 rs ≤ 2 ^ 62 := by
  have h1 := markN_le 1048576 1 rs (fun r hr => by
    have h2 := hs.2 (rAt r) (by rw [← hx]; exact List.mem_map_of_mem hr)
    have h3 := ((RefsIn.of h) r hr).2.1
    show r.2.2.1 ≤ _
    rw [← h3]; exact h2)
  have h4 := h.1
  have h5 := hs.1
  have h6 : rs.length * (1 + 2 * 1048576) ≤ 1048576 * (1 + 2 * 1048576) := Nat.mul_le_mul_right _ (by omega)
  omega

end Go.Proofs.YtogonjkklioaaaaGreatDoor

namespace Go.Proofs.YtogonjkklioaaaaGreatDoor
open Go.RowKit


/-- A copy of atoms, in memory of its own. -/
def AtomSPost (n : Nat) (xs : List At) (w : World) (e : Ending) (w' : World) : Prop := ∃ g, e = .returned (.slice (some ⟨g, 0, none⟩) n n) ∧ w.heap.size ≤ g ∧ IsAtoms w' w.heap.size w'.heap.size (some ⟨g, 0, none⟩) n n xs ∧ Below w.heap.size w w'


set_option maxHeartbeats 1000000 in
theorem eqAtomS_any (A B : Option Addr) (n c n' c' : Nat) (xs ys : List At) (w : World) (h : IsAtoms w 0 w.heap.size A n c xs) (h' : IsAtoms w 0 w.heap.size B n' c' ys) :
    Calls Tryz.prog 76 #[.slice A n c, .slice B n' c'] w (BoolPost (listEq atomEq xs ys) w) := by
  have hm := h.len
  unfold maxLen at hm
  have H := Lib.hid h; clear h
  have H' := Lib.hid h'; clear h'
  by_cases hne : n = n'
  · subst hne
    go_enter Tryz.func76, Tryz.ntmps76
    go_wp2
    go_loopw [5] (fun i wr => ∃ k : Nat, k ≤ n ∧ i = .int .i64 k ∧ listEq atomEq (xs.drop k) (ys.drop k) = listEq atomEq xs ys ∧ Below w.heap.size w wr) (fun i _ => n - (intOf i).toNat)
    case atStart => exact ⟨0, Nat.zero_le _, rfl, rfl, Below.refl _ _⟩
    case round =>
      obtain ⟨k, hk, rfl, hd, hb⟩ := hrel
      have HD := Lib.hid hd; clear hd
      by_cases hlt : k < n
      · obtain ⟨p, q, hA, hlo, hhi, hg, hE⟩ := (H.out.below AtomE.stays hb (Nat.le_refl _)).at_ hlt
        obtain ⟨p', q', hA', hlo', hhi', hg', hE'⟩ := (H'.out.below AtomE.stays hb (Nat.le_refl _)).at_ hlt
        obtain ⟨C, m, d, d1, d3, d4, d5⟩ := hE.out
        obtain ⟨C', m', d', f1, f3, f4, f5⟩ := hE'.out
        clear hE hE'
        subst hA; subst hA'
        have HG := Lib.hid hg; clear hg
        have HG' := Lib.hid hg'; clear hg'
        have HT := Lib.hid (d5.keep (w' := wr.drew) (lo' := 0) (hi' := wr.drew.heap.size) (fun _ _ _ => rfl) (Nat.le_refl _) hb.size); clear d5
        have HT' := Lib.hid (f5.keep (w' := wr.drew) (lo' := 0) (hi' := wr.drew.heap.size) (fun _ _ _ => rfl) (Nat.le_refl _) hb.size); clear f5
        have hbd := hb.drew
        go_wp2_with fail
        go_region_with (go_at_call 105; refine (eqAtom_any _ _ _ _ _ _ _ _ q.2 q'.2 _ HT.out HT'.out).mono ?_; rintro e w1 ⟨rfl, hb1⟩)
        all_goals go_wp2
        all_goals first
          | (go_ret; exact ⟨retB (listEq_no HG.out HG'.out HD.out (by assumption)), belowThen hbd hb1⟩)
          | (go_roundw
             case rel => exact ⟨k + 1, by omega, by go_num, listEq_on HG.out HG'.out HD.out (by assumption), belowThen hbd hb1⟩
             case measure => simp [intOf]; omega)
      · have hl := Lib.hid H.out.1
        have hl' := Lib.hid H'.out.1
        go_wp2
        go_ret
        exact ⟨retB (listEq_end hl.out hl'.out HD.out hlt), hb⟩
  · have hlen : xs.length ≠ ys.length := by rw [H.out.1, H'.out.1]; exact hne
    go_enter Tryz.func76, Tryz.ntmps76
    go_wp2
    go_ret
    exact ⟨retB (listEq_len hlen).symm, Below.refl _ _⟩

end Go.Proofs.YtogonjkklioaaaaGreatDoor

namespace Go.Proofs.YtogonjkklioaaaaGreatDoor
open Go.RowKit

/-- A copy of atoms, in memory of its own from lo on. -/
def OwnSPost (n : Nat) (xs : List At) (w : World) (e : Ending) (w' : World) : Prop :=
  ∃ A rs, e = .returned (.slice A n n) ∧ OwnRefs w' w.heap.size w'.heap.size A n n rs ∧ rs.map rAt = xs ∧ Below w.heap.size w w'

theorem ownTermsRow {w : World} {g n lo hi : Nat} {ts : List Tm} (h : OwnTerms w g n ts) (h1 : lo ≤ g) (h2 : g < hi) : RowAt w lo hi 110 (some ⟨g, 0, none⟩) (n * 2) :=
  ⟨g, n * 2, tcell ts, rfl, h1, h2, h.2.2, Nat.le_refl _⟩

theorem set2_block {w : World} {g i j : Nat} {u v : Value} {b : Nat} (hb : b ≠ g) : ((w.setCell ⟨g, i, none⟩ u).setCell ⟨g, j, none⟩ v).heap[b]? = w.heap[b]? :=
  (Below.heap_setCell _ _ _ b hb).trans (Below.heap_setCell _ _ _ b hb)

theorem rcells_put {rs : List Rf} {r : Rf} {k : Nat} {f : Nat → Value} (hk : rs.length = k) (h : ∀ j u, (rcells rs)[j]? = some u → f j = u) :
    ∀ j u, (rcells (rs ++ [r]))[j]? = some u → (if j = k * 2 + 1 then .slice r.2.1 r.2.2.1 r.2.2.2.1 else if j = k * 2 then .string r.1 else f j) = u := by
  intro j u hu
  rw [rcells_snoc] at hu
  have hl := rcells_len rs
  by_cases h1 : j < (rcells rs).length
  · rw [List.getElem?_append_left h1] at hu
    rw [if_neg (by omega), if_neg (by omega)]
    exact h j u hu
  · rw [List.getElem?_append_right (by omega)] at hu
    have : j = k * 2 ∨ j = k * 2 + 1 := by
      have := (List.getElem?_eq_some_iff.1 hu).1
      simp at this; omega
    rcases this with rfl | rfl
    · rw [if_neg (by omega), if_pos rfl]
      rw [show k * 2 - (rcells rs).length = 0 by omega] at hu
      simpa using hu
    · rw [if_pos rfl]
      rw [show k * 2 + 1 - (rcells rs).length = 1 by omega] at hu
      simpa using hu


/-- A copy of a change, in memory of its own. -/
def OwnCPost (n n' : Nat) (xs ys : List At) (w : World) (e : Ending) (w' : World) : Prop :=
  ∃ A B ra rb mid, e = .returned (.agg #[.slice A n n, .slice B n' n']) ∧ (OwnRefs w' w.heap.size mid A n n ra ∧ ra.map rAt = xs) ∧ (OwnRefs w' mid w'.heap.size B n' n' rb ∧ rb.map rAt = ys) ∧ (w.heap.size ≤ mid ∧ mid ≤ w'.heap.size) ∧ Below w.heap.size w w'

/-- The two lists of a change are both small. -/
def SmallChange (n n' : Nat) (xs ys : List At) : Prop := SmallAtoms n xs ∧ SmallAtoms n' ys



/-- Are two changes the same? -/
def changeEq (xs ys xs' ys' : List At) : Bool := listEq atomEq xs xs' && listEq atomEq ys ys'

theorem changeEq_refl (xs ys : List At) : changeEq xs ys xs ys = true := by unfold changeEq; rw [listEq_refl atomEq_refl, listEq_refl atomEq_refl]; rfl
theorem changeEq_no1 {xs ys xs' ys' : List At} (h : (!listEq atomEq xs xs') = true) : changeEq xs ys xs' ys' = false := by unfold changeEq; rw [show listEq atomEq xs xs' = false by simpa using h]; rfl
theorem changeEq_on {xs ys xs' ys' : List At} (h : (!listEq atomEq xs xs') = false) : changeEq xs ys xs' ys' = listEq atomEq ys ys' := by unfold changeEq; rw [show listEq atomEq xs xs' = true by simpa using h]; rfl

set_option maxHeartbeats 1000000 in
theorem eqChange_any (A B : Option Addr) (n c n' c' : Nat) (A2 B2 : Option Addr) (m d m' d' : Nat) (xs ys xs' ys' : List At) (w : World) (h1 : IsAtoms w 0 w.heap.size A n c xs) (h2 : IsAtoms w 0 w.heap.size B n' c' ys) (h3 : IsAtoms w 0 w.heap.size A2 m d xs') (h4 : IsAtoms w 0 w.heap.size B2 m' d' ys') :
    Calls Tryz.prog 43 #[.agg #[.slice A n c, .slice B n' c'], .agg #[.slice A2 m d, .slice B2 m' d']] w (BoolPost (changeEq xs ys xs' ys') w) := by
  have H1 := Lib.hid h1; have H2 := Lib.hid h2; have H3 := Lib.hid h3; have H4 := Lib.hid h4
  clear h1 h2 h3 h4
  have hw2 := below2 w (.cells #[.slice A n c, .slice B n' c'] 25) (.cells #[.slice A2 m d, .slice B2 m' d'] 25)
  have X1 := Lib.hid ((Box.new w (.slice A n c) (.slice B n' c') 25).up (.cells #[.slice A2 m d, .slice B2 m' d'] 25))
  have Y1 := Lib.hid (Box.new2 w (.cells #[.slice A n c, .slice B n' c'] 25) (.slice A2 m d) (.slice B2 m' d') 25)
  go_enter Tryz.func43, Tryz.ntmps43
  go_wp2_with fail
  refine (eqAtomS_any A A2 n c m d xs xs' _ (H1.out.up AtomE.stays hw2) (H3.out.up AtomE.stays hw2)).mono ?_; rintro e w1 ⟨rfl, hb1⟩
  have HB1 := belowThen hw2 hb1
  obtain ⟨b0, b1, b2⟩ := X1.out.later hb1
  obtain ⟨d0, d1, d2⟩ := Y1.out.later hb1
  by_cases hx : (!listEq atomEq xs xs') = true
  · have E := Lib.hid (changeEq_no1 (ys := ys) (ys' := ys') hx)
    go_wp2
    go_ret; exact ⟨retB E.out.symm, HB1⟩
  · have hx' : (!listEq atomEq xs xs') = false := by simpa using hx
    clear hx
    have E := Lib.hid (changeEq_on (ys := ys) (ys' := ys') hx')
    go_wp2_with fail
    refine (eqAtomS_any B B2 n' c' m' d' ys ys' _ (H2.out.up AtomE.stays HB1) (H4.out.up AtomE.stays HB1)).mono ?_; rintro e w2 ⟨rfl, hb2⟩
    go_wp2
    all_goals
      go_ret; refine ⟨retB ?_, belowThen HB1 hb2⟩; rw [E.out]; simp_all

end Go.Proofs.YtogonjkklioaaaaGreatDoor
