/-
  Texts of one claim, put together.
-/
import Derived.Test.YtogonjkklioaaaaGreatDoorLg21
import Derived.Test.YtogonjkklioaaaaGreatDoorLg20
import Derived.Test.YtogonjkklioaaaaGreatDoorLg22
import Derived.Test.YtogonjkklioaaaaGreatDoorShelf6
namespace Go.Proofs.YtogonjkklioaaaaGreatDoor
open Go.RowKit

set_option maxRecDepth 100000 in
set_option maxHeartbeats 8000000 in
theorem implChangeGet_any (s : ByteArray) (w : World) (hs : s.size ≤ 1048576) (hm : MaxIn w) (hE : EofIn w) :
    Calls Tryz.prog 9 #[.string s] w (GetCPost s.data.toList w) := by
  obtain ⟨i0, hi, hz, hsz, hby⟩ := info_parts Tryz.infoAt
  have HI := Lib.hid hi; have HZ := Lib.hid hz; have HSZ := Lib.hid hsz; have HYY := Lib.hid hby
  clear hi hz hsz hby
  have hml := World.block_lt_of_cell? _ _ hm.choose_spec
  have hel := World.block_lt_of_cell? _ _ hE.choose_spec.choose_spec
  have hb0 := below1 w (.cells #[.slice none 0 0, .slice none 0 0] 25)
  have X0 := Blk.new w 25 #[.slice none 0 0, .slice none 0 0]
  obtain ⟨w1, hw1⟩ : ∃ w1, w.alloc (.cells #[.slice none 0 0, .slice none 0 0] 25) = w1 := ⟨_, rfl⟩
  rw [hw1] at hb0 X0
  have hz1 : w1.heap.size = w.heap.size + 1 := by rw [← hw1]; simp
  have hb1 := below1 w1 (.cells #[.slice none 0 0, .slice none 0 0] 25)
  have X1 := Blk.new w1 25 #[.slice none 0 0, .slice none 0 0]
  obtain ⟨w2, hw2⟩ : ∃ w2, w1.alloc (.cells #[.slice none 0 0, .slice none 0 0] 25) = w2 := ⟨_, rfl⟩
  rw [hw2] at hb1 X1
  have hz2 : w2.heap.size = w.heap.size + 2 := by rw [← hw2]; simp [hz1]
  go_enter Tryz.func9, Tryz.ntmps9
  go_wp2_with fail
  refine (newReader_any s w2).mono ?_; rintro e w3 ⟨rfl, hr3, hb3, hlt3⟩
  rw [hz2] at hr3 hlt3 ⊢
  have HR3 := Lib.hid hr3
  have HC3 : Hid (CG w1 (w.heap.size + 1) (w.heap.size + 3) w3.heap.size w3.heap.size (.slice none 0 0) (.slice none 0 0) [] [] w3) := Lib.hid ⟨by have := X1.below hb3; rw [hz1] at this; exact this, ⟨rfl, .inl ⟨rfl, rfl⟩⟩, fun g hg => by simp [Value.ownBlock] at hg, OwnIn.nil, ⟨rfl, .inl ⟨rfl, rfl⟩⟩, OwnIn.nil, by omega, by omega, by omega, Nat.le_refl _, Nat.le_refl _, belowThen hb1 hb3⟩
  have X0 := Lib.hid X0; have HB0 := Lib.hid hb0
  clear hr3 hb3 hb1 hb0 X1 hw1 hw2
  have NO : ∀ (W : World) (mid hi : Nat) (vc vg : Value) (rc rg : List Rf), CG w1 (w.heap.size + 1) (w.heap.size + 3) mid hi vc vg rc rg W → (∀ xs ys, changeB xs ys = true → s.data.toList ≠ chL xs ys) → GetCPost s.data.toList w (.returned (.tuple #[.agg #[.slice none 0 0, .slice none 0 0], .bool false])) ((W.setCell ⟨w.heap.size, 0, none⟩ (.slice none 0 0)).setCell ⟨w.heap.size, 1, none⟩ (.slice none 0 0)) := by
    intro W mid hi vc vg rc rg hC hno
    have hg := hC.gr
    have hgs := hg.size
    have hb : Below w.heap.size w W := belowThen HB0.out hg
    have hb2 := (hb.setCell (p := ⟨w.heap.size, 0, none⟩) (Nat.le_refl _) (.slice none 0 0)).setCell (p := ⟨w.heap.size, 1, none⟩) (Nat.le_refl _) (.slice none 0 0)
    exact ⟨none, 0, [], none, 0, [], w.heap.size, false, rfl, noRefs, noRefs, ⟨Nat.le_refl _, hb2.size⟩, hb2, (fun h => by cases h), fun _ => ⟨rfl, rfl, hno⟩⟩
  have HNO := Lib.hid NO; clear NO
  have hR1 : 0 ≠ w.heap.size + 2 := by have : 0 < w.heap.size := hel; omega
  have hR2 : 1 ≠ w.heap.size + 2 := by have : 1 < w.heap.size := hml; omega
  have hE1 := hE.below HB0.out; have hm1 := hm.below HB0.out
  clear hE hm hml hel
  go_wp2_with fail
  go_loopw [] (fun wr => ∃ (i mid hi : Nat) (vc vg : Value) (rc rg : List Rf), Rdr wr (w.heap.size + 2) s i ∧ CG w1 (w.heap.size + 1) (w.heap.size + 3) mid hi vc vg rc rg wr ∧ CAt s i rc rg ∧ (rc = [] → vc = .slice none 0 0)) (fun wr => match wr.cell? ⟨w.heap.size + 2, 1, none⟩ with | some (.int _ j) => s.size - j.toNat | _ => 0)
  case atStart => exact ⟨0, _, _, _, _, [], [], HR3.out, HC3.out, CAt.start s, fun _ => rfl⟩
  case round =>
    obtain ⟨i, mid, hi, vc, vg, rc, rg, hr, hC, hA, hv⟩ := hrel
    clear HR3 HC3
    have HR := Lib.hid hr; have HC := Lib.hid hC.raise; have HA := Lib.hid hA; have HV := Lib.hid hv
    have hli := hA.li; have hln := hA.ln
    have hEr := hE1.below hC.gr; have hmr := hm1.below hC.gr
    have y1 : wr.cell? ⟨w.heap.size + 2, 1, none⟩ = some (.int .i64 (i : Int)) := by obtain ⟨p, hr⟩ := hr; exact hr.cell 1
    clear hr hC hA hv
    go_wp2_with fail
    refine (rdLen_any (w.heap.size + 2) i s wr HR.out hli hs).mono ?_; rintro e w4 ⟨rfl, hb4⟩
    have HR4 := Lib.hid (HR.out.below hb4); have HC4 := Lib.hid (HC.out.below hb4).raise
    have hE4 := hEr.below hb4; have hm4 := hmr.below hb4
    clear hb4 HR HC hEr hmr
    by_cases hlt : i < s.size
    · have hltI : (0 : Int) < ((s.size - i : Nat) : Int) := by omega
      go_wp2_with fail
      refine (signed_any (w.heap.size + 2) i s w4 HR4.out hli hs hE4 hR1 hm4 hR2).mono ?_; rintro e w5 ⟨x, r, ok, j, rfl, hj, hr5, hH5, hg5, hok, hno⟩
      unfold rfVal
      have hbx := below1 w5 (.cells #[.string r.1, .slice r.2.1 r.2.2.1 r.2.2.2.1] 51)
      have HC6 := (HC4.out.step hg5 (by omega) (by omega) (by omega)).below hbx
      have HR6 := hr5.below hbx
      have B6 := Blk.new w5 51 #[.string r.1, .slice r.2.1 r.2.2.1 r.2.2.2.1]
      have H6 : HeadApart (w5.alloc (.cells #[.string r.1, .slice r.2.1 r.2.2.1 r.2.2.2.1] 51)) w4.heap.size (w5.alloc (.cells #[.string r.1, .slice r.2.1 r.2.2.1 r.2.2.2.1] 51)).heap.size r := hH5.keep (fun b _ h2 => hbx.block b h2) (Nat.le_refl _) hbx.size
      obtain ⟨W6, hW6⟩ : ∃ W6, w5.alloc (.cells #[.string r.1, .slice r.2.1 r.2.2.1 r.2.2.2.1] 51) = W6 := ⟨_, rfl⟩
      rw [hW6] at HC6 HR6 B6 H6
      have b0 : W6.cell? ⟨w5.heap.size, 0, none⟩ = some (.string r.1) := B6.cell 0
      have b1 : W6.cell? ⟨w5.heap.size, 1, none⟩ = some (.slice r.2.1 r.2.2.1 r.2.2.2.1) := B6.cell 1
      obtain ⟨A, c, B, d, ea, eb, _, _⟩ := HC6.own
      subst ea; subst eb
      have c0 : W6.cell? ⟨w.heap.size + 1, 0, none⟩ = some (.slice A rc.length c) := HC6.C.cell 0
      have c1 : W6.cell? ⟨w.heap.size + 1, 1, none⟩ = some (.slice B rg.length d) := HC6.C.cell 1
      have X6 := X0.out.below HC6.gr
      have a0 : W6.cell? ⟨w.heap.size, 0, none⟩ = some (.slice none 0 0) := X6.cell 0
      have a1 : W6.cell? ⟨w.heap.size, 1, none⟩ = some (.slice none 0 0) := X6.cell 1
      have f0 := X6.frozen 0; have f1 := X6.frozen 1
      have HCB := Lib.hid (HC6.C.alloc (.cells #[.string r.1, .slice r.2.1 r.2.2.1 r.2.2.2.1] 51))
      have hz6 := HC6.h3; have hz6a := HC6.h1; have hz6b := HC6.h2
      have HC := Lib.hid HC6; have HR := Lib.hid HR6; have H := Lib.hid H6; have HOK := Lib.hid hok; have HN := Lib.hid hno; have HW := Lib.hid hW6
      clear HC6 HR6 H6 hok hno hW6 B6 X6 hbx hr5 hH5 hg5 HR4 HC4 hE4 hm4
      by_cases hA1 : ok = true ∧ x = 45 ∧ rc = []
      · obtain ⟨rfl, rfl, rfl⟩ := hA1
        obtain ⟨p, post, h1, h2, h3, rfl⟩ := HOK.out rfl
        have hv := HV.out rfl
        injection hv with e1 _ e2
        subst e1; subst e2
        have HRW := Lib.hid HC.out.G
        have H1 := Lib.hid h1; have H3 := Lib.hid h3
        clear HV h1 h2 h3 HOK HN
        have hwx := HW.out
        go_wp2_with (at_builtin; refine wpList_append_own _ rfl _ _ 23 rfl (w.heap.size + 3) 51 i0 _ 2 40 Tryz.underlying23 HI.out HZ.out HSZ.out HYY.out rfl (by decide) _ _ _ rfl (HRW.out.alloc _) ⟨W6.heap.size, 0, none⟩ 1 1 [.string r.1, .slice r.2.1 r.2.2.1 r.2.2.2.1] rfl rfl (two_new _ _ _ _) (by simp [Value.oneCell']) (by unfold maxLen; omega) (by omega) (by simp; omega) ?_; intro v' w9 hown' hgrow' _; have X9 := Blk.kept HCB.out hgrow' (CG.box_far (HRW.out.alloc _) HCB.out); have q2 := X9.cell 1; have q2' := X9.frozen 1; obtain ⟨g', cap', rfl⟩ := ownsRow_succ hown'; have hown := Lib.hid hown'; have hgrow := Lib.hid hgrow'; clear hown' hgrow' X9)
        have hM := HC.out.goes H.out hown.out hgrow.out
        have hR9 := HR.out.turned (cb := w.heap.size + 1) (c := 1) (u := .slice (some ⟨g', 0, none⟩) (rg.length + 1) cap') HRW.out (by omega) hgrow.out (by omega)
        have y9 : (w9.setCell ⟨w.heap.size + 1, 1, none⟩ (.slice (some ⟨g', 0, none⟩) (rg.length + 1) cap')).cell? ⟨w.heap.size + 2, 1, none⟩ = some (.int .i64 ((i + p.length + 2 : Nat) : Int)) := by obtain ⟨p', hr⟩ := hR9; exact hr.cell 1
        go_roundw
        case rel => exact ⟨_, _, _, _, _, [], rg ++ [r], hR9, hM, HA.out.goes H1.out H3.out hj, fun _ => rfl⟩
        case measure =>
          rw [y9, y1]
          show s.size - ((i + p.length + 2 : Nat) : Int).toNat < s.size - ((i : Nat) : Int).toNat
          omega
      · by_cases hB1 : ok = true ∧ x = 43
        · obtain ⟨rfl, rfl⟩ := hB1
          obtain ⟨p, post, h1, h2, h3, rfl⟩ := HOK.out rfl
          have HRW := Lib.hid HC.out.K
          have H1 := Lib.hid h1; have H3 := Lib.hid h3
          clear HV h1 h2 h3 HOK HN hA1
          have hwx := HW.out
          go_wp2_with (at_builtin; refine wpList_append_own _ rfl _ _ 23 rfl mid 51 i0 _ 2 40 Tryz.underlying23 HI.out HZ.out HSZ.out HYY.out rfl (by decide) _ _ _ rfl (HRW.out.alloc _) ⟨W6.heap.size, 0, none⟩ 1 1 [.string r.1, .slice r.2.1 r.2.2.1 r.2.2.2.1] rfl rfl (two_new _ _ _ _) (by simp [Value.oneCell']) (by unfold maxLen; omega) (by omega) (by simp; omega) ?_; intro v' w9 hown' hgrow' _; have X9 := Blk.kept HCB.out hgrow' (CG.box_far (HRW.out.alloc _) HCB.out); have q2 := X9.cell 0; have q2' := X9.frozen 0; obtain ⟨g', cap', rfl⟩ := ownsRow_succ hown'; have hown := Lib.hid hown'; have hgrow := Lib.hid hgrow'; clear hown' hgrow' X9)
          have hM := HC.out.comes H.out hown.out hgrow.out
          have hR9 := HR.out.turned (cb := w.heap.size + 1) (c := 0) (u := .slice (some ⟨g', 0, none⟩) (rc.length + 1) cap') HRW.out (by omega) hgrow.out (by omega)
          have y9 : (w9.setCell ⟨w.heap.size + 1, 0, none⟩ (.slice (some ⟨g', 0, none⟩) (rc.length + 1) cap')).cell? ⟨w.heap.size + 2, 1, none⟩ = some (.int .i64 ((i + p.length + 2 : Nat) : Int)) := by obtain ⟨p', hr⟩ := hR9; exact hr.cell 1
          go_roundw
          case rel => exact ⟨_, _, _, _, _, rc ++ [r], rg, hR9, hM, HA.out.comes H1.out H3.out hj, fun h => absurd h (by simp)⟩
          case measure =>
            rw [y9, y1]
            show s.size - ((i + p.length + 2 : Nat) : Int).toNat < s.size - ((i : Nat) : Int).toNat
            omega
        · have hnone := HA.out.none hlt (fun y p post a h1 h2 h3 => by
            cases ok with
            | false => rw [HN.out rfl y p post h1 h2] at h3; cases h3
            | true =>
              obtain ⟨p', post', k1, k2, k3, _⟩ := HOK.out rfl
              obtain ⟨k4, _⟩ := mark_first (k1.symm.trans h1) k2 h2
              injection k4 with k4 _
              subst k4
              exact ⟨fun ⟨e1, e2⟩ => hA1 ⟨rfl, e1, e2⟩, fun e1 => hB1 ⟨rfl, e1⟩⟩)
          have HNN := Lib.hid hnone
          have hwx := HW.out
          clear hnone HOK HN HV
          cases ok with
          | false =>
            go_wp2
            exact bodyPost_ret (v := .tuple #[.agg #[.slice none 0 0, .slice none 0 0], .bool false]) (by simp [results, Tryz.results9, go_sem, a0, a1]) rfl (HNO.out W6 _ _ _ _ _ _ HC.out HNN.out)
          | true =>
            have h43 : ¬ (x.toNat : Int) = 43 := fun e => hB1 ⟨rfl, UInt8.toNat_inj.1 (show x.toNat = (43 : UInt8).toNat by show x.toNat = 43; omega)⟩
            by_cases h45 : x = 45
            · subst h45
              have hnr : ¬ (rc.length : Int) = 0 := fun e => hA1 ⟨rfl, rfl, List.eq_nil_of_length_eq_zero (by omega)⟩
              go_wp2
              exact bodyPost_ret (v := .tuple #[.agg #[.slice none 0 0, .slice none 0 0], .bool false]) (by simp [results, Tryz.results9, go_sem, a0, a1]) rfl (HNO.out W6 _ _ _ _ _ _ HC.out HNN.out)
            · have h45I : ¬ (x.toNat : Int) = 45 := fun e => h45 (UInt8.toNat_inj.1 (show x.toNat = (45 : UInt8).toNat by show x.toNat = 45; omega))
              go_wp2
              exact bodyPost_ret (v := .tuple #[.agg #[.slice none 0 0, .slice none 0 0], .bool false]) (by simp [results, Tryz.results9, go_sem, a0, a1]) rfl (HNO.out W6 _ _ _ _ _ _ HC.out HNN.out)
    · have hltI : ¬ (0 : Int) < ((s.size - i : Nat) : Int) := by omega
      obtain ⟨A, c, B, d, ea, eb, oa, og⟩ := HC4.out.own
      subst ea; subst eb
      have c0 : w4.cell? ⟨w.heap.size + 1, 0, none⟩ = some (.slice A rc.length c) := HC4.out.C.cell 0
      have c1 : w4.cell? ⟨w.heap.size + 1, 1, none⟩ = some (.slice B rg.length d) := HC4.out.C.cell 1
      have IA := Lib.hid (oa.atoms.keep (w' := w4) (lo' := 0) (hi' := w4.heap.size) AtomE.stays (fun _ _ _ => rfl) (Nat.zero_le _) (Nat.le_refl _))
      have IG := Lib.hid (og.atoms.keep (w' := w4) (lo' := 0) (hi' := w4.heap.size) AtomE.stays (fun _ _ _ => rfl) (Nat.zero_le _) (Nat.le_trans HC4.out.h2 HC4.out.h3))
      have OA := Lib.hid oa; have OG := Lib.hid og
      have hall := HA.out.all hlt
      clear oa og
      go_wp2_with fail
      refine (implChangeOk_any A B rc.length c rg.length d (rc.map rAt) (rg.map rAt) w4 IA.out IG.out).mono ?_; rintro e w7 ⟨rfl, hb7⟩
      have HC7 := Lib.hid (HC4.out.below hb7)
      have X7 := X0.out.below HC7.out.gr
      have a0 : w7.cell? ⟨w.heap.size, 0, none⟩ = some (.slice none 0 0) := X7.cell 0
      have a1 : w7.cell? ⟨w.heap.size, 1, none⟩ = some (.slice none 0 0) := X7.cell 1
      have f0 := X7.frozen 0; have f1 := X7.frozen 1
      have d0 : w7.cell? ⟨w.heap.size + 1, 0, none⟩ = some (.slice A rc.length c) := HC7.out.C.cell 0
      have d1 : w7.cell? ⟨w.heap.size + 1, 1, none⟩ = some (.slice B rg.length d) := HC7.out.C.cell 1
      clear hb7 X7 c0 c1 HC4
      cases hch : changeB (rc.map rAt) (rg.map rAt)
      · have hnone : ∀ xs ys, changeB xs ys = true → s.data.toList ≠ chL xs ys := fun xs ys h he => by
          obtain ⟨e1, e2⟩ := chL_uniq HA.out.ac HA.out.ag h (hall.symm.trans he)
          rw [e1, e2, h] at hch; cases hch
        have HNN := Lib.hid hnone
        clear hnone
        go_wp2
        exact bodyPost_ret (v := .tuple #[.agg #[.slice none 0 0, .slice none 0 0], .bool false]) (by simp [results, Tryz.results9, go_sem, a0, a1]) rfl (HNO.out w7 _ _ _ _ _ _ HC7.out HNN.out)
      · obtain ⟨A', c', B', d', ea, eb, oa, og⟩ := HC7.out.own
        injection ea with e1 _ e2
        injection eb with e3 _ e4
        subst e1; subst e2; subst e3; subst e4
        have k0 := HC7.out.h0; have k1 := HC7.out.h1; have k2 := HC7.out.h2; have k3 := HC7.out.h3
        have OA7 := Lib.hid oa; have OG7 := Lib.hid og
        have HB7 := Lib.hid (belowThen HB0.out HC7.out.gr)
        clear oa og
        go_wp2
        refine bodyPost_ret (v := .tuple #[.agg #[.slice A rc.length c, .slice B rg.length d], .bool true]) (by simp [results, Tryz.results9, go_sem, a0, a1]) rfl ⟨A, c, rc, B, d, rg, mid, true, rfl, ?_, ?_, ⟨by omega, by simp only [size_setCell]; omega⟩, (HB7.out.setCell (Nat.le_refl _) _).setCell (Nat.le_refl _) _, fun _ => ⟨hch, hall⟩, (fun h => by cases h)⟩
        · exact OA7.out.keep (fun b a1 _ => (Below.heap_setCell _ _ _ b (by show b ≠ w.heap.size; omega)).trans (Below.heap_setCell _ _ _ b (by show b ≠ w.heap.size; omega))) (Nat.le_refl _) (by simp only [size_setCell]; exact Nat.le_refl _)
        · exact OG7.out.keep (fun b a1 _ => (Below.heap_setCell _ _ _ b (by show b ≠ w.heap.size; omega)).trans (Below.heap_setCell _ _ _ b (by show b ≠ w.heap.size; omega))) (by omega) (Nat.le_refl _)

end Go.Proofs.YtogonjkklioaaaaGreatDoor

namespace Go.Proofs.YtogonjkklioaaaaGreatDoor
open Go.RowKit

/-- A text up to its last blank. -/
def upTo (s : ByteArray) : ByteArray := s.extract 0 (Lib.lastIndexByte s 32 + 1).toNat

theorem same_bytes {a b : ByteArray} (h : a.data.toList = b.data.toList) : a = b := by rw [← Lib.mk_data a, ← Lib.mk_data b, h]

theorem bang_at {s : ByteArray} {j : Nat} (hj : j < s.size) : s.data.toList[j]? = some (s.data[j]!) := by
  have h : j < s.data.size := hj
  rw [getElem!_pos s.data j h, Array.getElem?_toList, Array.getElem?_eq_getElem h]

theorem last_le (s : ByteArray) : 0 ≤ Lib.lastIndexByte s 32 + 1 ∧ Lib.lastIndexByte s 32 + 1 ≤ (s.size : Int) := by
  rcases Lib.lastIndexByte_spec s 32 with ⟨e, _⟩ | ⟨i, hi, e, _⟩
  · rw [e]; omega
  · rw [e]; omega

theorem upTo_split (s : ByteArray) : ∃ v, s.data.toList = (upTo s).data.toList ++ v ∧ (32 : UInt8) ∉ v ∧ Blanked (upTo s).data.toList := by
  have hx : ∀ k, (s.extract 0 k).data.toList = s.data.toList.take k := fun k => by simp [ByteArray.data_extract]
  have hl : s.data.toList.length = s.size := by simp
  unfold upTo
  rcases Lib.lastIndexByte_spec s 32 with ⟨e, hn⟩ | ⟨i, hi, e, hc, hn⟩
  · refine ⟨s.data.toList, by rw [hx, e]; simp, fun hm => ?_, .inl (by rw [hx, e]; simp)⟩
    obtain ⟨j, hj⟩ := List.mem_iff_getElem?.1 hm
    have hjl : j < s.size := by have := (List.getElem?_eq_some_iff.1 hj).1; omega
    rw [bang_at hjl] at hj
    have := Option.some.inj hj
    exact hn j hjl (by rw [this]; rfl)
  · refine ⟨s.data.toList.drop (i + 1), ?_, fun hm => ?_, .inr ⟨s.data.toList.take i, ?_⟩⟩
    · rw [hx, e, show ((i : Int) + 1).toNat = i + 1 by omega]; exact (List.take_append_drop _ _).symm
    · obtain ⟨j, hj⟩ := List.mem_iff_getElem?.1 hm
      rw [List.getElem?_drop] at hj
      have hjl : i + 1 + j < s.size := by have := (List.getElem?_eq_some_iff.1 hj).1; omega
      rw [bang_at hjl] at hj
      have := Option.some.inj hj
      exact hn (i + 1 + j) (by omega) hjl (by rw [this]; rfl)
    · rw [hx, e, show ((i : Int) + 1).toNat = i + 1 by omega, List.take_add_one, bang_at hi]
      have h2 : s.data[i]! = 32 := UInt8.toNat_inj.1 (by have h3 : ((32 : UInt8).toNat : Int) = 32 := rfl; omega)
      rw [h2]; rfl

theorem upTo_is {s : ByteArray} {u v : List UInt8} (h : s.data.toList = u ++ v) (hu : Blanked u) (hv : (32 : UInt8) ∉ v) : (upTo s).data.toList = u := by
  obtain ⟨v', h1, h2, h3⟩ := upTo_split s
  exact (blank_last (h1.symm.trans h) h3 h2 hu hv).1

theorem upTo_size (s : ByteArray) : (upTo s).size ≤ s.size := by
  have h := last_le s
  unfold upTo
  rw [ByteArray.size_extract]; omega

/-- What stands behind the time. -/
def restB (pre : List UInt8) : ByteArray := ⟨(Lib.cut pre [58]).2.1.toArray⟩

theorem restB_len (pre : List UInt8) : (restB pre).size ≤ pre.length := by
  unfold restB
  rw [mk_size]
  unfold Lib.cut
  split
  · simp
  · simp

theorem restB_rec (k : Nat) (p : List UInt8) : (restB (recL k p)).data.toList = p ++ Lib.decDigits (sumB (headL k p)) := by
  unfold restB
  rw [mk_data, body_at, cut_first (dec_no (.inr (by decide)))]

/-- What the change's text is where a line is a record. -/
theorem rec_text {k : Nat} {p : List UInt8} (hp : Blanked p) : (upTo (restB (recL k p))).data.toList = p :=
  upTo_is (restB_rec k p) hp (dec_no (.inl (by decide)))

/-- A record was read; or there is none. -/
def RecPost (R i k : Nat) (s : ByteArray) (w : World) (e : Ending) (w' : World) : Prop :=
  ∃ (A : Option Addr) (c : Nat) (ra : List Rf) (B : Option Addr) (d : Nat) (rb : List Rf) (mid : Nat) (ok : Bool) (j : Nat), e = .returned (.tuple #[.agg #[.slice A ra.length c, .slice B rb.length d], .bool ok]) ∧
    OwnRefs w' mid w'.heap.size A ra.length c ra ∧ OwnRefs w' w.heap.size mid B rb.length d rb ∧ (w.heap.size ≤ mid ∧ mid ≤ w'.heap.size) ∧ Rdr w' R s j ∧ j ≤ s.size ∧ w.grownBy w' (some R) ∧
    (ok = true → okC (ra.map rAt, rb.map rAt) ∧ s.data.toList.drop i = lineL k (chC (ra.map rAt, rb.map rAt)) ++ s.data.toList.drop j ∧ j = i + (lineL k (chC (ra.map rAt, rb.map rAt))).length) ∧
    (ok = false → ∀ c r, okC c → s.data.toList.drop i ≠ lineL k (chC c) ++ r)

set_option maxHeartbeats 1000000 in
theorem rdSize_any (R i : Nat) (s : ByteArray) (w : World) (h : Rdr w R s i) :
    Calls Tryz.prog 75 #[.pointer (some ⟨R, 0, none⟩)] w fun e w' => e = .returned (.int .i64 (s.size : Int)) ∧ Below w.heap.size w w' := by
  obtain ⟨p, h⟩ := h
  have x0 : w.cell? ⟨R, 0, none⟩ = some (.string s) := h.cell 0
  go_enter Tryz.func75, Tryz.ntmps75
  go_wp2
  go_ret
  exact ⟨rfl, Below.refl _ _⟩

theorem PowTab.below {w w' : World} (h : PowTab w) (hb : Below w.heap.size w w') : PowTab w' := tab_later h hb

set_option maxRecDepth 100000 in
set_option maxHeartbeats 4000000 in
theorem record_any (R i k : Nat) (s : ByteArray) (w : World) (h : Rdr w R s i) (hi : i ≤ s.size) (hs : s.size ≤ 1048576) (hk : k ≤ 100000) (hE : EofIn w) (hR : 0 ≠ R) (hm : MaxIn w) (hR2 : 1 ≠ R) (hT : ∀ w', w.grownBy w' (some R) → PowTab w') :
    Calls Tryz.prog 74 #[.pointer (some ⟨R, 0, none⟩), .int .i64 (k : Int)] w (RecPost R i k s w) := by
  have hlR := h.lt
  have hb0 := below1 w (.cells #[.slice none 0 0, .slice none 0 0] 25)
  have R0 := Lib.hid (h.below hb0)
  have X0 := Lib.hid (Blk.new w 25 #[.slice none 0 0, .slice none 0 0])
  have G0 := Lib.hid (grownBelow hb0 (some R))
  have E0 := hE.below hb0
  obtain ⟨W0, hW0⟩ : ∃ W0, w.alloc (.cells #[.slice none 0 0, .slice none 0 0] 25) = W0 := ⟨_, rfl⟩
  clear h hb0
  go_enter Tryz.func74, Tryz.ntmps74
  go_wp2_with fail
  have hz0 : W0.heap.size = w.heap.size + 1 := by rw [← hW0]; simp
  rw [hW0] at R0 X0 G0 E0
  clear hW0
  refine (until_any R i s 10 W0 R0.out hi hs E0 hR).mono ?_; rintro e w1 ⟨hcase, hg1⟩
  have G1 := Lib.hid (grownTrans G0.out hg1)
  have X1 := Lib.hid (X0.out.kept hg1 (fun e => by injection e with e; omega))
  have hz1 := hg1.size
  clear hg1 R0 X0 G0
  have NO : ∀ (j : Nat) (W : World), j ≤ s.size → Rdr W R s j → w.grownBy W (some R) → (∀ c r, okC c → s.data.toList.drop i ≠ lineL k (chC c) ++ r) → RecPost R i k s w (.returned (.tuple #[.agg #[.slice none 0 0, .slice none 0 0], .bool false])) ((W.setCell ⟨w.heap.size, 0, none⟩ (.slice none 0 0)).setCell ⟨w.heap.size, 1, none⟩ (.slice none 0 0)) := by
    intro j W hj hr hg hno
    refine ⟨none, 0, [], none, 0, [], w.heap.size, false, j, rfl, noRefs, noRefs, ⟨Nat.le_refl _, by simp only [size_setCell]; exact hg.size⟩, ?_, hj, ?_, (fun h => by cases h), fun _ => hno⟩
    · obtain ⟨p, hr⟩ := hr
      exact ⟨p, (Blk.far hr (p := ⟨w.heap.size, 0, none⟩) (by show R ≠ w.heap.size; omega) _).far (by show R ≠ w.heap.size; omega) _⟩
    · exact ⟨hg.os, hg.tape, hg.output, by simp only [size_setCell]; exact hg.size, fun q hq hne => (Below.heap_setCell _ _ _ q (by show q ≠ w.heap.size; omega)).trans ((Below.heap_setCell _ _ _ q (by show q ≠ w.heap.size; omega)).trans (hg.block q hq hne))⟩
  have HNO := Lib.hid NO; clear NO
  have x0 : w1.cell? ⟨w.heap.size, 0, none⟩ = some (.slice none 0 0) := X1.out.cell 0
  have x1 : w1.cell? ⟨w.heap.size, 1, none⟩ = some (.slice none 0 0) := X1.out.cell 1
  have q0 := X1.out.frozen 0; have q1 := X1.out.frozen 1
  rcases hcase with ⟨pre, post, hp, hc, rfl, hr1⟩ | ⟨hc, rfl, hr1⟩
  · have hl := mark_len hp hi
    have hd : s.data.toList.drop (i + pre.length + 1) = post := by
      rw [show i + pre.length + 1 = i + (pre ++ [10]).length by simp [Nat.add_assoc], ← List.drop_drop, hp, show pre ++ 10 :: post = (pre ++ [10]) ++ post by simp]
      exact List.drop_left' rfl
    have HR1 := Lib.hid hr1; have HP := Lib.hid hp; have HC := Lib.hid hc; have HD := Lib.hid hd
    have hpl : pre.length ≤ 1048576 := by omega
    obtain ⟨T, hTd⟩ : ∃ T : ByteArray, (⟨pre.toArray⟩ : ByteArray) = T := ⟨_, rfl⟩
    have hTl : T.data.toList = pre := by rw [← hTd]
    have hTz : T.size ≤ 1048576 := by rw [← hTd, mk_size]; exact hpl
    rw [hTd]
    clear hr1 hp hc hd hTd
    obtain ⟨mx, hmx⟩ := hm.grown G1.out hR2
    go_wp2_with fail
    refine (Tryz.strings_Cut T ⟨#[58]⟩ mx w1 (by omega) hmx).mono ?_; rintro e w2 ⟨rfl, n2, hw2⟩
    rw [hTl, show (⟨#[58]⟩ : ByteArray).data.toList = [58] from rfl]
    have hb2 : Below w1.heap.size w1 w2 := by rw [hw2]; exact ⟨rfl, rfl, rfl, Nat.le_refl _, fun _ _ => rfl⟩
    clear hw2 hmx
    obtain ⟨c1, hc1⟩ : ∃ c1 : ByteArray, (⟨(Lib.cut pre [58]).1.toArray⟩ : ByteArray) = c1 := ⟨_, rfl⟩
    obtain ⟨c3, hc3⟩ : ∃ c3 : Bool, (Lib.cut pre [58]).2.2 = c3 := ⟨_, rfl⟩
    have hrl := restB_len pre
    have hul := last_le (restB pre)
    have hsz := upTo_size (restB pre)
    have HU := Lib.hid (show (restB pre).extract 0 (Lib.lastIndexByte (restB pre) 32 + 1).toNat = upTo (restB pre) from rfl)
    have HB := Lib.hid (show restB pre = ⟨(Lib.cut pre [58]).2.1.toArray⟩ from rfl)
    rw [hc1, hc3, ← HB.out]
    obtain ⟨rs, hrs⟩ : ∃ rs, restB pre = rs := ⟨_, rfl⟩
    have HRS := Lib.hid hrs
    rw [hrs] at hrl hul hsz HU ⊢
    clear hc1 hc3 hrs HB
    have X2 := Lib.hid (X1.out.below hb2); have HR2 := Lib.hid (HR1.out.below hb2); have G2 := Lib.hid (grownTrans G1.out (grownBelow hb2 (some R)))
    have hz2 := hb2.size
    clear hb2 X1 HR1 G1 x0 x1 q0 q1
    go_wp2_with fail
    refine (Tryz.strings_LastIndexByte rs 32 (by omega) w2).mono ?_; rintro e w' ⟨rfl, hw'⟩
    rw [hw']
    clear hw'
    obtain ⟨li, hli⟩ : ∃ li, Lib.lastIndexByte rs 32 + 1 = li := ⟨_, rfl⟩
    have hli2 : Lib.lastIndexByte rs 32 = li - 1 := by omega
    rw [hli] at hul HU
    rw [hli2]
    clear hli hli2
    obtain ⟨hu0, hu1⟩ := hul
    have hwr : IntKind.i64.wrap (li - 1 + 1) = li := by rw [IntKind.wrap_i64]; omega
    go_wp2_with fail
    rw [HU.out]
    have hm2 := hm.grown G2.out hR2; have hE2 : EofIn w2 := hE.grown G2.out hR
    refine (implChangeGet_any (upTo rs) w2 (by omega) hm2 hE2).mono ?_; rintro e w3 ⟨A, ca, ra, B, cb, rb, mid, ok, rfl, hO, hG, ⟨hm1, hm2'⟩, hb3, hy, hno⟩
    have HY := Lib.hid hy; have HN := Lib.hid hno
    have hbx := below1 w3 (.cells #[.slice A ra.length ca, .slice B rb.length cb] 25)
    have hb34 := belowThen hb3 hbx
    have X3 := Lib.hid (X2.out.below hb34)
    have Y3 := Lib.hid (Box.new w3 (.slice A ra.length ca) (.slice B rb.length cb) 25)
    have O3 := Lib.hid (hO.keep (w' := w3.alloc (.cells #[.slice A ra.length ca, .slice B rb.length cb] 25)) (fun b _ h2 => hbx.block b h2) (Nat.le_refl _) (Nat.le_refl _))
    have P3 := Lib.hid (hG.keep (w' := w3.alloc (.cells #[.slice A ra.length ca, .slice B rb.length cb] 25)) (fun b _ h2 => hbx.block b (by omega)) (Nat.le_refl _) (Nat.le_refl _))
    have HR3 := Lib.hid (HR2.out.below hb34); have G3 := Lib.hid (grownTrans G2.out (grownBelow hb34 (some R)))
    have hz3 := hb3.size
    have hzx : (w3.alloc (.cells #[.slice A ra.length ca, .slice B rb.length cb] 25)).heap.size = w3.heap.size + 1 := by simp
    clear hO hG hb3 hy hno hbx hb34 X2 HR2 G2
    obtain ⟨W3, hW3⟩ : ∃ W3, w3.alloc (.cells #[.slice A ra.length ca, .slice B rb.length cb] 25) = W3 := ⟨_, rfl⟩
    rw [hW3] at X3 Y3 O3 P3 HR3 G3 hzx
    have x0 : W3.cell? ⟨w.heap.size, 0, none⟩ = some (.slice none 0 0) := X3.out.cell 0
    have x1 : W3.cell? ⟨w.heap.size, 1, none⟩ = some (.slice none 0 0) := X3.out.cell 1
    have q0 := X3.out.frozen 0; have q1 := X3.out.frozen 1
    obtain ⟨_, y0, y1⟩ := Y3.out
    have HNX := Lib.hid (show (∀ c r, okC c → upTo rs ≠ ⟨(chC c).toArray⟩ ∨ lineL k (chC c) ≠ pre ++ [10]) → ∀ c r, okC c → s.data.toList.drop i ≠ lineL k (chC c) ++ r from fun hh c r hc he => by
      rw [HP.out, line_body, List.append_assoc] at he
      obtain ⟨e1, e2⟩ := mark_first he HC.out (body_no_ten (ch_no_ten hc))
      have e3 := rec_text (k := k) (ch_blanked c.1 c.2)
      rw [show recL k (chL c.1 c.2) = pre from e1.symm, HRS.out] at e3
      rcases hh c r hc with h | h
      · exact h (by rw [← Lib.mk_data (upTo rs), e3]; rfl)
      · exact h (by rw [line_body, e1]))
    cases ok
    · go_wp2
      refine bodyPost_ret (v := .tuple #[.agg #[.slice none 0 0, .slice none 0 0], .bool false]) (by simp [results, Tryz.results74, go_sem, x0, x1]) rfl (HNO.out _ _ hl HR3.out G3.out (HNX.out fun c r hc => .inl fun e => ?_))
      exact (HN.out (by first | rfl | trivial)).2.2 c.1 c.2 hc (by rw [e]; simp [chC])
    · obtain ⟨hch, htx⟩ := HY.out rfl
      have hI := Lib.hid (O3.out.atoms.keep (w' := W3) (lo' := 0) (hi' := W3.heap.size) AtomE.stays (fun _ _ _ => rfl) (Nat.zero_le _) (by omega))
      have hJ := Lib.hid (P3.out.atoms.keep (w' := W3) (lo' := 0) (hi' := W3.heap.size) AtomE.stays (fun _ _ _ => rfl) (Nat.zero_le _) (by omega))
      have hPT := hT W3 G3.out
      have hlog : logB (k : Int) (ra.map rAt) (rb.map rAt) = lineL k (chL (ra.map rAt) (rb.map rAt)) := by
        unfold logB
        rw [if_pos ⟨hch, by omega, by omega⟩, Int.toNat_natCast]
      go_wp2_with fail
      refine (implLogPut_any (k : Int) A ra.length ca B rb.length cb (ra.map rAt) (rb.map rAt) W3 hI.out hJ.out hPT).mono ?_; rintro e w5 ⟨rfl, hb5⟩
      rw [hlog]
      have X5 := Lib.hid (X3.out.below hb5); have HR5 := Lib.hid (HR3.out.below hb5); have G5 := Lib.hid (grownTrans G3.out (grownBelow hb5 (some R)))
      have Y5 := Lib.hid (Y3.out.later hb5)
      have O5 := Lib.hid (O3.out.keep (w' := w5) (fun b _ h2 => hb5.block b (by omega)) (Nat.le_refl _) (Nat.le_refl _))
      have P5 := Lib.hid (P3.out.keep (w' := w5) (fun b _ h2 => hb5.block b (by omega)) (Nat.le_refl _) (Nat.le_refl _))
      have hz5 := hb5.size
      clear hb5 X3 HR3 G3 Y3 O3 P3 hI hJ x0 x1 q0 q1 y0 y1 hPT
      have x0 : w5.cell? ⟨w.heap.size, 0, none⟩ = some (.slice none 0 0) := X5.out.cell 0
      have x1 : w5.cell? ⟨w.heap.size, 1, none⟩ = some (.slice none 0 0) := X5.out.cell 1
      have q0 := X5.out.frozen 0; have q1 := X5.out.frozen 1
      obtain ⟨_, y0, y1⟩ := Y5.out
      obtain ⟨u, hu⟩ : ∃ u : ByteArray, (⟨(lineL k (chL (ra.map rAt) (rb.map rAt))).toArray⟩ : ByteArray) = u := ⟨_, rfl⟩
      have hud : u.data.toList = lineL k (chL (ra.map rAt) (rb.map rAt)) := by rw [← hu]
      rw [hu]
      have HU5 := Lib.hid hud
      clear hu hud hlog
      by_cases heq : u = T ++ ⟨#[10]⟩
      · have hq : (u.toList == (T ++ ⟨#[10]⟩ : ByteArray).toList) = true := by rw [heq]; exact beq_self_eq_true _
        have hln : lineL k (chL (ra.map rAt) (rb.map rAt)) = pre ++ [10] := by rw [← HU5.out, heq]; simp [ByteArray.data_append, hTl]
        have HLN := Lib.hid hln
        clear heq hln
        go_wp2
        refine bodyPost_ret (v := .tuple #[.agg #[.slice A ra.length ca, .slice B rb.length cb], .bool true]) (by simp [results, Tryz.results74, go_sem, x0, x1]) rfl ⟨A, ca, ra, B, cb, rb, mid, true, i + pre.length + 1, rfl, ?_, ?_, ⟨by omega, by simp only [size_setCell]; omega⟩, ?_, hl, ?_, fun _ => ⟨hch, ?_, ?_⟩, (fun h => by cases h)⟩
        · exact O5.out.keep (fun b a1 _ => (Below.heap_setCell _ _ _ b (by show b ≠ w.heap.size; omega)).trans (Below.heap_setCell _ _ _ b (by show b ≠ w.heap.size; omega))) (Nat.le_refl _) (by simp only [size_setCell]; omega)
        · exact P5.out.keep (fun b a1 _ => (Below.heap_setCell _ _ _ b (by show b ≠ w.heap.size; omega)).trans (Below.heap_setCell _ _ _ b (by show b ≠ w.heap.size; omega))) (by omega) (Nat.le_refl _)
        · obtain ⟨p, hr⟩ := HR5.out
          exact ⟨p, (Blk.far hr (p := ⟨w.heap.size, 0, none⟩) (by show R ≠ w.heap.size; omega) _).far (by show R ≠ w.heap.size; omega) _⟩
        · exact ⟨G5.out.os, G5.out.tape, G5.out.output, by simp only [size_setCell]; exact G5.out.size, fun q hq hne => (Below.heap_setCell _ _ _ q (by show q ≠ w.heap.size; omega)).trans ((Below.heap_setCell _ _ _ q (by show q ≠ w.heap.size; omega)).trans (G5.out.block q hq hne))⟩
        · rw [show chC (ra.map rAt, rb.map rAt) = chL (ra.map rAt) (rb.map rAt) from rfl, HLN.out, HP.out, HD.out]; simp
        · rw [show chC (ra.map rAt, rb.map rAt) = chL (ra.map rAt) (rb.map rAt) from rfl, HLN.out]; simp [Nat.add_assoc]
      · have hq : (u.toList == (T ++ ⟨#[10]⟩ : ByteArray).toList) = false := by rw [beq_eq_false_iff_ne]; intro e; rw [toList_data, toList_data] at e; exact heq (same_bytes e)
        have HEQ := Lib.hid heq
        clear heq
        go_wp2
        refine bodyPost_ret (v := .tuple #[.agg #[.slice none 0 0, .slice none 0 0], .bool false]) (by simp [results, Tryz.results74, go_sem, x0, x1]) rfl (HNO.out _ _ hl HR5.out G5.out (HNX.out fun c r hc => ?_))
        by_cases hcc : upTo rs = ⟨(chC c).toArray⟩
        · right
          have h1 : chC c = chL (ra.map rAt) (rb.map rAt) := by rw [← htx, hcc]
          intro h2
          rw [h1] at h2
          exact HEQ.out (same_bytes (by rw [HU5.out, h2]; simp [ByteArray.data_append, hTl]))
        · exact .inl hcc
  · have HR1 := Lib.hid hr1; have HC := Lib.hid hc
    clear hr1 hc
    go_wp2
    refine bodyPost_ret (v := .tuple #[.agg #[.slice none 0 0, .slice none 0 0], .bool false]) (by simp [results, Tryz.results74, go_sem, x0, x1]) rfl (HNO.out _ _ (Nat.le_refl _) HR1.out G1.out fun c r hc he => ?_)
    exact HC.out (by rw [he, line_body]; simp)

end Go.Proofs.YtogonjkklioaaaaGreatDoor
