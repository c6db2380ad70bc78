/-
  Texts of one claim, put together.
-/
import Derived.Test.YtogonjkklioaaaaGreatDoorCt25
namespace Go.Proofs.YtogonjkklioaaaaGreatDoor
open Go.RowKit

set_option maxHeartbeats 1000000 in
theorem newReader_any (s : ByteArray) (w : World) :
    Calls Tryz.prog 30 #[.string s] w fun e w' => e = .returned (.pointer (some ⟨w.heap.size, 0, none⟩)) ∧ Rdr w' w.heap.size s 0 ∧ Below w.heap.size w w' ∧ w.heap.size < w'.heap.size := by
  have h0 : Hid (Rdr (w.alloc (.cells #[.string ⟨#[]⟩, .int .i64 0, .int .i64 0] 64)) w.heap.size ⟨#[]⟩ 0) := Lib.hid ⟨0, Blk.new w _ _⟩
  have hb := below1 w (.cells #[.string ⟨#[]⟩, .int .i64 0, .int .i64 0] 64)
  go_enter Tryz.func30, Tryz.ntmps30
  go_wp2_with fail
  refine (rdReset_any w.heap.size 0 ⟨#[]⟩ s _ h0.out).mono ?_; rintro e w2 ⟨rfl, hr, hg⟩
  have HR := Lib.hid hr; have HG := Lib.hid hg
  clear hr hg
  go_wp2
  go_ret
  exact ⟨rfl, HR.out, hb.grown HG.out hb.size (fun k hk => by injection hk with hk; omega), HR.out.lt⟩

/-- A change is told that a text is of, in memory of the call's own; or that it is of none. -/
def GetCPost (l : List UInt8) (w : World) (e : Ending) (w' : World) : Prop :=
  ∃ (A : Option Addr) (c : Nat) (ra : List Rf) (B : Option Addr) (d : Nat) (rb : List Rf) (mid : Nat) (ok : Bool), e = .returned (.tuple #[.agg #[.slice A ra.length c, .slice B rb.length d], .bool ok]) ∧
    OwnRefs w' mid w'.heap.size A ra.length c ra ∧ OwnRefs w' w.heap.size mid B rb.length d rb ∧ (w.heap.size ≤ mid ∧ mid ≤ w'.heap.size) ∧ Below w.heap.size w w' ∧
    (ok = true → changeB (ra.map rAt) (rb.map rAt) = true ∧ l = chL (ra.map rAt) (rb.map rAt)) ∧ (ok = false → ra = [] ∧ rb = [] ∧ ∀ xs ys, changeB xs ys = true → l ≠ chL xs ys)

section
variable {w : World} {cb lo mid hi : Nat} {vc vg : Value} {rc rg : List Rf} {W : World}

theorem CG.own (h : CG w cb lo mid hi vc vg rc rg W) : ∃ A c B d, vc = .slice A rc.length c ∧ vg = .slice B rg.length d ∧ OwnRefs W mid W.heap.size A rc.length c rc ∧ OwnRefs W w.heap.size mid B rg.length d rg := by
  have h0 := h.h0; have h1 := h.h1; have h2 := h.h2; have h3 := h.h3; have hc := h.hc
  obtain ⟨A, c, e1, o1⟩ := OwnRefs.of_row (lo := mid) h.K rfl (Nat.le_refl _) (h.KI.keep (fun _ _ _ => rfl) (Nat.le_refl _) h.h3) (Nat.le_refl _)
  obtain ⟨B, d, e2, o2⟩ := OwnRefs.of_row (lo := lo) h.G rfl (Nat.le_refl _) (h.GI.keep (fun _ _ _ => rfl) (Nat.le_refl _) (Nat.le_trans h.h2 h.h3)) (Nat.le_refl _)
  refine ⟨A, c, B, d, e1, e2, o1, o2.1, o2.2.1, o2.2.2.1, fun hn => ?_, h.GI.keep (fun _ _ _ => rfl) (by omega) (Nat.le_refl _)⟩
  obtain ⟨g, k, f, a1, a2, a3, a4⟩ := o2.2.2.2.1 hn
  exact ⟨g, k, f, a1, by omega, h.GL g (by rw [e2, a1]; rfl), a4⟩
end

theorem chL_goes (gs : List At) (a : At) : chL [] (gs ++ [a]) = chL [] gs ++ (45 :: (textL a ++ [32])) := by unfold chL signL; simp
theorem chL_comes (cs gs : List At) (a : At) : chL (cs ++ [a]) gs = chL cs gs ++ (43 :: (textL a ++ [32])) := by unfold chL signL; simp

theorem noRefs {w : World} {lo hi : Nat} : OwnRefs w lo hi none 0 0 [] := ⟨rfl, Nat.le_refl _, Nat.zero_le _, fun h0 => absurd h0 (by simp), OwnIn.nil⟩

theorem chL_uniq {xs ys xs' ys' : List At} (a1 : ∀ a ∈ xs, atomB a = true) (a2 : ∀ a ∈ ys, atomB a = true) (h' : changeB xs' ys' = true) (he : chL xs ys = chL xs' ys') : xs = xs' ∧ ys = ys' := by
  obtain ⟨_, _, b1, b2⟩ := change_put h'
  rw [← encS_sgs, ← encS_sgs] at he
  obtain ⟨V, h1, h2⟩ := encS_prefix (rest := []) (sgs_atoms a1 a2) (sgs_atoms b1 b2) (by rw [List.append_nil]; exact he)
  cases V with
  | nil => rw [List.append_nil] at h1; exact sgs_inj h1
  | cons z V => rw [encS_cons] at h2; cases h2

theorem Rdr.turned {w W9 : World} {R i base k cb c : Nat} {s : ByteArray} {v u : Value} {xs : List Value} {e : TypeId} {sz : Nat} {ob : Obj} (h : Rdr w R s i) (hrow : w.ownsRow base e sz v k xs) (hR : R < base) (hg : (w.alloc ob).grownBy W9 v.ownBlock) (hne : R ≠ cb) : Rdr (W9.setCell ⟨cb, c, none⟩ u) R s i := by
  obtain ⟨p, h⟩ := h
  exact ⟨p, ((h.alloc ob).kept hg (fun e' => by have := (hrow.lt R e'.symm).1; omega)).far (p := ⟨cb, c, none⟩) hne _⟩

/-- Where a change's reading stands. -/
structure CAt (s : ByteArray) (i : Nat) (rc rg : List Rf) : Prop where
  li : i ≤ s.size
  ln : rc.length + rg.length ≤ i
  ac : ∀ a ∈ rc.map rAt, atomB a = true
  ag : ∀ a ∈ rg.map rAt, atomB a = true
  tx : s.data.toList = chL (rc.map rAt) (rg.map rAt) ++ s.data.toList.drop i

section
variable {s : ByteArray} {i : Nat} {rc rg : List Rf} {r : Rf} {x : UInt8} {p post : List UInt8}

theorem CAt.start (s : ByteArray) : CAt s 0 [] [] := ⟨Nat.zero_le _, Nat.le_refl _, fun a h => by simp at h, fun a h => by simp at h, by simp [chL, signL]⟩

theorem drop_on (h : s.data.toList.drop i = (x :: p) ++ 32 :: post) : s.data.toList.drop (i + p.length + 2) = post := by
  rw [Nat.add_assoc, ← List.drop_drop, h]
  have : (x :: p) ++ 32 :: post = (x :: (p ++ [32])) ++ post := by simp
  rw [this]
  exact List.drop_left' (by simp)

theorem CAt.goes (h : CAt s i [] rg) (hd : s.data.toList.drop i = (45 :: p) ++ 32 :: post) (hg : getB p = some (rAt r)) (hj : i + p.length + 2 ≤ s.size) : CAt s (i + p.length + 2) [] (rg ++ [r]) := by
  obtain ⟨h1, h2, _⟩ := getB_some hg
  refine ⟨hj, by have := h.ln; simp only [List.length_append, List.length_nil, List.length_cons] at *; omega, h.ac, fun a ha => ?_, ?_⟩
  · rw [List.map_append] at ha
    rcases List.mem_append.1 ha with ha | ha
    · exact h.ag a ha
    · have ha' : a = rAt r := by simpa using ha
      rw [ha']; exact h1
  · rw [drop_on hd, List.map_append]
    show _ = chL [] (rg.map rAt ++ [rAt r]) ++ post
    rw [chL_goes, h2]
    have := h.tx
    rw [hd] at this
    rw [this]
    simp

theorem CAt.comes (h : CAt s i rc rg) (hd : s.data.toList.drop i = (43 :: p) ++ 32 :: post) (hg : getB p = some (rAt r)) (hj : i + p.length + 2 ≤ s.size) : CAt s (i + p.length + 2) (rc ++ [r]) rg := by
  obtain ⟨h1, h2, _⟩ := getB_some hg
  refine ⟨hj, by have := h.ln; simp only [List.length_append, List.length_nil, List.length_cons] at *; omega, fun a ha => ?_, h.ag, ?_⟩
  · rw [List.map_append] at ha
    rcases List.mem_append.1 ha with ha | ha
    · exact h.ac a ha
    · have ha' : a = rAt r := by simpa using ha
      rw [ha']; exact h1
  · rw [drop_on hd, List.map_append]
    show _ = chL (rc.map rAt ++ [rAt r]) (rg.map rAt) ++ post
    rw [chL_comes, h2]
    have := h.tx
    rw [hd] at this
    rw [this]
    simp

theorem CAt.none (h : CAt s i rc rg) (hi : i < s.size) (hno : ∀ y p post a, s.data.toList.drop i = (y :: p) ++ 32 :: post → 32 ∉ y :: p → getB p = some a → ¬ (y = 45 ∧ rc = []) ∧ y ≠ 43) :
    ∀ xs ys, changeB xs ys = true → s.data.toList ≠ chL xs ys :=
  no_change h.tx h.ac h.ag (fun e => by
    have h1 := congrArg List.length e
    have h0 : s.data.toList.length = s.size := by simp
    simp only [List.length_drop, h0, List.length_nil] at h1
    omega) (fun y p post a h1 h2 h3 => by
      obtain ⟨k1, k2⟩ := hno y p post a h1 h2 h3
      exact ⟨fun ⟨e1, e2⟩ => k1 ⟨e1, by simpa using e2⟩, k2⟩)

theorem CAt.all (h : CAt s i rc rg) (hi : ¬ i < s.size) : s.data.toList = chL (rc.map rAt) (rg.map rAt) := by
  have h1 := h.tx
  have h0 : s.data.toList.length = s.size := by simp
  rw [List.drop_of_length_le (by omega), List.append_nil] at h1
  exact h1
end

end Go.Proofs.YtogonjkklioaaaaGreatDoor

namespace Go.Proofs.YtogonjkklioaaaaGreatDoor
open Go.RowKit

set_option maxRecDepth 100000 in
set_option maxHeartbeats 8000000 in
theorem implChangeGet_any (s : ByteArray) (w : World) (hs : s.size ≤ 1048576) (hm : MaxIn w) (hE : EofIn w) :
    Calls Tryz.prog 9 #[.string s] w (GetCPost s.data.toList w) := by
  obtain ⟨i0, hi, hz, hsz, hby⟩ := info_parts Tryz.infoAt
  have HI := Lib.hid hi; have HZ := Lib.hid hz; have HSZ := Lib.hid hsz; have HYY := Lib.hid hby
  clear hi hz hsz hby
  have hml := World.block_lt_of_cell? _ _ hm.choose_spec
  have hel := World.block_lt_of_cell? _ _ hE.choose_spec.choose_spec
  have hb0 := below1 w (.cells #[.slice none 0 0, .slice none 0 0] 25)
  have X0 := Blk.new w 25 #[.slice none 0 0, .slice none 0 0]
  obtain ⟨w1, hw1⟩ : ∃ w1, w.alloc (.cells #[.slice none 0 0, .slice none 0 0] 25) = w1 := ⟨_, rfl⟩
  rw [hw1] at hb0 X0
  have hz1 : w1.heap.size = w.heap.size + 1 := by rw [← hw1]; simp
  have hb1 := below1 w1 (.cells #[.slice none 0 0, .slice none 0 0] 25)
  have X1 := Blk.new w1 25 #[.slice none 0 0, .slice none 0 0]
  obtain ⟨w2, hw2⟩ : ∃ w2, w1.alloc (.cells #[.slice none 0 0, .slice none 0 0] 25) = w2 := ⟨_, rfl⟩
  rw [hw2] at hb1 X1
  have hz2 : w2.heap.size = w.heap.size + 2 := by rw [← hw2]; simp [hz1]
  go_enter Tryz.func9, Tryz.ntmps9
  go_wp2_with fail
  refine (newReader_any s w2).mono ?_; rintro e w3 ⟨rfl, hr3, hb3, hlt3⟩
  rw [hz2] at hr3 hlt3 ⊢
  have HR3 := Lib.hid hr3
  have HC3 : Hid (CG w1 (w.heap.size + 1) (w.heap.size + 3) w3.heap.size w3.heap.size (.slice none 0 0) (.slice none 0 0) [] [] w3) := Lib.hid ⟨by have := X1.below hb3; rw [hz1] at this; exact this, ⟨rfl, .inl ⟨rfl, rfl⟩⟩, fun g hg => by simp [Value.ownBlock] at hg, OwnIn.nil, ⟨rfl, .inl ⟨rfl, rfl⟩⟩, OwnIn.nil, by omega, by omega, by omega, Nat.le_refl _, Nat.le_refl _, belowThen hb1 hb3⟩
  have X0 := Lib.hid X0; have HB0 := Lib.hid hb0
  clear hr3 hb3 hb1 hb0 X1 hw1 hw2
  have NO : ∀ (W : World) (mid hi : Nat) (vc vg : Value) (rc rg : List Rf), CG w1 (w.heap.size + 1) (w.heap.size + 3) mid hi vc vg rc rg W → (∀ xs ys, changeB xs ys = true → s.data.toList ≠ chL xs ys) → GetCPost s.data.toList w (.returned (.tuple #[.agg #[.slice none 0 0, .slice none 0 0], .bool false])) ((W.setCell ⟨w.heap.size, 0, none⟩ (.slice none 0 0)).setCell ⟨w.heap.size, 1, none⟩ (.slice none 0 0)) := by
    intro W mid hi vc vg rc rg hC hno
    have hg := hC.gr
    have hgs := hg.size
    have hb : Below w.heap.size w W := belowThen HB0.out hg
    have hb2 := (hb.setCell (p := ⟨w.heap.size, 0, none⟩) (Nat.le_refl _) (.slice none 0 0)).setCell (p := ⟨w.heap.size, 1, none⟩) (Nat.le_refl _) (.slice none 0 0)
    exact ⟨none, 0, [], none, 0, [], w.heap.size, false, rfl, noRefs, noRefs, ⟨Nat.le_refl _, hb2.size⟩, hb2, (fun h => by cases h), fun _ => ⟨rfl, rfl, hno⟩⟩
  have HNO := Lib.hid NO; clear NO
  have hR1 : 0 ≠ w.heap.size + 2 := by have : 0 < w.heap.size := hel; omega
  have hR2 : 1 ≠ w.heap.size + 2 := by have : 1 < w.heap.size := hml; omega
  have hE1 := hE.below HB0.out; have hm1 := hm.below HB0.out
  clear hE hm hml hel
  go_wp2_with fail
  go_loopw [] (fun wr => ∃ (i mid hi : Nat) (vc vg : Value) (rc rg : List Rf), Rdr wr (w.heap.size + 2) s i ∧ CG w1 (w.heap.size + 1) (w.heap.size + 3) mid hi vc vg rc rg wr ∧ CAt s i rc rg ∧ (rc = [] → vc = .slice none 0 0)) (fun wr => match wr.cell? ⟨w.heap.size + 2, 1, none⟩ with | some (.int _ j) => s.size - j.toNat | _ => 0)
  case atStart => exact ⟨0, _, _, _, _, [], [], HR3.out, HC3.out, CAt.start s, fun _ => rfl⟩
  case round =>
    obtain ⟨i, mid, hi, vc, vg, rc, rg, hr, hC, hA, hv⟩ := hrel
    clear HR3 HC3
    have HR := Lib.hid hr; have HC := Lib.hid hC.raise; have HA := Lib.hid hA; have HV := Lib.hid hv
    have hli := hA.li; have hln := hA.ln
    have hEr := hE1.below hC.gr; have hmr := hm1.below hC.gr
    have y1 : wr.cell? ⟨w.heap.size + 2, 1, none⟩ = some (.int .i64 (i : Int)) := by obtain ⟨p, hr⟩ := hr; exact hr.cell 1
    clear hr hC hA hv
    go_wp2_with fail
    refine (rdLen_any (w.heap.size + 2) i s wr HR.out hli hs).mono ?_; rintro e w4 ⟨rfl, hb4⟩
    have HR4 := Lib.hid (HR.out.below hb4); have HC4 := Lib.hid (HC.out.below hb4).raise
    have hE4 := hEr.below hb4; have hm4 := hmr.below hb4
    clear hb4 HR HC hEr hmr
    by_cases hlt : i < s.size
    · have hltI : (0 : Int) < ((s.size - i : Nat) : Int) := by omega
      go_wp2_with fail
      refine (signed_any (w.heap.size + 2) i s w4 HR4.out hli hs hE4 hR1 hm4 hR2).mono ?_; rintro e w5 ⟨x, r, ok, j, rfl, hj, hr5, hH5, hg5, hok, hno⟩
      unfold rfVal
      have hbx := below1 w5 (.cells #[.string r.1, .slice r.2.1 r.2.2.1 r.2.2.2.1] 51)
      have HC6 := (HC4.out.step hg5 (by omega) (by omega) (by omega)).below hbx
      have HR6 := hr5.below hbx
      have B6 := Blk.new w5 51 #[.string r.1, .slice r.2.1 r.2.2.1 r.2.2.2.1]
      have H6 : HeadApart (w5.alloc (.cells #[.string r.1, .slice r.2.1 r.2.2.1 r.2.2.2.1] 51)) w4.heap.size (w5.alloc (.cells #[.string r.1, .slice r.2.1 r.2.2.1 r.2.2.2.1] 51)).heap.size r := hH5.keep (fun b _ h2 => hbx.block b h2) (Nat.le_refl _) hbx.size
      obtain ⟨W6, hW6⟩ : ∃ W6, w5.alloc (.cells #[.string r.1, .slice r.2.1 r.2.2.1 r.2.2.2.1] 51) = W6 := ⟨_, rfl⟩
      rw [hW6] at HC6 HR6 B6 H6
      have b0 : W6.cell? ⟨w5.heap.size, 0, none⟩ = some (.string r.1) := B6.cell 0
      have b1 : W6.cell? ⟨w5.heap.size, 1, none⟩ = some (.slice r.2.1 r.2.2.1 r.2.2.2.1) := B6.cell 1
      obtain ⟨A, c, B, d, ea, eb, _, _⟩ := HC6.own
      subst ea; subst eb
      have c0 : W6.cell? ⟨w.heap.size + 1, 0, none⟩ = some (.slice A rc.length c) := HC6.C.cell 0
      have c1 : W6.cell? ⟨w.heap.size + 1, 1, none⟩ = some (.slice B rg.length d) := HC6.C.cell 1
      have X6 := X0.out.below HC6.gr
      have a0 : W6.cell? ⟨w.heap.size, 0, none⟩ = some (.slice none 0 0) := X6.cell 0
      have a1 : W6.cell? ⟨w.heap.size, 1, none⟩ = some (.slice none 0 0) := X6.cell 1
      have f0 := X6.frozen 0; have f1 := X6.frozen 1
      have HCB := Lib.hid (HC6.C.alloc (.cells #[.string r.1, .slice r.2.1 r.2.2.1 r.2.2.2.1] 51))
      have hz6 := HC6.h3; have hz6a := HC6.h1; have hz6b := HC6.h2
      have HC := Lib.hid HC6; have HR := Lib.hid HR6; have H := Lib.hid H6; have HOK := Lib.hid hok; have HN := Lib.hid hno; have HW := Lib.hid hW6
      clear HC6 HR6 H6 hok hno hW6 B6 X6 hbx hr5 hH5 hg5 HR4 HC4 hE4 hm4
      by_cases hA1 : ok = true ∧ x = 45 ∧ rc = []
      · obtain ⟨rfl, rfl, rfl⟩ := hA1
        obtain ⟨p, post, h1, h2, h3, rfl⟩ := HOK.out rfl
        have hv := HV.out rfl
        injection hv with e1 _ e2
        subst e1; subst e2
        have HRW := Lib.hid HC.out.G
        have H1 := Lib.hid h1; have H3 := Lib.hid h3
        clear HV h1 h2 h3 HOK HN
        have hwx := HW.out
        go_wp2_with (at_builtin; refine wpList_append_own _ rfl _ _ 23 rfl (w.heap.size + 3) 51 i0 _ 2 40 Tryz.underlying23 HI.out HZ.out HSZ.out HYY.out rfl (by decide) _ _ _ rfl (HRW.out.alloc _) ⟨W6.heap.size, 0, none⟩ 1 1 [.string r.1, .slice r.2.1 r.2.2.1 r.2.2.2.1] rfl rfl (two_new _ _ _ _) (by simp [Value.oneCell']) (by unfold maxLen; omega) (by omega) (by simp; omega) ?_; intro v' w9 hown' hgrow' _; have X9 := Blk.kept HCB.out hgrow' (CG.box_far (HRW.out.alloc _) HCB.out); have q2 := X9.cell 1; have q2' := X9.frozen 1; obtain ⟨g', cap', rfl⟩ := ownsRow_succ hown'; have hown := Lib.hid hown'; have hgrow := Lib.hid hgrow'; clear hown' hgrow' X9)
        have hM := HC.out.goes H.out hown.out hgrow.out
        have hR9 := HR.out.turned (cb := w.heap.size + 1) (c := 1) (u := .slice (some ⟨g', 0, none⟩) (rg.length + 1) cap') HRW.out (by omega) hgrow.out (by omega)
        have y9 : (w9.setCell ⟨w.heap.size + 1, 1, none⟩ (.slice (some ⟨g', 0, none⟩) (rg.length + 1) cap')).cell? ⟨w.heap.size + 2, 1, none⟩ = some (.int .i64 ((i + p.length + 2 : Nat) : Int)) := by obtain ⟨p', hr⟩ := hR9; exact hr.cell 1
        go_roundw
        case rel => exact ⟨_, _, _, _, _, [], rg ++ [r], hR9, hM, HA.out.goes H1.out H3.out hj, fun _ => rfl⟩
        case measure =>
          rw [y9, y1]
          show s.size - ((i + p.length + 2 : Nat) : Int).toNat < s.size - ((i : Nat) : Int).toNat
          omega
      · by_cases hB1 : ok = true ∧ x = 43
        · obtain ⟨rfl, rfl⟩ := hB1
          obtain ⟨p, post, h1, h2, h3, rfl⟩ := HOK.out rfl
          have HRW := Lib.hid HC.out.K
          have H1 := Lib.hid h1; have H3 := Lib.hid h3
          clear HV h1 h2 h3 HOK HN hA1
          have hwx := HW.out
          go_wp2_with (at_builtin; refine wpList_append_own _ rfl _ _ 23 rfl mid 51 i0 _ 2 40 Tryz.underlying23 HI.out HZ.out HSZ.out HYY.out rfl (by decide) _ _ _ rfl (HRW.out.alloc _) ⟨W6.heap.size, 0, none⟩ 1 1 [.string r.1, .slice r.2.1 r.2.2.1 r.2.2.2.1] rfl rfl (two_new _ _ _ _) (by simp [Value.oneCell']) (by unfold maxLen; omega) (by omega) (by simp; omega) ?_; intro v' w9 hown' hgrow' _; have X9 := Blk.kept HCB.out hgrow' (CG.box_far (HRW.out.alloc _) HCB.out); have q2 := X9.cell 0; have q2' := X9.frozen 0; obtain ⟨g', cap', rfl⟩ := ownsRow_succ hown'; have hown := Lib.hid hown'; have hgrow := Lib.hid hgrow'; clear hown' hgrow' X9)
          have hM := HC.out.comes H.out hown.out hgrow.out
          have hR9 := HR.out.turned (cb := w.heap.size + 1) (c := 0) (u := .slice (some ⟨g', 0, none⟩) (rc.length + 1) cap') HRW.out (by omega) hgrow.out (by omega)
          have y9 : (w9.setCell ⟨w.heap.size + 1, 0, none⟩ (.slice (some ⟨g', 0, none⟩) (rc.length + 1) cap')).cell? ⟨w.heap.size + 2, 1, none⟩ = some (.int .i64 ((i + p.length + 2 : Nat) : Int)) := by obtain ⟨p', hr⟩ := hR9; exact hr.cell 1
          go_roundw
          case rel => exact ⟨_, _, _, _, _, rc ++ [r], rg, hR9, hM, HA.out.comes H1.out H3.out hj, fun h => absurd h (by simp)⟩
          case measure =>
            rw [y9, y1]
            show s.size - ((i + p.length + 2 : Nat) : Int).toNat < s.size - ((i : Nat) : Int).toNat
            omega
        · have hnone := HA.out.none hlt (fun y p post a h1 h2 h3 => by
            cases ok with
            | false => rw [HN.out rfl y p post h1 h2] at h3; cases h3
            | true =>
              obtain ⟨p', post', k1, k2, k3, _⟩ := HOK.out rfl
              obtain ⟨k4, _⟩ := mark_first (k1.symm.trans h1) k2 h2
              injection k4 with k4 _
              subst k4
              exact ⟨fun ⟨e1, e2⟩ => hA1 ⟨rfl, e1, e2⟩, fun e1 => hB1 ⟨rfl, e1⟩⟩)
          have HNN := Lib.hid hnone
          have hwx := HW.out
          clear hnone HOK HN HV
          cases ok with
          | false =>
            go_wp2
            exact bodyPost_ret (v := .tuple #[.agg #[.slice none 0 0, .slice none 0 0], .bool false]) (by simp [results, Tryz.results9, go_sem, a0, a1]) rfl (HNO.out W6 _ _ _ _ _ _ HC.out HNN.out)
          | true =>
            have h43 : ¬ (x.toNat : Int) = 43 := fun e => hB1 ⟨rfl, UInt8.toNat_inj.1 (show x.toNat = (43 : UInt8).toNat by show x.toNat = 43; omega)⟩
            by_cases h45 : x = 45
            · subst h45
              have hnr : ¬ (rc.length : Int) = 0 := fun e => hA1 ⟨rfl, rfl, List.eq_nil_of_length_eq_zero (by omega)⟩
              go_wp2
              exact bodyPost_ret (v := .tuple #[.agg #[.slice none 0 0, .slice none 0 0], .bool false]) (by simp [results, Tryz.results9, go_sem, a0, a1]) rfl (HNO.out W6 _ _ _ _ _ _ HC.out HNN.out)
            · have h45I : ¬ (x.toNat : Int) = 45 := fun e => h45 (UInt8.toNat_inj.1 (show x.toNat = (45 : UInt8).toNat by show x.toNat = 45; omega))
              go_wp2
              exact bodyPost_ret (v := .tuple #[.agg #[.slice none 0 0, .slice none 0 0], .bool false]) (by simp [results, Tryz.results9, go_sem, a0, a1]) rfl (HNO.out W6 _ _ _ _ _ _ HC.out HNN.out)
    · have hltI : ¬ (0 : Int) < ((s.size - i : Nat) : Int) := by omega
      obtain ⟨A, c, B, d, ea, eb, oa, og⟩ := HC4.out.own
      subst ea; subst eb
      have c0 : w4.cell? ⟨w.heap.size + 1, 0, none⟩ = some (.slice A rc.length c) := HC4.out.C.cell 0
      have c1 : w4.cell? ⟨w.heap.size + 1, 1, none⟩ = some (.slice B rg.length d) := HC4.out.C.cell 1
      have IA := Lib.hid (oa.atoms.keep (w' := w4) (lo' := 0) (hi' := w4.heap.size) AtomE.stays (fun _ _ _ => rfl) (Nat.zero_le _) (Nat.le_refl _))
      have IG := Lib.hid (og.atoms.keep (w' := w4) (lo' := 0) (hi' := w4.heap.size) AtomE.stays (fun _ _ _ => rfl) (Nat.zero_le _) (Nat.le_trans HC4.out.h2 HC4.out.h3))
      have OA := Lib.hid oa; have OG := Lib.hid og
      have hall := HA.out.all hlt
      clear oa og
      go_wp2_with fail
      refine (implChangeOk_any A B rc.length c rg.length d (rc.map rAt) (rg.map rAt) w4 IA.out IG.out).mono ?_; rintro e w7 ⟨rfl, hb7⟩
      have HC7 := Lib.hid (HC4.out.below hb7)
      have X7 := X0.out.below HC7.out.gr
      have a0 : w7.cell? ⟨w.heap.size, 0, none⟩ = some (.slice none 0 0) := X7.cell 0
      have a1 : w7.cell? ⟨w.heap.size, 1, none⟩ = some (.slice none 0 0) := X7.cell 1
      have f0 := X7.frozen 0; have f1 := X7.frozen 1
      have d0 : w7.cell? ⟨w.heap.size + 1, 0, none⟩ = some (.slice A rc.length c) := HC7.out.C.cell 0
      have d1 : w7.cell? ⟨w.heap.size + 1, 1, none⟩ = some (.slice B rg.length d) := HC7.out.C.cell 1
      clear hb7 X7 c0 c1 HC4
      cases hch : changeB (rc.map rAt) (rg.map rAt)
      · have hnone : ∀ xs ys, changeB xs ys = true → s.data.toList ≠ chL xs ys := fun xs ys h he => by
          obtain ⟨e1, e2⟩ := chL_uniq HA.out.ac HA.out.ag h (hall.symm.trans he)
          rw [e1, e2, h] at hch; cases hch
        have HNN := Lib.hid hnone
        clear hnone
        go_wp2
        exact bodyPost_ret (v := .tuple #[.agg #[.slice none 0 0, .slice none 0 0], .bool false]) (by simp [results, Tryz.results9, go_sem, a0, a1]) rfl (HNO.out w7 _ _ _ _ _ _ HC7.out HNN.out)
      · obtain ⟨A', c', B', d', ea, eb, oa, og⟩ := HC7.out.own
        injection ea with e1 _ e2
        injection eb with e3 _ e4
        subst e1; subst e2; subst e3; subst e4
        have k0 := HC7.out.h0; have k1 := HC7.out.h1; have k2 := HC7.out.h2; have k3 := HC7.out.h3
        have OA7 := Lib.hid oa; have OG7 := Lib.hid og
        have HB7 := Lib.hid (belowThen HB0.out HC7.out.gr)
        clear oa og
        go_wp2
        refine bodyPost_ret (v := .tuple #[.agg #[.slice A rc.length c, .slice B rg.length d], .bool true]) (by simp [results, Tryz.results9, go_sem, a0, a1]) rfl ⟨A, c, rc, B, d, rg, mid, true, rfl, ?_, ?_, ⟨by omega, by simp only [size_setCell]; omega⟩, (HB7.out.setCell (Nat.le_refl _) _).setCell (Nat.le_refl _) _, fun _ => ⟨hch, hall⟩, (fun h => by cases h)⟩
        · exact OA7.out.keep (fun b a1 _ => (Below.heap_setCell _ _ _ b (by show b ≠ w.heap.size; omega)).trans (Below.heap_setCell _ _ _ b (by show b ≠ w.heap.size; omega))) (Nat.le_refl _) (by simp only [size_setCell]; exact Nat.le_refl _)
        · exact OG7.out.keep (fun b a1 _ => (Below.heap_setCell _ _ _ b (by show b ≠ w.heap.size; omega)).trans (Below.heap_setCell _ _ _ b (by show b ≠ w.heap.size; omega))) (by omega) (Nat.le_refl _)

end Go.Proofs.YtogonjkklioaaaaGreatDoor

namespace Go.Proofs.YtogonjkklioaaaaGreatDoor
open Go.RowKit

/-- A change in the making, its rows in any order. -/
structure SG (w : World) (cb lo hi : Nat) (vc vg : Value) (rc rg : List Rf) (W : World) : Prop where
  C : Blk W cb 25 #[vc, vg]
  G : W.ownsRow lo 51 2 vg rg.length (rcells rg)
  K : W.ownsRow lo 51 2 vc rc.length (rcells rc)
  NE : ∀ g, vg.ownBlock = some g → vc.ownBlock ≠ some g
  GI : OwnIn W lo hi rg
  KI : OwnIn W lo hi rc
  hc : w.heap.size ≤ cb
  h0 : cb < lo
  h1 : lo ≤ hi
  h3 : hi ≤ W.heap.size
  gr : Below w.heap.size w W

section
variable {w : World} {cb lo hi : Nat} {vc vg : Value} {rc rg : List Rf} {W W' : World} {r : Rf} {ob : Obj} {W9 : World} {g' n cap : Nat}

theorem SG.raise (h : SG w cb lo hi vc vg rc rg W) : SG w cb lo W.heap.size vc vg rc rg W :=
  ⟨h.C, h.G, h.K, h.NE, h.GI.keep (fun _ _ _ => rfl) (Nat.le_refl _) h.h3, h.KI.keep (fun _ _ _ => rfl) (Nat.le_refl _) h.h3, h.hc, h.h0, Nat.le_trans h.h1 h.h3, Nat.le_refl _, h.gr⟩

theorem SG.below (h : SG w cb lo hi vc vg rc rg W) (hb : Below W.heap.size W W') : SG w cb lo hi vc vg rc rg W' := by
  have h3 := h.h3; have hbs := hb.size; have hs := h.gr.size
  exact ⟨h.C.below hb, ownsRow_up h.G hb, ownsRow_up h.K hb, h.NE, h.GI.keep (fun b _ a2 => hb.block b (by omega)) (Nat.le_refl _) (Nat.le_refl _), h.KI.keep (fun b _ a2 => hb.block b (by omega)) (Nat.le_refl _) (Nat.le_refl _),
    h.hc, h.h0, h.h1, Nat.le_trans h3 hbs, h.gr.trans (hb.mono hs)⟩

theorem SG.goes (h : SG w cb lo hi vc vg rc rg W) (hr : HeadApart W hi W.heap.size r)
    (hown : W9.ownsRow lo 51 2 (.slice (some ⟨g', 0, none⟩) n cap) (rg.length + 1) (rcells rg ++ [.string r.1, .slice r.2.1 r.2.2.1 r.2.2.2.1])) (hgrow : (W.alloc ob).grownBy W9 vg.ownBlock) (hat : vg.ownBlock = some g' ∨ g' = W.heap.size + 1) :
    SG w cb lo W9.heap.size vc (.slice (some ⟨g', 0, none⟩) n cap) rc (rg ++ [r]) (W9.setCell ⟨cb, 1, none⟩ (.slice (some ⟨g', 0, none⟩) n cap)) := by
  have h0 := h.h0; have h1 := h.h1; have h3 := h.h3; have hs := h.gr.size; have hc := h.hc
  have hb1 := below1 W ob
  have hgs := hgrow.size
  have hbs := hb1.size
  have hA := h.below hb1
  have far : ∀ g, vg.ownBlock = some g → lo ≤ g := fun g hg => (hA.G.lt g hg).1
  have i1 : OwnIn W lo W.heap.size (rg ++ [r]) := h.GI.snoc (fun _ _ _ => rfl) h3 hr.1 h1 hr.2.1 hr.2.2
  have i2 : OwnIn W9 lo W9.heap.size (rg ++ [r]) := (i1.keep (w' := W.alloc ob) (fun b _ a2 => hb1.block b a2) (Nat.le_refl _) hbs).appended hA.G hgrow hgs
  have j2 : OwnIn W9 lo W9.heap.size rc := (hA.KI.keep (fun _ _ _ => rfl) (Nat.le_refl _) hA.h3).appended hA.G hgrow hgs
  have c9 : Blk W9 cb 25 #[vc, vg] := hA.C.kept hgrow (CG.box_far hA.G hA.C)
  have hn9 := CG.box_far hown c9
  have kne : vc.ownBlock = none ∨ vc.ownBlock ≠ vg.ownBlock := by
    cases hv : vg.ownBlock with
    | none => cases hv2 : vc.ownBlock with
      | none => exact .inl rfl
      | some g => exact .inr (by simp)
    | some g => exact .inr (h.NE g hv)
  have k9 := hA.K.kept hgrow kne
  refine ⟨c9.set 1 _, ?_, row_away k9 (CG.box_far k9 c9) _, fun g hg hg2 => ?_, ?_, ?_, hc, h0, by omega, by rw [size_setCell]; exact Nat.le_refl _, ?_⟩
  · rw [List.length_append, rcells_snoc]; exact row_away hown hn9 _
  · simp [Value.ownBlock] at hg
    subst hg
    rcases hat with e | e
    · exact h.NE g' e hg2
    · have := (h.K.lt g' hg2).2; omega
  · exact i2.keep (fun b a1 _ => Below.heap_setCell _ _ _ b (by show b ≠ cb; omega)) (Nat.le_refl _) (Nat.le_refl _)
  · exact j2.keep (fun b a1 _ => Below.heap_setCell _ _ _ b (by show b ≠ cb; omega)) (Nat.le_refl _) (Nat.le_refl _)
  · refine Below.setCell ?_ hc _
    exact ⟨hgrow.os.trans hA.gr.os, hgrow.tape.trans hA.gr.tape, hgrow.output.trans hA.gr.output, by omega, fun k hk => (hgrow.block k (by omega) (fun e => by have := far k e.symm; omega)).trans (hA.gr.block k hk)⟩

theorem SG.comes (h : SG w cb lo hi vc vg rc rg W) (hr : HeadApart W hi W.heap.size r)
    (hown : W9.ownsRow lo 51 2 (.slice (some ⟨g', 0, none⟩) n cap) (rc.length + 1) (rcells rc ++ [.string r.1, .slice r.2.1 r.2.2.1 r.2.2.2.1])) (hgrow : (W.alloc ob).grownBy W9 vc.ownBlock) (hat : vc.ownBlock = some g' ∨ g' = W.heap.size + 1) :
    SG w cb lo W9.heap.size (.slice (some ⟨g', 0, none⟩) n cap) vg (rc ++ [r]) rg (W9.setCell ⟨cb, 0, none⟩ (.slice (some ⟨g', 0, none⟩) n cap)) := by
  have h0 := h.h0; have h1 := h.h1; have h3 := h.h3; have hs := h.gr.size; have hc := h.hc
  have hb1 := below1 W ob
  have hgs := hgrow.size
  have hbs := hb1.size
  have hA := h.below hb1
  have far : ∀ g, vc.ownBlock = some g → lo ≤ g := fun g hg => (hA.K.lt g hg).1
  have i1 : OwnIn W lo W.heap.size (rc ++ [r]) := h.KI.snoc (fun _ _ _ => rfl) h3 hr.1 h1 hr.2.1 hr.2.2
  have i2 : OwnIn W9 lo W9.heap.size (rc ++ [r]) := (i1.keep (w' := W.alloc ob) (fun b _ a2 => hb1.block b a2) (Nat.le_refl _) hbs).appended hA.K hgrow hgs
  have j2 : OwnIn W9 lo W9.heap.size rg := (hA.GI.keep (fun _ _ _ => rfl) (Nat.le_refl _) hA.h3).appended hA.K hgrow hgs
  have c9 : Blk W9 cb 25 #[vc, vg] := hA.C.kept hgrow (CG.box_far hA.K hA.C)
  have hn9 := CG.box_far hown c9
  have kne : vg.ownBlock = none ∨ vg.ownBlock ≠ vc.ownBlock := by
    cases hv : vg.ownBlock with
    | none => exact .inl rfl
    | some g => exact .inr (fun e => h.NE g hv e.symm)
  have k9 := hA.G.kept hgrow kne
  refine ⟨c9.set 0 _, row_away k9 (CG.box_far k9 c9) _, ?_, fun g hg hg2 => ?_, ?_, ?_, hc, h0, by omega, by rw [size_setCell]; exact Nat.le_refl _, ?_⟩
  · rw [List.length_append, rcells_snoc]; exact row_away hown hn9 _
  · simp [Value.ownBlock] at hg2
    subst hg2
    rcases hat with e | e
    · exact h.NE g' hg e
    · have := (h.G.lt g' hg).2; omega
  · exact j2.keep (fun b a1 _ => Below.heap_setCell _ _ _ b (by show b ≠ cb; omega)) (Nat.le_refl _) (Nat.le_refl _)
  · exact i2.keep (fun b a1 _ => Below.heap_setCell _ _ _ b (by show b ≠ cb; omega)) (Nat.le_refl _) (Nat.le_refl _)
  · refine Below.setCell ?_ hc _
    exact ⟨hgrow.os.trans hA.gr.os, hgrow.tape.trans hA.gr.tape, hgrow.output.trans hA.gr.output, by omega, fun k hk => (hgrow.block k (by omega) (fun e => by have := far k e.symm; omega)).trans (hA.gr.block k hk)⟩

theorem SG.tells (h : SG w cb lo hi vc vg rc rg W) : ∃ A c B d, vc = .slice A rc.length c ∧ vg = .slice B rg.length d ∧ IsAtoms W lo W.heap.size A rc.length c (rc.map rAt) ∧ IsAtoms W lo W.heap.size B rg.length d (rg.map rAt) := by
  obtain ⟨A, c, e1, o1⟩ := OwnRefs.of_row (lo := lo) h.K rfl (Nat.le_refl _) (h.KI.keep (fun _ _ _ => rfl) (Nat.le_refl _) h.h3) (Nat.le_refl _)
  obtain ⟨B, d, e2, o2⟩ := OwnRefs.of_row (lo := lo) h.G rfl (Nat.le_refl _) (h.GI.keep (fun _ _ _ => rfl) (Nat.le_refl _) h.h3) (Nat.le_refl _)
  exact ⟨A, c, B, d, e1, e2, o1.atoms, o2.atoms⟩
end

/-- A change is told that a text is of; or that it is of none. -/
def GetDPost (l : List UInt8) (w : World) (e : Ending) (w' : World) : Prop :=
  ∃ (A : Option Addr) (c n : Nat) (xs : List At) (B : Option Addr) (d m : Nat) (ys : List At) (ok : Bool), e = .returned (.tuple #[.agg #[.slice A n c, .slice B m d], .bool ok]) ∧
    IsAtoms w' 0 w'.heap.size A n c xs ∧ IsAtoms w' 0 w'.heap.size B m d ys ∧ Below w.heap.size w w' ∧
    (ok = true → changeB xs ys = true ∧ l = chL xs ys) ∧ (ok = false → xs = [] ∧ ys = [] ∧ ∀ us vs, changeB us vs = true → l ≠ chL us vs)

theorem cuts_free (c : UInt8) : ∀ (n : Nat) (l : List UInt8), l.length ≤ n → ∀ x ∈ cuts c l, c ∉ x
  | n, l, hn => by
    rcases first_of c l with h | ⟨x, r, rfl, h⟩
    · rw [cuts_none h]; intro y hy; rw [List.mem_singleton.1 hy]; exact h
    · rw [cuts_first h]; intro y hy
      rcases List.mem_cons.1 hy with rfl | hy
      · exact h
      · cases n with
        | zero => simp at hn
        | succ n => exact cuts_free c n r (by simp at hn; omega) y hy

theorem join_on {x y : List UInt8} {r : List (List UInt8)} : Lib.join (x :: y :: r) [32] = x ++ 32 :: Lib.join (y :: r) [32] := by
  rw [Lib.join_cons, joinTail_cons, Lib.join_cons]; simp

theorem join_signed : ∀ (T : List Sg) (r : List (List UInt8)), r ≠ [] → Lib.join (T.map (fun z => z.1 :: textL z.2) ++ r) [32] = encS T ++ Lib.join r [32]
  | [], r, _ => by simp [encS]
  | z :: T, r, hr => by
    have ih := join_signed T r hr
    rw [encS_cons, List.map_cons, List.cons_append]
    cases hm : T.map (fun z => z.1 :: textL z.2) ++ r with
    | nil => simp at hm; exact absurd hm.2 hr
    | cons y q => rw [join_on, ← hm, ih]; simp

/-- Where the model's reading stands: k words are signs and atoms. -/
structure SAt (ws : List (List UInt8)) (k : Nat) (T : List Sg) (cs gs : List At) : Prop where
  len : T.length = k
  at_ : ∀ z ∈ T, atomB z.2 = true
  wd : ws.take k = T.map fun z => z.1 :: textL z.2
  ec : cs = T.filterMap fun z => if z.1 = 45 then none else some z.2
  eg : gs = T.filterMap fun z => if z.1 = 45 then some z.2 else none

section
variable {ws : List (List UInt8)} {k : Nat} {T : List Sg} {cs gs : List At} {l : List UInt8}

theorem SAt.start (ws : List (List UInt8)) : SAt ws 0 [] [] [] := ⟨rfl, fun z h => by simp at h, by simp, rfl, rfl⟩

theorem SAt.text (h : SAt ws k T cs gs) (hl : cuts 32 l = ws) (hk : k < ws.length) : l = encS T ++ Lib.join (ws.drop k) [32] := by
  have h1 := cuts_join 32 l
  rw [hl, ← List.take_append_drop k ws, h.wd, join_signed _ _ (fun e => by have := congrArg List.length e; simp at this; omega)] at h1
  exact h1.symm

theorem SAt.goes {p : List UInt8} {a : At} (h : SAt ws k T cs gs) (hw : ws[k]? = some (45 :: p)) (hg : getB p = some a) : SAt ws (k + 1) (T ++ [(45, a)]) cs (gs ++ [a]) := by
  obtain ⟨h1, h2, _⟩ := getB_some hg
  refine ⟨by rw [List.length_append, h.len]; rfl, fun z hz => ?_, by rw [List.take_add_one, hw, h.wd, List.map_append]; simp [h2], by rw [List.filterMap_append, ← h.ec]; simp, by rw [List.filterMap_append, ← h.eg]; simp⟩
  rcases List.mem_append.1 hz with hz | hz
  · exact h.at_ z hz
  · rw [List.mem_singleton.1 hz]; exact h1

theorem SAt.comes {p : List UInt8} {a : At} {x : UInt8} (h : SAt ws k T cs gs) (hx : x ≠ 45) (hw : ws[k]? = some (x :: p)) (hg : getB p = some a) : SAt ws (k + 1) (T ++ [(x, a)]) (cs ++ [a]) gs := by
  obtain ⟨h1, h2, _⟩ := getB_some hg
  refine ⟨by rw [List.length_append, h.len]; rfl, fun z hz => ?_, by rw [List.take_add_one, hw, h.wd, List.map_append]; simp [h2], by rw [List.filterMap_append, ← h.ec]; simp [hx], by rw [List.filterMap_append, ← h.eg]; simp [hx]⟩
  rcases List.mem_append.1 hz with hz | hz
  · exact h.at_ z hz
  · rw [List.mem_singleton.1 hz]; exact h1

/-- A word that is no sign with an atom: there is no change. -/
theorem SAt.none {x : List UInt8} (h : SAt ws k T cs gs) (hl : cuts 32 l = ws) (hk : k + 1 < ws.length) (hw : ws[k]? = some x) (hx : (32 : UInt8) ∉ x) (hno : ∀ y p, x = y :: p → getB p = none) (us vs : List At) (hch : changeB us vs = true) : l ≠ chL us vs := by
  intro he
  obtain ⟨_, _, a1, a2⟩ := change_put hch
  have ht := h.text hl (by omega)
  rw [he, ← encS_sgs] at ht
  obtain ⟨V, h1, h2⟩ := encS_prefix (sgs_atoms a1 a2) h.at_ ht
  obtain ⟨hk0, hkx⟩ := List.getElem?_eq_some_iff.1 hw
  have hd : ws.drop k = x :: ws[k + 1] :: ws.drop (k + 2) := by
    rw [List.drop_eq_getElem_cons hk0, hkx, List.drop_eq_getElem_cons hk]
  rw [hd, join_on] at h2
  cases V with
  | nil => simp [encS] at h2
  | cons z V =>
    rw [encS_cons] at h2
    have hz := sgs_atoms a1 a2 z (by rw [h1]; simp)
    have hz4 : z.1 ≠ 32 := by
      have hz : z ∈ sgs us vs := by rw [h1]; simp
      unfold sgs at hz
      rcases List.mem_append.1 hz with hz | hz
      · obtain ⟨a, _, rfl⟩ := List.mem_map.1 hz; exact (show (45 : UInt8) ≠ 32 by decide)
      · obtain ⟨a, _, rfl⟩ := List.mem_map.1 hz; exact (show (43 : UInt8) ≠ 32 by decide)
    have h32 : (32 : UInt8) ∉ z.1 :: textL z.2 := fun hm => by
      rcases List.mem_cons.1 hm with hm | hm
      · exact hz4 hm.symm
      · exact text_no_blank hz hm
    obtain ⟨h3, _⟩ := mark_first (a := x) (b := z.1 :: textL z.2) (by rw [h2]; rfl) hx h32
    have h4 := hno z.1 (textL z.2) h3
    rw [getB_text hz] at h4
    cases h4

/-- All words but the last are read. -/
theorem SAt.all (h : SAt ws k T cs gs) (hl : cuts 32 l = ws) (hk : k + 1 = ws.length) (hb : ∀ x ∈ ws, (32 : UInt8) ∉ x) :
    (chB cs gs = l → changeB cs gs = true ∧ l = chL cs gs) ∧ (chB cs gs ≠ l → ∀ us vs, changeB us vs = true → l ≠ chL us vs) := by
  have ht := h.text hl (by omega)
  have hk0 : k < ws.length := by omega
  have hd : ws.drop k = [ws[k]] := by
    rw [List.drop_eq_getElem_cons hk0, List.drop_of_length_le (by omega)]
  rw [hd, Lib.join_cons] at ht
  rw [show Lib.joinTail [32] ([] : List (List UInt8)) = [] from rfl, List.append_nil] at ht
  have hlast := hb ws[k] (List.getElem_mem hk0)
  refine ⟨fun he => ?_, fun hne us vs hch he => ?_⟩
  · cases hc : changeB cs gs
    · exfalso
      unfold chB at he
      rw [hc, if_neg (by simp)] at he
      subst he
      have h1 : ws = [[]] := by rw [← hl]; exact cuts_none (by simp)
      have h2 : T = [] := List.eq_nil_of_length_eq_zero (by rw [h.len]; rw [h1] at hk; simp at hk; exact hk)
      rw [h.ec, h.eg, h2] at hc
      revert hc
      decide
    · unfold chB at he
      rw [hc, if_pos rfl] at he
      exact ⟨rfl, he.symm⟩
  · obtain ⟨_, _, a1, a2⟩ := change_put hch
    rw [he, ← encS_sgs] at ht
    obtain ⟨V, h1, h2⟩ := encS_prefix (sgs_atoms a1 a2) h.at_ ht
    cases V with
    | cons z V => rw [h2, encS_cons] at hlast; exact hlast (by simp)
    | nil =>
      rw [List.append_nil] at h1
      have e1 : cs = us := by rw [h.ec, ← h1]; unfold sgs; simp [List.filterMap_append, List.filterMap_map, Function.comp_def]
      have e2 : gs = vs := by rw [h.eg, ← h1]; unfold sgs; simp [List.filterMap_append, List.filterMap_map, Function.comp_def]
      apply hne
      rw [e1, e2, he]
      unfold chB
      rw [if_pos hch]
end

end Go.Proofs.YtogonjkklioaaaaGreatDoor
