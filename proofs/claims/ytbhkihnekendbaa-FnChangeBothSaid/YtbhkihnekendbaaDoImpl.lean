/-
  Facts behind a change: in the program. (Written by tools/doimpl.py.)
-/
import Derived.Test.YtbhkihnekendbaaDo
namespace Go.Proofs.Ytbhkihnekendbaa
open Go.RowKit
attribute [local go_sem] run_store_func

theorem done_not {p : List At × Bool} {w w' : World} (hp : p = ([], false)) (hb : Below w.heap.size w w') : OwnBPost p w (.returned (.tuple #[.slice none 0 0, .bool false])) w' := by
  subst hp
  exact ⟨none, 0, [], rfl, OwnRefs.none, rfl, hb⟩

set_option maxRecDepth 100000 in
set_option maxHeartbeats 8000000 in
theorem changeDone_any (A : Option Addr) (n c : Nat) (xs : List At) (B : Option Addr) (m d : Nat) (cs : List At) (D : Option Addr) (m' d' : Nat) (gs : List At) (w : World) (h : IsAtoms w 0 w.heap.size A n c xs) (h1 : IsAtoms w 0 w.heap.size B m d cs) (h2 : IsAtoms w 0 w.heap.size D m' d' gs) :
    Calls Try.prog 88 #[.slice A n c, .agg #[.slice B m d, .slice D m' d']] w (OwnBPost (doneL xs cs gs) w) := by
  have H := Lib.hid h; have H1 := Lib.hid h1; have H2 := Lib.hid h2; clear h h1 h2
  have hw1 := below1 w (.cells #[.slice B m d, .slice D m' d'] 38)
  have B1 := Blk.new w 38 #[.slice B m d, .slice D m' d']
  go_enter Try.func88, Try.ntmps88
  go_wp2_with fail
  refine (implFactsOk_any A n c xs _ (H.out.up AtomE.stays hw1)).mono ?_; rintro e w2 ⟨rfl, hb2⟩
  have HB2 := belowThen hw1 hb2
  have B2 := B1.below hb2
  have b0 : w2.cell? ⟨w.heap.size, 0, none⟩ = some (.slice B m d) := B2.cell 0
  have b1 : w2.cell? ⟨w.heap.size, 1, none⟩ = some (.slice D m' d') := B2.cell 1
  by_cases hx : (!factsB 300 xs) = true
  · have E := Lib.hid (doneL_no1 (cs := cs) (gs := gs) hx)
    go_wp2
    go_ret2; exact done_not E.out HB2
  · have hx' : (!factsB 300 xs) = false := by simpa using hx
    clear hx
    go_wp2_with fail
    refine (implChangeOk_any B D m d m' d' cs gs _ (H1.out.up AtomE.stays HB2) (H2.out.up AtomE.stays HB2)).mono ?_; rintro e w3 ⟨rfl, hb3⟩
    have HB3 := belowThen HB2 hb3
    have B3 := B2.below hb3
    clear b0 b1
    have b0 : w3.cell? ⟨w.heap.size, 0, none⟩ = some (.slice B m d) := B3.cell 0
    have b1 : w3.cell? ⟨w.heap.size, 1, none⟩ = some (.slice D m' d') := B3.cell 1
    by_cases hy : (!changeB cs gs) = true
    · have E := Lib.hid (doneL_no2 (xs := xs) hy)
      go_wp2
      go_ret2; exact done_not E.out HB3
    · have hy' : (!changeB cs gs) = false := by simpa using hy
      clear hy
      obtain ⟨fc, fg⟩ := changeB_parts hy'
      have fx : factsB 300 xs = true := by simpa using hx'
      go_wp2_with fail
      have X7 : Blk w3.drew w.heap.size 38 #[.slice B m d, .slice D m' d'] := B3
      have HB7 := HB3.drew
      obtain ⟨V7, hV7⟩ : ∃ X, w3.drew = X := ⟨_, rfl⟩
      rw [hV7] at X7 HB7
      clear B1 B2 B3 hb2 hb3 hw1 HB2 HB3 b0 b1
      obtain ⟨ra, R1, ea⟩ := refs_of H.out; obtain ⟨rc, R2, ec⟩ := refs_of H1.out; obtain ⟨rg, R3, eg⟩ := refs_of H2.out
      have la : ra.length ≤ 300 := by rw [show ra.length = xs.length by rw [← ea]; simp]; exact factsB_len fx
      have lc : rc.length ≤ 300 := by rw [show rc.length = cs.length by rw [← ec]; simp]; exact factsB_len fc
      have lg : rg.length ≤ 300 := by rw [show rg.length = gs.length by rw [← eg]; simp]; exact factsB_len fg
      have RA := Lib.hid R1; have RC := Lib.hid R2; have RG := Lib.hid R3; clear R1 R2 R3
      obtain ⟨L1, hL1⟩ : ∃ z, selR 0 (mergeR ra rg) = z := ⟨_, rfl⟩
      have PD1 : L1.map rAt = lessL xs gs := by rw [← hL1, (sel_first ra rg (by rw [ea]; exact factsB_rises fx) (by rw [eg]; exact factsB_rises fg)).1, ← ea, ← eg]; unfold lessL; rw [List.filter_map]; rfl
      have ll : L1.length ≤ 300 := by rw [show L1.length = (lessL xs gs).length by rw [← PD1]; simp]; exact Nat.le_trans (less_le _ _) (factsB_len fx)
      obtain ⟨L2, hL2⟩ : ∃ z, allR (mergeR L1 rc) = z := ⟨_, rfl⟩
      have PD2 : L2.map rAt = doL xs cs gs := by
        have := merge_puts (ra := L1) (rb := rc) (by rw [PD1]; exact less_all (facts_all fx)) (by rw [ec]; exact facts_all fc) (by rw [PD1]; exact less_rises (factsB_rises fx)) (by rw [ec]; exact factsB_rises fc)
        rw [← hL2]; unfold allR; rw [List.map_map]; rw [PD1, ec] at this; exact this
      have LR1 := Lib.hid hL1; have LR2 := Lib.hid hL2; have HPD := Lib.hid PD2; clear hL1 hL2 PD1 PD2
      have hm1 : ra.length + rg.length ≤ 1099511627776 := by omega
      have hm2 : L1.length + rc.length ≤ 1099511627776 := by omega
      clear ea ec eg la lc lg ll
      refine wp_region_held_drew (S := fun W => W.cell? ⟨w.heap.size, 0, none⟩ = some (.slice B m d) ∧ W.cell? ⟨w.heap.size, 1, none⟩ = some (.slice D m' d')) (by kernel_rfl) (by rw [hV7]; exact ⟨X7.cell 0, X7.cell 1⟩) ?_
      rw [hV7]
      intro hS_
      refine takeV (i := 0) (v := .slice A n c) (by (simp only [List.getElem?_toArray, List.getElem?_cons_zero]); rfl) (by kernel_rfl) (by kernel_rfl) (by kernel_rfl) (by rfl) (fun _ _ _ h => h) (Or.inl ⟨by rfl, ?_⟩) hS_ (by (simp only [List.setIfInBounds_toArray, List.set_cons_succ, List.set_cons_zero]); rfl) ?_
      · intro w_ hSw_; (try dsimp only at hSw_); go_simp
      refine takeV (i := 2) (v := .pointer (some ⟨w.heap.size, 1, none⟩)) (by (simp only [List.getElem?_toArray, List.getElem?_cons_succ, List.getElem?_cons_zero]); rfl) (by kernel_rfl) (by kernel_rfl) (by kernel_rfl) (by rfl) (fun _ _ _ h => h) (Or.inl ⟨by rfl, ?_⟩) hS_ (by (simp only [List.setIfInBounds_toArray, List.set_cons_succ, List.set_cons_zero]); rfl) ?_
      · intro w_ hSw_; (try dsimp only at hSw_); go_simp
      refine takeV (i := 3) (v := .slice D m' d') (by (simp only [List.getElem?_toArray, List.getElem?_cons_succ, List.getElem?_cons_zero]); rfl) (by kernel_rfl) (by kernel_rfl) (by kernel_rfl) (by rfl) (fun _ _ _ h => h) (Or.inl ⟨by rfl, ?_⟩) hS_ (by (simp only [List.setIfInBounds_toArray, List.set_cons_succ, List.set_cons_zero]); rfl) ?_
      · intro w_ hSw_; (try dsimp only at hSw_); go_simp
      refine takeV (i := 6) (v := .pointer (some ⟨w.heap.size, 0, none⟩)) (by (simp only [List.getElem?_toArray, List.getElem?_cons_succ, List.getElem?_cons_zero]); rfl) (by kernel_rfl) (by kernel_rfl) (by kernel_rfl) (by rfl) (fun _ _ _ h => h) (Or.inl ⟨by rfl, ?_⟩) hS_ (by (simp only [List.setIfInBounds_toArray, List.set_cons_succ, List.set_cons_zero]); rfl) ?_
      · intro w_ hSw_; (try dsimp only at hSw_); go_simp
      refine takeV (i := 7) (v := .slice B m d) (by (simp only [List.getElem?_toArray, List.getElem?_cons_succ, List.getElem?_cons_zero]); rfl) (by kernel_rfl) (by kernel_rfl) (by kernel_rfl) (by rfl) (fun _ _ _ h => h) (Or.inl ⟨by rfl, ?_⟩) hS_ (by (simp only [List.setIfInBounds_toArray, List.set_cons_succ, List.set_cons_zero]); rfl) ?_
      · intro w_ hSw_; (try dsimp only at hSw_); go_simp
      refine wpAnyH_ready (rs := [1]) (by kernel_rfl) (by simp) ?_
      refine AllReadyH.cons (o := _) (by (simp only [List.getElem?_toArray, List.getElem?_cons_succ, List.getElem?_cons_zero]); rfl) (fun K_ hK_ => ?_) AllReadyH.nil
      rw [if_pos (by rfl)]
      go_simp
      go_at_call 72
      refine (factList_any A n c _).mono ?_; rintro e V8 ⟨rfl, hb⟩
      have HB8 := belowThen HB7 hb
      have X8 := X7.below hb
      unfold listV
      clear hb
      refine hK_.out _ _ ⟨X8.cell 0, X8.cell 1⟩ (fun hS2_ => ?_)
      clear hK_ hS_; have hS_ := hS2_; clear hS2_
      (try simp only [Act.put, List.setIfInBounds_toArray, List.set_cons_zero, List.set_cons_succ])
      refine wpAnyH_ready (rs := [4]) (by kernel_rfl) (by simp) ?_
      refine AllReadyH.cons (o := _) (by (simp only [List.getElem?_toArray, List.getElem?_cons_succ, List.getElem?_cons_zero]); rfl) (fun K_ hK_ => ?_) AllReadyH.nil
      rw [if_pos (by rfl)]
      go_simp
      go_at_call 72
      refine (factList_any D m' d' _).mono ?_; rintro e V9 ⟨rfl, hb⟩
      have HB9 := belowThen HB8 hb
      have X9 := X8.below hb
      unfold listV
      clear hb
      refine hK_.out _ _ ⟨X9.cell 0, X9.cell 1⟩ (fun hS2_ => ?_)
      clear hK_ hS_; have hS_ := hS2_; clear hS2_
      (try simp only [Act.put, List.setIfInBounds_toArray, List.set_cons_zero, List.set_cons_succ])
      refine wpAnyH_ready (rs := [5]) (by kernel_rfl) (by simp) ?_
      refine AllReadyH.cons (o := _) (by (simp only [List.getElem?_toArray, List.getElem?_cons_succ, List.getElem?_cons_zero]); rfl) (fun K_ hK_ => ?_) AllReadyH.nil
      rw [if_pos (by rfl)]
      go_simp
      go_at_call 84
      refine (without_any A D n c m' d' ra rg _ (RA.out.up RefE.stays HB9) (RG.out.up RefE.stays HB9) hm1).mono ?_; rintro e V10 ⟨A1, c1, rfl, hI, hb, -⟩
      have HB10 := belowThen HB9 hb
      have X10 := X9.below hb
      rw [LR1.out] at hI ⊢
      have I1 := Lib.hid hI
      clear hb hI
      refine hK_.out _ _ ⟨X10.cell 0, X10.cell 1⟩ (fun hS2_ => ?_)
      clear hK_ hS_; have hS_ := hS2_; clear hS2_
      (try simp only [Act.put, List.setIfInBounds_toArray, List.set_cons_zero, List.set_cons_succ])
      refine wpAnyH_ready (rs := [8]) (by kernel_rfl) (by simp) ?_
      refine AllReadyH.cons (o := _) (by (simp only [List.getElem?_toArray, List.getElem?_cons_succ, List.getElem?_cons_zero]); rfl) (fun K_ hK_ => ?_) AllReadyH.nil
      rw [if_pos (by rfl)]
      go_simp
      go_at_call 72
      refine (factList_any B m d _).mono ?_; rintro e V11 ⟨rfl, hb⟩
      have HB11 := belowThen HB10 hb
      have X11 := X10.below hb
      unfold listV
      have I2 := Lib.hid (I1.out.up RefE.stays hb)
      clear hb
      refine hK_.out _ _ ⟨X11.cell 0, X11.cell 1⟩ (fun hS2_ => ?_)
      clear hK_ hS_; have hS_ := hS2_; clear hS2_
      (try simp only [Act.put, List.setIfInBounds_toArray, List.set_cons_zero, List.set_cons_succ])
      refine wpAnyH_ready (rs := [9]) (by kernel_rfl) (by simp) ?_
      refine AllReadyH.cons (o := _) (by (simp only [List.getElem?_toArray, List.getElem?_cons_succ, List.getElem?_cons_zero]); rfl) (fun K_ hK_ => ?_) AllReadyH.nil
      rw [if_pos (by rfl)]
      go_simp
      go_at_call 75
      refine (with_any A1 B L1.length c1 m d L1 rc _ I2.out (RC.out.up RefE.stays HB11) hm2).mono ?_; rintro e V12 ⟨A2, c2, rfl, hI, hb, -⟩
      have HB12 := belowThen HB11 hb
      have X12 := X11.below hb
      rw [LR2.out] at hI ⊢
      have I3 := hI.atoms
      rw [HPD.out] at I3
      clear hb hI
      refine hK_.out _ _ ⟨X12.cell 0, X12.cell 1⟩ (fun hS2_ => ?_)
      clear hK_ hS_; have hS_ := hS2_; clear hS2_
      (try simp only [Act.put, List.setIfInBounds_toArray, List.set_cons_zero, List.set_cons_succ])
      refine takeV (i := 10) (v := .slice A2 L2.length c2) (by (simp only [List.getElem?_toArray, List.getElem?_cons_succ, List.getElem?_cons_zero]); rfl) (by kernel_rfl) (by kernel_rfl) (by kernel_rfl) (by rfl) (fun _ _ _ h => h) (Or.inl ⟨by rfl, ?_⟩) hS_ (by (simp only [List.setIfInBounds_toArray, List.set_cons_succ, List.set_cons_zero]); rfl) ?_
      · intro w_ hSw_; (try dsimp only at hSw_); go_simp; rw [field_items]; rfl
      refine takeV (i := 11) (v := .slice A2 L2.length c2) (by (simp only [List.getElem?_toArray, List.getElem?_cons_succ, List.getElem?_cons_zero]); rfl) (by kernel_rfl) (by kernel_rfl) (by kernel_rfl) (by rfl) (fun _ _ _ h => h) (Or.inl ⟨by rfl, ?_⟩) hS_ (by (simp only [List.setIfInBounds_toArray, List.set_cons_succ, List.set_cons_zero]); rfl) ?_
      · intro w_ hSw_; (try dsimp only at hSw_); go_simp
      refine wpAnyH_done (by kernel_rfl) ?_ _
      clear hS_
      obtain ⟨P, hP⟩ : ∃ z, doL xs cs gs = z := ⟨_, rfl⟩
      have EP := Lib.hid hP
      rw [hP] at I3 HPD; clear hP
      have I3h := Lib.hid I3
      have PL : L2.length = P.length := by rw [← HPD.out, List.length_map]
      obtain ⟨n2, hn2⟩ : ∃ z, L2.length = z := ⟨_, rfl⟩
      rw [hn2] at I3h PL ⊢; clear I3 hn2
      have PLh := Lib.hid PL; clear PL
      go_wp2_with fail
      refine (implFactsOk_any A2 n2 c2 P _ I3h.out).mono ?_; rintro e w5 ⟨rfl, hb5⟩
      have HB13 := belowThen HB12 hb5
      by_cases hq : (!factsB 300 P) = true
      · have E := Lib.hid (doneL_no3 (xs := xs) (cs := cs) (gs := gs) (by rw [EP.out]; exact hq))
        go_wp2
        go_ret2; exact done_not E.out HB13
      · have hq' : (!factsB 300 P) = false := by simpa using hq
        clear hq
        have E := Lib.hid (show doneL xs cs gs = (P, true) by rw [doneL_yes hx' hy' (by rw [EP.out]; exact hq'), EP.out])
        have SP := Lib.hid (facts_small (n := n2) (facts_all (show factsB 300 P = true by simpa using hq')) (by have := factsB_len (show factsB 300 P = true by simpa using hq'); have := PLh.out; omega))
        go_wp2_with fail
        refine (copyAtoms_any A2 n2 c2 P _ (I3h.out.up AtomE.stays hb5) SP.out).mono ?_; rintro e w6 ⟨A6, c6, rs6, rfl, ho6, hm6, hb6⟩
        have O6 := Lib.hid ho6; have M6 := Lib.hid hm6; clear ho6 hm6
        go_wp2
        go_ret2; exact own_copy E.out O6.out M6.out HB13.size (belowThen HB13 hb6)

set_option maxRecDepth 100000 in
set_option maxHeartbeats 2000000 in
theorem implChangeDo_any (A : Option Addr) (n c : Nat) (xs : List At) (B : Option Addr) (m d : Nat) (cs : List At) (D : Option Addr) (m' d' : Nat) (gs : List At) (w : World) (h : IsAtoms w 0 w.heap.size A n c xs) (h1 : IsAtoms w 0 w.heap.size B m d cs) (h2 : IsAtoms w 0 w.heap.size D m' d' gs) :
    Calls Try.prog 31 #[.slice A n c, .agg #[.slice B m d, .slice D m' d']] w (CopySPost (doneL xs cs gs).1 w) := by
  have H := Lib.hid h; have H1 := Lib.hid h1; have H2 := Lib.hid h2; clear h h1 h2
  have hw1 := below1 w (.cells #[.slice B m d, .slice D m' d'] 38)
  obtain ⟨P, q, hP⟩ : ∃ P q, doneL xs cs gs = (P, q) := ⟨_, _, rfl⟩
  have c1 : ∀ W : World, IsAtoms W 0 W.heap.size A n c xs → IsAtoms W 0 W.heap.size B m d cs → IsAtoms W 0 W.heap.size D m' d' gs → Calls Try.prog 88 #[.slice A n c, .agg #[.slice B m d, .slice D m' d']] W (OwnBPost (P, q) W) := by
    intro W k1 k2 k3; rw [← hP]; exact changeDone_any A n c xs B m d cs D m' d' gs W k1 k2 k3
  have C1 := Lib.hid c1; clear c1
  rw [hP]; clear hP
  go_enter Try.func31, Try.ntmps31
  go_wp2_with fail
  refine (C1.out _ (H.out.up AtomE.stays hw1) (H1.out.up AtomE.stays hw1) (H2.out.up AtomE.stays hw1)).mono ?_; rintro e w2 ⟨A2, c2, rs, rfl, ho, hm, hb2⟩
  have hl := ho.1
  have hlp : rs.length = P.length := by rw [← show rs.map rAt = P from hm, List.length_map]
  have O := Lib.hid (ho.keep (w' := w2) (lo' := w.heap.size) (hi' := w2.heap.size) (fun _ _ _ => rfl) hw1.size (Nat.le_refl _)); have M := Lib.hid hm; clear ho hm hl
  have HB2 := belowThen hw1 hb2
  rw [hlp] at O ⊢
  clear hlp
  go_wp2
  go_ret; exact ⟨A2, c2, rs, rfl, O.out, M.out, HB2⟩

end Go.Proofs.Ytbhkihnekendbaa
