/-
  The law of AskMore: its walk.
-/
import Derived.Test.YtcigljngiemdeaaGreatAo0
import Derived.Test.YtcigljngiemdeaaGreatAo22
import Derived.Test.YtcigljngiemdeaaGreatAo36
import Derived.Test.YtcigljngiemdeaaGreatPartsRow
import Derived.Test.YtcigljngiemdeaaGreatFsRows
set_option maxRecDepth 100000
set_option maxHeartbeats 8000000
namespace Go.Proofs.YtcigljngiemdeaaGreat
open Go.RowKit
theorem askMoreLaw_any (A : Option Addr) (n c : Nat) (w : World) (h : IsBytes w w.heap.size A n c) :
    Calls Tryz.prog 6 #[.slice A n c] w (BoolPost true w) := by
  have hn : n ≤ maxLen := qcs; unfold maxLen at hn; have H := hid h; clear h; go_enter Tryz.func6, Tryz.ntmps6; go_wp2_with fail
  all_goals try (go_ret; exact ⟨rfl, Below.refl _ _⟩)
  refine (drawAskL_any A n c w H.out).mono ?_; rintro e w1 ⟨L, k, d, xs, B, m, f, ps, ⟨rfl, hm5⟩, hI, hP, hb1⟩; have HI1 := hid hI; have HP1 := hid hP; have HW1 := hid hb1; obtain ⟨Ls, hLs⟩ : ∃ Ls, askRowsB xs ps = Ls := ⟨_, rfl⟩; obtain ⟨N, hN⟩ : ∃ N, Ls.length = N := ⟨_, rfl⟩; have HLS := hid hLs; have HN := hid hN; clear hI hP hb1 hLs hN H; go_wp2_with fail; refine (implAsk_rows L k d xs B m f ps w1 HI1.out HP1.out).mono ?_; rintro e w2 ⟨A2, c2, rfl, M2, hb2⟩; rw [HLS.out, HN.out] at M2 ⊢; have HI2 := hid (HI1.out.up AtomE.stays hb2); have HP2 := hid (HP1.out.up PartE.stays hb2); have HW2 := hid (belowThen HW1.out hb2); have HM2 := hid M2
  have HL2 := hid HP2.out.1; clear hb2 M2 HI1 HP1 HW1; go_wp2_with fail; refine (specAsk_any L k d xs B m f ps w2 HI2.out HP2.out).mono ?_; rintro e w3 ⟨p3, c3, rfl, M3, hb3⟩; rw [HLS.out, HN.out] at M3 ⊢; have HI3 := hid (HI2.out.up AtomE.stays hb3); have HP3 := hid (HP2.out.up PartE.stays hb3); have HM3 := hid (HM2.out.up RowE.stays hb3); have HW3 := hid (belowThen HW2.out hb3); have HS3 := hid M3; clear hb3 M3 HI2 HP2 HM2 HW2; go_wp2_with fail; refine (fsRows_same _ _ _ _ _ _ Ls w3 HM3.out HS3.out).mono ?_; rintro e w4 ⟨rfl, hb4⟩; have HI4 := hid (HI3.out.up AtomE.stays hb4); have HP4 := hid (HP3.out.up PartE.stays hb4); have HM4 := hid (HM3.out.up RowE.stays hb4); have HW4 := hid (belowThen HW3.out hb4)
  clear hb4 HI3 HP3 HM3 HW3 HS3; go_wp2_with fail; refine (specAskOk_any B m f ps w4 HP4.out).mono ?_; rintro e w5 ⟨rfl, hb5⟩; have HI5 := hid (HI4.out.up AtomE.stays hb5); have HP5 := hid (HP4.out.up PartE.stays hb5); have HM5 := hid (HM4.out.up RowE.stays hb5); have HW5 := hid (belowThen HW4.out hb5); clear hb5 HI4 HP4 HM4 HW4; obtain ⟨q, hq⟩ : ∃ q, askB ps = q := ⟨_, rfl⟩; rw [hq]
  have again : Calls Tryz.prog 11 #[.slice L k d, .slice B m f] w5 (fun e w' => ∃ p3 c3, e = .returned (.slice (some p3) N c3) ∧ Below w5.heap.size w5 w' ∧ Calls Tryz.prog 24 #[.slice A2 N c2, .slice (some p3) N c3] w' fun e2 w2 => e2 = .returned (.bool true) ∧ Below w.heap.size w w2) := by
    refine (specAsk_any L k d xs B m f ps w5 HI5.out HP5.out).mono ?_; rintro e w6 ⟨p3, c3, rfl, M3, hb6⟩; rw [HLS.out, HN.out] at M3 ⊢; refine ⟨p3, c3, rfl, hb6, ?_⟩; refine (fsRows_same _ _ _ _ _ _ Ls w6 (HM5.out.up RowE.stays hb6) M3).mono ?_; rintro e w7 ⟨rfl, hb7⟩; exact ⟨rfl, belowThen (belowThen HW5.out hb6) hb7⟩
  have AGAIN := hid again; clear again; cases q
  · clear HL2
    go_wp2_with fail; refine AGAIN.out.mono ?_; rintro e w6 ⟨p6, c6, rfl, hb6, hcall⟩; have HC := hid hcall; clear hcall; go_wp2_with fail; refine HC.out.mono ?_; rintro e w7 ⟨rfl, hb7⟩; go_wp2; go_ret; exact ⟨rfl, hb7⟩
  · by_cases h4 : 4 ≤ m
    · have h4I : (m : Int) ≥ 4 := qaa
      clear HL2; go_wp2_with fail; refine AGAIN.out.mono ?_; rintro e w6 ⟨p6, c6, rfl, hb6, hcall⟩; have HC := hid hcall; clear hcall; go_wp2_with fail; refine HC.out.mono ?_; rintro e w7 ⟨rfl, hb7⟩; go_wp2; go_ret; exact ⟨rfl, hb7⟩
    · have h4I : ¬ (m : Int) ≥ 4 := qaa
      have hm1 : 0 < m := by
        have h1 := (ask_iff.1 hq).1.1; rw [HL2.out] at h1; omega
      obtain ⟨qs, hpt, hql, hqs, hcells⟩ := prs_of HP5.out; obtain ⟨p, hBp, _, hpb, _⟩ := HP5.out.2.2.2 hm1; subst hBp; obtain ⟨_, hcell⟩ := hcells p rfl hm1; clear hcells
      cases qs with
      | nil => simp at hql; omega
      | cons q0 qt =>
      have y0 : w5.cell? p = some (.bool q0.no) := by have := hcell 0 _ rfl; simpa [Addr.add] using this
      have y1 : w5.cell? ⟨p.block, p.off + 1, none⟩ = some (.string q0.nm) := by have := hcell 1 _ rfl; simpa [Addr.add] using this
      have y2 : w5.cell? ⟨p.block, p.off + 2, none⟩ = some (.slice q0.A q0.n q0.c) := by have := hcell 2 _ rfl; simpa [Addr.add] using this
      clear AGAIN; have HPT := hid hpt; have HQL := hid hql; have HQS := hid hqs; have HCELL := hid hcell; have HQ := hid hq; clear hpt hql hqs hcell hq; have SW := hid (fun (U : World) (hU : Below w5.heap.size w5 U) => (⟨Holds.below hU _ _ y0, Holds.below hU _ _ y1, Holds.below hU _ _ y2⟩ : U.cell? p = some (.bool q0.no) ∧ U.cell? ⟨p.block, p.off + 1, none⟩ = some (.string q0.nm) ∧ U.cell? ⟨p.block, p.off + 2, none⟩ = some (.slice q0.A q0.n q0.c))); have hup : ∀ V, Below w5.heap.size w5 V → ∀ q, PrS w5 q → PrS V q := fun V hV q hq => ⟨hq.1, (hq.2.keep (w' := V) (lo' := 0) (hi' := w5.heap.size) (fun a _ ha => hV.cell ha) (nl _) (nl _)).keep (fun _ _ _ => rfl) (nl _) hV.size⟩
      have HQV := hid (fun (V : World) (hV : Below w5.heap.size w5 V) q (hq : q ∈ (q0 :: qt) ++ [q0]) => hup V hV q (by rcases List.mem_append.1 hq with h | h; exact HQS.out q h; rw [List.mem_singleton.1 h]; exact HQS.out q0 qad)); have HQN := hid (fun (V : World) (hV : Below w5.heap.size w5 V) q (hq : q ∈ (q0 :: qt) ++ [(⟨!q0.no, q0.nm, q0.A, q0.n, q0.c, q0.ts⟩ : Pr)]) => hup V hV q (by rcases List.mem_append.1 hq with h | h; exact HQS.out q h; rw [List.mem_singleton.1 h]; exact HQS.out q0 qad)); have hmem : q0.pt ∈ ps := by rw [← HPT.out]; simp
      have HAG := hid (askRows_again (list := xs) hmem (by rw [HL2.out]; omega)); have HNO := hid (askRows_not (list := xs) hmem); clear y0 y1 y2 hup hmem; go_wp2_with fail; refine wp_region_held_drew (S := fun U => U.cell? p = some (.bool q0.no) ∧ U.cell? ⟨p.block, p.off + 1, none⟩ = some (.string q0.nm) ∧ U.cell? ⟨p.block, p.off + 2, none⟩ = some (.slice q0.A q0.n q0.c)) qae (SW.out _ (Below.refl w5.heap.size w5).drew) ?_; obtain ⟨V, hVe⟩ : ∃ V, w5.drew = V := ⟨_, rfl⟩; have HBV := hid (show Below w5.heap.size w5 V by rw [← hVe]; exact (Below.refl w5.heap.size w5).drew); rw [hVe]; clear hVe; intro hS_
      refine tk 1 (.slice (some p) m f) hS_ ?_; refine tk 3 (.slice (some p) m f) hS_ ?_; refine tk 4 (.pointer (some p)) hS_ ?_; refine tk 5 (.agg #[.bool q0.no, .string q0.nm, .slice q0.A q0.n q0.c]) hS_ ?_; have hcl : ∀ U, Below V.heap.size V U → ∀ j u, (psCells (q0 :: qt))[j]? = some u → U.cell? (p.add j) = some u := fun U hU j u hu => Holds.below hU _ _ (Holds.below HBV.out _ _ (HCELL.out j u hu)); have HCL := hid hcl; have SV := hid (fun (U : World) (hU : Below V.heap.size V U) => SW.out U (belowThen HBV.out hU)); clear hcl; refine rd2 0 6 (fun K_ hK_ => ?_) (fun K_ hK_ => ?_); rw [if_pos qab]; go_simp
      have R1 := PRow.new V V (Below.refl _ _); have b1 := below1 V (.cells #[] 52); refine hK_.out _ _ (SV.out _ b1) fun hS_ => ?_; clear hK_
      (try simp only [Act.put, List.setIfInBounds_toArray, List.set_cons_zero, List.set_cons_succ])
      obtain ⟨W1, q1⟩ : ∃ W1, V.alloc (.cells #[] 52) = W1 := ⟨_, rfl⟩; have n1 : V.heap.size + 1 ≤ W1.heap.size := by rw [← q1]; simp
      rw [q1] at R1 b1 ⊢; clear q1; refine rd2 2 6 (fun K_ hK_ => ?_) (fun K_ hK_ => ?_); rw [if_pos qab]; obtain ⟨v2, W2, hr2, hR2, _⟩ := R1.more (ps := q0 :: qt) (ad := p) (m := m) (c := f) (Below.refl _ _) HQL.out (HCL.out _ b1) qaf; refine wp_append_run rfl rfl rfl rfl hr2 ?_; refine hK_.out _ _ (SV.out _ hR2.gr) fun hS_ => ?_; clear hK_
      (try simp only [Act.put, List.setIfInBounds_toArray, List.set_cons_zero, List.set_cons_succ])
      refine rd1 6 fun K_ hK_ => ?_; go_simp; have y3 := Blk.new W2 52 #[.bool q0.no, .string q0.nm, .slice q0.A q0.n q0.c]; have b3 := below1 W2 (.cells #[.bool q0.no, .string q0.nm, .slice q0.A q0.n q0.c] 52); have R3 := hR2.below b3; refine hK_.out _ _ (SV.out _ R3.gr) fun hS_ => ?_; clear hK_
      (try simp only [Act.put, List.setIfInBounds_toArray, List.set_cons_zero, List.set_cons_succ])
      obtain ⟨W3, q3⟩ : ∃ W3, W2.alloc (.cells #[.bool q0.no, .string q0.nm, .slice q0.A q0.n q0.c] 52) = W3 := ⟨_, rfl⟩; obtain ⟨Y, hY⟩ : ∃ Y, W2.heap.size = Y := ⟨_, rfl⟩; rw [q3] at y3 R3 ⊢; rw [hY] at y3 ⊢; have Y3 := hid y3; have R3 := hid R3; clear q3 hY y3 b3 hr2 hR2 R1 b1 n1
      rotate_left
      rw [if_pos qab]; go_simp; have y2 := Blk.new W1 52 #[.bool q0.no, .string q0.nm, .slice q0.A q0.n q0.c]; have b2 := below1 W1 (.cells #[.bool q0.no, .string q0.nm, .slice q0.A q0.n q0.c] 52); have R2 := R1.below b2; refine hK_.out _ _ (SV.out _ R2.gr) fun hS_ => ?_; clear hK_
      (try simp only [Act.put, List.setIfInBounds_toArray, List.set_cons_zero, List.set_cons_succ])
      obtain ⟨W2, q2⟩ : ∃ W2, W1.alloc (.cells #[.bool q0.no, .string q0.nm, .slice q0.A q0.n q0.c] 52) = W2 := ⟨_, rfl⟩; obtain ⟨Y, hY⟩ : ∃ Y, W1.heap.size = Y := ⟨_, rfl⟩; rw [q2] at y2 R2 ⊢; have hne : some Y ≠ (Value.slice (some ⟨V.heap.size, 0, none⟩) 0 0).ownBlock := qav; rw [hY] at y2 ⊢; clear q2 hY; refine rd1 2 fun K_ hK_ => ?_; obtain ⟨v2, W3, hr3, R3', g3⟩ := R2.more (ps := q0 :: qt) (ad := p) (m := m) (c := f) (Below.refl _ _) HQL.out (HCL.out _ R2.gr) qaf; refine wp_append_run rfl rfl rfl rfl hr3 ?_; refine hK_.out _ _ (SV.out _ R3'.gr) fun hS_ => ?_; clear hK_
      (try simp only [Act.put, List.setIfInBounds_toArray, List.set_cons_zero, List.set_cons_succ])
      have Y3 := hid (y2.kept g3 hne); have R3 := hid R3'; clear y2 b2 R2 R1 b1 n1 hne hr3 R3' g3
      rotate_left
      rw [if_pos qab]; go_simp; have y1 := Blk.new V 52 #[.bool q0.no, .string q0.nm, .slice q0.A q0.n q0.c]; have b1 := below1 V (.cells #[.bool q0.no, .string q0.nm, .slice q0.A q0.n q0.c] 52); refine hK_.out _ _ (SV.out _ b1) fun hS_ => ?_; clear hK_
      (try simp only [Act.put, List.setIfInBounds_toArray, List.set_cons_zero, List.set_cons_succ])
      obtain ⟨W1, q1⟩ : ∃ W1, V.alloc (.cells #[.bool q0.no, .string q0.nm, .slice q0.A q0.n q0.c] 52) = W1 := ⟨_, rfl⟩; have n1 : V.heap.size + 1 ≤ W1.heap.size := by rw [← q1]; simp
      obtain ⟨Y, hY⟩ : ∃ Y, V.heap.size = Y := ⟨_, rfl⟩; rw [q1] at y1 b1 ⊢; have hne : some Y ≠ (Value.slice (some ⟨W1.heap.size, 0, none⟩) 0 0).ownBlock := qav; rw [hY] at y1 ⊢; have HY := hid hY; clear q1 hY; refine rd1 0 fun K_ hK_ => ?_; go_simp; have R2 := PRow.new V W1 b1; have y2 := y1.below (below1 W1 (.cells #[] 52)); refine hK_.out _ _ (SV.out _ R2.gr) fun hS_ => ?_; clear hK_
      (try simp only [Act.put, List.setIfInBounds_toArray, List.set_cons_zero, List.set_cons_succ])
      obtain ⟨W2, q2⟩ : ∃ W2, W1.alloc (.cells #[] 52) = W2 := ⟨_, rfl⟩; rw [q2] at y2 R2 ⊢; clear q2; refine rd1 2 fun K_ hK_ => ?_; obtain ⟨v2, W3, hr3, R3', g3⟩ := R2.more (ps := q0 :: qt) (ad := p) (m := m) (c := f) (Below.refl _ _) HQL.out (HCL.out _ R2.gr) qaf; refine wp_append_run rfl rfl rfl rfl hr3 ?_; refine hK_.out _ _ (SV.out _ R3'.gr) fun hS_ => ?_; clear hK_
      (try simp only [Act.put, List.setIfInBounds_toArray, List.set_cons_zero, List.set_cons_succ])
      have Y3 := hid (y2.kept g3 hne); have R3 := hid R3'; clear y1 y2 R2 b1 n1 hne hr3 R3' g3 HY
      all_goals
        refine rd1 7 fun K_ hK_ => ?_; obtain ⟨v4, W4, hr4, hR4, _⟩ := R3.out.more (ps := [q0]) (ad := ⟨Y, 0, none⟩) (m := 1) (c := 1) (Below.refl _ _) rfl (World.news_of_block Y3.out) (by have := HQL.out; simp at this ⊢; omega); refine wp_append_run rfl rfl rfl rfl hr4 ?_; refine hK_.out _ _ (SV.out _ hR4.gr) fun hS_ => ?_; clear hK_
        (try simp only [Act.put, List.setIfInBounds_toArray, List.set_cons_zero, List.set_cons_succ])
        refine tk 8 v4 hS_ ?_; refine wpAnyH_done qae ?_ _; rw [List.nil_append] at hR4; obtain ⟨B6, c6, rfl, hP6⟩ := hR4.parts (HQV.out V HBV.out); rw [List.map_append, HPT.out, List.map_singleton] at hP6; obtain ⟨l6, hl6⟩ : ∃ l6, ((q0 :: qt) ++ [q0]).length = l6 := ⟨_, rfl⟩; rw [hl6] at hP6 ⊢; have HB6 := hid (belowThen HBV.out hR4.gr); have HP6 := hid hP6; clear hR4 hr4 hS_ hP6 hl6 Y3 R3 HCL SV HBV; go_wp2_with fail; refine wp_region_held_drew (S := fun U => U.cell? p = some (.bool q0.no) ∧ U.cell? ⟨p.block, p.off + 1, none⟩ = some (.string q0.nm) ∧ U.cell? ⟨p.block, p.off + 2, none⟩ = some (.slice q0.A q0.n q0.c)) qae (SW.out _ (HB6.out).drew) ?_
        obtain ⟨V, hVe⟩ : ∃ V, W4.drew = V := ⟨_, rfl⟩; have HD8 := hid (show Below W4.heap.size W4 V by rw [← hVe]; exact (Below.refl W4.heap.size W4).drew); have HBV := hid (show Below w5.heap.size w5 V by rw [← hVe]; exact (HB6.out).drew); rw [hVe]; clear hVe; intro hS_; refine tk 1 (.slice (some p) m f) hS_ ?_; refine tk 3 (.slice (some p) m f) hS_ ?_; refine tk 4 (.pointer (some p)) hS_ ?_; refine tk 5 (.pointer (some p)) hS_ ?_; refine tk 6 (.bool q0.no) hS_ ?_; refine tk 7 (.bool (!q0.no)) hS_ ?_; refine tk 8 (.slice (some p) m f) hS_ ?_; refine tk 9 (.pointer (some p)) hS_ ?_; refine tk 10 (.pointer (some ⟨p.block, p.off + 1, none⟩)) hS_ ?_
        refine tk 11 (.agg #[.string q0.nm, .slice q0.A q0.n q0.c]) hS_ ?_; refine tk 12 (.agg #[.bool (!q0.no), .string q0.nm, .slice q0.A q0.n q0.c]) hS_ ?_; have hcl : ∀ U, Below V.heap.size V U → ∀ j u, (psCells (q0 :: qt))[j]? = some u → U.cell? (p.add j) = some u := fun U hU j u hu => Holds.below hU _ _ (Holds.below HBV.out _ _ (HCELL.out j u hu)); have HCL := hid hcl; have SV := hid (fun (U : World) (hU : Below V.heap.size V U) => SW.out U (belowThen HBV.out hU)); clear hcl; refine rd2 0 13 (fun K_ hK_ => ?_) (fun K_ hK_ => ?_); rw [if_pos qab]; go_simp; have R1 := PRow.new V V (Below.refl _ _); have b1 := below1 V (.cells #[] 52)
        refine hK_.out _ _ (SV.out _ b1) fun hS_ => ?_; clear hK_
        (try simp only [Act.put, List.setIfInBounds_toArray, List.set_cons_zero, List.set_cons_succ])
        obtain ⟨W1, q1⟩ : ∃ W1, V.alloc (.cells #[] 52) = W1 := ⟨_, rfl⟩; have n1 : V.heap.size + 1 ≤ W1.heap.size := by rw [← q1]; simp
        rw [q1] at R1 b1 ⊢; clear q1; refine rd2 2 13 (fun K_ hK_ => ?_) (fun K_ hK_ => ?_); rw [if_pos qab]; obtain ⟨v2, W2, hr2, hR2, _⟩ := R1.more (ps := q0 :: qt) (ad := p) (m := m) (c := f) (Below.refl _ _) HQL.out (HCL.out _ b1) qaf; refine wp_append_run rfl rfl rfl rfl hr2 ?_; refine hK_.out _ _ (SV.out _ hR2.gr) fun hS_ => ?_; clear hK_
        (try simp only [Act.put, List.setIfInBounds_toArray, List.set_cons_zero, List.set_cons_succ])
        refine rd1 13 fun K_ hK_ => ?_; go_simp; have y3 := Blk.new W2 52 #[.bool (!q0.no), .string q0.nm, .slice q0.A q0.n q0.c]; have b3 := below1 W2 (.cells #[.bool (!q0.no), .string q0.nm, .slice q0.A q0.n q0.c] 52); have R3 := hR2.below b3; refine hK_.out _ _ (SV.out _ R3.gr) fun hS_ => ?_; clear hK_
        (try simp only [Act.put, List.setIfInBounds_toArray, List.set_cons_zero, List.set_cons_succ])
        obtain ⟨W3, q3⟩ : ∃ W3, W2.alloc (.cells #[.bool (!q0.no), .string q0.nm, .slice q0.A q0.n q0.c] 52) = W3 := ⟨_, rfl⟩; obtain ⟨Y, hY⟩ : ∃ Y, W2.heap.size = Y := ⟨_, rfl⟩; rw [q3] at y3 R3 ⊢; rw [hY] at y3 ⊢; have Y3 := hid y3; have R3 := hid R3; clear q3 hY y3 b3 hr2 hR2 R1 b1 n1
        rotate_left
        rw [if_pos qab]; go_simp; have y2 := Blk.new W1 52 #[.bool (!q0.no), .string q0.nm, .slice q0.A q0.n q0.c]; have b2 := below1 W1 (.cells #[.bool (!q0.no), .string q0.nm, .slice q0.A q0.n q0.c] 52); have R2 := R1.below b2; refine hK_.out _ _ (SV.out _ R2.gr) fun hS_ => ?_; clear hK_
        (try simp only [Act.put, List.setIfInBounds_toArray, List.set_cons_zero, List.set_cons_succ])
        obtain ⟨W2, q2⟩ : ∃ W2, W1.alloc (.cells #[.bool (!q0.no), .string q0.nm, .slice q0.A q0.n q0.c] 52) = W2 := ⟨_, rfl⟩; obtain ⟨Y, hY⟩ : ∃ Y, W1.heap.size = Y := ⟨_, rfl⟩; rw [q2] at y2 R2 ⊢; have hne : some Y ≠ (Value.slice (some ⟨V.heap.size, 0, none⟩) 0 0).ownBlock := qav; rw [hY] at y2 ⊢; clear q2 hY; refine rd1 2 fun K_ hK_ => ?_; obtain ⟨v2, W3, hr3, R3', g3⟩ := R2.more (ps := q0 :: qt) (ad := p) (m := m) (c := f) (Below.refl _ _) HQL.out (HCL.out _ R2.gr) qaf; refine wp_append_run rfl rfl rfl rfl hr3 ?_; refine hK_.out _ _ (SV.out _ R3'.gr) fun hS_ => ?_
        clear hK_
        (try simp only [Act.put, List.setIfInBounds_toArray, List.set_cons_zero, List.set_cons_succ])
        have Y3 := hid (y2.kept g3 hne); have R3 := hid R3'; clear y2 b2 R2 R1 b1 n1 hne hr3 R3' g3
        rotate_left
        rw [if_pos qab]; go_simp; have y1 := Blk.new V 52 #[.bool (!q0.no), .string q0.nm, .slice q0.A q0.n q0.c]; have b1 := below1 V (.cells #[.bool (!q0.no), .string q0.nm, .slice q0.A q0.n q0.c] 52); refine hK_.out _ _ (SV.out _ b1) fun hS_ => ?_; clear hK_
        (try simp only [Act.put, List.setIfInBounds_toArray, List.set_cons_zero, List.set_cons_succ])
        obtain ⟨W1, q1⟩ : ∃ W1, V.alloc (.cells #[.bool (!q0.no), .string q0.nm, .slice q0.A q0.n q0.c] 52) = W1 := ⟨_, rfl⟩; have n1 : V.heap.size + 1 ≤ W1.heap.size := by rw [← q1]; simp
        obtain ⟨Y, hY⟩ : ∃ Y, V.heap.size = Y := ⟨_, rfl⟩; rw [q1] at y1 b1 ⊢; have hne : some Y ≠ (Value.slice (some ⟨W1.heap.size, 0, none⟩) 0 0).ownBlock := qav; rw [hY] at y1 ⊢; have HY := hid hY; clear q1 hY; refine rd1 0 fun K_ hK_ => ?_; go_simp; have R2 := PRow.new V W1 b1; have y2 := y1.below (below1 W1 (.cells #[] 52)); refine hK_.out _ _ (SV.out _ R2.gr) fun hS_ => ?_; clear hK_
        (try simp only [Act.put, List.setIfInBounds_toArray, List.set_cons_zero, List.set_cons_succ])
        obtain ⟨W2, q2⟩ : ∃ W2, W1.alloc (.cells #[] 52) = W2 := ⟨_, rfl⟩; rw [q2] at y2 R2 ⊢; clear q2; refine rd1 2 fun K_ hK_ => ?_; obtain ⟨v2, W3, hr3, R3', g3⟩ := R2.more (ps := q0 :: qt) (ad := p) (m := m) (c := f) (Below.refl _ _) HQL.out (HCL.out _ R2.gr) qaf; refine wp_append_run rfl rfl rfl rfl hr3 ?_; refine hK_.out _ _ (SV.out _ R3'.gr) fun hS_ => ?_; clear hK_
        (try simp only [Act.put, List.setIfInBounds_toArray, List.set_cons_zero, List.set_cons_succ])
        have Y3 := hid (y2.kept g3 hne); have R3 := hid R3'; clear y1 y2 R2 b1 n1 hne hr3 R3' g3 HY
        all_goals
          refine rd1 14 fun K_ hK_ => ?_; obtain ⟨v8, W8, hr8, hR8, _⟩ := R3.out.more (ps := [⟨!q0.no, q0.nm, q0.A, q0.n, q0.c, q0.ts⟩]) (ad := ⟨Y, 0, none⟩) (m := 1) (c := 1) (Below.refl _ _) rfl (World.news_of_block Y3.out) (by have := HQL.out; simp at this ⊢; omega); refine wp_append_run rfl rfl rfl rfl hr8 ?_; refine hK_.out _ _ (SV.out _ hR8.gr) fun hS_ => ?_; clear hK_
          (try simp only [Act.put, List.setIfInBounds_toArray, List.set_cons_zero, List.set_cons_succ])
          refine tk 15 v8 hS_ ?_; refine wpAnyH_done qae ?_ _; rw [List.nil_append] at hR8; obtain ⟨B8, c8, rfl, hP8⟩ := hR8.parts (HQN.out V HBV.out); rw [List.map_append, HPT.out, List.map_singleton] at hP8; obtain ⟨l8, hl8⟩ : ∃ l8, ((q0 :: qt) ++ [(⟨!q0.no, q0.nm, q0.A, q0.n, q0.c, q0.ts⟩ : Pr)]).length = l8 := ⟨_, rfl⟩; rw [hl8] at hP8 ⊢; have HB8 := hid (belowThen HBV.out hR8.gr); have HP8 := hid (show IsParts W8 0 W8.heap.size B8 l8 c8 (ps ++ [(!q0.pt.1, q0.pt.2)]) from hP8); have HP68 := hid (HP6.out.up PartE.stays (belowThen HD8.out hR8.gr)); have HI8 := hid (HI5.out.up AtomE.stays HB8.out); have HM8 := hid (HM5.out.up RowE.stays HB8.out); have HW8 := hid (belowThen HW5.out HB8.out)
          clear hR8 hr8 hS_ hP8 hl8 Y3 R3 HCL SV HBV HP6; go_wp2_with fail; refine (implAsk_rows L k d xs B6 l6 c6 (ps ++ [q0.pt]) W8 HI8.out HP68.out).mono ?_; rintro e w9 ⟨A9, c9, rfl, M9, hb9⟩; rw [HAG.out, HLS.out, HN.out] at M9 ⊢; have HI9 := hid (HI8.out.up AtomE.stays hb9); have HP9 := hid (HP8.out.up PartE.stays hb9); have HM9 := hid (HM8.out.up RowE.stays hb9); have HW9 := hid (belowThen HW8.out hb9); have HS9 := hid M9; clear hb9 M9; go_wp2_with fail; refine (fsRows_same _ _ _ _ _ _ Ls w9 HS9.out HM9.out).mono ?_; rintro e w10 ⟨rfl, hb10⟩; have HI10 := hid (HI9.out.up AtomE.stays hb10); have HP10 := hid (HP9.out.up PartE.stays hb10); have HW10 := hid (belowThen HW9.out hb10)
          clear hb10; go_wp2_with fail; refine (implAsk_rows L k d xs B8 l8 c8 (ps ++ [(!q0.pt.1, q0.pt.2)]) w10 HI10.out HP10.out).mono ?_; rintro e w11 ⟨A11, c11, rfl, M11, hb11⟩; rw [HNO.out] at M11 ⊢; have HW11 := hid (belowThen HW10.out hb11); clear hb11 M11; go_wp2; go_ret; exact ⟨rfl, HW11.out⟩
end Go.Proofs.YtcigljngiemdeaaGreat
