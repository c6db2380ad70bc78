/-
  The law of AskOrder: its walk.
-/
import Derived.Test.YtcigljngiemdeaaGreatAo0
import Derived.Test.YtcigljngiemdeaaGreatAo22
import Derived.Test.YtcigljngiemdeaaGreatAo36
import Derived.Test.YtcigljngiemdeaaGreatPartsRow
import Derived.Test.YtcigljngiemdeaaGreatFsRows
set_option maxRecDepth 100000
set_option maxHeartbeats 8000000
namespace Go.Proofs.YtcigljngiemdeaaGreat
open Go.RowKit
theorem askOrderLaw_any (A : Option Addr) (n c : Nat) (w : World) (h : IsBytes w w.heap.size A n c) :
    Calls Tryz.prog 5 #[.slice A n c] w (BoolPost true w) := by
  have hn : n ≤ maxLen := qcs; unfold maxLen at hn; have H := hid h; clear h; go_enter Tryz.func5, Tryz.ntmps5; go_wp2_with fail
  all_goals try (go_ret; exact ⟨rfl, Below.refl _ _⟩)
  refine (drawAskL_any A n c w H.out).mono ?_; rintro e w1 ⟨L, k, d, xs, B, m, f, ps, ⟨rfl, hm5⟩, hI, hP, hb1⟩; have HI1 := hid hI; have HP1 := hid hP; have HW1 := hid hb1; obtain ⟨Ls, hLs⟩ : ∃ Ls, askRowsB xs ps = Ls := ⟨_, rfl⟩; obtain ⟨N, hN⟩ : ∃ N, Ls.length = N := ⟨_, rfl⟩; have HLS := hid hLs; have HN := hid hN; clear hI hP hb1 hLs hN H; go_wp2_with fail; refine (implAsk_rows L k d xs B m f ps w1 HI1.out HP1.out).mono ?_; rintro e w2 ⟨A2, c2, rfl, M2, hb2⟩; rw [HLS.out, HN.out] at M2 ⊢; have HI2 := hid (HI1.out.up AtomE.stays hb2); have HP2 := hid (HP1.out.up PartE.stays hb2); have HW2 := hid (belowThen HW1.out hb2); have HM2 := hid M2
  have HL2 := hid HP2.out.1; have HR2 := hid (PRow.new w2 w2 (Below.refl _ _)); clear hb2 M2 HI1 HP1 HW1; go_wp2; go_loopw [6, 7] (fun v i wr => ∃ (j : Nat) (qs : List Pr), j ≤ m ∧ i = .int .i64 ((m : Int) - 1 - (j : Int)) ∧ qs.map Pr.pt = ps.reverse.take j ∧ (∀ q ∈ qs, PrS w2 q) ∧ PRow w2 v qs wr) (fun _ i _ => (intOf i + 1).toNat)
  case atStart => exact ⟨0, [], Nat.zero_le _, by simp, by simp, fun q hq => by simp at hq, HR2.out⟩
  case round =>
    obtain ⟨j, qs, hj, rfl, hq, hs, hR⟩ := hrel; have HQ := hid hq; have HS := hid hs; have HR := hid hR; clear hq hs hR HR2; by_cases hlt : j < m
    · obtain ⟨ix, hix⟩ : ∃ ix : Nat, ix + 1 + j = m := ⟨m - 1 - j, by omega⟩
      have e0 : (m : Int) - 1 - (j : Int) = (ix : Int) := qaa; rw [e0]; have hge : (ix : Int) ≥ 0 := qaa; have hixm : ix < m := qaa; have hixI : (ix : Int) < (m : Int) := qaa; obtain ⟨p, x, hA, _, hpb, hx, hE⟩ := (HP2.out.up PartE.stays HR.out.gr).at_ hixm; obtain ⟨A', n', c', y0, y1, y2, y3, y4⟩ := hE.out; subst hA; obtain ⟨p', x', hA', _, hpb', hx', hE'⟩ := HP2.out.at_ hixm; injection hA' with hA'; subst hA'; rw [hx] at hx'; injection hx' with hx'; subst hx'; obtain ⟨A3, n3, c3, _, _, _, z3, z4⟩ := hE'.out; have hcell := HR.out.gr.cell (p := ⟨(p.add (ix * 3)).block, (p.add (ix * 3)).off + 2, none⟩) qef
      rw [z3, y3] at hcell; injection hcell with hcell; injection hcell with e1 e2 e3; subst e1 e2 e3; have hb4 := below1 wr (.cells #[.bool x.1, .string x.2.1, .slice A' n' c'] 52)
      obtain ⟨v', W2, hr, hR2, _⟩ := HR.out.more (ps := [⟨x.1, x.2.1, A', n', c', x.2.2⟩]) (ad := ⟨wr.heap.size, 0, none⟩) (m := 1) (c := 1) hb4 rfl (World.news_of_block (Blk.new wr _ _)) (by
        have := congrArg List.length HQ.out; rw [List.length_map, List.length_take] at this; omega)
      have HRU := hid hr; have HR2 := hid hR2; have HX := hid hx; have HPS := hid (show PrS w2 ⟨x.1, x.2.1, A', n', c', x.2.2⟩ from ⟨y2, z4⟩); clear hr hR2 hb4 hx hE hE' y4 z3 z4 hpb; have hmeas : (intOf (.int .i64 ((ix : Int) - 1)) + 1).toNat < (intOf (.int .i64 (ix : Int)) + 1).toNat := by simp only [intOf]; omega
      go_wp2_with (at_builtin; refine wpList_append_at rfl rfl rfl rfl rfl HRU.out ?_); refine ⟨⟨j + 1, qs ++ [⟨x.1, x.2.1, A', n', c', x.2.2⟩], by omega, by congr 1; omega, ?_, fun q hq => ?_, HR2.out⟩, hmeas⟩
      · rw [List.map_append, HQ.out, List.take_add_one]
        congr 1; rw [List.getElem?_reverse (by rw [HL2.out]; exact hlt), HL2.out, show m - 1 - j = ix by omega, HX.out]; rfl
      · rcases List.mem_append.1 hq with h | h
        · exact HS.out q h
        · rw [List.mem_singleton.1 h]; exact HPS.out
    · have hge : ¬ ((m : Int) - 1 - (j : Int) ≥ 0) := qaa
      have hjm : j = m := qaa; have hall : qs.map Pr.pt = ps.reverse := by rw [HQ.out, List.take_of_length_le (by rw [List.length_reverse, HL2.out]; omega)]
      obtain ⟨B5, c5, rfl, hP5⟩ := HR.out.parts HS.out; rw [hall] at hP5; obtain ⟨l5, hl5⟩ : ∃ l5, qs.length = l5 := ⟨_, rfl⟩; rw [hl5] at hP5 ⊢; have HIr := hid (HI2.out.up AtomE.stays HR.out.gr); have HPr := hid (HP2.out.up PartE.stays HR.out.gr); have HTr := hid hP5; have HMr := hid (HM2.out.up RowE.stays HR.out.gr); have HWr := hid (belowThen HW2.out HR.out.gr); clear hall hl5 hP5 HQ HS HR HI2 HP2 HM2 HW2 HL2; go_wp2_with fail; refine (specAsk_any L k d xs B m f ps wr HIr.out HPr.out).mono ?_; rintro e w6 ⟨p6, c6, rfl, M6, hb6⟩; rw [HLS.out, HN.out] at M6 ⊢; have HI6 := hid (HIr.out.up AtomE.stays hb6); have HT6 := hid (HTr.out.up PartE.stays hb6); have HM6 := hid (HMr.out.up RowE.stays hb6); have HW6 := hid (belowThen HWr.out hb6); have HS6 := hid M6
      clear hb6 M6 HIr HPr HTr HMr HWr; go_wp2_with fail; refine (fsRows_same _ _ _ _ _ _ Ls w6 HM6.out HS6.out).mono ?_; rintro e w7 ⟨rfl, hb7⟩; have HI7 := hid (HI6.out.up AtomE.stays hb7); have HT7 := hid (HT6.out.up PartE.stays hb7); have HM7 := hid (HM6.out.up RowE.stays hb7); have HW7 := hid (belowThen HW6.out hb7); clear hb7 HI6 HT6 HM6 HW6 HS6; go_wp2_with fail; refine (implAsk_rows L k d xs B5 l5 c5 ps.reverse w7 HI7.out HT7.out).mono ?_; rintro e w8 ⟨A8, c8, rfl, M8, hb8⟩; rw [askRows_reverse, HLS.out, HN.out] at M8 ⊢; have HM8 := hid (HM7.out.up RowE.stays hb8); have HW8 := hid (belowThen HW7.out hb8); have HS8 := hid M8
      clear hb8 M8 HI7 HT7 HM7 HW7; go_wp2_with fail; refine (fsRows_same _ _ _ _ _ _ Ls w8 HS8.out HM8.out).mono ?_; rintro e w9 ⟨rfl, hb9⟩; have HW9 := hid (belowThen HW8.out hb9); clear hb9 HM8 HS8 HW8; go_wp2; go_ret; exact ⟨rfl, HW9.out⟩
end Go.Proofs.YtcigljngiemdeaaGreat
