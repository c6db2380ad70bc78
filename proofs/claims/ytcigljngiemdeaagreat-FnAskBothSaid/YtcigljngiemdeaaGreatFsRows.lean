/-
  Texts, and rows of texts, as the laws compare them. (fsTexts_same was split out of DrawLaw.)
-/
import Derived.Test.YtcigljngiemdeaaGreatAo0
import Derived.Test.YtcigljngiemdeaaGreatAo33
import Derived.Test.YtcigljngiemdeaaGreatAo4
set_option maxRecDepth 100000
set_option maxHeartbeats 8000000
namespace Go.Proofs.YtcigljngiemdeaaGreat
open Go.RowKit
theorem fsTexts_same (A B : Option Addr) (n c n' c' : Nat) (ls : List ByteArray) (w : World) (h : IsTexts w 0 w.heap.size A n c ls) (h' : IsTexts w 0 w.heap.size B n' c' ls) :
    Calls Tryz.prog 25 #[.slice A n c, .slice B n' c'] w (BoolPost true w) := by
  have hm := h.len; unfold maxLen at hm; have hnn : n = n' := by rw [← h.1, ← h'.1]
  subst hnn; have H := hid h; clear h; have H' := hid h'; clear h'; go_enter Tryz.func25, Tryz.ntmps25; go_wp2; go_loopw [5] (fun i wr => ∃ k : Nat, k ≤ n ∧ i = .int .i64 (k : Int) ∧ Below w.heap.size w wr) (fun i _ => n - (intOf i).toNat)
  case atStart => exact ⟨0, Nat.zero_le _, rfl, Below.refl _ _⟩
  case round =>
    obtain ⟨k, hk, rfl, hb⟩ := hrel; by_cases hlt : k < n
    · have hlt2 : (k : Int) < (n : Int) := qaa
      obtain ⟨p, t, hA, -, -, hg, hE⟩ := (H.out.below TextE.stays hb (nl _)).at_ hlt; obtain ⟨p', t', hA', -, -, hg', hE'⟩ := (H'.out.below TextE.stays hb (nl _)).at_ hlt; subst hA; subst hA'; rw [hg] at hg'; injection hg' with hg'; subst hg'; have c1 : wr.drew.cell? (p.add k) = some (.string t) := qat; have c2 : wr.drew.cell? (p'.add k) = some (.string t) := qco; have hbd := hb.drew; clear hg hE hE'; go_wp2_with fail; go_region_with fail
      all_goals go_wp2
      all_goals (go_roundw)
      all_goals first
        | exact ⟨k + 1, by omega, by go_num, hbd⟩
        | (simp [intOf]; omega)
    · go_wp2
      go_ret; exact ⟨rfl, hb⟩
theorem fsRows_same (A B : Option Addr) (n c n' c' : Nat) (Ls : List (List ByteArray)) (w : World) (h : IsRows w 0 w.heap.size A n c Ls) (h' : IsRows w 0 w.heap.size B n' c' Ls) :
    Calls Tryz.prog 24 #[.slice A n c, .slice B n' c'] w (BoolPost true w) := by
  have hm := h.len; unfold maxLen at hm; have hnn : n = n' := by rw [← h.1, ← h'.1]
  subst hnn; have H := hid h; have H' := hid h'; clear h h'; go_enter Tryz.func24, Tryz.ntmps24; go_wp2; go_loopw [5] (fun i wr => ∃ k : Nat, k ≤ n ∧ i = .int .i64 (k : Int) ∧ Below w.heap.size w wr) (fun i _ => n - (intOf i).toNat)
  case atStart => exact ⟨0, Nat.zero_le _, rfl, Below.refl _ _⟩
  case round =>
    obtain ⟨k, hk, rfl, hB⟩ := hrel; have HW := hid hB; clear hB; by_cases hlt : k < n
    · have hltI : (k : Int) < (n : Int) := qaa
      obtain ⟨p, L, hA, _, hpb, hL, A1, c1, y1, t1⟩ := (H.out.up RowE.stays HW.out).at_ hlt; obtain ⟨q, L', hB', _, hqb, hL', A2, c2, y2, t2⟩ := (H'.out.up RowE.stays HW.out).at_ hlt; subst hA hB'; rw [hL] at hL'; injection hL' with hL'; subst hL'; rw [Nat.mul_one] at y1 y2; have hd : Below wr.heap.size wr wr.drew := (Below.refl _ _).drew; have sw : ∀ U : World, Below wr.heap.size wr U → U.cell? (p.add k) = some (.slice A1 L.length c1) ∧ U.cell? (q.add k) = some (.slice A2 L.length c2) := fun U hU => ⟨(hU.cell qbb).trans y1, (hU.cell (by rw [block_add]; exact hqb)).trans y2⟩; obtain ⟨nl, hnl⟩ : ∃ nl, L.length = nl := ⟨_, rfl⟩
      rw [hnl] at sw t1 t2; have SW := hid sw; have HD := hid hd; have T1 := hid t1; have T2 := hid t2; clear sw hd y1 y2 t1 t2 hL hnl; go_wp2_with fail; refine wp_region_held_drew (S := fun U => U.cell? (p.add k) = some (.slice A1 nl c1) ∧ U.cell? (q.add k) = some (.slice A2 nl c2)) qae (SW.out _ HD.out) ?_; intro hS_; refine tk 0 (.slice (some p) n c) hS_ ?_; refine tk 1 (.int .i64 (k : Int)) hS_ ?_; refine tk 2 (.pointer (some (p.add k))) hS_ ?_; refine tk 3 (.slice A1 nl c1) hS_ ?_; refine tk 4 (.slice (some q) n c') hS_ ?_; refine tk 5 (.int .i64 (k : Int)) hS_ ?_; refine tk 6 (.pointer (some (q.add k))) hS_ ?_
      refine tk 7 (.slice A2 nl c2) hS_ ?_; refine rd1 8 fun K_ hK_ => ?_; go_simp; go_at_call 25; refine (fsTexts_same A1 A2 nl c1 nl c2 L _ (T1.out.up TextE.stays HD.out) (T2.out.up TextE.stays HD.out)).mono ?_; rintro e w5 ⟨rfl, hb5⟩; have hb5' := belowThen HD.out hb5; refine hK_.out _ _ (SW.out _ hb5') fun hS_ => ?_; clear hK_
      (try simp only [Act.put, List.setIfInBounds_toArray, List.set_cons_zero, List.set_cons_succ])
      refine tk 9 (.bool false) hS_ ?_; refine wpAnyH_done qae ?_ _; have HB5 := hid hb5'; clear hb5 hb5' hS_; go_wp2_with fail; refine ⟨⟨k + 1, by omega, by go_num, belowThen HW.out HB5.out⟩, by simp [intOf]; omega⟩
    · go_wp2_with fail
      refine bodyPost_ret (v := .bool true) (by simp [results, Tryz.results24, go_sem]) rfl ⟨rfl, HW.out⟩
end Go.Proofs.YtcigljngiemdeaaGreat
