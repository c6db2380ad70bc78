/-
  What a variable is bound to, in the model.
-/
import Derived.Test.YtcigljngiemdeaaGreatEa9
namespace Go.Proofs.YtcigljngiemdeaaGreat
open Go.RowKit

theorem bd_at {b : Bd} {k : Nat} {x y : ByteArray} (h : (b.map (·.1))[k]? = some x) (h' : (b.map (·.2))[k]? = some y) : b[k]? = some (x, y) := by
  rw [List.getElem?_map] at h h'
  obtain ⟨q, hq, rfl⟩ := Option.map_eq_some_iff.1 h
  rw [hq] at h'
  injection h' with h'
  subst h'
  exact hq

set_option maxHeartbeats 2000000 in
theorem l4Get_any (A B : Option Addr) (n c m d : Nat) (b : Bd) (x : ByteArray) (w : World) (h : IsTexts w 0 w.heap.size A n c (b.map (·.1))) (h' : IsTexts w 0 w.heap.size B m d (b.map (·.2))) :
    Calls Tryz.prog 85 #[.agg #[.slice A n c, .slice B m d], .string x] w fun e w' => e = .returned (.tuple #[.string ((getW b x).getD ⟨#[]⟩), .bool (getW b x).isSome]) ∧ Below w.heap.size w w' := by
  have hn := h.len
  unfold maxLen at hn
  have h1 := Lib.hid (show n = b.length by rw [← h.1, List.length_map])
  have h2 := Lib.hid (show m = b.length by rw [← h'.1, List.length_map])
  have H := Lib.hid h; have H' := Lib.hid h'; clear h h'
  have hw0 := below1 w (.cells #[.slice A n c, .slice B m d] 128)
  have X0 := Lib.hid (Box.new w (.slice A n c) (.slice B m d) 128)
  go_enter Tryz.func85, Tryz.ntmps85
  go_wp2
  go_loopw [6] (fun i wr => ∃ k : Nat, k ≤ n ∧ i = .int .i64 k ∧ (∀ j r, j < k → b[j]? = some r → r.1 ≠ x) ∧ Below (w.alloc (.cells #[.slice A n c, .slice B m d] 128)).heap.size (w.alloc (.cells #[.slice A n c, .slice B m d] 128)) wr) (fun i _ => n - (intOf i).toNat)
  case atStart => exact ⟨0, Nat.zero_le _, rfl, fun j r hj => absurd hj (Nat.not_lt_zero _), Below.refl _ _⟩
  case round =>
    obtain ⟨k, hk, rfl, hl, hb⟩ := hrel
    have HL := Lib.hid hl; clear hl
    have HB := belowThen hw0 hb
    obtain ⟨b0, b1, b2⟩ := X0.out.later hb
    by_cases hlt : k < n
    · have hltI : (k : Int) < (n : Int) := by omega
      have hltm : (k : Int) < (m : Int) := by have := h1.out; have := h2.out; omega
      obtain ⟨p, q, hA, _, _, hg, hE⟩ := (H.out.below TextE.stays HB (Nat.le_refl _)).at_ hlt
      obtain ⟨p', q', hA', _, _, hg', hE'⟩ := (H'.out.below TextE.stays HB (Nat.le_refl _)).at_ (show k < m by have := h1.out; have := h2.out; omega)
      subst hA; subst hA'
      have x1 : wr.cell? (p.add k) = some (.string q) := by have := hE; unfold TextE at this; rwa [Nat.mul_one] at this
      have x2 : wr.cell? (p'.add k) = some (.string q') := by have := hE'; unfold TextE at this; rwa [Nat.mul_one] at this
      have HG := Lib.hid (bd_at hg hg')
      clear hE hE' hg hg'
      cases he : (q.toList == x.toList)
      · have hne : q ≠ x := fun e => by subst e; simp at he
        have HNE := Lib.hid hne; clear hne
        go_wp2
        go_roundw
        case rel => exact ⟨k + 1, by omega, by go_num, fun j r hj hr => by
          by_cases e : j = k
          · subst e; rw [HG.out] at hr; injection hr with hr; rw [← hr]; exact HNE.out
          · exact HL.out j r (by omega) hr, hb⟩
        case measure => simp [intOf]; omega
      · have hq : q = x := bytesEq (by have h1 := eq_of_beq he; rwa [ByteArray.toList_eq, ByteArray.toList_eq] at h1)
        have hv := Lib.hid (getW_hit (x := x) HL.out HG.out hq)
        clear hq
        go_wp2
        refine bodyPost_ret (v := .tuple #[.string q', .bool true]) (by simp [results, Tryz.results85, go_sem]) rfl ⟨by rw [hv.out]; rfl, HB⟩
    · have hv := Lib.hid (getW_none (b := b) (x := x) (fun q hq => by
        obtain ⟨j, hj⟩ := List.getElem?_of_mem hq
        have := (List.getElem?_eq_some_iff.1 hj).1
        exact HL.out j q (by have := h1.out; omega) hj))
      go_wp2
      refine bodyPost_ret (v := .tuple #[.string ⟨#[]⟩, .bool false]) (by simp [results, Tryz.results85, go_sem]) rfl ⟨by rw [hv.out]; rfl, HB⟩

end Go.Proofs.YtcigljngiemdeaaGreat
