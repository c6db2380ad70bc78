/-
  Marks: a change by value, its two lists apart; the change of two lists, its contracts said once more for the laws.
-/
import Derived.Test.YtenklmednmhbkaaMark3
namespace Go.Proofs.Ytenklmednmhbkaa
open Go.RowKit

theorem markN_more {n c lo hi k : Nat} {w : World} {A : Option Addr} {rs : List Rf} {xs : List At} (h : IsRefs w lo hi A n c rs) (hx : rs.map rAt = xs) (hs : SmallAtoms n xs) : markN k rs ≤ k + 2 ^ 42 := by
  have h1 := markN_le 1048576 k rs (fun r hr => by
    have h2 := hs.2 (rAt r) (by rw [← hx]; exact List.mem_map_of_mem hr)
    have h3 := ((RefsIn.of h) r hr).2.1
    show r.2.2.1 ≤ _
    rw [← h3]; exact h2)
  have h4 := h.1
  have h5 := hs.1
  have h6 : rs.length * (1 + 2 * 1048576) ≤ 1048576 * (1 + 2 * 1048576) := Nat.mul_le_mul_right _ (by omega)
  omega

set_option maxRecDepth 100000 in
set_option maxHeartbeats 1000000 in
theorem markChange_any (lo mid hi : Nat) (A B : Option Addr) (n c n' c' k : Nat) (ra rb : List Rf) (w : World) (h : OwnRefs w lo mid A n c ra) (h' : OwnRefs w mid hi B n' c' rb) (hl : lo ≤ mid) (hm : mid ≤ hi) (hh : hi ≤ w.heap.size) (hk1 : markN k ra ≤ 2 ^ 50) (hk2 : markN (markN k ra) rb ≤ 2 ^ 50) :
    Calls Try.prog 42 #[.agg #[.slice A n c, .slice B n' c'], .int .i64 (k : Int)] w fun e w' => e = .returned (.int .i64 ((markN (markN k ra) rb : Nat) : Int)) ∧ OwnRefs w' lo mid A n c (markRs k ra) ∧ OwnRefs w' mid hi B n' c' (markRs (markN k ra) rb) ∧ Within lo hi w w' := by
  have H := Lib.hid h; have H' := Lib.hid h'; clear h h'
  have hw1 := below1 w (.cells #[.slice A n c, .slice B n' c'] 53)
  have B1 := Blk.new w 53 #[.slice A n c, .slice B n' c']
  obtain ⟨X, hX⟩ : ∃ X, w.alloc (.cells #[.slice A n c, .slice B n' c'] 53) = X := ⟨_, rfl⟩
  have hXd := Lib.hid hX
  rw [hX] at hw1 B1; clear hX
  have hz1 := hw1.size
  have HX := Lib.hid (H.out.below hw1 (by omega)); have HX' := Lib.hid (H'.out.below hw1 hh); clear H H'
  obtain ⟨k1, e1⟩ : ∃ z, markN k ra = z := ⟨_, rfl⟩
  rw [e1] at hk1 hk2 ⊢
  obtain ⟨k2, e2⟩ : ∃ z, markN k1 rb = z := ⟨_, rfl⟩
  rw [e2] at hk2 ⊢
  have E1 := Lib.hid e1; have E2 := Lib.hid e2; clear e1 e2
  have b0 : X.cell? ⟨w.heap.size, 0, none⟩ = some (.slice A n c) := B1.cell 0
  go_enter Try.func42, Try.ntmps42
  go_wp2_with fail
  rw [hXd.out]
  refine (markAtomS_any lo mid A n c k ra _ HX.out (by omega) (by rw [E1.out]; exact hk1)).mono ?_; rintro e w2 ⟨rfl, ho2, hb2⟩
  rw [E1.out]
  have O2 := Lib.hid ho2; clear ho2
  have B2 := B1.within hb2 (.inr (by omega))
  have b1 : w2.cell? ⟨w.heap.size, 1, none⟩ = some (.slice B n' c') := B2.cell 1
  have hz2 := hb2.size
  have O2' := Lib.hid (HX'.out.keep (w' := w2) (fun b h1 h2 => hb2.block b (by omega) (.inr h1)) (Nat.le_refl _) (Nat.le_refl _))
  clear b0
  go_wp2_with fail
  refine (markAtomS_any mid hi B n' c' k1 rb _ O2'.out (by omega) (by rw [E2.out]; exact hk2)).mono ?_; rintro e w3 ⟨rfl, ho3, hb3⟩
  rw [E2.out]
  have O3 := Lib.hid ho3; clear ho3
  have O3' := Lib.hid (O2.out.keep (w' := w3) (fun b h1 h2 => hb3.block b (by omega) (.inl h2)) (Nat.le_refl _) (Nat.le_refl _))
  have hw := ((Within.of (lo := lo) (hi := hi) hw1).trans (hb2.wide (Nat.le_refl _) hm)).trans (hb3.wide hl (Nat.le_refl _))
  clear b1
  go_wp2
  go_ret; exact ⟨rfl, O3'.out, O3.out, hw⟩

set_option maxRecDepth 100000 in
set_option maxHeartbeats 1000000 in
theorem heldChange_any (A B : Option Addr) (n c n' c' k : Nat) (ra rb : List Rf) (w : World) (h : IsRefs w 0 w.heap.size A n c (markRs k ra)) (h' : IsRefs w 0 w.heap.size B n' c' (markRs (markN k ra) rb)) (hk1 : markN k ra ≤ 2 ^ 50) (hk2 : markN (markN k ra) rb ≤ 2 ^ 50) :
    Calls Try.prog 43 #[.agg #[.slice A n c, .slice B n' c'], .int .i64 (k : Int)] w fun e w' => e = .returned (.int .i64 ((markN (markN k ra) rb : Nat) : Int)) ∧ Below w.heap.size w w' := by
  have H := Lib.hid h; have H' := Lib.hid h'; clear h h'
  have hw1 := below1 w (.cells #[.slice A n c, .slice B n' c'] 53)
  have B1 := Blk.new w 53 #[.slice A n c, .slice B n' c']
  obtain ⟨X, hX⟩ : ∃ X, w.alloc (.cells #[.slice A n c, .slice B n' c'] 53) = X := ⟨_, rfl⟩
  have hXd := Lib.hid hX
  rw [hX] at hw1 B1; clear hX
  obtain ⟨k1, e1⟩ : ∃ z, markN k ra = z := ⟨_, rfl⟩
  rw [e1] at hk1 hk2 H' ⊢
  obtain ⟨k2, e2⟩ : ∃ z, markN k1 rb = z := ⟨_, rfl⟩
  rw [e2] at hk2 ⊢
  have E1 := Lib.hid e1; have E2 := Lib.hid e2; clear e1 e2
  have b0 : X.cell? ⟨w.heap.size, 0, none⟩ = some (.slice A n c) := B1.cell 0
  have hn1 : ¬ (((k1 : Nat) : Int) < 0) := by omega
  have hn2 : ¬ (((k2 : Nat) : Int) < 0) := by omega
  go_enter Try.func43, Try.ntmps43
  go_wp2_with fail
  rw [hXd.out]
  refine (heldAtomS_any A n c k ra _ (H.out.up RefE.stays hw1) (by rw [E1.out]; exact hk1)).mono ?_; rintro e w2 ⟨rfl, hb2⟩
  rw [E1.out]
  have HB2 := belowThen hw1 hb2
  have B2 := B1.below hb2
  have b1 : w2.cell? ⟨w.heap.size, 1, none⟩ = some (.slice B n' c') := B2.cell 1
  clear b0
  go_wp2_with fail
  refine (heldAtomS_any B n' c' k1 rb _ (H'.out.up RefE.stays HB2) (by rw [E2.out]; exact hk2)).mono ?_; rintro e w3 ⟨rfl, hb3⟩
  rw [E2.out]
  have HB3 := belowThen HB2 hb3
  clear b1
  go_wp2
  go_ret; exact ⟨rfl, HB3⟩

/-- A change of the lists P and Q in memory of its own, its two lists apart, handed back. -/
def OwnPPost (P Q : List At) (w : World) (e : Ending) (w' : World) : Prop := ∃ A c ra B d rb mid, e = .returned (.agg #[.slice A P.length c, .slice B Q.length d]) ∧ (OwnRefs w' w.heap.size mid A P.length c ra ∧ ra.map rAt = P) ∧ (OwnRefs w' mid w'.heap.size B Q.length d rb ∧ rb.map rAt = Q) ∧ (w.heap.size ≤ mid ∧ mid ≤ w'.heap.size) ∧ Below w.heap.size w w'

end Go.Proofs.Ytenklmednmhbkaa
