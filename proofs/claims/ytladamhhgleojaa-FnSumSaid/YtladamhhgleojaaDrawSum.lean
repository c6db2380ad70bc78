/-
  Drawing: a text of which the sum is told.
-/
import Derived.Test.YtladamhhgleojaaDrawChange
import Derived.Test.YtladamhhgleojaaL8Put
import Derived.Test.YtladamhhgleojaaSum
namespace Go.Proofs.Ytladamhhgleojaa
open Go.RowKit

theorem tail_most (b : Nat) : ∀ xs : List (List UInt8), (∀ x ∈ xs, x.length ≤ b) → (Lib.joinTail [44] xs).length ≤ (b + 1) * xs.length
  | [], _ => by simp [Lib.joinTail]
  | x :: r, h => by
    have h1 := h x (by simp)
    have h2 := tail_most b r (fun y hy => h y (by simp [hy]))
    have h3 : Lib.joinTail [44] (x :: r) = [44] ++ x ++ Lib.joinTail [44] r := by simp [Lib.joinTail]
    rw [h3]
    simp only [List.length_append, List.length_cons, List.length_nil, Nat.mul_add]
    omega

theorem joined_most (b : Nat) (xs : List (List UInt8)) (h : ∀ x ∈ xs, x.length ≤ b) : (Lib.join xs [44]).length ≤ (b + 1) * xs.length := by
  cases xs with
  | nil => simp [Lib.join_nil]
  | cons x r =>
    have h1 := h x (by simp)
    have h2 := tail_most b r (fun y hy => h y (by simp [hy]))
    rw [Lib.join_cons]
    simp only [List.length_append, List.length_cons, Nat.mul_add]
    omega

theorem short_text {xs : List At} (h : ShortAts xs) : ∀ a ∈ xs, (textL a).length ≤ 128 := by
  intro a ha
  obtain ⟨h1, h2, h3⟩ := h a ha
  have h5 := joined_most 16 (tmNames a.2) (fun x hx => by
    unfold tmNames at hx
    obtain ⟨t, ht, rfl⟩ := List.mem_map.1 hx
    have := h3 t ht
    simpa using this)
  have h6 : (tmNames a.2).length = a.2.length := by unfold tmNames; simp
  have h7 : a.1.data.toList.length ≤ 16 := by simpa using h1
  have h8 : (16 + 1) * (tmNames a.2).length ≤ 51 := by rw [h6]; omega
  unfold textL
  simp only [List.length_append, List.length_cons, List.length_nil]
  omega

theorem five_new (w : World) (t : TypeId) (a b c d e : ByteArray) : ∀ i, i < 5 → ∃ s, (w.alloc (.cells #[.string a, .string b, .string c, .string d, .string e] t)).cell? ⟨w.heap.size, i, none⟩ = some (.string s) ∧ (s = a ∨ s = b ∨ s = c ∨ s = d ∨ s = e) := by
  intro i hi
  match i, hi with
  | 0, _ => exact ⟨a, by simp [go_sem], by simp⟩
  | 1, _ => exact ⟨b, by simp [go_sem], by simp⟩
  | 2, _ => exact ⟨c, by simp [go_sem], by simp⟩
  | 3, _ => exact ⟨d, by simp [go_sem], by simp⟩
  | 4, _ => exact ⟨e, by simp [go_sem], by simp⟩

set_option maxRecDepth 100000 in
theorem drawSum_any (A : Option Addr) (n c : Nat) (w : World) (h : IsBytes w w.heap.size A n c) :
    Calls Try.prog 24 #[.slice A n c] w (fun e w' => ∃ s, e = .returned (.string s) ∧ s.size ≤ maxLen ∧ Below w.heap.size w w') := by
  go_enter Try.func24, Try.ntmps24
  go_wp2_with fail
  refine (open_any A n c _ h).mono ?_; rintro e w1 ⟨b, n', ⟨rfl, hb⟩, hr, hb1⟩
  have HB1 := Lib.hid hb1; clear hb1
  have hbw : b < w1.heap.size := hr.1
  go_wp2_with fail
  refine (change_drawS b A n' c 0 w1 hr (by omega)).mono ?_; rintro e w2 ⟨M, A1, k1, c1, cs, A2, k2, c2, gs, p', ⟨rfl, hk1, hk2, hp⟩, ⟨hM1, hM2⟩, hI1, hO2, hr2, hg2, hs1, hs2⟩
  obtain ⟨L2, d2, e2, hI2⟩ := hO2.atoms
  injection e2 with e2 e3 e4
  subst e2; subst e3; subst e4
  have hc1 := hI1.1
  have h1 : IsAtoms w2 0 w2.heap.size A1 k1 c1 cs := atoms_wide hI1 (Nat.zero_le _) hM2
  have h2 : IsAtoms w2 0 w2.heap.size A2 gs.length c2 gs := atoms_wide hI2 (Nat.zero_le _) (Nat.le_refl _)
  have HG := Lib.hid hg2; have HR := Lib.hid hr2; have HS1 := Lib.hid hs1; have HS2 := Lib.hid hs2
  clear hI1 hO2 hI2 hg2 hr2 hr
  go_wp2_with fail
  refine (l8Put_any A1 k1 c1 A2 gs.length c2 cs gs w2 h1 h2 (by omega) (by omega) (short_text hs1) (short_text hs2)).mono ?_; rintro e w3 ⟨rfl, hb3⟩
  have hL : (⟨(chL cs gs).toArray⟩ : ByteArray).size ≤ 2600 := by
    show (chL cs gs).toArray.size ≤ _
    have e1 := signL_len 45 gs (short_text HS2.out)
    have e2 := signL_len 43 cs (short_text HS1.out)
    unfold chL
    simp only [List.size_toArray, List.length_append]
    omega
  obtain ⟨u, hu⟩ : ∃ u : ByteArray, ⟨(chL cs gs).toArray⟩ = u := ⟨_, rfl⟩
  rw [hu] at hL ⊢
  clear hu h1 h2 hs1 hs2
  have HR3 := Lib.hid (HR.out.below hb3); have HG3 := Lib.hid (grownTrans HG.out (grownBelow hb3 (some b)))
  have hz3 : w1.heap.size ≤ w3.heap.size := HG3.out.size
  clear hb3
  go_wp2_with fail
  refine (of_any (fun s => s.size ≤ maxLen) b w3.heap.size 5 A n' c p' _ (HR3.out.below (below1 _ _)) (by omega) (by omega) (by omega) (by omega) (fun i hi => by
    obtain ⟨s, e, hs⟩ := five_new w3 _ ⟨#[]⟩ ⟨#[97]⟩ ⟨#[48, 58]⟩ ⟨#[97, 98, 99]⟩ u i hi
    refine ⟨s, e, ?_⟩
    unfold maxLen
    rcases hs with rfl | rfl | rfl | rfl | rfl
    · decide
    · decide
    · decide
    · decide
    · omega)).mono ?_; rintro e w4 ⟨s, ⟨rfl, hs⟩, hr4, hg4⟩
  go_wp2
  go_ret
  refine ⟨s, rfl, hs, ?_⟩
  exact HB1.out.grown (grownTrans (grownTrans HG3.out (grownBelow (below1 _ _) (some b))) hg4) HB1.out.size (fun k hk => by injection hk with hk; omega)

end Go.Proofs.Ytladamhhgleojaa
