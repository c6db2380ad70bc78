/-
  Lists of texts as the law compares, marks and reads them again.
-/
import Derived.Test.YtnhbnhibphjljaaGreatDoorTexts
import Derived.Test.YtnhbnhibphjljaaGreatDoorWithin
namespace Go.Proofs.YtnhbnhibphjljaaGreatDoor
open Go.RowKit

/-- A list of texts in memory of its own. -/
def OwnTx (w : World) (lo hi : Nat) (A : Option Addr) (n c : Nat) (ls : List ByteArray) : Prop :=
  ls.length = n ∧ n ≤ c ∧ c ≤ maxLen ∧ (∀ s ∈ ls, s.size ≤ maxLen) ∧ (0 < n → ∃ g k f, A = some ⟨g, 0, none⟩ ∧ lo ≤ g ∧ g < hi ∧ w.rowIs g 9 k f ∧ n ≤ k ∧ ∀ i s, ls[i]? = some s → f i = .string s)

section
variable {w w' : World} {lo hi lo' hi' n c : Nat} {A : Option Addr} {ls : List ByteArray}

theorem OwnTx.keep (h : OwnTx w lo hi A n c ls) (hk : ∀ b, lo ≤ b → b < hi → w'.heap[b]? = w.heap[b]?) (h1 : lo' ≤ lo) (h2 : hi ≤ hi') : OwnTx w' lo' hi' A n c ls := by
  obtain ⟨a, b, d, x, e⟩ := h
  refine ⟨a, b, d, x, fun hn => ?_⟩
  obtain ⟨g, k, f, e1, e2, e3, e4, e5⟩ := e hn
  exact ⟨g, k, f, e1, by omega, by omega, e4.of_block (hk g e2 e3), e5⟩

theorem OwnTx.below {B : Nat} (h : OwnTx w lo hi A n c ls) (hb : Below B w w') (hh : hi ≤ B) : OwnTx w' lo hi A n c ls :=
  h.keep (fun b _ hb' => hb.block b (by omega)) (Nat.le_refl _) (Nat.le_refl _)

/-- What it reads as. -/
theorem OwnTx.texts (h : OwnTx w lo hi A n c ls) : IsTexts w lo hi A n c ls := by
  obtain ⟨a, b, d, _, e⟩ := h
  refine ⟨a, b, d, fun hn => ?_⟩
  obtain ⟨g, k, f, e1, e2, e3, e4, e5, e6⟩ := e hn
  refine ⟨_, e1, e2, e3, fun i s hs => ?_⟩
  have hi := (List.getElem?_eq_some_iff.1 hs).1
  have a0 : ∀ j, (⟨g, 0, none⟩ : Addr).add j = ⟨g, j, none⟩ := fun j => by unfold Addr.add; split <;> simp_all
  show w.cell? _ = _
  rw [a0, Nat.mul_one, e4.cell (by omega), e6 _ _ hs]

theorem OwnTx.of_row {base : Nat} {v : Value} (h : w.ownsRow base 9 1 v n (tcl ls)) (hn : n = ls.length) (hs : ∀ s ∈ ls, s.size ≤ maxLen) (hb : lo ≤ base) : ∃ A c, v = .slice A n c ∧ OwnTx w lo w.heap.size A n c ls := by
  subst hn
  rcases h.2 with ⟨rfl, h0⟩ | ⟨g, cap, cur, rfl, hbg, hgb, hle, hcap, hsz, htk⟩
  · exact ⟨none, 0, by rw [h0], rfl, by omega, by unfold maxLen; omega, hs, fun hp => absurd hp (by omega)⟩
  · have hlt := (Array.getElem?_eq_some_iff.1 hgb).1
    refine ⟨_, cap, rfl, rfl, hle, hcap, hs, fun _ => ⟨g, cap * 1, fun i => cur[i]?.getD undef, rfl, by omega, hlt, ⟨cur, hgb, hsz, fun i hi => by simp [hsz ▸ hi]⟩, by omega, fun j s hj => ?_⟩⟩
    have hu : (tcl ls)[j]? = some (.string s) := by unfold tcl; rw [List.getElem?_map, hj]; rfl
    have hjl := (List.getElem?_eq_some_iff.1 hj).1
    rw [← htk, List.getElem?_take, if_pos (by omega)] at hu
    have : cur[j]? = some (.string s) := by simpa using hu
    simp [this]
end

/-- Marks, one behind the other. -/
def markXs (k n : Nat) : List ByteArray := (List.range n).map fun i => markB (k + i)
theorem markXs_len (k n : Nat) : (markXs k n).length = n := by unfold markXs; simp
theorem markXs_at {k n i : Nat} (h : i < n) : (markXs k n)[i]? = some (markB (k + i)) := by unfold markXs; simp [h]

set_option maxHeartbeats 1000000 in
theorem eqStringS_same (A B : Option Addr) (n c n' c' : Nat) (ls : List ByteArray) (w : World) (h : IsTexts w 0 w.heap.size A n c ls) (h' : IsTexts w 0 w.heap.size B n' c' ls) :
    Calls Tryz.prog 21 #[.slice A n c, .slice B n' c'] w (BoolPost true w) := by
  have hm := h.len
  unfold maxLen at hm
  have hnn : n = n' := by rw [← h.1, ← h'.1]
  subst hnn
  have H := Lib.hid h; clear h
  have H' := Lib.hid h'; clear h'
  go_enter Tryz.func21, Tryz.ntmps21
  go_wp2
  go_loopw [5] (fun i wr => ∃ k : Nat, k ≤ n ∧ i = .int .i64 (k : Int) ∧ Below w.heap.size w wr) (fun i _ => n - (intOf i).toNat)
  case atStart => exact ⟨0, Nat.zero_le _, rfl, Below.refl _ _⟩
  case round =>
    obtain ⟨k, hk, rfl, hb⟩ := hrel
    by_cases hlt : k < n
    · have hlt2 : (k : Int) < (n : Int) := by omega
      obtain ⟨p, t, hA, -, -, hg, hE⟩ := (H.out.below TextE.stays hb (Nat.le_refl _)).at_ hlt
      obtain ⟨p', t', hA', -, -, hg', hE'⟩ := (H'.out.below TextE.stays hb (Nat.le_refl _)).at_ hlt
      subst hA; subst hA'
      rw [hg] at hg'
      injection hg' with hg'
      subst hg'
      have c1 : wr.drew.cell? (p.add k) = some (.string t) := by have := hE; unfold TextE at this; rwa [Nat.mul_one] at this
      have c2 : wr.drew.cell? (p'.add k) = some (.string t) := by have := hE'; unfold TextE at this; rwa [Nat.mul_one] at this
      have hbd := hb.drew
      clear hg hE hE'
      go_wp2_with fail
      go_region_with fail
      all_goals go_wp2
      all_goals (go_roundw)
      all_goals first
        | exact ⟨k + 1, by omega, by go_num, hbd⟩
        | (simp [intOf]; omega)
    · go_wp2
      go_ret
      exact ⟨rfl, hb⟩

set_option maxRecDepth 100000 in
set_option maxHeartbeats 1000000 in
theorem heldStringS_any (A : Option Addr) (n c k : Nat) (w : World) (h : IsTexts w 0 w.heap.size A n c (markXs k n)) (hk : k + n ≤ 2 ^ 62) :
    Calls Tryz.prog 24 #[.slice A n c, .int .i64 (k : Int)] w fun e w' => e = .returned (.int .i64 ((k + n : Nat) : Int)) ∧ Below w.heap.size w w' := by
  have H := Lib.hid h; clear h
  go_enter Tryz.func24, Tryz.ntmps24
  go_wp2
  go_loopw [1, 5] (fun x y wr => ∃ i : Nat, i ≤ n ∧ x = .int .i64 ((k + i : Nat) : Int) ∧ y = .int .i64 (i : Int) ∧ Below w.heap.size w wr) (fun _ y _ => n - (intOf y).toNat)
  case atStart => exact ⟨0, Nat.zero_le _, rfl, rfl, Below.refl _ _⟩
  case round =>
    obtain ⟨i, hi, rfl, rfl, hb⟩ := hrel
    by_cases hlt : i < n
    · obtain ⟨p, t, hA, hlo, hhi, hg, hE⟩ := (H.out.below TextE.stays hb (Nat.le_refl _)).at_ hlt
      subst hA
      rw [markXs_at hlt] at hg
      injection hg with hg
      subst hg
      have x1 : wr.drew.cell? (p.add i) = some (.string (markB (k + i))) := by have := hE; unfold TextE at this; rwa [Nat.mul_one] at this
      have hbd := hb.drew
      have hlt2 : (i : Int) < (n : Int) := by omega
      clear hE
      go_wp2
      refine wp_region_held_drew (S := fun W => W.cell? (p.add i) = some (.string (markB (k + i)))) (by kernel_rfl) x1 ?_
      intro hS_
      refine takeV (i := 0) (v := .slice (some p) n c) (by (simp only [List.getElem?_toArray, List.getElem?_cons_zero]); rfl) (by kernel_rfl) (by kernel_rfl) (by kernel_rfl) (by rfl) (fun _ _ _ h => h) (Or.inl ⟨by rfl, ?_⟩) hS_ (by (simp only [List.setIfInBounds_toArray, List.set_cons_succ, List.set_cons_zero]); rfl) ?_
      · intro w_ hSw_; (try dsimp only at hSw_); go_simp
      refine takeV (i := 1) (v := .int .i64 (i : Int)) (by (simp only [List.getElem?_toArray, List.getElem?_cons_succ, List.getElem?_cons_zero]); rfl) (by kernel_rfl) (by kernel_rfl) (by kernel_rfl) (by rfl) (fun _ _ _ h => h) (Or.inl ⟨by rfl, ?_⟩) hS_ (by (simp only [List.setIfInBounds_toArray, List.set_cons_succ, List.set_cons_zero]); rfl) ?_
      · intro w_ hSw_; (try dsimp only at hSw_); go_simp
      refine takeV (i := 2) (v := .pointer (some (p.add i))) (by (simp only [List.getElem?_toArray, List.getElem?_cons_succ, List.getElem?_cons_zero]); rfl) (by kernel_rfl) (by kernel_rfl) (by kernel_rfl) (by rfl) (fun _ _ _ h => h) (Or.inl ⟨by rfl, ?_⟩) hS_ (by (simp only [List.setIfInBounds_toArray, List.set_cons_succ, List.set_cons_zero]); rfl) ?_
      · intro w_ hSw_; (try dsimp only at hSw_); go_simp
      refine takeV (i := 3) (v := .string (markB (k + i))) (by (simp only [List.getElem?_toArray, List.getElem?_cons_succ, List.getElem?_cons_zero]); rfl) (by kernel_rfl) (by kernel_rfl) (by kernel_rfl) (by rfl) (fun _ _ _ h => h) (Or.inl ⟨by rfl, ?_⟩) hS_ (by (simp only [List.setIfInBounds_toArray, List.set_cons_succ, List.set_cons_zero]); rfl) ?_
      · intro w_ hSw_; (try dsimp only at hSw_); go_simp
      refine takeV (i := 4) (v := .int .i64 ((k : Int) + (i : Int))) (by (simp only [List.getElem?_toArray, List.getElem?_cons_succ, List.getElem?_cons_zero]); rfl) (by kernel_rfl) (by kernel_rfl) (by kernel_rfl) (by rfl) (fun _ _ _ h => h) (Or.inl ⟨by rfl, ?_⟩) hS_ (by (simp only [List.setIfInBounds_toArray, List.set_cons_succ, List.set_cons_zero]); rfl) ?_
      · intro w_ hSw_; (try dsimp only at hSw_); go_simp
      refine wpAnyH_ready (rs := [5]) (by kernel_rfl) (by simp) ?_
      refine AllReadyH.cons (o := _) (by (simp only [List.getElem?_toArray, List.getElem?_cons_succ, List.getElem?_cons_zero]); rfl) (fun K_ hK_ => ?_) AllReadyH.nil
      rw [if_pos (by rfl)]
      go_simp
      go_at_call 70
      refine (markText_is _ (k + i) (by omega) (by omega) _).mono ?_; rintro e w1 ⟨rfl, hb1⟩
      have y1 := (hb1.cell (p := p.add i) (by rw [block_add]; exact Nat.lt_of_lt_of_le hhi hb.size)).trans x1
      refine hK_.out _ _ y1 (fun hS2_ => ?_)
      clear hK_ hS_
      have hS_ := hS2_; clear hS2_
      refine takeV (i := 6) (v := .bool false) (by (simp only [List.getElem?_toArray, List.getElem?_cons_succ, List.getElem?_cons_zero]); rfl) (by kernel_rfl) (by kernel_rfl) (by kernel_rfl) (by rfl) (fun _ _ _ h => h) (Or.inl ⟨by rfl, ?_⟩) hS_ (by (simp only [List.setIfInBounds_toArray, List.set_cons_succ, List.set_cons_zero]); rfl) ?_
      · intro w_ hSw_; (try dsimp only at hSw_); go_simp
      refine wpAnyH_done (by kernel_rfl) ?_ _
      go_wp2
      go_roundw
      case rel => exact ⟨i + 1, by omega, by go_num, by go_num, belowThen hbd hb1⟩
      case measure => simp [intOf]; omega
    · have hin : i = n := by omega
      subst hin
      go_wp2
      go_ret; exact ⟨by go_num, hb⟩

set_option maxRecDepth 100000 in
set_option maxHeartbeats 1000000 in
theorem markStringS_any (lo hi : Nat) (A : Option Addr) (n c k : Nat) (ls : List ByteArray) (w : World) (h : OwnTx w lo hi A n c ls) (hh : hi ≤ w.heap.size) (hk : k + n ≤ 2 ^ 62) :
    Calls Tryz.prog 23 #[.slice A n c, .int .i64 (k : Int)] w fun e w' => e = .returned (.int .i64 ((k + n : Nat) : Int)) ∧ OwnTx w' lo hi A n c (markXs k n) ∧ Within lo hi w w' := by
  obtain ⟨h1, h2, h3, h4, h5⟩ := h
  have hcm := h3
  unfold maxLen at hcm
  by_cases h0 : 0 < n
  · obtain ⟨g, m, f, rfl, e2, e3, e4, e5, e6⟩ := h5 h0
    have HR := Lib.hid e4; clear e4 e6 h5
    go_enter Tryz.func23, Tryz.ntmps23
    go_wp2
    go_loopw [1, 5] (fun x y wr => ∃ (i : Nat) (f' : Nat → Value), i ≤ n ∧ x = .int .i64 ((k + i : Nat) : Int) ∧ y = .int .i64 (i : Int) ∧ wr.rowIs g 9 m f' ∧ (∀ j, j < i → f' j = .string (markB (k + j))) ∧ Within lo hi w wr) (fun _ y _ => n - (intOf y).toNat)
    case atStart => exact ⟨0, f, Nat.zero_le _, rfl, rfl, HR.out, fun j hj => absurd hj (Nat.not_lt_zero _), Within.refl⟩
    case round =>
      obtain ⟨i, f', hi', rfl, rfl, hr, hf, hw⟩ := hrel
      have HF := Lib.hid hf; clear hf
      by_cases hlt : i < n
      · have hlt2 : (i : Int) < (n : Int) := by omega
        have hwz := hw.size
        go_wp2_with fail
        refine (markText_is _ (k + i) (by omega) (by omega) _).mono ?_; rintro e w1 ⟨rfl, hb1⟩
        have hr1 := hr.of_block (hb1.block g (by omega))
        have c1 := hr1.cell (i := i) (by omega)
        have z1 := hr1.frozen i
        have hr2 := hr1.set i (.string (markB (k + i)))
        have hw2 := (hw.trans (Within.of hb1)).trans (Within.row (grownSet w1 g i (.string (markB (k + i)))) e2 e3)
        have HR2 := Lib.hid hr2; clear hr hr1 hr2 hb1
        go_wp2
        go_roundw
        case rel => exact ⟨i + 1, _, by omega, by go_num, by go_num, HR2.out, fun j hj => by
          by_cases e : j = i
          · subst e; simp
          · rw [if_neg e]; exact HF.out j (by omega), hw2⟩
        case measure => simp [intOf]; omega
      · have hin : i = n := by omega
        subst hin
        go_wp2
        go_ret
        exact ⟨by go_num, ⟨markXs_len _ _, h2, h3, fun s hs => by
          unfold markXs at hs
          obtain ⟨j, hj, rfl⟩ := List.mem_map.1 hs
          exact markB_size _ (by have := List.mem_range.1 hj; omega), fun _ => ⟨g, m, f', rfl, e2, e3, hr, e5, fun j s hs => by
          have hj : j < i := by have := (List.getElem?_eq_some_iff.1 hs).1; rwa [markXs_len] at this
          rw [markXs_at hj] at hs
          injection hs with hs
          subst hs
          exact HF.out j hj⟩⟩, hw⟩
  · have hn : n = 0 := by omega
    subst hn
    go_enter Tryz.func23, Tryz.ntmps23
    go_wp2
    go_loop [1, 5] (fun x y => x = .int .i64 (k : Int) ∧ y = .int .i64 0) (fun _ _ => 0)
    case atStart => exact ⟨rfl, rfl⟩
    case round =>
      obtain ⟨rfl, rfl⟩ := hrel
      go_wp2
      go_ret; exact ⟨by go_num, ⟨markXs_len _ _, h2, h3, fun s hs => by simp [markXs] at hs, fun h => absurd h (Nat.lt_irrefl _)⟩, Within.refl⟩

end Go.Proofs.YtnhbnhibphjljaaGreatDoor
