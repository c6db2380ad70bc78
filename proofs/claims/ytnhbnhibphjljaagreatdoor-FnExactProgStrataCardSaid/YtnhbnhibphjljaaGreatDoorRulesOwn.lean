/-
  What marks leave as it was: every row keeps its kind and its length, every slice in a row that is no row of terms leads where it led. (Lists of parts and of rules can so be marked without telling apart which blocks they share.)
  A copy of rules lies in memory of its own, in which marks may be written.
-/
import Derived.Test.YtnhbnhibphjljaaGreatDoorPartsOwn
import Derived.Test.YtnhbnhibphjljaaGreatDoorRulesS
namespace Go.Proofs.YtnhbnhibphjljaaGreatDoor
open Go.RowKit

/-- Two values of one make: the same, or two texts, or two truths. -/
def AlikeV (u v : Value) : Prop := u = v ∨ (∃ s t, u = .string s ∧ v = .string t) ∨ ∃ a b, u = .bool a ∧ v = .bool b

theorem AlikeV.trans {u v x : Value} (h : AlikeV u v) (k : AlikeV v x) : AlikeV u x := by
  rcases h with rfl | ⟨s, t, rfl, rfl⟩ | ⟨a, b, rfl, rfl⟩
  · exact k
  · rcases k with rfl | ⟨s', t', e, rfl⟩ | ⟨a', b', e, rfl⟩
    · exact .inr (.inl ⟨s, t, rfl, rfl⟩)
    · exact .inr (.inl ⟨s, t', rfl, rfl⟩)
    · cases e
  · rcases k with rfl | ⟨s', t', e, rfl⟩ | ⟨a', b', e, rfl⟩
    · exact .inr (.inr ⟨a, b, rfl, rfl⟩)
    · cases e
    · exact .inr (.inr ⟨a, b', rfl, rfl⟩)

theorem AlikeV.slice {A : Option Addr} {n c : Nat} {v : Value} (h : AlikeV (.slice A n c) v) : v = .slice A n c := by
  rcases h with rfl | ⟨s, t, e, _⟩ | ⟨a, b, e, _⟩
  · rfl
  · cases e
  · cases e
theorem AlikeV.text {s : ByteArray} {v : Value} (h : AlikeV (.string s) v) : ∃ t, v = .string t := by
  rcases h with rfl | ⟨s', t, e, rfl⟩ | ⟨a, b, e, _⟩
  · exact ⟨_, rfl⟩
  · exact ⟨_, rfl⟩
  · cases e
theorem AlikeV.truth {s : Bool} {v : Value} (h : AlikeV (.bool s) v) : ∃ t, v = .bool t := by
  rcases h with rfl | ⟨s', t, e, _⟩ | ⟨a, b, e, rfl⟩
  · exact ⟨_, rfl⟩
  · cases e
  · exact ⟨_, rfl⟩

/-- MarksIn were written between lo and hi. -/
structure MarksIn (lo hi : Nat) (w w' : World) : Prop where
  within : Within lo hi w w'
  rows : ∀ b T m f, w.rowIs b T m f → ∃ f', w'.rowIs b T m f' ∧ (T ≠ 64 → ∀ j, j < m → AlikeV (f j) (f' j))

section
variable {lo hi : Nat} {w w' w'' : World}

theorem MarksIn.refl : MarksIn lo hi w w := ⟨Within.refl, fun _ _ _ f h => ⟨f, h, fun _ _ _ => .inl rfl⟩⟩

theorem MarksIn.trans (h : MarksIn lo hi w w') (k : MarksIn lo hi w' w'') : MarksIn lo hi w w'' := by
  refine ⟨h.within.trans k.within, fun b T m f hr => ?_⟩
  obtain ⟨f1, h1, a1⟩ := h.rows b T m f hr
  obtain ⟨f2, h2, a2⟩ := k.rows b T m f1 h1
  exact ⟨f2, h2, fun hT j hj => (a1 hT j hj).trans (a2 hT j hj)⟩

theorem MarksIn.of (h : Below w.heap.size w w') : MarksIn lo hi w w' :=
  ⟨Within.of h, fun b _ _ f hr => ⟨f, hr.of_block (h.block b hr.lt), fun _ _ _ => .inl rfl⟩⟩

theorem row_one {b T T' m m' : Nat} {f f' : Nat → Value} (h : w.rowIs b T m f) (h' : w.rowIs b T' m' f') : T = T' ∧ m = m' ∧ ∀ j, j < m → f j = f' j := by
  obtain ⟨c, h1, h2, h3⟩ := h
  obtain ⟨c', k1, k2, k3⟩ := h'
  rw [h1] at k1
  injection k1 with k1
  injection k1 with e1 e2
  subst e1; subst e2
  refine ⟨rfl, by omega, fun j hj => ?_⟩
  have := (h3 j hj).symm.trans (k3 j (by omega))
  injection this

theorem MarksIn.set {g n T : Nat} {f : Nat → Value} (hr : w.rowIs g T n f) (h1 : lo ≤ g) (h2 : g < hi) (i : Nat) (v : Value) (ha : AlikeV (f i) v) : MarksIn lo hi w (w.setCell ⟨g, i, none⟩ v) := by
  refine ⟨Within.row (grownSet w g i v) h1 h2, fun b T' m f' hr' => ?_⟩
  by_cases e : b = g
  · subst e
    obtain ⟨rfl, rfl, hf⟩ := row_one hr hr'
    refine ⟨_, hr'.set i v, fun _ j hj => ?_⟩
    by_cases ej : j = i
    · subst ej; rw [← hf j hj]; simpa using ha
    · simp only [if_neg ej]; exact .inl rfl
  · exact ⟨f', hr'.of_block (Below.heap_setCell _ _ _ b e), fun _ _ _ => .inl rfl⟩

theorem MarksIn.terms {g m : Nat} {f f' : Nat → Value} (hr : w.rowIs g 64 m f) (hr' : w'.rowIs g 64 m f') (hg : w.grownBy w' (some g)) (h1 : lo ≤ g) (h2 : g < hi) : MarksIn lo hi w w' := by
  refine ⟨Within.row hg h1 h2, fun b T k f1 h => ?_⟩
  by_cases e : b = g
  · subst e
    obtain ⟨rfl, rfl, _⟩ := row_one hr h
    exact ⟨f', hr', fun hT => absurd rfl hT⟩
  · exact ⟨f1, h.of_block (hg.block b h.lt (fun e' => e (by injection e'))), fun _ _ _ => .inl rfl⟩

theorem RowAt.marks {l h T m : Nat} {A : Option Addr} (hA : RowAt w l h T A m) (hm : MarksIn lo hi w w') : RowAt w' l h T A m := by
  obtain ⟨g, k, f, e, a, b, hr, x⟩ := hA
  obtain ⟨f', hr', _⟩ := hm.rows g T k f hr
  exact ⟨g, k, f', e, a, b, hr', x⟩

theorem PartRow.marks {l h g n : Nat} (hP : PartRow w l h g n) (hm : MarksIn lo hi w w') : PartRow w' l h g n := by
  obtain ⟨h1, h2, f, hr, hp⟩ := hP
  obtain ⟨f', hr', ha⟩ := hm.rows g _ _ f hr
  have ha := ha (by decide)
  refine ⟨h1, h2, f', hr', fun i hi => ?_⟩
  obtain ⟨b, s, A, k, c, e1, e2, e3, e4, e5⟩ := hp i hi
  obtain ⟨b', hb⟩ := (e1 ▸ ha (i * 3) (by omega)).truth
  obtain ⟨s', hs⟩ := (e2 ▸ ha (i * 3 + 1) (by omega)).text
  exact ⟨b', s', A, k, c, hb, hs, (e3 ▸ ha (i * 3 + 2) (by omega)).slice, e4, fun h0 => (e5 h0).marks hm⟩
end

set_option maxRecDepth 100000 in
set_option maxHeartbeats 2000000 in
theorem markPartS_marks (lo hi g n c k : Nat) (w : World) (z : Int) (hz : z = (k : Int)) (h : PartRow w lo hi g n) (hk : k + n * 2097154 ≤ 2 ^ 62) :
    Calls Tryz.prog 72 #[.slice (some ⟨g, 0, none⟩) n c, .int .i64 z] w fun e w' => (∃ k' : Nat, e = .returned (.int .i64 (k' : Int)) ∧ k ≤ k' ∧ k' ≤ k + n * 2097154) ∧ MarksIn lo hi w w' := by
  subst hz
  have H := Lib.hid h; clear h
  go_enter Tryz.func72, Tryz.ntmps72
  go_wp2
  go_loopw [1, 5] (fun x y wr => ∃ i q : Nat, i ≤ n ∧ x = .int .i64 (q : Int) ∧ y = .int .i64 (i : Int) ∧ k ≤ q ∧ q ≤ k + i * 2097154 ∧ MarksIn lo hi w wr) (fun _ y _ => n - (intOf y).toNat)
  case atStart => exact ⟨0, k, Nat.zero_le _, rfl, rfl, Nat.le_refl _, by omega, MarksIn.refl⟩
  case round =>
    obtain ⟨i, q, hi', rfl, rfl, hq1, hq2, hw⟩ := hrel
    by_cases hlt : i < n
    · have hlt2 : (i : Int) < (n : Int) := by omega
      have hwz := hw.within.size
      have hq3 : q + 2097154 ≤ 2 ^ 62 := by omega
      obtain ⟨bv, hbv⟩ : ∃ bv, ((q : Int) % 3 == 0) = bv := ⟨_, rfl⟩
      obtain ⟨hlo, hhi, f, hr, hp⟩ := H.out.marks hw
      obtain ⟨b0, s0, _, _, _, e0, _, _, _, _⟩ := hp i hlt
      have c0 := hr.cell (i := i * 3) (by omega)
      have z0 := hr.frozen (i * 3)
      have hw1 := hw.trans (MarksIn.set hr hlo hhi (i * 3) (.bool bv) (by rw [e0]; exact .inr (.inr ⟨_, _, rfl, rfl⟩)))
      clear hr hp e0
      go_wp2_with fail
      refine (markText_is _ (q + 1) (by omega) (by omega) _).mono ?_; rintro e w1 ⟨rfl, hb1⟩
      have hw2 := hw1.trans (MarksIn.of hb1)
      have hz2 := hw2.within.size
      obtain ⟨_, _, f2, hr2, hp2⟩ := H.out.marks hw2
      obtain ⟨b1, s1, A3, n3, c3, _, e1, e3, e4, e5⟩ := hp2 i hlt
      have c1 := hr2.cell (i := i * 3 + 1) (by omega)
      have z1 := hr2.frozen (i * 3 + 1)
      have c2 := hr2.cell (i := i * 3 + 2) (by omega)
      rw [e3] at c2
      have hw3 := hw2.trans (MarksIn.set hr2 hlo hhi (i * 3 + 1) (.string (markB (q + 1))) (by rw [e1]; exact .inr (.inl ⟨_, _, rfl, rfl⟩)))
      have c2' : (w1.setCell ⟨g, i * 3 + 1, none⟩ (.string (markB (q + 1)))).cell? ⟨g, i * 3 + 2, none⟩ = some (.slice A3 n3 c3) := by
        rw [World.cell?_setCell_other _ _ _ _ (fun e => by injection e with _ e; omega)]; exact c2
      have e6 : 0 < n3 → RowAt (w1.setCell ⟨g, i * 3 + 1, none⟩ (.string (markB (q + 1)))) lo hi 64 A3 (n3 * 2) := fun h0 =>
        (e5 h0).marks (MarksIn.set hr2 hlo hhi (i * 3 + 1) (.string (markB (q + 1))) (by rw [e1]; exact .inr (.inl ⟨_, _, rfl, rfl⟩)))
      have hz3 : (w1.setCell ⟨g, i * 3 + 1, none⟩ (.string (markB (q + 1)))).heap.size = w1.heap.size := size_setCell _ _ _
      clear hr2 hp2 c0 z0 e3 hb1 e1 e5 hw1 hw2
      go_wp2_with fail
      by_cases h0 : 0 < n3
      · obtain ⟨g', k', f', x1, x2, x3, x4, x5⟩ := e6 h0
        subst x1
        refine (markTermS_is g' k' n3 c3 (q + 2) f' _ _ (by omega) x4 x5 (by omega)).mono ?_; rintro e w4 ⟨rfl, ⟨f4, r4, _⟩, hg4⟩
        have hw4 := hw3.trans (MarksIn.terms x4 r4 hg4 x2 x3)
        clear c1 z1 c2 c2' x4 r4 e6
        go_wp2
        go_roundw
        case rel => exact ⟨i + 1, q + 2 + 2 * n3, by omega, by go_num, by go_num, by omega, by omega, hw4⟩
        case measure => simp [intOf]; omega
      · have hn0 : n3 = 0 := by omega
        subst hn0
        refine (markTermS_zero A3 c3 (q + 2) _ _ (by omega)).mono ?_; rintro e w4 ⟨rfl, rfl⟩
        clear c1 z1 c2 c2' e6
        go_wp2
        go_roundw
        case rel => exact ⟨i + 1, q + 2, by omega, by go_num, by go_num, by omega, by omega, hw3⟩
        case measure => simp [intOf]; omega
    · have hin : i = n := by omega
      subst hin
      go_wp2
      go_ret; exact ⟨⟨q, rfl, hq1, hq2⟩, hw⟩

/-- The three cells of a rule that may be written, and what they lead on to. -/
def RuleAt (w : World) (lo hi : Nat) (f : Nat → Value) (i : Nat) : Prop :=
  ∃ s A n c g m d, f (i * 3) = .string s ∧ f (i * 3 + 1) = .slice A n c ∧ f (i * 3 + 2) = .slice (some ⟨g, 0, none⟩) m d ∧ n ≤ 1048576 ∧ m ≤ 1048576 ∧ (0 < n → RowAt w lo hi 64 A (n * 2)) ∧ PartRow w lo hi g m

/-- A row of rules that may be written, and what it leads on to. -/
def RuleRow (w : World) (lo hi g n : Nat) : Prop :=
  lo ≤ g ∧ g < hi ∧ ∃ f, w.rowIs g 72 (n * 3) f ∧ ∀ i, i < n → RuleAt w lo hi f i

theorem RuleRow.marks {lo hi l h g n : Nat} {w w' : World} (hP : RuleRow w l h g n) (hm : MarksIn lo hi w w') : RuleRow w' l h g n := by
  obtain ⟨h1, h2, f, hr, hp⟩ := hP
  obtain ⟨f', hr', ha⟩ := hm.rows g _ _ f hr
  have ha := ha (by decide)
  refine ⟨h1, h2, f', hr', fun i hi => ?_⟩
  obtain ⟨s, A, k, c, g', m, d, e1, e2, e3, e4, e5, e6, e7⟩ := hp i hi
  obtain ⟨s', hs⟩ := (e1 ▸ ha (i * 3) (by omega)).text
  exact ⟨s', A, k, c, g', m, d, hs, (e2 ▸ ha (i * 3 + 1) (by omega)).slice, (e3 ▸ ha (i * 3 + 2) (by omega)).slice, e4, e5, fun h0 => (e6 h0).marks hm, e7.marks hm⟩

set_option maxRecDepth 100000 in
set_option maxHeartbeats 2000000 in
theorem markRuleS_marks (lo hi g n c k : Nat) (w : World) (h : RuleRow w lo hi g n) (hk : k + n * 2199027449857 ≤ 2 ^ 62) :
    Calls Tryz.prog 22 #[.slice (some ⟨g, 0, none⟩) n c, .int .i64 (k : Int)] w fun e w' => (∃ k' : Nat, e = .returned (.int .i64 (k' : Int))) ∧ MarksIn lo hi w w' := by
  have H := Lib.hid h; clear h
  go_enter Tryz.func22, Tryz.ntmps22
  go_wp2
  go_loopw [1, 5] (fun x y wr => ∃ i q : Nat, i ≤ n ∧ x = .int .i64 (q : Int) ∧ y = .int .i64 (i : Int) ∧ k ≤ q ∧ q ≤ k + i * 2199027449857 ∧ MarksIn lo hi w wr) (fun _ y _ => n - (intOf y).toNat)
  case atStart => exact ⟨0, k, Nat.zero_le _, rfl, rfl, Nat.le_refl _, by omega, MarksIn.refl⟩
  case round =>
    obtain ⟨i, q, hi', rfl, rfl, hq1, hq2, hw⟩ := hrel
    by_cases hlt : i < n
    · have hlt2 : (i : Int) < (n : Int) := by omega
      have hq3 : q + 2199027449857 ≤ 2 ^ 62 := by omega
      go_wp2_with fail
      refine (markText_is _ q (by omega) (by omega) _).mono ?_; rintro e w1 ⟨rfl, hb1⟩
      have hw2 := hw.trans (MarksIn.of hb1)
      obtain ⟨hlo, hhi, f2, hr2, hp2⟩ := H.out.marks hw2
      obtain ⟨s1, A3, n3, c3, g5, m5, d5, e1, e2, e3, e4, e5, e6, e7⟩ := hp2 i hlt
      have c0 := hr2.cell (i := i * 3) (by omega)
      have z0 := hr2.frozen (i * 3)
      have c1 := hr2.cell (i := i * 3 + 1) (by omega)
      rw [e2] at c1
      have hset := MarksIn.set hr2 hlo hhi (i * 3) (.string (markB q)) (by rw [e1]; exact .inr (.inl ⟨_, _, rfl, rfl⟩))
      have hw3 := hw2.trans hset
      have c1' : (w1.setCell ⟨g, i * 3, none⟩ (.string (markB q))).cell? ⟨g, i * 3 + 1, none⟩ = some (.slice A3 n3 c3) := by
        rw [World.cell?_setCell_other _ _ _ _ (fun e => by injection e with _ e; omega)]; exact c1
      have E6 := Lib.hid (fun h0 : 0 < n3 => (e6 h0).marks hset)
      clear hr2 hp2 e1 e2 e3 e6 e7 hb1 hw hw2 c1
      go_wp2_with fail
      have R3 := H.out.marks hw3
      clear c0 z0
      by_cases h0 : 0 < n3
      · obtain ⟨g', k', f', x1, x2, x3, x4, x5⟩ := E6.out h0
        subst x1
        refine (markTermS_is g' k' n3 c3 (q + 1) f' _ _ (by omega) x4 x5 (by omega)).mono ?_; rintro e w4 ⟨rfl, ⟨f4, r4, _⟩, hg4⟩
        have hw4 := hw3.trans (MarksIn.terms x4 r4 hg4 x2 x3)
        obtain ⟨_, _, f6, hr6, hp6⟩ := H.out.marks hw4
        obtain ⟨s7, A7, n7, c7, g7, m7, d7, _, _, y3, _, y5, _, y7⟩ := hp6 i hlt
        have c2 := hr6.cell (i := i * 3 + 2) (by omega)
        rw [y3] at c2
        have Y7 := Lib.hid y7
        clear x4 r4 hr6 hp6 y3 y7 R3 c1'
        go_wp2_with fail
        refine (markPartS_marks lo hi g7 m7 d7 (q + 1 + 2 * n3) _ _ (by omega) Y7.out (by omega)).mono ?_; rintro e w5 ⟨⟨k5, rfl, hk5, hk6⟩, hm5⟩
        have hw5 := hw4.trans hm5
        clear c2
        go_wp2
        go_roundw
        case rel => exact ⟨i + 1, k5, by omega, by go_num, by go_num, by omega, by omega, hw5⟩
        case measure => simp [intOf]; omega
      · have hn0 : n3 = 0 := by omega
        subst hn0
        refine (markTermS_zero A3 c3 (q + 1) _ _ (by omega)).mono ?_; rintro e w4 ⟨rfl, rfl⟩
        obtain ⟨_, _, f6, hr6, hp6⟩ := R3
        obtain ⟨s7, A7, n7, c7, g7, m7, d7, _, _, y3, _, y5, _, y7⟩ := hp6 i hlt
        have c2 := hr6.cell (i := i * 3 + 2) (by omega)
        rw [y3] at c2
        have Y7 := Lib.hid y7
        clear hr6 hp6 y3 y7 c1'
        go_wp2_with fail
        refine (markPartS_marks lo hi g7 m7 d7 (q + 1) _ _ (by omega) Y7.out (by omega)).mono ?_; rintro e w5 ⟨⟨k5, rfl, hk5, hk6⟩, hm5⟩
        have hw5 := hw3.trans hm5
        clear c2
        go_wp2
        go_roundw
        case rel => exact ⟨i + 1, k5, by omega, by go_num, by go_num, by omega, by omega, hw5⟩
        case measure => simp [intOf]; omega
    · have hin : i = n := by omega
      subst hin
      go_wp2
      go_ret; exact ⟨⟨q, rfl⟩, hw⟩

end Go.Proofs.YtnhbnhibphjljaaGreatDoor

namespace Go.Proofs.YtnhbnhibphjljaaGreatDoor
open Go.RowKit

theorem PartRow.wide {w : World} {lo hi lo' hi' g n : Nat} (h : PartRow w lo hi g n) (h1 : lo' ≤ lo) (h2 : hi ≤ hi') : PartRow w lo' hi' g n := by
  obtain ⟨a, b, f, hr, hp⟩ := h
  exact ⟨by omega, by omega, f, hr, fun i hi => (hp i hi).keep (fun _ _ _ => rfl) h1 h2⟩

theorem RuleAt.keep {w w' : World} {lo hi lo' hi' i : Nat} {f : Nat → Value} (h : RuleAt w lo hi f i) (hk : ∀ b, lo ≤ b → b < hi → w'.heap[b]? = w.heap[b]?) (h1 : lo' ≤ lo) (h2 : hi ≤ hi') : RuleAt w' lo' hi' f i := by
  obtain ⟨s, A, n, c, g, m, d, e1, e2, e3, e4, e5, e6, e7⟩ := h
  exact ⟨s, A, n, c, g, m, d, e1, e2, e3, e4, e5, fun h0 => (e6 h0).keep hk h1 h2, (e7.keep hk).wide h1 h2⟩

theorem RuleRow.keep {w w' : World} {lo hi g n : Nat} (h : RuleRow w lo hi g n) (hk : ∀ b, lo ≤ b → b < hi → w'.heap[b]? = w.heap[b]?) : RuleRow w' lo hi g n := by
  obtain ⟨h1, h2, f, hr, hp⟩ := h
  exact ⟨h1, h2, f, hr.of_block (hk g h1 h2), fun i hi => (hp i hi).keep hk (Nat.le_refl _) (Nat.le_refl _)⟩

/-- A copy of a rule, its rows its own. -/
def RuleOwnR (nm : ByteArray) (n m : Nat) (ts : List Tm) (xs : List Pt) (w : World) (e : Ending) (w' : World) : Prop :=
  ∃ g g', e = .returned (.agg #[.string nm, .slice (some ⟨g, 0, none⟩) n n, .slice (some ⟨g', 0, none⟩) m m]) ∧ w.heap.size ≤ g ∧ OwnTerms w' g n ts ∧ IsParts w' w.heap.size w'.heap.size (some ⟨g', 0, none⟩) m m xs ∧ PartRow w' w.heap.size w'.heap.size g' m ∧ Below w.heap.size w w'

set_option maxHeartbeats 2000000 in
theorem toRule_row (nm : ByteArray) (A : Option Addr) (n c : Nat) (B : Option Addr) (m d : Nat) (ts : List Tm) (xs : List Pt) (w : World) (h : IsRule w w.heap.size A n c B m d ts xs) (hn : SmallRule n m xs) :
    Calls Tryz.prog 60 #[.agg #[.string nm, .slice A n c, .slice B m d]] w (RuleOwnR nm n m ts xs w) := by
  obtain ⟨hn1, hn2⟩ := hn
  have H := Lib.hid h; clear h
  have HN := Lib.hid hn2; clear hn2
  go_enter Tryz.func60, Tryz.ntmps60
  go_wp2_with fail
  refine (toAtom_any _ _ _ _ ts _ (H.out.up (below3 _ _ _ _)).1 hn1).mono ?_; rintro e w1 ⟨g, rfl, hg, ho, hb1⟩
  simp only [size_alloc_eq] at hg
  have HB1 := belowThen (below3 _ _ _ _) hb1
  obtain ⟨hc, hf⟩ := oldCells hb1
  have hz : w.heap.size + 1 + 1 < w1.heap.size := by have := hb1.size; simp at this; omega
  have hz' : w.heap.size + 1 < w1.heap.size := by omega
  have hz'' : w.heap.size < w1.heap.size := by omega
  have R1 : Box3 w1 (w.heap.size + 1) (.string ⟨#[]⟩) (.slice none 0 0) (.slice none 0 0) := by
    refine ⟨by omega, ?_, ?_, ?_⟩ <;> (rw [hc _ _ (by simp)]; simp [go_sem])
  have RW := (R1.other (a := ⟨w.heap.size + 1 + 1, 0, none⟩) (by simp) (.string nm)).other (a := ⟨w.heap.size + 1 + 1, 1, none⟩) (by simp) (.slice (some ⟨g, 0, none⟩) n n)
  have HBW := (HB1.setCell (p := ⟨w.heap.size + 1 + 1, 0, none⟩) (by simp; omega) (.string nm)).setCell (p := ⟨w.heap.size + 1 + 1, 1, none⟩) (by simp; omega) (.slice (some ⟨g, 0, none⟩) n n)
  have hoW := (ho.setOther (a := ⟨w.heap.size + 1 + 1, 0, none⟩) (by simp; omega) (.string nm)).setOther (a := ⟨w.heap.size + 1 + 1, 1, none⟩) (by simp; omega) (.slice (some ⟨g, 0, none⟩) n n)
  go_wp2_with fail
  refine (toPartS_own _ _ _ xs _ (H.out.up HBW).2 HN.out).mono ?_; rintro e w2 ⟨g', rfl, hg', hp2, hq2, hb2⟩
  have HB2 := belowThen HBW hb2
  have ho2 := hoW.below hb2
  have R2 := RW.later hb2
  clear HBW hoW RW R1
  obtain ⟨hc2, hf2⟩ := oldCells hb2
  simp only [size_setCell] at hg'
  have hy : w.heap.size + 1 + 1 < w2.heap.size := by have := hb2.size; rw [size_setCell, size_setCell] at this; omega
  go_wp2
  obtain ⟨r1, r2, r3, r4⟩ := R2
  have hx1 : g < w2.heap.size := ho2.2.2.lt
  have hlo : w.heap.size + 1 + 1 < g' := by omega
  refine bodyPost_ret (v := .agg #[.string nm, .slice (some ⟨g, 0, none⟩) n n, .slice (some ⟨g', 0, none⟩) m m]) (by simp [results, Tryz.results60, go_sem, r2, r3, r4]) rfl ⟨g, g', rfl, by omega, ?_, ?_, ?_, ?_⟩
  · exact ((((ho2.setOther (a := ⟨w.heap.size + 1 + 1, 2, none⟩) (by simp; omega) _).setOther (a := ⟨w.heap.size + 1, 0, none⟩) (by simp; omega) _).setOther (a := ⟨w.heap.size + 1, 1, none⟩) (by simp; omega) _).setOther (a := ⟨w.heap.size + 1, 2, none⟩) (by simp; omega) _)
  · refine hp2.keep PartE.stays (fun q hq _ => ?_) (by simp only [size_setCell]; omega) (by simp [World.setCell])
    have hq' : w.heap.size + 1 + 1 < q.block := by rw [size_setCell, size_setCell] at hq; omega
    rw [World.cell?_setCell_other _ _ _ _ (fun e => by subst e; simp at hq'; try omega), World.cell?_setCell_other _ _ _ _ (fun e => by subst e; simp at hq'; try omega), World.cell?_setCell_other _ _ _ _ (fun e => by subst e; simp at hq'; try omega), World.cell?_setCell_other _ _ _ _ (fun e => by subst e; simp at hq'; try omega)]
  · refine (hq2.keep (fun q hq _ => ?_)).wide (by simp only [size_setCell]; omega) (by simp [World.setCell])
    have hq' : w.heap.size + 1 + 1 < q := by rw [size_setCell, size_setCell] at hq; omega
    exact (Below.heap_setCell _ _ _ q (by simp; omega)).trans ((Below.heap_setCell _ _ _ q (by simp; omega)).trans ((Below.heap_setCell _ _ _ q (by simp; omega)).trans (Below.heap_setCell _ _ _ q (by simp; omega))))
  · exact (((HB2.setCell (p := ⟨w.heap.size + 1 + 1, 2, none⟩) (by simp; omega) _).setCell (p := ⟨w.heap.size + 1, 0, none⟩) (by simp) _).setCell (p := ⟨w.heap.size + 1, 1, none⟩) (by simp) _).setCell (p := ⟨w.heap.size + 1, 2, none⟩) (by simp) _

/-- A copy of rules, its rows its own. -/
def RuleSRow (n : Nat) (xs : List Rl) (w : World) (e : Ending) (w' : World) : Prop :=
  ∃ g, e = .returned (.slice (some ⟨g, 0, none⟩) n n) ∧ w.heap.size ≤ g ∧ IsRules w' w.heap.size w'.heap.size (some ⟨g, 0, none⟩) n n xs ∧ RuleRow w' w.heap.size w'.heap.size g n ∧ Below w.heap.size w w'

set_option maxHeartbeats 2000000 in
theorem toRuleS_row (A : Option Addr) (n c : Nat) (xs : List Rl) (w : World) (h : IsRules w 0 w.heap.size A n c xs) (hn : SmallRules n xs) :
    Calls Tryz.prog 16 #[.slice A n c] w (RuleSRow n xs w) := by
  obtain ⟨hn1, hn2⟩ := hn
  obtain ⟨i0, hi, hz, hsz, hby⟩ := info_parts Tryz.infoRuleL
  have hmk : ∀ W : World, (Instr.makeSlice 25 (.int .i64 (n : Int)) (.int .i64 (n : Int))).run Tryz.prog W = .ok (.slice (some ⟨W.heap.size, 0, none⟩) n n) (W.alloc (.cells (madeCells #[.string ByteArray.empty, .slice none 0 0, .slice none 0 0] (n * 3)) 72)) := by
    intro W
    have hr := run_make (P := Tryz.prog) W 25 72 i0 _ Tryz.underlying25 hi hz .i64 .i64 n n (by omega) (Int.le_refl _) (by rw [hby]; omega) (by omega)
    rw [hsz] at hr
    exact hr
  clear hi hz hsz hby
  have HN := Lib.hid hn2; clear hn2
  have H := Lib.hid h; clear h
  have hst := World.rowIs_alloc w (madeCells #[.string ByteArray.empty, .slice none 0 0, .slice none 0 0] (n * 3)) 72 (fun i => (madeCells #[.string ByteArray.empty, .slice none 0 0, .slice none 0 0] (n * 3))[i]?.getD undef) (fun i hi => by simp [hi])
  rw [size_madeCells] at hst
  have HST := Lib.hid hst; clear hst
  go_enter Tryz.func16, Tryz.ntmps16
  go_wp2
  go_loopw [4] (fun i wr => ∃ (k : Nat) (f : Nat → Value), k ≤ n ∧ i = .int .i64 k ∧ Rowed 72 3 RuleV wr w.heap.size n k xs ∧ wr.rowIs w.heap.size 72 (n * 3) f ∧ (∀ i, i < k → RuleAt wr (w.heap.size + 1) wr.heap.size f i) ∧ Below w.heap.size w wr) (fun i _ => n - (intOf i).toNat)
  case atStart => exact ⟨0, _, Nat.zero_le _, rfl, Rowed.start w _, HST.out, fun i hi => absurd hi (Nat.not_lt_zero _), below1 _ _⟩
  case round =>
    obtain ⟨k, f, hk, rfl, hf, hr, hp, hb⟩ := hrel
    have HF := Lib.hid hf; have HR0 := Lib.hid hr; have HP := Lib.hid hp; clear hf hr hp
    by_cases hlt : k < n
    · obtain ⟨p, r, A', n', c', B, m, d, hA, hpb, hg, d1, d2, d3, d4, d5, d6⟩ := rule_at (H.out.below RuleE.stays hb (Nat.le_refl _)) hlt
      subst hA
      have hq : SmallRule n' m r.2 := by have := HN.out r (List.mem_of_getElem? hg); rwa [d4.1, d6.1] at this
      have HQ := Lib.hid hq
      have HG := Lib.hid hg
      have HR : Hid (IsRule wr wr.heap.size A' n' c' B m d r.1.2 r.2) := Lib.hid ⟨d4.keep (fun _ _ _ => rfl) (Nat.le_refl _) hb.size, d6.keep PartE.stays (fun _ _ _ => rfl) (Nat.le_refl _) hb.size⟩
      have HN2 := Lib.hid d2
      clear hg hq d2 d4 d6
      go_wp2_with fail
      (refine (toRule_row _ _ _ _ _ _ _ r.1.2 r.2 _ HR.out HQ.out).mono ?_; rintro e w1 ⟨g1, g2, rfl, hgg, ho1, ho2, hpr, hb1⟩; have HF1 := HF.out.below RuleV.keep hb1; have hg0 : w.heap.size < wr.heap.size := HF.out.lt; obtain ⟨⟨x0, hx0⟩, hz0⟩ := HF1.cells (j := k * 3) (by omega); obtain ⟨⟨x1, hx1⟩, hz1⟩ := HF1.cells (j := k * 3 + 1) (by omega); obtain ⟨⟨x2, hx2⟩, hz2⟩ := HF1.cells (j := k * 3 + 2) (by omega))
      have hq1 := HQ.out.1
      have hq2 := HQ.out.2.1
      have HT1 := Lib.hid (ho1.is_ (lo := w.heap.size + 1) (by unfold maxLen; omega) (by omega))
      have HT2 := Lib.hid (ho2.keep (lo' := w.heap.size + 1) (hi' := w1.heap.size) PartE.stays (fun _ _ _ => rfl) (by omega) (Nat.le_refl _))
      have HO1 := Lib.hid ho1.2.2
      have HPR := Lib.hid (hpr.wide (lo' := w.heap.size + 1) (by omega) (Nat.le_refl _))
      have HR1 := Lib.hid (HR0.out.of_block (hb1.block w.heap.size HR0.out.lt))
      clear ho1 ho2 hpr
      go_wp2
      go_roundw
      case rel =>
        refine ⟨k + 1, _, by omega, by go_num, HF1.step3 RuleV.keep RuleV.cong r HG.out _ _ _ ⟨rfl, HN2.out, ⟨_, _, _, rfl, HT1.out⟩, _, _, _, rfl, HT2.out⟩, ((HR1.out.set _ _).set _ _).set _ _, ?_, (((belowThen hb hb1).setCell (Nat.le_refl _) _).setCell (Nat.le_refl _) _).setCell (Nat.le_refl _) _⟩
        intro i hi
        have hks : ∀ b, w.heap.size + 1 ≤ b → b < w1.heap.size → (((w1.setCell ⟨w.heap.size, k * 3, none⟩ (.string r.1.1)).setCell ⟨w.heap.size, k * 3 + 1, none⟩ (.slice (some ⟨g1, 0, none⟩) n' n')).setCell ⟨w.heap.size, k * 3 + 2, none⟩ (.slice (some ⟨g2, 0, none⟩) m m)).heap[b]? = w1.heap[b]? := fun b h1 _ => set3_block (by omega)
        rw [size_setCell, size_setCell, size_setCell]
        by_cases e : i = k
        · subst e
          refine ⟨r.1.1, some ⟨g1, 0, none⟩, n', n', g2, m, m, by simp, by simp, by simp, hq1, hq2, fun _ => ?_, (HPR.out.keep hks).wide (Nat.le_refl _) (Nat.le_refl _)⟩
          exact RowAt.keep (w := w1) ⟨g1, n' * 2, tcell r.1.2, rfl, by omega, HO1.out.lt, HO1.out, Nat.le_refl _⟩ hks (Nat.le_refl _) (Nat.le_refl _)
        · have hold : RuleAt _ (w.heap.size + 1) w1.heap.size f i := (HP.out i (by omega)).keep (w' := ((w1.setCell ⟨w.heap.size, k * 3, none⟩ (.string r.1.1)).setCell ⟨w.heap.size, k * 3 + 1, none⟩ (.slice (some ⟨g1, 0, none⟩) n' n')).setCell ⟨w.heap.size, k * 3 + 2, none⟩ (.slice (some ⟨g2, 0, none⟩) m m)) (fun b h1 h2 => (hks b h1 (Nat.lt_of_lt_of_le h2 hb1.size)).trans (hb1.block b h2)) (Nat.le_refl _) hb1.size
          obtain ⟨s, A2, n2, c2, g3, m3, d3', e1, e2, e3, e4⟩ := hold
          refine ⟨s, A2, n2, c2, g3, m3, d3', ?_, ?_, ?_, e4⟩
          · dsimp only; rw [if_neg (by omega), if_neg (by omega), if_neg (by omega)]; exact e1
          · dsimp only; rw [if_neg (by omega), if_neg (by omega), if_neg (by omega)]; exact e2
          · dsimp only; rw [if_neg (by omega), if_neg (by omega), if_neg (by omega)]; exact e3
      case measure => simp [intOf]; omega
    · go_wp2
      go_ret
      have hkn : k = n := by omega
      exact ⟨_, rfl, Nat.le_refl _, HF.out.is_ hlt H.out.1 (by unfold maxLen; omega) (Nat.le_refl _) (RuleV.is_ (Nat.le_refl _)), ⟨Nat.le_refl _, HR0.out.lt, f, HR0.out, fun i hi => (HP.out i (by omega)).keep (fun _ _ _ => rfl) (by omega) (Nat.le_refl _)⟩, hb⟩

end Go.Proofs.YtnhbnhibphjljaaGreatDoor

