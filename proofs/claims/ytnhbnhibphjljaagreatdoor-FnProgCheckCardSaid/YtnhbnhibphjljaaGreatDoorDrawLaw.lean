/-
  What the laws of chapter 2 draw, and how they hold lists against each other. (Written by tools/drawlaw.py.)
-/
import Derived.Test.YtnhbnhibphjljaaGreatDoorDrawRls
import Derived.Test.YtnhbnhibphjljaaGreatDoorTellKit
namespace Go.Proofs.YtnhbnhibphjljaaGreatDoor
open Go.RowKit

theorem below_read {w w1 W : World} {b : Nat} (h : Below w.heap.size w w1) (hg : w1.grownBy W (some b)) (hb : w.heap.size ≤ b) : Below w.heap.size w W := h.grown hg h.size (fun k hk => by injection hk with hk; omega)

/-- Rules were drawn for a law. -/
structure Drawn (w : World) (B : Option Addr) (k d : Nat) (rs : List Rr) (W : World) : Prop where
  len : rs.length = k
  few : k ≤ 9
  row : W.ownsRow w.heap.size 72 3 (.slice B k d) k (rrcells rs)
  ty : ∀ r ∈ rs, TyRule W w.heap.size W.heap.size r
  nm : ∀ r ∈ rs, NmRule r
  be : Below w.heap.size w W

theorem Drawn.later {w W W' : World} {B : Option Addr} {k d : Nat} {rs : List Rr} (h : Drawn w B k d rs W) (hb : Below W.heap.size W W') : Drawn w B k d rs W' :=
  ⟨h.len, h.few, ownsRow_up h.row hb, fun r hr => (h.ty r hr).keep (fun x _ hx => hb.block x hx) (Nat.le_refl _) hb.size, h.nm, belowThen h.be hb⟩

theorem Drawn.rules {w W : World} {B : Option Addr} {k d : Nat} {rs : List Rr} (h : Drawn w B k d rs W) : IsRules W 0 W.heap.size B k d (rs.map rRl) := by
  obtain ⟨B', d', e, hI⟩ := ty_rules h.row h.len h.ty
  injection e with e1 _ e2
  subst e1; subst e2
  exact hI.keep RuleE.stays (fun _ _ _ => rfl) (Nat.zero_le _) (Nat.le_refl _)

theorem Drawn.of {w w1 W : World} {b n c p k d : Nat} {A B : Option Addr} {rs : List Rr} (hb : w.heap.size ≤ b) (h1 : Below w.heap.size w w1) (hl : rs.length = k) (hf : k ≤ 9) (h : DR b A n c w1 p W (.slice B k d) rs) (hn : ∀ r ∈ rs, NmRule r) : Drawn w B k d rs W := by
  subst hl
  exact ⟨rfl, hf, ownsLess h.row h1.size, fun r hr => (h.ty r hr).keep (fun _ _ _ => rfl) h1.size (Nat.le_refl _), hn, below_read h1 h.gr hb⟩

def DrawnPost (w : World) (e : Ending) (w' : World) : Prop := ∃ B k d rs, e = .returned (.slice B k d) ∧ Drawn w B k d rs w'
def NamedPost (w : World) (e : Ending) (w' : World) : Prop := ∃ B k d rs nm, e = .returned (.tuple #[.slice B k d, .string nm]) ∧ nm.size ≤ 16 ∧ Drawn w B k d rs w'

set_option maxRecDepth 100000 in
theorem drawProgCheck_any (A : Option Addr) (n c : Nat) (w : World) (h : IsBytes w w.heap.size A n c) :
    Calls Tryz.prog 49 #[.slice A n c] w (DrawnPost w) := by
  go_enter Tryz.func49, Tryz.ntmps49
  go_wp2_with fail
  refine (open_any A n c _ h).mono ?_; rintro e w1 ⟨b, n', ⟨rfl, hb⟩, hr, hb1⟩
  have HB1 := Lib.hid hb1
  go_wp2_with fail
  refine (any_rules_draw b A n' c 0 w1 hr (by omega)).mono ?_; rintro e w2 ⟨B, k, d, rs, p', rfl, hl, hk, _, hD, hN⟩
  have HD := Lib.hid (Drawn.of hb HB1.out hl hk hD hN)
  clear hl hk hD hN
  go_wp2
  go_ret; exact ⟨B, k, d, rs, rfl, HD.out⟩

set_option maxRecDepth 100000 in
theorem drawProgStrata_any (A : Option Addr) (n c : Nat) (w : World) (h : IsBytes w w.heap.size A n c) :
    Calls Tryz.prog 50 #[.slice A n c] w (DrawnPost w) := by
  go_enter Tryz.func50, Tryz.ntmps50
  go_wp2_with fail
  refine (open_any A n c _ h).mono ?_; rintro e w1 ⟨b, n', ⟨rfl, hb⟩, hr, hb1⟩
  have HB1 := Lib.hid hb1
  go_wp2_with fail
  refine (any_rules_draw b A n' c 0 w1 hr (by omega)).mono ?_; rintro e w2 ⟨B, k, d, rs, p', rfl, hl, hk, _, hD, hN⟩
  have HD := Lib.hid (Drawn.of hb HB1.out hl hk hD hN)
  clear hl hk hD hN
  go_wp2
  go_ret; exact ⟨B, k, d, rs, rfl, HD.out⟩

set_option maxRecDepth 100000 in
theorem drawProgHeads_any (A : Option Addr) (n c : Nat) (w : World) (h : IsBytes w w.heap.size A n c) :
    Calls Tryz.prog 102 #[.slice A n c] w (NamedPost w) := by
  go_enter Tryz.func102, Tryz.ntmps102
  go_wp2_with fail
  refine (open_any A n c _ h).mono ?_; rintro e w1 ⟨b, n', ⟨rfl, hb⟩, hr, hb1⟩
  have HB1 := Lib.hid hb1
  have hbw : b < w1.heap.size := hr.1
  go_wp2_with fail
  refine (any_rules_draw b A n' c 0 w1 hr (by omega)).mono ?_; rintro e w2 ⟨B, k, d, rs, p', rfl, hl, hk, hp, hD, hN⟩
  have HD := Lib.hid hD; have HN := Lib.hid hN; have HL := Lib.hid hl
  clear hl hD hN hb1
  go_wp2_with fail
  refine (of_laidAt (fun s => decide (s.size ≤ 16)) _ b _ A n' c _ w2 _ _ rfl HD.out.rd (by omega) (by rfl) (by omega) (by omega) (by rfl)).mono ?_; rintro e w3 ⟨s, ⟨rfl, hs⟩, hr3, hg3⟩
  have HD3 := Lib.hid (Drawn.of hb HB1.out HL.out hk ((HD.out.below hbw (below1 _ _)).step hbw hg3 hr3) HN.out)
  clear hr3 hg3
  go_wp2
  go_ret2; exact ⟨B, k, d, rs, s, rfl, of_decide_eq_true hs, HD3.out⟩

set_option maxRecDepth 100000 in
theorem drawProgNeeds_any (A : Option Addr) (n c : Nat) (w : World) (h : IsBytes w w.heap.size A n c) :
    Calls Tryz.prog 52 #[.slice A n c] w (NamedPost w) := by
  go_enter Tryz.func52, Tryz.ntmps52
  go_wp2_with fail
  refine (drawProgHeads_any A n c _ h).mono ?_; rintro e w1 ⟨B, k, d, rs, nm, rfl, hn, hD⟩
  have HD := Lib.hid hD; clear hD
  go_wp2
  go_ret2; exact ⟨B, k, d, rs, nm, rfl, hn, HD.out⟩

set_option maxHeartbeats 1000000 in
theorem fsTexts_same (A B : Option Addr) (n c n' c' : Nat) (ls : List ByteArray) (w : World) (h : IsTexts w 0 w.heap.size A n c ls) (h' : IsTexts w 0 w.heap.size B n' c' ls) :
    Calls Tryz.prog 53 #[.slice A n c, .slice B n' c'] w (BoolPost true w) := by
  have hm := h.len
  unfold maxLen at hm
  have hnn : n = n' := by rw [← h.1, ← h'.1]
  subst hnn
  have H := Lib.hid h; clear h
  have H' := Lib.hid h'; clear h'
  go_enter Tryz.func53, Tryz.ntmps53
  go_wp2
  go_loopw [5] (fun i wr => ∃ k : Nat, k ≤ n ∧ i = .int .i64 (k : Int) ∧ Below w.heap.size w wr) (fun i _ => n - (intOf i).toNat)
  case atStart => exact ⟨0, Nat.zero_le _, rfl, Below.refl _ _⟩
  case round =>
    obtain ⟨k, hk, rfl, hb⟩ := hrel
    by_cases hlt : k < n
    · have hlt2 : (k : Int) < (n : Int) := by omega
      obtain ⟨p, t, hA, -, -, hg, hE⟩ := (H.out.below TextE.stays hb (Nat.le_refl _)).at_ hlt
      obtain ⟨p', t', hA', -, -, hg', hE'⟩ := (H'.out.below TextE.stays hb (Nat.le_refl _)).at_ hlt
      subst hA; subst hA'
      rw [hg] at hg'
      injection hg' with hg'
      subst hg'
      have c1 : wr.drew.cell? (p.add k) = some (.string t) := by have := hE; unfold TextE at this; rwa [Nat.mul_one] at this
      have c2 : wr.drew.cell? (p'.add k) = some (.string t) := by have := hE'; unfold TextE at this; rwa [Nat.mul_one] at this
      have hbd := hb.drew
      clear hg hE hE'
      go_wp2_with fail
      go_region_with fail
      all_goals go_wp2
      all_goals (go_roundw)
      all_goals first
        | exact ⟨k + 1, by omega, by go_num, hbd⟩
        | (simp [intOf]; omega)
    · go_wp2
      go_ret
      exact ⟨rfl, hb⟩

set_option maxHeartbeats 1000000 in
theorem fsInts_same (A B : Option Addr) (n c n' c' : Nat) (ls : List Int) (w : World) (h : OwnIs w 0 w.heap.size A n c ls) (h' : OwnIs w 0 w.heap.size B n' c' ls) :
    Calls Tryz.prog 51 #[.slice A n c, .slice B n' c'] w (BoolPost true w) := by
  have hc := h.2.1; have hm := h.2.2.1
  unfold maxLen at hm
  have hnn : n = n' := by rw [← h.1, ← h'.1]
  subst hnn
  have H := Lib.hid h; clear h
  have H' := Lib.hid h'; clear h'
  go_enter Tryz.func51, Tryz.ntmps51
  go_wp2
  go_loopw [5] (fun i wr => ∃ k : Nat, k ≤ n ∧ i = .int .i64 (k : Int) ∧ Below w.heap.size w wr) (fun i _ => n - (intOf i).toNat)
  case atStart => exact ⟨0, Nat.zero_le _, rfl, Below.refl _ _⟩
  case round =>
    obtain ⟨k, hk, rfl, hb⟩ := hrel
    by_cases hlt : k < n
    · have hlt2 : (k : Int) < (n : Int) := by omega
      obtain ⟨g, t, hA, hg, hE, _⟩ := (H.out.below hb (Nat.le_refl _)).at_ hlt
      obtain ⟨g', t', hA', hg', hE', _⟩ := (H'.out.below hb (Nat.le_refl _)).at_ hlt
      subst hA; subst hA'
      rw [hg] at hg'
      injection hg' with hg'
      subst hg'
      have c1 : wr.drew.cell? ⟨g, k, none⟩ = some (.int .i64 t) := hE
      have c2 : wr.drew.cell? ⟨g', k, none⟩ = some (.int .i64 t) := hE'
      have hbd := hb.drew
      clear hg
      go_wp2_with fail
      go_region_with fail
      all_goals go_wp2
      all_goals (go_roundw)
      all_goals first
        | exact ⟨k + 1, by omega, by go_num, hbd⟩
        | (simp [intOf]; omega)
    · go_wp2
      go_ret
      exact ⟨rfl, hb⟩

set_option maxRecDepth 100000 in
set_option maxHeartbeats 2000000 in
theorem fsText_any (A : Option Addr) (n c : Nat) (ls : List ByteArray) (s : ByteArray) (w : World) (h : IsTexts w 0 w.heap.size A n c ls) :
    Calls Tryz.prog 54 #[.slice A n c, .string s] w (BoolPost (thereB ls s) w) := by
  have hm := h.len
  unfold maxLen at hm
  have HL := Lib.hid h.1
  have H := Lib.hid h; clear h
  go_enter Tryz.func54, Tryz.ntmps54
  go_wp2
  go_loopw [5] (fun x wr => ∃ k : Nat, k ≤ n ∧ x = .int .i64 (k : Int) ∧ (∀ q ∈ ls.take k, q ≠ s) ∧ Below w.heap.size w wr) (fun x _ => n - (intOf x).toNat)
  case atStart => exact ⟨0, Nat.zero_le _, rfl, fun q hq => by simp at hq, Below.refl _ _⟩
  case round =>
    obtain ⟨k, hkn, rfl, hS, hb⟩ := hrel
    have HQ := Lib.hid hS; clear hS
    by_cases hlk : k < n
    · have hlkI : (k : Int) < (n : Int) := by omega
      obtain ⟨p, t, hA, -, -, hg, hE⟩ := (H.out.below TextE.stays hb (Nat.le_refl _)).at_ hlk
      subst hA
      have HG := Lib.hid hg; clear hg
      have c1 : wr.cell? (p.add k) = some (.string t) := by have := hE; unfold TextE at this; rwa [Nat.mul_one] at this
      clear hE
      obtain ⟨b, hbb⟩ : ∃ b, (t.toList == s.toList) = b := ⟨_, rfl⟩
      have HB := Lib.hid (bytes_is hbb)
      cases b
      · have HS2 := Lib.hid (all_snoc (P := fun q : ByteArray => q ≠ s) HG.out HQ.out (of_decide_eq_false HB.out.symm))
        go_wp2
        go_roundw
        case rel => exact ⟨k + 1, by omega, by go_num, HS2.out, hb⟩
        case measure => simp [intOf]; omega
      · have E := Lib.hid (there_yes (s := s) (by have := of_decide_eq_true HB.out.symm; rw [← this]; exact List.mem_of_getElem? HG.out))
        go_wp2
        go_ret; exact ⟨retB E.out.symm, hb⟩
    · have hke : k = n := by omega
      subst hke
      have E := Lib.hid (there_no (ls := ls) (s := s) (fun hx => HQ.out s (by rw [List.take_of_length_le (by rw [HL.out]; omega)]; exact hx) rfl))
      go_wp2
      go_ret; exact ⟨retB E.out.symm, hb⟩

end Go.Proofs.YtnhbnhibphjljaaGreatDoor
