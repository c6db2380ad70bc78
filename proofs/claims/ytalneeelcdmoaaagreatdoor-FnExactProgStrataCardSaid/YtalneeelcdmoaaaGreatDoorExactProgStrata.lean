/-
  The exact law of ProgStrata: at every list of rules the program answers as its model, its answer owns its memory, and nothing is written into the list.
-/
import Derived.Test.YtalneeelcdmoaaaGreatDoorCheckImpl
import Derived.Test.YtalneeelcdmoaaaGreatDoorRulesS
import Derived.Test.YtalneeelcdmoaaaGreatDoorRulesOwn
import Derived.Test.YtalneeelcdmoaaaGreatDoorOpen
import Derived.Test.YtalneeelcdmoaaaGreatDoorCards
import Derived.Test.YtalneeelcdmoaaaGreatDoorTie
import Derived.SevenTiedAt
namespace Go.Proofs.YtalneeelcdmoaaaGreatDoor
open Go.RowKit

/-- A list of numbers in memory of its own. -/
def OwnIs (w : World) (lo hi : Nat) (A : Option Addr) (n c : Nat) (ls : List Int) : Prop :=
  ls.length = n ∧ n ≤ c ∧ c ≤ maxLen ∧ (0 < n → ∃ g k f, A = some ⟨g, 0, none⟩ ∧ lo ≤ g ∧ g < hi ∧ w.rowIs g 3 k f ∧ n ≤ k ∧ ∀ i s, ls[i]? = some s → f i = .int .i64 s)

section
variable {w w' : World} {lo hi lo' hi' n c : Nat} {A : Option Addr} {ls : List Int}

theorem OwnIs.keep (h : OwnIs w lo hi A n c ls) (hk : ∀ b, lo ≤ b → b < hi → w'.heap[b]? = w.heap[b]?) (h1 : lo' ≤ lo) (h2 : hi ≤ hi') : OwnIs w' lo' hi' A n c ls := by
  obtain ⟨a, b, d, e⟩ := h
  refine ⟨a, b, d, fun hn => ?_⟩
  obtain ⟨g, k, f, e1, e2, e3, e4, e5⟩ := e hn
  exact ⟨g, k, f, e1, by omega, by omega, e4.of_block (hk g e2 e3), e5⟩

theorem OwnIs.below {B : Nat} (h : OwnIs w lo hi A n c ls) (hb : Below B w w') (hh : hi ≤ B) : OwnIs w' lo hi A n c ls :=
  h.keep (fun b _ hb' => hb.block b (by omega)) (Nat.le_refl _) (Nat.le_refl _)

theorem OwnIs.at_ (h : OwnIs w lo hi A n c ls) {i : Nat} (hi' : i < n) : ∃ g s, A = some ⟨g, 0, none⟩ ∧ ls[i]? = some s ∧ w.cell? ⟨g, i, none⟩ = some (.int .i64 s) ∧ g < w.heap.size := by
  obtain ⟨a, b, d, e⟩ := h
  obtain ⟨g, k, f, e1, e2, e3, e4, e5, e6⟩ := e (by omega)
  have hl : i < ls.length := by omega
  refine ⟨g, ls[i], e1, List.getElem?_eq_getElem hl, ?_, e4.lt⟩
  rw [e4.cell (by omega), e6 i ls[i] (List.getElem?_eq_getElem hl)]

theorem OwnIs.of_row {base : Nat} {v : Value} (h : w.ownsRow base 3 1 v n (ls.map fun x => .int .i64 x)) (hn : n = ls.length) (hb : lo ≤ base) : ∃ A c, v = .slice A n c ∧ OwnIs w lo w.heap.size A n c ls := by
  subst hn
  rcases h.2 with ⟨rfl, h0⟩ | ⟨g, cap, cur, rfl, hbg, hgb, hle, hcap, hsz, htk⟩
  · exact ⟨none, 0, by rw [h0], rfl, by omega, by unfold maxLen; omega, fun hp => absurd hp (by omega)⟩
  · have hlt := (Array.getElem?_eq_some_iff.1 hgb).1
    refine ⟨_, cap, rfl, rfl, hle, hcap, fun _ => ⟨g, cap * 1, fun i => cur[i]?.getD undef, rfl, by omega, hlt, ⟨cur, hgb, hsz, fun i hi => by simp [hsz ▸ hi]⟩, by omega, fun j s hj => ?_⟩⟩
    have hu : (ls.map fun x => Value.int .i64 x)[j]? = some (.int .i64 s) := by rw [List.getElem?_map, hj]; rfl
    have hjl := (List.getElem?_eq_some_iff.1 hj).1
    rw [← htk, List.getElem?_take, if_pos (by omega)] at hu
    have : cur[j]? = some (.int .i64 s) := by simpa using hu
    simp [this]
end

def markIs (k n : Nat) : List Int := (List.range n).map fun i => ((k + i : Nat) : Int)
theorem markIs_len (k n : Nat) : (markIs k n).length = n := by unfold markIs; simp
theorem markIs_at {k n i : Nat} (h : i < n) : (markIs k n)[i]? = some ((k + i : Nat) : Int) := by unfold markIs; simp [h]

set_option maxHeartbeats 1000000 in
theorem eqIntS_same (A B : Option Addr) (n c n' c' : Nat) (ls : List Int) (w : World) (h : OwnIs w 0 w.heap.size A n c ls) (h' : OwnIs w 0 w.heap.size B n' c' ls) :
    Calls Tryz.prog 28 #[.slice A n c, .slice B n' c'] w (BoolPost true w) := by
  have hc := h.2.1; have hm := h.2.2.1
  unfold maxLen at hm
  have hnn : n = n' := by rw [← h.1, ← h'.1]
  subst hnn
  have H := Lib.hid h; clear h
  have H' := Lib.hid h'; clear h'
  go_enter Tryz.func28, Tryz.ntmps28
  go_wp2
  go_loopw [5] (fun i wr => ∃ k : Nat, k ≤ n ∧ i = .int .i64 (k : Int) ∧ Below w.heap.size w wr) (fun i _ => n - (intOf i).toNat)
  case atStart => exact ⟨0, Nat.zero_le _, rfl, Below.refl _ _⟩
  case round =>
    obtain ⟨k, hk, rfl, hb⟩ := hrel
    by_cases hlt : k < n
    · have hlt2 : (k : Int) < (n : Int) := by omega
      obtain ⟨g, t, hA, hg, hE, _⟩ := (H.out.below hb (Nat.le_refl _)).at_ hlt
      obtain ⟨g', t', hA', hg', hE', _⟩ := (H'.out.below hb (Nat.le_refl _)).at_ hlt
      subst hA; subst hA'
      rw [hg] at hg'
      injection hg' with hg'
      subst hg'
      have c1 : wr.drew.cell? ⟨g, k, none⟩ = some (.int .i64 t) := hE
      have c2 : wr.drew.cell? ⟨g', k, none⟩ = some (.int .i64 t) := hE'
      have hbd := hb.drew
      clear hg
      go_wp2_with fail
      go_region_with fail
      all_goals go_wp2
      all_goals (go_roundw)
      all_goals first
        | exact ⟨k + 1, by omega, by go_num, hbd⟩
        | (simp [intOf]; omega)
    · go_wp2
      go_ret
      exact ⟨rfl, hb⟩

set_option maxRecDepth 100000 in
set_option maxHeartbeats 1000000 in
theorem heldIntS_any (A : Option Addr) (n c k : Nat) (w : World) (h : OwnIs w 0 w.heap.size A n c (markIs k n)) (hk : k + n ≤ 2 ^ 62) :
    Calls Tryz.prog 30 #[.slice A n c, .int .i64 (k : Int)] w fun e w' => e = .returned (.int .i64 ((k + n : Nat) : Int)) ∧ Below w.heap.size w w' := by
  have H := Lib.hid h; clear h
  go_enter Tryz.func30, Tryz.ntmps30
  go_wp2
  go_loopw [1, 5] (fun x y wr => ∃ i : Nat, i ≤ n ∧ x = .int .i64 ((k + i : Nat) : Int) ∧ y = .int .i64 (i : Int) ∧ Below w.heap.size w wr) (fun _ y _ => n - (intOf y).toNat)
  case atStart => exact ⟨0, Nat.zero_le _, rfl, rfl, Below.refl _ _⟩
  case round =>
    obtain ⟨i, hi, rfl, rfl, hb⟩ := hrel
    by_cases hlt : i < n
    · obtain ⟨g, t, hA, hg, hE, _⟩ := (H.out.below hb (Nat.le_refl _)).at_ hlt
      subst hA
      rw [markIs_at hlt] at hg
      injection hg with hg
      subst hg
      have hlt2 : (i : Int) < (n : Int) := by omega
      go_wp2
      go_roundw
      case rel => exact ⟨i + 1, by omega, by go_num, by go_num, hb⟩
      case measure => simp [intOf]; omega
    · have hin : i = n := by omega
      subst hin
      go_wp2
      go_ret; exact ⟨by go_num, hb⟩

set_option maxRecDepth 100000 in
set_option maxHeartbeats 1000000 in
theorem markIntS_any (lo hi : Nat) (A : Option Addr) (n c k : Nat) (ls : List Int) (w : World) (h : OwnIs w lo hi A n c ls) (hk : k + n ≤ 2 ^ 62) :
    Calls Tryz.prog 29 #[.slice A n c, .int .i64 (k : Int)] w fun e w' => e = .returned (.int .i64 ((k + n : Nat) : Int)) ∧ OwnIs w' lo hi A n c (markIs k n) ∧ Within lo hi w w' := by
  obtain ⟨h1, h2, h3, h5⟩ := h
  have hcm := h3
  unfold maxLen at hcm
  by_cases h0 : 0 < n
  · obtain ⟨g, m, f, rfl, e2, e3, e4, e5, e6⟩ := h5 h0
    have HR := Lib.hid e4; clear e4 e6 h5
    go_enter Tryz.func29, Tryz.ntmps29
    go_wp2
    go_loopw [1, 5] (fun x y wr => ∃ (i : Nat) (f' : Nat → Value), i ≤ n ∧ x = .int .i64 ((k + i : Nat) : Int) ∧ y = .int .i64 (i : Int) ∧ wr.rowIs g 3 m f' ∧ (∀ j, j < i → f' j = .int .i64 ((k + j : Nat) : Int)) ∧ Within lo hi w wr) (fun _ y _ => n - (intOf y).toNat)
    case atStart => exact ⟨0, f, Nat.zero_le _, rfl, rfl, HR.out, fun j hj => absurd hj (Nat.not_lt_zero _), Within.refl⟩
    case round =>
      obtain ⟨i, f', hi', rfl, rfl, hr, hf, hw⟩ := hrel
      have HF := Lib.hid hf; clear hf
      by_cases hlt : i < n
      · have hlt2 : (i : Int) < (n : Int) := by omega
        have c1 := hr.cell (i := i) (by omega)
        have z1 := hr.frozen i
        have hr2 := hr.set i (.int .i64 ((k + i : Nat) : Int))
        have hw2 := hw.trans (Within.row (grownSet wr g i (.int .i64 ((k + i : Nat) : Int))) e2 e3)
        have HR2 := Lib.hid hr2; clear hr hr2
        go_wp2
        go_roundw
        case rel => exact ⟨i + 1, _, by omega, by go_num, by go_num, HR2.out, fun j hj => by
          by_cases e : j = i
          · subst e; simp
          · rw [if_neg e]; exact HF.out j (by omega), hw2⟩
        case measure => simp [intOf]; omega
      · have hin : i = n := by omega
        subst hin
        go_wp2
        go_ret
        exact ⟨by go_num, ⟨markIs_len _ _, h2, h3, fun _ => ⟨g, m, f', rfl, e2, e3, hr, e5, fun j s hs => by
          have hj : j < i := by have := (List.getElem?_eq_some_iff.1 hs).1; rwa [markIs_len] at this
          rw [markIs_at hj] at hs
          injection hs with hs
          subst hs
          exact HF.out j hj⟩⟩, hw⟩
  · have hn : n = 0 := by omega
    subst hn
    go_enter Tryz.func29, Tryz.ntmps29
    go_wp2
    go_loop [1, 5] (fun x y => x = .int .i64 (k : Int) ∧ y = .int .i64 0) (fun _ _ => 0)
    case atStart => exact ⟨rfl, rfl⟩
    case round =>
      obtain ⟨rfl, rfl⟩ := hrel
      go_wp2
      go_ret; exact ⟨by go_num, ⟨markIs_len _ _, h2, h3, fun h => absurd h (Nat.lt_irrefl _)⟩, Within.refl⟩

theorem prog_sound {rs : List Rl} (h : progB rs = 0) : rs.all ruleB = true ∧ rs.length ≤ 8 ∧ cycB rs = false := by
  cases h1 : rs.all ruleB with
  | false => rw [prog1 h1] at h; exact absurd h (by decide)
  | true =>
    by_cases h2 : 8 < rs.length
    · rw [prog2 h1 h2] at h; exact absurd h (by decide)
    · cases h3 : alikeB (atsOf rs) with
      | false => rw [prog3 h1 h2 h3] at h; exact absurd h (by decide)
      | true =>
        cases h4 : rs.all ruleTight with
        | false => rw [prog4 h1 h2 h3 h4] at h; exact absurd h (by decide)
        | true =>
          rw [prog5 h1 h2 h3 h4] at h
          cases h5 : cycB rs with
          | false => exact ⟨rfl, by omega, rfl⟩
          | true => rw [h5] at h; exact absurd h (by decide)

/-- What ProgStrata tells. -/
def progStrata (rs : List Rl) : List Int := if progB rs = 0 then (levelsL rs).map fun x => ((x : Nat) : Int) else []

set_option maxRecDepth 100000 in
set_option maxHeartbeats 4000000 in
theorem specProgStrata_any (A : Option Addr) (n c : Nat) (rs : List Rl) (w : World) (h : IsRules w 0 w.heap.size A n c rs) :
    Calls Tryz.prog 26 #[.slice A n c] w fun e w' => ∃ A' c', e = .returned (.slice A' (progStrata rs).length c') ∧ OwnIs w' w.heap.size w'.heap.size A' (progStrata rs).length c' (progStrata rs) ∧ Below w.heap.size w w' := by
  have HL := Lib.hid h.1
  have H := Lib.hid h; clear h
  go_enter Tryz.func26, Tryz.ntmps26
  go_wp2_with fail
  refine (specProgCheck_any A n c rs _ H.out).mono ?_; rintro e w1 ⟨rfl, hb1⟩
  obtain ⟨k, hk⟩ : ∃ k, progB rs = k := ⟨_, rfl⟩
  rw [hk]
  have HK := Lib.hid hk; clear hk
  by_cases h0 : k = 0
  · have E := Lib.hid (show progStrata rs = (levelsL rs).map fun x => ((x : Nat) : Int) from if_pos (HK.out.trans h0))
    have hI : (k : Int) = 0 := by omega
    have HZ := Lib.hid (prog_sound (HK.out.trans h0))
    clear h0
    go_wp2_with fail
    refine (l2Levels_any A n c rs _ (H.out.up RuleE.stays hb1) (by rw [← HL.out]; exact HZ.out.2.1) (rule_four HZ.out.1)).mono ?_; rintro e w2 ⟨rfl, hrow, hb2⟩
    have HR := Lib.hid hrow; clear hrow
    have hn8 : n ≤ 8 := by rw [← HL.out]; exact HZ.out.2.1
    have hlen : ((levelsL rs).map fun x => ((x : Nat) : Int)).length = n := by rw [List.length_map, HR.out.1]
    have HLN := Lib.hid hlen; clear hlen
    go_wp2
    go_ret
    refine ⟨some ⟨w1.heap.size, 0, none⟩, n, by rw [E.out, HLN.out]; rfl, ?_, belowThen hb1 hb2⟩
    rw [E.out, HLN.out]
    refine ⟨HLN.out, Nat.le_refl _, by unfold maxLen; omega, fun _ => ⟨w1.heap.size, n, _, rfl, hb1.size, HR.out.lt, HR.out.2, Nat.le_refl _, fun i s hs => ?_⟩⟩
    rw [List.getElem?_map] at hs
    cases hl : (levelsL rs)[i]? with
    | none => rw [hl] at hs; cases hs
    | some y =>
      rw [hl] at hs
      injection hs with hs
      subst hs
      show Value.int .i64 ((at0 (levelsL rs) i : Nat) : Int) = _
      unfold at0; rw [hl]; rfl
  · have E := Lib.hid (show progStrata rs = [] from if_neg (fun e => h0 (HK.out.symm.trans e)))
    have hI : ¬ (k : Int) = 0 := by omega
    clear h0
    go_wp2
    go_ret; exact ⟨some ⟨w1.heap.size, 0, none⟩, 0, by rw [E.out]; rfl, by rw [E.out]; exact ⟨rfl, Nat.le_refl _, Nat.zero_le _, fun h0 => absurd h0 (by decide)⟩, belowThen hb1 (below1 _ _)⟩

set_option maxRecDepth 100000 in
set_option maxHeartbeats 4000000 in
theorem implProgStrata_any (A : Option Addr) (n c : Nat) (rs : List Rl) (w : World) (h : IsRules w 0 w.heap.size A n c rs) (hk : ErrKind w) :
    Calls Tryz.prog 27 #[.slice A n c] w fun e w' => ∃ v, e = .returned v ∧ w'.ownsRow w.heap.size 3 1 v (progStrata rs).length ((progStrata rs).map fun x => .int .i64 x) ∧ Below w.heap.size w w' := by
  have HL := Lib.hid h.1
  have H := Lib.hid h; clear h
  have HE := Lib.hid hk; clear hk
  go_enter Tryz.func27, Tryz.ntmps27
  go_wp2_with fail
  refine (implProgCheck_any A n c rs _ H.out HE.out).mono ?_; rintro e w1 ⟨rfl, hb1⟩
  obtain ⟨k, hk⟩ : ∃ k, progB rs = k := ⟨_, rfl⟩
  rw [hk]
  have HK := Lib.hid hk; clear hk
  by_cases h0 : k = 0
  · have E := Lib.hid (show progStrata rs = (levelsL rs).map fun x => ((x : Nat) : Int) from if_pos (HK.out.trans h0))
    have hI : (k : Int) = 0 := by omega
    have HZ := Lib.hid (prog_sound (HK.out.trans h0))
    clear h0
    go_wp2_with fail
    refine (strataOf_any A n c rs _ (H.out.up RuleE.stays hb1) (by rw [← HL.out]; exact HZ.out.2.1) (rule_four HZ.out.1) (fun a ha => (atsOf_ok HZ.out.1 a ha).2)).mono ?_
    rintro e w2 (⟨hc, _⟩ | ⟨_, v, rfl, hrow, hb2⟩)
    · rw [HZ.out.2.2] at hc; cases hc
    · have hlen : n = (levelsL rs).length := by have := hrow.1; rw [List.length_map] at this; omega
      have HR := Lib.hid (rowT_base hrow hb1.size); clear hrow
      have HLN := Lib.hid hlen; clear hlen
      go_wp2
      go_ret
      refine ⟨v, rfl, ?_, belowThen hb1 hb2⟩
      have := HR.out
      rw [E.out, List.map_map, List.length_map, ← HLN.out]
      exact this
  · have E := Lib.hid (show progStrata rs = [] from if_neg (fun e => h0 (HK.out.symm.trans e)))
    have hI : ¬ (k : Int) = 0 := by omega
    clear h0
    go_wp2
    go_ret; exact ⟨_, rfl, by rw [E.out]; exact World.ownsRow_nil _ _ _ _, hb1⟩

theorem raise_count (n : Nat) (L : List Nat) (u : Up) : (raise n L u).length = L.length := by unfold raise; split <;> simp
theorem raises_count (n : Nat) : ∀ (us : List Up) (L : List Nat), (us.foldl (raise n) L).length = L.length
  | [], _ => rfl
  | u :: us, L => by rw [List.foldl_cons, raises_count n us, raise_count]
theorem again_count (f : List Nat → List Nat) (h : ∀ L, (f L).length = L.length) : ∀ (t : Nat) (x : List Nat), (again f t x).length = x.length
  | 0, _ => rfl
  | t + 1, x => by rw [again_succ, h, again_count f h t x]
theorem levels_count (rs : List Rl) : (levelsL rs).length = rs.length := by
  rw [levelsL_ups, again_count _ (fun L => raises_count rs.length (upsOf rs) L), List.length_replicate]

theorem progStrata_eight (rs : List Rl) : (progStrata rs).length ≤ 8 := by
  unfold progStrata
  by_cases h : progB rs = 0
  · rw [if_pos h, List.length_map, levels_count]; exact (prog_sound h).2.1
  · rw [if_neg h]; simp

/-- What the law holds: the model's answer, its own rules, the program's answer; each in blocks apart. -/
structure SLaw (w : World) (a b d : Nat) (A3 : Option Addr) (m c3 : Nat) (ls : List Int) (g4 n : Nat) (A5 : Option Addr) (k c5 : Nat) (os : List Int) (W : World) : Prop where
  hb : Below w.heap.size w W
  h1 : w.heap.size ≤ a
  h2 : a ≤ b
  h3 : b ≤ d
  h4 : d ≤ W.heap.size
  T : OwnIs W 0 a A3 m c3 ls
  R : RuleRow W a b g4 n
  O : OwnIs W b d A5 k c5 os

section
variable {w : World} {a b d : Nat} {A3 : Option Addr} {m c3 : Nat} {ls : List Int} {g4 n : Nat} {A5 : Option Addr} {k c5 : Nat} {os os' : List Int} {W W' : World}

theorem SLaw.below (h : SLaw w a b d A3 m c3 ls g4 n A5 k c5 os W) (hw : Below W.heap.size W W') : SLaw w a b d A3 m c3 ls g4 n A5 k c5 os W' :=
  have h1 := h.h1; have h2 := h.h2; have h3 := h.h3; have h4 := h.h4
  ⟨belowThen h.hb hw, h.h1, h.h2, h.h3, Nat.le_trans h.h4 hw.size, h.T.below hw (by omega), h.R.keep (fun x _ hx => hw.block x (by omega)), h.O.below hw (by omega)⟩

theorem SLaw.rules (h : SLaw w a b d A3 m c3 ls g4 n A5 k c5 os W) (hw : Within a b W W') (hR : RuleRow W' a b g4 n) : SLaw w a b d A3 m c3 ls g4 n A5 k c5 os W' :=
  have h1 := h.h1; have h2 := h.h2; have h3 := h.h3; have h4 := h.h4
  ⟨h.hb.trans (hw.low (by omega) (by omega)), h.h1, h.h2, h.h3, Nat.le_trans h.h4 hw.size, h.T.keep (fun x _ hx => hw.block x (by omega) (.inl (by omega))) (Nat.le_refl _) (Nat.le_refl _), hR, h.O.keep (fun x hx hx' => hw.block x (by omega) (.inr (by omega))) (Nat.le_refl _) (Nat.le_refl _)⟩

theorem SLaw.marked (h : SLaw w a b d A3 m c3 ls g4 n A5 k c5 os W) (hw : Within b d W W') (hO : OwnIs W' b d A5 k c5 os') : SLaw w a b d A3 m c3 ls g4 n A5 k c5 os' W' :=
  have h1 := h.h1; have h2 := h.h2; have h3 := h.h3; have h4 := h.h4
  ⟨h.hb.trans (hw.low (by omega) (by omega)), h.h1, h.h2, h.h3, Nat.le_trans h.h4 hw.size, h.T.keep (fun x _ hx => hw.block x (by omega) (.inl (by omega))) (Nat.le_refl _) (Nat.le_refl _), h.R.keep (fun x hx hx' => hw.block x (by omega) (.inl (by omega))), hO⟩

theorem SLaw.model (h : SLaw w a b d A3 m c3 ls g4 n A5 k c5 os W) : OwnIs W 0 W.heap.size A3 m c3 ls :=
  have h1 := h.h1; have h2 := h.h2; have h3 := h.h3; have h4 := h.h4
  h.T.keep (fun _ _ _ => rfl) (Nat.le_refl _) (by omega)
theorem SLaw.answer (h : SLaw w a b d A3 m c3 ls g4 n A5 k c5 os W) : OwnIs W 0 W.heap.size A5 k c5 os :=
  have h1 := h.h1; have h2 := h.h2; have h3 := h.h3; have h4 := h.h4
  h.O.keep (fun _ _ _ => rfl) (Nat.zero_le _) (by omega)
end

theorem lowRules {w : World} {lo hi n c : Nat} {A : Option Addr} {xs : List Rl} (h : IsRules w lo hi A n c xs) (hh : hi ≤ w.heap.size) : IsRules w 0 w.heap.size A n c xs := h.keep RuleE.stays (fun _ _ _ => rfl) (Nat.zero_le _) hh

set_option maxRecDepth 100000 in
set_option maxHeartbeats 2000000 in
theorem exactProgStrata_any (A : Option Addr) (n c : Nat) (l : List Rl) (w : World) (h : IsRules w 0 w.heap.size A n c l) (hk : ErrKind w) :
    Calls Tryz.prog 6 #[.slice A n c] w (BoolPost true w) := by
  have H := Lib.hid h; clear h
  have HK := Lib.hid hk; clear hk
  obtain ⟨ls, hls⟩ : ∃ ls, progStrata l = ls := ⟨_, rfl⟩
  have hs1 := progStrata_eight l
  rw [hls] at hs1
  have HLS := Lib.hid hls; clear hls
  obtain ⟨m, hm⟩ : ∃ m, ls.length = m := ⟨_, rfl⟩
  have HM := Lib.hid hm
  rw [hm] at hs1
  clear hm
  go_enter Tryz.func6, Tryz.ntmps6
  go_wp2_with fail
  refine (szRuleS_any _ _ _ l _ _ H.out (by omega) (by omega)).mono ?_; rintro e w1 ⟨y, ⟨rfl, ha, hb, hc⟩, hb1⟩
  go_wp2_with fail
  all_goals try (go_ret; exact ⟨rfl, hb1⟩)
  have hn : SmallRules n l := hc (by assumption)
  have hnn := hn.1
  have HN := Lib.hid hn
  clear ha hb hc hn
  refine (toRuleS_any _ _ _ l _ (H.out.up RuleE.stays hb1) HN.out).mono ?_; rintro e w2 ⟨g2, rfl, hg2, o2, hb2⟩
  have HB2 := belowThen hb1 hb2
  go_wp2_with fail
  refine (specProgStrata_any _ _ _ l _ (lowRules o2 (Nat.le_refl _))).mono ?_; rintro e w3 ⟨p3, c3, rfl, T3', hb3⟩
  have T3 := T3'.keep (lo' := 0) (hi' := w3.heap.size) (fun _ _ _ => rfl) (Nat.zero_le _) (Nat.le_refl _)
  clear T3'
  rw [HLS.out, HM.out] at T3 ⊢
  have HB3 := belowThen HB2 hb3
  have HT3 := Lib.hid T3
  clear hb1 hb2 hb3 o2 HB2 T3
  go_wp2_with fail
  refine (toRuleS_row _ _ _ l _ (H.out.up RuleE.stays HB3) HN.out).mono ?_; rintro e w4 ⟨g4, rfl, hg4, o4, r4, hb4⟩
  have HO4 := Lib.hid o4; have HR4 := Lib.hid r4
  clear o4 r4
  go_wp2_with fail
  refine (implProgStrata_any _ _ _ l _ (lowRules HO4.out (Nat.le_refl _)) (HK.out.later (belowThen HB3 hb4))).mono ?_; rintro e w5 ⟨v, rfl, hrow, hb5⟩
  rw [HLS.out, HM.out] at hrow
  obtain ⟨A5, c5, rfl, O5⟩ := OwnIs.of_row hrow HM.out.symm (Nat.le_refl _)
  have V5 := Lib.hid (show SLaw w w3.heap.size w4.heap.size w5.heap.size p3 m c3 ls g4 n A5 m c5 ls w5 from ⟨belowThen (belowThen HB3 hb4) hb5, HB3.size, hb4.size, hb5.size, Nat.le_refl _, (HT3.out.below hb4 (Nat.le_refl _)).below hb5 hb4.size, HR4.out.keep (fun x _ hx => hb5.block x hx), O5⟩)
  have HP5 := Lib.hid (HO4.out.below RuleE.stays hb5 (Nat.le_refl _))
  have hz5 := hb5.size
  clear hrow O5 HT3 HR4 HO4 HB3 hb4 hb5
  go_wp2_with fail
  refine (eqIntS_same _ _ _ _ _ _ ls _ V5.out.answer V5.out.model).mono ?_; rintro e w6 ⟨rfl, hb6⟩
  have V6 := Lib.hid (V5.out.below hb6)
  have HP6 := Lib.hid (HP5.out.below RuleE.stays hb6 hz5)
  have hz6 := hb6.size
  clear hb6 V5 HP5
  go_wp2_with fail
  refine (toRuleS_any _ _ _ l _ (H.out.up RuleE.stays V6.out.hb) HN.out).mono ?_; rintro e w7 ⟨g7, rfl, hg7, o7, hb7⟩
  have V7 := Lib.hid (V6.out.below hb7)
  have HP7 := Lib.hid (HP6.out.below RuleE.stays hb7 (Nat.le_trans hz5 hz6))
  have hz7 := hb7.size
  clear hb7 V6 HP6
  go_wp2_with fail
  refine (eqRuleS_any _ _ _ _ _ _ l l _ (lowRules HP7.out (by omega)) (lowRules o7 (Nat.le_refl _))).mono ?_; rintro e w8 ⟨rfl, hb8⟩
  have V8 := Lib.hid (V7.out.below hb8)
  rw [listEq_refl ruleEq_refl]
  clear hb8 o7 V7 HP7
  go_wp2_with fail
  refine (markRuleS_marks _ _ g4 n n 1 _ V8.out.R (by omega)).mono ?_; rintro e w9 ⟨⟨k9, rfl⟩, hm9⟩
  have V9 := Lib.hid (V8.out.rules hm9.within (V8.out.R.marks hm9))
  clear hm9 V8
  have hkn : ¬ (k9 : Int) < 0 := by omega
  go_wp2_with fail
  refine (eqIntS_same _ _ _ _ _ _ ls _ V9.out.answer V9.out.model).mono ?_; rintro e w10 ⟨rfl, hb10⟩
  have V10 := Lib.hid (V9.out.below hb10)
  clear hb10 V9
  go_wp2_with fail
  refine (markIntS_any _ _ _ _ _ 1 ls _ V10.out.O (by omega)).mono ?_; rintro e w11 ⟨rfl, hO11, hw11⟩
  have V11 := Lib.hid (V10.out.marked hw11 hO11)
  clear hO11 hw11 V10
  go_wp2_with fail
  refine (heldIntS_any _ _ _ 1 _ V11.out.answer (by omega)).mono ?_; rintro e w12 ⟨rfl, hb12⟩
  have V12 := Lib.hid (V11.out.below hb12)
  clear hb12 V11
  go_wp2_with fail
  refine (toRuleS_any _ _ _ l _ (H.out.up RuleE.stays V12.out.hb) HN.out).mono ?_; rintro e w13 ⟨g13, rfl, hg13, o13, hb13⟩
  have V13 := Lib.hid (V12.out.below hb13)
  clear hb13 V12
  go_wp2_with fail
  refine (implProgStrata_any _ _ _ l _ (lowRules o13 (Nat.le_refl _)) (HK.out.later V13.out.hb)).mono ?_; rintro e w14 ⟨v, rfl, hrow, hb14⟩
  rw [HLS.out, HM.out] at hrow
  obtain ⟨A14, c14, rfl, O14⟩ := OwnIs.of_row hrow HM.out.symm (Nat.zero_le _)
  have V14 := Lib.hid (V13.out.below hb14)
  have HX14 := Lib.hid O14
  clear hrow O14 hb14 V13 o13
  go_wp2_with fail
  refine (eqIntS_same _ _ _ _ _ _ ls _ HX14.out V14.out.model).mono ?_; rintro e w15 ⟨rfl, hb15⟩
  have V15 := Lib.hid (V14.out.below hb15)
  clear hb15 V14
  go_wp2_with fail
  refine (heldIntS_any _ _ _ 1 _ V15.out.answer (by omega)).mono ?_; rintro e w16 ⟨rfl, hb16⟩
  have V16 := Lib.hid (V15.out.below hb16)
  clear hb16 V15
  go_wp2
  go_ret; exact ⟨rfl, V16.out.hb⟩

end Go.Proofs.YtalneeelcdmoaaaGreatDoor

namespace Go.Proofs.YtalneeelcdmoaaaGreatDoor
open Go.RowKit Go.ChangeShapes Go.WideShapes Go.ChangeAt

set_option maxRecDepth 100000 in
set_option maxHeartbeats 1000000 in
theorem exactProgStrata_lifted (os : Os) (started : os.Started) (H : Type) (enc : TypeId × Value → H) :
    ReturnsInHanded {} Tryz.checked os 6 .any (fun w args => (Rows.fnExactProgStrataSpec.pre enc Tryz.prog Tryz.f6 [] false w args ∧ laidMetH Tryz.prog laidE w) ∧ sizedMet enc Tryz.prog Tryz.f6 (OpenSpec.ofChange Rows.fnExactProgStrataSpec) false w args)
      (Rows.fnExactProgStrataSpec.post enc Tryz.prog Tryz.f6 false true false false) := by
  refine returnsInHanded_of_change_and (C := Tryz.checked) (X := fun w _ => laidMetH Tryz.prog laidE w) (fun _ _ _ hh h => h.of_heap hh) Tryz.own started (by kernel_rfl) Tryz.func6
    (ChangeSpec.witness_shaped (enc := enc) (C := Tryz.checked) (os := os) (X := fun w _ => laidMetH Tryz.prog laidE w) false (World.doorLaid Tryz.prog 400 os) #[.slice none 0 0] 8 rfl (World.shaped_of_RefB (by kernel_rfl) (by kernel_rfl)) (by kernel_rfl) (by kernel_rfl) (by kernel_rfl) (err_met os _)) ?_
  intro W base args ds gs before hval0 hW _ _ hL _
  have hval : ∀ (j : Nat) t v, Tryz.f6.params[j]? = some t → args[j]? = some v → Value.okWide Tryz.prog W .any base t v := hval0
  have hW' := hW
  have hlt : ∀ x ∈ before, x.block < W.heap.size := fun x hx => hW.lt x hx
  obtain ⟨p, q, hA0, hV, hpq, hfz, hnd⟩ := hW
  have hA : DataW.TrodAll enc Tryz.prog W 0 (fun _ => true) true Tryz.f6.params.toList args.toList ds p := hA0
  rw [Tryz.params6] at hA hval
  obtain ⟨v0, d0, hargs, rfl, h0⟩ := trodAll_one hA
  obtain ⟨rfl, rfl⟩ := trodVars_none hV
  simp only [List.append_nil] at hpq
  subst hpq
  have hh0 := Lib.hid h0
  have hk := errKind_of_laid hL
  obtain ⟨A0, n0, c0, l0, rfl, wt0⟩ := open_rules (hval 0 22 v0 rfl (by rw [hargs]; rfl)) h0
  subst hargs
  clear hA0 hval0
  refine (exactProgStrata_any A0 n0 c0 l0 W wt0 hk).mono fun e W' ⟨he, hb⟩ => ?_
  subst he
  exact ⟨_, rfl, post_true (pv := []) hW' (trodAll_mk1 (shut_bool Tryz.underlying4 true)) (trodAll_mk1 (Below.trod Tryz.laidOut (by kernel_rfl) (of_decide_eq_true (by kernel_rfl)) hh0.out hb hlt)) rfl hb⟩

theorem exactProgStrata_row : Rows.FnExactProgStrataSaid :=
  OpenClaim.holds_of_wide 6 Tryz.f6 rfl rfl rfl rfl rfl rfl rfl ⟨rfl, rfl, rfl, rfl, rfl⟩ rfl rfl rfl rfl rfl (by kernel_rfl) Tryz.func6 (by kernel_rfl)
    (of_decide_eq_true (by kernel_rfl)) (by unfold Func.isWrapper; rw [if_neg (of_decide_eq_false (by kernel_rfl))]; exact ⟨rfl, rfl⟩)
    (fun os started H enc _ => exactProgStrata_lifted os started H enc)

theorem exactProgStrata_holds : Rows.FnExactProgStrataCardSaid :=
  Claim7.holds_tied_plain_at .later [] [.handle] true _ true
    exactProgStrata_row (fun _ h => by cases h) (by kernel_rfl) (fun _ h => by cases h) fnExactProgStrata_row_tie rfl ⟨rfl, rfl⟩ (by kernel_rfl) rfl
    (fun f fn hf hfn => by
      obtain rfl : f = 6 := Option.some.inj ((show Tryz.prog.funcNamed "loop.example/springhead/laws.FnExactProgStrata" = some 6 by kernel_rfl).symm.trans hf) |>.symm
      obtain rfl : fn = Tryz.f6 := (Option.some.inj (Tryz.func6.symm.trans hfn)).symm
      exact ⟨by kernel_rfl, fun j t ht => by
        rw [Tryz.params6] at ht
        have h3 : t = 22 := by
          rcases j with _ | j
          · simpa using ht.symm
          · simp at ht
        subst h3
        exact (show Tryz.prog.wantsStandIn 22 = false by kernel_rfl)⟩)
    (by kernel_rfl)

end Go.Proofs.YtalneeelcdmoaaaGreatDoor

