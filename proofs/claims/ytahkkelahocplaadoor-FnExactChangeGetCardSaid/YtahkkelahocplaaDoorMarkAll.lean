/-
  Texts of one claim, put together.
-/
import Derived.Test.YtahkkelahocplaaDoorWithin
import Derived.Test.YtahkkelahocplaaDoorOwn2
namespace Go.Proofs.YtahkkelahocplaaDoor
open Go.RowKit

/-- Marked atoms, from k on; the number behind them. -/
def markR (k : Nat) (r : Rf) : Rf := (markB k, r.2.1, r.2.2.1, r.2.2.2.1, markTs (k + 1) (rN r))
def markN (k : Nat) : List Rf → Nat
  | [] => k
  | r :: rs => markN (k + 1 + 2 * rN r) rs
def markRs (k : Nat) : List Rf → List Rf
  | [] => []
  | r :: rs => markR k r :: markRs (k + 1 + 2 * rN r) rs

theorem markN_snoc : ∀ (k : Nat) (l : List Rf) (r : Rf), markN k (l ++ [r]) = markN k l + 1 + 2 * rN r
  | _, [], _ => rfl
  | k, q :: l, r => markN_snoc (k + 1 + 2 * rN q) l r

theorem markN_app : ∀ (k : Nat) (l l' : List Rf), markN k (l ++ l') = markN (markN k l) l'
  | _, [], _ => rfl
  | k, q :: l, l' => markN_app (k + 1 + 2 * rN q) l l'

theorem markN_ge : ∀ (k : Nat) (l : List Rf), k ≤ markN k l
  | _, [] => Nat.le_refl _
  | k, q :: l => Nat.le_trans (by omega) (markN_ge (k + 1 + 2 * rN q) l)

theorem markN_le (M : Nat) : ∀ (k : Nat) (l : List Rf), (∀ r ∈ l, rN r ≤ M) → markN k l ≤ k + l.length * (1 + 2 * M)
  | _, [], _ => by simp [markN]
  | k, q :: l, h => by
    have h1 := markN_le M (k + 1 + 2 * rN q) l (fun r hr => h r (by simp [hr]))
    have h2 := h q (by simp)
    rw [List.length_cons, Nat.add_mul]
    show markN (k + 1 + 2 * rN q) l ≤ _
    omega

theorem markRs_snoc : ∀ (k : Nat) (l : List Rf) (r : Rf), markRs k (l ++ [r]) = markRs k l ++ [markR (markN k l) r]
  | _, [], _ => rfl
  | k, q :: l, r => by
    show markR k q :: markRs (k + 1 + 2 * rN q) (l ++ [r]) = _
    rw [markRs_snoc (k + 1 + 2 * rN q) l r]; rfl

theorem markRs_len : ∀ (k : Nat) (l : List Rf), (markRs k l).length = l.length
  | _, [] => rfl
  | k, q :: l => by
    show (markRs (k + 1 + 2 * rN q) l).length + 1 = _
    rw [markRs_len, List.length_cons]

theorem markRs_at : ∀ (k : Nat) (l1 : List Rf) (r : Rf) (l2 : List Rf), (markRs k (l1 ++ r :: l2))[l1.length]? = some (markR (markN k l1) r)
  | _, [], _, _ => rfl
  | k, q :: l, r, l2 => by
    show (markR k q :: markRs (k + 1 + 2 * rN q) (l ++ r :: l2))[l.length + 1]? = _
    rw [List.getElem?_cons_succ, markRs_at]; rfl

/-- What an owned list has at a place. -/
theorem OwnRefs.place {w : World} {lo hi n c : Nat} {A : Option Addr} {l1 l2 : List Rf} {r : Rf} (h : OwnRefs w lo hi A n c (l1 ++ r :: l2)) :
    ∃ g, A = some ⟨g, 0, none⟩ ∧ lo ≤ g ∧ g < hi ∧ g < w.heap.size ∧ l1.length < n ∧ (∃ x, w.cell? ⟨g, l1.length * 2, none⟩ = some x) ∧ w.cell? ⟨g, l1.length * 2 + 1, none⟩ = some (.slice r.2.1 r.2.2.1 r.2.2.2.1) ∧ w.frozen? ⟨g, l1.length * 2, none⟩ = false := by
  obtain ⟨a, b, d, e, f⟩ := h
  have hl : l1.length < n := by rw [← a]; simp
  obtain ⟨g, k, f', e1, e2, e3, e4, e5, e6⟩ := e (by omega)
  have ha : (l1 ++ r :: l2)[l1.length]? = some r := by simp
  obtain ⟨c1, c2⟩ := rcells_at ha
  refine ⟨g, e1, e2, e3, e4.lt, hl, ⟨_, e4.cell (by omega)⟩, ?_, e4.frozen _⟩
  rw [e4.cell (by omega), e6 _ _ c2]

def MarkPost (lo hi : Nat) (A : Option Addr) (n c k : Nat) (rs : List Rf) (w : World) (e : Ending) (w' : World) : Prop :=
  e = .returned (.int .i64 ((markN k rs : Nat) : Int)) ∧ OwnRefs w' lo hi A n c (markRs k rs) ∧ Within lo hi w w'

theorem markTermS_at (lo hi : Nat) (A : Option Addr) (n c : Nat) (l1 l2 : List Rf) (r : Rf) (k : Nat) (w : World) (z : Int) (hz : z = ((k + 1 : Nat) : Int)) (h : OwnRefs w lo hi A n c (l1 ++ (markB k, r.2) :: l2)) (hk : k + 1 + 2 * rN r ≤ 2 ^ 62) :
    Calls Tryd.prog 55 #[.slice r.2.1 r.2.2.1 r.2.2.2.1, .int .i64 z] w fun e w' => e = .returned (.int .i64 ((k + 1 + 2 * rN r : Nat) : Int)) ∧ OwnRefs w' lo hi A n c (l1 ++ markR k r :: l2) ∧ Within lo hi w w' := by
  subst hz
  obtain ⟨y1, y2, y3⟩ := h.2.2.2.2.1 (markB k, r.2) (by simp)
  by_cases h0 : 0 < rN r
  · obtain ⟨g, m, f, e1, e2, e3, e4, e5⟩ := y3 h0
    have e1' : r.2.1 = some ⟨g, 0, none⟩ := e1
    rw [e1']
    refine (markTermS_any g m r.2.2.1 r.2.2.2.1 (k + 1) f w e4 e5 hk).mono ?_
    rintro e w' ⟨rfl, ⟨f', r1, r2⟩, hg⟩
    have hT : IsTerms w' lo hi (some ⟨g, 0, none⟩) r.2.2.1 r.2.2.2.1 (markTs (k + 1) (rN r)) := marked_terms r1 e5 r2 hk y2.2.1 y2.2.2.1 e2 e3
    refine ⟨rfl, ?_, Within.row hg e2 e3⟩
    have := OwnRefs.terms (r := (markB k, r.2)) h (g := g) e1 h0 (fun b hb hne => hg.block b hb (fun e => hne (by injection e))) (markTs (k + 1) (rN r)) (by show IsTerms w' lo hi r.2.1 _ _ _; rw [e1']; exact hT) ⟨g, m, f', e1, e2, e3, r1, e5⟩
    exact this
  · have hn : r.2.2.1 = 0 := by unfold rN at h0; omega
    have hn' : rN r = 0 := hn
    have ht : r.2.2.2.2 = [] := List.eq_nil_of_length_eq_zero (by have := y2.1; simp only at this; omega)
    rw [hn]
    refine (markTermS_none r.2.1 r.2.2.2.1 (k + 1) w).mono ?_
    rintro e w' ⟨rfl, rfl⟩
    refine ⟨by rw [hn'], ?_, Within.refl⟩
    have e : markR k r = (markB k, r.2) := by
      unfold markR
      rw [hn']
      obtain ⟨a, b, c, d, t⟩ := r
      simp only at ht ⊢
      subst ht
      rfl
    rw [e]; exact h

set_option maxRecDepth 100000 in
set_option maxHeartbeats 1000000 in
theorem markAtomS_any (lo hi : Nat) (A : Option Addr) (n c k : Nat) (rs : List Rf) (w : World) (h : OwnRefs w lo hi A n c rs) (hh : hi ≤ w.heap.size) (hk : markN k rs ≤ 2 ^ 62) :
    Calls Tryd.prog 91 #[.slice A n c, .int .i64 (k : Int)] w (MarkPost lo hi A n c k rs w) := by
  have hn := h.2.2.1
  have hnc := h.2.1
  have HN := Lib.hid h.1
  unfold maxLen at hn
  have H := Lib.hid h; clear h
  go_enter Tryd.func91, Tryd.ntmps91
  go_wp2
  go_loopw [1, 5] (fun x y wr => ∃ l1 l2 : List Rf, rs = l1 ++ l2 ∧ x = .int .i64 ((markN k l1 : Nat) : Int) ∧ y = .int .i64 ((l1.length : Nat) : Int) ∧ OwnRefs wr lo hi A n c (markRs k l1 ++ l2) ∧ Within lo hi w wr) (fun _ y _ => n - (intOf y).toNat)
  case atStart => exact ⟨[], rs, rfl, rfl, rfl, H.out, Within.refl⟩
  case round =>
    obtain ⟨l1, l2, hs, rfl, rfl, ho, hw⟩ := hrel
    have HS := Lib.hid hs; clear hs
    have HO := Lib.hid ho; clear ho
    have HL := Lib.hid (markRs_len k l1)
    obtain ⟨i, hi'⟩ : ∃ i, l1.length = i := ⟨_, rfl⟩
    obtain ⟨q, hq⟩ : ∃ q, markN k l1 = q := ⟨_, rfl⟩
    rw [hi', hq]
    cases l2 with
    | nil =>
      have e1 : rs = l1 := by have := HS.out; rwa [List.append_nil] at this
      have hin : i = n := by have := HN.out; rw [e1, hi'] at this; exact this
      have HQ := Lib.hid hq; have HI := Lib.hid hi'; have HE := Lib.hid e1
      clear hq hi' e1
      subst hin
      go_wp2
      go_ret; exact ⟨by rw [HE.out, HQ.out]; rfl, by rw [HE.out]; have := HO.out; rwa [List.append_nil] at this, hw⟩
    | cons r l2 =>
      obtain ⟨g, hA, p1, p2, p3, p4, ⟨x0, p5⟩, p6, p7⟩ := HO.out.place
      rw [HL.out, hi'] at p4 p5 p6 p7
      have hb1 : q + 1 + 2 * rN r ≤ 2 ^ 62 := by
        have e1 : markN k rs = markN (q + 1 + 2 * rN r) l2 := by rw [HS.out, markN_app, hq]; rfl
        have := markN_ge (q + 1 + 2 * rN r) l2
        omega
      have HQ := Lib.hid hq; have HI := Lib.hid hi'
      clear hq hi'
      subst hA
      have hws := hw.size
      go_wp2_with fail
      refine (markText_is _ q rfl (by omega) _).mono ?_; rintro e w1 ⟨rfl, hb1'⟩
      have c0 := (hb1'.cell (p := ⟨g, i * 2, none⟩) p3).trans p5
      have c1 := (hb1'.cell (p := ⟨g, i * 2 + 1, none⟩) p3).trans p6
      have z0 := (hb1'.frozen (p := ⟨g, i * 2, none⟩) p3).trans p7
      have hO1 := (HO.out.below hb1' (Nat.le_trans hh hws)).name rfl (markB q) (markB_size q (by omega))
      rw [HL.out, HI.out] at hO1
      have hw1 := (hw.trans (Within.of hb1')).trans (Within.row (grownSet w1 g (i * 2) (.string (markB q))) p1 p2)
      have HO1 := Lib.hid hO1
      clear hO1 p5 p6 p7 hb1'
      go_wp2_with fail
      refine (markTermS_at lo hi (some ⟨g, 0, none⟩) n c (markRs k l1) l2 r q _ _ (by omega) HO1.out hb1).mono ?_; rintro e w2 ⟨rfl, hO2, hw2⟩
      clear c0 c1 z0
      go_wp2
      go_roundw
      case rel => exact ⟨l1 ++ [r], l2, by rw [HS.out, List.append_assoc]; rfl, by rw [markN_snoc, HQ.out]; go_num, by rw [List.length_append, HI.out]; go_num, by rw [markRs_snoc, HQ.out, List.append_assoc]; exact hO2, hw1.trans hw2⟩
      case measure => simp [intOf]; omega

set_option maxRecDepth 100000 in
set_option maxHeartbeats 1000000 in
theorem heldAtomS_any (A : Option Addr) (n c k : Nat) (rs : List Rf) (w : World) (h : IsRefs w 0 w.heap.size A n c (markRs k rs)) (hk : markN k rs ≤ 2 ^ 62) :
    Calls Tryd.prog 92 #[.slice A n c, .int .i64 (k : Int)] w fun e w' => e = .returned (.int .i64 ((markN k rs : Nat) : Int)) ∧ Below w.heap.size w w' := by
  have hn := h.len
  unfold maxLen at hn
  have HN := Lib.hid h.1
  have H := Lib.hid h; clear h
  go_enter Tryd.func92, Tryd.ntmps92
  go_wp2
  go_loopw [1, 5] (fun x y wr => ∃ l1 l2 : List Rf, rs = l1 ++ l2 ∧ x = .int .i64 ((markN k l1 : Nat) : Int) ∧ y = .int .i64 ((l1.length : Nat) : Int) ∧ Below w.heap.size w wr) (fun _ y _ => n - (intOf y).toNat)
  case atStart => exact ⟨[], rs, rfl, rfl, rfl, Below.refl _ _⟩
  case round =>
    obtain ⟨l1, l2, hs, rfl, rfl, hb⟩ := hrel
    have HS := Lib.hid hs; clear hs
    obtain ⟨i, hi'⟩ : ∃ i, l1.length = i := ⟨_, rfl⟩
    obtain ⟨q, hq⟩ : ∃ q, markN k l1 = q := ⟨_, rfl⟩
    rw [hi', hq]
    have HLN : Hid (l1.length + l2.length = n) := Lib.hid (by have := HN.out; rw [markRs_len, HS.out, List.length_append] at this; exact this)
    cases l2 with
    | nil =>
      have e1 : rs = l1 := by have := HS.out; rwa [List.append_nil] at this
      have hin : i = n := by have := HLN.out; rw [hi'] at this; simpa using this
      have HQ := Lib.hid hq; have HI := Lib.hid hi'; have HE := Lib.hid e1
      clear hq hi' e1
      subst hin
      go_wp2
      go_ret; exact ⟨by rw [HE.out, HQ.out]; rfl, hb⟩
    | cons r l2 =>
      have hin : i < n := by have := HLN.out; rw [hi', List.length_cons] at this; omega
      obtain ⟨p, r', hA, hlo, hhi, hg, hE⟩ := (H.out.below RefE.stays hb (Nat.le_refl _)).at_ hin
      have hat := markRs_at k l1 r l2
      rw [← HS.out, hi', hg] at hat
      injection hat with hat
      subst hat
      rw [hq] at hE
      obtain ⟨d1, d2, d3, d4⟩ := hE.out
      clear hE hg
      have d1' : wr.cell? (p.add (i * 2)) = some (.string (markB q)) := d1
      have d3' : wr.cell? ⟨(p.add (i * 2)).block, (p.add (i * 2)).off + 1, none⟩ = some (.slice r.2.1 r.2.2.1 r.2.2.2.1) := d3
      have d4' : IsTerms wr 0 w.heap.size r.2.1 r.2.2.1 r.2.2.2.1 (markTs (q + 1) r.2.2.1) := d4
      clear d1 d2 d3 d4
      have hb1 : q + 1 + 2 * rN r ≤ 2 ^ 62 := by
        have e1 : markN k rs = markN (q + 1 + 2 * rN r) l2 := by rw [HS.out, markN_app, hq]; rfl
        have := markN_ge (q + 1 + 2 * rN r) l2
        omega
      have hb2 : q + 1 + 2 * r.2.2.1 ≤ 2 ^ 62 := hb1
      have HQ := Lib.hid hq; have HI := Lib.hid hi'
      clear hq hi'
      subst hA
      have hpz : p.block < wr.heap.size := Nat.lt_of_lt_of_le hhi hb.size
      have x1 : wr.drew.cell? (p.add (i * 2)) = some (.string (markB q)) := d1'
      have x2 : wr.drew.cell? ⟨(p.add (i * 2)).block, (p.add (i * 2)).off + 1, none⟩ = some (.slice r.2.1 r.2.2.1 r.2.2.2.1) := d3'
      have HT := Lib.hid (show IsTerms wr.drew 0 wr.drew.heap.size r.2.1 r.2.2.1 r.2.2.2.1 (markTs (q + 1) r.2.2.1) from d4'.keep (fun _ _ _ => rfl) (Nat.le_refl _) hb.size)
      have hbd := hb.drew
      clear d1' d3' d4'
      go_wp2
      refine wp_region_held_drew (S := fun W => W.cell? (p.add (i * 2)) = some (.string (markB q)) ∧ W.cell? ⟨(p.add (i * 2)).block, (p.add (i * 2)).off + 1, none⟩ = some (.slice r.2.1 r.2.2.1 r.2.2.2.1)) (by kernel_rfl) ⟨x1, x2⟩ ?_
      intro hS_
      refine takeV (i := 0) (v := .slice (some p) n c) (by (simp only [List.getElem?_toArray, List.getElem?_cons_zero]); rfl) (by kernel_rfl) (by kernel_rfl) (by kernel_rfl) (by rfl) (fun _ _ _ h => h) (Or.inl ⟨by rfl, ?_⟩) hS_ (by (simp only [List.setIfInBounds_toArray, List.set_cons_succ, List.set_cons_zero]); rfl) ?_
      · intro w_ hSw_; (try dsimp only at hSw_); go_simp
      refine takeV (i := 1) (v := .int .i64 (i : Int)) (by (simp only [List.getElem?_toArray, List.getElem?_cons_succ, List.getElem?_cons_zero]); rfl) (by kernel_rfl) (by kernel_rfl) (by kernel_rfl) (by rfl) (fun _ _ _ h => h) (Or.inl ⟨by rfl, ?_⟩) hS_ (by (simp only [List.setIfInBounds_toArray, List.set_cons_succ, List.set_cons_zero]); rfl) ?_
      · intro w_ hSw_; (try dsimp only at hSw_); go_simp
      refine takeV (i := 2) (v := .pointer (some (p.add (i * 2)))) (by (simp only [List.getElem?_toArray, List.getElem?_cons_succ, List.getElem?_cons_zero]); rfl) (by kernel_rfl) (by kernel_rfl) (by kernel_rfl) (by rfl) (fun _ _ _ h => h) (Or.inl ⟨by rfl, ?_⟩) hS_ (by (simp only [List.setIfInBounds_toArray, List.set_cons_succ, List.set_cons_zero]); rfl) ?_
      · intro w_ hSw_; (try dsimp only at hSw_); go_simp
      refine takeV (i := 3) (v := .pointer (some (p.add (i * 2)))) (by (simp only [List.getElem?_toArray, List.getElem?_cons_succ, List.getElem?_cons_zero]); rfl) (by kernel_rfl) (by kernel_rfl) (by kernel_rfl) (by rfl) (fun _ _ _ h => h) (Or.inl ⟨by rfl, ?_⟩) hS_ (by (simp only [List.setIfInBounds_toArray, List.set_cons_succ, List.set_cons_zero]); rfl) ?_
      · intro w_ hSw_; (try dsimp only at hSw_); go_simp
      refine takeV (i := 4) (v := .string (markB q)) (by (simp only [List.getElem?_toArray, List.getElem?_cons_succ, List.getElem?_cons_zero]); rfl) (by kernel_rfl) (by kernel_rfl) (by kernel_rfl) (by rfl) (fun _ _ _ h => h) (Or.inl ⟨by rfl, ?_⟩) hS_ (by (simp only [List.setIfInBounds_toArray, List.set_cons_succ, List.set_cons_zero]); rfl) ?_
      · intro w_ hSw_; (try dsimp only at hSw_); go_simp
      refine takeV (i := 5) (v := .int .i64 (q : Int)) (by (simp only [List.getElem?_toArray, List.getElem?_cons_succ, List.getElem?_cons_zero]); rfl) (by kernel_rfl) (by kernel_rfl) (by kernel_rfl) (by rfl) (fun _ _ _ h => h) (Or.inl ⟨by rfl, ?_⟩) hS_ (by (simp only [List.setIfInBounds_toArray, List.set_cons_succ, List.set_cons_zero]); rfl) ?_
      · intro w_ hSw_; (try dsimp only at hSw_); go_simp
      refine wpAnyH_ready (rs := [6]) (by kernel_rfl) (by simp) ?_
      refine AllReadyH.cons (o := _) (by (simp only [List.getElem?_toArray, List.getElem?_cons_succ, List.getElem?_cons_zero]); rfl) (fun K_ hK_ => ?_) AllReadyH.nil
      rw [if_pos (by rfl)]
      go_simp
      go_at_call 77
      refine (markText_is _ q rfl (by omega) _).mono ?_; rintro e w1 ⟨rfl, hb1'⟩
      have y1 := (hb1'.cell (p := p.add (i * 2)) (by rw [block_add]; exact hpz)).trans x1
      have y2 := (hb1'.cell (p := ⟨(p.add (i * 2)).block, (p.add (i * 2)).off + 1, none⟩) (by rw [block_add]; exact hpz)).trans x2
      refine hK_.out _ _ ⟨y1, y2⟩ (fun hS2_ => ?_)
      clear hK_ hS_
      have hS_ := hS2_; clear hS2_
      refine takeV (i := 7) (v := .bool false) (by (simp only [List.getElem?_toArray, List.getElem?_cons_succ, List.getElem?_cons_zero]); rfl) (by kernel_rfl) (by kernel_rfl) (by kernel_rfl) (by rfl) (fun _ _ _ h => h) (Or.inl ⟨by rfl, ?_⟩) hS_ (by (simp only [List.setIfInBounds_toArray, List.set_cons_succ, List.set_cons_zero]); rfl) ?_
      · intro w_ hSw_; (try dsimp only at hSw_); go_simp
      refine wpAnyH_done (by kernel_rfl) ?_ _
      go_wp2_with fail
      refine (heldTermS_is r.2.1 r.2.2.1 r.2.2.2.1 (q + 1) _ _ (by omega) (HT.out.up hb1') hb2).mono ?_; rintro e w2 ⟨rfl, hb2'⟩
      clear y1 y2 x1 x2
      have hnn : ¬ (((q + 1 + 2 * r.2.2.1 : Nat) : Int) < 0) := by omega
      go_wp2
      go_roundw
      case rel => exact ⟨l1 ++ [r], l2, by rw [HS.out, List.append_assoc]; rfl, by rw [markN_snoc, HQ.out]; go_num, by rw [List.length_append, HI.out]; go_num, belowThen hbd (belowThen hb1' hb2')⟩
      case measure => simp [intOf]; omega

theorem markN_small {n c lo hi : Nat} {w : World} {A : Option Addr} {rs : List Rf} {xs : List At} (h : IsRefs w lo hi A n c rs) (hx : rs.map rAt = xs) (hs : SmallAtoms n xs) : markN 1 rs ≤ 2 ^ 62 := by
  have h1 := markN_le 1048576 1 rs (fun r hr => by
    have h2 := hs.2 (rAt r) (by rw [← hx]; exact List.mem_map_of_mem hr)
    have h3 := ((RefsIn.of h) r hr).2.1
    show r.2.2.1 ≤ _
    rw [← h3]; exact h2)
  have h4 := h.1
  have h5 := hs.1
  have h6 : rs.length * (1 + 2 * 1048576) ≤ 1048576 * (1 + 2 * 1048576) := Nat.mul_le_mul_right _ (by omega)
  omega

end Go.Proofs.YtahkkelahocplaaDoor

namespace Go.Proofs.YtahkkelahocplaaDoor
open Go.RowKit

theorem Blk.within {W W' : World} {b lo hi : Nat} {t : TypeId} {cs : Array Value} (h : Blk W b t cs) (hw : Within lo hi W W') (ho : b < lo ∨ hi ≤ b) : Blk W' b t cs := (hw.block b h.lt ho).trans h
theorem OwnTerms.within {W W' : World} {g n lo hi : Nat} {ts : List Tm} (h : OwnTerms W g n ts) (hw : Within lo hi W W') (ho : g < lo ∨ hi ≤ g) : OwnTerms W' g n ts := ⟨h.1, h.2.1, h.2.2.of_block (hw.block g h.2.2.lt ho)⟩

theorem markN_tiny {n c lo hi : Nat} {w : World} {A : Option Addr} {rs : List Rf} {xs : List At} (h : IsRefs w lo hi A n c rs) (hx : rs.map rAt = xs) (hs : SmallAtoms n xs) : markN 1 rs ≤ 2 ^ 42 := by
  have h1 := markN_le 1048576 1 rs (fun r hr => by
    have h2 := hs.2 (rAt r) (by rw [← hx]; exact List.mem_map_of_mem hr)
    have h3 := ((RefsIn.of h) r hr).2.1
    show r.2.2.1 ≤ _
    rw [← h3]; exact h2)
  have h4 := h.1
  have h5 := hs.1
  have h6 : rs.length * (1 + 2 * 1048576) ≤ 1048576 * (1 + 2 * 1048576) := Nat.mul_le_mul_right _ (by omega)
  omega

set_option maxHeartbeats 1000000 in
theorem markAtom_any (nm : ByteArray) (g m k : Nat) (ts : List Tm) (w : World) (h : OwnTerms w g m ts) (hk : k + 2 * m ≤ 2 ^ 62) :
    Calls Tryd.prog 13 #[.agg #[.string nm, .slice (some ⟨g, 0, none⟩) m m], .int .i64 (k : Int)] w fun e w' => e = .returned (.int .i64 ((k + 2 * m : Nat) : Int)) ∧ Within g (g + 1) w w' := by
  have hr := h.2.2
  have hlt := hr.lt
  have hb1 := below1 w (.cells #[.string nm, .slice (some ⟨g, 0, none⟩) m m] 24)
  have hr1 := hr.alloc (.cells #[.string nm, .slice (some ⟨g, 0, none⟩) m m] 24)
  have HR := Lib.hid hr1
  clear hr hr1 h
  go_enter Tryd.func13, Tryd.ntmps13
  go_wp2_with fail
  refine (markTermS_any g (m * 2) m m k (tcell ts) _ HR.out (Nat.le_refl _) hk).mono ?_; rintro e w1 ⟨rfl, -, hg⟩
  have hw := (Within.of (lo := g) (hi := g + 1) hb1).trans (Within.row hg (Nat.le_refl _) (Nat.lt_succ_self _))
  clear hg
  go_wp2
  go_ret; exact ⟨rfl, hw⟩

end Go.Proofs.YtahkkelahocplaaDoor

namespace Go.Proofs.YtahkkelahocplaaDoor
open Go.RowKit

theorem markN_more {n c lo hi k : Nat} {w : World} {A : Option Addr} {rs : List Rf} {xs : List At} (h : IsRefs w lo hi A n c rs) (hx : rs.map rAt = xs) (hs : SmallAtoms n xs) : markN k rs ≤ k + 2 ^ 42 := by
  have h1 := markN_le 1048576 k rs (fun r hr => by
    have h2 := hs.2 (rAt r) (by rw [← hx]; exact List.mem_map_of_mem hr)
    have h3 := ((RefsIn.of h) r hr).2.1
    show r.2.2.1 ≤ _
    rw [← h3]; exact h2)
  have h4 := h.1
  have h5 := hs.1
  have h6 : rs.length * (1 + 2 * 1048576) ≤ 1048576 * (1 + 2 * 1048576) := Nat.mul_le_mul_right _ (by omega)
  omega

set_option maxRecDepth 100000 in
set_option maxHeartbeats 1000000 in
theorem markChange_any (lo mid hi : Nat) (A B : Option Addr) (n c n' c' k : Nat) (ra rb : List Rf) (w : World) (h : OwnRefs w lo mid A n c ra) (h' : OwnRefs w mid hi B n' c' rb) (hl : lo ≤ mid) (hm : mid ≤ hi) (hh : hi ≤ w.heap.size) (hk1 : markN k ra ≤ 2 ^ 62) (hk2 : markN (markN k ra) rb ≤ 2 ^ 62) :
    Calls Tryd.prog 47 #[.agg #[.slice A n c, .slice B n' c'], .int .i64 (k : Int)] w fun e w' => e = .returned (.int .i64 ((markN (markN k ra) rb : Nat) : Int)) ∧ OwnRefs w' lo mid A n c (markRs k ra) ∧ OwnRefs w' mid hi B n' c' (markRs (markN k ra) rb) ∧ Within lo hi w w' := by
  have H := Lib.hid h; have H' := Lib.hid h'; clear h h'
  have hw1 := below1 w (.cells #[.slice A n c, .slice B n' c'] 54)
  have B1 := Blk.new w 54 #[.slice A n c, .slice B n' c']
  obtain ⟨X, hX⟩ : ∃ X, w.alloc (.cells #[.slice A n c, .slice B n' c'] 54) = X := ⟨_, rfl⟩
  have hXd := Lib.hid hX
  rw [hX] at hw1 B1; clear hX
  have hz1 := hw1.size
  have HX := Lib.hid (H.out.below hw1 (by omega)); have HX' := Lib.hid (H'.out.below hw1 hh); clear H H'
  obtain ⟨k1, e1⟩ : ∃ z, markN k ra = z := ⟨_, rfl⟩
  rw [e1] at hk1 hk2 ⊢
  obtain ⟨k2, e2⟩ : ∃ z, markN k1 rb = z := ⟨_, rfl⟩
  rw [e2] at hk2 ⊢
  have E1 := Lib.hid e1; have E2 := Lib.hid e2; clear e1 e2
  have b0 : X.cell? ⟨w.heap.size, 0, none⟩ = some (.slice A n c) := B1.cell 0
  go_enter Tryd.func47, Tryd.ntmps47
  go_wp2_with fail
  rw [hXd.out]
  refine (markAtomS_any lo mid A n c k ra _ HX.out (by omega) (by rw [E1.out]; exact hk1)).mono ?_; rintro e w2 ⟨rfl, ho2, hb2⟩
  rw [E1.out]
  have O2 := Lib.hid ho2; clear ho2
  have B2 := B1.within hb2 (.inr (by omega))
  have b1 : w2.cell? ⟨w.heap.size, 1, none⟩ = some (.slice B n' c') := B2.cell 1
  have hz2 := hb2.size
  have O2' := Lib.hid (HX'.out.keep (w' := w2) (fun b h1 h2 => hb2.block b (by omega) (.inr h1)) (Nat.le_refl _) (Nat.le_refl _))
  clear b0
  go_wp2_with fail
  refine (markAtomS_any mid hi B n' c' k1 rb _ O2'.out (by omega) (by rw [E2.out]; exact hk2)).mono ?_; rintro e w3 ⟨rfl, ho3, hb3⟩
  rw [E2.out]
  have O3 := Lib.hid ho3; clear ho3
  have O3' := Lib.hid (O2.out.keep (w' := w3) (fun b h1 h2 => hb3.block b (by omega) (.inl h2)) (Nat.le_refl _) (Nat.le_refl _))
  have hw := ((Within.of (lo := lo) (hi := hi) hw1).trans (hb2.wide (Nat.le_refl _) hm)).trans (hb3.wide hl (Nat.le_refl _))
  clear b1
  go_wp2
  go_ret; exact ⟨rfl, O3'.out, O3.out, hw⟩

set_option maxRecDepth 100000 in
set_option maxHeartbeats 1000000 in
theorem heldChange_any (A B : Option Addr) (n c n' c' k : Nat) (ra rb : List Rf) (w : World) (h : IsRefs w 0 w.heap.size A n c (markRs k ra)) (h' : IsRefs w 0 w.heap.size B n' c' (markRs (markN k ra) rb)) (hk1 : markN k ra ≤ 2 ^ 62) (hk2 : markN (markN k ra) rb ≤ 2 ^ 62) :
    Calls Tryd.prog 48 #[.agg #[.slice A n c, .slice B n' c'], .int .i64 (k : Int)] w fun e w' => e = .returned (.int .i64 ((markN (markN k ra) rb : Nat) : Int)) ∧ Below w.heap.size w w' := by
  have H := Lib.hid h; have H' := Lib.hid h'; clear h h'
  have hw1 := below1 w (.cells #[.slice A n c, .slice B n' c'] 54)
  have B1 := Blk.new w 54 #[.slice A n c, .slice B n' c']
  obtain ⟨X, hX⟩ : ∃ X, w.alloc (.cells #[.slice A n c, .slice B n' c'] 54) = X := ⟨_, rfl⟩
  have hXd := Lib.hid hX
  rw [hX] at hw1 B1; clear hX
  obtain ⟨k1, e1⟩ : ∃ z, markN k ra = z := ⟨_, rfl⟩
  rw [e1] at hk1 hk2 H' ⊢
  obtain ⟨k2, e2⟩ : ∃ z, markN k1 rb = z := ⟨_, rfl⟩
  rw [e2] at hk2 ⊢
  have E1 := Lib.hid e1; have E2 := Lib.hid e2; clear e1 e2
  have b0 : X.cell? ⟨w.heap.size, 0, none⟩ = some (.slice A n c) := B1.cell 0
  have hn1 : ¬ (((k1 : Nat) : Int) < 0) := by omega
  have hn2 : ¬ (((k2 : Nat) : Int) < 0) := by omega
  go_enter Tryd.func48, Tryd.ntmps48
  go_wp2_with fail
  rw [hXd.out]
  refine (heldAtomS_any A n c k ra _ (H.out.up RefE.stays hw1) (by rw [E1.out]; exact hk1)).mono ?_; rintro e w2 ⟨rfl, hb2⟩
  rw [E1.out]
  have HB2 := belowThen hw1 hb2
  have B2 := B1.below hb2
  have b1 : w2.cell? ⟨w.heap.size, 1, none⟩ = some (.slice B n' c') := B2.cell 1
  clear b0
  go_wp2_with fail
  refine (heldAtomS_any B n' c' k1 rb _ (H'.out.up RefE.stays HB2) (by rw [E2.out]; exact hk2)).mono ?_; rintro e w3 ⟨rfl, hb3⟩
  rw [E2.out]
  have HB3 := belowThen HB2 hb3
  clear b1
  go_wp2
  go_ret; exact ⟨rfl, HB3⟩

/-- A change of the lists P and Q in memory of its own, its two lists apart, handed back. -/
def OwnPPost (P Q : List At) (w : World) (e : Ending) (w' : World) : Prop := ∃ A c ra B d rb mid, e = .returned (.agg #[.slice A P.length c, .slice B Q.length d]) ∧ (OwnRefs w' w.heap.size mid A P.length c ra ∧ ra.map rAt = P) ∧ (OwnRefs w' mid w'.heap.size B Q.length d rb ∧ rb.map rAt = Q) ∧ (w.heap.size ≤ mid ∧ mid ≤ w'.heap.size) ∧ Below w.heap.size w w'

end Go.Proofs.YtahkkelahocplaaDoor
