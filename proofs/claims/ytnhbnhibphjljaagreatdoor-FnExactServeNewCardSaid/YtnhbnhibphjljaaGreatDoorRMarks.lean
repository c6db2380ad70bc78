/-
  Lists of rules in memory of their own, marked: how the law writes them.
  Marked rules: how the law reads them again. (Written by tools/heldrules.py.)
  Copies of rules in memory of their own: the program's. (Written by tools/copyrules.py.)
-/
import Derived.Test.YtnhbnhibphjljaaGreatDoorRKeep
namespace Go.Proofs.YtnhbnhibphjljaaGreatDoor
open Go.RowKit

/-- A marked rule of a list. -/
def markRl (k : Nat) (r : Rr) : Rr := ((markB k, r.1.2.1, r.1.2.2.1, r.1.2.2.2.1, markTs (k + 1) (rN r.1)), r.2.1, r.2.2.1, r.2.2.2.1, markPs (k + 1 + 2 * rN r.1) r.2.2.2.2)
/-- The number behind a marked rule of a list. -/
def markRlN (k : Nat) (r : Rr) : Nat := markPN (k + 1 + 2 * rN r.1) r.2.2.2.2
def markRls (k : Nat) : List Rr → List Rr
  | [] => []
  | r :: rs => markRl k r :: markRls (markRlN k r) rs
def markRlsN (k : Nat) : List Rr → Nat
  | [] => k
  | r :: rs => markRlsN (markRlN k r) rs

theorem markRlsN_app : ∀ (k : Nat) (l l' : List Rr), markRlsN k (l ++ l') = markRlsN (markRlsN k l) l'
  | _, [], _ => rfl
  | k, r :: rs, l' => markRlsN_app (markRlN k r) rs l'

theorem markRlsN_snoc (k : Nat) (l : List Rr) (r : Rr) : markRlsN k (l ++ [r]) = markRlN (markRlsN k l) r := by
  rw [markRlsN_app]; rfl

theorem markRlN_ge (k : Nat) (r : Rr) : k + 1 + 2 * rN r.1 ≤ markRlN k r := markPN_ge _ _

theorem markRlsN_ge : ∀ (k : Nat) (l : List Rr), k ≤ markRlsN k l
  | _, [] => Nat.le_refl _
  | k, r :: rs => by
    have h1 := markRlN_ge k r
    have h2 := markRlsN_ge (markRlN k r) rs
    show k ≤ markRlsN (markRlN k r) rs
    omega

theorem markRls_snoc : ∀ (k : Nat) (l : List Rr) (r : Rr), markRls k (l ++ [r]) = markRls k l ++ [markRl (markRlsN k l) r]
  | _, [], _ => rfl
  | k, x :: xs, r => by
    show markRl k x :: markRls (markRlN k x) (xs ++ [r]) = _
    rw [markRls_snoc (markRlN k x) xs r]; rfl

theorem markRls_len : ∀ (k : Nat) (l : List Rr), (markRls k l).length = l.length
  | _, [] => rfl
  | k, x :: xs => by
    show (markRls (markRlN k x) xs).length + 1 = xs.length + 1
    rw [markRls_len]

theorem markRls_at : ∀ (k : Nat) (l1 : List Rr) (r : Rr) (l2 : List Rr), (markRls k (l1 ++ r :: l2))[l1.length]? = some (markRl (markRlsN k l1) r)
  | _, [], _, _ => rfl
  | k, x :: xs, r, l2 => by
    have h := markRls_at (markRlN k x) xs r l2
    show (markRl k x :: markRls (markRlN k x) (xs ++ r :: l2))[xs.length + 1]? = _
    rw [List.getElem?_cons_succ, h]; rfl

theorem markRlsN_le (M N : Nat) : ∀ (k : Nat) (l : List Rr), (∀ r ∈ l, rN r.1 ≤ M ∧ r.2.2.2.2.length ≤ N ∧ ∀ p ∈ r.2.2.2.2, rN p.2 ≤ M) → markRlsN k l ≤ k + l.length * (1 + 2 * M + N * (2 + 2 * M))
  | _, [], _ => Nat.le_add_right _ _
  | k, x :: xs, h => by
    have h1 := markRlsN_le M N (markRlN k x) xs (fun r hr => h r (List.mem_cons_of_mem _ hr))
    obtain ⟨a, b, c⟩ := h x List.mem_cons_self
    have h2 := markPN_le M (k + 1 + 2 * rN x.1) x.2.2.2.2 c
    have h3 : x.2.2.2.2.length * (2 + 2 * M) ≤ N * (2 + 2 * M) := Nat.mul_le_mul_right _ b
    show markRlsN (markRlN k x) xs ≤ _
    have h4 : markRlN k x = markPN (k + 1 + 2 * rN x.1) x.2.2.2.2 := rfl
    rw [List.length_cons, Nat.add_mul, Nat.one_mul]
    omega

section
variable {w w' : World} {lo hi n c g : Nat} {A : Option Addr} {l1 l2 : List Rr} {r : Rr}

/-- One of some rules, and what is left of the others when it alone is turned. -/
theorem RulesIn.open_ : ∀ {l1 : List Rr} {lo : Nat}, RulesIn w lo hi (l1 ++ r :: l2) → ∃ a b, lo ≤ a ∧ a ≤ b ∧ b ≤ hi ∧ RuleApart w a b r ∧ ∀ w' r', (∀ x, lo ≤ x → x < hi → (x < a ∨ b ≤ x) → w'.heap[x]? = w.heap[x]?) → RuleApart w' a b r' → RulesIn w' lo hi (l1 ++ r' :: l2)
  | [], lo, ⟨m, h1, h2, h3, h4⟩ => ⟨lo, m, Nat.le_refl _, h1, h2, h3, fun w' r' hk hr => ⟨m, h1, h2, hr, RulesIn.keep h4 (fun x hx hx' => hk x (by omega) hx' (.inr hx))⟩⟩
  | q :: l1, lo, ⟨m, h1, h2, h3, h4⟩ => by
    obtain ⟨a, b, e1, e2, e3, e4, e5⟩ := RulesIn.open_ (l1 := l1) (lo := m) h4
    exact ⟨a, b, by omega, e2, e3, e4, fun w' r' hk hr => ⟨m, h1, h2, h3.keep (fun x hx hx' => hk x hx (by omega) (.inl (by omega))) (Nat.le_refl _) (Nat.le_refl _), e5 w' r' (fun x hx hx' ho => hk x (by omega) hx' ho) hr⟩⟩

theorem rrcells_same {r r' : Rr} (h1 : r'.1.1 = r.1.1) (h2 : r'.1.2.1 = r.1.2.1) (h3 : r'.1.2.2.1 = r.1.2.2.1) (h4 : r'.1.2.2.2.1 = r.1.2.2.2.1) (h5 : r'.2.1 = r.2.1) (h6 : r'.2.2.1 = r.2.2.1) (h7 : r'.2.2.2.1 = r.2.2.2.1) : rrcells (l1 ++ r' :: l2) = rrcells (l1 ++ r :: l2) := by
  unfold rrcells
  rw [List.flatMap_append, List.flatMap_append, List.flatMap_cons, List.flatMap_cons, h1, h2, h3, h4, h5, h6, h7]

/-- The name of one turned, as the row has it. -/
theorem rrcells_turn {s : ByteArray} {f : Nat → Value} (e6 : ∀ j u, (rrcells (l1 ++ r :: l2))[j]? = some u → f j = u) :
    ∀ j u, (rrcells (l1 ++ ((s, r.1.2), r.2) :: l2))[j]? = some u → (if j = l1.length * 3 then .string s else f j) = u := by
  intro j u hu
  have hl : (rrcells l1).length = l1.length * 3 := rrcells_len l1
  unfold rrcells at hu e6
  rw [List.flatMap_append, List.flatMap_cons] at hu
  have e7 := e6 j
  rw [List.flatMap_append, List.flatMap_cons] at e7
  have hl' : (l1.flatMap fun r : Rr => [Value.string r.1.1, .slice r.1.2.1 r.1.2.2.1 r.1.2.2.2.1, .slice r.2.1 r.2.2.1 r.2.2.2.1]).length = l1.length * 3 := hl
  by_cases hj : j < l1.length * 3
  · rw [if_neg (by omega)]
    rw [List.getElem?_append_left (by omega)] at hu e7
    exact e7 u hu
  · rw [List.getElem?_append_right (by omega), hl'] at hu e7
    by_cases e : j = l1.length * 3
    · subst e
      rw [if_pos rfl]
      rw [Nat.sub_self] at hu
      simpa using hu
    · rw [if_neg e]
      refine e7 u ?_
      obtain ⟨d, hd⟩ : ∃ d, j - l1.length * 3 = d + 1 := ⟨j - l1.length * 3 - 1, by omega⟩
      rw [hd] at hu ⊢
      simpa using hu

theorem RulesApart.place (h : RulesApart w lo hi A n c (l1 ++ r :: l2)) :
    ∃ g k f, A = some ⟨g, 0, none⟩ ∧ lo ≤ g ∧ g < hi ∧ g < w.heap.size ∧ l1.length < n ∧ w.rowIs g 72 k f ∧ n * 3 ≤ k ∧ (∀ j u, (rrcells (l1 ++ r :: l2))[j]? = some u → f j = u) ∧
      w.cell? ⟨g, l1.length * 3, none⟩ = some (.string r.1.1) ∧ w.cell? ⟨g, l1.length * 3 + 1, none⟩ = some (.slice r.1.2.1 r.1.2.2.1 r.1.2.2.2.1) ∧ w.cell? ⟨g, l1.length * 3 + 2, none⟩ = some (.slice r.2.1 r.2.2.1 r.2.2.2.1) ∧ w.frozen? ⟨g, l1.length * 3, none⟩ = false := by
  obtain ⟨a, b, d, e, f⟩ := h
  have hl : l1.length < n := by rw [← a]; simp
  obtain ⟨g, k, f', e1, e2, e3, e4, e5, e6⟩ := e (by omega)
  have ha : (l1 ++ r :: l2)[l1.length]? = some r := by simp
  obtain ⟨c1, c2, c3⟩ := rrcells_at ha
  exact ⟨g, k, f', e1, e2, e3, e4.lt, hl, e4, e5, e6, by rw [e4.cell (by omega), e6 _ _ c1], by rw [e4.cell (by omega), e6 _ _ c2], by rw [e4.cell (by omega), e6 _ _ c3], e4.frozen _⟩

theorem RulesApart.name (h : RulesApart w lo hi A n c (l1 ++ r :: l2)) (hA : A = some ⟨g, 0, none⟩) (s : ByteArray) (hs : s.size ≤ maxLen) : RulesApart (w.setCell ⟨g, l1.length * 3, none⟩ (.string s)) lo hi A n c (l1 ++ ((s, r.1.2), r.2) :: l2) := by
  obtain ⟨g', k, f, e1, e2, e3, e3', el, e4, e5, e6, _⟩ := h.place
  obtain ⟨a, b, d, e, x⟩ := h
  rw [hA] at e1
  injection e1 with e1
  injection e1 with e1
  subst e1
  have hk : ∀ b, b < w.heap.size → b ≠ g → (w.setCell ⟨g, l1.length * 3, none⟩ (.string s)).heap[b]? = w.heap[b]? := fun b _ hne => Below.heap_setCell _ _ _ b hne
  have x2 := x.far hk (no_row e4 (by decide)) (no_row e4 (by decide))
  refine ⟨by rw [← a]; simp, b, d, fun hn => ⟨g, k, _, hA, e2, e3, e4.set _ _, e5, rrcells_turn e6⟩, ?_⟩
  obtain ⟨p, q, y1, y2, y3, y4, y5⟩ := x2.open_
  refine y5 _ _ (fun _ _ _ _ => rfl) ?_
  obtain ⟨a', b', c', d', z1, z2, z3, z4, z5, z6, z7, z8, z9⟩ := y4
  exact ⟨a', b', c', d', z1, z2, z3, z4, z5, z6, z7, ⟨hs, z8.2.1, z8.2.2⟩, z9⟩

/-- One of some rules: where its head and its body lie, and what is left when either is turned. -/
theorem RulesApart.open_ (h : RulesApart w lo hi A n c (l1 ++ r :: l2)) (hh : hi ≤ w.heap.size) :
    ∃ a b p q, lo ≤ a ∧ a ≤ b ∧ b ≤ hi ∧ lo ≤ p ∧ p ≤ q ∧ q ≤ hi ∧ HeadApart w a b r.1 ∧ OwnParts w p q r.2.1 r.2.2.1 r.2.2.2.1 r.2.2.2.2 ∧
      (∀ w' ts, Within a b w w' → Rest w w' → HeadApart w' a b (r.1.1, r.1.2.1, r.1.2.2.1, r.1.2.2.2.1, ts) → RulesApart w' lo hi A n c (l1 ++ ((r.1.1, r.1.2.1, r.1.2.2.1, r.1.2.2.2.1, ts), r.2) :: l2)) ∧
      (∀ w' ps, Within p q w w' → Rest w w' → OwnParts w' p q r.2.1 r.2.2.1 r.2.2.2.1 ps → RulesApart w' lo hi A n c (l1 ++ (r.1, r.2.1, r.2.2.1, r.2.2.2.1, ps) :: l2)) := by
  obtain ⟨g, k, f, e1, e2, e3, e3', el, e4, e5, e6, _⟩ := h.place
  obtain ⟨a, b, d, e, x⟩ := h
  obtain ⟨lo', hi', y1, y2, y3, ⟨a', b', p, q, z1, z2, z3, z4, z5, z6, z7, z8, z9⟩, y5⟩ := x.open_
  refine ⟨a', b', p, q, by omega, z2, by omega, by omega, z5, by omega, z8, z9, fun w' ts hw hr hH => ?_, fun w' ps hw hr hP => ?_⟩
  · refine ⟨by rw [← a]; simp, b, d, fun hn => ⟨g, k, f, e1, e2, e3, hr g _ k f (by decide) (by decide) e4, e5, ?_⟩, ?_⟩
    · rw [rrcells_same (r := r) (r' := ((r.1.1, r.1.2.1, r.1.2.2.1, r.1.2.2.2.1, ts), r.2)) rfl rfl rfl rfl rfl rfl rfl]; exact e6
    · exact y5 w' _ (fun x h1 h2 h3 => hw.block x (by omega) (by omega)) ⟨a', b', p, q, z1, z2, z3, z4, z5, z6, z7, hH, z9.keep (fun x h1 h2 => hw.block x (by omega) (by omega)) (Nat.le_refl _) (Nat.le_refl _)⟩
  · refine ⟨by rw [← a]; simp, b, d, fun hn => ⟨g, k, f, e1, e2, e3, hr g _ k f (by decide) (by decide) e4, e5, ?_⟩, ?_⟩
    · rw [rrcells_same (r := r) (r' := (r.1, r.2.1, r.2.2.1, r.2.2.2.1, ps)) rfl rfl rfl rfl rfl rfl rfl]; exact e6
    · exact y5 w' _ (fun x h1 h2 h3 => hw.block x (by omega) (by omega)) ⟨a', b', p, q, z1, z2, z3, z4, z5, z6, z7, z8.keep (fun x h1 h2 => hw.block x (by omega) (by omega)) (Nat.le_refl _) (Nat.le_refl _), hP⟩

theorem RulesApart.below {B : Nat} (h : RulesApart w lo hi A n c (l1 ++ l2)) (hb : Below B w w') (hh : hi ≤ B) : RulesApart w' lo hi A n c (l1 ++ l2) := by
  obtain ⟨a, b, d, e, f⟩ := h
  refine ⟨a, b, d, fun hn => ?_, f.keep (fun x _ hx => hb.block x (by omega))⟩
  obtain ⟨g, k, f', e1, e2, e3, e4, e5, e6⟩ := e hn
  exact ⟨g, k, f', e1, e2, e3, e4.of_block (hb.block g (by omega)), e5, e6⟩
end

theorem markTermS_headZ (lo hi : Nat) (r : Rf) (k : Nat) (z : Int) (hz : z = (k : Int)) (w : World) (h : HeadApart w lo hi r) (hk : k + 2 * rN r ≤ 2 ^ 62) :
    Calls Tryz.prog 71 #[.slice r.2.1 r.2.2.1 r.2.2.2.1, .int .i64 z] w fun e w' => e = .returned (.int .i64 ((k + 2 * rN r : Nat) : Int)) ∧ HeadApart w' lo hi (markHd k r) ∧ Within lo hi w w' ∧ Rest w w' := by
  subst hz; exact markTermS_head lo hi r k w h hk

set_option maxRecDepth 100000 in
set_option maxHeartbeats 2000000 in
theorem markRuleS_own (lo hi : Nat) (A : Option Addr) (n c k : Nat) (rs : List Rr) (w : World) (h : RulesApart w lo hi A n c rs) (hh : hi ≤ w.heap.size) (hk : markRlsN k rs ≤ 2 ^ 62) :
    Calls Tryz.prog 22 #[.slice A n c, .int .i64 (k : Int)] w fun e w' => e = .returned (.int .i64 ((markRlsN k rs : Nat) : Int)) ∧ RulesApart w' lo hi A n c (markRls k rs) ∧ Within lo hi w w' := by
  have hn := h.2.2.1
  have hnc := h.2.1
  have HN := Lib.hid h.1
  unfold maxLen at hn
  have H := Lib.hid h; clear h
  go_enter Tryz.func22, Tryz.ntmps22
  go_wp2
  go_loopw [1, 5] (fun x y wr => ∃ l1 l2 : List Rr, rs = l1 ++ l2 ∧ x = .int .i64 ((markRlsN k l1 : Nat) : Int) ∧ y = .int .i64 ((l1.length : Nat) : Int) ∧ RulesApart wr lo hi A n c (markRls k l1 ++ l2) ∧ Within lo hi w wr) (fun _ y _ => n - (intOf y).toNat)
  case atStart => exact ⟨[], rs, rfl, rfl, rfl, H.out, Within.refl⟩
  case round =>
    obtain ⟨l1, l2, hs, rfl, rfl, ho, hw⟩ := hrel
    have HS := Lib.hid hs; clear hs
    have HO := Lib.hid ho; clear ho
    have HL := Lib.hid (markRls_len k l1)
    obtain ⟨i, hi'⟩ : ∃ i, l1.length = i := ⟨_, rfl⟩
    obtain ⟨q, hq⟩ : ∃ q, markRlsN k l1 = q := ⟨_, rfl⟩
    rw [hi', hq]
    cases l2 with
    | nil =>
      have e1 : rs = l1 := by have := HS.out; rwa [List.append_nil] at this
      have hin : i = n := by have := HN.out; rw [e1, hi'] at this; exact this
      have HQ := Lib.hid hq; have HI := Lib.hid hi'; have HE := Lib.hid e1
      clear hq hi' e1
      subst hin
      go_wp2
      go_ret; exact ⟨by rw [HE.out, HQ.out]; rfl, by rw [HE.out]; have := HO.out; rwa [List.append_nil] at this, hw⟩
    | cons r l2 =>
      obtain ⟨g, kk, ff, hA, p1, p2, p3, p4, _, _, _, p5, p6, p7, p8⟩ := HO.out.place
      rw [HL.out, hi'] at p4 p5 p6 p7 p8
      have hb1 : markRlN q r ≤ 2 ^ 62 := by
        have e1 : markRlsN k rs = markRlsN (markRlN q r) l2 := by rw [HS.out, markRlsN_app, hq]; rfl
        have := markRlsN_ge (markRlN q r) l2
        omega
      have hb2 := markRlN_ge q r
      have HQ := Lib.hid hq; have HI := Lib.hid hi'
      clear hq hi'
      subst hA
      have hws := hw.size
      have hlt2 : (i : Int) < (n : Int) := by omega
      have HW := Lib.hid hw
      clear p6 p7 hw
      go_wp2_with fail
      refine (markText_is _ q (by omega) (by omega) _).mono ?_; rintro e w1 ⟨rfl, hb1'⟩
      have hO1 := HO.out.below hb1' (by omega)
      obtain ⟨_, _, _, x1, _, _, x4, _, _, _, _, x5, x6, x7, x8⟩ := hO1.place
      injection x1 with x1
      injection x1 with x1
      subst x1
      rw [HL.out, HI.out] at x5 x6 x7 x8
      have hO2 := hO1.name rfl (markB q) (markB_size q (by omega))
      rw [HL.out, HI.out] at hO2
      have hw2 := (HW.out.trans (Within.of hb1')).trans (Within.row (grownSet w1 g (i * 3) (.string (markB q))) p1 p2)
      have hs2 := hw2.size
      have HW2 := Lib.hid hw2
      obtain ⟨a, b, p, t, o1, o2, o3, o4, o5, o6, oH, oP, oT, _⟩ := hO2.open_ (by omega)
      have x6' : (w1.setCell ⟨g, i * 3, none⟩ (.string (markB q))).cell? ⟨g, i * 3 + 1, none⟩ = some (.slice r.1.2.1 r.1.2.2.1 r.1.2.2.2.1) := by
        rw [World.cell?_setCell_other _ _ _ _ (fun e => by injection e with _ e; omega)]; exact x6
      have OH := Lib.hid oH; have OT := Lib.hid oT
      clear hO1 hO2 hb1' hw2 oH oP oT x6 x7 p5 p8
      go_wp2_with fail
      refine (markTermS_headZ a b (markB q, r.1.2) (q + 1) _ (by omega) _ OH.out (by show q + 1 + 2 * rN r.1 ≤ _; omega)).mono ?_; rintro e w3 ⟨rfl, hH3, hw3, hr3⟩
      have hO3 := OT.out w3 _ hw3 hr3 hH3
      have hW3 := HW2.out.trans (hw3.wide o1 o3)
      have hs3 := hW3.size
      have HW3 := Lib.hid hW3
      obtain ⟨_, _, _, y1, _, _, y4, _, _, _, _, _, _, y7, _⟩ := hO3.place
      injection y1 with y1
      injection y1 with y1
      subst y1
      rw [HL.out, HI.out] at y7
      obtain ⟨a', b', p', t', u1, u2, u3, u4, u5, u6, _, uP, _, uT⟩ := hO3.open_ (by omega)
      have UP := Lib.hid uP; have UT := Lib.hid uT
      clear hO3 hW3 hw3 hr3 hH3 uP uT x5 x6' x8 OH OT
      go_wp2_with fail
      refine (markPartS_held p' t' _ _ _ (q + 1 + 2 * rN r.1) r.2.2.2.2 w3 UP.out (by omega) hb1).mono ?_; rintro e w4 ⟨rfl, hP4, hw4, hr4⟩
      have HO4 := Lib.hid (UT.out w4 _ hw4 hr4 hP4)
      have hW4 := HW3.out.trans (hw4.wide u4 u6)
      clear hP4 hw4 hr4 y7
      go_wp2
      go_roundw
      case rel => exact ⟨l1 ++ [r], l2, by rw [HS.out, List.append_assoc]; rfl, by rw [markRlsN_snoc, HQ.out]; rfl, by rw [List.length_append, HI.out]; go_num, by rw [markRls_snoc, HQ.out, List.append_assoc]; exact HO4.out, hW4⟩
      case measure => simp [intOf]; omega

end Go.Proofs.YtnhbnhibphjljaaGreatDoor

namespace Go.Proofs.YtnhbnhibphjljaaGreatDoor
open Go.RowKit

set_option maxRecDepth 100000 in
set_option maxHeartbeats 4000000 in
theorem heldRuleS_any (A : Option Addr) (n c k : Nat) (rs : List Rr) (w : World) (h : IsRules w 0 w.heap.size A n c ((markRls k rs).map rRl)) (hk : markRlsN k rs ≤ 2 ^ 62) :
    Calls Tryz.prog 84 #[.slice A n c, .int .i64 (k : Int)] w fun e w' => e = .returned (.int .i64 ((markRlsN k rs : Nat) : Int)) ∧ Below w.heap.size w w' := by
  have hn := h.len
  unfold maxLen at hn
  have HN := Lib.hid h.1
  have H := Lib.hid h; clear h
  go_enter Tryz.func84, Tryz.ntmps84
  go_wp2
  go_loopw [1, 5] (fun x y wr => ∃ l1 l2 : List Rr, rs = l1 ++ l2 ∧ x = .int .i64 ((markRlsN k l1 : Nat) : Int) ∧ y = .int .i64 ((l1.length : Nat) : Int) ∧ Below w.heap.size w wr) (fun _ y _ => n - (intOf y).toNat)
  case atStart => exact ⟨[], rs, rfl, rfl, rfl, Below.refl _ _⟩
  case round =>
    obtain ⟨l1, l2, hs, rfl, rfl, hb⟩ := hrel
    have HS := Lib.hid hs; clear hs
    obtain ⟨i, hi'⟩ : ∃ i, l1.length = i := ⟨_, rfl⟩
    obtain ⟨q, hq⟩ : ∃ q, markRlsN k l1 = q := ⟨_, rfl⟩
    rw [hi', hq]
    have HLN : Hid (l1.length + l2.length = n) := Lib.hid (by have := HN.out; rw [List.length_map, markRls_len, HS.out, List.length_append] at this; exact this)
    cases l2 with
    | nil =>
      have e1 : rs = l1 := by have := HS.out; rwa [List.append_nil] at this
      have hin : i = n := by have := HLN.out; rw [hi'] at this; simpa using this
      have HQ := Lib.hid hq; have HI := Lib.hid hi'; have HE := Lib.hid e1
      clear hq hi' e1
      subst hin
      go_wp2
      go_ret; exact ⟨by rw [HE.out, HQ.out]; rfl, hb⟩
    | cons x l2 =>
      have hin : i < n := by have := HLN.out; rw [hi', List.length_cons] at this; omega
      obtain ⟨p, r', A5, n5, c5, B, m, d, hA, hhi, hg, d1, _, d3, d4, d5, d6⟩ := rule_here (H.out.below RuleE.stays hb (Nat.le_refl _)) hin
      have hat : ((markRls k rs).map rRl)[i]? = some (rRl (markRl q x)) := by
        rw [List.getElem?_map, HS.out, ← hi', markRls_at, hq]; rfl
      rw [hg] at hat
      injection hat with hat
      subst hat
      have d1' : wr.cell? (p.add (i * 3)) = some (.string (markB q)) := d1
      have d4' : IsTerms wr 0 w.heap.size A5 n5 c5 (markTs (q + 1) (rN x.1)) := d4
      have d6' : IsParts wr 0 w.heap.size B m d ((markPs (q + 1 + 2 * rN x.1) x.2.2.2.2).map pAt) := d6
      have hn5 : rN x.1 = n5 := by have := d4'.1; rwa [markTs_len] at this
      clear d1 d4 d6 hg
      have hb1 : markPN (q + 1 + 2 * rN x.1) x.2.2.2.2 ≤ 2 ^ 62 := by
        have e1 : markRlsN k rs = markRlsN (markRlN q x) l2 := by rw [HS.out, markRlsN_app, hq]; rfl
        have := markRlsN_ge (markRlN q x) l2
        have e2 : markRlN q x = markPN (q + 1 + 2 * rN x.1) x.2.2.2.2 := rfl
        omega
      have hb2 := markPN_ge (q + 1 + 2 * rN x.1) x.2.2.2.2
      rw [hn5] at d4' d6' hb1 hb2
      have HN5 := Lib.hid hn5
      have HQ := Lib.hid hq; have HI := Lib.hid hi'; have HB1 := Lib.hid hb1
      have hq1 : q + 1 + 2 * n5 ≤ 2 ^ 62 := by omega
      clear hq hi' hn5 hb1 hb2
      subst hA
      have hpz : p.block < wr.heap.size := Nat.lt_of_lt_of_le hhi hb.size
      have x0 : wr.drew.cell? (p.add (i * 3)) = some (.string (markB q)) := d1'
      have x1 : wr.drew.cell? ⟨(p.add (i * 3)).block, (p.add (i * 3)).off + 1, none⟩ = some (.slice A5 n5 c5) := d3
      have x2 : wr.drew.cell? ⟨(p.add (i * 3)).block, (p.add (i * 3)).off + 2, none⟩ = some (.slice B m d) := d5
      have HT := Lib.hid (show IsTerms wr.drew 0 wr.drew.heap.size A5 n5 c5 (markTs (q + 1) n5) from d4'.keep (fun _ _ _ => rfl) (Nat.le_refl _) hb.size)
      have HP := Lib.hid (show IsParts wr.drew 0 wr.drew.heap.size B m d ((markPs (q + 1 + 2 * n5) x.2.2.2.2).map pAt) from d6'.keep PartE.stays (fun _ _ _ => rfl) (Nat.le_refl _) hb.size)
      have hbd := hb.drew
      have hlt2 : (i : Int) < (n : Int) := by omega
      clear d1' d3 d5 d4' d6'
      go_wp2
      refine wp_region_held_drew (S := fun W => W.cell? (p.add (i * 3)) = some (.string (markB q)) ∧ W.cell? ⟨(p.add (i * 3)).block, (p.add (i * 3)).off + 1, none⟩ = some (.slice A5 n5 c5) ∧ W.cell? ⟨(p.add (i * 3)).block, (p.add (i * 3)).off + 2, none⟩ = some (.slice B m d)) (by kernel_rfl) ⟨x0, x1, x2⟩ ?_
      intro hS_
      refine takeV (i := 0) (v := .slice (some p) n c) (by (simp only [List.getElem?_toArray, List.getElem?_cons_zero]); rfl) (by kernel_rfl) (by kernel_rfl) (by kernel_rfl) (by rfl) (fun _ _ _ h => h) (Or.inl ⟨by rfl, ?_⟩) hS_ (by (simp only [List.setIfInBounds_toArray, List.set_cons_succ, List.set_cons_zero]); rfl) ?_
      · intro w_ hSw_; (try dsimp only at hSw_); go_simp
      refine takeV (i := 1) (v := .int .i64 (i : Int)) (by (simp only [List.getElem?_toArray, List.getElem?_cons_succ, List.getElem?_cons_zero]); rfl) (by kernel_rfl) (by kernel_rfl) (by kernel_rfl) (by rfl) (fun _ _ _ h => h) (Or.inl ⟨by rfl, ?_⟩) hS_ (by (simp only [List.setIfInBounds_toArray, List.set_cons_succ, List.set_cons_zero]); rfl) ?_
      · intro w_ hSw_; (try dsimp only at hSw_); go_simp
      refine takeV (i := 2) (v := .pointer (some (p.add (i * 3)))) (by (simp only [List.getElem?_toArray, List.getElem?_cons_succ, List.getElem?_cons_zero]); rfl) (by kernel_rfl) (by kernel_rfl) (by kernel_rfl) (by rfl) (fun _ _ _ h => h) (Or.inl ⟨by rfl, ?_⟩) hS_ (by (simp only [List.setIfInBounds_toArray, List.set_cons_succ, List.set_cons_zero]); rfl) ?_
      · intro w_ hSw_; (try dsimp only at hSw_); go_simp
      refine takeV (i := 3) (v := .pointer (some (p.add (i * 3)))) (by (simp only [List.getElem?_toArray, List.getElem?_cons_succ, List.getElem?_cons_zero]); rfl) (by kernel_rfl) (by kernel_rfl) (by kernel_rfl) (by rfl) (fun _ _ _ h => h) (Or.inl ⟨by rfl, ?_⟩) hS_ (by (simp only [List.setIfInBounds_toArray, List.set_cons_succ, List.set_cons_zero]); rfl) ?_
      · intro w_ hSw_; (try dsimp only at hSw_); go_simp
      refine takeV (i := 4) (v := .pointer (some (p.add (i * 3)))) (by (simp only [List.getElem?_toArray, List.getElem?_cons_succ, List.getElem?_cons_zero]); rfl) (by kernel_rfl) (by kernel_rfl) (by kernel_rfl) (by rfl) (fun _ _ _ h => h) (Or.inl ⟨by rfl, ?_⟩) hS_ (by (simp only [List.setIfInBounds_toArray, List.set_cons_succ, List.set_cons_zero]); rfl) ?_
      · intro w_ hSw_; (try dsimp only at hSw_); go_simp
      refine takeV (i := 5) (v := .string (markB q)) (by (simp only [List.getElem?_toArray, List.getElem?_cons_succ, List.getElem?_cons_zero]); rfl) (by kernel_rfl) (by kernel_rfl) (by kernel_rfl) (by rfl) (fun _ _ _ h => h) (Or.inl ⟨by rfl, ?_⟩) hS_ (by (simp only [List.setIfInBounds_toArray, List.set_cons_succ, List.set_cons_zero]); rfl) ?_
      · intro w_ hSw_; (try dsimp only at hSw_); go_simp
      refine takeV (i := 6) (v := .int .i64 (q : Int)) (by (simp only [List.getElem?_toArray, List.getElem?_cons_succ, List.getElem?_cons_zero]); rfl) (by kernel_rfl) (by kernel_rfl) (by kernel_rfl) (by rfl) (fun _ _ _ h => h) (Or.inl ⟨by rfl, ?_⟩) hS_ (by (simp only [List.setIfInBounds_toArray, List.set_cons_succ, List.set_cons_zero]); rfl) ?_
      · intro w_ hSw_; (try dsimp only at hSw_); go_simp
      refine wpAnyH_ready (rs := [7]) (by kernel_rfl) (by simp) ?_
      refine AllReadyH.cons (o := _) (by (simp only [List.getElem?_toArray, List.getElem?_cons_succ, List.getElem?_cons_zero]); rfl) (fun K_ hK_ => ?_) AllReadyH.nil
      rw [if_pos (by rfl)]
      go_simp
      go_at_call 70
      refine (markText_is _ q (by omega) (by omega) _).mono ?_; rintro e w1 ⟨rfl, hb1'⟩
      have y0 := (hb1'.cell (p := (p.add (i * 3))) (by rw [block_add]; exact hpz)).trans x0
      have y1 := (hb1'.cell (p := ⟨(p.add (i * 3)).block, (p.add (i * 3)).off + 1, none⟩) (by rw [block_add]; exact hpz)).trans x1
      have y2 := (hb1'.cell (p := ⟨(p.add (i * 3)).block, (p.add (i * 3)).off + 2, none⟩) (by rw [block_add]; exact hpz)).trans x2
      refine hK_.out _ _ ⟨y0, y1, y2⟩ (fun hS2_ => ?_)
      clear hK_ hS_; have hS_ := hS2_; clear hS2_
      (try simp only [Act.put, List.setIfInBounds_toArray, List.set_cons_zero, List.set_cons_succ])
      refine takeV (i := 8) (v := .bool false) (by (simp only [List.getElem?_toArray, List.getElem?_cons_succ, List.getElem?_cons_zero]); rfl) (by kernel_rfl) (by kernel_rfl) (by kernel_rfl) (by rfl) (fun _ _ _ h => h) (Or.inl ⟨by rfl, ?_⟩) hS_ (by (simp only [List.setIfInBounds_toArray, List.set_cons_succ, List.set_cons_zero]); rfl) ?_
      · intro w_ hSw_; (try dsimp only at hSw_); go_simp
      refine wpAnyH_done (by kernel_rfl) ?_ _
      clear x0 x1 x2 y0
      go_wp2_with fail
      refine (heldTermS_is A5 n5 c5 (q + 1) _ _ (by omega) (HT.out.up hb1') hq1).mono ?_; rintro e w2 ⟨rfl, hb2'⟩
      have hnn : ¬ (((q + 1 + 2 * n5 : Nat) : Int) < 0) := by omega
      have z2 := (hb2'.cell (p := ⟨(p.add (i * 3)).block, (p.add (i * 3)).off + 2, none⟩) (by rw [block_add]; have : wr.heap.size ≤ w1.heap.size := hb1'.size; omega)).trans y2
      have HP2 := Lib.hid ((HP.out.up PartE.stays hb1').up PartE.stays hb2')
      have hbb := belowThen hbd (belowThen hb1' hb2')
      clear y1 y2 hb1' hb2'
      go_wp2_with fail
      refine (heldPartS_any B m d (q + 1 + 2 * n5) x.2.2.2.2 w2 HP2.out HB1.out).mono ?_; rintro e w3 ⟨rfl, hb3⟩
      have hnm : ¬ (((markPN (q + 1 + 2 * n5) x.2.2.2.2 : Nat) : Int) < 0) := by omega
      have hbb3 := belowThen hbb hb3
      clear z2
      go_wp2
      go_roundw
      case rel => exact ⟨l1 ++ [x], l2, by rw [HS.out, List.append_assoc]; rfl, by rw [markRlsN_snoc, HQ.out]; show _ = Value.int .i64 ((markPN (q + 1 + 2 * rN x.1) x.2.2.2.2 : Nat) : Int); rw [HN5.out], by rw [List.length_append, HI.out]; go_num, hbb3⟩
      case measure => simp [intOf]; omega

end Go.Proofs.YtnhbnhibphjljaaGreatDoor

namespace Go.Proofs.YtnhbnhibphjljaaGreatDoor
open Go.RowKit

set_option maxRecDepth 100000 in
set_option maxHeartbeats 8000000 in
theorem copyRules_any (A : Option Addr) (n c : Nat) (xs : List Rl) (w : World) (h : IsRules w 0 w.heap.size A n c xs) (hn1 : n ≤ 1048576) (hn2 : ∀ r ∈ xs, SmallRule r.1.2.length r.2.length r.2) :
    Calls Tryz.prog 80 #[.slice A n c] w (CopyRPost xs w) := by
  obtain ⟨i0, hi, hz, hsz, hby⟩ := info_parts Tryz.infoRuleR
  have HI := Lib.hid hi; have HZ := Lib.hid hz; have HSZ := Lib.hid hsz; have HYY := Lib.hid hby
  clear hi hz hsz hby
  have HN := Lib.hid hn2; clear hn2
  have HL0 := Lib.hid h.1
  have H := Lib.hid h; clear h
  go_enter Tryz.func80, Tryz.ntmps80
  go_wp2
  go_loopw [3, 8] (fun o i wr => ∃ (k : Nat) (Av : Option Addr) (cv : Nat) (rs : List Rr), k ≤ n ∧ i = .int .i64 k ∧ o = .slice Av k cv ∧ wr.ownsRow w.heap.size 72 3 (.slice Av k cv) k (rrcells rs) ∧ rs.length = k ∧ rs.map rRl = xs.take k ∧ RulesIn wr w.heap.size wr.heap.size rs ∧ Below w.heap.size w wr) (fun _ i _ => n - (intOf i).toNat)
  case atStart => exact ⟨0, none, 0, [], Nat.zero_le _, rfl, rfl, ⟨rfl, .inl ⟨rfl, rfl⟩⟩, rfl, rfl, Nat.le_refl _, Below.refl _ _⟩
  case round =>
    obtain ⟨k, Av, cv, rs, hk, rfl, rfl, hrow, hl, hm, ho, hb⟩ := hrel
    have HR := Lib.hid hrow; have HL := Lib.hid hl; have HM := Lib.hid hm; have HO := Lib.hid ho
    clear hrow hl hm ho
    by_cases hlt : k < n
    · obtain ⟨p, r, A', n', c', B, m, d, hA, hpb, hg, d1, d2, d3, d4, d5, d6⟩ := rule_here (H.out.below RuleE.stays hb (Nat.le_refl _)) hlt
      subst hA
      have hq : SmallRule n' m r.2 := by have := HN.out r (List.mem_of_getElem? hg); rwa [d4.1, d6.1] at this
      have hq1 := hq.1
      have HQ := Lib.hid (show SmallParts m r.2 from hq.2)
      have HG := Lib.hid hg; have D2 := Lib.hid d2; have HPL := Lib.hid d6.1
      have hwr := hb.size
      have hbx : Below wr.heap.size wr (wr.alloc (.cells #[.string r.1.1, .slice A' n' c', .slice B m d] 72)).drew := (below1 wr _).drew
      have BX0 : Blk (wr.alloc (.cells #[.string r.1.1, .slice A' n' c', .slice B m d] 72)).drew wr.heap.size 72 #[.string r.1.1, .slice A' n' c', .slice B m d] := Blk.new wr _ _
      have HT0 : IsTerms (wr.alloc (.cells #[.string r.1.1, .slice A' n' c', .slice B m d] 72)).drew 0 (wr.alloc (.cells #[.string r.1.1, .slice A' n' c', .slice B m d] 72)).drew.heap.size A' n' c' r.1.2 := (d4.keep (w' := wr) (lo' := 0) (hi' := wr.heap.size) (fun _ _ _ => rfl) (Nat.le_refl _) hwr).up hbx
      have HP0 : IsParts (wr.alloc (.cells #[.string r.1.1, .slice A' n' c', .slice B m d] 72)).drew 0 (wr.alloc (.cells #[.string r.1.1, .slice A' n' c', .slice B m d] 72)).drew.heap.size B m d r.2 := (d6.keep (w' := wr) (lo' := 0) (hi' := wr.heap.size) PartE.stays (fun _ _ _ => rfl) (Nat.le_refl _) hwr).up PartE.stays hbx
      have hzb : (wr.alloc (.cells #[.string r.1.1, .slice A' n' c', .slice B m d] 72)).drew.heap.size = wr.heap.size + 1 := by simp [World.drew, go_sem]
      clear hg hq d2 d4 d6
      obtain ⟨⟨nm, ts⟩, qs⟩ := r
      go_wp2
      obtain ⟨V, hV⟩ : ∃ V, (wr.alloc (.cells #[.string nm, .slice A' n' c', .slice B m d] 72)).drew = V := ⟨_, rfl⟩
      rw [hV] at hbx BX0 HT0 HP0 hzb
      have BX := Lib.hid BX0; have HT := Lib.hid HT0; have HP := Lib.hid HP0; have HBX := Lib.hid hbx
      clear BX0 HT0 HP0 hbx d1 d3 d5
      refine wp_region_held_drew (S := fun W => W.cell? ⟨wr.heap.size, 0, none⟩ = some (.string nm) ∧ W.cell? ⟨wr.heap.size, 1, none⟩ = some (.slice A' n' c') ∧ W.cell? ⟨wr.heap.size, 2, none⟩ = some (.slice B m d)) (by kernel_rfl) (by rw [hV]; exact ⟨BX.out.cell 0, BX.out.cell 1, BX.out.cell 2⟩) ?_
      rw [hV]
      clear hV
      intro hS_
      refine takeV (i := 0) (v := .slice Av k cv) (by (simp only [List.getElem?_toArray, List.getElem?_cons_zero]); rfl) (by kernel_rfl) (by kernel_rfl) (by kernel_rfl) (by rfl) (fun _ _ _ h => h) (Or.inl ⟨by rfl, ?_⟩) hS_ (by (simp only [List.setIfInBounds_toArray, List.set_cons_succ, List.set_cons_zero]); rfl) ?_
      · intro w_ hSw_; (try dsimp only at hSw_); go_simp
      refine takeV (i := 1) (v := .pointer (some ⟨wr.heap.size, 0, none⟩)) (by (simp only [List.getElem?_toArray, List.getElem?_cons_succ, List.getElem?_cons_zero]); rfl) (by kernel_rfl) (by kernel_rfl) (by kernel_rfl) (by rfl) (fun _ _ _ h => h) (Or.inl ⟨by rfl, ?_⟩) hS_ (by (simp only [List.setIfInBounds_toArray, List.set_cons_succ, List.set_cons_zero]); rfl) ?_
      · intro w_ hSw_; (try dsimp only at hSw_); go_simp
      refine takeV (i := 2) (v := .agg #[.string nm, .slice A' n' c']) (by (simp only [List.getElem?_toArray, List.getElem?_cons_succ, List.getElem?_cons_zero]); rfl) (by kernel_rfl) (by kernel_rfl) (by kernel_rfl) (by rfl) (fun _ _ _ h => h) (Or.inl ⟨by rfl, ?_⟩) hS_ (by (simp only [List.setIfInBounds_toArray, List.set_cons_succ, List.set_cons_zero]); rfl) ?_
      · intro w_ hSw_; (try dsimp only at hSw_); go_simp
      refine takeV (i := 4) (v := .pointer (some ⟨wr.heap.size, 2, none⟩)) (by (simp only [List.getElem?_toArray, List.getElem?_cons_succ, List.getElem?_cons_zero]); rfl) (by kernel_rfl) (by kernel_rfl) (by kernel_rfl) (by rfl) (fun _ _ _ h => h) (Or.inl ⟨by rfl, ?_⟩) hS_ (by (simp only [List.setIfInBounds_toArray, List.set_cons_succ, List.set_cons_zero]); rfl) ?_
      · intro w_ hSw_; (try dsimp only at hSw_); go_simp
      refine takeV (i := 5) (v := .slice B m d) (by (simp only [List.getElem?_toArray, List.getElem?_cons_succ, List.getElem?_cons_zero]); rfl) (by kernel_rfl) (by kernel_rfl) (by kernel_rfl) (by rfl) (fun _ _ _ h => h) (Or.inl ⟨by rfl, ?_⟩) hS_ (by (simp only [List.setIfInBounds_toArray, List.set_cons_succ, List.set_cons_zero]); rfl) ?_
      · intro w_ hSw_; (try dsimp only at hSw_); go_simp
      refine wpAnyH_ready (rs := [3]) (by kernel_rfl) (by simp) ?_
      refine AllReadyH.cons (o := _) (by (simp only [List.getElem?_toArray, List.getElem?_cons_succ, List.getElem?_cons_zero]); rfl) (fun K_ hK_ => ?_) AllReadyH.nil
      rw [if_pos (by rfl)]
      go_simp
      go_at_call 125
      refine (copyAtom_any nm A' n' c' ts _ HT.out hq1).mono ?_; rintro e w1 ⟨A2, d2, rfl, hT, hR, hb1⟩
      have BX1 := Lib.hid (BX.out.below hb1)
      have HB1 := Lib.hid (belowThen HBX.out hb1)
      have HP1 := Lib.hid (HP.out.up PartE.stays hb1)
      have HT1 := Lib.hid hT; have HR1 := Lib.hid hR
      have hz1 := hb1.size
      clear hT hR hb1
      refine hK_.out _ _ ⟨BX1.out.cell 0, BX1.out.cell 1, BX1.out.cell 2⟩ (fun hS2_ => ?_)
      clear hK_ hS_; have hS_ := hS2_; clear hS2_
      (try simp only [Act.put, List.setIfInBounds_toArray, List.set_cons_zero, List.set_cons_succ])
      refine wpAnyH_ready (rs := [6]) (by kernel_rfl) (by simp) ?_
      refine AllReadyH.cons (o := _) (by (simp only [List.getElem?_toArray, List.getElem?_cons_succ, List.getElem?_cons_zero]); rfl) (fun K_ hK_ => ?_) AllReadyH.nil
      rw [if_pos (by rfl)]
      go_simp
      go_at_call 126
      refine (copyParts_any B m d qs _ HP1.out HQ.out).mono ?_; rintro e w2 ⟨B2, e2, ps2, rfl, hO2, hm2, hb2⟩
      have hql : qs.length = m := HPL.out
      rw [hql] at hO2 ⊢
      clear hql
      have BX2 := Lib.hid (BX1.out.below hb2)
      have HB2 := Lib.hid (belowThen HB1.out hb2)
      have hz2 := hb2.size
      have hR2 : RuleApart w2 wr.heap.size w2.heap.size ((nm, A2, n', d2, ts), B2, m, e2, ps2) := ⟨V.heap.size, w1.heap.size, w1.heap.size, w2.heap.size, by omega, hz1, hz2, by omega, hz2, Nat.le_refl _, .inl (Nat.le_refl _), HeadApart.keep (w := w1) (lo := V.heap.size) (hi := w1.heap.size) ⟨D2.out, HT1.out, HR1.out⟩ (fun b _ h2 => hb2.block b h2) (Nat.le_refl _) (Nat.le_refl _), hO2⟩
      have HR2 := Lib.hid hR2
      have HRQ := Lib.hid (show rRl ((nm, A2, n', d2, ts), B2, m, e2, ps2) = ((nm, ts), qs) by unfold rRl; show ((nm, ts), ps2.map pAt) = _; rw [hm2])
      have HRW := Lib.hid (ownsRow_up HR.out HB2.out)
      have hw2s : w.heap.size ≤ w2.heap.size := Nat.le_trans hwr HB2.out.size
      clear hO2 hm2 hb2 hR2
      refine hK_.out _ _ ⟨BX2.out.cell 0, BX2.out.cell 1, BX2.out.cell 2⟩ (fun hS2_ => ?_)
      clear hK_ hS_; have hS_ := hS2_; clear hS2_
      (try simp only [Act.put, List.setIfInBounds_toArray, List.set_cons_zero, List.set_cons_succ])
      refine takeV (i := 7) (v := .agg #[.string nm, .slice A2 n' d2, .slice B2 m e2]) (by (simp only [List.getElem?_toArray, List.getElem?_cons_succ, List.getElem?_cons_zero]); rfl) (by kernel_rfl) (by kernel_rfl) (by kernel_rfl) (by rfl) (fun _ _ _ h => h) (Or.inl ⟨by rfl, ?_⟩) hS_ (by (simp only [List.setIfInBounds_toArray, List.set_cons_succ, List.set_cons_zero]); rfl) ?_
      · intro w_ hSw_; (try dsimp only at hSw_); go_simp
      refine wpAnyH_ready (rs := [8]) (by kernel_rfl) (by simp) ?_
      refine AllReadyH.cons (o := _) (by (simp only [List.getElem?_toArray, List.getElem?_cons_succ, List.getElem?_cons_zero]); rfl) (fun K_ hK_ => ?_) AllReadyH.nil
      rw [if_pos (by rfl)]
      go_simp
      have BX3 := Lib.hid (BX2.out.alloc (.cells #[.string nm, .slice A2 n' d2, .slice B2 m e2] 72))
      have TM3 := Lib.hid (Blk.new w2 72 #[.string nm, .slice A2 n' d2, .slice B2 m e2])
      have OW3 := Lib.hid (HRW.out.alloc (.cells #[.string nm, .slice A2 n' d2, .slice B2 m e2] 72))
      have hb3 := below1 w2 (.cells #[.string nm, .slice A2 n' d2, .slice B2 m e2] 72)
      obtain ⟨V3, hV3⟩ : ∃ X, w2.alloc (.cells #[.string nm, .slice A2 n' d2, .slice B2 m e2] 72) = X := ⟨_, rfl⟩
      rw [hV3] at BX3 TM3 OW3 hb3 ⊢
      clear hV3
      refine hK_.out _ _ ⟨BX3.out.cell 0, BX3.out.cell 1, BX3.out.cell 2⟩ (fun hS2_ => ?_)
      clear hK_ hS_; have hS_ := hS2_; clear hS2_
      (try simp only [Act.put, List.setIfInBounds_toArray, List.set_cons_zero, List.set_cons_succ])
      refine wpAnyH_ready (rs := [9]) (by kernel_rfl) (by simp) ?_
      refine AllReadyH.cons (o := _) (by (simp only [List.getElem?_toArray, List.getElem?_cons_succ, List.getElem?_cons_zero]); rfl) (fun K_ hK_ => ?_) AllReadyH.nil
      refine step_appZ 3 (by omega) (by rfl) _ _ _ (by rfl) w.heap.size 72 i0 _ 64 Tryz.underlying25 HI.out HZ.out HSZ.out HYY.out rfl (.slice Av k cv) k (rrcells rs) (by rfl) OW3.out (some ⟨w2.heap.size, 0, none⟩) 1 1 [.string nm, .slice A2 n' d2, .slice B2 m e2] (by rfl) (srcOneP _ _ _ _ _ _ TM3.out) (by simp [Value.oneCell']) (by unfold maxLen; omega) (by omega) (Nat.le_trans hw2s hb3.size) ?_
      intro v4 w4 OW4 G4
      obtain ⟨g', cap', rfl⟩ := ownsRow_succ OW4
      have BX4 := Lib.hid (BX3.out.kept G4 (own_ne' (fun g h => by have := (HR.out.lt g h).2; omega)))
      obtain ⟨rs', r1, r2, r3, r4, r5⟩ := copyR_more (w := w) HL.out HM.out HG.out HRQ.out HO.out HB2.out (belowThen hb HB2.out) HR2.out hb3 OW3.out OW4 G4
      have R3 := Lib.hid r3; have R2 := Lib.hid r2; have R4 := Lib.hid r4; have R1 := Lib.hid r1
      clear r1 r2 r3 r4 OW4 G4
      refine hK_.out _ _ ⟨BX4.out.cell 0, BX4.out.cell 1, BX4.out.cell 2⟩ (fun hS2_ => ?_)
      clear hK_ hS_; have hS_ := hS2_; clear hS2_
      (try simp only [Act.put, List.setIfInBounds_toArray, List.set_cons_zero, List.set_cons_succ])
      refine takeV (i := 10) (v := .slice (some ⟨g', 0, none⟩) (k + 1) cap') (by (simp only [List.getElem?_toArray, List.getElem?_cons_succ, List.getElem?_cons_zero]); rfl) (by kernel_rfl) (by kernel_rfl) (by kernel_rfl) (by rfl) (fun _ _ _ h => h) (Or.inl ⟨by rfl, ?_⟩) hS_ (by (simp only [List.setIfInBounds_toArray, List.set_cons_succ, List.set_cons_zero]); rfl) ?_
      · intro w_ hSw_; (try dsimp only at hSw_); go_simp
      refine wpAnyH_done (by kernel_rfl) ?_ _
      go_wp2
      go_roundw
      case rel => exact ⟨k + 1, _, _, rs', by omega, by go_num, rfl, R3.out, R1.out, R2.out, R4.out, r5⟩
      case measure => simp [intOf]; omega
    · have hkn : k = n := by omega
      subst hkn
      have hxs : xs.take k = xs := List.take_of_length_le (by have := HL0.out; omega)
      obtain ⟨A3, c3, e3, hO⟩ := RulesApart.of_row HR.out HL.out.symm (Nat.le_refl _) HO.out (Nat.le_refl _)
      injection e3 with e3 _ e4
      subst e3; subst e4
      have HX := Lib.hid hxs; clear hxs
      go_wp2
      go_ret
      exact ⟨Av, cv, rs, by rw [HL0.out]; rfl, by rw [HL0.out]; exact hO, by rw [HM.out]; exact HX.out, hb⟩

end Go.Proofs.YtnhbnhibphjljaaGreatDoor

