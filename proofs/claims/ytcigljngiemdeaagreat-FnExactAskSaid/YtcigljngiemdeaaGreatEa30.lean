/-
  Texts of one claim, put together.
-/
import Derived.Test.YtcigljngiemdeaaGreatEa25
import Derived.Test.YtcigljngiemdeaaGreatAllS
import Derived.Test.YtcigljngiemdeaaGreatEa24
namespace Go.Proofs.YtcigljngiemdeaaGreat
open Go.RowKit

/-- Two rows compared as far as both go. -/
def pfxCmp : List ByteArray → List ByteArray → Int
  | a :: x, b :: y => if textCmp a b = 0 then pfxCmp x y else textCmp a b
  | [], _ => 0
  | _ :: _, [] => 0

theorem pfx_row : ∀ {x y : List ByteArray}, x.length = y.length → pfxCmp x y = rowCmp x y
  | [], [], _ => by rw [pfxCmp, rowCmp]
  | [], _ :: _, h => by simp at h
  | _ :: _, [], h => by simp at h
  | a :: x, b :: y, h => by
    have ih := pfx_row (x := x) (y := y) (by simpa using h)
    rw [pfxCmp, rowCmp, ih]

theorem pfx_drop {x y : List ByteArray} {k : Nat} {a b : ByteArray} (ha : x[k]? = some a) (hb : y[k]? = some b) : pfxCmp (x.drop k) (y.drop k) = if textCmp a b = 0 then pfxCmp (x.drop (k + 1)) (y.drop (k + 1)) else textCmp a b := by
  have e : ∀ {z : List ByteArray} {c : ByteArray}, z[k]? = some c → z.drop k = c :: z.drop (k + 1) := fun {z c} h => by
    obtain ⟨h1, h2⟩ := List.getElem?_eq_some_iff.1 h
    rw [← h2]; exact List.drop_eq_getElem_cons h1
  rw [e ha, e hb, pfxCmp]

theorem pfx_end {x y : List ByteArray} {k : Nat} (h : x.length ≤ k ∨ y.length ≤ k) : pfxCmp (x.drop k) (y.drop k) = 0 := by
  rcases h with h | h
  · rw [List.drop_eq_nil_of_le h, pfxCmp]
  · rw [List.drop_eq_nil_of_le h]
    cases x.drop k with
    | nil => rw [pfxCmp]
    | cons a l => rw [pfxCmp]

set_option maxRecDepth 100000 in
set_option maxHeartbeats 8000000 in
theorem l5Cmp_any (A B : Option Addr) (n c m d : Nat) (x y : List ByteArray) (w : World) (hx : IsTexts w 0 w.heap.size A n c x) (hy : IsTexts w 0 w.heap.size B m d y) :
    Calls Tryz.prog 128 #[.slice A n c, .slice B m d] w fun e w' => e = .returned (.int .i64 (pfxCmp x y)) ∧ Below w.heap.size w w' := by
  have hn := hx.len; have hm := hy.len
  unfold maxLen at hn hm
  have HX := Lib.hid hx; have HY := Lib.hid hy; have HN := Lib.hid hx.1; have HM := Lib.hid hy.1
  clear hx hy
  go_enter Tryz.func128, Tryz.ntmps128
  go_wp2
  go_loopw [5] (fun i wr => ∃ k : Nat, k ≤ n ∧ k ≤ m ∧ i = .int .i64 (k : Int) ∧ Below w.heap.size w wr ∧ pfxCmp x y = pfxCmp (x.drop k) (y.drop k)) (fun i _ => n - (intOf i).toNat)
  case atStart => exact ⟨0, Nat.zero_le _, Nat.zero_le _, rfl, Below.refl _ _, rfl⟩
  case round =>
    obtain ⟨k, hk, hkm, rfl, hB, he⟩ := hrel
    have HE := Lib.hid he; have HW := Lib.hid hB
    clear he hB
    by_cases hlt : k < n
    · have hltI : (k : Int) < (n : Int) := by omega
      by_cases hlm : k < m
      · have hlmI : (k : Int) < (m : Int) := by omega
        obtain ⟨p, a, hA, _, _, ha, z0⟩ := (HX.out.up TextE.stays HW.out).at_ hlt
        subst hA
        rw [Nat.mul_one] at z0
        have z0' : wr.cell? (p.add k) = some (.string a) := z0
        obtain ⟨q, b, hBq, _, _, hb, y0⟩ := (HY.out.up TextE.stays HW.out).at_ hlm
        subst hBq
        rw [Nat.mul_one] at y0
        have y0' : wr.cell? (q.add k) = some (.string b) := y0
        have HS := Lib.hid (pfx_drop ha hb)
        clear z0 ha y0 hb
        obtain ⟨i, hi⟩ : ∃ i, textCmp a b = i := ⟨_, rfl⟩
        have HI := Lib.hid hi
        clear hi
        by_cases h0 : i = 0
        · go_wp2_with fail
          go_quiet ((go_at_call 167; exact Calls.quiet_of_same (l1Texts_same _ _ _)))
          go_wp2_with (rw [HI.out])
          refine ⟨⟨k + 1, by omega, by omega, by go_num, belowDrewN HW.out _, ?_⟩, by simp [intOf]; omega⟩
          rw [HE.out, HS.out, HI.out, if_pos h0]
        · go_wp2_with fail
          go_quiet ((go_at_call 167; exact Calls.quiet_of_same (l1Texts_same _ _ _)))
          go_wp2_with (rw [HI.out])
          refine bodyPost_ret (v := .int .i64 i) (by simp [results, Tryz.results128, go_sem]) rfl ⟨?_, belowDrewN HW.out _⟩
          rw [HE.out, HS.out, HI.out, if_neg h0]
      · have hlmI : ¬ (k : Int) < (m : Int) := by omega
        have hv := Lib.hid (HE.out.trans (pfx_end (x := x) (y := y) (k := k) (.inr (by have := HM.out; omega))))
        go_wp2_with fail
        refine bodyPost_ret (v := .int .i64 0) (by simp [results, Tryz.results128, go_sem]) rfl ⟨by rw [hv.out], HW.out⟩
    · have hltI : ¬ (k : Int) < (n : Int) := by omega
      have hv := Lib.hid (HE.out.trans (pfx_end (x := x) (y := y) (k := k) (.inl (by have := HN.out; omega))))
      go_wp2_with fail
      refine bodyPost_ret (v := .int .i64 0) (by simp [results, Tryz.results128, go_sem]) rfl ⟨by rw [hv.out], HW.out⟩

/-- A row of texts in a cell. -/
def RowE (w : World) (lo hi : Nat) (p : Addr) (L : List ByteArray) : Prop := ∃ A c, w.cell? p = some (.slice A L.length c) ∧ IsTexts w lo hi A L.length c L

theorem RowE.stays : Stays RowE := by
  rintro w w' lo hi lo' hi' p L ⟨A, c, h1, h2⟩ hp1 hp2 hk hl hh
  exact ⟨A, c, (hk p hp1 hp2).trans h1, h2.keep TextE.stays hk hl hh⟩

abbrev IsRows := IsSeq 1 RowE

/-- What rows read as, as values. -/
def RowsVal (w : World) (rs : List Value) (Ls : List (List ByteArray)) : Prop := rs.length = Ls.length ∧ ∀ (i : Nat) (r : Value) (L : List ByteArray), rs[i]? = some r → Ls[i]? = some L → ∃ A c, r = .slice A L.length c ∧ IsTexts w 0 w.heap.size A L.length c L

theorem RowsVal.below {w w' : World} {rs : List Value} {Ls : List (List ByteArray)} (h : RowsVal w rs Ls) (hb : Below w.heap.size w w') : RowsVal w' rs Ls := by
  refine ⟨h.1, fun i r L h1 h2 => ?_⟩
  obtain ⟨A, c, e, t⟩ := h.2 i r L h1 h2
  exact ⟨A, c, e, t.up TextE.stays hb⟩

theorem RowsVal.one {w : World} {rs : List Value} {Ls : List (List ByteArray)} (h : RowsVal w rs Ls) : ∀ u ∈ rs, u.oneCell' = true := by
  intro u hu
  obtain ⟨i, hi⟩ := List.getElem?_of_mem hu
  have hil := (List.getElem?_eq_some_iff.1 hi).1
  obtain ⟨A, c, e, _⟩ := h.2 i u _ hi (List.getElem?_eq_getElem (by rw [← h.1]; exact hil))
  rw [e]; rfl

theorem rows_cells {w : World} {n c : Nat} {A : Option Addr} {Ls : List (List ByteArray)} (h : IsRows w 0 w.heap.size A n c Ls) : ∃ rs, rs.length = n ∧ RowsVal w rs Ls ∧ ∀ p, A = some p → ∀ j u, rs[j]? = some u → p.block < w.heap.size ∧ w.cell? (p.add j) = some u := by
  obtain ⟨h1, h2, h3, h4⟩ := h
  by_cases hn : 0 < n
  · obtain ⟨p, hp, _, hhi, he⟩ := h4 hn
    obtain ⟨rs, hl, hq⟩ := list_choose (n := n) (R := fun i (r : Value) => ∀ L, Ls[i]? = some L → w.cell? (p.add (i * 1)) = some r ∧ ∃ A c, r = .slice A L.length c ∧ IsTexts w 0 w.heap.size A L.length c L) (fun i hi => by
      obtain ⟨L, hL⟩ : ∃ L, Ls[i]? = some L := ⟨_, List.getElem?_eq_getElem (by omega)⟩
      obtain ⟨A', c', e1, e2⟩ := he i L hL
      refine ⟨.slice A' L.length c', fun L' hL' => ?_⟩
      rw [hL] at hL'; injection hL' with hL'; subst hL'
      exact ⟨e1, A', c', rfl, e2⟩)
    refine ⟨rs, hl, ⟨by omega, fun i r L hi hL => (hq i r hi L hL).2⟩, fun p' hp' j u hu => ?_⟩
    rw [hp] at hp'; injection hp' with hp'; subst hp'
    have hj := (List.getElem?_eq_some_iff.1 hu).1
    obtain ⟨L, hL⟩ : ∃ L, Ls[j]? = some L := ⟨_, List.getElem?_eq_getElem (by omega)⟩
    have := (hq j u hu L hL).1
    rw [Nat.mul_one] at this
    exact ⟨hhi, this⟩
  · have h0 : n = 0 := by omega
    subst h0
    exact ⟨[], rfl, ⟨h1.symm, fun i r L hi => by simp at hi⟩, fun p _ j u hu => by simp at hu⟩

theorem rows_own {W : World} {base n : Nat} {v : Value} {rs : List Value} {Ls : List (List ByteArray)} (h : W.ownsRow base 42 1 v n rs) (hv : RowsVal W rs Ls) (hn : n = Ls.length) (h0 : 0 < n) : ∃ p c, v = .slice (some p) Ls.length c ∧ IsRows W 0 W.heap.size (some p) Ls.length c Ls := by
  subst hn
  rcases h.2 with ⟨_, e⟩ | ⟨g, cap, cur, rfl, hbg, hgb, hle, hcap, hsz, htk⟩
  · omega
  · refine ⟨_, cap, rfl, rfl, hle, hcap, fun _ => ⟨_, rfl, Nat.zero_le _, (Array.getElem?_eq_some_iff.1 hgb).1, fun i L hL => ?_⟩⟩
    have hil := (List.getElem?_eq_some_iff.1 hL).1
    obtain ⟨r, hr⟩ : ∃ r, rs[i]? = some r := ⟨_, List.getElem?_eq_getElem (by rw [hv.1]; exact hil)⟩
    obtain ⟨A, c, e, t⟩ := hv.2 i r L hr hL
    refine ⟨A, c, ?_, t⟩
    have a0 : (⟨g, 0, none⟩ : Addr).add (i * 1) = ⟨g, i, none⟩ := by unfold Addr.add; rw [Nat.mul_one]; split <;> simp_all
    rw [a0, ← e]
    rw [← htk, List.getElem?_take, if_pos (by omega)] at hr
    simp [World.cell?, hgb]
    simpa using hr

/-- Some rows more at the end of a row of the call's own. -/
theorem rows_add {base : Nat} {W : World} {v : Value} {k m c : Nat} {xs news : List Value} {ad : Addr} (h : W.ownsRow base 42 1 v k xs) (hbase : base ≤ W.heap.size) (hl : news.length = m) (hs : ∀ j u, news[j]? = some u → W.cell? (ad.add j) = some u) (h1 : ∀ u ∈ news, u.oneCell' = true) (hk : k + m ≤ 2000000000000) :
    ∃ v' W2, (Builtin.append_ #[26, 26] 26 #[v, .slice (some ad) m c]).run Tryz.prog W = .ok v' W2 ∧ W2.ownsRow base 42 1 v' (k + m) (xs ++ news) ∧ W.grownBy W2 v.ownBlock := by
  obtain ⟨i0, hi0, hz0, hsz0, hby0⟩ := info_parts Tryz.infoTs
  obtain ⟨v', w', hr, h2, h3, _, _⟩ := run_append_own_at (P := Tryz.prog) W base 26 26 42 i0 _ 1 24 Tryz.underlying26 hi0 hz0 hsz0 hby0 rfl (by omega) v k xs h ad m c news (by rw [Nat.mul_one]; exact hl) hs h1 (by unfold maxLen; omega) (by omega) hbase
  exact ⟨v', w', hr, h2, h3⟩

/-- A row put among rows. -/
def putR : List (List ByteArray) → List ByteArray → List (List ByteArray)
  | [], L => [L]
  | y :: Ls, L => if pfxCmp y L < 0 then y :: putR Ls L else if pfxCmp y L = 0 then y :: Ls else L :: y :: Ls

theorem putR_at : ∀ {Ls : List (List ByteArray)} {L : List ByteArray} {k : Nat}, (∀ (j : Nat) (y : List ByteArray), j < k → Ls[j]? = some y → pfxCmp y L < 0) → k ≤ Ls.length → putR Ls L = Ls.take k ++ putR (Ls.drop k) L
  | Ls, L, 0, _, _ => by simp
  | [], _, k + 1, _, hk => by simp at hk
  | y :: Ls, L, k + 1, h, hk => by
    have h0 := h 0 y (by omega) rfl
    rw [putR, if_pos h0, putR_at (k := k) (fun j z hj hz => h (j + 1) z (by omega) (by simpa using hz)) (by simpa using hk)]
    simp

/-- Rows were told. -/
def RowsPost (Ls : List (List ByteArray)) (w : World) (e : Ending) (w' : World) : Prop := ∃ p c, e = .returned (.slice (some p) Ls.length c) ∧ IsRows w' 0 w'.heap.size (some p) Ls.length c Ls ∧ Below w.heap.size w w'

theorem put_vals {W : World} {rs : List Value} {Ls : List (List ByteArray)} {L : List ByteArray} {k m d : Nat} {B : Option Addr} (h : RowsVal W rs Ls) (hL : IsTexts W 0 W.heap.size B m d L) (hk : k ≤ Ls.length) : RowsVal W (rs.take k ++ [.slice B m d] ++ rs.drop k) (Ls.take k ++ L :: Ls.drop k) := by
  have e : Ls.take k ++ L :: Ls.drop k = Ls.take k ++ [L] ++ Ls.drop k := by simp
  have hm : m = L.length := hL.1.symm
  subst hm
  rw [e]
  refine ⟨by simp [h.1], fun i r L' hi hL' => ?_⟩
  have hr := h.1
  by_cases h1 : i < k
  · rw [List.append_assoc, List.getElem?_append_left (by rw [List.length_take]; omega), List.getElem?_take, if_pos h1] at hi hL'
    exact h.2 i r L' hi hL'
  · by_cases h2 : i = k
    · subst h2
      rw [List.append_assoc, List.getElem?_append_right (by rw [List.length_take]; omega), List.length_take] at hi hL'
      rw [show i - min i rs.length = 0 by omega] at hi
      rw [show i - min i Ls.length = 0 by omega] at hL'
      simp at hi hL'
      subst hi hL'
      exact ⟨B, d, rfl, hL⟩
    · rw [List.getElem?_append_right (by rw [List.length_append, List.length_take, List.length_singleton]; omega), List.length_append, List.length_take, List.length_singleton, List.getElem?_drop] at hi hL'
      rw [show k + (i - (min k rs.length + 1)) = i - 1 by omega] at hi
      rw [show k + (i - (min k Ls.length + 1)) = i - 1 by omega] at hL'
      exact h.2 _ r L' hi hL'

theorem own_empty1 (w : World) (t : TypeId) (B : Nat) (hB : B ≤ w.heap.size) : (w.alloc (.cells #[] t)).ownsRow B t 1 (.slice (some ⟨w.heap.size, 0, none⟩) 0 0) 0 [] :=
  ⟨rfl, .inr ⟨w.heap.size, 0, #[], rfl, hB, heap_alloc_new w _, Nat.le_refl _, by unfold maxLen; omega, rfl, rfl⟩⟩

theorem src_take {V W : World} {p : Addr} {rs : List Value} {k : Nat} (h : ∀ (j : Nat) (u : Value), rs[j]? = some u → p.block < V.heap.size ∧ V.cell? (p.add j) = some u) (hb : Below V.heap.size V W) : ∀ j u, (rs.take k)[j]? = some u → W.cell? (p.add j) = some u := by
  intro j u hu
  rw [List.getElem?_take] at hu
  split at hu
  · obtain ⟨h1, h2⟩ := h j u hu
    exact (hb.cell (by rw [block_add]; exact h1)).trans h2
  · cases hu

theorem src_drop {V W : World} {p : Addr} {rs : List Value} {k n c : Nat} {D : Option Addr} (h : ∀ (j : Nat) (u : Value), rs[j]? = some u → p.block < V.heap.size ∧ V.cell? (p.add j) = some u) (hl : rs.length = n) (hc : n ≤ c) (hD : (if c = k then some p else (some p).map (·.add (k * 1))) = D) (hb : Below V.heap.size V W) : ∃ q, D = some q ∧ ∀ j u, (rs.drop k)[j]? = some u → W.cell? (q.add j) = some u := by
  by_cases hk : c = k
  · rw [if_pos hk] at hD
    refine ⟨p, hD.symm, fun j u hu => ?_⟩
    rw [List.getElem?_drop] at hu
    have := (List.getElem?_eq_some_iff.1 hu).1
    omega
  · rw [if_neg hk, Option.map_some] at hD
    refine ⟨_, hD.symm, fun j u hu => ?_⟩
    rw [List.getElem?_drop] at hu
    obtain ⟨h1, h2⟩ := h _ u hu
    rw [Nat.mul_one, add_add]
    exact (hb.cell (by rw [block_add]; exact h1)).trans h2

/-- Where a row goes. -/
structure PlaceAt (w : World) (n : Nat) (Ls : List (List ByteArray)) (L : List ByteArray) (k : Nat) (W : World) : Prop where
  le : k ≤ n
  low : ∀ (j : Nat) (y : List ByteArray), j < k → Ls[j]? = some y → pfxCmp y L < 0
  gr : Below w.heap.size w W

set_option maxRecDepth 100000 in
set_option maxHeartbeats 2000000 in
theorem l5Put_any (p : Addr) (n c : Nat) (Ls : List (List ByteArray)) (B : Option Addr) (m d : Nat) (L : List ByteArray) (w : World) (h : IsRows w 0 w.heap.size (some p) n c Ls) (hL : IsTexts w 0 w.heap.size B m d L) (hn : n ≤ 1000000000000) :
    Calls Tryz.prog 86 #[.slice (some p) n c, .slice B m d] w (RowsPost (putR Ls L) w) := by
  have H := Lib.hid h; have HT := Lib.hid hL; have HN := Lib.hid h.1
  have hcap := h.2.1; have hmax := h.2.2.1
  unfold maxLen at hmax
  clear h hL
  go_enter Tryz.func86, Tryz.ntmps86
  go_wp2
  go_loopw [5] (fun i wr => ∃ k : Nat, i = .int .i64 (k : Int) ∧ PlaceAt w n Ls L k wr) (fun i _ => n - (intOf i).toNat)
  case atStart => exact ⟨0, rfl, ⟨Nat.zero_le _, fun j y hj => absurd hj (Nat.not_lt_zero _), Below.refl _ _⟩⟩
  case round =>
    obtain ⟨k, rfl, hP⟩ := hrel
    have hk := hP.le
    have HP := Lib.hid hP
    clear hP
    obtain ⟨D, hD⟩ : ∃ D, (if c = k then some p else (some p).map (·.add (k * 1))) = D := ⟨_, rfl⟩
    have HD := Lib.hid hD
    have hkI : (0 : Int) ≤ (k : Int) := by omega
    have hknI : (k : Int) ≤ (n : Int) := by omega
    have hkcI : (k : Int) ≤ (c : Int) := by omega
    clear hD
    by_cases hlt : k < n
    case' neg =>
      have hltI : ¬ (k : Int) < (n : Int) := by omega
      have hat := putR_at (Ls := Ls) (L := L) (k := k) HP.out.low (by rw [HN.out]; exact hk)
      have hdn : Ls.drop k = [] := List.drop_eq_nil_of_le (by have := HN.out; omega)
      rw [hdn, putR] at hat
      have HPUT := Lib.hid (show putR Ls L = Ls.take k ++ L :: Ls.drop k by rw [hat, hdn])
      clear hat hdn
      go_wp2_with fail
      refine wp_region_held_drew (S := fun _ => True) (by kernel_rfl) trivial ?_
      obtain ⟨V, hVe⟩ : ∃ V, wr.drew = V := ⟨_, rfl⟩
      have HBV := Lib.hid (show Below w.heap.size w V by rw [← hVe]; exact HP.out.gr.drew)
      rw [hVe]
      clear hVe
    case' pos =>
      have hltI : (k : Int) < (n : Int) := by omega
      obtain ⟨q, y, hA, _, _, hy, A1, c1, z0, ty⟩ := (H.out.up RowE.stays HP.out.gr).at_ hlt
      injection hA with hA
      subst hA
      rw [Nat.mul_one] at z0
      have HY := Lib.hid hy; have TY := Lib.hid ty
      clear hy ty
      obtain ⟨i, hi⟩ : ∃ i, pfxCmp y L = i := ⟨_, rfl⟩
      have HI := Lib.hid hi
      clear hi
      by_cases hneg : i < 0
      case pos =>
        go_wp2_with fail
        refine (l5Cmp_any A1 B _ c1 m d y L _ TY.out (HT.out.up TextE.stays HP.out.gr)).mono ?_; rintro e w5 ⟨rfl, hb5⟩
        have HN5 := Lib.hid (show PlaceAt w n Ls L (k + 1) w5 from ⟨by omega, fun j z hj hz => by
          by_cases e : j = k
          · subst e; rw [HY.out] at hz; injection hz with hz; rw [← hz, HI.out]; exact hneg
          · exact HP.out.low j z (by omega) hz, belowThen HP.out.gr hb5⟩)
        clear hb5
        rw [HI.out]
        go_wp2_with fail
        refine ⟨⟨k + 1, by go_num, HN5.out⟩, by simp [intOf]; omega⟩
      case' neg =>
        go_wp2_with fail
        refine (l5Cmp_any A1 B _ c1 m d y L _ TY.out (HT.out.up TextE.stays HP.out.gr)).mono ?_; rintro e w5 ⟨rfl, hb5⟩
        have z5 := (hb5.cell (World.block_lt_of_cell? _ _ z0)).trans z0
        have TY5 := Lib.hid (TY.out.up TextE.stays hb5)
        have HW5 := Lib.hid (belowThen HP.out.gr hb5)
        clear hb5 z0
        rw [HI.out]
        go_wp2_with fail
        refine (l5Cmp_any A1 B _ c1 m d y L _ TY5.out (HT.out.up TextE.stays HW5.out)).mono ?_; rintro e w6 ⟨rfl, hb6⟩
        have HW6 := Lib.hid (belowThen HW5.out hb6)
        have hat := putR_at (Ls := Ls) (L := L) (k := k) HP.out.low (by rw [HN.out]; exact hk)
        obtain ⟨a1, a2⟩ := List.getElem?_eq_some_iff.1 HY.out
        rw [List.drop_eq_getElem_cons a1, a2, putR, HI.out, if_neg (Int.not_lt.2 hneg)] at hat
        by_cases h0 : i = 0
        case pos =>
          rw [if_pos h0] at hat
          have hself : putR Ls L = Ls := by
            rw [hat]
            conv => rhs; rw [← List.take_append_drop k Ls, List.drop_eq_getElem_cons a1, a2]
          have HSE := Lib.hid hself
          clear hat hself hb6 z5
          rw [HI.out]
          go_wp2_with fail
          refine bodyPost_ret (v := .slice (some p) n c) (by simp [results, Tryz.results86, go_sem]) rfl ?_
          rw [HSE.out]
          exact ⟨p, c, by rw [HN.out], by rw [HN.out]; exact H.out.up RowE.stays HW6.out, HW6.out⟩
        case' neg =>
          rw [if_neg h0] at hat
          have HPUT := Lib.hid (show putR Ls L = Ls.take k ++ L :: Ls.drop k by rw [hat, List.drop_eq_getElem_cons a1, a2])
          clear hat hb6 z5 a1 a2
          rw [HI.out]
          go_wp2_with fail
          refine wp_region_held_drew (S := fun _ => True) (by kernel_rfl) trivial ?_
          obtain ⟨V, hVe⟩ : ∃ V, w6.drew = V := ⟨_, rfl⟩
          have HBV := Lib.hid (show Below w.heap.size w V by rw [← hVe]; exact HW6.out.drew)
          rw [hVe]
          clear hVe HW6 TY5 HW5 TY HY HI hneg h0
    all_goals
      clear hlt hltI HP
      have hV := H.out.up RowE.stays HBV.out
      obtain ⟨rs, hrl, hrv, hrc⟩ := rows_cells hV
      have HRV := Lib.hid hrv; have HRC := Lib.hid (hrc p rfl); have HRL := Lib.hid hrl
      clear hV hrv hrc hrl
      intro hS_
      refine tk 1 (.slice (some p) n c) hS_ ?_
      refine tk 2 (.int .i64 (k : Int)) hS_ ?_
      refine tk 3 (.slice (some p) k c) hS_ ?_
      refine tk 5 (.slice B m d) hS_ ?_
      refine tk 8 (.slice (some p) n c) hS_ ?_
      refine tk 9 (.int .i64 (k : Int)) hS_ ?_
      refine tk 10 (.slice D (n - k) (c - k)) hS_ ?_ (hy := Or.inl ⟨by rfl, fun w_ hSw_ => by rw [← HD.out]; go_simp⟩)
      have hrk : (rs.take k).length = k := by rw [List.length_take]; have := HRL.out; omega
      have hrd : (rs.drop k).length = n - k := by rw [List.length_drop]; have := HRL.out; omega
      have h1k : ∀ u ∈ rs.take k, u.oneCell' = true := fun u hu => HRV.out.one u (List.mem_of_mem_take hu)
      have h1d : ∀ u ∈ rs.drop k, u.oneCell' = true := fun u hu => HRV.out.one u (List.mem_of_mem_drop hu)
      refine rd2 0 6 (fun K_ hK_ => ?_) (fun K_ hK_ => ?_)
      rw [if_pos (by rfl)]
      go_simp
      refine hK_.out _ _ trivial fun hS_ => ?_
      clear hK_
      (try simp only [Act.put, List.setIfInBounds_toArray, List.set_cons_zero, List.set_cons_succ])
      have o1 := own_empty1 V 42 V.heap.size (Nat.le_refl _)
      have b1 := below1 V (.cells #[] 42)
      obtain ⟨W1, q1⟩ : ∃ W1, V.alloc (.cells #[] 42) = W1 := ⟨_, rfl⟩
      rw [q1] at o1 b1 ⊢
      clear q1
      refine rd2 4 6 (fun K_ hK_ => ?_) (fun K_ hK_ => ?_)
      rw [if_pos (by rfl)]
      obtain ⟨v4, W3, hr, o4, g4⟩ := rows_add (c := c) o1 b1.size hrk (src_take HRC.out b1) h1k (by omega)
      refine wp_append_run rfl rfl rfl rfl hr ?_
      refine hK_.out _ _ trivial fun hS_ => ?_
      clear hK_
      (try simp only [Act.put, List.setIfInBounds_toArray, List.set_cons_zero, List.set_cons_succ])
      have b3 := b1.grown g4 b1.size (fun j e => (o1.lt j e).1)
      refine rd1 6 fun K_ hK_ => ?_
      go_simp
      refine hK_.out _ _ trivial fun hS_ => ?_
      clear hK_
      (try simp only [Act.put, List.setIfInBounds_toArray, List.set_cons_zero, List.set_cons_succ])
      have y4 := Blk.new W3 42 #[.slice B m d]
      have b4 := below1 W3 (.cells #[.slice B m d] 42)
      obtain ⟨W4, q4⟩ : ∃ W4, W3.alloc (.cells #[.slice B m d] 42) = W4 := ⟨_, rfl⟩
      obtain ⟨Y, hY⟩ : ∃ Y, W3.heap.size = Y := ⟨_, rfl⟩
      have O4 := Lib.hid (ownsRow_up o4 (by rw [← q4]; exact below1 _ _ : Below W3.heap.size W3 W4))
      rw [q4] at y4 b4 ⊢
      have B4 := Lib.hid (belowThen b3 b4)
      rw [hY] at y4 ⊢
      have Y4 := Lib.hid y4
      clear o1 b1 hr o4 g4 b3 y4 b4 q4 hY
      rotate_left
      rw [if_pos (by rfl)]
      go_simp
      refine hK_.out _ _ trivial fun hS_ => ?_
      clear hK_
      (try simp only [Act.put, List.setIfInBounds_toArray, List.set_cons_zero, List.set_cons_succ])
      have y2 := Blk.new W1 42 #[.slice B m d]
      have b2 := below1 W1 (.cells #[.slice B m d] 42)
      have o2 := ownsRow_up o1 b2
      have hne : W1.heap.size ≠ V.heap.size := by have h9 : V.heap.size < W1.heap.size := (o1.lt V.heap.size rfl).2; omega
      obtain ⟨W2, q2⟩ : ∃ W2, W1.alloc (.cells #[.slice B m d] 42) = W2 := ⟨_, rfl⟩
      rw [q2] at y2 b2 o2 ⊢
      obtain ⟨Y, hY⟩ : ∃ Y, W1.heap.size = Y := ⟨_, rfl⟩
      have b12 := belowThen b1 b2
      rw [hY] at y2 hne ⊢
      clear q2 hY
      refine rd1 4 fun K_ hK_ => ?_
      obtain ⟨v4, W4, hr, o4, g4⟩ := rows_add (c := c) o2 b12.size hrk (src_take HRC.out b12) h1k (by omega)
      refine wp_append_run rfl rfl rfl rfl hr ?_
      refine hK_.out _ _ trivial fun hS_ => ?_
      clear hK_
      (try simp only [Act.put, List.setIfInBounds_toArray, List.set_cons_zero, List.set_cons_succ])
      have O4 := Lib.hid o4
      have B4 := Lib.hid (b12.grown g4 b12.size (fun j e => (o2.lt j e).1))
      have Y4 := Lib.hid (y2.kept g4 (by simp [Value.ownBlock]; exact hne))
      clear o1 b1 y2 b2 o2 hne b12 hr o4 g4
      rotate_left
      rw [if_pos (by rfl)]
      go_simp
      refine hK_.out _ _ trivial fun hS_ => ?_
      clear hK_
      (try simp only [Act.put, List.setIfInBounds_toArray, List.set_cons_zero, List.set_cons_succ])
      have y1 := Blk.new V 42 #[.slice B m d]
      have b1 := below1 V (.cells #[.slice B m d] 42)
      have s1 : (V.alloc (.cells #[.slice B m d] 42)).heap.size = V.heap.size + 1 := by simp
      obtain ⟨W1, q1⟩ : ∃ W1, V.alloc (.cells #[.slice B m d] 42) = W1 := ⟨_, rfl⟩
      rw [q1] at y1 b1 s1 ⊢
      obtain ⟨Y, hY⟩ : ∃ Y, V.heap.size = Y := ⟨_, rfl⟩
      rw [hY] at y1 ⊢
      have S1 := Lib.hid s1; have HYY := Lib.hid hY
      clear s1 hY
      refine rd1 0 fun K_ hK_ => ?_
      go_simp
      refine hK_.out _ _ trivial fun hS_ => ?_
      clear hK_
      (try simp only [Act.put, List.setIfInBounds_toArray, List.set_cons_zero, List.set_cons_succ])
      have o2 := own_empty1 W1 42 V.heap.size b1.size
      have b2 := below1 W1 (.cells #[] 42)
      have y2 := y1.below b2
      obtain ⟨W2, q2⟩ : ∃ W2, W1.alloc (.cells #[] 42) = W2 := ⟨_, rfl⟩
      rw [q2] at o2 b2 y2 ⊢
      have b12 := belowThen b1 b2
      clear q2
      refine rd1 4 fun K_ hK_ => ?_
      obtain ⟨v4, W4, hr, o4, g4⟩ := rows_add (c := c) o2 b12.size hrk (src_take HRC.out b12) h1k (by omega)
      refine wp_append_run rfl rfl rfl rfl hr ?_
      refine hK_.out _ _ trivial fun hS_ => ?_
      clear hK_
      (try simp only [Act.put, List.setIfInBounds_toArray, List.set_cons_zero, List.set_cons_succ])
      have O4 := Lib.hid o4
      have B4 := Lib.hid (b12.grown g4 b12.size (fun j e => (o2.lt j e).1))
      have Y4 := Lib.hid (y2.kept g4 (by have h8 := S1.out; have h9 := HYY.out; simp [Value.ownBlock]; omega))
      clear y1 b1 S1 q1 HYY o2 b2 y2 b12 hr o4 g4
      all_goals
        refine rd1 7 fun K_ hK_ => ?_
        obtain ⟨v7, W7, hr, o7, g7⟩ := rows_add (c := 1) (m := 1) (ad := ⟨Y, 0, none⟩) (news := [.slice B m d]) O4.out B4.out.size rfl (World.news_of_block Y4.out) (by intro u hu; simp at hu; subst hu; rfl) (by omega)
        refine wp_append_run rfl rfl rfl rfl hr ?_
        refine hK_.out _ _ trivial fun hS_ => ?_
        clear hK_
        (try simp only [Act.put, List.setIfInBounds_toArray, List.set_cons_zero, List.set_cons_succ])
        have b7 := B4.out.grown g7 B4.out.size (fun j e => (O4.out.lt j e).1)
        obtain ⟨q, hq, hqs⟩ := src_drop (k := k) HRC.out HRL.out hcap HD.out b7
        subst hq
        refine rd1 11 fun K_ hK_ => ?_
        obtain ⟨v9, W9, hr9, o9, g9⟩ := rows_add (c := c - k) o7 b7.size hrd hqs h1d (by omega)
        refine wp_append_run rfl rfl rfl rfl hr9 ?_
        refine hK_.out _ _ trivial fun hS_ => ?_
        clear hK_
        (try simp only [Act.put, List.setIfInBounds_toArray, List.set_cons_zero, List.set_cons_succ])
        have b9 := b7.grown g9 b7.size (fun j e => (o7.lt j e).1)
        refine tk 12 v9 hS_ ?_
        refine wpAnyH_done (by kernel_rfl) ?_ _
        have hkl : k ≤ Ls.length := by have := HN.out; omega
        have hval : RowsVal W9 ([] ++ rs.take k ++ [.slice B m d] ++ rs.drop k) (Ls.take k ++ L :: Ls.drop k) := by
          rw [List.nil_append]
          exact put_vals (HRV.out.below b9) (HT.out.up TextE.stays (HBV.out.trans (b9.mono HBV.out.size))) hkl
        obtain ⟨R, hRe⟩ : ∃ R, Ls.take k ++ L :: Ls.drop k = R := ⟨_, rfl⟩
        rw [hRe] at hval
        obtain ⟨p9, c9, rfl, hrows⟩ := rows_own o9 hval (by rw [← hRe, List.length_append, List.length_cons, List.length_take, List.length_drop]; have := HN.out; omega) (by omega)
        have HRE := Lib.hid hRe; have HR9 := Lib.hid hrows; have HB9 := Lib.hid (HBV.out.trans (b9.mono HBV.out.size))
        clear hr o7 g7 b7 hqs hr9 o9 g9 b9 hkl hval hrows hRe
        go_wp2
        refine bodyPost_ret (v := .slice (some p9) R.length c9) (by simp [results, Tryz.results86, go_sem]) rfl ?_
        rw [HPUT.out, HRE.out]
        exact ⟨p9, c9, rfl, HR9.out, HB9.out⟩

/-- Rows put one by one. -/
def putAllR (Ls : List (List ByteArray)) : List (List ByteArray) := Ls.foldl putR []

theorem putR_len : ∀ (Ls : List (List ByteArray)) (L : List ByteArray), (putR Ls L).length ≤ Ls.length + 1
  | [], L => by rw [putR]; simp
  | y :: Ls, L => by
    have := putR_len Ls L
    rw [putR]
    split
    · simp; exact this
    · split <;> simp

theorem putAll_take {Ls : List (List ByteArray)} {k : Nat} {L : List ByteArray} (h : Ls[k]? = some L) : putAllR (Ls.take (k + 1)) = putR (putAllR (Ls.take k)) L := by
  unfold putAllR
  rw [List.take_add_one, h, List.foldl_append]
  rfl

theorem putAll_len : ∀ (k : Nat) (Ls : List (List ByteArray)), (putAllR (Ls.take k)).length ≤ k
  | 0, Ls => by simp [putAllR]
  | k + 1, Ls => by
    have ih := putAll_len k Ls
    cases h : Ls[k]? with
    | none =>
      rw [List.take_add_one, h]
      simp
      omega
    | some L =>
      rw [putAll_take h]
      have := putR_len (putAllR (Ls.take k)) L
      omega

/-- The rows so far. -/
structure RowsSo (w : World) (Ls : List (List ByteArray)) (p : Addr) (c : Nat) (W : World) : Prop where
  rows : IsRows W 0 W.heap.size (some p) Ls.length c Ls
  gr : Below w.heap.size w W

theorem RowsSo.below {w W W' : World} {Ls : List (List ByteArray)} {p : Addr} {c : Nat} (h : RowsSo w Ls p c W) (hb : Below W.heap.size W W') : RowsSo w Ls p c W' := ⟨h.rows.up RowE.stays hb, belowThen h.gr hb⟩

set_option maxRecDepth 100000 in
set_option maxHeartbeats 2000000 in
theorem l5Ask_any (A : Option Addr) (n c : Nat) (xs : List At) (B : Option Addr) (m d : Nat) (qs : List Pt) (w : World) (h1 : IsAtoms w 0 w.heap.size A n c xs) (h2 : IsParts w 0 w.heap.size B m d qs) (hr : risesB xs = true) (h3 : ∀ q ∈ qs, q.2.2.length ≤ 3) (hm4 : m ≤ 4) (hn : n ≤ 300) (hv : (partsT [] qs).length ≤ 12) (hrb : (rowsB xs qs).length ≤ 1000000000000) :
    Calls Tryz.prog 38 #[.slice A n c, .slice B m d] w (RowsPost (putAllR ((rowsB xs qs).map (rowT (partsT [] qs)))) w) := by
  have HA := Lib.hid h1; have HB := Lib.hid h2; have HR := Lib.hid hr; have H3 := Lib.hid h3
  have hpow : (n + 1) ^ m ≤ 8589934592 := Nat.le_trans (Nat.pow_le_pow_left (by omega : n + 1 ≤ 301) m) (Nat.le_trans (Nat.pow_le_pow_right (by omega) hm4) (by decide))
  have HPOW := Lib.hid hpow
  clear h1 h2 hr h3 hpow
  have hb1 := below1 w (.cells #[] 42)
  have h0 : IsRows (w.alloc (.cells #[] 42)) 0 (w.alloc (.cells #[] 42)).heap.size (some ⟨w.heap.size, 0, none⟩) 0 0 [] := ⟨rfl, Nat.le_refl _, by unfold maxLen; omega, fun h => absurd h (Nat.lt_irrefl _)⟩
  obtain ⟨w1, hq1⟩ : ∃ w1, w.alloc (.cells #[] 42) = w1 := ⟨_, rfl⟩
  rw [hq1] at hb1 h0
  have HQ1 := Lib.hid hq1; have HB1 := Lib.hid hb1; have H0 := Lib.hid h0
  clear hq1 hb1 h0
  go_enter Tryz.func38, Tryz.ntmps38
  go_wp2_with (rw [HQ1.out])
  refine (l5Vars_any B m d qs _ (HB.out.up PartE.stays HB1.out) H3.out (by omega)).mono ?_; rintro e w2 ⟨pv, cv, rfl, hvt, hb2⟩
  obtain ⟨vs, hvs⟩ : ∃ vs, partsT [] qs = vs := ⟨_, rfl⟩
  rw [hvs] at hv hvt ⊢
  obtain ⟨nv, hnv⟩ : ∃ nv, vs.length = nv := ⟨_, rfl⟩
  rw [hnv] at hv hvt ⊢
  have HVT := Lib.hid hvt; have HNV := Lib.hid hnv; have HB2 := Lib.hid (belowThen HB1.out hb2); have HB12 := Lib.hid hb2
  have hcv := hvt.2.1; have hcv2 := hvt.2.2.1
  unfold maxLen at hcv2
  have HVS := Lib.hid hvs
  clear hvt hnv hb2 hvs
  go_wp2_with fail
  refine (l4All_any A n c xs B m d qs _ (HA.out.up AtomE.stays HB2.out) (HB.out.up PartE.stays HB2.out) HR.out (fun q hq => by have := H3.out q hq; omega) (by omega) HPOW.out).mono ?_; rintro e w3 ⟨D, r, f, rfl, hbi, hb3⟩
  obtain ⟨bs, hbs⟩ : ∃ bs, rowsB xs qs = bs := ⟨_, rfl⟩
  rw [hbs] at hbi hrb ⊢
  have hr1 := hbi.1; have hrf := hbi.2.1; have hrf2 := hbi.2.2.1
  have hr9 : r ≤ 1000000000000 := by omega
  unfold maxLen at hrf2
  have HBI := Lib.hid hbi; have HR1 := Lib.hid hr1; have HB3 := Lib.hid (belowThen HB2.out hb3); have HB23 := Lib.hid hb3
  have HV3 := Lib.hid (HVT.out.up TextE.stays hb3)
  have HS3 := Lib.hid (show RowsSo w [] ⟨w.heap.size, 0, none⟩ 0 w3 from ⟨H0.out.up RowE.stays (belowThen HB12.out hb3), HB3.out⟩)
  have HBS := Lib.hid hbs
  clear hbi hr1 hb3 hbs hrb
  go_wp2_with fail
  go_loopw [5, 8] (fun out i wr => ∃ (k nl : Nat) (p : Addr) (c' : Nat), k ≤ r ∧ i = .int .i64 (k : Int) ∧ out = .slice (some p) nl c' ∧ nl = (putAllR ((bs.map (rowT vs)).take k)).length ∧ RowsSo w (putAllR ((bs.map (rowT vs)).take k)) p c' wr ∧ Below w3.heap.size w3 wr) (fun _ i _ => r - (intOf i).toNat)
  case atStart => exact ⟨0, 0, _, 0, Nat.zero_le _, rfl, rfl, by simp [putAllR], HS3.out, Below.refl _ _⟩
  case round =>
    obtain ⟨wo, hwo⟩ : ∃ wo : World, wo = wr := ⟨_, rfl⟩
    subst hwo
    obtain ⟨k, nl, p, c', hk, rfl, rfl, hnl, hS, hB⟩ := hrel
    obtain ⟨Ls, hLs⟩ : ∃ Ls, putAllR ((bs.map (rowT vs)).take k) = Ls := ⟨_, rfl⟩
    have hnk := putAll_len k (bs.map (rowT vs))
    rw [hLs] at hnl hS hnk
    have HS := Lib.hid hS; have HW := Lib.hid hB; have HNL := Lib.hid hnl; have HLS := Lib.hid hLs; have HNK := Lib.hid hnk
    clear hS hB hnl hLs hnk HS3
    by_cases hlt : k < r
    · have hltI : (k : Int) < (r : Int) := by omega
      obtain ⟨q, b, hA, _, hqb, hb, ⟨A1, n1, c1, e1, t1⟩, ⟨A2, n2, c2, e2, t2⟩⟩ := (HBI.out.up BindE.stays HW.out).at_ hlt
      subst hA
      have HBK := Lib.hid hb; have T1 := Lib.hid t1; have T2 := Lib.hid t2; have E1 := Lib.hid e1; have E2 := Lib.hid e2
      have o4 := own_empty1 wo 9 wo.heap.size (Nat.le_refl _)
      have b4 := below1 wo (.cells #[] 9)
      obtain ⟨w4, hq4⟩ : ∃ w4, wo.alloc (.cells #[] 9) = w4 := ⟨_, rfl⟩
      rw [hq4] at o4 b4
      have HQ4 := Lib.hid hq4; have O4 := Lib.hid o4; have B4 := Lib.hid b4
      clear hq4 o4 b4 hb t1 t2 e1 e2
      go_wp2_with (rw [HQ4.out])
      go_loopw [9, 10] (fun v i W => ∃ j : Nat, j ≤ nv ∧ i = .int .i64 (j : Int) ∧ W.ownsRow wo.heap.size 9 1 v j (tcl (rowT (vs.take j) b)) ∧ Below wo.heap.size wo W) (fun _ i _ => nv - (intOf i).toNat)
      case atStart => exact ⟨0, Nat.zero_le _, rfl, O4.out, B4.out⟩
      case round =>
        obtain ⟨j, hj, rfl, hO, hBW⟩ := hrel
        obtain ⟨A9, c9, rfl, hc9, hm9⟩ := ownsRow_form hO
        have HO := Lib.hid hO; have HBW := Lib.hid hBW
        clear hO hBW
        by_cases hjt : j < nv
        · have hjtI : (j : Int) < (nv : Int) := by omega
          obtain ⟨pv', x, hpv, _, hpb, hx, z0⟩ := ((HV3.out.up TextE.stays HW.out).up TextE.stays HBW.out).at_ hjt
          injection hpv with hpv
          subst hpv
          rw [Nat.mul_one] at z0
          have z0' : wr.cell? (pv.add j) = some (.string x) := z0
          have HX := Lib.hid hx
          have y1 := (HBW.out.cell (by rw [block_add]; exact hqb)).trans E1.out
          have y2 := (HBW.out.cell (by show (q.add (k * 2)).block < _; rw [block_add]; exact hqb)).trans E2.out
          have hd : Below wr.heap.size wr wr.drew := (Below.refl _ _).drew
          have hqW : q.block < wr.heap.size := Nat.lt_of_lt_of_le hqb HBW.out.size
          have sw : ∀ U : World, Below wr.heap.size wr U → U.cell? (q.add (k * 2)) = some (.slice A1 n1 c1) ∧ U.cell? ⟨(q.add (k * 2)).block, (q.add (k * 2)).off + 1, none⟩ = some (.slice A2 n2 c2) ∧ U.cell? (pv.add j) = some (.string x) := fun U hU =>
            ⟨(hU.cell (by rw [block_add]; exact hqW)).trans y1, (hU.cell (by show (q.add (k * 2)).block < _; rw [block_add]; exact hqW)).trans y2, (hU.cell (by rw [block_add]; exact hpb)).trans z0'⟩
          have SW := Lib.hid sw; have HD := Lib.hid hd
          clear sw y1 y2 z0 z0' hx hd
          go_wp2_with fail
          refine wp_region_held_drew (S := fun U => U.cell? (q.add (k * 2)) = some (.slice A1 n1 c1) ∧ U.cell? ⟨(q.add (k * 2)).block, (q.add (k * 2)).off + 1, none⟩ = some (.slice A2 n2 c2) ∧ U.cell? (pv.add j) = some (.string x)) (by kernel_rfl) (SW.out _ HD.out) ?_
          intro hS_
          refine tk 0 (.slice (some q) r f) hS_ ?_
          refine tk 1 (.int .i64 (k : Int)) hS_ ?_
          refine tk 2 (.pointer (some (q.add (k * 2)))) hS_ ?_
          refine tk 3 (.agg #[.slice A1 n1 c1, .slice A2 n2 c2]) hS_ ?_
          refine tk 4 (.slice (some pv) nv cv) hS_ ?_
          refine tk 5 (.int .i64 (j : Int)) hS_ ?_
          refine tk 6 (.pointer (some (pv.add j))) hS_ ?_
          refine tk 7 (.string x) hS_ ?_
          refine rd1 8 fun K_ hK_ => ?_
          go_simp
          go_at_call 85
          refine (l4Get_any A1 A2 n1 c1 n2 c2 b x _ ((T1.out.up TextE.stays HBW.out).up TextE.stays HD.out) ((T2.out.up TextE.stays HBW.out).up TextE.stays HD.out)).mono ?_; rintro e w5 ⟨rfl, hb5⟩
          have hb5' := belowThen HD.out hb5
          refine hK_.out _ _ (SW.out _ hb5') fun hS_ => ?_
          clear hK_
          (try simp only [Act.put, List.setIfInBounds_toArray, List.set_cons_zero, List.set_cons_succ])
          refine tk 9 (.tuple #[.string ((getW b x).getD ⟨#[]⟩), .bool (getW b x).isSome]) hS_ ?_
          refine tk 10 (.string ((getW b x).getD ⟨#[]⟩)) hS_ ?_
          refine tk 11 (.bool (getW b x).isSome) hS_ ?_
          refine tk 12 (.string ((getW b x).getD ⟨#[]⟩)) hS_ ?_
          refine tk 13 (.bool (getW b x).isSome) hS_ ?_
          refine wpAnyH_done (by kernel_rfl) ?_ _
          have hsz := HBW.out.size
          have hw5 := below1 w5 (.cells #[.string (wordT b (true, x))] 9)
          have hb6 := belowThen hb5' hw5
          have hjl : j = (rowT (vs.take j) b).length := by unfold rowT; rw [List.length_map, List.length_take]; have := HNV.out; omega
          obtain ⟨g2, m2, cap, W2, hr, hown, hgr⟩ := texts_more (s := wordT b (true, x)) HO.out hjl hsz hb6 (Blk.new w5 _ _) (by omega)
          have HRU := Lib.hid hr
          have HN := Lib.hid (show W2.ownsRow wo.heap.size 9 1 (.slice (some ⟨g2, 0, none⟩) m2 cap) (j + 1) (tcl (rowT (vs.take (j + 1)) b)) ∧ Below wo.heap.size wo W2 from ⟨by rw [rowT_take HX.out]; exact hown, (belowThen HBW.out hb6).grown hgr (belowThen HBW.out hb6).size (fun j e => (HO.out.lt j e).1)⟩)
          clear hr hown hgr hb6 hw5 hb5 hb5' hjl hS_
          have hwt : (getW b x).getD ⟨#[]⟩ = wordT b (true, x) := rfl
          rw [hwt]
          obtain ⟨s, hs⟩ : ∃ s, wordT b (true, x) = s := ⟨_, rfl⟩
          rw [hs] at HRU ⊢
          clear hwt hs
          go_wp2_with (at_builtin; refine wpList_append_at rfl rfl rfl rfl rfl HRU.out ?_)
          refine ⟨⟨j + 1, by omega, by go_num, HN.out.1, HN.out.2⟩, by simp [intOf]; omega⟩
        · have hjn : j = nv := by omega
          subst hjn
          have hO := HO.out
          rw [List.take_of_length_le (by have := HNV.out; omega)] at hO
          have hln : (rowT vs b).length = j := by unfold rowT; rw [List.length_map]; exact HNV.out
          have hO' : wr.ownsRow wo.heap.size 9 1 (.slice A9 j c9) (rowT vs b).length (tcl (rowT vs b)) := by rw [hln]; exact hO
          obtain ⟨A8, c8, e8, t8⟩ := texts_any hO'
          rw [hln] at e8 t8
          injection e8 with e8 _ e9
          subst e8 e9
          have T8 := Lib.hid t8
          clear hO hO' t8
          go_wp2_with fail
          have hnk := HNK.out; have hnl := HNL.out
          have hput := l5Put_any p nl c' Ls A9 j c9 (rowT vs b) wr (by rw [HNL.out]; exact HS.out.rows.up RowE.stays HBW.out) T8.out (by omega)
          refine hput.mono ?_; rintro e w8 ⟨p8, c8, rfl, hr8, hb8⟩
          have hnext : putAllR ((bs.map (rowT vs)).take (k + 1)) = putR Ls (rowT vs b) := by
            rw [← HLS.out]
            exact putAll_take (by rw [List.getElem?_map, HBK.out]; rfl)
          obtain ⟨Q, hQ⟩ : ∃ Q, putR Ls (rowT vs b) = Q := ⟨_, rfl⟩
          rw [hQ] at hr8 hnext ⊢
          have HN8 := Lib.hid hnext; have HR8 := Lib.hid hr8; have HB8 := Lib.hid (belowThen HBW.out hb8)
          clear hput hnk hnl hr8 hb8 hQ hnext hln
          go_wp2_with fail
          refine ⟨⟨k + 1, _, p8, c8, by omega, by go_num, rfl, by rw [HN8.out], by rw [HN8.out]; exact ⟨HR8.out, belowThen HS.out.gr HB8.out⟩, belowThen HW.out HB8.out⟩, by simp [intOf]; omega⟩
    · have hkr : k = r := by omega
      subst hkr
      have hend : putAllR (bs.map (rowT vs)) = Ls := by
        rw [← HLS.out, List.take_of_length_le (by rw [List.length_map]; have := HR1.out; omega)]
      have HE := Lib.hid hend
      clear hend
      go_wp2_with fail
      refine bodyPost_ret (v := .slice (some p) nl c') (by simp [results, Tryz.results38, go_sem]) rfl ?_
      rw [HVS.out, HBS.out, HE.out]
      exact ⟨p, c', by rw [HNL.out], HS.out.rows, HS.out.gr⟩
end Go.Proofs.YtcigljngiemdeaaGreat
