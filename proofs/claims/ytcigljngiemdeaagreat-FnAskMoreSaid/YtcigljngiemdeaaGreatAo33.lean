/-
  Texts of one claim, put together.
-/
import Derived.Test.YtcigljngiemdeaaGreatAo0
import Derived.Test.YtcigljngiemdeaaGreatAo32
set_option maxRecDepth 100000
set_option maxHeartbeats 8000000
namespace Go.Proofs.YtcigljngiemdeaaGreat
open Go.RowKit
def pfxCmp : List ByteArray → List ByteArray → Int
  | a :: x, b :: y => if textCmp a b = 0 then pfxCmp x y else textCmp a b
  | [], _ => 0
  | _ :: _, [] => 0
theorem pfx_row : ∀ {x y : List ByteArray}, x.length = y.length → pfxCmp x y = rowCmp x y
  | [], [], _ => by rw [pfxCmp, rowCmp]
  | [], _ :: _, h => by simp at h
  | _ :: _, [], h => by simp at h
  | a :: x, b :: y, h => by
    have ih := pfx_row (x := x) (y := y) qbd; rw [pfxCmp, rowCmp, ih]
theorem pfx_drop {x y : List ByteArray} {k : Nat} {a b : ByteArray} (ha : x[k]? = some a) (hb : y[k]? = some b) : pfxCmp (x.drop k) (y.drop k) = if textCmp a b = 0 then pfxCmp (x.drop (k + 1)) (y.drop (k + 1)) else textCmp a b := by
  have e : ∀ {z : List ByteArray} {c : ByteArray}, z[k]? = some c → z.drop k = c :: z.drop (k + 1) := fun {z c} h => by
    obtain ⟨h1, h2⟩ := List.getElem?_eq_some_iff.1 h; rw [← h2]; exact List.drop_eq_getElem_cons h1
  rw [e ha, e hb, pfxCmp]
theorem pfx_end {x y : List ByteArray} {k : Nat} (h : x.length ≤ k ∨ y.length ≤ k) : pfxCmp (x.drop k) (y.drop k) = 0 := by
  rcases h with h | h
  · rw [List.drop_eq_nil_of_le h, pfxCmp]
  · rw [List.drop_eq_nil_of_le h]
    cases x.drop k with
    | nil => rw [pfxCmp]
    | cons a l => rw [pfxCmp]
theorem l5Cmp_any (A B : Option Addr) (n c m d : Nat) (x y : List ByteArray) (w : World) (hx : IsTexts w 0 w.heap.size A n c x) (hy : IsTexts w 0 w.heap.size B m d y) :
    Calls Tryz.prog 128 #[.slice A n c, .slice B m d] w fun e w' => e = .returned (.int .i64 (pfxCmp x y)) ∧ Below w.heap.size w w' := by
  have hn := hx.len; have hm := hy.len; unfold maxLen at hn hm; have HX := hid hx; have HY := hid hy; have HN := hid hx.1; have HM := hid hy.1; clear hx hy; go_enter Tryz.func128, Tryz.ntmps128; go_wp2; go_loopw [5] (fun i wr => ∃ k : Nat, k ≤ n ∧ k ≤ m ∧ i = .int .i64 (k : Int) ∧ Below w.heap.size w wr ∧ pfxCmp x y = pfxCmp (x.drop k) (y.drop k)) (fun i _ => n - (intOf i).toNat)
  case atStart => exact ⟨0, Nat.zero_le _, Nat.zero_le _, rfl, Below.refl _ _, rfl⟩
  case round =>
    obtain ⟨k, hk, hkm, rfl, hB, he⟩ := hrel; have HE := hid he; have HW := hid hB; clear he hB; by_cases hlt : k < n
    · have hltI : (k : Int) < (n : Int) := qaa
      by_cases hlm : k < m
      · have hlmI : (k : Int) < (m : Int) := qaa
        obtain ⟨p, a, hA, _, _, ha, z0⟩ := (HX.out.up TextE.stays HW.out).at_ hlt; subst hA; rw [Nat.mul_one] at z0; have z0' : wr.cell? (p.add k) = some (.string a) := z0; obtain ⟨q, b, hBq, _, _, hb, y0⟩ := (HY.out.up TextE.stays HW.out).at_ hlm; subst hBq; rw [Nat.mul_one] at y0; have y0' : wr.cell? (q.add k) = some (.string b) := y0; have HS := hid (pfx_drop ha hb); clear z0 ha y0 hb; obtain ⟨i, hi⟩ : ∃ i, textCmp a b = i := ⟨_, rfl⟩; have HI := hid hi; clear hi; by_cases h0 : i = 0
        · go_wp2_with fail
          go_quiet ((go_at_call 167; exact Calls.quiet_of_same (l1Texts_same _ _ _))); go_wp2_with (rw [HI.out]); refine ⟨⟨k + 1, by omega, by omega, by go_num, belowDrewN HW.out _, ?_⟩, by simp [intOf]; omega⟩; rw [HE.out, HS.out, HI.out, if_pos h0]
        · go_wp2_with fail
          go_quiet ((go_at_call 167; exact Calls.quiet_of_same (l1Texts_same _ _ _))); go_wp2_with (rw [HI.out]); refine bodyPost_ret (v := .int .i64 i) qbv rfl ⟨?_, belowDrewN HW.out _⟩; rw [HE.out, HS.out, HI.out, if_neg h0]
      · have hlmI : ¬ (k : Int) < (m : Int) := qaa
        have hv := hid (HE.out.trans (pfx_end (x := x) (y := y) (k := k) (.inr qcy))); go_wp2_with fail; refine bodyPost_ret (v := .int .i64 0) qbv rfl ⟨by rw [hv.out], HW.out⟩
    · have hltI : ¬ (k : Int) < (n : Int) := qaa
      have hv := hid (HE.out.trans (pfx_end (x := x) (y := y) (k := k) (.inl qcj))); go_wp2_with fail; refine bodyPost_ret (v := .int .i64 0) qbv rfl ⟨by rw [hv.out], HW.out⟩
def RowE (w : World) (lo hi : Nat) (p : Addr) (L : List ByteArray) : Prop := ∃ A c, w.cell? p = some (.slice A L.length c) ∧ IsTexts w lo hi A L.length c L
theorem RowE.stays : Stays RowE := by
  rintro w w' lo hi lo' hi' p L ⟨A, c, h1, h2⟩ hp1 hp2 hk hl hh; exact ⟨A, c, (hk p hp1 hp2).trans h1, h2.keep TextE.stays hk hl hh⟩
abbrev IsRows := IsSeq 1 RowE
def RowsVal (w : World) (rs : List Value) (Ls : List (List ByteArray)) : Prop := rs.length = Ls.length ∧ ∀ (i : Nat) (r : Value) (L : List ByteArray), rs[i]? = some r → Ls[i]? = some L → ∃ A c, r = .slice A L.length c ∧ IsTexts w 0 w.heap.size A L.length c L
theorem RowsVal.below {w w' : World} {rs : List Value} {Ls : List (List ByteArray)} (h : RowsVal w rs Ls) (hb : Below w.heap.size w w') : RowsVal w' rs Ls := by
  refine ⟨h.1, fun i r L h1 h2 => ?_⟩; obtain ⟨A, c, e, t⟩ := h.2 i r L h1 h2; exact ⟨A, c, e, t.up TextE.stays hb⟩
theorem RowsVal.one {w : World} {rs : List Value} {Ls : List (List ByteArray)} (h : RowsVal w rs Ls) : ∀ u ∈ rs, u.oneCell' = true := by
  intro u hu; obtain ⟨i, hi⟩ := List.getElem?_of_mem hu; have hil := (List.getElem?_eq_some_iff.1 hi).1; obtain ⟨A, c, e, _⟩ := h.2 i u _ hi (List.getElem?_eq_getElem (by rw [← h.1]; exact hil)); rw [e]; rfl
theorem rows_cells {w : World} {n c : Nat} {A : Option Addr} {Ls : List (List ByteArray)} (h : IsRows w 0 w.heap.size A n c Ls) : ∃ rs, rs.length = n ∧ RowsVal w rs Ls ∧ ∀ p, A = some p → ∀ j u, rs[j]? = some u → p.block < w.heap.size ∧ w.cell? (p.add j) = some u := by
  obtain ⟨h1, h2, h3, h4⟩ := h; by_cases hn : 0 < n
  · obtain ⟨p, hp, _, hhi, he⟩ := h4 hn
    obtain ⟨rs, hl, hq⟩ := list_choose (n := n) (R := fun i (r : Value) => ∀ L, Ls[i]? = some L → w.cell? (p.add (i * 1)) = some r ∧ ∃ A c, r = .slice A L.length c ∧ IsTexts w 0 w.heap.size A L.length c L) (fun i hi => by
      obtain ⟨L, hL⟩ : ∃ L, Ls[i]? = some L := ⟨_, List.getElem?_eq_getElem qaa⟩; obtain ⟨A', c', e1, e2⟩ := he i L hL; refine ⟨.slice A' L.length c', fun L' hL' => ?_⟩; rw [hL] at hL'; injection hL' with hL'; subst hL'; exact ⟨e1, A', c', rfl, e2⟩)
    refine ⟨rs, hl, ⟨by omega, fun i r L hi hL => (hq i r hi L hL).2⟩, fun p' hp' j u hu => ?_⟩; rw [hp] at hp'; injection hp' with hp'; subst hp'; have hj := (List.getElem?_eq_some_iff.1 hu).1; obtain ⟨L, hL⟩ : ∃ L, Ls[j]? = some L := ⟨_, List.getElem?_eq_getElem qaa⟩; have := (hq j u hu L hL).1; rw [Nat.mul_one] at this; exact ⟨hhi, this⟩
  · have h0 : n = 0 := qaa
    subst h0; exact ⟨[], rfl, ⟨h1.symm, fun i r L hi => by simp at hi⟩, fun p _ j u hu => by simp at hu⟩
theorem rows_own {W : World} {base n : Nat} {v : Value} {rs : List Value} {Ls : List (List ByteArray)} (h : W.ownsRow base 42 1 v n rs) (hv : RowsVal W rs Ls) (hn : n = Ls.length) (h0 : 0 < n) : ∃ p c, v = .slice (some p) Ls.length c ∧ IsRows W 0 W.heap.size (some p) Ls.length c Ls := by
  subst hn; rcases h.2 with ⟨_, e⟩ | ⟨g, cap, cur, rfl, hbg, hgb, hle, hcap, hsz, htk⟩
  · omega
  · refine ⟨_, cap, rfl, rfl, hle, hcap, fun _ => ⟨_, rfl, Nat.zero_le _, (Array.getElem?_eq_some_iff.1 hgb).1, fun i L hL => ?_⟩⟩
    have hil := (List.getElem?_eq_some_iff.1 hL).1; obtain ⟨r, hr⟩ : ∃ r, rs[i]? = some r := ⟨_, List.getElem?_eq_getElem (by rw [hv.1]; exact hil)⟩; obtain ⟨A, c, e, t⟩ := hv.2 i r L hr hL; refine ⟨A, c, ?_, t⟩; have a0 : (⟨g, 0, none⟩ : Addr).add (i * 1) = ⟨g, i, none⟩ := by unfold Addr.add; rw [Nat.mul_one]; split <;> simp_all
    rw [a0, ← e]; rw [← htk, List.getElem?_take, if_pos qaa] at hr; simp [World.cell?, hgb]; simpa using hr
theorem rows_add {base : Nat} {W : World} {v : Value} {k m c : Nat} {xs news : List Value} {ad : Addr} (h : W.ownsRow base 42 1 v k xs) (hbase : base ≤ W.heap.size) (hl : news.length = m) (hs : ∀ j u, news[j]? = some u → W.cell? (ad.add j) = some u) (h1 : ∀ u ∈ news, u.oneCell' = true) (hk : k + m ≤ 2000000000000) :
    ∃ v' W2, (Builtin.append_ #[26, 26] 26 #[v, .slice (some ad) m c]).run Tryz.prog W = .ok v' W2 ∧ W2.ownsRow base 42 1 v' (k + m) (xs ++ news) ∧ W.grownBy W2 v.ownBlock := by
  obtain ⟨i0, hi0, hz0, hsz0, hby0⟩ := info_parts Tryz.infoTs; obtain ⟨v', w', hr, h2, h3, _, _⟩ := run_append_own_at (P := Tryz.prog) W base 26 26 42 i0 _ 1 24 Tryz.underlying26 hi0 hz0 hsz0 hby0 rfl qaa v k xs h ad m c news (by rw [Nat.mul_one]; exact hl) hs h1 qac qaa hbase; exact ⟨v', w', hr, h2, h3⟩
def putR : List (List ByteArray) → List ByteArray → List (List ByteArray)
  | [], L => [L]
  | y :: Ls, L => if pfxCmp y L < 0 then y :: putR Ls L else if pfxCmp y L = 0 then y :: Ls else L :: y :: Ls
theorem putR_at : ∀ {Ls : List (List ByteArray)} {L : List ByteArray} {k : Nat}, (∀ (j : Nat) (y : List ByteArray), j < k → Ls[j]? = some y → pfxCmp y L < 0) → k ≤ Ls.length → putR Ls L = Ls.take k ++ putR (Ls.drop k) L
  | Ls, L, 0, _, _ => by simp
  | [], _, k + 1, _, hk => by simp at hk
  | y :: Ls, L, k + 1, h, hk => by
    have h0 := h 0 y qaa rfl; rw [putR, if_pos h0, putR_at (k := k) (fun j z hj hz => h (j + 1) z qaa (by simpa using hz)) qde]; simp
def RowsPost (Ls : List (List ByteArray)) (w : World) (e : Ending) (w' : World) : Prop := ∃ p c, e = .returned (.slice (some p) Ls.length c) ∧ IsRows w' 0 w'.heap.size (some p) Ls.length c Ls ∧ Below w.heap.size w w'
theorem put_vals {W : World} {rs : List Value} {Ls : List (List ByteArray)} {L : List ByteArray} {k m d : Nat} {B : Option Addr} (h : RowsVal W rs Ls) (hL : IsTexts W 0 W.heap.size B m d L) (hk : k ≤ Ls.length) : RowsVal W (rs.take k ++ [.slice B m d] ++ rs.drop k) (Ls.take k ++ L :: Ls.drop k) := by
  have e : Ls.take k ++ L :: Ls.drop k = Ls.take k ++ [L] ++ Ls.drop k := qad; have hm : m = L.length := hL.1.symm; subst hm; rw [e]; refine ⟨by simp [h.1], fun i r L' hi hL' => ?_⟩; have hr := h.1; by_cases h1 : i < k
  · rw [List.append_assoc, List.getElem?_append_left qcn, List.getElem?_take, if_pos h1] at hi hL'
    exact h.2 i r L' hi hL'
  · by_cases h2 : i = k
    · subst h2
      rw [List.append_assoc, List.getElem?_append_right qcn, List.length_take] at hi hL'; rw [show i - min i rs.length = 0 by omega] at hi; rw [show i - min i Ls.length = 0 by omega] at hL'; simp at hi hL'; subst hi hL'; exact ⟨B, d, rfl, hL⟩
    · rw [List.getElem?_append_right (by rw [List.length_append, List.length_take, List.length_singleton]; omega), List.length_append, List.length_take, List.length_singleton, List.getElem?_drop] at hi hL'
      rw [show k + (i - (min k rs.length + 1)) = i - 1 by omega] at hi; rw [show k + (i - (min k Ls.length + 1)) = i - 1 by omega] at hL'; exact h.2 _ r L' hi hL'
end Go.Proofs.YtcigljngiemdeaaGreat
