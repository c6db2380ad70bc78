/-
  Texts of one claim, put together.
-/
import Derived.Test.YtcigljngiemdeaaGreatAo0
import Derived.Test.YtcigljngiemdeaaGreatAo33
import Derived.Test.YtcigljngiemdeaaGreatAo34
import Derived.Test.YtcigljngiemdeaaGreatAllS
import Derived.Test.YtcigljngiemdeaaGreatAo31
import Derived.Test.YtcigljngiemdeaaGreatAo1
import Derived.Test.YtcigljngiemdeaaGreatAo23
import Derived.Test.YtcigljngiemdeaaGreatRunMath
set_option maxRecDepth 100000
set_option maxHeartbeats 8000000
namespace Go.Proofs.YtcigljngiemdeaaGreat
open Go.RowKit
theorem own_empty1 (w : World) (t : TypeId) (B : Nat) (hB : B ≤ w.heap.size) : (w.alloc (.cells #[] t)).ownsRow B t 1 (.slice (some ⟨w.heap.size, 0, none⟩) 0 0) 0 [] :=
  ⟨rfl, .inr ⟨w.heap.size, 0, #[], rfl, hB, heap_alloc_new w _, nl _, by unfold maxLen; omega, rfl, rfl⟩⟩
theorem src_take {V W : World} {p : Addr} {rs : List Value} {k : Nat} (h : ∀ (j : Nat) (u : Value), rs[j]? = some u → p.block < V.heap.size ∧ V.cell? (p.add j) = some u) (hb : Below V.heap.size V W) : ∀ j u, (rs.take k)[j]? = some u → W.cell? (p.add j) = some u := by
  intro j u hu; rw [List.getElem?_take] at hu; split at hu
  · obtain ⟨h1, h2⟩ := h j u hu
    exact (hb.cell (by rw [block_add]; exact h1)).trans h2
  · cases hu
theorem src_drop {V W : World} {p : Addr} {rs : List Value} {k n c : Nat} {D : Option Addr} (h : ∀ (j : Nat) (u : Value), rs[j]? = some u → p.block < V.heap.size ∧ V.cell? (p.add j) = some u) (hl : rs.length = n) (hc : n ≤ c) (hD : (if c = k then some p else (some p).map (·.add (k * 1))) = D) (hb : Below V.heap.size V W) : ∃ q, D = some q ∧ ∀ j u, (rs.drop k)[j]? = some u → W.cell? (q.add j) = some u := by
  by_cases hk : c = k
  · rw [if_pos hk] at hD
    refine ⟨p, hD.symm, fun j u hu => ?_⟩; rw [List.getElem?_drop] at hu; have := (List.getElem?_eq_some_iff.1 hu).1; omega
  · rw [if_neg hk, Option.map_some] at hD
    refine ⟨_, hD.symm, fun j u hu => ?_⟩; rw [List.getElem?_drop] at hu; obtain ⟨h1, h2⟩ := h _ u hu; rw [Nat.mul_one, add_add]; exact (hb.cell (by rw [block_add]; exact h1)).trans h2
structure PlaceAt (w : World) (n : Nat) (Ls : List (List ByteArray)) (L : List ByteArray) (k : Nat) (W : World) : Prop where
  le : k ≤ n
  low : ∀ (j : Nat) (y : List ByteArray), j < k → Ls[j]? = some y → pfxCmp y L < 0
  gr : Below w.heap.size w W
theorem l5Put_any (p : Addr) (n c : Nat) (Ls : List (List ByteArray)) (B : Option Addr) (m d : Nat) (L : List ByteArray) (w : World) (h : IsRows w 0 w.heap.size (some p) n c Ls) (hL : IsTexts w 0 w.heap.size B m d L) (hn : n ≤ 1000000000000) :
    Calls Tryz.prog 86 #[.slice (some p) n c, .slice B m d] w (RowsPost (putR Ls L) w) := by
  have H := hid h; have HT := hid hL; have HN := hid h.1; have hcap := h.2.1; have hmax := h.2.2.1; unfold maxLen at hmax; clear h hL; go_enter Tryz.func86, Tryz.ntmps86; go_wp2; go_loopw [5] (fun i wr => ∃ k : Nat, i = .int .i64 (k : Int) ∧ PlaceAt w n Ls L k wr) (fun i _ => n - (intOf i).toNat)
  case atStart => exact ⟨0, rfl, ⟨Nat.zero_le _, fun j y hj => absurd hj (Nat.not_lt_zero _), Below.refl _ _⟩⟩
  case round =>
    obtain ⟨k, rfl, hP⟩ := hrel; have hk := hP.le; have HP := hid hP; clear hP; obtain ⟨D, hD⟩ : ∃ D, (if c = k then some p else (some p).map (·.add (k * 1))) = D := ⟨_, rfl⟩; have HD := hid hD; have hkI : (0 : Int) ≤ (k : Int) := qaa; have hknI : (k : Int) ≤ (n : Int) := qaa; have hkcI : (k : Int) ≤ (c : Int) := qaa; clear hD; by_cases hlt : k < n
    case' neg =>
      have hltI : ¬ (k : Int) < (n : Int) := qaa; have hat := putR_at (Ls := Ls) (L := L) (k := k) HP.out.low (by rw [HN.out]; exact hk); have hdn : Ls.drop k = [] := List.drop_eq_nil_of_le qcj; rw [hdn, putR] at hat; have HPUT := hid (show putR Ls L = Ls.take k ++ L :: Ls.drop k by rw [hat, hdn]); clear hat hdn; go_wp2_with fail; refine wp_region_held_drew (S := fun _ => True) qae trivial ?_; obtain ⟨V, hVe⟩ : ∃ V, wr.drew = V := ⟨_, rfl⟩; have HBV := hid (show Below w.heap.size w V by rw [← hVe]; exact HP.out.gr.drew); rw [hVe]; clear hVe
    case' pos =>
      have hltI : (k : Int) < (n : Int) := qaa; obtain ⟨q, y, hA, _, _, hy, A1, c1, z0, ty⟩ := (H.out.up RowE.stays HP.out.gr).at_ hlt; injection hA with hA; subst hA; rw [Nat.mul_one] at z0; have HY := hid hy; have TY := hid ty; clear hy ty; obtain ⟨i, hi⟩ : ∃ i, pfxCmp y L = i := ⟨_, rfl⟩; have HI := hid hi; clear hi; by_cases hneg : i < 0
      case pos =>
        go_wp2_with fail; refine (l5Cmp_any A1 B _ c1 m d y L _ TY.out (HT.out.up TextE.stays HP.out.gr)).mono ?_; rintro e w5 ⟨rfl, hb5⟩
        have HN5 := hid (show PlaceAt w n Ls L (k + 1) w5 from ⟨by omega, fun j z hj hz => by
          by_cases e : j = k
          · subst e; rw [HY.out] at hz; injection hz with hz; rw [← hz, HI.out]; exact hneg
          · exact HP.out.low j z qaa hz, belowThen HP.out.gr hb5⟩)
        clear hb5; rw [HI.out]; go_wp2_with fail; refine ⟨⟨k + 1, by go_num, HN5.out⟩, by simp [intOf]; omega⟩
      case' neg =>
        go_wp2_with fail; refine (l5Cmp_any A1 B _ c1 m d y L _ TY.out (HT.out.up TextE.stays HP.out.gr)).mono ?_; rintro e w5 ⟨rfl, hb5⟩; have z5 := (hb5.cell (World.block_lt_of_cell? _ _ z0)).trans z0; have TY5 := hid (TY.out.up TextE.stays hb5); have HW5 := hid (belowThen HP.out.gr hb5); clear hb5 z0; rw [HI.out]; go_wp2_with fail; refine (l5Cmp_any A1 B _ c1 m d y L _ TY5.out (HT.out.up TextE.stays HW5.out)).mono ?_; rintro e w6 ⟨rfl, hb6⟩; have HW6 := hid (belowThen HW5.out hb6); have hat := putR_at (Ls := Ls) (L := L) (k := k) HP.out.low (by rw [HN.out]; exact hk); obtain ⟨a1, a2⟩ := List.getElem?_eq_some_iff.1 HY.out
        rw [List.drop_eq_getElem_cons a1, a2, putR, HI.out, if_neg (Int.not_lt.2 hneg)] at hat; by_cases h0 : i = 0
        case pos =>
          rw [if_pos h0] at hat
          have hself : putR Ls L = Ls := by
            rw [hat]
            conv => rhs; rw [← List.take_append_drop k Ls, List.drop_eq_getElem_cons a1, a2]
          have HSE := hid hself; clear hat hself hb6 z5; rw [HI.out]; go_wp2_with fail; refine bodyPost_ret (v := .slice (some p) n c) (by simp [results, Tryz.results86, go_sem]) rfl ?_; rw [HSE.out]; exact ⟨p, c, by rw [HN.out], by rw [HN.out]; exact H.out.up RowE.stays HW6.out, HW6.out⟩
        case' neg =>
          rw [if_neg h0] at hat; have HPUT := hid (show putR Ls L = Ls.take k ++ L :: Ls.drop k by rw [hat, List.drop_eq_getElem_cons a1, a2]); clear hat hb6 z5 a1 a2; rw [HI.out]; go_wp2_with fail; refine wp_region_held_drew (S := fun _ => True) qae trivial ?_; obtain ⟨V, hVe⟩ : ∃ V, w6.drew = V := ⟨_, rfl⟩; have HBV := hid (show Below w.heap.size w V by rw [← hVe]; exact HW6.out.drew); rw [hVe]; clear hVe HW6 TY5 HW5 TY HY HI hneg h0
    all_goals
      clear hlt hltI HP; have hV := H.out.up RowE.stays HBV.out; obtain ⟨rs, hrl, hrv, hrc⟩ := rows_cells hV; have HRV := hid hrv; have HRC := hid (hrc p rfl); have HRL := hid hrl; clear hV hrv hrc hrl; intro hS_; refine tk 1 (.slice (some p) n c) hS_ ?_; refine tk 2 (.int .i64 (k : Int)) hS_ ?_; refine tk 3 (.slice (some p) k c) hS_ ?_; refine tk 5 (.slice B m d) hS_ ?_; refine tk 8 (.slice (some p) n c) hS_ ?_; refine tk 9 (.int .i64 (k : Int)) hS_ ?_; refine tk 10 (.slice D (n - k) (c - k)) hS_ ?_ (hy := Or.inl ⟨by rfl, fun w_ hSw_ => by rw [← HD.out]; go_simp⟩); have hrk : (rs.take k).length = k := by rw [List.length_take]; have := HRL.out; omega
      have hrd : (rs.drop k).length = n - k := by rw [List.length_drop]; have := HRL.out; omega
      have h1k : ∀ u ∈ rs.take k, u.oneCell' = true := fun u hu => HRV.out.one u (List.mem_of_mem_take hu); have h1d : ∀ u ∈ rs.drop k, u.oneCell' = true := fun u hu => HRV.out.one u (List.mem_of_mem_drop hu); refine rd2 0 6 (fun K_ hK_ => ?_) (fun K_ hK_ => ?_); rw [if_pos qab]; go_simp; refine hK_.out _ _ trivial fun hS_ => ?_; clear hK_
      (try simp only [Act.put, List.setIfInBounds_toArray, List.set_cons_zero, List.set_cons_succ])
      have o1 := own_empty1 V 42 V.heap.size (nl _); have b1 := below1 V (.cells #[] 42); obtain ⟨W1, q1⟩ : ∃ W1, V.alloc (.cells #[] 42) = W1 := ⟨_, rfl⟩; rw [q1] at o1 b1 ⊢; clear q1; refine rd2 4 6 (fun K_ hK_ => ?_) (fun K_ hK_ => ?_); rw [if_pos qab]; obtain ⟨v4, W3, hr, o4, g4⟩ := rows_add (c := c) o1 b1.size hrk (src_take HRC.out b1) h1k qaa; refine wp_append_run rfl rfl rfl rfl hr ?_; refine hK_.out _ _ trivial fun hS_ => ?_; clear hK_
      (try simp only [Act.put, List.setIfInBounds_toArray, List.set_cons_zero, List.set_cons_succ])
      have b3 := b1.grown g4 b1.size (fun j e => (o1.lt j e).1); refine rd1 6 fun K_ hK_ => ?_; go_simp; refine hK_.out _ _ trivial fun hS_ => ?_; clear hK_
      (try simp only [Act.put, List.setIfInBounds_toArray, List.set_cons_zero, List.set_cons_succ])
      have y4 := Blk.new W3 42 #[.slice B m d]; have b4 := below1 W3 (.cells #[.slice B m d] 42); obtain ⟨W4, q4⟩ : ∃ W4, W3.alloc (.cells #[.slice B m d] 42) = W4 := ⟨_, rfl⟩; obtain ⟨Y, hY⟩ : ∃ Y, W3.heap.size = Y := ⟨_, rfl⟩; have O4 := hid (ownsRow_up o4 (by rw [← q4]; exact below1 _ _ : Below W3.heap.size W3 W4)); rw [q4] at y4 b4 ⊢; have B4 := hid (belowThen b3 b4); rw [hY] at y4 ⊢; have Y4 := hid y4; clear o1 b1 hr o4 g4 b3 y4 b4 q4 hY
      rotate_left
      rw [if_pos qab]; go_simp; refine hK_.out _ _ trivial fun hS_ => ?_; clear hK_
      (try simp only [Act.put, List.setIfInBounds_toArray, List.set_cons_zero, List.set_cons_succ])
      have y2 := Blk.new W1 42 #[.slice B m d]; have b2 := below1 W1 (.cells #[.slice B m d] 42); have o2 := ownsRow_up o1 b2; have hne : W1.heap.size ≠ V.heap.size := by have h9 : V.heap.size < W1.heap.size := (o1.lt V.heap.size rfl).2; omega
      obtain ⟨W2, q2⟩ : ∃ W2, W1.alloc (.cells #[.slice B m d] 42) = W2 := ⟨_, rfl⟩; rw [q2] at y2 b2 o2 ⊢; obtain ⟨Y, hY⟩ : ∃ Y, W1.heap.size = Y := ⟨_, rfl⟩; have b12 := belowThen b1 b2; rw [hY] at y2 hne ⊢; clear q2 hY; refine rd1 4 fun K_ hK_ => ?_; obtain ⟨v4, W4, hr, o4, g4⟩ := rows_add (c := c) o2 b12.size hrk (src_take HRC.out b12) h1k qaa; refine wp_append_run rfl rfl rfl rfl hr ?_; refine hK_.out _ _ trivial fun hS_ => ?_; clear hK_
      (try simp only [Act.put, List.setIfInBounds_toArray, List.set_cons_zero, List.set_cons_succ])
      have O4 := hid o4; have B4 := hid (b12.grown g4 b12.size (fun j e => (o2.lt j e).1)); have Y4 := hid (y2.kept g4 qdu); clear o1 b1 y2 b2 o2 hne b12 hr o4 g4
      rotate_left
      rw [if_pos qab]; go_simp; refine hK_.out _ _ trivial fun hS_ => ?_; clear hK_
      (try simp only [Act.put, List.setIfInBounds_toArray, List.set_cons_zero, List.set_cons_succ])
      have y1 := Blk.new V 42 #[.slice B m d]; have b1 := below1 V (.cells #[.slice B m d] 42); have s1 : (V.alloc (.cells #[.slice B m d] 42)).heap.size = V.heap.size + 1 := qad; obtain ⟨W1, q1⟩ : ∃ W1, V.alloc (.cells #[.slice B m d] 42) = W1 := ⟨_, rfl⟩; rw [q1] at y1 b1 s1 ⊢; obtain ⟨Y, hY⟩ : ∃ Y, V.heap.size = Y := ⟨_, rfl⟩; rw [hY] at y1 ⊢; have S1 := hid s1; have HYY := hid hY; clear s1 hY; refine rd1 0 fun K_ hK_ => ?_; go_simp; refine hK_.out _ _ trivial fun hS_ => ?_; clear hK_
      (try simp only [Act.put, List.setIfInBounds_toArray, List.set_cons_zero, List.set_cons_succ])
      have o2 := own_empty1 W1 42 V.heap.size b1.size; have b2 := below1 W1 (.cells #[] 42); have y2 := y1.below b2; obtain ⟨W2, q2⟩ : ∃ W2, W1.alloc (.cells #[] 42) = W2 := ⟨_, rfl⟩; rw [q2] at o2 b2 y2 ⊢; have b12 := belowThen b1 b2; clear q2; refine rd1 4 fun K_ hK_ => ?_; obtain ⟨v4, W4, hr, o4, g4⟩ := rows_add (c := c) o2 b12.size hrk (src_take HRC.out b12) h1k qaa; refine wp_append_run rfl rfl rfl rfl hr ?_; refine hK_.out _ _ trivial fun hS_ => ?_; clear hK_
      (try simp only [Act.put, List.setIfInBounds_toArray, List.set_cons_zero, List.set_cons_succ])
      have O4 := hid o4; have B4 := hid (b12.grown g4 b12.size (fun j e => (o2.lt j e).1)); have Y4 := hid (y2.kept g4 (by have h8 := S1.out; have h9 := HYY.out; simp [Value.ownBlock]; omega)); clear y1 b1 S1 q1 HYY o2 b2 y2 b12 hr o4 g4
      all_goals
        refine rd1 7 fun K_ hK_ => ?_; obtain ⟨v7, W7, hr, o7, g7⟩ := rows_add (c := 1) (m := 1) (ad := ⟨Y, 0, none⟩) (news := [.slice B m d]) O4.out B4.out.size rfl (World.news_of_block Y4.out) (by intro u hu; simp at hu; subst hu; rfl) qaa; refine wp_append_run rfl rfl rfl rfl hr ?_; refine hK_.out _ _ trivial fun hS_ => ?_; clear hK_
        (try simp only [Act.put, List.setIfInBounds_toArray, List.set_cons_zero, List.set_cons_succ])
        have b7 := B4.out.grown g7 B4.out.size (fun j e => (O4.out.lt j e).1); obtain ⟨q, hq, hqs⟩ := src_drop (k := k) HRC.out HRL.out hcap HD.out b7; subst hq; refine rd1 11 fun K_ hK_ => ?_; obtain ⟨v9, W9, hr9, o9, g9⟩ := rows_add (c := c - k) o7 b7.size hrd hqs h1d qaa; refine wp_append_run rfl rfl rfl rfl hr9 ?_; refine hK_.out _ _ trivial fun hS_ => ?_; clear hK_
        (try simp only [Act.put, List.setIfInBounds_toArray, List.set_cons_zero, List.set_cons_succ])
        have b9 := b7.grown g9 b7.size (fun j e => (o7.lt j e).1); refine tk 12 v9 hS_ ?_; refine wpAnyH_done qae ?_ _; have hkl : k ≤ Ls.length := qcj
        have hval : RowsVal W9 ([] ++ rs.take k ++ [.slice B m d] ++ rs.drop k) (Ls.take k ++ L :: Ls.drop k) := by
          rw [List.nil_append]; exact put_vals (HRV.out.below b9) (HT.out.up TextE.stays (HBV.out.trans (b9.mono HBV.out.size))) hkl
        obtain ⟨R, hRe⟩ : ∃ R, Ls.take k ++ L :: Ls.drop k = R := ⟨_, rfl⟩; rw [hRe] at hval; obtain ⟨p9, c9, rfl, hrows⟩ := rows_own o9 hval (by rw [← hRe, List.length_append, List.length_cons, List.length_take, List.length_drop]; have := HN.out; omega) qaa; have HRE := hid hRe; have HR9 := hid hrows; have HB9 := hid (HBV.out.trans (b9.mono HBV.out.size)); clear hr o7 g7 b7 hqs hr9 o9 g9 b9 hkl hval hrows hRe; go_wp2; refine bodyPost_ret (v := .slice (some p9) R.length c9) (by simp [results, Tryz.results86, go_sem]) rfl ?_; rw [HPUT.out, HRE.out]; exact ⟨p9, c9, rfl, HR9.out, HB9.out⟩
def putAllR (Ls : List (List ByteArray)) : List (List ByteArray) := Ls.foldl putR []
theorem putR_len : ∀ (Ls : List (List ByteArray)) (L : List ByteArray), (putR Ls L).length ≤ Ls.length + 1
  | [], L => by rw [putR]; simp
  | y :: Ls, L => by
    have := putR_len Ls L; rw [putR]; split
    · simp; exact this
    · split <;> simp
theorem putAll_take {Ls : List (List ByteArray)} {k : Nat} {L : List ByteArray} (h : Ls[k]? = some L) : putAllR (Ls.take (k + 1)) = putR (putAllR (Ls.take k)) L := by
  unfold putAllR; rw [List.take_add_one, h, List.foldl_append]; rfl
theorem putAll_len : ∀ (k : Nat) (Ls : List (List ByteArray)), (putAllR (Ls.take k)).length ≤ k
  | 0, Ls => by simp [putAllR]
  | k + 1, Ls => by
    have ih := putAll_len k Ls
    cases h : Ls[k]? with
    | none =>
      rw [List.take_add_one, h]; simp
      omega
    | some L =>
      rw [putAll_take h]; have := putR_len (putAllR (Ls.take k)) L; omega
structure RowsSo (w : World) (Ls : List (List ByteArray)) (p : Addr) (c : Nat) (W : World) : Prop where
  rows : IsRows W 0 W.heap.size (some p) Ls.length c Ls
  gr : Below w.heap.size w W
theorem l5Ask_any (A : Option Addr) (n c : Nat) (xs : List At) (B : Option Addr) (m d : Nat) (qs : List Pt) (w : World) (h1 : IsAtoms w 0 w.heap.size A n c xs) (h2 : IsParts w 0 w.heap.size B m d qs) (hr : risesB xs = true) (h3 : ∀ q ∈ qs, q.2.2.length ≤ 3) (hm4 : m ≤ 4) (hn : n ≤ 300) (hv : (partsT [] qs).length ≤ 12) (hrb : (rowsB xs qs).length ≤ 1000000000000) :
    Calls Tryz.prog 38 #[.slice A n c, .slice B m d] w (RowsPost (putAllR ((rowsB xs qs).map (rowT (partsT [] qs)))) w) := by
  have HA := hid h1; have HB := hid h2; have HR := hid hr; have H3 := hid h3; have hpow : (n + 1) ^ m ≤ 8589934592 := Nat.le_trans (Nat.pow_le_pow_left (by omega : n + 1 ≤ 301) m) (Nat.le_trans (Nat.pow_le_pow_right qaa hm4) qal); have HPOW := hid hpow; clear h1 h2 hr h3 hpow; have hb1 := below1 w (.cells #[] 42); have h0 : IsRows (w.alloc (.cells #[] 42)) 0 (w.alloc (.cells #[] 42)).heap.size (some ⟨w.heap.size, 0, none⟩) 0 0 [] := ⟨rfl, nl _, by unfold maxLen; omega, fun h => absurd h (Nat.lt_irrefl _)⟩; obtain ⟨w1, hq1⟩ : ∃ w1, w.alloc (.cells #[] 42) = w1 := ⟨_, rfl⟩
  rw [hq1] at hb1 h0; have HQ1 := hid hq1; have HB1 := hid hb1; have H0 := hid h0; clear hq1 hb1 h0; go_enter Tryz.func38, Tryz.ntmps38; go_wp2_with (rw [HQ1.out]); refine (l5Vars_any B m d qs _ (HB.out.up PartE.stays HB1.out) H3.out qaa).mono ?_; rintro e w2 ⟨pv, cv, rfl, hvt, hb2⟩; obtain ⟨vs, hvs⟩ : ∃ vs, partsT [] qs = vs := ⟨_, rfl⟩; rw [hvs] at hv hvt ⊢; obtain ⟨nv, hnv⟩ : ∃ nv, vs.length = nv := ⟨_, rfl⟩; rw [hnv] at hv hvt ⊢; have HVT := hid hvt; have HNV := hid hnv; have HB2 := hid (belowThen HB1.out hb2); have HB12 := hid hb2
  have hcv := hvt.2.1; have hcv2 := hvt.2.2.1; unfold maxLen at hcv2; have HVS := hid hvs; clear hvt hnv hb2 hvs; go_wp2_with fail; refine (l4All_any A n c xs B m d qs _ (HA.out.up AtomE.stays HB2.out) (HB.out.up PartE.stays HB2.out) HR.out (fun q hq => by have := H3.out q hq; omega) qaa HPOW.out).mono ?_; rintro e w3 ⟨D, r, f, rfl, hbi, hb3⟩; obtain ⟨bs, hbs⟩ : ∃ bs, rowsB xs qs = bs := ⟨_, rfl⟩; rw [hbs] at hbi hrb ⊢; have hr1 := hbi.1; have hrf := hbi.2.1; have hrf2 := hbi.2.2.1; have hr9 : r ≤ 1000000000000 := qaa; unfold maxLen at hrf2; have HBI := hid hbi; have HR1 := hid hr1; have HB3 := hid (belowThen HB2.out hb3); have HB23 := hid hb3
  have HV3 := hid (HVT.out.up TextE.stays hb3); have HS3 := hid (show RowsSo w [] ⟨w.heap.size, 0, none⟩ 0 w3 from ⟨H0.out.up RowE.stays (belowThen HB12.out hb3), HB3.out⟩); have HBS := hid hbs; clear hbi hr1 hb3 hbs hrb; go_wp2_with fail; go_loopw [5, 8] (fun out i wr => ∃ (k nlx : Nat) (p : Addr) (c' : Nat), k ≤ r ∧ i = .int .i64 (k : Int) ∧ out = .slice (some p) nlx c' ∧ nlx = (putAllR ((bs.map (rowT vs)).take k)).length ∧ RowsSo w (putAllR ((bs.map (rowT vs)).take k)) p c' wr ∧ Below w3.heap.size w3 wr) (fun _ i _ => r - (intOf i).toNat)
  case atStart => exact ⟨0, 0, _, 0, Nat.zero_le _, rfl, rfl, by simp [putAllR], HS3.out, Below.refl _ _⟩
  case round =>
    obtain ⟨wo, hwo⟩ : ∃ wo : World, wo = wr := ⟨_, rfl⟩; subst hwo; obtain ⟨k, nlx, p, c', hk, rfl, rfl, hnl, hS, hB⟩ := hrel; obtain ⟨Ls, hLs⟩ : ∃ Ls, putAllR ((bs.map (rowT vs)).take k) = Ls := ⟨_, rfl⟩; have hnk := putAll_len k (bs.map (rowT vs)); rw [hLs] at hnl hS hnk; have HS := hid hS; have HW := hid hB; have HNL := hid hnl; have HLS := hid hLs; have HNK := hid hnk; clear hS hB hnl hLs hnk HS3; by_cases hlt : k < r
    · have hltI : (k : Int) < (r : Int) := qaa
      obtain ⟨q, b, hA, _, hqb, hb, ⟨A1, n1, c1, e1, t1⟩, ⟨A2, n2, c2, e2, t2⟩⟩ := (HBI.out.up BindE.stays HW.out).at_ hlt; subst hA; have HBK := hid hb; have T1 := hid t1; have T2 := hid t2; have E1 := hid e1; have E2 := hid e2; have o4 := own_empty1 wo 9 wo.heap.size (nl _); have b4 := below1 wo (.cells #[] 9); obtain ⟨w4, hq4⟩ : ∃ w4, wo.alloc (.cells #[] 9) = w4 := ⟨_, rfl⟩; rw [hq4] at o4 b4; have HQ4 := hid hq4; have O4 := hid o4; have B4 := hid b4; clear hq4 o4 b4 hb t1 t2 e1 e2; go_wp2_with (rw [HQ4.out]); go_loopw [9, 10] (fun v i W => ∃ j : Nat, j ≤ nv ∧ i = .int .i64 (j : Int) ∧ W.ownsRow wo.heap.size 9 1 v j (tcl (rowT (vs.take j) b)) ∧ Below wo.heap.size wo W) (fun _ i _ => nv - (intOf i).toNat)
      case atStart => exact ⟨0, Nat.zero_le _, rfl, O4.out, B4.out⟩
      case round =>
        obtain ⟨j, hj, rfl, hO, hBW⟩ := hrel; obtain ⟨A9, c9, rfl, hc9, hm9⟩ := ownsRow_form hO; have HO := hid hO; have HBW := hid hBW; clear hO hBW; by_cases hjt : j < nv
        · have hjtI : (j : Int) < (nv : Int) := qaa
          obtain ⟨pv', x, hpv, _, hpb, hx, z0⟩ := ((HV3.out.up TextE.stays HW.out).up TextE.stays HBW.out).at_ hjt; injection hpv with hpv; subst hpv; rw [Nat.mul_one] at z0; have z0' : wr.cell? (pv.add j) = some (.string x) := z0; have HX := hid hx; have y1 := (HBW.out.cell (by rw [block_add]; exact hqb)).trans E1.out; have y2 := (HBW.out.cell (by show (q.add (k * 2)).block < _; rw [block_add]; exact hqb)).trans E2.out; have hd : Below wr.heap.size wr wr.drew := (Below.refl _ _).drew; have hqW : q.block < wr.heap.size := Nat.lt_of_lt_of_le hqb HBW.out.size
          have sw : ∀ U : World, Below wr.heap.size wr U → U.cell? (q.add (k * 2)) = some (.slice A1 n1 c1) ∧ U.cell? ⟨(q.add (k * 2)).block, (q.add (k * 2)).off + 1, none⟩ = some (.slice A2 n2 c2) ∧ U.cell? (pv.add j) = some (.string x) := fun U hU =>
            ⟨(hU.cell (by rw [block_add]; exact hqW)).trans y1, (hU.cell (by show (q.add (k * 2)).block < _; rw [block_add]; exact hqW)).trans y2, (hU.cell qbb).trans z0'⟩
          have SW := hid sw; have HD := hid hd; clear sw y1 y2 z0 z0' hx hd; go_wp2_with fail; refine wp_region_held_drew (S := fun U => U.cell? (q.add (k * 2)) = some (.slice A1 n1 c1) ∧ U.cell? ⟨(q.add (k * 2)).block, (q.add (k * 2)).off + 1, none⟩ = some (.slice A2 n2 c2) ∧ U.cell? (pv.add j) = some (.string x)) qae (SW.out _ HD.out) ?_; intro hS_; refine tk 0 (.slice (some q) r f) hS_ ?_; refine tk 1 (.int .i64 (k : Int)) hS_ ?_; refine tk 2 (.pointer (some (q.add (k * 2)))) hS_ ?_; refine tk 3 (.agg #[.slice A1 n1 c1, .slice A2 n2 c2]) hS_ ?_; refine tk 4 (.slice (some pv) nv cv) hS_ ?_; refine tk 5 (.int .i64 (j : Int)) hS_ ?_
          refine tk 6 (.pointer (some (pv.add j))) hS_ ?_; refine tk 7 (.string x) hS_ ?_; refine rd1 8 fun K_ hK_ => ?_; go_simp; go_at_call 85; refine (l4Get_any A1 A2 n1 c1 n2 c2 b x _ ((T1.out.up TextE.stays HBW.out).up TextE.stays HD.out) ((T2.out.up TextE.stays HBW.out).up TextE.stays HD.out)).mono ?_; rintro e w5 ⟨rfl, hb5⟩; have hb5' := belowThen HD.out hb5; refine hK_.out _ _ (SW.out _ hb5') fun hS_ => ?_; clear hK_
          (try simp only [Act.put, List.setIfInBounds_toArray, List.set_cons_zero, List.set_cons_succ])
          refine tk 9 (.tuple #[.string ((getW b x).getD ⟨#[]⟩), .bool (getW b x).isSome]) hS_ ?_; refine tk 10 (.string ((getW b x).getD ⟨#[]⟩)) hS_ ?_; refine tk 11 (.bool (getW b x).isSome) hS_ ?_; refine tk 12 (.string ((getW b x).getD ⟨#[]⟩)) hS_ ?_; refine tk 13 (.bool (getW b x).isSome) hS_ ?_; refine wpAnyH_done qae ?_ _; have hsz := HBW.out.size; have hw5 := below1 w5 (.cells #[.string (wordT b (true, x))] 9); have hb6 := belowThen hb5' hw5; have hjl : j = (rowT (vs.take j) b).length := by unfold rowT; rw [List.length_map, List.length_take]; have := HNV.out; omega
          obtain ⟨g2, m2, cap, W2, hr, hown, hgr⟩ := texts_more (s := wordT b (true, x)) HO.out hjl hsz hb6 (Blk.new w5 _ _) qaa; have HRU := hid hr; have HN := hid (show W2.ownsRow wo.heap.size 9 1 (.slice (some ⟨g2, 0, none⟩) m2 cap) (j + 1) (tcl (rowT (vs.take (j + 1)) b)) ∧ Below wo.heap.size wo W2 from ⟨by rw [rowT_take HX.out]; exact hown, (belowThen HBW.out hb6).grown hgr (belowThen HBW.out hb6).size (fun j e => (HO.out.lt j e).1)⟩); clear hr hown hgr hb6 hw5 hb5 hb5' hjl hS_; have hwt : (getW b x).getD ⟨#[]⟩ = wordT b (true, x) := rfl; rw [hwt]; obtain ⟨s, hs⟩ : ∃ s, wordT b (true, x) = s := ⟨_, rfl⟩
          rw [hs] at HRU ⊢; clear hwt hs; go_wp2_with (at_builtin; refine wpList_append_at rfl rfl rfl rfl rfl HRU.out ?_); refine ⟨⟨j + 1, by omega, by go_num, HN.out.1, HN.out.2⟩, by simp [intOf]; omega⟩
        · have hjn : j = nv := qaa
          subst hjn; have hO := HO.out; rw [List.take_of_length_le (by have := HNV.out; omega)] at hO; have hln : (rowT vs b).length = j := by unfold rowT; rw [List.length_map]; exact HNV.out
          have hO' : wr.ownsRow wo.heap.size 9 1 (.slice A9 j c9) (rowT vs b).length (tcl (rowT vs b)) := by rw [hln]; exact hO
          obtain ⟨A8, c8, e8, t8⟩ := texts_any hO'; rw [hln] at e8 t8; injection e8 with e8 _ e9; subst e8 e9; have T8 := hid t8; clear hO hO' t8; go_wp2_with fail; have hnk := HNK.out; have hnl := HNL.out; have hput := l5Put_any p nlx c' Ls A9 j c9 (rowT vs b) wr (by rw [HNL.out]; exact HS.out.rows.up RowE.stays HBW.out) T8.out qaa; refine hput.mono ?_; rintro e w8 ⟨p8, c8, rfl, hr8, hb8⟩
          have hnext : putAllR ((bs.map (rowT vs)).take (k + 1)) = putR Ls (rowT vs b) := by
            rw [← HLS.out]; exact putAll_take (by rw [List.getElem?_map, HBK.out]; rfl)
          obtain ⟨Q, hQ⟩ : ∃ Q, putR Ls (rowT vs b) = Q := ⟨_, rfl⟩; rw [hQ] at hr8 hnext ⊢; have HN8 := hid hnext; have HR8 := hid hr8; have HB8 := hid (belowThen HBW.out hb8); clear hput hnk hnl hr8 hb8 hQ hnext hln; go_wp2_with fail; refine ⟨⟨k + 1, _, p8, c8, by omega, by go_num, rfl, by rw [HN8.out], by rw [HN8.out]; exact ⟨HR8.out, belowThen HS.out.gr HB8.out⟩, belowThen HW.out HB8.out⟩, by simp [intOf]; omega⟩
    · have hkr : k = r := qaa
      subst hkr
      have hend : putAllR (bs.map (rowT vs)) = Ls := by
        rw [← HLS.out, List.take_of_length_le (by rw [List.length_map]; have := HR1.out; omega)]
      have HE := hid hend; clear hend; go_wp2_with fail; refine bodyPost_ret (v := .slice (some p) nlx c') (by simp [results, Tryz.results38, go_sem]) rfl ?_; rw [HVS.out, HBS.out, HE.out]; exact ⟨p, c', by rw [HNL.out], HS.out.rows, HS.out.gr⟩
def AscR (Ls : List (List ByteArray)) : Prop := Ls.Pairwise fun x y => keyR x < keyR y
theorem asc_ext : ∀ {l l' : List (List ByteArray)}, AscR l → AscR l' → (∀ x, x ∈ l ↔ x ∈ l') → l = l'
  | [], [], _, _, _ => rfl
  | [], y :: l', _, _, h => absurd ((h y).2 qad) qad
  | x :: l, [], _, _, h => absurd ((h x).1 qad) qad
  | x :: l, y :: l', h1, h2, h => by
    obtain ⟨a1, a2⟩ := List.pairwise_cons.1 h1; obtain ⟨b1, b2⟩ := List.pairwise_cons.1 h2
    have hxy : x = y := by
      rcases List.mem_cons.1 ((h x).1 qad) with e | e
      · exact e
      · rcases List.mem_cons.1 ((h y).2 qad) with e' | e'
        · exact e'.symm
        · exact absurd (List.lt_trans (b1 x e) (a1 y e')) (List.lt_irrefl _)
    subst hxy
    have ht : ∀ z, z ∈ l ↔ z ∈ l' := fun z => by
      constructor
      · intro hz
        rcases List.mem_cons.1 ((h z).1 (List.mem_cons_of_mem _ hz)) with e | e
        · subst e; exact absurd (a1 z hz) (List.lt_irrefl _)
        · exact e
      · intro hz
        rcases List.mem_cons.1 ((h z).2 (List.mem_cons_of_mem _ hz)) with e | e
        · subst e; exact absurd (b1 z hz) (List.lt_irrefl _)
        · exact e
    rw [asc_ext a2 b2 ht]
theorem putR_asc {m : Nat} : ∀ {Ls : List (List ByteArray)} {L : List ByteArray}, AscR Ls → (∀ y ∈ Ls, y.length = m) → L.length = m → AscR (putR Ls L) ∧ ∀ x, x ∈ putR Ls L ↔ x = L ∨ x ∈ Ls
  | [], L, _, _, _ => by rw [putR]; exact ⟨by unfold AscR; simp, by simp⟩
  | y :: Ls, L, h, hl, hL => by
    obtain ⟨a1, a2⟩ := List.pairwise_cons.1 h; have hy := hl y qad; obtain ⟨i1, i2⟩ := putR_asc (L := L) a2 (fun z hz => hl z (List.mem_cons_of_mem _ hz)) hL; have e := pfx_row (x := y) (y := L) qaa; rw [putR]; split
    · rename_i hlt
      rw [e] at hlt; have hk := (rowCmp_lt y L).1 hlt; refine ⟨List.pairwise_cons.2 ⟨fun z hz => ?_, i1⟩, fun x => by rw [List.mem_cons, i2, List.mem_cons]; constructor <;> (rintro (h | h | h) <;> simp [h])⟩; rcases (i2 z).1 hz with rfl | hz'
      · exact hk
      · exact a1 z hz'
    · rename_i hlt
      split
      · rename_i h0
        have heq : y = L := by
          rw [e] at h0 hlt; refine keyR_inj (List.le_antisymm (List.not_lt.1 fun h9 => ?_) (List.not_lt.1 fun h9 => ?_))
          · have h8 := (rowCmp_lt L y).2 h9
            rw [← pfx_row qaa] at h8
            have : rowCmp L y = 0 := by
              have h7 : ∀ {x z : List ByteArray}, rowCmp x z = 0 → x.length = z.length → rowCmp z x = 0 := by
                intro x
                induction x with
                | nil => intro z h7 hl'; cases z with
                  | nil => rfl
                  | cons _ _ => simp at hl'
                | cons a x ih =>
                  intro z h7 hl'
                  cases z with
                  | nil => simp at hl'
                  | cons b z =>
                    rw [rowCmp] at h7 ⊢; by_cases hab : textCmp a b = 0
                    · have hba : textCmp b a = 0 := by have := textCmp_anti a b; omega
                      rw [if_pos hab] at h7; rw [if_pos hba]; exact ih h7 (by simpa using hl')
                    · rw [if_neg hab] at h7; exact absurd h7 hab
              exact h7 h0 qaa
            rw [pfx_row qaa] at h8; omega
          · have h8 := (rowCmp_lt y L).2 h9
            omega
        subst heq; exact ⟨h, fun x => by rw [List.mem_cons]; constructor <;> (intro h; rcases h with h | h <;> simp [h])⟩
      · rename_i h0
        have hlt2 : keyR L < keyR y := by
          rw [e] at hlt h0; refine Classical.byContradiction fun h9 => ?_; have h8 : ¬ keyR y < keyR L := fun h => hlt ((rowCmp_lt y L).2 h); have : y = L := keyR_inj (List.le_antisymm (List.not_lt.1 h9) (List.not_lt.1 h8)); subst this
          have h6 : ∀ x : List ByteArray, rowCmp x x = 0 := by
            intro x
            induction x with
            | nil => rfl
            | cons a x ih => rw [rowCmp, if_pos ((textCmp_eq a a).2 rfl), ih]
          exact h0 (h6 y)
        exact ⟨List.pairwise_cons.2 ⟨fun z hz => by
          rcases List.mem_cons.1 hz with rfl | hz'
          · exact hlt2
          · exact List.lt_trans hlt2 (a1 z hz'), h⟩, fun x => by rw [List.mem_cons]⟩
theorem putAll_asc {m : Nat} : ∀ {Ls out : List (List ByteArray)}, AscR out → (∀ y ∈ out, y.length = m) → (∀ y ∈ Ls, y.length = m) → AscR (Ls.foldl putR out) ∧ ∀ x, x ∈ Ls.foldl putR out ↔ x ∈ Ls ∨ x ∈ out
  | [], out, h, _, _ => ⟨h, by simp⟩
  | L :: Ls, out, h, ho, hl => by
    obtain ⟨i1, i2⟩ := putR_asc (L := L) h ho (hl L qad)
    obtain ⟨j1, j2⟩ := putAll_asc (Ls := Ls) (out := putR out L) i1 (fun y hy => by
      rcases (i2 y).1 hy with rfl | hy
      · exact hl _ qad
      · exact ho y hy) (fun y hy => hl y (List.mem_cons_of_mem _ hy))
    refine ⟨j1, fun x => ?_⟩; rw [List.foldl_cons, j2, i2, List.mem_cons]; constructor
    · rintro (h | h | h) <;> simp [h]
    · rintro ((h | h) | h) <;> simp [h]
theorem sortR_asc {Ls : List (List ByteArray)} (hd : Ls.Nodup) : AscR (sortR Ls) := by
  have hs := row_swo (fun x : List ByteArray => x); have e : ∀ x y : List ByteArray, Go.Proofs.ltOf rowCmp x y = decide (keyR x < keyR y) := ltOf_row
  have h1 : (sortR Ls).Pairwise fun x y => (!(Go.Proofs.ltOf rowCmp) y x) = true := by
    unfold sortR; refine List.pairwise_mergeSort (fun a b c hab hbc => ?_) (fun a b => ?_) Ls
    · rw [e] at *
      simp only [Bool.not_eq_true', decide_eq_false_iff_not] at *; exact List.not_lt.2 (List.le_trans (List.not_lt.1 hab) (List.not_lt.1 hbc))
    · rw [e, e]
      by_cases h : keyR b < keyR a
      · have h9 : ¬ keyR a < keyR b := fun h' => List.lt_irrefl _ (List.lt_trans h h')
        simp [h9]
      · simp [h]
  have h2 : (sortR Ls).Nodup := (List.mergeSort_perm _ _).nodup_iff.2 hd; refine (h1.and h2).imp fun {x y} ⟨ha, hb⟩ => ?_; rw [e] at ha; simp only [Bool.not_eq_true', decide_eq_false_iff_not] at ha; exact Classical.byContradiction fun h9 => hb (keyR_inj (List.le_antisymm (List.not_lt.1 ha) (List.not_lt.1 h9)))
theorem putAll_sort {m : Nat} {Ls : List (List ByteArray)} (hd : Ls.Nodup) (hl : ∀ y ∈ Ls, y.length = m) : putAllR Ls = sortR Ls := by
  obtain ⟨j1, j2⟩ := putAll_asc (m := m) (Ls := Ls) (out := []) List.Pairwise.nil qad hl; refine asc_ext j1 (sortR_asc hd) fun x => ?_; rw [show x ∈ putAllR Ls ↔ x ∈ Ls ∨ x ∈ [] from j2 x]; unfold sortR; rw [(List.mergeSort_perm _ _).mem_iff]; simp
theorem tell_mem {list : List At} (hl : WordsAll list) : ∀ {ps : List Pt} {b b' : Bd}, WfP ps b → NotsLast ps → b' ∈ tellB list ps b →
    ExtB b b' ∧ (∀ q ∈ ps, q.1 = false → ∀ x, (true, x) ∈ q.2.2 → getW b' x ≠ none) ∧ ∀ s, ExtS s b' → ∀ q ∈ ps, SoS list s q
  | [], b, b', _, _, h => by
    rw [tellB] at h; rw [List.mem_singleton.1 h]
    exact ⟨fun _ _ h => h, fun q hq => by simp at hq, fun s _ q hq => by simp at hq⟩
  | q :: ps, b, b', hw, hn, h => by
    obtain ⟨n1, n2⟩ := List.pairwise_cons.1 hn; rw [tellB] at h; split at h
    · rename_i hwh
      split at h
      · rename_i hso
        obtain ⟨e1, e2, e3⟩ := tell_mem hl (hw.tail hwh) n2 h; have hb : ∀ x, (true, x) ∈ q.2.2 → getW b x ≠ none := fun x hx h' => whole_iff.1 hwh x ⟨hx, h'⟩; refine ⟨e1, fun r hr hr1 x hx => ?_, fun s hs r hr => ?_⟩
        · rcases List.mem_cons.1 hr with e | e
          · subst e
            intro h'; exact hb x hx (e1.none h')
          · exact e2 r e hr1 x hx
        · rcases List.mem_cons.1 hr with e | e
          · subst e
            unfold SoS; rw [fill_ext (hs.up e1) hb]; exact hso
          · exact e3 s hs r e
      · simp at h
    · rename_i hwh
      have hq : q.1 = false := by
        cases hq : q.1 with
        | false => rfl
        | true =>
          exact absurd (hw.nots (fun r hr => by
            rcases List.mem_cons.1 hr with e | e
            · subst e; exact hq
            · exact n1 r e hq) q qad) hwh
      obtain ⟨c, hc, h⟩ := List.mem_flatMap.1 h; unfold fitsL at hc; obtain ⟨f, hf, he⟩ := List.mem_filterMap.1 hc; obtain ⟨_, M⟩ := matchA_some (hl f hf) he; obtain ⟨e1, e2, e3⟩ := tell_mem hl (hw.on (hl f hf) he) n2 h; have hcb : ∀ x, (true, x) ∈ q.2.2 → getW b' x ≠ none := fun x hx h' => M.all x hx (e1.none h'); refine ⟨fun x v hx => e1 x v (M.ext x v hx), fun r hr hr1 x hx => ?_, fun s hs r hr => ?_⟩
      · rcases List.mem_cons.1 hr with e | e
        · subst e; exact hcb x hx
        · exact e2 r e hr1 x hx
      · rcases List.mem_cons.1 hr with e | e
        · subst e
          unfold SoS; rw [hq, fill_ext (hs.up e1) M.all, matchA_fill (hl f hf) he]; exact ⟨fun h => Bool.noConfusion h, fun h => absurd hf h⟩
        · exact e3 s hs r e
theorem tell_has {list : List At} (hl : WordsAll list) {s : WordsOf} : ∀ {ps : List Pt} {b : Bd}, WfP ps b → NotsLast ps → ExtS s b → (∀ q ∈ ps, SoS list s q) → ∃ b' ∈ tellB list ps b, ExtS s b'
  | [], b, _, _, hs, _ => ⟨b, by simp [tellB], hs⟩
  | q :: ps, b, hw, hn, hs, ha => by
    obtain ⟨n1, n2⟩ := List.pairwise_cons.1 hn; have hq0 := ha q qad; rw [tellB]; split
    · rename_i hwh
      have hb : ∀ x, (true, x) ∈ q.2.2 → getW b x ≠ none := fun x hx h' => whole_iff.1 hwh x ⟨hx, h'⟩; rw [if_pos (by unfold SoB; unfold SoS at hq0; rwa [fill_ext hs hb] at hq0)]; exact tell_has hl (hw.tail hwh) n2 hs fun r hr => ha r qch
    · rename_i hwh
      have hq : q.1 = false := by
        cases hq : q.1 with
        | false => rfl
        | true =>
          exact absurd (hw.nots (fun r hr => by
            rcases List.mem_cons.1 hr with e | e
            · subst e; exact hq
            · exact n1 r e hq) q qad) hwh
      have hin : fillS s q.2 ∈ list := by
        unfold SoS at hq0; rw [hq] at hq0; exact Classical.byContradiction fun hn => by have := hq0.2 hn; cases this
      obtain ⟨c, hc⟩ := matchA_of (a := q.2) hs; obtain ⟨_, M⟩ := matchA_some (hl _ hin) hc; obtain ⟨b', h1, h2⟩ := tell_has hl (hw.on (hl _ hin) hc) n2 (M.sg s hs rfl) fun r hr => ha r qch; exact ⟨b', List.mem_flatMap.2 ⟨c, by unfold fitsL; exact List.mem_filterMap.2 ⟨_, hin, hc⟩, h1⟩, h2⟩
theorem halves_mem (qs : List Pt) (q : Pt) : q ∈ musts qs ++ notsOf qs ↔ q ∈ qs := by
  unfold musts notsOf; rw [List.mem_append, List.mem_filter, List.mem_filter]; cases q.1 <;> simp
theorem halves_last (qs : List Pt) : NotsLast (musts qs ++ notsOf qs) := by
  unfold NotsLast; refine List.pairwise_append.2 ⟨List.Pairwise.imp_of_mem (R := fun _ _ => True) (fun {a b} ha _ _ h => ?_) (List.pairwise_of_forall fun _ _ => trivial), List.Pairwise.imp_of_mem (R := fun _ _ => True) (fun {a b} _ hb _ _ => ?_) (List.pairwise_of_forall fun _ _ => trivial), fun a ha b hb _ => ?_⟩
  · have := (List.mem_filter.1 ha).2
    rw [h] at this; simp at this
  · have := (List.mem_filter.1 hb).2; simpa using this
  · have := (List.mem_filter.1 hb).2; simpa using this
theorem ext_nil (s : WordsOf) : ExtS s [] := fun x v h => by simp [getW] at h
theorem words_of (b : Bd) : ∃ s : WordsOf, ExtS s b := ⟨fun x => (getW b x).getD ByteArray.empty, fun x v h => by simp only; rw [h]; rfl⟩
noncomputable instance (list : List At) (ps : List Pt) (b : Bd) : Decidable (Sat list ps b) := Classical.propDecidable _
theorem inRow_ext : ∀ {l l' : List ByteArray}, InRow l → InRow l' → (∀ x, x ∈ l ↔ x ∈ l') → l = l'
  | [], [], _, _, _ => rfl
  | [], y :: l', _, _, h => absurd ((h y).2 qad) qad
  | x :: l, [], _, _, h => absurd ((h x).1 qad) qad
  | x :: l, y :: l', h1, h2, h => by
    obtain ⟨a1, a2⟩ := List.pairwise_cons.1 h1; obtain ⟨b1, b2⟩ := List.pairwise_cons.1 h2; have irr : ∀ z, ltT z z = true → False := fun z hz => by rw [ltT_irr] at hz; cases hz
    have hxy : x = y := by
      rcases List.mem_cons.1 ((h x).1 qad) with e | e
      · exact e
      · rcases List.mem_cons.1 ((h y).2 qad) with e' | e'
        · exact e'.symm
        · exact (irr x (ltT_trans (a1 y e') (b1 x e))).elim
    subst hxy
    have ht : ∀ z, z ∈ l ↔ z ∈ l' := fun z => by
      constructor
      · intro hz
        rcases List.mem_cons.1 ((h z).1 (List.mem_cons_of_mem _ hz)) with e | e
        · subst e; exact (irr _ (a1 z hz)).elim
        · exact e
      · intro hz
        rcases List.mem_cons.1 ((h z).2 (List.mem_cons_of_mem _ hz)) with e | e
        · subst e; exact (irr _ (b1 z hz)).elim
        · exact e
    rw [inRow_ext a2 b2 ht]
theorem mem_varsOf {ts : List Tm} {x : ByteArray} : x ∈ varsOf ts ↔ (true, x) ∈ ts := by
  unfold varsOf; rw [List.mem_map]; constructor
  · rintro ⟨t, ht, rfl⟩
    obtain ⟨h1, h2⟩ := List.mem_filter.1 ht; have : t = (true, t.2) := Prod.ext h2 rfl; rw [← this]; exact h1
  · intro h
    exact ⟨(true, x), List.mem_filter.2 ⟨h, rfl⟩, rfl⟩
theorem mem_partsT {qs : List Pt} {x : ByteArray} : x ∈ partsT [] qs ↔ ∃ q ∈ qs, (true, x) ∈ q.2.2 := by
  rw [partsT_all, mem_puts, List.mem_flatMap]; constructor
  · rintro (⟨q, hq, h⟩ | h)
    · exact ⟨q, hq, mem_varsOf.1 h⟩
    · simp at h
  · rintro ⟨q, hq, h⟩
    exact .inl ⟨q, hq, mem_varsOf.2 h⟩
theorem mem_mvars {qs : List Pt} {x : ByteArray} : x ∈ mvars qs ↔ ∃ q ∈ qs, q.1 = false ∧ (true, x) ∈ q.2.2 := by
  unfold mvars musts; rw [List.mem_flatMap]; constructor
  · rintro ⟨q, hq, h⟩
    obtain ⟨h1, h2⟩ := List.mem_filter.1 hq; exact ⟨q, h1, by simpa using h2, mem_varsOf.1 h⟩
  · rintro ⟨q, hq, h1, h2⟩
    exact ⟨q, List.mem_filter.2 ⟨hq, by rw [h1]; rfl⟩, mem_varsOf.2 h2⟩
theorem parts_inRow (qs : List Pt) : InRow (partsT [] qs) := by rw [partsT_all]; exact InRow.puts List.Pairwise.nil
theorem ask_iff {qs : List Pt} : askB qs = true ↔ (1 ≤ qs.length ∧ qs.length ≤ 4) ∧ (∀ q ∈ qs, atomB q.2 = true) ∧ ∀ x, (∃ q ∈ qs, (true, x) ∈ q.2.2) → ∃ p ∈ qs, p.1 = false ∧ (true, x) ∈ p.2.2 := by
  constructor
  · intro h
    obtain ⟨h1, h2⟩ := askB_ok h; refine ⟨⟨?_, h2⟩, fun q hq => List.all_eq_true.1 h1 q hq, fun x hx => mem_mvars.1 ((tight_all h x).1 (mem_partsT.2 hx))⟩; unfold askB at h; simp only [Bool.and_eq_true, decide_eq_true_eq] at h; exact h.1.1
  · rintro ⟨⟨h1, h2⟩, h3, h4⟩
    unfold askB; simp only [Bool.and_eq_true, decide_eq_true_eq]; refine ⟨⟨h1, List.all_eq_true.2 h3, h2⟩, ?_⟩
    have e : partsT [] (musts qs) = partsT [] qs := inRow_ext (parts_inRow _) (parts_inRow _) fun x => by
      rw [mem_partsT, mem_partsT]; constructor
      · rintro ⟨q, hq, h⟩
        exact ⟨q, (List.mem_filter.1 hq).1, h⟩
      · intro h
        obtain ⟨p, hp, hp1, hp2⟩ := h4 x h; exact ⟨p, List.mem_filter.2 ⟨hp, by rw [hp1]; rfl⟩, hp2⟩
    unfold tightB; rw [decide_eq_true_eq, e]
    have e2 : partsT (varsT [] (asVars (partsT [] qs))) qs = partsT [] qs := inRow_ext (by rw [partsT_all]; refine InRow.puts ?_; unfold varsT; exact InRow.puts List.Pairwise.nil) (parts_inRow _) fun x => by
      rw [partsT_all, mem_puts]; unfold varsT; rw [mem_puts, varsOf_as]; constructor
      · rintro (h | h | h)
        · obtain ⟨q, hq, h⟩ := List.mem_flatMap.1 h
          exact mem_partsT.2 ⟨q, hq, mem_varsOf.1 h⟩
        · exact h
        · simp at h
      · intro h; exact .inr (.inl h)
    rw [e2]
theorem mem_askVars {qs : List Pt} (h : askB qs = true) {x : ByteArray} : x ∈ askVarsB qs ↔ ∃ q ∈ qs, (true, x) ∈ q.2.2 := by
  rw [(ask_vars h).1, mem_partsT]
theorem askVars_inRow (qs : List Pt) : InRow (askVarsB qs) := by
  unfold askVarsB; split
  · exact parts_inRow qs
  · exact List.Pairwise.nil
theorem askRows_eq {list : List At} {body : List Pt} (hf : factsB 300 list = true) (hq : askB body = true) : askRowsB list body = sortR ((rowsB list body).map (rowT (askVarsB body))) := by
  unfold askRowsB; rw [hf, hq]; rfl
theorem rows_mem {list : List At} {body : List Pt} (hf : factsB 300 list = true) (hq : askB body = true) {L : List ByteArray} : L ∈ askRowsB list body ↔ ∃ s : WordsOf, (∀ q ∈ body, SoS list s q) ∧ L = (askVarsB body).map s := by
  obtain ⟨_, hl, hd, _⟩ := facts_ok hf; have hwf := (ask_facts hq).2.2.2; have hw : WfP (musts body ++ notsOf body) [] := hwf.same fun q => (halves_mem body q).symm
  have hbound : ∀ b ∈ tellB list (musts body ++ notsOf body) [], ∀ x ∈ askVarsB body, getW b x ≠ none := fun b hb x hx => by
    obtain ⟨p, hp, h1, h2⟩ := (ask_iff.1 hq).2.2 x ((mem_askVars hq).1 hx); exact (tell_mem hl hw (halves_last _) hb).2.1 p ((halves_mem _ p).2 hp) h1 x h2
  have hrow : ∀ b ∈ tellB list (musts body ++ notsOf body) [], ∀ s, ExtS s b → rowT (askVarsB body) b = (askVarsB body).map s := fun b hb s hs => by
    unfold rowT; refine List.map_congr_left fun x hx => ?_
    cases hg : getW b x with
    | none => exact absurd hg (hbound b hb x hx)
    | some v => exact (hs x v hg).symm
  rw [askRows_eq hf hq]; unfold sortR; rw [(List.mergeSort_perm _ _).mem_iff, ← tell_rows hl hd hwf, List.mem_map]; constructor
  · rintro ⟨b, hb, rfl⟩
    obtain ⟨s, hs⟩ := words_of b; exact ⟨s, fun q hq' => (tell_mem hl hw (halves_last _) hb).2.2 s hs q ((halves_mem _ q).2 hq'), hrow b hb s hs⟩
  · rintro ⟨s, hs, rfl⟩
    obtain ⟨b, hb, he⟩ := tell_has hl hw (halves_last _) (ext_nil s) fun q hq' => hs q ((halves_mem _ q).1 hq'); exact ⟨b, hb, hrow b hb s he⟩
theorem askRows_asc (list : List At) (body : List Pt) : AscR (askRowsB list body) := by
  unfold askRowsB; split
  · rename_i h
    rw [Bool.and_eq_true] at h; obtain ⟨_, hl, hd, _⟩ := facts_ok h.1; exact sortR_asc (rows_nodup hl hd (ask_vars h.2).2.2)
  · exact List.Pairwise.nil
theorem askRows_no {list : List At} {body : List Pt} (h : ¬ (factsB 300 list = true ∧ askB body = true)) : askRowsB list body = [] := by
  unfold askRowsB; rw [if_neg (by rw [Bool.and_eq_true]; exact h)]
theorem askRows_same {list : List At} {b1 b2 : List Pt} (hq : askB b1 = true ↔ askB b2 = true) (hv : ∀ x, (∃ q ∈ b1, (true, x) ∈ q.2.2) ↔ ∃ q ∈ b2, (true, x) ∈ q.2.2) (hs : ∀ s : WordsOf, (∀ q ∈ b1, SoS list s q) ↔ ∀ q ∈ b2, SoS list s q) : askRowsB list b1 = askRowsB list b2 := by
  by_cases hf : factsB 300 list = true
  · by_cases h1 : askB b1 = true
    · have h2 := hq.1 h1
      have hvs : askVarsB b1 = askVarsB b2 := inRow_ext (askVars_inRow _) (askVars_inRow _) fun x => by rw [mem_askVars h1, mem_askVars h2]; exact hv x
      refine asc_ext (askRows_asc _ _) (askRows_asc _ _) fun L => ?_; rw [rows_mem hf h1, rows_mem hf h2, hvs]; exact exists_congr fun s => and_congr_left fun _ => hs s
    · rw [askRows_no (fun h => h1 h.2), askRows_no (fun h => h1 (hq.2 h.2))]
  · rw [askRows_no (fun h => hf h.1), askRows_no (fun h => hf h.1)]
theorem askRows_perm {list : List At} {b1 b2 : List Pt} (hl : b1.length = b2.length) (hm : ∀ q, q ∈ b1 ↔ q ∈ b2) : askRowsB list b1 = askRowsB list b2 := by
  refine askRows_same ?_ (fun x => exists_congr fun q => and_congr_left fun _ => hm q) (fun s => forall_congr' fun q => by rw [hm q]); rw [ask_iff, ask_iff, hl]; simp only [hm]
theorem askRows_reverse (list : List At) (body : List Pt) : askRowsB list body.reverse = askRowsB list body := askRows_perm qad qad
theorem askRows_again {list : List At} {body : List Pt} {q : Pt} (hq : q ∈ body) (hl : body.length < 4) : askRowsB list (body ++ [q]) = askRowsB list body := by
  have hm : ∀ p, p ∈ body ++ [q] ↔ p ∈ body := fun p => by
    rw [List.mem_append, List.mem_singleton]; exact ⟨fun h => h.elim id (fun e => e ▸ hq), .inl⟩
  refine askRows_same ?_ (fun x => exists_congr fun q => and_congr_left fun _ => hm q) (fun s => forall_congr' fun q => by rw [hm q]); rw [ask_iff, ask_iff]; simp only [hm]; rw [List.length_append, List.length_singleton]; have := List.length_pos_of_mem hq; constructor
  · rintro ⟨_, h⟩; exact ⟨⟨by omega, by omega⟩, h⟩
  · rintro ⟨_, h⟩; exact ⟨⟨by omega, by omega⟩, h⟩
theorem askRows_not {list : List At} {body : List Pt} {q : Pt} (hq : q ∈ body) : askRowsB list (body ++ [(!q.1, q.2)]) = [] := by
  by_cases h : factsB 300 list = true ∧ askB (body ++ [(!q.1, q.2)]) = true
  · refine List.eq_nil_iff_forall_not_mem.2 fun L hL => ?_
    obtain ⟨s, hs, _⟩ := (rows_mem h.1 h.2).1 hL; have h1 := hs q qdr; have h2 := hs (!q.1, q.2) qad; unfold SoS at h1 h2; cases hq1 : q.1
    · rw [hq1] at h1 h2
      simp only [Bool.not_false, true_iff] at h2; exact absurd (h1.2 h2) qad
    · rw [hq1] at h1 h2
      simp only [Bool.not_true] at h2; exact absurd (h2.2 (h1.1 rfl)) qad
  · exact askRows_no h
def lookV (vs row : List ByteArray) (x : ByteArray) : Option ByteArray := (vs.zip row).findSome? fun q => if q.1 = x then some q.2 else none
theorem look_map (s : WordsOf) (x : ByteArray) : ∀ {vs : List ByteArray}, x ∈ vs → lookV vs (vs.map s) x = some (s x)
  | [], h => by simp at h
  | v :: vs, h => by
    unfold lookV; rw [List.map_cons, List.zip_cons_cons, List.findSome?_cons]; by_cases e : v = x
    · simp [e]
    · simp only [if_neg e]
      exact look_map s x (by rcases List.mem_cons.1 h with h | h; exact absurd h.symm e; exact h)
theorem row_holds_all {list : List At} {body : List Pt} {L : List ByteArray} (hL : L ∈ askRowsB list body) {q : Pt} (hq : q ∈ body) {a : At} (ha : a = (q.2.1, q.2.2.map fun t => (false, if t.1 = true then (lookV (askVarsB body) L t.2).getD t.2 else t.2))) : a ∈ list ↔ q.1 = false := by
  have h : factsB 300 list = true ∧ askB body = true := Classical.byContradiction fun h => by rw [askRows_no h] at hL; simp at hL
  obtain ⟨s, hs, rfl⟩ := (rows_mem h.1 h.2).1 hL
  have e : a = fillS s q.2 := by
    rw [ha]; unfold fillS; refine Prod.ext rfl (List.map_congr_left fun t ht => ?_); unfold fillU; by_cases h1 : t.1 = true
    · simp only [if_pos h1]
      rw [look_map s t.2 ((mem_askVars h.2).2 ⟨q, hq, by rw [← h1]; exact ht⟩)]; rfl
    · simp only [if_neg h1]
  have h1 := hs q hq; unfold SoS at h1; rw [e]; cases hq1 : q.1
  · rw [hq1] at h1
    have : fillS s q.2 ∈ list := Classical.byContradiction fun hn => by have := h1.2 hn; cases this
    exact ⟨fun _ => rfl, fun _ => this⟩
  · rw [hq1] at h1
    exact ⟨fun h => absurd h (h1.1 rfl), fun h => by cases h⟩
end Go.Proofs.YtcigljngiemdeaaGreat
