/-
  The proofs of which a proof is made: the iterator's walk.
-/
import Derived.Test.YtiekfjlhioekcaaDoorEach
import Derived.Test.YtiekfjlhioekcaaDoorAtomsOf
import Derived.Test.YtiekfjlhioekcaaDoorLiesIn
import Derived.Test.YtiekfjlhioekcaaDoorAppended
namespace Go.Proofs.YtiekfjlhioekcaaDoor
open Go.RowKit

theorem Tryd.infoPfS : (Tryd.prog.info? 33).map (fun i => (i.zero, i.size, i.bytes)) = some (some (.slice none 0 0), 1, 24) := by kernel_rfl

theorem one_new' (W : World) (x : Value) (t : TypeId) : ∀ j u, [x][j]? = some u → (W.alloc (.cells #[x] t)).cell? ((⟨W.heap.size, 0, none⟩ : Addr).add j) = some u := by
  intro j u hu
  cases j with
  | zero =>
    simp only [List.getElem?_cons_zero, Option.some.injEq] at hu
    subst hu
    exact (Blk.new W t #[x]).cell 0
  | succ j => simp at hu

set_option maxRecDepth 100000 in
set_option maxHeartbeats 8000000 in
theorem each_in (n : Nat) (hn : 1 ≤ n) (l pb n₀ d : Nat) (t : Tr) (A : Option Addr) (n1 c1 : Nat) (B : Option Addr) (m1 e1 : Nat) (J Jx : List Px → World → Prop) (W : World)
    (hY : ∀ pre x W0 W1, J pre W0 → TurnsT W.heap.size W0 W1 → PxPre n₀ (d + 1) t pre x W0 W1 → YieldAt Fence.wide (n - 1) Tryd.prog l (pxE x) W1 fun e W' =>
      (e = .returned (.bool true) ∧ J (pre ++ [x]) W' ∧ KeepsT n₀ W1 W') ∨ (e = .returned (.bool false) ∧ Jx (pre ++ [x]) W' ∧ KeepsT n₀ W1 W'))
    (hp : Blk W pb 35 #[.string t.a.1, .slice A n1 c1, .int .i64 t.r, .slice B m1 e1]) (hs : t.a.1.size ≤ maxLen) (hk : IsPf d W 0 n₀ A n1 c1 B m1 e1 t) (hn0 : n₀ ≤ W.heap.size) (hz : sizeT (d + 1) t ≤ 2097152) (h0 : J [] W) :
    CallsIn Fence.wide n Tryd.prog 28 #[.func (.yield l) #[] #[], .pointer (some ⟨pb, 0, none⟩)] W (EachPost (d + 1) W.heap.size t J Jx) := by
  obtain ⟨i0, hi, hzz, hsz, hby⟩ := info_parts Tryd.infoPfS
  have HI := Lib.hid hi; have HZ := Lib.hid hzz; have HSZ := Lib.hid hsz; have HYY := Lib.hid hby
  clear hi hzz hsz hby
  have HY := Lib.hid hY; clear hY
  have c0 : W.cell? ⟨pb, 0, none⟩ = some (.string t.a.1) := hp.cell 0
  have c1' : W.cell? ⟨pb, 1, none⟩ = some (.slice A n1 c1) := hp.cell 1
  have c2 : W.cell? ⟨pb, 2, none⟩ = some (.int .i64 t.r) := hp.cell 2
  have c3 : W.cell? ⟨pb, 3, none⟩ = some (.slice B m1 e1) := hp.cell 3
  have hal := below2 W (.cells #[.string t.a.1, .slice A n1 c1, .int .i64 t.r, .slice B m1 e1] 35) (.cells #[.slice (some ⟨W.heap.size, 0, none⟩) 1 1] 33)
  have x0 := (Blk.new W 35 #[.string t.a.1, .slice A n1 c1, .int .i64 t.r, .slice B m1 e1]).alloc (.cells #[.slice (some ⟨W.heap.size, 0, none⟩) 1 1] 33)
  have x1 := Blk.made (W.alloc (.cells #[.string t.a.1, .slice A n1 c1, .int .i64 t.r, .slice B m1 e1] 35)) (b := W.heap.size + 1) 33 #[.slice (some ⟨W.heap.size, 0, none⟩) 1 1] (by simp)
  have START : ∃ M, EInv n₀ (d + 1) W.heap.size t J M (.slice (some ⟨W.heap.size + 1, 0, none⟩) 1 1) ((W.alloc (.cells #[.string t.a.1, .slice A n1 c1, .int .i64 t.r, .slice B m1 e1] 35)).alloc (.cells #[.slice (some ⟨W.heap.size, 0, none⟩) 1 1] 33)) := by
    refine ⟨_, W.heap.size + 1, 1, [⟨some ⟨W.heap.size, 0, none⟩, 1, 1, [t]⟩], [], W, rfl, ⟨rfl, .inr ⟨_, _, _, rfl, Nat.le_refl _, x1, Nat.le_refl _, by unfold maxLen; omega, rfl, rfl⟩⟩, ?_, h0, TurnsT.of hal, ?_, Nat.le_refl _, rfl, hal.size⟩
    · intro i x hx
      cases i with
      | zero =>
        simp only [List.getElem?_cons_zero, Option.some.injEq] at hx
        subst hx
        exact .inr ⟨t, A, n1, c1, B, m1, e1, rfl, x0, hs, (by show IsPf d _ _ _ _ _ _ _ _ _ _; exact hk.keep (fun p _ hp => hal.cell (p := p) (by omega)) (Nat.le_refl _) (Nat.le_refl _)), by omega⟩
      | succ i => simp at hx
    · show [] ++ restS (d + 1) 0 ([] ++ [[t]]) = _
      rw [restS_snoc]
      simp [restS, flatL]
  have HST := Lib.hid START
  clear START x0 x1 hal hp hk h0
  refine callsIn_of_wp Tryd.func28 rfl trivial ?_ rfl
  simp only [Tryd.ntmps28, List.size_toArray, List.length_cons, List.length_nil, Nat.reduceAdd, Nat.reduceSub, Array.replicate_succ, Array.replicate_zero, List.push_toArray, List.append_toArray, List.nil_append, List.cons_append]
  gi_wp2
  gi_loopw [3] (fun v wr => ∃ M, EInv n₀ (d + 1) W.heap.size t J M v wr) (fun v wr => toDo n₀ (d + 1) W.heap.size t J v wr)
  case atStart => exact HST.out
  case round =>
    obtain ⟨M0, hM0⟩ := hrel
    have hM := hM0.least
    clear HST hM0 M0
    obtain ⟨M, hMM⟩ : ∃ M, toDo n₀ (d + 1) W.heap.size t J u3 wr = M := ⟨_, rfl⟩
    rw [hMM] at hM
    obtain ⟨g, cap, L, pre, W0, rfl, hrow, hok, hJ, hT, hfl, hlp, hMe, hBs⟩ := hM
    have HM := Lib.hid hMM; clear hMM
    have hpl : pre.length ≤ 2097152 := by
      have h1 := congrArg List.length hfl
      rw [List.length_append, List.length_map, flatT_len] at h1
      omega
    have hgB := hrow.lt g rfl
    have HROW := Lib.hid hrow; have HOK := Lib.hid hok; have HJ := Lib.hid hJ; have HT := Lib.hid hT; have HFL := Lib.hid hfl; have HME := Lib.hid hMe
    clear hrow hok hJ hT hfl hMe c0 c1' c2 c3
    rcases snoc_or L with rfl | ⟨L', x, rfl⟩
    · have hfin : pre.map pxT = flatT (d + 1) 0 t := by have := HFL.out; simpa [restS] using this
      have HFIN := Lib.hid hfin; clear hfin
      gi_wp2
      exact bodyPost_end (results_none rfl _ _ _) rfl ⟨⟨_, rfl⟩, .inl ⟨pre, W0, HFIN.out, HJ.out, HT.out⟩⟩
    · rw [List.length_append, List.length_singleton] at hlp
      have hxi : (L' ++ [x])[L'.length]? = some x := by simp
      have hok := HOK.out L'.length x hxi
      obtain ⟨hl1, hl2, hl3⟩ := hok.len
      have cX : wr.cell? ⟨g, L'.length, none⟩ = some (.slice x.A x.n x.c) := row_cell HROW.out (by rw [List.map_append, List.getElem?_append_right (by simp)]; simp [waitV])
      have hql : (L' ++ [x]).length = L'.length + 1 := by simp
      have HOKX := Lib.hid hok
      clear hxi hok
      obtain ⟨k, hkk⟩ : ∃ k, L'.length = k := ⟨_, rfl⟩
      rw [hql, hkk] at HROW HM
      rw [hql, hkk] at HME
      rw [hkk] at cX HOKX hlp
      rw [hql, hkk]
      have hcapI : ((k + 1 : Nat) : Int) > 0 := by omega
      have hcap : k + 1 ≤ cap := by
        rcases HROW.out.2 with ⟨h1, _⟩ | ⟨g', cap', cur, h1, _, _, h4, _⟩
        · cases h1
        · injection h1 with h2 h3 h5; omega
      have hkc : (k : Int) ≤ (cap : Int) := by omega
      have hsub : IntKind.i64.wrap (((k + 1 : Nat) : Int) - 1) = (k : Int) := by rw [IntKind.wrap_i64]; omega
      have hmap : (L' ++ [x]).map (·.ks) = L'.map (·.ks) ++ [x.ks] := by simp
      have HMAP := Lib.hid hmap
      rw [hmap] at HFL HME
      clear hql hmap
      have HKK := Lib.hid hkk; clear hkk
      by_cases hx0 : x.n = 0
      · have hx0I : (x.n : Int) = 0 := by omega
        have hks : x.ks = [] := List.length_eq_zero_iff.1 (hl1.trans hx0)
        have hnew : EInv n₀ (d + 1) W.heap.size t J (2 * (restS (d + 1) 0 (L'.map (·.ks))).length + k) (.slice (some ⟨g, 0, none⟩) k cap) wr := by
          refine ⟨g, cap, L', pre, W0, by rw [HKK.out], ?_, fun i y hy => HOK.out i y ?_, HJ.out, HT.out, ?_, by rw [HKK.out]; omega, by rw [HKK.out], hBs⟩
          · have h1 := row_short HROW.out (k := k) (by omega)
            rw [HKK.out]
            rw [List.map_append, List.take_left' (by rw [List.length_map]; exact HKK.out)] at h1
            exact h1
          · rw [List.getElem?_append_left (List.getElem?_eq_some_iff.1 hy).1]; exact hy
          · have h1 := HFL.out
            rw [hks, restS_pop] at h1
            exact h1
        have hlt : toDo n₀ (d + 1) W.heap.size t J (.slice (some ⟨g, 0, none⟩) k cap) wr < M := by
          have h1 := hnew.le
          have h2 := HME.out
          rw [hks, restS_pop] at h2
          omega
        have HNEW := Lib.hid hnew; have HLT := Lib.hid hlt
        clear hnew hlt hks
        gi_wp2
        go_roundw
        case rel => exact ⟨_, HNEW.out⟩
        case measure => exact Nat.lt_of_lt_of_le HLT.out (Nat.le_of_eq HM.out.symm)
      · obtain ⟨t1, ks1, hks⟩ : ∃ t1 ks1, x.ks = t1 :: ks1 := by
          cases hh : x.ks with
          | nil => rw [hh] at hl1; simp at hl1; omega
          | cons t1 ks1 => exact ⟨t1, ks1, rfl⟩
        obtain ⟨E, p, A2, n2, c2, B2, m2, e2, hdE, hxA, y0, hs1, y1, y2, y3, hpf, hpb, htl⟩ := HOKX.out.take hks
        rw [hxA] at cX
        have hx0I : ¬ (x.n : Int) = 0 := by omega
        have hx1I : (0 : Int) < (x.n : Int) := by omega
        have hp0 : p.add 0 = p := by unfold Addr.add; simp
        obtain ⟨cur, hrb⟩ : ∃ cur, Blk wr g 33 cur := by
          rcases HROW.out.2 with ⟨h1, _⟩ | ⟨g', cap', cur, h1, _, h3, _⟩
          · cases h1
          · injection h1 with h2; injection h2 with h2; injection h2 with h2; subst h2; exact ⟨cur, h3⟩
        obtain ⟨W1, hW1⟩ : ∃ W1, wr.alloc (.cells #[.string t1.a.1, .slice A2 n2 c2, .int .i64 t1.r, .slice B2 m2 e2] 35) = W1 := ⟨_, rfl⟩
        have hb1 : Below wr.heap.size wr W1 := by rw [← hW1]; exact below1 wr _
        have hz1 : wr.heap.size < W1.heap.size := by rw [← hW1]; simp
        have xb1 : Blk W1 wr.heap.size 35 #[.string t1.a.1, .slice A2 n2 c2, .int .i64 t1.r, .slice B2 m2 e2] := by rw [← hW1]; exact Blk.new wr _ _
        have hrb1 := hrb.below hb1
        have cX1 : W1.cell? ⟨g, k, none⟩ = some (.slice (some p) x.n x.c) := (hb1.cell (p := ⟨g, k, none⟩) hrb.lt).trans cX
        have q1 := hrb1.frozen k
        have hlx : (1 : Int) ≤ (x.n : Int) := by omega
        have hpa : p.add (1 * 4) = ⟨p.block, p.off + 4, none⟩ := by unfold Addr.add; simp
        rw [hpa] at htl
        obtain ⟨QK, hQK⟩ : ∃ q, (if x.c = 1 then some p else some (⟨p.block, p.off + 4, none⟩ : Addr)) = q := ⟨_, rfl⟩
        rw [hQK] at htl
        obtain ⟨W2, hW2⟩ : ∃ W2, W1.setCell ⟨g, k, none⟩ (.slice QK (x.n - 1) (x.c - 1)) = W2 := ⟨_, rfl⟩
        have hz2 : W2.heap.size = W1.heap.size := by rw [← hW2]; simp only [size_setCell]
        have hh2 : ∀ b, b < wr.heap.size → b ≠ g → W2.heap[b]? = wr.heap[b]? := fun b h1 h2 => by
          rw [← hW2]; exact (Below.heap_setCell _ _ _ b h2).trans (hb1.block b h1)
        have hrw1 : W1.ownsRow (W.heap.size + 1) 33 1 (.slice (some ⟨g, 0, none⟩) (k + 1) cap) (k + 1) ((L' ++ [x]).map waitV) := ownsRow_up HROW.out hb1
        have hrow2 : W2.ownsRow (W.heap.size + 1) 33 1 (.slice (some ⟨g, 0, none⟩) (k + 1) cap) (k + 1) ((L' ++ [(⟨QK, x.n - 1, x.c - 1, ks1⟩ : Wait)]).map waitV) := by
          have h1 := row_turn hrw1 k (.slice QK (x.n - 1) (x.c - 1))
          rw [hW2] at h1
          rw [List.map_append, List.set_append_right _ _ (by rw [List.length_map, HKK.out]; exact Nat.le_refl _), List.length_map, HKK.out, Nat.sub_self] at h1
          rw [List.map_append]
          exact h1
        have hg12 : W1.grownBy W2 (some g) := by
          rw [← hW2]
          exact ⟨rfl, rfl, rfl, by simp only [size_setCell]; exact Nat.le_refl _, fun b h1 h2 => Below.heap_setCell _ _ _ b (fun e => h2 (by rw [e]))⟩
        have hT2 : TurnsT W.heap.size W0 W2 := (HT.out.trans (TurnsT.of hb1)).trans (TurnsT.row (v := .slice (some ⟨g, 0, none⟩) (k + 1) cap) hg12 hrw1 (Nat.le_succ _))
        have xb2 : Blk W2 wr.heap.size 35 #[.string t1.a.1, .slice A2 n2 c2, .int .i64 t1.r, .slice B2 m2 e2] := by
          rw [← hW2]; exact xb1.far (p := ⟨g, k, none⟩) (by have := hrb.lt; show wr.heap.size ≠ g; omega) _
        have z0 : W2.cell? ⟨wr.heap.size, 0, none⟩ = some (.string t1.a.1) := xb2.cell 0
        have z1 : W2.cell? ⟨wr.heap.size, 1, none⟩ = some (.slice A2 n2 c2) := xb2.cell 1
        have z2 : W2.cell? ⟨wr.heap.size, 2, none⟩ = some (.int .i64 t1.r) := xb2.cell 2
        have z3 : W2.cell? ⟨wr.heap.size, 3, none⟩ = some (.slice B2 m2 e2) := xb2.cell 3
        have hlow2 : ∀ b, b < n₀ → W2.heap[b]? = wr.heap[b]? := fun b hb => hh2 b (by omega) (by omega)
        have hpf2 : IsPf E W2 0 n₀ A2 n2 c2 B2 m2 e2 t1 := hpf.keep (fun q _ hq => World.cell?_of_block (hlow2 q.block hq)) (Nat.le_refl _) (Nat.le_refl _)
        have hok2 : ∀ i y, (L' ++ [(⟨QK, x.n - 1, x.c - 1, ks1⟩ : Wait)])[i]? = some y → WaitOk n₀ W.heap.size (d + 1 - i) W2 y := fun i y hy => by
          have hkeep : ∀ (dd : Nat) (yy : Wait), WaitOk n₀ W.heap.size dd wr yy → WaitOk n₀ W.heap.size dd W2 yy := fun dd yy h => h.keep hlow2 (fun cs hc => (hh2 _ (by omega) (by omega)).trans hc)
          by_cases hi : i < L'.length
          · rw [List.getElem?_append_left hi] at hy
            exact hkeep _ _ (HOK.out i y (by rw [List.getElem?_append_left hi]; exact hy))
          · have h1 := (List.getElem?_eq_some_iff.1 hy).1
            rw [List.length_append, List.length_singleton] at h1
            have hik : i = k := by have := HKK.out; omega
            subst hik
            rw [List.getElem?_append_right (by omega), HKK.out, Nat.sub_self] at hy
            simp only [List.getElem?_cons_zero, Option.some.injEq] at hy
            subst hy
            exact hkeep _ _ htl
        have hDk : d + 1 = (L'.map (·.ks)).length + E + 1 := by rw [List.length_map, HKK.out]; omega
        have hrest : restS (d + 1) 0 (L'.map (·.ks) ++ [x.ks]) = (k, t1) :: restS (d + 1) 0 (L'.map (·.ks) ++ [ks1] ++ [t1.ks]) := by
          rw [hks, restS_next t1 ks1 hDk, List.length_map, HKK.out, Nat.zero_add]
        have hfl2 : (pre ++ [(⟨k, t1, A2, n2, c2, B2, m2, e2⟩ : Px)]).map pxT ++ restS (d + 1) 0 (L'.map (·.ks) ++ [ks1] ++ [t1.ks]) = flatT (d + 1) 0 t := by
          have h1 := HFL.out
          rw [hrest] at h1
          rw [← h1, List.map_append, List.append_assoc]; rfl
        have hme2 : M = 2 * ((restS (d + 1) 0 (L'.map (·.ks) ++ [ks1] ++ [t1.ks])).length + 1) + (k + 1) := by
          have h1 := HME.out
          rw [hrest, List.length_cons] at h1
          exact h1
        obtain ⟨fn, tmps, assign, body, hy, hR⟩ := HY.out pre ⟨k, t1, A2, n2, c2, B2, m2, e2⟩ W0 W2 HJ.out hT2 ⟨hs1, ⟨E, hpf2⟩, ⟨_, hfl2⟩⟩
        dsimp only [pxE, pxV] at hy hR
        have HW1 := Lib.hid hW1; have HW2 := Lib.hid hW2; have HOK2 := Lib.hid hok2; have HROW2 := Lib.hid hrow2; have XB2 := Lib.hid xb2; have HPF2 := Lib.hid hpf2; have HFL2 := Lib.hid hfl2; have HME2 := Lib.hid hme2
        have hBW2 : W.heap.size ≤ W2.heap.size := by omega
        clear hW1 hW2 hok2 hrow2 xb2 hpf2 hfl2 hme2 hrest hDk hlow2 hT2 hg12 hrw1 hh2 htl hpf hz2 HT HJ HFL HME HOK HOKX HROW hrb1 xb1
        gi_wp2_with (first | rw [HW1.out] | rw [HW2.out])
        refine hR.mono ?_
        rintro e W3 (⟨rfl, hJ3, hk3⟩ | ⟨rfl, hJx3, hk3⟩)
        · have xb3 : Blk W3 wr.heap.size 35 #[.string t1.a.1, .slice A2 n2 c2, .int .i64 t1.r, .slice B2 m2 e2] := (hk3.2 _ _ _ _ (.inr rfl) XB2.out).trans XB2.out
          have u3' : W3.cell? ⟨wr.heap.size, 3, none⟩ = some (.slice B2 m2 e2) := xb3.cell 3
          have hrow3 : W3.ownsRow (W.heap.size + 1) 33 1 (.slice (some ⟨g, 0, none⟩) (k + 1) cap) (k + 1) ((L' ++ [(⟨QK, x.n - 1, x.c - 1, ks1⟩ : Wait)]).map waitV) := row_same HROW2.out (fun g1 cs z _ h => hk3.2 g1 cs _ z (.inl rfl) h)
          have hz3 := hk3.1.size
          have hlt3 := xb3.lt
          have HK3 := Lib.hid hk3; have HJ3 := Lib.hid hJ3; have HROW3 := Lib.hid hrow3
          have hzW3 : W.heap.size + 1 < W3.heap.size := by omega
          clear hk3 hJ3 hrow3 xb3 hR hy
          gi_wp2_with (gi_at_builtin; refine wpListIn_append_lies rfl _ _ 66 rfl (W.heap.size + 1) 33 i0 _ 1 24 Tryd.underlying66 HI.out HZ.out HSZ.out HYY.out rfl (by omega) (.slice (some ⟨g, 0, none⟩) (k + 1) cap) (k + 1) _ rfl (HROW3.out.alloc _) ⟨W3.heap.size, 0, none⟩ 1 1 [.slice B2 m2 e2] rfl rfl (one_new' _ _ _) (by simp [Value.oneCell']) (by omega) (by unfold maxLen; omega) (by omega) (by simp; omega) (W3.heap.size + 1) (by simp) ?_; intro g' cap' w9 hown hgrow hat hlt9)
          have hW4 := below1 W3 (.cells #[.slice B2 m2 e2] 33)
          have hb9 : ∀ b, b < W3.heap.size → b ≠ g → w9.heap[b]? = W3.heap[b]? := fun b h1 h2 => (hgrow.block b (by simp; omega) (fun e => h2 (by simpa [Value.ownBlock] using e))).trans (hW4.block b h1)
          have hLn : (L' ++ [(⟨QK, x.n - 1, x.c - 1, ks1⟩ : Wait)] ++ [(⟨B2, m2, e2, t1.ks⟩ : Wait)]).length = k + 1 + 1 := by simp [HKK.out]
          have hLk : (L' ++ [(⟨QK, x.n - 1, x.c - 1, ks1⟩ : Wait)] ++ [(⟨B2, m2, e2, t1.ks⟩ : Wait)]).map (·.ks) = L'.map (·.ks) ++ [ks1] ++ [t1.ks] := by simp
          have hkeep : ∀ (dd : Nat) (yy : Wait), WaitOk n₀ W.heap.size dd W2 yy → WaitOk n₀ W.heap.size dd w9 yy := fun dd yy h =>
            h.keep (fun b hb => (hb9 b (by omega) (by omega)).trans (HK3.out.1.block b hb)) (fun cs hc => (hb9 _ (by omega) (by omega)).trans ((HK3.out.2 _ _ _ _ (.inr rfl) hc).trans hc))
          have hnew : EInv n₀ (d + 1) W.heap.size t J (2 * (restS (d + 1) 0 (L'.map (·.ks) ++ [ks1] ++ [t1.ks])).length + (k + 1 + 1)) (.slice (some ⟨g', 0, none⟩) (k + 1 + 1) cap') w9 := by
            refine ⟨g', cap', L' ++ [(⟨QK, x.n - 1, x.c - 1, ks1⟩ : Wait)] ++ [(⟨B2, m2, e2, t1.ks⟩ : Wait)], pre ++ [⟨k, t1, A2, n2, c2, B2, m2, e2⟩], W3, by rw [hLn], by rw [hLn, List.map_append]; exact hown, fun i y hy => ?_, HJ3.out, (TurnsT.of hW4).trans (TurnsT.row hgrow (HROW3.out.alloc _) (Nat.le_succ _)), by rw [hLk]; exact HFL2.out, by rw [hLn, List.length_append, List.length_singleton]; omega, by rw [hLn, hLk], by have := hgrow.size; have := hW4.size; omega⟩
            refine hkeep _ _ ?_
            by_cases hi : i < (L' ++ [(⟨QK, x.n - 1, x.c - 1, ks1⟩ : Wait)]).length
            · rw [List.getElem?_append_left hi] at hy
              exact HOK2.out i y hy
            · have h1 := (List.getElem?_eq_some_iff.1 hy).1
              rw [hLn] at h1
              have hik : i = k + 1 := by rw [List.length_append, List.length_singleton, HKK.out] at hi; omega
              subst hik
              rw [List.getElem?_append_right (by rw [List.length_append, List.length_singleton, HKK.out]; exact Nat.le_refl _)] at hy
              rw [List.length_append, List.length_singleton, HKK.out, Nat.sub_self] at hy
              simp only [List.getElem?_cons_zero, Option.some.injEq] at hy
              subst hy
              have hE : d + 1 - (k + 1) = E := by omega
              rw [hE]
              exact .inl HPF2.out.2
          have hlt : toDo n₀ (d + 1) W.heap.size t J (.slice (some ⟨g', 0, none⟩) (k + 1 + 1) cap') w9 < M := by
            have h1 := hnew.le
            have h2 := HME2.out
            omega
          have HNEW := Lib.hid hnew; have HLT := Lib.hid hlt
          clear hnew hlt hkeep hLk hLn hb9 hW4 hown hgrow hat
          go_roundw
          case rel => exact ⟨_, HNEW.out⟩
          case measure => exact Nat.lt_of_lt_of_le HLT.out (Nat.le_of_eq HM.out.symm)
        · gi_wp2
          exact bodyPost_ret (results_none rfl _ _ _) rfl ⟨⟨_, rfl⟩, .inr ⟨_, W3, ⟨_, HFL2.out⟩, hJx3, TurnsT.refl _ _⟩⟩

end Go.Proofs.YtiekfjlhioekcaaDoor
