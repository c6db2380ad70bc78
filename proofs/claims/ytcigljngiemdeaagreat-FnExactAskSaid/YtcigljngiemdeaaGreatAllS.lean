/-
  All that is bound for which a body is, in the model. (Written by tools/l4all.py.)
-/
import Derived.Test.YtcigljngiemdeaaGreatEa28
namespace Go.Proofs.YtcigljngiemdeaaGreat
open Go.RowKit

theorem row_bound {n i m l k j : Nat} (hP : (n + 1) ^ m ≤ 8589934592) (hi : i < m) (hl : l ≤ (n + 1) ^ i) (hk : k < l) (hj : j < n) : k * n + j + 1 ≤ 8589934592 := by
  have h1 : (n + 1) ^ (i + 1) ≤ (n + 1) ^ m := Nat.pow_le_pow_right (by omega) hi
  have h2 : (k + 1) * n ≤ l * n := Nat.mul_le_mul_right _ hk
  have h3 : l * n ≤ (n + 1) ^ i * (n + 1) := Nat.mul_le_mul hl (by omega)
  rw [Nat.pow_succ] at h1
  rw [Nat.add_mul, Nat.one_mul] at h2
  omega

theorem l_bound {n i m l : Nat} (hP : (n + 1) ^ m ≤ 8589934592) (hi : i ≤ m) (hl : l ≤ (n + 1) ^ i) : l ≤ 8589934592 :=
  Nat.le_trans hl (Nat.le_trans (Nat.pow_le_pow_right (by omega) hi) hP)

theorem rowNext {n k j : Nat} (hj : ¬ j < n) {z : Nat} (hz : z ≤ k * n + j) (hjn : j ≤ n) : z ≤ (k + 1) * n := by
  rw [Nat.add_mul, Nat.one_mul]; omega

theorem fits_take {xs : List At} {a : At} {b : Bd} {j : Nat} {f : At} (h : xs[j]? = some f) : fitsL (xs.take (j + 1)) a b = fitsL (xs.take j) a b ++ (match matchA a f b with | some b' => [b'] | none => []) := by
  unfold fitsL
  rw [List.take_add_one, h, List.filterMap_append]
  congr 1
  cases hm : matchA a f b <;> simp [hm]

/-- One row more, in the cell behind an address. -/
theorem one_bind (w : World) : IsBinds (w.alloc (.cells #[.slice none 0 0, .slice none 0 0] 128)) 0 (w.alloc (.cells #[.slice none 0 0, .slice none 0 0] 128)).heap.size (some ⟨w.heap.size, 0, none⟩) 1 1 [[]] := by
  refine ⟨rfl, Nat.le_refl _, by unfold maxLen; omega, fun _ => ⟨_, rfl, Nat.zero_le _, by simp, fun i x hx => ?_⟩⟩
  have hi : i = 0 := by have := (List.getElem?_eq_some_iff.1 hx).1; simp at this; omega
  subst hi
  simp at hx
  subst hx
  have a0 : (⟨w.heap.size, 0, none⟩ : Addr).add (0 * 2) = ⟨w.heap.size, 0, none⟩ := by unfold Addr.add; simp
  rw [a0]
  exact ⟨⟨none, 0, 0, by simp [go_sem], rfl, Nat.le_refl _, by unfold maxLen; omega, fun h => by omega⟩, ⟨none, 0, 0, by simp [go_sem, nextTo], rfl, Nat.le_refl _, by unfold maxLen; omega, fun h => by omega⟩⟩

set_option maxRecDepth 100000 in
set_option maxHeartbeats 4000000 in
theorem l4All_any (A : Option Addr) (n c : Nat) (xs : List At) (B : Option Addr) (m d : Nat) (qs : List Pt) (w : World) (h1 : IsAtoms w 0 w.heap.size A n c xs) (h2 : IsParts w 0 w.heap.size B m d qs)
    (hr : risesB xs = true) (h64 : ∀ q ∈ qs, q.2.2.length ≤ 64) (hm64 : m ≤ 64) (hmax : (n + 1) ^ m ≤ 8589934592) :
    Calls Tryz.prog 84 #[.slice A n c, .slice B m d] w fun e w' => ∃ D r f, e = .returned (.slice D r f) ∧ IsBinds w' 0 w'.heap.size D r f (rowsB xs qs) ∧ Below w.heap.size w w' := by
  have hn := h1.len
  unfold maxLen at hn
  have L1 := Lib.hid h1.1; have L2 := Lib.hid h2.1
  have HSZ1 := Lib.hid (atoms_sizes h1)
  have H1 := Lib.hid h1; have H2 := Lib.hid h2; have HRR := Lib.hid hr; have H64 := Lib.hid h64; have HP := Lib.hid hmax
  clear h1 h2 hr h64 hmax
  obtain ⟨i0, hi, hz, hsz, hby⟩ := info_parts3 Tryz.infoBind
  have HI := Lib.hid hi; have HZ := Lib.hid hz; have HSZ := Lib.hid hsz; have HYY := Lib.hid hby
  clear hi hz hsz hby
  have hb1 := below1 w (.cells #[.slice none 0 0, .slice none 0 0] 128)
  have ho := one_bind w
  obtain ⟨w1, hq1⟩ : ∃ w1, w.alloc (.cells #[.slice none 0 0, .slice none 0 0] 128) = w1 := ⟨_, rfl⟩
  rw [hq1] at hb1 ho
  have HO := Lib.hid ho; have HB1 := Lib.hid hb1; have HQ1 := Lib.hid hq1
  clear ho hb1 hq1
  go_enter Tryz.func84, Tryz.ntmps84
  go_wp2_with (rw [HQ1.out])
  go_loopw [5, 6] (fun o x wr => ∃ (i : Nat) (C : Option Addr) (l e : Nat) (bs : List Bd), i ≤ m ∧ x = .int .i64 (i : Int) ∧ o = .slice C l e ∧ IsBinds wr 0 wr.heap.size C l e bs ∧ bs = (qs.take i).foldl (stepB xs) [[]] ∧ Below w.heap.size w wr) (fun _ x _ => m - (intOf x).toNat)
  case atStart => exact ⟨0, _, 1, 1, [[]], Nat.zero_le _, rfl, rfl, HO.out, rfl, HB1.out⟩
  case round =>
    obtain ⟨i, C, l, e, bs, hi, rfl, rfl, hC, hbs, hb⟩ := hrel
    have hgs := hb.size
    have hbl : bs.length ≤ (n + 1) ^ i := by
      have h1 := steps_len xs (qs.take i) [[]]
      rw [← hbs, List.length_take, L1.out, L2.out, Nat.min_eq_left hi] at h1
      simpa using h1
    have hll : l ≤ (n + 1) ^ i := by rw [← hC.1]; exact hbl
    have hlb := l_bound HP.out hi hll
    have HC := Lib.hid hC; have HBS := Lib.hid hbs; have HB := Lib.hid hb; have HLL := Lib.hid hll
    have HSM := Lib.hid (show ∀ b ∈ bs, SmallBd (64 * 64) b from fun b hm => by
      rw [hbs] at hm
      have h1 := steps_small HSZ1.out (body := qs.take i) (out := [[]]) (K := 0) (fun c hc => by rw [List.mem_singleton.1 hc]; exact ⟨Nat.le_refl _, fun q hq => by simp at hq⟩) (fun q hq => H64.out q (List.mem_of_mem_take hq)) b hm
      exact h1.up (by rw [List.length_take]; omega))
    clear HO HB1 HQ1 hbs hbl hll
    by_cases hlt : i < m
    · have hltI : (i : Int) < (m : Int) := by omega
      obtain ⟨p, q, hB, plo, phi, hgq, hE⟩ := (H2.out.below PartE.stays hb (Nat.le_refl _)).at_ hlt
      obtain ⟨A5, n5, c5, d1, d2, d3, d4, d5⟩ := hE.out
      subst hB
      have hpp0 : p.block < w.heap.size := phi
      have HGQ := Lib.hid hgq; have J5 := Lib.hid d5; have D3 := Lib.hid d3
      have hn5 : n5 ≤ 64 := by rw [← d5.1]; exact H64.out q (List.mem_of_getElem? hgq)
      obtain ⟨nt, nm, ts⟩ := q
      have hnext := Lib.hid (show (qs.take (i + 1)).foldl (stepB xs) [[]] = stepB xs bs (nt, nm, ts) from by rw [foldl_take _ _ HGQ.out, HBS.out])
      clear hE hgq d5 d3 plo phi hC
      cases nt with
      | true =>
        go_wp2
        go_roundw
        case rel => exact ⟨i + 1, C, l, e, bs, by omega, by go_num, rfl, HC.out, by rw [hnext.out]; rfl, HB.out⟩
        case measure => simp [intOf]; omega
      | false =>
        have hbz := below1 wr (.cells #[] 128)
        have hg0 : GR 128 2 BindV wr wr.heap.size (.slice (some ⟨wr.heap.size, 0, none⟩) 0 0) [] (wr.alloc (.cells #[] 128)) := GR.start _ ⟨rfl, .inr ⟨wr.heap.size, 0, #[], rfl, Nat.le_refl _, heap_alloc_new wr _, Nat.le_refl _, by unfold maxLen; omega, rfl, rfl⟩⟩ (Nat.le_refl _) hbz
        obtain ⟨wq, hqq⟩ : ∃ wq, wr.alloc (.cells #[] 128) = wq := ⟨_, rfl⟩
        rw [hqq] at hg0
        have HG0 := Lib.hid hg0; have HQQ := Lib.hid hqq
        clear hbz hg0 hqq
        go_wp2_with (rw [HQQ.out])
        obtain ⟨wz, rfl⟩ : ∃ wz : World, wz = wr := ⟨_, rfl⟩
        go_loopw [7, 8] (fun o x wr => ∃ (k : Nat) (D : Option Addr) (f : Nat) (zs : List (Ex Bd)), k ≤ l ∧ x = .int .i64 (k : Int) ∧ o = .slice D zs.length f ∧ zs.length ≤ k * n ∧ zs.map (·.x) = (bs.take k).flatMap (fitsL xs (nm, ts)) ∧ GR 128 2 BindV wz wz.heap.size (.slice D zs.length f) zs wr) (fun _ x _ => l - (intOf x).toNat)
        case atStart => exact ⟨0, _, 0, [], Nat.zero_le _, rfl, rfl, by simp, by simp, HG0.out⟩
        case round =>
          obtain ⟨k, D, f, zs, hk, rfl, rfl, hzk, hzs, hG⟩ := hrel
          have HZS := Lib.hid hzs; have HG := Lib.hid hG; have HZK := Lib.hid hzk
          have hgz : wz.heap.size ≤ wr.heap.size := hG.gr.size
          clear HG0 HQQ hzs hzk
          by_cases hlk : k < l
          · have hlkI : (k : Int) < (l : Int) := by omega
            obtain ⟨p3, b, hC3, blo, bhi, hgb, hE2⟩ := HC.out.at_ hlk
            obtain ⟨A7, n7, c7, B7, m7, d7, g1, g2, g3, g4⟩ := hE2.out
            subst hC3
            have hpp30 : p3.block < wz.heap.size := bhi
            have HGB := Lib.hid hgb; have J3 := Lib.hid g3; have J4 := Lib.hid g4
            have hsb := (HSM.out b (List.mem_of_getElem? hgb)).1
            clear hE2 hgb g3 g4 blo bhi hG
            go_wp2
            go_loopw [7, 9] (fun o x wr => ∃ (j : Nat) (D : Option Addr) (f : Nat) (zs : List (Ex Bd)), j ≤ n ∧ x = .int .i64 (j : Int) ∧ o = .slice D zs.length f ∧ zs.length ≤ k * n + j ∧ zs.map (·.x) = (bs.take k).flatMap (fitsL xs (nm, ts)) ++ fitsL (xs.take j) (nm, ts) b ∧ GR 128 2 BindV wz wz.heap.size (.slice D zs.length f) zs wr) (fun _ x _ => n - (intOf x).toNat)
            case atStart => exact ⟨0, D, f, zs, Nat.zero_le _, rfl, rfl, HZK.out, by rw [HZS.out]; simp [fitsL], HG.out⟩
            case round =>
              clear HZS HG HZK hgz
              obtain ⟨j, D, f', zs, hj, rfl, rfl, hzk, hzs, hG⟩ := hrel
              have HZS := Lib.hid hzs; have HG := Lib.hid hG; have HZK := Lib.hid hzk
              have hgz : wz.heap.size ≤ wr.heap.size := hG.gr.size
              have hbw : Below w.heap.size w wr := HB.out.trans (hG.gr.mono hgs)
              clear hzs
              by_cases hlj : j < n
              · have hljI : (j : Int) < (n : Int) := by omega
                have hbnd := row_bound HP.out hlt HLL.out hlk hlj
                have hzb : zs.length + 1 ≤ 8589934592 := by omega
                obtain ⟨p2, f, hA, flo, fhi, hgf, hE⟩ := (H1.out.below AtomE.stays hbw (Nat.le_refl _)).at_ hlj
                obtain ⟨A6, n6, c6, f1, f0, f2, f3⟩ := hE.out
                subst hA
                have hpp20 : p2.block < w.heap.size := fhi
                have HGF := Lib.hid hgf; have J6 := Lib.hid f3
                clear hE hgf f3 f0 flo fhi hG hzk
                have hpp : p.block < wz.heap.size := by omega
                have hpp2 : p2.block < wz.heap.size := by omega
                have hpp3 : p3.block < wz.heap.size := hpp30
                obtain ⟨V, hV⟩ : ∃ V, wr.drew = V := ⟨_, rfl⟩
                have HGV := Lib.hid (show GR 128 2 BindV wz wz.heap.size (.slice D zs.length f') zs V from hV ▸ HG.out.below BindV.keep (Below.refl _ _).drew)
                have hVz : wr.heap.size = V.heap.size := by rw [← hV]; rfl
                have b0 : ∀ q : Addr, q.block < wz.heap.size → V.cell? q = wz.cell? q := fun q hq => HGV.out.gr.cell hq
                have x1 : V.cell? ⟨(p.add (i * 3)).block, (p.add (i * 3)).off + 1, none⟩ = some (.string nm) := (b0 _ (by show (p.add (i * 3)).block < _; rw [block_add]; exact hpp)).trans d2
                have x2 : V.cell? ⟨(p.add (i * 3)).block, (p.add (i * 3)).off + 2, none⟩ = some (.slice A5 n5 c5) := (b0 _ (by show (p.add (i * 3)).block < _; rw [block_add]; exact hpp)).trans d4
                have x3 : V.cell? (p2.add (j * 2)) = some (.string f.1) := hV ▸ f1
                have x4 : V.cell? ⟨(p2.add (j * 2)).block, (p2.add (j * 2)).off + 1, none⟩ = some (.slice A6 n6 c6) := hV ▸ f2
                have x5 : V.cell? (p3.add (k * 2)) = some (.slice A7 n7 c7) := (b0 _ (by rw [block_add]; exact hpp3)).trans g1
                have x6 : V.cell? ⟨(p3.add (k * 2)).block, (p3.add (k * 2)).off + 1, none⟩ = some (.slice B7 m7 d7) := (b0 _ (by show (p3.add (k * 2)).block < _; rw [block_add]; exact hpp3)).trans g2
                have K5 := Lib.hid (show ∀ W : World, Below V.heap.size V W → IsTerms W 0 W.heap.size A5 n5 c5 ts from fun W hb => ((J5.out.below HGV.out.gr (by omega)).below hb (by omega)).keep (w' := W) (lo' := 0) (hi' := W.heap.size) (fun _ _ _ => rfl) (Nat.le_refl _) (by have := hb.size; omega))
                have hbV : Below w.heap.size w V := HB.out.trans (HGV.out.gr.mono hgs)
                have K6 := Lib.hid (show ∀ W : World, Below V.heap.size V W → IsTerms W 0 W.heap.size A6 n6 c6 f.2 from fun W hb => (J6.out.keep (w' := W) (lo' := 0) (hi' := W.heap.size) (fun q _ h2 => (hb.cell (p := q) (by omega)).trans (by rw [← hV]; rfl)) (Nat.le_refl _) (by have := hb.size; omega)))
                have K3 := Lib.hid (show ∀ W : World, Below V.heap.size V W → IsTexts W 0 wz.heap.size A7 n7 c7 (b.map (·.1)) from fun W hb => (J3.out.below TextE.stays HGV.out.gr (Nat.le_refl _)).below TextE.stays hb (by omega))
                have K4 := Lib.hid (show ∀ W : World, Below V.heap.size V W → IsTexts W 0 wz.heap.size B7 m7 d7 (b.map (·.2)) from fun W hb => (J4.out.below TextE.stays HGV.out.gr (Nat.le_refl _)).below TextE.stays hb (by omega))
                have HV0 := Lib.hid hV
                have hfn : (f.1, f.2) = f := rfl
                go_wp2_with fail
                refine wp_region_held_drew (S := fun W => W.cell? ⟨(p.add (i * 3)).block, (p.add (i * 3)).off + 1, none⟩ = some (.string nm) ∧ W.cell? ⟨(p.add (i * 3)).block, (p.add (i * 3)).off + 2, none⟩ = some (.slice A5 n5 c5) ∧ W.cell? (p2.add (j * 2)) = some (.string f.1) ∧ W.cell? ⟨(p2.add (j * 2)).block, (p2.add (j * 2)).off + 1, none⟩ = some (.slice A6 n6 c6) ∧ W.cell? (p3.add (k * 2)) = some (.slice A7 n7 c7) ∧ W.cell? ⟨(p3.add (k * 2)).block, (p3.add (k * 2)).off + 1, none⟩ = some (.slice B7 m7 d7)) (by kernel_rfl) (by rw [HV0.out]; exact ⟨x1, x2, x3, x4, x5, x6⟩) ?_
                rw [HV0.out]
                clear hV
                intro hS_
                refine tk 0 (.slice (some p) m d) hS_ ?_
                refine tk 1 (.int .i64 (i : Int)) hS_ ?_
                refine tk 2 (.pointer (some (p.add (i * 3)))) hS_ ?_
                refine tk 3 (.pointer (some ⟨(p.add (i * 3)).block, (p.add (i * 3)).off + 1, none⟩)) hS_ ?_
                refine tk 4 (.agg #[.string nm, .slice A5 n5 c5]) hS_ ?_
                refine tk 5 (.slice (some p2) n c) hS_ ?_
                refine tk 6 (.int .i64 (j : Int)) hS_ ?_
                refine tk 7 (.pointer (some (p2.add (j * 2)))) hS_ ?_
                refine tk 8 (.agg #[.string f.1, .slice A6 n6 c6]) hS_ ?_
                refine tk 9 (.slice (some p3) l e) hS_ ?_
                refine tk 10 (.int .i64 (k : Int)) hS_ ?_
                refine tk 11 (.pointer (some (p3.add (k * 2)))) hS_ ?_
                refine tk 12 (.agg #[.slice A7 n7 c7, .slice B7 m7 d7]) hS_ ?_
                refine rd2 13 17 (fun K_ hK_ => ?_) fun K_ hK_ => ?_
                · rw [if_pos (by rfl)]
                  go_simp
                  go_at_call 126
                  refine (l4Match_any nm A5 n5 c5 ts f.1 A6 n6 c6 f.2 A7 n7 c7 B7 m7 d7 b wz.heap.size V (K5.out _ (Below.refl _ _)) (K6.out _ (Below.refl _ _)) (K3.out _ (Below.refl _ _)) (K4.out _ (Below.refl _ _)) (by omega) (by omega)).mono ?_; rintro e w6 ⟨A8, n8, c8, B8, m8, d8, b8, ok, lo, hi, rfl, i1, i2, i3, i4, hb6, i5, i6⟩
                  have hz6 : V.heap.size ≤ w6.heap.size := hb6.size
                  have k6 : ∀ q : Addr, q.block < wz.heap.size → w6.cell? q = V.cell? q := fun q hq => (hb6.cell (by omega)).trans (rfl)
                  have HM := Lib.hid (show BindV w6 lo hi [.slice A8 n8 c8, .slice B8 m8 d8] b8 from ⟨A8, n8, c8, B8, m8, d8, rfl, i1, i2⟩)
                  have HB6 := Lib.hid (show Below V.heap.size V w6 from ((Below.refl _ _)).trans (hb6.mono (by omega)))
                  have I5 := Lib.hid i5; have I6 := Lib.hid i6
                  refine hK_.out _ _ ⟨(k6 ⟨(p.add (i * 3)).block, (p.add (i * 3)).off + 1, none⟩ (by show (p.add (i * 3)).block < _; rw [block_add]; exact hpp)).trans x1, (k6 ⟨(p.add (i * 3)).block, (p.add (i * 3)).off + 2, none⟩ (by show (p.add (i * 3)).block < _; rw [block_add]; exact hpp)).trans x2, (k6 (p2.add (j * 2)) (by rw [block_add]; exact hpp2)).trans x3, (k6 ⟨(p2.add (j * 2)).block, (p2.add (j * 2)).off + 1, none⟩ (by show (p2.add (j * 2)).block < _; rw [block_add]; exact hpp2)).trans x4, (k6 (p3.add (k * 2)) (by rw [block_add]; exact hpp3)).trans x5, (k6 ⟨(p3.add (k * 2)).block, (p3.add (k * 2)).off + 1, none⟩ (by show (p3.add (k * 2)).block < _; rw [block_add]; exact hpp3)).trans x6⟩ fun hS_ => ?_
                  clear hK_
                  refine tk 14 (.tuple #[.agg #[.slice A8 n8 c8, .slice B8 m8 d8], .bool ok]) hS_ ?_
                  refine tk 15 (.agg #[.slice A8 n8 c8, .slice B8 m8 d8]) hS_ ?_
                  refine tk 16 (.bool ok) hS_ ?_
                  refine rd1 17 fun K_ hK_ => ?_
                  go_simp
                  obtain ⟨w7, hq7⟩ : ∃ w7, w6.alloc (.cells #[.slice none 0 0, .slice none 0 0] 128) = w7 := ⟨_, rfl⟩
                  have hb7 := below1 w6 (.cells #[.slice none 0 0, .slice none 0 0] 128)
                  have y7 := Blk.new w6 128 #[.slice none 0 0, .slice none 0 0]
                  rw [hq7] at hb7 y7
                  rw [hq7]
                  clear hq7
                  have k7 : ∀ q : Addr, q.block < wz.heap.size → w7.cell? q = V.cell? q := fun q hq => (hb7.cell (by omega)).trans (k6 q hq)
                  have y8 := y7.cell 0
                  have y9 := y7.cell 1
                  have y10 := y7.frozen 0
                  have y11 := y7.frozen 1
                  refine hK_.out _ _ ⟨(k7 ⟨(p.add (i * 3)).block, (p.add (i * 3)).off + 1, none⟩ (by show (p.add (i * 3)).block < _; rw [block_add]; exact hpp)).trans x1, (k7 ⟨(p.add (i * 3)).block, (p.add (i * 3)).off + 2, none⟩ (by show (p.add (i * 3)).block < _; rw [block_add]; exact hpp)).trans x2, (k7 (p2.add (j * 2)) (by rw [block_add]; exact hpp2)).trans x3, (k7 ⟨(p2.add (j * 2)).block, (p2.add (j * 2)).off + 1, none⟩ (by show (p2.add (j * 2)).block < _; rw [block_add]; exact hpp2)).trans x4, (k7 (p3.add (k * 2)) (by rw [block_add]; exact hpp3)).trans x5, (k7 ⟨(p3.add (k * 2)).block, (p3.add (k * 2)).off + 1, none⟩ (by show (p3.add (k * 2)).block < _; rw [block_add]; exact hpp3)).trans x6⟩ fun hS_ => ?_
                  clear hK_
                  (try simp only [Act.put, List.setIfInBounds_toArray, List.set_cons_zero, List.set_cons_succ])
                  refine rd1 18 fun K_ hK_ => ?_
                  go_simp
                  obtain ⟨w8, hq8⟩ : ∃ w8, (w7.setCell ⟨w6.heap.size, 0, none⟩ (.slice A8 n8 c8)).setCell ⟨w6.heap.size, 1, none⟩ (.slice B8 m8 d8) = w8 := ⟨_, rfl⟩
                  have hb80 : Below w6.heap.size w6 w8 := by rw [← hq8]; exact (hb7.setCell (p := ⟨w6.heap.size, 0, none⟩) (Nat.le_refl _) _).setCell (p := ⟨w6.heap.size, 1, none⟩) (Nat.le_refl _) _
                  have z7 : Blk w8 w6.heap.size 128 #[.slice A8 n8 c8, .slice B8 m8 d8] := by rw [← hq8]; exact (y7.set 0 _).set 1 _
                  rw [hq8]
                  clear hq8 y7 y8 y9 y10 y11
                  have k8 : ∀ q : Addr, q.block < wz.heap.size → w8.cell? q = V.cell? q := fun q hq => (hb80.cell (by omega)).trans (k6 q hq)
                  have hb8 : Below V.heap.size V w8 := HB6.out.trans (hb80.mono (by omega))
                  have hz80 := hb80.size
                  have hk8 : ∀ q, lo ≤ q → q < hi → w8.heap[q]? = w6.heap[q]? := fun q _ h2 => hb80.block q (by omega)
                  clear hb80 hb7 k7
                  refine hK_.out _ _ ⟨(k8 ⟨(p.add (i * 3)).block, (p.add (i * 3)).off + 1, none⟩ (by show (p.add (i * 3)).block < _; rw [block_add]; exact hpp)).trans x1, (k8 ⟨(p.add (i * 3)).block, (p.add (i * 3)).off + 2, none⟩ (by show (p.add (i * 3)).block < _; rw [block_add]; exact hpp)).trans x2, (k8 (p2.add (j * 2)) (by rw [block_add]; exact hpp2)).trans x3, (k8 ⟨(p2.add (j * 2)).block, (p2.add (j * 2)).off + 1, none⟩ (by show (p2.add (j * 2)).block < _; rw [block_add]; exact hpp2)).trans x4, (k8 (p3.add (k * 2)) (by rw [block_add]; exact hpp3)).trans x5, (k8 ⟨(p3.add (k * 2)).block, (p3.add (k * 2)).off + 1, none⟩ (by show (p3.add (k * 2)).block < _; rw [block_add]; exact hpp3)).trans x6⟩ fun hS_ => ?_
                  clear hK_
                  refine tk 19 (.bool ok) hS_ ?_
                  refine wpAnyH_done (by kernel_rfl) ?_ _
                  have HG8 := Lib.hid (HGV.out.below BindV.keep hb8)
                  have hz8 := hb8.size
                  have HM8 := Lib.hid (BindV.keep _ _ _ _ _ _ HM.out (fun q q1 h2 => hk8 q (by omega) (by omega)))
                  have u1 : w8.cell? ⟨w6.heap.size, 0, none⟩ = some (.slice A8 n8 c8) := z7.cell 0
                  have u2 : w8.cell? ⟨w6.heap.size, 1, none⟩ = some (.slice B8 m8 d8) := z7.cell 1
                  have hlow := Lib.hid (show ∀ g, (Value.slice D zs.length f').ownBlock = some g → g < lo ∨ hi ≤ g from fun g hg => by
                    have h1 := HGV.out.K.lt g hg
                    rcases i4 with h2 | h2
                    · right; omega
                    · left; omega)
                  have hhi8 : hi ≤ w8.heap.size := by omega
                  clear hS_ hk8 k6 k8 x1 x2 x3 x4 x5 x6 f1 f2 K3 K4 K5 K6 hb8 z7
                  cases ok with
                  | false =>
                    have hno := I6.out rfl
                    have hstep := Lib.hid (show zs.map (·.x) = (bs.take k).flatMap (fitsL xs (nm, ts)) ++ fitsL (xs.take (j + 1)) (nm, ts) b from by rw [fits_take HGF.out, hno, HZS.out]; simp)
                    clear hno
                    go_wp2
                    go_roundw
                    case rel => exact ⟨j + 1, D, f', zs, by omega, by go_num, rfl, by have := HZK.out; omega, hstep.out, HG8.out⟩
                    case measure => simp [intOf]; omega
                  | true =>
                    have hyes := I5.out rfl
                    have HMORE := Lib.hid (show ∀ (g' cap' : Nat) (w9 : World), w9.ownsRow wz.heap.size 128 2 (.slice (some ⟨g', 0, none⟩) (zs.length + 1) cap') (zs.length + 1) (ecells zs ++ [.slice A8 n8 c8, .slice B8 m8 d8]) → (w8.alloc (.cells #[.slice A8 n8 c8, .slice B8 m8 d8] 128)).grownBy w9 (Value.slice D zs.length f').ownBlock → ((Value.slice D zs.length f').ownBlock = some g' ∨ g' = w8.heap.size + 1) → GR 128 2 BindV wz wz.heap.size (.slice (some ⟨g', 0, none⟩) (zs.length + 1) cap') (zs ++ [⟨lo, hi, [.slice A8 n8 c8, .slice B8 m8 d8], b8⟩]) w9 from fun g' cap' w9 hown' hgrow' hat' =>
                      HG8.out.more (x := ⟨lo, hi, [.slice A8 n8 c8, .slice B8 m8 d8], b8⟩) BindV.keep (below1 w8 _) rfl (BindV.keep _ _ _ _ _ _ HM8.out (fun q _ h2 => (below1 w8 _).block q (by have h3 : q < hi := h2; omega))) (by simp; omega) hlow.out hown' hgrow' (hat'.imp id (fun e => by rw [e]; simp)))
                    have hstep := Lib.hid (show (zs ++ [(⟨lo, hi, [.slice A8 n8 c8, .slice B8 m8 d8], b8⟩ : Ex Bd)]).map (·.x) = (bs.take k).flatMap (fitsL xs (nm, ts)) ++ fitsL (xs.take (j + 1)) (nm, ts) b from by rw [fits_take HGF.out, hyes, List.map_append, HZS.out, List.append_assoc]; rfl)
                    have hbase : wz.heap.size ≤ w8.heap.size := by omega
                    clear hyes
                    go_wp2_with (first | (at_builtin; refine wpList_append_lies _ rfl _ _ 124 rfl wz.heap.size 128 i0 _ 2 48 Tryz.underlying124 HI.out HZ.out HSZ.out HYY.out rfl (by decide) _ _ _ rfl (HG8.out.K.alloc _) ⟨w8.heap.size, 0, none⟩ 1 1 [.slice A8 n8 c8, .slice B8 m8 d8] rfl rfl (two_new _ _ _ _) (by simp [Value.oneCell']) (by omega) (by unfold maxLen; omega) (by omega) (by simp; omega) (w8.heap.size + 1) (by simp) ?_; intro g' cap' w9 hown' hgrow' hat' _; have HN := Lib.hid (HMORE.out _ _ _ hown' hgrow' hat'); clear hown' hgrow' hat'))
                    go_roundw
                    case rel => exact ⟨j + 1, _, _, zs ++ [(⟨lo, hi, [.slice A8 n8 c8, .slice B8 m8 d8], b8⟩ : Ex Bd)], by omega, by go_num, by rw [List.length_append]; rfl, by rw [List.length_append]; have := HZK.out; simp; omega, hstep.out, by rw [List.length_append]; exact HN.out⟩
                    case measure => simp [intOf]; omega
                · rw [if_pos (by rfl)]
                  go_simp
                  obtain ⟨w5, hq5⟩ : ∃ w5, V.alloc (.cells #[.slice none 0 0, .slice none 0 0] 128) = w5 := ⟨_, rfl⟩
                  have hb5 := below1 V (.cells #[.slice none 0 0, .slice none 0 0] 128)
                  have y5 := Blk.new V 128 #[.slice none 0 0, .slice none 0 0]
                  have hz5 : V.heap.size + 1 ≤ w5.heap.size := by rw [← hq5]; simp
                  rw [hq5] at hb5 y5
                  rw [hq5]
                  clear hq5
                  have k5 : ∀ q : Addr, q.block < wz.heap.size → w5.cell? q = V.cell? q := fun q hq => hb5.cell (by omega)
                  refine hK_.out _ _ ⟨(k5 ⟨(p.add (i * 3)).block, (p.add (i * 3)).off + 1, none⟩ (by show (p.add (i * 3)).block < _; rw [block_add]; exact hpp)).trans x1, (k5 ⟨(p.add (i * 3)).block, (p.add (i * 3)).off + 2, none⟩ (by show (p.add (i * 3)).block < _; rw [block_add]; exact hpp)).trans x2, (k5 (p2.add (j * 2)) (by rw [block_add]; exact hpp2)).trans x3, (k5 ⟨(p2.add (j * 2)).block, (p2.add (j * 2)).off + 1, none⟩ (by show (p2.add (j * 2)).block < _; rw [block_add]; exact hpp2)).trans x4, (k5 (p3.add (k * 2)) (by rw [block_add]; exact hpp3)).trans x5, (k5 ⟨(p3.add (k * 2)).block, (p3.add (k * 2)).off + 1, none⟩ (by show (p3.add (k * 2)).block < _; rw [block_add]; exact hpp3)).trans x6⟩ fun hS_ => ?_
                  clear hK_
                  (try simp only [Act.put, List.setIfInBounds_toArray, List.set_cons_zero, List.set_cons_succ])
                  refine rd1 13 fun K_ hK_ => ?_
                  go_simp
                  go_at_call 126
                  refine (l4Match_any nm A5 n5 c5 ts f.1 A6 n6 c6 f.2 A7 n7 c7 B7 m7 d7 b wz.heap.size w5 (K5.out _ hb5) (K6.out _ hb5) (K3.out _ hb5) (K4.out _ hb5) (by omega) (by omega)).mono ?_; rintro e w6 ⟨A8, n8, c8, B8, m8, d8, b8, ok, lo, hi, rfl, i1, i2, i3, i4, hb6, i5, i6⟩
                  have hz6 : w5.heap.size ≤ w6.heap.size := hb6.size
                  have k6 : ∀ q : Addr, q.block < wz.heap.size → w6.cell? q = V.cell? q := fun q hq => (hb6.cell (by omega)).trans (k5 q hq)
                  have HM := Lib.hid (show BindV w6 lo hi [.slice A8 n8 c8, .slice B8 m8 d8] b8 from ⟨A8, n8, c8, B8, m8, d8, rfl, i1, i2⟩)
                  have HB6 := Lib.hid (show Below V.heap.size V w6 from (hb5).trans (hb6.mono (by omega)))
                  have I5 := Lib.hid i5; have I6 := Lib.hid i6
                  have y7 := y5.below hb6
                  have y8 := y7.cell 0
                  have y9 := y7.cell 1
                  have y10 := y7.frozen 0
                  have y11 := y7.frozen 1
                  refine hK_.out _ _ ⟨(k6 ⟨(p.add (i * 3)).block, (p.add (i * 3)).off + 1, none⟩ (by show (p.add (i * 3)).block < _; rw [block_add]; exact hpp)).trans x1, (k6 ⟨(p.add (i * 3)).block, (p.add (i * 3)).off + 2, none⟩ (by show (p.add (i * 3)).block < _; rw [block_add]; exact hpp)).trans x2, (k6 (p2.add (j * 2)) (by rw [block_add]; exact hpp2)).trans x3, (k6 ⟨(p2.add (j * 2)).block, (p2.add (j * 2)).off + 1, none⟩ (by show (p2.add (j * 2)).block < _; rw [block_add]; exact hpp2)).trans x4, (k6 (p3.add (k * 2)) (by rw [block_add]; exact hpp3)).trans x5, (k6 ⟨(p3.add (k * 2)).block, (p3.add (k * 2)).off + 1, none⟩ (by show (p3.add (k * 2)).block < _; rw [block_add]; exact hpp3)).trans x6⟩ fun hS_ => ?_
                  clear hK_
                  refine tk 14 (.tuple #[.agg #[.slice A8 n8 c8, .slice B8 m8 d8], .bool ok]) hS_ ?_
                  refine tk 15 (.agg #[.slice A8 n8 c8, .slice B8 m8 d8]) hS_ ?_
                  refine tk 16 (.bool ok) hS_ ?_
                  refine rd1 18 fun K_ hK_ => ?_
                  go_simp
                  obtain ⟨w8, hq8⟩ : ∃ w8, (w6.setCell ⟨V.heap.size, 0, none⟩ (.slice A8 n8 c8)).setCell ⟨V.heap.size, 1, none⟩ (.slice B8 m8 d8) = w8 := ⟨_, rfl⟩
                  have hb8 : Below V.heap.size V w8 := by rw [← hq8]; exact (HB6.out.setCell (p := ⟨V.heap.size, 0, none⟩) (Nat.le_refl _) _).setCell (p := ⟨V.heap.size, 1, none⟩) (Nat.le_refl _) _
                  have z7 : Blk w8 V.heap.size 128 #[.slice A8 n8 c8, .slice B8 m8 d8] := by rw [← hq8]; exact (y7.set 0 _).set 1 _
                  have hk8 : ∀ q, lo ≤ q → q < hi → w8.heap[q]? = w6.heap[q]? := fun q h1 h2 => by rw [← hq8]; exact (Below.heap_setCell _ _ _ q (by show q ≠ V.heap.size; omega)).trans (Below.heap_setCell _ _ _ q (by show q ≠ V.heap.size; omega))
                  have hz80 : w6.heap.size ≤ w8.heap.size := by rw [← hq8, size_setCell, size_setCell]; exact Nat.le_refl _
                  rw [hq8]
                  clear hq8 y5 y7 y8 y9 y10 y11
                  have k8 : ∀ q : Addr, q.block < wz.heap.size → w8.cell? q = V.cell? q := fun q hq => hb8.cell (by omega)
                  clear k5
                  refine hK_.out _ _ ⟨(k8 ⟨(p.add (i * 3)).block, (p.add (i * 3)).off + 1, none⟩ (by show (p.add (i * 3)).block < _; rw [block_add]; exact hpp)).trans x1, (k8 ⟨(p.add (i * 3)).block, (p.add (i * 3)).off + 2, none⟩ (by show (p.add (i * 3)).block < _; rw [block_add]; exact hpp)).trans x2, (k8 (p2.add (j * 2)) (by rw [block_add]; exact hpp2)).trans x3, (k8 ⟨(p2.add (j * 2)).block, (p2.add (j * 2)).off + 1, none⟩ (by show (p2.add (j * 2)).block < _; rw [block_add]; exact hpp2)).trans x4, (k8 (p3.add (k * 2)) (by rw [block_add]; exact hpp3)).trans x5, (k8 ⟨(p3.add (k * 2)).block, (p3.add (k * 2)).off + 1, none⟩ (by show (p3.add (k * 2)).block < _; rw [block_add]; exact hpp3)).trans x6⟩ fun hS_ => ?_
                  clear hK_
                  refine tk 19 (.bool ok) hS_ ?_
                  refine wpAnyH_done (by kernel_rfl) ?_ _
                  have HG8 := Lib.hid (HGV.out.below BindV.keep hb8)
                  have hz8 := hb8.size
                  have HM8 := Lib.hid (BindV.keep _ _ _ _ _ _ HM.out (fun q q1 h2 => hk8 q (by omega) (by omega)))
                  have u1 : w8.cell? ⟨V.heap.size, 0, none⟩ = some (.slice A8 n8 c8) := z7.cell 0
                  have u2 : w8.cell? ⟨V.heap.size, 1, none⟩ = some (.slice B8 m8 d8) := z7.cell 1
                  have hlow := Lib.hid (show ∀ g, (Value.slice D zs.length f').ownBlock = some g → g < lo ∨ hi ≤ g from fun g hg => by
                    have h1 := HGV.out.K.lt g hg
                    rcases i4 with h2 | h2
                    · right; omega
                    · left; omega)
                  have hhi8 : hi ≤ w8.heap.size := by omega
                  clear hS_ hk8 k6 k8 x1 x2 x3 x4 x5 x6 f1 f2 K3 K4 K5 K6 hb8 z7
                  cases ok with
                  | false =>
                    have hno := I6.out rfl
                    have hstep := Lib.hid (show zs.map (·.x) = (bs.take k).flatMap (fitsL xs (nm, ts)) ++ fitsL (xs.take (j + 1)) (nm, ts) b from by rw [fits_take HGF.out, hno, HZS.out]; simp)
                    clear hno
                    go_wp2
                    go_roundw
                    case rel => exact ⟨j + 1, D, f', zs, by omega, by go_num, rfl, by have := HZK.out; omega, hstep.out, HG8.out⟩
                    case measure => simp [intOf]; omega
                  | true =>
                    have hyes := I5.out rfl
                    have HMORE := Lib.hid (show ∀ (g' cap' : Nat) (w9 : World), w9.ownsRow wz.heap.size 128 2 (.slice (some ⟨g', 0, none⟩) (zs.length + 1) cap') (zs.length + 1) (ecells zs ++ [.slice A8 n8 c8, .slice B8 m8 d8]) → (w8.alloc (.cells #[.slice A8 n8 c8, .slice B8 m8 d8] 128)).grownBy w9 (Value.slice D zs.length f').ownBlock → ((Value.slice D zs.length f').ownBlock = some g' ∨ g' = w8.heap.size + 1) → GR 128 2 BindV wz wz.heap.size (.slice (some ⟨g', 0, none⟩) (zs.length + 1) cap') (zs ++ [⟨lo, hi, [.slice A8 n8 c8, .slice B8 m8 d8], b8⟩]) w9 from fun g' cap' w9 hown' hgrow' hat' =>
                      HG8.out.more (x := ⟨lo, hi, [.slice A8 n8 c8, .slice B8 m8 d8], b8⟩) BindV.keep (below1 w8 _) rfl (BindV.keep _ _ _ _ _ _ HM8.out (fun q _ h2 => (below1 w8 _).block q (by have h3 : q < hi := h2; omega))) (by simp; omega) hlow.out hown' hgrow' (hat'.imp id (fun e => by rw [e]; simp)))
                    have hstep := Lib.hid (show (zs ++ [(⟨lo, hi, [.slice A8 n8 c8, .slice B8 m8 d8], b8⟩ : Ex Bd)]).map (·.x) = (bs.take k).flatMap (fitsL xs (nm, ts)) ++ fitsL (xs.take (j + 1)) (nm, ts) b from by rw [fits_take HGF.out, hyes, List.map_append, HZS.out, List.append_assoc]; rfl)
                    have hbase : wz.heap.size ≤ w8.heap.size := by omega
                    clear hyes
                    go_wp2_with (first | (at_builtin; refine wpList_append_lies _ rfl _ _ 124 rfl wz.heap.size 128 i0 _ 2 48 Tryz.underlying124 HI.out HZ.out HSZ.out HYY.out rfl (by decide) _ _ _ rfl (HG8.out.K.alloc _) ⟨w8.heap.size, 0, none⟩ 1 1 [.slice A8 n8 c8, .slice B8 m8 d8] rfl rfl (two_new _ _ _ _) (by simp [Value.oneCell']) (by omega) (by unfold maxLen; omega) (by omega) (by simp; omega) (w8.heap.size + 1) (by simp) ?_; intro g' cap' w9 hown' hgrow' hat' _; have HN := Lib.hid (HMORE.out _ _ _ hown' hgrow' hat'); clear hown' hgrow' hat'))
                    go_roundw
                    case rel => exact ⟨j + 1, _, _, zs ++ [(⟨lo, hi, [.slice A8 n8 c8, .slice B8 m8 d8], b8⟩ : Ex Bd)], by omega, by go_num, by rw [List.length_append]; rfl, by rw [List.length_append]; have := HZK.out; simp; omega, hstep.out, by rw [List.length_append]; exact HN.out⟩
                    case measure => simp [intOf]; omega
              · have hjn : j = n := by omega
                have hfl := Lib.hid (show zs.map (·.x) = (bs.take (k + 1)).flatMap (fitsL xs (nm, ts)) from by
                  rw [HZS.out, flatMap_take _ HGB.out, show xs.take j = xs from List.take_of_length_le (by rw [L1.out]; omega)])
                have hzn := Lib.hid (rowNext hlj HZK.out hj)
                clear hG hzk
                go_wp2
                go_roundw
                case rel => exact ⟨k + 1, D, f', zs, by omega, by go_num, rfl, hzn.out, hfl.out, HG.out⟩
                case measure => simp [intOf]; omega
          · have hR := BindV.reads HG.out
            have hfl := Lib.hid (show zs.map (·.x) = (qs.take (i + 1)).foldl (stepB xs) [[]] from by
              rw [hnext.out, HZS.out, List.take_of_length_le (by rw [HC.out.1]; omega)]
              unfold stepB; rw [if_neg (by simp)])
            have HR := Lib.hid hR
            clear hR hG
            go_wp2
            go_roundw
            case rel => exact ⟨i + 1, D, _, f, _, by omega, by go_num, rfl, HR.out, hfl.out, HB.out.trans (HG.out.gr.mono hgs)⟩
            case measure => simp [intOf]; omega
    · have hall : (qs.take i).foldl (stepB xs) [[]] = allB xs qs := by unfold allB; rw [List.take_of_length_le (by rw [L2.out]; omega)]
      have HALL := Lib.hid (show bs = allB xs qs from HBS.out.trans hall)
      have K1 := Lib.hid ((H1.out.below AtomE.stays hb (Nat.le_refl _)).keep AtomE.stays (w' := wr) (lo' := 0) (hi' := wr.heap.size) (fun _ _ _ => rfl) (Nat.le_refl _) hgs)
      have K2 := Lib.hid ((H2.out.below PartE.stays hb (Nat.le_refl _)).keep PartE.stays (w' := wr) (lo' := 0) (hi' := wr.heap.size) (fun _ _ _ => rfl) (Nat.le_refl _) hgs)
      clear hall hC hb
      go_wp2_with fail
      refine (l4Without_any A n c xs B m d qs C l e bs wr K1.out K2.out HC.out HRR.out (fun b hb q hq => (HSM.out b hb).2 q hq) H64.out hlb).mono ?_; rintro e9 w9 ⟨D, r, f, rfl, hD, hb9⟩
      have HD := Lib.hid (show IsBinds w9 0 w9.heap.size D r f (rowsB xs qs) from by unfold rowsB; rw [← HALL.out]; exact hD)
      have HB9 := Lib.hid (HB.out.trans (hb9.mono hgs))
      clear hD hb9
      go_wp2
      go_ret
      exact ⟨D, r, f, rfl, HD.out, HB9.out⟩

end Go.Proofs.YtcigljngiemdeaaGreat
