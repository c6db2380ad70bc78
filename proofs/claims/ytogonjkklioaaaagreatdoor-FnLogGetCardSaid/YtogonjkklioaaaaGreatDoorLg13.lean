/-
  Texts of one claim, put together.
-/
import Derived.Test.YtogonjkklioaaaaGreatDoorLg10
import Derived.Test.YtogonjkklioaaaaGreatDoorLg11
import Derived.Test.YtogonjkklioaaaaGreatDoorLg12
set_option maxRecDepth 100000
set_option maxHeartbeats 8000000
namespace Go.Proofs.YtogonjkklioaaaaGreatDoor
open Go.RowKit
theorem row_bound {n i m l k j : Nat} (hP : (n + 1) ^ m ≤ 8589934592) (hi : i < m) (hl : l ≤ (n + 1) ^ i) (hk : k < l) (hj : j < n) : k * n + j + 1 ≤ 8589934592 := by
  have h1 : (n + 1) ^ (i + 1) ≤ (n + 1) ^ m := Nat.pow_le_pow_right qaa hi; have h2 : (k + 1) * n ≤ l * n := Nat.mul_le_mul_right _ hk; have h3 : l * n ≤ (n + 1) ^ i * (n + 1) := Nat.mul_le_mul hl qaa; rw [Nat.pow_succ] at h1; rw [Nat.add_mul, Nat.one_mul] at h2; omega
theorem l_bound {n i m l : Nat} (hP : (n + 1) ^ m ≤ 8589934592) (hi : i ≤ m) (hl : l ≤ (n + 1) ^ i) : l ≤ 8589934592 :=
  Nat.le_trans hl (Nat.le_trans (Nat.pow_le_pow_right qaa hi) hP)
theorem rowNext {n k j : Nat} (hj : ¬ j < n) {z : Nat} (hz : z ≤ k * n + j) (hjn : j ≤ n) : z ≤ (k + 1) * n := by
  rw [Nat.add_mul, Nat.one_mul]; omega
theorem fits_take {xs : List At} {a : At} {b : Bd} {j : Nat} {f : At} (h : xs[j]? = some f) : zik (xs.take (j + 1)) a b = zik (xs.take j) a b ++ (match zhd a f b with | some b' => [b'] | none => []) := by
  unfold zik; rw [List.take_add_one, h, List.filterMap_append]; congr 1; cases hm : zhd a f b <;> simp [hm]
theorem one_bind (w : World) : zjf (w.alloc (.cells #[.slice none 0 0, .slice none 0 0] 230)) 0 (w.alloc (.cells #[.slice none 0 0, .slice none 0 0] 230)).heap.size (some ⟨w.heap.size, 0, none⟩) 1 1 [[]] := by
  refine ⟨rfl, nl _, by unfold maxLen; omega, fun _ => ⟨_, rfl, Nat.zero_le _, by simp, fun i x hx => ?_⟩⟩; have hi : i = 0 := by have := (List.getElem?_eq_some_iff.1 hx).1; simp at this; omega
  subst hi; simp at hx; subst hx; have a0 : (⟨w.heap.size, 0, none⟩ : Addr).add (0 * 2) = ⟨w.heap.size, 0, none⟩ := by unfold Addr.add; simp
  rw [a0]; exact ⟨⟨none, 0, 0, by simp [go_sem], rfl, nl _, by unfold maxLen; omega, fun h => by omega⟩, ⟨none, 0, 0, by simp [go_sem, zcw], rfl, nl _, by unfold maxLen; omega, fun h => by omega⟩⟩
theorem ZAllS1 {p : Prop} (h : p := by
  have hno := I6.out rfl; have hstep := hid (show zs.map (·.x) = (bs.take k).flatMap (zik xs (nm, ts)) ++ zik (xs.take (j + 1)) (nm, ts) b from by rw [fits_take HGF.out, hno, HZS.out]; simp); clear hno; go_wp2; go_roundw
  case rel => exact ⟨j + 1, D, f', zs, by omega, by go_num, rfl, by have := HZK.out; omega, hstep.out, HG8.out⟩
  case measure => exact qms) : p := h
theorem ZAllS0 {p : Prop} (h : p := by
  have hyes := I5.out rfl
  have HMORE := hid (show ∀ (g' cap' : Nat) (w9 : World), w9.ownsRow wz.heap.size 230 2 (.slice (some ⟨g', 0, none⟩) (zs.length + 1) cap') (zs.length + 1) (zea zs ++ [.slice A8 n8 c8, .slice B8 m8 d8]) → (w8.alloc (.cells #[.slice A8 n8 c8, .slice B8 m8 d8] 230)).grownBy w9 (Value.slice D zs.length f').ownBlock → ((Value.slice D zs.length f').ownBlock = some g' ∨ g' = w8.heap.size + 1) → GR 230 2 BindV wz wz.heap.size (.slice (some ⟨g', 0, none⟩) (zs.length + 1) cap') (zs ++ [⟨lo, hi, [.slice A8 n8 c8, .slice B8 m8 d8], b8⟩]) w9 from fun g' cap' w9 hown' hgrow' hat' =>
    HG8.out.more (x := ⟨lo, hi, [.slice A8 n8 c8, .slice B8 m8 d8], b8⟩) BindV.keep (zac w8 _) rfl (BindV.keep _ _ _ _ _ _ HM8.out (fun q _ h2 => (zac w8 _).block q (by have h3 : q < hi := h2; omega))) qah hlow.out hown' hgrow' (hat'.imp id (fun e => by rw [e]; simp)))
  have hstep := hid (show (zs ++ [(⟨lo, hi, [.slice A8 n8 c8, .slice B8 m8 d8], b8⟩ : Ex Bd)]).map (·.x) = (bs.take k).flatMap (zik xs (nm, ts)) ++ zik (xs.take (j + 1)) (nm, ts) b from by rw [fits_take HGF.out, hyes, List.map_append, HZS.out, List.append_assoc]; rfl); have hbase : wz.heap.size ≤ w8.heap.size := qaa; clear hyes; go_wp2_with (first | (at_builtin; refine wpList_append_lies _ rfl _ _ 226 rfl wz.heap.size 230 i0 _ 2 48 Tryz.underlying226 HI.out HZ.out HSZ.out HYY.out rfl qan _ _ _ rfl (HG8.out.K.alloc _) ⟨w8.heap.size, 0, none⟩ 1 1 [.slice A8 n8 c8, .slice B8 m8 d8] rfl rfl (zbr _ _ _ _) qal qaa qaf qaa qah (w8.heap.size + 1) qag ?_; intro g' cap' w9 hown' hgrow' hat' _; have HN := hid (HMORE.out _ _ _ hown' hgrow' hat'); clear hown' hgrow' hat'))
  go_roundw
  case rel => exact ⟨j + 1, _, _, zs ++ [(⟨lo, hi, [.slice A8 n8 c8, .slice B8 m8 d8], b8⟩ : Ex Bd)], by omega, by go_num, by rw [List.length_append]; rfl, by rw [List.length_append]; have := HZK.out; simp; omega, hstep.out, by rw [List.length_append]; exact HN.out⟩
  case measure => exact qms) : p := h
theorem l4All_any (A : Option Addr) (n c : Nat) (xs : List At) (B : Option Addr) (m d : Nat) (qs : List Pt) (w : World) (h1 : IsAtoms w 0 w.heap.size A n c xs) (h2 : zeg w 0 w.heap.size B m d qs)
    (hr : zaj xs = true) (h64 : ∀ q ∈ qs, q.2.2.length ≤ 64) (hm64 : m ≤ 64) (hmax : (n + 1) ^ m ≤ 8589934592) :
    Calls Tryz.prog 198 #[.slice A n c, .slice B m d] w fun e w' => ∃ D r f, e = .returned (.slice D r f) ∧ zjf w' 0 w'.heap.size D r f (rowsB xs qs) ∧ Below w.heap.size w w' := by
  have hn := h1.len; unfold maxLen at hn; have L1 := hid h1.1; have L2 := hid h2.1; have e8 := hid (zpv h1); have H1 := hid h1; have H2 := hid h2; have HRR := hid hr; have e6 := hid h64; have HP := hid hmax; clear h1 h2 hr h64 hmax; obtain ⟨i0, hi, hz, hsz, hby⟩ := zpa Tryz.infoBind; have HI := hid hi; have HZ := hid hz; have HSZ := hid hsz; have HYY := hid hby; clear hi hz hsz hby; have hb1 := zac w (.cells #[.slice none 0 0, .slice none 0 0] 230); have ho := one_bind w; obtain ⟨w1, b7⟩ : ∃ w1, w.alloc (.cells #[.slice none 0 0, .slice none 0 0] 230) = w1 := ⟨_, rfl⟩
  rw [b7] at hb1 ho; have HO := hid ho; have HB1 := hid hb1; have j6 := hid b7; clear ho hb1 b7; go_enter Tryz.func198, Tryz.ntmps198; go_wp2_with (rw [j6.out]); go_loopw [5, 6] (fun o x wr => ∃ (i : Nat) (C : Option Addr) (l e : Nat) (bs : List Bd), i ≤ m ∧ x = .int .i64 (i : Int) ∧ o = .slice C l e ∧ zjf wr 0 wr.heap.size C l e bs ∧ bs = (qs.take i).foldl (zjj xs) [[]] ∧ Below w.heap.size w wr) (fun _ x _ => m - (intOf x).toNat)
  case atStart => exact ⟨0, _, 1, 1, [[]], Nat.zero_le _, rfl, rfl, HO.out, rfl, HB1.out⟩
  case round =>
    obtain ⟨i, C, l, e, bs, hi, rfl, rfl, hC, b5, hb⟩ := hrel; have a7 := hb.size
    have h5 : bs.length ≤ (n + 1) ^ i := by
      have h1 := znt xs (qs.take i) [[]]; rw [← b5, List.length_take, L1.out, L2.out, Nat.min_eq_left hi] at h1; simpa using h1
    have c0 : l ≤ (n + 1) ^ i := by rw [← hC.1]; exact h5
    have l9 := l_bound HP.out hi c0; have HC := hid hC; have k3 := hid b5; have HB := hid hb; have HLL := hid c0
    have HSM := hid (show ∀ b ∈ bs, SmallBd (64 * 64) b from fun b hm => by
      rw [b5] at hm; have h1 := zit e8.out (body := qs.take i) (out := [[]]) (K := 0) (fun c hc => by rw [List.mem_singleton.1 hc]; exact ⟨nl _, fun q hq => by simp at hq⟩) (fun q hq => e6.out q (List.mem_of_mem_take hq)) b hm; exact h1.up qdi)
    clear HO HB1 j6 b5 h5 c0; by_cases hlt : i < m
    · have l7 : (i : Int) < (m : Int) := qaa
      obtain ⟨p, q, hB, l5, i7, g0, hE⟩ := (H2.out.below PartE.stays hb (nl _)).at_ hlt; obtain ⟨A5, n5, c5, d1, d2, d3, d4, d5⟩ := hE.out; subst hB; have k4 : p.block < w.heap.size := i7; have HGQ := hid g0; have J5 := hid d5; have D3 := hid d3; have hn5 : n5 ≤ 64 := by rw [← d5.1]; exact e6.out q (List.mem_of_getElem? g0)
      obtain ⟨nt, nm, ts⟩ := q; have hnext := hid (show (qs.take (i + 1)).foldl (zjj xs) [[]] = zjj xs bs (nt, nm, ts) from by rw [zif _ _ HGQ.out, k3.out]); clear hE g0 d5 d3 l5 i7 hC
      cases nt with
      | true =>
        go_wp2; go_roundw
        case rel => exact ⟨i + 1, C, l, e, bs, by omega, by go_num, rfl, HC.out, by rw [hnext.out]; rfl, HB.out⟩
        case measure => exact qms
      | false =>
        have h7 := zac wr (.cells #[] 230); have g8 : GR 230 2 BindV wr wr.heap.size (.slice (some ⟨wr.heap.size, 0, none⟩) 0 0) [] (wr.alloc (.cells #[] 230)) := GR.start _ ⟨rfl, .inr ⟨wr.heap.size, 0, #[], rfl, nl _, heap_alloc_new wr _, nl _, by unfold maxLen; omega, rfl, rfl⟩⟩ (nl _) h7; obtain ⟨wq, b9⟩ : ∃ wq, wr.alloc (.cells #[] 230) = wq := ⟨_, rfl⟩; rw [b9] at g8; have k0 := hid g8; have j9 := hid b9; clear h7 g8 b9; go_wp2_with (rw [j9.out]); obtain ⟨wz, rfl⟩ : ∃ wz : World, wz = wr := ⟨_, rfl⟩
        go_loopw [7, 8] (fun o x wr => ∃ (k : Nat) (D : Option Addr) (f : Nat) (zs : List (Ex Bd)), k ≤ l ∧ x = .int .i64 (k : Int) ∧ o = .slice D zs.length f ∧ zs.length ≤ k * n ∧ zs.map (·.x) = (bs.take k).flatMap (zik xs (nm, ts)) ∧ GR 230 2 BindV wz wz.heap.size (.slice D zs.length f) zs wr) (fun _ x _ => l - (intOf x).toNat)
        case atStart => exact ⟨0, _, 0, [], Nat.zero_le _, rfl, rfl, by simp, by simp, k0.out⟩
        case round =>
          obtain ⟨k, D, f, zs, hk, rfl, rfl, a6, b3, hG⟩ := hrel; have HZS := hid b3; have HG := hid hG; have HZK := hid a6; have j0 : wz.heap.size ≤ wr.heap.size := hG.gr.size; clear k0 j9 b3 a6; by_cases hlk : k < l
          · have l2 : (k : Int) < (l : Int) := qaa
            obtain ⟨p3, b, l4, l1, i8, hgb, j8⟩ := HC.out.at_ hlk; obtain ⟨A7, n7, c7, B7, m7, d7, g1, g2, g3, g4⟩ := j8.out; subst l4; have a9 : p3.block < wz.heap.size := i8; have l8 := hid hgb; have J3 := hid g3; have J4 := hid g4; have hsb := (HSM.out b (List.mem_of_getElem? hgb)).1; clear j8 hgb g3 g4 l1 i8 hG; go_wp2; go_loopw [7, 9] (fun o x wr => ∃ (j : Nat) (D : Option Addr) (f : Nat) (zs : List (Ex Bd)), j ≤ n ∧ x = .int .i64 (j : Int) ∧ o = .slice D zs.length f ∧ zs.length ≤ k * n + j ∧ zs.map (·.x) = (bs.take k).flatMap (zik xs (nm, ts)) ++ zik (xs.take j) (nm, ts) b ∧ GR 230 2 BindV wz wz.heap.size (.slice D zs.length f) zs wr) (fun _ x _ => n - (intOf x).toNat)
            case atStart => exact ⟨0, D, f, zs, Nat.zero_le _, rfl, rfl, HZK.out, by rw [HZS.out]; simp [zik], HG.out⟩
            case round =>
              clear HZS HG HZK j0; obtain ⟨j, D, f', zs, hj, rfl, rfl, a6, b3, hG⟩ := hrel; have HZS := hid b3; have HG := hid hG; have HZK := hid a6; have j0 : wz.heap.size ≤ wr.heap.size := hG.gr.size; have hbw : Below w.heap.size w wr := HB.out.trans (hG.gr.mono a7); clear b3; by_cases hlj : j < n
              · have hljI : (j : Int) < (n : Int) := qaa
                have l3 := row_bound HP.out hlt HLL.out hlk hlj; have hzb : zs.length + 1 ≤ 8589934592 := qaa; obtain ⟨p2, f, hA, l6, h8, h6, hE⟩ := (H1.out.below AtomE.stays hbw (nl _)).at_ hlj; obtain ⟨A6, n6, c6, f1, f0, f2, f3⟩ := hE.out; subst hA; have j7 : p2.block < w.heap.size := h8; have HGF := hid h6; have J6 := hid f3; clear hE h6 f3 f0 l6 h8 hG a6; have hpp : p.block < wz.heap.size := qaa; have hpp2 : p2.block < wz.heap.size := qaa; have hpp3 : p3.block < wz.heap.size := a9; obtain ⟨V, hV⟩ : ∃ V, wr.drew = V := ⟨_, rfl⟩; have a4 := hid (show GR 230 2 BindV wz wz.heap.size (.slice D zs.length f') zs V from hV ▸ HG.out.below BindV.keep (Below.refl _ _).drew)
                have hVz : wr.heap.size = V.heap.size := qbx; have b0 : ∀ q : Addr, q.block < wz.heap.size → V.cell? q = wz.cell? q := fun q hq => a4.out.gr.cell hq; have x1 : V.cell? ⟨(p.add (i * 3)).block, (p.add (i * 3)).off + 1, none⟩ = some (.string nm) := (b0 _ qaq).trans d2; have x2 : V.cell? ⟨(p.add (i * 3)).block, (p.add (i * 3)).off + 2, none⟩ = some (.slice A5 n5 c5) := (b0 _ qaq).trans d4; have x3 : V.cell? (p2.add (j * 2)) = some (.string f.1) := hV ▸ f1; have x4 : V.cell? ⟨(p2.add (j * 2)).block, (p2.add (j * 2)).off + 1, none⟩ = some (.slice A6 n6 c6) := hV ▸ f2; have x5 : V.cell? (p3.add (k * 2)) = some (.slice A7 n7 c7) := (b0 _ qdb).trans g1
                have x6 : V.cell? ⟨(p3.add (k * 2)).block, (p3.add (k * 2)).off + 1, none⟩ = some (.slice B7 m7 d7) := (b0 _ qax).trans g2; have K5 := hid (show ∀ W : World, Below V.heap.size V W → IsTerms W 0 W.heap.size A5 n5 c5 ts from fun W hb => ((J5.out.below a4.out.gr qaa).below hb qaa).keep (w' := W) (lo' := 0) (hi' := W.heap.size) (fun _ _ _ => rfl) (nl _) (by have := hb.size; omega)); have hbV : Below w.heap.size w V := HB.out.trans (a4.out.gr.mono a7); have K6 := hid (show ∀ W : World, Below V.heap.size V W → IsTerms W 0 W.heap.size A6 n6 c6 f.2 from fun W hb => (J6.out.keep (w' := W) (lo' := 0) (hi' := W.heap.size) (fun q _ h2 => (hb.cell (p := q) qaa).trans qbx) (nl _) (by have := hb.size; omega)))
                have K3 := hid (show ∀ W : World, Below V.heap.size V W → IsTexts W 0 wz.heap.size A7 n7 c7 (b.map (·.1)) from fun W hb => (J3.out.below TextE.stays a4.out.gr (nl _)).below TextE.stays hb qaa); have K4 := hid (show ∀ W : World, Below V.heap.size V W → IsTexts W 0 wz.heap.size B7 m7 d7 (b.map (·.2)) from fun W hb => (J4.out.below TextE.stays a4.out.gr (nl _)).below TextE.stays hb qaa); have HV0 := hid hV; have hfn : (f.1, f.2) = f := rfl; go_wp2_with fail; refine wp_region_held_drew (S := fun W => W.cell? ⟨(p.add (i * 3)).block, (p.add (i * 3)).off + 1, none⟩ = some (.string nm) ∧ W.cell? ⟨(p.add (i * 3)).block, (p.add (i * 3)).off + 2, none⟩ = some (.slice A5 n5 c5) ∧ W.cell? (p2.add (j * 2)) = some (.string f.1) ∧ W.cell? ⟨(p2.add (j * 2)).block, (p2.add (j * 2)).off + 1, none⟩ = some (.slice A6 n6 c6) ∧ W.cell? (p3.add (k * 2)) = some (.slice A7 n7 c7) ∧ W.cell? ⟨(p3.add (k * 2)).block, (p3.add (k * 2)).off + 1, none⟩ = some (.slice B7 m7 d7)) qab (by rw [HV0.out]; exact ⟨x1, x2, x3, x4, x5, x6⟩) ?_
                rw [HV0.out]; clear hV; intro hS_; refine tk 0 (.slice (some p) m d) hS_ ?_; refine tk 1 (.int .i64 (i : Int)) hS_ ?_; refine tk 2 (.pointer (some (p.add (i * 3)))) hS_ ?_; refine tk 3 (.pointer (some ⟨(p.add (i * 3)).block, (p.add (i * 3)).off + 1, none⟩)) hS_ ?_; refine tk 4 (.agg #[.string nm, .slice A5 n5 c5]) hS_ ?_; refine tk 5 (.slice (some p2) n c) hS_ ?_; refine tk 6 (.int .i64 (j : Int)) hS_ ?_; refine tk 7 (.pointer (some (p2.add (j * 2)))) hS_ ?_; refine tk 8 (.agg #[.string f.1, .slice A6 n6 c6]) hS_ ?_; refine tk 9 (.slice (some p3) l e) hS_ ?_; refine tk 10 (.int .i64 (k : Int)) hS_ ?_
                refine tk 11 (.pointer (some (p3.add (k * 2)))) hS_ ?_; refine tk 12 (.agg #[.slice A7 n7 c7, .slice B7 m7 d7]) hS_ ?_; refine rd2 13 17 (fun K_ hK_ => ?_) fun K_ hK_ => ?_
                · rw [if_pos qad]
                  go_simp; go_at_call 200; refine (zos nm A5 n5 c5 ts f.1 A6 n6 c6 f.2 A7 n7 c7 B7 m7 d7 b wz.heap.size V (K5.out _ (Below.refl _ _)) (K6.out _ (Below.refl _ _)) (K3.out _ (Below.refl _ _)) (K4.out _ (Below.refl _ _)) qaa qaa).mono ?_; rintro e w6 ⟨A8, n8, c8, B8, m8, d8, b8, ok, lo, hi, rfl, i1, i2, i3, i4, a5, i5, i6⟩; have hz6 : V.heap.size ≤ w6.heap.size := a5.size; have k6 : ∀ q : Addr, q.block < wz.heap.size → w6.cell? q = V.cell? q := fun q hq => (a5.cell qaa).trans (rfl); have HM := hid (show BindV w6 lo hi [.slice A8 n8 c8, .slice B8 m8 d8] b8 from ⟨A8, n8, c8, B8, m8, d8, rfl, i1, i2⟩)
                  have HB6 := hid (show Below V.heap.size V w6 from ((Below.refl _ _)).trans (a5.mono qaa)); have I5 := hid i5; have I6 := hid i6; refine hK_.out _ _ ⟨(k6 ⟨(p.add (i * 3)).block, (p.add (i * 3)).off + 1, none⟩ qaq).trans x1, (k6 ⟨(p.add (i * 3)).block, (p.add (i * 3)).off + 2, none⟩ qaq).trans x2, (k6 (p2.add (j * 2)) qdm).trans x3, (k6 ⟨(p2.add (j * 2)).block, (p2.add (j * 2)).off + 1, none⟩ qbd).trans x4, (k6 (p3.add (k * 2)) qdb).trans x5, (k6 ⟨(p3.add (k * 2)).block, (p3.add (k * 2)).off + 1, none⟩ qax).trans x6⟩ fun hS_ => ?_; clear hK_; refine tk 14 (.tuple #[.agg #[.slice A8 n8 c8, .slice B8 m8 d8], .bool ok]) hS_ ?_
                  refine tk 15 (.agg #[.slice A8 n8 c8, .slice B8 m8 d8]) hS_ ?_; refine tk 16 (.bool ok) hS_ ?_; refine rd1 17 fun K_ hK_ => ?_; go_simp; obtain ⟨w7, c3⟩ : ∃ w7, w6.alloc (.cells #[.slice none 0 0, .slice none 0 0] 230) = w7 := ⟨_, rfl⟩; have hb7 := zac w6 (.cells #[.slice none 0 0, .slice none 0 0] 230); have y7 := Blk.new w6 230 #[.slice none 0 0, .slice none 0 0]; rw [c3] at hb7 y7; rw [c3]; clear c3; have k7 : ∀ q : Addr, q.block < wz.heap.size → w7.cell? q = V.cell? q := fun q hq => (hb7.cell qaa).trans (k6 q hq)
                  have y8 := y7.cell 0; have y9 := y7.cell 1; have d9 := y7.frozen 0; have h4 := y7.frozen 1; refine hK_.out _ _ ⟨(k7 ⟨(p.add (i * 3)).block, (p.add (i * 3)).off + 1, none⟩ qaq).trans x1, (k7 ⟨(p.add (i * 3)).block, (p.add (i * 3)).off + 2, none⟩ qaq).trans x2, (k7 (p2.add (j * 2)) qdm).trans x3, (k7 ⟨(p2.add (j * 2)).block, (p2.add (j * 2)).off + 1, none⟩ qbd).trans x4, (k7 (p3.add (k * 2)) qdb).trans x5, (k7 ⟨(p3.add (k * 2)).block, (p3.add (k * 2)).off + 1, none⟩ qax).trans x6⟩ fun hS_ => ?_; clear hK_; refine rd1 18 fun K_ hK_ => ?_; go_simp; obtain ⟨w8, a3⟩ : ∃ w8, (w7.setCell ⟨w6.heap.size, 0, none⟩ (.slice A8 n8 c8)).setCell ⟨w6.heap.size, 1, none⟩ (.slice B8 m8 d8) = w8 := ⟨_, rfl⟩
                  have a2 : Below w6.heap.size w6 w8 := by rw [← a3]; exact (hb7.setCell (p := ⟨w6.heap.size, 0, none⟩) (nl _) _).setCell (p := ⟨w6.heap.size, 1, none⟩) (nl _) _
                  have z7 : Blk w8 w6.heap.size 230 #[.slice A8 n8 c8, .slice B8 m8 d8] := by rw [← a3]; exact (y7.set 0 _).set 1 _
                  rw [a3]; clear a3 y7 y8 y9 d9 h4; have k8 : ∀ q : Addr, q.block < wz.heap.size → w8.cell? q = V.cell? q := fun q hq => (a2.cell qaa).trans (k6 q hq); have hb8 : Below V.heap.size V w8 := HB6.out.trans (a2.mono qaa); have g7 := a2.size; have a8 : ∀ q, lo ≤ q → q < hi → w8.heap[q]? = w6.heap[q]? := fun q _ h2 => a2.block q qaa; clear a2 hb7 k7; refine hK_.out _ _ ⟨(k8 ⟨(p.add (i * 3)).block, (p.add (i * 3)).off + 1, none⟩ qaq).trans x1, (k8 ⟨(p.add (i * 3)).block, (p.add (i * 3)).off + 2, none⟩ qaq).trans x2, (k8 (p2.add (j * 2)) qdm).trans x3, (k8 ⟨(p2.add (j * 2)).block, (p2.add (j * 2)).off + 1, none⟩ qbd).trans x4, (k8 (p3.add (k * 2)) qdb).trans x5, (k8 ⟨(p3.add (k * 2)).block, (p3.add (k * 2)).off + 1, none⟩ qax).trans x6⟩ fun hS_ => ?_
                  clear hK_; refine tk 19 (.bool ok) hS_ ?_; refine wpAnyH_done qab ?_ _; have HG8 := hid (a4.out.below BindV.keep hb8); have hz8 := hb8.size; have HM8 := hid (BindV.keep _ _ _ _ _ _ HM.out (fun q q1 h2 => a8 q qaa qaa)); have u1 : w8.cell? ⟨w6.heap.size, 0, none⟩ = some (.slice A8 n8 c8) := z7.cell 0; have u2 : w8.cell? ⟨w6.heap.size, 1, none⟩ = some (.slice B8 m8 d8) := z7.cell 1
                  have hlow := hid (show ∀ g, (Value.slice D zs.length f').ownBlock = some g → g < lo ∨ hi ≤ g from fun g hg => by
                    have h1 := a4.out.K.lt g hg; rcases i4 with h2 | h2
                    · right; omega
                    · left; omega)
                  have e7 : hi ≤ w8.heap.size := qaa; clear hS_ a8 k6 k8 x1 x2 x3 x4 x5 x6 f1 f2 K3 K4 K5 K6 hb8 z7
                  cases ok with
                  | false =>
                    exact ZAllS1
                  | true =>
                    exact ZAllS0
                · rw [if_pos qad]
                  go_simp; obtain ⟨w5, b6⟩ : ∃ w5, V.alloc (.cells #[.slice none 0 0, .slice none 0 0] 230) = w5 := ⟨_, rfl⟩; have hb5 := zac V (.cells #[.slice none 0 0, .slice none 0 0] 230); have y5 := Blk.new V 230 #[.slice none 0 0, .slice none 0 0]; have hz5 : V.heap.size + 1 ≤ w5.heap.size := by rw [← b6]; simp
                  rw [b6] at hb5 y5; rw [b6]; clear b6; have k5 : ∀ q : Addr, q.block < wz.heap.size → w5.cell? q = V.cell? q := fun q hq => hb5.cell qaa; refine hK_.out _ _ ⟨(k5 ⟨(p.add (i * 3)).block, (p.add (i * 3)).off + 1, none⟩ qaq).trans x1, (k5 ⟨(p.add (i * 3)).block, (p.add (i * 3)).off + 2, none⟩ qaq).trans x2, (k5 (p2.add (j * 2)) qdm).trans x3, (k5 ⟨(p2.add (j * 2)).block, (p2.add (j * 2)).off + 1, none⟩ qbd).trans x4, (k5 (p3.add (k * 2)) qdb).trans x5, (k5 ⟨(p3.add (k * 2)).block, (p3.add (k * 2)).off + 1, none⟩ qax).trans x6⟩ fun hS_ => ?_; clear hK_; refine rd1 13 fun K_ hK_ => ?_; go_simp; go_at_call 200
                  refine (zos nm A5 n5 c5 ts f.1 A6 n6 c6 f.2 A7 n7 c7 B7 m7 d7 b wz.heap.size w5 (K5.out _ hb5) (K6.out _ hb5) (K3.out _ hb5) (K4.out _ hb5) qaa qaa).mono ?_; rintro e w6 ⟨A8, n8, c8, B8, m8, d8, b8, ok, lo, hi, rfl, i1, i2, i3, i4, a5, i5, i6⟩; have hz6 : w5.heap.size ≤ w6.heap.size := a5.size; have k6 : ∀ q : Addr, q.block < wz.heap.size → w6.cell? q = V.cell? q := fun q hq => (a5.cell qaa).trans (k5 q hq); have HM := hid (show BindV w6 lo hi [.slice A8 n8 c8, .slice B8 m8 d8] b8 from ⟨A8, n8, c8, B8, m8, d8, rfl, i1, i2⟩); have HB6 := hid (show Below V.heap.size V w6 from (hb5).trans (a5.mono qaa))
                  have I5 := hid i5; have I6 := hid i6; have y7 := y5.below a5; have y8 := y7.cell 0; have y9 := y7.cell 1; have d9 := y7.frozen 0; have h4 := y7.frozen 1; refine hK_.out _ _ ⟨(k6 ⟨(p.add (i * 3)).block, (p.add (i * 3)).off + 1, none⟩ qaq).trans x1, (k6 ⟨(p.add (i * 3)).block, (p.add (i * 3)).off + 2, none⟩ qaq).trans x2, (k6 (p2.add (j * 2)) qdm).trans x3, (k6 ⟨(p2.add (j * 2)).block, (p2.add (j * 2)).off + 1, none⟩ qbd).trans x4, (k6 (p3.add (k * 2)) qdb).trans x5, (k6 ⟨(p3.add (k * 2)).block, (p3.add (k * 2)).off + 1, none⟩ qax).trans x6⟩ fun hS_ => ?_; clear hK_; refine tk 14 (.tuple #[.agg #[.slice A8 n8 c8, .slice B8 m8 d8], .bool ok]) hS_ ?_
                  refine tk 15 (.agg #[.slice A8 n8 c8, .slice B8 m8 d8]) hS_ ?_; refine tk 16 (.bool ok) hS_ ?_; refine rd1 18 fun K_ hK_ => ?_; go_simp; obtain ⟨w8, a3⟩ : ∃ w8, (w6.setCell ⟨V.heap.size, 0, none⟩ (.slice A8 n8 c8)).setCell ⟨V.heap.size, 1, none⟩ (.slice B8 m8 d8) = w8 := ⟨_, rfl⟩; have hb8 : Below V.heap.size V w8 := by rw [← a3]; exact (HB6.out.setCell (p := ⟨V.heap.size, 0, none⟩) (nl _) _).setCell (p := ⟨V.heap.size, 1, none⟩) (nl _) _
                  have z7 : Blk w8 V.heap.size 230 #[.slice A8 n8 c8, .slice B8 m8 d8] := by rw [← a3]; exact (y7.set 0 _).set 1 _
                  have a8 : ∀ q, lo ≤ q → q < hi → w8.heap[q]? = w6.heap[q]? := fun q h1 h2 => by rw [← a3]; exact (hs_ _ _ _ q (by show q ≠ V.heap.size; omega)).trans (hs_ _ _ _ q (by show q ≠ V.heap.size; omega))
                  have g7 : w6.heap.size ≤ w8.heap.size := by rw [← a3, zab, zab]; exact nl _
                  rw [a3]; clear a3 y5 y7 y8 y9 d9 h4; have k8 : ∀ q : Addr, q.block < wz.heap.size → w8.cell? q = V.cell? q := fun q hq => hb8.cell qaa; clear k5; refine hK_.out _ _ ⟨(k8 ⟨(p.add (i * 3)).block, (p.add (i * 3)).off + 1, none⟩ qaq).trans x1, (k8 ⟨(p.add (i * 3)).block, (p.add (i * 3)).off + 2, none⟩ qaq).trans x2, (k8 (p2.add (j * 2)) qdm).trans x3, (k8 ⟨(p2.add (j * 2)).block, (p2.add (j * 2)).off + 1, none⟩ qbd).trans x4, (k8 (p3.add (k * 2)) qdb).trans x5, (k8 ⟨(p3.add (k * 2)).block, (p3.add (k * 2)).off + 1, none⟩ qax).trans x6⟩ fun hS_ => ?_; clear hK_; refine tk 19 (.bool ok) hS_ ?_; refine wpAnyH_done qab ?_ _
                  have HG8 := hid (a4.out.below BindV.keep hb8); have hz8 := hb8.size; have HM8 := hid (BindV.keep _ _ _ _ _ _ HM.out (fun q q1 h2 => a8 q qaa qaa)); have u1 : w8.cell? ⟨V.heap.size, 0, none⟩ = some (.slice A8 n8 c8) := z7.cell 0; have u2 : w8.cell? ⟨V.heap.size, 1, none⟩ = some (.slice B8 m8 d8) := z7.cell 1
                  have hlow := hid (show ∀ g, (Value.slice D zs.length f').ownBlock = some g → g < lo ∨ hi ≤ g from fun g hg => by
                    have h1 := a4.out.K.lt g hg; rcases i4 with h2 | h2
                    · right; omega
                    · left; omega)
                  have e7 : hi ≤ w8.heap.size := qaa; clear hS_ a8 k6 k8 x1 x2 x3 x4 x5 x6 f1 f2 K3 K4 K5 K6 hb8 z7
                  cases ok with
                  | false =>
                    exact ZAllS1
                  | true =>
                    exact ZAllS0
              · have hjn : j = n := qaa
                have g6 := hid (show zs.map (·.x) = (bs.take (k + 1)).flatMap (zik xs (nm, ts)) from by
                  rw [HZS.out, flatMap_take _ l8.out, show xs.take j = xs from List.take_of_length_le (by rw [L1.out]; omega)])
                have l0 := hid (rowNext hlj HZK.out hj); clear hG a6; go_wp2; go_roundw
                case rel => exact ⟨k + 1, D, f', zs, by omega, by go_num, rfl, l0.out, g6.out, HG.out⟩
                case measure => exact qms
          · have hR := zqk HG.out
            have g6 := hid (show zs.map (·.x) = (qs.take (i + 1)).foldl (zjj xs) [[]] from by
              rw [hnext.out, HZS.out, List.take_of_length_le (by rw [HC.out.1]; omega)]; unfold zjj; rw [if_neg qag])
            have HR := hid hR; clear hR hG; go_wp2; go_roundw
            case rel => exact ⟨i + 1, D, _, f, _, by omega, by go_num, rfl, HR.out, g6.out, HB.out.trans (HG.out.gr.mono a7)⟩
            case measure => exact qms
    · have b4 : (qs.take i).foldl (zjj xs) [[]] = allB xs qs := by unfold allB; rw [List.take_of_length_le (by rw [L2.out]; omega)]
      have g5 := hid (show bs = allB xs qs from k3.out.trans b4); have K1 := hid ((H1.out.below AtomE.stays hb (nl _)).keep AtomE.stays (w' := wr) (lo' := 0) (hi' := wr.heap.size) (fun _ _ _ => rfl) (nl _) a7); have K2 := hid ((H2.out.below PartE.stays hb (nl _)).keep PartE.stays (w' := wr) (lo' := 0) (hi' := wr.heap.size) (fun _ _ _ => rfl) (nl _) a7); clear b4 hC hb; go_wp2_with fail; refine (l4Without_any A n c xs B m d qs C l e bs wr K1.out K2.out HC.out HRR.out (fun b hb q hq => (HSM.out b hb).2 q hq) e6.out l9).mono ?_; rintro e9 w9 ⟨D, r, f, rfl, hD, hb9⟩; have HD := hid (show zjf w9 0 w9.heap.size D r f (rowsB xs qs) from by unfold rowsB; rw [← g5.out]; exact hD)
      have HB9 := hid (HB.out.trans (hb9.mono a7)); clear hD hb9; go_wp2; go_ret; exact ⟨D, r, f, rfl, HD.out, HB9.out⟩
def zhb (rs : List Rl) (T : List Nat) (level : Nat) (xs : List At) (i : Nat) : List At := ((rs.zip T).take i).foldl (fun out q => if q.2 = level then zpt xs out q.1 else out) []
theorem once_step {rs : List Rl} {T : List Nat} {level i v : Nat} {xs : List At} {r : Rl} (hr : rs[i]? = some r) (ht : T[i]? = some v) : zhb rs T level xs (i + 1) = if v = level then zpt xs (zhb rs T level xs i) r else zhb rs T level xs i := by
  have h : (rs.zip T)[i]? = some (r, v) := by rw [List.getElem?_zip_eq_some]; exact ⟨hr, ht⟩
  unfold zhb; rw [zif _ _ h]
theorem onceI_all {rs : List Rl} {T : List Nat} {level i : Nat} {xs : List At} (h : rs.length ≤ i) : zhb rs T level xs i = onceL rs T level xs := by
  unfold zhb onceL; rw [List.take_of_length_le (by rw [List.length_zip]; omega)]
theorem rows_len {xs : List At} {qs : List Pt} {n : Nat} (hn : xs.length = n) (hq : qs.length ≤ 4) (hP : (n + 1) ^ 4 ≤ 8589934592) : (rowsB xs qs).length ≤ 8589934592 := by
  have h1 := allB_len xs qs; have h2 : (rowsB xs qs).length ≤ (allB xs qs).length := List.length_filter_le _ _; rw [hn] at h1; have h3 : (n + 1) ^ qs.length ≤ (n + 1) ^ 4 := Nat.pow_le_pow_right qaa hq; omega
theorem rows_small {xs : List At} {qs : List Pt} (hf : ∀ f ∈ xs, ∀ u ∈ f.2, u.2.size ≤ maxLen) (hq : ∀ q ∈ qs, q.2.2.length ≤ 64) : ∀ b ∈ rowsB xs qs, ∀ q ∈ b, q.2.size ≤ maxLen := fun b hb =>
  (allB_small hf hq b ((List.mem_filter.1 hb).1)).2
theorem at0_get {T : List Nat} {i : Nat} (h : i < T.length) : T[i]? = some (at0 T i) := by
  unfold at0; rw [List.getElem?_eq_getElem h]; rfl
def RulesFit (rs : List Rl) : Prop := ∀ r ∈ rs, r.1.2.length ≤ 64 ∧ r.2.length ≤ 4 ∧ ∀ q ∈ r.2, q.2.2.length ≤ 64
theorem once_len {rs : List Rl} {T : List Nat} {level M : Nat} {xs : List At} (hM : ∀ r ∈ rs, (rowsB xs r.2).length ≤ M) : ∀ i, i ≤ rs.length → (zhb rs T level xs i).length ≤ i * M
  | 0, _ => by simp [zhb]
  | i + 1, hi => by
    have ih := once_len (T := T) (level := level) hM i qaa; have hri : rs[i]? = some rs[i] := List.getElem?_eq_getElem qaa; rw [Nat.add_mul, Nat.one_mul]; by_cases ht : i < T.length
    · rw [once_step hri (at0_get ht)]
      split
      · have h1 := zgh (fun b => zmu rs[i].1 b) (rowsB xs rs[i].2) (zhb rs T level xs i)
        have h2 := hM _ (List.mem_of_getElem? hri); unfold zpt; omega
      · omega
    · have e : zhb rs T level xs (i + 1) = zhb rs T level xs i := by
        unfold zhb; rw [List.take_of_length_le (by rw [List.length_zip]; omega), List.take_of_length_le (by rw [List.length_zip]; omega)]
      rw [e]; omega
theorem folds_rise (level : Nat) (xs : List At) : ∀ (zs : List (Rl × Nat)) {out : List At}, zaj out = true → zaj (zs.foldl (fun out q => if q.2 = level then zpt xs out q.1 else out) out) = true
  | [], _, h => h
  | z :: zs, out, h => by
    rw [List.foldl_cons]; refine folds_rise level xs zs ?_; by_cases e : z.2 = level
    · rw [if_pos e]; exact zev _ _ h
    · rw [if_neg e]; exact h
theorem once_rises (rs : List Rl) (T : List Nat) (level : Nat) (xs : List At) (i : Nat) : zaj (zhb rs T level xs i) = true := folds_rise level xs _ rfl
theorem l4Once_any (A : Option Addr) (n c : Nat) (rs : List Rl) (g : Nat) (T : List Nat) (level : Nat) (B : Option Addr) (m d : Nat) (xs : List At) (w : World) (h1 : zap w 0 w.heap.size A n c rs) (h2 : IntRow w g n T) (h3 : IsAtoms w 0 w.heap.size B m d xs)
    (hr : zaj xs = true) (hf : RulesFit rs) (hn : n ≤ 8) (hP : (m + 1) ^ 4 ≤ 8589934592) :
    Calls Tryz.prog 195 #[.slice A n c, .slice (some ⟨g, 0, none⟩) n n, .int .i64 (level : Int), .slice B m d] w (zng (onceL rs T level xs) w) := by
  have hm := h3.len; unfold maxLen at hm; have L1 := hid h1.1; have L3 := hid h3.1; have LT := hid h2.1; have HSZ := hid (zpv h3); have H1 := hid h1; have H2 := hid h2; have H3 := hid h3; have HRR := hid hr; have HF := hid hf; have HP := hid hP; have l3 := h2.lt; clear h1 h2 h3 hr hf hP; have hb1 := zac w (.cells #[] 51); have ho : IsAtoms (w.alloc (.cells #[] 51)) 0 (w.alloc (.cells #[] 51)).heap.size (some ⟨w.heap.size, 0, none⟩) 0 0 [] := ⟨rfl, nl _, by unfold maxLen; omega, fun h => by omega⟩
  obtain ⟨w1, b7⟩ : ∃ w1, w.alloc (.cells #[] 51) = w1 := ⟨_, rfl⟩; rw [b7] at hb1 ho; have HO := hid ho; have HB1 := hid hb1; have h4 := hid b7; clear ho hb1 b7; go_enter Tryz.func195, Tryz.ntmps195; go_wp2_with (rw [h4.out]); go_loopw [9, 10] (fun o x wr => ∃ (i : Nat) (C : Option Addr) (r e : Nat) (os : List At), i ≤ n ∧ x = .int .i64 (i : Int) ∧ o = .slice C r e ∧ IsAtoms wr 0 wr.heap.size C r e os ∧ os = zhb rs T level xs i ∧ Below w.heap.size w wr) (fun _ x _ => n - (intOf x).toNat)
  case atStart => exact ⟨0, _, 0, 0, [], Nat.zero_le _, rfl, rfl, HO.out, rfl, HB1.out⟩
  case round =>
    obtain ⟨i, C, r, e, os, hi, rfl, rfl, hC, a6, hb⟩ := hrel; have b6 := hb.size; have i5 := once_len (T := T) (level := level) (M := 8589934592) (fun r hr => rows_len L3.out (HF.out r hr).2.1 HP.out) i (by rw [L1.out]; exact hi); rw [← a6, hC.1] at i5; have HC := hid hC; have i4 := hid a6; have HB := hid hb; clear HO HB1 h4; by_cases hlt : i < n
    · have k3 : (i : Int) < (n : Int) := qaa
      obtain ⟨p, q, hA, j7, g8, b9, hE⟩ := (H1.out.below RuleE.stays hb (nl _)).at_ hlt; obtain ⟨d1, d2, ⟨A5, n5, c5, d3, d4⟩, ⟨A6, n6, c6, d5, d6⟩⟩ := hE; subst hA; have hpb : p.block < w.heap.size := g8; have b5 := HF.out q (List.mem_of_getElem? b9); have HGQ := hid b9; have J4 := hid d4; have J6 := hid d6; have D2 := hid d2; have d9 := hid b5; have hn5 : n5 ≤ 64 := by rw [← d4.1]; exact b5.1
      have j6 : n6 ≤ 4 := by rw [← d6.1]; exact b5.2.1
      have e5 : wr.cell? ⟨(p.add (i * 3)).block, (p.add (i * 3)).off + 2, none⟩ = some (.slice A6 n6 c6) := d5; have e3 : wr.cell? ⟨(p.add (i * 3)).block, (p.add (i * 3)).off + 1, none⟩ = some (.slice A5 n5 c5) := d3; have e7 : wr.cell? ⟨g, i, none⟩ = some (.int .i64 ((at0 T i : Nat) : Int)) := (H2.out.keep (hb.block g l3)).cell hlt; have a0 : (⟨g, 0, none⟩ : Addr).add i = ⟨g, i, none⟩ := by unfold Addr.add; split <;> simp_all
      obtain ⟨⟨hn, ts⟩, body⟩ := q; have hnext := hid (once_step (T := T) (level := level) (xs := xs) HGQ.out (at0_get (T := T) (i := i) (by rw [LT.out]; exact hlt))); rw [← a6] at hnext; obtain ⟨lv, i1⟩ : ∃ lv, at0 T i = lv := ⟨_, rfl⟩; rw [i1] at e7 hnext; clear b9 d4 d6 d2 d3 d5 b5 j7 g8 hC a6 i1; by_cases hle : lv = level
      · subst hle
        have hP2 : (m + 1) ^ n6 ≤ 8589934592 := Nat.le_trans (Nat.pow_le_pow_right qaa j6) HP.out; have HP2 := hid hP2; have K3 := hid ((H3.out.below AtomE.stays hb (nl _)).keep AtomE.stays (w' := wr) (lo' := 0) (hi' := wr.heap.size) (fun _ _ _ => rfl) (nl _) b6); have K6 := hid (J6.out.keep PartE.stays (w' := wr) (lo' := 0) (hi' := wr.heap.size) (fun _ _ _ => rfl) (nl _) b6); have e8 := hid (show zhb rs T lv xs (i + 1) = zpt xs os ((hn, ts), body) from by rw [hnext.out, if_pos rfl]); clear hP2 hb; go_wp2_with (rw [a0]); refine (l4All_any B m d xs A6 n6 c6 body wr K3.out K6.out HRR.out d9.out.2.2 qaa HP2.out).mono ?_; rintro e1 w4 ⟨D, l, f, rfl, hD, hb4⟩
        have j9 := hb4.size; have hll : l ≤ 8589934592 := by rw [← hD.1]; exact rows_len L3.out d9.out.2.1 HP.out
        obtain ⟨bs, b4⟩ : ∃ bs, rowsB xs body = bs := ⟨_, rfl⟩; rw [b4] at hD; have l2 := hid b4; have HD := hid hD; have HB4 := hid hb4; have g5 := hid (rows_small HSZ.out d9.out.2.2); rw [b4] at g5; have i3 := hid (HC.out.below AtomE.stays hb4 (nl _)); clear hD hb4 b4 e5 e7 K3 K6; go_wp2; go_loopw [9, 12] (fun o x wr5 => ∃ (k : Nat) (C : Option Addr) (r e : Nat) (a5 : List At), k ≤ l ∧ x = .int .i64 (k : Int) ∧ o = .slice C r e ∧ IsAtoms wr5 0 wr5.heap.size C r e a5 ∧ a5 = (bs.take k).foldl (fun o b => zed o (zmu (hn, ts) b)) os ∧ Below w4.heap.size w4 wr5) (fun _ x _ => l - (intOf x).toNat)
        case atStart => exact ⟨0, C, r, e, os, Nat.zero_le _, rfl, rfl, i3.out.keep AtomE.stays (fun _ _ _ => rfl) (nl _) j9, rfl, Below.refl _ _⟩
        case round =>
          obtain ⟨k, C, r, e, a5, hk, rfl, rfl, a9, a2, hb5⟩ := hrel; clear i3; have hbw : Below w.heap.size w wr := (HB.out.trans (HB4.out.mono b6)).trans (hb5.mono qaa); have hz5 := hb5.size; by_cases hlk : k < l
          · have i7 : (k : Int) < (l : Int) := qaa
            obtain ⟨p3, b, hD, i6, g7, hgb, h6⟩ := HD.out.at_ hlk; obtain ⟨A7, n7, c7, B7, m7, d7, g1, g2, g3, g4⟩ := h6.out; subst hD; have b3 : p3.block < w4.heap.size := g7; have h5 := hid hgb; have g0 := hid a2; have c3 := hid a9; have a7 := zgh (fun b => zmu (hn, ts) b) (bs.take k) os; rw [← a2, a9.1, HC.out.1, List.length_take] at a7; have e6 := hid (show zaj a5 = true from a2 ▸ zev _ _ (i4.out ▸ once_rises rs T lv xs i)); obtain ⟨V, hV⟩ : ∃ V, wr.drew = V := ⟨_, rfl⟩; have hVz : wr.heap.size = V.heap.size := qbx; have a4 : Below w4.heap.size w4 V := hV ▸ hb5.drew; have l0 : Below w.heap.size w V := hV ▸ hbw.drew
            have x1 : V.cell? (p.add (i * 3)) = some (.string hn) := (a4.cell qat).trans ((HB4.out.cell (p := p.add (i * 3)) qat).trans d1); have x2 : V.cell? ⟨(p.add (i * 3)).block, (p.add (i * 3)).off + 1, none⟩ = some (.slice A5 n5 c5) := (a4.cell qcw).trans ((HB4.out.cell (p := ⟨(p.add (i * 3)).block, (p.add (i * 3)).off + 1, none⟩) qcw).trans e3); have x3 : V.cell? (p3.add (k * 2)) = some (.slice A7 n7 c7) := (a4.cell (by rw [zah]; exact b3)).trans g1; have x4 : V.cell? ⟨(p3.add (k * 2)).block, (p3.add (k * 2)).off + 1, none⟩ = some (.slice B7 m7 d7) := (a4.cell (by show (p3.add (k * 2)).block < _; rw [zah]; exact b3)).trans g2
            have K5 := hid (((J4.out.below (HB4.out.mono b6) qaa).below a4 qaa).keep (w' := V) (lo' := 0) (hi' := V.heap.size) (fun _ _ _ => rfl) (nl _) qaa); have K3 := hid ((g3.below TextE.stays a4 (nl _)).keep TextE.stays (w' := V) (lo' := 0) (hi' := V.heap.size) (fun _ _ _ => rfl) (nl _) qaa); have K4 := hid ((g4.below TextE.stays a4 (nl _)).keep TextE.stays (w' := V) (lo' := 0) (hi' := V.heap.size) (fun _ _ _ => rfl) (nl _) qaa); have KC := hid (show IsAtoms V 0 V.heap.size C r e a5 from hV ▸ (c3.out.keep AtomE.stays (w' := wr.drew) (lo' := 0) (hi' := wr.drew.heap.size) (fun _ _ _ => rfl) (nl _) (nl _)))
            have HV0 := hid hV; have HBV := hid a4; clear h6 hgb g3 g4 i6 g7 a9 a2 hb5 hV a4 g1 g2; go_wp2_with fail; refine wp_region_held_drew (S := fun W => W.cell? (p.add (i * 3)) = some (.string hn) ∧ W.cell? ⟨(p.add (i * 3)).block, (p.add (i * 3)).off + 1, none⟩ = some (.slice A5 n5 c5) ∧ W.cell? (p3.add (k * 2)) = some (.slice A7 n7 c7) ∧ W.cell? ⟨(p3.add (k * 2)).block, (p3.add (k * 2)).off + 1, none⟩ = some (.slice B7 m7 d7)) qab (by rw [HV0.out]; exact ⟨x1, x2, x3, x4⟩) ?_; rw [HV0.out]; intro hS_; refine tk 0 (.slice C r e) hS_ ?_; refine tk 1 (.slice (some p) n c) hS_ ?_; refine tk 2 (.int .i64 (i : Int)) hS_ ?_
            refine tk 3 (.pointer (some (p.add (i * 3)))) hS_ ?_; refine tk 4 (.pointer (some (p.add (i * 3)))) hS_ ?_; refine tk 5 (.agg #[.string hn, .slice A5 n5 c5]) hS_ ?_; refine tk 6 (.slice (some p3) l f) hS_ ?_; refine tk 7 (.int .i64 (k : Int)) hS_ ?_; refine tk 8 (.pointer (some (p3.add (k * 2)))) hS_ ?_; refine tk 9 (.agg #[.slice A7 n7 c7, .slice B7 m7 d7]) hS_ ?_; refine rd1 10 fun K_ hK_ => ?_; go_simp; go_at_call 199; refine (l4Fill_any hn A5 n5 c5 ts A7 n7 c7 B7 m7 d7 b _ K5.out K3.out K4.out (g5.out b (List.mem_of_getElem? h5.out)) qaa).mono ?_; rintro e1 w6 ⟨A8, n8, c8, rfl, h8, a8⟩
            have hz6 := a8.size; have k6 : ∀ q : Addr, q.block < w4.heap.size → w6.cell? q = V.cell? q := fun q hq => a8.cell qaa; have g6 := hid ((KC.out.below AtomE.stays a8 (nl _)).keep AtomE.stays (w' := w6) (lo' := 0) (hi' := w6.heap.size) (fun _ _ _ => rfl) (nl _) hz6); have K8 := hid h8; have HB6 := hid a8; clear h8 a8; refine hK_.out _ _ ⟨(k6 (p.add (i * 3)) qat).trans x1, (k6 ⟨(p.add (i * 3)).block, (p.add (i * 3)).off + 1, none⟩ qcw).trans x2, (k6 (p3.add (k * 2)) qat).trans x3, (k6 ⟨(p3.add (k * 2)).block, (p3.add (k * 2)).off + 1, none⟩ (by show (p3.add (k * 2)).block < _; rw [zah]; omega)).trans x4⟩ fun hS_ => ?_
            clear hK_; refine rd1 11 fun K_ hK_ => ?_; go_simp; go_at_call 85; refine (zju C r e a5 hn A8 n8 c8 (ts.map (zpg b)) _ g6.out (by have := D2.out; exact this) (K8.out.keep (fun _ _ _ => rfl) (Nat.zero_le _) (nl _)) e6.out qaa).mono ?_; rintro e1 w8 ⟨A9, c9, rs9, rfl, h9, hm9, hb8⟩; have hz8 := hb8.size; have k8 : ∀ q : Addr, q.block < w4.heap.size → w8.cell? q = V.cell? q := fun q hq => (hb8.cell qaa).trans (k6 q hq); have H9 := hid h9; have k5 := hid hm9; have HB8 := hid hb8; clear h9 hm9 hb8; refine hK_.out _ _ ⟨(k8 (p.add (i * 3)) qat).trans x1, (k8 ⟨(p.add (i * 3)).block, (p.add (i * 3)).off + 1, none⟩ qcw).trans x2, (k8 (p3.add (k * 2)) qat).trans x3, (k8 ⟨(p3.add (k * 2)).block, (p3.add (k * 2)).off + 1, none⟩ (by show (p3.add (k * 2)).block < _; rw [zah]; omega)).trans x4⟩ fun hS_ => ?_
            clear hK_; refine tk 12 (.slice A9 rs9.length c9) hS_ ?_; refine wpAnyH_done qab ?_ _; have j8 := hid ((HBV.out.trans (HB6.out.mono qaa)).trans (HB8.out.mono qaa)); have hput := hid (show rs9.map rAt = (bs.take (k + 1)).foldl (fun o b => zed o (zmu (hn, ts) b)) os from by rw [zif _ _ h5.out, ← g0.out]; exact k5.out); have hat := hid (show IsAtoms w8 0 w8.heap.size A9 rs9.length c9 (rs9.map rAt) from H9.out.atoms); clear hS_ k6 k8 x1 x2 x3 x4 K5 K3 K4 KC g6; go_wp2; go_roundw
            case rel => exact ⟨k + 1, A9, _, c9, rs9.map rAt, by omega, by go_num, rfl, hat.out, hput.out, j8.out⟩
            case measure => exact qms
          · have a3 := hid (show a5 = zhb rs T lv xs (i + 1) from by
              rw [a2, e8.out, List.take_of_length_le (by rw [HD.out.1]; omega)]; unfold zpt; rw [l2.out])
            have c3 := hid a9; have k4 := hid hbw; clear a9 a2 hb5 hbw; go_wp2; go_roundw
            case rel => exact ⟨i + 1, C, r, e, a5, by omega, by go_num, rfl, c3.out, a3.out, k4.out⟩
            case measure => exact qms
      · have k0 : ¬ ((lv : Nat) : Int) = (level : Int) := qaa
        have e8 := hid (show os = zhb rs T level xs (i + 1) from by rw [hnext.out, if_neg hle]); clear hb; go_wp2_with (rw [a0]); go_roundw
        case rel => exact ⟨i + 1, C, r, e, os, by omega, by go_num, rfl, HC.out, e8.out, HB.out⟩
        case measure => exact qms
    · have a3 : os = onceL rs T level xs := by rw [a6, onceI_all (by rw [L1.out]; omega)]
      obtain ⟨rf, c0, h7⟩ := zks hC; have l1 : rf.length = r := c0.1; subst l1; have j0 := hid c0; have i8 := hid (h7.trans a3); clear a3 c0 h7 a6 hC; go_wp2; go_ret; exact ⟨C, e, rf, rfl, j0.out, i8.out, HB.out⟩
abbrev RdL := List (At × Nat)
def zbb (r : RdL) : List At := r.map (·.1)
def zbh (r : RdL) : List Nat := r.map (·.2)
def zek (r : RdL) (a : At) (n : Nat) : RdL := if zbq (zbb r) a then r else r.takeWhile (fun q => ltB a q.1) ++ (a, n) :: r.dropWhile (fun q => ltB a q.1)
theorem factsR_put (r : RdL) (a : At) (n : Nat) : zbb (zek r a n) = zed (zbb r) a := by
  unfold zek zed; split
  · rfl
  · unfold insL zbb
    rw [List.map_append, List.map_cons, List.takeWhile_map, List.dropWhile_map]; rfl
theorem putRd_take {r : RdL} {a : At} {n k : Nat} (hB : zbq (zbb r) a = false) (hk : k ≤ r.length) (hl : ∀ j y, j < k → (zbb r)[j]? = some y → zaf y a < 0) (h : ∀ y, (zbb r)[k]? = some y → 0 ≤ zaf y a) : zek r a n = r.take k ++ (a, n) :: r.drop k := by
  obtain ⟨e1, e2⟩ := zku (xs := zbb r) (a := a) (k := k) (by unfold zbb; rw [List.length_map]; exact hk) hl h; unfold zek; rw [hB, if_neg qag]; unfold zbb at e1 e2; rw [List.takeWhile_map] at e1; rw [List.dropWhile_map] at e2; have l1 := congrArg List.length e1; have l2 := congrArg List.length e2; rw [List.length_map, ← List.map_take, List.length_map] at l1; rw [List.length_map, ← List.map_drop, List.length_map] at l2; have a2 := List.takeWhile_append_dropWhile (p := fun q : At × Nat => ltB a q.1) (l := r)
  have hlen : (r.takeWhile (fun q => ltB a q.1)).length = k := by
    have : (r.takeWhile ((fun x => ltB a x) ∘ fun x : At × Nat => x.1)).length = (r.take k).length := l1; rw [List.length_take, Nat.min_eq_left hk] at this; exact this
  have t1 : r.takeWhile (fun q => ltB a q.1) = r.take k := by
    conv => rhs; rw [← a2]
    rw [List.take_append_of_le_length qaa, List.take_of_length_le qaa]
  have t2 : r.dropWhile (fun q => ltB a q.1) = r.drop k := by
    conv => rhs; rw [← a2]
    rw [List.drop_append_of_le_length qaa, List.drop_of_length_le qaa]; rfl
  rw [t1, t2]
def roundL (rs : List Rl) (lv : List Nat) (level n : Nat) (r : RdL) : RdL := (onceL rs lv level (zbb r)).foldl (fun r a => zek r a n) r
theorem zka (n : Nat) : ∀ (ys : List At) (r : RdL), zbb (ys.foldl (fun r a => zek r a n) r) = ys.foldl zed (zbb r)
  | [], r => rfl
  | a :: ys, r => by rw [List.foldl_cons, zka n ys, factsR_put]; rfl
theorem putRd_len (r : RdL) (a : At) (n : Nat) : r.length ≤ (zek r a n).length ∧ (zek r a n).length ≤ r.length + 1 := by
  unfold zek; split
  · omega
  · have := congrArg List.length (List.takeWhile_append_dropWhile (p := fun q : At × Nat => ltB a q.1) (l := r))
    rw [List.length_append] at this; rw [List.length_append, List.length_cons]; omega
theorem zpe (n : Nat) : ∀ (ys : List At) (r : RdL), r.length ≤ (ys.foldl (fun r a => zek r a n) r).length ∧ (ys.foldl (fun r a => zek r a n) r).length ≤ r.length + ys.length
  | [], r => by simp
  | a :: ys, r => by
    have h1 := zpe n ys (zek r a n); have h2 := putRd_len r a n; rw [List.foldl_cons, List.length_cons]; omega
def zcu (rs : List Rl) (lv : List Nat) (level : Nat) : Nat → Nat → RdL → RdL × Nat × Bool
  | 0, n, r => (r, n, false)
  | f + 1, n, r =>
    let r' := roundL rs lv level (n + 1) r
    if 300 < r'.length then (r', n + 1, false)
    else if r'.length = r.length then (r', n, true)
    else zcu rs lv level f (n + 1) r'
def zfs (rs : List Rl) (lv : List Nat) : List Nat → Nat → RdL → RdL × Bool
  | [], _, r => (r, true)
  | l :: ls, n, r =>
    let x := zcu rs lv l 302 n r
    if x.2.2 = true then zfs rs lv ls x.2.1 x.1 else (x.1, false)
def runL (rs : List Rl) (lv : List Nat) (given : List At) : RdL × Bool := zfs rs lv (List.range (rs.length + 1)) 0 (given.map fun a => (a, 0))
def NumE (w : World) (_lo _hi : Nat) (p : Addr) (n : Nat) : Prop := w.cell? p = some (.int .i64 (n : Int))
theorem NumE.stays : zqg NumE := by
  intro w w' lo hi lo' hi' p s h hp1 hp2 hk hl hh; exact (hk p hp1 hp2).trans h
abbrev IsNums := IsSeq 1 NumE
def ncl (ls : List Nat) : List Value := ls.map fun n : Nat => Value.int .i64 (n : Int)
theorem ncl_one (ls : List Nat) : ∀ u ∈ ncl ls, u.oneCell' = true := by
  intro u hu; obtain ⟨s, _, rfl⟩ := List.mem_map.1 hu; rfl
theorem IsNums.cells {w : World} {lo hi n c : Nat} {p : Addr} {ls : List Nat} (h : IsNums w lo hi (some p) n c ls) : ∀ j u, (ncl ls)[j]? = some u → w.cell? (p.add j) = some u := by
  obtain ⟨h1, h2, h3, h4⟩ := h; intro j u hj; unfold ncl at hj; rw [List.getElem?_map] at hj
  cases hs : ls[j]? with
  | none => rw [hs] at hj; cases hj
  | some s =>
    rw [hs] at hj; injection hj with hj; subst hj; have hjl := (List.getElem?_eq_some_iff.1 hs).1; obtain ⟨p', hp, _, _, he⟩ := h4 qaa; injection hp with hp; subst hp; have := he j s hs
    rwa [Nat.mul_one] at this
theorem IsNums.srcTake {w : World} {lo hi n c k : Nat} {A : Option Addr} {ls : List Nat} (h : IsNums w lo hi A n c ls) (hk : k ≤ n) : SrcZ 1 w A k (ncl (ls.take k)) := by
  refine ⟨by unfold ncl; rw [List.length_map, List.length_take, h.1, Nat.min_eq_left hk, Nat.mul_one], fun ad hA j u hu => ?_, fun hA => ?_⟩
  · subst hA
    refine IsNums.cells h j u ?_; unfold ncl at hu ⊢; rw [List.map_take, List.getElem?_take] at hu; split at hu
    · exact hu
    · cases hu
  · rcases Nat.eq_zero_or_pos n with h0 | h0
    · omega
    · obtain ⟨p, hp, _⟩ := h.2.2.2 h0; rw [hA] at hp; cases hp
theorem IsNums.srcDrop {w : World} {lo hi n c k : Nat} {p : Addr} {ls : List Nat} (h : IsNums w lo hi (some p) n c ls) (hk : k ≤ n) {q : Option Addr} (hq : q = if c = k then some p else some (p.add k)) : SrcZ 1 w q (n - k) (ncl (ls.drop k)) := by
  have hnc := h.2.1; have hl := h.1; subst hq; by_cases hc : c = k
  · have hn : n - k = 0 := qaa
    rw [hn, List.drop_eq_nil_of_le qaa]; exact ⟨rfl, fun ad _ j u hu => by simp [ncl] at hu, fun _ => rfl⟩
  · rw [if_neg hc]
    refine ⟨by unfold ncl; rw [List.length_map, List.length_drop, hl, Nat.mul_one], fun ad hA j u hu => ?_, fun hA => by cases hA⟩; injection hA with hA; subst hA; unfold ncl at hu; rw [List.map_drop, List.getElem?_drop] at hu; rw [zlr]; exact IsNums.cells h _ u hu
theorem nums_own {W : World} {base n : Nat} {v : Value} {ls : List Nat} (h : W.ownsRow base 3 1 v n (ncl ls)) (h0 : 0 < n) {lo : Nat} (hlo : lo ≤ base) : ∃ p c, v = .slice (some p) ls.length c ∧ IsNums W lo W.heap.size (some p) ls.length c ls := by
  have hn : n = ls.length := by have := h.1; unfold ncl at this; rw [List.length_map] at this; omega
  subst hn; rcases h.2 with ⟨_, hz⟩ | ⟨g, cap, cur, rfl, hbg, hgb, hle, hcap, hsz, htk⟩
  · omega
  · have hlt := (Array.getElem?_eq_some_iff.1 hgb).1
    refine ⟨_, cap, rfl, rfl, hle, hcap, fun _ => ⟨_, rfl, by show lo ≤ g; omega, hlt, fun i s hi => ?_⟩⟩; have hc := h.cells (g := g) rfl i (.int .i64 (s : Int)) (by unfold ncl; rw [List.getElem?_map, hi]; rfl)
    rwa [Nat.mul_one]
def Holds (w w' : World) : Prop := ∀ (q : Addr) (v : Value), w.cell? q = some v → w'.cell? q = some v
theorem Holds.below {w w' : World} (hb : Below w.heap.size w w') : Holds w w' := fun q _ h => (hb.cell (World.block_lt_of_cell? w q h)).trans h
theorem IsTerms.holds {w w' : World} {lo hi hi' n c : Nat} {A : Option Addr} {ts : List Tm} (h : IsTerms w lo hi A n c ts) (hk : Holds w w') (hh : hi ≤ hi') : IsTerms w' lo hi' A n c ts := by
  obtain ⟨a, b, d, e⟩ := h; refine ⟨a, b, d, fun hn => ?_⟩; obtain ⟨p, hp, h1, h2, h3⟩ := e hn; exact ⟨p, hp, h1, by omega, fun i t ht => ⟨hk _ _ (h3 i t ht).1, hk _ _ (h3 i t ht).2.1, (h3 i t ht).2.2⟩⟩
theorem IsAtoms.holds {w w' : World} {lo hi hi' n c : Nat} {A : Option Addr} {xs : List At} (h : IsAtoms w lo hi A n c xs) (hk : Holds w w') (hh : hi ≤ hi') : IsAtoms w' lo hi' A n c xs := by
  obtain ⟨a, b, d, e⟩ := h; refine ⟨a, b, d, fun hn => ?_⟩; obtain ⟨p, hp, h1, h2, h3⟩ := e hn; refine ⟨p, hp, h1, by omega, fun i x hx => ?_⟩; obtain ⟨e1, e2, B, m, f, e3, e4⟩ := h3 i x hx; exact ⟨hk _ _ e1, e2, B, m, f, hk _ _ e3, e4.holds hk hh⟩
theorem IsNums.holds {w w' : World} {lo hi hi' n c : Nat} {A : Option Addr} {xs : List Nat} (h : IsNums w lo hi A n c xs) (hk : Holds w w') (hh : hi ≤ hi') : IsNums w' lo hi' A n c xs := by
  obtain ⟨a, b, d, e⟩ := h; refine ⟨a, b, d, fun hn => ?_⟩; obtain ⟨p, hp, h1, h2, h3⟩ := e hn; exact ⟨p, hp, h1, by omega, fun i x hx => hk _ _ (h3 i x hx)⟩
theorem zpu {V : World} {rb : Nat} {T : TypeId} {A B : Option Addr} {n c m d : Nat} (hb : Blk V rb T #[.slice A n c, .slice B m d]) {q : Addr} {u : Value} (h : V.cell? q = some u) (hu : ∀ A n c, u ≠ .slice A n c) : q.block ≠ rb := by
  intro e; obtain ⟨qb, qo, qs⟩ := q; simp only at e; subst e
  cases qs with
  | some s =>
    have hno : V.cell? ⟨qb, qo, some s⟩ = none := by unfold World.cell?; split <;> simp
    rw [hno] at h; cases h
  | none =>
    rw [hb.cell] at h
    match qo, h with
    | 0, h => simp at h; exact hu _ _ _ h.symm
    | 1, h => simp at h; exact hu _ _ _ h.symm
    | k + 2, h => simp at h
section
variable {V W : World} {rb lo hi hi' n c : Nat} {A : Option Addr}
def But (rb : Nat) (V W : World) : Prop := ∀ (q : Addr) (u : Value), q.block ≠ rb → V.cell? q = some u → W.cell? q = some u
theorem But.refl (rb : Nat) (w : World) : But rb w w := fun _ _ _ h => h
theorem But.trans {a b c : World} (h : But rb a b) (h' : But rb b c) : But rb a c := fun q v hq e => h' q v hq (h q v hq e)
theorem But.below (hb : Below V.heap.size V W) : But rb V W := fun q v _ h => Holds.below hb q v h
theorem IsTerms.box {T : TypeId} {A1 B1 : Option Addr} {n1 c1 m1 d1 : Nat} {ts : List Tm} (h : IsTerms V lo hi A n c ts) (hb : Blk V rb T #[.slice A1 n1 c1, .slice B1 m1 d1]) (hk : But rb V W) (hh : hi ≤ hi') : IsTerms W lo hi' A n c ts := by
  obtain ⟨a, b, d, e⟩ := h; refine ⟨a, b, d, fun hn => ?_⟩; obtain ⟨p, hp, h1, h2, h3⟩ := e hn; refine ⟨p, hp, h1, by omega, fun i t ht => ?_⟩; obtain ⟨e1, e2, e3⟩ := h3 i t ht; exact ⟨hk _ _ (zpu hb e1 qem) e1, hk _ _ (zpu hb e2 qem) e2, e3⟩
theorem IsAtoms.box {T : TypeId} {A1 B1 : Option Addr} {n1 c1 m1 d1 : Nat} {xs : List At} (h : IsAtoms V lo hi A n c xs) (hb : Blk V rb T #[.slice A1 n1 c1, .slice B1 m1 d1]) (hk : But rb V W) (hh : hi ≤ hi') : IsAtoms W lo hi' A n c xs := by
  obtain ⟨a, b, d, e⟩ := h; refine ⟨a, b, d, fun hn => ?_⟩; obtain ⟨p, hp, h1, h2, h3⟩ := e hn; refine ⟨p, hp, h1, by omega, fun i x hx => ?_⟩; obtain ⟨e1, e2, B, m, f, e3, e4⟩ := h3 i x hx; have hne := zpu hb e1 qem; exact ⟨hk _ _ hne e1, e2, B, m, f, hk _ _ hne e3, e4.box hb hk hh⟩
theorem IsNums.box {T : TypeId} {A1 B1 : Option Addr} {n1 c1 m1 d1 : Nat} {xs : List Nat} (h : IsNums V lo hi A n c xs) (hb : Blk V rb T #[.slice A1 n1 c1, .slice B1 m1 d1]) (hk : But rb V W) (hh : hi ≤ hi') : IsNums W lo hi' A n c xs := by
  obtain ⟨a, b, d, e⟩ := h; refine ⟨a, b, d, fun hn => ?_⟩; obtain ⟨p, hp, h1, h2, h3⟩ := e hn; exact ⟨p, hp, h1, by omega, fun i x hx => hk _ _ (zpu hb (h3 i x hx) qem) (h3 i x hx)⟩
theorem But.store (w : World) (rb : Nat) (u v : Value) : But rb w ((w.setCell ⟨rb, 0, none⟩ u).setCell ⟨rb, 1, none⟩ v) := fun q _ hq h =>
  (cb_ ((hs_ _ _ _ q.block hq).trans (hs_ _ _ _ q.block hq))).trans h
end
end Go.Proofs.YtogonjkklioaaaaGreatDoor
