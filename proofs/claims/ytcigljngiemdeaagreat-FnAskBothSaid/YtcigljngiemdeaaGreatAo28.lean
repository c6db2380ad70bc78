/-
  Texts of one claim, put together.
-/
import Derived.Test.YtcigljngiemdeaaGreatAo0
import Derived.Test.YtcigljngiemdeaaGreatAo27
import Derived.Lib.AppendZeros
set_option maxRecDepth 100000
set_option maxHeartbeats 8000000
namespace Go.Proofs.YtcigljngiemdeaaGreat
open Go.RowKit
theorem size_zeroCells (z : Array Value) : ∀ n : Nat, (Builtin.zeroCells z n).size = n * z.size := by
  intro n; unfold Builtin.zeroCells; simp
theorem run_append_none {P : Program} (w : World) (t e : TypeId) (ty : TypeId) (i : TypeInfo) (ht : P.underlying t = some (.slice e)) (hi : P.info? e = some i) (A : Option Addr) (n c : Nat) (hn : n ≤ c) (B : Option Addr) (d : Nat) :
    (Builtin.append_ #[t, t] ty #[.slice A n c, .slice B 0 d]).run P w = .ok (.slice A n c) w := by
  have hlen : (Builtin.lenOf (.slice B 0 d)).run P w = .ok 0 w := by simp [Builtin.lenOf]
  have hcells : (Builtin.firstCells i.size 0 (.slice B 0 d)).run P w = .ok #[] w := by
    cases B with
    | none => exact run_firstCells_none w _ _ _ _
    | some b => exact run_firstCells_some w i.size 0 b 0 d [] qad (fun j v h => by simp at h)
  cases A <;> simp [Builtin.append_, run_underlying ht, sizeOf, typeInfo, hi, hlen, hn, hcells, storeCells]
theorem implGrow_any (k : Nat) (w : World) (hk : k ≤ 1000000) :
    Calls Tryz.prog 99 #[.slice none 0 0, .int .i64 (k : Int)] w fun e w' => ∃ v, e = .returned v ∧ w'.ownsRow w.heap.size 52 3 v 0 [] ∧ Below w.heap.size w w' := by
  obtain ⟨i0, hi0, hz0, hsz0, hby0⟩ := info_parts Tryz.infoPrt; go_enter Tryz.func99, Tryz.ntmps99; by_cases h0 : k = 0
  · subst h0
    go_wp2; go_ret; exact ⟨_, rfl, World.ownsRow_nil _ _ _ _, Below.refl _ _⟩
  · have hkI : ¬ (k : Int) < 0 := qaa
    have hkp : (0 : Int) < (k : Int) := qaa; have hw : IntKind.i64.wrap ((k : Int) - 0) = (k : Int) := qbj; have hz : IntKind.i64.wrap (0 - 0 : Int) = 0 := qbj; have hrun := Lib.run_append_nil_zeros (P := Tryz.prog) w 30 3 30 52 i0 _ .i64 .i64 Tryz.underlying30 Tryz.underlying3 hi0 hz0 k qaa qaa qaa (by rw [hby0]; omega); have HR := hid hrun; clear hrun; go_wp2_with (first | (at_builtin; refine Lib.wpList_append_run _ rfl _ _ _ _ rfl _ _ rfl rfl _ _ HR.out ?_)); have hc1 := grownCap_ge w k 0 52
    have hc2 := grownCap_le_maxLen w k 0 52 qac; refine bodyPost_ret (v := .slice (some ⟨w.heap.size, 0, none⟩) 0 (grownCap w k 0 52)) (by simp [results, Tryz.results99, go_sem]) rfl ⟨_, rfl, ?_, (below1 w _).drew⟩; refine World.ownsRow_made w _ _ (nl _) hc2 ?_; rw [Array.size_append, size_zeroCells, size_zeroCells]; show k * 3 + (grownCap w k 0 52 - k) * 3 = _; omega
def ConcatPost (hiT : Nat) (qs : List Pr) (w : World) (e : Ending) (w' : World) : Prop := ∃ A c, e = .returned (.slice A qs.length c) ∧ PartsIn w' hiT (fun k => w.heap.size ≤ k) A qs.length c qs ∧ Below w.heap.size w w'
theorem append_parts {w W : World} {v : Value} {hiT n c : Nat} {Ok : Nat → Prop} {B : Option Addr} {ps qs : List Pr} (hown : W.ownsRow w.heap.size 52 3 v ps.length (psCells ps)) (hgr : Below w.heap.size w W) (hq : PartsIn W hiT Ok B n c qs) (hl : ps.length + n ≤ 1000000) :
    ∃ v' W', (Builtin.append_ #[30, 30] 30 #[v, .slice B n c]).run Tryz.prog W = .ok v' W' ∧ W'.ownsRow w.heap.size 52 3 v' (ps ++ qs).length (psCells (ps ++ qs)) ∧ Below w.heap.size w W' ∧ W.grownBy W' v.ownBlock := by
  obtain ⟨i0, hi0, hz0, hsz0, hby0⟩ := info_parts Tryz.infoPrt; by_cases h0 : n = 0
  · subst h0
    have e0 : qs = [] := List.length_eq_zero_iff.1 hq.len; subst e0; rw [List.append_nil]
    obtain ⟨A1, n1, c1, rfl, h1⟩ : ∃ A1 n1 c1, v = .slice A1 n1 c1 ∧ n1 ≤ c1 := by
      rcases hown.2 with ⟨e, _⟩ | ⟨g, cap, cur, e, _, _, h1, _⟩
      · exact ⟨_, _, _, e, nl _⟩
      · exact ⟨_, _, _, e, h1⟩
    exact ⟨_, W, run_append_none W _ 52 _ i0 Tryz.underlying30 hi0 A1 n1 c1 h1 B c, hown, hgr, ⟨rfl, rfl, rfl, nl _, fun _ _ _ => rfl⟩⟩
  · obtain ⟨p, hp, _, _, hcell⟩ := hq.row qaa
    subst hp; have hs := hgr.size; obtain ⟨g, cap, W', hr, h1, h2, _, _⟩ := run_append_lies (P := Tryz.prog) W 30 30 w.heap.size 52 i0 _ 3 48 Tryz.underlying30 hi0 hz0 hsz0 hby0 rfl qaa v ps.length (psCells ps) hown p n c (psCells qs) (by rw [psCells_len, hq.len]) hcell (psCells_one qs) qaa qac qaa hs W.heap.size rfl; refine ⟨_, W', hr, ?_, hgr.grown h2 hs (fun j e => (hown.lt j e).1), h2⟩; rw [psCells_append, List.length_append, hq.len]; exact h1
theorem implConcat_any (hiT : Nat) (Ok : Nat → Prop) (A : Option Addr) (n c : Nat) (qs : List Pr) (B : Option Addr) (m d : Nat) (ps : List Pr) (R : Nat) (w : World) (hA : PartsIn w hiT Ok A n c qs) (hB : PartsIn w hiT Ok B m d ps) (hR : Blk w R 30 #[.slice A n c, .slice B m d]) (hT : hiT ≤ w.heap.size) (hn : n ≤ 1000) (hm : m ≤ 1000) :
    Calls Tryz.prog 48 #[.slice (some ⟨R, 0, none⟩) 2 2] w (ConcatPost hiT (qs ++ ps) w) := by
  have HA := hid hA; have HB := hid hB; have HR := hid hR; have r0 := hR.cell 0; have r1 := hR.cell 1; simp at r0 r1; clear hA hB hR; go_enter Tryz.func48, Tryz.ntmps48; go_wp2; go_loopw [3, 11] (fun s i wr => ∃ k : Nat, k ≤ 2 ∧ i = .int .i64 (k : Int) ∧ s = .int .i64 (((if 0 < k then n else 0) + (if 1 < k then m else 0) : Nat) : Int) ∧ wr = w) (fun _ i _ => 2 - (intOf i).toNat)
  case atStart => exact ⟨0, by omega, rfl, rfl, rfl⟩
  case round =>
    obtain ⟨k, hk, rfl, rfl, rfl⟩ := hrel; have hk3 : k = 0 ∨ k = 1 ∨ k = 2 := qaa; rcases hk3 with e | e | e
    · subst e
      have h1 : ¬ (n : Int) < 0 := qaa; have h2 : IntKind.i64.wrap (0 + (n : Int)) = (n : Int) := qbj; go_wp2; exact ⟨⟨1, by omega, rfl, by simp, trivial⟩, by simp [intOf]⟩
    · subst e
      have h1 : ¬ ((n : Int) + (m : Int)) < 0 := qaa; have h2 : IntKind.i64.wrap ((n : Int) + (m : Int)) = (n : Int) + (m : Int) := qbj; go_wp2; exact ⟨⟨2, by omega, rfl, by simp, trivial⟩, by simp [intOf]⟩
    · subst e
      obtain ⟨w0, hw0⟩ : ∃ w0 : World, w0 = wr := ⟨_, rfl⟩; subst hw0; have HAL := hid HA.out.len; have HBL := hid HB.out.len; go_wp2_with fail; refine (implGrow_any (n + m) w0 qaa).mono ?_; rintro e w2 ⟨v, rfl, hown, hb⟩; have HO := hid hown; have HG := hid hb; clear hown hb; go_wp2; clear r0 r1; go_loopw [6, 27] (fun v i W => ∃ k : Nat, k ≤ 2 ∧ i = .int .i64 (k : Int) ∧ W.ownsRow w0.heap.size 52 3 v ((if 0 < k then qs else []) ++ (if 1 < k then ps else [])).length (psCells ((if 0 < k then qs else []) ++ (if 1 < k then ps else []))) ∧ Below w0.heap.size w0 W) (fun _ i _ => 2 - (intOf i).toNat)
      case atStart => exact ⟨0, by omega, rfl, HO.out, HG.out⟩
      case round =>
        clear HO HG; obtain ⟨k, hk, rfl, hO, hG⟩ := hrel; have HG := hid hG; have hR := HR.out.below hG; have r0 := hR.cell 0; have r1 := hR.cell 1; simp at r0 r1; clear hR; have hk3 : k = 0 ∨ k = 1 ∨ k = 2 := qaa; rcases hk3 with e | e | e
        · subst e
          obtain ⟨v', W', hrun, hO', hG', _⟩ := append_parts (ps := []) hO hG (HA.out.up hT hG) (by have := HAL.out; simp; omega); have HRU := hid hrun; have HO := hid hO'; have HG1 := hid hG'; clear hrun hO' hG' hO hG; go_wp2_with (first | (at_builtin; refine wpList_append_at rfl rfl rfl rfl rfl HRU.out ?_)); exact ⟨⟨1, by omega, rfl, by simpa using HO.out, HG1.out⟩, by simp [intOf]⟩
        · subst e
          have hO2 : wr.ownsRow w0.heap.size 52 3 u6 qs.length (psCells qs) := by simpa using hO
          obtain ⟨v', W', hrun, hO', hG', _⟩ := append_parts hO2 hG (HB.out.up hT hG) (by have := HAL.out; omega); have HRU := hid hrun; have HO := hid hO'; have HG1 := hid hG'; clear hrun hO' hG' hO hO2 hG; go_wp2_with (first | (at_builtin; refine wpList_append_at rfl rfl rfl rfl rfl HRU.out ?_)); exact ⟨⟨2, by omega, rfl, by simpa using HO.out, HG1.out⟩, by simp [intOf]⟩
        · subst e
          have hO2 : wr.ownsRow w0.heap.size 52 3 u6 (qs ++ ps).length (psCells (qs ++ ps)) := by simpa using hO
          obtain ⟨A1, c1, hv, hP⟩ := PartsIn.own (hiT := hiT) (Ok := fun k => w0.heap.size ≤ k) hO2 (fun q hq => by
            rcases List.mem_append.1 hq with h | h
            · exact (HA.out.up hT hG).ok q h
            · exact (HB.out.up hT hG).ok q h) (fun g e => (hO2.lt g e).1)
          subst hv; have HP := hid hP; clear hP hO hO2 hG; go_wp2; exact bodyPost_ret (v := .slice A1 (qs ++ ps).length c1) (by simp [results, Tryz.results48, go_sem]) rfl ⟨A1, c1, rfl, HP.out, HG.out⟩
theorem implShares_any (g bb pb : Nat) (b : Bd) (p q : Pr) (hiT : Nat) (w : World) (h : BdIn w g b) (hg : g < w.heap.size) (hbb : Blk w bb 71 #[.pointer (some ⟨g, 0, none⟩)]) (hpb : Blk w pb 52 #[.bool p.no, .string p.nm, .slice p.A p.n p.c])
    (hp : PrOk w hiT p) (hq : PrOk w hiT q) (hT : hiT ≤ w.heap.size) :
    Calls Tryz.prog 172 #[.agg #[.bool q.no, .string q.nm, .slice q.A q.n q.c], .pointer (some ⟨bb, 0, none⟩), .pointer (some ⟨pb, 0, none⟩)] w fun e w' => e = .returned (.bool (shareB b p.pt.2 q.pt.2)) ∧ Below w.heap.size w w' := by
  have hb1 := below1 w (.cells #[.bool q.no, .string q.nm, .slice q.A q.n q.c] 52); have xq := Blk.new w 52 #[.bool q.no, .string q.nm, .slice q.A q.n q.c]; obtain ⟨w1, hq1⟩ : ∃ w1, w.alloc (.cells #[.bool q.no, .string q.nm, .slice q.A q.n q.c] 52) = w1 := ⟨_, rfl⟩; rw [hq1] at hb1 xq; have z0 := (hbb.below hb1).cell 0; have p1 := (hpb.below hb1).cell 1; have p2 := (hpb.below hb1).cell 2; have q1 := xq.cell 1; have q2 := xq.cell 2; simp at z0 p1 p2 q1 q2; have hsz := hb1.size
  have hs := shareOpen_any g b p.nm q.nm p.A p.n p.c p.ts q.A q.n q.c q.ts w1 (h.keep (fun j => hb1.cell hg) (fun j => hb1.frozen hg)) qaa
    ((hp.2.2.keep (fun x _ hx => hb1.cell qaa) (nl _) (nl _)).keep (fun _ _ _ => rfl) (nl _) qaa) ((hq.2.2.keep (fun x _ hx => hb1.cell qaa) (nl _) (nl _)).keep (fun _ _ _ => rfl) (nl _) qaa)
  obtain ⟨k, hk⟩ : ∃ k, shareB b p.pt.2 q.pt.2 = k := ⟨_, rfl⟩; have hs' : shareB b (p.nm, p.ts) (q.nm, q.ts) = k := hk; rw [hs'] at hs; rw [hk]; have HS := hid hs; have HQ1 := hid hq1; have HB := hid hb1; clear hs hq1 hb1 xq h hbb hpb hp hq hk hs'; go_enter Tryz.func172, Tryz.ntmps172; go_wp2_with (rw [HQ1.out]); refine HS.out.mono ?_; rintro e w2 ⟨rfl, hb2⟩; go_wp2; refine bodyPost_ret (v := .bool k) (by simp [results, Tryz.results172, go_sem]) rfl ⟨rfl, belowThen HB.out hb2⟩
theorem joins_snoc {b : Bd} {p : Pt} {qs : List Pr} {k n : Nat} (h : ∀ j q, j < k → qs[j]? = some q → shareB b p.2 q.pt.2 = false) (hk : ¬ k < n) (hn : qs.length = n) : joinsB b p (qs.map Pr.pt) = false := by
  cases hj : joinsB b p (qs.map Pr.pt) with
  | false => rfl
  | true =>
    unfold joinsB at hj; obtain ⟨x, h1, h2⟩ := List.any_eq_true.1 hj; obtain ⟨q, hq, rfl⟩ := List.mem_map.1 h1; obtain ⟨j, hj⟩ := List.getElem?_of_mem hq; have := (List.getElem?_eq_some_iff.1 hj).1; rw [h j q qaa hj] at h2; cases h2
theorem joins_hit {b : Bd} {p : Pt} {qs : List Pr} {q : Pr} (h : q ∈ qs) (hs : shareB b p.2 q.pt.2 = true) : joinsB b p (qs.map Pr.pt) = true := by
  unfold joinsB; exact List.any_eq_true.2 ⟨_, List.mem_map.2 ⟨q, h, rfl⟩, hs⟩
def FoundPost (p : Bool) (w : World) (e : Ending) (w' : World) : Prop := (∃ k : Int, e = .returned (.int .i64 k) ∧ (if p = true then 0 ≤ k else k = -1)) ∧ Below w.heap.size w w'
theorem implIndexFn_any (g bb pb : Nat) (b : Bd) (p : Pr) (hiT : Nat) (Ok : Nat → Prop) (A : Option Addr) (n c : Nat) (qs : List Pr) (w : World) (h : BdIn w g b) (hg : g < w.heap.size) (hbb : Blk w bb 71 #[.pointer (some ⟨g, 0, none⟩)]) (hpb : Blk w pb 52 #[.bool p.no, .string p.nm, .slice p.A p.n p.c])
    (hp : PrOk w hiT p) (hq : PartsIn w hiT Ok A n c qs) (hT : hiT ≤ w.heap.size) :
    Calls Tryz.prog 193 #[.slice A n c, .func (.func 172) #[] #[.pointer (some ⟨bb, 0, none⟩), .pointer (some ⟨pb, 0, none⟩)]] w (FoundPost (joinsB b p.pt (qs.map Pr.pt)) w) := by
  obtain ⟨r, hr⟩ : ∃ r, joinsB b p.pt (qs.map Pr.pt) = r := ⟨_, rfl⟩; have HR := hid hr; rw [hr]; have H := hid h; have HG := hid hg; have HBB := hid hbb; have HPB := hid hpb; have HP := hid hp; have HQ := hid hq; have HL := hid hq.len; have hcap := hq.cap; have hmax := hq.max; unfold maxLen at hmax; clear h hg hbb hpb hp hq hr; go_enter Tryz.func193, Tryz.ntmps193; go_wp2; go_loopw [8] (fun i wr => ∃ k : Nat, k ≤ n ∧ i = .int .i64 (k : Int) ∧ (∀ j q, j < k → qs[j]? = some q → shareB b p.pt.2 q.pt.2 = false) ∧ Below w.heap.size w wr) (fun i _ => n - (intOf i).toNat)
  case atStart => exact ⟨0, Nat.zero_le _, rfl, fun j q hj => absurd hj (Nat.not_lt_zero _), Below.refl _ _⟩
  case round =>
    obtain ⟨k, hk, rfl, hl, hb⟩ := hrel; have HLL := hid hl; have HB := hid hb; clear hl hb; by_cases hlt : k < n
    · have hltI : (k : Int) < (n : Int) := qaa
      have HQ2 := HQ.out.up hT HB.out; obtain ⟨pa, q, hA, _, hpb, hqk, z0, z1, z2⟩ := HQ2.at_ hlt; subst hA; have hsh := implShares_any g bb pb b p q hiT wr (H.out.keep (fun j => HB.out.cell HG.out) (fun j => HB.out.frozen HG.out)) (Nat.lt_of_lt_of_le HG.out HB.out.size) (HBB.out.below HB.out) (HPB.out.below HB.out) (HP.out.keep fun k hk => HB.out.block k qaa) (HQ2.ok q (List.mem_of_getElem? hqk)) (Nat.le_trans hT HB.out.size); have HSH := hid hsh; have HQK := hid hqk; clear hsh hqk HQ2 hpb; go_wp2_with fail; refine HSH.out.mono ?_; rintro e w2 ⟨rfl, hb2⟩; have HB2 := hid (belowThen HB.out hb2); clear HSH hb2 z0 z1 z2
      cases hs : shareB b p.pt.2 q.pt.2 with
      | true =>
        have hr := joins_hit (List.mem_of_getElem? HQK.out) hs; rw [HR.out] at hr; subst hr; go_wp2
        refine bodyPost_ret (v := .int .i64 (k : Int)) (by simp [results, Tryz.results193, go_sem]) rfl ⟨⟨k, rfl, by simp⟩, HB2.out⟩
      | false =>
        have HS := hid hs; clear hs; go_wp2; refine ⟨⟨k + 1, by omega, by go_num, fun j x hj hx => ?_, HB2.out⟩, by simp [intOf]; omega⟩; by_cases e : j = k
        · subst e; rw [HQK.out] at hx; injection hx with hx; rw [← hx]; exact HS.out
        · exact HLL.out j x qaa hx
    · have hr := joins_snoc (b := b) (p := p.pt) HLL.out hlt HL.out
      rw [HR.out] at hr; subst hr; go_wp2; refine bodyPost_ret (v := .int .i64 (-1)) (by simp [results, Tryz.results193, go_sem]) rfl ⟨⟨-1, rfl, by simp⟩, HB.out⟩
theorem implContainsFn_any (g bb pb : Nat) (b : Bd) (p : Pr) (hiT : Nat) (Ok : Nat → Prop) (A : Option Addr) (n c : Nat) (qs : List Pr) (w : World) (h : BdIn w g b) (hg : g < w.heap.size) (hbb : Blk w bb 71 #[.pointer (some ⟨g, 0, none⟩)]) (hpb : Blk w pb 52 #[.bool p.no, .string p.nm, .slice p.A p.n p.c])
    (hp : PrOk w hiT p) (hq : PartsIn w hiT Ok A n c qs) (hT : hiT ≤ w.heap.size) :
    Calls Tryz.prog 171 #[.slice A n c, .func (.func 172) #[] #[.pointer (some ⟨bb, 0, none⟩), .pointer (some ⟨pb, 0, none⟩)]] w fun e w' => e = .returned (.bool (joinsB b p.pt (qs.map Pr.pt))) ∧ Below w.heap.size w w' := by
  have hi := implIndexFn_any g bb pb b p hiT Ok A n c qs w h hg hbb hpb hp hq hT; obtain ⟨r, hr⟩ : ∃ r, joinsB b p.pt (qs.map Pr.pt) = r := ⟨_, rfl⟩; rw [hr] at hi ⊢; have HI := hid hi; clear hi h hg hbb hpb hp hq hr; go_enter Tryz.func171, Tryz.ntmps171; go_wp2_with fail; refine HI.out.mono ?_; rintro e w2 ⟨⟨k, rfl, hk⟩, hb2⟩
  cases r with
  | true =>
    have hk2 : (0 : Int) ≤ k := qde; go_wp2; go_ret
    exact ⟨rfl, hb2⟩
  | false =>
    have hk2 : k = -1 := qde; subst hk2; go_wp2; go_ret; exact ⟨rfl, hb2⟩
structure Gp where
  A : Option Addr
  n : Nat
  c : Nat
  qs : List Pr
def Gp.v (G : Gp) : Value := .slice G.A G.n G.c
def Gp.pts (G : Gp) : List Pt := G.qs.map Pr.pt
def gsCells (gs : List Gp) : List Value := gs.map Gp.v
structure GsIn (w : World) (hiT base : Nat) (v : Value) (gs : List Gp) : Prop where
  row : w.ownsRow base 30 1 v gs.length (gsCells gs)
  ok : ∀ G ∈ gs, w.ownsRow base 52 3 G.v G.qs.length (psCells G.qs) ∧ ∀ q ∈ G.qs, PrOk w hiT q
theorem rows_apart {W : World} {a b T1 T2 s1 s2 n1 n2 : Nat} {v1 v2 : Value} {x1 x2 : List Value} (h1 : W.ownsRow a T1 s1 v1 n1 x1) (h2 : W.ownsRow b T2 s2 v2 n2 x2) (hne : T1 ≠ T2) : v1.ownBlock = none ∨ v1.ownBlock ≠ v2.ownBlock := by
  rcases h1.2 with ⟨e, _⟩ | ⟨g, cap, cur, e, _, hg, _⟩
  · exact .inl qed
  · refine .inr fun e' => ?_
    rcases h2.2 with ⟨e2, _⟩ | ⟨g2, cap2, cur2, e2, _, hg2, _⟩
    · rw [e, e2] at e'; cases e'
    · rw [e, e2] at e'
      obtain rfl : g = g2 := by simpa [Value.ownBlock] using e'
      rw [hg] at hg2; simp at hg2; exact hne hg2.2
theorem GsIn.below {w w' : World} {hiT base : Nat} {v : Value} {gs : List Gp} (h : GsIn w hiT base v gs) (hT : hiT ≤ w.heap.size) (hb : Below w.heap.size w w') : GsIn w' hiT base v gs :=
  ⟨ownsRow_up h.row hb, fun G hG => ⟨ownsRow_up (h.ok G hG).1 hb, fun q hq => ((h.ok G hG).2 q hq).keep fun k hk => hb.block k qaa⟩⟩
theorem Tryz.infoPrts : (Tryz.prog.info? 30).map (fun i => (i.zero, i.size, i.bytes)) = some (some (.slice none 0 0), 1, 24) := by kernel_rfl
theorem GsIn.at_ {w : World} {hiT base : Nat} {v : Value} {gs : List Gp} (h : GsIn w hiT base v gs) {G : Gp} (hG : G ∈ gs) : PartsIn w hiT (fun k => base ≤ k) G.A G.n G.c G.qs := by
  obtain ⟨h1, h2⟩ := h.ok G hG; obtain ⟨A, c, e, hP⟩ := PartsIn.own (hiT := hiT) (Ok := fun k => base ≤ k) h1 h2 (fun g e => (h1.lt g e).1); unfold Gp.v at e; injection e with e1 e2 e3; rw [e1, e2, e3]; exact hP
def keptG (b : Bd) (p : Pr) (gs : List Gp) : List Gp := gs.filter fun G => !joinsB b p.pt G.pts
def joinedG (b : Bd) (p : Pr) (gs : List Gp) : List Pr := (gs.filter fun G => joinsB b p.pt G.pts).flatMap (·.qs)
theorem addG_gs (b : Bd) (p : Pr) (gs : List Gp) (G : Gp) (hG : G.qs = p :: joinedG b p gs) : (keptG b p gs ++ [G]).map Gp.pts = addG b (gs.map Gp.pts) p.pt := by
  unfold addG keptG; rw [List.map_append, List.filter_map, List.filter_map]; congr 1; show [G.qs.map Pr.pt] = _; rw [hG, List.map_cons]; unfold joinedG; congr 2; rw [List.map_flatMap]; show _ = (List.map Gp.pts _).flatten; rw [← List.flatMap_def]; rfl
theorem kept_snoc_yes {b : Bd} {p : Pr} {gs : List Gp} {j : Nat} {G : Gp} (h : gs[j]? = some G) (hj : joinsB b p.pt G.pts = true) : keptG b p (gs.take (j + 1)) = keptG b p (gs.take j) ∧ joinedG b p (gs.take (j + 1)) = joinedG b p (gs.take j) ++ G.qs := by
  unfold keptG joinedG; rw [List.take_add_one, h, List.filter_append, List.filter_append, List.flatMap_append]; simp [hj]
theorem kept_snoc_no {b : Bd} {p : Pr} {gs : List Gp} {j : Nat} {G : Gp} (h : gs[j]? = some G) (hj : joinsB b p.pt G.pts = false) : keptG b p (gs.take (j + 1)) = keptG b p (gs.take j) ++ [G] ∧ joinedG b p (gs.take (j + 1)) = joinedG b p (gs.take j) := by
  unfold keptG joinedG; rw [List.take_add_one, h, List.filter_append, List.filter_append, List.flatMap_append]; simp [hj]
theorem flat_take {α β : Type} (f : α → List β) (xs : List α) (p : α → Bool) : ((xs.filter p).flatMap f).length ≤ (xs.flatMap f).length := by
  induction xs with
  | nil => simp
  | cons x xs ih =>
    rw [List.filter_cons]; split
    · rw [List.flatMap_cons, List.flatMap_cons, List.length_append, List.length_append]; omega
    · rw [List.flatMap_cons, List.length_append]; omega
theorem flat_pre {α β : Type} (f : α → List β) : ∀ (xs : List α) (k : Nat), ((xs.take k).flatMap f).length ≤ (xs.flatMap f).length
  | [], k => by simp
  | x :: xs, 0 => by simp
  | x :: xs, k + 1 => by
    have := flat_pre f xs k; rw [List.take_succ_cons, List.flatMap_cons, List.flatMap_cons, List.length_append, List.length_append]; omega
def GroupsPost (hiT : Nat) (b : Bd) (qs : List Pr) (w : World) (e : Ending) (w' : World) : Prop := ∃ A c gs, e = .returned (.slice A gs.length c) ∧ GsIn w' hiT w.heap.size (.slice A gs.length c) gs ∧ gs.length ≤ c ∧ c ≤ maxLen ∧ gs.map Gp.pts = groupsB b (qs.map Pr.pt) ∧ Below w.heap.size w w'
theorem ownsRow_base {w : World} {base base' e size n : Nat} {v : Value} {xs : List Value} (h : w.ownsRow base e size v n xs) (hb : base' ≤ base) : w.ownsRow base' e size v n xs := by
  refine ⟨h.1, ?_⟩; rcases h.2 with h1 | ⟨g, cap, cur, e, hg, rest⟩
  · exact .inl h1
  · exact .inr ⟨g, cap, cur, e, by omega, rest⟩
theorem ownsRow_form {w : World} {base e size n : Nat} {v : Value} {xs : List Value} (h : w.ownsRow base e size v n xs) : ∃ A c, v = .slice A n c ∧ n ≤ c ∧ c ≤ maxLen := by
  rcases h.2 with ⟨e, h0⟩ | ⟨g, cap, cur, e, _, _, h1, h2, _⟩
  · exact ⟨none, 0, by rw [e, h0], by omega, by unfold maxLen; omega⟩
  · exact ⟨_, cap, e, h1, h2⟩
theorem append_gp {W : World} {base n P : Nat} {v x : Value} {xs : List Value} (hown : W.ownsRow base 30 1 v n xs) (hb : base ≤ W.heap.size) (hP : Blk W P 30 #[x]) (hx : x.oneCell' = true) (hn : n ≤ 1000000) :
    ∃ g m cap W2, (Builtin.append_ #[152, 152] 152 #[v, .slice (some ⟨P, 0, none⟩) 1 1]).run Tryz.prog W = .ok (.slice (some ⟨g, 0, none⟩) m cap) W2 ∧ W2.ownsRow base 30 1 (.slice (some ⟨g, 0, none⟩) m cap) (n + 1) (xs ++ [x]) ∧ W.grownBy W2 v.ownBlock := by
  obtain ⟨i0, hi0, hz0, hsz0, hby0⟩ := info_parts Tryz.infoPrts; obtain ⟨g, cap, W2, hr, hown2, hg, _, _⟩ := run_append_lies (P := Tryz.prog) W 152 152 base 30 i0 _ 1 24 Tryz.underlying152 hi0 hz0 hsz0 hby0 rfl qaa v n xs hown ⟨P, 0, none⟩ 1 1 [x] qab (World.news_of_block hP) (by intro u hu; rw [List.mem_singleton.1 hu]; exact hx) qaa qac qaa hb W.heap.size rfl; exact ⟨g, _, cap, W2, hr, hown2, hg⟩
theorem flat_parts {α β : Type} (f : α → List β) (p : α → Bool) : ∀ xs : List α, ((xs.filter fun x => !p x).flatMap f).length + ((xs.filter p).flatMap f).length = (xs.flatMap f).length
  | [] => rfl
  | x :: xs => by
    have := flat_parts f p xs
    cases h : p x with
    | true => rw [List.filter_cons_of_neg (by simp [h]), List.filter_cons_of_pos h, List.flatMap_cons, List.flatMap_cons, List.length_append, List.length_append]; omega
    | false => rw [List.filter_cons_of_pos (by simp [h]), List.filter_cons_of_neg (by simp [h]), List.flatMap_cons, List.flatMap_cons, List.length_append, List.length_append]; omega
theorem append_parts_at {W : World} {base : Nat} {v : Value} {hiT n c : Nat} {Ok : Nat → Prop} {B : Option Addr} {ps qs : List Pr} (hown : W.ownsRow base 52 3 v ps.length (psCells ps)) (hb : base ≤ W.heap.size) (hq : PartsIn W hiT Ok B n c qs) (hl : ps.length + n ≤ 1000000) :
    ∃ v' W', (Builtin.append_ #[30, 30] 30 #[v, .slice B n c]).run Tryz.prog W = .ok v' W' ∧ W'.ownsRow base 52 3 v' (ps ++ qs).length (psCells (ps ++ qs)) ∧ W.heap.size ≤ W'.heap.size ∧ W.grownBy W' v.ownBlock := by
  obtain ⟨i0, hi0, hz0, hsz0, hby0⟩ := info_parts Tryz.infoPrt; by_cases h0 : n = 0
  · subst h0
    have e0 : qs = [] := List.length_eq_zero_iff.1 hq.len; subst e0; rw [List.append_nil]; obtain ⟨A1, c1, rfl, h1, _⟩ := ownsRow_form hown; exact ⟨_, W, run_append_none W _ 52 _ i0 Tryz.underlying30 hi0 A1 _ c1 h1 B c, hown, nl _, ⟨rfl, rfl, rfl, nl _, fun _ _ _ => rfl⟩⟩
  · obtain ⟨p, hp, _, _, hcell⟩ := hq.row qaa
    subst hp; obtain ⟨g, cap, W', hr, h1, h2, _, _⟩ := run_append_lies (P := Tryz.prog) W 30 30 base 52 i0 _ 3 48 Tryz.underlying30 hi0 hz0 hsz0 hby0 rfl qaa v ps.length (psCells ps) hown p n c (psCells qs) (by rw [psCells_len, hq.len]) hcell (psCells_one qs) qaa qac qaa hb W.heap.size rfl; refine ⟨_, W', hr, ?_, h2.size, h2⟩; rw [psCells_append, List.length_append, hq.len]; exact h1
theorem implGroups_any (g : Nat) (b : Bd) (hiT : Nat) (Ok : Nat → Prop) (A : Option Addr) (n c : Nat) (qs : List Pr) (w : World) (h : BdIn w g b) (hg : g < w.heap.size) (hq : PartsIn w hiT Ok A n c qs) (hT : hiT ≤ w.heap.size) (hn : n ≤ 1000) :
    Calls Tryz.prog 133 #[.pointer (some ⟨g, 0, none⟩), .slice A n c] w (GroupsPost hiT b qs w) := by
  have H := hid h; have HG := hid hg; have HQ := hid hq; have HL := hid hq.len; have hcap := hq.cap; have hmax := hq.max; unfold maxLen at hmax; have hb1 := below1 w (.cells #[.pointer (some ⟨g, 0, none⟩)] 71); have xb := Blk.new w 71 #[.pointer (some ⟨g, 0, none⟩)]; obtain ⟨w1, hq1⟩ : ∃ w1, w.alloc (.cells #[.pointer (some ⟨g, 0, none⟩)] 71) = w1 := ⟨_, rfl⟩; rw [hq1] at hb1 xb; have HQ1 := hid hq1; have HB1 := hid hb1; have XB := hid xb; clear h hg hq hq1 hb1 xb; have hmf : ∀ (fn : Fn) (first cap : Array Value) (w : World), (Instr.makeFunc fn first cap).run Tryz.prog w = .ok (.func fn first cap) w := fun _ _ _ _ => rfl
  go_enter Tryz.func133, Tryz.ntmps133; go_wp2_with (rw [HQ1.out]); go_loopw [5, 14] (fun v i wr => ∃ (k : Nat) (gs : List Gp), k ≤ n ∧ i = .int .i64 (k : Int) ∧ GsIn wr hiT w.heap.size v gs ∧ gs.map Gp.pts = ((qs.take k).map Pr.pt).foldl (addG b) [] ∧ gs.length ≤ k ∧ (gs.flatMap (·.qs)).length ≤ k ∧ Below w1.heap.size w1 wr) (fun _ i _ => n - (intOf i).toNat)
  case atStart => exact ⟨0, [], Nat.zero_le _, rfl, ⟨World.ownsRow_nil _ _ _ _, fun G hG => by simp at hG⟩, rfl, Nat.zero_le _, by simp, Below.refl _ _⟩
  case round =>
    obtain ⟨k, gs, hk, rfl, hI, hgs, hlen, hfl, hB⟩ := hrel; obtain ⟨A5, c5, hv5, hc5, hm5⟩ := ownsRow_form hI.row; subst hv5; unfold maxLen at hm5; have HI := hid hI; have HGS := hid hgs; have HB := hid hB; have HW := hid (belowThen HB1.out hB); clear hI hgs hB; by_cases hlt : k < n
    · have hltI : (k : Int) < (n : Int) := qaa
      obtain ⟨w0, hw0⟩ : ∃ w0 : World, w0 = wr := ⟨_, rfl⟩; subst hw0; have hsw := HW.out.size; have HQw := HQ.out.up hT HW.out; obtain ⟨pa, p, hA, _, _, hpk, z0, z1, z2⟩ := HQw.at_ hlt; subst hA; have HPK := hid hpk; have HP := hid (HQw.ok p (List.mem_of_getElem? hpk)); have xp := Blk.new w0 52 #[.bool p.no, .string p.nm, .slice p.A p.n p.c]; obtain ⟨w4, hq4⟩ : ∃ w4, w0.alloc (.cells #[.bool p.no, .string p.nm, .slice p.A p.n p.c] 52) = w4 := ⟨_, rfl⟩; have hb4 : Below w0.heap.size w0 w4 := by rw [← hq4]; exact below1 _ _
      rw [hq4] at xp; have y0 := xp.cell 0; have y1 := xp.cell 1; have y2 := xp.cell 2; simp at y0 y1 y2; have xr := Blk.new w4 52 #[.bool p.no, .string p.nm, .slice p.A p.n p.c]; have hb5 := belowThen hb4 (below1 w4 (.cells #[.bool p.no, .string p.nm, .slice p.A p.n p.c] 52)); have xp5 := xp.alloc (.cells #[.bool p.no, .string p.nm, .slice p.A p.n p.c] 52); have hs4 := hb4.size; have hz4 : w4.heap.size = w0.heap.size + 1 := by rw [← hq4]; simp
      have h8 : (w4.alloc (.cells #[.bool p.no, .string p.nm, .slice p.A p.n p.c] 52)).ownsRow (w0.heap.size + 1) 52 3 (.slice (some ⟨w4.heap.size, 0, none⟩) 1 1) 1 (psCells [p]) :=
        ⟨rfl, .inr ⟨w4.heap.size, 1, _, rfl, by omega, xr, nl _, by unfold maxLen; omega, rfl, rfl⟩⟩
      obtain ⟨w5, hq5⟩ : ∃ w5, w4.alloc (.cells #[.bool p.no, .string p.nm, .slice p.A p.n p.c] 52) = w5 := ⟨_, rfl⟩; rw [hq5] at hb5 xp5 h8; have HQ4 := hid hq4; have HQ5 := hid hq5; have H8 := hid h8; have XP5 := hid xp5; have HB5 := hid hb5; clear hq4 hq5 h8 xp5 hb5 xr xp hb4 HQw hpk; clear hz4 hs4; go_wp2_with (first | rw [HQ4.out] | rw [HQ5.out]); clear y0 y1 y2 z0 z1 z2; go_loopw [8, 9, 22] (fun v8 v9 i W => ∃ j : Nat, j ≤ gs.length ∧ i = .int .i64 (j : Int) ∧ W.ownsRow (w0.heap.size + 1) 52 3 v8 (p :: joinedG b p (gs.take j)).length (psCells (p :: joinedG b p (gs.take j))) ∧ W.ownsRow (w0.heap.size + 1) 30 1 v9 (keptG b p (gs.take j)).length (gsCells (keptG b p (gs.take j))) ∧ Blk W w0.heap.size 52 #[.bool p.no, .string p.nm, .slice p.A p.n p.c] ∧ Below w0.heap.size w0 W) (fun _ _ i _ => gs.length - (intOf i).toNat)
      case atStart => exact ⟨0, Nat.zero_le _, rfl, H8.out, World.ownsRow_nil _ _ _ _, XP5.out, HB5.out⟩
      case round =>
        clear H8 XP5 HB5 HQ4 HQ5; obtain ⟨j, hj, rfl, h8, h9, hxp, hB6⟩ := hrel; have hI6 := HI.out.below (Nat.le_trans hT hsw) hB6; have H8 := hid h8; have H9 := hid h9; have XP := hid hxp; have HB6 := hid hB6; have HI6 := hid hI6; have hsr := hB6.size; have hz8 := (h8.lt); clear hxp hB6 hz8; by_cases hlj : j < gs.length
        · have hljI : (j : Int) < (gs.length : Int) := qaa
          obtain ⟨G, hGj⟩ : ∃ G, gs[j]? = some G := ⟨_, List.getElem?_eq_getElem hlj⟩; have hGP := hI6.at_ (List.mem_of_getElem? hGj)
          obtain ⟨r5, hr5, cG⟩ : ∃ r5, A5 = some ⟨r5, 0, none⟩ ∧ wr.cell? ⟨r5, j, none⟩ = some (.slice G.A G.n G.c) := by
            rcases hI6.row.2 with ⟨e, h0⟩ | ⟨r5, cap, cur, e, _, hg5, e1, e2, e3, e4⟩
            · omega
            · injection e with e5 e6 e7
              refine ⟨r5, e5, ?_⟩; have e8 : (gsCells gs)[j]? = some G.v := by unfold gsCells; rw [List.getElem?_map, hGj]; rfl
              rw [← e4, List.getElem?_take, if_pos qaa] at e8; simp [World.cell?, hg5]; simpa [Gp.v] using e8
          subst hr5; have HGJ := hid hGj; have HGP := hid hGP; have p0 := XP.out.cell 0; have p1 := XP.out.cell 1; have p2 := XP.out.cell 2; have hct := implContainsFn_any g w.heap.size w0.heap.size b p hiT _ G.A G.n G.c G.qs wr (H.out.keep (fun j => (HW.out.trans (HB6.out.mono hsw)).cell HG.out) (fun j => (HW.out.trans (HB6.out.mono hsw)).frozen HG.out)) (by have := HG.out; omega) (XB.out.below (HB.out.trans (HB6.out.mono HB.out.size))) XP.out (HP.out.keep fun k hk => HB6.out.block k qaa) hGP qaa; have HCT := hid hct; clear hct hGj hGP hI6 h8 h9; go_wp2_with fail; refine HCT.out.mono ?_; rintro e w7 ⟨rfl, hb7⟩
          have HB7 := hid (HB6.out.trans (hb7.mono hsr)); have h8' := ownsRow_up H8.out hb7; have h9' := ownsRow_up H9.out hb7; have XP7 := hid (XP.out.below hb7); have hGP7 := HGP.out.up qaa hb7; have hs7 := hb7.size
          have hfl2 : (joinedG b p (gs.take j)).length + G.n ≤ 1000 := by
            have h1 : (joinedG b p (gs.take j)).length ≤ ((gs.take j).flatMap Gp.qs).length := flat_take Gp.qs (gs.take j) (fun G => joinsB b p.pt G.pts); have h2 := flat_pre Gp.qs gs (j + 1); have h4 : gs.take (j + 1) = gs.take j ++ [G] := by rw [List.take_add_one, HGJ.out]; rfl
            rw [h4, List.flatMap_append, List.length_append, List.flatMap_singleton] at h2; have h3 := HGP.out.len; have h5 : (gs.flatMap Gp.qs).length ≤ k := hfl; omega
          clear HCT hb7 cG p0 p1 p2
          cases hjn : joinsB b p.pt G.pts with
          | true =>
            have hjn' : joinsB b p.pt (G.qs.map Pr.pt) = true := hjn; obtain ⟨e1, e2⟩ := kept_snoc_yes HGJ.out hjn; obtain ⟨v', W', hrun, hO', hG', hgb⟩ := append_parts_at (base := w0.heap.size + 1) h8' (by have := XP7.out.lt; omega) hGP7 qaf; have HRU := hid hrun; have HO := hid hO'; have h9'' := h9'.kept hgb (rows_apart h9' h8' qal); have hbl : Below w0.heap.size w0 W' := HB7.out.grown hgb qaa (fun j e => by have := (h8'.lt j e).1; omega); have xp8 := XP7.out.kept hgb (fun e => by have := (h8'.lt _ e.symm).1; omega); have H92 := hid h9''; have HBL := hid hbl; have XP8 := hid xp8; clear hrun hO' hG' hgb h9'' hbl xp8 h8' h9' hGP7
            rw [hjn']; go_wp2_with (first | (at_builtin; refine wpList_append_at rfl rfl rfl rfl rfl HRU.out ?_)); refine ⟨⟨j + 1, by omega, by go_num, ?_, ?_, XP8.out, HBL.out⟩, by simp [intOf]; omega⟩
            · rw [e2]; exact HO.out
            · rw [e1]; exact H92.out
          | false =>
            have hjn' : joinsB b p.pt (G.qs.map Pr.pt) = false := hjn; obtain ⟨e1, e2⟩ := kept_snoc_no HGJ.out hjn; have hb8 := below1 w7 (.cells #[.slice G.A G.n G.c] 30)
            have hkl : (keptG b p (gs.take j)).length ≤ 1000 := by
              have h1 : (keptG b p (gs.take j)).length ≤ (gs.take j).length := List.length_filter_le _ _; rw [List.length_take] at h1; omega
            obtain ⟨g9, m9, c9, W', hrun, hO', hgb⟩ := append_gp (P := w7.heap.size) (x := .slice G.A G.n G.c) (ownsRow_up h9' hb8) (by have := XP7.out.lt; simp; omega) (Blk.new w7 _ _) rfl qaa; have HRU := hid hrun; have HO := hid hO'; have h8'' := (ownsRow_up h8' hb8).kept hgb (rows_apart h8' h9' qal); have hbl : Below w0.heap.size w0 W' := (belowThen HB7.out (hb8.mono qaa)).grown hgb qaf (fun j e => by have := (h9'.lt j e).1; omega); have xp8 := (XP7.out.below hb8).kept hgb (fun e => by have := (h9'.lt _ e.symm).1; omega); have H82 := hid h8''; have HBL := hid hbl; have XP8 := hid xp8; clear hrun hO' hgb h8'' hbl xp8 h8' h9' hGP7 hb8
            rw [hjn']; go_wp2_with (first | (at_builtin; refine wpList_append_at rfl rfl rfl rfl rfl HRU.out ?_)); refine ⟨⟨j + 1, by omega, by go_num, ?_, ?_, XP8.out, HBL.out⟩, by simp [intOf]; omega⟩
            · rw [e2]; exact H82.out
            · rw [e1, List.length_append]; unfold gsCells; rw [List.map_append]; exact HO.out
        · have hjl : gs.take j = gs := List.take_of_length_le qaa
          rw [hjl] at h8 h9; obtain ⟨A8, c8, hv8, hc8, hm8⟩ := ownsRow_form h8; have hb8 := below1 wr (.cells #[u8] 30); have hkl : (keptG b p gs).length ≤ gs.length := List.length_filter_le _ _; have hkf : (joinedG b p gs).length ≤ (gs.flatMap (·.qs)).length := flat_take _ _ _; obtain ⟨g9, m9, c9, W', hrun, hO', hgb⟩ := append_gp (P := wr.heap.size) (x := u8) (ownsRow_up h9 hb8) (by have := XP.out.lt; simp; omega) (Blk.new wr _ _) (by rw [hv8]; rfl) qaa; have h8' := (ownsRow_up h8 hb8).kept hgb (rows_apart h8 h9 qal); have hbl : Below w0.heap.size w0 W' := (belowThen HB6.out (hb8.mono qaa)).grown hgb qaf (fun j e => by have := (h9.lt j e).1; omega)
          have hnew : GsIn W' hiT w.heap.size (.slice (some ⟨g9, 0, none⟩) m9 c9) (keptG b p gs ++ [(⟨A8, (p :: joinedG b p gs).length, c8, p :: joinedG b p gs⟩ : Gp)]) := by
            refine ⟨?_, fun K hK => ?_⟩
            · rw [List.length_append]
              unfold gsCells; rw [List.map_append]; have := ownsRow_base hO' (show w.heap.size ≤ w0.heap.size + 1 by omega); rw [hv8] at this; exact this
            · rcases List.mem_append.1 hK with hK | hK
              · exact (HI.out.below (Nat.le_trans hT hsw) hbl).ok K (List.mem_filter.1 hK).1
              · rw [List.mem_singleton.1 hK]
                refine ⟨?_, fun q hq => ?_⟩
                · show W'.ownsRow _ _ _ (.slice A8 _ c8) _ _
                  rw [← hv8]; exact ownsRow_base h8' qaa
                · rcases List.mem_cons.1 hq with e | e
                  · rw [e]; exact HP.out.keep fun k hk => hbl.block k qaa
                  · unfold joinedG at e
                    obtain ⟨G, hG, hqG⟩ := List.mem_flatMap.1 e; exact ((HI.out.below (Nat.le_trans hT hsw) hbl).ok G (List.mem_filter.1 hG).1).2 q hqG
          have hadd : (keptG b p gs ++ [(⟨A8, (p :: joinedG b p gs).length, c8, p :: joinedG b p gs⟩ : Gp)]).map Gp.pts = ((qs.take (k + 1)).map Pr.pt).foldl (addG b) [] := by
            rw [addG_gs b p gs _ rfl, HGS.out, List.take_add_one, HPK.out, List.map_append, List.foldl_append]; rfl
          have HNEW := hid hnew; have HADD := hid hadd; have HRU := hid hrun; have HBL := hid (HB.out.trans (hbl.mono HB.out.size))
          have hfl3 : ((keptG b p gs ++ [(⟨A8, (p :: joinedG b p gs).length, c8, p :: joinedG b p gs⟩ : Gp)]).flatMap (·.qs)).length ≤ k + 1 := by
            rw [List.flatMap_append, List.length_append, List.flatMap_singleton]; have h1 : ((keptG b p gs).flatMap Gp.qs).length + (joinedG b p gs).length = (gs.flatMap Gp.qs).length := flat_parts Gp.qs (fun G => joinsB b p.pt G.pts) gs; have h2 : (gs.flatMap Gp.qs).length ≤ k := hfl; show ((keptG b p gs).flatMap Gp.qs).length + (p :: joinedG b p gs).length ≤ k + 1; rw [List.length_cons]; omega
          have hlen3 : (keptG b p gs ++ [(⟨A8, (p :: joinedG b p gs).length, c8, p :: joinedG b p gs⟩ : Gp)]).length ≤ k + 1 := by
            rw [List.length_append, List.length_singleton]; omega
          obtain ⟨gs', hgs'⟩ : ∃ gs', keptG b p gs ++ [(⟨A8, (p :: joinedG b p gs).length, c8, p :: joinedG b p gs⟩ : Gp)] = gs' := ⟨_, rfl⟩; rw [hgs'] at HNEW HADD hfl3 hlen3; subst hv8; clear hrun hnew hadd hO' hgb h8 h9 h8' hbl hb8 hI6 hgs'; go_wp2_with (first | (at_builtin; refine wpList_append_at rfl rfl rfl rfl rfl HRU.out ?_)); exact ⟨⟨k + 1, gs', by omega, by go_num, HNEW.out, HADD.out, hlen3, hfl3, HBL.out⟩, by simp [intOf]; omega⟩
    · have hkn : qs.take k = qs := List.take_of_length_le qec
      rw [hkn] at HGS; go_wp2; exact bodyPost_ret (v := .slice A5 gs.length c5) (by simp [results, Tryz.results133, go_sem]) rfl ⟨A5, c5, gs, rfl, HI.out, hc5, by unfold maxLen; exact hm5, HGS.out, HW.out⟩
structure SeekIn (w : World) (Bs : Nat → Prop) (x g : Nat) (L : List (At × Nat)) (b : Bd) (hiT : Nat) (V : List ByteArray) : Prop where
  ix : IxIn w Bs x L
  few : L.length ≤ 300
  bd : BdIn w g b
  lt : g < w.heap.size
  off : ¬ Bs g
  sm : SmB b
  keys : KeysIn V b
  vs : V.length ≤ 12
  line : hiT ≤ g
theorem SeekIn.below {w w' : World} {Bs : Nat → Prop} {x g : Nat} {L : List (At × Nat)} {b : Bd} {hiT : Nat} {V : List ByteArray} (h : SeekIn w Bs x g L b hiT V) (hb : Below w.heap.size w w') : SeekIn w' Bs x g L b hiT V :=
  ⟨h.ix.keep fun k _ hk => hb.block k hk, h.few, h.bd.keep (fun _ => hb.cell h.lt) (fun _ => hb.frozen h.lt), Nat.lt_of_lt_of_le h.lt hb.size, h.off, h.sm, h.keys, h.vs, h.line⟩
theorem CandOk.len {Bs : Nat → Prop} {L : List (At × Nat)} {b : Bd} {a : At} {v : Value} {W : World} (h : CandOk Bs L b a v W) : ∃ A m c, v = .slice A m c ∧ m ≤ L.length ∧ m ≤ c ∧ c ≤ maxLen := by
  obtain ⟨p, hF, _, _⟩ := h; obtain ⟨A, c, e, h1, h2⟩ := hF.form; refine ⟨A, _, c, e, ?_, h1, h2⟩; have := List.length_filter_le p (L.map (·.1))
  rwa [List.length_map] at this
def PlacePost (qs : List Pr) (w : World) (e : Ending) (w' : World) : Prop := ∃ k : Nat, e = .returned (.int .i64 (k : Int)) ∧ (k = 0 ∨ k < qs.length) ∧ ((∃ q ∈ qs, q.no = false) → ∃ q, qs[k]? = some q ∧ q.no = false) ∧ Below w.heap.size w w'
theorem implFewest_any (Bs : Nat → Prop) (x g : Nat) (L : List (At × Nat)) (b : Bd) (hiT : Nat) (V : List ByteArray) (Ok : Nat → Prop) (A : Option Addr) (n c : Nat) (qs : List Pr) (w : World) (h : SeekIn w Bs x g L b hiT V) (hq : PartsIn w hiT Ok A n c qs) :
    Calls Tryz.prog 174 #[.agg #[.pointer (some ⟨x, 0, none⟩), .pointer (some ⟨x, 0, none⟩)], .slice A n c, .pointer (some ⟨g, 0, none⟩)] w (PlacePost qs w) := by
  have H := hid h; have HQ := hid hq; have HL := hid hq.len; have hcap := hq.cap; have hmax := hq.max; unfold maxLen at hmax; have hlg := h.line; have hglt := h.lt; have hb1 := below1 w (.cells #[.pointer (some ⟨x, 0, none⟩), .pointer (some ⟨x, 0, none⟩)] 79); have xs := Blk.new w 79 #[.pointer (some ⟨x, 0, none⟩), .pointer (some ⟨x, 0, none⟩)]; obtain ⟨w1, hq1⟩ : ∃ w1, w.alloc (.cells #[.pointer (some ⟨x, 0, none⟩), .pointer (some ⟨x, 0, none⟩)] 79) = w1 := ⟨_, rfl⟩; rw [hq1] at hb1 xs
  have HQ1 := hid hq1; have HB1 := hid hb1; have XS := hid xs; clear h hq hq1 hb1 xs; go_enter Tryz.func174, Tryz.ntmps174; go_wp2_with (rw [HQ1.out]); go_loopw [7, 8, 14] (fun best least i wr => ∃ k bk lk : Nat, k ≤ n ∧ i = .int .i64 (k : Int) ∧ best = .int .i64 (bk : Int) ∧ least = .int .i64 (lk : Int) ∧ ((bk = 0 ∧ lk = 301 ∧ ∀ j q, j < k → qs[j]? = some q → q.no = true) ∨ (bk < k ∧ lk ≤ 300 ∧ ∃ q, qs[bk]? = some q ∧ q.no = false)) ∧ Below w1.heap.size w1 wr) (fun _ _ i _ => n - (intOf i).toNat)
  case atStart => exact ⟨0, 0, 301, Nat.zero_le _, rfl, rfl, rfl, .inl ⟨rfl, rfl, fun j q hj => absurd hj (Nat.not_lt_zero _)⟩, Below.refl _ _⟩
  case round =>
    obtain ⟨k, bk, lk, hk, rfl, rfl, rfl, hor, hB⟩ := hrel; have HOR := hid hor; have HB := hid hB; have HW := hid (belowThen HB1.out hB); clear hor hB; have hlk : lk ≤ 301 := by rcases HOR.out with h | h <;> omega
    have hbk : bk ≤ k := by rcases HOR.out with h | h <;> omega
    by_cases hlt : k < n
    · have hltI : (k : Int) < (n : Int) := qaa
      have HQw := HQ.out.up qaa HW.out; obtain ⟨pa, q, hA, _, _, hqk, z0, z1, z2⟩ := HQw.at_ hlt; subst hA; have HQK := hid hqk; have HP := hid (HQw.ok q (List.mem_of_getElem? hqk)); have xq := Blk.new wr 52 #[.bool q.no, .string q.nm, .slice q.A q.n q.c]; obtain ⟨w4, hq4⟩ : ∃ w4, wr.alloc (.cells #[.bool q.no, .string q.nm, .slice q.A q.n q.c] 52) = w4 := ⟨_, rfl⟩; have hb4 : Below wr.heap.size wr w4 := by rw [← hq4]; exact below1 _ _
      rw [hq4] at xq; have HB4 := hid (belowThen HB.out hb4); have HW4 := hid (belowThen HW.out hb4); have y0 := xq.cell 0; have y1 := xq.cell 1; have y2 := xq.cell 2; have s0 := (XS.out.below HB4.out).cell 0; simp at y0 y1 y2 s0; have HQ4 := hid hq4; have hsw := HW.out.size; have hs4 := hb4.size; clear HQw hqk hq4
      cases hno : q.no with
      | true =>
        rw [hno] at HQ4 z0 y0
        have hnew : ((bk = 0 ∧ lk = 301 ∧ ∀ j r, j < k + 1 → qs[j]? = some r → r.no = true) ∨ (bk < k + 1 ∧ lk ≤ 300 ∧ ∃ q, qs[bk]? = some q ∧ q.no = false)) := by
          rcases HOR.out with ⟨h1, h2, h3⟩ | ⟨h1, h2, h3⟩
          · refine .inl ⟨h1, h2, fun j r hj hr => ?_⟩
            by_cases e : j = k
            · subst e; rw [HQK.out] at hr; injection hr with hr; rw [← hr]; exact hno
            · exact h3 j r qaa hr
          · exact .inr ⟨by omega, h2, h3⟩
        have HNEW := hid hnew; clear hnew hb4 xq; go_wp2_with (rw [HQ4.out])
        exact ⟨⟨k + 1, bk, lk, by omega, by go_num, rfl, rfl, HNEW.out, HB4.out⟩, by simp [intOf]; omega⟩
      | false =>
        have hp4 := HP.out.keep (w' := w4) fun k hk => hb4.block k qaa; have hcd := implCands_any Bs x g L b q.nm q.A q.n q.c q.ts w4 (H.out.below HW4.out).ix (H.out.below HW4.out).bd qaa H.out.sm (hp4.2.2.keep (fun _ _ _ => rfl) (nl _) qaa) hp4.2.1 hp4.1; have HCD := hid hcd; rw [hno] at HQ4 z0 y0; clear hcd hp4; go_wp2_with (first | rw [HQ4.out]); refine HCD.out.mono ?_; rintro e w5 ⟨v, rfl, hC, hb5⟩; obtain ⟨A5, m5, c5, rfl, hm5, _, _⟩ := hC.len; have hm300 : m5 ≤ 300 := Nat.le_trans hm5 H.out.few; have HB5 := hid (belowThen HB4.out hb5); clear hC hb5 HCD hb4 xq y0 y1 y2 s0 z0 z1 z2; by_cases hml : m5 < lk
        · have hmlI : (m5 : Int) < (lk : Int) := qaa
          go_wp2; exact ⟨⟨k + 1, k, m5, by omega, by go_num, rfl, rfl, .inr ⟨by omega, by omega, q, HQK.out, hno⟩, HB5.out⟩, by simp [intOf]; omega⟩
        · have hmlI : ¬ (m5 : Int) < (lk : Int) := qaa
          have hnew : bk < k ∧ lk ≤ 300 ∧ ∃ q, qs[bk]? = some q ∧ q.no = false := by
            rcases HOR.out with ⟨h1, h2, _⟩ | h1
            · omega
            · exact h1
          have HNEW := hid hnew; clear hnew; go_wp2; exact ⟨⟨k + 1, bk, lk, by omega, by go_num, rfl, rfl, .inr ⟨by omega, HNEW.out.2.1, HNEW.out.2.2⟩, HB5.out⟩, by simp [intOf]; omega⟩
    · have hfin : (bk = 0 ∨ bk < qs.length) ∧ ((∃ q ∈ qs, q.no = false) → ∃ q, qs[bk]? = some q ∧ q.no = false) := by
        have hL := HL.out; rcases HOR.out with ⟨h1, h2, h3⟩ | ⟨h1, h2, h3⟩
        · refine ⟨.inl h1, fun ⟨q, hq, hno⟩ => ?_⟩
          obtain ⟨j, hj⟩ := List.getElem?_of_mem hq; have := (List.getElem?_eq_some_iff.1 hj).1; rw [h3 j q qaa hj] at hno; cases hno
        · exact ⟨.inr qaa, fun _ => h3⟩
      have HF := hid hfin; clear hfin; go_wp2; exact bodyPost_ret (v := .int .i64 (bk : Int)) (by simp [results, Tryz.results174, go_sem]) rfl ⟨bk, rfl, HF.out.1, HF.out.2, HW.out⟩
end Go.Proofs.YtcigljngiemdeaaGreat
