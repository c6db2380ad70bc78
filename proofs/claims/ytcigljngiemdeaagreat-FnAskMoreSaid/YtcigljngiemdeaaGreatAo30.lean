/-
  Texts of one claim, put together.
-/
import Derived.Test.YtcigljngiemdeaaGreatAo0
import Derived.Test.YtcigljngiemdeaaGreatHolds
set_option maxRecDepth 100000
set_option maxHeartbeats 8000000
namespace Go.Proofs.YtcigljngiemdeaaGreat
open Go.RowKit
theorem group_some {b : Bd} {ps g : List Pt} (h : g ∈ groupsB b ps) : 0 < g.length := by
  rcases (groups_ok b ps).open_ g h with h1 | h1
  · omega
  · exact List.length_pos_iff.2 h1.1
theorem holdsOf (Bs : Nat → Prop) (x g : Nat) (L : List (At × Nat)) (hiT : Nat) (V : List ByteArray) (N : Nat) (hN : N ≤ 1000) (ih : GroupAt Bs x g L hiT V N) : HoldsAt Bs x g L hiT V N := by
  intro b Ok A n c qs w hn h hq hO hV hwf; have H := hid h; have HQ := hid hq; have HL := hid hq.len; have HV := hid hV; have HWF := hid hwf; have IH := hid ih; have hlg := h.line; have hglt := h.lt; have hb1 := below1 w (.cells #[.pointer (some ⟨x, 0, none⟩), .pointer (some ⟨x, 0, none⟩)] 79); have xs := Blk.new w 79 #[.pointer (some ⟨x, 0, none⟩), .pointer (some ⟨x, 0, none⟩)]; obtain ⟨w1, hq1⟩ : ∃ w1, w.alloc (.cells #[.pointer (some ⟨x, 0, none⟩), .pointer (some ⟨x, 0, none⟩)] 79) = w1 := ⟨_, rfl⟩
  rw [hq1] at hb1 xs; have hgr := implGroups_any g b hiT Ok A n c qs w1 (h.below hb1).bd (by have := hb1.size; omega) (hq.up qaa hb1) (by have := hb1.size; omega) qaa; have HGR := hid hgr; have HQ1 := hid hq1; have HB1 := hid hb1; have XS := hid xs; obtain ⟨pr, hpr⟩ : ∃ pr, Sat (factsOf L) (qs.map Pr.pt) b = pr := ⟨_, rfl⟩; have HPR := hid hpr; have hsz1 := hb1.size; clear h hq hq1 hb1 xs hO hV hwf hgr ih hpr; go_enter Tryz.func98, Tryz.ntmps98; go_wp2_with (rw [HQ1.out]); refine HGR.out.mono ?_; rintro e w2 ⟨A2, c2, gs, rfl, hgs, hc2, hm2, hpts, hb2⟩
  unfold maxLen at hm2; have HGS := hid hgs; have HPT := hid hpts; have HB2 := hid hb2; have HW2 := hid (belowThen HB1.out hb2); have hs2 := hb2.size; obtain ⟨m, hm⟩ : ∃ m, gs.length = m := ⟨_, rfl⟩; have HM := hid hm; rw [hm] at hc2 ⊢; clear hgs hpts hb2 HGR hm; go_wp2; go_loopw [13] (fun i wr => ∃ j : Nat, j ≤ m ∧ i = .int .i64 (j : Int) ∧ FarG g w2 wr ∧ BdIn wr g b ∧ ∀ j' G, j' < j → gs[j']? = some G → Sat (factsOf L) G.pts b) (fun i _ => m - (intOf i).toNat)
  case atStart => exact ⟨0, Nat.zero_le _, rfl, FarG.refl g w2, (H.out.below HW2.out).bd, fun j' G hj => absurd hj (Nat.not_lt_zero _)⟩
  case round =>
    obtain ⟨j, hj, rfl, hfar, hbd, hall⟩ := hrel; have HFAR := hid hfar; have HBD := hid hbd; have HALL := hid hall; have hsr := hfar.size; have HFW := hid ((FarG.of_below (g := g) HW2.out).trans hfar); clear hfar hbd hall; by_cases hlj : j < m
    · have hljI : (j : Int) < (m : Int) := qaa
      obtain ⟨G, hGj⟩ : ∃ G, gs[j]? = some G := ⟨_, List.getElem?_eq_getElem qcy⟩; have hGm := List.mem_of_getElem? hGj
      obtain ⟨r2, hr2, hrg, hrl, cG⟩ : ∃ r2, A2 = some ⟨r2, 0, none⟩ ∧ w1.heap.size ≤ r2 ∧ r2 < w2.heap.size ∧ w2.cell? ⟨r2, j, none⟩ = some (.slice G.A G.n G.c) := by
        rcases HGS.out.row.2 with ⟨e, h0⟩ | ⟨r2, cap, cur, e, hb5, hg5, e1, e2, e3, e4⟩
        · have := HM.out; omega
        · injection e with e5 e6 e7
          refine ⟨r2, e5, hb5, (Array.getElem?_eq_some_iff.1 hg5).1, ?_⟩; have e8 : (gsCells gs)[j]? = some G.v := by unfold gsCells; rw [List.getElem?_map, hGj]; rfl
          rw [← e4, List.getElem?_take, if_pos qcy] at e8; simp [World.cell?, hg5]; simpa [Gp.v] using e8
      subst hr2; have cGr : wr.cell? ⟨r2, j, none⟩ = some (.slice G.A G.n G.c) := (cb_ (a := ⟨r2, j, none⟩) (HFAR.out.block r2 hrl qaa)).trans cG; have hGin : G.pts ∈ groupsB b (qs.map Pr.pt) := by rw [← HPT.out]; exact List.mem_map.2 ⟨G, hGm, rfl⟩
      have hGP := (HGS.out.at_ hGm).far HFAR.out hlg qaa (fun k hk => by have hk' : w1.heap.size ≤ k := hk; omega); have hseek : SeekIn wr Bs x g L b hiT V := H.out.far HFW.out HBD.out; have hGl : G.qs.length = G.n := hGP.len; have hGn : 0 < G.n := by have := group_some hGin; unfold Gp.pts at this; rw [List.length_map] at this; omega
      have hGN : G.n ≤ n := by
        have := group_len hGin; unfold Gp.pts at this; rw [List.length_map, List.length_map] at this; have := HL.out; omega
      have hGV : VarsIn V G.qs := fun q hq y hy => by
        have h1 : q.pt ∈ (groupsB b (qs.map Pr.pt)).flatten := List.mem_flatten.2 ⟨G.pts, hGin, List.mem_map.2 ⟨q, hq, rfl⟩⟩; obtain ⟨q', hq', e⟩ := List.mem_map.1 ((groups_mem b _ _).1 h1); refine HV.out q' hq' y ?_; have e2 : q'.pt.2.2 = q.pt.2.2 := by rw [e]
        have e3 : q'.ts = q.ts := e2; rw [e3]; exact hy
      have hgh := IH.out b (fun k => w1.heap.size ≤ k) G.A G.n G.c G.qs (qs.map Pr.pt) wr qaa hGn hseek hGP (fun k _ hk => by have hk' : w1.heap.size ≤ k := hk; omega) hGV (group_wf HWF.out hGin) hGin; have hSr : Blk wr w.heap.size 79 #[.pointer (some ⟨x, 0, none⟩), .pointer (some ⟨x, 0, none⟩)] := (HFAR.out.block _ (Nat.lt_of_lt_of_le XS.out.lt hs2) qaa).trans (XS.out.below HB2.out); have s0 := hSr.cell 0; have s1 := hSr.cell 1; simp only [List.getElem?_toArray, List.getElem?_cons_zero, List.getElem?_cons_succ] at s0 s1; have HGH := hid hgh; have HGJ := hid hGj; have HGI := hid hGin
      clear hGm cG hGin hGP hseek hGl hGn hGN hGV hgh hSr hGj; go_wp2_with fail; refine HGH.out.mono ?_; rintro e w3 ⟨⟨k3, rfl, hk3⟩, hf3, hbd3⟩; have HK3 := hid hk3; have HB3 := hid hbd3; have HF3 := hid (HFAR.out.trans hf3); have HFW3 := hid (HFW.out.trans hf3); clear hk3 hf3 hbd3 HGH s0 s1 cGr
      cases k3 with
      | true =>
        have hnew : ∀ j' G, j' < j + 1 → gs[j']? = some G → Sat (factsOf L) G.pts b := fun j' G' hj' hG' => by
          by_cases e : j' = j
          · subst e; rw [HGJ.out] at hG'; injection hG' with hG'; rw [← hG']; exact HK3.out.1 rfl
          · exact HALL.out j' G' qaa hG'
        have HNEW := hid hnew; clear hnew; go_wp2
        exact ⟨⟨j + 1, by omega, by go_num, HF3.out, HB3.out, HNEW.out⟩, by simp [intOf]; omega⟩
      | false =>
        have hcon : ¬ pr := fun hp => by
          rw [← HPR.out] at hp; have := HK3.out.2 ((groups_sat (factsOf L) b (qs.map Pr.pt)).1 hp G.pts HGI.out); cases this
        have HCON := hid hcon; clear hcon; go_wp2; exact bodyPost_ret (v := .bool false) (by simp [results, Tryz.results98, go_sem]) rfl ⟨⟨false, rfl, by rw [HPR.out]; simp only [Bool.false_eq_true, false_iff]; exact HCON.out⟩, HFW3.out, HB3.out⟩
    · have hyes : pr := by
        rw [← HPR.out, groups_sat]; intro g' hg'; rw [← HPT.out] at hg'; obtain ⟨G, hG, rfl⟩ := List.mem_map.1 hg'; obtain ⟨j', hj'⟩ := List.getElem?_of_mem hG; have := (List.getElem?_eq_some_iff.1 hj').1; exact HALL.out j' G qcy hj'
      have HY := hid hyes; clear hyes; go_wp2; exact bodyPost_ret (v := .bool true) (by simp [results, Tryz.results98, go_sem]) rfl ⟨⟨true, rfl, by rw [HPR.out]; simp only [true_iff]; exact HY.out⟩, HFW.out, HBD.out⟩
theorem implHolds_any (Bs : Nat → Prop) (x g : Nat) (L : List (At × Nat)) (hiT : Nat) (V : List ByteArray) : ∀ N, N ≤ 1000 → HoldsAt Bs x g L hiT V N
  | 0, h => holdsOf Bs x g L hiT V 0 h fun _ _ _ n _ _ _ _ hn hn0 => absurd hn0 qaa
  | N + 1, h => holdsOf Bs x g L hiT V (N + 1) h (groupAt Bs x g L hiT V N qaa (implHolds_any Bs x g L hiT V N qaa))
def OwnT (t : TypeId) : Prop := t = 79 ∨ t = 52 ∨ t = 143
def OwnObj : Obj → Prop
  | .cells _ t _ => OwnT t
  | _ => False
structure TurnsR (B0 g : Nat) (W0 W1 : World) : Prop where
  os : W1.os = W0.os
  tape : W1.tape = W0.tape
  output : W1.output = W0.output
  size : W0.heap.size ≤ W1.heap.size
  same : ∀ k o, W0.heap[k]? = some o → k ≠ g → (k < B0 ∨ ¬ OwnObj o) → W1.heap[k]? = some o
structure KeepsR (E : Nat → Prop) (B0 g : Nat) (W W' : World) : Prop where
  size : W.heap.size ≤ W'.heap.size
  env : ∀ k, E k → k < W.heap.size → W'.heap[k]? = W.heap[k]?
  own : ∀ k cs t, W.heap[k]? = some (.cells cs t (0, 0)) → B0 ≤ k → k ≠ g → OwnT t → W'.heap[k]? = some (.cells cs t (0, 0))
section
variable {E Ok : Nat → Prop} {B0 g : Nat} {A B C : World}
theorem TurnsR.refl (B0 g : Nat) (W : World) : TurnsR B0 g W W := ⟨rfl, rfl, rfl, nl _, fun _ _ h _ _ => h⟩
theorem TurnsR.trans (h : TurnsR B0 g A B) (k : TurnsR B0 g B C) : TurnsR B0 g A C :=
  ⟨k.os.trans h.os, k.tape.trans h.tape, k.output.trans h.output, Nat.le_trans h.size k.size, fun i o hi hg ho => k.same i o (h.same i o hi hg ho) hg ho⟩
theorem TurnsR.far (h : FarG g A B) : TurnsR B0 g A B :=
  ⟨h.os, h.tape, h.output, h.size, fun k _ hk hg _ => (h.block k (Array.getElem?_eq_some_iff.1 hk).1 hg).trans hk⟩
theorem TurnsR.below (h : Below A.heap.size A B) : TurnsR B0 g A B := TurnsR.far (FarG.of_below h)
theorem KeepsR.refl (E : Nat → Prop) (B0 g : Nat) (W : World) : KeepsR E B0 g W W := ⟨nl _, fun _ _ _ => rfl, fun _ _ _ h _ _ _ => h⟩
theorem KeepsR.trans (h : KeepsR E B0 g A B) (k : KeepsR E B0 g B C) : KeepsR E B0 g A C :=
  ⟨Nat.le_trans h.size k.size, fun i he hi => (k.env i he (Nat.lt_of_lt_of_le hi h.size)).trans (h.env i he hi), fun i cs t hi hb hg ho => k.own i cs t (h.own i cs t hi hb hg ho) hb hg ho⟩
theorem KeepsR.far (hE : ¬ E g) (h : FarG g A B) : KeepsR E B0 g A B :=
  ⟨h.size, fun k he hk => h.block k hk (fun e => hE (e ▸ he)), fun k _ _ hk _ hg _ => (h.block k (Array.getElem?_eq_some_iff.1 hk).1 hg).trans hk⟩
theorem KeepsR.below (hE : ¬ E g) (h : Below A.heap.size A B) : KeepsR E B0 g A B := KeepsR.far hE (FarG.of_below h)
theorem KeepsR.blk {b : Nat} {t : TypeId} {cs : Array Value} (h : KeepsR E B0 g A B) (hb : Blk A b t cs) (h0 : B0 ≤ b) (hg : b ≠ g) (ht : OwnT t) : Blk B b t cs := h.own b cs t hb h0 hg ht
theorem SeekIn.keeps {Bs : Nat → Prop} {x : Nat} {L : List (At × Nat)} {b b' : Bd} {hiT : Nat} {V : List ByteArray} (h : SeekIn A Bs x g L b hiT V) (hk : KeepsR E B0 g A B) (hs : ∀ k, Bs k → E k) (hb : BdIn B g b') (hsm : SmB b') (hkey : KeysIn V b') : SeekIn B Bs x g L b' hiT V :=
  ⟨h.ix.keep fun k hk' hl => hk.env k (hs k hk') hl, h.few, hb, Nat.lt_of_lt_of_le h.lt hk.size, h.off, hsm, hkey, h.vs, h.line⟩
theorem PartsIn.keeps {hiT n c : Nat} {p : Option Addr} {qs : List Pr} (h : PartsIn A hiT Ok p n c qs) (hk : KeepsR E B0 g A B) (hs : ∀ k, Ok k → E k) (hT : ∀ k, k < hiT → E k) (hl : hiT ≤ A.heap.size) : PartsIn B hiT Ok p n c qs :=
  h.keep (fun k hk' => hk.env k (hT k hk') qaa) (fun k hk' hl => hk.env k (hs k hk') hl) hk.size
end
def TellPost (E : Nat → Prop) (B0 g : Nat) (J Jx : List Bd → World → Prop) (pre : List Bd) (rows : List Bd) (b : Bd) (W : World) (e : Ending) (W' : World) : Prop :=
  KeepsR E B0 g W W' ∧ BdIn W' g b ∧ ∃ W2, TurnsR B0 g W2 W' ∧ ((e = .returned (.bool true) ∧ J (pre ++ rows) W2) ∨ (e = .returned (.bool false) ∧ ∃ l, l <+: rows ∧ Jx (pre ++ l) W2))
def TellsNone (E Bs : Nat → Prop) (x g : Nat) (L : List (At × Nat)) (hiT : Nat) (V : List ByteArray) (tv : Value) (B0 M : Nat) (J Jx : List Bd → World → Prop) : Prop :=
  ∀ (b : Bd) (A : Option Addr) (c : Nat) (pre : List Bd) (W0 W : World), J pre W0 → pre.length + 1 ≤ M → TurnsR B0 g W0 W → SeekIn W Bs x g L b hiT V → B0 ≤ W.heap.size →
    Calls Tryz.prog 47 #[.agg #[.pointer (some ⟨x, 0, none⟩), .pointer (some ⟨x, 0, none⟩)], .slice A 0 c, .pointer (some ⟨g, 0, none⟩), tv] W (TellPost E B0 g J Jx pre [b] b W)
noncomputable def byFact (list : List At) (a : At) (b : Bd) (ps : List Pt) (f : At) : List Bd := match matchA a f b with | some b' => tellB list ps b' | none => []
theorem byFact_none {list : List At} {a : At} {b : Bd} {ps : List Pt} {f : At} (h : matchA a f b = none) : byFact list a b ps f = [] := by unfold byFact; rw [h]
theorem byFact_some {list : List At} {a : At} {b b' : Bd} {ps : List Pt} {f : At} (h : matchA a f b = some b') : byFact list a b ps f = tellB list ps b' := by unfold byFact; rw [h]
theorem tell_open {list : List At} {q : Pt} {ps : List Pt} {b : Bd} (h : wholeB b q.2 = false) (pd : At → Bool) (hpd : ∀ f ∈ list, ∀ b', matchA q.2 f b = some b' → pd f = true) : tellB list (q :: ps) b = (list.filter pd).flatMap (byFact list q.2 b ps) := by
  rw [tellB, if_neg (by rw [h]; simp)]; unfold fitsL
  have key : ∀ l : List At, (∀ f ∈ l, ∀ b', matchA q.2 f b = some b' → pd f = true) → (l.filterMap fun f => matchA q.2 f b).flatMap (tellB list ps) = (l.filter pd).flatMap (byFact list q.2 b ps) := by
    intro l
    induction l with
    | nil => intro _; rfl
    | cons f l ih =>
      intro hl; have ih := ih fun f' hf' => hl f' (by simp [hf'])
      cases hm : matchA q.2 f b with
      | none =>
        rw [List.filterMap_cons, hm]; simp only; by_cases hp : pd f = true
        · rw [List.filter_cons_of_pos hp, List.flatMap_cons, byFact_none hm, List.nil_append]; exact ih
        · rw [List.filter_cons_of_neg hp]; exact ih
      | some b' =>
        have hp := hl f qad b' hm; rw [List.filterMap_cons, hm]; simp only; rw [List.flatMap_cons, List.filter_cons_of_pos hp, List.flatMap_cons, byFact_some hm, ih]
  exact key list hpd
theorem tell_so {list : List At} {q : Pt} {ps : List Pt} {b : Bd} (h : wholeB b q.2 = true) (hs : SoB list b q) : tellB list (q :: ps) b = tellB list ps b := by
  rw [tellB, if_pos h, if_pos hs]
theorem tell_notso {list : List At} {q : Pt} {ps : List Pt} {b : Bd} (h : wholeB b q.2 = true) (hs : ¬ SoB list b q) : tellB list (q :: ps) b = [] := by
  rw [tellB, if_pos h, if_neg hs]
theorem first_must {q : Pt} {ps : List Pt} {b : Bd} (hw : WfP (q :: ps) b) (hn : NotsLast (q :: ps)) (ho : wholeB b q.2 = false) : q.1 = false := by
  cases hq : q.1 with
  | false => rfl
  | true =>
    obtain ⟨n1, _⟩ := List.pairwise_cons.1 hn
    have := hw.nots (fun r hr => by
      rcases List.mem_cons.1 hr with e | e
      · subst e; exact hq
      · exact n1 r e hq) q qad
    rw [ho] at this; cases this
theorem prefix_app {α : Type} {a b l : List α} (h : l <+: b) : a ++ l <+: a ++ b := by
  obtain ⟨t, ht⟩ := h; exact ⟨t, by rw [List.append_assoc, ht]⟩
theorem flat_pre_prefix {α β : Type} (f : α → List β) (xs : List α) (k : Nat) {x : α} (h : xs[k]? = some x) : (xs.take k).flatMap f ++ f x <+: xs.flatMap f := by
  have e : (xs.take (k + 1)).flatMap f = (xs.take k).flatMap f ++ f x := flatMap_take f h; rw [← e]
  conv => rhs; rw [← List.take_append_drop (k + 1) xs, List.flatMap_append]
  exact ⟨_, rfl⟩
def TellsAt (E Bs : Nat → Prop) (x g : Nat) (L : List (At × Nat)) (hiT : Nat) (V : List ByteArray) (tv : Value) (B0 M : Nat) (J Jx : List Bd → World → Prop) (N : Nat) : Prop :=
  ∀ (b : Bd) (A : Option Addr) (n c : Nat) (qs : List Pr) (pre : List Bd) (W0 W : World), n ≤ N → J pre W0 → pre.length + (tellB (factsOf L) (qs.map Pr.pt) b).length ≤ M → TurnsR B0 g W0 W → SeekIn W Bs x g L b hiT V → B0 ≤ W.heap.size → PartsIn W hiT E A n c qs → VarsIn V qs → WfP (qs.map Pr.pt) b → NotsLast (qs.map Pr.pt) →
    Calls Tryz.prog 47 #[.agg #[.pointer (some ⟨x, 0, none⟩), .pointer (some ⟨x, 0, none⟩)], .slice A n c, .pointer (some ⟨g, 0, none⟩), tv] W (TellPost E B0 g J Jx pre (tellB (factsOf L) (qs.map Pr.pt) b) b W)
theorem tellsMore (E Bs : Nat → Prop) (x g : Nat) (L : List (At × Nat)) (hiT : Nat) (V : List ByteArray) (tv : Value) (B0 M : Nat) (J Jx : List Bd → World → Prop) (hBE : ∀ k, Bs k → E k) (hTE : ∀ k, k < hiT → E k) (hEg : ¬ E g) (N : Nat) (hN : N ≤ 900) (h0 : TellsNone E Bs x g L hiT V tv B0 M J Jx) (ih : TellsAt E Bs x g L hiT V tv B0 M J Jx N) : TellsAt E Bs x g L hiT V tv B0 M J Jx (N + 1) := by
  intro b A n c qs pre W0 w hn hJ hM hT h hB0 hq hV hwf hnl; by_cases hn0 : n = 0
  · subst hn0
    have e0 : qs = [] := List.length_eq_zero_iff.1 hq.len; subst e0; exact h0 b A c pre W0 w hJ (by simpa [tellB] using hM) hT h hB0
  · have H := hid h; have HQ := hid hq; have HL := hid hq.len; have HV := hid hV; have HWF := hid hwf; have HNL := hid hnl; have IH := hid ih; have HJ := hid hJ; have HTT := hid hT
    have HBE := hid hBE; have HTE := hid hTE; have HEG := hid hEg; have hcap := hq.cap; have hmax := hq.max; unfold maxLen at hmax; have hlg := h.line; have hglt := h.lt
    obtain ⟨q, rs, hqs⟩ : ∃ q rs, qs = q :: rs := by
      cases qs with
      | nil => have := hq.len; simp at this; omega
      | cons q rs => exact ⟨q, rs, rfl⟩
    have hb1 := below1 w (.cells #[.pointer (some ⟨x, 0, none⟩), .pointer (some ⟨x, 0, none⟩)] 79); have xs := Blk.new w 79 #[.pointer (some ⟨x, 0, none⟩), .pointer (some ⟨x, 0, none⟩)]; obtain ⟨w1, hq1⟩ : ∃ w1, w.alloc (.cells #[.pointer (some ⟨x, 0, none⟩), .pointer (some ⟨x, 0, none⟩)] 79) = w1 := ⟨_, rfl⟩; rw [hq1] at hb1 xs; have hq1' := hq.up qaa hb1; obtain ⟨p, q', hA, hEp, hpb, hqk, z0, z1, z2⟩ := hq1'.at_ (i := 0) qaa; subst hA; rw [hqs] at hqk; have hqq : q = q' := by simpa using hqk
    subst hqq; have hcut := hq1'.cut (k := 1) qaa; rw [hqs] at hcut; simp only [List.drop_succ_cons, List.drop_zero] at hcut; obtain ⟨D, hD⟩ : ∃ D, (if c = 1 then some p else (some p).map (·.add (1 * 3))) = D := ⟨_, rfl⟩; rw [hD] at hcut; have hp0 : p.add (0 * 3) = p := by unfold Addr.add; simp
    rw [hp0] at z0 z1 z2; have HPQ := hid (hq1'.ok q (by rw [hqs]; simp)); have HD := hid hD; have HCUT := hid hcut; have HQS := hid hqs; have HQ1 := hid hq1; have HB1 := hid hb1; have XS := hid xs; have hnz : ¬ (n : Int) = 0 := qaa; have hn1 : (1 : Int) ≤ (n : Int) := qaa; have hn00 : (0 : Int) < (n : Int) := qaa; have hs1 := hb1.size; clear h hq hq1' hq1 hb1 xs hqk hD hcut hV hwf hnl ih hJ hT hBE hTE hEg hqs; go_enter Tryz.func47, Tryz.ntmps47; go_wp2_with (rw [HQ1.out]); obtain ⟨V2, hVe⟩ : ∃ V2, w1.drew = V2 := ⟨_, rfl⟩
    have HVE := hid hVe; have hb2v : Below w1.heap.size w1 V2 := by rw [← hVe]; exact (Below.refl _ _).drew
    have u0 : V2.cell? p = some (.bool q.no) := by rw [← hVe]; exact z0
    have u1 : V2.cell? ⟨p.block, p.off + 1, none⟩ = some (.string q.nm) := by rw [← hVe]; exact z1
    have u2 : V2.cell? ⟨p.block, p.off + 2, none⟩ = some (.slice q.A q.n q.c) := by rw [← hVe]; exact z2
    have sw : ∀ W : World, Below V2.heap.size V2 W → W.cell? p = some (.bool q.no) ∧ W.cell? ⟨p.block, p.off + 1, none⟩ = some (.string q.nm) ∧ W.cell? ⟨p.block, p.off + 2, none⟩ = some (.slice q.A q.n q.c) := fun W hW => by
      have hpv : p.block < V2.heap.size := Nat.lt_of_lt_of_le hpb hb2v.size; exact ⟨(hW.cell hpv).trans u0, (hW.cell (p := ⟨p.block, _, none⟩) hpv).trans u1, (hW.cell (p := ⟨p.block, _, none⟩) hpv).trans u2⟩
    have SW := hid sw; have HB2V := hid hb2v; clear hVe z0 z1 z2 sw u0 u1 u2 hb2v hpb; refine wp_region_held_drew (S := fun W => W.cell? p = some (.bool q.no) ∧ W.cell? ⟨p.block, p.off + 1, none⟩ = some (.string q.nm) ∧ W.cell? ⟨p.block, p.off + 2, none⟩ = some (.slice q.A q.n q.c)) qae (by rw [HVE.out]; exact SW.out _ (Below.refl _ _)) ?_; rw [HVE.out]; intro hS_; refine tk 0 (.slice (some p) n c) hS_ ?_; refine tk 1 (.pointer (some p)) hS_ ?_; refine tk 2 (.agg #[.bool q.no, .string q.nm, .slice q.A q.n q.c]) hS_ ?_; refine tk 3 (.slice (some p) n c) hS_ ?_; refine tk 4 (.slice D (n - 1) (c - 1)) hS_ ?_ (hy := Or.inl ⟨by rfl, fun w_ hSw_ => by rw [← HD.out]; go_simp⟩)
    refine rd1 5 fun K_ hK_ => ?_; go_simp; have hb3 := below1 V2 (.cells #[.bool false, .string ⟨#[]⟩, .slice none 0 0] 52); have xQ := Blk.new V2 52 #[.bool false, .string ⟨#[]⟩, .slice none 0 0]; refine hK_.out _ _ (SW.out _ hb3) fun hS_ => ?_; clear hK_
    (try simp only [Act.put, List.setIfInBounds_toArray, List.set_cons_zero, List.set_cons_succ])
    obtain ⟨w5, hq5⟩ : ∃ w5, V2.alloc (.cells #[.bool false, .string ⟨#[]⟩, .slice none 0 0] 52) = w5 := ⟨_, rfl⟩; obtain ⟨Q, hQ⟩ : ∃ Q, V2.heap.size = Q := ⟨_, rfl⟩; have hQ2 : V2.heap.size ≤ Q := qaa; rw [hq5] at xQ hb3 hS_ ⊢; have hb25 := hb3; rw [hQ] at xQ ⊢; clear hq5 hb3; have y0 := xQ.cell 0; have y1 := xQ.cell 1; have y2 := xQ.cell 2; have f0 := xQ.frozen 0; have f1 := xQ.frozen 1; have f2 := xQ.frozen 2; simp at y0 y1 y2; refine rd1 6 fun K_ hK_ => ?_; go_simp; obtain ⟨x1, x2, x3, x4⟩ := store3 (v0 := .bool q.no) (v1 := .string q.nm) (v2 := .slice q.A q.n q.c) xQ
    have hb26 := x4 V2 hb25 hQ2; obtain ⟨w6, hq6⟩ : ∃ w6, ((w5.setCell ⟨Q, 0, none⟩ (.bool q.no)).setCell ⟨Q, 1, none⟩ (.string q.nm)).setCell ⟨Q, 2, none⟩ (.slice q.A q.n q.c) = w6 := ⟨_, rfl⟩; rw [hq6] at x1 hb26 ⊢; clear hq6 x2 x3 x4 y0 y1 y2 f0 f1 f2 hb25 xQ; refine hK_.out _ _ (SW.out _ hb26) fun hS_ => ?_; clear hK_; refine tk 7 (.slice D (n - 1) (c - 1)) hS_ ?_; refine wpAnyH_done qae ?_ _; have HX := hid x1; have hv2s := HB2V.out.size; have HB26 := hid (HB2V.out.trans (hb26.mono HB2V.out.size)); have HXS := hid (XS.out.below HB26.out); have HCU := hid (HCUT.out.up qaa HB26.out); have HBW := hid (belowThen HB1.out HB26.out)
    have hs6 := HBW.out.size; clear x1 hb26 hS_ HVE SW HB2V HCUT HD HQ1; have hQg : Q ≠ g := qaa; have hQB : B0 ≤ Q := qaa; have hql : rs.length + 1 = n := by have := HL.out; rw [HQS.out] at this; simpa using this
    have hpq6 := HPQ.out.keep (w' := w6) fun k hk => HB26.out.block k qaa; have HPQ6 := hid hpq6; have hfo := implFactOf_any g b q.nm q.A q.n q.c q.ts w6 (H.out.below HBW.out).bd qaa (hpq6.2.2.keep (fun _ _ _ => rfl) (nl _) qaa) hpq6.2.1; have y0 := HX.out.cell 0; have y1 := HX.out.cell 1; have y2 := HX.out.cell 2; simp at y0 y1 y2; have HFO := hid hfo; have hqsp : qs.map Pr.pt = q.pt :: rs.map Pr.pt := by rw [HQS.out]; rfl
    have hwf' : WfP (q.pt :: rs.map Pr.pt) b := by rw [← hqsp]; exact HWF.out
    have hnl' : NotsLast (q.pt :: rs.map Pr.pt) := by rw [← hqsp]; exact HNL.out
    have hnlr : NotsLast (rs.map Pr.pt) := (List.pairwise_cons.1 hnl').2; have hvr : VarsIn V rs := fun r hr => HV.out r (by rw [HQS.out]; simp [hr]); have hvq : ∀ y, (true, y) ∈ q.ts → y ∈ V := HV.out q (by rw [HQS.out]; simp); obtain ⟨rows, hrows⟩ : ∃ rows, tellB (factsOf L) (qs.map Pr.pt) b = rows := ⟨_, rfl⟩; rw [hrows] at hM; have hrows' := hrows; rw [hqsp] at hrows'; have HROWS := hid hrows; have HRQ := hid hrows'; have HWF' := hid hwf'; have HNR := hid hnlr; have HVR := hid hvr; have HVQ := hid hvq; have HNL' := hid hnl'; clear hpq6 hfo hqsp hwf' hnl' hnlr hvr hvq hrows hrows'
    cases hwh : wholeB b (q.nm, q.ts) with
    | true =>
      have hky := fill_key HPQ.out H.out.sm; obtain ⟨fa, hfa⟩ : ∃ fa, fillA q.pt.2 b = fa := ⟨_, rfl⟩; have hfo2 := HFO.out; rw [hwh, if_pos rfl, show fillA (q.nm, q.ts) b = fa from hfa] at hfo2; rw [hfa] at hky; have hso : (SoB (factsOf L) b q.pt ↔ (q.no = true ↔ fa ∉ L.map (·.1))) := by unfold SoB; rw [hfa]; exact Iff.rfl
      have hV : factV fa = .agg #[.string fa.1, .int .i64 fa.2.length, .string (wordAt fa.2 0), .string (wordAt fa.2 1), .string (wordAt fa.2 2)] := rfl; have hwhp : wholeB b q.pt.2 = true := hwh; have HSO := hid hso; have HKY := hid hky; have HVV := hid hV; have HWH := hid hwhp; rw [hV] at hfo2; have HFO2 := hid hfo2; clear hso hky hV hfo2 HFO hfa hwh hwhp; go_wp2_with fail; refine HFO2.out.mono ?_; rintro e w7 ⟨rfl, hb7⟩; have hb78 := belowThen hb7 (below1 w7 (.cells #[.string fa.1, .int .i64 fa.2.length, .string (wordAt fa.2 0), .string (wordAt fa.2 1), .string (wordAt fa.2 2)] 143))
      have xF := Blk.new w7 143 #[.string fa.1, .int .i64 fa.2.length, .string (wordAt fa.2 0), .string (wordAt fa.2 1), .string (wordAt fa.2 2)]; obtain ⟨w8, hq8⟩ : ∃ w8, w7.alloc (.cells #[.string fa.1, .int .i64 fa.2.length, .string (wordAt fa.2 0), .string (wordAt fa.2 1), .string (wordAt fa.2 2)] 143) = w8 := ⟨_, rfl⟩; rw [hq8] at hb78 xF; have HQ8 := hid hq8; have v0 := (HX.out.below hb78).cell 0; have v1 := (HX.out.below hb78).cell 1; have v2 := (HX.out.below hb78).cell 2; have s0 := (HXS.out.below hb78).cell 0; have s1 := (HXS.out.below hb78).cell 1
      have g0 := xF.cell 0; have g1 := xF.cell 1; have g2 := xF.cell 2; have g3 := xF.cell 3; have g4 := xF.cell 4; simp at v0 v1 v2 s0 s1 g0 g1 g2 g3 g4; have hbw8 := belowThen HBW.out hb78; have his := implIsSo_any Bs x L fa q.no q.nm q.A q.n q.c w8 (H.out.below hbw8).ix HKY.out; rw [HVV.out] at his; have HIS := hid his; have HBW8 := hid hbw8; have HB68 := hid hb78; clear his hbw8 hb78 hb7 xF hq8 y0 y1 y2; go_wp2_with (first | rw [HQ8.out]); refine HIS.out.mono ?_; rintro e w9 ⟨⟨k9, rfl, hk9⟩, hb9⟩; have HK9 := hid (hk9.trans HSO.out.symm); have HB9 := hid (belowThen HBW8.out hb9); have HB69 := hid (belowThen HB68.out hb9)
      have hS9 := (HXS.out.below HB69.out); have t0 := hS9.cell 0; have t1 := hS9.cell 1; simp at t0 t1; clear hk9 hb9 hS9 s0 s1 v0 v1 v2 g0 g1 g2 g3 g4
      cases k9 with
      | false =>
        have hns : ¬ SoB (factsOf L) b q.pt := fun hs => by have := HK9.out.2 hs; cases this
        have hr0 : rows = [] := by rw [← HRQ.out]; exact tell_notso HWH.out hns
        have HR0 := hid hr0; clear hns hr0; go_wp2
        exact bodyPost_ret (v := .bool true) qaq rfl ⟨KeepsR.below HEG.out HB9.out, (H.out.below HB9.out).bd, W0, HTT.out.trans (TurnsR.below HB9.out), .inl ⟨rfl, by rw [HROWS.out, HR0.out, List.append_nil]; exact HJ.out⟩⟩
      | true =>
        have hys : SoB (factsOf L) b q.pt := HK9.out.1 rfl; have hr1 : tellB (factsOf L) (rs.map Pr.pt) b = rows := by rw [← HRQ.out]; exact (tell_so HWH.out hys).symm
        have hih := IH.out b D (n - 1) (c - 1) rs pre W0 w9 qaa HJ.out (by rw [hr1]; exact hM) (HTT.out.trans (TurnsR.below HB9.out)) (H.out.below HB9.out) (by have := HB9.out.size; omega) (HCU.out.up qaa HB69.out) HVR.out (HWF'.out.tail HWH.out) HNR.out; rw [hr1] at hih; have HIH := hid hih; clear hys hr1 hih; go_wp2_with fail; refine HIH.out.mono ?_; rintro e w10 ⟨hk10, hbd10, W2, hT10, (⟨rfl, hj10⟩ | ⟨rfl, l, hl, hj10⟩)⟩
        · have HK10 := hid ((KeepsR.below HEG.out HB9.out).trans hk10); have HBD := hid hbd10; have HT10 := hid hT10; have HJ10 := hid hj10
          clear hk10 hbd10 hT10 hj10; go_wp2; exact bodyPost_ret (v := .bool true) qaq rfl ⟨HK10.out, HBD.out, W2, HT10.out, .inl ⟨rfl, by rw [HROWS.out]; exact HJ10.out⟩⟩
        · have HK10 := hid ((KeepsR.below HEG.out HB9.out).trans hk10); have HBD := hid hbd10; have HT10 := hid hT10; have HJ10 := hid hj10; have HLP := hid hl
          clear hk10 hbd10 hT10 hj10 hl; go_wp2
          exact bodyPost_ret (v := .bool false) qaq rfl ⟨HK10.out, HBD.out, W2, HT10.out, .inr ⟨rfl, l, by rw [HROWS.out]; exact HLP.out, HJ10.out⟩⟩
    | false =>
      have hno : q.no = false := first_must HWF'.out HNL'.out (show wholeB b q.pt.2 = false from hwh); have hwfr : ∀ f ∈ factsOf L, ∀ b', matchA q.pt.2 f b = some b' → WfP (rs.map Pr.pt) b' := fun f hf b' hm => HWF'.out.on (fun u hu => ix_words H.out.ix f hf u hu) hm; have HWR := hid hwfr; have hwhp : wholeB b q.pt.2 = false := hwh; have HWH := hid hwhp; have hfo2 := HFO.out; rw [hwh] at hfo2
      have hfo3 : Calls Tryz.prog 94 #[.pointer (some ⟨g, 0, none⟩), .agg #[.string q.nm, .slice q.A q.n q.c]] w6 fun e w' => e = .returned (.tuple #[.agg #[.string ⟨#[]⟩, .int .i64 0, .string ⟨#[]⟩, .string ⟨#[]⟩, .string ⟨#[]⟩], .bool false]) ∧ Below w6.heap.size w6 w' := by
        simpa [noFact] using hfo2
      have HFO2 := hid hfo3; clear hwfr hfo2 hfo3 HFO hwh hwhp; go_wp2_with fail; refine HFO2.out.mono ?_; rintro e w7 ⟨rfl, hb7⟩; have hb78 := belowThen hb7 (below1 w7 (.cells #[.string ⟨#[]⟩, .int .i64 0, .string ⟨#[]⟩, .string ⟨#[]⟩, .string ⟨#[]⟩] 143)); have v0 := (HX.out.below hb78).cell 0; have v1 := (HX.out.below hb78).cell 1; have v2 := (HX.out.below hb78).cell 2; have s0 := (HXS.out.below hb78).cell 0; have s1 := (HXS.out.below hb78).cell 1; simp only [List.getElem?_toArray, List.getElem?_cons_zero, List.getElem?_cons_succ] at v0 v1 v2 s0 s1; have hcnt := (H.out.below (belowThen HBW.out hb78)).bd.count
      obtain ⟨w8, hq8⟩ : ∃ w8, w7.alloc (.cells #[.string ⟨#[]⟩, .int .i64 0, .string ⟨#[]⟩, .string ⟨#[]⟩, .string ⟨#[]⟩] 143) = w8 := ⟨_, rfl⟩; rw [hq8] at hb78; have HQ8 := hid hq8; have HBW8 := hid (belowThen HBW.out hb78); have hs8 := HBW8.out.size; have hp8 := HPQ6.out.keep (w' := w8) fun k hk => hb78.block k qaa; have hcd := implCands_any Bs x g L b q.nm q.A q.n q.c q.ts w8 (H.out.below HBW8.out).ix (H.out.below HBW8.out).bd qaa H.out.sm (hp8.2.2.keep (fun _ _ _ => rfl) (nl _) qaa) hp8.2.1 hp8.1; have HCD := hid hcd; have HB68 := hid hb78; clear hcd hp8 hb78 hb7 hq8 y0 y1 y2
      go_wp2_with fail; rw [HQ8.out]; refine HCD.out.mono ?_; rintro e w9 ⟨v, rfl, ⟨pd, hF, hpk, hpm⟩, hb9⟩; obtain ⟨A9, c9, rfl, hc9, hm9⟩ := hF.form; unfold maxLen at hm9; obtain ⟨fs, hfs⟩ : ∃ fs, (L.map (·.1)).filter pd = fs := ⟨_, rfl⟩; have hrf : rows = fs.flatMap (byFact (factsOf L) q.pt.2 b (rs.map Pr.pt)) := by rw [← HRQ.out, ← hfs]; exact tell_open HWH.out pd hpm
      rw [hfs] at hF hc9 ⊢; have HFS := hid hfs; have HF := hid hF; have HPK := hid hpk; have HRF := hid hrf; have HB69 := hid (belowThen HB68.out hb9); have HBW9 := hid (belowThen HBW8.out hb9); clear hfs hF hpk hpm hb9 HCD v0 v1 v2 s0 s1 hcnt hrf; go_wp2_with fail; obtain ⟨mf, hmf⟩ : ∃ mf, fs.length = mf := ⟨_, rfl⟩; rw [hmf] at hc9 ⊢; have HMF := hid hmf; clear hmf; obtain ⟨lb, hlb⟩ : ∃ lb, b.length = lb := ⟨_, rfl⟩; rw [hlb]; have HLB := hid hlb; clear hlb; go_loopw [59] (fun i wr => ∃ j : Nat, j ≤ mf ∧ i = .int .i64 (j : Int) ∧ KeepsR E B0 g w9 wr ∧ BdIn wr g b ∧ ∃ W2, J (pre ++ (fs.take j).flatMap (byFact (factsOf L) q.pt.2 b (rs.map Pr.pt))) W2 ∧ TurnsR B0 g W2 wr) (fun i _ => mf - (intOf i).toNat)
      case atStart => exact ⟨0, Nat.zero_le _, rfl, KeepsR.refl E B0 g w9, (H.out.below HBW9.out).bd, W0, by rw [List.take_zero, List.flatMap_nil, List.append_nil]; exact HJ.out, HTT.out.trans (TurnsR.below HBW9.out)⟩
      case round =>
        obtain ⟨j, hj, rfl, hkr, hbd, W2, hJ2, hT2⟩ := hrel; have HKR := hid hkr; have HBD := hid hbd; have HJ2 := hid hJ2; have HT2 := hid hT2; have hs9 := HBW9.out.size; have hsr := hkr.size; have HKW := hid ((KeepsR.below HEG.out HBW9.out).trans hkr); clear hkr hbd hJ2 hT2; by_cases hlj : j < mf
        · have hljI : (j : Int) < (mf : Int) := qaa
          have hFr := HF.out.keep (w' := wr) fun k hk hl => HKR.out.env k (HBE.out k hk) hl; rw [HMF.out] at hFr; obtain ⟨gb, f, hA9, hBg, hgb, hfj, d0, d1, d2, d3, d4⟩ := hFr.at_ hlj; subst hA9; have hfm : f ∈ (L.map (·.1)).filter pd := by rw [HFS.out]; exact List.mem_of_getElem? hfj
          obtain ⟨hfL, hfp⟩ := List.mem_filter.1 hfm; obtain ⟨hfk1, hfk2⟩ := HPK.out f hfp; have hfok : FactOk f := by obtain ⟨r, hr, e⟩ := List.mem_map.1 hfL; rw [← e]; exact H.out.ix.ok r hr
          have hmA : matchA q.pt.2 f b = matchT q.ts f.2 b := matchA_of_kind hfk1 hfk2; have HFJ := hid hfj; have HFL := hid hfL; have HFOK := hid hfok; have HMA := hid hmA; have xF := Blk.new wr 143 #[.string f.1, .int .i64 f.2.length, .string (wordAt f.2 0), .string (wordAt f.2 1), .string (wordAt f.2 2)]; have hba := below1 wr (.cells #[.string f.1, .int .i64 f.2.length, .string (wordAt f.2 0), .string (wordAt f.2 1), .string (wordAt f.2 2)] 143); obtain ⟨wa, hqa⟩ : ∃ wa, wr.alloc (.cells #[.string f.1, .int .i64 f.2.length, .string (wordAt f.2 0), .string (wordAt f.2 1), .string (wordAt f.2 2)] 143) = wa := ⟨_, rfl⟩
          rw [hqa] at xF hba; have HQA := hid hqa; have HBA := hid hba; have hka := HKW.out.trans (KeepsR.below HEG.out hba); have HKA := hid hka; have hQr : Blk wa Q 52 #[.bool q.no, .string q.nm, .slice q.A q.n q.c] := (HKR.out.blk (HX.out.below HB69.out) hQB hQg (.inr (.inl rfl))).below hba; have hSr : Blk wa w.heap.size 79 #[.pointer (some ⟨x, 0, none⟩), .pointer (some ⟨x, 0, none⟩)] := (HKR.out.blk (HXS.out.below HB69.out) hB0 qaa (.inl rfl)).below hba; have v0 := hQr.cell 0; have v1 := hQr.cell 1; have v2 := hQr.cell 2; have s0 := hSr.cell 0; have s1 := hSr.cell 1
          have g0 := xF.cell 0; have g1 := xF.cell 1; have g2 := xF.cell 2; have g3 := xF.cell 3; have g4 := xF.cell 4; simp only [List.getElem?_toArray, List.getElem?_cons_zero, List.getElem?_cons_succ] at v0 v1 v2 s0 s1 g0 g1 g2 g3 g4; have hsa := hba.size; have hga : g < wa.heap.size := qaa; have hgr : g < wr.heap.size := qaa; have hbda := HBD.out.keep (w' := wa) (fun j => hba.cell hgr) (fun j => hba.frozen hgr); have hlow : ∀ z, z < hiT → wa.heap[z]? = w1.heap[z]? := fun z hz => (hka.env z (HTE.out z hz) qaa).trans (HB1.out.block z qaa).symm; have hTa : IsTerms wa 0 g q.A q.n q.c q.ts := HPQ.out.2.2.keep (fun z _ hz => cb_ (hlow _ hz)) (nl _) hlg
          clear hlow; have hqts : q.ts.length = q.n := HPQ.out.2.2.1; have hmt := implMatch_any V g b q.nm q.A q.n q.c q.ts f wa hbda hga hTa HPQ.out.2.1 (by rw [hfk2]; exact hqts) H.out.vs H.out.keys HVQ.out; have HMT := hid hmt; have HQR := hid hQr; have HSR := hid hSr; have htk : ∀ rw_ : List Bd, byFact (factsOf L) q.pt.2 b (rs.map Pr.pt) f = rw_ → (fs.take (j + 1)).flatMap (byFact (factsOf L) q.pt.2 b (rs.map Pr.pt)) = (fs.take j).flatMap (byFact (factsOf L) q.pt.2 b (rs.map Pr.pt)) ++ rw_ := fun rw_ e => by rw [← e]; exact flatMap_take _ hfj
          have HTK := hid htk; clear hmt hfm hfL hfp hfk1 hfk2 hfok hmA hfj hFr hqa hQr hSr xF hba hbda hTa hqts hka htk; go_wp2_with (first | rw [HQA.out]); refine HMT.out.mono ?_; rintro e w10 ⟨rfl, hf10, l, hbl, hr⟩; have hg10 : g < w10.heap.size := Nat.lt_of_lt_of_le hga hf10.size; have HKR10 := hid ((HKR.out.trans (KeepsR.below HEG.out HBA.out)).trans (KeepsR.far HEG.out hf10)); have HKW10 := hid (HKA.out.trans (KeepsR.far HEG.out hf10)); have HT10 := hid ((HT2.out.trans (TurnsR.below HBA.out)).trans (TurnsR.far hf10))
          cases hrr : matchT q.ts f.2 b with
          | none =>
            have hb0 := HTK.out [] (byFact_none (HMA.out.trans hrr)); rw [List.append_nil] at hb0; obtain ⟨hfz, y, hy⟩ := hbl.room 24 qaa; have hbk := hbl.back; rw [HLB.out] at hbk; have HBK := hid hbk; have HB0 := hid hb0; have hset : FarG g w10 (w10.setCell ⟨g, 24, none⟩ (.int .i64 (lb : Int))) := (FarG.refl g w10).setCell rfl _; have HKB := hid (HKR10.out.trans (KeepsR.far HEG.out hset)); have HTB := hid (HT10.out.trans (TurnsR.far hset)); clear hb0 hbl hbk hr hset v0 v1 v2 s0 s1 g0 g1 g2 g3 g4; go_wp2
            exact ⟨⟨j + 1, by omega, by go_num, HKB.out, HBK.out, W2, by rw [HB0.out]; exact HJ2.out, HTB.out⟩, by simp [intOf]; omega⟩
          | some b' =>
            have hb' := hr b' hrr; subst hb'; have hmm : matchA q.pt.2 f b = some (b ++ l) := HMA.out.trans hrr; have hsm' := match_sm H.out.sm HFOK.out hmm; have hky' := H.out.keys.on HVQ.out hmm; have hseek : SeekIn w10 Bs x g L (b ++ l) hiT V := H.out.keeps HKW10.out HBE.out hbl hsm' hky'; have hp10 : PartsIn w10 hiT E D (n - 1) (c - 1) rs := (HCU.out.up qaa HB69.out).keeps HKR10.out (fun _ h => h) HTE.out qaa; have hwr' := HWR.out f HFL.out _ hmm; have hih := implHolds_any Bs x g L hiT V 1000 (nl _) (b ++ l) E D (n - 1) (c - 1) rs w10 qaa hseek hp10 (fun k _ ho e => HEG.out (e ▸ ho)) HVR.out hwr'; have hS10 : Blk w10 w.heap.size 79 #[.pointer (some ⟨x, 0, none⟩), .pointer (some ⟨x, 0, none⟩)] := (hf10.block _ HSR.out.lt qaa).trans HSR.out
            have s0 := hS10.cell 0; have s1 := hS10.cell 1; simp only [List.getElem?_toArray, List.getElem?_cons_zero, List.getElem?_cons_succ] at s0 s1; have HIH := hid hih; have HMM := hid hmm; have HS10 := hid hS10; have HSM' := hid hsm'; have HKY' := hid hky'; have HWR' := hid hwr'; clear hseek hp10 hih hS10 hr hrr hmm hbl hsm' hky' hwr' v0 v1 v2 g0 g1 g2 g3 g4; go_wp2_with fail; refine HIH.out.mono ?_; rintro e w11 ⟨⟨k11, rfl, hk11⟩, hf11, hbd11⟩; have HKR11 := hid (HKR10.out.trans (KeepsR.far HEG.out hf11)); have HKW11 := hid (HKW10.out.trans (KeepsR.far HEG.out hf11)); have HT11 := hid (HT10.out.trans (TurnsR.far hf11))
            have hS11 : Blk w11 w.heap.size 79 #[.pointer (some ⟨x, 0, none⟩), .pointer (some ⟨x, 0, none⟩)] := (hf11.block _ HS10.out.lt qaa).trans HS10.out; have t0 := hS11.cell 0; have t1 := hS11.cell 1; simp only [List.getElem?_toArray, List.getElem?_cons_zero, List.getElem?_cons_succ] at t0 t1; have HK11 := hid hk11; have hts := tell_sat (ix_words H.out.ix) HWR'.out HNR.out; clear hk11 HIH s0 s1 hS11
            cases k11 with
            | false =>
              have hnil : tellB (factsOf L) (rs.map Pr.pt) (b ++ l) = [] := Classical.byContradiction fun hne => by
                have := HK11.out.2 (hts.1 hne); cases this
              have hb0 := HTK.out [] ((byFact_some HMM.out).trans hnil); rw [List.append_nil] at hb0; obtain ⟨hfz, y, hy⟩ := hbd11.room 24 qaa; have hbk := hbd11.back; rw [HLB.out] at hbk; have HBK := hid hbk; have HB0 := hid hb0; have hset : FarG g w11 (w11.setCell ⟨g, 24, none⟩ (.int .i64 (lb : Int))) := (FarG.refl g w11).setCell rfl _; have HKB := hid (HKR11.out.trans (KeepsR.far HEG.out hset)); have HTB := hid (HT11.out.trans (TurnsR.far hset)); clear hb0 hbd11 hbk hset hnil hts t0 t1 hf11; go_wp2
              exact ⟨⟨j + 1, by omega, by go_num, HKB.out, HBK.out, W2, by rw [HB0.out]; exact HJ2.out, HTB.out⟩, by simp [intOf]; omega⟩
            | true =>
              have hseek : SeekIn w11 Bs x g L (b ++ l) hiT V := H.out.keeps HKW11.out HBE.out hbd11 HSM'.out HKY'.out; have hp11 : PartsIn w11 hiT E D (n - 1) (c - 1) rs := (HCU.out.up qaa HB69.out).keeps HKR11.out (fun _ h => h) HTE.out qaa
              have hbnd : (pre ++ (fs.take j).flatMap (byFact (factsOf L) q.pt.2 b (rs.map Pr.pt))).length + (tellB (factsOf L) (rs.map Pr.pt) (b ++ l)).length ≤ M := by
                have h1 := (flat_pre_prefix (byFact (factsOf L) q.pt.2 b (rs.map Pr.pt)) fs j HFJ.out).length_le; rw [byFact_some HMM.out, ← HRF.out, List.length_append] at h1; rw [List.length_append]; omega
              have hih2 := IH.out (b ++ l) D (n - 1) (c - 1) rs _ W2 w11 qaa HJ2.out hbnd HT11.out hseek (by have := HKW11.out.size; omega) hp11 HVR.out HWR'.out HNR.out; have HIH2 := hid hih2; have hb1 := HTK.out _ (byFact_some HMM.out); have HB1' := hid hb1; clear hseek hp11 hih2 hts hbd11 hf11 hb1; go_wp2_with fail; refine HIH2.out.mono ?_; rintro e w12 ⟨hk12, hbd12, W3, hT12, hor⟩; obtain ⟨hfz, y, hy⟩ := hbd12.room 24 qaa; have hbk := hbd12.back; rw [HLB.out] at hbk; have HBK := hid hbk; have hset : FarG g w12 (w12.setCell ⟨g, 24, none⟩ (.int .i64 (lb : Int))) := (FarG.refl g w12).setCell rfl _; have HKB := hid ((HKR11.out.trans hk12).trans (KeepsR.far HEG.out hset)); have HTB := hid (hT12.trans (TurnsR.far hset)); have HKBW := hid ((HKW11.out.trans hk12).trans (KeepsR.far HEG.out hset))
              rcases hor with ⟨rfl, hj12⟩ | ⟨rfl, l2, hl2, hj12⟩
              · have HJ12 := hid hj12
                clear hj12 hbd12 hbk hset hk12 hT12 t0 t1 HIH2; go_wp2; exact ⟨⟨j + 1, by omega, by go_num, HKB.out, HBK.out, W3, by rw [HB1'.out, ← List.append_assoc]; exact HJ12.out, HTB.out⟩, by simp [intOf]; omega⟩
              · have hpx : (fs.take j).flatMap (byFact (factsOf L) q.pt.2 b (rs.map Pr.pt)) ++ l2 <+: rows := by
                  rw [HRF.out]; refine List.IsPrefix.trans (prefix_app hl2) ?_; have := flat_pre_prefix (byFact (factsOf L) q.pt.2 b (rs.map Pr.pt)) fs j HFJ.out
                  rwa [byFact_some HMM.out] at this
                have HJ12 := hid hj12; have HPX := hid hpx; clear hj12 hpx hbd12 hbk hset hk12 hT12 t0 t1 HIH2 hl2; go_wp2; exact bodyPost_ret (v := .bool false) qaq rfl ⟨HKBW.out, HBK.out, W3, HTB.out, .inr ⟨rfl, _, by rw [HROWS.out]; exact HPX.out, by rw [← List.append_assoc]; exact HJ12.out⟩⟩
        · have hall : fs.take j = fs := List.take_of_length_le (by have := HMF.out; omega)
          have hj' := HJ2.out; rw [hall, ← HRF.out] at hj'; have HJ' := hid hj'; clear hj' hall; go_wp2; exact bodyPost_ret (v := .bool true) qaq rfl ⟨HKW.out, HBD.out, W2, HT2.out, .inl ⟨rfl, by rw [HROWS.out]; exact HJ'.out⟩⟩
theorem implTells_any (E Bs : Nat → Prop) (x g : Nat) (L : List (At × Nat)) (hiT : Nat) (V : List ByteArray) (tv : Value) (B0 M : Nat) (J Jx : List Bd → World → Prop) (hBE : ∀ k, Bs k → E k) (hTE : ∀ k, k < hiT → E k) (hEg : ¬ E g) (h0 : TellsNone E Bs x g L hiT V tv B0 M J Jx) : ∀ N, N ≤ 901 → TellsAt E Bs x g L hiT V tv B0 M J Jx N
  | 0, _ => by
    intro b A n c qs pre W0 W hn hJ hM hT h hB0 hq _ _ _; have e0 : n = 0 := qaa; subst e0; have e1 : qs = [] := List.length_eq_zero_iff.1 hq.len; subst e1
    exact h0 b A c pre W0 W hJ (by simpa [tellB] using hM) hT h hB0
  | N + 1, h => tellsMore E Bs x g L hiT V tv B0 M J Jx hBE hTE hEg N qaa h0 (implTells_any E Bs x g L hiT V tv B0 M J Jx hBE hTE hEg h0 N qaa)
end Go.Proofs.YtcigljngiemdeaaGreat
