/-
  Texts of one claim, put together.
-/
import Derived.Test.YtcigljngiemdeaaGreatAo0
import Derived.Test.YtcigljngiemdeaaGreatTight
import Derived.Test.YtcigljngiemdeaaGreatAo2
import Derived.Maps.OwnIn
import Derived.Maps.OwnSet
import Derived.Maps.Views
import Derived.RangeFuncWrites
import Derived.Test.YtcigljngiemdeaaGreatAtomsOf
set_option maxRecDepth 100000
set_option maxHeartbeats 8000000
namespace Go.Proofs.YtcigljngiemdeaaGreat
open Go.RowKit Go.Shelf Go.Maps Go.WideMaps
attribute [local go_sem] Oper.semAt_some
def Marks (Ds : List Nat) (W : World) : Prop := Ds.Nodup ∧ ∀ D ∈ Ds, W.heap[D]? = some (.deferred (some []))
def marks (Ds : List Nat) : List Deferred := Ds.map fun D => { target := .collected D, args := #[] }
theorem Marks.kept {Ds : List Nat} {W W' : World} {row : Option Nat} (h : Marks Ds W) (hg : W.grownBy W' row) (hr : ∀ r, row = some r → r ∉ Ds) : Marks Ds W' :=
  ⟨h.1, fun D hD => (hg.block D (Array.getElem?_eq_some_iff.1 (h.2 D hD)).1 (fun e => hr D e.symm hD)).trans (h.2 D hD)⟩
theorem leaves_marks {F : Fence} {n : Nat} {P : Program} {fn : Func} {tmps : Array Value} {R : Ending → World → Prop} : ∀ (Ds : List Nat) (W : World), Marks Ds W →
    (∀ W' : World, W'.os = W.os → W'.tape = W.tape → W'.output = W.output → W'.heap.size = W.heap.size → (∀ i, i ∉ Ds → W'.heap[i]? = W.heap[i]?) → LeavesInM F n P fn tmps R [] .returning W') → LeavesInM F n P fn tmps R (marks Ds) .returning W
  | [], W, _, h => h W rfl rfl rfl rfl (fun _ _ => rfl)
  | D :: Ds, W, hM, h => by
    have hD := hM.2 D (List.mem_cons_self ..); have hnd := List.nodup_cons.1 hM.1; have hg := grownBy_putObj' W D (.deferred none); refine ⟨by simp, .inl ⟨D, _, rfl, run_takeDeferred hD, leaves_marks Ds _ ?_ ?_⟩⟩
    · exact ⟨hnd.2, fun D' hD' => (hg.block D' (Array.getElem?_eq_some_iff.1 (hM.2 D' (List.mem_cons_of_mem _ hD'))).1 (fun e => by injection e with e; subst e; exact hnd.1 hD')).trans (hM.2 D' (List.mem_cons_of_mem _ hD'))⟩
    · intro W' h1 h2 h3 h4 h5
      refine h W' (h1.trans hg.os) (h2.trans hg.tape) (h3.trans hg.output) (h4.trans (by simp [World.putObj])) (fun i hi => ?_); have hiD : i ≠ D := fun e => hi (by rw [e]; exact List.mem_cons_self ..); have hiDs : i ∉ Ds := fun e => hi (List.mem_cons_of_mem _ e); rw [h5 i hiDs]; simp [World.putObj, Ne.symm hiD]
def bset (vs : List ByteArray) : DataW Unit := setOf (.lit (.bool true)) (vs.map fun s => .string s.data.toList)
theorem bset_snoc (vs : List ByteArray) (s : ByteArray) : bset (vs ++ [s]) = (bset vs).put (.string s.data.toList) (.lit (.bool true)) := by unfold bset; rw [List.map_append]; exact setOf_snoc _ _ _
theorem Tryz.lawS : Keyed Tryz.prog 9 := string_keyed Tryz.underlying9
def mvars (qs : List Pt) : List ByteArray := (musts qs).flatMap fun q => varsOf q.2.2
theorem mvars_no {qs : List Pt} {k : Nat} {q : Pt} (h : qs[k]? = some q) (hq : q.1 = true) : mvars (qs.take (k + 1)) = mvars (qs.take k) := by unfold mvars; rw [musts_no h hq]
theorem mvars_yes {qs : List Pt} {k : Nat} {q : Pt} (h : qs[k]? = some q) (hq : q.1 = false) : mvars (qs.take (k + 1)) = mvars (qs.take k) ++ varsOf q.2.2 := by unfold mvars; rw [musts_yes h hq, List.flatMap_append]; simp
def BoundPost (vs : List ByteArray) (w : World) (e : Ending) (w' : World) : Prop :=
  ∃ b N, e = .returned (.map (some b)) ∧ w.heap.size ≤ b ∧ w'.ownsMap Tryz.prog 9 (plainElem Tryz.prog 4) b N (bset vs) ∧ Below w.heap.size w w'
theorem boundVars_any (B : Option Addr) (m d : Nat) (qs : List Pt) (w : World) (h : IsParts w 0 w.heap.size B m d qs) (h3 : ∀ q ∈ qs, q.2.2.length ≤ 3) (hmax : m ≤ 1000) :
    Calls Tryz.prog 68 #[.slice B m d] w (BoundPost (mvars qs) w) := by
  have HL := hid h.1; have H := hid h; clear h; have H3 := hid h3; clear h3; have hmm := @run_makeMap Tryz.prog; refine (callsIn_wide (n := 5)).1 ?_; refine callsIn_of_wp_marks Tryz.func68 rfl trivial ?_ rfl; simp only [Tryz.ntmps68, List.size_toArray, List.length_cons, List.length_nil, Nat.reduceAdd, Nat.reduceSub, Array.replicate_succ, Array.replicate_zero, List.push_toArray, List.append_toArray, List.nil_append, List.cons_append]; gi_wp2; refine wpIn_loop (fun a W => ∃ (k : Nat) (Ds : List Nat) (N : Nat) (u5 u11 u12 u13 u14 u15 u16 u17 u18 u22 : Value), a = { tmps := #[.slice B m d, undef, .map none, .pointer (some ⟨w.heap.size + 1, 0, none⟩), undef, u5, undef, .map (some w.heap.size), .slice B m d, .int .i64 (m : Int), .int .i64 (k : Int), u11, u12, u13, u14, u15, u16, u17, u18, undef, undef, undef, u22, undef], defers := marks Ds } ∧ k ≤ m ∧ N ≤ 3 * k ∧ Blk W (w.heap.size + 1) 109 #[.map (some w.heap.size)] ∧ W.ownsMap Tryz.prog 9 (plainElem Tryz.prog 4) w.heap.size N (bset (mvars (qs.take k))) ∧ Marks Ds W ∧ (∀ D ∈ Ds, w.heap.size + 2 ≤ D) ∧ Below w.heap.size w W ∧ w.heap.size + 2 ≤ W.heap.size) (fun a _ => m - (intOf (a.tmps.getD 10 undef)).toNat) ?_ ?_
  · exact ⟨0, [], 0, _, _, _, _, _, _, _, _, _, _, rfl, Nat.zero_le _, nl _, Blk.made _ _ _ qad, (World.ownsMap_made _ _ _ _).alloc _, ⟨List.nodup_nil, fun D hD => absurd hD qad⟩, fun D hD => absurd hD qad, below2 w _ _, by simp⟩
  · rintro a W ⟨k, Ds, N, u5, u11, u12, u13, u14, u15, u16, u17, u18, u22, rfl, hk, hN, hbk, hmap, hM, hDs, hb, hsz⟩
    have HBK := hid hbk; have HMP := hid hmap; have HMK := hid hM; have HDS := hid hDs; have HB := hid hb; clear hbk hmap hM hDs hb; by_cases hlt : k < m
    · have hlt2 : (k : Int) < (m : Int) := qaa
      obtain ⟨q, t, hA, -, hhi, hg, hE⟩ := (H.out.below PartE.stays HB.out (nl _)).at_ hlt; obtain ⟨C, n5, c5, c1, c2, c3, c4, c5'⟩ := hE.out; clear hE; subst hA; have HG := hid hg; clear hg; have HT5 := hid c5'; clear c5'; cases ht : t.1
      · rw [ht] at c1
        have hm3 := H3.out t (List.mem_of_getElem? HG.out); have hl5 := HT5.out.1; gi_wp2_with fail; refine ⟨trivial, (callsIn_wide.2 (variablesOf_any t.2.1 C n5 c5 _)).mono ?_⟩; rintro e w' ⟨rfl, rfl⟩; have hal := below2 W (.cells #[.bool false, .string t.2.1, .slice C n5 c5] 52) (.cells #[.string t.2.1, .slice C n5 c5] 49); have b2 : ((W.alloc (.cells #[.bool false, .string t.2.1, .slice C n5 c5] 52)).alloc (.cells #[.string t.2.1, .slice C n5 c5] 49)).cell? ⟨W.heap.size + 1, 1, none⟩ = some (.slice C n5 c5) := by simp [go_sem]
        have hz2 : ((W.alloc (.cells #[.bool false, .string t.2.1, .slice C n5 c5] 52)).alloc (.cells #[.string t.2.1, .slice C n5 c5] 49)).heap.size = W.heap.size + 2 := qad; have HBK2 := hid ((HBK.out.alloc (.cells #[.bool false, .string t.2.1, .slice C n5 c5] 52)).alloc (.cells #[.string t.2.1, .slice C n5 c5] 49)); have HMP2 := hid ((HMP.out.alloc (.cells #[.bool false, .string t.2.1, .slice C n5 c5] 52)).alloc (.cells #[.string t.2.1, .slice C n5 c5] 49))
        gi_wp2; obtain ⟨W2, hW2⟩ : ∃ W2, (W.alloc (.cells #[.bool false, .string t.2.1, .slice C n5 c5] 52)).alloc (.cells #[.string t.2.1, .slice C n5 c5] 49) = W2 := ⟨_, rfl⟩; rw [hW2] at hal b2 hz2 HBK2 HMP2 ⊢; clear hW2; have HMK2 := hid (HMK.out.kept (grownBelow hal none) qad); have HB2 := hid (HB.out.trans (hal.mono HB.out.size)); have T2 := HT5.out.below (hal.mono HB.out.size) (nl _); have hs2 : w.heap.size ≤ W2.heap.size := qaa; have HDL : Hid (∀ D ∈ Ds, D < W2.heap.size) := hid (fun D hD => (Array.getElem?_eq_some_iff.1 (HMK2.out.2 D hD)).1)
        refine wpIn_rangeFunc_ownG rfl qaa (gf := 160) (lb := #[.pointer (some ⟨W.heap.size + 1, 0, none⟩)]) rfl trivial (enters_of Tryz.func160 qae rfl)
          (varsS_stops (5 - 1) qaa (W.heap.size + 1) w.heap.size C n5 c5 t.2.2 W2 qaa hs2 b2 T2) belowK_t (belowK_b hs2) (Below.refl _ _) (fun _ => rfl)
          (fun pre V => (V.ownsMap Tryz.prog 9 (plainElem Tryz.prog 4) w.heap.size (N + pre.length) (bset (mvars (qs.take k) ++ pre.map (·.1))) ∧ Blk V (w.heap.size + 1) 109 #[.map (some w.heap.size)] ∧ Marks Ds V) ∧ Below w.heap.size w V)
          (fun _ _ _ => False)
          (fun s X Y row hs hg hr => ⟨⟨hs.1.1.kept hg (fun e => by have := (hr _ e.symm).1; omega), hs.1.2.1.kept hg (fun e => by have := (hr _ e.symm).1; omega), hs.1.2.2.kept hg (fun r e hD => by have := (hr r e).1; have := HDL.out r hD; omega)⟩, hs.2.grown hg hs.2.size (fun r e => by have := (hr r e).1; omega)⟩)
          (fun _ _ _ _ _ hs _ _ => hs)
          ⟨⟨by simpa using HMP2.out, HBK2.out, HMK2.out⟩, HB2.out⟩
          (fun x => { tmps := #[.slice (some q) m d, undef, .map none, .pointer (some ⟨w.heap.size + 1, 0, none⟩), undef, .pointer (some ⟨W.heap.size, 0, none⟩), .string x.1, .map (some w.heap.size), .slice (some q) m d, .int .i64 (m : Int), .int .i64 (k : Int), .bool true, .pointer (some (q.add (k * 3))), .agg #[.bool false, .string t.2.1, .slice C n5 c5], .pointer (some ⟨W.heap.size, 0, none⟩), .bool false, .pointer (some ⟨W.heap.size, 1, none⟩), .agg #[.string t.2.1, .slice C n5 c5], .func (.func 160) #[] #[.pointer (some ⟨W.heap.size + 1, 0, none⟩)], .string x.1, undef, undef, u22, undef], defers := [] }) ?assign ?body ?done ?stop
        case assign =>
          intro l x V K hK; gi_wp2; simpa using hK
        case body =>
          rintro l pre x V ⟨⟨hmp, hbk, hmk⟩, hB⟩ hlp; have cB : V.cell? ⟨w.heap.size + 1, 0, none⟩ = some (.map (some w.heap.size)) := hbk.cell 0; have hBs := hB.size; gi_wp2_with (gi_at_mapUpdate; go_loud (refine wpListIn_mapUpdate_own _ rfl _ _ _ 109 rfl 9 4 Tryz.lawS Tryz.underlying109 _ w.heap.size (N + pre.length) _ rfl hmp qac _ _ _ rfl rfl (keyOf_string_mk Tryz.underlying9 x.2) _ [] (plainElem_bool Tryz.underlying4 true) ?_; intro V1 hmp1 hgr1)); have hb1 := hB.grown hgr1 hB.size (fun k e => by cases e; exact nl _); refine ⟨KeepsFrom.of_grownBy hgr1 (fun j e => by cases e; omega), (Below.refl w.heap.size V).grown hgr1 hBs (fun k e => by cases e; exact nl _), ⟨⟨?_, hbk.kept hgr1 qaw, hmk.kept hgr1 (fun r e hD => by cases e; have := HDS.out _ hD; omega)⟩, hb1⟩⟩
          rw [List.map_append, ← List.append_assoc, List.length_append]; show V1.ownsMap _ _ _ _ _ (bset ((mvars (qs.take k) ++ pre.map (·.1)) ++ [x.1])); rw [bset_snoc]; exact hmp1
        case done =>
          rintro D ys V hD hys ⟨⟨hmp, hbk, hmk⟩, hB⟩ hK; have hyl : ys.length ≤ 3 := by have h1 := congrArg List.length hys; rw [List.length_map] at h1; have h2 := varsOf_len t.2.2 t.2.2.length; rw [List.take_of_length_le (nl _)] at h2; omega
          have hBs := hB.size; have hDV := (Array.getElem?_eq_some_iff.1 hK).1; rw [hys] at hmp; gi_wp2; exact ⟨⟨k + 1, D :: Ds, N + ys.length, _, _, _, _, _, _, _, _, _, _, rfl, by omega, by omega, hbk, by rw [mvars_yes HG.out ht]; exact hmp, ⟨List.nodup_cons.2 ⟨fun hD2 => by have := HDL.out D hD2; omega, hmk.1⟩, fun D2 hD2 => by rcases List.mem_cons.1 hD2 with rfl | hD2; exact hK; exact hmk.2 D2 hD2⟩, fun D2 hD2 => by rcases List.mem_cons.1 hD2 with rfl | hD2; omega; exact HDS.out D2 hD2, hB, by omega⟩, by simp [intOf]; omega⟩
        case stop =>
          rintro D c pre V hD hpre hF; exact hF.elim
      · rw [ht] at c1
        have hal := below1 W (.cells #[.bool true, .string t.2.1, .slice C n5 c5] 52); gi_wp2; exact ⟨⟨k + 1, Ds, N, _, _, _, _, _, _, _, _, _, _, rfl, by omega, by omega, HBK.out.alloc _, by rw [mvars_no HG.out ht]; exact HMP.out.alloc _, HMK.out.kept (grownBelow hal none) qad, HDS.out, HB.out.trans (hal.mono HB.out.size), by simp; omega⟩, by simp [intOf]; omega⟩
    · have hlt2 : ¬ (k : Int) < (m : Int) := qaa
      have E := hid (show mvars (qs.take k) = mvars qs by rw [List.take_of_length_le qdj]); have cB : W.cell? ⟨w.heap.size + 1, 0, none⟩ = some (.map (some w.heap.size)) := HBK.out.cell 0; gi_wp2; refine leaves_marks Ds _ HMK.out (fun W' h1 h2 h3 h4 h5 => ?_); have hBW : Below (w.heap.size + 2) W W' := ⟨h1, h2, h3, by omega, fun i hi => h5 i (fun hD => by have := HDS.out _ hD; omega)⟩; have hm5 : W'.heap[w.heap.size]? = W.heap[w.heap.size]? := hBW.block _ qaa; refine ⟨.map (some w.heap.size), ?_, w.heap.size, N, rfl, nl _, ?_, HB.out.trans (hBW.mono qaa)⟩
      · simp [results, Tryz.f68, go_sem]
      · rw [← E.out]
        obtain ⟨es, clock, hb, F, hs, hD⟩ := HMP.out; exact ⟨es, clock, hm5.trans hb, F, hs, hD⟩
end Go.Proofs.YtcigljngiemdeaaGreat

namespace Go.Proofs.YtcigljngiemdeaaGreat
open Go.RowKit Go.Shelf Go.Maps Go.WideMaps
attribute [local go_sem] Oper.semAt_some
theorem plainElem_bool_inv {H : Type} {P : Program} {e : TypeId} (he : P.underlying e = some .bool) {v : Value} {z : DataW H × List MemPlace} (h : plainElem P e v = some z) : ∃ x, v = .bool x ∧ z = (.lit (.bool x), []) := by
  unfold plainElem at h; rw [he] at h; cases v <;> simp at h; exact ⟨_, rfl, h.symm⟩
def memT (vs : List ByteArray) (s : ByteArray) : Bool := vs.any fun v => decide (v = s)
theorem memT_iff {vs : List ByteArray} {s : ByteArray} : memT vs s = true ↔ s ∈ vs := by
  unfold memT; rw [List.any_eq_true]; exact ⟨fun ⟨v, hv, e⟩ => by have := of_decide_eq_true e; rwa [← this], fun h => ⟨s, h, decide_eq_true rfl⟩⟩
theorem wpListIn_lookup_bool {H : Type} {F : Fence} {nF : Nat} {P : Program} (w : World) {ops : Array Oper} {rest : List Oper} {o : Oper} {a : Act} {Q : Exit → Act → World → Prop}
    (hg : o.guard = none) (m x : Operand) (t : TypeId) (hop : o.op = Op.lookup t m x false)
    (k e : TypeId) (K : Keyed P k) (ht : P.underlying t = some (.map k e)) (he : P.underlying e = some .bool) (hz : (zeroValue e).run P w = .ok (.bool false) w) (b n : Nat) (D : DataW H)
    (hm : a.eval m = .map (some b)) (hown : w.ownsMap P k (plainElem P e) b n D) (key : Value) (kl : Lit) (hx : a.eval x = key) (hkey : keyOf P k key = some kl) (c : Bool) (hc : D.atKey kl (.lit (.bool false)) = .lit (.bool c))
    (hK : wpListIn F nF P ops Q rest (a.put o.dst (.bool c)) w) :
    wpListIn F nF P ops Q (o :: rest) a w := by
  refine wpListIn_plain hg fun K' hK' => ?_; obtain ⟨v, ps, hrun, hv⟩ := hown.lookup K ht hz (plainElem_bool he false) hkey; obtain ⟨x', rfl, hx'⟩ := plainElem_bool_inv he hv
  have e1 : x' = c := by
    have := congrArg Prod.fst hx'; simp only [hc] at this; injection this with this; injection this with this; exact this.symm
  subst e1; unfold Oper.wpIn; refine ⟨by simp [Oper.about, hop], ?_⟩; rw [Oper.semAt_plain F _ _ (by rw [hop]; intro c hc'; cases hc')]; simp [execOp, hop, hm, hx, hrun, Result.andThen]; exact hK' _ _ hK
theorem bset_at (s : ByteArray) (vs : List ByteArray) : (bset vs).atKey (.string s.data.toList) (.lit (.bool false)) = .lit (.bool (memT vs s)) := by
  have hk : ∀ l : List ByteArray, ∀ y ∈ l.map (fun s : ByteArray => Lit.string s.data.toList), WideAt.IsKeyLit y := by
    intro l y hy; obtain ⟨u, _, rfl⟩ := List.mem_map.1 hy; trivial
  have hm : ∀ l : List ByteArray, ∀ v, memT (l ++ [v]) s = (memT l s || decide (v = s)) := by
    intro l v; unfold memT; rw [List.any_append]; simp
  suffices h : ∀ vs : List ByteArray, (bset vs.reverse).atKey (.string s.data.toList) (.lit (.bool false)) = .lit (.bool (memT vs.reverse s)) by
    have := h vs.reverse
    rwa [List.reverse_reverse] at this
  intro vs
  induction vs with
  | nil => rfl
  | cons v vs ih =>
    rw [List.reverse_cons, bset_snoc]; by_cases hv : s = v
    · subst hv
      rw [show (bset vs.reverse).put (.string s.data.toList) (.lit (.bool true)) = (setOf (.lit (.bool true)) (vs.reverse.map fun s => .string s.data.toList)).put (.string s.data.toList) (.lit (.bool true)) from rfl, atKey_put_same (tidy_setOf _ _ (hk _)).isMap (show WideAt.IsKeyLit (.string s.data.toList) from trivial), hm]; simp
    · have hne : (Lit.string s.data.toList) ≠ .string v.data.toList := fun e => hv (by
        injection e with e; cases s; cases v; simpa using e)
      rw [atKey_put_other hne, ih, hm]; simp [Ne.symm hv]
def looseB (rs : List Rl) (vs : List ByteArray) : Bool := (atsOf rs).any fun a => (varsOf a.2).any fun v => !memT vs v
theorem loose_no {w : World} {n₀ : Nat} {rs : List Rl} {vs : List ByteArray} {ys : List (Lain w n₀)} (h : ys.map lainAt = atsOf rs) (hp : ∀ x ∈ ys, ∀ v ∈ varsOf (lainAt x).2, v ∈ vs) : looseB rs vs = false := by
  unfold looseB; rw [← h, List.any_eq_false]; intro a ha; obtain ⟨x, hx, rfl⟩ := List.mem_map.1 ha; simp only [List.any_eq_true, not_exists, not_and]; intro v hv; rw [memT_iff.2 (hp x hx v hv)]; simp
theorem loose_yes {w : World} {n₀ : Nat} {rs : List Rl} {vs : List ByteArray} {ys : List (Lain w n₀)} (h : ys.map lainAt <+: atsOf rs) (hp : ∃ x ∈ ys, ∃ v ∈ varsOf (lainAt x).2, v ∉ vs) : looseB rs vs = true := by
  obtain ⟨x, hx, v, hv, hn⟩ := hp; unfold looseB; rw [List.any_eq_true]; exact ⟨lainAt x, h.subset (List.mem_map_of_mem hx), List.any_eq_true.2 ⟨v, hv, by cases h : memT vs v; rfl; exact absurd (memT_iff.1 h) hn⟩⟩
theorem ownsMap_below {H : Type} {P : Program} {k : TypeId} {R : Value → Option (DataW H × List MemPlace)} {w w' : World} {B b n : Nat} {D : DataW H} (h : w.ownsMap P k R b n D) (hb : Below B w w') (hB : b < B) : w'.ownsMap P k R b n D := by
  obtain ⟨es, clock, h1, F, hs, hD⟩ := h; exact ⟨es, clock, (hb.block b hB).trans h1, F, hs, hD⟩
theorem atoms_stops (n : Nat) (hn : 1 ≤ n) (Bs n₀ : Nat) (A : Option Addr) (m c : Nat) (rs : List Rl) (w : World) (hBs : Bs < w.heap.size) (hn0 : n₀ ≤ w.heap.size) (hB : w.cell? ⟨Bs, 0, none⟩ = some (.slice A m c)) (hT : IsRules w 0 n₀ A m c rs) :
    SeqStopsK Fence.wide n Tryz.prog 170 #[.pointer (some ⟨Bs, 0, none⟩)] (fun x : Lain w n₀ => #[Value.agg #[.string x.1.1.1, .slice x.1.1.2 x.1.2.1.1 x.1.2.1.2]]) (KeepsCells n₀) (fun ys => ys.map lainAt = atsOf rs) (fun pre => pre.map lainAt <+: atsOf rs) (atsOf rs).length w := fun l J Jx W hW hJ _ hY h0 =>
  atomsS_in n hn l Bs n₀ A m c rs w J Jx W hJ hY ((hW.cell (p := ⟨Bs, 0, none⟩) hBs).trans hB) hn0 (hW.mono hn0) hT h0
theorem atomsOf_any (A : Option Addr) (m c : Nat) (w : World) :
    Calls Tryz.prog 130 #[.slice A m c] w fun e w' => e = .returned (.func (.func 170) #[] #[.pointer (some ⟨w.heap.size, 0, none⟩)]) ∧ w' = w.alloc (.cells #[.slice A m c] 100) := by
  go_enter Tryz.func130, Tryz.ntmps130; go_wp2; go_ret; exact ⟨rfl, rfl⟩
theorem isLoose_any (nm : ByteArray) (A : Option Addr) (n c : Nat) (hd : List Tm) (B : Option Addr) (m d : Nat) (qs : List Pt) (w : World) (hs : nm.size ≤ maxLen) (h : IsTerms w 0 w.heap.size A n c hd) (h' : IsParts w 0 w.heap.size B m d qs) (h3 : ∀ q ∈ qs, q.2.2.length ≤ 3) (hmax : m ≤ 1000) :
    Calls Tryz.prog 90 #[.agg #[.string nm, .slice A n c, .slice B m d]] w (BoolPost (looseB [((nm, hd), qs)] (mvars qs)) w) := by
  have h2 := below2 w (.cells #[.string nm, .slice A n c, .slice B m d] 114) (.cells #[.bool false] 4); have X0 := (Blk.new w 114 #[.string nm, .slice A n c, .slice B m d]).alloc (.cells #[.bool false] 4); have Y0 := Blk.made (w.alloc (.cells #[.string nm, .slice A n c, .slice B m d] 114)) (b := w.heap.size + 1) 4 #[.bool false] qad; obtain ⟨W1, hW1⟩ : ∃ W1, (w.alloc (.cells #[.string nm, .slice A n c, .slice B m d] 114)).alloc (.cells #[.bool false] 4) = W1 := ⟨_, rfl⟩
  have hz1 : W1.heap.size = w.heap.size + 2 := by rw [← hW1]; simp
  have h2' := h2; have X0' := X0; have Y0' := Y0; rw [hW1] at h2' X0' Y0'; have HB1 := hid h2'; have X1 := hid X0'; have Y1 := hid Y0'; have HT1 := hid (h.up h2'); have HP1 := hid (h'.up PartE.stays h2'); clear h h' h2 X0 Y0 h2' X0' Y0'; have x2 : W1.cell? ⟨w.heap.size, 2, none⟩ = some (.slice B m d) := X1.out.cell 2; refine (callsIn_wide (n := 6)).1 ?_; refine callsIn_of_wp_marks Tryz.func90 rfl trivial ?_ rfl; simp only [Tryz.ntmps90, List.size_toArray, List.length_cons, List.length_nil, Nat.reduceAdd, Nat.reduceSub, Array.replicate_succ, Array.replicate_zero, List.push_toArray, List.append_toArray, List.nil_append, List.cons_append]
  gi_wp2_with fail; refine ⟨trivial, (callsIn_wide.2 (boundVars_any B m d qs W1 HP1.out h3 hmax)).mono ?_⟩; rintro e w2 ⟨b, N, rfl, hb, hmap, hb2⟩; have hz2 := hb2.size; have X2 := X1.out.below hb2; have Y2 := Y1.out.below hb2; have hB2 := belowThen HB1.out hb2; have r0 : w2.cell? ⟨w.heap.size, 0, none⟩ = some (.string nm) := X2.cell 0; have r1 : w2.cell? ⟨w.heap.size, 1, none⟩ = some (.slice A n c) := X2.cell 1; have r2 : w2.cell? ⟨w.heap.size, 2, none⟩ = some (.slice B m d) := X2.cell 2; have hX := X2.lt; gi_wp2_with (refine ⟨trivial, ?_⟩; gi_at_call 130; refine (callsIn_wide.2 (atomsOf_any _ _ _ _)).mono ?_; rintro e w' ⟨rfl, rfl⟩)
  have hb3 := below3 w2 (.cells #[.map (some b)] 109) (.cells #[.string nm, .slice A n c, .slice B m d] 114) (.cells #[.slice (some ⟨w2.heap.size + 1, 0, none⟩) 1 1] 100); have Y3 := ((Y2.alloc (.cells #[.map (some b)] 109)).alloc (.cells #[.string nm, .slice A n c, .slice B m d] 114)).alloc (.cells #[.slice (some ⟨w2.heap.size + 1, 0, none⟩) 1 1] 100); have M3 := ((Blk.new w2 109 #[.map (some b)]).alloc (.cells #[.string nm, .slice A n c, .slice B m d] 114)).alloc (.cells #[.slice (some ⟨w2.heap.size + 1, 0, none⟩) 1 1] 100)
  have R3 := (Blk.made (w2.alloc (.cells #[.map (some b)] 109)) (b := w2.heap.size + 1) 114 #[.string nm, .slice A n c, .slice B m d] qad).alloc (.cells #[.slice (some ⟨w2.heap.size + 1, 0, none⟩) 1 1] 100); have L3 := Blk.made ((w2.alloc (.cells #[.map (some b)] 109)).alloc (.cells #[.string nm, .slice A n c, .slice B m d] 114)) (b := w2.heap.size + 1 + 1) 100 #[.slice (some ⟨w2.heap.size + 1, 0, none⟩) 1 1] qad; have hz3 : (((w2.alloc (.cells #[.map (some b)] 109)).alloc (.cells #[.string nm, .slice A n c, .slice B m d] 114)).alloc (.cells #[.slice (some ⟨w2.heap.size + 1, 0, none⟩) 1 1] 100)).heap.size = w2.heap.size + 3 := qad
  obtain ⟨W0, hW0⟩ : ∃ W0, ((w2.alloc (.cells #[.map (some b)] 109)).alloc (.cells #[.string nm, .slice A n c, .slice B m d] 114)).alloc (.cells #[.slice (some ⟨w2.heap.size + 1, 0, none⟩) 1 1] 100) = W0 := ⟨_, rfl⟩; rw [hW0] at hb3 Y3 M3 R3 L3 hz3 ⊢; clear hW0 hW1 x2 r0 r1 r2; have hB0 := belowThen hB2 hb3; have hB10 := belowThen hb2 hb3; have MP := ownsMap_below hmap hb3 hmap.lt; have hlb := hmap.lt
  have TR : IsRules W0 0 W0.heap.size (some ⟨w2.heap.size + 1, 0, none⟩) 1 1 [((nm, hd), qs)] := ⟨rfl, nl _, by unfold maxLen; omega, fun _ => ⟨⟨w2.heap.size + 1, 0, none⟩, rfl, Nat.zero_le _, by show w2.heap.size + 1 < W0.heap.size; omega, fun i x hx => by
    cases i with
    | succ i => simp at hx
    | zero =>
      simp only [List.getElem?_cons_zero, Option.some.injEq] at hx; subst hx; exact ⟨R3.cell 0, hs, ⟨A, n, c, R3.cell 1, HT1.out.up hB10⟩, ⟨B, m, d, R3.cell 2, HP1.out.up PartE.stays hB10⟩⟩⟩⟩
  have HY3 := hid Y3; have HM3 := hid M3; have HMP := hid MP; have HB0 := hid hB0; clear Y3 M3 MP R3 X2 Y2 hmap hb3 hb2 hB10
  refine wpIn_rangeFunc_ownH rfl qaa (gf := 170) (lb := #[.pointer (some ⟨w2.heap.size + 1 + 1, 0, none⟩)]) rfl trivial (enters_of Tryz.func170 qae rfl)
    (atoms_stops (6 - 1) qaa (w2.heap.size + 1 + 1) W0.heap.size _ 1 1 _ W0 qaa (nl _) (L3.cell 0) TR) keepsC_t (keepsC_b (nl _)) (Below.refl _ _) (fun _ => rfl)
    (fun pre W => (∀ x ∈ pre, ∀ v ∈ varsOf (lainAt x).2, v ∈ mvars qs) ∧ Below W0.heap.size W0 W)
    (fun c pre W => ((c = .ret ∧ ∃ x ∈ pre, ∃ v ∈ varsOf (lainAt x).2, v ∉ mvars qs) ∧ Blk W (w.heap.size + 1) 4 #[.bool true]) ∧ Below w.heap.size w W)
    (OwnFrom.and (ownFrom_pure _ _) (ownFrom_below (nl _) (nl _)))
    (fun c => OwnFrom.and (OwnFrom.and (ownFrom_pure _ _) (Own.from (Blk.own _ _ _) _)) (ownFrom_below (nl _) qaa))
    ⟨by simp, Below.refl _ _⟩
    (fun x a' W => ∃ Bx, Blk W Bx 49 #[.string x.1.1.1, .slice x.1.1.2 x.1.2.1.1 x.1.2.1.2] ∧ a' = { tmps := #[.agg #[.string nm, .slice A n c, .slice B m d], .pointer (some ⟨w.heap.size, 0, none⟩), .pointer (some ⟨w.heap.size + 1, 0, none⟩), .pointer (some ⟨w2.heap.size, 0, none⟩), .pointer (some ⟨Bx, 0, none⟩), undef, .pointer (some ⟨w.heap.size, 2, none⟩), .slice B m d, .map (some b), .agg #[.string nm, .slice A n c, .slice B m d], .slice (some ⟨w2.heap.size + 1, 0, none⟩) 1 1, .func (.func 170) #[] #[.pointer (some ⟨w2.heap.size + 1 + 1, 0, none⟩)], .agg #[.string x.1.1.1, .slice x.1.1.2 x.1.2.1.1 x.1.2.1.2], undef, undef, undef, undef, undef, undef, undef], defers := [] })
    (fun x a' _ X Y row hs hg hr => by obtain ⟨Bx, e2, e3⟩ := hs; exact ⟨Bx, Blk.own Bx _ _ () X Y row e2 hg (fun r e => (hr r e).2), e3⟩)
    ?assign ?body ?done ?stop
  case assign =>
    rintro l pre x W K ⟨hp, hB⟩ hK; have hsz := hB.size; gi_wp2; exact hK _ _ ((KeepsOthers.alloc _ _).from _) (KeepsCells.of (below1 W _) hsz) ⟨hp, hB.alloc hsz _⟩ ⟨W.heap.size, Blk.new W _ _, rfl⟩
  case body =>
    rintro l pre ⟨⟨⟨nm5, C⟩, ⟨n5, c5⟩, ts5⟩, hx1, hx2⟩ a' W hl ⟨r, hr⟩ ⟨hp, hB⟩ ⟨Bx, bX, rfl⟩ hlt; have hsW := hB.size; have c0 : W.cell? ⟨Bx, 0, none⟩ = some (.string nm5) := bX.cell 0; have c1 : W.cell? ⟨Bx, 1, none⟩ = some (.slice C n5 c5) := bX.cell 1; gi_wp2_with (refine ⟨trivial, ?_⟩; gi_at_call 117; refine (CallsIn.inRound l (callsIn_wide.2 (variablesOf_any nm5 C n5 c5 _))).mono ?_; rintro e w' ⟨rfl, rfl⟩); have bN := Blk.new W 49 #[.string nm5, .slice C n5 c5]; have hr' : (W.alloc (.cells #[.string nm5, .slice C n5 c5] 49)).heap[l]? = some (.loop r) := (Below.heap_alloc W _ l (Array.getElem?_eq_some_iff.1 hr).1).trans hr
    have hT5 : IsTerms (W.alloc (.cells #[.string nm5, .slice C n5 c5] 49)) 0 W0.heap.size C n5 c5 ts5 := IsTerms.below hx2 (hB.alloc hsW _) (nl _)
    refine wpIn_rangeFunc_ownN (l₀ := l) (r₀ := r) rfl hr' qaa (gf := 160) (lb := #[.pointer (some ⟨W.heap.size, 0, none⟩)]) rfl trivial (enters_of Tryz.func160 qae rfl)
      ((varsS_stops (6 - 1 - 1 - 1) qaa W.heap.size W0.heap.size C n5 c5 ts5 _ qad qaf (bN.cell 1) hT5).inRound l) belowK_t (belowK_b qaf) (Below.refl _ _) (fun _ => rfl)
      (fun pre' W' => (∀ v ∈ pre', v.1 ∈ mvars qs) ∧ (KeepsCells W0.heap.size W W' ∧ KeepsFrom W0.heap.size W W'))
      (fun c pre' W' => ((c = .ret ∧ ∃ v ∈ pre', v.1 ∉ mvars qs) ∧ Blk W' (w.heap.size + 1) 4 #[.bool true]) ∧ (Below w.heap.size W W' ∧ KeepsFrom W0.heap.size W W'))
      (OwnFrom.and (ownFrom_pure _ _) (OwnFrom.and (ownFrom_cells hsW qaf) (ownFrom_keepsFrom qad)))
      (fun c => OwnFrom.and (OwnFrom.and (ownFrom_pure _ _) (Own.from (Blk.own _ _ _) _)) (OwnFrom.and (ownFrom_below qaa qaf) (ownFrom_keepsFrom qad)))
      ⟨by simp, KeepsCells.of (below1 W _) hsW, (KeepsOthers.alloc _ _).from _⟩
      (fun y a'' _ => a'' = { tmps := #[.agg #[.string nm, .slice A n c, .slice B m d], .pointer (some ⟨w.heap.size, 0, none⟩), .pointer (some ⟨w.heap.size + 1, 0, none⟩), .pointer (some ⟨w2.heap.size, 0, none⟩), .pointer (some ⟨Bx, 0, none⟩), .string y.1, .pointer (some ⟨w.heap.size, 2, none⟩), .slice B m d, .map (some b), .agg #[.string nm, .slice A n c, .slice B m d], .slice (some ⟨w2.heap.size + 1, 0, none⟩) 1 1, .func (.func 170) #[] #[.pointer (some ⟨w2.heap.size + 1 + 1, 0, none⟩)], .agg #[.string nm5, .slice C n5 c5], .agg #[.string nm5, .slice C n5 c5], .func (.func 160) #[] #[.pointer (some ⟨W.heap.size, 0, none⟩)], .string y.1, undef, undef, undef, undef], defers := [] })
      (fun _ _ _ _ _ _ hs _ _ => hs)
      ?assign2 ?body2 ?done2 ?stop2
    case assign2 =>
      rintro l2 pre' y W' K hi hK; gi_wp2; exact hK _ _ (KeepsFrom.refl _ _) (Below.refl _ _) hi rfl
    case body2 =>
      rintro l2 pre' y a'' W' _ _ ⟨hq, hKC, hKF⟩ rfl _; have hB' := hB.trans hKC.below; have hs' := hB'.size; have cM : W'.cell? ⟨w2.heap.size, 0, none⟩ = some (.map (some b)) := (HM3.out.below hB').cell 0; have Y4 := HY3.out.below hB'; have cR : W'.cell? ⟨w.heap.size + 1, 0, none⟩ = some (.bool false) := Y4.cell 0; have fR := Y4.frozen 0; have mp := ownsMap_below HMP.out hB' qaa; have hyl := y.2; cases hmem : memT (mvars qs) y.1
      · have hat := bset_at y.1 (mvars qs)
        rw [hmem] at hat; gi_wp2_with (gi_at_lookup; go_loud (refine wpListIn_lookup_bool _ rfl _ _ 109 rfl 9 4 Tryz.lawS Tryz.underlying109 Tryz.underlying4 (Tryz.zeroValue4 _) b N _ rfl mp _ _ rfl (keyOf_string_mk Tryz.underlying9 hyl) false hat ?_)); exact ⟨(KeepsOthers.setCell _ _ _).from _, ⟨⟨rfl, y, List.mem_append.2 (.inr qad), fun hin => by rw [memT_iff.2 hin] at hmem; cases hmem⟩, Y4.set 0 (.bool true)⟩, (hKC.below.mono qaa).setCell (p := ⟨w.heap.size + 1, 0, none⟩) qad _, hKF.trans ((KeepsOthers.setCell _ _ _).from _)⟩
      · have hat := bset_at y.1 (mvars qs)
        rw [hmem] at hat; gi_wp2_with (gi_at_lookup; go_loud (refine wpListIn_lookup_bool _ rfl _ _ 109 rfl 9 4 Tryz.lawS Tryz.underlying109 Tryz.underlying4 (Tryz.zeroValue4 _) b N _ rfl mp _ _ rfl (keyOf_string_mk Tryz.underlying9 hyl) true hat ?_)); exact ⟨KeepsFrom.refl _ _, Below.refl _ _, fun z hz => (List.mem_append.1 hz).elim (hq z) (fun e => by simp only [List.mem_singleton] at e; subst e; exact memT_iff.1 hmem), hKC, hKF⟩
    case done2 =>
      rintro ys' W' hys ⟨hq, hKC, hKF⟩; gi_wp2
      exact ⟨hKF, hKC, fun x hx => (List.mem_append.1 hx).elim (hp x) (fun e v hv => by
        simp only [List.mem_singleton] at e; subst e; change v ∈ varsOf ts5 at hv; rw [← hys] at hv; obtain ⟨z, hz, rfl⟩ := List.mem_map.1 hv; exact hq z hz), hB.trans hKC.below⟩
    case stop2 =>
      rintro c pre' W' hpre ⟨⟨⟨rfl, v, hv, hn⟩, Y5⟩, hBW, hKF⟩; gi_wp2; exact ⟨hKF, ⟨⟨rfl, _, List.mem_append.2 (.inr (List.mem_singleton.2 rfl)), v.1, hpre.subset (List.mem_map_of_mem hv), hn⟩, Y5⟩, (HB0.out.trans (hB.mono qaa)).trans hBW⟩
  case done =>
    rintro D ys W hD hys ⟨hp, hB⟩ hK; have Y4 := HY3.out.below hB; have cR : W.cell? ⟨w.heap.size + 1, 0, none⟩ = some (.bool false) := Y4.cell 0; have fR := Y4.frozen 0; have hsz := hB.size; gi_wp2; have hK' := (KeepsOthers.setCell W ⟨w.heap.size + 1, 0, none⟩ (.bool false)).same D _ hK rfl; refine ⟨by simp, .inl ⟨_, _, rfl, run_takeDeferred hK', ?_⟩⟩; have hc5 := cell_kept (show (W.setCell ⟨w.heap.size + 1, 0, none⟩ (.bool false)).cell? ⟨w.heap.size + 1, 0, none⟩ = some (.bool false) from (Y4.set 0 (.bool false)).cell 0) (grownBy_putObj' _ D (.deferred none)) (fun r e => by cases e; exact ⟨_, hK', rfl⟩)
    refine ⟨.bool false, ?_, by rw [loose_no hys hp], ((HB0.out.trans (hB.mono qaa)).setCell (p := ⟨w.heap.size + 1, 0, none⟩) qad _).trans (belowK_b (w := w) (nl _) _ D _ _ qaa hK' rfl rfl)⟩; simp [results, Tryz.f90, go_sem, hc5]
  case stop =>
    rintro D c pre W hD hpre ⟨⟨⟨rfl, hp⟩, Y4⟩, hB⟩ hK; gi_wp2; refine ⟨by simp, .inl ⟨_, _, rfl, run_takeDeferred hK, ?_⟩⟩; have hc5 := cell_kept (show W.cell? ⟨w.heap.size + 1, 0, none⟩ = some (.bool true) from Y4.cell 0) (grownBy_putObj' _ D (.deferred none)) (fun r e => by cases e; exact ⟨_, hK, rfl⟩); refine ⟨.bool true, ?_, by rw [loose_yes hpre hp], hB.trans (belowK_b (w := w) (nl _) W D _ _ qaa hK rfl rfl)⟩; simp [results, Tryz.f90, go_sem, hc5]
end Go.Proofs.YtcigljngiemdeaaGreat

namespace Go.Proofs.YtcigljngiemdeaaGreat
open Go.RowKit
theorem ltT_cmp (s t : ByteArray) : ltT s t = decide (Lib.compareBytes t.toList s.toList = -1) := (less_cmp _ _).1
theorem bytes_text {s t : ByteArray} (h : s.toList = t.toList) : s = t := by
  rw [Lib.toList_data, Lib.toList_data] at h; cases s; cases t; simp only [ByteArray.mk.injEq]; exact Array.toList_inj.1 h
theorem ltT_trans {a b c : ByteArray} (h : ltT b a = true) (k : ltT c b = true) : ltT c a = true := by
  rw [ltT_cmp, decide_eq_true_eq] at *; have h1 := bytes_on a.toList b.toList c.toList qaa qaa; rcases cmp_range a.toList c.toList with e | e | e
  · exact e
  · have := bytes_same e
    rw [this] at h; have := bytes_anti b.toList c.toList; omega
  · omega
theorem ltT_irr (a : ByteArray) : ltT a a = false := by
  rw [ltT_cmp, bytes_self]; rfl
theorem ltT_total {s t : ByteArray} (h : ltT s t = false) (hne : t ≠ s) : ltT t s = true := by
  rw [ltT_cmp] at *; rw [decide_eq_false_iff_not] at h; rw [decide_eq_true_eq]; have h1 := bytes_anti t.toList s.toList; rcases cmp_range t.toList s.toList with e | e | e
  · exact absurd e h
  · exact absurd (bytes_text (bytes_same e)) hne
  · omega
def InRow (ls : List ByteArray) : Prop := ls.Pairwise fun a b => ltT b a = true
theorem InRow.nodup {ls : List ByteArray} (h : InRow ls) : ls.Nodup := h.imp fun {a b} h e => by subst e; rw [ltT_irr] at h; cases h
theorem mem_putT {ls : List ByteArray} {s x : ByteArray} : x ∈ putT ls s ↔ x = s ∨ x ∈ ls := by
  unfold putT; by_cases h : (ls.dropWhile (ltT s)).head? = some s
  · rw [if_pos h]
    refine ⟨.inr, fun e => e.elim (fun e => ?_) id⟩; subst e; exact (List.dropWhile_sublist _).subset (List.mem_of_head? h)
  · rw [if_neg h]
    have e := List.takeWhile_append_dropWhile (p := ltT s) (l := ls)
    conv => rhs; rw [← e]
    simp only [List.mem_append, List.mem_cons]; exact ⟨fun h => by rcases h with h | h | h <;> simp [h], fun h => by rcases h with h | h | h <;> simp [h]⟩
theorem InRow.put {ls : List ByteArray} (h : InRow ls) (s : ByteArray) : InRow (putT ls s) := by
  unfold putT; by_cases hs : (ls.dropWhile (ltT s)).head? = some s
  · rw [if_pos hs]; exact h
  · rw [if_neg hs]
    have e := List.takeWhile_append_dropWhile (p := ltT s) (l := ls); have h1 : InRow (ls.takeWhile (ltT s) ++ ls.dropWhile (ltT s)) := by rw [e]; exact h
    obtain ⟨p1, p2, p3⟩ := List.pairwise_append.1 h1
    have hlo : ∀ x ∈ ls.takeWhile (ltT s), ltT s x = true := fun x hx => by
      have := List.all_takeWhile (p := ltT s) (l := ls); exact List.all_eq_true.1 this x hx
    have hhi : ∀ x ∈ ls.dropWhile (ltT s), ltT x s = true := by
      cases hd : ls.dropWhile (ltT s) with
      | nil => intro x hx; simp at hx
      | cons t rest =>
        rw [hd] at hs p2
        have ht : ltT s t = false := by
          have := List.head?_dropWhile_not (ltT s) ls; rw [hd] at this; simpa using this
        have hts := ltT_total ht (fun e => hs qed); intro x hx; rcases List.mem_cons.1 hx with rfl | hx
        · exact hts
        · exact ltT_trans hts ((List.pairwise_cons.1 p2).1 x hx)
    refine List.pairwise_append.2 ⟨p1, List.pairwise_cons.2 ⟨hhi, p2⟩, fun a ha b hb => ?_⟩; rcases List.mem_cons.1 hb with rfl | hb
    · exact hlo a ha
    · exact p3 a ha b hb
theorem mem_puts : ∀ {vs ls : List ByteArray} {x : ByteArray}, x ∈ vs.foldl putT ls ↔ x ∈ vs ∨ x ∈ ls
  | [], ls, x => by simp
  | v :: vs, ls, x => by
    rw [List.foldl_cons, mem_puts, mem_putT, List.mem_cons]; exact ⟨fun h => by rcases h with h | h | h <;> simp [h], fun h => by rcases h with (h | h) | h <;> simp [h]⟩
theorem InRow.puts : ∀ {vs ls : List ByteArray}, InRow ls → InRow (vs.foldl putT ls)
  | [], _, h => h
  | v :: vs, ls, h => by rw [List.foldl_cons]; exact InRow.puts (vs := vs) (h.put v)
theorem partsT_all : ∀ (qs : List Pt) (ls : List ByteArray), partsT ls qs = (qs.flatMap fun q => varsOf q.2.2).foldl putT ls
  | [], _ => rfl
  | q :: qs, ls => by
    rw [List.flatMap_cons, List.foldl_append, ← partsT_all qs]; rfl
theorem varsOf_as (vs : List ByteArray) : varsOf (asVars vs) = vs := by
  unfold varsOf asVars
  induction vs with
  | nil => rfl
  | cons v vs ih => simpa using ih
theorem nodup_sub {α : Type} : ∀ {l m : List α}, l.Nodup → (∀ x ∈ l, x ∈ m) → l.length ≤ m.length
  | [], _, _, _ => Nat.zero_le _
  | a :: l, m, hn, hs => by
    obtain ⟨s, t, rfl⟩ := List.append_of_mem (hs a (List.mem_cons_self ..)); have hc := List.nodup_cons.1 hn
    have := nodup_sub (m := s ++ t) hc.2 (fun x hx => by
      have h1 := hs x (List.mem_cons_of_mem _ hx); simp only [List.mem_append, List.mem_cons] at h1 ⊢; rcases h1 with h1 | h1 | h1
      · exact .inl h1
      · subst h1; exact absurd hx hc.1
      · exact .inr h1)
    simp only [List.length_append, List.length_cons] at this ⊢; omega
theorem tight_loose (nm : ByteArray) (qs : List Pt) : tightB (asVars (partsT [] qs)) qs = !looseB [((nm, []), qs)] (mvars qs) := by
  have hA : ∀ x, x ∈ partsT (varsT [] (asVars (partsT [] qs))) qs ↔ x ∈ qs.flatMap fun q => varsOf q.2.2 := by
    intro x; unfold varsT; rw [varsOf_as, partsT_all, partsT_all, mem_puts, mem_puts, mem_puts]; simp
  have hB : ∀ x, x ∈ partsT [] (musts qs) ↔ x ∈ mvars qs := by
    intro x; rw [partsT_all, mem_puts]; unfold mvars; simp
  have nA : (partsT (varsT [] (asVars (partsT [] qs))) qs).Nodup := by rw [partsT_all]; exact (InRow.puts (InRow.puts List.Pairwise.nil)).nodup
  have nB : (partsT [] (musts qs)).Nodup := by rw [partsT_all]; exact (InRow.puts List.Pairwise.nil).nodup
  have hsub : ∀ x ∈ partsT [] (musts qs), x ∈ partsT (varsT [] (asVars (partsT [] qs))) qs := by
    intro x hx; rw [hB] at hx; rw [hA]; unfold mvars musts at hx; obtain ⟨q, hq, hx⟩ := List.mem_flatMap.1 hx; exact List.mem_flatMap.2 ⟨q, (List.mem_filter.1 hq).1, hx⟩
  have hat : atsOf [((nm, ([] : List Tm)), qs)] = (nm, []) :: qs.map (·.2) := by unfold atsOf; simp
  have hl : looseB [((nm, []), qs)] (mvars qs) = true ↔ ∃ x ∈ qs.flatMap (fun q => varsOf q.2.2), x ∉ mvars qs := by
    unfold looseB; rw [hat, List.any_cons]; simp only [varsOf, List.filter_nil, List.map_nil, List.any_nil, Bool.false_or]; rw [List.any_eq_true]; constructor
    · rintro ⟨a, ha, h⟩
      obtain ⟨q, hq, rfl⟩ := List.mem_map.1 ha; obtain ⟨v, hv, hn⟩ := List.any_eq_true.1 h; exact ⟨v, List.mem_flatMap.2 ⟨q, hq, hv⟩, fun hin => by rw [memT_iff.2 hin] at hn; cases hn⟩
    · rintro ⟨v, hv, hn⟩
      obtain ⟨q, hq, hv⟩ := List.mem_flatMap.1 hv; refine ⟨q.2, List.mem_map_of_mem hq, List.any_eq_true.2 ⟨v, hv, ?_⟩⟩; cases h : memT (mvars qs) v
      · rfl
      · exact absurd (memT_iff.1 h) hn
  unfold tightB; cases hL : looseB [((nm, []), qs)] (mvars qs)
  · have hno : ∀ x ∈ qs.flatMap (fun q => varsOf q.2.2), x ∈ mvars qs := by
      intro x hx; refine Classical.byContradiction fun hn => ?_; have := hl.2 ⟨x, hx, hn⟩; rw [hL] at this; cases this
    have h1 := nodup_sub nB hsub; have h2 := nodup_sub nA (fun x hx => (hB x).2 (hno x ((hA x).1 hx))); exact decide_eq_true qaa
  · obtain ⟨x, hx, hn⟩ := hl.1 hL
    have h1 := nodup_sub (l := x :: partsT [] (musts qs)) (List.nodup_cons.2 ⟨fun h => hn ((hB x).1 h), nB⟩) (fun y hy => (List.mem_cons.1 hy).elim (fun e => by rw [e]; exact (hA x).2 hx) (hsub y)); rw [List.length_cons] at h1; exact decide_eq_false qaa
end Go.Proofs.YtcigljngiemdeaaGreat
