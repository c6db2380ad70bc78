/-
  The variables of parts that must be, as the program keeps them: a map that holds just these.
-/
import Derived.Test.YtahkkelahocplaaDoorTight
import Derived.Test.YtahkkelahocplaaDoorVars
import Derived.Maps.OwnIn
import Derived.Maps.OwnSet
import Derived.Maps.Views
import Derived.RangeFuncWrites
namespace Go.Proofs.YtahkkelahocplaaDoor
open Go.RowKit Go.Shelf Go.Maps Go.WideMaps
attribute [local go_sem] Oper.semAt_some

/-- Blocks that hold nothing to be done later. -/
def Marks (Ds : List Nat) (W : World) : Prop := Ds.Nodup ∧ ∀ D ∈ Ds, W.heap[D]? = some (.deferred (some []))
def marks (Ds : List Nat) : List Deferred := Ds.map fun D => { target := .collected D, args := #[] }

theorem Marks.kept {Ds : List Nat} {W W' : World} {row : Option Nat} (h : Marks Ds W) (hg : W.grownBy W' row) (hr : ∀ r, row = some r → r ∉ Ds) : Marks Ds W' :=
  ⟨h.1, fun D hD => (hg.block D (Array.getElem?_eq_some_iff.1 (h.2 D hD)).1 (fun e => hr D e.symm hD)).trans (h.2 D hD)⟩

/-- What they held is taken: nothing. -/
theorem leaves_marks {F : Fence} {n : Nat} {P : Program} {fn : Func} {tmps : Array Value} {R : Ending → World → Prop} : ∀ (Ds : List Nat) (W : World), Marks Ds W →
    (∀ W' : World, W'.os = W.os → W'.tape = W.tape → W'.output = W.output → W'.heap.size = W.heap.size → (∀ i, i ∉ Ds → W'.heap[i]? = W.heap[i]?) → LeavesInM F n P fn tmps R [] .returning W') → LeavesInM F n P fn tmps R (marks Ds) .returning W
  | [], W, _, h => h W rfl rfl rfl rfl (fun _ _ => rfl)
  | D :: Ds, W, hM, h => by
    have hD := hM.2 D (List.mem_cons_self ..)
    have hnd := List.nodup_cons.1 hM.1
    have hg := grownBy_putObj' W D (.deferred none)
    refine ⟨by simp, .inl ⟨D, _, rfl, run_takeDeferred hD, leaves_marks Ds _ ?_ ?_⟩⟩
    · exact ⟨hnd.2, fun D' hD' => (hg.block D' (Array.getElem?_eq_some_iff.1 (hM.2 D' (List.mem_cons_of_mem _ hD'))).1 (fun e => by injection e with e; subst e; exact hnd.1 hD')).trans (hM.2 D' (List.mem_cons_of_mem _ hD'))⟩
    · intro W' h1 h2 h3 h4 h5
      refine h W' (h1.trans hg.os) (h2.trans hg.tape) (h3.trans hg.output) (h4.trans (by simp [World.putObj])) (fun i hi => ?_)
      have hiD : i ≠ D := fun e => hi (by rw [e]; exact List.mem_cons_self ..)
      have hiDs : i ∉ Ds := fun e => hi (List.mem_cons_of_mem _ e)
      rw [h5 i hiDs]
      simp [World.putObj, Ne.symm hiD]

/-- A set of texts, as the map's datum. -/
def bset (vs : List ByteArray) : DataW Unit := setOf (.lit (.bool true)) (vs.map fun s => .string s.data.toList)

theorem bset_snoc (vs : List ByteArray) (s : ByteArray) : bset (vs ++ [s]) = (bset vs).put (.string s.data.toList) (.lit (.bool true)) := by unfold bset; rw [List.map_append]; exact setOf_snoc _ _ _



theorem Tryd.lawS : Keyed Tryd.prog 9 := string_keyed Tryd.underlying9

/-- The variables of parts that must be, as often as they stand there. -/
def mvars (qs : List Pt) : List ByteArray := (musts qs).flatMap fun q => varsOf q.2.2

theorem mvars_no {qs : List Pt} {k : Nat} {q : Pt} (h : qs[k]? = some q) (hq : q.1 = true) : mvars (qs.take (k + 1)) = mvars (qs.take k) := by unfold mvars; rw [musts_no h hq]
theorem mvars_yes {qs : List Pt} {k : Nat} {q : Pt} (h : qs[k]? = some q) (hq : q.1 = false) : mvars (qs.take (k + 1)) = mvars (qs.take k) ++ varsOf q.2.2 := by unfold mvars; rw [musts_yes h hq, List.flatMap_append]; simp

/-- A map of just these texts was told. -/
def BoundPost (vs : List ByteArray) (w : World) (e : Ending) (w' : World) : Prop :=
  ∃ b N, e = .returned (.map (some b)) ∧ w.heap.size ≤ b ∧ w'.ownsMap Tryd.prog 9 (plainElem Tryd.prog 4) b N (bset vs) ∧ Below w.heap.size w w'

set_option maxRecDepth 100000 in
set_option maxHeartbeats 8000000 in
theorem boundVars_any (B : Option Addr) (m d : Nat) (qs : List Pt) (w : World) (h : IsParts w 0 w.heap.size B m d qs) (h3 : ∀ q ∈ qs, q.2.2.length ≤ 3) (hmax : m ≤ 1000) :
    Calls Tryd.prog 107 #[.slice B m d] w (BoundPost (mvars qs) w) := by
  have HL := Lib.hid h.1
  have H := Lib.hid h; clear h
  have H3 := Lib.hid h3; clear h3
  have hmm := @run_makeMap Tryd.prog
  refine (callsIn_wide (n := 5)).1 ?_
  refine callsIn_of_wp_marks Tryd.func107 rfl trivial ?_ rfl
  simp only [Tryd.ntmps107, List.size_toArray, List.length_cons, List.length_nil, Nat.reduceAdd, Nat.reduceSub, Array.replicate_succ, Array.replicate_zero, List.push_toArray, List.append_toArray, List.nil_append, List.cons_append]
  gi_wp2
  refine wpIn_loop (fun a W => ∃ (k : Nat) (Ds : List Nat) (N : Nat) (u5 u11 u12 u13 u14 u15 u16 u17 u18 u22 : Value), a = { tmps := #[.slice B m d, undef, .map none, .pointer (some ⟨w.heap.size + 1, 0, none⟩), undef, u5, undef, .map (some w.heap.size), .slice B m d, .int .i64 (m : Int), .int .i64 (k : Int), u11, u12, u13, u14, u15, u16, u17, u18, undef, undef, undef, u22, undef], defers := marks Ds } ∧ k ≤ m ∧ N ≤ 3 * k ∧ Blk W (w.heap.size + 1) 118 #[.map (some w.heap.size)] ∧ W.ownsMap Tryd.prog 9 (plainElem Tryd.prog 4) w.heap.size N (bset (mvars (qs.take k))) ∧ Marks Ds W ∧ (∀ D ∈ Ds, w.heap.size + 2 ≤ D) ∧ Below w.heap.size w W ∧ w.heap.size + 2 ≤ W.heap.size) (fun a _ => m - (intOf (a.tmps.getD 10 undef)).toNat) ?_ ?_
  · exact ⟨0, [], 0, _, _, _, _, _, _, _, _, _, _, rfl, Nat.zero_le _, Nat.le_refl _, Blk.made _ _ _ (by simp), (World.ownsMap_made _ _ _ _).alloc _, ⟨List.nodup_nil, fun D hD => absurd hD (by simp)⟩, fun D hD => absurd hD (by simp), below2 w _ _, by simp⟩
  · rintro a W ⟨k, Ds, N, u5, u11, u12, u13, u14, u15, u16, u17, u18, u22, rfl, hk, hN, hbk, hmap, hM, hDs, hb, hsz⟩
    have HBK := Lib.hid hbk; have HMP := Lib.hid hmap; have HMK := Lib.hid hM; have HDS := Lib.hid hDs; have HB := Lib.hid hb
    clear hbk hmap hM hDs hb
    by_cases hlt : k < m
    · have hlt2 : (k : Int) < (m : Int) := by omega
      obtain ⟨q, t, hA, -, hhi, hg, hE⟩ := (H.out.below PartE.stays HB.out (Nat.le_refl _)).at_ hlt
      obtain ⟨C, n5, c5, c1, c2, c3, c4, c5'⟩ := hE.out
      clear hE
      subst hA
      have HG := Lib.hid hg; clear hg
      have HT5 := Lib.hid c5'; clear c5'
      cases ht : t.1
      · rw [ht] at c1
        have hm3 := H3.out t (List.mem_of_getElem? HG.out)
        have hl5 := HT5.out.1
        gi_wp2_with fail
        refine ⟨trivial, (callsIn_wide.2 (variablesOf_any t.2.1 C n5 c5 _)).mono ?_⟩
        rintro e w' ⟨rfl, rfl⟩
        have hal := below2 W (.cells #[.bool false, .string t.2.1, .slice C n5 c5] 86) (.cells #[.string t.2.1, .slice C n5 c5] 24)
        have b2 : ((W.alloc (.cells #[.bool false, .string t.2.1, .slice C n5 c5] 86)).alloc (.cells #[.string t.2.1, .slice C n5 c5] 24)).cell? ⟨W.heap.size + 1, 1, none⟩ = some (.slice C n5 c5) := by simp [go_sem]
        have hz2 : ((W.alloc (.cells #[.bool false, .string t.2.1, .slice C n5 c5] 86)).alloc (.cells #[.string t.2.1, .slice C n5 c5] 24)).heap.size = W.heap.size + 2 := by simp
        have HBK2 := Lib.hid ((HBK.out.alloc (.cells #[.bool false, .string t.2.1, .slice C n5 c5] 86)).alloc (.cells #[.string t.2.1, .slice C n5 c5] 24))
        have HMP2 := Lib.hid ((HMP.out.alloc (.cells #[.bool false, .string t.2.1, .slice C n5 c5] 86)).alloc (.cells #[.string t.2.1, .slice C n5 c5] 24))
        gi_wp2
        obtain ⟨W2, hW2⟩ : ∃ W2, (W.alloc (.cells #[.bool false, .string t.2.1, .slice C n5 c5] 86)).alloc (.cells #[.string t.2.1, .slice C n5 c5] 24) = W2 := ⟨_, rfl⟩
        rw [hW2] at hal b2 hz2 HBK2 HMP2 ⊢
        clear hW2
        have HMK2 := Lib.hid (HMK.out.kept (grownBelow hal none) (by simp))
        have HB2 := Lib.hid (HB.out.trans (hal.mono HB.out.size))
        have T2 := HT5.out.below (hal.mono HB.out.size) (Nat.le_refl _)
        have hs2 : w.heap.size ≤ W2.heap.size := by omega
        have HDL : Hid (∀ D ∈ Ds, D < W2.heap.size) := Lib.hid (fun D hD => (Array.getElem?_eq_some_iff.1 (HMK2.out.2 D hD)).1)
        refine wpIn_rangeFunc_ownG rfl (by omega) (gf := 127) (lb := #[.pointer (some ⟨W.heap.size + 1, 0, none⟩)]) rfl trivial (enters_of Tryd.func127 (by kernel_rfl) rfl)
          (varsS_stops (5 - 1) (by omega) (W.heap.size + 1) w.heap.size C n5 c5 t.2.2 W2 (by omega) hs2 b2 T2) belowK_t (belowK_b hs2) (Below.refl _ _) (fun _ => rfl)
          (fun pre V => (V.ownsMap Tryd.prog 9 (plainElem Tryd.prog 4) w.heap.size (N + pre.length) (bset (mvars (qs.take k) ++ pre.map (·.1))) ∧ Blk V (w.heap.size + 1) 118 #[.map (some w.heap.size)] ∧ Marks Ds V) ∧ Below w.heap.size w V)
          (fun _ _ _ => False)
          (fun s X Y row hs hg hr => ⟨⟨hs.1.1.kept hg (fun e => by have := (hr _ e.symm).1; omega), hs.1.2.1.kept hg (fun e => by have := (hr _ e.symm).1; omega), hs.1.2.2.kept hg (fun r e hD => by have := (hr r e).1; have := HDL.out r hD; omega)⟩, hs.2.grown hg hs.2.size (fun r e => by have := (hr r e).1; omega)⟩)
          (fun _ _ _ _ _ hs _ _ => hs)
          ⟨⟨by simpa using HMP2.out, HBK2.out, HMK2.out⟩, HB2.out⟩
          (fun x => { tmps := #[.slice (some q) m d, undef, .map none, .pointer (some ⟨w.heap.size + 1, 0, none⟩), undef, .pointer (some ⟨W.heap.size, 0, none⟩), .string x.1, .map (some w.heap.size), .slice (some q) m d, .int .i64 (m : Int), .int .i64 (k : Int), .bool true, .pointer (some (q.add (k * 3))), .agg #[.bool false, .string t.2.1, .slice C n5 c5], .pointer (some ⟨W.heap.size, 0, none⟩), .bool false, .pointer (some ⟨W.heap.size, 1, none⟩), .agg #[.string t.2.1, .slice C n5 c5], .func (.func 127) #[] #[.pointer (some ⟨W.heap.size + 1, 0, none⟩)], .string x.1, undef, undef, u22, undef], defers := [] }) ?assign ?body ?done ?stop
        case assign =>
          intro l x V K hK
          gi_wp2
          simpa using hK
        case body =>
          rintro l pre x V ⟨⟨hmp, hbk, hmk⟩, hB⟩ hlp
          have cB : V.cell? ⟨w.heap.size + 1, 0, none⟩ = some (.map (some w.heap.size)) := hbk.cell 0
          have hBs := hB.size
          gi_wp2_with (gi_at_mapUpdate; go_loud (refine wpListIn_mapUpdate_own _ rfl _ _ _ 118 rfl 9 4 Tryd.lawS Tryd.underlying118 _ w.heap.size (N + pre.length) _ rfl hmp (by unfold maxLen; omega) _ _ _ rfl rfl (keyOf_string_mk Tryd.underlying9 x.2) _ [] (plainElem_bool Tryd.underlying4 true) ?_; intro V1 hmp1 hgr1))
          have hb1 := hB.grown hgr1 hB.size (fun k e => by cases e; exact Nat.le_refl _)
          refine ⟨KeepsFrom.of_grownBy hgr1 (fun j e => by cases e; omega), (Below.refl w.heap.size V).grown hgr1 hBs (fun k e => by cases e; exact Nat.le_refl _), ⟨⟨?_, hbk.kept hgr1 (fun e => by injection e with e; omega), hmk.kept hgr1 (fun r e hD => by cases e; have := HDS.out _ hD; omega)⟩, hb1⟩⟩
          rw [List.map_append, ← List.append_assoc, List.length_append]
          show V1.ownsMap _ _ _ _ _ (bset ((mvars (qs.take k) ++ pre.map (·.1)) ++ [x.1]))
          rw [bset_snoc]
          exact hmp1
        case done =>
          rintro D ys V hD hys ⟨⟨hmp, hbk, hmk⟩, hB⟩ hK
          have hyl : ys.length ≤ 3 := by have h1 := congrArg List.length hys; rw [List.length_map] at h1; have h2 := varsOf_len t.2.2 t.2.2.length; rw [List.take_of_length_le (Nat.le_refl _)] at h2; omega
          have hBs := hB.size
          have hDV := (Array.getElem?_eq_some_iff.1 hK).1
          rw [hys] at hmp
          gi_wp2
          exact ⟨⟨k + 1, D :: Ds, N + ys.length, _, _, _, _, _, _, _, _, _, _, rfl, by omega, by omega, hbk, by rw [mvars_yes HG.out ht]; exact hmp, ⟨List.nodup_cons.2 ⟨fun hD2 => by have := HDL.out D hD2; omega, hmk.1⟩, fun D2 hD2 => by rcases List.mem_cons.1 hD2 with rfl | hD2; exact hK; exact hmk.2 D2 hD2⟩, fun D2 hD2 => by rcases List.mem_cons.1 hD2 with rfl | hD2; omega; exact HDS.out D2 hD2, hB, by omega⟩, by simp [intOf]; omega⟩
        case stop =>
          rintro D c pre V hD hpre hF
          exact hF.elim
      · rw [ht] at c1
        have hal := below1 W (.cells #[.bool true, .string t.2.1, .slice C n5 c5] 86)
        gi_wp2
        exact ⟨⟨k + 1, Ds, N, _, _, _, _, _, _, _, _, _, _, rfl, by omega, by omega, HBK.out.alloc _, by rw [mvars_no HG.out ht]; exact HMP.out.alloc _, HMK.out.kept (grownBelow hal none) (by simp), HDS.out, HB.out.trans (hal.mono HB.out.size), by simp; omega⟩, by simp [intOf]; omega⟩
    · have hlt2 : ¬ (k : Int) < (m : Int) := by omega
      have E := Lib.hid (show mvars (qs.take k) = mvars qs by rw [List.take_of_length_le (by rw [HL.out]; omega)])
      have cB : W.cell? ⟨w.heap.size + 1, 0, none⟩ = some (.map (some w.heap.size)) := HBK.out.cell 0
      gi_wp2
      refine leaves_marks Ds _ HMK.out (fun W' h1 h2 h3 h4 h5 => ?_)
      have hBW : Below (w.heap.size + 2) W W' := ⟨h1, h2, h3, by omega, fun i hi => h5 i (fun hD => by have := HDS.out _ hD; omega)⟩
      have hm5 : W'.heap[w.heap.size]? = W.heap[w.heap.size]? := hBW.block _ (by omega)
      refine ⟨.map (some w.heap.size), ?_, w.heap.size, N, rfl, Nat.le_refl _, ?_, HB.out.trans (hBW.mono (by omega))⟩
      · simp [results, Tryd.f107, go_sem]
      · rw [← E.out]
        obtain ⟨es, clock, hb, F, hs, hD⟩ := HMP.out
        exact ⟨es, clock, hm5.trans hb, F, hs, hD⟩

end Go.Proofs.YtahkkelahocplaaDoor
