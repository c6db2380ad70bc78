/-
  A proof in lines, in the program.
-/
import Derived.Test.YtiekfjlhioekcaaDoorPutBoth
import Derived.Test.YtiekfjlhioekcaaDoorReason
import Derived.Test.YtiekfjlhioekcaaDoorTooKept
import Derived.Test.YtiekfjlhioekcaaDoorHeldIn
import Derived.Test.YtiekfjlhioekcaaDoorShelfR
namespace Go.Proofs.YtiekfjlhioekcaaDoor
open Go.RowKit Go.Shelf
attribute [local go_sem] Oper.semAt_some

theorem repeat_two : ∀ k : Nat, Lib.repeatL [32, 32] k = List.replicate (2 * k) (32 : UInt8)
  | 0 => by simp [Lib.repeatL]
  | k + 1 => by
    rw [show 2 * (k + 1) = 2 * k + 1 + 1 by omega, List.replicate_succ, List.replicate_succ, ← repeat_two k]
    simp [Lib.repeatL]

theorem ko_below {W W' : World} (h : Below W.heap.size W W') : KeepsOthers W W' := ⟨h.size, fun k _ hk _ => (h.block k (Array.getElem?_eq_some_iff.1 hk).1).trans hk⟩

theorem ko_builder {B b : Nat} {bs : List Value} {W W' : World} (h : Lib.IsBuilderF 49 5 B b bs W) (hb : Below B W W') (ho : Lib.OthersKept 5 (some b) W W') : KeepsOthers W W' := by
  refine ⟨hb.size, fun k o hk hc => ho k o hk (fun e => ?_) (fun c fz e => by subst e; cases hc)⟩
  injection e with e
  subst e
  have : ∃ c, W.heap[k]? = some (.cells c 49 (0, 0)) := by
    rcases h with ⟨_, v, h2, _⟩ | ⟨_, v, h2, _⟩ <;> exact ⟨_, h2⟩
  obtain ⟨c, h2⟩ := this
  rw [hk] at h2
  injection h2 with h2
  subst h2
  cases hc

/-- What the loop holds. -/
def PpI (w : World) (b : Nat) (pre : List Px) (W : World) : Prop := Below w.heap.size w W ∧ Lib.IsBuilderF 49 5 b b (Lib.byteCells (putP (pre.map pxT))) W

theorem PpI.book {w : World} {b : Nat} {pre : List Px} {W : World} {l : Nat} {r r' : Loop} (h : PpI w b pre W) (hl : W.heap[l]? = some (.loop r)) (hw : w.heap.size ≤ l) : PpI w b pre (W.putObj l (.loop r')) :=
  ⟨h.1.trans (KeepsT.book hl hw).1, bu_book h.2 hl⟩

/-- .. where a proof was handed over, and boxed. -/
def PpA (w : World) (b : Nat) (F : List (Nat × Tr)) (tm : Nat → Px → Array Value) (pre : List Px) (x : Px) (a' : Act) (W : World) : Prop :=
  PpI w b pre W ∧ ∃ Bx, Blk W Bx 35 #[.string x.t.a.1, .slice x.A x.n x.c, .int .i64 x.t.r, .slice x.B x.m x.e] ∧ IsTerms W 0 w.heap.size x.A x.n x.c x.t.a.2 ∧ (pre ++ [x]).map pxT <+: F ∧ a' = { tmps := tm Bx x, defers := [] }

theorem PpA.book {w : World} {b : Nat} {F : List (Nat × Tr)} {tm : Nat → Px → Array Value} {pre : List Px} {x : Px} {a' : Act} {W : World} {l : Nat} {r r' : Loop} (h : PpA w b F tm pre x a' W) (hl : W.heap[l]? = some (.loop r)) (hw : w.heap.size ≤ l) : PpA w b F tm pre x a' (W.putObj l (.loop r')) := by
  obtain ⟨h1, Bx, h2, h3, h4, h5⟩ := h
  exact ⟨h1.book hl hw, Bx, h2.putObj (.loop r') hl rfl, h3.keep (fun q _ hq => World.cell?_of_block (World.putObj_heap_other (by omega))) (Nat.le_refl _) (Nat.le_refl _), h4, h5⟩

set_option maxRecDepth 100000 in
set_option maxHeartbeats 8000000 in
theorem implProofPut_any (d : Nat) (A : Option Addr) (n c : Nat) (B : Option Addr) (m e : Nat) (t : Tr) (w : World) (hs : t.a.1.size ≤ maxLen) (h : IsPf d w 0 w.heap.size A n c B m e t) (hz : sizeT (d + 1) t ≤ 2097152) (hf : FewT (d + 1) t) (hr : RuleIn (d + 1) t)
    (hlen : sizeT (d + 1) t ≤ 60 → (putP (flatT (d + 1) 0 t)).length ≤ 1073741824) (hT : PowTab w) :
    Calls Tryd.prog 7 #[.agg #[.string t.a.1, .slice A n c, .int .i64 t.r, .slice B m e]] w (StrPost (if 60 < sizeT (d + 1) t then [] else putP (flatT (d + 1) 0 t)) w) := by
  have H := Lib.hid h; clear h
  have HFE := Lib.hid (flat_few (d + 1) 0 t hf hr)
  clear hf hr
  have hmx : Tryd.prog.follows .mixedOrders = true := by kernel_rfl
  have hb0 := below1 w (.cells #[.string t.a.1, .slice A n c, .int .i64 t.r, .slice B m e] 35)
  have P0 := Blk.new w 35 #[.string t.a.1, .slice A n c, .int .i64 t.r, .slice B m e]
  refine (callsIn_wide (n := 5)).1 ?_
  refine callsIn_of_wp_marks Tryd.func7 rfl trivial ?_ rfl
  simp only [Tryd.ntmps7, List.size_toArray, List.length_cons, List.length_nil, Nat.reduceAdd, Nat.reduceSub, Array.replicate_succ, Array.replicate_zero, List.push_toArray, List.append_toArray, List.nil_append, List.cons_append]
  have TG := fun (W : World) (hb : Below w.heap.size w W) => tooGreat_any d A n c B m e t W hs (H.out.up hb) hz
  by_cases hg : 60 < sizeT (d + 1) t
  · simp only [decide_eq_true hg] at TG
    rw [if_pos hg]
    gi_wp2_with (refine ⟨trivial, ?_⟩; gi_at_call 15; refine (callsIn_wide.2 (TG _ hb0)).mono ?_; rintro e0 w1 ⟨rfl, hb1⟩)
    refine ⟨.string ⟨#[]⟩, ?_, rfl, belowThen hb0 hb1⟩
    simp [results, Tryd.f7, go_sem]
  simp only [decide_eq_false hg] at TG
  rw [if_neg hg]
  have hln := hlen (by omega)
  gi_wp2_with (first
    | (refine ⟨trivial, ?_⟩; gi_at_call 15; refine (callsIn_wide.2 (TG _ hb0)).mono ?_; rintro e0 w1 ⟨rfl, hb1⟩; have P1 := P0.below hb1; obtain ⟨W2, hW2⟩ : ∃ W2, w1.alloc (.cells #[.pointer none, .slice none 0 0] 49) = W2 := ⟨_, rfl⟩; have P2 : Blk W2 w.heap.size 35 #[.string t.a.1, .slice A n c, .int .i64 t.r, .slice B m e] := (by rw [← hW2]; exact P1.alloc _); have p0 : W2.cell? ⟨w.heap.size, 0, none⟩ = some (.string t.a.1) := P2.cell 0; have p1 : W2.cell? ⟨w.heap.size, 1, none⟩ = some (.slice A n c) := P2.cell 1; have p2 : W2.cell? ⟨w.heap.size, 2, none⟩ = some (.int .i64 t.r) := P2.cell 2; have p3 : W2.cell? ⟨w.heap.size, 3, none⟩ = some (.slice B m e) := P2.cell 3)
    | (refine ⟨trivial, ?_⟩; gi_at_call 16; refine (callsIn_wide.2 (eachOf_any t.a.1 A n c t.r B m e _)).mono ?_; rintro e1 W3 ⟨rfl, hbk3, hb3, hz3⟩))
  have HB1 := belowThen hb0 hb1
  have hwb : w.heap.size ≤ w1.heap.size := HB1.size
  have hb2 := below1 w1 (.cells #[.pointer none, .slice none 0 0] 49)
  have hz2' : W2.heap.size = w1.heap.size + 1 := by rw [← hW2]; simp
  have BB0 : Lib.IsBuilderF 49 5 w1.heap.size w1.heap.size [] W2 := by rw [← hW2]; exact Lib.IsBuilderF.of (Lib.fresh_isBuilder 49 5 w1)
  rw [hW2] at hb2
  rw [hz2'] at hbk3 hz3
  have BB := Lib.hid (bu_below BB0 hb3)
  have HB3 := Lib.hid (belowThen HB1 (belowThen hb2 hb3))
  have hz3a : w1.heap.size + 2 ≤ W3.heap.size := by omega
  have HST := Lib.hid (each_stops (5 - 1) (by omega) (w1.heap.size + 1) w.heap.size d t A n c B m e W3 hbk3 hs (H.out.keep (fun q _ hq => HB3.out.cell (p := q) hq) (Nat.le_refl _) (Nat.le_refl _)) (by omega) hz)
  clear hz3 hb3 hbk3 hb2 P1 P2 p0 p1 p2 p3 HB1 hb0 hb1 P0 TG hlen BB0 hW2
  rw [hz2']
  clear hz2'
  refine wpIn_rangeT rfl (by omega) (gf := 28) (lb := #[.pointer (some ⟨w1.heap.size + 1, 0, none⟩)]) rfl trivial (enters_of Tryd.func28 (by kernel_rfl) rfl) HST.out
    KeepsT.trans (fun W r r' hl => KeepsT.book hl (by omega)) (Below.refl _ _) (fun _ => rfl)
    (fun B X Y hB hT k h1 h2 ho => hT.block k (Array.getElem?_eq_some_iff.1 ho.choose_spec.1).1 (.inl (by omega)))
    (PpI w w1.heap.size) (fun _ _ _ => False)
    (fun pre W r o' hI hl => hI.book hl (by omega)) (fun _ _ W r o' h _ => h.elim)
    (fun V hV hVz => ⟨HB3.out.trans (hV.mono (by omega)), bu_below BB.out hV⟩)
    (PpA w w1.heap.size (flatT (d + 1) 0 t) (fun Bx x => #[.agg #[.string t.a.1, .slice A n c, .int .i64 t.r, .slice B m e], .pointer (some ⟨w.heap.size, 0, none⟩), .string ⟨#[]⟩, .pointer (some ⟨w1.heap.size, 0, none⟩), .int .i64 (x.lv : Int), .pointer (some ⟨Bx, 0, none⟩), .agg #[.string t.a.1, .slice A n c, .int .i64 t.r, .slice B m e], .bool false, .agg #[.string t.a.1, .slice A n c, .int .i64 t.r, .slice B m e], .func (.func 28) #[] #[.pointer (some ⟨w1.heap.size + 1, 0, none⟩)], .int .i64 (x.lv : Int), pxV x, undef, undef, undef, undef, undef, undef, undef, undef, undef, undef, undef, undef, undef, undef]))
    (fun pre x a' W r o' hA hl => hA.book hl (by omega))
    ?assign ?body ?done ?stop
  case assign =>
    rintro B9 pre x X0 X1 K hB hI hT9 ⟨q1, ⟨dd, q2⟩, q3⟩ hK
    have hI1 : PpI w w1.heap.size pre X1 := ⟨hI.1.trans (hT9.low (by omega) hI.1.size), bu_turns hI.2 hT9⟩
    have hal := below1 X1 (.cells #[.string x.t.a.1, .slice x.A x.n x.c, .int .i64 x.t.r, .slice x.B x.m x.e] 35)
    have hsz := hI1.1.size
    unfold pxE pxV
    gi_wp2
    refine hK _ _ ((KeepsOthers.alloc _ _).from _) (KeepsT.of hal hsz) ⟨⟨belowThen hI1.1 hal, bu_below hI1.2 hal⟩, X1.heap.size, Blk.new X1 _ _, q2.1.keep (fun q _ hq => hal.cell (p := q) (by omega)) (Nat.le_refl _) (Nat.le_refl _), q3, ?_⟩
    first | rfl | simp [pxV]
  case stop =>
    rintro B9 c9 pre X0 X X' hB _ hF
    exact hF.elim
  case done =>
    rintro B9 xs X0 X X' hB hS hI hT9 ⟨r, r', hl, rfl⟩ hD
    have hI1 : PpI w w1.heap.size xs X := ⟨hI.1.trans (hT9.low (by omega) hI.1.size), bu_turns hI.2 hT9⟩
    have hI2 := hI1.book (r' := r') hl (by omega)
    obtain ⟨X9, hX9⟩ : ∃ X9, X.putObj (W3.heap.size + 1) (.loop r') = X9 := ⟨_, rfl⟩
    rw [hX9] at hI2 hD ⊢
    clear hX9 hI1 hT9 hl
    obtain ⟨hI3, hbu⟩ := hI2
    rw [hS] at hbu
    have hne : putP (flatT (d + 1) 0 t) ≠ [] := by rw [flatT_succ, putP_cons]; simp [lineP]
    have HI3 := Lib.hid hI3; have HBU := Lib.hid hbu; have HNE := Lib.hid hne; have HD := Lib.hid hD
    clear hI3 hbu hne hD hln
    gi_wp2_with (refine ⟨trivial, ?_⟩; gi_at_call 21; refine (callsIn_wide.2 (Tryd.Builder_String_k w1.heap.size w1.heap.size (putP (flatT (d + 1) 0 t)) _ HBU.out HNE.out)).mono ?_; rintro e9 W9 ⟨rfl, hB9, hb9, ho9⟩)
    have hD9 : W9.heap[W3.heap.size]? = some (.deferred (some [])) := ho9 _ _ HD.out (fun e => by injection e with e; omega) (fun c fz e => by cases e)
    have hbb := HI3.out.trans (hb9.mono hwb)
    refine ⟨by simp, .inl ⟨_, _, rfl, run_takeDeferred hD9, ?_⟩⟩
    refine ⟨.string ⟨(putP (flatT (d + 1) 0 t)).toArray⟩, ?_, rfl, ?_⟩
    · simp [results, Tryd.f7, go_sem]
    · have hsz : (W9.putObj W3.heap.size (.deferred none)).heap.size = W9.heap.size := by simp [World.putObj]
      exact ⟨hbb.os, hbb.tape, hbb.output, by rw [hsz]; exact hbb.size, fun k hk => (World.putObj_heap_other (by omega)).trans (hbb.block k hk)⟩
  case body =>
    rintro pre x a' W hrc ⟨hI, Bx, hX, hTm, hpf, rfl⟩
    have hBu := hI.2
    have hmem : (x.lv, x.t) ∈ flatT (d + 1) 0 t := hpf.subset (by simp [pxT])
    obtain ⟨hfe1, hfe2, hfe3⟩ := HFE.out _ hmem
    have hli := line_in hmem
    have hll : (lineP (x.lv, x.t)).length = 2 * x.lv + (textL x.t.a).length + 2 + (whyL x.t.r).length := by simp [lineP]; omega
    have hn9 : x.n ≤ 1048576 := by rw [← hTm.1]; exact hfe1
    obtain ⟨inb, hin⟩ : ∃ s : ByteArray, (⟨(Lib.repeatL [32, 32] x.lv).toArray⟩ : ByteArray) = s := ⟨_, rfl⟩
    obtain ⟨tx, htx⟩ : ∃ s : ByteArray, (⟨(textL x.t.a).toArray⟩ : ByteArray) = s := ⟨_, rfl⟩
    obtain ⟨rs, hrs⟩ : ∃ s : ByteArray, (⟨(whyL x.t.r).toArray⟩ : ByteArray) = s := ⟨_, rfl⟩
    have hind : inb.data.toList = List.replicate (2 * x.lv) 32 := by rw [← hin]; exact repeat_two x.lv
    have htxd : tx.data.toList = textL x.t.a := by rw [← htx]
    have hrsd : rs.data.toList = whyL x.t.r := by rw [← hrs]
    have z1 : inb.size ≤ 1073741824 := by show inb.data.toList.length ≤ _; rw [hind, List.length_replicate]; omega
    have z2 : tx.size ≤ 1073741824 := by show tx.data.toList.length ≤ _; rw [htxd]; omega
    have z3 : rs.size ≤ 1073741824 := by show rs.data.toList.length ≤ _; rw [hrsd]; omega
    have hlv : x.lv ≤ 1073741824 := by omega
    have hbw : w1.heap.size < W.heap.size := by rcases hBu with ⟨_, v, h2, _⟩ | ⟨_, v, h2, _⟩ <;> exact (Array.getElem?_eq_some_iff.1 h2).1
    have htot : (putP (pre.map pxT)).length + (lineP (x.lv, x.t)).length ≤ 1073741824 := by
      obtain ⟨rr, hrr⟩ := hpf
      have h9 := hln
      rw [← hrr, putP_app, List.map_append, putP_app] at h9
      simp only [List.length_append] at h9
      have h8 : putP (List.map pxT [x]) = lineP (x.lv, x.t) := putP_one _
      rw [h8] at h9
      omega
    have hsd : (inb ++ tx ++ ⟨#[32]⟩ ++ rs ++ ⟨#[10]⟩ : ByteArray).data.toList = lineP (x.lv, x.t) := by
      simp only [ByteArray.data_append, Array.toList_append, hind, htxd, hrsd]
      simp [lineP]
    have hss : (inb ++ tx ++ ⟨#[32]⟩ ++ rs ++ ⟨#[10]⟩ : ByteArray).size ≤ 1073741824 := by
      show (inb ++ tx ++ ⟨#[32]⟩ ++ rs ++ ⟨#[10]⟩ : ByteArray).data.toList.length ≤ _
      rw [hsd]; omega
    have hcl : (Lib.byteCells (putP (pre.map pxT))).length ≤ 1073741824 := by unfold Lib.byteCells; simp; omega
    have T1 := (Tryd.strings_Repeat ⟨#[32, 32]⟩ x.lv W.drew (by omega) (by show 2 * x.lv ≤ _; omega)).mono (fun e w' h => (⟨h.1.trans (congrArg (fun s => Ending.returned (.string s)) hin), h.2⟩ : e = .returned (.string inb) ∧ Below W.drew.heap.size W.drew w'))
    have T2 := Lib.hid (fun (V : World) (hV : Below W.heap.size W V) => (atomText_gen x.t.a.1 x.A x.n x.c x.t.a.2 V hn9 (by show (textL x.t.a).length ≤ _; omega) (hTm.keep (w' := V) (lo' := 0) (hi' := V.heap.size) (fun q _ hq => hV.cell (p := q) (by have := hI.1.size; omega)) (Nat.le_refl _) (by have := hI.1.size; have := hV.size; omega))).mono (fun e w' (h : StrPost _ _ e w') => (⟨h.1.trans (congrArg (fun s => Ending.returned (.string s)) htx), h.2⟩ : e = .returned (.string tx) ∧ Below V.heap.size V w')))
    have T3 := Lib.hid (fun (V : World) (hV : Below W.heap.size W V) => (reason_any x.t.r hfe2 hfe3 V (tab_later hT (belowThen hI.1 hV))).mono (fun e w' (h : StrPost _ _ e w') => (⟨h.1.trans (congrArg (fun s => Ending.returned (.string s)) hrs), h.2⟩ : e = .returned (.string rs) ∧ Below V.heap.size V w')))
    have T4 := Lib.hid (fun (V : World) (hV : Below W.heap.size W V) => Tryd.Builder_WriteString_k w1.heap.size w1.heap.size _ (inb ++ tx ++ ⟨#[32]⟩ ++ rs ++ ⟨#[10]⟩) V (bu_below hBu hV) (by omega) (by have := hV.size; omega))
    have HSD := Lib.hid hsd; have HHI := Lib.hid hI
    clear hsd hin htx hrs hind htxd hrsd hli hll hmem hfe1 hfe2 hfe3 htot hss hcl hpf hI
    gi_wp2
    refine wpIn_region_held_drew (S := fun _ V => V.cell? ⟨Bx, 0, none⟩ = some (.string x.t.a.1) ∧ V.cell? ⟨Bx, 1, none⟩ = some (.slice x.A x.n x.c) ∧ V.cell? ⟨Bx, 2, none⟩ = some (.int .i64 x.t.r)) hmx ⟨hX.cell 0, hX.cell 1, hX.cell 2⟩ ?_
    intro hS_
    refine takeIn (i := 0) (v := .int .i64 (x.lv : Int)) rfl (by (simp only [List.getElem?_toArray, List.getElem?_cons_zero]); rfl) (by kernel_rfl) (by kernel_rfl) (by kernel_rfl) (by rfl) (fun _ _ => Iff.rfl) (by kernel_rfl) (fun _ _ _ h => h) (Or.inl ⟨by rfl, ?_⟩) (fun _ => rfl) hS_ (by (simp only [List.setIfInBounds_toArray, List.set_cons_succ, List.set_cons_zero]); rfl) ?_
    · intro L_ w_ hD_ hSw_; (try dsimp only at hSw_); obtain ⟨s0_, s1_, s2_⟩ := hSw_; go_simp <;> omega
    refine takeIn (i := 2) (v := .pointer (some ⟨Bx, 0, none⟩)) rfl (by (simp only [List.getElem?_toArray, List.getElem?_cons_succ, List.getElem?_cons_zero]); rfl) (by kernel_rfl) (by kernel_rfl) (by kernel_rfl) (by rfl) (fun _ _ => Iff.rfl) (by kernel_rfl) (fun _ _ _ h => h) (Or.inl ⟨by rfl, ?_⟩) (fun _ => rfl) hS_ (by (simp only [List.setIfInBounds_toArray, List.set_cons_succ, List.set_cons_zero]); rfl) ?_
    · intro L_ w_ hD_ hSw_; (try dsimp only at hSw_); obtain ⟨s0_, s1_, s2_⟩ := hSw_; go_simp <;> omega
    refine takeIn (i := 3) (v := .agg #[.string x.t.a.1, .slice x.A x.n x.c]) rfl (by (simp only [List.getElem?_toArray, List.getElem?_cons_succ, List.getElem?_cons_zero]); rfl) (by kernel_rfl) (by kernel_rfl) (by kernel_rfl) (by rfl) (fun _ _ => Iff.rfl) (by kernel_rfl) (fun _ _ _ h => h) (Or.inl ⟨by rfl, ?_⟩) (fun _ => rfl) hS_ (by (simp only [List.setIfInBounds_toArray, List.set_cons_succ, List.set_cons_zero]); rfl) ?_
    · intro L_ w_ hD_ hSw_; (try dsimp only at hSw_); obtain ⟨s0_, s1_, s2_⟩ := hSw_; go_simp <;> omega
    refine takeIn (i := 7) (v := .pointer (some ⟨Bx, 2, none⟩)) rfl (by (simp only [List.getElem?_toArray, List.getElem?_cons_succ, List.getElem?_cons_zero]); rfl) (by kernel_rfl) (by kernel_rfl) (by kernel_rfl) (by rfl) (fun _ _ => Iff.rfl) (by kernel_rfl) (fun _ _ _ h => h) (Or.inl ⟨by rfl, ?_⟩) (fun _ => rfl) hS_ (by (simp only [List.setIfInBounds_toArray, List.set_cons_succ, List.set_cons_zero]); rfl) ?_
    · intro L_ w_ hD_ hSw_; (try dsimp only at hSw_); obtain ⟨s0_, s1_, s2_⟩ := hSw_; go_simp <;> omega
    refine takeIn (i := 8) (v := .int .i64 x.t.r) rfl (by (simp only [List.getElem?_toArray, List.getElem?_cons_succ, List.getElem?_cons_zero]); rfl) (by kernel_rfl) (by kernel_rfl) (by kernel_rfl) (by rfl) (fun _ _ => Iff.rfl) (by kernel_rfl) (fun _ _ _ h => h) (Or.inl ⟨by rfl, ?_⟩) (fun _ => rfl) hS_ (by (simp only [List.setIfInBounds_toArray, List.set_cons_succ, List.set_cons_zero]); rfl) ?_
    · intro L_ w_ hD_ hSw_; (try dsimp only at hSw_); obtain ⟨s0_, s1_, s2_⟩ := hSw_; go_simp <;> omega
    refine wpAnyHIn_ready (rs := [1]) (by kernel_rfl) (by simp) ?_
    refine AllReadyHIn.cons (o := _) (by (simp only [List.getElem?_toArray, List.getElem?_cons_succ, List.getElem?_cons_zero]); rfl) (fun K_ hK_ => ?_) AllReadyHIn.nil
    rw [if_pos (by rfl)]
    go_simp
    refine ⟨trivial, ?_⟩
    gi_at_call 18
    refine (callsIn_wide.2 T1).mono ?_; rintro e3 w3 ⟨rfl, hbd⟩; have hb3 : Below W.heap.size W w3 := undrew hbd; clear hbd; have hX3 := hX.below hb3
    refine hK_.out _ _ ⟨hX3.cell 0, hX3.cell 1, hX3.cell 2⟩ (fun hS2_ => ?_)
    clear hK_ hS_; have hS_ := hS2_; clear hS2_
    (try simp only [Act.put, List.setIfInBounds_toArray, List.set_cons_zero, List.set_cons_succ])
    refine wpAnyHIn_ready (rs := [4]) (by kernel_rfl) (by simp) ?_
    refine AllReadyHIn.cons (o := _) (by (simp only [List.getElem?_toArray, List.getElem?_cons_succ, List.getElem?_cons_zero]); rfl) (fun K_ hK_ => ?_) AllReadyHIn.nil
    rw [if_pos (by rfl)]
    go_simp
    refine ⟨trivial, ?_⟩
    gi_at_call 19
    refine (callsIn_wide.2 (T2.out w3 hb3)).mono ?_; rintro e4 w4 ⟨rfl, hb4⟩; have hX4 := hX3.below hb4; have hb34 := belowThen hb3 hb4
    refine hK_.out _ _ ⟨hX4.cell 0, hX4.cell 1, hX4.cell 2⟩ (fun hS2_ => ?_)
    clear hK_ hS_; have hS_ := hS2_; clear hS2_
    (try simp only [Act.put, List.setIfInBounds_toArray, List.set_cons_zero, List.set_cons_succ])
    refine takeIn (i := 5) (v := .string (inb ++ tx)) rfl (by (simp only [List.getElem?_toArray, List.getElem?_cons_succ, List.getElem?_cons_zero]); rfl) (by kernel_rfl) (by kernel_rfl) (by kernel_rfl) (by rfl) (fun _ _ => Iff.rfl) (by kernel_rfl) (fun _ _ _ h => h) (Or.inl ⟨by rfl, ?_⟩) (fun _ => rfl) hS_ (by (simp only [List.setIfInBounds_toArray, List.set_cons_succ, List.set_cons_zero]); rfl) ?_
    · intro L_ w_ hD_ hSw_; (try dsimp only at hSw_); obtain ⟨s0_, s1_, s2_⟩ := hSw_; go_simp <;> omega
    refine takeIn (i := 6) (v := .string (inb ++ tx ++ ⟨#[32]⟩)) rfl (by (simp only [List.getElem?_toArray, List.getElem?_cons_succ, List.getElem?_cons_zero]); rfl) (by kernel_rfl) (by kernel_rfl) (by kernel_rfl) (by rfl) (fun _ _ => Iff.rfl) (by kernel_rfl) (fun _ _ _ h => h) (Or.inl ⟨by rfl, ?_⟩) (fun _ => rfl) hS_ (by (simp only [List.setIfInBounds_toArray, List.set_cons_succ, List.set_cons_zero]); rfl) ?_
    · intro L_ w_ hD_ hSw_; (try dsimp only at hSw_); obtain ⟨s0_, s1_, s2_⟩ := hSw_; go_simp <;> omega
    refine wpAnyHIn_ready (rs := [9]) (by kernel_rfl) (by simp) ?_
    refine AllReadyHIn.cons (o := _) (by (simp only [List.getElem?_toArray, List.getElem?_cons_succ, List.getElem?_cons_zero]); rfl) (fun K_ hK_ => ?_) AllReadyHIn.nil
    rw [if_pos (by rfl)]
    go_simp
    refine ⟨trivial, ?_⟩
    gi_at_call 20
    refine (callsIn_wide.2 (T3.out w4 hb34)).mono ?_; rintro e5 w5 ⟨rfl, hb5⟩; have hX5 := hX4.below hb5; have hb35 := belowThen hb34 hb5
    refine hK_.out _ _ ⟨hX5.cell 0, hX5.cell 1, hX5.cell 2⟩ (fun hS2_ => ?_)
    clear hK_ hS_; have hS_ := hS2_; clear hS2_
    (try simp only [Act.put, List.setIfInBounds_toArray, List.set_cons_zero, List.set_cons_succ])
    refine takeIn (i := 10) (v := .string (inb ++ tx ++ ⟨#[32]⟩ ++ rs)) rfl (by (simp only [List.getElem?_toArray, List.getElem?_cons_succ, List.getElem?_cons_zero]); rfl) (by kernel_rfl) (by kernel_rfl) (by kernel_rfl) (by rfl) (fun _ _ => Iff.rfl) (by kernel_rfl) (fun _ _ _ h => h) (Or.inl ⟨by rfl, ?_⟩) (fun _ => rfl) hS_ (by (simp only [List.setIfInBounds_toArray, List.set_cons_succ, List.set_cons_zero]); rfl) ?_
    · intro L_ w_ hD_ hSw_; (try dsimp only at hSw_); obtain ⟨s0_, s1_, s2_⟩ := hSw_; go_simp <;> omega
    refine takeIn (i := 11) (v := .string (inb ++ tx ++ ⟨#[32]⟩ ++ rs ++ ⟨#[10]⟩)) rfl (by (simp only [List.getElem?_toArray, List.getElem?_cons_succ, List.getElem?_cons_zero]); rfl) (by kernel_rfl) (by kernel_rfl) (by kernel_rfl) (by rfl) (fun _ _ => Iff.rfl) (by kernel_rfl) (fun _ _ _ h => h) (Or.inl ⟨by rfl, ?_⟩) (fun _ => rfl) hS_ (by (simp only [List.setIfInBounds_toArray, List.set_cons_succ, List.set_cons_zero]); rfl) ?_
    · intro L_ w_ hD_ hSw_; (try dsimp only at hSw_); obtain ⟨s0_, s1_, s2_⟩ := hSw_; go_simp <;> omega
    refine wpAnyHIn_ready (rs := [12]) (by kernel_rfl) (by simp) ?_
    refine AllReadyHIn.cons (o := _) (by (simp only [List.getElem?_toArray, List.getElem?_cons_succ, List.getElem?_cons_zero]); rfl) (fun K_ hK_ => ?_) AllReadyHIn.nil
    rw [if_pos (by rfl)]
    go_simp
    refine ⟨trivial, ?_⟩
    gi_at_call 17
    refine (callsIn_wide.2 (T4.out w5 hb35)).mono ?_; rintro e6 w6 ⟨rfl, hB6, hb6, ho6⟩; have hX6 : Blk w6 Bx 35 #[.string x.t.a.1, .slice x.A x.n x.c, .int .i64 x.t.r, .slice x.B x.m x.e] := ((bu_keepsT (n₀ := w.heap.size) (bu_below hBu hb35) hb6 ho6 hwb).2 _ _ _ _ (.inr rfl) hX5).trans hX5
    refine hK_.out _ _ ⟨hX6.cell 0, hX6.cell 1, hX6.cell 2⟩ (fun hS2_ => ?_)
    clear hK_ hS_; have hS_ := hS2_; clear hS2_
    (try simp only [Act.put, List.setIfInBounds_toArray, List.set_cons_zero, List.set_cons_succ])
    refine wpAnyHIn_done (by kernel_rfl) ?_ _
    clear hS_
    gi_wp2
    refine ⟨((ko_below hb35).trans (ko_builder (bu_below hBu hb35) hb6 ho6)).from _, (KeepsT.of hb35 HHI.out.1.size).trans (bu_keepsT (bu_below hBu hb35) hb6 ho6 hwb), (belowThen HHI.out.1 hb35).trans (hb6.mono hwb), ?_⟩
    rw [Lib.strCells_eq, ← Lib.byteCells_append, HSD.out] at hB6
    rw [List.map_append, putP_app, show putP (List.map pxT [x]) = lineP (x.lv, x.t) from putP_one _]
    exact .inr hB6

end Go.Proofs.YtiekfjlhioekcaaDoor
