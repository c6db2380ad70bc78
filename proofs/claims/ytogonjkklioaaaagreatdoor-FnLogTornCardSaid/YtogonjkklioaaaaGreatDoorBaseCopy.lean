/-
  A base copied, in the model. (Written by tools/l7e.py.)
-/
import Derived.Test.YtogonjkklioaaaaGreatDoorZq
import Derived.Test.YtogonjkklioaaaaGreatDoorLt20
import Derived.Test.YtogonjkklioaaaaGreatDoorLt21
import Derived.Test.YtogonjkklioaaaaGreatDoorLt10
import Derived.Test.YtogonjkklioaaaaGreatDoorLt31
set_option maxRecDepth 100000
set_option maxHeartbeats 8000000
namespace Go.Proofs.YtogonjkklioaaaaGreatDoor
open Go.RowKit
def ChV : zmj Ch := fun W lo hi vs c => ∃ A n e B m d, vs = [.slice A n e, .slice B m d] ∧ IsAtoms W lo hi A n e c.1 ∧ IsAtoms W lo hi B m d c.2
theorem ChV.keep : TKeep ChV := fun _ _ _ _ _ _ ⟨A, n, c, B, m, d, h1, h2, h3⟩ hk =>
  ⟨A, n, c, B, m, d, h1, h2.keep AtomE.stays (fun q h1 h2 => cb_ (hk q.block h1 h2)) (nl _) (nl _), h3.keep AtomE.stays (fun q h1 h2 => cb_ (hk q.block h1 h2)) (nl _) (nl _)⟩
theorem GR.store {α : Type} {T : TypeId} {sz a : Nat} {V : zmj α} {w W : World} {v : Value} {xs : List (Ex α)} (h : GR T sz V w a v xs W) (hV : TKeep V) (hlo : ∀ x ∈ xs, a ≤ x.lo) {p : Addr} (hp : p.block < a) (hw : w.heap.size ≤ p.block) (u : Value) : GR T sz V w a v xs (W.setCell p u) := by
  have hs : (W.setCell p u).heap.size = W.heap.size := zab _ _ _
  exact ⟨znp h.K (fun e => by have := (h.K.lt _ e).1; omega) u, fun x hx => by
    obtain ⟨o0, o1, o2, o3⟩ := h.O x hx; have hl := hlo x hx; exact ⟨o0, hV _ _ _ _ _ _ o1 (fun b h1 _ => hs_ _ _ _ b qaa), by omega, o3⟩, h.h0, h.gr.setCell hw u⟩
structure KJ (V : World) (rs : List Rl) (gs : List At) (c1 c2 fa : Bool) (x7 x12 x3 : Value) (arr : Array Value) (W : World) : Prop where
  r : c1 = true → ∃ A c lo hi, x7 = .slice A rs.length c ∧ zap W lo hi A rs.length c rs ∧ V.heap.size ≤ lo ∧ hi ≤ W.heap.size ∧ ∀ g, x3 = .pointer (some ⟨g, 0, none⟩) → g < lo ∨ hi ≤ g
  s : c2 = true → ∃ A c lo hi, x12 = .slice A gs.length c ∧ IsAtoms W lo hi A gs.length c gs ∧ V.heap.size ≤ lo ∧ hi ≤ W.heap.size ∧ ∀ g, x3 = .pointer (some ⟨g, 0, none⟩) → g < lo ∨ hi ≤ g
  a : fa = true → ∃ g, x3 = .pointer (some ⟨g, 0, none⟩) ∧ V.heap.size ≤ g ∧ Blk W g 119 arr
  z1 : c1 = false → x7 = undef
  z2 : c2 = false → x12 = undef
  z3 : fa = false → x3 = undef
  gr : Below V.heap.size V W
section
variable {V W W' : World} {rs : List Rl} {gs : List At} {c1 c2 fa : Bool} {x7 x12 x3 : Value} {arr : Array Value}
theorem KJ.below (h : KJ V rs gs c1 c2 fa x7 x12 x3 arr W) (hb : Below W.heap.size W W') : KJ V rs gs c1 c2 fa x7 x12 x3 arr W' := by
  have hs := hb.size
  exact ⟨fun e => by
    obtain ⟨A, c, lo, hi, e1, e2, e3, e4, e5⟩ := h.r e; exact ⟨A, c, lo, hi, e1, e2.below RuleE.stays hb e4, e3, by omega, e5⟩, fun e => by
    obtain ⟨A, c, lo, hi, e1, e2, e3, e4, e5⟩ := h.s e; exact ⟨A, c, lo, hi, e1, e2.below AtomE.stays hb e4, e3, by omega, e5⟩, fun e => by
    obtain ⟨g, e1, e2, e3⟩ := h.a e; exact ⟨g, e1, e2, e3.below hb⟩, h.z1, h.z2, h.z3, h.gr.trans (hb.mono h.gr.size)⟩
theorem KJ.before (h : KJ V rs gs c1 c2 fa x7 x12 x3 arr W) : ∀ g, x3 = .pointer (some ⟨g, 0, none⟩) → g < W.heap.size := fun g e => by
  cases fa with
  | false => rw [h.z3 rfl] at e; simp [undef] at e
  | true =>
    obtain ⟨g', e1, _, e3⟩ := h.a rfl; rw [e1] at e; simp at e; subst e; exact e3.lt
theorem KJ.made (h : KJ V rs gs c1 c2 false x7 x12 x3 #[.slice none 0 0, .int .i64 0, .slice none 0 0, .slice none 0 0] W) : KJ V rs gs c1 c2 true x7 x12 (.pointer (some ⟨W.heap.size, 0, none⟩)) #[.slice none 0 0, .int .i64 0, .slice none 0 0, .slice none 0 0] (W.alloc (.cells #[.slice none 0 0, .int .i64 0, .slice none 0 0, .slice none 0 0] 119)) := by
  have h2 := h.below (zac W (.cells #[.slice none 0 0, .int .i64 0, .slice none 0 0, .slice none 0 0] 119))
  exact ⟨fun e => by
    obtain ⟨A, c, lo, hi, e1, e2, e3, e4, e5⟩ := h.r e; exact ⟨A, c, lo, hi, e1, e2.below RuleE.stays (zac W _) e4, e3, by simp; omega, fun g e => by simp at e; right; omega⟩, fun e => by
    obtain ⟨A, c, lo, hi, e1, e2, e3, e4, e5⟩ := h.s e; exact ⟨A, c, lo, hi, e1, e2.below AtomE.stays (zac W _) e4, e3, by simp; omega, fun g e => by simp at e; right; omega⟩, fun _ => ⟨_, rfl, h.gr.size, Blk.new W _ _⟩, h2.z1, h2.z2, fun e => qar, h2.gr⟩
end
theorem KJ.put {V W : World} {rs : List Rl} {gs : List At} {A G : Option Addr} {n c m d g : Nat} (h : KJ V rs gs true true true (.slice A n c) (.slice G m d) (.pointer (some ⟨g, 0, none⟩)) #[.slice none 0 0, .int .i64 0, .slice none 0 0, .slice none 0 0] W) (tv e : Value) : KJ V rs gs true true true (.slice A n c) (.slice G m d) (.pointer (some ⟨g, 0, none⟩)) #[.slice A n c, tv, .slice G m d, e] ((((W.setCell ⟨g, 0, none⟩ (.slice A n c)).setCell ⟨g, 1, none⟩ tv).setCell ⟨g, 2, none⟩ (.slice G m d)).setCell ⟨g, 3, none⟩ e) := by
  obtain ⟨g', e1, e2, e3⟩ := h.a rfl; simp at e1; subst e1; have hk : ∀ b, b ≠ g → ((((W.setCell ⟨g, 0, none⟩ (.slice A n c)).setCell ⟨g, 1, none⟩ tv).setCell ⟨g, 2, none⟩ (.slice G m d)).setCell ⟨g, 3, none⟩ e).heap[b]? = W.heap[b]? := fun b hb => (hs_ _ _ _ b hb).trans ((hs_ _ _ _ b hb).trans ((hs_ _ _ _ b hb).trans (hs_ _ _ _ b hb))); have hs : ((((W.setCell ⟨g, 0, none⟩ (.slice A n c)).setCell ⟨g, 1, none⟩ tv).setCell ⟨g, 2, none⟩ (.slice G m d)).setCell ⟨g, 3, none⟩ e).heap.size = W.heap.size := qcf; refine ⟨fun _ => ?_, fun _ => ?_, fun _ => ⟨g, rfl, e2, (((e3.set 0 _).set 1 _).set 2 _).set 3 _⟩, fun e => qar, fun e => qar, fun e => qar, (((h.gr.setCell (p := ⟨g, 0, none⟩) e2 _).setCell (p := ⟨g, 1, none⟩) e2 _).setCell (p := ⟨g, 2, none⟩) e2 _).setCell (p := ⟨g, 3, none⟩) e2 _⟩
  · obtain ⟨A', c', lo, hi, f1, f2, f3, f4, f5⟩ := h.r rfl
    have f6 := f5 g rfl; exact ⟨A', c', lo, hi, f1, f2.keep RuleE.stays (fun q h1 h2 => cb_ (hk _ qaa)) (nl _) (nl _), f3, by omega, f5⟩
  · obtain ⟨A', c', lo, hi, f1, f2, f3, f4, f5⟩ := h.s rfl
    have f6 := f5 g rfl; exact ⟨A', c', lo, hi, f1, f2.keep AtomE.stays (fun q h1 h2 => cb_ (hk _ qaa)) (nl _) (nl _), f3, by omega, f5⟩
structure CB (w : World) (rc0 : Array Value) (g a lo hi lo2 hi2 : Nat) (A : Option Addr) (c : Nat) (rs : List Rl) (t : Nat) (G : Option Addr) (d : Nat) (gs : List At) (v : Value) (zs : List (Ex Ch)) (W : World) : Prop where
  xb : Blk W w.heap.size 119 rc0
  xr : Blk W (w.heap.size + 1) 119 #[.slice none 0 0, .int .i64 0, .slice none 0 0, .slice none 0 0]
  xo : Blk W g 119 #[.slice A rs.length c, .int .i64 (t : Int), .slice G gs.length d, v]
  ru : zap W lo hi A rs.length c rs
  fa : IsAtoms W lo2 hi2 G gs.length d gs
  gg : GR 25 2 ChV w a v zs W
  lw : ∀ x ∈ zs, a ≤ x.lo
  n1 : w.heap.size + 1 < g
  n2 : g < a
  n3 : (g < lo ∨ hi ≤ g) ∧ (g < lo2 ∨ hi2 ≤ g)
  n4 : hi ≤ a ∧ hi2 ≤ a ∧ a ≤ W.heap.size
  n5 : w.heap.size + 2 ≤ lo ∧ w.heap.size + 2 ≤ lo2
section
variable {w W W' W9 : World} {rc0 : Array Value} {g a lo hi lo2 hi2 c t d g' n' cap : Nat} {A G : Option Addr} {rs : List Rl} {gs : List At} {v : Value} {zs : List (Ex Ch)} {x : Ex Ch} {ob : Obj}
theorem CB.below (h : CB w rc0 g a lo hi lo2 hi2 A c rs t G d gs v zs W) (hb : Below W.heap.size W W') : CB w rc0 g a lo hi lo2 hi2 A c rs t G d gs v zs W' := by
  have hs := hb.size; have h4 := h.n4; exact ⟨h.xb.below hb, h.xr.below hb, h.xo.below hb, h.ru.below RuleE.stays hb qaa, h.fa.below AtomE.stays hb qaa, h.gg.below ChV.keep hb, h.lw, h.n1, h.n2, h.n3, by omega, h.n5⟩
theorem CB.more (h : CB w rc0 g a lo hi lo2 hi2 A c rs t G d gs v zs W) (hl : x.vs.length = 2) (ho : ChV W x.lo x.hi x.vs x.x) (h2 : x.hi ≤ W.heap.size) (hlo : a ≤ x.lo) (hr : ∀ g, v.ownBlock = some g → g < x.lo ∨ x.hi ≤ g)
    (hown : W9.ownsRow a 25 2 (.slice (some ⟨g', 0, none⟩) n' cap) (zs.length + 1) (zdz zs ++ x.vs)) (hgrow : (W.alloc ob).grownBy W9 v.ownBlock) (hat : v.ownBlock = some g' ∨ g' = W.heap.size + 1) :
    CB w rc0 g a lo hi lo2 hi2 A c rs t G d gs (.slice (some ⟨g', 0, none⟩) n' cap) (zs ++ [x]) (W9.setCell ⟨g, 3, none⟩ (.slice (some ⟨g', 0, none⟩) n' cap)) := by
  have hb1 := zac W ob; have hA := h.below hb1; have hsz : (W.alloc ob).heap.size = W.heap.size + 1 := qag; have a1 := h.n1; have a2 := h.n2; have a3 := h.n3; have a4 := h.n4; have a5 := h.n5; have hne : ∀ b, b < a → v.ownBlock ≠ some b := fun b hb e => by have := (h.gg.K.lt b e).1; omega
  have kk : ∀ b, b < a → b ≠ g → (W9.setCell ⟨g, 3, none⟩ (.slice (some ⟨g', 0, none⟩) n' cap)).heap[b]? = (W.alloc ob).heap[b]? := fun b hb hbg => (hs_ _ _ _ b hbg).trans (hgrow.block b qaa (fun e => hne b hb e.symm)); have hg := h.gg.more ChV.keep hb1 hl (ChV.keep _ _ _ _ _ _ ho (fun q _ h3 => hb1.block q qaa)) qaa hr hown hgrow (hat.imp id (fun e => by rw [e, hsz])); have hgs := hgrow.size
  have a6 : ∀ y ∈ zs ++ [x], a ≤ y.lo := fun y hy => by
    rcases List.mem_append.1 hy with hy | hy
    · exact h.lw y hy
    · rw [List.mem_singleton.1 hy]; exact hlo
  exact ⟨(hA.xb.kept hgrow (fun e => hne _ qaa e.symm)).far (p := ⟨g, 3, none⟩) (by show w.heap.size ≠ g; omega) _, (hA.xr.kept hgrow (fun e => hne _ qaa e.symm)).far (p := ⟨g, 3, none⟩) (by show w.heap.size + 1 ≠ g; omega) _, (hA.xo.kept hgrow (fun e => hne _ qaa e.symm)).set 3 _,
    hA.ru.keep RuleE.stays (fun q h1 h2 => cb_ (kk _ qaa qaa)) (nl _) (nl _), hA.fa.keep AtomE.stays (fun q h1 h2 => cb_ (kk _ qaa qaa)) (nl _) (nl _),
    hg.store ChV.keep a6 (p := ⟨g, 3, none⟩) a2 qbr _, a6, a1, a2, a3, by rw [zab]; omega, a5⟩
end
theorem ZBaseCopy0 {p : Prop} (h : p := by
  refine rd0 9 fun K_ hK_ => ?_; refine step_append_lies _ qad _ _ _ qad a 25 i0 _ 2 48 Tryz.underlying34 HI.out HZ.out HSZ.out HYY.out rfl qaa (.slice H zs.length f) zs.length (zdz zs) qad (C6.out.gg.K.alloc _) ⟨w6.heap.size, 0, none⟩ 1 1 [.slice A6 ch.1.length c6, .slice B6 ch.2.length d6] qad qad (zbv w6 _ _ _) qal qaa qaf qaa qai (w6.heap.size + 1) qag ?_; intro g9 cap9 w9 hown hgrow hat _; have hne : ∀ b, b < a → (Value.slice H zs.length f).ownBlock ≠ some b := fun b hb e => by have := (C6.out.gg.K.lt b e).1; omega
  have hk9 : ∀ b, b < a → w9.heap[b]? = (w6.alloc (.cells #[.slice A6 ch.1.length c6, .slice B6 ch.2.length d6] 25)).heap[b]? := fun b hb => hgrow.block b qai (fun e => hne b hb e.symm); have f7 := (cb_ (a := ⟨w.heap.size, 3, none⟩) (hk9 w.heap.size qaa)).trans f4; have f8 := (cb_ (a := p.add (i * 2)) (hk9 _ qat)).trans f5; have f9 := (cb_ (a := ⟨(p.add (i * 2)).block, (p.add (i * 2)).off + 1, none⟩) (hk9 _ (by show (p.add (i * 2)).block < a; rw [zag]; omega))).trans f6; have xo9 := (C6.out.xo.alloc (.cells #[.slice A6 ch.1.length c6, .slice B6 ch.2.length d6] 25)).kept hgrow (fun e => hne g n2 e.symm)
  have g3 := xo9.cell 3; have g4 := xo9.frozen 3; have HN := hid (C6.out.more (x := ⟨V2.heap.size, w6.heap.size, [.slice A6 ch.1.length c6, .slice B6 ch.2.length d6], (ch.1, ch.2)⟩) rfl ⟨A6, _, c6, B6, _, d6, rfl, I6.out, J6.out⟩ (nl _) (by show a ≤ V2.heap.size; omega) (fun q hq => .inl (CV.out.gg.K.lt q hq).2) hown hgrow hat); refine hK_.out _ _ ⟨f7, f8, f9⟩ fun hS_ => ?_; clear hK_; refine tk 10 (.pointer (some ⟨g, 3, none⟩)) hS_ ?_; refine rd1 11 fun K_ hK_ => ?_; go_simp; have xb9 := HN.out.xb.cell 3; have hk11 : ∀ b, b ≠ g → (w9.setCell ⟨g, 3, none⟩ (.slice (some ⟨g9, 0, none⟩) (zs.length + 1) cap9)).heap[b]? = w9.heap[b]? := fun b hb => hs_ _ _ _ b hb
  have k8 := (cb_ (a := p.add (i * 2)) (hk11 _ qat)).trans f8; have k9 := (cb_ (a := ⟨(p.add (i * 2)).block, (p.add (i * 2)).off + 1, none⟩) (hk11 _ (by show (p.add (i * 2)).block ≠ g; rw [zag]; omega))).trans f9; refine hK_.out _ _ ⟨xb9, k8, k9⟩ fun hS_ => ?_; clear hK_; refine wpAnyH_done qab ?_ _; have hnext := hid (show (zs ++ [(⟨V2.heap.size, w6.heap.size, [.slice A6 ch.1.length c6, .slice B6 ch.2.length d6], (ch.1, ch.2)⟩ : Ex Ch)]).map (·.x) = hs.take (i + 1) from by rw [List.map_append, HZS.out, List.take_add_one, HGC.out]; rfl); clear hS_ hown hgrow hat hne hk9 hk11 xo9 xb9 k8 k9 f0 f1 f2 f3 f4 f5 f6 f7 f8 f9 g3 g4 e0 e1 e2 e3 hb7
  go_wp2; go_roundw
  case rel => exact ⟨i + 1, _, _, zs ++ [(⟨V2.heap.size, w6.heap.size, [.slice A6 ch.1.length c6, .slice B6 ch.2.length d6], (ch.1, ch.2)⟩ : Ex Ch)], by omega, by go_num, by rw [List.length_append]; exact HN.out, hnext.out⟩
  case measure => exact qms) : p := h
theorem ZBaseCopy1 {p : Prop} (h : p := by
  refine hK_.out _ _ ⟨f0, f1, f2⟩ fun hS_ => ?_; clear hK_; refine rd1 8 fun K_ hK_ => ?_; go_simp; have hb7 := zac w6 (.cells #[.slice A6 ch.1.length c6, .slice B6 ch.2.length d6] 25); have f4 := (hb7.cell (p := ⟨w.heap.size, 3, none⟩) qaj).trans f0; have f5 := (hb7.cell (p := p.add (i * 2)) qat).trans f1; have f6 := (hb7.cell (p := ⟨(p.add (i * 2)).block, (p.add (i * 2)).off + 1, none⟩) qcu).trans f2; refine hK_.out _ _ ⟨f4, f5, f6⟩ fun hS_ => ?_; clear hK_; exact ZBaseCopy0) : p := h
theorem l7Copy_any (RA : Option Addr) (rn rc : Nat) (rs : List Rl) (t : Nat) (GA : Option Addr) (gn gc : Nat) (gs : List At) (HA : Option Addr) (hn hc : Nat) (hs : List Ch) (w : World) (h0 : zap w 0 w.heap.size RA rn rc rs) (h1 : IsAtoms w 0 w.heap.size GA gn gc gs) (h2 : zgn w 0 w.heap.size HA hn hc hs) (s0 : rn ≤ 1048576) (s1 : ∀ r ∈ rs, zho r.1.2.length r.2.length r.2) (s2 : zax gn gs) (s3 : ∀ c ∈ hs, zax c.1.length c.1 ∧ zax c.2.length c.2) (s4 : hn ≤ 1000) :
    Calls Tryz.prog 144 #[.agg #[.slice RA rn rc, .int .i64 (t : Int), .slice GA gn gc, .slice HA hn hc]] w fun e w' => ∃ A c lo hi G d lo2 hi2 a H f zs, e = .returned (.agg #[.slice A rs.length c, .int .i64 (t : Int), .slice G gs.length d, .slice H zs.length f]) ∧ (zap w' lo hi A rs.length c rs ∧ w.heap.size ≤ lo ∧ hi ≤ a) ∧ (IsAtoms w' lo2 hi2 G gs.length d gs ∧ w.heap.size ≤ lo2 ∧ hi2 ≤ a) ∧ GR 25 2 ChV w a (.slice H zs.length f) zs w' ∧ zs.map (·.x) = hs ∧ (∀ x ∈ zs, a ≤ x.lo) ∧ a ≤ w'.heap.size := by
  have H0 := hid h0; have H1 := hid h1; have H2 := hid h2; have S1 := hid s1; have S2 := hid s2; have S3 := hid s3; have L0 := hid h0.1; have L1 := hid h1.1; have L2 := hid h2.1; clear h0 h1 h2 s1 s2 s3; obtain ⟨i0, hi, hz, hsz, hby⟩ := zge Tryz.infoCh; have HI := hid hi; have HZ := hid hz; have HSZ := hid hsz; have HYY := hid hby; clear hi hz hsz hby; have b5 := zbj w (.cells #[.slice RA rn rc, .int .i64 (t : Int), .slice GA gn gc, .slice HA hn hc] 119) (.cells #[.slice none 0 0, .int .i64 0, .slice none 0 0, .slice none 0 0] 119)
  have xa := (Blk.new w 119 #[.slice RA rn rc, .int .i64 (t : Int), .slice GA gn gc, .slice HA hn hc]).alloc (.cells #[.slice none 0 0, .int .i64 0, .slice none 0 0, .slice none 0 0] 119); have xr := Blk.made (b := w.heap.size + 1) (w.alloc (.cells #[.slice RA rn rc, .int .i64 (t : Int), .slice GA gn gc, .slice HA hn hc] 119)) 119 #[.slice none 0 0, .int .i64 0, .slice none 0 0, .slice none 0 0] qag; obtain ⟨w2, b4⟩ : ∃ w2, (w.alloc (.cells #[.slice RA rn rc, .int .i64 (t : Int), .slice GA gn gc, .slice HA hn hc] 119)).alloc (.cells #[.slice none 0 0, .int .i64 0, .slice none 0 0, .slice none 0 0] 119) = w2 := ⟨_, rfl⟩
  rw [b4] at b5 xa xr; have hz2 : w2.heap.size = w.heap.size + 2 := by rw [← b4]; simp
  have g2 := hid b4; clear b4; go_enter Tryz.func144, Tryz.ntmps144; go_wp2_with (rw [g2.out]); obtain ⟨V, hV⟩ : ∃ V, w2.drew = V := ⟨_, rfl⟩; have hVz : w.heap.size + 2 = V.heap.size := by rw [← hV]; exact hz2.symm
  have hVw : Below w.heap.size w V := hV ▸ b5.drew; have b3 : Blk V w.heap.size 119 #[.slice RA rn rc, .int .i64 (t : Int), .slice GA gn gc, .slice HA hn hc] := hV ▸ xa; have xrV : Blk V (w.heap.size + 1) 119 #[.slice none 0 0, .int .i64 0, .slice none 0 0, .slice none 0 0] := hV ▸ xr; have x0 : V.cell? ⟨w.heap.size, 0, none⟩ = some (.slice RA rn rc) := b3.cell 0; have x1 : V.cell? ⟨w.heap.size, 1, none⟩ = some (.int .i64 (t : Int)) := b3.cell 1; have x2 : V.cell? ⟨w.heap.size, 2, none⟩ = some (.slice GA gn gc) := b3.cell 2; have HV0 := hid hV
  clear hV b5 xa xr; refine wp_region_held_drew (S := fun W => W.cell? ⟨w.heap.size, 0, none⟩ = some (.slice RA rn rc) ∧ W.cell? ⟨w.heap.size, 1, none⟩ = some (.int .i64 (t : Int)) ∧ W.cell? ⟨w.heap.size, 2, none⟩ = some (.slice GA gn gc)) qab qdc ?_; rw [HV0.out]; intro hS_; refine tk 0 (.pointer (some ⟨w.heap.size, 0, none⟩)) hS_ ?_; refine tk 1 (.slice RA rn rc) hS_ ?_; refine tk 3 (.pointer (some ⟨w.heap.size, 1, none⟩)) hS_ ?_; refine tk 4 (.int .i64 (t : Int)) hS_ ?_; refine tk 5 (.pointer (some ⟨w.heap.size, 2, none⟩)) hS_ ?_; refine tk 6 (.slice GA gn gc) hS_ ?_; have J0 : KJ V rs gs false false false undef undef undef #[.slice none 0 0, .int .i64 0, .slice none 0 0, .slice none 0 0] V := ⟨fun e => qar, fun e => qar, fun e => qar, fun _ => rfl, fun _ => rfl, fun _ => rfl, Below.refl _ _⟩
  have bel : ∀ W, Below V.heap.size V W → Below w.heap.size w W := fun W hb => hVw.trans (hb.mono qaa); have HVS := hid hS_; clear hS_ x0 x1 x2; refine zel (I := fun (L : Array Bool) (a : Act) (W : World) => ∃ (c1 c2 fa fb fs : Bool) (x7 a3 x3 a4 : Value) (arr : Array Value), L = #[true, true, c1, true, true, true, true, c2, fb, fa, fs] ∧ a = ⟨#[.agg #[.slice RA rn rc, .int .i64 (t : Int), .slice GA gn gc, .slice HA hn hc], .pointer (some ⟨w.heap.size, 0, none⟩), .pointer (some ⟨w.heap.size + 1, 0, none⟩), x3, undef, .pointer (some ⟨w.heap.size, 0, none⟩), .slice RA rn rc, x7, .pointer (some ⟨w.heap.size, 1, none⟩), .int .i64 (t : Int), .pointer (some ⟨w.heap.size, 2, none⟩), .slice GA gn gc, a3, a4, undef, undef, undef, undef, undef, undef, undef, undef, undef, undef, undef, undef, undef, undef, undef, undef, undef, undef, undef], []⟩ ∧ (fb = true → a4 = .agg #[x7, .int .i64 (t : Int), a3, .slice none 0 0] ∧ c1 = true ∧ c2 = true) ∧ (fs = true → fb = true ∧ fa = true) ∧ arr = (if fs = true then #[x7, .int .i64 (t : Int), a3, .slice none 0 0] else #[.slice none 0 0, .int .i64 0, .slice none 0 0, .slice none 0 0]) ∧ KJ V rs gs c1 c2 fa x7 a3 x3 arr W) ?keep ?step ?fin _ _ _ _ ?lf ⟨false, false, false, false, false, undef, undef, undef, undef, _, rfl, rfl, fun e => qar, fun e => qar, rfl, J0⟩
  case lf => decide
  case keep =>
    rintro L a W ⟨c1, c2, fa, fb, fs, x7, a3, x3, a4, arr, -, -, -, -, -, J⟩; exact ⟨(J.gr.cell (p := ⟨w.heap.size, 0, none⟩) qaj).trans HVS.out.1, (J.gr.cell (p := ⟨w.heap.size, 1, none⟩) qaj).trans HVS.out.2.1, (J.gr.cell (p := ⟨w.heap.size, 2, none⟩) qaj).trans HVS.out.2.2⟩
  case step =>
    rintro L a W i o ⟨c1, c2, fa, fb, fs, x7, a3, x3, a4, arr, rfl, rfl, eb, es, rfl, J⟩ ho h0 hd K hK; have e8 : i < 11 := qbs; have g7 : i = 0 ∨ i = 1 ∨ i = 2 ∨ i = 3 ∨ i = 4 ∨ i = 5 ∨ i = 6 ∨ i = 7 ∨ i = 8 ∨ i = 9 ∨ i = 10 := qaa; have c0 : fb = false → fs = false := fun e => by cases fs with | false => rfl | true => have := (es rfl).1; rw [e] at this; cases this
    have g1 : fa = false → fs = false := fun e => by cases fs with | false => rfl | true => have := (es rfl).2; rw [e] at this; cases this
    have hbW := bel _ J.gr; have hszW := hbW.size; rcases g7 with rfl | rfl | rfl | rfl | rfl | rfl | rfl | rfl | rfl | rfl | rfl
    all_goals (injection ho with ho; subst ho)
    · simp at h0
    · simp at h0
    · have hf : c1 = false := qbf
      subst hf
      have a7 : fb = false := by
        cases fb with
        | false => rfl
        | true => have := (eb rfl).2.1; cases this
      have a6 := c0 a7; subst a7; subst a6; have J := (show KJ V rs gs _ _ _ _ _ _ #[.slice none 0 0, .int .i64 0, .slice none 0 0, .slice none 0 0] W from J); rw [if_pos qad]; go_simp; go_at_call 134; refine (zol RA rn rc rs W ((H0.out.below RuleE.stays hbW (nl _)).keep RuleE.stays (fun _ _ _ => rfl) (nl _) hszW) s0 S1.out).mono ?_; rintro e1 w9 ⟨A9, c9, rs9, rfl, h9, hm9, hb9⟩; have hJ := J.below hb9; have hat : zap w9 W.heap.size w9.heap.size A9 rs.length c9 rs := by have := h9.rules; rw [hm9] at this; exact this
      exact hK.out _ _ ⟨true, c2, fa, false, false, _, a3, x3, a4, _, rfl, rfl, fun e => qar, fun e => qar, rfl, ⟨fun _ => ⟨A9, c9, _, _, rfl, hat, J.gr.size, nl _, fun g e => .inl (J.before g e)⟩, hJ.s, hJ.a, fun e => qar, hJ.z2, hJ.z3, hJ.gr⟩⟩
    · simp at h0
    · simp at h0
    · simp at h0
    · simp at h0
    · have hf : c2 = false := qbf
      subst hf
      have a7 : fb = false := by
        cases fb with
        | false => rfl
        | true => have := (eb rfl).2.2; cases this
      have a6 := c0 a7; subst a7; subst a6; have J := (show KJ V rs gs _ _ _ _ _ _ #[.slice none 0 0, .int .i64 0, .slice none 0 0, .slice none 0 0] W from J); rw [if_pos qad]; go_simp; go_at_call 141; refine (zdd GA gn gc gs W ((H1.out.below AtomE.stays hbW (nl _)).keep AtomE.stays (fun _ _ _ => rfl) (nl _) hszW) S2.out).mono ?_; rintro e1 w9 ⟨A9, c9, rs9, rfl, h9, hm9, hb9⟩; have hJ := J.below hb9; have hat := zce h9 hm9; exact hK.out _ _ ⟨c1, true, fa, false, false, x7, _, x3, a4, _, rfl, rfl, fun e => qar, fun e => qar, rfl, ⟨hJ.r, fun _ => ⟨A9, c9, _, _, rfl, hat, J.gr.size, nl _, fun g e => .inl (J.before g e)⟩, hJ.a, hJ.z1, fun e => qar, hJ.z3, hJ.gr⟩⟩
    · have d0 := hd ⟨2, .data⟩ qag rfl
      have d1 := hd ⟨7, .data⟩ qag rfl; have hc1 : c1 = true := by simpa using d0
      have a8 : c2 = true := qdq; have hf : fb = false := qbf; have a6 := c0 hf; subst hc1; subst a8; subst hf; subst a6; obtain ⟨A9, c9, _, _, q1, -⟩ := J.r rfl; obtain ⟨G9, d9, _, _, q2, -⟩ := J.s rfl; subst q1; subst q2; clear hd h0; rw [if_pos qad]; go_simp; exact hK.out _ _ ⟨true, true, fa, true, false, _, _, x3, _, _, rfl, rfl, fun _ => ⟨rfl, rfl, rfl⟩, fun e => qar, rfl, J⟩
    · have hf : fa = false := qbf
      subst hf; have a6 := g1 rfl; subst a6; have J := (show KJ V rs gs _ _ _ _ _ _ #[.slice none 0 0, .int .i64 0, .slice none 0 0, .slice none 0 0] W from J); rw [if_pos qad]; go_simp; exact hK.out _ _ ⟨c1, c2, true, fb, false, x7, a3, _, a4, _, rfl, rfl, eb, fun e => qar, rfl, J.made⟩
    · have d0 := hd ⟨8, .data⟩ qag rfl
      have d1 := hd ⟨9, .data⟩ qag rfl; have b6 : fb = true := by simpa using d0
      have ha : fa = true := qdq; have hf : fs = false := qbf; subst b6; subst ha; subst hf; obtain ⟨hx, hc1, a8⟩ := eb rfl; subst hx; subst hc1; subst a8; obtain ⟨A9, c9, _, _, q1, -⟩ := J.r rfl; obtain ⟨G9, d9, _, _, q2, -⟩ := J.s rfl; obtain ⟨g9, q3, hg9, xo⟩ := J.a rfl; subst q1; subst q2; subst q3; clear hd h0; have J := (show KJ V rs gs true true true _ _ _ #[.slice none 0 0, .int .i64 0, .slice none 0 0, .slice none 0 0] W from J); have xo := (show Blk W g9 119 #[.slice none 0 0, .int .i64 0, .slice none 0 0, .slice none 0 0] from xo); have r0 := xo.cell 0; have r1 := xo.cell 1; have r2 := xo.cell 2; have r3 := xo.cell 3; have r4 := xo.frozen 0; have r5 := xo.frozen 1; have r6 := xo.frozen 2; have r7 := xo.frozen 3
      rw [if_pos qad]; go_simp; exact hK.out _ _ ⟨true, true, true, true, true, _, _, _, _, _, rfl, rfl, fun _ => ⟨rfl, rfl, rfl⟩, fun _ => ⟨rfl, rfl⟩, rfl, J.put _ _⟩
  case fin =>
    rintro L a W ⟨c1, c2, fa, fb, fs, x7, a3, x3, a4, arr, rfl, rfl, eb, es, rfl, J⟩ hr; have up := all_up qab rfl hr; have hl : fs = true := up 10 qam; subst hl; obtain ⟨b6, ha⟩ := es rfl; subst b6; subst ha; obtain ⟨hx, hc1, a8⟩ := eb rfl; subst hx; subst hc1; subst a8; obtain ⟨A, c, lo, hi, q1, i1, i2, i3, i4⟩ := J.r rfl; obtain ⟨G, d, lo2, hi2, q2, j1, j2, j3, j4⟩ := J.s rfl; obtain ⟨g, q3, hg, xo⟩ := J.a rfl; subst q1; subst q2; subst q3; have xo := (show Blk W g 119 #[.slice A rs.length c, .int .i64 (t : Int), .slice G gs.length d, .slice none 0 0] from xo); have C0 := hid (show CB w #[.slice RA rn rc, .int .i64 (t : Int), .slice GA gn gc, .slice HA hn hc] g W.heap.size lo hi lo2 hi2 A c rs t G d gs (.slice none 0 0) [] W from ⟨b3.below J.gr, xrV.below J.gr, xo, i1, j1, GR.start _ ⟨rfl, .inl ⟨rfl, rfl⟩⟩ (bel _ J.gr).size (bel _ J.gr), fun x hx => by simp at hx, by omega, xo.lt, ⟨i4 g rfl, j4 g rfl⟩, ⟨i3, j3, nl _⟩, by omega⟩)
    have HW := hid (bel _ J.gr); obtain ⟨a, ha⟩ : ∃ a, W.heap.size = a := ⟨_, rfl⟩; rw [ha] at C0; have y3 := C0.out.xb.cell 3; clear J up hr i1 i2 i3 i4 j1 j2 j3 j4 xo eb es hg ha HVS J0 bel; go_wp2; go_loopw [4] (fun x wr => ∃ (i : Nat) (H : Option Addr) (f : Nat) (zs : List (Ex Ch)), i ≤ hn ∧ x = .int .i64 (i : Int) ∧ CB w #[.slice RA rn rc, .int .i64 (t : Int), .slice GA gn gc, .slice HA hn hc] g a lo hi lo2 hi2 A c rs t G d gs (.slice H zs.length f) zs wr ∧ zs.map (·.x) = hs.take i) (fun x _ => hn - (intOf x).toNat)
    case atStart => exact ⟨0, none, 0, [], Nat.zero_le _, rfl, C0.out, by simp⟩
    case round =>
      clear C0 y3; obtain ⟨i, H, f, zs, hi_, rfl, hS, a9⟩ := hrel; have HS := hid hS; have HZS := hid a9; have y3 : wr.cell? ⟨w.heap.size, 3, none⟩ = some (.slice HA hn hc) := hS.xb.cell 3; have hzl : zs.length ≤ hn := by have := congrArg List.length a9; rw [List.length_map, List.length_take, L2.out] at this; omega
      by_cases hlt : i < hn
      · have g5 : (i : Int) < (hn : Int) := qaa
        obtain ⟨p, ch, hA, g0, c7, b9, hE⟩ := (H2.out.below ChE.stays hS.gg.gr (nl _)).at_ hlt; obtain ⟨A5, n5, c5, B5, m5, d5, d1, d2, d3, d4⟩ := hE.out; subst hA; have hpb : p.block < w.heap.size := c7; obtain ⟨q1, q2⟩ := S3.out ch (List.mem_of_getElem? b9); have c3 : ch.1.length = n5 := d2.1; have d7 : ch.2.length = m5 := d4.1; rw [c3] at q1; rw [d7] at q2; have Q1 := hid q1; have Q2 := hid q2; have HGC := hid b9; have D2 := hid d2; have D4 := hid d4; obtain ⟨V2, a5⟩ : ∃ V2, wr.drew = V2 := ⟨_, rfl⟩; have e7 : wr.heap.size = V2.heap.size := by rw [← a5]; rfl
        have CV := hid (show CB w #[.slice RA rn rc, .int .i64 (t : Int), .slice GA gn gc, .slice (some p) hn hc] g a lo hi lo2 hi2 A c rs t G d gs (.slice H zs.length f) zs V2 from a5 ▸ hS.below (Below.refl _ _).drew); have e0 : V2.cell? ⟨w.heap.size, 3, none⟩ = some (.slice (some p) hn hc) := CV.out.xb.cell 3; have e1 : V2.cell? (p.add (i * 2)) = some (.slice A5 n5 c5) := a5 ▸ d1; have e2 : V2.cell? ⟨(p.add (i * 2)).block, (p.add (i * 2)).off + 1, none⟩ = some (.slice B5 m5 d5) := a5 ▸ d3; have e3 : V2.cell? ⟨g, 3, none⟩ = some (.slice H zs.length f) := CV.out.xo.cell 3; have e6 : w.heap.size ≤ V2.heap.size := CV.out.gg.gr.size
        have M1 := hid (show IsAtoms V2 0 V2.heap.size A5 n5 c5 ch.1 from d2.keep AtomE.stays (fun q h1 h2 => by rw [← a5]; rfl) (nl _) e6); have M2 := hid (show IsAtoms V2 0 V2.heap.size B5 m5 d5 ch.2 from d4.keep AtomE.stays (fun q h1 h2 => by rw [← a5]; rfl) (nl _) e6); have c4 := hid a5; have n1 := CV.out.n1; have n2 := CV.out.n2; have n4 := CV.out.n4; clear hE b9 g0 c7 d2 d4 q1 q2 hS a9 a5 c3 d7; go_wp2_with fail; clear y3 d1 d3; refine wp_region_held_drew (S := fun W => W.cell? ⟨w.heap.size, 3, none⟩ = some (.slice (some p) hn hc) ∧ W.cell? (p.add (i * 2)) = some (.slice A5 n5 c5) ∧ W.cell? ⟨(p.add (i * 2)).block, (p.add (i * 2)).off + 1, none⟩ = some (.slice B5 m5 d5)) qab (by rw [c4.out]; exact ⟨e0, e1, e2⟩) ?_
        rw [c4.out]; intro hS_; refine tk 0 (.pointer (some ⟨g, 3, none⟩)) hS_ ?_; refine tk 2 (.pointer (some ⟨w.heap.size, 3, none⟩)) hS_ ?_; refine tk 3 (.slice (some p) hn hc) hS_ ?_; refine tk 4 (.int .i64 (i : Int)) hS_ ?_; refine tk 5 (.pointer (some (p.add (i * 2)))) hS_ ?_; refine tk 6 (.agg #[.slice A5 n5 c5, .slice B5 m5 d5]) hS_ ?_; refine rd2 1 7 (fun K_ hK_ => ?_) fun K_ hK_ => ?_
        · rw [if_pos qad]
          go_simp; refine hK_.out _ _ ⟨e0, e1, e2⟩ fun hS_ => ?_; clear hK_; refine rd1 7 fun K_ hK_ => ?_; go_simp; go_at_call 139; refine (zdc A5 n5 c5 ch.1 B5 m5 d5 ch.2 V2 M1.out M2.out Q1.out Q2.out).mono ?_; rintro e9 w6 ⟨A6, c6, B6, d6, rfl, i6, j6, a2⟩; have C6 := hid (CV.out.below a2); have hz6 := a2.size; have I6 := hid i6; have J6 := hid j6; have f0 : w6.cell? ⟨w.heap.size, 3, none⟩ = some (.slice (some p) hn hc) := C6.out.xb.cell 3; have f1 := (a2.cell (p := p.add (i * 2)) qat).trans e1; have f2 := (a2.cell (p := ⟨(p.add (i * 2)).block, (p.add (i * 2)).off + 1, none⟩) qcu).trans e2
          have f3 : w6.cell? ⟨g, 3, none⟩ = some (.slice H zs.length f) := C6.out.xo.cell 3; clear i6 j6 a2; exact ZBaseCopy1
        · rw [if_pos qad]
          go_simp; go_at_call 139; refine (zdc A5 n5 c5 ch.1 B5 m5 d5 ch.2 V2 M1.out M2.out Q1.out Q2.out).mono ?_; rintro e9 w6 ⟨A6, c6, B6, d6, rfl, i6, j6, a2⟩; have C6 := hid (CV.out.below a2); have hz6 := a2.size; have I6 := hid i6; have J6 := hid j6; have f0 : w6.cell? ⟨w.heap.size, 3, none⟩ = some (.slice (some p) hn hc) := C6.out.xb.cell 3; have f1 := (a2.cell (p := p.add (i * 2)) qat).trans e1; have f2 := (a2.cell (p := ⟨(p.add (i * 2)).block, (p.add (i * 2)).off + 1, none⟩) qcu).trans e2; have f3 : w6.cell? ⟨g, 3, none⟩ = some (.slice H zs.length f) := C6.out.xo.cell 3
          clear i6 j6 a2; refine hK_.out _ _ ⟨f0, f1, f2⟩ fun hS_ => ?_; clear hK_; refine rd2 1 8 (fun K_ hK_ => ?_) fun K_ hK_ => ?_
          · rw [if_pos qad]
            go_simp; exact ZBaseCopy1
          · rw [if_pos qad]
            go_simp; have hb7 := zac w6 (.cells #[.slice A6 ch.1.length c6, .slice B6 ch.2.length d6] 25); have f4 := (hb7.cell (p := ⟨w.heap.size, 3, none⟩) qaj).trans f0; have f5 := (hb7.cell (p := p.add (i * 2)) qat).trans f1; have f6 := (hb7.cell (p := ⟨(p.add (i * 2)).block, (p.add (i * 2)).off + 1, none⟩) qcu).trans f2; refine hK_.out _ _ ⟨f4, f5, f6⟩ fun hS_ => ?_; clear hK_; have g6 := (hb7.cell (p := ⟨g, 3, none⟩) (by show g < _; omega)).trans f3; refine rd1 1 fun K_ hK_ => ?_; go_simp; refine hK_.out _ _ ⟨f4, f5, f6⟩ fun hS_ => ?_; clear hK_; clear g6; exact ZBaseCopy0
      · have b7 := hid (show zs.map (·.x) = hs from by rw [a9, List.take_of_length_le (by rw [L2.out]; omega)])
        have u0 := hS.xo.cell 0; have u1 := hS.xo.cell 1; have u2 := hS.xo.cell 2; have u3 := hS.xo.cell 3; have v0 := hS.xr.cell 0; have v1 := hS.xr.cell 1; have v2 := hS.xr.cell 2; have v3 := hS.xr.cell 3; have v4 := hS.xr.frozen 0; have v5 := hS.xr.frozen 1; have v6 := hS.xr.frozen 2; have v7 := hS.xr.frozen 3; clear hS a9; go_wp2; have hS := HS.out; have n1 := hS.n1; have n2 := hS.n2; have n3 := hS.n3; have n4 := hS.n4; have n5 := hS.n5; have hk : ∀ b, b ≠ w.heap.size + 1 → ((((wr.setCell ⟨w.heap.size + 1, 0, none⟩ (.slice A rs.length c)).setCell ⟨w.heap.size + 1, 1, none⟩ (.int .i64 (t : Int))).setCell ⟨w.heap.size + 1, 2, none⟩ (.slice G gs.length d)).setCell ⟨w.heap.size + 1, 3, none⟩ (.slice H zs.length f)).heap[b]? = wr.heap[b]? := fun b hb => (hs_ _ _ _ b hb).trans ((hs_ _ _ _ b hb).trans ((hs_ _ _ _ b hb).trans (hs_ _ _ _ b hb)))
        refine bodyPost_ret (v := .agg #[.slice A rs.length c, .int .i64 (t : Int), .slice G gs.length d, .slice H zs.length f]) (by simp [results, Tryz.results144, go_sem, v0, v1, v2, v3]) rfl ⟨A, c, lo, hi, G, d, lo2, hi2, a, H, f, zs, rfl, ⟨hS.ru.keep RuleE.stays (fun q h1 h2 => cb_ (hk _ qaa)) (nl _) (nl _), by omega, n4.1⟩, ⟨hS.fa.keep AtomE.stays (fun q h1 h2 => cb_ (hk _ qaa)) (nl _) (nl _), by omega, n4.2.1⟩, (((hS.gg.store ChV.keep hS.lw (p := ⟨w.heap.size + 1, 0, none⟩) qeg (Nat.le_succ _) _).store ChV.keep hS.lw (p := ⟨w.heap.size + 1, 1, none⟩) qeg (Nat.le_succ _) _).store ChV.keep hS.lw (p := ⟨w.heap.size + 1, 2, none⟩) qeg (Nat.le_succ _) _).store ChV.keep hS.lw (p := ⟨w.heap.size + 1, 3, none⟩) qeg (Nat.le_succ _) _, b7.out, hS.lw, by rw [zab, zab, zab, zab]; exact n4.2.2⟩
end Go.Proofs.YtogonjkklioaaaaGreatDoor
