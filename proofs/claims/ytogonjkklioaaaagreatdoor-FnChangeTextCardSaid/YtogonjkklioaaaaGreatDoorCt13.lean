/-
  Texts of one claim, put together.
-/
import Derived.Test.YtogonjkklioaaaaGreatDoorCt12
import Derived.Test.YtogonjkklioaaaaGreatDoorCt4
import Derived.Test.YtogonjkklioaaaaGreatDoorCt11
import Derived.Deep.RegionLaw
import Derived.Deep.AppendLies
namespace Go.Proofs.YtogonjkklioaaaaGreatDoor
open Go.RowKit Go.Shelf
attribute [local go_sem] Oper.semAt_some run_store_func

theorem merged_stops (n : Nat) (hn : 1 ≤ n) (Bs Bo n₀ : Nat) (A B : Option Addr) (m c m' c' : Nat) (ra rb : List Rf) (w : World)
    (hs : Blk w Bs 92 #[.slice A m c, .func (.func 88) #[] #[]]) (ho : Blk w Bo 92 #[.slice B m' c', .func (.func 88) #[] #[]])
    (hn0 : n₀ ≤ w.heap.size) (hA : IsRefs w 0 n₀ A m c ra) (hB : IsRefs w 0 n₀ B m' c' rb) :
    SeqStopsK Fence.wide n Tryz.prog 120 #[.pointer (some ⟨Bs, 0, none⟩), .pointer (some ⟨Bo, 0, none⟩)] (fun x : Rf × Nat => #[.agg #[.string x.1.1, .slice x.1.2.1 x.1.2.2.1 x.1.2.2.2.1], .int .i64 ((x.2 : Nat) : Int)]) (KeepsToo n₀ Bs) (fun ys => ys = mergeR ra rb) (fun pre => pre <+: mergeR ra rb) (mergeR ra rb).length w := fun l J Jx W hW hJ _ hY h0 =>
  merged1_in n hn l Bs Bo n₀ A B m c m' c' ra rb J Jx W hJ hY ((hW.cell (p := ⟨Bs, 0, none⟩) hs.lt).trans (hs.cell 0)) ((hW.cell (p := ⟨Bs, 1, none⟩) hs.lt).trans (hs.cell 1)) ((hW.cell (p := ⟨Bo, 0, none⟩) ho.lt).trans (ho.cell 0)) (Nat.le_trans hn0 hW.size) (hA.below RefE.stays hW hn0) (hB.below RefE.stays hW hn0) h0

theorem merged_any (A B : Option Addr) (n c n' c' : Nat) (w : World) :
    Calls Tryz.prog 89 #[.agg #[.slice A n c, .func (.func 88) #[] #[]], .agg #[.slice B n' c', .func (.func 88) #[] #[]]] w fun e w' => e = .returned (.func (.func 120) #[] #[.pointer (some ⟨w.heap.size, 0, none⟩), .pointer (some ⟨w.heap.size + 1, 0, none⟩)]) ∧ w' = (w.alloc (.cells #[.slice A n c, .func (.func 88) #[] #[]] 92)).alloc (.cells #[.slice B n' c', .func (.func 88) #[] #[]] 92) := by
  go_enter Tryz.func89, Tryz.ntmps89
  go_wp2
  go_ret
  exact ⟨rfl, rfl⟩

theorem KeepsToo.b {n₀ b : Nat} {w : World} (hn : n₀ ≤ w.heap.size) (hb : b < w.heap.size) (W : World) (l : Nat) (o o' : Obj) (hl : w.heap.size ≤ l) (h : W.heap[l]? = some o) (hc : o.isCells = false) (hw : o.isWalk = false) : KeepsToo n₀ b W (W.putObj l o') :=
  ⟨belowK_b hn W l o o' hl h hc hw, World.putObj_heap_other (by omega)⟩

theorem grownBy_setAny (W : World) (p : Addr) (v : Value) : W.grownBy (W.setCell p v) (some p.block) :=
  ⟨rfl, rfl, rfl, (KeepsWalks.setCell W _ v).size, fun k _ hk => Below.heap_setCell _ _ _ k (fun e => hk (by rw [e]))⟩

theorem row_far {W : World} {base size k : Nat} {e : TypeId} {v : Value} {xs : List Value} (h : W.ownsRow base e size v k xs) {p : Addr} (hp : some p.block ≠ v.ownBlock) (u : Value) : (W.setCell p u).ownsRow base e size v k xs :=
  h.kept (grownBy_setAny W p u) (.inr hp.symm)

theorem cells_two_new (W : World) (x y : Value) (t : TypeId) : ∀ j u, [x, y][j]? = some u → (W.alloc (.cells #[x, y] t)).cell? ((⟨W.heap.size, 0, none⟩ : Addr).add j) = some u := by
  intro j u hu
  match j, hu with
  | 0, hu => simp at hu; subst hu; simp [go_sem, Addr.add]
  | 1, hu => simp at hu; subst hu; simp [go_sem, Addr.add]

/-- All of two lists. -/
def allR (l : List (Rf × Nat)) : List Rf := l.map (·.1)

theorem allR_snoc (l : List (Rf × Nat)) (x : Rf × Nat) : allR (l ++ [x]) = allR l ++ [x.1] := by unfold allR; simp

/-- A list in order, handed back. -/
def ListPost (rs : List Rf) (w : World) (e : Ending) (w' : World) : Prop := ∃ A c, e = .returned (.agg #[.slice A rs.length c, .func (.func 88) #[] #[]]) ∧ IsRefs w' 0 w'.heap.size A rs.length c rs ∧ Below w.heap.size w w' ∧ (∀ p, A = some p → w.heap.size ≤ p.block)

theorem row_low {W : World} {base size n k c : Nat} {e : TypeId} {A : Option Addr} {xs : List Value} (h : W.ownsRow base e size (.slice A n c) k xs) : ∀ p, A = some p → base ≤ p.block := by
  intro p hp
  subst hp
  rcases h.2 with ⟨hv, _⟩ | ⟨g, cap, cur, hv, hb, _⟩
  · simp at hv
  · injection hv with e1
    injection e1 with e1
    subst e1
    exact hb

theorem refsUp {w W : World} {rs : List Rf} (h : RefsIn w 0 w.heap.size rs) (hb : Below w.heap.size w W) : RefsIn W 0 w.heap.size rs :=
  h.keep (fun _ _ hq => hb.cell hq) (Nat.le_refl _) (Nat.le_refl _)

set_option maxRecDepth 100000 in
set_option maxHeartbeats 4000000 in
theorem only_any (v : Nat) (A B : Option Addr) (n c n' c' : Nat) (ra rb : List Rf) (w : World) (h : IsRefs w 0 w.heap.size A n c ra) (h' : IsRefs w 0 w.heap.size B n' c' rb) (hmax : ra.length + rb.length ≤ 1099511627776) :
    Calls Tryz.prog 55 #[.agg #[.slice A n c, .func (.func 88) #[] #[]], .agg #[.slice B n' c', .func (.func 88) #[] #[]], .int .i64 ((v : Nat) : Int)] w (ListPost (selR v (mergeR ra rb)) w) := by
  have HA := Lib.hid h; clear h
  have HB := Lib.hid h'; clear h'
  have hml := merge_len ra rb
  have hmm := Lib.hid (merge_mem ra rb)
  obtain ⟨i0, hi, hz0, hz1, hz2⟩ := info_parts Tryz.infoAt
  have HR0 := Lib.hid (show RefsIn w 0 w.heap.size (selR v (mergeR ra rb)) from fun r hr => by
    obtain ⟨x, hx, rfl⟩ := selR_mem r hr
    rcases hmm.out x hx with h1 | h1
    · exact (RefsIn.of HA.out) _ h1
    · exact (RefsIn.of HB.out) _ h1)
  clear hmm
  refine (callsIn_wide (n := 5)).1 ?_
  refine callsIn_of_wp_marks Tryz.func55 rfl trivial ?_ rfl
  simp only [Tryz.ntmps55, List.size_toArray, List.length_cons, List.length_nil, Nat.reduceAdd, Nat.reduceSub, Array.replicate_succ, Array.replicate_zero, List.push_toArray, List.append_toArray, List.nil_append, List.cons_append]
  gi_wp2_with (refine ⟨trivial, ?_⟩; gi_at_call 89; refine (callsIn_wide.2 (merged_any _ _ _ _ _ _ _)).mono ?_; rintro e w1 ⟨rfl, rfl⟩)
  obtain ⟨W0, hW0⟩ : ∃ W0, (((((((w.alloc (.cells #[.slice A n c, .func (.func 88) #[] #[]] 92)).alloc (.cells #[.slice B n' c', .func (.func 88) #[] #[]] 92)).alloc (.cells #[.int .i64 ((v : Nat) : Int)] 95)).alloc (.cells #[.slice none 0 0, Value.nilFunc] 92)).alloc (.cells #[.slice none 0 0] 23)).alloc (.cells #[.slice A n c, .func (.func 88) #[] #[]] 92)).alloc (.cells #[.slice B n' c', .func (.func 88) #[] #[]] 92)) = W0 := ⟨_, rfl⟩
  have b0 : Blk W0 (w.heap.size) 92 #[.slice A n c, .func (.func 88) #[] #[]] := by rw [← hW0]; exact (((((((Blk.made _ _ _ (by simp)).alloc _).alloc _).alloc _).alloc _).alloc _).alloc _)
  have b2 : Blk W0 (w.heap.size + 1 + 1) 95 #[.int .i64 ((v : Nat) : Int)] := by rw [← hW0]; exact (((((Blk.made _ _ _ (by simp)).alloc _).alloc _).alloc _).alloc _)
  have b3 : Blk W0 (w.heap.size + 1 + 1 + 1) 92 #[.slice none 0 0, Value.nilFunc] := by rw [← hW0]; exact ((((Blk.made _ _ _ (by simp)).alloc _).alloc _).alloc _)
  have b4 : Blk W0 (w.heap.size + 1 + 1 + 1 + 1) 23 #[.slice none 0 0] := by rw [← hW0]; exact (((Blk.made _ _ _ (by simp)).alloc _).alloc _)
  have b5 : Blk W0 (w.heap.size + 1 + 1 + 1 + 1 + 1) 92 #[.slice A n c, .func (.func 88) #[] #[]] := by rw [← hW0]; exact ((Blk.made _ _ _ (by simp)).alloc _)
  have b6 : Blk W0 (w.heap.size + 1 + 1 + 1 + 1 + 1 + 1) 92 #[.slice B n' c', .func (.func 88) #[] #[]] := by rw [← hW0]; exact (Blk.made _ _ _ (by simp))
  have hB0 : Below w.heap.size w W0 := by rw [← hW0]; exact ((((((((Below.refl _ w).alloc (Nat.le_refl _) _).alloc (by simp only [size_alloc_eq]; omega) _).alloc (by simp only [size_alloc_eq]; omega) _).alloc (by simp only [size_alloc_eq]; omega) _).alloc (by simp only [size_alloc_eq]; omega) _).alloc (by simp only [size_alloc_eq]; omega) _).alloc (by simp only [size_alloc_eq]; omega) _)
  have hsz0 : w.heap.size + 1 + 1 + 1 + 1 + 1 + 1 + 1 ≤ W0.heap.size := by rw [← hW0]; simp only [size_alloc_eq]; omega
  rw [hW0]
  clear hW0
  refine wpIn_rangeFunc_ownH rfl (by omega) (gf := 120) (lb := #[.pointer (some ⟨w.heap.size + 1 + 1 + 1 + 1 + 1, 0, none⟩), .pointer (some ⟨w.heap.size + 1 + 1 + 1 + 1 + 1 + 1, 0, none⟩)]) rfl trivial (enters_of Tryz.func120 (by kernel_rfl) rfl)
    (merged_stops (5 - 1) (by omega) (w.heap.size + 1 + 1 + 1 + 1 + 1) (w.heap.size + 1 + 1 + 1 + 1 + 1 + 1) w.heap.size A B n c n' c' ra rb W0 b5 b6 (by omega) (HA.out.below RefE.stays hB0 (Nat.le_refl _)) (HB.out.below RefE.stays hB0 (Nat.le_refl _))) KeepsToo.trans (KeepsToo.b (by omega) b5.lt) (Below.refl _ _) (fun _ => rfl)
    (fun pre W => ((∃ u, Boxed W (w.heap.size + 1 + 1 + 1 + 1) 23 u ∧ W.ownsRow w.heap.size 51 2 u (selR v pre).length (rcells (selR v pre)) ∧ True) ∧ (Blk W (w.heap.size) 92 #[.slice A n c, .func (.func 88) #[] #[]] ∧ Blk W (w.heap.size + 1 + 1) 95 #[.int .i64 ((v : Nat) : Int)] ∧ Blk W (w.heap.size + 1 + 1 + 1) 92 #[.slice none 0 0, Value.nilFunc] ∧ Blk W (w.heap.size + 1 + 1 + 1 + 1 + 1) 92 #[.slice A n c, .func (.func 88) #[] #[]])) ∧ Below w.heap.size w W)
    (fun _ _ _ => False)
    (OwnFrom.and (OwnFrom.and (Own.from (holdsRow_own w.heap.size (w.heap.size + 1 + 1 + 1 + 1) 23 51 2 (fun pre => (selR v pre).length) (fun pre => rcells (selR v pre)) (fun _ _ => True)) _) (OwnFrom.and (Own.from (Blk.own _ _ _) _) (OwnFrom.and (Own.from (Blk.own _ _ _) _) (OwnFrom.and (Own.from (Blk.own _ _ _) _) (Own.from (Blk.own _ _ _) _))))) (ownFrom_below (Nat.le_refl _) (by omega)))
    (fun _ _ _ _ _ hs _ _ => hs)
    ⟨⟨⟨_, b4, ⟨rfl, .inl ⟨rfl, rfl⟩⟩, trivial⟩, b0, b2, b3, b5⟩, hB0⟩
    (fun x a' W => ∃ Bx, w.heap.size + 1 + 1 + 1 + 1 < Bx ∧ Blk W Bx 51 #[.string x.1.1, .slice x.1.2.1 x.1.2.2.1 x.1.2.2.2.1] ∧ a' = { tmps := #[.agg #[.slice A n c, .func (.func 88) #[] #[]], .agg #[.slice B n' c', .func (.func 88) #[] #[]], .int .i64 ((v : Nat) : Int), .pointer (some ⟨w.heap.size, 0, none⟩), .pointer (some ⟨w.heap.size + 1, 0, none⟩), .pointer (some ⟨w.heap.size + 1 + 1, 0, none⟩), .pointer (some ⟨w.heap.size + 1 + 1 + 1, 0, none⟩), .pointer (some ⟨w.heap.size + 1 + 1 + 1 + 1, 0, none⟩), .pointer (some ⟨Bx, 0, none⟩), .int .i64 ((x.2 : Nat) : Int), .agg #[.slice A n c, .func (.func 88) #[] #[]], .agg #[.slice B n' c', .func (.func 88) #[] #[]], .func (.func 120) #[] #[.pointer (some ⟨w.heap.size + 1 + 1 + 1 + 1 + 1, 0, none⟩), .pointer (some ⟨w.heap.size + 1 + 1 + 1 + 1 + 1 + 1, 0, none⟩)], .agg #[.string x.1.1, .slice x.1.2.1 x.1.2.2.1 x.1.2.2.2.1], .int .i64 ((x.2 : Nat) : Int), undef, undef, undef, undef, undef, undef, undef, undef, undef, undef, undef], defers := [] })
    (fun _ a' _ X Y row hs hg hr => by obtain ⟨Bx, h1, h2, h3⟩ := hs; exact ⟨Bx, h1, Blk.own (β := Unit) Bx _ _ () X Y row h2 hg (fun r e => (hr r e).2), h3⟩)
    ?assign ?body ?done ?stop
  case assign =>
    rintro l pre x W K ⟨⟨⟨u, bU, hrow, -⟩, b0, b2, b3, b5⟩, hB⟩ hK
    gi_wp2
    have hs := hB.size
    have hs5 := b5.lt
    exact hK _ _ ((KeepsOthers.alloc _ _).from _) ⟨(Below.refl _ W).alloc hs _, Below.heap_alloc W _ _ hs5⟩ ⟨⟨⟨u, bU.alloc _, hrow.alloc _, trivial⟩, b0.alloc _, b2.alloc _, b3.alloc _, b5.alloc _⟩, hB.alloc hs _⟩ ⟨W.heap.size, bU.lt, Blk.new W _ _, rfl⟩
  case body =>
    rintro l pre x a' W hl - ⟨⟨⟨u, bU, hrow, -⟩, b0, b2, b3, b5⟩, hB⟩ ⟨Bx, hBx, bX, rfl⟩ hlt
    have hs := hB.size
    have cU := bU.cell
    have c2 : W.cell? ⟨w.heap.size + 1 + 1, 0, none⟩ = some (.int .i64 ((v : Nat) : Int)) := b2.cell 0
    have cX0 : W.cell? ⟨Bx, 0, none⟩ = some (.string x.1.1) := bX.cell 0
    have cX1 : W.cell? ⟨Bx, 1, none⟩ = some (.slice x.1.2.1 x.1.2.2.1 x.1.2.2.2.1) := bX.cell 1
    have hlen := selR_len v pre
    by_cases hx : x.2 = v
    · have hq : (((x.2 : Nat) : Int) == ((v : Nat) : Int)) = true := by simp [hx]
      gi_wp2_with (gi_at_builtin; refine wpListIn_append_own _ rfl _ _ 23 rfl w.heap.size 51 i0 _ 2 40 Tryz.underlying23 hi hz0 hz1 hz2 rfl (by decide) _ _ _ rfl (hrow.alloc _) ⟨W.heap.size, 0, none⟩ 1 1 [.string x.1.1, .slice x.1.2.1 x.1.2.2.1 x.1.2.2.2.1] rfl rfl (cells_two_new _ _ _ _) (by simp [Value.oneCell']) (by unfold maxLen; omega) (by omega) (by simp; omega) ?_; intro u' w1 hown' hgrow _; obtain ⟨g', cap', rfl⟩ := ownsRow_succ hown'; have hAp := Boxed.appended bU (by decide) hrow hs (by omega) hown' hgrow; have cO := hAp.1.cell; have fO := hAp.1.frozen)
      obtain ⟨_, hA2, hA3, hA4, hA5⟩ := hAp
      have t0 := b0.through (by decide) hrow hgrow (B := w.heap.size + 1 + 1 + 1 + 1) (by omega) (.slice (some ⟨g', 0, none⟩) ((selR v pre).length + 1) cap')
      have t2 := b2.through (by decide) hrow hgrow (B := w.heap.size + 1 + 1 + 1 + 1) (by omega) (.slice (some ⟨g', 0, none⟩) ((selR v pre).length + 1) cap')
      have t3 := b3.through (by decide) hrow hgrow (B := w.heap.size + 1 + 1 + 1 + 1) (by omega) (.slice (some ⟨g', 0, none⟩) ((selR v pre).length + 1) cap')
      have t5 := b5.through (by decide) hrow hgrow (B := w.heap.size + 1 + 1 + 1 + 1) (by omega) (.slice (some ⟨g', 0, none⟩) ((selR v pre).length + 1) cap')
      exact ⟨hA4.from _, ⟨hA5, b5.same t5⟩, ⟨⟨_, hA2, by rw [selR_yes hx, rcells_snoc, List.length_append]; exact hA3, trivial⟩, t0, t2, t3, t5⟩, hB.trans hA5⟩
    · have hq : (((x.2 : Nat) : Int) == ((v : Nat) : Int)) = false := by rw [beq_eq_false_iff_ne]; omega
      gi_wp2
      exact ⟨KeepsFrom.refl _ _, KeepsToo.refl _ _ _, ⟨⟨u, bU, by rw [selR_no hx]; exact hrow, trivial⟩, b0, b2, b3, b5⟩, hB⟩
  case done =>
    rintro D ys W hD rfl ⟨⟨⟨u, bU, hrow, -⟩, b0, b2, b3, b5⟩, hB⟩ hK
    have hs := hB.size
    obtain ⟨Au, cu, rfl, -⟩ := refs_own hrow rfl (Nat.zero_le _) (refsUp HR0.out hB) hs
    have cU := bU.cell
    have c0 : W.cell? ⟨w.heap.size, 1, none⟩ = some (.func (.func 88) #[] #[]) := b0.cell 1
    have c3 : W.cell? ⟨w.heap.size + 1 + 1 + 1, 0, none⟩ = some (.slice none 0 0) := b3.cell 0
    have c3b : W.cell? ⟨w.heap.size + 1 + 1 + 1, 1, none⟩ = some Value.nilFunc := b3.cell 1
    have f3 := b3.frozen 0
    have f3b := b3.frozen 1
    have hn3 := b3.not_row (e := 51) (by decide) hrow
    gi_wp2
    have hK2 : ((W.setCell ⟨w.heap.size + 1 + 1 + 1, 0, none⟩ (.slice Au (selR v (mergeR ra rb)).length cu)).setCell ⟨w.heap.size + 1 + 1 + 1, 1, none⟩ (.func (.func 88) #[] #[])).heap[D]? = some (.deferred (some [])) := (KeepsOthers.setCell _ _ _).same D _ ((KeepsOthers.setCell W _ _).same D _ hK rfl) rfl
    have b3w : Blk ((W.setCell ⟨w.heap.size + 1 + 1 + 1, 0, none⟩ (.slice Au (selR v (mergeR ra rb)).length cu)).setCell ⟨w.heap.size + 1 + 1 + 1, 1, none⟩ (.func (.func 88) #[] #[])) (w.heap.size + 1 + 1 + 1) 92 #[(.slice Au (selR v (mergeR ra rb)).length cu), .func (.func 88) #[] #[]] := (b3.set 0 _).set 1 _
    have hBw : Below w.heap.size w ((W.setCell ⟨w.heap.size + 1 + 1 + 1, 0, none⟩ (.slice Au (selR v (mergeR ra rb)).length cu)).setCell ⟨w.heap.size + 1 + 1 + 1, 1, none⟩ (.func (.func 88) #[] #[])) := (hB.setCell (by simp only; omega) _).setCell (by simp only; omega) _
    have hrw := row_far (row_far hrow (p := ⟨w.heap.size + 1 + 1 + 1, 0, none⟩) hn3 (.slice Au (selR v (mergeR ra rb)).length cu)) (p := ⟨w.heap.size + 1 + 1 + 1, 1, none⟩) hn3 (.func (.func 88) #[] #[])
    obtain ⟨W2, hW2⟩ : ∃ W2, ((W.setCell ⟨w.heap.size + 1 + 1 + 1, 0, none⟩ (.slice Au (selR v (mergeR ra rb)).length cu)).setCell ⟨w.heap.size + 1 + 1 + 1, 1, none⟩ (.func (.func 88) #[] #[])) = W2 := ⟨_, rfl⟩
    rw [hW2] at hK2 b3w hBw hrw ⊢
    clear hW2
    have hB3 := hBw.trans (belowK_b (w := w) (Nat.le_refl _) W2 D _ (.deferred none) (by omega) hK2 rfl rfl)
    have b3p := b3w.putObj (.deferred none) hK2 rfl
    have d0 : (W2.putObj D (.deferred none)).cell? ⟨w.heap.size + 1 + 1 + 1, 0, none⟩ = some (.slice Au (selR v (mergeR ra rb)).length cu) := b3p.cell 0
    have d1 : (W2.putObj D (.deferred none)).cell? ⟨w.heap.size + 1 + 1 + 1, 1, none⟩ = some (.func (.func 88) #[] #[]) := b3p.cell 1
    obtain ⟨A3, c3, e3, hI3⟩ := refs_own (ownsRow_putObj hrw (.deferred none) hK2 rfl) rfl (Nat.zero_le _) (refsUp HR0.out hB3) hB3.size
    injection e3 with e3 _ e4
    subst e3; subst e4
    refine ⟨by simp, .inl ⟨_, _, rfl, run_takeDeferred hK2, ?_⟩⟩
    refine ⟨.agg #[(.slice Au (selR v (mergeR ra rb)).length cu), .func (.func 88) #[] #[]], ?_, Au, cu, rfl, hI3, hB3, row_low hrw⟩
    simp [results, Tryz.f55, go_sem, d0, d1]
  case stop =>
    rintro D c pre W hD hpre hF
    exact hF.elim


end Go.Proofs.YtogonjkklioaaaaGreatDoor

namespace Go.Proofs.YtogonjkklioaaaaGreatDoor
open Go.RowKit

theorem OwnRowT.atoms {V : World} {B : Nat} {xs : List At} {v : Value} (h : OwnRowT V B xs v) : ∃ A c, v = .slice A xs.length c ∧ IsAtoms V B V.heap.size A xs.length c xs := by
  obtain ⟨n, rs, h1, h2, h3, h4⟩ := h
  have hl : xs.length = n := by rw [← h2, List.length_map, h1]
  rw [hl]
  obtain ⟨A, c, e, hI⟩ := refs_own h3 h1.symm (Nat.le_refl _) (fun r hr => ⟨(h4.1 r hr).1, (h4.1 r hr).2.1⟩) (Nat.le_refl _)
  refine ⟨A, c, e, ?_⟩
  have := hI.atoms
  rwa [h2] at this

/-- Such a row stays where no block from B on turns. -/
theorem OwnRowT.turned {V W : World} {B B' : Nat} {xs : List At} {v : Value} (h : OwnRowT V B xs v) (hk : ∀ i, B ≤ i → i < V.heap.size → W.heap[i]? = V.heap[i]?) (hs : V.heap.size ≤ W.heap.size) (hB : B' ≤ B) : OwnRowT W B' xs v := by
  obtain ⟨n, rs, h1, h2, h3, h4⟩ := h
  refine ⟨n, rs, h1, h2, ⟨h3.1, h3.2.imp id ?_⟩, h4.keep hk hB hs⟩
  rintro ⟨g, cap, cur, hv, hg, hgb, rest⟩
  exact ⟨g, cap, cur, hv, by omega, (hk g hg (Array.getElem?_eq_some_iff.1 hgb).1).trans hgb, rest⟩

theorem OwnRowT.two {V : World} {B B' x : Nat} {xs : List At} {v u u' : Value} (h : OwnRowT V B xs v) (hx : x < B) (hB : B' ≤ B) : OwnRowT ((V.setCell ⟨x, 0, none⟩ u).setCell ⟨x, 1, none⟩ u') B' xs v :=
  h.turned (fun i h1 _ => (Below.heap_setCell _ _ _ i (by simp; omega)).trans (Below.heap_setCell _ _ _ i (by simp; omega))) (by rw [size_setCell, size_setCell]; exact Nat.le_refl _) hB

theorem OwnRowT.grown {V W : World} {B b : Nat} {xs : List At} {v : Value} (h : OwnRowT V B xs v) (hg : V.grownBy W (some b)) (hb : b < B) : OwnRowT W B xs v :=
  h.turned (fun i h1 h2 => hg.block i h2 (fun e => by injection e with e; omega)) hg.size (Nat.le_refl _)

/-- One more behind such a row, which is kept in a box. -/
theorem rowT_more {V W : World} {B S H n k d cap g' : Nat} {v : Value} {rs : List Rf} {xs : List At} {nm : ByteArray} {A' : Option Addr} {ts : List Tm} {o : Obj}
    (hB : B ≤ H) (hH : H < S) (hS : S ≤ V.heap.size) (hl : rs.length = n) (hm : rs.map rAt = xs) (h3 : V.ownsRow B 51 2 v n (rcells rs)) (hv : ∀ g, v.ownBlock = some g → g < H) (ho : OwnIn V B H rs)
    (hs : nm.size ≤ maxLen) (hT : IsTerms V S V.heap.size A' k d ts)
    (hown : W.ownsRow B 51 2 (.slice (some ⟨g', 0, none⟩) (n + 1) cap) (n + 1) (rcells rs ++ [.string nm, .slice A' k d])) (hg : (V.alloc o).grownBy W v.ownBlock) (hat : v.ownBlock = some g' ∨ g' = V.heap.size + 1) (y : Value) :
    IsAtoms (W.setCell ⟨H, 1, none⟩ y) B (W.setCell ⟨H, 1, none⟩ y).heap.size (some ⟨g', 0, none⟩) (n + 1) cap (xs ++ [(nm, ts)]) := by
  have hz : V.heap.size ≤ W.heap.size := by have := hg.size; simp at this; omega
  have hset := grownBy_setAny W ⟨H, 1, none⟩ y
  have hc : ∀ q : Addr, q.block < V.heap.size → (∀ g, v.ownBlock = some g → q.block ≠ g) → q.block ≠ H → (W.setCell ⟨H, 1, none⟩ y).cell? q = V.cell? q := fun q hq hne hqH =>
    ((hset.cell_far _ (by omega) (fun e => hqH (by injection e))).trans (hg.cell_far _ (by simp; omega) (fun e => hne _ e.symm rfl))).trans ((below1 V o).cell hq)
  have ho' : OwnIn W B H rs := OwnIn.appended (ho.keep (w' := V.alloc o) (fun b _ h2 => (below1 V o).block b (by omega)) (Nat.le_refl _) (Nat.le_refl _)) (h3.alloc o) hg (Nat.le_refl _)
  have ho'' : OwnIn (W.setCell ⟨H, 1, none⟩ y) B H rs := ho'.keep (fun b _ h2 => hset.block b (by omega) (fun e => by injection e with e; simp at e; omega)) (Nat.le_refl _) (Nat.le_refl _)
  have hzz : H ≤ (W.setCell ⟨H, 1, none⟩ y).heap.size := by rw [size_setCell]; omega
  have hr : RefsIn (W.setCell ⟨H, 1, none⟩ y) B (W.setCell ⟨H, 1, none⟩ y).heap.size (rs ++ [(nm, A', k, d, ts)]) := by
    intro r hr
    rcases List.mem_append.1 hr with h1 | h1
    · exact ⟨(ho''.1 r h1).1, (ho''.1 r h1).2.1.keep (fun _ _ _ => rfl) (Nat.le_refl _) hzz⟩
    · rw [List.mem_singleton.1 h1]
      exact ⟨hs, hT.keep (fun q h2 h3' => hc q h3' (fun g e => by have := hv g e; omega) (by omega)) (by omega) (by rw [size_setCell]; exact hz)⟩
  have e : rcells rs ++ [.string nm, .slice A' k d] = rcells (rs ++ [(nm, A', k, d, ts)]) := by rw [rcells_app]; rfl
  rw [e] at hown
  have hne : some (⟨H, 1, none⟩ : Addr).block ≠ (Value.slice (some ⟨g', 0, none⟩) (n + 1) cap).ownBlock := by
    intro e2
    injection e2 with e2
    simp at e2
    rcases hat with h | h
    · have := hv _ h; omega
    · omega
  obtain ⟨A, c, he, hI⟩ := refs_own (row_far hown hne y) (by simp [hl]) (Nat.le_refl _) hr (Nat.le_refl _)
  injection he with e1 _ e2
  subst e1; subst e2
  have := hI.atoms
  rw [List.map_append, hm] at this
  exact this

theorem facts_draw5 (b : Nat) (A : Option Addr) (n c p : Nat) (w : World) (h : Rd w b A n c p) (hp : p ≤ 800000) :
    Calls Tryz.prog 67 #[.pointer (some ⟨b, 0, none⟩), .int .i64 5] w (FactsRow 5 41 b A n c p w) := facts_draw b A n c p 5 w h hp (by omega)

theorem atoms_set {w : World} {lo hi n c : Nat} {A : Option Addr} {xs : List At} (h : IsAtoms w lo hi A n c xs) {q : Addr} (hq : q.block < lo ∨ hi ≤ q.block) (hh : hi ≤ w.heap.size) (y : Value) : IsAtoms (w.setCell q y) lo hi A n c xs :=
  h.keep AtomE.stays (fun a h1 h2 => (grownBy_setAny w q y).cell_far _ (by omega) (fun e => by injection e with e; omega)) (Nat.le_refl _) (Nat.le_refl _)

theorem grown_set {w W : World} {b : Nat} {q : Addr} (h : w.grownBy W (some b)) (hx : w.heap.size ≤ q.block) (y : Value) : w.grownBy (W.setCell q y) (some b) :=
  ⟨h.os, h.tape, h.output, by rw [size_setCell]; exact h.size, fun i hi hne => (Below.heap_setCell _ _ _ i (by omega)).trans (h.block i hi hne)⟩

theorem atoms_wide {w : World} {lo hi lo' hi' n c : Nat} {A : Option Addr} {xs : List At} (h : IsAtoms w lo hi A n c xs) (h1 : lo' ≤ lo) (h2 : hi ≤ hi') : IsAtoms w lo' hi' A n c xs := h.keep AtomE.stays (fun _ _ _ => rfl) h1 h2

/-- A change was drawn; to what goes more may be appended. -/
def ChangeDraw (s : Nat) (b : Nat) (A : Option Addr) (n c p : Nat) (w : World) (e : Ending) (w' : World) : Prop :=
  ∃ (M : Nat) (A1 : Option Addr) (k1 c1 : Nat) (cs : List At) (A2 : Option Addr) (k2 c2 : Nat) (gs : List At) (p' : Nat), (e = .returned (.agg #[.slice A1 k1 c1, .slice A2 k2 c2]) ∧ k1 ≤ 5 ∧ k2 ≤ 5 ∧ p' ≤ p + s) ∧ (w.heap.size ≤ M ∧ M ≤ w'.heap.size) ∧
    IsAtoms w' w.heap.size M A1 k1 c1 cs ∧ OwnRowT w' M gs (.slice A2 k2 c2) ∧ Rd w' b A n c p' ∧ w.grownBy w' (some b)

/-- .. and its facts' texts are short. -/
def ShortAts (xs : List At) : Prop := ∀ q ∈ xs, q.1.size ≤ 16 ∧ q.2.length ≤ 3 ∧ ∀ t ∈ q.2, t.2.size ≤ 16
def ChangeDrawS (s : Nat) (b : Nat) (A : Option Addr) (n c p : Nat) (w : World) (e : Ending) (w' : World) : Prop :=
  ∃ (M : Nat) (A1 : Option Addr) (k1 c1 : Nat) (cs : List At) (A2 : Option Addr) (k2 c2 : Nat) (gs : List At) (p' : Nat), (e = .returned (.agg #[.slice A1 k1 c1, .slice A2 k2 c2]) ∧ k1 ≤ 5 ∧ k2 ≤ 5 ∧ p' ≤ p + s) ∧ (w.heap.size ≤ M ∧ M ≤ w'.heap.size) ∧
    IsAtoms w' w.heap.size M A1 k1 c1 cs ∧ OwnRowT w' M gs (.slice A2 k2 c2) ∧ Rd w' b A n c p' ∧ w.grownBy w' (some b) ∧ ShortAts cs ∧ ShortAts gs

theorem grown_two {w W : World} {b x : Nat} {u v : Value} (h : w.grownBy W (some b)) (hx : w.heap.size ≤ x) : w.grownBy ((W.setCell ⟨x, 0, none⟩ u).setCell ⟨x, 1, none⟩ v) (some b) :=
  ⟨h.os, h.tape, h.output, by rw [size_setCell, size_setCell]; exact h.size, fun i hi hne => ((Below.heap_setCell _ _ _ i (by simp; omega)).trans (Below.heap_setCell _ _ _ i (by simp; omega))).trans (h.block i hi hne)⟩

theorem atoms_grown {w W : World} {lo b n c : Nat} {A : Option Addr} {xs : List At} (h : IsAtoms w lo w.heap.size A n c xs) (hg : w.grownBy W (some b)) (hb : b < lo) : IsAtoms W lo W.heap.size A n c xs :=
  h.keep AtomE.stays (fun q h1 h2 => hg.cell_far _ h2 (fun e => by injection e with e; omega)) (Nat.le_refl _) hg.size

set_option maxRecDepth 100000 in
set_option maxHeartbeats 4000000 in
theorem change_drawS (b : Nat) (A : Option Addr) (n c p : Nat) (w : World) (h : Rd w b A n c p) (hp : p ≤ 700000) :
    Calls Tryz.prog 38 #[.pointer (some ⟨b, 0, none⟩)] w (ChangeDrawS 82 b A n c p w) := by
  have H := Lib.hid h; clear h
  have hbw : b < w.heap.size := H.out.1
  have X0 := Lib.hid (Bx.new w (.slice none 0 0) (.slice none 0 0) 25)
  go_enter Tryz.func38, Tryz.ntmps38
  go_wp2_with fail
  refine (facts_draw5 b A n c p _ (H.out.below (below1 _ _)) (by omega)).mono ?_; rintro e w1 ⟨v1, cs, p1, ⟨rfl, hk1, hp1⟩, hrow1, hris1, hsm1, hrd1, hg1⟩
  obtain ⟨L1, c1, rfl, hI1⟩ := hrow1.atoms
  have hs1 := hg1.size
  rw [size_alloc_eq] at hI1 hs1
  have X1 := Lib.hid (X0.out.row hg1 (by omega)); have I1 := Lib.hid hI1; have R1 := Lib.hid hrd1; have G1 := Lib.hid (grownTrans (grownBelow (below1 w _) (some b)) hg1); have HS1 := Lib.hid hris1; have HM1 := Lib.hid hsm1
  clear hrow1 hI1 hrd1 hg1 X0 hsm1 hris1
  go_wp2_with fail
  refine (facts_draw5 b A n c p1 w1 R1.out (by omega)).mono ?_; rintro e w2 ⟨v2, gs, p2, ⟨rfl, hk2, hp2⟩, hrow2, hris2, hsm2, hrd2, hg2⟩
  obtain ⟨L2, c2, rfl, hI2⟩ := hrow2.atoms
  have hs2 := hg2.size
  have X2 := Lib.hid (X1.out.row hg2 (by omega)); have I1' := Lib.hid (I1.out.keep (w' := w2) AtomE.stays (fun q h1 h2 => hg2.cell_far _ h2 (fun e => by injection e with e; omega)) (Nat.le_refl _) (Nat.le_refl _)); have I2 := Lib.hid hI2; have R2 := Lib.hid hrd2; have G2 := Lib.hid (grownTrans G1.out hg2); have HM := Lib.hid hsm2
  clear hrow2 hI2 hrd2 hg2 X1 I1 hsm2 hris2
  go_wp2_with fail
  refine (l3Less_row L2 gs.length c2 gs L1 cs.length c1 cs w2 I2.out.low ⟨by omega, fun q hq => by have := (HM.out q hq).2.1; omega⟩ (atoms_wide I1'.out (Nat.zero_le _) hs2) HS1.out).mono ?_; rintro e w3 ⟨v3, rfl, ho3, hb3⟩
  obtain ⟨L3, c3, rfl, -⟩ := ho3.atoms
  have hl3 := less_le gs cs
  have X3 := X2.out.later hb3
  have hs3 := hb3.size
  obtain ⟨x1, x2, x3, x4, x5⟩ := X3
  have O3 := Lib.hid ho3; have I3 := Lib.hid (I1'.out.below AtomE.stays hb3 hs2); have R3 := Lib.hid (R2.out.below hb3); have G3 := Lib.hid (grownTrans G2.out (grownBelow hb3 (some b)))
  clear ho3 hb3
  go_wp2
  refine bodyPost_ret (v := .agg #[.slice L1 cs.length c1, .slice L3 (lessL gs cs).length c3]) (by simp [results, Tryz.results38, go_sem, x2, x3]) rfl ?_
  exact ⟨w1.heap.size, _, _, _, cs, _, _, _, lessL gs cs, p2, ⟨rfl, hk1, by omega, by omega⟩, ⟨by omega, by rw [size_setCell, size_setCell]; omega⟩, atoms_wide (atoms_set (atoms_set I3.out (.inl (by simp)) (by omega) _) (.inl (by simp)) (by rw [size_setCell]; omega) _) (by omega) (Nat.le_refl _), O3.out.two (by omega) hs2, (R3.out.set (by simp; omega) _).set (by simp; omega) _, grown_two G3.out (Nat.le_refl _), HM1.out, fun q hq => HM.out q (List.mem_filter.1 hq).1⟩

theorem change_draw (b : Nat) (A : Option Addr) (n c p : Nat) (w : World) (h : Rd w b A n c p) (hp : p ≤ 700000) :
    Calls Tryz.prog 38 #[.pointer (some ⟨b, 0, none⟩)] w (ChangeDraw 82 b A n c p w) := by
  refine (change_drawS b A n c p w h hp).mono ?_
  rintro e w' ⟨M, A1, k1, c1, cs, A2, k2, c2, gs, p', h1, h2, h3, h4, h5, h6, _, _⟩
  exact ⟨M, A1, k1, c1, cs, A2, k2, c2, gs, p', h1, h2, h3, h4, h5, h6⟩

/-- A change was drawn, of whatever facts. -/
def AnyChange (s : Nat) (b : Nat) (A : Option Addr) (n c p : Nat) (w : World) (e : Ending) (w' : World) : Prop :=
  ∃ (A1 : Option Addr) (k1 c1 : Nat) (cs : List At) (A2 : Option Addr) (k2 c2 : Nat) (gs : List At) (p' : Nat), (e = .returned (.agg #[.slice A1 k1 c1, .slice A2 k2 c2]) ∧ k1 ≤ 41 ∧ k2 ≤ 41 ∧ p' ≤ p + s) ∧
    IsAtoms w' w.heap.size w'.heap.size A1 k1 c1 cs ∧ IsAtoms w' w.heap.size w'.heap.size A2 k2 c2 gs ∧ Rd w' b A n c p' ∧ w.grownBy w' (some b)

set_option maxRecDepth 100000 in
set_option maxHeartbeats 8000000 in
theorem any_change_draw (b : Nat) (A : Option Addr) (n c p : Nat) (w : World) (h : Rd w b A n c p) (hp : p ≤ 600000) :
    Calls Tryz.prog 24 #[.pointer (some ⟨b, 0, none⟩)] w (AnyChange 300 b A n c p w) := by
  have H := Lib.hid h; clear h
  have hbw : b < w.heap.size := H.out.1
  obtain ⟨i0, hi, hz, hsz, hby⟩ := info_parts Tryz.infoAt
  have HI := Lib.hid hi; have HZ := Lib.hid hz; have HSZ := Lib.hid hsz; have HYY := Lib.hid hby
  clear hi hz hsz hby
  have X0 := Lib.hid (Bx.new w (.slice none 0 0) (.slice none 0 0) 25)
  go_enter Tryz.func24, Tryz.ntmps24
  go_wp2_with fail
  refine (change_draw b A n c p _ (H.out.below (below1 _ _)) (by omega)).mono ?_; rintro e w1 ⟨M, A1, k1, c1, cs, A2, k2, c2, gs, p1, ⟨rfl, hk1, hk2, hp1⟩, ⟨hM1, hM2⟩, hI1, hO1, hrd1, hg1⟩
  have hs1 := hg1.size
  rw [size_alloc_eq] at hI1 hM1 hs1
  have hal := below1 w1 (.cells #[.slice A1 k1 c1, .slice A2 k2 c2] 25)
  have X2 := Lib.hid ((X0.out.row hg1 (by omega)).later hal)
  have Y2 := Lib.hid (Bx.new w1 (.slice A1 k1 c1) (.slice A2 k2 c2) 25)
  have I2 := Lib.hid (hI1.below AtomE.stays hal hM2)
  obtain ⟨n0, rs, hl, hm, hrow, hoin⟩ := hO1
  have O2 := Lib.hid (hrow.alloc (.cells #[.slice A1 k1 c1, .slice A2 k2 c2] 25))
  have N2 := Lib.hid (hoin.keep (w' := w1.alloc (.cells #[.slice A1 k1 c1, .slice A2 k2 c2] 25)) (fun i _ h2 => hal.block i h2) (Nat.le_refl _) (Nat.le_refl _))
  have R2 := Lib.hid (hrd1.below hal); have G2 := Lib.hid (grownTrans (grownTrans (grownBelow (below1 w _) (some b)) hg1) (grownBelow hal (some b)))
  have HV : Hid (∀ g, (Value.slice A2 k2 c2).ownBlock = some g → g < w1.heap.size) := Lib.hid (fun g hg => (hrow.lt g hg).2)
  obtain ⟨A9, c9, e9, hI9⟩ := OwnRowT.atoms (V := w1) (B := M) (xs := gs) (v := .slice A2 k2 c2) ⟨n0, rs, hl, hm, hrow, hoin⟩
  injection e9 with e91 e92 e93
  subst e91; subst e92; subst e93
  have J2 := Lib.hid (hI9.below AtomE.stays hal (Nat.le_refl _))
  clear hI1 hrd1 hg1 X0 hal hI9 hrow hoin
  go_wp2_with fail
  refine (pick_any b A n c p1 _ _ R2.out (by omega) (by omega)).mono ?_; rintro e w3 ⟨kk, ⟨rfl, hkk⟩, hr3, hg3⟩
  have hs3 := hg3.size
  rw [size_alloc_eq] at hs3
  have hx3 : w.heap.size < w1.heap.size := by omega
  have X3 := Lib.hid (X2.out.row hg3 (by omega)); have Y3 := Lib.hid (Y2.out.row hg3 (by omega)); have R3 := Lib.hid hr3; have G3 := Lib.hid (grownTrans G2.out hg3)
  have I3 := Lib.hid (I2.out.keep (w' := w3) AtomE.stays (fun q h1 h2 => hg3.cell_far _ (by simp; omega) (fun e => by injection e with e; omega)) (Nat.le_refl _) (Nat.le_refl _))
  have J3 := Lib.hid (J2.out.keep (w' := w3) AtomE.stays (fun q h1 h2 => hg3.cell_far _ (by simp; omega) (fun e => by injection e with e; omega)) (Nat.le_refl _) (Nat.le_refl _))
  have O3 := Lib.hid (O2.out.kept hg3 (ownNe O2.out (by omega)))
  have N3 := Lib.hid (N2.out.keep (w' := w3) (fun i h1 h2 => hg3.block i (by simp; omega) (fun e => by injection e with e; omega)) (Nat.le_refl _) (Nat.le_refl _))
  clear hr3 hg3 X2 Y2 I2 O2 R2 G2 J2 N2
  by_cases k0 : kk = 0
  · subst k0
    have hn0 : n0 = gs.length := by rw [← hm, List.length_map, hl]
    subst hn0
    have HR3 := Lib.hid O3.out; have R3' := Lib.hid (show Rd w3.drew b A n c (p1 + 1) from R3.out)
    obtain ⟨y1, y2, y3, y4, y5⟩ := Y3.out
    go_wp2_with fail
    go_region_law (first
      | (refine step_append_lies _ (by rfl) _ _ _ (by rfl) M 51 i0 _ 2 40 Tryz.underlying23 HI.out HZ.out HSZ.out HYY.out rfl (by omega) (.slice A2 gs.length c2) gs.length (rcells rs) (by rfl) (HR4.out.alloc _) ⟨w4.heap.size, 0, none⟩ 1 1 [.string nm, .slice A' k d] (by rfl) (by rfl) (World.news_of_block (cs := #[.string nm, .slice A' k d]) (t := 51) (fr := (0, 0)) (heap_alloc_new w4 _)) (by simp [Value.oneCell']) (by omega) (by unfold maxLen; omega) (by omega) (by simp; omega) (w4.heap.size + 1) (by simp) ?_; intro gg cap w6 hown6 hgrow hat hlt6; have Y6 := (Y4.later (below1 w4 (.cells #[.string nm, .slice A' k d] 51))).grown hgrow (fun e => (by have h1 := HV.out _ e.symm; omega)); have z3 := Y6.2.2.1; have z5 := Y6.2.2.2.2)
      | ((go_simp; go_at_call 51; refine (any_atom_draw b A n c _ _ R3'.out (by omega)).mono ?_); rintro e w4 ⟨nm, A', k, d, ts, p4, ⟨rfl, hnm, hk', hp4⟩, hl4, hs4', hown4, hr4, hg4'⟩; have hg4 := ungrown hg4'; clear hg4'; have hs4 := hg4.size; have Y4 := Y3.out.row hg4 (by omega); have yy4 := Y4.2.2.1; have cu4 := cellUp yy4; have HR4 := Lib.hid (HR3.out.kept hg4 (ownNe HR3.out (by omega)))))
    all_goals
      obtain ⟨A4, c4, e4, hT⟩ := owned_terms hown4 hl4 hs4'
      injection e4 with e4 _ e5
      subst e4; subst e5
      have hnm' : nm.size ≤ maxLen := by unfold maxLen; omega
      have hd3 : w3.drew.heap.size = w3.heap.size := rfl
      rw [hd3] at hT
      have N4 := N3.out.keep (w' := w4) (fun i h1 h2 => hg4.block i (by omega) (fun e => by injection e with e; omega)) (Nat.le_refl _) (Nat.le_refl _)
      have hv1 := HV.out
      have AT := Lib.hid (rowT_more (by omega) (by omega) hs4 hl hm HR4.out hv1 N4 hnm' hT hown6 hgrow hat (.slice (some ⟨gg, 0, none⟩) (gs.length + 1) cap))
      have hz46 : w4.heap.size ≤ w6.heap.size := by have := hgrow.size; simp at this; omega
      have hal4 := below1 w4 (.cells #[.string nm, .slice A' k d] 51)
      have hnb : ∀ g, (Value.slice A2 gs.length c2).ownBlock = some g → w.heap.size < g := fun g hg => by have := (HR3.out.lt g hg).1; omega
      have X6 := Lib.hid ((((X3.out.row hg4 (by omega)).later hal4).grown hgrow (fun e => by have := hnb _ e.symm; omega)).other (q := ⟨w1.heap.size, 1, none⟩) (by simp; omega) (.slice (some ⟨gg, 0, none⟩) (gs.length + 1) cap))
      have R6 := Lib.hid ((((hr4.below hal4).grown hgrow (fun g hg => by have := hnb g hg; omega))).set (q := ⟨w1.heap.size, 1, none⟩) (by simp; omega) (.slice (some ⟨gg, 0, none⟩) (gs.length + 1) cap))
      have G6 := Lib.hid (grown_set (grownWide (grownTrans (grownTrans G3.out hg4) (grownBelow hal4 (some b))) hgrow (fun g hg => by have := hnb g hg; omega)) (q := ⟨w1.heap.size, 1, none⟩) (by simp; omega) (.slice (some ⟨gg, 0, none⟩) (gs.length + 1) cap))
      have I4 := I3.out.keep (w' := w4) AtomE.stays (fun q h1 h2 => hg4.cell_far _ (by omega) (fun e => by injection e with e; omega)) (Nat.le_refl _) (Nat.le_refl _)
      have hlo : ∀ g, (Value.slice A2 gs.length c2).ownBlock = some g → M ≤ g := fun g hg => (HR3.out.lt g hg).1
      have I6 := Lib.hid (atoms_set (I4.keep (w' := w6) AtomE.stays (fun q h1 h2 => (hgrow.cell_far _ (by simp; omega) (fun e => by have := hlo _ e.symm; omega)).trans (hal4.cell (by omega))) (Nat.le_refl _) (Nat.le_refl _)) (q := ⟨w1.heap.size, 1, none⟩) (.inr hM2) (by omega) (.slice (some ⟨gg, 0, none⟩) (gs.length + 1) cap))
      have hsz6 : (w6.setCell ⟨w1.heap.size, 1, none⟩ (.slice (some ⟨gg, 0, none⟩) (gs.length + 1) cap)).heap.size = w6.heap.size := size_setCell _ _ _
      have Y7 := Y6.set1 (.slice (some ⟨gg, 0, none⟩) (gs.length + 1) cap)
      clear hown6 hgrow hat hown4 hr4 hg4 N4 hT hv1 hnb hlo hal4 I4 yy4 cu4 z3 z5 y2 y3 y4 y5
      obtain ⟨W7, hW7⟩ : ∃ W7, w6.setCell ⟨w1.heap.size, 1, none⟩ (.slice (some ⟨gg, 0, none⟩) (gs.length + 1) cap) = W7 := ⟨_, rfl⟩
      rw [hW7] at AT X6 R6 G6 I6 hsz6 Y7
      obtain ⟨y1, y2, y3, y4, y5⟩ := Y7
      obtain ⟨x1, x2, x3, x4, x5⟩ := X6.out
      have HW7 := Lib.hid hW7
      rw [hW7]
      clear hW7
      go_wp2
      refine bodyPost_ret (v := .agg #[.slice A1 k1 c1, .slice (some ⟨gg, 0, none⟩) (gs.length + 1) cap]) (by simp [results, Tryz.results24, go_sem, x2, x3]) rfl ?_
      exact ⟨_, _, _, cs, _, _, _, gs ++ [(nm, ts)], p4, ⟨rfl, by omega, by omega, by omega⟩, atoms_two (atoms_wide I6.out (Nat.le_refl _) (by omega)) (by omega) (by omega), atoms_two AT.out (by omega) (by omega), (R6.out.set (by simp; omega) _).set (by simp; omega) _, grown_two G6.out (Nat.le_refl _)⟩
  · by_cases k1' : kk = 1
    · subst k1'
      have R3' := Lib.hid (show Rd w3.drew b A n c (p1 + 1) from R3.out)
      go_wp2_with fail
      refine (any_facts_draw b A n c (p1 + 1) w3 R3.out (by omega)).mono ?_; rintro e w4 ⟨L, k, d, xs, p4, ⟨rfl, hk, hp4⟩, hI4, hr4, hg4⟩
      have hs4 := hg4.size
      have J4 := Lib.hid (J3.out.keep (w' := w4) AtomE.stays (fun q h1 h2 => hg4.cell_far _ (by omega) (fun e => by injection e with e; omega)) (Nat.le_refl _) (Nat.le_refl _))
      have K4 := Lib.hid hI4; have R4 := Lib.hid hr4; have G4 := Lib.hid (grownTrans G3.out hg4); have X4 := Lib.hid (X3.out.row hg4 (by omega)); have Y4 := Lib.hid (Y3.out.row hg4 (by omega))
      clear hI4 hr4 hg4
      obtain ⟨y1, y2, y3, y4, y5⟩ := Y4.out
      obtain ⟨x1, x2, x3, x4, x5⟩ := X4.out
      have hX := Lib.hid ((X4.out.other (q := ⟨w1.heap.size, 0, none⟩) (by simp; omega) (.slice L k d)))
      go_wp2
      refine bodyPost_ret (v := .agg #[.slice L k d, .slice A2 gs.length c2]) (by simp [results, Tryz.results24, go_sem, x2, x3]) rfl ?_
      refine ⟨_, _, _, xs, _, _, _, gs, p4, ⟨rfl, hk, by omega, by omega⟩, ?_, ?_, (((R4.out.set (by simp; omega) _).set (by simp; omega) _).set (by simp; omega) _), grown_two (grown_set G4.out (by simp; omega) _) (Nat.le_refl _)⟩
      · exact atoms_two (atoms_wide (atoms_set K4.out (.inl (by simp; omega)) (Nat.le_refl _) _) (Nat.le_refl _) (by rw [size_setCell]; exact Nat.le_refl _)) (by omega) (by omega)
      · exact atoms_two (atoms_wide (atoms_set J4.out (.inr (by simp)) (by omega) _) (Nat.le_refl _) (by rw [size_setCell]; omega)) (by omega) (by omega)
    · have hks : kk ≠ 0 ∧ kk ≠ 1 := ⟨k0, k1'⟩
      obtain ⟨y1, y2, y3, y4, y5⟩ := Y3.out
      obtain ⟨x1, x2, x3, x4, x5⟩ := X3.out
      go_wp2
      refine bodyPost_ret (v := .agg #[.slice A1 k1 c1, .slice A2 gs.length c2]) (by simp [results, Tryz.results24, go_sem, x2, x3]) rfl ?_
      refine ⟨_, _, _, cs, _, _, _, gs, p1 + 1, ⟨rfl, by omega, by omega, by omega⟩, atoms_two (atoms_wide I3.out (Nat.le_refl _) (by omega)) (by omega) (by omega), atoms_two (atoms_wide J3.out (Nat.le_refl _) (by omega)) (by omega) (by omega), (R3.out.set (by simp; omega) _).set (by simp; omega) _, grown_two G3.out (Nat.le_refl _)⟩

end Go.Proofs.YtogonjkklioaaaaGreatDoor
