/-
  Texts of one claim, put together.
-/
import Derived.Test.YtogonjkklioaaaaGreatDoorLg7
namespace Go.Proofs.YtogonjkklioaaaaGreatDoor
open Go.RowKit Go.Shelf
attribute [local go_sem] Oper.semAt_some run_store_func

theorem merged_stops (n : Nat) (hn : 1 ≤ n) (Bs Bo n₀ : Nat) (A B : Option Addr) (m c m' c' : Nat) (ra rb : List Rf) (w : World)
    (hs : Blk w Bs 92 #[.slice A m c, .func (.func 88) #[] #[]]) (ho : Blk w Bo 92 #[.slice B m' c', .func (.func 88) #[] #[]])
    (hn0 : n₀ ≤ w.heap.size) (hA : IsRefs w 0 n₀ A m c ra) (hB : IsRefs w 0 n₀ B m' c' rb) :
    SeqStopsK Fence.wide n Tryz.prog 120 #[.pointer (some ⟨Bs, 0, none⟩), .pointer (some ⟨Bo, 0, none⟩)] (fun x : Rf × Nat => #[.agg #[.string x.1.1, .slice x.1.2.1 x.1.2.2.1 x.1.2.2.2.1], .int .i64 ((x.2 : Nat) : Int)]) (KeepsToo n₀ Bs) (fun ys => ys = mergeR ra rb) (fun pre => pre <+: mergeR ra rb) (mergeR ra rb).length w := fun l J Jx W hW hJ _ hY h0 =>
  merged1_in n hn l Bs Bo n₀ A B m c m' c' ra rb J Jx W hJ hY ((hW.cell (p := ⟨Bs, 0, none⟩) hs.lt).trans (hs.cell 0)) ((hW.cell (p := ⟨Bs, 1, none⟩) hs.lt).trans (hs.cell 1)) ((hW.cell (p := ⟨Bo, 0, none⟩) ho.lt).trans (ho.cell 0)) (Nat.le_trans hn0 hW.size) (hA.below RefE.stays hW hn0) (hB.below RefE.stays hW hn0) h0

theorem merged_any (A B : Option Addr) (n c n' c' : Nat) (w : World) :
    Calls Tryz.prog 89 #[.agg #[.slice A n c, .func (.func 88) #[] #[]], .agg #[.slice B n' c', .func (.func 88) #[] #[]]] w fun e w' => e = .returned (.func (.func 120) #[] #[.pointer (some ⟨w.heap.size, 0, none⟩), .pointer (some ⟨w.heap.size + 1, 0, none⟩)]) ∧ w' = (w.alloc (.cells #[.slice A n c, .func (.func 88) #[] #[]] 92)).alloc (.cells #[.slice B n' c', .func (.func 88) #[] #[]] 92) := by
  go_enter Tryz.func89, Tryz.ntmps89
  go_wp2
  go_ret
  exact ⟨rfl, rfl⟩

theorem KeepsToo.b {n₀ b : Nat} {w : World} (hn : n₀ ≤ w.heap.size) (hb : b < w.heap.size) (W : World) (l : Nat) (o o' : Obj) (hl : w.heap.size ≤ l) (h : W.heap[l]? = some o) (hc : o.isCells = false) (hw : o.isWalk = false) : KeepsToo n₀ b W (W.putObj l o') :=
  ⟨belowK_b hn W l o o' hl h hc hw, World.putObj_heap_other (by omega)⟩

theorem grownBy_setAny (W : World) (p : Addr) (v : Value) : W.grownBy (W.setCell p v) (some p.block) :=
  ⟨rfl, rfl, rfl, (KeepsWalks.setCell W _ v).size, fun k _ hk => Below.heap_setCell _ _ _ k (fun e => hk (by rw [e]))⟩

theorem row_far {W : World} {base size k : Nat} {e : TypeId} {v : Value} {xs : List Value} (h : W.ownsRow base e size v k xs) {p : Addr} (hp : some p.block ≠ v.ownBlock) (u : Value) : (W.setCell p u).ownsRow base e size v k xs :=
  h.kept (grownBy_setAny W p u) (.inr hp.symm)

theorem cells_two_new (W : World) (x y : Value) (t : TypeId) : ∀ j u, [x, y][j]? = some u → (W.alloc (.cells #[x, y] t)).cell? ((⟨W.heap.size, 0, none⟩ : Addr).add j) = some u := by
  intro j u hu
  match j, hu with
  | 0, hu => simp at hu; subst hu; simp [go_sem, Addr.add]
  | 1, hu => simp at hu; subst hu; simp [go_sem, Addr.add]

/-- All of two lists. -/
def allR (l : List (Rf × Nat)) : List Rf := l.map (·.1)

theorem allR_snoc (l : List (Rf × Nat)) (x : Rf × Nat) : allR (l ++ [x]) = allR l ++ [x.1] := by unfold allR; simp

/-- A list in order, handed back. -/
def ListPost (rs : List Rf) (w : World) (e : Ending) (w' : World) : Prop := ∃ A c, e = .returned (.agg #[.slice A rs.length c, .func (.func 88) #[] #[]]) ∧ IsRefs w' 0 w'.heap.size A rs.length c rs ∧ Below w.heap.size w w' ∧ (∀ p, A = some p → w.heap.size ≤ p.block)

theorem row_low {W : World} {base size n k c : Nat} {e : TypeId} {A : Option Addr} {xs : List Value} (h : W.ownsRow base e size (.slice A n c) k xs) : ∀ p, A = some p → base ≤ p.block := by
  intro p hp
  subst hp
  rcases h.2 with ⟨hv, _⟩ | ⟨g, cap, cur, hv, hb, _⟩
  · simp at hv
  · injection hv with e1
    injection e1 with e1
    subst e1
    exact hb

theorem refsUp {w W : World} {rs : List Rf} (h : RefsIn w 0 w.heap.size rs) (hb : Below w.heap.size w W) : RefsIn W 0 w.heap.size rs :=
  h.keep (fun _ _ hq => hb.cell hq) (Nat.le_refl _) (Nat.le_refl _)

set_option maxRecDepth 100000 in
set_option maxHeartbeats 4000000 in
theorem only_any (v : Nat) (A B : Option Addr) (n c n' c' : Nat) (ra rb : List Rf) (w : World) (h : IsRefs w 0 w.heap.size A n c ra) (h' : IsRefs w 0 w.heap.size B n' c' rb) (hmax : ra.length + rb.length ≤ 1099511627776) :
    Calls Tryz.prog 55 #[.agg #[.slice A n c, .func (.func 88) #[] #[]], .agg #[.slice B n' c', .func (.func 88) #[] #[]], .int .i64 ((v : Nat) : Int)] w (ListPost (selR v (mergeR ra rb)) w) := by
  have HA := Lib.hid h; clear h
  have HB := Lib.hid h'; clear h'
  have hml := merge_len ra rb
  have hmm := Lib.hid (merge_mem ra rb)
  obtain ⟨i0, hi, hz0, hz1, hz2⟩ := info_parts Tryz.infoAt
  have HR0 := Lib.hid (show RefsIn w 0 w.heap.size (selR v (mergeR ra rb)) from fun r hr => by
    obtain ⟨x, hx, rfl⟩ := selR_mem r hr
    rcases hmm.out x hx with h1 | h1
    · exact (RefsIn.of HA.out) _ h1
    · exact (RefsIn.of HB.out) _ h1)
  clear hmm
  refine (callsIn_wide (n := 5)).1 ?_
  refine callsIn_of_wp_marks Tryz.func55 rfl trivial ?_ rfl
  simp only [Tryz.ntmps55, List.size_toArray, List.length_cons, List.length_nil, Nat.reduceAdd, Nat.reduceSub, Array.replicate_succ, Array.replicate_zero, List.push_toArray, List.append_toArray, List.nil_append, List.cons_append]
  gi_wp2_with (refine ⟨trivial, ?_⟩; gi_at_call 89; refine (callsIn_wide.2 (merged_any _ _ _ _ _ _ _)).mono ?_; rintro e w1 ⟨rfl, rfl⟩)
  obtain ⟨W0, hW0⟩ : ∃ W0, (((((((w.alloc (.cells #[.slice A n c, .func (.func 88) #[] #[]] 92)).alloc (.cells #[.slice B n' c', .func (.func 88) #[] #[]] 92)).alloc (.cells #[.int .i64 ((v : Nat) : Int)] 95)).alloc (.cells #[.slice none 0 0, Value.nilFunc] 92)).alloc (.cells #[.slice none 0 0] 23)).alloc (.cells #[.slice A n c, .func (.func 88) #[] #[]] 92)).alloc (.cells #[.slice B n' c', .func (.func 88) #[] #[]] 92)) = W0 := ⟨_, rfl⟩
  have b0 : Blk W0 (w.heap.size) 92 #[.slice A n c, .func (.func 88) #[] #[]] := by rw [← hW0]; exact (((((((Blk.made _ _ _ (by simp)).alloc _).alloc _).alloc _).alloc _).alloc _).alloc _)
  have b2 : Blk W0 (w.heap.size + 1 + 1) 95 #[.int .i64 ((v : Nat) : Int)] := by rw [← hW0]; exact (((((Blk.made _ _ _ (by simp)).alloc _).alloc _).alloc _).alloc _)
  have b3 : Blk W0 (w.heap.size + 1 + 1 + 1) 92 #[.slice none 0 0, Value.nilFunc] := by rw [← hW0]; exact ((((Blk.made _ _ _ (by simp)).alloc _).alloc _).alloc _)
  have b4 : Blk W0 (w.heap.size + 1 + 1 + 1 + 1) 23 #[.slice none 0 0] := by rw [← hW0]; exact (((Blk.made _ _ _ (by simp)).alloc _).alloc _)
  have b5 : Blk W0 (w.heap.size + 1 + 1 + 1 + 1 + 1) 92 #[.slice A n c, .func (.func 88) #[] #[]] := by rw [← hW0]; exact ((Blk.made _ _ _ (by simp)).alloc _)
  have b6 : Blk W0 (w.heap.size + 1 + 1 + 1 + 1 + 1 + 1) 92 #[.slice B n' c', .func (.func 88) #[] #[]] := by rw [← hW0]; exact (Blk.made _ _ _ (by simp))
  have hB0 : Below w.heap.size w W0 := by rw [← hW0]; exact ((((((((Below.refl _ w).alloc (Nat.le_refl _) _).alloc (by simp only [size_alloc_eq]; omega) _).alloc (by simp only [size_alloc_eq]; omega) _).alloc (by simp only [size_alloc_eq]; omega) _).alloc (by simp only [size_alloc_eq]; omega) _).alloc (by simp only [size_alloc_eq]; omega) _).alloc (by simp only [size_alloc_eq]; omega) _)
  have hsz0 : w.heap.size + 1 + 1 + 1 + 1 + 1 + 1 + 1 ≤ W0.heap.size := by rw [← hW0]; simp only [size_alloc_eq]; omega
  rw [hW0]
  clear hW0
  refine wpIn_rangeFunc_ownH rfl (by omega) (gf := 120) (lb := #[.pointer (some ⟨w.heap.size + 1 + 1 + 1 + 1 + 1, 0, none⟩), .pointer (some ⟨w.heap.size + 1 + 1 + 1 + 1 + 1 + 1, 0, none⟩)]) rfl trivial (enters_of Tryz.func120 (by kernel_rfl) rfl)
    (merged_stops (5 - 1) (by omega) (w.heap.size + 1 + 1 + 1 + 1 + 1) (w.heap.size + 1 + 1 + 1 + 1 + 1 + 1) w.heap.size A B n c n' c' ra rb W0 b5 b6 (by omega) (HA.out.below RefE.stays hB0 (Nat.le_refl _)) (HB.out.below RefE.stays hB0 (Nat.le_refl _))) KeepsToo.trans (KeepsToo.b (by omega) b5.lt) (Below.refl _ _) (fun _ => rfl)
    (fun pre W => ((∃ u, Boxed W (w.heap.size + 1 + 1 + 1 + 1) 23 u ∧ W.ownsRow w.heap.size 51 2 u (selR v pre).length (rcells (selR v pre)) ∧ True) ∧ (Blk W (w.heap.size) 92 #[.slice A n c, .func (.func 88) #[] #[]] ∧ Blk W (w.heap.size + 1 + 1) 95 #[.int .i64 ((v : Nat) : Int)] ∧ Blk W (w.heap.size + 1 + 1 + 1) 92 #[.slice none 0 0, Value.nilFunc] ∧ Blk W (w.heap.size + 1 + 1 + 1 + 1 + 1) 92 #[.slice A n c, .func (.func 88) #[] #[]])) ∧ Below w.heap.size w W)
    (fun _ _ _ => False)
    (OwnFrom.and (OwnFrom.and (Own.from (holdsRow_own w.heap.size (w.heap.size + 1 + 1 + 1 + 1) 23 51 2 (fun pre => (selR v pre).length) (fun pre => rcells (selR v pre)) (fun _ _ => True)) _) (OwnFrom.and (Own.from (Blk.own _ _ _) _) (OwnFrom.and (Own.from (Blk.own _ _ _) _) (OwnFrom.and (Own.from (Blk.own _ _ _) _) (Own.from (Blk.own _ _ _) _))))) (ownFrom_below (Nat.le_refl _) (by omega)))
    (fun _ _ _ _ _ hs _ _ => hs)
    ⟨⟨⟨_, b4, ⟨rfl, .inl ⟨rfl, rfl⟩⟩, trivial⟩, b0, b2, b3, b5⟩, hB0⟩
    (fun x a' W => ∃ Bx, w.heap.size + 1 + 1 + 1 + 1 < Bx ∧ Blk W Bx 51 #[.string x.1.1, .slice x.1.2.1 x.1.2.2.1 x.1.2.2.2.1] ∧ a' = { tmps := #[.agg #[.slice A n c, .func (.func 88) #[] #[]], .agg #[.slice B n' c', .func (.func 88) #[] #[]], .int .i64 ((v : Nat) : Int), .pointer (some ⟨w.heap.size, 0, none⟩), .pointer (some ⟨w.heap.size + 1, 0, none⟩), .pointer (some ⟨w.heap.size + 1 + 1, 0, none⟩), .pointer (some ⟨w.heap.size + 1 + 1 + 1, 0, none⟩), .pointer (some ⟨w.heap.size + 1 + 1 + 1 + 1, 0, none⟩), .pointer (some ⟨Bx, 0, none⟩), .int .i64 ((x.2 : Nat) : Int), .agg #[.slice A n c, .func (.func 88) #[] #[]], .agg #[.slice B n' c', .func (.func 88) #[] #[]], .func (.func 120) #[] #[.pointer (some ⟨w.heap.size + 1 + 1 + 1 + 1 + 1, 0, none⟩), .pointer (some ⟨w.heap.size + 1 + 1 + 1 + 1 + 1 + 1, 0, none⟩)], .agg #[.string x.1.1, .slice x.1.2.1 x.1.2.2.1 x.1.2.2.2.1], .int .i64 ((x.2 : Nat) : Int), undef, undef, undef, undef, undef, undef, undef, undef, undef, undef, undef], defers := [] })
    (fun _ a' _ X Y row hs hg hr => by obtain ⟨Bx, h1, h2, h3⟩ := hs; exact ⟨Bx, h1, Blk.own (β := Unit) Bx _ _ () X Y row h2 hg (fun r e => (hr r e).2), h3⟩)
    ?assign ?body ?done ?stop
  case assign =>
    rintro l pre x W K ⟨⟨⟨u, bU, hrow, -⟩, b0, b2, b3, b5⟩, hB⟩ hK
    gi_wp2
    have hs := hB.size
    have hs5 := b5.lt
    exact hK _ _ ((KeepsOthers.alloc _ _).from _) ⟨(Below.refl _ W).alloc hs _, Below.heap_alloc W _ _ hs5⟩ ⟨⟨⟨u, bU.alloc _, hrow.alloc _, trivial⟩, b0.alloc _, b2.alloc _, b3.alloc _, b5.alloc _⟩, hB.alloc hs _⟩ ⟨W.heap.size, bU.lt, Blk.new W _ _, rfl⟩
  case body =>
    rintro l pre x a' W hl - ⟨⟨⟨u, bU, hrow, -⟩, b0, b2, b3, b5⟩, hB⟩ ⟨Bx, hBx, bX, rfl⟩ hlt
    have hs := hB.size
    have cU := bU.cell
    have c2 : W.cell? ⟨w.heap.size + 1 + 1, 0, none⟩ = some (.int .i64 ((v : Nat) : Int)) := b2.cell 0
    have cX0 : W.cell? ⟨Bx, 0, none⟩ = some (.string x.1.1) := bX.cell 0
    have cX1 : W.cell? ⟨Bx, 1, none⟩ = some (.slice x.1.2.1 x.1.2.2.1 x.1.2.2.2.1) := bX.cell 1
    have hlen := selR_len v pre
    by_cases hx : x.2 = v
    · have hq : (((x.2 : Nat) : Int) == ((v : Nat) : Int)) = true := by simp [hx]
      gi_wp2_with (gi_at_builtin; refine wpListIn_append_own _ rfl _ _ 23 rfl w.heap.size 51 i0 _ 2 40 Tryz.underlying23 hi hz0 hz1 hz2 rfl (by decide) _ _ _ rfl (hrow.alloc _) ⟨W.heap.size, 0, none⟩ 1 1 [.string x.1.1, .slice x.1.2.1 x.1.2.2.1 x.1.2.2.2.1] rfl rfl (cells_two_new _ _ _ _) (by simp [Value.oneCell']) (by unfold maxLen; omega) (by omega) (by simp; omega) ?_; intro u' w1 hown' hgrow _; obtain ⟨g', cap', rfl⟩ := ownsRow_succ hown'; have hAp := Boxed.appended bU (by decide) hrow hs (by omega) hown' hgrow; have cO := hAp.1.cell; have fO := hAp.1.frozen)
      obtain ⟨_, hA2, hA3, hA4, hA5⟩ := hAp
      have t0 := b0.through (by decide) hrow hgrow (B := w.heap.size + 1 + 1 + 1 + 1) (by omega) (.slice (some ⟨g', 0, none⟩) ((selR v pre).length + 1) cap')
      have t2 := b2.through (by decide) hrow hgrow (B := w.heap.size + 1 + 1 + 1 + 1) (by omega) (.slice (some ⟨g', 0, none⟩) ((selR v pre).length + 1) cap')
      have t3 := b3.through (by decide) hrow hgrow (B := w.heap.size + 1 + 1 + 1 + 1) (by omega) (.slice (some ⟨g', 0, none⟩) ((selR v pre).length + 1) cap')
      have t5 := b5.through (by decide) hrow hgrow (B := w.heap.size + 1 + 1 + 1 + 1) (by omega) (.slice (some ⟨g', 0, none⟩) ((selR v pre).length + 1) cap')
      exact ⟨hA4.from _, ⟨hA5, b5.same t5⟩, ⟨⟨_, hA2, by rw [selR_yes hx, rcells_snoc, List.length_append]; exact hA3, trivial⟩, t0, t2, t3, t5⟩, hB.trans hA5⟩
    · have hq : (((x.2 : Nat) : Int) == ((v : Nat) : Int)) = false := by rw [beq_eq_false_iff_ne]; omega
      gi_wp2
      exact ⟨KeepsFrom.refl _ _, KeepsToo.refl _ _ _, ⟨⟨u, bU, by rw [selR_no hx]; exact hrow, trivial⟩, b0, b2, b3, b5⟩, hB⟩
  case done =>
    rintro D ys W hD rfl ⟨⟨⟨u, bU, hrow, -⟩, b0, b2, b3, b5⟩, hB⟩ hK
    have hs := hB.size
    obtain ⟨Au, cu, rfl, -⟩ := refs_own hrow rfl (Nat.zero_le _) (refsUp HR0.out hB) hs
    have cU := bU.cell
    have c0 : W.cell? ⟨w.heap.size, 1, none⟩ = some (.func (.func 88) #[] #[]) := b0.cell 1
    have c3 : W.cell? ⟨w.heap.size + 1 + 1 + 1, 0, none⟩ = some (.slice none 0 0) := b3.cell 0
    have c3b : W.cell? ⟨w.heap.size + 1 + 1 + 1, 1, none⟩ = some Value.nilFunc := b3.cell 1
    have f3 := b3.frozen 0
    have f3b := b3.frozen 1
    have hn3 := b3.not_row (e := 51) (by decide) hrow
    gi_wp2
    have hK2 : ((W.setCell ⟨w.heap.size + 1 + 1 + 1, 0, none⟩ (.slice Au (selR v (mergeR ra rb)).length cu)).setCell ⟨w.heap.size + 1 + 1 + 1, 1, none⟩ (.func (.func 88) #[] #[])).heap[D]? = some (.deferred (some [])) := (KeepsOthers.setCell _ _ _).same D _ ((KeepsOthers.setCell W _ _).same D _ hK rfl) rfl
    have b3w : Blk ((W.setCell ⟨w.heap.size + 1 + 1 + 1, 0, none⟩ (.slice Au (selR v (mergeR ra rb)).length cu)).setCell ⟨w.heap.size + 1 + 1 + 1, 1, none⟩ (.func (.func 88) #[] #[])) (w.heap.size + 1 + 1 + 1) 92 #[(.slice Au (selR v (mergeR ra rb)).length cu), .func (.func 88) #[] #[]] := (b3.set 0 _).set 1 _
    have hBw : Below w.heap.size w ((W.setCell ⟨w.heap.size + 1 + 1 + 1, 0, none⟩ (.slice Au (selR v (mergeR ra rb)).length cu)).setCell ⟨w.heap.size + 1 + 1 + 1, 1, none⟩ (.func (.func 88) #[] #[])) := (hB.setCell (by simp only; omega) _).setCell (by simp only; omega) _
    have hrw := row_far (row_far hrow (p := ⟨w.heap.size + 1 + 1 + 1, 0, none⟩) hn3 (.slice Au (selR v (mergeR ra rb)).length cu)) (p := ⟨w.heap.size + 1 + 1 + 1, 1, none⟩) hn3 (.func (.func 88) #[] #[])
    obtain ⟨W2, hW2⟩ : ∃ W2, ((W.setCell ⟨w.heap.size + 1 + 1 + 1, 0, none⟩ (.slice Au (selR v (mergeR ra rb)).length cu)).setCell ⟨w.heap.size + 1 + 1 + 1, 1, none⟩ (.func (.func 88) #[] #[])) = W2 := ⟨_, rfl⟩
    rw [hW2] at hK2 b3w hBw hrw ⊢
    clear hW2
    have hB3 := hBw.trans (belowK_b (w := w) (Nat.le_refl _) W2 D _ (.deferred none) (by omega) hK2 rfl rfl)
    have b3p := b3w.putObj (.deferred none) hK2 rfl
    have d0 : (W2.putObj D (.deferred none)).cell? ⟨w.heap.size + 1 + 1 + 1, 0, none⟩ = some (.slice Au (selR v (mergeR ra rb)).length cu) := b3p.cell 0
    have d1 : (W2.putObj D (.deferred none)).cell? ⟨w.heap.size + 1 + 1 + 1, 1, none⟩ = some (.func (.func 88) #[] #[]) := b3p.cell 1
    obtain ⟨A3, c3, e3, hI3⟩ := refs_own (ownsRow_putObj hrw (.deferred none) hK2 rfl) rfl (Nat.zero_le _) (refsUp HR0.out hB3) hB3.size
    injection e3 with e3 _ e4
    subst e3; subst e4
    refine ⟨by simp, .inl ⟨_, _, rfl, run_takeDeferred hK2, ?_⟩⟩
    refine ⟨.agg #[(.slice Au (selR v (mergeR ra rb)).length cu), .func (.func 88) #[] #[]], ?_, Au, cu, rfl, hI3, hB3, row_low hrw⟩
    simp [results, Tryz.f55, go_sem, d0, d1]
  case stop =>
    rintro D c pre W hD hpre hF
    exact hF.elim


end Go.Proofs.YtogonjkklioaaaaGreatDoor
