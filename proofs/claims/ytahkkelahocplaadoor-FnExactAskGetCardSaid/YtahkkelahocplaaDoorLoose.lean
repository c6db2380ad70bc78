/-
  Is a variable of a rule in no part that must be? As the program finds it.
-/
import Derived.Test.YtahkkelahocplaaDoorAtomsOf
import Derived.Test.YtahkkelahocplaaDoorBound
namespace Go.Proofs.YtahkkelahocplaaDoor
open Go.RowKit Go.Shelf Go.Maps Go.WideMaps
attribute [local go_sem] Oper.semAt_some

theorem plainElem_bool_inv {H : Type} {P : Program} {e : TypeId} (he : P.underlying e = some .bool) {v : Value} {z : DataW H × List MemPlace} (h : plainElem P e v = some z) : ∃ x, v = .bool x ∧ z = (.lit (.bool x), []) := by
  unfold plainElem at h
  rw [he] at h
  cases v <;> simp at h
  exact ⟨_, rfl, h.symm⟩

/-- Is a text one of these? -/
def memT (vs : List ByteArray) (s : ByteArray) : Bool := vs.any fun v => decide (v = s)

theorem memT_iff {vs : List ByteArray} {s : ByteArray} : memT vs s = true ↔ s ∈ vs := by
  unfold memT
  rw [List.any_eq_true]
  exact ⟨fun ⟨v, hv, e⟩ => by have := of_decide_eq_true e; rwa [← this], fun h => ⟨s, h, decide_eq_true rfl⟩⟩

/-- A look-up at elements that are true or false. -/
theorem wpListIn_lookup_bool {H : Type} {F : Fence} {nF : Nat} {P : Program} (w : World) {ops : Array Oper} {rest : List Oper} {o : Oper} {a : Act} {Q : Exit → Act → World → Prop}
    (hg : o.guard = none) (m x : Operand) (t : TypeId) (hop : o.op = Op.lookup t m x false)
    (k e : TypeId) (K : Keyed P k) (ht : P.underlying t = some (.map k e)) (he : P.underlying e = some .bool) (hz : (zeroValue e).run P w = .ok (.bool false) w) (b n : Nat) (D : DataW H)
    (hm : a.eval m = .map (some b)) (hown : w.ownsMap P k (plainElem P e) b n D) (key : Value) (kl : Lit) (hx : a.eval x = key) (hkey : keyOf P k key = some kl) (c : Bool) (hc : D.atKey kl (.lit (.bool false)) = .lit (.bool c))
    (hK : wpListIn F nF P ops Q rest (a.put o.dst (.bool c)) w) :
    wpListIn F nF P ops Q (o :: rest) a w := by
  refine wpListIn_plain hg fun K' hK' => ?_
  obtain ⟨v, ps, hrun, hv⟩ := hown.lookup K ht hz (plainElem_bool he false) hkey
  obtain ⟨x', rfl, hx'⟩ := plainElem_bool_inv he hv
  have e1 : x' = c := by
    have := congrArg Prod.fst hx'
    simp only [hc] at this
    injection this with this
    injection this with this
    exact this.symm
  subst e1
  unfold Oper.wpIn
  refine ⟨by simp [Oper.about, hop], ?_⟩
  rw [Oper.semAt_plain F _ _ (by rw [hop]; intro c hc'; cases hc')]
  simp [execOp, hop, hm, hx, hrun, Result.andThen]
  exact hK' _ _ hK

theorem bset_at (s : ByteArray) (vs : List ByteArray) : (bset vs).atKey (.string s.data.toList) (.lit (.bool false)) = .lit (.bool (memT vs s)) := by
  have hk : ∀ l : List ByteArray, ∀ y ∈ l.map (fun s : ByteArray => Lit.string s.data.toList), WideAt.IsKeyLit y := by
    intro l y hy
    obtain ⟨u, _, rfl⟩ := List.mem_map.1 hy
    trivial
  have hm : ∀ l : List ByteArray, ∀ v, memT (l ++ [v]) s = (memT l s || decide (v = s)) := by
    intro l v; unfold memT; rw [List.any_append]; simp
  suffices h : ∀ vs : List ByteArray, (bset vs.reverse).atKey (.string s.data.toList) (.lit (.bool false)) = .lit (.bool (memT vs.reverse s)) by
    have := h vs.reverse
    rwa [List.reverse_reverse] at this
  intro vs
  induction vs with
  | nil => rfl
  | cons v vs ih =>
    rw [List.reverse_cons, bset_snoc]
    by_cases hv : s = v
    · subst hv
      rw [show (bset vs.reverse).put (.string s.data.toList) (.lit (.bool true)) = (setOf (.lit (.bool true)) (vs.reverse.map fun s => .string s.data.toList)).put (.string s.data.toList) (.lit (.bool true)) from rfl, atKey_put_same (tidy_setOf _ _ (hk _)).isMap (show WideAt.IsKeyLit (.string s.data.toList) from trivial), hm]
      simp
    · have hne : (Lit.string s.data.toList) ≠ .string v.data.toList := fun e => hv (by
        injection e with e
        cases s; cases v
        simpa using e)
      rw [atKey_put_other hne, ih, hm]
      simp [Ne.symm hv]

/-- Is a variable of these rules none of these? -/
def looseB (rs : List Rl) (vs : List ByteArray) : Bool := (atsOf rs).any fun a => (varsOf a.2).any fun v => !memT vs v

theorem loose_no {w : World} {n₀ : Nat} {rs : List Rl} {vs : List ByteArray} {ys : List (Lain w n₀)} (h : ys.map lainAt = atsOf rs) (hp : ∀ x ∈ ys, ∀ v ∈ varsOf (lainAt x).2, v ∈ vs) : looseB rs vs = false := by
  unfold looseB
  rw [← h, List.any_eq_false]
  intro a ha
  obtain ⟨x, hx, rfl⟩ := List.mem_map.1 ha
  simp only [List.any_eq_true, not_exists, not_and]
  intro v hv
  rw [memT_iff.2 (hp x hx v hv)]
  simp

theorem loose_yes {w : World} {n₀ : Nat} {rs : List Rl} {vs : List ByteArray} {ys : List (Lain w n₀)} (h : ys.map lainAt <+: atsOf rs) (hp : ∃ x ∈ ys, ∃ v ∈ varsOf (lainAt x).2, v ∉ vs) : looseB rs vs = true := by
  obtain ⟨x, hx, v, hv, hn⟩ := hp
  unfold looseB
  rw [List.any_eq_true]
  exact ⟨lainAt x, h.subset (List.mem_map_of_mem hx), List.any_eq_true.2 ⟨v, hv, by cases h : memT vs v; rfl; exact absurd (memT_iff.1 h) hn⟩⟩

theorem ownsMap_below {H : Type} {P : Program} {k : TypeId} {R : Value → Option (DataW H × List MemPlace)} {w w' : World} {B b n : Nat} {D : DataW H} (h : w.ownsMap P k R b n D) (hb : Below B w w') (hB : b < B) : w'.ownsMap P k R b n D := by
  obtain ⟨es, clock, h1, F, hs, hD⟩ := h
  exact ⟨es, clock, (hb.block b hB).trans h1, F, hs, hD⟩

theorem atoms_stops (n : Nat) (hn : 1 ≤ n) (Bs n₀ : Nat) (A : Option Addr) (m c : Nat) (rs : List Rl) (w : World) (hBs : Bs < w.heap.size) (hn0 : n₀ ≤ w.heap.size) (hB : w.cell? ⟨Bs, 0, none⟩ = some (.slice A m c)) (hT : IsRules w 0 n₀ A m c rs) :
    SeqStopsK Fence.wide n Tryd.prog 126 #[.pointer (some ⟨Bs, 0, none⟩)] (fun x : Lain w n₀ => #[Value.agg #[.string x.1.1.1, .slice x.1.1.2 x.1.2.1.1 x.1.2.1.2]]) (KeepsCells n₀) (fun ys => ys.map lainAt = atsOf rs) (fun pre => pre.map lainAt <+: atsOf rs) (atsOf rs).length w := fun l J Jx W hW hJ _ hY h0 =>
  atomsS_in n hn l Bs n₀ A m c rs w J Jx W hJ hY ((hW.cell (p := ⟨Bs, 0, none⟩) hBs).trans hB) hn0 (hW.mono hn0) hT h0

theorem atomsOf_any (A : Option Addr) (m c : Nat) (w : World) :
    Calls Tryd.prog 108 #[.slice A m c] w fun e w' => e = .returned (.func (.func 126) #[] #[.pointer (some ⟨w.heap.size, 0, none⟩)]) ∧ w' = w.alloc (.cells #[.slice A m c] 123) := by
  go_enter Tryd.func108, Tryd.ntmps108
  go_wp2
  go_ret
  exact ⟨rfl, rfl⟩

set_option maxRecDepth 100000 in
set_option maxHeartbeats 8000000 in
theorem isLoose_any (nm : ByteArray) (A : Option Addr) (n c : Nat) (hd : List Tm) (B : Option Addr) (m d : Nat) (qs : List Pt) (w : World) (hs : nm.size ≤ maxLen) (h : IsTerms w 0 w.heap.size A n c hd) (h' : IsParts w 0 w.heap.size B m d qs) (h3 : ∀ q ∈ qs, q.2.2.length ≤ 3) (hmax : m ≤ 1000) :
    Calls Tryd.prog 81 #[.agg #[.string nm, .slice A n c, .slice B m d]] w (BoolPost (looseB [((nm, hd), qs)] (mvars qs)) w) := by
  have h2 := below2 w (.cells #[.string nm, .slice A n c, .slice B m d] 38) (.cells #[.bool false] 4)
  have X0 := (Blk.new w 38 #[.string nm, .slice A n c, .slice B m d]).alloc (.cells #[.bool false] 4)
  have Y0 := Blk.made (w.alloc (.cells #[.string nm, .slice A n c, .slice B m d] 38)) (b := w.heap.size + 1) 4 #[.bool false] (by simp)
  obtain ⟨W1, hW1⟩ : ∃ W1, (w.alloc (.cells #[.string nm, .slice A n c, .slice B m d] 38)).alloc (.cells #[.bool false] 4) = W1 := ⟨_, rfl⟩
  have hz1 : W1.heap.size = w.heap.size + 2 := by rw [← hW1]; simp
  have h2' := h2; have X0' := X0; have Y0' := Y0
  rw [hW1] at h2' X0' Y0'
  have HB1 := Lib.hid h2'; have X1 := Lib.hid X0'; have Y1 := Lib.hid Y0'
  have HT1 := Lib.hid (h.up h2'); have HP1 := Lib.hid (h'.up PartE.stays h2')
  clear h h' h2 X0 Y0 h2' X0' Y0'
  have x2 : W1.cell? ⟨w.heap.size, 2, none⟩ = some (.slice B m d) := X1.out.cell 2
  refine (callsIn_wide (n := 6)).1 ?_
  refine callsIn_of_wp_marks Tryd.func81 rfl trivial ?_ rfl
  simp only [Tryd.ntmps81, List.size_toArray, List.length_cons, List.length_nil, Nat.reduceAdd, Nat.reduceSub, Array.replicate_succ, Array.replicate_zero, List.push_toArray, List.append_toArray, List.nil_append, List.cons_append]
  gi_wp2_with fail
  refine ⟨trivial, (callsIn_wide.2 (boundVars_any B m d qs W1 HP1.out h3 hmax)).mono ?_⟩
  rintro e w2 ⟨b, N, rfl, hb, hmap, hb2⟩
  have hz2 := hb2.size
  have X2 := X1.out.below hb2
  have Y2 := Y1.out.below hb2
  have hB2 := belowThen HB1.out hb2
  have r0 : w2.cell? ⟨w.heap.size, 0, none⟩ = some (.string nm) := X2.cell 0
  have r1 : w2.cell? ⟨w.heap.size, 1, none⟩ = some (.slice A n c) := X2.cell 1
  have r2 : w2.cell? ⟨w.heap.size, 2, none⟩ = some (.slice B m d) := X2.cell 2
  have hX := X2.lt
  gi_wp2_with (refine ⟨trivial, ?_⟩; gi_at_call 108; refine (callsIn_wide.2 (atomsOf_any _ _ _ _)).mono ?_; rintro e w' ⟨rfl, rfl⟩)
  have hb3 := below3 w2 (.cells #[.map (some b)] 118) (.cells #[.string nm, .slice A n c, .slice B m d] 38) (.cells #[.slice (some ⟨w2.heap.size + 1, 0, none⟩) 1 1] 123)
  have Y3 := ((Y2.alloc (.cells #[.map (some b)] 118)).alloc (.cells #[.string nm, .slice A n c, .slice B m d] 38)).alloc (.cells #[.slice (some ⟨w2.heap.size + 1, 0, none⟩) 1 1] 123)
  have M3 := ((Blk.new w2 118 #[.map (some b)]).alloc (.cells #[.string nm, .slice A n c, .slice B m d] 38)).alloc (.cells #[.slice (some ⟨w2.heap.size + 1, 0, none⟩) 1 1] 123)
  have R3 := (Blk.made (w2.alloc (.cells #[.map (some b)] 118)) (b := w2.heap.size + 1) 38 #[.string nm, .slice A n c, .slice B m d] (by simp)).alloc (.cells #[.slice (some ⟨w2.heap.size + 1, 0, none⟩) 1 1] 123)
  have L3 := Blk.made ((w2.alloc (.cells #[.map (some b)] 118)).alloc (.cells #[.string nm, .slice A n c, .slice B m d] 38)) (b := w2.heap.size + 1 + 1) 123 #[.slice (some ⟨w2.heap.size + 1, 0, none⟩) 1 1] (by simp)
  have hz3 : (((w2.alloc (.cells #[.map (some b)] 118)).alloc (.cells #[.string nm, .slice A n c, .slice B m d] 38)).alloc (.cells #[.slice (some ⟨w2.heap.size + 1, 0, none⟩) 1 1] 123)).heap.size = w2.heap.size + 3 := by simp
  obtain ⟨W0, hW0⟩ : ∃ W0, ((w2.alloc (.cells #[.map (some b)] 118)).alloc (.cells #[.string nm, .slice A n c, .slice B m d] 38)).alloc (.cells #[.slice (some ⟨w2.heap.size + 1, 0, none⟩) 1 1] 123) = W0 := ⟨_, rfl⟩
  rw [hW0] at hb3 Y3 M3 R3 L3 hz3 ⊢
  clear hW0 hW1 x2 r0 r1 r2
  have hB0 := belowThen hB2 hb3
  have hB10 := belowThen hb2 hb3
  have MP := ownsMap_below hmap hb3 hmap.lt
  have hlb := hmap.lt
  have TR : IsRules W0 0 W0.heap.size (some ⟨w2.heap.size + 1, 0, none⟩) 1 1 [((nm, hd), qs)] := ⟨rfl, Nat.le_refl _, by unfold maxLen; omega, fun _ => ⟨⟨w2.heap.size + 1, 0, none⟩, rfl, Nat.zero_le _, by show w2.heap.size + 1 < W0.heap.size; omega, fun i x hx => by
    cases i with
    | succ i => simp at hx
    | zero =>
      simp only [List.getElem?_cons_zero, Option.some.injEq] at hx
      subst hx
      exact ⟨R3.cell 0, hs, ⟨A, n, c, R3.cell 1, HT1.out.up hB10⟩, ⟨B, m, d, R3.cell 2, HP1.out.up PartE.stays hB10⟩⟩⟩⟩
  have HY3 := Lib.hid Y3; have HM3 := Lib.hid M3; have HMP := Lib.hid MP; have HB0 := Lib.hid hB0
  clear Y3 M3 MP R3 X2 Y2 hmap hb3 hb2 hB10
  refine wpIn_rangeFunc_ownH rfl (by omega) (gf := 126) (lb := #[.pointer (some ⟨w2.heap.size + 1 + 1, 0, none⟩)]) rfl trivial (enters_of Tryd.func126 (by kernel_rfl) rfl)
    (atoms_stops (6 - 1) (by omega) (w2.heap.size + 1 + 1) W0.heap.size _ 1 1 _ W0 (by omega) (Nat.le_refl _) (L3.cell 0) TR) keepsC_t (keepsC_b (Nat.le_refl _)) (Below.refl _ _) (fun _ => rfl)
    (fun pre W => (∀ x ∈ pre, ∀ v ∈ varsOf (lainAt x).2, v ∈ mvars qs) ∧ Below W0.heap.size W0 W)
    (fun c pre W => ((c = .ret ∧ ∃ x ∈ pre, ∃ v ∈ varsOf (lainAt x).2, v ∉ mvars qs) ∧ Blk W (w.heap.size + 1) 4 #[.bool true]) ∧ Below w.heap.size w W)
    (OwnFrom.and (ownFrom_pure _ _) (ownFrom_below (Nat.le_refl _) (Nat.le_refl _)))
    (fun c => OwnFrom.and (OwnFrom.and (ownFrom_pure _ _) (Own.from (Blk.own _ _ _) _)) (ownFrom_below (Nat.le_refl _) (by omega)))
    ⟨by simp, Below.refl _ _⟩
    (fun x a' W => ∃ Bx, Blk W Bx 24 #[.string x.1.1.1, .slice x.1.1.2 x.1.2.1.1 x.1.2.1.2] ∧ a' = { tmps := #[.agg #[.string nm, .slice A n c, .slice B m d], .pointer (some ⟨w.heap.size, 0, none⟩), .pointer (some ⟨w.heap.size + 1, 0, none⟩), .pointer (some ⟨w2.heap.size, 0, none⟩), .pointer (some ⟨Bx, 0, none⟩), undef, .pointer (some ⟨w.heap.size, 2, none⟩), .slice B m d, .map (some b), .agg #[.string nm, .slice A n c, .slice B m d], .slice (some ⟨w2.heap.size + 1, 0, none⟩) 1 1, .func (.func 126) #[] #[.pointer (some ⟨w2.heap.size + 1 + 1, 0, none⟩)], .agg #[.string x.1.1.1, .slice x.1.1.2 x.1.2.1.1 x.1.2.1.2], undef, undef, undef, undef, undef, undef, undef], defers := [] })
    (fun x a' _ X Y row hs hg hr => by obtain ⟨Bx, e2, e3⟩ := hs; exact ⟨Bx, Blk.own Bx _ _ () X Y row e2 hg (fun r e => (hr r e).2), e3⟩)
    ?assign ?body ?done ?stop
  case assign =>
    rintro l pre x W K ⟨hp, hB⟩ hK
    have hsz := hB.size
    gi_wp2
    exact hK _ _ ((KeepsOthers.alloc _ _).from _) (KeepsCells.of (below1 W _) hsz) ⟨hp, hB.alloc hsz _⟩ ⟨W.heap.size, Blk.new W _ _, rfl⟩
  case body =>
    rintro l pre ⟨⟨⟨nm5, C⟩, ⟨n5, c5⟩, ts5⟩, hx1, hx2⟩ a' W hl ⟨r, hr⟩ ⟨hp, hB⟩ ⟨Bx, bX, rfl⟩ hlt
    have hsW := hB.size
    have c0 : W.cell? ⟨Bx, 0, none⟩ = some (.string nm5) := bX.cell 0
    have c1 : W.cell? ⟨Bx, 1, none⟩ = some (.slice C n5 c5) := bX.cell 1
    gi_wp2_with (refine ⟨trivial, ?_⟩; gi_at_call 109; refine (CallsIn.inRound l (callsIn_wide.2 (variablesOf_any nm5 C n5 c5 _))).mono ?_; rintro e w' ⟨rfl, rfl⟩)
    have bN := Blk.new W 24 #[.string nm5, .slice C n5 c5]
    have hr' : (W.alloc (.cells #[.string nm5, .slice C n5 c5] 24)).heap[l]? = some (.loop r) := (Below.heap_alloc W _ l (Array.getElem?_eq_some_iff.1 hr).1).trans hr
    have hT5 : IsTerms (W.alloc (.cells #[.string nm5, .slice C n5 c5] 24)) 0 W0.heap.size C n5 c5 ts5 := IsTerms.below hx2 (hB.alloc hsW _) (Nat.le_refl _)
    refine wpIn_rangeFunc_ownN (l₀ := l) (r₀ := r) rfl hr' (by omega) (gf := 127) (lb := #[.pointer (some ⟨W.heap.size, 0, none⟩)]) rfl trivial (enters_of Tryd.func127 (by kernel_rfl) rfl)
      ((varsS_stops (6 - 1 - 1 - 1) (by omega) W.heap.size W0.heap.size C n5 c5 ts5 _ (by simp) (by simp; omega) (bN.cell 1) hT5).inRound l) belowK_t (belowK_b (by simp; omega)) (Below.refl _ _) (fun _ => rfl)
      (fun pre' W' => (∀ v ∈ pre', v.1 ∈ mvars qs) ∧ (KeepsCells W0.heap.size W W' ∧ KeepsFrom W0.heap.size W W'))
      (fun c pre' W' => ((c = .ret ∧ ∃ v ∈ pre', v.1 ∉ mvars qs) ∧ Blk W' (w.heap.size + 1) 4 #[.bool true]) ∧ (Below w.heap.size W W' ∧ KeepsFrom W0.heap.size W W'))
      (OwnFrom.and (ownFrom_pure _ _) (OwnFrom.and (ownFrom_cells hsW (by simp; omega)) (ownFrom_keepsFrom (by simp))))
      (fun c => OwnFrom.and (OwnFrom.and (ownFrom_pure _ _) (Own.from (Blk.own _ _ _) _)) (OwnFrom.and (ownFrom_below (by omega) (by simp; omega)) (ownFrom_keepsFrom (by simp))))
      ⟨by simp, KeepsCells.of (below1 W _) hsW, (KeepsOthers.alloc _ _).from _⟩
      (fun y a'' _ => a'' = { tmps := #[.agg #[.string nm, .slice A n c, .slice B m d], .pointer (some ⟨w.heap.size, 0, none⟩), .pointer (some ⟨w.heap.size + 1, 0, none⟩), .pointer (some ⟨w2.heap.size, 0, none⟩), .pointer (some ⟨Bx, 0, none⟩), .string y.1, .pointer (some ⟨w.heap.size, 2, none⟩), .slice B m d, .map (some b), .agg #[.string nm, .slice A n c, .slice B m d], .slice (some ⟨w2.heap.size + 1, 0, none⟩) 1 1, .func (.func 126) #[] #[.pointer (some ⟨w2.heap.size + 1 + 1, 0, none⟩)], .agg #[.string nm5, .slice C n5 c5], .agg #[.string nm5, .slice C n5 c5], .func (.func 127) #[] #[.pointer (some ⟨W.heap.size, 0, none⟩)], .string y.1, undef, undef, undef, undef], defers := [] })
      (fun _ _ _ _ _ _ hs _ _ => hs)
      ?assign2 ?body2 ?done2 ?stop2
    case assign2 =>
      rintro l2 pre' y W' K hi hK
      gi_wp2
      exact hK _ _ (KeepsFrom.refl _ _) (Below.refl _ _) hi rfl
    case body2 =>
      rintro l2 pre' y a'' W' _ _ ⟨hq, hKC, hKF⟩ rfl _
      have hB' := hB.trans hKC.below
      have hs' := hB'.size
      have cM : W'.cell? ⟨w2.heap.size, 0, none⟩ = some (.map (some b)) := (HM3.out.below hB').cell 0
      have Y4 := HY3.out.below hB'
      have cR : W'.cell? ⟨w.heap.size + 1, 0, none⟩ = some (.bool false) := Y4.cell 0
      have fR := Y4.frozen 0
      have mp := ownsMap_below HMP.out hB' (by omega)
      have hyl := y.2
      cases hmem : memT (mvars qs) y.1
      · have hat := bset_at y.1 (mvars qs)
        rw [hmem] at hat
        gi_wp2_with (gi_at_lookup; go_loud (refine wpListIn_lookup_bool _ rfl _ _ 118 rfl 9 4 Tryd.lawS Tryd.underlying118 Tryd.underlying4 (Tryd.zeroValue4 _) b N _ rfl mp _ _ rfl (keyOf_string_mk Tryd.underlying9 hyl) false hat ?_))
        exact ⟨(KeepsOthers.setCell _ _ _).from _, ⟨⟨rfl, y, List.mem_append.2 (.inr (by simp)), fun hin => by rw [memT_iff.2 hin] at hmem; cases hmem⟩, Y4.set 0 (.bool true)⟩, (hKC.below.mono (by omega)).setCell (p := ⟨w.heap.size + 1, 0, none⟩) (by simp) _, hKF.trans ((KeepsOthers.setCell _ _ _).from _)⟩
      · have hat := bset_at y.1 (mvars qs)
        rw [hmem] at hat
        gi_wp2_with (gi_at_lookup; go_loud (refine wpListIn_lookup_bool _ rfl _ _ 118 rfl 9 4 Tryd.lawS Tryd.underlying118 Tryd.underlying4 (Tryd.zeroValue4 _) b N _ rfl mp _ _ rfl (keyOf_string_mk Tryd.underlying9 hyl) true hat ?_))
        exact ⟨KeepsFrom.refl _ _, Below.refl _ _, fun z hz => (List.mem_append.1 hz).elim (hq z) (fun e => by simp only [List.mem_singleton] at e; subst e; exact memT_iff.1 hmem), hKC, hKF⟩
    case done2 =>
      rintro ys' W' hys ⟨hq, hKC, hKF⟩
      gi_wp2
      exact ⟨hKF, hKC, fun x hx => (List.mem_append.1 hx).elim (hp x) (fun e v hv => by
        simp only [List.mem_singleton] at e
        subst e
        change v ∈ varsOf ts5 at hv
        rw [← hys] at hv
        obtain ⟨z, hz, rfl⟩ := List.mem_map.1 hv
        exact hq z hz), hB.trans hKC.below⟩
    case stop2 =>
      rintro c pre' W' hpre ⟨⟨⟨rfl, v, hv, hn⟩, Y5⟩, hBW, hKF⟩
      gi_wp2
      exact ⟨hKF, ⟨⟨rfl, _, List.mem_append.2 (.inr (List.mem_singleton.2 rfl)), v.1, hpre.subset (List.mem_map_of_mem hv), hn⟩, Y5⟩, (HB0.out.trans (hB.mono (by omega))).trans hBW⟩
  case done =>
    rintro D ys W hD hys ⟨hp, hB⟩ hK
    have Y4 := HY3.out.below hB
    have cR : W.cell? ⟨w.heap.size + 1, 0, none⟩ = some (.bool false) := Y4.cell 0
    have fR := Y4.frozen 0
    have hsz := hB.size
    gi_wp2
    have hK' := (KeepsOthers.setCell W ⟨w.heap.size + 1, 0, none⟩ (.bool false)).same D _ hK rfl
    refine ⟨by simp, .inl ⟨_, _, rfl, run_takeDeferred hK', ?_⟩⟩
    have hc5 := cell_kept (show (W.setCell ⟨w.heap.size + 1, 0, none⟩ (.bool false)).cell? ⟨w.heap.size + 1, 0, none⟩ = some (.bool false) from (Y4.set 0 (.bool false)).cell 0) (grownBy_putObj' _ D (.deferred none)) (fun r e => by cases e; exact ⟨_, hK', rfl⟩)
    refine ⟨.bool false, ?_, by rw [loose_no hys hp], ((HB0.out.trans (hB.mono (by omega))).setCell (p := ⟨w.heap.size + 1, 0, none⟩) (by simp) _).trans (belowK_b (w := w) (Nat.le_refl _) _ D _ _ (by omega) hK' rfl rfl)⟩
    simp [results, Tryd.f81, go_sem, hc5]
  case stop =>
    rintro D c pre W hD hpre ⟨⟨⟨rfl, hp⟩, Y4⟩, hB⟩ hK
    gi_wp2
    refine ⟨by simp, .inl ⟨_, _, rfl, run_takeDeferred hK, ?_⟩⟩
    have hc5 := cell_kept (show W.cell? ⟨w.heap.size + 1, 0, none⟩ = some (.bool true) from Y4.cell 0) (grownBy_putObj' _ D (.deferred none)) (fun r e => by cases e; exact ⟨_, hK, rfl⟩)
    refine ⟨.bool true, ?_, by rw [loose_yes hpre hp], hB.trans (belowK_b (w := w) (Nat.le_refl _) W D _ _ (by omega) hK rfl rfl)⟩
    simp [results, Tryd.f81, go_sem, hc5]

end Go.Proofs.YtahkkelahocplaaDoor
