/-
  Texts of one claim, put together.
-/
import Derived.Test.YtcigljngiemdeaaGreatAo0
import Derived.Test.YtcigljngiemdeaaGreatOwn
import Derived.Deep.AppendLies
import Derived.Deep.RegionLaw
import Derived.Test.YtcigljngiemdeaaGreatAo1
import Derived.Laws.OwnMore
import Derived.Laws.AppendOwn
set_option maxRecDepth 100000
set_option maxHeartbeats 8000000
namespace Go.Proofs.YtcigljngiemdeaaGreat
open Go.RowKit
def tcs (ts : List Tm) : List Value := ts.flatMap fun t => [.bool t.1, .string t.2]
theorem tcs_len : ∀ (ts : List Tm), (tcs ts).length = ts.length * 2
  | [] => rfl
  | t :: l => by
    have e : tcs (t :: l) = .bool t.1 :: .string t.2 :: tcs l := rfl; rw [e, List.length_cons, List.length_cons, tcs_len l, List.length_cons]; omega
theorem tcs_at : ∀ (ts : List Tm) (i : Nat) (t : Tm), ts[i]? = some t → (tcs ts)[i * 2]? = some (.bool t.1) ∧ (tcs ts)[i * 2 + 1]? = some (.string t.2)
  | [], i, t, h => by simp at h
  | x :: r, 0, t, h => by simp at h; subst h; exact ⟨rfl, rfl⟩
  | x :: r, i + 1, t, h => by
    have ih := tcs_at r i t qbd; have e : tcs (x :: r) = .bool x.1 :: .string x.2 :: tcs r := rfl; rw [e, show (i + 1) * 2 = i * 2 + 1 + 1 by omega]; exact ⟨by simpa using ih.1, by simpa using ih.2⟩
theorem tcs_one : ∀ (ts : List Tm), ∀ u ∈ tcs ts, u.oneCell' = true := by
  intro ts u hu; unfold tcs at hu; obtain ⟨t, _, ht⟩ := List.mem_flatMap.1 hu; simp at ht; rcases ht with rfl | rfl <;> rfl
theorem tcs_cells {w : World} {lo hi n c : Nat} {p : Addr} {ts : List Tm} (h : IsTerms w lo hi (some p) n c ts) (h0 : 0 < n) : ∀ j u, (tcs ts)[j]? = some u → w.cell? (p.add j) = some u := by
  obtain ⟨p', hp, _, _, hc⟩ := h.2.2.2 h0; injection hp with hp; subst hp; intro j u hj; have hlen := tcs_len ts
  have hjl : j < ts.length * 2 := by
    have := (List.getElem?_eq_some_iff.1 hj).1; omega
  have hi2 : j / 2 < ts.length := qaa; have ht : ts[j / 2]? = some ts[j / 2] := List.getElem?_eq_getElem hi2; obtain ⟨c1, c2, _⟩ := hc _ _ ht; obtain ⟨d1, d2⟩ := tcs_at ts _ _ ht; by_cases he : j % 2 = 0
  · have : j / 2 * 2 = j := qaa
    rw [this] at c1 d1; rw [c1]; rw [hj] at d1; exact d1.symm
  · have : j / 2 * 2 + 1 = j := qaa
    rw [this] at c2 d2; rw [c2]; rw [hj] at d2; exact d2.symm
theorem terms_sizes {w : World} {lo hi n c : Nat} {A : Option Addr} {ts : List Tm} (h : IsTerms w lo hi A n c ts) : ∀ t ∈ ts, t.2.size ≤ maxLen := by
  intro t ht; obtain ⟨i, hi⟩ := List.getElem?_of_mem ht; have hl := (List.getElem?_eq_some_iff.1 hi).1; obtain ⟨p, _, _, _, hc⟩ := h.2.2.2 (by have := h.1; omega); exact (hc i t hi).2.2
theorem own_terms {w : World} {base lo g n cap : Nat} {ts : List Tm} (h : w.ownsRow base 59 2 (.slice (some ⟨g, 0, none⟩) n cap) n (tcs ts)) (hn : ts.length = n) (hs : ∀ t ∈ ts, t.2.size ≤ maxLen) (hlo : lo ≤ base) :
    IsTerms w lo w.heap.size (some ⟨g, 0, none⟩) n cap ts ∧ RowAt w lo w.heap.size 59 (some ⟨g, 0, none⟩) (n * 2) := by
  subst hn; rcases h.2 with ⟨hv, _⟩ | ⟨g', cap', cur, hv, hbg, hgb, hle, hcap, hsz, htk⟩
  · simp at hv
  · injection hv with e1 _ e3
    injection e1 with e1; injection e1 with e1; subst e1; subst e3; have hlt := (Array.getElem?_eq_some_iff.1 hgb).1
    have hcell : ∀ j u, (tcs ts)[j]? = some u → w.cell? ⟨g, j, none⟩ = some u := by
      intro j u hu; have hj := (List.getElem?_eq_some_iff.1 hu).1; rw [tcs_len] at hj; rw [← htk, List.getElem?_take, if_pos qaa] at hu; simp [World.cell?, hgb]; simpa using hu
    have a0 : ∀ j, (⟨g, 0, none⟩ : Addr).add j = ⟨g, j, none⟩ := fun j => by unfold Addr.add; split <;> simp_all
    refine ⟨⟨rfl, hle, hcap, fun _ => ⟨_, rfl, by show lo ≤ g; omega, hlt, fun i t ht => ?_⟩⟩, ⟨g, cap * 2, fun i => cur[i]?.getD undef, rfl, by omega, hlt, ⟨cur, hgb, hsz, fun i hi => by simp [hsz ▸ hi]⟩, Nat.mul_le_mul_right _ hle⟩⟩; obtain ⟨c1, c2⟩ := tcs_at ts i t ht; rw [a0, a0]; exact ⟨hcell _ _ c1, hcell _ _ c2, hs t (List.mem_of_getElem? ht)⟩
def CopyAPost (nm : ByteArray) (n : Nat) (ts : List Tm) (w : World) (e : Ending) (w' : World) : Prop :=
  ∃ A' d, e = .returned (.agg #[.string nm, .slice A' n d]) ∧ IsTerms w' w.heap.size w'.heap.size A' n d ts ∧ (0 < n → RowAt w' w.heap.size w'.heap.size 59 A' (n * 2)) ∧ Below w.heap.size w w'
theorem undrewG {a b : World} {row : Option Nat} (h : a.drew.grownBy b row) : a.grownBy b row := ⟨h.os, h.tape, h.output, h.size, h.block⟩
theorem set2_far {w : World} {g i j : Nat} {u v : Value} {b : Nat} (hb : b ≠ g) : ((w.setCell ⟨g, i, none⟩ u).setCell ⟨g, j, none⟩ v).heap[b]? = w.heap[b]? :=
  (hs_ _ _ _ b hb).trans (hs_ _ _ _ b hb)
theorem l3AtomCopy_any (nm : ByteArray) (A : Option Addr) (n c : Nat) (ts : List Tm) (w : World) (h : IsTerms w 0 w.heap.size A n c ts) (hn : n ≤ 1048576) :
    Calls Tryz.prog 181 #[.agg #[.string nm, .slice A n c]] w (CopyAPost nm n ts w) := by
  have hs := terms_sizes h; have H := hid h; clear h; obtain ⟨i0, hi, hz, hsz, hby⟩ := info_parts Tryz.infoTerm; have HI := hid hi; have HZ := hid hz; have HSZ := hid hsz; have HYY := hid hby; have HS := hid hs; clear hi hz hsz hby hs; by_cases h0 : 0 < n
  · obtain ⟨p, hp, _⟩ := H.out.2.2.2 h0
    subst hp; have HL := hid H.out.1; have HW := below2 w (.cells #[.string nm, .slice (some p) n c] 49) (.cells #[.string ⟨#[]⟩, .slice none 0 0] 49); have B0 := (Blk.made w 49 #[.string nm, .slice (some p) n c] rfl).alloc (.cells #[.string ⟨#[]⟩, .slice none 0 0] 49); have R0 := Blk.made (b := w.heap.size + 1) (w.alloc (.cells #[.string nm, .slice (some p) n c] 49)) 49 #[.string ⟨#[]⟩, .slice none 0 0] qad
    generalize hW : ((w.alloc (.cells #[.string nm, .slice (some p) n c] 49)).alloc (.cells #[.string ⟨#[]⟩, .slice none 0 0] 49)) = W1 at HW B0 R0; have hsz : W1.heap.size = w.heap.size + 2 := by rw [← hW]; simp
    have hown : (W1.alloc (.cells #[] 59)).drew.ownsRow (w.heap.size + 2) 59 2 (.slice (some ⟨w.heap.size + 2, 0, none⟩) 0 0) 0 (tcs []) := by
      refine ⟨rfl, .inr ⟨w.heap.size + 2, 0, #[], rfl, nl _, ?_, nl _, by unfold maxLen; omega, rfl, rfl⟩⟩; rw [← hsz]; exact heap_alloc_new W1 _
    have hcells := tcs_cells (((H.out.up HW).below (below1 W1 (.cells #[] 59)).drew (nl _))) h0; have HO := hid hown; have HC := hid hcells; have HB := hid B0; have HR := hid R0; have HWW := hid HW; have x1 : W1.cell? ⟨w.heap.size, 0, none⟩ = some (.string nm) := B0.cell 0; have x2 : W1.cell? ⟨w.heap.size, 1, none⟩ = some (.slice (some p) n c) := B0.cell 1; clear hown hcells HW B0 R0; go_enter Tryz.func181, Tryz.ntmps181; go_wp2_with fail; go_region_law (refine step_append_lies _ qab _ _ _ qab (w.heap.size + 2) 59 i0 _ 2 24 Tryz.underlying47 HI.out HZ.out HSZ.out HYY.out rfl qaa (.slice (some ⟨w.heap.size + 2, 0, none⟩) 0 0) 0 (tcs []) qab HO.out p n c (tcs ts) qab (by rw [tcs_len, HL.out]) HC.out (tcs_one ts) h0 qac qaa qaf (w.heap.size + 3) qaf ?_; intro gg cap w3 hown3 hgrow hat hlt3; have B3 := (HB.out.below (below1 W1 (.cells #[] 59))).kept (undrewG hgrow) qdm; have b2 : w3.cell? ⟨w.heap.size, 0, none⟩ = some (.string nm) := B3.cell 0; have R3 := (HR.out.below (below1 W1 (.cells #[] 59))).kept (undrewG hgrow) qdm; have r2 : w3.cell? ⟨w.heap.size + 1, 0, none⟩ = some (.string ⟨#[]⟩) := R3.cell 0; have r3 : w3.cell? ⟨w.heap.size + 1, 1, none⟩ = some (.slice none 0 0) := R3.cell 1; have r4 := R3.frozen 0; have r5 := R3.frozen 1)
    all_goals
      have HO3 := hid hown3; have HG3 := hid hgrow; have HR3 := hid R3; clear hown3 hgrow hat B3 R3; go_wp2; have hal := belowThen HWW.out (below1 W1 (.cells #[] 59)); have hb3 : Below w.heap.size w w3 := hal.grown (undrewG HG3.out) hal.size (fun k hk => by simp [Value.ownBlock] at hk; omega); have hb5 : Below w.heap.size w ((w3.setCell ⟨w.heap.size + 1, 0, none⟩ (.string nm)).setCell ⟨w.heap.size + 1, 1, none⟩ (.slice (some ⟨gg, 0, none⟩) n cap)) := (hb3.setCell qad _).setCell qad _; have ho5 := HO3.out; rw [Nat.zero_add] at ho5; obtain ⟨hT, hR⟩ := own_terms (ts := ts) ho5 HL.out HS.out (nl _)
      have hk : ∀ b, w.heap.size + 2 ≤ b → b < w3.heap.size → ((w3.setCell ⟨w.heap.size + 1, 0, none⟩ (.string nm)).setCell ⟨w.heap.size + 1, 1, none⟩ (.slice (some ⟨gg, 0, none⟩) n cap)).heap[b]? = w3.heap[b]? := fun b h1 _ => set2_far qaa; have hsz5 : ((w3.setCell ⟨w.heap.size + 1, 0, none⟩ (.string nm)).setCell ⟨w.heap.size + 1, 1, none⟩ (.slice (some ⟨gg, 0, none⟩) n cap)).heap.size = w3.heap.size := qbp; exact bodyPost_ret (v := .agg #[.string nm, .slice (some ⟨gg, 0, none⟩) n cap]) (by simp [results, Tryz.results181, go_sem, r2, r3]) rfl ⟨_, _, rfl, hT.keep (cellKeep hk) qaa (Nat.le_of_eq hsz5.symm), fun _ => hR.keep hk qaa (Nat.le_of_eq hsz5.symm), hb5⟩
  · have hn0 : n = 0 := qaa
    subst hn0; have ht : ts = [] := List.eq_nil_of_length_eq_zero H.out.1; subst ht; cases A
    all_goals
      go_enter Tryz.func181, Tryz.ntmps181; go_wp2_with fail; go_region_law (fail)
      all_goals go_wp2
      all_goals
        refine bodyPost_ret (v := .agg #[.string nm, .slice (some ⟨w.heap.size + 1 + 1, 0, none⟩) 0 0]) (by simp [results, Tryz.results181, go_sem]) rfl ⟨_, _, rfl, ⟨rfl, nl _, Nat.zero_le _, fun h => absurd h qaa⟩, fun h => absurd h qaa, ?_⟩; exact (below3 _ _ _ _).drew
theorem OwnIn.appended {w w' : World} {lo hi hi' base k : Nat} {v : Value} {cs : List Value} {rs : List Rf} (h : OwnIn w lo hi rs) (hrow : w.ownsRow base 49 2 v k cs) (hg : w.grownBy w' v.ownBlock) (hh : hi ≤ hi') : OwnIn w' lo hi' rs := by
  have hw : OwnIn w' lo hi rs := by
    rcases hrow.2 with ⟨rfl, _⟩ | ⟨g, cap, cur, rfl, _, hgb, _⟩
    · refine ⟨fun q hq => termsFar (g := w.heap.size) (fun b hb _ => hg.block b hb qdm) (h.1 q hq) (fun h0 e => ?_), h.2⟩
      obtain ⟨g2, _, _, x1, _, _, x4, _⟩ := (h.1 q hq).2.2 h0; rw [e] at x1; injection x1 with x1; injection x1 with x1; have := x4.lt; omega
    · refine ⟨fun q hq => termsFar (g := g) (fun b hb hne => hg.block b hb qdu) (h.1 q hq) (fun h0 e => ?_), h.2⟩
      obtain ⟨g2, _, _, x1, _, _, x4, _⟩ := (h.1 q hq).2.2 h0; rw [e] at x1; injection x1 with x1; injection x1 with x1; subst x1; obtain ⟨c2, y1, _⟩ := x4; rw [hgb] at y1; injection y1 with y1; injection y1 with _ y1; exact absurd y1 qal
  exact hw.keep (fun _ _ _ => rfl) (nl _) hh
theorem two_new (W : World) (x y : Value) (t : TypeId) : ∀ j u, [x, y][j]? = some u → (W.alloc (.cells #[x, y] t)).cell? ((⟨W.heap.size, 0, none⟩ : Addr).add j) = some u := by
  intro j u hu
  match j, hu with
  | 0, hu => simp at hu; subst hu; simp [go_sem, Addr.add]
  | 1, hu => simp at hu; subst hu; simp [go_sem, Addr.add]
def CopySPost (xs : List At) (w : World) (e : Ending) (w' : World) : Prop :=
  ∃ A c rs, e = .returned (.slice A xs.length c) ∧ OwnRefs w' w.heap.size w'.heap.size A xs.length c rs ∧ rs.map rAt = xs ∧ Below w.heap.size w w'
theorem copy_more {w wr w1 w2 : World} {k g cap n' d : Nat} {v : Value} {rs : List Rf} {L : List At} {q : At} {A' : Option Addr} {o : Obj} (hl : rs.length = k) (hm : rs.map rAt = L)
    (ho : OwnIn wr w.heap.size wr.heap.size rs) (hb : Below w.heap.size w wr) (hb1 : Below wr.heap.size wr w1) (hs : q.1.size ≤ maxLen)
    (hT : IsTerms w1 wr.heap.size w1.heap.size A' n' d q.2) (hR : 0 < n' → RowAt w1 wr.heap.size w1.heap.size 59 A' (n' * 2))
    (hrow : w1.ownsRow w.heap.size 49 2 v k (rcells rs)) (hown : w2.ownsRow w.heap.size 49 2 (.slice (some ⟨g, 0, none⟩) (k + 1) cap) (k + 1) (rcells rs ++ [.string q.1, .slice A' n' d])) (hgrow : (w1.alloc o).grownBy w2 v.ownBlock) :
    ∃ rs', rs'.length = k + 1 ∧ rs'.map rAt = L ++ [q] ∧ w2.ownsRow w.heap.size 49 2 (.slice (some ⟨g, 0, none⟩) (k + 1) cap) (k + 1) (rcells rs') ∧ OwnIn w2 w.heap.size w2.heap.size rs' ∧ Below w.heap.size w w2 := by
  have hsz : w1.heap.size ≤ w2.heap.size := Nat.le_trans qad hgrow.size; have hB1 : Below w.heap.size w w1 := belowThen hb hb1; refine ⟨rs ++ [(q.1, A', n', d, q.2)], by rw [List.length_append, hl]; rfl, ?_, ?_, ?_, ?_⟩
  · rw [List.map_append, hm]; rfl
  · rw [rcells_snoc]; exact hown
  · have h1 := ho.snoc (w' := w1) (hi' := w1.heap.size) (r := (q.1, A', n', d, q.2)) (fun b _ h2 => hb1.block b h2) hb1.size hs hb.size hT hR
    have h2 := h1.keep (w' := w1.alloc o) (fun b _ h => Below.heap_alloc w1 o b h) (nl _) (nl _); exact h2.appended (hrow.alloc o) hgrow hsz
  · refine ((hB1.alloc hB1.size o).grown hgrow (by simp; have := hB1.size; omega) (fun j ej => ?_))
    rcases hrow.2 with ⟨rfl, _⟩ | ⟨g', cap', cur, rfl, hbg, _, _⟩
    · simp [Value.ownBlock] at ej
    · obtain rfl : g' = j := by simpa [Value.ownBlock] using ej
      exact hbg
theorem copy_on {w wr w1 w2 : World} {k g cap n' d : Nat} {v : Value} {rs : List Rf} {xs : List At} {q : At} {A' : Option Addr} {o : Obj} (hl : rs.length = k) (hm : rs.map rAt = xs.take k) (hq : xs[k]? = some q)
    (ho : OwnIn wr w.heap.size wr.heap.size rs) (hb : Below w.heap.size w wr) (hb1 : Below wr.heap.size wr w1) (hs : q.1.size ≤ maxLen)
    (hT : IsTerms w1 wr.heap.size w1.heap.size A' n' d q.2) (hR : 0 < n' → RowAt w1 wr.heap.size w1.heap.size 59 A' (n' * 2))
    (hrow : w1.ownsRow w.heap.size 49 2 v k (rcells rs)) (hown : w2.ownsRow w.heap.size 49 2 (.slice (some ⟨g, 0, none⟩) (k + 1) cap) (k + 1) (rcells rs ++ [.string q.1, .slice A' n' d])) (hgrow : (w1.alloc o).grownBy w2 v.ownBlock) :
    ∃ rs', rs'.length = k + 1 ∧ rs'.map rAt = xs.take (k + 1) ∧ w2.ownsRow w.heap.size 49 2 (.slice (some ⟨g, 0, none⟩) (k + 1) cap) (k + 1) (rcells rs') ∧ OwnIn w2 w.heap.size w2.heap.size rs' ∧ Below w.heap.size w w2 := by
  obtain ⟨rs', a, b, c, d', e⟩ := copy_more hl hm ho hb hb1 hs hT hR hrow hown hgrow; exact ⟨rs', a, by rw [b, List.take_add_one, hq]; rfl, c, d', e⟩
theorem ownsRow_up {w w' : World} {base size k : Nat} {e : TypeId} {v : Value} {xs : List Value} (h : w.ownsRow base e size v k xs) (hb : Below w.heap.size w w') : w'.ownsRow base e size v k xs :=
  h.kept (row := none) ⟨hb.os, hb.tape, hb.output, hb.size, fun i hi _ => hb.block i hi⟩ (by
    rcases h.2 with ⟨rfl, _⟩ | ⟨g, cap, cur, rfl, _⟩
    · exact .inl rfl
    · exact .inr qdm)
def SrcAt (w : World) (A : Option Addr) (m : Nat) (news : List Value) : Prop :=
  news.length = m * 2 ∧ (∀ ad, A = some ad → ∀ j u, news[j]? = some u → w.cell? (ad.add j) = some u) ∧ (A = none → m = 0)
section
variable {P : Program} {w : World}
theorem run_app_none (base : Nat) (t ty e : TypeId) (i : TypeInfo) (size : Nat) (ht : P.underlying t = some (.slice e)) (hi : P.info? e = some i)
    (v : Value) (n c : Nat) (xs : List Value) (hown : w.ownsRow base e size v n xs) : (Builtin.append_ #[t, t] ty #[v, .slice none 0 c]).run P w = .ok v w := by
  rcases hown.2 with ⟨rfl, rfl⟩ | ⟨g, cap, cur, rfl, _, _, hnc, _⟩
  · simp [Builtin.append_, run_underlying ht, sizeOf, typeInfo, hi, Builtin.lenOf, Builtin.firstCells]
  · simp [Builtin.append_, run_underlying ht, sizeOf, typeInfo, hi, Builtin.lenOf, Builtin.firstCells, hnc, storeCells]
theorem step_app {ops : Array Oper} {o : Oper} {a : Act} {K : Act → World → Prop} {Q : Exit → Act → World → Prop} {E : Prop} (hgd : o.guard = none) (s x : Operand) (t : TypeId)
    (ho : o.op = .call { callee := .builtin .append, args := #[s, x], argTypes := #[t, t] })
    (base : Nat) (e : TypeId) (i : TypeInfo) (z : Value) (bytes : Nat) (ht : P.underlying t = some (.slice e)) (hi : P.info? e = some i) (hz : i.zero = some z)
    (hsize : i.size = 2) (hby : i.bytes = bytes) (hzs : z.cells.size = 2)
    (v : Value) (n : Nat) (xs : List Value) (hs : a.eval s = v) (hown : w.ownsRow base e 2 v n xs)
    (A : Option Addr) (m c : Nat) (news : List Value) (hx : a.eval x = .slice A m c) (hsrc : SrcAt w A m news) (h1 : ∀ u ∈ news, u.oneCell' = true)
    (h63 : n + m ≤ maxLen) (hbytes : (n + m) * bytes ≤ 140737488355328) (hbase : base ≤ w.heap.size)
    (h : ∀ v' w', w'.ownsRow base e 2 v' (n + m) (xs ++ news) → w.grownBy w' v.ownBlock → K (a.put o.dst v') w') :
    if Region.wanted o (yielded ops a.tmps) = true then Oper.wp P o a w K Q else E := by
  have hw : Region.wanted o (yielded ops a.tmps) = true := by simp [Region.wanted, hgd]
  rw [if_pos hw]; obtain ⟨hl, hc, hn⟩ := hsrc
  cases A with
  | none =>
    have hm := hn rfl; subst hm; have hnil : news = [] := List.eq_nil_of_length_eq_zero (by simpa using hl); subst hnil; have hrun := run_app_none (P := P) base t o.type e i 2 ht hi v n c xs hown; unfold Oper.wp execOp; simp only [ho, resolve, invoke, builtin, Sem.run_bind, Sem.run_pure, Result.andThen_ok, List.map_toArray, List.map_cons, List.map_nil, hs, hx, hrun]
    exact h v w (by simpa using hown) (World.grownBy.refl w _)
  | some ad => exact wp_append_own w s x t ho base e i z 2 bytes ht hi hz hsize hby hzs qaa v n xs hs hown ad m c news hx hl (hc ad rfl) h1 h63 hbytes hbase fun v' w' h2 h3 _ => h v' w' h2 h3
theorem own_ne {base b size n : Nat} {e : TypeId} {v : Value} {xs : List Value} (h : w.ownsRow base e size v n xs) (hb : b < base) : some b ≠ v.ownBlock := by
  rcases h.2 with ⟨rfl, _⟩ | ⟨g, cap, cur, rfl, hbg, _⟩
  · simp [Value.ownBlock]
  · simp [Value.ownBlock]; omega
theorem own_below {w' : World} {base B size n : Nat} {e : TypeId} {v : Value} {xs : List Value} (h : w.ownsRow base e size v n xs) (hg : w.grownBy w' v.ownBlock) (hB : B ≤ base) (hs : B ≤ w.heap.size) : Below B w w' :=
  (Below.refl B w).grown hg hs (fun k e => by
    by_cases hk : k < base
    · exact absurd e.symm (own_ne h hk)
    · omega)
end
section
variable {w : World} {lo hi n c : Nat} {rs : List Rf}
theorem rcells_take (rs : List Rf) (k : Nat) : rcells (rs.take k) = (rcells rs).take (k * 2) := by
  induction rs generalizing k with
  | nil => simp [rcells]
  | cons r rs ih =>
    cases k with
    | zero => simp [rcells]
    | succ k =>
      have e : rcells (r :: rs) = .string r.1 :: .slice r.2.1 r.2.2.1 r.2.2.2.1 :: rcells rs := rfl; have e2 : rcells ((r :: rs).take (k + 1)) = .string r.1 :: .slice r.2.1 r.2.2.1 r.2.2.2.1 :: rcells (rs.take k) := rfl; rw [e, e2, ih, show (k + 1) * 2 = k * 2 + 1 + 1 by omega, List.take_succ_cons, List.take_succ_cons]
theorem rcells_drop (rs : List Rf) (k : Nat) : rcells (rs.drop k) = (rcells rs).drop (k * 2) := by
  induction rs generalizing k with
  | nil => simp [rcells]
  | cons r rs ih =>
    cases k with
    | zero => simp
    | succ k =>
      have e : rcells (r :: rs) = .string r.1 :: .slice r.2.1 r.2.2.1 r.2.2.2.1 :: rcells rs := rfl; rw [List.drop_succ_cons, ih, e, show (k + 1) * 2 = k * 2 + 1 + 1 by omega, List.drop_succ_cons, List.drop_succ_cons]
theorem rcells_app (rs rs' : List Rf) : rcells (rs ++ rs') = rcells rs ++ rcells rs' := by unfold rcells; simp [List.flatMap_append]
theorem IsRefs.cells {A : Option Addr} {p : Addr} (h : IsRefs w lo hi A n c rs) (hA : A = some p) : ∀ j u, (rcells rs)[j]? = some u → w.cell? (p.add j) = some u := by
  obtain ⟨h1, h2, h3, h4⟩ := h; intro j u hj; have hl := rcells_len rs
  have hjl : j < rs.length * 2 := by
    have := (List.getElem?_eq_some_iff.1 hj).1; omega
  obtain ⟨p', hp, _, _, he⟩ := h4 qaa; rw [hA] at hp; injection hp with hp; subst hp; have hr : rs[j / 2]? = some rs[j / 2] := List.getElem?_eq_getElem qaa; obtain ⟨e1, _, e3, _⟩ := he _ _ hr; obtain ⟨d1, d2⟩ := rcells_at hr; by_cases hx : j % 2 = 0
  · have : j / 2 * 2 = j := qaa
    rw [this] at e1 d1; rw [e1]; rw [hj] at d1; exact d1.symm
  · have : j / 2 * 2 + 1 = j := qaa
    rw [this] at d2
    have e3' : w.cell? ((p.add (j / 2 * 2)).add 1) = some (.slice rs[j / 2].2.1 rs[j / 2].2.2.1 rs[j / 2].2.2.2.1) := by
      have : (p.add (j / 2 * 2)).add 1 = nextTo (p.add (j / 2 * 2)) 1 := by unfold nextTo; rfl
      rw [this]; exact e3
    rw [add_add, this] at e3'; rw [e3']; rw [hj] at d2; exact d2.symm
theorem IsRefs.srcTake {A : Option Addr} (h : IsRefs w lo hi A n c rs) {k : Nat} (hk : k ≤ n) : SrcAt w A k (rcells (rs.take k)) := by
  refine ⟨by rw [rcells_len, List.length_take, h.1, Nat.min_eq_left hk], fun ad hA j u hu => ?_, fun hA => ?_⟩
  · rw [rcells_take] at hu
    rw [List.getElem?_take] at hu; split at hu
    · exact h.cells hA j u hu
    · simp at hu
  · rcases Nat.eq_zero_or_pos n with h0 | h0
    · omega
    · obtain ⟨p, hp, _⟩ := h.2.2.2 h0
      rw [hA] at hp; cases hp
theorem IsRefs.srcDrop {p : Addr} (h : IsRefs w lo hi (some p) n c rs) {k : Nat} (hk : k ≤ n) {q : Option Addr} (hq : q = if c = k then some p else some (p.add (k * 2))) : SrcAt w q (n - k) (rcells (rs.drop k)) := by
  have hnc := h.2.1; have hl := h.1; subst hq; by_cases hc : c = k
  · have hn : n - k = 0 := qaa
    rw [hn, List.drop_eq_nil_of_le qaa]; exact ⟨rfl, fun ad _ j u hu => by simp [rcells] at hu, fun _ => rfl⟩
  · rw [if_neg hc]
    refine ⟨by rw [rcells_len, List.length_drop, hl], fun ad hA j u hu => ?_, fun hA => by cases hA⟩; injection hA with hA; subst hA; rw [rcells_drop, List.getElem?_drop] at hu; rw [add_add]; exact h.cells rfl _ u hu
theorem srcOne (W : World) (g : Nat) (t : TypeId) (x y : Value) (h : Blk W g t #[x, y]) : SrcAt W (some ⟨g, 0, none⟩) 1 [x, y] := by
  refine ⟨rfl, fun ad hA j u hu => ?_, fun hA => by cases hA⟩; injection hA with hA; subst hA; have a0 : ∀ j, (⟨g, 0, none⟩ : Addr).add j = ⟨g, j, none⟩ := fun j => by unfold Addr.add; split <;> simp_all
  rw [a0, h.cell]; simpa using hu
theorem own_empty (w : World) (t : TypeId) (B : Nat) (hB : B ≤ w.heap.size) : (w.alloc (.cells #[] t)).ownsRow B t 2 (.slice (some ⟨w.heap.size, 0, none⟩) 0 0) 0 [] :=
  ⟨rfl, .inr ⟨w.heap.size, 0, #[], rfl, hB, heap_alloc_new w _, nl _, by unfold maxLen; omega, rfl, rfl⟩⟩
end
def TextE (w : World) (_lo _hi : Nat) (p : Addr) (s : ByteArray) : Prop := w.cell? p = some (.string s)
theorem TextE.stays : Stays TextE := by
  intro w w' lo hi lo' hi' p s h hp1 hp2 hk hl hh; exact (hk p hp1 hp2).trans h
abbrev IsTexts := IsSeq 1 TextE
def SrcZ (sz : Nat) (w : World) (A : Option Addr) (m : Nat) (news : List Value) : Prop :=
  news.length = m * sz ∧ (∀ ad, A = some ad → ∀ j u, news[j]? = some u → w.cell? (ad.add j) = some u) ∧ (A = none → m = 0)
section
variable {P : Program} {w : World}
theorem step_appZ (sz : Nat) (hsz0 : 0 < sz) {ops : Array Oper} {o : Oper} {a : Act} {K : Act → World → Prop} {Q : Exit → Act → World → Prop} {E : Prop} (hgd : o.guard = none) (s x : Operand) (t : TypeId)
    (ho : o.op = .call { callee := .builtin .append, args := #[s, x], argTypes := #[t, t] })
    (base : Nat) (e : TypeId) (i : TypeInfo) (z : Value) (bytes : Nat) (ht : P.underlying t = some (.slice e)) (hi : P.info? e = some i) (hz : i.zero = some z)
    (hsize : i.size = sz) (hby : i.bytes = bytes) (hzs : z.cells.size = sz)
    (v : Value) (n : Nat) (xs : List Value) (hs : a.eval s = v) (hown : w.ownsRow base e sz v n xs)
    (A : Option Addr) (m c : Nat) (news : List Value) (hx : a.eval x = .slice A m c) (hsrc : SrcZ sz w A m news) (h1 : ∀ u ∈ news, u.oneCell' = true)
    (h63 : n + m ≤ maxLen) (hbytes : (n + m) * bytes ≤ 140737488355328) (hbase : base ≤ w.heap.size)
    (h : ∀ v' w', w'.ownsRow base e sz v' (n + m) (xs ++ news) → w.grownBy w' v.ownBlock → K (a.put o.dst v') w') :
    if Region.wanted o (yielded ops a.tmps) = true then Oper.wp P o a w K Q else E := by
  have hw : Region.wanted o (yielded ops a.tmps) = true := by simp [Region.wanted, hgd]
  rw [if_pos hw]; obtain ⟨hl, hc, hn⟩ := hsrc
  cases A with
  | none =>
    have hm := hn rfl; subst hm; have hnil : news = [] := List.eq_nil_of_length_eq_zero (by simpa using hl); subst hnil; have hrun := run_app_none (P := P) base t o.type e i sz ht hi v n c xs hown; unfold Oper.wp execOp; simp only [ho, resolve, invoke, builtin, Sem.run_bind, Sem.run_pure, Result.andThen_ok, List.map_toArray, List.map_cons, List.map_nil, hs, hx, hrun]
    exact h v w (by simpa using hown) (World.grownBy.refl w _)
  | some ad => exact wp_append_own w s x t ho base e i z sz bytes ht hi hz hsize hby hzs hsz0 v n xs hs hown ad m c news hx hl (hc ad rfl) h1 h63 hbytes hbase fun v' w' h2 h3 _ => h v' w' h2 h3
end
def tcl (ls : List ByteArray) : List Value := ls.map Value.string
theorem IsTexts.cells {w : World} {lo hi n c : Nat} {p : Addr} {ls : List ByteArray} (h : IsTexts w lo hi (some p) n c ls) : ∀ j u, (tcl ls)[j]? = some u → w.cell? (p.add j) = some u := by
  obtain ⟨h1, h2, h3, h4⟩ := h; intro j u hj; unfold tcl at hj; rw [List.getElem?_map] at hj
  cases hs : ls[j]? with
  | none => rw [hs] at hj; cases hj
  | some s =>
    rw [hs] at hj; injection hj with hj; subst hj; have hjl := (List.getElem?_eq_some_iff.1 hs).1; obtain ⟨p', hp, _, _, he⟩ := h4 qaa; injection hp with hp; subst hp; have := he j s hs
    rwa [Nat.mul_one] at this
theorem IsTexts.srcTake {w : World} {lo hi n c k : Nat} {p : Addr} {ls : List ByteArray} (h : IsTexts w lo hi (some p) n c ls) (hk : k ≤ n) : SrcZ 1 w (some p) k (tcl (ls.take k)) := by
  refine ⟨by unfold tcl; rw [List.length_map, List.length_take, h.1, Nat.min_eq_left hk, Nat.mul_one], fun ad hA j u hu => ?_, fun hA => by cases hA⟩; injection hA with hA; subst hA; refine h.cells j u ?_; unfold tcl at hu ⊢; rw [List.map_take, List.getElem?_take] at hu; split at hu
  · exact hu
  · cases hu
theorem IsTexts.srcDrop {w : World} {lo hi n c k : Nat} {p : Addr} {ls : List ByteArray} (h : IsTexts w lo hi (some p) n c ls) (hk : k ≤ n) {q : Option Addr} (hq : q = if c = k then some p else some (p.add k)) : SrcZ 1 w q (n - k) (tcl (ls.drop k)) := by
  have hnc := h.2.1; have hl := h.1; subst hq; by_cases hc : c = k
  · have hn : n - k = 0 := qaa
    rw [hn, List.drop_eq_nil_of_le qaa]; exact ⟨rfl, fun ad _ j u hu => by simp [tcl] at hu, fun _ => rfl⟩
  · rw [if_neg hc]
    refine ⟨by unfold tcl; rw [List.length_map, List.length_drop, hl, Nat.mul_one], fun ad hA j u hu => ?_, fun hA => by cases hA⟩; injection hA with hA; subst hA; unfold tcl at hu; rw [List.map_drop, List.getElem?_drop] at hu; rw [add_add]; exact h.cells _ u hu
theorem srcOne1 (W : World) (g : Nat) (t : TypeId) (x : Value) (h : Blk W g t #[x]) : SrcZ 1 W (some ⟨g, 0, none⟩) 1 [x] := by
  refine ⟨rfl, fun ad hA j u hu => ?_, fun hA => by cases hA⟩; injection hA with hA; subst hA; have a0 : ∀ j, (⟨g, 0, none⟩ : Addr).add j = ⟨g, j, none⟩ := fun j => by unfold Addr.add; split <;> simp_all
  rw [a0, h.cell]; simpa using hu
theorem tcl_one (ls : List ByteArray) : ∀ u ∈ tcl ls, u.oneCell' = true := by
  intro u hu; obtain ⟨s, _, rfl⟩ := List.mem_map.1 hu; rfl
theorem texts_own {W : World} {base n : Nat} {v : Value} {ls : List ByteArray} (h : W.ownsRow base 9 1 v n (tcl ls)) (h0 : 0 < n) {lo : Nat} (hlo : lo ≤ base) : ∃ p c, v = .slice (some p) ls.length c ∧ IsTexts W lo W.heap.size (some p) ls.length c ls := by
  have hn : n = ls.length := by have := h.1; unfold tcl at this; rw [List.length_map] at this; omega
  subst hn; rcases h.2 with ⟨_, hz⟩ | ⟨g, cap, cur, rfl, hbg, hgb, hle, hcap, hsz, htk⟩
  · omega
  · have hlt := (Array.getElem?_eq_some_iff.1 hgb).1
    refine ⟨_, cap, rfl, rfl, hle, hcap, fun _ => ⟨_, rfl, by show lo ≤ g; omega, hlt, fun i s hi => ?_⟩⟩; have hc := h.cells (g := g) rfl i (.string s) (by unfold tcl; rw [List.getElem?_map, hi]; rfl)
    rwa [Nat.mul_one]
def ltT (s t : ByteArray) : Bool := Op.bytesLess t.toList s.toList
def putT (ls : List ByteArray) (s : ByteArray) : List ByteArray := if (ls.dropWhile (ltT s)).head? = some s then ls else ls.takeWhile (ltT s) ++ s :: ls.dropWhile (ltT s)
theorem putT_cut : ∀ {ls : List ByteArray} {s : ByteArray} {k : Nat}, k ≤ ls.length → (∀ j t, j < k → ls[j]? = some t → ltT s t = true) → (∀ t, ls[k]? = some t → ltT s t = false) → ls.takeWhile (ltT s) = ls.take k ∧ ls.dropWhile (ltT s) = ls.drop k
  | [], s, k, hk, _, _ => by
    have : k = 0 := qde
    subst this; exact ⟨rfl, rfl⟩
  | t :: ls, s, 0, _, _, h => by
    have h0 : ltT s t = false := h t rfl
    rw [List.takeWhile_cons, List.dropWhile_cons, h0]; exact ⟨rfl, rfl⟩
  | t :: ls, s, k + 1, hk, hl, h => by
    have h0 : ltT s t = true := hl 0 t qaa rfl; have ih := putT_cut (ls := ls) (s := s) (k := k) qde (fun j u hj hu => hl (j + 1) u qaa hu) (fun u hu => h u hu); rw [List.takeWhile_cons, List.dropWhile_cons, h0]; exact ⟨by simp [ih.1], by simp [ih.2]⟩
def TextsPost (L0 : Nat) (ls : List ByteArray) (w : World) (e : Ending) (w' : World) : Prop := ∃ (p : Addr) (c : Nat), e = .returned (.slice (some p) ls.length c) ∧ IsTexts w' L0 w'.heap.size (some p) ls.length c ls ∧ Below w.heap.size w w'
theorem Tryz.infoText : (Tryz.prog.info? 9).map (fun i => (i.zero, i.size, i.bytes)) = some (some (.string ByteArray.empty), 1, 16) := by kernel_rfl
theorem put_texts {W : World} {base k m : Nat} {v : Value} {ls : List ByteArray} {s : ByteArray} {P : List ByteArray} (hP : ls.take k ++ s :: ls.drop k = P) (h : W.ownsRow base 9 1 v (0 + k + 1 + m) ([] ++ tcl (ls.take k) ++ [.string s] ++ tcl (ls.drop k))) (hk : 0 < 0 + k + 1 + m) {lo : Nat} (hlo : lo ≤ base) :
    ∃ p c, v = .slice (some p) P.length c ∧ IsTexts W lo W.heap.size (some p) P.length c P := by
  have e : [] ++ tcl (ls.take k) ++ [.string s] ++ tcl (ls.drop k) = tcl P := by rw [← hP]; unfold tcl; simp
  rw [e] at h; exact texts_own h hk hlo
theorem l2Put_any (p : Addr) (n c : Nat) (ls : List ByteArray) (s : ByteArray) (w : World) (L0 : Nat) (hL0 : L0 ≤ w.heap.size) (h : IsTexts w L0 w.heap.size (some p) n c ls) (hmax : n ≤ 1048576) :
    Calls Tryz.prog 162 #[.slice (some p) n c, .string s] w (TextsPost L0 (putT ls s) w) := by
  have RR := hid h; have hnc := h.2.1; have hcm := h.2.2.1; have HL := hid h.1; unfold maxLen at hcm; clear h; obtain ⟨i0, hi, hz, hsz, hby⟩ := info_parts Tryz.infoText; go_enter Tryz.func162, Tryz.ntmps162; go_wp2; go_loopw [5] (fun i wr => ∃ k : Nat, k ≤ n ∧ i = .int .i64 (k : Int) ∧ (∀ j t, j < k → ls[j]? = some t → ltT s t = true) ∧ Below w.heap.size w wr) (fun i _ => n - (intOf i).toNat)
  case atStart => exact ⟨0, Nat.zero_le _, rfl, fun j t hj => by omega, Below.refl _ _⟩
  case round =>
    obtain ⟨k, hkn, rfl, hlo, hb⟩ := hrel; have HLO := hid hlo; clear hlo; by_cases hlt : k < n
    · have hlt2 : (k : Int) < (n : Int) := qaa
      obtain ⟨p', t, hp, -, -, hg, hE⟩ := (RR.out.below TextE.stays hb (nl _)).at_ hlt; injection hp with hp; subst hp; have c1 : wr.cell? (p.add k) = some (.string t) := qat; have HG := hid hg; clear hg hE; cases hb1 : Op.bytesLess t.toList s.toList
      · have hcut := hid (putT_cut (ls := ls) (s := s) (k := k) (by rw [HL.out]; exact hkn) HLO.out (fun u hu => by rw [HG.out] at hu; injection hu with hu; subst hu; exact hb1))
        cases he : (t.toList == s.toList)
        · have PD := hid (show ls.take k ++ s :: ls.drop k = putT ls s from by
            unfold putT; rw [hcut.out.1, hcut.out.2, List.head?_drop, HG.out, if_neg]; intro e; injection e with e; subst e; simp at he)
          go_wp2; have HBV : Below w.heap.size w wr.drew := hb.drew; have hkc : k ≤ c := qaa; have hki : (k : Int) ≤ (c : Int) := qaa; have hkni : (k : Int) ≤ (n : Int) := qaa; obtain ⟨QK, hQK⟩ : ∃ q, (if c = k then some p else some (p.add k)) = q := ⟨_, rfl⟩; have SD : Hid (∀ W, Below w.heap.size w W → SrcZ 1 W QK (n - k) (tcl (ls.drop k))) := hid (fun W hb => by have h := IsTexts.srcDrop (RR.out.below TextE.stays hb (nl _)) hkn hQK.symm; exact h); obtain ⟨V, hV⟩ : ∃ V, wr.drew = V := ⟨_, rfl⟩; rw [hV] at HBV; refine wp_region_held_drew (S := fun _ => True) qae trivial ?_; rw [hV]; intro hS_; refine tk 1 (.slice (some p) n c) hS_ ?_
          refine tk 2 (.int .i64 (k : Int)) hS_ ?_; refine tk 3 (.slice (some p) k c) hS_ ?_; refine tk 5 (.string s) hS_ ?_; refine tk 8 (.slice (some p) n c) hS_ ?_; refine tk 9 (.int .i64 (k : Int)) hS_ ?_; refine tk 10 (.slice QK (n - k) (c - k)) hS_ ?_; refine rd2 0 6 (fun K_ hK_ => ?_) fun K_ hK_ => ?_
          · rw [if_pos qab]
            go_simp; obtain ⟨V1, hV1⟩ : ∃ X, V.alloc (.cells #[] 9) = X := ⟨_, rfl⟩; have HB1 : Below w.heap.size w V1 := qcz; have Z1 : V.heap.size + 1 ≤ V1.heap.size := by rw [← hV1]; simp
            have OW1 : V1.ownsRow w.heap.size 9 1 (.slice (some ⟨V.heap.size, 0, none⟩) 0 0) 0 [] := by rw [← hV1]; exact ⟨rfl, .inr ⟨V.heap.size, 0, #[], rfl, HBV.size, heap_alloc_new V _, nl _, by unfold maxLen; omega, rfl, rfl⟩⟩
            rw [hV1]; clear hV1; refine hK_.out _ _ trivial fun hS_ => ?_; clear hK_
            (try simp only [Act.put, List.setIfInBounds_toArray, List.set_cons_zero, List.set_cons_succ])
            refine rd2 4 6 (fun K_ hK_ => ?_) fun K_ hK_ => ?_
            · refine step_appZ 1 qaa qab _ _ _ qab (w.heap.size) 9 i0 _ 16 Tryz.underlying42 hi hz hsz hby rfl (.slice (some ⟨V.heap.size, 0, none⟩) 0 0) 0 [] qab OW1 (some p) k c (tcl (ls.take k)) qab (IsTexts.srcTake (RR.out.below TextE.stays HB1 (nl _)) qaa) qah qac qaa HB1.size ?_
              intro v2 V2 OW2 G2; have HB2 := HB1.trans (own_below OW1 G2 (nl _) HB1.size); refine hK_.out _ _ trivial fun hS_ => ?_; clear hK_
              (try simp only [Act.put, List.setIfInBounds_toArray, List.set_cons_zero, List.set_cons_succ])
              refine rd1 6 fun K_ hK_ => ?_; go_simp; obtain ⟨V3, hV3⟩ : ∃ X, V2.alloc (.cells #[.string s] 9) = X := ⟨_, rfl⟩; have HB3 : Below w.heap.size w V3 := qda; have Z3 : V2.heap.size + 1 ≤ V3.heap.size := by rw [← hV3]; simp
              have TM3 : Blk V3 (V2.heap.size) 9 #[.string s] := qdn; have OW3 : V3.ownsRow w.heap.size 9 1 v2 (0 + k) ([] ++ (tcl (ls.take k))) := qdv; rw [hV3]; clear hV3; refine hK_.out _ _ trivial fun hS_ => ?_; clear hK_
              (try simp only [Act.put, List.setIfInBounds_toArray, List.set_cons_zero, List.set_cons_succ])
              refine rd0 7 fun K_ hK_ => ?_; refine step_appZ 1 qaa qab _ _ _ qab (w.heap.size) 9 i0 _ 16 Tryz.underlying42 hi hz hsz hby rfl v2 (0 + k) ([] ++ (tcl (ls.take k))) qab OW3 (some ⟨V2.heap.size, 0, none⟩) 1 1 [.string s] qab (srcOne1 _ _ _ _ TM3) qah qac qaa HB3.size ?_; intro v4 V4 OW4 G4; have HB4 := HB3.trans (own_below OW3 G4 (nl _) HB3.size); refine hK_.out _ _ trivial fun hS_ => ?_; clear hK_
              (try simp only [Act.put, List.setIfInBounds_toArray, List.set_cons_zero, List.set_cons_succ])
              refine rd0 11 fun K_ hK_ => ?_; refine step_appZ 1 qaa qab _ _ _ qab (w.heap.size) 9 i0 _ 16 Tryz.underlying42 hi hz hsz hby rfl v4 (0 + k + 1) ([] ++ (tcl (ls.take k)) ++ [.string s]) qab OW4 QK (n - k) (c - k) (tcl (ls.drop k)) qab (SD.out _ HB4) qah qac qaa HB4.size ?_; intro v5 V5 OW5 G5; have HB5 := HB4.trans (own_below OW4 G5 (nl _) HB4.size); refine hK_.out _ _ trivial fun hS_ => ?_; clear hK_; refine tk 12 v5 hS_ ?_; refine wpAnyH_done qae ?_ _; obtain ⟨p9, c9, e9, i9⟩ := put_texts PD.out OW5 qaa hL0; subst e9; go_wp2; go_ret; exact ⟨_, _, rfl, i9, HB5⟩
            · rw [if_pos qab]
              go_simp; obtain ⟨V6, hV6⟩ : ∃ X, V1.alloc (.cells #[.string s] 9) = X := ⟨_, rfl⟩; have HB6 : Below w.heap.size w V6 := qdb; have Z6 : V1.heap.size + 1 ≤ V6.heap.size := by rw [← hV6]; simp
              have TM6 : Blk V6 (V1.heap.size) 9 #[.string s] := qdo; have OW6 : V6.ownsRow w.heap.size 9 1 (.slice (some ⟨V.heap.size, 0, none⟩) 0 0) 0 [] := qdw; rw [hV6]; clear hV6; refine hK_.out _ _ trivial fun hS_ => ?_; clear hK_
              (try simp only [Act.put, List.setIfInBounds_toArray, List.set_cons_zero, List.set_cons_succ])
              refine rd0 4 fun K_ hK_ => ?_; refine step_appZ 1 qaa qab _ _ _ qab (w.heap.size) 9 i0 _ 16 Tryz.underlying42 hi hz hsz hby rfl (.slice (some ⟨V.heap.size, 0, none⟩) 0 0) 0 [] qab OW6 (some p) k c (tcl (ls.take k)) qab (IsTexts.srcTake (RR.out.below TextE.stays HB6 (nl _)) qaa) qah qac qaa HB6.size ?_; intro v7 V7 OW7 G7; have HB7 := HB6.trans (own_below OW6 G7 (nl _) HB6.size); have TM7 := TM6.kept G7 qav; refine hK_.out _ _ trivial fun hS_ => ?_; clear hK_
              (try simp only [Act.put, List.setIfInBounds_toArray, List.set_cons_zero, List.set_cons_succ])
              refine rd0 7 fun K_ hK_ => ?_; refine step_appZ 1 qaa qab _ _ _ qab (w.heap.size) 9 i0 _ 16 Tryz.underlying42 hi hz hsz hby rfl v7 (0 + k) ([] ++ (tcl (ls.take k))) qab OW7 (some ⟨V1.heap.size, 0, none⟩) 1 1 [.string s] qab (srcOne1 _ _ _ _ TM7) qah qac qaa HB7.size ?_; intro v8 V8 OW8 G8; have HB8 := HB7.trans (own_below OW7 G8 (nl _) HB7.size); refine hK_.out _ _ trivial fun hS_ => ?_; clear hK_
              (try simp only [Act.put, List.setIfInBounds_toArray, List.set_cons_zero, List.set_cons_succ])
              refine rd0 11 fun K_ hK_ => ?_; refine step_appZ 1 qaa qab _ _ _ qab (w.heap.size) 9 i0 _ 16 Tryz.underlying42 hi hz hsz hby rfl v8 (0 + k + 1) ([] ++ (tcl (ls.take k)) ++ [.string s]) qab OW8 QK (n - k) (c - k) (tcl (ls.drop k)) qab (SD.out _ HB8) qah qac qaa HB8.size ?_; intro v9 V9 OW9 G9; have HB9 := HB8.trans (own_below OW8 G9 (nl _) HB8.size); refine hK_.out _ _ trivial fun hS_ => ?_; clear hK_; refine tk 12 v9 hS_ ?_; refine wpAnyH_done qae ?_ _; obtain ⟨p9, c9, e9, i9⟩ := put_texts PD.out OW9 qaa hL0; subst e9; go_wp2; go_ret; exact ⟨_, _, rfl, i9, HB9⟩
          · rw [if_pos qab]
            go_simp; obtain ⟨V10, hV10⟩ : ∃ X, V.alloc (.cells #[.string s] 9) = X := ⟨_, rfl⟩; have HB10 : Below w.heap.size w V10 := qcv; have Z10 : V.heap.size + 1 ≤ V10.heap.size := by rw [← hV10]; simp
            have TM10 : Blk V10 (V.heap.size) 9 #[.string s] := qdp; rw [hV10]; clear hV10; refine hK_.out _ _ trivial fun hS_ => ?_; clear hK_
            (try simp only [Act.put, List.setIfInBounds_toArray, List.set_cons_zero, List.set_cons_succ])
            refine rd1 0 fun K_ hK_ => ?_; go_simp; obtain ⟨V11, hV11⟩ : ∃ X, V10.alloc (.cells #[] 9) = X := ⟨_, rfl⟩; have HB11 : Below w.heap.size w V11 := qcq; have Z11 : V10.heap.size + 1 ≤ V11.heap.size := by rw [← hV11]; simp
            have OW11 : V11.ownsRow w.heap.size 9 1 (.slice (some ⟨V10.heap.size, 0, none⟩) 0 0) 0 [] := by rw [← hV11]; exact ⟨rfl, .inr ⟨V10.heap.size, 0, #[], rfl, HB10.size, heap_alloc_new V10 _, nl _, by unfold maxLen; omega, rfl, rfl⟩⟩
            have TM11 : Blk V11 (V.heap.size) 9 #[.string s] := qds; rw [hV11]; clear hV11; refine hK_.out _ _ trivial fun hS_ => ?_; clear hK_
            (try simp only [Act.put, List.setIfInBounds_toArray, List.set_cons_zero, List.set_cons_succ])
            refine rd0 4 fun K_ hK_ => ?_; refine step_appZ 1 qaa qab _ _ _ qab (w.heap.size) 9 i0 _ 16 Tryz.underlying42 hi hz hsz hby rfl (.slice (some ⟨V10.heap.size, 0, none⟩) 0 0) 0 [] qab OW11 (some p) k c (tcl (ls.take k)) qab (IsTexts.srcTake (RR.out.below TextE.stays HB11 (nl _)) qaa) qah qac qaa HB11.size ?_; intro v12 V12 OW12 G12; have HB12 := HB11.trans (own_below OW11 G12 (nl _) HB11.size); have TM12 := TM11.kept G12 qav; refine hK_.out _ _ trivial fun hS_ => ?_; clear hK_
            (try simp only [Act.put, List.setIfInBounds_toArray, List.set_cons_zero, List.set_cons_succ])
            refine rd0 7 fun K_ hK_ => ?_; refine step_appZ 1 qaa qab _ _ _ qab (w.heap.size) 9 i0 _ 16 Tryz.underlying42 hi hz hsz hby rfl v12 (0 + k) ([] ++ (tcl (ls.take k))) qab OW12 (some ⟨V.heap.size, 0, none⟩) 1 1 [.string s] qab (srcOne1 _ _ _ _ TM12) qah qac qaa HB12.size ?_; intro v13 V13 OW13 G13; have HB13 := HB12.trans (own_below OW12 G13 (nl _) HB12.size); refine hK_.out _ _ trivial fun hS_ => ?_; clear hK_
            (try simp only [Act.put, List.setIfInBounds_toArray, List.set_cons_zero, List.set_cons_succ])
            refine rd0 11 fun K_ hK_ => ?_; refine step_appZ 1 qaa qab _ _ _ qab (w.heap.size) 9 i0 _ 16 Tryz.underlying42 hi hz hsz hby rfl v13 (0 + k + 1) ([] ++ (tcl (ls.take k)) ++ [.string s]) qab OW13 QK (n - k) (c - k) (tcl (ls.drop k)) qab (SD.out _ HB13) qah qac qaa HB13.size ?_; intro v14 V14 OW14 G14; have HB14 := HB13.trans (own_below OW13 G14 (nl _) HB13.size); refine hK_.out _ _ trivial fun hS_ => ?_; clear hK_; refine tk 12 v14 hS_ ?_; refine wpAnyH_done qae ?_ _; obtain ⟨p9, c9, e9, i9⟩ := put_texts PD.out OW14 qaa hL0; subst e9; go_wp2; go_ret; exact ⟨_, _, rfl, i9, HB14⟩
        · have PD := hid (show ls = putT ls s from by
            unfold putT; have e : t = s := bytesEq (by have := eq_of_beq he; rwa [ByteArray.toList_eq, ByteArray.toList_eq] at this); rw [hcut.out.2, List.head?_drop, HG.out, e, if_pos rfl])
          go_wp2; go_ret; exact ⟨p, c, by rw [← PD.out, HL.out]; rfl, by rw [← PD.out, HL.out]; exact RR.out.up TextE.stays hb, hb⟩
      · go_wp2
        go_roundw
        case rel => exact ⟨k + 1, by omega, by go_num, fun j u hj hu => by
          by_cases e : j = k
          · subst e; rw [HG.out] at hu; injection hu with hu; subst hu; exact hb1
          · exact HLO.out j u qaa hu, hb⟩
        case measure => exact qms
    · have hk2 : k = n := qaa
      subst hk2; have hcut := hid (putT_cut (ls := ls) (s := s) (k := k) (by rw [HL.out]; exact hkn) HLO.out (fun u hu => by have := (List.getElem?_eq_some_iff.1 hu).1; have := HL.out; omega))
      have PD := hid (show ls.take k ++ s :: ls.drop k = putT ls s from by
        unfold putT; rw [hcut.out.1, hcut.out.2, List.drop_eq_nil_of_le (by rw [HL.out]; exact nl _), if_neg]; simp)
      go_wp2; have HBV : Below w.heap.size w wr.drew := hb.drew; have hkc : k ≤ c := qaa; have hki : (k : Int) ≤ (c : Int) := qaa; have hkni : (k : Int) ≤ (k : Int) := qaa; obtain ⟨QK, hQK⟩ : ∃ q, (if c = k then some p else some (p.add k)) = q := ⟨_, rfl⟩; have SD : Hid (∀ W, Below w.heap.size w W → SrcZ 1 W QK 0 (tcl (ls.drop k))) := hid (fun W hb => by have h := IsTexts.srcDrop (RR.out.below TextE.stays hb (nl _)) hkn hQK.symm; rwa [Nat.sub_self] at h); obtain ⟨V, hV⟩ : ∃ V, wr.drew = V := ⟨_, rfl⟩; rw [hV] at HBV; refine wp_region_held_drew (S := fun _ => True) qae trivial ?_; rw [hV]; intro hS_; refine tk 1 (.slice (some p) k c) hS_ ?_
      refine tk 2 (.int .i64 (k : Int)) hS_ ?_; refine tk 3 (.slice (some p) k c) hS_ ?_; refine tk 5 (.string s) hS_ ?_; refine tk 8 (.slice (some p) k c) hS_ ?_; refine tk 9 (.int .i64 (k : Int)) hS_ ?_; refine tk 10 (.slice QK 0 (c - k)) hS_ ?_; refine rd2 0 6 (fun K_ hK_ => ?_) fun K_ hK_ => ?_
      · rw [if_pos qab]
        go_simp; obtain ⟨V1, hV1⟩ : ∃ X, V.alloc (.cells #[] 9) = X := ⟨_, rfl⟩; have HB1 : Below w.heap.size w V1 := qcz; have Z1 : V.heap.size + 1 ≤ V1.heap.size := by rw [← hV1]; simp
        have OW1 : V1.ownsRow w.heap.size 9 1 (.slice (some ⟨V.heap.size, 0, none⟩) 0 0) 0 [] := by rw [← hV1]; exact ⟨rfl, .inr ⟨V.heap.size, 0, #[], rfl, HBV.size, heap_alloc_new V _, nl _, by unfold maxLen; omega, rfl, rfl⟩⟩
        rw [hV1]; clear hV1; refine hK_.out _ _ trivial fun hS_ => ?_; clear hK_
        (try simp only [Act.put, List.setIfInBounds_toArray, List.set_cons_zero, List.set_cons_succ])
        refine rd2 4 6 (fun K_ hK_ => ?_) fun K_ hK_ => ?_
        · refine step_appZ 1 qaa qab _ _ _ qab (w.heap.size) 9 i0 _ 16 Tryz.underlying42 hi hz hsz hby rfl (.slice (some ⟨V.heap.size, 0, none⟩) 0 0) 0 [] qab OW1 (some p) k c (tcl (ls.take k)) qab (IsTexts.srcTake (RR.out.below TextE.stays HB1 (nl _)) qaa) qah qac qaa HB1.size ?_
          intro v2 V2 OW2 G2; have HB2 := HB1.trans (own_below OW1 G2 (nl _) HB1.size); refine hK_.out _ _ trivial fun hS_ => ?_; clear hK_
          (try simp only [Act.put, List.setIfInBounds_toArray, List.set_cons_zero, List.set_cons_succ])
          refine rd1 6 fun K_ hK_ => ?_; go_simp; obtain ⟨V3, hV3⟩ : ∃ X, V2.alloc (.cells #[.string s] 9) = X := ⟨_, rfl⟩; have HB3 : Below w.heap.size w V3 := qda; have Z3 : V2.heap.size + 1 ≤ V3.heap.size := by rw [← hV3]; simp
          have TM3 : Blk V3 (V2.heap.size) 9 #[.string s] := qdn; have OW3 : V3.ownsRow w.heap.size 9 1 v2 (0 + k) ([] ++ (tcl (ls.take k))) := qdv; rw [hV3]; clear hV3; refine hK_.out _ _ trivial fun hS_ => ?_; clear hK_
          (try simp only [Act.put, List.setIfInBounds_toArray, List.set_cons_zero, List.set_cons_succ])
          refine rd0 7 fun K_ hK_ => ?_; refine step_appZ 1 qaa qab _ _ _ qab (w.heap.size) 9 i0 _ 16 Tryz.underlying42 hi hz hsz hby rfl v2 (0 + k) ([] ++ (tcl (ls.take k))) qab OW3 (some ⟨V2.heap.size, 0, none⟩) 1 1 [.string s] qab (srcOne1 _ _ _ _ TM3) qah qac qaa HB3.size ?_; intro v4 V4 OW4 G4; have HB4 := HB3.trans (own_below OW3 G4 (nl _) HB3.size); refine hK_.out _ _ trivial fun hS_ => ?_; clear hK_
          (try simp only [Act.put, List.setIfInBounds_toArray, List.set_cons_zero, List.set_cons_succ])
          refine rd0 11 fun K_ hK_ => ?_; refine step_appZ 1 qaa qab _ _ _ qab (w.heap.size) 9 i0 _ 16 Tryz.underlying42 hi hz hsz hby rfl v4 (0 + k + 1) ([] ++ (tcl (ls.take k)) ++ [.string s]) qab OW4 QK 0 (c - k) (tcl (ls.drop k)) qab (SD.out _ HB4) qah qac qaa HB4.size ?_; intro v5 V5 OW5 G5; have HB5 := HB4.trans (own_below OW4 G5 (nl _) HB4.size); refine hK_.out _ _ trivial fun hS_ => ?_; clear hK_; refine tk 12 v5 hS_ ?_; refine wpAnyH_done qae ?_ _; obtain ⟨p9, c9, e9, i9⟩ := put_texts PD.out OW5 qaa hL0; subst e9; go_wp2; go_ret; exact ⟨_, _, rfl, i9, HB5⟩
        · rw [if_pos qab]
          go_simp; obtain ⟨V6, hV6⟩ : ∃ X, V1.alloc (.cells #[.string s] 9) = X := ⟨_, rfl⟩; have HB6 : Below w.heap.size w V6 := qdb; have Z6 : V1.heap.size + 1 ≤ V6.heap.size := by rw [← hV6]; simp
          have TM6 : Blk V6 (V1.heap.size) 9 #[.string s] := qdo; have OW6 : V6.ownsRow w.heap.size 9 1 (.slice (some ⟨V.heap.size, 0, none⟩) 0 0) 0 [] := qdw; rw [hV6]; clear hV6; refine hK_.out _ _ trivial fun hS_ => ?_; clear hK_
          (try simp only [Act.put, List.setIfInBounds_toArray, List.set_cons_zero, List.set_cons_succ])
          refine rd0 4 fun K_ hK_ => ?_; refine step_appZ 1 qaa qab _ _ _ qab (w.heap.size) 9 i0 _ 16 Tryz.underlying42 hi hz hsz hby rfl (.slice (some ⟨V.heap.size, 0, none⟩) 0 0) 0 [] qab OW6 (some p) k c (tcl (ls.take k)) qab (IsTexts.srcTake (RR.out.below TextE.stays HB6 (nl _)) qaa) qah qac qaa HB6.size ?_; intro v7 V7 OW7 G7; have HB7 := HB6.trans (own_below OW6 G7 (nl _) HB6.size); have TM7 := TM6.kept G7 qav; refine hK_.out _ _ trivial fun hS_ => ?_; clear hK_
          (try simp only [Act.put, List.setIfInBounds_toArray, List.set_cons_zero, List.set_cons_succ])
          refine rd0 7 fun K_ hK_ => ?_; refine step_appZ 1 qaa qab _ _ _ qab (w.heap.size) 9 i0 _ 16 Tryz.underlying42 hi hz hsz hby rfl v7 (0 + k) ([] ++ (tcl (ls.take k))) qab OW7 (some ⟨V1.heap.size, 0, none⟩) 1 1 [.string s] qab (srcOne1 _ _ _ _ TM7) qah qac qaa HB7.size ?_; intro v8 V8 OW8 G8; have HB8 := HB7.trans (own_below OW7 G8 (nl _) HB7.size); refine hK_.out _ _ trivial fun hS_ => ?_; clear hK_
          (try simp only [Act.put, List.setIfInBounds_toArray, List.set_cons_zero, List.set_cons_succ])
          refine rd0 11 fun K_ hK_ => ?_; refine step_appZ 1 qaa qab _ _ _ qab (w.heap.size) 9 i0 _ 16 Tryz.underlying42 hi hz hsz hby rfl v8 (0 + k + 1) ([] ++ (tcl (ls.take k)) ++ [.string s]) qab OW8 QK 0 (c - k) (tcl (ls.drop k)) qab (SD.out _ HB8) qah qac qaa HB8.size ?_; intro v9 V9 OW9 G9; have HB9 := HB8.trans (own_below OW8 G9 (nl _) HB8.size); refine hK_.out _ _ trivial fun hS_ => ?_; clear hK_; refine tk 12 v9 hS_ ?_; refine wpAnyH_done qae ?_ _; obtain ⟨p9, c9, e9, i9⟩ := put_texts PD.out OW9 qaa hL0; subst e9; go_wp2; go_ret; exact ⟨_, _, rfl, i9, HB9⟩
      · rw [if_pos qab]
        go_simp; obtain ⟨V10, hV10⟩ : ∃ X, V.alloc (.cells #[.string s] 9) = X := ⟨_, rfl⟩; have HB10 : Below w.heap.size w V10 := qcv; have Z10 : V.heap.size + 1 ≤ V10.heap.size := by rw [← hV10]; simp
        have TM10 : Blk V10 (V.heap.size) 9 #[.string s] := qdp; rw [hV10]; clear hV10; refine hK_.out _ _ trivial fun hS_ => ?_; clear hK_
        (try simp only [Act.put, List.setIfInBounds_toArray, List.set_cons_zero, List.set_cons_succ])
        refine rd1 0 fun K_ hK_ => ?_; go_simp; obtain ⟨V11, hV11⟩ : ∃ X, V10.alloc (.cells #[] 9) = X := ⟨_, rfl⟩; have HB11 : Below w.heap.size w V11 := qcq; have Z11 : V10.heap.size + 1 ≤ V11.heap.size := by rw [← hV11]; simp
        have OW11 : V11.ownsRow w.heap.size 9 1 (.slice (some ⟨V10.heap.size, 0, none⟩) 0 0) 0 [] := by rw [← hV11]; exact ⟨rfl, .inr ⟨V10.heap.size, 0, #[], rfl, HB10.size, heap_alloc_new V10 _, nl _, by unfold maxLen; omega, rfl, rfl⟩⟩
        have TM11 : Blk V11 (V.heap.size) 9 #[.string s] := qds; rw [hV11]; clear hV11; refine hK_.out _ _ trivial fun hS_ => ?_; clear hK_
        (try simp only [Act.put, List.setIfInBounds_toArray, List.set_cons_zero, List.set_cons_succ])
        refine rd0 4 fun K_ hK_ => ?_; refine step_appZ 1 qaa qab _ _ _ qab (w.heap.size) 9 i0 _ 16 Tryz.underlying42 hi hz hsz hby rfl (.slice (some ⟨V10.heap.size, 0, none⟩) 0 0) 0 [] qab OW11 (some p) k c (tcl (ls.take k)) qab (IsTexts.srcTake (RR.out.below TextE.stays HB11 (nl _)) qaa) qah qac qaa HB11.size ?_; intro v12 V12 OW12 G12; have HB12 := HB11.trans (own_below OW11 G12 (nl _) HB11.size); have TM12 := TM11.kept G12 qav; refine hK_.out _ _ trivial fun hS_ => ?_; clear hK_
        (try simp only [Act.put, List.setIfInBounds_toArray, List.set_cons_zero, List.set_cons_succ])
        refine rd0 7 fun K_ hK_ => ?_; refine step_appZ 1 qaa qab _ _ _ qab (w.heap.size) 9 i0 _ 16 Tryz.underlying42 hi hz hsz hby rfl v12 (0 + k) ([] ++ (tcl (ls.take k))) qab OW12 (some ⟨V.heap.size, 0, none⟩) 1 1 [.string s] qab (srcOne1 _ _ _ _ TM12) qah qac qaa HB12.size ?_; intro v13 V13 OW13 G13; have HB13 := HB12.trans (own_below OW12 G13 (nl _) HB12.size); refine hK_.out _ _ trivial fun hS_ => ?_; clear hK_
        (try simp only [Act.put, List.setIfInBounds_toArray, List.set_cons_zero, List.set_cons_succ])
        refine rd0 11 fun K_ hK_ => ?_; refine step_appZ 1 qaa qab _ _ _ qab (w.heap.size) 9 i0 _ 16 Tryz.underlying42 hi hz hsz hby rfl v13 (0 + k + 1) ([] ++ (tcl (ls.take k)) ++ [.string s]) qab OW13 QK 0 (c - k) (tcl (ls.drop k)) qab (SD.out _ HB13) qah qac qaa HB13.size ?_; intro v14 V14 OW14 G14; have HB14 := HB13.trans (own_below OW13 G14 (nl _) HB13.size); refine hK_.out _ _ trivial fun hS_ => ?_; clear hK_; refine tk 12 v14 hS_ ?_; refine wpAnyH_done qae ?_ _; obtain ⟨p9, c9, e9, i9⟩ := put_texts PD.out OW14 qaa hL0; subst e9; go_wp2; go_ret; exact ⟨_, _, rfl, i9, HB14⟩
end Go.Proofs.YtcigljngiemdeaaGreat
