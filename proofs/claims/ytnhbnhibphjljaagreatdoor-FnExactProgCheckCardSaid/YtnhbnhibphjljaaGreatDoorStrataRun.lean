/-
  What the program's levels come to: asked at each step, met at the end. (Of no code.)
  The strata of rules, as the program works them out; or that there are none.
-/
import Derived.Test.YtnhbnhibphjljaaGreatDoorHeads
import Derived.Maps.OwnOps
import Derived.Deep.LoopGhost
import Derived.Deep.QuietTactic
import Derived.BigQuiet
namespace Go.Proofs.YtnhbnhibphjljaaGreatDoor
open Go.RowKit

/-- The level of a name. -/
def lvl (ps : List (ByteArray × Nat)) (LV : List Nat) (s : ByteArray) : Nat := at0 LV (placeIn ps s)

/-- Each name's level is asked. -/
def Asked (rs : List Rl) (ps : List (ByteArray × Nat)) (L : List ByteArray) (LV : List Nat) : Prop := ∀ s ∈ L, Der (edgesOf rs) s (lvl ps LV s)

theorem place_of {L : List ByteArray} {ps : List (ByteArray × Nat)} (hP : PlacesOf L ps) {s : ByteArray} (hs : s ∈ L) : ∃ i, L[i]? = some s ∧ lastOf ps s = some i ∧ placeIn ps s = i := by
  obtain ⟨i, hi⟩ := List.getElem?_of_mem hs
  have := hP.1 i s hi
  exact ⟨i, hi, this, by unfold placeIn; rw [this]; rfl⟩

theorem isHead_iff {rs : List Rl} {s : ByteArray} : isHead rs s ↔ ∃ r ∈ rs, r.1.1 = s := by
  unfold isHead headAt
  constructor
  · rintro ⟨k, hk, h⟩
    rw [List.getElem?_eq_getElem hk] at h
    exact ⟨rs[k], List.getElem_mem _, h⟩
  · rintro ⟨r, hr, rfl⟩
    obtain ⟨k, hk, rfl⟩ := List.getElem_of_mem hr
    exact ⟨k, hk, by rw [List.getElem?_eq_getElem hk]; rfl⟩

theorem names_in {rs : List Rl} {r : Rl} (hr : r ∈ rs) : r.1.1 ∈ namesL (atsOf rs) ∧ ∀ p ∈ r.2, p.2.1 ∈ namesL (atsOf rs) := by
  have h1 : r.1 ∈ atsOf rs := List.mem_flatMap.2 ⟨r, hr, List.mem_cons_self ..⟩
  refine ⟨mem_namesL.2 ⟨r.1, h1, rfl⟩, fun p hp => mem_namesL.2 ⟨p.2, List.mem_flatMap.2 ⟨r, hr, List.mem_cons_of_mem _ (List.mem_map_of_mem hp)⟩, rfl⟩⟩

section
variable {rs : List Rl} {ps : List (ByteArray × Nat)} {L : List ByteArray} {LV : List Nat}

theorem hd_iff (hP : PlacesOf L ps) (hL : ∀ r ∈ rs, r.1.1 ∈ L) {s : ByteArray} (hs : s ∈ L) : hdF ps rs (placeIn ps s) = true ↔ isHead rs s := by
  obtain ⟨i, hi, _, e⟩ := place_of hP hs
  rw [e, hdF_tells hP hi hL, isHead_iff]

/-- What a body asks is asked of its head. -/
theorem least_der (hP : PlacesOf L ps) (hL : ∀ r ∈ rs, r.1.1 ∈ L) (hB : ∀ r ∈ rs, ∀ p ∈ r.2, p.2.1 ∈ L) (hA : Asked rs ps L LV) {r : Rl} (hr : r ∈ rs) : Der (edgesOf rs) r.1.1 (leastF ps (hdF ps rs) LV r.2) := by
  have h : ∀ (qs : List Pt) (a : Nat), (∀ p ∈ qs, p ∈ r.2) → Der (edgesOf rs) r.1.1 a → Der (edgesOf rs) r.1.1 (qs.foldl (askF ps (hdF ps rs) LV) a) := by
    intro qs
    induction qs with
    | nil => intro a _ d; exact d
    | cons p qs ih =>
      intro a hq d
      refine ih _ (fun x hx => hq x (List.mem_cons_of_mem _ hx)) ?_
      have hp := hq p (List.mem_cons_self ..)
      have hpL := hB r hr p hp
      unfold askF
      split
      · rename_i hh
        have d2 : Der (edgesOf rs) r.1.1 (at0 LV (placeIn ps p.2.1) + if p.1 then 1 else 0) :=
          Der.step (mem_edges.2 ⟨r, hr, p, hp, (hd_iff hP hL hpL).1 hh, rfl, rfl, rfl⟩) (hA _ hpL)
        rcases Nat.le_total a (at0 LV (placeIn ps p.2.1) + if p.1 then 1 else 0) with e | e
        · rw [show Nat.max a _ = _ from Nat.max_eq_right e]; exact d2
        · rw [show Nat.max a _ = a from Nat.max_eq_left e]; exact d
      · exact d
  exact h r.2 0 (fun _ h => h) (Der.zero _)

theorem fold_ge (ps : List (ByteArray × Nat)) (hd : Nat → Bool) (LV : List Nat) : ∀ (qs : List Pt) (a : Nat), a ≤ qs.foldl (askF ps hd LV) a
  | [], _ => Nat.le_refl _
  | p :: qs, a => by
    have h1 : a ≤ askF ps hd LV a p := by unfold askF; split; exact Nat.le_max_left _ _; exact Nat.le_refl _
    exact Nat.le_trans h1 (fold_ge ps hd LV qs _)

theorem least_ge {hd : Nat → Bool} {qs : List Pt} {p : Pt} (hp : p ∈ qs) (hh : hd (placeIn ps p.2.1) = true) : lvl ps LV p.2.1 + (if p.1 then 1 else 0) ≤ leastF ps hd LV qs := by
  obtain ⟨l1, l2, rfl⟩ := List.append_of_mem hp
  unfold leastF
  rw [List.foldl_append, List.foldl_cons]
  refine Nat.le_trans ?_ (fold_ge ps hd LV l2 _)
  unfold askF lvl
  rw [if_pos hh]
  exact Nat.le_max_right _ _

/-- Where no body asks more, all is met. -/
theorem least_met (hP : PlacesOf L ps) (hL : ∀ r ∈ rs, r.1.1 ∈ L) (hB : ∀ r ∈ rs, ∀ p ∈ r.2, p.2.1 ∈ L) (hm : ∀ r ∈ rs, leastF ps (hdF ps rs) LV r.2 ≤ lvl ps LV r.1.1) : ∀ c ∈ edgesOf rs, lvl ps LV c.2.1 + (if c.2.2 then 1 else 0) ≤ lvl ps LV c.1 := by
  rintro ⟨a, b, s⟩ hc
  obtain ⟨r, hr, p, hp, hh, rfl, rfl, rfl⟩ := mem_edges.1 hc
  exact Nat.le_trans (least_ge hp ((hd_iff hP hL (hB r hr p hp)).2 hh)) (hm r hr)

theorem Asked.set (hP : PlacesOf L ps) (hA : Asked rs ps L LV) {i v : Nat} {s : ByteArray} (hi : L[i]? = some s) (hd : Der (edgesOf rs) s v) (hl : LV.length = L.length) : Asked rs ps L (LV.set i v) := by
  intro t ht
  obtain ⟨j, hj, _, e⟩ := place_of hP ht
  unfold lvl
  rw [e]
  by_cases e2 : i = j
  · subst e2
    rw [hi] at hj
    injection hj with hj
    subst hj
    rw [at0_set (by rw [hl]; exact (List.getElem?_eq_some_iff.1 hi).1)]
    exact hd
  · rw [at0_set_ne e2]
    have := hA t ht
    unfold lvl at this
    rwa [e] at this

theorem Asked.zero (q : Nat) : Asked rs ps L (List.replicate q 0) := by
  intro s _
  have : lvl ps (List.replicate q 0) s = 0 := by
    unfold lvl at0
    rw [List.getElem?_replicate]
    split <;> rfl
  rw [this]; exact Der.zero _

/-- At the end: the model's levels. -/
theorem strata_end (hP : PlacesOf L ps) (hL : ∀ r ∈ rs, r.1.1 ∈ L) (hB : ∀ r ∈ rs, ∀ p ∈ r.2, p.2.1 ∈ L) (hA : Asked rs ps L LV) (hm : ∀ r ∈ rs, leastF ps (hdF ps rs) LV r.2 ≤ lvl ps LV r.1.1) (hlow : ∀ i, at0 LV i < rs.length ∨ at0 LV i = 0) :
    cycB rs = false ∧ levelsL rs = rs.map fun r => lvl ps LV r.1.1 := by
  have hh : ∀ i, i < rs.length → ∃ r ∈ rs, rs[i]? = some r ∧ headAt rs i = r.1.1 := fun i hi => ⟨rs[i], List.getElem_mem _, List.getElem?_eq_getElem hi, headAt_of (List.getElem?_eq_getElem hi)⟩
  obtain ⟨h1, h2⟩ := levels_met rs (least_met hP hL hB hm) (fun i hi => by
    obtain ⟨r, hr, _, e⟩ := hh i hi
    rw [e]; exact hA _ (hL r hr)) (fun i hi => by
    unfold lvl
    rcases hlow (placeIn ps (headAt rs i)) with h | h <;> omega)
  refine ⟨h1, ?_⟩
  rw [h2]
  refine List.ext_getElem (by simp) fun i hi hi' => ?_
  rw [List.getElem_map, List.getElem_range, List.getElem_map]
  have hir : i < rs.length := by simpa using hi'
  obtain ⟨r, _, hg, e⟩ := hh i hir
  rw [List.getElem?_eq_getElem hir] at hg
  injection hg with hg
  rw [e, hg]
end

theorem sum_bound {m : Nat} {LV : List Nat} (h : ∀ i, at0 LV i < m ∨ at0 LV i = 0) : LV.sum ≤ LV.length * (m + 1) := by
  refine sum_low LV (m + 1) (fun x hx => ?_)
  obtain ⟨i, hi, rfl⟩ := List.getElem_of_mem hx
  have := h i
  unfold at0 at this
  rw [List.getElem?_eq_getElem hi] at this
  simp only [Option.getD_some] at this
  omega

theorem low_set {m : Nat} {LV : List Nat} (h : ∀ i, at0 LV i < m ∨ at0 LV i = 0) {i v : Nat} (hv : v < m) : ∀ j, at0 (LV.set i v) j < m ∨ at0 (LV.set i v) j = 0 := by
  intro j
  by_cases e : i = j
  · subst e
    by_cases hl : i < LV.length
    · rw [at0_set hl]; exact .inl hv
    · rw [List.set_eq_of_length_le (by omega)]; exact h i
  · rw [at0_set_ne e]; exact h j

end Go.Proofs.YtnhbnhibphjljaaGreatDoor

namespace Go.Proofs.YtnhbnhibphjljaaGreatDoor
open Go.RowKit Go.Maps Go.WideMaps

/-- 'm[s]' on a map of numbers, outside a fence. -/
theorem lookup_atW {ops : Array Oper} {rest : List Oper} {o : Oper} {a : Act} {Q : Exit → Act → World → Prop} (w : World) (hg : o.guard = none) (m x : Operand) (hop : o.op = Op.lookup 87 m x false) (b N : Nat) (ps : List (ByteArray × Nat)) (hm : a.eval m = .map (some b)) (hown : w.ownsMap Tryz.prog 9 (plainElem Tryz.prog 3) b N (imap ps)) (s : ByteArray) (hx : a.eval x = .string s) (hs : s.size ≤ maxLen) (n : Nat) (h1 : (lastOf ps s).getD 0 = n)
    (hK : wpList Tryz.prog ops Q rest (a.put o.dst (.int .i64 (n : Int))) w) : wpList Tryz.prog ops Q (o :: rest) a w :=
  wpList_lookup_own_int w hg m x _ hop 9 3 .i64 Tryz.lawS Tryz.underlying87 Tryz.underlying3 (Tryz.zeroValue3 _) b N _ hm hown _ _ hx (keyOf_string_mk Tryz.underlying9 hs) (fun c hat _ => by
    have hat' : (imap ps).atKey (strK s) (.lit (.int .i64 0)) = .lit (.int .i64 c) := hat
    rw [imap_at] at hat'
    injection hat' with hat'
    injection hat' with _ hat'
    rw [← hat', h1]; exact hK)

/-- What stays through all passes: the table, its map, whose names are heads' names. -/
structure StrSt (w : World) (rs : List Rl) (Av : Option Addr) (q cv b N : Nat) (ps : List (ByteArray × Nat)) (gT gh gl : Nat) (W : World) : Prop where
  T : Blk W gT 101 #[.slice Av q cv, .map (some b)]
  M : W.ownsMap Tryz.prog 9 (plainElem Tryz.prog 3) b N (imap ps)
  H : BoolRow W gh q (hdF ps rs)
  B : Below w.heap.size w W
  z : w.heap.size ≤ gl ∧ gl < W.heap.size ∧ b ≠ gl ∧ gT ≠ gl ∧ gh ≠ gl

section
variable {w W W' : World} {rs : List Rl} {Av : Option Addr} {q cv b N : Nat} {ps : List (ByteArray × Nat)} {gT gh gl : Nat}
theorem StrSt.below (h : StrSt w rs Av q cv b N ps gT gh gl W) (hb : Below W.heap.size W W') : StrSt w rs Av q cv b N ps gT gh gl W' :=
  ⟨h.T.below hb, ownsMap_below h.M hb h.M.lt, h.H.below hb, belowThen h.B hb, h.z.1, Nat.lt_of_lt_of_le h.z.2.1 hb.size, h.z.2.2⟩
theorem StrSt.set (h : StrSt w rs Av q cv b N ps gT gh gl W) (i : Nat) (v : Value) : StrSt w rs Av q cv b N ps gT gh gl (W.setCell ⟨gl, i, none⟩ v) :=
  ⟨h.T.far (p := ⟨gl, i, none⟩) h.z.2.2.2.1 v, h.M.kept (grownBy_setC W ⟨gl, i, none⟩ v) (fun e => by injection e with e; exact h.z.2.2.1 e), h.H.keep (Below.heap_setCell _ _ _ _ h.z.2.2.2.2), h.B.setCell (p := ⟨gl, i, none⟩) h.z.1 v, h.z.1, by rw [size_setCell]; exact h.z.2.1, h.z.2.2⟩
theorem StrSt.drewN (h : StrSt w rs Av q cv b N ps gT gh gl W) (a : Nat) : StrSt w rs Av q cv b N ps gT gh gl (W.drewN a) :=
  ⟨h.T, h.M, h.H, ⟨h.B.os, h.B.tape, h.B.output, h.B.size, h.B.block⟩, h.z⟩
end

/-- A pass's levels. -/
structure PassSt (w : World) (rs : List Rl) (Av : Option Addr) (q cv b N : Nat) (ps : List (ByteArray × Nat)) (gT gh gl : Nat) (L : List ByteArray) (m : Nat) (LV : List Nat) (W : World) : Prop where
  row : IntRow W gl q LV
  st : StrSt w rs Av q cv b N ps gT gh gl W
  ask : Asked rs ps L LV
  low : ∀ i, at0 LV i < m ∨ at0 LV i = 0

section
variable {w W W' : World} {rs : List Rl} {Av : Option Addr} {q cv b N : Nat} {ps : List (ByteArray × Nat)} {gT gh gl m : Nat} {L : List ByteArray} {LV : List Nat}
theorem PassSt.below (h : PassSt w rs Av q cv b N ps gT gh gl L m LV W) (hb : Below W.heap.size W W') : PassSt w rs Av q cv b N ps gT gh gl L m LV W' := ⟨h.row.below hb, h.st.below hb, h.ask, h.low⟩
theorem PassSt.drewN (h : PassSt w rs Av q cv b N ps gT gh gl L m LV W) (a : Nat) : PassSt w rs Av q cv b N ps gT gh gl L m LV (W.drewN a) := ⟨h.row.keep rfl, h.st.drewN a, h.ask, h.low⟩
theorem PassSt.set (h : PassSt w rs Av q cv b N ps gT gh gl L m LV W) (hP : PlacesOf L ps) (hq : L.length = q) {i v : Nat} {s : ByteArray} (hi : L[i]? = some s) (hd : Der (edgesOf rs) s v) (hv : v < m) : PassSt w rs Av q cv b N ps gT gh gl L m (LV.set i v) (W.setCell ⟨gl, i, none⟩ (.int .i64 ((v : Nat) : Int))) :=
  have hiq : i < q := by rw [← hq]; exact (List.getElem?_eq_some_iff.1 hi).1
  ⟨h.row.set hiq v, h.st.set i _, h.ask.set hP hi hd (by rw [h.row.1, hq]), low_set h.low hv⟩
theorem PassSt.grown (h : PassSt w rs Av q cv b N ps gT gh gl L m LV W) {row : Option Nat} {Bz : Nat} (hg : W.grownBy W' row) (hr : ∀ g, row = some g → Bz ≤ g) (h1 : gT < Bz) (h2 : b < Bz) (h3 : gh < Bz) (h4 : gl < Bz) (h5 : w.heap.size ≤ Bz) : PassSt w rs Av q cv b N ps gT gh gl L m LV W' :=
  ⟨h.row.keep (hg.block gl h.row.lt (fun e => by have := hr _ e.symm; omega)), ⟨h.st.T.kept hg (fun e => by have := hr _ e.symm; omega), h.st.M.kept hg (fun e => by have := hr _ e.symm; omega), h.st.H.keep (hg.block gh (World.rowIs.lt h.st.H) (fun e => by have := hr _ e.symm; omega)), h.st.B.grown hg h.st.B.size (fun j e => by have := hr _ e; omega), h.st.z.1, Nat.lt_of_lt_of_le h.st.z.2.1 hg.size, h.st.z.2.2⟩, h.ask, h.low⟩
theorem PassSt.small (h : PassSt w rs Av q cv b N ps gT gh gl L m LV W) (hm : m ≤ 8) (i : Nat) : at0 LV i ≤ 8 := by rcases h.low i with h | h <;> omega
theorem PassSt.sum (h : PassSt w rs Av q cv b N ps gT gh gl L m LV W) (hm : m ≤ 8) (hq : q ≤ 40) : LV.sum ≤ 360 := by
  have h1 := sum_bound h.low
  rw [h.row.1] at h1
  have h2 : q * (m + 1) ≤ 40 * 9 := Nat.mul_le_mul hq (by omega)
  omega
end

theorem one_new (W : World) (x : Value) (t : TypeId) : ∀ j u, [x][j]? = some u → (W.alloc (.cells #[x] t)).cell? ((⟨W.heap.size, 0, none⟩ : Addr).add j) = some u := by
  intro j u hu
  match j, hu with
  | 0, hu => simp at hu; subst hu; simp [go_sem, Addr.add]

theorem rowT_base {W : World} {base base' n sz : Nat} {T : TypeId} {v : Value} {xs : List Value} (h : W.ownsRow base T sz v n xs) (hb : base' ≤ base) : W.ownsRow base' T sz v n xs :=
  ⟨h.1, h.2.imp id (fun ⟨g, cap, cur, e, h1, h2⟩ => ⟨g, cap, cur, e, Nat.le_trans hb h1, h2⟩)⟩

theorem rowT_old {W : World} {base n sz : Nat} {T : TypeId} {v : Value} {xs : List Value} (h : W.ownsRow base T sz v n xs) : ∀ g, v.ownBlock = some g → base ≤ g := by
  intro g hg
  rcases h.2 with ⟨rfl, _⟩ | ⟨g', cap, cur, rfl, h1, _⟩
  · simp [Value.ownBlock] at hg
  · have : g' = g := by simpa [Value.ownBlock] using hg
    omega

def StrataPost (rs : List Rl) (m : Nat) (w : World) (e : Ending) (w' : World) : Prop :=
  (cycB rs = true ∧ ∃ nm, e = .returned (.tuple #[.slice none 0 0, .iface 96 (.agg #[.string nm])]) ∧ Below w.heap.size w w') ∨
  (cycB rs = false ∧ ∃ v, e = .returned (.tuple #[v, .nilIface]) ∧ w'.ownsRow w.heap.size 3 1 v m ((levelsL rs).map fun x => .int .i64 ((x : Nat) : Int)) ∧ Below w.heap.size w w')

set_option maxRecDepth 100000 in
set_option maxHeartbeats 8000000 in
theorem strataOf_any (A : Option Addr) (m c : Nat) (rs : List Rl) (w : World) (h : IsRules w 0 w.heap.size A m c rs) (hm : m ≤ 8) (h4 : ∀ r ∈ rs, r.2.length ≤ 4) (h3 : ∀ a ∈ atsOf rs, a.1.size ≤ maxLen) :
    Calls Tryz.prog 65 #[.slice A m c] w (StrataPost rs m w) := by
  have HL := Lib.hid h.1
  have H := Lib.hid h; have H4 := Lib.hid h4; have H3 := Lib.hid h3
  have hlen := Nat.le_trans (atsOf_len rs h4) (Nat.mul_le_mul_left 5 (show rs.length ≤ 8 by rw [h.1]; exact hm))
  have hnl := namesL_len (atsOf rs)
  have hnin : ∀ r ∈ rs, r.1.1 ∈ namesL (atsOf rs) ∧ ∀ p ∈ r.2, p.2.1 ∈ namesL (atsOf rs) := fun r hr => names_in hr
  clear h h4 h3
  obtain ⟨L, hLd⟩ : ∃ L, namesL (atsOf rs) = L := ⟨_, rfl⟩
  rw [hLd] at hnl hnin
  obtain ⟨q, hq⟩ : ∃ q, L.length = q := ⟨_, rfl⟩
  rw [hq] at hnl
  have hq40 : q ≤ 40 := by omega
  have HLD := Lib.hid hLd; have HQ := Lib.hid hq; have HN := Lib.hid hnin
  clear hLd hq hnin hlen hnl
  obtain ⟨i0, hi, hz, hsz, hby⟩ := info_parts Tryz.infoInt
  have hmk : ∀ W : World, (Instr.makeSlice 36 (.int .i64 (q : Int)) (.int .i64 (q : Int))).run Tryz.prog W = .ok (.slice (some ⟨W.heap.size, 0, none⟩) q q) (W.alloc (.cells (madeCells #[.int .i64 0] (q * 1)) 3)) := by
    intro W
    have hr := run_make (P := Tryz.prog) W 36 3 i0 _ Tryz.underlying36 hi hz .i64 .i64 q q (by omega) (Int.le_refl _) (by rw [hby]; omega) (by omega)
    rw [hsz] at hr
    exact hr
  have HI := Lib.hid hi; have HZ := Lib.hid hz; have HSZ := Lib.hid hsz; have HYY := Lib.hid hby
  clear hi hz hsz hby
  go_enter Tryz.func65, Tryz.ntmps65
  go_wp2_with fail
  refine (namesOf_any A m c rs _ H.out hm H4.out H3.out).mono ?_; rintro e w1 ⟨v, b, N, ps, rfl, hrow, ⟨hbw, hP⟩, hM, hb1⟩
  rw [HLD.out, HQ.out] at hrow; rw [HLD.out] at hP
  obtain ⟨Av, cv, rfl⟩ : ∃ Av cv, v = .slice Av q cv := by
    rcases hrow.2 with ⟨e1, e2⟩ | ⟨g, cap, cur, e1, _⟩
    · exact ⟨none, 0, by rw [e1, e2]⟩
    · exact ⟨_, cap, e1⟩
  have HP := Lib.hid hP; have HM := Lib.hid hM; have hbl := hM.lt
  clear hrow hP hM
  have X1 := Blk.new w1 101 #[.slice Av q cv, .map (some b)]
  have hbT := below1 w1 (.cells #[.slice Av q cv, .map (some b)] 101)
  have HM1 := Lib.hid (ownsMap_below HM.out hbT hbl)
  have HX1 := Lib.hid X1
  have hR1 := Lib.hid (H.out.up RuleE.stays (belowThen hb1 hbT))
  clear X1
  go_wp2_with fail
  refine (headPlaces_any A m c rs _ hR1.out hm Av q cv b N ps L HM1.out HP.out HQ.out hq40 (fun r hr => (HN.out r hr).1)).mono ?_; rintro e w2 ⟨rfl, hH, hb2⟩
  have hzT : (w1.alloc (.cells #[.slice Av q cv, .map (some b)] 101)).heap.size = w1.heap.size + 1 := by simp
  rw [hzT] at hH ⊢
  have hz1 := hb1.size
  have hz2 := hb2.size
  rw [hzT] at hz2
  have HT2 := Lib.hid (HX1.out.below hb2); have HM2 := Lib.hid (ownsMap_below HM1.out hb2 HM1.out.lt); have HB2 := Lib.hid (belowThen (belowThen hb1 hbT) hb2)
  have HH := Lib.hid hH
  have hghl := World.rowIs.lt hH
  have t0 := HT2.out.cell 0
  have t1 := HT2.out.cell 1
  simp only [List.getElem?_toArray, List.getElem?_cons_zero, List.getElem?_cons_succ] at t0 t1
  clear hH hb1 hb2 hbT
  go_wp2_with fail
  have hP0 : PassSt w rs Av q cv b N ps w1.heap.size (w1.heap.size + 1 + 1) w2.heap.size L m (List.replicate q 0) (w2.alloc (.cells (madeCells #[.int .i64 0] q) 3)) := by
    have hba := below1 w2 (.cells (madeCells #[.int .i64 0] q) 3)
    refine ⟨⟨List.length_replicate, ?_⟩, ⟨HT2.out.below hba, ownsMap_below HM2.out hba HM2.out.lt, HH.out.below hba, belowThen HB2.out hba, by omega, by simp, by omega, by omega, by omega⟩, Asked.zero q, fun i => .inr ?_⟩
    · have := World.rowIs_made w2 (.int .i64 0) q 3
      refine this.congr fun j hj => ?_
      unfold at0; rw [List.getElem?_replicate, if_pos hj]; rfl
    · unfold at0; rw [List.getElem?_replicate]; split <;> rfl
  have HP0 := Lib.hid hP0
  clear hP0 hmk t0 t1
  go_loopg [7] 401 (fun gk x wr => ∃ (ch : Bool) (LV : List Nat), x = .bool ch ∧ gk = (if ch = true then 400 - LV.sum + 1 else 0) ∧ PassSt w rs Av q cv b N ps w1.heap.size (w1.heap.size + 1 + 1) w2.heap.size L m LV wr ∧ (ch = false → ∀ r ∈ rs, leastF ps (hdF ps rs) LV r.2 ≤ lvl ps LV r.1.1))
  case atStart => exact ⟨true, List.replicate q 0, rfl, by simp, HP0.out, fun h => by cases h⟩
  case round =>
    obtain ⟨ch, LV, rfl, hgk, hS, hmet⟩ := hrel
    have HS := Lib.hid hS; have HG := Lib.hid hgk; have HMET := Lib.hid hmet
    clear hS hgk hmet
    cases ch
    · have HMT := Lib.hid (HMET.out rfl)
      have hb := HS.out.st.B
      have HEND := Lib.hid (strata_end HP.out (fun r hr => (HN.out r hr).1) (fun r hr => (HN.out r hr).2) HS.out.ask HMT.out (fun i => by rw [HL.out]; exact HS.out.low i))
      have hBz : w1.heap.size < wr.heap.size ∧ b < wr.heap.size ∧ w1.heap.size + 1 + 1 < wr.heap.size ∧ w2.heap.size < wr.heap.size ∧ w.heap.size ≤ wr.heap.size := ⟨HS.out.st.T.lt, HS.out.st.M.lt, World.rowIs.lt HS.out.st.H, HS.out.st.z.2.1, hb.size⟩
      obtain ⟨z1, z2, z3, z4, z5⟩ := hBz
      go_wp2_with fail
      obtain ⟨w3, hw3⟩ : ∃ w3 : World, w3 = wr := ⟨_, rfl⟩
      subst hw3
      go_loopw [12, 64] (fun y x wr => ∃ (k : Nat) (Ao : Option Addr) (co : Nat), k ≤ m ∧ x = .int .i64 (k : Int) ∧ y = .slice Ao k co ∧ wr.ownsRow w3.heap.size 3 1 (.slice Ao k co) k ((rs.take k).map fun r => .int .i64 ((lvl ps LV r.1.1 : Nat) : Int)) ∧ PassSt w rs Av q cv b N ps w1.heap.size (w1.heap.size + 1 + 1) w2.heap.size L m LV wr ∧ w3.heap.size ≤ wr.heap.size) (fun _ x _ => m - (intOf x).toNat)
      case atStart => exact ⟨0, none, 0, Nat.zero_le _, rfl, rfl, ⟨rfl, .inl ⟨rfl, rfl⟩⟩, HS.out, Nat.le_refl _⟩
      case round =>
        obtain ⟨k, Ao, co, hkm, rfl, rfl, hrow, hS', hwz⟩ := hrel
        have HRW := Lib.hid hrow; have HS' := Lib.hid hS'
        clear hrow hS'
        have hb' := HS'.out.st.B
        by_cases hlt : k < m
        · have hltI : (k : Int) < (m : Int) := by omega
          obtain ⟨p, r, A', n', c', B, mm, d, hA, hpb, hg, d1, d2, d3, d4, d5, d6⟩ := rule_at (H.out.below RuleE.stays hb' (Nat.le_refl _)) hlt
          subst hA
          have hrin := List.mem_of_getElem? hg
          obtain ⟨i, hi, hlo, hpl⟩ := place_of HP.out (HN.out r hrin).1
          have hiq : i < q := by rw [← HQ.out]; exact (List.getElem?_eq_some_iff.1 hi).1
          have hiI : (i : Int) < (q : Int) := by omega
          have HGr := Lib.hid hg; have HLO := Lib.hid hlo; have HPL := Lib.hid hpl
          have ha1 := below1 wr (.cells #[.string r.1.1, .slice A' n' c', .slice B mm d] 72)
          have HSa := Lib.hid (HS'.out.below ha1)
          have HRa := Lib.hid (HRW.out.alloc (.cells #[.string r.1.1, .slice A' n' c', .slice B mm d] 72))
          have u1 := HSa.out.st.T.cell 1
          simp only [List.getElem?_toArray, List.getElem?_cons_zero, List.getElem?_cons_succ] at u1
          have c4 := HSa.out.row.cell hiq
          obtain ⟨av, hav⟩ : ∃ av, at0 LV i = av := ⟨_, rfl⟩
          rw [hav] at c4
          have HAV := Lib.hid (show lvl ps LV r.1.1 = av by unfold lvl; rw [hpl, hav])
          have hnew := one_new (wr.alloc (.cells #[.string r.1.1, .slice A' n' c', .slice B mm d] 72)) (.int .i64 (av : Int)) 3
          rw [show (wr.alloc (.cells #[.string r.1.1, .slice A' n' c', .slice B mm d] 72)).heap.size = wr.heap.size + 1 by simp] at hnew
          have HNEW := Lib.hid hnew
          clear hg hi hlo hpl hrin d4 d6 hav hnew
          go_wp2_with (first
            | (at_lookup; refine lookup_atW _ rfl _ _ rfl b N ps rfl HSa.out.st.M r.1.1 rfl d2 i (by rw [HLO.out]; rfl) ?_)
            | (at_builtin; refine wpList_append_own _ rfl _ _ 36 rfl w3.heap.size 3 i0 _ 1 8 Tryz.underlying36 HI.out HZ.out HSZ.out HYY.out rfl (by decide) _ _ _ rfl (HRa.out.alloc _) ⟨wr.heap.size + 1, 0, none⟩ 1 1 [.int .i64 (av : Int)] rfl rfl HNEW.out (by simp [Value.oneCell']) (by unfold maxLen; omega) (by omega) (by simp; omega) ?_; intro v' w5 hown' hgrow' _; obtain ⟨g', cap', rfl⟩ := ownsRow_succ hown'; have hown := Lib.hid hown'; have hgrow := Lib.hid hgrow'; clear hown' hgrow'))
          have hold := rowT_old HRa.out
          have HS5 := Lib.hid ((HSa.out.below (below1 _ (.cells #[.int .i64 (av : Int)] 3))).grown hgrow.out hold z1 z2 z3 z4 z5)
          have HR5 : Hid (w5.ownsRow w3.heap.size 3 1 (.slice (some ⟨g', 0, none⟩) (k + 1) cap') (k + 1) ((rs.take (k + 1)).map fun r => .int .i64 ((lvl ps LV r.1.1 : Nat) : Int))) := Lib.hid (by
            have e : (rs.take (k + 1)).map (fun r => Value.int .i64 ((lvl ps LV r.1.1 : Nat) : Int)) = (rs.take k).map (fun r => Value.int .i64 ((lvl ps LV r.1.1 : Nat) : Int)) ++ [.int .i64 (av : Int)] := by rw [List.take_add_one, HGr.out, List.map_append, ← HAV.out]; rfl
            rw [e]; exact hown.out)
          have hz5 : w3.heap.size ≤ w5.heap.size := by have := hgrow.out.size; simp at this; omega
          clear hown hgrow hold c4 u1
          go_roundw
          case rel => exact ⟨k + 1, _, _, by omega, by go_num, rfl, HR5.out, HS5.out, hz5⟩
          case measure => simp [intOf]; omega
        · have hke : k = m := by omega
          subst hke
          have hkI : ¬ (k : Int) < (k : Int) := by omega
          have HTK := Lib.hid (show rs.take k = rs from List.take_of_length_le (by rw [HL.out]; exact Nat.le_refl _))
          have HR6 : Hid (wr.ownsRow w.heap.size 3 1 (.slice Ao k co) k ((levelsL rs).map fun x => .int .i64 ((x : Nat) : Int))) := Lib.hid (by
            have h0 := rowT_base HRW.out z5
            rw [HTK.out] at h0
            rw [HEND.out.2, List.map_map]
            exact h0)
          go_wp2
          go_ret2
          exact .inr ⟨HEND.out.1, _, rfl, HR6.out, HS'.out.st.B⟩
    · go_wp2_with fail
      obtain ⟨w3, hw3⟩ : ∃ w3 : World, w3 = wr := ⟨_, rfl⟩
      subst hw3
      go_loopw [7, 27] (fun y x wr => ∃ (k : Nat) (ch : Bool) (LV' : List Nat), k ≤ m ∧ y = .bool ch ∧ x = .int .i64 (k : Int) ∧ PassSt w rs Av q cv b N ps w1.heap.size (w1.heap.size + 1 + 1) w2.heap.size L m LV' wr ∧ (ch = false → LV' = LV ∧ ∀ r ∈ rs.take k, leastF ps (hdF ps rs) LV r.2 ≤ lvl ps LV r.1.1) ∧ (ch = true → LV.sum < LV'.sum)) (fun _ x _ => m - (intOf x).toNat)
      case atStart => exact ⟨0, false, LV, Nat.zero_le _, rfl, rfl, HS.out, fun _ => ⟨rfl, fun r hr => by simp at hr⟩, fun h => by cases h⟩
      case round =>
        obtain ⟨k, ch, LV', hkm, rfl, rfl, hS', hno, hyes⟩ := hrel
        have HS' := Lib.hid hS'; have HNO := Lib.hid hno; have HYES := Lib.hid hyes
        clear hS' hno hyes
        have hb := HS'.out.st.B
        have hbs := hb.size
        by_cases hlt : k < m
        · have hltI : (k : Int) < (m : Int) := by omega
          obtain ⟨p, r, A', n', c', B, mm, d, hA, hpb, hg, d1, d2, d3, d4, d5, d6⟩ := rule_at (H.out.below RuleE.stays hb (Nat.le_refl _)) hlt
          subst hA
          have hrin := List.mem_of_getElem? hg
          obtain ⟨i, hi, hlo, hpl⟩ := place_of HP.out (HN.out r hrin).1
          have hiq : i < q := by rw [← HQ.out]; exact (List.getElem?_eq_some_iff.1 hi).1
          have hiI : (i : Int) < (q : Int) := by omega
          have hmm4 : mm ≤ 4 := by rw [← d6.1]; exact H4.out r hrin
          have HGr := Lib.hid hg; have HI' := Lib.hid hi; have HLO := Lib.hid hlo; have HPL := Lib.hid hpl; have HRIN := Lib.hid hrin
          have ha1 := below1 wr (.cells #[.string r.1.1, .slice A' n' c', .slice B mm d] 72)
          have HSa := Lib.hid (HS'.out.below ha1)
          have HPa := Lib.hid (d6.keep (w' := wr.alloc (.cells #[.string r.1.1, .slice A' n' c', .slice B mm d] 72)) (lo' := 0) (hi' := (wr.alloc (.cells #[.string r.1.1, .slice A' n' c', .slice B mm d] 72)).heap.size) PartE.stays (fun x _ hx => World.cell?_alloc_lt wr _ x (by omega)) (Nat.le_refl _) (by simp; omega))
          have XR := Blk.new wr 72 #[.string r.1.1, .slice A' n' c', .slice B mm d]
          have HXR := Lib.hid XR
          have u0 := HSa.out.st.T.cell 0
          have u1 := HSa.out.st.T.cell 1
          simp only [List.getElem?_toArray, List.getElem?_cons_zero, List.getElem?_cons_succ] at u0 u1
          clear hg hi hlo hpl hrin d4 d6 XR
          obtain ⟨lev, hlev⟩ : ∃ lev, leastF ps (hdF ps rs) LV' r.2 = lev := ⟨_, rfl⟩
          obtain ⟨av, hav⟩ : ∃ av, at0 LV' i = av := ⟨_, rfl⟩
          have hav8 := HSa.out.small hm i
          rw [hav] at hav8
          have hlev9 := leastF_le (fun j => HSa.out.small hm j) (ps := ps) (hd := hdF ps rs) r.2
          rw [hlev] at hlev9
          have hder := least_der HP.out (fun r hr => (HN.out r hr).1) (fun r hr => (HN.out r hr).2) HSa.out.ask HRIN.out
          rw [hlev] at hder
          have HLEV := Lib.hid hlev; have HAT := Lib.hid hav; have HD := Lib.hid hder
          clear hlev hav hder
          by_cases hle : lev ≤ av
          · have hleI : (lev : Int) ≤ (av : Int) := by omega
            go_wp2_with (first
              | (at_lookup; refine lookup_atW _ rfl _ _ rfl b N ps rfl HSa.out.st.M r.1.1 rfl d2 i (by rw [HLO.out]; rfl) ?_)
              | (go_at_call 115; refine (leastLevel_any r.1.1 A' n' c' B mm d r.2 _ HPa.out hmm4 Av q cv b N ps L HSa.out.st.M HP.out HQ.out (HN.out r HRIN.out).2 (w1.heap.size + 1 + 1) w2.heap.size (hdF ps rs) LV' HSa.out.st.H HSa.out.row (fun j => Nat.le_trans (HSa.out.small hm j) (by decide))).mono ?_; rw [HLEV.out]; rintro e w4 ⟨rfl, hb4⟩; have HS4 := Lib.hid (HSa.out.below hb4); have HX4 := Lib.hid (HXR.out.below hb4); have c4 := HS4.out.row.cell hiq; rw [HAT.out] at c4; have z4 := HS4.out.row.frozen i; have x4 := HX4.out.cell 0; simp only [List.getElem?_toArray, List.getElem?_cons_zero] at x4; clear u0 u1 hb4))
            go_roundw
            case rel =>
              refine ⟨k + 1, ch, LV', by omega, rfl, by go_num, HS4.out, fun hc => ?_, fun hc => HYES.out hc⟩
              obtain ⟨e1, e2⟩ := HNO.out hc
              refine ⟨e1, all_snoc HGr.out e2 ?_⟩
              rw [← e1, HLEV.out]; unfold lvl; rw [HPL.out, HAT.out]; exact hle
            case measure => simp [intOf]; omega
          · have hleI : ¬ (lev : Int) ≤ (av : Int) := by omega
            by_cases hge : m ≤ lev
            · have hgeI : (m : Int) ≤ (lev : Int) := by omega
              go_wp2_with (first
                | (at_lookup; refine lookup_atW _ rfl _ _ rfl b N ps rfl HSa.out.st.M r.1.1 rfl d2 i (by rw [HLO.out]; rfl) ?_)
                | (go_at_call 115; refine (leastLevel_any r.1.1 A' n' c' B mm d r.2 _ HPa.out hmm4 Av q cv b N ps L HSa.out.st.M HP.out HQ.out (HN.out r HRIN.out).2 (w1.heap.size + 1 + 1) w2.heap.size (hdF ps rs) LV' HSa.out.st.H HSa.out.row (fun j => Nat.le_trans (HSa.out.small hm j) (by decide))).mono ?_; rw [HLEV.out]; rintro e w4 ⟨rfl, hb4⟩; have HS4 := Lib.hid (HSa.out.below hb4); have HX4 := Lib.hid (HXR.out.below hb4); have c4 := HS4.out.row.cell hiq; rw [HAT.out] at c4; have z4 := HS4.out.row.frozen i; have x4 := HX4.out.cell 0; simp only [List.getElem?_toArray, List.getElem?_cons_zero] at x4; clear u0 u1 hb4))
              go_quiet (fail)
              go_wp2
              go_ret2
              exact .inl ⟨levels_high rs (i := k) (by rw [HL.out]; exact hlt) (by rw [headAt_of HGr.out]; exact HD.out) (by rw [HL.out]; exact hge), _, rfl, HS4.out.st.B.os, HS4.out.st.B.tape, HS4.out.st.B.output, HS4.out.st.B.size, HS4.out.st.B.block⟩
            · have hgeI : ¬ (m : Int) ≤ (lev : Int) := by omega
              go_wp2_with (first
                | (at_lookup; refine lookup_atW _ rfl _ _ rfl b N ps rfl HSa.out.st.M r.1.1 rfl d2 i (by rw [HLO.out]; rfl) ?_)
                | (go_at_call 115; refine (leastLevel_any r.1.1 A' n' c' B mm d r.2 _ HPa.out hmm4 Av q cv b N ps L HSa.out.st.M HP.out HQ.out (HN.out r HRIN.out).2 (w1.heap.size + 1 + 1) w2.heap.size (hdF ps rs) LV' HSa.out.st.H HSa.out.row (fun j => Nat.le_trans (HSa.out.small hm j) (by decide))).mono ?_; rw [HLEV.out]; rintro e w4 ⟨rfl, hb4⟩; have HS4 := Lib.hid (HSa.out.below hb4); have HX4 := Lib.hid (HXR.out.below hb4); have c4 := HS4.out.row.cell hiq; rw [HAT.out] at c4; have z4 := HS4.out.row.frozen i; have x4 := HX4.out.cell 0; simp only [List.getElem?_toArray, List.getElem?_cons_zero] at x4; clear u0 u1 hb4))
              have HS5 := Lib.hid (HS4.out.set HP.out HQ.out HI'.out HD.out (show lev < m by omega))
              have hsum := sum_set LV' i lev (by rw [HS4.out.row.1]; exact hiq)
              rw [HAT.out] at hsum
              have HSUM := Lib.hid (show LV.sum < (LV'.set i lev).sum by
                cases hc : ch
                · have e1 := (HNO.out hc).1
                  rw [e1] at hsum ⊢; omega
                · have := HYES.out hc
                  omega)
              clear c4 z4 x4 hsum
              go_roundw
              case rel => exact ⟨k + 1, true, LV'.set i lev, by omega, rfl, by go_num, HS5.out, (fun hc => by cases hc), fun _ => HSUM.out⟩
              case measure => simp [intOf]; omega
        · have hke : k = m := by omega
          have hkI : ¬ (k : Int) < (m : Int) := by omega
          have hs1 := HS.out.sum hm hq40
          have hs2 := HS'.out.sum hm hq40
          have hgk : gk = 400 - LV.sum + 1 := by have := HG.out; simpa using this
          have HTK := Lib.hid (show rs.take k = rs from List.take_of_length_le (by rw [HL.out]; omega))
          cases ch
          · obtain ⟨e1, e2⟩ := HNO.out rfl
            rw [HTK.out] at e2
            have HE1 := Lib.hid e1; have HE2 := Lib.hid e2
            have HGK := Lib.hid hgk
            clear e1 e2 hgk
            go_wp2_with fail
            go_roundg 0
            case rel => exact ⟨false, LV', rfl, rfl, HS'.out, fun _ => by rw [HE1.out]; exact HE2.out⟩
            case measure => rw [HGK.out]; omega
          · have hy := HYES.out rfl
            have HGK := Lib.hid hgk
            clear hgk
            go_wp2_with fail
            go_roundg (400 - LV'.sum + 1)
            case rel => exact ⟨true, LV', rfl, (if_pos rfl).symm, HS'.out, fun h => by cases h⟩
            case measure => rw [HGK.out]; omega

end Go.Proofs.YtnhbnhibphjljaaGreatDoor

