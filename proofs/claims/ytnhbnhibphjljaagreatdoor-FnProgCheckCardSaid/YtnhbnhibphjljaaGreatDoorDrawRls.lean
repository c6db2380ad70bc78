/-
  Rules drawn: their terms and their bodies lie in rows of their own kinds, so a row of rules may grow beside them.
  Drawing: an atom of two variables; a body. (Written by tools/drawbody.py.)
  Drawing: a rule in the making. (Written by tools/drawrules.py.)
  Drawing: rules. (Written by tools/drawrules.py.)
  Drawing: any rules. (Written by tools/drawany.py.)
-/
import Derived.Test.YtnhbnhibphjljaaGreatDoorRKeep
import Derived.Test.YtnhbnhibphjljaaGreatDoorDraw
import Derived.Test.YtnhbnhibphjljaaGreatDoorCheckImpl
namespace Go.Proofs.YtnhbnhibphjljaaGreatDoor
open Go.RowKit

/-- Parts in a row of parts, each with its terms in a row of terms. -/
def TyParts (w : World) (lo hi : Nat) (A : Option Addr) (n c : Nat) (ps : List Pf) : Prop :=
  ps.length = n ∧ n ≤ c ∧ c ≤ maxLen ∧
  (0 < n → ∃ g k f, A = some ⟨g, 0, none⟩ ∧ lo ≤ g ∧ g < hi ∧ w.rowIs g 69 k f ∧ n * 3 ≤ k ∧ ∀ j u, (pcells ps)[j]? = some u → f j = u) ∧
  ∀ p ∈ ps, HeadApart w lo hi p.2

/-- A rule whose terms and parts lie in rows of their kinds. -/
def TyRule (w : World) (lo hi : Nat) (r : Rr) : Prop := HeadApart w lo hi r.1 ∧ TyParts w lo hi r.2.1 r.2.2.1 r.2.2.2.1 r.2.2.2.2

section
variable {w w' : World} {lo hi lo' hi' n c : Nat} {A : Option Addr} {ps : List Pf} {r : Rr}

theorem TyParts.keep (h : TyParts w lo hi A n c ps) (hk : ∀ b, lo ≤ b → b < hi → w'.heap[b]? = w.heap[b]?) (h1 : lo' ≤ lo) (h2 : hi ≤ hi') : TyParts w' lo' hi' A n c ps := by
  obtain ⟨a, b, d, e, f⟩ := h
  refine ⟨a, b, d, fun hn => ?_, fun p hp => (f p hp).keep hk h1 h2⟩
  obtain ⟨g, k, f', e1, e2, e3, e4, e5⟩ := e hn
  exact ⟨g, k, f', e1, by omega, by omega, e4.of_block (hk g e2 e3), e5⟩

theorem TyParts.far {g : Nat} (h : TyParts w lo hi A n c ps) (hk : ∀ b, b < w.heap.size → b ≠ g → w'.heap[b]? = w.heap[b]?) (hT : ∀ k f, ¬ w.rowIs g 64 k f) (hP : ∀ k f, ¬ w.rowIs g 69 k f) : TyParts w' lo hi A n c ps := by
  obtain ⟨a, b, d, e, f⟩ := h
  refine ⟨a, b, d, fun hn => ?_, fun p hp => (f p hp).far hk hT⟩
  obtain ⟨g', k, f', e1, e2, e3, e4, e5⟩ := e hn
  exact ⟨g', k, f', e1, e2, e3, e4.of_block (hk g' e4.lt (fun e => hP _ _ (e ▸ e4))), e5⟩

theorem TyRule.keep (h : TyRule w lo hi r) (hk : ∀ b, lo ≤ b → b < hi → w'.heap[b]? = w.heap[b]?) (h1 : lo' ≤ lo) (h2 : hi ≤ hi') : TyRule w' lo' hi' r :=
  ⟨h.1.keep hk h1 h2, h.2.keep hk h1 h2⟩

theorem TyRule.far {g : Nat} (h : TyRule w lo hi r) (hk : ∀ b, b < w.heap.size → b ≠ g → w'.heap[b]? = w.heap[b]?) (hT : ∀ k f, ¬ w.rowIs g 64 k f) (hP : ∀ k f, ¬ w.rowIs g 69 k f) : TyRule w' lo hi r :=
  ⟨h.1.far hk hT, h.2.far hk hT hP⟩

/-- Where a row of rules was appended to. -/
theorem TyRule.appended {base k : Nat} {v : Value} {cs : List Value} (h : TyRule w lo hi r) (hrow : w.ownsRow base 72 3 v k cs) (hg : w.grownBy w' v.ownBlock) : TyRule w' lo hi r := by
  rcases hrow.2 with ⟨rfl, _⟩ | ⟨g, cap, cur, rfl, _, hgb, _⟩
  · refine h.far (g := w.heap.size) (fun b hb _ => hg.block b hb (by simp [Value.ownBlock])) (fun k f hr => ?_) (fun k f hr => ?_) <;> exact absurd hr.lt (Nat.lt_irrefl _)
  · refine h.far (g := g) (fun b hb hne => hg.block b hb (by simp [Value.ownBlock]; exact hne)) (fun k f hr => ?_) (fun k f hr => ?_)
    · obtain ⟨cs, y1, _⟩ := hr
      rw [hgb] at y1
      injection y1 with y1
      injection y1 with _ y1
      exact absurd y1 (by decide)
    · obtain ⟨cs, y1, _⟩ := hr
      rw [hgb] at y1
      injection y1 with y1
      injection y1 with _ y1
      exact absurd y1 (by decide)

/-- Where a row of parts was appended to: heads stay. -/
theorem HeadApart.appendedP {base k : Nat} {v : Value} {cs : List Value} {r : Rf} (h : HeadApart w lo hi r) (hrow : w.ownsRow base 69 3 v k cs) (hg : w.grownBy w' v.ownBlock) : HeadApart w' lo hi r := by
  rcases hrow.2 with ⟨rfl, _⟩ | ⟨g, cap, cur, rfl, _, hgb, _⟩
  · refine h.far (g := w.heap.size) (fun b hb _ => hg.block b hb (by simp [Value.ownBlock])) (fun k f hr => ?_); exact absurd hr.lt (Nat.lt_irrefl _)
  · refine h.far (g := g) (fun b hb hne => hg.block b hb (by simp [Value.ownBlock]; exact hne)) (fun k f hr => ?_)
    obtain ⟨cs, y1, _⟩ := hr
    rw [hgb] at y1
    injection y1 with y1
    injection y1 with _ y1
    exact absurd y1 (by decide)

/-- What parts read as. -/
theorem TyParts.parts (h : TyParts w lo hi A n c ps) : IsParts w lo hi A n c (ps.map pAt) := by
  obtain ⟨a, b, d, e, f⟩ := h
  refine ⟨by simpa using a, b, d, fun hn => ?_⟩
  obtain ⟨g, k, f', e1, e2, e3, e4, e5, e6⟩ := e hn
  refine ⟨_, e1, e2, e3, fun i q hq => ?_⟩
  rw [List.getElem?_map] at hq
  obtain ⟨p, hp, rfl⟩ := Option.map_eq_some_iff.1 hq
  have hi := (List.getElem?_eq_some_iff.1 hp).1
  have a0 : ∀ j, (⟨g, 0, none⟩ : Addr).add j = ⟨g, j, none⟩ := fun j => by unfold Addr.add; split <;> simp_all
  obtain ⟨c1, c2, c3⟩ := pcells_at hp
  obtain ⟨z1, z2, _⟩ := f p (List.mem_of_getElem? hp)
  rw [a0]
  have x0 : w.cell? ⟨g, i * 3, none⟩ = some (.bool p.1) := by rw [e4.cell (by omega), e6 _ _ c1]
  have x1 : w.cell? ⟨g, i * 3 + 1, none⟩ = some (.string p.2.1) := by rw [e4.cell (by omega), e6 _ _ c2]
  have x2 : w.cell? ⟨g, i * 3 + 2, none⟩ = some (.slice p.2.2.1 p.2.2.2.1 p.2.2.2.2.1) := by rw [e4.cell (by omega), e6 _ _ c3]
  exact ⟨x0, x1, z1, _, _, _, x2, z2⟩

/-- What a row of rules reads as. -/
theorem ty_rules {base k : Nat} {v : Value} {rs : List Rr} (h : w.ownsRow base 72 3 v k (rrcells rs)) (hn : rs.length = k) (hT : ∀ r ∈ rs, TyRule w base w.heap.size r) : ∃ B d, v = .slice B k d ∧ IsRules w base w.heap.size B k d (rs.map rRl) := by
  subst hn
  rcases h.2 with ⟨rfl, h0⟩ | ⟨g, cap, cur, rfl, hbg, hgb, hle, hcap, hsz, htk⟩
  · exact ⟨none, 0, by rw [h0], by simp, by omega, by unfold maxLen; omega, fun hp => absurd hp (by omega)⟩
  · have hlt := (Array.getElem?_eq_some_iff.1 hgb).1
    refine ⟨_, cap, rfl, by simp, hle, hcap, fun _ => ⟨⟨g, 0, none⟩, rfl, hbg, hlt, fun i q hq => ?_⟩⟩
    rw [List.getElem?_map] at hq
    obtain ⟨r, hr, rfl⟩ := Option.map_eq_some_iff.1 hq
    have hi := (List.getElem?_eq_some_iff.1 hr).1
    have hrow : w.rowIs g 72 (cap * 3) (fun i => cur[i]?.getD undef) := ⟨cur, hgb, hsz, fun i hi => by simp [hsz ▸ hi]⟩
    have hcs : ∀ j u, (rrcells rs)[j]? = some u → cur[j]?.getD undef = u := fun j u hu => by
      have hj := (List.getElem?_eq_some_iff.1 hu).1
      rw [rrcells_len] at hj
      rw [← htk, List.getElem?_take, if_pos (by omega)] at hu
      have : cur[j]? = some u := by simpa using hu
      rw [this]; rfl
    have a0 : ∀ j, (⟨g, 0, none⟩ : Addr).add j = ⟨g, j, none⟩ := fun j => by unfold Addr.add; split <;> simp_all
    obtain ⟨c1, c2, c3⟩ := rrcells_at hr
    obtain ⟨⟨t1, t2, _⟩, t3⟩ := hT r (List.mem_of_getElem? hr)
    rw [a0]
    have x0 : w.cell? ⟨g, i * 3, none⟩ = some (.string r.1.1) := by rw [hrow.cell (by omega), hcs _ _ c1]
    have x1 : w.cell? ⟨g, i * 3 + 1, none⟩ = some (.slice r.1.2.1 r.1.2.2.1 r.1.2.2.2.1) := by rw [hrow.cell (by omega), hcs _ _ c2]
    have x2 : w.cell? ⟨g, i * 3 + 2, none⟩ = some (.slice r.2.1 r.2.2.1 r.2.2.2.1) := by rw [hrow.cell (by omega), hcs _ _ c3]
    exact ⟨x0, t1, ⟨_, _, _, x1, t2⟩, ⟨_, _, _, x2, t3.parts⟩⟩
end

/-- Names and sizes of a rule that is drawn. -/
def NmRule (r : Rr) : Prop := Nm r.1.1 ∧ rN r.1 ≤ 8 ∧ r.2.2.2.2.length ≤ 5 ∧ ∀ p ∈ r.2.2.2.2, Nm p.2.1 ∧ rN p.2 ≤ 8

/-- Where drawing rules stands: what the reader has read, and the rules so far, in a row of their own. -/
structure DR (b : Nat) (A : Option Addr) (n c : Nat) (w0 : World) (p : Nat) (W : World) (v : Value) (rs : List Rr) : Prop where
  row : W.ownsRow w0.heap.size 72 3 v rs.length (rrcells rs)
  ty : ∀ r ∈ rs, TyRule W w0.heap.size W.heap.size r
  rd : Rd W b A n c p
  gr : w0.grownBy W (some b)

section
variable {b n c p p' : Nat} {A : Option Addr} {w0 W W' : World} {v v' : Value} {rs : List Rr} {r : Rr}

theorem grown_low {lo hi : Nat} (hg : W.grownBy W' (some b)) (hb : b < lo) (hh : hi ≤ W.heap.size) : ∀ x, lo ≤ x → x < hi → W'.heap[x]? = W.heap[x]? :=
  fun x h1 h2 => hg.block x (by omega) (fun e => by injection e with e; omega)

theorem DR.step (h : DR b A n c w0 p W v rs) (hb : b < w0.heap.size) (hg : W.grownBy W' (some b)) (hr : Rd W' b A n c p') : DR b A n c w0 p' W' v rs :=
  ⟨World.ownsRow.kept h.row hg (ownNe h.row hb), fun r hr => (h.ty r hr).keep (grown_low hg hb (Nat.le_refl _)) (Nat.le_refl _) hg.size, hr, grownTrans h.gr hg⟩

theorem DR.below (h : DR b A n c w0 p W v rs) (hb : b < w0.heap.size) (hw : Below W.heap.size W W') : DR b A n c w0 p W' v rs :=
  h.step hb (grownBelow hw (some b)) (h.rd.below hw)

theorem DR.more (h : DR b A n c w0 p W v rs) (hb : b < w0.heap.size) (hT : TyRule W w0.heap.size W.heap.size r) {o : Obj} {w3 : World}
    (hown : w3.ownsRow w0.heap.size 72 3 v' (rs.length + 1) (rrcells rs ++ [.string r.1.1, .slice r.1.2.1 r.1.2.2.1 r.1.2.2.2.1, .slice r.2.1 r.2.2.1 r.2.2.2.1])) (hgrow : (W.alloc o).grownBy w3 v.ownBlock) :
    DR b A n c w0 p w3 v' (rs ++ [r]) := by
  have hb1 := below1 W o
  have h1 := h.below hb hb1
  have far : ∀ g, v.ownBlock = some g → w0.heap.size ≤ g := fun g hg => (h1.row.lt g hg).1
  have hz : W.heap.size ≤ w3.heap.size := Nat.le_trans hb1.size hgrow.size
  refine ⟨?_, fun q hq => ?_, h1.rd.grown hgrow (fun g hg => by have := far g hg; omega), grownOther hgrow (B := w0.heap.size) (by have := h1.gr.size; omega) far h1.gr (Nat.le_refl _)⟩
  · rw [List.length_append, rrcells_snoc]; exact hown
  · rcases List.mem_append.1 hq with hq | hq
    · exact ((h1.ty q hq).appended h1.row hgrow).keep (fun _ _ _ => rfl) (Nat.le_refl _) hgrow.size
    · rw [List.mem_singleton.1 hq]
      exact ((hT.keep (w' := W.alloc o) (fun x _ hx => hb1.block x hx) (Nat.le_refl _) hb1.size).appended h1.row hgrow).keep (fun _ _ _ => rfl) (Nat.le_refl _) hgrow.size
end

theorem tmC_len : ∀ ts : List Tm, (tmCells ts).length = ts.length * 2
  | [] => rfl
  | t :: ts => by
    have h := tmC_len ts
    unfold tmCells at h ⊢
    rw [List.flatMap_cons, List.length_append, h, List.length_cons]
    simp only [List.length_cons, List.length_nil]; omega

/-- A row of terms that was just laid out. -/
theorem head_new (W : World) (nm : ByteArray) (ts : List Tm) (cs : Array Value) (k : Nat) (hnm : nm.size ≤ maxLen) (hk : ts.length = k) (hs : ∀ t ∈ ts, t.2.size ≤ 16) (h0 : 0 < k) (hm : k ≤ 8) (hcs : cs.toList = tmCells ts) :
    HeadApart (W.alloc (.cells cs 64)) W.heap.size (W.heap.size + 1) (nm, some ⟨W.heap.size, 0, none⟩, k, k, ts) := by
  have hsz : cs.size = k * 2 := by rw [← Array.length_toList, hcs, tmC_len, hk]
  have hrow : (W.alloc (.cells cs 64)).rowIs W.heap.size 64 (k * 2) (fun i => cs[i]?.getD undef) := ⟨cs, heap_alloc_new W _, hsz, fun i hi => by simp [hsz ▸ hi]⟩
  have hc : ∀ j u, (tmCells ts)[j]? = some u → (W.alloc (.cells cs 64)).cell? ⟨W.heap.size, j, none⟩ = some u := fun j u hu => by
    have hj := (List.getElem?_eq_some_iff.1 hu).1
    rw [tmC_len, hk] at hj
    rw [hrow.cell hj]
    rw [← hcs] at hu
    have : cs[j]? = some u := by simpa using hu
    simp [this]
  refine ⟨hnm, ⟨hk, Nat.le_refl _, by show k ≤ _; unfold maxLen; omega, fun _ => ⟨⟨W.heap.size, 0, none⟩, rfl, Nat.le_refl _, Nat.lt_succ_self _, fun i t ht => ?_⟩⟩, fun _ => ⟨W.heap.size, k * 2, _, rfl, Nat.le_refl _, Nat.lt_succ_self _, hrow, Nat.le_refl _⟩⟩
  obtain ⟨e1, e2⟩ := tmCells_at ts i t ht
  have a0 : ∀ j, (⟨W.heap.size, 0, none⟩ : Addr).add j = ⟨W.heap.size, j, none⟩ := fun j => by unfold Addr.add; split <;> simp_all
  have := hs t (List.mem_of_getElem? ht)
  exact ⟨(by rw [a0]; exact hc _ _ e1), (by rw [a0]; exact hc _ _ e2), by unfold maxLen; omega⟩

/-- A row of parts that was just laid out. -/
theorem parts_new (W : World) (lo : Nat) (ps : List Pf) (cs : Array Value) (k : Nat) (hk : ps.length = k) (hm : k ≤ 8) (hp : ∀ p ∈ ps, HeadApart W lo W.heap.size p.2) (hl : lo ≤ W.heap.size) (hcs : cs.toList = pcells ps) :
    TyParts (W.alloc (.cells cs 69)) lo (W.heap.size + 1) (some ⟨W.heap.size, 0, none⟩) k k ps := by
  have hsz : cs.size = k * 3 := by rw [← Array.length_toList, hcs, pcells_len, hk]
  have hrow : (W.alloc (.cells cs 69)).rowIs W.heap.size 69 (k * 3) (fun i => cs[i]?.getD undef) := ⟨cs, heap_alloc_new W _, hsz, fun i hi => by simp [hsz ▸ hi]⟩
  refine ⟨hk, Nat.le_refl _, by unfold maxLen; omega, fun _ => ⟨W.heap.size, k * 3, _, rfl, hl, Nat.lt_succ_self _, hrow, Nat.le_refl _, fun j u hu => ?_⟩, fun p h => (hp p h).keep (fun x _ hx => (below1 W _).block x hx) (Nat.le_refl _) (Nat.le_succ _)⟩
  rw [← hcs] at hu
  have : cs[j]? = some u := by simpa using hu
  simp [this]

/-- A head drawn, as it came. -/
theorem head_drawn {w w' : World} {nm : ByteArray} {A' : Option Addr} {k d : Nat} {ts : List Tm} (hnm : Nm nm) (hlen : ts.length = k) (hs : ∀ t ∈ ts, t.2.size ≤ 16)
    (hown : w'.ownsRow w.heap.size 64 2 (.slice A' k d) k (tmCells ts)) : HeadApart w' w.heap.size w'.heap.size (nm, A', k, d, ts) := by
  obtain ⟨B, cB, eB, hT⟩ := owned_terms hown hlen hs
  injection eB with e1 _ e2
  subst e1; subst e2
  refine ⟨by have := hnm.1; show nm.size ≤ _; unfold maxLen; omega, hT, fun h0 => ?_⟩
  rcases hown.2 with ⟨_, hn⟩ | ⟨g, cap, cur, e, hg, hgb, hle, hcap, hsz, htk⟩
  · exact absurd h0 (by show ¬ 0 < k; omega)
  · injection e with e1 _ e2
    have hlt := (Array.getElem?_eq_some_iff.1 hgb).1
    exact ⟨g, cap * 2, fun i => cur[i]?.getD undef, e1, hg, hlt, ⟨cur, hgb, hsz, fun i hi => by simp [hsz ▸ hi]⟩, Nat.mul_le_mul_right _ hle⟩

end Go.Proofs.YtnhbnhibphjljaaGreatDoor

namespace Go.Proofs.YtnhbnhibphjljaaGreatDoor
open Go.RowKit

/-- An atom of two variables, its terms in a row of its own. -/
def EdgePost (nm x y : ByteArray) (w : World) (e : Ending) (w' : World) : Prop :=
  ∃ A, e = .returned (.agg #[.string nm, .slice A 2 2]) ∧ HeadApart w' w.heap.size w'.heap.size (nm, A, 2, 2, [(true, x), (true, y)]) ∧ Below w.heap.size w w'

set_option maxRecDepth 100000 in
theorem edge_draw (nm x y : ByteArray) (w : World) (hn : nm.size ≤ 16) (hx : x.size ≤ 16) (hy : y.size ≤ 16) :
    Calls Tryz.prog 166 #[.string nm, .string x, .string y] w (EdgePost nm x y w) := by
  have key : ∀ o : Obj, HeadApart ((w.alloc o).alloc (.cells #[.bool true, .string x, .bool true, .string y] 64)) w.heap.size ((w.alloc o).alloc (.cells #[.bool true, .string x, .bool true, .string y] 64)).heap.size (nm, some ⟨w.heap.size + 1, 0, none⟩, 2, 2, [(true, x), (true, y)]) := fun o => by
    have h := head_new (w.alloc o) nm [(true, x), (true, y)] #[.bool true, .string x, .bool true, .string y] 2 (by unfold maxLen; omega) rfl (fun t ht => by
      rcases List.mem_cons.1 ht with rfl | ht
      · exact hx
      · rw [List.mem_singleton.1 ht]; exact hy) (by omega) (by omega) rfl
    have e : (w.alloc o).heap.size = w.heap.size + 1 := by simp
    rw [e] at h
    exact h.keep (fun _ _ _ => rfl) (by omega) (by simp)
  have hb := below2 w (.cells #[.string nm, .slice (some ⟨w.heap.size + 1, 0, none⟩) 2 2] 67) (.cells #[.bool true, .string x, .bool true, .string y] 64)
  go_enter Tryz.func166, Tryz.ntmps166
  go_wp2
  exact bodyPost_ret (v := .agg #[.string nm, .slice (some ⟨w.heap.size + 1, 0, none⟩) 2 2]) (by simp [results, Tryz.results166, go_sem]) rfl ⟨_, rfl, key _, hb⟩

theorem own_empty3 (w : World) (t : TypeId) (B : Nat) (hB : B ≤ w.heap.size) : (w.alloc (.cells #[] t)).ownsRow B t 3 (.slice (some ⟨w.heap.size, 0, none⟩) 0 0) 0 [] :=
  ⟨rfl, .inr ⟨w.heap.size, 0, #[], rfl, hB, heap_alloc_new w _, Nat.le_refl _, by unfold maxLen; omega, rfl, rfl⟩⟩

theorem names_kept {w w' : World} {b g m : Nat} {Q : ByteArray → Prop} (hN : ∀ i, i < m → ∃ s, w.cell? ⟨g, i, none⟩ = some (.string s) ∧ Q s) (hg : w.grownBy w' (some b)) (hb : g ≠ b) : ∀ i, i < m → ∃ s, w'.cell? ⟨g, i, none⟩ = some (.string s) ∧ Q s :=
  fun i hi => by obtain ⟨s, hs, hq⟩ := hN i hi; exact ⟨s, hg.cell hs (by simp [hb]), hq⟩

/-- Where drawing parts stands. -/
structure DP (b : Nat) (A : Option Addr) (n c : Nat) (w0 : World) (p : Nat) (W : World) (v : Value) (ps : List Pf) : Prop where
  row : W.ownsRow w0.heap.size 69 3 v ps.length (pcells ps)
  hd : ∀ q ∈ ps, HeadApart W w0.heap.size W.heap.size q.2
  rd : Rd W b A n c p
  gr : w0.grownBy W (some b)

section
variable {b n c p p' : Nat} {A : Option Addr} {w0 W W' : World} {v v' : Value} {ps : List Pf} {q : Pf}

theorem DP.step (h : DP b A n c w0 p W v ps) (hb : b < w0.heap.size) (hg : W.grownBy W' (some b)) (hr : Rd W' b A n c p') : DP b A n c w0 p' W' v ps :=
  ⟨World.ownsRow.kept h.row hg (ownNe h.row hb), fun r hr => (h.hd r hr).keep (grown_low hg hb (Nat.le_refl _)) (Nat.le_refl _) hg.size, hr, grownTrans h.gr hg⟩

theorem DP.below (h : DP b A n c w0 p W v ps) (hb : b < w0.heap.size) (hw : Below W.heap.size W W') : DP b A n c w0 p W' v ps :=
  h.step hb (grownBelow hw (some b)) (h.rd.below hw)

theorem DP.more (h : DP b A n c w0 p W v ps) (hb : b < w0.heap.size) (hT : HeadApart W w0.heap.size W.heap.size q.2) {o : Obj} {w3 : World}
    (hown : w3.ownsRow w0.heap.size 69 3 v' (ps.length + 1) (pcells ps ++ [.bool q.1, .string q.2.1, .slice q.2.2.1 q.2.2.2.1 q.2.2.2.2.1])) (hgrow : (W.alloc o).grownBy w3 v.ownBlock) :
    DP b A n c w0 p w3 v' (ps ++ [q]) := by
  have hb1 := below1 W o
  have h1 := h.below hb hb1
  have far : ∀ g, v.ownBlock = some g → w0.heap.size ≤ g := fun g hg => (h1.row.lt g hg).1
  refine ⟨?_, fun x hx => ?_, h1.rd.grown hgrow (fun g hg => by have := far g hg; omega), grownOther hgrow (B := w0.heap.size) (by have := h1.gr.size; omega) far h1.gr (Nat.le_refl _)⟩
  · rw [List.length_append, pcells_snoc]; exact hown
  · rcases List.mem_append.1 hx with hx | hx
    · exact ((h1.hd x hx).appendedP h1.row hgrow).keep (fun _ _ _ => rfl) (Nat.le_refl _) hgrow.size
    · rw [List.mem_singleton.1 hx]
      exact ((hT.keep (w' := W.alloc o) (fun x _ hx => hb1.block x hx) (Nat.le_refl _) hb1.size).appendedP h1.row hgrow).keep (fun _ _ _ => rfl) (Nat.le_refl _) hgrow.size
end

/-- A row of parts of one's own, as a rule has it. -/
theorem ty_parts {w : World} {base k : Nat} {v : Value} {ps : List Pf} (h : w.ownsRow base 69 3 v k (pcells ps)) (hn : ps.length = k) (hT : ∀ p ∈ ps, HeadApart w base w.heap.size p.2) : ∃ B d, v = .slice B k d ∧ TyParts w base w.heap.size B k d ps := by
  subst hn
  rcases h.2 with ⟨rfl, h0⟩ | ⟨g, cap, cur, rfl, hbg, hgb, hle, hcap, hsz, htk⟩
  · exact ⟨none, 0, by rw [h0], rfl, by omega, by unfold maxLen; omega, fun hp => absurd hp (by omega), hT⟩
  · have hlt := (Array.getElem?_eq_some_iff.1 hgb).1
    refine ⟨_, cap, rfl, rfl, hle, hcap, fun _ => ⟨g, cap * 3, fun i => cur[i]?.getD undef, rfl, hbg, hlt, ⟨cur, hgb, hsz, fun i hi => by simp [hsz ▸ hi]⟩, Nat.mul_le_mul_right _ hle, fun j u hu => ?_⟩, hT⟩
    have hj := (List.getElem?_eq_some_iff.1 hu).1
    rw [pcells_len] at hj
    rw [← htk, List.getElem?_take, if_pos (by omega)] at hu
    have : cur[j]? = some u := by simpa using hu
    show cur[j]?.getD undef = u
    rw [this]; rfl

/-- Names and sizes of a part that is drawn. -/
def NmPart (p : Pf) : Prop := Nm p.2.1 ∧ rN p.2 ≤ 3

/-- A body was drawn. -/
def BodyDraw (b : Nat) (A : Option Addr) (n c p : Nat) (w : World) (e : Ending) (w' : World) : Prop :=
  ∃ (v : Value) (ps : List Pf) (p' : Nat), e = .returned v ∧ ps.length ≤ 3 ∧ p' ≤ p + 25 ∧ DP b A n c w p' w' v ps ∧ ∀ q ∈ ps, NmPart q

set_option maxRecDepth 100000 in
set_option maxHeartbeats 8000000 in
theorem body_draw (b g m : Nat) (A : Option Addr) (n c p : Nat) (w : World) (h : Rd w b A n c p) (hp : p ≤ 900000) (hm : 0 < m) (hm' : m ≤ 100) (hgb : g ≠ b) (hN : ∀ i, i < m → ∃ s, w.cell? ⟨g, i, none⟩ = some (.string s) ∧ nmB s = true) :
    Calls Tryz.prog 142 #[.pointer (some ⟨b, 0, none⟩), .slice (some ⟨g, 0, none⟩) m m] w (BodyDraw b A n c p w) := by
  obtain ⟨i0, hi, hz, hsz, hby⟩ := info_parts Tryz.infoPart
  have HN := Lib.hid hN; clear hN
  have H := Lib.hid h; clear h
  have hbw : b < w.heap.size := H.out.1
  have HE : Hid (DP b A n c w p (w.alloc (.cells #[] 69)) (.slice (some ⟨w.heap.size, 0, none⟩) 0 0) []) := Lib.hid ⟨own_empty3 w _ _ (Nat.le_refl _), fun q hq => absurd hq List.not_mem_nil, H.out.below (below1 _ _), grownBelow (below1 _ _) _⟩
  go_enter Tryz.func142, Tryz.ntmps142
  go_wp2_with fail
  refine (pick_any b A n c p 3 _ HE.out.rd (by omega) (by omega)).mono ?_; rintro e w1 ⟨k0, ⟨rfl, hk0⟩, hr1, hg1⟩
  have HD1 := Lib.hid (HE.out.step hbw hg1 hr1)
  have hk0' : k0 ≤ 2 := by omega
  clear hr1 hg1 hk0 HE
  go_wp2
  go_loopw [5, 6] (fun o i wr => ∃ (j : Nat) (ps : List Pf) (p' : Nat), j ≤ 3 ∧ ps.length + j ≤ 3 ∧ i = .int .i64 (j : Int) ∧ p' ≤ p + 1 + 8 * ps.length ∧ DP b A n c w p' wr o ps ∧ ∀ q ∈ ps, NmPart q) (fun _ i _ => (intOf i).toNat)
  case atStart => exact ⟨k0 + 1, [], p + 1, by omega, by simp; omega, by go_num, by simp, HD1.out, fun q hq => absurd hq List.not_mem_nil⟩
  case round =>
    obtain ⟨j, ps, p', hj, hl, rfl, hp', hD, hQ⟩ := hrel
    obtain ⟨B, d, hv, _⟩ := ty_parts hD.row rfl hD.hd
    subst hv
    have HD := Lib.hid hD; have HQ := Lib.hid hQ
    obtain ⟨L, hL⟩ : ∃ L, ps.length = L := ⟨_, rfl⟩
    rw [hL] at HD hl hp' ⊢
    have HLL := Lib.hid hL
    clear hD hQ hL
    by_cases h0 : 0 < j
    · have h0I : (0 : Int) < (j : Int) := by omega
      go_wp2_with fail
      refine (pick_any b A n c p' 6 _ HD.out.rd (by omega) (by omega)).mono ?_; rintro e w1 ⟨kk, ⟨rfl, hkk⟩, hr1, hg1⟩
      have HD1 := Lib.hid (HD.out.step hbw hg1 hr1)
      clear hr1 hg1 hkk
      by_cases hk0 : kk = 0
      · subst hk0
        by_cases hL0 : 0 < L
        · have hLI : (0 : Int) < (L : Int) := by omega
          go_wp2_with fail
          refine (of_any (fun s => nmB s = true) b g m A n c _ _ HD1.out.rd (by omega) hm (by omega) hgb (names_kept HN.out HD1.out.gr hgb)).mono ?_; rintro e w2 ⟨s, ⟨rfl, hs⟩, hr2, hg2⟩
          have HD2 := Lib.hid (HD1.out.step hbw hg2 hr2)
          clear hr2 hg2
          go_wp2_with fail
          refine (atom_draw b A n c _ s true w2 HD2.out.rd (by omega) (nm_of hs)).mono ?_; rintro e w3 ⟨nm, A', k, d', ts, p3, ⟨rfl, hnm, hk, hp3⟩, hlen, hs3, hown3, hrd3, hg3⟩
          have hz2 := HD2.out.gr.size
          have HH := Lib.hid ((head_drawn hnm hlen hs3 hown3).keep (w' := w3) (lo' := w.heap.size) (hi' := w3.heap.size) (fun _ _ _ => rfl) hz2 (Nat.le_refl _))
          have HD3 := Lib.hid (HD2.out.step hbw hg3 hrd3)
          have hz3 := HD3.out.gr.size
          have HRW := Lib.hid (HLL.out ▸ HD3.out.row)
          have HNM := Lib.hid hnm
          clear hlen hs3 hown3 hrd3 hg3 hnm
          go_wp2_with (at_builtin; refine wpList_append_own _ rfl _ _ 70 rfl w.heap.size 69 i0 _ 3 48 Tryz.underlying70 hi hz hsz hby rfl (by decide) _ _ _ rfl (HRW.out.alloc _) ⟨w3.heap.size, 0, none⟩ 1 1 [.bool true, .string nm, .slice A' k d'] rfl rfl (three_new _ _ _ _ _) (by simp [Value.oneCell']) (by unfold maxLen; omega) (by omega) (by simp; omega) ?_; intro v' w9 hown' hgrow' _; obtain ⟨g', cap', rfl⟩ := ownsRow_succ hown'; have hown := Lib.hid hown'; have hgrow := Lib.hid hgrow'; clear hown' hgrow')
          have hM := DP.more (q := (true, nm, A', k, d', ts)) (v' := .slice (some ⟨g', 0, none⟩) (L + 1) cap') HD3.out hbw HH.out (by rw [HLL.out]; exact hown.out) hgrow.out
          go_roundw
          case rel => exact ⟨j - 1, ps ++ [(true, nm, A', k, d', ts)], p3, by omega, by rw [List.length_append, HLL.out]; simp; omega, by go_num, by rw [List.length_append, HLL.out]; simp; omega, hM, fun q hq => by
              rcases List.mem_append.1 hq with hq | hq
              · exact HQ.out q hq
              · rw [List.mem_singleton.1 hq]; exact ⟨HNM.out, by show k ≤ 3; omega⟩⟩
          case measure => simp [intOf]; omega
        · have hLI : ¬ (0 : Int) < (L : Int) := by omega
          go_wp2_with fail
          refine (of_any (fun s => nmB s = true) b g m A n c _ _ HD1.out.rd (by omega) hm (by omega) hgb (names_kept HN.out HD1.out.gr hgb)).mono ?_; rintro e w2 ⟨s, ⟨rfl, hs⟩, hr2, hg2⟩
          have HD2 := Lib.hid (HD1.out.step hbw hg2 hr2)
          clear hr2 hg2
          go_wp2_with fail
          refine (atom_draw b A n c _ s true w2 HD2.out.rd (by omega) (nm_of hs)).mono ?_; rintro e w3 ⟨nm, A', k, d', ts, p3, ⟨rfl, hnm, hk, hp3⟩, hlen, hs3, hown3, hrd3, hg3⟩
          have hz2 := HD2.out.gr.size
          have HH := Lib.hid ((head_drawn hnm hlen hs3 hown3).keep (w' := w3) (lo' := w.heap.size) (hi' := w3.heap.size) (fun _ _ _ => rfl) hz2 (Nat.le_refl _))
          have HD3 := Lib.hid (HD2.out.step hbw hg3 hrd3)
          have hz3 := HD3.out.gr.size
          have HRW := Lib.hid (HLL.out ▸ HD3.out.row)
          have HNM := Lib.hid hnm
          clear hlen hs3 hown3 hrd3 hg3 hnm
          go_wp2_with (at_builtin; refine wpList_append_own _ rfl _ _ 70 rfl w.heap.size 69 i0 _ 3 48 Tryz.underlying70 hi hz hsz hby rfl (by decide) _ _ _ rfl (HRW.out.alloc _) ⟨w3.heap.size, 0, none⟩ 1 1 [.bool false, .string nm, .slice A' k d'] rfl rfl (three_new _ _ _ _ _) (by simp [Value.oneCell']) (by unfold maxLen; omega) (by omega) (by simp; omega) ?_; intro v' w9 hown' hgrow' _; obtain ⟨g', cap', rfl⟩ := ownsRow_succ hown'; have hown := Lib.hid hown'; have hgrow := Lib.hid hgrow'; clear hown' hgrow')
          have hM := DP.more (q := (false, nm, A', k, d', ts)) (v' := .slice (some ⟨g', 0, none⟩) (L + 1) cap') HD3.out hbw HH.out (by rw [HLL.out]; exact hown.out) hgrow.out
          go_roundw
          case rel => exact ⟨j - 1, ps ++ [(false, nm, A', k, d', ts)], p3, by omega, by rw [List.length_append, HLL.out]; simp; omega, by go_num, by rw [List.length_append, HLL.out]; simp; omega, hM, fun q hq => by
              rcases List.mem_append.1 hq with hq | hq
              · exact HQ.out q hq
              · rw [List.mem_singleton.1 hq]; exact ⟨HNM.out, by show k ≤ 3; omega⟩⟩
          case measure => simp [intOf]; omega
      · have hkI : ¬ (kk : Int) = 0 := by omega
        go_wp2_with fail
        refine (of_any (fun s => nmB s = true) b g m A n c _ _ HD1.out.rd (by omega) hm (by omega) hgb (names_kept HN.out HD1.out.gr hgb)).mono ?_; rintro e w2 ⟨s, ⟨rfl, hs⟩, hr2, hg2⟩
        have HD2 := Lib.hid (HD1.out.step hbw hg2 hr2)
        clear hr2 hg2
        go_wp2_with fail
        refine (atom_draw b A n c _ s true w2 HD2.out.rd (by omega) (nm_of hs)).mono ?_; rintro e w3 ⟨nm, A', k, d', ts, p3, ⟨rfl, hnm, hk, hp3⟩, hlen, hs3, hown3, hrd3, hg3⟩
        have hz2 := HD2.out.gr.size
        have HH := Lib.hid ((head_drawn hnm hlen hs3 hown3).keep (w' := w3) (lo' := w.heap.size) (hi' := w3.heap.size) (fun _ _ _ => rfl) hz2 (Nat.le_refl _))
        have HD3 := Lib.hid (HD2.out.step hbw hg3 hrd3)
        have hz3 := HD3.out.gr.size
        have HRW := Lib.hid (HLL.out ▸ HD3.out.row)
        have HNM := Lib.hid hnm
        clear hlen hs3 hown3 hrd3 hg3 hnm
        go_wp2_with (at_builtin; refine wpList_append_own _ rfl _ _ 70 rfl w.heap.size 69 i0 _ 3 48 Tryz.underlying70 hi hz hsz hby rfl (by decide) _ _ _ rfl (HRW.out.alloc _) ⟨w3.heap.size, 0, none⟩ 1 1 [.bool false, .string nm, .slice A' k d'] rfl rfl (three_new _ _ _ _ _) (by simp [Value.oneCell']) (by unfold maxLen; omega) (by omega) (by simp; omega) ?_; intro v' w9 hown' hgrow' _; obtain ⟨g', cap', rfl⟩ := ownsRow_succ hown'; have hown := Lib.hid hown'; have hgrow := Lib.hid hgrow'; clear hown' hgrow')
        have hM := DP.more (q := (false, nm, A', k, d', ts)) (v' := .slice (some ⟨g', 0, none⟩) (L + 1) cap') HD3.out hbw HH.out (by rw [HLL.out]; exact hown.out) hgrow.out
        go_roundw
        case rel => exact ⟨j - 1, ps ++ [(false, nm, A', k, d', ts)], p3, by omega, by rw [List.length_append, HLL.out]; simp; omega, by go_num, by rw [List.length_append, HLL.out]; simp; omega, hM, fun q hq => by
            rcases List.mem_append.1 hq with hq | hq
            · exact HQ.out q hq
            · rw [List.mem_singleton.1 hq]; exact ⟨HNM.out, by show k ≤ 3; omega⟩⟩
        case measure => simp [intOf]; omega
    · have h0I : ¬ (0 : Int) < (j : Int) := by omega
      go_wp2
      go_ret; exact ⟨_, ps, p', rfl, by rw [HLL.out]; omega, by omega, HD.out, HQ.out⟩

end Go.Proofs.YtnhbnhibphjljaaGreatDoor

namespace Go.Proofs.YtnhbnhibphjljaaGreatDoor
open Go.RowKit

theorem three_newAt (W : World) (g : Nat) (hg : W.heap.size = g) (x y z : Value) (t : TypeId) : ∀ j u, [x, y, z][j]? = some u → (W.alloc (.cells #[x, y, z] t)).cell? ((⟨g, 0, none⟩ : Addr).add j) = some u := by
  subst hg; exact three_new W x y z t

section
variable {w w' : World} {lo b n c : Nat} {A : Option Addr} {ps : List Pf} {r : Rf}
theorem HeadApart.on (h : HeadApart w lo w.heap.size r) (hb : Below w.heap.size w w') : HeadApart w' lo w'.heap.size r := h.keep (fun x _ hx => hb.block x hx) (Nat.le_refl _) hb.size
theorem TyParts.on (h : TyParts w lo w.heap.size A n c ps) (hb : Below w.heap.size w w') : TyParts w' lo w'.heap.size A n c ps := h.keep (fun x _ hx => hb.block x hx) (Nat.le_refl _) hb.size
theorem HeadApart.by_ (h : HeadApart w lo w.heap.size r) (hg : w.grownBy w' (some b)) (hl : b < lo) : HeadApart w' lo w'.heap.size r := h.keep (grown_low hg hl (Nat.le_refl _)) (Nat.le_refl _) hg.size
end

/-- A block of another kind is no row of one's own. -/
theorem own_kind {W : World} {base k x : Nat} {v : Value} {xs : List Value} {t t' : TypeId} {cs : Array Value} (h : W.ownsRow base t 3 v k xs) (X : Blk W x t' cs) (hne : t ≠ t') : some x ≠ v.ownBlock := by
  intro e
  rcases h.2 with ⟨rfl, _⟩ | ⟨g, cap, cur, rfl, _, hgb, _⟩
  · simp [Value.ownBlock] at e
  · obtain rfl : g = x := by simpa [Value.ownBlock] using e.symm
    have X' : W.heap[g]? = some (.cells cs t') := X
    rw [hgb] at X'
    injection X' with X'
    injection X' with _ X'
    exact hne X'

/-- The cells of a row of one's own, as they are appended. -/
theorem srcRow {W : World} {base k d : Nat} {B : Option Addr} {t : TypeId} {xs : List Value} (h : W.ownsRow base t 3 (.slice B k d) k xs) (hx : xs.length = k * 3) : SrcZ 3 W B k xs := by
  refine ⟨hx, fun ad hA j u hu => ?_, fun hB => ?_⟩
  · subst hA
    rcases h.2 with ⟨e, h0⟩ | ⟨g, cap, cur, e, _⟩
    · cases e
    · injection e with e1 _ _
      injection e1 with e1
      subst e1
      exact h.cells (g := g) rfl j u hu
  · rcases h.2 with ⟨_, h0⟩ | ⟨g, cap, cur, e, _⟩
    · exact h0
    · injection e with e1 _ _
      subst hB
      cases e1

theorem rrcells_one : ∀ rs : List Rr, ∀ u ∈ rrcells rs, u.oneCell' = true := by
  intro rs u hu
  unfold rrcells at hu
  obtain ⟨r, _, hr⟩ := List.mem_flatMap.1 hu
  simp only [List.mem_cons, List.not_mem_nil, or_false] at hr
  rcases hr with rfl | rfl | rfl <;> rfl

theorem head_newAt (W : World) (lo g : Nat) (nm : ByteArray) (ts : List Tm) (cs : Array Value) (k : Nat) (hg : W.heap.size = g) (hl : lo ≤ W.heap.size) (hnm : nm.size ≤ 16) (hk : ts.length = k) (hs : ∀ t ∈ ts, t.2.size ≤ 16) (h0 : 0 < k) (hm : k ≤ 8) (hcs : cs.toList = tmCells ts) :
    HeadApart (W.alloc (.cells cs 64)) lo (W.alloc (.cells cs 64)).heap.size (nm, some ⟨g, 0, none⟩, k, k, ts) := by
  subst hg
  exact (head_new W nm ts cs k (by unfold maxLen; omega) hk hs h0 hm hcs).keep (fun _ _ _ => rfl) hl (by simp)

theorem parts_newAt (W : World) (lo g : Nat) (ps : List Pf) (cs : Array Value) (k : Nat) (hg : W.heap.size = g) (hk : ps.length = k) (hm : k ≤ 8) (hp : ∀ p ∈ ps, HeadApart W lo W.heap.size p.2) (hl : lo ≤ W.heap.size) (hcs : cs.toList = pcells ps) :
    TyParts (W.alloc (.cells cs 69)) lo (W.alloc (.cells cs 69)).heap.size (some ⟨g, 0, none⟩) k k ps := by
  subst hg
  exact (parts_new W lo ps cs k hk hm hp hl hcs).keep (fun _ _ _ => rfl) (Nat.le_refl _) (by simp)

theorem nm_lit (c : UInt8) : Nm ⟨#[c]⟩ := ⟨by show 1 ≤ 16; omega, fun h => by simp at h⟩

/-- Rules were drawn. -/
def RulesDraw (q s : Nat) (b : Nat) (A : Option Addr) (n c p : Nat) (w : World) (e : Ending) (w' : World) : Prop :=
  ∃ (B : Option Addr) (k d : Nat) (rs : List Rr) (p' : Nat), e = .returned (.slice B k d) ∧ rs.length = k ∧ k ≤ q ∧ p' ≤ p + s ∧ DR b A n c w p' w' (.slice B k d) rs ∧ ∀ r ∈ rs, NmRule r

/-- What was there ahead of a rule in the making: the rules so far, and its head. -/
structure Old (w : World) (v : Value) (rs : List Rr) (hd : Rf) (w0 W : World) : Prop where
  R : W.ownsRow w.heap.size 72 3 v rs.length (rrcells rs)
  T : ∀ r ∈ rs, TyRule W w.heap.size w0.heap.size r
  H : HeadApart W w.heap.size w0.heap.size hd
  V : ∀ g, v.ownBlock = some g → g < w0.heap.size
  Z : w.heap.size ≤ w0.heap.size

theorem Old.keep {w : World} {v : Value} {rs : List Rr} {hd : Rf} {w0 W W' : World} (h : Old w v rs hd w0 W) (hk : ∀ y, w.heap.size ≤ y → y < w0.heap.size → W'.heap[y]? = W.heap[y]?) : Old w v rs hd w0 W' := by
  refine ⟨⟨h.R.1, ?_⟩, fun r hr => (h.T r hr).keep hk (Nat.le_refl _) (Nat.le_refl _), h.H.keep hk (Nat.le_refl _) (Nat.le_refl _), h.V, h.Z⟩
  rcases h.R.2 with hn | ⟨g, cap, cur, e, hg, hgb, rest⟩
  · exact .inl hn
  · exact .inr ⟨g, cap, cur, e, hg, (hk g hg (h.V g (by rw [e]; rfl))).trans hgb, rest⟩

/-- A rule in the making: its box, its head and its parts, which may still grow. -/
structure XB (b : Nat) (A : Option Addr) (n c : Nat) (w : World) (x : Nat) (hd : Rf) (p : Nat) (v : Value) (rs : List Rr) (w0 : World) (B : Option Addr) (m e : Nat) (ps : List Pf) (W : World) : Prop where
  O : Old w v rs hd w0 W
  P : DP b A n c w0 p W (.slice B m e) ps
  X : Blk W x 72 #[.string hd.1, .slice hd.2.1 hd.2.2.1 hd.2.2.2.1, .slice B m e]
  lx : w0.heap.size ≤ x
  gr : w.grownBy W (some b)

section
variable {b n c : Nat} {A : Option Addr} {w : World} {x : Nat} {hd : Rf} {p p' : Nat} {v : Value} {rs : List Rr} {w0 : World} {B B' : Option Addr} {m e e' : Nat} {ps : List Pf} {q : Pf} {W W' : World}

theorem XB.step (h : XB b A n c w x hd p v rs w0 B m e ps W) (hb : b < w.heap.size) (hg : W.grownBy W' (some b)) (hr : Rd W' b A n c p') : XB b A n c w x hd p' v rs w0 B m e ps W' :=
  have hl := h.lx; have hz := h.O.Z; have hs := h.P.gr.size
  ⟨h.O.keep (grown_low hg hb hs), h.P.step (by omega) hg hr, h.X.kept hg (fun e => by injection e with e; omega), h.lx, grownTrans h.gr hg⟩

theorem XB.below (h : XB b A n c w x hd p v rs w0 B m e ps W) (hb : b < w.heap.size) (hw : Below W.heap.size W W') : XB b A n c w x hd p v rs w0 B m e ps W' :=
  h.step hb (grownBelow hw (some b)) (h.P.rd.below hw)

/-- The body is turned to another row of parts. -/
theorem XB.turn {v0 : Value} (hO : Old w v rs hd w0 W) (hP : DP b A n c w0 p W (.slice B' m e') ps) (hX : Blk W x 72 #[.string hd.1, .slice hd.2.1 hd.2.2.1 hd.2.2.2.1, v0])
    (lx : w0.heap.size ≤ x) (gr : w.grownBy W (some b)) (hb : b < w.heap.size) : XB b A n c w x hd p v rs w0 B' m e' ps (W.setCell ⟨x, 2, none⟩ (.slice B' m e')) := by
  have hX' := hX.set 2 (.slice B' m e')
  have hzz := hO.Z
  have hT : ∀ k f, ¬ W.rowIs x 64 k f := fun k f hr => by
    obtain ⟨cs, y1, _⟩ := hr
    rw [show W.heap[x]? = some _ from hX] at y1
    injection y1 with y1
    injection y1 with _ y1
    exact absurd y1 (by decide)
  have hk : ∀ y, y < W.heap.size → y ≠ x → (W.setCell ⟨x, 2, none⟩ (.slice B' m e')).heap[y]? = W.heap[y]? := fun y _ hne => Below.heap_setCell _ _ _ y hne
  have hz : (W.setCell ⟨x, 2, none⟩ (.slice B' m e')).heap.size = W.heap.size := size_setCell _ _ _
  have hrd := hP.rd.set (q := ⟨x, 2, none⟩) (by show b < x; omega) (.slice B' m e')
  have hgr : ∀ {w1 : World}, w1.grownBy W (some b) → w1.heap.size ≤ x → w1.grownBy (W.setCell ⟨x, 2, none⟩ (.slice B' m e')) (some b) := fun h1 hl =>
    ⟨h1.os, h1.tape, h1.output, by rw [hz]; exact h1.size, fun i hi hne => (Below.heap_setCell _ _ _ i (by show i ≠ x; omega)).trans (h1.block i hi hne)⟩
  refine ⟨hO.keep (fun y _ hy => Below.heap_setCell _ _ _ y (by show y ≠ x; omega)), ⟨row_away hP.row (own_kind hP.row hX (by decide)) _, fun r hr => ?_, hrd, hgr hP.gr lx⟩, hX', lx, hgr gr (by omega)⟩
  have h1 := (hP.hd r hr).far hk hT
  rwa [← hz] at h1

/-- One part more in the body. -/
theorem XB.more (h : XB b A n c w x hd p v rs w0 B m e ps W) (hb : b < w.heap.size) (hl : ps.length = m) (hq : HeadApart W w0.heap.size W.heap.size q.2) {ob : Obj} {w3 : World}
    (hown : w3.ownsRow w0.heap.size 69 3 (.slice B' (m + 1) e') (m + 1) (pcells ps ++ [.bool q.1, .string q.2.1, .slice q.2.2.1 q.2.2.2.1 q.2.2.2.2.1])) (hgrow : (W.alloc ob).grownBy w3 (Value.slice B m e).ownBlock) :
    XB b A n c w x hd p v rs w0 B' (m + 1) e' (ps ++ [q]) (w3.setCell ⟨x, 2, none⟩ (.slice B' (m + 1) e')) := by
  subst hl
  have hzz := h.O.Z
  have hP := h.P.more (v' := .slice B' (ps.length + 1) e') (by omega) hq hown hgrow
  have h1 := h.below hb (below1 W ob)
  have hs := h1.P.gr.size
  have far : ∀ g, (Value.slice B ps.length e).ownBlock = some g → w0.heap.size ≤ g := fun g hg => (h1.P.row.lt g hg).1
  exact XB.turn (h1.O.keep (fun y _ hy => hgrow.block y (by omega) (fun e' => by have := far y e'.symm; omega))) hP (h1.X.kept hgrow (own_kind h1.P.row h1.X (by decide))) h.lx
    (grownOther hgrow (B := w0.heap.size) (by omega) far h1.gr hzz) hb

/-- The rule as it is, and the rules so far. -/
theorem XB.rule (h : XB b A n c w x hd p v rs w0 B m e ps W) (hl : ps.length = m) : TyRule W w.heap.size W.heap.size (hd, B, m, e, ps) := by
  have hs := h.P.gr.size
  obtain ⟨B1, d1, e1, hT⟩ := ty_parts (k := m) (by have := h.P.row; rw [hl] at this; exact this) hl h.P.hd
  injection e1 with e1 _ e2
  subst e1; subst e2
  exact ⟨h.O.H.keep (fun _ _ _ => rfl) (Nat.le_refl _) hs, hT.keep (fun _ _ _ => rfl) h.O.Z (Nat.le_refl _)⟩

theorem XB.draw (h : XB b A n c w x hd p v rs w0 B m e ps W) : DR b A n c w p W v rs :=
  ⟨h.O.R, fun r hr => (h.O.T r hr).keep (fun _ _ _ => rfl) (Nat.le_refl _) h.P.gr.size, h.P.rd, h.gr⟩
end

end Go.Proofs.YtnhbnhibphjljaaGreatDoor

namespace Go.Proofs.YtnhbnhibphjljaaGreatDoor
open Go.RowKit

set_option maxRecDepth 100000 in
set_option maxHeartbeats 16000000 in
theorem rules_draw (b : Nat) (A : Option Addr) (n c p : Nat) (w : World) (h : Rd w b A n c p) (hp : p ≤ 700000) :
    Calls Tryz.prog 139 #[.pointer (some ⟨b, 0, none⟩)] w (RulesDraw 6 300 b A n c p w) := by
  obtain ⟨i0, hi, hz, hsz, hby⟩ := info_parts Tryz.infoPart
  obtain ⟨i2, hi2, hz2, hsz2, hby2⟩ := info_parts Tryz.infoRuleR
  have HI := Lib.hid hi; have HZ := Lib.hid hz; have HSZ := Lib.hid hsz; have HYY := Lib.hid hby
  have HI2 := Lib.hid hi2; have HZ2 := Lib.hid hz2; have HSZ2 := Lib.hid hsz2; have HYY2 := Lib.hid hby2
  clear hi hz hsz hby hi2 hz2 hsz2 hby2
  have H := Lib.hid h; clear h
  have hbw : b < w.heap.size := H.out.1
  have HE : Hid (DR b A n c w p (w.alloc (.cells #[] 72)) (.slice (some ⟨w.heap.size, 0, none⟩) 0 0) []) := Lib.hid ⟨own_empty3 w _ _ (Nat.le_refl _), fun q hq => absurd hq List.not_mem_nil, H.out.below (below1 _ _), grownBelow (below1 _ _) _⟩
  go_enter Tryz.func139, Tryz.ntmps139
  go_wp2_with fail
  rename_i KR aR KC aC KL aL
  have REST1 : ∀ (u1 u4 u5 u6 u7 u8 u9 u10 u11 u12 u13 u14 u15 u16 u17 u18 u19 u20 u21 u22 u23 u24 u25 u26 u27 u28 u29 u30 u31 u32 u33 u34 u35 u36 u37 u38 u39 u40 u41 u42 u43 u44 u45 u46 u47 u48 u49 u50 u51 u52 u53 u54 u55 u56 u57 u58 u59 u60 u61 u62 u63 u64 u65 u66 u67 u68 u69 u70 u71 u72 u73 u74 u75 u76 u77 u78 u79 u80 u81 u82 u83 u84 u85 u86 u87 u88 u89 u90 u91 u92 u93 u94 u95 u96 u97 u98 u99 u100 u101 u102 : Value) (B : Option Addr) (L d : Nat) (rs : List Rr) (p1 : Nat) (W : World), rs.length = L → L ≤ 2 → p1 ≤ p + 1 → DR b A n c w p1 W (.slice B L d) rs → (∀ r ∈ rs, NmRule r) → KR { tmps := #[.pointer (some ⟨b, 0, none⟩), u1, .slice none 0 0, .slice B L d, u4, u5, u6, u7, u8, u9, u10, u11, u12, u13, u14, u15, u16, u17, u18, u19, u20, u21, u22, u23, u24, u25, u26, u27, u28, u29, u30, u31, u32, u33, u34, u35, u36, u37, u38, u39, u40, u41, u42, u43, u44, u45, u46, u47, u48, u49, u50, u51, u52, u53, u54, u55, u56, u57, u58, u59, u60, u61, u62, u63, u64, u65, u66, u67, u68, u69, u70, u71, u72, u73, u74, u75, u76, u77, u78, u79, u80, u81, u82, u83, u84, u85, u86, u87, u88, u89, u90, u91, u92, u93, u94, u95, u96, u97, u98, u99, u100, u101, u102], defers := [] } W := by
    intro u1 u4 u5 u6 u7 u8 u9 u10 u11 u12 u13 u14 u15 u16 u17 u18 u19 u20 u21 u22 u23 u24 u25 u26 u27 u28 u29 u30 u31 u32 u33 u34 u35 u36 u37 u38 u39 u40 u41 u42 u43 u44 u45 u46 u47 u48 u49 u50 u51 u52 u53 u54 u55 u56 u57 u58 u59 u60 u61 u62 u63 u64 u65 u66 u67 u68 u69 u70 u71 u72 u73 u74 u75 u76 u77 u78 u79 u80 u81 u82 u83 u84 u85 u86 u87 u88 u89 u90 u91 u92 u93 u94 u95 u96 u97 u98 u99 u100 u101 u102 B L d rs p1 W hL hL2 hp1 hD hQ
    have HL := Lib.hid hL; have HD := Lib.hid hD; have HQ := Lib.hid hQ
    clear hL hD hQ
    refine aR _ _ ?_
    clear aR aC aL HE
    go_wp2_with fail
    rename_i KR2 aR2 KC2 aC2 KL2 aL2
    have REST2 : ∀ (v1 v4 v5 v6 v7 v8 v9 v10 v11 v12 v13 v14 v15 v16 v17 v18 v19 v20 v21 v22 v23 v24 v25 v26 v27 v28 v29 v30 v31 v32 v33 v34 v35 v36 v37 v38 v39 v40 v41 v42 v43 v44 v45 v46 v47 v48 v49 v50 v51 v52 v53 v54 v55 v56 v57 v58 v59 v60 v61 v62 v63 v64 v65 v66 v67 v68 v69 v70 v71 v72 v73 v74 v75 v76 v77 v78 v79 v80 v81 v82 v83 v84 v85 v86 v87 v88 v89 v90 v91 v92 v93 v94 v95 v96 v97 v98 v99 v100 v101 v102 : Value) (B : Option Addr) (L d : Nat) (rs : List Rr) (p1 : Nat) (W : World), rs.length = L → L ≤ 3 → p1 ≤ p + 3 → DR b A n c w p1 W (.slice B L d) rs → (∀ r ∈ rs, NmRule r) → KR2 { tmps := #[.pointer (some ⟨b, 0, none⟩), v1, .slice none 0 0, .slice B L d, v4, v5, v6, v7, v8, v9, v10, v11, v12, v13, v14, v15, v16, v17, v18, v19, v20, v21, v22, v23, v24, v25, v26, v27, v28, v29, v30, v31, v32, v33, v34, v35, v36, v37, v38, v39, v40, v41, v42, v43, v44, v45, v46, v47, v48, v49, v50, v51, v52, v53, v54, v55, v56, v57, v58, v59, v60, v61, v62, v63, v64, v65, v66, v67, v68, v69, v70, v71, v72, v73, v74, v75, v76, v77, v78, v79, v80, v81, v82, v83, v84, v85, v86, v87, v88, v89, v90, v91, v92, v93, v94, v95, v96, v97, v98, v99, v100, v101, v102], defers := [] } W := by
      intro v1 v4 v5 v6 v7 v8 v9 v10 v11 v12 v13 v14 v15 v16 v17 v18 v19 v20 v21 v22 v23 v24 v25 v26 v27 v28 v29 v30 v31 v32 v33 v34 v35 v36 v37 v38 v39 v40 v41 v42 v43 v44 v45 v46 v47 v48 v49 v50 v51 v52 v53 v54 v55 v56 v57 v58 v59 v60 v61 v62 v63 v64 v65 v66 v67 v68 v69 v70 v71 v72 v73 v74 v75 v76 v77 v78 v79 v80 v81 v82 v83 v84 v85 v86 v87 v88 v89 v90 v91 v92 v93 v94 v95 v96 v97 v98 v99 v100 v101 v102 B L d rs p1 W hL hL2 hp1 hD hQ
      have HL := Lib.hid hL; have HD := Lib.hid hD; have HQ := Lib.hid hQ
      clear hL hD hQ
      refine aR2 _ _ ?_
      clear aR2 aC2 aL2
      go_wp2_with fail
      refine (pick_any b A n c p1 3 _ HD.out.rd (by omega) (by omega)).mono ?_; rintro e w1 ⟨k0, ⟨rfl, hk0⟩, hr1, hg1⟩
      have HD1 := Lib.hid (HD.out.step hbw hg1 hr1)
      have hk0' : k0 ≤ 2 := by omega
      clear hr1 hg1 HD hk0
      go_wp2
      go_loopw [3, 4] (fun o i wr => ∃ (j : Nat) (B : Option Addr) (L d : Nat) (rs : List Rr) (p2 : Nat), i = .int .i64 (j : Int) ∧ o = .slice B L d ∧ rs.length = L ∧ L + j ≤ 5 ∧ p2 + 40 * j ≤ p + 100 ∧ DR b A n c w p2 wr (.slice B L d) rs ∧ ∀ r ∈ rs, NmRule r) (fun _ i _ => (intOf i).toNat)
      case atStart => exact ⟨k0, B, L, d, rs, p1 + 1, rfl, rfl, HL.out, by omega, by omega, HD1.out, HQ.out⟩
      case round =>
        obtain ⟨j, B, L, d, rs, p2, rfl, rfl, hL, hLj, hp2, hD, hQ⟩ := hrel
        have HL := Lib.hid hL; have HD := Lib.hid hD; have HQ := Lib.hid hQ
        clear hL hD hQ HD1
        by_cases h0 : 0 < j
        · have h0I : (0 : Int) < (j : Int) := by omega
          go_wp2_with fail
          refine (of_laidAt nmB _ b _ A n c _ wr _ _ rfl HD.out.rd (by omega) (by rfl) (by omega) (by omega) (by rfl)).mono ?_; rintro e w2 ⟨s, ⟨rfl, hs⟩, hr2, hg2⟩
          have D2 := Lib.hid ((HD.out.below hbw (below1 _ _)).step hbw hg2 hr2)
          clear hr2 hg2
          go_wp2_with fail
          refine (atom_draw b A n c _ s true w2 D2.out.rd (by omega) (nm_of hs)).mono ?_; rintro e w3 ⟨nm, A', k, d', ts, p3, ⟨rfl, hnm, hk, hp3⟩, hlen, hs3, hown3, hrd3, hg3⟩
          have HH := Lib.hid ((head_drawn hnm hlen hs3 hown3).keep (w' := w3) (lo' := w.heap.size) (hi' := w3.heap.size) (fun _ _ _ => rfl) D2.out.gr.size (Nat.le_refl _))
          have D3 := Lib.hid (D2.out.step hbw hg3 hrd3)
          have HNM := Lib.hid hnm; have HLN := Lib.hid hlen
          clear hlen hs3 hown3 hrd3 hg3 hnm D2
          have HS8 := Lib.hid (laid nmB w3 #[.string ⟨#[101]⟩, .string ⟨#[112]⟩, .string ⟨#[101]⟩, .string ⟨#[116]⟩, .string ⟨#[113]⟩, .string ⟨#[104]⟩, .string ⟨#[122]⟩, .string ⟨#[115]⟩] 9 (by rfl))
          have D3b := Lib.hid (D3.out.below hbw (below1 w3 (.cells #[.string ⟨#[101]⟩, .string ⟨#[112]⟩, .string ⟨#[101]⟩, .string ⟨#[116]⟩, .string ⟨#[113]⟩, .string ⟨#[104]⟩, .string ⟨#[122]⟩, .string ⟨#[115]⟩] 9)))
          have HHb := Lib.hid (HH.out.on (below1 w3 (.cells #[.string ⟨#[101]⟩, .string ⟨#[112]⟩, .string ⟨#[101]⟩, .string ⟨#[116]⟩, .string ⟨#[113]⟩, .string ⟨#[104]⟩, .string ⟨#[122]⟩, .string ⟨#[115]⟩] 9)))
          have hz3 := D3.out.gr.size
          go_wp2_with fail
          refine (body_draw b w3.heap.size 8 A n c p3 _ D3b.out.rd (by omega) (by omega) (by omega) (by omega) HS8.out).mono ?_; rintro e w4 ⟨v4, ps, p4, rfl, hl4, hp4, hDP, hQ4⟩
          obtain ⟨B4, d4, hv4, _⟩ := ty_parts hDP.row rfl hDP.hd
          subst hv4
          have HDP := Lib.hid hDP; have HQ4 := Lib.hid hQ4
          obtain ⟨m4, hm4⟩ : ∃ m4, ps.length = m4 := ⟨_, rfl⟩
          rw [hm4] at HDP hl4 ⊢
          have HM4 := Lib.hid hm4
          have hz4 := hDP.gr.size
          have hz3' : (w3.alloc (.cells #[.string ⟨#[101]⟩, .string ⟨#[112]⟩, .string ⟨#[101]⟩, .string ⟨#[116]⟩, .string ⟨#[113]⟩, .string ⟨#[104]⟩, .string ⟨#[122]⟩, .string ⟨#[115]⟩] 9)).heap.size = w3.heap.size + 1 := by simp
          have XO : Old w (.slice B L d) rs (nm, A', k, d', ts) (w3.alloc (.cells #[.string ⟨#[101]⟩, .string ⟨#[112]⟩, .string ⟨#[101]⟩, .string ⟨#[116]⟩, .string ⟨#[113]⟩, .string ⟨#[104]⟩, .string ⟨#[122]⟩, .string ⟨#[115]⟩] 9)) w4 := by
            have h1 : Old w (.slice B L d) rs (nm, A', k, d', ts) (w3.alloc (.cells #[.string ⟨#[101]⟩, .string ⟨#[112]⟩, .string ⟨#[101]⟩, .string ⟨#[116]⟩, .string ⟨#[113]⟩, .string ⟨#[104]⟩, .string ⟨#[122]⟩, .string ⟨#[115]⟩] 9)) (w3.alloc (.cells #[.string ⟨#[101]⟩, .string ⟨#[112]⟩, .string ⟨#[101]⟩, .string ⟨#[116]⟩, .string ⟨#[113]⟩, .string ⟨#[104]⟩, .string ⟨#[122]⟩, .string ⟨#[115]⟩] 9)) := ⟨D3b.out.row, D3b.out.ty, HHb.out, fun g hg => (D3b.out.row.lt g hg).2, D3b.out.gr.size⟩
            exact h1.keep (grown_low hDP.gr hbw (Nat.le_refl _))
          have XB4 : XB b A n c w w4.heap.size (nm, A', k, d', ts) p4 (.slice B L d) rs (w3.alloc (.cells #[.string ⟨#[101]⟩, .string ⟨#[112]⟩, .string ⟨#[101]⟩, .string ⟨#[116]⟩, .string ⟨#[113]⟩, .string ⟨#[104]⟩, .string ⟨#[122]⟩, .string ⟨#[115]⟩] 9)) B4 m4 d4 ps (w4.alloc (.cells #[.string nm, .slice A' k d', .slice B4 m4 d4] 72)) := by
            have hbx := below1 w4 (.cells #[.string nm, .slice A' k d', .slice B4 m4 d4] 72)
            exact ⟨XO.keep (fun y _ hy => hbx.block y (by omega)), HDP.out.below (by omega) hbx, Blk.new w4 _ _, hz4, grownTrans (grownTrans D3b.out.gr hDP.gr) (grownBelow hbx (some b))⟩
          have HX4 := Lib.hid XB4
          clear hDP hQ4 hm4 XO XB4 HDP D3 D3b HH HHb HS8 HD hz3'
          go_wp2_with fail
          rename_i K3 a3 KC3 aC3 KL3 aL3
          have REST3 : ∀ (x5 x7 x54 x55 x56 x57 x58 x59 x60 x61 x62 x63 x64 x65 x66 x67 x68 x69 x70 x71 x72 x73 x74 x75 x76 x77 x78 x79 x80 x81 x82 x83 x84 x85 x86 x87 x88 x89 x90 x91 x92 x93 x94 x95 x96 x97 x98 x99 x100 x101 : Value) (C : Option Addr) (m e : Nat) (qs : List Pf) (p5 : Nat) (W : World), qs.length = m → m ≤ 3 → p5 ≤ p4 + 1 → XB b A n c w w4.heap.size (nm, A', k, d', ts) p5 (.slice B L d) rs (w3.alloc (.cells #[.string ⟨#[101]⟩, .string ⟨#[112]⟩, .string ⟨#[101]⟩, .string ⟨#[116]⟩, .string ⟨#[113]⟩, .string ⟨#[104]⟩, .string ⟨#[122]⟩, .string ⟨#[115]⟩] 9)) C m e qs W → (∀ q ∈ qs, NmPart q) → K3 { tmps := #[.pointer (some ⟨b, 0, none⟩), v1, .slice none 0 0, .slice B L d, .int .i64 (j : Int), x5, .pointer (some ⟨w4.heap.size, 0, none⟩), x7, v8, v9, v10, v11, v12, v13, v14, v15, v16, v17, v18, v19, v20, v21, v22, v23, v24, v25, v26, v27, v28, v29, v30, v31, v32, v33, v34, v35, v36, v37, v38, v39, v40, v41, v42, v43, v44, v45, v46, v47, v48, v49, v50, v51, .pointer (some ⟨b, 0, none⟩), .int .i64 (k0 : Int), x54, x55, x56, x57, x58, x59, x60, x61, x62, x63, x64, x65, x66, x67, x68, x69, x70, x71, x72, x73, x74, x75, x76, x77, x78, x79, x80, x81, x82, x83, x84, x85, x86, x87, x88, x89, x90, x91, x92, x93, x94, x95, x96, x97, x98, x99, x100, x101, v102], defers := [] } W := by
            intro x5 x7 x54 x55 x56 x57 x58 x59 x60 x61 x62 x63 x64 x65 x66 x67 x68 x69 x70 x71 x72 x73 x74 x75 x76 x77 x78 x79 x80 x81 x82 x83 x84 x85 x86 x87 x88 x89 x90 x91 x92 x93 x94 x95 x96 x97 x98 x99 x100 x101 C m e qs p5 W hm hm3 hp5 hX hQ
            have HM := Lib.hid hm; have HX := Lib.hid hX; have HQ5 := Lib.hid hQ
            clear hm hX hQ HX4 HQ4 HM4
            refine a3 _ _ ?_
            clear a3 aC3 aL3
            have x0 : W.cell? ⟨w4.heap.size, 0, none⟩ = some (.string nm) := HX.out.X.cell 0
            have x1 : W.cell? ⟨w4.heap.size, 1, none⟩ = some (.slice A' k d') := HX.out.X.cell 1
            have x2 : W.cell? ⟨w4.heap.size, 2, none⟩ = some (.slice C m e) := HX.out.X.cell 2
            have HT0 := Lib.hid (HX.out.O.H.2.1.keep (w' := W) (lo' := 0) (hi' := W.heap.size) (fun _ _ _ => rfl) (Nat.zero_le _) HX.out.P.gr.size)
            have HP0 := Lib.hid ((HX.out.rule HM.out).2.parts.keep (w' := W) (lo' := 0) (hi' := W.heap.size) PartE.stays (fun _ _ _ => rfl) (Nat.zero_le _) (Nat.le_refl _))
            have H3 := Lib.hid (show ∀ q ∈ qs.map pAt, q.2.2.length ≤ 3 from fun q hq => by
              obtain ⟨r, hr, rfl⟩ := List.mem_map.1 hq
              have h1 := (HX.out.P.hd r hr).2.1.1
              have h2 := (HQ5.out r hr).2
              unfold rN at h2
              show r.2.2.2.2.2.length ≤ 3; omega)
            go_wp2_with fail
            rename_i K4 a4 KC4 aC4 KL4 aL4
            have REST4 : ∀ (y5 y7 y54 y55 y56 y57 y58 y59 y60 y61 y62 y63 y64 y65 y66 y67 y68 y69 y70 y71 y72 y73 y74 y75 y76 y77 y78 y79 y80 y81 y82 y83 y84 y85 y86 y87 y88 y89 y90 y91 y92 y93 y94 y95 y96 y97 y98 y99 y100 y101 : Value) (C : Option Addr) (m e : Nat) (qs : List Pf) (W : World), qs.length = m → m ≤ 4 → XB b A n c w w4.heap.size (nm, A', k, d', ts) p5 (.slice B L d) rs (w3.alloc (.cells #[.string ⟨#[101]⟩, .string ⟨#[112]⟩, .string ⟨#[101]⟩, .string ⟨#[116]⟩, .string ⟨#[113]⟩, .string ⟨#[104]⟩, .string ⟨#[122]⟩, .string ⟨#[115]⟩] 9)) C m e qs W → (∀ q ∈ qs, NmPart q) → K4 { tmps := #[.pointer (some ⟨b, 0, none⟩), v1, .slice none 0 0, .slice B L d, .int .i64 (j : Int), y5, .pointer (some ⟨w4.heap.size, 0, none⟩), y7, v8, v9, v10, v11, v12, v13, v14, v15, v16, v17, v18, v19, v20, v21, v22, v23, v24, v25, v26, v27, v28, v29, v30, v31, v32, v33, v34, v35, v36, v37, v38, v39, v40, v41, v42, v43, v44, v45, v46, v47, v48, v49, v50, v51, .pointer (some ⟨b, 0, none⟩), .int .i64 (k0 : Int), y54, y55, y56, y57, y58, y59, y60, y61, y62, y63, y64, y65, y66, y67, y68, y69, y70, y71, y72, y73, y74, y75, y76, y77, y78, y79, y80, y81, y82, y83, y84, y85, y86, y87, y88, y89, y90, y91, y92, y93, y94, y95, y96, y97, y98, y99, y100, y101, v102], defers := [] } W := by
              intro y5 y7 y54 y55 y56 y57 y58 y59 y60 y61 y62 y63 y64 y65 y66 y67 y68 y69 y70 y71 y72 y73 y74 y75 y76 y77 y78 y79 y80 y81 y82 y83 y84 y85 y86 y87 y88 y89 y90 y91 y92 y93 y94 y95 y96 y97 y98 y99 y100 y101 C m e qs W hm hm4 hX hQ
              have HM := Lib.hid hm; have HX := Lib.hid hX; have HQ5 := Lib.hid hQ
              clear hm hX hQ HT0 HP0 H3 x0 x1 x2
              refine a4 _ _ ?_
              clear a4 aC4 aL4
              have hm3 : True := trivial
              have HXV := Lib.hid (HX.out.below hbw (show Below W.heap.size W W.drew from (Below.refl _ _).drew))
              have x0 : W.cell? ⟨w4.heap.size, 0, none⟩ = some (.string nm) := HX.out.X.cell 0
              have x1 : W.cell? ⟨w4.heap.size, 1, none⟩ = some (.slice A' k d') := HX.out.X.cell 1
              have x2 : W.cell? ⟨w4.heap.size, 2, none⟩ = some (.slice C m e) := HX.out.X.cell 2
              go_wp2
              rename_i K5 a5
              have REST5 : ∀ (z5 z54 z55 z56 z57 z58 z59 z60 z61 z62 z63 z64 z65 z66 z67 z68 z69 z70 z71 z72 z73 z74 z75 z76 z77 z78 z79 z80 z81 z82 z83 z84 z85 z86 z87 z88 z89 z90 z91 z92 z93 z94 z95 z96 z97 z98 z99 z100 z101 : Value) (g' cap' : Nat) (X : World), XB b A n c w w4.heap.size (nm, A', k, d', ts) p5 (.slice B L d) rs (w3.alloc (.cells #[.string ⟨#[101]⟩, .string ⟨#[112]⟩, .string ⟨#[101]⟩, .string ⟨#[116]⟩, .string ⟨#[113]⟩, .string ⟨#[104]⟩, .string ⟨#[122]⟩, .string ⟨#[115]⟩] 9)) C m e qs X → X.ownsRow w.heap.size 72 3 (.slice (some ⟨g', 0, none⟩) (L + 1) cap') (L + 1) (rrcells rs ++ [.string nm, .slice A' k d', .slice C m e]) → K5 { tmps := #[.pointer (some ⟨b, 0, none⟩), v1, .slice none 0 0, .slice B L d, .int .i64 (j : Int), z5, .pointer (some ⟨w4.heap.size, 0, none⟩), .slice (some ⟨g', 0, none⟩) (L + 1) cap', v8, v9, v10, v11, v12, v13, v14, v15, v16, v17, v18, v19, v20, v21, v22, v23, v24, v25, v26, v27, v28, v29, v30, v31, v32, v33, v34, v35, v36, v37, v38, v39, v40, v41, v42, v43, v44, v45, v46, v47, v48, v49, v50, v51, .pointer (some ⟨b, 0, none⟩), .int .i64 (k0 : Int), z54, z55, z56, z57, z58, z59, z60, z61, z62, z63, z64, z65, z66, z67, z68, z69, z70, z71, z72, z73, z74, z75, z76, z77, z78, z79, z80, z81, z82, z83, z84, z85, z86, z87, z88, z89, z90, z91, z92, z93, z94, z95, z96, z97, z98, z99, z100, z101, v102], defers := [] } X := by
                intro z5 z54 z55 z56 z57 z58 z59 z60 z61 z62 z63 z64 z65 z66 z67 z68 z69 z70 z71 z72 z73 z74 z75 z76 z77 z78 z79 z80 z81 z82 z83 z84 z85 z86 z87 z88 z89 z90 z91 z92 z93 z94 z95 z96 z97 z98 z99 z100 z101 g' cap' X hX hrow
                have HX9 := Lib.hid hX
                have hY : DR b A n c w p5 X (.slice (some ⟨g', 0, none⟩) (L + 1) cap') (rs ++ [((nm, A', k, d', ts), C, m, e, qs)]) := by
                  refine ⟨?_, fun r hr => ?_, hX.P.rd, hX.gr⟩
                  · rw [List.length_append, rrcells_snoc, HL.out]; exact hrow
                  · rcases List.mem_append.1 hr with hr | hr
                    · exact hX.draw.ty r hr
                    · rw [List.mem_singleton.1 hr]; exact hX.rule HM.out
                have hLn : (rs ++ [((nm, A', k, d', ts), C, m, e, qs)]).length = L + 1 := by rw [List.length_append, HL.out]; rfl
                have HY := Lib.hid hY; have HLN' := Lib.hid hLn
                obtain ⟨B9, d9, e9, hI9⟩ := ty_rules (hLn ▸ hY.row) hLn hY.ty
                injection e9 with e9 _ e9'
                subst e9; subst e9'
                have HI9 := Lib.hid (hI9.keep (w' := X) (lo' := 0) (hi' := X.heap.size) RuleE.stays (fun _ _ _ => rfl) (Nat.zero_le _) (Nat.le_refl _))
                have HNR := Lib.hid (show ∀ r ∈ rs ++ [((nm, A', k, d', ts), C, m, e, qs)], NmRule r from fun r hr => by
                  rcases List.mem_append.1 hr with hr | hr
                  · exact HQ.out r hr
                  · rw [List.mem_singleton.1 hr]; exact ⟨HNM.out, by show k ≤ 8; omega, by have := HM.out; show qs.length ≤ 5; omega, fun q hq => ⟨(HQ5.out q hq).1, by have := (HQ5.out q hq).2; omega⟩⟩)
                clear hX hrow hY hLn hI9 HX HXV x0 x1 x2
                refine a5 _ _ ?_
                clear a5
                go_wp2_with fail
                refine (specProgCheck_any _ _ _ _ _ HI9.out).mono ?_; rintro e_ w7 ⟨rfl, hb7⟩
                obtain ⟨pk, hpk⟩ : ∃ pk, progB ((rs ++ [((nm, A', k, d', ts), C, m, e, qs)]).map rRl) = pk := ⟨_, rfl⟩
                rw [hpk]
                have HY7 := Lib.hid (HY.out.below hbw hb7)
                have HX7 := Lib.hid (HX9.out.below hbw hb7)
                clear hb7 hpk HY HX9 HI9
                by_cases hk0 : pk = 0
                · have hkI : (pk : Int) = 0 := by omega
                  go_wp2
                  go_roundw
                  case rel => exact ⟨j - 1, _, L + 1, _, rs ++ [((nm, A', k, d', ts), C, m, e, qs)], p5, by go_num, rfl, HLN'.out, by omega, by omega, HY7.out, HNR.out⟩
                  case measure => simp [intOf]; omega
                · have hkI : ¬ (pk : Int) = 0 := by omega
                  go_wp2_with fail
                  refine (pick_any b A n c p5 24 _ HY7.out.rd (by omega) (by omega)).mono ?_; rintro e_ w8 ⟨kk8, ⟨rfl, hkk8⟩, hr8, hg8⟩
                  have HY8 := Lib.hid (HY7.out.step hbw hg8 hr8)
                  have HX8 := Lib.hid (HX7.out.step hbw hg8 hr8)
                  clear hr8 hg8 HY7 HX7
                  by_cases hk8 : kk8 = 0
                  · subst hk8
                    go_wp2
                    go_roundw
                    case rel => exact ⟨j - 1, _, L + 1, _, rs ++ [((nm, A', k, d', ts), C, m, e, qs)], p5 + 1, by go_num, rfl, HLN'.out, by omega, by omega, HY8.out, HNR.out⟩
                    case measure => simp [intOf]; omega
                  · have hkI8 : ¬ (kk8 : Int) = 0 := by omega
                    have hB1 : ((pk : Int) == 0) = false := by simpa using hkI
                    have hB8 : ((kk8 : Int) == 0) = false := by simpa using hkI8
                    go_wp2
                    all_goals try (exfalso; simp_all; done)
                    go_roundw
                    case rel => exact ⟨j - 1, B, L, d, rs, p5 + 1, by go_num, rfl, HL.out, by omega, by omega, HX8.out.draw, HQ.out⟩
                    case measure => simp [intOf]; omega
              have HREST5 := Lib.hid REST5; clear REST5 a5
              obtain ⟨V, hV⟩ : ∃ V, W.drew = V := ⟨_, rfl⟩
              have y0 : V.cell? ⟨w4.heap.size, 0, none⟩ = some (.string nm) := by rw [← hV]; exact x0
              have y1 : V.cell? ⟨w4.heap.size, 1, none⟩ = some (.slice A' k d') := by rw [← hV]; exact x1
              have y2 : V.cell? ⟨w4.heap.size, 2, none⟩ = some (.slice C m e) := by rw [← hV]; exact x2
              rw [hV] at HXV
              clear x0 x1 x2 HX
              have hwV : w.heap.size ≤ V.heap.size := HXV.out.gr.size
              refine wp_region_held_drew (S := fun W => W.cell? ⟨w4.heap.size, 0, none⟩ = some (.string nm) ∧ W.cell? ⟨w4.heap.size, 1, none⟩ = some (.slice A' k d') ∧ W.cell? ⟨w4.heap.size, 2, none⟩ = some (.slice C m e)) (by kernel_rfl) (by rw [hV]; exact ⟨y0, y1, y2⟩) ?_
              rw [hV]
              clear hV
              intro hS_
              refine takeV (i := 1) (v := .slice B L d) (by (simp only [List.getElem?_toArray, List.getElem?_cons_succ, List.getElem?_cons_zero]); rfl) (by kernel_rfl) (by kernel_rfl) (by kernel_rfl) (by rfl) (fun _ _ _ h => h) (Or.inl ⟨by rfl, ?_⟩) hS_ (by (simp only [List.setIfInBounds_toArray, List.set_cons_succ, List.set_cons_zero]); rfl) ?_
              · intro w_ hSw_; (try dsimp only at hSw_); go_simp
              refine takeV (i := 3) (v := .agg #[.string nm, .slice A' k d', .slice C m e]) (by (simp only [List.getElem?_toArray, List.getElem?_cons_succ, List.getElem?_cons_zero]); rfl) (by kernel_rfl) (by kernel_rfl) (by kernel_rfl) (by rfl) (fun _ _ _ h => h) (Or.inl ⟨by rfl, ?_⟩) hS_ (by (simp only [List.setIfInBounds_toArray, List.set_cons_succ, List.set_cons_zero]); rfl) ?_
              · intro w_ hSw_; (try dsimp only at hSw_); go_simp
              have BVV := Lib.hid (Below.refl V.heap.size V)
              refine wpAnyH_ready (rs := [0, 4]) (by kernel_rfl) (by simp) ?_
              refine (AllReadyH.cons (o := _) (by (simp only [List.getElem?_toArray, List.getElem?_cons_zero]); rfl) (fun K_ hK_ => ?_) (AllReadyH.cons (o := _) (by (simp only [List.getElem?_toArray, List.getElem?_cons_succ, List.getElem?_cons_zero]); rfl) (fun K_ hK_ => ?_) AllReadyH.nil))
              · rw [if_pos (by rfl)]
                go_simp
                have HX101 := Lib.hid (HXV.out.below hbw (below1 V (.cells #[] 72)))
                have BV1 := Lib.hid (belowThen BVV.out (below1 V (.cells #[] 72)))
                have hzb1 := BVV.out.size
                have RY1 := Lib.hid (own_empty3 V 72 V.heap.size hzb1)
                have hzs1 : (V.alloc (.cells #[] 72)).heap.size ≤ V.heap.size + 1 ∧ V.heap.size + 1 ≤ (V.alloc (.cells #[] 72)).heap.size := by simp
                obtain ⟨V1, hV1⟩ : ∃ X, V.alloc (.cells #[] 72) = X := ⟨_, rfl⟩
                rw [hV1] at HX101 BV1 RY1 hzs1 ⊢
                clear hV1
                refine hK_.out _ _ ⟨HX101.out.X.cell 0, HX101.out.X.cell 1, HX101.out.X.cell 2⟩ (fun hS2_ => ?_)
                clear hK_ hS_; have hS_ := hS2_; clear hS2_
                (try simp only [Act.put, List.setIfInBounds_toArray, List.set_cons_zero, List.set_cons_succ])
                refine wpAnyH_ready (rs := [2, 4]) (by kernel_rfl) (by simp) ?_
                refine (AllReadyH.cons (o := _) (by (simp only [List.getElem?_toArray, List.getElem?_cons_succ, List.getElem?_cons_zero]); rfl) (fun K_ hK_ => ?_) (AllReadyH.cons (o := _) (by (simp only [List.getElem?_toArray, List.getElem?_cons_succ, List.getElem?_cons_zero]); rfl) (fun K_ hK_ => ?_) AllReadyH.nil))
                · have SRC2 := srcRow (B := B) (d := d) (show V1.ownsRow w.heap.size 72 3 (.slice B L d) L (rrcells rs) by have := HX101.out.O.R; rw [HL.out] at this; exact this) (by rw [rrcells_len, HL.out])
                  refine step_appZ 3 (by omega) (by rfl) _ _ _ (by rfl) V.heap.size 72 i2 _ 64 Tryz.underlying25 HI2.out HZ2.out HSZ2.out HYY2.out rfl (.slice (some ⟨V.heap.size, 0, none⟩) 0 0) 0 [] (by rfl) RY1.out B L d (rrcells rs) (by rfl) SRC2 (rrcells_one rs) (by unfold maxLen; omega) (by omega) BV1.out.size ?_
                  intro q2 V2 OW2 G2
                  have RY2 := Lib.hid (show V2.ownsRow V.heap.size 72 3 q2 L (rrcells rs) by rw [Nat.zero_add, List.nil_append] at OW2; exact OW2)
                  have BV2 := Lib.hid (BV1.out.grown G2 BV1.out.size (fun g hg => (RY1.out.lt g hg).1))
                  have HX102 := Lib.hid (HXV.out.below hbw BV2.out)
                  clear OW2 G2 SRC2
                  refine hK_.out _ _ ⟨HX102.out.X.cell 0, HX102.out.X.cell 1, HX102.out.X.cell 2⟩ (fun hS2_ => ?_)
                  clear hK_ hS_; have hS_ := hS2_; clear hS2_
                  (try simp only [Act.put, List.setIfInBounds_toArray, List.set_cons_zero, List.set_cons_succ])
                  refine wpAnyH_ready (rs := [4]) (by kernel_rfl) (by simp) ?_
                  refine AllReadyH.cons (o := _) (by (simp only [List.getElem?_toArray, List.getElem?_cons_succ, List.getElem?_cons_zero]); rfl) (fun K_ hK_ => ?_) AllReadyH.nil
                  rw [if_pos (by rfl)]
                  go_simp
                  have HX103 := Lib.hid (HX102.out.below hbw (below1 V2 (.cells #[.string nm, .slice A' k d', .slice C m e] 72)))
                  have BV3 := Lib.hid (belowThen BV2.out (below1 V2 (.cells #[.string nm, .slice A' k d', .slice C m e] 72)))
                  have hzb3 := BV2.out.size
                  have TM3 := Lib.hid (Blk.new V2 72 #[.string nm, .slice A' k d', .slice C m e])
                  have RY3 := Lib.hid (RY2.out.alloc (.cells #[.string nm, .slice A' k d', .slice C m e] 72))
                  have hzs3 : (V2.alloc (.cells #[.string nm, .slice A' k d', .slice C m e] 72)).heap.size ≤ V2.heap.size + 1 ∧ V2.heap.size + 1 ≤ (V2.alloc (.cells #[.string nm, .slice A' k d', .slice C m e] 72)).heap.size := by simp
                  obtain ⟨V3, hV3⟩ : ∃ X, V2.alloc (.cells #[.string nm, .slice A' k d', .slice C m e] 72) = X := ⟨_, rfl⟩
                  rw [hV3] at HX103 BV3 TM3 RY3 hzs3 ⊢
                  clear hV3
                  refine hK_.out _ _ ⟨HX103.out.X.cell 0, HX103.out.X.cell 1, HX103.out.X.cell 2⟩ (fun hS2_ => ?_)
                  clear hK_ hS_; have hS_ := hS2_; clear hS2_
                  (try simp only [Act.put, List.setIfInBounds_toArray, List.set_cons_zero, List.set_cons_succ])
                  refine wpAnyH_ready (rs := [5]) (by kernel_rfl) (by simp) ?_
                  refine AllReadyH.cons (o := _) (by (simp only [List.getElem?_toArray, List.getElem?_cons_succ, List.getElem?_cons_zero]); rfl) (fun K_ hK_ => ?_) AllReadyH.nil
                  refine step_appZ 3 (by omega) (by rfl) _ _ _ (by rfl) V.heap.size 72 i2 _ 64 Tryz.underlying25 HI2.out HZ2.out HSZ2.out HYY2.out rfl q2 L (rrcells rs) (by rfl) RY3.out (some ⟨V2.heap.size, 0, none⟩) 1 1 [.string nm, .slice A' k d', .slice C m e] (by rfl) (srcOneP _ _ _ _ _ _ TM3.out) (by simp [Value.oneCell']) (by unfold maxLen; omega) (by omega) BV3.out.size ?_
                  intro q4 V4 OW4 G4
                  obtain ⟨g', cap', rfl⟩ := ownsRow_succ OW4
                  have BV4 := Lib.hid (BV3.out.grown G4 BV3.out.size (fun g hg => (RY3.out.lt g hg).1))
                  have HX104 := Lib.hid (HXV.out.below hbw BV4.out)
                  have RY4 := Lib.hid (ownsLess OW4 hwV)
                  clear OW4 G4
                  refine hK_.out _ _ ⟨HX104.out.X.cell 0, HX104.out.X.cell 1, HX104.out.X.cell 2⟩ (fun hS2_ => ?_)
                  clear hK_ hS_; have hS_ := hS2_; clear hS2_
                  (try simp only [Act.put, List.setIfInBounds_toArray, List.set_cons_zero, List.set_cons_succ])
                  refine takeV (i := 6) (v := .slice (some ⟨g', 0, none⟩) (L + 1) cap') (by (simp only [List.getElem?_toArray, List.getElem?_cons_succ, List.getElem?_cons_zero]); rfl) (by kernel_rfl) (by kernel_rfl) (by kernel_rfl) (by rfl) (fun _ _ _ h => h) (Or.inl ⟨by rfl, ?_⟩) hS_ (by (simp only [List.setIfInBounds_toArray, List.set_cons_succ, List.set_cons_zero]); rfl) ?_
                  · intro w_ hSw_; (try dsimp only at hSw_); go_simp
                  refine wpAnyH_done (by kernel_rfl) ?_ _
                  exact HREST5.out _ _ _ _ _ _ _ _ _ _ _ _ _ _ _ _ _ _ _ _ _ _ _ _ _ _ _ _ _ _ _ _ _ _ _ _ _ _ _ _ _ _ _ _ _ _ _ _ _ g' cap' V4 HX104.out RY4.out
                · rw [if_pos (by rfl)]
                  go_simp
                  have HX105 := Lib.hid (HX101.out.below hbw (below1 V1 (.cells #[.string nm, .slice A' k d', .slice C m e] 72)))
                  have BV5 := Lib.hid (belowThen BV1.out (below1 V1 (.cells #[.string nm, .slice A' k d', .slice C m e] 72)))
                  have hzb5 := BV1.out.size
                  have TM5 := Lib.hid (Blk.new V1 72 #[.string nm, .slice A' k d', .slice C m e])
                  have RY5 := Lib.hid (RY1.out.alloc (.cells #[.string nm, .slice A' k d', .slice C m e] 72))
                  have hzs5 : (V1.alloc (.cells #[.string nm, .slice A' k d', .slice C m e] 72)).heap.size ≤ V1.heap.size + 1 ∧ V1.heap.size + 1 ≤ (V1.alloc (.cells #[.string nm, .slice A' k d', .slice C m e] 72)).heap.size := by simp
                  obtain ⟨V5, hV5⟩ : ∃ X, V1.alloc (.cells #[.string nm, .slice A' k d', .slice C m e] 72) = X := ⟨_, rfl⟩
                  rw [hV5] at HX105 BV5 TM5 RY5 hzs5 ⊢
                  clear hV5
                  refine hK_.out _ _ ⟨HX105.out.X.cell 0, HX105.out.X.cell 1, HX105.out.X.cell 2⟩ (fun hS2_ => ?_)
                  clear hK_ hS_; have hS_ := hS2_; clear hS2_
                  (try simp only [Act.put, List.setIfInBounds_toArray, List.set_cons_zero, List.set_cons_succ])
                  refine wpAnyH_ready (rs := [2]) (by kernel_rfl) (by simp) ?_
                  refine AllReadyH.cons (o := _) (by (simp only [List.getElem?_toArray, List.getElem?_cons_succ, List.getElem?_cons_zero]); rfl) (fun K_ hK_ => ?_) AllReadyH.nil
                  have SRC6 := srcRow (B := B) (d := d) (show V5.ownsRow w.heap.size 72 3 (.slice B L d) L (rrcells rs) by have := HX105.out.O.R; rw [HL.out] at this; exact this) (by rw [rrcells_len, HL.out])
                  refine step_appZ 3 (by omega) (by rfl) _ _ _ (by rfl) V.heap.size 72 i2 _ 64 Tryz.underlying25 HI2.out HZ2.out HSZ2.out HYY2.out rfl (.slice (some ⟨V.heap.size, 0, none⟩) 0 0) 0 [] (by rfl) RY5.out B L d (rrcells rs) (by rfl) SRC6 (rrcells_one rs) (by unfold maxLen; omega) (by omega) BV5.out.size ?_
                  intro q6 V6 OW6 G6
                  have RY6 := Lib.hid (show V6.ownsRow V.heap.size 72 3 q6 L (rrcells rs) by rw [Nat.zero_add, List.nil_append] at OW6; exact OW6)
                  have BV6 := Lib.hid (BV5.out.grown G6 BV5.out.size (fun g hg => (RY5.out.lt g hg).1))
                  have HX106 := Lib.hid (HXV.out.below hbw BV6.out)
                  have TM6 := Lib.hid (TM5.out.kept G6 (fun e => by simp [Value.ownBlock] at e; omega))
                  clear OW6 G6 SRC6
                  refine hK_.out _ _ ⟨HX106.out.X.cell 0, HX106.out.X.cell 1, HX106.out.X.cell 2⟩ (fun hS2_ => ?_)
                  clear hK_ hS_; have hS_ := hS2_; clear hS2_
                  (try simp only [Act.put, List.setIfInBounds_toArray, List.set_cons_zero, List.set_cons_succ])
                  refine wpAnyH_ready (rs := [5]) (by kernel_rfl) (by simp) ?_
                  refine AllReadyH.cons (o := _) (by (simp only [List.getElem?_toArray, List.getElem?_cons_succ, List.getElem?_cons_zero]); rfl) (fun K_ hK_ => ?_) AllReadyH.nil
                  refine step_appZ 3 (by omega) (by rfl) _ _ _ (by rfl) V.heap.size 72 i2 _ 64 Tryz.underlying25 HI2.out HZ2.out HSZ2.out HYY2.out rfl q6 L (rrcells rs) (by rfl) RY6.out (some ⟨V1.heap.size, 0, none⟩) 1 1 [.string nm, .slice A' k d', .slice C m e] (by rfl) (srcOneP _ _ _ _ _ _ TM6.out) (by simp [Value.oneCell']) (by unfold maxLen; omega) (by omega) BV6.out.size ?_
                  intro q7 V7 OW7 G7
                  obtain ⟨g', cap', rfl⟩ := ownsRow_succ OW7
                  have BV7 := Lib.hid (BV6.out.grown G7 BV6.out.size (fun g hg => (RY6.out.lt g hg).1))
                  have HX107 := Lib.hid (HXV.out.below hbw BV7.out)
                  have RY7 := Lib.hid (ownsLess OW7 hwV)
                  clear OW7 G7
                  refine hK_.out _ _ ⟨HX107.out.X.cell 0, HX107.out.X.cell 1, HX107.out.X.cell 2⟩ (fun hS2_ => ?_)
                  clear hK_ hS_; have hS_ := hS2_; clear hS2_
                  (try simp only [Act.put, List.setIfInBounds_toArray, List.set_cons_zero, List.set_cons_succ])
                  refine takeV (i := 6) (v := .slice (some ⟨g', 0, none⟩) (L + 1) cap') (by (simp only [List.getElem?_toArray, List.getElem?_cons_succ, List.getElem?_cons_zero]); rfl) (by kernel_rfl) (by kernel_rfl) (by kernel_rfl) (by rfl) (fun _ _ _ h => h) (Or.inl ⟨by rfl, ?_⟩) hS_ (by (simp only [List.setIfInBounds_toArray, List.set_cons_succ, List.set_cons_zero]); rfl) ?_
                  · intro w_ hSw_; (try dsimp only at hSw_); go_simp
                  refine wpAnyH_done (by kernel_rfl) ?_ _
                  exact HREST5.out _ _ _ _ _ _ _ _ _ _ _ _ _ _ _ _ _ _ _ _ _ _ _ _ _ _ _ _ _ _ _ _ _ _ _ _ _ _ _ _ _ _ _ _ _ _ _ _ _ g' cap' V7 HX107.out RY7.out
              · rw [if_pos (by rfl)]
                go_simp
                have HX108 := Lib.hid (HXV.out.below hbw (below1 V (.cells #[.string nm, .slice A' k d', .slice C m e] 72)))
                have BV8 := Lib.hid (belowThen BVV.out (below1 V (.cells #[.string nm, .slice A' k d', .slice C m e] 72)))
                have hzb8 := BVV.out.size
                have TM8 := Lib.hid (Blk.new V 72 #[.string nm, .slice A' k d', .slice C m e])
                have hzs8 : (V.alloc (.cells #[.string nm, .slice A' k d', .slice C m e] 72)).heap.size ≤ V.heap.size + 1 ∧ V.heap.size + 1 ≤ (V.alloc (.cells #[.string nm, .slice A' k d', .slice C m e] 72)).heap.size := by simp
                obtain ⟨V8, hV8⟩ : ∃ X, V.alloc (.cells #[.string nm, .slice A' k d', .slice C m e] 72) = X := ⟨_, rfl⟩
                rw [hV8] at HX108 BV8 TM8 hzs8 ⊢
                clear hV8
                refine hK_.out _ _ ⟨HX108.out.X.cell 0, HX108.out.X.cell 1, HX108.out.X.cell 2⟩ (fun hS2_ => ?_)
                clear hK_ hS_; have hS_ := hS2_; clear hS2_
                (try simp only [Act.put, List.setIfInBounds_toArray, List.set_cons_zero, List.set_cons_succ])
                refine wpAnyH_ready (rs := [0]) (by kernel_rfl) (by simp) ?_
                refine AllReadyH.cons (o := _) (by (simp only [List.getElem?_toArray, List.getElem?_cons_zero]); rfl) (fun K_ hK_ => ?_) AllReadyH.nil
                rw [if_pos (by rfl)]
                go_simp
                have HX109 := Lib.hid (HX108.out.below hbw (below1 V8 (.cells #[] 72)))
                have BV9 := Lib.hid (belowThen BV8.out (below1 V8 (.cells #[] 72)))
                have hzb9 := BV8.out.size
                have RY9 := Lib.hid (own_empty3 V8 72 V.heap.size hzb9)
                have TM9 := Lib.hid (TM8.out.alloc (.cells #[] 72))
                have hzs9 : (V8.alloc (.cells #[] 72)).heap.size ≤ V8.heap.size + 1 ∧ V8.heap.size + 1 ≤ (V8.alloc (.cells #[] 72)).heap.size := by simp
                obtain ⟨V9, hV9⟩ : ∃ X, V8.alloc (.cells #[] 72) = X := ⟨_, rfl⟩
                rw [hV9] at HX109 BV9 RY9 TM9 hzs9 ⊢
                clear hV9
                refine hK_.out _ _ ⟨HX109.out.X.cell 0, HX109.out.X.cell 1, HX109.out.X.cell 2⟩ (fun hS2_ => ?_)
                clear hK_ hS_; have hS_ := hS2_; clear hS2_
                (try simp only [Act.put, List.setIfInBounds_toArray, List.set_cons_zero, List.set_cons_succ])
                refine wpAnyH_ready (rs := [2]) (by kernel_rfl) (by simp) ?_
                refine AllReadyH.cons (o := _) (by (simp only [List.getElem?_toArray, List.getElem?_cons_succ, List.getElem?_cons_zero]); rfl) (fun K_ hK_ => ?_) AllReadyH.nil
                have SRC10 := srcRow (B := B) (d := d) (show V9.ownsRow w.heap.size 72 3 (.slice B L d) L (rrcells rs) by have := HX109.out.O.R; rw [HL.out] at this; exact this) (by rw [rrcells_len, HL.out])
                refine step_appZ 3 (by omega) (by rfl) _ _ _ (by rfl) V.heap.size 72 i2 _ 64 Tryz.underlying25 HI2.out HZ2.out HSZ2.out HYY2.out rfl (.slice (some ⟨V8.heap.size, 0, none⟩) 0 0) 0 [] (by rfl) RY9.out B L d (rrcells rs) (by rfl) SRC10 (rrcells_one rs) (by unfold maxLen; omega) (by omega) BV9.out.size ?_
                intro q10 V10 OW10 G10
                have RY10 := Lib.hid (show V10.ownsRow V.heap.size 72 3 q10 L (rrcells rs) by rw [Nat.zero_add, List.nil_append] at OW10; exact OW10)
                have BV10 := Lib.hid (BV9.out.grown G10 BV9.out.size (fun g hg => (RY9.out.lt g hg).1))
                have HX110 := Lib.hid (HXV.out.below hbw BV10.out)
                have TM10 := Lib.hid (TM9.out.kept G10 (fun e => by simp [Value.ownBlock] at e; omega))
                clear OW10 G10 SRC10
                refine hK_.out _ _ ⟨HX110.out.X.cell 0, HX110.out.X.cell 1, HX110.out.X.cell 2⟩ (fun hS2_ => ?_)
                clear hK_ hS_; have hS_ := hS2_; clear hS2_
                (try simp only [Act.put, List.setIfInBounds_toArray, List.set_cons_zero, List.set_cons_succ])
                refine wpAnyH_ready (rs := [5]) (by kernel_rfl) (by simp) ?_
                refine AllReadyH.cons (o := _) (by (simp only [List.getElem?_toArray, List.getElem?_cons_succ, List.getElem?_cons_zero]); rfl) (fun K_ hK_ => ?_) AllReadyH.nil
                refine step_appZ 3 (by omega) (by rfl) _ _ _ (by rfl) V.heap.size 72 i2 _ 64 Tryz.underlying25 HI2.out HZ2.out HSZ2.out HYY2.out rfl q10 L (rrcells rs) (by rfl) RY10.out (some ⟨V.heap.size, 0, none⟩) 1 1 [.string nm, .slice A' k d', .slice C m e] (by rfl) (srcOneP _ _ _ _ _ _ TM10.out) (by simp [Value.oneCell']) (by unfold maxLen; omega) (by omega) BV10.out.size ?_
                intro q11 V11 OW11 G11
                obtain ⟨g', cap', rfl⟩ := ownsRow_succ OW11
                have BV11 := Lib.hid (BV10.out.grown G11 BV10.out.size (fun g hg => (RY10.out.lt g hg).1))
                have HX111 := Lib.hid (HXV.out.below hbw BV11.out)
                have RY11 := Lib.hid (ownsLess OW11 hwV)
                clear OW11 G11
                refine hK_.out _ _ ⟨HX111.out.X.cell 0, HX111.out.X.cell 1, HX111.out.X.cell 2⟩ (fun hS2_ => ?_)
                clear hK_ hS_; have hS_ := hS2_; clear hS2_
                (try simp only [Act.put, List.setIfInBounds_toArray, List.set_cons_zero, List.set_cons_succ])
                refine takeV (i := 6) (v := .slice (some ⟨g', 0, none⟩) (L + 1) cap') (by (simp only [List.getElem?_toArray, List.getElem?_cons_succ, List.getElem?_cons_zero]); rfl) (by kernel_rfl) (by kernel_rfl) (by kernel_rfl) (by rfl) (fun _ _ _ h => h) (Or.inl ⟨by rfl, ?_⟩) hS_ (by (simp only [List.setIfInBounds_toArray, List.set_cons_succ, List.set_cons_zero]); rfl) ?_
                · intro w_ hSw_; (try dsimp only at hSw_); go_simp
                refine wpAnyH_done (by kernel_rfl) ?_ _
                exact HREST5.out _ _ _ _ _ _ _ _ _ _ _ _ _ _ _ _ _ _ _ _ _ _ _ _ _ _ _ _ _ _ _ _ _ _ _ _ _ _ _ _ _ _ _ _ _ _ _ _ _ g' cap' V11 HX111.out RY11.out
            have HREST4 := Lib.hid REST4; clear REST4 a4
            refine (l2Tight_any nm A' k d' ts C m e (qs.map pAt) _ HT0.out HP0.out H3.out (by omega) (by omega)).mono ?_; rintro e_ w5 ⟨rfl, hb5⟩
            have HX5 := Lib.hid (HX.out.below hbw hb5)
            clear hb5 HT0 HP0 H3 x0 x1 x2
            obtain ⟨tb, htb⟩ : ∃ tb, tightB ts (qs.map pAt) = tb := ⟨_, rfl⟩
            rw [htb]
            clear htb
            cases tb
            · have hz5 := HX5.out.P.gr.size
              have hz5' : w3.heap.size + 1 ≤ w5.heap.size := by simpa using hz5
              have x0 : w5.cell? ⟨w4.heap.size, 0, none⟩ = some (.string nm) := HX5.out.X.cell 0
              have x1 : w5.cell? ⟨w4.heap.size, 1, none⟩ = some (.slice A' k d') := HX5.out.X.cell 1
              have x2 : w5.cell? ⟨w4.heap.size, 2, none⟩ = some (.slice C m e) := HX5.out.X.cell 2
              have E5 := Lib.hid (head_newAt w5 (w3.alloc (.cells #[.string ⟨#[101]⟩, .string ⟨#[112]⟩, .string ⟨#[101]⟩, .string ⟨#[116]⟩, .string ⟨#[113]⟩, .string ⟨#[104]⟩, .string ⟨#[122]⟩, .string ⟨#[115]⟩] 9)).heap.size w5.heap.size ⟨#[104]⟩ [(true, ⟨#[88]⟩), (true, ⟨#[89]⟩), (true, ⟨#[90]⟩)] #[.bool true, .string ⟨#[88]⟩, .bool true, .string ⟨#[89]⟩, .bool true, .string ⟨#[90]⟩] 3 rfl hz5 (by decide) rfl (fun t ht => by
                rcases List.mem_cons.1 ht with rfl | ht
                · decide
                · rcases List.mem_cons.1 ht with rfl | ht
                  · decide
                  · rw [List.mem_singleton.1 ht]; decide) (by omega) (by omega) rfl)
              have HX6 := Lib.hid (HX5.out.below hbw (below1 w5 (.cells #[.bool true, .string ⟨#[88]⟩, .bool true, .string ⟨#[89]⟩, .bool true, .string ⟨#[90]⟩] 64)))
              have HRW : Hid (w5.ownsRow (w3.alloc (.cells #[.string ⟨#[101]⟩, .string ⟨#[112]⟩, .string ⟨#[101]⟩, .string ⟨#[116]⟩, .string ⟨#[113]⟩, .string ⟨#[104]⟩, .string ⟨#[122]⟩, .string ⟨#[115]⟩] 9)).heap.size 69 3 (.slice C m e) m (pcells qs)) := Lib.hid (by have := HX5.out.P.row; rw [HM.out] at this; exact this)
              have HX7 := Lib.hid (HX6.out.below hbw (below1 (w5.alloc (.cells #[.bool true, .string ⟨#[88]⟩, .bool true, .string ⟨#[89]⟩, .bool true, .string ⟨#[90]⟩] 64)) (.cells #[.bool false, .string ⟨#[104]⟩, .slice (some ⟨w5.heap.size, 0, none⟩) 3 3] 69)))
              go_wp2_with (at_builtin; refine wpList_append_own _ rfl _ _ 70 rfl (w3.alloc (.cells #[.string ⟨#[101]⟩, .string ⟨#[112]⟩, .string ⟨#[101]⟩, .string ⟨#[116]⟩, .string ⟨#[113]⟩, .string ⟨#[104]⟩, .string ⟨#[122]⟩, .string ⟨#[115]⟩] 9)).heap.size 69 i0 _ 3 48 Tryz.underlying70 HI.out HZ.out HSZ.out HYY.out rfl (by decide) _ _ _ rfl ((HRW.out.alloc _).alloc _) ⟨w5.heap.size + 1, 0, none⟩ 1 1 [.bool false, .string ⟨#[104]⟩, .slice (some ⟨w5.heap.size, 0, none⟩) 3 3] rfl rfl (three_newAt _ _ (by simp) _ _ _ _) (by simp [Value.oneCell']) (by unfold maxLen; omega) (by omega) (by simp; omega) ?_; intro v' w9 hown' hgrow' _; have X9 := HX7.out.X.kept hgrow' (own_kind HX7.out.P.row HX7.out.X (by decide)); have q2 := X9.cell 2; have q2' := X9.frozen 2; obtain ⟨g', cap', rfl⟩ := ownsRow_succ hown'; have hown := Lib.hid hown'; have hgrow := Lib.hid hgrow'; clear hown' hgrow' X9)
              have hM := HX6.out.more (q := (false, ⟨#[104]⟩, some ⟨w5.heap.size, 0, none⟩, 3, 3, [(true, ⟨#[88]⟩), (true, ⟨#[89]⟩), (true, ⟨#[90]⟩)])) hbw HM.out E5.out hown.out hgrow.out
              exact HREST4.out _ _ _ _ _ _ _ _ _ _ _ _ _ _ _ _ _ _ _ _ _ _ _ _ _ _ _ _ _ _ _ _ _ _ _ _ _ _ _ _ _ _ _ _ _ _ _ _ _ _ _ (m + 1) _ _ _ (by rw [List.length_append, HM.out]; rfl) (by omega) hM (fun q hq => by
                rcases List.mem_append.1 hq with hq | hq
                · exact HQ5.out q hq
                · rw [List.mem_singleton.1 hq]; exact ⟨nm_lit 104, by show 3 ≤ 3; omega⟩)
            · go_wp2
              exact HREST4.out _ _ _ _ _ _ _ _ _ _ _ _ _ _ _ _ _ _ _ _ _ _ _ _ _ _ _ _ _ _ _ _ _ _ _ _ _ _ _ _ _ _ _ _ _ _ _ _ _ _ C m e qs w5 HM.out (by omega) HX5.out HQ5.out
          have HREST3 := Lib.hid REST3; clear REST3 a3
          refine (pick_any b A n c p4 8 _ HX4.out.P.rd (by omega) (by omega)).mono ?_; rintro e w6 ⟨kk, ⟨rfl, hkk⟩, hr6, hg6⟩
          have HX6 := Lib.hid (HX4.out.step hbw hg6 hr6)
          clear hr6 hg6 HX4
          by_cases hkk0 : kk = 0
          · subst hkk0
            have x2 : w6.cell? ⟨w4.heap.size, 2, none⟩ = some (.slice B4 m4 d4) := HX6.out.X.cell 2
            have q2' : (w6.alloc (.cells #[] 69)).frozen? ⟨w4.heap.size, 2, none⟩ = false := (HX6.out.below hbw (below1 _ _)).X.frozen 2
            have q2 : (w6.alloc (.cells #[] 69)).cell? ⟨w4.heap.size, 2, none⟩ = some (.slice B4 m4 d4) := (HX6.out.below hbw (below1 _ _)).X.cell 2
            have hz6 := HX6.out.P.gr.size
            have hlx := HX6.out.X.lt
            have h7 := HX6.out.below hbw (below1 w6 (.cells #[] 69))
            have hM := XB.turn (B' := some ⟨w6.heap.size, 0, none⟩) (m := 0) (e' := 0) (ps := []) h7.O ⟨own_empty3 w6 _ _ hz6, fun q hq => absurd hq List.not_mem_nil, h7.P.rd, h7.P.gr⟩ h7.X h7.lx h7.gr hbw
            rw [World.setCell_alloc_past _ _ _ _ hlx] at hM
            have HMT := Lib.hid hM; clear hM h7
            go_wp2
            exact HREST3.out _ _ _ _ _ _ _ _ _ _ _ _ _ _ _ _ _ _ _ _ _ _ _ _ _ _ _ _ _ _ _ _ _ _ _ _ _ _ _ _ _ _ _ _ _ _ _ _ _ _ _ 0 0 [] (p4 + 1) _ rfl (by omega) (by omega) HMT.out (fun q hq => absurd hq List.not_mem_nil)
          · have hkI : ¬ (kk : Int) = 0 := by omega
            go_wp2
            exact HREST3.out _ _ _ _ _ _ _ _ _ _ _ _ _ _ _ _ _ _ _ _ _ _ _ _ _ _ _ _ _ _ _ _ _ _ _ _ _ _ _ _ _ _ _ _ _ _ _ _ _ _ B4 m4 d4 ps (p4 + 1) w6 HM4.out hl4 (by omega) HX6.out HQ4.out
        · have h0I : ¬ (0 : Int) < (j : Int) := by omega
          go_wp2
          go_ret; exact ⟨B, L, d, rs, p2, rfl, HL.out, by omega, by omega, HD.out, HQ.out⟩
    have HREST2 := Lib.hid REST2; clear REST2 aR2
    refine (pick_any b A n c p1 3 _ HD.out.rd (by omega) (by omega)).mono ?_; rintro e w1 ⟨kk, ⟨rfl, hkk⟩, hr1, hg1⟩
    have HD1 := Lib.hid (HD.out.step hbw hg1 hr1)
    clear hr1 hg1 HD
    by_cases h0 : kk = 0
    · subst h0
      have hz1 := HD1.out.gr.size
      have E1 := Lib.hid (head_newAt w1 w.heap.size w1.heap.size ⟨#[114]⟩ [(true, ⟨#[88]⟩)] #[.bool true, .string ⟨#[88]⟩] 1 rfl hz1 (by decide) rfl (fun t ht => by rw [List.mem_singleton.1 ht]; decide) (by omega) (by omega) rfl)
      have D1 := Lib.hid (HD1.out.below hbw (below1 w1 (.cells #[.bool true, .string ⟨#[88]⟩] 64)))
      have E2 := Lib.hid (head_newAt (w1.alloc (.cells #[.bool true, .string ⟨#[88]⟩] 64)) w.heap.size (w1.heap.size + 1) ⟨#[112]⟩ [(true, ⟨#[88]⟩)] #[.bool true, .string ⟨#[88]⟩] 1 (by simp) D1.out.gr.size (by decide) rfl (fun t ht => by rw [List.mem_singleton.1 ht]; decide) (by omega) (by omega) rfl)
      have E1b := Lib.hid (E1.out.on (below1 _ (.cells #[.bool true, .string ⟨#[88]⟩] 64)))
      have D2 := Lib.hid (D1.out.below hbw (below1 _ (.cells #[.bool true, .string ⟨#[88]⟩] 64)))
      clear E1 D1
      go_wp2_with fail
      refine (of_laidAt nmB _ b _ A n c _ _ _ _ (by simp) D2.out.rd (by omega) (by rfl) (by omega) (by omega) (by rfl)).mono ?_; rintro e w4 ⟨s, ⟨rfl, hs⟩, hr4, hg4⟩
      have E1c := Lib.hid ((E1b.out.on (below1 _ _)).by_ hg4 hbw)
      have E2c := Lib.hid ((E2.out.on (below1 _ _)).by_ hg4 hbw)
      have D4 := Lib.hid ((D2.out.below hbw (below1 _ _)).step hbw hg4 hr4)
      have hz4 := D4.out.gr.size
      clear E1b E2 D2 hr4 hg4 HD1
      have E3 := Lib.hid (head_newAt w4 w.heap.size w4.heap.size s [(true, ⟨#[88]⟩)] #[.bool true, .string ⟨#[88]⟩] 1 rfl hz4 (nm_of hs).1 rfl (fun t ht => by rw [List.mem_singleton.1 ht]; decide) (by omega) (by omega) rfl)
      have E1d := Lib.hid (E1c.out.on (below1 _ (.cells #[.bool true, .string ⟨#[88]⟩] 64)))
      have E2d := Lib.hid (E2c.out.on (below1 _ (.cells #[.bool true, .string ⟨#[88]⟩] 64)))
      have D5 := Lib.hid (D4.out.below hbw (below1 _ (.cells #[.bool true, .string ⟨#[88]⟩] 64)))
      have TP := Lib.hid (parts_newAt (w4.alloc (.cells #[.bool true, .string ⟨#[88]⟩] 64)) w.heap.size (w4.heap.size + 1) [(false, ⟨#[112]⟩, some ⟨w1.heap.size + 1, 0, none⟩, 1, 1, [(true, ⟨#[88]⟩)]), (true, s, some ⟨w4.heap.size, 0, none⟩, 1, 1, [(true, ⟨#[88]⟩)])] #[.bool false, .string ⟨#[112]⟩, .slice (some ⟨w1.heap.size + 1, 0, none⟩) 1 1, .bool true, .string s, .slice (some ⟨w4.heap.size, 0, none⟩) 1 1] 2 (by simp) rfl (by omega) (fun q hq => by
        rcases List.mem_cons.1 hq with rfl | hq
        · exact E2d.out
        · rw [List.mem_singleton.1 hq]; exact E3.out) D5.out.gr.size rfl)
      have E1e := Lib.hid (E1d.out.on (below1 _ (.cells #[.bool false, .string ⟨#[112]⟩, .slice (some ⟨w1.heap.size + 1, 0, none⟩) 1 1, .bool true, .string s, .slice (some ⟨w4.heap.size, 0, none⟩) 1 1] 69)))
      have D6 := Lib.hid (D5.out.below hbw (below1 _ (.cells #[.bool false, .string ⟨#[112]⟩, .slice (some ⟨w1.heap.size + 1, 0, none⟩) 1 1, .bool true, .string s, .slice (some ⟨w4.heap.size, 0, none⟩) 1 1] 69)))
      have HRW : Hid (w4.ownsRow w.heap.size 72 3 (.slice B L d) L (rrcells rs)) := Lib.hid (by have := D4.out.row; rw [HL.out] at this; exact this)
      clear E1c E2c D4 E1d E2d D5 E3
      go_wp2_with (at_builtin; refine wpList_append_own _ rfl _ _ 25 rfl w.heap.size 72 i2 _ 3 64 Tryz.underlying25 HI2.out HZ2.out HSZ2.out HYY2.out rfl (by decide) _ _ _ rfl (((HRW.out.alloc _).alloc _).alloc _) ⟨w4.heap.size + 1 + 1, 0, none⟩ 1 1 [.string ⟨#[114]⟩, .slice (some ⟨w1.heap.size, 0, none⟩) 1 1, .slice (some ⟨w4.heap.size + 1, 0, none⟩) 2 2] rfl rfl (three_newAt _ _ (by simp) _ _ _ _) (by simp [Value.oneCell']) (by unfold maxLen; omega) (by omega) (by simp; omega) ?_; intro v' w9 hown' hgrow' _; obtain ⟨g', cap', rfl⟩ := ownsRow_succ hown'; have hown := Lib.hid hown'; have hgrow := Lib.hid hgrow'; clear hown' hgrow')
      have HM := D6.out.more (r := ((⟨#[114]⟩, some ⟨w1.heap.size, 0, none⟩, 1, 1, [(true, ⟨#[88]⟩)]), some ⟨w4.heap.size + 1, 0, none⟩, 2, 2, [(false, ⟨#[112]⟩, some ⟨w1.heap.size + 1, 0, none⟩, 1, 1, [(true, ⟨#[88]⟩)]), (true, s, some ⟨w4.heap.size, 0, none⟩, 1, 1, [(true, ⟨#[88]⟩)])])) (v' := .slice (some ⟨g', 0, none⟩) (L + 1) cap') hbw ⟨E1e.out, TP.out⟩ (by rw [HL.out]; exact hown.out) hgrow.out
      exact HREST2.out _ _ _ _ _ _ _ _ _ _ _ _ _ _ _ _ _ _ _ _ _ _ _ _ _ _ _ _ _ _ _ _ _ _ _ _ _ _ _ _ _ _ _ _ _ _ _ _ _ _ _ _ _ _ _ _ _ _ _ _ _ _ _ _ _ _ _ _ _ _ _ _ _ _ _ _ _ _ _ _ _ _ _ _ _ _ _ _ _ _ _ _ _ _ _ _ _ _ _ _ (some ⟨g', 0, none⟩) (L + 1) cap' _ (p1 + 1 + 1) w9 (by rw [List.length_append, HL.out]; rfl) (by omega) (by omega) HM (fun r hr => by
        rcases List.mem_append.1 hr with hr | hr
        · exact HQ.out r hr
        · rw [List.mem_singleton.1 hr]; exact ⟨nm_lit 114, by show 1 ≤ 8; omega, by show 2 ≤ 5; omega, fun q hq => by
            rcases List.mem_cons.1 hq with rfl | hq
            · exact ⟨nm_lit 112, by show 1 ≤ 8; omega⟩
            · rw [List.mem_singleton.1 hq]; exact ⟨nm_of hs, by show 1 ≤ 8; omega⟩⟩)
    · have h0I : ¬ (kk : Int) = 0 := by omega
      go_wp2
      exact HREST2.out _ _ _ _ _ _ _ _ _ _ _ _ _ _ _ _ _ _ _ _ _ _ _ _ _ _ _ _ _ _ _ _ _ _ _ _ _ _ _ _ _ _ _ _ _ _ _ _ _ _ _ _ _ _ _ _ _ _ _ _ _ _ _ _ _ _ _ _ _ _ _ _ _ _ _ _ _ _ _ _ _ _ _ _ _ _ _ _ _ _ _ _ _ _ _ _ _ _ _ _ B L d rs (p1 + 1) w1 HL.out (by omega) (by omega) HD1.out HQ.out
  have HREST1 := Lib.hid REST1; clear REST1 aR
  refine (pick_any b A n c p 2 _ HE.out.rd (by omega) (by omega)).mono ?_; rintro e w1 ⟨kk, ⟨rfl, hkk⟩, hr1, hg1⟩
  have HD1 := Lib.hid (HE.out.step hbw hg1 hr1)
  clear hr1 hg1 HE
  by_cases h0 : kk = 0
  · subst h0
    go_wp2_with fail
    refine (edge_draw _ _ _ _ (by decide) (by decide) (by decide)).mono ?_; rintro e w2 ⟨A2, rfl, h2, hb2⟩
    have HD2 := Lib.hid (HD1.out.below hbw hb2)
    have E2 := Lib.hid (h2.keep (w' := w2) (lo' := w.heap.size) (hi' := w2.heap.size) (fun _ _ _ => rfl) HD1.out.gr.size (Nat.le_refl _))
    clear h2 hb2
    go_wp2_with fail
    refine (edge_draw _ _ _ _ (by decide) (by decide) (by decide)).mono ?_; rintro e w3 ⟨A3, rfl, h3, hb3⟩
    have HD3 := Lib.hid (HD2.out.below hbw hb3)
    have E2b := Lib.hid (E2.out.on hb3)
    have E3 := Lib.hid (h3.keep (w' := w3) (lo' := w.heap.size) (hi' := w3.heap.size) (fun _ _ _ => rfl) HD2.out.gr.size (Nat.le_refl _))
    clear h3 hb3
    have hz3 := HD3.out.gr.size
    have TP := Lib.hid (parts_new w3 w.heap.size [(false, ⟨#[101]⟩, A3, 2, 2, [(true, ⟨#[88]⟩), (true, ⟨#[89]⟩)])] #[.bool false, .string ⟨#[101]⟩, .slice A3 2 2] 1 rfl (by omega) (fun q hq => by rw [List.mem_singleton.1 hq]; exact E3.out) hz3 rfl)
    have hbp := below1 w3 (.cells #[.bool false, .string ⟨#[101]⟩, .slice A3 2 2] 69)
    have HD4 := Lib.hid (HD3.out.below hbw hbp)
    have E4 := Lib.hid (E2b.out.on hbp)
    have HRW : Hid (w3.ownsRow w.heap.size 72 3 (.slice (some ⟨w.heap.size, 0, none⟩) 0 0) 0 []) := Lib.hid HD3.out.row
    clear hbp
    go_wp2_with (at_builtin; refine wpList_append_own _ rfl _ _ 25 rfl w.heap.size 72 i2 _ 3 64 Tryz.underlying25 HI2.out HZ2.out HSZ2.out HYY2.out rfl (by decide) _ _ _ rfl ((HRW.out.alloc _).alloc _) ⟨w3.heap.size + 1, 0, none⟩ 1 1 [.string ⟨#[116]⟩, .slice A2 2 2, .slice (some ⟨w3.heap.size, 0, none⟩) 1 1] rfl rfl (three_newAt _ _ (by simp) _ _ _ _) (by simp [Value.oneCell']) (by unfold maxLen; omega) (by omega) (by simp; omega) ?_; intro v' w9a hown' hgrow' _; obtain ⟨g'a, cap'a, rfl⟩ := ownsRow_succ hown'; have howna := Lib.hid hown'; have hgrowa := Lib.hid hgrow'; clear hown' hgrow')
    have HM := Lib.hid (HD4.out.more (r := ((⟨#[116]⟩, A2, 2, 2, [(true, ⟨#[88]⟩), (true, ⟨#[89]⟩)]), some ⟨w3.heap.size, 0, none⟩, 1, 1, [(false, ⟨#[101]⟩, A3, 2, 2, [(true, ⟨#[88]⟩), (true, ⟨#[89]⟩)])])) (v' := .slice (some ⟨g'a, 0, none⟩) 1 cap'a) hbw ⟨E4.out, TP.out.keep (fun _ _ _ => rfl) (Nat.le_refl _) (by simp)⟩ howna.out hgrowa.out)
    clear howna hgrowa HRW HD4 HD3 HD2 TP E4 E2 E2b E3
    have hz9 := HM.out.gr.size
    go_wp2_with fail
    refine (edge_draw _ _ _ _ (by decide) (by decide) (by decide)).mono ?_; rintro e y1 ⟨B1, rfl, h_, hb_⟩
    have HY1 := Lib.hid (HM.out.below hbw hb_)
    have F1 := Lib.hid (h_.keep (w' := y1) (lo' := w.heap.size) (hi' := y1.heap.size) (fun _ _ _ => rfl) HM.out.gr.size (Nat.le_refl _))
    clear h_ hb_
    go_wp2_with fail
    refine (edge_draw _ _ _ _ (by decide) (by decide) (by decide)).mono ?_; rintro e y2 ⟨B2, rfl, h_, hb_⟩
    have HY2 := Lib.hid (HY1.out.below hbw hb_)
    have F1' := Lib.hid (F1.out.on hb_); clear F1; have F1 := F1'; clear F1'
    have F2 := Lib.hid (h_.keep (w' := y2) (lo' := w.heap.size) (hi' := y2.heap.size) (fun _ _ _ => rfl) HY1.out.gr.size (Nat.le_refl _))
    clear h_ hb_
    go_wp2_with fail
    refine (edge_draw _ _ _ _ (by decide) (by decide) (by decide)).mono ?_; rintro e y3 ⟨B3, rfl, h_, hb_⟩
    have HY3 := Lib.hid (HY2.out.below hbw hb_)
    have F1' := Lib.hid (F1.out.on hb_); clear F1; have F1 := F1'; clear F1'
    have F2' := Lib.hid (F2.out.on hb_); clear F2; have F2 := F2'; clear F2'
    have F3 := Lib.hid (h_.keep (w' := y3) (lo' := w.heap.size) (hi' := y3.heap.size) (fun _ _ _ => rfl) HY2.out.gr.size (Nat.le_refl _))
    clear h_ hb_
    have hzy := HY3.out.gr.size
    have TP := Lib.hid (parts_new y3 w.heap.size [(false, ⟨#[116]⟩, B2, 2, 2, [(true, ⟨#[88]⟩), (true, ⟨#[89]⟩)]), (false, ⟨#[101]⟩, B3, 2, 2, [(true, ⟨#[89]⟩), (true, ⟨#[90]⟩)])] #[.bool false, .string ⟨#[116]⟩, .slice B2 2 2, .bool false, .string ⟨#[101]⟩, .slice B3 2 2] 2 rfl (by omega) (fun q hq => by
      rcases List.mem_cons.1 hq with rfl | hq
      · exact F2.out
      · rw [List.mem_singleton.1 hq]; exact F3.out) hzy rfl)
    have hbp := below1 y3 (.cells #[.bool false, .string ⟨#[116]⟩, .slice B2 2 2, .bool false, .string ⟨#[101]⟩, .slice B3 2 2] 69)
    have HY4 := Lib.hid (HY3.out.below hbw hbp)
    have F4 := Lib.hid (F1.out.on hbp)
    have HRW : Hid (y3.ownsRow w.heap.size 72 3 (.slice (some ⟨g'a, 0, none⟩) 1 cap'a) 1 (rrcells [((⟨#[116]⟩, A2, 2, 2, [(true, ⟨#[88]⟩), (true, ⟨#[89]⟩)]), some ⟨w3.heap.size, 0, none⟩, 1, 1, [(false, ⟨#[101]⟩, A3, 2, 2, [(true, ⟨#[88]⟩), (true, ⟨#[89]⟩)])])])) := Lib.hid HY3.out.row
    clear hbp HM
    go_wp2_with (at_builtin; refine wpList_append_own _ rfl _ _ 25 rfl w.heap.size 72 i2 _ 3 64 Tryz.underlying25 HI2.out HZ2.out HSZ2.out HYY2.out rfl (by decide) _ _ _ rfl ((HRW.out.alloc _).alloc _) ⟨y3.heap.size + 1, 0, none⟩ 1 1 [.string ⟨#[116]⟩, .slice B1 2 2, .slice (some ⟨y3.heap.size, 0, none⟩) 2 2] rfl rfl (three_newAt _ _ (by simp) _ _ _ _) (by simp [Value.oneCell']) (by unfold maxLen; omega) (by omega) (by simp; omega) ?_; intro v' w9 hown' hgrow' _; obtain ⟨g', cap', rfl⟩ := ownsRow_succ hown'; have hown := Lib.hid hown'; have hgrow := Lib.hid hgrow'; clear hown' hgrow')
    have HM2 := HY4.out.more (r := ((⟨#[116]⟩, B1, 2, 2, [(true, ⟨#[88]⟩), (true, ⟨#[90]⟩)]), some ⟨y3.heap.size, 0, none⟩, 2, 2, [(false, ⟨#[116]⟩, B2, 2, 2, [(true, ⟨#[88]⟩), (true, ⟨#[89]⟩)]), (false, ⟨#[101]⟩, B3, 2, 2, [(true, ⟨#[89]⟩), (true, ⟨#[90]⟩)])])) (v' := .slice (some ⟨g', 0, none⟩) 2 cap') hbw ⟨F4.out, TP.out.keep (fun _ _ _ => rfl) (Nat.le_refl _) (by simp)⟩ hown.out hgrow.out
    exact HREST1.out _ _ _ _ _ _ _ _ _ _ _ _ _ _ _ _ _ _ _ _ _ _ _ _ _ _ _ _ _ _ _ _ _ _ _ _ _ _ _ _ _ _ _ _ _ _ _ _ _ _ _ _ _ _ _ _ _ _ _ _ _ _ _ _ _ _ _ _ _ _ _ _ _ _ _ _ _ _ _ _ _ _ _ _ _ _ _ _ _ _ _ _ _ _ _ _ _ _ _ _ (some ⟨g', 0, none⟩) 2 cap' _ (p + 1) w9 rfl (by omega) (by omega) HM2 (fun r hr => by
      rcases List.mem_cons.1 hr with rfl | hr
      · exact ⟨nm_lit 116, by show 2 ≤ 8; omega, by show 1 ≤ 5; omega, fun q hq => by
          rw [List.mem_singleton.1 hq]; exact ⟨nm_lit 101, by show 2 ≤ 8; omega⟩⟩
      · rw [List.mem_singleton.1 hr]; exact ⟨nm_lit 116, by show 2 ≤ 8; omega, by show 2 ≤ 5; omega, fun q hq => by
          rcases List.mem_cons.1 hq with rfl | hq
          · exact ⟨nm_lit 116, by show 2 ≤ 8; omega⟩
          rw [List.mem_singleton.1 hq]; exact ⟨nm_lit 101, by show 2 ≤ 8; omega⟩⟩)
  · have h0I : ¬ (kk : Int) = 0 := by omega
    go_wp2
    exact HREST1.out _ _ _ _ _ _ _ _ _ _ _ _ _ _ _ _ _ _ _ _ _ _ _ _ _ _ _ _ _ _ _ _ _ _ _ _ _ _ _ _ _ _ _ _ _ _ _ _ _ _ _ _ _ _ _ _ _ _ _ _ _ _ _ _ _ _ _ _ _ _ _ _ _ _ _ _ _ _ _ _ _ _ _ _ _ _ _ _ _ _ _ _ _ _ _ _ _ _ _ _ _ 0 _ [] (p + 1) w1 rfl (by omega) (by omega) HD1.out (fun r hr => absurd hr List.not_mem_nil)

end Go.Proofs.YtnhbnhibphjljaaGreatDoor

namespace Go.Proofs.YtnhbnhibphjljaaGreatDoor
open Go.RowKit

theorem no_head (w : World) (lo : Nat) (c : UInt8) : HeadApart w lo w.heap.size (⟨#[c]⟩, none, 0, 0, []) :=
  ⟨by show 1 ≤ maxLen; unfold maxLen; omega, ⟨rfl, Nat.le_refl _, Nat.zero_le _, fun h0 => absurd h0 (Nat.lt_irrefl _)⟩, fun h0 => absurd h0 (Nat.lt_irrefl _)⟩
theorem no_parts (w : World) (lo : Nat) : TyParts w lo w.heap.size none 0 0 [] :=
  ⟨rfl, Nat.le_refl _, Nat.zero_le _, fun h0 => absurd h0 (Nat.lt_irrefl _), fun _ hp => absurd hp List.not_mem_nil⟩

set_option maxRecDepth 100000 in
set_option maxHeartbeats 16000000 in
theorem any_rules_draw (b : Nat) (A : Option Addr) (n c p : Nat) (w : World) (h : Rd w b A n c p) (hp : p ≤ 600000) :
    Calls Tryz.prog 100 #[.pointer (some ⟨b, 0, none⟩)] w (RulesDraw 9 500 b A n c p w) := by
  obtain ⟨i2, hi2, hz2, hsz2, hby2⟩ := info_parts Tryz.infoRuleR
  have HI2 := Lib.hid hi2; have HZ2 := Lib.hid hz2; have HSZ2 := Lib.hid hsz2; have HYY2 := Lib.hid hby2
  clear hi2 hz2 hsz2 hby2
  have H := Lib.hid h; clear h
  have hbw : b < w.heap.size := H.out.1
  go_enter Tryz.func100, Tryz.ntmps100
  go_wp2_with fail
  refine (rules_draw b A n c p _ H.out (by omega)).mono ?_; rintro e w1 ⟨B, L, d, rs, p1, rfl, hL, hL6, hp1, hD, hQ⟩
  have HL := Lib.hid hL; have HQ := Lib.hid hQ; have HD0 := Lib.hid hD
  clear hL hQ hD
  go_wp2_with fail
  refine (pick_any b A n c p1 20 _ HD0.out.rd (by omega) (by omega)).mono ?_; rintro e w2 ⟨kk, ⟨rfl, hkk⟩, hr2, hg2⟩
  have HD := Lib.hid (HD0.out.step hbw hg2 hr2)
  clear hr2 hg2 HD0 hkk
  have hz2 := HD.out.gr.size
  have HRW2 : Hid (w2.ownsRow w.heap.size 72 3 (.slice B L d) L (rrcells rs)) := Lib.hid (by have := HD.out.row; rw [HL.out] at this; exact this)
  by_cases k0 : kk = 0
  · subst k0
    go_wp2_with fail
    refine (any_atom_draw b A n c _ w2 HD.out.rd (by omega)).mono ?_; rintro e w3 ⟨nm, A', k, d', ts, p3, ⟨rfl, hnm, hk, hp3⟩, hlen, hs3, hown3, hrd3, hg3⟩
    have HH := Lib.hid ((head_drawn hnm hlen hs3 hown3).keep (w' := w3) (lo' := w.heap.size) (hi' := w3.heap.size) (fun _ _ _ => rfl) HD.out.gr.size (Nat.le_refl _))
    have D3 := Lib.hid (HD.out.step hbw hg3 hrd3)
    have HNM := Lib.hid hnm
    clear hlen hs3 hown3 hrd3 hg3 hnm
    have HS3 := Lib.hid (laid nmB w3 #[.string ⟨#[101]⟩, .string ⟨#[112]⟩, .string ⟨#[113]⟩] 9 (by rfl))
    have D3b := Lib.hid (D3.out.below hbw (below1 w3 (.cells #[.string ⟨#[101]⟩, .string ⟨#[112]⟩, .string ⟨#[113]⟩] 9)))
    have HHb := Lib.hid (HH.out.on (below1 w3 (.cells #[.string ⟨#[101]⟩, .string ⟨#[112]⟩, .string ⟨#[113]⟩] 9)))
    have hz3 := D3.out.gr.size
    go_wp2_with fail
    refine (body_draw b w3.heap.size 3 A n c p3 _ D3b.out.rd (by omega) (by omega) (by omega) (by omega) HS3.out).mono ?_; rintro e w4 ⟨v4, ps, p4, rfl, hl4, hp4, hDP, hQ4⟩
    obtain ⟨B4, d4, hv4, hTP⟩ := ty_parts hDP.row rfl hDP.hd
    subst hv4
    have HQ4 := Lib.hid hQ4
    have TP := Lib.hid (hTP.keep (w' := w4) (lo' := w.heap.size) (hi' := w4.heap.size) (fun _ _ _ => rfl) D3b.out.gr.size (Nat.le_refl _))
    have H4 := Lib.hid (HHb.out.by_ hDP.gr hbw)
    have D4 := Lib.hid (D3b.out.step hbw hDP.gr hDP.rd)
    have hz4 := D4.out.gr.size
    obtain ⟨m4, hm4⟩ : ∃ m4, ps.length = m4 := ⟨_, rfl⟩
    rw [hm4] at hl4 TP ⊢
    have HM4 := Lib.hid hm4
    have HRW : Hid (w4.ownsRow w.heap.size 72 3 (.slice B L d) L (rrcells rs)) := Lib.hid (by have := D4.out.row; rw [HL.out] at this; exact this)
    clear hDP hQ4 hTP hm4 D3 D3b HH HHb HS3
    go_wp2_with (at_builtin; refine wpList_append_own _ rfl _ _ 25 rfl w.heap.size 72 i2 _ 3 64 Tryz.underlying25 HI2.out HZ2.out HSZ2.out HYY2.out rfl (by decide) _ _ _ rfl (HRW.out.alloc _) ⟨w4.heap.size, 0, none⟩ 1 1 [.string nm, .slice A' k d', .slice B4 m4 d4] rfl rfl (three_newAt _ _ (by simp) _ _ _ _) (by simp [Value.oneCell']) (by unfold maxLen; omega) (by omega) (by simp; omega) ?_; intro v' w9 hown' hgrow' _; obtain ⟨g', cap', rfl⟩ := ownsRow_succ hown'; have hown := Lib.hid hown'; have hgrow := Lib.hid hgrow'; clear hown' hgrow')
    have HM := Lib.hid (D4.out.more (r := ((nm, A', k, d', ts), B4, m4, d4, ps)) (v' := .slice (some ⟨g', 0, none⟩) (L + 1) cap') hbw ⟨H4.out, TP.out⟩ (by rw [HL.out]; exact hown.out) hgrow.out)
    go_wp2
    go_ret; exact ⟨some ⟨g', 0, none⟩, L + 1, cap', _, p4, rfl, by rw [List.length_append, HL.out]; rfl, by omega, by omega, HM.out, fun r hr => by
      rcases List.mem_append.1 hr with hr | hr
      · exact HQ.out r hr
      · rw [List.mem_singleton.1 hr]; exact ⟨HNM.out, by show k ≤ 8; omega, by have := HM4.out; show ps.length ≤ 5; omega, fun q hq => ⟨(HQ4.out q hq).1, by have := (HQ4.out q hq).2; omega⟩⟩⟩
  · have k0I : ¬ (kk : Int) = 0 := by omega
    by_cases k1 : kk = 1
    · subst k1
      clear k0 k0I
      go_wp2_with fail
      go_loopw [3] (fun o wr => ∃ (B : Option Addr) (L d : Nat) (rs : List Rr) (p2 : Nat), o = .slice B L d ∧ rs.length = L ∧ L ≤ 9 ∧ p2 ≤ p + 400 + L ∧ DR b A n c w p2 wr (.slice B L d) rs ∧ ∀ r ∈ rs, NmRule r) (fun o _ => match o with | .slice _ L _ => 10 - L | _ => 0)
      case atStart => exact ⟨B, L, d, rs, _, rfl, HL.out, by omega, by omega, HD.out, HQ.out⟩
      case round =>
        obtain ⟨B, L, d, rs, p2, rfl, hL, hL9, hp2, hD, hQ⟩ := hrel
        have HL := Lib.hid hL; have HD := Lib.hid hD; have HQ := Lib.hid hQ
        clear hL hD hQ HRW2
        go_wp2_with fail
        refine (pick_any b A n c p2 2 _ HD.out.rd (by omega) (by omega)).mono ?_; rintro e w3 ⟨kk, ⟨rfl, hkk⟩, hr3, hg3⟩
        have HD3 := Lib.hid (HD.out.step hbw hg3 hr3)
        have hz3 := HD3.out.gr.size
        have hkk' : kk < 2 := by omega
        have HRW : Hid (w3.ownsRow w.heap.size 72 3 (.slice B L d) L (rrcells rs)) := Lib.hid (by have := HD3.out.row; rw [HL.out] at this; exact this)
        clear hr3 hg3 hkk HD
        have hw8 : IntKind.i64.wrap (8 + (kk : Int)) = 8 + (kk : Int) := by rw [IntKind.wrap_i64]; omega
        by_cases hlt : L < 8 + kk
        · have hltI : (L : Int) < 8 + (kk : Int) := by omega
          go_wp2_with (at_builtin; refine wpList_append_own _ rfl _ _ 25 rfl w.heap.size 72 i2 _ 3 64 Tryz.underlying25 HI2.out HZ2.out HSZ2.out HYY2.out rfl (by decide) _ _ _ rfl (HRW.out.alloc _) ⟨w3.heap.size, 0, none⟩ 1 1 [.string ⟨#[122]⟩, .slice none 0 0, .slice none 0 0] rfl rfl (three_newAt _ _ (by simp) _ _ _ _) (by simp [Value.oneCell']) (by unfold maxLen; omega) (by omega) (by simp; omega) ?_; intro v' w9 hown' hgrow' _; obtain ⟨g', cap', rfl⟩ := ownsRow_succ hown'; have hown := Lib.hid hown'; have hgrow := Lib.hid hgrow'; clear hown' hgrow')
          have HM := Lib.hid (HD3.out.more (r := ((⟨#[122]⟩, none, 0, 0, []), none, 0, 0, [])) (v' := .slice (some ⟨g', 0, none⟩) (L + 1) cap') hbw ⟨no_head _ _ _, no_parts _ _⟩ (by rw [HL.out]; exact hown.out) hgrow.out)
          refine ⟨⟨_, L + 1, _, _, p2 + 1, rfl, by rw [List.length_append, HL.out]; rfl, by omega, by omega, HM.out, fun r hr => by
            rcases List.mem_append.1 hr with hr | hr
            · exact HQ.out r hr
            · rw [List.mem_singleton.1 hr]; exact ⟨nm_lit 122, by show 0 ≤ 8; omega, by show 0 ≤ 5; omega, fun q hq => absurd hq List.not_mem_nil⟩⟩, ?_⟩
          show 10 - (L + 1) < 10 - L
          omega
        · have hltI : ¬ (L : Int) < 8 + (kk : Int) := by omega
          go_wp2
          go_ret; exact ⟨B, L, d, rs, p2 + 1, rfl, HL.out, hL9, by omega, HD3.out, HQ.out⟩
    · have k1I : ¬ (kk : Int) = 1 := by omega
      by_cases k2 : kk = 2
      · subst k2
        clear k0 k0I k1 k1I
        have E1 := Lib.hid ((head_newAt w2 w.heap.size w2.heap.size ⟨#[113]⟩ [(true, ⟨#[88]⟩)] #[.bool true, .string ⟨#[88]⟩] 1 rfl hz2 (by decide) rfl (fun t ht => by rw [List.mem_singleton.1 ht]; decide) (by omega) (by omega) rfl).on (below1 _ (.cells #[.string ⟨#[113]⟩, .slice (some ⟨w2.heap.size, 0, none⟩) 1 1] 67)))
        have D1 := Lib.hid ((HD.out.below hbw (below1 w2 (.cells #[.bool true, .string ⟨#[88]⟩] 64))).below hbw (below1 _ (.cells #[.string ⟨#[113]⟩, .slice (some ⟨w2.heap.size, 0, none⟩) 1 1] 67)))
        have X1 := Lib.hid (Blk.made (w2.alloc (.cells #[.bool true, .string ⟨#[88]⟩] 64)) (b := w2.heap.size + 1) 67 #[.string ⟨#[113]⟩, .slice (some ⟨w2.heap.size, 0, none⟩) 1 1] (by simp))
        have HRW : Hid (((w2.alloc (.cells #[.bool true, .string ⟨#[88]⟩] 64)).alloc (.cells #[.string ⟨#[113]⟩, .slice (some ⟨w2.heap.size, 0, none⟩) 1 1] 67)).ownsRow w.heap.size 72 3 (.slice B L d) L (rrcells rs)) := Lib.hid ((HRW2.out.alloc _).alloc _)
        go_wp2
        obtain ⟨V, hV⟩ : ∃ V, ((w2.alloc (.cells #[.bool true, .string ⟨#[88]⟩] 64)).alloc (.cells #[.string ⟨#[113]⟩, .slice (some ⟨w2.heap.size, 0, none⟩) 1 1] 67)).drew = V := ⟨_, rfl⟩
        have hbd : Below ((w2.alloc (.cells #[.bool true, .string ⟨#[88]⟩] 64)).alloc (.cells #[.string ⟨#[113]⟩, .slice (some ⟨w2.heap.size, 0, none⟩) 1 1] 67)).heap.size ((w2.alloc (.cells #[.bool true, .string ⟨#[88]⟩] 64)).alloc (.cells #[.string ⟨#[113]⟩, .slice (some ⟨w2.heap.size, 0, none⟩) 1 1] 67)) ((w2.alloc (.cells #[.bool true, .string ⟨#[88]⟩] 64)).alloc (.cells #[.string ⟨#[113]⟩, .slice (some ⟨w2.heap.size, 0, none⟩) 1 1] 67)).drew := (Below.refl _ _).drew
        have E2 := Lib.hid (E1.out.on hbd); have D2 := Lib.hid (D1.out.below hbw hbd); have X2 := Lib.hid (X1.out.below hbd); have HRV := Lib.hid (ownsRow_up HRW.out hbd)
        rw [hV] at E2 D2 X2 HRV
        clear hbd E1 D1 X1 HRW HD
        refine wp_region_held_drew (S := fun W => W.cell? ⟨w2.heap.size + 1, 0, none⟩ = some (.string ⟨#[113]⟩) ∧ W.cell? ⟨w2.heap.size + 1, 1, none⟩ = some (.slice (some ⟨w2.heap.size, 0, none⟩) 1 1)) (by kernel_rfl) (by rw [hV]; exact ⟨X2.out.cell 0, X2.out.cell 1⟩) ?_
        rw [hV]
        clear hV
        intro hS_
        refine takeV (i := 0) (v := .slice B L d) (by (simp only [List.getElem?_toArray, List.getElem?_cons_zero]); rfl) (by kernel_rfl) (by kernel_rfl) (by kernel_rfl) (by rfl) (fun _ _ _ h => h) (Or.inl ⟨by rfl, ?_⟩) hS_ (by (simp only [List.setIfInBounds_toArray, List.set_cons_succ, List.set_cons_zero]); rfl) ?_
        · intro w_ hSw_; (try dsimp only at hSw_); go_simp
        refine takeV (i := 1) (v := .agg #[.string ⟨#[113]⟩, .slice (some ⟨w2.heap.size, 0, none⟩) 1 1]) (by (simp only [List.getElem?_toArray, List.getElem?_cons_succ, List.getElem?_cons_zero]); rfl) (by kernel_rfl) (by kernel_rfl) (by kernel_rfl) (by rfl) (fun _ _ _ h => h) (Or.inl ⟨by rfl, ?_⟩) hS_ (by (simp only [List.setIfInBounds_toArray, List.set_cons_succ, List.set_cons_zero]); rfl) ?_
        · intro w_ hSw_; (try dsimp only at hSw_); go_simp
        refine takeV (i := 2) (v := .pointer (some ⟨w2.heap.size + 1, 1, none⟩)) (by (simp only [List.getElem?_toArray, List.getElem?_cons_succ, List.getElem?_cons_zero]); rfl) (by kernel_rfl) (by kernel_rfl) (by kernel_rfl) (by rfl) (fun _ _ _ h => h) (Or.inl ⟨by rfl, ?_⟩) hS_ (by (simp only [List.setIfInBounds_toArray, List.set_cons_succ, List.set_cons_zero]); rfl) ?_
        · intro w_ hSw_; (try dsimp only at hSw_); go_simp
        refine takeV (i := 3) (v := .slice (some ⟨w2.heap.size, 0, none⟩) 1 1) (by (simp only [List.getElem?_toArray, List.getElem?_cons_succ, List.getElem?_cons_zero]); rfl) (by kernel_rfl) (by kernel_rfl) (by kernel_rfl) (by rfl) (fun _ _ _ h => h) (Or.inl ⟨by rfl, ?_⟩) hS_ (by (simp only [List.setIfInBounds_toArray, List.set_cons_succ, List.set_cons_zero]); rfl) ?_
        · intro w_ hSw_; (try dsimp only at hSw_); go_simp
        refine takeV (i := 4) (v := .agg #[.string ⟨#[112]⟩, .slice (some ⟨w2.heap.size, 0, none⟩) 1 1]) (by (simp only [List.getElem?_toArray, List.getElem?_cons_succ, List.getElem?_cons_zero]); rfl) (by kernel_rfl) (by kernel_rfl) (by kernel_rfl) (by rfl) (fun _ _ _ h => h) (Or.inl ⟨by rfl, ?_⟩) hS_ (by (simp only [List.setIfInBounds_toArray, List.set_cons_succ, List.set_cons_zero]); rfl) ?_
        · intro w_ hSw_; (try dsimp only at hSw_); go_simp
        refine takeV (i := 5) (v := .agg #[.bool false, .string ⟨#[112]⟩, .slice (some ⟨w2.heap.size, 0, none⟩) 1 1]) (by (simp only [List.getElem?_toArray, List.getElem?_cons_succ, List.getElem?_cons_zero]); rfl) (by kernel_rfl) (by kernel_rfl) (by kernel_rfl) (by rfl) (fun _ _ _ h => h) (Or.inl ⟨by rfl, ?_⟩) hS_ (by (simp only [List.setIfInBounds_toArray, List.set_cons_succ, List.set_cons_zero]); rfl) ?_
        · intro w_ hSw_; (try dsimp only at hSw_); go_simp
        refine takeV (i := 6) (v := .pointer (some ⟨b, 0, none⟩)) (by (simp only [List.getElem?_toArray, List.getElem?_cons_succ, List.getElem?_cons_zero]); rfl) (by kernel_rfl) (by kernel_rfl) (by kernel_rfl) (by rfl) (fun _ _ _ h => h) (Or.inl ⟨by rfl, ?_⟩) hS_ (by (simp only [List.setIfInBounds_toArray, List.set_cons_succ, List.set_cons_zero]); rfl) ?_
        · intro w_ hSw_; (try dsimp only at hSw_); go_simp
        refine takeV (i := 9) (v := .pointer (some ⟨w2.heap.size + 1, 1, none⟩)) (by (simp only [List.getElem?_toArray, List.getElem?_cons_succ, List.getElem?_cons_zero]); rfl) (by kernel_rfl) (by kernel_rfl) (by kernel_rfl) (by rfl) (fun _ _ _ h => h) (Or.inl ⟨by rfl, ?_⟩) hS_ (by (simp only [List.setIfInBounds_toArray, List.set_cons_succ, List.set_cons_zero]); rfl) ?_
        · intro w_ hSw_; (try dsimp only at hSw_); go_simp
        refine takeV (i := 10) (v := .slice (some ⟨w2.heap.size, 0, none⟩) 1 1) (by (simp only [List.getElem?_toArray, List.getElem?_cons_succ, List.getElem?_cons_zero]); rfl) (by kernel_rfl) (by kernel_rfl) (by kernel_rfl) (by rfl) (fun _ _ _ h => h) (Or.inl ⟨by rfl, ?_⟩) hS_ (by (simp only [List.setIfInBounds_toArray, List.set_cons_succ, List.set_cons_zero]); rfl) ?_
        · intro w_ hSw_; (try dsimp only at hSw_); go_simp
        refine wpAnyH_ready (rs := [7]) (by kernel_rfl) (by simp) ?_
        refine AllReadyH.cons (o := _) (by (simp only [List.getElem?_toArray, List.getElem?_cons_succ, List.getElem?_cons_zero]); rfl) (fun K_ hK_ => ?_) AllReadyH.nil
        rw [if_pos (by rfl)]
        go_simp
        have X3 := Lib.hid (X2.out.alloc (.cells #[.string ⟨#[113]⟩, .string ⟨#[114]⟩, .string ⟨#[115]⟩] 9))
        refine hK_.out _ _ ⟨X3.out.cell 0, X3.out.cell 1⟩ (fun hS2_ => ?_)
        clear hK_ hS_; have hS_ := hS2_; clear hS2_
        (try simp only [Act.put, List.setIfInBounds_toArray, List.set_cons_zero, List.set_cons_succ])
        refine wpAnyH_ready (rs := [8]) (by kernel_rfl) (by simp) ?_
        refine AllReadyH.cons (o := _) (by (simp only [List.getElem?_toArray, List.getElem?_cons_succ, List.getElem?_cons_zero]); rfl) (fun K_ hK_ => ?_) AllReadyH.nil
        rw [if_pos (by rfl)]
        go_simp
        go_at_call 143
        refine (of_laidAt nmB V.heap.size b _ A n c _ V _ _ rfl D2.out.rd (by omega) (by rfl) (by omega) (by omega) (by rfl)).mono ?_; rintro e w4 ⟨s, ⟨rfl, hs⟩, hr4, hg4⟩
        have hg4b := grownTrans (grownBelow (below1 V (.cells #[.string ⟨#[113]⟩, .string ⟨#[114]⟩, .string ⟨#[115]⟩] 9)) (some b)) hg4
        have X4 := Lib.hid (X3.out.kept hg4 (fun e => by injection e with e; omega))
        have E4 := Lib.hid (E2.out.by_ hg4b hbw)
        have D4 := Lib.hid (D2.out.step hbw hg4b hr4)
        have hz4 := D4.out.gr.size
        have HR4 : Hid (w4.ownsRow w.heap.size 72 3 (.slice B L d) L (rrcells rs)) := Lib.hid (by have := D4.out.row; rw [HL.out] at this; exact this)
        clear hr4 hg4 hg4b X3 X2 E2 D2
        refine hK_.out _ _ ⟨X4.out.cell 0, X4.out.cell 1⟩ (fun hS2_ => ?_)
        clear hK_ hS_; have hS_ := hS2_; clear hS2_
        (try simp only [Act.put, List.setIfInBounds_toArray, List.set_cons_zero, List.set_cons_succ])
        refine takeV (i := 11) (v := .agg #[.string s, .slice (some ⟨w2.heap.size, 0, none⟩) 1 1]) (by (simp only [List.getElem?_toArray, List.getElem?_cons_succ, List.getElem?_cons_zero]); rfl) (by kernel_rfl) (by kernel_rfl) (by kernel_rfl) (by rfl) (fun _ _ _ h => h) (Or.inl ⟨by rfl, ?_⟩) hS_ (by (simp only [List.setIfInBounds_toArray, List.set_cons_succ, List.set_cons_zero]); rfl) ?_
        · intro w_ hSw_; (try dsimp only at hSw_); go_simp
        refine takeV (i := 12) (v := .agg #[.bool true, .string s, .slice (some ⟨w2.heap.size, 0, none⟩) 1 1]) (by (simp only [List.getElem?_toArray, List.getElem?_cons_succ, List.getElem?_cons_zero]); rfl) (by kernel_rfl) (by kernel_rfl) (by kernel_rfl) (by rfl) (fun _ _ _ h => h) (Or.inl ⟨by rfl, ?_⟩) hS_ (by (simp only [List.setIfInBounds_toArray, List.set_cons_succ, List.set_cons_zero]); rfl) ?_
        · intro w_ hSw_; (try dsimp only at hSw_); go_simp
        refine wpAnyH_ready (rs := [13]) (by kernel_rfl) (by simp) ?_
        refine AllReadyH.cons (o := _) (by (simp only [List.getElem?_toArray, List.getElem?_cons_succ, List.getElem?_cons_zero]); rfl) (fun K_ hK_ => ?_) AllReadyH.nil
        rw [if_pos (by rfl)]
        go_simp
        have TP := Lib.hid (parts_newAt w4 w.heap.size w4.heap.size [(false, ⟨#[112]⟩, some ⟨w2.heap.size, 0, none⟩, 1, 1, [(true, ⟨#[88]⟩)]), (true, s, some ⟨w2.heap.size, 0, none⟩, 1, 1, [(true, ⟨#[88]⟩)])] #[.bool false, .string ⟨#[112]⟩, .slice (some ⟨w2.heap.size, 0, none⟩) 1 1, .bool true, .string s, .slice (some ⟨w2.heap.size, 0, none⟩) 1 1] 2 rfl rfl (by omega) (fun q hq => by
          rcases List.mem_cons.1 hq with rfl | hq
          · exact ⟨by show 1 ≤ maxLen; unfold maxLen; omega, E4.out.2.1, E4.out.2.2⟩
          · rw [List.mem_singleton.1 hq]; exact ⟨by have := (nm_of hs).1; show s.size ≤ maxLen; unfold maxLen; omega, E4.out.2.1, E4.out.2.2⟩) hz4 rfl)
        have X5 := Lib.hid (X4.out.alloc (.cells #[.bool false, .string ⟨#[112]⟩, .slice (some ⟨w2.heap.size, 0, none⟩) 1 1, .bool true, .string s, .slice (some ⟨w2.heap.size, 0, none⟩) 1 1] 69))
        have E5 := Lib.hid (E4.out.on (below1 w4 (.cells #[.bool false, .string ⟨#[112]⟩, .slice (some ⟨w2.heap.size, 0, none⟩) 1 1, .bool true, .string s, .slice (some ⟨w2.heap.size, 0, none⟩) 1 1] 69)))
        have D5 := Lib.hid (D4.out.below hbw (below1 w4 (.cells #[.bool false, .string ⟨#[112]⟩, .slice (some ⟨w2.heap.size, 0, none⟩) 1 1, .bool true, .string s, .slice (some ⟨w2.heap.size, 0, none⟩) 1 1] 69)))
        have HR5 := Lib.hid (HR4.out.alloc (.cells #[.bool false, .string ⟨#[112]⟩, .slice (some ⟨w2.heap.size, 0, none⟩) 1 1, .bool true, .string s, .slice (some ⟨w2.heap.size, 0, none⟩) 1 1] 69))
        refine hK_.out _ _ ⟨X5.out.cell 0, X5.out.cell 1⟩ (fun hS2_ => ?_)
        clear hK_ hS_; have hS_ := hS2_; clear hS2_
        (try simp only [Act.put, List.setIfInBounds_toArray, List.set_cons_zero, List.set_cons_succ])
        refine takeV (i := 14) (v := .agg #[.string ⟨#[113]⟩, .slice (some ⟨w2.heap.size, 0, none⟩) 1 1, .slice (some ⟨w4.heap.size, 0, none⟩) 2 2]) (by (simp only [List.getElem?_toArray, List.getElem?_cons_succ, List.getElem?_cons_zero]); rfl) (by kernel_rfl) (by kernel_rfl) (by kernel_rfl) (by rfl) (fun _ _ _ h => h) (Or.inl ⟨by rfl, ?_⟩) hS_ (by (simp only [List.setIfInBounds_toArray, List.set_cons_succ, List.set_cons_zero]); rfl) ?_
        · intro w_ hSw_; (try dsimp only at hSw_); go_simp
        refine wpAnyH_ready (rs := [15]) (by kernel_rfl) (by simp) ?_
        refine AllReadyH.cons (o := _) (by (simp only [List.getElem?_toArray, List.getElem?_cons_succ, List.getElem?_cons_zero]); rfl) (fun K_ hK_ => ?_) AllReadyH.nil
        rw [if_pos (by rfl)]
        go_simp
        have X6 := Lib.hid (X5.out.alloc (.cells #[.string ⟨#[113]⟩, .slice (some ⟨w2.heap.size, 0, none⟩) 1 1, .slice (some ⟨w4.heap.size, 0, none⟩) 2 2] 72))
        have HR6 := Lib.hid (HR5.out.alloc (.cells #[.string ⟨#[113]⟩, .slice (some ⟨w2.heap.size, 0, none⟩) 1 1, .slice (some ⟨w4.heap.size, 0, none⟩) 2 2] 72))
        have TM6 := Lib.hid (Blk.made (w4.alloc (.cells #[.bool false, .string ⟨#[112]⟩, .slice (some ⟨w2.heap.size, 0, none⟩) 1 1, .bool true, .string s, .slice (some ⟨w2.heap.size, 0, none⟩) 1 1] 69)) (b := w4.heap.size + 1) 72 #[.string ⟨#[113]⟩, .slice (some ⟨w2.heap.size, 0, none⟩) 1 1, .slice (some ⟨w4.heap.size, 0, none⟩) 2 2] (by simp))
        refine hK_.out _ _ ⟨X6.out.cell 0, X6.out.cell 1⟩ (fun hS2_ => ?_)
        clear hK_ hS_; have hS_ := hS2_; clear hS2_
        (try simp only [Act.put, List.setIfInBounds_toArray, List.set_cons_zero, List.set_cons_succ])
        refine wpAnyH_ready (rs := [16]) (by kernel_rfl) (by simp) ?_
        refine AllReadyH.cons (o := _) (by (simp only [List.getElem?_toArray, List.getElem?_cons_succ, List.getElem?_cons_zero]); rfl) (fun K_ hK_ => ?_) AllReadyH.nil
        refine step_appZ 3 (by omega) (by rfl) _ _ _ (by rfl) w.heap.size 72 i2 _ 64 Tryz.underlying25 HI2.out HZ2.out HSZ2.out HYY2.out rfl (.slice B L d) L (rrcells rs) (by rfl) HR6.out (some ⟨w4.heap.size + 1, 0, none⟩) 1 1 [.string ⟨#[113]⟩, .slice (some ⟨w2.heap.size, 0, none⟩) 1 1, .slice (some ⟨w4.heap.size, 0, none⟩) 2 2] (by rfl) (srcOneP _ _ _ _ _ _ TM6.out) (by simp [Value.oneCell']) (by unfold maxLen; omega) (by omega) (by simp; omega) ?_
        intro v8 w8 OW8 G8
        obtain ⟨g', cap', rfl⟩ := ownsRow_succ OW8
        have hne : some (w2.heap.size + 1) ≠ (Value.slice B L d).ownBlock := fun e => by have := (HRW2.out.lt _ e.symm).2; omega
        have X8 := Lib.hid (X6.out.kept G8 hne)
        have HM := Lib.hid (D5.out.more (r := ((⟨#[113]⟩, some ⟨w2.heap.size, 0, none⟩, 1, 1, [(true, ⟨#[88]⟩)]), some ⟨w4.heap.size, 0, none⟩, 2, 2, [(false, ⟨#[112]⟩, some ⟨w2.heap.size, 0, none⟩, 1, 1, [(true, ⟨#[88]⟩)]), (true, s, some ⟨w2.heap.size, 0, none⟩, 1, 1, [(true, ⟨#[88]⟩)])])) (v' := .slice (some ⟨g', 0, none⟩) (L + 1) cap') hbw ⟨E5.out, TP.out⟩ (by rw [HL.out]; exact OW8) G8)
        clear OW8 G8 hne
        refine hK_.out _ _ ⟨X8.out.cell 0, X8.out.cell 1⟩ (fun hS2_ => ?_)
        clear hK_ hS_; have hS_ := hS2_; clear hS2_
        (try simp only [Act.put, List.setIfInBounds_toArray, List.set_cons_zero, List.set_cons_succ])
        refine takeV (i := 17) (v := .slice (some ⟨g', 0, none⟩) (L + 1) cap') (by (simp only [List.getElem?_toArray, List.getElem?_cons_succ, List.getElem?_cons_zero]); rfl) (by kernel_rfl) (by kernel_rfl) (by kernel_rfl) (by rfl) (fun _ _ _ h => h) (Or.inl ⟨by rfl, ?_⟩) hS_ (by (simp only [List.setIfInBounds_toArray, List.set_cons_succ, List.set_cons_zero]); rfl) ?_
        · intro w_ hSw_; (try dsimp only at hSw_); go_simp
        refine wpAnyH_done (by kernel_rfl) ?_ _
        go_wp2
        go_ret; exact ⟨some ⟨g', 0, none⟩, L + 1, cap', _, p1 + 1 + 1, rfl, by rw [List.length_append, HL.out]; rfl, by omega, by omega, HM.out, fun r hr => by
          rcases List.mem_append.1 hr with hr | hr
          · exact HQ.out r hr
          · rw [List.mem_singleton.1 hr]; exact ⟨nm_lit 113, by show 1 ≤ 8; omega, by show 2 ≤ 5; omega, fun q hq => by
              rcases List.mem_cons.1 hq with rfl | hq
              · exact ⟨nm_lit 112, by show 1 ≤ 8; omega⟩
              · rw [List.mem_singleton.1 hq]; exact ⟨nm_of hs, by show 1 ≤ 8; omega⟩⟩⟩
      · have k2I : ¬ (kk : Int) = 2 := by omega
        by_cases k3 : kk = 3
        · subst k3
          clear k0 k0I k1 k1I k2 k2I
          have E1 := Lib.hid (head_newAt w2 w.heap.size w2.heap.size ⟨#[112]⟩ [(false, ⟨#[97]⟩), (false, ⟨#[98]⟩)] #[.bool false, .string ⟨#[97]⟩, .bool false, .string ⟨#[98]⟩] 2 rfl hz2 (by decide) rfl (fun t ht => by
            rcases List.mem_cons.1 ht with rfl | ht
            · decide
            · rw [List.mem_singleton.1 ht]; decide) (by omega) (by omega) rfl)
          have D1 := Lib.hid (HD.out.below hbw (below1 w2 (.cells #[.bool false, .string ⟨#[97]⟩, .bool false, .string ⟨#[98]⟩] 64)))
          go_wp2_with (at_builtin; refine wpList_append_own _ rfl _ _ 25 rfl w.heap.size 72 i2 _ 3 64 Tryz.underlying25 HI2.out HZ2.out HSZ2.out HYY2.out rfl (by decide) _ _ _ rfl ((HRW2.out.alloc _).alloc _) ⟨w2.heap.size + 1, 0, none⟩ 1 1 [.string ⟨#[112]⟩, .slice (some ⟨w2.heap.size, 0, none⟩) 2 2, .slice none 0 0] rfl rfl (three_newAt _ _ (by simp) _ _ _ _) (by simp [Value.oneCell']) (by unfold maxLen; omega) (by omega) (by simp; omega) ?_; intro v' w9 hown' hgrow' _; obtain ⟨g', cap', rfl⟩ := ownsRow_succ hown'; have hown := Lib.hid hown'; have hgrow := Lib.hid hgrow'; clear hown' hgrow')
          have HM := Lib.hid (D1.out.more (r := ((⟨#[112]⟩, some ⟨w2.heap.size, 0, none⟩, 2, 2, [(false, ⟨#[97]⟩), (false, ⟨#[98]⟩)]), none, 0, 0, [])) (v' := .slice (some ⟨g', 0, none⟩) (L + 1) cap') hbw ⟨E1.out, no_parts _ _⟩ (by rw [HL.out]; exact hown.out) hgrow.out)
          go_wp2
          go_ret; exact ⟨some ⟨g', 0, none⟩, L + 1, cap', _, p1 + 1, rfl, by rw [List.length_append, HL.out]; rfl, by omega, by omega, HM.out, fun r hr => by
            rcases List.mem_append.1 hr with hr | hr
            · exact HQ.out r hr
            · rw [List.mem_singleton.1 hr]; exact ⟨nm_lit 112, by show 2 ≤ 8; omega, by show 0 ≤ 5; omega, fun q hq => absurd hq List.not_mem_nil⟩⟩
        · have k3I : ¬ (kk : Int) = 3 := by omega
          go_wp2
          go_ret; exact ⟨B, L, d, rs, p1 + 1, rfl, HL.out, by omega, by omega, HD.out, HQ.out⟩

end Go.Proofs.YtnhbnhibphjljaaGreatDoor

