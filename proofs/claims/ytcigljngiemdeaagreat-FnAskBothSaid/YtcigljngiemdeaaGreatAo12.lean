/-
  Texts of one claim, put together.
-/
import Derived.Test.YtcigljngiemdeaaGreatAo0
import Derived.Test.YtcigljngiemdeaaGreatAo10
import Derived.Test.YtcigljngiemdeaaGreatAo4
import Derived.Test.YtcigljngiemdeaaGreatAo1
import Derived.Test.YtcigljngiemdeaaGreatTight
import Derived.Test.YtcigljngiemdeaaGreatDraw
set_option maxRecDepth 100000
set_option maxHeartbeats 8000000
namespace Go.Proofs.YtcigljngiemdeaaGreat
open Go.RowKit
abbrev Pf := Bool × Rf
def pAt (p : Pf) : Pt := (p.1, rAt p.2)
def pfcells (ps : List Pf) : List Value := ps.flatMap fun p => [.bool p.1, .string p.2.1, .slice p.2.2.1 p.2.2.2.1 p.2.2.2.2.1]
theorem pcells_len : ∀ ps : List Pf, (pfcells ps).length = ps.length * 3
  | [] => rfl
  | p :: ps => by
    have h := pcells_len ps; unfold pfcells at h ⊢; rw [List.flatMap_cons, List.length_append, h, List.length_cons]; simp only [List.length_cons, List.length_nil]; omega
theorem pcells_snoc (ps : List Pf) (p : Pf) : pfcells (ps ++ [p]) = pfcells ps ++ [.bool p.1, .string p.2.1, .slice p.2.2.1 p.2.2.2.1 p.2.2.2.2.1] := by
  unfold pfcells; rw [List.flatMap_append, List.flatMap_singleton]
theorem pcells_at : ∀ {ps : List Pf} {i : Nat} {p : Pf}, ps[i]? = some p → (pfcells ps)[i * 3]? = some (.bool p.1) ∧ (pfcells ps)[i * 3 + 1]? = some (.string p.2.1) ∧ (pfcells ps)[i * 3 + 2]? = some (.slice p.2.2.1 p.2.2.2.1 p.2.2.2.2.1)
  | [], i, p, h => by simp at h
  | q :: ps, 0, p, h => by
    simp at h; subst h
    exact ⟨rfl, rfl, rfl⟩
  | q :: ps, i + 1, p, h => by
    obtain ⟨a, b, c⟩ := pcells_at (ps := ps) (i := i) (p := p) qbd; have e : pfcells (q :: ps) = .bool q.1 :: .string q.2.1 :: .slice q.2.2.1 q.2.2.2.1 q.2.2.2.2.1 :: pfcells ps := rfl; rw [e, show (i + 1) * 3 = i * 3 + 1 + 1 + 1 by omega]; exact ⟨by simpa using a, by simpa using b, by simpa using c⟩
section
variable {w w' : World} {lo hi lo' hi' n c m : Nat} {t : TypeId} {A : Option Addr} {rs : List Rf} {r : Rf} {ps : List Pf} {p : Pf}
end
theorem three_new (W : World) (x y z : Value) (t : TypeId) : ∀ j u, [x, y, z][j]? = some u → (W.alloc (.cells #[x, y, z] t)).cell? ((⟨W.heap.size, 0, none⟩ : Addr).add j) = some u := by
  intro j u hu
  match j, hu with
  | 0, hu => simp at hu; subst hu; simp [go_sem, Addr.add]
  | 1, hu => simp at hu; subst hu; simp [go_sem, Addr.add]
  | 2, hu => simp at hu; subst hu; simp [go_sem, Addr.add]
theorem row_away {W : World} {base size k : Nat} {e : TypeId} {v : Value} {xs : List Value} (h : W.ownsRow base e size v k xs) {g i : Nat} (hp : some g ≠ v.ownBlock) (u : Value) : (W.setCell ⟨g, i, none⟩ u).ownsRow base e size v k xs :=
  h.kept (grownSet W g i u) (.inr hp.symm)
end Go.Proofs.YtcigljngiemdeaaGreat
namespace Go.Proofs.YtcigljngiemdeaaGreat
open Go.RowKit
end Go.Proofs.YtcigljngiemdeaaGreat
namespace Go.Proofs.YtcigljngiemdeaaGreat
open Go.RowKit
end Go.Proofs.YtcigljngiemdeaaGreat
namespace Go.Proofs.YtcigljngiemdeaaGreat
open Go.RowKit
theorem srcOneP (W : World) (g : Nat) (t : TypeId) (x y z : Value) (h : Blk W g t #[x, y, z]) : SrcZ 3 W (some ⟨g, 0, none⟩) 1 [x, y, z] := by
  refine ⟨rfl, fun ad hA j u hu => ?_, fun hA => by cases hA⟩; injection hA with hA; subst hA; have a0 : ∀ j, (⟨g, 0, none⟩ : Addr).add j = ⟨g, j, none⟩ := fun j => by unfold Addr.add; split <;> simp_all
  rw [a0, h.cell]; simpa using hu
end Go.Proofs.YtcigljngiemdeaaGreat
namespace Go.Proofs.YtcigljngiemdeaaGreat
open Go.RowKit
abbrev Rr := Rf × Option Addr × Nat × Nat × List Pf
def rRl (r : Rr) : Rl := (rAt r.1, r.2.2.2.2.map pAt)
def rrcells (rs : List Rr) : List Value := rs.flatMap fun r => [.string r.1.1, .slice r.1.2.1 r.1.2.2.1 r.1.2.2.2.1, .slice r.2.1 r.2.2.1 r.2.2.2.1]
theorem rrcells_len : ∀ rs : List Rr, (rrcells rs).length = rs.length * 3
  | [] => rfl
  | p :: ps => by
    have h := rrcells_len ps; unfold rrcells at h ⊢; rw [List.flatMap_cons, List.length_append, h, List.length_cons]; simp only [List.length_cons, List.length_nil]; omega
theorem rrcells_snoc (rs : List Rr) (r : Rr) : rrcells (rs ++ [r]) = rrcells rs ++ [.string r.1.1, .slice r.1.2.1 r.1.2.2.1 r.1.2.2.2.1, .slice r.2.1 r.2.2.1 r.2.2.2.1] := by
  unfold rrcells; rw [List.flatMap_append, List.flatMap_singleton]
theorem rrcells_at : ∀ {rs : List Rr} {i : Nat} {r : Rr}, rs[i]? = some r → (rrcells rs)[i * 3]? = some (.string r.1.1) ∧ (rrcells rs)[i * 3 + 1]? = some (.slice r.1.2.1 r.1.2.2.1 r.1.2.2.2.1) ∧ (rrcells rs)[i * 3 + 2]? = some (.slice r.2.1 r.2.2.1 r.2.2.2.1)
  | [], i, p, h => by simp at h
  | q :: ps, 0, p, h => by
    simp at h; subst h
    exact ⟨rfl, rfl, rfl⟩
  | q :: ps, i + 1, p, h => by
    obtain ⟨a, b, c⟩ := rrcells_at (rs := ps) (i := i) (r := p) qbd; have e : rrcells (q :: ps) = .string q.1.1 :: .slice q.1.2.1 q.1.2.2.1 q.1.2.2.2.1 :: .slice q.2.1 q.2.2.1 q.2.2.2.1 :: rrcells ps := rfl; rw [e, show (i + 1) * 3 = i * 3 + 1 + 1 + 1 by omega]; exact ⟨by simpa using a, by simpa using b, by simpa using c⟩
def HeadApart (w : World) (lo hi : Nat) (r : Rf) : Prop := r.1.size ≤ maxLen ∧ IsTerms w lo hi r.2.1 r.2.2.1 r.2.2.2.1 r.2.2.2.2 ∧ (0 < rN r → RowAt w lo hi 59 (rA r) (rN r * 2))
section
variable {w w' : World} {lo hi lo' hi' n c m : Nat} {t : TypeId} {A : Option Addr} {rs : List Rr} {r : Rr}
theorem HeadApart.keep {r : Rf} (h : HeadApart w lo hi r) (hk : ∀ b, lo ≤ b → b < hi → w'.heap[b]? = w.heap[b]?) (h1 : lo' ≤ lo) (h2 : hi ≤ hi') : HeadApart w' lo' hi' r :=
  ⟨h.1, h.2.1.keep (cellKeep hk) h1 h2, fun h0 => (h.2.2 h0).keep hk h1 h2⟩
theorem HeadApart.far {g : Nat} {r : Rf} (h : HeadApart w lo hi r) (hk : ∀ b, b < w.heap.size → b ≠ g → w'.heap[b]? = w.heap[b]?) (hT : ∀ k f, ¬ w.rowIs g 59 k f) : HeadApart w' lo hi r :=
  termsFar hk h (fun h0 e => by
    obtain ⟨g2, k2, f2, x1, _, _, x4, _⟩ := h.2.2 h0; rw [e] at x1; injection x1 with x1; injection x1 with x1; subst x1; exact hT _ _ x4)
end
theorem Tryz.infoRuleR : (Tryz.prog.info? 114).map (fun i => (i.zero, i.size, i.bytes)) = some (some (.agg #[.string ByteArray.empty, .slice none 0 0, .slice none 0 0]), 3, 64) := by kernel_rfl
end Go.Proofs.YtcigljngiemdeaaGreat
namespace Go.Proofs.YtcigljngiemdeaaGreat
open Go.RowKit
end Go.Proofs.YtcigljngiemdeaaGreat
namespace Go.Proofs.YtcigljngiemdeaaGreat
open Go.RowKit
end Go.Proofs.YtcigljngiemdeaaGreat

namespace Go.Proofs.YtcigljngiemdeaaGreat
open Go.RowKit
def TyParts (w : World) (lo hi : Nat) (A : Option Addr) (n c : Nat) (ps : List Pf) : Prop :=
  ps.length = n ∧ n ≤ c ∧ c ≤ maxLen ∧
  (0 < n → ∃ g k f, A = some ⟨g, 0, none⟩ ∧ lo ≤ g ∧ g < hi ∧ w.rowIs g 52 k f ∧ n * 3 ≤ k ∧ ∀ j u, (pfcells ps)[j]? = some u → f j = u) ∧
  ∀ p ∈ ps, HeadApart w lo hi p.2
def TyRule (w : World) (lo hi : Nat) (r : Rr) : Prop := HeadApart w lo hi r.1 ∧ TyParts w lo hi r.2.1 r.2.2.1 r.2.2.2.1 r.2.2.2.2
section
variable {w w' : World} {lo hi lo' hi' n c : Nat} {A : Option Addr} {ps : List Pf} {r : Rr}
theorem TyParts.keep (h : TyParts w lo hi A n c ps) (hk : ∀ b, lo ≤ b → b < hi → w'.heap[b]? = w.heap[b]?) (h1 : lo' ≤ lo) (h2 : hi ≤ hi') : TyParts w' lo' hi' A n c ps := by
  obtain ⟨a, b, d, e, f⟩ := h; refine ⟨a, b, d, fun hn => ?_, fun p hp => (f p hp).keep hk h1 h2⟩; obtain ⟨g, k, f', e1, e2, e3, e4, e5⟩ := e hn; exact ⟨g, k, f', e1, by omega, by omega, e4.of_block (hk g e2 e3), e5⟩
theorem TyParts.far {g : Nat} (h : TyParts w lo hi A n c ps) (hk : ∀ b, b < w.heap.size → b ≠ g → w'.heap[b]? = w.heap[b]?) (hT : ∀ k f, ¬ w.rowIs g 59 k f) (hP : ∀ k f, ¬ w.rowIs g 52 k f) : TyParts w' lo hi A n c ps := by
  obtain ⟨a, b, d, e, f⟩ := h; refine ⟨a, b, d, fun hn => ?_, fun p hp => (f p hp).far hk hT⟩; obtain ⟨g', k, f', e1, e2, e3, e4, e5⟩ := e hn; exact ⟨g', k, f', e1, e2, e3, e4.of_block (hk g' e4.lt (fun e => hP _ _ (e ▸ e4))), e5⟩
theorem TyRule.keep (h : TyRule w lo hi r) (hk : ∀ b, lo ≤ b → b < hi → w'.heap[b]? = w.heap[b]?) (h1 : lo' ≤ lo) (h2 : hi ≤ hi') : TyRule w' lo' hi' r :=
  ⟨h.1.keep hk h1 h2, h.2.keep hk h1 h2⟩
theorem TyRule.far {g : Nat} (h : TyRule w lo hi r) (hk : ∀ b, b < w.heap.size → b ≠ g → w'.heap[b]? = w.heap[b]?) (hT : ∀ k f, ¬ w.rowIs g 59 k f) (hP : ∀ k f, ¬ w.rowIs g 52 k f) : TyRule w' lo hi r :=
  ⟨h.1.far hk hT, h.2.far hk hT hP⟩
theorem TyRule.appended {base k : Nat} {v : Value} {cs : List Value} (h : TyRule w lo hi r) (hrow : w.ownsRow base 114 3 v k cs) (hg : w.grownBy w' v.ownBlock) : TyRule w' lo hi r := by
  rcases hrow.2 with ⟨rfl, _⟩ | ⟨g, cap, cur, rfl, _, hgb, _⟩
  · refine h.far (g := w.heap.size) (fun b hb _ => hg.block b hb qdm) (fun k f hr => ?_) (fun k f hr => ?_) <;> exact absurd hr.lt (Nat.lt_irrefl _)
  · refine h.far (g := g) (fun b hb hne => hg.block b hb qdu) (fun k f hr => ?_) (fun k f hr => ?_)
    · obtain ⟨cs, y1, _⟩ := hr
      rw [hgb] at y1; injection y1 with y1; injection y1 with _ y1; exact absurd y1 qal
    · obtain ⟨cs, y1, _⟩ := hr
      rw [hgb] at y1; injection y1 with y1; injection y1 with _ y1; exact absurd y1 qal
theorem HeadApart.appendedP {base k : Nat} {v : Value} {cs : List Value} {r : Rf} (h : HeadApart w lo hi r) (hrow : w.ownsRow base 52 3 v k cs) (hg : w.grownBy w' v.ownBlock) : HeadApart w' lo hi r := by
  rcases hrow.2 with ⟨rfl, _⟩ | ⟨g, cap, cur, rfl, _, hgb, _⟩
  · refine h.far (g := w.heap.size) (fun b hb _ => hg.block b hb qdm) (fun k f hr => ?_); exact absurd hr.lt (Nat.lt_irrefl _)
  · refine h.far (g := g) (fun b hb hne => hg.block b hb qdu) (fun k f hr => ?_)
    obtain ⟨cs, y1, _⟩ := hr; rw [hgb] at y1; injection y1 with y1; injection y1 with _ y1; exact absurd y1 qal
theorem TyParts.parts (h : TyParts w lo hi A n c ps) : IsParts w lo hi A n c (ps.map pAt) := by
  obtain ⟨a, b, d, e, f⟩ := h; refine ⟨by simpa using a, b, d, fun hn => ?_⟩; obtain ⟨g, k, f', e1, e2, e3, e4, e5, e6⟩ := e hn; refine ⟨_, e1, e2, e3, fun i q hq => ?_⟩; rw [List.getElem?_map] at hq; obtain ⟨p, hp, rfl⟩ := Option.map_eq_some_iff.1 hq; have hi := (List.getElem?_eq_some_iff.1 hp).1; have a0 : ∀ j, (⟨g, 0, none⟩ : Addr).add j = ⟨g, j, none⟩ := fun j => by unfold Addr.add; split <;> simp_all
  obtain ⟨c1, c2, c3⟩ := pcells_at hp; obtain ⟨z1, z2, _⟩ := f p (List.mem_of_getElem? hp); rw [a0]; have x0 : w.cell? ⟨g, i * 3, none⟩ = some (.bool p.1) := by rw [e4.cell qaa, e6 _ _ c1]
  have x1 : w.cell? ⟨g, i * 3 + 1, none⟩ = some (.string p.2.1) := by rw [e4.cell qaa, e6 _ _ c2]
  have x2 : w.cell? ⟨g, i * 3 + 2, none⟩ = some (.slice p.2.2.1 p.2.2.2.1 p.2.2.2.2.1) := by rw [e4.cell qaa, e6 _ _ c3]
  exact ⟨x0, x1, z1, _, _, _, x2, z2⟩
theorem ty_rules {base k : Nat} {v : Value} {rs : List Rr} (h : w.ownsRow base 114 3 v k (rrcells rs)) (hn : rs.length = k) (hT : ∀ r ∈ rs, TyRule w base w.heap.size r) : ∃ B d, v = .slice B k d ∧ IsRules w base w.heap.size B k d (rs.map rRl) := by
  subst hn; rcases h.2 with ⟨rfl, h0⟩ | ⟨g, cap, cur, rfl, hbg, hgb, hle, hcap, hsz, htk⟩
  · exact ⟨none, 0, by rw [h0], by simp, by omega, by unfold maxLen; omega, fun hp => absurd hp qaa⟩
  · have hlt := (Array.getElem?_eq_some_iff.1 hgb).1
    refine ⟨_, cap, rfl, by simp, hle, hcap, fun _ => ⟨⟨g, 0, none⟩, rfl, hbg, hlt, fun i q hq => ?_⟩⟩; rw [List.getElem?_map] at hq; obtain ⟨r, hr, rfl⟩ := Option.map_eq_some_iff.1 hq; have hi := (List.getElem?_eq_some_iff.1 hr).1; have hrow : w.rowIs g 114 (cap * 3) (fun i => cur[i]?.getD undef) := ⟨cur, hgb, hsz, fun i hi => by simp [hsz ▸ hi]⟩
    have hcs : ∀ j u, (rrcells rs)[j]? = some u → cur[j]?.getD undef = u := fun j u hu => by
      have hj := (List.getElem?_eq_some_iff.1 hu).1; rw [rrcells_len] at hj; rw [← htk, List.getElem?_take, if_pos qaa] at hu; have : cur[j]? = some u := by simpa using hu
      rw [this]; rfl
    have a0 : ∀ j, (⟨g, 0, none⟩ : Addr).add j = ⟨g, j, none⟩ := fun j => by unfold Addr.add; split <;> simp_all
    obtain ⟨c1, c2, c3⟩ := rrcells_at hr; obtain ⟨⟨t1, t2, _⟩, t3⟩ := hT r (List.mem_of_getElem? hr); rw [a0]; have x0 : w.cell? ⟨g, i * 3, none⟩ = some (.string r.1.1) := by rw [hrow.cell qaa, hcs _ _ c1]
    have x1 : w.cell? ⟨g, i * 3 + 1, none⟩ = some (.slice r.1.2.1 r.1.2.2.1 r.1.2.2.2.1) := by rw [hrow.cell qaa, hcs _ _ c2]
    have x2 : w.cell? ⟨g, i * 3 + 2, none⟩ = some (.slice r.2.1 r.2.2.1 r.2.2.2.1) := by rw [hrow.cell qaa, hcs _ _ c3]
    exact ⟨x0, t1, ⟨_, _, _, x1, t2⟩, ⟨_, _, _, x2, t3.parts⟩⟩
end
def NmRule (r : Rr) : Prop := Nm r.1.1 ∧ rN r.1 ≤ 8 ∧ r.2.2.2.2.length ≤ 5 ∧ ∀ p ∈ r.2.2.2.2, Nm p.2.1 ∧ rN p.2 ≤ 8
structure DR (b : Nat) (A : Option Addr) (n c : Nat) (w0 : World) (p : Nat) (W : World) (v : Value) (rs : List Rr) : Prop where
  row : W.ownsRow w0.heap.size 114 3 v rs.length (rrcells rs)
  ty : ∀ r ∈ rs, TyRule W w0.heap.size W.heap.size r
  rd : Rd W b A n c p
  gr : w0.grownBy W (some b)
section
variable {b n c p p' : Nat} {A : Option Addr} {w0 W W' : World} {v v' : Value} {rs : List Rr} {r : Rr}
theorem grown_low {lo hi : Nat} (hg : W.grownBy W' (some b)) (hb : b < lo) (hh : hi ≤ W.heap.size) : ∀ x, lo ≤ x → x < hi → W'.heap[x]? = W.heap[x]? :=
  fun x h1 h2 => hg.block x qaa qaw
theorem DR.step (h : DR b A n c w0 p W v rs) (hb : b < w0.heap.size) (hg : W.grownBy W' (some b)) (hr : Rd W' b A n c p') : DR b A n c w0 p' W' v rs :=
  ⟨World.ownsRow.kept h.row hg (ownNe h.row hb), fun r hr => (h.ty r hr).keep (grown_low hg hb (nl _)) (nl _) hg.size, hr, grownTrans h.gr hg⟩
theorem DR.below (h : DR b A n c w0 p W v rs) (hb : b < w0.heap.size) (hw : Below W.heap.size W W') : DR b A n c w0 p W' v rs :=
  h.step hb (grownBelow hw (some b)) (h.rd.below hw)
theorem DR.more (h : DR b A n c w0 p W v rs) (hb : b < w0.heap.size) (hT : TyRule W w0.heap.size W.heap.size r) {o : Obj} {w3 : World}
    (hown : w3.ownsRow w0.heap.size 114 3 v' (rs.length + 1) (rrcells rs ++ [.string r.1.1, .slice r.1.2.1 r.1.2.2.1 r.1.2.2.2.1, .slice r.2.1 r.2.2.1 r.2.2.2.1])) (hgrow : (W.alloc o).grownBy w3 v.ownBlock) :
    DR b A n c w0 p w3 v' (rs ++ [r]) := by
  have hb1 := below1 W o; have h1 := h.below hb hb1; have far : ∀ g, v.ownBlock = some g → w0.heap.size ≤ g := fun g hg => (h1.row.lt g hg).1; have hz : W.heap.size ≤ w3.heap.size := Nat.le_trans hb1.size hgrow.size; refine ⟨?_, fun q hq => ?_, h1.rd.grown hgrow qdk, grownOther hgrow (B := w0.heap.size) (by have := h1.gr.size; omega) far h1.gr (nl _)⟩
  · rw [List.length_append, rrcells_snoc]; exact hown
  · rcases List.mem_append.1 hq with hq | hq
    · exact ((h1.ty q hq).appended h1.row hgrow).keep (fun _ _ _ => rfl) (nl _) hgrow.size
    · rw [List.mem_singleton.1 hq]
      exact ((hT.keep (w' := W.alloc o) (fun x _ hx => hb1.block x hx) (nl _) hb1.size).appended h1.row hgrow).keep (fun _ _ _ => rfl) (nl _) hgrow.size
end
theorem tmC_len : ∀ ts : List Tm, (tmCells ts).length = ts.length * 2
  | [] => rfl
  | t :: ts => by
    have h := tmC_len ts; unfold tmCells at h ⊢; rw [List.flatMap_cons, List.length_append, h, List.length_cons]; simp only [List.length_cons, List.length_nil]; omega
theorem head_new (W : World) (nm : ByteArray) (ts : List Tm) (cs : Array Value) (k : Nat) (hnm : nm.size ≤ maxLen) (hk : ts.length = k) (hs : ∀ t ∈ ts, t.2.size ≤ 16) (h0 : 0 < k) (hm : k ≤ 8) (hcs : cs.toList = tmCells ts) :
    HeadApart (W.alloc (.cells cs 59)) W.heap.size (W.heap.size + 1) (nm, some ⟨W.heap.size, 0, none⟩, k, k, ts) := by
  have hsz : cs.size = k * 2 := by rw [← Array.length_toList, hcs, tmC_len, hk]
  have hrow : (W.alloc (.cells cs 59)).rowIs W.heap.size 59 (k * 2) (fun i => cs[i]?.getD undef) := ⟨cs, heap_alloc_new W _, hsz, fun i hi => by simp [hsz ▸ hi]⟩
  have hc : ∀ j u, (tmCells ts)[j]? = some u → (W.alloc (.cells cs 59)).cell? ⟨W.heap.size, j, none⟩ = some u := fun j u hu => by
    have hj := (List.getElem?_eq_some_iff.1 hu).1; rw [tmC_len, hk] at hj; rw [hrow.cell hj]; rw [← hcs] at hu; have : cs[j]? = some u := by simpa using hu
    simp [this]
  refine ⟨hnm, ⟨hk, nl _, by show k ≤ _; unfold maxLen; omega, fun _ => ⟨⟨W.heap.size, 0, none⟩, rfl, nl _, Nat.lt_succ_self _, fun i t ht => ?_⟩⟩, fun _ => ⟨W.heap.size, k * 2, _, rfl, nl _, Nat.lt_succ_self _, hrow, nl _⟩⟩; obtain ⟨e1, e2⟩ := tmCells_at ts i t ht; have a0 : ∀ j, (⟨W.heap.size, 0, none⟩ : Addr).add j = ⟨W.heap.size, j, none⟩ := fun j => by unfold Addr.add; split <;> simp_all
  have := hs t (List.mem_of_getElem? ht); exact ⟨(by rw [a0]; exact hc _ _ e1), (by rw [a0]; exact hc _ _ e2), by unfold maxLen; omega⟩
theorem parts_new (W : World) (lo : Nat) (ps : List Pf) (cs : Array Value) (k : Nat) (hk : ps.length = k) (hm : k ≤ 8) (hp : ∀ p ∈ ps, HeadApart W lo W.heap.size p.2) (hl : lo ≤ W.heap.size) (hcs : cs.toList = pfcells ps) :
    TyParts (W.alloc (.cells cs 52)) lo (W.heap.size + 1) (some ⟨W.heap.size, 0, none⟩) k k ps := by
  have hsz : cs.size = k * 3 := by rw [← Array.length_toList, hcs, pcells_len, hk]
  have hrow : (W.alloc (.cells cs 52)).rowIs W.heap.size 52 (k * 3) (fun i => cs[i]?.getD undef) := ⟨cs, heap_alloc_new W _, hsz, fun i hi => by simp [hsz ▸ hi]⟩; refine ⟨hk, nl _, by unfold maxLen; omega, fun _ => ⟨W.heap.size, k * 3, _, rfl, hl, Nat.lt_succ_self _, hrow, nl _, fun j u hu => ?_⟩, fun p h => (hp p h).keep (fun x _ hx => (below1 W _).block x hx) (nl _) (Nat.le_succ _)⟩; rw [← hcs] at hu; have : cs[j]? = some u := by simpa using hu
  simp [this]
theorem head_drawn {w w' : World} {nm : ByteArray} {A' : Option Addr} {k d : Nat} {ts : List Tm} (hnm : Nm nm) (hlen : ts.length = k) (hs : ∀ t ∈ ts, t.2.size ≤ 16)
    (hown : w'.ownsRow w.heap.size 59 2 (.slice A' k d) k (tmCells ts)) : HeadApart w' w.heap.size w'.heap.size (nm, A', k, d, ts) := by
  obtain ⟨B, cB, eB, hT⟩ := owned_terms hown hlen hs; injection eB with e1 _ e2; subst e1; subst e2; refine ⟨by have := hnm.1; show nm.size ≤ _; unfold maxLen; omega, hT, fun h0 => ?_⟩; rcases hown.2 with ⟨_, hn⟩ | ⟨g, cap, cur, e, hg, hgb, hle, hcap, hsz, htk⟩
  · exact absurd h0 (by show ¬ 0 < k; omega)
  · injection e with e1 _ e2
    have hlt := (Array.getElem?_eq_some_iff.1 hgb).1; exact ⟨g, cap * 2, fun i => cur[i]?.getD undef, e1, hg, hlt, ⟨cur, hgb, hsz, fun i hi => by simp [hsz ▸ hi]⟩, Nat.mul_le_mul_right _ hle⟩
end Go.Proofs.YtcigljngiemdeaaGreat
namespace Go.Proofs.YtcigljngiemdeaaGreat
open Go.RowKit
def EdgePost (nm x y : ByteArray) (w : World) (e : Ending) (w' : World) : Prop :=
  ∃ A, e = .returned (.agg #[.string nm, .slice A 2 2]) ∧ HeadApart w' w.heap.size w'.heap.size (nm, A, 2, 2, [(true, x), (true, y)]) ∧ Below w.heap.size w w'
theorem edge_draw (nm x y : ByteArray) (w : World) (hn : nm.size ≤ 16) (hx : x.size ≤ 16) (hy : y.size ≤ 16) :
    Calls Tryz.prog 110 #[.string nm, .string x, .string y] w (EdgePost nm x y w) := by
  have key : ∀ o : Obj, HeadApart ((w.alloc o).alloc (.cells #[.bool true, .string x, .bool true, .string y] 59)) w.heap.size ((w.alloc o).alloc (.cells #[.bool true, .string x, .bool true, .string y] 59)).heap.size (nm, some ⟨w.heap.size + 1, 0, none⟩, 2, 2, [(true, x), (true, y)]) := fun o => by
    have h := head_new (w.alloc o) nm [(true, x), (true, y)] #[.bool true, .string x, .bool true, .string y] 2 qac rfl (fun t ht => by
      rcases List.mem_cons.1 ht with rfl | ht
      · exact hx
      · rw [List.mem_singleton.1 ht]; exact hy) qaa qaa rfl
    have e : (w.alloc o).heap.size = w.heap.size + 1 := qad; rw [e] at h; exact h.keep (fun _ _ _ => rfl) qaa qad
  have hb := below2 w (.cells #[.string nm, .slice (some ⟨w.heap.size + 1, 0, none⟩) 2 2] 49) (.cells #[.bool true, .string x, .bool true, .string y] 59); go_enter Tryz.func110, Tryz.ntmps110; go_wp2; exact bodyPost_ret (v := .agg #[.string nm, .slice (some ⟨w.heap.size + 1, 0, none⟩) 2 2]) (by simp [results, Tryz.results110, go_sem]) rfl ⟨_, rfl, key _, hb⟩
theorem own_empty3 (w : World) (t : TypeId) (B : Nat) (hB : B ≤ w.heap.size) : (w.alloc (.cells #[] t)).ownsRow B t 3 (.slice (some ⟨w.heap.size, 0, none⟩) 0 0) 0 [] :=
  ⟨rfl, .inr ⟨w.heap.size, 0, #[], rfl, hB, heap_alloc_new w _, nl _, by unfold maxLen; omega, rfl, rfl⟩⟩
theorem names_kept {w w' : World} {b g m : Nat} {Q : ByteArray → Prop} (hN : ∀ i, i < m → ∃ s, w.cell? ⟨g, i, none⟩ = some (.string s) ∧ Q s) (hg : w.grownBy w' (some b)) (hb : g ≠ b) : ∀ i, i < m → ∃ s, w'.cell? ⟨g, i, none⟩ = some (.string s) ∧ Q s :=
  fun i hi => by obtain ⟨s, hs, hq⟩ := hN i hi; exact ⟨s, hg.cell hs (by simp [hb]), hq⟩
structure DP (b : Nat) (A : Option Addr) (n c : Nat) (w0 : World) (p : Nat) (W : World) (v : Value) (ps : List Pf) : Prop where
  row : W.ownsRow w0.heap.size 52 3 v ps.length (pfcells ps)
  hd : ∀ q ∈ ps, HeadApart W w0.heap.size W.heap.size q.2
  rd : Rd W b A n c p
  gr : w0.grownBy W (some b)
section
variable {b n c p p' : Nat} {A : Option Addr} {w0 W W' : World} {v v' : Value} {ps : List Pf} {q : Pf}
theorem DP.step (h : DP b A n c w0 p W v ps) (hb : b < w0.heap.size) (hg : W.grownBy W' (some b)) (hr : Rd W' b A n c p') : DP b A n c w0 p' W' v ps :=
  ⟨World.ownsRow.kept h.row hg (ownNe h.row hb), fun r hr => (h.hd r hr).keep (grown_low hg hb (nl _)) (nl _) hg.size, hr, grownTrans h.gr hg⟩
theorem DP.below (h : DP b A n c w0 p W v ps) (hb : b < w0.heap.size) (hw : Below W.heap.size W W') : DP b A n c w0 p W' v ps :=
  h.step hb (grownBelow hw (some b)) (h.rd.below hw)
theorem DP.more (h : DP b A n c w0 p W v ps) (hb : b < w0.heap.size) (hT : HeadApart W w0.heap.size W.heap.size q.2) {o : Obj} {w3 : World}
    (hown : w3.ownsRow w0.heap.size 52 3 v' (ps.length + 1) (pfcells ps ++ [.bool q.1, .string q.2.1, .slice q.2.2.1 q.2.2.2.1 q.2.2.2.2.1])) (hgrow : (W.alloc o).grownBy w3 v.ownBlock) :
    DP b A n c w0 p w3 v' (ps ++ [q]) := by
  have hb1 := below1 W o; have h1 := h.below hb hb1; have far : ∀ g, v.ownBlock = some g → w0.heap.size ≤ g := fun g hg => (h1.row.lt g hg).1; refine ⟨?_, fun x hx => ?_, h1.rd.grown hgrow qdk, grownOther hgrow (B := w0.heap.size) (by have := h1.gr.size; omega) far h1.gr (nl _)⟩
  · rw [List.length_append, pcells_snoc]; exact hown
  · rcases List.mem_append.1 hx with hx | hx
    · exact ((h1.hd x hx).appendedP h1.row hgrow).keep (fun _ _ _ => rfl) (nl _) hgrow.size
    · rw [List.mem_singleton.1 hx]
      exact ((hT.keep (w' := W.alloc o) (fun x _ hx => hb1.block x hx) (nl _) hb1.size).appendedP h1.row hgrow).keep (fun _ _ _ => rfl) (nl _) hgrow.size
end
theorem ty_parts {w : World} {base k : Nat} {v : Value} {ps : List Pf} (h : w.ownsRow base 52 3 v k (pfcells ps)) (hn : ps.length = k) (hT : ∀ p ∈ ps, HeadApart w base w.heap.size p.2) : ∃ B d, v = .slice B k d ∧ TyParts w base w.heap.size B k d ps := by
  subst hn; rcases h.2 with ⟨rfl, h0⟩ | ⟨g, cap, cur, rfl, hbg, hgb, hle, hcap, hsz, htk⟩
  · exact ⟨none, 0, by rw [h0], rfl, by omega, by unfold maxLen; omega, fun hp => absurd hp qaa, hT⟩
  · have hlt := (Array.getElem?_eq_some_iff.1 hgb).1
    refine ⟨_, cap, rfl, rfl, hle, hcap, fun _ => ⟨g, cap * 3, fun i => cur[i]?.getD undef, rfl, hbg, hlt, ⟨cur, hgb, hsz, fun i hi => by simp [hsz ▸ hi]⟩, Nat.mul_le_mul_right _ hle, fun j u hu => ?_⟩, hT⟩; have hj := (List.getElem?_eq_some_iff.1 hu).1; rw [pcells_len] at hj; rw [← htk, List.getElem?_take, if_pos qaa] at hu; have : cur[j]? = some u := by simpa using hu
    show cur[j]?.getD undef = u; rw [this]; rfl
def NmPart (p : Pf) : Prop := Nm p.2.1 ∧ rN p.2 ≤ 3
def NmPartW (p : Pf) : Prop := NmPart p ∧ ∀ t ∈ p.2.2.2.2.2, t.2.size ≤ 16
def BodyDraw (b : Nat) (A : Option Addr) (n c p : Nat) (w : World) (e : Ending) (w' : World) : Prop :=
  ∃ (v : Value) (ps : List Pf) (p' : Nat), e = .returned v ∧ ps.length ≤ 3 ∧ p' ≤ p + 25 ∧ DP b A n c w p' w' v ps ∧ ∀ q ∈ ps, NmPart q
def BodyDrawW (b : Nat) (A : Option Addr) (n c p : Nat) (w : World) (e : Ending) (w' : World) : Prop :=
  ∃ (v : Value) (ps : List Pf) (p' : Nat), e = .returned v ∧ ps.length ≤ 3 ∧ p' ≤ p + 25 ∧ DP b A n c w p' w' v ps ∧ (∀ q ∈ ps, NmPartW q) ∧ 0 < ps.length
theorem body_draw_w (b g m : Nat) (A : Option Addr) (n c p : Nat) (w : World) (h : Rd w b A n c p) (hp : p ≤ 900000) (hm : 0 < m) (hm' : m ≤ 100) (hgb : g ≠ b) (hN : ∀ i, i < m → ∃ s, w.cell? ⟨g, i, none⟩ = some (.string s) ∧ nmB s = true) :
    Calls Tryz.prog 64 #[.pointer (some ⟨b, 0, none⟩), .slice (some ⟨g, 0, none⟩) m m] w (BodyDrawW b A n c p w) := by
  obtain ⟨i0, hi, hz, hsz, hby⟩ := info_parts Tryz.infoPart; have HN := hid hN; clear hN; have H := hid h; clear h; have hbw : b < w.heap.size := H.out.1; have HE : Hid (DP b A n c w p (w.alloc (.cells #[] 52)) (.slice (some ⟨w.heap.size, 0, none⟩) 0 0) []) := hid ⟨own_empty3 w _ _ (nl _), fun q hq => absurd hq List.not_mem_nil, H.out.below (below1 _ _), grownBelow (below1 _ _) _⟩; go_enter Tryz.func64, Tryz.ntmps64; go_wp2_with fail; refine (pick_any b A n c p 3 _ HE.out.rd qaa qaa).mono ?_; rintro e w1 ⟨k0, ⟨rfl, hk0⟩, hr1, hg1⟩
  have HD1 := hid (HE.out.step hbw hg1 hr1); have hk0' : k0 ≤ 2 := qaa; clear hr1 hg1 hk0 HE; go_wp2; go_loopw [5, 6] (fun o i wr => ∃ (j : Nat) (ps : List Pf) (p' : Nat), j ≤ 3 ∧ ps.length + j ≤ 3 ∧ 0 < ps.length + j ∧ i = .int .i64 (j : Int) ∧ p' ≤ p + 1 + 8 * ps.length ∧ DP b A n c w p' wr o ps ∧ ∀ q ∈ ps, NmPartW q) (fun _ i _ => (intOf i).toNat)
  case atStart => exact ⟨k0 + 1, [], p + 1, by omega, by simp; omega, by show 0 < 0 + (k0 + 1); omega, by go_num, by simp, HD1.out, fun q hq => absurd hq List.not_mem_nil⟩
  case round =>
    obtain ⟨j, ps, p', hj, hl, hl1, rfl, hp', hD, hQ⟩ := hrel; obtain ⟨B, d, hv, _⟩ := ty_parts hD.row rfl hD.hd; subst hv; have HD := hid hD; have HQ := hid hQ; obtain ⟨L, hL⟩ : ∃ L, ps.length = L := ⟨_, rfl⟩; rw [hL] at HD hl hl1 hp' ⊢; have HLL := hid hL; clear hD hQ hL; by_cases h0 : 0 < j
    · have h0I : (0 : Int) < (j : Int) := qaa
      go_wp2_with fail; refine (pick_any b A n c p' 6 _ HD.out.rd qaa qaa).mono ?_; rintro e w1 ⟨kk, ⟨rfl, hkk⟩, hr1, hg1⟩; have HD1 := hid (HD.out.step hbw hg1 hr1); clear hr1 hg1 hkk; by_cases hk0 : kk = 0
      · subst hk0
        by_cases hL0 : 0 < L
        · have hLI : (0 : Int) < (L : Int) := qaa
          go_wp2_with fail; refine (of_any (fun s => nmB s = true) b g m A n c _ _ HD1.out.rd qaa hm qaa hgb (names_kept HN.out HD1.out.gr hgb)).mono ?_; rintro e w2 ⟨s, ⟨rfl, hs⟩, hr2, hg2⟩; have HD2 := hid (HD1.out.step hbw hg2 hr2); clear hr2 hg2; go_wp2_with fail; refine (atom_draw b A n c _ s true w2 HD2.out.rd qaa (nm_of hs)).mono ?_; rintro e w3 ⟨nm, A', k, d', ts, p3, ⟨rfl, hnm, hk, hp3⟩, hlen, hs3, hown3, hrd3, hg3⟩; have hz2 := HD2.out.gr.size; have HH := hid ((head_drawn hnm hlen hs3 hown3).keep (w' := w3) (lo' := w.heap.size) (hi' := w3.heap.size) (fun _ _ _ => rfl) hz2 (nl _)); have HD3 := hid (HD2.out.step hbw hg3 hrd3)
          have hz3 := HD3.out.gr.size; have HRW := hid (HLL.out ▸ HD3.out.row); have HNM := hid hnm; have HS3 := hid hs3; clear hlen hs3 hown3 hrd3 hg3 hnm; go_wp2_with (at_builtin; refine wpList_append_own _ rfl _ _ 30 rfl w.heap.size 52 i0 _ 3 48 Tryz.underlying30 hi hz hsz hby rfl qal _ _ _ rfl (HRW.out.alloc _) ⟨w3.heap.size, 0, none⟩ 1 1 [.bool true, .string nm, .slice A' k d'] rfl rfl (three_new _ _ _ _ _) qai qac qaa qaf ?_; intro v' w9 hown' hgrow' _; obtain ⟨g', cap', rfl⟩ := ownsRow_succ hown'; have hown := hid hown'; have hgrow := hid hgrow'; clear hown' hgrow')
          have hM := DP.more (q := (true, nm, A', k, d', ts)) (v' := .slice (some ⟨g', 0, none⟩) (L + 1) cap') HD3.out hbw HH.out (by rw [HLL.out]; exact hown.out) hgrow.out; go_roundw
          case rel => exact ⟨j - 1, ps ++ [(true, nm, A', k, d', ts)], p3, by omega, by rw [List.length_append, HLL.out]; simp; omega, by rw [List.length_append, HLL.out]; simp; omega, by go_num, by rw [List.length_append, HLL.out]; simp; omega, hM, fun q hq => by
              rcases List.mem_append.1 hq with hq | hq
              · exact HQ.out q hq
              · rw [List.mem_singleton.1 hq]; exact ⟨⟨HNM.out, by show k ≤ 3; omega⟩, HS3.out⟩⟩
          case measure => exact qms
        · have hLI : ¬ (0 : Int) < (L : Int) := qaa
          go_wp2_with fail; refine (of_any (fun s => nmB s = true) b g m A n c _ _ HD1.out.rd qaa hm qaa hgb (names_kept HN.out HD1.out.gr hgb)).mono ?_; rintro e w2 ⟨s, ⟨rfl, hs⟩, hr2, hg2⟩; have HD2 := hid (HD1.out.step hbw hg2 hr2); clear hr2 hg2; go_wp2_with fail; refine (atom_draw b A n c _ s true w2 HD2.out.rd qaa (nm_of hs)).mono ?_; rintro e w3 ⟨nm, A', k, d', ts, p3, ⟨rfl, hnm, hk, hp3⟩, hlen, hs3, hown3, hrd3, hg3⟩; have hz2 := HD2.out.gr.size; have HH := hid ((head_drawn hnm hlen hs3 hown3).keep (w' := w3) (lo' := w.heap.size) (hi' := w3.heap.size) (fun _ _ _ => rfl) hz2 (nl _)); have HD3 := hid (HD2.out.step hbw hg3 hrd3)
          have hz3 := HD3.out.gr.size; have HRW := hid (HLL.out ▸ HD3.out.row); have HNM := hid hnm; have HS3 := hid hs3; clear hlen hs3 hown3 hrd3 hg3 hnm; go_wp2_with (at_builtin; refine wpList_append_own _ rfl _ _ 30 rfl w.heap.size 52 i0 _ 3 48 Tryz.underlying30 hi hz hsz hby rfl qal _ _ _ rfl (HRW.out.alloc _) ⟨w3.heap.size, 0, none⟩ 1 1 [.bool false, .string nm, .slice A' k d'] rfl rfl (three_new _ _ _ _ _) qai qac qaa qaf ?_; intro v' w9 hown' hgrow' _; obtain ⟨g', cap', rfl⟩ := ownsRow_succ hown'; have hown := hid hown'; have hgrow := hid hgrow'; clear hown' hgrow')
          have hM := DP.more (q := (false, nm, A', k, d', ts)) (v' := .slice (some ⟨g', 0, none⟩) (L + 1) cap') HD3.out hbw HH.out (by rw [HLL.out]; exact hown.out) hgrow.out; go_roundw
          case rel => exact ⟨j - 1, ps ++ [(false, nm, A', k, d', ts)], p3, by omega, by rw [List.length_append, HLL.out]; simp; omega, by rw [List.length_append, HLL.out]; simp; omega, by go_num, by rw [List.length_append, HLL.out]; simp; omega, hM, fun q hq => by
              rcases List.mem_append.1 hq with hq | hq
              · exact HQ.out q hq
              · rw [List.mem_singleton.1 hq]; exact ⟨⟨HNM.out, by show k ≤ 3; omega⟩, HS3.out⟩⟩
          case measure => exact qms
      · have hkI : ¬ (kk : Int) = 0 := qaa
        go_wp2_with fail; refine (of_any (fun s => nmB s = true) b g m A n c _ _ HD1.out.rd qaa hm qaa hgb (names_kept HN.out HD1.out.gr hgb)).mono ?_; rintro e w2 ⟨s, ⟨rfl, hs⟩, hr2, hg2⟩; have HD2 := hid (HD1.out.step hbw hg2 hr2); clear hr2 hg2; go_wp2_with fail; refine (atom_draw b A n c _ s true w2 HD2.out.rd qaa (nm_of hs)).mono ?_; rintro e w3 ⟨nm, A', k, d', ts, p3, ⟨rfl, hnm, hk, hp3⟩, hlen, hs3, hown3, hrd3, hg3⟩; have hz2 := HD2.out.gr.size; have HH := hid ((head_drawn hnm hlen hs3 hown3).keep (w' := w3) (lo' := w.heap.size) (hi' := w3.heap.size) (fun _ _ _ => rfl) hz2 (nl _)); have HD3 := hid (HD2.out.step hbw hg3 hrd3)
        have hz3 := HD3.out.gr.size; have HRW := hid (HLL.out ▸ HD3.out.row); have HNM := hid hnm; have HS3 := hid hs3; clear hlen hs3 hown3 hrd3 hg3 hnm; go_wp2_with (at_builtin; refine wpList_append_own _ rfl _ _ 30 rfl w.heap.size 52 i0 _ 3 48 Tryz.underlying30 hi hz hsz hby rfl qal _ _ _ rfl (HRW.out.alloc _) ⟨w3.heap.size, 0, none⟩ 1 1 [.bool false, .string nm, .slice A' k d'] rfl rfl (three_new _ _ _ _ _) qai qac qaa qaf ?_; intro v' w9 hown' hgrow' _; obtain ⟨g', cap', rfl⟩ := ownsRow_succ hown'; have hown := hid hown'; have hgrow := hid hgrow'; clear hown' hgrow')
        have hM := DP.more (q := (false, nm, A', k, d', ts)) (v' := .slice (some ⟨g', 0, none⟩) (L + 1) cap') HD3.out hbw HH.out (by rw [HLL.out]; exact hown.out) hgrow.out; go_roundw
        case rel => exact ⟨j - 1, ps ++ [(false, nm, A', k, d', ts)], p3, by omega, by rw [List.length_append, HLL.out]; simp; omega, by rw [List.length_append, HLL.out]; simp; omega, by go_num, by rw [List.length_append, HLL.out]; simp; omega, hM, fun q hq => by
            rcases List.mem_append.1 hq with hq | hq
            · exact HQ.out q hq
            · rw [List.mem_singleton.1 hq]; exact ⟨⟨HNM.out, by show k ≤ 3; omega⟩, HS3.out⟩⟩
        case measure => exact qms
    · have h0I : ¬ (0 : Int) < (j : Int) := qaa
      go_wp2; go_ret; exact ⟨_, ps, p', rfl, by rw [HLL.out]; omega, by omega, HD.out, HQ.out, by rw [HLL.out]; omega⟩
theorem body_draw (b g m : Nat) (A : Option Addr) (n c p : Nat) (w : World) (h : Rd w b A n c p) (hp : p ≤ 900000) (hm : 0 < m) (hm' : m ≤ 100) (hgb : g ≠ b) (hN : ∀ i, i < m → ∃ s, w.cell? ⟨g, i, none⟩ = some (.string s) ∧ nmB s = true) :
    Calls Tryz.prog 64 #[.pointer (some ⟨b, 0, none⟩), .slice (some ⟨g, 0, none⟩) m m] w (BodyDraw b A n c p w) :=
  (body_draw_w b g m A n c p w h hp hm hm' hgb hN).mono fun _ _ ⟨v, ps, p', h1, h2, h3, h4, h5, _⟩ => ⟨v, ps, p', h1, h2, h3, h4, fun q hq => (h5 q hq).1⟩
end Go.Proofs.YtcigljngiemdeaaGreat
namespace Go.Proofs.YtcigljngiemdeaaGreat
open Go.RowKit
theorem three_newAt (W : World) (g : Nat) (hg : W.heap.size = g) (x y z : Value) (t : TypeId) : ∀ j u, [x, y, z][j]? = some u → (W.alloc (.cells #[x, y, z] t)).cell? ((⟨g, 0, none⟩ : Addr).add j) = some u := by
  subst hg; exact three_new W x y z t
section
variable {w w' : World} {lo b n c : Nat} {A : Option Addr} {ps : List Pf} {r : Rf}
theorem HeadApart.on (h : HeadApart w lo w.heap.size r) (hb : Below w.heap.size w w') : HeadApart w' lo w'.heap.size r := h.keep (fun x _ hx => hb.block x hx) (nl _) hb.size
theorem HeadApart.by_ (h : HeadApart w lo w.heap.size r) (hg : w.grownBy w' (some b)) (hl : b < lo) : HeadApart w' lo w'.heap.size r := h.keep (grown_low hg hl (nl _)) (nl _) hg.size
end
theorem own_kind {W : World} {base k x : Nat} {v : Value} {xs : List Value} {t t' : TypeId} {cs : Array Value} (h : W.ownsRow base t 3 v k xs) (X : Blk W x t' cs) (hne : t ≠ t') : some x ≠ v.ownBlock := by
  intro e; rcases h.2 with ⟨rfl, _⟩ | ⟨g, cap, cur, rfl, _, hgb, _⟩
  · simp [Value.ownBlock] at e
  · obtain rfl : g = x := by simpa [Value.ownBlock] using e.symm
    have X' : W.heap[g]? = some (.cells cs t') := X; rw [hgb] at X'; injection X' with X'; injection X' with _ X'; exact hne X'
theorem srcRow {W : World} {base k d : Nat} {B : Option Addr} {t : TypeId} {xs : List Value} (h : W.ownsRow base t 3 (.slice B k d) k xs) (hx : xs.length = k * 3) : SrcZ 3 W B k xs := by
  refine ⟨hx, fun ad hA j u hu => ?_, fun hB => ?_⟩
  · subst hA
    rcases h.2 with ⟨e, h0⟩ | ⟨g, cap, cur, e, _⟩
    · cases e
    · injection e with e1 _ _
      injection e1 with e1; subst e1; exact h.cells (g := g) rfl j u hu
  · rcases h.2 with ⟨_, h0⟩ | ⟨g, cap, cur, e, _⟩
    · exact h0
    · injection e with e1 _ _
      subst hB; cases e1
theorem rrcells_one : ∀ rs : List Rr, ∀ u ∈ rrcells rs, u.oneCell' = true := by
  intro rs u hu; unfold rrcells at hu; obtain ⟨r, _, hr⟩ := List.mem_flatMap.1 hu; simp only [List.mem_cons, List.not_mem_nil, or_false] at hr; rcases hr with rfl | rfl | rfl <;> rfl
theorem head_newAt (W : World) (lo g : Nat) (nm : ByteArray) (ts : List Tm) (cs : Array Value) (k : Nat) (hg : W.heap.size = g) (hl : lo ≤ W.heap.size) (hnm : nm.size ≤ 16) (hk : ts.length = k) (hs : ∀ t ∈ ts, t.2.size ≤ 16) (h0 : 0 < k) (hm : k ≤ 8) (hcs : cs.toList = tmCells ts) :
    HeadApart (W.alloc (.cells cs 59)) lo (W.alloc (.cells cs 59)).heap.size (nm, some ⟨g, 0, none⟩, k, k, ts) := by
  subst hg; exact (head_new W nm ts cs k qac hk hs h0 hm hcs).keep (fun _ _ _ => rfl) hl qad
theorem parts_newAt (W : World) (lo g : Nat) (ps : List Pf) (cs : Array Value) (k : Nat) (hg : W.heap.size = g) (hk : ps.length = k) (hm : k ≤ 8) (hp : ∀ p ∈ ps, HeadApart W lo W.heap.size p.2) (hl : lo ≤ W.heap.size) (hcs : cs.toList = pfcells ps) :
    TyParts (W.alloc (.cells cs 52)) lo (W.alloc (.cells cs 52)).heap.size (some ⟨g, 0, none⟩) k k ps := by
  subst hg; exact (parts_new W lo ps cs k hk hm hp hl hcs).keep (fun _ _ _ => rfl) (nl _) qad
theorem nm_lit (c : UInt8) : Nm ⟨#[c]⟩ := ⟨by show 1 ≤ 16; omega, fun h => by simp at h⟩
def RulesDraw (q s : Nat) (b : Nat) (A : Option Addr) (n c p : Nat) (w : World) (e : Ending) (w' : World) : Prop :=
  ∃ (B : Option Addr) (k d : Nat) (rs : List Rr) (p' : Nat), e = .returned (.slice B k d) ∧ rs.length = k ∧ k ≤ q ∧ p' ≤ p + s ∧ DR b A n c w p' w' (.slice B k d) rs ∧ ∀ r ∈ rs, NmRule r
structure Old (w : World) (v : Value) (rs : List Rr) (hd : Rf) (w0 W : World) : Prop where
  R : W.ownsRow w.heap.size 114 3 v rs.length (rrcells rs)
  T : ∀ r ∈ rs, TyRule W w.heap.size w0.heap.size r
  H : HeadApart W w.heap.size w0.heap.size hd
  V : ∀ g, v.ownBlock = some g → g < w0.heap.size
  Z : w.heap.size ≤ w0.heap.size
theorem Old.keep {w : World} {v : Value} {rs : List Rr} {hd : Rf} {w0 W W' : World} (h : Old w v rs hd w0 W) (hk : ∀ y, w.heap.size ≤ y → y < w0.heap.size → W'.heap[y]? = W.heap[y]?) : Old w v rs hd w0 W' := by
  refine ⟨⟨h.R.1, ?_⟩, fun r hr => (h.T r hr).keep hk (nl _) (nl _), h.H.keep hk (nl _) (nl _), h.V, h.Z⟩; rcases h.R.2 with hn | ⟨g, cap, cur, e, hg, hgb, rest⟩
  · exact .inl hn
  · exact .inr ⟨g, cap, cur, e, hg, (hk g hg (h.V g qed)).trans hgb, rest⟩
structure XB (b : Nat) (A : Option Addr) (n c : Nat) (w : World) (x : Nat) (hd : Rf) (p : Nat) (v : Value) (rs : List Rr) (w0 : World) (B : Option Addr) (m e : Nat) (ps : List Pf) (W : World) : Prop where
  O : Old w v rs hd w0 W
  P : DP b A n c w0 p W (.slice B m e) ps
  X : Blk W x 114 #[.string hd.1, .slice hd.2.1 hd.2.2.1 hd.2.2.2.1, .slice B m e]
  lx : w0.heap.size ≤ x
  gr : w.grownBy W (some b)
section
variable {b n c : Nat} {A : Option Addr} {w : World} {x : Nat} {hd : Rf} {p p' : Nat} {v : Value} {rs : List Rr} {w0 : World} {B B' : Option Addr} {m e e' : Nat} {ps : List Pf} {q : Pf} {W W' : World}
theorem XB.step (h : XB b A n c w x hd p v rs w0 B m e ps W) (hb : b < w.heap.size) (hg : W.grownBy W' (some b)) (hr : Rd W' b A n c p') : XB b A n c w x hd p' v rs w0 B m e ps W' :=
  have hl := h.lx; have hz := h.O.Z; have hs := h.P.gr.size
  ⟨h.O.keep (grown_low hg hb hs), h.P.step qaa hg hr, h.X.kept hg qaw, h.lx, grownTrans h.gr hg⟩
theorem XB.below (h : XB b A n c w x hd p v rs w0 B m e ps W) (hb : b < w.heap.size) (hw : Below W.heap.size W W') : XB b A n c w x hd p v rs w0 B m e ps W' :=
  h.step hb (grownBelow hw (some b)) (h.P.rd.below hw)
theorem XB.turn {v0 : Value} (hO : Old w v rs hd w0 W) (hP : DP b A n c w0 p W (.slice B' m e') ps) (hX : Blk W x 114 #[.string hd.1, .slice hd.2.1 hd.2.2.1 hd.2.2.2.1, v0])
    (lx : w0.heap.size ≤ x) (gr : w.grownBy W (some b)) (hb : b < w.heap.size) : XB b A n c w x hd p v rs w0 B' m e' ps (W.setCell ⟨x, 2, none⟩ (.slice B' m e')) := by
  have hX' := hX.set 2 (.slice B' m e'); have hzz := hO.Z
  have hT : ∀ k f, ¬ W.rowIs x 59 k f := fun k f hr => by
    obtain ⟨cs, y1, _⟩ := hr; rw [show W.heap[x]? = some _ from hX] at y1; injection y1 with y1; injection y1 with _ y1; exact absurd y1 qal
  have hk : ∀ y, y < W.heap.size → y ≠ x → (W.setCell ⟨x, 2, none⟩ (.slice B' m e')).heap[y]? = W.heap[y]? := fun y _ hne => hs_ _ _ _ y hne; have hz : (W.setCell ⟨x, 2, none⟩ (.slice B' m e')).heap.size = W.heap.size := size_setCell _ _ _; have hrd := hP.rd.set (q := ⟨x, 2, none⟩) (by show b < x; omega) (.slice B' m e')
  have hgr : ∀ {w1 : World}, w1.grownBy W (some b) → w1.heap.size ≤ x → w1.grownBy (W.setCell ⟨x, 2, none⟩ (.slice B' m e')) (some b) := fun h1 hl =>
    ⟨h1.os, h1.tape, h1.output, by rw [hz]; exact h1.size, fun i hi hne => (hs_ _ _ _ i (by show i ≠ x; omega)).trans (h1.block i hi hne)⟩
  refine ⟨hO.keep (fun y _ hy => hs_ _ _ _ y (by show y ≠ x; omega)), ⟨row_away hP.row (own_kind hP.row hX qal) _, fun r hr => ?_, hrd, hgr hP.gr lx⟩, hX', lx, hgr gr qaa⟩; have h1 := (hP.hd r hr).far hk hT
  rwa [← hz] at h1
theorem XB.more (h : XB b A n c w x hd p v rs w0 B m e ps W) (hb : b < w.heap.size) (hl : ps.length = m) (hq : HeadApart W w0.heap.size W.heap.size q.2) {ob : Obj} {w3 : World}
    (hown : w3.ownsRow w0.heap.size 52 3 (.slice B' (m + 1) e') (m + 1) (pfcells ps ++ [.bool q.1, .string q.2.1, .slice q.2.2.1 q.2.2.2.1 q.2.2.2.2.1])) (hgrow : (W.alloc ob).grownBy w3 (Value.slice B m e).ownBlock) :
    XB b A n c w x hd p v rs w0 B' (m + 1) e' (ps ++ [q]) (w3.setCell ⟨x, 2, none⟩ (.slice B' (m + 1) e')) := by
  subst hl; have hzz := h.O.Z; have hP := h.P.more (v' := .slice B' (ps.length + 1) e') qaa hq hown hgrow; have h1 := h.below hb (below1 W ob); have hs := h1.P.gr.size; have far : ∀ g, (Value.slice B ps.length e).ownBlock = some g → w0.heap.size ≤ g := fun g hg => (h1.P.row.lt g hg).1
  exact XB.turn (h1.O.keep (fun y _ hy => hgrow.block y qaa (fun e' => by have := far y e'.symm; omega))) hP (h1.X.kept hgrow (own_kind h1.P.row h1.X qal)) h.lx
    (grownOther hgrow (B := w0.heap.size) qaa far h1.gr hzz) hb
theorem XB.rule (h : XB b A n c w x hd p v rs w0 B m e ps W) (hl : ps.length = m) : TyRule W w.heap.size W.heap.size (hd, B, m, e, ps) := by
  have hs := h.P.gr.size; obtain ⟨B1, d1, e1, hT⟩ := ty_parts (k := m) (by have := h.P.row; rw [hl] at this; exact this) hl h.P.hd; injection e1 with e1 _ e2; subst e1; subst e2; exact ⟨h.O.H.keep (fun _ _ _ => rfl) (nl _) hs, hT.keep (fun _ _ _ => rfl) h.O.Z (nl _)⟩
theorem XB.draw (h : XB b A n c w x hd p v rs w0 B m e ps W) : DR b A n c w p W v rs :=
  ⟨h.O.R, fun r hr => (h.O.T r hr).keep (fun _ _ _ => rfl) (nl _) h.P.gr.size, h.P.rd, h.gr⟩
end
end Go.Proofs.YtcigljngiemdeaaGreat
