/-
  Texts of one claim, put together.
-/
import Derived.Test.YtogonjkklioaaaaGreatDoorLg41
import Derived.Test.YtogonjkklioaaaaGreatDoorLg15
set_option maxRecDepth 100000
set_option maxHeartbeats 8000000
namespace Go.Proofs.YtogonjkklioaaaaGreatDoor
open Go.RowKit
theorem grownSet (w : World) (g i : Nat) (v : Value) : w.grownBy (w.setCell ⟨g, i, none⟩ v) (some g) :=
  ⟨rfl, rfl, rfl, by simp [World.setCell], fun k _ hk => hs_ _ _ _ k (fun e => hk (by rw [e]))⟩
section
variable {lo hi : Nat} {w w' w'' : World}
end
abbrev Pf := Bool × Rf
def pAt (p : Pf) : Pt := (p.1, rAt p.2)
def zca (ps : List Pf) : List Value := ps.flatMap fun p => [.bool p.1, .string p.2.1, .slice p.2.2.1 p.2.2.2.1 p.2.2.2.2.1]
theorem zhx : ∀ ps : List Pf, (zca ps).length = ps.length * 3
  | [] => rfl
  | p :: ps => by
    have h := zhx ps; unfold zca at h ⊢; rw [List.flatMap_cons, List.length_append, h, List.length_cons]; simp only [List.length_cons, List.length_nil]; omega
theorem zoe (ps : List Pf) (p : Pf) : zca (ps ++ [p]) = zca ps ++ [.bool p.1, .string p.2.1, .slice p.2.2.1 p.2.2.2.1 p.2.2.2.2.1] := by
  unfold zca; rw [List.flatMap_append, List.flatMap_singleton]
theorem zof : ∀ {ps : List Pf} {i : Nat} {p : Pf}, ps[i]? = some p → (zca ps)[i * 3]? = some (.bool p.1) ∧ (zca ps)[i * 3 + 1]? = some (.string p.2.1) ∧ (zca ps)[i * 3 + 2]? = some (.slice p.2.2.1 p.2.2.2.1 p.2.2.2.2.1)
  | [], i, p, h => by simp at h
  | q :: ps, 0, p, h => by
    simp at h; subst h
    exact ⟨rfl, rfl, rfl⟩
  | q :: ps, i + 1, p, h => by
    obtain ⟨a, b, c⟩ := zof (ps := ps) (i := i) (p := p) qbk; have e : zca (q :: ps) = .bool q.1 :: .string q.2.1 :: .slice q.2.2.1 q.2.2.2.1 q.2.2.2.2.1 :: zca ps := rfl; rw [e, show (i + 1) * 3 = i * 3 + 1 + 1 + 1 by omega]; exact ⟨by simpa using a, by simpa using b, by simpa using c⟩
def OwnParts (w : World) (lo hi : Nat) (A : Option Addr) (n c : Nat) (ps : List Pf) : Prop :=
  ps.length = n ∧ n ≤ c ∧ c ≤ maxLen ∧
  (0 < n → ∃ g k f, A = some ⟨g, 0, none⟩ ∧ lo ≤ g ∧ g < hi ∧ w.rowIs g 171 k f ∧ n * 3 ≤ k ∧ ∀ j u, (zca ps)[j]? = some u → f j = u) ∧
  OwnIn w lo hi (ps.map Prod.snd)
section
variable {w w' : World} {lo hi lo' hi' n c m : Nat} {t : TypeId} {A : Option Addr} {rs : List Rf} {r : Rf} {ps : List Pf} {p : Pf}
theorem OwnParts.keep (h : OwnParts w lo hi A n c ps) (hk : ∀ b, lo ≤ b → b < hi → w'.heap[b]? = w.heap[b]?) (h1 : lo' ≤ lo) (h2 : hi ≤ hi') : OwnParts w' lo' hi' A n c ps := by
  obtain ⟨a, b, d, e, f⟩ := h; refine ⟨a, b, d, fun hn => ?_, f.keep hk h1 h2⟩; obtain ⟨g, k, f, e1, e2, e3, e4, e5⟩ := e hn; exact ⟨g, k, f, e1, by omega, by omega, e4.of_block (hk g e2 e3), e5⟩
theorem OwnParts.parts (h : OwnParts w lo hi A n c ps) : zeg w lo hi A n c (ps.map pAt) := by
  obtain ⟨a, b, d, e, f⟩ := h; refine ⟨by simpa using a, b, d, fun hn => ?_⟩; obtain ⟨g, k, f', e1, e2, e3, e4, e5, e6⟩ := e hn; refine ⟨_, e1, e2, e3, fun i q hq => ?_⟩; rw [List.getElem?_map] at hq; obtain ⟨p, hp, rfl⟩ := Option.map_eq_some_iff.1 hq; have hi := (List.getElem?_eq_some_iff.1 hp).1; have a0 : ∀ j, (⟨g, 0, none⟩ : Addr).add j = ⟨g, j, none⟩ := fun j => by unfold Addr.add; split <;> simp_all
  obtain ⟨c1, c2, c3⟩ := zof hp; obtain ⟨d1, d2, _⟩ := f.1 p.2 (List.mem_map_of_mem (List.mem_of_getElem? hp)); rw [a0]; have x0 : w.cell? ⟨g, i * 3, none⟩ = some (.bool p.1) := by rw [e4.cell qaa, e6 _ _ c1]
  have x1 : w.cell? ⟨g, i * 3 + 1, none⟩ = some (.string p.2.1) := by rw [e4.cell qaa, e6 _ _ c2]
  have x2 : w.cell? ⟨g, i * 3 + 2, none⟩ = some (.slice p.2.2.1 p.2.2.2.1 p.2.2.2.2.1) := by rw [e4.cell qaa, e6 _ _ c3]
  exact ⟨x0, x1, d1, _, _, _, x2, d2⟩
theorem OwnParts.of_row {base : Nat} {v : Value} (h : w.ownsRow base 171 3 v n (zca ps)) (hn : n = ps.length) (hb : lo ≤ base) (hr : OwnIn w lo hi (ps.map Prod.snd)) (hh : hi ≤ w.heap.size) :
    ∃ A c, v = .slice A n c ∧ OwnParts w lo w.heap.size A n c ps := by
  subst hn; rcases h.2 with ⟨rfl, h0⟩ | ⟨g, cap, cur, rfl, hbg, hgb, hle, hcap, hsz, htk⟩
  · exact ⟨none, 0, by rw [h0], rfl, by omega, by unfold maxLen; omega, fun hp => absurd hp qaa, hr.keep (fun _ _ _ => rfl) (nl _) hh⟩
  · have hlt := (Array.getElem?_eq_some_iff.1 hgb).1
    refine ⟨_, cap, rfl, rfl, hle, hcap, fun _ => ⟨g, cap * 3, fun i => cur[i]?.getD undef, rfl, by omega, hlt, ⟨cur, hgb, hsz, fun i hi => by simp [hsz ▸ hi]⟩, Nat.mul_le_mul_right _ hle, fun j u hu => ?_⟩, hr.keep (fun _ _ _ => rfl) (nl _) hh⟩; have hj := (List.getElem?_eq_some_iff.1 hu).1; rw [zhx] at hj; rw [← htk, List.getElem?_take, if_pos qaa] at hu; have : cur[j]? = some u := qep; simp [this]
theorem OwnIn.appendedP {base k : Nat} {v : Value} {cs : List Value} (h : OwnIn w lo hi rs) (hrow : w.ownsRow base 171 3 v k cs) (hg : w.grownBy w' v.ownBlock) (hh : hi ≤ hi') : OwnIn w' lo hi' rs := by
  have hw : OwnIn w' lo hi rs := by
    rcases hrow.2 with ⟨rfl, _⟩ | ⟨g, cap, cur, rfl, _, hgb, _⟩
    · refine ⟨fun q hq => zhu (g := w.heap.size) (fun b hb _ => hg.block b hb qcs) (h.1 q hq) (fun h0 e => ?_), h.2⟩
      obtain ⟨g2, _, _, x1, _, _, x4, _⟩ := (h.1 q hq).2.2 h0; rw [e] at x1; injection x1 with x1; injection x1 with x1; have := x4.lt; omega
    · refine ⟨fun q hq => zhu (g := g) (fun b hb hne => hg.block b hb qdn) (h.1 q hq) (fun h0 e => ?_), h.2⟩
      obtain ⟨g2, _, _, x1, _, _, x4, _⟩ := (h.1 q hq).2.2 h0; rw [e] at x1; injection x1 with x1; injection x1 with x1; subst x1; obtain ⟨c2, y1, _⟩ := x4; rw [hgb] at y1; injection y1 with y1; injection y1 with _ y1; exact absurd y1 qan
  exact hw.keep (fun _ _ _ => rfl) (nl _) hh
end
theorem zjh (W : World) (x y z : Value) (t : TypeId) : ∀ j u, [x, y, z][j]? = some u → (W.alloc (.cells #[x, y, z] t)).cell? ((⟨W.heap.size, 0, none⟩ : Addr).add j) = some u := by
  intro j u hu
  match j, hu with
  | 0, hu => simp at hu; subst hu; simp [go_sem, Addr.add]
  | 1, hu => simp at hu; subst hu; simp [go_sem, Addr.add]
  | 2, hu => simp at hu; subst hu; simp [go_sem, Addr.add]
theorem zds {W : World} {base size k : Nat} {e : TypeId} {v : Value} {xs : List Value} (h : W.ownsRow base e size v k xs) {g i : Nat} (hp : some g ≠ v.ownBlock) (u : Value) : (W.setCell ⟨g, i, none⟩ u).ownsRow base e size v k xs :=
  h.kept (grownSet W g i u) (.inr hp.symm)
end Go.Proofs.YtogonjkklioaaaaGreatDoor
namespace Go.Proofs.YtogonjkklioaaaaGreatDoor
open Go.RowKit
end Go.Proofs.YtogonjkklioaaaaGreatDoor
namespace Go.Proofs.YtogonjkklioaaaaGreatDoor
open Go.RowKit
end Go.Proofs.YtogonjkklioaaaaGreatDoor
namespace Go.Proofs.YtogonjkklioaaaaGreatDoor
open Go.RowKit
theorem srcOneP (W : World) (g : Nat) (t : TypeId) (x y z : Value) (h : Blk W g t #[x, y, z]) : SrcZ 3 W (some ⟨g, 0, none⟩) 1 [x, y, z] := by
  refine ⟨rfl, fun ad hA j u hu => ?_, fun hA => by cases hA⟩; injection hA with hA; subst hA; have a0 : ∀ j, (⟨g, 0, none⟩ : Addr).add j = ⟨g, j, none⟩ := fun j => by unfold Addr.add; split <;> simp_all
  rw [a0, h.cell]; simpa using hu
theorem copyP_more {w wr w1 w2 w3 : World} {k n' d base : Nat} {v v' : Value} {ps : List Pf} {xs : List Pt} {q : Pt} {A' : Option Addr} (hl : ps.length = k) (hm : ps.map pAt = xs.take k) (hq : xs[k]? = some q)
    (ho : OwnIn wr base wr.heap.size (ps.map Prod.snd)) (hbr : base ≤ wr.heap.size) (hbw : w.heap.size ≤ base) (hb1 : Below wr.heap.size wr w1) (hB1 : Below w.heap.size w w1) (hs : q.2.1.size ≤ maxLen)
    (hT : IsTerms w1 wr.heap.size w1.heap.size A' n' d q.2.2) (hR : 0 < n' → RowAt w1 wr.heap.size w1.heap.size 110 A' (n' * 2))
    (h12 : Below w1.heap.size w1 w2) (hrow : w2.ownsRow base 171 3 v k (zca ps)) (hown : w3.ownsRow base 171 3 v' (k + 1) (zca ps ++ [.bool q.1, .string q.2.1, .slice A' n' d])) (hgrow : w2.grownBy w3 v.ownBlock) :
    ∃ ps' : List Pf, ps'.length = k + 1 ∧ ps'.map pAt = xs.take (k + 1) ∧ w3.ownsRow base 171 3 v' (k + 1) (zca ps') ∧ OwnIn w3 base w3.heap.size (ps'.map Prod.snd) ∧ Below w.heap.size w w3 := by
  have hsz : w1.heap.size ≤ w2.heap.size := h12.size; refine ⟨ps ++ [(q.1, q.2.1, A', n', d, q.2.2)], by rw [List.length_append, hl]; rfl, ?_, ?_, ?_, ?_⟩
  · rw [List.map_append, hm, List.take_add_one, hq]; rfl
  · rw [zoe]; exact hown
  · have h1 := ho.snoc (w' := w1) (hi' := w1.heap.size) (r := (q.2.1, A', n', d, q.2.2)) (fun b _ h2 => hb1.block b h2) hb1.size hs hbr hT hR
    have h2 := h1.keep (w' := w2) (fun b _ h => h12.block b h) (nl _) (nl _); have h3 := h2.appendedP hrow hgrow (Nat.le_trans hsz hgrow.size); rw [List.map_append]; exact h3
  · exact (zaa hB1 h12).grown hgrow (Nat.le_trans hB1.size hsz) (fun j ej => by
      rcases hrow.2 with ⟨rfl, _⟩ | ⟨g', cap', cur, rfl, hbg, _, _⟩
      · simp [Value.ownBlock] at ej
      · obtain rfl : g' = j := by simpa [Value.ownBlock] using ej
        omega)
theorem zok {b : Nat} {v : Value} (hb : ∀ g, v.ownBlock = some g → b ≠ g) : some b ≠ v.ownBlock := by
  intro h'; exact hb b h'.symm rfl
end Go.Proofs.YtogonjkklioaaaaGreatDoor
namespace Go.Proofs.YtogonjkklioaaaaGreatDoor
open Go.RowKit
abbrev Rr := Rf × Option Addr × Nat × Nat × List Pf
def rRl (r : Rr) : Rl := (rAt r.1, r.2.2.2.2.map pAt)
def zar (rs : List Rr) : List Value := rs.flatMap fun r => [.string r.1.1, .slice r.1.2.1 r.1.2.2.1 r.1.2.2.2.1, .slice r.2.1 r.2.2.1 r.2.2.2.1]
theorem zdk : ∀ rs : List Rr, (zar rs).length = rs.length * 3
  | [] => rfl
  | p :: ps => by
    have h := zdk ps; unfold zar at h ⊢; rw [List.flatMap_cons, List.length_append, h, List.length_cons]; simp only [List.length_cons, List.length_nil]; omega
theorem zgx (rs : List Rr) (r : Rr) : zar (rs ++ [r]) = zar rs ++ [.string r.1.1, .slice r.1.2.1 r.1.2.2.1 r.1.2.2.2.1, .slice r.2.1 r.2.2.1 r.2.2.2.1] := by
  unfold zar; rw [List.flatMap_append, List.flatMap_singleton]
theorem zkp : ∀ {rs : List Rr} {i : Nat} {r : Rr}, rs[i]? = some r → (zar rs)[i * 3]? = some (.string r.1.1) ∧ (zar rs)[i * 3 + 1]? = some (.slice r.1.2.1 r.1.2.2.1 r.1.2.2.2.1) ∧ (zar rs)[i * 3 + 2]? = some (.slice r.2.1 r.2.2.1 r.2.2.2.1)
  | [], i, p, h => by simp at h
  | q :: ps, 0, p, h => by
    simp at h; subst h
    exact ⟨rfl, rfl, rfl⟩
  | q :: ps, i + 1, p, h => by
    obtain ⟨a, b, c⟩ := zkp (rs := ps) (i := i) (r := p) qbk; have e : zar (q :: ps) = .string q.1.1 :: .slice q.1.2.1 q.1.2.2.1 q.1.2.2.2.1 :: .slice q.2.1 q.2.2.1 q.2.2.2.1 :: zar ps := rfl; rw [e, show (i + 1) * 3 = i * 3 + 1 + 1 + 1 by omega]; exact ⟨by simpa using a, by simpa using b, by simpa using c⟩
def HeadApart (w : World) (lo hi : Nat) (r : Rf) : Prop := r.1.size ≤ maxLen ∧ IsTerms w lo hi r.2.1 r.2.2.1 r.2.2.2.1 r.2.2.2.2 ∧ (0 < rN r → RowAt w lo hi 110 (rA r) (rN r * 2))
def RuleApart (w : World) (lo hi : Nat) (r : Rr) : Prop :=
  ∃ a b c d, lo ≤ a ∧ a ≤ b ∧ b ≤ hi ∧ lo ≤ c ∧ c ≤ d ∧ d ≤ hi ∧ (b ≤ c ∨ d ≤ a) ∧ HeadApart w a b r.1 ∧ OwnParts w c d r.2.1 r.2.2.1 r.2.2.2.1 r.2.2.2.2
def RulesIn (w : World) (lo hi : Nat) : List Rr → Prop
  | [] => lo ≤ hi
  | r :: rs => ∃ m, lo ≤ m ∧ m ≤ hi ∧ RuleApart w lo m r ∧ RulesIn w m hi rs
def RulesApart (w : World) (lo hi : Nat) (A : Option Addr) (n c : Nat) (rs : List Rr) : Prop :=
  rs.length = n ∧ n ≤ c ∧ c ≤ maxLen ∧
  (0 < n → ∃ g k f, A = some ⟨g, 0, none⟩ ∧ lo ≤ g ∧ g < hi ∧ w.rowIs g 174 k f ∧ n * 3 ≤ k ∧ ∀ j u, (zar rs)[j]? = some u → f j = u) ∧
  RulesIn w lo hi rs
section
variable {w w' : World} {lo hi lo' hi' n c m : Nat} {t : TypeId} {A : Option Addr} {rs : List Rr} {r : Rr}
theorem HeadApart.keep {r : Rf} (h : HeadApart w lo hi r) (hk : ∀ b, lo ≤ b → b < hi → w'.heap[b]? = w.heap[b]?) (h1 : lo' ≤ lo) (h2 : hi ≤ hi') : HeadApart w' lo' hi' r :=
  ⟨h.1, h.2.1.keep (cellKeep hk) h1 h2, fun h0 => (h.2.2 h0).keep hk h1 h2⟩
theorem RuleApart.keep (h : RuleApart w lo hi r) (hk : ∀ b, lo ≤ b → b < hi → w'.heap[b]? = w.heap[b]?) (h1 : lo' ≤ lo) (h2 : hi ≤ hi') : RuleApart w' lo' hi' r := by
  obtain ⟨a, b, c, d, e1, e2, e3, e4, e5, e6, e7, e8, e9⟩ := h; exact ⟨a, b, c, d, by omega, e2, by omega, by omega, e5, by omega, e7, e8.keep (fun x h1 h2 => hk x qaa qaa) (nl _) (nl _), e9.keep (fun x h1 h2 => hk x qaa qaa) (nl _) (nl _)⟩
theorem RulesIn.keep : ∀ {rs : List Rr} {lo : Nat}, RulesIn w lo hi rs → (∀ b, lo ≤ b → b < hi → w'.heap[b]? = w.heap[b]?) → RulesIn w' lo hi rs
  | [], _, h, _ => h
  | _ :: _, _, ⟨m, h1, h2, h3, h4⟩, hk => ⟨m, h1, h2, h3.keep (fun b x y => hk b x qaa) (nl _) (nl _), RulesIn.keep h4 (fun b x y => hk b qaa y)⟩
theorem RulesIn.snoc : ∀ {rs : List Rr} {lo : Nat}, RulesIn w lo hi rs → RuleApart w hi hi' r → hi ≤ hi' → RulesIn w lo hi' (rs ++ [r])
  | [], _, h, hr, hh => ⟨hi', Nat.le_trans h hh, nl _, hr.keep (fun _ _ _ => rfl) h (nl _), nl _⟩
  | _ :: _, _, ⟨m, h1, h2, h3, h4⟩, hr, hh => ⟨m, h1, Nat.le_trans h2 hh, h3, RulesIn.snoc h4 hr hh⟩
theorem RulesIn.wide : ∀ {rs : List Rr} {lo : Nat}, RulesIn w lo hi rs → hi ≤ hi' → RulesIn w lo hi' rs
  | [], _, h, hh => Nat.le_trans h hh
  | _ :: _, _, ⟨m, h1, h2, h3, h4⟩, hh => ⟨m, h1, Nat.le_trans h2 hh, h3, RulesIn.wide h4 hh⟩
theorem OwnParts.far {g : Nat} {ps : List Pf} (h : OwnParts w lo hi A n c ps) (hk : ∀ b, b < w.heap.size → b ≠ g → w'.heap[b]? = w.heap[b]?) (hT : ∀ k f, ¬ w.rowIs g 110 k f) (hP : ∀ k f, ¬ w.rowIs g 171 k f) : OwnParts w' lo hi A n c ps := by
  obtain ⟨a, b, d, e, f⟩ := h; refine ⟨a, b, d, fun hn => ?_, ⟨fun q hq => zhu hk (f.1 q hq) (fun h0 e => ?_), f.2⟩⟩
  · obtain ⟨g', k, f', e1, e2, e3, e4, e5⟩ := e hn
    exact ⟨g', k, f', e1, e2, e3, e4.of_block (hk g' e4.lt (fun e => hP _ _ (e ▸ e4))), e5⟩
  · obtain ⟨g2, k2, f2, x1, _, _, x4, _⟩ := (f.1 q hq).2.2 h0
    rw [e] at x1; injection x1 with x1; injection x1 with x1; subst x1; exact hT _ _ x4
theorem HeadApart.far {g : Nat} {r : Rf} (h : HeadApart w lo hi r) (hk : ∀ b, b < w.heap.size → b ≠ g → w'.heap[b]? = w.heap[b]?) (hT : ∀ k f, ¬ w.rowIs g 110 k f) : HeadApart w' lo hi r :=
  zhu hk h (fun h0 e => by
    obtain ⟨g2, k2, f2, x1, _, _, x4, _⟩ := h.2.2 h0; rw [e] at x1; injection x1 with x1; injection x1 with x1; subst x1; exact hT _ _ x4)
theorem RuleApart.far {g : Nat} (h : RuleApart w lo hi r) (hk : ∀ b, b < w.heap.size → b ≠ g → w'.heap[b]? = w.heap[b]?) (hT : ∀ k f, ¬ w.rowIs g 110 k f) (hP : ∀ k f, ¬ w.rowIs g 171 k f) : RuleApart w' lo hi r := by
  obtain ⟨a, b, c, d, e1, e2, e3, e4, e5, e6, e7, e8, e9⟩ := h; exact ⟨a, b, c, d, e1, e2, e3, e4, e5, e6, e7, e8.far hk hT, e9.far hk hT hP⟩
theorem RulesIn.far {g : Nat} : ∀ {rs : List Rr} {lo : Nat}, RulesIn w lo hi rs → (∀ b, b < w.heap.size → b ≠ g → w'.heap[b]? = w.heap[b]?) → (∀ k f, ¬ w.rowIs g 110 k f) → (∀ k f, ¬ w.rowIs g 171 k f) → RulesIn w' lo hi rs
  | [], _, h, _, _, _ => h
  | _ :: _, _, ⟨m, h1, h2, h3, h4⟩, hk, hT, hP => ⟨m, h1, h2, h3.far hk hT hP, RulesIn.far h4 hk hT hP⟩
theorem RulesIn.appended {base k : Nat} {v : Value} {cs : List Value} (h : RulesIn w lo hi rs) (hrow : w.ownsRow base 174 3 v k cs) (hg : w.grownBy w' v.ownBlock) : RulesIn w' lo hi rs := by
  rcases hrow.2 with ⟨rfl, _⟩ | ⟨g, cap, cur, rfl, _, hgb, _⟩
  · refine h.far (g := w.heap.size) (fun b hb _ => hg.block b hb qcs) (fun k f hr => ?_) (fun k f hr => ?_) <;> exact absurd hr.lt (Nat.lt_irrefl _)
  · refine h.far (g := g) (fun b hb hne => hg.block b hb qdn) (fun k f hr => ?_) (fun k f hr => ?_)
    · obtain ⟨cs, y1, _⟩ := hr
      rw [hgb] at y1; injection y1 with y1; injection y1 with _ y1; exact absurd y1 qan
    · obtain ⟨cs, y1, _⟩ := hr
      rw [hgb] at y1; injection y1 with y1; injection y1 with _ y1; exact absurd y1 qan
theorem RulesIn.each : ∀ {rs : List Rr} {lo : Nat}, RulesIn w lo hi rs → ∀ r ∈ rs, ∃ a b, lo ≤ a ∧ b ≤ hi ∧ RuleApart w a b r
  | [], _, _, r, hr => by simp at hr
  | q :: qs, lo, ⟨m, h1, h2, h3, h4⟩, r, hr => by
    rcases List.mem_cons.1 hr with rfl | hr
    · exact ⟨lo, m, nl _, h2, h3⟩
    · obtain ⟨a, b, e1, e2, e3⟩ := RulesIn.each h4 r hr
      exact ⟨a, b, by omega, e2, e3⟩
theorem RulesApart.rules (h : RulesApart w lo hi A n c rs) : zap w lo hi A n c (rs.map rRl) := by
  obtain ⟨a, b, d, e, f⟩ := h; refine ⟨by simpa using a, b, d, fun hn => ?_⟩; obtain ⟨g, k, f', e1, e2, e3, e4, e5, e6⟩ := e hn; refine ⟨_, e1, e2, e3, fun i q hq => ?_⟩; rw [List.getElem?_map] at hq; obtain ⟨r, hr, rfl⟩ := Option.map_eq_some_iff.1 hq; have hi := (List.getElem?_eq_some_iff.1 hr).1; have a0 : ∀ j, (⟨g, 0, none⟩ : Addr).add j = ⟨g, j, none⟩ := fun j => by unfold Addr.add; split <;> simp_all
  obtain ⟨c1, c2, c3⟩ := zkp hr; obtain ⟨x, y, z1, z2, a, b, c, d, z3, z4, z5, z6, z7, z8, z9, a2, a3⟩ := f.each r (List.mem_of_getElem? hr); rw [a0]; have x0 : w.cell? ⟨g, i * 3, none⟩ = some (.string r.1.1) := by rw [e4.cell qaa, e6 _ _ c1]
  have x1 : w.cell? ⟨g, i * 3 + 1, none⟩ = some (.slice r.1.2.1 r.1.2.2.1 r.1.2.2.2.1) := by rw [e4.cell qaa, e6 _ _ c2]
  have x2 : w.cell? ⟨g, i * 3 + 2, none⟩ = some (.slice r.2.1 r.2.2.1 r.2.2.2.1) := by rw [e4.cell qaa, e6 _ _ c3]
  exact ⟨x0, a2.1, ⟨_, _, _, x1, a2.2.1.keep (fun _ _ _ => rfl) qaa qaa⟩, ⟨_, _, _, x2, a3.parts.keep PartE.stays (fun _ _ _ => rfl) qaa qaa⟩⟩
theorem RulesApart.of_row {base : Nat} {v : Value} (h : w.ownsRow base 174 3 v n (zar rs)) (hn : n = rs.length) (hb : lo ≤ base) (hr : RulesIn w lo hi rs) (hh : hi ≤ w.heap.size) :
    ∃ A c, v = .slice A n c ∧ RulesApart w lo w.heap.size A n c rs := by
  subst hn; rcases h.2 with ⟨rfl, h0⟩ | ⟨g, cap, cur, rfl, hbg, hgb, hle, hcap, hsz, htk⟩
  · exact ⟨none, 0, by rw [h0], rfl, by omega, by unfold maxLen; omega, fun hp => absurd hp qaa, hr.wide hh⟩
  · have hlt := (Array.getElem?_eq_some_iff.1 hgb).1
    refine ⟨_, cap, rfl, rfl, hle, hcap, fun _ => ⟨g, cap * 3, fun i => cur[i]?.getD undef, rfl, by omega, hlt, ⟨cur, hgb, hsz, fun i hi => by simp [hsz ▸ hi]⟩, Nat.mul_le_mul_right _ hle, fun j u hu => ?_⟩, hr.wide hh⟩; have hj := (List.getElem?_eq_some_iff.1 hu).1; rw [zdk] at hj; rw [← htk, List.getElem?_take, if_pos qaa] at hu; have : cur[j]? = some u := qep; simp [this]
theorem copyR_more {w wr w1 w2 w3 : World} {k : Nat} {v v' : Value} {rs : List Rr} {xs : List Rl} {r : Rr} {q : Rl} (hl : rs.length = k) (hm : rs.map rRl = xs.take k) (hq : xs[k]? = some q) (hrq : rRl r = q)
    (ho : RulesIn wr w.heap.size wr.heap.size rs) (hb1 : Below wr.heap.size wr w1) (hB1 : Below w.heap.size w w1) (hR : RuleApart w1 wr.heap.size w1.heap.size r)
    (h12 : Below w1.heap.size w1 w2) (hrow : w2.ownsRow w.heap.size 174 3 v k (zar rs)) (hown : w3.ownsRow w.heap.size 174 3 v' (k + 1) (zar rs ++ [.string r.1.1, .slice r.1.2.1 r.1.2.2.1 r.1.2.2.2.1, .slice r.2.1 r.2.2.1 r.2.2.2.1])) (hgrow : w2.grownBy w3 v.ownBlock) :
    ∃ rs' : List Rr, rs'.length = k + 1 ∧ rs'.map rRl = xs.take (k + 1) ∧ w3.ownsRow w.heap.size 174 3 v' (k + 1) (zar rs') ∧ RulesIn w3 w.heap.size w3.heap.size rs' ∧ Below w.heap.size w w3 := by
  have hsz : w1.heap.size ≤ w2.heap.size := h12.size; refine ⟨rs ++ [r], by rw [List.length_append, hl]; rfl, ?_, ?_, ?_, ?_⟩
  · rw [List.map_append, hm, List.take_add_one, hq, ← hrq]; rfl
  · rw [zgx]; exact hown
  · have h1 := (ho.keep (w' := w1) (fun b _ h2 => hb1.block b h2)).snoc hR hb1.size
    have h2 := h1.keep (w' := w2) (fun b _ h => h12.block b h); exact (h2.appended hrow hgrow).wide (Nat.le_trans hsz hgrow.size)
  · exact (zaa hB1 h12).grown hgrow (Nat.le_trans hB1.size hsz) (fun j ej => by
      rcases hrow.2 with ⟨rfl, _⟩ | ⟨g', cap', cur, rfl, hbg, _, _⟩
      · simp [Value.ownBlock] at ej
      · obtain rfl : g' = j := by simpa [Value.ownBlock] using ej
        omega)
end
theorem Tryz.infoRuleR : (Tryz.prog.info? 174).map (fun i => (i.zero, i.size, i.bytes)) = some (some (.agg #[.string ByteArray.empty, .slice none 0 0, .slice none 0 0]), 3, 64) := by kernel_rfl
theorem rule_here {w : World} {hi n c : Nat} {A : Option Addr} {rs : List Rl} (h : zap w 0 hi A n c rs) {i : Nat} (hn : i < n) :
    ∃ p r A' n' c' B m d, A = some p ∧ p.block < hi ∧ rs[i]? = some r ∧ w.cell? (p.add (i * 3)) = some (.string r.1.1) ∧ r.1.1.size ≤ maxLen ∧ w.cell? ⟨(p.add (i * 3)).block, (p.add (i * 3)).off + 1, none⟩ = some (.slice A' n' c') ∧ IsTerms w 0 hi A' n' c' r.1.2 ∧
      w.cell? ⟨(p.add (i * 3)).block, (p.add (i * 3)).off + 2, none⟩ = some (.slice B m d) ∧ zeg w 0 hi B m d r.2 := by
  obtain ⟨p, r, hA, _, hh, hg, d1, d2, ⟨A', n', c', d3, d4⟩, ⟨B, m, d, d5, d6⟩⟩ := h.at_ hn; exact ⟨p, r, A', n', c', B, m, d, hA, hh, hg, d1, d2, d3, d4, d5, d6⟩
end Go.Proofs.YtogonjkklioaaaaGreatDoor
namespace Go.Proofs.YtogonjkklioaaaaGreatDoor
open Go.RowKit
end Go.Proofs.YtogonjkklioaaaaGreatDoor
namespace Go.Proofs.YtogonjkklioaaaaGreatDoor
open Go.RowKit
def CopyRPost (xs : List Rl) (w : World) (e : Ending) (w' : World) : Prop :=
  ∃ A c rs, e = .returned (.slice A xs.length c) ∧ RulesApart w' w.heap.size w'.heap.size A xs.length c rs ∧ rs.map rRl = xs ∧ Below w.heap.size w w'
structure BodyOn (b : Nat) (nm : ByteArray) (A2 : Option Addr) (n' d2 : Nat) (qs : List Pt) (w1 : World) (j : Nat) (Bv : Option Addr) (bv : Nat) (ps : List Pf) (W : World) : Prop where
  box : Blk W b 174 #[.string nm, .slice A2 n' d2, .slice Bv j bv]
  row : W.ownsRow (b + 1) 171 3 (.slice Bv j bv) j (zca ps)
  len : ps.length = j
  eq : ps.map pAt = qs.take j
  own : OwnIn W (b + 1) W.heap.size (ps.map Prod.snd)
  below : Below w1.heap.size w1 W
  size : b + 1 ≤ W.heap.size
theorem ZRKeep0 {p : Prop} (h : p := by
  refine rd0 23 fun K_ hK_ => ?_; refine zaq 3 qaa qad _ _ _ qad (w1.heap.size + 1) 171 i0 _ 48 Tryz.underlying172 HI.out HZ.out HSZ.out HYY.out rfl (.slice Bv j bv) j (zca ps) qad OW7.out (some ⟨w5.heap.size, 0, none⟩) 1 1 [.bool nb, .string nq, .slice A5 n5 d5] qad (srcOneP _ _ _ _ _ _ TM7.out) qal qaf qaa qaa ?_; intro v8 w8 OW8 G8; obtain ⟨g', cap', rfl⟩ := ownsRow_succ OW8; have hlo8 : ∀ g, (Value.slice Bv j bv).ownBlock = some g → w1.heap.size + 1 ≤ g := fun g hg => (HBO.out.row.lt g hg).1; have BX8 := hid (BX7.out.kept G8 (zok (fun g h => by have := hlo8 g h; omega)))
  obtain ⟨ps', r1, r2, r3, r4, r5⟩ := copyP_more (w := w1) HBO.out.len HBO.out.eq HGQ.out HBO.out.own HBO.out.size qaa HB6 (zaa HBO.out.below HB6) G3.out HT6.out HR6.out hb7 OW7.out OW8 G8; have hz8 := G8.size; have x0 := (G8.cell_far ⟨(p.add (k * 3)).block, (p.add (k * 3)).off + 2, none⟩ qcf (zok (fun g h => by have := hlo8 g h; rw [zah]; show p.block ≠ _; omega))).trans x0; have x1 := (G8.cell_far (pb.add (j * 3)) qat (zok (fun g h => by have := hlo8 g h; rw [zah]; omega))).trans x1; have x2 := (G8.cell_far ⟨(pb.add (j * 3)).block, (pb.add (j * 3)).off + 1, none⟩ qaw (zok (fun g h => by have := hlo8 g h; rw [zah]; show pb.block ≠ _; omega))).trans x2
  have x3 := (G8.cell_far ⟨(pb.add (j * 3)).block, (pb.add (j * 3)).off + 2, none⟩ qaw (zok (fun g h => by have := hlo8 g h; rw [zah]; show pb.block ≠ _; omega))).trans x3; have R3 := hid r3; have R2 := hid r2; have R4 := hid r4; have R1 := hid r1; have R5 := hid r5; have HOWN := hid (r3.lt g' rfl).1; clear r1 r2 r3 r4 r5 OW8 G8; refine hK_.out _ _ ⟨x0, x1, x2, x3⟩ fun hS_ => ?_; clear hK_; refine tk 24 (.pointer (some ⟨w1.heap.size, 2, none⟩)) hS_ ?_; refine rd0 25 fun K_ hK_ => ?_; have b2 := BX8.out.cell 2; have z2 := BX8.out.frozen 2; have hg8 := HOWN.out; rw [if_pos qad]; go_simp; refine hK_.out _ _ (by refine ⟨?_, ?_, ?_, ?_⟩ <;> (rw [cb_ (hs_ w8 ⟨w1.heap.size, 2, none⟩ _ _ (by first | (rw [zah]; omega) | (show p.block ≠ _; rw [zah]; omega) | (show (Addr.block _) ≠ _; simp only [zah]; omega)))]; assumption)) fun hS_ => ?_
  clear hK_; refine wpAnyH_done qab ?_ _; have BON := hid (show BodyOn w1.heap.size r.1.1 A2 n' d2 r.2 w1 (j + 1) (some ⟨g', 0, none⟩) cap' ps' (w8.setCell ⟨w1.heap.size, 2, none⟩ (.slice (some ⟨g', 0, none⟩) (j + 1) cap')) from ⟨BX8.out.set 2 _, zds R3.out (fun e => by injection e with e; simp at e; omega) _, R1.out, R2.out, (R4.out.keep (fun b h1 _ => hs_ _ _ _ b qah) (nl _) (by rw [zab]; exact nl _)), R5.out.setCell (nl _) _, by rw [zab]; omega⟩); clear b2 z2 x0 x1 x2 x3; go_wp2; go_roundw
  case rel => exact ⟨j + 1, _, _, ps', by omega, by go_num, BON.out⟩
  case measure => exact qms) : p := h
theorem ZRKeep1 {p : Prop} (h : p := by
  refine rd1 22 fun K_ hK_ => ?_; go_simp; have BX7 := hid (BXC.out.alloc (.cells #[.bool nb, .string nq, .slice A5 n5 d5] 171)); have TM7 := hid (Blk.new w5 171 #[.bool nb, .string nq, .slice A5 n5 d5]); have OW7 := hid (HRW.out.alloc (.cells #[.bool nb, .string nq, .slice A5 n5 d5] 171)); have hb7 := zac w5 (.cells #[.bool nb, .string nq, .slice A5 n5 d5] 171); have x0 := (hb7.cell (p := ⟨(p.add (k * 3)).block, (p.add (k * 3)).off + 2, none⟩) qcf).trans x0; have x1 := (hb7.cell (p := (pb.add (j * 3))) qat).trans x1
  have x2 := (hb7.cell (p := ⟨(pb.add (j * 3)).block, (pb.add (j * 3)).off + 1, none⟩) qaw).trans x2; have x3 := (hb7.cell (p := ⟨(pb.add (j * 3)).block, (pb.add (j * 3)).off + 2, none⟩) qaw).trans x3; obtain ⟨V7, hV7⟩ : ∃ X, w5.alloc (.cells #[.bool nb, .string nq, .slice A5 n5 d5] 171) = X := ⟨_, rfl⟩; rw [hV7] at BX7 TM7 OW7 hb7 x0 x1 x2 x3 ⊢; clear hV7; have hz7 := hb7.size; refine hK_.out _ _ ⟨x0, x1, x2, x3⟩ fun hS_ => ?_; clear hK_; exact ZRKeep0) : p := h
theorem zor (A : Option Addr) (n c : Nat) (xs : List Rl) (w : World) (h : zap w 0 w.heap.size A n c xs) (hn1 : n ≤ 1048576) (hn2 : ∀ r ∈ xs, zhs r.1.2.length r.2.length r.2) :
    Calls Tryz.prog 134 #[.slice A n c] w (CopyRPost xs w) := by
  obtain ⟨i0, hi, hz, hsz, hby⟩ := info_parts Tryz.infoPart; have HI := hid hi; have HZ := hid hz; have HSZ := hid hsz; have HYY := hid hby; clear hi hz hsz hby; obtain ⟨i2, g8, hz2, b5, a7⟩ := info_parts Tryz.infoRuleR; have HN := hid hn2; clear hn2; have HL0 := hid h.1; have H := hid h; clear h; go_enter Tryz.func134, Tryz.ntmps134; go_wp2; go_loopw [3, 4] (fun o i w0 => ∃ (k : Nat) (Av : Option Addr) (cv : Nat) (rs : List Rr), k ≤ n ∧ i = .int .i64 k ∧ o = .slice Av k cv ∧ w0.ownsRow w.heap.size 174 3 (.slice Av k cv) k (zar rs) ∧ rs.length = k ∧ rs.map rRl = xs.take k ∧ RulesIn w0 w.heap.size w0.heap.size rs ∧ Below w.heap.size w w0) (fun _ i _ => n - (intOf i).toNat)
  case atStart => exact ⟨0, some ⟨w.heap.size, 0, none⟩, 0, [], Nat.zero_le _, rfl, rfl, ⟨rfl, .inr ⟨w.heap.size, 0, #[], rfl, nl _, heap_alloc_new w _, nl _, by unfold maxLen; omega, rfl, rfl⟩⟩, rfl, rfl, (zac w _).size, zac _ _⟩
  case round =>
    obtain ⟨k, Av, cv, rs, hk, rfl, rfl, a6, hl, hm, ho, hb⟩ := hrel; obtain ⟨w0, hw0⟩ : ∃ w0 : World, w0 = wr := ⟨_, rfl⟩; subst hw0; have HR := hid a6; have HL := hid hl; have HM := hid hm; have HO := hid ho; clear a6 hl hm ho; by_cases hlt : k < n
    · obtain ⟨p, r, A', n', c', B, m, d, hA, hpb, hg, d1, d2, d3, d4, d5, d6⟩ := rule_here (H.out.below RuleE.stays hb (nl _)) hlt
      subst hA; have hq : zhs n' m r.2 := by have := HN.out r (List.mem_of_getElem? hg); rwa [d4.1, d6.1] at this
      have e7 := hq.1; have hq2 := hq.2.1; have HQ := hid hq.2.2; have HG := hid hg; have b6 := hb.size; have HT : Hid (IsTerms w0 0 w0.heap.size A' n' c' r.1.2) := hid (d4.keep (fun _ _ _ => rfl) (nl _) b6); have HP : Hid (zeg w0 0 w0.heap.size B m d r.2) := hid (d6.keep PartE.stays (fun _ _ _ => rfl) (nl _) b6); have i1 := hid d6.1; have e8 := hid d2; have hpz : p.block < w0.heap.size := Nat.lt_of_lt_of_le hpb b6; clear hg hq d2 d4 d6; go_wp2_with fail; refine (zbs r.1.1 A' n' c' r.1.2 _ HT.out e7).mono ?_; rintro e w1 ⟨A2, d2, rfl, c7, e6, hb1⟩; have i5 := hid c7; have h7 := hid e6; have h4 := hb1.size
      have HB1 := hid (zaa hb hb1); have e1 := (hb1.cell (p := p.add (k * 3)) qbm).trans d1; have e3 := (hb1.cell (p := ⟨(p.add (k * 3)).block, (p.add (k * 3)).off + 2, none⟩) qbm).trans d5; have hb2 := zac w1 (.cells #[.string r.1.1, .slice A2 n' d2, .slice none 0 0] 174); have g0 : Hid (BodyOn w1.heap.size r.1.1 A2 n' d2 r.2 w1 0 none 0 [] (w1.alloc (.cells #[.string r.1.1, .slice A2 n' d2, .slice none 0 0] 174))) := hid ⟨Blk.new w1 _ _, ⟨rfl, .inl ⟨rfl, rfl⟩⟩, rfl, rfl, OwnIn.nil, hb2, by simp⟩; clear d1 d3 d5 c7 e6 hb2; go_wp2; go_loopw [6] (fun y wr => ∃ (j : Nat) (Bv : Option Addr) (bv : Nat) (ps : List Pf), j ≤ m ∧ y = .int .i64 (j : Int) ∧ BodyOn w1.heap.size r.1.1 A2 n' d2 r.2 w1 j Bv bv ps wr) (fun y _ => m - (intOf y).toNat)
      case atStart => exact ⟨0, none, 0, [], Nat.zero_le _, rfl, g0.out⟩
      case round =>
        obtain ⟨j, Bv, bv, ps, hjm, rfl, BO⟩ := hrel; have HBO := hid BO; have f0 := (BO.below.cell (p := p.add (k * 3)) qat).trans e1; have f3 := (BO.below.cell (p := ⟨(p.add (k * 3)).block, (p.add (k * 3)).off + 2, none⟩) qcf).trans e3; have hbq := BO.below.size; have hbs := BO.size; have HB3 := hid (zaa hb1 BO.below); clear BO e1 e3; by_cases hjlt : j < m
        · have i3 : (j : Int) < (m : Int) := qaa
          have hkI : (k : Int) < (n : Int) := qaa; obtain ⟨pb, q, hB, _, i8, a9, hE⟩ := (HP.out.below PartE.stays HB3.out (nl _)).at_ hjlt; obtain ⟨C, n5, c5, g1, g2, g3, g4, g5⟩ := hE.out; clear hE; subst hB; have d7 : n5 ≤ 1048576 := by rw [← g5.1]; exact HQ.out q (List.mem_of_getElem? a9)
          have HGQ := hid a9; have G3 := hid g3; have b4 := hid (show IsTerms wr.drew 0 wr.drew.heap.size C n5 c5 q.2.2 from g5.keep (w' := wr) (lo' := 0) (hi' := wr.heap.size) (fun _ _ _ => rfl) (nl _) qaa); have g6 : pb.block < wr.heap.size := qaa; have hpq : p.block < wr.heap.size := qaa; clear a9 g3 g5; obtain ⟨nb, nq, ts⟩ := q; go_wp2; have a8 := hid (show Below wr.heap.size wr wr.drew from (Below.refl _ _).drew); have c0 := hid (show Blk wr.drew w1.heap.size 174 #[.string r.1.1, .slice A2 n' d2, .slice Bv j bv] from HBO.out.box); have i6 : wr.drew.heap.size = wr.heap.size := rfl
          have x0 : wr.drew.cell? ⟨(p.add (k * 3)).block, (p.add (k * 3)).off + 2, none⟩ = some (.slice (some pb) m d) := f3; have x1 : wr.drew.cell? (pb.add (j * 3)) = some (.bool nb) := g1; have x2 : wr.drew.cell? ⟨(pb.add (j * 3)).block, (pb.add (j * 3)).off + 1, none⟩ = some (.string nq) := g2; have x3 : wr.drew.cell? ⟨(pb.add (j * 3)).block, (pb.add (j * 3)).off + 2, none⟩ = some (.slice C n5 c5) := g4; clear g1 g2 g4 f3; obtain ⟨V, hV⟩ : ∃ V, wr.drew = V := ⟨_, rfl⟩; rw [hV] at a8 c0 i6 x0 x1 x2 x3 b4; refine wp_region_held_drew (S := fun W => W.cell? ⟨(p.add (k * 3)).block, (p.add (k * 3)).off + 2, none⟩ = some (.slice (some pb) m d) ∧ W.cell? (pb.add (j * 3)) = some (.bool nb) ∧ W.cell? ⟨(pb.add (j * 3)).block, (pb.add (j * 3)).off + 1, none⟩ = some (.string nq) ∧ W.cell? ⟨(pb.add (j * 3)).block, (pb.add (j * 3)).off + 2, none⟩ = some (.slice C n5 c5)) qab (by rw [hV]; exact ⟨x0, x1, x2, x3⟩) ?_
          rw [hV]; clear hV; intro hS_; refine tk 0 (.pointer (some ⟨w1.heap.size, 2, none⟩)) hS_ ?_; refine tk 2 (.slice (some p) n c) hS_ ?_; refine tk 3 (.int .i64 (k : Int)) hS_ ?_; refine tk 4 (.pointer (some (p.add (k * 3)))) hS_ ?_; refine tk 5 (.pointer (some ⟨(p.add (k * 3)).block, (p.add (k * 3)).off + 2, none⟩)) hS_ ?_; refine tk 6 (.slice (some pb) m d) hS_ ?_; refine tk 7 (.int .i64 (j : Int)) hS_ ?_; refine tk 8 (.pointer (some (pb.add (j * 3)))) hS_ ?_; refine tk 9 (.pointer (some (pb.add (j * 3)))) hS_ ?_; refine tk 10 (.bool nb) hS_ ?_; refine tk 11 (.slice (some p) n c) hS_ ?_; refine tk 12 (.int .i64 (k : Int)) hS_ ?_
          refine tk 13 (.pointer (some (p.add (k * 3)))) hS_ ?_; refine tk 14 (.pointer (some ⟨(p.add (k * 3)).block, (p.add (k * 3)).off + 2, none⟩)) hS_ ?_; refine tk 15 (.slice (some pb) m d) hS_ ?_; refine tk 16 (.int .i64 (j : Int)) hS_ ?_; refine tk 17 (.pointer (some (pb.add (j * 3)))) hS_ ?_; refine tk 18 (.pointer (some ⟨(pb.add (j * 3)).block, (pb.add (j * 3)).off + 1, none⟩)) hS_ ?_; refine tk 19 (.agg #[.string nq, .slice C n5 c5]) hS_ ?_; have BXC := c0; refine rd2 1 20 (fun K_ hK_ => ?_) fun K_ hK_ => ?_
          · have b2 := BXC.out.cell 2
            rw [if_pos qad]; go_simp; refine hK_.out _ _ ⟨x0, x1, x2, x3⟩ fun hS_ => ?_; clear hK_; clear b2; refine rd1 20 fun K_ hK_ => ?_; go_simp; go_at_call 101; refine (zbs nq C n5 c5 ts _ b4.out d7).mono ?_; rintro e w5 ⟨A5, d5, rfl, a5, a4, a2⟩; have b3 := hid (BXC.out.below a2); clear BXC; have BXC := b3; have HB6 := zaa a8.out a2; have HT6 := hid (a5.keep (w' := w5) (lo' := wr.heap.size) (hi' := w5.heap.size) (fun _ _ _ => rfl) qaa (nl _)); have HR6 := hid (fun h0 => (a4 h0).keep (w' := w5) (lo' := wr.heap.size) (hi' := w5.heap.size) (fun _ _ _ => rfl) qaa (nl _))
            have HRW := hid (zan HBO.out.row HB6); have hz6 := HB6.size; have x0 := (a2.cell (p := ⟨(p.add (k * 3)).block, (p.add (k * 3)).off + 2, none⟩) qcf).trans x0; have x1 := (a2.cell (p := (pb.add (j * 3))) qat).trans x1; have x2 := (a2.cell (p := ⟨(pb.add (j * 3)).block, (pb.add (j * 3)).off + 1, none⟩) qaw).trans x2; have x3 := (a2.cell (p := ⟨(pb.add (j * 3)).block, (pb.add (j * 3)).off + 2, none⟩) qaw).trans x3; clear a5 a4 a2; refine hK_.out _ _ ⟨x0, x1, x2, x3⟩ fun hS_ => ?_; clear hK_; refine tk 21 (.agg #[.bool nb, .string nq, .slice A5 n5 d5]) hS_ ?_; exact ZRKeep1
          · rw [if_pos qad]
            go_simp; go_at_call 101; refine (zbs nq C n5 c5 ts _ b4.out d7).mono ?_; rintro e w5 ⟨A5, d5, rfl, a5, a4, a2⟩; have b3 := hid (BXC.out.below a2); clear BXC; have BXC := b3; have HB6 := zaa a8.out a2; have HT6 := hid (a5.keep (w' := w5) (lo' := wr.heap.size) (hi' := w5.heap.size) (fun _ _ _ => rfl) qaa (nl _)); have HR6 := hid (fun h0 => (a4 h0).keep (w' := w5) (lo' := wr.heap.size) (hi' := w5.heap.size) (fun _ _ _ => rfl) qaa (nl _)); have HRW := hid (zan HBO.out.row HB6); have hz6 := HB6.size; have x0 := (a2.cell (p := ⟨(p.add (k * 3)).block, (p.add (k * 3)).off + 2, none⟩) qcf).trans x0
            have x1 := (a2.cell (p := (pb.add (j * 3))) qat).trans x1; have x2 := (a2.cell (p := ⟨(pb.add (j * 3)).block, (pb.add (j * 3)).off + 1, none⟩) qaw).trans x2; have x3 := (a2.cell (p := ⟨(pb.add (j * 3)).block, (pb.add (j * 3)).off + 2, none⟩) qaw).trans x3; clear a5 a4 a2; refine hK_.out _ _ ⟨x0, x1, x2, x3⟩ fun hS_ => ?_; clear hK_; refine tk 21 (.agg #[.bool nb, .string nq, .slice A5 n5 d5]) hS_ ?_; refine rd2 1 22 (fun K_ hK_ => ?_) fun K_ hK_ => ?_
            · have b2 := BXC.out.cell 2
              rw [if_pos qad]; go_simp; refine hK_.out _ _ ⟨x0, x1, x2, x3⟩ fun hS_ => ?_; clear hK_; clear b2; exact ZRKeep1
            · rw [if_pos qad]
              go_simp; have BX7 := hid (BXC.out.alloc (.cells #[.bool nb, .string nq, .slice A5 n5 d5] 171)); have TM7 := hid (Blk.new w5 171 #[.bool nb, .string nq, .slice A5 n5 d5]); have OW7 := hid (HRW.out.alloc (.cells #[.bool nb, .string nq, .slice A5 n5 d5] 171)); have hb7 := zac w5 (.cells #[.bool nb, .string nq, .slice A5 n5 d5] 171); have x0 := (hb7.cell (p := ⟨(p.add (k * 3)).block, (p.add (k * 3)).off + 2, none⟩) qcf).trans x0; have x1 := (hb7.cell (p := (pb.add (j * 3))) qat).trans x1
              have x2 := (hb7.cell (p := ⟨(pb.add (j * 3)).block, (pb.add (j * 3)).off + 1, none⟩) qaw).trans x2; have x3 := (hb7.cell (p := ⟨(pb.add (j * 3)).block, (pb.add (j * 3)).off + 2, none⟩) qaw).trans x3; obtain ⟨V7, hV7⟩ : ∃ X, w5.alloc (.cells #[.bool nb, .string nq, .slice A5 n5 d5] 171) = X := ⟨_, rfl⟩; rw [hV7] at BX7 TM7 OW7 hb7 x0 x1 x2 x3 ⊢; clear hV7; have hz7 := hb7.size; refine hK_.out _ _ ⟨x0, x1, x2, x3⟩ fun hS_ => ?_; clear hK_; refine rd0 1 fun K_ hK_ => ?_; have b2 := BX7.out.cell 2; rw [if_pos qad]; go_simp; refine hK_.out _ _ ⟨x0, x1, x2, x3⟩ fun hS_ => ?_
              clear hK_; clear b2; exact ZRKeep0
        · have i4 : j = m := qaa
          subst i4; have i3 : ¬ (j : Int) < (j : Int) := qaa; have hkI : (k : Int) < (n : Int) := qaa; have b0 := HBO.out.box.cell 0; have b1 := HBO.out.box.cell 1; have b2 := HBO.out.box.cell 2; have a3 : r.2.take j = r.2 := List.take_of_length_le (by rw [i1.out]; exact nl _); obtain ⟨A3, c3, b7, hO⟩ := OwnParts.of_row HBO.out.row HBO.out.len.symm (nl _) HBO.out.own (nl _); injection b7 with b7 _ e4'; subst b7; subst e4'
          have d9 : RuleApart wr w0.heap.size wr.heap.size ((r.1.1, A2, n', d2, r.1.2), Bv, j, bv, ps) :=
            ⟨w0.heap.size, w1.heap.size, w1.heap.size + 1, wr.heap.size, nl _, h4, by omega, by omega, by omega, nl _, .inl qaa, HeadApart.keep (w := w1) (lo := w0.heap.size) (hi := w1.heap.size) ⟨e8.out, i5.out, h7.out⟩ (fun b _ h2 => HBO.out.below.block b h2) (nl _) (nl _), hO⟩
          have b9 : rRl ((r.1.1, A2, n', d2, r.1.2), Bv, j, bv, ps) = r := by unfold rRl; show ((r.1.1, r.1.2), ps.map pAt) = r; rw [HBO.out.eq, a3]
          have h5 := hid d9; have i7 := hid b9; have HRW := hid (zan HR.out HB3.out); have h8 := hid (zaa hb HB3.out); have g7 : w.heap.size ≤ wr.heap.size := qaa; clear a3 hO d9 b9; go_wp2_with (at_builtin; refine wpList_append_own _ rfl _ _ 117 rfl w.heap.size 174 i2 _ 3 64 Tryz.underlying117 g8 hz2 b5 a7 rfl qan _ _ _ rfl (HRW.out.alloc _) ⟨wr.heap.size, 0, none⟩ 1 1 [.string r.1.1, .slice A2 n' d2, .slice Bv j bv] rfl rfl (zjh _ _ _ _ _) qal qaf qaa qah ?_; intro v' w9 hown' hgrow' _; obtain ⟨g', cap', rfl⟩ := ownsRow_succ hown'; have hown := hid hown'; have hgrow := hid hgrow'; clear hown' hgrow')
          obtain ⟨h6, r1, r2, r3, r4, r5⟩ := copyR_more HL.out HM.out HG.out i7.out HO.out HB3.out h8.out h5.out (zac wr _) (HRW.out.alloc _) hown.out hgrow.out; go_roundw
          case rel => exact ⟨k + 1, _, _, h6, by omega, by go_num, rfl, r3, r1, r2, r4, r5⟩
          case measure => exact qms
    · have hkn : k = n := qaa
      subst hkn; have a3 : xs.take k = xs := List.take_of_length_le qen; obtain ⟨A3, c3, e3, hO⟩ := RulesApart.of_row HR.out HL.out.symm (nl _) HO.out (nl _); injection e3 with e3 _ e4; subst e3; subst e4; have HX := hid a3; clear a3; go_wp2; go_ret; exact ⟨Av, cv, rs, by rw [HL0.out]; rfl, by rw [HL0.out]; exact hO, by rw [HM.out]; exact HX.out, hb⟩
end Go.Proofs.YtogonjkklioaaaaGreatDoor
