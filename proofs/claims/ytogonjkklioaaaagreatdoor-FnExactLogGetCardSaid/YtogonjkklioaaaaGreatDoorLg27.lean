/-
  Texts of one claim, put together.
-/
import Derived.Test.YtogonjkklioaaaaGreatDoorLg26
import Derived.Test.YtogonjkklioaaaaGreatDoorLg2
import Derived.Test.YtogonjkklioaaaaGreatDoorLg22
import Derived.Deep.AppendLies
namespace Go.Proofs.YtogonjkklioaaaaGreatDoor
open Go.RowKit

theorem Blk.within {W W' : World} {b lo hi : Nat} {t : TypeId} {cs : Array Value} (h : Blk W b t cs) (hw : Within lo hi W W') (ho : b < lo ∨ hi ≤ b) : Blk W' b t cs := (hw.block b h.lt ho).trans h
theorem OwnTerms.within {W W' : World} {g n lo hi : Nat} {ts : List Tm} (h : OwnTerms W g n ts) (hw : Within lo hi W W') (ho : g < lo ∨ hi ≤ g) : OwnTerms W' g n ts := ⟨h.1, h.2.1, h.2.2.of_block (hw.block g h.2.2.lt ho)⟩

theorem markN_tiny {n c lo hi : Nat} {w : World} {A : Option Addr} {rs : List Rf} {xs : List At} (h : IsRefs w lo hi A n c rs) (hx : rs.map rAt = xs) (hs : SmallAtoms n xs) : markN 1 rs ≤ 2 ^ 42 := by
  have h1 := markN_le 1048576 1 rs (fun r hr => by
    have h2 := hs.2 (rAt r) (by rw [← hx]; exact List.mem_map_of_mem hr)
    have h3 := ((RefsIn.of h) r hr).2.1
    show r.2.2.1 ≤ _
    rw [← h3]; exact h2)
  have h4 := h.1
  have h5 := hs.1
  have h6 : rs.length * (1 + 2 * 1048576) ≤ 1048576 * (1 + 2 * 1048576) := Nat.mul_le_mul_right _ (by omega)
  omega


end Go.Proofs.YtogonjkklioaaaaGreatDoor

namespace Go.Proofs.YtogonjkklioaaaaGreatDoor
open Go.RowKit

theorem markN_more {n c lo hi k : Nat} {w : World} {A : Option Addr} {rs : List Rf} {xs : List At} (h : IsRefs w lo hi A n c rs) (hx : rs.map rAt = xs) (hs : SmallAtoms n xs) : markN k rs ≤ k + 2 ^ 42 := by
  have h1 := markN_le 1048576 k rs (fun r hr => by
    have h2 := hs.2 (rAt r) (by rw [← hx]; exact List.mem_map_of_mem hr)
    have h3 := ((RefsIn.of h) r hr).2.1
    show r.2.2.1 ≤ _
    rw [← h3]; exact h2)
  have h4 := h.1
  have h5 := hs.1
  have h6 : rs.length * (1 + 2 * 1048576) ≤ 1048576 * (1 + 2 * 1048576) := Nat.mul_le_mul_right _ (by omega)
  omega



/-- A change of the lists P and Q in memory of its own, its two lists apart, handed back. -/
def OwnPPost (P Q : List At) (w : World) (e : Ending) (w' : World) : Prop := ∃ A c ra B d rb mid, e = .returned (.agg #[.slice A P.length c, .slice B Q.length d]) ∧ (OwnRefs w' w.heap.size mid A P.length c ra ∧ ra.map rAt = P) ∧ (OwnRefs w' mid w'.heap.size B Q.length d rb ∧ rb.map rAt = Q) ∧ (w.heap.size ≤ mid ∧ mid ≤ w'.heap.size) ∧ Below w.heap.size w w'

end Go.Proofs.YtogonjkklioaaaaGreatDoor

namespace Go.Proofs.YtogonjkklioaaaaGreatDoor
open Go.RowKit

/-- A change in two cells. -/
def ChE (w : World) (lo hi : Nat) (p : Addr) (c : Ch) : Prop :=
  (∃ A n d, w.cell? p = some (.slice A n d) ∧ IsAtoms w lo hi A n d c.1) ∧ (∃ B m d, w.cell? (nextTo p 1) = some (.slice B m d) ∧ IsAtoms w lo hi B m d c.2)

theorem ChE.stays : Stays ChE := by
  intro w w' lo hi lo' hi' p a ⟨⟨A, n, c, h3, h4⟩, ⟨B, m, d, h5, h6⟩⟩ hp1 hp2 hk hl hh
  exact ⟨⟨A, n, c, (hk p hp1 hp2).trans h3, h4.keep AtomE.stays hk hl hh⟩, ⟨B, m, d, (hk (nextTo p 1) hp1 hp2).trans h5, h6.keep AtomE.stays hk hl hh⟩⟩

theorem ChE.out {w : World} {lo hi : Nat} {p : Addr} {c : Ch} (h : ChE w lo hi p c) : ∃ A n d B m d', w.cell? p = some (.slice A n d) ∧ IsAtoms w lo hi A n d c.1 ∧ w.cell? ⟨p.block, p.off + 1, none⟩ = some (.slice B m d') ∧ IsAtoms w lo hi B m d' c.2 := by
  obtain ⟨⟨A, n, d, h1, h2⟩, ⟨B, m, d', h3, h4⟩⟩ := h
  exact ⟨A, n, d, B, m, d', h1, h2, h3, h4⟩

/-- A slice of changes. -/
abbrev IsChs := IsSeq 2 ChE

/-- Are two changes the same? -/
def chEq (a b : Ch) : Bool := changeEq a.1 a.2 b.1 b.2
theorem chEq_refl (a : Ch) : chEq a a = true := changeEq_refl _ _

set_option maxHeartbeats 1000000 in
theorem eqChangeS_any (A B : Option Addr) (n c n' c' : Nat) (xs ys : List Ch) (w : World) (h : IsChs w 0 w.heap.size A n c xs) (h' : IsChs w 0 w.heap.size B n' c' ys) :
    Calls Tryz.prog 17 #[.slice A n c, .slice B n' c'] w (BoolPost (listEq chEq xs ys) w) := by
  have hm := h.len
  unfold maxLen at hm
  have H := Lib.hid h; clear h
  have H' := Lib.hid h'; clear h'
  by_cases hne : n = n'
  · subst hne
    go_enter Tryz.func17, Tryz.ntmps17
    go_wp2
    go_loopw [5] (fun i wr => ∃ k : Nat, k ≤ n ∧ i = .int .i64 k ∧ listEq chEq (xs.drop k) (ys.drop k) = listEq chEq xs ys ∧ Below w.heap.size w wr) (fun i _ => n - (intOf i).toNat)
    case atStart => exact ⟨0, Nat.zero_le _, rfl, rfl, Below.refl _ _⟩
    case round =>
      obtain ⟨k, hk, rfl, hd, hb⟩ := hrel
      have HD := Lib.hid hd; clear hd
      by_cases hlt : k < n
      · obtain ⟨p, q, hA, hlo, hhi, hg, hE⟩ := (H.out.below ChE.stays hb (Nat.le_refl _)).at_ hlt
        obtain ⟨p', q', hA', hlo', hhi', hg', hE'⟩ := (H'.out.below ChE.stays hb (Nat.le_refl _)).at_ hlt
        obtain ⟨C, m, d, D, i, j, d1, d2, d3, d4⟩ := hE.out
        obtain ⟨C', m', d', D', i', j', f1, f2, f3, f4⟩ := hE'.out
        clear hE hE'
        subst hA; subst hA'
        have HG := Lib.hid hg; clear hg
        have HG' := Lib.hid hg'; clear hg'
        have K1 := Lib.hid (d2.keep (w' := wr.drew) (lo' := 0) (hi' := wr.drew.heap.size) AtomE.stays (fun _ _ _ => rfl) (Nat.le_refl _) hb.size)
        have K2 := Lib.hid (d4.keep (w' := wr.drew) (lo' := 0) (hi' := wr.drew.heap.size) AtomE.stays (fun _ _ _ => rfl) (Nat.le_refl _) hb.size)
        have K3 := Lib.hid (f2.keep (w' := wr.drew) (lo' := 0) (hi' := wr.drew.heap.size) AtomE.stays (fun _ _ _ => rfl) (Nat.le_refl _) hb.size)
        have K4 := Lib.hid (f4.keep (w' := wr.drew) (lo' := 0) (hi' := wr.drew.heap.size) AtomE.stays (fun _ _ _ => rfl) (Nat.le_refl _) hb.size)
        clear d2 d4 f2 f4
        have hbd := hb.drew
        go_wp2_with fail
        go_region_with (go_at_call 43; refine (eqChange_any _ _ _ _ _ _ _ _ _ _ _ _ q.1 q.2 q'.1 q'.2 _ K1.out K2.out K3.out K4.out).mono ?_; rintro e w1 ⟨rfl, hb1⟩)
        all_goals go_wp2
        all_goals first
          | (go_ret; exact ⟨retB (listEq_no HG.out HG'.out HD.out (by assumption)), belowThen hbd hb1⟩)
          | (go_roundw
             case rel => exact ⟨k + 1, by omega, by go_num, listEq_on HG.out HG'.out HD.out (by assumption), belowThen hbd hb1⟩
             case measure => simp [intOf]; omega)
      · have hl := Lib.hid H.out.1
        have hl' := Lib.hid H'.out.1
        go_wp2
        go_ret
        exact ⟨retB (listEq_end hl.out hl'.out HD.out hlt), hb⟩
  · have hlen : xs.length ≠ ys.length := by rw [H.out.1, H'.out.1]; exact hne
    go_enter Tryz.func17, Tryz.ntmps17
    go_wp2
    go_ret
    exact ⟨retB (listEq_len hlen).symm, Below.refl _ _⟩

section
variable {W W' : World} {lo hi base n c : Nat} {A : Option Addr} {xs : List Cf}

/-- How a row of changes in memory of their own reads. -/
theorem chs_of_row (hrow : W.ownsRow lo 25 2 (.slice A xs.length c) xs.length (ccells xs)) (ho : OwnCs W lo W.heap.size (Value.slice A xs.length c).ownBlock xs) : IsChs W 0 W.heap.size A xs.length c (xs.map cfAt) := by
  rcases hrow.2 with ⟨e, h0⟩ | ⟨g, cap, cur, e, hb, hgb, hle, hcap, hsz, htk⟩
  · injection e with e1 e2 e3
    subst e1; subst e3
    exact ⟨List.length_map _, by omega, by unfold maxLen; omega, fun hp => by omega⟩
  · injection e with e1 e2 e3
    subst e1; subst e3
    have hlt := (Array.getElem?_eq_some_iff.1 hgb).1
    refine ⟨List.length_map _, hle, hcap, fun _ => ⟨_, rfl, Nat.zero_le _, hlt, fun i x hx => ?_⟩⟩
    rw [List.getElem?_map] at hx
    obtain ⟨f, hf, rfl⟩ := Option.map_eq_some_iff.1 hx
    have hi := (List.getElem?_eq_some_iff.1 hf).1
    obtain ⟨y0, y1⟩ := ccells_at hf
    have a0 : ∀ j, (⟨g, 0, none⟩ : Addr).add j = ⟨g, j, none⟩ := fun j => by unfold Addr.add; split <;> simp_all
    have hc : ∀ j u, (ccells xs)[j]? = some u → W.cell? ⟨g, j, none⟩ = some u := fun j u hu => by
      have hj := (List.getElem?_eq_some_iff.1 hu).1
      rw [ccells_len] at hj
      rw [← htk, List.getElem?_take, if_pos (by omega)] at hu
      unfold World.cell?
      rw [hgb]
      simpa using hu
    obtain ⟨o1, o2, o3, _⟩ := ho.own f (List.mem_of_getElem? hf)
    have k1 := o1.h1; have k2 := o1.h2
    rw [a0]
    exact ⟨⟨_, _, _, hc _ _ y0, o1.a.atoms.keep AtomE.stays (fun _ _ _ => rfl) (Nat.zero_le _) (by omega)⟩, ⟨_, _, _, hc _ _ y1, o1.b.atoms.keep AtomE.stays (fun _ _ _ => rfl) (Nat.zero_le _) (by omega)⟩⟩

/-- The change at a place of such a row. -/
theorem row_at (hrow : W.ownsRow lo 25 2 (.slice A xs.length c) xs.length (ccells xs)) {k : Nat} (hk : k < xs.length) : ∃ g x, A = some ⟨g, 0, none⟩ ∧ lo ≤ g ∧ xs[k]? = some x ∧ W.cell? ⟨g, k * 2, none⟩ = some (cfV x) ∧ W.cell? ⟨g, k * 2 + 1, none⟩ = some (cfU x) ∧ xs.length ≤ c ∧ c ≤ maxLen := by
  rcases hrow.2 with ⟨e, h0⟩ | ⟨g, cap, cur, e, hb, hgb, hle, hcap, hsz, htk⟩
  · omega
  · injection e with e1 e2 e3
    subst e1; subst e3
    have hf : xs[k]? = some xs[k] := List.getElem?_eq_getElem hk
    obtain ⟨y0, y1⟩ := ccells_at hf
    have hc : ∀ j u, (ccells xs)[j]? = some u → W.cell? ⟨g, j, none⟩ = some u := fun j u hu => by
      have hj := (List.getElem?_eq_some_iff.1 hu).1
      rw [ccells_len] at hj
      rw [← htk, List.getElem?_take, if_pos (by omega)] at hu
      unfold World.cell?
      rw [hgb]
      simpa using hu
    exact ⟨g, xs[k], rfl, hb, hf, hc _ _ y0, hc _ _ y1, hle, hcap⟩
end

/-- Marks of a list of changes. -/
def markCN (k : Nat) : List Cf → Nat
  | [] => k
  | x :: r => markCN (markN (markN k x.ra) x.rb) r
def markCf (k : Nat) (x : Cf) : Cf := { x with ra := markRs k x.ra, rb := markRs (markN k x.ra) x.rb }
def markCs (k : Nat) : List Cf → List Cf
  | [] => []
  | x :: r => markCf k x :: markCs (markN (markN k x.ra) x.rb) r

theorem markCN_snoc : ∀ (k : Nat) (l : List Cf) (x : Cf), markCN k (l ++ [x]) = markN (markN (markCN k l) x.ra) x.rb
  | _, [], _ => rfl
  | _, _ :: l, x => markCN_snoc _ l x
theorem markCs_snoc : ∀ (k : Nat) (l : List Cf) (x : Cf), markCs k (l ++ [x]) = markCs k l ++ [markCf (markCN k l) x]
  | _, [], _ => rfl
  | k, y :: l, x => by
    show markCf k y :: markCs _ (l ++ [x]) = _
    rw [markCs_snoc _ l x]; rfl
theorem markCs_len : ∀ (k : Nat) (l : List Cf), (markCs k l).length = l.length
  | _, [] => rfl
  | _, _ :: l => by show (markCs _ l).length + 1 = _; rw [markCs_len]; rfl
theorem markCN_ge : ∀ (k : Nat) (l : List Cf), k ≤ markCN k l
  | _, [] => Nat.le_refl _
  | k, x :: l => Nat.le_trans (Nat.le_trans (markN_ge k x.ra) (markN_ge _ x.rb)) (markCN_ge _ l)
theorem markCN_app : ∀ (k : Nat) (l m : List Cf), markCN k (l ++ m) = markCN (markCN k l) m
  | _, [], _ => rfl
  | _, _ :: l, m => markCN_app _ l m
theorem markCs_app : ∀ (k : Nat) (l m : List Cf), markCs k (l ++ m) = markCs k l ++ markCs (markCN k l) m
  | _, [], _ => rfl
  | k, x :: l, m => by show markCf k x :: markCs _ (l ++ m) = _; rw [markCs_app _ l m]; rfl
theorem markCN_le (M : Nat) : ∀ (k : Nat) (l : List Cf), (∀ x ∈ l, ∀ j, markN (markN j x.ra) x.rb ≤ j + M) → markCN k l ≤ k + l.length * M
  | k, [], _ => by simp [markCN]
  | k, x :: l, h => by
    have h1 := markCN_le M (markN (markN k x.ra) x.rb) l (fun y hy => h y (by simp [hy]))
    have h2 := h x (by simp) k
    show markCN _ l ≤ _
    rw [List.length_cons, Nat.add_mul, Nat.one_mul]
    omega
theorem cfV_mark (k : Nat) (x : Cf) : cfV (markCf k x) = cfV x := by unfold cfV markCf; simp [markRs_len]
theorem cfU_mark (k : Nat) (x : Cf) : cfU (markCf k x) = cfU x := by unfold cfU markCf; simp [markRs_len]
theorem ccells_mark : ∀ (k : Nat) (l : List Cf), ccells (markCs k l) = ccells l
  | _, [] => rfl
  | k, x :: l => by
    show [cfV (markCf k x), cfU (markCf k x)] ++ ccells (markCs _ l) = [cfV x, cfU x] ++ ccells l
    rw [cfV_mark, cfU_mark, ccells_mark]

/-- One change of a list is marked: the others stay. -/
theorem OwnCs.turn {W W' : World} {lo hi : Nat} {r : Option Nat} {l1 l2 : List Cf} {x x' : Cf} (h : OwnCs W lo hi r (l1 ++ x :: l2)) (hw : Within x.lo x.hi W W') (ho : OwnCf W' x') (e1 : x'.lo = x.lo) (e2 : x'.hi = x.hi) (hh : hi ≤ W.heap.size) : OwnCs W' lo hi r (l1 ++ x' :: l2) := by
  have hp := h.on
  rw [List.pairwise_append, List.pairwise_cons] at hp
  refine ⟨fun y hy => ?_, ?_⟩
  · rcases List.mem_append.1 hy with hy | hy
    · obtain ⟨a, b, c, d⟩ := h.own y (List.mem_append_left _ hy)
      have := hp.2.2 y hy x (by simp)
      exact ⟨a.keep (fun g g1 g2 => hw.block g (by omega) (.inl (by omega))), b, c, d⟩
    · rcases List.mem_cons.1 hy with rfl | hy
      · obtain ⟨_, b, c, d⟩ := h.own x (by simp)
        exact ⟨ho, by omega, by omega, fun g hg => by rw [e1, e2]; exact d g hg⟩
      · obtain ⟨a, b, c, d⟩ := h.own y (by simp [hy])
        have := hp.2.1.1 y hy
        exact ⟨a.keep (fun g g1 g2 => hw.block g (by omega) (.inr (by omega))), b, c, d⟩
  · rw [List.pairwise_append, List.pairwise_cons]
    refine ⟨hp.1, ⟨fun y hy => by rw [e2]; exact hp.2.1.1 y hy, hp.2.1.2⟩, fun y hy z hz => ?_⟩
    rcases List.mem_cons.1 hz with rfl | hz
    · rw [e1]; exact hp.2.2 y hy x (by simp)
    · exact hp.2.2 y hy z (by simp [hz])

end Go.Proofs.YtogonjkklioaaaaGreatDoor

namespace Go.Proofs.YtogonjkklioaaaaGreatDoor
open Go.RowKit

/-- A change as it lies somewhere. -/
structure Sx where
  lo : Nat
  hi : Nat
  A : Option Addr
  n : Nat
  c : Nat
  xs : List At
  B : Option Addr
  m : Nat
  d : Nat
  ys : List At

def sAt (x : Sx) : Ch := (x.xs, x.ys)
def scells (xs : List Sx) : List Value := xs.flatMap fun x => [.slice x.A x.n x.c, .slice x.B x.m x.d]

theorem scells_len : ∀ xs : List Sx, (scells xs).length = xs.length * 2
  | [] => rfl
  | x :: xs => by
    have h := scells_len xs
    unfold scells at h ⊢
    rw [List.flatMap_cons, List.length_append, h, List.length_cons]
    simp only [List.length_cons, List.length_nil]; omega

theorem scells_snoc (xs : List Sx) (x : Sx) : scells (xs ++ [x]) = scells xs ++ [.slice x.A x.n x.c, .slice x.B x.m x.d] := by
  unfold scells; rw [List.flatMap_append, List.flatMap_singleton]

theorem scells_at : ∀ {xs : List Sx} {i : Nat} {x : Sx}, xs[i]? = some x → (scells xs)[i * 2]? = some (.slice x.A x.n x.c) ∧ (scells xs)[i * 2 + 1]? = some (.slice x.B x.m x.d)
  | [], i, x, h => by simp at h
  | y :: xs, 0, x, h => by
    simp at h; subst h
    exact ⟨rfl, rfl⟩
  | y :: xs, i + 1, x, h => by
    obtain ⟨a, b⟩ := scells_at (xs := xs) (i := i) (x := x) (by simpa using h)
    have e : scells (y :: xs) = .slice y.A y.n y.c :: .slice y.B y.m y.d :: scells xs := rfl
    rw [e, show (i + 1) * 2 = i * 2 + 1 + 1 by omega]
    exact ⟨by simpa using a, by simpa using b⟩

def OwnSx (W : World) (x : Sx) : Prop := IsAtoms W x.lo x.hi x.A x.n x.c x.xs ∧ IsAtoms W x.lo x.hi x.B x.m x.d x.ys

theorem OwnSx.keep {W W' : World} {x : Sx} (h : OwnSx W x) (hk : ∀ b, x.lo ≤ b → b < x.hi → W'.heap[b]? = W.heap[b]?) : OwnSx W' x :=
  ⟨h.1.keep AtomE.stays (fun q h1 h2 => World.cell?_of_block (hk q.block h1 h2)) (Nat.le_refl _) (Nat.le_refl _), h.2.keep AtomE.stays (fun q h1 h2 => World.cell?_of_block (hk q.block h1 h2)) (Nat.le_refl _) (Nat.le_refl _)⟩

/-- The list in the making: its row lies in a, or behind b. -/
structure LS (w : World) (a b : Nat) (v : Value) (xs : List Sx) (W : World) : Prop where
  K : W.ownsRow a 25 2 v xs.length (scells xs)
  O : ∀ x ∈ xs, OwnSx W x ∧ x.hi ≤ W.heap.size ∧ ∀ g, v.ownBlock = some g → g < x.lo ∨ x.hi ≤ g
  far : ∀ g, v.ownBlock = some g → g = a ∨ b ≤ g
  h0 : w.heap.size ≤ a
  h1 : b ≤ W.heap.size
  gr : Below w.heap.size w W

section
variable {w W W' W9 : World} {a b : Nat} {v : Value} {xs : List Sx} {x : Sx} {ob : Obj} {g' m cap : Nat}

theorem LS.below (h : LS w a b v xs W) (hb : Below W.heap.size W W') : LS w a b v xs W' := by
  have hs := h.gr.size; have hbs := hb.size
  exact ⟨ownsRow_up h.K hb, fun x hx => by
    obtain ⟨o1, o2, o3⟩ := h.O x hx
    exact ⟨o1.keep (fun b _ h2 => hb.block b (by omega)), by omega, o3⟩, h.far, h.h0, Nat.le_trans h.h1 hbs, h.gr.trans (hb.mono hs)⟩

/-- One more. -/
theorem LS.more (h : LS w a b v xs W) (ho : OwnSx W x) (h2 : x.hi ≤ W.heap.size) (hr : ∀ g, v.ownBlock = some g → g < x.lo)
    (hown : W9.ownsRow a 25 2 (.slice (some ⟨g', 0, none⟩) m cap) (xs.length + 1) (scells xs ++ [.slice x.A x.n x.c, .slice x.B x.m x.d])) (hgrow : (W.alloc ob).grownBy W9 v.ownBlock) (hat : v.ownBlock = some g' ∨ g' = W.heap.size + 1) :
    LS w a b (.slice (some ⟨g', 0, none⟩) m cap) (xs ++ [x]) W9 := by
  have hb1 := below1 W ob
  have hbs : (W.alloc ob).heap.size = W.heap.size + 1 := by simp
  have hA := h.below hb1
  have hgs := hgrow.size; have hs := h.gr.size; have hh1 := h.h1; have hh0 := h.h0
  refine ⟨by rw [List.length_append, scells_snoc]; exact hown, fun y hy => ?_, fun g e => ?_, h.h0, by omega, ?_⟩
  · have hy1 : OwnSx W9 y ∧ y.hi ≤ W.heap.size ∧ ∀ g, v.ownBlock = some g → g < y.lo ∨ y.hi ≤ g := by
      rcases List.mem_append.1 hy with hy | hy
      · obtain ⟨o1, o2, o3⟩ := h.O y hy
        exact ⟨o1.keep (fun c c1 c2 => (hgrow.block c (by omega) (fun e => by rcases o3 c e.symm with h | h <;> omega)).trans (hb1.block c (by omega))), o2, o3⟩
      · rw [List.mem_singleton.1 hy]
        exact ⟨ho.keep (fun c c1 c2 => (hgrow.block c (by omega) (fun e => by have := hr c e.symm; omega)).trans (hb1.block c (by omega))), h2, fun g e => .inl (hr g e)⟩
    obtain ⟨o1, o2, o3⟩ := hy1
    refine ⟨o1, by omega, fun g e => ?_⟩
    simp [Value.ownBlock] at e
    subst e
    rcases hat with e | e
    · exact o3 _ e
    · right; omega
  · simp [Value.ownBlock] at e
    subst e
    rcases hat with e | e
    · exact h.far _ e
    · right; omega
  · exact ⟨hgrow.os.trans hA.gr.os, hgrow.tape.trans hA.gr.tape, hgrow.output.trans hA.gr.output, by omega, fun k hk => (hgrow.block k (by omega) (fun e => by have := (h.K.lt k e.symm).1; omega)).trans (hA.gr.block k hk)⟩

/-- How it reads. -/
theorem LS.chs {A : Option Addr} {c : Nat} (h : LS w a b (.slice A xs.length c) xs W) : IsChs W 0 W.heap.size A xs.length c (xs.map sAt) := by
  rcases h.K.2 with ⟨e, h0⟩ | ⟨g, cap, cur, e, hb, hgb, hle, hcap, hsz, htk⟩
  · injection e with e1 e2 e3
    subst e1; subst e3
    exact ⟨List.length_map _, by omega, by unfold maxLen; omega, fun hp => by omega⟩
  · injection e with e1 e2 e3
    subst e1; subst e3
    have hlt := (Array.getElem?_eq_some_iff.1 hgb).1
    refine ⟨List.length_map _, hle, hcap, fun _ => ⟨_, rfl, Nat.zero_le _, hlt, fun i x hx => ?_⟩⟩
    rw [List.getElem?_map] at hx
    obtain ⟨f, hf, rfl⟩ := Option.map_eq_some_iff.1 hx
    have hi := (List.getElem?_eq_some_iff.1 hf).1
    obtain ⟨y0, y1⟩ := scells_at hf
    have a0 : ∀ j, (⟨g, 0, none⟩ : Addr).add j = ⟨g, j, none⟩ := fun j => by unfold Addr.add; split <;> simp_all
    have hc : ∀ j u, (scells xs)[j]? = some u → W.cell? ⟨g, j, none⟩ = some u := fun j u hu => by
      have hj := (List.getElem?_eq_some_iff.1 hu).1
      rw [scells_len] at hj
      rw [← htk, List.getElem?_take, if_pos (by omega)] at hu
      unfold World.cell?
      rw [hgb]
      simpa using hu
    obtain ⟨o1, o2, _⟩ := h.O f (List.mem_of_getElem? hf)
    rw [a0]
    exact ⟨⟨_, _, _, hc _ _ y0, o1.1.keep AtomE.stays (fun _ _ _ => rfl) (Nat.zero_le _) o2⟩, ⟨_, _, _, hc _ _ y1, o1.2.keep AtomE.stays (fun _ _ _ => rfl) (Nat.zero_le _) o2⟩⟩
end

/-- What was read of a log, and what is left of it, in lines. -/
structure Readx (l : List UInt8) (ws : List (List UInt8)) (cs : List Ch) (n : Nat) : Prop where
  le : ∃ r, l = logL 0 cs ++ r ∧ cuts 10 r = ws
  ok : ∀ c ∈ cs, okC c
  n : n = (logL 0 cs).length

theorem Readx.start (l : List UInt8) : Readx l (cuts 10 l) [] 0 := ⟨⟨l, rfl, rfl⟩, fun c h => by simp at h, rfl⟩

theorem Readx.split {l x : List UInt8} {ws : List (List UInt8)} {cs : List Ch} {n : Nat} (h : Readx l (x :: ws) cs n) (hw : ws ≠ []) : ∃ r, l = logL 0 cs ++ (x ++ 10 :: r) ∧ cuts 10 r = ws ∧ (10 : UInt8) ∉ x := by
  obtain ⟨r, h1, h2⟩ := h.le
  rcases first_of 10 r with h3 | ⟨y, q, rfl, h3⟩
  · rw [cuts_none h3] at h2
    injection h2 with _ h4
    exact absurd h4.symm hw
  · rw [cuts_first h3] at h2
    injection h2 with h4 h5
    subst h4
    exact ⟨q, h1, h5, h3⟩

theorem Readx.more {l x : List UInt8} {ws : List (List UInt8)} {cs : List Ch} {c : Ch} {n : Nat} (h : Readx l (x :: ws) cs n) (hw : ws ≠ []) (hc : okC c) (hx : x = recL cs.length (chC c)) : Readx l ws (cs ++ [c]) (n + x.length + 1) := by
  obtain ⟨r, h1, h2, _⟩ := h.split hw
  refine ⟨⟨r, ?_, h2⟩, fun d hd => ?_, ?_⟩
  · rw [h1, logL_snoc, Nat.zero_add, line_body, ← hx]; simp
  · rcases List.mem_append.1 hd with hd | hd
    · exact h.ok d hd
    · rw [List.mem_singleton.1 hd]; exact hc
  · rw [logL_snoc, Nat.zero_add, line_body, ← hx, h.n]
    simp only [List.length_append, List.length_cons, List.length_nil]; omega

theorem Readx.stop {l x : List UInt8} {ws : List (List UInt8)} {cs : List Ch} {n : Nat} (h : Readx l (x :: ws) cs n) (hw : ws ≠ []) (hno : ∀ c, okC c → x ≠ recL cs.length (chC c)) : LogOf l cs := by
  obtain ⟨r, h1, h2, h3⟩ := h.split hw
  refine ⟨h.ok, by rw [h1]; exact List.prefix_append _ _, fun c q hc he => hno c hc ?_⟩
  rw [h1] at he
  have h4 := List.append_cancel_left he
  have h5 : cuts 10 (x ++ 10 :: r) = cuts 10 (recL cs.length (chC c) ++ 10 :: q) := by rw [h4, line_body]; simp
  have h6 : (10 : UInt8) ∉ chC c := ch_no_ten hc
  rw [cuts_first h3, cuts_first (body_no_ten h6)] at h5
  injection h5

theorem Readx.last {l x : List UInt8} {cs : List Ch} {n : Nat} (h : Readx l [x] cs n) : LogOf l cs := by
  obtain ⟨r, h1, h2⟩ := h.le
  refine ⟨h.ok, by rw [h1]; exact List.prefix_append _ _, fun c q hc he => ?_⟩
  rw [h1] at he
  have h4 := List.append_cancel_left he
  have h5 : cuts 10 r = cuts 10 (recL cs.length (chC c) ++ 10 :: q) := by rw [h4, line_body]; simp
  have h6 : (10 : UInt8) ∉ chC c := ch_no_ten hc
  rw [cuts_first (body_no_ten h6), h2] at h5
  injection h5 with _ h7
  rw [cuts_eq] at h7
  cases h7

/-- A list of changes was told, in the model. -/
def LogSPost (l : List UInt8) (w : World) (e : Ending) (w' : World) : Prop :=
  ∃ (A : Option Addr) (n c : Nat) (cs : List Ch) (m : Nat), e = .returned (.tuple #[.slice A n c, .int .i64 (m : Int)]) ∧ IsChs w' 0 w'.heap.size A n c cs ∧ Below w.heap.size w w' ∧ LogR l cs m

set_option maxRecDepth 100000 in
set_option maxHeartbeats 4000000 in
theorem specLogGet_any (s : ByteArray) (w : World) (hs : s.size ≤ 1048576) :
    Calls Tryz.prog 15 #[.string s] w (LogSPost s.data.toList w) := by
  obtain ⟨i0, hi, hz, hsz, hby⟩ := info_parts2 Tryz.infoCh
  have HI := Lib.hid hi; have HZ := Lib.hid hz; have HSZ := Lib.hid hsz; have HYY := Lib.hid hby
  clear hi hz hsz hby
  have hsl : s.data.toList.length = s.size := by simp
  have hb0 := below1 w (.cells #[] 25)
  have R0 := own_empty w 25 w.heap.size (Nat.le_refl _)
  obtain ⟨w1, hw1⟩ : ∃ w1, w.alloc (.cells #[] 25) = w1 := ⟨_, rfl⟩
  have hz1 : w1.heap.size = w.heap.size + 1 := by rw [← hw1]; simp
  rw [hw1] at hb0 R0
  have HW1 := Lib.hid hw1
  clear hw1
  go_enter Tryz.func15, Tryz.ntmps15
  by_cases hbig : 400000 < s.size
  · have hbI : (400000 : Int) < (s.size : Int) := by omega
    go_wp2_with (rw [HW1.out])
    refine bodyPost_ret (v := .tuple #[.slice (some ⟨w.heap.size, 0, none⟩) 0 0, .int .i64 0]) (by simp [results, Tryz.results15, go_sem]) rfl ⟨_, 0, 0, [], 0, rfl, ⟨rfl, Nat.le_refl _, by unfold maxLen; omega, fun hp => by omega⟩, hb0, .inr ⟨by omega, rfl, rfl⟩⟩
  · have hbI : ¬ (400000 : Int) < (s.size : Int) := by omega
    have L1 : LS w w.heap.size w1.heap.size (.slice (some ⟨w.heap.size, 0, none⟩) ([] : List Sx).length 0) [] w1 := ⟨R0, fun x hx => by simp at hx, fun g e => by simp [Value.ownBlock] at e; exact .inl e.symm, Nat.le_refl _, Nat.le_refl _, hb0⟩
    have HL1 := Lib.hid L1
    clear hb0 R0 L1
    obtain ⟨ws, hws⟩ : ∃ x, cutsB 10 s = x := ⟨_, rfl⟩
    have hwl : ws.length ≤ s.size + 1 := by rw [← hws]; exact cutsB_len 10 s
    have hwd : ws.map (fun x => x.data.toList) = cuts 10 s.data.toList := by rw [← hws]; exact cutsB_data 10 s
    have hwz : ∀ x ∈ ws, x.size ≤ 400000 := fun x hx => Nat.le_trans (cutsB_size (c := 10) (s := s) (by rw [hws]; exact hx)) (by omega)
    have hw0 : 0 < ws.length := by
      have h1 := congrArg List.length hwd
      rw [cuts_eq] at h1
      simp at h1; omega
    have HWS := Lib.hid hws; have HWD := Lib.hid hwd; have HWZ := Lib.hid hwz
    clear hws hwd hwz
    go_wp2_with (rw [HW1.out])
    refine (l1Cut_any s 10 w1 hs).mono ?_; rintro e w3 ⟨pp, d3, rfl, hT3, hb3⟩
    rw [HWS.out] at hT3 ⊢
    have hz3 := hb3.size
    have HT3 := Lib.hid hT3
    have L3' := HL1.out.below hb3
    have HL3 := Lib.hid (show LS w w.heap.size w3.heap.size (.slice (some ⟨w.heap.size, 0, none⟩) ([] : List Sx).length 0) [] w3 from ⟨L3'.K, L3'.O, fun g e => by simp [Value.ownBlock] at e; exact .inl e.symm, L3'.h0, Nat.le_refl _, L3'.gr⟩)
    clear hT3 hb3 HL1 L3'
    go_wp2_with fail
    go_loopw [4, 5, 7] (fun o n i wr => ∃ (k m : Nat) (A : Option Addr) (c : Nat) (xs : List Sx), k + 1 ≤ ws.length ∧ i = .int .i64 (k : Int) ∧ n = .int .i64 (m : Int) ∧ o = .slice A xs.length c ∧ xs.length = k ∧ m ≤ s.size ∧ LS w w.heap.size w3.heap.size (.slice A xs.length c) xs wr ∧ Readx s.data.toList ((ws.map (fun x => x.data.toList)).drop k) (xs.map sAt) m ∧ ∀ b, w1.heap.size ≤ b → b < w3.heap.size → wr.heap[b]? = w3.heap[b]?) (fun _ _ i _ => ws.length - (intOf i).toNat)
    case atStart => exact ⟨0, 0, _, _, [], by omega, rfl, rfl, rfl, rfl, Nat.zero_le _, HL3.out, by rw [HWD.out]; exact Readx.start _, fun _ _ _ => rfl⟩
    case round =>
      obtain ⟨_, m, A, c, xs, hk, rfl, rfl, rfl, rfl, hms, hL, hR, hkeep⟩ := hrel
      clear HL3
      have HL := Lib.hid hL; have HR := Lib.hid hR; have HK := Lib.hid hkeep
      have hT := HT3.out.keep TextE.stays (fun q h1 h2 => World.cell?_of_block (hkeep q.block h1 h2)) (Nat.le_refl _) (Nat.le_refl _)
      have hwk : IntKind.i64.wrap ((xs.length : Int) + 1) = ((xs.length + 1 : Nat) : Int) := by rw [IntKind.wrap_i64]; omega
      have hbl := hL.h1
      clear hL hR hkeep
      by_cases hlt : xs.length + 1 < ws.length
      · have hltI : ((xs.length + 1 : Nat) : Int) < (ws.length : Int) := by omega
        have hkI : (xs.length : Int) < (ws.length : Int) := by omega
        obtain ⟨p, x, hA1, hlo, hhi, hg, hE⟩ := hT.at_ (show xs.length < ws.length by omega)
        injection hA1 with hA1
        subst hA1
        have cE : wr.cell? (pp.add (xs.length * 1)) = some (.string x) := hE
        have cE2 : wr.cell? (pp.add xs.length) = some (.string x) := by rw [Nat.mul_one] at cE; exact cE
        have hxz : x.size ≤ 400000 := HWZ.out x (List.mem_of_getElem? hg)
        have hgd : (ws.map (fun x => x.data.toList))[xs.length]? = some x.data.toList := by rw [List.getElem?_map, hg]; rfl
        have hdr : (ws.map (fun x => x.data.toList)).drop xs.length = x.data.toList :: (ws.map (fun x => x.data.toList)).drop (xs.length + 1) := by
          obtain ⟨h1, h2⟩ := List.getElem?_eq_some_iff.1 hgd
          rw [← h2]; exact List.drop_eq_getElem_cons h1
        have hne : (ws.map (fun x => x.data.toList)).drop (xs.length + 1) ≠ [] := fun e => by
          have := congrArg List.length e
          rw [List.length_drop, List.length_map] at this
          simp at this; omega
        have HR2 := Lib.hid (show Readx s.data.toList (x.data.toList :: (ws.map (fun x => x.data.toList)).drop (xs.length + 1)) (xs.map sAt) m by rw [← hdr]; exact HR.out)
        have HNE := Lib.hid hne
        have hk1 : xs.length ≤ 100000 := by
          obtain ⟨r, h1, _⟩ := HR.out.le
          have h2 := logL_len 0 (xs.map sAt)
          have h3 := congrArg List.length h1
          rw [List.length_append] at h3
          rw [List.length_map] at h2
          omega
        have hxl : x.data.toList.length = x.size := by simp
        clear hT hE hg hgd hdr hne HR
        have cW : ∀ W : World, (∀ b, w1.heap.size ≤ b → b < w3.heap.size → W.heap[b]? = wr.heap[b]?) → W.cell? (pp.add xs.length) = some (.string x) := fun W hW => by
          have hbp : (pp.add xs.length).block = pp.block := by unfold Addr.add; split <;> rfl
          exact (World.cell?_of_block (hW _ (by rw [hbp]; exact hlo) (by rw [hbp]; exact hhi))).trans cE2
        have HCW := Lib.hid cW
        clear cW
        go_wp2_with fail
        refine (specNext_any x xs.length wr hxz hk1).mono ?_; rintro e w5 ⟨A5, n5, c5, us, B5, m5, d5, vs, ok, rfl, hI, hJ, hb5, hy, hno⟩
        have hz5 := hb5.size
        have hbx := below1 w5 (.cells #[.slice A5 n5 c5, .slice B5 m5 d5] 25)
        obtain ⟨W5, hW5⟩ : ∃ W5, w5.alloc (.cells #[.slice A5 n5 c5, .slice B5 m5 d5] 25) = W5 := ⟨_, rfl⟩
        have hzz : w5.heap.size ≤ W5.heap.size := by rw [← hW5]; simp
        have X5 : Blk W5 w5.heap.size 25 #[.slice A5 n5 c5, .slice B5 m5 d5] := by rw [← hW5]; exact Blk.new w5 _ _
        rw [hW5] at hbx
        have hbb := belowThen hb5 hbx
        have HL5 := Lib.hid (HL.out.below hbb)
        have HO5 := Lib.hid (show OwnSx W5 ⟨wr.heap.size, w5.heap.size, A5, n5, c5, us, B5, m5, d5, vs⟩ from ⟨hI.keep AtomE.stays (fun q _ h2 => hbx.cell (p := q) h2) (Nat.le_refl _) (Nat.le_refl _), hJ.keep AtomE.stays (fun q _ h2 => hbx.cell (p := q) h2) (Nat.le_refl _) (Nat.le_refl _)⟩)
        have HY := Lib.hid hy; have HN := Lib.hid hno; have HBB := Lib.hid hbb; have HW5 := Lib.hid hW5
        have x0 : W5.cell? ⟨w5.heap.size, 0, none⟩ = some (.slice A5 n5 c5) := X5.cell 0
        have x1 : W5.cell? ⟨w5.heap.size, 1, none⟩ = some (.slice B5 m5 d5) := X5.cell 1
        clear hI hJ hb5 hy hno hbx hbb hW5 X5
        cases ok
        · have hst := HR2.out.stop HNE.out (fun c hc => by rw [List.length_map]; exact HN.out (by first | rfl | trivial) c hc)
          have HST := Lib.hid hst
          clear hst
          go_wp2_with (rw [HW5.out])
          refine bodyPost_ret (v := .tuple #[.slice A xs.length c, .int .i64 (m : Int)]) (by simp [results, Tryz.results15, go_sem]) rfl ⟨A, _, c, xs.map sAt, m, rfl, HL5.out.chs, HL5.out.gr, .inl ⟨by omega, HST.out, HR2.out.n⟩⟩
        · obtain ⟨hok, hrec⟩ := HY.out (by first | rfl | trivial)
          have hmore := HR2.out.more HNE.out (c := (us, vs)) hok (by rw [List.length_map]; exact hrec)
          rw [hxl] at hmore
          have hms2 : m + x.size + 1 ≤ s.size := by
            obtain ⟨r, h1, _⟩ := hmore.le
            have h3 := congrArg List.length h1
            rw [List.length_append, ← hmore.n] at h3
            omega
          have hq1 : IntKind.i64.wrap ((m : Int) + (x.size : Int)) = ((m + x.size : Nat) : Int) := by rw [IntKind.wrap_i64]; omega
          have hq2 : IntKind.i64.wrap (((m + x.size : Nat) : Int) + 1) = ((m + x.size + 1 : Nat) : Int) := by rw [IntKind.wrap_i64]; omega
          have HM := Lib.hid hmore
          clear hok hrec hmore
          go_wp2_with (first
            | rw [HW5.out]
            | (at_builtin; refine wpList_append_lies _ rfl _ _ 34 rfl w.heap.size 25 i0 _ 2 48 Tryz.underlying34 HI.out HZ.out HSZ.out HYY.out rfl (by decide) _ _ _ rfl (HL5.out.K.alloc _) ⟨W5.heap.size, 0, none⟩ 1 1 [.slice A5 n5 c5, .slice B5 m5 d5] rfl rfl (two_new _ _ _ _) (by simp [Value.oneCell']) (by omega) (by unfold maxLen; omega) (by omega) (by simp; omega) (W5.heap.size + 1) (by simp) ?_; intro g' cap' w9 hown' hgrow' hat' _; have kk := (fun b h1 h2 => (hgrow'.block b (by simp; omega) (fun e => by rcases HL5.out.far b e.symm with h | h <;> omega)).trans (((below1 W5 (.cells #[.slice A5 n5 c5, .slice B5 m5 d5] 25)).block b (by omega)).trans (HBB.out.block b (by omega))) : ∀ b, w1.heap.size ≤ b → b < w3.heap.size → w9.heap[b]? = wr.heap[b]?); have cE9 := HCW.out w9 kk; have KK := Lib.hid kk; have hown := Lib.hid hown'; have hgrow := Lib.hid hgrow'; have hat := Lib.hid hat'; clear hown' hgrow' hat' kk))
          have hL9 := HL5.out.more (x := ⟨wr.heap.size, w5.heap.size, A5, n5, c5, us, B5, m5, d5, vs⟩) HO5.out (by show w5.heap.size ≤ _; omega) (fun g e => (HL.out.K.lt g e).2) hown.out hgrow.out hat.out
          go_roundw
          case rel => exact ⟨xs.length + 1, m + x.size + 1, some ⟨g', 0, none⟩, cap', xs ++ [⟨wr.heap.size, w5.heap.size, A5, n5, c5, us, B5, m5, d5, vs⟩], by omega, by go_num, rfl, by simp, by simp, hms2, by rw [List.length_append]; exact hL9, by rw [List.map_append]; exact HM.out, fun b h1 h2 => (KK.out b h1 h2).trans (HK.out b h1 h2)⟩
          case measure => simp [intOf]; omega
      · have hltI : ¬ ((xs.length + 1 : Nat) : Int) < (ws.length : Int) := by omega
        have hend : LogOf s.data.toList (xs.map sAt) := by
          have h1 := HR.out
          have h2 : ((ws.map (fun x => x.data.toList)).drop xs.length).length = 1 := by rw [List.length_drop, List.length_map]; omega
          obtain ⟨y, h3⟩ := List.length_eq_one_iff.1 h2
          rw [h3] at h1
          exact h1.last
        have HEND := Lib.hid hend
        clear hT hend
        go_wp2
        refine bodyPost_ret (v := .tuple #[.slice A xs.length c, .int .i64 (m : Int)]) (by simp [results, Tryz.results15, go_sem]) rfl ⟨A, _, c, xs.map sAt, m, rfl, HL.out.chs, HL.out.gr, .inl ⟨by omega, HEND.out, HR.out.n⟩⟩

end Go.Proofs.YtogonjkklioaaaaGreatDoor
