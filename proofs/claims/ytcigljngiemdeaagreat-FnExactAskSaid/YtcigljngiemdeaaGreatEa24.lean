/-
  Texts of one claim, put together.
-/
import Derived.Test.YtcigljngiemdeaaGreatTight
import Derived.Test.YtcigljngiemdeaaGreatEa21
import Derived.Test.YtcigljngiemdeaaGreatEa4
import Derived.Deep.RegionHeld3
import Derived.Test.YtcigljngiemdeaaGreatEa3
import Derived.Test.YtcigljngiemdeaaGreatDraw
import Derived.Test.YtcigljngiemdeaaGreatEa23
import Derived.Test.YtcigljngiemdeaaGreatEa2
import Derived.Test.YtcigljngiemdeaaGreatShelf2
import Derived.Test.YtcigljngiemdeaaGreatEq
import Derived.Test.YtcigljngiemdeaaGreatEa0
import Derived.Lib.Join
import Derived.Deep.OwnRows
namespace Go.Proofs.YtcigljngiemdeaaGreat
open Go.RowKit

theorem ltT_cmp (s t : ByteArray) : ltT s t = decide (Lib.compareBytes t.toList s.toList = -1) := (less_cmp _ _).1

theorem bytes_text {s t : ByteArray} (h : s.toList = t.toList) : s = t := by
  rw [Lib.toList_data, Lib.toList_data] at h
  cases s; cases t
  simp only [ByteArray.mk.injEq]
  exact Array.toList_inj.1 h

theorem ltT_trans {a b c : ByteArray} (h : ltT b a = true) (k : ltT c b = true) : ltT c a = true := by
  rw [ltT_cmp, decide_eq_true_eq] at *
  have h1 := bytes_on a.toList b.toList c.toList (by omega) (by omega)
  rcases cmp_range a.toList c.toList with e | e | e
  · exact e
  · have := bytes_same e
    rw [this] at h
    have := bytes_anti b.toList c.toList
    omega
  · omega

theorem ltT_irr (a : ByteArray) : ltT a a = false := by
  rw [ltT_cmp, bytes_self]; rfl

theorem ltT_total {s t : ByteArray} (h : ltT s t = false) (hne : t ≠ s) : ltT t s = true := by
  rw [ltT_cmp] at *
  rw [decide_eq_false_iff_not] at h
  rw [decide_eq_true_eq]
  have h1 := bytes_anti t.toList s.toList
  rcases cmp_range t.toList s.toList with e | e | e
  · exact absurd e h
  · exact absurd (bytes_text (bytes_same e)) hne
  · omega

/-- Each text is ahead of those behind it. -/
def InRow (ls : List ByteArray) : Prop := ls.Pairwise fun a b => ltT b a = true

theorem InRow.nodup {ls : List ByteArray} (h : InRow ls) : ls.Nodup := h.imp fun {a b} h e => by subst e; rw [ltT_irr] at h; cases h

theorem mem_putT {ls : List ByteArray} {s x : ByteArray} : x ∈ putT ls s ↔ x = s ∨ x ∈ ls := by
  unfold putT
  by_cases h : (ls.dropWhile (ltT s)).head? = some s
  · rw [if_pos h]
    refine ⟨.inr, fun e => e.elim (fun e => ?_) id⟩
    subst e
    exact (List.dropWhile_sublist _).subset (List.mem_of_head? h)
  · rw [if_neg h]
    have e := List.takeWhile_append_dropWhile (p := ltT s) (l := ls)
    conv => rhs; rw [← e]
    simp only [List.mem_append, List.mem_cons]
    exact ⟨fun h => by rcases h with h | h | h <;> simp [h], fun h => by rcases h with h | h | h <;> simp [h]⟩

theorem InRow.put {ls : List ByteArray} (h : InRow ls) (s : ByteArray) : InRow (putT ls s) := by
  unfold putT
  by_cases hs : (ls.dropWhile (ltT s)).head? = some s
  · rw [if_pos hs]; exact h
  · rw [if_neg hs]
    have e := List.takeWhile_append_dropWhile (p := ltT s) (l := ls)
    have h1 : InRow (ls.takeWhile (ltT s) ++ ls.dropWhile (ltT s)) := by rw [e]; exact h
    obtain ⟨p1, p2, p3⟩ := List.pairwise_append.1 h1
    have hlo : ∀ x ∈ ls.takeWhile (ltT s), ltT s x = true := fun x hx => by
      have := List.all_takeWhile (p := ltT s) (l := ls)
      exact List.all_eq_true.1 this x hx
    have hhi : ∀ x ∈ ls.dropWhile (ltT s), ltT x s = true := by
      cases hd : ls.dropWhile (ltT s) with
      | nil => intro x hx; simp at hx
      | cons t rest =>
        rw [hd] at hs p2
        have ht : ltT s t = false := by
          have := List.head?_dropWhile_not (ltT s) ls
          rw [hd] at this
          simpa using this
        have hts := ltT_total ht (fun e => hs (by rw [e]; rfl))
        intro x hx
        rcases List.mem_cons.1 hx with rfl | hx
        · exact hts
        · exact ltT_trans hts ((List.pairwise_cons.1 p2).1 x hx)
    refine List.pairwise_append.2 ⟨p1, List.pairwise_cons.2 ⟨hhi, p2⟩, fun a ha b hb => ?_⟩
    rcases List.mem_cons.1 hb with rfl | hb
    · exact hlo a ha
    · exact p3 a ha b hb

theorem mem_puts : ∀ {vs ls : List ByteArray} {x : ByteArray}, x ∈ vs.foldl putT ls ↔ x ∈ vs ∨ x ∈ ls
  | [], ls, x => by simp
  | v :: vs, ls, x => by
    rw [List.foldl_cons, mem_puts, mem_putT, List.mem_cons]
    exact ⟨fun h => by rcases h with h | h | h <;> simp [h], fun h => by rcases h with (h | h) | h <;> simp [h]⟩

theorem InRow.puts : ∀ {vs ls : List ByteArray}, InRow ls → InRow (vs.foldl putT ls)
  | [], _, h => h
  | v :: vs, ls, h => by rw [List.foldl_cons]; exact InRow.puts (vs := vs) (h.put v)

theorem partsT_all : ∀ (qs : List Pt) (ls : List ByteArray), partsT ls qs = (qs.flatMap fun q => varsOf q.2.2).foldl putT ls
  | [], _ => rfl
  | q :: qs, ls => by
    rw [List.flatMap_cons, List.foldl_append, ← partsT_all qs]; rfl

theorem varsOf_as (vs : List ByteArray) : varsOf (asVars vs) = vs := by
  unfold varsOf asVars
  induction vs with
  | nil => rfl
  | cons v vs ih => simpa using ih

theorem nodup_sub {α : Type} : ∀ {l m : List α}, l.Nodup → (∀ x ∈ l, x ∈ m) → l.length ≤ m.length
  | [], _, _, _ => Nat.zero_le _
  | a :: l, m, hn, hs => by
    obtain ⟨s, t, rfl⟩ := List.append_of_mem (hs a (List.mem_cons_self ..))
    have hc := List.nodup_cons.1 hn
    have := nodup_sub (m := s ++ t) hc.2 (fun x hx => by
      have h1 := hs x (List.mem_cons_of_mem _ hx)
      simp only [List.mem_append, List.mem_cons] at h1 ⊢
      rcases h1 with h1 | h1 | h1
      · exact .inl h1
      · subst h1; exact absurd hx hc.1
      · exact .inr h1)
    simp only [List.length_append, List.length_cons] at this ⊢
    omega

/-- By two counts, and by a search. -/
theorem tight_loose (nm : ByteArray) (qs : List Pt) : tightB (asVars (partsT [] qs)) qs = !looseB [((nm, []), qs)] (mvars qs) := by
  have hA : ∀ x, x ∈ partsT (varsT [] (asVars (partsT [] qs))) qs ↔ x ∈ qs.flatMap fun q => varsOf q.2.2 := by
    intro x
    unfold varsT
    rw [varsOf_as, partsT_all, partsT_all, mem_puts, mem_puts, mem_puts]
    simp
  have hB : ∀ x, x ∈ partsT [] (musts qs) ↔ x ∈ mvars qs := by
    intro x
    rw [partsT_all, mem_puts]
    unfold mvars
    simp
  have nA : (partsT (varsT [] (asVars (partsT [] qs))) qs).Nodup := by rw [partsT_all]; exact (InRow.puts (InRow.puts List.Pairwise.nil)).nodup
  have nB : (partsT [] (musts qs)).Nodup := by rw [partsT_all]; exact (InRow.puts List.Pairwise.nil).nodup
  have hsub : ∀ x ∈ partsT [] (musts qs), x ∈ partsT (varsT [] (asVars (partsT [] qs))) qs := by
    intro x hx
    rw [hB] at hx
    rw [hA]
    unfold mvars musts at hx
    obtain ⟨q, hq, hx⟩ := List.mem_flatMap.1 hx
    exact List.mem_flatMap.2 ⟨q, (List.mem_filter.1 hq).1, hx⟩
  have hat : atsOf [((nm, ([] : List Tm)), qs)] = (nm, []) :: qs.map (·.2) := by unfold atsOf; simp
  have hl : looseB [((nm, []), qs)] (mvars qs) = true ↔ ∃ x ∈ qs.flatMap (fun q => varsOf q.2.2), x ∉ mvars qs := by
    unfold looseB
    rw [hat, List.any_cons]
    simp only [varsOf, List.filter_nil, List.map_nil, List.any_nil, Bool.false_or]
    rw [List.any_eq_true]
    constructor
    · rintro ⟨a, ha, h⟩
      obtain ⟨q, hq, rfl⟩ := List.mem_map.1 ha
      obtain ⟨v, hv, hn⟩ := List.any_eq_true.1 h
      exact ⟨v, List.mem_flatMap.2 ⟨q, hq, hv⟩, fun hin => by rw [memT_iff.2 hin] at hn; cases hn⟩
    · rintro ⟨v, hv, hn⟩
      obtain ⟨q, hq, hv⟩ := List.mem_flatMap.1 hv
      refine ⟨q.2, List.mem_map_of_mem hq, List.any_eq_true.2 ⟨v, hv, ?_⟩⟩
      cases h : memT (mvars qs) v
      · rfl
      · exact absurd (memT_iff.1 h) hn
  unfold tightB
  cases hL : looseB [((nm, []), qs)] (mvars qs)
  · have hno : ∀ x ∈ qs.flatMap (fun q => varsOf q.2.2), x ∈ mvars qs := by
      intro x hx
      refine Classical.byContradiction fun hn => ?_
      have := hl.2 ⟨x, hx, hn⟩
      rw [hL] at this
      cases this
    have h1 := nodup_sub nB hsub
    have h2 := nodup_sub nA (fun x hx => (hB x).2 (hno x ((hA x).1 hx)))
    exact decide_eq_true (by omega)
  · obtain ⟨x, hx, hn⟩ := hl.1 hL
    have h1 := nodup_sub (l := x :: partsT [] (musts qs)) (List.nodup_cons.2 ⟨fun h => hn ((hB x).1 h), nB⟩) (fun y hy => (List.mem_cons.1 hy).elim (fun e => by rw [e]; exact (hA x).2 hx) (hsub y))
    rw [List.length_cons] at h1
    exact decide_eq_false (by omega)

attribute [local go_sem] run_store_func


end Go.Proofs.YtcigljngiemdeaaGreat

namespace Go.Proofs.YtcigljngiemdeaaGreat
open Go.RowKit Go.Shelf
attribute [local go_sem] Oper.semAt_some run_store_func

/-- What a round keeps: what lay below n₀, and the block b. -/
def KeepsToo (n₀ b : Nat) (W W' : World) : Prop := Below n₀ W W' ∧ W'.heap[b]? = W.heap[b]?

theorem KeepsToo.refl (n₀ b : Nat) (W : World) : KeepsToo n₀ b W W := ⟨Below.refl _ _, rfl⟩
theorem KeepsToo.trans {n₀ b : Nat} {A B C : World} (h : KeepsToo n₀ b A B) (k : KeepsToo n₀ b B C) : KeepsToo n₀ b A C := ⟨h.1.trans k.1, k.2.trans h.2⟩
theorem KeepsToo.of {n₀ b : Nat} {A B : World} (h : Below A.heap.size A B) (hn : n₀ ≤ A.heap.size) (hb : b < A.heap.size) : KeepsToo n₀ b A B := ⟨h.mono hn, h.block b hb⟩
theorem KeepsToo.drew (n₀ b : Nat) (A : World) : KeepsToo n₀ b A A.drew := ⟨(Below.refl _ _).drew, rfl⟩

/-- How long a slice is. -/
def lenV : Value → Nat
  | .slice _ n _ => n
  | _ => 0

theorem IsRefs.rest {w : World} {lo hi n c : Nat} {p : Addr} {r : Rf} {rs : List Rf} (h : IsRefs w lo hi (some p) n c (r :: rs)) :
    IsRefs w lo hi (if c = 1 then some p else some ⟨p.block, p.off + 2, none⟩) (n - 1) (c - 1) rs := by
  obtain ⟨q, e, h1, h2, h3, _, h4⟩ := h.first
  injection e with e
  subst e
  by_cases hc : c = 1
  · rw [if_pos hc]
    have hn : n = 1 := by have := h.2.1; omega
    obtain ⟨a, b, d, _⟩ := h4
    exact ⟨a, b, d, fun h0 => absurd h0 (by omega)⟩
  · rw [if_neg hc]; exact h4

theorem side_cases {ra rb : List Rf} (h : ¬ (ra = [] ∧ rb = [])) :
    (∃ a l, ra = a :: l ∧ sideN (ra.map rAt) (rb.map rAt) = 0) ∨ (∃ b l, rb = b :: l ∧ sideN (ra.map rAt) (rb.map rAt) = 1) ∨ (∃ a l b l', ra = a :: l ∧ rb = b :: l' ∧ sideN (ra.map rAt) (rb.map rAt) = 2) := by
  cases rb with
  | nil =>
    cases ra with
    | nil => exact absurd ⟨rfl, rfl⟩ h
    | cons a l => exact .inl ⟨a, l, rfl, rfl⟩
  | cons b l' =>
    cases ra with
    | nil => exact .inr (.inl ⟨b, l', rfl, rfl⟩)
    | cons a l =>
      have hq : sideN ((a :: l).map rAt) ((b :: l').map rAt) = if atomCmp (rAt a) (rAt b) < 0 then 0 else if 0 < atomCmp (rAt a) (rAt b) then 1 else 2 := rfl
      by_cases h1 : atomCmp (rAt a) (rAt b) < 0
      · exact .inl ⟨a, l, rfl, by rw [hq, if_pos h1]⟩
      · by_cases h2 : 0 < atomCmp (rAt a) (rAt b)
        · exact .inr (.inl ⟨b, l', rfl, by rw [hq, if_neg h1, if_pos h2]⟩)
        · exact .inr (.inr ⟨a, l, b, l', rfl, rfl, by rw [hq, if_neg h1, if_neg h2]⟩)

theorem pre_len {pre t : List (Rf × Nat)} {x : Rf × Nat} {l : List (Rf × Nat)} (h : l = pre ++ x :: t) : pre.length < l.length := by
  rw [h]; simp


theorem joinOn {l pre r t : List (Rf × Nat)} {x : Rf × Nat} (h : l = pre ++ r) (h' : r = x :: t) : l = (pre ++ [x]) ++ t := by
  rw [h, h', List.append_assoc]; rfl

theorem joinPre {l pre r t : List (Rf × Nat)} {x : Rf × Nat} (h : l = pre ++ r) (h' : r = x :: t) : pre ++ [x] <+: l := by
  rw [joinOn h h']; exact List.prefix_append _ _


end Go.Proofs.YtcigljngiemdeaaGreat

namespace Go.Proofs.YtcigljngiemdeaaGreat
open Go.RowKit Go.Shelf
attribute [local go_sem] Oper.semAt_some run_store_func



theorem KeepsToo.b {n₀ b : Nat} {w : World} (hn : n₀ ≤ w.heap.size) (hb : b < w.heap.size) (W : World) (l : Nat) (o o' : Obj) (hl : w.heap.size ≤ l) (h : W.heap[l]? = some o) (hc : o.isCells = false) (hw : o.isWalk = false) : KeepsToo n₀ b W (W.putObj l o') :=
  ⟨belowK_b hn W l o o' hl h hc hw, World.putObj_heap_other (by omega)⟩

theorem grownBy_setAny (W : World) (p : Addr) (v : Value) : W.grownBy (W.setCell p v) (some p.block) :=
  ⟨rfl, rfl, rfl, (KeepsWalks.setCell W _ v).size, fun k _ hk => Below.heap_setCell _ _ _ k (fun e => hk (by rw [e]))⟩

theorem row_far {W : World} {base size k : Nat} {e : TypeId} {v : Value} {xs : List Value} (h : W.ownsRow base e size v k xs) {p : Addr} (hp : some p.block ≠ v.ownBlock) (u : Value) : (W.setCell p u).ownsRow base e size v k xs :=
  h.kept (grownBy_setAny W p u) (.inr hp.symm)

theorem cells_two_new (W : World) (x y : Value) (t : TypeId) : ∀ j u, [x, y][j]? = some u → (W.alloc (.cells #[x, y] t)).cell? ((⟨W.heap.size, 0, none⟩ : Addr).add j) = some u := by
  intro j u hu
  match j, hu with
  | 0, hu => simp at hu; subst hu; simp [go_sem, Addr.add]
  | 1, hu => simp at hu; subst hu; simp [go_sem, Addr.add]

/-- All of two lists. -/
def allR (l : List (Rf × Nat)) : List Rf := l.map (·.1)

theorem allR_snoc (l : List (Rf × Nat)) (x : Rf × Nat) : allR (l ++ [x]) = allR l ++ [x.1] := by unfold allR; simp

/-- A list in order, handed back. -/
def ListPost (rs : List Rf) (w : World) (e : Ending) (w' : World) : Prop := ∃ A c, e = .returned (.agg #[.slice A rs.length c, .func (.func 120) #[] #[]]) ∧ IsRefs w' 0 w'.heap.size A rs.length c rs ∧ Below w.heap.size w w' ∧ (∀ p, A = some p → w.heap.size ≤ p.block)

theorem row_low {W : World} {base size n k c : Nat} {e : TypeId} {A : Option Addr} {xs : List Value} (h : W.ownsRow base e size (.slice A n c) k xs) : ∀ p, A = some p → base ≤ p.block := by
  intro p hp
  subst hp
  rcases h.2 with ⟨hv, _⟩ | ⟨g, cap, cur, hv, hb, _⟩
  · simp at hv
  · injection hv with e1
    injection e1 with e1
    subst e1
    exact hb

theorem refsUp {w W : World} {rs : List Rf} (h : RefsIn w 0 w.heap.size rs) (hb : Below w.heap.size w W) : RefsIn W 0 w.heap.size rs :=
  h.keep (fun _ _ hq => hb.cell hq) (Nat.le_refl _) (Nat.le_refl _)



end Go.Proofs.YtcigljngiemdeaaGreat

namespace Go.Proofs.YtcigljngiemdeaaGreat
open Go.RowKit

set_option maxRecDepth 100000 in
set_option maxHeartbeats 4000000 in
theorem l5Vars_any (B : Option Addr) (m d : Nat) (qs : List Pt) (w : World) (h : IsParts w 0 w.heap.size B m d qs) (h3 : ∀ q ∈ qs, q.2.2.length ≤ 3) (hmax : m ≤ 1000) :
    Calls Tryz.prog 69 #[.slice B m d] w (TextsPost w.heap.size (partsT [] qs) w) := by
  have HL := Lib.hid h.1
  have H := Lib.hid h; clear h
  have H3 := Lib.hid h3; clear h3
  go_enter Tryz.func69, Tryz.ntmps69
  go_wp2
  go_loopw [3, 4] (fun v i wr => ∃ (k : Nat) (p' : Addr) (d' : Nat), k ≤ m ∧ i = .int .i64 (k : Int) ∧ v = .slice (some p') (partsT [] (qs.take k)).length d' ∧ IsTexts wr w.heap.size wr.heap.size (some p') (partsT [] (qs.take k)).length d' (partsT [] (qs.take k)) ∧ Below w.heap.size w wr) (fun _ i _ => m - (intOf i).toNat)
  case atStart => exact ⟨0, ⟨w.heap.size, 0, none⟩, 0, Nat.zero_le _, rfl, rfl, ⟨rfl, Nat.le_refl _, Nat.zero_le _, fun h0 => absurd h0 (by simp [partsT])⟩, below1 _ _⟩
  case round =>
    obtain ⟨k, p', d', hk, rfl, rfl, hT, hb⟩ := hrel
    have HT := Lib.hid hT; clear hT
    by_cases hlt : k < m
    · have hlt2 : (k : Int) < (m : Int) := by omega
      obtain ⟨q, t, hA, -, hhi, hg, hE⟩ := (H.out.below PartE.stays hb (Nat.le_refl _)).at_ hlt
      obtain ⟨C, n5, c5, c1, c2, c3, c4, c5'⟩ := hE.out
      clear hE
      subst hA
      have hmem := H3.out t (List.mem_of_getElem? hg)
      have hl5 := c5'.1
      have HG := Lib.hid hg; clear hg
      have hlen := partsT_len (qs.take k) [] (fun x hx => H3.out x (List.mem_of_mem_take hx))
      rw [List.length_take, HL.out] at hlen
      have hmin := Nat.min_le_left k m
      have HT5 := Lib.hid (c5'.keep (w' := wr) (lo' := 0) (hi' := wr.heap.size) (fun _ _ _ => rfl) (Nat.le_refl _) hb.size); clear c5'
      go_wp2_with fail
      refine (l2Vars_any t.2.1 C n5 c5 t.2.2 p' _ d' (partsT [] (qs.take k)) wr w.heap.size hb.size HT5.out HT.out (by simp at hlen; omega)).mono ?_; rintro e w2 ⟨p2, d2, rfl, hT2, hb2⟩
      have HT2 := Lib.hid hT2; have hb3 := belowThen hb hb2; clear hT2 hb2
      go_wp2
      go_roundw
      case rel => exact ⟨k + 1, p2, d2, by omega, by go_num, by rw [partsT_step HG.out], by rw [partsT_step HG.out]; exact HT2.out, hb3⟩
      case measure => simp [intOf]; omega
    · have e : partsT [] (qs.take k) = partsT [] qs := by rw [List.take_of_length_le (by rw [HL.out]; omega)]
      have E := Lib.hid e; clear e
      go_wp2
      go_ret; exact ⟨p', d', by rw [E.out]; rfl, by rw [← E.out]; exact HT.out, hb⟩

theorem asVars_step {vs : List ByteArray} {k : Nat} {s : ByteArray} (h : vs[k]? = some s) : tmCells (asVars (vs.take (k + 1))) = tmCells (asVars (vs.take k)) ++ [.bool true, .string s] := by
  unfold asVars; rw [List.take_add_one, h, List.map_append]; exact tmCells_snoc (List.map (fun s => (true, s)) (List.take k vs)) (true, s)

set_option maxRecDepth 100000 in
set_option maxHeartbeats 8000000 in
theorem l5Rule_any (nm : ByteArray) (B : Option Addr) (m d : Nat) (qs : List Pt) (w : World) (h : IsParts w 0 w.heap.size B m d qs) (h3 : ∀ q ∈ qs, q.2.2.length ≤ 3) (hmax : m ≤ 1000) (hsm : ∀ s ∈ partsT [] qs, s.size ≤ 16) :
    Calls Tryz.prog 72 #[.string nm, .slice B m d] w (RuleAsks nm B m d (partsT [] qs) w) := by
  have HL := Lib.hid h.1
  obtain ⟨i0, hi, hz, hsz, hby⟩ := info_parts Tryz.infoTm
  have HI := Lib.hid hi; have HZ := Lib.hid hz; have HSZ := Lib.hid hsz; have HYY := Lib.hid hby
  clear hi hz hsz hby
  have hlenV := partsT_len qs [] h3
  rw [HL.out] at hlenV
  simp only [List.length_nil] at hlenV
  have H3 := Lib.hid h3; have HSM := Lib.hid hsm; clear h3 hsm
  have hb2 := below2 w (.cells #[.string ⟨#[]⟩, .slice none 0 0, .slice none 0 0] 114) (.cells #[.string nm, .slice none 0 0, .slice B m d] 114)
  have X0 := (Blk.new w 114 #[.string ⟨#[]⟩, .slice none 0 0, .slice none 0 0]).alloc (.cells #[.string nm, .slice none 0 0, .slice B m d] 114)
  have Y0 := Blk.made (w.alloc (.cells #[.string ⟨#[]⟩, .slice none 0 0, .slice none 0 0] 114)) (b := w.heap.size + 1) 114 #[.string nm, .slice none 0 0, .slice B m d] (by simp)
  obtain ⟨W0, hW0⟩ : ∃ W0, (w.alloc (.cells #[.string ⟨#[]⟩, .slice none 0 0, .slice none 0 0] 114)).alloc (.cells #[.string nm, .slice none 0 0, .slice B m d] 114) = W0 := ⟨_, rfl⟩
  have hz0 : W0.heap.size = w.heap.size + 2 := by rw [← hW0]; simp
  go_enter Tryz.func72, Tryz.ntmps72
  go_wp2_with fail
  rw [hW0] at hb2 X0 Y0
  refine (l5Vars_any B m d qs W0 (h.up PartE.stays hb2) H3.out hmax).mono ?_; rintro e w1 ⟨p, pc, rfl, hT, hb1⟩
  have HT := Lib.hid hT; have X1 := Lib.hid (X0.below hb1); have Y1 := Lib.hid (Y0.below hb1); have HB1 := Lib.hid (belowThen hb2 hb1)
  have hz1 := hb1.size
  have hV : ∃ vs, partsT [] qs = vs := ⟨_, rfl⟩
  obtain ⟨vs, hV⟩ := hV
  rw [hV] at hlenV HT
  have HV := Lib.hid hV
  have HSM' : Hid (∀ s ∈ vs, s.size ≤ 16) := Lib.hid (by rw [← hV]; exact HSM.out)
  rw [hV]
  clear h hb2 X0 Y0 hT hb1 hV
  go_wp2_with fail
  go_loopw [7] (fun i wr => ∃ (k : Nat) (v : Value), k ≤ vs.length ∧ i = .int .i64 (k : Int) ∧ Blk wr (w.heap.size + 1) 114 #[.string nm, v, .slice B m d] ∧ Blk wr w.heap.size 114 #[.string ⟨#[]⟩, .slice none 0 0, .slice none 0 0] ∧ wr.ownsRow w1.heap.size 59 2 v k (tmCells (asVars (vs.take k))) ∧ IsTexts wr W0.heap.size w1.heap.size (some p) vs.length pc vs ∧ Below w.heap.size w wr ∧ w1.heap.size ≤ wr.heap.size) (fun i _ => vs.length - (intOf i).toNat)
  case atStart => exact ⟨0, _, Nat.zero_le _, rfl, Y1.out, X1.out, ⟨rfl, .inl ⟨rfl, rfl⟩⟩, HT.out, HB1.out, Nat.le_refl _⟩
  case round =>
    obtain ⟨k, v, hk, rfl, hY, hX, hrow, hT, hb, hsz⟩ := hrel
    obtain ⟨Av, cv, rfl⟩ : ∃ Av cv, v = .slice Av k cv := by
      rcases hrow.2 with ⟨e1, e2⟩ | ⟨g, cap, cur, e1, _⟩
      · exact ⟨none, 0, by rw [e1, e2]⟩
      · exact ⟨_, cap, e1⟩
    have HY := Lib.hid hY; have HX := Lib.hid hX; have HR := Lib.hid hrow; have HT2 := Lib.hid hT; have HB := Lib.hid hb
    clear hY hX hrow hT hb
    have y0 : wr.cell? ⟨w.heap.size + 1, 0, none⟩ = some (.string nm) := HY.out.cell 0
    have y1 : wr.cell? ⟨w.heap.size + 1, 1, none⟩ = some (.slice Av k cv) := HY.out.cell 1
    have y2 : wr.cell? ⟨w.heap.size + 1, 2, none⟩ = some (.slice B m d) := HY.out.cell 2
    have hyl := HY.out.lt
    by_cases hlt : k < vs.length
    · have hlt2 : (k : Int) < (vs.length : Int) := by omega
      obtain ⟨q, s, hq, hlo, hhi, hg, hE⟩ := HT2.out.at_ hlt
      injection hq with hq
      subst hq
      have c1 : wr.cell? (p.add k) = some (.string s) := by have := hE; unfold TextE at this; rwa [Nat.mul_one] at this
      have HG := Lib.hid hg; clear hg hE
      have HRD : Hid (wr.drew.ownsRow w1.heap.size 59 2 (.slice Av k cv) k (tmCells (asVars (vs.take k)))) := Lib.hid HR.out
      have YD := Lib.hid (show Blk wr.drew (w.heap.size + 1) 114 #[.string nm, .slice Av k cv, .slice B m d] from HY.out)
      have cu := cellUp (w := wr.drew) (show wr.drew.cell? (p.add k) = some (.string s) from c1)
      have cv1 := cellUp (w := wr.drew) (show wr.drew.cell? ⟨w.heap.size + 1, 1, none⟩ = some (.slice Av k cv) from y1)
      have hlo2 : ∀ g, (Value.slice Av k cv).ownBlock = some g → w1.heap.size ≤ g := fun g hg => (HR.out.lt g hg).1
      go_wp2_with fail
      go_region_law (first
        | (refine step_append_lies _ (by rfl) _ _ _ (by rfl) w1.heap.size 59 i0 _ 2 24 Tryz.underlying47 HI.out HZ.out HSZ.out HYY.out rfl (by omega) (.slice Av k cv) k (tmCells (asVars (vs.take k))) (by rfl) (HRD.out.alloc _) ⟨wr.drew.heap.size, 0, none⟩ 1 1 [.bool true, .string s] (by rfl) (by rfl) (World.news_of_block (cs := #[.bool true, .string s]) (t := 59) (fr := (0, 0)) (heap_alloc_new wr.drew _)) (by simp [Value.oneCell']) (by omega) (by unfold maxLen; omega) (by omega) (by simp; omega) (wr.drew.heap.size + 1) (by simp) ?_; intro gg cap w6 hown6 hgrow hat hlt6; have Y6 := (YD.out.alloc (.cells #[.bool true, .string s] 59)).kept hgrow (fun e => (by have := hlo2 _ e.symm; omega)); have z3 : w6.cell? ⟨w.heap.size + 1, 1, none⟩ = some (.slice Av k cv) := Y6.cell 1; have z5 := Y6.frozen 1))
      all_goals
        have hgg := (hown6.lt gg rfl).1
        have hal := below1 wr (.cells #[.bool true, .string s] 59)
        have hgs : wr.heap.size + 1 ≤ w6.heap.size := by have := hgrow.size; simp at this; exact this
        have X6 := ((show Blk wr.drew w.heap.size 114 #[.string ⟨#[]⟩, .slice none 0 0, .slice none 0 0] from HX.out).alloc (.cells #[.bool true, .string s] 59)).kept (W' := w6) hgrow (fun e => by have := hlo2 _ e.symm; omega)
        have hset := grownBy_setAny w6 ⟨w.heap.size + 1, 1, none⟩ (.slice (some ⟨gg, 0, none⟩) (k + 1) cap)
        have A1 := Lib.hid (show Blk (w6.setCell ⟨w.heap.size + 1, 1, none⟩ (.slice (some ⟨gg, 0, none⟩) (k + 1) cap)) (w.heap.size + 1) 114 #[.string nm, .slice (some ⟨gg, 0, none⟩) (k + 1) cap, .slice B m d] from Y6.set 1 _)
        have A2 := Lib.hid (X6.far (p := ⟨w.heap.size + 1, 1, none⟩) (by simp) (.slice (some ⟨gg, 0, none⟩) (k + 1) cap))
        have A3 : Hid ((w6.setCell ⟨w.heap.size + 1, 1, none⟩ (.slice (some ⟨gg, 0, none⟩) (k + 1) cap)).ownsRow w1.heap.size 59 2 (.slice (some ⟨gg, 0, none⟩) (k + 1) cap) (k + 1) (tmCells (asVars (vs.take (k + 1))))) := Lib.hid (by rw [asVars_step HG.out]; exact row_far hown6 (fun e => by injection e with e; simp at e; omega) _)
        have A4 := Lib.hid (HT2.out.keep (w' := w6.setCell ⟨w.heap.size + 1, 1, none⟩ (.slice (some ⟨gg, 0, none⟩) (k + 1) cap)) TextE.stays (fun q h1 h2 => ((hset.cell_far _ (by omega) (fun e => by injection e with e; simp at e; omega)).trans (hgrow.cell_far _ (by simp; omega) (fun e => by have := hlo2 _ e.symm; omega))).trans (hal.cell (by omega))) (Nat.le_refl _) (Nat.le_refl _))
        have A5 := Lib.hid ((((HB.out.alloc HB.out.size (.cells #[.bool true, .string s] 59)).drew).grown hgrow (by have := HB.out.size; simp; omega) (fun g hg => by have := hlo2 g hg; omega)).setCell (p := ⟨w.heap.size + 1, 1, none⟩) (by simp) (.slice (some ⟨gg, 0, none⟩) (k + 1) cap))
        have A6 : w1.heap.size ≤ (w6.setCell ⟨w.heap.size + 1, 1, none⟩ (.slice (some ⟨gg, 0, none⟩) (k + 1) cap)).heap.size := by rw [size_setCell]; omega
        clear hown6 hgrow hat Y6 z3 z5 X6 hset hal cu cv1 hlo2
        go_wp2
        go_roundw
        case rel => exact ⟨k + 1, _, by omega, by go_num, A1.out, A2.out, A3.out, A4.out, A5.out, A6⟩
        case measure => simp [intOf]; omega
    · have hkv : k = vs.length := by omega
      subst hkv
      have hr1 : wr.cell? ⟨w.heap.size, 0, none⟩ = some (.string ⟨#[]⟩) := HX.out.cell 0
      have hr2 : wr.cell? ⟨w.heap.size, 1, none⟩ = some (.slice none 0 0) := HX.out.cell 1
      have hr3 : wr.cell? ⟨w.heap.size, 2, none⟩ = some (.slice none 0 0) := HX.out.cell 2
      have f1 := HX.out.frozen 0; have f2 := HX.out.frozen 1; have f3 := HX.out.frozen 2
      have hrow := HR.out
      rw [List.take_length] at hrow
      obtain ⟨A9, c9, e9, hT9⟩ := owned_terms hrow (by unfold asVars; rw [List.length_map]) (fun t ht => by
        unfold asVars at ht
        obtain ⟨s, hs, rfl⟩ := List.mem_map.1 ht
        exact HSM'.out s hs)
      injection e9 with e9 _ e10
      subst e9; subst e10
      have HT9 := Lib.hid hT9
      clear hrow hT9
      have Z := (HX.out.set 0 (.string nm)).set 1 (.slice Av vs.length cv) |>.set 2 (.slice B m d)
      have z0 := Z.cell 0; have z1 := Z.cell 1; have z2 := Z.cell 2
      go_wp2
      refine bodyPost_ret (v := .agg #[.string nm, .slice Av vs.length cv, .slice B m d]) (by simp [results, Tryz.results72, go_sem, hr1, hr2, hr3]) rfl ?_
      rw [HV.out]
      refine ⟨Av, cv, rfl, HT9.out.keep (fun q h1 _ => World.cell?_of_block (((Below.heap_setCell _ _ _ _ (by simp; omega)).trans (Below.heap_setCell _ _ _ _ (by simp; omega))).trans (Below.heap_setCell _ _ _ _ (by simp; omega)))) (Nat.zero_le _) (by rw [size_setCell, size_setCell, size_setCell]; exact Nat.le_refl _), ((HB.out.setCell (by simp) _).setCell (by simp) _).setCell (by simp) _⟩


def ruleEq (a b : Rl) : Bool := atomEq a.1 b.1 && listEq partEq a.2 b.2

theorem ruleEq_refl (a : Rl) : ruleEq a a = true := by unfold ruleEq; simp [atomEq_refl, listEq_refl partEq_refl]


def bodyB (xs : List Pt) : Bool := xs.all fun q => atomB q.2
def ruleB (r : Rl) : Bool := bodyB r.2 && (atomB r.1 && decide (r.2.length ≤ 4))

theorem bodyB_snoc {xs : List Pt} {k : Nat} {q : Pt} (h : xs[k]? = some q) (hr : bodyB (xs.take k) = true) (hq : atomB q.2 = true) : bodyB (xs.take (k + 1)) = true := by
  obtain ⟨h1, h2⟩ := List.getElem?_eq_some_iff.1 h
  unfold bodyB at *
  rw [List.take_succ_eq_append_getElem h1, List.all_append, hr, h2]; simp [hq]

theorem bodyB_no {xs : List Pt} {k : Nat} {q : Pt} (h : xs[k]? = some q) (hq : atomB q.2 = false) : bodyB xs = false := by
  unfold bodyB
  rw [List.all_eq_false]
  exact ⟨q, List.mem_of_getElem? h, by simp [hq]⟩

theorem bodyB_all {xs : List Pt} {k n : Nat} (h : xs.length = n) (hk : ¬ k < n) (hr : bodyB (xs.take k) = true) : bodyB xs = true := by
  rwa [List.take_of_length_le (by omega)] at hr

theorem atom_no {q : Pt} (h : (!atomB (q.2.1, q.2.2)) = true) : atomB q.2 = false := by simpa using h
theorem atom_yes {q : Pt} (h : (!atomB (q.2.1, q.2.2)) = false) : atomB q.2 = true := by simpa using h

set_option maxHeartbeats 1000000 in
theorem l1Rule_any (nm : ByteArray) (A : Option Addr) (n c : Nat) (B : Option Addr) (m d : Nat) (ts : List Tm) (xs : List Pt) (w : World) (hs : nm.size ≤ maxLen) (h : IsRule w w.heap.size A n c B m d ts xs) :
    Calls Tryz.prog 155 #[.agg #[.string nm, .slice A n c, .slice B m d]] w (BoolPost (ruleB ((nm, ts), xs)) w) := by
  have hm := h.2.len
  unfold maxLen at hm
  have L := Lib.hid h.2.1
  have H := Lib.hid h; clear h
  have hw0 := below1 w (.cells #[.string nm, .slice A n c, .slice B m d] 114)
  have X0 := Lib.hid (Box3.new w (.string nm) (.slice A n c) (.slice B m d) 114)
  go_enter Tryz.func155, Tryz.ntmps155
  go_wp2
  go_loopw [3] (fun i wr => ∃ k : Nat, k ≤ m ∧ i = .int .i64 k ∧ bodyB (xs.take k) = true ∧ Below (w.alloc (.cells #[.string nm, .slice A n c, .slice B m d] 114)).heap.size (w.alloc (.cells #[.string nm, .slice A n c, .slice B m d] 114)) wr) (fun i _ => m - (intOf i).toNat)
  case atStart => exact ⟨0, Nat.zero_le _, rfl, rfl, Below.refl _ _⟩
  case round =>
    obtain ⟨k, hk, rfl, hd, hb⟩ := hrel
    have HD := Lib.hid hd; clear hd
    have HB := belowThen hw0 hb
    obtain ⟨x1, x2, x3, x4⟩ := X0.out.later hb
    by_cases hlt : k < m
    · obtain ⟨p, q, hA, hlo, hhi, hg, hE⟩ := (H.out.2.below PartE.stays HB (Nat.le_refl _)).at_ hlt
      obtain ⟨C, n', c', d1, d2, d3, d4, d5⟩ := hE.out
      clear hE
      subst hA
      have HG := Lib.hid hg; clear hg
      have HT := Lib.hid (d5.keep (lo' := 0) (hi' := wr.heap.size) (fun _ _ _ => rfl) (Nat.le_refl _) HB.size); clear d5
      go_wp2_with fail
      refine (specAtomOk_any _ _ _ _ q.2.2 _ d3 HT.out).mono ?_; rintro e w1 ⟨rfl, hb1⟩
      go_wp2
      · go_ret; exact ⟨retB (by unfold ruleB; rw [bodyB_no HG.out (atom_no (by assumption))]; rfl), belowThen HB hb1⟩
      · go_roundw
        case rel => exact ⟨k + 1, by omega, by go_num, bodyB_snoc HG.out HD.out (atom_yes (by assumption)), belowThen hb hb1⟩
        case measure => simp [intOf]; omega
    · have E := Lib.hid (bodyB_all L.out hlt HD.out)
      go_wp2_with fail
      refine (specAtomOk_any _ _ _ _ ts _ hs (H.out.up HB).1).mono ?_; rintro e w1 ⟨rfl, hb1⟩
      obtain ⟨x1, x2, x3, x4⟩ := (X0.out.later hb).later hb1
      go_wp2
      all_goals (go_ret; exact ⟨retB (by unfold ruleB; rw [E.out, L.out]; simp_all; try omega), belowThen HB hb1⟩)


set_option maxHeartbeats 1000000 in
theorem bodyOk_any (B : Option Addr) (m d : Nat) (xs : List Pt) (w : World) (h : IsParts w 0 w.heap.size B m d xs) :
    Calls Tryz.prog 89 #[.slice B m d] w (BoolPost (bodyB xs && decide (xs.length ≤ 4)) w) := by
  have hm := h.len
  unfold maxLen at hm
  have L := Lib.hid h.1
  have H := Lib.hid h; clear h
  by_cases hlong : 4 < (m : Int)
  · have E := Lib.hid (show (bodyB xs && decide (xs.length ≤ 4)) = false by rw [L.out]; simp; omega)
    go_enter Tryz.func89, Tryz.ntmps89
    go_wp2
    go_ret; exact ⟨retB E.out.symm, Below.refl _ _⟩
  · have hle : decide (xs.length ≤ 4) = true := by rw [L.out]; simp; omega
    have HL := Lib.hid hle; clear hle
    go_enter Tryz.func89, Tryz.ntmps89
    go_wp2
    go_loopw [4, 10] (fun _ i wr => ∃ k : Nat, k ≤ m ∧ i = .int .i64 k ∧ bodyB (xs.take k) = true ∧ Below w.heap.size w wr) (fun _ i _ => m - (intOf i).toNat)
    case atStart => exact ⟨0, Nat.zero_le _, rfl, rfl, Below.refl _ _⟩
    case round =>
      obtain ⟨k, hk, rfl, hd, HB⟩ := hrel
      have HD := Lib.hid hd; clear hd
      by_cases hlt : k < m
      · obtain ⟨p, q, hA, hlo, hhi, hg, hE⟩ := (H.out.below PartE.stays HB (Nat.le_refl _)).at_ hlt
        obtain ⟨C, n', c', d1, d2, d3, d4, d5⟩ := hE.out
        clear hE
        subst hA
        have HG := Lib.hid hg; clear hg
        have hb1 := below1 wr (.cells #[.bool q.1, .string q.2.1, .slice C n' c'] 52)
        have HT := Lib.hid ((d5.keep (lo' := 0) (hi' := wr.heap.size) (fun _ _ _ => rfl) (Nat.le_refl _) HB.size).up hb1); clear d5
        go_wp2_with fail
        refine (implAtomOk_any _ _ _ _ q.2.2 _ d3 HT.out).mono ?_; rintro e w1 ⟨rfl, hb2⟩
        go_wp2
        · go_ret; exact ⟨retB (by rw [bodyB_no HG.out (atom_no (by assumption))]; rfl), belowThen (belowThen HB hb1) hb2⟩
        · go_roundw
          case rel => exact ⟨k + 1, by omega, by go_num, bodyB_snoc HG.out HD.out (atom_yes (by assumption)), belowThen (belowThen HB hb1) hb2⟩
          case measure => simp [intOf]; omega
      · have E := Lib.hid (bodyB_all L.out hlt HD.out)
        go_wp2
        go_ret; exact ⟨retB (by rw [E.out, HL.out]; rfl), HB⟩



/-- The names of terms. -/
def tmNames (ts : List Tm) : List (List UInt8) := ts.map fun t => t.2.data.toList

/-- An atom's text. -/
def textL (a : At) : List UInt8 := a.1.data.toList ++ [40] ++ Lib.join (tmNames a.2) [44] ++ [41]

/-- A text as the result. -/
def StrPost (l : List UInt8) (w : World) (e : Ending) (w' : World) : Prop := e = .returned (.string ⟨l.toArray⟩) ∧ Below w.heap.size w w'

theorem join_snoc (xs : List (List UInt8)) (x : List UInt8) (h : xs ≠ []) : Lib.join (xs ++ [x]) [44] = Lib.join xs [44] ++ [44] ++ x := by
  cases xs with
  | nil => exact absurd rfl h
  | cons y r =>
    rw [List.cons_append, Lib.join_cons, Lib.join_cons]
    simp [Lib.joinTail]

theorem names_snoc {ts : List Tm} {k : Nat} {t : Tm} (h : ts[k]? = some t) : tmNames (ts.take (k + 1)) = tmNames (ts.take k) ++ [t.2.data.toList] := by
  obtain ⟨h1, h2⟩ := List.getElem?_eq_some_iff.1 h
  unfold tmNames
  rw [List.take_succ_eq_append_getElem h1, List.map_append, h2]; rfl

theorem join_first {ts : List Tm} {t : Tm} (h : ts[0]? = some t) : Lib.join (tmNames (ts.take 1)) [44] = t.2.data.toList := by
  rw [names_snoc (k := 0) h]
  simp [tmNames, Lib.join_one]

theorem join_next {ts : List Tm} {k : Nat} {t : Tm} (h : ts[k]? = some t) (hk : 0 < k) : Lib.join (tmNames (ts.take (k + 1))) [44] = Lib.join (tmNames (ts.take k)) [44] ++ [44] ++ t.2.data.toList := by
  obtain ⟨h1, _⟩ := List.getElem?_eq_some_iff.1 h
  rw [names_snoc h, join_snoc]
  intro e
  have h2 : (tmNames (ts.take k)).length = k := by unfold tmNames; rw [List.length_map, List.length_take]; omega
  rw [e] at h2
  exact absurd h2 (by simp; omega)

/-- What is put so far is no longer than all. -/
theorem join_le : ∀ (xs ys : List (List UInt8)), (Lib.join xs [44]).length ≤ (Lib.join (xs ++ ys) [44]).length := by
  intro xs ys
  cases xs with
  | nil => simp [Lib.join_nil]
  | cons x r =>
    rw [List.cons_append, Lib.join_cons, Lib.join_cons]
    simp [Lib.joinTail]

theorem join_take_le (ts : List Tm) (k : Nat) : (Lib.join (tmNames (ts.take k)) [44]).length ≤ (Lib.join (tmNames ts) [44]).length := by
  have h := join_le (tmNames (ts.take k)) (tmNames (ts.drop k))
  rwa [show tmNames (ts.take k) ++ tmNames (ts.drop k) = tmNames ts by unfold tmNames; rw [← List.map_append, List.take_append_drop]] at h

/-- What stands in the model's text behind k terms. -/
def Part (a : At) (k : Nat) (s : ByteArray) : Prop := s.data.toList = a.1.data.toList ++ [40] ++ Lib.join (tmNames (a.2.take k)) [44]

theorem Part.size {a : At} {k : Nat} {s : ByteArray} (h : Part a k s) : s.size + 1 ≤ (textL a).length := by
  have h1 : s.size = s.data.toList.length := rfl
  rw [h1, h]
  unfold textL
  have := join_take_le a.2 k
  simp only [List.length_append, List.length_cons, List.length_nil]
  omega

theorem Part.start (a : At) : Part a 0 (a.1 ++ ⟨#[40]⟩) := by
  unfold Part
  simp [tmNames, Lib.join_nil]

theorem Part.one {a : At} {s : ByteArray} {t : Tm} (h : Part a 0 s) (ht : a.2[0]? = some t) : Part a 1 (s ++ t.2) := by
  unfold Part at *
  rw [join_first ht]
  simp [h, tmNames, Lib.join_nil]

theorem Part.one' {a : At} {k : Nat} {s : ByteArray} {t : Tm} (h : Part a k s) (hk : k = 0) (ht : a.2[k]? = some t) : Part a (k + 1) (s ++ t.2) := by
  subst hk; exact h.one ht

theorem Part.next {a : At} {k : Nat} {s : ByteArray} {t : Tm} (h : Part a k s) (ht : a.2[k]? = some t) (hk : 0 < k) : Part a (k + 1) (s ++ ⟨#[44]⟩ ++ t.2) := by
  unfold Part at *
  rw [join_next ht hk]
  simp [h]

theorem Part.all {a : At} {k n : Nat} {s : ByteArray} (h : Part a k s) (hn : a.2.length = n) (hk : ¬ k < n) : s ++ ⟨#[41]⟩ = ⟨(textL a).toArray⟩ := by
  unfold Part at h
  rw [List.take_of_length_le (by omega)] at h
  apply ByteArray.ext
  rw [ByteArray.data_append]
  apply Array.toList_inj.1
  rw [Array.toList_append, h]
  simp [textL]



theorem name_le {l : List UInt8} (h : nameB l = true) : l.length ≤ 8 := by
  unfold nameB letters at h
  simp only [Bool.and_eq_true, decide_eq_true_eq] at h
  omega

theorem var_le {l : List UInt8} (h : varB l = true) : l.length ≤ 8 := by
  cases l with
  | nil => simp
  | cons c r =>
    unfold varB at h
    simp only [Bool.and_eq_true, decide_eq_true_eq] at h
    simp only [List.length_cons]
    omega

theorem term_le {t : Tm} (h : termB t = true) : t.2.data.toList.length ≤ 8 := by
  unfold termB at h
  split at h
  · exact var_le h
  · exact name_le h

theorem tail_le : ∀ xs : List (List UInt8), (∀ x ∈ xs, x.length ≤ 8) → (Lib.joinTail [44] xs).length ≤ 9 * xs.length
  | [], _ => by simp [Lib.joinTail]
  | x :: r, h => by
    have h1 := h x (by simp)
    have h2 := tail_le r (fun y hy => h y (by simp [hy]))
    have h3 : Lib.joinTail [44] (x :: r) = [44] ++ x ++ Lib.joinTail [44] r := by simp [Lib.joinTail]
    rw [h3]
    simp only [List.length_append, List.length_cons, List.length_nil]
    omega

theorem joined_le (xs : List (List UInt8)) (h : ∀ x ∈ xs, x.length ≤ 8) : (Lib.join xs [44]).length ≤ 9 * xs.length := by
  cases xs with
  | nil => simp [Lib.join_nil]
  | cons x r =>
    have h1 := h x (by simp)
    have h2 := tail_le r (fun y hy => h y (by simp [hy]))
    rw [Lib.join_cons]
    simp only [List.length_append, List.length_cons]
    omega

/-- The text of an atom that is ok is short. -/
theorem textL_le {a : At} (h : atomB a = true) : (textL a).length ≤ 40 := by
  unfold atomB argsB at h
  simp only [Bool.and_eq_true, decide_eq_true_eq] at h
  obtain ⟨h1, h2, h3⟩ := h
  have h4 := name_le h2
  have h5 := joined_le (tmNames a.2) (fun x hx => by
    unfold tmNames at hx
    obtain ⟨t, ht, rfl⟩ := List.mem_map.1 hx
    exact term_le (List.all_eq_true.1 h1 t ht))
  have h6 : (tmNames a.2).length = a.2.length := by unfold tmNames; simp
  unfold textL
  simp only [List.length_append, List.length_cons, List.length_nil]
  omega

/-- What AtomPut answers. -/
def putB (a : At) : List UInt8 := if atomB a then textL a else []

/-- The names of terms, as far as they stand in a row of texts. -/
def Named (w : World) (g n k : Nat) (ts : List Tm) : Prop := ∃ f, w.rowIs g 9 n f ∧ ∀ j t, j < k → ts[j]? = some t → f j = .string t.2

theorem Named.start (w : World) (n : Nat) (ts : List Tm) : Named (w.alloc (.cells (madeCells #[.string ByteArray.empty] n) 9)) w.heap.size n 0 ts :=
  ⟨_, World.rowIs_made w _ n _, fun j t hj => absurd hj (by omega)⟩

theorem Named.lt {w : World} {g n k : Nat} {ts : List Tm} (h : Named w g n k ts) : g < w.heap.size := by
  obtain ⟨f, h, _⟩ := h; exact h.lt

theorem Named.below {w w' : World} {g n k : Nat} {ts : List Tm} (h : Named w g n k ts) (hb : Below w.heap.size w w') : Named w' g n k ts := by
  obtain ⟨f, h, h2⟩ := h
  exact ⟨f, h.of_block (hb.block g h.lt), h2⟩

theorem Named.cell {w : World} {g n k : Nat} {ts : List Tm} (h : Named w g n k ts) (hk : k < n) : (∃ x, w.cell? ⟨g, k, none⟩ = some x) ∧ w.frozen? ⟨g, k, none⟩ = false := by
  obtain ⟨f, h, _⟩ := h
  exact ⟨⟨_, h.cell hk⟩, h.frozen _⟩

theorem Named.step {w : World} {g n k : Nat} {ts : List Tm} (h : Named w g n k ts) (t : Tm) (ht : ts[k]? = some t) : Named (w.setCell ⟨g, k, none⟩ (.string t.2)) g n (k + 1) ts := by
  obtain ⟨f, h, h2⟩ := h
  refine ⟨_, h.set k (.string t.2), fun j u hj hu => ?_⟩
  by_cases e : j = k
  · subst e
    rw [ht] at hu
    injection hu with hu
    subst hu
    simp
  · simp only [e, if_false]; exact h2 j u (by omega) hu

theorem Tryz.infoString : (Tryz.prog.info? 9).map (fun i => (i.zero, i.size, i.bytes)) = some (some (.string ByteArray.empty), 1, 16) := by kernel_rfl

theorem put_eq (nm : ByteArray) (ts : List Tm) : (⟨(textL (nm, ts)).toArray⟩ : ByteArray) = nm ++ ⟨#[40]⟩ ++ ⟨(Lib.join (tmNames ts) [44]).toArray⟩ ++ ⟨#[41]⟩ := by
  apply ByteArray.ext
  simp only [ByteArray.data_append]
  apply Array.toList_inj.1
  simp [textL]






/-- A part's text. -/
def partL (q : Pt) : List UInt8 := (if q.1 then [110, 111, 116, 32] else []) ++ textL q.2

/-- A body's text. -/
def bodyL (xs : List Pt) : List UInt8 := Lib.join (xs.map partL) [32, 97, 110, 100, 32]

/-- A rule's text. -/
def ruleL (r : Rl) : List UInt8 := textL r.1 ++ (if r.2.length = 0 then [] else [32, 105, 102, 32] ++ bodyL r.2)

theorem strEq {s : ByteArray} {l : List UInt8} (h : s.data.toList = l) : Ending.returned (.string s) = .returned (.string ⟨l.toArray⟩) := by
  subst h; rfl

theorem partL_le {q : Pt} (h : atomB q.2 = true) : (partL q).length ≤ 44 := by
  have h1 := textL_le h
  unfold partL
  split <;> simp only [List.length_append, List.length_cons, List.length_nil] <;> omega


/-- What stands in the model's text behind k parts. -/
def RPart (r : Rl) (k : Nat) (s : ByteArray) : Prop := s.data.toList = textL r.1 ++ (if k = 0 then [] else [32, 105, 102, 32] ++ bodyL (r.2.take k))

theorem bodyL_first {xs : List Pt} {q : Pt} (h : xs[0]? = some q) : bodyL (xs.take 1) = partL q := by
  obtain ⟨h1, h2⟩ := List.getElem?_eq_some_iff.1 h
  rw [List.take_succ_eq_append_getElem h1, h2]
  simp [bodyL, Lib.join_one]

theorem joinTail_snoc (sep : List UInt8) (r : List (List UInt8)) (x : List UInt8) : Lib.joinTail sep (r ++ [x]) = Lib.joinTail sep r ++ (sep ++ x) := by simp [Lib.joinTail]

theorem bodyL_next {xs : List Pt} {k : Nat} {q : Pt} (h : xs[k]? = some q) (hk : 0 < k) : bodyL (xs.take (k + 1)) = bodyL (xs.take k) ++ ([32, 97, 110, 100, 32] ++ partL q) := by
  obtain ⟨h1, h2⟩ := List.getElem?_eq_some_iff.1 h
  unfold bodyL
  rw [List.take_succ_eq_append_getElem h1, h2, List.map_append]
  have hne : xs.take k ≠ [] := fun e => by
    have h3 : (xs.take k).length = k := by rw [List.length_take]; omega
    rw [e] at h3
    simp at h3
    omega
  generalize xs.take k = ys at hne
  cases ys with
  | nil => exact absurd rfl hne
  | cons y r =>
    rw [List.map_cons, List.cons_append, Lib.join_cons, Lib.join_cons]
    show partL y ++ Lib.joinTail _ (r.map partL ++ [partL q]) = _
    rw [joinTail_snoc, List.append_assoc]

theorem RPart.start (r : Rl) : RPart r 0 ⟨(textL r.1).toArray⟩ := by unfold RPart; simp

theorem RPart.one {r : Rl} {s t : ByteArray} {q : Pt} {k : Nat} (h : RPart r k s) (hk : k = 0) (hq : r.2[k]? = some q) (ht : t.data.toList = partL q) : RPart r (k + 1) (s ++ ⟨#[32, 105, 102, 32]⟩ ++ t) := by
  subst hk
  unfold RPart at *
  rw [bodyL_first hq]
  simp [h, ht]

theorem RPart.next {r : Rl} {s t : ByteArray} {q : Pt} {k : Nat} (h : RPart r k s) (hk : 0 < k) (hq : r.2[k]? = some q) (ht : t.data.toList = partL q) : RPart r (k + 1) (s ++ ⟨#[32, 97, 110, 100, 32]⟩ ++ t) := by
  unfold RPart at *
  rw [bodyL_next hq hk]
  have hk0 : ¬ k = 0 := by omega
  simp [h, ht, hk0]

theorem RPart.all {r : Rl} {s : ByteArray} {k n : Nat} (h : RPart r k s) (hn : r.2.length = n) (hk : ¬ k < n) (hkn : k ≤ n) : s.data.toList = ruleL r := by
  have hkk : k = n := by omega
  unfold RPart at h
  rw [h]
  unfold ruleL
  rw [List.take_of_length_le (by omega), hn, hkk]

/-- The texts of few short parts are short. -/
theorem bodyL_le : ∀ (xs : List Pt), (∀ q ∈ xs, atomB q.2 = true) → (Lib.joinTail [32, 97, 110, 100, 32] (xs.map partL)).length ≤ 49 * xs.length
  | [], _ => by simp [Lib.joinTail]
  | q :: r, h => by
    have h1 := partL_le (h q (by simp))
    have h2 := bodyL_le r (fun x hx => h x (by simp [hx]))
    have h3 : Lib.joinTail [32, 97, 110, 100, 32] ((q :: r).map partL) = [32, 97, 110, 100, 32] ++ partL q ++ Lib.joinTail [32, 97, 110, 100, 32] (r.map partL) := by simp [Lib.joinTail]
    rw [h3]
    simp only [List.length_append, List.length_cons, List.length_nil]
    omega

theorem bodyL_short {xs : List Pt} (h : bodyB xs = true) (hl : xs.length ≤ 4) : (bodyL xs).length ≤ 200 := by
  unfold bodyB at h
  have ha := List.all_eq_true.1 h
  cases xs with
  | nil => simp [bodyL, Lib.join_nil]
  | cons q r =>
    have h1 := partL_le (ha q (by simp))
    have h2 := bodyL_le r (fun x hx => ha x (by simp [hx]))
    unfold bodyL
    rw [List.map_cons, Lib.join_cons]
    simp only [List.length_append, List.length_cons] at *
    omega

theorem RPart.size {r : Rl} {s : ByteArray} {k : Nat} (h : RPart r k s) (hb : bodyB r.2 = true) (ha : atomB r.1 = true) (hl : r.2.length ≤ 4) : s.size ≤ 300 := by
  have h1 : s.size = s.data.toList.length := rfl
  rw [h1, h]
  have h2 := textL_le ha
  have h3 : (bodyL (r.2.take k)).length ≤ 200 := by
    refine bodyL_short ?_ (by rw [List.length_take]; omega)
    unfold bodyB at *
    rw [List.all_eq_true] at *
    exact fun x hx => hb x (List.mem_of_mem_take hx)
  split <;> simp only [List.length_append, List.length_cons, List.length_nil] <;> omega


/-- What RulePut answers. -/
def rulePutB (r : Rl) : List UInt8 := if ruleB r then ruleL r else []



/-- A body may be asked. -/
def askB (qs : List Pt) : Bool := decide (1 ≤ qs.length) && (bodyB qs && decide (qs.length ≤ 4)) && tightB (asVars (partsT [] qs)) qs

theorem body_three {qs : List Pt} (h : bodyB qs = true) : ∀ q ∈ qs, q.2.2.length ≤ 3 := by
  intro q hq
  unfold bodyB at h
  have := List.all_eq_true.1 h q hq
  unfold atomB at this
  simp only [Bool.and_eq_true, decide_eq_true_eq] at this
  exact this.2.2

theorem body_small {qs : List Pt} (h : bodyB qs = true) : ∀ s ∈ partsT [] qs, s.size ≤ 16 := by
  intro s hs
  rw [partsT_all, mem_puts] at hs
  rcases hs with hs | hs
  · obtain ⟨q, hq, hv⟩ := List.mem_flatMap.1 hs
    unfold bodyB at h
    have := List.all_eq_true.1 h q hq
    unfold atomB at this
    simp only [Bool.and_eq_true, decide_eq_true_eq] at this
    obtain ⟨t, ht, rfl⟩ := List.mem_map.1 hv
    have ha := this.1
    unfold argsB at ha
    have h1 := List.all_eq_true.1 ha t (List.mem_filter.1 ht).1
    unfold termB at h1
    rw [show t.2.size = t.2.data.toList.length from rfl]
    split at h1
    · have := var_le h1; omega
    · have := name_le h1; omega
  · simp at hs

set_option maxHeartbeats 1000000 in
theorem implAskOk_any (B : Option Addr) (m d : Nat) (qs : List Pt) (w : World) (h : IsParts w 0 w.heap.size B m d qs) :
    Calls Tryz.prog 42 #[.slice B m d] w (BoolPost (askB qs) w) := by
  have L := Lib.hid h.1
  have H := Lib.hid h; clear h
  by_cases hm : (0 : Int) < (m : Int)
  · go_enter Tryz.func42, Tryz.ntmps42
    go_wp2_with fail
    refine (bodyOk_any B m d qs w H.out).mono ?_; rintro e w1 ⟨rfl, hb1⟩
    cases hB : (bodyB qs && decide (qs.length ≤ 4))
    · have E := Lib.hid (show askB qs = false by unfold askB; rw [hB]; simp)
      go_wp2
      go_ret; exact ⟨retB E.out.symm, hb1⟩
    · have h4 : bodyB qs = true ∧ qs.length ≤ 4 := by simpa using hB
      have E := Lib.hid (show askB qs = !looseB [((⟨#[]⟩, []), qs)] (mvars qs) by unfold askB; rw [hB, tight_loose ⟨#[]⟩, L.out]; simp; omega)
      have hl := L.out
      go_wp2_with fail
      refine (isLoose_any ⟨#[]⟩ none 0 0 [] B m d qs w1 (Nat.zero_le _) ⟨rfl, Nat.le_refl _, Nat.zero_le _, fun h0 => absurd h0 (by simp)⟩ (H.out.up PartE.stays hb1) (body_three h4.1) (by omega)).mono ?_; rintro e w2 ⟨rfl, hb2⟩
      go_wp2
      go_ret; exact ⟨retB E.out.symm, belowThen hb1 hb2⟩
  · have E := Lib.hid (show askB qs = false by unfold askB; rw [L.out]; (have : m = 0 := by omega); subst this; rfl)
    go_enter Tryz.func42, Tryz.ntmps42
    go_wp2
    go_ret; exact ⟨retB E.out.symm, Below.refl _ _⟩

set_option maxHeartbeats 1000000 in
theorem specAskOk_any (B : Option Addr) (m d : Nat) (qs : List Pt) (w : World) (h : IsParts w 0 w.heap.size B m d qs) :
    Calls Tryz.prog 27 #[.slice B m d] w (BoolPost (askB qs) w) := by
  have L := Lib.hid h.1
  have hmx := h.len
  unfold maxLen at hmx
  have H := Lib.hid h; clear h
  go_enter Tryz.func27, Tryz.ntmps27
  go_wp2
  go_loopw [3] (fun i wr => ∃ k : Nat, k ≤ m ∧ i = .int .i64 (k : Int) ∧ bodyB (qs.take k) = true ∧ Below w.heap.size w wr) (fun i _ => m - (intOf i).toNat)
  case atStart => exact ⟨0, Nat.zero_le _, rfl, rfl, Below.refl _ _⟩
  case round =>
    obtain ⟨k, hk, rfl, hd, HB⟩ := hrel
    have HD := Lib.hid hd; clear hd
    by_cases hlt : k < m
    · have hlt2 : (k : Int) < (m : Int) := by omega
      obtain ⟨p, q, hA, hlo, hhi, hg, hE⟩ := (H.out.below PartE.stays HB (Nat.le_refl _)).at_ hlt
      obtain ⟨C, n', c', d1, d2, d3, d4, d5⟩ := hE.out
      clear hE
      subst hA
      have HG := Lib.hid hg; clear hg
      have HT := Lib.hid (d5.keep (lo' := 0) (hi' := wr.heap.size) (fun _ _ _ => rfl) (Nat.le_refl _) HB.size); clear d5
      go_wp2_with fail
      refine (specAtomOk_any _ _ _ _ q.2.2 _ d3 HT.out).mono ?_; rintro e w1 ⟨rfl, hb1⟩
      go_wp2
      · go_ret; exact ⟨retB (by unfold askB; rw [bodyB_no HG.out (atom_no (by assumption))]; simp), belowThen HB hb1⟩
      · go_roundw
        case rel => exact ⟨k + 1, by omega, by go_num, bodyB_snoc HG.out HD.out (atom_yes (by assumption)), belowThen HB hb1⟩
        case measure => simp [intOf]; omega
    · have hbo := bodyB_all L.out hlt HD.out
      have E := Lib.hid hbo
      have hl := L.out
      by_cases hr : (1 ≤ m ∧ m ≤ 4)
      · have hi : (decide ((1 : Int) ≤ (m : Int)) && decide ((m : Int) ≤ 4)) = true := by simp; omega
        have E2 := Lib.hid (show askB qs = tightB (asVars (partsT [] qs)) qs by unfold askB; rw [hbo, L.out]; simp; omega)
        have hlenV := partsT_len qs [] (body_three hbo)
        rw [hl] at hlenV
        simp only [List.length_nil] at hlenV
        go_wp2_with (go_at_call 70; refine (in_any _ _ _ _).mono ?_; rintro e w' ⟨rfl, rfl⟩)
        refine (l5Rule_any ⟨#[120]⟩ B m d qs wr (H.out.up PartE.stays HB) (body_three E.out) (by omega) (body_small E.out)).mono ?_; rintro e w1 ⟨A5, c5, rfl, hT5, hb1⟩
        have HT5 := Lib.hid hT5; have HB1 := belowThen HB hb1
        clear hT5
        go_wp2_with fail
        refine (l2Tight_any _ A5 _ c5 _ B m d qs w1 HT5.out (H.out.up PartE.stays HB1) (body_three E.out) (by omega) (by omega)).mono ?_; rintro e w2 ⟨rfl, hb2⟩
        go_wp2
        go_ret; exact ⟨retB E2.out.symm, belowThen HB1 hb2⟩
      · have hi : (decide ((1 : Int) ≤ (m : Int)) && decide ((m : Int) ≤ 4)) = false := by simp; omega
        have E2 := Lib.hid (show askB qs = false by unfold askB; rw [hbo, L.out]; simp; omega)
        go_wp2_with (go_at_call 70; refine (in_any _ _ _ _).mono ?_; rintro e w' ⟨rfl, rfl⟩)
        go_ret; exact ⟨retB E2.out.symm, HB⟩

end Go.Proofs.YtcigljngiemdeaaGreat
