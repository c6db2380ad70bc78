/-
  Each variable in something that must be: told by two counts, and told by a search: the same.
-/
import Derived.Test.YtahkkelahocplaaDoorTight
import Derived.Test.YtahkkelahocplaaDoorLoose
import Derived.Test.YtahkkelahocplaaDoorOrder
namespace Go.Proofs.YtahkkelahocplaaDoor
open Go.RowKit

theorem ltT_cmp (s t : ByteArray) : ltT s t = decide (Lib.compareBytes t.toList s.toList = -1) := (less_cmp _ _).1

theorem bytes_text {s t : ByteArray} (h : s.toList = t.toList) : s = t := by
  rw [Lib.toList_data, Lib.toList_data] at h
  cases s; cases t
  simp only [ByteArray.mk.injEq]
  exact Array.toList_inj.1 h

theorem ltT_trans {a b c : ByteArray} (h : ltT b a = true) (k : ltT c b = true) : ltT c a = true := by
  rw [ltT_cmp, decide_eq_true_eq] at *
  have h1 := bytes_on a.toList b.toList c.toList (by omega) (by omega)
  rcases cmp_range a.toList c.toList with e | e | e
  · exact e
  · have := bytes_same e
    rw [this] at h
    have := bytes_anti b.toList c.toList
    omega
  · omega

theorem ltT_irr (a : ByteArray) : ltT a a = false := by
  rw [ltT_cmp, bytes_self]; rfl

theorem ltT_total {s t : ByteArray} (h : ltT s t = false) (hne : t ≠ s) : ltT t s = true := by
  rw [ltT_cmp] at *
  rw [decide_eq_false_iff_not] at h
  rw [decide_eq_true_eq]
  have h1 := bytes_anti t.toList s.toList
  rcases cmp_range t.toList s.toList with e | e | e
  · exact absurd e h
  · exact absurd (bytes_text (bytes_same e)) hne
  · omega

/-- Each text is ahead of those behind it. -/
def InRow (ls : List ByteArray) : Prop := ls.Pairwise fun a b => ltT b a = true

theorem InRow.nodup {ls : List ByteArray} (h : InRow ls) : ls.Nodup := h.imp fun {a b} h e => by subst e; rw [ltT_irr] at h; cases h

theorem mem_putT {ls : List ByteArray} {s x : ByteArray} : x ∈ putT ls s ↔ x = s ∨ x ∈ ls := by
  unfold putT
  by_cases h : (ls.dropWhile (ltT s)).head? = some s
  · rw [if_pos h]
    refine ⟨.inr, fun e => e.elim (fun e => ?_) id⟩
    subst e
    exact (List.dropWhile_sublist _).subset (List.mem_of_head? h)
  · rw [if_neg h]
    have e := List.takeWhile_append_dropWhile (p := ltT s) (l := ls)
    conv => rhs; rw [← e]
    simp only [List.mem_append, List.mem_cons]
    exact ⟨fun h => by rcases h with h | h | h <;> simp [h], fun h => by rcases h with h | h | h <;> simp [h]⟩

theorem InRow.put {ls : List ByteArray} (h : InRow ls) (s : ByteArray) : InRow (putT ls s) := by
  unfold putT
  by_cases hs : (ls.dropWhile (ltT s)).head? = some s
  · rw [if_pos hs]; exact h
  · rw [if_neg hs]
    have e := List.takeWhile_append_dropWhile (p := ltT s) (l := ls)
    have h1 : InRow (ls.takeWhile (ltT s) ++ ls.dropWhile (ltT s)) := by rw [e]; exact h
    obtain ⟨p1, p2, p3⟩ := List.pairwise_append.1 h1
    have hlo : ∀ x ∈ ls.takeWhile (ltT s), ltT s x = true := fun x hx => by
      have := List.all_takeWhile (p := ltT s) (l := ls)
      exact List.all_eq_true.1 this x hx
    have hhi : ∀ x ∈ ls.dropWhile (ltT s), ltT x s = true := by
      cases hd : ls.dropWhile (ltT s) with
      | nil => intro x hx; simp at hx
      | cons t rest =>
        rw [hd] at hs p2
        have ht : ltT s t = false := by
          have := List.head?_dropWhile_not (ltT s) ls
          rw [hd] at this
          simpa using this
        have hts := ltT_total ht (fun e => hs (by rw [e]; rfl))
        intro x hx
        rcases List.mem_cons.1 hx with rfl | hx
        · exact hts
        · exact ltT_trans hts ((List.pairwise_cons.1 p2).1 x hx)
    refine List.pairwise_append.2 ⟨p1, List.pairwise_cons.2 ⟨hhi, p2⟩, fun a ha b hb => ?_⟩
    rcases List.mem_cons.1 hb with rfl | hb
    · exact hlo a ha
    · exact p3 a ha b hb

theorem mem_puts : ∀ {vs ls : List ByteArray} {x : ByteArray}, x ∈ vs.foldl putT ls ↔ x ∈ vs ∨ x ∈ ls
  | [], ls, x => by simp
  | v :: vs, ls, x => by
    rw [List.foldl_cons, mem_puts, mem_putT, List.mem_cons]
    exact ⟨fun h => by rcases h with h | h | h <;> simp [h], fun h => by rcases h with (h | h) | h <;> simp [h]⟩

theorem InRow.puts : ∀ {vs ls : List ByteArray}, InRow ls → InRow (vs.foldl putT ls)
  | [], _, h => h
  | v :: vs, ls, h => by rw [List.foldl_cons]; exact InRow.puts (vs := vs) (h.put v)

theorem partsT_all : ∀ (qs : List Pt) (ls : List ByteArray), partsT ls qs = (qs.flatMap fun q => varsOf q.2.2).foldl putT ls
  | [], _ => rfl
  | q :: qs, ls => by
    rw [List.flatMap_cons, List.foldl_append, ← partsT_all qs]; rfl

theorem varsOf_as (vs : List ByteArray) : varsOf (asVars vs) = vs := by
  unfold varsOf asVars
  induction vs with
  | nil => rfl
  | cons v vs ih => simpa using ih

theorem nodup_sub {α : Type} : ∀ {l m : List α}, l.Nodup → (∀ x ∈ l, x ∈ m) → l.length ≤ m.length
  | [], _, _, _ => Nat.zero_le _
  | a :: l, m, hn, hs => by
    obtain ⟨s, t, rfl⟩ := List.append_of_mem (hs a (List.mem_cons_self ..))
    have hc := List.nodup_cons.1 hn
    have := nodup_sub (m := s ++ t) hc.2 (fun x hx => by
      have h1 := hs x (List.mem_cons_of_mem _ hx)
      simp only [List.mem_append, List.mem_cons] at h1 ⊢
      rcases h1 with h1 | h1 | h1
      · exact .inl h1
      · subst h1; exact absurd hx hc.1
      · exact .inr h1)
    simp only [List.length_append, List.length_cons] at this ⊢
    omega

/-- By two counts, and by a search. -/
theorem tight_loose (nm : ByteArray) (qs : List Pt) : tightB (asVars (partsT [] qs)) qs = !looseB [((nm, []), qs)] (mvars qs) := by
  have hA : ∀ x, x ∈ partsT (varsT [] (asVars (partsT [] qs))) qs ↔ x ∈ qs.flatMap fun q => varsOf q.2.2 := by
    intro x
    unfold varsT
    rw [varsOf_as, partsT_all, partsT_all, mem_puts, mem_puts, mem_puts]
    simp
  have hB : ∀ x, x ∈ partsT [] (musts qs) ↔ x ∈ mvars qs := by
    intro x
    rw [partsT_all, mem_puts]
    unfold mvars
    simp
  have nA : (partsT (varsT [] (asVars (partsT [] qs))) qs).Nodup := by rw [partsT_all]; exact (InRow.puts (InRow.puts List.Pairwise.nil)).nodup
  have nB : (partsT [] (musts qs)).Nodup := by rw [partsT_all]; exact (InRow.puts List.Pairwise.nil).nodup
  have hsub : ∀ x ∈ partsT [] (musts qs), x ∈ partsT (varsT [] (asVars (partsT [] qs))) qs := by
    intro x hx
    rw [hB] at hx
    rw [hA]
    unfold mvars musts at hx
    obtain ⟨q, hq, hx⟩ := List.mem_flatMap.1 hx
    exact List.mem_flatMap.2 ⟨q, (List.mem_filter.1 hq).1, hx⟩
  have hat : atsOf [((nm, ([] : List Tm)), qs)] = (nm, []) :: qs.map (·.2) := by unfold atsOf; simp
  have hl : looseB [((nm, []), qs)] (mvars qs) = true ↔ ∃ x ∈ qs.flatMap (fun q => varsOf q.2.2), x ∉ mvars qs := by
    unfold looseB
    rw [hat, List.any_cons]
    simp only [varsOf, List.filter_nil, List.map_nil, List.any_nil, Bool.false_or]
    rw [List.any_eq_true]
    constructor
    · rintro ⟨a, ha, h⟩
      obtain ⟨q, hq, rfl⟩ := List.mem_map.1 ha
      obtain ⟨v, hv, hn⟩ := List.any_eq_true.1 h
      exact ⟨v, List.mem_flatMap.2 ⟨q, hq, hv⟩, fun hin => by rw [memT_iff.2 hin] at hn; cases hn⟩
    · rintro ⟨v, hv, hn⟩
      obtain ⟨q, hq, hv⟩ := List.mem_flatMap.1 hv
      refine ⟨q.2, List.mem_map_of_mem hq, List.any_eq_true.2 ⟨v, hv, ?_⟩⟩
      cases h : memT (mvars qs) v
      · rfl
      · exact absurd (memT_iff.1 h) hn
  unfold tightB
  cases hL : looseB [((nm, []), qs)] (mvars qs)
  · have hno : ∀ x ∈ qs.flatMap (fun q => varsOf q.2.2), x ∈ mvars qs := by
      intro x hx
      refine Classical.byContradiction fun hn => ?_
      have := hl.2 ⟨x, hx, hn⟩
      rw [hL] at this
      cases this
    have h1 := nodup_sub nB hsub
    have h2 := nodup_sub nA (fun x hx => (hB x).2 (hno x ((hA x).1 hx)))
    exact decide_eq_true (by omega)
  · obtain ⟨x, hx, hn⟩ := hl.1 hL
    have h1 := nodup_sub (l := x :: partsT [] (musts qs)) (List.nodup_cons.2 ⟨fun h => hn ((hB x).1 h), nB⟩) (fun y hy => (List.mem_cons.1 hy).elim (fun e => by rw [e]; exact (hA x).2 hx) (hsub y))
    rw [List.length_cons] at h1
    exact decide_eq_false (by omega)

end Go.Proofs.YtahkkelahocplaaDoor
