/-
  The keys of a map of texts, sorted, are the texts in their order.
  The variables of what is asked, in the model and in the program.
-/
import Derived.Test.YtfghmphaldefbaaAskMath
import Derived.Sort.KeysCollected
import Derived.Test.YtfghmphaldefbaaAskOk
import Derived.Test.YtfghmphaldefbaaIter
namespace Go.Proofs.Ytfghmphaldefbaa
open Go.RowKit Go.Maps

theorem bset_keys (l : List ByteArray) : ∀ y ∈ l.map (fun s : ByteArray => Lit.string s.data.toList), WideAt.IsKeyLit y := by
  intro y hy
  obtain ⟨u, _, rfl⟩ := List.mem_map.1 hy
  trivial

theorem bset_size (vs : List ByteArray) : Maps.size (bset vs) ≤ vs.length := by
  have h : ∀ (xs L : List Lit), (xs.foldl addKey L).length ≤ L.length + xs.length := by
    intro xs
    induction xs with
    | nil => intro L; simp
    | cons x xs ih =>
      intro L
      have h1 := ih (addKey L x)
      have h2 : (addKey L x).length ≤ L.length + 1 := by unfold addKey; split <;> simp
      simp only [List.foldl_cons, List.length_cons]
      omega
  have h3 := h (vs.map fun s => .string s.data.toList) []
  rw [← size_setOf (.lit (.bool true) : DataW Unit) _ (bset_keys vs)] at h3
  simp only [List.length_nil, List.length_map, Nat.zero_add] at h3
  exact h3

theorem bytes_eq {s t : ByteArray} (h : s.data.toList = t.data.toList) : s = t := by
  cases s; cases t
  simp only [ByteArray.mk.injEq]
  exact Array.toList_inj.1 h

theorem bytes_lt : ∀ x y : List UInt8, Op.bytesLess x y = decide (x < y)
  | [], [] => by simp [Op.bytesLess]
  | _ :: _, [] => by simp [Op.bytesLess]
  | [], _ :: _ => by simp [Op.bytesLess]
  | a :: x, b :: y => by
    rw [Op.bytesLess, bytes_lt x y]
    simp only [List.cons_lt_cons_iff]
    by_cases h1 : a < b <;> by_cases h2 : a = b <;> by_cases h3 : x < y <;> simp [h1, h2, h3]

theorem keys_sorted {w : World} {b n : Nat} {vs L : List ByteArray} (hown : w.ownsMap Try.prog 9 (plainElem Try.prog 4) b n (bset vs)) (hL : InRow L) (hm : ∀ x, x ∈ L ↔ x ∈ vs) {ss : List (List UInt8)} (hp : ss.Perm (strKeys (bset vs))) :
    ss.mergeSort (fun x y => decide (x ≤ y)) = L.map fun s => s.data.toList := by
  obtain ⟨es, he, hk⟩ := hown.keysOf
  have hk' : ∀ p ∈ es, ∃ x, p.1 = .string x := fun p hp => by
    obtain ⟨key, h⟩ := hk p hp
    obtain ⟨x, _, hx, _⟩ := keyOf_str Try.underlying9 h
    exact ⟨x, hx⟩
  obtain ⟨es', he', hpw⟩ := tidy_setOf (.lit (.bool true) : DataW Unit) _ (bset_keys vs)
  have e1 : es' = es := by have := he'.symm.trans he; injection this
  subst e1
  have P1 := perm_strKeys hpw hk' (ss := L.map fun s => s.data.toList) (List.pairwise_map.2 (hL.nodup.imp fun {a b} h e => h (bytes_eq e))) (fun x => by
    rw [← he', has_setOf _ _ _ (bset_keys vs), List.any_eq_true, List.mem_map]
    constructor
    · rintro ⟨s, hs, rfl⟩
      exact ⟨_, List.mem_map_of_mem ((hm s).1 hs), WideAt.sameKey_self trivial⟩
    · rintro ⟨y, hy, hs⟩
      obtain ⟨s, hs', rfl⟩ := List.mem_map.1 hy
      have := WideAt.sameKey_eq hs
      injection this with this
      exact ⟨s, (hm s).2 hs', this⟩)
  rw [← he] at P1
  have h1 := mergeSort_of_perm (hp.trans P1.symm)
  refine h1.trans (List.mergeSort_of_pairwise ?_)
  refine List.pairwise_map.2 (hL.imp fun {a c} h => ?_)
  rw [ltT_cmp, decide_eq_true_eq, Lib.toList_data, Lib.toList_data] at h
  have h2 := bytes_anti a.data.toList c.data.toList
  have h3 := (less_cmp c.data.toList a.data.toList).1
  rw [bytes_lt] at h3
  refine decide_eq_true (List.not_lt.1 fun hlt => ?_)
  rw [decide_eq_true hlt] at h3
  have h4 := of_decide_eq_true h3.symm
  omega

end Go.Proofs.Ytfghmphaldefbaa

namespace Go.Proofs.Ytfghmphaldefbaa
open Go.RowKit Go.Maps Go.Sort Go.Shelf

/-- What AskVars answers. -/
def askVarsB (xs : List Pt) : List ByteArray := if askB xs then partsT [] xs else []

/-- Texts were told that are the call's own. -/
def OwnTextsPost (ls : List ByteArray) (w : World) (e : Ending) (w' : World) : Prop := ∃ v, e = .returned v ∧ w'.ownsRow w.heap.size 9 1 v ls.length (tcl ls) ∧ Below w.heap.size w w'

theorem askB_ok {xs : List Pt} (h : askB xs = true) : bodyB xs = true ∧ xs.length ≤ 4 := by
  unfold askB at h
  simp only [Bool.and_eq_true, decide_eq_true_eq] at h
  exact h.1.2

theorem mvars_len {xs : List Pt} (h : ∀ q ∈ xs, q.2.2.length ≤ 3) : (mvars xs).length ≤ 3 * xs.length := by
  induction xs with
  | nil => simp [mvars, musts]
  | cons q xs ih =>
    have h1 := ih (fun x hx => h x (List.mem_cons_of_mem _ hx))
    have h2 := h q (List.mem_cons_self ..)
    have h3 := varsOf_len q.2.2 q.2.2.length
    rw [List.take_of_length_le (Nat.le_refl _)] at h3
    unfold mvars musts at *
    rw [List.filter_cons]
    split <;> simp only [List.flatMap_cons, List.length_append, List.length_cons] <;> omega

theorem enc_back (L : List ByteArray) : (L.map fun s => s.data.toList).map encStr = tcl L := by
  unfold tcl
  rw [List.map_map]
  refine List.map_congr_left fun s _ => ?_
  show Value.string ⟨s.data.toList.toArray⟩ = .string s
  rw [Array.toArray_toList]

theorem tight_all {qs : List Pt} (h : askB qs = true) (x : ByteArray) : x ∈ partsT [] qs ↔ x ∈ mvars qs := by
  have h1 : tightB (asVars (partsT [] qs)) qs = true := by
    unfold askB at h
    simp only [Bool.and_eq_true] at h
    exact h.2
  rw [tight_loose ⟨#[]⟩] at h1
  have h2 : looseB [((⟨#[]⟩, []), qs)] (mvars qs) = false := by simpa using h1
  rw [partsT_all, mem_puts]
  constructor
  · rintro (hx | hx)
    · refine Classical.byContradiction fun hn => ?_
      obtain ⟨q, hq, hv⟩ := List.mem_flatMap.1 hx
      have h3 : looseB [((⟨#[]⟩, []), qs)] (mvars qs) = true := by
        unfold looseB
        rw [List.any_eq_true]
        refine ⟨q.2, by unfold atsOf; rw [List.flatMap_singleton]; exact List.mem_cons_of_mem _ (List.mem_map_of_mem hq), List.any_eq_true.2 ⟨x, hv, ?_⟩⟩
        cases h : memT (mvars qs) x
        · rfl
        · exact absurd (memT_iff.1 h) hn
      rw [h2] at h3
      cases h3
    · simp at hx
  · intro hx
    unfold mvars musts at hx
    obtain ⟨q, hq, hv⟩ := List.mem_flatMap.1 hx
    exact .inl (List.mem_flatMap.2 ⟨q, (List.mem_filter.1 hq).1, hv⟩)

set_option maxRecDepth 100000 in
set_option maxHeartbeats 4000000 in
theorem implAskVars_any (B : Option Addr) (m d : Nat) (xs : List Pt) (w : World) (h : IsParts w 0 w.heap.size B m d xs) :
    Calls Try.prog 32 #[.slice B m d] w (OwnTextsPost (askVarsB xs) w) := by
  have H := Lib.hid h; clear h
  have hl := H.out.1
  refine (callsIn_wide (n := 6)).1 ?_
  have hfK : Fence.wide.fn 84 := trivial
  have hfS : Fence.wide.fn 83 := trivial
  refine callsIn_of_wp Try.func32 rfl trivial ?_ rfl
  simp only [Try.ntmps32, List.size_toArray, List.length_cons, List.length_nil, Nat.reduceAdd, Nat.reduceSub, Array.replicate_succ, Array.replicate_zero, List.push_toArray, List.append_toArray, List.nil_append, List.cons_append]
  gi_wp2_with fail
  refine ⟨trivial, (callsIn_wide.2 (implAskOk_any B m d xs w H.out)).mono ?_⟩
  rintro e w1 ⟨rfl, HB1⟩
  cases hA : askB xs
  · have E := Lib.hid (show askVarsB xs = [] by unfold askVarsB; rw [hA]; rfl); clear hA
    gi_wp2
    go_ret; exact ⟨_, rfl, by rw [E.out]; exact World.ownsRow_nil _ _ _ _, HB1⟩
  · have E := Lib.hid (show askVarsB xs = partsT [] xs by unfold askVarsB; rw [hA]; rfl)
    have EM := Lib.hid (tight_all hA)
    have EA := askB_ok hA
    have E3 := body_three EA.1
    clear hA
    gi_wp2_with fail
    refine ⟨trivial, (callsIn_wide.2 (boundVars_any B m d xs w1 (H.out.up PartE.stays HB1) E3 (by omega))).mono ?_⟩
    rintro e w2 ⟨b, N, rfl, hb, hown, hb2⟩
    have hsz := bset_size (mvars xs)
    have hmv : (mvars xs).length ≤ 12 := by have := mvars_len E3; have := EA.2; omega
    gi_wp2_with (first
      | (gi_at_call 84; refine (Try.maps_Keys_84 _ _).mono ?_; rintro e w' ⟨rfl, rfl⟩)
      | (gi_at_call 83; refine (Try.slices_Sorted_keys_83_84 b N (bset (mvars xs)) _ w2 hown (by unfold maxLen; omega) (by omega)).mono ?_; rintro e w' ⟨v, ss, rfl, hS, hrow, hnil, hb3⟩))
    go_ret
    have hk := keys_sorted hown (show InRow (partsT [] xs) by rw [partsT_all]; exact InRow.puts List.Pairwise.nil) EM.out hS
    rw [hk, enc_back] at hrow
    have hss : ss.length = (partsT [] xs).length := by have := congrArg List.length hk; rwa [List.length_mergeSort, List.length_map] at this
    rw [hss] at hrow
    refine ⟨v, rfl, by rw [E.out]; exact ownsRow_base_a hrow (by have := HB1.size; have := hb2.size; simp; omega), belowThen (belowThen HB1 hb2) ?_⟩
    exact ((Below.refl _ w2).alloc (Nat.le_refl _) _).trans (hb3.mono (by simp))

end Go.Proofs.Ytfghmphaldefbaa

