/-
  The variables of atoms, of parts and of a rule, in the model: put among others; and whether each is in something that must be.
-/
import Derived.Test.YtalneeelcdmoaaaGreatDoorTexts
import Derived.Test.YtalneeelcdmoaaaGreatDoorVars
namespace Go.Proofs.YtalneeelcdmoaaaGreatDoor
open Go.RowKit

/-- Variables of an atom put among others. -/
def varsT (ls : List ByteArray) (ts : List Tm) : List ByteArray := (varsOf ts).foldl putT ls

theorem putT_len (ls : List ByteArray) (s : ByteArray) : (putT ls s).length ≤ ls.length + 1 := by
  unfold putT
  by_cases h : (ls.dropWhile (ltT s)).head? = some s
  · rw [if_pos h]; omega
  · rw [if_neg h, List.length_append, List.length_cons]
    have := congrArg List.length (List.takeWhile_append_dropWhile (p := ltT s) (l := ls))
    rw [List.length_append] at this
    omega

theorem putsT_len : ∀ (vs ls : List ByteArray), (vs.foldl putT ls).length ≤ ls.length + vs.length
  | [], ls => by simp
  | v :: vs, ls => by
    have := putsT_len vs (putT ls v)
    have := putT_len ls v
    simp only [List.foldl_cons, List.length_cons]; omega

theorem varsT_len (ls : List ByteArray) (ts : List Tm) : (varsT ls ts).length ≤ ls.length + ts.length := by
  unfold varsT
  have h1 := putsT_len (varsOf ts) ls
  have h2 := varsOf_len ts ts.length
  rw [List.take_of_length_le (Nat.le_refl _)] at h2
  omega

theorem varsT_no {ls : List ByteArray} {ts : List Tm} {k : Nat} {t : Tm} (h : ts[k]? = some t) (ht : t.1 = false) : varsT ls (ts.take (k + 1)) = varsT ls (ts.take k) := by unfold varsT; rw [varsOf_no h ht]
theorem varsT_yes {ls : List ByteArray} {ts : List Tm} {k : Nat} {t : Tm} (h : ts[k]? = some t) (ht : t.1 = true) : varsT ls (ts.take (k + 1)) = putT (varsT ls (ts.take k)) t.2 := by unfold varsT; rw [varsOf_yes h ht, List.foldl_append]; rfl

set_option maxRecDepth 100000 in
set_option maxHeartbeats 4000000 in
theorem l2Vars_any (nm : ByteArray) (A : Option Addr) (n c : Nat) (ts : List Tm) (p : Addr) (m d : Nat) (ls : List ByteArray) (w : World) (L0 : Nat) (hL0 : L0 ≤ w.heap.size) (h : IsTerms w 0 w.heap.size A n c ts) (h' : IsTexts w L0 w.heap.size (some p) m d ls) (hmax : m + n ≤ 1048576) :
    Calls Tryz.prog 94 #[.agg #[.string nm, .slice A n c], .slice (some p) m d] w (TextsPost L0 (varsT ls ts) w) := by
  have hw0 := below1 w (.cells #[.string nm, .slice A n c] 60)
  have X0 := Lib.hid (Box.new w (.string nm) (.slice A n c) 60)
  have HL := Lib.hid h.1; have HL' := Lib.hid h'.1
  have H0 := Lib.hid (h.up hw0); have H0' := Lib.hid (h'.up TextE.stays hw0); clear h h'
  obtain ⟨W0, hW0⟩ : ∃ W0, w.alloc (.cells #[.string nm, .slice A n c] 60) = W0 := ⟨_, rfl⟩
  go_enter Tryz.func94, Tryz.ntmps94
  go_wp2_with fail
  rw [hW0] at hw0 X0 H0 H0'
  have hw1 := hw0
  have HW := Lib.hid hw0; clear hw0
  go_loopw [1, 5] (fun v i wr => ∃ (k : Nat) (p' : Addr) (d' : Nat), k ≤ n ∧ i = .int .i64 (k : Int) ∧ v = .slice (some p') (varsT ls (ts.take k)).length d' ∧ IsTexts wr L0 wr.heap.size (some p') (varsT ls (ts.take k)).length d' (varsT ls (ts.take k)) ∧ Below W0.heap.size W0 wr) (fun _ i _ => n - (intOf i).toNat)
  case atStart => exact ⟨0, p, d, Nat.zero_le _, rfl, by rw [← HL'.out]; rfl, by have := H0'.out; rw [← HL'.out] at this; exact this, Below.refl _ _⟩
  case round =>
    obtain ⟨k, p', d', hk, rfl, rfl, hT, hb⟩ := hrel
    have HT := Lib.hid hT; clear hT
    obtain ⟨_, x0, x1⟩ := X0.out.later hb
    by_cases hlt : k < n
    · have hlt2 : (k : Int) < (n : Int) := by omega
      obtain ⟨q, t, hA, -, hhi, hg, c1, c2, c3⟩ := (H0.out.below hb (Nat.le_refl _)).at_ hlt
      subst hA
      have HG := Lib.hid hg; clear hg
      have hlen := varsT_len ls (ts.take k)
      rw [List.length_take, HL.out, HL'.out] at hlen
      have hmin := Nat.min_le_left k n
      cases ht : t.1
      · rw [ht] at c1
        go_wp2
        go_roundw
        case rel => exact ⟨k + 1, p', d', by omega, by go_num, by rw [varsT_no HG.out ht], by rw [varsT_no HG.out ht]; exact HT.out, hb⟩
        case measure => simp [intOf]; omega
      · rw [ht] at c1
        go_wp2_with fail
        refine (l2Put_any p' _ d' (varsT ls (ts.take k)) t.2 wr L0 (by have := hw1.size; have := hb.size; omega) HT.out (by omega)).mono ?_; rintro e w2 ⟨p2, d2, rfl, hT2, hb2⟩
        have HT2 := Lib.hid hT2; have hb3 := belowThen hb hb2; clear hT2 hb2
        go_wp2
        go_roundw
        case rel => exact ⟨k + 1, p2, d2, by omega, by go_num, by rw [varsT_yes HG.out ht], by rw [varsT_yes HG.out ht]; exact HT2.out, hb3⟩
        case measure => simp [intOf]; omega
    · have hk2 : k = n := by omega
      have e : varsT ls (ts.take k) = varsT ls ts := by rw [List.take_of_length_le (by rw [HL.out]; omega)]
      have E := Lib.hid e; clear e
      go_wp2
      go_ret; exact ⟨p', d', by rw [E.out]; rfl, by rw [← E.out]; exact HT.out, belowThen HW.out hb⟩

/-- Variables of parts put among others. -/
def partsT (ls : List ByteArray) (qs : List Pt) : List ByteArray := qs.foldl (fun L q => varsT L q.2.2) ls

theorem partsT_step {ls : List ByteArray} {qs : List Pt} {k : Nat} {q : Pt} (h : qs[k]? = some q) : partsT ls (qs.take (k + 1)) = varsT (partsT ls (qs.take k)) q.2.2 := by
  unfold partsT; rw [List.take_add_one, h, List.foldl_append]; rfl

theorem partsT_len : ∀ (qs : List Pt) (ls : List ByteArray), (∀ q ∈ qs, q.2.2.length ≤ 3) → (partsT ls qs).length ≤ ls.length + 3 * qs.length
  | [], ls, _ => by simp [partsT]
  | q :: qs, ls, h => by
    have h1 := partsT_len qs (varsT ls q.2.2) (fun x hx => h x (List.mem_cons_of_mem _ hx))
    have h2 := varsT_len ls q.2.2
    have h3 := h q (List.mem_cons_self ..)
    show (partsT (varsT ls q.2.2) qs).length ≤ _
    simp only [List.length_cons]; omega

end Go.Proofs.YtalneeelcdmoaaaGreatDoor
