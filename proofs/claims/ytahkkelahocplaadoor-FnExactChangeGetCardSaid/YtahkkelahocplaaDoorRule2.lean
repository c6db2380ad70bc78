/-
  Rules: the law's own comparison of one rule; rules that are ok, in the program and in its model.
-/
import Derived.Test.YtahkkelahocplaaDoorRule
import Derived.Test.YtahkkelahocplaaDoorAtomOk
namespace Go.Proofs.YtahkkelahocplaaDoor
open Go.RowKit

def ruleEq (a b : Rl) : Bool := atomEq a.1 b.1 && listEq partEq a.2 b.2

theorem ruleEq_refl (a : Rl) : ruleEq a a = true := by unfold ruleEq; simp [atomEq_refl, listEq_refl partEq_refl]

set_option maxHeartbeats 1000000 in
theorem eqRule_any (nm nm' : ByteArray) (A A' B B' : Option Addr) (n c m d n' c' m' d' : Nat) (ts us : List Tm) (xs ys : List Pt) (w : World) (h : IsRule w w.heap.size A n c B m d ts xs) (h' : IsRule w w.heap.size A' n' c' B' m' d' us ys) :
    Calls Tryd.prog 24 #[.agg #[.string nm, .slice A n c, .slice B m d], .agg #[.string nm', .slice A' n' c', .slice B' m' d']] w (BoolPost (ruleEq ((nm, ts), xs) ((nm', us), ys)) w) := by
  have H := Lib.hid h; clear h
  have H' := Lib.hid h'; clear h'
  have hw0 := below2 w (.cells #[.string nm, .slice A n c, .slice B m d] 38) (.cells #[.string nm', .slice A' n' c', .slice B' m' d'] 38)
  have X0 := Lib.hid ((Box3.new w (.string nm) (.slice A n c) (.slice B m d) 38).later (below1 _ (.cells #[.string nm', .slice A' n' c', .slice B' m' d'] 38)))
  have Y0 := Lib.hid (Box3.new (w.alloc (.cells #[.string nm, .slice A n c, .slice B m d] 38)) (.string nm') (.slice A' n' c') (.slice B' m' d') 38)
  go_enter Tryd.func24, Tryd.ntmps24
  go_wp2_with fail
  refine (eqAtom_any _ _ _ _ _ _ _ _ ts us _ (H.out.up hw0).1 (H'.out.up hw0).1).mono ?_; rintro e w1 ⟨rfl, hb1⟩
  have HB1 := belowThen hw0 hb1
  obtain ⟨x1, x2, x3, x4⟩ := X0.out.later hb1
  obtain ⟨y1, y2, y3, y4⟩ := Y0.out.later hb1
  simp only [size_alloc_eq] at y1 y2 y3 y4
  go_wp2_with fail
  · go_ret; exact ⟨retB (by unfold ruleEq; simp_all), HB1⟩
  · refine (eqPartS_any _ _ _ _ _ _ xs ys _ (H.out.up HB1).2 (H'.out.up HB1).2).mono ?_; rintro e w2 ⟨rfl, hb2⟩
    go_wp2
    all_goals (go_ret; exact ⟨retB (by unfold ruleEq; simp_all), belowThen HB1 hb2⟩)

def bodyB (xs : List Pt) : Bool := xs.all fun q => atomB q.2
def ruleB (r : Rl) : Bool := bodyB r.2 && (atomB r.1 && decide (r.2.length ≤ 4))

theorem bodyB_snoc {xs : List Pt} {k : Nat} {q : Pt} (h : xs[k]? = some q) (hr : bodyB (xs.take k) = true) (hq : atomB q.2 = true) : bodyB (xs.take (k + 1)) = true := by
  obtain ⟨h1, h2⟩ := List.getElem?_eq_some_iff.1 h
  unfold bodyB at *
  rw [List.take_succ_eq_append_getElem h1, List.all_append, hr, h2]; simp [hq]

theorem bodyB_no {xs : List Pt} {k : Nat} {q : Pt} (h : xs[k]? = some q) (hq : atomB q.2 = false) : bodyB xs = false := by
  unfold bodyB
  rw [List.all_eq_false]
  exact ⟨q, List.mem_of_getElem? h, by simp [hq]⟩

theorem bodyB_all {xs : List Pt} {k n : Nat} (h : xs.length = n) (hk : ¬ k < n) (hr : bodyB (xs.take k) = true) : bodyB xs = true := by
  rwa [List.take_of_length_le (by omega)] at hr

theorem atom_no {q : Pt} (h : (!atomB (q.2.1, q.2.2)) = true) : atomB q.2 = false := by simpa using h
theorem atom_yes {q : Pt} (h : (!atomB (q.2.1, q.2.2)) = false) : atomB q.2 = true := by simpa using h

set_option maxHeartbeats 1000000 in
theorem l1Rule_any (nm : ByteArray) (A : Option Addr) (n c : Nat) (B : Option Addr) (m d : Nat) (ts : List Tm) (xs : List Pt) (w : World) (hs : nm.size ≤ maxLen) (h : IsRule w w.heap.size A n c B m d ts xs) :
    Calls Tryd.prog 74 #[.agg #[.string nm, .slice A n c, .slice B m d]] w (BoolPost (ruleB ((nm, ts), xs)) w) := by
  have hm := h.2.len
  unfold maxLen at hm
  have L := Lib.hid h.2.1
  have H := Lib.hid h; clear h
  have hw0 := below1 w (.cells #[.string nm, .slice A n c, .slice B m d] 38)
  have X0 := Lib.hid (Box3.new w (.string nm) (.slice A n c) (.slice B m d) 38)
  go_enter Tryd.func74, Tryd.ntmps74
  go_wp2
  go_loopw [3] (fun i wr => ∃ k : Nat, k ≤ m ∧ i = .int .i64 k ∧ bodyB (xs.take k) = true ∧ Below (w.alloc (.cells #[.string nm, .slice A n c, .slice B m d] 38)).heap.size (w.alloc (.cells #[.string nm, .slice A n c, .slice B m d] 38)) wr) (fun i _ => m - (intOf i).toNat)
  case atStart => exact ⟨0, Nat.zero_le _, rfl, rfl, Below.refl _ _⟩
  case round =>
    obtain ⟨k, hk, rfl, hd, hb⟩ := hrel
    have HD := Lib.hid hd; clear hd
    have HB := belowThen hw0 hb
    obtain ⟨x1, x2, x3, x4⟩ := X0.out.later hb
    by_cases hlt : k < m
    · obtain ⟨p, q, hA, hlo, hhi, hg, hE⟩ := (H.out.2.below PartE.stays HB (Nat.le_refl _)).at_ hlt
      obtain ⟨C, n', c', d1, d2, d3, d4, d5⟩ := hE.out
      clear hE
      subst hA
      have HG := Lib.hid hg; clear hg
      have HT := Lib.hid (d5.keep (lo' := 0) (hi' := wr.heap.size) (fun _ _ _ => rfl) (Nat.le_refl _) HB.size); clear d5
      go_wp2_with fail
      refine (specAtomOk_any _ _ _ _ q.2.2 _ d3 HT.out).mono ?_; rintro e w1 ⟨rfl, hb1⟩
      go_wp2
      · go_ret; exact ⟨retB (by unfold ruleB; rw [bodyB_no HG.out (atom_no (by assumption))]; rfl), belowThen HB hb1⟩
      · go_roundw
        case rel => exact ⟨k + 1, by omega, by go_num, bodyB_snoc HG.out HD.out (atom_yes (by assumption)), belowThen hb hb1⟩
        case measure => simp [intOf]; omega
    · have E := Lib.hid (bodyB_all L.out hlt HD.out)
      go_wp2_with fail
      refine (specAtomOk_any _ _ _ _ ts _ hs (H.out.up HB).1).mono ?_; rintro e w1 ⟨rfl, hb1⟩
      obtain ⟨x1, x2, x3, x4⟩ := (X0.out.later hb).later hb1
      go_wp2
      all_goals (go_ret; exact ⟨retB (by unfold ruleB; rw [E.out, L.out]; simp_all; try omega), belowThen HB hb1⟩)

end Go.Proofs.YtahkkelahocplaaDoor
