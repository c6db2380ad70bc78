/-
  Texts: an atom as a text, in the program and in its model.
-/
import Derived.Test.YtiekfjlhioekcaaDoorCmp
import Derived.Test.YtiekfjlhioekcaaDoorShelf2
import Derived.Test.YtiekfjlhioekcaaDoorEq
import Derived.Test.YtiekfjlhioekcaaDoorMem
import Derived.Lib.Join
namespace Go.Proofs.YtiekfjlhioekcaaDoor
open Go.RowKit

/-- The names of terms. -/
def tmNames (ts : List Tm) : List (List UInt8) := ts.map fun t => t.2.data.toList

/-- An atom's text. -/
def textL (a : At) : List UInt8 := a.1.data.toList ++ [40] ++ Lib.join (tmNames a.2) [44] ++ [41]

/-- A text as the result. -/
def StrPost (l : List UInt8) (w : World) (e : Ending) (w' : World) : Prop := e = .returned (.string ⟨l.toArray⟩) ∧ Below w.heap.size w w'

theorem join_snoc (xs : List (List UInt8)) (x : List UInt8) (h : xs ≠ []) : Lib.join (xs ++ [x]) [44] = Lib.join xs [44] ++ [44] ++ x := by
  cases xs with
  | nil => exact absurd rfl h
  | cons y r =>
    rw [List.cons_append, Lib.join_cons, Lib.join_cons]
    simp [Lib.joinTail]

theorem names_snoc {ts : List Tm} {k : Nat} {t : Tm} (h : ts[k]? = some t) : tmNames (ts.take (k + 1)) = tmNames (ts.take k) ++ [t.2.data.toList] := by
  obtain ⟨h1, h2⟩ := List.getElem?_eq_some_iff.1 h
  unfold tmNames
  rw [List.take_succ_eq_append_getElem h1, List.map_append, h2]; rfl

theorem join_first {ts : List Tm} {t : Tm} (h : ts[0]? = some t) : Lib.join (tmNames (ts.take 1)) [44] = t.2.data.toList := by
  rw [names_snoc (k := 0) h]
  simp [tmNames, Lib.join_one]

theorem join_next {ts : List Tm} {k : Nat} {t : Tm} (h : ts[k]? = some t) (hk : 0 < k) : Lib.join (tmNames (ts.take (k + 1))) [44] = Lib.join (tmNames (ts.take k)) [44] ++ [44] ++ t.2.data.toList := by
  obtain ⟨h1, _⟩ := List.getElem?_eq_some_iff.1 h
  rw [names_snoc h, join_snoc]
  intro e
  have h2 : (tmNames (ts.take k)).length = k := by unfold tmNames; rw [List.length_map, List.length_take]; omega
  rw [e] at h2
  exact absurd h2 (by simp; omega)

/-- What is put so far is no longer than all. -/
theorem join_le : ∀ (xs ys : List (List UInt8)), (Lib.join xs [44]).length ≤ (Lib.join (xs ++ ys) [44]).length := by
  intro xs ys
  cases xs with
  | nil => simp [Lib.join_nil]
  | cons x r =>
    rw [List.cons_append, Lib.join_cons, Lib.join_cons]
    simp [Lib.joinTail]

theorem join_take_le (ts : List Tm) (k : Nat) : (Lib.join (tmNames (ts.take k)) [44]).length ≤ (Lib.join (tmNames ts) [44]).length := by
  have h := join_le (tmNames (ts.take k)) (tmNames (ts.drop k))
  rwa [show tmNames (ts.take k) ++ tmNames (ts.drop k) = tmNames ts by unfold tmNames; rw [← List.map_append, List.take_append_drop]] at h

/-- What stands in the model's text behind k terms. -/
def Part (a : At) (k : Nat) (s : ByteArray) : Prop := s.data.toList = a.1.data.toList ++ [40] ++ Lib.join (tmNames (a.2.take k)) [44]

theorem Part.size {a : At} {k : Nat} {s : ByteArray} (h : Part a k s) : s.size + 1 ≤ (textL a).length := by
  have h1 : s.size = s.data.toList.length := rfl
  rw [h1, h]
  unfold textL
  have := join_take_le a.2 k
  simp only [List.length_append, List.length_cons, List.length_nil]
  omega

theorem Part.start (a : At) : Part a 0 (a.1 ++ ⟨#[40]⟩) := by
  unfold Part
  simp [tmNames, Lib.join_nil]

theorem Part.one {a : At} {s : ByteArray} {t : Tm} (h : Part a 0 s) (ht : a.2[0]? = some t) : Part a 1 (s ++ t.2) := by
  unfold Part at *
  rw [join_first ht]
  simp [h, tmNames, Lib.join_nil]

theorem Part.one' {a : At} {k : Nat} {s : ByteArray} {t : Tm} (h : Part a k s) (hk : k = 0) (ht : a.2[k]? = some t) : Part a (k + 1) (s ++ t.2) := by
  subst hk; exact h.one ht

theorem Part.next {a : At} {k : Nat} {s : ByteArray} {t : Tm} (h : Part a k s) (ht : a.2[k]? = some t) (hk : 0 < k) : Part a (k + 1) (s ++ ⟨#[44]⟩ ++ t.2) := by
  unfold Part at *
  rw [join_next ht hk]
  simp [h]

theorem Part.all {a : At} {k n : Nat} {s : ByteArray} (h : Part a k s) (hn : a.2.length = n) (hk : ¬ k < n) : s ++ ⟨#[41]⟩ = ⟨(textL a).toArray⟩ := by
  unfold Part at h
  rw [List.take_of_length_le (by omega)] at h
  apply ByteArray.ext
  rw [ByteArray.data_append]
  apply Array.toList_inj.1
  rw [Array.toList_append, h]
  simp [textL]

set_option maxHeartbeats 1000000 in
theorem l1Put_any (nm : ByteArray) (A : Option Addr) (n c : Nat) (ts : List Tm) (w : World) (h : IsTerms w 0 w.heap.size A n c ts) (hl : (textL (nm, ts)).length ≤ 1099511627776) :
    Calls Tryd.prog 25 #[.agg #[.string nm, .slice A n c]] w (StrPost (textL (nm, ts)) w) := by
  have hm : n ≤ maxLen := by have := h.2.1; have := h.2.2.1; omega
  unfold maxLen at hm
  have L1 := Lib.hid h.1
  have H := Lib.hid h; clear h
  have hw0 := below1 w (.cells #[.string nm, .slice A n c] 32)
  have P0 := Lib.hid (Part.start (nm, ts))
  have hs0 := P0.out.size
  have hs1 : nm.size + 1 ≤ 1099511627776 := by simp at hs0; omega
  clear hs0
  go_enter Tryd.func25, Tryd.ntmps25
  go_wp2
  go_loop [3, 4] (fun x i => ∃ (k : Nat) (s : ByteArray), k ≤ n ∧ i = .int .i64 k ∧ x = .string s ∧ Part (nm, ts) k s) (fun _ i => n - (intOf i).toNat)
  case atStart => exact ⟨0, _, Nat.zero_le _, rfl, rfl, P0.out⟩
  case round =>
    obtain ⟨k, s, hk, rfl, rfl, hd⟩ := hrel
    have hsz := hd.size
    have hsz1 : s.size + 1 ≤ 1099511627776 := by omega
    clear hsz
    have HD := Lib.hid hd; clear hd
    by_cases hlt : k < n
    · obtain ⟨p, t, hA, hlo, hhi, hg, c1, c2, c3⟩ := (H.out.up hw0).at_ hlt
      subst hA
      have HG := Lib.hid hg; clear hg
      rcases Nat.eq_zero_or_pos k with h0 | h0
      · have HN := Lib.hid (HD.out.one' h0 HG.out)
        have hpos : ¬ (0 : Int) < (k : Int) := by omega
        clear h0
        have h2 := HN.out.size
        have h3 : s.size + t.2.size ≤ 1099511627776 := by rw [ByteArray.size_append] at h2; omega
        clear h2
        go_wp2
        go_round
        case rel => exact ⟨k + 1, _, by omega, by go_num, rfl, HN.out⟩
        case measure => simp [intOf]; omega
      · have HN := Lib.hid (HD.out.next HG.out h0)
        have h2 := HN.out.size
        have h3 : s.size + 1 + t.2.size ≤ 1099511627776 := by rw [ByteArray.size_append, ByteArray.size_append, show (⟨#[44]⟩ : ByteArray).size = 1 from rfl] at h2; omega
        clear h2
        have hpos : (0 : Int) < (k : Int) := by omega
        go_wp2
        go_round
        case rel => exact ⟨k + 1, _, by omega, by go_num, rfl, HN.out⟩
        case measure => simp [intOf]; omega
    · have E := Lib.hid (HD.out.all L1.out hlt)
      go_wp2
      go_ret
      exact ⟨by rw [← E.out]; rfl, hw0⟩

end Go.Proofs.YtiekfjlhioekcaaDoor
