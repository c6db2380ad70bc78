/-
  Texts of one claim, put together.
-/
import Derived.Test.YtogonjkklioaaaaGreatDoorCt1
import Derived.Test.YtogonjkklioaaaaGreatDoorShelf2
import Derived.Test.YtogonjkklioaaaaGreatDoorCt0
import Derived.Lib.Join
import Derived.Deep.OwnRows
import Derived.Deep.RegionHeld3
import Derived.Lib.SplitLaws
import Derived.Lib.Strings
namespace Go.Proofs.YtogonjkklioaaaaGreatDoor
open Go.RowKit

/-- The names of terms. -/
def tmNames (ts : List Tm) : List (List UInt8) := ts.map fun t => t.2.data.toList

/-- An atom's text. -/
def textL (a : At) : List UInt8 := a.1.data.toList ++ [40] ++ Lib.join (tmNames a.2) [44] ++ [41]

/-- A text as the result. -/
def StrPost (l : List UInt8) (w : World) (e : Ending) (w' : World) : Prop := e = .returned (.string ⟨l.toArray⟩) ∧ Below w.heap.size w w'

theorem join_snoc (xs : List (List UInt8)) (x : List UInt8) (h : xs ≠ []) : Lib.join (xs ++ [x]) [44] = Lib.join xs [44] ++ [44] ++ x := by
  cases xs with
  | nil => exact absurd rfl h
  | cons y r =>
    rw [List.cons_append, Lib.join_cons, Lib.join_cons]
    simp [Lib.joinTail]

theorem names_snoc {ts : List Tm} {k : Nat} {t : Tm} (h : ts[k]? = some t) : tmNames (ts.take (k + 1)) = tmNames (ts.take k) ++ [t.2.data.toList] := by
  obtain ⟨h1, h2⟩ := List.getElem?_eq_some_iff.1 h
  unfold tmNames
  rw [List.take_succ_eq_append_getElem h1, List.map_append, h2]; rfl

theorem join_first {ts : List Tm} {t : Tm} (h : ts[0]? = some t) : Lib.join (tmNames (ts.take 1)) [44] = t.2.data.toList := by
  rw [names_snoc (k := 0) h]
  simp [tmNames, Lib.join_one]

theorem join_next {ts : List Tm} {k : Nat} {t : Tm} (h : ts[k]? = some t) (hk : 0 < k) : Lib.join (tmNames (ts.take (k + 1))) [44] = Lib.join (tmNames (ts.take k)) [44] ++ [44] ++ t.2.data.toList := by
  obtain ⟨h1, _⟩ := List.getElem?_eq_some_iff.1 h
  rw [names_snoc h, join_snoc]
  intro e
  have h2 : (tmNames (ts.take k)).length = k := by unfold tmNames; rw [List.length_map, List.length_take]; omega
  rw [e] at h2
  exact absurd h2 (by simp; omega)

/-- What is put so far is no longer than all. -/
theorem join_le : ∀ (xs ys : List (List UInt8)), (Lib.join xs [44]).length ≤ (Lib.join (xs ++ ys) [44]).length := by
  intro xs ys
  cases xs with
  | nil => simp [Lib.join_nil]
  | cons x r =>
    rw [List.cons_append, Lib.join_cons, Lib.join_cons]
    simp [Lib.joinTail]

theorem join_take_le (ts : List Tm) (k : Nat) : (Lib.join (tmNames (ts.take k)) [44]).length ≤ (Lib.join (tmNames ts) [44]).length := by
  have h := join_le (tmNames (ts.take k)) (tmNames (ts.drop k))
  rwa [show tmNames (ts.take k) ++ tmNames (ts.drop k) = tmNames ts by unfold tmNames; rw [← List.map_append, List.take_append_drop]] at h

/-- What stands in the model's text behind k terms. -/
def Part (a : At) (k : Nat) (s : ByteArray) : Prop := s.data.toList = a.1.data.toList ++ [40] ++ Lib.join (tmNames (a.2.take k)) [44]

theorem Part.size {a : At} {k : Nat} {s : ByteArray} (h : Part a k s) : s.size + 1 ≤ (textL a).length := by
  have h1 : s.size = s.data.toList.length := rfl
  rw [h1, h]
  unfold textL
  have := join_take_le a.2 k
  simp only [List.length_append, List.length_cons, List.length_nil]
  omega

theorem Part.start (a : At) : Part a 0 (a.1 ++ ⟨#[40]⟩) := by
  unfold Part
  simp [tmNames, Lib.join_nil]

theorem Part.one {a : At} {s : ByteArray} {t : Tm} (h : Part a 0 s) (ht : a.2[0]? = some t) : Part a 1 (s ++ t.2) := by
  unfold Part at *
  rw [join_first ht]
  simp [h, tmNames, Lib.join_nil]

theorem Part.one' {a : At} {k : Nat} {s : ByteArray} {t : Tm} (h : Part a k s) (hk : k = 0) (ht : a.2[k]? = some t) : Part a (k + 1) (s ++ t.2) := by
  subst hk; exact h.one ht

theorem Part.next {a : At} {k : Nat} {s : ByteArray} {t : Tm} (h : Part a k s) (ht : a.2[k]? = some t) (hk : 0 < k) : Part a (k + 1) (s ++ ⟨#[44]⟩ ++ t.2) := by
  unfold Part at *
  rw [join_next ht hk]
  simp [h]

theorem Part.all {a : At} {k n : Nat} {s : ByteArray} (h : Part a k s) (hn : a.2.length = n) (hk : ¬ k < n) : s ++ ⟨#[41]⟩ = ⟨(textL a).toArray⟩ := by
  unfold Part at h
  rw [List.take_of_length_le (by omega)] at h
  apply ByteArray.ext
  rw [ByteArray.data_append]
  apply Array.toList_inj.1
  rw [Array.toList_append, h]
  simp [textL]

set_option maxHeartbeats 1000000 in
theorem l1Put_any (nm : ByteArray) (A : Option Addr) (n c : Nat) (ts : List Tm) (w : World) (h : IsTerms w 0 w.heap.size A n c ts) (hl : (textL (nm, ts)).length ≤ 1099511627776) :
    Calls Tryz.prog 62 #[.agg #[.string nm, .slice A n c]] w (StrPost (textL (nm, ts)) w) := by
  have hm : n ≤ maxLen := by have := h.2.1; have := h.2.2.1; omega
  unfold maxLen at hm
  have L1 := Lib.hid h.1
  have H := Lib.hid h; clear h
  have hw0 := below1 w (.cells #[.string nm, .slice A n c] 51)
  have P0 := Lib.hid (Part.start (nm, ts))
  have hs0 := P0.out.size
  have hs1 : nm.size + 1 ≤ 1099511627776 := by simp at hs0; omega
  clear hs0
  go_enter Tryz.func62, Tryz.ntmps62
  go_wp2
  go_loop [3, 4] (fun x i => ∃ (k : Nat) (s : ByteArray), k ≤ n ∧ i = .int .i64 k ∧ x = .string s ∧ Part (nm, ts) k s) (fun _ i => n - (intOf i).toNat)
  case atStart => exact ⟨0, _, Nat.zero_le _, rfl, rfl, P0.out⟩
  case round =>
    obtain ⟨k, s, hk, rfl, rfl, hd⟩ := hrel
    have hsz := hd.size
    have hsz1 : s.size + 1 ≤ 1099511627776 := by omega
    clear hsz
    have HD := Lib.hid hd; clear hd
    by_cases hlt : k < n
    · obtain ⟨p, t, hA, hlo, hhi, hg, c1, c2, c3⟩ := (H.out.up hw0).at_ hlt
      subst hA
      have HG := Lib.hid hg; clear hg
      rcases Nat.eq_zero_or_pos k with h0 | h0
      · have HN := Lib.hid (HD.out.one' h0 HG.out)
        have hpos : ¬ (0 : Int) < (k : Int) := by omega
        clear h0
        have h2 := HN.out.size
        have h3 : s.size + t.2.size ≤ 1099511627776 := by rw [ByteArray.size_append] at h2; omega
        clear h2
        go_wp2
        go_round
        case rel => exact ⟨k + 1, _, by omega, by go_num, rfl, HN.out⟩
        case measure => simp [intOf]; omega
      · have HN := Lib.hid (HD.out.next HG.out h0)
        have h2 := HN.out.size
        have h3 : s.size + 1 + t.2.size ≤ 1099511627776 := by rw [ByteArray.size_append, ByteArray.size_append, show (⟨#[44]⟩ : ByteArray).size = 1 from rfl] at h2; omega
        clear h2
        have hpos : (0 : Int) < (k : Int) := by omega
        go_wp2
        go_round
        case rel => exact ⟨k + 1, _, by omega, by go_num, rfl, HN.out⟩
        case measure => simp [intOf]; omega
    · have E := Lib.hid (HD.out.all L1.out hlt)
      go_wp2
      go_ret
      exact ⟨by rw [← E.out]; rfl, hw0⟩

end Go.Proofs.YtogonjkklioaaaaGreatDoor

namespace Go.Proofs.YtogonjkklioaaaaGreatDoor
open Go.RowKit

theorem name_le {l : List UInt8} (h : nameB l = true) : l.length ≤ 8 := by
  unfold nameB letters at h
  simp only [Bool.and_eq_true, decide_eq_true_eq] at h
  omega

theorem var_le {l : List UInt8} (h : varB l = true) : l.length ≤ 8 := by
  cases l with
  | nil => simp
  | cons c r =>
    unfold varB at h
    simp only [Bool.and_eq_true, decide_eq_true_eq] at h
    simp only [List.length_cons]
    omega

theorem term_le {t : Tm} (h : termB t = true) : t.2.data.toList.length ≤ 8 := by
  unfold termB at h
  split at h
  · exact var_le h
  · exact name_le h

theorem tail_le : ∀ xs : List (List UInt8), (∀ x ∈ xs, x.length ≤ 8) → (Lib.joinTail [44] xs).length ≤ 9 * xs.length
  | [], _ => by simp [Lib.joinTail]
  | x :: r, h => by
    have h1 := h x (by simp)
    have h2 := tail_le r (fun y hy => h y (by simp [hy]))
    have h3 : Lib.joinTail [44] (x :: r) = [44] ++ x ++ Lib.joinTail [44] r := by simp [Lib.joinTail]
    rw [h3]
    simp only [List.length_append, List.length_cons, List.length_nil]
    omega

theorem joined_le (xs : List (List UInt8)) (h : ∀ x ∈ xs, x.length ≤ 8) : (Lib.join xs [44]).length ≤ 9 * xs.length := by
  cases xs with
  | nil => simp [Lib.join_nil]
  | cons x r =>
    have h1 := h x (by simp)
    have h2 := tail_le r (fun y hy => h y (by simp [hy]))
    rw [Lib.join_cons]
    simp only [List.length_append, List.length_cons]
    omega

/-- The text of an atom that is ok is short. -/
theorem textL_le {a : At} (h : atomB a = true) : (textL a).length ≤ 40 := by
  unfold atomB argsB at h
  simp only [Bool.and_eq_true, decide_eq_true_eq] at h
  obtain ⟨h1, h2, h3⟩ := h
  have h4 := name_le h2
  have h5 := joined_le (tmNames a.2) (fun x hx => by
    unfold tmNames at hx
    obtain ⟨t, ht, rfl⟩ := List.mem_map.1 hx
    exact term_le (List.all_eq_true.1 h1 t ht))
  have h6 : (tmNames a.2).length = a.2.length := by unfold tmNames; simp
  unfold textL
  simp only [List.length_append, List.length_cons, List.length_nil]
  omega

/-- What AtomPut answers. -/
def putB (a : At) : List UInt8 := if atomB a then textL a else []

/-- The names of terms, as far as they stand in a row of texts. -/
def Named (w : World) (g n k : Nat) (ts : List Tm) : Prop := ∃ f, w.rowIs g 9 n f ∧ ∀ j t, j < k → ts[j]? = some t → f j = .string t.2

theorem Named.start (w : World) (n : Nat) (ts : List Tm) : Named (w.alloc (.cells (madeCells #[.string ByteArray.empty] n) 9)) w.heap.size n 0 ts :=
  ⟨_, World.rowIs_made w _ n _, fun j t hj => absurd hj (by omega)⟩

theorem Named.lt {w : World} {g n k : Nat} {ts : List Tm} (h : Named w g n k ts) : g < w.heap.size := by
  obtain ⟨f, h, _⟩ := h; exact h.lt

theorem Named.below {w w' : World} {g n k : Nat} {ts : List Tm} (h : Named w g n k ts) (hb : Below w.heap.size w w') : Named w' g n k ts := by
  obtain ⟨f, h, h2⟩ := h
  exact ⟨f, h.of_block (hb.block g h.lt), h2⟩

theorem Named.cell {w : World} {g n k : Nat} {ts : List Tm} (h : Named w g n k ts) (hk : k < n) : (∃ x, w.cell? ⟨g, k, none⟩ = some x) ∧ w.frozen? ⟨g, k, none⟩ = false := by
  obtain ⟨f, h, _⟩ := h
  exact ⟨⟨_, h.cell hk⟩, h.frozen _⟩

theorem Named.step {w : World} {g n k : Nat} {ts : List Tm} (h : Named w g n k ts) (t : Tm) (ht : ts[k]? = some t) : Named (w.setCell ⟨g, k, none⟩ (.string t.2)) g n (k + 1) ts := by
  obtain ⟨f, h, h2⟩ := h
  refine ⟨_, h.set k (.string t.2), fun j u hj hu => ?_⟩
  by_cases e : j = k
  · subst e
    rw [ht] at hu
    injection hu with hu
    subst hu
    simp
  · simp only [e, if_false]; exact h2 j u (by omega) hu

theorem Tryz.infoString : (Tryz.prog.info? 9).map (fun i => (i.zero, i.size, i.bytes)) = some (some (.string ByteArray.empty), 1, 16) := by kernel_rfl

theorem put_eq (nm : ByteArray) (ts : List Tm) : (⟨(textL (nm, ts)).toArray⟩ : ByteArray) = nm ++ ⟨#[40]⟩ ++ ⟨(Lib.join (tmNames ts) [44]).toArray⟩ ++ ⟨#[41]⟩ := by
  apply ByteArray.ext
  simp only [ByteArray.data_append]
  apply Array.toList_inj.1
  simp [textL]

/-- The names, joined. -/
theorem join_any (g n : Nat) (ts : List Tm) (w : World) (hl : ts.length = n) (hn : n ≤ 1048576) (h : Named w g n n ts) (hle : (textL (ByteArray.empty, ts)).length ≤ 1099511627776) :
    Calls Tryz.prog 93 #[.slice (some ⟨g, 0, none⟩) n n, .string ⟨#[44]⟩] w (StrPost (Lib.join (tmNames ts) [44]) w) := by
  subst hl
  obtain ⟨f, hr, hf⟩ := h
  have hx : ((ts.map (·.2)).map fun s => s.data.toList) = tmNames ts := by unfold tmNames; rw [List.map_map]; rfl
  have hj : (Lib.join (tmNames ts) [44]).length ≤ 140737488355328 := by
    unfold textL at hle
    simp only [List.length_append, List.length_cons, List.length_nil] at hle
    omega
  have key := Tryz.strings_Join g 0 ts.length (ts.map (·.2)) ⟨#[44]⟩ w (fun j x hj => by
      obtain ⟨t, ht, rfl⟩ := List.mem_map.1 (List.mem_of_getElem? hj)
      have hjl : j < ts.length := by have := (List.getElem?_eq_some_iff.1 hj).1; simpa using this
      rw [Nat.zero_add, hr.cell hjl]
      have hg : ts[j]? = some ts[j] := List.getElem?_eq_getElem hjl
      rw [hf j _ hjl hg]
      have : (ts.map (·.2))[j]? = some (ts[j]).2 := by simp [hjl]
      rw [this] at hj
      injection hj with hj
      rw [hj]) hr.lt (by rw [List.length_map]; omega) (by simp) (by rw [hx]; exact hj)
  rw [List.length_map, hx] at key
  exact key

set_option maxHeartbeats 2000000 in
theorem atomText_any (nm : ByteArray) (A : Option Addr) (n c : Nat) (ts : List Tm) (w : World) (hA : atomB (nm, ts) = true) (h : IsTerms w 0 w.heap.size A n c ts) :
    Calls Tryz.prog 58 #[.agg #[.string nm, .slice A n c]] w (StrPost (textL (nm, ts)) w) := by
  have L1 := Lib.hid h.1
  have hl1 := h.1
  have H := Lib.hid h; clear h
  have hw0 := below1 w (.cells #[.string nm, .slice A n c] 51)
  have B0 := Lib.hid (Box.new w (.string nm) (.slice A n c) 51)
  have hle := textL_le hA
  have hle' : (textL (ByteArray.empty, ts)).length ≤ 1099511627776 := by
    unfold textL at hle ⊢
    simp only [List.length_append, List.length_cons, List.length_nil] at hle ⊢
    have : ByteArray.empty.data.toList.length = 0 := rfl
    omega
  have hns : nm.size ≤ 40 ∧ (Lib.join (tmNames ts) [44]).length ≤ 40 := by
    unfold textL at hle
    simp only [List.length_append, List.length_cons, List.length_nil] at hle
    have : nm.size = nm.data.toList.length := rfl
    omega
  obtain ⟨hns, hjs⟩ := hns
  have hns' : nm.size + 1 ≤ 9223372036854775807 := by omega
  have hn3 : n ≤ 3 := by
    unfold atomB at hA
    simp only [Bool.and_eq_true, decide_eq_true_eq] at hA
    omega
  have hn31 : (n : Int) ≤ 3 := by omega
  clear hA hl1
  obtain ⟨i0, hi, hz, hsz, hby⟩ := info_parts Tryz.infoString
  have hmk : ∀ W : World, (Instr.makeSlice 71 (.int .i64 (n : Int)) (.int .i64 (n : Int))).run Tryz.prog W = .ok (.slice (some ⟨W.heap.size, 0, none⟩) n n) (W.alloc (.cells (madeCells #[.string ByteArray.empty] n) 9)) := by
    intro W
    have hr := run_make (P := Tryz.prog) W 71 9 i0 _ Tryz.underlying71 hi hz .i64 .i64 n n (by omega) (Int.le_refl _) (by rw [hby]; omega) (by omega)
    rw [hsz, Nat.mul_one] at hr
    exact hr
  clear hi hz hsz hby
  go_enter Tryz.func58, Tryz.ntmps58
  obtain ⟨w1, hw1⟩ : ∃ w1, w.alloc (.cells #[.string nm, .slice A n c] 51) = w1 := ⟨_, rfl⟩
  rw [hw1] at hw0 B0
  have HB1 := hw0
  have B1 := B0
  obtain ⟨x1, x2, x3⟩ := B1.out
  have x2' := cellUp x2
  have x3' := cellUp x3
  go_wp2_with fail
  have hw2 := below1 w1 (.cells (madeCells #[.string ByteArray.empty] n) 9)
  have B2 := Lib.hid (B1.out.later hw2)
  go_loopw [4, 5, 13] (fun _ _ i wr => ∃ k : Nat, k ≤ n ∧ i = .int .i64 k ∧ Named wr w1.heap.size n k ts ∧ Below w1.heap.size w1 wr) (fun _ _ i _ => n - (intOf i).toNat)
  case atStart => exact ⟨0, Nat.zero_le _, rfl, Named.start w1 n ts, hw2⟩
  case round =>
    obtain ⟨k, hk, rfl, hf, hb⟩ := hrel
    have HF := Lib.hid hf; clear hf
    by_cases hlt : k < n
    · obtain ⟨p, t, hA, hlo, hhi, hg, c1, c2, c3⟩ := ((H.out.below HB1 (Nat.le_refl _)).keep (w' := wr) (hi' := w.heap.size) (fun q _ hq => hb.cell (Nat.lt_of_lt_of_le hq HB1.size)) (Nat.le_refl _) (Nat.le_refl _)).at_ hlt
      subst hA
      have HG := Lib.hid hg; clear hg
      have HF1 := HF.out.below (below1 wr (.cells #[.bool t.1, .string t.2] 110))
      have hg0 : w1.heap.size < wr.heap.size := HF.out.lt
      obtain ⟨⟨x0, hx0⟩, hz0⟩ := HF1.cell hlt
      go_wp2
      go_roundw
      case rel => exact ⟨k + 1, by omega, by go_num, (HF.out.step t HG.out).below (below1 _ _), (hb.setCell (Nat.le_refl _) _).alloc (by simp [World.setCell]; omega) _⟩
      case measure => simp [intOf]; omega
    · have B3 := B1.out.later hb
      obtain ⟨y1, y2, y3⟩ := B3
      have HJ : Named wr w1.heap.size n n ts := by
        have hkn : k = n := by omega
        have h9 := HF.out
        rw [hkn] at h9
        exact h9
      have HJd : Named wr.drew w1.heap.size n n ts := HJ
      go_wp2_with fail
      go_region_with ((with_reducible refine (join_any w1.heap.size n ts wr.drew L1.out (by omega) HJd hle').mono ?_); rintro e w9 ⟨rfl, hb9'⟩; have hb9 : Below wr.heap.size wr w9 := undrew hb9'; clear hb9'; have y9 : w9.cell? ⟨w.heap.size, 0, none⟩ = some (.string nm) := (hb9.cell (p := ⟨w.heap.size, 0, none⟩) y1).trans y2)
      all_goals go_wp2
      all_goals (go_ret; exact ⟨by rw [put_eq]; rfl, belowThen HB1 (hb.trans (hb9.mono hb.size))⟩)

set_option maxHeartbeats 2000000 in
theorem implAtomPut_any (nm : ByteArray) (A : Option Addr) (n c : Nat) (ts : List Tm) (w : World) (hs : nm.size ≤ maxLen) (h : IsTerms w 0 w.heap.size A n c ts) :
    Calls Tryz.prog 28 #[.agg #[.string nm, .slice A n c]] w (StrPost (putB (nm, ts)) w) := by
  have H := Lib.hid h; clear h
  have hw0 := below1 w (.cells #[.string nm, .slice A n c] 51)
  have B0 := Lib.hid (Box.new w (.string nm) (.slice A n c) 51)
  cases hA : atomB (nm, ts)
  · have E := Lib.hid (show putB (nm, ts) = [] by unfold putB; rw [hA]; rfl)
    have EA := Lib.hid hA; clear hA
    go_enter Tryz.func28, Tryz.ntmps28
    go_wp2_with fail
    refine (implAtomOk_any _ _ _ _ ts _ hs (H.out.up hw0)).mono ?_; rintro e w1 ⟨rfl, hb1⟩
    rw [EA.out]
    go_wp2
    go_ret; exact ⟨by rw [E.out]; rfl, belowThen hw0 hb1⟩
  · have E := Lib.hid (show putB (nm, ts) = textL (nm, ts) by unfold putB; rw [hA]; rfl)
    have EA := Lib.hid hA; clear hA
    go_enter Tryz.func28, Tryz.ntmps28
    go_wp2_with fail
    refine (implAtomOk_any _ _ _ _ ts _ hs (H.out.up hw0)).mono ?_; rintro e w1 ⟨rfl, hb1⟩
    have hb01 := belowThen hw0 hb1
    obtain ⟨x1, x2, x3⟩ := B0.out.later hb1
    rw [EA.out]
    go_wp2_with fail
    refine (atomText_any _ _ _ _ ts _ EA.out (H.out.up hb01)).mono ?_; rintro e w2 ⟨rfl, hb2⟩
    go_wp2
    go_ret; exact ⟨by rw [E.out]; rfl, belowThen hb01 hb2⟩

end Go.Proofs.YtogonjkklioaaaaGreatDoor

namespace Go.Proofs.YtogonjkklioaaaaGreatDoor

/-- One byte more of a text that is cut at each byte c: what is cut off, and what is begun. -/
def cutStep (c : UInt8) (s : List (List UInt8) × List UInt8) (b : UInt8) : List (List UInt8) × List UInt8 := if b = c then (s.1 ++ [s.2], []) else (s.1, s.2 ++ [b])
/-- A text cut at each byte c, from the left. -/
def cutRun (c : UInt8) (l : List UInt8) : List (List UInt8) × List UInt8 := l.foldl (cutStep c) ([], [])
/-- The pieces of a text cut at each byte c. -/
def cuts (c : UInt8) (l : List UInt8) : List (List UInt8) := (cutRun c l).1 ++ [(cutRun c l).2]

/-- The same from the right: the first piece, and the others. -/
def cutL (c : UInt8) : List UInt8 → List UInt8 × List (List UInt8)
  | [] => ([], [])
  | b :: l => if b = c then ([], (cutL c l).1 :: (cutL c l).2) else (b :: (cutL c l).1, (cutL c l).2)

theorem cutRun_take (c : UInt8) (l : List UInt8) (k : Nat) (b : UInt8) (h : l[k]? = some b) : cutRun c (l.take (k + 1)) = cutStep c (cutRun c (l.take k)) b := by
  unfold cutRun
  rw [List.take_add_one, h, List.foldl_append]; rfl

theorem cut_fold (c : UInt8) : ∀ (l : List UInt8) (o : List (List UInt8)) (cur : List UInt8), (l.foldl (cutStep c) (o, cur)).1 ++ [(l.foldl (cutStep c) (o, cur)).2] = o ++ (cur ++ (cutL c l).1) :: (cutL c l).2
  | [], o, cur => by simp [cutL]
  | b :: l, o, cur => by
    rw [List.foldl_cons]
    by_cases h : b = c
    · have e : cutStep c (o, cur) b = (o ++ [cur], []) := by unfold cutStep; rw [if_pos h]
      have e2 : cutL c (b :: l) = ([], (cutL c l).1 :: (cutL c l).2) := by rw [cutL, if_pos h]
      rw [e, cut_fold c l, e2]; simp
    · have e : cutStep c (o, cur) b = (o, cur ++ [b]) := by unfold cutStep; rw [if_neg h]
      have e2 : cutL c (b :: l) = (b :: (cutL c l).1, (cutL c l).2) := by rw [cutL, if_neg h]
      rw [e, cut_fold c l, e2]; simp

theorem cuts_eq (c : UInt8) (l : List UInt8) : cuts c l = (cutL c l).1 :: (cutL c l).2 := by
  have := cut_fold c l [] []
  unfold cuts cutRun
  rw [this]; simp

theorem joinTail_cons (sep x : List UInt8) (r : List (List UInt8)) : Lib.joinTail sep (x :: r) = sep ++ x ++ Lib.joinTail sep r := by simp [Lib.joinTail]

theorem cutL_join (c : UInt8) : ∀ l : List UInt8, (cutL c l).1 ++ Lib.joinTail [c] (cutL c l).2 = l
  | [] => by simp [cutL, Lib.joinTail]
  | b :: l => by
    have ih := cutL_join c l
    by_cases h : b = c
    · rw [cutL, if_pos h, joinTail_cons, h]
      simp only [List.nil_append, List.append_assoc]
      rw [ih]; rfl
    · rw [cutL, if_neg h, List.cons_append, ih]

/-- The pieces joined are the text. -/
theorem cuts_join (c : UInt8) (l : List UInt8) : Lib.join (cuts c l) [c] = l := by rw [cuts_eq, Lib.join_cons]; exact cutL_join c l

theorem cutL_none (c : UInt8) : ∀ x : List UInt8, c ∉ x → cutL c x = (x, [])
  | [], _ => rfl
  | b :: x, h => by
    have hb : ¬ b = c := fun e => h (by simp [e])
    rw [cutL, if_neg hb, cutL_none c x (fun hm => h (by simp [hm]))]

theorem cutL_first (c : UInt8) : ∀ (x r : List UInt8), c ∉ x → cutL c (x ++ c :: r) = (x, (cutL c r).1 :: (cutL c r).2)
  | [], r, _ => by show cutL c (c :: r) = _; rw [cutL, if_pos rfl]
  | b :: x, r, h => by
    have hb : ¬ b = c := fun e => h (by simp [e])
    show cutL c (b :: (x ++ c :: r)) = _
    rw [cutL, if_neg hb, cutL_first c x r (fun hm => h (by simp [hm]))]

theorem cuts_none {c : UInt8} {x : List UInt8} (h : c ∉ x) : cuts c x = [x] := by rw [cuts_eq, cutL_none c x h]
theorem cuts_first {c : UInt8} {x r : List UInt8} (h : c ∉ x) : cuts c (x ++ c :: r) = x :: cuts c r := by rw [cuts_eq, cutL_first c x r h, cuts_eq]

/-- A text holds a byte first here, or not at all. -/
theorem first_of (c : UInt8) (l : List UInt8) : c ∉ l ∨ ∃ x r, l = x ++ c :: r ∧ c ∉ x := by
  by_cases h : c ∈ l
  · obtain ⟨x, r, e, hx⟩ := List.eq_append_cons_of_mem h
    exact .inr ⟨x, r, e, hx⟩
  · exact .inl h

theorem cutL_len (c : UInt8) : ∀ l : List UInt8, (cutL c l).2.length ≤ l.length
  | [] => Nat.le_refl _
  | b :: l => by
    have ih := cutL_len c l
    by_cases h : b = c
    · rw [cutL, if_pos h]
      show ((cutL c l).1 :: (cutL c l).2).length ≤ (b :: l).length
      rw [List.length_cons, List.length_cons]; omega
    · rw [cutL, if_neg h]
      show (cutL c l).2.length ≤ (b :: l).length
      rw [List.length_cons]; omega

theorem cuts_len (c : UInt8) (l : List UInt8) : (cuts c l).length ≤ l.length + 1 := by
  have := cutL_len c l
  rw [cuts_eq, List.length_cons]; omega

theorem cutL_size (c : UInt8) : ∀ l : List UInt8, (cutL c l).1.length ≤ l.length ∧ ∀ y ∈ (cutL c l).2, y.length ≤ l.length
  | [] => ⟨Nat.le_refl _, fun y hy => by cases hy⟩
  | b :: l => by
    have ih := cutL_size c l
    by_cases h : b = c
    · rw [cutL, if_pos h]
      refine ⟨Nat.zero_le _, fun y hy => ?_⟩
      rw [List.length_cons]
      rcases List.mem_cons.1 hy with rfl | hy
      · have := ih.1; omega
      · have := ih.2 y hy; omega
    · rw [cutL, if_neg h]
      refine ⟨?_, fun y hy => ?_⟩
      · show (b :: (cutL c l).1).length ≤ _
        rw [List.length_cons, List.length_cons]; have := ih.1; omega
      · have := ih.2 y hy
        rw [List.length_cons]; omega

theorem cuts_size {c : UInt8} {l x : List UInt8} (h : x ∈ cuts c l) : x.length ≤ l.length := by
  rw [cuts_eq] at h
  have := cutL_size c l
  rcases List.mem_cons.1 h with rfl | h
  · exact this.1
  · exact this.2 x h

theorem index_one_none {c : UInt8} {l : List UInt8} (h : c ∉ l) : Lib.index l [c] = -1 := by
  refine Lib.index_none fun j hj => ?_
  unfold Lib.occAt
  rw [Bool.eq_false_iff]
  intro hp
  cases hd : l.drop j with
  | nil => rw [hd] at hp; simp at hp
  | cons b t =>
    rw [hd] at hp
    have : c = b := by simpa using hp
    subst this
    have : c ∈ l.drop j := by rw [hd]; simp
    exact h (List.mem_of_mem_drop this)

theorem index_one_first {c : UInt8} {x r : List UInt8} (h : c ∉ x) : Lib.index (x ++ c :: r) [c] = x.length := by
  refine Lib.index_first (by simp) ?_ fun j hj => ?_
  · unfold Lib.occAt; rw [List.drop_left]; simp
  · unfold Lib.occAt
    rw [Bool.eq_false_iff]
    intro hp
    have hd : (x ++ c :: r).drop j = x[j] :: (x.drop (j + 1) ++ c :: r) := by
      rw [List.drop_append_of_le_length (by omega), List.drop_eq_getElem_cons hj]; rfl
    rw [hd] at hp
    generalize x.drop (j + 1) ++ c :: r = q at hp
    have : c = x[j] := by simpa [List.isPrefixOf] using hp
    exact h (by rw [this]; exact List.getElem_mem hj)

theorem cut_none {c : UInt8} {l : List UInt8} (h : c ∉ l) : Lib.cut l [c] = (l, [], false) := by
  unfold Lib.cut; rw [index_one_none h, if_neg (by decide)]
theorem cut_first {c : UInt8} {x r : List UInt8} (h : c ∉ x) : Lib.cut (x ++ c :: r) [c] = (x, r, true) := by
  unfold Lib.cut
  rw [index_one_first h, if_pos (by omega)]
  simp

/-- strings.Split at a byte tells the pieces. -/
theorem split_cuts (c : UInt8) (l : List UInt8) : Lib.splitK [c] 0 (Lib.count l [c]) l = cuts c l := by
  rw [Lib.count_one]
  obtain ⟨k, hk⟩ : ∃ k, l.count c = k := ⟨_, rfl⟩
  rw [hk]
  induction k generalizing l with
  | zero =>
    have h : c ∉ l := List.count_eq_zero.1 hk
    rw [cuts_none h]; rfl
  | succ k ih =>
    rcases first_of c l with h | ⟨x, r, rfl, hx⟩
    · rw [List.count_eq_zero.2 h] at hk; omega
    · have hr : r.count c = k := by
        rw [List.count_append, List.count_eq_zero.2 hx, List.count_cons_self] at hk; omega
      rw [Lib.splitK, index_one_first hx, cuts_first hx, if_neg (by rw [beq_iff_eq]; omega)]
      have e : ((x.length : Int)).toNat = x.length := by omega
      rw [e, Nat.add_zero, List.take_left, ← ih r hr]
      congr 2
      rw [← List.drop_drop, List.drop_left]; rfl

/-- A word as a term. -/
def argOf (l : List UInt8) : Tm := ((match l with | [] => false | c :: _ => capital c), ⟨l.toArray⟩)
/-- Words between commas as terms. -/
def termsOf (l : List UInt8) : List Tm := if l = [] then [] else (cuts 44 l).map argOf

theorem argOf_name (l : List UInt8) : (argOf l).2.data.toList = l := by unfold argOf; simp
theorem termsOf_names (l : List UInt8) : Lib.join (tmNames (termsOf l)) [44] = l := by
  unfold termsOf
  by_cases h : l = []
  · subst h; rfl
  · rw [if_neg h]
    have : tmNames ((cuts 44 l).map argOf) = cuts 44 l := by
      unfold tmNames
      rw [List.map_map]
      conv => rhs; rw [← List.map_id (cuts 44 l)]
      exact List.map_congr_left fun x _ => argOf_name x
    rw [this, cuts_join]

/-- What the program reads, be it an atom or not. -/
def readA (l : List UInt8) : At := (⟨(Lib.cut l [40]).1.toArray⟩, termsOf (Lib.trimSuffix (Lib.cut l [40]).2.1 [41]))
def readOk (l : List UInt8) : Bool := (Lib.cut l [40]).2.2 && (Lib.hasSuffix (Lib.cut l [40]).2.1 [41] && atomB (readA l))
/-- The atom that a text is, if it is one. -/
def getB (l : List UInt8) : Option At := if l.length ≤ 1500 ∧ readOk l = true then some (readA l) else none

theorem getB_long {l : List UInt8} (h : 1500 < l.length) : getB l = none := by unfold getB; rw [if_neg (fun e => by omega)]
theorem getB_no {l : List UInt8} (h : readOk l = false) : getB l = none := by unfold getB; rw [if_neg (fun e => by rw [h] at e; cases e.2)]
theorem getB_yes {l : List UInt8} (h1 : l.length ≤ 1500) (h : readOk l = true) : getB l = some (readA l) := by unfold getB; rw [if_pos ⟨h1, h⟩]

theorem suffix_one {c : UInt8} {l : List UInt8} (h : Lib.hasSuffix l [c] = true) : ∃ x, l = x ++ [c] ∧ Lib.trimSuffix l [c] = x := by
  have h1 := h
  unfold Lib.hasSuffix at h1
  rw [List.isSuffixOf_iff_suffix] at h1
  obtain ⟨x, e⟩ := h1
  refine ⟨x, e.symm, ?_⟩
  unfold Lib.trimSuffix
  rw [if_pos h, ← e]
  simp

theorem has_suffix_one (c : UInt8) (x : List UInt8) : Lib.hasSuffix (x ++ [c]) [c] = true := by
  unfold Lib.hasSuffix
  rw [List.isSuffixOf_iff_suffix]
  exact List.suffix_append x [c]

/-- A byte of a name or of a variable. -/
def plainC (c : UInt8) : Prop := okByte c = true ∨ capital c = true

theorem name_plain {l : List UInt8} (h : nameB l = true) {c : UInt8} (hc : c ∈ l) : okByte c = true := by
  unfold nameB letters small at h
  simp only [Bool.and_eq_true] at h
  exact List.all_eq_true.1 h.1.1 c hc

theorem term_plain {t : Tm} (h : termB t = true) {c : UInt8} (hc : c ∈ t.2.data.toList) : plainC c := by
  unfold termB at h
  split at h
  · unfold varB at h
    split at h
    · rename_i e; rw [e] at hc; cases hc
    · rename_i b r e
      rw [e] at hc
      simp only [Bool.and_eq_true] at h
      rcases List.mem_cons.1 hc with rfl | hc
      · exact .inr h.1.1
      · exact .inl (List.all_eq_true.1 h.1.2 c hc)
  · exact .inl (name_plain h hc)

theorem not_plain {c : UInt8} (h : c = 40 ∨ c = 41 ∨ c = 44 ∨ c = 32) : ¬ plainC c := by
  unfold plainC
  rcases h with rfl | rfl | rfl | rfl <;> decide

theorem mem_join {c d : UInt8} {xs : List (List UInt8)} (h : c ∈ Lib.join xs [d]) : c = d ∨ ∃ x ∈ xs, c ∈ x := by
  cases xs with
  | nil => rw [Lib.join_nil] at h; cases h
  | cons x r =>
    rw [Lib.join_cons] at h
    rcases List.mem_append.1 h with h | h
    · exact .inr ⟨x, by simp, h⟩
    · unfold Lib.joinTail at h
      obtain ⟨y, hy, hc⟩ := List.mem_flatten.1 h
      obtain ⟨z, hz, rfl⟩ := List.mem_map.1 hy
      rcases List.mem_append.1 hc with hc | hc
      · exact .inl (by simpa using hc)
      · exact .inr ⟨z, by simp [hz], hc⟩

theorem atom_parts {a : At} (h : atomB a = true) : nameB a.1.data.toList = true ∧ (∀ t ∈ a.2, termB t = true) ∧ a.2.length ≤ 3 := by
  unfold atomB argsB at h
  simp only [Bool.and_eq_true, decide_eq_true_eq] at h
  exact ⟨h.2.1, List.all_eq_true.1 h.1, h.2.2⟩

theorem names_plain {a : At} (h : atomB a = true) {c : UInt8} (hc : c ∈ Lib.join (tmNames a.2) [44]) : c = 44 ∨ plainC c := by
  rcases mem_join hc with rfl | ⟨x, hx, hc⟩
  · exact .inl rfl
  · unfold tmNames at hx
    obtain ⟨t, ht, rfl⟩ := List.mem_map.1 hx
    exact .inr (term_plain ((atom_parts h).2.1 t ht) hc)

/-- The bytes of an atom's text. -/
theorem text_plain {a : At} (h : atomB a = true) {c : UInt8} (hc : c ∈ textL a) : c = 40 ∨ c = 41 ∨ c = 44 ∨ plainC c := by
  unfold textL at hc
  simp only [List.mem_append, List.mem_cons, List.not_mem_nil, or_false] at hc
  rcases hc with ((hc | rfl) | hc) | rfl
  · exact .inr (.inr (.inr (.inl (name_plain (atom_parts h).1 hc))))
  · exact .inl rfl
  · rcases names_plain h hc with rfl | hc
    · exact .inr (.inr (.inl rfl))
    · exact .inr (.inr (.inr hc))
  · exact .inr (.inl rfl)

theorem text_no_blank {a : At} (h : atomB a = true) : (32 : UInt8) ∉ textL a := by
  intro hc
  rcases text_plain h hc with e | e | e | e
  · cases e
  · cases e
  · cases e
  · exact not_plain (.inr (.inr (.inr rfl))) e

/-- What it means that the program reads an atom. -/
theorem read_ok {l : List UInt8} (h : readOk l = true) : ∃ x y, l = x ++ 40 :: (y ++ [41]) ∧ (40 : UInt8) ∉ x ∧ (40 : UInt8) ∉ y ∧ readA l = (⟨x.toArray⟩, termsOf y) ∧ atomB (readA l) = true ∧ textL (readA l) = l := by
  unfold readOk at h
  simp only [Bool.and_eq_true] at h
  obtain ⟨h1, h2, h3⟩ := h
  rcases first_of 40 l with hn | ⟨x, r, hl, hx⟩
  · rw [cut_none hn] at h1; cases h1
  · have hcut := cut_first (r := r) hx
    rw [← hl] at hcut
    rw [hcut] at h2
    obtain ⟨y, hr0, ht⟩ := suffix_one h2
    have hr : r = y ++ [41] := hr0
    have hA : readA l = (⟨x.toArray⟩, termsOf y) := by unfold readA; rw [hcut]; show (_, termsOf (Lib.trimSuffix r [41])) = _; rw [ht]
    have hT : textL (readA l) = l := by
      rw [hA]
      unfold textL
      rw [termsOf_names, hl, hr]
      simp
    refine ⟨x, y, by rw [hl, hr], hx, fun hm => ?_, hA, h3, hT⟩
    have := names_plain h3 (c := 40) (by rw [hA]; show _ ∈ Lib.join (tmNames (termsOf y)) [44]; rw [termsOf_names]; exact hm)
    rcases this with e | e
    · cases e
    · exact not_plain (.inl rfl) e

theorem cuts_two {l p0 p1 : List UInt8} {c : UInt8} (h : cuts c l = [p0, p1]) : l = p0 ++ c :: p1 ∧ c ∉ p0 ∧ c ∉ p1 := by
  rcases first_of c l with hn | ⟨x, r, rfl, hx⟩
  · rw [cuts_none hn] at h; cases h
  · rw [cuts_first hx] at h
    injection h with h0 h1
    subst h0
    rcases first_of c r with hn | ⟨x', r', rfl, hx'⟩
    · rw [cuts_none hn] at h1
      injection h1 with h1
      subst h1
      exact ⟨rfl, hx, hn⟩
    · rw [cuts_first hx', cuts_eq] at h1
      injection h1 with _ h1
      cases h1

/-- What the model reads. -/
def specA (p0 p1 : List UInt8) : At := (⟨p0.toArray⟩, termsOf (p1.take (p1.length - 1)))

theorem read_spec {l : List UInt8} (h : readOk l = true) : ∃ p0 p1, cuts 40 l = [p0, p1] ∧ p1 ≠ [] ∧ readA l = specA p0 p1 ∧ putB (specA p0 p1) = l := by
  obtain ⟨x, y, hl, hx, hy, hA, hB, hT⟩ := read_ok h
  have hA' : readA l = specA x (y ++ [41]) := by
    rw [hA]; unfold specA; simp
  refine ⟨x, y ++ [41], ?_, by simp, hA', ?_⟩
  · rw [hl, cuts_first hx, cuts_none]
    intro hm
    rcases List.mem_append.1 hm with hm | hm
    · exact hy hm
    · cases (List.mem_singleton.1 hm)
  · rw [← hA']; unfold putB; rw [if_pos hB, hT]

theorem spec_yes {l p0 p1 : List UInt8} (hc : cuts 40 l = [p0, p1]) (hl : l.length ≤ 1500) (h1 : p1 ≠ []) (hp : putB (specA p0 p1) = l) : getB l = some (specA p0 p1) := by
  obtain ⟨e, hx, hy⟩ := cuts_two hc
  have hB : atomB (specA p0 p1) = true := by
    cases hb : atomB (specA p0 p1)
    · unfold putB at hp; rw [hb] at hp
      rw [← hp] at e; simp at e
    · rfl
  have hT : textL (specA p0 p1) = l := by unfold putB at hp; rw [if_pos hB] at hp; exact hp
  have hcut := cut_first (r := p1) hx
  rw [← e] at hcut
  obtain ⟨y, b, hyb⟩ : ∃ y b, p1 = y ++ [b] := by
    rcases List.eq_nil_or_concat p1 with h | ⟨y, b, h⟩
    · exact absurd h h1
    · exact ⟨y, b, by rw [h, List.concat_eq_append]⟩
  have hS : specA p0 p1 = (⟨p0.toArray⟩, termsOf y) := by unfold specA; rw [hyb]; simp
  have hb : b = 41 := by
    have h2 := hT
    rw [hS] at h2
    unfold textL at h2
    rw [termsOf_names, e, hyb] at h2
    have h3 : (p0 ++ 40 :: y) ++ [41] = (p0 ++ 40 :: y) ++ [b] := by simpa using h2
    have h4 := List.append_cancel_left h3
    injection h4 with h4
    exact h4.symm
  have hsuf : Lib.hasSuffix p1 [41] = true := by rw [hyb, hb]; exact has_suffix_one 41 y
  obtain ⟨y', hy1, hy2⟩ := suffix_one hsuf
  have hyy : y' = y := by
    rw [hyb, hb] at hy1
    exact (List.append_inj_left' hy1 rfl).symm
  have hA : readA l = specA p0 p1 := by
    rw [hS]; unfold readA; rw [hcut]; show (_, termsOf (Lib.trimSuffix p1 [41])) = _; rw [hy2, hyy]
  have hok : readOk l = true := by
    unfold readOk; rw [hA, hcut, hB]; show (true && (Lib.hasSuffix p1 [41] && true)) = true; rw [hsuf]; rfl
  rw [getB_yes hl hok, hA]

theorem spec_no {l p0 p1 : List UInt8} (hc : cuts 40 l = [p0, p1]) (hp : putB (specA p0 p1) ≠ l) : getB l = none := by
  cases h : readOk l
  · exact getB_no h
  · obtain ⟨q0, q1, hq, _, _, h3⟩ := read_spec h
    rw [hq] at hc
    injection hc with e1 e2
    injection e2 with e2
    subst e1; subst e2
    exact absurd h3 hp

theorem spec_empty {l p0 : List UInt8} (hc : cuts 40 l = [p0, []]) : getB l = none := by
  cases h : readOk l
  · exact getB_no h
  · obtain ⟨q0, q1, hq, h2, _, _⟩ := read_spec h
    rw [hq] at hc
    injection hc with e1 e2
    injection e2 with e2
    exact absurd e2 h2

theorem spec_count {l : List UInt8} (hc : (cuts 40 l).length ≠ 2) : getB l = none := by
  cases h : readOk l
  · exact getB_no h
  · obtain ⟨q0, q1, hq, _, _, _⟩ := read_spec h
    rw [hq] at hc
    exact absurd rfl hc

/-- What was read of a text is an atom, and its text is the text. -/
theorem getB_some {l : List UInt8} {a : At} (h : getB l = some a) : atomB a = true ∧ textL a = l ∧ l.length ≤ 1500 := by
  unfold getB at h
  split at h
  · rename_i hc
    injection h with h
    subst h
    obtain ⟨x, y, _, _, _, _, h3, h4⟩ := read_ok hc.2
    exact ⟨h3, h4, hc.1⟩
  · cases h

end Go.Proofs.YtogonjkklioaaaaGreatDoor
