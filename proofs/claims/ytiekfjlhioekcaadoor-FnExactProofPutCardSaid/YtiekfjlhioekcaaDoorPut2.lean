/-
  Texts: AtomPut in the program and in its model.
-/
import Derived.Test.YtiekfjlhioekcaaDoorPut
import Derived.Deep.OwnRows
import Derived.Deep.RegionHeld3
namespace Go.Proofs.YtiekfjlhioekcaaDoor
open Go.RowKit

theorem name_le {l : List UInt8} (h : nameB l = true) : l.length ≤ 8 := by
  unfold nameB letters at h
  simp only [Bool.and_eq_true, decide_eq_true_eq] at h
  omega

theorem var_le {l : List UInt8} (h : varB l = true) : l.length ≤ 8 := by
  cases l with
  | nil => simp
  | cons c r =>
    unfold varB at h
    simp only [Bool.and_eq_true, decide_eq_true_eq] at h
    simp only [List.length_cons]
    omega

theorem term_le {t : Tm} (h : termB t = true) : t.2.data.toList.length ≤ 8 := by
  unfold termB at h
  split at h
  · exact var_le h
  · exact name_le h

theorem tail_le : ∀ xs : List (List UInt8), (∀ x ∈ xs, x.length ≤ 8) → (Lib.joinTail [44] xs).length ≤ 9 * xs.length
  | [], _ => by simp [Lib.joinTail]
  | x :: r, h => by
    have h1 := h x (by simp)
    have h2 := tail_le r (fun y hy => h y (by simp [hy]))
    have h3 : Lib.joinTail [44] (x :: r) = [44] ++ x ++ Lib.joinTail [44] r := by simp [Lib.joinTail]
    rw [h3]
    simp only [List.length_append, List.length_cons, List.length_nil]
    omega

theorem joined_le (xs : List (List UInt8)) (h : ∀ x ∈ xs, x.length ≤ 8) : (Lib.join xs [44]).length ≤ 9 * xs.length := by
  cases xs with
  | nil => simp [Lib.join_nil]
  | cons x r =>
    have h1 := h x (by simp)
    have h2 := tail_le r (fun y hy => h y (by simp [hy]))
    rw [Lib.join_cons]
    simp only [List.length_append, List.length_cons]
    omega

/-- The text of an atom that is ok is short. -/
theorem textL_le {a : At} (h : atomB a = true) : (textL a).length ≤ 40 := by
  unfold atomB argsB at h
  simp only [Bool.and_eq_true, decide_eq_true_eq] at h
  obtain ⟨h1, h2, h3⟩ := h
  have h4 := name_le h2
  have h5 := joined_le (tmNames a.2) (fun x hx => by
    unfold tmNames at hx
    obtain ⟨t, ht, rfl⟩ := List.mem_map.1 hx
    exact term_le (List.all_eq_true.1 h1 t ht))
  have h6 : (tmNames a.2).length = a.2.length := by unfold tmNames; simp
  unfold textL
  simp only [List.length_append, List.length_cons, List.length_nil]
  omega

/-- What AtomPut answers. -/
def putB (a : At) : List UInt8 := if atomB a then textL a else []

/-- The names of terms, as far as they stand in a row of texts. -/
def Named (w : World) (g n k : Nat) (ts : List Tm) : Prop := ∃ f, w.rowIs g 9 n f ∧ ∀ j t, j < k → ts[j]? = some t → f j = .string t.2

theorem Named.start (w : World) (n : Nat) (ts : List Tm) : Named (w.alloc (.cells (madeCells #[.string ByteArray.empty] n) 9)) w.heap.size n 0 ts :=
  ⟨_, World.rowIs_made w _ n _, fun j t hj => absurd hj (by omega)⟩

theorem Named.lt {w : World} {g n k : Nat} {ts : List Tm} (h : Named w g n k ts) : g < w.heap.size := by
  obtain ⟨f, h, _⟩ := h; exact h.lt

theorem Named.below {w w' : World} {g n k : Nat} {ts : List Tm} (h : Named w g n k ts) (hb : Below w.heap.size w w') : Named w' g n k ts := by
  obtain ⟨f, h, h2⟩ := h
  exact ⟨f, h.of_block (hb.block g h.lt), h2⟩

theorem Named.cell {w : World} {g n k : Nat} {ts : List Tm} (h : Named w g n k ts) (hk : k < n) : (∃ x, w.cell? ⟨g, k, none⟩ = some x) ∧ w.frozen? ⟨g, k, none⟩ = false := by
  obtain ⟨f, h, _⟩ := h
  exact ⟨⟨_, h.cell hk⟩, h.frozen _⟩

theorem Named.step {w : World} {g n k : Nat} {ts : List Tm} (h : Named w g n k ts) (t : Tm) (ht : ts[k]? = some t) : Named (w.setCell ⟨g, k, none⟩ (.string t.2)) g n (k + 1) ts := by
  obtain ⟨f, h, h2⟩ := h
  refine ⟨_, h.set k (.string t.2), fun j u hj hu => ?_⟩
  by_cases e : j = k
  · subst e
    rw [ht] at hu
    injection hu with hu
    subst hu
    simp
  · simp only [e, if_false]; exact h2 j u (by omega) hu

theorem Tryd.infoString : (Tryd.prog.info? 9).map (fun i => (i.zero, i.size, i.bytes)) = some (some (.string ByteArray.empty), 1, 16) := by kernel_rfl

theorem put_eq (nm : ByteArray) (ts : List Tm) : (⟨(textL (nm, ts)).toArray⟩ : ByteArray) = nm ++ ⟨#[40]⟩ ++ ⟨(Lib.join (tmNames ts) [44]).toArray⟩ ++ ⟨#[41]⟩ := by
  apply ByteArray.ext
  simp only [ByteArray.data_append]
  apply Array.toList_inj.1
  simp [textL]

/-- The names, joined. -/
theorem join_any (g n : Nat) (ts : List Tm) (w : World) (hl : ts.length = n) (hn : n ≤ 1048576) (h : Named w g n n ts) (hle : (textL (ByteArray.empty, ts)).length ≤ 1099511627776) :
    Calls Tryd.prog 34 #[.slice (some ⟨g, 0, none⟩) n n, .string ⟨#[44]⟩] w (StrPost (Lib.join (tmNames ts) [44]) w) := by
  subst hl
  obtain ⟨f, hr, hf⟩ := h
  have hx : ((ts.map (·.2)).map fun s => s.data.toList) = tmNames ts := by unfold tmNames; rw [List.map_map]; rfl
  have hj : (Lib.join (tmNames ts) [44]).length ≤ 140737488355328 := by
    unfold textL at hle
    simp only [List.length_append, List.length_cons, List.length_nil] at hle
    omega
  have key := Tryd.strings_Join g 0 ts.length (ts.map (·.2)) ⟨#[44]⟩ w (fun j x hj => by
      obtain ⟨t, ht, rfl⟩ := List.mem_map.1 (List.mem_of_getElem? hj)
      have hjl : j < ts.length := by have := (List.getElem?_eq_some_iff.1 hj).1; simpa using this
      rw [Nat.zero_add, hr.cell hjl]
      have hg : ts[j]? = some ts[j] := List.getElem?_eq_getElem hjl
      rw [hf j _ hjl hg]
      have : (ts.map (·.2))[j]? = some (ts[j]).2 := by simp [hjl]
      rw [this] at hj
      injection hj with hj
      rw [hj]) hr.lt (by rw [List.length_map]; omega) (by simp) (by rw [hx]; exact hj)
  rw [List.length_map, hx] at key
  exact key

set_option maxHeartbeats 2000000 in
theorem atomText_gen (nm : ByteArray) (A : Option Addr) (n c : Nat) (ts : List Tm) (w : World) (hn : n ≤ 1048576) (hle : (textL (nm, ts)).length ≤ 1099511627776) (h : IsTerms w 0 w.heap.size A n c ts) :
    Calls Tryd.prog 19 #[.agg #[.string nm, .slice A n c]] w (StrPost (textL (nm, ts)) w) := by
  have L1 := Lib.hid h.1
  have hl1 := h.1
  have H := Lib.hid h; clear h
  have hw0 := below1 w (.cells #[.string nm, .slice A n c] 32)
  have B0 := Lib.hid (Box.new w (.string nm) (.slice A n c) 32)
  have hle' : (textL (ByteArray.empty, ts)).length ≤ 1099511627776 := by
    unfold textL at hle ⊢
    simp only [List.length_append, List.length_cons, List.length_nil] at hle ⊢
    have : ByteArray.empty.data.toList.length = 0 := rfl
    omega
  have hns : nm.size ≤ 1099511627776 ∧ (Lib.join (tmNames ts) [44]).length ≤ 1099511627776 := by
    unfold textL at hle
    simp only [List.length_append, List.length_cons, List.length_nil] at hle
    have : nm.size = nm.data.toList.length := rfl
    omega
  obtain ⟨hns, hjs⟩ := hns
  have hns' : nm.size + 1 ≤ 9223372036854775807 := by omega
  have hn31 : (n : Int) ≤ 1048576 := by omega
  clear hl1
  obtain ⟨i0, hi, hz, hsz, hby⟩ := info_parts Tryd.infoString
  have hmk : ∀ W : World, (Instr.makeSlice 73 (.int .i64 (n : Int)) (.int .i64 (n : Int))).run Tryd.prog W = .ok (.slice (some ⟨W.heap.size, 0, none⟩) n n) (W.alloc (.cells (madeCells #[.string ByteArray.empty] n) 9)) := by
    intro W
    have hr := run_make (P := Tryd.prog) W 73 9 i0 _ Tryd.underlying73 hi hz .i64 .i64 n n (by omega) (Int.le_refl _) (by rw [hby]; omega) (by omega)
    rw [hsz, Nat.mul_one] at hr
    exact hr
  clear hi hz hsz hby
  go_enter Tryd.func19, Tryd.ntmps19
  obtain ⟨w1, hw1⟩ : ∃ w1, w.alloc (.cells #[.string nm, .slice A n c] 32) = w1 := ⟨_, rfl⟩
  rw [hw1] at hw0 B0
  have HB1 := hw0
  have B1 := B0
  obtain ⟨x1, x2, x3⟩ := B1.out
  have x2' := cellUp x2
  have x3' := cellUp x3
  go_wp2_with fail
  have hw2 := below1 w1 (.cells (madeCells #[.string ByteArray.empty] n) 9)
  have B2 := Lib.hid (B1.out.later hw2)
  go_loopw [4, 5, 13] (fun _ _ i wr => ∃ k : Nat, k ≤ n ∧ i = .int .i64 k ∧ Named wr w1.heap.size n k ts ∧ Below w1.heap.size w1 wr) (fun _ _ i _ => n - (intOf i).toNat)
  case atStart => exact ⟨0, Nat.zero_le _, rfl, Named.start w1 n ts, hw2⟩
  case round =>
    obtain ⟨k, hk, rfl, hf, hb⟩ := hrel
    have HF := Lib.hid hf; clear hf
    by_cases hlt : k < n
    · obtain ⟨p, t, hA, hlo, hhi, hg, c1, c2, c3⟩ := ((H.out.below HB1 (Nat.le_refl _)).keep (w' := wr) (hi' := w.heap.size) (fun q _ hq => hb.cell (Nat.lt_of_lt_of_le hq HB1.size)) (Nat.le_refl _) (Nat.le_refl _)).at_ hlt
      subst hA
      have HG := Lib.hid hg; clear hg
      have HF1 := HF.out.below (below1 wr (.cells #[.bool t.1, .string t.2] 75))
      have hg0 : w1.heap.size < wr.heap.size := HF.out.lt
      obtain ⟨⟨x0, hx0⟩, hz0⟩ := HF1.cell hlt
      go_wp2
      go_roundw
      case rel => exact ⟨k + 1, by omega, by go_num, (HF.out.step t HG.out).below (below1 _ _), (hb.setCell (Nat.le_refl _) _).alloc (by simp [World.setCell]; omega) _⟩
      case measure => simp [intOf]; omega
    · have B3 := B1.out.later hb
      obtain ⟨y1, y2, y3⟩ := B3
      have HJ : Named wr w1.heap.size n n ts := by
        have hkn : k = n := by omega
        have h9 := HF.out
        rw [hkn] at h9
        exact h9
      have HJd : Named wr.drew w1.heap.size n n ts := HJ
      go_wp2_with fail
      go_region_with ((with_reducible refine (join_any w1.heap.size n ts wr.drew L1.out (by omega) HJd hle').mono ?_); rintro e w9 ⟨rfl, hb9'⟩; have hb9 : Below wr.heap.size wr w9 := undrew hb9'; clear hb9'; have y9 : w9.cell? ⟨w.heap.size, 0, none⟩ = some (.string nm) := (hb9.cell (p := ⟨w.heap.size, 0, none⟩) y1).trans y2)
      all_goals go_wp2
      all_goals (go_ret; exact ⟨by rw [put_eq]; rfl, belowThen HB1 (hb.trans (hb9.mono hb.size))⟩)

theorem atomText_any (nm : ByteArray) (A : Option Addr) (n c : Nat) (ts : List Tm) (w : World) (hA : atomB (nm, ts) = true) (h : IsTerms w 0 w.heap.size A n c ts) :
    Calls Tryd.prog 19 #[.agg #[.string nm, .slice A n c]] w (StrPost (textL (nm, ts)) w) := by
  have hle := textL_le hA
  have hn3 : n ≤ 3 := by
    have hl1 := h.1
    unfold atomB at hA
    simp only [Bool.and_eq_true, decide_eq_true_eq] at hA
    omega
  exact atomText_gen nm A n c ts w (by omega) (by omega) h


end Go.Proofs.YtiekfjlhioekcaaDoor
