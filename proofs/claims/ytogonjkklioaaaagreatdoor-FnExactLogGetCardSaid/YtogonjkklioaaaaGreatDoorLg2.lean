/-
  Texts of one claim, put together.
-/
import Derived.Test.YtogonjkklioaaaaGreatDoorLg1
import Derived.Deep.OwnRows
import Derived.Deep.RegionHeld3
import Derived.Lib.SplitLaws
import Derived.Lib.Strings
import Derived.Test.YtogonjkklioaaaaGreatDoorLg0
import Derived.Deep.RegionWith
namespace Go.Proofs.YtogonjkklioaaaaGreatDoor
open Go.RowKit

theorem name_le {l : List UInt8} (h : nameB l = true) : l.length ≤ 8 := by
  unfold nameB letters at h
  simp only [Bool.and_eq_true, decide_eq_true_eq] at h
  omega

theorem var_le {l : List UInt8} (h : varB l = true) : l.length ≤ 8 := by
  cases l with
  | nil => simp
  | cons c r =>
    unfold varB at h
    simp only [Bool.and_eq_true, decide_eq_true_eq] at h
    simp only [List.length_cons]
    omega

theorem term_le {t : Tm} (h : termB t = true) : t.2.data.toList.length ≤ 8 := by
  unfold termB at h
  split at h
  · exact var_le h
  · exact name_le h

theorem tail_le : ∀ xs : List (List UInt8), (∀ x ∈ xs, x.length ≤ 8) → (Lib.joinTail [44] xs).length ≤ 9 * xs.length
  | [], _ => by simp [Lib.joinTail]
  | x :: r, h => by
    have h1 := h x (by simp)
    have h2 := tail_le r (fun y hy => h y (by simp [hy]))
    have h3 : Lib.joinTail [44] (x :: r) = [44] ++ x ++ Lib.joinTail [44] r := by simp [Lib.joinTail]
    rw [h3]
    simp only [List.length_append, List.length_cons, List.length_nil]
    omega

theorem joined_le (xs : List (List UInt8)) (h : ∀ x ∈ xs, x.length ≤ 8) : (Lib.join xs [44]).length ≤ 9 * xs.length := by
  cases xs with
  | nil => simp [Lib.join_nil]
  | cons x r =>
    have h1 := h x (by simp)
    have h2 := tail_le r (fun y hy => h y (by simp [hy]))
    rw [Lib.join_cons]
    simp only [List.length_append, List.length_cons]
    omega

/-- The text of an atom that is ok is short. -/
theorem textL_le {a : At} (h : atomB a = true) : (textL a).length ≤ 40 := by
  unfold atomB argsB at h
  simp only [Bool.and_eq_true, decide_eq_true_eq] at h
  obtain ⟨h1, h2, h3⟩ := h
  have h4 := name_le h2
  have h5 := joined_le (tmNames a.2) (fun x hx => by
    unfold tmNames at hx
    obtain ⟨t, ht, rfl⟩ := List.mem_map.1 hx
    exact term_le (List.all_eq_true.1 h1 t ht))
  have h6 : (tmNames a.2).length = a.2.length := by unfold tmNames; simp
  unfold textL
  simp only [List.length_append, List.length_cons, List.length_nil]
  omega

/-- What AtomPut answers. -/
def putB (a : At) : List UInt8 := if atomB a then textL a else []

/-- The names of terms, as far as they stand in a row of texts. -/
def Named (w : World) (g n k : Nat) (ts : List Tm) : Prop := ∃ f, w.rowIs g 9 n f ∧ ∀ j t, j < k → ts[j]? = some t → f j = .string t.2

theorem Named.start (w : World) (n : Nat) (ts : List Tm) : Named (w.alloc (.cells (madeCells #[.string ByteArray.empty] n) 9)) w.heap.size n 0 ts :=
  ⟨_, World.rowIs_made w _ n _, fun j t hj => absurd hj (by omega)⟩

theorem Named.lt {w : World} {g n k : Nat} {ts : List Tm} (h : Named w g n k ts) : g < w.heap.size := by
  obtain ⟨f, h, _⟩ := h; exact h.lt

theorem Named.below {w w' : World} {g n k : Nat} {ts : List Tm} (h : Named w g n k ts) (hb : Below w.heap.size w w') : Named w' g n k ts := by
  obtain ⟨f, h, h2⟩ := h
  exact ⟨f, h.of_block (hb.block g h.lt), h2⟩

theorem Named.cell {w : World} {g n k : Nat} {ts : List Tm} (h : Named w g n k ts) (hk : k < n) : (∃ x, w.cell? ⟨g, k, none⟩ = some x) ∧ w.frozen? ⟨g, k, none⟩ = false := by
  obtain ⟨f, h, _⟩ := h
  exact ⟨⟨_, h.cell hk⟩, h.frozen _⟩

theorem Named.step {w : World} {g n k : Nat} {ts : List Tm} (h : Named w g n k ts) (t : Tm) (ht : ts[k]? = some t) : Named (w.setCell ⟨g, k, none⟩ (.string t.2)) g n (k + 1) ts := by
  obtain ⟨f, h, h2⟩ := h
  refine ⟨_, h.set k (.string t.2), fun j u hj hu => ?_⟩
  by_cases e : j = k
  · subst e
    rw [ht] at hu
    injection hu with hu
    subst hu
    simp
  · simp only [e, if_false]; exact h2 j u (by omega) hu

theorem Tryz.infoString : (Tryz.prog.info? 9).map (fun i => (i.zero, i.size, i.bytes)) = some (some (.string ByteArray.empty), 1, 16) := by kernel_rfl

theorem put_eq (nm : ByteArray) (ts : List Tm) : (⟨(textL (nm, ts)).toArray⟩ : ByteArray) = nm ++ ⟨#[40]⟩ ++ ⟨(Lib.join (tmNames ts) [44]).toArray⟩ ++ ⟨#[41]⟩ := by
  apply ByteArray.ext
  simp only [ByteArray.data_append]
  apply Array.toList_inj.1
  simp [textL]

/-- The names, joined. -/
theorem join_any (g n : Nat) (ts : List Tm) (w : World) (hl : ts.length = n) (hn : n ≤ 1048576) (h : Named w g n n ts) (hle : (textL (ByteArray.empty, ts)).length ≤ 1099511627776) :
    Calls Tryz.prog 93 #[.slice (some ⟨g, 0, none⟩) n n, .string ⟨#[44]⟩] w (StrPost (Lib.join (tmNames ts) [44]) w) := by
  subst hl
  obtain ⟨f, hr, hf⟩ := h
  have hx : ((ts.map (·.2)).map fun s => s.data.toList) = tmNames ts := by unfold tmNames; rw [List.map_map]; rfl
  have hj : (Lib.join (tmNames ts) [44]).length ≤ 140737488355328 := by
    unfold textL at hle
    simp only [List.length_append, List.length_cons, List.length_nil] at hle
    omega
  have key := Tryz.strings_Join g 0 ts.length (ts.map (·.2)) ⟨#[44]⟩ w (fun j x hj => by
      obtain ⟨t, ht, rfl⟩ := List.mem_map.1 (List.mem_of_getElem? hj)
      have hjl : j < ts.length := by have := (List.getElem?_eq_some_iff.1 hj).1; simpa using this
      rw [Nat.zero_add, hr.cell hjl]
      have hg : ts[j]? = some ts[j] := List.getElem?_eq_getElem hjl
      rw [hf j _ hjl hg]
      have : (ts.map (·.2))[j]? = some (ts[j]).2 := by simp [hjl]
      rw [this] at hj
      injection hj with hj
      rw [hj]) hr.lt (by rw [List.length_map]; omega) (by simp) (by rw [hx]; exact hj)
  rw [List.length_map, hx] at key
  exact key

set_option maxHeartbeats 2000000 in
theorem atomText_any (nm : ByteArray) (A : Option Addr) (n c : Nat) (ts : List Tm) (w : World) (hA : atomB (nm, ts) = true) (h : IsTerms w 0 w.heap.size A n c ts) :
    Calls Tryz.prog 58 #[.agg #[.string nm, .slice A n c]] w (StrPost (textL (nm, ts)) w) := by
  have L1 := Lib.hid h.1
  have hl1 := h.1
  have H := Lib.hid h; clear h
  have hw0 := below1 w (.cells #[.string nm, .slice A n c] 51)
  have B0 := Lib.hid (Box.new w (.string nm) (.slice A n c) 51)
  have hle := textL_le hA
  have hle' : (textL (ByteArray.empty, ts)).length ≤ 1099511627776 := by
    unfold textL at hle ⊢
    simp only [List.length_append, List.length_cons, List.length_nil] at hle ⊢
    have : ByteArray.empty.data.toList.length = 0 := rfl
    omega
  have hns : nm.size ≤ 40 ∧ (Lib.join (tmNames ts) [44]).length ≤ 40 := by
    unfold textL at hle
    simp only [List.length_append, List.length_cons, List.length_nil] at hle
    have : nm.size = nm.data.toList.length := rfl
    omega
  obtain ⟨hns, hjs⟩ := hns
  have hns' : nm.size + 1 ≤ 9223372036854775807 := by omega
  have hn3 : n ≤ 3 := by
    unfold atomB at hA
    simp only [Bool.and_eq_true, decide_eq_true_eq] at hA
    omega
  have hn31 : (n : Int) ≤ 3 := by omega
  clear hA hl1
  obtain ⟨i0, hi, hz, hsz, hby⟩ := info_parts Tryz.infoString
  have hmk : ∀ W : World, (Instr.makeSlice 71 (.int .i64 (n : Int)) (.int .i64 (n : Int))).run Tryz.prog W = .ok (.slice (some ⟨W.heap.size, 0, none⟩) n n) (W.alloc (.cells (madeCells #[.string ByteArray.empty] n) 9)) := by
    intro W
    have hr := run_make (P := Tryz.prog) W 71 9 i0 _ Tryz.underlying71 hi hz .i64 .i64 n n (by omega) (Int.le_refl _) (by rw [hby]; omega) (by omega)
    rw [hsz, Nat.mul_one] at hr
    exact hr
  clear hi hz hsz hby
  go_enter Tryz.func58, Tryz.ntmps58
  obtain ⟨w1, hw1⟩ : ∃ w1, w.alloc (.cells #[.string nm, .slice A n c] 51) = w1 := ⟨_, rfl⟩
  rw [hw1] at hw0 B0
  have HB1 := hw0
  have B1 := B0
  obtain ⟨x1, x2, x3⟩ := B1.out
  have x2' := cellUp x2
  have x3' := cellUp x3
  go_wp2_with fail
  have hw2 := below1 w1 (.cells (madeCells #[.string ByteArray.empty] n) 9)
  have B2 := Lib.hid (B1.out.later hw2)
  go_loopw [4, 5, 13] (fun _ _ i wr => ∃ k : Nat, k ≤ n ∧ i = .int .i64 k ∧ Named wr w1.heap.size n k ts ∧ Below w1.heap.size w1 wr) (fun _ _ i _ => n - (intOf i).toNat)
  case atStart => exact ⟨0, Nat.zero_le _, rfl, Named.start w1 n ts, hw2⟩
  case round =>
    obtain ⟨k, hk, rfl, hf, hb⟩ := hrel
    have HF := Lib.hid hf; clear hf
    by_cases hlt : k < n
    · obtain ⟨p, t, hA, hlo, hhi, hg, c1, c2, c3⟩ := ((H.out.below HB1 (Nat.le_refl _)).keep (w' := wr) (hi' := w.heap.size) (fun q _ hq => hb.cell (Nat.lt_of_lt_of_le hq HB1.size)) (Nat.le_refl _) (Nat.le_refl _)).at_ hlt
      subst hA
      have HG := Lib.hid hg; clear hg
      have HF1 := HF.out.below (below1 wr (.cells #[.bool t.1, .string t.2] 110))
      have hg0 : w1.heap.size < wr.heap.size := HF.out.lt
      obtain ⟨⟨x0, hx0⟩, hz0⟩ := HF1.cell hlt
      go_wp2
      go_roundw
      case rel => exact ⟨k + 1, by omega, by go_num, (HF.out.step t HG.out).below (below1 _ _), (hb.setCell (Nat.le_refl _) _).alloc (by simp [World.setCell]; omega) _⟩
      case measure => simp [intOf]; omega
    · have B3 := B1.out.later hb
      obtain ⟨y1, y2, y3⟩ := B3
      have HJ : Named wr w1.heap.size n n ts := by
        have hkn : k = n := by omega
        have h9 := HF.out
        rw [hkn] at h9
        exact h9
      have HJd : Named wr.drew w1.heap.size n n ts := HJ
      go_wp2_with fail
      go_region_with ((with_reducible refine (join_any w1.heap.size n ts wr.drew L1.out (by omega) HJd hle').mono ?_); rintro e w9 ⟨rfl, hb9'⟩; have hb9 : Below wr.heap.size wr w9 := undrew hb9'; clear hb9'; have y9 : w9.cell? ⟨w.heap.size, 0, none⟩ = some (.string nm) := (hb9.cell (p := ⟨w.heap.size, 0, none⟩) y1).trans y2)
      all_goals go_wp2
      all_goals (go_ret; exact ⟨by rw [put_eq]; rfl, belowThen HB1 (hb.trans (hb9.mono hb.size))⟩)

set_option maxHeartbeats 2000000 in
theorem implAtomPut_any (nm : ByteArray) (A : Option Addr) (n c : Nat) (ts : List Tm) (w : World) (hs : nm.size ≤ maxLen) (h : IsTerms w 0 w.heap.size A n c ts) :
    Calls Tryz.prog 28 #[.agg #[.string nm, .slice A n c]] w (StrPost (putB (nm, ts)) w) := by
  have H := Lib.hid h; clear h
  have hw0 := below1 w (.cells #[.string nm, .slice A n c] 51)
  have B0 := Lib.hid (Box.new w (.string nm) (.slice A n c) 51)
  cases hA : atomB (nm, ts)
  · have E := Lib.hid (show putB (nm, ts) = [] by unfold putB; rw [hA]; rfl)
    have EA := Lib.hid hA; clear hA
    go_enter Tryz.func28, Tryz.ntmps28
    go_wp2_with fail
    refine (implAtomOk_any _ _ _ _ ts _ hs (H.out.up hw0)).mono ?_; rintro e w1 ⟨rfl, hb1⟩
    rw [EA.out]
    go_wp2
    go_ret; exact ⟨by rw [E.out]; rfl, belowThen hw0 hb1⟩
  · have E := Lib.hid (show putB (nm, ts) = textL (nm, ts) by unfold putB; rw [hA]; rfl)
    have EA := Lib.hid hA; clear hA
    go_enter Tryz.func28, Tryz.ntmps28
    go_wp2_with fail
    refine (implAtomOk_any _ _ _ _ ts _ hs (H.out.up hw0)).mono ?_; rintro e w1 ⟨rfl, hb1⟩
    have hb01 := belowThen hw0 hb1
    obtain ⟨x1, x2, x3⟩ := B0.out.later hb1
    rw [EA.out]
    go_wp2_with fail
    refine (atomText_any _ _ _ _ ts _ EA.out (H.out.up hb01)).mono ?_; rintro e w2 ⟨rfl, hb2⟩
    go_wp2
    go_ret; exact ⟨by rw [E.out]; rfl, belowThen hb01 hb2⟩

end Go.Proofs.YtogonjkklioaaaaGreatDoor

namespace Go.Proofs.YtogonjkklioaaaaGreatDoor

/-- One byte more of a text that is cut at each byte c: what is cut off, and what is begun. -/
def cutStep (c : UInt8) (s : List (List UInt8) × List UInt8) (b : UInt8) : List (List UInt8) × List UInt8 := if b = c then (s.1 ++ [s.2], []) else (s.1, s.2 ++ [b])
/-- A text cut at each byte c, from the left. -/
def cutRun (c : UInt8) (l : List UInt8) : List (List UInt8) × List UInt8 := l.foldl (cutStep c) ([], [])
/-- The pieces of a text cut at each byte c. -/
def cuts (c : UInt8) (l : List UInt8) : List (List UInt8) := (cutRun c l).1 ++ [(cutRun c l).2]

/-- The same from the right: the first piece, and the others. -/
def cutL (c : UInt8) : List UInt8 → List UInt8 × List (List UInt8)
  | [] => ([], [])
  | b :: l => if b = c then ([], (cutL c l).1 :: (cutL c l).2) else (b :: (cutL c l).1, (cutL c l).2)

theorem cutRun_take (c : UInt8) (l : List UInt8) (k : Nat) (b : UInt8) (h : l[k]? = some b) : cutRun c (l.take (k + 1)) = cutStep c (cutRun c (l.take k)) b := by
  unfold cutRun
  rw [List.take_add_one, h, List.foldl_append]; rfl

theorem cut_fold (c : UInt8) : ∀ (l : List UInt8) (o : List (List UInt8)) (cur : List UInt8), (l.foldl (cutStep c) (o, cur)).1 ++ [(l.foldl (cutStep c) (o, cur)).2] = o ++ (cur ++ (cutL c l).1) :: (cutL c l).2
  | [], o, cur => by simp [cutL]
  | b :: l, o, cur => by
    rw [List.foldl_cons]
    by_cases h : b = c
    · have e : cutStep c (o, cur) b = (o ++ [cur], []) := by unfold cutStep; rw [if_pos h]
      have e2 : cutL c (b :: l) = ([], (cutL c l).1 :: (cutL c l).2) := by rw [cutL, if_pos h]
      rw [e, cut_fold c l, e2]; simp
    · have e : cutStep c (o, cur) b = (o, cur ++ [b]) := by unfold cutStep; rw [if_neg h]
      have e2 : cutL c (b :: l) = (b :: (cutL c l).1, (cutL c l).2) := by rw [cutL, if_neg h]
      rw [e, cut_fold c l, e2]; simp

theorem cuts_eq (c : UInt8) (l : List UInt8) : cuts c l = (cutL c l).1 :: (cutL c l).2 := by
  have := cut_fold c l [] []
  unfold cuts cutRun
  rw [this]; simp

theorem joinTail_cons (sep x : List UInt8) (r : List (List UInt8)) : Lib.joinTail sep (x :: r) = sep ++ x ++ Lib.joinTail sep r := by simp [Lib.joinTail]

theorem cutL_join (c : UInt8) : ∀ l : List UInt8, (cutL c l).1 ++ Lib.joinTail [c] (cutL c l).2 = l
  | [] => by simp [cutL, Lib.joinTail]
  | b :: l => by
    have ih := cutL_join c l
    by_cases h : b = c
    · rw [cutL, if_pos h, joinTail_cons, h]
      simp only [List.nil_append, List.append_assoc]
      rw [ih]; rfl
    · rw [cutL, if_neg h, List.cons_append, ih]

/-- The pieces joined are the text. -/
theorem cuts_join (c : UInt8) (l : List UInt8) : Lib.join (cuts c l) [c] = l := by rw [cuts_eq, Lib.join_cons]; exact cutL_join c l

theorem cutL_none (c : UInt8) : ∀ x : List UInt8, c ∉ x → cutL c x = (x, [])
  | [], _ => rfl
  | b :: x, h => by
    have hb : ¬ b = c := fun e => h (by simp [e])
    rw [cutL, if_neg hb, cutL_none c x (fun hm => h (by simp [hm]))]

theorem cutL_first (c : UInt8) : ∀ (x r : List UInt8), c ∉ x → cutL c (x ++ c :: r) = (x, (cutL c r).1 :: (cutL c r).2)
  | [], r, _ => by show cutL c (c :: r) = _; rw [cutL, if_pos rfl]
  | b :: x, r, h => by
    have hb : ¬ b = c := fun e => h (by simp [e])
    show cutL c (b :: (x ++ c :: r)) = _
    rw [cutL, if_neg hb, cutL_first c x r (fun hm => h (by simp [hm]))]

theorem cuts_none {c : UInt8} {x : List UInt8} (h : c ∉ x) : cuts c x = [x] := by rw [cuts_eq, cutL_none c x h]
theorem cuts_first {c : UInt8} {x r : List UInt8} (h : c ∉ x) : cuts c (x ++ c :: r) = x :: cuts c r := by rw [cuts_eq, cutL_first c x r h, cuts_eq]

/-- A text holds a byte first here, or not at all. -/
theorem first_of (c : UInt8) (l : List UInt8) : c ∉ l ∨ ∃ x r, l = x ++ c :: r ∧ c ∉ x := by
  by_cases h : c ∈ l
  · obtain ⟨x, r, e, hx⟩ := List.eq_append_cons_of_mem h
    exact .inr ⟨x, r, e, hx⟩
  · exact .inl h

theorem cutL_len (c : UInt8) : ∀ l : List UInt8, (cutL c l).2.length ≤ l.length
  | [] => Nat.le_refl _
  | b :: l => by
    have ih := cutL_len c l
    by_cases h : b = c
    · rw [cutL, if_pos h]
      show ((cutL c l).1 :: (cutL c l).2).length ≤ (b :: l).length
      rw [List.length_cons, List.length_cons]; omega
    · rw [cutL, if_neg h]
      show (cutL c l).2.length ≤ (b :: l).length
      rw [List.length_cons]; omega

theorem cuts_len (c : UInt8) (l : List UInt8) : (cuts c l).length ≤ l.length + 1 := by
  have := cutL_len c l
  rw [cuts_eq, List.length_cons]; omega

theorem cutL_size (c : UInt8) : ∀ l : List UInt8, (cutL c l).1.length ≤ l.length ∧ ∀ y ∈ (cutL c l).2, y.length ≤ l.length
  | [] => ⟨Nat.le_refl _, fun y hy => by cases hy⟩
  | b :: l => by
    have ih := cutL_size c l
    by_cases h : b = c
    · rw [cutL, if_pos h]
      refine ⟨Nat.zero_le _, fun y hy => ?_⟩
      rw [List.length_cons]
      rcases List.mem_cons.1 hy with rfl | hy
      · have := ih.1; omega
      · have := ih.2 y hy; omega
    · rw [cutL, if_neg h]
      refine ⟨?_, fun y hy => ?_⟩
      · show (b :: (cutL c l).1).length ≤ _
        rw [List.length_cons, List.length_cons]; have := ih.1; omega
      · have := ih.2 y hy
        rw [List.length_cons]; omega

theorem cuts_size {c : UInt8} {l x : List UInt8} (h : x ∈ cuts c l) : x.length ≤ l.length := by
  rw [cuts_eq] at h
  have := cutL_size c l
  rcases List.mem_cons.1 h with rfl | h
  · exact this.1
  · exact this.2 x h

theorem index_one_none {c : UInt8} {l : List UInt8} (h : c ∉ l) : Lib.index l [c] = -1 := by
  refine Lib.index_none fun j hj => ?_
  unfold Lib.occAt
  rw [Bool.eq_false_iff]
  intro hp
  cases hd : l.drop j with
  | nil => rw [hd] at hp; simp at hp
  | cons b t =>
    rw [hd] at hp
    have : c = b := by simpa using hp
    subst this
    have : c ∈ l.drop j := by rw [hd]; simp
    exact h (List.mem_of_mem_drop this)

theorem index_one_first {c : UInt8} {x r : List UInt8} (h : c ∉ x) : Lib.index (x ++ c :: r) [c] = x.length := by
  refine Lib.index_first (by simp) ?_ fun j hj => ?_
  · unfold Lib.occAt; rw [List.drop_left]; simp
  · unfold Lib.occAt
    rw [Bool.eq_false_iff]
    intro hp
    have hd : (x ++ c :: r).drop j = x[j] :: (x.drop (j + 1) ++ c :: r) := by
      rw [List.drop_append_of_le_length (by omega), List.drop_eq_getElem_cons hj]; rfl
    rw [hd] at hp
    generalize x.drop (j + 1) ++ c :: r = q at hp
    have : c = x[j] := by simpa [List.isPrefixOf] using hp
    exact h (by rw [this]; exact List.getElem_mem hj)

theorem cut_none {c : UInt8} {l : List UInt8} (h : c ∉ l) : Lib.cut l [c] = (l, [], false) := by
  unfold Lib.cut; rw [index_one_none h, if_neg (by decide)]
theorem cut_first {c : UInt8} {x r : List UInt8} (h : c ∉ x) : Lib.cut (x ++ c :: r) [c] = (x, r, true) := by
  unfold Lib.cut
  rw [index_one_first h, if_pos (by omega)]
  simp

/-- strings.Split at a byte tells the pieces. -/
theorem split_cuts (c : UInt8) (l : List UInt8) : Lib.splitK [c] 0 (Lib.count l [c]) l = cuts c l := by
  rw [Lib.count_one]
  obtain ⟨k, hk⟩ : ∃ k, l.count c = k := ⟨_, rfl⟩
  rw [hk]
  induction k generalizing l with
  | zero =>
    have h : c ∉ l := List.count_eq_zero.1 hk
    rw [cuts_none h]; rfl
  | succ k ih =>
    rcases first_of c l with h | ⟨x, r, rfl, hx⟩
    · rw [List.count_eq_zero.2 h] at hk; omega
    · have hr : r.count c = k := by
        rw [List.count_append, List.count_eq_zero.2 hx, List.count_cons_self] at hk; omega
      rw [Lib.splitK, index_one_first hx, cuts_first hx, if_neg (by rw [beq_iff_eq]; omega)]
      have e : ((x.length : Int)).toNat = x.length := by omega
      rw [e, Nat.add_zero, List.take_left, ← ih r hr]
      congr 2
      rw [← List.drop_drop, List.drop_left]; rfl

/-- A word as a term. -/
def argOf (l : List UInt8) : Tm := ((match l with | [] => false | c :: _ => capital c), ⟨l.toArray⟩)
/-- Words between commas as terms. -/
def termsOf (l : List UInt8) : List Tm := if l = [] then [] else (cuts 44 l).map argOf

theorem argOf_name (l : List UInt8) : (argOf l).2.data.toList = l := by unfold argOf; simp
theorem termsOf_names (l : List UInt8) : Lib.join (tmNames (termsOf l)) [44] = l := by
  unfold termsOf
  by_cases h : l = []
  · subst h; rfl
  · rw [if_neg h]
    have : tmNames ((cuts 44 l).map argOf) = cuts 44 l := by
      unfold tmNames
      rw [List.map_map]
      conv => rhs; rw [← List.map_id (cuts 44 l)]
      exact List.map_congr_left fun x _ => argOf_name x
    rw [this, cuts_join]

/-- What the program reads, be it an atom or not. -/
def readA (l : List UInt8) : At := (⟨(Lib.cut l [40]).1.toArray⟩, termsOf (Lib.trimSuffix (Lib.cut l [40]).2.1 [41]))
def readOk (l : List UInt8) : Bool := (Lib.cut l [40]).2.2 && (Lib.hasSuffix (Lib.cut l [40]).2.1 [41] && atomB (readA l))
/-- The atom that a text is, if it is one. -/
def getB (l : List UInt8) : Option At := if l.length ≤ 1500 ∧ readOk l = true then some (readA l) else none

theorem getB_long {l : List UInt8} (h : 1500 < l.length) : getB l = none := by unfold getB; rw [if_neg (fun e => by omega)]
theorem getB_no {l : List UInt8} (h : readOk l = false) : getB l = none := by unfold getB; rw [if_neg (fun e => by rw [h] at e; cases e.2)]
theorem getB_yes {l : List UInt8} (h1 : l.length ≤ 1500) (h : readOk l = true) : getB l = some (readA l) := by unfold getB; rw [if_pos ⟨h1, h⟩]

theorem suffix_one {c : UInt8} {l : List UInt8} (h : Lib.hasSuffix l [c] = true) : ∃ x, l = x ++ [c] ∧ Lib.trimSuffix l [c] = x := by
  have h1 := h
  unfold Lib.hasSuffix at h1
  rw [List.isSuffixOf_iff_suffix] at h1
  obtain ⟨x, e⟩ := h1
  refine ⟨x, e.symm, ?_⟩
  unfold Lib.trimSuffix
  rw [if_pos h, ← e]
  simp

theorem has_suffix_one (c : UInt8) (x : List UInt8) : Lib.hasSuffix (x ++ [c]) [c] = true := by
  unfold Lib.hasSuffix
  rw [List.isSuffixOf_iff_suffix]
  exact List.suffix_append x [c]

/-- A byte of a name or of a variable. -/
def plainC (c : UInt8) : Prop := okByte c = true ∨ capital c = true

theorem name_plain {l : List UInt8} (h : nameB l = true) {c : UInt8} (hc : c ∈ l) : okByte c = true := by
  unfold nameB letters small at h
  simp only [Bool.and_eq_true] at h
  exact List.all_eq_true.1 h.1.1 c hc

theorem term_plain {t : Tm} (h : termB t = true) {c : UInt8} (hc : c ∈ t.2.data.toList) : plainC c := by
  unfold termB at h
  split at h
  · unfold varB at h
    split at h
    · rename_i e; rw [e] at hc; cases hc
    · rename_i b r e
      rw [e] at hc
      simp only [Bool.and_eq_true] at h
      rcases List.mem_cons.1 hc with rfl | hc
      · exact .inr h.1.1
      · exact .inl (List.all_eq_true.1 h.1.2 c hc)
  · exact .inl (name_plain h hc)

theorem not_plain {c : UInt8} (h : c = 40 ∨ c = 41 ∨ c = 44 ∨ c = 32) : ¬ plainC c := by
  unfold plainC
  rcases h with rfl | rfl | rfl | rfl <;> decide

theorem mem_join {c d : UInt8} {xs : List (List UInt8)} (h : c ∈ Lib.join xs [d]) : c = d ∨ ∃ x ∈ xs, c ∈ x := by
  cases xs with
  | nil => rw [Lib.join_nil] at h; cases h
  | cons x r =>
    rw [Lib.join_cons] at h
    rcases List.mem_append.1 h with h | h
    · exact .inr ⟨x, by simp, h⟩
    · unfold Lib.joinTail at h
      obtain ⟨y, hy, hc⟩ := List.mem_flatten.1 h
      obtain ⟨z, hz, rfl⟩ := List.mem_map.1 hy
      rcases List.mem_append.1 hc with hc | hc
      · exact .inl (by simpa using hc)
      · exact .inr ⟨z, by simp [hz], hc⟩

theorem atom_parts {a : At} (h : atomB a = true) : nameB a.1.data.toList = true ∧ (∀ t ∈ a.2, termB t = true) ∧ a.2.length ≤ 3 := by
  unfold atomB argsB at h
  simp only [Bool.and_eq_true, decide_eq_true_eq] at h
  exact ⟨h.2.1, List.all_eq_true.1 h.1, h.2.2⟩

theorem names_plain {a : At} (h : atomB a = true) {c : UInt8} (hc : c ∈ Lib.join (tmNames a.2) [44]) : c = 44 ∨ plainC c := by
  rcases mem_join hc with rfl | ⟨x, hx, hc⟩
  · exact .inl rfl
  · unfold tmNames at hx
    obtain ⟨t, ht, rfl⟩ := List.mem_map.1 hx
    exact .inr (term_plain ((atom_parts h).2.1 t ht) hc)

/-- The bytes of an atom's text. -/
theorem text_plain {a : At} (h : atomB a = true) {c : UInt8} (hc : c ∈ textL a) : c = 40 ∨ c = 41 ∨ c = 44 ∨ plainC c := by
  unfold textL at hc
  simp only [List.mem_append, List.mem_cons, List.not_mem_nil, or_false] at hc
  rcases hc with ((hc | rfl) | hc) | rfl
  · exact .inr (.inr (.inr (.inl (name_plain (atom_parts h).1 hc))))
  · exact .inl rfl
  · rcases names_plain h hc with rfl | hc
    · exact .inr (.inr (.inl rfl))
    · exact .inr (.inr (.inr hc))
  · exact .inr (.inl rfl)

theorem text_no_blank {a : At} (h : atomB a = true) : (32 : UInt8) ∉ textL a := by
  intro hc
  rcases text_plain h hc with e | e | e | e
  · cases e
  · cases e
  · cases e
  · exact not_plain (.inr (.inr (.inr rfl))) e

/-- What it means that the program reads an atom. -/
theorem read_ok {l : List UInt8} (h : readOk l = true) : ∃ x y, l = x ++ 40 :: (y ++ [41]) ∧ (40 : UInt8) ∉ x ∧ (40 : UInt8) ∉ y ∧ readA l = (⟨x.toArray⟩, termsOf y) ∧ atomB (readA l) = true ∧ textL (readA l) = l := by
  unfold readOk at h
  simp only [Bool.and_eq_true] at h
  obtain ⟨h1, h2, h3⟩ := h
  rcases first_of 40 l with hn | ⟨x, r, hl, hx⟩
  · rw [cut_none hn] at h1; cases h1
  · have hcut := cut_first (r := r) hx
    rw [← hl] at hcut
    rw [hcut] at h2
    obtain ⟨y, hr0, ht⟩ := suffix_one h2
    have hr : r = y ++ [41] := hr0
    have hA : readA l = (⟨x.toArray⟩, termsOf y) := by unfold readA; rw [hcut]; show (_, termsOf (Lib.trimSuffix r [41])) = _; rw [ht]
    have hT : textL (readA l) = l := by
      rw [hA]
      unfold textL
      rw [termsOf_names, hl, hr]
      simp
    refine ⟨x, y, by rw [hl, hr], hx, fun hm => ?_, hA, h3, hT⟩
    have := names_plain h3 (c := 40) (by rw [hA]; show _ ∈ Lib.join (tmNames (termsOf y)) [44]; rw [termsOf_names]; exact hm)
    rcases this with e | e
    · cases e
    · exact not_plain (.inl rfl) e

theorem cuts_two {l p0 p1 : List UInt8} {c : UInt8} (h : cuts c l = [p0, p1]) : l = p0 ++ c :: p1 ∧ c ∉ p0 ∧ c ∉ p1 := by
  rcases first_of c l with hn | ⟨x, r, rfl, hx⟩
  · rw [cuts_none hn] at h; cases h
  · rw [cuts_first hx] at h
    injection h with h0 h1
    subst h0
    rcases first_of c r with hn | ⟨x', r', rfl, hx'⟩
    · rw [cuts_none hn] at h1
      injection h1 with h1
      subst h1
      exact ⟨rfl, hx, hn⟩
    · rw [cuts_first hx', cuts_eq] at h1
      injection h1 with _ h1
      cases h1

/-- What the model reads. -/
def specA (p0 p1 : List UInt8) : At := (⟨p0.toArray⟩, termsOf (p1.take (p1.length - 1)))

theorem read_spec {l : List UInt8} (h : readOk l = true) : ∃ p0 p1, cuts 40 l = [p0, p1] ∧ p1 ≠ [] ∧ readA l = specA p0 p1 ∧ putB (specA p0 p1) = l := by
  obtain ⟨x, y, hl, hx, hy, hA, hB, hT⟩ := read_ok h
  have hA' : readA l = specA x (y ++ [41]) := by
    rw [hA]; unfold specA; simp
  refine ⟨x, y ++ [41], ?_, by simp, hA', ?_⟩
  · rw [hl, cuts_first hx, cuts_none]
    intro hm
    rcases List.mem_append.1 hm with hm | hm
    · exact hy hm
    · cases (List.mem_singleton.1 hm)
  · rw [← hA']; unfold putB; rw [if_pos hB, hT]

theorem spec_yes {l p0 p1 : List UInt8} (hc : cuts 40 l = [p0, p1]) (hl : l.length ≤ 1500) (h1 : p1 ≠ []) (hp : putB (specA p0 p1) = l) : getB l = some (specA p0 p1) := by
  obtain ⟨e, hx, hy⟩ := cuts_two hc
  have hB : atomB (specA p0 p1) = true := by
    cases hb : atomB (specA p0 p1)
    · unfold putB at hp; rw [hb] at hp
      rw [← hp] at e; simp at e
    · rfl
  have hT : textL (specA p0 p1) = l := by unfold putB at hp; rw [if_pos hB] at hp; exact hp
  have hcut := cut_first (r := p1) hx
  rw [← e] at hcut
  obtain ⟨y, b, hyb⟩ : ∃ y b, p1 = y ++ [b] := by
    rcases List.eq_nil_or_concat p1 with h | ⟨y, b, h⟩
    · exact absurd h h1
    · exact ⟨y, b, by rw [h, List.concat_eq_append]⟩
  have hS : specA p0 p1 = (⟨p0.toArray⟩, termsOf y) := by unfold specA; rw [hyb]; simp
  have hb : b = 41 := by
    have h2 := hT
    rw [hS] at h2
    unfold textL at h2
    rw [termsOf_names, e, hyb] at h2
    have h3 : (p0 ++ 40 :: y) ++ [41] = (p0 ++ 40 :: y) ++ [b] := by simpa using h2
    have h4 := List.append_cancel_left h3
    injection h4 with h4
    exact h4.symm
  have hsuf : Lib.hasSuffix p1 [41] = true := by rw [hyb, hb]; exact has_suffix_one 41 y
  obtain ⟨y', hy1, hy2⟩ := suffix_one hsuf
  have hyy : y' = y := by
    rw [hyb, hb] at hy1
    exact (List.append_inj_left' hy1 rfl).symm
  have hA : readA l = specA p0 p1 := by
    rw [hS]; unfold readA; rw [hcut]; show (_, termsOf (Lib.trimSuffix p1 [41])) = _; rw [hy2, hyy]
  have hok : readOk l = true := by
    unfold readOk; rw [hA, hcut, hB]; show (true && (Lib.hasSuffix p1 [41] && true)) = true; rw [hsuf]; rfl
  rw [getB_yes hl hok, hA]

theorem spec_no {l p0 p1 : List UInt8} (hc : cuts 40 l = [p0, p1]) (hp : putB (specA p0 p1) ≠ l) : getB l = none := by
  cases h : readOk l
  · exact getB_no h
  · obtain ⟨q0, q1, hq, _, _, h3⟩ := read_spec h
    rw [hq] at hc
    injection hc with e1 e2
    injection e2 with e2
    subst e1; subst e2
    exact absurd h3 hp

theorem spec_empty {l p0 : List UInt8} (hc : cuts 40 l = [p0, []]) : getB l = none := by
  cases h : readOk l
  · exact getB_no h
  · obtain ⟨q0, q1, hq, h2, _, _⟩ := read_spec h
    rw [hq] at hc
    injection hc with e1 e2
    injection e2 with e2
    exact absurd e2 h2

theorem spec_count {l : List UInt8} (hc : (cuts 40 l).length ≠ 2) : getB l = none := by
  cases h : readOk l
  · exact getB_no h
  · obtain ⟨q0, q1, hq, _, _, _⟩ := read_spec h
    rw [hq] at hc
    exact absurd rfl hc

/-- What was read of a text is an atom, and its text is the text. -/
theorem getB_some {l : List UInt8} {a : At} (h : getB l = some a) : atomB a = true ∧ textL a = l ∧ l.length ≤ 1500 := by
  unfold getB at h
  split at h
  · rename_i hc
    injection h with h
    subst h
    obtain ⟨x, y, _, _, _, _, h3, h4⟩ := read_ok hc.2
    exact ⟨h3, h4, hc.1⟩
  · cases h

end Go.Proofs.YtogonjkklioaaaaGreatDoor

namespace Go.Proofs.YtogonjkklioaaaaGreatDoor
open Go.RowKit

/-- Each has few terms. -/
def SmallParts (n : Nat) (xs : List Pt) : Prop := n ≤ 1048576 ∧ ∀ q ∈ xs, q.2.2.length ≤ 1048576



/-- A part by value, its terms in memory of their own. -/
def PartPost (b : Bool) (nm : ByteArray) (n : Nat) (ts : List Tm) (w : World) (e : Ending) (w' : World) : Prop := ∃ g, e = .returned (.agg #[.bool b, .string nm, .slice (some ⟨g, 0, none⟩) n n]) ∧ w.heap.size ≤ g ∧ OwnTerms w' g n ts ∧ Below w.heap.size w w'


theorem Tryz.infoPart : (Tryz.prog.info? 171).map (fun i => (i.zero, i.size, i.bytes)) = some (some (.agg #[.bool false, .string ByteArray.empty, .slice none 0 0]), 3, 48) := by kernel_rfl

/-- A copy of parts, in memory of its own. -/
def PartSPost (n : Nat) (xs : List Pt) (w : World) (e : Ending) (w' : World) : Prop := ∃ g, e = .returned (.slice (some ⟨g, 0, none⟩) n n) ∧ w.heap.size ≤ g ∧ IsParts w' w.heap.size w'.heap.size (some ⟨g, 0, none⟩) n n xs ∧ Below w.heap.size w w'


end Go.Proofs.YtogonjkklioaaaaGreatDoor

namespace Go.Proofs.YtogonjkklioaaaaGreatDoor
open Go.RowKit

def partEq (a b : Pt) : Bool := (a.1 == b.1) && atomEq a.2 b.2

theorem partEq_refl (a : Pt) : partEq a a = true := by unfold partEq; simp [atomEq_refl]



end Go.Proofs.YtogonjkklioaaaaGreatDoor


namespace Go.Proofs.YtogonjkklioaaaaGreatDoor
open Go.RowKit

/-- The terms of a rule's head, and its parts. -/
def IsRule (w : World) (hi : Nat) (A : Option Addr) (n c : Nat) (B : Option Addr) (m d : Nat) (ts : List Tm) (xs : List Pt) : Prop := IsTerms w 0 hi A n c ts ∧ IsParts w 0 hi B m d xs

theorem IsRule.up {w w' : World} {A B : Option Addr} {n c m d : Nat} {ts : List Tm} {xs : List Pt} (h : IsRule w w.heap.size A n c B m d ts xs) (hb : Below w.heap.size w w') : IsRule w' w'.heap.size A n c B m d ts xs :=
  ⟨h.1.up hb, h.2.up PartE.stays hb⟩

theorem IsRule.head {w : World} {hi n c m d : Nat} {A B : Option Addr} {ts : List Tm} {xs : List Pt} (h : IsRule w hi A n c B m d ts xs) : IsTerms w 0 hi A n c ts := h.1
theorem IsRule.body {w : World} {hi n c m d : Nat} {A B : Option Addr} {ts : List Tm} {xs : List Pt} (h : IsRule w hi A n c B m d ts xs) : IsParts w 0 hi B m d xs := h.2

/-- Three cells of a box. -/
def Box3 (w : World) (b : Nat) (u v x : Value) : Prop := b < w.heap.size ∧ w.cell? ⟨b, 0, none⟩ = some u ∧ w.cell? ⟨b, 1, none⟩ = some v ∧ w.cell? ⟨b, 2, none⟩ = some x

theorem Box3.new (w : World) (u v x : Value) (t : TypeId) : Box3 (w.alloc (.cells #[u, v, x] t)) w.heap.size u v x := by
  refine ⟨by simp, ?_, ?_, ?_⟩ <;> simp [go_sem]

theorem Box3.later {w w' : World} {b : Nat} {u v x : Value} (h : Box3 w b u v x) (hb : Below w.heap.size w w') : Box3 w' b u v x :=
  ⟨Nat.lt_of_lt_of_le h.1 hb.size, (hb.cell (p := ⟨b, 0, none⟩) h.1).trans h.2.1, (hb.cell (p := ⟨b, 1, none⟩) h.1).trans h.2.2.1, (hb.cell (p := ⟨b, 2, none⟩) h.1).trans h.2.2.2⟩

theorem Box3.other {w : World} {b : Nat} {u v x : Value} (h : Box3 w b u v x) {a : Addr} (ha : b ≠ a.block) (y : Value) : Box3 (w.setCell a y) b u v x :=
  ⟨by rw [size_setCell]; exact h.1, by rw [World.cell?_setCell_other _ _ _ _ (fun e => by subst e; simp at ha)]; exact h.2.1, by rw [World.cell?_setCell_other _ _ _ _ (fun e => by subst e; simp at ha)]; exact h.2.2.1, by rw [World.cell?_setCell_other _ _ _ _ (fun e => by subst e; simp at ha)]; exact h.2.2.2⟩

/-- A rule by value has few terms and parts. -/
def SmallRule (n m : Nat) (xs : List Pt) : Prop := n ≤ 1048576 ∧ SmallParts m xs


/-- A copy of a rule, in memory of its own. -/
def OwnRule (w : World) (g g' n m : Nat) (ts : List Tm) (xs : List Pt) : Prop := IsTerms w 0 w.heap.size (some ⟨g, 0, none⟩) n n ts ∧ IsParts w 0 w.heap.size (some ⟨g', 0, none⟩) m m xs

theorem OwnRule.below {w w' : World} {g g' n m : Nat} {ts : List Tm} {xs : List Pt} (h : OwnRule w g g' n m ts xs) (hb : Below w.heap.size w w') : OwnRule w' g g' n m ts xs := ⟨h.1.up hb, h.2.up PartE.stays hb⟩

theorem OwnRule.is_ {w : World} {g g' n m : Nat} {ts : List Tm} {xs : List Pt} (h : OwnRule w g g' n m ts xs) : IsRule w w.heap.size (some ⟨g, 0, none⟩) n n (some ⟨g', 0, none⟩) m m ts xs := h

def RulePost (nm : ByteArray) (n m : Nat) (ts : List Tm) (xs : List Pt) (w : World) (e : Ending) (w' : World) : Prop := ∃ g g', e = .returned (.agg #[.string nm, .slice (some ⟨g, 0, none⟩) n n, .slice (some ⟨g', 0, none⟩) m m]) ∧ OwnRule w' g g' n m ts xs ∧ Below w.heap.size w w'

/-- A block that was there, whose first cells may be written. -/
def Mine (w : World) (b n : Nat) : Prop := b < w.heap.size ∧ ∀ j, j < n → w.frozen? ⟨b, j, none⟩ = false ∧ ∃ x, w.cell? ⟨b, j, none⟩ = some x


end Go.Proofs.YtogonjkklioaaaaGreatDoor

namespace Go.Proofs.YtogonjkklioaaaaGreatDoor
open Go.RowKit

def ruleEq (a b : Rl) : Bool := atomEq a.1 b.1 && listEq partEq a.2 b.2

theorem ruleEq_refl (a : Rl) : ruleEq a a = true := by unfold ruleEq; simp [atomEq_refl, listEq_refl partEq_refl]


def bodyB (xs : List Pt) : Bool := xs.all fun q => atomB q.2
def ruleB (r : Rl) : Bool := bodyB r.2 && (atomB r.1 && decide (r.2.length ≤ 4))

theorem bodyB_snoc {xs : List Pt} {k : Nat} {q : Pt} (h : xs[k]? = some q) (hr : bodyB (xs.take k) = true) (hq : atomB q.2 = true) : bodyB (xs.take (k + 1)) = true := by
  obtain ⟨h1, h2⟩ := List.getElem?_eq_some_iff.1 h
  unfold bodyB at *
  rw [List.take_succ_eq_append_getElem h1, List.all_append, hr, h2]; simp [hq]

theorem bodyB_no {xs : List Pt} {k : Nat} {q : Pt} (h : xs[k]? = some q) (hq : atomB q.2 = false) : bodyB xs = false := by
  unfold bodyB
  rw [List.all_eq_false]
  exact ⟨q, List.mem_of_getElem? h, by simp [hq]⟩

theorem bodyB_all {xs : List Pt} {k n : Nat} (h : xs.length = n) (hk : ¬ k < n) (hr : bodyB (xs.take k) = true) : bodyB xs = true := by
  rwa [List.take_of_length_le (by omega)] at hr

theorem atom_no {q : Pt} (h : (!atomB (q.2.1, q.2.2)) = true) : atomB q.2 = false := by simpa using h
theorem atom_yes {q : Pt} (h : (!atomB (q.2.1, q.2.2)) = false) : atomB q.2 = true := by simpa using h

set_option maxHeartbeats 1000000 in
theorem l1Rule_any (nm : ByteArray) (A : Option Addr) (n c : Nat) (B : Option Addr) (m d : Nat) (ts : List Tm) (xs : List Pt) (w : World) (hs : nm.size ≤ maxLen) (h : IsRule w w.heap.size A n c B m d ts xs) :
    Calls Tryz.prog 161 #[.agg #[.string nm, .slice A n c, .slice B m d]] w (BoolPost (ruleB ((nm, ts), xs)) w) := by
  have hm := h.2.len
  unfold maxLen at hm
  have L := Lib.hid h.2.1
  have H := Lib.hid h; clear h
  have hw0 := below1 w (.cells #[.string nm, .slice A n c, .slice B m d] 174)
  have X0 := Lib.hid (Box3.new w (.string nm) (.slice A n c) (.slice B m d) 174)
  go_enter Tryz.func161, Tryz.ntmps161
  go_wp2
  go_loopw [3] (fun i wr => ∃ k : Nat, k ≤ m ∧ i = .int .i64 k ∧ bodyB (xs.take k) = true ∧ Below (w.alloc (.cells #[.string nm, .slice A n c, .slice B m d] 174)).heap.size (w.alloc (.cells #[.string nm, .slice A n c, .slice B m d] 174)) wr) (fun i _ => m - (intOf i).toNat)
  case atStart => exact ⟨0, Nat.zero_le _, rfl, rfl, Below.refl _ _⟩
  case round =>
    obtain ⟨k, hk, rfl, hd, hb⟩ := hrel
    have HD := Lib.hid hd; clear hd
    have HB := belowThen hw0 hb
    obtain ⟨x1, x2, x3, x4⟩ := X0.out.later hb
    by_cases hlt : k < m
    · obtain ⟨p, q, hA, hlo, hhi, hg, hE⟩ := (H.out.2.below PartE.stays HB (Nat.le_refl _)).at_ hlt
      obtain ⟨C, n', c', d1, d2, d3, d4, d5⟩ := hE.out
      clear hE
      subst hA
      have HG := Lib.hid hg; clear hg
      have HT := Lib.hid (d5.keep (lo' := 0) (hi' := wr.heap.size) (fun _ _ _ => rfl) (Nat.le_refl _) HB.size); clear d5
      go_wp2_with fail
      refine (specAtomOk_any _ _ _ _ q.2.2 _ d3 HT.out).mono ?_; rintro e w1 ⟨rfl, hb1⟩
      go_wp2
      · go_ret; exact ⟨retB (by unfold ruleB; rw [bodyB_no HG.out (atom_no (by assumption))]; rfl), belowThen HB hb1⟩
      · go_roundw
        case rel => exact ⟨k + 1, by omega, by go_num, bodyB_snoc HG.out HD.out (atom_yes (by assumption)), belowThen hb hb1⟩
        case measure => simp [intOf]; omega
    · have E := Lib.hid (bodyB_all L.out hlt HD.out)
      go_wp2_with fail
      refine (specAtomOk_any _ _ _ _ ts _ hs (H.out.up HB).1).mono ?_; rintro e w1 ⟨rfl, hb1⟩
      obtain ⟨x1, x2, x3, x4⟩ := (X0.out.later hb).later hb1
      go_wp2
      all_goals (go_ret; exact ⟨retB (by unfold ruleB; rw [E.out, L.out]; simp_all; try omega), belowThen HB hb1⟩)

end Go.Proofs.YtogonjkklioaaaaGreatDoor

namespace Go.Proofs.YtogonjkklioaaaaGreatDoor
open Go.RowKit



end Go.Proofs.YtogonjkklioaaaaGreatDoor

namespace Go.Proofs.YtogonjkklioaaaaGreatDoor
open Go.RowKit

/-- A part's text. -/
def partL (q : Pt) : List UInt8 := (if q.1 then [110, 111, 116, 32] else []) ++ textL q.2

/-- A body's text. -/
def bodyL (xs : List Pt) : List UInt8 := Lib.join (xs.map partL) [32, 97, 110, 100, 32]

/-- A rule's text. -/
def ruleL (r : Rl) : List UInt8 := textL r.1 ++ (if r.2.length = 0 then [] else [32, 105, 102, 32] ++ bodyL r.2)

theorem strEq {s : ByteArray} {l : List UInt8} (h : s.data.toList = l) : Ending.returned (.string s) = .returned (.string ⟨l.toArray⟩) := by
  subst h; rfl

theorem partL_le {q : Pt} (h : atomB q.2 = true) : (partL q).length ≤ 44 := by
  have h1 := textL_le h
  unfold partL
  split <;> simp only [List.length_append, List.length_cons, List.length_nil] <;> omega


/-- What stands in the model's text behind k parts. -/
def RPart (r : Rl) (k : Nat) (s : ByteArray) : Prop := s.data.toList = textL r.1 ++ (if k = 0 then [] else [32, 105, 102, 32] ++ bodyL (r.2.take k))

theorem bodyL_first {xs : List Pt} {q : Pt} (h : xs[0]? = some q) : bodyL (xs.take 1) = partL q := by
  obtain ⟨h1, h2⟩ := List.getElem?_eq_some_iff.1 h
  rw [List.take_succ_eq_append_getElem h1, h2]
  simp [bodyL, Lib.join_one]

theorem joinTail_snoc (sep : List UInt8) (r : List (List UInt8)) (x : List UInt8) : Lib.joinTail sep (r ++ [x]) = Lib.joinTail sep r ++ (sep ++ x) := by simp [Lib.joinTail]

theorem bodyL_next {xs : List Pt} {k : Nat} {q : Pt} (h : xs[k]? = some q) (hk : 0 < k) : bodyL (xs.take (k + 1)) = bodyL (xs.take k) ++ ([32, 97, 110, 100, 32] ++ partL q) := by
  obtain ⟨h1, h2⟩ := List.getElem?_eq_some_iff.1 h
  unfold bodyL
  rw [List.take_succ_eq_append_getElem h1, h2, List.map_append]
  have hne : xs.take k ≠ [] := fun e => by
    have h3 : (xs.take k).length = k := by rw [List.length_take]; omega
    rw [e] at h3
    simp at h3
    omega
  generalize xs.take k = ys at hne
  cases ys with
  | nil => exact absurd rfl hne
  | cons y r =>
    rw [List.map_cons, List.cons_append, Lib.join_cons, Lib.join_cons]
    show partL y ++ Lib.joinTail _ (r.map partL ++ [partL q]) = _
    rw [joinTail_snoc, List.append_assoc]

theorem RPart.start (r : Rl) : RPart r 0 ⟨(textL r.1).toArray⟩ := by unfold RPart; simp

theorem RPart.one {r : Rl} {s t : ByteArray} {q : Pt} {k : Nat} (h : RPart r k s) (hk : k = 0) (hq : r.2[k]? = some q) (ht : t.data.toList = partL q) : RPart r (k + 1) (s ++ ⟨#[32, 105, 102, 32]⟩ ++ t) := by
  subst hk
  unfold RPart at *
  rw [bodyL_first hq]
  simp [h, ht]

theorem RPart.next {r : Rl} {s t : ByteArray} {q : Pt} {k : Nat} (h : RPart r k s) (hk : 0 < k) (hq : r.2[k]? = some q) (ht : t.data.toList = partL q) : RPart r (k + 1) (s ++ ⟨#[32, 97, 110, 100, 32]⟩ ++ t) := by
  unfold RPart at *
  rw [bodyL_next hq hk]
  have hk0 : ¬ k = 0 := by omega
  simp [h, ht, hk0]

theorem RPart.all {r : Rl} {s : ByteArray} {k n : Nat} (h : RPart r k s) (hn : r.2.length = n) (hk : ¬ k < n) (hkn : k ≤ n) : s.data.toList = ruleL r := by
  have hkk : k = n := by omega
  unfold RPart at h
  rw [h]
  unfold ruleL
  rw [List.take_of_length_le (by omega), hn, hkk]

/-- The texts of few short parts are short. -/
theorem bodyL_le : ∀ (xs : List Pt), (∀ q ∈ xs, atomB q.2 = true) → (Lib.joinTail [32, 97, 110, 100, 32] (xs.map partL)).length ≤ 49 * xs.length
  | [], _ => by simp [Lib.joinTail]
  | q :: r, h => by
    have h1 := partL_le (h q (by simp))
    have h2 := bodyL_le r (fun x hx => h x (by simp [hx]))
    have h3 : Lib.joinTail [32, 97, 110, 100, 32] ((q :: r).map partL) = [32, 97, 110, 100, 32] ++ partL q ++ Lib.joinTail [32, 97, 110, 100, 32] (r.map partL) := by simp [Lib.joinTail]
    rw [h3]
    simp only [List.length_append, List.length_cons, List.length_nil]
    omega

theorem bodyL_short {xs : List Pt} (h : bodyB xs = true) (hl : xs.length ≤ 4) : (bodyL xs).length ≤ 200 := by
  unfold bodyB at h
  have ha := List.all_eq_true.1 h
  cases xs with
  | nil => simp [bodyL, Lib.join_nil]
  | cons q r =>
    have h1 := partL_le (ha q (by simp))
    have h2 := bodyL_le r (fun x hx => ha x (by simp [hx]))
    unfold bodyL
    rw [List.map_cons, Lib.join_cons]
    simp only [List.length_append, List.length_cons] at *
    omega

theorem RPart.size {r : Rl} {s : ByteArray} {k : Nat} (h : RPart r k s) (hb : bodyB r.2 = true) (ha : atomB r.1 = true) (hl : r.2.length ≤ 4) : s.size ≤ 300 := by
  have h1 : s.size = s.data.toList.length := rfl
  rw [h1, h]
  have h2 := textL_le ha
  have h3 : (bodyL (r.2.take k)).length ≤ 200 := by
    refine bodyL_short ?_ (by rw [List.length_take]; omega)
    unfold bodyB at *
    rw [List.all_eq_true] at *
    exact fun x hx => hb x (List.mem_of_mem_take hx)
  split <;> simp only [List.length_append, List.length_cons, List.length_nil] <;> omega


/-- What RulePut answers. -/
def rulePutB (r : Rl) : List UInt8 := if ruleB r then ruleL r else []


end Go.Proofs.YtogonjkklioaaaaGreatDoor
