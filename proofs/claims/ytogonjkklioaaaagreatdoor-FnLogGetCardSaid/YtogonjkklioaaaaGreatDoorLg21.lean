/-
  Texts of one claim, put together.
-/
import Derived.Test.YtogonjkklioaaaaGreatDoorLg2
import Derived.Test.YtogonjkklioaaaaGreatDoorShelf2
set_option maxRecDepth 100000
set_option maxHeartbeats 8000000
namespace Go.Proofs.YtogonjkklioaaaaGreatDoor
open Go.RowKit
def zak (ts : List Tm) : List (List UInt8) := ts.map fun t => t.2.data.toList
def zau (a : At) : List UInt8 := a.1.data.toList ++ [40] ++ Lib.join (zak a.2) [44] ++ [41]
def zex (l : List UInt8) (w : World) (e : Ending) (w' : World) : Prop := e = .returned (.string ⟨l.toArray⟩) ∧ Below w.heap.size w w'
theorem join_snoc (xs : List (List UInt8)) (x : List UInt8) (h : xs ≠ []) : Lib.join (xs ++ [x]) [44] = Lib.join xs [44] ++ [44] ++ x := by
  cases xs with
  | nil => exact absurd rfl h
  | cons y r =>
    rw [List.cons_append, Lib.join_cons, Lib.join_cons]; simp [Lib.joinTail]
theorem names_snoc {ts : List Tm} {k : Nat} {t : Tm} (h : ts[k]? = some t) : zak (ts.take (k + 1)) = zak (ts.take k) ++ [t.2.data.toList] := by
  obtain ⟨h1, h2⟩ := List.getElem?_eq_some_iff.1 h; unfold zak; rw [List.take_succ_eq_append_getElem h1, List.map_append, h2]; rfl
theorem join_first {ts : List Tm} {t : Tm} (h : ts[0]? = some t) : Lib.join (zak (ts.take 1)) [44] = t.2.data.toList := by
  rw [names_snoc (k := 0) h]; simp [zak, Lib.join_one]
theorem join_next {ts : List Tm} {k : Nat} {t : Tm} (h : ts[k]? = some t) (hk : 0 < k) : Lib.join (zak (ts.take (k + 1))) [44] = Lib.join (zak (ts.take k)) [44] ++ [44] ++ t.2.data.toList := by
  obtain ⟨h1, _⟩ := List.getElem?_eq_some_iff.1 h; rw [names_snoc h, join_snoc]; intro e; have h2 : (zak (ts.take k)).length = k := by unfold zak; rw [List.length_map, List.length_take]; omega
  rw [e] at h2; exact absurd h2 qah
theorem join_le : ∀ (xs ys : List (List UInt8)), (Lib.join xs [44]).length ≤ (Lib.join (xs ++ ys) [44]).length := by
  intro xs ys
  cases xs with
  | nil => simp [Lib.join_nil]
  | cons x r =>
    rw [List.cons_append, Lib.join_cons, Lib.join_cons]; simp [Lib.joinTail]
theorem join_take_le (ts : List Tm) (k : Nat) : (Lib.join (zak (ts.take k)) [44]).length ≤ (Lib.join (zak ts) [44]).length := by
  have h := join_le (zak (ts.take k)) (zak (ts.drop k))
  rwa [show zak (ts.take k) ++ zak (ts.drop k) = zak ts by unfold zak; rw [← List.map_append, List.take_append_drop]] at h
def Part (a : At) (k : Nat) (s : ByteArray) : Prop := s.data.toList = a.1.data.toList ++ [40] ++ Lib.join (zak (a.2.take k)) [44]
theorem Part.size {a : At} {k : Nat} {s : ByteArray} (h : Part a k s) : s.size + 1 ≤ (zau a).length := by
  have h1 : s.size = s.data.toList.length := rfl; rw [h1, h]; unfold zau; have := join_take_le a.2 k; simp only [List.length_append, List.length_cons, List.length_nil]; omega
theorem Part.start (a : At) : Part a 0 (a.1 ++ ⟨#[40]⟩) := by
  unfold Part; simp [zak, Lib.join_nil]
theorem Part.one {a : At} {s : ByteArray} {t : Tm} (h : Part a 0 s) (ht : a.2[0]? = some t) : Part a 1 (s ++ t.2) := by
  unfold Part at *; rw [join_first ht]; simp [h, zak, Lib.join_nil]
theorem Part.one' {a : At} {k : Nat} {s : ByteArray} {t : Tm} (h : Part a k s) (hk : k = 0) (ht : a.2[k]? = some t) : Part a (k + 1) (s ++ t.2) := by
  subst hk; exact h.one ht
theorem Part.next {a : At} {k : Nat} {s : ByteArray} {t : Tm} (h : Part a k s) (ht : a.2[k]? = some t) (hk : 0 < k) : Part a (k + 1) (s ++ ⟨#[44]⟩ ++ t.2) := by
  unfold Part at *; rw [join_next ht hk]; simp [h]
theorem Part.all {a : At} {k n : Nat} {s : ByteArray} (h : Part a k s) (hn : a.2.length = n) (hk : ¬ k < n) : s ++ ⟨#[41]⟩ = ⟨(zau a).toArray⟩ := by
  unfold Part at h; rw [List.take_of_length_le qaa] at h; apply ByteArray.ext; rw [ByteArray.data_append]; apply Array.toList_inj.1; rw [Array.toList_append, h]; simp [zau]
theorem zoy (nm : ByteArray) (A : Option Addr) (n c : Nat) (ts : List Tm) (w : World) (h : IsTerms w 0 w.heap.size A n c ts) (hl : (zau (nm, ts)).length ≤ 1099511627776) :
    Calls Tryz.prog 62 #[.agg #[.string nm, .slice A n c]] w (zex (zau (nm, ts)) w) := by
  have hm : n ≤ maxLen := qbv; unfold maxLen at hm; have L1 := hid h.1; have H := hid h; clear h; have hw0 := zac w (.cells #[.string nm, .slice A n c] 51); have P0 := hid (Part.start (nm, ts)); have a3 := P0.out.size; have hs1 : nm.size + 1 ≤ 1099511627776 := by simp at a3; omega
  clear a3; go_enter Tryz.func62, Tryz.ntmps62; go_wp2; go_loop [3, 4] (fun x i => ∃ (k : Nat) (s : ByteArray), k ≤ n ∧ i = .int .i64 k ∧ x = .string s ∧ Part (nm, ts) k s) (fun _ i => n - (intOf i).toNat)
  case atStart => exact ⟨0, _, Nat.zero_le _, rfl, rfl, P0.out⟩
  case round =>
    obtain ⟨k, s, hk, rfl, rfl, hd⟩ := hrel; have hsz := hd.size; have a4 : s.size + 1 ≤ 1099511627776 := qaa; clear hsz; have HD := hid hd; clear hd; by_cases hlt : k < n
    · obtain ⟨p, t, hA, hlo, hhi, hg, c1, c2, c3⟩ := (H.out.up hw0).at_ hlt
      subst hA; have HG := hid hg; clear hg; rcases Nat.eq_zero_or_pos k with h0 | h0
      · have HN := hid (HD.out.one' h0 HG.out)
        have a2 : ¬ (0 : Int) < (k : Int) := qaa; clear h0; have h2 := HN.out.size; have h3 : s.size + t.2.size ≤ 1099511627776 := by rw [ByteArray.size_append] at h2; omega
        clear h2; go_wp2; go_round
        case rel => exact ⟨k + 1, _, by omega, by go_num, rfl, HN.out⟩
        case measure => exact qms
      · have HN := hid (HD.out.next HG.out h0)
        have h2 := HN.out.size; have h3 : s.size + 1 + t.2.size ≤ 1099511627776 := by rw [ByteArray.size_append, ByteArray.size_append, show (⟨#[44]⟩ : ByteArray).size = 1 from rfl] at h2; omega
        clear h2; have a2 : (0 : Int) < (k : Int) := qaa; go_wp2; go_round
        case rel => exact ⟨k + 1, _, by omega, by go_num, rfl, HN.out⟩
        case measure => exact qms
    · have E := hid (HD.out.all L1.out hlt)
      go_wp2; go_ret; exact ⟨by rw [← E.out]; rfl, hw0⟩
theorem name_le {l : List UInt8} (h : zij l = true) : l.length ≤ 8 := by
  unfold zij zdn at h; simp only [Bool.and_eq_true, decide_eq_true_eq] at h; omega
theorem var_le {l : List UInt8} (h : varB l = true) : l.length ≤ 8 := by
  cases l with
  | nil => simp
  | cons c r =>
    unfold varB at h; simp only [Bool.and_eq_true, decide_eq_true_eq] at h; simp only [List.length_cons]; omega
theorem term_le {t : Tm} (h : zgo t = true) : t.2.data.toList.length ≤ 8 := by
  unfold zgo at h; split at h
  · exact var_le h
  · exact name_le h
theorem tail_le : ∀ xs : List (List UInt8), (∀ x ∈ xs, x.length ≤ 8) → (Lib.joinTail [44] xs).length ≤ 9 * xs.length
  | [], _ => by simp [Lib.joinTail]
  | x :: r, h => by
    have h1 := h x qag; have h2 := tail_le r (fun y hy => h y (by simp [hy])); have h3 : Lib.joinTail [44] (x :: r) = [44] ++ x ++ Lib.joinTail [44] r := by simp [Lib.joinTail]
    rw [h3]; simp only [List.length_append, List.length_cons, List.length_nil]; omega
theorem joined_le (xs : List (List UInt8)) (h : ∀ x ∈ xs, x.length ≤ 8) : (Lib.join xs [44]).length ≤ 9 * xs.length := by
  cases xs with
  | nil => simp [Lib.join_nil]
  | cons x r =>
    have h1 := h x qag; have h2 := tail_le r (fun y hy => h y (by simp [hy])); rw [Lib.join_cons]; simp only [List.length_append, List.length_cons]; omega
theorem zmw {a : At} (h : zax a = true) : (zau a).length ≤ 40 := by
  unfold zax zlp at h; simp only [Bool.and_eq_true, decide_eq_true_eq] at h; obtain ⟨h1, h2, h3⟩ := h; have h4 := name_le h2
  have h5 := joined_le (zak a.2) (fun x hx => by
    unfold zak at hx; obtain ⟨t, ht, rfl⟩ := List.mem_map.1 hx; exact term_le (List.all_eq_true.1 h1 t ht))
  have h6 : (zak a.2).length = a.2.length := by unfold zak; simp
  unfold zau; simp only [List.length_append, List.length_cons, List.length_nil]; omega
def zms (a : At) : List UInt8 := if zax a then zau a else []
def Named (w : World) (g n k : Nat) (ts : List Tm) : Prop := ∃ f, w.rowIs g 9 n f ∧ ∀ j t, j < k → ts[j]? = some t → f j = .string t.2
theorem Named.start (w : World) (n : Nat) (ts : List Tm) : Named (w.alloc (.cells (madeCells #[.string ByteArray.empty] n) 9)) w.heap.size n 0 ts :=
  ⟨_, World.rowIs_made w _ n _, fun j t hj => absurd hj qaa⟩
theorem Named.lt {w : World} {g n k : Nat} {ts : List Tm} (h : Named w g n k ts) : g < w.heap.size := by
  obtain ⟨f, h, _⟩ := h; exact h.lt
theorem Named.below {w w' : World} {g n k : Nat} {ts : List Tm} (h : Named w g n k ts) (hb : Below w.heap.size w w') : Named w' g n k ts := by
  obtain ⟨f, h, h2⟩ := h; exact ⟨f, h.of_block (hb.block g h.lt), h2⟩
theorem Named.cell {w : World} {g n k : Nat} {ts : List Tm} (h : Named w g n k ts) (hk : k < n) : (∃ x, w.cell? ⟨g, k, none⟩ = some x) ∧ w.frozen? ⟨g, k, none⟩ = false := by
  obtain ⟨f, h, _⟩ := h; exact ⟨⟨_, h.cell hk⟩, h.frozen _⟩
theorem Named.step {w : World} {g n k : Nat} {ts : List Tm} (h : Named w g n k ts) (t : Tm) (ht : ts[k]? = some t) : Named (w.setCell ⟨g, k, none⟩ (.string t.2)) g n (k + 1) ts := by
  obtain ⟨f, h, h2⟩ := h; refine ⟨_, h.set k (.string t.2), fun j u hj hu => ?_⟩; by_cases e : j = k
  · subst e
    rw [ht] at hu; injection hu with hu; subst hu; simp
  · simp only [e, if_false]; exact h2 j u qaa hu
theorem Tryz.infoString : (Tryz.prog.info? 9).map (fun i => (i.zero, i.size, i.bytes)) = some (some (.string ByteArray.empty), 1, 16) := by kernel_rfl
theorem put_eq (nm : ByteArray) (ts : List Tm) : (⟨(zau (nm, ts)).toArray⟩ : ByteArray) = nm ++ ⟨#[40]⟩ ++ ⟨(Lib.join (zak ts) [44]).toArray⟩ ++ ⟨#[41]⟩ := by
  apply ByteArray.ext; simp only [ByteArray.data_append]; apply Array.toList_inj.1; simp [zau]
theorem join_any (g n : Nat) (ts : List Tm) (w : World) (hl : ts.length = n) (hn : n ≤ 1048576) (h : Named w g n n ts) (hle : (zau (ByteArray.empty, ts)).length ≤ 1099511627776) :
    Calls Tryz.prog 93 #[.slice (some ⟨g, 0, none⟩) n n, .string ⟨#[44]⟩] w (zex (Lib.join (zak ts) [44]) w) := by
  subst hl; obtain ⟨f, hr, hf⟩ := h; have hx : ((ts.map (·.2)).map fun s => s.data.toList) = zak ts := by unfold zak; rw [List.map_map]; rfl
  have hj : (Lib.join (zak ts) [44]).length ≤ 140737488355328 := by
    unfold zau at hle; simp only [List.length_append, List.length_cons, List.length_nil] at hle; omega
  have a3 := Tryz.strings_Join g 0 ts.length (ts.map (·.2)) ⟨#[44]⟩ w (fun j x hj => by
      obtain ⟨t, ht, rfl⟩ := List.mem_map.1 (List.mem_of_getElem? hj); have a2 : j < ts.length := by have := (List.getElem?_eq_some_iff.1 hj).1; simpa using this
      rw [Nat.zero_add, hr.cell a2]; have hg : ts[j]? = some ts[j] := List.getElem?_eq_getElem a2; rw [hf j _ a2 hg]; have : (ts.map (·.2))[j]? = some (ts[j]).2 := by simp [a2]
      rw [this] at hj; injection hj with hj; rw [hj]) hr.lt (by rw [List.length_map]; omega) qag (by rw [hx]; exact hj)
  rw [List.length_map, hx] at a3; exact a3
theorem atomText_gen (nm : ByteArray) (A : Option Addr) (n c : Nat) (ts : List Tm) (w : World) (hn : n ≤ 1048576) (hle : (zau (nm, ts)).length ≤ 1099511627776) (h : IsTerms w 0 w.heap.size A n c ts) :
    Calls Tryz.prog 58 #[.agg #[.string nm, .slice A n c]] w (zex (zau (nm, ts)) w) := by
  have L1 := hid h.1; have hl1 := h.1; have H := hid h; clear h; have hw0 := zac w (.cells #[.string nm, .slice A n c] 51); have B0 := hid (Box.new w (.string nm) (.slice A n c) 51)
  have hle' : (zau (ByteArray.empty, ts)).length ≤ 1099511627776 := by
    unfold zau at hle ⊢; simp only [List.length_append, List.length_cons, List.length_nil] at hle ⊢; have : ByteArray.empty.data.toList.length = 0 := rfl; omega
  have a3 : nm.size ≤ 1099511627776 ∧ (Lib.join (zak ts) [44]).length ≤ 1099511627776 := by
    unfold zau at hle; simp only [List.length_append, List.length_cons, List.length_nil] at hle; have : nm.size = nm.data.toList.length := rfl; omega
  obtain ⟨a3, hjs⟩ := a3; have a5 : nm.size + 1 ≤ 9223372036854775807 := qaa; have a6 : (n : Int) ≤ 1048576 := qaa; clear hl1; obtain ⟨i0, hi, hz, hsz, hby⟩ := info_parts Tryz.infoString
  have hmk : ∀ W : World, (Instr.makeSlice 71 (.int .i64 (n : Int)) (.int .i64 (n : Int))).run Tryz.prog W = .ok (.slice (some ⟨W.heap.size, 0, none⟩) n n) (W.alloc (.cells (madeCells #[.string ByteArray.empty] n) 9)) := by
    intro W; have hr := run_make (P := Tryz.prog) W 71 9 i0 _ Tryz.underlying71 hi hz .i64 .i64 n n qaa (Int.le_refl _) (by rw [hby]; omega) qaa; rw [hsz, Nat.mul_one] at hr; exact hr
  clear hi hz hsz hby; go_enter Tryz.func58, Tryz.ntmps58; obtain ⟨w1, a8⟩ : ∃ w1, w.alloc (.cells #[.string nm, .slice A n c] 51) = w1 := ⟨_, rfl⟩; rw [a8] at hw0 B0; have HB1 := hw0; have B1 := B0; obtain ⟨x1, x2, x3⟩ := B1.out; have x2' := zfa x2; have x3' := zfa x3; go_wp2_with fail; have a4 := zac w1 (.cells (madeCells #[.string ByteArray.empty] n) 9); have B2 := hid (B1.out.later a4); go_loopw [4, 5, 13] (fun _ _ i wr => ∃ k : Nat, k ≤ n ∧ i = .int .i64 k ∧ Named wr w1.heap.size n k ts ∧ Below w1.heap.size w1 wr) (fun _ _ i _ => n - (intOf i).toNat)
  case atStart => exact ⟨0, Nat.zero_le _, rfl, Named.start w1 n ts, a4⟩
  case round =>
    obtain ⟨k, hk, rfl, hf, hb⟩ := hrel; have HF := hid hf; clear hf; by_cases hlt : k < n
    · obtain ⟨p, t, hA, hlo, hhi, hg, c1, c2, c3⟩ := ((H.out.below HB1 (nl _)).keep (w' := wr) (hi' := w.heap.size) (fun q _ hq => hb.cell (Nat.lt_of_lt_of_le hq HB1.size)) (nl _) (nl _)).at_ hlt
      subst hA; have HG := hid hg; clear hg; have a7 := HF.out.below (zac wr (.cells #[.bool t.1, .string t.2] 110)); have hg0 : w1.heap.size < wr.heap.size := HF.out.lt; obtain ⟨⟨x0, hx0⟩, hz0⟩ := a7.cell hlt; go_wp2; go_roundw
      case rel => exact ⟨k + 1, by omega, by go_num, (HF.out.step t HG.out).below (zac _ _), (hb.setCell (nl _) _).alloc (by simp [World.setCell]; omega) _⟩
      case measure => exact qms
    · have B3 := B1.out.later hb
      obtain ⟨y1, y2, y3⟩ := B3
      have HJ : Named wr w1.heap.size n n ts := by
        have hkn : k = n := qaa; have h9 := HF.out; rw [hkn] at h9; exact h9
      have a9 : Named wr.drew w1.heap.size n n ts := HJ; go_wp2_with fail; go_region_with ((with_reducible refine (join_any w1.heap.size n ts wr.drew L1.out qaa a9 hle').mono ?_); rintro e w9 ⟨rfl, a2⟩; have hb9 : Below wr.heap.size wr w9 := zjg a2; clear a2; have y9 : w9.cell? ⟨w.heap.size, 0, none⟩ = some (.string nm) := (hb9.cell (p := ⟨w.heap.size, 0, none⟩) y1).trans y2)
      all_goals go_wp2
      all_goals (go_ret; exact ⟨by rw [put_eq]; rfl, zaa HB1 (hb.trans (hb9.mono hb.size))⟩)
theorem atomText_any (nm : ByteArray) (A : Option Addr) (n c : Nat) (ts : List Tm) (w : World) (hA : zax (nm, ts) = true) (h : IsTerms w 0 w.heap.size A n c ts) :
    Calls Tryz.prog 58 #[.agg #[.string nm, .slice A n c]] w (zex (zau (nm, ts)) w) := by
  have hle := zmw hA
  have hn3 : n ≤ 3 := by
    have hl1 := h.1; unfold zax at hA; simp only [Bool.and_eq_true, decide_eq_true_eq] at hA; omega
  exact atomText_gen nm A n c ts w qaa qaa h
theorem zhh (nm : ByteArray) (A : Option Addr) (n c : Nat) (ts : List Tm) (w : World) (hs : nm.size ≤ maxLen) (h : IsTerms w 0 w.heap.size A n c ts) :
    Calls Tryz.prog 28 #[.agg #[.string nm, .slice A n c]] w (zex (zms (nm, ts)) w) := by
  have H := hid h; clear h; have hw0 := zac w (.cells #[.string nm, .slice A n c] 51); have B0 := hid (Box.new w (.string nm) (.slice A n c) 51); cases hA : zax (nm, ts)
  · have E := hid (show zms (nm, ts) = [] by unfold zms; rw [hA]; rfl)
    have EA := hid hA; clear hA; go_enter Tryz.func28, Tryz.ntmps28; go_wp2_with fail; refine (zdt _ _ _ _ ts _ hs (H.out.up hw0)).mono ?_; rintro e w1 ⟨rfl, hb1⟩; rw [EA.out]; go_wp2; go_ret; exact ⟨by rw [E.out]; rfl, zaa hw0 hb1⟩
  · have E := hid (show zms (nm, ts) = zau (nm, ts) by unfold zms; rw [hA]; rfl)
    have EA := hid hA; clear hA; go_enter Tryz.func28, Tryz.ntmps28; go_wp2_with fail; refine (zdt _ _ _ _ ts _ hs (H.out.up hw0)).mono ?_; rintro e w1 ⟨rfl, hb1⟩; have a2 := zaa hw0 hb1; obtain ⟨x1, x2, x3⟩ := B0.out.later hb1; rw [EA.out]; go_wp2_with fail; refine (atomText_any _ _ _ _ ts _ EA.out (H.out.up a2)).mono ?_; rintro e w2 ⟨rfl, hb2⟩; go_wp2; go_ret; exact ⟨by rw [E.out]; rfl, zaa a2 hb2⟩
end Go.Proofs.YtogonjkklioaaaaGreatDoor
