/-
  Sizes: the law's own count of what came in, as far as it is wanted: it only falls, and it is not below 0 only where the list is short.
  Copies: what the law's own copying of terms and atoms makes: the same terms, in new memory of its own.
  Sameness: what the law's own comparison of terms and atoms answers.
  Lists of atoms with few terms each.
-/
import Derived.Test.YtcigljngiemdeaaGreatEa0
import Derived.Outline
import Derived.Deep.LoopGhost
import Derived.Deep.OwnRows
import Derived.StillTailTactics
import Derived.Deep.RegionWith
import Derived.Deep.RegionHeld3
namespace Go.Proofs.YtcigljngiemdeaaGreat
open Go.RowKit

/-- The count goes from z to a number that is not above it; not below 0 only if q holds. -/
def SzPost (z : Int) (q : Prop) (w : World) (e : Ending) (w' : World) : Prop := ∃ y : Int, (e = .returned (.int .i64 y) ∧ -1 ≤ y ∧ y ≤ z ∧ (0 ≤ y → q)) ∧ Below w.heap.size w w'

set_option maxHeartbeats 400000 in
theorem szTerm_any (v : Bool) (s : ByteArray) (z : Int) (w : World) (hs : s.size ≤ maxLen) (hz0 : 0 ≤ z) (hz1 : z ≤ 1048576) :
    Calls Tryz.prog 125 #[.agg #[.bool v, .string s], .int .i64 z] w (SzPost z True w) := by
  unfold maxLen at hs
  go_enter Tryz.func125, Tryz.ntmps125
  go_wp2
  all_goals (go_ret; exact ⟨_, ⟨rfl, by omega, by omega, fun _ => trivial⟩, (Below.refl _ _).alloc (Nat.le_refl _) _⟩)

set_option maxHeartbeats 400000 in
theorem szTermS_any (A : Option Addr) (n c : Nat) (ts : List Tm) (z : Int) (w : World) (h : IsTerms w 0 w.heap.size A n c ts) (hz0 : 0 ≤ z) (hz1 : z ≤ 1048576) :
    Calls Tryz.prog 83 #[.slice A n c, .int .i64 z] w (SzPost z (n ≤ 1048576) w) := by
  have hn : n ≤ maxLen := by have := h.2.1; have := h.2.2.1; omega
  unfold maxLen at hn
  have H := Lib.hid h; clear h
  go_enter Tryz.func83, Tryz.ntmps83
  go_wp2
  · go_ret; exact ⟨_, ⟨rfl, by omega, by omega, by omega⟩, Below.refl _ _⟩
  · have hzn : 0 ≤ z - (n : Int) := by assumption
    go_loopw [1, 5] (fun x i wr => ∃ (k : Nat) (y : Int), k ≤ n ∧ i = .int .i64 k ∧ x = .int .i64 y ∧ 0 ≤ y ∧ y ≤ z ∧ Below w.heap.size w wr) (fun _ i _ => n - (intOf i).toNat)
    case atStart => exact ⟨0, _, Nat.zero_le _, rfl, rfl, by omega, by omega, Below.refl _ _⟩
    case round =>
      obtain ⟨k, y, hk, rfl, rfl, hy0, hy1, hb⟩ := hrel
      by_cases hlt : k < n
      · obtain ⟨p, t, hA, hlo, hhi, hg, c1, c2, c3⟩ := (H.out.below hb (Nat.le_refl _)).at_ hlt
        subst hA
        go_wp2_with (go_at_call 125; refine (szTerm_any _ _ _ _ c3 hy0 (by omega)).mono ?_; rintro e w1 ⟨y1, ⟨rfl, hy2, hy3, _⟩, hb1⟩)
        · go_ret; exact ⟨_, ⟨rfl, by omega, by omega, by omega⟩, hb.trans (hb1.mono hb.size)⟩
        · go_roundw
          case rel => exact ⟨k + 1, y1, by omega, by go_num, rfl, by omega, by omega, hb.trans (hb1.mono hb.size)⟩
          case measure => simp [intOf]; omega
      · go_wp2
        go_ret; exact ⟨_, ⟨rfl, by omega, by omega, by omega⟩, hb⟩

set_option maxHeartbeats 400000 in
theorem szAtom_any (nm : ByteArray) (A : Option Addr) (n c : Nat) (ts : List Tm) (z : Int) (w : World) (hs : nm.size ≤ maxLen) (h : IsTerms w 0 w.heap.size A n c ts) (hz0 : 0 ≤ z) (hz1 : z ≤ 1048576) :
    Calls Tryz.prog 36 #[.agg #[.string nm, .slice A n c], .int .i64 z] w (SzPost z (n ≤ 1048576) w) := by
  unfold maxLen at hs
  have H := Lib.hid h; clear h
  go_enter Tryz.func36, Tryz.ntmps36
  have hb0 : Below w.heap.size w (w.alloc (.cells #[.string nm, .slice A n c] 65)) := (Below.refl _ _).alloc (Nat.le_refl _) _
  have H1 := Lib.hid ((H.out.below hb0 (Nat.le_refl _)).keep (hi' := (w.alloc (.cells #[.string nm, .slice A n c] 65)).heap.size) (lo' := 0) (fun _ _ _ => rfl) (Nat.le_refl _) hb0.size)
  go_wp2_with (go_at_call 83; refine (szTermS_any _ _ _ ts _ _ H1.out (by omega) (by omega)).mono ?_; rintro e w1 ⟨y1, ⟨rfl, hy2, hy3, hy4⟩, hb1⟩)
  · go_ret; exact ⟨_, ⟨rfl, by omega, by omega, by omega⟩, hb0⟩
  · go_ret; exact ⟨_, ⟨rfl, by omega, by omega, by omega⟩, hb0.trans (hb1.mono (by simp))⟩
  · go_ret; exact ⟨_, ⟨rfl, by omega, by omega, hy4⟩, hb0.trans (hb1.mono (by simp))⟩

end Go.Proofs.YtcigljngiemdeaaGreat

namespace Go.Proofs.YtcigljngiemdeaaGreat
open Go.RowKit

def TermPost (v : Bool) (s : ByteArray) (w : World) (e : Ending) (w' : World) : Prop := e = .returned (.agg #[.bool v, .string s]) ∧ Below w.heap.size w w'

set_option maxHeartbeats 400000 in
theorem toTerm_any (v : Bool) (s : ByteArray) (w : World) :
    Calls Tryz.prog 129 #[.agg #[.bool v, .string s]] w (TermPost v s w) := by
  go_enter Tryz.func129, Tryz.ntmps129
  go_wp2
  exact bodyPost_ret (v := .agg #[.bool v, .string s]) (by simp [results, Tryz.results129, go_sem]) rfl ⟨rfl, (((Below.refl _ _).alloc (Nat.le_refl _) _).alloc (by simp) _).alloc (by simp; omega) _⟩

/-- The cells of a row of terms. -/
def tcell (ts : List Tm) (j : Nat) : Value := if j % 2 = 0 then .bool (ts.getD (j / 2) (false, ByteArray.empty)).1 else .string (ts.getD (j / 2) (false, ByteArray.empty)).2

theorem tcell_even (ts : List Tm) (i : Nat) (t : Tm) (h : ts[i]? = some t) : tcell ts (i * 2) = .bool t.1 := by
  unfold tcell
  rw [if_pos (by omega), Nat.mul_div_cancel _ (by omega)]
  simp [List.getD, h]

theorem tcell_odd (ts : List Tm) (i : Nat) (t : Tm) (h : ts[i]? = some t) : tcell ts (i * 2 + 1) = .string t.2 := by
  unfold tcell
  rw [if_neg (by omega), show (i * 2 + 1) / 2 = i by omega]
  simp [List.getD, h]

/-- Block g is a row of just these terms, which may be written. -/
def OwnTerms (w : World) (g n : Nat) (ts : List Tm) : Prop := ts.length = n ∧ (∀ t ∈ ts, t.2.size ≤ maxLen) ∧ w.rowIs g 59 (n * 2) (tcell ts)

theorem OwnTerms.is_ {w : World} {g n lo : Nat} {ts : List Tm} (h : OwnTerms w g n ts) (hn : n ≤ maxLen) (hlo : lo ≤ g) : IsTerms w lo w.heap.size (some ⟨g, 0, none⟩) n n ts := by
  obtain ⟨h1, h2, h3⟩ := h
  refine ⟨h1, Nat.le_refl _, hn, fun _ => ⟨_, rfl, hlo, h3.lt, fun i t ht => ?_⟩⟩
  have hi : i < n := by rw [← h1]; exact (List.getElem?_eq_some_iff.1 ht).1
  have a0 : ∀ j, (⟨g, 0, none⟩ : Addr).add j = ⟨g, j, none⟩ := fun j => by unfold Addr.add; split <;> simp_all
  rw [a0, a0, h3.cell (by omega), h3.cell (by omega), tcell_even ts i t ht, tcell_odd ts i t ht]
  exact ⟨rfl, rfl, h2 t (List.mem_of_getElem? ht)⟩

theorem OwnTerms.setOther {w : World} {g n : Nat} {ts : List Tm} (h : OwnTerms w g n ts) {a : Addr} (ha : g ≠ a.block) (v : Value) : OwnTerms (w.setCell a v) g n ts := ⟨h.1, h.2.1, h.2.2.setOther ha v⟩

theorem OwnTerms.below {w w' : World} {g n : Nat} {ts : List Tm} (h : OwnTerms w g n ts) (hb : Below w.heap.size w w') : OwnTerms w' g n ts := ⟨h.1, h.2.1, h.2.2.of_block (hb.block g h.2.2.lt)⟩

theorem size_alloc_eq (w : World) (o : Obj) : (w.alloc o).heap.size = w.heap.size + 1 := by simp

theorem Tryz.infoTerm : (Tryz.prog.info? 59).map (fun i => (i.zero, i.size, i.bytes)) = some (some (.agg #[.bool false, .string ByteArray.empty]), 2, 24) := by kernel_rfl

/-- What is filled of a row so far. -/
def Filled (w : World) (g n k : Nat) (ts : List Tm) : Prop := ∃ f, w.rowIs g 59 (n * 2) f ∧ ∀ j, j < k * 2 → f j = tcell ts j

theorem Filled.start (w : World) (n : Nat) (ts : List Tm) : Filled (w.alloc (.cells (madeCells #[.bool false, .string ByteArray.empty] (n * 2)) 59)) w.heap.size n 0 ts := by
  have h := World.rowIs_alloc w (madeCells #[.bool false, .string ByteArray.empty] (n * 2)) 59 (fun i => (madeCells #[.bool false, .string ByteArray.empty] (n * 2))[i]?.getD undef) (fun i hi => by simp [hi])
  rw [size_madeCells] at h
  exact ⟨_, h, fun j hj => by omega⟩

theorem Filled.lt {w : World} {g n k : Nat} {ts : List Tm} (h : Filled w g n k ts) : g < w.heap.size := by
  obtain ⟨f, h, _⟩ := h; exact h.lt

theorem Filled.below {w w' : World} {g n k : Nat} {ts : List Tm} (h : Filled w g n k ts) (hb : Below w.heap.size w w') : Filled w' g n k ts := by
  obtain ⟨f, h, h2⟩ := h
  exact ⟨f, h.of_block (hb.block g h.lt), h2⟩

theorem Filled.cells {w : World} {g n k : Nat} {ts : List Tm} (h : Filled w g n k ts) (hk : k < n) : (∃ x, w.cell? ⟨g, k * 2, none⟩ = some x) ∧ (∃ x, w.cell? ⟨g, k * 2 + 1, none⟩ = some x) ∧ w.frozen? ⟨g, k * 2, none⟩ = false ∧ w.frozen? ⟨g, k * 2 + 1, none⟩ = false := by
  obtain ⟨f, h, _⟩ := h
  exact ⟨⟨_, h.cell (by omega)⟩, ⟨_, h.cell (by omega)⟩, h.frozen _, h.frozen _⟩

theorem Filled.step {w : World} {g n k : Nat} {ts : List Tm} (h : Filled w g n k ts) (t : Tm) (ht : ts[k]? = some t) :
    Filled ((w.setCell ⟨g, k * 2, none⟩ (.bool t.1)).setCell ⟨g, k * 2 + 1, none⟩ (.string t.2)) g n (k + 1) ts := by
  obtain ⟨f, h, h2⟩ := h
  refine ⟨_, (h.set (k * 2) (.bool t.1)).set (k * 2 + 1) (.string t.2), fun j hj => ?_⟩
  by_cases e1 : j = k * 2 + 1
  · subst e1; simp [tcell_odd ts k t ht]
  · by_cases e0 : j = k * 2
    · subst e0; simp [tcell_even ts k t ht]
    · simp only [e1, e0, if_false]; exact h2 j (by omega)

theorem Filled.own {w W : World} {g n k lo hi c : Nat} {A : Option Addr} {ts : List Tm} (h : Filled w g n k ts) (hk : ¬ k < n) (hs : IsTerms W lo hi A n c ts) : OwnTerms w g n ts := by
  obtain ⟨f, h, h2⟩ := h
  obtain ⟨h3, _, _, h4⟩ := hs
  refine ⟨h3, fun t ht => ?_, h.congr fun i hi => h2 i (by omega)⟩
  obtain ⟨i, hi⟩ := List.mem_iff_getElem?.1 ht
  have hl := (List.getElem?_eq_some_iff.1 hi).1
  obtain ⟨p, _, _, _, h5⟩ := h4 (by omega)
  exact (h5 i t hi).2.2

def TermSPost (n : Nat) (ts : List Tm) (w : World) (e : Ending) (w' : World) : Prop := ∃ g, e = .returned (.slice (some ⟨g, 0, none⟩) n n) ∧ w.heap.size ≤ g ∧ OwnTerms w' g n ts ∧ Below w.heap.size w w'

set_option maxHeartbeats 400000 in
theorem toTermS_any (A : Option Addr) (n c : Nat) (ts : List Tm) (w : World) (h : IsTerms w 0 w.heap.size A n c ts) (hn : n ≤ 1048576) :
    Calls Tryz.prog 87 #[.slice A n c] w (TermSPost n ts w) := by
  obtain ⟨i0, hi, hz, hsz, hby⟩ := info_parts Tryz.infoTerm
  have hmk : ∀ W : World, (Instr.makeSlice 47 (.int .i64 (n : Int)) (.int .i64 (n : Int))).run Tryz.prog W = .ok (.slice (some ⟨W.heap.size, 0, none⟩) n n) (W.alloc (.cells (madeCells #[.bool false, .string ByteArray.empty] (n * 2)) 59)) := by
    intro W
    have hr := run_make (P := Tryz.prog) W 47 59 i0 _ Tryz.underlying47 hi hz .i64 .i64 n n (by omega) (Int.le_refl _) (by rw [hby]; omega) (by omega)
    rw [hsz] at hr
    exact hr
  clear hi hz hsz hby
  have H := Lib.hid h; clear h
  go_enter Tryz.func87, Tryz.ntmps87
  go_wp2
  go_loopw [4] (fun i wr => ∃ k : Nat, k ≤ n ∧ i = .int .i64 k ∧ Filled wr w.heap.size n k ts ∧ Below w.heap.size w wr) (fun i _ => n - (intOf i).toNat)
  case atStart => exact ⟨0, Nat.zero_le _, rfl, Filled.start w n ts, (Below.refl _ _).alloc (Nat.le_refl _) _⟩
  case round =>
    obtain ⟨k, hk, rfl, hf, hb⟩ := hrel
    have HF := Lib.hid hf; clear hf
    by_cases hlt : k < n
    · obtain ⟨p, t, hA, hlo, hhi, hg, c1, c2, c3⟩ := (H.out.below hb (Nat.le_refl _)).at_ hlt
      subst hA
      have HG := Lib.hid hg; clear hg
      go_wp2_with (go_at_call 129; refine (toTerm_any _ _ _).mono ?_; rintro e w1 ⟨rfl, hb1⟩; have HF1 := HF.out.below hb1; have hg0 : w.heap.size < wr.heap.size := HF.out.lt; obtain ⟨⟨x0, hx0⟩, ⟨x1, hx1⟩, hz0, hz1⟩ := HF1.cells hlt)
      go_roundw
      case rel => exact ⟨k + 1, by omega, by go_num, HF1.step t HG.out, ((hb.trans (hb1.mono hb.size)).setCell (Nat.le_refl _) _).setCell (Nat.le_refl _) _⟩
      case measure => simp [intOf]; omega
    · go_wp2
      go_ret
      exact ⟨_, rfl, Nat.le_refl _, HF.out.own (by omega) H.out, hb⟩

/-- An atom by value, in memory of its own from lo on. -/
def AtomPost (nm : ByteArray) (n : Nat) (ts : List Tm) (w : World) (e : Ending) (w' : World) : Prop := ∃ g, e = .returned (.agg #[.string nm, .slice (some ⟨g, 0, none⟩) n n]) ∧ w.heap.size ≤ g ∧ OwnTerms w' g n ts ∧ Below w.heap.size w w'

set_option maxHeartbeats 400000 in
theorem toAtom_any (nm : ByteArray) (A : Option Addr) (n c : Nat) (ts : List Tm) (w : World) (h : IsTerms w 0 w.heap.size A n c ts) (hn : n ≤ 1048576) :
    Calls Tryz.prog 39 #[.agg #[.string nm, .slice A n c]] w (AtomPost nm n ts w) := by
  have H := Lib.hid h; clear h
  go_enter Tryz.func39, Tryz.ntmps39
  go_wp2_with (go_at_call 87; refine (toTermS_any _ _ _ ts _ (H.out.up (below3 _ _ _ _)) hn).mono ?_; rintro e w1 ⟨g, rfl, hg, ho, hb1⟩; obtain ⟨hc, hf⟩ := oldCells hb1; have hz : w.heap.size + 1 + 1 < w1.heap.size := by have := hb1.size; simp at this; omega)
  simp only [size_alloc_eq] at hg
  refine bodyPost_ret (v := .agg #[.string nm, .slice (some ⟨g, 0, none⟩) n n]) (by simp [results, Tryz.results39, go_sem, hc]) rfl ⟨g, rfl, by omega, ?_, ?_⟩
  · exact ((ho.setOther (by show g ≠ _; simp; omega) _).setOther (by show g ≠ _; simp; omega) _).setOther (by show g ≠ _; simp; omega) _
  · exact (((belowThen (below3 _ _ _ _) hb1).setCell (by simp; omega) _).setCell (by simp) _).setCell (by simp) _

end Go.Proofs.YtcigljngiemdeaaGreat

namespace Go.Proofs.YtcigljngiemdeaaGreat
open Go.RowKit

def BoolPost (b : Bool) (w : World) (e : Ending) (w' : World) : Prop := e = .returned (.bool b) ∧ Below w.heap.size w w'

def termEq (a b : Tm) : Bool := (a.1 == b.1) && (a.2.toList == b.2.toList)

set_option maxHeartbeats 400000 in
theorem eqTerm_any (v v' : Bool) (s s' : ByteArray) (w : World) :
    Calls Tryz.prog 146 #[.agg #[.bool v, .string s], .agg #[.bool v', .string s']] w (BoolPost (termEq (v, s) (v', s')) w) := by
  go_enter Tryz.func146, Tryz.ntmps146
  go_wp2
  all_goals (go_ret; refine ⟨retB ?_, below2 _ _ _⟩; unfold termEq; simp_all)

def termsEq : List Tm → List Tm → Bool
  | [], [] => true
  | a :: l, b :: m => termEq a b && termsEq l m
  | _, _ => false

theorem termsEq_len : ∀ {ts us : List Tm}, ts.length ≠ us.length → termsEq ts us = false
  | [], [], h => absurd rfl h
  | [], _ :: _, _ => rfl
  | _ :: _, [], _ => rfl
  | _ :: l, _ :: m, h => by
    have := termsEq_len (ts := l) (us := m) (by simpa using h)
    simp [termsEq, this]

theorem termsEq_end {ts us : List Tm} {n k : Nat} (h : ts.length = n) (h' : us.length = n) (hd : termsEq (ts.drop k) (us.drop k) = termsEq ts us) (hk : ¬ k < n) : true = termsEq ts us := by
  rw [← hd, List.drop_eq_nil_of_le (by omega), List.drop_eq_nil_of_le (by omega)]; rfl

theorem termsEq_step {ts us : List Tm} {k : Nat} {t u : Tm} (h : ts[k]? = some t) (h' : us[k]? = some u) : termsEq (ts.drop k) (us.drop k) = (termEq t u && termsEq (ts.drop (k + 1)) (us.drop (k + 1))) := by
  obtain ⟨h1, h2⟩ := List.getElem?_eq_some_iff.1 h
  obtain ⟨h3, h4⟩ := List.getElem?_eq_some_iff.1 h'
  rw [List.drop_eq_getElem_cons h1, List.drop_eq_getElem_cons h3, h2, h4]; rfl

theorem termsEq_no {ts us : List Tm} {k : Nat} {t u : Tm} (h : ts[k]? = some t) (h' : us[k]? = some u) (hd : termsEq (ts.drop k) (us.drop k) = termsEq ts us) (he : (!termEq (t.1, t.2) (u.1, u.2)) = true) : false = termsEq ts us := by
  rw [← hd, termsEq_step h h']
  have : termEq t u = false := by simpa using he
  rw [this]; rfl

theorem termsEq_on {ts us : List Tm} {k : Nat} {t u : Tm} (h : ts[k]? = some t) (h' : us[k]? = some u) (hd : termsEq (ts.drop k) (us.drop k) = termsEq ts us) (he : (!termEq (t.1, t.2) (u.1, u.2)) = false) : termsEq (ts.drop (k + 1)) (us.drop (k + 1)) = termsEq ts us := by
  rw [← hd, termsEq_step h h']
  have : termEq t u = true := by simpa using he
  rw [this]; rfl

set_option maxHeartbeats 400000 in
theorem eqTermS_any (A B : Option Addr) (n c n' c' : Nat) (ts us : List Tm) (w : World) (h : IsTerms w 0 w.heap.size A n c ts) (h' : IsTerms w 0 w.heap.size B n' c' us) :
    Calls Tryz.prog 103 #[.slice A n c, .slice B n' c'] w (BoolPost (termsEq ts us) w) := by
  have hm : n ≤ maxLen := by have := h.2.1; have := h.2.2.1; omega
  unfold maxLen at hm
  have H := Lib.hid h; clear h
  have H' := Lib.hid h'; clear h'
  by_cases hne : n = n'
  · subst hne
    go_enter Tryz.func103, Tryz.ntmps103
    go_wp2
    go_loopw [5] (fun i wr => ∃ k : Nat, k ≤ n ∧ i = .int .i64 k ∧ termsEq (ts.drop k) (us.drop k) = termsEq ts us ∧ Below w.heap.size w wr) (fun i _ => n - (intOf i).toNat)
    case atStart => exact ⟨0, Nat.zero_le _, rfl, rfl, Below.refl _ _⟩
    case round =>
      obtain ⟨k, hk, rfl, hd, hb⟩ := hrel
      have HD := Lib.hid hd; clear hd
      by_cases hlt : k < n
      · obtain ⟨p, t, hA, hlo, hhi, hg, c1, c2, c3⟩ := (H.out.below hb (Nat.le_refl _)).at_ hlt
        obtain ⟨p', t', hA', hlo', hhi', hg', c1', c2', c3'⟩ := (H'.out.below hb (Nat.le_refl _)).at_ hlt
        subst hA; subst hA'
        have HG := Lib.hid hg; clear hg
        have HG' := Lib.hid hg'; clear hg'
        go_wp2_with fail
        go_region_with (go_at_call 146; refine (eqTerm_any _ _ _ _ _).mono ?_; rintro e w1 ⟨rfl, hb1⟩)
        all_goals go_wp2
        all_goals first
          | (go_ret; exact ⟨retB (termsEq_no HG.out HG'.out HD.out (by assumption)), belowThen hb.drew hb1⟩)
          | (go_roundw
             case rel => exact ⟨k + 1, by omega, by go_num, termsEq_on HG.out HG'.out HD.out (by assumption), belowThen hb.drew hb1⟩
             case measure => simp [intOf]; omega)
      · go_wp2
        go_ret
        exact ⟨retB (termsEq_end H.out.1 H'.out.1 HD.out hlt), hb⟩
  · go_enter Tryz.func103, Tryz.ntmps103
    go_wp2
    go_ret
    exact ⟨retB (termsEq_len (by rw [H.out.1, H'.out.1]; exact hne)).symm, Below.refl _ _⟩

def atomEq (a b : At) : Bool := (a.1.toList == b.1.toList) && termsEq a.2 b.2

set_option maxHeartbeats 400000 in
theorem eqAtom_any (nm nm' : ByteArray) (A B : Option Addr) (n c n' c' : Nat) (ts us : List Tm) (w : World) (h : IsTerms w 0 w.heap.size A n c ts) (h' : IsTerms w 0 w.heap.size B n' c' us) :
    Calls Tryz.prog 52 #[.agg #[.string nm, .slice A n c], .agg #[.string nm', .slice B n' c']] w (BoolPost (atomEq (nm, ts) (nm', us)) w) := by
  have H := Lib.hid h; clear h
  have H' := Lib.hid h'; clear h'
  go_enter Tryz.func52, Tryz.ntmps52
  go_wp2_with (go_at_call 103; refine (eqTermS_any _ _ _ _ _ _ ts us _ (H.out.up (below2 _ _ _)) (H'.out.up (below2 _ _ _))).mono ?_; rintro e w1 ⟨rfl, hb1⟩)
  all_goals first
    | (go_ret; refine ⟨retB ?_, belowThen (below2 _ _ _) hb1⟩; unfold atomEq; simp_all)
    | (go_ret; refine ⟨retB ?_, below2 _ _ _⟩; unfold atomEq; simp_all)

theorem termEq_refl (t : Tm) : termEq t t = true := by unfold termEq; simp
theorem termsEq_refl : ∀ ts : List Tm, termsEq ts ts = true
  | [] => rfl
  | t :: l => by simp [termsEq, termEq_refl t, termsEq_refl l]
theorem atomEq_refl (a : At) : atomEq a a = true := by unfold atomEq; simp [termsEq_refl]

end Go.Proofs.YtcigljngiemdeaaGreat

namespace Go.Proofs.YtcigljngiemdeaaGreat
open Go.RowKit

/-- Each has few terms. -/
def SmallAtoms (n : Nat) (xs : List At) : Prop := n ≤ 1048576 ∧ ∀ q ∈ xs, q.2.length ≤ 1048576

theorem Tryz.infoAt : (Tryz.prog.info? 49).map (fun i => (i.zero, i.size, i.bytes)) = some (some (.agg #[.string ByteArray.empty, .slice none 0 0]), 2, 40) := by kernel_rfl

theorem IsAtoms.low {w : World} {lo n c : Nat} {A : Option Addr} {xs : List At} (h : IsAtoms w lo w.heap.size A n c xs) : IsAtoms w 0 w.heap.size A n c xs := h.keep AtomE.stays (fun _ _ _ => rfl) (Nat.zero_le _) (Nat.le_refl _)

end Go.Proofs.YtcigljngiemdeaaGreat

