/-
  Texts of one claim, put together.
-/
import Derived.Test.YtcigljngiemdeaaGreatEa0
import Derived.Test.YtcigljngiemdeaaGreatEq
import Derived.Deep.RegionWith
namespace Go.Proofs.YtcigljngiemdeaaGreat
open Go.RowKit

/-- Each has few terms. -/
def SmallParts (n : Nat) (xs : List Pt) : Prop := n ≤ 1048576 ∧ ∀ q ∈ xs, q.2.2.length ≤ 1048576

set_option maxHeartbeats 400000 in
theorem szPart_any (b : Bool) (nm : ByteArray) (A : Option Addr) (n c : Nat) (ts : List Tm) (z : Int) (w : World) (hs : nm.size ≤ maxLen) (h : IsTerms w 0 w.heap.size A n c ts) (hz0 : 0 ≤ z) (hz1 : z ≤ 1048576) :
    Calls Tryz.prog 37 #[.agg #[.bool b, .string nm, .slice A n c], .int .i64 z] w (SzPost z (n ≤ 1048576) w) := by
  have H := Lib.hid h; clear h
  go_enter Tryz.func37, Tryz.ntmps37
  go_wp2_with fail
  refine (szAtom_any _ _ _ _ ts _ _ hs (H.out.up (below1 _ _)) hz0 hz1).mono ?_; rintro e w1 ⟨y1, ⟨rfl, hy2, hy3, hy4⟩, hb1⟩
  go_wp2
  · go_ret; exact ⟨_, ⟨rfl, by omega, by omega, by omega⟩, belowThen (below1 _ _) hb1⟩
  · go_ret; exact ⟨_, ⟨rfl, by omega, hy3, hy4⟩, belowThen (below1 _ _) hb1⟩

set_option maxHeartbeats 400000 in
theorem szPartS_any (A : Option Addr) (n c : Nat) (xs : List Pt) (z : Int) (w : World) (h : IsParts w 0 w.heap.size A n c xs) (hz0 : 0 ≤ z) (hz1 : z ≤ 1048576) :
    Calls Tryz.prog 10 #[.slice A n c, .int .i64 z] w (SzPost z (SmallParts n xs) w) := by
  have hn := h.len
  unfold maxLen at hn
  have H := Lib.hid h; clear h
  go_enter Tryz.func10, Tryz.ntmps10
  go_wp2
  · go_ret; exact ⟨_, ⟨rfl, by omega, by omega, by omega⟩, Below.refl _ _⟩
  · have hzn : 0 ≤ z - (n : Int) := by assumption
    go_loopw [1, 5] (fun x i wr => ∃ (k : Nat) (y : Int), k ≤ n ∧ i = .int .i64 k ∧ x = .int .i64 y ∧ 0 ≤ y ∧ y ≤ z ∧ (∀ q ∈ xs.take k, q.2.2.length ≤ 1048576) ∧ Below w.heap.size w wr) (fun _ i _ => n - (intOf i).toNat)
    case atStart => exact ⟨0, _, Nat.zero_le _, rfl, rfl, by omega, by omega, fun q hq => by simp at hq, Below.refl _ _⟩
    case round =>
      obtain ⟨k, y, hk, rfl, rfl, hy0, hy1, hq, hb⟩ := hrel
      have HQ := Lib.hid hq; clear hq
      by_cases hlt : k < n
      · obtain ⟨p, q, hA, hlo, hhi, hg, hE⟩ := (H.out.below PartE.stays hb (Nat.le_refl _)).at_ hlt
        obtain ⟨A', n', c', d1, d2, d3, d4, d5⟩ := hE.out
        clear hE
        subst hA
        have HG := Lib.hid hg; clear hg
        have HT := Lib.hid d5; clear d5
        go_wp2_with (go_at_call 37; refine (szPart_any _ _ _ _ _ q.2.2 _ _ d3 (HT.out.keep (fun _ _ _ => rfl) (Nat.le_refl _) hb.size) hy0 (by omega)).mono ?_; rintro e w1 ⟨y1, ⟨rfl, hy2, hy3, hy4⟩, hb1⟩)
        · go_ret; exact ⟨_, ⟨rfl, by omega, by omega, by omega⟩, belowThen hb hb1⟩
        · have hy5 : n' ≤ 1048576 := hy4 (by assumption)
          go_roundw
          case rel => exact ⟨k + 1, y1, by omega, by go_num, rfl, by omega, by omega, all_snoc HG.out HQ.out (by rw [HT.out.1]; exact hy5), belowThen hb hb1⟩
          case measure => simp [intOf]; omega
      · have hl := H.out.1
        have hsm : SmallParts n xs := ⟨by omega, by have := HQ.out; rwa [List.take_of_length_le (by omega)] at this⟩
        clear hl
        go_wp2
        go_ret; exact ⟨_, ⟨rfl, by omega, by omega, fun _ => hsm⟩, hb⟩

/-- A part by value, its terms in memory of their own. -/
def PartPost (b : Bool) (nm : ByteArray) (n : Nat) (ts : List Tm) (w : World) (e : Ending) (w' : World) : Prop := ∃ g, e = .returned (.agg #[.bool b, .string nm, .slice (some ⟨g, 0, none⟩) n n]) ∧ w.heap.size ≤ g ∧ OwnTerms w' g n ts ∧ Below w.heap.size w w'

set_option maxHeartbeats 400000 in
theorem toPart_any (b : Bool) (nm : ByteArray) (A : Option Addr) (n c : Nat) (ts : List Tm) (w : World) (h : IsTerms w 0 w.heap.size A n c ts) (hn : n ≤ 1048576) :
    Calls Tryz.prog 40 #[.agg #[.bool b, .string nm, .slice A n c]] w (PartPost b nm n ts w) := by
  have H := Lib.hid h; clear h
  go_enter Tryz.func40, Tryz.ntmps40
  go_wp2_with fail
  refine (toAtom_any _ _ _ _ ts _ (H.out.up (below3 _ _ _ _)) hn).mono ?_; rintro e w1 ⟨g, rfl, hg, ho, hb1⟩
  obtain ⟨hc, hf⟩ := oldCells hb1
  have hz : w.heap.size + 1 + 1 < w1.heap.size := by have := hb1.size; simp at this; omega
  go_wp2
  simp only [size_alloc_eq] at hg
  refine bodyPost_ret (v := .agg #[.bool b, .string nm, .slice (some ⟨g, 0, none⟩) n n]) (by simp [results, Tryz.results40, go_sem, hc]) rfl ⟨g, rfl, by omega, ?_, ?_⟩
  · exact ((((ho.setOther (by show g ≠ _; simp; omega) _).setOther (by show g ≠ _; simp; omega) _).setOther (by show g ≠ _; simp; omega) _).setOther (by show g ≠ _; simp; omega) _).setOther (by show g ≠ _; simp; omega) _
  · exact (((((belowThen (below3 _ _ _ _) hb1).setCell (by simp; omega) _).setCell (by simp; omega) _).setCell (by simp) _).setCell (by simp) _).setCell (by simp) _

theorem Tryz.infoPart : (Tryz.prog.info? 52).map (fun i => (i.zero, i.size, i.bytes)) = some (some (.agg #[.bool false, .string ByteArray.empty, .slice none 0 0]), 3, 48) := by kernel_rfl

/-- A copy of parts, in memory of its own. -/
def PartSPost (n : Nat) (xs : List Pt) (w : World) (e : Ending) (w' : World) : Prop := ∃ g, e = .returned (.slice (some ⟨g, 0, none⟩) n n) ∧ w.heap.size ≤ g ∧ IsParts w' w.heap.size w'.heap.size (some ⟨g, 0, none⟩) n n xs ∧ Below w.heap.size w w'

set_option maxHeartbeats 1000000 in
theorem toPartS_any (A : Option Addr) (n c : Nat) (xs : List Pt) (w : World) (h : IsParts w 0 w.heap.size A n c xs) (hn : SmallParts n xs) :
    Calls Tryz.prog 13 #[.slice A n c] w (PartSPost n xs w) := by
  obtain ⟨hn1, hn2⟩ := hn
  obtain ⟨i0, hi, hz, hsz, hby⟩ := info_parts Tryz.infoPart
  have hmk : ∀ W : World, (Instr.makeSlice 30 (.int .i64 (n : Int)) (.int .i64 (n : Int))).run Tryz.prog W = .ok (.slice (some ⟨W.heap.size, 0, none⟩) n n) (W.alloc (.cells (madeCells #[.bool false, .string ByteArray.empty, .slice none 0 0] (n * 3)) 52)) := by
    intro W
    have hr := run_make (P := Tryz.prog) W 30 52 i0 _ Tryz.underlying30 hi hz .i64 .i64 n n (by omega) (Int.le_refl _) (by rw [hby]; omega) (by omega)
    rw [hsz] at hr
    exact hr
  clear hi hz hsz hby
  have HN := Lib.hid hn2; clear hn2
  have H := Lib.hid h; clear h
  go_enter Tryz.func13, Tryz.ntmps13
  go_wp2
  go_loopw [4] (fun i wr => ∃ k : Nat, k ≤ n ∧ i = .int .i64 k ∧ Rowed 52 3 PartV wr w.heap.size n k xs ∧ Below w.heap.size w wr) (fun i _ => n - (intOf i).toNat)
  case atStart => exact ⟨0, Nat.zero_le _, rfl, Rowed.start w _, below1 _ _⟩
  case round =>
    obtain ⟨k, hk, rfl, hf, hb⟩ := hrel
    have HF := Lib.hid hf; clear hf
    by_cases hlt : k < n
    · obtain ⟨p, q, hA, hlo, hhi, hg, hE⟩ := (H.out.below PartE.stays hb (Nat.le_refl _)).at_ hlt
      obtain ⟨A', n', c', d1, d2, d3, d4, d5⟩ := hE.out
      clear hE
      subst hA
      have hq : n' ≤ 1048576 := by rw [← d5.1]; exact HN.out q (List.mem_of_getElem? hg)
      have HG := Lib.hid hg; clear hg
      have HT := Lib.hid d5; clear d5
      go_wp2_with fail
      (refine (toPart_any _ _ _ _ _ q.2.2 _ (HT.out.keep (fun _ _ _ => rfl) (Nat.le_refl _) hb.size) hq).mono ?_; rintro e w1 ⟨g1, rfl, hg1, ho1, hb1⟩; have HF1 := HF.out.below PartV.keep hb1; have hg0 : w.heap.size < wr.heap.size := HF.out.lt; obtain ⟨⟨x0, hx0⟩, hz0⟩ := HF1.cells (j := k * 3) (by omega); obtain ⟨⟨x1, hx1⟩, hz1⟩ := HF1.cells (j := k * 3 + 1) (by omega); obtain ⟨⟨x2, hx2⟩, hz2⟩ := HF1.cells (j := k * 3 + 2) (by omega))
      go_wp2
      go_roundw
      case rel => exact ⟨k + 1, by omega, by go_num, HF1.step3 PartV.keep PartV.cong q HG.out _ _ _ ⟨rfl, rfl, d3, _, _, _, rfl, ho1.is_ (by unfold maxLen; omega) (by omega)⟩, (((belowThen hb hb1).setCell (Nat.le_refl _) _).setCell (Nat.le_refl _) _).setCell (Nat.le_refl _) _⟩
      case measure => simp [intOf]; omega
    · go_wp2
      go_ret
      exact ⟨_, rfl, Nat.le_refl _, HF.out.is_ hlt H.out.1 (by unfold maxLen; omega) (Nat.le_refl _) (PartV.is_ (Nat.le_refl _)), hb⟩

end Go.Proofs.YtcigljngiemdeaaGreat

namespace Go.Proofs.YtcigljngiemdeaaGreat
open Go.RowKit

def partEq (a b : Pt) : Bool := (a.1 == b.1) && atomEq a.2 b.2

theorem partEq_refl (a : Pt) : partEq a a = true := by unfold partEq; simp [atomEq_refl]

set_option maxHeartbeats 400000 in
theorem eqPart_any (b b' : Bool) (nm nm' : ByteArray) (A B : Option Addr) (n c n' c' : Nat) (ts us : List Tm) (w : World) (h : IsTerms w 0 w.heap.size A n c ts) (h' : IsTerms w 0 w.heap.size B n' c' us) :
    Calls Tryz.prog 53 #[.agg #[.bool b, .string nm, .slice A n c], .agg #[.bool b', .string nm', .slice B n' c']] w (BoolPost (partEq (b, nm, ts) (b', nm', us)) w) := by
  have H := Lib.hid h; clear h
  have H' := Lib.hid h'; clear h'
  go_enter Tryz.func53, Tryz.ntmps53
  go_wp2_with (go_at_call 52; refine (eqAtom_any _ _ _ _ _ _ _ _ ts us _ (H.out.up (below2 _ _ _)) (H'.out.up (below2 _ _ _))).mono ?_; rintro e w1 ⟨rfl, hb1⟩)
  all_goals first
    | (go_ret; refine ⟨retB ?_, belowThen (below2 _ _ _) hb1⟩; unfold partEq; simp_all)
    | (go_ret; refine ⟨retB ?_, below2 _ _ _⟩; unfold partEq; simp_all)

set_option maxHeartbeats 1000000 in
theorem eqPartS_any (A B : Option Addr) (n c n' c' : Nat) (xs ys : List Pt) (w : World) (h : IsParts w 0 w.heap.size A n c xs) (h' : IsParts w 0 w.heap.size B n' c' ys) :
    Calls Tryz.prog 17 #[.slice A n c, .slice B n' c'] w (BoolPost (listEq partEq xs ys) w) := by
  have hm := h.len
  unfold maxLen at hm
  have H := Lib.hid h; clear h
  have H' := Lib.hid h'; clear h'
  by_cases hne : n = n'
  · subst hne
    go_enter Tryz.func17, Tryz.ntmps17
    go_wp2
    go_loopw [5] (fun i wr => ∃ k : Nat, k ≤ n ∧ i = .int .i64 k ∧ listEq partEq (xs.drop k) (ys.drop k) = listEq partEq xs ys ∧ Below w.heap.size w wr) (fun i _ => n - (intOf i).toNat)
    case atStart => exact ⟨0, Nat.zero_le _, rfl, rfl, Below.refl _ _⟩
    case round =>
      obtain ⟨k, hk, rfl, hd, hb⟩ := hrel
      have HD := Lib.hid hd; clear hd
      by_cases hlt : k < n
      · obtain ⟨p, q, hA, hlo, hhi, hg, hE⟩ := (H.out.below PartE.stays hb (Nat.le_refl _)).at_ hlt
        obtain ⟨p', q', hA', hlo', hhi', hg', hE'⟩ := (H'.out.below PartE.stays hb (Nat.le_refl _)).at_ hlt
        obtain ⟨C, m, d, d1, d2, d3, d4, d5⟩ := hE.out
        obtain ⟨C', m', d', f1, f2, f3, f4, f5⟩ := hE'.out
        clear hE hE'
        subst hA; subst hA'
        have HG := Lib.hid hg; clear hg
        have HG' := Lib.hid hg'; clear hg'
        have HT := Lib.hid (d5.keep (w' := wr.drew) (lo' := 0) (hi' := wr.drew.heap.size) (fun _ _ _ => rfl) (Nat.le_refl _) hb.size); clear d5
        have HT' := Lib.hid (f5.keep (w' := wr.drew) (lo' := 0) (hi' := wr.drew.heap.size) (fun _ _ _ => rfl) (Nat.le_refl _) hb.size); clear f5
        have hbd := hb.drew
        go_wp2_with fail
        go_region_with (go_at_call 53; refine (eqPart_any _ _ _ _ _ _ _ _ _ _ q.2.2 q'.2.2 _ HT.out HT'.out).mono ?_; rintro e w1 ⟨rfl, hb1⟩)
        all_goals go_wp2
        all_goals first
          | (go_ret; exact ⟨retB (listEq_no HG.out HG'.out HD.out (by assumption)), belowThen hbd hb1⟩)
          | (go_roundw
             case rel => exact ⟨k + 1, by omega, by go_num, listEq_on HG.out HG'.out HD.out (by assumption), belowThen hbd hb1⟩
             case measure => simp [intOf]; omega)
      · have hl := Lib.hid H.out.1
        have hl' := Lib.hid H'.out.1
        go_wp2
        go_ret
        exact ⟨retB (listEq_end hl.out hl'.out HD.out hlt), hb⟩
  · have hlen : xs.length ≠ ys.length := by rw [H.out.1, H'.out.1]; exact hne
    go_enter Tryz.func17, Tryz.ntmps17
    go_wp2
    go_ret
    exact ⟨retB (listEq_len hlen).symm, Below.refl _ _⟩

end Go.Proofs.YtcigljngiemdeaaGreat


namespace Go.Proofs.YtcigljngiemdeaaGreat
open Go.RowKit

/-- The terms of a rule's head, and its parts. -/
def IsRule (w : World) (hi : Nat) (A : Option Addr) (n c : Nat) (B : Option Addr) (m d : Nat) (ts : List Tm) (xs : List Pt) : Prop := IsTerms w 0 hi A n c ts ∧ IsParts w 0 hi B m d xs

theorem IsRule.up {w w' : World} {A B : Option Addr} {n c m d : Nat} {ts : List Tm} {xs : List Pt} (h : IsRule w w.heap.size A n c B m d ts xs) (hb : Below w.heap.size w w') : IsRule w' w'.heap.size A n c B m d ts xs :=
  ⟨h.1.up hb, h.2.up PartE.stays hb⟩

theorem IsRule.head {w : World} {hi n c m d : Nat} {A B : Option Addr} {ts : List Tm} {xs : List Pt} (h : IsRule w hi A n c B m d ts xs) : IsTerms w 0 hi A n c ts := h.1
theorem IsRule.body {w : World} {hi n c m d : Nat} {A B : Option Addr} {ts : List Tm} {xs : List Pt} (h : IsRule w hi A n c B m d ts xs) : IsParts w 0 hi B m d xs := h.2

/-- Three cells of a box. -/
def Box3 (w : World) (b : Nat) (u v x : Value) : Prop := b < w.heap.size ∧ w.cell? ⟨b, 0, none⟩ = some u ∧ w.cell? ⟨b, 1, none⟩ = some v ∧ w.cell? ⟨b, 2, none⟩ = some x

theorem Box3.new (w : World) (u v x : Value) (t : TypeId) : Box3 (w.alloc (.cells #[u, v, x] t)) w.heap.size u v x := by
  refine ⟨by simp, ?_, ?_, ?_⟩ <;> simp [go_sem]

theorem Box3.later {w w' : World} {b : Nat} {u v x : Value} (h : Box3 w b u v x) (hb : Below w.heap.size w w') : Box3 w' b u v x :=
  ⟨Nat.lt_of_lt_of_le h.1 hb.size, (hb.cell (p := ⟨b, 0, none⟩) h.1).trans h.2.1, (hb.cell (p := ⟨b, 1, none⟩) h.1).trans h.2.2.1, (hb.cell (p := ⟨b, 2, none⟩) h.1).trans h.2.2.2⟩

theorem Box3.other {w : World} {b : Nat} {u v x : Value} (h : Box3 w b u v x) {a : Addr} (ha : b ≠ a.block) (y : Value) : Box3 (w.setCell a y) b u v x :=
  ⟨by rw [size_setCell]; exact h.1, by rw [World.cell?_setCell_other _ _ _ _ (fun e => by subst e; simp at ha)]; exact h.2.1, by rw [World.cell?_setCell_other _ _ _ _ (fun e => by subst e; simp at ha)]; exact h.2.2.1, by rw [World.cell?_setCell_other _ _ _ _ (fun e => by subst e; simp at ha)]; exact h.2.2.2⟩

/-- A rule by value has few terms and parts. -/
def SmallRule (n m : Nat) (xs : List Pt) : Prop := n ≤ 1048576 ∧ SmallParts m xs


/-- A copy of a rule, in memory of its own. -/
def OwnRule (w : World) (g g' n m : Nat) (ts : List Tm) (xs : List Pt) : Prop := IsTerms w 0 w.heap.size (some ⟨g, 0, none⟩) n n ts ∧ IsParts w 0 w.heap.size (some ⟨g', 0, none⟩) m m xs

theorem OwnRule.below {w w' : World} {g g' n m : Nat} {ts : List Tm} {xs : List Pt} (h : OwnRule w g g' n m ts xs) (hb : Below w.heap.size w w') : OwnRule w' g g' n m ts xs := ⟨h.1.up hb, h.2.up PartE.stays hb⟩

theorem OwnRule.is_ {w : World} {g g' n m : Nat} {ts : List Tm} {xs : List Pt} (h : OwnRule w g g' n m ts xs) : IsRule w w.heap.size (some ⟨g, 0, none⟩) n n (some ⟨g', 0, none⟩) m m ts xs := h

def RulePost (nm : ByteArray) (n m : Nat) (ts : List Tm) (xs : List Pt) (w : World) (e : Ending) (w' : World) : Prop := ∃ g g', e = .returned (.agg #[.string nm, .slice (some ⟨g, 0, none⟩) n n, .slice (some ⟨g', 0, none⟩) m m]) ∧ OwnRule w' g g' n m ts xs ∧ Below w.heap.size w w'

/-- A block that was there, whose first cells may be written. -/
def Mine (w : World) (b n : Nat) : Prop := b < w.heap.size ∧ ∀ j, j < n → w.frozen? ⟨b, j, none⟩ = false ∧ ∃ x, w.cell? ⟨b, j, none⟩ = some x


end Go.Proofs.YtcigljngiemdeaaGreat
