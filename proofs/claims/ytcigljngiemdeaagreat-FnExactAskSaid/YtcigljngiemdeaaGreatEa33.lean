/-
  Texts of one claim, put together.
-/
import Derived.Test.YtcigljngiemdeaaGreatEq
import Derived.Test.YtcigljngiemdeaaGreatEa0
import Derived.Deep.RegionWith
import Derived.Test.YtcigljngiemdeaaGreatOwn
namespace Go.Proofs.YtcigljngiemdeaaGreat
open Go.RowKit

set_option maxHeartbeats 400000 in
theorem szAtomS_any (A : Option Addr) (n c : Nat) (xs : List At) (z : Int) (w : World) (h : IsAtoms w 0 w.heap.size A n c xs) (hz0 : 0 ≤ z) (hz1 : z ≤ 1048576) :
    Calls Tryz.prog 9 #[.slice A n c, .int .i64 z] w (SzPost z (SmallAtoms n xs) w) := by
  have hn := h.len
  unfold maxLen at hn
  have H := Lib.hid h; clear h
  go_enter Tryz.func9, Tryz.ntmps9
  go_wp2
  · go_ret; exact ⟨_, ⟨rfl, by omega, by omega, by omega⟩, Below.refl _ _⟩
  · have hzn : 0 ≤ z - (n : Int) := by assumption
    go_loopw [1, 5] (fun x i wr => ∃ (k : Nat) (y : Int), k ≤ n ∧ i = .int .i64 k ∧ x = .int .i64 y ∧ 0 ≤ y ∧ y ≤ z ∧ (∀ q ∈ xs.take k, q.2.length ≤ 1048576) ∧ Below w.heap.size w wr) (fun _ i _ => n - (intOf i).toNat)
    case atStart => exact ⟨0, _, Nat.zero_le _, rfl, rfl, by omega, by omega, fun q hq => by simp at hq, Below.refl _ _⟩
    case round =>
      obtain ⟨k, y, hk, rfl, rfl, hy0, hy1, hq, hb⟩ := hrel
      have HQ := Lib.hid hq; clear hq
      by_cases hlt : k < n
      · obtain ⟨p, q, hA, hlo, hhi, hg, hE⟩ := (H.out.below AtomE.stays hb (Nat.le_refl _)).at_ hlt
        obtain ⟨A', n', c', d1, d3, d4, d5⟩ := hE.out
        clear hE
        subst hA
        have HG := Lib.hid hg; clear hg
        have HT := Lib.hid d5; clear d5
        go_wp2_with (go_at_call 36; refine (szAtom_any _ _ _ _ q.2 _ _ d3 (HT.out.keep (fun _ _ _ => rfl) (Nat.le_refl _) hb.size) hy0 (by omega)).mono ?_; rintro e w1 ⟨y1, ⟨rfl, hy2, hy3, hy4⟩, hb1⟩)
        · go_ret; exact ⟨_, ⟨rfl, by omega, by omega, by omega⟩, belowThen hb hb1⟩
        · have hy5 : n' ≤ 1048576 := hy4 (by assumption)
          go_roundw
          case rel => exact ⟨k + 1, y1, by omega, by go_num, rfl, by omega, by omega, all_snoc HG.out HQ.out (by rw [HT.out.1]; exact hy5), belowThen hb hb1⟩
          case measure => simp [intOf]; omega
      · have hl := H.out.1
        have hsm : SmallAtoms n xs := ⟨by omega, by have := HQ.out; rwa [List.take_of_length_le (by omega)] at this⟩
        clear hl
        go_wp2
        go_ret; exact ⟨_, ⟨rfl, by omega, by omega, fun _ => hsm⟩, hb⟩

/-- A copy of atoms, in memory of its own. -/
def AtomSPost (n : Nat) (xs : List At) (w : World) (e : Ending) (w' : World) : Prop := ∃ g, e = .returned (.slice (some ⟨g, 0, none⟩) n n) ∧ w.heap.size ≤ g ∧ IsAtoms w' w.heap.size w'.heap.size (some ⟨g, 0, none⟩) n n xs ∧ Below w.heap.size w w'

set_option maxHeartbeats 1000000 in
theorem toAtomS_any (A : Option Addr) (n c : Nat) (xs : List At) (w : World) (h : IsAtoms w 0 w.heap.size A n c xs) (hn : SmallAtoms n xs) :
    Calls Tryz.prog 12 #[.slice A n c] w (AtomSPost n xs w) := by
  obtain ⟨hn1, hn2⟩ := hn
  obtain ⟨i0, hi, hz, hsz, hby⟩ := info_parts Tryz.infoAt
  have hmk : ∀ W : World, (Instr.makeSlice 28 (.int .i64 (n : Int)) (.int .i64 (n : Int))).run Tryz.prog W = .ok (.slice (some ⟨W.heap.size, 0, none⟩) n n) (W.alloc (.cells (madeCells #[.string ByteArray.empty, .slice none 0 0] (n * 2)) 49)) := by
    intro W
    have hr := run_make (P := Tryz.prog) W 28 49 i0 _ Tryz.underlying28 hi hz .i64 .i64 n n (by omega) (Int.le_refl _) (by rw [hby]; omega) (by omega)
    rw [hsz] at hr
    exact hr
  clear hi hz hsz hby
  have HN := Lib.hid hn2; clear hn2
  have H := Lib.hid h; clear h
  go_enter Tryz.func12, Tryz.ntmps12
  go_wp2
  go_loopw [4] (fun i wr => ∃ k : Nat, k ≤ n ∧ i = .int .i64 k ∧ Rowed 49 2 AtomV wr w.heap.size n k xs ∧ Below w.heap.size w wr) (fun i _ => n - (intOf i).toNat)
  case atStart => exact ⟨0, Nat.zero_le _, rfl, Rowed.start w _, below1 _ _⟩
  case round =>
    obtain ⟨k, hk, rfl, hf, hb⟩ := hrel
    have HF := Lib.hid hf; clear hf
    by_cases hlt : k < n
    · obtain ⟨p, q, hA, hlo, hhi, hg, hE⟩ := (H.out.below AtomE.stays hb (Nat.le_refl _)).at_ hlt
      obtain ⟨A', n', c', d1, d3, d4, d5⟩ := hE.out
      clear hE
      subst hA
      have hq : n' ≤ 1048576 := by rw [← d5.1]; exact HN.out q (List.mem_of_getElem? hg)
      have HG := Lib.hid hg; clear hg
      have HT := Lib.hid d5; clear d5
      go_wp2_with fail
      (refine (toAtom_any _ _ _ _ q.2 _ (HT.out.keep (fun _ _ _ => rfl) (Nat.le_refl _) hb.size) hq).mono ?_; rintro e w1 ⟨g1, rfl, hg1, ho1, hb1⟩; have HF1 := HF.out.below AtomV.keep hb1; have hg0 : w.heap.size < wr.heap.size := HF.out.lt; obtain ⟨⟨x0, hx0⟩, hz0⟩ := HF1.cells (j := k * 2) (by omega); obtain ⟨⟨x1, hx1⟩, hz1⟩ := HF1.cells (j := k * 2 + 1) (by omega))
      go_wp2
      go_roundw
      case rel => exact ⟨k + 1, by omega, by go_num, HF1.step2 AtomV.keep AtomV.cong q HG.out _ _ ⟨rfl, d3, _, _, _, rfl, ho1.is_ (by unfold maxLen; omega) (by omega)⟩, ((belowThen hb hb1).setCell (Nat.le_refl _) _).setCell (Nat.le_refl _) _⟩
      case measure => simp [intOf]; omega
    · go_wp2
      go_ret
      exact ⟨_, rfl, Nat.le_refl _, HF.out.is_ hlt H.out.1 (by unfold maxLen; omega) (Nat.le_refl _) (AtomV.is_ (Nat.le_refl _)), hb⟩

set_option maxHeartbeats 1000000 in
theorem eqAtomS_any (A B : Option Addr) (n c n' c' : Nat) (xs ys : List At) (w : World) (h : IsAtoms w 0 w.heap.size A n c xs) (h' : IsAtoms w 0 w.heap.size B n' c' ys) :
    Calls Tryz.prog 16 #[.slice A n c, .slice B n' c'] w (BoolPost (listEq atomEq xs ys) w) := by
  have hm := h.len
  unfold maxLen at hm
  have H := Lib.hid h; clear h
  have H' := Lib.hid h'; clear h'
  by_cases hne : n = n'
  · subst hne
    go_enter Tryz.func16, Tryz.ntmps16
    go_wp2
    go_loopw [5] (fun i wr => ∃ k : Nat, k ≤ n ∧ i = .int .i64 k ∧ listEq atomEq (xs.drop k) (ys.drop k) = listEq atomEq xs ys ∧ Below w.heap.size w wr) (fun i _ => n - (intOf i).toNat)
    case atStart => exact ⟨0, Nat.zero_le _, rfl, rfl, Below.refl _ _⟩
    case round =>
      obtain ⟨k, hk, rfl, hd, hb⟩ := hrel
      have HD := Lib.hid hd; clear hd
      by_cases hlt : k < n
      · obtain ⟨p, q, hA, hlo, hhi, hg, hE⟩ := (H.out.below AtomE.stays hb (Nat.le_refl _)).at_ hlt
        obtain ⟨p', q', hA', hlo', hhi', hg', hE'⟩ := (H'.out.below AtomE.stays hb (Nat.le_refl _)).at_ hlt
        obtain ⟨C, m, d, d1, d3, d4, d5⟩ := hE.out
        obtain ⟨C', m', d', f1, f3, f4, f5⟩ := hE'.out
        clear hE hE'
        subst hA; subst hA'
        have HG := Lib.hid hg; clear hg
        have HG' := Lib.hid hg'; clear hg'
        have HT := Lib.hid (d5.keep (w' := wr.drew) (lo' := 0) (hi' := wr.drew.heap.size) (fun _ _ _ => rfl) (Nat.le_refl _) hb.size); clear d5
        have HT' := Lib.hid (f5.keep (w' := wr.drew) (lo' := 0) (hi' := wr.drew.heap.size) (fun _ _ _ => rfl) (Nat.le_refl _) hb.size); clear f5
        have hbd := hb.drew
        go_wp2_with fail
        go_region_with (go_at_call 52; refine (eqAtom_any _ _ _ _ _ _ _ _ q.2 q'.2 _ HT.out HT'.out).mono ?_; rintro e w1 ⟨rfl, hb1⟩)
        all_goals go_wp2
        all_goals first
          | (go_ret; exact ⟨retB (listEq_no HG.out HG'.out HD.out (by assumption)), belowThen hbd hb1⟩)
          | (go_roundw
             case rel => exact ⟨k + 1, by omega, by go_num, listEq_on HG.out HG'.out HD.out (by assumption), belowThen hbd hb1⟩
             case measure => simp [intOf]; omega)
      · have hl := Lib.hid H.out.1
        have hl' := Lib.hid H'.out.1
        go_wp2
        go_ret
        exact ⟨retB (listEq_end hl.out hl'.out HD.out hlt), hb⟩
  · have hlen : xs.length ≠ ys.length := by rw [H.out.1, H'.out.1]; exact hne
    go_enter Tryz.func16, Tryz.ntmps16
    go_wp2
    go_ret
    exact ⟨retB (listEq_len hlen).symm, Below.refl _ _⟩


/-- A copy of atoms, in memory of its own from lo on. -/
def OwnSPost (n : Nat) (xs : List At) (w : World) (e : Ending) (w' : World) : Prop :=
  ∃ A rs, e = .returned (.slice A n n) ∧ OwnRefs w' w.heap.size w'.heap.size A n n rs ∧ rs.map rAt = xs ∧ Below w.heap.size w w'

theorem ownTermsRow {w : World} {g n lo hi : Nat} {ts : List Tm} (h : OwnTerms w g n ts) (h1 : lo ≤ g) (h2 : g < hi) : RowAt w lo hi 59 (some ⟨g, 0, none⟩) (n * 2) :=
  ⟨g, n * 2, tcell ts, rfl, h1, h2, h.2.2, Nat.le_refl _⟩

theorem set2_block {w : World} {g i j : Nat} {u v : Value} {b : Nat} (hb : b ≠ g) : ((w.setCell ⟨g, i, none⟩ u).setCell ⟨g, j, none⟩ v).heap[b]? = w.heap[b]? :=
  (Below.heap_setCell _ _ _ b hb).trans (Below.heap_setCell _ _ _ b hb)

theorem rcells_put {rs : List Rf} {r : Rf} {k : Nat} {f : Nat → Value} (hk : rs.length = k) (h : ∀ j u, (rcells rs)[j]? = some u → f j = u) :
    ∀ j u, (rcells (rs ++ [r]))[j]? = some u → (if j = k * 2 + 1 then .slice r.2.1 r.2.2.1 r.2.2.2.1 else if j = k * 2 then .string r.1 else f j) = u := by
  intro j u hu
  rw [rcells_snoc] at hu
  have hl := rcells_len rs
  by_cases h1 : j < (rcells rs).length
  · rw [List.getElem?_append_left h1] at hu
    rw [if_neg (by omega), if_neg (by omega)]
    exact h j u hu
  · rw [List.getElem?_append_right (by omega)] at hu
    have : j = k * 2 ∨ j = k * 2 + 1 := by
      have := (List.getElem?_eq_some_iff.1 hu).1
      simp at this; omega
    rcases this with rfl | rfl
    · rw [if_neg (by omega), if_pos rfl]
      rw [show k * 2 - (rcells rs).length = 0 by omega] at hu
      simpa using hu
    · rw [if_pos rfl]
      rw [show k * 2 + 1 - (rcells rs).length = 1 by omega] at hu
      simpa using hu

set_option maxHeartbeats 1000000 in
theorem toAtomS_own (A : Option Addr) (n c : Nat) (xs : List At) (w : World) (h : IsAtoms w 0 w.heap.size A n c xs) (hn : SmallAtoms n xs) :
    Calls Tryz.prog 12 #[.slice A n c] w (OwnSPost n xs w) := by
  obtain ⟨hn1, hn2⟩ := hn
  obtain ⟨i0, hi, hz, hsz, hby⟩ := info_parts Tryz.infoAt
  have hmk : ∀ W : World, (Instr.makeSlice 28 (.int .i64 (n : Int)) (.int .i64 (n : Int))).run Tryz.prog W = .ok (.slice (some ⟨W.heap.size, 0, none⟩) n n) (W.alloc (.cells (madeCells #[.string ByteArray.empty, .slice none 0 0] (n * 2)) 49)) := by
    intro W
    have hr := run_make (P := Tryz.prog) W 28 49 i0 _ Tryz.underlying28 hi hz .i64 .i64 n n (by omega) (Int.le_refl _) (by rw [hby]; omega) (by omega)
    rw [hsz] at hr
    exact hr
  clear hi hz hsz hby
  have HN := Lib.hid hn2; clear hn2
  have H := Lib.hid h; clear h
  have hst := World.rowIs_alloc w (madeCells #[.string ByteArray.empty, .slice none 0 0] (n * 2)) 49 (fun i => (madeCells #[.string ByteArray.empty, .slice none 0 0] (n * 2))[i]?.getD undef) (fun i hi => by simp [hi])
  rw [size_madeCells] at hst
  have HST := Lib.hid hst; clear hst
  go_enter Tryz.func12, Tryz.ntmps12
  go_wp2
  go_loopw [4] (fun i wr => ∃ (k : Nat) (rs : List Rf) (f : Nat → Value), k ≤ n ∧ i = .int .i64 k ∧ rs.length = k ∧ rs.map rAt = xs.take k ∧ wr.rowIs w.heap.size 49 (n * 2) f ∧ (∀ j u, (rcells rs)[j]? = some u → f j = u) ∧ OwnIn wr (w.heap.size + 1) wr.heap.size rs ∧ Below w.heap.size w wr) (fun i _ => n - (intOf i).toNat)
  case atStart => exact ⟨0, [], _, Nat.zero_le _, rfl, rfl, rfl, HST.out, fun j u hu => by simp [rcells] at hu, OwnIn.nil, below1 _ _⟩
  case round =>
    obtain ⟨k, rs, f, hk, rfl, hl, hm, hr, hf, ho, hb⟩ := hrel
    have HL := Lib.hid hl; have HM := Lib.hid hm; have HR := Lib.hid hr; have HF := Lib.hid hf; have HO := Lib.hid ho
    clear hl hm hr hf ho
    by_cases hlt : k < n
    · obtain ⟨p, q, hA, hlo, hhi, hg, hE⟩ := (H.out.below AtomE.stays hb (Nat.le_refl _)).at_ hlt
      obtain ⟨A', n', c', d1, d3, d4, d5⟩ := hE.out
      clear hE
      subst hA
      have hq : n' ≤ 1048576 := by rw [← d5.1]; exact HN.out q (List.mem_of_getElem? hg)
      have HG := Lib.hid hg; clear hg
      have HT := Lib.hid d5; clear d5
      go_wp2_with fail
      (refine (toAtom_any _ _ _ _ q.2 _ (HT.out.keep (fun _ _ _ => rfl) (Nat.le_refl _) hb.size) hq).mono ?_; rintro e w1 ⟨g1, rfl, hg1, ho1, hb1⟩)
      have hr1 := HR.out.of_block (hb1.block w.heap.size HR.out.lt)
      have hg0 : w.heap.size < wr.heap.size := HR.out.lt
      have x0 := hr1.cell (i := k * 2) (by omega)
      have x1 := hr1.cell (i := k * 2 + 1) (by omega)
      have z0 := hr1.frozen (k * 2)
      have z1 := hr1.frozen (k * 2 + 1)
      have hg1s : g1 < w1.heap.size := ho1.2.2.lt
      have HR1 := Lib.hid hr1; clear hr1
      go_wp2
      go_roundw
      case rel =>
        have hT : IsTerms w1 wr.heap.size w1.heap.size (some ⟨g1, 0, none⟩) n' n' q.2 := ho1.is_ (by unfold maxLen; omega) hg1
        have hR := ownTermsRow ho1 hg1 hg1s
        refine ⟨k + 1, rs ++ [(q.1, some ⟨g1, 0, none⟩, n', n', q.2)], _, by omega, by go_num, by rw [List.length_append, HL.out]; rfl, ?_, (HR1.out.set _ _).set _ _, rcells_put HL.out HF.out, ?_, ((belowThen hb hb1).setCell (Nat.le_refl _) _).setCell (Nat.le_refl _) _⟩
        · rw [List.map_append, HM.out, List.take_add_one, HG.out]; rfl
        · refine HO.out.snoc (fun b h1 h2 => (set2_block (by omega)).trans (hb1.block b h2)) (by rw [size_setCell, size_setCell]; exact hb1.size) d3 (by omega) ?_ ?_
          · rw [size_setCell, size_setCell]
            exact hT.keep (cellKeep (fun b h1 h2 => set2_block (by omega))) (Nat.le_refl _) (Nat.le_refl _)
          · intro _
            rw [size_setCell, size_setCell]
            exact hR.keep (fun b h1 h2 => set2_block (by omega)) (Nat.le_refl _) (Nat.le_refl _)
      case measure => simp [intOf]; omega
    · have hkn : k = n := by omega
      go_wp2
      go_ret
      refine ⟨_, rs, rfl, ⟨by rw [HL.out, hkn], Nat.le_refl _, by unfold maxLen; omega, fun _ => ⟨_, n * 2, f, rfl, Nat.le_refl _, HR.out.lt, HR.out, Nat.le_refl _, HF.out⟩, HO.out.keep (fun _ _ _ => rfl) (by omega) (Nat.le_refl _)⟩, ?_, hb⟩
      rw [HM.out, List.take_of_length_le (by have := H.out.1; omega)]

/-- A copy of a change, in memory of its own. -/
def OwnCPost (n n' : Nat) (xs ys : List At) (w : World) (e : Ending) (w' : World) : Prop :=
  ∃ A B ra rb mid, e = .returned (.agg #[.slice A n n, .slice B n' n']) ∧ (OwnRefs w' w.heap.size mid A n n ra ∧ ra.map rAt = xs) ∧ (OwnRefs w' mid w'.heap.size B n' n' rb ∧ rb.map rAt = ys) ∧ (w.heap.size ≤ mid ∧ mid ≤ w'.heap.size) ∧ Below w.heap.size w w'

/-- The two lists of a change are both small. -/
def SmallChange (n n' : Nat) (xs ys : List At) : Prop := SmallAtoms n xs ∧ SmallAtoms n' ys



/-- Are two changes the same? -/
def changeEq (xs ys xs' ys' : List At) : Bool := listEq atomEq xs xs' && listEq atomEq ys ys'

theorem changeEq_refl (xs ys : List At) : changeEq xs ys xs ys = true := by unfold changeEq; rw [listEq_refl atomEq_refl, listEq_refl atomEq_refl]; rfl
theorem changeEq_no1 {xs ys xs' ys' : List At} (h : (!listEq atomEq xs xs') = true) : changeEq xs ys xs' ys' = false := by unfold changeEq; rw [show listEq atomEq xs xs' = false by simpa using h]; rfl
theorem changeEq_on {xs ys xs' ys' : List At} (h : (!listEq atomEq xs xs') = false) : changeEq xs ys xs' ys' = listEq atomEq ys ys' := by unfold changeEq; rw [show listEq atomEq xs xs' = true by simpa using h]; rfl


end Go.Proofs.YtcigljngiemdeaaGreat
