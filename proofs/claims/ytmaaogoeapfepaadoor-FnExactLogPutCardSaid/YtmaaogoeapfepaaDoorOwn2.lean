/-
  The law's own copies of atoms and of changes lie in memory of their own.
-/
import Derived.Test.YtmaaogoeapfepaaDoorAtoms
import Derived.Test.YtmaaogoeapfepaaDoorOwn
import Derived.Test.YtmaaogoeapfepaaDoorMem
namespace Go.Proofs.YtmaaogoeapfepaaDoor
open Go.RowKit

/-- A copy of atoms, in memory of its own from lo on. -/
def OwnSPost (n : Nat) (xs : List At) (w : World) (e : Ending) (w' : World) : Prop :=
  ∃ A rs, e = .returned (.slice A n n) ∧ OwnRefs w' w.heap.size w'.heap.size A n n rs ∧ rs.map rAt = xs ∧ Below w.heap.size w w'

theorem ownTermsRow {w : World} {g n lo hi : Nat} {ts : List Tm} (h : OwnTerms w g n ts) (h1 : lo ≤ g) (h2 : g < hi) : RowAt w lo hi 78 (some ⟨g, 0, none⟩) (n * 2) :=
  ⟨g, n * 2, tcell ts, rfl, h1, h2, h.2.2, Nat.le_refl _⟩

theorem set2_block {w : World} {g i j : Nat} {u v : Value} {b : Nat} (hb : b ≠ g) : ((w.setCell ⟨g, i, none⟩ u).setCell ⟨g, j, none⟩ v).heap[b]? = w.heap[b]? :=
  (Below.heap_setCell _ _ _ b hb).trans (Below.heap_setCell _ _ _ b hb)

theorem rcells_put {rs : List Rf} {r : Rf} {k : Nat} {f : Nat → Value} (hk : rs.length = k) (h : ∀ j u, (rcells rs)[j]? = some u → f j = u) :
    ∀ j u, (rcells (rs ++ [r]))[j]? = some u → (if j = k * 2 + 1 then .slice r.2.1 r.2.2.1 r.2.2.2.1 else if j = k * 2 then .string r.1 else f j) = u := by
  intro j u hu
  rw [rcells_snoc] at hu
  have hl := rcells_len rs
  by_cases h1 : j < (rcells rs).length
  · rw [List.getElem?_append_left h1] at hu
    rw [if_neg (by omega), if_neg (by omega)]
    exact h j u hu
  · rw [List.getElem?_append_right (by omega)] at hu
    have : j = k * 2 ∨ j = k * 2 + 1 := by
      have := (List.getElem?_eq_some_iff.1 hu).1
      simp at this; omega
    rcases this with rfl | rfl
    · rw [if_neg (by omega), if_pos rfl]
      rw [show k * 2 - (rcells rs).length = 0 by omega] at hu
      simpa using hu
    · rw [if_pos rfl]
      rw [show k * 2 + 1 - (rcells rs).length = 1 by omega] at hu
      simpa using hu

set_option maxHeartbeats 1000000 in
theorem toAtomS_own (A : Option Addr) (n c : Nat) (xs : List At) (w : World) (h : IsAtoms w 0 w.heap.size A n c xs) (hn : SmallAtoms n xs) :
    Calls Tryd.prog 59 #[.slice A n c] w (OwnSPost n xs w) := by
  obtain ⟨hn1, hn2⟩ := hn
  obtain ⟨i0, hi, hz, hsz, hby⟩ := info_parts Tryd.infoAt
  have hmk : ∀ W : World, (Instr.makeSlice 27 (.int .i64 (n : Int)) (.int .i64 (n : Int))).run Tryd.prog W = .ok (.slice (some ⟨W.heap.size, 0, none⟩) n n) (W.alloc (.cells (madeCells #[.string ByteArray.empty, .slice none 0 0] (n * 2)) 35)) := by
    intro W
    have hr := run_make (P := Tryd.prog) W 27 35 i0 _ Tryd.underlying27 hi hz .i64 .i64 n n (by omega) (Int.le_refl _) (by rw [hby]; omega) (by omega)
    rw [hsz] at hr
    exact hr
  clear hi hz hsz hby
  have HN := Lib.hid hn2; clear hn2
  have H := Lib.hid h; clear h
  have hst := World.rowIs_alloc w (madeCells #[.string ByteArray.empty, .slice none 0 0] (n * 2)) 35 (fun i => (madeCells #[.string ByteArray.empty, .slice none 0 0] (n * 2))[i]?.getD undef) (fun i hi => by simp [hi])
  rw [size_madeCells] at hst
  have HST := Lib.hid hst; clear hst
  go_enter Tryd.func59, Tryd.ntmps59
  go_wp2
  go_loopw [4] (fun i wr => ∃ (k : Nat) (rs : List Rf) (f : Nat → Value), k ≤ n ∧ i = .int .i64 k ∧ rs.length = k ∧ rs.map rAt = xs.take k ∧ wr.rowIs w.heap.size 35 (n * 2) f ∧ (∀ j u, (rcells rs)[j]? = some u → f j = u) ∧ OwnIn wr (w.heap.size + 1) wr.heap.size rs ∧ Below w.heap.size w wr) (fun i _ => n - (intOf i).toNat)
  case atStart => exact ⟨0, [], _, Nat.zero_le _, rfl, rfl, rfl, HST.out, fun j u hu => by simp [rcells] at hu, OwnIn.nil, below1 _ _⟩
  case round =>
    obtain ⟨k, rs, f, hk, rfl, hl, hm, hr, hf, ho, hb⟩ := hrel
    have HL := Lib.hid hl; have HM := Lib.hid hm; have HR := Lib.hid hr; have HF := Lib.hid hf; have HO := Lib.hid ho
    clear hl hm hr hf ho
    by_cases hlt : k < n
    · obtain ⟨p, q, hA, hlo, hhi, hg, hE⟩ := (H.out.below AtomE.stays hb (Nat.le_refl _)).at_ hlt
      obtain ⟨A', n', c', d1, d3, d4, d5⟩ := hE.out
      clear hE
      subst hA
      have hq : n' ≤ 1048576 := by rw [← d5.1]; exact HN.out q (List.mem_of_getElem? hg)
      have HG := Lib.hid hg; clear hg
      have HT := Lib.hid d5; clear d5
      go_wp2_with fail
      (refine (toAtom_any _ _ _ _ q.2 _ (HT.out.keep (fun _ _ _ => rfl) (Nat.le_refl _) hb.size) hq).mono ?_; rintro e w1 ⟨g1, rfl, hg1, ho1, hb1⟩)
      have hr1 := HR.out.of_block (hb1.block w.heap.size HR.out.lt)
      have hg0 : w.heap.size < wr.heap.size := HR.out.lt
      have x0 := hr1.cell (i := k * 2) (by omega)
      have x1 := hr1.cell (i := k * 2 + 1) (by omega)
      have z0 := hr1.frozen (k * 2)
      have z1 := hr1.frozen (k * 2 + 1)
      have hg1s : g1 < w1.heap.size := ho1.2.2.lt
      have HR1 := Lib.hid hr1; clear hr1
      go_wp2
      go_roundw
      case rel =>
        have hT : IsTerms w1 wr.heap.size w1.heap.size (some ⟨g1, 0, none⟩) n' n' q.2 := ho1.is_ (by unfold maxLen; omega) hg1
        have hR := ownTermsRow ho1 hg1 hg1s
        refine ⟨k + 1, rs ++ [(q.1, some ⟨g1, 0, none⟩, n', n', q.2)], _, by omega, by go_num, by rw [List.length_append, HL.out]; rfl, ?_, (HR1.out.set _ _).set _ _, rcells_put HL.out HF.out, ?_, ((belowThen hb hb1).setCell (Nat.le_refl _) _).setCell (Nat.le_refl _) _⟩
        · rw [List.map_append, HM.out, List.take_add_one, HG.out]; rfl
        · refine HO.out.snoc (fun b h1 h2 => (set2_block (by omega)).trans (hb1.block b h2)) (by rw [size_setCell, size_setCell]; exact hb1.size) d3 (by omega) ?_ ?_
          · rw [size_setCell, size_setCell]
            exact hT.keep (cellKeep (fun b h1 h2 => set2_block (by omega))) (Nat.le_refl _) (Nat.le_refl _)
          · intro _
            rw [size_setCell, size_setCell]
            exact hR.keep (fun b h1 h2 => set2_block (by omega)) (Nat.le_refl _) (Nat.le_refl _)
      case measure => simp [intOf]; omega
    · have hkn : k = n := by omega
      go_wp2
      go_ret
      refine ⟨_, rs, rfl, ⟨by rw [HL.out, hkn], Nat.le_refl _, by unfold maxLen; omega, fun _ => ⟨_, n * 2, f, rfl, Nat.le_refl _, HR.out.lt, HR.out, Nat.le_refl _, HF.out⟩, HO.out.keep (fun _ _ _ => rfl) (by omega) (Nat.le_refl _)⟩, ?_, hb⟩
      rw [HM.out, List.take_of_length_le (by have := H.out.1; omega)]

/-- A copy of a change, in memory of its own. -/
def OwnCPost (n n' : Nat) (xs ys : List At) (w : World) (e : Ending) (w' : World) : Prop :=
  ∃ A B ra rb mid, e = .returned (.agg #[.slice A n n, .slice B n' n']) ∧ (OwnRefs w' w.heap.size mid A n n ra ∧ ra.map rAt = xs) ∧ (OwnRefs w' mid w'.heap.size B n' n' rb ∧ rb.map rAt = ys) ∧ (w.heap.size ≤ mid ∧ mid ≤ w'.heap.size) ∧ Below w.heap.size w w'

/-- The two lists of a change are both small. -/
def SmallChange (n n' : Nat) (xs ys : List At) : Prop := SmallAtoms n xs ∧ SmallAtoms n' ys

set_option maxHeartbeats 1000000 in
theorem szChange_any (A B : Option Addr) (n c n' c' : Nat) (xs ys : List At) (z : Int) (w : World) (h : IsAtoms w 0 w.heap.size A n c xs) (h' : IsAtoms w 0 w.heap.size B n' c' ys) (hz0 : 0 ≤ z) (hz1 : z ≤ 1048576) :
    Calls Tryd.prog 11 #[.agg #[.slice A n c, .slice B n' c'], .int .i64 z] w (SzPost z (SmallChange n n' xs ys) w) := by
  have H := Lib.hid h; have H' := Lib.hid h'; clear h h'
  have hw1 := below1 w (.cells #[.slice A n c, .slice B n' c'] 24)
  have X1 := Lib.hid (Box.new w (.slice A n c) (.slice B n' c') 24)
  go_enter Tryd.func11, Tryd.ntmps11
  go_wp2_with fail
  refine (szAtomS_any A n c xs z _ (H.out.up AtomE.stays hw1) hz0 hz1).mono ?_; rintro e w2 ⟨y, ⟨rfl, ha, hb, hc⟩, hb2⟩
  have HB2 := belowThen hw1 hb2
  obtain ⟨b0, b1, b2⟩ := X1.out.later hb2
  go_wp2_with fail
  all_goals try (go_ret; exact ⟨_, ⟨rfl, by omega, by omega, by omega⟩, HB2⟩)
  have hy0 : 0 ≤ y := by assumption
  have HC := Lib.hid (hc hy0); clear hc
  refine (szAtomS_any B n' c' ys y _ (H'.out.up AtomE.stays HB2) hy0 (by omega)).mono ?_; rintro e w3 ⟨y', ⟨rfl, ha', hb', hc'⟩, hb3⟩
  have HB3 := belowThen HB2 hb3
  go_wp2_with fail
  · go_ret; exact ⟨_, ⟨rfl, by omega, by omega, by omega⟩, HB3⟩
  · go_ret; exact ⟨_, ⟨rfl, by omega, by omega, fun h0 => ⟨HC.out, hc' h0⟩⟩, HB3⟩

set_option maxHeartbeats 2000000 in
theorem toChange_own (A B : Option Addr) (n c n' c' : Nat) (xs ys : List At) (w : World) (h : IsAtoms w 0 w.heap.size A n c xs) (h' : IsAtoms w 0 w.heap.size B n' c' ys) (hn : SmallChange n n' xs ys) :
    Calls Tryd.prog 13 #[.agg #[.slice A n c, .slice B n' c']] w (OwnCPost n n' xs ys w) := by
  have H := Lib.hid h; have H' := Lib.hid h'; clear h h'
  have HN := Lib.hid hn; clear hn
  have hw3 := below3 w (.cells #[.slice A n c, .slice B n' c'] 24) (.cells #[.slice none 0 0, .slice none 0 0] 29) (.cells #[.slice none 0 0, .slice none 0 0] 29)
  go_enter Tryd.func13, Tryd.ntmps13
  go_wp2_with fail
  refine (toAtomS_own A n c xs _ (H.out.up AtomE.stays hw3) HN.out.1).mono ?_; rintro e w1 ⟨A1, ra, rfl, ho1, hm1, hb1⟩
  have HB1 := belowThen hw3 hb1
  have HO1 := Lib.hid ho1; have HM1 := Lib.hid hm1; clear ho1 hm1
  have hl1 : w.heap.size + 1 + 1 + 1 ≤ w1.heap.size := by have := hb1.size; simp only [size_alloc_eq] at this; omega
  have a0 := (((Blk.made w 24 #[.slice A n c, .slice B n' c'] rfl).alloc (.cells #[.slice none 0 0, .slice none 0 0] 29)).alloc (.cells #[.slice none 0 0, .slice none 0 0] 29)).below hb1
  have a1 := ((Blk.made (b := w.heap.size + 1) (w.alloc (.cells #[.slice A n c, .slice B n' c'] 24)) 29 #[.slice none 0 0, .slice none 0 0] (by simp)).alloc (.cells #[.slice none 0 0, .slice none 0 0] 29)).below hb1
  have a2 := (Blk.made (b := w.heap.size + 1 + 1) ((w.alloc (.cells #[.slice A n c, .slice B n' c'] 24)).alloc (.cells #[.slice none 0 0, .slice none 0 0] 29)) 29 #[.slice none 0 0, .slice none 0 0] (by simp)).below hb1
  have c1 : w1.cell? ⟨w.heap.size, 1, none⟩ = some (.slice B n' c') := a0.cell 1
  have c2 : w1.cell? ⟨w.heap.size + 1 + 1, 0, none⟩ = some (.slice none 0 0) := a2.cell 0
  have f2 := a2.frozen 0
  go_wp2_with fail
  have b0 := a0.far (p := ⟨w.heap.size + 1 + 1, 0, none⟩) (by simp only; omega) (.slice A1 n n)
  have b1 := a1.far (p := ⟨w.heap.size + 1 + 1, 0, none⟩) (by simp only; omega) (.slice A1 n n)
  have b2 := a2.set 0 (.slice A1 n n)
  have HB2 := HB1.setCell (p := ⟨w.heap.size + 1 + 1, 0, none⟩) (by simp only; omega) (.slice A1 n n)
  have hlo : w.heap.size + 1 + 1 + 1 = (((w.alloc (.cells #[.slice A n c, .slice B n' c'] 24)).alloc (.cells #[.slice none 0 0, .slice none 0 0] 29)).alloc (.cells #[.slice none 0 0, .slice none 0 0] 29)).heap.size := by simp only [size_alloc_eq]
  have HO2 := Lib.hid (HO1.out.keep (w' := w1.setCell ⟨w.heap.size + 1 + 1, 0, none⟩ (.slice A1 n n)) (lo' := w.heap.size + 1 + 1 + 1) (hi' := w1.heap.size) (fun b h1 h2 => Below.heap_setCell _ _ _ b (by simp only; omega)) (Nat.le_of_eq hlo) (Nat.le_refl _))
  clear HO1 hlo hb1 c1 c2 f2 a0 a1 a2 hw3
  have hs2 : (w1.setCell ⟨w.heap.size + 1 + 1, 0, none⟩ (.slice A1 n n)).heap.size = w1.heap.size := size_setCell _ _ _
  generalize (w1.setCell ⟨w.heap.size + 1 + 1, 0, none⟩ (.slice A1 n n)) = w2 at *
  have hs2' := Lib.hid hs2
  have hs3 : w.heap.size + 1 + 1 + 1 ≤ w2.heap.size := by omega
  clear hs2
  refine (toAtomS_own B n' c' ys _ (H'.out.up AtomE.stays HB2) HN.out.2).mono ?_; rintro e w3 ⟨A3, rb, rfl, ho3, hm3, hb3⟩
  have HO3 := Lib.hid ho3; have HM3 := Lib.hid hm3; clear ho3 hm3
  have HB3 := belowThen HB2 hb3
  have d0 := b0.below hb3
  have d1 := b1.below hb3
  have d2 := b2.below hb3
  have HO2' := Lib.hid (HO2.out.below hb3 (Nat.le_of_eq hs2'.out.symm))
  have hs4 : w.heap.size + 1 + 1 + 1 ≤ w3.heap.size := by have := hb3.size; omega
  have e0 : w3.cell? ⟨w.heap.size + 1 + 1, 0, none⟩ = some (.slice A1 n n) := d2.cell 0
  have e1 : w3.cell? ⟨w.heap.size + 1 + 1, 1, none⟩ = some (.slice none 0 0) := d2.cell 1
  have e2 := d2.frozen 1
  have e3 : w3.cell? ⟨w.heap.size + 1, 0, none⟩ = some (.slice none 0 0) := d1.cell 0
  have e4 : w3.cell? ⟨w.heap.size + 1, 1, none⟩ = some (.slice none 0 0) := d1.cell 1
  have e5 := d1.frozen 0
  have e6 := d1.frozen 1
  clear HO2 b0 b1 b2 d0 d1 d2
  go_wp2
  have hsm := hs2'.out
  have hs5 := hb3.size
  have hk : ∀ b, w.heap.size + 1 + 1 + 1 ≤ b → (((w3.setCell ⟨w.heap.size + 1 + 1, 1, none⟩ (.slice A3 n' n')).setCell ⟨w.heap.size + 1, 0, none⟩ (.slice A1 n n)).setCell ⟨w.heap.size + 1, 1, none⟩ (.slice A3 n' n')).heap[b]? = w3.heap[b]? := fun b hb =>
    ((Below.heap_setCell _ _ _ b (by simp only; omega)).trans (Below.heap_setCell _ _ _ b (by simp only; omega))).trans (Below.heap_setCell _ _ _ b (by simp only; omega))
  refine bodyPost_ret (v := .agg #[.slice A1 n n, .slice A3 n' n']) (by simp [results, Tryd.results13, go_sem, e3, e4]) rfl ⟨A1, A3, ra, rb, w1.heap.size, rfl, ⟨?_, HM1.out⟩, ⟨?_, HM3.out⟩, ⟨by omega, by rw [size_setCell, size_setCell, size_setCell]; omega⟩, ((HB3.setCell (by simp only; omega) _).setCell (by simp only; omega) _).setCell (by simp only; omega) _⟩
  · exact HO2'.out.keep (fun b h1 _ => hk b h1) (by omega) (Nat.le_refl _)
  · exact HO3.out.keep (fun b h1 _ => hk b (by omega)) (by omega) (by rw [size_setCell, size_setCell, size_setCell]; exact Nat.le_refl _)

/-- Are two changes the same? -/
def changeEq (xs ys xs' ys' : List At) : Bool := listEq atomEq xs xs' && listEq atomEq ys ys'

theorem changeEq_refl (xs ys : List At) : changeEq xs ys xs ys = true := by unfold changeEq; rw [listEq_refl atomEq_refl, listEq_refl atomEq_refl]; rfl
theorem changeEq_no1 {xs ys xs' ys' : List At} (h : (!listEq atomEq xs xs') = true) : changeEq xs ys xs' ys' = false := by unfold changeEq; rw [show listEq atomEq xs xs' = false by simpa using h]; rfl
theorem changeEq_on {xs ys xs' ys' : List At} (h : (!listEq atomEq xs xs') = false) : changeEq xs ys xs' ys' = listEq atomEq ys ys' := by unfold changeEq; rw [show listEq atomEq xs xs' = true by simpa using h]; rfl

set_option maxHeartbeats 1000000 in
theorem eqChange_any (A B : Option Addr) (n c n' c' : Nat) (A2 B2 : Option Addr) (m d m' d' : Nat) (xs ys xs' ys' : List At) (w : World) (h1 : IsAtoms w 0 w.heap.size A n c xs) (h2 : IsAtoms w 0 w.heap.size B n' c' ys) (h3 : IsAtoms w 0 w.heap.size A2 m d xs') (h4 : IsAtoms w 0 w.heap.size B2 m' d' ys') :
    Calls Tryd.prog 15 #[.agg #[.slice A n c, .slice B n' c'], .agg #[.slice A2 m d, .slice B2 m' d']] w (BoolPost (changeEq xs ys xs' ys') w) := by
  have H1 := Lib.hid h1; have H2 := Lib.hid h2; have H3 := Lib.hid h3; have H4 := Lib.hid h4
  clear h1 h2 h3 h4
  have hw2 := below2 w (.cells #[.slice A n c, .slice B n' c'] 29) (.cells #[.slice A2 m d, .slice B2 m' d'] 29)
  have X1 := Lib.hid ((Box.new w (.slice A n c) (.slice B n' c') 29).up (.cells #[.slice A2 m d, .slice B2 m' d'] 29))
  have Y1 := Lib.hid (Box.new2 w (.cells #[.slice A n c, .slice B n' c'] 29) (.slice A2 m d) (.slice B2 m' d') 29)
  go_enter Tryd.func15, Tryd.ntmps15
  go_wp2_with fail
  refine (eqAtomS_any A A2 n c m d xs xs' _ (H1.out.up AtomE.stays hw2) (H3.out.up AtomE.stays hw2)).mono ?_; rintro e w1 ⟨rfl, hb1⟩
  have HB1 := belowThen hw2 hb1
  obtain ⟨b0, b1, b2⟩ := X1.out.later hb1
  obtain ⟨d0, d1, d2⟩ := Y1.out.later hb1
  by_cases hx : (!listEq atomEq xs xs') = true
  · have E := Lib.hid (changeEq_no1 (ys := ys) (ys' := ys') hx)
    go_wp2
    go_ret; exact ⟨retB E.out.symm, HB1⟩
  · have hx' : (!listEq atomEq xs xs') = false := by simpa using hx
    clear hx
    have E := Lib.hid (changeEq_on (ys := ys) (ys' := ys') hx')
    go_wp2_with fail
    refine (eqAtomS_any B B2 n' c' m' d' ys ys' _ (H2.out.up AtomE.stays HB1) (H4.out.up AtomE.stays HB1)).mono ?_; rintro e w2 ⟨rfl, hb2⟩
    go_wp2
    all_goals
      go_ret; refine ⟨retB ?_, belowThen HB1 hb2⟩; rw [E.out]; simp_all

end Go.Proofs.YtmaaogoeapfepaaDoor
