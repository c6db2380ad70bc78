/-
  What is read of words as parts, in the model.
-/
import Derived.Test.YtahkkelahocplaaDoorBodyGet
import Derived.Test.YtahkkelahocplaaDoorWordMath
namespace Go.Proofs.YtahkkelahocplaaDoor
open Go.RowKit

/-- Words that are left. -/
theorem IsTexts.rest {w : World} {lo hi n c k : Nat} {p : Addr} {ls : List ByteArray} (h : IsTexts w lo hi (some p) n c ls) (hk : k ≤ n) {q : Option Addr} (hq : q = if c = k then some p else some (p.add k)) : IsTexts w lo hi q (n - k) (c - k) (ls.drop k) := by
  obtain ⟨h1, h2, h3, h4⟩ := h
  refine ⟨by rw [List.length_drop, h1], by omega, by omega, fun h0 => ?_⟩
  obtain ⟨p', hp, hlo, hhi, he⟩ := h4 (by omega)
  injection hp with hp
  subst hp
  rw [if_neg (by omega)] at hq
  refine ⟨_, hq, by rw [block_add]; exact hlo, by rw [block_add]; exact hhi, fun i x hx => ?_⟩
  rw [List.getElem?_drop] at hx
  have := he (k + i) x hx
  rw [add_add, Nat.mul_one]
  rwa [Nat.mul_one] at this

def dataL (ws : List ByteArray) : List (List UInt8) := ws.map fun x => x.data.toList

/-- As far as word k words are read: these parts. -/
def WordsAt (ws : List ByteArray) (k : Nat) (xs : List Pt) : Prop := wordsP (dataL ws) = (wordsP ((dataL ws).drop k)).map (xs ++ ·)

theorem WordsAt.start (ws : List ByteArray) : WordsAt ws 0 [] := by
  unfold WordsAt
  rw [List.drop_zero]
  cases wordsP (dataL ws) <;> rfl

theorem WordsAt.all {ws : List ByteArray} {k : Nat} {xs : List Pt} (h : WordsAt ws k xs) (hk : ws.length ≤ k) : wordsP (dataL ws) = some xs := by
  unfold WordsAt at h
  rw [List.drop_eq_nil_of_le (by unfold dataL; rw [List.length_map]; exact hk), wordsP] at h
  rw [h]; simp

theorem WordsAt.more {ws : List ByteArray} {k j : Nat} {xs : List Pt} {q : Pt} (h : WordsAt ws k xs) (hw : wordsP ((dataL ws).drop k) = (wordsP ((dataL ws).drop j)).map (q :: ·)) : WordsAt ws j (xs ++ [q]) := by
  unfold WordsAt at h ⊢
  rw [h, hw, Option.map_map]
  congr 1
  funext y
  simp

theorem WordsAt.fails {ws : List ByteArray} {k : Nat} {xs : List Pt} (h : WordsAt ws k xs) (hw : wordsP ((dataL ws).drop k) = none) : wordsP (dataL ws) = none := by
  unfold WordsAt at h
  rw [h, hw]; rfl

theorem data_drop {ws : List ByteArray} {k : Nat} {x : ByteArray} (h : ws[k]? = some x) : (dataL ws).drop k = x.data.toList :: (dataL ws).drop (k + 1) := by
  have hk := (List.getElem?_eq_some_iff.1 h).1
  have hk2 : k < (dataL ws).length := by unfold dataL; rw [List.length_map]; exact hk
  rw [List.drop_eq_getElem_cons hk2]
  congr 1
  have : (dataL ws)[k]? = some x.data.toList := by unfold dataL; rw [List.getElem?_map, h]; rfl
  exact (List.getElem?_eq_some_iff.1 this).2

/-- A word that must not be, with another one behind it. -/
theorem words_not {ws : List ByteArray} {k : Nat} {x y : ByteArray} (h : ws[k]? = some x) (h2 : ws[k + 1]? = some y) (hx : x.data.toList = notW) :
    (∀ a, getB y.data.toList = some a → wordsP ((dataL ws).drop k) = (wordsP ((dataL ws).drop (k + 1 + 1 + 1))).map ((true, a) :: ·)) ∧ (getB y.data.toList = none → wordsP ((dataL ws).drop k) = none) := by
  refine ⟨fun a ha => ?_, fun ha => ?_⟩
  · rw [data_drop h, data_drop h2, hx, wordsP_not, List.drop_drop, ha]
  · rw [data_drop h, data_drop h2, hx, wordsP_not, ha]

/-- Any other word. -/
theorem words_plain {ws : List ByteArray} {k : Nat} {x : ByteArray} (h : ws[k]? = some x) (hx : x.data.toList ≠ notW ∨ ws.length ≤ k + 1) :
    (∀ a, getB x.data.toList = some a → wordsP ((dataL ws).drop k) = (wordsP ((dataL ws).drop (k + 1 + 1))).map ((false, a) :: ·)) ∧ (getB x.data.toList = none → wordsP ((dataL ws).drop k) = none) := by
  rw [data_drop h]
  by_cases h2 : k + 1 < ws.length
  · have hg : ws[k + 1]? = some ws[k + 1] := List.getElem?_eq_getElem h2
    have hne : x.data.toList ≠ notW := by
      rcases hx with hx | hx
      · exact hx
      · omega
    refine ⟨fun a ha => ?_, fun ha => ?_⟩
    · rw [data_drop hg, wordsP_plain hne, ha]
    · rw [data_drop hg, wordsP_plain hne, ha]
  · have hn : (dataL ws).length ≤ k + 1 := by unfold dataL; rw [List.length_map]; omega
    refine ⟨fun a ha => ?_, fun ha => ?_⟩
    · rw [List.drop_eq_nil_of_le hn, List.drop_eq_nil_of_le (by omega), wordsP, wordsP, ha]; rfl
    · rw [List.drop_eq_nil_of_le hn, wordsP, ha]; rfl

theorem notW_eq {s : ByteArray} : (s.toList == [110, 111, 116]) = decide (s.data.toList = notW) := by
  rw [toList_data]
  unfold notW
  by_cases h : s.data.toList = [110, 111, 116]
  · rw [h]; rfl
  · rw [decide_eq_false h, beq_eq_false_iff_ne]; exact h

/-- One more part that was read, where it was put together in a box of its own. -/
theorem readP_box {w wr w2 V w5 : World} {g g' cap' : Nat} {v : Value} {ps : List Pf} {nb : Bool} {r : Rf} {cs : Array Value} (ho : OwnIn wr w.heap.size wr.heap.size (ps.map Prod.snd)) (hb : Below w.heap.size w wr) (hb2 : Below wr.heap.size wr w2)
    (hH : HeadApart w2 wr.heap.size w2.heap.size r) (hg : Blk w2 g 86 cs) (hk : ∀ b, b < w2.heap.size → b ≠ g → V.heap[b]? = w2.heap[b]?) (hs : w2.heap.size ≤ V.heap.size) (hV : Below w.heap.size w V)
    (hrow : V.ownsRow w.heap.size 86 3 v ps.length (pcells ps))
    (hown : w5.ownsRow w.heap.size 86 3 (.slice (some ⟨g', 0, none⟩) (ps.length + 1) cap') (ps.length + 1) (pcells ps ++ [.bool nb, .string r.1, .slice r.2.1 r.2.2.1 r.2.2.2.1])) (hgrow : V.grownBy w5 v.ownBlock) :
    ∃ ps' : List Pf, ps'.length = ps.length + 1 ∧ ps'.map pAt = ps.map pAt ++ [(nb, rAt r)] ∧ w5.ownsRow w.heap.size 86 3 (.slice (some ⟨g', 0, none⟩) (ps.length + 1) cap') (ps.length + 1) (pcells ps') ∧ OwnIn w5 w.heap.size w5.heap.size (ps'.map Prod.snd) ∧ Below w.heap.size w w5 := by
  refine ⟨ps ++ [(nb, r)], by rw [List.length_append]; rfl, by rw [List.map_append]; rfl, by rw [pcells_snoc]; exact hown, ?_, ?_⟩
  · have h1 := ho.snoc (w' := w2) (hi' := w2.heap.size) (r := r) (fun b _ h2 => hb2.block b h2) hb2.size hH.1 hb.size hH.2.1 hH.2.2
    have hne := h1.notRow (g := g) (k := cs.size) (f := fun i => cs[i]?.getD undef) ⟨cs, hg, rfl, fun i hi => by simp [hi]⟩
    have h2 : OwnIn V w.heap.size w2.heap.size (ps.map Prod.snd ++ [r]) := ⟨fun q hq => termsFar hk (h1.1 q hq) (hne q hq), h1.2⟩
    have h3 := h2.appendedP hrow hgrow (Nat.le_trans hs hgrow.size)
    rw [List.map_append]; exact h3
  · exact hV.grown hgrow hV.size (fun j ej => (hrow.lt j ej).1)

set_option maxRecDepth 100000 in
set_option maxHeartbeats 4000000 in
theorem l1Words_any (B : Option Addr) (n c : Nat) (ws : List ByteArray) (w : World) (h : IsTexts w 0 w.heap.size B n c ws) (hn : n ≤ 1048577) (hz : ∀ x ∈ ws, x.size ≤ 1048576) :
    Calls Tryd.prog 68 #[.slice B n c] w (BodyPost (wordsP (dataL ws)) w) := by
  obtain ⟨i0, hi, hzr, hsz, hby⟩ := info_parts Tryd.infoPart
  have HLEN := Lib.hid h.1
  have H := Lib.hid h; have HZ := Lib.hid hz
  clear h hz
  go_enter Tryd.func68, Tryd.ntmps68
  go_wp2_with fail
  go_loopw [4, 5, 8] (fun o i _ wr => ∃ (k : Nat) (Av : Option Addr) (cv : Nat) (ps : List Pf), k ≤ n + 1 ∧ i = .int .i64 (k : Int) ∧ o = .slice Av ps.length cv ∧ ps.length ≤ k ∧ wr.ownsRow w.heap.size 86 3 (.slice Av ps.length cv) ps.length (pcells ps) ∧ WordsAt ws k (ps.map pAt) ∧ OwnIn wr w.heap.size wr.heap.size (ps.map Prod.snd) ∧ Below w.heap.size w wr) (fun _ i _ _ => n + 1 - (intOf i).toNat)
  case atStart => exact ⟨0, some ⟨w.heap.size, 0, none⟩, 0, [], Nat.zero_le _, rfl, rfl, Nat.le_refl _, ⟨rfl, .inr ⟨w.heap.size, 0, #[], rfl, Nat.le_refl _, heap_alloc_new w _, Nat.le_refl _, by unfold maxLen; omega, rfl, rfl⟩⟩, WordsAt.start ws, OwnIn.nil, below1 _ _⟩
  case round =>
    obtain ⟨k, Av, cv, ps, hk, rfl, rfl, hpk, hrow, hwd, ho, hb⟩ := hrel
    have HR := Lib.hid hrow; have HW := Lib.hid hwd; have HO := Lib.hid ho; have HB := Lib.hid hb
    clear hrow hwd ho hb
    have hzw := HB.out.size
    by_cases hlt : k < n
    · have hltI : (k : Int) < (n : Int) := by omega
      obtain ⟨p, x, hA, hlo, hhi, hg, hE⟩ := (H.out.below TextE.stays HB.out (Nat.le_refl _)).at_ hlt
      subst hA
      have c1 : wr.cell? (p.add k) = some (.string x) := by have := hE; unfold TextE at this; rwa [Nat.mul_one] at this
      have hxz := HZ.out x (List.mem_of_getElem? hg)
      have HG := Lib.hid hg; clear hg hE
      have BP := Blk.new wr 86 #[.bool false, .string ⟨#[]⟩, .slice none 0 0]
      have hbp := below1 wr (.cells #[.bool false, .string ⟨#[]⟩, .slice none 0 0] 86)
      have BP0 := Lib.hid BP; have HBP := Lib.hid hbp
      clear BP hbp
      by_cases hx : x.data.toList = notW ∧ k + 1 < n
      · obtain ⟨hx1, hx2⟩ := hx
        have hxe : (x.toList == [110, 111, 116]) = true := by rw [notW_eq]; exact decide_eq_true hx1
        obtain ⟨p', y, hA', _, _, hg2, hE2⟩ := (H.out.below TextE.stays HB.out (Nat.le_refl _)).at_ hx2
        injection hA' with hA'
        subst hA'
        have c2 : wr.cell? ⟨p.block, p.off + (k + 1), none⟩ = some (.string y) := by have := hE2; unfold TextE at this; rw [Nat.mul_one] at this; unfold Addr.add at this; simpa using this
        have hyz := HZ.out y (List.mem_of_getElem? hg2)
        have HG2 := Lib.hid hg2; clear hg2 hE2
        have hx2I : (k : Int) + 1 < (n : Int) := by omega
        have hwk : IntKind.i64.wrap ((k : Int) + 1) = ((k + 1 : Nat) : Int) := by rw [IntKind.wrap_i64]; omega
        have hk2 : ((k + 1 : Nat) : Int) < (n : Int) := by omega
        have cu1 := cellUp c1; have cu2 := cellUp c2
        go_wp2_with fail
        refine (specAtomGet_any y _ hyz).mono ?_; rintro e w2 ⟨r, rfl, hH, hr, hb2⟩
        unfold rfVal
        have HH := Lib.hid (hH.keep (lo' := wr.heap.size) (hi' := w2.heap.size) (fun _ _ _ => rfl) (by simp) (Nat.le_refl _))
        have BX := Lib.hid (Blk.below (Blk.new wr 86 #[.bool true, .string ⟨#[]⟩, .slice none 0 0]) hb2)
        have hb2' : Below wr.heap.size wr w2 := belowThen (below1 wr _) hb2
        have hz2 : wr.heap.size + 1 ≤ w2.heap.size := by have := hb2.size; simp at this; exact this
        have hne : wr.heap.size ≠ w2.heap.size := by omega
        have hbx := below1 w2 (.cells #[.string r.1, .slice r.2.1 r.2.2.1 r.2.2.2.1] 24)
        have BX3 := Lib.hid (BX.out.alloc (.cells #[.string r.1, .slice r.2.1 r.2.2.1 r.2.2.2.1] 24))
        have HRW := Lib.hid (ownsRow_up HR.out (belowThen hb2' hbx))
        have hlo2 : ∀ g, (Value.slice Av ps.length cv).ownBlock = some g → g < wr.heap.size := fun g hg => (HR.out.lt g hg).2
        have HR4 : Hid ((((w2.alloc (.cells #[.string r.1, .slice r.2.1 r.2.2.1 r.2.2.2.1] 24)).setCell ⟨wr.heap.size, 1, none⟩ (.string r.1)).setCell ⟨wr.heap.size, 2, none⟩ (.slice r.2.1 r.2.2.1 r.2.2.2.1)).ownsRow w.heap.size 86 3 (.slice Av ps.length cv) ps.length (pcells ps)) := Lib.hid (row_away (row_away HRW.out (fun e => absurd (hlo2 _ e.symm) (Nat.lt_irrefl _)) _) (fun e => absurd (hlo2 _ e.symm) (Nat.lt_irrefl _)) _)
        have y0 := BX3.out.cell 0; have y1 := BX3.out.cell 1; have y2 := BX3.out.cell 2
        have g1 := BX3.out.frozen 1; have g2 := BX3.out.frozen 2
        have HV4 := Lib.hid (((belowThen HB.out (belowThen hb2' hbx)).setCell (p := ⟨wr.heap.size, 1, none⟩) hzw (.string r.1)).setCell (p := ⟨wr.heap.size, 2, none⟩) hzw (.slice r.2.1 r.2.2.1 r.2.2.2.1))
        clear hH cu1 cu2
        cases hgb : getB y.data.toList with
        | none =>
          have EF := Lib.hid (HW.out.fails ((words_not HG.out HG2.out hx1).2 hgb))
          obtain ⟨A3, c3, e3, hO⟩ := OwnParts.of_row HRW.out rfl (Nat.le_refl _) (HO.out.keep (fun b _ hb => (belowThen hb2' hbx).block b hb) (Nat.le_refl _) (belowThen hb2' hbx).size) (Nat.le_refl _)
          injection e3 with e3 _ e4
          subst e3; subst e4
          have HOF := Lib.hid hO
          clear hgb hO
          rw [show (none : Option At).isSome = false from rfl]
          go_wp2_with fail
          go_ret2
          exact ⟨Av, ps.length, cv, ps, by rw [EF.out]; rfl, HOF.out, fun xs h => absurd (EF.out.symm.trans h) (by simp), belowThen HB.out (belowThen hb2' hbx)⟩
        | some a =>
          have hra : rAt r = a := by rw [hr, hgb]; rfl
          have hWM := Lib.hid (HW.out.more ((words_not HG.out HG2.out hx1).1 a hgb))
          clear hgb hr
          rw [show (some a : Option At).isSome = true from rfl]
          go_wp2_with (at_builtin; refine wpList_append_own _ rfl _ _ 36 rfl w.heap.size 86 i0 _ 3 48 Tryd.underlying36 hi hzr hsz hby rfl (by decide) _ _ _ rfl (HR4.out.alloc _) ⟨w2.heap.size + 1, 0, none⟩ 1 1 [.bool true, .string r.1, .slice r.2.1 r.2.2.1 r.2.2.2.1] rfl rfl (by have := three_new (((w2.alloc (.cells #[.string r.1, .slice r.2.1 r.2.2.1 r.2.2.2.1] 24)).setCell ⟨wr.heap.size, 1, none⟩ (.string r.1)).setCell ⟨wr.heap.size, 2, none⟩ (.slice r.2.1 r.2.2.1 r.2.2.2.1)) (.bool true) (.string r.1) (.slice r.2.1 r.2.2.1 r.2.2.2.1) 86; simpa using this) (by simp [Value.oneCell']) (by unfold maxLen; omega) (by omega) (by simp; omega) ?_; intro v' w5 hown' hgrow' _; obtain ⟨g', cap', rfl⟩ := ownsRow_succ hown'; have hown := Lib.hid hown'; have hgrow := Lib.hid hgrow'; clear hown' hgrow')
          obtain ⟨ps', r1, r2, r3, r4, r5⟩ := readP_box HO.out HB.out hb2' HH.out BX.out (fun b h1 h2 => (Below.heap_alloc _ _ b (by simp; omega)).trans ((Below.heap_setCell _ _ _ b (by simpa using h2)).trans ((Below.heap_setCell _ _ _ b (by simpa using h2)).trans (hbx.block b h1)))) (by simp; omega) (HV4.out.alloc HV4.out.size _) (HR4.out.alloc _) hown.out hgrow.out
          have R3 := Lib.hid r3; have R4 := Lib.hid r4
          have RA := Lib.hid (show WordsAt ws (k + 1 + 1 + 1) (ps'.map pAt) by rw [r2, hra]; exact hWM.out)
          clear r2 r3 r4 hown hgrow HRW HR4
          have hr1 := r1
          rw [← r1] at R3
          go_roundw
          case rel => exact ⟨k + 1 + 1 + 1, _, cap', ps', by omega, by go_num, by rw [r1], by omega, R3.out, RA.out, R4.out, r5⟩
          case measure => simp [intOf]; omega
      · have hx' : x.data.toList ≠ notW ∨ ws.length ≤ k + 1 := by
          have hL := HLEN.out
          by_cases h1 : x.data.toList = notW
          · exact .inr (by have : ¬ k + 1 < n := fun h => hx ⟨h1, h⟩; omega)
          · exact .inl h1
        have cu1 := cellUp c1
        have hwk : IntKind.i64.wrap ((k : Int) + 1) = ((k + 1 : Nat) : Int) := by rw [IntKind.wrap_i64]; omega
        have hxe : (x.toList == [110, 111, 116]) = false ∨ ((x.toList == [110, 111, 116]) = true ∧ ¬ ((k : Int) + 1 < (n : Int))) := by
          rw [notW_eq]
          by_cases h1 : x.data.toList = notW
          · exact .inr ⟨decide_eq_true h1, fun h => hx ⟨h1, by omega⟩⟩
          · exact .inl (decide_eq_false h1)
        clear hx
        rcases hxe with hxe | ⟨hxe, hkn⟩
        all_goals
          go_wp2_with fail
          refine (specAtomGet_any x _ hxz).mono ?_; rintro e w2 ⟨r, rfl, hH, hr, hb2⟩
          unfold rfVal
          have HH := Lib.hid (hH.keep (lo' := wr.heap.size) (hi' := w2.heap.size) (fun _ _ _ => rfl) (by simp) (Nat.le_refl _))
          have BX := Lib.hid (Blk.below (Blk.new wr 86 #[.bool false, .string ⟨#[]⟩, .slice none 0 0]) hb2)
          have hb2' : Below wr.heap.size wr w2 := belowThen (below1 wr _) hb2
          have hz2 : wr.heap.size + 1 ≤ w2.heap.size := by have := hb2.size; simp at this; exact this
          have hne : wr.heap.size ≠ w2.heap.size := by omega
          have hbx := below1 w2 (.cells #[.string r.1, .slice r.2.1 r.2.2.1 r.2.2.2.1] 24)
          have BX3 := Lib.hid (BX.out.alloc (.cells #[.string r.1, .slice r.2.1 r.2.2.1 r.2.2.2.1] 24))
          have HRW := Lib.hid (ownsRow_up HR.out (belowThen hb2' hbx))
          have hlo2 : ∀ g, (Value.slice Av ps.length cv).ownBlock = some g → g < wr.heap.size := fun g hg => (HR.out.lt g hg).2
          have HR4 : Hid ((((w2.alloc (.cells #[.string r.1, .slice r.2.1 r.2.2.1 r.2.2.2.1] 24)).setCell ⟨wr.heap.size, 1, none⟩ (.string r.1)).setCell ⟨wr.heap.size, 2, none⟩ (.slice r.2.1 r.2.2.1 r.2.2.2.1)).ownsRow w.heap.size 86 3 (.slice Av ps.length cv) ps.length (pcells ps)) := Lib.hid (row_away (row_away HRW.out (fun e => absurd (hlo2 _ e.symm) (Nat.lt_irrefl _)) _) (fun e => absurd (hlo2 _ e.symm) (Nat.lt_irrefl _)) _)
          have y0 := BX3.out.cell 0; have y1 := BX3.out.cell 1; have y2 := BX3.out.cell 2
          have g1 := BX3.out.frozen 1; have g2 := BX3.out.frozen 2
          have HV4 := Lib.hid (((belowThen HB.out (belowThen hb2' hbx)).setCell (p := ⟨wr.heap.size, 1, none⟩) hzw (.string r.1)).setCell (p := ⟨wr.heap.size, 2, none⟩) hzw (.slice r.2.1 r.2.2.1 r.2.2.2.1))
          clear hH cu1
          cases hgb : getB x.data.toList with
          | none =>
            have EF := Lib.hid (HW.out.fails ((words_plain HG.out hx').2 hgb))
            obtain ⟨A3, c3, e3, hO⟩ := OwnParts.of_row HRW.out rfl (Nat.le_refl _) (HO.out.keep (fun b _ hb => (belowThen hb2' hbx).block b hb) (Nat.le_refl _) (belowThen hb2' hbx).size) (Nat.le_refl _)
            injection e3 with e3 _ e4
            subst e3; subst e4
            have HOF := Lib.hid hO
            clear hgb hO
            rw [show (none : Option At).isSome = false from rfl]
            go_wp2_with fail
            go_ret2
            exact ⟨Av, ps.length, cv, ps, by rw [EF.out]; rfl, HOF.out, fun xs h => absurd (EF.out.symm.trans h) (by simp), belowThen HB.out (belowThen hb2' hbx)⟩
          | some a =>
            have hra : rAt r = a := by rw [hr, hgb]; rfl
            have hWM := Lib.hid (HW.out.more ((words_plain HG.out hx').1 a hgb))
            clear hgb hr
            rw [show (some a : Option At).isSome = true from rfl]
            go_wp2_with (at_builtin; refine wpList_append_own _ rfl _ _ 36 rfl w.heap.size 86 i0 _ 3 48 Tryd.underlying36 hi hzr hsz hby rfl (by decide) _ _ _ rfl (HR4.out.alloc _) ⟨w2.heap.size + 1, 0, none⟩ 1 1 [.bool false, .string r.1, .slice r.2.1 r.2.2.1 r.2.2.2.1] rfl rfl (by have := three_new (((w2.alloc (.cells #[.string r.1, .slice r.2.1 r.2.2.1 r.2.2.2.1] 24)).setCell ⟨wr.heap.size, 1, none⟩ (.string r.1)).setCell ⟨wr.heap.size, 2, none⟩ (.slice r.2.1 r.2.2.1 r.2.2.2.1)) (.bool false) (.string r.1) (.slice r.2.1 r.2.2.1 r.2.2.2.1) 86; simpa using this) (by simp [Value.oneCell']) (by unfold maxLen; omega) (by omega) (by simp; omega) ?_; intro v' w5 hown' hgrow' _; obtain ⟨g', cap', rfl⟩ := ownsRow_succ hown'; have hown := Lib.hid hown'; have hgrow := Lib.hid hgrow'; clear hown' hgrow')
            obtain ⟨ps', r1, r2, r3, r4, r5⟩ := readP_box HO.out HB.out hb2' HH.out BX.out (fun b h1 h2 => (Below.heap_alloc _ _ b (by simp; omega)).trans ((Below.heap_setCell _ _ _ b (by simpa using h2)).trans ((Below.heap_setCell _ _ _ b (by simpa using h2)).trans (hbx.block b h1)))) (by simp; omega) (HV4.out.alloc HV4.out.size _) (HR4.out.alloc _) hown.out hgrow.out
            have R3 := Lib.hid r3; have R4 := Lib.hid r4
            have RA := Lib.hid (show WordsAt ws (k + 1 + 1) (ps'.map pAt) by rw [r2, hra]; exact hWM.out)
            clear r2 r3 r4 hown hgrow HRW HR4
            have hr1 := r1
            rw [← r1] at R3
            go_roundw
            case rel => exact ⟨k + 1 + 1, _, cap', ps', by omega, by go_num, by rw [r1], by omega, R3.out, RA.out, R4.out, r5⟩
            case measure => simp [intOf]; omega
    · have hltI : ¬ (k : Int) < (n : Int) := by omega
      obtain ⟨A3, c3, e3, hO⟩ := OwnParts.of_row HR.out rfl (Nat.le_refl _) HO.out (Nat.le_refl _)
      injection e3 with e3 _ e4
      subst e3; subst e4
      have EF := Lib.hid (HW.out.all (by have := HLEN.out; omega))
      have HOF := Lib.hid hO
      clear hO
      go_wp2_with fail
      go_ret2
      exact ⟨Av, ps.length, cv, ps, by rw [EF.out]; rfl, HOF.out, fun xs h => Option.some.inj (EF.out.symm.trans h), HB.out⟩

end Go.Proofs.YtahkkelahocplaaDoor
