/-
  What is read of a text as parts, in the program.
-/
import Derived.Test.YtahkkelahocplaaDoorAtomGet
import Derived.Test.YtahkkelahocplaaDoorReadMath
namespace Go.Proofs.YtahkkelahocplaaDoor
open Go.RowKit

theorem allS_more {α β : Type} {f : α → Option β} : ∀ {l : List α} {k : Nat} {x : α} {y : β} {ys : List β}, l[k]? = some x → allS f (l.take k) = some ys → f x = some y → allS f (l.take (k + 1)) = some (ys ++ [y])
  | [], k, x, y, ys, h, _, _ => by simp at h
  | a :: l, 0, x, y, ys, h, h1, h2 => by
    simp at h; subst h
    simp [allS] at h1
    subst h1
    simp [allS, h2]
  | a :: l, k + 1, x, y, ys, h, h1, h2 => by
    rw [List.take_succ_cons] at h1 ⊢
    unfold allS at h1 ⊢
    cases ha : f a with
    | none => rw [ha] at h1; cases h1
    | some b =>
      rw [ha] at h1
      obtain ⟨zs, hz, rfl⟩ := Option.map_eq_some_iff.1 h1
      rw [allS_more (l := l) (k := k) (by simpa using h) hz h2]; rfl

theorem allS_fails {α β : Type} {f : α → Option β} : ∀ {l : List α} {k : Nat} {x : α}, l[k]? = some x → f x = none → allS f l = none
  | [], k, x, h, _ => by simp at h
  | a :: l, 0, x, h, h2 => by
    simp at h; subst h
    unfold allS; rw [h2]
  | a :: l, k + 1, x, h, h2 => by
    have ih := allS_fails (l := l) (k := k) (by simpa using h) h2
    unfold allS
    cases f a with
    | none => rfl
    | some b => show Option.map _ (allS f l) = none; rw [ih]; rfl

theorem splitK_size {sep : List UInt8} : ∀ {k : Nat} {l x : List UInt8}, x ∈ Lib.splitK sep 0 k l → x.length ≤ l.length
  | 0, l, x, h => by
    rw [List.mem_singleton.1 h]; exact Nat.le_refl _
  | k + 1, l, x, h => by
    rw [Lib.splitK] at h
    split at h
    · rw [List.mem_singleton.1 h]; exact Nat.le_refl _
    · rcases List.mem_cons.1 h with rfl | h
      · rw [List.length_take]; omega
      · have := splitK_size h
        rw [List.length_drop] at this; omega

/-- The pieces, as texts. -/
def piecesB (s : ByteArray) : List ByteArray := Lib.splitB ⟨#[32, 97, 110, 100, 32]⟩ 0 (min 5 (s.size + 1) - 1) s

theorem piecesB_data (s : ByteArray) : (piecesB s).map (fun x => x.data.toList) = pieces s.data.toList := by
  have h := Lib.splitB_data ⟨#[32, 97, 110, 100, 32]⟩ 0 (min 5 (s.size + 1) - 1) s
  have e : s.data.toList.length = s.size := by simp
  unfold piecesB pieces
  rw [e]
  exact h

theorem piecesB_len (s : ByteArray) : (piecesB s).length = (pieces s.data.toList).length := by rw [← piecesB_data, List.length_map]

theorem piecesB_size {s x : ByteArray} (h : x ∈ piecesB s) : x.size ≤ s.size := by
  have h1 : x.data.toList ∈ pieces s.data.toList := by rw [← piecesB_data]; exact List.mem_map_of_mem h
  have h2 := splitK_size h1
  simpa using h2

theorem pieces_cell_at {w : World} {ls : List ByteArray} {N : Nat} {t : TypeId} {k : Nat} {x : ByteArray} (h : ls[k]? = some x) : (w.alloc (.cells (Lib.cellsOf ls N) t)).cell? ⟨w.heap.size, k, none⟩ = some (.string x) := by
  have X := Blk.new w t (Lib.cellsOf ls N)
  rw [X.cell k]
  have hl := (List.getElem?_eq_some_iff.1 h).1
  unfold Lib.cellsOf
  rw [List.getElem?_toArray, List.getElem?_append_left (by rw [List.length_map]; exact hl), List.getElem?_map, h]; rfl

/-- Parts were told, in memory of the call's own; or that there are none. -/
def BodyPost (o : Option (List Pt)) (w : World) (e : Ending) (w' : World) : Prop :=
  ∃ A n c ps, e = .returned (.tuple #[.slice A n c, .bool o.isSome]) ∧ OwnParts w' w.heap.size w'.heap.size A n c ps ∧ (∀ xs, o = some xs → ps.map pAt = xs) ∧ Below w.heap.size w w'

theorem noParts {w : World} {lo hi : Nat} : OwnParts w lo hi none 0 0 [] := ⟨rfl, Nat.le_refl _, Nat.zero_le _, fun h0 => absurd h0 (Nat.lt_irrefl _), OwnIn.nil⟩

theorem trimPrefix_size (r p : List UInt8) : (Lib.trimPrefix r p).length ≤ r.length := by
  unfold Lib.trimPrefix
  split
  · rw [List.length_drop]; omega
  · exact Nat.le_refl _

/-- One more part that was read. -/
theorem readP_more {w1 wr w2 W3 w5 : World} {k g' cap' : Nat} {v : Value} {ps : List Pf} {nb : Bool} {r : Rf} (hl : ps.length = k) (ho : OwnIn wr w1.heap.size wr.heap.size (ps.map Prod.snd)) (hb : Below w1.heap.size w1 wr) (hb2 : Below wr.heap.size wr w2)
    (hH : HeadApart w2 wr.heap.size w2.heap.size r) (h12 : Below w2.heap.size w2 W3) (hrow : W3.ownsRow w1.heap.size 86 3 v k (pcells ps))
    (hown : w5.ownsRow w1.heap.size 86 3 (.slice (some ⟨g', 0, none⟩) (k + 1) cap') (k + 1) (pcells ps ++ [.bool nb, .string r.1, .slice r.2.1 r.2.2.1 r.2.2.2.1])) (hgrow : W3.grownBy w5 v.ownBlock) :
    ∃ ps' : List Pf, ps'.length = k + 1 ∧ ps'.map pAt = ps.map pAt ++ [(nb, rAt r)] ∧ w5.ownsRow w1.heap.size 86 3 (.slice (some ⟨g', 0, none⟩) (k + 1) cap') (k + 1) (pcells ps') ∧ OwnIn w5 w1.heap.size w5.heap.size (ps'.map Prod.snd) ∧ Below w1.heap.size w1 w5 := by
  have hm : ps.map pAt = (ps.map pAt ++ [(nb, rAt r)]).take k := by
    rw [List.take_append_of_le_length (by rw [List.length_map]; omega), List.take_of_length_le (by rw [List.length_map]; omega)]
  have hq : (ps.map pAt ++ [(nb, rAt r)])[k]? = some (nb, rAt r) := by
    rw [List.getElem?_append_right (by rw [List.length_map]; omega), List.length_map, hl, Nat.sub_self]; rfl
  obtain ⟨ps', a, b, c, d, e⟩ := copyP_more hl hm hq ho hb.size (Nat.le_refl _) hb2 (belowThen hb hb2) hH.1 hH.2.1 hH.2.2 h12 hrow hown hgrow
  refine ⟨ps', a, ?_, c, d, e⟩
  rw [b, List.take_of_length_le (by rw [List.length_append, List.length_map, hl]; exact Nat.le_refl _)]

set_option maxRecDepth 100000 in
set_option maxHeartbeats 4000000 in
theorem bodyGet_any (s : ByteArray) (w : World) (hs : s.size ≤ 1048576) (hm : MaxIn w) :
    Calls Tryd.prog 69 #[.string s] w (BodyPost (readBody s.data.toList) w) := by
  obtain ⟨i0, hi, hz, hsz, hby⟩ := info_parts Tryd.infoPart
  obtain ⟨L, hL⟩ : ∃ L, piecesB s = L := ⟨_, rfl⟩
  have hLz : ∀ x ∈ L, x.size ≤ 1048576 := fun x hx => Nat.le_trans (piecesB_size (by rw [hL]; exact hx)) hs
  have hLd : L.map (fun x => x.data.toList) = pieces s.data.toList := by rw [← hL]; exact piecesB_data s
  have hLl : L.length = (pieces s.data.toList).length := by rw [← hLd, List.length_map]
  have HL := Lib.hid hL; have HLZ := Lib.hid hLz; have HLD := Lib.hid hLd
  obtain ⟨mx, hmx⟩ := hm
  clear hL hLz hLd
  go_enter Tryd.func69, Tryd.ntmps69
  go_wp2_with fail
  refine (Tryd.strings_SplitN s ⟨#[32, 97, 110, 100, 32]⟩ 5 mx w (by omega) hmx (by decide) (by decide) (by decide)).mono ?_; rintro e w1 ⟨rfl, hw1⟩
  rw [show Lib.splitB ⟨#[32, 97, 110, 100, 32]⟩ 0 (min 5 (s.size + 1) - 1) s = L from HL.out] at hw1 ⊢
  have hb1 : Below w.heap.size w w1 := by rw [hw1]; exact below1 _ _
  have hm1 : MaxIn w1 := MaxIn.below ⟨mx, hmx⟩ hb1
  have HP := Lib.hid (fun (k : Nat) (x : ByteArray) (h : L[k]? = some x) => (show w1.cell? ⟨w.heap.size, k, none⟩ = some (.string x) by rw [hw1]; exact pieces_cell_at h))
  have hz1 : w1.heap.size = w.heap.size + 1 := by rw [hw1]; simp
  clear hw1 hmx
  by_cases h4 : 4 < L.length
  · have h4I : (4 : Int) < (L.length : Int) := by omega
    have E := Lib.hid (show readBody s.data.toList = none by unfold readBody; rw [if_pos (by omega)])
    go_wp2_with fail
    go_ret2
    exact ⟨none, 0, 0, [], by rw [E.out]; rfl, noParts, fun xs h => absurd (E.out.symm.trans h) (by simp), hb1⟩
  · have h4I : ¬ (4 : Int) < (L.length : Int) := by omega
    have E := Lib.hid (show readBody s.data.toList = allS readP (L.map (fun x => x.data.toList)) by unfold readBody; rw [if_neg (by omega), HLD.out])
    go_wp2_with fail
    go_loopw [5, 7, 8, 9, 11, 19] (fun o _ _ _ _ i wr => ∃ (k : Nat) (Av : Option Addr) (cv : Nat) (ps : List Pf), k ≤ L.length ∧ i = .int .i64 (k : Int) ∧ o = .slice Av k cv ∧ wr.ownsRow w1.heap.size 86 3 (.slice Av k cv) k (pcells ps) ∧ ps.length = k ∧ allS readP ((L.map (fun x => x.data.toList)).take k) = some (ps.map pAt) ∧ OwnIn wr w1.heap.size wr.heap.size (ps.map Prod.snd) ∧ Below w1.heap.size w1 wr) (fun _ _ _ _ _ i _ => L.length - (intOf i).toNat)
    case atStart => exact ⟨0, none, 0, [], Nat.zero_le _, rfl, rfl, ⟨rfl, .inl ⟨rfl, rfl⟩⟩, rfl, rfl, OwnIn.nil, Below.refl _ _⟩
    case round =>
      obtain ⟨k, Av, cv, ps, hk, rfl, rfl, hrow, hl, hall, ho, hb⟩ := hrel
      have HR := Lib.hid hrow; have HLN := Lib.hid hl; have HA := Lib.hid hall; have HO := Lib.hid ho
      clear hrow hl hall ho
      have hzr := hb.size
      by_cases hlt : k < L.length
      · have hltI : (k : Int) < (L.length : Int) := by omega
        obtain ⟨x, hg⟩ : ∃ x, L[k]? = some x := ⟨L[k], List.getElem?_eq_getElem hlt⟩
        have c5 : wr.cell? ⟨w.heap.size, k, none⟩ = some (.string x) := (hb.cell (p := ⟨w.heap.size, k, none⟩) (by show w.heap.size < w1.heap.size; omega)).trans (HP.out k x hg)
        have hxz : x.size ≤ 1048576 := HLZ.out x (List.mem_of_getElem? hg)
        have hxl : x.data.toList.length = x.size := by simp
        have HG := Lib.hid (show (L.map (fun x => x.data.toList))[k]? = some x.data.toList by rw [List.getElem?_map, hg]; rfl)
        clear hg
        have hmr : MaxIn wr := hm1.below hb
        obtain ⟨t, ht⟩ : ∃ t, Lib.trimPrefix x.data.toList notL = t := ⟨_, rfl⟩
        obtain ⟨nb, hnb⟩ : ∃ nb, Lib.hasPrefix x.data.toList notL = nb := ⟨_, rfl⟩
        have htl : t.length ≤ x.data.toList.length := by rw [← ht]; exact trimPrefix_size _ _
        have ERP := Lib.hid (show readP x.data.toList = (getB t).map fun a => (nb, a) by unfold readP; rw [ht, hnb])
        have HT := Lib.hid ht; have HNB := Lib.hid hnb
        clear ht hnb
        go_wp2_with fail
        refine (Tryd.strings_CutPrefix x ⟨#[110, 111, 116, 32]⟩ wr).mono ?_; rintro e w' ⟨rfl, hw'⟩
        rw [hw']
        clear hw'
        rw [show Lib.trimPrefix x.data.toList (⟨#[110, 111, 116, 32]⟩ : ByteArray).data.toList = t from HT.out, show Lib.hasPrefix x.data.toList (⟨#[110, 111, 116, 32]⟩ : ByteArray).data.toList = nb from HNB.out]
        go_wp2_with fail
        refine (implAtomGet_any ⟨t.toArray⟩ wr (by rw [mk_size]; omega) hmr).mono ?_; rintro e w2 ⟨r, rfl, hH, hr, hb2⟩
        rw [mk_data] at hr ⊢
        unfold rfVal
        have HH := Lib.hid hH
        have hb2s := hb2.size
        have BX := Lib.hid (Blk.new w2 24 #[.string r.1, .slice r.2.1 r.2.2.1 r.2.2.2.1])
        have hbx := below1 w2 (.cells #[.string r.1, .slice r.2.1 r.2.2.1 r.2.2.2.1] 24)
        have HRW := Lib.hid (ownsRow_up HR.out (belowThen hb2 hbx))
        have x0 := BX.out.cell 0; have x1 := BX.out.cell 1
        clear hH
        cases hgb : getB t with
        | none =>
          have EF := Lib.hid (show readBody s.data.toList = none by rw [E.out]; exact allS_fails HG.out (by rw [ERP.out, hgb]; rfl))
          clear hgb
          rw [show (none : Option At).isSome = false from rfl]
          go_wp2_with fail
          go_ret2
          exact ⟨none, 0, 0, [], by rw [EF.out]; rfl, noParts, fun xs h => absurd (EF.out.symm.trans h) (by simp), hb1.trans ((hb.trans ((belowThen hb2 hbx).mono hzr)).mono hb1.size)⟩
        | some a =>
          have hra : rAt r = a := by rw [hr, hgb]; rfl
          have hAM := Lib.hid (allS_more HG.out HA.out (show readP x.data.toList = some (nb, rAt r) by rw [ERP.out, hgb, hra]; rfl))
          clear hgb hr
          rw [show (some a : Option At).isSome = true from rfl]
          go_wp2_with (at_builtin; refine wpList_append_own _ rfl _ _ 36 rfl w1.heap.size 86 i0 _ 3 48 Tryd.underlying36 hi hz hsz hby rfl (by decide) _ _ _ rfl (HRW.out.alloc _) ⟨w2.heap.size + 1, 0, none⟩ 1 1 [.bool nb, .string r.1, .slice r.2.1 r.2.2.1 r.2.2.2.1] rfl rfl (by have := three_new (w2.alloc (.cells #[.string r.1, .slice r.2.1 r.2.2.1 r.2.2.2.1] 24)) (.bool nb) (.string r.1) (.slice r.2.1 r.2.2.1 r.2.2.2.1) 86; simpa using this) (by simp [Value.oneCell']) (by unfold maxLen; omega) (by omega) (by simp; omega) ?_; intro v' w5 hown' hgrow' _; obtain ⟨g', cap', rfl⟩ := ownsRow_succ hown'; have hown := Lib.hid hown'; have hgrow := Lib.hid hgrow'; clear hown' hgrow')
          obtain ⟨ps', r1, r2, r3, r4, r5⟩ := readP_more HLN.out HO.out hb hb2 HH.out (hbx.alloc (by simp) _) (HRW.out.alloc _) hown.out hgrow.out
          have R3 := Lib.hid r3; have R4 := Lib.hid r4
          have RA := Lib.hid (show allS readP ((L.map (fun x => x.data.toList)).take (k + 1)) = some (ps'.map pAt) by rw [r2]; exact hAM.out)
          clear r2 r3 r4 hown hgrow HRW
          go_roundw
          case rel => exact ⟨k + 1, _, _, ps', by omega, by go_num, rfl, R3.out, r1, RA.out, R4.out, r5⟩
          case measure => simp [intOf]; omega
      · have hkL : k = L.length := by omega
        have hltI : ¬ (k : Int) < (L.length : Int) := by omega
        obtain ⟨A3, c3, e3, hO⟩ := OwnParts.of_row HR.out HLN.out.symm (Nat.le_refl _) HO.out (Nat.le_refl _)
        injection e3 with e3 _ e4
        subst e3; subst e4
        have EF := Lib.hid (show readBody s.data.toList = some (ps.map pAt) by
          have h := HA.out
          rw [List.take_of_length_le (by rw [List.length_map]; omega)] at h
          rw [E.out, h])
        have HOF := Lib.hid hO
        clear hkL hO
        go_wp2_with fail
        go_ret2
        exact ⟨Av, k, cv, ps, by rw [EF.out]; rfl, HOF.out.keep (fun _ _ _ => rfl) hb1.size (Nat.le_refl _), fun xs h => Option.some.inj (EF.out.symm.trans h), hb1.trans (hb.mono hb1.size)⟩

end Go.Proofs.YtahkkelahocplaaDoor
