/-
  Texts of one claim, put together.
-/
import Derived.Test.YtogonjkklioaaaaGreatDoorLg16
import Derived.Test.YtogonjkklioaaaaGreatDoorShelfG
namespace Go.Proofs.YtogonjkklioaaaaGreatDoor
open Go.RowKit

/-- The library's bound on what it looks for is laid. -/
def MaxIn (w : World) : Prop := ∃ m : Int, w.cell? ⟨1, 0, none⟩ = some (.int .i64 m)

theorem MaxIn.below {w w' : World} (h : MaxIn w) (hb : Below w.heap.size w w') : MaxIn w' := by
  obtain ⟨m, hm⟩ := h
  exact ⟨m, (hb.cell (World.block_lt_of_cell? _ _ hm)).trans hm⟩

theorem byteOne (c : UInt8) : (⟨#[c]⟩ : ByteArray).data.toList = [c] := rfl

/-- strings.Split at a byte. -/
theorem split_any (s : ByteArray) (c : UInt8) (w : World) (hs : s.size ≤ 1048576) (hm : MaxIn w) :
    Calls Tryz.prog 126 #[.string s, .string ⟨#[c]⟩] w fun e w' => e = .returned (.slice (some ⟨w.heap.size, 0, none⟩) (cutsB c s).length (cutsB c s).length) ∧ w' = w.alloc (.cells ((cutsB c s).map Value.string).toArray 9) := by
  obtain ⟨m, hm⟩ := hm
  have h := Tryz.strings_Split s ⟨#[c]⟩ m w (by omega) hm (Nat.le_refl 1)
  have e : Lib.splitB ⟨#[c]⟩ 0 (Lib.countB s ⟨#[c]⟩) s = cutsB c s := by
    have h1 := Lib.splitB_data ⟨#[c]⟩ 0 (Lib.countB s ⟨#[c]⟩) s
    have h2 : Lib.splitK [c] 0 (Lib.countB s ⟨#[c]⟩) s.data.toList = cuts c s.data.toList := split_cuts c s.data.toList
    rw [byteOne, h2, ← cutsB_data] at h1
    have inj : ∀ xs ys : List ByteArray, xs.map (fun x => x.data.toList) = ys.map (fun x => x.data.toList) → xs = ys := by
      intro xs
      induction xs with
      | nil => intro ys h; cases ys with
        | nil => rfl
        | cons y r => cases h
      | cons x xs ih => intro ys h; cases ys with
        | nil => cases h
        | cons y r =>
          simp only [List.map_cons, List.cons.injEq] at h
          have e1 : x = y := by
            obtain ⟨⟨x⟩⟩ := x; obtain ⟨⟨y⟩⟩ := y
            have := h.1
            simp at this
            subst this; rfl
          rw [e1, ih r h.2]
    exact inj _ _ h1
  have e2 : (cutsB c s).length = Lib.countB s ⟨#[c]⟩ + 1 := by rw [← e]; exact Lib.splitB_all ⟨#[c]⟩ (Nat.le_refl 1) 0 _ s rfl
  rw [e] at h
  rw [e2]
  exact h

/-- The cells of the pieces. -/
theorem pieces_at (w : World) (ls : List ByteArray) (t : TypeId) (k : Nat) (s : ByteArray) (h : ls[k]? = some s) : (w.alloc (.cells (ls.map Value.string).toArray t)).cell? ⟨w.heap.size, k, none⟩ = some (.string s) := by
  have X := Blk.new w t (ls.map Value.string).toArray
  rw [X.cell k]
  simp [h]

theorem rowLow {w : World} {b b' sz n : Nat} {e : TypeId} {v : Value} {xs : List Value} (h : w.ownsRow b e sz v n xs) (hb : b' ≤ b) : w.ownsRow b' e sz v n xs := by
  refine ⟨h.1, ?_⟩
  rcases h.2 with h0 | ⟨g, cap, cur, h1, h2, h3⟩
  · exact .inl h0
  · exact .inr ⟨g, cap, cur, h1, Nat.le_trans hb h2, h3⟩

/-- Terms were told, in a row of the call's own. -/
def TermsGetPost (l : List UInt8) (w : World) (e : Ending) (w' : World) : Prop :=
  ∃ A n c, e = .returned (.slice A n c) ∧ w'.ownsRow w.heap.size 110 2 (.slice A n c) n (tcs (termsOf l)) ∧ (termsOf l).length = n ∧ Below w.heap.size w w'

set_option maxRecDepth 100000 in
set_option maxHeartbeats 4000000 in
theorem termsGet_any (s : ByteArray) (w : World) (hs : s.size ≤ 1048576) (hm : MaxIn w) :
    Calls Tryz.prog 98 #[.string s] w (TermsGetPost s.data.toList w) := by
  obtain ⟨i0, hi, hz, hsz, hby⟩ := info_parts Tryz.infoTerm
  by_cases h0 : s.size = 0
  · have hie : s.toList.isEmpty = true := empty_of h0
    have e0 : termsOf s.data.toList = [] := by unfold termsOf; rw [if_pos (nil_of h0)]
    have E := Lib.hid e0; clear e0
    go_enter Tryz.func98, Tryz.ntmps98
    go_wp2_with fail
    go_ret
    exact ⟨none, 0, 0, rfl, ⟨by rw [E.out]; rfl, .inl ⟨rfl, rfl⟩⟩, by rw [E.out]; rfl, Below.refl _ _⟩
  · have hie : s.toList.isEmpty = false := nonempty_of h0
    obtain ⟨ws, hws⟩ : ∃ x, cutsB 44 s = x := ⟨_, rfl⟩
    have hwl : ws.length ≤ s.size + 1 := by rw [← hws]; exact cutsB_len 44 s
    have hwz : ∀ x ∈ ws, x.size ≤ 1048576 := fun x hx => Nat.le_trans (cutsB_size (c := 44) (s := s) (by rw [hws]; exact hx)) hs
    have E := Lib.hid (show termsOf s.data.toList = wordTs ws by unfold termsOf; rw [if_neg (fun e => h0 (size_nil e)), ← hws, wordTs_cuts])
    have HWS := Lib.hid hws; have HWZ := Lib.hid hwz
    clear hws hwz
    go_enter Tryz.func98, Tryz.ntmps98
    go_wp2_with fail
    refine (split_any s 44 w hs hm).mono ?_; rintro e w1 ⟨rfl, hw1⟩
    rw [HWS.out] at hw1 ⊢
    have hb1 : Below w.heap.size w w1 := by rw [hw1]; exact below1 _ _
    have HP := Lib.hid (fun (k : Nat) (x : ByteArray) (h : ws[k]? = some x) => (show w1.cell? ⟨w.heap.size, k, none⟩ = some (.string x) by rw [hw1]; exact pieces_at w ws _ k x h))
    have hz1 : w1.heap.size = w.heap.size + 1 := by rw [hw1]; simp
    clear hw1
    go_wp2_with fail
    go_loopw [3, 5, 11] (fun o _ i wr => ∃ (k : Nat) (Av : Option Addr) (cv : Nat), k ≤ ws.length ∧ i = .int .i64 (k : Int) ∧ o = .slice Av k cv ∧ wr.ownsRow w1.heap.size 110 2 (.slice Av k cv) k (tcs (wordTs (ws.take k))) ∧ Below w1.heap.size w1 wr) (fun _ _ i _ => ws.length - (intOf i).toNat)
    case atStart => exact ⟨0, none, 0, Nat.zero_le _, rfl, rfl, ⟨rfl, .inl ⟨rfl, rfl⟩⟩, Below.refl _ _⟩
    case round =>
      obtain ⟨k, Av, cv, hk, rfl, rfl, hrow, hb⟩ := hrel
      have HR := Lib.hid hrow; clear hrow
      have hzr := hb.size
      by_cases hlt : k < ws.length
      · have hltI : (k : Int) < (ws.length : Int) := by omega
        obtain ⟨s5, hg⟩ : ∃ x, ws[k]? = some x := ⟨ws[k], List.getElem?_eq_getElem hlt⟩
        have c5 : wr.cell? ⟨w.heap.size, k, none⟩ = some (.string s5) := (hb.cell (p := ⟨w.heap.size, k, none⟩) (by show w.heap.size < w1.heap.size; omega)).trans (HP.out k s5 hg)
        have hs5 : s5.size ≤ 1048576 := HWZ.out s5 (List.mem_of_getElem? hg)
        have HG := Lib.hid hg; clear hg
        by_cases h5 : s5.size = 0
        · have hi5 : s5.toList.isEmpty = true := empty_of h5
          have E5 := Lib.hid (arg_none h5)
          go_wp2_with (first
              | (go_at_call 127; refine (capital_any _ _).mono ?_; rintro e w' ⟨rfl, rfl⟩)
              | (at_builtin; refine wpList_append_own _ rfl _ _ 49 rfl w1.heap.size 110 i0 _ 2 24 Tryz.underlying49 hi hz hsz hby rfl (by decide) _ _ _ rfl (HR.out.alloc _) ⟨wr.heap.size, 0, none⟩ 1 1 [.bool false, .string s5] rfl rfl (two_new _ _ _ _) (by simp [Value.oneCell']) (by unfold maxLen; omega) (by omega) (by simp; omega) ?_; intro v' w5 hown' hgrow' _; obtain ⟨g', cap', rfl⟩ := ownsRow_succ hown'; have hown := Lib.hid hown'; have hgrow := Lib.hid hgrow'; clear hown' hgrow'))
          have HR5 : Hid (w5.ownsRow w1.heap.size 110 2 (.slice (some ⟨g', 0, none⟩) (k + 1) cap') (k + 1) (tcs (wordTs (ws.take (k + 1))))) := Lib.hid (by rw [wordTs_step HG.out, E5.out]; exact hown.out)
          have hb5 := Lib.hid (cutRow hb HR.out hgrow.out)
          clear hown hgrow HR hb
          go_roundw
          case rel => exact ⟨k + 1, _, _, by omega, by go_num, rfl, HR5.out, hb5.out⟩
          case measure => simp [intOf]; omega
        · have hi5 : s5.toList.isEmpty = false := nonempty_of h5
          have h5p : 0 < s5.size := by omega
          have h5i : (0 : Int) < (s5.size : Int) := by omega
          have E5 := Lib.hid (arg_first h5p)
          go_wp2_with (first
              | (go_at_call 127; refine (capital_any _ _).mono ?_; rintro e w' ⟨rfl, rfl⟩)
              | (at_builtin; refine wpList_append_own _ rfl _ _ 49 rfl w1.heap.size 110 i0 _ 2 24 Tryz.underlying49 hi hz hsz hby rfl (by decide) _ _ _ rfl (HR.out.alloc _) ⟨wr.heap.size, 0, none⟩ 1 1 [.bool (capital s5[0]), .string s5] rfl rfl (two_new _ _ _ _) (by simp [Value.oneCell']) (by unfold maxLen; omega) (by omega) (by simp; omega) ?_; intro v' w5 hown' hgrow' _; obtain ⟨g', cap', rfl⟩ := ownsRow_succ hown'; have hown := Lib.hid hown'; have hgrow := Lib.hid hgrow'; clear hown' hgrow'))
          have HR5 : Hid (w5.ownsRow w1.heap.size 110 2 (.slice (some ⟨g', 0, none⟩) (k + 1) cap') (k + 1) (tcs (wordTs (ws.take (k + 1))))) := Lib.hid (by rw [wordTs_step HG.out, E5.out]; exact hown.out)
          have hb5 := Lib.hid (cutRow hb HR.out hgrow.out)
          clear hown hgrow HR hb
          go_roundw
          case rel => exact ⟨k + 1, _, _, by omega, by go_num, rfl, HR5.out, hb5.out⟩
          case measure => simp [intOf]; omega
      · have hkw : k = ws.length := by omega
        have hltI : ¬ (k : Int) < (ws.length : Int) := by omega
        have hr : wr.ownsRow w.heap.size 110 2 (.slice Av k cv) k (tcs (termsOf s.data.toList)) := by
          have h := HR.out
          rw [List.take_of_length_le (by omega)] at h
          rw [E.out]
          exact rowLow h (by omega)
        have HF := Lib.hid hr
        have HL := Lib.hid (show (termsOf s.data.toList).length = k by rw [E.out]; unfold wordTs; rw [List.length_map]; omega)
        clear hr hkw
        go_wp2_with fail
        go_ret
        exact ⟨Av, k, cv, rfl, HF.out, HL.out, hb1.trans (hb.mono hb1.size)⟩

theorem cut_sizes {l x r : List UInt8} {f : Bool} {c : UInt8} (h : Lib.cut l [c] = (x, r, f)) : x.length ≤ l.length ∧ r.length ≤ l.length := by
  rcases first_of c l with hn | ⟨y, z, rfl, hy⟩
  · rw [cut_none hn] at h
    injection h with h1 h2
    injection h2 with h2
    subst h1; subst h2
    exact ⟨Nat.le_refl _, Nat.zero_le _⟩
  · rw [cut_first hy] at h
    injection h with h1 h2
    injection h2 with h2
    subst h1; subst h2
    constructor <;> (rw [List.length_append, List.length_cons]; omega)

theorem trim_size (r : List UInt8) (c : UInt8) : (Lib.trimSuffix r [c]).length ≤ r.length := by
  unfold Lib.trimSuffix
  split
  · rw [List.length_take]; omega
  · exact Nat.le_refl _

theorem mk_data (l : List UInt8) : (⟨l.toArray⟩ : ByteArray).data.toList = l := by simp
theorem mk_size (l : List UInt8) : (⟨l.toArray⟩ : ByteArray).size = l.length := by simp [ByteArray.size]

theorem termsOf_size {l : List UInt8} {t : Tm} (h : t ∈ termsOf l) : t.2.size ≤ l.length := by
  unfold termsOf at h
  split at h
  · cases h
  · obtain ⟨x, hx, rfl⟩ := List.mem_map.1 h
    have := cuts_size hx
    unfold argOf
    rw [mk_size]; exact this

set_option maxRecDepth 100000 in
set_option maxHeartbeats 4000000 in
theorem implAtomGet_any (s : ByteArray) (w : World) (hs : s.size ≤ 1048576) (hm : MaxIn w) :
    Calls Tryz.prog 61 #[.string s] w (GetPost s.data.toList w) := by
  have hsl : s.data.toList.length = s.size := by simp
  have hb0 := below1 w (.cells #[.string ⟨#[]⟩, .slice none 0 0] 51)
  have X0 := Lib.hid (Blk.new w 51 #[.string ⟨#[]⟩, .slice none 0 0])
  obtain ⟨W0, hW0⟩ : ∃ W0, w.alloc (.cells #[.string ⟨#[]⟩, .slice none 0 0] 51) = W0 := ⟨_, rfl⟩
  rw [hW0] at hb0 X0
  have hz0 : W0.heap.size = w.heap.size + 1 := by rw [← hW0]; simp
  have HB0 := Lib.hid hb0
  have hm0 := hm.below hb0
  clear hb0
  by_cases hlen : s.size ≤ 1500
  · have hlenI : ¬ (1500 < (s.size : Int)) := by omega
    obtain ⟨x, r, f, hc⟩ : ∃ x r f, Lib.cut s.data.toList [40] = (x, r, f) := ⟨_, _, _, rfl⟩
    obtain ⟨hxs, hrs⟩ := cut_sizes hc
    obtain ⟨y, hy⟩ : ∃ y, Lib.trimSuffix r [41] = y := ⟨_, rfl⟩
    obtain ⟨g, hg⟩ : ∃ g, Lib.hasSuffix r [41] = g := ⟨_, rfl⟩
    have hys : y.length ≤ r.length := by rw [← hy]; exact trim_size r 41
    have HA := Lib.hid (show readA s.data.toList = (⟨x.toArray⟩, termsOf y) by unfold readA; rw [hc]; show (_, termsOf (Lib.trimSuffix r [41])) = _; rw [hy])
    have HO := Lib.hid (show readOk s.data.toList = (f && (g && atomB (⟨x.toArray⟩, termsOf y))) by unfold readOk; rw [HA.out, hc]; show (f && (Lib.hasSuffix r [41] && _)) = _; rw [hg])
    obtain ⟨nm, hnm⟩ : ∃ nm : ByteArray, (⟨x.toArray⟩ : ByteArray) = nm := ⟨_, rfl⟩
    have hnz : nm.size ≤ 1500 := by rw [← hnm, mk_size]; omega
    have hnz' : nm.size ≤ maxLen := by unfold maxLen; omega
    rw [hnm] at HA HO
    have HN := Lib.hid hnm; have HC := Lib.hid hc; have HY := Lib.hid hy; have HG := Lib.hid hg
    clear hnm hc hy hg
    go_enter Tryz.func61, Tryz.ntmps61
    go_wp2_with fail
    obtain ⟨mx, hmx⟩ := hm0
    refine (Tryz.strings_Cut s ⟨#[40]⟩ mx W0 (by omega) hmx).mono ?_; rintro e w1 ⟨rfl, n1, hw1⟩
    rw [byteOne, HC.out]
    show _
    have hb1 : Below W0.heap.size W0 w1 := by rw [hw1]; exact ⟨rfl, rfl, rfl, Nat.le_refl _, fun _ _ => rfl⟩
    have hm1 : MaxIn w1 := MaxIn.below ⟨mx, hmx⟩ hb1
    have X1 := Lib.hid (X0.out.below hb1); have HB1 := Lib.hid (belowThen HB0.out hb1)
    clear hw1 hmx
    have hz1 := hb1.size
    clear hb1
    go_wp2_with fail
    refine (Tryz.strings_CutSuffix ⟨r.toArray⟩ ⟨#[41]⟩ w1 (by rw [mk_size]; omega)).mono ?_; rintro e w' ⟨rfl, hw'⟩
    rw [hw']
    clear hw'
    rw [byteOne, mk_data, HY.out, HG.out]
    go_wp2_with fail
    refine (termsGet_any ⟨y.toArray⟩ w1 (by rw [mk_size]; omega) hm1).mono ?_; rintro e w2 ⟨A, n, c, rfl, hrow, hl, hb2⟩
    rw [mk_data] at hrow hl
    have HR := Lib.hid hrow; have HL := Lib.hid hl
    have X2 := Lib.hid (X1.out.below hb2); have HB2 := Lib.hid (belowThen HB1.out hb2)
    have hz2 := hb2.size
    clear hb2 hrow hl
    rw [HN.out]
    have hYA := below1 w2 (.cells #[.string nm, .slice A n c] 51)
    have Y3 := Lib.hid (Blk.new w2 51 #[.string nm, .slice A n c])
    have X3 := Lib.hid (X2.out.below hYA); have HB3 := Lib.hid (belowThen HB2.out hYA)
    have HR3 := Lib.hid (ownsRow_up HR.out hYA)
    clear hYA
    have hwl := X2.out.lt
    have r0 := X2.out.cell 0; have r1 := X2.out.cell 1
    have f0 := X2.out.frozen 0; have f1 := X2.out.frozen 1
    have hne : w.heap.size ≠ w2.heap.size := by omega
    cases f
    · have E := Lib.hid (getB_no (l := s.data.toList) (by rw [HO.out]; rfl))
      go_wp2_with fail
      have Z := ((X2.out.set 0 (.string ⟨#[]⟩)).set 1 (.slice none 0 0)).alloc (.cells #[.string nm, .slice A n c] 51)
      have z0 := Z.cell 0; have z1 := Z.cell 1
      simp at z0 z1
      refine bodyPost_ret (v := .tuple #[rfVal noRf, .bool false]) (by simp [results, Tryz.results61, go_sem, z0, z1, rfVal, noRf]) rfl ⟨noRf, by rw [E.out]; rfl, noRf_apart, by rw [E.out]; rfl, ((HB2.out.setCell (by simp) _).setCell (by simp) _).alloc (by simp; omega) _⟩
    · cases g
      · have E := Lib.hid (getB_no (l := s.data.toList) (by rw [HO.out]; rfl))
        go_wp2_with fail
        have Z := ((X2.out.set 0 (.string ⟨#[]⟩)).set 1 (.slice none 0 0)).alloc (.cells #[.string nm, .slice A n c] 51)
        have z0 := Z.cell 0; have z1 := Z.cell 1
        simp at z0 z1
        refine bodyPost_ret (v := .tuple #[rfVal noRf, .bool false]) (by simp [results, Tryz.results61, go_sem, z0, z1, rfVal, noRf]) rfl ⟨noRf, by rw [E.out]; rfl, noRf_apart, by rw [E.out]; rfl, ((HB2.out.setCell (by simp) _).setCell (by simp) _).alloc (by simp; omega) _⟩
      · obtain ⟨A9, c9, e9, hH⟩ := head_row (s := nm) HR3.out HL.out (fun t ht => Nat.le_trans (termsOf_size ht) (by unfold maxLen; omega)) hnz'
        injection e9 with e9 _ e10
        subst e9; subst e10
        have HH := Lib.hid hH
        clear hH
        go_wp2_with fail
        refine (implAtomOk_any nm A n c (termsOf y) _ hnz' (HH.out.2.1.keep (fun _ _ _ => rfl) (Nat.zero_le _) (Nat.le_refl _))).mono ?_; rintro e w4 ⟨rfl, hb4⟩
        have X4 := Lib.hid (X3.out.below hb4); have Y4 := Lib.hid (Y3.out.below hb4); have HB4 := Lib.hid (belowThen HB3.out hb4)
        have HH4 := Lib.hid (HH.out.keep (w' := w4) (lo' := w1.heap.size) (hi' := w4.heap.size) (fun b _ h2 => hb4.block b h2) (Nat.le_refl _) hb4.size)
        clear hb4 r0 r1 f0 f1
        have r0 := X4.out.cell 0; have r1 := X4.out.cell 1
        have f0 := X4.out.frozen 0; have f1 := X4.out.frozen 1
        have a0 := Y4.out.cell 0; have a1 := Y4.out.cell 1
        have x4l := X4.out.lt
        cases hb : atomB (nm, termsOf y)
        · have E := Lib.hid (getB_no (l := s.data.toList) (by rw [HO.out, hb]; rfl))
          clear hb
          go_wp2_with fail
          refine bodyPost_ret (v := .tuple #[rfVal noRf, .bool false]) (by simp [results, Tryz.results61, go_sem, r0, r1, rfVal, noRf]) rfl ⟨noRf, by rw [E.out]; rfl, noRf_apart, by rw [E.out]; rfl, (HB4.out.setCell (by simp) _).setCell (by simp) _⟩
        · have E := Lib.hid (getB_yes (l := s.data.toList) (by omega) (by rw [HO.out, hb]; rfl))
          have EA := Lib.hid HA.out
          clear hb
          go_wp2_with fail
          have Z := (X4.out.set 0 (.string nm)).set 1 (.slice A n c)
          have z0 := Z.cell 0; have z1 := Z.cell 1
          refine bodyPost_ret (v := .tuple #[rfVal (nm, A, n, c, termsOf y), .bool true]) (by simp [results, Tryz.results61, go_sem, r0, r1, rfVal]) rfl ⟨(nm, A, n, c, termsOf y), by rw [E.out]; rfl, ?_, by rw [E.out, EA.out]; rfl, (HB4.out.setCell (by simp) _).setCell (by simp) _⟩
          exact HH4.out.keep (fun b h1 h2 => (Below.heap_setCell _ _ _ _ (by simp; omega)).trans (Below.heap_setCell _ _ _ _ (by simp; omega))) (by omega) (by simp)
  · have hlenI : 1500 < (s.size : Int) := by omega
    have E := Lib.hid (getB_long (l := s.data.toList) (by omega))
    go_enter Tryz.func61, Tryz.ntmps61
    have r0 := X0.out.cell 0; have r1 := X0.out.cell 1
    have f0 := X0.out.frozen 0; have f1 := X0.out.frozen 1
    have hxl := X0.out.lt
    go_wp2_with fail
    refine bodyPost_ret (v := .tuple #[rfVal noRf, .bool false]) (by simp [results, Tryz.results61, go_sem, r0, r1, rfVal, noRf]) rfl ⟨noRf, by rw [E.out]; rfl, noRf_apart, by rw [E.out]; rfl, (HB0.out.setCell (by simp) _).setCell (by simp) _⟩

end Go.Proofs.YtogonjkklioaaaaGreatDoor
