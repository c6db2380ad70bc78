/-
  Texts of one claim, put together.
-/
import Derived.Test.YtcigljngiemdeaaGreatEa13
import Derived.Test.YtcigljngiemdeaaGreatEa11
import Derived.StillTailTactics
namespace Go.Proofs.YtcigljngiemdeaaGreat
open Go.RowKit

/-- A block in which no variable has a word. -/
def noWords : Array Value := #[.string ⟨#[]⟩, .string ⟨#[]⟩, .string ⟨#[]⟩, .string ⟨#[]⟩, .string ⟨#[]⟩, .string ⟨#[]⟩, .string ⟨#[]⟩, .string ⟨#[]⟩, .string ⟨#[]⟩, .string ⟨#[]⟩, .string ⟨#[]⟩, .string ⟨#[]⟩, .string ⟨#[]⟩, .string ⟨#[]⟩, .string ⟨#[]⟩, .string ⟨#[]⟩, .string ⟨#[]⟩, .string ⟨#[]⟩, .string ⟨#[]⟩, .string ⟨#[]⟩, .string ⟨#[]⟩, .string ⟨#[]⟩, .string ⟨#[]⟩, .string ⟨#[]⟩, .int .i64 0]

theorem blk_noWords {W : World} {g : Nat} {t : TypeId} (h : Blk W g t noWords) : BdIn W g [] := by
  refine ⟨by simp, fun j q hq => by simp at hq, fun j q hq => by simp at hq, ?_, fun j hj => ⟨h.frozen j, ?_⟩⟩
  · rw [h.cell 24]; rfl
  · rw [h.cell j]
    exact ⟨_, Array.getElem?_eq_getElem (show j < (noWords).size by show j < 25; exact hj)⟩

theorem fill_const {ts : List Tm} {b : Bd} (h : ∀ t ∈ ts, t.1 = false) : ts.map (fillT b) = ts := by
  conv => rhs; rw [← List.map_id ts]
  refine List.map_congr_left fun t ht => ?_
  have := h t ht
  unfold fillT wordT
  rw [this]
  exact Prod.ext this.symm rfl

set_option maxHeartbeats 4000000 in
theorem implFactOf0_any (nm : ByteArray) (A : Option Addr) (n c : Nat) (ts : List Tm) (w : World) (hT : IsTerms w 0 w.heap.size A n c ts) (h3 : n ≤ 3) (hw : ∀ t ∈ ts, t.1 = false) :
    Calls Tryz.prog 93 #[.agg #[.string nm, .slice A n c]] w fun e w' => e = .returned (factV (nm, ts)) ∧ Below w.heap.size w w' := by
  have HT := Lib.hid hT; have HW := Lib.hid hw; clear hT hw
  have X0 := Lib.hid (Box.new w (.string nm) (.slice A n c) 49)
  have hw0 := below1 w (.cells #[.string nm, .slice A n c] 49)
  obtain ⟨b0, b1, b2⟩ := X0.out
  go_enter Tryz.func93, Tryz.ntmps93
  go_wp2_with fail
  obtain ⟨w2, hq2⟩ : ∃ w2, (w.alloc (.cells #[.string nm, .slice A n c] 49)).alloc (.cells #[.string ⟨#[]⟩, .int .i64 0, .string ⟨#[]⟩, .string ⟨#[]⟩, .string ⟨#[]⟩] 143) = w2 := ⟨_, rfl⟩
  have hz2 : w2.heap.size = w.heap.size + 2 := by rw [← hq2]; simp
  have hb2 : Below w.heap.size w w2 := by rw [← hq2]; exact belowThen hw0 (below1 _ _)
  have xr := Blk.made (b := w.heap.size + 1) (w.alloc (.cells #[.string nm, .slice A n c] 49)) 143 #[.string ⟨#[]⟩, .int .i64 0, .string ⟨#[]⟩, .string ⟨#[]⟩, .string ⟨#[]⟩] (by simp)
  rw [hq2] at xr ⊢
  have hbd := blk_noWords (Blk.made (b := w.heap.size + 1 + 1) w2 86 noWords hz2.symm)
  have hb3 := belowThen hb2 (below1 w2 (.cells noWords 86))
  have xr3 := xr.alloc (.cells noWords 86)
  refine (implFactOf_any (w.heap.size + 1 + 1) [] nm A n c ts _ hbd (by simp; omega) (HT.out.up hb3) h3).mono ?_; rintro e w4 ⟨he, hb4⟩
  have hwh : wholeB [] (nm, ts) = true := by
    rw [whole_known]
    refine List.all_eq_true.2 fun t ht => ?_
    unfold knownB; rw [HW.out t ht]; rfl
  rw [hwh, if_pos rfl, show fillA (nm, ts) [] = (nm, ts) from Prod.ext rfl (fill_const HW.out)] at he
  subst he
  have xr4 := xr3.below hb4
  have hgr := hb3.trans (hb4.mono hb3.size)
  have HV : factV (nm, ts) = .agg #[.string nm, .int .i64 ts.length, .string (wordAt ts 0), .string (wordAt ts 1), .string (wordAt ts 2)] := rfl
  rw [HV]
  obtain ⟨s0, hs0⟩ : ∃ s0, wordAt ts 0 = s0 := ⟨_, rfl⟩
  obtain ⟨s1, hs1⟩ : ∃ s1, wordAt ts 1 = s1 := ⟨_, rfl⟩
  obtain ⟨s2, hs2⟩ : ∃ s2, wordAt ts 2 = s2 := ⟨_, rfl⟩
  rw [hs0, hs1, hs2]
  have y0 := xr4.cell 0; have y1 := xr4.cell 1; have y2 := xr4.cell 2; have y3 := xr4.cell 3; have y4 := xr4.cell 4
  have f0 := xr4.frozen
  simp at y0 y1 y2 y3 y4
  have h14 : w.heap.size + 1 < w4.heap.size := xr4.lt
  go_wp2_with fail
  have xr5 := (((((xr4.set 0 (.string nm)).set 1 (.int .i64 ts.length)).set 2 (.string s0)).set 3 (.string s1)).set 4 (.string s2)).alloc (.cells #[.string nm, .int .i64 ts.length, .string s0, .string s1, .string s2] 143)
  have v0 := xr5.cell 0; have v1 := xr5.cell 1; have v2 := xr5.cell 2; have v3 := xr5.cell 3; have v4 := xr5.cell 4
  simp at v0 v1 v2 v3 v4
  have hgr5 := belowThen (((((hgr.setCell (p := ⟨w.heap.size + 1, 0, none⟩) (Nat.le_succ _) (.string nm)).setCell (p := ⟨w.heap.size + 1, 1, none⟩) (Nat.le_succ _) (.int .i64 ts.length)).setCell (p := ⟨w.heap.size + 1, 2, none⟩) (Nat.le_succ _) (.string s0)).setCell (p := ⟨w.heap.size + 1, 3, none⟩) (Nat.le_succ _) (.string s1)).setCell (p := ⟨w.heap.size + 1, 4, none⟩) (Nat.le_succ _) (.string s2)) (below1 _ (.cells #[.string nm, .int .i64 ts.length, .string s0, .string s1, .string s2] 143))
  refine bodyPost_ret (v := .agg #[.string nm, .int .i64 ts.length, .string s0, .string s1, .string s2]) (by simp [results, Tryz.results93, go_sem, v0, v1, v2, v3, v4]) rfl ⟨by rw [HV, hs0, hs1, hs2], hgr5⟩

set_option maxHeartbeats 4000000 in
theorem indexTerm_any (A : Option Addr) (n c : Nat) (ts : List Tm) (t : Tm) (w : World) (hT : IsTerms w 0 w.heap.size A n c ts) :
    Calls Tryz.prog 200 #[.slice A n c, .agg #[.bool t.1, .string t.2]] w fun e w' => (∃ k : Int, e = .returned (.int .i64 k) ∧ ((0 ≤ k ∧ t ∈ ts) ∨ (k = -1 ∧ t ∉ ts))) ∧ Below w.heap.size w w' := by
  have hc1 := hT.2.1; have hm1 := hT.2.2.1
  unfold maxLen at hm1
  have HT := Lib.hid hT; have HN := Lib.hid hT.1; clear hT
  have X0 := Lib.hid (Box.new w (.bool t.1) (.string t.2) 59)
  have hw0 := below1 w (.cells #[.bool t.1, .string t.2] 59)
  go_enter Tryz.func200, Tryz.ntmps200
  go_wp2
  go_loopw [8] (fun i wr => ∃ k : Nat, k ≤ n ∧ i = .int .i64 k ∧ (∀ j r, j < k → ts[j]? = some r → r ≠ t) ∧ Below (w.alloc (.cells #[.bool t.1, .string t.2] 59)).heap.size (w.alloc (.cells #[.bool t.1, .string t.2] 59)) wr) (fun i _ => n - (intOf i).toNat)
  case atStart => exact ⟨0, Nat.zero_le _, rfl, fun j r hj => absurd hj (Nat.not_lt_zero _), Below.refl _ _⟩
  case round =>
    obtain ⟨k, hk, rfl, hl, hb⟩ := hrel
    have HL := Lib.hid hl; clear hl
    have HB := belowThen hw0 hb
    obtain ⟨b0, b1, b2⟩ := X0.out.later hb
    by_cases hlt : k < n
    · have hltI : (k : Int) < (n : Int) := by omega
      obtain ⟨p, u, hA, _, _, hg, z1, z2, _⟩ := (HT.out.up HB).at_ hlt
      subst hA
      have HG := Lib.hid hg; clear hg
      by_cases he : u = t
      · have hin : t ∈ ts := he ▸ List.mem_of_getElem? HG.out
        subst he
        have HIN := Lib.hid hin; clear hin
        go_wp2_with fail
        go_quiet (fail)
        go_wp2
        go_ret
        exact ⟨⟨k, rfl, .inl ⟨by omega, HIN.out⟩⟩, belowDrewN HB _⟩
      · have HNE := Lib.hid he
        clear he
        obtain ⟨uv, ux⟩ := u
        by_cases hx : t.2 = ux
        · have hv : (t.1 == uv) = false := by
            cases h1 : (t.1 == uv) with
            | false => rfl
            | true => exact absurd (Prod.ext (eq_of_beq h1).symm hx.symm) HNE.out
          subst hx
          go_wp2_with fail
          go_quiet ((trace_state; fail))
          go_wp2
          go_roundw
          case rel => exact ⟨k + 1, by omega, by go_num, fun j r hj hr => by
            by_cases e : j = k
            · subst e; rw [HG.out] at hr; injection hr with hr; rw [← hr]; exact HNE.out
            · exact HL.out j r (by omega) hr, belowDrewN hb _⟩
          case measure => simp [intOf]; omega
        · have hx2 : (t.2.toList == ux.toList) = false := by
            cases h1 : (t.2.toList == ux.toList) with
            | false => rfl
            | true => exact absurd (bytesEq (by have h2 := eq_of_beq h1; rwa [ByteArray.toList_eq, ByteArray.toList_eq] at h2)) hx
          clear hx
          go_wp2_with fail
          go_quiet ((trace_state; fail))
          go_wp2
          go_roundw
          case rel => exact ⟨k + 1, by omega, by go_num, fun j r hj hr => by
            by_cases e : j = k
            · subst e; rw [HG.out] at hr; injection hr with hr; rw [← hr]; exact HNE.out
            · exact HL.out j r (by omega) hr, belowDrewN hb _⟩
          case measure => simp [intOf]; omega
    · have hno : t ∉ ts := fun hm => by
        obtain ⟨j, hj⟩ := List.getElem?_of_mem hm
        have h7 : j < ts.length := (List.getElem?_eq_some_iff.1 hj).1
        exact HL.out j t (by have := HN.out; omega) hj rfl
      have HNO := Lib.hid hno; clear hno
      go_wp2
      go_ret
      exact ⟨⟨-1, rfl, .inr ⟨rfl, HNO.out⟩⟩, HB⟩

/-- Is a term among these? -/
def hasT (ts : List Tm) (t : Tm) : Bool := ts.any fun u => decide (u = t)

theorem hasT_yes {ts : List Tm} {t : Tm} (h : t ∈ ts) : hasT ts t = true := List.any_eq_true.2 ⟨t, h, decide_eq_true rfl⟩
theorem hasT_no {ts : List Tm} {t : Tm} (h : t ∉ ts) : hasT ts t = false := by
  cases hh : hasT ts t with
  | false => rfl
  | true =>
    obtain ⟨u, h1, h2⟩ := List.any_eq_true.1 hh
    exact absurd (of_decide_eq_true h2 ▸ h1) h

set_option maxHeartbeats 4000000 in
theorem containsTerm_any (A : Option Addr) (n c : Nat) (ts : List Tm) (t : Tm) (w : World) (hT : IsTerms w 0 w.heap.size A n c ts) :
    Calls Tryz.prog 194 #[.slice A n c, .agg #[.bool t.1, .string t.2]] w fun e w' => e = .returned (.bool (hasT ts t)) ∧ Below w.heap.size w w' := by
  have HT := Lib.hid hT; clear hT
  have X0 := Lib.hid (Box.new w (.bool t.1) (.string t.2) 59)
  have hw0 := below1 w (.cells #[.bool t.1, .string t.2] 59)
  obtain ⟨b0, b1, b2⟩ := X0.out
  go_enter Tryz.func194, Tryz.ntmps194
  go_wp2_with fail
  refine (indexTerm_any A n c ts t _ (HT.out.up hw0)).mono ?_; rintro e w1 ⟨⟨k, rfl, hk⟩, hb1⟩
  rcases hk with ⟨h1, h2⟩ | ⟨h1, h2⟩
  · have HY := Lib.hid (hasT_yes h2)
    clear h2
    have hge : (0 : Int) ≤ k := h1
    go_wp2
    go_ret
    exact ⟨by rw [HY.out]; rfl, belowThen hw0 hb1⟩
  · have HY := Lib.hid (hasT_no h2)
    clear h2
    subst h1
    go_wp2
    go_ret
    exact ⟨by rw [HY.out]; rfl, belowThen hw0 hb1⟩

theorem share_snoc {b : Bd} {ts : List Tm} {a : At} {k : Nat} (h : ∀ j t, j < k → ts[j]? = some t → (!knownB b t && hasT a.2 t) = false) (hk : ts.length ≤ k) (nm : ByteArray) : shareB b (nm, ts) a = false := by
  cases hs : shareB b (nm, ts) a with
  | false => rfl
  | true =>
    obtain ⟨t, h1, h2⟩ := List.any_eq_true.1 hs
    obtain ⟨j, hj⟩ := List.getElem?_of_mem h1
    have h7 : j < ts.length := (List.getElem?_eq_some_iff.1 hj).1
    have h3 := h j t (by omega) hj
    have h4 : (!knownB b t && hasT a.2 t) = true := by
      rw [← h2]
      unfold knownB hasT
      cases t.1 <;> cases getW b t.2 <;> rfl
    rw [h3] at h4; cases h4

theorem share_hit {b : Bd} {ts : List Tm} {a : At} {t : Tm} (h : t ∈ ts) (h' : (!knownB b t && hasT a.2 t) = true) (nm : ByteArray) : shareB b (nm, ts) a = true := by
  refine List.any_eq_true.2 ⟨t, h, ?_⟩
  rw [← h']
  unfold knownB hasT
  cases t.1 <;> cases getW b t.2 <;> rfl

set_option maxHeartbeats 4000000 in
theorem shareOpen_any (g : Nat) (b : Bd) (nm nm' : ByteArray) (A : Option Addr) (n c : Nat) (ts : List Tm) (B : Option Addr) (m d : Nat) (us : List Tm) (w : World) (h : BdIn w g b) (hg : g < w.heap.size)
    (hT : IsTerms w 0 w.heap.size A n c ts) (hU : IsTerms w 0 w.heap.size B m d us) :
    Calls Tryz.prog 173 #[.pointer (some ⟨g, 0, none⟩), .agg #[.string nm, .slice A n c], .agg #[.string nm', .slice B m d]] w fun e w' => e = .returned (.bool (shareB b (nm, ts) (nm', us))) ∧ Below w.heap.size w w' := by
  have hc1 := hT.2.1; have hm1 := hT.2.2.1
  unfold maxLen at hm1
  have HN := Lib.hid hT.1
  have H := Lib.hid h; have HT := Lib.hid hT; have HU := Lib.hid hU; have HG := Lib.hid hg; clear h hT hU hg
  have hw0 := below2 w (.cells #[.string nm, .slice A n c] 49) (.cells #[.string nm', .slice B m d] 49)
  have xa := (Blk.new w 49 #[.string nm, .slice A n c]).alloc (.cells #[.string nm', .slice B m d] 49)
  have xb := Blk.made (b := w.heap.size + 1) (w.alloc (.cells #[.string nm, .slice A n c] 49)) 49 #[.string nm', .slice B m d] (by simp)
  obtain ⟨w2, hq2⟩ : ∃ w2, (w.alloc (.cells #[.string nm, .slice A n c] 49)).alloc (.cells #[.string nm', .slice B m d] 49) = w2 := ⟨_, rfl⟩
  rw [hq2] at hw0 xa xb
  have z0 := xa.cell 0; have z1 := xa.cell 1
  simp at z0 z1
  have XB := Lib.hid xb
  have HW := Lib.hid hw0
  have HQ2 := Lib.hid hq2
  clear xa xb hq2 hw0
  go_enter Tryz.func173, Tryz.ntmps173
  go_wp2_with (rw [HQ2.out])
  go_loopw [14] (fun i wr => ∃ k : Nat, k ≤ n ∧ i = .int .i64 (k : Int) ∧ (∀ j t, j < k → ts[j]? = some t → (!knownB b t && hasT us t) = false) ∧ Below w2.heap.size w2 wr) (fun i _ => n - (intOf i).toNat)
  case atStart => exact ⟨0, Nat.zero_le _, rfl, fun j t hj => absurd hj (Nat.not_lt_zero _), Below.refl _ _⟩
  case round =>
    clear HQ2 z0 z1
    obtain ⟨k, hk, rfl, hl, hb⟩ := hrel
    have HL := Lib.hid hl; clear hl
    have hgr := belowThen HW.out hb
    have hx := XB.out.below hb
    by_cases hlt : k < n
    · have hltI : (k : Int) < (n : Int) := by omega
      obtain ⟨p, t, hA, _, _, hgt, z1, z2, _⟩ := (HT.out.up hgr).at_ hlt
      subst hA
      have HGT := Lib.hid hgt
      clear hgt
      go_wp2_with fail
      have hb4 := belowThen hgr (below1 wr (.cells #[.bool t.1, .string t.2] 59))
      refine (implWordOf_any g b t _ (H.out.keep (fun j => hb4.cell HG.out) (fun j => hb4.frozen HG.out)) (by have := hb4.size; have := HG.out; omega)).mono ?_; rintro e w5 ⟨rfl, hb5⟩
      have hxt := (Blk.new wr 59 #[.bool t.1, .string t.2]).below hb5
      have hx5 := (hx.alloc (.cells #[.bool t.1, .string t.2] 59)).below hb5
      have hgr5 := hb4.trans (hb5.mono hb4.size)
      have hbw5 : Below w2.heap.size w2 w5 := (belowThen hb (below1 wr (.cells #[.bool t.1, .string t.2] 59))).trans (hb5.mono (belowThen hb (below1 wr (.cells #[.bool t.1, .string t.2] 59))).size)
      have q0 := hxt.cell 0; have q1 := hxt.cell 1; have q2 := hx5.cell 1
      simp at q0 q1 q2
      clear z1 z2 hb4 hb5 hgr hb
      cases hkn : knownB b t with
      | true =>
        go_wp2
        refine ⟨⟨k + 1, by omega, by go_num, fun j u hj hu => ?_, hbw5⟩, by simp [intOf]; omega⟩
        by_cases e : j = k
        · subst e; rw [HGT.out] at hu; injection hu with hu; rw [← hu, hkn]; rfl
        · exact HL.out j u (by omega) hu
      | false =>
        go_wp2_with fail
        refine (containsTerm_any B m d us t _ (HU.out.up hgr5)).mono ?_; rintro e w6 ⟨rfl, hb6⟩
        have hgr6 := belowThen hgr5 hb6
        have hbw6 := belowThen hbw5 hb6
        clear q0 q1 q2 hxt hx5
        cases hc : hasT us t with
        | true =>
          have HY := Lib.hid (share_hit (b := b) (a := (nm', us)) (List.mem_of_getElem? HGT.out) (show (!knownB b t && hasT us t) = true by rw [hkn, hc]; rfl) nm)
          go_wp2
          go_ret
          exact ⟨by rw [HY.out]; rfl, hgr6⟩
        | false =>
          go_wp2
          refine ⟨⟨k + 1, by omega, by go_num, fun j u hj hu => ?_, hbw6⟩, by simp [intOf]; omega⟩
          by_cases e : j = k
          · subst e; rw [HGT.out] at hu; injection hu with hu; rw [← hu, hc, Bool.and_false]
          · exact HL.out j u (by omega) hu
    · have hno := share_snoc (a := (nm', us)) (fun j t hj => HL.out j t (by omega)) (Nat.le_of_eq HN.out) nm
      have HNO := Lib.hid hno; clear hno
      go_wp2
      go_ret
      exact ⟨by rw [HNO.out]; rfl, hgr⟩

/-- All but one block stays. -/
structure FarG (g : Nat) (w w' : World) : Prop where
  os : w'.os = w.os
  tape : w'.tape = w.tape
  output : w'.output = w.output
  size : w.heap.size ≤ w'.heap.size
  block : ∀ k, k < w.heap.size → k ≠ g → w'.heap[k]? = w.heap[k]?

theorem FarG.refl (g : Nat) (w : World) : FarG g w w := ⟨rfl, rfl, rfl, Nat.le_refl _, fun _ _ _ => rfl⟩
theorem FarG.trans {g : Nat} {a b c : World} (h : FarG g a b) (k : FarG g b c) : FarG g a c :=
  ⟨k.os.trans h.os, k.tape.trans h.tape, k.output.trans h.output, Nat.le_trans h.size k.size, fun i hi hg => (k.block i (Nat.lt_of_lt_of_le hi h.size) hg).trans (h.block i hi hg)⟩
theorem FarG.of_below {g : Nat} {w w' : World} (h : Below w.heap.size w w') : FarG g w w' := ⟨h.os, h.tape, h.output, h.size, fun k hk _ => h.block k hk⟩
theorem FarG.drew {g : Nat} {w w' : World} (h : FarG g w w') : FarG g w w'.drew := ⟨h.os, h.tape, h.output, h.size, h.block⟩
theorem FarG.setCell {g : Nat} {w w' : World} (h : FarG g w w') {p : Addr} (hp : p.block = g) (u : Value) : FarG g w (w'.setCell p u) :=
  ⟨h.os, h.tape, h.output, by rw [size_setCell]; exact h.size, fun k hk hg => (Below.heap_setCell _ _ _ k (by rw [hp]; exact hg)).trans (h.block k hk hg)⟩
theorem FarG.below {g : Nat} {w w' : World} (h : FarG g w w') (hg : g ≤ w.heap.size) : Below g w w' := ⟨h.os, h.tape, h.output, h.size, fun k hk => h.block k (Nat.lt_of_lt_of_le hk hg) (by omega)⟩
theorem FarG.cell {g : Nat} {w w' : World} (h : FarG g w w') {p : Addr} (hp : p.block < w.heap.size) (hg : p.block ≠ g) : w'.cell? p = w.cell? p := World.cell?_of_block (w := w) (h.block p.block hp hg)

theorem cell_set {w : World} {p q : Addr} {u : Value} (hx : ∃ x, w.cell? p = some x) : (w.setCell p u).cell? q = if q = p then some u else w.cell? q := by
  obtain ⟨x, hx⟩ := hx
  by_cases h : q = p
  · rw [if_pos h, h]; exact World.cell?_setCell_same (h := hx) ..
  · rw [if_neg h]; exact World.cell?_setCell_other (h := fun e => h e.symm) ..

theorem addr_ne {g i j : Nat} (h : i ≠ j) : (⟨g, i, none⟩ : Addr) ≠ ⟨g, j, none⟩ := fun e => h (by injection e)

/-- One word more. -/
theorem BdIn.push {w : World} {g : Nat} {b : Bd} (h : BdIn w g b) (hl : b.length < 12) (x v : ByteArray) :
    BdIn (((w.setCell ⟨g, b.length * 2, none⟩ (.string x)).setCell ⟨g, b.length * 2 + 1, none⟩ (.string v)).setCell ⟨g, 24, none⟩ (.int .i64 (b.length + 1))) g (b ++ [(x, v)]) := by
  have r1 := (h.room (b.length * 2) (by omega)).2
  have r2 : ∃ y, (w.setCell ⟨g, b.length * 2, none⟩ (.string x)).cell? ⟨g, b.length * 2 + 1, none⟩ = some y := by
    rw [cell_set r1, if_neg (addr_ne (by omega))]; exact (h.room _ (by omega)).2
  have r3 : ∃ y, ((w.setCell ⟨g, b.length * 2, none⟩ (.string x)).setCell ⟨g, b.length * 2 + 1, none⟩ (.string v)).cell? ⟨g, 24, none⟩ = some y := by
    rw [cell_set r2, if_neg (addr_ne (by omega)), cell_set r1, if_neg (addr_ne (by omega))]; exact (h.room _ (by omega)).2
  have hc : ∀ j, (((w.setCell ⟨g, b.length * 2, none⟩ (.string x)).setCell ⟨g, b.length * 2 + 1, none⟩ (.string v)).setCell ⟨g, 24, none⟩ (.int .i64 (b.length + 1))).cell? ⟨g, j, none⟩ = if j = 24 then some (.int .i64 (b.length + 1)) else if j = b.length * 2 + 1 then some (.string v) else if j = b.length * 2 then some (.string x) else w.cell? ⟨g, j, none⟩ := by
    intro j
    rw [cell_set r3, cell_set r2, cell_set r1]
    by_cases e1 : j = 24
    · rw [if_pos (by rw [e1]), if_pos e1]
    · rw [if_neg (addr_ne e1), if_neg e1]
      by_cases e2 : j = b.length * 2 + 1
      · rw [if_pos (by rw [e2]), if_pos e2]
      · rw [if_neg (addr_ne e2), if_neg e2]
        by_cases e3 : j = b.length * 2
        · rw [if_pos (by rw [e3]), if_pos e3]
        · rw [if_neg (addr_ne e3), if_neg e3]
  refine ⟨by rw [List.length_append]; simp; omega, fun j q hq => ?_, fun j q hq => ?_, ?_, fun j hj => ⟨?_, ?_⟩⟩
  · have hj : j < (b ++ [(x, v)]).length := (List.getElem?_eq_some_iff.1 hq).1
    rw [List.length_append] at hj; simp at hj
    rw [hc, if_neg (by omega), if_neg (by omega)]
    by_cases e : j = b.length
    · rw [if_pos (by omega)]
      rw [e, List.getElem?_append_right (Nat.le_refl _), Nat.sub_self] at hq
      simp at hq; rw [← hq]
    · rw [if_neg (by omega)]
      rw [List.getElem?_append_left (by omega)] at hq
      exact h.at1 j q hq
  · have hj : j < (b ++ [(x, v)]).length := (List.getElem?_eq_some_iff.1 hq).1
    rw [List.length_append] at hj; simp at hj
    rw [hc, if_neg (by omega)]
    by_cases e : j = b.length
    · rw [if_pos (by omega)]
      rw [e, List.getElem?_append_right (Nat.le_refl _), Nat.sub_self] at hq
      simp at hq; rw [← hq]
    · rw [if_neg (by omega), if_neg (by omega)]
      rw [List.getElem?_append_left (by omega)] at hq
      exact h.at2 j q hq
  · rw [hc, if_pos rfl, List.length_append]; simp
  · simp only [World.frozen?_setCell]; exact (h.room j hj).1
  · rw [hc]
    split
    · exact ⟨_, rfl⟩
    · split
      · exact ⟨_, rfl⟩
      · split
        · exact ⟨_, rfl⟩
        · exact (h.room j hj).2

/-- The count set back: what was bound first is bound. -/
theorem BdIn.back {w : World} {g : Nat} {b l : Bd} (h : BdIn w g (b ++ l)) : BdIn (w.setCell ⟨g, 24, none⟩ (.int .i64 b.length)) g b := by
  have hf := h.few
  rw [List.length_append] at hf
  have r := (h.room 24 (by omega)).2
  refine ⟨by omega, fun j q hq => ?_, fun j q hq => ?_, ?_, fun j hj => ⟨?_, ?_⟩⟩
  · have hj := (List.getElem?_eq_some_iff.1 hq).1
    rw [cell_set r, if_neg (addr_ne (by omega))]
    exact h.at1 j q (by rw [List.getElem?_append_left hj]; exact hq)
  · have hj := (List.getElem?_eq_some_iff.1 hq).1
    rw [cell_set r, if_neg (addr_ne (by omega))]
    exact h.at2 j q (by rw [List.getElem?_append_left hj]; exact hq)
  · rw [cell_set r, if_pos rfl]
  · simp only [World.frozen?_setCell]; exact (h.room j hj).1
  · rw [cell_set r]
    split
    · exact ⟨_, rfl⟩
    · exact (h.room j hj).2

theorem KeysIn.snoc {V : List ByteArray} {b : Bd} {x v : ByteArray} (h : KeysIn V b) (hx : getW b x = none) (hv : x ∈ V) : KeysIn V (b ++ [(x, v)]) := by
  unfold KeysIn
  rw [List.map_append]
  refine ⟨List.nodup_append.2 ⟨h.1, by simp, fun y hy z hz e => ?_⟩, fun y hy => ?_⟩
  · have h1 : z = x := by simpa using hz
    subst e; subst h1; exact getW_key.1 hx hy
  · rcases List.mem_append.1 hy with h1 | h1
    · exact h.2 y h1
    · have h1 : y = x := by simpa using h1
      rw [h1]; exact hv

/-- What is bound behind an atom held against a fact: what fits, or something more than before. -/
def MatchPost (g : Nat) (b : Bd) (r : Option Bd) (w : World) (e : Ending) (w' : World) : Prop := e = .returned (.bool r.isSome) ∧ FarG g w w' ∧ ∃ l, BdIn w' g (b ++ l) ∧ (∀ b', r = some b' → b' = b ++ l)

set_option maxRecDepth 100000 in
set_option maxHeartbeats 4000000 in
theorem implMatch_any (V : List ByteArray) (g : Nat) (b : Bd) (nm : ByteArray) (A : Option Addr) (n c : Nat) (ts : List Tm) (f : At) (w : World) (h : BdIn w g b) (hg : g < w.heap.size) (hT : IsTerms w 0 g A n c ts) (h3 : n ≤ 3)
    (hf : f.2.length = n) (hV : V.length ≤ 12) (hk : KeysIn V b) (hv : ∀ x, (true, x) ∈ ts → x ∈ V) :
    Calls Tryz.prog 97 #[.pointer (some ⟨g, 0, none⟩), .agg #[.string nm, .slice A n c], factV f] w (MatchPost g b (matchT ts f.2 b) w) := by
  obtain ⟨fn, us⟩ := f
  have HU := Lib.hid hf
  have HV := Lib.hid hV; have HK := Lib.hid hk; have HVV := Lib.hid hv
  have H := Lib.hid h; have HT := Lib.hid hT; have HN := Lib.hid hT.1; have HG := Lib.hid hg; clear h hT hf hg hk hv hV
  unfold factV
  have hlen : (fn, us).2.length = n := HU.out
  rw [hlen]
  show Calls _ _ #[_, _, .agg #[.string fn, .int .i64 n, .string (wordAt us 0), .string (wordAt us 1), .string (wordAt us 2)]] _ _
  have hw0 := below2 w (.cells #[.string nm, .slice A n c] 49) (.cells #[.string fn, .int .i64 n, .string (wordAt us 0), .string (wordAt us 1), .string (wordAt us 2)] 143)
  have xa := (Blk.new w 49 #[.string nm, .slice A n c]).alloc (.cells #[.string fn, .int .i64 n, .string (wordAt us 0), .string (wordAt us 1), .string (wordAt us 2)] 143)
  have xb := Blk.made (b := w.heap.size + 1) (w.alloc (.cells #[.string nm, .slice A n c] 49)) 143 #[.string fn, .int .i64 n, .string (wordAt us 0), .string (wordAt us 1), .string (wordAt us 2)] (by simp)
  obtain ⟨w2, hq2⟩ : ∃ w2, (w.alloc (.cells #[.string nm, .slice A n c] 49)).alloc (.cells #[.string fn, .int .i64 n, .string (wordAt us 0), .string (wordAt us 1), .string (wordAt us 2)] 143) = w2 := ⟨_, rfl⟩
  rw [hq2] at hw0 xa xb
  have z0 := xa.cell 0; have z1 := xa.cell 1
  simp at z0 z1
  have XB := Lib.hid xb
  have HW := Lib.hid hw0
  have HQ2 := Lib.hid hq2
  clear xa xb hq2 hw0
  go_enter Tryz.func97, Tryz.ntmps97
  go_wp2_with (rw [HQ2.out])
  go_loopw [14] (fun i wr => ∃ (k : Nat) (l : Bd), k ≤ n ∧ i = .int .i64 (k : Int) ∧ BdIn wr g (b ++ l) ∧ KeysIn V (b ++ l) ∧ matchT ts us b = matchT (ts.drop k) (us.drop k) (b ++ l) ∧ FarG g w wr ∧ Blk wr (w.heap.size + 1) 143 #[.string fn, .int .i64 n, .string (wordAt us 0), .string (wordAt us 1), .string (wordAt us 2)]) (fun i _ => n - (intOf i).toNat)
  case atStart => exact ⟨0, [], Nat.zero_le _, rfl, by rw [List.append_nil]; exact H.out.keep (fun j => HW.out.cell HG.out) (fun j => HW.out.frozen HG.out), by rw [List.append_nil]; exact HK.out, by simp, FarG.of_below HW.out, XB.out⟩
  case round =>
    clear HQ2 z0 z1
    obtain ⟨k, l, hk, rfl, hb, hkey, hm, hfar, hx⟩ := hrel
    have HB := Lib.hid hb; have HKey := Lib.hid hkey; have HM := Lib.hid hm; have HF := Lib.hid hfar; have HX := Lib.hid hx
    clear hb hkey hm hx
    obtain ⟨bl, hbl⟩ : ∃ bl, b ++ l = bl := ⟨_, rfl⟩
    rw [hbl] at HB HKey HM
    have HBL := Lib.hid hbl
    clear hbl
    obtain ⟨L, hL⟩ : ∃ L, bl.length = L := ⟨_, rfl⟩
    have HL := Lib.hid hL
    clear hL
    by_cases hlt : k < n
    · have hltI : (k : Int) < (n : Int) := by omega
      have hgb : Below g w wr := hfar.below (Nat.le_of_lt HG.out)
      obtain ⟨p, t, hA, _, hpb, hgt, z1, z2, _⟩ := (HT.out.below hgb (Nat.le_refl _)).at_ hlt
      subst hA
      have HGT := Lib.hid hgt
      clear hgt
      obtain ⟨u, hu⟩ : ∃ u, us[k]? = some u := ⟨_, List.getElem?_eq_getElem (by have h7 : us.length = n := HU.out; omega)⟩
      have HUK := Lib.hid hu
      clear hu
      go_wp2_with fail
      have hgs : g < wr.heap.size := Nat.lt_of_lt_of_le HG.out hfar.size
      have hb4 := below1 wr (.cells #[.bool t.1, .string t.2] 59)
      have hB4 := HB.out.keep (w' := wr.alloc (.cells #[.bool t.1, .string t.2] 59)) (fun j => hb4.cell hgs) (fun j => hb4.frozen hgs)
      refine (implWordOf_any g bl t _ hB4 (by have := hb4.size; omega)).mono ?_; rintro e w5 ⟨rfl, hb5⟩
      have hgs4 : g < (wr.alloc (.cells #[.bool t.1, .string t.2] 59)).heap.size := by have := hb4.size; omega
      have HB5 := Lib.hid (hB4.keep (fun j => hb5.cell hgs4) (fun j => hb5.frozen hgs4))
      have HX5 := Lib.hid ((HX.out.alloc (.cells #[.bool t.1, .string t.2] 59)).below hb5)
      have hxt := (Blk.new wr 59 #[.bool t.1, .string t.2]).below hb5
      have HF5 := Lib.hid (HF.out.trans (FarG.of_below (belowThen hb4 hb5)))
      have q0 := hxt.cell 0; have q1 := hxt.cell 1
      simp at q0 q1
      have hfk : w5.cell? ⟨w.heap.size + 1, 2 + k, none⟩ = some (.string u.2) := by
        have e0 : wordAt us k = u.2 := by unfold wordAt; rw [HUK.out]
        have hk3 : k = 0 ∨ k = 1 ∨ k = 2 := by omega
        rcases hk3 with e | e | e <;> subst e <;> rw [← e0]
        · exact HX5.out.cell 2
        · exact HX5.out.cell 3
        · exact HX5.out.cell 4
      have hcnt : w5.cell? ⟨g, 24, none⟩ = some (.int .i64 L) := by rw [← HL.out]; exact HB5.out.count
      have hk12 : (k : Int) < 3 := by omega
      clear z1 z2 hb4 hB4 hb5 hgs4 hxt hfar
      cases hkn : knownB bl t with
      | true =>
        have hkw : ¬ (t.1 = true ∧ getW bl t.2 = none) := fun ⟨h1, h2⟩ => by unfold knownB at hkn; rw [h1, h2] at hkn; simp at hkn
        have HKW := Lib.hid hkw; clear hkw
        by_cases hwu : wordT bl t = u.2
        · have HWU := Lib.hid hwu
          rw [hwu]
          clear hwu
          go_wp2
          refine ⟨⟨k + 1, l, by omega, by go_num, by rw [HBL.out]; exact HB5.out, by rw [HBL.out]; exact HKey.out, by rw [HBL.out, HM.out]; exact matchT_same HGT.out HUK.out HKW.out HWU.out, HF5.out, HX5.out⟩, by simp [intOf]; omega⟩
        · have hne : ((wordT bl t).toList == u.2.toList) = false := by
            cases h1 : ((wordT bl t).toList == u.2.toList) with
            | false => rfl
            | true => exact absurd (bytesEq (by have h2 := eq_of_beq h1; rwa [ByteArray.toList_eq, ByteArray.toList_eq] at h2)) hwu
          have HNO := Lib.hid (show matchT ts us b = none by rw [HM.out]; exact matchT_no HGT.out HUK.out HKW.out hwu)
          obtain ⟨s, hs⟩ : ∃ s, wordT bl t = s := ⟨_, rfl⟩
          rw [hs] at hne ⊢
          clear hs hwu
          go_wp2
          go_ret
          exact ⟨by rw [HNO.out]; rfl, HF5.out, l, by rw [HBL.out]; exact HB5.out, fun b' hb' => by rw [HNO.out] at hb'; cases hb'⟩
      | false =>
        have ht1 : t.1 = true := by
          cases h1 : t.1 with
          | true => rfl
          | false => unfold knownB at hkn; rw [h1] at hkn; simp at hkn
        have htn : getW bl t.2 = none := by
          cases h1 : getW bl t.2 with
          | none => rfl
          | some y => unfold knownB at hkn; rw [h1] at hkn; simp at hkn
        have hroom := HKey.out.room htn (HVV.out t.2 (by rw [show (true, t.2) = t from Prod.ext ht1.symm rfl]; exact List.mem_of_getElem? HGT.out))
        rw [HL.out] at hroom
        have hL12 : (L : Int) < 12 := by have := HV.out; omega
        have HT1 := Lib.hid ht1; have HTN := Lib.hid htn; have HR := Lib.hid hroom
        clear ht1 htn hroom
        go_wp2_with fail
        go_still_tail 15, (by kernel_rfl)
        change wpList _ _ _ _ _ w5.drew
        obtain ⟨w6, hq6⟩ : ∃ w6, w5.drew = w6 := ⟨_, rfl⟩
        have HB6 : Hid (BdIn w6 g bl) := Lib.hid (by rw [← hq6]; exact HB5.out.keep (fun _ => rfl) (fun _ => rfl))
        have HX6 : Hid (Blk w6 (w.heap.size + 1) 143 #[.string fn, .int .i64 n, .string (wordAt us 0), .string (wordAt us 1), .string (wordAt us 2)]) := Lib.hid (by rw [← hq6]; exact HX5.out)
        have HF6 : Hid (FarG g w w6) := Lib.hid (by rw [← hq6]; exact HF5.out.drew)
        rw [hq6]
        clear hq6 hcnt q0 q1 hfk
        have hcnt : w6.cell? ⟨g, 24, none⟩ = some (.int .i64 L) := by rw [← HL.out]; exact HB6.out.count
        obtain ⟨s1, hs1⟩ := (HB6.out.room (L * 2) (by have := HR.out; have := HV.out; omega)).2
        obtain ⟨s2, hs2⟩ := (HB6.out.room (L * 2 + 1) (by have := HR.out; have := HV.out; omega)).2
        have fr1 := (HB6.out.room (L * 2) (by have := HR.out; have := HV.out; omega)).1
        have fr2 := (HB6.out.room (L * 2 + 1) (by have := HR.out; have := HV.out; omega)).1
        have fr3 := (HB6.out.room 24 (by omega)).1
        have e24 : ¬ (L * 2 = 24) := by have := HR.out; have := HV.out; omega
        have e25 : ¬ (L * 2 + 1 = 24) := by omega
        go_wp2_with fail
        have hpush := HB6.out.push (by have := HL.out; omega) t.2 u.2
        rw [HL.out] at hpush
        have hass : b ++ (l ++ [(t.2, u.2)]) = bl ++ [(t.2, u.2)] := by rw [← List.append_assoc, HBL.out]
        have hne : w.heap.size + 1 ≠ g := by have := HG.out; omega
        refine ⟨⟨k + 1, l ++ [(t.2, u.2)], by omega, by go_num, ?_, ?_, ?_, ?_, ?_⟩, by simp [intOf]; omega⟩
        · rw [hass]; exact hpush
        · rw [hass]; exact HKey.out.snoc HTN.out (HVV.out t.2 (by rw [show (true, t.2) = t from Prod.ext HT1.out.symm rfl]; exact List.mem_of_getElem? HGT.out))
        · rw [hass, HM.out]; exact matchT_free HGT.out HUK.out HT1.out HTN.out
        · exact ((HF6.out.setCell rfl _).setCell rfl _).setCell rfl _
        · exact ((HX6.out.far hne _).far hne _).far hne _
    · have hkn : k = n := by omega
      have hend : matchT ts us b = some bl := by rw [HM.out]; exact matchT_end (by have := HN.out; omega)
      have HE := Lib.hid hend; clear hend
      go_wp2
      go_ret
      exact ⟨by rw [HE.out]; rfl, HF.out, l, by rw [HBL.out]; exact HB.out, fun b' hb' => by rw [HE.out] at hb'; injection hb' with hb'; rw [← hb', HBL.out]⟩
end Go.Proofs.YtcigljngiemdeaaGreat
