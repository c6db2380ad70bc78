/-
  Facts that are not among others; a fact taken out; facts behind a change: in the model. (Written by tools/l3less.py.)
-/
import Derived.Test.YtbhkihnekendbaaL3Put
namespace Go.Proofs.Ytbhkihnekendbaa
open Go.RowKit

theorem gone_done {w V : World} {k n : Nat} {v : Value} {rs : List Rf} (hl : rs.length = n) (hk : k < n)
    (h : V.ownsRow (w.heap.size + 1) 26 2 v (0 + k + (n - (k + 1))) ([] ++ rcells (rs.take k) ++ rcells (rs.drop (k + 1)))) (hr : RefsIn w 0 w.heap.size (rs.take k ++ rs.drop (k + 1))) (hb : Below w.heap.size w V) {L : List At} (hL : (rs.take k ++ rs.drop (k + 1)).map rAt = L) :
    ∃ A c rs', v = .slice A rs'.length c ∧ IsRefs V 0 V.heap.size A rs'.length c rs' ∧ rs'.map rAt = L := by
  have hlen : (rs.take k ++ rs.drop (k + 1)).length = 0 + k + (n - (k + 1)) := by
    rw [List.length_append, List.length_take, List.length_drop, hl, Nat.min_eq_left (by omega)]; omega
  rw [← hlen] at h
  obtain ⟨A, c, e, i⟩ := refs_own (base := w.heap.size + 1) (rs := rs.take k ++ rs.drop (k + 1)) (by rw [rcells_app]; exact h) rfl (Nat.zero_le _) (hr.keep (fun _ _ hq => hb.cell hq) (Nat.le_refl _) (Nat.le_refl _)) hb.size
  exact ⟨A, c, _, e, i, hL⟩

/-- One that is there stands at its place. -/
theorem there_at {xs : List At} {a : At} {k n : Nat} (hr : risesB xs = true) (hl : xs.length = n) (hlo : ∀ j y, j < k → xs[j]? = some y → atomCmp y a < 0) (hat : ∀ y, xs[k]? = some y → 0 ≤ atomCmp y a) (hB : hasB xs a = true) : k < n ∧ ∃ x, xs[k]? = some x ∧ atomCmp x a = 0 := by
  by_cases hk : k < n
  · have hx : xs[k]? = some xs[k] := List.getElem?_eq_getElem (by omega)
    have := hasB_at hr hlo hx (hat _ hx)
    rw [hB] at this
    exact ⟨hk, _, hx, by simpa using this⟩
  · rw [hasB_end hl hlo hk] at hB; cases hB

set_option maxRecDepth 100000 in
set_option maxHeartbeats 8000000 in
theorem l3Without_any (A : Option Addr) (n c : Nat) (xs : List At) (nm : ByteArray) (B : Option Addr) (m d : Nat) (ts : List Tm) (w : World) (h : IsAtoms w 0 w.heap.size A n c xs) (h' : IsTerms w 0 w.heap.size B m d ts) (hr : risesB xs = true) (hB : hasB xs (nm, ts) = true) (hmax : n ≤ 1048576) :
    Calls Try.prog 85 #[.slice A n c, .agg #[.string nm, .slice B m d]] w (ReadPost (xs.filter fun y => !hasB [(nm, ts)] y) w) := by
  have HX := Lib.hid h.1
  obtain ⟨rs, hrs, hm⟩ := refs_of h
  have HL := Lib.hid hrs.1
  have RR := Lib.hid hrs
  have HM := Lib.hid hm; clear hm
  have H := Lib.hid h; have H' := Lib.hid h'; clear h h'
  have HRR := Lib.hid hr; clear hr
  have hnc := hrs.2.1
  have hcm := hrs.2.2.1
  have hqn : 0 < n → ∃ p, A = some p := fun h0 => by obtain ⟨p, hp, _⟩ := hrs.2.2.2 h0; exact ⟨p, hp⟩
  unfold maxLen at hcm
  clear hrs
  obtain ⟨i0, hi, hz, hsz, hby⟩ := info_parts Try.infoAt
  have hw1 := below1 w (.cells #[.string nm, .slice B m d] 26)
  have B1 := Blk.new w 26 #[.string nm, .slice B m d]
  go_enter Try.func85, Try.ntmps85
  go_wp2_with fail
  refine (l3At_any A n c xs nm B m d ts _ (H.out.up AtomE.stays hw1) (H'.out.up hw1) HRR.out).mono ?_; rintro e w2 ⟨k, ⟨rfl, -, hlo, hat⟩, hb2⟩
  have HB2 := belowThen hw1 hb2
  have B2 := B1.below hb2
  obtain ⟨hkn, x, hx, he⟩ := there_at HRR.out HX.out hlo hat hB
  have PD := Lib.hid (show (rs.take k ++ rs.drop (k + 1)).map rAt = xs.filter (fun y => !hasB [(nm, ts)] y) from by
    rw [gone_at HRR.out hlo hx he, List.map_append, List.map_take, List.map_drop, HM.out])
  have RIN := Lib.hid (show RefsIn w 0 w.heap.size (rs.take k ++ rs.drop (k + 1)) from fun r hr => by
    rcases List.mem_append.1 hr with h1 | h1
    · exact (RefsIn.of RR.out) r (List.mem_of_mem_take h1)
    · exact (RefsIn.of RR.out) r (List.mem_of_mem_drop h1))
  obtain ⟨p, hp⟩ := hqn (by omega)
  subst hp
  rw [hB]
  clear hlo hat hx he hqn
  go_wp2
  have x1 : w2.drew.cell? ⟨w.heap.size, 0, none⟩ = some (.string nm) := B2.cell 0
  have x2 : w2.drew.cell? ⟨w.heap.size, 1, none⟩ = some (.slice B m d) := B2.cell 1
  have HBV : Below w.heap.size w w2.drew := HB2.drew
  have BXV : Blk w2.drew w.heap.size 26 #[.string nm, .slice B m d] := B2
  have hsV : w.heap.size + 1 ≤ w2.drew.heap.size := B2.lt
  obtain ⟨V, hV⟩ : ∃ V, w2.drew = V := ⟨_, rfl⟩
  rw [hV] at x1 x2 HBV BXV hsV
  have hkc : k ≤ c := by omega
  have hki : (k : Int) ≤ (c : Int) := by omega
  have hk1 : (k : Int) + 1 ≤ (n : Int) := by omega
  have hk1n : k + 1 ≤ n := by omega
  have hk2 : IntKind.i64.wrap ((k : Int) + 1) = (k : Int) + 1 := by rw [IntKind.wrap_i64]; omega
  have hk3 : (0 : Int) ≤ (k : Int) + 1 := by omega
  have hk3' : ¬ (k : Int) + 1 < 0 := by omega
  have hk4 : ((k : Int) + 1).toNat = k + 1 := by omega
  obtain ⟨QK, hQK⟩ : ∃ q, (if c = k + 1 then some p else some (p.add ((k + 1) * 2))) = q := ⟨_, rfl⟩
  have SD : Hid (∀ W, Below w.heap.size w W → SrcAt W QK (n - (k + 1)) (rcells (rs.drop (k + 1)))) := Lib.hid (fun W hb => IsRefs.srcDrop (RR.out.below RefE.stays hb (Nat.le_refl _)) (by omega) hQK.symm)
  refine wp_region_held_drew (S := fun W => W.cell? ⟨w.heap.size, 0, none⟩ = some (.string nm) ∧ W.cell? ⟨w.heap.size, 1, none⟩ = some (.slice B m d)) (by kernel_rfl) (by rw [hV]; exact ⟨x1, x2⟩) ?_
  rw [hV]
  intro hS_
  refine takeV (i := 1) (v := .slice (some p) n c) (by (simp only [List.getElem?_toArray, List.getElem?_cons_succ, List.getElem?_cons_zero]); rfl) (by kernel_rfl) (by kernel_rfl) (by kernel_rfl) (by rfl) (fun _ _ _ h => h) (Or.inl ⟨by rfl, ?_⟩) hS_ (by (simp only [List.setIfInBounds_toArray, List.set_cons_succ, List.set_cons_zero]); rfl) ?_
  · intro w_ hSw_; (try dsimp only at hSw_); go_simp
  refine takeV (i := 2) (v := .int .i64 (k : Int)) (by (simp only [List.getElem?_toArray, List.getElem?_cons_succ, List.getElem?_cons_zero]); rfl) (by kernel_rfl) (by kernel_rfl) (by kernel_rfl) (by rfl) (fun _ _ _ h => h) (Or.inl ⟨by rfl, ?_⟩) hS_ (by (simp only [List.setIfInBounds_toArray, List.set_cons_succ, List.set_cons_zero]); rfl) ?_
  · intro w_ hSw_; (try dsimp only at hSw_); go_simp
  refine takeV (i := 3) (v := .slice (some p) k c) (by (simp only [List.getElem?_toArray, List.getElem?_cons_succ, List.getElem?_cons_zero]); rfl) (by kernel_rfl) (by kernel_rfl) (by kernel_rfl) (by rfl) (fun _ _ _ h => h) (Or.inl ⟨by rfl, ?_⟩) hS_ (by (simp only [List.setIfInBounds_toArray, List.set_cons_succ, List.set_cons_zero]); rfl) ?_
  · intro w_ hSw_; (try dsimp only at hSw_); go_simp
  refine takeV (i := 5) (v := .slice (some p) n c) (by (simp only [List.getElem?_toArray, List.getElem?_cons_succ, List.getElem?_cons_zero]); rfl) (by kernel_rfl) (by kernel_rfl) (by kernel_rfl) (by rfl) (fun _ _ _ h => h) (Or.inl ⟨by rfl, ?_⟩) hS_ (by (simp only [List.setIfInBounds_toArray, List.set_cons_succ, List.set_cons_zero]); rfl) ?_
  · intro w_ hSw_; (try dsimp only at hSw_); go_simp
  refine takeV (i := 6) (v := .int .i64 (k : Int)) (by (simp only [List.getElem?_toArray, List.getElem?_cons_succ, List.getElem?_cons_zero]); rfl) (by kernel_rfl) (by kernel_rfl) (by kernel_rfl) (by rfl) (fun _ _ _ h => h) (Or.inl ⟨by rfl, ?_⟩) hS_ (by (simp only [List.setIfInBounds_toArray, List.set_cons_succ, List.set_cons_zero]); rfl) ?_
  · intro w_ hSw_; (try dsimp only at hSw_); go_simp
  refine takeV (i := 7) (v := .int .i64 ((k : Int) + 1)) (by (simp only [List.getElem?_toArray, List.getElem?_cons_succ, List.getElem?_cons_zero]); rfl) (by kernel_rfl) (by kernel_rfl) (by kernel_rfl) (by rfl) (fun _ _ _ h => h) (Or.inl ⟨by rfl, ?_⟩) hS_ (by (simp only [List.setIfInBounds_toArray, List.set_cons_succ, List.set_cons_zero]); rfl) ?_
  · intro w_ hSw_; (try dsimp only at hSw_); go_simp
  refine takeV (i := 8) (v := .slice QK (n - (k + 1)) (c - (k + 1))) (by (simp only [List.getElem?_toArray, List.getElem?_cons_succ, List.getElem?_cons_zero]); rfl) (by kernel_rfl) (by kernel_rfl) (by kernel_rfl) (by rfl) (fun _ _ _ h => h) (Or.inl ⟨by rfl, ?_⟩) hS_ (by (simp only [List.setIfInBounds_toArray, List.set_cons_succ, List.set_cons_zero]); rfl) ?_
  · intro w_ hSw_; (try dsimp only at hSw_); go_simp
  refine wpAnyH_ready (rs := [0]) (by kernel_rfl) (by simp) ?_
  refine AllReadyH.cons (o := _) (by (simp only [List.getElem?_toArray, List.getElem?_cons_zero]); rfl) (fun K_ hK_ => ?_) AllReadyH.nil
  rw [if_pos (by rfl)]
  go_simp
  obtain ⟨V1, hV1⟩ : ∃ X, V.alloc (.cells #[] 26) = X := ⟨_, rfl⟩
  have HB1 : Below w.heap.size w V1 := by rw [← hV1]; exact HBV.alloc HBV.size _
  have BX1 : Blk V1 (w.heap.size) 26 #[.string nm, .slice B m d] := by rw [← hV1]; exact BXV.alloc _
  have Z1 : V.heap.size + 1 ≤ V1.heap.size := by rw [← hV1]; simp
  have OW1 : V1.ownsRow (w.heap.size + 1) 26 2 (.slice (some ⟨V.heap.size, 0, none⟩) 0 0) 0 [] := by rw [← hV1]; exact own_empty V 26 _ BXV.lt
  rw [hV1]; clear hV1
  refine hK_.out _ _ ⟨BX1.cell 0, BX1.cell 1⟩ (fun hS2_ => ?_)
  clear hK_ hS_; have hS_ := hS2_; clear hS2_
  (try simp only [Act.put, List.setIfInBounds_toArray, List.set_cons_zero, List.set_cons_succ])
  refine wpAnyH_ready (rs := [4]) (by kernel_rfl) (by simp) ?_
  refine AllReadyH.cons (o := _) (by (simp only [List.getElem?_toArray, List.getElem?_cons_succ, List.getElem?_cons_zero]); rfl) (fun K_ hK_ => ?_) AllReadyH.nil
  refine step_app (by rfl) _ _ _ (by rfl) (w.heap.size + 1) 26 i0 _ 40 Try.underlying23 hi hz hsz hby rfl (.slice (some ⟨V.heap.size, 0, none⟩) 0 0) 0 [] (by rfl) OW1 (some p) k c (rcells (rs.take k)) (by rfl) (IsRefs.srcTake (RR.out.below RefE.stays HB1 (Nat.le_refl _)) (by omega)) (by first | exact rcells_one _ | simp [Value.oneCell']) (by unfold maxLen; omega) (by omega) BX1.lt ?_
  intro v2 V2 OW2 G2
  have HB2 := HB1.trans (own_below OW1 G2 (Nat.le_succ _) HB1.size)
  have BX2 := BX1.kept G2 (own_ne OW1 (Nat.lt_succ_self _))
  refine hK_.out _ _ ⟨BX2.cell 0, BX2.cell 1⟩ (fun hS2_ => ?_)
  clear hK_ hS_; have hS_ := hS2_; clear hS2_
  (try simp only [Act.put, List.setIfInBounds_toArray, List.set_cons_zero, List.set_cons_succ])
  refine wpAnyH_ready (rs := [9]) (by kernel_rfl) (by simp) ?_
  refine AllReadyH.cons (o := _) (by (simp only [List.getElem?_toArray, List.getElem?_cons_succ, List.getElem?_cons_zero]); rfl) (fun K_ hK_ => ?_) AllReadyH.nil
  refine step_app (by rfl) _ _ _ (by rfl) (w.heap.size + 1) 26 i0 _ 40 Try.underlying23 hi hz hsz hby rfl v2 (0 + k) ([] ++ (rcells (rs.take k))) (by rfl) OW2 QK (n - (k + 1)) (c - (k + 1)) (rcells (rs.drop (k + 1))) (by rfl) (SD.out _ HB2) (by first | exact rcells_one _ | simp [Value.oneCell']) (by unfold maxLen; omega) (by omega) BX2.lt ?_
  intro v3 V3 OW3 G3
  have HB3 := HB2.trans (own_below OW2 G3 (Nat.le_succ _) HB2.size)
  have BX3 := BX2.kept G3 (own_ne OW2 (Nat.lt_succ_self _))
  refine hK_.out _ _ ⟨BX3.cell 0, BX3.cell 1⟩ (fun hS2_ => ?_)
  clear hK_ hS_; have hS_ := hS2_; clear hS2_
  (try simp only [Act.put, List.setIfInBounds_toArray, List.set_cons_zero, List.set_cons_succ])
  refine takeV (i := 10) (v := v3) (by (simp only [List.getElem?_toArray, List.getElem?_cons_succ, List.getElem?_cons_zero]); rfl) (by kernel_rfl) (by kernel_rfl) (by kernel_rfl) (by rfl) (fun _ _ _ h => h) (Or.inl ⟨by rfl, ?_⟩) hS_ (by (simp only [List.setIfInBounds_toArray, List.set_cons_succ, List.set_cons_zero]); rfl) ?_
  · intro w_ hSw_; (try dsimp only at hSw_); go_simp
  refine wpAnyH_done (by kernel_rfl) ?_ _
  obtain ⟨A9, c9, r9, e9, i9, m9⟩ := gone_done HL.out hkn OW3 RIN.out HB3 PD.out
  have M9 := Lib.hid m9; clear m9
  subst e9
  go_wp2
  go_ret; exact ⟨_, _, r9, rfl, i9, M9.out, HB3⟩

/-- Facts that are not among others. -/
def lessL (xs ys : List At) : List At := xs.filter fun a => !hasB ys a

theorem less_yes {xs ys : List At} {k : Nat} {q : At} (h : xs[k]? = some q) (hq : hasB ys q = false) : lessL (xs.take (k + 1)) ys = lessL (xs.take k) ys ++ [q] := by
  unfold lessL; rw [List.take_add_one, h, List.filter_append]; simp [hq]
theorem less_no {xs ys : List At} {k : Nat} {q : At} (h : xs[k]? = some q) (hq : hasB ys q = true) : lessL (xs.take (k + 1)) ys = lessL (xs.take k) ys := by
  unfold lessL; rw [List.take_add_one, h, List.filter_append]; simp [hq]
theorem less_len (xs ys : List At) (k : Nat) : (lessL (xs.take k) ys).length ≤ k := Nat.le_trans (List.length_filter_le _ _) (by rw [List.length_take]; omega)

set_option maxRecDepth 100000 in
set_option maxHeartbeats 4000000 in
theorem l3Less_any (A : Option Addr) (n c : Nat) (xs : List At) (B : Option Addr) (n' c' : Nat) (ys : List At) (w : World) (h : IsAtoms w 0 w.heap.size A n c xs) (hn : SmallAtoms n xs) (h' : IsAtoms w 0 w.heap.size B n' c' ys) (hr : risesB ys = true) :
    Calls Try.prog 86 #[.slice A n c, .slice B n' c'] w (ReadPost (lessL xs ys) w) := by
  obtain ⟨hn1, hn2⟩ := hn
  obtain ⟨i0, hi, hz, hsz, hby⟩ := info_parts Try.infoAt
  have HN := Lib.hid hn2; clear hn2
  have HL0 := Lib.hid h.1
  have H := Lib.hid h; have H' := Lib.hid h'; clear h h'
  have HRR := Lib.hid hr; clear hr
  go_enter Try.func86, Try.ntmps86
  go_wp2
  go_loopw [5, 6] (fun o i wr => ∃ (k j : Nat) (Av : Option Addr) (cv : Nat) (rs : List Rf), k ≤ n ∧ i = .int .i64 k ∧ o = .slice Av j cv ∧ j ≤ k ∧ wr.ownsRow w.heap.size 26 2 (.slice Av j cv) j (rcells rs) ∧ rs.length = j ∧ rs.map rAt = lessL (xs.take k) ys ∧ OwnIn wr w.heap.size wr.heap.size rs ∧ Below w.heap.size w wr) (fun _ i _ => n - (intOf i).toNat)
  case atStart => exact ⟨0, 0, some ⟨w.heap.size, 0, none⟩, 0, [], Nat.zero_le _, rfl, rfl, Nat.le_refl _, ⟨rfl, .inr ⟨w.heap.size, 0, #[], rfl, Nat.le_refl _, heap_alloc_new w _, Nat.le_refl _, by unfold maxLen; omega, rfl, rfl⟩⟩, rfl, rfl, OwnIn.nil, below1 _ _⟩
  case round =>
    obtain ⟨k, j, Av, cv, rs, hk, rfl, rfl, hjk, hrow, hl, hm, ho, hb⟩ := hrel
    have HR := Lib.hid hrow; have HL := Lib.hid hl; have HM := Lib.hid hm; have HO := Lib.hid ho
    clear hrow hl hm ho
    by_cases hlt : k < n
    · obtain ⟨p, q, hA, hlo, hhi, hg, hE⟩ := (H.out.below AtomE.stays hb (Nat.le_refl _)).at_ hlt
      obtain ⟨A', m', d', d1, d3, d4, d5⟩ := hE.out
      clear hE
      subst hA
      have hq : m' ≤ 1048576 := by rw [← d5.1]; exact HN.out q (List.mem_of_getElem? hg)
      have HG := Lib.hid hg; clear hg
      have hwr := hb.size
      have hpz : p.block < wr.heap.size := Nat.lt_of_lt_of_le hhi hwr
      have HT := Lib.hid (d5.keep (w' := wr) (lo' := 0) (hi' := wr.heap.size) (fun _ _ _ => rfl) (Nat.le_refl _) hb.size); clear d5
      go_wp2_with fail
      refine (l3Has_any B n' c' ys q.1 A' m' d' q.2 _ (H'.out.up AtomE.stays hb) HT.out HRR.out).mono ?_; rintro e w0 ⟨rfl, hb0⟩
      have y1 := (hb0.cell (p := p.add (k * 2)) (by rw [block_add]; exact hpz)).trans d1
      have y2 := (hb0.cell (p := ⟨(p.add (k * 2)).block, (p.add (k * 2)).off + 1, none⟩) (by rw [block_add]; exact hpz)).trans d4
      have HB0 := belowThen hb hb0
      have hw0s := hb0.size
      have HO0 := Lib.hid (HO.out.keep (w' := w0) (fun b _ h2 => hb0.block b h2) (Nat.le_refl _) hb0.size)
      have HR0 := Lib.hid (ownsRow_up HR.out hb0)
      clear d1 d4
      cases hh : hasB ys (q.1, q.2)
      · have HH := Lib.hid (show hasB ys q = false from hh); clear hh
        go_wp2_with fail
        refine (l3AtomCopy_any q.1 A' m' d' q.2 _ (HT.out.up hb0) hq).mono ?_; rintro e w1 ⟨A2, d2, rfl, hT, hR, hb1⟩
        have HT1 := Lib.hid hT
        have HR1 := Lib.hid hR
        have HRW := Lib.hid (ownsRow_up HR0.out hb1)
        have hw1s : w.heap.size ≤ w1.heap.size := Nat.le_trans HB0.size hb1.size
        clear hT hR y1 y2
        go_wp2_with (at_builtin; refine wpList_append_own _ rfl _ _ 23 rfl w.heap.size 26 i0 _ 2 40 Try.underlying23 hi hz hsz hby rfl (by decide) _ _ _ rfl (HRW.out.alloc _) ⟨w1.heap.size, 0, none⟩ 1 1 [.string q.1, .slice A2 m' d2] rfl rfl (two_new _ _ _ _) (by simp [Value.oneCell']) (by unfold maxLen; omega) (by omega) (by simp; omega) ?_; intro v' w2 hown' hgrow' _; obtain ⟨g', cap', rfl⟩ := ownsRow_succ hown'; have hown := Lib.hid hown'; have hgrow := Lib.hid hgrow'; clear hown' hgrow')
        obtain ⟨rs', r1, r2, r3, r4, r5⟩ := copy_more HL.out HM.out HO0.out HB0 hb1 d3 HT1.out HR1.out HRW.out hown.out hgrow.out
        go_roundw
        case rel => exact ⟨k + 1, j + 1, _, _, rs', by omega, by go_num, rfl, by omega, r3, r1, by rw [r2, less_yes HG.out HH.out], r4, r5⟩
        case measure => simp [intOf]; omega
      · have HH := Lib.hid (show hasB ys q = true from hh); clear hh
        go_wp2
        go_roundw
        case rel => exact ⟨k + 1, j, _, _, rs, by omega, by go_num, rfl, by omega, HR0.out, HL.out, by rw [less_no HG.out HH.out]; exact HM.out, HO0.out, HB0⟩
        case measure => simp [intOf]; omega
    · have hxs : lessL (xs.take k) ys = lessL xs ys := by rw [List.take_of_length_le (by have := HL0.out; omega)]
      obtain ⟨A3, c3, e3, hO⟩ := OwnRefs.of_row HR.out HL.out.symm (Nat.le_refl _) HO.out (Nat.le_refl _)
      injection e3 with e3 _ e4
      subst e3; subst e4
      have HX := Lib.hid hxs; clear hxs
      go_wp2
      go_ret
      exact ⟨Av, cv, rs, by rw [HL.out]; rfl, by rw [HL.out]; exact hO.refs.keep RefE.stays (fun _ _ _ => rfl) (Nat.zero_le _) (Nat.le_refl _), by rw [HM.out]; exact HX.out, hb⟩

end Go.Proofs.Ytbhkihnekendbaa
