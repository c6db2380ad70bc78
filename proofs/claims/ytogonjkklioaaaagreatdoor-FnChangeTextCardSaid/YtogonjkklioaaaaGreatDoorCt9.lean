/-
  Texts of one claim, put together.
-/
import Derived.Test.YtogonjkklioaaaaGreatDoorCt8
import Derived.Test.YtogonjkklioaaaaGreatDoorCt6
namespace Go.Proofs.YtogonjkklioaaaaGreatDoor
open Go.RowKit

/-- A list of atoms, handed back. -/
def ReadPost (xs : List At) (w : World) (e : Ending) (w' : World) : Prop := ∃ A c rs, e = .returned (.slice A rs.length c) ∧ IsRefs w' 0 w'.heap.size A rs.length c rs ∧ rs.map rAt = xs ∧ Below w.heap.size w w'

theorem put_done {w V : World} {k n : Nat} {v : Value} {rs : List Rf} {nm : ByteArray} {B : Option Addr} {m d : Nat} {ts : List Tm} (hl : rs.length = n) (hk : k ≤ n)
    (h : V.ownsRow (w.heap.size + 1) 51 2 v (0 + k + 1 + (n - k)) ([] ++ rcells (rs.take k) ++ [.string nm, .slice B m d] ++ rcells (rs.drop k))) (hr : RefsIn w 0 w.heap.size (rs.take k ++ (nm, B, m, d, ts) :: rs.drop k)) (hb : Below w.heap.size w V) :
    ∃ A c, v = .slice A (rs.take k ++ (nm, B, m, d, ts) :: rs.drop k).length c ∧ IsRefs V 0 V.heap.size A (rs.take k ++ (nm, B, m, d, ts) :: rs.drop k).length c (rs.take k ++ (nm, B, m, d, ts) :: rs.drop k) := by
  have hlen : (rs.take k ++ (nm, B, m, d, ts) :: rs.drop k).length = 0 + k + 1 + (n - k) := by
    rw [List.length_append, List.length_cons, List.length_take, List.length_drop, hl, Nat.min_eq_left hk]; omega
  rw [← hlen] at h
  refine refs_own (base := w.heap.size + 1) ?_ rfl (Nat.zero_le _) (hr.keep (fun _ _ hq => hb.cell hq) (Nat.le_refl _) (Nat.le_refl _)) hb.size
  have e : rcells (rs.take k ++ (nm, B, m, d, ts) :: rs.drop k) = [] ++ rcells (rs.take k) ++ [.string nm, .slice B m d] ++ rcells (rs.drop k) := by
    rw [rcells_app]; unfold rcells; simp
  rw [e]; exact h

theorem put_refs {w : World} {rs : List Rf} {k : Nat} {nm : ByteArray} {B : Option Addr} {m d : Nat} {ts : List Tm} (h : RefsIn w 0 w.heap.size rs) (hs : nm.size ≤ maxLen) (ht : IsTerms w 0 w.heap.size B m d ts) : RefsIn w 0 w.heap.size (rs.take k ++ (nm, B, m, d, ts) :: rs.drop k) := by
  intro r hr
  rcases List.mem_append.1 hr with h1 | h1
  · exact h r (List.mem_of_mem_take h1)
  · rcases List.mem_cons.1 h1 with rfl | h1
    · exact ⟨hs, ht⟩
    · exact h r (List.mem_of_mem_drop h1)

set_option maxRecDepth 100000 in
set_option maxHeartbeats 8000000 in
theorem l3Put_any (A : Option Addr) (n c : Nat) (xs : List At) (nm : ByteArray) (B : Option Addr) (m d : Nat) (ts : List Tm) (w : World) (h : IsAtoms w 0 w.heap.size A n c xs) (hs : nm.size ≤ maxLen) (h' : IsTerms w 0 w.heap.size B m d ts) (hr : risesB xs = true) (hmax : n ≤ 1048576) :
    Calls Tryz.prog 85 #[.slice A n c, .agg #[.string nm, .slice B m d]] w (ReadPost (putL xs (nm, ts)) w) := by
  have HX := Lib.hid h.1
  obtain ⟨rs, hrs, hm⟩ := refs_of h
  have HL := Lib.hid hrs.1
  have RR := Lib.hid hrs
  have HM := Lib.hid hm; clear hm
  have H := Lib.hid h; have H' := Lib.hid h'; clear h h'
  have HRR := Lib.hid hr; clear hr
  have hnc := hrs.2.1
  have hcm := hrs.2.2.1
  have hqn : 0 < n → ∃ p, A = some p := fun h0 => by obtain ⟨p, hp, _⟩ := hrs.2.2.2 h0; exact ⟨p, hp⟩
  unfold maxLen at hcm
  clear hrs
  obtain ⟨i0, hi, hz, hsz, hby⟩ := info_parts Tryz.infoAt
  have hw1 := below1 w (.cells #[.string nm, .slice B m d] 51)
  have B1 := Blk.new w 51 #[.string nm, .slice B m d]
  go_enter Tryz.func85, Tryz.ntmps85
  go_wp2_with fail
  refine (l3At_any A n c xs nm B m d ts _ (H.out.up AtomE.stays hw1) (H'.out.up hw1) HRR.out).mono ?_; rintro e w2 ⟨k, ⟨rfl, hkn, hlo, hat⟩, hb2⟩
  have HB2 := belowThen hw1 hb2
  have B2 := B1.below hb2
  have HLO := Lib.hid hlo; have HAT := Lib.hid hat; clear hlo hat
  cases hB : hasB xs (nm, ts)
  · have PD := Lib.hid (show (rs.take k ++ (nm, B, m, d, ts) :: rs.drop k).map rAt = putL xs (nm, ts) from by
      unfold putL
      rw [hB, if_neg (by simp), place_ins (k := k) (by rw [HX.out]; exact hkn) HLO.out HAT.out, List.map_append, List.map_cons, List.map_take, List.map_drop, HM.out]
      rfl)
    have RIN := Lib.hid (put_refs (k := k) (RefsIn.of RR.out) hs H'.out)
    clear hB
    go_wp2
    have x1 : w2.drew.cell? ⟨w.heap.size, 0, none⟩ = some (.string nm) := B2.cell 0
    have x2 : w2.drew.cell? ⟨w.heap.size, 1, none⟩ = some (.slice B m d) := B2.cell 1
    have HBV : Below w.heap.size w w2.drew := HB2.drew
    have BXV : Blk w2.drew w.heap.size 51 #[.string nm, .slice B m d] := B2
    have hsV : w.heap.size + 1 ≤ w2.drew.heap.size := B2.lt
    obtain ⟨V, hV⟩ : ∃ V, w2.drew = V := ⟨_, rfl⟩
    rw [hV] at x1 x2 HBV BXV hsV
    cases A with
    | none =>
      have hn0 : n = 0 := by
        rcases Nat.eq_zero_or_pos n with h0 | h0
        · exact h0
        · obtain ⟨p, hp⟩ := hqn h0; cases hp
      subst hn0
      have hk0 : k = 0 := by omega
      subst hk0
      have hk0i : ((0 : Nat) : Int) = 0 := rfl
      have hrs0 : rs = [] := List.eq_nil_of_length_eq_zero HL.out
      have SD : Hid (∀ W, Below w.heap.size w W → SrcAt W none 0 (rcells (rs.drop 0))) := Lib.hid (fun W _ => by rw [hrs0]; exact ⟨rfl, fun _ _ j u hu => absurd hu (by simp [rcells]), fun _ => rfl⟩)
      have HR0 := Lib.hid hrs0; clear hrs0
      refine wp_region_held_drew (S := fun W => W.cell? ⟨w.heap.size, 0, none⟩ = some (.string nm) ∧ W.cell? ⟨w.heap.size, 1, none⟩ = some (.slice B m d)) (by kernel_rfl) (by rw [hV]; exact ⟨x1, x2⟩) ?_
      rw [hV]
      intro hS_
      refine takeV (i := 1) (v := .slice none 0 c) (by (simp only [List.getElem?_toArray, List.getElem?_cons_succ, List.getElem?_cons_zero]); rfl) (by kernel_rfl) (by kernel_rfl) (by kernel_rfl) (by rfl) (fun _ _ _ h => h) (Or.inl ⟨by rfl, ?_⟩) hS_ (by (simp only [List.setIfInBounds_toArray, List.set_cons_succ, List.set_cons_zero]); rfl) ?_
      · intro w_ hSw_; (try dsimp only at hSw_); go_simp
      refine takeV (i := 2) (v := .int .i64 0) (by (simp only [List.getElem?_toArray, List.getElem?_cons_succ, List.getElem?_cons_zero]); rfl) (by kernel_rfl) (by kernel_rfl) (by kernel_rfl) (by rfl) (fun _ _ _ h => h) (Or.inl ⟨by rfl, ?_⟩) hS_ (by (simp only [List.setIfInBounds_toArray, List.set_cons_succ, List.set_cons_zero]); rfl) ?_
      · intro w_ hSw_; (try dsimp only at hSw_); go_simp
      refine takeV (i := 3) (v := .slice none 0 c) (by (simp only [List.getElem?_toArray, List.getElem?_cons_succ, List.getElem?_cons_zero]); rfl) (by kernel_rfl) (by kernel_rfl) (by kernel_rfl) (by rfl) (fun _ _ _ h => h) (Or.inl ⟨by rfl, ?_⟩) hS_ (by (simp only [List.setIfInBounds_toArray, List.set_cons_succ, List.set_cons_zero]); rfl) ?_
      · intro w_ hSw_; (try dsimp only at hSw_); go_simp
      refine takeV (i := 5) (v := .agg #[.string nm, .slice B m d]) (by (simp only [List.getElem?_toArray, List.getElem?_cons_succ, List.getElem?_cons_zero]); rfl) (by kernel_rfl) (by kernel_rfl) (by kernel_rfl) (by rfl) (fun _ _ _ h => h) (Or.inl ⟨by rfl, ?_⟩) hS_ (by (simp only [List.setIfInBounds_toArray, List.set_cons_succ, List.set_cons_zero]); rfl) ?_
      · intro w_ hSw_; (try dsimp only at hSw_); go_simp
      refine takeV (i := 8) (v := .slice none 0 c) (by (simp only [List.getElem?_toArray, List.getElem?_cons_succ, List.getElem?_cons_zero]); rfl) (by kernel_rfl) (by kernel_rfl) (by kernel_rfl) (by rfl) (fun _ _ _ h => h) (Or.inl ⟨by rfl, ?_⟩) hS_ (by (simp only [List.setIfInBounds_toArray, List.set_cons_succ, List.set_cons_zero]); rfl) ?_
      · intro w_ hSw_; (try dsimp only at hSw_); go_simp
      refine takeV (i := 9) (v := .int .i64 0) (by (simp only [List.getElem?_toArray, List.getElem?_cons_succ, List.getElem?_cons_zero]); rfl) (by kernel_rfl) (by kernel_rfl) (by kernel_rfl) (by rfl) (fun _ _ _ h => h) (Or.inl ⟨by rfl, ?_⟩) hS_ (by (simp only [List.setIfInBounds_toArray, List.set_cons_succ, List.set_cons_zero]); rfl) ?_
      · intro w_ hSw_; (try dsimp only at hSw_); go_simp
      refine takeV (i := 10) (v := .slice none 0 c) (by (simp only [List.getElem?_toArray, List.getElem?_cons_succ, List.getElem?_cons_zero]); rfl) (by kernel_rfl) (by kernel_rfl) (by kernel_rfl) (by rfl) (fun _ _ _ h => h) (Or.inl ⟨by rfl, ?_⟩) hS_ (by (simp only [List.setIfInBounds_toArray, List.set_cons_succ, List.set_cons_zero]); rfl) ?_
      · intro w_ hSw_; (try dsimp only at hSw_); go_simp
      refine wpAnyH_ready (rs := [0, 6]) (by kernel_rfl) (by simp) ?_
      refine (AllReadyH.cons (o := _) (by (simp only [List.getElem?_toArray, List.getElem?_cons_zero]); rfl) (fun K_ hK_ => ?_) (AllReadyH.cons (o := _) (by (simp only [List.getElem?_toArray, List.getElem?_cons_succ, List.getElem?_cons_zero]); rfl) (fun K_ hK_ => ?_) AllReadyH.nil))
      · rw [if_pos (by rfl)]
        go_simp
        obtain ⟨V1, hV1⟩ : ∃ X, V.alloc (.cells #[] 51) = X := ⟨_, rfl⟩
        have HB1 : Below w.heap.size w V1 := by rw [← hV1]; exact HBV.alloc HBV.size _
        have BX1 : Blk V1 (w.heap.size) 51 #[.string nm, .slice B m d] := by rw [← hV1]; exact BXV.alloc _
        have Z1 : V.heap.size + 1 ≤ V1.heap.size := by rw [← hV1]; simp
        have OW1 : V1.ownsRow (w.heap.size + 1) 51 2 (.slice (some ⟨V.heap.size, 0, none⟩) 0 0) 0 [] := by rw [← hV1]; exact own_empty V 51 _ BXV.lt
        rw [hV1]; clear hV1
        refine hK_.out _ _ ⟨BX1.cell 0, BX1.cell 1⟩ (fun hS2_ => ?_)
        clear hK_ hS_; have hS_ := hS2_; clear hS2_
        (try simp only [Act.put, List.setIfInBounds_toArray, List.set_cons_zero, List.set_cons_succ])
        refine wpAnyH_ready (rs := [4, 6]) (by kernel_rfl) (by simp) ?_
        refine (AllReadyH.cons (o := _) (by (simp only [List.getElem?_toArray, List.getElem?_cons_succ, List.getElem?_cons_zero]); rfl) (fun K_ hK_ => ?_) (AllReadyH.cons (o := _) (by (simp only [List.getElem?_toArray, List.getElem?_cons_succ, List.getElem?_cons_zero]); rfl) (fun K_ hK_ => ?_) AllReadyH.nil))
        · refine step_app (by rfl) _ _ _ (by rfl) (w.heap.size + 1) 51 i0 _ 40 Tryz.underlying23 hi hz hsz hby rfl (.slice (some ⟨V.heap.size, 0, none⟩) 0 0) 0 [] (by rfl) OW1 none 0 c (rcells (rs.take 0)) (by rfl) (IsRefs.srcTake (RR.out.below RefE.stays HB1 (Nat.le_refl _)) (by omega)) (by first | exact rcells_one _ | simp [Value.oneCell']) (by unfold maxLen; omega) (by omega) BX1.lt ?_
          intro v2 V2 OW2 G2
          have HB2 := HB1.trans (own_below OW1 G2 (Nat.le_succ _) HB1.size)
          have BX2 := BX1.kept G2 (own_ne OW1 (Nat.lt_succ_self _))
          refine hK_.out _ _ ⟨BX2.cell 0, BX2.cell 1⟩ (fun hS2_ => ?_)
          clear hK_ hS_; have hS_ := hS2_; clear hS2_
          (try simp only [Act.put, List.setIfInBounds_toArray, List.set_cons_zero, List.set_cons_succ])
          refine wpAnyH_ready (rs := [6]) (by kernel_rfl) (by simp) ?_
          refine AllReadyH.cons (o := _) (by (simp only [List.getElem?_toArray, List.getElem?_cons_succ, List.getElem?_cons_zero]); rfl) (fun K_ hK_ => ?_) AllReadyH.nil
          rw [if_pos (by rfl)]
          go_simp
          obtain ⟨V3, hV3⟩ : ∃ X, V2.alloc (.cells #[.string nm, .slice B m d] 51) = X := ⟨_, rfl⟩
          have HB3 : Below w.heap.size w V3 := by rw [← hV3]; exact HB2.alloc HB2.size _
          have BX3 : Blk V3 (w.heap.size) 51 #[.string nm, .slice B m d] := by rw [← hV3]; exact BX2.alloc _
          have Z3 : V2.heap.size + 1 ≤ V3.heap.size := by rw [← hV3]; simp
          have TM3 : Blk V3 (V2.heap.size) 51 #[.string nm, .slice B m d] := by rw [← hV3]; exact Blk.new V2 _ _
          have OW3 : V3.ownsRow (w.heap.size + 1) 51 2 v2 (0 + 0) ([] ++ (rcells (rs.take 0))) := by rw [← hV3]; exact OW2.alloc _
          rw [hV3]; clear hV3
          refine hK_.out _ _ ⟨BX3.cell 0, BX3.cell 1⟩ (fun hS2_ => ?_)
          clear hK_ hS_; have hS_ := hS2_; clear hS2_
          (try simp only [Act.put, List.setIfInBounds_toArray, List.set_cons_zero, List.set_cons_succ])
          refine wpAnyH_ready (rs := [7]) (by kernel_rfl) (by simp) ?_
          refine AllReadyH.cons (o := _) (by (simp only [List.getElem?_toArray, List.getElem?_cons_succ, List.getElem?_cons_zero]); rfl) (fun K_ hK_ => ?_) AllReadyH.nil
          refine step_app (by rfl) _ _ _ (by rfl) (w.heap.size + 1) 51 i0 _ 40 Tryz.underlying23 hi hz hsz hby rfl v2 (0 + 0) ([] ++ (rcells (rs.take 0))) (by rfl) OW3 (some ⟨V2.heap.size, 0, none⟩) 1 1 [.string nm, .slice B m d] (by rfl) (srcOne _ _ _ _ _ TM3) (by first | exact rcells_one _ | simp [Value.oneCell']) (by unfold maxLen; omega) (by omega) BX3.lt ?_
          intro v4 V4 OW4 G4
          have HB4 := HB3.trans (own_below OW3 G4 (Nat.le_succ _) HB3.size)
          have BX4 := BX3.kept G4 (own_ne OW3 (Nat.lt_succ_self _))
          refine hK_.out _ _ ⟨BX4.cell 0, BX4.cell 1⟩ (fun hS2_ => ?_)
          clear hK_ hS_; have hS_ := hS2_; clear hS2_
          (try simp only [Act.put, List.setIfInBounds_toArray, List.set_cons_zero, List.set_cons_succ])
          refine wpAnyH_ready (rs := [11]) (by kernel_rfl) (by simp) ?_
          refine AllReadyH.cons (o := _) (by (simp only [List.getElem?_toArray, List.getElem?_cons_succ, List.getElem?_cons_zero]); rfl) (fun K_ hK_ => ?_) AllReadyH.nil
          refine step_app (by rfl) _ _ _ (by rfl) (w.heap.size + 1) 51 i0 _ 40 Tryz.underlying23 hi hz hsz hby rfl v4 (0 + 0 + 1) ([] ++ (rcells (rs.take 0)) ++ [.string nm, .slice B m d]) (by rfl) OW4 none 0 c (rcells (rs.drop 0)) (by rfl) (SD.out _ HB4) (by first | exact rcells_one _ | simp [Value.oneCell']) (by unfold maxLen; omega) (by omega) BX4.lt ?_
          intro v5 V5 OW5 G5
          have HB5 := HB4.trans (own_below OW4 G5 (Nat.le_succ _) HB4.size)
          have BX5 := BX4.kept G5 (own_ne OW4 (Nat.lt_succ_self _))
          refine hK_.out _ _ ⟨BX5.cell 0, BX5.cell 1⟩ (fun hS2_ => ?_)
          clear hK_ hS_; have hS_ := hS2_; clear hS2_
          (try simp only [Act.put, List.setIfInBounds_toArray, List.set_cons_zero, List.set_cons_succ])
          refine takeV (i := 12) (v := v5) (by (simp only [List.getElem?_toArray, List.getElem?_cons_succ, List.getElem?_cons_zero]); rfl) (by kernel_rfl) (by kernel_rfl) (by kernel_rfl) (by rfl) (fun _ _ _ h => h) (Or.inl ⟨by rfl, ?_⟩) hS_ (by (simp only [List.setIfInBounds_toArray, List.set_cons_succ, List.set_cons_zero]); rfl) ?_
          · intro w_ hSw_; (try dsimp only at hSw_); go_simp
          refine wpAnyH_done (by kernel_rfl) ?_ _
          obtain ⟨A9, c9, e9, i9⟩ := put_done HL.out hkn OW5 RIN.out HB5
          subst e9
          go_wp2
          go_ret; exact ⟨_, _, _, rfl, i9, PD.out, HB5⟩
        · rw [if_pos (by rfl)]
          go_simp
          obtain ⟨V6, hV6⟩ : ∃ X, V1.alloc (.cells #[.string nm, .slice B m d] 51) = X := ⟨_, rfl⟩
          have HB6 : Below w.heap.size w V6 := by rw [← hV6]; exact HB1.alloc HB1.size _
          have BX6 : Blk V6 (w.heap.size) 51 #[.string nm, .slice B m d] := by rw [← hV6]; exact BX1.alloc _
          have Z6 : V1.heap.size + 1 ≤ V6.heap.size := by rw [← hV6]; simp
          have TM6 : Blk V6 (V1.heap.size) 51 #[.string nm, .slice B m d] := by rw [← hV6]; exact Blk.new V1 _ _
          have OW6 : V6.ownsRow (w.heap.size + 1) 51 2 (.slice (some ⟨V.heap.size, 0, none⟩) 0 0) 0 [] := by rw [← hV6]; exact OW1.alloc _
          rw [hV6]; clear hV6
          refine hK_.out _ _ ⟨BX6.cell 0, BX6.cell 1⟩ (fun hS2_ => ?_)
          clear hK_ hS_; have hS_ := hS2_; clear hS2_
          (try simp only [Act.put, List.setIfInBounds_toArray, List.set_cons_zero, List.set_cons_succ])
          refine wpAnyH_ready (rs := [4]) (by kernel_rfl) (by simp) ?_
          refine AllReadyH.cons (o := _) (by (simp only [List.getElem?_toArray, List.getElem?_cons_succ, List.getElem?_cons_zero]); rfl) (fun K_ hK_ => ?_) AllReadyH.nil
          refine step_app (by rfl) _ _ _ (by rfl) (w.heap.size + 1) 51 i0 _ 40 Tryz.underlying23 hi hz hsz hby rfl (.slice (some ⟨V.heap.size, 0, none⟩) 0 0) 0 [] (by rfl) OW6 none 0 c (rcells (rs.take 0)) (by rfl) (IsRefs.srcTake (RR.out.below RefE.stays HB6 (Nat.le_refl _)) (by omega)) (by first | exact rcells_one _ | simp [Value.oneCell']) (by unfold maxLen; omega) (by omega) BX6.lt ?_
          intro v7 V7 OW7 G7
          have HB7 := HB6.trans (own_below OW6 G7 (Nat.le_succ _) HB6.size)
          have BX7 := BX6.kept G7 (own_ne OW6 (Nat.lt_succ_self _))
          have TM7 := TM6.kept G7 (by simp [Value.ownBlock]; omega)
          refine hK_.out _ _ ⟨BX7.cell 0, BX7.cell 1⟩ (fun hS2_ => ?_)
          clear hK_ hS_; have hS_ := hS2_; clear hS2_
          (try simp only [Act.put, List.setIfInBounds_toArray, List.set_cons_zero, List.set_cons_succ])
          refine wpAnyH_ready (rs := [7]) (by kernel_rfl) (by simp) ?_
          refine AllReadyH.cons (o := _) (by (simp only [List.getElem?_toArray, List.getElem?_cons_succ, List.getElem?_cons_zero]); rfl) (fun K_ hK_ => ?_) AllReadyH.nil
          refine step_app (by rfl) _ _ _ (by rfl) (w.heap.size + 1) 51 i0 _ 40 Tryz.underlying23 hi hz hsz hby rfl v7 (0 + 0) ([] ++ (rcells (rs.take 0))) (by rfl) OW7 (some ⟨V1.heap.size, 0, none⟩) 1 1 [.string nm, .slice B m d] (by rfl) (srcOne _ _ _ _ _ TM7) (by first | exact rcells_one _ | simp [Value.oneCell']) (by unfold maxLen; omega) (by omega) BX7.lt ?_
          intro v8 V8 OW8 G8
          have HB8 := HB7.trans (own_below OW7 G8 (Nat.le_succ _) HB7.size)
          have BX8 := BX7.kept G8 (own_ne OW7 (Nat.lt_succ_self _))
          refine hK_.out _ _ ⟨BX8.cell 0, BX8.cell 1⟩ (fun hS2_ => ?_)
          clear hK_ hS_; have hS_ := hS2_; clear hS2_
          (try simp only [Act.put, List.setIfInBounds_toArray, List.set_cons_zero, List.set_cons_succ])
          refine wpAnyH_ready (rs := [11]) (by kernel_rfl) (by simp) ?_
          refine AllReadyH.cons (o := _) (by (simp only [List.getElem?_toArray, List.getElem?_cons_succ, List.getElem?_cons_zero]); rfl) (fun K_ hK_ => ?_) AllReadyH.nil
          refine step_app (by rfl) _ _ _ (by rfl) (w.heap.size + 1) 51 i0 _ 40 Tryz.underlying23 hi hz hsz hby rfl v8 (0 + 0 + 1) ([] ++ (rcells (rs.take 0)) ++ [.string nm, .slice B m d]) (by rfl) OW8 none 0 c (rcells (rs.drop 0)) (by rfl) (SD.out _ HB8) (by first | exact rcells_one _ | simp [Value.oneCell']) (by unfold maxLen; omega) (by omega) BX8.lt ?_
          intro v9 V9 OW9 G9
          have HB9 := HB8.trans (own_below OW8 G9 (Nat.le_succ _) HB8.size)
          have BX9 := BX8.kept G9 (own_ne OW8 (Nat.lt_succ_self _))
          refine hK_.out _ _ ⟨BX9.cell 0, BX9.cell 1⟩ (fun hS2_ => ?_)
          clear hK_ hS_; have hS_ := hS2_; clear hS2_
          (try simp only [Act.put, List.setIfInBounds_toArray, List.set_cons_zero, List.set_cons_succ])
          refine takeV (i := 12) (v := v9) (by (simp only [List.getElem?_toArray, List.getElem?_cons_succ, List.getElem?_cons_zero]); rfl) (by kernel_rfl) (by kernel_rfl) (by kernel_rfl) (by rfl) (fun _ _ _ h => h) (Or.inl ⟨by rfl, ?_⟩) hS_ (by (simp only [List.setIfInBounds_toArray, List.set_cons_succ, List.set_cons_zero]); rfl) ?_
          · intro w_ hSw_; (try dsimp only at hSw_); go_simp
          refine wpAnyH_done (by kernel_rfl) ?_ _
          obtain ⟨A9, c9, e9, i9⟩ := put_done HL.out hkn OW9 RIN.out HB9
          subst e9
          go_wp2
          go_ret; exact ⟨_, _, _, rfl, i9, PD.out, HB9⟩
      · rw [if_pos (by rfl)]
        go_simp
        obtain ⟨V10, hV10⟩ : ∃ X, V.alloc (.cells #[.string nm, .slice B m d] 51) = X := ⟨_, rfl⟩
        have HB10 : Below w.heap.size w V10 := by rw [← hV10]; exact HBV.alloc HBV.size _
        have BX10 : Blk V10 (w.heap.size) 51 #[.string nm, .slice B m d] := by rw [← hV10]; exact BXV.alloc _
        have Z10 : V.heap.size + 1 ≤ V10.heap.size := by rw [← hV10]; simp
        have TM10 : Blk V10 (V.heap.size) 51 #[.string nm, .slice B m d] := by rw [← hV10]; exact Blk.new V _ _
        rw [hV10]; clear hV10
        refine hK_.out _ _ ⟨BX10.cell 0, BX10.cell 1⟩ (fun hS2_ => ?_)
        clear hK_ hS_; have hS_ := hS2_; clear hS2_
        (try simp only [Act.put, List.setIfInBounds_toArray, List.set_cons_zero, List.set_cons_succ])
        refine wpAnyH_ready (rs := [0]) (by kernel_rfl) (by simp) ?_
        refine AllReadyH.cons (o := _) (by (simp only [List.getElem?_toArray, List.getElem?_cons_zero]); rfl) (fun K_ hK_ => ?_) AllReadyH.nil
        rw [if_pos (by rfl)]
        go_simp
        obtain ⟨V11, hV11⟩ : ∃ X, V10.alloc (.cells #[] 51) = X := ⟨_, rfl⟩
        have HB11 : Below w.heap.size w V11 := by rw [← hV11]; exact HB10.alloc HB10.size _
        have BX11 : Blk V11 (w.heap.size) 51 #[.string nm, .slice B m d] := by rw [← hV11]; exact BX10.alloc _
        have Z11 : V10.heap.size + 1 ≤ V11.heap.size := by rw [← hV11]; simp
        have OW11 : V11.ownsRow (w.heap.size + 1) 51 2 (.slice (some ⟨V10.heap.size, 0, none⟩) 0 0) 0 [] := by rw [← hV11]; exact own_empty V10 51 _ BX10.lt
        have TM11 : Blk V11 (V.heap.size) 51 #[.string nm, .slice B m d] := by rw [← hV11]; exact TM10.alloc _
        rw [hV11]; clear hV11
        refine hK_.out _ _ ⟨BX11.cell 0, BX11.cell 1⟩ (fun hS2_ => ?_)
        clear hK_ hS_; have hS_ := hS2_; clear hS2_
        (try simp only [Act.put, List.setIfInBounds_toArray, List.set_cons_zero, List.set_cons_succ])
        refine wpAnyH_ready (rs := [4]) (by kernel_rfl) (by simp) ?_
        refine AllReadyH.cons (o := _) (by (simp only [List.getElem?_toArray, List.getElem?_cons_succ, List.getElem?_cons_zero]); rfl) (fun K_ hK_ => ?_) AllReadyH.nil
        refine step_app (by rfl) _ _ _ (by rfl) (w.heap.size + 1) 51 i0 _ 40 Tryz.underlying23 hi hz hsz hby rfl (.slice (some ⟨V10.heap.size, 0, none⟩) 0 0) 0 [] (by rfl) OW11 none 0 c (rcells (rs.take 0)) (by rfl) (IsRefs.srcTake (RR.out.below RefE.stays HB11 (Nat.le_refl _)) (by omega)) (by first | exact rcells_one _ | simp [Value.oneCell']) (by unfold maxLen; omega) (by omega) BX11.lt ?_
        intro v12 V12 OW12 G12
        have HB12 := HB11.trans (own_below OW11 G12 (Nat.le_succ _) HB11.size)
        have BX12 := BX11.kept G12 (own_ne OW11 (Nat.lt_succ_self _))
        have TM12 := TM11.kept G12 (by simp [Value.ownBlock]; omega)
        refine hK_.out _ _ ⟨BX12.cell 0, BX12.cell 1⟩ (fun hS2_ => ?_)
        clear hK_ hS_; have hS_ := hS2_; clear hS2_
        (try simp only [Act.put, List.setIfInBounds_toArray, List.set_cons_zero, List.set_cons_succ])
        refine wpAnyH_ready (rs := [7]) (by kernel_rfl) (by simp) ?_
        refine AllReadyH.cons (o := _) (by (simp only [List.getElem?_toArray, List.getElem?_cons_succ, List.getElem?_cons_zero]); rfl) (fun K_ hK_ => ?_) AllReadyH.nil
        refine step_app (by rfl) _ _ _ (by rfl) (w.heap.size + 1) 51 i0 _ 40 Tryz.underlying23 hi hz hsz hby rfl v12 (0 + 0) ([] ++ (rcells (rs.take 0))) (by rfl) OW12 (some ⟨V.heap.size, 0, none⟩) 1 1 [.string nm, .slice B m d] (by rfl) (srcOne _ _ _ _ _ TM12) (by first | exact rcells_one _ | simp [Value.oneCell']) (by unfold maxLen; omega) (by omega) BX12.lt ?_
        intro v13 V13 OW13 G13
        have HB13 := HB12.trans (own_below OW12 G13 (Nat.le_succ _) HB12.size)
        have BX13 := BX12.kept G13 (own_ne OW12 (Nat.lt_succ_self _))
        refine hK_.out _ _ ⟨BX13.cell 0, BX13.cell 1⟩ (fun hS2_ => ?_)
        clear hK_ hS_; have hS_ := hS2_; clear hS2_
        (try simp only [Act.put, List.setIfInBounds_toArray, List.set_cons_zero, List.set_cons_succ])
        refine wpAnyH_ready (rs := [11]) (by kernel_rfl) (by simp) ?_
        refine AllReadyH.cons (o := _) (by (simp only [List.getElem?_toArray, List.getElem?_cons_succ, List.getElem?_cons_zero]); rfl) (fun K_ hK_ => ?_) AllReadyH.nil
        refine step_app (by rfl) _ _ _ (by rfl) (w.heap.size + 1) 51 i0 _ 40 Tryz.underlying23 hi hz hsz hby rfl v13 (0 + 0 + 1) ([] ++ (rcells (rs.take 0)) ++ [.string nm, .slice B m d]) (by rfl) OW13 none 0 c (rcells (rs.drop 0)) (by rfl) (SD.out _ HB13) (by first | exact rcells_one _ | simp [Value.oneCell']) (by unfold maxLen; omega) (by omega) BX13.lt ?_
        intro v14 V14 OW14 G14
        have HB14 := HB13.trans (own_below OW13 G14 (Nat.le_succ _) HB13.size)
        have BX14 := BX13.kept G14 (own_ne OW13 (Nat.lt_succ_self _))
        refine hK_.out _ _ ⟨BX14.cell 0, BX14.cell 1⟩ (fun hS2_ => ?_)
        clear hK_ hS_; have hS_ := hS2_; clear hS2_
        (try simp only [Act.put, List.setIfInBounds_toArray, List.set_cons_zero, List.set_cons_succ])
        refine takeV (i := 12) (v := v14) (by (simp only [List.getElem?_toArray, List.getElem?_cons_succ, List.getElem?_cons_zero]); rfl) (by kernel_rfl) (by kernel_rfl) (by kernel_rfl) (by rfl) (fun _ _ _ h => h) (Or.inl ⟨by rfl, ?_⟩) hS_ (by (simp only [List.setIfInBounds_toArray, List.set_cons_succ, List.set_cons_zero]); rfl) ?_
        · intro w_ hSw_; (try dsimp only at hSw_); go_simp
        refine wpAnyH_done (by kernel_rfl) ?_ _
        obtain ⟨A9, c9, e9, i9⟩ := put_done HL.out hkn OW14 RIN.out HB14
        subst e9
        go_wp2
        go_ret; exact ⟨_, _, _, rfl, i9, PD.out, HB14⟩
    | some p =>
      have hkc : k ≤ c := by omega
      have hki : (k : Int) ≤ (c : Int) := by omega
      have hkni : (k : Int) ≤ (n : Int) := by omega
      obtain ⟨QK, hQK⟩ : ∃ q, (if c = k then some p else some (p.add (k * 2))) = q := ⟨_, rfl⟩
      have SD : Hid (∀ W, Below w.heap.size w W → SrcAt W QK (n - k) (rcells (rs.drop k))) := Lib.hid (fun W hb => IsRefs.srcDrop (RR.out.below RefE.stays hb (Nat.le_refl _)) hkn hQK.symm)
      refine wp_region_held_drew (S := fun W => W.cell? ⟨w.heap.size, 0, none⟩ = some (.string nm) ∧ W.cell? ⟨w.heap.size, 1, none⟩ = some (.slice B m d)) (by kernel_rfl) (by rw [hV]; exact ⟨x1, x2⟩) ?_
      rw [hV]
      intro hS_
      refine takeV (i := 1) (v := .slice (some p) n c) (by (simp only [List.getElem?_toArray, List.getElem?_cons_succ, List.getElem?_cons_zero]); rfl) (by kernel_rfl) (by kernel_rfl) (by kernel_rfl) (by rfl) (fun _ _ _ h => h) (Or.inl ⟨by rfl, ?_⟩) hS_ (by (simp only [List.setIfInBounds_toArray, List.set_cons_succ, List.set_cons_zero]); rfl) ?_
      · intro w_ hSw_; (try dsimp only at hSw_); go_simp
      refine takeV (i := 2) (v := .int .i64 (k : Int)) (by (simp only [List.getElem?_toArray, List.getElem?_cons_succ, List.getElem?_cons_zero]); rfl) (by kernel_rfl) (by kernel_rfl) (by kernel_rfl) (by rfl) (fun _ _ _ h => h) (Or.inl ⟨by rfl, ?_⟩) hS_ (by (simp only [List.setIfInBounds_toArray, List.set_cons_succ, List.set_cons_zero]); rfl) ?_
      · intro w_ hSw_; (try dsimp only at hSw_); go_simp
      refine takeV (i := 3) (v := .slice (some p) k c) (by (simp only [List.getElem?_toArray, List.getElem?_cons_succ, List.getElem?_cons_zero]); rfl) (by kernel_rfl) (by kernel_rfl) (by kernel_rfl) (by rfl) (fun _ _ _ h => h) (Or.inl ⟨by rfl, ?_⟩) hS_ (by (simp only [List.setIfInBounds_toArray, List.set_cons_succ, List.set_cons_zero]); rfl) ?_
      · intro w_ hSw_; (try dsimp only at hSw_); go_simp
      refine takeV (i := 5) (v := .agg #[.string nm, .slice B m d]) (by (simp only [List.getElem?_toArray, List.getElem?_cons_succ, List.getElem?_cons_zero]); rfl) (by kernel_rfl) (by kernel_rfl) (by kernel_rfl) (by rfl) (fun _ _ _ h => h) (Or.inl ⟨by rfl, ?_⟩) hS_ (by (simp only [List.setIfInBounds_toArray, List.set_cons_succ, List.set_cons_zero]); rfl) ?_
      · intro w_ hSw_; (try dsimp only at hSw_); go_simp
      refine takeV (i := 8) (v := .slice (some p) n c) (by (simp only [List.getElem?_toArray, List.getElem?_cons_succ, List.getElem?_cons_zero]); rfl) (by kernel_rfl) (by kernel_rfl) (by kernel_rfl) (by rfl) (fun _ _ _ h => h) (Or.inl ⟨by rfl, ?_⟩) hS_ (by (simp only [List.setIfInBounds_toArray, List.set_cons_succ, List.set_cons_zero]); rfl) ?_
      · intro w_ hSw_; (try dsimp only at hSw_); go_simp
      refine takeV (i := 9) (v := .int .i64 (k : Int)) (by (simp only [List.getElem?_toArray, List.getElem?_cons_succ, List.getElem?_cons_zero]); rfl) (by kernel_rfl) (by kernel_rfl) (by kernel_rfl) (by rfl) (fun _ _ _ h => h) (Or.inl ⟨by rfl, ?_⟩) hS_ (by (simp only [List.setIfInBounds_toArray, List.set_cons_succ, List.set_cons_zero]); rfl) ?_
      · intro w_ hSw_; (try dsimp only at hSw_); go_simp
      refine takeV (i := 10) (v := .slice QK (n - k) (c - k)) (by (simp only [List.getElem?_toArray, List.getElem?_cons_succ, List.getElem?_cons_zero]); rfl) (by kernel_rfl) (by kernel_rfl) (by kernel_rfl) (by rfl) (fun _ _ _ h => h) (Or.inl ⟨by rfl, ?_⟩) hS_ (by (simp only [List.setIfInBounds_toArray, List.set_cons_succ, List.set_cons_zero]); rfl) ?_
      · intro w_ hSw_; (try dsimp only at hSw_); go_simp
      refine wpAnyH_ready (rs := [0, 6]) (by kernel_rfl) (by simp) ?_
      refine (AllReadyH.cons (o := _) (by (simp only [List.getElem?_toArray, List.getElem?_cons_zero]); rfl) (fun K_ hK_ => ?_) (AllReadyH.cons (o := _) (by (simp only [List.getElem?_toArray, List.getElem?_cons_succ, List.getElem?_cons_zero]); rfl) (fun K_ hK_ => ?_) AllReadyH.nil))
      · rw [if_pos (by rfl)]
        go_simp
        obtain ⟨V1, hV1⟩ : ∃ X, V.alloc (.cells #[] 51) = X := ⟨_, rfl⟩
        have HB1 : Below w.heap.size w V1 := by rw [← hV1]; exact HBV.alloc HBV.size _
        have BX1 : Blk V1 (w.heap.size) 51 #[.string nm, .slice B m d] := by rw [← hV1]; exact BXV.alloc _
        have Z1 : V.heap.size + 1 ≤ V1.heap.size := by rw [← hV1]; simp
        have OW1 : V1.ownsRow (w.heap.size + 1) 51 2 (.slice (some ⟨V.heap.size, 0, none⟩) 0 0) 0 [] := by rw [← hV1]; exact own_empty V 51 _ BXV.lt
        rw [hV1]; clear hV1
        refine hK_.out _ _ ⟨BX1.cell 0, BX1.cell 1⟩ (fun hS2_ => ?_)
        clear hK_ hS_; have hS_ := hS2_; clear hS2_
        (try simp only [Act.put, List.setIfInBounds_toArray, List.set_cons_zero, List.set_cons_succ])
        refine wpAnyH_ready (rs := [4, 6]) (by kernel_rfl) (by simp) ?_
        refine (AllReadyH.cons (o := _) (by (simp only [List.getElem?_toArray, List.getElem?_cons_succ, List.getElem?_cons_zero]); rfl) (fun K_ hK_ => ?_) (AllReadyH.cons (o := _) (by (simp only [List.getElem?_toArray, List.getElem?_cons_succ, List.getElem?_cons_zero]); rfl) (fun K_ hK_ => ?_) AllReadyH.nil))
        · refine step_app (by rfl) _ _ _ (by rfl) (w.heap.size + 1) 51 i0 _ 40 Tryz.underlying23 hi hz hsz hby rfl (.slice (some ⟨V.heap.size, 0, none⟩) 0 0) 0 [] (by rfl) OW1 (some p) k c (rcells (rs.take k)) (by rfl) (IsRefs.srcTake (RR.out.below RefE.stays HB1 (Nat.le_refl _)) (by omega)) (by first | exact rcells_one _ | simp [Value.oneCell']) (by unfold maxLen; omega) (by omega) BX1.lt ?_
          intro v2 V2 OW2 G2
          have HB2 := HB1.trans (own_below OW1 G2 (Nat.le_succ _) HB1.size)
          have BX2 := BX1.kept G2 (own_ne OW1 (Nat.lt_succ_self _))
          refine hK_.out _ _ ⟨BX2.cell 0, BX2.cell 1⟩ (fun hS2_ => ?_)
          clear hK_ hS_; have hS_ := hS2_; clear hS2_
          (try simp only [Act.put, List.setIfInBounds_toArray, List.set_cons_zero, List.set_cons_succ])
          refine wpAnyH_ready (rs := [6]) (by kernel_rfl) (by simp) ?_
          refine AllReadyH.cons (o := _) (by (simp only [List.getElem?_toArray, List.getElem?_cons_succ, List.getElem?_cons_zero]); rfl) (fun K_ hK_ => ?_) AllReadyH.nil
          rw [if_pos (by rfl)]
          go_simp
          obtain ⟨V3, hV3⟩ : ∃ X, V2.alloc (.cells #[.string nm, .slice B m d] 51) = X := ⟨_, rfl⟩
          have HB3 : Below w.heap.size w V3 := by rw [← hV3]; exact HB2.alloc HB2.size _
          have BX3 : Blk V3 (w.heap.size) 51 #[.string nm, .slice B m d] := by rw [← hV3]; exact BX2.alloc _
          have Z3 : V2.heap.size + 1 ≤ V3.heap.size := by rw [← hV3]; simp
          have TM3 : Blk V3 (V2.heap.size) 51 #[.string nm, .slice B m d] := by rw [← hV3]; exact Blk.new V2 _ _
          have OW3 : V3.ownsRow (w.heap.size + 1) 51 2 v2 (0 + k) ([] ++ (rcells (rs.take k))) := by rw [← hV3]; exact OW2.alloc _
          rw [hV3]; clear hV3
          refine hK_.out _ _ ⟨BX3.cell 0, BX3.cell 1⟩ (fun hS2_ => ?_)
          clear hK_ hS_; have hS_ := hS2_; clear hS2_
          (try simp only [Act.put, List.setIfInBounds_toArray, List.set_cons_zero, List.set_cons_succ])
          refine wpAnyH_ready (rs := [7]) (by kernel_rfl) (by simp) ?_
          refine AllReadyH.cons (o := _) (by (simp only [List.getElem?_toArray, List.getElem?_cons_succ, List.getElem?_cons_zero]); rfl) (fun K_ hK_ => ?_) AllReadyH.nil
          refine step_app (by rfl) _ _ _ (by rfl) (w.heap.size + 1) 51 i0 _ 40 Tryz.underlying23 hi hz hsz hby rfl v2 (0 + k) ([] ++ (rcells (rs.take k))) (by rfl) OW3 (some ⟨V2.heap.size, 0, none⟩) 1 1 [.string nm, .slice B m d] (by rfl) (srcOne _ _ _ _ _ TM3) (by first | exact rcells_one _ | simp [Value.oneCell']) (by unfold maxLen; omega) (by omega) BX3.lt ?_
          intro v4 V4 OW4 G4
          have HB4 := HB3.trans (own_below OW3 G4 (Nat.le_succ _) HB3.size)
          have BX4 := BX3.kept G4 (own_ne OW3 (Nat.lt_succ_self _))
          refine hK_.out _ _ ⟨BX4.cell 0, BX4.cell 1⟩ (fun hS2_ => ?_)
          clear hK_ hS_; have hS_ := hS2_; clear hS2_
          (try simp only [Act.put, List.setIfInBounds_toArray, List.set_cons_zero, List.set_cons_succ])
          refine wpAnyH_ready (rs := [11]) (by kernel_rfl) (by simp) ?_
          refine AllReadyH.cons (o := _) (by (simp only [List.getElem?_toArray, List.getElem?_cons_succ, List.getElem?_cons_zero]); rfl) (fun K_ hK_ => ?_) AllReadyH.nil
          refine step_app (by rfl) _ _ _ (by rfl) (w.heap.size + 1) 51 i0 _ 40 Tryz.underlying23 hi hz hsz hby rfl v4 (0 + k + 1) ([] ++ (rcells (rs.take k)) ++ [.string nm, .slice B m d]) (by rfl) OW4 QK (n - k) (c - k) (rcells (rs.drop k)) (by rfl) (SD.out _ HB4) (by first | exact rcells_one _ | simp [Value.oneCell']) (by unfold maxLen; omega) (by omega) BX4.lt ?_
          intro v5 V5 OW5 G5
          have HB5 := HB4.trans (own_below OW4 G5 (Nat.le_succ _) HB4.size)
          have BX5 := BX4.kept G5 (own_ne OW4 (Nat.lt_succ_self _))
          refine hK_.out _ _ ⟨BX5.cell 0, BX5.cell 1⟩ (fun hS2_ => ?_)
          clear hK_ hS_; have hS_ := hS2_; clear hS2_
          (try simp only [Act.put, List.setIfInBounds_toArray, List.set_cons_zero, List.set_cons_succ])
          refine takeV (i := 12) (v := v5) (by (simp only [List.getElem?_toArray, List.getElem?_cons_succ, List.getElem?_cons_zero]); rfl) (by kernel_rfl) (by kernel_rfl) (by kernel_rfl) (by rfl) (fun _ _ _ h => h) (Or.inl ⟨by rfl, ?_⟩) hS_ (by (simp only [List.setIfInBounds_toArray, List.set_cons_succ, List.set_cons_zero]); rfl) ?_
          · intro w_ hSw_; (try dsimp only at hSw_); go_simp
          refine wpAnyH_done (by kernel_rfl) ?_ _
          obtain ⟨A9, c9, e9, i9⟩ := put_done HL.out hkn OW5 RIN.out HB5
          subst e9
          go_wp2
          go_ret; exact ⟨_, _, _, rfl, i9, PD.out, HB5⟩
        · rw [if_pos (by rfl)]
          go_simp
          obtain ⟨V6, hV6⟩ : ∃ X, V1.alloc (.cells #[.string nm, .slice B m d] 51) = X := ⟨_, rfl⟩
          have HB6 : Below w.heap.size w V6 := by rw [← hV6]; exact HB1.alloc HB1.size _
          have BX6 : Blk V6 (w.heap.size) 51 #[.string nm, .slice B m d] := by rw [← hV6]; exact BX1.alloc _
          have Z6 : V1.heap.size + 1 ≤ V6.heap.size := by rw [← hV6]; simp
          have TM6 : Blk V6 (V1.heap.size) 51 #[.string nm, .slice B m d] := by rw [← hV6]; exact Blk.new V1 _ _
          have OW6 : V6.ownsRow (w.heap.size + 1) 51 2 (.slice (some ⟨V.heap.size, 0, none⟩) 0 0) 0 [] := by rw [← hV6]; exact OW1.alloc _
          rw [hV6]; clear hV6
          refine hK_.out _ _ ⟨BX6.cell 0, BX6.cell 1⟩ (fun hS2_ => ?_)
          clear hK_ hS_; have hS_ := hS2_; clear hS2_
          (try simp only [Act.put, List.setIfInBounds_toArray, List.set_cons_zero, List.set_cons_succ])
          refine wpAnyH_ready (rs := [4]) (by kernel_rfl) (by simp) ?_
          refine AllReadyH.cons (o := _) (by (simp only [List.getElem?_toArray, List.getElem?_cons_succ, List.getElem?_cons_zero]); rfl) (fun K_ hK_ => ?_) AllReadyH.nil
          refine step_app (by rfl) _ _ _ (by rfl) (w.heap.size + 1) 51 i0 _ 40 Tryz.underlying23 hi hz hsz hby rfl (.slice (some ⟨V.heap.size, 0, none⟩) 0 0) 0 [] (by rfl) OW6 (some p) k c (rcells (rs.take k)) (by rfl) (IsRefs.srcTake (RR.out.below RefE.stays HB6 (Nat.le_refl _)) (by omega)) (by first | exact rcells_one _ | simp [Value.oneCell']) (by unfold maxLen; omega) (by omega) BX6.lt ?_
          intro v7 V7 OW7 G7
          have HB7 := HB6.trans (own_below OW6 G7 (Nat.le_succ _) HB6.size)
          have BX7 := BX6.kept G7 (own_ne OW6 (Nat.lt_succ_self _))
          have TM7 := TM6.kept G7 (by simp [Value.ownBlock]; omega)
          refine hK_.out _ _ ⟨BX7.cell 0, BX7.cell 1⟩ (fun hS2_ => ?_)
          clear hK_ hS_; have hS_ := hS2_; clear hS2_
          (try simp only [Act.put, List.setIfInBounds_toArray, List.set_cons_zero, List.set_cons_succ])
          refine wpAnyH_ready (rs := [7]) (by kernel_rfl) (by simp) ?_
          refine AllReadyH.cons (o := _) (by (simp only [List.getElem?_toArray, List.getElem?_cons_succ, List.getElem?_cons_zero]); rfl) (fun K_ hK_ => ?_) AllReadyH.nil
          refine step_app (by rfl) _ _ _ (by rfl) (w.heap.size + 1) 51 i0 _ 40 Tryz.underlying23 hi hz hsz hby rfl v7 (0 + k) ([] ++ (rcells (rs.take k))) (by rfl) OW7 (some ⟨V1.heap.size, 0, none⟩) 1 1 [.string nm, .slice B m d] (by rfl) (srcOne _ _ _ _ _ TM7) (by first | exact rcells_one _ | simp [Value.oneCell']) (by unfold maxLen; omega) (by omega) BX7.lt ?_
          intro v8 V8 OW8 G8
          have HB8 := HB7.trans (own_below OW7 G8 (Nat.le_succ _) HB7.size)
          have BX8 := BX7.kept G8 (own_ne OW7 (Nat.lt_succ_self _))
          refine hK_.out _ _ ⟨BX8.cell 0, BX8.cell 1⟩ (fun hS2_ => ?_)
          clear hK_ hS_; have hS_ := hS2_; clear hS2_
          (try simp only [Act.put, List.setIfInBounds_toArray, List.set_cons_zero, List.set_cons_succ])
          refine wpAnyH_ready (rs := [11]) (by kernel_rfl) (by simp) ?_
          refine AllReadyH.cons (o := _) (by (simp only [List.getElem?_toArray, List.getElem?_cons_succ, List.getElem?_cons_zero]); rfl) (fun K_ hK_ => ?_) AllReadyH.nil
          refine step_app (by rfl) _ _ _ (by rfl) (w.heap.size + 1) 51 i0 _ 40 Tryz.underlying23 hi hz hsz hby rfl v8 (0 + k + 1) ([] ++ (rcells (rs.take k)) ++ [.string nm, .slice B m d]) (by rfl) OW8 QK (n - k) (c - k) (rcells (rs.drop k)) (by rfl) (SD.out _ HB8) (by first | exact rcells_one _ | simp [Value.oneCell']) (by unfold maxLen; omega) (by omega) BX8.lt ?_
          intro v9 V9 OW9 G9
          have HB9 := HB8.trans (own_below OW8 G9 (Nat.le_succ _) HB8.size)
          have BX9 := BX8.kept G9 (own_ne OW8 (Nat.lt_succ_self _))
          refine hK_.out _ _ ⟨BX9.cell 0, BX9.cell 1⟩ (fun hS2_ => ?_)
          clear hK_ hS_; have hS_ := hS2_; clear hS2_
          (try simp only [Act.put, List.setIfInBounds_toArray, List.set_cons_zero, List.set_cons_succ])
          refine takeV (i := 12) (v := v9) (by (simp only [List.getElem?_toArray, List.getElem?_cons_succ, List.getElem?_cons_zero]); rfl) (by kernel_rfl) (by kernel_rfl) (by kernel_rfl) (by rfl) (fun _ _ _ h => h) (Or.inl ⟨by rfl, ?_⟩) hS_ (by (simp only [List.setIfInBounds_toArray, List.set_cons_succ, List.set_cons_zero]); rfl) ?_
          · intro w_ hSw_; (try dsimp only at hSw_); go_simp
          refine wpAnyH_done (by kernel_rfl) ?_ _
          obtain ⟨A9, c9, e9, i9⟩ := put_done HL.out hkn OW9 RIN.out HB9
          subst e9
          go_wp2
          go_ret; exact ⟨_, _, _, rfl, i9, PD.out, HB9⟩
      · rw [if_pos (by rfl)]
        go_simp
        obtain ⟨V10, hV10⟩ : ∃ X, V.alloc (.cells #[.string nm, .slice B m d] 51) = X := ⟨_, rfl⟩
        have HB10 : Below w.heap.size w V10 := by rw [← hV10]; exact HBV.alloc HBV.size _
        have BX10 : Blk V10 (w.heap.size) 51 #[.string nm, .slice B m d] := by rw [← hV10]; exact BXV.alloc _
        have Z10 : V.heap.size + 1 ≤ V10.heap.size := by rw [← hV10]; simp
        have TM10 : Blk V10 (V.heap.size) 51 #[.string nm, .slice B m d] := by rw [← hV10]; exact Blk.new V _ _
        rw [hV10]; clear hV10
        refine hK_.out _ _ ⟨BX10.cell 0, BX10.cell 1⟩ (fun hS2_ => ?_)
        clear hK_ hS_; have hS_ := hS2_; clear hS2_
        (try simp only [Act.put, List.setIfInBounds_toArray, List.set_cons_zero, List.set_cons_succ])
        refine wpAnyH_ready (rs := [0]) (by kernel_rfl) (by simp) ?_
        refine AllReadyH.cons (o := _) (by (simp only [List.getElem?_toArray, List.getElem?_cons_zero]); rfl) (fun K_ hK_ => ?_) AllReadyH.nil
        rw [if_pos (by rfl)]
        go_simp
        obtain ⟨V11, hV11⟩ : ∃ X, V10.alloc (.cells #[] 51) = X := ⟨_, rfl⟩
        have HB11 : Below w.heap.size w V11 := by rw [← hV11]; exact HB10.alloc HB10.size _
        have BX11 : Blk V11 (w.heap.size) 51 #[.string nm, .slice B m d] := by rw [← hV11]; exact BX10.alloc _
        have Z11 : V10.heap.size + 1 ≤ V11.heap.size := by rw [← hV11]; simp
        have OW11 : V11.ownsRow (w.heap.size + 1) 51 2 (.slice (some ⟨V10.heap.size, 0, none⟩) 0 0) 0 [] := by rw [← hV11]; exact own_empty V10 51 _ BX10.lt
        have TM11 : Blk V11 (V.heap.size) 51 #[.string nm, .slice B m d] := by rw [← hV11]; exact TM10.alloc _
        rw [hV11]; clear hV11
        refine hK_.out _ _ ⟨BX11.cell 0, BX11.cell 1⟩ (fun hS2_ => ?_)
        clear hK_ hS_; have hS_ := hS2_; clear hS2_
        (try simp only [Act.put, List.setIfInBounds_toArray, List.set_cons_zero, List.set_cons_succ])
        refine wpAnyH_ready (rs := [4]) (by kernel_rfl) (by simp) ?_
        refine AllReadyH.cons (o := _) (by (simp only [List.getElem?_toArray, List.getElem?_cons_succ, List.getElem?_cons_zero]); rfl) (fun K_ hK_ => ?_) AllReadyH.nil
        refine step_app (by rfl) _ _ _ (by rfl) (w.heap.size + 1) 51 i0 _ 40 Tryz.underlying23 hi hz hsz hby rfl (.slice (some ⟨V10.heap.size, 0, none⟩) 0 0) 0 [] (by rfl) OW11 (some p) k c (rcells (rs.take k)) (by rfl) (IsRefs.srcTake (RR.out.below RefE.stays HB11 (Nat.le_refl _)) (by omega)) (by first | exact rcells_one _ | simp [Value.oneCell']) (by unfold maxLen; omega) (by omega) BX11.lt ?_
        intro v12 V12 OW12 G12
        have HB12 := HB11.trans (own_below OW11 G12 (Nat.le_succ _) HB11.size)
        have BX12 := BX11.kept G12 (own_ne OW11 (Nat.lt_succ_self _))
        have TM12 := TM11.kept G12 (by simp [Value.ownBlock]; omega)
        refine hK_.out _ _ ⟨BX12.cell 0, BX12.cell 1⟩ (fun hS2_ => ?_)
        clear hK_ hS_; have hS_ := hS2_; clear hS2_
        (try simp only [Act.put, List.setIfInBounds_toArray, List.set_cons_zero, List.set_cons_succ])
        refine wpAnyH_ready (rs := [7]) (by kernel_rfl) (by simp) ?_
        refine AllReadyH.cons (o := _) (by (simp only [List.getElem?_toArray, List.getElem?_cons_succ, List.getElem?_cons_zero]); rfl) (fun K_ hK_ => ?_) AllReadyH.nil
        refine step_app (by rfl) _ _ _ (by rfl) (w.heap.size + 1) 51 i0 _ 40 Tryz.underlying23 hi hz hsz hby rfl v12 (0 + k) ([] ++ (rcells (rs.take k))) (by rfl) OW12 (some ⟨V.heap.size, 0, none⟩) 1 1 [.string nm, .slice B m d] (by rfl) (srcOne _ _ _ _ _ TM12) (by first | exact rcells_one _ | simp [Value.oneCell']) (by unfold maxLen; omega) (by omega) BX12.lt ?_
        intro v13 V13 OW13 G13
        have HB13 := HB12.trans (own_below OW12 G13 (Nat.le_succ _) HB12.size)
        have BX13 := BX12.kept G13 (own_ne OW12 (Nat.lt_succ_self _))
        refine hK_.out _ _ ⟨BX13.cell 0, BX13.cell 1⟩ (fun hS2_ => ?_)
        clear hK_ hS_; have hS_ := hS2_; clear hS2_
        (try simp only [Act.put, List.setIfInBounds_toArray, List.set_cons_zero, List.set_cons_succ])
        refine wpAnyH_ready (rs := [11]) (by kernel_rfl) (by simp) ?_
        refine AllReadyH.cons (o := _) (by (simp only [List.getElem?_toArray, List.getElem?_cons_succ, List.getElem?_cons_zero]); rfl) (fun K_ hK_ => ?_) AllReadyH.nil
        refine step_app (by rfl) _ _ _ (by rfl) (w.heap.size + 1) 51 i0 _ 40 Tryz.underlying23 hi hz hsz hby rfl v13 (0 + k + 1) ([] ++ (rcells (rs.take k)) ++ [.string nm, .slice B m d]) (by rfl) OW13 QK (n - k) (c - k) (rcells (rs.drop k)) (by rfl) (SD.out _ HB13) (by first | exact rcells_one _ | simp [Value.oneCell']) (by unfold maxLen; omega) (by omega) BX13.lt ?_
        intro v14 V14 OW14 G14
        have HB14 := HB13.trans (own_below OW13 G14 (Nat.le_succ _) HB13.size)
        have BX14 := BX13.kept G14 (own_ne OW13 (Nat.lt_succ_self _))
        refine hK_.out _ _ ⟨BX14.cell 0, BX14.cell 1⟩ (fun hS2_ => ?_)
        clear hK_ hS_; have hS_ := hS2_; clear hS2_
        (try simp only [Act.put, List.setIfInBounds_toArray, List.set_cons_zero, List.set_cons_succ])
        refine takeV (i := 12) (v := v14) (by (simp only [List.getElem?_toArray, List.getElem?_cons_succ, List.getElem?_cons_zero]); rfl) (by kernel_rfl) (by kernel_rfl) (by kernel_rfl) (by rfl) (fun _ _ _ h => h) (Or.inl ⟨by rfl, ?_⟩) hS_ (by (simp only [List.setIfInBounds_toArray, List.set_cons_succ, List.set_cons_zero]); rfl) ?_
        · intro w_ hSw_; (try dsimp only at hSw_); go_simp
        refine wpAnyH_done (by kernel_rfl) ?_ _
        obtain ⟨A9, c9, e9, i9⟩ := put_done HL.out hkn OW14 RIN.out HB14
        subst e9
        go_wp2
        go_ret; exact ⟨_, _, _, rfl, i9, PD.out, HB14⟩
  · have PD := Lib.hid (show rs.map rAt = putL xs (nm, ts) from by unfold putL; rw [hB, if_pos rfl]; exact HM.out)
    clear hB
    go_wp2
    go_ret; exact ⟨A, c, rs, by rw [HL.out]; rfl, by rw [HL.out]; exact RR.out.keep RefE.stays (fun _ _ hq => HB2.cell hq) (Nat.le_refl _) HB2.size, PD.out, HB2⟩

end Go.Proofs.YtogonjkklioaaaaGreatDoor
