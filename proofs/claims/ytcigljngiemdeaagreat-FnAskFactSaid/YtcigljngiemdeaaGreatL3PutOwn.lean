/-
  A fact put among others, in the model: a row of atoms that may be added to stays one.
-/
import Derived.Test.YtcigljngiemdeaaGreatEa6
import Derived.Test.YtcigljngiemdeaaGreatEa8
namespace Go.Proofs.YtcigljngiemdeaaGreat
open Go.RowKit

/-- A list of atoms, handed back. -/
def ReadPost (xs : List At) (w : World) (e : Ending) (w' : World) : Prop := ∃ A c rs, e = .returned (.slice A rs.length c) ∧ IsRefs w' 0 w'.heap.size A rs.length c rs ∧ rs.map rAt = xs ∧ Below w.heap.size w w'

/-- A row of atoms in memory of its own, from B on, made behind all of their terms, which lie from B on too. -/
def OwnRow (V : World) (B : Nat) (xs : List At) (v : Value) : Prop := ∃ (n M : Nat) (rs : List Rf), (B ≤ M ∧ M ≤ V.heap.size) ∧ rs.length = n ∧ rs.map rAt = xs ∧ V.ownsRow M 49 2 v n (rcells rs) ∧ RefsIn V B M rs

theorem OwnRow.atoms {V : World} {B : Nat} {xs : List At} {v : Value} (h : OwnRow V B xs v) : ∃ A c, v = .slice A xs.length c ∧ IsAtoms V B V.heap.size A xs.length c xs := by
  obtain ⟨n, M, rs, ⟨h5, h6⟩, h1, h2, h3, h4⟩ := h
  have hl : xs.length = n := by rw [← h2, List.length_map, h1]
  rw [hl]
  obtain ⟨A, c, e, hI⟩ := refs_own h3 h1.symm h5 h4 h6
  refine ⟨A, c, e, ?_⟩
  have := hI.atoms
  rwa [h2] at this

theorem OwnRow.up {V W : World} {B : Nat} {xs : List At} {v : Value} (h : OwnRow V B xs v) (hb : Below V.heap.size V W) : OwnRow W B xs v := by
  obtain ⟨n, M, rs, ⟨h5, h6⟩, h1, h2, h3, h4⟩ := h
  exact ⟨n, M, rs, ⟨h5, Nat.le_trans h6 hb.size⟩, h1, h2, h3.kept (⟨hb.os, hb.tape, hb.output, hb.size, fun i hi _ => hb.block i hi⟩ : V.grownBy W none) (Classical.em _), h4.keep (fun _ _ hq => hb.cell (Nat.lt_of_lt_of_le hq h6)) (Nat.le_refl _) (Nat.le_refl _)⟩

/-- A fact was put into a row. -/
def PutPost (L0 : Nat) (xs : List At) (a : At) (v : Value) (w : World) (e : Ending) (w' : World) : Prop :=
  Below w.heap.size w w' ∧ ((hasB xs a = true ∧ e = .returned v) ∨ (∃ v', e = .returned v' ∧ OwnRow w' L0 (putL xs a) v'))

theorem put_doneO {w V : World} {L0 : Nat} (hL0 : L0 ≤ w.heap.size) {k n : Nat} {v : Value} {rs : List Rf} {nm : ByteArray} {B : Option Addr} {m d : Nat} {ts : List Tm} {xs : List At} (hl : rs.length = n) (hk : k ≤ n)
    (h : V.ownsRow (w.heap.size + 1) 49 2 v (0 + k + 1 + (n - k)) ([] ++ rcells (rs.take k) ++ [.string nm, .slice B m d] ++ rcells (rs.drop k))) (hr : RefsIn w L0 w.heap.size (rs.take k ++ (nm, B, m, d, ts) :: rs.drop k)) (hb : Below w.heap.size w V)
    (hp : (rs.take k ++ (nm, B, m, d, ts) :: rs.drop k).map rAt = xs) : OwnRow V L0 xs v := by
  have hlen : (rs.take k ++ (nm, B, m, d, ts) :: rs.drop k).length = 0 + k + 1 + (n - k) := by
    rw [List.length_append, List.length_cons, List.length_take, List.length_drop, hl, Nat.min_eq_left hk]; omega
  refine ⟨_, w.heap.size, _, ⟨hL0, hb.size⟩, hlen, hp, ?_, hr.keep (fun _ _ hq => hb.cell hq) (Nat.le_refl _) (Nat.le_refl _)⟩
  have e : rcells (rs.take k ++ (nm, B, m, d, ts) :: rs.drop k) = [] ++ rcells (rs.take k) ++ [.string nm, .slice B m d] ++ rcells (rs.drop k) := by
    rw [rcells_app]; unfold rcells; simp
  rw [e]; exact ⟨h.1, h.2.imp id fun ⟨g, cap, cur, hv, hg, rest⟩ => ⟨g, cap, cur, hv, by omega, rest⟩⟩

theorem put_refsL {w : World} {L0 : Nat} {rs : List Rf} {k : Nat} {nm : ByteArray} {B : Option Addr} {m d : Nat} {ts : List Tm} (h : RefsIn w L0 w.heap.size rs) (hs : nm.size ≤ maxLen) (ht : IsTerms w L0 w.heap.size B m d ts) : RefsIn w L0 w.heap.size (rs.take k ++ (nm, B, m, d, ts) :: rs.drop k) := by
  intro r hr
  rcases List.mem_append.1 hr with h1 | h1
  · exact h r (List.mem_of_mem_take h1)
  · rcases List.mem_cons.1 h1 with rfl | h1
    · exact ⟨hs, ht⟩
    · exact h r (List.mem_of_mem_drop h1)

set_option maxRecDepth 100000 in
set_option maxHeartbeats 8000000 in
theorem l3Put_own (A : Option Addr) (n c : Nat) (xs : List At) (nm : ByteArray) (B : Option Addr) (m d : Nat) (ts : List Tm) (w : World) (L0 : Nat) (hL0 : L0 ≤ w.heap.size) (h : IsAtoms w L0 w.heap.size A n c xs) (hs : nm.size ≤ maxLen) (h' : IsTerms w L0 w.heap.size B m d ts) (hr : risesB xs = true) (hmax : n ≤ 137438953472) :
    Calls Tryz.prog 106 #[.slice A n c, .agg #[.string nm, .slice B m d]] w (PutPost L0 xs (nm, ts) (.slice A n c) w) := by
  have HX := Lib.hid h.1
  obtain ⟨rs, hrs, hm⟩ := refs_of h
  have HL := Lib.hid hrs.1
  have RR := Lib.hid hrs
  have HM := Lib.hid hm; clear hm
  have HJ := Lib.hid h'; have H := Lib.hid (h.keep AtomE.stays (lo' := 0) (fun _ _ _ => rfl) (Nat.zero_le _) (Nat.le_refl _)); have H' := Lib.hid (h'.keep (lo' := 0) (fun _ _ _ => rfl) (Nat.zero_le _) (Nat.le_refl _)); clear h h'
  have HRR := Lib.hid hr; clear hr
  have hnc := hrs.2.1
  have hcm := hrs.2.2.1
  have hqn : 0 < n → ∃ p, A = some p := fun h0 => by obtain ⟨p, hp, _⟩ := hrs.2.2.2 h0; exact ⟨p, hp⟩
  unfold maxLen at hcm
  clear hrs
  obtain ⟨i0, hi, hz, hsz, hby⟩ := info_parts Tryz.infoAt
  have hw1 := below1 w (.cells #[.string nm, .slice B m d] 49)
  have B1 := Blk.new w 49 #[.string nm, .slice B m d]
  go_enter Tryz.func106, Tryz.ntmps106
  go_wp2_with fail
  refine (l3At_any A n c xs nm B m d ts _ (H.out.up AtomE.stays hw1) (H'.out.up hw1) HRR.out).mono ?_; rintro e w2 ⟨k, ⟨rfl, hkn, hlo, hat⟩, hb2⟩
  have HB2 := belowThen hw1 hb2
  have B2 := B1.below hb2
  have HLO := Lib.hid hlo; have HAT := Lib.hid hat; clear hlo hat
  cases hB : hasB xs (nm, ts)
  · have PD := Lib.hid (show (rs.take k ++ (nm, B, m, d, ts) :: rs.drop k).map rAt = putL xs (nm, ts) from by
      unfold putL
      rw [hB, if_neg (by simp), place_ins (k := k) (by rw [HX.out]; exact hkn) HLO.out HAT.out, List.map_append, List.map_cons, List.map_take, List.map_drop, HM.out]
      rfl)
    have RIN := Lib.hid (put_refsL (k := k) (RefsIn.of RR.out) hs HJ.out)
    clear hB
    go_wp2
    have x1 : w2.drew.cell? ⟨w.heap.size, 0, none⟩ = some (.string nm) := B2.cell 0
    have x2 : w2.drew.cell? ⟨w.heap.size, 1, none⟩ = some (.slice B m d) := B2.cell 1
    have HBV : Below w.heap.size w w2.drew := HB2.drew
    have BXV : Blk w2.drew w.heap.size 49 #[.string nm, .slice B m d] := B2
    have hsV : w.heap.size + 1 ≤ w2.drew.heap.size := B2.lt
    obtain ⟨V, hV⟩ : ∃ V, w2.drew = V := ⟨_, rfl⟩
    rw [hV] at x1 x2 HBV BXV hsV
    cases A with
    | none =>
      have hn0 : n = 0 := by
        rcases Nat.eq_zero_or_pos n with h0 | h0
        · exact h0
        · obtain ⟨p, hp⟩ := hqn h0; cases hp
      subst hn0
      have hk0 : k = 0 := by omega
      subst hk0
      have hk0i : ((0 : Nat) : Int) = 0 := rfl
      have hrs0 : rs = [] := List.eq_nil_of_length_eq_zero HL.out
      have SD : Hid (∀ W, Below w.heap.size w W → SrcAt W none 0 (rcells (rs.drop 0))) := Lib.hid (fun W _ => by rw [hrs0]; exact ⟨rfl, fun _ _ j u hu => absurd hu (by simp [rcells]), fun _ => rfl⟩)
      have HR0 := Lib.hid hrs0; clear hrs0
      refine wp_region_held_drew (S := fun W => W.cell? ⟨w.heap.size, 0, none⟩ = some (.string nm) ∧ W.cell? ⟨w.heap.size, 1, none⟩ = some (.slice B m d)) (by kernel_rfl) (by rw [hV]; exact ⟨x1, x2⟩) ?_
      rw [hV]
      intro hS_
      refine tk 1 (.slice none 0 c) hS_ ?_
      refine tk 2 (.int .i64 0) hS_ ?_
      refine tk 3 (.slice none 0 c) hS_ ?_
      refine tk 5 (.agg #[.string nm, .slice B m d]) hS_ ?_
      refine tk 8 (.slice none 0 c) hS_ ?_
      refine tk 9 (.int .i64 0) hS_ ?_
      refine tk 10 (.slice none 0 c) hS_ ?_
      refine rd2 0 6 (fun K_ hK_ => ?_) fun K_ hK_ => ?_
      · rw [if_pos (by rfl)]
        go_simp
        obtain ⟨V1, hV1⟩ : ∃ X, V.alloc (.cells #[] 49) = X := ⟨_, rfl⟩
        have HB1 : Below w.heap.size w V1 := by rw [← hV1]; exact HBV.alloc HBV.size _
        have BX1 : Blk V1 (w.heap.size) 49 #[.string nm, .slice B m d] := by rw [← hV1]; exact BXV.alloc _
        have Z1 : V.heap.size + 1 ≤ V1.heap.size := by rw [← hV1]; simp
        have OW1 : V1.ownsRow (w.heap.size + 1) 49 2 (.slice (some ⟨V.heap.size, 0, none⟩) 0 0) 0 [] := by rw [← hV1]; exact own_empty V 49 _ BXV.lt
        rw [hV1]; clear hV1
        refine hK_.out _ _ ⟨BX1.cell 0, BX1.cell 1⟩ fun hS_ => ?_
        clear hK_
        (try simp only [Act.put, List.setIfInBounds_toArray, List.set_cons_zero, List.set_cons_succ])
        refine rd2 4 6 (fun K_ hK_ => ?_) fun K_ hK_ => ?_
        · refine step_app (by rfl) _ _ _ (by rfl) (w.heap.size + 1) 49 i0 _ 40 Tryz.underlying28 hi hz hsz hby rfl (.slice (some ⟨V.heap.size, 0, none⟩) 0 0) 0 [] (by rfl) OW1 none 0 c (rcells (rs.take 0)) (by rfl) (IsRefs.srcTake (RR.out.below RefE.stays HB1 (Nat.le_refl _)) (by omega)) (by first | exact rcells_one _ | simp [Value.oneCell']) (by unfold maxLen; omega) (by omega) BX1.lt ?_
          intro v2 V2 OW2 G2
          have HB2 := HB1.trans (own_below OW1 G2 (Nat.le_succ _) HB1.size)
          have BX2 := BX1.kept G2 (own_ne OW1 (Nat.lt_succ_self _))
          refine hK_.out _ _ ⟨BX2.cell 0, BX2.cell 1⟩ fun hS_ => ?_
          clear hK_
          (try simp only [Act.put, List.setIfInBounds_toArray, List.set_cons_zero, List.set_cons_succ])
          refine rd1 6 fun K_ hK_ => ?_
          go_simp
          obtain ⟨V3, hV3⟩ : ∃ X, V2.alloc (.cells #[.string nm, .slice B m d] 49) = X := ⟨_, rfl⟩
          have HB3 : Below w.heap.size w V3 := by rw [← hV3]; exact HB2.alloc HB2.size _
          have BX3 : Blk V3 (w.heap.size) 49 #[.string nm, .slice B m d] := by rw [← hV3]; exact BX2.alloc _
          have Z3 : V2.heap.size + 1 ≤ V3.heap.size := by rw [← hV3]; simp
          have TM3 : Blk V3 (V2.heap.size) 49 #[.string nm, .slice B m d] := by rw [← hV3]; exact Blk.new V2 _ _
          have OW3 : V3.ownsRow (w.heap.size + 1) 49 2 v2 (0 + 0) ([] ++ (rcells (rs.take 0))) := by rw [← hV3]; exact OW2.alloc _
          rw [hV3]; clear hV3
          refine hK_.out _ _ ⟨BX3.cell 0, BX3.cell 1⟩ fun hS_ => ?_
          clear hK_
          (try simp only [Act.put, List.setIfInBounds_toArray, List.set_cons_zero, List.set_cons_succ])
          refine rd0 7 fun K_ hK_ => ?_
          refine step_app (by rfl) _ _ _ (by rfl) (w.heap.size + 1) 49 i0 _ 40 Tryz.underlying28 hi hz hsz hby rfl v2 (0 + 0) ([] ++ (rcells (rs.take 0))) (by rfl) OW3 (some ⟨V2.heap.size, 0, none⟩) 1 1 [.string nm, .slice B m d] (by rfl) (srcOne _ _ _ _ _ TM3) (by first | exact rcells_one _ | simp [Value.oneCell']) (by unfold maxLen; omega) (by omega) BX3.lt ?_
          intro v4 V4 OW4 G4
          have HB4 := HB3.trans (own_below OW3 G4 (Nat.le_succ _) HB3.size)
          have BX4 := BX3.kept G4 (own_ne OW3 (Nat.lt_succ_self _))
          refine hK_.out _ _ ⟨BX4.cell 0, BX4.cell 1⟩ fun hS_ => ?_
          clear hK_
          (try simp only [Act.put, List.setIfInBounds_toArray, List.set_cons_zero, List.set_cons_succ])
          refine rd0 11 fun K_ hK_ => ?_
          refine step_app (by rfl) _ _ _ (by rfl) (w.heap.size + 1) 49 i0 _ 40 Tryz.underlying28 hi hz hsz hby rfl v4 (0 + 0 + 1) ([] ++ (rcells (rs.take 0)) ++ [.string nm, .slice B m d]) (by rfl) OW4 none 0 c (rcells (rs.drop 0)) (by rfl) (SD.out _ HB4) (by first | exact rcells_one _ | simp [Value.oneCell']) (by unfold maxLen; omega) (by omega) BX4.lt ?_
          intro v5 V5 OW5 G5
          have HB5 := HB4.trans (own_below OW4 G5 (Nat.le_succ _) HB4.size)
          have BX5 := BX4.kept G5 (own_ne OW4 (Nat.lt_succ_self _))
          refine hK_.out _ _ ⟨BX5.cell 0, BX5.cell 1⟩ fun hS_ => ?_
          clear hK_
          refine tk 12 v5 hS_ ?_
          refine wpAnyH_done (by kernel_rfl) ?_ _
          have o9 := put_doneO hL0 HL.out hkn OW5 RIN.out HB5 PD.out
          go_wp2
          go_ret; exact ⟨HB5, .inr ⟨_, rfl, o9⟩⟩
        · rw [if_pos (by rfl)]
          go_simp
          obtain ⟨V6, hV6⟩ : ∃ X, V1.alloc (.cells #[.string nm, .slice B m d] 49) = X := ⟨_, rfl⟩
          have HB6 : Below w.heap.size w V6 := by rw [← hV6]; exact HB1.alloc HB1.size _
          have BX6 : Blk V6 (w.heap.size) 49 #[.string nm, .slice B m d] := by rw [← hV6]; exact BX1.alloc _
          have Z6 : V1.heap.size + 1 ≤ V6.heap.size := by rw [← hV6]; simp
          have TM6 : Blk V6 (V1.heap.size) 49 #[.string nm, .slice B m d] := by rw [← hV6]; exact Blk.new V1 _ _
          have OW6 : V6.ownsRow (w.heap.size + 1) 49 2 (.slice (some ⟨V.heap.size, 0, none⟩) 0 0) 0 [] := by rw [← hV6]; exact OW1.alloc _
          rw [hV6]; clear hV6
          refine hK_.out _ _ ⟨BX6.cell 0, BX6.cell 1⟩ fun hS_ => ?_
          clear hK_
          (try simp only [Act.put, List.setIfInBounds_toArray, List.set_cons_zero, List.set_cons_succ])
          refine rd0 4 fun K_ hK_ => ?_
          refine step_app (by rfl) _ _ _ (by rfl) (w.heap.size + 1) 49 i0 _ 40 Tryz.underlying28 hi hz hsz hby rfl (.slice (some ⟨V.heap.size, 0, none⟩) 0 0) 0 [] (by rfl) OW6 none 0 c (rcells (rs.take 0)) (by rfl) (IsRefs.srcTake (RR.out.below RefE.stays HB6 (Nat.le_refl _)) (by omega)) (by first | exact rcells_one _ | simp [Value.oneCell']) (by unfold maxLen; omega) (by omega) BX6.lt ?_
          intro v7 V7 OW7 G7
          have HB7 := HB6.trans (own_below OW6 G7 (Nat.le_succ _) HB6.size)
          have BX7 := BX6.kept G7 (own_ne OW6 (Nat.lt_succ_self _))
          have TM7 := TM6.kept G7 (by simp [Value.ownBlock]; omega)
          refine hK_.out _ _ ⟨BX7.cell 0, BX7.cell 1⟩ fun hS_ => ?_
          clear hK_
          (try simp only [Act.put, List.setIfInBounds_toArray, List.set_cons_zero, List.set_cons_succ])
          refine rd0 7 fun K_ hK_ => ?_
          refine step_app (by rfl) _ _ _ (by rfl) (w.heap.size + 1) 49 i0 _ 40 Tryz.underlying28 hi hz hsz hby rfl v7 (0 + 0) ([] ++ (rcells (rs.take 0))) (by rfl) OW7 (some ⟨V1.heap.size, 0, none⟩) 1 1 [.string nm, .slice B m d] (by rfl) (srcOne _ _ _ _ _ TM7) (by first | exact rcells_one _ | simp [Value.oneCell']) (by unfold maxLen; omega) (by omega) BX7.lt ?_
          intro v8 V8 OW8 G8
          have HB8 := HB7.trans (own_below OW7 G8 (Nat.le_succ _) HB7.size)
          have BX8 := BX7.kept G8 (own_ne OW7 (Nat.lt_succ_self _))
          refine hK_.out _ _ ⟨BX8.cell 0, BX8.cell 1⟩ fun hS_ => ?_
          clear hK_
          (try simp only [Act.put, List.setIfInBounds_toArray, List.set_cons_zero, List.set_cons_succ])
          refine rd0 11 fun K_ hK_ => ?_
          refine step_app (by rfl) _ _ _ (by rfl) (w.heap.size + 1) 49 i0 _ 40 Tryz.underlying28 hi hz hsz hby rfl v8 (0 + 0 + 1) ([] ++ (rcells (rs.take 0)) ++ [.string nm, .slice B m d]) (by rfl) OW8 none 0 c (rcells (rs.drop 0)) (by rfl) (SD.out _ HB8) (by first | exact rcells_one _ | simp [Value.oneCell']) (by unfold maxLen; omega) (by omega) BX8.lt ?_
          intro v9 V9 OW9 G9
          have HB9 := HB8.trans (own_below OW8 G9 (Nat.le_succ _) HB8.size)
          have BX9 := BX8.kept G9 (own_ne OW8 (Nat.lt_succ_self _))
          refine hK_.out _ _ ⟨BX9.cell 0, BX9.cell 1⟩ fun hS_ => ?_
          clear hK_
          refine tk 12 v9 hS_ ?_
          refine wpAnyH_done (by kernel_rfl) ?_ _
          have o9 := put_doneO hL0 HL.out hkn OW9 RIN.out HB9 PD.out
          go_wp2
          go_ret; exact ⟨HB9, .inr ⟨_, rfl, o9⟩⟩
      · rw [if_pos (by rfl)]
        go_simp
        obtain ⟨V10, hV10⟩ : ∃ X, V.alloc (.cells #[.string nm, .slice B m d] 49) = X := ⟨_, rfl⟩
        have HB10 : Below w.heap.size w V10 := by rw [← hV10]; exact HBV.alloc HBV.size _
        have BX10 : Blk V10 (w.heap.size) 49 #[.string nm, .slice B m d] := by rw [← hV10]; exact BXV.alloc _
        have Z10 : V.heap.size + 1 ≤ V10.heap.size := by rw [← hV10]; simp
        have TM10 : Blk V10 (V.heap.size) 49 #[.string nm, .slice B m d] := by rw [← hV10]; exact Blk.new V _ _
        rw [hV10]; clear hV10
        refine hK_.out _ _ ⟨BX10.cell 0, BX10.cell 1⟩ fun hS_ => ?_
        clear hK_
        (try simp only [Act.put, List.setIfInBounds_toArray, List.set_cons_zero, List.set_cons_succ])
        refine rd1 0 fun K_ hK_ => ?_
        go_simp
        obtain ⟨V11, hV11⟩ : ∃ X, V10.alloc (.cells #[] 49) = X := ⟨_, rfl⟩
        have HB11 : Below w.heap.size w V11 := by rw [← hV11]; exact HB10.alloc HB10.size _
        have BX11 : Blk V11 (w.heap.size) 49 #[.string nm, .slice B m d] := by rw [← hV11]; exact BX10.alloc _
        have Z11 : V10.heap.size + 1 ≤ V11.heap.size := by rw [← hV11]; simp
        have OW11 : V11.ownsRow (w.heap.size + 1) 49 2 (.slice (some ⟨V10.heap.size, 0, none⟩) 0 0) 0 [] := by rw [← hV11]; exact own_empty V10 49 _ BX10.lt
        have TM11 : Blk V11 (V.heap.size) 49 #[.string nm, .slice B m d] := by rw [← hV11]; exact TM10.alloc _
        rw [hV11]; clear hV11
        refine hK_.out _ _ ⟨BX11.cell 0, BX11.cell 1⟩ fun hS_ => ?_
        clear hK_
        (try simp only [Act.put, List.setIfInBounds_toArray, List.set_cons_zero, List.set_cons_succ])
        refine rd0 4 fun K_ hK_ => ?_
        refine step_app (by rfl) _ _ _ (by rfl) (w.heap.size + 1) 49 i0 _ 40 Tryz.underlying28 hi hz hsz hby rfl (.slice (some ⟨V10.heap.size, 0, none⟩) 0 0) 0 [] (by rfl) OW11 none 0 c (rcells (rs.take 0)) (by rfl) (IsRefs.srcTake (RR.out.below RefE.stays HB11 (Nat.le_refl _)) (by omega)) (by first | exact rcells_one _ | simp [Value.oneCell']) (by unfold maxLen; omega) (by omega) BX11.lt ?_
        intro v12 V12 OW12 G12
        have HB12 := HB11.trans (own_below OW11 G12 (Nat.le_succ _) HB11.size)
        have BX12 := BX11.kept G12 (own_ne OW11 (Nat.lt_succ_self _))
        have TM12 := TM11.kept G12 (by simp [Value.ownBlock]; omega)
        refine hK_.out _ _ ⟨BX12.cell 0, BX12.cell 1⟩ fun hS_ => ?_
        clear hK_
        (try simp only [Act.put, List.setIfInBounds_toArray, List.set_cons_zero, List.set_cons_succ])
        refine rd0 7 fun K_ hK_ => ?_
        refine step_app (by rfl) _ _ _ (by rfl) (w.heap.size + 1) 49 i0 _ 40 Tryz.underlying28 hi hz hsz hby rfl v12 (0 + 0) ([] ++ (rcells (rs.take 0))) (by rfl) OW12 (some ⟨V.heap.size, 0, none⟩) 1 1 [.string nm, .slice B m d] (by rfl) (srcOne _ _ _ _ _ TM12) (by first | exact rcells_one _ | simp [Value.oneCell']) (by unfold maxLen; omega) (by omega) BX12.lt ?_
        intro v13 V13 OW13 G13
        have HB13 := HB12.trans (own_below OW12 G13 (Nat.le_succ _) HB12.size)
        have BX13 := BX12.kept G13 (own_ne OW12 (Nat.lt_succ_self _))
        refine hK_.out _ _ ⟨BX13.cell 0, BX13.cell 1⟩ fun hS_ => ?_
        clear hK_
        (try simp only [Act.put, List.setIfInBounds_toArray, List.set_cons_zero, List.set_cons_succ])
        refine rd0 11 fun K_ hK_ => ?_
        refine step_app (by rfl) _ _ _ (by rfl) (w.heap.size + 1) 49 i0 _ 40 Tryz.underlying28 hi hz hsz hby rfl v13 (0 + 0 + 1) ([] ++ (rcells (rs.take 0)) ++ [.string nm, .slice B m d]) (by rfl) OW13 none 0 c (rcells (rs.drop 0)) (by rfl) (SD.out _ HB13) (by first | exact rcells_one _ | simp [Value.oneCell']) (by unfold maxLen; omega) (by omega) BX13.lt ?_
        intro v14 V14 OW14 G14
        have HB14 := HB13.trans (own_below OW13 G14 (Nat.le_succ _) HB13.size)
        have BX14 := BX13.kept G14 (own_ne OW13 (Nat.lt_succ_self _))
        refine hK_.out _ _ ⟨BX14.cell 0, BX14.cell 1⟩ fun hS_ => ?_
        clear hK_
        refine tk 12 v14 hS_ ?_
        refine wpAnyH_done (by kernel_rfl) ?_ _
        have o9 := put_doneO hL0 HL.out hkn OW14 RIN.out HB14 PD.out
        go_wp2
        go_ret; exact ⟨HB14, .inr ⟨_, rfl, o9⟩⟩
    | some p =>
      have hkc : k ≤ c := by omega
      have hki : (k : Int) ≤ (c : Int) := by omega
      have hkni : (k : Int) ≤ (n : Int) := by omega
      obtain ⟨QK, hQK⟩ : ∃ q, (if c = k then some p else some (p.add (k * 2))) = q := ⟨_, rfl⟩
      have SD : Hid (∀ W, Below w.heap.size w W → SrcAt W QK (n - k) (rcells (rs.drop k))) := Lib.hid (fun W hb => IsRefs.srcDrop (RR.out.below RefE.stays hb (Nat.le_refl _)) hkn hQK.symm)
      refine wp_region_held_drew (S := fun W => W.cell? ⟨w.heap.size, 0, none⟩ = some (.string nm) ∧ W.cell? ⟨w.heap.size, 1, none⟩ = some (.slice B m d)) (by kernel_rfl) (by rw [hV]; exact ⟨x1, x2⟩) ?_
      rw [hV]
      intro hS_
      refine tk 1 (.slice (some p) n c) hS_ ?_
      refine tk 2 (.int .i64 (k : Int)) hS_ ?_
      refine tk 3 (.slice (some p) k c) hS_ ?_
      refine tk 5 (.agg #[.string nm, .slice B m d]) hS_ ?_
      refine tk 8 (.slice (some p) n c) hS_ ?_
      refine tk 9 (.int .i64 (k : Int)) hS_ ?_
      refine tk 10 (.slice QK (n - k) (c - k)) hS_ ?_
      refine rd2 0 6 (fun K_ hK_ => ?_) fun K_ hK_ => ?_
      · rw [if_pos (by rfl)]
        go_simp
        obtain ⟨V1, hV1⟩ : ∃ X, V.alloc (.cells #[] 49) = X := ⟨_, rfl⟩
        have HB1 : Below w.heap.size w V1 := by rw [← hV1]; exact HBV.alloc HBV.size _
        have BX1 : Blk V1 (w.heap.size) 49 #[.string nm, .slice B m d] := by rw [← hV1]; exact BXV.alloc _
        have Z1 : V.heap.size + 1 ≤ V1.heap.size := by rw [← hV1]; simp
        have OW1 : V1.ownsRow (w.heap.size + 1) 49 2 (.slice (some ⟨V.heap.size, 0, none⟩) 0 0) 0 [] := by rw [← hV1]; exact own_empty V 49 _ BXV.lt
        rw [hV1]; clear hV1
        refine hK_.out _ _ ⟨BX1.cell 0, BX1.cell 1⟩ fun hS_ => ?_
        clear hK_
        (try simp only [Act.put, List.setIfInBounds_toArray, List.set_cons_zero, List.set_cons_succ])
        refine rd2 4 6 (fun K_ hK_ => ?_) fun K_ hK_ => ?_
        · refine step_app (by rfl) _ _ _ (by rfl) (w.heap.size + 1) 49 i0 _ 40 Tryz.underlying28 hi hz hsz hby rfl (.slice (some ⟨V.heap.size, 0, none⟩) 0 0) 0 [] (by rfl) OW1 (some p) k c (rcells (rs.take k)) (by rfl) (IsRefs.srcTake (RR.out.below RefE.stays HB1 (Nat.le_refl _)) (by omega)) (by first | exact rcells_one _ | simp [Value.oneCell']) (by unfold maxLen; omega) (by omega) BX1.lt ?_
          intro v2 V2 OW2 G2
          have HB2 := HB1.trans (own_below OW1 G2 (Nat.le_succ _) HB1.size)
          have BX2 := BX1.kept G2 (own_ne OW1 (Nat.lt_succ_self _))
          refine hK_.out _ _ ⟨BX2.cell 0, BX2.cell 1⟩ fun hS_ => ?_
          clear hK_
          (try simp only [Act.put, List.setIfInBounds_toArray, List.set_cons_zero, List.set_cons_succ])
          refine rd1 6 fun K_ hK_ => ?_
          go_simp
          obtain ⟨V3, hV3⟩ : ∃ X, V2.alloc (.cells #[.string nm, .slice B m d] 49) = X := ⟨_, rfl⟩
          have HB3 : Below w.heap.size w V3 := by rw [← hV3]; exact HB2.alloc HB2.size _
          have BX3 : Blk V3 (w.heap.size) 49 #[.string nm, .slice B m d] := by rw [← hV3]; exact BX2.alloc _
          have Z3 : V2.heap.size + 1 ≤ V3.heap.size := by rw [← hV3]; simp
          have TM3 : Blk V3 (V2.heap.size) 49 #[.string nm, .slice B m d] := by rw [← hV3]; exact Blk.new V2 _ _
          have OW3 : V3.ownsRow (w.heap.size + 1) 49 2 v2 (0 + k) ([] ++ (rcells (rs.take k))) := by rw [← hV3]; exact OW2.alloc _
          rw [hV3]; clear hV3
          refine hK_.out _ _ ⟨BX3.cell 0, BX3.cell 1⟩ fun hS_ => ?_
          clear hK_
          (try simp only [Act.put, List.setIfInBounds_toArray, List.set_cons_zero, List.set_cons_succ])
          refine rd0 7 fun K_ hK_ => ?_
          refine step_app (by rfl) _ _ _ (by rfl) (w.heap.size + 1) 49 i0 _ 40 Tryz.underlying28 hi hz hsz hby rfl v2 (0 + k) ([] ++ (rcells (rs.take k))) (by rfl) OW3 (some ⟨V2.heap.size, 0, none⟩) 1 1 [.string nm, .slice B m d] (by rfl) (srcOne _ _ _ _ _ TM3) (by first | exact rcells_one _ | simp [Value.oneCell']) (by unfold maxLen; omega) (by omega) BX3.lt ?_
          intro v4 V4 OW4 G4
          have HB4 := HB3.trans (own_below OW3 G4 (Nat.le_succ _) HB3.size)
          have BX4 := BX3.kept G4 (own_ne OW3 (Nat.lt_succ_self _))
          refine hK_.out _ _ ⟨BX4.cell 0, BX4.cell 1⟩ fun hS_ => ?_
          clear hK_
          (try simp only [Act.put, List.setIfInBounds_toArray, List.set_cons_zero, List.set_cons_succ])
          refine rd0 11 fun K_ hK_ => ?_
          refine step_app (by rfl) _ _ _ (by rfl) (w.heap.size + 1) 49 i0 _ 40 Tryz.underlying28 hi hz hsz hby rfl v4 (0 + k + 1) ([] ++ (rcells (rs.take k)) ++ [.string nm, .slice B m d]) (by rfl) OW4 QK (n - k) (c - k) (rcells (rs.drop k)) (by rfl) (SD.out _ HB4) (by first | exact rcells_one _ | simp [Value.oneCell']) (by unfold maxLen; omega) (by omega) BX4.lt ?_
          intro v5 V5 OW5 G5
          have HB5 := HB4.trans (own_below OW4 G5 (Nat.le_succ _) HB4.size)
          have BX5 := BX4.kept G5 (own_ne OW4 (Nat.lt_succ_self _))
          refine hK_.out _ _ ⟨BX5.cell 0, BX5.cell 1⟩ fun hS_ => ?_
          clear hK_
          refine tk 12 v5 hS_ ?_
          refine wpAnyH_done (by kernel_rfl) ?_ _
          have o9 := put_doneO hL0 HL.out hkn OW5 RIN.out HB5 PD.out
          go_wp2
          go_ret; exact ⟨HB5, .inr ⟨_, rfl, o9⟩⟩
        · rw [if_pos (by rfl)]
          go_simp
          obtain ⟨V6, hV6⟩ : ∃ X, V1.alloc (.cells #[.string nm, .slice B m d] 49) = X := ⟨_, rfl⟩
          have HB6 : Below w.heap.size w V6 := by rw [← hV6]; exact HB1.alloc HB1.size _
          have BX6 : Blk V6 (w.heap.size) 49 #[.string nm, .slice B m d] := by rw [← hV6]; exact BX1.alloc _
          have Z6 : V1.heap.size + 1 ≤ V6.heap.size := by rw [← hV6]; simp
          have TM6 : Blk V6 (V1.heap.size) 49 #[.string nm, .slice B m d] := by rw [← hV6]; exact Blk.new V1 _ _
          have OW6 : V6.ownsRow (w.heap.size + 1) 49 2 (.slice (some ⟨V.heap.size, 0, none⟩) 0 0) 0 [] := by rw [← hV6]; exact OW1.alloc _
          rw [hV6]; clear hV6
          refine hK_.out _ _ ⟨BX6.cell 0, BX6.cell 1⟩ fun hS_ => ?_
          clear hK_
          (try simp only [Act.put, List.setIfInBounds_toArray, List.set_cons_zero, List.set_cons_succ])
          refine rd0 4 fun K_ hK_ => ?_
          refine step_app (by rfl) _ _ _ (by rfl) (w.heap.size + 1) 49 i0 _ 40 Tryz.underlying28 hi hz hsz hby rfl (.slice (some ⟨V.heap.size, 0, none⟩) 0 0) 0 [] (by rfl) OW6 (some p) k c (rcells (rs.take k)) (by rfl) (IsRefs.srcTake (RR.out.below RefE.stays HB6 (Nat.le_refl _)) (by omega)) (by first | exact rcells_one _ | simp [Value.oneCell']) (by unfold maxLen; omega) (by omega) BX6.lt ?_
          intro v7 V7 OW7 G7
          have HB7 := HB6.trans (own_below OW6 G7 (Nat.le_succ _) HB6.size)
          have BX7 := BX6.kept G7 (own_ne OW6 (Nat.lt_succ_self _))
          have TM7 := TM6.kept G7 (by simp [Value.ownBlock]; omega)
          refine hK_.out _ _ ⟨BX7.cell 0, BX7.cell 1⟩ fun hS_ => ?_
          clear hK_
          (try simp only [Act.put, List.setIfInBounds_toArray, List.set_cons_zero, List.set_cons_succ])
          refine rd0 7 fun K_ hK_ => ?_
          refine step_app (by rfl) _ _ _ (by rfl) (w.heap.size + 1) 49 i0 _ 40 Tryz.underlying28 hi hz hsz hby rfl v7 (0 + k) ([] ++ (rcells (rs.take k))) (by rfl) OW7 (some ⟨V1.heap.size, 0, none⟩) 1 1 [.string nm, .slice B m d] (by rfl) (srcOne _ _ _ _ _ TM7) (by first | exact rcells_one _ | simp [Value.oneCell']) (by unfold maxLen; omega) (by omega) BX7.lt ?_
          intro v8 V8 OW8 G8
          have HB8 := HB7.trans (own_below OW7 G8 (Nat.le_succ _) HB7.size)
          have BX8 := BX7.kept G8 (own_ne OW7 (Nat.lt_succ_self _))
          refine hK_.out _ _ ⟨BX8.cell 0, BX8.cell 1⟩ fun hS_ => ?_
          clear hK_
          (try simp only [Act.put, List.setIfInBounds_toArray, List.set_cons_zero, List.set_cons_succ])
          refine rd0 11 fun K_ hK_ => ?_
          refine step_app (by rfl) _ _ _ (by rfl) (w.heap.size + 1) 49 i0 _ 40 Tryz.underlying28 hi hz hsz hby rfl v8 (0 + k + 1) ([] ++ (rcells (rs.take k)) ++ [.string nm, .slice B m d]) (by rfl) OW8 QK (n - k) (c - k) (rcells (rs.drop k)) (by rfl) (SD.out _ HB8) (by first | exact rcells_one _ | simp [Value.oneCell']) (by unfold maxLen; omega) (by omega) BX8.lt ?_
          intro v9 V9 OW9 G9
          have HB9 := HB8.trans (own_below OW8 G9 (Nat.le_succ _) HB8.size)
          have BX9 := BX8.kept G9 (own_ne OW8 (Nat.lt_succ_self _))
          refine hK_.out _ _ ⟨BX9.cell 0, BX9.cell 1⟩ fun hS_ => ?_
          clear hK_
          refine tk 12 v9 hS_ ?_
          refine wpAnyH_done (by kernel_rfl) ?_ _
          have o9 := put_doneO hL0 HL.out hkn OW9 RIN.out HB9 PD.out
          go_wp2
          go_ret; exact ⟨HB9, .inr ⟨_, rfl, o9⟩⟩
      · rw [if_pos (by rfl)]
        go_simp
        obtain ⟨V10, hV10⟩ : ∃ X, V.alloc (.cells #[.string nm, .slice B m d] 49) = X := ⟨_, rfl⟩
        have HB10 : Below w.heap.size w V10 := by rw [← hV10]; exact HBV.alloc HBV.size _
        have BX10 : Blk V10 (w.heap.size) 49 #[.string nm, .slice B m d] := by rw [← hV10]; exact BXV.alloc _
        have Z10 : V.heap.size + 1 ≤ V10.heap.size := by rw [← hV10]; simp
        have TM10 : Blk V10 (V.heap.size) 49 #[.string nm, .slice B m d] := by rw [← hV10]; exact Blk.new V _ _
        rw [hV10]; clear hV10
        refine hK_.out _ _ ⟨BX10.cell 0, BX10.cell 1⟩ fun hS_ => ?_
        clear hK_
        (try simp only [Act.put, List.setIfInBounds_toArray, List.set_cons_zero, List.set_cons_succ])
        refine rd1 0 fun K_ hK_ => ?_
        go_simp
        obtain ⟨V11, hV11⟩ : ∃ X, V10.alloc (.cells #[] 49) = X := ⟨_, rfl⟩
        have HB11 : Below w.heap.size w V11 := by rw [← hV11]; exact HB10.alloc HB10.size _
        have BX11 : Blk V11 (w.heap.size) 49 #[.string nm, .slice B m d] := by rw [← hV11]; exact BX10.alloc _
        have Z11 : V10.heap.size + 1 ≤ V11.heap.size := by rw [← hV11]; simp
        have OW11 : V11.ownsRow (w.heap.size + 1) 49 2 (.slice (some ⟨V10.heap.size, 0, none⟩) 0 0) 0 [] := by rw [← hV11]; exact own_empty V10 49 _ BX10.lt
        have TM11 : Blk V11 (V.heap.size) 49 #[.string nm, .slice B m d] := by rw [← hV11]; exact TM10.alloc _
        rw [hV11]; clear hV11
        refine hK_.out _ _ ⟨BX11.cell 0, BX11.cell 1⟩ fun hS_ => ?_
        clear hK_
        (try simp only [Act.put, List.setIfInBounds_toArray, List.set_cons_zero, List.set_cons_succ])
        refine rd0 4 fun K_ hK_ => ?_
        refine step_app (by rfl) _ _ _ (by rfl) (w.heap.size + 1) 49 i0 _ 40 Tryz.underlying28 hi hz hsz hby rfl (.slice (some ⟨V10.heap.size, 0, none⟩) 0 0) 0 [] (by rfl) OW11 (some p) k c (rcells (rs.take k)) (by rfl) (IsRefs.srcTake (RR.out.below RefE.stays HB11 (Nat.le_refl _)) (by omega)) (by first | exact rcells_one _ | simp [Value.oneCell']) (by unfold maxLen; omega) (by omega) BX11.lt ?_
        intro v12 V12 OW12 G12
        have HB12 := HB11.trans (own_below OW11 G12 (Nat.le_succ _) HB11.size)
        have BX12 := BX11.kept G12 (own_ne OW11 (Nat.lt_succ_self _))
        have TM12 := TM11.kept G12 (by simp [Value.ownBlock]; omega)
        refine hK_.out _ _ ⟨BX12.cell 0, BX12.cell 1⟩ fun hS_ => ?_
        clear hK_
        (try simp only [Act.put, List.setIfInBounds_toArray, List.set_cons_zero, List.set_cons_succ])
        refine rd0 7 fun K_ hK_ => ?_
        refine step_app (by rfl) _ _ _ (by rfl) (w.heap.size + 1) 49 i0 _ 40 Tryz.underlying28 hi hz hsz hby rfl v12 (0 + k) ([] ++ (rcells (rs.take k))) (by rfl) OW12 (some ⟨V.heap.size, 0, none⟩) 1 1 [.string nm, .slice B m d] (by rfl) (srcOne _ _ _ _ _ TM12) (by first | exact rcells_one _ | simp [Value.oneCell']) (by unfold maxLen; omega) (by omega) BX12.lt ?_
        intro v13 V13 OW13 G13
        have HB13 := HB12.trans (own_below OW12 G13 (Nat.le_succ _) HB12.size)
        have BX13 := BX12.kept G13 (own_ne OW12 (Nat.lt_succ_self _))
        refine hK_.out _ _ ⟨BX13.cell 0, BX13.cell 1⟩ fun hS_ => ?_
        clear hK_
        (try simp only [Act.put, List.setIfInBounds_toArray, List.set_cons_zero, List.set_cons_succ])
        refine rd0 11 fun K_ hK_ => ?_
        refine step_app (by rfl) _ _ _ (by rfl) (w.heap.size + 1) 49 i0 _ 40 Tryz.underlying28 hi hz hsz hby rfl v13 (0 + k + 1) ([] ++ (rcells (rs.take k)) ++ [.string nm, .slice B m d]) (by rfl) OW13 QK (n - k) (c - k) (rcells (rs.drop k)) (by rfl) (SD.out _ HB13) (by first | exact rcells_one _ | simp [Value.oneCell']) (by unfold maxLen; omega) (by omega) BX13.lt ?_
        intro v14 V14 OW14 G14
        have HB14 := HB13.trans (own_below OW13 G14 (Nat.le_succ _) HB13.size)
        have BX14 := BX13.kept G14 (own_ne OW13 (Nat.lt_succ_self _))
        refine hK_.out _ _ ⟨BX14.cell 0, BX14.cell 1⟩ fun hS_ => ?_
        clear hK_
        refine tk 12 v14 hS_ ?_
        refine wpAnyH_done (by kernel_rfl) ?_ _
        have o9 := put_doneO hL0 HL.out hkn OW14 RIN.out HB14 PD.out
        go_wp2
        go_ret; exact ⟨HB14, .inr ⟨_, rfl, o9⟩⟩
  · have HHB := Lib.hid hB; clear hB
    go_wp2
    go_ret; exact ⟨HB2, .inl ⟨HHB.out, rfl⟩⟩

/-- A fact put into a row leaves a row. -/
theorem l3Put_row (v : Value) (xs : List At) (nm : ByteArray) (A : Option Addr) (m d : Nat) (ts : List Tm) (w : World) (B : Nat) (hB : B ≤ w.heap.size) (h : OwnRow w B xs v) (hs : nm.size ≤ maxLen) (h' : IsTerms w B w.heap.size A m d ts) (hr : risesB xs = true) (hmax : xs.length ≤ 1048576) :
    Calls Tryz.prog 106 #[v, .agg #[.string nm, .slice A m d]] w (fun e w' => ∃ v', e = .returned v' ∧ OwnRow w' B (putL xs (nm, ts)) v' ∧ Below w.heap.size w w') := by
  obtain ⟨D, c, rfl, hI⟩ := h.atoms
  refine (l3Put_own D xs.length c xs nm A m d ts w B hB hI hs h' hr (by omega)).mono ?_; rintro e w' ⟨hb, ⟨h1, rfl⟩ | ⟨v', rfl, ho⟩⟩
  · refine ⟨_, rfl, ?_, hb⟩
    have e : putL xs (nm, ts) = xs := by unfold putL; rw [h1, if_pos rfl]
    rw [e]; exact h.up hb
  · exact ⟨v', rfl, ho, hb⟩

end Go.Proofs.YtcigljngiemdeaaGreat
