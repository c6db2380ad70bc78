/-
  Texts of one claim, put together.
-/
import Derived.Test.YtogonjkklioaaaaGreatDoorLg5
import Derived.Test.YtogonjkklioaaaaGreatDoorLg8
set_option maxRecDepth 100000
set_option maxHeartbeats 8000000
namespace Go.Proofs.YtogonjkklioaaaaGreatDoor
open Go.RowKit
def zng (xs : List At) (w : World) (e : Ending) (w' : World) : Prop := ∃ A c rs, e = .returned (.slice A rs.length c) ∧ IsRefs w' 0 w'.heap.size A rs.length c rs ∧ rs.map rAt = xs ∧ Below w.heap.size w w'
def OwnRow (V : World) (B : Nat) (xs : List At) (v : Value) : Prop := ∃ (n M : Nat) (rs : List Rf), (B ≤ M ∧ M ≤ V.heap.size) ∧ rs.length = n ∧ rs.map rAt = xs ∧ V.ownsRow M 51 2 v n (zai rs) ∧ RefsIn V B M rs
theorem OwnRow.atoms {V : World} {B : Nat} {xs : List At} {v : Value} (h : OwnRow V B xs v) : ∃ A c, v = .slice A xs.length c ∧ IsAtoms V B V.heap.size A xs.length c xs := by
  obtain ⟨n, M, rs, ⟨h5, h6⟩, h1, h2, h3, h4⟩ := h; have hl : xs.length = n := by rw [← h2, List.length_map, h1]
  rw [hl]; obtain ⟨A, c, e, hI⟩ := zej h3 h1.symm h5 h4 h6; refine ⟨A, c, e, ?_⟩; have := hI.atoms
  rwa [h2] at this
theorem OwnRow.up {V W : World} {B : Nat} {xs : List At} {v : Value} (h : OwnRow V B xs v) (hb : Below V.heap.size V W) : OwnRow W B xs v := by
  obtain ⟨n, M, rs, ⟨h5, h6⟩, h1, h2, h3, h4⟩ := h; exact ⟨n, M, rs, ⟨h5, Nat.le_trans h6 hb.size⟩, h1, h2, h3.kept (⟨hb.os, hb.tape, hb.output, hb.size, fun i hi _ => hb.block i hi⟩ : V.grownBy W none) (Classical.em _), h4.keep (fun _ _ hq => hb.cell (Nat.lt_of_lt_of_le hq h6)) (nl _) (nl _)⟩
def PutPost (L0 : Nat) (xs : List At) (a : At) (v : Value) (w : World) (e : Ending) (w' : World) : Prop :=
  Below w.heap.size w w' ∧ ((zbq xs a = true ∧ e = .returned v) ∨ (∃ v', e = .returned v' ∧ OwnRow w' L0 (zed xs a) v'))
theorem zoc {w V : World} {L0 : Nat} (hL0 : L0 ≤ w.heap.size) {k n : Nat} {v : Value} {rs : List Rf} {nm : ByteArray} {B : Option Addr} {m d : Nat} {ts : List Tm} {xs : List At} (hl : rs.length = n) (hk : k ≤ n)
    (h : V.ownsRow (w.heap.size + 1) 51 2 v (0 + k + 1 + (n - k)) ([] ++ zai (rs.take k) ++ [.string nm, .slice B m d] ++ zai (rs.drop k))) (hr : RefsIn w L0 w.heap.size (rs.take k ++ (nm, B, m, d, ts) :: rs.drop k)) (hb : Below w.heap.size w V)
    (hp : (rs.take k ++ (nm, B, m, d, ts) :: rs.drop k).map rAt = xs) : OwnRow V L0 xs v := by
  have hlen : (rs.take k ++ (nm, B, m, d, ts) :: rs.drop k).length = 0 + k + 1 + (n - k) := by
    rw [List.length_append, List.length_cons, List.length_take, List.length_drop, hl, Nat.min_eq_left hk]; omega
  refine ⟨_, w.heap.size, _, ⟨hL0, hb.size⟩, hlen, hp, ?_, hr.keep (fun _ _ hq => hb.cell hq) (nl _) (nl _)⟩
  have e : zai (rs.take k ++ (nm, B, m, d, ts) :: rs.drop k) = [] ++ zai (rs.take k) ++ [.string nm, .slice B m d] ++ zai (rs.drop k) := by
    rw [zhw]; unfold zai; simp
  rw [e]; exact ⟨h.1, h.2.imp id fun ⟨g, cap, cur, hv, hg, rest⟩ => ⟨g, cap, cur, hv, by omega, rest⟩⟩
theorem put_refsL {w : World} {L0 : Nat} {rs : List Rf} {k : Nat} {nm : ByteArray} {B : Option Addr} {m d : Nat} {ts : List Tm} (h : RefsIn w L0 w.heap.size rs) (hs : nm.size ≤ maxLen) (ht : IsTerms w L0 w.heap.size B m d ts) : RefsIn w L0 w.heap.size (rs.take k ++ (nm, B, m, d, ts) :: rs.drop k) := by
  intro r hr; rcases List.mem_append.1 hr with h1 | h1
  · exact h r (List.mem_of_mem_take h1)
  · rcases List.mem_cons.1 h1 with rfl | h1
    · exact ⟨hs, ht⟩
    · exact h r (List.mem_of_mem_drop h1)
theorem ZL3PutOwn1 {p : Prop} (h : p := by
  intro v5 V5 OW5 G5; have HB5 := HB4.trans (zam OW4 G5 (Nat.le_succ _) HB4.size); have BX5 := BX4.kept G5 (zdh OW4 (Nat.lt_succ_self _)); refine hK_.out _ _ ⟨BX5.cell 0, BX5.cell 1⟩ fun hS_ => ?_; clear hK_; refine tk 12 v5 hS_ ?_; refine wpAnyH_done qab ?_ _; have o9 := zoc hL0 HL.out hkn OW5 RIN.out HB5 PD.out; go_wp2; go_ret; exact ⟨HB5, .inr ⟨_, rfl, o9⟩⟩) : p := h
theorem ZL3PutOwn2 {p : Prop} (h : p := by
  intro v9 V9 OW9 G9; have HB9 := HB8.trans (zam OW8 G9 (Nat.le_succ _) HB8.size); have BX9 := BX8.kept G9 (zdh OW8 (Nat.lt_succ_self _)); refine hK_.out _ _ ⟨BX9.cell 0, BX9.cell 1⟩ fun hS_ => ?_; clear hK_; refine tk 12 v9 hS_ ?_; refine wpAnyH_done qab ?_ _; have o9 := zoc hL0 HL.out hkn OW9 RIN.out HB9 PD.out; go_wp2; go_ret; exact ⟨HB9, .inr ⟨_, rfl, o9⟩⟩) : p := h
theorem ZL3PutOwn0 {p : Prop} (h : p := by
  intro v14 V14 OW14 G14; have HB14 := HB13.trans (zam OW13 G14 (Nat.le_succ _) HB13.size); have BX14 := BX13.kept G14 (zdh OW13 (Nat.lt_succ_self _)); refine hK_.out _ _ ⟨BX14.cell 0, BX14.cell 1⟩ fun hS_ => ?_; clear hK_; refine tk 12 v14 hS_ ?_; refine wpAnyH_done qab ?_ _; have o9 := zoc hL0 HL.out hkn OW14 RIN.out HB14 PD.out; go_wp2; go_ret; exact ⟨HB14, .inr ⟨_, rfl, o9⟩⟩) : p := h
theorem l3Put_own (A : Option Addr) (n c : Nat) (xs : List At) (nm : ByteArray) (B : Option Addr) (m d : Nat) (ts : List Tm) (w : World) (L0 : Nat) (hL0 : L0 ≤ w.heap.size) (h : IsAtoms w L0 w.heap.size A n c xs) (hs : nm.size ≤ maxLen) (h' : IsTerms w L0 w.heap.size B m d ts) (hr : zaj xs = true) (hmax : n ≤ 137438953472) :
    Calls Tryz.prog 85 #[.slice A n c, .agg #[.string nm, .slice B m d]] w (PutPost L0 xs (nm, ts) (.slice A n c) w) := by
  have HX := hid h.1; obtain ⟨rs, d4, hm⟩ := zks h; have HL := hid d4.1; have RR := hid d4; have HM := hid hm; clear hm; have HJ := hid h'; have H := hid (h.keep AtomE.stays (lo' := 0) (fun _ _ _ => rfl) (Nat.zero_le _) (nl _)); have H' := hid (h'.keep (lo' := 0) (fun _ _ _ => rfl) (Nat.zero_le _) (nl _)); clear h h'; have HRR := hid hr; clear hr; have hnc := d4.2.1; have g0 := d4.2.2.1; have e8 : 0 < n → ∃ p, A = some p := fun h0 => by obtain ⟨p, hp, _⟩ := d4.2.2.2 h0; exact ⟨p, hp⟩
  unfold maxLen at g0; clear d4; obtain ⟨i0, hi, hz, hsz, hby⟩ := info_parts Tryz.infoAt; have e6 := zac w (.cells #[.string nm, .slice B m d] 51); have B1 := Blk.new w 51 #[.string nm, .slice B m d]; go_enter Tryz.func85, Tryz.ntmps85; go_wp2_with fail; refine (znd A n c xs nm B m d ts _ (H.out.up AtomE.stays e6) (H'.out.up e6) HRR.out).mono ?_; rintro e w2 ⟨k, ⟨rfl, hkn, e7, hat⟩, hb2⟩; have HB2 := zaa e6 hb2; have B2 := B1.below hb2; have h5 := hid e7; have g1 := hid hat; clear e7 hat
  cases hB : zbq xs (nm, ts)
  · have PD := hid (show (rs.take k ++ (nm, B, m, d, ts) :: rs.drop k).map rAt = zed xs (nm, ts) from by
      unfold zed; rw [hB, if_neg qag, place_ins (k := k) (by rw [HX.out]; exact hkn) h5.out g1.out, List.map_append, List.map_cons, List.map_take, List.map_drop, HM.out]; rfl)
    have RIN := hid (put_refsL (k := k) (RefsIn.of RR.out) hs HJ.out); clear hB; go_wp2; have x1 : w2.drew.cell? ⟨w.heap.size, 0, none⟩ = some (.string nm) := B2.cell 0; have x2 : w2.drew.cell? ⟨w.heap.size, 1, none⟩ = some (.slice B m d) := B2.cell 1; have HBV : Below w.heap.size w w2.drew := HB2.drew; have BXV : Blk w2.drew w.heap.size 51 #[.string nm, .slice B m d] := B2; have g8 : w.heap.size + 1 ≤ w2.drew.heap.size := B2.lt; obtain ⟨V, hV⟩ : ∃ V, w2.drew = V := ⟨_, rfl⟩; rw [hV] at x1 x2 HBV BXV g8
    cases A with
    | none =>
      have h7 : n = 0 := by
        rcases Nat.eq_zero_or_pos n with h0 | h0
        · exact h0
        · obtain ⟨p, hp⟩ := e8 h0; cases hp
      subst h7; have g6 : k = 0 := qaa; subst g6; have h8 : ((0 : Nat) : Int) = 0 := rfl; have b6 : rs = [] := List.eq_nil_of_length_eq_zero HL.out; have SD : Hid (∀ W, Below w.heap.size w W → SrcAt W none 0 (zai (rs.drop 0))) := hid (fun W _ => by rw [b6]; exact ⟨rfl, fun _ _ j u hu => absurd hu (by simp [zai]), fun _ => rfl⟩); have HR0 := hid b6; clear b6; refine wp_region_held_drew (S := fun W => W.cell? ⟨w.heap.size, 0, none⟩ = some (.string nm) ∧ W.cell? ⟨w.heap.size, 1, none⟩ = some (.slice B m d)) qab qeu ?_; rw [hV]; intro hS_; refine tk 1 (.slice none 0 c) hS_ ?_; refine tk 2 (.int .i64 0) hS_ ?_
      refine tk 3 (.slice none 0 c) hS_ ?_; refine tk 5 (.agg #[.string nm, .slice B m d]) hS_ ?_; refine tk 8 (.slice none 0 c) hS_ ?_; refine tk 9 (.int .i64 0) hS_ ?_; refine tk 10 (.slice none 0 c) hS_ ?_; refine rd2 0 6 (fun K_ hK_ => ?_) fun K_ hK_ => ?_
      · rw [if_pos qad]
        go_simp; obtain ⟨V1, hV1⟩ : ∃ X, V.alloc (.cells #[] 51) = X := ⟨_, rfl⟩; have HB1 : Below w.heap.size w V1 := qcy; have a9 : Blk V1 (w.heap.size) 51 #[.string nm, .slice B m d] := by rw [← hV1]; exact BXV.alloc _
        have Z1 : V.heap.size + 1 ≤ V1.heap.size := by rw [← hV1]; simp
        have OW1 : V1.ownsRow (w.heap.size + 1) 51 2 (.slice (some ⟨V.heap.size, 0, none⟩) 0 0) 0 [] := qcj; rw [hV1]; clear hV1; refine hK_.out _ _ ⟨a9.cell 0, a9.cell 1⟩ fun hS_ => ?_; clear hK_; refine rd2 4 6 (fun K_ hK_ => ?_) fun K_ hK_ => ?_
        · refine zbi qad _ _ _ qad (w.heap.size + 1) 51 i0 _ 40 Tryz.underlying23 hi hz hsz hby rfl (.slice (some ⟨V.heap.size, 0, none⟩) 0 0) 0 [] qad OW1 none 0 c (zai (rs.take 0)) qad (IsRefs.srcTake (RR.out.below RefE.stays HB1 (nl _)) qaa) qam qaf qaa a9.lt ?_
          intro v2 V2 OW2 G2; have HB2 := HB1.trans (zam OW1 G2 (Nat.le_succ _) HB1.size); have c7 := a9.kept G2 (zdh OW1 (Nat.lt_succ_self _)); refine hK_.out _ _ ⟨c7.cell 0, c7.cell 1⟩ fun hS_ => ?_; clear hK_; refine rd1 6 fun K_ hK_ => ?_; go_simp; obtain ⟨V3, hV3⟩ : ∃ X, V2.alloc (.cells #[.string nm, .slice B m d] 51) = X := ⟨_, rfl⟩; have HB3 : Below w.heap.size w V3 := qdq; have b4 : Blk V3 (w.heap.size) 51 #[.string nm, .slice B m d] := by rw [← hV3]; exact c7.alloc _
          have Z3 : V2.heap.size + 1 ≤ V3.heap.size := by rw [← hV3]; simp
          have d7 : Blk V3 (V2.heap.size) 51 #[.string nm, .slice B m d] := qea; have b9 : V3.ownsRow (w.heap.size + 1) 51 2 v2 (0 + 0) ([] ++ (zai (rs.take 0))) := qeh; rw [hV3]; clear hV3; refine hK_.out _ _ ⟨b4.cell 0, b4.cell 1⟩ fun hS_ => ?_; clear hK_; refine rd0 7 fun K_ hK_ => ?_; refine zbi qad _ _ _ qad (w.heap.size + 1) 51 i0 _ 40 Tryz.underlying23 hi hz hsz hby rfl v2 (0 + 0) ([] ++ (zai (rs.take 0))) qad b9 (some ⟨V2.heap.size, 0, none⟩) 1 1 [.string nm, .slice B m d] qad (srcOne _ _ _ _ _ d7) qam qaf qaa b4.lt ?_
          intro v4 V4 OW4 G4; have HB4 := HB3.trans (zam b9 G4 (Nat.le_succ _) HB3.size); have BX4 := b4.kept G4 (zdh b9 (Nat.lt_succ_self _)); refine hK_.out _ _ ⟨BX4.cell 0, BX4.cell 1⟩ fun hS_ => ?_; clear hK_; refine rd0 11 fun K_ hK_ => ?_; refine zbi qad _ _ _ qad (w.heap.size + 1) 51 i0 _ 40 Tryz.underlying23 hi hz hsz hby rfl v4 (0 + 0 + 1) ([] ++ (zai (rs.take 0)) ++ [.string nm, .slice B m d]) qad OW4 none 0 c (zai (rs.drop 0)) qad (SD.out _ HB4) qam qaf qaa BX4.lt ?_; exact ZL3PutOwn1
        · rw [if_pos qad]
          go_simp; obtain ⟨V6, hV6⟩ : ∃ X, V1.alloc (.cells #[.string nm, .slice B m d] 51) = X := ⟨_, rfl⟩; have HB6 : Below w.heap.size w V6 := qdr; have b5 : Blk V6 (w.heap.size) 51 #[.string nm, .slice B m d] := by rw [← hV6]; exact a9.alloc _
          have Z6 : V1.heap.size + 1 ≤ V6.heap.size := by rw [← hV6]; simp
          have d9 : Blk V6 (V1.heap.size) 51 #[.string nm, .slice B m d] := qeb; have c3 : V6.ownsRow (w.heap.size + 1) 51 2 (.slice (some ⟨V.heap.size, 0, none⟩) 0 0) 0 [] := qei; rw [hV6]; clear hV6; refine hK_.out _ _ ⟨b5.cell 0, b5.cell 1⟩ fun hS_ => ?_; clear hK_; refine rd0 4 fun K_ hK_ => ?_; refine zbi qad _ _ _ qad (w.heap.size + 1) 51 i0 _ 40 Tryz.underlying23 hi hz hsz hby rfl (.slice (some ⟨V.heap.size, 0, none⟩) 0 0) 0 [] qad c3 none 0 c (zai (rs.take 0)) qad (IsRefs.srcTake (RR.out.below RefE.stays HB6 (nl _)) qaa) qam qaf qaa b5.lt ?_
          intro v7 V7 OW7 G7; have HB7 := HB6.trans (zam c3 G7 (Nat.le_succ _) HB6.size); have BX7 := b5.kept G7 (zdh c3 (Nat.lt_succ_self _)); have TM7 := d9.kept G7 qbu; refine hK_.out _ _ ⟨BX7.cell 0, BX7.cell 1⟩ fun hS_ => ?_; clear hK_; refine rd0 7 fun K_ hK_ => ?_; refine zbi qad _ _ _ qad (w.heap.size + 1) 51 i0 _ 40 Tryz.underlying23 hi hz hsz hby rfl v7 (0 + 0) ([] ++ (zai (rs.take 0))) qad OW7 (some ⟨V1.heap.size, 0, none⟩) 1 1 [.string nm, .slice B m d] qad (srcOne _ _ _ _ _ TM7) qam qaf qaa BX7.lt ?_; intro v8 V8 OW8 G8; have HB8 := HB7.trans (zam OW7 G8 (Nat.le_succ _) HB7.size)
          have BX8 := BX7.kept G8 (zdh OW7 (Nat.lt_succ_self _)); refine hK_.out _ _ ⟨BX8.cell 0, BX8.cell 1⟩ fun hS_ => ?_; clear hK_; refine rd0 11 fun K_ hK_ => ?_; refine zbi qad _ _ _ qad (w.heap.size + 1) 51 i0 _ 40 Tryz.underlying23 hi hz hsz hby rfl v8 (0 + 0 + 1) ([] ++ (zai (rs.take 0)) ++ [.string nm, .slice B m d]) qad OW8 none 0 c (zai (rs.drop 0)) qad (SD.out _ HB8) qam qaf qaa BX8.lt ?_; exact ZL3PutOwn2
      · rw [if_pos qad]
        go_simp; obtain ⟨a2, hV10⟩ : ∃ X, V.alloc (.cells #[.string nm, .slice B m d] 51) = X := ⟨_, rfl⟩; have HB10 : Below w.heap.size w a2 := qdo; have a3 : Blk a2 (w.heap.size) 51 #[.string nm, .slice B m d] := by rw [← hV10]; exact BXV.alloc _
        have g7 : V.heap.size + 1 ≤ a2.heap.size := by rw [← hV10]; simp
        have TM10 : Blk a2 (V.heap.size) 51 #[.string nm, .slice B m d] := qec; rw [hV10]; clear hV10; refine hK_.out _ _ ⟨a3.cell 0, a3.cell 1⟩ fun hS_ => ?_; clear hK_; refine rd1 0 fun K_ hK_ => ?_; go_simp; obtain ⟨b3, hV11⟩ : ∃ X, a2.alloc (.cells #[] 51) = X := ⟨_, rfl⟩; have a6 : Below w.heap.size w b3 := qdk; have a5 : Blk b3 (w.heap.size) 51 #[.string nm, .slice B m d] := by rw [← hV11]; exact a3.alloc _
        have g5 : a2.heap.size + 1 ≤ b3.heap.size := by rw [← hV11]; simp
        have a7 : b3.ownsRow (w.heap.size + 1) 51 2 (.slice (some ⟨a2.heap.size, 0, none⟩) 0 0) 0 [] := by rw [← hV11]; exact zes a2 51 _ a3.lt
        have b7 : Blk b3 (V.heap.size) 51 #[.string nm, .slice B m d] := qed; rw [hV11]; clear hV11; refine hK_.out _ _ ⟨a5.cell 0, a5.cell 1⟩ fun hS_ => ?_; clear hK_; refine rd0 4 fun K_ hK_ => ?_; refine zbi qad _ _ _ qad (w.heap.size + 1) 51 i0 _ 40 Tryz.underlying23 hi hz hsz hby rfl (.slice (some ⟨a2.heap.size, 0, none⟩) 0 0) 0 [] qad a7 none 0 c (zai (rs.take 0)) qad (IsRefs.srcTake (RR.out.below RefE.stays a6 (nl _)) qaa) qam qaf qaa a5.lt ?_; intro v12 V12 OW12 G12; have a8 := a6.trans (zam a7 G12 (Nat.le_succ _) a6.size)
        have a4 := a5.kept G12 (zdh a7 (Nat.lt_succ_self _)); have c0 := b7.kept G12 qbu; refine hK_.out _ _ ⟨a4.cell 0, a4.cell 1⟩ fun hS_ => ?_; clear hK_; refine rd0 7 fun K_ hK_ => ?_; refine zbi qad _ _ _ qad (w.heap.size + 1) 51 i0 _ 40 Tryz.underlying23 hi hz hsz hby rfl v12 (0 + 0) ([] ++ (zai (rs.take 0))) qad OW12 (some ⟨V.heap.size, 0, none⟩) 1 1 [.string nm, .slice B m d] qad (srcOne _ _ _ _ _ c0) qam qaf qaa a4.lt ?_; intro v13 V13 OW13 G13; have HB13 := a8.trans (zam OW12 G13 (Nat.le_succ _) a8.size); have BX13 := a4.kept G13 (zdh OW12 (Nat.lt_succ_self _))
        refine hK_.out _ _ ⟨BX13.cell 0, BX13.cell 1⟩ fun hS_ => ?_; clear hK_; refine rd0 11 fun K_ hK_ => ?_; refine zbi qad _ _ _ qad (w.heap.size + 1) 51 i0 _ 40 Tryz.underlying23 hi hz hsz hby rfl v13 (0 + 0 + 1) ([] ++ (zai (rs.take 0)) ++ [.string nm, .slice B m d]) qad OW13 none 0 c (zai (rs.drop 0)) qad (SD.out _ HB13) qam qaf qaa BX13.lt ?_
        exact ZL3PutOwn0
    | some p =>
      have hkc : k ≤ c := qaa; have hki : (k : Int) ≤ (c : Int) := qaa; have h6 : (k : Int) ≤ (n : Int) := qaa; obtain ⟨QK, g2⟩ : ∃ q, (if c = k then some p else some (p.add (k * 2))) = q := ⟨_, rfl⟩; have SD : Hid (∀ W, Below w.heap.size w W → SrcAt W QK (n - k) (zai (rs.drop k))) := hid (fun W hb => IsRefs.srcDrop (RR.out.below RefE.stays hb (nl _)) hkn g2.symm); refine wp_region_held_drew (S := fun W => W.cell? ⟨w.heap.size, 0, none⟩ = some (.string nm) ∧ W.cell? ⟨w.heap.size, 1, none⟩ = some (.slice B m d)) qab qeu ?_; rw [hV]; intro hS_; refine tk 1 (.slice (some p) n c) hS_ ?_; refine tk 2 (.int .i64 (k : Int)) hS_ ?_
      refine tk 3 (.slice (some p) k c) hS_ ?_; refine tk 5 (.agg #[.string nm, .slice B m d]) hS_ ?_; refine tk 8 (.slice (some p) n c) hS_ ?_; refine tk 9 (.int .i64 (k : Int)) hS_ ?_; refine tk 10 (.slice QK (n - k) (c - k)) hS_ ?_; refine rd2 0 6 (fun K_ hK_ => ?_) fun K_ hK_ => ?_
      · rw [if_pos qad]
        go_simp; obtain ⟨V1, hV1⟩ : ∃ X, V.alloc (.cells #[] 51) = X := ⟨_, rfl⟩; have HB1 : Below w.heap.size w V1 := qcy; have a9 : Blk V1 (w.heap.size) 51 #[.string nm, .slice B m d] := by rw [← hV1]; exact BXV.alloc _
        have Z1 : V.heap.size + 1 ≤ V1.heap.size := by rw [← hV1]; simp
        have OW1 : V1.ownsRow (w.heap.size + 1) 51 2 (.slice (some ⟨V.heap.size, 0, none⟩) 0 0) 0 [] := qcj; rw [hV1]; clear hV1; refine hK_.out _ _ ⟨a9.cell 0, a9.cell 1⟩ fun hS_ => ?_; clear hK_; refine rd2 4 6 (fun K_ hK_ => ?_) fun K_ hK_ => ?_
        · refine zbi qad _ _ _ qad (w.heap.size + 1) 51 i0 _ 40 Tryz.underlying23 hi hz hsz hby rfl (.slice (some ⟨V.heap.size, 0, none⟩) 0 0) 0 [] qad OW1 (some p) k c (zai (rs.take k)) qad (IsRefs.srcTake (RR.out.below RefE.stays HB1 (nl _)) qaa) qam qaf qaa a9.lt ?_
          intro v2 V2 OW2 G2; have HB2 := HB1.trans (zam OW1 G2 (Nat.le_succ _) HB1.size); have c7 := a9.kept G2 (zdh OW1 (Nat.lt_succ_self _)); refine hK_.out _ _ ⟨c7.cell 0, c7.cell 1⟩ fun hS_ => ?_; clear hK_; refine rd1 6 fun K_ hK_ => ?_; go_simp; obtain ⟨V3, hV3⟩ : ∃ X, V2.alloc (.cells #[.string nm, .slice B m d] 51) = X := ⟨_, rfl⟩; have HB3 : Below w.heap.size w V3 := qdq; have b4 : Blk V3 (w.heap.size) 51 #[.string nm, .slice B m d] := by rw [← hV3]; exact c7.alloc _
          have Z3 : V2.heap.size + 1 ≤ V3.heap.size := by rw [← hV3]; simp
          have d7 : Blk V3 (V2.heap.size) 51 #[.string nm, .slice B m d] := qea; have b9 : V3.ownsRow (w.heap.size + 1) 51 2 v2 (0 + k) ([] ++ (zai (rs.take k))) := qeh; rw [hV3]; clear hV3; refine hK_.out _ _ ⟨b4.cell 0, b4.cell 1⟩ fun hS_ => ?_; clear hK_; refine rd0 7 fun K_ hK_ => ?_; refine zbi qad _ _ _ qad (w.heap.size + 1) 51 i0 _ 40 Tryz.underlying23 hi hz hsz hby rfl v2 (0 + k) ([] ++ (zai (rs.take k))) qad b9 (some ⟨V2.heap.size, 0, none⟩) 1 1 [.string nm, .slice B m d] qad (srcOne _ _ _ _ _ d7) qam qaf qaa b4.lt ?_
          intro v4 V4 OW4 G4; have HB4 := HB3.trans (zam b9 G4 (Nat.le_succ _) HB3.size); have BX4 := b4.kept G4 (zdh b9 (Nat.lt_succ_self _)); refine hK_.out _ _ ⟨BX4.cell 0, BX4.cell 1⟩ fun hS_ => ?_; clear hK_; refine rd0 11 fun K_ hK_ => ?_; refine zbi qad _ _ _ qad (w.heap.size + 1) 51 i0 _ 40 Tryz.underlying23 hi hz hsz hby rfl v4 (0 + k + 1) ([] ++ (zai (rs.take k)) ++ [.string nm, .slice B m d]) qad OW4 QK (n - k) (c - k) (zai (rs.drop k)) qad (SD.out _ HB4) qam qaf qaa BX4.lt ?_; exact ZL3PutOwn1
        · rw [if_pos qad]
          go_simp; obtain ⟨V6, hV6⟩ : ∃ X, V1.alloc (.cells #[.string nm, .slice B m d] 51) = X := ⟨_, rfl⟩; have HB6 : Below w.heap.size w V6 := qdr; have b5 : Blk V6 (w.heap.size) 51 #[.string nm, .slice B m d] := by rw [← hV6]; exact a9.alloc _
          have Z6 : V1.heap.size + 1 ≤ V6.heap.size := by rw [← hV6]; simp
          have d9 : Blk V6 (V1.heap.size) 51 #[.string nm, .slice B m d] := qeb; have c3 : V6.ownsRow (w.heap.size + 1) 51 2 (.slice (some ⟨V.heap.size, 0, none⟩) 0 0) 0 [] := qei; rw [hV6]; clear hV6; refine hK_.out _ _ ⟨b5.cell 0, b5.cell 1⟩ fun hS_ => ?_; clear hK_; refine rd0 4 fun K_ hK_ => ?_; refine zbi qad _ _ _ qad (w.heap.size + 1) 51 i0 _ 40 Tryz.underlying23 hi hz hsz hby rfl (.slice (some ⟨V.heap.size, 0, none⟩) 0 0) 0 [] qad c3 (some p) k c (zai (rs.take k)) qad (IsRefs.srcTake (RR.out.below RefE.stays HB6 (nl _)) qaa) qam qaf qaa b5.lt ?_
          intro v7 V7 OW7 G7; have HB7 := HB6.trans (zam c3 G7 (Nat.le_succ _) HB6.size); have BX7 := b5.kept G7 (zdh c3 (Nat.lt_succ_self _)); have TM7 := d9.kept G7 qbu; refine hK_.out _ _ ⟨BX7.cell 0, BX7.cell 1⟩ fun hS_ => ?_; clear hK_; refine rd0 7 fun K_ hK_ => ?_; refine zbi qad _ _ _ qad (w.heap.size + 1) 51 i0 _ 40 Tryz.underlying23 hi hz hsz hby rfl v7 (0 + k) ([] ++ (zai (rs.take k))) qad OW7 (some ⟨V1.heap.size, 0, none⟩) 1 1 [.string nm, .slice B m d] qad (srcOne _ _ _ _ _ TM7) qam qaf qaa BX7.lt ?_; intro v8 V8 OW8 G8; have HB8 := HB7.trans (zam OW7 G8 (Nat.le_succ _) HB7.size)
          have BX8 := BX7.kept G8 (zdh OW7 (Nat.lt_succ_self _)); refine hK_.out _ _ ⟨BX8.cell 0, BX8.cell 1⟩ fun hS_ => ?_; clear hK_; refine rd0 11 fun K_ hK_ => ?_; refine zbi qad _ _ _ qad (w.heap.size + 1) 51 i0 _ 40 Tryz.underlying23 hi hz hsz hby rfl v8 (0 + k + 1) ([] ++ (zai (rs.take k)) ++ [.string nm, .slice B m d]) qad OW8 QK (n - k) (c - k) (zai (rs.drop k)) qad (SD.out _ HB8) qam qaf qaa BX8.lt ?_; exact ZL3PutOwn2
      · rw [if_pos qad]
        go_simp; obtain ⟨a2, hV10⟩ : ∃ X, V.alloc (.cells #[.string nm, .slice B m d] 51) = X := ⟨_, rfl⟩; have HB10 : Below w.heap.size w a2 := qdo; have a3 : Blk a2 (w.heap.size) 51 #[.string nm, .slice B m d] := by rw [← hV10]; exact BXV.alloc _
        have g7 : V.heap.size + 1 ≤ a2.heap.size := by rw [← hV10]; simp
        have TM10 : Blk a2 (V.heap.size) 51 #[.string nm, .slice B m d] := qec; rw [hV10]; clear hV10; refine hK_.out _ _ ⟨a3.cell 0, a3.cell 1⟩ fun hS_ => ?_; clear hK_; refine rd1 0 fun K_ hK_ => ?_; go_simp; obtain ⟨b3, hV11⟩ : ∃ X, a2.alloc (.cells #[] 51) = X := ⟨_, rfl⟩; have a6 : Below w.heap.size w b3 := qdk; have a5 : Blk b3 (w.heap.size) 51 #[.string nm, .slice B m d] := by rw [← hV11]; exact a3.alloc _
        have g5 : a2.heap.size + 1 ≤ b3.heap.size := by rw [← hV11]; simp
        have a7 : b3.ownsRow (w.heap.size + 1) 51 2 (.slice (some ⟨a2.heap.size, 0, none⟩) 0 0) 0 [] := by rw [← hV11]; exact zes a2 51 _ a3.lt
        have b7 : Blk b3 (V.heap.size) 51 #[.string nm, .slice B m d] := qed; rw [hV11]; clear hV11; refine hK_.out _ _ ⟨a5.cell 0, a5.cell 1⟩ fun hS_ => ?_; clear hK_; refine rd0 4 fun K_ hK_ => ?_; refine zbi qad _ _ _ qad (w.heap.size + 1) 51 i0 _ 40 Tryz.underlying23 hi hz hsz hby rfl (.slice (some ⟨a2.heap.size, 0, none⟩) 0 0) 0 [] qad a7 (some p) k c (zai (rs.take k)) qad (IsRefs.srcTake (RR.out.below RefE.stays a6 (nl _)) qaa) qam qaf qaa a5.lt ?_; intro v12 V12 OW12 G12; have a8 := a6.trans (zam a7 G12 (Nat.le_succ _) a6.size)
        have a4 := a5.kept G12 (zdh a7 (Nat.lt_succ_self _)); have c0 := b7.kept G12 qbu; refine hK_.out _ _ ⟨a4.cell 0, a4.cell 1⟩ fun hS_ => ?_; clear hK_; refine rd0 7 fun K_ hK_ => ?_; refine zbi qad _ _ _ qad (w.heap.size + 1) 51 i0 _ 40 Tryz.underlying23 hi hz hsz hby rfl v12 (0 + k) ([] ++ (zai (rs.take k))) qad OW12 (some ⟨V.heap.size, 0, none⟩) 1 1 [.string nm, .slice B m d] qad (srcOne _ _ _ _ _ c0) qam qaf qaa a4.lt ?_; intro v13 V13 OW13 G13; have HB13 := a8.trans (zam OW12 G13 (Nat.le_succ _) a8.size); have BX13 := a4.kept G13 (zdh OW12 (Nat.lt_succ_self _))
        refine hK_.out _ _ ⟨BX13.cell 0, BX13.cell 1⟩ fun hS_ => ?_; clear hK_; refine rd0 11 fun K_ hK_ => ?_; refine zbi qad _ _ _ qad (w.heap.size + 1) 51 i0 _ 40 Tryz.underlying23 hi hz hsz hby rfl v13 (0 + k + 1) ([] ++ (zai (rs.take k)) ++ [.string nm, .slice B m d]) qad OW13 QK (n - k) (c - k) (zai (rs.drop k)) qad (SD.out _ HB13) qam qaf qaa BX13.lt ?_; exact ZL3PutOwn0
  · have h4 := hid hB; clear hB
    go_wp2; go_ret; exact ⟨HB2, .inl ⟨h4.out, rfl⟩⟩
theorem zou (v : Value) (xs : List At) (nm : ByteArray) (A : Option Addr) (m d : Nat) (ts : List Tm) (w : World) (B : Nat) (hB : B ≤ w.heap.size) (h : OwnRow w B xs v) (hs : nm.size ≤ maxLen) (h' : IsTerms w B w.heap.size A m d ts) (hr : zaj xs = true) (hmax : xs.length ≤ 1048576) :
    Calls Tryz.prog 85 #[v, .agg #[.string nm, .slice A m d]] w (fun e w' => ∃ v', e = .returned v' ∧ OwnRow w' B (zed xs (nm, ts)) v' ∧ Below w.heap.size w w') := by
  obtain ⟨D, c, rfl, hI⟩ := h.atoms; refine (l3Put_own D xs.length c xs nm A m d ts w B hB hI hs h' hr qaa).mono ?_; rintro e w' ⟨hb, ⟨h1, rfl⟩ | ⟨v', rfl, ho⟩⟩
  · refine ⟨_, rfl, ?_, hb⟩
    have e : zed xs (nm, ts) = xs := by unfold zed; rw [h1, if_pos rfl]
    rw [e]; exact h.up hb
  · exact ⟨v', rfl, ho, hb⟩
theorem zju (A : Option Addr) (n c : Nat) (xs : List At) (nm : ByteArray) (B : Option Addr) (m d : Nat) (ts : List Tm) (w : World) (h : IsAtoms w 0 w.heap.size A n c xs) (hs : nm.size ≤ maxLen) (h' : IsTerms w 0 w.heap.size B m d ts) (hr : zaj xs = true) (hmax : n ≤ 137438953472) :
    Calls Tryz.prog 85 #[.slice A n c, .agg #[.string nm, .slice B m d]] w (zng (zed xs (nm, ts)) w) := by
  refine (l3Put_own A n c xs nm B m d ts w 0 (Nat.zero_le _) h hs h' hr hmax).mono ?_; rintro e w' ⟨hb, ⟨h1, rfl⟩ | ⟨v', rfl, n', M, rs, ⟨h5, h6⟩, e1, e2, e3, e4⟩⟩
  · obtain ⟨rs, a2, hm⟩ := zks (h.up AtomE.stays hb)
    have hl : rs.length = n := a2.1; have e : zed xs (nm, ts) = xs := by unfold zed; rw [h1, if_pos rfl]
    exact ⟨A, c, rs, by rw [hl], by rw [hl]; exact a2, by rw [e]; exact hm, hb⟩
  · obtain ⟨A', c', e, hI⟩ := zej e3 e1.symm h5 e4 h6
    subst e; exact ⟨A', c', rs, by rw [e1], by rw [e1]; exact hI, e2, hb⟩
end Go.Proofs.YtogonjkklioaaaaGreatDoor
