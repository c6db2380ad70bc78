/-
  Texts of one claim, put together.
-/
import Derived.Test.YtcigljngiemdeaaGreatAo0
import Derived.Test.YtcigljngiemdeaaGreatAo4
import Derived.Test.YtcigljngiemdeaaGreatAo14
import Derived.Test.YtcigljngiemdeaaGreatAllS
import Derived.Test.YtcigljngiemdeaaGreatAo9
import Derived.Test.YtcigljngiemdeaaGreatRunMath
set_option maxRecDepth 100000
set_option maxHeartbeats 8000000
namespace Go.Proofs.YtcigljngiemdeaaGreat
open Go.RowKit
def ReadPost (xs : List At) (w : World) (e : Ending) (w' : World) : Prop := ∃ A c rs, e = .returned (.slice A rs.length c) ∧ IsRefs w' 0 w'.heap.size A rs.length c rs ∧ rs.map rAt = xs ∧ Below w.heap.size w w'
def OwnRow (V : World) (B : Nat) (xs : List At) (v : Value) : Prop := ∃ (n M : Nat) (rs : List Rf), (B ≤ M ∧ M ≤ V.heap.size) ∧ rs.length = n ∧ rs.map rAt = xs ∧ V.ownsRow M 49 2 v n (rcells rs) ∧ RefsIn V B M rs
theorem OwnRow.atoms {V : World} {B : Nat} {xs : List At} {v : Value} (h : OwnRow V B xs v) : ∃ A c, v = .slice A xs.length c ∧ IsAtoms V B V.heap.size A xs.length c xs := by
  obtain ⟨n, M, rs, ⟨h5, h6⟩, h1, h2, h3, h4⟩ := h; have hl : xs.length = n := by rw [← h2, List.length_map, h1]
  rw [hl]; obtain ⟨A, c, e, hI⟩ := refs_own h3 h1.symm h5 h4 h6; refine ⟨A, c, e, ?_⟩; have := hI.atoms
  rwa [h2] at this
theorem OwnRow.up {V W : World} {B : Nat} {xs : List At} {v : Value} (h : OwnRow V B xs v) (hb : Below V.heap.size V W) : OwnRow W B xs v := by
  obtain ⟨n, M, rs, ⟨h5, h6⟩, h1, h2, h3, h4⟩ := h; exact ⟨n, M, rs, ⟨h5, Nat.le_trans h6 hb.size⟩, h1, h2, h3.kept (⟨hb.os, hb.tape, hb.output, hb.size, fun i hi _ => hb.block i hi⟩ : V.grownBy W none) (Classical.em _), h4.keep (fun _ _ hq => hb.cell (Nat.lt_of_lt_of_le hq h6)) (nl _) (nl _)⟩
def PutPost (L0 : Nat) (xs : List At) (a : At) (v : Value) (w : World) (e : Ending) (w' : World) : Prop :=
  Below w.heap.size w w' ∧ ((hasB xs a = true ∧ e = .returned v) ∨ (∃ v', e = .returned v' ∧ OwnRow w' L0 (putL xs a) v'))
theorem put_doneO {w V : World} {L0 : Nat} (hL0 : L0 ≤ w.heap.size) {k n : Nat} {v : Value} {rs : List Rf} {nm : ByteArray} {B : Option Addr} {m d : Nat} {ts : List Tm} {xs : List At} (hl : rs.length = n) (hk : k ≤ n)
    (h : V.ownsRow (w.heap.size + 1) 49 2 v (0 + k + 1 + (n - k)) ([] ++ rcells (rs.take k) ++ [.string nm, .slice B m d] ++ rcells (rs.drop k))) (hr : RefsIn w L0 w.heap.size (rs.take k ++ (nm, B, m, d, ts) :: rs.drop k)) (hb : Below w.heap.size w V)
    (hp : (rs.take k ++ (nm, B, m, d, ts) :: rs.drop k).map rAt = xs) : OwnRow V L0 xs v := by
  have hlen : (rs.take k ++ (nm, B, m, d, ts) :: rs.drop k).length = 0 + k + 1 + (n - k) := by
    rw [List.length_append, List.length_cons, List.length_take, List.length_drop, hl, Nat.min_eq_left hk]; omega
  refine ⟨_, w.heap.size, _, ⟨hL0, hb.size⟩, hlen, hp, ?_, hr.keep (fun _ _ hq => hb.cell hq) (nl _) (nl _)⟩
  have e : rcells (rs.take k ++ (nm, B, m, d, ts) :: rs.drop k) = [] ++ rcells (rs.take k) ++ [.string nm, .slice B m d] ++ rcells (rs.drop k) := by
    rw [rcells_app]; unfold rcells; simp
  rw [e]; exact ⟨h.1, h.2.imp id fun ⟨g, cap, cur, hv, hg, rest⟩ => ⟨g, cap, cur, hv, by omega, rest⟩⟩
theorem put_refsL {w : World} {L0 : Nat} {rs : List Rf} {k : Nat} {nm : ByteArray} {B : Option Addr} {m d : Nat} {ts : List Tm} (h : RefsIn w L0 w.heap.size rs) (hs : nm.size ≤ maxLen) (ht : IsTerms w L0 w.heap.size B m d ts) : RefsIn w L0 w.heap.size (rs.take k ++ (nm, B, m, d, ts) :: rs.drop k) := by
  intro r hr; rcases List.mem_append.1 hr with h1 | h1
  · exact h r (List.mem_of_mem_take h1)
  · rcases List.mem_cons.1 h1 with rfl | h1
    · exact ⟨hs, ht⟩
    · exact h r (List.mem_of_mem_drop h1)
theorem l3Put_own (A : Option Addr) (n c : Nat) (xs : List At) (nm : ByteArray) (B : Option Addr) (m d : Nat) (ts : List Tm) (w : World) (L0 : Nat) (hL0 : L0 ≤ w.heap.size) (h : IsAtoms w L0 w.heap.size A n c xs) (hs : nm.size ≤ maxLen) (h' : IsTerms w L0 w.heap.size B m d ts) (hr : risesB xs = true) (hmax : n ≤ 137438953472) :
    Calls Tryz.prog 106 #[.slice A n c, .agg #[.string nm, .slice B m d]] w (PutPost L0 xs (nm, ts) (.slice A n c) w) := by
  have HX := hid h.1; obtain ⟨rs, hrs, hm⟩ := refs_of h; have HL := hid hrs.1; have RR := hid hrs; have HM := hid hm; clear hm; have HJ := hid h'; have H := hid (h.keep AtomE.stays (lo' := 0) (fun _ _ _ => rfl) (Nat.zero_le _) (nl _)); have H' := hid (h'.keep (lo' := 0) (fun _ _ _ => rfl) (Nat.zero_le _) (nl _)); clear h h'; have HRR := hid hr; clear hr; have hnc := hrs.2.1; have hcm := hrs.2.2.1; have hqn : 0 < n → ∃ p, A = some p := fun h0 => by obtain ⟨p, hp, _⟩ := hrs.2.2.2 h0; exact ⟨p, hp⟩
  unfold maxLen at hcm; clear hrs; obtain ⟨i0, hi, hz, hsz, hby⟩ := info_parts Tryz.infoAt; have hw1 := below1 w (.cells #[.string nm, .slice B m d] 49); have B1 := Blk.new w 49 #[.string nm, .slice B m d]; go_enter Tryz.func106, Tryz.ntmps106; go_wp2_with fail; refine (l3At_any A n c xs nm B m d ts _ (H.out.up AtomE.stays hw1) (H'.out.up hw1) HRR.out).mono ?_; rintro e w2 ⟨k, ⟨rfl, hkn, hlo, hat⟩, hb2⟩; have HB2 := belowThen hw1 hb2; have B2 := B1.below hb2
  have HLO := hid hlo; have HAT := hid hat; clear hlo hat; cases hB : hasB xs (nm, ts)
  · have PD := hid (show (rs.take k ++ (nm, B, m, d, ts) :: rs.drop k).map rAt = putL xs (nm, ts) from by
      unfold putL; rw [hB, if_neg qad, place_ins (k := k) (by rw [HX.out]; exact hkn) HLO.out HAT.out, List.map_append, List.map_cons, List.map_take, List.map_drop, HM.out]; rfl)
    have RIN := hid (put_refsL (k := k) (RefsIn.of RR.out) hs HJ.out); clear hB; go_wp2; have x1 : w2.drew.cell? ⟨w.heap.size, 0, none⟩ = some (.string nm) := B2.cell 0; have x2 : w2.drew.cell? ⟨w.heap.size, 1, none⟩ = some (.slice B m d) := B2.cell 1; have HBV : Below w.heap.size w w2.drew := HB2.drew; have BXV : Blk w2.drew w.heap.size 49 #[.string nm, .slice B m d] := B2; have hsV : w.heap.size + 1 ≤ w2.drew.heap.size := B2.lt; obtain ⟨V, hV⟩ : ∃ V, w2.drew = V := ⟨_, rfl⟩; rw [hV] at x1 x2 HBV BXV hsV
    cases A with
    | none =>
      have hn0 : n = 0 := by
        rcases Nat.eq_zero_or_pos n with h0 | h0
        · exact h0
        · obtain ⟨p, hp⟩ := hqn h0; cases hp
      subst hn0; have hk0 : k = 0 := qaa; subst hk0; have hk0i : ((0 : Nat) : Int) = 0 := rfl; have hrs0 : rs = [] := List.eq_nil_of_length_eq_zero HL.out; have SD : Hid (∀ W, Below w.heap.size w W → SrcAt W none 0 (rcells (rs.drop 0))) := hid (fun W _ => by rw [hrs0]; exact ⟨rfl, fun _ _ j u hu => absurd hu (by simp [rcells]), fun _ => rfl⟩); have HR0 := hid hrs0; clear hrs0; refine wp_region_held_drew (S := fun W => W.cell? ⟨w.heap.size, 0, none⟩ = some (.string nm) ∧ W.cell? ⟨w.heap.size, 1, none⟩ = some (.slice B m d)) qae (by rw [hV]; exact ⟨x1, x2⟩) ?_; rw [hV]; intro hS_; refine tk 1 (.slice none 0 c) hS_ ?_
      refine tk 2 (.int .i64 0) hS_ ?_; refine tk 3 (.slice none 0 c) hS_ ?_; refine tk 5 (.agg #[.string nm, .slice B m d]) hS_ ?_; refine tk 8 (.slice none 0 c) hS_ ?_; refine tk 9 (.int .i64 0) hS_ ?_; refine tk 10 (.slice none 0 c) hS_ ?_; refine rd2 0 6 (fun K_ hK_ => ?_) fun K_ hK_ => ?_
      · rw [if_pos qab]
        go_simp; obtain ⟨V1, hV1⟩ : ∃ X, V.alloc (.cells #[] 49) = X := ⟨_, rfl⟩; have HB1 : Below w.heap.size w V1 := qcz; have BX1 : Blk V1 (w.heap.size) 49 #[.string nm, .slice B m d] := by rw [← hV1]; exact BXV.alloc _
        have Z1 : V.heap.size + 1 ≤ V1.heap.size := by rw [← hV1]; simp
        have OW1 : V1.ownsRow (w.heap.size + 1) 49 2 (.slice (some ⟨V.heap.size, 0, none⟩) 0 0) 0 [] := by rw [← hV1]; exact own_empty V 49 _ BXV.lt
        rw [hV1]; clear hV1; refine hK_.out _ _ ⟨BX1.cell 0, BX1.cell 1⟩ fun hS_ => ?_; clear hK_
        (try simp only [Act.put, List.setIfInBounds_toArray, List.set_cons_zero, List.set_cons_succ])
        refine rd2 4 6 (fun K_ hK_ => ?_) fun K_ hK_ => ?_
        · refine step_app qab _ _ _ qab (w.heap.size + 1) 49 i0 _ 40 Tryz.underlying28 hi hz hsz hby rfl (.slice (some ⟨V.heap.size, 0, none⟩) 0 0) 0 [] qab OW1 none 0 c (rcells (rs.take 0)) qab (IsRefs.srcTake (RR.out.below RefE.stays HB1 (nl _)) qaa) qag qac qaa BX1.lt ?_
          intro v2 V2 OW2 G2; have HB2 := HB1.trans (own_below OW1 G2 (Nat.le_succ _) HB1.size); have BX2 := BX1.kept G2 (own_ne OW1 (Nat.lt_succ_self _)); refine hK_.out _ _ ⟨BX2.cell 0, BX2.cell 1⟩ fun hS_ => ?_; clear hK_
          (try simp only [Act.put, List.setIfInBounds_toArray, List.set_cons_zero, List.set_cons_succ])
          refine rd1 6 fun K_ hK_ => ?_; go_simp; obtain ⟨V3, hV3⟩ : ∃ X, V2.alloc (.cells #[.string nm, .slice B m d] 49) = X := ⟨_, rfl⟩; have HB3 : Below w.heap.size w V3 := qda; have BX3 : Blk V3 (w.heap.size) 49 #[.string nm, .slice B m d] := by rw [← hV3]; exact BX2.alloc _
          have Z3 : V2.heap.size + 1 ≤ V3.heap.size := by rw [← hV3]; simp
          have TM3 : Blk V3 (V2.heap.size) 49 #[.string nm, .slice B m d] := qdn; have OW3 : V3.ownsRow (w.heap.size + 1) 49 2 v2 (0 + 0) ([] ++ (rcells (rs.take 0))) := qdv; rw [hV3]; clear hV3; refine hK_.out _ _ ⟨BX3.cell 0, BX3.cell 1⟩ fun hS_ => ?_; clear hK_
          (try simp only [Act.put, List.setIfInBounds_toArray, List.set_cons_zero, List.set_cons_succ])
          refine rd0 7 fun K_ hK_ => ?_; refine step_app qab _ _ _ qab (w.heap.size + 1) 49 i0 _ 40 Tryz.underlying28 hi hz hsz hby rfl v2 (0 + 0) ([] ++ (rcells (rs.take 0))) qab OW3 (some ⟨V2.heap.size, 0, none⟩) 1 1 [.string nm, .slice B m d] qab (srcOne _ _ _ _ _ TM3) qag qac qaa BX3.lt ?_; intro v4 V4 OW4 G4; have HB4 := HB3.trans (own_below OW3 G4 (Nat.le_succ _) HB3.size); have BX4 := BX3.kept G4 (own_ne OW3 (Nat.lt_succ_self _)); refine hK_.out _ _ ⟨BX4.cell 0, BX4.cell 1⟩ fun hS_ => ?_; clear hK_
          (try simp only [Act.put, List.setIfInBounds_toArray, List.set_cons_zero, List.set_cons_succ])
          refine rd0 11 fun K_ hK_ => ?_; refine step_app qab _ _ _ qab (w.heap.size + 1) 49 i0 _ 40 Tryz.underlying28 hi hz hsz hby rfl v4 (0 + 0 + 1) ([] ++ (rcells (rs.take 0)) ++ [.string nm, .slice B m d]) qab OW4 none 0 c (rcells (rs.drop 0)) qab (SD.out _ HB4) qag qac qaa BX4.lt ?_; intro v5 V5 OW5 G5; have HB5 := HB4.trans (own_below OW4 G5 (Nat.le_succ _) HB4.size); have BX5 := BX4.kept G5 (own_ne OW4 (Nat.lt_succ_self _)); refine hK_.out _ _ ⟨BX5.cell 0, BX5.cell 1⟩ fun hS_ => ?_; clear hK_; refine tk 12 v5 hS_ ?_; refine wpAnyH_done qae ?_ _; have o9 := put_doneO hL0 HL.out hkn OW5 RIN.out HB5 PD.out
          go_wp2; go_ret; exact ⟨HB5, .inr ⟨_, rfl, o9⟩⟩
        · rw [if_pos qab]
          go_simp; obtain ⟨V6, hV6⟩ : ∃ X, V1.alloc (.cells #[.string nm, .slice B m d] 49) = X := ⟨_, rfl⟩; have HB6 : Below w.heap.size w V6 := qdb; have BX6 : Blk V6 (w.heap.size) 49 #[.string nm, .slice B m d] := by rw [← hV6]; exact BX1.alloc _
          have Z6 : V1.heap.size + 1 ≤ V6.heap.size := by rw [← hV6]; simp
          have TM6 : Blk V6 (V1.heap.size) 49 #[.string nm, .slice B m d] := qdo; have OW6 : V6.ownsRow (w.heap.size + 1) 49 2 (.slice (some ⟨V.heap.size, 0, none⟩) 0 0) 0 [] := qdw; rw [hV6]; clear hV6; refine hK_.out _ _ ⟨BX6.cell 0, BX6.cell 1⟩ fun hS_ => ?_; clear hK_
          (try simp only [Act.put, List.setIfInBounds_toArray, List.set_cons_zero, List.set_cons_succ])
          refine rd0 4 fun K_ hK_ => ?_; refine step_app qab _ _ _ qab (w.heap.size + 1) 49 i0 _ 40 Tryz.underlying28 hi hz hsz hby rfl (.slice (some ⟨V.heap.size, 0, none⟩) 0 0) 0 [] qab OW6 none 0 c (rcells (rs.take 0)) qab (IsRefs.srcTake (RR.out.below RefE.stays HB6 (nl _)) qaa) qag qac qaa BX6.lt ?_; intro v7 V7 OW7 G7; have HB7 := HB6.trans (own_below OW6 G7 (Nat.le_succ _) HB6.size); have BX7 := BX6.kept G7 (own_ne OW6 (Nat.lt_succ_self _)); have TM7 := TM6.kept G7 qav; refine hK_.out _ _ ⟨BX7.cell 0, BX7.cell 1⟩ fun hS_ => ?_; clear hK_
          (try simp only [Act.put, List.setIfInBounds_toArray, List.set_cons_zero, List.set_cons_succ])
          refine rd0 7 fun K_ hK_ => ?_; refine step_app qab _ _ _ qab (w.heap.size + 1) 49 i0 _ 40 Tryz.underlying28 hi hz hsz hby rfl v7 (0 + 0) ([] ++ (rcells (rs.take 0))) qab OW7 (some ⟨V1.heap.size, 0, none⟩) 1 1 [.string nm, .slice B m d] qab (srcOne _ _ _ _ _ TM7) qag qac qaa BX7.lt ?_; intro v8 V8 OW8 G8; have HB8 := HB7.trans (own_below OW7 G8 (Nat.le_succ _) HB7.size); have BX8 := BX7.kept G8 (own_ne OW7 (Nat.lt_succ_self _)); refine hK_.out _ _ ⟨BX8.cell 0, BX8.cell 1⟩ fun hS_ => ?_; clear hK_
          (try simp only [Act.put, List.setIfInBounds_toArray, List.set_cons_zero, List.set_cons_succ])
          refine rd0 11 fun K_ hK_ => ?_; refine step_app qab _ _ _ qab (w.heap.size + 1) 49 i0 _ 40 Tryz.underlying28 hi hz hsz hby rfl v8 (0 + 0 + 1) ([] ++ (rcells (rs.take 0)) ++ [.string nm, .slice B m d]) qab OW8 none 0 c (rcells (rs.drop 0)) qab (SD.out _ HB8) qag qac qaa BX8.lt ?_; intro v9 V9 OW9 G9; have HB9 := HB8.trans (own_below OW8 G9 (Nat.le_succ _) HB8.size); have BX9 := BX8.kept G9 (own_ne OW8 (Nat.lt_succ_self _)); refine hK_.out _ _ ⟨BX9.cell 0, BX9.cell 1⟩ fun hS_ => ?_; clear hK_; refine tk 12 v9 hS_ ?_; refine wpAnyH_done qae ?_ _; have o9 := put_doneO hL0 HL.out hkn OW9 RIN.out HB9 PD.out
          go_wp2; go_ret; exact ⟨HB9, .inr ⟨_, rfl, o9⟩⟩
      · rw [if_pos qab]
        go_simp; obtain ⟨V10, hV10⟩ : ∃ X, V.alloc (.cells #[.string nm, .slice B m d] 49) = X := ⟨_, rfl⟩; have HB10 : Below w.heap.size w V10 := qcv; have BX10 : Blk V10 (w.heap.size) 49 #[.string nm, .slice B m d] := by rw [← hV10]; exact BXV.alloc _
        have Z10 : V.heap.size + 1 ≤ V10.heap.size := by rw [← hV10]; simp
        have TM10 : Blk V10 (V.heap.size) 49 #[.string nm, .slice B m d] := qdp; rw [hV10]; clear hV10; refine hK_.out _ _ ⟨BX10.cell 0, BX10.cell 1⟩ fun hS_ => ?_; clear hK_
        (try simp only [Act.put, List.setIfInBounds_toArray, List.set_cons_zero, List.set_cons_succ])
        refine rd1 0 fun K_ hK_ => ?_; go_simp; obtain ⟨V11, hV11⟩ : ∃ X, V10.alloc (.cells #[] 49) = X := ⟨_, rfl⟩; have HB11 : Below w.heap.size w V11 := qcq; have BX11 : Blk V11 (w.heap.size) 49 #[.string nm, .slice B m d] := by rw [← hV11]; exact BX10.alloc _
        have Z11 : V10.heap.size + 1 ≤ V11.heap.size := by rw [← hV11]; simp
        have OW11 : V11.ownsRow (w.heap.size + 1) 49 2 (.slice (some ⟨V10.heap.size, 0, none⟩) 0 0) 0 [] := by rw [← hV11]; exact own_empty V10 49 _ BX10.lt
        have TM11 : Blk V11 (V.heap.size) 49 #[.string nm, .slice B m d] := qds; rw [hV11]; clear hV11; refine hK_.out _ _ ⟨BX11.cell 0, BX11.cell 1⟩ fun hS_ => ?_; clear hK_
        (try simp only [Act.put, List.setIfInBounds_toArray, List.set_cons_zero, List.set_cons_succ])
        refine rd0 4 fun K_ hK_ => ?_; refine step_app qab _ _ _ qab (w.heap.size + 1) 49 i0 _ 40 Tryz.underlying28 hi hz hsz hby rfl (.slice (some ⟨V10.heap.size, 0, none⟩) 0 0) 0 [] qab OW11 none 0 c (rcells (rs.take 0)) qab (IsRefs.srcTake (RR.out.below RefE.stays HB11 (nl _)) qaa) qag qac qaa BX11.lt ?_; intro v12 V12 OW12 G12; have HB12 := HB11.trans (own_below OW11 G12 (Nat.le_succ _) HB11.size); have BX12 := BX11.kept G12 (own_ne OW11 (Nat.lt_succ_self _)); have TM12 := TM11.kept G12 qav; refine hK_.out _ _ ⟨BX12.cell 0, BX12.cell 1⟩ fun hS_ => ?_
        clear hK_
        (try simp only [Act.put, List.setIfInBounds_toArray, List.set_cons_zero, List.set_cons_succ])
        refine rd0 7 fun K_ hK_ => ?_; refine step_app qab _ _ _ qab (w.heap.size + 1) 49 i0 _ 40 Tryz.underlying28 hi hz hsz hby rfl v12 (0 + 0) ([] ++ (rcells (rs.take 0))) qab OW12 (some ⟨V.heap.size, 0, none⟩) 1 1 [.string nm, .slice B m d] qab (srcOne _ _ _ _ _ TM12) qag qac qaa BX12.lt ?_; intro v13 V13 OW13 G13; have HB13 := HB12.trans (own_below OW12 G13 (Nat.le_succ _) HB12.size); have BX13 := BX12.kept G13 (own_ne OW12 (Nat.lt_succ_self _)); refine hK_.out _ _ ⟨BX13.cell 0, BX13.cell 1⟩ fun hS_ => ?_; clear hK_
        (try simp only [Act.put, List.setIfInBounds_toArray, List.set_cons_zero, List.set_cons_succ])
        refine rd0 11 fun K_ hK_ => ?_; refine step_app qab _ _ _ qab (w.heap.size + 1) 49 i0 _ 40 Tryz.underlying28 hi hz hsz hby rfl v13 (0 + 0 + 1) ([] ++ (rcells (rs.take 0)) ++ [.string nm, .slice B m d]) qab OW13 none 0 c (rcells (rs.drop 0)) qab (SD.out _ HB13) qag qac qaa BX13.lt ?_; intro v14 V14 OW14 G14; have HB14 := HB13.trans (own_below OW13 G14 (Nat.le_succ _) HB13.size); have BX14 := BX13.kept G14 (own_ne OW13 (Nat.lt_succ_self _)); refine hK_.out _ _ ⟨BX14.cell 0, BX14.cell 1⟩ fun hS_ => ?_; clear hK_; refine tk 12 v14 hS_ ?_; refine wpAnyH_done qae ?_ _
        have o9 := put_doneO hL0 HL.out hkn OW14 RIN.out HB14 PD.out; go_wp2
        go_ret; exact ⟨HB14, .inr ⟨_, rfl, o9⟩⟩
    | some p =>
      have hkc : k ≤ c := qaa; have hki : (k : Int) ≤ (c : Int) := qaa; have hkni : (k : Int) ≤ (n : Int) := qaa; obtain ⟨QK, hQK⟩ : ∃ q, (if c = k then some p else some (p.add (k * 2))) = q := ⟨_, rfl⟩; have SD : Hid (∀ W, Below w.heap.size w W → SrcAt W QK (n - k) (rcells (rs.drop k))) := hid (fun W hb => IsRefs.srcDrop (RR.out.below RefE.stays hb (nl _)) hkn hQK.symm); refine wp_region_held_drew (S := fun W => W.cell? ⟨w.heap.size, 0, none⟩ = some (.string nm) ∧ W.cell? ⟨w.heap.size, 1, none⟩ = some (.slice B m d)) qae (by rw [hV]; exact ⟨x1, x2⟩) ?_; rw [hV]; intro hS_; refine tk 1 (.slice (some p) n c) hS_ ?_
      refine tk 2 (.int .i64 (k : Int)) hS_ ?_; refine tk 3 (.slice (some p) k c) hS_ ?_; refine tk 5 (.agg #[.string nm, .slice B m d]) hS_ ?_; refine tk 8 (.slice (some p) n c) hS_ ?_; refine tk 9 (.int .i64 (k : Int)) hS_ ?_; refine tk 10 (.slice QK (n - k) (c - k)) hS_ ?_; refine rd2 0 6 (fun K_ hK_ => ?_) fun K_ hK_ => ?_
      · rw [if_pos qab]
        go_simp; obtain ⟨V1, hV1⟩ : ∃ X, V.alloc (.cells #[] 49) = X := ⟨_, rfl⟩; have HB1 : Below w.heap.size w V1 := qcz; have BX1 : Blk V1 (w.heap.size) 49 #[.string nm, .slice B m d] := by rw [← hV1]; exact BXV.alloc _
        have Z1 : V.heap.size + 1 ≤ V1.heap.size := by rw [← hV1]; simp
        have OW1 : V1.ownsRow (w.heap.size + 1) 49 2 (.slice (some ⟨V.heap.size, 0, none⟩) 0 0) 0 [] := by rw [← hV1]; exact own_empty V 49 _ BXV.lt
        rw [hV1]; clear hV1; refine hK_.out _ _ ⟨BX1.cell 0, BX1.cell 1⟩ fun hS_ => ?_; clear hK_
        (try simp only [Act.put, List.setIfInBounds_toArray, List.set_cons_zero, List.set_cons_succ])
        refine rd2 4 6 (fun K_ hK_ => ?_) fun K_ hK_ => ?_
        · refine step_app qab _ _ _ qab (w.heap.size + 1) 49 i0 _ 40 Tryz.underlying28 hi hz hsz hby rfl (.slice (some ⟨V.heap.size, 0, none⟩) 0 0) 0 [] qab OW1 (some p) k c (rcells (rs.take k)) qab (IsRefs.srcTake (RR.out.below RefE.stays HB1 (nl _)) qaa) qag qac qaa BX1.lt ?_
          intro v2 V2 OW2 G2; have HB2 := HB1.trans (own_below OW1 G2 (Nat.le_succ _) HB1.size); have BX2 := BX1.kept G2 (own_ne OW1 (Nat.lt_succ_self _)); refine hK_.out _ _ ⟨BX2.cell 0, BX2.cell 1⟩ fun hS_ => ?_; clear hK_
          (try simp only [Act.put, List.setIfInBounds_toArray, List.set_cons_zero, List.set_cons_succ])
          refine rd1 6 fun K_ hK_ => ?_; go_simp; obtain ⟨V3, hV3⟩ : ∃ X, V2.alloc (.cells #[.string nm, .slice B m d] 49) = X := ⟨_, rfl⟩; have HB3 : Below w.heap.size w V3 := qda; have BX3 : Blk V3 (w.heap.size) 49 #[.string nm, .slice B m d] := by rw [← hV3]; exact BX2.alloc _
          have Z3 : V2.heap.size + 1 ≤ V3.heap.size := by rw [← hV3]; simp
          have TM3 : Blk V3 (V2.heap.size) 49 #[.string nm, .slice B m d] := qdn; have OW3 : V3.ownsRow (w.heap.size + 1) 49 2 v2 (0 + k) ([] ++ (rcells (rs.take k))) := qdv; rw [hV3]; clear hV3; refine hK_.out _ _ ⟨BX3.cell 0, BX3.cell 1⟩ fun hS_ => ?_; clear hK_
          (try simp only [Act.put, List.setIfInBounds_toArray, List.set_cons_zero, List.set_cons_succ])
          refine rd0 7 fun K_ hK_ => ?_; refine step_app qab _ _ _ qab (w.heap.size + 1) 49 i0 _ 40 Tryz.underlying28 hi hz hsz hby rfl v2 (0 + k) ([] ++ (rcells (rs.take k))) qab OW3 (some ⟨V2.heap.size, 0, none⟩) 1 1 [.string nm, .slice B m d] qab (srcOne _ _ _ _ _ TM3) qag qac qaa BX3.lt ?_; intro v4 V4 OW4 G4; have HB4 := HB3.trans (own_below OW3 G4 (Nat.le_succ _) HB3.size); have BX4 := BX3.kept G4 (own_ne OW3 (Nat.lt_succ_self _)); refine hK_.out _ _ ⟨BX4.cell 0, BX4.cell 1⟩ fun hS_ => ?_; clear hK_
          (try simp only [Act.put, List.setIfInBounds_toArray, List.set_cons_zero, List.set_cons_succ])
          refine rd0 11 fun K_ hK_ => ?_; refine step_app qab _ _ _ qab (w.heap.size + 1) 49 i0 _ 40 Tryz.underlying28 hi hz hsz hby rfl v4 (0 + k + 1) ([] ++ (rcells (rs.take k)) ++ [.string nm, .slice B m d]) qab OW4 QK (n - k) (c - k) (rcells (rs.drop k)) qab (SD.out _ HB4) qag qac qaa BX4.lt ?_; intro v5 V5 OW5 G5; have HB5 := HB4.trans (own_below OW4 G5 (Nat.le_succ _) HB4.size); have BX5 := BX4.kept G5 (own_ne OW4 (Nat.lt_succ_self _)); refine hK_.out _ _ ⟨BX5.cell 0, BX5.cell 1⟩ fun hS_ => ?_; clear hK_; refine tk 12 v5 hS_ ?_; refine wpAnyH_done qae ?_ _
          have o9 := put_doneO hL0 HL.out hkn OW5 RIN.out HB5 PD.out; go_wp2; go_ret; exact ⟨HB5, .inr ⟨_, rfl, o9⟩⟩
        · rw [if_pos qab]
          go_simp; obtain ⟨V6, hV6⟩ : ∃ X, V1.alloc (.cells #[.string nm, .slice B m d] 49) = X := ⟨_, rfl⟩; have HB6 : Below w.heap.size w V6 := qdb; have BX6 : Blk V6 (w.heap.size) 49 #[.string nm, .slice B m d] := by rw [← hV6]; exact BX1.alloc _
          have Z6 : V1.heap.size + 1 ≤ V6.heap.size := by rw [← hV6]; simp
          have TM6 : Blk V6 (V1.heap.size) 49 #[.string nm, .slice B m d] := qdo; have OW6 : V6.ownsRow (w.heap.size + 1) 49 2 (.slice (some ⟨V.heap.size, 0, none⟩) 0 0) 0 [] := qdw; rw [hV6]; clear hV6; refine hK_.out _ _ ⟨BX6.cell 0, BX6.cell 1⟩ fun hS_ => ?_; clear hK_
          (try simp only [Act.put, List.setIfInBounds_toArray, List.set_cons_zero, List.set_cons_succ])
          refine rd0 4 fun K_ hK_ => ?_; refine step_app qab _ _ _ qab (w.heap.size + 1) 49 i0 _ 40 Tryz.underlying28 hi hz hsz hby rfl (.slice (some ⟨V.heap.size, 0, none⟩) 0 0) 0 [] qab OW6 (some p) k c (rcells (rs.take k)) qab (IsRefs.srcTake (RR.out.below RefE.stays HB6 (nl _)) qaa) qag qac qaa BX6.lt ?_; intro v7 V7 OW7 G7; have HB7 := HB6.trans (own_below OW6 G7 (Nat.le_succ _) HB6.size); have BX7 := BX6.kept G7 (own_ne OW6 (Nat.lt_succ_self _)); have TM7 := TM6.kept G7 qav; refine hK_.out _ _ ⟨BX7.cell 0, BX7.cell 1⟩ fun hS_ => ?_; clear hK_
          (try simp only [Act.put, List.setIfInBounds_toArray, List.set_cons_zero, List.set_cons_succ])
          refine rd0 7 fun K_ hK_ => ?_; refine step_app qab _ _ _ qab (w.heap.size + 1) 49 i0 _ 40 Tryz.underlying28 hi hz hsz hby rfl v7 (0 + k) ([] ++ (rcells (rs.take k))) qab OW7 (some ⟨V1.heap.size, 0, none⟩) 1 1 [.string nm, .slice B m d] qab (srcOne _ _ _ _ _ TM7) qag qac qaa BX7.lt ?_; intro v8 V8 OW8 G8; have HB8 := HB7.trans (own_below OW7 G8 (Nat.le_succ _) HB7.size); have BX8 := BX7.kept G8 (own_ne OW7 (Nat.lt_succ_self _)); refine hK_.out _ _ ⟨BX8.cell 0, BX8.cell 1⟩ fun hS_ => ?_; clear hK_
          (try simp only [Act.put, List.setIfInBounds_toArray, List.set_cons_zero, List.set_cons_succ])
          refine rd0 11 fun K_ hK_ => ?_; refine step_app qab _ _ _ qab (w.heap.size + 1) 49 i0 _ 40 Tryz.underlying28 hi hz hsz hby rfl v8 (0 + k + 1) ([] ++ (rcells (rs.take k)) ++ [.string nm, .slice B m d]) qab OW8 QK (n - k) (c - k) (rcells (rs.drop k)) qab (SD.out _ HB8) qag qac qaa BX8.lt ?_; intro v9 V9 OW9 G9; have HB9 := HB8.trans (own_below OW8 G9 (Nat.le_succ _) HB8.size); have BX9 := BX8.kept G9 (own_ne OW8 (Nat.lt_succ_self _)); refine hK_.out _ _ ⟨BX9.cell 0, BX9.cell 1⟩ fun hS_ => ?_; clear hK_; refine tk 12 v9 hS_ ?_; refine wpAnyH_done qae ?_ _
          have o9 := put_doneO hL0 HL.out hkn OW9 RIN.out HB9 PD.out; go_wp2; go_ret; exact ⟨HB9, .inr ⟨_, rfl, o9⟩⟩
      · rw [if_pos qab]
        go_simp; obtain ⟨V10, hV10⟩ : ∃ X, V.alloc (.cells #[.string nm, .slice B m d] 49) = X := ⟨_, rfl⟩; have HB10 : Below w.heap.size w V10 := qcv; have BX10 : Blk V10 (w.heap.size) 49 #[.string nm, .slice B m d] := by rw [← hV10]; exact BXV.alloc _
        have Z10 : V.heap.size + 1 ≤ V10.heap.size := by rw [← hV10]; simp
        have TM10 : Blk V10 (V.heap.size) 49 #[.string nm, .slice B m d] := qdp; rw [hV10]; clear hV10; refine hK_.out _ _ ⟨BX10.cell 0, BX10.cell 1⟩ fun hS_ => ?_; clear hK_
        (try simp only [Act.put, List.setIfInBounds_toArray, List.set_cons_zero, List.set_cons_succ])
        refine rd1 0 fun K_ hK_ => ?_; go_simp; obtain ⟨V11, hV11⟩ : ∃ X, V10.alloc (.cells #[] 49) = X := ⟨_, rfl⟩; have HB11 : Below w.heap.size w V11 := qcq; have BX11 : Blk V11 (w.heap.size) 49 #[.string nm, .slice B m d] := by rw [← hV11]; exact BX10.alloc _
        have Z11 : V10.heap.size + 1 ≤ V11.heap.size := by rw [← hV11]; simp
        have OW11 : V11.ownsRow (w.heap.size + 1) 49 2 (.slice (some ⟨V10.heap.size, 0, none⟩) 0 0) 0 [] := by rw [← hV11]; exact own_empty V10 49 _ BX10.lt
        have TM11 : Blk V11 (V.heap.size) 49 #[.string nm, .slice B m d] := qds; rw [hV11]; clear hV11; refine hK_.out _ _ ⟨BX11.cell 0, BX11.cell 1⟩ fun hS_ => ?_; clear hK_
        (try simp only [Act.put, List.setIfInBounds_toArray, List.set_cons_zero, List.set_cons_succ])
        refine rd0 4 fun K_ hK_ => ?_; refine step_app qab _ _ _ qab (w.heap.size + 1) 49 i0 _ 40 Tryz.underlying28 hi hz hsz hby rfl (.slice (some ⟨V10.heap.size, 0, none⟩) 0 0) 0 [] qab OW11 (some p) k c (rcells (rs.take k)) qab (IsRefs.srcTake (RR.out.below RefE.stays HB11 (nl _)) qaa) qag qac qaa BX11.lt ?_; intro v12 V12 OW12 G12; have HB12 := HB11.trans (own_below OW11 G12 (Nat.le_succ _) HB11.size); have BX12 := BX11.kept G12 (own_ne OW11 (Nat.lt_succ_self _)); have TM12 := TM11.kept G12 qav; refine hK_.out _ _ ⟨BX12.cell 0, BX12.cell 1⟩ fun hS_ => ?_
        clear hK_
        (try simp only [Act.put, List.setIfInBounds_toArray, List.set_cons_zero, List.set_cons_succ])
        refine rd0 7 fun K_ hK_ => ?_; refine step_app qab _ _ _ qab (w.heap.size + 1) 49 i0 _ 40 Tryz.underlying28 hi hz hsz hby rfl v12 (0 + k) ([] ++ (rcells (rs.take k))) qab OW12 (some ⟨V.heap.size, 0, none⟩) 1 1 [.string nm, .slice B m d] qab (srcOne _ _ _ _ _ TM12) qag qac qaa BX12.lt ?_; intro v13 V13 OW13 G13; have HB13 := HB12.trans (own_below OW12 G13 (Nat.le_succ _) HB12.size); have BX13 := BX12.kept G13 (own_ne OW12 (Nat.lt_succ_self _)); refine hK_.out _ _ ⟨BX13.cell 0, BX13.cell 1⟩ fun hS_ => ?_; clear hK_
        (try simp only [Act.put, List.setIfInBounds_toArray, List.set_cons_zero, List.set_cons_succ])
        refine rd0 11 fun K_ hK_ => ?_; refine step_app qab _ _ _ qab (w.heap.size + 1) 49 i0 _ 40 Tryz.underlying28 hi hz hsz hby rfl v13 (0 + k + 1) ([] ++ (rcells (rs.take k)) ++ [.string nm, .slice B m d]) qab OW13 QK (n - k) (c - k) (rcells (rs.drop k)) qab (SD.out _ HB13) qag qac qaa BX13.lt ?_; intro v14 V14 OW14 G14; have HB14 := HB13.trans (own_below OW13 G14 (Nat.le_succ _) HB13.size); have BX14 := BX13.kept G14 (own_ne OW13 (Nat.lt_succ_self _)); refine hK_.out _ _ ⟨BX14.cell 0, BX14.cell 1⟩ fun hS_ => ?_; clear hK_; refine tk 12 v14 hS_ ?_; refine wpAnyH_done qae ?_ _
        have o9 := put_doneO hL0 HL.out hkn OW14 RIN.out HB14 PD.out; go_wp2; go_ret; exact ⟨HB14, .inr ⟨_, rfl, o9⟩⟩
  · have HHB := hid hB; clear hB
    go_wp2; go_ret; exact ⟨HB2, .inl ⟨HHB.out, rfl⟩⟩
theorem l3Put_row (v : Value) (xs : List At) (nm : ByteArray) (A : Option Addr) (m d : Nat) (ts : List Tm) (w : World) (B : Nat) (hB : B ≤ w.heap.size) (h : OwnRow w B xs v) (hs : nm.size ≤ maxLen) (h' : IsTerms w B w.heap.size A m d ts) (hr : risesB xs = true) (hmax : xs.length ≤ 1048576) :
    Calls Tryz.prog 106 #[v, .agg #[.string nm, .slice A m d]] w (fun e w' => ∃ v', e = .returned v' ∧ OwnRow w' B (putL xs (nm, ts)) v' ∧ Below w.heap.size w w') := by
  obtain ⟨D, c, rfl, hI⟩ := h.atoms; refine (l3Put_own D xs.length c xs nm A m d ts w B hB hI hs h' hr qaa).mono ?_; rintro e w' ⟨hb, ⟨h1, rfl⟩ | ⟨v', rfl, ho⟩⟩
  · refine ⟨_, rfl, ?_, hb⟩
    have e : putL xs (nm, ts) = xs := by unfold putL; rw [h1, if_pos rfl]
    rw [e]; exact h.up hb
  · exact ⟨v', rfl, ho, hb⟩
theorem l3Put_any (A : Option Addr) (n c : Nat) (xs : List At) (nm : ByteArray) (B : Option Addr) (m d : Nat) (ts : List Tm) (w : World) (h : IsAtoms w 0 w.heap.size A n c xs) (hs : nm.size ≤ maxLen) (h' : IsTerms w 0 w.heap.size B m d ts) (hr : risesB xs = true) (hmax : n ≤ 137438953472) :
    Calls Tryz.prog 106 #[.slice A n c, .agg #[.string nm, .slice B m d]] w (ReadPost (putL xs (nm, ts)) w) := by
  refine (l3Put_own A n c xs nm B m d ts w 0 (Nat.zero_le _) h hs h' hr hmax).mono ?_; rintro e w' ⟨hb, ⟨h1, rfl⟩ | ⟨v', rfl, n', M, rs, ⟨h5, h6⟩, e1, e2, e3, e4⟩⟩
  · obtain ⟨rs, hrs, hm⟩ := refs_of (h.up AtomE.stays hb)
    have hl : rs.length = n := hrs.1; have e : putL xs (nm, ts) = xs := by unfold putL; rw [h1, if_pos rfl]
    exact ⟨A, c, rs, by rw [hl], by rw [hl]; exact hrs, by rw [e]; exact hm, hb⟩
  · obtain ⟨A', c', e, hI⟩ := refs_own e3 e1.symm h5 e4 h6
    subst e; exact ⟨A', c', rs, by rw [e1], by rw [e1]; exact hI, e2, hb⟩
def onceI (rs : List Rl) (T : List Nat) (level : Nat) (xs : List At) (i : Nat) : List At := ((rs.zip T).take i).foldl (fun out q => if q.2 = level then byRule xs out q.1 else out) []
theorem once_step {rs : List Rl} {T : List Nat} {level i v : Nat} {xs : List At} {r : Rl} (hr : rs[i]? = some r) (ht : T[i]? = some v) : onceI rs T level xs (i + 1) = if v = level then byRule xs (onceI rs T level xs i) r else onceI rs T level xs i := by
  have h : (rs.zip T)[i]? = some (r, v) := by rw [List.getElem?_zip_eq_some]; exact ⟨hr, ht⟩
  unfold onceI; rw [foldl_take _ _ h]
theorem onceI_all {rs : List Rl} {T : List Nat} {level i : Nat} {xs : List At} (h : rs.length ≤ i) : onceI rs T level xs i = onceL rs T level xs := by
  unfold onceI onceL; rw [List.take_of_length_le (by rw [List.length_zip]; omega)]
theorem rows_len {xs : List At} {qs : List Pt} {n : Nat} (hn : xs.length = n) (hq : qs.length ≤ 4) (hP : (n + 1) ^ 4 ≤ 8589934592) : (rowsB xs qs).length ≤ 8589934592 := by
  have h1 := allB_len xs qs; have h2 : (rowsB xs qs).length ≤ (allB xs qs).length := List.length_filter_le _ _; rw [hn] at h1; have h3 : (n + 1) ^ qs.length ≤ (n + 1) ^ 4 := Nat.pow_le_pow_right qaa hq; omega
theorem rows_small {xs : List At} {qs : List Pt} (hf : ∀ f ∈ xs, ∀ u ∈ f.2, u.2.size ≤ maxLen) (hq : ∀ q ∈ qs, q.2.2.length ≤ 64) : ∀ b ∈ rowsB xs qs, ∀ q ∈ b, q.2.size ≤ maxLen := fun b hb =>
  (allB_small hf hq b ((List.mem_filter.1 hb).1)).2
theorem at0_get {T : List Nat} {i : Nat} (h : i < T.length) : T[i]? = some (at0 T i) := by
  unfold at0; rw [List.getElem?_eq_getElem h]; rfl
def RulesFit (rs : List Rl) : Prop := ∀ r ∈ rs, r.1.2.length ≤ 64 ∧ r.2.length ≤ 4 ∧ ∀ q ∈ r.2, q.2.2.length ≤ 64
theorem once_len {rs : List Rl} {T : List Nat} {level M : Nat} {xs : List At} (hM : ∀ r ∈ rs, (rowsB xs r.2).length ≤ M) : ∀ i, i ≤ rs.length → (onceI rs T level xs i).length ≤ i * M
  | 0, _ => by simp [onceI]
  | i + 1, hi => by
    have ih := once_len (T := T) (level := level) hM i qaa; have hri : rs[i]? = some rs[i] := List.getElem?_eq_getElem qaa; rw [Nat.add_mul, Nat.one_mul]; by_cases ht : i < T.length
    · rw [once_step hri (at0_get ht)]
      split
      · have h1 := fold_puts_len (fun b => fillA rs[i].1 b) (rowsB xs rs[i].2) (onceI rs T level xs i)
        have h2 := hM _ (List.mem_of_getElem? hri); unfold byRule; omega
      · omega
    · have e : onceI rs T level xs (i + 1) = onceI rs T level xs i := by
        unfold onceI; rw [List.take_of_length_le (by rw [List.length_zip]; omega), List.take_of_length_le (by rw [List.length_zip]; omega)]
      rw [e]; omega
theorem folds_rise (level : Nat) (xs : List At) : ∀ (zs : List (Rl × Nat)) {out : List At}, risesB out = true → risesB (zs.foldl (fun out q => if q.2 = level then byRule xs out q.1 else out) out) = true
  | [], _, h => h
  | z :: zs, out, h => by
    rw [List.foldl_cons]; refine folds_rise level xs zs ?_; by_cases e : z.2 = level
    · rw [if_pos e]; exact fold_puts_rises _ _ h
    · rw [if_neg e]; exact h
theorem once_rises (rs : List Rl) (T : List Nat) (level : Nat) (xs : List At) (i : Nat) : risesB (onceI rs T level xs i) = true := folds_rise level xs _ rfl
theorem l4Once_any (A : Option Addr) (n c : Nat) (rs : List Rl) (g : Nat) (T : List Nat) (level : Nat) (B : Option Addr) (m d : Nat) (xs : List At) (w : World) (h1 : IsRules w 0 w.heap.size A n c rs) (h2 : IntRow w g n T) (h3 : IsAtoms w 0 w.heap.size B m d xs)
    (hr : risesB xs = true) (hf : RulesFit rs) (hn : n ≤ 8) (hP : (m + 1) ^ 4 ≤ 8589934592) :
    Calls Tryz.prog 150 #[.slice A n c, .slice (some ⟨g, 0, none⟩) n n, .int .i64 (level : Int), .slice B m d] w (ReadPost (onceL rs T level xs) w) := by
  have hm := h3.len; unfold maxLen at hm; have L1 := hid h1.1; have L3 := hid h3.1; have LT := hid h2.1; have HSZ := hid (atoms_sizes h3); have H1 := hid h1; have H2 := hid h2; have H3 := hid h3; have HRR := hid hr; have HF := hid hf; have HP := hid hP; have hgl := h2.lt; clear h1 h2 h3 hr hf hP; have hb1 := below1 w (.cells #[] 49); have ho : IsAtoms (w.alloc (.cells #[] 49)) 0 (w.alloc (.cells #[] 49)).heap.size (some ⟨w.heap.size, 0, none⟩) 0 0 [] := ⟨rfl, nl _, by unfold maxLen; omega, fun h => by omega⟩
  obtain ⟨w1, hq1⟩ : ∃ w1, w.alloc (.cells #[] 49) = w1 := ⟨_, rfl⟩; rw [hq1] at hb1 ho; have HO := hid ho; have HB1 := hid hb1; have HQ1 := hid hq1; clear ho hb1 hq1; go_enter Tryz.func150, Tryz.ntmps150; go_wp2_with (rw [HQ1.out]); go_loopw [9, 10] (fun o x wr => ∃ (i : Nat) (C : Option Addr) (r e : Nat) (os : List At), i ≤ n ∧ x = .int .i64 (i : Int) ∧ o = .slice C r e ∧ IsAtoms wr 0 wr.heap.size C r e os ∧ os = onceI rs T level xs i ∧ Below w.heap.size w wr) (fun _ x _ => n - (intOf x).toNat)
  case atStart => exact ⟨0, _, 0, 0, [], Nat.zero_le _, rfl, rfl, HO.out, rfl, HB1.out⟩
  case round =>
    obtain ⟨i, C, r, e, os, hi, rfl, rfl, hC, hos, hb⟩ := hrel; have hgs := hb.size; have hol := once_len (T := T) (level := level) (M := 8589934592) (fun r hr => rows_len L3.out (HF.out r hr).2.1 HP.out) i (by rw [L1.out]; exact hi); rw [← hos, hC.1] at hol; have HC := hid hC; have HOS := hid hos; have HB := hid hb; clear HO HB1 HQ1; by_cases hlt : i < n
    · have hltI : (i : Int) < (n : Int) := qaa
      obtain ⟨p, q, hA, plo, phi, hgq, hE⟩ := (H1.out.below RuleE.stays hb (nl _)).at_ hlt; obtain ⟨d1, d2, ⟨A5, n5, c5, d3, d4⟩, ⟨A6, n6, c6, d5, d6⟩⟩ := hE; subst hA; have hpb : p.block < w.heap.size := phi; have hfq := HF.out q (List.mem_of_getElem? hgq); have HGQ := hid hgq; have J4 := hid d4; have J6 := hid d6; have D2 := hid d2; have HFQ := hid hfq; have hn5 : n5 ≤ 64 := by rw [← d4.1]; exact hfq.1
      have hn6 : n6 ≤ 4 := by rw [← d6.1]; exact hfq.2.1
      have e5 : wr.cell? ⟨(p.add (i * 3)).block, (p.add (i * 3)).off + 2, none⟩ = some (.slice A6 n6 c6) := d5; have e3 : wr.cell? ⟨(p.add (i * 3)).block, (p.add (i * 3)).off + 1, none⟩ = some (.slice A5 n5 c5) := d3; have e7 : wr.cell? ⟨g, i, none⟩ = some (.int .i64 ((at0 T i : Nat) : Int)) := (H2.out.keep (hb.block g hgl)).cell hlt; have a0 : (⟨g, 0, none⟩ : Addr).add i = ⟨g, i, none⟩ := by unfold Addr.add; split <;> simp_all
      obtain ⟨⟨hn, ts⟩, body⟩ := q; have hnext := hid (once_step (T := T) (level := level) (xs := xs) HGQ.out (at0_get (T := T) (i := i) (by rw [LT.out]; exact hlt))); rw [← hos] at hnext; obtain ⟨lv, hlv⟩ : ∃ lv, at0 T i = lv := ⟨_, rfl⟩; rw [hlv] at e7 hnext; clear hgq d4 d6 d2 d3 d5 hfq plo phi hC hos hlv; by_cases hle : lv = level
      · subst hle
        have hP2 : (m + 1) ^ n6 ≤ 8589934592 := Nat.le_trans (Nat.pow_le_pow_right qaa hn6) HP.out; have HP2 := hid hP2; have K3 := hid ((H3.out.below AtomE.stays hb (nl _)).keep AtomE.stays (w' := wr) (lo' := 0) (hi' := wr.heap.size) (fun _ _ _ => rfl) (nl _) hgs); have K6 := hid (J6.out.keep PartE.stays (w' := wr) (lo' := 0) (hi' := wr.heap.size) (fun _ _ _ => rfl) (nl _) hgs); have hnn := hid (show onceI rs T lv xs (i + 1) = byRule xs os ((hn, ts), body) from by rw [hnext.out, if_pos rfl]); clear hP2 hb; go_wp2_with (rw [a0]); refine (l4All_any B m d xs A6 n6 c6 body wr K3.out K6.out HRR.out HFQ.out.2.2 qaa HP2.out).mono ?_; rintro e1 w4 ⟨D, l, f, rfl, hD, hb4⟩
        have hz4 := hb4.size; have hll : l ≤ 8589934592 := by rw [← hD.1]; exact rows_len L3.out HFQ.out.2.1 HP.out
        obtain ⟨bs, hbs⟩ : ∃ bs, rowsB xs body = bs := ⟨_, rfl⟩; rw [hbs] at hD; have HBS := hid hbs; have HD := hid hD; have HB4 := hid hb4; have HSB := hid (rows_small HSZ.out HFQ.out.2.2); rw [hbs] at HSB; have HC4 := hid (HC.out.below AtomE.stays hb4 (nl _)); clear hD hb4 hbs e5 e7 K3 K6; go_wp2; go_loopw [9, 12] (fun o x wr5 => ∃ (k : Nat) (C : Option Addr) (r e : Nat) (os' : List At), k ≤ l ∧ x = .int .i64 (k : Int) ∧ o = .slice C r e ∧ IsAtoms wr5 0 wr5.heap.size C r e os' ∧ os' = (bs.take k).foldl (fun o b => putL o (fillA (hn, ts) b)) os ∧ Below w4.heap.size w4 wr5) (fun _ x _ => l - (intOf x).toNat)
        case atStart => exact ⟨0, C, r, e, os, Nat.zero_le _, rfl, rfl, HC4.out.keep AtomE.stays (fun _ _ _ => rfl) (nl _) hz4, rfl, Below.refl _ _⟩
        case round =>
          obtain ⟨k, C, r, e, os', hk, rfl, rfl, hC', hos', hb5⟩ := hrel; clear HC4; have hbw : Below w.heap.size w wr := (HB.out.trans (HB4.out.mono hgs)).trans (hb5.mono qaa); have hz5 := hb5.size; by_cases hlk : k < l
          · have hlkI : (k : Int) < (l : Int) := qaa
            obtain ⟨p3, b, hD, blo, bhi, hgb, hE2⟩ := HD.out.at_ hlk; obtain ⟨A7, n7, c7, B7, m7, d7, g1, g2, g3, g4⟩ := hE2.out; subst hD; have hpb3 : p3.block < w4.heap.size := bhi; have HGB := hid hgb; have HOS2 := hid hos'; have HC5 := hid hC'; have hlen5 := fold_puts_len (fun b => fillA (hn, ts) b) (bs.take k) os; rw [← hos', hC'.1, HC.out.1, List.length_take] at hlen5; have hris := hid (show risesB os' = true from hos' ▸ fold_puts_rises _ _ (HOS.out ▸ once_rises rs T lv xs i)); obtain ⟨V, hV⟩ : ∃ V, wr.drew = V := ⟨_, rfl⟩; have hVz : wr.heap.size = V.heap.size := by rw [← hV]; rfl
            have hbV : Below w4.heap.size w4 V := hV ▸ hb5.drew; have hbVw : Below w.heap.size w V := hV ▸ hbw.drew; have x1 : V.cell? (p.add (i * 3)) = some (.string hn) := (hbV.cell qcx).trans ((HB4.out.cell (p := p.add (i * 3)) qcx).trans d1); have x2 : V.cell? ⟨(p.add (i * 3)).block, (p.add (i * 3)).off + 1, none⟩ = some (.slice A5 n5 c5) := (hbV.cell qcb).trans ((HB4.out.cell (p := ⟨(p.add (i * 3)).block, (p.add (i * 3)).off + 1, none⟩) qcb).trans e3); have x3 : V.cell? (p3.add (k * 2)) = some (.slice A7 n7 c7) := (hbV.cell (by rw [block_add]; exact hpb3)).trans g1; have x4 : V.cell? ⟨(p3.add (k * 2)).block, (p3.add (k * 2)).off + 1, none⟩ = some (.slice B7 m7 d7) := (hbV.cell (by show (p3.add (k * 2)).block < _; rw [block_add]; exact hpb3)).trans g2
            have K5 := hid (((J4.out.below (HB4.out.mono hgs) qaa).below hbV qaa).keep (w' := V) (lo' := 0) (hi' := V.heap.size) (fun _ _ _ => rfl) (nl _) qaa); have K3 := hid ((g3.below TextE.stays hbV (nl _)).keep TextE.stays (w' := V) (lo' := 0) (hi' := V.heap.size) (fun _ _ _ => rfl) (nl _) qaa); have K4 := hid ((g4.below TextE.stays hbV (nl _)).keep TextE.stays (w' := V) (lo' := 0) (hi' := V.heap.size) (fun _ _ _ => rfl) (nl _) qaa); have KC := hid (show IsAtoms V 0 V.heap.size C r e os' from hV ▸ (HC5.out.keep AtomE.stays (w' := wr.drew) (lo' := 0) (hi' := wr.drew.heap.size) (fun _ _ _ => rfl) (nl _) (nl _)))
            have HV0 := hid hV; have HBV := hid hbV; clear hE2 hgb g3 g4 blo bhi hC' hos' hb5 hV hbV g1 g2; go_wp2_with fail; refine wp_region_held_drew (S := fun W => W.cell? (p.add (i * 3)) = some (.string hn) ∧ W.cell? ⟨(p.add (i * 3)).block, (p.add (i * 3)).off + 1, none⟩ = some (.slice A5 n5 c5) ∧ W.cell? (p3.add (k * 2)) = some (.slice A7 n7 c7) ∧ W.cell? ⟨(p3.add (k * 2)).block, (p3.add (k * 2)).off + 1, none⟩ = some (.slice B7 m7 d7)) qae (by rw [HV0.out]; exact ⟨x1, x2, x3, x4⟩) ?_; rw [HV0.out]; intro hS_; refine tk 0 (.slice C r e) hS_ ?_; refine tk 1 (.slice (some p) n c) hS_ ?_; refine tk 2 (.int .i64 (i : Int)) hS_ ?_
            refine tk 3 (.pointer (some (p.add (i * 3)))) hS_ ?_; refine tk 4 (.pointer (some (p.add (i * 3)))) hS_ ?_; refine tk 5 (.agg #[.string hn, .slice A5 n5 c5]) hS_ ?_; refine tk 6 (.slice (some p3) l f) hS_ ?_; refine tk 7 (.int .i64 (k : Int)) hS_ ?_; refine tk 8 (.pointer (some (p3.add (k * 2)))) hS_ ?_; refine tk 9 (.agg #[.slice A7 n7 c7, .slice B7 m7 d7]) hS_ ?_; refine rd1 10 fun K_ hK_ => ?_; go_simp; go_at_call 169; refine (l4Fill_any hn A5 n5 c5 ts A7 n7 c7 B7 m7 d7 b _ K5.out K3.out K4.out (HSB.out b (List.mem_of_getElem? HGB.out)) qaa).mono ?_; rintro e1 w6 ⟨A8, n8, c8, rfl, h8, hb6⟩
            have hz6 := hb6.size; have k6 : ∀ q : Addr, q.block < w4.heap.size → w6.cell? q = V.cell? q := fun q hq => hb6.cell qaa; have KC6 := hid ((KC.out.below AtomE.stays hb6 (nl _)).keep AtomE.stays (w' := w6) (lo' := 0) (hi' := w6.heap.size) (fun _ _ _ => rfl) (nl _) hz6); have K8 := hid h8; have HB6 := hid hb6; clear h8 hb6; refine hK_.out _ _ ⟨(k6 (p.add (i * 3)) qcx).trans x1, (k6 ⟨(p.add (i * 3)).block, (p.add (i * 3)).off + 1, none⟩ qcb).trans x2, (k6 (p3.add (k * 2)) qcx).trans x3, (k6 ⟨(p3.add (k * 2)).block, (p3.add (k * 2)).off + 1, none⟩ (by show (p3.add (k * 2)).block < _; rw [block_add]; omega)).trans x4⟩ fun hS_ => ?_
            clear hK_
            (try simp only [Act.put, List.setIfInBounds_toArray, List.set_cons_zero, List.set_cons_succ])
            refine rd1 11 fun K_ hK_ => ?_; go_simp; go_at_call 106; refine (l3Put_any C r e os' hn A8 n8 c8 (ts.map (fillT b)) _ KC6.out (by have := D2.out; exact this) (K8.out.keep (fun _ _ _ => rfl) (Nat.zero_le _) (nl _)) hris.out qaa).mono ?_; rintro e1 w8 ⟨A9, c9, rs9, rfl, h9, hm9, hb8⟩; have hz8 := hb8.size; have k8 : ∀ q : Addr, q.block < w4.heap.size → w8.cell? q = V.cell? q := fun q hq => (hb8.cell qaa).trans (k6 q hq); have H9 := hid h9; have HM9 := hid hm9; have HB8 := hid hb8; clear h9 hm9 hb8; refine hK_.out _ _ ⟨(k8 (p.add (i * 3)) qcx).trans x1, (k8 ⟨(p.add (i * 3)).block, (p.add (i * 3)).off + 1, none⟩ qcb).trans x2, (k8 (p3.add (k * 2)) qcx).trans x3, (k8 ⟨(p3.add (k * 2)).block, (p3.add (k * 2)).off + 1, none⟩ (by show (p3.add (k * 2)).block < _; rw [block_add]; omega)).trans x4⟩ fun hS_ => ?_
            clear hK_; refine tk 12 (.slice A9 rs9.length c9) hS_ ?_; refine wpAnyH_done qae ?_ _; have HBB := hid ((HBV.out.trans (HB6.out.mono qaa)).trans (HB8.out.mono qaa)); have hput := hid (show rs9.map rAt = (bs.take (k + 1)).foldl (fun o b => putL o (fillA (hn, ts) b)) os from by rw [foldl_take _ _ HGB.out, ← HOS2.out]; exact HM9.out); have hat := hid (show IsAtoms w8 0 w8.heap.size A9 rs9.length c9 (rs9.map rAt) from H9.out.atoms); clear hS_ k6 k8 x1 x2 x3 x4 K5 K3 K4 KC KC6; go_wp2; go_roundw
            case rel => exact ⟨k + 1, A9, _, c9, rs9.map rAt, by omega, by go_num, rfl, hat.out, hput.out, HBB.out⟩
            case measure => exact qms
          · have hall := hid (show os' = onceI rs T lv xs (i + 1) from by
              rw [hos', hnn.out, List.take_of_length_le (by rw [HD.out.1]; omega)]; unfold byRule; rw [HBS.out])
            have HC5 := hid hC'; have HBW := hid hbw; clear hC' hos' hb5 hbw; go_wp2; go_roundw
            case rel => exact ⟨i + 1, C, r, e, os', by omega, by go_num, rfl, HC5.out, hall.out, HBW.out⟩
            case measure => exact qms
      · have hleI : ¬ ((lv : Nat) : Int) = (level : Int) := qaa
        have hnn := hid (show os = onceI rs T level xs (i + 1) from by rw [hnext.out, if_neg hle]); clear hb; go_wp2_with (rw [a0]); go_roundw
        case rel => exact ⟨i + 1, C, r, e, os, by omega, by go_num, rfl, HC.out, hnn.out, HB.out⟩
        case measure => exact qms
    · have hall : os = onceL rs T level xs := by rw [hos, onceI_all (by rw [L1.out]; omega)]
      obtain ⟨rf, hrf, hmr⟩ := refs_of hC; have hlr : rf.length = r := hrf.1; subst hlr; have HRF := hid hrf; have HMR := hid (hmr.trans hall); clear hall hrf hmr hos hC; go_wp2; go_ret; exact ⟨C, e, rf, rfl, HRF.out, HMR.out, HB.out⟩
def NumE (w : World) (_lo _hi : Nat) (p : Addr) (n : Nat) : Prop := w.cell? p = some (.int .i64 (n : Int))
theorem NumE.stays : Stays NumE := by
  intro w w' lo hi lo' hi' p s h hp1 hp2 hk hl hh; exact (hk p hp1 hp2).trans h
abbrev IsNums := IsSeq 1 NumE
def ncl (ls : List Nat) : List Value := ls.map fun n : Nat => Value.int .i64 (n : Int)
theorem ncl_one (ls : List Nat) : ∀ u ∈ ncl ls, u.oneCell' = true := by
  intro u hu; obtain ⟨s, _, rfl⟩ := List.mem_map.1 hu; rfl
theorem IsNums.cells {w : World} {lo hi n c : Nat} {p : Addr} {ls : List Nat} (h : IsNums w lo hi (some p) n c ls) : ∀ j u, (ncl ls)[j]? = some u → w.cell? (p.add j) = some u := by
  obtain ⟨h1, h2, h3, h4⟩ := h; intro j u hj; unfold ncl at hj; rw [List.getElem?_map] at hj
  cases hs : ls[j]? with
  | none => rw [hs] at hj; cases hj
  | some s =>
    rw [hs] at hj; injection hj with hj; subst hj; have hjl := (List.getElem?_eq_some_iff.1 hs).1; obtain ⟨p', hp, _, _, he⟩ := h4 qaa; injection hp with hp; subst hp; have := he j s hs
    rwa [Nat.mul_one] at this
theorem IsNums.srcTake {w : World} {lo hi n c k : Nat} {A : Option Addr} {ls : List Nat} (h : IsNums w lo hi A n c ls) (hk : k ≤ n) : SrcZ 1 w A k (ncl (ls.take k)) := by
  refine ⟨by unfold ncl; rw [List.length_map, List.length_take, h.1, Nat.min_eq_left hk, Nat.mul_one], fun ad hA j u hu => ?_, fun hA => ?_⟩
  · subst hA
    refine IsNums.cells h j u ?_; unfold ncl at hu ⊢; rw [List.map_take, List.getElem?_take] at hu; split at hu
    · exact hu
    · cases hu
  · rcases Nat.eq_zero_or_pos n with h0 | h0
    · omega
    · obtain ⟨p, hp, _⟩ := h.2.2.2 h0; rw [hA] at hp; cases hp
theorem IsNums.srcDrop {w : World} {lo hi n c k : Nat} {p : Addr} {ls : List Nat} (h : IsNums w lo hi (some p) n c ls) (hk : k ≤ n) {q : Option Addr} (hq : q = if c = k then some p else some (p.add k)) : SrcZ 1 w q (n - k) (ncl (ls.drop k)) := by
  have hnc := h.2.1; have hl := h.1; subst hq; by_cases hc : c = k
  · have hn : n - k = 0 := qaa
    rw [hn, List.drop_eq_nil_of_le qaa]; exact ⟨rfl, fun ad _ j u hu => by simp [ncl] at hu, fun _ => rfl⟩
  · rw [if_neg hc]
    refine ⟨by unfold ncl; rw [List.length_map, List.length_drop, hl, Nat.mul_one], fun ad hA j u hu => ?_, fun hA => by cases hA⟩; injection hA with hA; subst hA; unfold ncl at hu; rw [List.map_drop, List.getElem?_drop] at hu; rw [add_add]; exact IsNums.cells h _ u hu
theorem nums_own {W : World} {base n : Nat} {v : Value} {ls : List Nat} (h : W.ownsRow base 3 1 v n (ncl ls)) (h0 : 0 < n) {lo : Nat} (hlo : lo ≤ base) : ∃ p c, v = .slice (some p) ls.length c ∧ IsNums W lo W.heap.size (some p) ls.length c ls := by
  have hn : n = ls.length := by have := h.1; unfold ncl at this; rw [List.length_map] at this; omega
  subst hn; rcases h.2 with ⟨_, hz⟩ | ⟨g, cap, cur, rfl, hbg, hgb, hle, hcap, hsz, htk⟩
  · omega
  · have hlt := (Array.getElem?_eq_some_iff.1 hgb).1
    refine ⟨_, cap, rfl, rfl, hle, hcap, fun _ => ⟨_, rfl, by show lo ≤ g; omega, hlt, fun i s hi => ?_⟩⟩; have hc := h.cells (g := g) rfl i (.int .i64 (s : Int)) (by unfold ncl; rw [List.getElem?_map, hi]; rfl)
    rwa [Nat.mul_one]
def Holds (w w' : World) : Prop := ∀ (q : Addr) (v : Value), w.cell? q = some v → w'.cell? q = some v
theorem Holds.below {w w' : World} (hb : Below w.heap.size w w') : Holds w w' := fun q _ h => (hb.cell (World.block_lt_of_cell? w q h)).trans h
theorem IsTerms.holds {w w' : World} {lo hi hi' n c : Nat} {A : Option Addr} {ts : List Tm} (h : IsTerms w lo hi A n c ts) (hk : Holds w w') (hh : hi ≤ hi') : IsTerms w' lo hi' A n c ts := by
  obtain ⟨a, b, d, e⟩ := h; refine ⟨a, b, d, fun hn => ?_⟩; obtain ⟨p, hp, h1, h2, h3⟩ := e hn; exact ⟨p, hp, h1, by omega, fun i t ht => ⟨hk _ _ (h3 i t ht).1, hk _ _ (h3 i t ht).2.1, (h3 i t ht).2.2⟩⟩
theorem IsAtoms.holds {w w' : World} {lo hi hi' n c : Nat} {A : Option Addr} {xs : List At} (h : IsAtoms w lo hi A n c xs) (hk : Holds w w') (hh : hi ≤ hi') : IsAtoms w' lo hi' A n c xs := by
  obtain ⟨a, b, d, e⟩ := h; refine ⟨a, b, d, fun hn => ?_⟩; obtain ⟨p, hp, h1, h2, h3⟩ := e hn; refine ⟨p, hp, h1, by omega, fun i x hx => ?_⟩; obtain ⟨e1, e2, B, m, f, e3, e4⟩ := h3 i x hx; exact ⟨hk _ _ e1, e2, B, m, f, hk _ _ e3, e4.holds hk hh⟩
theorem IsNums.holds {w w' : World} {lo hi hi' n c : Nat} {A : Option Addr} {xs : List Nat} (h : IsNums w lo hi A n c xs) (hk : Holds w w') (hh : hi ≤ hi') : IsNums w' lo hi' A n c xs := by
  obtain ⟨a, b, d, e⟩ := h; refine ⟨a, b, d, fun hn => ?_⟩; obtain ⟨p, hp, h1, h2, h3⟩ := e hn; exact ⟨p, hp, h1, by omega, fun i x hx => hk _ _ (h3 i x hx)⟩
theorem box_not {V : World} {rb : Nat} {T : TypeId} {A B : Option Addr} {n c m d : Nat} (hb : Blk V rb T #[.slice A n c, .slice B m d]) {q : Addr} {u : Value} (h : V.cell? q = some u) (hu : ∀ A n c, u ≠ .slice A n c) : q.block ≠ rb := by
  intro e; obtain ⟨qb, qo, qs⟩ := q; simp only at e; subst e
  cases qs with
  | some s =>
    have hno : V.cell? ⟨qb, qo, some s⟩ = none := by unfold World.cell?; split <;> simp
    rw [hno] at h; cases h
  | none =>
    rw [hb.cell] at h
    match qo, h with
    | 0, h => simp at h; exact hu _ _ _ h.symm
    | 1, h => simp at h; exact hu _ _ _ h.symm
    | k + 2, h => simp at h
section
variable {V W : World} {rb lo hi hi' n c : Nat} {A : Option Addr}
def But (rb : Nat) (V W : World) : Prop := ∀ (q : Addr) (u : Value), q.block ≠ rb → V.cell? q = some u → W.cell? q = some u
theorem But.refl (rb : Nat) (w : World) : But rb w w := fun _ _ _ h => h
theorem But.trans {a b c : World} (h : But rb a b) (h' : But rb b c) : But rb a c := fun q v hq e => h' q v hq (h q v hq e)
theorem But.below (hb : Below V.heap.size V W) : But rb V W := fun q v _ h => Holds.below hb q v h
theorem IsTerms.box {T : TypeId} {A1 B1 : Option Addr} {n1 c1 m1 d1 : Nat} {ts : List Tm} (h : IsTerms V lo hi A n c ts) (hb : Blk V rb T #[.slice A1 n1 c1, .slice B1 m1 d1]) (hk : But rb V W) (hh : hi ≤ hi') : IsTerms W lo hi' A n c ts := by
  obtain ⟨a, b, d, e⟩ := h; refine ⟨a, b, d, fun hn => ?_⟩; obtain ⟨p, hp, h1, h2, h3⟩ := e hn; refine ⟨p, hp, h1, by omega, fun i t ht => ?_⟩; obtain ⟨e1, e2, e3⟩ := h3 i t ht; exact ⟨hk _ _ (box_not hb e1 qbt) e1, hk _ _ (box_not hb e2 qbt) e2, e3⟩
theorem IsAtoms.box {T : TypeId} {A1 B1 : Option Addr} {n1 c1 m1 d1 : Nat} {xs : List At} (h : IsAtoms V lo hi A n c xs) (hb : Blk V rb T #[.slice A1 n1 c1, .slice B1 m1 d1]) (hk : But rb V W) (hh : hi ≤ hi') : IsAtoms W lo hi' A n c xs := by
  obtain ⟨a, b, d, e⟩ := h; refine ⟨a, b, d, fun hn => ?_⟩; obtain ⟨p, hp, h1, h2, h3⟩ := e hn; refine ⟨p, hp, h1, by omega, fun i x hx => ?_⟩; obtain ⟨e1, e2, B, m, f, e3, e4⟩ := h3 i x hx; have hne := box_not hb e1 qbt; exact ⟨hk _ _ hne e1, e2, B, m, f, hk _ _ hne e3, e4.box hb hk hh⟩
theorem IsNums.box {T : TypeId} {A1 B1 : Option Addr} {n1 c1 m1 d1 : Nat} {xs : List Nat} (h : IsNums V lo hi A n c xs) (hb : Blk V rb T #[.slice A1 n1 c1, .slice B1 m1 d1]) (hk : But rb V W) (hh : hi ≤ hi') : IsNums W lo hi' A n c xs := by
  obtain ⟨a, b, d, e⟩ := h; refine ⟨a, b, d, fun hn => ?_⟩; obtain ⟨p, hp, h1, h2, h3⟩ := e hn; exact ⟨p, hp, h1, by omega, fun i x hx => hk _ _ (box_not hb (h3 i x hx) qbt) (h3 i x hx)⟩
theorem But.store (w : World) (rb : Nat) (u v : Value) : But rb w ((w.setCell ⟨rb, 0, none⟩ u).setCell ⟨rb, 1, none⟩ v) := fun q _ hq h =>
  (cb_ ((hs_ _ _ _ q.block hq).trans (hs_ _ _ _ q.block hq))).trans h
end
end Go.Proofs.YtcigljngiemdeaaGreat
