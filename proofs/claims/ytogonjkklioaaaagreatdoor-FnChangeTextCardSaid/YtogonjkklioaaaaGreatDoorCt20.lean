/-
  Texts of one claim, put together.
-/
import Derived.Test.YtogonjkklioaaaaGreatDoorCt13
import Derived.Test.YtogonjkklioaaaaGreatDoorCt11
import Derived.Test.YtogonjkklioaaaaGreatDoorCt19
import Derived.Test.YtogonjkklioaaaaGreatDoorCt5
import Derived.Test.YtogonjkklioaaaaGreatDoorCt4
import Derived.Test.YtogonjkklioaaaaGreatDoorCt2
import Derived.Test.YtogonjkklioaaaaGreatDoorCt6
import Derived.Test.YtogonjkklioaaaaGreatDoorCt9
namespace Go.Proofs.YtogonjkklioaaaaGreatDoor
open Go.RowKit

theorem short_texts {xs : List At} (h : ShortAts xs) : ∀ a ∈ xs, (textL a).length ≤ 128 := by
  intro a ha
  obtain ⟨h1, h2, h3⟩ := h a ha
  have tail16 : ∀ l : List (List UInt8), (∀ x ∈ l, x.length ≤ 16) → (Lib.joinTail [44] l).length ≤ 17 * l.length := by
    intro l
    induction l with
    | nil => intro _; simp [Lib.joinTail]
    | cons x r ih =>
      intro h
      have h1 := h x (by simp)
      have h2 := ih (fun y hy => h y (by simp [hy]))
      rw [joinTail_cons]
      simp only [List.length_append, List.length_cons, List.length_nil]; omega
  have hx : ∀ x ∈ tmNames a.2, x.length ≤ 16 := fun x hx => by
    unfold tmNames at hx
    obtain ⟨t, ht, rfl⟩ := List.mem_map.1 hx
    have := h3 t ht
    simpa using this
  have hj : (Lib.join (tmNames a.2) [44]).length ≤ 17 * (tmNames a.2).length := by
    cases hxs : tmNames a.2 with
    | nil => simp [Lib.join_nil]
    | cons x r =>
      rw [hxs] at hx
      have h1 := hx x (by simp)
      have h2 := tail16 r (fun y hy => hx y (by simp [hy]))
      rw [Lib.join_cons]
      simp only [List.length_append, List.length_cons]; omega
  have hl : (tmNames a.2).length = a.2.length := by unfold tmNames; rw [List.length_map]
  have hnl : a.1.data.toList.length = a.1.size := by simp
  unfold textL
  simp only [List.length_append, List.length_cons, List.length_nil]
  omega

/-- A change was drawn. -/
def OneChange (w : World) (e : Ending) (w' : World) : Prop :=
  ∃ (A1 : Option Addr) (k1 c1 : Nat) (cs : List At) (A2 : Option Addr) (k2 c2 : Nat) (gs : List At), (e = .returned (.agg #[.slice A1 k1 c1, .slice A2 k2 c2]) ∧ k1 ≤ 41 ∧ k2 ≤ 41) ∧
    IsAtoms w' 0 w'.heap.size A1 k1 c1 cs ∧ IsAtoms w' 0 w'.heap.size A2 k2 c2 gs ∧ Below w.heap.size w w'

set_option maxRecDepth 100000 in
set_option maxHeartbeats 4000000 in
theorem drawChangePut_any (A : Option Addr) (n c : Nat) (w : World) (h : IsBytes w w.heap.size A n c) :
    Calls Tryz.prog 7 #[.slice A n c] w (OneChange w) := by
  have hX0 := Bx.new w (.slice none 0 0) (.slice none 0 0) 25
  go_enter Tryz.func7, Tryz.ntmps7
  go_wp2_with fail
  refine (open_any A n c _ (h.up (below1 w _))).mono ?_; rintro e w1 ⟨b, n', ⟨rfl, hb⟩, hr, hb1⟩
  rw [size_alloc_eq] at hb
  have X1 := Lib.hid (hX0.later hb1)
  have HB1 := Lib.hid (belowThen (below1 w _) hb1); have R1 := Lib.hid hr
  have hbw : b < w1.heap.size := hr.1
  have hx1 := X1.out.1
  clear hb1 hr hX0
  go_wp2_with fail
  refine (any_change_draw b A n' c 0 w1 R1.out (by omega)).mono ?_; rintro e w3 ⟨A1, k1, c1, cs, A2, k2, c2, gs, p3, ⟨rfl, hk1, hk2, hp3⟩, hC, hG, hr3, hg3⟩
  have HC3 := Lib.hid hC; have HG3 := Lib.hid hG; have HB3 := Lib.hid (below_row HB1.out hg3 (by omega)); have X3 := Lib.hid (X1.out.row hg3 (by omega))
  clear hC hG hr3 hg3
  obtain ⟨x1, x2, x3, x4, x5⟩ := X3.out
  go_wp2
  refine bodyPost_ret (v := .agg #[.slice A1 k1 c1, .slice A2 k2 c2]) (by simp [results, Tryz.results7, go_sem, x2, x3]) rfl ?_
  exact ⟨A1, k1, c1, cs, A2, k2, c2, gs, ⟨rfl, hk1, hk2⟩, atoms_two HC3.out (by omega) (Nat.zero_le _), atoms_two HG3.out (by omega) (Nat.zero_le _), below_two HB3.out (Nat.le_refl _)⟩

set_option maxRecDepth 100000 in
set_option maxHeartbeats 4000000 in
theorem drawChangeGet_any (A : Option Addr) (n c : Nat) (w : World) (h : IsBytes w w.heap.size A n c) :
    Calls Tryz.prog 13 #[.slice A n c] w (DrawnText 1400 w) := by
  go_enter Tryz.func13, Tryz.ntmps13
  go_wp2_with fail
  refine (open_any A n c w h).mono ?_; rintro e w1 ⟨b, n', ⟨rfl, hb⟩, hr, hb1⟩
  have HB1 := Lib.hid hb1; have R1 := Lib.hid hr
  have hbw : b < w1.heap.size := hr.1
  clear hb1 hr
  go_wp2_with fail
  refine (change_drawS b A n' c 0 w1 R1.out (by omega)).mono ?_; rintro e w2 ⟨M, A1, k1, c1, cs, A2, k2, c2, gs, p2, ⟨rfl, hk1, hk2, hp2⟩, ⟨hM1, hM2⟩, hI, hO, hr2, hg2, hs1, hs2⟩
  obtain ⟨L2, d2, e2, hJ⟩ := hO.atoms
  injection e2 with e3 e4 e5
  subst e3; subst e4; subst e5
  have HI := Lib.hid (atoms_wide hI (Nat.zero_le _) hM2); have HJ := Lib.hid (atoms_wide hJ (Nat.zero_le _) (Nat.le_refl _))
  have LI := Lib.hid hI.1
  have R2 := Lib.hid hr2; have G2 := Lib.hid hg2; have T1 := Lib.hid (short_texts hs1); have T2 := Lib.hid (short_texts hs2)
  clear hI hO hJ hr2 hg2 hs1 hs2
  go_wp2_with fail
  refine (l8Put_any A1 k1 c1 A2 gs.length c2 cs gs w2 HI.out HJ.out (by omega) (by omega) T1.out T2.out).mono ?_; rintro e w3 ⟨rfl, hb3⟩
  have R3 := Lib.hid (R2.out.below hb3); have G3 := Lib.hid (grownTrans G2.out (grownBelow hb3 (some b)))
  have hsz : (⟨(chL cs gs).toArray⟩ : ByteArray).size ≤ 1384 := by
    show (chL cs gs).toArray.size ≤ _
    have e1 := signL_len 45 gs T2.out
    have e2 := signL_len 43 cs T1.out
    have e3 := LI.out
    unfold chL
    simp only [List.size_toArray, List.length_append]
    omega
  clear hb3 R2 G2
  go_wp2_with fail
  refine (cut_draw _ b A n' c _ w3 R3.out (by omega) (by omega)).mono ?_; rintro e w4 ⟨t, p4, ⟨rfl, ht, _⟩, hr4, hg4⟩
  have G4 := Lib.hid (grownTrans G3.out hg4)
  clear hr4 hg4
  go_wp2
  go_ret
  exact ⟨t, ⟨rfl, by omega⟩, HB1.out.grown G4.out HB1.out.size (fun k hk => by injection hk with hk; omega)⟩

end Go.Proofs.YtogonjkklioaaaaGreatDoor

namespace Go.Proofs.YtogonjkklioaaaaGreatDoor
open Go.RowKit Go.Shelf
attribute [local go_sem] Oper.semAt_some run_store_func



end Go.Proofs.YtogonjkklioaaaaGreatDoor

namespace Go.Proofs.YtogonjkklioaaaaGreatDoor
open Go.RowKit


end Go.Proofs.YtogonjkklioaaaaGreatDoor

namespace Go.Proofs.YtogonjkklioaaaaGreatDoor
open Go.RowKit

/-- What FactsHas answers. -/
def hasFB (xs : List At) (a : At) : Bool := factsB 300 xs && (factB a && hasB xs a)




end Go.Proofs.YtogonjkklioaaaaGreatDoor

namespace Go.Proofs.YtogonjkklioaaaaGreatDoor
open Go.RowKit

theorem gone_done {w V : World} {k n : Nat} {v : Value} {rs : List Rf} (hl : rs.length = n) (hk : k < n)
    (h : V.ownsRow (w.heap.size + 1) 51 2 v (0 + k + (n - (k + 1))) ([] ++ rcells (rs.take k) ++ rcells (rs.drop (k + 1)))) (hr : RefsIn w 0 w.heap.size (rs.take k ++ rs.drop (k + 1))) (hb : Below w.heap.size w V) {L : List At} (hL : (rs.take k ++ rs.drop (k + 1)).map rAt = L) :
    ∃ A c rs', v = .slice A rs'.length c ∧ IsRefs V 0 V.heap.size A rs'.length c rs' ∧ rs'.map rAt = L := by
  have hlen : (rs.take k ++ rs.drop (k + 1)).length = 0 + k + (n - (k + 1)) := by
    rw [List.length_append, List.length_take, List.length_drop, hl, Nat.min_eq_left (by omega)]; omega
  rw [← hlen] at h
  obtain ⟨A, c, e, i⟩ := refs_own (base := w.heap.size + 1) (rs := rs.take k ++ rs.drop (k + 1)) (by rw [rcells_app]; exact h) rfl (Nat.zero_le _) (hr.keep (fun _ _ hq => hb.cell hq) (Nat.le_refl _) (Nat.le_refl _)) hb.size
  exact ⟨A, c, _, e, i, hL⟩

/-- One that is there stands at its place. -/
theorem there_at {xs : List At} {a : At} {k n : Nat} (hr : risesB xs = true) (hl : xs.length = n) (hlo : ∀ j y, j < k → xs[j]? = some y → atomCmp y a < 0) (hat : ∀ y, xs[k]? = some y → 0 ≤ atomCmp y a) (hB : hasB xs a = true) : k < n ∧ ∃ x, xs[k]? = some x ∧ atomCmp x a = 0 := by
  by_cases hk : k < n
  · have hx : xs[k]? = some xs[k] := List.getElem?_eq_getElem (by omega)
    have := hasB_at hr hlo hx (hat _ hx)
    rw [hB] at this
    exact ⟨hk, _, hx, by simpa using this⟩
  · rw [hasB_end hl hlo hk] at hB; cases hB

set_option maxRecDepth 100000 in
set_option maxHeartbeats 8000000 in
theorem l3Without_any (A : Option Addr) (n c : Nat) (xs : List At) (nm : ByteArray) (B : Option Addr) (m d : Nat) (ts : List Tm) (w : World) (h : IsAtoms w 0 w.heap.size A n c xs) (h' : IsTerms w 0 w.heap.size B m d ts) (hr : risesB xs = true) (hB : hasB xs (nm, ts) = true) (hmax : n ≤ 1048576) :
    Calls Tryz.prog 142 #[.slice A n c, .agg #[.string nm, .slice B m d]] w (ReadPost (xs.filter fun y => !hasB [(nm, ts)] y) w) := by
  have HX := Lib.hid h.1
  obtain ⟨rs, hrs, hm⟩ := refs_of h
  have HL := Lib.hid hrs.1
  have RR := Lib.hid hrs
  have HM := Lib.hid hm; clear hm
  have H := Lib.hid h; have H' := Lib.hid h'; clear h h'
  have HRR := Lib.hid hr; clear hr
  have hnc := hrs.2.1
  have hcm := hrs.2.2.1
  have hqn : 0 < n → ∃ p, A = some p := fun h0 => by obtain ⟨p, hp, _⟩ := hrs.2.2.2 h0; exact ⟨p, hp⟩
  unfold maxLen at hcm
  clear hrs
  obtain ⟨i0, hi, hz, hsz, hby⟩ := info_parts Tryz.infoAt
  have hw1 := below1 w (.cells #[.string nm, .slice B m d] 51)
  have B1 := Blk.new w 51 #[.string nm, .slice B m d]
  go_enter Tryz.func142, Tryz.ntmps142
  go_wp2_with fail
  refine (l3At_any A n c xs nm B m d ts _ (H.out.up AtomE.stays hw1) (H'.out.up hw1) HRR.out).mono ?_; rintro e w2 ⟨k, ⟨rfl, -, hlo, hat⟩, hb2⟩
  have HB2 := belowThen hw1 hb2
  have B2 := B1.below hb2
  obtain ⟨hkn, x, hx, he⟩ := there_at HRR.out HX.out hlo hat hB
  have PD := Lib.hid (show (rs.take k ++ rs.drop (k + 1)).map rAt = xs.filter (fun y => !hasB [(nm, ts)] y) from by
    rw [gone_at HRR.out hlo hx he, List.map_append, List.map_take, List.map_drop, HM.out])
  have RIN := Lib.hid (show RefsIn w 0 w.heap.size (rs.take k ++ rs.drop (k + 1)) from fun r hr => by
    rcases List.mem_append.1 hr with h1 | h1
    · exact (RefsIn.of RR.out) r (List.mem_of_mem_take h1)
    · exact (RefsIn.of RR.out) r (List.mem_of_mem_drop h1))
  obtain ⟨p, hp⟩ := hqn (by omega)
  subst hp
  rw [hB]
  clear hlo hat hx he hqn
  go_wp2
  have x1 : w2.drew.cell? ⟨w.heap.size, 0, none⟩ = some (.string nm) := B2.cell 0
  have x2 : w2.drew.cell? ⟨w.heap.size, 1, none⟩ = some (.slice B m d) := B2.cell 1
  have HBV : Below w.heap.size w w2.drew := HB2.drew
  have BXV : Blk w2.drew w.heap.size 51 #[.string nm, .slice B m d] := B2
  have hsV : w.heap.size + 1 ≤ w2.drew.heap.size := B2.lt
  obtain ⟨V, hV⟩ : ∃ V, w2.drew = V := ⟨_, rfl⟩
  rw [hV] at x1 x2 HBV BXV hsV
  have hkc : k ≤ c := by omega
  have hki : (k : Int) ≤ (c : Int) := by omega
  have hk1 : (k : Int) + 1 ≤ (n : Int) := by omega
  have hk1n : k + 1 ≤ n := by omega
  have hk2 : IntKind.i64.wrap ((k : Int) + 1) = (k : Int) + 1 := by rw [IntKind.wrap_i64]; omega
  have hk3 : (0 : Int) ≤ (k : Int) + 1 := by omega
  have hk3' : ¬ (k : Int) + 1 < 0 := by omega
  have hk4 : ((k : Int) + 1).toNat = k + 1 := by omega
  obtain ⟨QK, hQK⟩ : ∃ q, (if c = k + 1 then some p else some (p.add ((k + 1) * 2))) = q := ⟨_, rfl⟩
  have SD : Hid (∀ W, Below w.heap.size w W → SrcAt W QK (n - (k + 1)) (rcells (rs.drop (k + 1)))) := Lib.hid (fun W hb => IsRefs.srcDrop (RR.out.below RefE.stays hb (Nat.le_refl _)) (by omega) hQK.symm)
  refine wp_region_held_drew (S := fun W => W.cell? ⟨w.heap.size, 0, none⟩ = some (.string nm) ∧ W.cell? ⟨w.heap.size, 1, none⟩ = some (.slice B m d)) (by kernel_rfl) (by rw [hV]; exact ⟨x1, x2⟩) ?_
  rw [hV]
  intro hS_
  refine takeV (i := 1) (v := .slice (some p) n c) (by (simp only [List.getElem?_toArray, List.getElem?_cons_succ, List.getElem?_cons_zero]); rfl) (by kernel_rfl) (by kernel_rfl) (by kernel_rfl) (by rfl) (fun _ _ _ h => h) (Or.inl ⟨by rfl, ?_⟩) hS_ (by (simp only [List.setIfInBounds_toArray, List.set_cons_succ, List.set_cons_zero]); rfl) ?_
  · intro w_ hSw_; (try dsimp only at hSw_); go_simp
  refine takeV (i := 2) (v := .int .i64 (k : Int)) (by (simp only [List.getElem?_toArray, List.getElem?_cons_succ, List.getElem?_cons_zero]); rfl) (by kernel_rfl) (by kernel_rfl) (by kernel_rfl) (by rfl) (fun _ _ _ h => h) (Or.inl ⟨by rfl, ?_⟩) hS_ (by (simp only [List.setIfInBounds_toArray, List.set_cons_succ, List.set_cons_zero]); rfl) ?_
  · intro w_ hSw_; (try dsimp only at hSw_); go_simp
  refine takeV (i := 3) (v := .slice (some p) k c) (by (simp only [List.getElem?_toArray, List.getElem?_cons_succ, List.getElem?_cons_zero]); rfl) (by kernel_rfl) (by kernel_rfl) (by kernel_rfl) (by rfl) (fun _ _ _ h => h) (Or.inl ⟨by rfl, ?_⟩) hS_ (by (simp only [List.setIfInBounds_toArray, List.set_cons_succ, List.set_cons_zero]); rfl) ?_
  · intro w_ hSw_; (try dsimp only at hSw_); go_simp
  refine takeV (i := 5) (v := .slice (some p) n c) (by (simp only [List.getElem?_toArray, List.getElem?_cons_succ, List.getElem?_cons_zero]); rfl) (by kernel_rfl) (by kernel_rfl) (by kernel_rfl) (by rfl) (fun _ _ _ h => h) (Or.inl ⟨by rfl, ?_⟩) hS_ (by (simp only [List.setIfInBounds_toArray, List.set_cons_succ, List.set_cons_zero]); rfl) ?_
  · intro w_ hSw_; (try dsimp only at hSw_); go_simp
  refine takeV (i := 6) (v := .int .i64 (k : Int)) (by (simp only [List.getElem?_toArray, List.getElem?_cons_succ, List.getElem?_cons_zero]); rfl) (by kernel_rfl) (by kernel_rfl) (by kernel_rfl) (by rfl) (fun _ _ _ h => h) (Or.inl ⟨by rfl, ?_⟩) hS_ (by (simp only [List.setIfInBounds_toArray, List.set_cons_succ, List.set_cons_zero]); rfl) ?_
  · intro w_ hSw_; (try dsimp only at hSw_); go_simp
  refine takeV (i := 7) (v := .int .i64 ((k : Int) + 1)) (by (simp only [List.getElem?_toArray, List.getElem?_cons_succ, List.getElem?_cons_zero]); rfl) (by kernel_rfl) (by kernel_rfl) (by kernel_rfl) (by rfl) (fun _ _ _ h => h) (Or.inl ⟨by rfl, ?_⟩) hS_ (by (simp only [List.setIfInBounds_toArray, List.set_cons_succ, List.set_cons_zero]); rfl) ?_
  · intro w_ hSw_; (try dsimp only at hSw_); go_simp
  refine takeV (i := 8) (v := .slice QK (n - (k + 1)) (c - (k + 1))) (by (simp only [List.getElem?_toArray, List.getElem?_cons_succ, List.getElem?_cons_zero]); rfl) (by kernel_rfl) (by kernel_rfl) (by kernel_rfl) (by rfl) (fun _ _ _ h => h) (Or.inl ⟨by rfl, ?_⟩) hS_ (by (simp only [List.setIfInBounds_toArray, List.set_cons_succ, List.set_cons_zero]); rfl) ?_
  · intro w_ hSw_; (try dsimp only at hSw_); go_simp
  refine wpAnyH_ready (rs := [0]) (by kernel_rfl) (by simp) ?_
  refine AllReadyH.cons (o := _) (by (simp only [List.getElem?_toArray, List.getElem?_cons_zero]); rfl) (fun K_ hK_ => ?_) AllReadyH.nil
  rw [if_pos (by rfl)]
  go_simp
  obtain ⟨V1, hV1⟩ : ∃ X, V.alloc (.cells #[] 51) = X := ⟨_, rfl⟩
  have HB1 : Below w.heap.size w V1 := by rw [← hV1]; exact HBV.alloc HBV.size _
  have BX1 : Blk V1 (w.heap.size) 51 #[.string nm, .slice B m d] := by rw [← hV1]; exact BXV.alloc _
  have Z1 : V.heap.size + 1 ≤ V1.heap.size := by rw [← hV1]; simp
  have OW1 : V1.ownsRow (w.heap.size + 1) 51 2 (.slice (some ⟨V.heap.size, 0, none⟩) 0 0) 0 [] := by rw [← hV1]; exact own_empty V 51 _ BXV.lt
  rw [hV1]; clear hV1
  refine hK_.out _ _ ⟨BX1.cell 0, BX1.cell 1⟩ (fun hS2_ => ?_)
  clear hK_ hS_; have hS_ := hS2_; clear hS2_
  (try simp only [Act.put, List.setIfInBounds_toArray, List.set_cons_zero, List.set_cons_succ])
  refine wpAnyH_ready (rs := [4]) (by kernel_rfl) (by simp) ?_
  refine AllReadyH.cons (o := _) (by (simp only [List.getElem?_toArray, List.getElem?_cons_succ, List.getElem?_cons_zero]); rfl) (fun K_ hK_ => ?_) AllReadyH.nil
  refine step_app (by rfl) _ _ _ (by rfl) (w.heap.size + 1) 51 i0 _ 40 Tryz.underlying23 hi hz hsz hby rfl (.slice (some ⟨V.heap.size, 0, none⟩) 0 0) 0 [] (by rfl) OW1 (some p) k c (rcells (rs.take k)) (by rfl) (IsRefs.srcTake (RR.out.below RefE.stays HB1 (Nat.le_refl _)) (by omega)) (by first | exact rcells_one _ | simp [Value.oneCell']) (by unfold maxLen; omega) (by omega) BX1.lt ?_
  intro v2 V2 OW2 G2
  have HB2 := HB1.trans (own_below OW1 G2 (Nat.le_succ _) HB1.size)
  have BX2 := BX1.kept G2 (own_ne OW1 (Nat.lt_succ_self _))
  refine hK_.out _ _ ⟨BX2.cell 0, BX2.cell 1⟩ (fun hS2_ => ?_)
  clear hK_ hS_; have hS_ := hS2_; clear hS2_
  (try simp only [Act.put, List.setIfInBounds_toArray, List.set_cons_zero, List.set_cons_succ])
  refine wpAnyH_ready (rs := [9]) (by kernel_rfl) (by simp) ?_
  refine AllReadyH.cons (o := _) (by (simp only [List.getElem?_toArray, List.getElem?_cons_succ, List.getElem?_cons_zero]); rfl) (fun K_ hK_ => ?_) AllReadyH.nil
  refine step_app (by rfl) _ _ _ (by rfl) (w.heap.size + 1) 51 i0 _ 40 Tryz.underlying23 hi hz hsz hby rfl v2 (0 + k) ([] ++ (rcells (rs.take k))) (by rfl) OW2 QK (n - (k + 1)) (c - (k + 1)) (rcells (rs.drop (k + 1))) (by rfl) (SD.out _ HB2) (by first | exact rcells_one _ | simp [Value.oneCell']) (by unfold maxLen; omega) (by omega) BX2.lt ?_
  intro v3 V3 OW3 G3
  have HB3 := HB2.trans (own_below OW2 G3 (Nat.le_succ _) HB2.size)
  have BX3 := BX2.kept G3 (own_ne OW2 (Nat.lt_succ_self _))
  refine hK_.out _ _ ⟨BX3.cell 0, BX3.cell 1⟩ (fun hS2_ => ?_)
  clear hK_ hS_; have hS_ := hS2_; clear hS2_
  (try simp only [Act.put, List.setIfInBounds_toArray, List.set_cons_zero, List.set_cons_succ])
  refine takeV (i := 10) (v := v3) (by (simp only [List.getElem?_toArray, List.getElem?_cons_succ, List.getElem?_cons_zero]); rfl) (by kernel_rfl) (by kernel_rfl) (by kernel_rfl) (by rfl) (fun _ _ _ h => h) (Or.inl ⟨by rfl, ?_⟩) hS_ (by (simp only [List.setIfInBounds_toArray, List.set_cons_succ, List.set_cons_zero]); rfl) ?_
  · intro w_ hSw_; (try dsimp only at hSw_); go_simp
  refine wpAnyH_done (by kernel_rfl) ?_ _
  obtain ⟨A9, c9, r9, e9, i9, m9⟩ := gone_done HL.out hkn OW3 RIN.out HB3 PD.out
  have M9 := Lib.hid m9; clear m9
  subst e9
  go_wp2
  go_ret; exact ⟨_, _, r9, rfl, i9, M9.out, HB3⟩

set_option maxRecDepth 100000 in
set_option maxHeartbeats 4000000 in
theorem l3Less_any (A : Option Addr) (n c : Nat) (xs : List At) (B : Option Addr) (n' c' : Nat) (ys : List At) (w : World) (h : IsAtoms w 0 w.heap.size A n c xs) (hn : SmallAtoms n xs) (h' : IsAtoms w 0 w.heap.size B n' c' ys) (hr : risesB ys = true) :
    Calls Tryz.prog 68 #[.slice A n c, .slice B n' c'] w (ReadPost (lessL xs ys) w) := by
  obtain ⟨hn1, hn2⟩ := hn
  obtain ⟨i0, hi, hz, hsz, hby⟩ := info_parts Tryz.infoAt
  have HN := Lib.hid hn2; clear hn2
  have HL0 := Lib.hid h.1
  have H := Lib.hid h; have H' := Lib.hid h'; clear h h'
  have HRR := Lib.hid hr; clear hr
  go_enter Tryz.func68, Tryz.ntmps68
  go_wp2
  go_loopw [5, 6] (fun o i wr => ∃ (k j : Nat) (Av : Option Addr) (cv : Nat) (rs : List Rf), k ≤ n ∧ i = .int .i64 k ∧ o = .slice Av j cv ∧ j ≤ k ∧ wr.ownsRow w.heap.size 51 2 (.slice Av j cv) j (rcells rs) ∧ rs.length = j ∧ rs.map rAt = lessL (xs.take k) ys ∧ OwnIn wr w.heap.size wr.heap.size rs ∧ Below w.heap.size w wr) (fun _ i _ => n - (intOf i).toNat)
  case atStart => exact ⟨0, 0, some ⟨w.heap.size, 0, none⟩, 0, [], Nat.zero_le _, rfl, rfl, Nat.le_refl _, ⟨rfl, .inr ⟨w.heap.size, 0, #[], rfl, Nat.le_refl _, heap_alloc_new w _, Nat.le_refl _, by unfold maxLen; omega, rfl, rfl⟩⟩, rfl, rfl, OwnIn.nil, below1 _ _⟩
  case round =>
    obtain ⟨k, j, Av, cv, rs, hk, rfl, rfl, hjk, hrow, hl, hm, ho, hb⟩ := hrel
    have HR := Lib.hid hrow; have HL := Lib.hid hl; have HM := Lib.hid hm; have HO := Lib.hid ho
    clear hrow hl hm ho
    by_cases hlt : k < n
    · obtain ⟨p, q, hA, hlo, hhi, hg, hE⟩ := (H.out.below AtomE.stays hb (Nat.le_refl _)).at_ hlt
      obtain ⟨A', m', d', d1, d3, d4, d5⟩ := hE.out
      clear hE
      subst hA
      have hq : m' ≤ 1048576 := by rw [← d5.1]; exact HN.out q (List.mem_of_getElem? hg)
      have HG := Lib.hid hg; clear hg
      have hwr := hb.size
      have hpz : p.block < wr.heap.size := Nat.lt_of_lt_of_le hhi hwr
      have HT := Lib.hid (d5.keep (w' := wr) (lo' := 0) (hi' := wr.heap.size) (fun _ _ _ => rfl) (Nat.le_refl _) hb.size); clear d5
      go_wp2_with fail
      refine (l3Has_any B n' c' ys q.1 A' m' d' q.2 _ (H'.out.up AtomE.stays hb) HT.out HRR.out).mono ?_; rintro e w0 ⟨rfl, hb0⟩
      have y1 := (hb0.cell (p := p.add (k * 2)) (by rw [block_add]; exact hpz)).trans d1
      have y2 := (hb0.cell (p := ⟨(p.add (k * 2)).block, (p.add (k * 2)).off + 1, none⟩) (by rw [block_add]; exact hpz)).trans d4
      have HB0 := belowThen hb hb0
      have hw0s := hb0.size
      have HO0 := Lib.hid (HO.out.keep (w' := w0) (fun b _ h2 => hb0.block b h2) (Nat.le_refl _) hb0.size)
      have HR0 := Lib.hid (ownsRow_up HR.out hb0)
      clear d1 d4
      cases hh : hasB ys (q.1, q.2)
      · have HH := Lib.hid (show hasB ys q = false from hh); clear hh
        go_wp2_with fail
        refine (l3AtomCopy_any q.1 A' m' d' q.2 _ (HT.out.up hb0) hq).mono ?_; rintro e w1 ⟨A2, d2, rfl, hT, hR, hb1⟩
        have HT1 := Lib.hid hT
        have HR1 := Lib.hid hR
        have HRW := Lib.hid (ownsRow_up HR0.out hb1)
        have hw1s : w.heap.size ≤ w1.heap.size := Nat.le_trans HB0.size hb1.size
        clear hT hR y1 y2
        go_wp2_with (at_builtin; refine wpList_append_own _ rfl _ _ 23 rfl w.heap.size 51 i0 _ 2 40 Tryz.underlying23 hi hz hsz hby rfl (by decide) _ _ _ rfl (HRW.out.alloc _) ⟨w1.heap.size, 0, none⟩ 1 1 [.string q.1, .slice A2 m' d2] rfl rfl (two_new _ _ _ _) (by simp [Value.oneCell']) (by unfold maxLen; omega) (by omega) (by simp; omega) ?_; intro v' w2 hown' hgrow' _; obtain ⟨g', cap', rfl⟩ := ownsRow_succ hown'; have hown := Lib.hid hown'; have hgrow := Lib.hid hgrow'; clear hown' hgrow')
        obtain ⟨rs', r1, r2, r3, r4, r5⟩ := copy_more HL.out HM.out HO0.out HB0 hb1 d3 HT1.out HR1.out HRW.out hown.out hgrow.out
        go_roundw
        case rel => exact ⟨k + 1, j + 1, _, _, rs', by omega, by go_num, rfl, by omega, r3, r1, by rw [r2, less_yes HG.out HH.out], r4, r5⟩
        case measure => simp [intOf]; omega
      · have HH := Lib.hid (show hasB ys q = true from hh); clear hh
        go_wp2
        go_roundw
        case rel => exact ⟨k + 1, j, _, _, rs, by omega, by go_num, rfl, by omega, HR0.out, HL.out, by rw [less_no HG.out HH.out]; exact HM.out, HO0.out, HB0⟩
        case measure => simp [intOf]; omega
    · have hxs : lessL (xs.take k) ys = lessL xs ys := by rw [List.take_of_length_le (by have := HL0.out; omega)]
      obtain ⟨A3, c3, e3, hO⟩ := OwnRefs.of_row HR.out HL.out.symm (Nat.le_refl _) HO.out (Nat.le_refl _)
      injection e3 with e3 _ e4
      subst e3; subst e4
      have HX := Lib.hid hxs; clear hxs
      go_wp2
      go_ret
      exact ⟨Av, cv, rs, by rw [HL.out]; rfl, by rw [HL.out]; exact hO.refs.keep RefE.stays (fun _ _ _ => rfl) (Nat.zero_le _) (Nat.le_refl _), by rw [HM.out]; exact HX.out, hb⟩

end Go.Proofs.YtogonjkklioaaaaGreatDoor

namespace Go.Proofs.YtogonjkklioaaaaGreatDoor
open Go.RowKit

/-- What FactsAdd answers. -/
def addL (xs : List At) (a : At) : List At × Bool := if factsB 300 xs then (if factB a && (!hasB xs a && decide (xs.length < 300)) then (putL xs a, true) else (xs, false)) else ([], false)
/-- What FactsGone answers. -/
def goneL (xs : List At) (a : At) : List At × Bool := if factsB 300 xs then (if factB a && hasB xs a then (xs.filter (fun y => !hasB [a] y), true) else (xs, false)) else ([], false)

theorem addL_no {xs : List At} {a : At} (h : (!factsB 300 xs) = true) : addL xs a = ([], false) := by unfold addL; rw [show factsB 300 xs = false by simpa using h]; rfl
theorem addL_as {xs : List At} {a : At} (h : (!factsB 300 xs) = false) (h' : (factB a && (!hasB xs a && decide (xs.length < 300))) = false) : addL xs a = (xs, false) := by unfold addL; rw [show factsB 300 xs = true by simpa using h, h']; rfl
theorem addL_yes {xs : List At} {a : At} (h : (!factsB 300 xs) = false) (h' : (factB a && (!hasB xs a && decide (xs.length < 300))) = true) : addL xs a = (putL xs a, true) := by unfold addL; rw [show factsB 300 xs = true by simpa using h, h']; rfl
theorem goneL_no {xs : List At} {a : At} (h : (!factsB 300 xs) = true) : goneL xs a = ([], false) := by unfold goneL; rw [show factsB 300 xs = false by simpa using h]; rfl
theorem goneL_as {xs : List At} {a : At} (h : (!factsB 300 xs) = false) (h' : (factB a && hasB xs a) = false) : goneL xs a = (xs, false) := by unfold goneL; rw [show factsB 300 xs = true by simpa using h, h']; rfl
theorem goneL_yes {xs : List At} {a : At} (h : (!factsB 300 xs) = false) (h' : (factB a && hasB xs a) = true) : goneL xs a = (xs.filter (fun y => !hasB [a] y), true) := by unfold goneL; rw [show factsB 300 xs = true by simpa using h, h']; rfl

theorem fact_small {a : At} (h : factB a = true) : a.2.length ≤ 1048576 := by
  unfold factB at h
  rw [Bool.and_eq_true] at h
  have h2 := h.2
  unfold atomB at h2
  simp only [Bool.and_eq_true, decide_eq_true_eq] at h2
  omega

theorem facts_all {m : Nat} {xs : List At} (h : factsB m xs = true) : FactsAll xs := by
  unfold factsB at h
  simp only [Bool.and_eq_true] at h
  exact fun a ha => List.all_eq_true.1 h.1.1 a ha

theorem facts_small {n : Nat} {xs : List At} (h : FactsAll xs) (hn : n ≤ 1048576) : SmallAtoms n xs := ⟨hn, fun q hq => fact_small (h q hq)⟩

theorem addL_small {xs P : List At} {a : At} {q : Bool} (h : addL xs a = (P, q)) : SmallAtoms P.length P := by
  unfold addL at h
  split at h
  · rename_i hf
    have hF := facts_all hf
    have hl := factsB_len hf
    split at h
    · rename_i hc
      rw [Bool.and_eq_true] at hc
      injection h with h1 _
      have h2 := put_len xs a
      rw [h1] at h2
      exact facts_small (h1 ▸ put_facts hF hc.1) (by omega)
    · injection h with h1 _
      rw [← h1]
      exact facts_small hF (by omega)
  · injection h with h1 _
    rw [← h1]
    exact ⟨by simp, fun q hq => by simp at hq⟩

theorem goneL_small {xs P : List At} {a : At} {q : Bool} (h : goneL xs a = (P, q)) : SmallAtoms P.length P := by
  unfold goneL at h
  split at h
  · rename_i hf
    have hF := facts_all hf
    have hl := factsB_len hf
    split at h
    · injection h with h1 _
      have h2 := List.length_filter_le (fun y => !hasB [a] y) xs
      rw [h1] at h2
      refine facts_small (fun b hb => hF b ?_) (by omega)
      rw [← h1] at hb
      exact (List.mem_filter.1 hb).1
    · injection h with h1 _
      rw [← h1]
      exact facts_small hF (by omega)
  · injection h with h1 _
    rw [← h1]
    exact ⟨by simp, fun q hq => by simp at hq⟩

/-- A list and whether it was done, handed back. -/
def ReadBPost (p : List At × Bool) (w : World) (e : Ending) (w' : World) : Prop := ∃ A c rs, e = .returned (.tuple #[.slice A rs.length c, .bool p.2]) ∧ IsRefs w' 0 w'.heap.size A rs.length c rs ∧ rs.map rAt = p.1 ∧ Below w.heap.size w w'

theorem OwnRefs.read {w : World} {lo n c : Nat} {A : Option Addr} {rs : List Rf} (h : OwnRefs w lo w.heap.size A n c rs) : IsRefs w 0 w.heap.size A n c rs := h.refs.keep RefE.stays (fun _ _ _ => rfl) (Nat.zero_le _) (Nat.le_refl _)

theorem read_copy {w w1 w2 : World} {A : Option Addr} {c : Nat} {rs : List Rf} {xs : List At} {p : List At × Bool} (hp : p = (xs, false)) (ho : OwnRefs w2 w1.heap.size w2.heap.size A xs.length c rs) (hm : rs.map rAt = xs) (hB : Below w.heap.size w w1) (hb : Below w1.heap.size w1 w2) :
    ReadBPost p w (.returned (.tuple #[.slice A xs.length c, .bool false])) w2 := by
  subst hp
  have hl := ho.1
  rw [← hl] at ho
  exact ⟨A, c, rs, by rw [hl], ho.read, hm, belowThen hB hb⟩

theorem read_copy1 {w w1 w2 : World} {A : Option Addr} {c : Nat} {rs : List Rf} {xs : List At} {p : List At × Bool} (hp : p = (xs, true)) (ho : OwnRefs w2 w1.heap.size w2.heap.size A xs.length c rs) (hm : rs.map rAt = xs) (hB : Below w.heap.size w w1) (hb : Below w1.heap.size w1 w2) :
    ReadBPost p w (.returned (.tuple #[.slice A xs.length c, .bool true])) w2 := by
  subst hp
  have hl := ho.1
  rw [← hl] at ho
  exact ⟨A, c, rs, by rw [hl], ho.read, hm, belowThen hB hb⟩



end Go.Proofs.YtogonjkklioaaaaGreatDoor
