/-
  Texts of one claim, put together.
-/
import Derived.Test.YtogonjkklioaaaaGreatDoorLg27
import Derived.Test.YtogonjkklioaaaaGreatDoorLg0
import Derived.Lib.SmallJoins
import Derived.Below
import Derived.Test.YtogonjkklioaaaaGreatDoorLg19
import Derived.Test.YtogonjkklioaaaaGreatDoorCards
import Derived.Test.YtogonjkklioaaaaGreatDoorLg22
import Derived.JoinedOf
import Derived.KernelRfl
import Derived.SevenTiedAt
import Derived.Lay
import Derived.LaidSub
import Derived.MakeChecks
import Derived.HandedShaped
import Derived.Shelf.Vars
import Derived.Lib.LaidTab
import Derived.LaidMore
namespace Go.Proofs.YtogonjkklioaaaaGreatDoor
open Go.RowKit

/-- A list of changes in memory of its own. -/
structure OwnChs (W : World) (lo : Nat) (A : Option Addr) (c : Nat) (xs : List Cf) : Prop where
  K : W.ownsRow lo 25 2 (.slice A xs.length c) xs.length (ccells xs)
  O : OwnCs W lo W.heap.size (Value.slice A xs.length c).ownBlock xs
  h : lo ≤ W.heap.size

theorem OwnChs.chs {W : World} {lo c : Nat} {A : Option Addr} {xs : List Cf} (h : OwnChs W lo A c xs) : IsChs W 0 W.heap.size A xs.length c (xs.map cfAt) := chs_of_row h.K h.O

theorem OwnChs.below {W W' : World} {lo c : Nat} {A : Option Addr} {xs : List Cf} (h : OwnChs W lo A c xs) (hb : Below W.heap.size W W') : OwnChs W' lo A c xs :=
  ⟨ownsRow_up h.K hb, h.O.keep (fun b _ a2 _ => hb.block b a2) (Nat.le_refl _) hb.size, Nat.le_trans h.h hb.size⟩

/-- What turns within one change's memory leaves the row. -/
theorem row_within {W W' : World} {lo c x1 x2 : Nat} {A : Option Addr} {n : Nat} {cs : List Value} (h : W.ownsRow lo 25 2 (.slice A n c) n cs) (hw : Within x1 x2 W W') (ho : ∀ g, (Value.slice A n c).ownBlock = some g → g < x1 ∨ x2 ≤ g) : W'.ownsRow lo 25 2 (.slice A n c) n cs := by
  refine ⟨h.1, h.2.imp id ?_⟩
  rintro ⟨g, cap, cur, e, hb, hgb, rest⟩
  have hlt := (Array.getElem?_eq_some_iff.1 hgb).1
  exact ⟨g, cap, cur, e, hb, (hw.block g hlt (ho g (by rw [e]; rfl))).trans hgb, rest⟩

/-- A list of changes was marked. -/
def MarkCPost (lo : Nat) (A : Option Addr) (c k : Nat) (xs : List Cf) (w : World) (e : Ending) (w' : World) : Prop :=
  e = .returned (.int .i64 ((markCN k xs : Nat) : Int)) ∧ OwnChs w' lo A c (markCs k xs) ∧ Within lo w.heap.size w w'

theorem drop_split {xs : List Cf} {i : Nat} {x : Cf} (h : xs[i]? = some x) : xs = xs.take i ++ x :: xs.drop (i + 1) := by
  obtain ⟨h1, h2⟩ := List.getElem?_eq_some_iff.1 h
  rw [← h2, ← List.drop_eq_getElem_cons h1, List.take_append_drop]

theorem Within.thenWide {a : Nat} {w w' w'' : World} (h : Within a w.heap.size w w') {c d : Nat} (k : Within c d w' w'') (h1 : a ≤ c) (h2 : d ≤ w.heap.size) : Within a w.heap.size w w'' :=
  h.trans (k.wide h1 h2)

set_option maxRecDepth 100000 in
set_option maxHeartbeats 4000000 in
theorem markChangeS_any (lo : Nat) (A : Option Addr) (c k : Nat) (xs : List Cf) (w : World) (h : OwnChs w lo A c xs) (hk : markCN k xs ≤ 2 ^ 62) :
    Calls Tryz.prog 18 #[.slice A xs.length c, .int .i64 (k : Int)] w (MarkCPost lo A c k xs w) := by
  have H := Lib.hid h; clear h
  have hml : xs.length ≤ maxLen := by
    rcases H.out.K.2 with ⟨e, h0⟩ | ⟨g, cap, cur, e, hb, hgb, hle, hcap, _⟩
    · rw [h0]; unfold maxLen; omega
    · omega
  unfold maxLen at hml
  obtain ⟨n, hn⟩ : ∃ n, xs.length = n := ⟨_, rfl⟩
  have HNN := Lib.hid hn
  rw [hn] at hml ⊢
  clear hn
  go_enter Tryz.func18, Tryz.ntmps18
  go_wp2
  go_loopw [1, 5] (fun z i wr => ∃ j : Nat, j ≤ n ∧ i = .int .i64 (j : Int) ∧ z = .int .i64 ((markCN k (xs.take j) : Nat) : Int) ∧ (wr.ownsRow lo 25 2 (.slice A n c) n (ccells xs) ∧ OwnCs wr lo w.heap.size (Value.slice A n c).ownBlock (markCs k (xs.take j) ++ xs.drop j)) ∧ Within lo w.heap.size w wr) (fun _ i _ => n - (intOf i).toNat)
  case atStart => exact ⟨0, Nat.zero_le _, rfl, rfl, ⟨by have := H.out.K; rw [HNN.out] at this; exact this, by have := H.out.O; rw [HNN.out] at this; simpa [markCs] using this⟩, Within.refl⟩
  case round =>
    obtain ⟨j, hj, rfl, rfl, ⟨hK, hO⟩, hw⟩ := hrel
    have HK := Lib.hid hK; have HO := Lib.hid hO; have HW := Lib.hid hw
    have hwz := hw.size
    clear hK hO hw
    by_cases hlt : j < n
    · have hltI : (j : Int) < (n : Int) := by omega
      obtain ⟨g, x, hA, hg, hx, c0, c1, hnc, hcm⟩ := row_at (xs := xs) (A := A) (c := c) (by have := HK.out; rw [← HNN.out] at this; exact this) (by rw [HNN.out]; exact hlt)
      subst hA
      unfold maxLen at hcm
      have hsp := drop_split hx
      have hdr : xs.drop j = x :: xs.drop (j + 1) := by
        obtain ⟨h1, h2⟩ := List.getElem?_eq_some_iff.1 hx
        rw [← h2]; exact List.drop_eq_getElem_cons h1
      have htk : xs.take (j + 1) = xs.take j ++ [x] := by rw [List.take_add_one, hx]; rfl
      have hO2 : OwnCs wr lo w.heap.size (Value.slice (some ⟨g, 0, none⟩) n c).ownBlock (markCs k (xs.take j) ++ x :: xs.drop (j + 1)) := by rw [← hdr]; exact HO.out
      obtain ⟨o1, o2, o3, o4⟩ := hO2.own x (by simp)
      have hx1 := o1.h1; have hx2 := o1.h2
      have HO2 := Lib.hid hO2
      have hsum : markCN (markN (markN (markCN k (xs.take j)) x.ra) x.rb) (xs.drop (j + 1)) ≤ 2 ^ 62 := by
        have e := hk
        rw [hsp, markCN_app] at e
        exact e
      have hs2 := Nat.le_trans (markCN_ge _ _) hsum
      have hs1 := Nat.le_trans (markN_ge _ _) hs2
      have HT := Lib.hid (show markCN k (xs.take (j + 1)) = markN (markN (markCN k (xs.take j)) x.ra) x.rb by rw [htk, markCN_snoc])
      have HC := Lib.hid (show markCs k (xs.take (j + 1)) = markCs k (xs.take j) ++ [markCf (markCN k (xs.take j)) x] by rw [htk, markCs_snoc])
      obtain ⟨K0, hK0⟩ : ∃ z, markCN k (xs.take j) = z := ⟨_, rfl⟩
      rw [hK0] at hs1 hs2 HT HC ⊢
      have OA := Lib.hid o1.a; have OB := Lib.hid o1.b
      have HOW := Lib.hid o4
      clear hsum hdr htk hsp hO2 o1 hK0 HO o4
      have d0 : wr.cell? ⟨g, j * 2, none⟩ = some (.slice x.A x.ra.length x.c) := c0
      have d1 : wr.cell? ⟨g, j * 2 + 1, none⟩ = some (.slice x.B x.rb.length x.d) := c1
      clear c0 c1
      go_wp2_with fail
      refine (markAtomS_any x.mid x.hi x.A x.ra.length x.c K0 x.ra _ OA.out (by omega) hs1).mono ?_; rintro e w2 ⟨rfl, hm2, hw2⟩
      have HK2 := Lib.hid (row_within HK.out (hw2.wide hx1 (Nat.le_refl _)) (fun g' e => HOW.out g' e))
      obtain ⟨g', x', hA', _, hx', _, c1', _, _⟩ := row_at (xs := xs) (A := some ⟨g, 0, none⟩) (c := c) (W := w2) (lo := lo) (by have := HK2.out; rw [← HNN.out] at this; exact this) (k := j) (by rw [HNN.out]; exact hlt)
      obtain rfl : g = g' := by injection hA' with h; injection h with h
      obtain rfl : x = x' := Option.some.inj (hx.symm.trans hx')
      have d1' : w2.cell? ⟨g, j * 2 + 1, none⟩ = some (.slice x.B x.rb.length x.d) := c1'
      have OB2 := Lib.hid (OB.out.keep (w' := w2) (fun b b1 b2 => hw2.block b (by omega) (.inl b2)) (Nat.le_refl _) (Nat.le_refl _))
      have OA2 := Lib.hid hm2
      have hz2 := hw2.size
      clear d0 d1 c1' hm2 OA OB hA' hx'
      go_wp2_with fail
      refine (markAtomS_any x.lo x.mid x.B x.rb.length x.d (markN K0 x.ra) x.rb _ OB2.out (by omega) hs2).mono ?_; rintro e w3 ⟨rfl, hm3, hw3⟩
      have HK3 := Lib.hid (row_within HK2.out (hw3.wide (Nat.le_refl _) hx2) (fun g' e => HOW.out g' e))
      have hwx : Within x.lo x.hi wr w3 := (hw2.wide hx1 (Nat.le_refl _)).trans (hw3.wide (Nat.le_refl _) hx2)
      have hcf : OwnCf w3 (markCf K0 x) := ⟨by
        show OwnRefs w3 x.mid x.hi x.A (markRs K0 x.ra).length x.c (markRs K0 x.ra)
        rw [markRs_len]
        exact OA2.out.keep (fun b b1 b2 => hw3.block b (by omega) (.inr b1)) (Nat.le_refl _) (Nat.le_refl _), by
        show OwnRefs w3 x.lo x.mid x.B (markRs (markN K0 x.ra) x.rb).length x.d (markRs (markN K0 x.ra) x.rb)
        rw [markRs_len]; exact hm3, hx1, hx2⟩
      have HO3 := Lib.hid (HO2.out.turn hwx hcf rfl rfl hwz)
      have HW3 := Lib.hid (HW.out.thenWide hwx o2 o3)
      clear d1' hm3 hw3 hw2 hcf hwx
      go_wp2
      go_roundw
      case rel => exact ⟨j + 1, by omega, by go_num, by rw [HT.out], ⟨HK3.out, by rw [HC.out, List.append_assoc]; exact HO3.out⟩, HW3.out⟩
      case measure => simp [intOf]; omega
    · have hjn : j = n := by omega
      have e1 : xs.take j = xs := List.take_of_length_le (by rw [HNN.out]; omega)
      have e2 : xs.drop j = [] := List.drop_of_length_le (by rw [HNN.out]; omega)
      have HO2 := Lib.hid (show OwnCs wr lo w.heap.size (Value.slice A n c).ownBlock (markCs k xs) by have := HO.out; rw [e1, e2, List.append_nil] at this; exact this)
      have hln : (markCs k xs).length = n := by rw [markCs_len, HNN.out]
      have HLN := Lib.hid hln
      rw [e1]
      clear e1 e2 hln HO
      have hltI : ¬ (j : Int) < (n : Int) := by omega
      go_wp2
      go_ret
      exact ⟨rfl, ⟨by rw [HLN.out, ccells_mark]; exact HK.out, by rw [HLN.out]; exact HO2.out.keep (fun _ _ _ _ => rfl) (Nat.le_refl _) hwz, by have := H.out.h; omega⟩, HW.out⟩

set_option maxRecDepth 100000 in
set_option maxHeartbeats 4000000 in
theorem heldChangeS_any (lo : Nat) (A : Option Addr) (c k : Nat) (xs : List Cf) (w : World) (h : OwnChs w lo A c (markCs k xs)) (hk : markCN k xs ≤ 2 ^ 62) :
    Calls Tryz.prog 19 #[.slice A xs.length c, .int .i64 (k : Int)] w fun e w' => e = .returned (.int .i64 ((markCN k xs : Nat) : Int)) ∧ Below w.heap.size w w' := by
  have H := Lib.hid h; clear h
  have hml : xs.length ≤ maxLen := by
    rcases H.out.K.2 with ⟨e, h0⟩ | ⟨g, cap, cur, e, hb, hgb, hle, hcap, _⟩
    · rw [markCs_len] at h0; rw [h0]; unfold maxLen; omega
    · rw [markCs_len] at hle; omega
  unfold maxLen at hml
  obtain ⟨n, hn⟩ : ∃ n, xs.length = n := ⟨_, rfl⟩
  have HNN := Lib.hid hn
  rw [hn] at hml ⊢
  clear hn
  go_enter Tryz.func19, Tryz.ntmps19
  go_wp2
  go_loopw [1, 5] (fun z i wr => ∃ j : Nat, j ≤ n ∧ i = .int .i64 (j : Int) ∧ z = .int .i64 ((markCN k (xs.take j) : Nat) : Int) ∧ Below w.heap.size w wr) (fun _ i _ => n - (intOf i).toNat)
  case atStart => exact ⟨0, Nat.zero_le _, rfl, rfl, Below.refl _ _⟩
  case round =>
    obtain ⟨j, hj, rfl, rfl, hb⟩ := hrel
    have HB := Lib.hid hb
    clear hb
    by_cases hlt : j < n
    · have hltI : (j : Int) < (n : Int) := by omega
      have HX := H.out.below HB.out
      have hml2 : (markCs k xs).length = n := by rw [markCs_len, HNN.out]
      obtain ⟨g, y, hA, hg, hy, c0, c1, hnc, hcm⟩ := row_at HX.K (k := j) (by omega)
      subst hA
      rw [hml2] at hnc
      unfold maxLen at hcm
      have hjx : j < xs.length := by rw [HNN.out]; exact hlt
      have hx : xs[j]? = some xs[j] := List.getElem?_eq_getElem hjx
      obtain ⟨x, hxx⟩ : ∃ x, xs[j] = x := ⟨_, rfl⟩
      rw [hxx] at hx
      have hsp := drop_split hx
      have htk : xs.take (j + 1) = xs.take j ++ [x] := by rw [List.take_add_one, hx]; rfl
      have hyx : y = markCf (markCN k (xs.take j)) x := by
        have e1 : markCs k xs = markCs k (xs.take j ++ [x]) ++ markCs (markCN k (xs.take j ++ [x])) (xs.drop (j + 1)) := by
          rw [← markCs_app, ← htk, List.take_append_drop]
        rw [e1, markCs_snoc] at hy
        rw [List.getElem?_append_left (by rw [List.length_append, markCs_len, List.length_take, HNN.out]; simp; omega), List.getElem?_append_right (by rw [markCs_len, List.length_take]; omega), markCs_len, List.length_take, HNN.out, Nat.min_eq_left (by omega), Nat.sub_self] at hy
        exact (Option.some.inj hy).symm
      subst hyx
      have hsum : markCN (markN (markN (markCN k (xs.take j)) x.ra) x.rb) (xs.drop (j + 1)) ≤ 2 ^ 62 := by
        have e := hk
        rw [hsp, markCN_app] at e
        exact e
      have hs2 := Nat.le_trans (markCN_ge _ _) hsum
      have hs1 := Nat.le_trans (markN_ge _ _) hs2
      have HT := Lib.hid (show markCN k (xs.take (j + 1)) = markN (markN (markCN k (xs.take j)) x.ra) x.rb by rw [htk, markCN_snoc])
      obtain ⟨o1, o2, o3, _⟩ := HX.O.own _ (List.mem_of_getElem? hy)
      have ra := o1.a.refs; have rb := o1.b.refs
      have hx1 := o1.h1; have hx2 := o1.h2
      rw [cfV_mark] at c0; rw [cfU_mark] at c1
      obtain ⟨K0, hK0⟩ : ∃ z, markCN k (xs.take j) = z := ⟨_, rfl⟩
      rw [hK0] at hs1 hs2 HT ra rb hx1 hx2 o3 ⊢
      have RA := Lib.hid (show IsRefs wr 0 wr.heap.size x.A x.ra.length x.c (markRs K0 x.ra) from by
        have := ra.keep (w' := wr) (lo' := 0) (hi' := wr.heap.size) RefE.stays (fun _ _ _ => rfl) (Nat.zero_le _) o3
        have e : (markCf K0 x).ra.length = x.ra.length := markRs_len _ _
        rw [e] at this; exact this)
      have RB := Lib.hid (show IsRefs wr 0 wr.heap.size x.B x.rb.length x.d (markRs (markN K0 x.ra) x.rb) from by
        have := rb.keep (w' := wr) (lo' := 0) (hi' := wr.heap.size) RefE.stays (fun _ _ _ => rfl) (Nat.zero_le _) (Nat.le_trans hx2 o3)
        have e : (markCf K0 x).rb.length = x.rb.length := markRs_len _ _
        rw [e] at this; exact this)
      have d0 : wr.cell? ⟨g, j * 2, none⟩ = some (.slice x.A x.ra.length x.c) := c0
      have d1 : wr.cell? ⟨g, j * 2 + 1, none⟩ = some (.slice x.B x.rb.length x.d) := c1
      have hgw : g < wr.heap.size := World.block_lt_of_cell? _ _ d0
      have hn1 : ¬ (((markN K0 x.ra : Nat) : Int) < 0) := by omega
      have hn2 : ¬ (((markN (markN K0 x.ra) x.rb : Nat) : Int) < 0) := by omega
      clear hsum hsp htk hy o1 ra rb c0 c1 HX hml2 hK0 hxx
      go_wp2_with fail
      refine (heldAtomS_any x.A x.ra.length x.c K0 x.ra _ RA.out hs1).mono ?_; rintro e w2 ⟨rfl, hb2⟩
      have d1' := (hb2.cell (p := ⟨g, j * 2 + 1, none⟩) hgw).trans d1
      have RB2 := Lib.hid (RB.out.up RefE.stays hb2)
      have HB2 := Lib.hid (belowThen HB.out hb2)
      clear d0 d1 hb2 RB
      go_wp2_with fail
      refine (heldAtomS_any x.B x.rb.length x.d (markN K0 x.ra) x.rb _ RB2.out hs2).mono ?_; rintro e w3 ⟨rfl, hb3⟩
      have HB3 := Lib.hid (belowThen HB2.out hb3)
      clear d1' hb3
      go_wp2
      go_roundw
      case rel => exact ⟨j + 1, by omega, by go_num, by rw [HT.out], HB3.out⟩
      case measure => simp [intOf]; omega
    · have e1 : xs.take j = xs := List.take_of_length_le (by rw [HNN.out]; omega)
      rw [e1]
      clear e1
      have hltI : ¬ (j : Int) < (n : Int) := by omega
      go_wp2
      go_ret
      exact ⟨rfl, HB.out⟩

end Go.Proofs.YtogonjkklioaaaaGreatDoor

namespace Go.Proofs.YtogonjkklioaaaaGreatDoor
open Go.RowKit

theorem few_ch {xs ys : List At} (h : changeB xs ys = true) : SmallAtoms xs.length xs ∧ SmallAtoms ys.length ys := by
  obtain ⟨h1, h2, h3, h4⟩ := change_put h
  have key : ∀ a : At, atomB a = true → a.2.length ≤ 1048576 := fun a ha => by
    unfold atomB at ha
    simp only [Bool.and_eq_true, decide_eq_true_eq] at ha
    have := ha.2.2
    omega
  exact ⟨⟨by omega, fun q hq => key q (h3 q hq)⟩, ⟨by omega, fun q hq => key q (h4 q hq)⟩⟩

/-- Marks of a list of changes that are fine are few. -/
theorem markCN_few {W : World} : ∀ (xs : List Cf) (k : Nat), (∀ x ∈ xs, OwnCf W x ∧ okC (cfAt x)) → markCN k xs ≤ k + xs.length * 2 ^ 43
  | [], k, _ => by show k ≤ _; omega
  | x :: xs, k, h => by
    obtain ⟨ho, hc⟩ := h x (List.mem_cons_self ..)
    have few := few_ch (xs := x.ra.map rAt) (ys := x.rb.map rAt) hc
    have k1 : markN k x.ra ≤ k + 2 ^ 42 := markN_more (xs := x.ra.map rAt) ho.a.refs rfl (by have := few.1; rw [List.length_map] at this; exact this)
    have k2 : markN (markN k x.ra) x.rb ≤ markN k x.ra + 2 ^ 42 := markN_more (xs := x.rb.map rAt) ho.b.refs rfl (by have := few.2; rw [List.length_map] at this; exact this)
    have k3 := markCN_few xs (markN (markN k x.ra) x.rb) (fun y hy => h y (List.mem_cons_of_mem _ hy))
    show markCN (markN (markN k x.ra) x.rb) xs ≤ _
    rw [List.length_cons]
    omega

/-- What a law holds of two answers: the model's, and the program's in memory of its own. -/
structure LLaw (w : World) (a lo : Nat) (A3 : Option Addr) (n3 c3 : Nat) (cs : List Ch) (A5 : Option Addr) (c5 : Nat) (xs : List Cf) (W : World) : Prop where
  hb : Below w.heap.size w W
  h1 : w.heap.size ≤ a
  h2 : a ≤ lo
  I : IsChs W 0 a A3 n3 c3 cs
  O : OwnChs W lo A5 c5 xs

section
variable {w : World} {a lo : Nat} {A3 : Option Addr} {n3 c3 : Nat} {cs : List Ch} {A5 : Option Addr} {c5 : Nat} {xs xs' : List Cf} {W W' : World}

theorem LLaw.below (h : LLaw w a lo A3 n3 c3 cs A5 c5 xs W) (hw : Below W.heap.size W W') : LLaw w a lo A3 n3 c3 cs A5 c5 xs W' := by
  have h1 := h.h1; have h2 := h.h2; have h3 := h.O.h
  exact ⟨belowThen h.hb hw, h1, h2, h.I.keep ChE.stays (fun q _ hx => hw.cell (p := q) (by omega)) (Nat.le_refl _) (Nat.le_refl _), h.O.below hw⟩

theorem LLaw.marked (h : LLaw w a lo A3 n3 c3 cs A5 c5 xs W) (hw : Within lo W.heap.size W W') (hO : OwnChs W' lo A5 c5 xs') : LLaw w a lo A3 n3 c3 cs A5 c5 xs' W' := by
  have h1 := h.h1; have h2 := h.h2; have h3 := h.O.h
  have hl : Below lo W W' := hw.low (Nat.le_refl _) h3
  exact ⟨h.hb.trans (hl.mono (by omega)), h1, h2, h.I.keep ChE.stays (fun q _ hx => World.cell?_of_block (hl.block q.block (by omega))) (Nat.le_refl _) (Nat.le_refl _), hO⟩

theorem LLaw.model (h : LLaw w a lo A3 n3 c3 cs A5 c5 xs W) : IsChs W 0 W.heap.size A3 n3 c3 cs := by
  have h2 := h.h2; have h3 := h.O.h
  exact h.I.keep ChE.stays (fun _ _ _ => rfl) (Nat.le_refl _) (by omega)
end

set_option maxRecDepth 100000 in
set_option maxHeartbeats 4000000 in
theorem exactLogGet_any (s : ByteArray) (w : World) (hm : MaxIn w) (hE : EofIn w) (hP : PowTab w) :
    Calls Tryz.prog 4 #[.string s] w (BoolPost true w) := by
  go_enter Tryz.func4, Tryz.ntmps4
  go_wp2_with fail
  all_goals try (go_ret; exact ⟨rfl, Below.refl _ _⟩)
  have hsz : s.size ≤ 1048576 := by omega
  refine (specLogGet_any s w hsz).mono ?_; rintro e w3 ⟨A3, n3, c3, cs, z3, rfl, hI3, hb3, hR3⟩
  have hm3 := hm.below hb3; have hE3 := hE.below hb3; have hP3 := hP.below hb3
  have hz3 := hb3.size
  have HB3 := Lib.hid hb3; have HI3 := Lib.hid hI3; have HR3 := Lib.hid hR3
  clear hb3 hI3 hR3
  go_wp2_with fail
  refine (implLogGet_any s w3 hsz hm3 hE3 hP3).mono ?_; rintro e w5 ⟨A5, c5, xs, z5, lo, rfl, hrow, hown, ⟨hl1, hl2⟩, hb5, hR5⟩
  obtain ⟨hxa, rfl⟩ := hR5.uniq HR3.out
  have V5 := Lib.hid (show LLaw w w3.heap.size lo A3 n3 c3 cs A5 c5 xs w5 from ⟨belowThen HB3.out hb5, hz3, hl1, HI3.out.keep ChE.stays (fun q _ h2 => hb5.cell (p := q) h2) (Nat.le_refl _) (Nat.le_refl _), ⟨hrow, hown, hl2⟩⟩)
  have few := markCN_few xs 1 (fun x hx => ⟨(hown.own x hx).1, hR5.okc _ (List.mem_map.2 ⟨x, hx, rfl⟩)⟩)
  have hlen := hR5.few
  rw [List.length_map] at hlen
  have K1 := Lib.hid (show markCN 1 xs ≤ 2 ^ 62 by omega)
  have HXA := Lib.hid hxa
  clear hrow hown hb5 hR5 few HB3 HI3 hxa hl1 hl2 hlen
  go_wp2_with fail
  refine (eqChangeS_any A5 A3 xs.length c5 n3 c3 (xs.map cfAt) cs _ V5.out.O.chs V5.out.model).mono ?_; rintro e w6 ⟨rfl, hb6⟩
  rw [HXA.out, listEq_refl chEq_refl]
  have V6 := Lib.hid (V5.out.below hb6)
  clear hb6 V5
  go_wp2_with fail
  obtain ⟨mk, hmk⟩ : ∃ mk, markCN 1 xs = mk := ⟨_, rfl⟩
  refine (markChangeS_any lo A5 c5 1 xs _ V6.out.O K1.out).mono ?_; rintro e w11 ⟨rfl, hO11, hw11⟩
  rw [hmk]
  have HMK := Lib.hid hmk
  have V11 := Lib.hid (V6.out.marked hw11 hO11)
  have hln : (markCs 1 xs).length = xs.length := markCs_len 1 xs
  have HLN := Lib.hid hln
  clear hO11 hw11 V6 hmk hln
  go_wp2_with fail
  refine (heldChangeS_any lo A5 c5 1 xs _ V11.out.O K1.out).mono ?_; rintro e w12 ⟨rfl, hb12⟩
  rw [HMK.out]
  have V12 := Lib.hid (V11.out.below hb12)
  clear hb12 V11
  have hmn : ¬ ((mk : Int) < 0) := by omega
  have hm12 := hm.below V12.out.hb; have hE12 := hE.below V12.out.hb; have hP12 := hP.below V12.out.hb
  go_wp2_with fail
  refine (implLogGet_any s w12 hsz hm12 hE12 hP12).mono ?_; rintro e w14 ⟨A7, c7, ys, z7, lo7, rfl, hrow, hown, ⟨hl1, hl2⟩, hb14, hR7⟩
  obtain ⟨hxa7, rfl⟩ := hR7.uniq HR3.out
  have V14 := Lib.hid (V12.out.below hb14)
  have I14 := Lib.hid (show IsChs w14 0 w14.heap.size A7 ys.length c7 (ys.map cfAt) from chs_of_row hrow hown)
  have HXA7 := Lib.hid hxa7
  clear hrow hown hb14 hR7 V12 hxa7
  go_wp2_with fail
  refine (eqChangeS_any A7 A3 ys.length c7 n3 c3 (ys.map cfAt) cs _ I14.out V14.out.model).mono ?_; rintro e w15 ⟨rfl, hb15⟩
  rw [HXA7.out, listEq_refl chEq_refl]
  have V15 := Lib.hid (V14.out.below hb15)
  clear hb15 V14 I14
  go_wp2_with fail
  refine (heldChangeS_any lo A5 c5 1 xs _ V15.out.O K1.out).mono ?_; rintro e w16 ⟨rfl, hb16⟩
  rw [HMK.out]
  have V16 := Lib.hid (V15.out.below hb16)
  clear hb16 V15
  go_wp2
  go_ret; exact ⟨rfl, V16.out.hb⟩

end Go.Proofs.YtogonjkklioaaaaGreatDoor

namespace Go.Proofs.YtogonjkklioaaaaGreatDoor
open Go.ChangeShapes Go.WideShapes Go.ChangeAt Go.RowKit Go.Deep Go.Joins
open Go.ChangeMaps (open_string shut_string)

theorem Tryz.own : ownKnob Tryz.prog.godebug = none := by kernel_rfl
theorem Tryz.laidOut : laidOutB Tryz.prog = true := by kernel_rfl

section
variable {H : Type} {enc : TypeId × Value → H} {w : World} {base : Nat} {spare : Nat → Bool} {held : Bool}


end

/-- What a law owes behind the call: it answered true, and all that was there is as it was. -/
theorem post_true {H : Type} {enc : TypeId × Value → H} {f : Func} {s : ChangeSpec} {apart : Bool} {W W' : World} {args : Array Value} {ds gs : List (DataW H)} {before pa pv : List MemPlace}
    (hW : DataW.Whole enc Tryz.prog f.params.toList s.vars apart W args.toList ds gs before)
    (hres : DataW.TrodAll enc Tryz.prog W' W.heap.size (fun _ => false) false f.resultTypes.toList ((Value.bool true).resultList f.resultTypes.size) (s.fn H (ds ++ gs)).results [])
    (hargs : DataW.TrodAll enc Tryz.prog W' 0 (fun b => decide (b < W.heap.size)) true f.params.toList args.toList (s.fn H (ds ++ gs)).args pa)
    (hvars : DataW.TrodVars enc Tryz.prog W' (fun b => decide (b < W.heap.size)) s.vars (s.fn H (ds ++ gs)).vars pv)
    (hb : Below W.heap.size W W') :
    s.post enc Tryz.prog f apart true false false W args (.bool true) W' :=
  ⟨ds, gs, before, [], pa, pv, hW, hres, hargs, hvars, hb.frame _, fun h => by cases h⟩

end Go.Proofs.YtogonjkklioaaaaGreatDoor

namespace Go.Proofs.YtogonjkklioaaaaGreatDoor
open Go.RowKit

/-- The closed facts of a row, out of their parts. -/
theorem joined_of {P : Program} {f : FuncId} {fn : Func} {s : ChangeSpec} {c : OpenClaim}
    (h1 : c.wf (OpenSpec.ofChange s) = true) (h2 : laidOutB P = true) (h3 : mapsRowed P = true)
    (h4 : (fn.params.all (P.readableRec ·) && namedTie P c.named s.vars && (c.stops == []) && (P.stops == []) && (c.knobs == []) && (P.stopKnobs == [])) = true)
    (h5 : (c.inPlace == P.inPlace f) = true) (h6 : (c.unfollowed == P.unfollowed f) = true) (h7 : (c.recurses == P.recurses f) = true) (h8 : (c.named == P.varsNamed f) = true)
    (h9 : ((c.maps == (fn.params.toList ++ s.plain.varTypes P).any (P.mapsRec ·)) && (c.ifaces == (fn.params.toList ++ s.plain.varTypes P).any (P.ifacesRec ·)) && (c.mapsOut == P.mapsAmong fn.resultTypes.toList) &&
      (c.loops == (fn.params.toList ++ s.plain.varTypes P).any (P.loopsFrom ·)) && (c.wideKeys == (fn.params.toList ++ s.plain.varTypes P ++ fn.resultTypes.toList).any (P.wideKeysFrom ·)) &&
      s.vars.all (P.varReadable ·) && fn.resultTypes.all (fun t => P.readableRec t && decide (t < P.types.size)) && (c.ifacesOut == fn.resultTypes.toList.any (P.ifacesRec ·)) && (c.loopsOut == fn.resultTypes.toList.any (P.loopsFrom ·))) = true)
    (h10 : (c.plainKeys == P.plainKeys) = true) (h11 : c.shortTexts.isNone = true) (h12 : P.stopsHeard = true) (h13 : P.mayEnter = true) (h14 : (c.lifted == P.liftsFinal) = true)
    (h15 : ((P.make == some c.make) && (c.kinds == (if c.domain.isEmpty then [] else fn.params.toList.map fun t => match P.underlying t with | some (.int k) => some k | _ => none)) && (c.pinned == c.pinnedBy) &&
      (c.veiled == (fn.params.toList ++ s.plain.varTypes P ++ fn.resultTypes.toList).any (P.veiledRec ·)) && c.veiledFits P fn.params.toList (fn.params.toList ++ s.plain.varTypes P ++ fn.resultTypes.toList)) = true) : joinedFacts P f fn s c = true := by
  simp only [Bool.and_eq_true] at h4 h9 h15
  obtain ⟨⟨⟨⟨⟨a1, a2⟩, a3⟩, a4⟩, a5⟩, a6⟩ := h4
  obtain ⟨⟨⟨⟨⟨⟨⟨⟨b1, b2⟩, b3⟩, b4⟩, b5⟩, b6⟩, b7⟩, b8⟩, b9⟩ := h9
  obtain ⟨⟨⟨⟨d1, d2⟩, d3⟩, d4⟩, d5⟩ := h15
  simp only [joinedFacts, Bool.and_eq_true]
  exact ⟨⟨⟨⟨⟨⟨⟨⟨⟨⟨⟨⟨⟨⟨⟨⟨⟨⟨⟨⟨⟨⟨⟨⟨⟨⟨⟨⟨⟨⟨⟨h1, h2⟩, h3⟩, a1⟩, a2⟩, a3⟩, a4⟩, a5⟩, a6⟩, h5⟩, h6⟩, h7⟩, h8⟩, b1⟩, b2⟩, b3⟩, b4⟩, b5⟩, b6⟩, b7⟩, b8⟩, b9⟩, h10⟩, h11⟩, h12⟩, h13⟩, h14⟩, d1⟩, d2⟩, d3⟩, d4⟩, d5⟩

theorem Tryz.c_rowed : mapsRowed Tryz.prog = true := by kernel_rfl
theorem Tryz.c_heard : Tryz.prog.stopsHeard = true := by kernel_rfl
theorem Tryz.c_enter : Tryz.prog.mayEnter = true := by kernel_rfl
theorem Tryz.c_lifted : (Rows.fnExactLogGetRow.lifted == Tryz.prog.liftsFinal) = true := by kernel_rfl
theorem Tryz.c_keys : (Rows.fnExactLogGetRow.plainKeys == Tryz.prog.plainKeys) = true := by kernel_rfl
theorem Tryz.c_main : Tryz.pinned.checked.prog.mainIs = some (Rows.fnExactLogGetCard.stood.harness.1, Rows.fnExactLogGetCard.stood.harness.2.toList) := by kernel_rfl
theorem Tryz.c_looks : true = Tryz.prog.looks [] := by kernel_rfl

/-- What the rows of these laws list. -/
abbrev laidX : List (String × DataW Unit) := [("math/bits.deBruijn32tab", Rows.laid_math_bits_deBruijn32tab), ("math/bits.deBruijn64tab", Rows.laid_math_bits_deBruijn64tab), ("internal/strconv.uint64pow10", Rows.laid_internal_strconv_uint64pow10), ("unicode/utf8.acceptRanges", Rows.laid_unicode_utf8_acceptRanges), ("io.EOF", Rows.laid_io_EOF), ("unicode/utf8.first", Rows.laid_unicode_utf8_first)]

theorem laidX_plain : (laidX.all fun x => x.2.handleName?.isNone) = true := by kernel_rfl

theorem laidX_met (os : Os) (args : Array Value) : laidMetH Tryz.prog laidX ((World.laidAll Tryz.prog os laidX).forCall (fun _ _ => 0) ⟨#[], args, []⟩).memory := by
  rw [Go.MakeChecks.laidMetH_plain _ _ _ laidX_plain]
  exact laidMet_laidAll _ (by kernel_rfl) (by kernel_rfl)

theorem laidX_shaped1 (os : Os) : ((World.laidAll Tryz.prog os laidX).forCall (fun _ _ => 0) ⟨#[], #[.string ByteArray.empty], []⟩).Shaped Tryz.prog := World.shaped_of_ZipB (by kernel_rfl) (by kernel_rfl)
theorem laidX_shaped2 (os : Os) : ((World.laidAll Tryz.prog os laidX).forCall (fun _ _ => 0) ⟨#[], #[.slice none 0 0, .slice none 0 0], []⟩).Shaped Tryz.prog := World.shaped_of_ZipB (by kernel_rfl) (by kernel_rfl)

theorem iface_of_trod {P : Program} {W : World} {sp : Nat → Bool} {t : TypeId} {ms : Array (String × TypeId)} (ht : P.underlying t = some (.interface ms)) {n : Nat} {vs : List Value} {nm : String} {d : DataW Unit} {p : List MemPlace}
    (h : DataW.trod (fun _ => ()) P W 0 sp false n t vs = some (.iface nm d, p)) : ∃ u v, vs = [.iface u v] := by
  cases n with
  | zero => simp [DataW.trod] at h
  | succ n =>
    cases vs with
    | nil => simp [DataW.trod, ht] at h
    | cons E r =>
      cases r with
      | cons E2 r => cases E <;> simp [DataW.trod, ht] at h
      | nil =>
        cases E with
        | iface u v => exact ⟨u, v, rfl⟩
        | _ => simp [DataW.trod, ht] at h

theorem laidX_eof : laidX.filter (fun x => x.1 == "io.EOF") = [("io.EOF", Rows.laid_io_EOF)] := by rfl

theorem eofIn_of_laid {W : World} (h : laidMetH Tryz.prog laidX W.memory) : EofIn W := by
  rw [Go.MakeChecks.laidMetH_plain _ _ _ laidX_plain] at h
  have h2 := h.filter (fun x => x.1 == "io.EOF")
  rw [laidX_eof] at h2
  obtain ⟨ps, ⟨g, t, cs, fuel, p, q, hg, ht, hv, hd, _, _⟩, _⟩ := h2
  have e1 : Tryz.prog.globalNamed "io.EOF" = some 0 := by kernel_rfl
  obtain rfl := Option.some.inj (e1.symm.trans hg)
  have e2 : (Tryz.prog.globals[0]?).map (·.type) = some 53 := by kernel_rfl
  obtain rfl := Option.some.inj (e2.symm.trans ht)
  obtain ⟨u, v, e⟩ := iface_of_trod Tryz.underlying53 hd
  refine ⟨u, v, ?_⟩
  have h1 := World.var?_cell e1 hv 0
  have h2 : cs[0]? = some (.iface u v) := by rw [← Array.getElem?_toList, e]; rfl
  rw [h2] at h1
  exact h1

/-- A table of numbers, as the program names it. -/
def tabB (P : Program) (nm : String) : Bool :=
  match P.globalNamed nm with
  | none => false
  | some g => match (P.globals[g]?).map (·.type) with
    | none => false
    | some t => match P.underlying t with
      | some (.array n e) => (match P.underlying e with | some (.int .u64) => true | _ => false) && decide (P.cellsOf e = 1) && decide (P.cellsOf t = n)
      | _ => false

theorem tab_of {P : Program} {W : World} {nm : String} {zs : List Int} (hb : tabB P nm = true) (h : laidMet P [(nm, Lib.tabData .u64 zs)] W) : Lib.TabIs P W nm .u64 zs := by
  unfold tabB at hb
  split at hb
  · cases hb
  · rename_i g hg
    split at hb
    · cases hb
    · rename_i t ht
      split at hb
      · rename_i n e hu
        simp only [Bool.and_eq_true, decide_eq_true_eq] at hb
        obtain ⟨⟨h1, h2⟩, h3⟩ := hb
        split at h1
        · rename_i hi
          exact Lib.tabIs_of_head hg ht hu hi h2 h3 h
        · cases h1
      · cases hb

theorem laidX_pow : laidX.filter (fun x => x.1 == "internal/strconv.uint64pow10") = [("internal/strconv.uint64pow10", Lib.tabData .u64 Lib.pow10Tab)] := by rfl
theorem Tryz.tabPow : tabB Tryz.prog "internal/strconv.uint64pow10" = true := by kernel_rfl

theorem pow_of_laid {W : World} (h : laidMetH Tryz.prog laidX W.memory) : PowTab W := by
  rw [Go.MakeChecks.laidMetH_plain _ _ _ laidX_plain] at h
  have h2 := h.filter (fun x => x.1 == "internal/strconv.uint64pow10")
  rw [laidX_pow] at h2
  exact (tab_of (W := W.memory) Tryz.tabPow h2 : Lib.TabIs Tryz.prog W.memory _ _ _)

section
variable {H : Type} {enc : TypeId × Value → H}

/-- A call whose world has a shape besides what is laid. -/
theorem handed_shaped_x {C : Checked} {os : Os} {f : FuncId} {fn : Func} {s : ChangeSpec} {X : World → Prop}
    (own : ownKnob C.prog.godebug = none) (started : os.Started) (noInit : C.prog.inits.idxOf? f = none) (hfn : C.prog.funcs[f]? = some fn)
    (w0 : World) (args0 : Array Value) (hos : w0.os = os) (hsh : (w0.forCall (fun _ _ => 0) ⟨#[], args0, []⟩).Shaped C.prog)
    (hok : Input.okWideB C.prog (w0.forCall (fun _ _ => 0) ⟨#[], args0, []⟩) f ⟨#[], args0, []⟩ = true)
    (hpre : s.preB enc C.prog fn [] false (w0.forCall (fun _ _ => 0) ⟨#[], args0, []⟩).memory args0 8 = true)
    (hsz : s.sizedB enc C.prog fn false (w0.forCall (fun _ _ => 0) ⟨#[], args0, []⟩).memory args0 8 = true)
    (hx : X (w0.forCall (fun _ _ => 0) ⟨#[], args0, []⟩).memory)
    (walk : ∀ (W : World) (args : Array Value) (ds gs : List (DataW H)) (before : List MemPlace), (∀ (j : Nat) t v, fn.params[j]? = some t → args[j]? = some v → Value.okWide C.prog W .any W.heap.size t v) →
      DataW.Whole enc C.prog fn.params.toList s.vars false W args.toList ds gs before → W.ShapedOpen C.prog → X W.memory →
      Calls C.prog f args W fun e W' => ∃ v, e = .returned v ∧ s.post enc C.prog fn false true false false W args v W') :
    ReturnsInHanded {} C os f .any (fun w args => (s.pre enc C.prog fn [] false w args ∧ X w) ∧ sizedMet enc C.prog fn (OpenSpec.ofChange s) false w args) (s.post enc C.prog fn false true false false) :=
  returnsInHanded_of_calls own started noInit (ChangeSpec.witness_shaped (X := fun w _ => X w) false w0 args0 8 hos hsh hok hpre hsz hx) fun w tape i _ hS _ hin hp _ => by
    obtain ⟨_, _, _, fn', hf', _, _, _, _, hval⟩ := hin
    obtain rfl : fn' = fn := Option.some.inj (hf'.symm.trans hfn)
    obtain ⟨⟨⟨ds, gs, before, hw, _⟩, hX⟩, _⟩ := hp
    exact (walk (w.forCall tape i) i.args ds gs before hval (DataW.Whole.of_heap (by rfl) hw) hS hX).mono fun e W' ⟨v, he, hq⟩ => by
      subst he
      exact ChangeSpec.post_blind hq
end

theorem maxIn_of_shape {W : World} (h : W.ShapedOpen Tryz.prog) : MaxIn W :=
  cell_of_shapedOpen_int (zero := #[.int .i64 0]) (t := 3) h (of_decide_eq_true (by kernel_rfl)) (by kernel_rfl) rfl (by kernel_rfl) (by kernel_rfl) Tryz.underlying3

end Go.Proofs.YtogonjkklioaaaaGreatDoor
