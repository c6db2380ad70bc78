/-
  Facts with one, and without one, in the program. (Written by tools/factimpl.py.)
-/
import Derived.Test.YtbhkihnekendbaaFactsSpec
import Derived.Test.YtbhkihnekendbaaChangeOk
namespace Go.Proofs.Ytbhkihnekendbaa
open Go.RowKit
attribute [local go_sem] run_store_func

/-- A list in memory of its own and whether it was done, handed back. -/
def OwnBPost (p : List At × Bool) (w : World) (e : Ending) (w' : World) : Prop := ∃ A c rs, e = .returned (.tuple #[.slice A rs.length c, .bool p.2]) ∧ OwnRefs w' w.heap.size w'.heap.size A rs.length c rs ∧ rs.map rAt = p.1 ∧ Below w.heap.size w w'

theorem own_copy {w w1 w2 : World} {A : Option Addr} {c : Nat} {rs : List Rf} {xs : List At} {b : Bool} {p : List At × Bool} (hp : p = (xs, b)) (ho : OwnRefs w2 w1.heap.size w2.heap.size A xs.length c rs) (hm : rs.map rAt = xs) (hs : w.heap.size ≤ w1.heap.size) (hb : Below w.heap.size w w2) :
    OwnBPost p w (.returned (.tuple #[.slice A xs.length c, .bool b])) w2 := by
  subst hp
  have hl := ho.1
  rw [← hl] at ho
  exact ⟨A, c, rs, by rw [hl], ho.keep (fun _ _ _ => rfl) hs (Nat.le_refl _), hm, hb⟩

theorem one_refs {w : World} {g : Nat} {nm : ByteArray} {B : Option Addr} {m d : Nat} {ts : List Tm} (h : Blk w g 26 #[.string nm, .slice B m d]) (hs : nm.size ≤ maxLen) (ht : IsTerms w 0 w.heap.size B m d ts) : IsRefs w 0 w.heap.size (some ⟨g, 0, none⟩) 1 1 [(nm, B, m, d, ts)] := by
  refine ⟨rfl, Nat.le_refl _, by unfold maxLen; omega, fun _ => ⟨_, rfl, Nat.zero_le _, h.lt, fun i r hr => ?_⟩⟩
  match i, hr with
  | 0, hr =>
    simp at hr
    subst hr
    have a0 : (⟨g, 0, none⟩ : Addr).add (0 * 2) = ⟨g, 0, none⟩ := by unfold Addr.add; simp
    rw [a0]
    exact ⟨h.cell 0, hs, h.cell 1, ht⟩

/-- A list, behind two stores into a block below it. -/
theorem rows_far {w W : World} {A : Option Addr} {n c g : Nat} {rs : List Rf} (h : IsRefs W 0 W.heap.size A n c rs) (hr : RefsIn w 0 w.heap.size rs) (hb : Below w.heap.size w W) (hA : ∀ p, A = some p → g < p.block) (hg : w.heap.size ≤ g) (u v : Value) :
    IsRefs ((W.setCell ⟨g, 0, none⟩ u).setCell ⟨g, 1, none⟩ v) 0 ((W.setCell ⟨g, 0, none⟩ u).setCell ⟨g, 1, none⟩ v).heap.size A n c rs := by
  have hk : ∀ q : Addr, q.block ≠ g → ((W.setCell ⟨g, 0, none⟩ u).setCell ⟨g, 1, none⟩ v).cell? q = W.cell? q := fun q hq => World.cell?_of_block (set2_far hq)
  have hB : Below w.heap.size w ((W.setCell ⟨g, 0, none⟩ u).setCell ⟨g, 1, none⟩ v) := (hb.setCell hg u).setCell hg v
  obtain ⟨a, b, d, e⟩ := h
  refine ⟨a, b, d, fun hn => ?_⟩
  obtain ⟨p, e1, e2, e3, e4⟩ := e hn
  have hp := hA p e1
  refine ⟨p, e1, e2, by rw [size_setCell, size_setCell]; exact e3, fun i r hi => ?_⟩
  obtain ⟨d1, d2, d3, _⟩ := e4 i r hi
  refine ⟨(hk _ (by rw [block_add]; omega)).trans d1, d2, (hk _ (by rw [nextTo_block, block_add]; omega)).trans d3, ?_⟩
  exact (hr r (List.mem_of_getElem? hi)).2.keep (fun _ _ hq => hB.cell hq) (Nat.le_refl _) hB.size

theorem without_any (A B : Option Addr) (n c n' c' : Nat) (ra rb : List Rf) (w : World) (h : IsRefs w 0 w.heap.size A n c ra) (h' : IsRefs w 0 w.heap.size B n' c' rb) (hmax : ra.length + rb.length ≤ 1099511627776) :
    Calls Try.prog 84 #[.agg #[.slice A n c, .func (.func 133) #[] #[]], .agg #[.slice B n' c', .func (.func 133) #[] #[]]] w (ListPost (selR 0 (mergeR ra rb)) w) := by
  have H := Lib.hid h; have H' := Lib.hid h'; clear h h'
  have hw3 := below3 w (.cells #[.slice A n c, .func (.func 133) #[] #[]] 100) (.cells #[.slice B n' c', .func (.func 133) #[] #[]] 100) (.cells #[.slice none 0 0, Value.nilFunc] 100)
  have a2 := Blk.made (b := w.heap.size + 1 + 1) ((w.alloc (.cells #[.slice A n c, .func (.func 133) #[] #[]] 100)).alloc (.cells #[.slice B n' c', .func (.func 133) #[] #[]] 100)) 100 #[.slice none 0 0, Value.nilFunc] (by simp)
  go_enter Try.func84, Try.ntmps84
  go_wp2_with fail
  refine (only_is 0 0 rfl A B n c n' c' ra rb _ (H.out.up RefE.stays hw3) (H'.out.up RefE.stays hw3) hmax).mono ?_; rintro e w1 ⟨A6, c6, rfl, hI, hb1, hlow⟩
  have HB1 := belowThen hw3 hb1
  have a3 := a2.below hb1
  have c0 : w1.cell? ⟨w.heap.size + 1 + 1, 0, none⟩ = some (.slice none 0 0) := a3.cell 0
  have c1 : w1.cell? ⟨w.heap.size + 1 + 1, 1, none⟩ = some Value.nilFunc := a3.cell 1
  have f0 := a3.frozen 0
  have f1 := a3.frozen 1
  have HI := Lib.hid hI; clear hI
  have hin := RefsIn.of H.out; have hin' := RefsIn.of H'.out
  have HS := Lib.hid (show RefsIn w 0 w.heap.size (selR 0 (mergeR ra rb)) from fun r hr => by
    obtain ⟨x, hx, rfl⟩ := selR_mem r hr
    rcases merge_mem ra rb x hx with h1 | h1
    · exact hin _ h1
    · exact hin' _ h1)
  clear hin hin'
  have HL := Lib.hid hlow; clear hlow
  go_wp2
  refine bodyPost_ret (v := .agg #[.slice A6 (selR 0 (mergeR ra rb)).length c6, .func (.func 133) #[] #[]]) (by simp [results, Try.results84, go_sem, c0, c1]) rfl ⟨A6, c6, rfl, ?_, (HB1.setCell (by simp only; omega) _).setCell (by simp only; omega) _, fun p hp => Nat.le_trans (by simp only [size_alloc_eq]; omega) (HL.out p hp)⟩
  exact rows_far HI.out HS.out HB1 (fun p hp => Nat.lt_of_lt_of_le (show w.heap.size + 1 + 1 < _ by simp only [size_alloc_eq]; omega) (HL.out p hp)) (by omega) _ _

set_option maxRecDepth 100000 in
set_option maxHeartbeats 8000000 in
theorem implFactsAdd_any (A : Option Addr) (n c : Nat) (xs : List At) (nm : ByteArray) (B : Option Addr) (m d : Nat) (ts : List Tm) (w : World) (h : IsAtoms w 0 w.heap.size A n c xs) (hs : nm.size ≤ maxLen) (h' : IsTerms w 0 w.heap.size B m d ts) :
    Calls Try.prog 15 #[.slice A n c, .agg #[.string nm, .slice B m d]] w (OwnBPost (addL xs (nm, ts)) w) := by
  have H := Lib.hid h; have H' := Lib.hid h'; clear h h'
  have HX := Lib.hid H.out.1
  have hw1 := below1 w (.cells #[.string nm, .slice B m d] 26)
  have B1 := Blk.new w 26 #[.string nm, .slice B m d]
  go_enter Try.func15, Try.ntmps15
  go_wp2_with fail
  refine (implFactsOk_any A n c xs _ (H.out.up AtomE.stays hw1)).mono ?_; rintro e w2 ⟨rfl, hb2⟩
  have HB2 := belowThen hw1 hb2
  have B2 := B1.below hb2
  have b1 : w2.cell? ⟨w.heap.size, 0, none⟩ = some (.string nm) := B2.cell 0
  have b2 : w2.cell? ⟨w.heap.size, 1, none⟩ = some (.slice B m d) := B2.cell 1
  by_cases hx : (!factsB 300 xs) = true
  · have E := Lib.hid (addL_no (a := (nm, ts)) hx)
    go_wp2
    go_ret2
    rw [E.out]
    exact ⟨none, 0, [], rfl, ⟨rfl, Nat.le_refl _, Nat.zero_le _, fun h0 => absurd h0 (by simp), OwnIn.nil⟩, rfl, HB2⟩
  · have hx' : (!factsB 300 xs) = false := by simpa using hx
    clear hx
    have hF := facts_all (show factsB 300 xs = true by simpa using hx')
    have hr := factsB_rises (show factsB 300 xs = true by simpa using hx')
    have hl300 := factsB_len (show factsB 300 xs = true by simpa using hx')
    rw [HX.out] at hl300
    have HF := Lib.hid hF; have HRS := Lib.hid hr; clear hF hr
    have HS := Lib.hid (facts_small HF.out (show n ≤ 1048576 by omega))
    have HFX := Lib.hid hx'
    obtain ⟨rs, hrs, hm⟩ := refs_of H.out
    have RR := Lib.hid hrs; have HM := Lib.hid hm; clear hm
    have hmax : rs.length + 1 ≤ 1099511627776 := by rw [hrs.1]; omega
    clear hrs
    clear b1 b2
    go_wp2_with fail
    have x1 : w2.drew.cell? ⟨w.heap.size, 0, none⟩ = some (.string nm) := B2.cell 0
    have x2 : w2.drew.cell? ⟨w.heap.size, 1, none⟩ = some (.slice B m d) := B2.cell 1
    have HBV : Below w.heap.size w w2.drew := HB2.drew
    have BXV : Blk w2.drew w.heap.size 26 #[.string nm, .slice B m d] := B2
    obtain ⟨V, hV⟩ : ∃ V, w2.drew = V := ⟨_, rfl⟩
    rw [hV] at x1 x2 HBV BXV
    cases hg : factB (nm, ts)
    · have tok := True.intro
      refine wp_region_held_drew (S := fun W => W.cell? ⟨w.heap.size, 0, none⟩ = some (.string nm) ∧ W.cell? ⟨w.heap.size, 1, none⟩ = some (.slice B m d)) (by kernel_rfl) (by rw [hV]; exact ⟨x1, x2⟩) ?_
      rw [hV]
      intro hS_
      refine takeV (i := 0) (v := .agg #[.string nm, .slice B m d]) (by (simp only [List.getElem?_toArray, List.getElem?_cons_zero]); rfl) (by kernel_rfl) (by kernel_rfl) (by kernel_rfl) (by rfl) (fun _ _ _ h => h) (Or.inl ⟨by rfl, ?_⟩) hS_ (by (simp only [List.setIfInBounds_toArray, List.set_cons_succ, List.set_cons_zero]); rfl) ?_
      · intro w_ hSw_; (try dsimp only at hSw_); go_simp
      refine wpAnyH_ready (rs := [1]) (by kernel_rfl) (by simp) ?_
      refine AllReadyH.cons (o := _) (by (simp only [List.getElem?_toArray, List.getElem?_cons_succ, List.getElem?_cons_zero]); rfl) (fun K_ hK_ => ?_) AllReadyH.nil
      rw [if_pos (by rfl)]
      go_simp
      go_at_call 71
      refine (factOk_any nm B m d ts _ hs (H'.out.up HBV)).mono ?_; rintro e V21 ⟨rfl, hb21⟩
      have HB21 := belowThen HBV hb21
      have BX21 := BXV.below hb21
      rw [hg]
      refine hK_.out _ _ ⟨BX21.cell 0, BX21.cell 1⟩ (fun hS2_ => ?_)
      clear hK_ hS_; have hS_ := hS2_; clear hS2_
      (try simp only [Act.put, List.setIfInBounds_toArray, List.set_cons_zero, List.set_cons_succ])
      refine takeV (i := 2) (v := .bool true) (by (simp only [List.getElem?_toArray, List.getElem?_cons_succ, List.getElem?_cons_zero]); rfl) (by kernel_rfl) (by kernel_rfl) (by kernel_rfl) (by rfl) (fun _ _ _ h => h) (Or.inl ⟨by rfl, ?_⟩) hS_ (by (simp only [List.setIfInBounds_toArray, List.set_cons_succ, List.set_cons_zero]); rfl) ?_
      · intro w_ hSw_; (try dsimp only at hSw_); go_simp
      refine takeV (i := 3) (v := .bool true) (by (simp only [List.getElem?_toArray, List.getElem?_cons_succ, List.getElem?_cons_zero]); rfl) (by kernel_rfl) (by kernel_rfl) (by kernel_rfl) (by rfl) (fun _ _ _ h => h) (Or.inl ⟨by rfl, ?_⟩) hS_ (by (simp only [List.setIfInBounds_toArray, List.set_cons_succ, List.set_cons_zero]); rfl) ?_
      · intro w_ hSw_; (try dsimp only at hSw_); go_simp
      refine takeV (i := 4) (v := undef) (by (simp only [List.getElem?_toArray, List.getElem?_cons_succ, List.getElem?_cons_zero]); rfl) (by kernel_rfl) (by kernel_rfl) (by kernel_rfl) (by rfl) (fun _ _ _ h => h) (Or.inr ⟨by rfl, rfl⟩) hS_ (by (simp only [List.setIfInBounds_toArray, List.set_cons_succ, List.set_cons_zero]); rfl) ?_
      refine takeV (i := 5) (v := undef) (by (simp only [List.getElem?_toArray, List.getElem?_cons_succ, List.getElem?_cons_zero]); rfl) (by kernel_rfl) (by kernel_rfl) (by kernel_rfl) (by rfl) (fun _ _ _ h => h) (Or.inr ⟨by rfl, rfl⟩) hS_ (by (simp only [List.setIfInBounds_toArray, List.set_cons_succ, List.set_cons_zero]); rfl) ?_
      refine takeV (i := 6) (v := undef) (by (simp only [List.getElem?_toArray, List.getElem?_cons_succ, List.getElem?_cons_zero]); rfl) (by kernel_rfl) (by kernel_rfl) (by kernel_rfl) (by rfl) (fun _ _ _ h => h) (Or.inr ⟨by rfl, rfl⟩) hS_ (by (simp only [List.setIfInBounds_toArray, List.set_cons_succ, List.set_cons_zero]); rfl) ?_
      refine takeV (i := 7) (v := undef) (by (simp only [List.getElem?_toArray, List.getElem?_cons_succ, List.getElem?_cons_zero]); rfl) (by kernel_rfl) (by kernel_rfl) (by kernel_rfl) (by rfl) (fun _ _ _ h => h) (Or.inr ⟨by rfl, rfl⟩) hS_ (by (simp only [List.setIfInBounds_toArray, List.set_cons_succ, List.set_cons_zero]); rfl) ?_
      refine takeV (i := 8) (v := .bool true) (by (simp only [List.getElem?_toArray, List.getElem?_cons_succ, List.getElem?_cons_zero]); rfl) (by kernel_rfl) (by kernel_rfl) (by kernel_rfl) (by rfl) (fun _ _ _ h => h) (Or.inl ⟨by rfl, ?_⟩) hS_ (by (simp only [List.setIfInBounds_toArray, List.set_cons_succ, List.set_cons_zero]); rfl) ?_
      · intro w_ hSw_; (try dsimp only at hSw_); go_simp
      refine takeV (i := 9) (v := .bool true) (by (simp only [List.getElem?_toArray, List.getElem?_cons_succ, List.getElem?_cons_zero]); rfl) (by kernel_rfl) (by kernel_rfl) (by kernel_rfl) (by rfl) (fun _ _ _ h => h) (Or.inl ⟨by rfl, ?_⟩) hS_ (by (simp only [List.setIfInBounds_toArray, List.set_cons_succ, List.set_cons_zero]); rfl) ?_
      · intro w_ hSw_; (try dsimp only at hSw_); go_simp
      refine takeV (i := 10) (v := undef) (by (simp only [List.getElem?_toArray, List.getElem?_cons_succ, List.getElem?_cons_zero]); rfl) (by kernel_rfl) (by kernel_rfl) (by kernel_rfl) (by rfl) (fun _ _ _ h => h) (Or.inr ⟨by rfl, rfl⟩) hS_ (by (simp only [List.setIfInBounds_toArray, List.set_cons_succ, List.set_cons_zero]); rfl) ?_
      refine takeV (i := 11) (v := undef) (by (simp only [List.getElem?_toArray, List.getElem?_cons_succ, List.getElem?_cons_zero]); rfl) (by kernel_rfl) (by kernel_rfl) (by kernel_rfl) (by rfl) (fun _ _ _ h => h) (Or.inr ⟨by rfl, rfl⟩) hS_ (by (simp only [List.setIfInBounds_toArray, List.set_cons_succ, List.set_cons_zero]); rfl) ?_
      refine takeV (i := 12) (v := undef) (by (simp only [List.getElem?_toArray, List.getElem?_cons_succ, List.getElem?_cons_zero]); rfl) (by kernel_rfl) (by kernel_rfl) (by kernel_rfl) (by rfl) (fun _ _ _ h => h) (Or.inr ⟨by rfl, rfl⟩) hS_ (by (simp only [List.setIfInBounds_toArray, List.set_cons_succ, List.set_cons_zero]); rfl) ?_
      refine takeV (i := 13) (v := .bool true) (by (simp only [List.getElem?_toArray, List.getElem?_cons_succ, List.getElem?_cons_zero]); rfl) (by kernel_rfl) (by kernel_rfl) (by kernel_rfl) (by rfl) (fun _ _ _ h => h) (Or.inl ⟨by rfl, ?_⟩) hS_ (by (simp only [List.setIfInBounds_toArray, List.set_cons_succ, List.set_cons_zero]); rfl) ?_
      · intro w_ hSw_; (try dsimp only at hSw_); go_simp
      refine wpAnyH_done (by kernel_rfl) ?_ _
      clear x1 x2 hS_
      have B3 := BX21; have HB3 := HB21
      have E := Lib.hid (addL_as (a := (nm, ts)) HFX.out (by rw [hg]; rfl))
      go_wp2_with fail
      refine (copyAtoms_any A n c xs _ (H.out.up AtomE.stays HB3) HS.out).mono ?_; rintro e w5 ⟨A5, c5, rs5, rfl, ho5, hm5, hb5⟩
      have O5 := Lib.hid ho5; have M5 := Lib.hid hm5; clear ho5 hm5
      go_wp2
      go_ret2; exact own_copy E.out O5.out M5.out HB3.size (belowThen HB3 hb5)
    · cases hh : hasB xs (nm, ts)
      · by_cases hlen : n = 300
        · have tok := True.intro
          have hl3 : 300 ≤ n := by omega
          clear hlen
          refine wp_region_held_drew (S := fun W => W.cell? ⟨w.heap.size, 0, none⟩ = some (.string nm) ∧ W.cell? ⟨w.heap.size, 1, none⟩ = some (.slice B m d)) (by kernel_rfl) (by rw [hV]; exact ⟨x1, x2⟩) ?_
          rw [hV]
          intro hS_
          refine takeV (i := 0) (v := .agg #[.string nm, .slice B m d]) (by (simp only [List.getElem?_toArray, List.getElem?_cons_zero]); rfl) (by kernel_rfl) (by kernel_rfl) (by kernel_rfl) (by rfl) (fun _ _ _ h => h) (Or.inl ⟨by rfl, ?_⟩) hS_ (by (simp only [List.setIfInBounds_toArray, List.set_cons_succ, List.set_cons_zero]); rfl) ?_
          · intro w_ hSw_; (try dsimp only at hSw_); go_simp
          refine wpAnyH_ready (rs := [1]) (by kernel_rfl) (by simp) ?_
          refine AllReadyH.cons (o := _) (by (simp only [List.getElem?_toArray, List.getElem?_cons_succ, List.getElem?_cons_zero]); rfl) (fun K_ hK_ => ?_) AllReadyH.nil
          rw [if_pos (by rfl)]
          go_simp
          go_at_call 71
          refine (factOk_any nm B m d ts _ hs (H'.out.up HBV)).mono ?_; rintro e V21 ⟨rfl, hb21⟩
          have HB21 := belowThen HBV hb21
          have BX21 := BXV.below hb21
          rw [hg]
          refine hK_.out _ _ ⟨BX21.cell 0, BX21.cell 1⟩ (fun hS2_ => ?_)
          clear hK_ hS_; have hS_ := hS2_; clear hS2_
          (try simp only [Act.put, List.setIfInBounds_toArray, List.set_cons_zero, List.set_cons_succ])
          refine takeV (i := 2) (v := .bool false) (by (simp only [List.getElem?_toArray, List.getElem?_cons_succ, List.getElem?_cons_zero]); rfl) (by kernel_rfl) (by kernel_rfl) (by kernel_rfl) (by rfl) (fun _ _ _ h => h) (Or.inl ⟨by rfl, ?_⟩) hS_ (by (simp only [List.setIfInBounds_toArray, List.set_cons_succ, List.set_cons_zero]); rfl) ?_
          · intro w_ hSw_; (try dsimp only at hSw_); go_simp
          refine takeV (i := 3) (v := .bool false) (by (simp only [List.getElem?_toArray, List.getElem?_cons_succ, List.getElem?_cons_zero]); rfl) (by kernel_rfl) (by kernel_rfl) (by kernel_rfl) (by rfl) (fun _ _ _ h => h) (Or.inl ⟨by rfl, ?_⟩) hS_ (by (simp only [List.setIfInBounds_toArray, List.set_cons_succ, List.set_cons_zero]); rfl) ?_
          · intro w_ hSw_; (try dsimp only at hSw_); go_simp
          refine takeV (i := 4) (v := .slice A n c) (by (simp only [List.getElem?_toArray, List.getElem?_cons_succ, List.getElem?_cons_zero]); rfl) (by kernel_rfl) (by kernel_rfl) (by kernel_rfl) (by rfl) (fun _ _ _ h => h) (Or.inl ⟨by rfl, ?_⟩) hS_ (by (simp only [List.setIfInBounds_toArray, List.set_cons_succ, List.set_cons_zero]); rfl) ?_
          · intro w_ hSw_; (try dsimp only at hSw_); go_simp
          refine takeV (i := 6) (v := .agg #[.string nm, .slice B m d]) (by (simp only [List.getElem?_toArray, List.getElem?_cons_succ, List.getElem?_cons_zero]); rfl) (by kernel_rfl) (by kernel_rfl) (by kernel_rfl) (by rfl) (fun _ _ _ h => h) (Or.inl ⟨by rfl, ?_⟩) hS_ (by (simp only [List.setIfInBounds_toArray, List.set_cons_succ, List.set_cons_zero]); rfl) ?_
          · intro w_ hSw_; (try dsimp only at hSw_); go_simp
          refine wpAnyH_ready (rs := [5]) (by kernel_rfl) (by simp) ?_
          refine AllReadyH.cons (o := _) (by (simp only [List.getElem?_toArray, List.getElem?_cons_succ, List.getElem?_cons_zero]); rfl) (fun K_ hK_ => ?_) AllReadyH.nil
          rw [if_pos (by rfl)]
          go_simp
          go_at_call 72
          refine (factList_any A n c _).mono ?_; rintro e V22 ⟨rfl, hb22⟩
          have HB22 := belowThen HB21 hb22
          have BX22 := BX21.below hb22
          refine hK_.out _ _ ⟨BX22.cell 0, BX22.cell 1⟩ (fun hS2_ => ?_)
          clear hK_ hS_; have hS_ := hS2_; clear hS2_
          (try simp only [Act.put, List.setIfInBounds_toArray, List.set_cons_zero, List.set_cons_succ])
          refine wpAnyH_ready (rs := [7]) (by kernel_rfl) (by simp) ?_
          refine AllReadyH.cons (o := _) (by (simp only [List.getElem?_toArray, List.getElem?_cons_succ, List.getElem?_cons_zero]); rfl) (fun K_ hK_ => ?_) AllReadyH.nil
          rw [if_pos (by rfl)]
          go_simp
          go_at_call 73
          refine (has_any A n c xs nm B m d ts _ (H.out.up AtomE.stays HB22) (H'.out.up HB22) HRS.out (by omega)).mono ?_; rintro e V23 ⟨rfl, hb23⟩
          have HB23 := belowThen HB22 hb23
          have BX23 := BX22.below hb23
          rw [hh]
          refine hK_.out _ _ ⟨BX23.cell 0, BX23.cell 1⟩ (fun hS2_ => ?_)
          clear hK_ hS_; have hS_ := hS2_; clear hS2_
          (try simp only [Act.put, List.setIfInBounds_toArray, List.set_cons_zero, List.set_cons_succ])
          refine takeV (i := 8) (v := .bool false) (by (simp only [List.getElem?_toArray, List.getElem?_cons_succ, List.getElem?_cons_zero]); rfl) (by kernel_rfl) (by kernel_rfl) (by kernel_rfl) (by rfl) (fun _ _ _ h => h) (Or.inl ⟨by rfl, ?_⟩) hS_ (by (simp only [List.setIfInBounds_toArray, List.set_cons_succ, List.set_cons_zero]); rfl) ?_
          · intro w_ hSw_; (try dsimp only at hSw_); go_simp
          refine takeV (i := 9) (v := .bool false) (by (simp only [List.getElem?_toArray, List.getElem?_cons_succ, List.getElem?_cons_zero]); rfl) (by kernel_rfl) (by kernel_rfl) (by kernel_rfl) (by rfl) (fun _ _ _ h => h) (Or.inl ⟨by rfl, ?_⟩) hS_ (by (simp only [List.setIfInBounds_toArray, List.set_cons_succ, List.set_cons_zero]); rfl) ?_
          · intro w_ hSw_; (try dsimp only at hSw_); go_simp
          refine takeV (i := 10) (v := .slice A n c) (by (simp only [List.getElem?_toArray, List.getElem?_cons_succ, List.getElem?_cons_zero]); rfl) (by kernel_rfl) (by kernel_rfl) (by kernel_rfl) (by rfl) (fun _ _ _ h => h) (Or.inl ⟨by rfl, ?_⟩) hS_ (by (simp only [List.setIfInBounds_toArray, List.set_cons_succ, List.set_cons_zero]); rfl) ?_
          · intro w_ hSw_; (try dsimp only at hSw_); go_simp
          refine takeV (i := 11) (v := .int .i64 (n : Int)) (by (simp only [List.getElem?_toArray, List.getElem?_cons_succ, List.getElem?_cons_zero]); rfl) (by kernel_rfl) (by kernel_rfl) (by kernel_rfl) (by rfl) (fun _ _ _ h => h) (Or.inl ⟨by rfl, ?_⟩) hS_ (by (simp only [List.setIfInBounds_toArray, List.set_cons_succ, List.set_cons_zero]); rfl) ?_
          · intro w_ hSw_; (try dsimp only at hSw_); go_simp
          refine takeV (i := 12) (v := .bool true) (by (simp only [List.getElem?_toArray, List.getElem?_cons_succ, List.getElem?_cons_zero]); rfl) (by kernel_rfl) (by kernel_rfl) (by kernel_rfl) (by rfl) (fun _ _ _ h => h) (Or.inl ⟨by rfl, ?_⟩) hS_ (by (simp only [List.setIfInBounds_toArray, List.set_cons_succ, List.set_cons_zero]); rfl) ?_
          · intro w_ hSw_; (try dsimp only at hSw_); go_simp; omega
          refine takeV (i := 13) (v := .bool true) (by (simp only [List.getElem?_toArray, List.getElem?_cons_succ, List.getElem?_cons_zero]); rfl) (by kernel_rfl) (by kernel_rfl) (by kernel_rfl) (by rfl) (fun _ _ _ h => h) (Or.inl ⟨by rfl, ?_⟩) hS_ (by (simp only [List.setIfInBounds_toArray, List.set_cons_succ, List.set_cons_zero]); rfl) ?_
          · intro w_ hSw_; (try dsimp only at hSw_); go_simp
          refine wpAnyH_done (by kernel_rfl) ?_ _
          clear x1 x2 hS_
          have B3 := BX23; have HB3 := HB23
          have E := Lib.hid (addL_as (a := (nm, ts)) HFX.out (by rw [hg, hh, decide_eq_false (by rw [HX.out]; omega)]; rfl))
          go_wp2_with fail
          refine (copyAtoms_any A n c xs _ (H.out.up AtomE.stays HB3) HS.out).mono ?_; rintro e w5 ⟨A5, c5, rs5, rfl, ho5, hm5, hb5⟩
          have O5 := Lib.hid ho5; have M5 := Lib.hid hm5; clear ho5 hm5
          go_wp2
          go_ret2; exact own_copy E.out O5.out M5.out HB3.size (belowThen HB3 hb5)
        · have hli : ((n : Int) == 300) = false := by rw [beq_eq_false_iff_ne]; omega
          refine wp_region_held_drew (S := fun W => W.cell? ⟨w.heap.size, 0, none⟩ = some (.string nm) ∧ W.cell? ⟨w.heap.size, 1, none⟩ = some (.slice B m d)) (by kernel_rfl) (by rw [hV]; exact ⟨x1, x2⟩) ?_
          rw [hV]
          intro hS_
          refine takeV (i := 0) (v := .agg #[.string nm, .slice B m d]) (by (simp only [List.getElem?_toArray, List.getElem?_cons_zero]); rfl) (by kernel_rfl) (by kernel_rfl) (by kernel_rfl) (by rfl) (fun _ _ _ h => h) (Or.inl ⟨by rfl, ?_⟩) hS_ (by (simp only [List.setIfInBounds_toArray, List.set_cons_succ, List.set_cons_zero]); rfl) ?_
          · intro w_ hSw_; (try dsimp only at hSw_); go_simp
          refine wpAnyH_ready (rs := [1]) (by kernel_rfl) (by simp) ?_
          refine AllReadyH.cons (o := _) (by (simp only [List.getElem?_toArray, List.getElem?_cons_succ, List.getElem?_cons_zero]); rfl) (fun K_ hK_ => ?_) AllReadyH.nil
          rw [if_pos (by rfl)]
          go_simp
          go_at_call 71
          refine (factOk_any nm B m d ts _ hs (H'.out.up HBV)).mono ?_; rintro e V21 ⟨rfl, hb21⟩
          have HB21 := belowThen HBV hb21
          have BX21 := BXV.below hb21
          rw [hg]
          refine hK_.out _ _ ⟨BX21.cell 0, BX21.cell 1⟩ (fun hS2_ => ?_)
          clear hK_ hS_; have hS_ := hS2_; clear hS2_
          (try simp only [Act.put, List.setIfInBounds_toArray, List.set_cons_zero, List.set_cons_succ])
          refine takeV (i := 2) (v := .bool false) (by (simp only [List.getElem?_toArray, List.getElem?_cons_succ, List.getElem?_cons_zero]); rfl) (by kernel_rfl) (by kernel_rfl) (by kernel_rfl) (by rfl) (fun _ _ _ h => h) (Or.inl ⟨by rfl, ?_⟩) hS_ (by (simp only [List.setIfInBounds_toArray, List.set_cons_succ, List.set_cons_zero]); rfl) ?_
          · intro w_ hSw_; (try dsimp only at hSw_); go_simp
          refine takeV (i := 3) (v := .bool false) (by (simp only [List.getElem?_toArray, List.getElem?_cons_succ, List.getElem?_cons_zero]); rfl) (by kernel_rfl) (by kernel_rfl) (by kernel_rfl) (by rfl) (fun _ _ _ h => h) (Or.inl ⟨by rfl, ?_⟩) hS_ (by (simp only [List.setIfInBounds_toArray, List.set_cons_succ, List.set_cons_zero]); rfl) ?_
          · intro w_ hSw_; (try dsimp only at hSw_); go_simp
          refine takeV (i := 4) (v := .slice A n c) (by (simp only [List.getElem?_toArray, List.getElem?_cons_succ, List.getElem?_cons_zero]); rfl) (by kernel_rfl) (by kernel_rfl) (by kernel_rfl) (by rfl) (fun _ _ _ h => h) (Or.inl ⟨by rfl, ?_⟩) hS_ (by (simp only [List.setIfInBounds_toArray, List.set_cons_succ, List.set_cons_zero]); rfl) ?_
          · intro w_ hSw_; (try dsimp only at hSw_); go_simp
          refine takeV (i := 6) (v := .agg #[.string nm, .slice B m d]) (by (simp only [List.getElem?_toArray, List.getElem?_cons_succ, List.getElem?_cons_zero]); rfl) (by kernel_rfl) (by kernel_rfl) (by kernel_rfl) (by rfl) (fun _ _ _ h => h) (Or.inl ⟨by rfl, ?_⟩) hS_ (by (simp only [List.setIfInBounds_toArray, List.set_cons_succ, List.set_cons_zero]); rfl) ?_
          · intro w_ hSw_; (try dsimp only at hSw_); go_simp
          refine wpAnyH_ready (rs := [5]) (by kernel_rfl) (by simp) ?_
          refine AllReadyH.cons (o := _) (by (simp only [List.getElem?_toArray, List.getElem?_cons_succ, List.getElem?_cons_zero]); rfl) (fun K_ hK_ => ?_) AllReadyH.nil
          rw [if_pos (by rfl)]
          go_simp
          go_at_call 72
          refine (factList_any A n c _).mono ?_; rintro e V22 ⟨rfl, hb22⟩
          have HB22 := belowThen HB21 hb22
          have BX22 := BX21.below hb22
          refine hK_.out _ _ ⟨BX22.cell 0, BX22.cell 1⟩ (fun hS2_ => ?_)
          clear hK_ hS_; have hS_ := hS2_; clear hS2_
          (try simp only [Act.put, List.setIfInBounds_toArray, List.set_cons_zero, List.set_cons_succ])
          refine wpAnyH_ready (rs := [7]) (by kernel_rfl) (by simp) ?_
          refine AllReadyH.cons (o := _) (by (simp only [List.getElem?_toArray, List.getElem?_cons_succ, List.getElem?_cons_zero]); rfl) (fun K_ hK_ => ?_) AllReadyH.nil
          rw [if_pos (by rfl)]
          go_simp
          go_at_call 73
          refine (has_any A n c xs nm B m d ts _ (H.out.up AtomE.stays HB22) (H'.out.up HB22) HRS.out (by omega)).mono ?_; rintro e V23 ⟨rfl, hb23⟩
          have HB23 := belowThen HB22 hb23
          have BX23 := BX22.below hb23
          rw [hh]
          refine hK_.out _ _ ⟨BX23.cell 0, BX23.cell 1⟩ (fun hS2_ => ?_)
          clear hK_ hS_; have hS_ := hS2_; clear hS2_
          (try simp only [Act.put, List.setIfInBounds_toArray, List.set_cons_zero, List.set_cons_succ])
          refine takeV (i := 8) (v := .bool false) (by (simp only [List.getElem?_toArray, List.getElem?_cons_succ, List.getElem?_cons_zero]); rfl) (by kernel_rfl) (by kernel_rfl) (by kernel_rfl) (by rfl) (fun _ _ _ h => h) (Or.inl ⟨by rfl, ?_⟩) hS_ (by (simp only [List.setIfInBounds_toArray, List.set_cons_succ, List.set_cons_zero]); rfl) ?_
          · intro w_ hSw_; (try dsimp only at hSw_); go_simp
          refine takeV (i := 9) (v := .bool false) (by (simp only [List.getElem?_toArray, List.getElem?_cons_succ, List.getElem?_cons_zero]); rfl) (by kernel_rfl) (by kernel_rfl) (by kernel_rfl) (by rfl) (fun _ _ _ h => h) (Or.inl ⟨by rfl, ?_⟩) hS_ (by (simp only [List.setIfInBounds_toArray, List.set_cons_succ, List.set_cons_zero]); rfl) ?_
          · intro w_ hSw_; (try dsimp only at hSw_); go_simp
          refine takeV (i := 10) (v := .slice A n c) (by (simp only [List.getElem?_toArray, List.getElem?_cons_succ, List.getElem?_cons_zero]); rfl) (by kernel_rfl) (by kernel_rfl) (by kernel_rfl) (by rfl) (fun _ _ _ h => h) (Or.inl ⟨by rfl, ?_⟩) hS_ (by (simp only [List.setIfInBounds_toArray, List.set_cons_succ, List.set_cons_zero]); rfl) ?_
          · intro w_ hSw_; (try dsimp only at hSw_); go_simp
          refine takeV (i := 11) (v := .int .i64 (n : Int)) (by (simp only [List.getElem?_toArray, List.getElem?_cons_succ, List.getElem?_cons_zero]); rfl) (by kernel_rfl) (by kernel_rfl) (by kernel_rfl) (by rfl) (fun _ _ _ h => h) (Or.inl ⟨by rfl, ?_⟩) hS_ (by (simp only [List.setIfInBounds_toArray, List.set_cons_succ, List.set_cons_zero]); rfl) ?_
          · intro w_ hSw_; (try dsimp only at hSw_); go_simp
          refine takeV (i := 12) (v := .bool false) (by (simp only [List.getElem?_toArray, List.getElem?_cons_succ, List.getElem?_cons_zero]); rfl) (by kernel_rfl) (by kernel_rfl) (by kernel_rfl) (by rfl) (fun _ _ _ h => h) (Or.inl ⟨by rfl, ?_⟩) hS_ (by (simp only [List.setIfInBounds_toArray, List.set_cons_succ, List.set_cons_zero]); rfl) ?_
          · intro w_ hSw_; (try dsimp only at hSw_); go_simp
          refine takeV (i := 13) (v := .bool false) (by (simp only [List.getElem?_toArray, List.getElem?_cons_succ, List.getElem?_cons_zero]); rfl) (by kernel_rfl) (by kernel_rfl) (by kernel_rfl) (by rfl) (fun _ _ _ h => h) (Or.inl ⟨by rfl, ?_⟩) hS_ (by (simp only [List.setIfInBounds_toArray, List.set_cons_succ, List.set_cons_zero]); rfl) ?_
          · intro w_ hSw_; (try dsimp only at hSw_); go_simp
          refine wpAnyH_done (by kernel_rfl) ?_ _
          clear x1 x2 hS_
          have B3 := BX23; have HB3 := HB23
          obtain ⟨Lr, hLr⟩ : ∃ l, allR (mergeR rs [(nm, B, m, d, ts)]) = l := ⟨_, rfl⟩
          obtain ⟨P7, hP7⟩ : ∃ p, putL xs (nm, ts) = p := ⟨_, rfl⟩
          have E := Lib.hid (show addL xs (nm, ts) = (P7, true) by rw [addL_yes (a := (nm, ts)) HFX.out (by rw [hg, hh, decide_eq_true (by rw [HX.out]; omega)]; rfl), hP7])
          have PD := Lib.hid (show Lr.map rAt = P7 from by
            have h1 := merge_one rs (nm, B, m, d, ts) (by rw [HM.out]; exact hh)
            rw [← hLr, ← hP7]
            show ((mergeR rs [(nm, B, m, d, ts)]).map (·.1)).map rAt = _
            rw [List.map_map]
            unfold putL
            rw [hh, if_neg (by simp)]
            rw [HM.out] at h1
            exact h1)
          have SM := Lib.hid (show SmallAtoms Lr.length P7 from by
            have h1 := put_len xs (nm, ts)
            have h2 := HX.out
            have h3 := congrArg List.length PD.out
            rw [List.length_map] at h3
            rw [hP7] at h1
            refine facts_small ?_ (by omega)
            rw [← hP7]
            exact put_facts HF.out hg)
          have LR := Lib.hid hLr; clear hLr hP7 hg hh hli
          go_wp2_with fail
          have x1 : V23.drew.cell? ⟨w.heap.size, 0, none⟩ = some (.string nm) := B3.cell 0
          have x2 : V23.drew.cell? ⟨w.heap.size, 1, none⟩ = some (.slice B m d) := B3.cell 1
          have HBV : Below w.heap.size w V23.drew := HB3.drew
          have BXV : Blk V23.drew w.heap.size 26 #[.string nm, .slice B m d] := B3
          obtain ⟨V, hV⟩ : ∃ V, V23.drew = V := ⟨_, rfl⟩
          rw [hV] at x1 x2 HBV BXV
          refine wp_region_held_drew (S := fun W => W.cell? ⟨w.heap.size, 0, none⟩ = some (.string nm) ∧ W.cell? ⟨w.heap.size, 1, none⟩ = some (.slice B m d)) (by kernel_rfl) (by rw [hV]; exact ⟨x1, x2⟩) ?_
          rw [hV]
          intro hS_
          refine takeV (i := 0) (v := .slice A n c) (by (simp only [List.getElem?_toArray, List.getElem?_cons_zero]); rfl) (by kernel_rfl) (by kernel_rfl) (by kernel_rfl) (by rfl) (fun _ _ _ h => h) (Or.inl ⟨by rfl, ?_⟩) hS_ (by (simp only [List.setIfInBounds_toArray, List.set_cons_succ, List.set_cons_zero]); rfl) ?_
          · intro w_ hSw_; (try dsimp only at hSw_); go_simp
          refine takeV (i := 2) (v := .agg #[.string nm, .slice B m d]) (by (simp only [List.getElem?_toArray, List.getElem?_cons_succ, List.getElem?_cons_zero]); rfl) (by kernel_rfl) (by kernel_rfl) (by kernel_rfl) (by rfl) (fun _ _ _ h => h) (Or.inl ⟨by rfl, ?_⟩) hS_ (by (simp only [List.setIfInBounds_toArray, List.set_cons_succ, List.set_cons_zero]); rfl) ?_
          · intro w_ hSw_; (try dsimp only at hSw_); go_simp
          refine wpAnyH_ready (rs := [1, 3]) (by kernel_rfl) (by simp) ?_
          refine (AllReadyH.cons (o := _) (by (simp only [List.getElem?_toArray, List.getElem?_cons_succ, List.getElem?_cons_zero]); rfl) (fun K_ hK_ => ?_) (AllReadyH.cons (o := _) (by (simp only [List.getElem?_toArray, List.getElem?_cons_succ, List.getElem?_cons_zero]); rfl) (fun K_ hK_ => ?_) AllReadyH.nil))
          · rw [if_pos (by rfl)]
            go_simp
            go_at_call 72
            refine (factList_any A n c _).mono ?_; rintro e V1 ⟨rfl, hb1⟩
            have HB1 := belowThen HBV hb1
            have BX1 := BXV.below hb1
            refine hK_.out _ _ ⟨BX1.cell 0, BX1.cell 1⟩ (fun hS2_ => ?_)
            clear hK_ hS_; have hS_ := hS2_; clear hS2_
            (try simp only [Act.put, List.setIfInBounds_toArray, List.set_cons_zero, List.set_cons_succ])
            refine wpAnyH_ready (rs := [3]) (by kernel_rfl) (by simp) ?_
            refine AllReadyH.cons (o := _) (by (simp only [List.getElem?_toArray, List.getElem?_cons_succ, List.getElem?_cons_zero]); rfl) (fun K_ hK_ => ?_) AllReadyH.nil
            rw [if_pos (by rfl)]
            go_simp
            obtain ⟨V2, hV2⟩ : ∃ X, V1.alloc (.cells #[.string nm, .slice B m d] 26) = X := ⟨_, rfl⟩
            have HB2 : Below w.heap.size w V2 := by rw [← hV2]; exact HB1.alloc HB1.size _
            have BX2 : Blk V2 (w.heap.size) 26 #[.string nm, .slice B m d] := by rw [← hV2]; exact BX1.alloc _
            have TM2 : Blk V2 (V1.heap.size) 26 #[.string nm, .slice B m d] := by rw [← hV2]; exact Blk.new V1 _ _
            rw [hV2]; clear hV2
            refine hK_.out _ _ ⟨BX2.cell 0, BX2.cell 1⟩ (fun hS2_ => ?_)
            clear hK_ hS_; have hS_ := hS2_; clear hS2_
            (try simp only [Act.put, List.setIfInBounds_toArray, List.set_cons_zero, List.set_cons_succ])
            refine wpAnyH_ready (rs := [4]) (by kernel_rfl) (by simp) ?_
            refine AllReadyH.cons (o := _) (by (simp only [List.getElem?_toArray, List.getElem?_cons_succ, List.getElem?_cons_zero]); rfl) (fun K_ hK_ => ?_) AllReadyH.nil
            rw [if_pos (by rfl)]
            go_simp
            go_at_call 72
            refine (factList_any (some ⟨V1.heap.size, 0, none⟩) 1 1 _).mono ?_; rintro e V3 ⟨rfl, hb3⟩
            have HB3 := belowThen HB2 hb3
            have BX3 := BX2.below hb3
            have TM3 := TM2.below hb3
            refine hK_.out _ _ ⟨BX3.cell 0, BX3.cell 1⟩ (fun hS2_ => ?_)
            clear hK_ hS_; have hS_ := hS2_; clear hS2_
            (try simp only [Act.put, List.setIfInBounds_toArray, List.set_cons_zero, List.set_cons_succ])
            refine wpAnyH_ready (rs := [5]) (by kernel_rfl) (by simp) ?_
            refine AllReadyH.cons (o := _) (by (simp only [List.getElem?_toArray, List.getElem?_cons_succ, List.getElem?_cons_zero]); rfl) (fun K_ hK_ => ?_) AllReadyH.nil
            rw [if_pos (by rfl)]
            go_simp
            go_at_call 75
            refine (with_any A (some ⟨V1.heap.size, 0, none⟩) n c 1 1 rs [(nm, B, m, d, ts)] _ (RR.out.keep RefE.stays (fun _ _ hq => HB3.cell hq) (Nat.le_refl _) HB3.size) (one_refs TM3 hs (H'.out.up HB3)) hmax).mono ?_; rintro e V4 ⟨A6, c6, rfl, hI6, hb4, -⟩
            have HB4 := belowThen HB3 hb4
            have BX4 := BX3.below hb4
            have TM4 := TM3.below hb4
            rw [LR.out] at hI6 ⊢
            have hI7 := hI6.atoms
            rw [PD.out] at hI7
            refine hK_.out _ _ ⟨BX4.cell 0, BX4.cell 1⟩ (fun hS2_ => ?_)
            clear hK_ hS_; have hS_ := hS2_; clear hS2_
            (try simp only [Act.put, List.setIfInBounds_toArray, List.set_cons_zero, List.set_cons_succ])
            refine takeV (i := 6) (v := .slice A6 Lr.length c6) (by (simp only [List.getElem?_toArray, List.getElem?_cons_succ, List.getElem?_cons_zero]); rfl) (by kernel_rfl) (by kernel_rfl) (by kernel_rfl) (by rfl) (fun _ _ _ h => h) (Or.inl ⟨by rfl, ?_⟩) hS_ (by (simp only [List.setIfInBounds_toArray, List.set_cons_succ, List.set_cons_zero]); rfl) ?_
            · intro w_ hSw_; (try dsimp only at hSw_); go_simp; rw [field_items]; rfl
            refine wpAnyH_ready (rs := [7]) (by kernel_rfl) (by simp) ?_
            refine AllReadyH.cons (o := _) (by (simp only [List.getElem?_toArray, List.getElem?_cons_succ, List.getElem?_cons_zero]); rfl) (fun K_ hK_ => ?_) AllReadyH.nil
            rw [if_pos (by rfl)]
            go_simp
            go_at_call 74
            refine (copyAtoms_any A6 Lr.length c6 P7 _ hI7 SM.out).mono ?_; rintro e V5 ⟨A8, c8, rs8, rfl, ho8, hm8, hb5⟩
            have HB5 := belowThen HB4 hb5
            have BX5 := BX4.below hb5
            have TM5 := TM4.below hb5
            have O8 := Lib.hid ho8; have M8 := Lib.hid hm8; clear ho8 hm8
            refine hK_.out _ _ ⟨BX5.cell 0, BX5.cell 1⟩ (fun hS2_ => ?_)
            clear hK_ hS_; have hS_ := hS2_; clear hS2_
            (try simp only [Act.put, List.setIfInBounds_toArray, List.set_cons_zero, List.set_cons_succ])
            refine takeV (i := 8) (v := .slice A8 P7.length c8) (by (simp only [List.getElem?_toArray, List.getElem?_cons_succ, List.getElem?_cons_zero]); rfl) (by kernel_rfl) (by kernel_rfl) (by kernel_rfl) (by rfl) (fun _ _ _ h => h) (Or.inl ⟨by rfl, ?_⟩) hS_ (by (simp only [List.setIfInBounds_toArray, List.set_cons_succ, List.set_cons_zero]); rfl) ?_
            · intro w_ hSw_; (try dsimp only at hSw_); go_simp
            refine takeV (i := 9) (v := .bool true) (by (simp only [List.getElem?_toArray, List.getElem?_cons_succ, List.getElem?_cons_zero]); rfl) (by kernel_rfl) (by kernel_rfl) (by kernel_rfl) (by rfl) (fun _ _ _ h => h) (Or.inl ⟨by rfl, ?_⟩) hS_ (by (simp only [List.setIfInBounds_toArray, List.set_cons_succ, List.set_cons_zero]); rfl) ?_
            · intro w_ hSw_; (try dsimp only at hSw_); go_simp
            refine wpAnyH_done (by kernel_rfl) ?_ _
            clear x1 x2 hS_
            go_wp2
            go_ret2; exact own_copy E.out O8.out M8.out HB4.size HB5
          · rw [if_pos (by rfl)]
            go_simp
            obtain ⟨V6, hV6⟩ : ∃ X, V.alloc (.cells #[.string nm, .slice B m d] 26) = X := ⟨_, rfl⟩
            have HB6 : Below w.heap.size w V6 := by rw [← hV6]; exact HBV.alloc HBV.size _
            have BX6 : Blk V6 (w.heap.size) 26 #[.string nm, .slice B m d] := by rw [← hV6]; exact BXV.alloc _
            have TM6 : Blk V6 (V.heap.size) 26 #[.string nm, .slice B m d] := by rw [← hV6]; exact Blk.new V _ _
            rw [hV6]; clear hV6
            refine hK_.out _ _ ⟨BX6.cell 0, BX6.cell 1⟩ (fun hS2_ => ?_)
            clear hK_ hS_; have hS_ := hS2_; clear hS2_
            (try simp only [Act.put, List.setIfInBounds_toArray, List.set_cons_zero, List.set_cons_succ])
            refine wpAnyH_ready (rs := [1]) (by kernel_rfl) (by simp) ?_
            refine AllReadyH.cons (o := _) (by (simp only [List.getElem?_toArray, List.getElem?_cons_succ, List.getElem?_cons_zero]); rfl) (fun K_ hK_ => ?_) AllReadyH.nil
            rw [if_pos (by rfl)]
            go_simp
            go_at_call 72
            refine (factList_any A n c _).mono ?_; rintro e V7 ⟨rfl, hb7⟩
            have HB7 := belowThen HB6 hb7
            have BX7 := BX6.below hb7
            have TM7 := TM6.below hb7
            refine hK_.out _ _ ⟨BX7.cell 0, BX7.cell 1⟩ (fun hS2_ => ?_)
            clear hK_ hS_; have hS_ := hS2_; clear hS2_
            (try simp only [Act.put, List.setIfInBounds_toArray, List.set_cons_zero, List.set_cons_succ])
            refine wpAnyH_ready (rs := [4]) (by kernel_rfl) (by simp) ?_
            refine AllReadyH.cons (o := _) (by (simp only [List.getElem?_toArray, List.getElem?_cons_succ, List.getElem?_cons_zero]); rfl) (fun K_ hK_ => ?_) AllReadyH.nil
            rw [if_pos (by rfl)]
            go_simp
            go_at_call 72
            refine (factList_any (some ⟨V.heap.size, 0, none⟩) 1 1 _).mono ?_; rintro e V8 ⟨rfl, hb8⟩
            have HB8 := belowThen HB7 hb8
            have BX8 := BX7.below hb8
            have TM8 := TM7.below hb8
            refine hK_.out _ _ ⟨BX8.cell 0, BX8.cell 1⟩ (fun hS2_ => ?_)
            clear hK_ hS_; have hS_ := hS2_; clear hS2_
            (try simp only [Act.put, List.setIfInBounds_toArray, List.set_cons_zero, List.set_cons_succ])
            refine wpAnyH_ready (rs := [5]) (by kernel_rfl) (by simp) ?_
            refine AllReadyH.cons (o := _) (by (simp only [List.getElem?_toArray, List.getElem?_cons_succ, List.getElem?_cons_zero]); rfl) (fun K_ hK_ => ?_) AllReadyH.nil
            rw [if_pos (by rfl)]
            go_simp
            go_at_call 75
            refine (with_any A (some ⟨V.heap.size, 0, none⟩) n c 1 1 rs [(nm, B, m, d, ts)] _ (RR.out.keep RefE.stays (fun _ _ hq => HB8.cell hq) (Nat.le_refl _) HB8.size) (one_refs TM8 hs (H'.out.up HB8)) hmax).mono ?_; rintro e V9 ⟨A6, c6, rfl, hI6, hb9, -⟩
            have HB9 := belowThen HB8 hb9
            have BX9 := BX8.below hb9
            have TM9 := TM8.below hb9
            rw [LR.out] at hI6 ⊢
            have hI7 := hI6.atoms
            rw [PD.out] at hI7
            refine hK_.out _ _ ⟨BX9.cell 0, BX9.cell 1⟩ (fun hS2_ => ?_)
            clear hK_ hS_; have hS_ := hS2_; clear hS2_
            (try simp only [Act.put, List.setIfInBounds_toArray, List.set_cons_zero, List.set_cons_succ])
            refine takeV (i := 6) (v := .slice A6 Lr.length c6) (by (simp only [List.getElem?_toArray, List.getElem?_cons_succ, List.getElem?_cons_zero]); rfl) (by kernel_rfl) (by kernel_rfl) (by kernel_rfl) (by rfl) (fun _ _ _ h => h) (Or.inl ⟨by rfl, ?_⟩) hS_ (by (simp only [List.setIfInBounds_toArray, List.set_cons_succ, List.set_cons_zero]); rfl) ?_
            · intro w_ hSw_; (try dsimp only at hSw_); go_simp; rw [field_items]; rfl
            refine wpAnyH_ready (rs := [7]) (by kernel_rfl) (by simp) ?_
            refine AllReadyH.cons (o := _) (by (simp only [List.getElem?_toArray, List.getElem?_cons_succ, List.getElem?_cons_zero]); rfl) (fun K_ hK_ => ?_) AllReadyH.nil
            rw [if_pos (by rfl)]
            go_simp
            go_at_call 74
            refine (copyAtoms_any A6 Lr.length c6 P7 _ hI7 SM.out).mono ?_; rintro e V10 ⟨A8, c8, rs8, rfl, ho8, hm8, hb10⟩
            have HB10 := belowThen HB9 hb10
            have BX10 := BX9.below hb10
            have TM10 := TM9.below hb10
            have O8 := Lib.hid ho8; have M8 := Lib.hid hm8; clear ho8 hm8
            refine hK_.out _ _ ⟨BX10.cell 0, BX10.cell 1⟩ (fun hS2_ => ?_)
            clear hK_ hS_; have hS_ := hS2_; clear hS2_
            (try simp only [Act.put, List.setIfInBounds_toArray, List.set_cons_zero, List.set_cons_succ])
            refine takeV (i := 8) (v := .slice A8 P7.length c8) (by (simp only [List.getElem?_toArray, List.getElem?_cons_succ, List.getElem?_cons_zero]); rfl) (by kernel_rfl) (by kernel_rfl) (by kernel_rfl) (by rfl) (fun _ _ _ h => h) (Or.inl ⟨by rfl, ?_⟩) hS_ (by (simp only [List.setIfInBounds_toArray, List.set_cons_succ, List.set_cons_zero]); rfl) ?_
            · intro w_ hSw_; (try dsimp only at hSw_); go_simp
            refine takeV (i := 9) (v := .bool true) (by (simp only [List.getElem?_toArray, List.getElem?_cons_succ, List.getElem?_cons_zero]); rfl) (by kernel_rfl) (by kernel_rfl) (by kernel_rfl) (by rfl) (fun _ _ _ h => h) (Or.inl ⟨by rfl, ?_⟩) hS_ (by (simp only [List.setIfInBounds_toArray, List.set_cons_succ, List.set_cons_zero]); rfl) ?_
            · intro w_ hSw_; (try dsimp only at hSw_); go_simp
            refine wpAnyH_done (by kernel_rfl) ?_ _
            clear x1 x2 hS_
            go_wp2
            go_ret2; exact own_copy E.out O8.out M8.out HB9.size HB10
      · have tok := True.intro
        refine wp_region_held_drew (S := fun W => W.cell? ⟨w.heap.size, 0, none⟩ = some (.string nm) ∧ W.cell? ⟨w.heap.size, 1, none⟩ = some (.slice B m d)) (by kernel_rfl) (by rw [hV]; exact ⟨x1, x2⟩) ?_
        rw [hV]
        intro hS_
        refine takeV (i := 0) (v := .agg #[.string nm, .slice B m d]) (by (simp only [List.getElem?_toArray, List.getElem?_cons_zero]); rfl) (by kernel_rfl) (by kernel_rfl) (by kernel_rfl) (by rfl) (fun _ _ _ h => h) (Or.inl ⟨by rfl, ?_⟩) hS_ (by (simp only [List.setIfInBounds_toArray, List.set_cons_succ, List.set_cons_zero]); rfl) ?_
        · intro w_ hSw_; (try dsimp only at hSw_); go_simp
        refine wpAnyH_ready (rs := [1]) (by kernel_rfl) (by simp) ?_
        refine AllReadyH.cons (o := _) (by (simp only [List.getElem?_toArray, List.getElem?_cons_succ, List.getElem?_cons_zero]); rfl) (fun K_ hK_ => ?_) AllReadyH.nil
        rw [if_pos (by rfl)]
        go_simp
        go_at_call 71
        refine (factOk_any nm B m d ts _ hs (H'.out.up HBV)).mono ?_; rintro e V21 ⟨rfl, hb21⟩
        have HB21 := belowThen HBV hb21
        have BX21 := BXV.below hb21
        rw [hg]
        refine hK_.out _ _ ⟨BX21.cell 0, BX21.cell 1⟩ (fun hS2_ => ?_)
        clear hK_ hS_; have hS_ := hS2_; clear hS2_
        (try simp only [Act.put, List.setIfInBounds_toArray, List.set_cons_zero, List.set_cons_succ])
        refine takeV (i := 2) (v := .bool false) (by (simp only [List.getElem?_toArray, List.getElem?_cons_succ, List.getElem?_cons_zero]); rfl) (by kernel_rfl) (by kernel_rfl) (by kernel_rfl) (by rfl) (fun _ _ _ h => h) (Or.inl ⟨by rfl, ?_⟩) hS_ (by (simp only [List.setIfInBounds_toArray, List.set_cons_succ, List.set_cons_zero]); rfl) ?_
        · intro w_ hSw_; (try dsimp only at hSw_); go_simp
        refine takeV (i := 3) (v := .bool false) (by (simp only [List.getElem?_toArray, List.getElem?_cons_succ, List.getElem?_cons_zero]); rfl) (by kernel_rfl) (by kernel_rfl) (by kernel_rfl) (by rfl) (fun _ _ _ h => h) (Or.inl ⟨by rfl, ?_⟩) hS_ (by (simp only [List.setIfInBounds_toArray, List.set_cons_succ, List.set_cons_zero]); rfl) ?_
        · intro w_ hSw_; (try dsimp only at hSw_); go_simp
        refine takeV (i := 4) (v := .slice A n c) (by (simp only [List.getElem?_toArray, List.getElem?_cons_succ, List.getElem?_cons_zero]); rfl) (by kernel_rfl) (by kernel_rfl) (by kernel_rfl) (by rfl) (fun _ _ _ h => h) (Or.inl ⟨by rfl, ?_⟩) hS_ (by (simp only [List.setIfInBounds_toArray, List.set_cons_succ, List.set_cons_zero]); rfl) ?_
        · intro w_ hSw_; (try dsimp only at hSw_); go_simp
        refine takeV (i := 6) (v := .agg #[.string nm, .slice B m d]) (by (simp only [List.getElem?_toArray, List.getElem?_cons_succ, List.getElem?_cons_zero]); rfl) (by kernel_rfl) (by kernel_rfl) (by kernel_rfl) (by rfl) (fun _ _ _ h => h) (Or.inl ⟨by rfl, ?_⟩) hS_ (by (simp only [List.setIfInBounds_toArray, List.set_cons_succ, List.set_cons_zero]); rfl) ?_
        · intro w_ hSw_; (try dsimp only at hSw_); go_simp
        refine wpAnyH_ready (rs := [5]) (by kernel_rfl) (by simp) ?_
        refine AllReadyH.cons (o := _) (by (simp only [List.getElem?_toArray, List.getElem?_cons_succ, List.getElem?_cons_zero]); rfl) (fun K_ hK_ => ?_) AllReadyH.nil
        rw [if_pos (by rfl)]
        go_simp
        go_at_call 72
        refine (factList_any A n c _).mono ?_; rintro e V22 ⟨rfl, hb22⟩
        have HB22 := belowThen HB21 hb22
        have BX22 := BX21.below hb22
        refine hK_.out _ _ ⟨BX22.cell 0, BX22.cell 1⟩ (fun hS2_ => ?_)
        clear hK_ hS_; have hS_ := hS2_; clear hS2_
        (try simp only [Act.put, List.setIfInBounds_toArray, List.set_cons_zero, List.set_cons_succ])
        refine wpAnyH_ready (rs := [7]) (by kernel_rfl) (by simp) ?_
        refine AllReadyH.cons (o := _) (by (simp only [List.getElem?_toArray, List.getElem?_cons_succ, List.getElem?_cons_zero]); rfl) (fun K_ hK_ => ?_) AllReadyH.nil
        rw [if_pos (by rfl)]
        go_simp
        go_at_call 73
        refine (has_any A n c xs nm B m d ts _ (H.out.up AtomE.stays HB22) (H'.out.up HB22) HRS.out (by omega)).mono ?_; rintro e V23 ⟨rfl, hb23⟩
        have HB23 := belowThen HB22 hb23
        have BX23 := BX22.below hb23
        rw [hh]
        refine hK_.out _ _ ⟨BX23.cell 0, BX23.cell 1⟩ (fun hS2_ => ?_)
        clear hK_ hS_; have hS_ := hS2_; clear hS2_
        (try simp only [Act.put, List.setIfInBounds_toArray, List.set_cons_zero, List.set_cons_succ])
        refine takeV (i := 8) (v := .bool true) (by (simp only [List.getElem?_toArray, List.getElem?_cons_succ, List.getElem?_cons_zero]); rfl) (by kernel_rfl) (by kernel_rfl) (by kernel_rfl) (by rfl) (fun _ _ _ h => h) (Or.inl ⟨by rfl, ?_⟩) hS_ (by (simp only [List.setIfInBounds_toArray, List.set_cons_succ, List.set_cons_zero]); rfl) ?_
        · intro w_ hSw_; (try dsimp only at hSw_); go_simp
        refine takeV (i := 9) (v := .bool true) (by (simp only [List.getElem?_toArray, List.getElem?_cons_succ, List.getElem?_cons_zero]); rfl) (by kernel_rfl) (by kernel_rfl) (by kernel_rfl) (by rfl) (fun _ _ _ h => h) (Or.inl ⟨by rfl, ?_⟩) hS_ (by (simp only [List.setIfInBounds_toArray, List.set_cons_succ, List.set_cons_zero]); rfl) ?_
        · intro w_ hSw_; (try dsimp only at hSw_); go_simp
        refine takeV (i := 10) (v := undef) (by (simp only [List.getElem?_toArray, List.getElem?_cons_succ, List.getElem?_cons_zero]); rfl) (by kernel_rfl) (by kernel_rfl) (by kernel_rfl) (by rfl) (fun _ _ _ h => h) (Or.inr ⟨by rfl, rfl⟩) hS_ (by (simp only [List.setIfInBounds_toArray, List.set_cons_succ, List.set_cons_zero]); rfl) ?_
        refine takeV (i := 11) (v := undef) (by (simp only [List.getElem?_toArray, List.getElem?_cons_succ, List.getElem?_cons_zero]); rfl) (by kernel_rfl) (by kernel_rfl) (by kernel_rfl) (by rfl) (fun _ _ _ h => h) (Or.inr ⟨by rfl, rfl⟩) hS_ (by (simp only [List.setIfInBounds_toArray, List.set_cons_succ, List.set_cons_zero]); rfl) ?_
        refine takeV (i := 12) (v := undef) (by (simp only [List.getElem?_toArray, List.getElem?_cons_succ, List.getElem?_cons_zero]); rfl) (by kernel_rfl) (by kernel_rfl) (by kernel_rfl) (by rfl) (fun _ _ _ h => h) (Or.inr ⟨by rfl, rfl⟩) hS_ (by (simp only [List.setIfInBounds_toArray, List.set_cons_succ, List.set_cons_zero]); rfl) ?_
        refine takeV (i := 13) (v := .bool true) (by (simp only [List.getElem?_toArray, List.getElem?_cons_succ, List.getElem?_cons_zero]); rfl) (by kernel_rfl) (by kernel_rfl) (by kernel_rfl) (by rfl) (fun _ _ _ h => h) (Or.inl ⟨by rfl, ?_⟩) hS_ (by (simp only [List.setIfInBounds_toArray, List.set_cons_succ, List.set_cons_zero]); rfl) ?_
        · intro w_ hSw_; (try dsimp only at hSw_); go_simp
        refine wpAnyH_done (by kernel_rfl) ?_ _
        clear x1 x2 hS_
        have B3 := BX23; have HB3 := HB23
        have E := Lib.hid (addL_as (a := (nm, ts)) HFX.out (by rw [hg, hh]; rfl))
        go_wp2_with fail
        refine (copyAtoms_any A n c xs _ (H.out.up AtomE.stays HB3) HS.out).mono ?_; rintro e w5 ⟨A5, c5, rs5, rfl, ho5, hm5, hb5⟩
        have O5 := Lib.hid ho5; have M5 := Lib.hid hm5; clear ho5 hm5
        go_wp2
        go_ret2; exact own_copy E.out O5.out M5.out HB3.size (belowThen HB3 hb5)

set_option maxRecDepth 100000 in
set_option maxHeartbeats 8000000 in
theorem implFactsGone_any (A : Option Addr) (n c : Nat) (xs : List At) (nm : ByteArray) (B : Option Addr) (m d : Nat) (ts : List Tm) (w : World) (h : IsAtoms w 0 w.heap.size A n c xs) (hs : nm.size ≤ maxLen) (h' : IsTerms w 0 w.heap.size B m d ts) :
    Calls Try.prog 22 #[.slice A n c, .agg #[.string nm, .slice B m d]] w (OwnBPost (goneL xs (nm, ts)) w) := by
  have H := Lib.hid h; have H' := Lib.hid h'; clear h h'
  have HX := Lib.hid H.out.1
  have hw1 := below1 w (.cells #[.string nm, .slice B m d] 26)
  have B1 := Blk.new w 26 #[.string nm, .slice B m d]
  go_enter Try.func22, Try.ntmps22
  go_wp2_with fail
  refine (implFactsOk_any A n c xs _ (H.out.up AtomE.stays hw1)).mono ?_; rintro e w2 ⟨rfl, hb2⟩
  have HB2 := belowThen hw1 hb2
  have B2 := B1.below hb2
  have b1 : w2.cell? ⟨w.heap.size, 0, none⟩ = some (.string nm) := B2.cell 0
  have b2 : w2.cell? ⟨w.heap.size, 1, none⟩ = some (.slice B m d) := B2.cell 1
  by_cases hx : (!factsB 300 xs) = true
  · have E := Lib.hid (goneL_no (a := (nm, ts)) hx)
    go_wp2
    go_ret2
    rw [E.out]
    exact ⟨none, 0, [], rfl, ⟨rfl, Nat.le_refl _, Nat.zero_le _, fun h0 => absurd h0 (by simp), OwnIn.nil⟩, rfl, HB2⟩
  · have hx' : (!factsB 300 xs) = false := by simpa using hx
    clear hx
    have hF := facts_all (show factsB 300 xs = true by simpa using hx')
    have hr := factsB_rises (show factsB 300 xs = true by simpa using hx')
    have hl300 := factsB_len (show factsB 300 xs = true by simpa using hx')
    rw [HX.out] at hl300
    have HF := Lib.hid hF; have HRS := Lib.hid hr; clear hF hr
    have HS := Lib.hid (facts_small HF.out (show n ≤ 1048576 by omega))
    have HFX := Lib.hid hx'
    obtain ⟨rs, hrs, hm⟩ := refs_of H.out
    have RR := Lib.hid hrs; have HM := Lib.hid hm; clear hm
    have hmax : rs.length + 1 ≤ 1099511627776 := by rw [hrs.1]; omega
    clear hrs
    go_wp2_with fail
    refine (implFactsHas_any A n c xs nm B m d ts _ hs (H.out.up AtomE.stays HB2) (H'.out.up HB2)).mono ?_; rintro e w3 ⟨rfl, hb3⟩
    have HB3 := belowThen HB2 hb3
    have B3 := B2.below hb3
    clear b1 b2
    have b1 : w3.cell? ⟨w.heap.size, 0, none⟩ = some (.string nm) := B3.cell 0
    have b2 : w3.cell? ⟨w.heap.size, 1, none⟩ = some (.slice B m d) := B3.cell 1
    have hfb : hasFB xs (nm, ts) = (factB (nm, ts) && hasB xs (nm, ts)) := by unfold hasFB; rw [show factsB 300 xs = true by simpa using HFX.out]; rfl
    cases hq : hasFB xs (nm, ts)
    · have hnn : (!false) = true := rfl
      rw [hq] at hfb
      have HFB := Lib.hid hfb; clear hfb hq
      have E := Lib.hid (goneL_as (a := (nm, ts)) HFX.out (by rw [← HFB.out]))
      go_wp2_with fail
      refine (copyAtoms_any A n c xs _ (H.out.up AtomE.stays HB3) HS.out).mono ?_; rintro e w5 ⟨A5, c5, rs5, rfl, ho5, hm5, hb5⟩
      have O5 := Lib.hid ho5; have M5 := Lib.hid hm5; clear ho5 hm5
      go_wp2
      go_ret2; exact own_copy E.out O5.out M5.out HB3.size (belowThen HB3 hb5)
    · rw [hq] at hfb
      have HFB := Lib.hid hfb; clear hfb hq
      obtain ⟨Lr, hLr⟩ : ∃ l, selR 0 (mergeR rs [(nm, B, m, d, ts)]) = l := ⟨_, rfl⟩
      obtain ⟨P7, hP7⟩ : ∃ p, xs.filter (fun y => !hasB [(nm, ts)] y) = p := ⟨_, rfl⟩
      have E := Lib.hid (show goneL xs (nm, ts) = (P7, true) by rw [goneL_yes (a := (nm, ts)) HFX.out HFB.out.symm, hP7])
      have PD := Lib.hid (show Lr.map rAt = P7 from by
        have h1 := (sel_first rs [(nm, B, m, d, ts)] (by rw [HM.out]; exact HRS.out) rfl).1
        rw [← hLr, ← hP7, h1, ← HM.out, List.filter_map]
        rfl)
      have SM := Lib.hid (show SmallAtoms Lr.length P7 from by
        have h1 := List.length_filter_le (fun y => !hasB [(nm, ts)] y) xs
        have h2 := HX.out
        have h3 := congrArg List.length PD.out
        rw [List.length_map] at h3
        rw [hP7] at h1
        refine facts_small (fun a ha => HF.out a ?_) (by omega)
        rw [← hP7] at ha
        exact (List.mem_filter.1 ha).1)
      have LR := Lib.hid hLr; clear hLr hP7
      go_wp2_with fail
      clear b1 b2
      have x1 : w3.drew.cell? ⟨w.heap.size, 0, none⟩ = some (.string nm) := B3.cell 0
      have x2 : w3.drew.cell? ⟨w.heap.size, 1, none⟩ = some (.slice B m d) := B3.cell 1
      have HBV : Below w.heap.size w w3.drew := HB3.drew
      have BXV : Blk w3.drew w.heap.size 26 #[.string nm, .slice B m d] := B3
      obtain ⟨V, hV⟩ : ∃ V, w3.drew = V := ⟨_, rfl⟩
      rw [hV] at x1 x2 HBV BXV
      refine wp_region_held_drew (S := fun W => W.cell? ⟨w.heap.size, 0, none⟩ = some (.string nm) ∧ W.cell? ⟨w.heap.size, 1, none⟩ = some (.slice B m d)) (by kernel_rfl) (by rw [hV]; exact ⟨x1, x2⟩) ?_
      rw [hV]
      intro hS_
      refine takeV (i := 0) (v := .slice A n c) (by (simp only [List.getElem?_toArray, List.getElem?_cons_zero]); rfl) (by kernel_rfl) (by kernel_rfl) (by kernel_rfl) (by rfl) (fun _ _ _ h => h) (Or.inl ⟨by rfl, ?_⟩) hS_ (by (simp only [List.setIfInBounds_toArray, List.set_cons_succ, List.set_cons_zero]); rfl) ?_
      · intro w_ hSw_; (try dsimp only at hSw_); go_simp
      refine takeV (i := 2) (v := .agg #[.string nm, .slice B m d]) (by (simp only [List.getElem?_toArray, List.getElem?_cons_succ, List.getElem?_cons_zero]); rfl) (by kernel_rfl) (by kernel_rfl) (by kernel_rfl) (by rfl) (fun _ _ _ h => h) (Or.inl ⟨by rfl, ?_⟩) hS_ (by (simp only [List.setIfInBounds_toArray, List.set_cons_succ, List.set_cons_zero]); rfl) ?_
      · intro w_ hSw_; (try dsimp only at hSw_); go_simp
      refine wpAnyH_ready (rs := [1, 3]) (by kernel_rfl) (by simp) ?_
      refine (AllReadyH.cons (o := _) (by (simp only [List.getElem?_toArray, List.getElem?_cons_succ, List.getElem?_cons_zero]); rfl) (fun K_ hK_ => ?_) (AllReadyH.cons (o := _) (by (simp only [List.getElem?_toArray, List.getElem?_cons_succ, List.getElem?_cons_zero]); rfl) (fun K_ hK_ => ?_) AllReadyH.nil))
      · rw [if_pos (by rfl)]
        go_simp
        go_at_call 72
        refine (factList_any A n c _).mono ?_; rintro e V1 ⟨rfl, hb1⟩
        have HB1 := belowThen HBV hb1
        have BX1 := BXV.below hb1
        refine hK_.out _ _ ⟨BX1.cell 0, BX1.cell 1⟩ (fun hS2_ => ?_)
        clear hK_ hS_; have hS_ := hS2_; clear hS2_
        (try simp only [Act.put, List.setIfInBounds_toArray, List.set_cons_zero, List.set_cons_succ])
        refine wpAnyH_ready (rs := [3]) (by kernel_rfl) (by simp) ?_
        refine AllReadyH.cons (o := _) (by (simp only [List.getElem?_toArray, List.getElem?_cons_succ, List.getElem?_cons_zero]); rfl) (fun K_ hK_ => ?_) AllReadyH.nil
        rw [if_pos (by rfl)]
        go_simp
        obtain ⟨V2, hV2⟩ : ∃ X, V1.alloc (.cells #[.string nm, .slice B m d] 26) = X := ⟨_, rfl⟩
        have HB2 : Below w.heap.size w V2 := by rw [← hV2]; exact HB1.alloc HB1.size _
        have BX2 : Blk V2 (w.heap.size) 26 #[.string nm, .slice B m d] := by rw [← hV2]; exact BX1.alloc _
        have TM2 : Blk V2 (V1.heap.size) 26 #[.string nm, .slice B m d] := by rw [← hV2]; exact Blk.new V1 _ _
        rw [hV2]; clear hV2
        refine hK_.out _ _ ⟨BX2.cell 0, BX2.cell 1⟩ (fun hS2_ => ?_)
        clear hK_ hS_; have hS_ := hS2_; clear hS2_
        (try simp only [Act.put, List.setIfInBounds_toArray, List.set_cons_zero, List.set_cons_succ])
        refine wpAnyH_ready (rs := [4]) (by kernel_rfl) (by simp) ?_
        refine AllReadyH.cons (o := _) (by (simp only [List.getElem?_toArray, List.getElem?_cons_succ, List.getElem?_cons_zero]); rfl) (fun K_ hK_ => ?_) AllReadyH.nil
        rw [if_pos (by rfl)]
        go_simp
        go_at_call 72
        refine (factList_any (some ⟨V1.heap.size, 0, none⟩) 1 1 _).mono ?_; rintro e V3 ⟨rfl, hb3⟩
        have HB3 := belowThen HB2 hb3
        have BX3 := BX2.below hb3
        have TM3 := TM2.below hb3
        refine hK_.out _ _ ⟨BX3.cell 0, BX3.cell 1⟩ (fun hS2_ => ?_)
        clear hK_ hS_; have hS_ := hS2_; clear hS2_
        (try simp only [Act.put, List.setIfInBounds_toArray, List.set_cons_zero, List.set_cons_succ])
        refine wpAnyH_ready (rs := [5]) (by kernel_rfl) (by simp) ?_
        refine AllReadyH.cons (o := _) (by (simp only [List.getElem?_toArray, List.getElem?_cons_succ, List.getElem?_cons_zero]); rfl) (fun K_ hK_ => ?_) AllReadyH.nil
        rw [if_pos (by rfl)]
        go_simp
        go_at_call 84
        refine (without_any A (some ⟨V1.heap.size, 0, none⟩) n c 1 1 rs [(nm, B, m, d, ts)] _ (RR.out.keep RefE.stays (fun _ _ hq => HB3.cell hq) (Nat.le_refl _) HB3.size) (one_refs TM3 hs (H'.out.up HB3)) hmax).mono ?_; rintro e V4 ⟨A6, c6, rfl, hI6, hb4, -⟩
        have HB4 := belowThen HB3 hb4
        have BX4 := BX3.below hb4
        have TM4 := TM3.below hb4
        rw [LR.out] at hI6 ⊢
        have hI7 := hI6.atoms
        rw [PD.out] at hI7
        refine hK_.out _ _ ⟨BX4.cell 0, BX4.cell 1⟩ (fun hS2_ => ?_)
        clear hK_ hS_; have hS_ := hS2_; clear hS2_
        (try simp only [Act.put, List.setIfInBounds_toArray, List.set_cons_zero, List.set_cons_succ])
        refine takeV (i := 6) (v := .slice A6 Lr.length c6) (by (simp only [List.getElem?_toArray, List.getElem?_cons_succ, List.getElem?_cons_zero]); rfl) (by kernel_rfl) (by kernel_rfl) (by kernel_rfl) (by rfl) (fun _ _ _ h => h) (Or.inl ⟨by rfl, ?_⟩) hS_ (by (simp only [List.setIfInBounds_toArray, List.set_cons_succ, List.set_cons_zero]); rfl) ?_
        · intro w_ hSw_; (try dsimp only at hSw_); go_simp; rw [field_items]; rfl
        refine wpAnyH_ready (rs := [7]) (by kernel_rfl) (by simp) ?_
        refine AllReadyH.cons (o := _) (by (simp only [List.getElem?_toArray, List.getElem?_cons_succ, List.getElem?_cons_zero]); rfl) (fun K_ hK_ => ?_) AllReadyH.nil
        rw [if_pos (by rfl)]
        go_simp
        go_at_call 74
        refine (copyAtoms_any A6 Lr.length c6 P7 _ hI7 SM.out).mono ?_; rintro e V5 ⟨A8, c8, rs8, rfl, ho8, hm8, hb5⟩
        have HB5 := belowThen HB4 hb5
        have BX5 := BX4.below hb5
        have TM5 := TM4.below hb5
        have O8 := Lib.hid ho8; have M8 := Lib.hid hm8; clear ho8 hm8
        refine hK_.out _ _ ⟨BX5.cell 0, BX5.cell 1⟩ (fun hS2_ => ?_)
        clear hK_ hS_; have hS_ := hS2_; clear hS2_
        (try simp only [Act.put, List.setIfInBounds_toArray, List.set_cons_zero, List.set_cons_succ])
        refine takeV (i := 8) (v := .slice A8 P7.length c8) (by (simp only [List.getElem?_toArray, List.getElem?_cons_succ, List.getElem?_cons_zero]); rfl) (by kernel_rfl) (by kernel_rfl) (by kernel_rfl) (by rfl) (fun _ _ _ h => h) (Or.inl ⟨by rfl, ?_⟩) hS_ (by (simp only [List.setIfInBounds_toArray, List.set_cons_succ, List.set_cons_zero]); rfl) ?_
        · intro w_ hSw_; (try dsimp only at hSw_); go_simp
        refine takeV (i := 9) (v := .bool true) (by (simp only [List.getElem?_toArray, List.getElem?_cons_succ, List.getElem?_cons_zero]); rfl) (by kernel_rfl) (by kernel_rfl) (by kernel_rfl) (by rfl) (fun _ _ _ h => h) (Or.inl ⟨by rfl, ?_⟩) hS_ (by (simp only [List.setIfInBounds_toArray, List.set_cons_succ, List.set_cons_zero]); rfl) ?_
        · intro w_ hSw_; (try dsimp only at hSw_); go_simp
        refine wpAnyH_done (by kernel_rfl) ?_ _
        clear x1 x2 hS_
        go_wp2
        go_ret2; exact own_copy E.out O8.out M8.out HB4.size HB5
      · rw [if_pos (by rfl)]
        go_simp
        obtain ⟨V6, hV6⟩ : ∃ X, V.alloc (.cells #[.string nm, .slice B m d] 26) = X := ⟨_, rfl⟩
        have HB6 : Below w.heap.size w V6 := by rw [← hV6]; exact HBV.alloc HBV.size _
        have BX6 : Blk V6 (w.heap.size) 26 #[.string nm, .slice B m d] := by rw [← hV6]; exact BXV.alloc _
        have TM6 : Blk V6 (V.heap.size) 26 #[.string nm, .slice B m d] := by rw [← hV6]; exact Blk.new V _ _
        rw [hV6]; clear hV6
        refine hK_.out _ _ ⟨BX6.cell 0, BX6.cell 1⟩ (fun hS2_ => ?_)
        clear hK_ hS_; have hS_ := hS2_; clear hS2_
        (try simp only [Act.put, List.setIfInBounds_toArray, List.set_cons_zero, List.set_cons_succ])
        refine wpAnyH_ready (rs := [1]) (by kernel_rfl) (by simp) ?_
        refine AllReadyH.cons (o := _) (by (simp only [List.getElem?_toArray, List.getElem?_cons_succ, List.getElem?_cons_zero]); rfl) (fun K_ hK_ => ?_) AllReadyH.nil
        rw [if_pos (by rfl)]
        go_simp
        go_at_call 72
        refine (factList_any A n c _).mono ?_; rintro e V7 ⟨rfl, hb7⟩
        have HB7 := belowThen HB6 hb7
        have BX7 := BX6.below hb7
        have TM7 := TM6.below hb7
        refine hK_.out _ _ ⟨BX7.cell 0, BX7.cell 1⟩ (fun hS2_ => ?_)
        clear hK_ hS_; have hS_ := hS2_; clear hS2_
        (try simp only [Act.put, List.setIfInBounds_toArray, List.set_cons_zero, List.set_cons_succ])
        refine wpAnyH_ready (rs := [4]) (by kernel_rfl) (by simp) ?_
        refine AllReadyH.cons (o := _) (by (simp only [List.getElem?_toArray, List.getElem?_cons_succ, List.getElem?_cons_zero]); rfl) (fun K_ hK_ => ?_) AllReadyH.nil
        rw [if_pos (by rfl)]
        go_simp
        go_at_call 72
        refine (factList_any (some ⟨V.heap.size, 0, none⟩) 1 1 _).mono ?_; rintro e V8 ⟨rfl, hb8⟩
        have HB8 := belowThen HB7 hb8
        have BX8 := BX7.below hb8
        have TM8 := TM7.below hb8
        refine hK_.out _ _ ⟨BX8.cell 0, BX8.cell 1⟩ (fun hS2_ => ?_)
        clear hK_ hS_; have hS_ := hS2_; clear hS2_
        (try simp only [Act.put, List.setIfInBounds_toArray, List.set_cons_zero, List.set_cons_succ])
        refine wpAnyH_ready (rs := [5]) (by kernel_rfl) (by simp) ?_
        refine AllReadyH.cons (o := _) (by (simp only [List.getElem?_toArray, List.getElem?_cons_succ, List.getElem?_cons_zero]); rfl) (fun K_ hK_ => ?_) AllReadyH.nil
        rw [if_pos (by rfl)]
        go_simp
        go_at_call 84
        refine (without_any A (some ⟨V.heap.size, 0, none⟩) n c 1 1 rs [(nm, B, m, d, ts)] _ (RR.out.keep RefE.stays (fun _ _ hq => HB8.cell hq) (Nat.le_refl _) HB8.size) (one_refs TM8 hs (H'.out.up HB8)) hmax).mono ?_; rintro e V9 ⟨A6, c6, rfl, hI6, hb9, -⟩
        have HB9 := belowThen HB8 hb9
        have BX9 := BX8.below hb9
        have TM9 := TM8.below hb9
        rw [LR.out] at hI6 ⊢
        have hI7 := hI6.atoms
        rw [PD.out] at hI7
        refine hK_.out _ _ ⟨BX9.cell 0, BX9.cell 1⟩ (fun hS2_ => ?_)
        clear hK_ hS_; have hS_ := hS2_; clear hS2_
        (try simp only [Act.put, List.setIfInBounds_toArray, List.set_cons_zero, List.set_cons_succ])
        refine takeV (i := 6) (v := .slice A6 Lr.length c6) (by (simp only [List.getElem?_toArray, List.getElem?_cons_succ, List.getElem?_cons_zero]); rfl) (by kernel_rfl) (by kernel_rfl) (by kernel_rfl) (by rfl) (fun _ _ _ h => h) (Or.inl ⟨by rfl, ?_⟩) hS_ (by (simp only [List.setIfInBounds_toArray, List.set_cons_succ, List.set_cons_zero]); rfl) ?_
        · intro w_ hSw_; (try dsimp only at hSw_); go_simp; rw [field_items]; rfl
        refine wpAnyH_ready (rs := [7]) (by kernel_rfl) (by simp) ?_
        refine AllReadyH.cons (o := _) (by (simp only [List.getElem?_toArray, List.getElem?_cons_succ, List.getElem?_cons_zero]); rfl) (fun K_ hK_ => ?_) AllReadyH.nil
        rw [if_pos (by rfl)]
        go_simp
        go_at_call 74
        refine (copyAtoms_any A6 Lr.length c6 P7 _ hI7 SM.out).mono ?_; rintro e V10 ⟨A8, c8, rs8, rfl, ho8, hm8, hb10⟩
        have HB10 := belowThen HB9 hb10
        have BX10 := BX9.below hb10
        have TM10 := TM9.below hb10
        have O8 := Lib.hid ho8; have M8 := Lib.hid hm8; clear ho8 hm8
        refine hK_.out _ _ ⟨BX10.cell 0, BX10.cell 1⟩ (fun hS2_ => ?_)
        clear hK_ hS_; have hS_ := hS2_; clear hS2_
        (try simp only [Act.put, List.setIfInBounds_toArray, List.set_cons_zero, List.set_cons_succ])
        refine takeV (i := 8) (v := .slice A8 P7.length c8) (by (simp only [List.getElem?_toArray, List.getElem?_cons_succ, List.getElem?_cons_zero]); rfl) (by kernel_rfl) (by kernel_rfl) (by kernel_rfl) (by rfl) (fun _ _ _ h => h) (Or.inl ⟨by rfl, ?_⟩) hS_ (by (simp only [List.setIfInBounds_toArray, List.set_cons_succ, List.set_cons_zero]); rfl) ?_
        · intro w_ hSw_; (try dsimp only at hSw_); go_simp
        refine takeV (i := 9) (v := .bool true) (by (simp only [List.getElem?_toArray, List.getElem?_cons_succ, List.getElem?_cons_zero]); rfl) (by kernel_rfl) (by kernel_rfl) (by kernel_rfl) (by rfl) (fun _ _ _ h => h) (Or.inl ⟨by rfl, ?_⟩) hS_ (by (simp only [List.setIfInBounds_toArray, List.set_cons_succ, List.set_cons_zero]); rfl) ?_
        · intro w_ hSw_; (try dsimp only at hSw_); go_simp
        refine wpAnyH_done (by kernel_rfl) ?_ _
        clear x1 x2 hS_
        go_wp2
        go_ret2; exact own_copy E.out O8.out M8.out HB9.size HB10

end Go.Proofs.Ytbhkihnekendbaa
