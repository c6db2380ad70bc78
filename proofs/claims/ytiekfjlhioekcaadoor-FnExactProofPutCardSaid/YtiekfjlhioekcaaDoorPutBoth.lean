/-
  Texts of one claim, put together.
-/
import Derived.Test.YtiekfjlhioekcaaDoorEachMath
import Derived.Test.YtiekfjlhioekcaaDoorEqTree
import Derived.Test.YtiekfjlhioekcaaDoorPut
import Derived.Test.YtiekfjlhioekcaaDoorDec
import Derived.Test.YtiekfjlhioekcaaDoorRegion
import Derived.Test.YtiekfjlhioekcaaDoorSzText
import Derived.Test.YtiekfjlhioekcaaDoorPut2
namespace Go.Proofs.YtiekfjlhioekcaaDoor
open Go.RowKit

/-- Why a fact is there. -/
def whyL (r : Int) : List UInt8 := if r < 0 then [103, 105, 118, 101, 110] else [98, 121, 32] ++ Lib.decDigits r.toNat

/-- A line of a proof: how far in; the fact; why it is there. -/
def lineP (x : Nat × Tr) : List UInt8 := List.replicate (2 * x.1) 32 ++ textL x.2.a ++ 32 :: whyL x.2.r ++ [10]

/-- A proof in lines. -/
def putP (xs : List (Nat × Tr)) : List UInt8 := xs.flatMap lineP

theorem putP_app (xs ys : List (Nat × Tr)) : putP (xs ++ ys) = putP xs ++ putP ys := by unfold putP; rw [List.flatMap_append]
theorem putP_one (x : Nat × Tr) : putP [x] = lineP x := by unfold putP; simp
theorem putP_cons (x : Nat × Tr) (xs : List (Nat × Tr)) : putP (x :: xs) = lineP x ++ putP xs := by unfold putP; simp

theorem flatL_snoc (d lv : Nat) {ks : List Tr} {k : Nat} {t : Tr} (h : ks[k]? = some t) : flatL d lv (ks.take (k + 1)) = flatL d lv (ks.take k) ++ flatT d lv t := by
  obtain ⟨h1, h2⟩ := List.getElem?_eq_some_iff.1 h
  unfold flatL
  rw [List.take_succ_eq_append_getElem h1, h2, List.flatMap_append, List.flatMap_singleton]

theorem flatL_split (d lv : Nat) (ks : List Tr) (k : Nat) : flatL d lv ks = flatL d lv (ks.take k) ++ flatL d lv (ks.drop k) := by
  unfold flatL
  rw [← List.flatMap_append, List.take_append_drop]

theorem flatT_succ (d lv : Nat) (t : Tr) : flatT (d + 1) lv t = (lv, t) :: flatL d (lv + 1) t.ks := rfl

theorem whyL_len {r : Int} (h : r ≤ 9223372036854775807) : (whyL r).length ≤ 30 := by
  unfold whyL
  split
  · simp
  · have := dec_len r.toNat (by omega)
    simp only [List.length_append, List.length_cons, List.length_nil]; omega

theorem in_more (lv : Nat) : (⟨(List.replicate (2 * lv) (32 : UInt8)).toArray⟩ ++ ⟨#[32, 32]⟩ : ByteArray) = ⟨(List.replicate (2 * (lv + 1)) (32 : UInt8)).toArray⟩ := by
  apply ByteArray.ext
  rw [ByteArray.data_append]
  apply Array.toList_inj.1
  simp only [Array.toList_append]
  rw [show 2 * (lv + 1) = 2 * lv + 1 + 1 by omega, List.replicate_succ', List.replicate_succ']
  simp

/-- What l6Put tells. -/
def PutOne (d : Nat) : Prop := ∀ (lv : Nat) (A : Option Addr) (n c : Nat) (B : Option Addr) (m e : Nat) (t : Tr) (w : World), IsPf d w 0 w.heap.size A n c B m e t → RuleIn (d + 1) t → (putP (flatT (d + 1) lv t)).length ≤ 1073741824 →
  Calls Tryd.prog 12 #[.agg #[.string t.a.1, .slice A n c, .int .i64 t.r, .slice B m e], .string ⟨(List.replicate (2 * lv) (32 : UInt8)).toArray⟩] w (StrPost (putP (flatT (d + 1) lv t)) w)

theorem line_given {lv : Nat} {t : Tr} (h : t.r < 0) : (⟨(List.replicate (2 * lv) (32 : UInt8)).toArray⟩ ++ ⟨(textL t.a).toArray⟩ ++ ⟨#[32, 103, 105, 118, 101, 110, 10]⟩ : ByteArray) = ⟨(lineP (lv, t)).toArray⟩ := by
  apply ByteArray.ext
  simp only [ByteArray.data_append]
  apply Array.toList_inj.1
  simp [lineP, whyL, h]

theorem line_by {lv : Nat} {t : Tr} (h : ¬ t.r < 0) : (⟨(List.replicate (2 * lv) (32 : UInt8)).toArray⟩ ++ ⟨(textL t.a).toArray⟩ ++ ⟨#[32, 98, 121, 32]⟩ ++ ⟨(Lib.decDigits t.r.toNat).toArray⟩ ++ ⟨#[10]⟩ : ByteArray) = ⟨(lineP (lv, t)).toArray⟩ := by
  apply ByteArray.ext
  simp only [ByteArray.data_append]
  apply Array.toList_inj.1
  simp [lineP, whyL, h]

set_option maxRecDepth 100000 in
set_option maxHeartbeats 4000000 in
theorem l6Put_of (d : Nat) (hP : ∀ d', d = d' + 1 → PutOne d') : PutOne d := by
  intro lv A n c B m e t w h hr hlen
  have hm := h.2.len
  unfold maxLen at hm
  have H := Lib.hid h; clear h
  obtain ⟨hr1, hr2, hr3⟩ := hr
  have HRI := Lib.hid hr3; clear hr3
  rw [flatT_succ, putP_cons, List.length_append] at hlen
  have hline : (lineP (lv, t)).length = 2 * lv + (textL t.a).length + 2 + (whyL t.r).length := by simp [lineP]; omega
  have htl : (textL t.a).length ≤ 1073741824 := by omega
  have hlv : 2 * lv ≤ 1073741824 := by omega
  have HLEN := Lib.hid (show (putP (flatL d (lv + 1) t.ks)).length + (lineP (lv, t)).length ≤ 1073741824 by omega)
  have hb0 := below1 w (.cells #[.string t.a.1, .slice A n c, .int .i64 t.r, .slice B m e] 35)
  have X0 := Lib.hid (Blk.new w 35 #[.string t.a.1, .slice A n c, .int .i64 t.r, .slice B m e])
  obtain ⟨W1, hW1⟩ : ∃ W1, w.alloc (.cells #[.string t.a.1, .slice A n c, .int .i64 t.r, .slice B m e] 35) = W1 := ⟨_, rfl⟩
  rw [hW1] at hb0 X0
  have HB0 := Lib.hid hb0; have HW1 := Lib.hid hW1
  clear hW1
  obtain ⟨inb, hin⟩ : ∃ s : ByteArray, (⟨(List.replicate (2 * lv) (32 : UInt8)).toArray⟩ : ByteArray) = s := ⟨_, rfl⟩
  obtain ⟨in2, hin2⟩ : ∃ s : ByteArray, (⟨(List.replicate (2 * (lv + 1)) (32 : UInt8)).toArray⟩ : ByteArray) = s := ⟨_, rfl⟩
  have hinz : inb.size = 2 * lv := by rw [← hin]; simp [ByteArray.size]
  have hinn : (inb ++ ⟨#[32, 32]⟩ : ByteArray) = in2 := by rw [← hin, ← hin2]; exact in_more lv
  have HIN := Lib.hid hinn; have HI2 := Lib.hid hin2; have HI1 := Lib.hid hin
  obtain ⟨tx, htx⟩ : ∃ s : ByteArray, (⟨(textL t.a).toArray⟩ : ByteArray) = s := ⟨_, rfl⟩
  have htz : tx.size = (textL t.a).length := by rw [← htx]; simp [ByteArray.size]
  have HTX := Lib.hid htx
  have x0 : W1.cell? ⟨w.heap.size, 0, none⟩ = some (.string t.a.1) := X0.out.cell 0
  have x1 : W1.cell? ⟨w.heap.size, 1, none⟩ = some (.slice A n c) := X0.out.cell 1
  have x2 : W1.cell? ⟨w.heap.size, 2, none⟩ = some (.int .i64 t.r) := X0.out.cell 2
  have HTXT := Lib.hid htl
  rw [hin]
  clear hin hin2 hinn htx hlen hline htl hb0
  go_enter Tryd.func12, Tryd.ntmps12
  go_wp2_with (rw [HW1.out])
  refine (l1Put_any t.a.1 A n c t.a.2 _ (H.out.up HB0.out).1 (by have := HTXT.out; show (textL t.a).length ≤ _; omega)).mono ?_; rintro e1 w2 ⟨rfl, hb2⟩
  rw [show (⟨(textL (t.a.1, t.a.2)).toArray⟩ : ByteArray) = tx from HTX.out]
  have hsz : inb.size + tx.size + 7 ≤ 9223372036854775807 := by have := HTXT.out; omega
  have XQ := Lib.hid (X0.out.below hb2); have BQ := Lib.hid (belowThen HB0.out hb2)
  clear x0 x1 x2
  have x0 : w2.cell? ⟨w.heap.size, 0, none⟩ = some (.string t.a.1) := XQ.out.cell 0
  have x1 : w2.cell? ⟨w.heap.size, 1, none⟩ = some (.slice A n c) := XQ.out.cell 1
  have x2 : w2.cell? ⟨w.heap.size, 2, none⟩ = some (.int .i64 t.r) := XQ.out.cell 2
  clear hb2 X0 HB0
  by_cases hneg : t.r < 0
  · have hnegI : ¬ (0 : Int) ≤ t.r := by omega
    obtain ⟨o0, ho⟩ : ∃ o : ByteArray, (⟨(lineP (lv, t)).toArray⟩ : ByteArray) = o := ⟨_, rfl⟩
    have hgv := line_given (lv := lv) (t := t) hneg
    rw [HI1.out, HTX.out, ho] at hgv
    have hod : o0.data.toList = lineP (lv, t) := by rw [← ho]
    have HGV := Lib.hid hgv; have HOD := Lib.hid hod
    clear hgv hod ho
    go_wp2_with (rw [HGV.out])
    go_loopw [5, 6] (fun x i wr => ∃ (k : Nat) (s : ByteArray), k ≤ m ∧ i = .int .i64 (k : Int) ∧ x = .string s ∧ s.data.toList = lineP (lv, t) ++ putP (flatL d (lv + 1) (t.ks.take k)) ∧ Below w2.heap.size w2 wr) (fun _ i _ => m - (intOf i).toNat)
    case atStart => exact ⟨0, o0, Nat.zero_le _, rfl, rfl, by rw [HOD.out]; simp [flatL, putP], Below.refl _ _⟩
    case round =>
      obtain ⟨k, s, hk, rfl, rfl, hsd, hb⟩ := hrel
      have X2 := XQ.out.below hb
      have x3 : wr.cell? ⟨w.heap.size, 3, none⟩ = some (.slice B m e) := X2.cell 3
      have HB := belowThen BQ.out hb
      have hsl : s.size = (lineP (lv, t) ++ putP (flatL d (lv + 1) (t.ks.take k))).length := by rw [← hsd]; simp
      have HSD := Lib.hid hsd
      clear hsd X2
      by_cases hlt : k < m
      · obtain ⟨p, q, hA, hlo, hhi, hg, hE⟩ := (H.out.2.below (PfE.stays d) HB (Nat.le_refl _)).at_ hlt
        cases d with
        | zero => exact hE.elim
        | succ d' =>
          obtain ⟨A', n', c', B', m', e', d1, d2, d3, d4, d5, d6⟩ := hE.val
          clear hE
          subst hA
          have hsn := flatL_snoc (d' + 1) (lv + 1) hg
          have htot := HLEN.out
          rw [flatL_split (d' + 1) (lv + 1) t.ks (k + 1), hsn, putP_app, putP_app] at htot
          simp only [List.length_append] at htot hsl
          have hqr := HRI.out q (List.mem_of_getElem? hg)
          have HSN := Lib.hid hsn; have HQR := Lib.hid hqr
          clear hg hsn hqr
          have HT := Lib.hid (d6.keep (w' := wr) (lo' := 0) (hi' := wr.heap.size) (fun _ _ _ => rfl) (Nat.le_refl _) HB.size); clear d6
          have TQ := hP d' rfl (lv + 1) A' n' c' B' m' e' q wr HT.out HQR.out (by omega)
          rw [HI2.out] at TQ
          obtain ⟨v, hv⟩ : ∃ v : ByteArray, (⟨(putP (flatT (d' + 1) (lv + 1) q)).toArray⟩ : ByteArray) = v := ⟨_, rfl⟩
          have hvl : v.size = (putP (flatT (d' + 1) (lv + 1) q)).length := by rw [← hv]; simp [ByteArray.size]
          have hsv : s.size + v.size ≤ 1073741824 := by omega
          have HV := Lib.hid hv
          have hvd : v.data.toList = putP (flatT (d' + 1) (lv + 1) q) := by rw [← hv]
          have hnew : (s ++ v : ByteArray).data.toList = lineP (lv, t) ++ putP (flatL (d' + 1) (lv + 1) (t.ks.take (k + 1))) := by
            rw [HSN.out, putP_app, ByteArray.data_append, Array.toList_append, HSD.out, hvd]; simp
          have HNEW := Lib.hid hnew
          clear hv hvd hnew htot hsl hvl
          go_wp2_with (rw [HIN.out])
          refine TQ.mono ?_; rintro e1 w9 ⟨rfl, hb9⟩
          rw [HV.out]
          clear TQ
          go_wp2
          go_roundw
          case rel => exact ⟨k + 1, s ++ v, by omega, by go_num, rfl, HNEW.out, belowThen hb hb9⟩
          case measure => simp [intOf]; omega
      · have hres : (s : ByteArray) = ⟨(putP (flatT (d + 1) lv t)).toArray⟩ := by
          apply ByteArray.ext
          apply Array.toList_inj.1
          rw [HSD.out, flatT_succ, putP_cons, List.take_of_length_le (by rw [H.out.2.1]; omega)]
        have HRES := Lib.hid hres
        clear hres hsl
        go_wp2
        go_ret
        exact ⟨by rw [← HRES.out]; rfl, HB⟩
  · have hnegI : (0 : Int) ≤ t.r := by omega
    obtain ⟨kr, hkr⟩ : ∃ kr : Nat, t.r = (kr : Int) := ⟨t.r.toNat, by omega⟩
    obtain ⟨dg, hdg⟩ : ∃ s : ByteArray, (⟨(Lib.decDigits kr).toArray⟩ : ByteArray) = s := ⟨_, rfl⟩
    have hdz : dg.size ≤ 21 := by rw [← hdg]; show (Lib.decDigits kr).toArray.size ≤ _; have := dec_len kr (by omega); simpa using this
    obtain ⟨o0, ho⟩ : ∃ o : ByteArray, (⟨(lineP (lv, t)).toArray⟩ : ByteArray) = o := ⟨_, rfl⟩
    have hgv := line_by (lv := lv) (t := t) hneg
    rw [HI1.out, HTX.out, ho, show t.r.toNat = kr by omega, hdg] at hgv
    have hod : o0.data.toList = lineP (lv, t) := by rw [← ho]
    have HGV := Lib.hid hgv; have HOD := Lib.hid hod
    have HBd := BQ.out.drew
    have T1 := (l1Put_any t.a.1 A n c t.a.2 w2.drew (H.out.up HBd).1 (by have := HTXT.out; show (textL t.a).length ≤ _; omega)).mono (fun e w' (h : StrPost _ _ e w') => (⟨h.1.trans (congrArg (fun s => Ending.returned (.string s)) HTX.out), h.2⟩ : e = .returned (.string tx) ∧ Below w2.drew.heap.size w2.drew w'))
    have T2 := fun W => dec_all (kr + 1) kr (Nat.lt_succ_self kr) (by omega) W
    rw [← hkr, hdg] at T2
    have HTD := Lib.hid T2
    have htl2 : (textL t.a).length ≤ 1073741824 := HTXT.out
    have hs4 : ¬ 9223372036854775807 < inb.size + tx.size := by have := HTXT.out; omega
    have hs5 : ¬ 9223372036854775807 < inb.size + tx.size + 4 := by have := HTXT.out; omega
    have hs9 : ¬ 9223372036854775807 < inb.size + tx.size + 4 + dg.size := by have := HTXT.out; omega
    have hs10 : ¬ 9223372036854775807 < inb.size + tx.size + 4 + dg.size + 1 := by have := HTXT.out; omega
    clear hgv hod ho T2 hdg hkr
    go_wp2_with fail
    have C2 := XQ.out
    refine wp_region_held_drew (S := fun W => W.cell? ⟨w.heap.size, 0, none⟩ = some (.string t.a.1) ∧ W.cell? ⟨w.heap.size, 1, none⟩ = some (.slice A n c) ∧ W.cell? ⟨w.heap.size, 2, none⟩ = some (.int .i64 t.r)) (by kernel_rfl) ⟨C2.cell 0, C2.cell 1, C2.cell 2⟩ ?_
    intro hS_
    refine takeV (i := 0) (v := .string inb) (by (simp only [List.getElem?_toArray, List.getElem?_cons_zero]); rfl) (by kernel_rfl) (by kernel_rfl) (by kernel_rfl) (by rfl) (fun _ _ _ h => h) (Or.inl ⟨by rfl, ?_⟩) hS_ (by (simp only [List.setIfInBounds_toArray, List.set_cons_succ, List.set_cons_zero]); rfl) ?_
    · intro w_ hSw_; (try dsimp only at hSw_); go_simp <;> omega
    refine takeV (i := 1) (v := .pointer (some ⟨w.heap.size, 0, none⟩)) (by (simp only [List.getElem?_toArray, List.getElem?_cons_succ, List.getElem?_cons_zero]); rfl) (by kernel_rfl) (by kernel_rfl) (by kernel_rfl) (by rfl) (fun _ _ _ h => h) (Or.inl ⟨by rfl, ?_⟩) hS_ (by (simp only [List.setIfInBounds_toArray, List.set_cons_succ, List.set_cons_zero]); rfl) ?_
    · intro w_ hSw_; (try dsimp only at hSw_); go_simp <;> omega
    refine takeV (i := 2) (v := .agg #[.string t.a.1, .slice A n c]) (by (simp only [List.getElem?_toArray, List.getElem?_cons_succ, List.getElem?_cons_zero]); rfl) (by kernel_rfl) (by kernel_rfl) (by kernel_rfl) (by rfl) (fun _ _ _ h => h) (Or.inl ⟨by rfl, ?_⟩) hS_ (by (simp only [List.setIfInBounds_toArray, List.set_cons_succ, List.set_cons_zero]); rfl) ?_
    · intro w_ hSw_; (try dsimp only at hSw_); go_simp <;> omega
    refine takeV (i := 6) (v := .pointer (some ⟨w.heap.size, 2, none⟩)) (by (simp only [List.getElem?_toArray, List.getElem?_cons_succ, List.getElem?_cons_zero]); rfl) (by kernel_rfl) (by kernel_rfl) (by kernel_rfl) (by rfl) (fun _ _ _ h => h) (Or.inl ⟨by rfl, ?_⟩) hS_ (by (simp only [List.setIfInBounds_toArray, List.set_cons_succ, List.set_cons_zero]); rfl) ?_
    · intro w_ hSw_; (try dsimp only at hSw_); go_simp <;> omega
    refine takeV (i := 7) (v := .int .i64 t.r) (by (simp only [List.getElem?_toArray, List.getElem?_cons_succ, List.getElem?_cons_zero]); rfl) (by kernel_rfl) (by kernel_rfl) (by kernel_rfl) (by rfl) (fun _ _ _ h => h) (Or.inl ⟨by rfl, ?_⟩) hS_ (by (simp only [List.setIfInBounds_toArray, List.set_cons_succ, List.set_cons_zero]); rfl) ?_
    · intro w_ hSw_; (try dsimp only at hSw_); go_simp <;> omega
    refine wpAnyH_ready (rs := [3]) (by kernel_rfl) (by simp) ?_
    refine AllReadyH.cons (o := _) (by (simp only [List.getElem?_toArray, List.getElem?_cons_succ, List.getElem?_cons_zero]); rfl) (fun K_ hK_ => ?_) AllReadyH.nil
    rw [if_pos (by rfl)]
    go_simp
    go_at_call 25
    refine T1.mono ?_; rintro e3 w3 ⟨rfl, hbd⟩; have hb3 : Below w2.heap.size w2 w3 := undrew hbd; clear hbd; have C3 := C2.below hb3; have T3 := HTD.out w3
    refine hK_.out _ _ ⟨C3.cell 0, C3.cell 1, C3.cell 2⟩ (fun hS2_ => ?_)
    clear hK_ hS_; have hS_ := hS2_; clear hS2_
    (try simp only [Act.put, List.setIfInBounds_toArray, List.set_cons_zero, List.set_cons_succ])
    refine takeV (i := 4) (v := .string (inb ++ tx)) (by (simp only [List.getElem?_toArray, List.getElem?_cons_succ, List.getElem?_cons_zero]); rfl) (by kernel_rfl) (by kernel_rfl) (by kernel_rfl) (by rfl) (fun _ _ _ h => h) (Or.inl ⟨by rfl, ?_⟩) hS_ (by (simp only [List.setIfInBounds_toArray, List.set_cons_succ, List.set_cons_zero]); rfl) ?_
    · intro w_ hSw_; (try dsimp only at hSw_); go_simp <;> omega
    refine takeV (i := 5) (v := .string (inb ++ tx ++ ⟨#[32, 98, 121, 32]⟩)) (by (simp only [List.getElem?_toArray, List.getElem?_cons_succ, List.getElem?_cons_zero]); rfl) (by kernel_rfl) (by kernel_rfl) (by kernel_rfl) (by rfl) (fun _ _ _ h => h) (Or.inl ⟨by rfl, ?_⟩) hS_ (by (simp only [List.setIfInBounds_toArray, List.set_cons_succ, List.set_cons_zero]); rfl) ?_
    · intro w_ hSw_; (try dsimp only at hSw_); go_simp <;> omega
    refine wpAnyH_ready (rs := [8]) (by kernel_rfl) (by simp) ?_
    refine AllReadyH.cons (o := _) (by (simp only [List.getElem?_toArray, List.getElem?_cons_succ, List.getElem?_cons_zero]); rfl) (fun K_ hK_ => ?_) AllReadyH.nil
    rw [if_pos (by rfl)]
    go_simp
    go_at_call 26
    refine T3.mono ?_; rintro e4 w4 ⟨rfl, hb4⟩; have C4 := C3.below hb4
    refine hK_.out _ _ ⟨C4.cell 0, C4.cell 1, C4.cell 2⟩ (fun hS2_ => ?_)
    clear hK_ hS_; have hS_ := hS2_; clear hS2_
    (try simp only [Act.put, List.setIfInBounds_toArray, List.set_cons_zero, List.set_cons_succ])
    refine takeV (i := 9) (v := .string (inb ++ tx ++ ⟨#[32, 98, 121, 32]⟩ ++ dg)) (by (simp only [List.getElem?_toArray, List.getElem?_cons_succ, List.getElem?_cons_zero]); rfl) (by kernel_rfl) (by kernel_rfl) (by kernel_rfl) (by rfl) (fun _ _ _ h => h) (Or.inl ⟨by rfl, ?_⟩) hS_ (by (simp only [List.setIfInBounds_toArray, List.set_cons_succ, List.set_cons_zero]); rfl) ?_
    · intro w_ hSw_; (try dsimp only at hSw_); go_simp <;> omega
    refine takeV (i := 10) (v := .string (inb ++ tx ++ ⟨#[32, 98, 121, 32]⟩ ++ dg ++ ⟨#[10]⟩)) (by (simp only [List.getElem?_toArray, List.getElem?_cons_succ, List.getElem?_cons_zero]); rfl) (by kernel_rfl) (by kernel_rfl) (by kernel_rfl) (by rfl) (fun _ _ _ h => h) (Or.inl ⟨by rfl, ?_⟩) hS_ (by (simp only [List.setIfInBounds_toArray, List.set_cons_succ, List.set_cons_zero]); rfl) ?_
    · intro w_ hSw_; (try dsimp only at hSw_); go_simp <;> omega
    refine takeV (i := 11) (v := .string (inb ++ tx ++ ⟨#[32, 98, 121, 32]⟩ ++ dg ++ ⟨#[10]⟩)) (by (simp only [List.getElem?_toArray, List.getElem?_cons_succ, List.getElem?_cons_zero]); rfl) (by kernel_rfl) (by kernel_rfl) (by kernel_rfl) (by rfl) (fun _ _ _ h => h) (Or.inl ⟨by rfl, ?_⟩) hS_ (by (simp only [List.setIfInBounds_toArray, List.set_cons_succ, List.set_cons_zero]); rfl) ?_
    · intro w_ hSw_; (try dsimp only at hSw_); go_simp <;> omega
    refine wpAnyH_done (by kernel_rfl) ?_ _
    clear hS_
    all_goals
      have XQ4 := Lib.hid C4
      have BQ4 := Lib.hid (belowThen BQ.out (belowThen hb3 hb4))
      clear hb3 hb4 C2 C3 C4 T1 T3
      go_wp2_with (rw [HGV.out])
      go_loopw [5, 6] (fun x i wr => ∃ (k : Nat) (s : ByteArray), k ≤ m ∧ i = .int .i64 (k : Int) ∧ x = .string s ∧ s.data.toList = lineP (lv, t) ++ putP (flatL d (lv + 1) (t.ks.take k)) ∧ Below w4.heap.size w4 wr) (fun _ i _ => m - (intOf i).toNat)
      case atStart => exact ⟨0, o0, Nat.zero_le _, rfl, rfl, by rw [HOD.out]; simp [flatL, putP], Below.refl _ _⟩
      case round =>
        obtain ⟨k, s, hk, rfl, rfl, hsd, hb⟩ := hrel
        have X2 := XQ4.out.below hb
        have x3 : wr.cell? ⟨w.heap.size, 3, none⟩ = some (.slice B m e) := X2.cell 3
        have HB := belowThen BQ4.out hb
        have hsl : s.size = (lineP (lv, t) ++ putP (flatL d (lv + 1) (t.ks.take k))).length := by rw [← hsd]; simp
        have HSD := Lib.hid hsd
        clear hsd X2
        by_cases hlt : k < m
        · obtain ⟨p, q, hA, hlo, hhi, hg, hE⟩ := (H.out.2.below (PfE.stays d) HB (Nat.le_refl _)).at_ hlt
          cases d with
          | zero => exact hE.elim
          | succ d' =>
            obtain ⟨A', n', c', B', m', e', d1, d2, d3, d4, d5, d6⟩ := hE.val
            clear hE
            subst hA
            have hsn := flatL_snoc (d' + 1) (lv + 1) hg
            have htot := HLEN.out
            rw [flatL_split (d' + 1) (lv + 1) t.ks (k + 1), hsn, putP_app, putP_app] at htot
            simp only [List.length_append] at htot hsl
            have hqr := HRI.out q (List.mem_of_getElem? hg)
            have HSN := Lib.hid hsn; have HQR := Lib.hid hqr
            clear hg hsn hqr
            have HT := Lib.hid (d6.keep (w' := wr) (lo' := 0) (hi' := wr.heap.size) (fun _ _ _ => rfl) (Nat.le_refl _) HB.size); clear d6
            have TQ := hP d' rfl (lv + 1) A' n' c' B' m' e' q wr HT.out HQR.out (by omega)
            rw [HI2.out] at TQ
            obtain ⟨v, hv⟩ : ∃ v : ByteArray, (⟨(putP (flatT (d' + 1) (lv + 1) q)).toArray⟩ : ByteArray) = v := ⟨_, rfl⟩
            have hvl : v.size = (putP (flatT (d' + 1) (lv + 1) q)).length := by rw [← hv]; simp [ByteArray.size]
            have hsv : s.size + v.size ≤ 1073741824 := by omega
            have HV := Lib.hid hv
            have hvd : v.data.toList = putP (flatT (d' + 1) (lv + 1) q) := by rw [← hv]
            have hnew : (s ++ v : ByteArray).data.toList = lineP (lv, t) ++ putP (flatL (d' + 1) (lv + 1) (t.ks.take (k + 1))) := by
              rw [HSN.out, putP_app, ByteArray.data_append, Array.toList_append, HSD.out, hvd]; simp
            have HNEW := Lib.hid hnew
            clear hv hvd hnew htot hsl hvl
            go_wp2_with (rw [HIN.out])
            refine TQ.mono ?_; rintro e1 w9 ⟨rfl, hb9⟩
            rw [HV.out]
            clear TQ
            go_wp2
            go_roundw
            case rel => exact ⟨k + 1, s ++ v, by omega, by go_num, rfl, HNEW.out, belowThen hb hb9⟩
            case measure => simp [intOf]; omega
        · have hres : (s : ByteArray) = ⟨(putP (flatT (d + 1) lv t)).toArray⟩ := by
            apply ByteArray.ext
            apply Array.toList_inj.1
            rw [HSD.out, flatT_succ, putP_cons, List.take_of_length_le (by rw [H.out.2.1]; omega)]
          have HRES := Lib.hid hres
          clear hres hsl
          go_wp2
          go_ret
          exact ⟨by rw [← HRES.out]; rfl, HB⟩

theorem l6Put_any : ∀ d : Nat, PutOne d
  | 0 => l6Put_of 0 (fun _ e => by omega)
  | d + 1 => l6Put_of (d + 1) (fun d' e => by
    have e2 : d = d' := by omega
    subst e2
    exact l6Put_any d)

end Go.Proofs.YtiekfjlhioekcaaDoor

namespace Go.Proofs.YtiekfjlhioekcaaDoor
open Go.RowKit

theorem joinTail_len (sep : List UInt8) : ∀ xs : List (List UInt8), (Lib.joinTail sep xs).length = (xs.map List.length).sum + xs.length * sep.length
  | [] => by simp [Lib.joinTail]
  | x :: xs => by
    have h : Lib.joinTail sep (x :: xs) = sep ++ x ++ Lib.joinTail sep xs := by simp [Lib.joinTail]
    rw [h, List.length_append, List.length_append, joinTail_len sep xs, List.map_cons, List.sum_cons, List.length_cons, Nat.add_mul]
    omega

theorem textL_len (a : At) : (textL a).length ≤ a.1.size + tmLen a.2 + 2 := by
  have hj : (Lib.join (tmNames a.2) [44]).length ≤ tmLen a.2 := by
    cases h : a.2 with
    | nil => simp [tmNames, Lib.join_nil]
    | cons t ts =>
      have e : tmNames (t :: ts) = t.2.data.toList :: tmNames ts := rfl
      rw [e, Lib.join_cons, List.length_append, joinTail_len]
      have e2 : (tmNames ts).map List.length = ts.map fun t => t.2.size := by unfold tmNames; rw [List.map_map]; rfl
      have e3 : (tmNames ts).length = ts.length := by unfold tmNames; simp
      rw [e2, e3]
      unfold tmLen
      have e4 : t.2.data.toList.length = t.2.size := by simp
      rw [e4]
      simp only [List.map_cons, List.sum_cons, List.length_cons, List.length_nil]
      omega
  unfold textL
  simp only [List.length_append, List.length_cons, List.length_nil]
  have : a.1.data.toList.length = a.1.size := by simp
  omega

theorem put_le : ∀ (d lv : Nat) (t : Tr) (C : Nat), RuleIn d t → 2 * (lv + sizeT d t) + 40 ≤ C → (putP (flatT d lv t)).length ≤ sizeT d t * C + lenT d t
  | 0, _, _, _, _, _ => by simp [flatT, putP]
  | d + 1, lv, t, C, hr, hC => by
    obtain ⟨_, hr2, hr3⟩ := hr
    rw [flatT_succ, putP_cons, List.length_append, sizeT_succ, lenT_succ]
    rw [sizeT_succ] at hC
    have hl : (lineP (lv, t)).length ≤ C + (t.a.1.size + tmLen t.a.2) := by
      have h1 := textL_len t.a
      have h2 := whyL_len hr2
      have h3 : (lineP (lv, t)).length = 2 * lv + (textL t.a).length + 2 + (whyL t.r).length := by simp [lineP]; omega
      omega
    have hk : ∀ ks : List Tr, (∀ k ∈ ks, RuleIn d k) → sizeL d ks ≤ sizeL d t.ks → (putP (flatL d (lv + 1) ks)).length ≤ sizeL d ks * C + lenL d ks := by
      intro ks
      induction ks with
      | nil => intro _ _; simp [flatL, putP]
      | cons k ks ih =>
        intro h1 h2
        rw [sizeL_cons] at h2
        have e : flatL d (lv + 1) (k :: ks) = flatT d (lv + 1) k ++ flatL d (lv + 1) ks := by unfold flatL; simp
        rw [e, putP_app, List.length_append, sizeL_cons, lenL_cons, Nat.add_mul]
        have h3 := put_le d (lv + 1) k C (h1 k (List.mem_cons_self ..)) (by omega)
        have h4 := ih (fun x hx => h1 x (List.mem_cons_of_mem _ hx)) (by omega)
        omega
    have h5 := hk t.ks hr3 (Nat.le_refl _)
    rw [Nat.add_mul, Nat.one_mul]
    omega

theorem flat_few : ∀ (d lv : Nat) (t : Tr), FewT d t → RuleIn d t → ∀ x ∈ flatT d lv t, x.2.a.2.length ≤ 1048576 ∧ -9223372036854775808 ≤ x.2.r ∧ x.2.r ≤ 9223372036854775807
  | 0, _, _, _, _, x, hx => by simp [flatT] at hx
  | d + 1, lv, t, hf, hr, x, hx => by
    rw [flatT_succ] at hx
    rcases List.mem_cons.1 hx with rfl | hx
    · exact ⟨hf.1, hr.1, hr.2.1⟩
    · unfold flatL at hx
      obtain ⟨k, hk, hx⟩ := List.mem_flatMap.1 hx
      exact flat_few d (lv + 1) k (hf.2.2 k hk) (hr.2.2 k hk) x hx

theorem line_in {xs : List (Nat × Tr)} {x : Nat × Tr} (h : x ∈ xs) : (lineP x).length ≤ (putP xs).length := by
  obtain ⟨a, b, rfl⟩ := List.append_of_mem h
  rw [putP_app, putP_cons]
  simp only [List.length_append]
  omega

end Go.Proofs.YtiekfjlhioekcaaDoor
