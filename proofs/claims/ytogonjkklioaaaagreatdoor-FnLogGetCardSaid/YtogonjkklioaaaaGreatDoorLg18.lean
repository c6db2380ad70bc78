/-
  Texts of one claim, put together.
-/
import Derived.Test.YtogonjkklioaaaaGreatDoorLg17
import Derived.Test.YtogonjkklioaaaaGreatDoorLg11
set_option maxRecDepth 100000
set_option maxHeartbeats 8000000
namespace Go.Proofs.YtogonjkklioaaaaGreatDoor
open Go.RowKit
theorem zcz (A : Option Addr) (n c : Nat) (xs : List At) (w : World) (h : IsAtoms w 0 w.heap.size A n c xs) (hn : zay n xs) :
    Calls Tryz.prog 141 #[.slice A n c] w (zkj xs w) := by
  obtain ⟨hn1, a4⟩ := hn; obtain ⟨i0, hi, hz, hsz, hby⟩ := info_parts Tryz.infoAt; have HN := hid a4; clear a4; have HL0 := hid h.1; have H := hid h; clear h; go_enter Tryz.func141, Tryz.ntmps141; go_wp2; go_loopw [3, 4] (fun o i wr => ∃ (k : Nat) (Av : Option Addr) (cv : Nat) (rs : List Rf), k ≤ n ∧ i = .int .i64 k ∧ o = .slice Av k cv ∧ wr.ownsRow w.heap.size 51 2 (.slice Av k cv) k (zai rs) ∧ rs.length = k ∧ rs.map rAt = xs.take k ∧ OwnIn wr w.heap.size wr.heap.size rs ∧ Below w.heap.size w wr) (fun _ i _ => n - (intOf i).toNat)
  case atStart => exact ⟨0, some ⟨w.heap.size, 0, none⟩, 0, [], Nat.zero_le _, rfl, rfl, ⟨rfl, .inr ⟨w.heap.size, 0, #[], rfl, nl _, heap_alloc_new w _, nl _, by unfold maxLen; omega, rfl, rfl⟩⟩, rfl, rfl, OwnIn.nil, zac _ _⟩
  case round =>
    obtain ⟨k, Av, cv, rs, hk, rfl, rfl, a3, hl, hm, ho, hb⟩ := hrel; have HR := hid a3; have HL := hid hl; have HM := hid hm; have HO := hid ho; clear a3 hl hm ho; by_cases hlt : k < n
    · obtain ⟨p, q, hA, hlo, hhi, hg, hE⟩ := (H.out.below AtomE.stays hb (nl _)).at_ hlt
      obtain ⟨A', n', c', d1, d3, d4, d5⟩ := hE.out; clear hE; subst hA; have hq : n' ≤ 1048576 := qco; have HG := hid hg; clear hg; have b3 := hb.size; have a8 := zac wr (.cells #[.string q.1, .slice A' n' c'] 51); have HT := hid (d5.keep (w' := wr) (lo' := 0) (hi' := wr.heap.size) (fun _ _ _ => rfl) (nl _) hb.size); clear d5; go_wp2_with fail; refine (zbs q.1 A' n' c' q.2 _ HT.out hq).mono ?_; rintro e w1 ⟨A2, d2, rfl, hT, hR, hb1⟩; have HB1 : Below wr.heap.size wr w1 := hb1; have b4 := hid (hT.keep (w' := w1) (lo' := wr.heap.size) (hi' := w1.heap.size) (fun _ _ _ => rfl) qag (nl _))
      have a7 := hid (fun h0 => (hR h0).keep (w' := w1) (lo' := wr.heap.size) (hi' := w1.heap.size) (fun _ _ _ => rfl) qag (nl _)); have a2 : w1.ownsRow w.heap.size 51 2 (.slice Av k cv) k (zai rs) := zan HR.out HB1; have HRW := hid a2; have a6 : w.heap.size ≤ w1.heap.size := Nat.le_trans b3 HB1.size; clear hT hR a2 hb1 a8; go_wp2_with (at_builtin; refine wpList_append_own _ rfl _ _ 23 rfl w.heap.size 51 i0 _ 2 40 Tryz.underlying23 hi hz hsz hby rfl qan _ _ _ rfl (HRW.out.alloc _) ⟨w1.heap.size, 0, none⟩ 1 1 [.string q.1, .slice A2 n' d2] rfl rfl (zbr _ _ _ _) qal qaf qaa qah ?_; intro v' w2 hown' hgrow' _; obtain ⟨g', cap', rfl⟩ := ownsRow_succ hown'; have hown := hid hown'; have hgrow := hid hgrow'; clear hown' hgrow')
      obtain ⟨a9, r1, r2, r3, r4, r5⟩ := copy_on HL.out HM.out HG.out HO.out hb HB1 d3 b4.out a7.out HRW.out hown.out hgrow.out; go_roundw
      case rel => exact ⟨k + 1, _, _, a9, by omega, by go_num, rfl, r3, r1, r2, r4, r5⟩
      case measure => exact qms
    · have hkn : k = n := qaa
      subst hkn; have a5 : xs.take k = xs := List.take_of_length_le qen; obtain ⟨A3, c3, e3, hO⟩ := OwnRefs.of_row HR.out HL.out.symm (nl _) HO.out (nl _); injection e3 with e3 _ e4; subst e3; subst e4; have HX := hid a5; clear a5; go_wp2; go_ret; exact ⟨Av, cv, rs, by rw [HL0.out]; rfl, by rw [HL0.out]; exact hO, by rw [HM.out]; exact HX.out, hb⟩
end Go.Proofs.YtogonjkklioaaaaGreatDoor

namespace Go.Proofs.YtogonjkklioaaaaGreatDoor
open Go.RowKit Go.Shelf
attribute [local go_sem] Oper.semAt_some zbg
end Go.Proofs.YtogonjkklioaaaaGreatDoor

namespace Go.Proofs.YtogonjkklioaaaaGreatDoor
open Go.RowKit
def zbv (xs ys : List At) : List At := xs.filter fun a => !zbq ys a
theorem less_yes {xs ys : List At} {k : Nat} {q : At} (h : xs[k]? = some q) (hq : zbq ys q = false) : zbv (xs.take (k + 1)) ys = zbv (xs.take k) ys ++ [q] := by
  unfold zbv; rw [List.take_add_one, h, List.filter_append]; simp [hq]
theorem less_no {xs ys : List At} {k : Nat} {q : At} (h : xs[k]? = some q) (hq : zbq ys q = true) : zbv (xs.take (k + 1)) ys = zbv (xs.take k) ys := by
  unfold zbv; rw [List.take_add_one, h, List.filter_append]; simp [hq]
theorem less_le (xs ys : List At) : (zbv xs ys).length ≤ xs.length := List.length_filter_le _ _
theorem gone_done {w V : World} {k n : Nat} {v : Value} {rs : List Rf} (hl : rs.length = n) (hk : k < n)
    (h : V.ownsRow (w.heap.size + 1) 51 2 v (0 + k + (n - (k + 1))) ([] ++ zai (rs.take k) ++ zai (rs.drop (k + 1)))) (hr : RefsIn w 0 w.heap.size (rs.take k ++ rs.drop (k + 1))) (hb : Below w.heap.size w V) {L : List At} (hL : (rs.take k ++ rs.drop (k + 1)).map rAt = L) :
    ∃ A c rs', v = .slice A rs'.length c ∧ IsRefs V 0 V.heap.size A rs'.length c rs' ∧ rs'.map rAt = L := by
  have hlen : (rs.take k ++ rs.drop (k + 1)).length = 0 + k + (n - (k + 1)) := by
    rw [List.length_append, List.length_take, List.length_drop, hl, Nat.min_eq_left qaa]; omega
  rw [← hlen] at h; obtain ⟨A, c, e, i⟩ := zej (base := w.heap.size + 1) (rs := rs.take k ++ rs.drop (k + 1)) (by rw [zhw]; exact h) rfl (Nat.zero_le _) (hr.keep (fun _ _ hq => hb.cell hq) (nl _) (nl _)) hb.size; exact ⟨A, c, _, e, i, hL⟩
theorem there_at {xs : List At} {a : At} {k n : Nat} (hr : zaj xs = true) (hl : xs.length = n) (hlo : ∀ j y, j < k → xs[j]? = some y → zaf y a < 0) (hat : ∀ y, xs[k]? = some y → 0 ≤ zaf y a) (hB : zbq xs a = true) : k < n ∧ ∃ x, xs[k]? = some x ∧ zaf x a = 0 := by
  by_cases hk : k < n
  · have hx : xs[k]? = some xs[k] := List.getElem?_eq_getElem qaa
    have := hasB_at hr hlo hx (hat _ hx); rw [hB] at this; exact ⟨hk, _, hx, by simpa using this⟩
  · rw [hasB_end hl hlo hk] at hB; cases hB
theorem l3Without_any (A : Option Addr) (n c : Nat) (xs : List At) (nm : ByteArray) (B : Option Addr) (m d : Nat) (ts : List Tm) (w : World) (h : IsAtoms w 0 w.heap.size A n c xs) (h' : IsTerms w 0 w.heap.size B m d ts) (hr : zaj xs = true) (hB : zbq xs (nm, ts) = true) (hmax : n ≤ 1048576) :
    Calls Tryz.prog 142 #[.slice A n c, .agg #[.string nm, .slice B m d]] w (zng (xs.filter fun y => !zbq [(nm, ts)] y) w) := by
  have HX := hid h.1; obtain ⟨rs, a2, hm⟩ := zks h; have HL := hid a2.1; have RR := hid a2; have HM := hid hm; clear hm; have H := hid h; have H' := hid h'; clear h h'; have HRR := hid hr; clear hr; have hnc := a2.2.1; have b5 := a2.2.2.1; have a7 : 0 < n → ∃ p, A = some p := fun h0 => by obtain ⟨p, hp, _⟩ := a2.2.2.2 h0; exact ⟨p, hp⟩
  unfold maxLen at b5; clear a2; obtain ⟨i0, hi, hz, hsz, hby⟩ := info_parts Tryz.infoAt; have a6 := zac w (.cells #[.string nm, .slice B m d] 51); have B1 := Blk.new w 51 #[.string nm, .slice B m d]; go_enter Tryz.func142, Tryz.ntmps142; go_wp2_with fail; refine (znd A n c xs nm B m d ts _ (H.out.up AtomE.stays a6) (H'.out.up a6) HRR.out).mono ?_; rintro e w2 ⟨k, ⟨rfl, -, a5, hat⟩, hb2⟩; have HB2 := zaa a6 hb2; have B2 := B1.below hb2; obtain ⟨hkn, x, hx, he⟩ := there_at HRR.out HX.out a5 hat hB
  have PD := hid (show (rs.take k ++ rs.drop (k + 1)).map rAt = xs.filter (fun y => !zbq [(nm, ts)] y) from by
    rw [gone_at HRR.out a5 hx he, List.map_append, List.map_take, List.map_drop, HM.out])
  have RIN := hid (show RefsIn w 0 w.heap.size (rs.take k ++ rs.drop (k + 1)) from fun r hr => by
    rcases List.mem_append.1 hr with h1 | h1
    · exact (RefsIn.of RR.out) r (List.mem_of_mem_take h1)
    · exact (RefsIn.of RR.out) r (List.mem_of_mem_drop h1))
  obtain ⟨p, hp⟩ := a7 qaa; subst hp; rw [hB]; clear a5 hat hx he a7; go_wp2; have x1 : w2.drew.cell? ⟨w.heap.size, 0, none⟩ = some (.string nm) := B2.cell 0; have x2 : w2.drew.cell? ⟨w.heap.size, 1, none⟩ = some (.slice B m d) := B2.cell 1; have HBV : Below w.heap.size w w2.drew := HB2.drew; have BXV : Blk w2.drew w.heap.size 51 #[.string nm, .slice B m d] := B2; have a9 : w.heap.size + 1 ≤ w2.drew.heap.size := B2.lt; obtain ⟨V, hV⟩ : ∃ V, w2.drew = V := ⟨_, rfl⟩; rw [hV] at x1 x2 HBV BXV a9; have hkc : k ≤ c := qaa; have hki : (k : Int) ≤ (c : Int) := qaa; have hk1 : (k : Int) + 1 ≤ (n : Int) := qaa
  have b4 : k + 1 ≤ n := qaa; have hk2 : IntKind.i64.wrap ((k : Int) + 1) = (k : Int) + 1 := qao; have hk3 : (0 : Int) ≤ (k : Int) + 1 := qaa; have b3 : ¬ (k : Int) + 1 < 0 := qaa; have hk4 : ((k : Int) + 1).toNat = k + 1 := qaa; obtain ⟨QK, b6⟩ : ∃ q, (if c = k + 1 then some p else some (p.add ((k + 1) * 2))) = q := ⟨_, rfl⟩; have SD : Hid (∀ W, Below w.heap.size w W → SrcAt W QK (n - (k + 1)) (zai (rs.drop (k + 1)))) := hid (fun W hb => IsRefs.srcDrop (RR.out.below RefE.stays hb (nl _)) qaa b6.symm); refine wp_region_held_drew (S := fun W => W.cell? ⟨w.heap.size, 0, none⟩ = some (.string nm) ∧ W.cell? ⟨w.heap.size, 1, none⟩ = some (.slice B m d)) qab qeu ?_
  rw [hV]; intro hS_; refine tk 1 (.slice (some p) n c) hS_ ?_; refine tk 2 (.int .i64 (k : Int)) hS_ ?_; refine tk 3 (.slice (some p) k c) hS_ ?_; refine tk 5 (.slice (some p) n c) hS_ ?_; refine tk 6 (.int .i64 (k : Int)) hS_ ?_; refine tk 7 (.int .i64 ((k : Int) + 1)) hS_ ?_; refine tk 8 (.slice QK (n - (k + 1)) (c - (k + 1))) hS_ ?_; refine rd1 0 fun K_ hK_ => ?_; go_simp; obtain ⟨V1, hV1⟩ : ∃ X, V.alloc (.cells #[] 51) = X := ⟨_, rfl⟩; have HB1 : Below w.heap.size w V1 := qcy; have a3 : Blk V1 (w.heap.size) 51 #[.string nm, .slice B m d] := by rw [← hV1]; exact BXV.alloc _
  have Z1 : V.heap.size + 1 ≤ V1.heap.size := by rw [← hV1]; simp
  have OW1 : V1.ownsRow (w.heap.size + 1) 51 2 (.slice (some ⟨V.heap.size, 0, none⟩) 0 0) 0 [] := qcj; rw [hV1]; clear hV1; refine hK_.out _ _ ⟨a3.cell 0, a3.cell 1⟩ fun hS_ => ?_; clear hK_; refine rd0 4 fun K_ hK_ => ?_; refine zbi qad _ _ _ qad (w.heap.size + 1) 51 i0 _ 40 Tryz.underlying23 hi hz hsz hby rfl (.slice (some ⟨V.heap.size, 0, none⟩) 0 0) 0 [] qad OW1 (some p) k c (zai (rs.take k)) qad (IsRefs.srcTake (RR.out.below RefE.stays HB1 (nl _)) qaa) qam qaf qaa a3.lt ?_; intro v2 V2 OW2 G2; have HB2 := HB1.trans (zam OW1 G2 (Nat.le_succ _) HB1.size)
  have a4 := a3.kept G2 (zdh OW1 (Nat.lt_succ_self _)); refine hK_.out _ _ ⟨a4.cell 0, a4.cell 1⟩ fun hS_ => ?_; clear hK_; refine rd0 9 fun K_ hK_ => ?_; refine zbi qad _ _ _ qad (w.heap.size + 1) 51 i0 _ 40 Tryz.underlying23 hi hz hsz hby rfl v2 (0 + k) ([] ++ (zai (rs.take k))) qad OW2 QK (n - (k + 1)) (c - (k + 1)) (zai (rs.drop (k + 1))) qad (SD.out _ HB2) qam qaf qaa a4.lt ?_; intro v3 V3 OW3 G3; have HB3 := HB2.trans (zam OW2 G3 (Nat.le_succ _) HB2.size); have a8 := a4.kept G3 (zdh OW2 (Nat.lt_succ_self _)); refine hK_.out _ _ ⟨a8.cell 0, a8.cell 1⟩ fun hS_ => ?_
  clear hK_; refine tk 10 v3 hS_ ?_; refine wpAnyH_done qab ?_ _; obtain ⟨A9, c9, r9, e9, i9, m9⟩ := gone_done HL.out hkn OW3 RIN.out HB3 PD.out; have M9 := hid m9; clear m9; subst e9; go_wp2; go_ret; exact ⟨_, _, r9, rfl, i9, M9.out, HB3⟩
theorem l3Less_any (A : Option Addr) (n c : Nat) (xs : List At) (B : Option Addr) (n' c' : Nat) (ys : List At) (w : World) (h : IsAtoms w 0 w.heap.size A n c xs) (hn : zay n xs) (h' : IsAtoms w 0 w.heap.size B n' c' ys) (hr : zaj ys = true) :
    Calls Tryz.prog 68 #[.slice A n c, .slice B n' c'] w (zng (zbv xs ys) w) := by
  obtain ⟨hn1, a7⟩ := hn; obtain ⟨i0, hi, hz, hsz, hby⟩ := info_parts Tryz.infoAt; have HN := hid a7; clear a7; have HL0 := hid h.1; have H := hid h; have H' := hid h'; clear h h'; have HRR := hid hr; clear hr; go_enter Tryz.func68, Tryz.ntmps68; go_wp2; go_loopw [5, 6] (fun o i wr => ∃ (k j : Nat) (Av : Option Addr) (cv : Nat) (rs : List Rf), k ≤ n ∧ i = .int .i64 k ∧ o = .slice Av j cv ∧ j ≤ k ∧ wr.ownsRow w.heap.size 51 2 (.slice Av j cv) j (zai rs) ∧ rs.length = j ∧ rs.map rAt = zbv (xs.take k) ys ∧ OwnIn wr w.heap.size wr.heap.size rs ∧ Below w.heap.size w wr) (fun _ i _ => n - (intOf i).toNat)
  case atStart => exact ⟨0, 0, some ⟨w.heap.size, 0, none⟩, 0, [], Nat.zero_le _, rfl, rfl, nl _, ⟨rfl, .inr ⟨w.heap.size, 0, #[], rfl, nl _, heap_alloc_new w _, nl _, by unfold maxLen; omega, rfl, rfl⟩⟩, rfl, rfl, OwnIn.nil, zac _ _⟩
  case round =>
    obtain ⟨k, j, Av, cv, rs, hk, rfl, rfl, hjk, a3, hl, hm, ho, hb⟩ := hrel; have HR := hid a3; have HL := hid hl; have HM := hid hm; have HO := hid ho; clear a3 hl hm ho; by_cases hlt : k < n
    · obtain ⟨p, q, hA, hlo, hhi, hg, hE⟩ := (H.out.below AtomE.stays hb (nl _)).at_ hlt
      obtain ⟨A', m', d', d1, d3, d4, d5⟩ := hE.out; clear hE; subst hA; have hq : m' ≤ 1048576 := qco; have HG := hid hg; clear hg; have b6 := hb.size; have hpz : p.block < wr.heap.size := Nat.lt_of_lt_of_le hhi b6; have HT := hid (d5.keep (w' := wr) (lo' := 0) (hi' := wr.heap.size) (fun _ _ _ => rfl) (nl _) hb.size); clear d5; go_wp2_with fail; refine (zcr B n' c' ys q.1 A' m' d' q.2 _ (H'.out.up AtomE.stays hb) HT.out HRR.out).mono ?_; rintro e w0 ⟨rfl, a2⟩; have y1 := (a2.cell (p := p.add (k * 2)) qbm).trans d1; have y2 := (a2.cell (p := ⟨(p.add (k * 2)).block, (p.add (k * 2)).off + 1, none⟩) qbm).trans d4
      have a4 := zaa hb a2; have b5 := a2.size; have a5 := hid (HO.out.keep (w' := w0) (fun b _ h2 => a2.block b h2) (nl _) a2.size); have a6 := hid (zan HR.out a2); clear d1 d4; cases hh : zbq ys (q.1, q.2)
      · have HH := hid (show zbq ys q = false from hh); clear hh
        go_wp2_with fail; refine (zbs q.1 A' m' d' q.2 _ (HT.out.up a2) hq).mono ?_; rintro e w1 ⟨A2, d2, rfl, hT, hR, hb1⟩; have b7 := hid hT; have b4 := hid hR; have HRW := hid (zan a6.out hb1); have a9 : w.heap.size ≤ w1.heap.size := Nat.le_trans a4.size hb1.size; clear hT hR y1 y2; go_wp2_with (at_builtin; refine wpList_append_own _ rfl _ _ 23 rfl w.heap.size 51 i0 _ 2 40 Tryz.underlying23 hi hz hsz hby rfl qan _ _ _ rfl (HRW.out.alloc _) ⟨w1.heap.size, 0, none⟩ 1 1 [.string q.1, .slice A2 m' d2] rfl rfl (zbr _ _ _ _) qal qaf qaa qah ?_; intro v' w2 hown' hgrow' _; obtain ⟨g', cap', rfl⟩ := ownsRow_succ hown'; have hown := hid hown'; have hgrow := hid hgrow'; clear hown' hgrow')
        obtain ⟨b3, r1, r2, r3, r4, r5⟩ := zkc HL.out HM.out a5.out a4 hb1 d3 b7.out b4.out HRW.out hown.out hgrow.out; go_roundw
        case rel => exact ⟨k + 1, j + 1, _, _, b3, by omega, by go_num, rfl, by omega, r3, r1, by rw [r2, less_yes HG.out HH.out], r4, r5⟩
        case measure => exact qms
      · have HH := hid (show zbq ys q = true from hh); clear hh
        go_wp2; go_roundw
        case rel => exact ⟨k + 1, j, _, _, rs, by omega, by go_num, rfl, by omega, a6.out, HL.out, by rw [less_no HG.out HH.out]; exact HM.out, a5.out, a4⟩
        case measure => exact qms
    · have a8 : zbv (xs.take k) ys = zbv xs ys := qdt
      obtain ⟨A3, c3, e3, hO⟩ := OwnRefs.of_row HR.out HL.out.symm (nl _) HO.out (nl _); injection e3 with e3 _ e4; subst e3; subst e4; have HX := hid a8; clear a8; go_wp2; go_ret; exact ⟨Av, cv, rs, by rw [HL.out]; rfl, by rw [HL.out]; exact hO.refs.keep RefE.stays (fun _ _ _ => rfl) (Nat.zero_le _) (nl _), by rw [HM.out]; exact HX.out, hb⟩
theorem fact_small {a : At} (h : zby a = true) : a.2.length ≤ 1048576 := by
  unfold zby at h; rw [Bool.and_eq_true] at h; have h2 := h.2; unfold zax at h2; simp only [Bool.and_eq_true, decide_eq_true_eq] at h2; omega
theorem zct {m : Nat} {xs : List At} (h : zag m xs = true) : zbn xs := by
  unfold zag at h; simp only [Bool.and_eq_true] at h; exact fun a ha => List.all_eq_true.1 h.1.1 a ha
theorem zgi {n : Nat} {xs : List At} (h : zbn xs) (hn : n ≤ 1048576) : zay n xs := ⟨hn, fun q hq => fact_small (h q hq)⟩
attribute [local go_sem] zbg
attribute [local go_sem] zbg
def ofL (xs ys : List At) : List At × List At := if zag 300 xs && zag 300 ys then (zbv ys xs, zbv xs ys) else ([], [])
theorem ofL_no1 {xs ys : List At} (h : (!zag 300 xs) = true) : ofL xs ys = ([], []) := by unfold ofL; rw [show zag 300 xs = false by simpa using h]; rfl
theorem ofL_no2 {xs ys : List At} (h : (!zag 300 ys) = true) : ofL xs ys = ([], []) := by unfold ofL; rw [show zag 300 ys = false by simpa using h, Bool.and_false]; rfl
theorem ofL_yes {xs ys : List At} (h : (!zag 300 xs) = false) (h' : (!zag 300 ys) = false) : ofL xs ys = (zbv ys xs, zbv xs ys) := by unfold ofL; rw [show zag 300 xs = true by simpa using h, show zag 300 ys = true by simpa using h']; rfl
theorem less_all {xs ys : List At} (h : zbn xs) : zbn (zbv xs ys) := fun q hq => h q (List.mem_filter.1 hq).1
def OwnKPost (p : List At × List At) (w : World) (e : Ending) (w' : World) : Prop := ∃ A c ra B d rb mid, e = .returned (.agg #[.slice A p.1.length c, .slice B p.2.length d]) ∧ (OwnRefs w' w.heap.size mid A p.1.length c ra ∧ ra.map rAt = p.1) ∧ (OwnRefs w' mid w'.heap.size B p.2.length d rb ∧ rb.map rAt = p.2) ∧ (w.heap.size ≤ mid ∧ mid ≤ w'.heap.size) ∧ Below w.heap.size w w'
theorem OwnRefs.no {w : World} {lo hi : Nat} : OwnRefs w lo hi none 0 0 [] := ⟨rfl, nl _, Nat.zero_le _, fun h0 => absurd h0 qag, OwnIn.nil⟩
theorem zoj {p : List At × List At} {w w' : World} (hp : p = ([], [])) (hb : Below w.heap.size w w') : OwnKPost p w (.returned (.agg #[.slice none 0 0, .slice none 0 0])) w' := by
  subst hp; exact ⟨none, 0, [], none, 0, [], w.heap.size, rfl, ⟨OwnRefs.no, rfl⟩, ⟨OwnRefs.no, rfl⟩, ⟨nl _, hb.size⟩, hb⟩
theorem own_both {w w1 w2 w2' w3 : World} {g c d : Nat} {A B : Option Addr} {xs ys : List At} {ra rb : List Rf} {p : List At × List At} (hp : p = (xs, ys))
    (h1 : OwnRefs w2 w1.heap.size w2.heap.size A xs.length c ra) (m1 : ra.map rAt = xs) (h2 : OwnRefs w3 w2'.heap.size w3.heap.size B ys.length d rb) (m2 : rb.map rAt = ys)
    (hb : Below w2.heap.size w2 w3) (hs1 : w1.heap.size ≤ w2.heap.size) (hs : w2.heap.size ≤ w2'.heap.size) (hg : w.heap.size ≤ g) (hg1 : g < w1.heap.size) (hB : Below w.heap.size w w3) (u v : Value) :
    OwnKPost p w (.returned (.agg #[.slice A xs.length c, .slice B ys.length d])) ((w3.setCell ⟨g, 0, .none⟩ u).setCell ⟨g, 1, .none⟩ v) := by
  subst hp; have hz : ((w3.setCell ⟨g, 0, .none⟩ u).setCell ⟨g, 1, .none⟩ v).heap.size = w3.heap.size := qbl; have h3 := hb.size; refine ⟨A, c, ra, B, d, rb, w2.heap.size, rfl, ⟨?_, m1⟩, ⟨?_, m2⟩, ⟨by omega, by omega⟩, (hB.setCell hg u).setCell hg v⟩
  · exact (h1.below hb (nl _)).keep (fun b h1 h2 => zmx qaa) qaa (nl _)
  · exact h2.keep (fun b h1 h2 => zmx qaa) hs qaa
theorem l3Less_own (A : Option Addr) (n c : Nat) (xs : List At) (B : Option Addr) (n' c' : Nat) (ys : List At) (w : World) (h : IsAtoms w 0 w.heap.size A n c xs) (hn : zay n xs) (h' : IsAtoms w 0 w.heap.size B n' c' ys) (hr : zaj ys = true) :
    Calls Tryz.prog 68 #[.slice A n c, .slice B n' c'] w (zkj (zbv xs ys) w) := by
  obtain ⟨hn1, a8⟩ := hn; obtain ⟨i0, hi, hz, hsz, hby⟩ := info_parts Tryz.infoAt; have HN := hid a8; clear a8; have HL0 := hid h.1; have H := hid h; have H' := hid h'; clear h h'; have HRR := hid hr; clear hr; go_enter Tryz.func68, Tryz.ntmps68; go_wp2; go_loopw [5, 6] (fun o i wr => ∃ (k j : Nat) (Av : Option Addr) (cv : Nat) (rs : List Rf), k ≤ n ∧ i = .int .i64 k ∧ o = .slice Av j cv ∧ j ≤ k ∧ wr.ownsRow w.heap.size 51 2 (.slice Av j cv) j (zai rs) ∧ rs.length = j ∧ rs.map rAt = zbv (xs.take k) ys ∧ OwnIn wr w.heap.size wr.heap.size rs ∧ Below w.heap.size w wr) (fun _ i _ => n - (intOf i).toNat)
  case atStart => exact ⟨0, 0, some ⟨w.heap.size, 0, none⟩, 0, [], Nat.zero_le _, rfl, rfl, nl _, ⟨rfl, .inr ⟨w.heap.size, 0, #[], rfl, nl _, heap_alloc_new w _, nl _, by unfold maxLen; omega, rfl, rfl⟩⟩, rfl, rfl, OwnIn.nil, zac _ _⟩
  case round =>
    obtain ⟨k, j, Av, cv, rs, hk, rfl, rfl, hjk, a3, hl, hm, ho, hb⟩ := hrel; have HR := hid a3; have HL := hid hl; have HM := hid hm; have HO := hid ho; clear a3 hl hm ho; by_cases hlt : k < n
    · obtain ⟨p, q, hA, hlo, hhi, hg, hE⟩ := (H.out.below AtomE.stays hb (nl _)).at_ hlt
      obtain ⟨A', m', d', d1, d3, d4, d5⟩ := hE.out; clear hE; subst hA; have hq : m' ≤ 1048576 := qco; have HG := hid hg; clear hg; have b7 := hb.size; have hpz : p.block < wr.heap.size := Nat.lt_of_lt_of_le hhi b7; have HT := hid (d5.keep (w' := wr) (lo' := 0) (hi' := wr.heap.size) (fun _ _ _ => rfl) (nl _) hb.size); clear d5; go_wp2_with fail; refine (zcr B n' c' ys q.1 A' m' d' q.2 _ (H'.out.up AtomE.stays hb) HT.out HRR.out).mono ?_; rintro e w0 ⟨rfl, a2⟩; have y1 := (a2.cell (p := p.add (k * 2)) qbm).trans d1; have y2 := (a2.cell (p := ⟨(p.add (k * 2)).block, (p.add (k * 2)).off + 1, none⟩) qbm).trans d4
      have a4 := zaa hb a2; have b6 := a2.size; have a6 := hid (HO.out.keep (w' := w0) (fun b _ h2 => a2.block b h2) (nl _) a2.size); have a7 := hid (zan HR.out a2); clear d1 d4; cases hh : zbq ys (q.1, q.2)
      · have HH := hid (show zbq ys q = false from hh); clear hh
        go_wp2_with fail; refine (zbs q.1 A' m' d' q.2 _ (HT.out.up a2) hq).mono ?_; rintro e w1 ⟨A2, d2, rfl, hT, hR, hb1⟩; have b9 := hid hT; have b5 := hid hR; have HRW := hid (zan a7.out hb1); have b3 : w.heap.size ≤ w1.heap.size := Nat.le_trans a4.size hb1.size; clear hT hR y1 y2; go_wp2_with (at_builtin; refine wpList_append_own _ rfl _ _ 23 rfl w.heap.size 51 i0 _ 2 40 Tryz.underlying23 hi hz hsz hby rfl qan _ _ _ rfl (HRW.out.alloc _) ⟨w1.heap.size, 0, none⟩ 1 1 [.string q.1, .slice A2 m' d2] rfl rfl (zbr _ _ _ _) qal qaf qaa qah ?_; intro v' w2 hown' hgrow' _; obtain ⟨g', cap', rfl⟩ := ownsRow_succ hown'; have hown := hid hown'; have hgrow := hid hgrow'; clear hown' hgrow')
        obtain ⟨b4, r1, r2, r3, r4, r5⟩ := zkc HL.out HM.out a6.out a4 hb1 d3 b9.out b5.out HRW.out hown.out hgrow.out; go_roundw
        case rel => exact ⟨k + 1, j + 1, _, _, b4, by omega, by go_num, rfl, by omega, r3, r1, by rw [r2, less_yes HG.out HH.out], r4, r5⟩
        case measure => exact qms
      · have HH := hid (show zbq ys q = true from hh); clear hh
        go_wp2; go_roundw
        case rel => exact ⟨k + 1, j, _, _, rs, by omega, by go_num, rfl, by omega, a7.out, HL.out, by rw [less_no HG.out HH.out]; exact HM.out, a6.out, a4⟩
        case measure => exact qms
    · have a9 : zbv (xs.take k) ys = zbv xs ys := qdt
      obtain ⟨A3, c3, e3, hO⟩ := OwnRefs.of_row HR.out HL.out.symm (nl _) HO.out (nl _); injection e3 with e3 _ e4; subst e3; subst e4; have HX := hid a9; clear a9; go_wp2; go_ret; have a5 : (zbv xs ys).length = j := by rw [← HX.out, ← HM.out, List.length_map, HL.out]
      exact ⟨Av, cv, rs, by rw [a5]; rfl, by rw [a5]; exact hO.keep (fun _ _ _ => rfl) (nl _) (nl _), by rw [HM.out]; exact HX.out, hb⟩
theorem zmq (A : Option Addr) (n c : Nat) (xs : List At) (B : Option Addr) (n' c' : Nat) (ys : List At) (w : World) (h : IsAtoms w 0 w.heap.size A n c xs) (h' : IsAtoms w 0 w.heap.size B n' c' ys) :
    Calls Tryz.prog 166 #[.slice A n c, .slice B n' c'] w (OwnKPost (ofL xs ys) w) := by
  have H := hid h; have H' := hid h'; clear h h'; have HX := hid H.out.1; have HY := hid H'.out.1; have a8 := zac w (.cells #[.slice none 0 0, .slice none 0 0] 25); have B1 := Blk.new w 25 #[.slice none 0 0, .slice none 0 0]; go_enter Tryz.func166, Tryz.ntmps166; go_wp2_with fail; refine (zde A n c xs _ (H.out.up AtomE.stays a8)).mono ?_; rintro e w2 ⟨rfl, hb2⟩; have HB2 := zaa a8 hb2; have B2 := B1.below hb2; by_cases hx : (!zag 300 xs) = true
  · have E := hid (ofL_no1 (ys := ys) hx)
    have b0 : w2.cell? ⟨w.heap.size, 0, none⟩ = some (.slice none 0 0) := B2.cell 0; have b1 : w2.cell? ⟨w.heap.size, 1, none⟩ = some (.slice none 0 0) := B2.cell 1; have f0 := B2.frozen 0; have f1 := B2.frozen 1; go_wp2; refine bodyPost_ret (v := .agg #[.slice none 0 0, .slice none 0 0]) qce rfl (zoj E.out ((HB2.setCell (nl _) _).setCell (nl _) _))
  · have a2 : (!zag 300 xs) = false := by simpa using hx
    clear hx; go_wp2_with fail; refine (zde B n' c' ys _ (H'.out.up AtomE.stays HB2)).mono ?_; rintro e w3 ⟨rfl, hb3⟩; have HB3 := zaa HB2 hb3; have B3 := B2.below hb3; by_cases hy : (!zag 300 ys) = true
    · have E := hid (ofL_no2 (xs := xs) hy)
      have b0 : w3.cell? ⟨w.heap.size, 0, none⟩ = some (.slice none 0 0) := B3.cell 0; have b1 : w3.cell? ⟨w.heap.size, 1, none⟩ = some (.slice none 0 0) := B3.cell 1; have f0 := B3.frozen 0; have f1 := B3.frozen 1; go_wp2; refine bodyPost_ret (v := .agg #[.slice none 0 0, .slice none 0 0]) qce rfl (zoj E.out ((HB3.setCell (nl _) _).setCell (nl _) _))
    · have a3 : (!zag 300 ys) = false := qeo
      clear hy; have b4 := hid (zat (show zag 300 xs = true by simpa using a2)); have b3 := hid (zat (show zag 300 ys = true by simpa using a3)); have sx := hid (zgi (n := n) (zct (show zag 300 xs = true by simpa using a2)) (by have := zaw (show zag 300 xs = true by simpa using a2); have := HX.out; omega)); have sy := hid (zgi (n := n') (zct (show zag 300 ys = true by simpa using a3)) (by have := zaw (show zag 300 ys = true by simpa using a3); have := HY.out; omega)); have E := hid (ofL_yes a2 a3); go_wp2_with fail; refine (l3Less_own B n' c' ys A n c xs _ (H'.out.up AtomE.stays HB3) sy.out (H.out.up AtomE.stays HB3) b4.out).mono ?_; rintro e w4 ⟨A4, c4, ra, rfl, a7, hm4, hb4⟩
      have O4 := hid a7; have M4 := hid hm4; clear a7 hm4; have HB4 := zaa HB3 hb4; have B4 := B3.below hb4; obtain ⟨n4, a4⟩ : ∃ z, (zbv ys xs).length = z := ⟨_, rfl⟩; have N4 := hid a4; rw [a4]; clear a4; go_wp2_with fail; refine (l3Less_own A n c xs B n' c' ys _ (H.out.up AtomE.stays HB4) sx.out (H'.out.up AtomE.stays HB4) b3.out).mono ?_; rintro e w5 ⟨A5, c5, rb, rfl, a6, a9, hb5⟩; have O5 := hid a6; have M5 := hid a9; clear a6 a9; have HB5 := zaa HB4 hb5; have B5 := B4.below hb5; obtain ⟨n5, a5⟩ : ∃ z, (zbv xs ys).length = z := ⟨_, rfl⟩; have N5 := hid a5; rw [a5]; clear a5; have b0 : w5.cell? ⟨w.heap.size, 0, none⟩ = some (.slice none 0 0) := B5.cell 0
      have b1 : w5.cell? ⟨w.heap.size, 1, none⟩ = some (.slice none 0 0) := B5.cell 1; have f0 := B5.frozen 0; have f1 := B5.frozen 1; go_wp2; refine bodyPost_ret (v := .agg #[.slice A4 n4 c4, .slice A5 n5 c5]) qce rfl ?_; rw [← N4.out, ← N5.out]; exact own_both E.out O4.out M4.out O5.out M5.out hb5 hb4.size (nl _) (nl _) B3.lt HB5 _ _
def doL (xs cs gs : List At) : List At := cs.foldl zed (zbv xs gs)
theorem zkx {xs gs : List At} (h : zaj xs = true) : zaj (zbv xs gs) = true := zlz h
theorem do_part {xs cs gs : List At} (k : Nat) (hx : zbn xs) (hr : zaj xs = true) (hc : zbn cs) :
    zbn ((cs.take k).foldl zed (zbv xs gs)) ∧ zaj ((cs.take k).foldl zed (zbv xs gs)) = true ∧ ((cs.take k).foldl zed (zbv xs gs)).length ≤ xs.length + cs.length := by
  obtain ⟨a, b, _, d⟩ := puts_all (ys := cs.take k) (less_all (ys := gs) hx) (fun q hq => hc q (List.mem_of_mem_take hq)) (zkx hr); have e := less_le xs gs; have f : (cs.take k).length ≤ cs.length := qdi; exact ⟨a, b, by omega⟩
theorem do_step {xs cs gs : List At} {k : Nat} {q : At} (h : cs[k]? = some q) : (cs.take (k + 1)).foldl zed (zbv xs gs) = zed ((cs.take k).foldl zed (zbv xs gs)) q := by
  rw [List.take_add_one, h, List.foldl_append]; rfl
theorem l3Do_any (A : Option Addr) (n c : Nat) (xs : List At) (B : Option Addr) (m d : Nat) (cs : List At) (D : Option Addr) (m' d' : Nat) (gs : List At) (w : World) (h : IsAtoms w 0 w.heap.size A n c xs) (h1 : IsAtoms w 0 w.heap.size B m d cs) (h2 : IsAtoms w 0 w.heap.size D m' d' gs)
    (fx : zbn xs) (rx : zaj xs = true) (fc : zbn cs) (rg : zaj gs = true) (hn : n ≤ 1000) (hm : m ≤ 1000) :
    Calls Tryz.prog 147 #[.slice A n c, .agg #[.slice B m d, .slice D m' d']] w (zkj (doL xs cs gs) w) := by
  have HX := hid h.1; have HC := hid h1.1; have H := hid h; have H1 := hid h1; have H2 := hid h2; clear h h1 h2; have SX := hid (zgi (n := n) fx qaa); have FX := hid fx; have RX := hid rx; have FC := hid fc; have RG := hid rg; clear fx rx fc rg; have a3 := zac w (.cells #[.slice B m d, .slice D m' d'] 25); have B1 := Blk.new w 25 #[.slice B m d, .slice D m' d']; go_enter Tryz.func147, Tryz.ntmps147; go_wp2_with fail; refine (l3Less_any A n c xs D m' d' gs _ (H.out.up AtomE.stays a3) SX.out (H2.out.up AtomE.stays a3) RG.out).mono ?_; rintro e w2 ⟨A2, c2, b5, rfl, a8, hm2, hb2⟩
  have HB2 := zaa a3 hb2; have B2 := B1.below hb2; have I2 := hid a8.atoms; rw [hm2] at I2; obtain ⟨n2, a4⟩ : ∃ z, b5.length = z := ⟨_, rfl⟩; rw [a4] at I2; rw [a4]; clear a8 hm2 a4 hb2 B1 a3 b5; go_wp2; go_loopw [5, 6] (fun o i wr => ∃ (k j : Nat) (Av : Option Addr) (cv : Nat), k ≤ m ∧ i = .int .i64 k ∧ o = .slice Av j cv ∧ IsAtoms wr 0 wr.heap.size Av j cv ((cs.take k).foldl zed (zbv xs gs)) ∧ Blk wr w.heap.size 25 #[.slice B m d, .slice D m' d'] ∧ Below w.heap.size w wr) (fun _ i _ => m - (intOf i).toNat)
  case atStart => exact ⟨0, n2, A2, c2, Nat.zero_le _, rfl, rfl, I2.out, B2, HB2⟩
  case round =>
    obtain ⟨k, j, Av, cv, hk, rfl, rfl, hI, hX, hb⟩ := hrel; have HI := hid hI; clear hI; have b0 : wr.cell? ⟨w.heap.size, 0, none⟩ = some (.slice B m d) := hX.cell 0; have b1 : wr.cell? ⟨w.heap.size, 1, none⟩ = some (.slice D m' d') := hX.cell 1; obtain ⟨p1, p2, p3⟩ := do_part (gs := gs) k FX.out RX.out FC.out; have hj : j ≤ 2000 := by have e1 := HI.out.1; have e2 := HX.out; have e3 := HC.out; omega
    have P1 := hid p1; have P2 := hid p2; clear p1 p2 p3; by_cases hlt : k < m
    · obtain ⟨p, q, hA, hlo, hhi, hg, hE⟩ := (H1.out.below AtomE.stays hb (nl _)).at_ hlt
      obtain ⟨A', n3, d3, e1, e3, e4, e5⟩ := hE.out; clear hE; subst hA; have HG := hid hg; clear hg; have HT := hid (e5.keep (w' := wr) (lo' := 0) (hi' := wr.heap.size) (fun _ _ _ => rfl) (nl _) hb.size); clear e5; go_wp2_with fail; refine (zju Av j cv _ q.1 A' n3 d3 q.2 _ HI.out e3 HT.out P2.out qaa).mono ?_; rintro e w0 ⟨A4, c4, b9, rfl, b3, hm4, hb4⟩; have HB4 := zaa hb hb4; have X4 := hX.below hb4; have I4 := b3.atoms; rw [hm4] at I4; obtain ⟨n4, a6⟩ : ∃ z, b9.length = z := ⟨_, rfl⟩; rw [a6] at I4 ⊢; have b6 := hid I4; clear b3 hm4 a6 I4 e1 e4 b0 b1; go_wp2; go_roundw
      case rel => exact ⟨k + 1, n4, A4, c4, by omega, by go_num, rfl, by rw [do_step HG.out]; exact b6.out, X4, HB4⟩
      case measure => exact qms
    · have b4 : (cs.take k).foldl zed (zbv xs gs) = doL xs cs gs := by rw [List.take_of_length_le (by have := HC.out; omega)]; rfl
      have E := hid b4; clear b4; go_wp2_with fail; refine (zcz Av j cv _ _ HI.out (zgi P1.out qaa)).mono ?_; rintro e w5 a2; rw [E.out] at a2; obtain ⟨A5, c5, b7, rfl, a7, a9, hb5⟩ := a2; have HB5 := zaa hb hb5; have hz := hb.size; have O5 := hid (a7.keep (w' := w5) (lo' := w.heap.size) (hi' := w5.heap.size) (fun _ _ _ => rfl) hz (nl _)); have M5 := hid a9; clear a7 a9; obtain ⟨n5, a5⟩ : ∃ z, (doL xs cs gs).length = z := ⟨_, rfl⟩; have N5 := hid a5; rw [a5]; clear a5; go_wp2; go_ret; exact ⟨A5, c5, b7, by rw [N5.out]; rfl, O5.out, M5.out, HB5⟩
end Go.Proofs.YtogonjkklioaaaaGreatDoor
