/-
  The exact law of ProofPut: of every proof the program puts the text that its model puts, and leaves it as it was.
-/
import Derived.Test.YtiekfjlhioekcaaDoorSzTree
import Derived.Test.YtiekfjlhioekcaaDoorToTree
import Derived.Test.YtiekfjlhioekcaaDoorEqTree
import Derived.Test.YtiekfjlhioekcaaDoorProofPut
import Derived.Deep.RegionHeld3
namespace Go.Proofs.YtiekfjlhioekcaaDoor
open Go.RowKit

/-- What ProofPut tells. -/
def putT (d : Nat) (t : Tr) : List UInt8 := if 60 < sizeT (d + 1) t then [] else putP (flatT (d + 1) 0 t)

set_option maxRecDepth 100000 in
set_option maxHeartbeats 4000000 in
theorem specProofPut_any (d : Nat) (A : Option Addr) (n c : Nat) (B : Option Addr) (m e : Nat) (t : Tr) (w : World) (h : IsPf d w 0 w.heap.size A n c B m e t) (hz : sizeT (d + 1) t ≤ 2097152) (hr : RuleIn (d + 1) t)
    (hlen : sizeT (d + 1) t ≤ 60 → (putP (flatT (d + 1) 0 t)).length ≤ 1073741824) :
    Calls Tryd.prog 5 #[.agg #[.string t.a.1, .slice A n c, .int .i64 t.r, .slice B m e]] w (StrPost (putT d t) w) := by
  have H := Lib.hid h; clear h
  have hb0 := below1 w (.cells #[.string t.a.1, .slice A n c, .int .i64 t.r, .slice B m e] 35)
  have X0 := Lib.hid (Blk.new w 35 #[.string t.a.1, .slice A n c, .int .i64 t.r, .slice B m e])
  go_enter Tryd.func5, Tryd.ntmps5
  go_wp2_with fail
  refine (specSize_any d _ _ _ _ _ _ t _ (H.out.up hb0) hz).mono ?_; rintro e1 w1 ⟨rfl, hb1⟩
  have X1 := X0.out.below hb1
  have x0 : w1.cell? ⟨w.heap.size, 0, none⟩ = some (.string t.a.1) := X1.cell 0
  have x1 : w1.cell? ⟨w.heap.size, 1, none⟩ = some (.slice A n c) := X1.cell 1
  have x2 : w1.cell? ⟨w.heap.size, 2, none⟩ = some (.int .i64 t.r) := X1.cell 2
  have x3 : w1.cell? ⟨w.heap.size, 3, none⟩ = some (.slice B m e) := X1.cell 3
  have HB1 := Lib.hid (belowThen hb0 hb1)
  clear hb0 hb1 X1
  by_cases hg : 60 < sizeT (d + 1) t
  · have hgI : (60 : Int) < ((sizeT (d + 1) t : Nat) : Int) := by omega
    have HE := Lib.hid (show putT d t = [] from if_pos hg)
    clear hg
    go_wp2
    go_ret
    exact ⟨by rw [HE.out]; rfl, HB1.out⟩
  · have hgI : ¬ (60 : Int) < ((sizeT (d + 1) t : Nat) : Int) := by omega
    have HE := Lib.hid (show putT d t = putP (flatT (d + 1) 0 t) from if_neg hg)
    have hln := hlen (by omega)
    clear hg
    go_wp2_with fail
    refine (l6Put_any d 0 _ _ _ _ _ _ t _ (H.out.up HB1.out) hr hln).mono ?_; rintro e2 w2 ⟨rfl, hb2⟩
    go_wp2
    go_ret
    exact ⟨by rw [HE.out]; rfl, belowThen HB1.out hb2⟩

set_option maxRecDepth 100000 in
set_option maxHeartbeats 4000000 in
theorem exactProofPut_any (d : Nat) (A : Option Addr) (n c : Nat) (B : Option Addr) (m e : Nat) (t : Tr) (w : World) (hs : t.a.1.size ≤ maxLen) (h : IsPf d w 0 w.heap.size A n c B m e t) (hr : RuleIn (d + 1) t) (hT : PowTab w) :
    Calls Tryd.prog 3 #[.agg #[.string t.a.1, .slice A n c, .int .i64 t.r, .slice B m e]] w (BoolPost true w) := by
  have H := Lib.hid h; clear h
  have hb0 := below1 w (.cells #[.string t.a.1, .slice A n c, .int .i64 t.r, .slice B m e] 27)
  have X0 := Lib.hid (Blk.new w 27 #[.string t.a.1, .slice A n c, .int .i64 t.r, .slice B m e])
  go_enter Tryd.func3, Tryd.ntmps3
  go_wp2_with fail
  refine (szProof_any d _ _ _ _ _ _ t _ _ hs (H.out.up hb0) (by decide) (by decide)).mono ?_; rintro e1 w1 ⟨y, ⟨rfl, hy1, hy2, hy3⟩, hb1⟩
  have X1 := X0.out.below hb1
  have x0 : w1.cell? ⟨w.heap.size, 0, none⟩ = some (.string t.a.1) := X1.cell 0
  have x1 : w1.cell? ⟨w.heap.size, 1, none⟩ = some (.slice A n c) := X1.cell 1
  have x2 : w1.cell? ⟨w.heap.size, 2, none⟩ = some (.int .i64 t.r) := X1.cell 2
  have x3 : w1.cell? ⟨w.heap.size, 3, none⟩ = some (.slice B m e) := X1.cell 3
  have HB1 := Lib.hid (belowThen hb0 hb1)
  clear hb0 hb1
  by_cases hy : y < 0
  · go_wp2
    go_ret; exact ⟨rfl, HB1.out⟩
  · obtain ⟨hfew, hsize, hlt⟩ := hy3 (by omega)
    have hsz : sizeT (d + 1) t ≤ 2097152 := by omega
    have hlen : sizeT (d + 1) t ≤ 60 → (putP (flatT (d + 1) 0 t)).length ≤ 1073741824 := fun h60 => by
      have h9 := put_le (d + 1) 0 t 160 hr (by omega)
      omega
    have HF := Lib.hid hfew; have HLEN := Lib.hid hlen; have HR := Lib.hid hr
    clear hfew hy3 hlen hlt hr
    have HX := Lib.hid X1; clear X1 X0
    go_wp2_with fail
    refine (toProof_any d _ _ _ _ _ _ t _ (H.out.up HB1.out) HF.out).mono ?_; rintro e2 w2 ⟨A2, n2, c2, B2, m2, e2', rfl, hI2, hb2⟩
    have J2 := Lib.hid (hI2.keep (w' := w2) (lo' := 0) (hi' := w2.heap.size) (fun _ _ _ => rfl) (Nat.zero_le _) (Nat.le_refl _))
    have HX2 := Lib.hid (HX.out.below hb2); have HB2 := Lib.hid (belowThen HB1.out hb2)
    clear hI2 hb2 x0 x1 x2 x3 HX HB1
    go_wp2_with fail
    refine (specProofPut_any d _ _ _ _ _ _ t _ J2.out hsz HR.out HLEN.out).mono ?_; rintro e3 w3 ⟨rfl, hb3⟩
    have X3 := HX2.out.below hb3
    have x0 : w3.cell? ⟨w.heap.size, 0, none⟩ = some (.string t.a.1) := X3.cell 0
    have x1 : w3.cell? ⟨w.heap.size, 1, none⟩ = some (.slice A n c) := X3.cell 1
    have x2 : w3.cell? ⟨w.heap.size, 2, none⟩ = some (.int .i64 t.r) := X3.cell 2
    have x3 : w3.cell? ⟨w.heap.size, 3, none⟩ = some (.slice B m e) := X3.cell 3
    have HX3 := Lib.hid X3; have HB3 := Lib.hid (belowThen HB2.out hb3)
    clear hb3 X3 HX2 HB2 J2
    obtain ⟨z, hz⟩ : ∃ z : ByteArray, (⟨(putT d t).toArray⟩ : ByteArray) = z := ⟨_, rfl⟩
    rw [hz]
    have HZ := Lib.hid hz
    clear hz
    go_wp2_with fail
    refine (toProof_any d _ _ _ _ _ _ t _ (H.out.up HB3.out) HF.out).mono ?_; rintro e4 w4 ⟨A4, n4, c4, B4, m4, e4', rfl, hI4, hb4⟩
    have hbx := below1 w4 (.cells #[.string t.a.1, .slice A4 n4 c4, .int .i64 t.r, .slice B4 m4 e4'] 35)
    have Y4 := Blk.new w4 35 #[.string t.a.1, .slice A4 n4 c4, .int .i64 t.r, .slice B4 m4 e4']
    obtain ⟨W4, hW4⟩ : ∃ W4, w4.alloc (.cells #[.string t.a.1, .slice A4 n4 c4, .int .i64 t.r, .slice B4 m4 e4'] 35) = W4 := ⟨_, rfl⟩
    rw [hW4] at hbx Y4
    have J4 := Lib.hid (hI4.keep (w' := W4) (lo' := 0) (hi' := W4.heap.size) (fun q _ h2 => hbx.cell (p := q) h2) (Nat.zero_le _) hbx.size)
    have HX4 := Lib.hid (HX3.out.below (belowThen hb4 hbx)); have HB4 := Lib.hid (belowThen HB3.out (belowThen hb4 hbx)); have HY4 := Lib.hid Y4
    have HW4 := Lib.hid hW4
    have y0 : W4.cell? ⟨w4.heap.size, 0, none⟩ = some (.string t.a.1) := Y4.cell 0
    have y1 : W4.cell? ⟨w4.heap.size, 1, none⟩ = some (.slice A4 n4 c4) := Y4.cell 1
    have y2 : W4.cell? ⟨w4.heap.size, 2, none⟩ = some (.int .i64 t.r) := Y4.cell 2
    have y3 : W4.cell? ⟨w4.heap.size, 3, none⟩ = some (.slice B4 m4 e4') := Y4.cell 3
    clear hI4 hb4 hbx Y4 hW4 x0 x1 x2 x3 HX3 HB3
    have TI := Lib.hid ((implProofPut_any d A4 n4 c4 B4 m4 e4' t W4 hs J4.out hsz HF.out HR.out HLEN.out (tab_later hT HB4.out)).mono (fun e w' (h : StrPost _ _ e w') => (⟨h.1.trans (congrArg (fun s => Ending.returned (.string s)) HZ.out), h.2⟩ : e = .returned (.string z) ∧ Below W4.heap.size W4 w')))
    go_wp2_with (rw [HW4.out])
    refine TI.out.mono ?_; rintro e5 w5 ⟨rfl, hb5⟩
    have X5 := HX4.out.below hb5; have Y5 := HY4.out.below hb5
    have J5 := Lib.hid (J4.out.up hb5)
    have HX5 := Lib.hid X5; have HY5 := Lib.hid Y5; have HB5 := Lib.hid (belowThen HB4.out hb5)
    have hzz : (z.toList == z.toList) = true := beq_self_eq_true _
    clear hb5 X5 Y5 y0 y1 y2 y3 HX4 HY4 J4 HB4 TI
    go_wp2_with fail
    have C5 := HX5.out; have D5 := HY5.out
    have HBd5 := HB5.out.drew
    have T5 := toProof_any d A n c B m e t w5.drew (H.out.up HBd5) HF.out
    go_region_held3 (fun W => W.cell? ⟨w.heap.size, 0, none⟩ = some (.string t.a.1) ∧ W.cell? ⟨w.heap.size, 1, none⟩ = some (.slice A n c) ∧ W.cell? ⟨w.heap.size, 2, none⟩ = some (.int .i64 t.r) ∧ W.cell? ⟨w.heap.size, 3, none⟩ = some (.slice B m e) ∧ W.cell? ⟨w4.heap.size, 0, none⟩ = some (.string t.a.1) ∧ W.cell? ⟨w4.heap.size, 1, none⟩ = some (.slice A4 n4 c4) ∧ W.cell? ⟨w4.heap.size, 2, none⟩ = some (.int .i64 t.r) ∧ W.cell? ⟨w4.heap.size, 3, none⟩ = some (.slice B4 m4 e4'))
      (first | exact ⟨C5.cell 0, C5.cell 1, C5.cell 2, C5.cell 3, D5.cell 0, D5.cell 1, D5.cell 2, D5.cell 3⟩ | exact ⟨C7.cell 0, C7.cell 1, C7.cell 2, C7.cell 3, D7.cell 0, D7.cell 1, D7.cell 2, D7.cell 3⟩ | exact ⟨C8.cell 0, C8.cell 1, C8.cell 2, C8.cell 3, D8.cell 0, D8.cell 1, D8.cell 2, D8.cell 3⟩)
      (first
        | ((with_reducible refine T5.mono ?_); rintro e7 w7 ⟨A7, n7, c7, B7, m7, e7', rfl, hI7, hbd⟩; have hb7 : Below w5.heap.size w5 w7 := undrew hbd; have q7 := hI7.keep (w' := w7) (lo' := 0) (hi' := w7.heap.size) (fun _ _ _ => rfl) (Nat.zero_le _) (Nat.le_refl _); clear hbd hI7; have HB7 := belowThen HB5.out hb7; have C7 := C5.below hb7; have D7 := D5.below hb7; have p7 := J5.out.up hb7; have Q7 := eqProof_any d A4 n4 c4 B4 m4 e4' A7 n7 c7 B7 m7 e7' t t w7 p7 q7)
        | ((with_reducible refine Q7.mono ?_); rintro e8 w8 ⟨rfl, hb8⟩; have HB8 := belowThen HB7 hb8; have C8 := C7.below hb8; have D8 := D7.below hb8; have tok := True.intro))
    rw [trEq_refl]
    have HB8' := Lib.hid HB8
    clear C5 D5 HBd5 T5 C7 D7 C8 D8 p7 q7 Q7 hb7 hb8 HB7 HB8
    go_wp2
    go_ret; exact ⟨rfl, HB8'.out⟩

end Go.Proofs.YtiekfjlhioekcaaDoor
