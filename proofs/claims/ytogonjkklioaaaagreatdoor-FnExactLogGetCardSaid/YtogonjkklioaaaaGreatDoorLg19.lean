/-
  Texts of one claim, put together.
-/
import Derived.Test.YtogonjkklioaaaaGreatDoorLg17
import Derived.Test.YtogonjkklioaaaaGreatDoorLg2
import Derived.Test.YtogonjkklioaaaaGreatDoorShelf4
import Derived.Test.YtogonjkklioaaaaGreatDoorLg18
import Derived.Deep.RegionHeld3
import Derived.Test.YtogonjkklioaaaaGreatDoorLg15
import Derived.Test.YtogonjkklioaaaaGreatDoorLg3
import Derived.Test.YtogonjkklioaaaaGreatDoorLg10
namespace Go.Proofs.YtogonjkklioaaaaGreatDoor
open Go.RowKit

/-- A reader, at byte i of its text. -/
def Rdr (w : World) (R : Nat) (s : ByteArray) (i : Nat) : Prop := ∃ p : Int, Blk w R 64 #[.string s, .int .i64 (i : Int), .int .i64 p]

/-- What tells a text's end is there. -/
def EofIn (w : World) : Prop := ∃ (t : TypeId) (u : Value), w.cell? ⟨0, 0, none⟩ = some (.iface t u)

theorem EofIn.below {w w' : World} (h : EofIn w) (hb : Below w.heap.size w w') : EofIn w' := by
  obtain ⟨t, u, hm⟩ := h
  exact ⟨t, u, (hb.cell (World.block_lt_of_cell? _ _ hm)).trans hm⟩
theorem EofIn.grown {w w' : World} {R : Nat} (h : EofIn w) (hb : w.grownBy w' (some R)) (hR : 0 ≠ R) : EofIn w' := by
  obtain ⟨t, u, hm⟩ := h
  exact ⟨t, u, hb.cell hm (by simp [hR])⟩

theorem Rdr.lt {w : World} {R i : Nat} {s : ByteArray} (h : Rdr w R s i) : R < w.heap.size := by
  obtain ⟨p, h⟩ := h; exact h.lt
theorem Rdr.below {w w' : World} {R i : Nat} {s : ByteArray} (h : Rdr w R s i) (hb : Below w.heap.size w w') : Rdr w' R s i := by
  obtain ⟨p, h⟩ := h; exact ⟨p, h.below hb⟩
theorem Rdr.kept {w w' : World} {R i b : Nat} {s : ByteArray} (h : Rdr w R s i) (hb : w.grownBy w' (some b)) (hne : R ≠ b) : Rdr w' R s i := by
  obtain ⟨p, h⟩ := h; exact ⟨p, h.kept hb (fun e => hne (by injection e))⟩

theorem grown_at (w : World) (R off : Nat) (v : Value) : w.grownBy (w.setCell ⟨R, off, none⟩ v) (some R) :=
  have h := World.grownBy.refl w (some R)
  ⟨h.os, h.tape, h.output, by rw [size_setCell]; exact Nat.le_refl _, fun i _ hne => Below.heap_setCell _ _ _ i (fun e => hne (by rw [e]))⟩

set_option maxHeartbeats 1000000 in
theorem rdReset_any (R i : Nat) (s t : ByteArray) (w : World) (h : Rdr w R s i) :
    Calls Tryz.prog 59 #[.pointer (some ⟨R, 0, none⟩), .string t] w fun e w' => e = .returned (.tuple #[]) ∧ Rdr w' R t 0 ∧ w.grownBy w' (some R) := by
  obtain ⟨p, h⟩ := h
  have x0 : w.cell? ⟨R, 0, none⟩ = some (.string s) := h.cell 0
  have x1 : w.cell? ⟨R, 1, none⟩ = some (.int .i64 (i : Int)) := h.cell 1
  have x2 : w.cell? ⟨R, 2, none⟩ = some (.int .i64 p) := h.cell 2
  have f0 := h.frozen 0; have f1 := h.frozen 1; have f2 := h.frozen 2
  have g1 := ((h.set 0 (.string t)).set 1 (.int .i64 0)).set 2 (.int .i64 (-1))
  have g2 := grownTrans (grownTrans (grown_at w R 0 (.string t)) (grown_at _ R 1 (.int .i64 0))) (grown_at _ R 2 (.int .i64 (-1)))
  have G1 := Lib.hid g1; have G2 := Lib.hid g2
  clear g1 g2 h
  go_enter Tryz.func59, Tryz.ntmps59
  go_wp2
  exact bodyPost_end (v := .tuple #[]) (by simp [results, Tryz.results59, go_sem]) rfl ⟨rfl, ⟨_, G1.out⟩, G2.out⟩

set_option maxHeartbeats 1000000 in
theorem rdLen_any (R i : Nat) (s : ByteArray) (w : World) (h : Rdr w R s i) (hi : i ≤ s.size) (hs : s.size ≤ 1048576) :
    Calls Tryz.prog 31 #[.pointer (some ⟨R, 0, none⟩)] w fun e w' => e = .returned (.int .i64 ((s.size - i : Nat) : Int)) ∧ Below w.heap.size w w' := by
  obtain ⟨p, h⟩ := h
  have x0 : w.cell? ⟨R, 0, none⟩ = some (.string s) := h.cell 0
  have x1 : w.cell? ⟨R, 1, none⟩ = some (.int .i64 (i : Int)) := h.cell 1
  have hw : IntKind.i64.wrap ((s.size : Int) - (i : Int)) = ((s.size - i : Nat) : Int) := by rw [IntKind.wrap_i64]; omega
  by_cases hlt : i < s.size
  · have hI : ¬ (s.size : Int) ≤ (i : Int) := by omega
    go_enter Tryz.func31, Tryz.ntmps31
    go_wp2_with fail
    go_region_held3 (fun W => W.cell? ⟨R, 0, none⟩ = some (.string s) ∧ W.cell? ⟨R, 1, none⟩ = some (.int .i64 (i : Int))) (exact ⟨x0, x1⟩) (fail)
    go_wp2_with fail
    go_region_held3 (fun W => W.cell? ⟨R, 0, none⟩ = some (.string s) ∧ W.cell? ⟨R, 1, none⟩ = some (.int .i64 (i : Int))) (exact ⟨x0, x1⟩) (fail)
    go_wp2
    go_ret
    exact ⟨rfl, (Below.refl _ _).drew.drew⟩
  · have hI : (s.size : Int) ≤ (i : Int) := by omega
    have h0 : ((s.size - i : Nat) : Int) = 0 := by omega
    go_enter Tryz.func31, Tryz.ntmps31
    go_wp2_with fail
    go_region_held3 (fun W => W.cell? ⟨R, 0, none⟩ = some (.string s) ∧ W.cell? ⟨R, 1, none⟩ = some (.int .i64 (i : Int))) (exact ⟨x0, x1⟩) (fail)
    go_wp2
    go_ret
    exact ⟨by rw [h0]; rfl, (Below.refl _ _).drew⟩

/-- A byte was read. -/
def RdBytePost (R i : Nat) (s : ByteArray) (hi : i < s.size) (w : World) (e : Ending) (w' : World) : Prop :=
  e = .returned (.tuple #[.int .u8 ((s[i]'hi).toNat : Int), .nilIface]) ∧ Rdr w' R s (i + 1) ∧ w.grownBy w' (some R)

set_option maxHeartbeats 2000000 in
theorem rdByte_any (R i : Nat) (s : ByteArray) (w : World) (h : Rdr w R s i) (hi : i < s.size) (hs : s.size ≤ 1048576) :
    Calls Tryz.prog 94 #[.pointer (some ⟨R, 0, none⟩)] w (RdBytePost R i s hi w) := by
  obtain ⟨p, h⟩ := h
  have g1 := h.set 2 (.int .i64 (-1))
  have x0 : w.cell? ⟨R, 0, none⟩ = some (.string s) := h.cell 0
  have x1 : w.cell? ⟨R, 1, none⟩ = some (.int .i64 (i : Int)) := h.cell 1
  have x2 : w.cell? ⟨R, 2, none⟩ = some (.int .i64 p) := h.cell 2
  have f2 := h.frozen 2
  have hI : ¬ (s.size : Int) ≤ (i : Int) := by omega
  have hI2 : (i : Int) < (s.size : Int) := by omega
  have hw : IntKind.i64.wrap ((i : Int) + 1) = ((i + 1 : Nat) : Int) := by rw [IntKind.wrap_i64]; omega
  go_enter Tryz.func94, Tryz.ntmps94
  go_wp2_with fail
  have G2 := Lib.hid (grown_at w R 2 (.int .i64 (-1)))
  obtain ⟨W1, hW1⟩ : ∃ W1, w.setCell ⟨R, 2, none⟩ (.int .i64 (-1)) = W1 := ⟨_, rfl⟩
  rw [hW1] at g1 G2 ⊢
  have y0 : W1.cell? ⟨R, 0, none⟩ = some (.string s) := Blk.cell g1 0
  have y1 : W1.cell? ⟨R, 1, none⟩ = some (.int .i64 (i : Int)) := Blk.cell g1 1
  have f1 : W1.frozen? ⟨R, 1, none⟩ = false := Blk.frozen g1 1
  clear hW1 x0 x1 x2 f2
  go_region_held3 (fun W => W.cell? ⟨R, 0, none⟩ = some (.string s) ∧ W.cell? ⟨R, 1, none⟩ = some (.int .i64 (i : Int))) (exact ⟨y0, y1⟩) (fail)
  go_wp2_with fail
  go_region_held3 (fun W => W.cell? ⟨R, 0, none⟩ = some (.string s) ∧ W.cell? ⟨R, 1, none⟩ = some (.int .i64 (i : Int))) (exact ⟨y0, y1⟩) (fail)
  go_wp2
  refine bodyPost_ret (results_tmp2 Tryz.results94 _ _ _) rfl ?_
  refine ⟨rfl, ⟨-1, ?_⟩, ?_⟩
  · have := Blk.set (W := W1.drew.drew) g1 1 (.int .i64 ((i + 1 : Nat) : Int))
    exact this
  · exact grownTrans (grownTrans G2.out (grown_at W1 R 1 _)) (grownBelow ((Below.refl _ _).drew.drew) (some R))

set_option maxHeartbeats 2000000 in
theorem rdEnd_any (R i : Nat) (s : ByteArray) (w : World) (h : Rdr w R s i) (hi : i = s.size) (hE : EofIn w) (hR : 0 ≠ R) :
    Calls Tryz.prog 94 #[.pointer (some ⟨R, 0, none⟩)] w fun e w' => (∃ t u, e = .returned (.tuple #[.int .u8 0, .iface t u])) ∧ Rdr w' R s i ∧ w.grownBy w' (some R) := by
  obtain ⟨p, h⟩ := h
  have g1 := h.set 2 (.int .i64 (-1))
  have x0 : w.cell? ⟨R, 0, none⟩ = some (.string s) := h.cell 0
  have x1 : w.cell? ⟨R, 1, none⟩ = some (.int .i64 (i : Int)) := h.cell 1
  have x2 : w.cell? ⟨R, 2, none⟩ = some (.int .i64 p) := h.cell 2
  have f2 := h.frozen 2
  have hI : (s.size : Int) ≤ (i : Int) := by omega
  go_enter Tryz.func94, Tryz.ntmps94
  go_wp2_with fail
  have G2 := Lib.hid (grown_at w R 2 (.int .i64 (-1)))
  obtain ⟨t, u, e1⟩ := hE.grown G2.out hR
  obtain ⟨W1, hW1⟩ : ∃ W1, w.setCell ⟨R, 2, none⟩ (.int .i64 (-1)) = W1 := ⟨_, rfl⟩
  rw [hW1] at g1 G2 e1 ⊢
  have y0 : W1.cell? ⟨R, 0, none⟩ = some (.string s) := Blk.cell g1 0
  have y1 : W1.cell? ⟨R, 1, none⟩ = some (.int .i64 (i : Int)) := Blk.cell g1 1
  clear hW1 x0 x1 x2 f2
  go_region_held3 (fun W => W.cell? ⟨R, 0, none⟩ = some (.string s) ∧ W.cell? ⟨R, 1, none⟩ = some (.int .i64 (i : Int))) (exact ⟨y0, y1⟩) (fail)
  go_wp2_with fail
  go_region_held3 (fun W => W.cell? ⟨0, 0, none⟩ = some (.iface t u)) (exact e1) (fail)
  go_wp2
  refine bodyPost_ret (results_tmp2 Tryz.results94 _ _ _) rfl ?_
  exact ⟨⟨t, u, rfl⟩, ⟨-1, g1⟩, grownTrans G2.out (grownBelow ((Below.refl _ _).drew.drew) (some R))⟩

end Go.Proofs.YtogonjkklioaaaaGreatDoor

namespace Go.Proofs.YtogonjkklioaaaaGreatDoor
open Go.RowKit

theorem byte_there {s : ByteArray} {i : Nat} {pre post : List UInt8} {b : UInt8} (h : s.data.toList.drop i = pre ++ b :: post) (hi : i ≤ s.size) : ∃ hj : i + pre.length < s.size, s[i + pre.length]'hj = b := by
  have h1 := congrArg List.length h
  have h0 : s.data.toList.length = s.size := by simp
  simp only [List.length_drop, List.length_append, List.length_cons, h0] at h1
  have hj : i + pre.length < s.size := by omega
  refine ⟨hj, ?_⟩
  have h2 : (s.data.toList.drop i)[pre.length]? = some b := by rw [h]; simp
  rw [List.getElem?_drop] at h2
  have hj2 : i + pre.length < s.data.toList.length := by omega
  rw [List.getElem?_eq_getElem hj2] at h2
  exact Option.some.inj h2

theorem rest_end {s : ByteArray} {i : Nat} {pre : List UInt8} (h : s.data.toList.drop i = pre) (hi : i ≤ s.size) : i + pre.length = s.size := by
  have h1 := congrArg List.length h
  have h0 : s.data.toList.length = s.size := by simp
  simp only [List.length_drop, h0] at h1
  omega

theorem grownOn {w wr w5 : World} {R : Nat} (hg : w.grownBy wr (some R)) (hb : Below w.heap.size wr w5) : w.grownBy w5 (some R) :=
  ⟨hb.os.trans hg.os, hb.tape.trans hg.tape, hb.output.trans hg.output, Nat.le_trans hg.size hb.size, fun k hk hne => (hb.block k hk).trans (hg.block k hk hne)⟩

theorem Rdr.under {w w' : World} {R i B : Nat} {s : ByteArray} (h : Rdr w R s i) (hb : Below B w w') (hR : R < B) : Rdr w' R s i := by
  obtain ⟨p, h⟩ := h; exact ⟨p, (hb.block R hR).trans h⟩

theorem bytes_step (l : List UInt8) (b : UInt8) : Lib.byteCells l ++ [.int .u8 (b.toNat : Int)] = Lib.byteCells (l ++ [b]) := by unfold Lib.byteCells; simp

theorem builderGrown {T e : TypeId} {B b R : Nat} {bs : List Value} {W W' : World} (h : Lib.IsBuilder T e B b bs W) (hg : W.grownBy W' (some R)) (hR : R < B) : Lib.IsBuilder T e B b bs W' := by
  have key : ∀ p, Lib.BuilderAt T e B b p bs W → Lib.BuilderAt T e B b p bs W' := fun p ⟨h1, v, h2, h3, h4⟩ =>
    ⟨h1, v, (hg.block b (Array.getElem?_eq_some_iff.1 h2).1 (fun e => by injection e with e; omega)).trans h2, World.ownsRow.kept h3 hg (ownNe h3 (by omega)), h4⟩
  rcases h with h | h
  · exact .inl (key _ h)
  · exact .inr (key _ h)

/-- What lies ahead of a mark was read, and the mark; or there is none. -/
def UntilPost (R i : Nat) (s : ByteArray) (c : UInt8) (w : World) (e : Ending) (w' : World) : Prop :=
  ((∃ pre post, s.data.toList.drop i = pre ++ c :: post ∧ c ∉ pre ∧ e = .returned (.tuple #[.string ⟨pre.toArray⟩, .bool true]) ∧ Rdr w' R s (i + pre.length + 1)) ∨
   (c ∉ s.data.toList.drop i ∧ e = .returned (.tuple #[.string ⟨#[]⟩, .bool false]) ∧ Rdr w' R s s.size)) ∧ w.grownBy w' (some R)

set_option maxRecDepth 100000 in
set_option maxHeartbeats 4000000 in
theorem until_any (R i : Nat) (s : ByteArray) (c : UInt8) (w : World) (h : Rdr w R s i) (hi : i ≤ s.size) (hs : s.size ≤ 1048576) (hE : EofIn w) (hR : 0 ≠ R) :
    Calls Tryz.prog 60 #[.pointer (some ⟨R, 0, none⟩), .int .u8 (c.toNat : Int)] w (UntilPost R i s c w) := by
  have hlR := h.lt
  have hb0 := below1 w (.cells #[.pointer none, .slice none 0 0] 48)
  have R0 := Lib.hid (h.below hb0)
  have B0 : Hid (Lib.IsBuilder 48 5 w.heap.size w.heap.size (Lib.byteCells []) (w.alloc (.cells #[.pointer none, .slice none 0 0] 48))) := Lib.hid (.inl ⟨Nat.le_refl _, .slice none 0 0, World.alloc_heap_new w _, ⟨rfl, .inl ⟨rfl, rfl⟩⟩, by simp [Value.ownBlock]⟩)
  have G0 := Lib.hid (grownBelow hb0 (some R))
  clear h
  go_enter Tryz.func60, Tryz.ntmps60
  go_wp2_with fail
  go_loopw [] (fun wr => ∃ (pre post : List UInt8), s.data.toList.drop i = pre ++ post ∧ c ∉ pre ∧ Rdr wr R s (i + pre.length) ∧ Lib.IsBuilder 48 5 w.heap.size w.heap.size (Lib.byteCells pre) wr ∧ w.grownBy wr (some R)) (fun wr => match wr.cell? ⟨R, 1, none⟩ with | some (.int _ j) => s.size - j.toNat | _ => 0)
  case atStart => exact ⟨[], _, rfl, by simp, R0.out, B0.out, G0.out⟩
  case round =>
    obtain ⟨pre, post, hp, hc, hr, hb, hg⟩ := hrel
    clear R0 B0 G0
    have HP := Lib.hid hp; have HR := Lib.hid hr; have HB := Lib.hid hb; have HG := Lib.hid hg; have HC := Lib.hid hc
    have hwr := hg.size
    have hEr := hE.grown hg hR
    have y1 : wr.cell? ⟨R, 1, none⟩ = some (.int .i64 ((i + pre.length : Nat) : Int)) := by obtain ⟨p, hr⟩ := hr; exact hr.cell 1
    clear hp hr hb hg hc
    cases post with
    | nil =>
      have hpe := HP.out
      rw [List.append_nil] at hpe
      have hend := rest_end hpe hi
      go_wp2_with fail
      refine (rdEnd_any R (i + pre.length) s wr HR.out hend hEr hR).mono ?_; rintro e w5 ⟨⟨t, u, rfl⟩, hr5, hg5⟩
      rw [hend] at hr5
      have HR5 := Lib.hid hr5; have HG5 := Lib.hid (grownTrans HG.out hg5)
      clear hr5 hg5
      go_wp2
      refine bodyPost_ret (results_tmp2 Tryz.results60 _ _ _) rfl ⟨.inr ⟨by rw [hpe]; exact HC.out, rfl, HR5.out⟩, HG5.out⟩
    | cons b post =>
      obtain ⟨hj, hbe⟩ := byte_there HP.out hi
      have hpl : pre.length ≤ 1048576 := by omega
      go_wp2_with fail
      refine (rdByte_any R (i + pre.length) s wr HR.out hj hs).mono ?_; rintro e w5 ⟨rfl, hr5, hg5⟩
      rw [hbe]
      have HR5 := Lib.hid hr5; have HG5 := Lib.hid (grownTrans HG.out hg5)
      have HB5 := Lib.hid (builderGrown HB.out hg5 hlR)
      have hz5 := HG5.out.size
      clear hr5 hg5 HB HR hbe
      by_cases hbc : b = c
      · subst hbc
        go_wp2_with fail
        refine (Tryz.Builder_String_any w.heap.size w.heap.size pre w5 HB5.out hz5).mono ?_; rintro e w6 ⟨rfl, hb6⟩
        have HG6 := Lib.hid (grownOn HG5.out hb6)
        have HR6 := Lib.hid (HR5.out.under hb6 hlR)
        go_wp2
        refine bodyPost_ret (results_tmp2 Tryz.results60 _ _ _) rfl ⟨.inl ⟨pre, post, HP.out, HC.out, rfl, HR6.out⟩, HG6.out⟩
      · have hbI : ¬ (b.toNat : Int) = (c.toNat : Int) := fun e => hbc (UInt8.toNat_inj.1 (by omega))
        go_wp2_with fail
        refine (Tryz.Builder_WriteByte w.heap.size w.heap.size (Lib.byteCells pre) (b.toNat : Int) w5 HB5.out (by rw [Lib.byteCells_length]; omega) hz5).mono ?_; rintro e w6 ⟨rfl, hB6, hb6⟩
        have HG6 := Lib.hid (grownOn HG5.out hb6)
        have hr6 := HR5.out.under hb6 hlR
        have HB6 : Hid (Lib.IsBuilder 48 5 w.heap.size w.heap.size (Lib.byteCells (pre ++ [b])) w6) := Lib.hid (by rw [← bytes_step]; exact .inr hB6)
        have y6 : w6.cell? ⟨R, 1, none⟩ = some (.int .i64 ((i + pre.length + 1 : Nat) : Int)) := by obtain ⟨p, hr⟩ := hr6; exact hr.cell 1
        have HR6 := Lib.hid (show Rdr w6 R s (i + (pre ++ [b]).length) by rw [List.length_append]; exact hr6)
        clear hb6 hB6 hr6
        go_wp2
        go_roundw
        case rel => exact ⟨pre ++ [b], post, by rw [HP.out]; simp, by
          intro hm
          rcases List.mem_append.1 hm with hm | hm
          · exact HC.out hm
          · exact hbc (List.mem_singleton.1 hm).symm, HR6.out, HB6.out, HG6.out⟩
        case measure =>
          rw [y6, y1]
          show s.size - ((i + pre.length + 1 : Nat) : Int).toNat < s.size - ((i + pre.length : Nat) : Int).toNat
          omega

end Go.Proofs.YtogonjkklioaaaaGreatDoor

namespace Go.Proofs.YtogonjkklioaaaaGreatDoor
open Go.RowKit

/-- A sign and an atom were read, and the blank behind them; or there are none. -/
def SignPost (R i : Nat) (s : ByteArray) (w : World) (e : Ending) (w' : World) : Prop :=
  ∃ (x : UInt8) (r : Rf) (ok : Bool) (j : Nat), e = .returned (.tuple #[.int .u8 (x.toNat : Int), rfVal r, .bool ok]) ∧ j ≤ s.size ∧ Rdr w' R s j ∧ HeadApart w' w.heap.size w'.heap.size r ∧ w.grownBy w' (some R) ∧
    (ok = true → ∃ p post, s.data.toList.drop i = (x :: p) ++ 32 :: post ∧ 32 ∉ x :: p ∧ getB p = some (rAt r) ∧ j = i + p.length + 2) ∧
    (ok = false → ∀ y p post, s.data.toList.drop i = (y :: p) ++ 32 :: post → 32 ∉ y :: p → getB p = none)

theorem MaxIn.grown {w w' : World} {R : Nat} (h : MaxIn w) (hb : w.grownBy w' (some R)) (hR : 1 ≠ R) : MaxIn w' := by
  obtain ⟨m, hm⟩ := h
  exact ⟨m, hb.cell hm (by simp [hR])⟩

theorem mark_first {c : UInt8} : ∀ {a b x y : List UInt8}, a ++ c :: x = b ++ c :: y → c ∉ a → c ∉ b → a = b ∧ x = y
  | [], [], x, y, h, _, _ => ⟨rfl, by simpa using h⟩
  | [], d :: b, x, y, h, _, hb => by simp at h; exact absurd h.1 (fun e => hb (by rw [e]; simp))
  | d :: a, [], x, y, h, ha, _ => by simp at h; exact absurd h.1.symm (fun e => ha (by rw [e]; simp))
  | d :: a, e :: b, x, y, h, ha, hb => by
    simp only [List.cons_append, List.cons.injEq] at h
    obtain ⟨h1, h2⟩ := mark_first h.2 (fun hm => ha (by simp [hm])) (fun hm => hb (by simp [hm]))
    exact ⟨by rw [h.1, h1], h2⟩

theorem mark_len {s : ByteArray} {i : Nat} {pre post : List UInt8} {b : UInt8} (h : s.data.toList.drop i = pre ++ b :: post) (hi : i ≤ s.size) : i + pre.length + 1 ≤ s.size := by
  obtain ⟨hj, _⟩ := byte_there h hi
  omega

set_option maxRecDepth 100000 in
set_option maxHeartbeats 4000000 in
theorem signed_any (R i : Nat) (s : ByteArray) (w : World) (h : Rdr w R s i) (hi : i ≤ s.size) (hs : s.size ≤ 1048576) (hE : EofIn w) (hR : 0 ≠ R) (hm : MaxIn w) (hR2 : 1 ≠ R) :
    Calls Tryz.prog 32 #[.pointer (some ⟨R, 0, none⟩)] w (SignPost R i s w) := by
  have hlR := h.lt
  have hb0 := below1 w (.cells #[.string ⟨#[]⟩, .slice none 0 0] 51)
  have R0 := Lib.hid (h.below hb0)
  have X0 := Lib.hid (Blk.new w 51 #[.string ⟨#[]⟩, .slice none 0 0])
  have G0 := Lib.hid (grownBelow hb0 (some R))
  have E0 := hE.below hb0
  obtain ⟨W0, hW0⟩ : ∃ W0, w.alloc (.cells #[.string ⟨#[]⟩, .slice none 0 0] 51) = W0 := ⟨_, rfl⟩
  clear h hb0
  go_enter Tryz.func32, Tryz.ntmps32
  go_wp2_with fail
  have hz0 : W0.heap.size = w.heap.size + 1 := by rw [← hW0]; simp
  rw [hW0] at R0 X0 G0 E0
  clear hW0
  refine (until_any R i s 32 W0 R0.out hi hs E0 hR).mono ?_; rintro e w1 ⟨hcase, hg1⟩
  have G1 := Lib.hid (grownTrans G0.out hg1)
  have X1 := Lib.hid (X0.out.kept hg1 (fun e => by injection e with e; omega))
  have hz1 := hg1.size
  clear hg1 R0 X0 G0
  have NO : ∀ (j : Nat), j ≤ s.size → Rdr w1 R s j → (∀ y p post, s.data.toList.drop i = (y :: p) ++ 32 :: post → 32 ∉ y :: p → getB p = none) → SignPost R i s w (.returned (.tuple #[.int .u8 0, .agg #[.string ⟨#[]⟩, .slice none 0 0], .bool false])) ((w1.setCell ⟨w.heap.size, 0, none⟩ (.string ⟨#[]⟩)).setCell ⟨w.heap.size, 1, none⟩ (.slice none 0 0)) := by
    intro j hj hr hno
    refine ⟨0, noRf, false, j, rfl, hj, ?_, noRf_apart, ?_, (fun h => by cases h), fun _ => hno⟩
    · obtain ⟨p, hr⟩ := hr
      exact ⟨p, (Blk.far hr (p := ⟨w.heap.size, 0, none⟩) (by show R ≠ w.heap.size; omega) _).far (by show R ≠ w.heap.size; omega) _⟩
    · exact ⟨G1.out.os, G1.out.tape, G1.out.output, by simp only [size_setCell]; exact G1.out.size, fun q hq hne => (Below.heap_setCell _ _ _ q (by show q ≠ w.heap.size; omega)).trans ((Below.heap_setCell _ _ _ q (by show q ≠ w.heap.size; omega)).trans (G1.out.block q hq hne))⟩
  have HNO := Lib.hid NO; clear NO
  have x0 : w1.cell? ⟨w.heap.size, 0, none⟩ = some (.string ⟨#[]⟩) := X1.out.cell 0
  have x1 : w1.cell? ⟨w.heap.size, 1, none⟩ = some (.slice none 0 0) := X1.out.cell 1
  have q0 := X1.out.frozen 0; have q1 := X1.out.frozen 1
  rcases hcase with ⟨pre, post, hp, hc, rfl, hr1⟩ | ⟨hc, rfl, hr1⟩
  · have hl := mark_len hp hi
    cases pre with
    | nil =>
      have HR1 := Lib.hid hr1; have HP := Lib.hid hp
      clear hr1 hp
      go_wp2
      refine bodyPost_ret (v := .tuple #[.int .u8 0, .agg #[.string ⟨#[]⟩, .slice none 0 0], .bool false]) (by simp [results, Tryz.results32, go_sem, x0, x1]) rfl (HNO.out _ (by simpa using hl) HR1.out fun y p post' h1 h2 => ?_)
      rw [HP.out] at h1
      simp at h1
      exact absurd h1.1 (fun e => h2 (by rw [e]; simp))
    | cons x p =>
      have HR1 := Lib.hid hr1; have HP := Lib.hid hp; have HC := Lib.hid hc
      obtain ⟨L, hL⟩ : ∃ L, x :: p = L := ⟨_, rfl⟩
      have HL := Lib.hid hL
      rw [hL]
      have hne : ¬ L = [] := by rw [← hL]; simp
      have hne2 : (L == []) = false := by rw [beq_eq_false_iff_ne]; exact hne
      have hlen : L.length = p.length + 1 := by rw [← hL]; simp
      clear hr1 hp hc hL
      go_wp2_with fail
      obtain ⟨T, hT⟩ : ∃ T : ByteArray, (⟨L.toArray⟩ : ByteArray).extract 1 (p.length + 1) = T := ⟨_, rfl⟩
      have hTd : T.data.toList = p := by rw [← hT, ← HL.out]; simp [ByteArray.data_extract]
      have hTs : T.size ≤ 1048576 := by
        have h1 : T.size = T.data.toList.length := by simp
        have h2 : (x :: p).length = p.length + 1 := rfl
        rw [h1, hTd]; omega
      rw [hT]
      have hm1 : MaxIn w1 := hm.grown G1.out hR2
      clear hT
      refine (implAtomGet_any T w1 hTs hm1).mono ?_; rintro e w2 ⟨r, rfl, hH, hr, hb2⟩
      rw [hTd] at hr ⊢
      unfold rfVal
      have hLx := HL.out
      subst hLx
      clear HL
      have hbx := below1 w2 (.cells #[.string r.1, .slice r.2.1 r.2.2.1 r.2.2.2.1] 51)
      have X2 := (X1.out.below hb2).below hbx
      have Y2 := Blk.new w2 51 #[.string r.1, .slice r.2.1 r.2.2.1 r.2.2.2.1]
      have HR2 := (HR1.out.below hb2).below hbx
      have G2 := grownTrans G1.out (grownBelow (belowThen hb2 hbx) (some R))
      have hz2 := hb2.size
      obtain ⟨W2, hW2⟩ : ∃ W2, w2.alloc (.cells #[.string r.1, .slice r.2.1 r.2.2.1 r.2.2.2.1] 51) = W2 := ⟨_, rfl⟩
      have hzW : W2.heap.size = w2.heap.size + 1 := by rw [← hW2]; simp
      have hHW : HeadApart W2 w1.heap.size w2.heap.size r := hH.keep (fun b _ h2 => by rw [← hW2]; exact hbx.block b h2) (Nat.le_refl _) (Nat.le_refl _)
      go_wp2_with fail
      rw [hW2] at X2 Y2 HR2 G2
      have e0 : W2.cell? ⟨w2.heap.size, 0, none⟩ = some (.string r.1) := Y2.cell 0
      have e1 : W2.cell? ⟨w2.heap.size, 1, none⟩ = some (.slice r.2.1 r.2.2.1 r.2.2.2.1) := Y2.cell 1
      have d0 : W2.cell? ⟨w.heap.size, 0, none⟩ = some (.string ⟨#[]⟩) := X2.cell 0
      have d1 : W2.cell? ⟨w.heap.size, 1, none⟩ = some (.slice none 0 0) := X2.cell 1
      have u0 := X2.frozen 0; have u1 := X2.frozen 1
      clear x0 x1 q0 q1
      have far : ∀ k, (⟨w.heap.size, 0, none⟩ : Addr) ≠ ⟨w2.heap.size, k, none⟩ ∧ (⟨w.heap.size, 1, none⟩ : Addr) ≠ ⟨w2.heap.size, k, none⟩ := fun k => ⟨fun e => by (injection e with e; omega), fun e => by (injection e with e; omega)⟩
      have k0 : ((W2.setCell ⟨w.heap.size, 0, none⟩ (.string r.1)).setCell ⟨w.heap.size, 1, none⟩ (.slice r.2.1 r.2.2.1 r.2.2.2.1)).cell? ⟨w2.heap.size, 0, none⟩ = some (.string r.1) := (World.cell?_setCell_other _ _ _ _ (far 0).2).trans ((World.cell?_setCell_other _ _ _ _ (far 0).1).trans e0)
      have k1 : ((W2.setCell ⟨w.heap.size, 0, none⟩ (.string r.1)).setCell ⟨w.heap.size, 1, none⟩ (.slice r.2.1 r.2.2.1 r.2.2.2.1)).cell? ⟨w2.heap.size, 1, none⟩ = some (.slice r.2.1 r.2.2.1 r.2.2.2.1) := (World.cell?_setCell_other _ _ _ _ (far 1).2).trans ((World.cell?_setCell_other _ _ _ _ (far 1).1).trans e1)
      clear far
      go_region_held3 (fun W => W.cell? ⟨w2.heap.size, 0, none⟩ = some (.string r.1) ∧ W.cell? ⟨w2.heap.size, 1, none⟩ = some (.slice r.2.1 r.2.2.1 r.2.2.2.1)) (first | exact ⟨e0, e1⟩ | exact ⟨k0, k1⟩) (fail)
      go_wp2
      refine bodyPost_ret (v := .tuple #[.int .u8 (x.toNat : Int), .agg #[.string r.1, .slice r.2.1 r.2.2.1 r.2.2.2.1], .bool (getB p).isSome]) (by simp [results, Tryz.results32, go_sem, d0, d1]; rfl) rfl ⟨x, r, (getB p).isSome, _, rfl, hl, ?_, ?_, ?_, fun h1 => ?_, fun h1 y p' post' h2 h3 => ?_⟩
      · obtain ⟨q, hr⟩ := HR2
        exact ⟨q, (Blk.far hr (p := ⟨w.heap.size, 0, none⟩) (by show R ≠ w.heap.size; omega) _).far (by show R ≠ w.heap.size; omega) _⟩
      · refine hHW.keep (fun b h1 _ => (Below.heap_setCell _ _ _ b (by show b ≠ w.heap.size; omega)).trans (Below.heap_setCell _ _ _ b (by show b ≠ w.heap.size; omega))) (by omega) (by simp only [size_setCell, World.drew]; omega)
      · exact ⟨G2.os, G2.tape, G2.output, by simp only [size_setCell, World.drew]; omega, fun q hq hne => (Below.heap_setCell _ _ _ q (by show q ≠ w.heap.size; omega)).trans ((Below.heap_setCell _ _ _ q (by show q ≠ w.heap.size; omega)).trans (G2.block q hq hne))⟩
      · obtain ⟨a, ha⟩ := Option.isSome_iff_exists.1 h1
        rw [ha] at hr
        exact ⟨p, post, HP.out, HC.out, by rw [ha]; exact congrArg some hr.symm, by simp only [List.length_cons]; omega⟩
      · rw [HP.out] at h2
        obtain ⟨h4, _⟩ := mark_first h2 HC.out h3
        injection h4 with _ h4
        rw [← h4]
        cases hg : getB p with
        | none => rfl
        | some a => rw [hg] at h1; cases h1
  · have HR1 := Lib.hid hr1; have HC := Lib.hid hc
    clear hr1 hc
    go_wp2
    refine bodyPost_ret (v := .tuple #[.int .u8 0, .agg #[.string ⟨#[]⟩, .slice none 0 0], .bool false]) (by simp [results, Tryz.results32, go_sem, x0, x1]) rfl (HNO.out _ (Nat.le_refl _) HR1.out fun y p post' h1 h2 => ?_)
    exact absurd (by rw [h1]; simp) HC.out

end Go.Proofs.YtogonjkklioaaaaGreatDoor

namespace Go.Proofs.YtogonjkklioaaaaGreatDoor
open Go.RowKit

theorem pw_all {α : Type} {R : α → α → Prop} : ∀ (l : List α), (∀ a ∈ l, ∀ b ∈ l, R a b) → l.Pairwise R
  | [], _ => .nil
  | x :: r, h => .cons (fun b hb => h x (by simp) b (by simp [hb])) (pw_all r fun a ha b hb => h a (by simp [ha]) b (by simp [hb]))

/-- Signs, and atoms behind them. -/
abbrev Sg := UInt8 × At
def encS (l : List Sg) : List UInt8 := l.flatMap fun x => x.1 :: (textL x.2 ++ [32])
/-- What comes and what goes, with signs. -/
def sgs (xs ys : List At) : List Sg := ys.map (fun a => (45, a)) ++ xs.map (fun a => (43, a))

theorem encS_cons (x : Sg) (l : List Sg) : encS (x :: l) = x.1 :: (textL x.2 ++ 32 :: encS l) := by simp [encS]
theorem encS_app (l m : List Sg) : encS (l ++ m) = encS l ++ encS m := by simp [encS]

theorem encS_sgs (xs ys : List At) : encS (sgs xs ys) = chL xs ys := by
  unfold encS sgs chL signL
  rw [List.flatMap_append, List.flatMap_map, List.flatMap_map]

theorem encS_prefix : ∀ {T W : List Sg} {rest : List UInt8}, (∀ x ∈ W, atomB x.2 = true) → (∀ x ∈ T, atomB x.2 = true) → encS W = encS T ++ rest → ∃ V, W = T ++ V ∧ rest = encS V
  | [], W, rest, _, _, h => ⟨W, rfl, by simpa [encS] using h.symm⟩
  | x :: T, [], rest, _, _, h => by rw [encS_cons] at h; simp [encS] at h
  | x :: T, y :: W, rest, hW, hT, h => by
    rw [encS_cons, encS_cons, List.cons_append, List.append_assoc, List.cons_append] at h
    injection h with h1 h2
    have hy := hW y (by simp)
    have hx := hT x (by simp)
    obtain ⟨h3, h4⟩ := mark_first h2 (text_no_blank hy) (text_no_blank hx)
    have h5 : y.2 = x.2 := by
      have e1 := getB_text hy
      rw [h3, getB_text hx] at e1
      exact (Option.some.inj e1).symm
    obtain ⟨V, h6, h7⟩ := encS_prefix (fun z hz => hW z (by simp [hz])) (fun z hz => hT z (by simp [hz])) h4
    exact ⟨V, by rw [h6, show y = x from Prod.ext h1 h5]; rfl, h7⟩

theorem sgs_atoms {xs ys : List At} (hx : ∀ a ∈ xs, atomB a = true) (hy : ∀ a ∈ ys, atomB a = true) : ∀ z ∈ sgs xs ys, atomB z.2 = true := by
  intro z hz
  unfold sgs at hz
  rcases List.mem_append.1 hz with hz | hz
  · obtain ⟨a, ha, rfl⟩ := List.mem_map.1 hz; exact hy a ha
  · obtain ⟨a, ha, rfl⟩ := List.mem_map.1 hz; exact hx a ha

theorem sgs_inj {xs ys xs' ys' : List At} (h : sgs xs ys = sgs xs' ys') : xs = xs' ∧ ys = ys' := by
  have key : ∀ us vs : List At, (sgs us vs).filterMap (fun z => if z.1 = 43 then some z.2 else none) = us ∧ (sgs us vs).filterMap (fun z => if z.1 = 45 then some z.2 else none) = vs := by
    intro us vs
    unfold sgs
    simp [List.filterMap_append, List.filterMap_map, Function.comp_def]
  have k1 := key xs ys; have k2 := key xs' ys'
  rw [h] at k1
  exact ⟨k1.1.symm.trans k2.1, k1.2.symm.trans k2.2⟩

/-- A change's text is no other change's. -/
theorem chL_inj {xs ys xs' ys' : List At} (h : changeB xs ys = true) (h' : changeB xs' ys' = true) (he : chL xs ys = chL xs' ys') : xs = xs' ∧ ys = ys' := by
  obtain ⟨_, _, a1, a2⟩ := change_put h
  obtain ⟨_, _, b1, b2⟩ := change_put h'
  rw [← encS_sgs, ← encS_sgs] at he
  obtain ⟨V, h1, h2⟩ := encS_prefix (rest := []) (sgs_atoms a1 a2) (sgs_atoms b1 b2) (by rw [List.append_nil]; exact he)
  cases V with
  | nil => rw [List.append_nil] at h1; exact sgs_inj h1
  | cons z V => rw [encS_cons] at h2; cases h2

/-- Where the next sign or atom is wrong there is no change that has the text. -/
theorem no_change {l rest : List UInt8} {cs gs : List At} (hl : l = chL cs gs ++ rest) (hc : ∀ a ∈ cs, atomB a = true) (hg : ∀ a ∈ gs, atomB a = true) (hr : rest ≠ [])
    (hno : ∀ y p post a, rest = (y :: p) ++ 32 :: post → 32 ∉ y :: p → getB p = some a → ¬ (y = 45 ∧ cs = []) ∧ y ≠ 43) (xs ys : List At) (h : changeB xs ys = true) : l ≠ chL xs ys := by
  intro he
  obtain ⟨_, _, a1, a2⟩ := change_put h
  rw [hl, ← encS_sgs, ← encS_sgs] at he
  obtain ⟨V, h1, h2⟩ := encS_prefix (sgs_atoms a1 a2) (sgs_atoms hc hg) he.symm
  cases V with
  | nil => exact hr (by rw [h2]; rfl)
  | cons z V =>
    have hz : z ∈ sgs xs ys := by rw [h1]; simp
    have hza := sgs_atoms a1 a2 z hz
    have hz4 : z.1 = 45 ∨ z.1 = 43 := by
      unfold sgs at hz
      rcases List.mem_append.1 hz with hz | hz
      · obtain ⟨a, _, rfl⟩ := List.mem_map.1 hz; exact .inl rfl
      · obtain ⟨a, _, rfl⟩ := List.mem_map.1 hz; exact .inr rfl
    have h32 : (32 : UInt8) ∉ z.1 :: textL z.2 := by
      intro hm
      rcases List.mem_cons.1 hm with hm | hm
      · rcases hz4 with e | e <;> rw [e] at hm <;> exact absurd hm (by decide)
      · exact text_no_blank hza hm
    obtain ⟨n1, n2⟩ := hno z.1 (textL z.2) (encS V) z.2 (by rw [h2, encS_cons]; rfl) h32 (getB_text hza)
    rcases hz4 with e | e
    · cases cs with
      | nil => exact n1 ⟨e, rfl⟩
      | cons c cs =>
        unfold sgs at h1
        have hp : (ys.map (fun a => ((45, a) : Sg)) ++ xs.map (fun a => ((43, a) : Sg))).Pairwise (fun u v : Sg => u.1 = 43 → v.1 = 43) := by
          rw [List.pairwise_append]
          refine ⟨pw_all _ fun u hu v _ h => ?_, pw_all _ fun u _ v hv _ => ?_, fun u hu v hv h => ?_⟩
          · obtain ⟨a, _, rfl⟩ := List.mem_map.1 hu
            exact absurd h (show ¬ (45 : UInt8) = 43 by decide)
          · obtain ⟨a, _, rfl⟩ := List.mem_map.1 hv
            rfl
          · obtain ⟨a, _, rfl⟩ := List.mem_map.1 hu
            exact absurd h (show ¬ (45 : UInt8) = 43 by decide)
        rw [h1, List.pairwise_append] at hp
        have := hp.2.2 (43, c) (by simp) z (by simp) rfl
        rw [e] at this
        exact absurd this (by decide)
    · exact n2 e

end Go.Proofs.YtogonjkklioaaaaGreatDoor
