/-
  Texts of one claim, put together.
-/
import Derived.Test.YtogonjkklioaaaaGreatDoorZq
import Derived.Test.YtogonjkklioaaaaGreatDoorLt43
import Derived.Test.YtogonjkklioaaaaGreatDoorLt22
import Derived.Test.YtogonjkklioaaaaGreatDoorLt24
import Derived.Test.YtogonjkklioaaaaGreatDoorLt25
import Derived.Test.YtogonjkklioaaaaGreatDoorLt21
import Derived.Test.YtogonjkklioaaaaGreatDoorLt23
import Derived.Test.YtogonjkklioaaaaGreatDoorLt18
import Derived.Test.YtogonjkklioaaaaGreatDoorLt26
set_option maxRecDepth 100000
set_option maxHeartbeats 8000000
namespace Go.Proofs.YtogonjkklioaaaaGreatDoor
open Go.RowKit
end Go.Proofs.YtogonjkklioaaaaGreatDoor

namespace Go.Proofs.YtogonjkklioaaaaGreatDoor
/-! Texts cut at marks of several bytes. -/
/-! Atoms. -/
theorem argOf_term {t : Tm} (h : zgm t = true) : zek t.2.data.toList = t := by
  obtain ⟨v, s⟩ := t; unfold zek; have e : (⟨s.data.toList.toArray⟩ : ByteArray) = s := by cases s; rfl
  show ((match s.data.toList with | [] => false | c :: _ => zcq c), (⟨s.data.toList.toArray⟩ : ByteArray)) = (v, s); rw [e]; congr 1
  cases hl : s.data.toList with
  | nil =>
    unfold zgm varB zif zdp at h; cases v
    · simp [hl] at h
    · simp [hl] at h
  | cons c r =>
    unfold zgm at h; cases v
    · have h2 := zhv (c := c) (l := s.data.toList) qbi (by rw [hl]; simp)
      show zcq c = false; cases hc : zcq c
      · rfl
      · unfold zcq at hc
        unfold zgj at h2; simp only [Bool.and_eq_true, decide_eq_true_eq] at hc; have : ¬ (97 ≤ (c.toNat : Int)) := qaa; have : ¬ ((c.toNat : Int) ≤ 57) := qaa; simp only [Bool.not_eq_true', Bool.and_eq_false_iff, Bool.or_eq_false_iff, decide_eq_false_iff_not] at h2; omega
    · have h2 : varB s.data.toList = true := qbi
      rw [hl] at h2; unfold varB at h2; simp only [Bool.and_eq_true] at h2; exact h2.1.1
theorem zme {c : UInt8} : ∀ (xs : List (List UInt8)), xs ≠ [] → (∀ x ∈ xs, c ∉ x) → zfi c (Lib.join xs [c]) = xs
  | [], h, _ => absurd rfl h
  | [x], _, h => by rw [Lib.join_one, zdj (h x qag)]
  | x :: y :: r, _, h => by
    have e : Lib.join (x :: y :: r) [c] = x ++ c :: Lib.join (y :: r) [c] := by
      rw [Lib.join_cons, zgd, Lib.join_cons]; simp
    rw [e, zbz (h x qag), zme (y :: r) qag (fun z hz => h z (by simp [hz]))]
theorem termsOf_join {ts : List Tm} (h : ∀ t ∈ ts, zgm t = true) : zay (Lib.join (zak ts) [44]) = ts := by
  cases ts with
  | nil => rfl
  | cons t r =>
    have hne : ∀ u : Tm, zgm u = true → u.2.data.toList ≠ [] := by
      intro u hu e; unfold zgm varB zif zdp at hu; rw [e] at hu; cases hv : u.1 <;> simp [hv] at hu
    have hj : Lib.join (zak (t :: r)) [44] ≠ [] := by
      have e : zak (t :: r) = t.2.data.toList :: zak r := rfl; rw [e, Lib.join_cons]; intro e2; exact hne t (h t qag) (List.append_eq_nil_iff.1 e2).1
    unfold zay; rw [if_neg hj, zme _ (by unfold zak; simp) ?_]
    · unfold zak
      rw [List.map_map]
      conv => rhs; rw [← List.map_id (t :: r)]
      exact List.map_congr_left fun u hu => argOf_term (h u hu)
    · intro x hx hm
      unfold zak at hx; obtain ⟨u, hu, rfl⟩ := List.mem_map.1 hx; exact zjm (.inr (.inr (.inl rfl))) (term_plain (h u hu) hm)
theorem zju {a : At} (h : zav a = true) : zjw (zau a) = some a := by
  obtain ⟨h1, h2, h3⟩ := zll h; have hx : (40 : UInt8) ∉ a.1.data.toList := fun hm => zjm (.inl rfl) (.inl (zhv h1 hm)); have hl : zau a = a.1.data.toList ++ 40 :: (Lib.join (zak a.2) [44] ++ [41]) := by unfold zau; simp
  have a2 : Lib.cut (zau a) [40] = (a.1.data.toList, Lib.join (zak a.2) [44] ++ [41], true) := by rw [hl]; exact zhk hx
  obtain ⟨y, hy, ht⟩ := zkj (zfg 41 (Lib.join (zak a.2) [44])); have hyy : Lib.join (zak a.2) [44] = y := List.append_inj_left' hy rfl
  have hA : zgw (zau a) = a := by
    unfold zgw; rw [a2]; show (_, zay (Lib.trimSuffix (Lib.join (zak a.2) [44] ++ [41]) [41])) = a; rw [ht, ← hyy, termsOf_join h2]
  have a3 : zes (zau a) = true := by
    unfold zes; rw [hA, a2, h]; show (true && (Lib.hasSuffix (Lib.join (zak a.2) [44] ++ [41]) [41] && true)) = true; rw [zfg]; rfl
  rw [getB_yes (Nat.le_trans (zms h) qam) a3, hA]
/-! Parts. -/
/-! Rules. -/
end Go.Proofs.YtogonjkklioaaaaGreatDoor

namespace Go.Proofs.YtogonjkklioaaaaGreatDoor
open Go.RowKit
theorem zlh {s : ByteArray} {i : Nat} {pre post : List UInt8} {b : UInt8} (h : s.data.toList.drop i = pre ++ b :: post) (hi : i ≤ s.size) : ∃ hj : i + pre.length < s.size, s[i + pre.length]'hj = b := by
  have h1 := congrArg List.length h; have h0 : s.data.toList.length = s.size := qag; simp only [List.length_drop, List.length_append, List.length_cons, h0] at h1; have hj : i + pre.length < s.size := qaa; refine ⟨hj, ?_⟩; have h2 : (s.data.toList.drop i)[pre.length]? = some b := by rw [h]; simp
  rw [List.getElem?_drop] at h2; have a2 : i + pre.length < s.data.toList.length := qaa; rw [List.getElem?_eq_getElem a2] at h2; exact Option.some.inj h2
theorem rest_end {s : ByteArray} {i : Nat} {pre : List UInt8} (h : s.data.toList.drop i = pre) (hi : i ≤ s.size) : i + pre.length = s.size := by
  have h1 := congrArg List.length h; have h0 : s.data.toList.length = s.size := qag; simp only [List.length_drop, h0] at h1; omega
theorem grownOn {w wr w5 : World} {R : Nat} (hg : w.grownBy wr (some R)) (hb : Below w.heap.size wr w5) : w.grownBy w5 (some R) :=
  ⟨hb.os.trans hg.os, hb.tape.trans hg.tape, hb.output.trans hg.output, Nat.le_trans hg.size hb.size, fun k hk hne => (hb.block k hk).trans (hg.block k hk hne)⟩
theorem Rdr.under {w w' : World} {R i B : Nat} {s : ByteArray} (h : Rdr w R s i) (hb : Below B w w') (hR : R < B) : Rdr w' R s i := by
  obtain ⟨p, h⟩ := h; exact ⟨p, (hb.block R hR).trans h⟩
theorem bytes_step (l : List UInt8) (b : UInt8) : Lib.byteCells l ++ [.int .u8 (b.toNat : Int)] = Lib.byteCells (l ++ [b]) := by unfold Lib.byteCells; simp
theorem builderGrown {T e : TypeId} {B b R : Nat} {bs : List Value} {W W' : World} (h : Lib.IsBuilder T e B b bs W) (hg : W.grownBy W' (some R)) (hR : R < B) : Lib.IsBuilder T e B b bs W' := by
  have a2 : ∀ p, Lib.BuilderAt T e B b p bs W → Lib.BuilderAt T e B b p bs W' := fun p ⟨h1, v, h2, h3, h4⟩ =>
    ⟨h1, v, (hg.block b (Array.getElem?_eq_some_iff.1 h2).1 qao).trans h2, World.ownsRow.kept h3 hg (zod h3 qaa), h4⟩
  rcases h with h | h
  · exact .inl (a2 _ h)
  · exact .inr (a2 _ h)
def UntilPost (R i : Nat) (s : ByteArray) (c : UInt8) (w : World) (e : Ending) (w' : World) : Prop :=
  ((∃ pre post, s.data.toList.drop i = pre ++ c :: post ∧ c ∉ pre ∧ e = .returned (.tuple #[.string ⟨pre.toArray⟩, .bool true]) ∧ Rdr w' R s (i + pre.length + 1)) ∨
   (c ∉ s.data.toList.drop i ∧ e = .returned (.tuple #[.string ⟨#[]⟩, .bool false]) ∧ Rdr w' R s s.size)) ∧ w.grownBy w' (some R)
theorem until_any (R i : Nat) (s : ByteArray) (c : UInt8) (w : World) (h : Rdr w R s i) (hi : i ≤ s.size) (hs : s.size ≤ 1048576) (hE : EofIn w) (hR : 0 ≠ R) :
    Calls Tryz.prog 60 #[.pointer (some ⟨R, 0, none⟩), .int .u8 (c.toNat : Int)] w (UntilPost R i s c w) := by
  have a9 := h.lt; have b4 := zac w (.cells #[.pointer none, .slice none 0 0] 48); have R0 := hid (h.below b4); have B0 : Hid (Lib.IsBuilder 48 5 w.heap.size w.heap.size (Lib.byteCells []) (w.alloc (.cells #[.pointer none, .slice none 0 0] 48))) := hid (.inl ⟨nl _, .slice none 0 0, World.alloc_heap_new w _, ⟨rfl, .inl ⟨rfl, rfl⟩⟩, by simp [Value.ownBlock]⟩); have G0 := hid (zah b4 (some R)); clear h; go_enter Tryz.func60, Tryz.ntmps60; go_wp2_with fail
  go_loopw [] (fun wr => ∃ (pre a2 : List UInt8), s.data.toList.drop i = pre ++ a2 ∧ c ∉ pre ∧ Rdr wr R s (i + pre.length) ∧ Lib.IsBuilder 48 5 w.heap.size w.heap.size (Lib.byteCells pre) wr ∧ w.grownBy wr (some R)) (fun wr => match wr.cell? ⟨R, 1, none⟩ with | some (.int _ j) => s.size - j.toNat | _ => 0)
  case atStart => exact ⟨[], _, rfl, by simp, R0.out, B0.out, G0.out⟩
  case round =>
    obtain ⟨pre, a2, hp, hc, hr, hb, hg⟩ := hrel; clear R0 B0 G0; have HP := hid hp; have HR := hid hr; have HB := hid hb; have HG := hid hg; have HC := hid hc; have hwr := hg.size; have b7 := hE.grown hg hR; have y1 : wr.cell? ⟨R, 1, none⟩ = some (.int .i64 ((i + pre.length : Nat) : Int)) := qeh; clear hp hr hb hg hc
    cases a2 with
    | nil =>
      have b3 := HP.out; rw [List.append_nil] at b3; have a7 := rest_end b3 hi; go_wp2_with fail; refine (rdEnd_any R (i + pre.length) s wr HR.out a7 b7 hR).mono ?_; rintro e w5 ⟨⟨t, u, rfl⟩, a3, a5⟩; rw [a7] at a3; have HR5 := hid a3; have a6 := hid (zaf HG.out a5); clear a3 a5; go_wp2
      refine bodyPost_ret (results_tmp2 Tryz.results60 _ _ _) rfl ⟨.inr ⟨by rw [b3]; exact HC.out, rfl, HR5.out⟩, a6.out⟩
    | cons b a2 =>
      obtain ⟨hj, b5⟩ := zlh HP.out hi; have hpl : pre.length ≤ 1048576 := qaa; go_wp2_with fail; refine (rdByte_any R (i + pre.length) s wr HR.out hj hs).mono ?_; rintro e w5 ⟨rfl, a3, a5⟩; rw [b5]; have HR5 := hid a3; have a6 := hid (zaf HG.out a5); have HB5 := hid (builderGrown HB.out a5 a9); have hz5 := a6.out.size; clear a3 a5 HB HR b5; by_cases hbc : b = c
      · subst hbc
        go_wp2_with fail; refine (Tryz.Builder_String_any w.heap.size w.heap.size pre w5 HB5.out hz5).mono ?_; rintro e w6 ⟨rfl, a4⟩; have a8 := hid (grownOn a6.out a4); have HR6 := hid (HR5.out.under a4 a9); go_wp2; refine bodyPost_ret (results_tmp2 Tryz.results60 _ _ _) rfl ⟨.inl ⟨pre, a2, HP.out, HC.out, rfl, HR6.out⟩, a8.out⟩
      · have hbI : ¬ (b.toNat : Int) = (c.toNat : Int) := fun e => hbc (UInt8.toNat_inj.1 qaa)
        go_wp2_with fail; refine (Tryz.Builder_WriteByte w.heap.size w.heap.size (Lib.byteCells pre) (b.toNat : Int) w5 HB5.out (by rw [Lib.byteCells_length]; omega) hz5).mono ?_; rintro e w6 ⟨rfl, b6, a4⟩; have a8 := hid (grownOn a6.out a4); have hr6 := HR5.out.under a4 a9; have HB6 : Hid (Lib.IsBuilder 48 5 w.heap.size w.heap.size (Lib.byteCells (pre ++ [b])) w6) := hid (by rw [← bytes_step]; exact .inr b6); have y6 : w6.cell? ⟨R, 1, none⟩ = some (.int .i64 ((i + pre.length + 1 : Nat) : Int)) := by obtain ⟨p, hr⟩ := hr6; exact hr.cell 1
        have HR6 := hid (show Rdr w6 R s (i + (pre ++ [b]).length) by rw [List.length_append]; exact hr6); clear a4 b6 hr6; go_wp2; go_roundw
        case rel => exact ⟨pre ++ [b], a2, by rw [HP.out]; simp, by
          intro hm; rcases List.mem_append.1 hm with hm | hm
          · exact HC.out hm
          · exact hbc (List.mem_singleton.1 hm).symm, HR6.out, HB6.out, a8.out⟩
        case measure =>
          rw [y6, y1]; show s.size - ((i + pre.length + 1 : Nat) : Int).toNat < s.size - ((i + pre.length : Nat) : Int).toNat; omega
def SignPost (R i : Nat) (s : ByteArray) (w : World) (e : Ending) (w' : World) : Prop :=
  ∃ (x : UInt8) (r : Rf) (ok : Bool) (j : Nat), e = .returned (.tuple #[.int .u8 (x.toNat : Int), zfd r, .bool ok]) ∧ j ≤ s.size ∧ Rdr w' R s j ∧ HeadApart w' w.heap.size w'.heap.size r ∧ w.grownBy w' (some R) ∧
    (ok = true → ∃ p post, s.data.toList.drop i = (x :: p) ++ 32 :: post ∧ 32 ∉ x :: p ∧ zjw p = some (rAt r) ∧ j = i + p.length + 2) ∧
    (ok = false → ∀ y p post, s.data.toList.drop i = (y :: p) ++ 32 :: post → 32 ∉ y :: p → zjw p = none)
theorem MaxIn.grown {w w' : World} {R : Nat} (h : MaxIn w) (hb : w.grownBy w' (some R)) (hR : 1 ≠ R) : MaxIn w' := by
  obtain ⟨m, hm⟩ := h; exact ⟨m, hb.cell hm (by simp [hR])⟩
theorem zcd {c : UInt8} : ∀ {a b x y : List UInt8}, a ++ c :: x = b ++ c :: y → c ∉ a → c ∉ b → a = b ∧ x = y
  | [], [], x, y, h, _, _ => ⟨rfl, by simpa using h⟩
  | [], d :: b, x, y, h, _, hb => by simp at h; exact absurd h.1 (fun e => hb (by rw [e]; simp))
  | d :: a, [], x, y, h, ha, _ => by simp at h; exact absurd h.1.symm (fun e => ha (by rw [e]; simp))
  | d :: a, e :: b, x, y, h, ha, hb => by
    simp only [List.cons_append, List.cons.injEq] at h; obtain ⟨h1, h2⟩ := zcd h.2 (fun hm => ha (by simp [hm])) (fun hm => hb (by simp [hm])); exact ⟨by rw [h.1, h1], h2⟩
theorem mark_len {s : ByteArray} {i : Nat} {pre post : List UInt8} {b : UInt8} (h : s.data.toList.drop i = pre ++ b :: post) (hi : i ≤ s.size) : i + pre.length + 1 ≤ s.size := by
  obtain ⟨hj, _⟩ := zlh h hi; omega
theorem signed_any (R i : Nat) (s : ByteArray) (w : World) (h : Rdr w R s i) (hi : i ≤ s.size) (hs : s.size ≤ 1048576) (hE : EofIn w) (hR : 0 ≠ R) (hm : MaxIn w) (hR2 : 1 ≠ R) :
    Calls Tryz.prog 32 #[.pointer (some ⟨R, 0, none⟩)] w (SignPost R i s w) := by
  have hlR := h.lt; have a4 := zac w (.cells #[.string ⟨#[]⟩, .slice none 0 0] 51); have R0 := hid (h.below a4); have X0 := hid (Blk.new w 51 #[.string ⟨#[]⟩, .slice none 0 0]); have G0 := hid (zah a4 (some R)); have E0 := hE.below a4; obtain ⟨W0, a8⟩ : ∃ W0, w.alloc (.cells #[.string ⟨#[]⟩, .slice none 0 0] 51) = W0 := ⟨_, rfl⟩; clear h a4; go_enter Tryz.func32, Tryz.ntmps32; go_wp2_with fail
  have hz0 : W0.heap.size = w.heap.size + 1 := by rw [← a8]; simp
  rw [a8] at R0 X0 G0 E0; clear a8; refine (until_any R i s 32 W0 R0.out hi hs E0 hR).mono ?_; rintro e w1 ⟨a2, a6⟩; have G1 := hid (zaf G0.out a6); have X1 := hid (X0.out.kept a6 qao); have hz1 := a6.size; clear a6 R0 X0 G0
  have NO : ∀ (j : Nat), j ≤ s.size → Rdr w1 R s j → (∀ y p post, s.data.toList.drop i = (y :: p) ++ 32 :: post → 32 ∉ y :: p → zjw p = none) → SignPost R i s w (.returned (.tuple #[.int .u8 0, .agg #[.string ⟨#[]⟩, .slice none 0 0], .bool false])) ((w1.setCell ⟨w.heap.size, 0, none⟩ (.string ⟨#[]⟩)).setCell ⟨w.heap.size, 1, none⟩ (.slice none 0 0)) := by
    intro j hj hr hno; refine ⟨0, noRf, false, j, rfl, hj, ?_, zep, ?_, qda, fun _ => hno⟩
    · obtain ⟨p, hr⟩ := hr
      exact ⟨p, (Blk.far hr (p := ⟨w.heap.size, 0, none⟩) qby _).far qby _⟩
    · exact ⟨G1.out.os, G1.out.tape, G1.out.output, by simp only [zab]; exact G1.out.size, fun q hq hne => (hs_ _ _ _ q qbz).trans ((hs_ _ _ _ q qbz).trans (G1.out.block q hq hne))⟩
  have HNO := hid NO; clear NO; have x0 : w1.cell? ⟨w.heap.size, 0, none⟩ = some (.string ⟨#[]⟩) := X1.out.cell 0; have x1 : w1.cell? ⟨w.heap.size, 1, none⟩ = some (.slice none 0 0) := X1.out.cell 1; have q0 := X1.out.frozen 0; have q1 := X1.out.frozen 1; rcases a2 with ⟨pre, post, hp, hc, rfl, hr1⟩ | ⟨hc, rfl, hr1⟩
  · have hl := mark_len hp hi
    cases pre with
    | nil =>
      have a3 := hid hr1; have HP := hid hp; clear hr1 hp; go_wp2; refine bodyPost_ret (v := .tuple #[.int .u8 0, .agg #[.string ⟨#[]⟩, .slice none 0 0], .bool false]) (by simp [results, Tryz.results32, go_sem, x0, x1]) rfl (HNO.out _ (by simpa using hl) a3.out fun y p post' h1 h2 => ?_); rw [HP.out] at h1; simp at h1
      exact absurd h1.1 (fun e => h2 (by rw [e]; simp))
    | cons x p =>
      have a3 := hid hr1; have HP := hid hp; have HC := hid hc; obtain ⟨L, hL⟩ : ∃ L, x :: p = L := ⟨_, rfl⟩; have HL := hid hL; rw [hL]; have hne : ¬ L = [] := by rw [← hL]; simp
      have b7 : (L == []) = false := by rw [beq_eq_false_iff_ne]; exact hne
      have hlen : L.length = p.length + 1 := by rw [← hL]; simp
      clear hr1 hp hc hL; go_wp2_with fail; obtain ⟨T, hT⟩ : ∃ T : ByteArray, (⟨L.toArray⟩ : ByteArray).extract 1 (p.length + 1) = T := ⟨_, rfl⟩; have a9 : T.data.toList = p := by rw [← hT, ← HL.out]; simp [ByteArray.data_extract]
      have b5 : T.size ≤ 1048576 := by
        have h1 : T.size = T.data.toList.length := qag; have h2 : (x :: p).length = p.length + 1 := rfl; rw [h1, a9]; omega
      rw [hT]; have b9 : MaxIn w1 := hm.grown G1.out hR2; clear hT; refine (zou T w1 b5 b9).mono ?_; rintro e w2 ⟨r, rfl, hH, hr, hb2⟩; rw [a9] at hr ⊢; unfold zfd; have b4 := HL.out; subst b4; clear HL; have a5 := zac w2 (.cells #[.string r.1, .slice r.2.1 r.2.2.1 r.2.2.2.1] 51); have X2 := (X1.out.below hb2).below a5; have Y2 := Blk.new w2 51 #[.string r.1, .slice r.2.1 r.2.2.1 r.2.2.2.1]; have b3 := (a3.out.below hb2).below a5; have G2 := zaf G1.out (zah (zaa hb2 a5) (some R)); have hz2 := hb2.size; obtain ⟨W2, a7⟩ : ∃ W2, w2.alloc (.cells #[.string r.1, .slice r.2.1 r.2.2.1 r.2.2.2.1] 51) = W2 := ⟨_, rfl⟩
      have hzW : W2.heap.size = w2.heap.size + 1 := by rw [← a7]; simp
      have b6 : HeadApart W2 w1.heap.size w2.heap.size r := hH.keep (fun b _ h2 => by rw [← a7]; exact a5.block b h2) (nl _) (nl _); go_wp2_with fail; rw [a7] at X2 Y2 b3 G2; have e0 : W2.cell? ⟨w2.heap.size, 0, none⟩ = some (.string r.1) := Y2.cell 0; have e1 : W2.cell? ⟨w2.heap.size, 1, none⟩ = some (.slice r.2.1 r.2.2.1 r.2.2.2.1) := Y2.cell 1; have d0 : W2.cell? ⟨w.heap.size, 0, none⟩ = some (.string ⟨#[]⟩) := X2.cell 0; have d1 : W2.cell? ⟨w.heap.size, 1, none⟩ = some (.slice none 0 0) := X2.cell 1; have u0 := X2.frozen 0; have u1 := X2.frozen 1; clear x0 x1 q0 q1; have far : ∀ k, (⟨w.heap.size, 0, none⟩ : Addr) ≠ ⟨w2.heap.size, k, none⟩ ∧ (⟨w.heap.size, 1, none⟩ : Addr) ≠ ⟨w2.heap.size, k, none⟩ := fun k => ⟨fun e => by (injection e with e; omega), fun e => by (injection e with e; omega)⟩
      have k0 : ((W2.setCell ⟨w.heap.size, 0, none⟩ (.string r.1)).setCell ⟨w.heap.size, 1, none⟩ (.slice r.2.1 r.2.2.1 r.2.2.2.1)).cell? ⟨w2.heap.size, 0, none⟩ = some (.string r.1) := (World.cell?_setCell_other _ _ _ _ (far 0).2).trans ((World.cell?_setCell_other _ _ _ _ (far 0).1).trans e0); have k1 : ((W2.setCell ⟨w.heap.size, 0, none⟩ (.string r.1)).setCell ⟨w.heap.size, 1, none⟩ (.slice r.2.1 r.2.2.1 r.2.2.2.1)).cell? ⟨w2.heap.size, 1, none⟩ = some (.slice r.2.1 r.2.2.1 r.2.2.2.1) := (World.cell?_setCell_other _ _ _ _ (far 1).2).trans ((World.cell?_setCell_other _ _ _ _ (far 1).1).trans e1); clear far
      go_region_held3 (fun W => W.cell? ⟨w2.heap.size, 0, none⟩ = some (.string r.1) ∧ W.cell? ⟨w2.heap.size, 1, none⟩ = some (.slice r.2.1 r.2.2.1 r.2.2.2.1)) (first | exact ⟨e0, e1⟩ | exact ⟨k0, k1⟩) (fail); go_wp2; refine bodyPost_ret (v := .tuple #[.int .u8 (x.toNat : Int), .agg #[.string r.1, .slice r.2.1 r.2.2.1 r.2.2.2.1], .bool (zjw p).isSome]) (by simp [results, Tryz.results32, go_sem, d0, d1]; rfl) rfl ⟨x, r, (zjw p).isSome, _, rfl, hl, ?_, ?_, ?_, fun h1 => ?_, fun h1 y p' post' h2 h3 => ?_⟩
      · obtain ⟨q, hr⟩ := b3
        exact ⟨q, (Blk.far hr (p := ⟨w.heap.size, 0, none⟩) qby _).far qby _⟩
      · refine b6.keep (fun b h1 _ => (hs_ _ _ _ b qbg).trans (hs_ _ _ _ b qbg)) qaa (by simp only [zab, World.drew]; omega)
      · exact ⟨G2.os, G2.tape, G2.output, by simp only [zab, World.drew]; omega, fun q hq hne => (hs_ _ _ _ q qbz).trans ((hs_ _ _ _ q qbz).trans (G2.block q hq hne))⟩
      · obtain ⟨a, ha⟩ := Option.isSome_iff_exists.1 h1
        rw [ha] at hr; exact ⟨p, post, HP.out, HC.out, by rw [ha]; exact congrArg some hr.symm, by simp only [List.length_cons]; omega⟩
      · rw [HP.out] at h2
        obtain ⟨h4, _⟩ := zcd h2 HC.out h3; injection h4 with _ h4; rw [← h4]
        cases hg : zjw p with
        | none => rfl
        | some a => rw [hg] at h1; cases h1
  · have a3 := hid hr1; have HC := hid hc
    clear hr1 hc; go_wp2; refine bodyPost_ret (v := .tuple #[.int .u8 0, .agg #[.string ⟨#[]⟩, .slice none 0 0], .bool false]) (by simp [results, Tryz.results32, go_sem, x0, x1]) rfl (HNO.out _ (nl _) a3.out fun y p post' h1 h2 => ?_); exact absurd (by rw [h1]; simp) HC.out
theorem pw_all {α : Type} {R : α → α → Prop} : ∀ (l : List α), (∀ a ∈ l, ∀ b ∈ l, R a b) → l.Pairwise R
  | [], _ => .nil
  | x :: r, h => .cons (fun b hb => h x qag b (by simp [hb])) (pw_all r fun a ha b hb => h a (by simp [ha]) b (by simp [hb]))
abbrev Sg := UInt8 × At
def encS (l : List Sg) : List UInt8 := l.flatMap fun x => x.1 :: (zau x.2 ++ [32])
def sgs (xs ys : List At) : List Sg := ys.map (fun a => (45, a)) ++ xs.map (fun a => (43, a))
theorem zby (x : Sg) (l : List Sg) : encS (x :: l) = x.1 :: (zau x.2 ++ 32 :: encS l) := by simp [encS]
theorem zcl (xs ys : List At) : encS (sgs xs ys) = chL xs ys := by
  unfold encS sgs chL zcg; rw [List.flatMap_append, List.flatMap_map, List.flatMap_map]
theorem zcz : ∀ {T W : List Sg} {rest : List UInt8}, (∀ x ∈ W, zav x.2 = true) → (∀ x ∈ T, zav x.2 = true) → encS W = encS T ++ rest → ∃ V, W = T ++ V ∧ rest = encS V
  | [], W, rest, _, _, h => ⟨W, rfl, by simpa [encS] using h.symm⟩
  | x :: T, [], rest, _, _, h => by rw [zby] at h; simp [encS] at h
  | x :: T, y :: W, rest, hW, hT, h => by
    rw [zby, zby, List.cons_append, List.append_assoc, List.cons_append] at h; injection h with h1 h2; have hy := hW y qag; have hx := hT x qag; obtain ⟨h3, h4⟩ := zcd h2 (zeg hy) (zeg hx)
    have h5 : y.2 = x.2 := by
      have e1 := zju hy; rw [h3, zju hx] at e1; exact (Option.some.inj e1).symm
    obtain ⟨V, h6, h7⟩ := zcz (fun z hz => hW z (by simp [hz])) (fun z hz => hT z (by simp [hz])) h4; exact ⟨V, by rw [h6, show y = x from Prod.ext h1 h5]; rfl, h7⟩
theorem zbq {xs ys : List At} (hx : ∀ a ∈ xs, zav a = true) (hy : ∀ a ∈ ys, zav a = true) : ∀ z ∈ sgs xs ys, zav z.2 = true := by
  intro z hz; unfold sgs at hz; rcases List.mem_append.1 hz with hz | hz
  · obtain ⟨a, ha, rfl⟩ := List.mem_map.1 hz; exact hy a ha
  · obtain ⟨a, ha, rfl⟩ := List.mem_map.1 hz; exact hx a ha
theorem sgs_inj {xs ys xs' ys' : List At} (h : sgs xs ys = sgs xs' ys') : xs = xs' ∧ ys = ys' := by
  have a2 : ∀ us vs : List At, (sgs us vs).filterMap (fun z => if z.1 = 43 then some z.2 else none) = us ∧ (sgs us vs).filterMap (fun z => if z.1 = 45 then some z.2 else none) = vs := by
    intro us vs; unfold sgs; simp [List.filterMap_append, List.filterMap_map, Function.comp_def]
  have k1 := a2 xs ys; have k2 := a2 xs' ys'; rw [h] at k1; exact ⟨k1.1.symm.trans k2.1, k1.2.symm.trans k2.2⟩
theorem chL_inj {xs ys xs' ys' : List At} (h : zao xs ys = true) (h' : zao xs' ys' = true) (he : chL xs ys = chL xs' ys') : xs = xs' ∧ ys = ys' := by
  obtain ⟨_, _, a1, a2⟩ := zbd h; obtain ⟨_, _, b1, b2⟩ := zbd h'; rw [← zcl, ← zcl] at he; obtain ⟨V, h1, h2⟩ := zcz (rest := []) (zbq a1 a2) (zbq b1 b2) (by rw [List.append_nil]; exact he)
  cases V with
  | nil => rw [List.append_nil] at h1; exact sgs_inj h1
  | cons z V => rw [zby] at h2; cases h2
theorem no_change {l rest : List UInt8} {cs gs : List At} (hl : l = chL cs gs ++ rest) (hc : ∀ a ∈ cs, zav a = true) (hg : ∀ a ∈ gs, zav a = true) (hr : rest ≠ [])
    (hno : ∀ y p post a, rest = (y :: p) ++ 32 :: post → 32 ∉ y :: p → zjw p = some a → ¬ (y = 45 ∧ cs = []) ∧ y ≠ 43) (xs ys : List At) (h : zao xs ys = true) : l ≠ chL xs ys := by
  intro he; obtain ⟨_, _, a1, a2⟩ := zbd h; rw [hl, ← zcl, ← zcl] at he; obtain ⟨V, h1, h2⟩ := zcz (zbq a1 a2) (zbq hc hg) he.symm
  cases V with
  | nil => exact hr (by rw [h2]; rfl)
  | cons z V =>
    have hz : z ∈ sgs xs ys := by rw [h1]; simp
    have a4 := zbq a1 a2 z hz
    have a3 : z.1 = 45 ∨ z.1 = 43 := by
      unfold sgs at hz; rcases List.mem_append.1 hz with hz | hz
      · obtain ⟨a, _, rfl⟩ := List.mem_map.1 hz; exact .inl rfl
      · obtain ⟨a, _, rfl⟩ := List.mem_map.1 hz; exact .inr rfl
    have a5 : (32 : UInt8) ∉ z.1 :: zau z.2 := by
      intro hm; rcases List.mem_cons.1 hm with hm | hm
      · rcases a3 with e | e <;> rw [e] at hm <;> exact absurd hm qam
      · exact zeg a4 hm
    obtain ⟨n1, n2⟩ := hno z.1 (zau z.2) (encS V) z.2 (by rw [h2, zby]; rfl) a5 (zju a4); rcases a3 with e | e
    · cases cs with
      | nil => exact n1 ⟨e, rfl⟩
      | cons c cs =>
        unfold sgs at h1
        have hp : (ys.map (fun a => ((45, a) : Sg)) ++ xs.map (fun a => ((43, a) : Sg))).Pairwise (fun u v : Sg => u.1 = 43 → v.1 = 43) := by
          rw [List.pairwise_append]; refine ⟨pw_all _ fun u hu v _ h => ?_, pw_all _ fun u _ v hv _ => ?_, fun u hu v hv h => ?_⟩
          · obtain ⟨a, _, rfl⟩ := List.mem_map.1 hu
            exact absurd h (show ¬ (45 : UInt8) = 43 by decide)
          · obtain ⟨a, _, rfl⟩ := List.mem_map.1 hv
            rfl
          · obtain ⟨a, _, rfl⟩ := List.mem_map.1 hu
            exact absurd h (show ¬ (45 : UInt8) = 43 by decide)
        rw [h1, List.pairwise_append] at hp; have := hp.2.2 (43, c) qag z qag rfl; rw [e] at this; exact absurd this qam
    · exact n2 e
theorem zib (u : Nat) : ∀ c ∈ Lib.decDigits u, 48 ≤ c.toNat ∧ c.toNat ≤ 57 := by
  induction u using Nat.strongRecOn with
  | ind u ih =>
    intro c hc; rw [Lib.decDigits] at hc; split at hc
    · have e : c = UInt8.ofNat (48 + u) := by simpa using hc
      rw [e, UInt8.toNat_ofNat']; omega
    · rcases List.mem_append.1 hc with hc | hc
      · exact ih (u / 10) qaa c hc
      · have e : c = UInt8.ofNat (48 + u % 10) := by simpa using hc
        rw [e, UInt8.toNat_ofNat']; omega
theorem zik {u : Nat} {c : UInt8} (h : c.toNat < 48 ∨ 57 < c.toNat) : c ∉ Lib.decDigits u := fun hc => by have := zib u c hc; omega
theorem dec_some (u : Nat) : 1 ≤ (Lib.decDigits u).length := by
  rw [Lib.decDigits]; split
  · simp
  · simp
theorem plain_ten {c : UInt8} (h : zjk c) : c ≠ 10 := by
  intro e; subst e; revert h; unfold zjk; decide
theorem text_no_ten {a : At} (h : zav a = true) : (10 : UInt8) ∉ zau a := by
  intro hc; rcases zki h hc with e | e | e | e
  · cases e
  · cases e
  · cases e
  · exact plain_ten e rfl
theorem zpd : ∀ {l : List Sg}, (∀ x ∈ l, zav x.2 = true ∧ x.1 ≠ 10) → (10 : UInt8) ∉ encS l
  | [], _ => by simp [encS]
  | x :: l, h => by
    rw [zby]; intro hc; rcases List.mem_cons.1 hc with e | hc
    · exact (h x qag).2 e.symm
    · rcases List.mem_append.1 hc with hc | hc
      · exact text_no_ten (h x qag).1 hc
      · rcases List.mem_cons.1 hc with e | hc
        · cases e
        · exact zpd (fun y hy => h y (by simp [hy])) hc
theorem zea {xs ys : List At} (h : zao xs ys = true) : (10 : UInt8) ∉ chL xs ys := by
  obtain ⟨_, _, a1, a2⟩ := zbd h; rw [← zcl]; refine zpd fun z hz => ⟨zbq a1 a2 z hz, ?_⟩; unfold sgs at hz; rcases List.mem_append.1 hz with hz | hz
  · obtain ⟨a, _, rfl⟩ := List.mem_map.1 hz; exact (show (45 : UInt8) ≠ 10 by decide)
  · obtain ⟨a, _, rfl⟩ := List.mem_map.1 hz; exact (show (43 : UInt8) ≠ 10 by decide)
def zez (l : List UInt8) : Prop := l = [] ∨ ∃ q, l = q ++ [32]
theorem zmd : ∀ (l : List Sg), zez (encS l)
  | [] => .inl rfl
  | x :: l => by
    rw [zby]; rcases zmd l with e | ⟨q, e⟩
    · exact .inr ⟨x.1 :: zau x.2, by rw [e]; rfl⟩
    · exact .inr ⟨x.1 :: (zau x.2 ++ 32 :: q), by rw [e]; simp⟩
theorem zfu (xs ys : List At) : zez (chL xs ys) := by rw [← zcl]; exact zmd _
theorem ZLogMath0 {p : Prop} (h : p := by
  have := congrArg List.getLast? e1; rw [List.getLast?_append, List.getLast?_append] at this; simp only [List.getLast?_singleton, Option.some_or] at this
  have h2 : (x :: r).getLast? = some 32 := by
    cases hl : (x :: r).getLast? with
    | none => simp at hl
    | some z => rw [hl] at this; simpa using this.symm
  exact List.mem_of_getLast? h2) : p := h
theorem zlk {u v u' v' : List UInt8} (h : u ++ v = u' ++ v') (hu : zez u) (hv : (32 : UInt8) ∉ v) (hu' : zez u') (hv' : (32 : UInt8) ∉ v') : u = u' ∧ v = v' := by
  rcases List.append_eq_append_iff.1 h with ⟨us, e1, e2⟩ | ⟨vs, e1, e2⟩
  · rcases hu' with e | ⟨q, e⟩
    · rw [e] at e1
      obtain ⟨h1, h2⟩ := List.append_eq_nil_iff.1 e1.symm; rw [h2] at e2; exact ⟨by rw [h1, e], e2⟩
    · cases us with
      | nil => rw [List.append_nil] at e1; exact ⟨e1.symm, e2⟩
      | cons x r =>
        exfalso; rw [e] at e1
        have h1 : (32 : UInt8) ∈ x :: r := by
          exact ZLogMath0
        exact hv (by rw [e2]; exact List.mem_append_left _ h1)
  · rcases hu with e | ⟨q, e⟩
    · rw [e] at e1
      obtain ⟨h1, h2⟩ := List.append_eq_nil_iff.1 e1.symm; rw [h2] at e2; exact ⟨by rw [h1, e], e2.symm⟩
    · cases vs with
      | nil => rw [List.append_nil] at e1; exact ⟨e1, e2.symm⟩
      | cons x r =>
        exfalso; rw [e] at e1
        have h1 : (32 : UInt8) ∈ x :: r := by
          exact ZLogMath0
        exact hv' (by rw [e2]; exact List.mem_append_left _ h1)
def zen (k : Nat) (p : List UInt8) : List UInt8 := zcp k p ++ Lib.decDigits (zhq (zcp k p))
theorem zbm (k : Nat) (p : List UInt8) : zbo k p = zen k p ++ [10] := rfl
theorem zfk (k : Nat) (p : List UInt8) : zen k p = Lib.decDigits k ++ 58 :: (p ++ Lib.decDigits (zhq (zcp k p))) := by
  unfold zen zcp; simp
theorem zcj {k : Nat} {p : List UInt8} (h : (10 : UInt8) ∉ p) : (10 : UInt8) ∉ zen k p := by
  rw [zfk]; intro hc; rcases List.mem_append.1 hc with hc | hc
  · exact zik (.inl qam) hc
  · rcases List.mem_cons.1 hc with e | hc
    · cases e
    · rcases List.mem_append.1 hc with hc | hc
      · exact h hc
      · exact zik (.inl qam) hc
theorem body_inj {k : Nat} {p p' : List UInt8} (h : zen k p = zen k p') (hp : zez p) (hp' : zez p') : p = p' := by
  rw [zfk, zfk] at h; have h1 := List.append_cancel_left h; injection h1 with _ h1; exact (zlk h1 hp (zik (.inl qam)) hp' (zik (.inl qam))).1
theorem line_len (k : Nat) (p : List UInt8) : 4 + p.length ≤ (zbo k p).length := by
  rw [zbm, zfk]; have h1 := dec_some k; have h2 := dec_some (zhq (zcp k p)); simp only [List.length_append, List.length_cons, List.length_nil]; omega
abbrev Ch := List At × List At
def okC (c : Ch) : Prop := zao c.1 c.2 = true
def chC (c : Ch) : List UInt8 := chL c.1 c.2
theorem line_first {k : Nat} {c c' : Ch} {r r' : List UInt8} (h : okC c) (h' : okC c') (he : zbo k (chC c) ++ r = zbo k (chC c') ++ r') : c = c' ∧ r = r' := by
  rw [zbm, zbm, List.append_assoc, List.append_assoc] at he; obtain ⟨h1, h2⟩ := zcd he (zcj (zea h)) (zcj (zea h')); have h3 := body_inj h1 (zfu _ _) (zfu _ _); obtain ⟨h4, h5⟩ := chL_inj h h' h3; exact ⟨Prod.ext h4 h5, by simpa using h2⟩
def zcr (k : Nat) : List Ch → List UInt8
  | [] => []
  | c :: r => zbo k (chC c) ++ zcr (k + 1) r
theorem zhb : ∀ (k : Nat) (cs : List Ch) (c : Ch), zcr k (cs ++ [c]) = zcr k cs ++ zbo (k + cs.length) (chC c)
  | k, [], c => by simp [zcr]
  | k, x :: cs, c => by
    show zbo k (chC x) ++ zcr (k + 1) (cs ++ [c]) = (zbo k (chC x) ++ zcr (k + 1) cs) ++ _; rw [zhb (k + 1) cs c, List.append_assoc, List.length_cons, Nat.add_assoc, Nat.add_comm 1]
theorem zmw : ∀ (k : Nat) (cs ds : List Ch), zcr k (cs ++ ds) = zcr k cs ++ zcr (k + cs.length) ds
  | k, [], ds => by simp [zcr]
  | k, x :: cs, ds => by
    show zbo k (chC x) ++ zcr (k + 1) (cs ++ ds) = (zbo k (chC x) ++ zcr (k + 1) cs) ++ _; rw [zmw (k + 1) cs ds, List.append_assoc, List.length_cons, Nat.add_assoc, Nat.add_comm 1]
theorem zmv : ∀ (k : Nat) (cs : List Ch), 4 * cs.length ≤ (zcr k cs).length
  | _, [] => by simp
  | k, c :: cs => by
    have h1 := zmv (k + 1) cs; have h2 := line_len k (chC c); show 4 * (cs.length + 1) ≤ (zbo k (chC c) ++ zcr (k + 1) cs).length; rw [List.length_append]; omega
structure LogOf (l : List UInt8) (cs : List Ch) : Prop where
  ok : ∀ c ∈ cs, okC c
  tx : zcr 0 cs <+: l
  no : ∀ c r, okC c → l ≠ zcr 0 cs ++ (zbo cs.length (chC c) ++ r)
theorem log_prefix : ∀ (k : Nat) (cs ds : List Ch) (r r' : List UInt8), (∀ c ∈ cs, okC c) → (∀ c ∈ ds, okC c) → zcr k cs ++ r = zcr k ds ++ r' → cs <+: ds ∨ ds <+: cs
  | _, [], ds, _, _, _, _, _ => .inl (List.nil_prefix)
  | _, _ :: _, [], _, _, _, _, _ => .inr (List.nil_prefix)
  | k, c :: cs, d :: ds, r, r', h, h', he => by
    have he' : zbo k (chC c) ++ (zcr (k + 1) cs ++ r) = zbo k (chC d) ++ (zcr (k + 1) ds ++ r') := by
      rw [← List.append_assoc, ← List.append_assoc]; exact he
    obtain ⟨h1, h2⟩ := line_first (h c qag) (h' d qag) he'; subst h1; rcases log_prefix (k + 1) cs ds r r' (fun x hx => h x (by simp [hx])) (fun x hx => h' x (by simp [hx])) h2 with h3 | h3
    · exact .inl ((List.prefix_cons_inj c).2 h3)
    · exact .inr ((List.prefix_cons_inj c).2 h3)
theorem LogOf.most {l : List UInt8} {cs ds : List Ch} (h : LogOf l cs) (h1 : ∀ c ∈ ds, okC c) (h2 : zcr 0 ds <+: l) : ds <+: cs := by
  obtain ⟨r, hr⟩ := h.tx; obtain ⟨r', a2⟩ := h2; rcases log_prefix 0 cs ds r r' h.ok h1 (hr.trans a2.symm) with ⟨t, ht⟩ | ht
  · cases t with
    | nil => rw [List.append_nil] at ht; rw [ht]; exact List.prefix_rfl
    | cons c t =>
      exfalso; subst ht; refine h.no c (zcr (cs.length + 1) t ++ r') (h1 c qag) ?_; rw [← a2, zmw]; show _ = _; rw [Nat.zero_add]; show (zcr 0 cs ++ (zbo cs.length (chC c) ++ zcr (cs.length + 1) t)) ++ r' = _; simp
  · exact ht
theorem LogOf.uniq {l : List UInt8} {cs ds : List Ch} (h : LogOf l cs) (h' : LogOf l ds) : cs = ds := by
  have h1 := h.most h'.ok h'.tx; have h2 := h'.most h.ok h.tx; exact List.IsPrefix.eq_of_length_le h2 h1.length_le
end Go.Proofs.YtogonjkklioaaaaGreatDoor
