/-
  Texts of one claim, put together.
-/
import Derived.Test.YtogonjkklioaaaaGreatDoorLg24
import Derived.Test.YtogonjkklioaaaaGreatDoorLg22
set_option maxRecDepth 100000
set_option maxHeartbeats 8000000
namespace Go.Proofs.YtogonjkklioaaaaGreatDoor
open Go.RowKit
end Go.Proofs.YtogonjkklioaaaaGreatDoor

namespace Go.Proofs.YtogonjkklioaaaaGreatDoor
/-! Texts cut at marks of several bytes. -/
/-! Atoms. -/
theorem argOf_term {t : Tm} (h : zgo t = true) : zel t.2.data.toList = t := by
  obtain ⟨v, s⟩ := t; unfold zel; have e : (⟨s.data.toList.toArray⟩ : ByteArray) = s := by cases s; rfl
  show ((match s.data.toList with | [] => false | c :: _ => zco c), (⟨s.data.toList.toArray⟩ : ByteArray)) = (v, s); rw [e]; congr 1
  cases hl : s.data.toList with
  | nil =>
    unfold zgo varB zij zdn at h; cases v
    · simp [hl] at h
    · simp [hl] at h
  | cons c r =>
    unfold zgo at h; cases v
    · have h2 := zib (c := c) (l := s.data.toList) qbk (by rw [hl]; simp)
      show zco c = false; cases hc : zco c
      · rfl
      · unfold zco at hc
        unfold zgl at h2; simp only [Bool.and_eq_true, decide_eq_true_eq] at hc; have : ¬ (97 ≤ (c.toNat : Int)) := qaa; have : ¬ ((c.toNat : Int) ≤ 57) := qaa; simp only [Bool.not_eq_true', Bool.and_eq_false_iff, Bool.or_eq_false_iff, decide_eq_false_iff_not] at h2; omega
    · have h2 : varB s.data.toList = true := qbk
      rw [hl] at h2; unfold varB at h2; simp only [Bool.and_eq_true] at h2; exact h2.1.1
theorem zmi {c : UInt8} : ∀ (xs : List (List UInt8)), xs ≠ [] → (∀ x ∈ xs, c ∉ x) → zfj c (Lib.join xs [c]) = xs
  | [], h, _ => absurd rfl h
  | [x], _, h => by rw [Lib.join_one, zdf (h x qag)]
  | x :: y :: r, _, h => by
    have e : Lib.join (x :: y :: r) [c] = x ++ c :: Lib.join (y :: r) [c] := by
      rw [Lib.join_cons, zgf, Lib.join_cons]; simp
    rw [e, zbw (h x qag), zmi (y :: r) qag (fun z hz => h z (by simp [hz]))]
theorem termsOf_join {ts : List Tm} (h : ∀ t ∈ ts, zgo t = true) : zaz (Lib.join (zak ts) [44]) = ts := by
  cases ts with
  | nil => rfl
  | cons t r =>
    have hne : ∀ u : Tm, zgo u = true → u.2.data.toList ≠ [] := by
      intro u hu e; unfold zgo varB zij zdn at hu; rw [e] at hu; cases hv : u.1 <;> simp [hv] at hu
    have hj : Lib.join (zak (t :: r)) [44] ≠ [] := by
      have e : zak (t :: r) = t.2.data.toList :: zak r := rfl; rw [e, Lib.join_cons]; intro e2; exact hne t (h t qag) (List.append_eq_nil_iff.1 e2).1
    unfold zaz; rw [if_neg hj, zmi _ (by unfold zak; simp) ?_]
    · unfold zak
      rw [List.map_map]
      conv => rhs; rw [← List.map_id (t :: r)]
      exact List.map_congr_left fun u hu => argOf_term (h u hu)
    · intro x hx hm
      unfold zak at hx; obtain ⟨u, hu, rfl⟩ := List.mem_map.1 hx; exact zjn (.inr (.inr (.inl rfl))) (term_plain (h u hu) hm)
theorem zjx {a : At} (h : zax a = true) : zjz (zau a) = some a := by
  obtain ⟨h1, h2, h3⟩ := zln h; have hx : (40 : UInt8) ∉ a.1.data.toList := fun hm => zjn (.inl rfl) (.inl (zib h1 hm)); have hl : zau a = a.1.data.toList ++ 40 :: (Lib.join (zak a.2) [44] ++ [41]) := by unfold zau; simp
  have a2 : Lib.cut (zau a) [40] = (a.1.data.toList, Lib.join (zak a.2) [44] ++ [41], true) := by rw [hl]; exact zhm hx
  obtain ⟨y, hy, ht⟩ := zkm (zfg 41 (Lib.join (zak a.2) [44])); have hyy : Lib.join (zak a.2) [44] = y := List.append_inj_left' hy rfl
  have hA : zgy (zau a) = a := by
    unfold zgy; rw [a2]; show (_, zaz (Lib.trimSuffix (Lib.join (zak a.2) [44] ++ [41]) [41])) = a; rw [ht, ← hyy, termsOf_join h2]
  have a3 : zer (zau a) = true := by
    unfold zer; rw [hA, a2, h]; show (true && (Lib.hasSuffix (Lib.join (zak a.2) [44] ++ [41]) [41] && true)) = true; rw [zfg]; rfl
  rw [getB_yes (Nat.le_trans (zmw h) qan) a3, hA]
/-! Parts. -/
/-! Rules. -/
end Go.Proofs.YtogonjkklioaaaaGreatDoor

namespace Go.Proofs.YtogonjkklioaaaaGreatDoor
open Go.RowKit
theorem zlj {s : ByteArray} {i : Nat} {pre post : List UInt8} {b : UInt8} (h : s.data.toList.drop i = pre ++ b :: post) (hi : i ≤ s.size) : ∃ hj : i + pre.length < s.size, s[i + pre.length]'hj = b := by
  have h1 := congrArg List.length h; have h0 : s.data.toList.length = s.size := qag; simp only [List.length_drop, List.length_append, List.length_cons, h0] at h1; have hj : i + pre.length < s.size := qaa; refine ⟨hj, ?_⟩; have h2 : (s.data.toList.drop i)[pre.length]? = some b := by rw [h]; simp
  rw [List.getElem?_drop] at h2; have a2 : i + pre.length < s.data.toList.length := qaa; rw [List.getElem?_eq_getElem a2] at h2; exact Option.some.inj h2
theorem rest_end {s : ByteArray} {i : Nat} {pre : List UInt8} (h : s.data.toList.drop i = pre) (hi : i ≤ s.size) : i + pre.length = s.size := by
  have h1 := congrArg List.length h; have h0 : s.data.toList.length = s.size := qag; simp only [List.length_drop, h0] at h1; omega
theorem grownOn {w wr w5 : World} {R : Nat} (hg : w.grownBy wr (some R)) (hb : Below w.heap.size wr w5) : w.grownBy w5 (some R) :=
  ⟨hb.os.trans hg.os, hb.tape.trans hg.tape, hb.output.trans hg.output, Nat.le_trans hg.size hb.size, fun k hk hne => (hb.block k hk).trans (hg.block k hk hne)⟩
theorem Rdr.under {w w' : World} {R i B : Nat} {s : ByteArray} (h : Rdr w R s i) (hb : Below B w w') (hR : R < B) : Rdr w' R s i := by
  obtain ⟨p, h⟩ := h; exact ⟨p, (hb.block R hR).trans h⟩
theorem bytes_step (l : List UInt8) (b : UInt8) : Lib.byteCells l ++ [.int .u8 (b.toNat : Int)] = Lib.byteCells (l ++ [b]) := by unfold Lib.byteCells; simp
theorem builderGrown {T e : TypeId} {B b R : Nat} {bs : List Value} {W W' : World} (h : Lib.IsBuilder T e B b bs W) (hg : W.grownBy W' (some R)) (hR : R < B) : Lib.IsBuilder T e B b bs W' := by
  have a2 : ∀ p, Lib.BuilderAt T e B b p bs W → Lib.BuilderAt T e B b p bs W' := fun p ⟨h1, v, h2, h3, h4⟩ =>
    ⟨h1, v, (hg.block b (Array.getElem?_eq_some_iff.1 h2).1 qaj).trans h2, World.ownsRow.kept h3 hg (zge h3 qaa), h4⟩
  rcases h with h | h
  · exact .inl (a2 _ h)
  · exact .inr (a2 _ h)
def UntilPost (R i : Nat) (s : ByteArray) (c : UInt8) (w : World) (e : Ending) (w' : World) : Prop :=
  ((∃ pre post, s.data.toList.drop i = pre ++ c :: post ∧ c ∉ pre ∧ e = .returned (.tuple #[.string ⟨pre.toArray⟩, .bool true]) ∧ Rdr w' R s (i + pre.length + 1)) ∨
   (c ∉ s.data.toList.drop i ∧ e = .returned (.tuple #[.string ⟨#[]⟩, .bool false]) ∧ Rdr w' R s s.size)) ∧ w.grownBy w' (some R)
theorem until_any (R i : Nat) (s : ByteArray) (c : UInt8) (w : World) (h : Rdr w R s i) (hi : i ≤ s.size) (hs : s.size ≤ 1048576) (hE : EofIn w) (hR : 0 ≠ R) :
    Calls Tryz.prog 60 #[.pointer (some ⟨R, 0, none⟩), .int .u8 (c.toNat : Int)] w (UntilPost R i s c w) := by
  have a9 := h.lt; have b4 := zac w (.cells #[.pointer none, .slice none 0 0] 48); have R0 := hid (h.below b4); have B0 : Hid (Lib.IsBuilder 48 5 w.heap.size w.heap.size (Lib.byteCells []) (w.alloc (.cells #[.pointer none, .slice none 0 0] 48))) := hid (.inl ⟨nl _, .slice none 0 0, World.alloc_heap_new w _, ⟨rfl, .inl ⟨rfl, rfl⟩⟩, by simp [Value.ownBlock]⟩); have G0 := hid (zae b4 (some R)); clear h; go_enter Tryz.func60, Tryz.ntmps60; go_wp2_with fail
  go_loopw [] (fun wr => ∃ (pre a2 : List UInt8), s.data.toList.drop i = pre ++ a2 ∧ c ∉ pre ∧ Rdr wr R s (i + pre.length) ∧ Lib.IsBuilder 48 5 w.heap.size w.heap.size (Lib.byteCells pre) wr ∧ w.grownBy wr (some R)) (fun wr => match wr.cell? ⟨R, 1, none⟩ with | some (.int _ j) => s.size - j.toNat | _ => 0)
  case atStart => exact ⟨[], _, rfl, by simp, R0.out, B0.out, G0.out⟩
  case round =>
    obtain ⟨pre, a2, hp, hc, hr, hb, hg⟩ := hrel; clear R0 B0 G0; have HP := hid hp; have HR := hid hr; have HB := hid hb; have HG := hid hg; have HC := hid hc; have hwr := hg.size; have b7 := hE.grown hg hR; have y1 : wr.cell? ⟨R, 1, none⟩ = some (.int .i64 ((i + pre.length : Nat) : Int)) := qek; clear hp hr hb hg hc
    cases a2 with
    | nil =>
      have b3 := HP.out; rw [List.append_nil] at b3; have a7 := rest_end b3 hi; go_wp2_with fail; refine (rdEnd_any R (i + pre.length) s wr HR.out a7 b7 hR).mono ?_; rintro e w5 ⟨⟨t, u, rfl⟩, a3, a5⟩; rw [a7] at a3; have HR5 := hid a3; have a6 := hid (zad HG.out a5); clear a3 a5; go_wp2
      refine bodyPost_ret (results_tmp2 Tryz.results60 _ _ _) rfl ⟨.inr ⟨by rw [b3]; exact HC.out, rfl, HR5.out⟩, a6.out⟩
    | cons b a2 =>
      obtain ⟨hj, b5⟩ := zlj HP.out hi; have hpl : pre.length ≤ 1048576 := qaa; go_wp2_with fail; refine (rdByte_any R (i + pre.length) s wr HR.out hj hs).mono ?_; rintro e w5 ⟨rfl, a3, a5⟩; rw [b5]; have HR5 := hid a3; have a6 := hid (zad HG.out a5); have HB5 := hid (builderGrown HB.out a5 a9); have hz5 := a6.out.size; clear a3 a5 HB HR b5; by_cases hbc : b = c
      · subst hbc
        go_wp2_with fail; refine (Tryz.Builder_String_any w.heap.size w.heap.size pre w5 HB5.out hz5).mono ?_; rintro e w6 ⟨rfl, a4⟩; have a8 := hid (grownOn a6.out a4); have HR6 := hid (HR5.out.under a4 a9); go_wp2; refine bodyPost_ret (results_tmp2 Tryz.results60 _ _ _) rfl ⟨.inl ⟨pre, a2, HP.out, HC.out, rfl, HR6.out⟩, a8.out⟩
      · have hbI : ¬ (b.toNat : Int) = (c.toNat : Int) := fun e => hbc (UInt8.toNat_inj.1 qaa)
        go_wp2_with fail; refine (Tryz.Builder_WriteByte w.heap.size w.heap.size (Lib.byteCells pre) (b.toNat : Int) w5 HB5.out (by rw [Lib.byteCells_length]; omega) hz5).mono ?_; rintro e w6 ⟨rfl, b6, a4⟩; have a8 := hid (grownOn a6.out a4); have hr6 := HR5.out.under a4 a9; have HB6 : Hid (Lib.IsBuilder 48 5 w.heap.size w.heap.size (Lib.byteCells (pre ++ [b])) w6) := hid (by rw [← bytes_step]; exact .inr b6); have y6 : w6.cell? ⟨R, 1, none⟩ = some (.int .i64 ((i + pre.length + 1 : Nat) : Int)) := by obtain ⟨p, hr⟩ := hr6; exact hr.cell 1
        have HR6 := hid (show Rdr w6 R s (i + (pre ++ [b]).length) by rw [List.length_append]; exact hr6); clear a4 b6 hr6; go_wp2; go_roundw
        case rel => exact ⟨pre ++ [b], a2, by rw [HP.out]; simp, by
          intro hm; rcases List.mem_append.1 hm with hm | hm
          · exact HC.out hm
          · exact hbc (List.mem_singleton.1 hm).symm, HR6.out, HB6.out, a8.out⟩
        case measure =>
          rw [y6, y1]; show s.size - ((i + pre.length + 1 : Nat) : Int).toNat < s.size - ((i + pre.length : Nat) : Int).toNat; omega
def SignPost (R i : Nat) (s : ByteArray) (w : World) (e : Ending) (w' : World) : Prop :=
  ∃ (x : UInt8) (r : Rf) (ok : Bool) (j : Nat), e = .returned (.tuple #[.int .u8 (x.toNat : Int), zfc r, .bool ok]) ∧ j ≤ s.size ∧ Rdr w' R s j ∧ HeadApart w' w.heap.size w'.heap.size r ∧ w.grownBy w' (some R) ∧
    (ok = true → ∃ p post, s.data.toList.drop i = (x :: p) ++ 32 :: post ∧ 32 ∉ x :: p ∧ zjz p = some (rAt r) ∧ j = i + p.length + 2) ∧
    (ok = false → ∀ y p post, s.data.toList.drop i = (y :: p) ++ 32 :: post → 32 ∉ y :: p → zjz p = none)
theorem MaxIn.grown {w w' : World} {R : Nat} (h : MaxIn w) (hb : w.grownBy w' (some R)) (hR : 1 ≠ R) : MaxIn w' := by
  obtain ⟨m, hm⟩ := h; exact ⟨m, hb.cell hm (by simp [hR])⟩
theorem zdm {c : UInt8} : ∀ {a b x y : List UInt8}, a ++ c :: x = b ++ c :: y → c ∉ a → c ∉ b → a = b ∧ x = y
  | [], [], x, y, h, _, _ => ⟨rfl, by simpa using h⟩
  | [], d :: b, x, y, h, _, hb => by simp at h; exact absurd h.1 (fun e => hb (by rw [e]; simp))
  | d :: a, [], x, y, h, ha, _ => by simp at h; exact absurd h.1.symm (fun e => ha (by rw [e]; simp))
  | d :: a, e :: b, x, y, h, ha, hb => by
    simp only [List.cons_append, List.cons.injEq] at h; obtain ⟨h1, h2⟩ := zdm h.2 (fun hm => ha (by simp [hm])) (fun hm => hb (by simp [hm])); exact ⟨by rw [h.1, h1], h2⟩
theorem mark_len {s : ByteArray} {i : Nat} {pre post : List UInt8} {b : UInt8} (h : s.data.toList.drop i = pre ++ b :: post) (hi : i ≤ s.size) : i + pre.length + 1 ≤ s.size := by
  obtain ⟨hj, _⟩ := zlj h hi; omega
theorem signed_any (R i : Nat) (s : ByteArray) (w : World) (h : Rdr w R s i) (hi : i ≤ s.size) (hs : s.size ≤ 1048576) (hE : EofIn w) (hR : 0 ≠ R) (hm : MaxIn w) (hR2 : 1 ≠ R) :
    Calls Tryz.prog 32 #[.pointer (some ⟨R, 0, none⟩)] w (SignPost R i s w) := by
  have hlR := h.lt; have a4 := zac w (.cells #[.string ⟨#[]⟩, .slice none 0 0] 51); have R0 := hid (h.below a4); have X0 := hid (Blk.new w 51 #[.string ⟨#[]⟩, .slice none 0 0]); have G0 := hid (zae a4 (some R)); have E0 := hE.below a4; obtain ⟨W0, a8⟩ : ∃ W0, w.alloc (.cells #[.string ⟨#[]⟩, .slice none 0 0] 51) = W0 := ⟨_, rfl⟩; clear h a4; go_enter Tryz.func32, Tryz.ntmps32; go_wp2_with fail
  have hz0 : W0.heap.size = w.heap.size + 1 := by rw [← a8]; simp
  rw [a8] at R0 X0 G0 E0; clear a8; refine (until_any R i s 32 W0 R0.out hi hs E0 hR).mono ?_; rintro e w1 ⟨a2, a6⟩; have G1 := hid (zad G0.out a6); have X1 := hid (X0.out.kept a6 qaj); have hz1 := a6.size; clear a6 R0 X0 G0
  have NO : ∀ (j : Nat), j ≤ s.size → Rdr w1 R s j → (∀ y p post, s.data.toList.drop i = (y :: p) ++ 32 :: post → 32 ∉ y :: p → zjz p = none) → SignPost R i s w (.returned (.tuple #[.int .u8 0, .agg #[.string ⟨#[]⟩, .slice none 0 0], .bool false])) ((w1.setCell ⟨w.heap.size, 0, none⟩ (.string ⟨#[]⟩)).setCell ⟨w.heap.size, 1, none⟩ (.slice none 0 0)) := by
    intro j hj hr hno; refine ⟨0, noRf, false, j, rfl, hj, ?_, zeo, ?_, qdd, fun _ => hno⟩
    · obtain ⟨p, hr⟩ := hr
      exact ⟨p, (Blk.far hr (p := ⟨w.heap.size, 0, none⟩) qca _).far qca _⟩
    · exact ⟨G1.out.os, G1.out.tape, G1.out.output, by simp only [zab]; exact G1.out.size, fun q hq hne => (hs_ _ _ _ q qcb).trans ((hs_ _ _ _ q qcb).trans (G1.out.block q hq hne))⟩
  have HNO := hid NO; clear NO; have x0 : w1.cell? ⟨w.heap.size, 0, none⟩ = some (.string ⟨#[]⟩) := X1.out.cell 0; have x1 : w1.cell? ⟨w.heap.size, 1, none⟩ = some (.slice none 0 0) := X1.out.cell 1; have q0 := X1.out.frozen 0; have q1 := X1.out.frozen 1; rcases a2 with ⟨pre, post, hp, hc, rfl, hr1⟩ | ⟨hc, rfl, hr1⟩
  · have hl := mark_len hp hi
    cases pre with
    | nil =>
      have a3 := hid hr1; have HP := hid hp; clear hr1 hp; go_wp2; refine bodyPost_ret (v := .tuple #[.int .u8 0, .agg #[.string ⟨#[]⟩, .slice none 0 0], .bool false]) (by simp [results, Tryz.results32, go_sem, x0, x1]) rfl (HNO.out _ (by simpa using hl) a3.out fun y p post' h1 h2 => ?_); rw [HP.out] at h1; simp at h1
      exact absurd h1.1 (fun e => h2 (by rw [e]; simp))
    | cons x p =>
      have a3 := hid hr1; have HP := hid hp; have HC := hid hc; obtain ⟨L, hL⟩ : ∃ L, x :: p = L := ⟨_, rfl⟩; have HL := hid hL; rw [hL]; have hne : ¬ L = [] := by rw [← hL]; simp
      have b7 : (L == []) = false := by rw [beq_eq_false_iff_ne]; exact hne
      have hlen : L.length = p.length + 1 := by rw [← hL]; simp
      clear hr1 hp hc hL; go_wp2_with fail; obtain ⟨T, hT⟩ : ∃ T : ByteArray, (⟨L.toArray⟩ : ByteArray).extract 1 (p.length + 1) = T := ⟨_, rfl⟩; have a9 : T.data.toList = p := by rw [← hT, ← HL.out]; simp [ByteArray.data_extract]
      have b5 : T.size ≤ 1048576 := by
        have h1 : T.size = T.data.toList.length := qag; have h2 : (x :: p).length = p.length + 1 := rfl; rw [h1, a9]; omega
      rw [hT]; have b9 : MaxIn w1 := hm.grown G1.out hR2; clear hT; refine (zpb T w1 b5 b9).mono ?_; rintro e w2 ⟨r, rfl, hH, hr, hb2⟩; rw [a9] at hr ⊢; unfold zfc; have b4 := HL.out; subst b4; clear HL; have a5 := zac w2 (.cells #[.string r.1, .slice r.2.1 r.2.2.1 r.2.2.2.1] 51); have X2 := (X1.out.below hb2).below a5; have Y2 := Blk.new w2 51 #[.string r.1, .slice r.2.1 r.2.2.1 r.2.2.2.1]; have b3 := (a3.out.below hb2).below a5; have G2 := zad G1.out (zae (zaa hb2 a5) (some R)); have hz2 := hb2.size; obtain ⟨W2, a7⟩ : ∃ W2, w2.alloc (.cells #[.string r.1, .slice r.2.1 r.2.2.1 r.2.2.2.1] 51) = W2 := ⟨_, rfl⟩
      have hzW : W2.heap.size = w2.heap.size + 1 := by rw [← a7]; simp
      have b6 : HeadApart W2 w1.heap.size w2.heap.size r := hH.keep (fun b _ h2 => by rw [← a7]; exact a5.block b h2) (nl _) (nl _); go_wp2_with fail; rw [a7] at X2 Y2 b3 G2; have e0 : W2.cell? ⟨w2.heap.size, 0, none⟩ = some (.string r.1) := Y2.cell 0; have e1 : W2.cell? ⟨w2.heap.size, 1, none⟩ = some (.slice r.2.1 r.2.2.1 r.2.2.2.1) := Y2.cell 1; have d0 : W2.cell? ⟨w.heap.size, 0, none⟩ = some (.string ⟨#[]⟩) := X2.cell 0; have d1 : W2.cell? ⟨w.heap.size, 1, none⟩ = some (.slice none 0 0) := X2.cell 1; have u0 := X2.frozen 0; have u1 := X2.frozen 1; clear x0 x1 q0 q1; have far : ∀ k, (⟨w.heap.size, 0, none⟩ : Addr) ≠ ⟨w2.heap.size, k, none⟩ ∧ (⟨w.heap.size, 1, none⟩ : Addr) ≠ ⟨w2.heap.size, k, none⟩ := fun k => ⟨fun e => by (injection e with e; omega), fun e => by (injection e with e; omega)⟩
      have k0 : ((W2.setCell ⟨w.heap.size, 0, none⟩ (.string r.1)).setCell ⟨w.heap.size, 1, none⟩ (.slice r.2.1 r.2.2.1 r.2.2.2.1)).cell? ⟨w2.heap.size, 0, none⟩ = some (.string r.1) := (World.cell?_setCell_other _ _ _ _ (far 0).2).trans ((World.cell?_setCell_other _ _ _ _ (far 0).1).trans e0); have k1 : ((W2.setCell ⟨w.heap.size, 0, none⟩ (.string r.1)).setCell ⟨w.heap.size, 1, none⟩ (.slice r.2.1 r.2.2.1 r.2.2.2.1)).cell? ⟨w2.heap.size, 1, none⟩ = some (.slice r.2.1 r.2.2.1 r.2.2.2.1) := (World.cell?_setCell_other _ _ _ _ (far 1).2).trans ((World.cell?_setCell_other _ _ _ _ (far 1).1).trans e1); clear far
      go_region_held3 (fun W => W.cell? ⟨w2.heap.size, 0, none⟩ = some (.string r.1) ∧ W.cell? ⟨w2.heap.size, 1, none⟩ = some (.slice r.2.1 r.2.2.1 r.2.2.2.1)) (first | exact ⟨e0, e1⟩ | exact ⟨k0, k1⟩) (fail); go_wp2; refine bodyPost_ret (v := .tuple #[.int .u8 (x.toNat : Int), .agg #[.string r.1, .slice r.2.1 r.2.2.1 r.2.2.2.1], .bool (zjz p).isSome]) (by simp [results, Tryz.results32, go_sem, d0, d1]; rfl) rfl ⟨x, r, (zjz p).isSome, _, rfl, hl, ?_, ?_, ?_, fun h1 => ?_, fun h1 y p' post' h2 h3 => ?_⟩
      · obtain ⟨q, hr⟩ := b3
        exact ⟨q, (Blk.far hr (p := ⟨w.heap.size, 0, none⟩) qca _).far qca _⟩
      · refine b6.keep (fun b h1 _ => (hs_ _ _ _ b qbh).trans (hs_ _ _ _ b qbh)) qaa (by simp only [zab, World.drew]; omega)
      · exact ⟨G2.os, G2.tape, G2.output, by simp only [zab, World.drew]; omega, fun q hq hne => (hs_ _ _ _ q qcb).trans ((hs_ _ _ _ q qcb).trans (G2.block q hq hne))⟩
      · obtain ⟨a, ha⟩ := Option.isSome_iff_exists.1 h1
        rw [ha] at hr; exact ⟨p, post, HP.out, HC.out, by rw [ha]; exact congrArg some hr.symm, by simp only [List.length_cons]; omega⟩
      · rw [HP.out] at h2
        obtain ⟨h4, _⟩ := zdm h2 HC.out h3; injection h4 with _ h4; rw [← h4]
        cases hg : zjz p with
        | none => rfl
        | some a => rw [hg] at h1; cases h1
  · have a3 := hid hr1; have HC := hid hc
    clear hr1 hc; go_wp2; refine bodyPost_ret (v := .tuple #[.int .u8 0, .agg #[.string ⟨#[]⟩, .slice none 0 0], .bool false]) (by simp [results, Tryz.results32, go_sem, x0, x1]) rfl (HNO.out _ (nl _) a3.out fun y p post' h1 h2 => ?_); exact absurd (by rw [h1]; simp) HC.out
theorem pw_all {α : Type} {R : α → α → Prop} : ∀ (l : List α), (∀ a ∈ l, ∀ b ∈ l, R a b) → l.Pairwise R
  | [], _ => .nil
  | x :: r, h => .cons (fun b hb => h x qag b (by simp [hb])) (pw_all r fun a ha b hb => h a (by simp [ha]) b (by simp [hb]))
abbrev Sg := UInt8 × At
def encS (l : List Sg) : List UInt8 := l.flatMap fun x => x.1 :: (zau x.2 ++ [32])
def sgs (xs ys : List At) : List Sg := ys.map (fun a => (45, a)) ++ xs.map (fun a => (43, a))
theorem zci (x : Sg) (l : List Sg) : encS (x :: l) = x.1 :: (zau x.2 ++ 32 :: encS l) := by simp [encS]
theorem zdu (xs ys : List At) : encS (sgs xs ys) = chL xs ys := by
  unfold encS sgs chL zcf; rw [List.flatMap_append, List.flatMap_map, List.flatMap_map]
theorem zdo : ∀ {T W : List Sg} {rest : List UInt8}, (∀ x ∈ W, zax x.2 = true) → (∀ x ∈ T, zax x.2 = true) → encS W = encS T ++ rest → ∃ V, W = T ++ V ∧ rest = encS V
  | [], W, rest, _, _, h => ⟨W, rfl, by simpa [encS] using h.symm⟩
  | x :: T, [], rest, _, _, h => by rw [zci] at h; simp [encS] at h
  | x :: T, y :: W, rest, hW, hT, h => by
    rw [zci, zci, List.cons_append, List.append_assoc, List.cons_append] at h; injection h with h1 h2; have hy := hW y qag; have hx := hT x qag; obtain ⟨h3, h4⟩ := zdm h2 (zei hy) (zei hx)
    have h5 : y.2 = x.2 := by
      have e1 := zjx hy; rw [h3, zjx hx] at e1; exact (Option.some.inj e1).symm
    obtain ⟨V, h6, h7⟩ := zdo (fun z hz => hW z (by simp [hz])) (fun z hz => hT z (by simp [hz])) h4; exact ⟨V, by rw [h6, show y = x from Prod.ext h1 h5]; rfl, h7⟩
theorem zcg {xs ys : List At} (hx : ∀ a ∈ xs, zax a = true) (hy : ∀ a ∈ ys, zax a = true) : ∀ z ∈ sgs xs ys, zax z.2 = true := by
  intro z hz; unfold sgs at hz; rcases List.mem_append.1 hz with hz | hz
  · obtain ⟨a, ha, rfl⟩ := List.mem_map.1 hz; exact hy a ha
  · obtain ⟨a, ha, rfl⟩ := List.mem_map.1 hz; exact hx a ha
theorem sgs_inj {xs ys xs' ys' : List At} (h : sgs xs ys = sgs xs' ys') : xs = xs' ∧ ys = ys' := by
  have a2 : ∀ us vs : List At, (sgs us vs).filterMap (fun z => if z.1 = 43 then some z.2 else none) = us ∧ (sgs us vs).filterMap (fun z => if z.1 = 45 then some z.2 else none) = vs := by
    intro us vs; unfold sgs; simp [List.filterMap_append, List.filterMap_map, Function.comp_def]
  have k1 := a2 xs ys; have k2 := a2 xs' ys'; rw [h] at k1; exact ⟨k1.1.symm.trans k2.1, k1.2.symm.trans k2.2⟩
theorem chL_inj {xs ys xs' ys' : List At} (h : zao xs ys = true) (h' : zao xs' ys' = true) (he : chL xs ys = chL xs' ys') : xs = xs' ∧ ys = ys' := by
  obtain ⟨_, _, a1, a2⟩ := zbk h; obtain ⟨_, _, b1, b2⟩ := zbk h'; rw [← zdu, ← zdu] at he; obtain ⟨V, h1, h2⟩ := zdo (rest := []) (zcg a1 a2) (zcg b1 b2) (by rw [List.append_nil]; exact he)
  cases V with
  | nil => rw [List.append_nil] at h1; exact sgs_inj h1
  | cons z V => rw [zci] at h2; cases h2
theorem no_change {l rest : List UInt8} {cs gs : List At} (hl : l = chL cs gs ++ rest) (hc : ∀ a ∈ cs, zax a = true) (hg : ∀ a ∈ gs, zax a = true) (hr : rest ≠ [])
    (hno : ∀ y p post a, rest = (y :: p) ++ 32 :: post → 32 ∉ y :: p → zjz p = some a → ¬ (y = 45 ∧ cs = []) ∧ y ≠ 43) (xs ys : List At) (h : zao xs ys = true) : l ≠ chL xs ys := by
  intro he; obtain ⟨_, _, a1, a2⟩ := zbk h; rw [hl, ← zdu, ← zdu] at he; obtain ⟨V, h1, h2⟩ := zdo (zcg a1 a2) (zcg hc hg) he.symm
  cases V with
  | nil => exact hr (by rw [h2]; rfl)
  | cons z V =>
    have hz : z ∈ sgs xs ys := by rw [h1]; simp
    have a4 := zcg a1 a2 z hz
    have a3 : z.1 = 45 ∨ z.1 = 43 := by
      unfold sgs at hz; rcases List.mem_append.1 hz with hz | hz
      · obtain ⟨a, _, rfl⟩ := List.mem_map.1 hz; exact .inl rfl
      · obtain ⟨a, _, rfl⟩ := List.mem_map.1 hz; exact .inr rfl
    have a5 : (32 : UInt8) ∉ z.1 :: zau z.2 := by
      intro hm; rcases List.mem_cons.1 hm with hm | hm
      · rcases a3 with e | e <;> rw [e] at hm <;> exact absurd hm qan
      · exact zei a4 hm
    obtain ⟨n1, n2⟩ := hno z.1 (zau z.2) (encS V) z.2 (by rw [h2, zci]; rfl) a5 (zjx a4); rcases a3 with e | e
    · cases cs with
      | nil => exact n1 ⟨e, rfl⟩
      | cons c cs =>
        unfold sgs at h1
        have hp : (ys.map (fun a => ((45, a) : Sg)) ++ xs.map (fun a => ((43, a) : Sg))).Pairwise (fun u v : Sg => u.1 = 43 → v.1 = 43) := by
          rw [List.pairwise_append]; refine ⟨pw_all _ fun u hu v _ h => ?_, pw_all _ fun u _ v hv _ => ?_, fun u hu v hv h => ?_⟩
          · obtain ⟨a, _, rfl⟩ := List.mem_map.1 hu
            exact absurd h (show ¬ (45 : UInt8) = 43 by decide)
          · obtain ⟨a, _, rfl⟩ := List.mem_map.1 hv
            rfl
          · obtain ⟨a, _, rfl⟩ := List.mem_map.1 hu
            exact absurd h (show ¬ (45 : UInt8) = 43 by decide)
        rw [h1, List.pairwise_append] at hp; have := hp.2.2 (43, c) qag z qag rfl; rw [e] at this; exact absurd this qan
    · exact n2 e
structure CG (w : World) (cb lo mid hi : Nat) (vc vg : Value) (rc rg : List Rf) (W : World) : Prop where
  C : Blk W cb 25 #[vc, vg]
  G : W.ownsRow lo 51 2 vg rg.length (zai rg)
  GL : ∀ g, vg.ownBlock = some g → g < mid
  GI : OwnIn W lo mid rg
  K : W.ownsRow mid 51 2 vc rc.length (zai rc)
  KI : OwnIn W mid hi rc
  hc : w.heap.size ≤ cb
  h0 : cb < lo
  h1 : lo ≤ mid
  h2 : mid ≤ hi
  h3 : hi ≤ W.heap.size
  gr : Below w.heap.size w W
section
variable {w : World} {cb lo mid hi : Nat} {vc vg : Value} {rc rg : List Rf} {W W' : World} {R : Nat}
theorem CG.raise (h : CG w cb lo mid hi vc vg rc rg W) : CG w cb lo mid W.heap.size vc vg rc rg W :=
  ⟨h.C, h.G, h.GL, h.GI, h.K, h.KI.keep (fun _ _ _ => rfl) (nl _) h.h3, h.hc, h.h0, h.h1, Nat.le_trans h.h2 h.h3, nl _, h.gr⟩
theorem CG.step (h : CG w cb lo mid hi vc vg rc rg W) (hg : W.grownBy W' (some R)) (hR : R < lo) (hne : R ≠ cb) (hw : w.heap.size ≤ R) : CG w cb lo mid hi vc vg rc rg W' := by
  have h0 := h.h0; have h1 := h.h1; have h2 := h.h2; have h3 := h.h3; have a3 := hg.size; have hs := h.gr.size
  exact ⟨h.C.kept hg (fun e => hne (by injection e with e; exact e.symm)), h.G.kept hg (zge h.G hR), h.GL, h.GI.keep (fun b a1 a2 => hg.block b qaa qaj) (nl _) (nl _),
    h.K.kept hg (zge h.K qaa), h.KI.keep (fun b a1 a2 => hg.block b qaa qaj) (nl _) (nl _), h.hc, h.h0, h.h1, h.h2, Nat.le_trans h3 a3,
    ⟨hg.os.trans h.gr.os, hg.tape.trans h.gr.tape, hg.output.trans h.gr.output, Nat.le_trans hs a3, fun k hk => (hg.block k qaa qaj).trans (h.gr.block k hk)⟩⟩
theorem CG.below (h : CG w cb lo mid hi vc vg rc rg W) (hb : Below W.heap.size W W') : CG w cb lo mid hi vc vg rc rg W' := by
  have h2 := h.h2; have h3 := h.h3; have a3 := hb.size; have hs := h.gr.size
  exact ⟨h.C.below hb, zan h.G hb, h.GL, h.GI.keep (fun b _ a2 => hb.block b qaa) (nl _) (nl _), zan h.K hb, h.KI.keep (fun b _ a2 => hb.block b qaa) (nl _) (nl _),
    h.hc, h.h0, h.h1, h.h2, Nat.le_trans h3 a3, h.gr.trans (hb.mono hs)⟩
theorem zbf {base k : Nat} {v : Value} {xs : List Value} (hrow : W.ownsRow base 51 2 v k xs) (hC : Blk W cb 25 #[vc, vg]) : some cb ≠ v.ownBlock := by
  rcases hrow.2 with ⟨rfl, _⟩ | ⟨g, cap, cur, rfl, _, hgb, _⟩
  · simp [Value.ownBlock]
  · intro e
    simp [Value.ownBlock] at e; rw [← e, show W.heap[cb]? = _ from hC] at hgb; injection hgb with hgb; injection hgb with _ hgb; exact absurd hgb qan
theorem zqd {p : Prop} (h : p := by
  exact ⟨hgrow.os.trans hA.gr.os, hgrow.tape.trans hA.gr.tape, hgrow.output.trans hA.gr.output, by omega, fun k hk => (hgrow.block k qaa (fun e => by have := far k e.symm; omega)).trans (hA.gr.block k hk)⟩) : p := h
theorem CG.goes {r : Rf} {v' : Value} {ob : Obj} {W9 : World} (h : CG w cb lo mid hi (.slice none 0 0) vg [] rg W) (hr : HeadApart W hi W.heap.size r)
    (hown : W9.ownsRow lo 51 2 v' (rg.length + 1) (zai rg ++ [.string r.1, .slice r.2.1 r.2.2.1 r.2.2.2.1])) (hgrow : (W.alloc ob).grownBy W9 vg.ownBlock) :
    CG w cb lo W9.heap.size W9.heap.size (.slice none 0 0) v' [] (rg ++ [r]) (W9.setCell ⟨cb, 1, none⟩ v') := by
  have h0 := h.h0; have h1 := h.h1; have h2 := h.h2; have h3 := h.h3; have hs := h.gr.size; have hc := h.hc; have hb1 := zac W ob; have a3 := hgrow.size; have a5 := hb1.size; have hA := h.below hb1; have far : ∀ g, vg.ownBlock = some g → lo ≤ g := fun g hg => (hA.G.lt g hg).1; have i1 : OwnIn W lo W.heap.size (rg ++ [r]) := (h.GI.keep (fun _ _ _ => rfl) (nl _) h2).snoc (fun _ _ _ => rfl) h3 hr.1 (Nat.le_trans h1 h2) hr.2.1 hr.2.2; have i2 : OwnIn W9 lo W9.heap.size (rg ++ [r]) := (i1.keep (w' := W.alloc ob) (fun b _ a2 => hb1.block b a2) (nl _) a5).appended hA.G hgrow a3; have c9 : Blk W9 cb 25 #[.slice none 0 0, vg] := hA.C.kept hgrow (zbf hA.G hA.C)
  have a4 := zbf hown c9; refine ⟨c9.set 1 v', ?_, fun g hg => (hown.lt g hg).2, ?_, ⟨rfl, .inl ⟨rfl, rfl⟩⟩, OwnIn.nil, hc, h0, by omega, nl _, by rw [zab]; exact nl _, ?_⟩
  · rw [List.length_append, zcv]; exact zds hown a4 _
  · exact i2.keep (fun b a1 _ => hs_ _ _ _ b qdh) (nl _) (nl _)
  · refine Below.setCell ?_ hc _
    exact zqd
theorem CG.comes {r : Rf} {v' : Value} {ob : Obj} {W9 : World} (h : CG w cb lo mid hi vc vg rc rg W) (hr : HeadApart W hi W.heap.size r)
    (hown : W9.ownsRow mid 51 2 v' (rc.length + 1) (zai rc ++ [.string r.1, .slice r.2.1 r.2.2.1 r.2.2.2.1])) (hgrow : (W.alloc ob).grownBy W9 vc.ownBlock) :
    CG w cb lo mid W9.heap.size v' vg (rc ++ [r]) rg (W9.setCell ⟨cb, 0, none⟩ v') := by
  have h0 := h.h0; have h1 := h.h1; have h2 := h.h2; have h3 := h.h3; have hs := h.gr.size; have hc := h.hc; have hb1 := zac W ob; have a6 := hgrow.size; have a5 := hb1.size; have hA := h.below hb1; have far : ∀ g, vc.ownBlock = some g → mid ≤ g := fun g hg => (hA.K.lt g hg).1; have i1 : OwnIn W mid W.heap.size (rc ++ [r]) := h.KI.snoc (fun _ _ _ => rfl) h3 hr.1 h2 hr.2.1 hr.2.2; have i2 : OwnIn W9 mid W9.heap.size (rc ++ [r]) := (i1.keep (w' := W.alloc ob) (fun b _ a2 => hb1.block b a2) (nl _) a5).appended hA.K hgrow a6; have c9 : Blk W9 cb 25 #[vc, vg] := hA.C.kept hgrow (zbf hA.K hA.C)
  have a4 := zbf hown c9
  have a3 : vg.ownBlock = none ∨ vg.ownBlock ≠ vc.ownBlock := by
    cases hv : vg.ownBlock with
    | none => exact .inl rfl
    | some g => exact .inr (fun e => by have a1 := far g e.symm; have a2 := h.GL g hv; omega)
  have g9 := hA.G.kept hgrow a3; refine ⟨c9.set 0 v', zds g9 (zbf g9 c9) _, h.GL, ?_, ?_, ?_, hc, h0, h1, by omega, by rw [zab]; exact nl _, ?_⟩
  · exact hA.GI.keep (fun b a1 a2 => (hs_ _ _ _ b qdh).trans (hgrow.block b qaa (fun e => by have := far b e.symm; omega))) (nl _) (nl _)
  · rw [List.length_append, zcv]; exact zds hown a4 _
  · exact i2.keep (fun b a1 _ => hs_ _ _ _ b qdh) (nl _) (nl _)
  · refine Below.setCell ?_ hc _
    exact zqd
end
theorem zjr (s : ByteArray) (w : World) :
    Calls Tryz.prog 30 #[.string s] w fun e w' => e = .returned (.pointer (some ⟨w.heap.size, 0, none⟩)) ∧ Rdr w' w.heap.size s 0 ∧ Below w.heap.size w w' ∧ w.heap.size < w'.heap.size := by
  have h0 : Hid (Rdr (w.alloc (.cells #[.string ⟨#[]⟩, .int .i64 0, .int .i64 0] 64)) w.heap.size ⟨#[]⟩ 0) := hid ⟨0, Blk.new w _ _⟩; have hb := zac w (.cells #[.string ⟨#[]⟩, .int .i64 0, .int .i64 0] 64); go_enter Tryz.func30, Tryz.ntmps30; go_wp2_with fail; refine (rdReset_any w.heap.size 0 ⟨#[]⟩ s _ h0.out).mono ?_; rintro e w2 ⟨rfl, hr, hg⟩; have HR := hid hr; have HG := hid hg; clear hr hg; go_wp2; go_ret; exact ⟨rfl, HR.out, hb.grown HG.out hb.size qes, HR.out.lt⟩
def GetCPost (l : List UInt8) (w : World) (e : Ending) (w' : World) : Prop :=
  ∃ (A : Option Addr) (c : Nat) (ra : List Rf) (B : Option Addr) (d : Nat) (rb : List Rf) (mid : Nat) (ok : Bool), e = .returned (.tuple #[.agg #[.slice A ra.length c, .slice B rb.length d], .bool ok]) ∧
    OwnRefs w' mid w'.heap.size A ra.length c ra ∧ OwnRefs w' w.heap.size mid B rb.length d rb ∧ (w.heap.size ≤ mid ∧ mid ≤ w'.heap.size) ∧ Below w.heap.size w w' ∧
    (ok = true → zao (ra.map rAt) (rb.map rAt) = true ∧ l = chL (ra.map rAt) (rb.map rAt)) ∧ (ok = false → ra = [] ∧ rb = [] ∧ ∀ xs ys, zao xs ys = true → l ≠ chL xs ys)
section
variable {w : World} {cb lo mid hi : Nat} {vc vg : Value} {rc rg : List Rf} {W : World}
theorem CG.own (h : CG w cb lo mid hi vc vg rc rg W) : ∃ A c B d, vc = .slice A rc.length c ∧ vg = .slice B rg.length d ∧ OwnRefs W mid W.heap.size A rc.length c rc ∧ OwnRefs W w.heap.size mid B rg.length d rg := by
  have h0 := h.h0; have h1 := h.h1; have h2 := h.h2; have h3 := h.h3; have hc := h.hc; obtain ⟨A, c, e1, o1⟩ := OwnRefs.of_row (lo := mid) h.K rfl (nl _) (h.KI.keep (fun _ _ _ => rfl) (nl _) h.h3) (nl _); obtain ⟨B, d, e2, o2⟩ := OwnRefs.of_row (lo := lo) h.G rfl (nl _) (h.GI.keep (fun _ _ _ => rfl) (nl _) (Nat.le_trans h.h2 h.h3)) (nl _); refine ⟨A, c, B, d, e1, e2, o1, o2.1, o2.2.1, o2.2.2.1, fun hn => ?_, h.GI.keep (fun _ _ _ => rfl) qaa (nl _)⟩; obtain ⟨g, k, f, a1, a2, a3, a4⟩ := o2.2.2.2.1 hn; exact ⟨g, k, f, a1, by omega, h.GL g (by rw [e2, a1]; rfl), a4⟩
end
theorem chL_goes (gs : List At) (a : At) : chL [] (gs ++ [a]) = chL [] gs ++ (45 :: (zau a ++ [32])) := by unfold chL zcf; simp
theorem chL_comes (cs gs : List At) (a : At) : chL (cs ++ [a]) gs = chL cs gs ++ (43 :: (zau a ++ [32])) := by unfold chL zcf; simp
theorem zmb {w : World} {lo hi : Nat} : OwnRefs w lo hi none 0 0 [] := ⟨rfl, nl _, Nat.zero_le _, fun h0 => absurd h0 qag, OwnIn.nil⟩
theorem chL_uniq {xs ys xs' ys' : List At} (a1 : ∀ a ∈ xs, zax a = true) (a2 : ∀ a ∈ ys, zax a = true) (h' : zao xs' ys' = true) (he : chL xs ys = chL xs' ys') : xs = xs' ∧ ys = ys' := by
  obtain ⟨_, _, b1, b2⟩ := zbk h'; rw [← zdu, ← zdu] at he; obtain ⟨V, h1, h2⟩ := zdo (rest := []) (zcg a1 a2) (zcg b1 b2) (by rw [List.append_nil]; exact he)
  cases V with
  | nil => rw [List.append_nil] at h1; exact sgs_inj h1
  | cons z V => rw [zci] at h2; cases h2
theorem Rdr.turned {w W9 : World} {R i base k cb c : Nat} {s : ByteArray} {v u : Value} {xs : List Value} {e : TypeId} {sz : Nat} {ob : Obj} (h : Rdr w R s i) (hrow : w.ownsRow base e sz v k xs) (hR : R < base) (hg : (w.alloc ob).grownBy W9 v.ownBlock) (hne : R ≠ cb) : Rdr (W9.setCell ⟨cb, c, none⟩ u) R s i := by
  obtain ⟨p, h⟩ := h; exact ⟨p, ((h.alloc ob).kept hg (fun e' => by have := (hrow.lt R e'.symm).1; omega)).far (p := ⟨cb, c, none⟩) hne _⟩
structure CAt (s : ByteArray) (i : Nat) (rc rg : List Rf) : Prop where
  li : i ≤ s.size
  ln : rc.length + rg.length ≤ i
  ac : ∀ a ∈ rc.map rAt, zax a = true
  ag : ∀ a ∈ rg.map rAt, zax a = true
  tx : s.data.toList = chL (rc.map rAt) (rg.map rAt) ++ s.data.toList.drop i
section
variable {s : ByteArray} {i : Nat} {rc rg : List Rf} {r : Rf} {x : UInt8} {p post : List UInt8}
theorem CAt.start (s : ByteArray) : CAt s 0 [] [] := ⟨Nat.zero_le _, nl _, fun a h => by simp at h, fun a h => by simp at h, by simp [chL, zcf]⟩
theorem drop_on (h : s.data.toList.drop i = (x :: p) ++ 32 :: post) : s.data.toList.drop (i + p.length + 2) = post := by
  rw [Nat.add_assoc, ← List.drop_drop, h]; have : (x :: p) ++ 32 :: post = (x :: (p ++ [32])) ++ post := qag; rw [this]; exact List.drop_left' qag
theorem CAt.goes (h : CAt s i [] rg) (hd : s.data.toList.drop i = (45 :: p) ++ 32 :: post) (hg : zjz p = some (rAt r)) (hj : i + p.length + 2 ≤ s.size) : CAt s (i + p.length + 2) [] (rg ++ [r]) := by
  obtain ⟨h1, h2, _⟩ := zjy hg; refine ⟨hj, by have := h.ln; simp only [List.length_append, List.length_nil, List.length_cons] at *; omega, h.ac, fun a ha => ?_, ?_⟩
  · rw [List.map_append] at ha
    rcases List.mem_append.1 ha with ha | ha
    · exact h.ag a ha
    · have a2 : a = rAt r := by simpa using ha
      rw [a2]; exact h1
  · rw [drop_on hd, List.map_append]
    show _ = chL [] (rg.map rAt ++ [rAt r]) ++ post; rw [chL_goes, h2]; have := h.tx; rw [hd] at this; rw [this]; simp
theorem CAt.comes (h : CAt s i rc rg) (hd : s.data.toList.drop i = (43 :: p) ++ 32 :: post) (hg : zjz p = some (rAt r)) (hj : i + p.length + 2 ≤ s.size) : CAt s (i + p.length + 2) (rc ++ [r]) rg := by
  obtain ⟨h1, h2, _⟩ := zjy hg; refine ⟨hj, by have := h.ln; simp only [List.length_append, List.length_nil, List.length_cons] at *; omega, fun a ha => ?_, h.ag, ?_⟩
  · rw [List.map_append] at ha
    rcases List.mem_append.1 ha with ha | ha
    · exact h.ac a ha
    · have a2 : a = rAt r := by simpa using ha
      rw [a2]; exact h1
  · rw [drop_on hd, List.map_append]
    show _ = chL (rc.map rAt ++ [rAt r]) (rg.map rAt) ++ post; rw [chL_comes, h2]; have := h.tx; rw [hd] at this; rw [this]; simp
theorem CAt.none (h : CAt s i rc rg) (hi : i < s.size) (hno : ∀ y p post a, s.data.toList.drop i = (y :: p) ++ 32 :: post → 32 ∉ y :: p → zjz p = some a → ¬ (y = 45 ∧ rc = []) ∧ y ≠ 43) :
    ∀ xs ys, zao xs ys = true → s.data.toList ≠ chL xs ys :=
  no_change h.tx h.ac h.ag (fun e => by
    have h1 := congrArg List.length e; have h0 : s.data.toList.length = s.size := qag; simp only [List.length_drop, h0, List.length_nil] at h1
    omega) (fun y p post a h1 h2 h3 => by
      obtain ⟨k1, k2⟩ := hno y p post a h1 h2 h3; exact ⟨fun ⟨e1, e2⟩ => k1 ⟨e1, by simpa using e2⟩, k2⟩)
theorem CAt.all (h : CAt s i rc rg) (hi : ¬ i < s.size) : s.data.toList = chL (rc.map rAt) (rg.map rAt) := by
  have h1 := h.tx; have h0 : s.data.toList.length = s.size := qag; rw [List.drop_of_length_le qaa, List.append_nil] at h1; exact h1
end
end Go.Proofs.YtogonjkklioaaaaGreatDoor
