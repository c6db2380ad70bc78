/-
  Texts of one claim, put together.
-/
import Derived.Test.YtogonjkklioaaaaGreatDoorLg23
import Derived.Test.YtogonjkklioaaaaGreatDoorShelfG
import Derived.Test.YtogonjkklioaaaaGreatDoorShelf4
set_option maxRecDepth 100000
set_option maxHeartbeats 8000000
namespace Go.Proofs.YtogonjkklioaaaaGreatDoor
open Go.RowKit
def MaxIn (w : World) : Prop := ∃ m : Int, w.cell? ⟨1, 0, none⟩ = some (.int .i64 m)
theorem MaxIn.below {w w' : World} (h : MaxIn w) (hb : Below w.heap.size w w') : MaxIn w' := by
  obtain ⟨m, hm⟩ := h; exact ⟨m, (hb.cell (World.block_lt_of_cell? _ _ hm)).trans hm⟩
theorem byteOne (c : UInt8) : (⟨#[c]⟩ : ByteArray).data.toList = [c] := rfl
theorem split_any (s : ByteArray) (c : UInt8) (w : World) (hs : s.size ≤ 1048576) (hm : MaxIn w) :
    Calls Tryz.prog 126 #[.string s, .string ⟨#[c]⟩] w fun e w' => e = .returned (.slice (some ⟨w.heap.size, 0, none⟩) (zef c s).length (zef c s).length) ∧ w' = w.alloc (.cells ((zef c s).map Value.string).toArray 9) := by
  obtain ⟨m, hm⟩ := hm; have h := Tryz.strings_Split s ⟨#[c]⟩ m w qaa hm (nl 1)
  have e : Lib.splitB ⟨#[c]⟩ 0 (Lib.countB s ⟨#[c]⟩) s = zef c s := by
    have h1 := Lib.splitB_data ⟨#[c]⟩ 0 (Lib.countB s ⟨#[c]⟩) s; have h2 : Lib.splitK [c] 0 (Lib.countB s ⟨#[c]⟩) s.data.toList = zfj c s.data.toList := split_cuts c s.data.toList; rw [byteOne, h2, ← zfv] at h1
    have a2 : ∀ xs ys : List ByteArray, xs.map (fun x => x.data.toList) = ys.map (fun x => x.data.toList) → xs = ys := by
      intro xs
      induction xs with
      | nil => intro ys h; cases ys with
        | nil => rfl
        | cons y r => cases h
      | cons x xs ih => intro ys h; cases ys with
        | nil => cases h
        | cons y r =>
          simp only [List.map_cons, List.cons.injEq] at h
          have e1 : x = y := by
            obtain ⟨⟨x⟩⟩ := x; obtain ⟨⟨y⟩⟩ := y; have := h.1; simp at this; subst this; rfl
          rw [e1, ih r h.2]
    exact a2 _ _ h1
  have e2 : (zef c s).length = Lib.countB s ⟨#[c]⟩ + 1 := by rw [← e]; exact Lib.splitB_all ⟨#[c]⟩ (nl 1) 0 _ s rfl
  rw [e] at h; rw [e2]; exact h
theorem pieces_at (w : World) (ls : List ByteArray) (t : TypeId) (k : Nat) (s : ByteArray) (h : ls[k]? = some s) : (w.alloc (.cells (ls.map Value.string).toArray t)).cell? ⟨w.heap.size, k, none⟩ = some (.string s) := by
  have X := Blk.new w t (ls.map Value.string).toArray; rw [X.cell k]; simp [h]
theorem rowLow {w : World} {b b' sz n : Nat} {e : TypeId} {v : Value} {xs : List Value} (h : w.ownsRow b e sz v n xs) (hb : b' ≤ b) : w.ownsRow b' e sz v n xs := by
  refine ⟨h.1, ?_⟩; rcases h.2 with h0 | ⟨g, cap, cur, h1, h2, h3⟩
  · exact .inl h0
  · exact .inr ⟨g, cap, cur, h1, Nat.le_trans hb h2, h3⟩
def TermsGetPost (l : List UInt8) (w : World) (e : Ending) (w' : World) : Prop :=
  ∃ A n c, e = .returned (.slice A n c) ∧ w'.ownsRow w.heap.size 110 2 (.slice A n c) n (tcs (zaz l)) ∧ (zaz l).length = n ∧ Below w.heap.size w w'
theorem ZAtomGet1 {p : Prop} (h : p := by
  have HR5 : Hid (w5.ownsRow w1.heap.size 110 2 (.slice (some ⟨g', 0, none⟩) (k + 1) cap') (k + 1) (tcs (zdw (ws.take (k + 1))))) := hid (by rw [zni HG.out, E5.out]; exact hown.out); have hb5 := hid (cutRow hb HR.out hgrow.out); clear hown hgrow HR hb; go_roundw
  case rel => exact ⟨k + 1, _, _, by omega, by go_num, rfl, HR5.out, hb5.out⟩
  case measure => exact qms) : p := h
theorem termsGet_any (s : ByteArray) (w : World) (hs : s.size ≤ 1048576) (hm : MaxIn w) :
    Calls Tryz.prog 98 #[.string s] w (TermsGetPost s.data.toList w) := by
  obtain ⟨i0, hi, hz, hsz, hby⟩ := info_parts Tryz.infoTerm; by_cases h0 : s.size = 0
  · have a9 : s.toList.isEmpty = true := empty_of h0
    have e0 : zaz s.data.toList = [] := by unfold zaz; rw [if_pos (nil_of h0)]
    have E := hid e0; clear e0; go_enter Tryz.func98, Tryz.ntmps98; go_wp2_with fail; go_ret; exact ⟨none, 0, 0, rfl, ⟨by rw [E.out]; rfl, .inl ⟨rfl, rfl⟩⟩, by rw [E.out]; rfl, Below.refl _ _⟩
  · have a9 : s.toList.isEmpty = false := ziw h0
    obtain ⟨ws, a2⟩ : ∃ x, zef 44 s = x := ⟨_, rfl⟩; have hwl : ws.length ≤ s.size + 1 := by rw [← a2]; exact zhl 44 s
    have hwz : ∀ x ∈ ws, x.size ≤ 1048576 := fun x hx => Nat.le_trans (zep (c := 44) (s := s) (by rw [a2]; exact hx)) hs; have E := hid (show zaz s.data.toList = zdw ws by unfold zaz; rw [if_neg (fun e => h0 (zjk e)), ← a2, znj]); have a6 := hid a2; have b4 := hid hwz; clear a2 hwz; go_enter Tryz.func98, Tryz.ntmps98; go_wp2_with fail; refine (split_any s 44 w hs hm).mono ?_; rintro e w1 ⟨rfl, a3⟩; rw [a6.out] at a3 ⊢; have hb1 : Below w.heap.size w w1 := by rw [a3]; exact zac _ _
    have HP := hid (fun (k : Nat) (x : ByteArray) (h : ws[k]? = some x) => (show w1.cell? ⟨w.heap.size, k, none⟩ = some (.string x) by rw [a3]; exact pieces_at w ws _ k x h)); have hz1 : w1.heap.size = w.heap.size + 1 := by rw [a3]; simp
    clear a3; go_wp2_with fail; go_loopw [3, 5, 11] (fun o _ i wr => ∃ (k : Nat) (Av : Option Addr) (cv : Nat), k ≤ ws.length ∧ i = .int .i64 (k : Int) ∧ o = .slice Av k cv ∧ wr.ownsRow w1.heap.size 110 2 (.slice Av k cv) k (tcs (zdw (ws.take k))) ∧ Below w1.heap.size w1 wr) (fun _ _ i _ => ws.length - (intOf i).toNat)
    case atStart => exact ⟨0, none, 0, Nat.zero_le _, rfl, rfl, ⟨rfl, .inl ⟨rfl, rfl⟩⟩, Below.refl _ _⟩
    case round =>
      obtain ⟨k, Av, cv, hk, rfl, rfl, a4, hb⟩ := hrel; have HR := hid a4; clear a4; have hzr := hb.size; by_cases hlt : k < ws.length
      · have a5 : (k : Int) < (ws.length : Int) := qaa
        obtain ⟨s5, hg⟩ : ∃ x, ws[k]? = some x := ⟨ws[k], List.getElem?_eq_getElem hlt⟩; have c5 : wr.cell? ⟨w.heap.size, k, none⟩ = some (.string s5) := (hb.cell (p := ⟨w.heap.size, k, none⟩) (by show w.heap.size < w1.heap.size; omega)).trans (HP.out k s5 hg); have hs5 : s5.size ≤ 1048576 := b4.out s5 (List.mem_of_getElem? hg); have HG := hid hg; clear hg; by_cases h5 : s5.size = 0
        · have a8 : s5.toList.isEmpty = true := empty_of h5
          have E5 := hid (arg_none h5)
          go_wp2_with (first
              | (go_at_call 127; refine (zjc _ _).mono ?_; rintro e w' ⟨rfl, rfl⟩)
              | (at_builtin; refine wpList_append_own _ rfl _ _ 49 rfl w1.heap.size 110 i0 _ 2 24 Tryz.underlying49 hi hz hsz hby rfl qan _ _ _ rfl (HR.out.alloc _) ⟨wr.heap.size, 0, none⟩ 1 1 [.bool false, .string s5] rfl rfl (zbr _ _ _ _) qal qaf qaa qah ?_; intro v' w5 hown' hgrow' _; obtain ⟨g', cap', rfl⟩ := ownsRow_succ hown'; have hown := hid hown'; have hgrow := hid hgrow'; clear hown' hgrow'))
          exact ZAtomGet1
        · have a8 : s5.toList.isEmpty = false := ziw h5
          have a7 : 0 < s5.size := qaa; have h5i : (0 : Int) < (s5.size : Int) := qaa; have E5 := hid (arg_first a7)
          go_wp2_with (first
              | (go_at_call 127; refine (zjc _ _).mono ?_; rintro e w' ⟨rfl, rfl⟩)
              | (at_builtin; refine wpList_append_own _ rfl _ _ 49 rfl w1.heap.size 110 i0 _ 2 24 Tryz.underlying49 hi hz hsz hby rfl qan _ _ _ rfl (HR.out.alloc _) ⟨wr.heap.size, 0, none⟩ 1 1 [.bool (zco s5[0]), .string s5] rfl rfl (zbr _ _ _ _) qal qaf qaa qah ?_; intro v' w5 hown' hgrow' _; obtain ⟨g', cap', rfl⟩ := ownsRow_succ hown'; have hown := hid hown'; have hgrow := hid hgrow'; clear hown' hgrow'))
          exact ZAtomGet1
      · have b3 : k = ws.length := qaa
        have a5 : ¬ (k : Int) < (ws.length : Int) := qaa
        have hr : wr.ownsRow w.heap.size 110 2 (.slice Av k cv) k (tcs (zaz s.data.toList)) := by
          have h := HR.out; rw [List.take_of_length_le qaa] at h; rw [E.out]; exact rowLow h qaa
        have HF := hid hr; have HL := hid (show (zaz s.data.toList).length = k by rw [E.out]; unfold zdw; rw [List.length_map]; omega); clear hr b3; go_wp2_with fail; go_ret; exact ⟨Av, k, cv, rfl, HF.out, HL.out, hb1.trans (hb.mono hb1.size)⟩
theorem cut_sizes {l x r : List UInt8} {f : Bool} {c : UInt8} (h : Lib.cut l [c] = (x, r, f)) : x.length ≤ l.length ∧ r.length ≤ l.length := by
  rcases zez c l with hn | ⟨y, z, rfl, hy⟩
  · rw [cut_none hn] at h
    injection h with h1 h2; injection h2 with h2; subst h1; subst h2; exact ⟨nl _, Nat.zero_le _⟩
  · rw [zhm hy] at h
    injection h with h1 h2; injection h2 with h2; subst h1; subst h2; constructor <;> (rw [List.length_append, List.length_cons]; omega)
theorem trim_size (r : List UInt8) (c : UInt8) : (Lib.trimSuffix r [c]).length ≤ r.length := by
  unfold Lib.trimSuffix; split
  · rw [List.length_take]; omega
  · exact nl _
theorem mk_data (l : List UInt8) : (⟨l.toArray⟩ : ByteArray).data.toList = l := by simp
theorem zkw (l : List UInt8) : (⟨l.toArray⟩ : ByteArray).size = l.length := by simp [ByteArray.size]
theorem termsOf_size {l : List UInt8} {t : Tm} (h : t ∈ zaz l) : t.2.size ≤ l.length := by
  unfold zaz at h; split at h
  · cases h
  · obtain ⟨x, hx, rfl⟩ := List.mem_map.1 h
    have := cuts_size hx; unfold zel; rw [zkw]; exact this
theorem ZAtomGet0 {p : Prop} (h : p := by
  go_wp2_with fail; have Z := ((X2.out.set 0 (.string ⟨#[]⟩)).set 1 (.slice none 0 0)).alloc (.cells #[.string nm, .slice A n c] 51); have z0 := Z.cell 0; have z1 := Z.cell 1; simp at z0 z1; refine bodyPost_ret (v := .tuple #[zfc noRf, .bool false]) (by simp [results, Tryz.results61, go_sem, z0, z1, zfc, noRf]) rfl ⟨noRf, by rw [E.out]; rfl, zeo, by rw [E.out]; rfl, ((HB2.out.setCell qag _).setCell qag _).alloc qah _⟩) : p := h
theorem zpb (s : ByteArray) (w : World) (hs : s.size ≤ 1048576) (hm : MaxIn w) :
    Calls Tryz.prog 61 #[.string s] w (GetPost s.data.toList w) := by
  have hsl : s.data.toList.length = s.size := qag; have a5 := zac w (.cells #[.string ⟨#[]⟩, .slice none 0 0] 51); have X0 := hid (Blk.new w 51 #[.string ⟨#[]⟩, .slice none 0 0]); obtain ⟨W0, b3⟩ : ∃ W0, w.alloc (.cells #[.string ⟨#[]⟩, .slice none 0 0] 51) = W0 := ⟨_, rfl⟩; rw [b3] at a5 X0; have hz0 : W0.heap.size = w.heap.size + 1 := by rw [← b3]; simp
  have a9 := hid a5; have b6 := hm.below a5; clear a5; by_cases hlen : s.size ≤ 1500
  · have a3 : ¬ (1500 < (s.size : Int)) := qaa
    obtain ⟨x, r, f, hc⟩ : ∃ x r f, Lib.cut s.data.toList [40] = (x, r, f) := ⟨_, _, _, rfl⟩; obtain ⟨hxs, hrs⟩ := cut_sizes hc; obtain ⟨y, hy⟩ : ∃ y, Lib.trimSuffix r [41] = y := ⟨_, rfl⟩; obtain ⟨g, hg⟩ : ∃ g, Lib.hasSuffix r [41] = g := ⟨_, rfl⟩; have hys : y.length ≤ r.length := by rw [← hy]; exact trim_size r 41
    have HA := hid (show zgy s.data.toList = (⟨x.toArray⟩, zaz y) by unfold zgy; rw [hc]; show (_, zaz (Lib.trimSuffix r [41])) = _; rw [hy]); have HO := hid (show zer s.data.toList = (f && (g && zax (⟨x.toArray⟩, zaz y))) by unfold zer; rw [HA.out, hc]; show (f && (Lib.hasSuffix r [41] && _)) = _; rw [hg]); obtain ⟨nm, hnm⟩ : ∃ nm : ByteArray, (⟨x.toArray⟩ : ByteArray) = nm := ⟨_, rfl⟩; have hnz : nm.size ≤ 1500 := by rw [← hnm, zkw]; omega
    have a4 : nm.size ≤ maxLen := qaf; rw [hnm] at HA HO; have HN := hid hnm; have HC := hid hc; have HY := hid hy; have HG := hid hg; clear hnm hc hy hg; go_enter Tryz.func61, Tryz.ntmps61; go_wp2_with fail; obtain ⟨mx, a7⟩ := b6; refine (Tryz.strings_Cut s ⟨#[40]⟩ mx W0 qaa a7).mono ?_; rintro e w1 ⟨rfl, n1, b4⟩; rw [byteOne, HC.out]; show _; have hb1 : Below W0.heap.size W0 w1 := by rw [b4]; exact ⟨rfl, rfl, rfl, nl _, fun _ _ => rfl⟩
    have b7 : MaxIn w1 := MaxIn.below ⟨mx, a7⟩ hb1; have X1 := hid (X0.out.below hb1); have HB1 := hid (zaa a9.out hb1); clear b4 a7; have hz1 := hb1.size; clear hb1; go_wp2_with fail; refine (Tryz.strings_CutSuffix ⟨r.toArray⟩ ⟨#[41]⟩ w1 (by rw [zkw]; omega)).mono ?_; rintro e w' ⟨rfl, a8⟩; rw [a8]; clear a8; rw [byteOne, mk_data, HY.out, HG.out]; go_wp2_with fail; refine (termsGet_any ⟨y.toArray⟩ w1 (by rw [zkw]; omega) b7).mono ?_; rintro e w2 ⟨A, n, c, rfl, a2, hl, hb2⟩; rw [mk_data] at a2 hl; have HR := hid a2; have HL := hid hl; have X2 := hid (X1.out.below hb2); have HB2 := hid (zaa HB1.out hb2)
    have hz2 := hb2.size; clear hb2 a2 hl; rw [HN.out]; have a6 := zac w2 (.cells #[.string nm, .slice A n c] 51); have Y3 := hid (Blk.new w2 51 #[.string nm, .slice A n c]); have X3 := hid (X2.out.below a6); have HB3 := hid (zaa HB2.out a6); have HR3 := hid (zan HR.out a6); clear a6; have hwl := X2.out.lt; have r0 := X2.out.cell 0; have r1 := X2.out.cell 1; have f0 := X2.out.frozen 0; have f1 := X2.out.frozen 1; have hne : w.heap.size ≠ w2.heap.size := qaa; cases f
    · have E := hid (zld (l := s.data.toList) (by rw [HO.out]; rfl))
      exact ZAtomGet0
    · cases g
      · have E := hid (zld (l := s.data.toList) (by rw [HO.out]; rfl))
        exact ZAtomGet0
      · obtain ⟨A9, c9, e9, hH⟩ := head_row (s := nm) HR3.out HL.out (fun t ht => Nat.le_trans (termsOf_size ht) qaf) a4
        injection e9 with e9 _ e10; subst e9; subst e10; have HH := hid hH; clear hH; go_wp2_with fail; refine (zdt nm A n c (zaz y) _ a4 (HH.out.2.1.keep (fun _ _ _ => rfl) (Nat.zero_le _) (nl _))).mono ?_; rintro e w4 ⟨rfl, hb4⟩; have X4 := hid (X3.out.below hb4); have Y4 := hid (Y3.out.below hb4); have HB4 := hid (zaa HB3.out hb4); have b5 := hid (HH.out.keep (w' := w4) (lo' := w1.heap.size) (hi' := w4.heap.size) (fun b _ h2 => hb4.block b h2) (nl _) hb4.size); clear hb4 r0 r1 f0 f1; have r0 := X4.out.cell 0; have r1 := X4.out.cell 1; have f0 := X4.out.frozen 0; have f1 := X4.out.frozen 1; have a0 := Y4.out.cell 0; have a1 := Y4.out.cell 1
        have x4l := X4.out.lt; cases hb : zax (nm, zaz y)
        · have E := hid (zld (l := s.data.toList) (by rw [HO.out, hb]; rfl))
          clear hb; go_wp2_with fail; refine bodyPost_ret (v := .tuple #[zfc noRf, .bool false]) (by simp [results, Tryz.results61, go_sem, r0, r1, zfc, noRf]) rfl ⟨noRf, by rw [E.out]; rfl, zeo, by rw [E.out]; rfl, (HB4.out.setCell qag _).setCell qag _⟩
        · have E := hid (getB_yes (l := s.data.toList) qaa (by rw [HO.out, hb]; rfl))
          have EA := hid HA.out; clear hb; go_wp2_with fail; have Z := (X4.out.set 0 (.string nm)).set 1 (.slice A n c); have z0 := Z.cell 0; have z1 := Z.cell 1; refine bodyPost_ret (v := .tuple #[zfc (nm, A, n, c, zaz y), .bool true]) (by simp [results, Tryz.results61, go_sem, r0, r1, zfc]) rfl ⟨(nm, A, n, c, zaz y), by rw [E.out]; rfl, ?_, by rw [E.out, EA.out]; rfl, (HB4.out.setCell qag _).setCell qag _⟩; exact b5.out.keep (fun b h1 h2 => (hs_ _ _ _ _ qah).trans (hs_ _ _ _ _ qah)) qaa qag
  · have a3 : 1500 < (s.size : Int) := qaa
    have E := hid (getB_long (l := s.data.toList) qaa); go_enter Tryz.func61, Tryz.ntmps61; have r0 := X0.out.cell 0; have r1 := X0.out.cell 1; have f0 := X0.out.frozen 0; have f1 := X0.out.frozen 1; have hxl := X0.out.lt; go_wp2_with fail; refine bodyPost_ret (v := .tuple #[zfc noRf, .bool false]) (by simp [results, Tryz.results61, go_sem, r0, r1, zfc, noRf]) rfl ⟨noRf, by rw [E.out]; rfl, zeo, by rw [E.out]; rfl, (a9.out.setCell qag _).setCell qag _⟩
def Rdr (w : World) (R : Nat) (s : ByteArray) (i : Nat) : Prop := ∃ p : Int, Blk w R 64 #[.string s, .int .i64 (i : Int), .int .i64 p]
def EofIn (w : World) : Prop := ∃ (t : TypeId) (u : Value), w.cell? ⟨0, 0, none⟩ = some (.iface t u)
theorem EofIn.below {w w' : World} (h : EofIn w) (hb : Below w.heap.size w w') : EofIn w' := by
  obtain ⟨t, u, hm⟩ := h; exact ⟨t, u, (hb.cell (World.block_lt_of_cell? _ _ hm)).trans hm⟩
theorem EofIn.grown {w w' : World} {R : Nat} (h : EofIn w) (hb : w.grownBy w' (some R)) (hR : 0 ≠ R) : EofIn w' := by
  obtain ⟨t, u, hm⟩ := h; exact ⟨t, u, hb.cell hm (by simp [hR])⟩
theorem Rdr.lt {w : World} {R i : Nat} {s : ByteArray} (h : Rdr w R s i) : R < w.heap.size := by
  obtain ⟨p, h⟩ := h; exact h.lt
theorem Rdr.below {w w' : World} {R i : Nat} {s : ByteArray} (h : Rdr w R s i) (hb : Below w.heap.size w w') : Rdr w' R s i := by
  obtain ⟨p, h⟩ := h; exact ⟨p, h.below hb⟩
theorem zie (w : World) (R off : Nat) (v : Value) : w.grownBy (w.setCell ⟨R, off, none⟩ v) (some R) :=
  have h := World.grownBy.refl w (some R)
  ⟨h.os, h.tape, h.output, by rw [zab]; exact nl _, fun i _ hne => hs_ _ _ _ i (fun e => hne (by rw [e]))⟩
theorem rdReset_any (R i : Nat) (s t : ByteArray) (w : World) (h : Rdr w R s i) :
    Calls Tryz.prog 59 #[.pointer (some ⟨R, 0, none⟩), .string t] w fun e w' => e = .returned (.tuple #[]) ∧ Rdr w' R t 0 ∧ w.grownBy w' (some R) := by
  obtain ⟨p, h⟩ := h; have x0 : w.cell? ⟨R, 0, none⟩ = some (.string s) := h.cell 0; have x1 : w.cell? ⟨R, 1, none⟩ = some (.int .i64 (i : Int)) := h.cell 1; have x2 : w.cell? ⟨R, 2, none⟩ = some (.int .i64 p) := h.cell 2; have f0 := h.frozen 0; have f1 := h.frozen 1; have f2 := h.frozen 2; have g1 := ((h.set 0 (.string t)).set 1 (.int .i64 0)).set 2 (.int .i64 (-1)); have g2 := zad (zad (zie w R 0 (.string t)) (zie _ R 1 (.int .i64 0))) (zie _ R 2 (.int .i64 (-1))); have G1 := hid g1; have G2 := hid g2; clear g1 g2 h; go_enter Tryz.func59, Tryz.ntmps59
  go_wp2; exact bodyPost_end (v := .tuple #[]) (by simp [results, Tryz.results59, go_sem]) rfl ⟨rfl, ⟨_, G1.out⟩, G2.out⟩
theorem rdLen_any (R i : Nat) (s : ByteArray) (w : World) (h : Rdr w R s i) (hi : i ≤ s.size) (hs : s.size ≤ 1048576) :
    Calls Tryz.prog 31 #[.pointer (some ⟨R, 0, none⟩)] w fun e w' => e = .returned (.int .i64 ((s.size - i : Nat) : Int)) ∧ Below w.heap.size w w' := by
  obtain ⟨p, h⟩ := h; have x0 : w.cell? ⟨R, 0, none⟩ = some (.string s) := h.cell 0; have x1 : w.cell? ⟨R, 1, none⟩ = some (.int .i64 (i : Int)) := h.cell 1; have hw : IntKind.i64.wrap ((s.size : Int) - (i : Int)) = ((s.size - i : Nat) : Int) := qao; by_cases hlt : i < s.size
  · have hI : ¬ (s.size : Int) ≤ (i : Int) := qaa
    go_enter Tryz.func31, Tryz.ntmps31; go_wp2_with fail; go_region_held3 (fun W => W.cell? ⟨R, 0, none⟩ = some (.string s) ∧ W.cell? ⟨R, 1, none⟩ = some (.int .i64 (i : Int))) (exact ⟨x0, x1⟩) (fail); go_wp2_with fail; go_region_held3 (fun W => W.cell? ⟨R, 0, none⟩ = some (.string s) ∧ W.cell? ⟨R, 1, none⟩ = some (.int .i64 (i : Int))) (exact ⟨x0, x1⟩) (fail); go_wp2; go_ret; exact ⟨rfl, (Below.refl _ _).drew.drew⟩
  · have hI : (s.size : Int) ≤ (i : Int) := qaa
    have h0 : ((s.size - i : Nat) : Int) = 0 := qaa; go_enter Tryz.func31, Tryz.ntmps31; go_wp2_with fail; go_region_held3 (fun W => W.cell? ⟨R, 0, none⟩ = some (.string s) ∧ W.cell? ⟨R, 1, none⟩ = some (.int .i64 (i : Int))) (exact ⟨x0, x1⟩) (fail); go_wp2; go_ret; exact ⟨by rw [h0]; rfl, (Below.refl _ _).drew⟩
def RdBytePost (R i : Nat) (s : ByteArray) (hi : i < s.size) (w : World) (e : Ending) (w' : World) : Prop :=
  e = .returned (.tuple #[.int .u8 ((s[i]'hi).toNat : Int), .nilIface]) ∧ Rdr w' R s (i + 1) ∧ w.grownBy w' (some R)
theorem rdByte_any (R i : Nat) (s : ByteArray) (w : World) (h : Rdr w R s i) (hi : i < s.size) (hs : s.size ≤ 1048576) :
    Calls Tryz.prog 94 #[.pointer (some ⟨R, 0, none⟩)] w (RdBytePost R i s hi w) := by
  obtain ⟨p, h⟩ := h; have g1 := h.set 2 (.int .i64 (-1)); have x0 : w.cell? ⟨R, 0, none⟩ = some (.string s) := h.cell 0; have x1 : w.cell? ⟨R, 1, none⟩ = some (.int .i64 (i : Int)) := h.cell 1; have x2 : w.cell? ⟨R, 2, none⟩ = some (.int .i64 p) := h.cell 2; have f2 := h.frozen 2; have hI : ¬ (s.size : Int) ≤ (i : Int) := qaa; have hI2 : (i : Int) < (s.size : Int) := qaa; have hw : IntKind.i64.wrap ((i : Int) + 1) = ((i + 1 : Nat) : Int) := qao; go_enter Tryz.func94, Tryz.ntmps94; go_wp2_with fail; have G2 := hid (zie w R 2 (.int .i64 (-1)))
  obtain ⟨W1, a2⟩ : ∃ W1, w.setCell ⟨R, 2, none⟩ (.int .i64 (-1)) = W1 := ⟨_, rfl⟩; rw [a2] at g1 G2 ⊢; have y0 : W1.cell? ⟨R, 0, none⟩ = some (.string s) := Blk.cell g1 0; have y1 : W1.cell? ⟨R, 1, none⟩ = some (.int .i64 (i : Int)) := Blk.cell g1 1; have f1 : W1.frozen? ⟨R, 1, none⟩ = false := Blk.frozen g1 1; clear a2 x0 x1 x2 f2; go_region_held3 (fun W => W.cell? ⟨R, 0, none⟩ = some (.string s) ∧ W.cell? ⟨R, 1, none⟩ = some (.int .i64 (i : Int))) (exact ⟨y0, y1⟩) (fail); go_wp2_with fail; go_region_held3 (fun W => W.cell? ⟨R, 0, none⟩ = some (.string s) ∧ W.cell? ⟨R, 1, none⟩ = some (.int .i64 (i : Int))) (exact ⟨y0, y1⟩) (fail)
  go_wp2; refine bodyPost_ret (results_tmp2 Tryz.results94 _ _ _) rfl ?_; refine ⟨rfl, ⟨-1, ?_⟩, ?_⟩
  · have := Blk.set (W := W1.drew.drew) g1 1 (.int .i64 ((i + 1 : Nat) : Int))
    exact this
  · exact zad (zad G2.out (zie W1 R 1 _)) (zae ((Below.refl _ _).drew.drew) (some R))
theorem rdEnd_any (R i : Nat) (s : ByteArray) (w : World) (h : Rdr w R s i) (hi : i = s.size) (hE : EofIn w) (hR : 0 ≠ R) :
    Calls Tryz.prog 94 #[.pointer (some ⟨R, 0, none⟩)] w fun e w' => (∃ t u, e = .returned (.tuple #[.int .u8 0, .iface t u])) ∧ Rdr w' R s i ∧ w.grownBy w' (some R) := by
  obtain ⟨p, h⟩ := h; have g1 := h.set 2 (.int .i64 (-1)); have x0 : w.cell? ⟨R, 0, none⟩ = some (.string s) := h.cell 0; have x1 : w.cell? ⟨R, 1, none⟩ = some (.int .i64 (i : Int)) := h.cell 1; have x2 : w.cell? ⟨R, 2, none⟩ = some (.int .i64 p) := h.cell 2; have f2 := h.frozen 2; have hI : (s.size : Int) ≤ (i : Int) := qaa; go_enter Tryz.func94, Tryz.ntmps94; go_wp2_with fail; have G2 := hid (zie w R 2 (.int .i64 (-1))); obtain ⟨t, u, e1⟩ := hE.grown G2.out hR; obtain ⟨W1, a2⟩ : ∃ W1, w.setCell ⟨R, 2, none⟩ (.int .i64 (-1)) = W1 := ⟨_, rfl⟩
  rw [a2] at g1 G2 e1 ⊢; have y0 : W1.cell? ⟨R, 0, none⟩ = some (.string s) := Blk.cell g1 0; have y1 : W1.cell? ⟨R, 1, none⟩ = some (.int .i64 (i : Int)) := Blk.cell g1 1; clear a2 x0 x1 x2 f2; go_region_held3 (fun W => W.cell? ⟨R, 0, none⟩ = some (.string s) ∧ W.cell? ⟨R, 1, none⟩ = some (.int .i64 (i : Int))) (exact ⟨y0, y1⟩) (fail); go_wp2_with fail; go_region_held3 (fun W => W.cell? ⟨0, 0, none⟩ = some (.iface t u)) (exact e1) (fail); go_wp2; refine bodyPost_ret (results_tmp2 Tryz.results94 _ _ _) rfl ?_; exact ⟨⟨t, u, rfl⟩, ⟨-1, g1⟩, zad G2.out (zae ((Below.refl _ _).drew.drew) (some R))⟩
end Go.Proofs.YtogonjkklioaaaaGreatDoor
