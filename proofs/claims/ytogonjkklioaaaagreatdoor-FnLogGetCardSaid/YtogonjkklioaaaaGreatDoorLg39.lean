/-
  Texts of one claim, put together.
-/
import Derived.Test.YtogonjkklioaaaaGreatDoorLg38
import Derived.Test.YtogonjkklioaaaaGreatDoorLg37
set_option maxRecDepth 100000
set_option maxHeartbeats 8000000
namespace Go.Proofs.YtogonjkklioaaaaGreatDoor
open Go.RowKit
theorem cuts_last : ∀ (n : Nat) (l : List UInt8), l.length ≤ n → ∃ init lw u, zfj 32 l = init ++ [lw] ∧ l = u ++ lw ∧ zfl u ∧ (32 : UInt8) ∉ lw
  | n, l, hn => by
    rcases zez 32 l with h | ⟨x, r, rfl, h⟩
    · exact ⟨[], l, [], by rw [zdf h]; rfl, rfl, .inl rfl, h⟩
    · cases n with
      | zero => simp at hn
      | succ n =>
        obtain ⟨init, lw, u, h1, h2, h3, h4⟩ := cuts_last n r (by simp at hn; omega); refine ⟨x :: init, lw, x ++ 32 :: u, by rw [zbw h, h1]; rfl, by rw [h2]; simp, ?_, h4⟩; rcases h3 with e | ⟨q, e⟩
        · exact .inr ⟨x, by rw [e]⟩
        · exact .inr ⟨x ++ 32 :: q, by rw [e]; simp⟩
def NextPost (k : Nat) (s : ByteArray) (w : World) (e : Ending) (w' : World) : Prop :=
  ∃ (A : Option Addr) (n c : Nat) (xs : List At) (B : Option Addr) (m d : Nat) (ys : List At) (ok : Bool), e = .returned (.tuple #[.agg #[.slice A n c, .slice B m d], .bool ok]) ∧
    IsAtoms w' w.heap.size w'.heap.size A n c xs ∧ IsAtoms w' w.heap.size w'.heap.size B m d ys ∧ Below w.heap.size w w' ∧
    (ok = true → okC (xs, ys) ∧ s.data.toList = recL k (chC (xs, ys))) ∧ (ok = false → ∀ c, okC c → s.data.toList ≠ recL k (chC c))
theorem zjq {k : Nat} {s : ByteArray} {w W : World} (hb : Below w.heap.size w W) (hno : ∀ c, okC c → s.data.toList ≠ recL k (chC c)) :
    NextPost k s w (.returned (.tuple #[.agg #[.slice none 0 0, .slice none 0 0], .bool false])) ((W.setCell ⟨w.heap.size, 0, none⟩ (.slice none 0 0)).setCell ⟨w.heap.size, 1, none⟩ (.slice none 0 0)) :=
  ⟨none, 0, 0, [], none, 0, 0, [], false, rfl, (zmb (lo := w.heap.size) (hi := _)).atoms, (zmb (lo := w.heap.size) (hi := _)).atoms, (hb.setCell (p := ⟨w.heap.size, 0, none⟩) (nl _) _).setCell (p := ⟨w.heap.size, 1, none⟩) (nl _) _, qdd, fun _ => hno⟩
theorem zne (s : ByteArray) (a b : Nat) : (s.extract a b).data.toList = (s.data.toList.take b).drop a := by
  simp [ByteArray.data_extract, List.drop_take]
theorem specNext_any (s : ByteArray) (k : Nat) (w : World) (hs : s.size ≤ 400000) (hk : k ≤ 100000) :
    Calls Tryz.prog 41 #[.string s, .int .i64 (k : Int)] w (NextPost k s w) := by
  have hl := zjb k qaa; have g7 := hid (zac w (.cells #[.slice none 0 0, .slice none 0 0] 25)); have X0 := hid (Blk.new w 25 #[.slice none 0 0, .slice none 0 0]); have hsl : s.data.toList.length = s.size := qag; go_enter Tryz.func41, Tryz.ntmps41; go_wp2_with fail; refine (zlh (k + 1) k (Nat.lt_succ_self k) qaa _).mono ?_; rintro e w1 ⟨rfl, hb1⟩; have X1 := hid (X0.out.below hb1); have HB1 := hid (zaa g7.out hb1); clear hb1 X0 g7; obtain ⟨dg, c3⟩ : ∃ dg : ByteArray, (⟨(Lib.decDigits k).toArray⟩ : ByteArray) = dg := ⟨_, rfl⟩
  have b7 : dg.data.toList = Lib.decDigits k := by rw [← c3]
  rw [c3]; clear c3; have hdz : dg.size ≤ 21 := by show dg.data.toList.length ≤ _; rw [b7]; exact hl
  obtain ⟨hd, b5⟩ : ∃ hd : ByteArray, (dg ++ ⟨#[58]⟩ : ByteArray) = hd := ⟨_, rfl⟩; have d9 : hd.data.toList = Lib.decDigits k ++ [58] := by rw [← b5]; simp [ByteArray.data_append, b7]
  have hhz : hd.size ≤ 22 := by rw [← b5, ByteArray.size_append]; show dg.size + 1 ≤ 22; omega
  have k4 : hd.data.toList.length = hd.size := qag; have i3 := hid d9; have b6 := hid b5; clear b7 d9 b5; have x0 : w1.cell? ⟨w.heap.size, 0, none⟩ = some (.slice none 0 0) := X1.out.cell 0; have x1 : w1.cell? ⟨w.heap.size, 1, none⟩ = some (.slice none 0 0) := X1.out.cell 1; have q0 := X1.out.frozen 0; have q1 := X1.out.frozen 1; have a3 := hid (show ∀ p, recL k p = hd.data.toList ++ (p ++ Lib.decDigits (zns (zff k p))) from fun p => by rw [zlk, i3.out, List.append_assoc]; rfl); by_cases hshort : s.size < hd.size
  · have c0 : (s.size : Int) < (hd.size : Int) := qaa
    go_wp2_with (rw [b6.out]); refine bodyPost_ret (v := .tuple #[.agg #[.slice none 0 0, .slice none 0 0], .bool false]) qay rfl (zjq HB1.out fun c hc he => ?_); have h1 := congrArg List.length (he.trans (a3.out _)); rw [List.length_append] at h1; omega
  · have c0 : ¬ (s.size : Int) < (hd.size : Int) := qaa
    have j0 : (hd.size : Int) ≤ (s.size : Int) := qaa; by_cases heq : s.extract 0 hd.size = hd
    · have hq : ((s.extract 0 hd.size).toList == hd.toList) = true := by rw [heq]; exact beq_self_eq_true _
      have a6 : s.data.toList = hd.data.toList ++ s.data.toList.drop hd.size := by
        have h1 := zne s 0 hd.size; rw [heq] at h1
        conv => lhs; rw [← List.take_append_drop hd.size s.data.toList]
        rw [h1]; simp
      have b9 := hid a6; clear a6 heq; obtain ⟨rs, b3⟩ : ∃ rs, s.extract hd.size s.size = rs := ⟨_, rfl⟩; have h6 : rs.data.toList = s.data.toList.drop hd.size := by rw [← b3, zne, List.take_of_length_le qaa]
      have hrz : rs.size ≤ 400000 := by rw [← b3, ByteArray.size_extract]; omega
      have h4 : rs.data.toList.length = rs.size := qag; have HRD := hid h6; have j9 := hid b3; clear h6 b3; go_wp2_with (rw [b6.out]); rw [j9.out]; refine (zhe rs 32 w1 qaa).mono ?_; rintro e w2 ⟨pp, d2, rfl, c7, hb2⟩; obtain ⟨a4, lw, u, hc1, b4, h7, g8⟩ := cuts_last rs.data.toList.length rs.data.toList (nl _); obtain ⟨ws, a7⟩ : ∃ ws, zef 32 rs = ws := ⟨_, rfl⟩; have hwd : ws.map (fun x => x.data.toList) = a4 ++ [lw] := by rw [← a7, ← hc1]; exact zfv 32 rs
      have e7 : ws.length = a4.length + 1 := by have := congrArg List.length hwd; simpa using this
      have j7 : ws.length ≤ rs.size + 1 := by rw [← a7]; exact zhl 32 rs
      rw [a7] at c7 ⊢; clear a7; have a5 : ws.length - 1 < ws.length := qaa; obtain ⟨p, x, hA, hlo, hhi, hg, hE⟩ := c7.at_ a5; injection hA with hA; subst hA
      have e8 : x.data.toList = lw := by
        have h1 : (ws.map (fun x => x.data.toList))[ws.length - 1]? = some x.data.toList := by rw [List.getElem?_map, hg]; rfl
        rw [hwd, e7, Nat.add_sub_cancel, List.getElem?_append_right (nl _), Nat.sub_self] at h1; exact (Option.some.inj h1).symm
      have d7 : x.data.toList.length = x.size := qag; have i6 : u.length + x.size = rs.size := by rw [← d7, e8, ← h4, b4, List.length_append]
      have hsz : hd.size + rs.size = s.size := by
        have := congrArg List.length HRD.out; rw [List.length_drop] at this; omega
      have cE : w2.cell? (pp.add ((ws.length - 1) * 1)) = some (.string x) := hE; rw [Nat.mul_one] at cE; have hm1 : IntKind.i64.wrap ((ws.length : Int) - 1) = ((ws.length - 1 : Nat) : Int) := qao; have hm2 : IntKind.i64.wrap ((s.size : Int) - (x.size : Int)) = ((s.size - x.size : Nat) : Int) := qao; have hi1 : ((ws.length - 1 : Nat) : Int) < (ws.length : Int) := qaa; have hi2 : (hd.size : Int) ≤ ((s.size - x.size : Nat) : Int) := qaa; have hi3 : ((s.size - x.size : Nat) : Int) ≤ (s.size : Int) := qaa; obtain ⟨tx, a8⟩ : ∃ tx, s.extract hd.size (s.size - x.size) = tx := ⟨_, rfl⟩
      have g5 : tx.data.toList = u := by
        rw [← a8, zne, List.drop_take, ← HRD.out, b4]; exact List.take_left' qaa
      have htz : tx.size ≤ 400000 := by rw [← a8, ByteArray.size_extract]; omega
      have i4 := hid a8; have j8 := hid g5; have i8 := hid h7; have HSD := hid (show s.data.toList = hd.data.toList ++ (u ++ lw) by rw [← b4, HRD.out]; exact b9.out); have k5 := hid g8; have X2 := hid (X1.out.below hb2); have HB2 := hid (zaa HB1.out hb2); clear c7 hE hg hwd e8 hc1 b4 h7 g8 a8 g5 i6 h4 d7 hb2 X1 HB1 x0 x1 q0 q1 e7 hsz; go_wp2_with fail; rw [i4.out]; refine (zko tx w2 qaa).mono ?_; rintro e w3 ⟨A, c, n, xs, B, d, m, ys, ok, rfl, hI, hJ, hb3, hy, hno⟩; have a9 := zac w3 (.cells #[.slice A n c, .slice B m d] 25); have a2 := zaa hb3 a9; have X3 := hid (X2.out.below a2)
      have Y3 := hid (Box.new w3 (.slice A n c) (.slice B m d) 25); have I3 := hid (hI.up AtomE.stays a9); have J3 := hid (hJ.up AtomE.stays a9); have HB3 := hid (zaa HB2.out a2); have HY := hid hy; have HN := hid hno; have hz3 := HB2.out.size; have k0 := hb3.size; have hz2 : w.heap.size < w2.heap.size := X2.out.lt; clear hI hJ hb3 a9 a2 hy hno X2 HB2; obtain ⟨W3, d4⟩ : ∃ W3, w3.alloc (.cells #[.slice A n c, .slice B m d] 25) = W3 := ⟨_, rfl⟩; have g0 := hid d4; rw [d4] at X3 Y3 I3 J3 HB3; clear d4
      have e6 := hid (show (∀ c, okC c → tx.data.toList ≠ chC c ∨ zbo k (chC c) ≠ s.data.toList ++ [10]) → ∀ c, okC c → s.data.toList ≠ recL k (chC c) from fun hh c hc he => by
        have h1 := HSD.out.symm.trans (he.trans (a3.out _)); have h2 := List.append_cancel_left h1; obtain ⟨h3, _⟩ := zlm h2 i8.out k5.out (zig _ _) (zpl (.inl qan)); rcases hh c hc with h | h
        · exact h (j8.out.trans h3)
        · exact h (by rw [zcc, he]))
      have x0 : W3.cell? ⟨w.heap.size, 0, none⟩ = some (.slice none 0 0) := X3.out.cell 0; have x1 : W3.cell? ⟨w.heap.size, 1, none⟩ = some (.slice none 0 0) := X3.out.cell 1; have q0 := X3.out.frozen 0; have q1 := X3.out.frozen 1; obtain ⟨_, y0, y1⟩ := Y3.out; cases ok
      · go_wp2_with (rw [g0.out])
        refine bodyPost_ret (v := .tuple #[.agg #[.slice none 0 0, .slice none 0 0], .bool false]) qay rfl (zjq HB3.out (e6.out fun c hc => .inl ((HN.out qdp).2.2 c.1 c.2 hc)))
      · obtain ⟨h8, g1⟩ := HY.out qdp
        have i1 := hid h8; have h5 := hid g1; clear h8 g1; go_wp2_with (rw [g0.out]); refine (l8Line_any k hk tx qaa W3).mono ?_; rintro e w5 ⟨rfl, hb5⟩; have X5 := hid (X3.out.below hb5); have Y5 := hid (Y3.out.later hb5); have HB5 := hid (zaa HB3.out hb5); have I5 := hid (I3.out.up AtomE.stays hb5); have J5 := hid (J3.out.up AtomE.stays hb5); have hz5 := hb5.size; clear hb5 X3 Y3 HB3 I3 J3 x0 x1 q0 q1 y0 y1; have x0 : w5.cell? ⟨w.heap.size, 0, none⟩ = some (.slice none 0 0) := X5.out.cell 0; have x1 : w5.cell? ⟨w.heap.size, 1, none⟩ = some (.slice none 0 0) := X5.out.cell 1; have q0 := X5.out.frozen 0; have q1 := X5.out.frozen 1
        obtain ⟨_, y0, y1⟩ := Y5.out; obtain ⟨v, hv⟩ : ∃ v : ByteArray, (⟨(zbo k tx.data.toList).toArray⟩ : ByteArray) = v := ⟨_, rfl⟩; have g2 : v.data.toList = zbo k (chL xs ys) := by rw [← hv, h5.out]
        rw [hv]; have g6 := hid g2; clear hv g2; by_cases hE2 : v = s ++ ⟨#[10]⟩
        · have k3 : (v.toList == (s ++ ⟨#[10]⟩ : ByteArray).toList) = true := by rw [hE2]; exact beq_self_eq_true _
          have hln : s.data.toList = recL k (chL xs ys) := by
            have h1 : zbo k (chL xs ys) = s.data.toList ++ [10] := by rw [← g6.out, hE2]; simp [ByteArray.data_append]
            rw [zcc] at h1; exact (List.append_cancel_right h1).symm
          have i5 := hid hln; clear hE2 hln; go_wp2; refine bodyPost_ret (v := .tuple #[.agg #[.slice A n c, .slice B m d], .bool true]) qay rfl ⟨A, n, c, xs, B, m, d, ys, true, rfl, ?_, ?_, (HB5.out.setCell (nl _) _).setCell (nl _) _, fun _ => ⟨i1.out, i5.out⟩, qdd⟩
          · exact (I5.out.keep AtomE.stays (fun q h1 _ => cb_ ((hs_ _ _ _ _ qbr).trans (hs_ _ _ _ _ qbr))) qaa qcn)
          · exact (J5.out.keep AtomE.stays (fun q h1 _ => cb_ ((hs_ _ _ _ _ qbr).trans (hs_ _ _ _ _ qbr))) qaa qcn)
        · have k3 : (v.toList == (s ++ ⟨#[10]⟩ : ByteArray).toList) = false := by rw [beq_eq_false_iff_ne]; intro e; rw [zbl, zbl] at e; exact hE2 (by rw [← Lib.mk_data v, ← Lib.mk_data (s ++ ⟨#[10]⟩), e])
          have j6 := hid hE2; clear hE2; go_wp2; refine bodyPost_ret (v := .tuple #[.agg #[.slice none 0 0, .slice none 0 0], .bool false]) qay rfl (zjq HB5.out (e6.out fun c hc => ?_)); by_cases hcc : tx.data.toList = chC c
          · right
            intro h2; have h1 : chC c = chL xs ys := hcc.symm.trans h5.out; rw [h1] at h2; refine j6.out ?_; rw [← Lib.mk_data v, g6.out, h2, ← Lib.mk_data (s ++ ⟨#[10]⟩)]; simp [ByteArray.data_append]
          · exact .inl hcc
    · have hq : ((s.extract 0 hd.size).toList == hd.toList) = false := by rw [beq_eq_false_iff_ne]; intro e; rw [zbl, zbl] at e; exact heq (by rw [← Lib.mk_data (s.extract 0 hd.size), ← Lib.mk_data hd, e])
      have i7 := hid heq; clear heq; go_wp2_with (rw [b6.out]); refine bodyPost_ret (v := .tuple #[.agg #[.slice none 0 0, .slice none 0 0], .bool false]) qay rfl (zjq HB1.out fun c hc he => i7.out ?_); rw [← Lib.mk_data (s.extract 0 hd.size), zne, he, a3.out, ← k4, List.take_left' rfl, List.drop_zero, Lib.mk_data]
structure Sx where
  lo : Nat
  hi : Nat
  A : Option Addr
  n : Nat
  c : Nat
  xs : List At
  B : Option Addr
  m : Nat
  d : Nat
  ys : List At
def sAt (x : Sx) : Ch := (x.xs, x.ys)
def zgk (xs : List Sx) : List Value := xs.flatMap fun x => [.slice x.A x.n x.c, .slice x.B x.m x.d]
theorem scells_len : ∀ xs : List Sx, (zgk xs).length = xs.length * 2
  | [] => rfl
  | x :: xs => by
    have h := scells_len xs; unfold zgk at h ⊢; rw [List.flatMap_cons, List.length_append, h, List.length_cons]; simp only [List.length_cons, List.length_nil]; omega
theorem scells_snoc (xs : List Sx) (x : Sx) : zgk (xs ++ [x]) = zgk xs ++ [.slice x.A x.n x.c, .slice x.B x.m x.d] := by
  unfold zgk; rw [List.flatMap_append, List.flatMap_singleton]
theorem scells_at : ∀ {xs : List Sx} {i : Nat} {x : Sx}, xs[i]? = some x → (zgk xs)[i * 2]? = some (.slice x.A x.n x.c) ∧ (zgk xs)[i * 2 + 1]? = some (.slice x.B x.m x.d)
  | [], i, x, h => by simp at h
  | y :: xs, 0, x, h => by
    simp at h; subst h
    exact ⟨rfl, rfl⟩
  | y :: xs, i + 1, x, h => by
    obtain ⟨a, b⟩ := scells_at (xs := xs) (i := i) (x := x) qbk; have e : zgk (y :: xs) = .slice y.A y.n y.c :: .slice y.B y.m y.d :: zgk xs := rfl; rw [e, show (i + 1) * 2 = i * 2 + 1 + 1 by omega]; exact ⟨by simpa using a, by simpa using b⟩
def OwnSx (W : World) (x : Sx) : Prop := IsAtoms W x.lo x.hi x.A x.n x.c x.xs ∧ IsAtoms W x.lo x.hi x.B x.m x.d x.ys
theorem OwnSx.keep {W W' : World} {x : Sx} (h : OwnSx W x) (hk : ∀ b, x.lo ≤ b → b < x.hi → W'.heap[b]? = W.heap[b]?) : OwnSx W' x :=
  ⟨h.1.keep AtomE.stays (fun q h1 h2 => cb_ (hk q.block h1 h2)) (nl _) (nl _), h.2.keep AtomE.stays (fun q h1 h2 => cb_ (hk q.block h1 h2)) (nl _) (nl _)⟩
structure LS (w : World) (a b : Nat) (v : Value) (xs : List Sx) (W : World) : Prop where
  K : W.ownsRow a 25 2 v xs.length (zgk xs)
  O : ∀ x ∈ xs, OwnSx W x ∧ x.hi ≤ W.heap.size ∧ ∀ g, v.ownBlock = some g → g < x.lo ∨ x.hi ≤ g
  far : ∀ g, v.ownBlock = some g → g = a ∨ b ≤ g
  h0 : w.heap.size ≤ a
  h1 : b ≤ W.heap.size
  gr : Below w.heap.size w W
section
variable {w W W' W9 : World} {a b : Nat} {v : Value} {xs : List Sx} {x : Sx} {ob : Obj} {g' m cap : Nat}
theorem LS.below (h : LS w a b v xs W) (hb : Below W.heap.size W W') : LS w a b v xs W' := by
  have hs := h.gr.size; have a2 := hb.size
  exact ⟨zan h.K hb, fun x hx => by
    obtain ⟨o1, o2, o3⟩ := h.O x hx; exact ⟨o1.keep (fun b _ h2 => hb.block b qaa), by omega, o3⟩, h.far, h.h0, Nat.le_trans h.h1 a2, h.gr.trans (hb.mono hs)⟩
theorem LS.more (h : LS w a b v xs W) (ho : OwnSx W x) (h2 : x.hi ≤ W.heap.size) (hr : ∀ g, v.ownBlock = some g → g < x.lo)
    (hown : W9.ownsRow a 25 2 (.slice (some ⟨g', 0, none⟩) m cap) (xs.length + 1) (zgk xs ++ [.slice x.A x.n x.c, .slice x.B x.m x.d])) (hgrow : (W.alloc ob).grownBy W9 v.ownBlock) (hat : v.ownBlock = some g' ∨ g' = W.heap.size + 1) :
    LS w a b (.slice (some ⟨g', 0, none⟩) m cap) (xs ++ [x]) W9 := by
  have hb1 := zac W ob; have hbs : (W.alloc ob).heap.size = W.heap.size + 1 := qag; have hA := h.below hb1; have hgs := hgrow.size; have hs := h.gr.size; have hh1 := h.h1; have hh0 := h.h0; refine ⟨by rw [List.length_append, scells_snoc]; exact hown, fun y hy => ?_, fun g e => ?_, h.h0, by omega, ?_⟩
  · have a2 : OwnSx W9 y ∧ y.hi ≤ W.heap.size ∧ ∀ g, v.ownBlock = some g → g < y.lo ∨ y.hi ≤ g := by
      rcases List.mem_append.1 hy with hy | hy
      · obtain ⟨o1, o2, o3⟩ := h.O y hy
        exact ⟨o1.keep (fun c c1 c2 => (hgrow.block c qaa (fun e => by rcases o3 c e.symm with h | h <;> omega)).trans (hb1.block c qaa)), o2, o3⟩
      · rw [List.mem_singleton.1 hy]
        exact ⟨ho.keep (fun c c1 c2 => (hgrow.block c qaa (fun e => by have := hr c e.symm; omega)).trans (hb1.block c qaa)), h2, fun g e => .inl (hr g e)⟩
    obtain ⟨o1, o2, o3⟩ := a2; refine ⟨o1, by omega, fun g e => ?_⟩; simp [Value.ownBlock] at e; subst e; rcases hat with e | e
    · exact o3 _ e
    · right; omega
  · simp [Value.ownBlock] at e
    subst e; rcases hat with e | e
    · exact h.far _ e
    · right; omega
  · exact ⟨hgrow.os.trans hA.gr.os, hgrow.tape.trans hA.gr.tape, hgrow.output.trans hA.gr.output, by omega, fun k hk => (hgrow.block k qaa (fun e => by have := (h.K.lt k e.symm).1; omega)).trans (hA.gr.block k hk)⟩
theorem LS.chs {A : Option Addr} {c : Nat} (h : LS w a b (.slice A xs.length c) xs W) : zht W 0 W.heap.size A xs.length c (xs.map sAt) := by
  rcases h.K.2 with ⟨e, h0⟩ | ⟨g, cap, cur, e, hb, hgb, hle, hcap, hsz, htk⟩
  · injection e with e1 e2 e3
    subst e1; subst e3; exact ⟨List.length_map _, by omega, by unfold maxLen; omega, fun hp => by omega⟩
  · injection e with e1 e2 e3
    subst e1; subst e3; have hlt := (Array.getElem?_eq_some_iff.1 hgb).1; refine ⟨List.length_map _, hle, hcap, fun _ => ⟨_, rfl, Nat.zero_le _, hlt, fun i x hx => ?_⟩⟩; rw [List.getElem?_map] at hx; obtain ⟨f, hf, rfl⟩ := Option.map_eq_some_iff.1 hx; have hi := (List.getElem?_eq_some_iff.1 hf).1; obtain ⟨y0, y1⟩ := scells_at hf; have a0 : ∀ j, (⟨g, 0, none⟩ : Addr).add j = ⟨g, j, none⟩ := fun j => by unfold Addr.add; split <;> simp_all
    have hc : ∀ j u, (zgk xs)[j]? = some u → W.cell? ⟨g, j, none⟩ = some u := fun j u hu => by
      have hj := (List.getElem?_eq_some_iff.1 hu).1; rw [scells_len] at hj; rw [← htk, List.getElem?_take, if_pos qaa] at hu; unfold World.cell?; rw [hgb]; simpa using hu
    obtain ⟨o1, o2, _⟩ := h.O f (List.mem_of_getElem? hf); rw [a0]; exact ⟨⟨_, _, _, hc _ _ y0, o1.1.keep AtomE.stays (fun _ _ _ => rfl) (Nat.zero_le _) o2⟩, ⟨_, _, _, hc _ _ y1, o1.2.keep AtomE.stays (fun _ _ _ => rfl) (Nat.zero_le _) o2⟩⟩
end
structure Readx (l : List UInt8) (ws : List (List UInt8)) (cs : List Ch) (n : Nat) : Prop where
  le : ∃ r, l = zeb 0 cs ++ r ∧ zfj 10 r = ws
  ok : ∀ c ∈ cs, okC c
  n : n = (zeb 0 cs).length
theorem Readx.start (l : List UInt8) : Readx l (zfj 10 l) [] 0 := ⟨⟨l, rfl, rfl⟩, fun c h => by simp at h, rfl⟩
theorem Readx.split {l x : List UInt8} {ws : List (List UInt8)} {cs : List Ch} {n : Nat} (h : Readx l (x :: ws) cs n) (hw : ws ≠ []) : ∃ r, l = zeb 0 cs ++ (x ++ 10 :: r) ∧ zfj 10 r = ws ∧ (10 : UInt8) ∉ x := by
  obtain ⟨r, h1, h2⟩ := h.le; rcases zez 10 r with h3 | ⟨y, q, rfl, h3⟩
  · rw [zdf h3] at h2
    injection h2 with _ h4; exact absurd h4.symm hw
  · rw [zbw h3] at h2
    injection h2 with h4 h5; subst h4; exact ⟨q, h1, h5, h3⟩
theorem Readx.more {l x : List UInt8} {ws : List (List UInt8)} {cs : List Ch} {c : Ch} {n : Nat} (h : Readx l (x :: ws) cs n) (hw : ws ≠ []) (hc : okC c) (hx : x = recL cs.length (chC c)) : Readx l ws (cs ++ [c]) (n + x.length + 1) := by
  obtain ⟨r, h1, h2, _⟩ := h.split hw; refine ⟨⟨r, ?_, h2⟩, fun d hd => ?_, ?_⟩
  · rw [h1, zdy, Nat.zero_add, zcc, ← hx]; simp
  · rcases List.mem_append.1 hd with hd | hd
    · exact h.ok d hd
    · rw [List.mem_singleton.1 hd]; exact hc
  · rw [zdy, Nat.zero_add, zcc, ← hx, h.n]
    simp only [List.length_append, List.length_cons, List.length_nil]; omega
theorem Readx.stop {l x : List UInt8} {ws : List (List UInt8)} {cs : List Ch} {n : Nat} (h : Readx l (x :: ws) cs n) (hw : ws ≠ []) (hno : ∀ c, okC c → x ≠ recL cs.length (chC c)) : LogOf l cs := by
  obtain ⟨r, h1, h2, h3⟩ := h.split hw; refine ⟨h.ok, by rw [h1]; exact List.prefix_append _ _, fun c q hc he => hno c hc ?_⟩; rw [h1] at he; have h4 := List.append_cancel_left he; have h5 : zfj 10 (x ++ 10 :: r) = zfj 10 (recL cs.length (chC c) ++ 10 :: q) := by rw [h4, zcc]; simp
  have h6 : (10 : UInt8) ∉ chC c := zhn hc; rw [zbw h3, zbw (zew h6)] at h5; injection h5
theorem Readx.last {l x : List UInt8} {cs : List Ch} {n : Nat} (h : Readx l [x] cs n) : LogOf l cs := by
  obtain ⟨r, h1, h2⟩ := h.le; refine ⟨h.ok, by rw [h1]; exact List.prefix_append _ _, fun c q hc he => ?_⟩; rw [h1] at he; have h4 := List.append_cancel_left he; have h5 : zfj 10 r = zfj 10 (recL cs.length (chC c) ++ 10 :: q) := by rw [h4, zcc]; simp
  have h6 : (10 : UInt8) ∉ chC c := zhn hc; rw [zbw (zew h6), h2] at h5; injection h5 with _ h7; rw [zfi] at h7; cases h7
def LogSPost (l : List UInt8) (w : World) (e : Ending) (w' : World) : Prop :=
  ∃ (A : Option Addr) (n c : Nat) (cs : List Ch) (m : Nat), e = .returned (.tuple #[.slice A n c, .int .i64 (m : Int)]) ∧ zht w' 0 w'.heap.size A n c cs ∧ Below w.heap.size w w' ∧ LogR l cs m
theorem specLogGet_any (s : ByteArray) (w : World) (hs : s.size ≤ 1048576) :
    Calls Tryz.prog 15 #[.string s] w (LogSPost s.data.toList w) := by
  obtain ⟨i0, hi, hz, hsz, hby⟩ := zgg Tryz.infoCh; have HI := hid hi; have HZ := hid hz; have HSZ := hid hsz; have HYY := hid hby; clear hi hz hsz hby; have hsl : s.data.toList.length = s.size := qag; have b3 := zac w (.cells #[] 25); have R0 := zes w 25 w.heap.size (nl _); obtain ⟨w1, b4⟩ : ∃ w1, w.alloc (.cells #[] 25) = w1 := ⟨_, rfl⟩; have hz1 : w1.heap.size = w.heap.size + 1 := by rw [← b4]; simp
  rw [b4] at b3 R0; have e7 := hid b4; clear b4; go_enter Tryz.func15, Tryz.ntmps15; by_cases hbig : 400000 < s.size
  · have g5 : (400000 : Int) < (s.size : Int) := qaa
    go_wp2_with (rw [e7.out]); refine bodyPost_ret (v := .tuple #[.slice (some ⟨w.heap.size, 0, none⟩) 0 0, .int .i64 0]) qcp rfl ⟨_, 0, 0, [], 0, rfl, ⟨rfl, nl _, by unfold maxLen; omega, fun hp => by omega⟩, b3, .inr ⟨by omega, rfl, rfl⟩⟩
  · have g5 : ¬ (400000 : Int) < (s.size : Int) := qaa
    have L1 : LS w w.heap.size w1.heap.size (.slice (some ⟨w.heap.size, 0, none⟩) ([] : List Sx).length 0) [] w1 := ⟨R0, fun x hx => by simp at hx, fun g e => by simp [Value.ownBlock] at e; exact .inl e.symm, nl _, nl _, b3⟩; have HL1 := hid L1; clear b3 R0 L1; obtain ⟨ws, a4⟩ : ∃ x, zef 10 s = x := ⟨_, rfl⟩; have hwl : ws.length ≤ s.size + 1 := by rw [← a4]; exact zhl 10 s
    have hwd : ws.map (fun x => x.data.toList) = zfj 10 s.data.toList := by rw [← a4]; exact zfv 10 s
    have hwz : ∀ x ∈ ws, x.size ≤ 400000 := fun x hx => Nat.le_trans (zep (c := 10) (s := s) (by rw [a4]; exact hx)) qaa
    have hw0 : 0 < ws.length := by
      have h1 := congrArg List.length hwd; rw [zfi] at h1; simp at h1; omega
    have h5 := hid a4; have g2 := hid hwd; have g8 := hid hwz; clear a4 hwd hwz; go_wp2_with (rw [e7.out]); refine (zhe s 10 w1 hs).mono ?_; rintro e w3 ⟨pp, d3, rfl, c3, hb3⟩; rw [h5.out] at c3 ⊢; have hz3 := hb3.size; have h8 := hid c3; have a9 := HL1.out.below hb3; have HL3 := hid (show LS w w.heap.size w3.heap.size (.slice (some ⟨w.heap.size, 0, none⟩) ([] : List Sx).length 0) [] w3 from ⟨a9.K, a9.O, fun g e => by simp [Value.ownBlock] at e; exact .inl e.symm, a9.h0, nl _, a9.gr⟩); clear c3 hb3 HL1 a9; go_wp2_with fail; go_loopw [4, 5, 7] (fun o n i wr => ∃ (k m : Nat) (A : Option Addr) (c : Nat) (xs : List Sx), k + 1 ≤ ws.length ∧ i = .int .i64 (k : Int) ∧ n = .int .i64 (m : Int) ∧ o = .slice A xs.length c ∧ xs.length = k ∧ m ≤ s.size ∧ LS w w.heap.size w3.heap.size (.slice A xs.length c) xs wr ∧ Readx s.data.toList ((ws.map (fun x => x.data.toList)).drop k) (xs.map sAt) m ∧ ∀ b, w1.heap.size ≤ b → b < w3.heap.size → wr.heap[b]? = w3.heap[b]?) (fun _ _ i _ => ws.length - (intOf i).toNat)
    case atStart => exact ⟨0, 0, _, _, [], by omega, rfl, rfl, rfl, rfl, Nat.zero_le _, HL3.out, by rw [g2.out]; exact Readx.start _, fun _ _ _ => rfl⟩
    case round =>
      obtain ⟨_, m, A, c, xs, hk, rfl, rfl, rfl, rfl, hms, hL, hR, a3⟩ := hrel; clear HL3; have HL := hid hL; have HR := hid hR; have HK := hid a3; have hT := h8.out.keep TextE.stays (fun q h1 h2 => cb_ (a3 q.block h1 h2)) (nl _) (nl _); have hwk : IntKind.i64.wrap ((xs.length : Int) + 1) = ((xs.length + 1 : Nat) : Int) := qao; have hbl := hL.h1; clear hL hR a3; by_cases hlt : xs.length + 1 < ws.length
      · have c0 : ((xs.length + 1 : Nat) : Int) < (ws.length : Int) := qaa
        have hkI : (xs.length : Int) < (ws.length : Int) := qaa; obtain ⟨p, x, b5, i4, hhi, hg, hE⟩ := hT.at_ (show xs.length < ws.length by omega); injection b5 with b5; subst b5; have cE : wr.cell? (pp.add (xs.length * 1)) = some (.string x) := hE; have i1 : wr.cell? (pp.add xs.length) = some (.string x) := by rw [Nat.mul_one] at cE; exact cE
        have h4 : x.size ≤ 400000 := g8.out x (List.mem_of_getElem? hg); have d4 : (ws.map (fun x => x.data.toList))[xs.length]? = some x.data.toList := by rw [List.getElem?_map, hg]; rfl
        have e8 : (ws.map (fun x => x.data.toList)).drop xs.length = x.data.toList :: (ws.map (fun x => x.data.toList)).drop (xs.length + 1) := by
          obtain ⟨h1, h2⟩ := List.getElem?_eq_some_iff.1 d4; rw [← h2]; exact List.drop_eq_getElem_cons h1
        have hne : (ws.map (fun x => x.data.toList)).drop (xs.length + 1) ≠ [] := fun e => by
          have := congrArg List.length e; rw [List.length_drop, List.length_map] at this; simp at this; omega
        have b6 := hid (show Readx s.data.toList (x.data.toList :: (ws.map (fun x => x.data.toList)).drop (xs.length + 1)) (xs.map sAt) m by rw [← e8]; exact HR.out); have e6 := hid hne
        have hk1 : xs.length ≤ 100000 := by
          obtain ⟨r, h1, _⟩ := HR.out.le; have h2 := zjt 0 (xs.map sAt); have h3 := congrArg List.length h1; rw [List.length_append] at h3; rw [List.length_map] at h2; omega
        have g6 : x.data.toList.length = x.size := qag; clear hT hE hg d4 e8 hne HR
        have cW : ∀ W : World, (∀ b, w1.heap.size ≤ b → b < w3.heap.size → W.heap[b]? = wr.heap[b]?) → W.cell? (pp.add xs.length) = some (.string x) := fun W hW => by
          have g1 : (pp.add xs.length).block = pp.block := by unfold Addr.add; split <;> rfl
          exact (cb_ (hW _ (by rw [g1]; exact i4) (by rw [g1]; exact hhi))).trans i1
        have i3 := hid cW; clear cW; go_wp2_with fail; refine (specNext_any x xs.length wr h4 hk1).mono ?_; rintro e w5 ⟨A5, n5, c5, us, B5, m5, d5, vs, ok, rfl, hI, hJ, hb5, hy, hno⟩; have hz5 := hb5.size; have a6 := zac w5 (.cells #[.slice A5 n5 c5, .slice B5 m5 d5] 25); obtain ⟨W5, hW5⟩ : ∃ W5, w5.alloc (.cells #[.slice A5 n5 c5, .slice B5 m5 d5] 25) = W5 := ⟨_, rfl⟩; have hzz : w5.heap.size ≤ W5.heap.size := by rw [← hW5]; simp
        have X5 : Blk W5 w5.heap.size 25 #[.slice A5 n5 c5, .slice B5 m5 d5] := by rw [← hW5]; exact Blk.new w5 _ _
        rw [hW5] at a6; have b7 := zaa hb5 a6; have a7 := hid (HL.out.below b7); have i5 := hid (show OwnSx W5 ⟨wr.heap.size, w5.heap.size, A5, n5, c5, us, B5, m5, d5, vs⟩ from ⟨hI.keep AtomE.stays (fun q _ h2 => a6.cell (p := q) h2) (nl _) (nl _), hJ.keep AtomE.stays (fun q _ h2 => a6.cell (p := q) h2) (nl _) (nl _)⟩); have HY := hid hy; have HN := hid hno; have h7 := hid b7; have d7 := hid hW5; have x0 : W5.cell? ⟨w5.heap.size, 0, none⟩ = some (.slice A5 n5 c5) := X5.cell 0; have x1 : W5.cell? ⟨w5.heap.size, 1, none⟩ = some (.slice B5 m5 d5) := X5.cell 1; clear hI hJ hb5 hy hno a6 b7 hW5 X5; cases ok
        · have d9 := b6.out.stop e6.out (fun c hc => by rw [List.length_map]; exact HN.out qdp c hc)
          have g7 := hid d9; clear d9; go_wp2_with (rw [d7.out]); refine bodyPost_ret (v := .tuple #[.slice A xs.length c, .int .i64 (m : Int)]) qcp rfl ⟨A, _, c, xs.map sAt, m, rfl, a7.out.chs, a7.out.gr, .inl ⟨by omega, g7.out, b6.out.n⟩⟩
        · obtain ⟨g0, a8⟩ := HY.out qdp
          have a2 := b6.out.more e6.out (c := (us, vs)) g0 (by rw [List.length_map]; exact a8); rw [g6] at a2
          have c7 : m + x.size + 1 ≤ s.size := by
            obtain ⟨r, h1, _⟩ := a2.le; have h3 := congrArg List.length h1; rw [List.length_append, ← a2.n] at h3; omega
          have hq1 : IntKind.i64.wrap ((m : Int) + (x.size : Int)) = ((m + x.size : Nat) : Int) := qao; have hq2 : IntKind.i64.wrap (((m + x.size : Nat) : Int) + 1) = ((m + x.size + 1 : Nat) : Int) := qao; have HM := hid a2; clear g0 a8 a2
          go_wp2_with (first
            | rw [d7.out]
            | (at_builtin; refine wpList_append_lies _ rfl _ _ 34 rfl w.heap.size 25 i0 _ 2 48 Tryz.underlying34 HI.out HZ.out HSZ.out HYY.out rfl qan _ _ _ rfl (a7.out.K.alloc _) ⟨W5.heap.size, 0, none⟩ 1 1 [.slice A5 n5 c5, .slice B5 m5 d5] rfl rfl (zbr _ _ _ _) qal qaa qaf qaa qah (W5.heap.size + 1) qag ?_; intro g' cap' w9 hown' hgrow' hat' _; have kk := (fun b h1 h2 => (hgrow'.block b qah (fun e => by rcases a7.out.far b e.symm with h | h <;> omega)).trans (((zac W5 (.cells #[.slice A5 n5 c5, .slice B5 m5 d5] 25)).block b qaa).trans (h7.out.block b qaa)) : ∀ b, w1.heap.size ≤ b → b < w3.heap.size → w9.heap[b]? = wr.heap[b]?); have cE9 := i3.out w9 kk; have KK := hid kk; have hown := hid hown'; have hgrow := hid hgrow'; have hat := hid hat'; clear hown' hgrow' hat' kk))
          have h6 := a7.out.more (x := ⟨wr.heap.size, w5.heap.size, A5, n5, c5, us, B5, m5, d5, vs⟩) i5.out (by show w5.heap.size ≤ _; omega) (fun g e => (HL.out.K.lt g e).2) hown.out hgrow.out hat.out; go_roundw
          case rel => exact ⟨xs.length + 1, m + x.size + 1, some ⟨g', 0, none⟩, cap', xs ++ [⟨wr.heap.size, w5.heap.size, A5, n5, c5, us, B5, m5, d5, vs⟩], by omega, by go_num, rfl, by simp, by simp, c7, by rw [List.length_append]; exact h6, by rw [List.map_append]; exact HM.out, fun b h1 h2 => (KK.out b h1 h2).trans (HK.out b h1 h2)⟩
          case measure => exact qms
      · have c0 : ¬ ((xs.length + 1 : Nat) : Int) < (ws.length : Int) := qaa
        have a5 : LogOf s.data.toList (xs.map sAt) := by
          have h1 := HR.out; have h2 : ((ws.map (fun x => x.data.toList)).drop xs.length).length = 1 := by rw [List.length_drop, List.length_map]; omega
          obtain ⟨y, h3⟩ := List.length_eq_one_iff.1 h2; rw [h3] at h1; exact h1.last
        have b9 := hid a5; clear hT a5; go_wp2; refine bodyPost_ret (v := .tuple #[.slice A xs.length c, .int .i64 (m : Int)]) qcp rfl ⟨A, _, c, xs.map sAt, m, rfl, HL.out.chs, HL.out.gr, .inl ⟨by omega, b9.out, HR.out.n⟩⟩
theorem ZFs0 {p : Prop} (h : p := by
  have HE := hid heq; clear heq hte
  go_region_held3 (fun W => W.cell? ⟨w.heap.size, 1, none⟩ = some (.slice (some p) n c) ∧ W.cell? ⟨w.heap.size + 1, 1, none⟩ = some (.slice (some p') n c') ∧ W.cell? (p.add (k * 2)) = some (.bool t.1) ∧ W.cell? ⟨(p.add (k * 2)).block, (p.add (k * 2)).off + 1, none⟩ = some (.string t.2) ∧ W.cell? (p'.add (k * 2)) = some (.bool t'.1) ∧ W.cell? ⟨(p'.add (k * 2)).block, (p'.add (k * 2)).off + 1, none⟩ = some (.string t'.2))
    (exact ⟨z1, z2, c1, c2, c1', c2'⟩)
    (fail)
  go_wp2
  all_goals first
    | (go_ret
       refine ⟨zdb ?_, zaa hw0 hb.drew⟩; have he := termsEq_no HG.out HG'.out HD.out HE.out
       unfold zgn; rw [← he]; simp)
    | (go_roundw
       case rel => exact ⟨k + 1, by omega, by go_num, termsEq_on HG.out HG'.out HD.out HE.out, hb.drew⟩
       case measure => exact qms)) : p := h
theorem fsAtom_any (nm nm' : ByteArray) (A B : Option Addr) (n c n' c' : Nat) (ts us : List Tm) (w : World) (h : IsTerms w 0 w.heap.size A n c ts) (h' : IsTerms w 0 w.heap.size B n' c' us) :
    Calls Tryz.prog 65 #[.agg #[.string nm, .slice A n c], .agg #[.string nm', .slice B n' c']] w (zas (zgn (nm, ts) (nm', us)) w) := by
  have hm : n ≤ maxLen := qbv; unfold maxLen at hm; have H := hid h; clear h; have H' := hid h'; clear h'; by_cases hne : n = n'
  · subst hne
    have hw0 := zbj w (.cells #[.string nm, .slice A n c] 51) (.cells #[.string nm', .slice B n c'] 51); go_enter Tryz.func65, Tryz.ntmps65; by_cases hnm : nm.toList = nm'.toList
    · go_wp2_with fail
      go_loopw [5] (fun i wr => ∃ k : Nat, k ≤ n ∧ i = .int .i64 k ∧ zbu (ts.drop k) (us.drop k) = zbu ts us ∧ Below ((w.alloc (.cells #[.string nm, .slice A n c] 51)).alloc (.cells #[.string nm', .slice B n c'] 51)).heap.size ((w.alloc (.cells #[.string nm, .slice A n c] 51)).alloc (.cells #[.string nm', .slice B n c'] 51)) wr) (fun i _ => n - (intOf i).toNat)
      case atStart => exact ⟨0, Nat.zero_le _, rfl, rfl, Below.refl _ _⟩
      case round =>
        obtain ⟨k, hk, rfl, hd, hb⟩ := hrel; have HD := hid hd; clear hd; obtain ⟨hc, hf⟩ := zhz hb; by_cases hlt : k < n
        · obtain ⟨p, t, hA, hlo, hhi, hg, c1, c2, c3⟩ := ((H.out.up hw0).below hb (nl _)).at_ hlt
          obtain ⟨p', t', a3, a5, a4, a2, c1', c2', c3'⟩ := ((H'.out.up hw0).below hb (nl _)).at_ hlt; subst hA; subst a3; have HG := hid hg; clear hg; have HG' := hid a2; clear a2; go_wp2_with fail; have z1 : wr.cell? ⟨w.heap.size, 1, none⟩ = some (.slice (some p) n c) := (hc _ _ (by simp <;> omega)).trans qev; have z2 : wr.cell? ⟨w.heap.size + 1, 1, none⟩ = some (.slice (some p') n c') := (hc _ _ (by simp <;> omega)).trans qev; have hte : zgj (t.1, t.2) (t'.1, t'.2) = ((t.1 == t'.1) && (t.2.toList == t'.2.toList)) := rfl; by_cases hv : t.1 = t'.1
          · by_cases hs : t.2.toList = t'.2.toList
            · have heq : (!zgj (t.1, t.2) (t'.1, t'.2)) = false := by rw [hte]; simp [hv, hs]
              exact ZFs0
            · have heq : (!zgj (t.1, t.2) (t'.1, t'.2)) = true := by rw [hte]; simp [hs]
              exact ZFs0
          · have heq : (!zgj (t.1, t.2) (t'.1, t'.2)) = true := by rw [hte]; simp [hv]
            exact ZFs0
        · go_wp2
          go_ret; refine ⟨zdb ?_, zaa hw0 hb⟩; have he := termsEq_end H.out.1 H'.out.1 HD.out hlt; unfold zgn; rw [← he]; simp [hnm]
    · go_wp2
      go_ret; refine ⟨zdb ?_, zbj _ _ _⟩; unfold zgn; simp [hnm]
  · go_enter Tryz.func65, Tryz.ntmps65
    go_wp2
    · go_ret
      refine ⟨zdb ?_, zbj _ _ _⟩; unfold zgn; rw [zir (by rw [H.out.1, H'.out.1]; exact hne)]; simp
    · go_ret
      refine ⟨zdb ?_, zbj _ _ _⟩; unfold zgn; rw [zir (by rw [H.out.1, H'.out.1]; exact hne)]; simp
end Go.Proofs.YtogonjkklioaaaaGreatDoor
namespace Go.Proofs.YtogonjkklioaaaaGreatDoor
open Go.RowKit
theorem fsSame_any (A B : Option Addr) (n c n' c' : Nat) (xs ys : List At) (w : World) (h : IsAtoms w 0 w.heap.size A n c xs) (h' : IsAtoms w 0 w.heap.size B n' c' ys) :
    Calls Tryz.prog 36 #[.slice A n c, .slice B n' c'] w (zas (zcx zgn xs ys) w) := by
  have hm := h.len; unfold maxLen at hm; have H := hid h; clear h; have H' := hid h'; clear h'; by_cases hne : n = n'
  · subst hne
    go_enter Tryz.func36, Tryz.ntmps36; go_wp2; go_loopw [5] (fun i wr => ∃ k : Nat, k ≤ n ∧ i = .int .i64 k ∧ zcx zgn (xs.drop k) (ys.drop k) = zcx zgn xs ys ∧ Below w.heap.size w wr) (fun i _ => n - (intOf i).toNat)
    case atStart => exact ⟨0, Nat.zero_le _, rfl, rfl, Below.refl _ _⟩
    case round =>
      obtain ⟨k, hk, rfl, hd, hb⟩ := hrel; have HD := hid hd; clear hd; by_cases hlt : k < n
      · obtain ⟨p, q, hA, hlo, hhi, hg, hE⟩ := (H.out.below AtomE.stays hb (nl _)).at_ hlt
        obtain ⟨p', q', a6, a8, a7, a3, a2⟩ := (H'.out.below AtomE.stays hb (nl _)).at_ hlt; obtain ⟨C, m, d, d1, d3, d4, d5⟩ := hE.out; obtain ⟨C', m', d', f1, f3, f4, f5⟩ := a2.out; clear hE a2; subst hA; subst a6; have HG := hid hg; clear hg; have HG' := hid a3; clear a3; have HT := hid (d5.keep (w' := wr.drew) (lo' := 0) (hi' := wr.drew.heap.size) (fun _ _ _ => rfl) (nl _) hb.size); clear d5; have a4 := hid (f5.keep (w' := wr.drew) (lo' := 0) (hi' := wr.drew.heap.size) (fun _ _ _ => rfl) (nl _) hb.size); clear f5; have hbd := hb.drew; go_wp2_with fail; go_region_with (go_at_call 65; refine (fsAtom_any _ _ _ _ _ _ _ _ q.2 q'.2 _ HT.out a4.out).mono ?_; rintro e w1 ⟨rfl, hb1⟩)
        all_goals go_wp2
        all_goals first
          | (go_ret; exact ⟨zdb (listEq_no HG.out HG'.out HD.out qbn), zaa hbd hb1⟩)
          | (go_roundw
             case rel => exact ⟨k + 1, by omega, by go_num, listEq_on HG.out HG'.out HD.out qbn, zaa hbd hb1⟩
             case measure => exact qms)
      · have hl := hid H.out.1
        have a5 := hid H'.out.1; go_wp2; go_ret; exact ⟨zdb (listEq_end hl.out a5.out HD.out hlt), hb⟩
  · have hlen : xs.length ≠ ys.length := by rw [H.out.1, H'.out.1]; exact hne
    go_enter Tryz.func36, Tryz.ntmps36; go_wp2; go_ret; exact ⟨zdb (listEq_len hlen).symm, Below.refl _ _⟩
theorem listEq_self (xs : List At) : zcx zgn xs xs = true := by
  induction xs with
  | nil => rfl
  | cons x l ih => simp [zcx, atomEq_refl, ih]
end Go.Proofs.YtogonjkklioaaaaGreatDoor
namespace Go.Proofs.YtogonjkklioaaaaGreatDoor
open Go.RowKit
section
variable (A : Option Addr) (n c : Nat) (xs : List At) (nm : ByteArray) (B : Option Addr) (m d : Nat) (ts : List Tm) (w : World) (h : IsAtoms w 0 w.heap.size A n c xs) (hs : nm.size ≤ maxLen) (h' : IsTerms w 0 w.heap.size B m d ts) {P : List At} {q : Bool}
include h hs h'
end
def Tells (w : World) (b : Bool) (e : Ending) (w' : World) : Prop := e = .returned (.bool b) ∧ Below w.heap.size w w'
theorem tells {w W : World} {b b' : Bool} {e : Ending} {W' : World} (hW : Below w.heap.size w W) (hb : b = b') (h : zas b W e W') : Tells w b' e W' := ⟨by rw [← hb]; exact h.1, zaa hW h.2⟩
theorem same_tells {w W : World} {A B : Option Addr} {n c n' c' : Nat} {xs : List At} (h : IsAtoms w 0 w.heap.size A n c xs) (h' : IsAtoms w 0 w.heap.size B n' c' xs) (hW : Below w.heap.size w W) :
    Calls Tryz.prog 36 #[.slice A n c, .slice B n' c'] W (Tells w true) :=
  (fsSame_any A B n c n' c' xs xs W (h.up AtomE.stays hW) (h'.up AtomE.stays hW)).mono fun _ _ x => tells hW (listEq_self xs) x
end Go.Proofs.YtogonjkklioaaaaGreatDoor

namespace Go.Proofs.YtogonjkklioaaaaGreatDoor
open Go.RowKit
attribute [local go_sem] zbg
attribute [local go_sem] zbg
section
variable {w W : World} {A B D : Option Addr} {n c m d m' d' : Nat} {xs ys cs gs P Q : List At}
end
theorem zmf (A1 A2 B1 B2 : Option Addr) (n1 c1 n2 c2 m1 d1 m2 d2 : Nat) (P Q : List At) (w : World) (h1 : IsAtoms w 0 w.heap.size A1 n1 c1 P) (h2 : IsAtoms w 0 w.heap.size A2 n2 c2 Q) (h3 : IsAtoms w 0 w.heap.size B1 m1 d1 P) (h4 : IsAtoms w 0 w.heap.size B2 m2 d2 Q) :
    Calls Tryz.prog 12 #[.agg #[.slice A1 n1 c1, .slice A2 n2 c2], .agg #[.slice B1 m1 d1, .slice B2 m2 d2]] w (zas true w) := by
  have HP := zbj w (.cells #[.slice A1 n1 c1, .slice A2 n2 c2] 25) (.cells #[.slice B1 m1 d1, .slice B2 m2 d2] 25); have XA := (Box.new w (.slice A1 n1 c1) (.slice A2 n2 c2) 25).up (.cells #[.slice B1 m1 d1, .slice B2 m2 d2] 25); have XC := Box.new2 w (.cells #[.slice A1 n1 c1, .slice A2 n2 c2] 25) (.slice B1 m1 d1) (.slice B2 m2 d2) 25; have K1 := hid (h1.up AtomE.stays HP); have K2 := hid (h2.up AtomE.stays HP); have K3 := hid (h3.up AtomE.stays HP); have K4 := hid (h4.up AtomE.stays HP)
  have YA := hid XA; have YC := hid XC; have a3 := hid HP; clear h1 h2 h3 h4 HP XA XC; go_enter Tryz.func12, Tryz.ntmps12; obtain ⟨_, x0, x1⟩ := YA.out; obtain ⟨_, y0, y1⟩ := YC.out; go_wp2_with fail; refine (same_tells K1.out K3.out (Below.refl _ _)).mono ?_; rintro e w3 ⟨rfl, hB⟩; clear x0 x1 y0 y1; obtain ⟨_, x0, x1⟩ := YA.out.later hB; obtain ⟨_, y0, y1⟩ := YC.out.later hB; go_wp2_with fail; refine (same_tells K2.out K4.out hB).mono ?_; rintro e w4 ⟨rfl, a2⟩; go_wp2; go_ret; exact ⟨rfl, zaa a3.out a2⟩
theorem fsChanges_any (A B : Option Addr) (n c n' c' : Nat) (xs : List Ch) (w : World) (h : zht w 0 w.heap.size A n c xs) (h' : zht w 0 w.heap.size B n' c' xs) :
    Calls Tryz.prog 21 #[.slice A n c, .slice B n' c'] w (zas true w) := by
  have hm := h.len; unfold maxLen at hm; have hne : n = n' := h.1.symm.trans h'.1; subst hne; have H := hid h; clear h; have H' := hid h'; clear h'; go_enter Tryz.func21, Tryz.ntmps21; go_wp2; go_loopw [5] (fun i wr => ∃ k : Nat, k ≤ n ∧ i = .int .i64 k ∧ Below w.heap.size w wr) (fun i _ => n - (intOf i).toNat)
  case atStart => exact ⟨0, Nat.zero_le _, rfl, Below.refl _ _⟩
  case round =>
    obtain ⟨k, hk, rfl, hb⟩ := hrel; by_cases hlt : k < n
    · obtain ⟨p, q, hA, hlo, hhi, hg, hE⟩ := (H.out.below ChE.stays hb (nl _)).at_ hlt
      obtain ⟨p', q', a5, a7, a6, a3, a2⟩ := (H'.out.below ChE.stays hb (nl _)).at_ hlt; have a4 : q = q' := Option.some.inj (hg.symm.trans a3); subst a4; obtain ⟨C, m, d, D, i, j, d1, d2, d3, d4⟩ := hE.out; obtain ⟨C', m', d', D', i', j', f1, f2, f3, f4⟩ := a2.out; clear hE a2 hg a3; subst hA; subst a5; have K1 := hid (d2.keep (w' := wr.drew) (lo' := 0) (hi' := wr.drew.heap.size) AtomE.stays (fun _ _ _ => rfl) (nl _) hb.size); have K2 := hid (d4.keep (w' := wr.drew) (lo' := 0) (hi' := wr.drew.heap.size) AtomE.stays (fun _ _ _ => rfl) (nl _) hb.size); have K3 := hid (f2.keep (w' := wr.drew) (lo' := 0) (hi' := wr.drew.heap.size) AtomE.stays (fun _ _ _ => rfl) (nl _) hb.size)
      have K4 := hid (f4.keep (w' := wr.drew) (lo' := 0) (hi' := wr.drew.heap.size) AtomE.stays (fun _ _ _ => rfl) (nl _) hb.size); clear d2 d4 f2 f4; have hbd := hb.drew; go_wp2_with fail; go_region_with (go_at_call 12; refine (zmf _ _ _ _ _ _ _ _ _ _ _ _ q.1 q.2 _ K1.out K2.out K3.out K4.out).mono ?_; rintro e w1 ⟨rfl, hb1⟩)
      all_goals go_wp2
      all_goals
        go_roundw
        case rel => exact ⟨k + 1, by omega, by go_num, zaa hbd hb1⟩
        case measure => exact qms
    · go_wp2
      go_ret; exact ⟨rfl, hb⟩
theorem LogR.small {l : List UInt8} {cs : List Ch} {n : Nat} (h : LogR l cs n) (hl : l.length ≤ 400000) : LogOf l cs ∧ n = (zeb 0 cs).length := by
  rcases h with ⟨_, h2, h3⟩ | ⟨h1, _, _⟩
  · exact ⟨h2, h3⟩
  · omega
theorem logB_ok {k : Nat} {c : Ch} (h : okC c) (hk : k ≤ 100000) : znb (k : Int) c.1 c.2 = zbo k (chC c) := by
  unfold znb; rw [if_pos ⟨h, by omega, by omega⟩]; rfl
theorem LogOf.one_more {cs ds : List Ch} {c : Ch} (h : ∀ x ∈ cs, okC x) (hc : okC c) (h' : LogOf (zeb 0 cs ++ zbo cs.length (chC c)) ds) : ds = cs ++ [c] := by
  have e : zeb 0 (cs ++ [c]) = zeb 0 cs ++ zbo cs.length (chC c) := by rw [zdy, Nat.zero_add]
  have a3 : ∀ x ∈ cs ++ [c], okC x := fun x hx => by
    rcases List.mem_append.1 hx with hx | hx
    · exact h x hx
    · rw [List.mem_singleton.1 hx]; exact hc
  obtain ⟨vs, a2⟩ := h'.most a3 (by rw [e]; exact List.prefix_rfl)
  cases vs with
  | nil => rw [List.append_nil] at a2; exact a2.symm
  | cons v vs =>
    exfalso; have h1 := h'.tx.length_le; rw [← a2, zmz, ← e, List.length_append] at h1; have h2 := zjt (0 + (cs ++ [c]).length) (v :: vs); rw [List.length_cons] at h2; omega
theorem take_le (cs : List Ch) (k : Nat) : (zeb 0 (cs.take k)).length ≤ (zeb 0 cs).length := by
  have e := zmz 0 (cs.take k) (cs.drop k); rw [List.take_append_drop] at e; rw [e, List.length_append]; omega
theorem take_more {cs : List Ch} {k : Nat} {c : Ch} (h : cs[k]? = some c) : zeb 0 (cs.take (k + 1)) = zeb 0 (cs.take k) ++ zbo k (chC c) := by
  have hk : k < cs.length := (List.getElem?_eq_some_iff.1 h).1; have e : cs.take (k + 1) = cs.take k ++ [c] := by rw [List.take_add_one, h]; rfl
  rw [e, zdy, Nat.zero_add, List.length_take, Nat.min_eq_left qaa]
theorem logGet_law (A : Option Addr) (n c : Nat) (A' : Option Addr) (n' c' : Nat) (w : World) (h : IsBytes w w.heap.size A n c) (h' : IsBytes w w.heap.size A' n' c') (hm : MaxIn w) (hE : EofIn w) (hP : PowTab w) :
    Calls Tryz.prog 5 #[.slice A n c, .slice A' n' c'] w (zas true w) := by
  have hn : n ≤ maxLen := by have := h.1; have := h.2.1; omega
  have l5 : n' ≤ maxLen := by have := h'.1; have := h'.2.1; omega
  unfold maxLen at hn l5; have H := hid h; clear h; have H' := hid h'; clear h'; go_enter Tryz.func5, Tryz.ntmps5; go_wp2_with fail
  all_goals try (go_ret; exact ⟨rfl, Below.refl _ _⟩)
  refine (drawLogGet_any A n c w H.out).mono ?_; rintro e w1 ⟨t, ⟨rfl, ht⟩, hb1⟩; have i5 := hm.below hb1; have g8 := hE.below hb1; have h5 := hP.below hb1; have HB1 := hid hb1; clear hb1; go_wp2_with fail; refine (zin t w1 qaa i5 g8 h5).mono ?_; rintro e w2 ⟨A5, c5, xs, z, lo, rfl, a2, hown, -, hb2, hR⟩; have hI := chs_of_row a2 hown; obtain ⟨cs, e7⟩ : ∃ cs, xs.map cfAt = cs := ⟨_, rfl⟩; have hlen : xs.length = cs.length := by rw [← e7, List.length_map]
  rw [e7] at hI hR; rw [hlen] at hI ⊢; have HI := hid hI; have HB2 := hid (zaa HB1.out hb2); have HR := hid hR; clear hI hb2 hR a2 hown e7 hlen i5 g8 h5; go_wp2_with fail; refine (specLogGet_any t w2 qaa).mono ?_; rintro e w3 ⟨A3, n3, c3, cs3, z3, rfl, j8, hb3, h4⟩; obtain ⟨e1, e2⟩ := HR.out.uniq h4; subst e1; subst e2; have j7 := hid j8; have HJ := hid (HI.out.up ChE.stays hb3); have HB3 := hid (zaa HB2.out hb3); clear j8 hb3 h4; go_wp2_with fail; refine (fsChanges_any A5 A3 cs.length c5 n3 c3 cs w3 HJ.out j7.out).mono ?_; rintro e w4 ⟨rfl, hb4⟩; have tl : t.data.toList.length = t.size := qag; obtain ⟨hL, hz⟩ := HR.out.small qaa
  have j9 := hid hL.ok; have hzt : z ≤ t.size := by rw [hz, ← tl]; exact hL.tx.length_le
  have hcl : cs.length ≤ 100000 := HR.out.few; have a7 : (t.data.toList.take z) = zeb 0 cs := by rw [hz]; obtain ⟨r, hr⟩ := hL.tx; rw [← hr, List.take_left']; rfl
  have b5 := hid a7; have HZ := hid hz; have g1 := hid (HJ.out.up ChE.stays hb4); have HB4 := hid (zaa HB3.out hb4); clear hb4 HJ j7 HB3 HR hL tl a7 hz HI HB2; go_wp2; go_loopw [10, 11] (fun s i wr => ∃ (u : ByteArray) (k : Nat), (s = .string u ∧ i = .int .i64 (k : Int)) ∧ k ≤ cs.length ∧ u.data.toList = zeb 0 (cs.take k) ∧ Below w4.heap.size w4 wr) (fun _ i _ => cs.length - (intOf i).toNat)
  case atStart => exact ⟨_, 0, ⟨rfl, rfl⟩, Nat.zero_le _, rfl, Below.refl _ _⟩
  case round =>
    obtain ⟨u, k, ⟨rfl, rfl⟩, hk, hu, hB⟩ := hrel
    have hus : u.size ≤ 321000 := by
      have e1 : u.data.toList.length = u.size := qag; have := take_le cs k; have := HZ.out; rw [← e1, hu]; omega
    have HU := hid hu; clear hu; by_cases hlt : k < cs.length
    · obtain ⟨p, q, hA, l7, hhi, hg, a6⟩ := (g1.out.below ChE.stays hB (nl _)).at_ hlt
      obtain ⟨C, m, d, D, i, j, d1, d2, d3, d4⟩ := a6.out; subst hA; have i8 := hB.size; have K1 := hid (d2.keep (w' := wr) (lo' := 0) (hi' := wr.heap.size) AtomE.stays (fun _ _ _ => rfl) (nl _) i8); have K2 := hid (d4.keep (w' := wr) (lo' := 0) (hi' := wr.heap.size) AtomE.stays (fun _ _ _ => rfl) (nl _) i8); have HG := hid hg; have HB := hid hB; have l2 := hid (hP.below (zaa HB4.out hB)); clear a6 d2 d4 hg hB; go_wp2_with fail; refine (zfe (k : Int) C m d D i j q.1 q.2 wr K1.out K2.out l2.out).mono ?_; rintro e w5 ⟨rfl, hb5⟩; have hq := j9.out q (List.mem_of_getElem? HG.out); rw [logB_ok hq qaa]; have h6 := zna (k : Int) q.1 q.2 600 (by have := zbk hq; omega)
      rw [logB_ok hq qaa] at h6; obtain ⟨v, hv⟩ : ∃ v : ByteArray, (⟨(zbo k (chC q)).toArray⟩ : ByteArray) = v := ⟨_, rfl⟩; have l8 : v.size ≤ 78100 := by rw [← hv]; show (zbo k (chC q)).toArray.size ≤ _; simp only [List.size_toArray]; omega
      have i3 : v.data.toList = zbo k (chC q) := by rw [← hv]
      rw [hv]; have b3 := hid i3; have HB5 := hid (zaa HB.out hb5); have hwk : IntKind.i64.wrap ((k : Int) + 1) = ((k + 1 : Nat) : Int) := qao; clear hv i3 hb5 h6; go_wp2; go_roundw
      case rel => exact ⟨u ++ v, k + 1, ⟨rfl, by go_num⟩, by omega, by rw [take_more HG.out, ByteArray.data_append, Array.toList_append, HU.out, b3.out], HB5.out⟩
      case measure => exact qms
    · have l4 : k = cs.length := qaa
      have c7 := hid (zaa HB4.out hB); have k0 := hid (g1.out.up ChE.stays hB); have i1 := hid (show u.data.toList = zeb 0 cs from by rw [HU.out, l4, List.take_length]); clear hB HU g1 HB4; go_wp2_with fail; refine (drawLogPut_any A' n' c' _ (H'.out.up c7.out)).mono ?_; rintro e w6 ⟨k6, A6, j6, c6, es, B6, i6, d6, fs, ⟨rfl, hj6, hi6⟩, d7, b7, h8⟩; have hb7 := zac w6 (.cells #[.slice A6 j6 c6, .slice B6 i6 d6] 25); have x7 := Blk.new w6 25 #[.slice A6 j6 c6, .slice B6 i6 d6]; obtain ⟨w7, b6⟩ : ∃ w7, w6.alloc (.cells #[.slice A6 j6 c6, .slice B6 i6 d6] 25) = w7 := ⟨_, rfl⟩
      rw [b6] at hb7 x7; have l3 := hid b6; have X7 := hid x7; have b4 := hid (d7.up AtomE.stays hb7); have d9 := hid (b7.up AtomE.stays hb7); have a5 := zaa h8 hb7; have HB7 := hid (zaa c7.out a5); have i4 := hid (k0.out.up ChE.stays a5); have g6 := hid (hP.below HB7.out); have hjl := d7.1; have hil := b7.1; clear hb7 x7 b6 d7 b7 h8 a5 c7 k0; have y0 := X7.out.cell 0; have y1 := X7.out.cell 1; go_wp2_with (rw [l3.out]); refine (zfe (cs.length : Int) A6 j6 c6 B6 i6 d6 es fs w7 b4.out d9.out g6.out).mono ?_; rintro e w8 ⟨rfl, hb8⟩; have hln := zna (cs.length : Int) es fs 82 qaa; have HB8 := hid (zaa HB7.out hb8); have l1 := hid (i4.out.up ChE.stays hb8); have X8 := hid (X7.out.below hb8)
      have g5 := hid (b4.out.up AtomE.stays hb8); have a8 := hid (d9.out.up AtomE.stays hb8); clear hb8 y0 y1 HB7 i4 X7 b4 d9 g6; obtain ⟨v, hv⟩ : ∃ v : ByteArray, (⟨(znb (cs.length : Int) es fs).toArray⟩ : ByteArray) = v := ⟨_, rfl⟩; have l8 : v.size ≤ 10800 := by rw [← hv]; show (znb (cs.length : Int) es fs).toArray.size ≤ _; simp only [List.size_toArray]; omega
      have b3 := hid (show v.data.toList = znb (cs.length : Int) es fs from by rw [← hv]); rw [hv]; clear hv hln; have hzI : (0 : Int) ≤ (z : Int) := qaa; have l0 : (z : Int) ≤ (t.size : Int) := qaa; have e6 : u = t.extract 0 z := zjd (by rw [i1.out, ← b5.out]; simp); have hut : u.toList = (t.extract 0 z).toList := by rw [e6]
      have HUE := hid e6; clear e6; cases hc : zao es fs
      · have k5 : v.toList.isEmpty = true := by
          have e : v.data.toList = [] := by rw [b3.out]; unfold znb; rw [hc]; rfl
          rw [ByteArray.toList_eq, e]; rfl
        clear hc; go_wp2; go_ret; exact ⟨rfl, HB8.out⟩
      · have a4 : v.data.toList = zbo cs.length (chC (es, fs)) := by rw [b3.out]; exact logB_ok (c := (es, fs)) hc qaa
        have k5 : v.toList.isEmpty = false := by
          rw [ByteArray.toList_eq, a4]; unfold zbo; simp
        have HC := hid hc; have HL := hid a4; clear hc a4; have k3 := hm.below HB8.out; have i7 := hE.below HB8.out; have h7 := hP.below HB8.out; go_wp2_with fail; refine (zin (u ++ v) w8 (by rw [ByteArray.size_append]; omega) k3 i7 h7).mono ?_; rintro e w9 ⟨A9, c9, ys, z9, lo9, rfl, a2, hown, -, hb9, hR⟩; have hI := chs_of_row a2 hown; have e8 : (u ++ v).data.toList = zeb 0 cs ++ zbo cs.length (chC (es, fs)) := by rw [ByteArray.data_append, Array.toList_append, i1.out, HL.out]
        have j0 : (u ++ v).data.toList.length = u.size + v.size := by rw [← ByteArray.size_append]; simp
        obtain ⟨hL, k4⟩ := hR.small qaa; have a9 := LogOf.one_more (c := (es, fs)) j9.out HC.out (e8 ▸ hL); have hlen : ys.length = cs.length + 1 := by have := congrArg List.length a9; rwa [List.length_map, List.length_append, List.length_singleton] at this
        have c0 : z9 = u.size + v.size := by
          rw [k4, a9, zdy, Nat.zero_add, ← e8, j0]
        rw [a9] at hI; obtain ⟨n1, g7⟩ : ∃ n1, cs.length + 1 = n1 := ⟨_, rfl⟩; rw [hlen, g7] at hI ⊢; have g0 : cs.length < n1 := qaa; have hwl : IntKind.i64.wrap ((cs.length : Int) + 1) = (n1 : Int) := qao; have hws : IntKind.i64.wrap ((u.size : Int) + (v.size : Int)) = (z9 : Int) := qao; have HI := hid hI; have HB9 := hid (zaa HB8.out hb9).drew; have X9 := hid (X8.out.below hb9); have K1 := hid (show IsAtoms w9.drew 0 w9.drew.heap.size A6 j6 c6 es from g5.out.up AtomE.stays hb9.drew); have K2 := hid (show IsAtoms w9.drew 0 w9.drew.heap.size B6 i6 d6 fs from a8.out.up AtomE.stays hb9.drew); clear hI hb9 hR a2 hown hlen k4 e8 j0 hL k3 i7 h7 HB8 X8 g5 a8 l1 c0 g7
        obtain ⟨p, q, hA, l7, hhi, hg, a6⟩ := HI.out.at_ g0
        have hq : (es, fs) = q := by
          rw [List.getElem?_append_right (nl _), Nat.sub_self] at hg; exact Option.some.inj hg
        subst hq; obtain ⟨C, m, d, D, i, j, d1, d2, d3, d4⟩ := a6.out; subst hA; have K3 := hid (show IsAtoms w9.drew 0 w9.drew.heap.size C m d es from d2.keep AtomE.stays (fun _ _ _ => rfl) (nl _) (nl _)); have K4 := hid (show IsAtoms w9.drew 0 w9.drew.heap.size D i j fs from d4.keep AtomE.stays (fun _ _ _ => rfl) (nl _) (nl _)); have y0 := X9.out.cell 0; have y1 := X9.out.cell 1; have l6 := hid (show w6.heap.size < w9.drew.heap.size from X9.out.lt); clear a6 d2 d4 hg a9 X9 HI
        -- REGION
        have g2 : w6.heap.size < w9.drew.heap.size := l6.out; have b9 : (p.add (cs.length * 2)).block < w9.drew.heap.size := by rw [zah]; exact hhi
        obtain ⟨V, hV⟩ : ∃ V, w9.drew = V := ⟨_, rfl⟩; have HV := hid hV; have z0 : V.cell? ⟨w6.heap.size, 0, none⟩ = some (.slice A6 j6 c6) := hV ▸ y0; have z1 : V.cell? ⟨w6.heap.size, 1, none⟩ = some (.slice B6 i6 d6) := hV ▸ y1; have z2 : V.cell? (p.add (cs.length * 2)) = some (.slice C m d) := hV ▸ d1; have z3 : V.cell? ⟨(p.add (cs.length * 2)).block, (p.add (cs.length * 2)).off + 1, none⟩ = some (.slice D i j) := hV ▸ d3; rw [hV] at K1 K2 K3 K4 HB9 g2 b9; clear y0 y1 d1 d3 hV; go_wp2_with fail; refine wp_region_held_drew (S := fun W => (W.cell? ⟨w6.heap.size, 0, none⟩ = some (.slice A6 j6 c6) ∧ W.cell? ⟨w6.heap.size, 1, none⟩ = some (.slice B6 i6 d6)) ∧ W.cell? (p.add (cs.length * 2)) = some (.slice C m d) ∧ W.cell? ⟨(p.add (cs.length * 2)).block, (p.add (cs.length * 2)).off + 1, none⟩ = some (.slice D i j)) qab (by rw [HV.out]; exact ⟨⟨z0, z1⟩, z2, z3⟩) ?_
        rw [HV.out]; intro hS_; refine tk 0 (.slice (some p) n1 c9) hS_ ?_; refine tk 1 (.int .i64 (n1 : Int)) hS_ ?_; refine tk 2 (.slice A5 cs.length c5) hS_ ?_; refine tk 3 (.int .i64 (cs.length : Int)) hS_ ?_; refine tk 4 (.int .i64 (n1 : Int)) hS_ ?_; refine tk 5 (.bool true) hS_ ?_; refine tk 6 (.bool true) hS_ ?_; refine tk 7 (.int .i64 (z9 : Int)) hS_ ?_; refine tk 8 (.string u) hS_ ?_; refine tk 9 (.int .i64 (u.size : Int)) hS_ ?_; refine tk 10 (.string v) hS_ ?_; refine tk 11 (.int .i64 (v.size : Int)) hS_ ?_; refine tk 12 (.int .i64 (z9 : Int)) hS_ ?_; refine tk 13 (.bool true) hS_ ?_; refine tk 14 (.bool true) hS_ ?_
        refine tk 15 (.bool true) hS_ ?_; refine tk 16 (.slice (some p) n1 c9) hS_ ?_; refine tk 17 (.slice A5 cs.length c5) hS_ ?_; refine tk 18 (.int .i64 (cs.length : Int)) hS_ ?_; refine tk 19 (.pointer (some (p.add (cs.length * 2)))) hS_ ?_; refine tk 20 (.agg #[.slice C m d, .slice D i j]) hS_ ?_; refine tk 21 (.agg #[.slice A6 j6 c6, .slice B6 i6 d6]) hS_ ?_; refine rd1 22 fun K_ hK_ => ?_; go_simp; go_at_call 12; refine (zmf _ _ _ _ _ _ _ _ _ _ _ _ es fs _ K3.out K4.out K1.out K2.out).mono ?_; rintro e w10 ⟨rfl, a3⟩; have q0 := (a3.cell (p := ⟨w6.heap.size, 0, none⟩) (Nat.lt_of_lt_of_le g2 (nl _))).trans z0
        have q1 := (a3.cell (p := ⟨w6.heap.size, 1, none⟩) (Nat.lt_of_lt_of_le g2 (nl _))).trans z1; have q2 := (a3.cell (p := p.add (cs.length * 2)) b9).trans z2; have q3 := (a3.cell (p := ⟨(p.add (cs.length * 2)).block, (p.add (cs.length * 2)).off + 1, none⟩) b9).trans z3; refine hK_.out _ _ ⟨⟨q0, q1⟩, q2, q3⟩ fun hS_ => ?_; clear hK_; refine tk 23 (.bool true) hS_ ?_; refine tk 24 (.bool true) hS_ ?_; refine wpAnyH_done qab ?_ _; clear hS_; go_wp2; go_ret; exact ⟨rfl, zaa HB9.out a3⟩
end Go.Proofs.YtogonjkklioaaaaGreatDoor
