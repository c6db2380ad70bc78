/-
  What is read of a text as a rule, in the program.
-/
import Derived.Test.YtahkkelahocplaaDoorRuleRead
namespace Go.Proofs.YtahkkelahocplaaDoor
open Go.RowKit

theorem cutN_sizes {l sep x r : List UInt8} {f : Bool} (h : Lib.cut l sep = (x, r, f)) : x.length ≤ l.length ∧ r.length ≤ l.length := by
  have hs := cut_sound h
  cases f
  · rw [(hs.2 rfl).1]
    unfold Lib.cut at h
    split at h
    · injection h with h1 h2
      injection h2 with h2 h3
      cases h3
    · injection h with h1 h2
      injection h2 with h2 h3
      subst h2
      exact ⟨Nat.le_refl _, Nat.zero_le _⟩
  · rw [hs.1 rfl]
    simp only [List.length_append]; omega

theorem readR_cut {l x b : List UInt8} {f : Bool} (hc : Lib.cut l ifL = (x, b, f)) :
    (getB x = none → readR l = none) ∧ (∀ a, getB x = some a → readR l = if f = true then (readBody b).map (fun xs => (a, xs)) else some (a, [])) := by
  unfold readR
  rw [hc]
  refine ⟨fun h => ?_, fun a h => ?_⟩
  · simp only
    rw [h]
  · simp only
    rw [h]

set_option maxRecDepth 100000 in
set_option maxHeartbeats 4000000 in
theorem implRuleGet_any (s : ByteArray) (w : World) (hs : s.size ≤ 1048576) (hm : MaxIn w) :
    Calls Tryd.prog 23 #[.string s] w (GetRPost s.data.toList w) := by
  have hsl : s.data.toList.length = s.size := by simp
  have hb0 := below1 w (.cells #[.string ⟨#[]⟩, .slice none 0 0, .slice none 0 0] 38)
  have X0 := Lib.hid (Blk.new w 38 #[.string ⟨#[]⟩, .slice none 0 0, .slice none 0 0])
  obtain ⟨W0, hW0⟩ : ∃ W0, w.alloc (.cells #[.string ⟨#[]⟩, .slice none 0 0, .slice none 0 0] 38) = W0 := ⟨_, rfl⟩
  rw [hW0] at hb0 X0
  have hz0 : W0.heap.size = w.heap.size + 1 := by rw [← hW0]; simp
  have HB0 := Lib.hid hb0
  have hm0 := hm.below hb0
  clear hb0
  obtain ⟨x, b, f, hc⟩ : ∃ x b f, Lib.cut s.data.toList ifL = (x, b, f) := ⟨_, _, _, rfl⟩
  obtain ⟨hxs, hbs⟩ := cutN_sizes hc
  have HRD := Lib.hid (readR_cut hc)
  have HC := Lib.hid hc
  clear hc
  go_enter Tryd.func23, Tryd.ntmps23
  go_wp2_with fail
  obtain ⟨mx, hmx⟩ := hm0
  refine (Tryd.strings_Cut s ⟨#[32, 105, 102, 32]⟩ mx W0 (by omega) hmx).mono ?_; rintro e w1 ⟨rfl, n1, hw1⟩
  rw [show Lib.cut s.data.toList (⟨#[32, 105, 102, 32]⟩ : ByteArray).data.toList = (x, b, f) from HC.out]
  have hb1 : Below W0.heap.size W0 w1 := by rw [hw1]; exact ⟨rfl, rfl, rfl, Nat.le_refl _, fun _ _ => rfl⟩
  have hm1 : MaxIn w1 := MaxIn.below ⟨mx, hmx⟩ hb1
  have X1 := Lib.hid (X0.out.below hb1); have HB1 := Lib.hid (belowThen HB0.out hb1)
  clear hw1 hmx
  have hz1 := hb1.size
  clear hb1
  go_wp2_with fail
  refine (implAtomGet_any ⟨x.toArray⟩ w1 (by rw [mk_size]; omega) hm1).mono ?_; rintro e w2 ⟨r, rfl, hH, hr, hb2⟩
  rw [mk_data] at hr ⊢
  unfold rfVal
  have hbx := below1 w2 (.cells #[.string r.1, .slice r.2.1 r.2.2.1 r.2.2.2.1] 24)
  have hm3 := hm1.below (belowThen hb2 hbx)
  have HHr := Lib.hid (hH.keep (w' := w2.alloc (.cells #[.string r.1, .slice r.2.1 r.2.2.1 r.2.2.2.1] 24)) (lo' := w1.heap.size) (hi' := w2.heap.size) (fun b _ h2 => hbx.block b h2) (Nat.le_refl _) (Nat.le_refl _))
  have X3 := Lib.hid (X1.out.below (belowThen hb2 hbx)); have HB3 := Lib.hid (belowThen HB1.out (belowThen hb2 hbx))
  have Y3 := Lib.hid (Blk.new w2 24 #[.string r.1, .slice r.2.1 r.2.2.1 r.2.2.2.1])
  have hz2 := hb2.size
  clear hb2 hH hbx
  cases hgb : getB x with
  | none =>
    have E := Lib.hid (HRD.out.1 hgb)
    clear hgb
    rw [show (none : Option At).isSome = false from rfl]
    have r0 := X3.out.cell 0; have r1 := X3.out.cell 1; have r2 := X3.out.cell 2
    have f0 := X3.out.frozen 0; have f1 := X3.out.frozen 1; have f2 := X3.out.frozen 2
    go_wp2_with fail
    have Z := ((X3.out.set 0 (.string ⟨#[]⟩)).set 1 (.slice none 0 0)).set 2 (.slice none 0 0)
    have z0 := Z.cell 0; have z1 := Z.cell 1; have z2 := Z.cell 2
    simp at z0 z1 z2
    refine bodyPost_ret (v := .tuple #[ruVal noRu, .bool false]) (by simp [results, Tryd.results23, go_sem, r0, r1, r2, ruVal, noRu, noRf]) rfl ⟨noRu, by rw [E.out]; rfl, noRu_apart (by simp only [size_setCell]; exact HB3.out.size), by rw [E.out]; rfl, ((HB3.out.setCell (by simp) _).setCell (by simp) _).setCell (by simp) _⟩
  | some a =>
    have hra : rAt r = a := by rw [hr, hgb]; rfl
    have HRE := Lib.hid (HRD.out.2 a hgb)
    clear hgb hr
    rw [show (some a : Option At).isSome = true from rfl]
    cases f
    · have E := Lib.hid (show readR s.data.toList = some (a, []) by rw [HRE.out]; rfl)
      have HH3 := Lib.hid HHr.out
      have HP3 := Lib.hid (show OwnParts (w2.alloc (.cells #[.string r.1, .slice r.2.1 r.2.2.1 r.2.2.2.1] 24)) w2.heap.size w2.heap.size none 0 0 [] from noParts)
      have hz3 : (w2.alloc (.cells #[.string r.1, .slice r.2.1 r.2.2.1 r.2.2.2.1] 24)).heap.size = w2.heap.size + 1 := by simp
      have r0 := X3.out.cell 0; have r1 := X3.out.cell 1; have r2 := X3.out.cell 2
      have f0 := X3.out.frozen 0; have f1 := X3.out.frozen 1; have f2 := X3.out.frozen 2
      have y0 := Y3.out.cell 0; have y1 := Y3.out.cell 1
      go_wp2_with fail
      have hfar : ∀ b, w.heap.size < b → ((((w2.alloc (.cells #[.string r.1, .slice r.2.1 r.2.2.1 r.2.2.2.1] 24)).setCell ⟨w.heap.size, 0, none⟩ (.string r.1)).setCell ⟨w.heap.size, 1, none⟩ (.slice r.2.1 r.2.2.1 r.2.2.2.1)).setCell ⟨w.heap.size, 2, none⟩ (.slice none 0 0)).heap[b]? = (w2.alloc (.cells #[.string r.1, .slice r.2.1 r.2.2.1 r.2.2.2.1] 24)).heap[b]? := fun b h => (Below.heap_setCell _ _ _ b (by simp; omega)).trans ((Below.heap_setCell _ _ _ b (by simp; omega)).trans (Below.heap_setCell _ _ _ b (by simp; omega)))
      refine bodyPost_ret (v := .tuple #[ruVal (r, none, 0, 0, []), .bool true]) (by simp [results, Tryd.results23, go_sem, r0, r1, r2, ruVal]) rfl ⟨(r, none, 0, 0, []), by rw [E.out]; rfl, ?_, by rw [E.out]; unfold rRl; show (rAt r, _) = _; rw [hra]; rfl, ((HB3.out.setCell (by simp) _).setCell (by simp) _).setCell (by simp) _⟩
      exact ⟨w1.heap.size, w2.heap.size, w2.heap.size, w2.heap.size, by omega, by omega, by simp only [size_setCell]; omega, by omega, by omega, by simp only [size_setCell]; omega, .inl (by omega), HH3.out.keep (fun b h1 _ => hfar b (by omega)) (Nat.le_refl _) (Nat.le_refl _), HP3.out.keep (fun b h1 _ => hfar b (by omega)) (Nat.le_refl _) (Nat.le_refl _)⟩
    · go_wp2_with fail
      refine (bodyGet_any ⟨b.toArray⟩ _ (by rw [mk_size]; omega) hm3).mono ?_; rintro e w5 ⟨B5, n5, c5, ps, rfl, hP5, hx5, hb5⟩
      rw [mk_data] at hx5 ⊢
      have HB5 := Lib.hid (belowThen HB3.out hb5)
      have X5 := Lib.hid (X3.out.below hb5)
      have Y5 := Lib.hid (Y3.out.below hb5)
      have HH5 := Lib.hid (HHr.out.keep (w' := w5) (lo' := w1.heap.size) (hi' := w2.heap.size) (fun b _ h2 => hb5.block b (by simp; omega)) (Nat.le_refl _) (Nat.le_refl _))
      have HP5 := Lib.hid (hP5.keep (lo' := w2.heap.size + 1) (hi' := w5.heap.size) (fun _ _ _ => rfl) (by simp) (Nat.le_refl _))
      have hz5 : w2.heap.size + 1 ≤ w5.heap.size := by have := hb5.size; simp at this; exact this
      clear hb5 hP5
      cases hwo : readBody b with
      | none =>
        have E := Lib.hid (show readR s.data.toList = none by rw [HRE.out, hwo]; rfl)
        clear hwo hx5
        rw [show (none : Option (List Pt)).isSome = false from rfl]
        have r0 := X5.out.cell 0; have r1 := X5.out.cell 1; have r2 := X5.out.cell 2
        have f0 := X5.out.frozen 0; have f1 := X5.out.frozen 1; have f2 := X5.out.frozen 2
        go_wp2_with fail
        have Z := ((X5.out.set 0 (.string ⟨#[]⟩)).set 1 (.slice none 0 0)).set 2 (.slice none 0 0)
        have z0 := Z.cell 0; have z1 := Z.cell 1; have z2 := Z.cell 2
        simp at z0 z1 z2
        refine bodyPost_ret (v := .tuple #[ruVal noRu, .bool false]) (by simp [results, Tryd.results23, go_sem, r0, r1, r2, ruVal, noRu, noRf]) rfl ⟨noRu, by rw [E.out]; rfl, noRu_apart (by simp only [size_setCell]; exact HB5.out.size), by rw [E.out]; rfl, ((HB5.out.setCell (by simp) _).setCell (by simp) _).setCell (by simp) _⟩
      | some xs =>
        have hpx := hx5 xs hwo
        have E := Lib.hid (show readR s.data.toList = some (a, ps.map pAt) by rw [HRE.out, hwo, hpx]; rfl)
        clear hwo hx5 hpx
        rw [show (some xs : Option (List Pt)).isSome = true from rfl]
        have r0 := X5.out.cell 0; have r1 := X5.out.cell 1; have r2 := X5.out.cell 2
        have f0 := X5.out.frozen 0; have f1 := X5.out.frozen 1; have f2 := X5.out.frozen 2
        have y0 := Y5.out.cell 0; have y1 := Y5.out.cell 1
        go_wp2_with fail
        have hfar : ∀ b, w.heap.size < b → (((w5.setCell ⟨w.heap.size, 0, none⟩ (.string r.1)).setCell ⟨w.heap.size, 1, none⟩ (.slice r.2.1 r.2.2.1 r.2.2.2.1)).setCell ⟨w.heap.size, 2, none⟩ (.slice B5 n5 c5)).heap[b]? = w5.heap[b]? := fun b h => (Below.heap_setCell _ _ _ b (by simp; omega)).trans ((Below.heap_setCell _ _ _ b (by simp; omega)).trans (Below.heap_setCell _ _ _ b (by simp; omega)))
        refine bodyPost_ret (v := .tuple #[ruVal (r, B5, n5, c5, ps), .bool true]) (by simp [results, Tryd.results23, go_sem, r0, r1, r2, ruVal]) rfl ⟨(r, B5, n5, c5, ps), by rw [E.out]; rfl, ?_, by rw [E.out]; unfold rRl; show (rAt r, _) = _; rw [hra]; rfl, ((HB5.out.setCell (by simp) _).setCell (by simp) _).setCell (by simp) _⟩
        exact ⟨w1.heap.size, w2.heap.size, w2.heap.size + 1, w5.heap.size, by omega, by omega, by simp only [size_setCell]; omega, by omega, by omega, by simp only [size_setCell]; omega, .inl (by omega), HH5.out.keep (fun b h1 _ => hfar b (by omega)) (Nat.le_refl _) (Nat.le_refl _), HP5.out.keep (fun b h1 _ => hfar b (by omega)) (Nat.le_refl _) (Nat.le_refl _)⟩

end Go.Proofs.YtahkkelahocplaaDoor
