/-
  Texts of one claim, put together.
-/
import Derived.Test.YtogonjkklioaaaaGreatDoorLg20
namespace Go.Proofs.YtogonjkklioaaaaGreatDoor
open Go.RowKit

set_option maxHeartbeats 1000000 in
theorem newReader_any (s : ByteArray) (w : World) :
    Calls Tryz.prog 30 #[.string s] w fun e w' => e = .returned (.pointer (some ⟨w.heap.size, 0, none⟩)) ∧ Rdr w' w.heap.size s 0 ∧ Below w.heap.size w w' ∧ w.heap.size < w'.heap.size := by
  have h0 : Hid (Rdr (w.alloc (.cells #[.string ⟨#[]⟩, .int .i64 0, .int .i64 0] 64)) w.heap.size ⟨#[]⟩ 0) := Lib.hid ⟨0, Blk.new w _ _⟩
  have hb := below1 w (.cells #[.string ⟨#[]⟩, .int .i64 0, .int .i64 0] 64)
  go_enter Tryz.func30, Tryz.ntmps30
  go_wp2_with fail
  refine (rdReset_any w.heap.size 0 ⟨#[]⟩ s _ h0.out).mono ?_; rintro e w2 ⟨rfl, hr, hg⟩
  have HR := Lib.hid hr; have HG := Lib.hid hg
  clear hr hg
  go_wp2
  go_ret
  exact ⟨rfl, HR.out, hb.grown HG.out hb.size (fun k hk => by injection hk with hk; omega), HR.out.lt⟩

/-- A change is told that a text is of, in memory of the call's own; or that it is of none. -/
def GetCPost (l : List UInt8) (w : World) (e : Ending) (w' : World) : Prop :=
  ∃ (A : Option Addr) (c : Nat) (ra : List Rf) (B : Option Addr) (d : Nat) (rb : List Rf) (mid : Nat) (ok : Bool), e = .returned (.tuple #[.agg #[.slice A ra.length c, .slice B rb.length d], .bool ok]) ∧
    OwnRefs w' mid w'.heap.size A ra.length c ra ∧ OwnRefs w' w.heap.size mid B rb.length d rb ∧ (w.heap.size ≤ mid ∧ mid ≤ w'.heap.size) ∧ Below w.heap.size w w' ∧
    (ok = true → changeB (ra.map rAt) (rb.map rAt) = true ∧ l = chL (ra.map rAt) (rb.map rAt)) ∧ (ok = false → ra = [] ∧ rb = [] ∧ ∀ xs ys, changeB xs ys = true → l ≠ chL xs ys)

section
variable {w : World} {cb lo mid hi : Nat} {vc vg : Value} {rc rg : List Rf} {W : World}

theorem CG.own (h : CG w cb lo mid hi vc vg rc rg W) : ∃ A c B d, vc = .slice A rc.length c ∧ vg = .slice B rg.length d ∧ OwnRefs W mid W.heap.size A rc.length c rc ∧ OwnRefs W w.heap.size mid B rg.length d rg := by
  have h0 := h.h0; have h1 := h.h1; have h2 := h.h2; have h3 := h.h3; have hc := h.hc
  obtain ⟨A, c, e1, o1⟩ := OwnRefs.of_row (lo := mid) h.K rfl (Nat.le_refl _) (h.KI.keep (fun _ _ _ => rfl) (Nat.le_refl _) h.h3) (Nat.le_refl _)
  obtain ⟨B, d, e2, o2⟩ := OwnRefs.of_row (lo := lo) h.G rfl (Nat.le_refl _) (h.GI.keep (fun _ _ _ => rfl) (Nat.le_refl _) (Nat.le_trans h.h2 h.h3)) (Nat.le_refl _)
  refine ⟨A, c, B, d, e1, e2, o1, o2.1, o2.2.1, o2.2.2.1, fun hn => ?_, h.GI.keep (fun _ _ _ => rfl) (by omega) (Nat.le_refl _)⟩
  obtain ⟨g, k, f, a1, a2, a3, a4⟩ := o2.2.2.2.1 hn
  exact ⟨g, k, f, a1, by omega, h.GL g (by rw [e2, a1]; rfl), a4⟩
end

theorem chL_goes (gs : List At) (a : At) : chL [] (gs ++ [a]) = chL [] gs ++ (45 :: (textL a ++ [32])) := by unfold chL signL; simp
theorem chL_comes (cs gs : List At) (a : At) : chL (cs ++ [a]) gs = chL cs gs ++ (43 :: (textL a ++ [32])) := by unfold chL signL; simp

theorem noRefs {w : World} {lo hi : Nat} : OwnRefs w lo hi none 0 0 [] := ⟨rfl, Nat.le_refl _, Nat.zero_le _, fun h0 => absurd h0 (by simp), OwnIn.nil⟩

theorem chL_uniq {xs ys xs' ys' : List At} (a1 : ∀ a ∈ xs, atomB a = true) (a2 : ∀ a ∈ ys, atomB a = true) (h' : changeB xs' ys' = true) (he : chL xs ys = chL xs' ys') : xs = xs' ∧ ys = ys' := by
  obtain ⟨_, _, b1, b2⟩ := change_put h'
  rw [← encS_sgs, ← encS_sgs] at he
  obtain ⟨V, h1, h2⟩ := encS_prefix (rest := []) (sgs_atoms a1 a2) (sgs_atoms b1 b2) (by rw [List.append_nil]; exact he)
  cases V with
  | nil => rw [List.append_nil] at h1; exact sgs_inj h1
  | cons z V => rw [encS_cons] at h2; cases h2

theorem Rdr.turned {w W9 : World} {R i base k cb c : Nat} {s : ByteArray} {v u : Value} {xs : List Value} {e : TypeId} {sz : Nat} {ob : Obj} (h : Rdr w R s i) (hrow : w.ownsRow base e sz v k xs) (hR : R < base) (hg : (w.alloc ob).grownBy W9 v.ownBlock) (hne : R ≠ cb) : Rdr (W9.setCell ⟨cb, c, none⟩ u) R s i := by
  obtain ⟨p, h⟩ := h
  exact ⟨p, ((h.alloc ob).kept hg (fun e' => by have := (hrow.lt R e'.symm).1; omega)).far (p := ⟨cb, c, none⟩) hne _⟩

/-- Where a change's reading stands. -/
structure CAt (s : ByteArray) (i : Nat) (rc rg : List Rf) : Prop where
  li : i ≤ s.size
  ln : rc.length + rg.length ≤ i
  ac : ∀ a ∈ rc.map rAt, atomB a = true
  ag : ∀ a ∈ rg.map rAt, atomB a = true
  tx : s.data.toList = chL (rc.map rAt) (rg.map rAt) ++ s.data.toList.drop i

section
variable {s : ByteArray} {i : Nat} {rc rg : List Rf} {r : Rf} {x : UInt8} {p post : List UInt8}

theorem CAt.start (s : ByteArray) : CAt s 0 [] [] := ⟨Nat.zero_le _, Nat.le_refl _, fun a h => by simp at h, fun a h => by simp at h, by simp [chL, signL]⟩

theorem drop_on (h : s.data.toList.drop i = (x :: p) ++ 32 :: post) : s.data.toList.drop (i + p.length + 2) = post := by
  rw [Nat.add_assoc, ← List.drop_drop, h]
  have : (x :: p) ++ 32 :: post = (x :: (p ++ [32])) ++ post := by simp
  rw [this]
  exact List.drop_left' (by simp)

theorem CAt.goes (h : CAt s i [] rg) (hd : s.data.toList.drop i = (45 :: p) ++ 32 :: post) (hg : getB p = some (rAt r)) (hj : i + p.length + 2 ≤ s.size) : CAt s (i + p.length + 2) [] (rg ++ [r]) := by
  obtain ⟨h1, h2, _⟩ := getB_some hg
  refine ⟨hj, by have := h.ln; simp only [List.length_append, List.length_nil, List.length_cons] at *; omega, h.ac, fun a ha => ?_, ?_⟩
  · rw [List.map_append] at ha
    rcases List.mem_append.1 ha with ha | ha
    · exact h.ag a ha
    · have ha' : a = rAt r := by simpa using ha
      rw [ha']; exact h1
  · rw [drop_on hd, List.map_append]
    show _ = chL [] (rg.map rAt ++ [rAt r]) ++ post
    rw [chL_goes, h2]
    have := h.tx
    rw [hd] at this
    rw [this]
    simp

theorem CAt.comes (h : CAt s i rc rg) (hd : s.data.toList.drop i = (43 :: p) ++ 32 :: post) (hg : getB p = some (rAt r)) (hj : i + p.length + 2 ≤ s.size) : CAt s (i + p.length + 2) (rc ++ [r]) rg := by
  obtain ⟨h1, h2, _⟩ := getB_some hg
  refine ⟨hj, by have := h.ln; simp only [List.length_append, List.length_nil, List.length_cons] at *; omega, fun a ha => ?_, h.ag, ?_⟩
  · rw [List.map_append] at ha
    rcases List.mem_append.1 ha with ha | ha
    · exact h.ac a ha
    · have ha' : a = rAt r := by simpa using ha
      rw [ha']; exact h1
  · rw [drop_on hd, List.map_append]
    show _ = chL (rc.map rAt ++ [rAt r]) (rg.map rAt) ++ post
    rw [chL_comes, h2]
    have := h.tx
    rw [hd] at this
    rw [this]
    simp

theorem CAt.none (h : CAt s i rc rg) (hi : i < s.size) (hno : ∀ y p post a, s.data.toList.drop i = (y :: p) ++ 32 :: post → 32 ∉ y :: p → getB p = some a → ¬ (y = 45 ∧ rc = []) ∧ y ≠ 43) :
    ∀ xs ys, changeB xs ys = true → s.data.toList ≠ chL xs ys :=
  no_change h.tx h.ac h.ag (fun e => by
    have h1 := congrArg List.length e
    have h0 : s.data.toList.length = s.size := by simp
    simp only [List.length_drop, h0, List.length_nil] at h1
    omega) (fun y p post a h1 h2 h3 => by
      obtain ⟨k1, k2⟩ := hno y p post a h1 h2 h3
      exact ⟨fun ⟨e1, e2⟩ => k1 ⟨e1, by simpa using e2⟩, k2⟩)

theorem CAt.all (h : CAt s i rc rg) (hi : ¬ i < s.size) : s.data.toList = chL (rc.map rAt) (rg.map rAt) := by
  have h1 := h.tx
  have h0 : s.data.toList.length = s.size := by simp
  rw [List.drop_of_length_le (by omega), List.append_nil] at h1
  exact h1
end

end Go.Proofs.YtogonjkklioaaaaGreatDoor

namespace Go.Proofs.YtogonjkklioaaaaGreatDoor
open Go.RowKit

/-- A change in the making, its rows in any order. -/
structure SG (w : World) (cb lo hi : Nat) (vc vg : Value) (rc rg : List Rf) (W : World) : Prop where
  C : Blk W cb 25 #[vc, vg]
  G : W.ownsRow lo 51 2 vg rg.length (rcells rg)
  K : W.ownsRow lo 51 2 vc rc.length (rcells rc)
  NE : ∀ g, vg.ownBlock = some g → vc.ownBlock ≠ some g
  GI : OwnIn W lo hi rg
  KI : OwnIn W lo hi rc
  hc : w.heap.size ≤ cb
  h0 : cb < lo
  h1 : lo ≤ hi
  h3 : hi ≤ W.heap.size
  gr : Below w.heap.size w W

section
variable {w : World} {cb lo hi : Nat} {vc vg : Value} {rc rg : List Rf} {W W' : World} {r : Rf} {ob : Obj} {W9 : World} {g' n cap : Nat}

theorem SG.raise (h : SG w cb lo hi vc vg rc rg W) : SG w cb lo W.heap.size vc vg rc rg W :=
  ⟨h.C, h.G, h.K, h.NE, h.GI.keep (fun _ _ _ => rfl) (Nat.le_refl _) h.h3, h.KI.keep (fun _ _ _ => rfl) (Nat.le_refl _) h.h3, h.hc, h.h0, Nat.le_trans h.h1 h.h3, Nat.le_refl _, h.gr⟩

theorem SG.below (h : SG w cb lo hi vc vg rc rg W) (hb : Below W.heap.size W W') : SG w cb lo hi vc vg rc rg W' := by
  have h3 := h.h3; have hbs := hb.size; have hs := h.gr.size
  exact ⟨h.C.below hb, ownsRow_up h.G hb, ownsRow_up h.K hb, h.NE, h.GI.keep (fun b _ a2 => hb.block b (by omega)) (Nat.le_refl _) (Nat.le_refl _), h.KI.keep (fun b _ a2 => hb.block b (by omega)) (Nat.le_refl _) (Nat.le_refl _),
    h.hc, h.h0, h.h1, Nat.le_trans h3 hbs, h.gr.trans (hb.mono hs)⟩

theorem SG.goes (h : SG w cb lo hi vc vg rc rg W) (hr : HeadApart W hi W.heap.size r)
    (hown : W9.ownsRow lo 51 2 (.slice (some ⟨g', 0, none⟩) n cap) (rg.length + 1) (rcells rg ++ [.string r.1, .slice r.2.1 r.2.2.1 r.2.2.2.1])) (hgrow : (W.alloc ob).grownBy W9 vg.ownBlock) (hat : vg.ownBlock = some g' ∨ g' = W.heap.size + 1) :
    SG w cb lo W9.heap.size vc (.slice (some ⟨g', 0, none⟩) n cap) rc (rg ++ [r]) (W9.setCell ⟨cb, 1, none⟩ (.slice (some ⟨g', 0, none⟩) n cap)) := by
  have h0 := h.h0; have h1 := h.h1; have h3 := h.h3; have hs := h.gr.size; have hc := h.hc
  have hb1 := below1 W ob
  have hgs := hgrow.size
  have hbs := hb1.size
  have hA := h.below hb1
  have far : ∀ g, vg.ownBlock = some g → lo ≤ g := fun g hg => (hA.G.lt g hg).1
  have i1 : OwnIn W lo W.heap.size (rg ++ [r]) := h.GI.snoc (fun _ _ _ => rfl) h3 hr.1 h1 hr.2.1 hr.2.2
  have i2 : OwnIn W9 lo W9.heap.size (rg ++ [r]) := (i1.keep (w' := W.alloc ob) (fun b _ a2 => hb1.block b a2) (Nat.le_refl _) hbs).appended hA.G hgrow hgs
  have j2 : OwnIn W9 lo W9.heap.size rc := (hA.KI.keep (fun _ _ _ => rfl) (Nat.le_refl _) hA.h3).appended hA.G hgrow hgs
  have c9 : Blk W9 cb 25 #[vc, vg] := hA.C.kept hgrow (CG.box_far hA.G hA.C)
  have hn9 := CG.box_far hown c9
  have kne : vc.ownBlock = none ∨ vc.ownBlock ≠ vg.ownBlock := by
    cases hv : vg.ownBlock with
    | none => cases hv2 : vc.ownBlock with
      | none => exact .inl rfl
      | some g => exact .inr (by simp)
    | some g => exact .inr (h.NE g hv)
  have k9 := hA.K.kept hgrow kne
  refine ⟨c9.set 1 _, ?_, row_away k9 (CG.box_far k9 c9) _, fun g hg hg2 => ?_, ?_, ?_, hc, h0, by omega, by rw [size_setCell]; exact Nat.le_refl _, ?_⟩
  · rw [List.length_append, rcells_snoc]; exact row_away hown hn9 _
  · simp [Value.ownBlock] at hg
    subst hg
    rcases hat with e | e
    · exact h.NE g' e hg2
    · have := (h.K.lt g' hg2).2; omega
  · exact i2.keep (fun b a1 _ => Below.heap_setCell _ _ _ b (by show b ≠ cb; omega)) (Nat.le_refl _) (Nat.le_refl _)
  · exact j2.keep (fun b a1 _ => Below.heap_setCell _ _ _ b (by show b ≠ cb; omega)) (Nat.le_refl _) (Nat.le_refl _)
  · refine Below.setCell ?_ hc _
    exact ⟨hgrow.os.trans hA.gr.os, hgrow.tape.trans hA.gr.tape, hgrow.output.trans hA.gr.output, by omega, fun k hk => (hgrow.block k (by omega) (fun e => by have := far k e.symm; omega)).trans (hA.gr.block k hk)⟩

theorem SG.comes (h : SG w cb lo hi vc vg rc rg W) (hr : HeadApart W hi W.heap.size r)
    (hown : W9.ownsRow lo 51 2 (.slice (some ⟨g', 0, none⟩) n cap) (rc.length + 1) (rcells rc ++ [.string r.1, .slice r.2.1 r.2.2.1 r.2.2.2.1])) (hgrow : (W.alloc ob).grownBy W9 vc.ownBlock) (hat : vc.ownBlock = some g' ∨ g' = W.heap.size + 1) :
    SG w cb lo W9.heap.size (.slice (some ⟨g', 0, none⟩) n cap) vg (rc ++ [r]) rg (W9.setCell ⟨cb, 0, none⟩ (.slice (some ⟨g', 0, none⟩) n cap)) := by
  have h0 := h.h0; have h1 := h.h1; have h3 := h.h3; have hs := h.gr.size; have hc := h.hc
  have hb1 := below1 W ob
  have hgs := hgrow.size
  have hbs := hb1.size
  have hA := h.below hb1
  have far : ∀ g, vc.ownBlock = some g → lo ≤ g := fun g hg => (hA.K.lt g hg).1
  have i1 : OwnIn W lo W.heap.size (rc ++ [r]) := h.KI.snoc (fun _ _ _ => rfl) h3 hr.1 h1 hr.2.1 hr.2.2
  have i2 : OwnIn W9 lo W9.heap.size (rc ++ [r]) := (i1.keep (w' := W.alloc ob) (fun b _ a2 => hb1.block b a2) (Nat.le_refl _) hbs).appended hA.K hgrow hgs
  have j2 : OwnIn W9 lo W9.heap.size rg := (hA.GI.keep (fun _ _ _ => rfl) (Nat.le_refl _) hA.h3).appended hA.K hgrow hgs
  have c9 : Blk W9 cb 25 #[vc, vg] := hA.C.kept hgrow (CG.box_far hA.K hA.C)
  have hn9 := CG.box_far hown c9
  have kne : vg.ownBlock = none ∨ vg.ownBlock ≠ vc.ownBlock := by
    cases hv : vg.ownBlock with
    | none => exact .inl rfl
    | some g => exact .inr (fun e => h.NE g hv e.symm)
  have k9 := hA.G.kept hgrow kne
  refine ⟨c9.set 0 _, row_away k9 (CG.box_far k9 c9) _, ?_, fun g hg hg2 => ?_, ?_, ?_, hc, h0, by omega, by rw [size_setCell]; exact Nat.le_refl _, ?_⟩
  · rw [List.length_append, rcells_snoc]; exact row_away hown hn9 _
  · simp [Value.ownBlock] at hg2
    subst hg2
    rcases hat with e | e
    · exact h.NE g' hg e
    · have := (h.G.lt g' hg).2; omega
  · exact j2.keep (fun b a1 _ => Below.heap_setCell _ _ _ b (by show b ≠ cb; omega)) (Nat.le_refl _) (Nat.le_refl _)
  · exact i2.keep (fun b a1 _ => Below.heap_setCell _ _ _ b (by show b ≠ cb; omega)) (Nat.le_refl _) (Nat.le_refl _)
  · refine Below.setCell ?_ hc _
    exact ⟨hgrow.os.trans hA.gr.os, hgrow.tape.trans hA.gr.tape, hgrow.output.trans hA.gr.output, by omega, fun k hk => (hgrow.block k (by omega) (fun e => by have := far k e.symm; omega)).trans (hA.gr.block k hk)⟩

theorem SG.tells (h : SG w cb lo hi vc vg rc rg W) : ∃ A c B d, vc = .slice A rc.length c ∧ vg = .slice B rg.length d ∧ IsAtoms W lo W.heap.size A rc.length c (rc.map rAt) ∧ IsAtoms W lo W.heap.size B rg.length d (rg.map rAt) := by
  obtain ⟨A, c, e1, o1⟩ := OwnRefs.of_row (lo := lo) h.K rfl (Nat.le_refl _) (h.KI.keep (fun _ _ _ => rfl) (Nat.le_refl _) h.h3) (Nat.le_refl _)
  obtain ⟨B, d, e2, o2⟩ := OwnRefs.of_row (lo := lo) h.G rfl (Nat.le_refl _) (h.GI.keep (fun _ _ _ => rfl) (Nat.le_refl _) h.h3) (Nat.le_refl _)
  exact ⟨A, c, B, d, e1, e2, o1.atoms, o2.atoms⟩
end

/-- A change is told that a text is of; or that it is of none. -/
def GetDPost (l : List UInt8) (w : World) (e : Ending) (w' : World) : Prop :=
  ∃ (A : Option Addr) (c n : Nat) (xs : List At) (B : Option Addr) (d m : Nat) (ys : List At) (ok : Bool), e = .returned (.tuple #[.agg #[.slice A n c, .slice B m d], .bool ok]) ∧
    IsAtoms w' 0 w'.heap.size A n c xs ∧ IsAtoms w' 0 w'.heap.size B m d ys ∧ Below w.heap.size w w' ∧
    (ok = true → changeB xs ys = true ∧ l = chL xs ys) ∧ (ok = false → xs = [] ∧ ys = [] ∧ ∀ us vs, changeB us vs = true → l ≠ chL us vs)

theorem cuts_free (c : UInt8) : ∀ (n : Nat) (l : List UInt8), l.length ≤ n → ∀ x ∈ cuts c l, c ∉ x
  | n, l, hn => by
    rcases first_of c l with h | ⟨x, r, rfl, h⟩
    · rw [cuts_none h]; intro y hy; rw [List.mem_singleton.1 hy]; exact h
    · rw [cuts_first h]; intro y hy
      rcases List.mem_cons.1 hy with rfl | hy
      · exact h
      · cases n with
        | zero => simp at hn
        | succ n => exact cuts_free c n r (by simp at hn; omega) y hy

theorem join_on {x y : List UInt8} {r : List (List UInt8)} : Lib.join (x :: y :: r) [32] = x ++ 32 :: Lib.join (y :: r) [32] := by
  rw [Lib.join_cons, joinTail_cons, Lib.join_cons]; simp

theorem join_signed : ∀ (T : List Sg) (r : List (List UInt8)), r ≠ [] → Lib.join (T.map (fun z => z.1 :: textL z.2) ++ r) [32] = encS T ++ Lib.join r [32]
  | [], r, _ => by simp [encS]
  | z :: T, r, hr => by
    have ih := join_signed T r hr
    rw [encS_cons, List.map_cons, List.cons_append]
    cases hm : T.map (fun z => z.1 :: textL z.2) ++ r with
    | nil => simp at hm; exact absurd hm.2 hr
    | cons y q => rw [join_on, ← hm, ih]; simp

/-- Where the model's reading stands: k words are signs and atoms. -/
structure SAt (ws : List (List UInt8)) (k : Nat) (T : List Sg) (cs gs : List At) : Prop where
  len : T.length = k
  at_ : ∀ z ∈ T, atomB z.2 = true
  wd : ws.take k = T.map fun z => z.1 :: textL z.2
  ec : cs = T.filterMap fun z => if z.1 = 45 then none else some z.2
  eg : gs = T.filterMap fun z => if z.1 = 45 then some z.2 else none

section
variable {ws : List (List UInt8)} {k : Nat} {T : List Sg} {cs gs : List At} {l : List UInt8}

theorem SAt.start (ws : List (List UInt8)) : SAt ws 0 [] [] [] := ⟨rfl, fun z h => by simp at h, by simp, rfl, rfl⟩

theorem SAt.text (h : SAt ws k T cs gs) (hl : cuts 32 l = ws) (hk : k < ws.length) : l = encS T ++ Lib.join (ws.drop k) [32] := by
  have h1 := cuts_join 32 l
  rw [hl, ← List.take_append_drop k ws, h.wd, join_signed _ _ (fun e => by have := congrArg List.length e; simp at this; omega)] at h1
  exact h1.symm

theorem SAt.goes {p : List UInt8} {a : At} (h : SAt ws k T cs gs) (hw : ws[k]? = some (45 :: p)) (hg : getB p = some a) : SAt ws (k + 1) (T ++ [(45, a)]) cs (gs ++ [a]) := by
  obtain ⟨h1, h2, _⟩ := getB_some hg
  refine ⟨by rw [List.length_append, h.len]; rfl, fun z hz => ?_, by rw [List.take_add_one, hw, h.wd, List.map_append]; simp [h2], by rw [List.filterMap_append, ← h.ec]; simp, by rw [List.filterMap_append, ← h.eg]; simp⟩
  rcases List.mem_append.1 hz with hz | hz
  · exact h.at_ z hz
  · rw [List.mem_singleton.1 hz]; exact h1

theorem SAt.comes {p : List UInt8} {a : At} {x : UInt8} (h : SAt ws k T cs gs) (hx : x ≠ 45) (hw : ws[k]? = some (x :: p)) (hg : getB p = some a) : SAt ws (k + 1) (T ++ [(x, a)]) (cs ++ [a]) gs := by
  obtain ⟨h1, h2, _⟩ := getB_some hg
  refine ⟨by rw [List.length_append, h.len]; rfl, fun z hz => ?_, by rw [List.take_add_one, hw, h.wd, List.map_append]; simp [h2], by rw [List.filterMap_append, ← h.ec]; simp [hx], by rw [List.filterMap_append, ← h.eg]; simp [hx]⟩
  rcases List.mem_append.1 hz with hz | hz
  · exact h.at_ z hz
  · rw [List.mem_singleton.1 hz]; exact h1

/-- A word that is no sign with an atom: there is no change. -/
theorem SAt.none {x : List UInt8} (h : SAt ws k T cs gs) (hl : cuts 32 l = ws) (hk : k + 1 < ws.length) (hw : ws[k]? = some x) (hx : (32 : UInt8) ∉ x) (hno : ∀ y p, x = y :: p → getB p = none) (us vs : List At) (hch : changeB us vs = true) : l ≠ chL us vs := by
  intro he
  obtain ⟨_, _, a1, a2⟩ := change_put hch
  have ht := h.text hl (by omega)
  rw [he, ← encS_sgs] at ht
  obtain ⟨V, h1, h2⟩ := encS_prefix (sgs_atoms a1 a2) h.at_ ht
  obtain ⟨hk0, hkx⟩ := List.getElem?_eq_some_iff.1 hw
  have hd : ws.drop k = x :: ws[k + 1] :: ws.drop (k + 2) := by
    rw [List.drop_eq_getElem_cons hk0, hkx, List.drop_eq_getElem_cons hk]
  rw [hd, join_on] at h2
  cases V with
  | nil => simp [encS] at h2
  | cons z V =>
    rw [encS_cons] at h2
    have hz := sgs_atoms a1 a2 z (by rw [h1]; simp)
    have hz4 : z.1 ≠ 32 := by
      have hz : z ∈ sgs us vs := by rw [h1]; simp
      unfold sgs at hz
      rcases List.mem_append.1 hz with hz | hz
      · obtain ⟨a, _, rfl⟩ := List.mem_map.1 hz; exact (show (45 : UInt8) ≠ 32 by decide)
      · obtain ⟨a, _, rfl⟩ := List.mem_map.1 hz; exact (show (43 : UInt8) ≠ 32 by decide)
    have h32 : (32 : UInt8) ∉ z.1 :: textL z.2 := fun hm => by
      rcases List.mem_cons.1 hm with hm | hm
      · exact hz4 hm.symm
      · exact text_no_blank hz hm
    obtain ⟨h3, _⟩ := mark_first (a := x) (b := z.1 :: textL z.2) (by rw [h2]; rfl) hx h32
    have h4 := hno z.1 (textL z.2) h3
    rw [getB_text hz] at h4
    cases h4

/-- All words but the last are read. -/
theorem SAt.all (h : SAt ws k T cs gs) (hl : cuts 32 l = ws) (hk : k + 1 = ws.length) (hb : ∀ x ∈ ws, (32 : UInt8) ∉ x) :
    (chB cs gs = l → changeB cs gs = true ∧ l = chL cs gs) ∧ (chB cs gs ≠ l → ∀ us vs, changeB us vs = true → l ≠ chL us vs) := by
  have ht := h.text hl (by omega)
  have hk0 : k < ws.length := by omega
  have hd : ws.drop k = [ws[k]] := by
    rw [List.drop_eq_getElem_cons hk0, List.drop_of_length_le (by omega)]
  rw [hd, Lib.join_cons] at ht
  rw [show Lib.joinTail [32] ([] : List (List UInt8)) = [] from rfl, List.append_nil] at ht
  have hlast := hb ws[k] (List.getElem_mem hk0)
  refine ⟨fun he => ?_, fun hne us vs hch he => ?_⟩
  · cases hc : changeB cs gs
    · exfalso
      unfold chB at he
      rw [hc, if_neg (by simp)] at he
      subst he
      have h1 : ws = [[]] := by rw [← hl]; exact cuts_none (by simp)
      have h2 : T = [] := List.eq_nil_of_length_eq_zero (by rw [h.len]; rw [h1] at hk; simp at hk; exact hk)
      rw [h.ec, h.eg, h2] at hc
      revert hc
      decide
    · unfold chB at he
      rw [hc, if_pos rfl] at he
      exact ⟨rfl, he.symm⟩
  · obtain ⟨_, _, a1, a2⟩ := change_put hch
    rw [he, ← encS_sgs] at ht
    obtain ⟨V, h1, h2⟩ := encS_prefix (sgs_atoms a1 a2) h.at_ ht
    cases V with
    | cons z V => rw [h2, encS_cons] at hlast; exact hlast (by simp)
    | nil =>
      rw [List.append_nil] at h1
      have e1 : cs = us := by rw [h.ec, ← h1]; unfold sgs; simp [List.filterMap_append, List.filterMap_map, Function.comp_def]
      have e2 : gs = vs := by rw [h.eg, ← h1]; unfold sgs; simp [List.filterMap_append, List.filterMap_map, Function.comp_def]
      apply hne
      rw [e1, e2, he]
      unfold chB
      rw [if_pos hch]
end

end Go.Proofs.YtogonjkklioaaaaGreatDoor

namespace Go.Proofs.YtogonjkklioaaaaGreatDoor
open Go.RowKit

/-- A change is told that a text is of, in memory of the call's own; or that it is of none. -/
def GetNPost (l : List UInt8) (w : World) (e : Ending) (w' : World) : Prop :=
  ∃ (A : Option Addr) (c n : Nat) (xs : List At) (B : Option Addr) (d m : Nat) (ys : List At) (ok : Bool), e = .returned (.tuple #[.agg #[.slice A n c, .slice B m d], .bool ok]) ∧
    IsAtoms w' w.heap.size w'.heap.size A n c xs ∧ IsAtoms w' w.heap.size w'.heap.size B m d ys ∧ Below w.heap.size w w' ∧
    (ok = true → changeB xs ys = true ∧ l = chL xs ys) ∧ (ok = false → xs = [] ∧ ys = [] ∧ ∀ us vs, changeB us vs = true → l ≠ chL us vs)

theorem GetNPost.weak {l : List UInt8} {w : World} {e : Ending} {w' : World} (h : GetNPost l w e w') : GetDPost l w e w' := by
  obtain ⟨A, c, n, xs, B, d, m, ys, ok, h1, h2, h3, h4⟩ := h
  exact ⟨A, c, n, xs, B, d, m, ys, ok, h1, h2.keep AtomE.stays (fun _ _ _ => rfl) (Nat.zero_le _) (Nat.le_refl _), h3.keep AtomE.stays (fun _ _ _ => rfl) (Nat.zero_le _) (Nat.le_refl _), h4⟩

set_option maxRecDepth 100000 in
set_option maxHeartbeats 8000000 in
theorem specChangeGet_new (s : ByteArray) (w : World) (hs : s.size ≤ 1048576) :
    Calls Tryz.prog 14 #[.string s] w (GetNPost s.data.toList w) := by
  obtain ⟨i0, hi, hz, hsz, hby⟩ := info_parts Tryz.infoAt
  have HI := Lib.hid hi; have HZ := Lib.hid hz; have HSZ := Lib.hid hsz; have HYY := Lib.hid hby
  clear hi hz hsz hby
  obtain ⟨ws, hws⟩ : ∃ x, cutsB 32 s = x := ⟨_, rfl⟩
  have hwl : ws.length ≤ s.size + 1 := by rw [← hws]; exact cutsB_len 32 s
  have hwz : ∀ x ∈ ws, x.size ≤ 1048576 := fun x hx => Nat.le_trans (cutsB_size (c := 32) (s := s) (by rw [hws]; exact hx)) hs
  have hwd : cuts 32 s.data.toList = ws.map (fun x => x.data.toList) := by rw [← hws]; exact (cutsB_data 32 s).symm
  have hfree : ∀ x ∈ ws.map (fun x => x.data.toList), (32 : UInt8) ∉ x := by rw [← hwd]; exact cuts_free 32 _ _ (Nat.le_refl _)
  have hw0 : 0 < ws.length := by
    have h1 := congrArg List.length hwd
    rw [cuts_eq] at h1
    simp at h1; omega
  have HWS := Lib.hid hws; have HWZ := Lib.hid hwz; have HWD := Lib.hid hwd; have HFR := Lib.hid hfree
  clear hws hwz hwd hfree
  have hb0 := below1 w (.cells #[.slice none 0 0, .slice none 0 0] 25)
  have X0 := Blk.new w 25 #[.slice none 0 0, .slice none 0 0]
  obtain ⟨w1, hw1⟩ : ∃ w1, w.alloc (.cells #[.slice none 0 0, .slice none 0 0] 25) = w1 := ⟨_, rfl⟩
  rw [hw1] at hb0 X0
  have hz1 : w1.heap.size = w.heap.size + 1 := by rw [← hw1]; simp
  have hb1 := below1 w1 (.cells #[.slice none 0 0, .slice none 0 0] 25)
  have X1 := Blk.new w1 25 #[.slice none 0 0, .slice none 0 0]
  obtain ⟨w2, hw2⟩ : ∃ w2, w1.alloc (.cells #[.slice none 0 0, .slice none 0 0] 25) = w2 := ⟨_, rfl⟩
  rw [hw2] at hb1 X1
  have hz2 : w2.heap.size = w.heap.size + 2 := by rw [← hw2]; simp [hz1]
  have HW2 := Lib.hid hw2; clear hw2
  go_enter Tryz.func14, Tryz.ntmps14
  go_wp2_with fail
  rw [HW2.out]
  refine (l1Cut_any s 32 w2 hs).mono ?_; rintro e w3 ⟨pp, d3, rfl, hT3, hb3⟩
  rw [HWS.out] at hT3 ⊢
  have hz3 := hb3.size
  have HC3 : Hid (SG w1 (w.heap.size + 1) w3.heap.size w3.heap.size (.slice none 0 0) (.slice none 0 0) [] [] w3) := Lib.hid ⟨by have := X1.below hb3; rw [hz1] at this; exact this, ⟨rfl, .inl ⟨rfl, rfl⟩⟩, ⟨rfl, .inl ⟨rfl, rfl⟩⟩, fun g hg => by simp [Value.ownBlock] at hg, OwnIn.nil, OwnIn.nil, by omega, by omega, by omega, Nat.le_refl _, belowThen hb1 hb3⟩
  have HT3 := Lib.hid hT3
  rw [hz2] at HT3
  have X0 := Lib.hid X0; have HB0 := Lib.hid hb0
  clear hT3 hb3 hb1 hb0 X1 hw1 HW2
  have NO : ∀ (W : World) (hi : Nat) (vc vg : Value) (rc rg : List Rf), SG w1 (w.heap.size + 1) w3.heap.size hi vc vg rc rg W → (∀ us vs, changeB us vs = true → s.data.toList ≠ chL us vs) → GetNPost s.data.toList w (.returned (.tuple #[.agg #[.slice none 0 0, .slice none 0 0], .bool false])) ((W.setCell ⟨w.heap.size, 0, none⟩ (.slice none 0 0)).setCell ⟨w.heap.size, 1, none⟩ (.slice none 0 0)) := by
    intro W hi vc vg rc rg hC hno
    have hb : Below w.heap.size w W := belowThen HB0.out hC.gr
    have hb2 := (hb.setCell (p := ⟨w.heap.size, 0, none⟩) (Nat.le_refl _) (.slice none 0 0)).setCell (p := ⟨w.heap.size, 1, none⟩) (Nat.le_refl _) (.slice none 0 0)
    exact ⟨none, 0, 0, [], none, 0, 0, [], false, rfl, (noRefs (lo := w.heap.size) (hi := _)).atoms, (noRefs (lo := w.heap.size) (hi := _)).atoms, hb2, (fun h => by cases h), fun _ => ⟨rfl, rfl, hno⟩⟩
  have HNO := Lib.hid NO; clear NO
  go_wp2_with fail
  go_loopw [6] (fun i wr => ∃ (k hi : Nat) (vc vg : Value) (rc rg : List Rf) (T : List Sg), k + 1 ≤ ws.length ∧ i = .int .i64 (k : Int) ∧ SG w1 (w.heap.size + 1) w3.heap.size hi vc vg rc rg wr ∧ SAt (ws.map (fun x => x.data.toList)) k T (rc.map rAt) (rg.map rAt) ∧ rc.length + rg.length ≤ k ∧ ∀ b, w.heap.size + 2 ≤ b → b < w3.heap.size → wr.heap[b]? = w3.heap[b]?) (fun i _ => ws.length - (intOf i).toNat)
  case atStart => exact ⟨0, _, _, _, [], [], [], by omega, rfl, HC3.out, SAt.start _, Nat.le_refl _, fun _ _ _ => rfl⟩
  case round =>
    obtain ⟨k, hi, vc, vg, rc, rg, T, hk, rfl, hC, hA, hln, hkeep⟩ := hrel
    clear HC3
    have HC := Lib.hid hC.raise; have HA := Lib.hid hA; have HK := Lib.hid hkeep
    have hT := HT3.out.keep TextE.stays (fun q h1 h2 => World.cell?_of_block (hkeep q.block h1 h2)) (Nat.le_refl _) (Nat.le_refl _)
    clear hC hA hkeep
    have hwk : IntKind.i64.wrap ((k : Int) + 1) = ((k + 1 : Nat) : Int) := by rw [IntKind.wrap_i64]; omega
    by_cases hlt : k + 1 < ws.length
    · have hltI : ((k + 1 : Nat) : Int) < (ws.length : Int) := by omega
      have hkI : (k : Int) < (ws.length : Int) := by omega
      obtain ⟨p, x, hA1, hlo, hhi, hg, hE⟩ := hT.at_ (show k < ws.length by omega)
      injection hA1 with hA1
      subst hA1
      have cE : wr.cell? (pp.add (k * 1)) = some (.string x) := hE
      have cE2 : wr.cell? (pp.add k) = some (.string x) := by rw [Nat.mul_one] at cE; exact cE
      have hxz : x.size ≤ 1048576 := HWZ.out x (List.mem_of_getElem? hg)
      have hgd : (ws.map (fun x => x.data.toList))[k]? = some x.data.toList := by rw [List.getElem?_map, hg]; rfl
      have hx32 : (32 : UInt8) ∉ x.data.toList := HFR.out _ (List.mem_of_getElem? hgd)
      have HGD := Lib.hid hgd; have HX32 := Lib.hid hx32
      clear hT hE hg hgd hx32
      have X6 := X0.out.below HC.out.gr
      have a0 : wr.cell? ⟨w.heap.size, 0, none⟩ = some (.slice none 0 0) := X6.cell 0
      have a1 : wr.cell? ⟨w.heap.size, 1, none⟩ = some (.slice none 0 0) := X6.cell 1
      have f0 := X6.frozen 0; have f1 := X6.frozen 1
      by_cases hx0 : x.size = 0
      · have hnone := HA.out.none HWD.out (by rw [List.length_map]; exact hlt) HGD.out HX32.out (fun y p e => by
          have h1 := congrArg List.length e
          have h2 : x.data.toList.length = x.size := by simp
          rw [h2] at h1; simp at h1; omega)
        have HNN := Lib.hid hnone
        clear hnone X6
        have hx0I : (x.size : Int) = 0 := by omega
        go_wp2
        exact bodyPost_ret (v := .tuple #[.agg #[.slice none 0 0, .slice none 0 0], .bool false]) (by simp [results, Tryz.results14, go_sem, a0, a1]) rfl (HNO.out wr _ _ _ _ _ HC.out HNN.out)
      · obtain ⟨y, q, hyq⟩ : ∃ y q, x.data.toList = y :: q := by
          cases h : x.data.toList with
          | nil =>
            have h2 : x.data.toList.length = x.size := by simp
            rw [h] at h2; simp at h2; omega
          | cons y q => exact ⟨y, q, rfl⟩
        have hxl : x.size = q.length + 1 := by
          have h2 : x.data.toList.length = x.size := by simp
          rw [hyq] at h2; simp at h2; omega
        have hx0I : ¬ (x.size : Int) = 0 := by omega
        have hx1I : (1 : Int) ≤ (x.size : Int) := by omega
        have hx2I : (0 : Int) < (x.size : Int) := by omega
        have HYQ := Lib.hid hyq
        clear hyq
        obtain ⟨T0, hT0⟩ : ∃ T0 : ByteArray, x.extract 1 (q.length + 1) = T0 := ⟨_, rfl⟩
        have hTd : T0.data.toList = q := by rw [← hT0, ByteArray.data_extract, Array.toList_extract, HYQ.out]; simp
        have hTs : T0.size ≤ 1048576 := by
          have h1 : T0.size = T0.data.toList.length := by simp
          rw [h1, hTd]; omega
        obtain ⟨hj0, hxe'⟩ := byte_there (s := x) (i := 0) (pre := []) (post := q) (b := y) (by simpa using HYQ.out) (Nat.zero_le _)
        have hpos : 0 < x.size := by omega
        have hxe : x[0]'hpos = y := hxe'
        clear hxe' hj0 X6
        go_wp2_with fail
        clear hT0
        refine (specAtomGet_any T0 wr hTs).mono ?_; rintro e w5 ⟨r, rfl, hH, hr, hb5⟩
        rw [hTd] at hr ⊢
        unfold rfVal
        have hbx := below1 w5 (.cells #[.string r.1, .slice r.2.1 r.2.2.1 r.2.2.2.1] 51)
        have hb6 := belowThen hb5 hbx
        have H6 : HeadApart (w5.alloc (.cells #[.string r.1, .slice r.2.1 r.2.2.1 r.2.2.2.1] 51)) wr.heap.size (w5.alloc (.cells #[.string r.1, .slice r.2.1 r.2.2.1 r.2.2.2.1] 51)).heap.size r := hH.keep (fun b _ h2 => hbx.block b h2) (Nat.le_refl _) hbx.size
        have B6 := Blk.new w5 51 #[.string r.1, .slice r.2.1 r.2.2.1 r.2.2.2.1]
        obtain ⟨W6, hW6⟩ : ∃ W6, w5.alloc (.cells #[.string r.1, .slice r.2.1 r.2.2.1 r.2.2.2.1] 51) = W6 := ⟨_, rfl⟩
        rw [hW6] at hb6 H6 B6
        have hz6 := hb6.size
        have hz61 := HC.out.h1
        have b0 : W6.cell? ⟨w5.heap.size, 0, none⟩ = some (.string r.1) := B6.cell 0
        have b1 : W6.cell? ⟨w5.heap.size, 1, none⟩ = some (.slice r.2.1 r.2.2.1 r.2.2.2.1) := B6.cell 1
        have cE6 : W6.cell? (pp.add (k * 1)) = some (.string x) := (hb6.cell (p := pp.add (k * 1)) (by rw [block_add]; omega)).trans cE
        have cE7 : W6.cell? (pp.add k) = some (.string x) := by rw [Nat.mul_one] at cE6; exact cE6
        have hC6 := HC.out.below hb6
        have X6 := X0.out.below hC6.gr
        have a0 : W6.cell? ⟨w.heap.size, 0, none⟩ = some (.slice none 0 0) := X6.cell 0
        have a1 : W6.cell? ⟨w.heap.size, 1, none⟩ = some (.slice none 0 0) := X6.cell 1
        have f0 := X6.frozen 0; have f1 := X6.frozen 1
        obtain ⟨A, c, B, d, ea, eb, _, _⟩ := hC6.tells
        have c0 : W6.cell? ⟨w.heap.size + 1, 0, none⟩ = some vc := hC6.C.cell 0
        have c1 : W6.cell? ⟨w.heap.size + 1, 1, none⟩ = some vg := hC6.C.cell 1
        have HCB := Lib.hid (hC6.C.alloc (.cells #[.string r.1, .slice r.2.1 r.2.2.1 r.2.2.2.1] 51))
        have HC6 := Lib.hid hC6; have H := Lib.hid H6; have HB6 := Lib.hid hb6; have HW := Lib.hid hW6
        clear hC6 H6 hb6 hW6 B6 X6 hbx hb5 hH HC
        cases hgb : getB q with
        | none =>
          have hnone := HA.out.none HWD.out (by rw [List.length_map]; exact hlt) HGD.out HX32.out (fun y' p e => by
            rw [HYQ.out] at e
            injection e with _ e
            rw [← e]; exact hgb)
          have HNN := Lib.hid hnone
          clear hnone hgb hr
          rw [show (none : Option At).isSome = false from rfl]
          have hwx := HW.out
          go_wp2
          exact bodyPost_ret (v := .tuple #[.agg #[.slice none 0 0, .slice none 0 0], .bool false]) (by simp [results, Tryz.results14, go_sem, a0, a1]) rfl (HNO.out W6 _ _ _ _ _ HC6.out HNN.out)
        | some a =>
          have hra : rAt r = a := by rw [hr, hgb]; rfl
          rw [show (some a : Option At).isSome = true from rfl]
          by_cases hy : y = 45
          · subst hy
            have hI : ((x[0]'hpos).toNat : Int) = 45 := by rw [hxe]; rfl
            have HS := Lib.hid (HA.out.goes (by rw [HGD.out, HYQ.out]) (by rw [hgb, ← hra]))
            clear hgb hr hra
            have hwx := HW.out
            subst eb
            have HRW := Lib.hid HC6.out.G
            go_wp2_with (at_builtin; refine wpList_append_lies _ rfl _ _ 23 rfl w3.heap.size 51 i0 _ 2 40 Tryz.underlying23 HI.out HZ.out HSZ.out HYY.out rfl (by decide) _ _ _ rfl (HRW.out.alloc _) ⟨W6.heap.size, 0, none⟩ 1 1 [.string r.1, .slice r.2.1 r.2.2.1 r.2.2.2.1] rfl rfl (two_new _ _ _ _) (by simp [Value.oneCell']) (by omega) (by unfold maxLen; omega) (by omega) (by simp; omega) (W6.heap.size + 1) (by simp) ?_; intro g' cap' w9 hown' hgrow' hat' _; have X9 := Blk.kept HCB.out hgrow' (CG.box_far (HRW.out.alloc _) HCB.out); have q2 := X9.cell 1; have q2' := X9.frozen 1; have hown := Lib.hid hown'; have hgrow := Lib.hid hgrow'; have hat := Lib.hid hat'; clear hown' hgrow' hat' X9)
            have hM := HC6.out.goes H.out hown.out hgrow.out hat.out
            have hfar : ∀ b, (Value.slice B rg.length d).ownBlock = some b → w3.heap.size ≤ b := fun b hb => (HC6.out.G.lt b hb).1
            go_roundw
            case rel => exact ⟨k + 1, _, _, _, _, _, _, by omega, by go_num, hM, by rw [List.map_append]; exact HS.out, by simp only [List.length_append, List.length_cons, List.length_nil]; omega, fun b h1 h2 => (Below.heap_setCell _ _ _ b (by show b ≠ w.heap.size + 1; omega)).trans ((hgrow.out.block b (by have := (below1 W6 (.cells #[.string r.1, .slice r.2.1 r.2.2.1 r.2.2.2.1] 51)).size; omega) (fun e => by have := hfar b e.symm; omega)).trans (((below1 W6 _).block b (by omega)).trans ((HB6.out.block b (by omega)).trans (HK.out b h1 h2))))⟩
            case measure => simp [intOf]; omega
          · have hI : ¬ ((x[0]'hpos).toNat : Int) = 45 := by
              rw [hxe]
              exact fun e => hy (UInt8.toNat_inj.1 (show y.toNat = (45 : UInt8).toNat by show y.toNat = 45; omega))
            have hI2 : ¬ (y.toNat : Int) = 45 := by rw [← hxe]; exact hI
            have HS := Lib.hid (HA.out.comes hy (by rw [HGD.out, HYQ.out]) (by rw [hgb, ← hra]))
            clear hgb hr hra
            have hwx := HW.out
            subst ea
            have HRW := Lib.hid HC6.out.K
            go_wp2_with (at_builtin; refine wpList_append_lies _ rfl _ _ 23 rfl w3.heap.size 51 i0 _ 2 40 Tryz.underlying23 HI.out HZ.out HSZ.out HYY.out rfl (by decide) _ _ _ rfl (HRW.out.alloc _) ⟨W6.heap.size, 0, none⟩ 1 1 [.string r.1, .slice r.2.1 r.2.2.1 r.2.2.2.1] rfl rfl (two_new _ _ _ _) (by simp [Value.oneCell']) (by omega) (by unfold maxLen; omega) (by omega) (by simp; omega) (W6.heap.size + 1) (by simp) ?_; intro g' cap' w9 hown' hgrow' hat' _; have X9 := Blk.kept HCB.out hgrow' (CG.box_far (HRW.out.alloc _) HCB.out); have q2 := X9.cell 0; have q2' := X9.frozen 0; have hown := Lib.hid hown'; have hgrow := Lib.hid hgrow'; have hat := Lib.hid hat'; clear hown' hgrow' hat' X9)
            have hM := HC6.out.comes H.out hown.out hgrow.out hat.out
            have hfar : ∀ b, (Value.slice A rc.length c).ownBlock = some b → w3.heap.size ≤ b := fun b hb => (HC6.out.K.lt b hb).1
            go_roundw
            case rel => exact ⟨k + 1, _, _, _, _, _, _, by omega, by go_num, hM, by rw [List.map_append]; exact HS.out, by simp only [List.length_append, List.length_cons, List.length_nil]; omega, fun b h1 h2 => (Below.heap_setCell _ _ _ b (by show b ≠ w.heap.size + 1; omega)).trans ((hgrow.out.block b (by have := (below1 W6 (.cells #[.string r.1, .slice r.2.1 r.2.2.1 r.2.2.2.1] 51)).size; omega) (fun e => by have := hfar b e.symm; omega)).trans (((below1 W6 _).block b (by omega)).trans ((HB6.out.block b (by omega)).trans (HK.out b h1 h2))))⟩
            case measure => simp [intOf]; omega
    · have hltI : ¬ ((k + 1 : Nat) : Int) < (ws.length : Int) := by omega
      obtain ⟨A, c, B, d, ea, eb, ia, ig⟩ := HC.out.tells
      subst ea; subst eb
      have c0 : wr.cell? ⟨w.heap.size + 1, 0, none⟩ = some (.slice A rc.length c) := HC.out.C.cell 0
      have c1 : wr.cell? ⟨w.heap.size + 1, 1, none⟩ = some (.slice B rg.length d) := HC.out.C.cell 1
      have IA := Lib.hid (ia.keep (w' := wr) (lo' := 0) (hi' := wr.heap.size) AtomE.stays (fun _ _ _ => rfl) (Nat.zero_le _) (Nat.le_refl _)); have IG := Lib.hid (ig.keep (w' := wr) (lo' := 0) (hi' := wr.heap.size) AtomE.stays (fun _ _ _ => rfl) (Nat.zero_le _) (Nat.le_refl _))
      have JA := Lib.hid ia; have JG := Lib.hid ig
      obtain ⟨hall, hbad⟩ := HA.out.all HWD.out (by rw [List.length_map]; omega) HFR.out
      clear ia ig hT
      go_wp2_with fail
      refine (specChangePut_any A rc.length c B rg.length d (rc.map rAt) (rg.map rAt) wr IA.out IG.out).mono ?_; rintro e w7 ⟨rfl, hb7⟩
      have HC7 := Lib.hid (HC.out.below hb7)
      have X7 := X0.out.below HC7.out.gr
      have a0 : w7.cell? ⟨w.heap.size, 0, none⟩ = some (.slice none 0 0) := X7.cell 0
      have a1 : w7.cell? ⟨w.heap.size, 1, none⟩ = some (.slice none 0 0) := X7.cell 1
      have f0 := X7.frozen 0; have f1 := X7.frozen 1
      have d0 : w7.cell? ⟨w.heap.size + 1, 0, none⟩ = some (.slice A rc.length c) := HC7.out.C.cell 0
      have d1 : w7.cell? ⟨w.heap.size + 1, 1, none⟩ = some (.slice B rg.length d) := HC7.out.C.cell 1
      have IA7 := Lib.hid (JA.out.keep (w' := w7) (lo' := w3.heap.size) (hi' := w7.heap.size) AtomE.stays (fun q _ h2 => hb7.cell (p := q) h2) (Nat.le_refl _) hb7.size); have IG7 := Lib.hid (JG.out.keep (w' := w7) (lo' := w3.heap.size) (hi' := w7.heap.size) AtomE.stays (fun q _ h2 => hb7.cell (p := q) h2) (Nat.le_refl _) hb7.size)
      clear hb7 X7 c0 c1 HC IA IG
      by_cases hput : chB (rc.map rAt) (rg.map rAt) = s.data.toList
      · obtain ⟨h1, h2⟩ := hall hput
        have hpb : (chB (rc.map rAt) (rg.map rAt) == s.toList) = true := by rw [toList_data, hput]; exact beq_self_eq_true _
        clear hput hall hbad
        have HB7 := Lib.hid (belowThen HB0.out HC7.out.gr)
        go_wp2
        refine bodyPost_ret (v := .tuple #[.agg #[.slice A rc.length c, .slice B rg.length d], .bool true]) (by simp [results, Tryz.results14, go_sem, a0, a1]) rfl ⟨A, c, _, rc.map rAt, B, d, _, rg.map rAt, true, rfl, ?_, ?_, (HB7.out.setCell (Nat.le_refl _) _).setCell (Nat.le_refl _) _, fun _ => ⟨h1, h2⟩, (fun h => by cases h)⟩
        · exact IA7.out.keep AtomE.stays (fun q h1 _ => World.cell?_of_block ((Below.heap_setCell _ _ _ _ (by show q.block ≠ w.heap.size; omega)).trans (Below.heap_setCell _ _ _ _ (by show q.block ≠ w.heap.size; omega)))) (by omega) (by simp only [size_setCell]; exact Nat.le_refl _)
        · exact IG7.out.keep AtomE.stays (fun q h1 _ => World.cell?_of_block ((Below.heap_setCell _ _ _ _ (by show q.block ≠ w.heap.size; omega)).trans (Below.heap_setCell _ _ _ _ (by show q.block ≠ w.heap.size; omega)))) (by omega) (by simp only [size_setCell]; exact Nat.le_refl _)
      · have HNN := Lib.hid (hbad hput)
        have hpb : (chB (rc.map rAt) (rg.map rAt) == s.toList) = false := by rw [toList_data, beq_eq_false_iff_ne]; exact hput
        clear hput hall hbad
        go_wp2
        exact bodyPost_ret (v := .tuple #[.agg #[.slice none 0 0, .slice none 0 0], .bool false]) (by simp [results, Tryz.results14, go_sem, a0, a1]) rfl (HNO.out w7 _ _ _ _ _ HC7.out HNN.out)

theorem specChangeGet_any (s : ByteArray) (w : World) (hs : s.size ≤ 1048576) :
    Calls Tryz.prog 14 #[.string s] w (GetDPost s.data.toList w) := (specChangeGet_new s w hs).mono fun _ _ => GetNPost.weak

end Go.Proofs.YtogonjkklioaaaaGreatDoor
