/-
  LogPut: what it tells, in the model and in the program.
-/
import Derived.Test.YtmaaogoeapfepaaDoorChangePut
import Derived.Test.YtmaaogoeapfepaaDoorLogLine
import Derived.Test.YtmaaogoeapfepaaDoorShelf4
namespace Go.Proofs.YtmaaogoeapfepaaDoor
open Go.RowKit

/-- What LogPut tells. -/
def logB (t : Int) (xs ys : List At) : List UInt8 := if changeB xs ys = true ∧ 0 ≤ t ∧ t ≤ 100000 then lineL t.toNat (chL xs ys) else []

theorem ch_small {xs ys : List At} (h : changeB xs ys = true) : (chL xs ys).length ≤ 80000 := by
  obtain ⟨h1, h2, h3, h4⟩ := change_put h
  have e1 := signL_len 45 ys (fun a ha => put_small (h4 a ha))
  have e2 := signL_len 43 xs (fun a ha => put_small (h3 a ha))
  unfold chL
  rw [List.length_append]
  omega

set_option maxHeartbeats 4000000 in
theorem specLogPut_any (t : Int) (A : Option Addr) (n c : Nat) (B : Option Addr) (m d : Nat) (xs ys : List At) (w : World) (h : IsAtoms w 0 w.heap.size A n c xs) (h' : IsAtoms w 0 w.heap.size B m d ys) :
    Calls Tryd.prog 12 #[.int .i64 t, .agg #[.slice A n c, .slice B m d]] w (StrPost (logB t xs ys) w) := by
  have LX := Lib.hid h.1; have LY := Lib.hid h'.1
  have HX := Lib.hid h; have HY := Lib.hid h'
  clear h h'
  have hb0 := below1 w (.cells #[.slice A n c, .slice B m d] 29)
  have X0 := Lib.hid (Box.new w (.slice A n c) (.slice B m d) 29)
  go_enter Tryd.func12, Tryd.ntmps12
  go_wp2_with fail
  refine (specChangeOk_any A B n c m d xs ys _ (HX.out.up AtomE.stays hb0) (HY.out.up AtomE.stays hb0)).mono ?_; rintro e w1 ⟨rfl, hb1⟩
  have HB1 := belowThen hb0 hb1
  have X1 := Lib.hid (X0.out.later hb1)
  obtain ⟨u0, u1, u2⟩ := X1.out
  clear hb1 X0
  cases hc : changeB xs ys
  · have E := Lib.hid (show logB t xs ys = [] by unfold logB; rw [if_neg (by rw [hc]; simp)])
    clear hc
    go_wp2
    go_ret; exact ⟨by rw [E.out]; rfl, HB1⟩
  · have HCH := Lib.hid hc
    have HC := Lib.hid (change_put hc)
    have HS := Lib.hid (ch_small hc)
    clear hc
    go_wp2_with fail
    refine (in_any t 0 100000 _).mono ?_; rintro e w2 ⟨rfl, rfl⟩
    by_cases hr : 0 ≤ t ∧ t ≤ 100000
    · obtain ⟨hr0, hr1⟩ := hr
      have E := Lib.hid (show logB t xs ys = lineL t.toNat (chL xs ys) from if_pos ⟨HCH.out, hr0, hr1⟩)
      obtain ⟨k, hk⟩ : ∃ k : Nat, t = (k : Int) := ⟨t.toNat, by omega⟩
      subst hk
      have e1 : (decide ((0 : Int) ≤ (k : Int)) && decide ((k : Int) ≤ 100000)) = true := by simp [hr1]
      go_wp2_with fail
      refine (l8Put_any A n c B m d xs ys _ (HX.out.up AtomE.stays HB1) (HY.out.up AtomE.stays HB1) (by rw [← LX.out]; exact HC.out.1) (by rw [← LY.out]; exact HC.out.2.1) (fun a ha => put_small (HC.out.2.2.1 a ha)) (fun a ha => put_small (HC.out.2.2.2 a ha))).mono ?_; rintro e w3 ⟨rfl, hb3⟩
      have hz : (⟨(chL xs ys).toArray⟩ : ByteArray).size ≤ 1000000 := by show (chL xs ys).toArray.size ≤ _; have := HS.out; simp; omega
      have HB3 := belowThen HB1 hb3
      clear hb3
      go_wp2_with fail
      refine (l8Line_any k (by omega) _ hz _).mono ?_; rintro e w4 ⟨rfl, hb4⟩
      go_wp2
      go_ret; exact ⟨by rw [E.out]; rfl, belowThen HB3 hb4⟩
    · have E := Lib.hid (show logB t xs ys = [] from if_neg (fun e => hr e.2))
      have e1 : (decide ((0 : Int) ≤ t) && decide (t ≤ 100000)) = false := by
        rw [Bool.and_eq_false_iff]
        by_cases h0 : 0 ≤ t
        · exact .inr (decide_eq_false (fun e => hr ⟨h0, e⟩))
        · exact .inl (decide_eq_false h0)
      go_wp2
      go_ret; exact ⟨by rw [E.out]; rfl, HB1⟩

theorem below_grow (w : World) (j : Nat) (os : Array Obj) : Below w.heap.size w (Go.Sort.grow (w.drewN j) os) :=
  ⟨rfl, rfl, rfl, by show w.heap.size ≤ (w.heap ++ os).size; rw [Array.size_append]; omega, fun k hk => by show (w.heap ++ os)[k]? = _; rw [Array.getElem?_append_left hk]⟩

theorem tab_later {P : Program} {w w' : World} {nm : String} {k : IntKind} {zs : List Int} (h : Lib.TabIs P w nm k zs) (hb : Below w.heap.size w w') : Lib.TabIs P w' nm k zs := by
  unfold Lib.TabIs World.var? at h ⊢
  cases hg : P.globalNamed nm with
  | none => simp [hg] at h
  | some g =>
    simp only [hg, Option.bind_some] at h ⊢
    have hlt : g < w.heap.size := by
      rcases Nat.lt_or_ge g w.heap.size with h' | h'
      · exact h'
      · simp [Array.getElem?_eq_none h'] at h
    rw [hb.block g hlt]
    exact h

abbrev PowTab (w : World) : Prop := Lib.TabIs Tryd.prog w "internal/strconv.uint64pow10" .u64 Lib.pow10Tab

theorem itoa_any (q : Nat) (hq : q ≤ 1000000000000) (w : World) (hT : PowTab w) :
    Calls Tryd.prog 61 #[.int .i64 (q : Int)] w fun e w' => e = .returned (.string ⟨(Lib.decDigits q).toArray⟩) ∧ Below w.heap.size w w' := by
  refine (Tryd.strconv_Itoa (q : Int) (by omega) (by omega) w hT).mono ?_
  rintro e w' ⟨rfl, j, os, rfl⟩
  exact ⟨by rw [Lib.itoa_nonneg], below_grow w j os⟩

set_option maxHeartbeats 4000000 in
theorem implLogPut_any (t : Int) (A : Option Addr) (n c : Nat) (B : Option Addr) (m d : Nat) (xs ys : List At) (w : World) (h : IsAtoms w 0 w.heap.size A n c xs) (h' : IsAtoms w 0 w.heap.size B m d ys) (hT : PowTab w) :
    Calls Tryd.prog 14 #[.int .i64 t, .agg #[.slice A n c, .slice B m d]] w (StrPost (logB t xs ys) w) := by
  have HT := Lib.hid hT; clear hT
  have HX := Lib.hid h; have HY := Lib.hid h'
  clear h h'
  have hb0 := below1 w (.cells #[.slice A n c, .slice B m d] 29)
  have X0 := Lib.hid (Box.new w (.slice A n c) (.slice B m d) 29)
  go_enter Tryd.func14, Tryd.ntmps14
  by_cases hr : 0 ≤ t ∧ t ≤ 100000
  · obtain ⟨hr0, hr1⟩ := hr
    obtain ⟨k, hk⟩ : ∃ k : Nat, t = (k : Int) := ⟨t.toNat, by omega⟩
    subst hk
    have hn0 : ¬ (k : Int) < 0 := by omega
    have hn1 : ¬ (100000 : Int) < (k : Int) := by omega
    obtain ⟨u0, u1, u2⟩ := X0.out
    go_wp2_with fail
    refine (implChangeOk_any A B n c m d xs ys _ (HX.out.up AtomE.stays hb0) (HY.out.up AtomE.stays hb0)).mono ?_; rintro e w1 ⟨rfl, hb1⟩
    have HB1 := belowThen hb0 hb1
    have X1 := Lib.hid (X0.out.later hb1)
    clear hb1 X0 u0 u1 u2
    obtain ⟨u0, u1, u2⟩ := X1.out
    cases hc : changeB xs ys
    · have E := Lib.hid (show logB (k : Int) xs ys = [] by unfold logB; rw [if_neg (by rw [hc]; simp)])
      clear hc
      go_wp2
      go_ret; exact ⟨by rw [E.out]; rfl, HB1⟩
    · have E := Lib.hid (show logB (k : Int) xs ys = lineL k (chL xs ys) from if_pos ⟨hc, hr0, hr1⟩)
      have EC := Lib.hid (show chB xs ys = chL xs ys by unfold chB; rw [hc]; rfl)
      have HS := Lib.hid (ch_small hc)
      have hl := dec_len k (by omega)
      clear hc
      go_wp2_with fail
      have hl9 : (Lib.decDigits k).length ≤ 9223372036854775806 := by omega
      obtain ⟨V, hV⟩ : ∃ V, w1.drew = V := ⟨_, rfl⟩
      have hBV : Below w1.heap.size w1 V := by rw [← hV]; exact (Below.refl _ _).drew
      have HBV := Lib.hid (belowThen HB1 hBV)
      obtain ⟨x0, x1, x2⟩ := X1.out.later hBV
      clear hBV u0 u1 u2 X1
      refine wp_region_held_drew (S := fun W => W.cell? ⟨w.heap.size, 0, none⟩ = some (.slice A n c) ∧ W.cell? ⟨w.heap.size, 1, none⟩ = some (.slice B m d)) (by kernel_rfl) (by rw [hV]; exact ⟨x1, x2⟩) ?_
      rw [hV]
      clear hV
      intro hS_
      refine takeV (i := 0) (v := .int .i64 (k : Int)) (by (simp only [List.getElem?_toArray, List.getElem?_cons_zero]); rfl) (by kernel_rfl) (by kernel_rfl) (by kernel_rfl) (by rfl) (fun _ _ _ h => h) (Or.inl ⟨by rfl, ?_⟩) hS_ (by (simp only [List.setIfInBounds_toArray, List.set_cons_succ, List.set_cons_zero]); rfl) ?_
      · intro w_ hSw_; (try dsimp only at hSw_); go_simp
      refine takeV (i := 3) (v := .agg #[.slice A n c, .slice B m d]) (by (simp only [List.getElem?_toArray, List.getElem?_cons_succ, List.getElem?_cons_zero]); rfl) (by kernel_rfl) (by kernel_rfl) (by kernel_rfl) (by rfl) (fun _ _ _ h => h) (Or.inl ⟨by rfl, ?_⟩) hS_ (by (simp only [List.setIfInBounds_toArray, List.set_cons_succ, List.set_cons_zero]); rfl) ?_
      · intro w_ hSw_; (try dsimp only at hSw_); go_simp
      refine wpAnyH_ready (rs := [1]) (by kernel_rfl) (by simp) ?_
      refine AllReadyH.cons (o := _) (by (simp only [List.getElem?_toArray, List.getElem?_cons_succ, List.getElem?_cons_zero]); rfl) (fun K_ hK_ => ?_) AllReadyH.nil
      rw [if_pos (by rfl)]
      go_simp
      go_at_call 61
      refine (itoa_any k (by omega) _ (tab_later HT.out HBV.out)).mono ?_; rintro e_ w2 ⟨rfl, hb2⟩
      have HB2 := Lib.hid (belowThen HBV.out hb2)
      have z1 := (hb2.cell (p := ⟨w.heap.size, 0, none⟩) x0).trans x1; have z2 := (hb2.cell (p := ⟨w.heap.size, 1, none⟩) x0).trans x2
      have z0 : w.heap.size < w2.heap.size := Nat.lt_of_lt_of_le x0 hb2.size
      clear hb2 x1 x2
      refine hK_.out _ _ ⟨z1, z2⟩ (fun hS2_ => ?_)
      clear hK_ hS_; have hS_ := hS2_; clear hS2_
      (try simp only [Act.put, List.setIfInBounds_toArray, List.set_cons_zero, List.set_cons_succ])
      have hz1 : (⟨(Lib.decDigits k).toArray⟩ : ByteArray).size ≤ 21 := by show (Lib.decDigits k).toArray.size ≤ _; simpa using hl
      refine takeV (i := 2) (v := .string (⟨(Lib.decDigits k).toArray⟩ ++ ⟨#[58]⟩)) (by (simp only [List.getElem?_toArray, List.getElem?_cons_succ, List.getElem?_cons_zero]); rfl) (by kernel_rfl) (by kernel_rfl) (by kernel_rfl) (by rfl) (fun _ _ _ h => h) (Or.inl ⟨by rfl, ?_⟩) hS_ (by (simp only [List.setIfInBounds_toArray, List.set_cons_succ, List.set_cons_zero]); rfl) ?_
      · intro w_ hSw_; (try dsimp only at hSw_); go_simp
      refine wpAnyH_ready (rs := [4]) (by kernel_rfl) (by simp) ?_
      refine AllReadyH.cons (o := _) (by (simp only [List.getElem?_toArray, List.getElem?_cons_succ, List.getElem?_cons_zero]); rfl) (fun K_ hK_ => ?_) AllReadyH.nil
      rw [if_pos (by rfl)]
      go_simp
      go_at_call 62
      refine (implChangePut_any A n c B m d xs ys _ (HX.out.up AtomE.stays HB2.out) (HY.out.up AtomE.stays HB2.out)).mono ?_; rintro e_ w3 ⟨rfl, hb3⟩
      rw [EC.out]
      have HB3 := Lib.hid (belowThen HB2.out hb3)
      have y1 := (hb3.cell (p := ⟨w.heap.size, 0, none⟩) z0).trans z1; have y2 := (hb3.cell (p := ⟨w.heap.size, 1, none⟩) z0).trans z2
      clear hb3
      refine hK_.out _ _ ⟨y1, y2⟩ (fun hS2_ => ?_)
      clear hK_ hS_; have hS_ := hS2_; clear hS2_
      (try simp only [Act.put, List.setIfInBounds_toArray, List.set_cons_zero, List.set_cons_succ])
      have hz2 : (⟨(chL xs ys).toArray⟩ : ByteArray).size ≤ 80000 := by show (chL xs ys).toArray.size ≤ _; simpa using HS.out
      obtain ⟨u, hu⟩ : ∃ u : ByteArray, (⟨(headL k (chL xs ys)).toArray⟩ : ByteArray) = u := ⟨_, rfl⟩
      have hue : (⟨(Lib.decDigits k).toArray⟩ ++ ⟨#[58]⟩ ++ ⟨(chL xs ys).toArray⟩ : ByteArray) = u := by rw [head_text, ← hu]
      have hud : u.data.toList = headL k (chL xs ys) := by rw [← hu]
      have huz : u.size ≤ 80022 := by
        show u.data.toList.length ≤ _
        rw [hud]; unfold headL
        simp only [List.length_append, List.length_cons, List.length_nil]
        have := HS.out; omega
      have hsum : (Lib.decDigits k).length + 1 + (chL xs ys).length ≤ 9223372036854775807 := by have := HS.out; omega
      have HU := Lib.hid hu; have HUD := Lib.hid hud
      clear hu hud
      refine takeV (i := 5) (v := .string u) (by (simp only [List.getElem?_toArray, List.getElem?_cons_succ, List.getElem?_cons_zero]); rfl) (by kernel_rfl) (by kernel_rfl) (by kernel_rfl) (by rfl) (fun _ _ _ h => h) (Or.inl ⟨by rfl, ?_⟩) hS_ (by (simp only [List.setIfInBounds_toArray, List.set_cons_succ, List.set_cons_zero]); rfl) ?_
      · intro w_ hSw_; (try dsimp only at hSw_); go_simp
      refine takeV (i := 6) (v := .string u) (by (simp only [List.getElem?_toArray, List.getElem?_cons_succ, List.getElem?_cons_zero]); rfl) (by kernel_rfl) (by kernel_rfl) (by kernel_rfl) (by rfl) (fun _ _ _ h => h) (Or.inl ⟨by rfl, ?_⟩) hS_ (by (simp only [List.setIfInBounds_toArray, List.set_cons_succ, List.set_cons_zero]); rfl) ?_
      · intro w_ hSw_; (try dsimp only at hSw_); go_simp
      refine wpAnyH_done (by kernel_rfl) ?_ _
      clear hS_ y1 y2 z0 z1 z2 x0 hz1 hz2 hue hsum
      go_wp2_with fail
      refine (implSum_any u _ (by unfold maxLen; omega)).mono ?_; rintro e_ w5 ⟨rfl, rfl⟩
      have hs3 := sumB_lt u.data.toList
      have hl3 := dec_len (sumB u.data.toList) (by omega)
      obtain ⟨z, hz⟩ : ∃ z, sumB u.data.toList = z := ⟨_, rfl⟩
      rw [hz] at hs3 hl3 ⊢
      have HZ := Lib.hid hz; clear hz
      go_wp2_with fail
      refine (itoa_any z (by omega) _ (tab_later HT.out HB3.out)).mono ?_; rintro e_ w6 ⟨rfl, hb6⟩
      have HB6 := Lib.hid (belowThen HB3.out hb6)
      clear hb6
      have hz3 : (⟨(Lib.decDigits z).toArray⟩ : ByteArray).size ≤ 21 := by show (Lib.decDigits z).toArray.size ≤ _; simpa using hl3
      go_wp2
      go_ret
      refine ⟨?_, HB6.out⟩
      rw [E.out, ← HU.out, line_text]
      unfold lineL
      rw [← HUD.out, HZ.out]
      rfl
  · have E := Lib.hid (show logB t xs ys = [] from if_neg (fun e => hr e.2))
    by_cases h0 : 0 ≤ t
    · have hn0 : ¬ t < 0 := by omega
      have hn1 : (100000 : Int) < t := Int.lt_of_not_ge (fun e => hr ⟨h0, e⟩)
      go_wp2
      go_ret; exact ⟨by rw [E.out]; rfl, hb0⟩
    · have hn0 : t < 0 := by omega
      go_wp2
      go_ret; exact ⟨by rw [E.out]; rfl, hb0⟩

end Go.Proofs.YtmaaogoeapfepaaDoor
