/-
  Texts of one claim, put together.
-/
import Derived.Test.YtogonjkklioaaaaGreatDoorCt27
import Derived.Test.YtogonjkklioaaaaGreatDoorCt26
import Derived.Test.YtogonjkklioaaaaGreatDoorCt20
import Derived.Test.YtogonjkklioaaaaGreatDoorCt23
import Derived.Test.YtogonjkklioaaaaGreatDoorCt25
import Derived.Test.YtogonjkklioaaaaGreatDoorCards
import Derived.JoinedOf
import Derived.KernelRfl
import Derived.SevenTiedAt
import Derived.Lay
import Derived.LaidSub
import Derived.MakeChecks
import Derived.HandedShaped
import Derived.Shelf.Vars
import Derived.Lib.LaidTab
import Derived.LaidMore
import Derived.Test.YtogonjkklioaaaaGreatDoorCt0
import Derived.Lib.SmallJoins
import Derived.Below
import Derived.Test.YtogonjkklioaaaaGreatDoorCt7
namespace Go.Proofs.YtogonjkklioaaaaGreatDoor
open Go.RowKit

theorem Blk.within {W W' : World} {b lo hi : Nat} {t : TypeId} {cs : Array Value} (h : Blk W b t cs) (hw : Within lo hi W W') (ho : b < lo ∨ hi ≤ b) : Blk W' b t cs := (hw.block b h.lt ho).trans h
theorem OwnTerms.within {W W' : World} {g n lo hi : Nat} {ts : List Tm} (h : OwnTerms W g n ts) (hw : Within lo hi W W') (ho : g < lo ∨ hi ≤ g) : OwnTerms W' g n ts := ⟨h.1, h.2.1, h.2.2.of_block (hw.block g h.2.2.lt ho)⟩

theorem markN_tiny {n c lo hi : Nat} {w : World} {A : Option Addr} {rs : List Rf} {xs : List At} (h : IsRefs w lo hi A n c rs) (hx : rs.map rAt = xs) (hs : SmallAtoms n xs) : markN 1 rs ≤ 2 ^ 42 := by
  have h1 := markN_le 1048576 1 rs (fun r hr => by
    have h2 := hs.2 (rAt r) (by rw [← hx]; exact List.mem_map_of_mem hr)
    have h3 := ((RefsIn.of h) r hr).2.1
    show r.2.2.1 ≤ _
    rw [← h3]; exact h2)
  have h4 := h.1
  have h5 := hs.1
  have h6 : rs.length * (1 + 2 * 1048576) ≤ 1048576 * (1 + 2 * 1048576) := Nat.mul_le_mul_right _ (by omega)
  omega


end Go.Proofs.YtogonjkklioaaaaGreatDoor

namespace Go.Proofs.YtogonjkklioaaaaGreatDoor
open Go.RowKit

theorem markN_more {n c lo hi k : Nat} {w : World} {A : Option Addr} {rs : List Rf} {xs : List At} (h : IsRefs w lo hi A n c rs) (hx : rs.map rAt = xs) (hs : SmallAtoms n xs) : markN k rs ≤ k + 2 ^ 42 := by
  have h1 := markN_le 1048576 k rs (fun r hr => by
    have h2 := hs.2 (rAt r) (by rw [← hx]; exact List.mem_map_of_mem hr)
    have h3 := ((RefsIn.of h) r hr).2.1
    show r.2.2.1 ≤ _
    rw [← h3]; exact h2)
  have h4 := h.1
  have h5 := hs.1
  have h6 : rs.length * (1 + 2 * 1048576) ≤ 1048576 * (1 + 2 * 1048576) := Nat.mul_le_mul_right _ (by omega)
  omega



/-- A change of the lists P and Q in memory of its own, its two lists apart, handed back. -/
def OwnPPost (P Q : List At) (w : World) (e : Ending) (w' : World) : Prop := ∃ A c ra B d rb mid, e = .returned (.agg #[.slice A P.length c, .slice B Q.length d]) ∧ (OwnRefs w' w.heap.size mid A P.length c ra ∧ ra.map rAt = P) ∧ (OwnRefs w' mid w'.heap.size B Q.length d rb ∧ rb.map rAt = Q) ∧ (w.heap.size ≤ mid ∧ mid ≤ w'.heap.size) ∧ Below w.heap.size w w'

end Go.Proofs.YtogonjkklioaaaaGreatDoor

namespace Go.Proofs.YtogonjkklioaaaaGreatDoor
open Go.RowKit


theorem few_change {xs ys : List At} (h : changeB xs ys = true) : SmallAtoms xs.length xs ∧ SmallAtoms ys.length ys := by
  obtain ⟨h1, h2, h3, h4⟩ := change_put h
  have key : ∀ a : At, atomB a = true → a.2.length ≤ 1048576 := fun a ha => by
    unfold atomB at ha
    simp only [Bool.and_eq_true, decide_eq_true_eq] at ha
    have := ha.2.2
    omega
  exact ⟨⟨by omega, fun q hq => key q (h3 q hq)⟩, ⟨by omega, fun q hq => key q (h4 q hq)⟩⟩

/-- Two readings of one text tell the same. -/
theorem same_change {l : List UInt8} {xs ys us vs : List At} {p q : Bool} (hp : p = true → changeB xs ys = true ∧ l = chL xs ys) (hp2 : p = false → xs = [] ∧ ys = [] ∧ ∀ us vs, changeB us vs = true → l ≠ chL us vs)
    (hq : q = true → changeB us vs = true ∧ l = chL us vs) (hq2 : q = false → us = [] ∧ vs = [] ∧ ∀ us vs, changeB us vs = true → l ≠ chL us vs) : q = p ∧ us = xs ∧ vs = ys := by
  cases p <;> cases q
  · obtain ⟨h1, h2, _⟩ := hp2 rfl
    obtain ⟨h3, h4, _⟩ := hq2 rfl
    exact ⟨rfl, h3.trans h1.symm, h4.trans h2.symm⟩
  · obtain ⟨_, _, h1⟩ := hp2 rfl
    obtain ⟨h2, h3⟩ := hq rfl
    exact absurd h3 (h1 _ _ h2)
  · obtain ⟨_, _, h1⟩ := hq2 rfl
    obtain ⟨h2, h3⟩ := hp rfl
    exact absurd h3 (h1 _ _ h2)
  · obtain ⟨h1, h2⟩ := hp rfl
    obtain ⟨h3, h4⟩ := hq rfl
    obtain ⟨h5, h6⟩ := chL_inj h3 h1 (h4.symm.trans h2)
    exact ⟨rfl, h5, h6⟩

theorem few_told {l : List UInt8} {xs ys : List At} {p : Bool} (hp : p = true → changeB xs ys = true ∧ l = chL xs ys) (hp2 : p = false → xs = [] ∧ ys = [] ∧ ∀ us vs, changeB us vs = true → l ≠ chL us vs) : SmallAtoms xs.length xs ∧ SmallAtoms ys.length ys := by
  cases p
  · obtain ⟨rfl, rfl, _⟩ := hp2 rfl
    exact ⟨⟨Nat.zero_le _, fun q hq => by simp at hq⟩, ⟨Nat.zero_le _, fun q hq => by simp at hq⟩⟩
  · exact few_change (hp rfl).1

/-- What a law holds of two answers: the model's, and the program's in memory of its own. -/
structure CLaw (w : World) (a m d : Nat) (A3 B3 : Option Addr) (n3 c3 m3 d3 : Nat) (xs ys : List At) (A5 B5 : Option Addr) (n5 c5 m5 d5 : Nat) (ra rb : List Rf) (W : World) : Prop where
  hb : Below w.heap.size w W
  h1 : w.heap.size ≤ a
  h2 : a + 1 ≤ m
  h3 : m ≤ d
  h4 : d + 1 ≤ W.heap.size
  I : IsAtoms W 0 a A3 n3 c3 xs
  J : IsAtoms W 0 a B3 m3 d3 ys
  X3 : Blk W a 25 #[.slice A3 n3 c3, .slice B3 m3 d3]
  O : OwnRefs W m d A5 n5 c5 ra
  G : OwnRefs W (a + 1) m B5 m5 d5 rb
  X5 : Blk W d 25 #[.slice A5 n5 c5, .slice B5 m5 d5]

section
variable {w : World} {a m d : Nat} {A3 B3 : Option Addr} {n3 c3 m3 d3 : Nat} {xs ys : List At} {A5 B5 : Option Addr} {n5 c5 m5 d5 : Nat} {ra rb : List Rf} {W W' : World}

theorem CLaw.below (h : CLaw w a m d A3 B3 n3 c3 m3 d3 xs ys A5 B5 n5 c5 m5 d5 ra rb W) (hw : Below W.heap.size W W') : CLaw w a m d A3 B3 n3 c3 m3 d3 xs ys A5 B5 n5 c5 m5 d5 ra rb W' := by
  have h1 := h.h1; have h2 := h.h2; have h3 := h.h3; have h4 := h.h4
  exact ⟨belowThen h.hb hw, h1, h2, h3, Nat.le_trans h4 hw.size, h.I.keep AtomE.stays (fun q _ hx => hw.cell (p := q) (by omega)) (Nat.le_refl _) (Nat.le_refl _), h.J.keep AtomE.stays (fun q _ hx => hw.cell (p := q) (by omega)) (Nat.le_refl _) (Nat.le_refl _), h.X3.below hw,
    h.O.keep (fun b _ hx => hw.block b (by omega)) (Nat.le_refl _) (Nat.le_refl _), h.G.keep (fun b _ hx => hw.block b (by omega)) (Nat.le_refl _) (Nat.le_refl _), h.X5.below hw⟩

theorem CLaw.marked {ra' rb' : List Rf} (h : CLaw w a m d A3 B3 n3 c3 m3 d3 xs ys A5 B5 n5 c5 m5 d5 ra rb W) (hw : Within (a + 1) d W W') (hO : OwnRefs W' m d A5 n5 c5 ra') (hG : OwnRefs W' (a + 1) m B5 m5 d5 rb') : CLaw w a m d A3 B3 n3 c3 m3 d3 xs ys A5 B5 n5 c5 m5 d5 ra' rb' W' := by
  have h1 := h.h1; have h2 := h.h2; have h3 := h.h3; have h4 := h.h4
  have hl : Below (a + 1) W W' := hw.low (Nat.le_refl _) (by omega)
  exact ⟨h.hb.trans (hl.mono (by omega)), h1, h2, h3, Nat.le_trans h4 hw.size, h.I.keep AtomE.stays (fun q _ hx => World.cell?_of_block (hl.block q.block (by omega))) (Nat.le_refl _) (Nat.le_refl _), h.J.keep AtomE.stays (fun q _ hx => World.cell?_of_block (hl.block q.block (by omega))) (Nat.le_refl _) (Nat.le_refl _), (hl.block a (by omega)).trans h.X3,
    hO, hG, (hw.block d (by omega) (.inr (Nat.le_refl _))).trans h.X5⟩

theorem CLaw.model (h : CLaw w a m d A3 B3 n3 c3 m3 d3 xs ys A5 B5 n5 c5 m5 d5 ra rb W) : IsAtoms W 0 W.heap.size A3 n3 c3 xs ∧ IsAtoms W 0 W.heap.size B3 m3 d3 ys := by
  have h1 := h.h1; have h2 := h.h2; have h3 := h.h3; have h4 := h.h4
  exact ⟨h.I.keep AtomE.stays (fun _ _ _ => rfl) (Nat.le_refl _) (by omega), h.J.keep AtomE.stays (fun _ _ _ => rfl) (Nat.le_refl _) (by omega)⟩

theorem CLaw.answer (h : CLaw w a m d A3 B3 n3 c3 m3 d3 xs ys A5 B5 n5 c5 m5 d5 ra rb W) : IsRefs W 0 W.heap.size A5 n5 c5 ra ∧ IsRefs W 0 W.heap.size B5 m5 d5 rb := by
  have h1 := h.h1; have h2 := h.h2; have h3 := h.h3; have h4 := h.h4
  exact ⟨h.O.refs.keep RefE.stays (fun _ _ _ => rfl) (Nat.zero_le _) (by omega), h.G.refs.keep RefE.stays (fun _ _ _ => rfl) (Nat.zero_le _) (by omega)⟩
end


end Go.Proofs.YtogonjkklioaaaaGreatDoor

namespace Go.Proofs.YtogonjkklioaaaaGreatDoor
open Go.RowKit

theorem chB_short (xs ys : List At) : (chB xs ys).length ≤ 80000 := by
  unfold chB
  split
  · rename_i h
    obtain ⟨h1, h2, h3, h4⟩ := change_put h
    have e1 := signL_len 45 ys (fun a ha => put_small (h4 a ha))
    have e2 := signL_len 43 xs (fun a ha => put_small (h3 a ha))
    unfold chL
    rw [List.length_append]
    omega
  · simp

/-- What is read of the text that a change is told as. -/
theorem told_change {cs gs xs ys : List At} {ok : Bool} (hy : ok = true → changeB xs ys = true ∧ chB cs gs = chL xs ys) (hn : ok = false → ∀ us vs, changeB us vs = true → chB cs gs ≠ chL us vs) : ok = true ∧ (changeB cs gs = true → xs = cs ∧ ys = gs) := by
  cases hc : changeB cs gs
  · have e : chB cs gs = [] := by unfold chB; rw [hc]; rfl
    cases ok
    · exact absurd (by rw [e]; rfl) (hn rfl [] [] (by decide))
    · exact ⟨rfl, fun h => by cases h⟩
  · have e : chB cs gs = chL cs gs := by unfold chB; rw [if_pos hc]
    cases ok
    · exact absurd e (hn rfl cs gs hc)
    · obtain ⟨h1, h2⟩ := hy rfl
      exact ⟨rfl, fun _ => chL_inj h1 hc (by rw [← h2, e])⟩

set_option maxRecDepth 100000 in
set_option maxHeartbeats 8000000 in
theorem changeText_law (A : Option Addr) (n c : Nat) (A' : Option Addr) (n' c' : Nat) (w : World) (h : IsBytes w w.heap.size A n c) (h' : IsBytes w w.heap.size A' n' c') (hm : MaxIn w) (hE : EofIn w) :
    Calls Tryz.prog 3 #[.slice A n c, .slice A' n' c'] w (BoolPost true w) := by
  have hn : n ≤ maxLen := by have := h.1; have := h.2.1; omega
  have hn' : n' ≤ maxLen := by have := h'.1; have := h'.2.1; omega
  unfold maxLen at hn hn'
  have H := Lib.hid h; clear h
  have H' := Lib.hid h'; clear h'
  go_enter Tryz.func3, Tryz.ntmps3
  go_wp2_with fail
  all_goals try (go_ret; exact ⟨rfl, Below.refl _ _⟩)
  refine (drawChangePut_any A n c w H.out).mono ?_; rintro e w1 ⟨A1, k1, c1, cs, A2, k2, c2, gs, ⟨rfl, hk1, hk2⟩, hI, hJ, hb1⟩
  have HP := below1 w1 (.cells #[.slice A1 k1 c1, .slice A2 k2 c2] 25)
  have HI1 := Lib.hid (hI.up AtomE.stays HP); have HJ1 := Lib.hid (hJ.up AtomE.stays HP); have XC1 := Lib.hid (Box.new w1 (.slice A1 k1 c1) (.slice A2 k2 c2) 25); have HB1 := Lib.hid (belowThen hb1 HP)
  clear HP hI hJ hb1
  obtain ⟨_, x0, x1⟩ := XC1.out
  go_wp2_with fail
  refine (implChangePut_any A1 k1 c1 A2 k2 c2 cs gs _ HI1.out HJ1.out).mono ?_; rintro e w2 ⟨rfl, hb2⟩
  have HI2 := Lib.hid (HI1.out.up AtomE.stays hb2); have HJ2 := Lib.hid (HJ1.out.up AtomE.stays hb2); have XC2 := Lib.hid (XC1.out.later hb2); have HB2 := Lib.hid (belowThen HB1.out hb2)
  clear hb2 HI1 HJ1 XC1 HB1 x0 x1
  have hm2 := hm.below HB2.out; have hE2 := hE.below HB2.out
  have hpl := chB_short cs gs
  have HT := Lib.hid (fun (xs ys : List At) (ok : Bool) => @told_change cs gs xs ys ok)
  have HPS := Lib.hid (fun W (hW : Below w2.heap.size w2 W) => (specChangePut_any A1 k1 c1 A2 k2 c2 cs gs W (HI2.out.up AtomE.stays hW) (HJ2.out.up AtomE.stays hW)))
  obtain ⟨L, hL⟩ : ∃ L, chB cs gs = L := ⟨_, rfl⟩
  rw [hL] at hpl HT HPS ⊢
  clear hL
  go_wp2_with fail
  refine (implChangeGet_any ⟨L.toArray⟩ w2 (by rw [mk_size]; omega) hm2 hE2).mono ?_; rintro e w3 ⟨A3, c3, ra, B3, d3, rb, mid, ok, rfl, hO, hG, ⟨hm1, hm2'⟩, hb3, hy, hno⟩
  rw [mk_data] at hy hno
  obtain ⟨rfl, heq⟩ := HT.out _ _ _ hy (fun h => (hno h).2.2)
  clear hy hno HT
  have HP := below1 w3 (.cells #[.slice A3 ra.length c3, .slice B3 rb.length d3] 25)
  have hb34 := belowThen hb3 HP
  have XX := Lib.hid (Box.new w3 (.slice A3 ra.length c3) (.slice B3 rb.length d3) 25)
  have HX := Lib.hid ((hO.atoms.keep (w' := w3) (lo' := 0) (hi' := w3.heap.size) AtomE.stays (fun _ _ _ => rfl) (Nat.zero_le _) (Nat.le_refl _)).up AtomE.stays HP)
  have HY := Lib.hid ((hG.atoms.keep (w' := w3) (lo' := 0) (hi' := w3.heap.size) AtomE.stays (fun _ _ _ => rfl) (Nat.zero_le _) hm2').up AtomE.stays HP)
  have HI3 := Lib.hid (HI2.out.up AtomE.stays hb34); have HJ3 := Lib.hid (HJ2.out.up AtomE.stays hb34); have XC3 := Lib.hid (XC2.out.later hb34); have HB3 := Lib.hid (belowThen HB2.out hb34)
  have HPS3 := Lib.hid (fun W (hW : Below (w3.alloc (.cells #[.slice A3 ra.length c3, .slice B3 rb.length d3] 25)).heap.size (w3.alloc (.cells #[.slice A3 ra.length c3, .slice B3 rb.length d3] 25)) W) => HPS.out W (belowThen hb34 hW))
  clear HP hb34 hb3 hO hG HI2 HJ2 XC2 HB2 HPS
  obtain ⟨W3, hW3⟩ : ∃ W3, w3.alloc (.cells #[.slice A3 ra.length c3, .slice B3 rb.length d3] 25) = W3 := ⟨_, rfl⟩
  rw [hW3] at XX HX HY HI3 HJ3 XC3 HB3 HPS3
  have hB : Below W3.heap.size W3 W3 := Below.refl _ _
  have c0 := XC3.out.in1 hB; have c1' := XC3.out.in2 hB; have c2' := XX.out.in1 hB; have c3' := XX.out.in2 hB
  have HCH := Lib.hid (fun W (hW : Below W3.heap.size W3 W) => chS_tells (b := changeB cs gs) HI3.out HJ3.out rfl hW)
  have REST : ∀ W5, Below W3.heap.size W3 W5 → Below w.heap.size w W5 := fun W5 h5 => belowThen HB3.out h5
  have HREST := Lib.hid REST; clear REST
  have HEQ := Lib.hid heq; clear heq
  cases hc : changeB cs gs
  · rw [hc] at HCH
    clear hc HEQ
    go_wp2_with fail
    refine (HPS3.out _ hB).mono ?_; rintro e v0 ⟨rfl, hb0⟩
    have hB := belowThen hB hb0
    clear c0 c1' c2' c3' hb0
    have c0 := XC3.out.in1 hB; have c1' := XC3.out.in2 hB; have c2' := XX.out.in1 hB; have c3' := XX.out.in2 hB
    go_wp2_with fail
    refine (HCH.out _ hB).mono ?_; rintro e v1 ⟨rfl, hB⟩
    have HW5 := Lib.hid (HREST.out _ hB)
    clear hB c0 c1' c2' c3' HX HY HI3 HJ3 XC3 HB3 HPS3 HCH HREST XX
    go_wp2_with fail
    refine (drawChangeGet_any A' n' c' _ (H'.out.up HW5.out)).mono ?_; rintro e w6 ⟨t, ⟨rfl, ht6⟩, hb6⟩
    have HW6 := Lib.hid (belowThen HW5.out hb6)
    clear hb6 HW5
    have hm6 := hm.below HW6.out; have hE6 := hE.below HW6.out
    go_wp2_with fail
    refine (implChangeGet_any t w6 (by omega) hm6 hE6).mono ?_; rintro e w7 ⟨A7, c7, rc, B7, d7, rd, mid7, ok7, rfl, hO7, hG7, ⟨hm71, hm72⟩, hb7, hy7, hn7⟩
    have HP7 := below1 w7 (.cells #[.slice A7 rc.length c7, .slice B7 rd.length d7] 25)
    have X7 := Lib.hid (Box.new w7 (.slice A7 rc.length c7) (.slice B7 rd.length d7) 25)
    have I7 := Lib.hid ((hO7.atoms.keep (w' := w7) (lo' := 0) (hi' := w7.heap.size) AtomE.stays (fun _ _ _ => rfl) (Nat.zero_le _) (Nat.le_refl _)).up AtomE.stays HP7)
    have J7 := Lib.hid ((hG7.atoms.keep (w' := w7) (lo' := 0) (hi' := w7.heap.size) AtomE.stays (fun _ _ _ => rfl) (Nat.zero_le _) hm72).up AtomE.stays HP7)
    have HW7 := Lib.hid (belowThen HW6.out (belowThen hb7 HP7))
    clear hO7 hG7 hb7 HP7 HW6
    go_wp2_with fail
    refine (specChangeGet_any t _ (by omega)).mono ?_; rintro e w9 ⟨A9, c9, n9, us, B9, d9, m9, vs, ok9, rfl, I9, J9, hb9, hy9, hn9⟩
    obtain ⟨rfl, e1, e2⟩ := same_change hy7 (fun h => by obtain ⟨e1, e2, e3⟩ := hn7 h; exact ⟨by rw [e1]; rfl, by rw [e2]; rfl, e3⟩) hy9 hn9
    have HP9 := below1 w9 (.cells #[.slice A9 n9 c9, .slice B9 m9 d9] 25)
    have hb99 := belowThen hb9 HP9
    have X9 := Lib.hid (Box.new w9 (.slice A9 n9 c9) (.slice B9 m9 d9) 25)
    have K9 := Lib.hid (I9.up AtomE.stays HP9); have L9 := Lib.hid (J9.up AtomE.stays HP9)
    have I7' := Lib.hid (I7.out.up AtomE.stays hb99); have J7' := Lib.hid (J7.out.up AtomE.stays hb99); have X7' := Lib.hid (X7.out.later hb99); have HW9 := Lib.hid (belowThen HW7.out hb99)
    rw [e1] at K9; rw [e2] at L9
    have HY := Lib.hid hy7
    clear I9 J9 hb9 HP9 hb99 I7 J7 X7 HW7 hy9 hn9 hy7 hn7 e1 e2
    obtain ⟨_, y0, y1⟩ := X7'.out
    obtain ⟨_, z0, z1⟩ := X9.out
    cases ok9
    · go_wp2_with fail
      refine (fsChange_any A7 B7 A9 B9 rc.length c7 rd.length d7 n9 c9 m9 d9 (rc.map rAt) (rd.map rAt) _ I7'.out J7'.out K9.out L9.out).mono ?_; rintro e w10 ⟨rfl, hb10⟩
      have HW10 := belowThen HW9.out hb10
      clear hb10
      go_wp2
      go_ret; exact ⟨rfl, HW10⟩
    · go_wp2_with fail
      refine (fsChange_any A7 B7 A9 B9 rc.length c7 rd.length d7 n9 c9 m9 d9 (rc.map rAt) (rd.map rAt) _ I7'.out J7'.out K9.out L9.out).mono ?_; rintro e w10 ⟨rfl, hb10⟩
      have HW10 := belowThen HW9.out hb10
      have I10 := I7'.out.up AtomE.stays hb10; have J10 := J7'.out.up AtomE.stays hb10
      clear y0 y1
      have y0 := X7'.out.in1 hb10; have y1 := X7'.out.in2 hb10
      clear hb10 z0 z1
      go_wp2_with fail
      refine (implChangePut_any A7 rc.length c7 B7 rd.length d7 (rc.map rAt) (rd.map rAt) w10 I10 J10).mono ?_; rintro e w11 ⟨rfl, hb11⟩
      have hpe : chB (rc.map rAt) (rd.map rAt) = t.data.toList := by obtain ⟨h1, h2⟩ := HY.out (by first | rfl | trivial); unfold chB; rw [if_pos h1, h2]
      rw [hpe]
      have hpe : (t.data.toList == t.toList) = true := by rw [toList_data]; exact beq_self_eq_true _
      have HW11 := belowThen HW10 hb11
      clear hb11
      go_wp2
      go_ret; exact ⟨rfl, HW11⟩
  · rw [hc] at HCH
    obtain ⟨e1, e2⟩ := HEQ.out hc
    rw [e1] at HX; rw [e2] at HY
    clear hc HEQ
    go_wp2_with fail
    refine (HPS3.out _ hB).mono ?_; rintro e v0 ⟨rfl, hb0⟩
    have hB := belowThen hB hb0
    clear c0 c1' c2' c3' hb0
    have c0 := XC3.out.in1 hB; have c1' := XC3.out.in2 hB; have c2' := XX.out.in1 hB; have c3' := XX.out.in2 hB
    go_wp2_with fail
    refine (HCH.out _ hB).mono ?_; rintro e v1 ⟨rfl, hB⟩
    clear c0 c1' c2' c3'
    have c0 := XC3.out.in1 hB; have c1' := XC3.out.in2 hB; have c2' := XX.out.in1 hB; have c3' := XX.out.in2 hB
    go_wp2_with fail
    refine ((fsChange_any A3 B3 A1 A2 ra.length c3 rb.length d3 k1 c1 k2 c2 cs gs _ (HX.out.up AtomE.stays hB) (HY.out.up AtomE.stays hB) (HI3.out.up AtomE.stays hB) (HJ3.out.up AtomE.stays hB))).mono ?_; rintro e v2 ⟨rfl, hb2⟩
    have hB := belowThen hB hb2
    have HW5 := Lib.hid (HREST.out _ hB)
    clear hB c0 c1' c2' c3' HX HY HI3 HJ3 XC3 HB3 HPS3 HCH HREST XX hb2
    go_wp2_with fail
    refine (drawChangeGet_any A' n' c' _ (H'.out.up HW5.out)).mono ?_; rintro e w6 ⟨t, ⟨rfl, ht6⟩, hb6⟩
    have HW6 := Lib.hid (belowThen HW5.out hb6)
    clear hb6 HW5
    have hm6 := hm.below HW6.out; have hE6 := hE.below HW6.out
    go_wp2_with fail
    refine (implChangeGet_any t w6 (by omega) hm6 hE6).mono ?_; rintro e w7 ⟨A7, c7, rc, B7, d7, rd, mid7, ok7, rfl, hO7, hG7, ⟨hm71, hm72⟩, hb7, hy7, hn7⟩
    have HP7 := below1 w7 (.cells #[.slice A7 rc.length c7, .slice B7 rd.length d7] 25)
    have X7 := Lib.hid (Box.new w7 (.slice A7 rc.length c7) (.slice B7 rd.length d7) 25)
    have I7 := Lib.hid ((hO7.atoms.keep (w' := w7) (lo' := 0) (hi' := w7.heap.size) AtomE.stays (fun _ _ _ => rfl) (Nat.zero_le _) (Nat.le_refl _)).up AtomE.stays HP7)
    have J7 := Lib.hid ((hG7.atoms.keep (w' := w7) (lo' := 0) (hi' := w7.heap.size) AtomE.stays (fun _ _ _ => rfl) (Nat.zero_le _) hm72).up AtomE.stays HP7)
    have HW7 := Lib.hid (belowThen HW6.out (belowThen hb7 HP7))
    clear hO7 hG7 hb7 HP7 HW6
    go_wp2_with fail
    refine (specChangeGet_any t _ (by omega)).mono ?_; rintro e w9 ⟨A9, c9, n9, us, B9, d9, m9, vs, ok9, rfl, I9, J9, hb9, hy9, hn9⟩
    obtain ⟨rfl, e1, e2⟩ := same_change hy7 (fun h => by obtain ⟨e1, e2, e3⟩ := hn7 h; exact ⟨by rw [e1]; rfl, by rw [e2]; rfl, e3⟩) hy9 hn9
    have HP9 := below1 w9 (.cells #[.slice A9 n9 c9, .slice B9 m9 d9] 25)
    have hb99 := belowThen hb9 HP9
    have X9 := Lib.hid (Box.new w9 (.slice A9 n9 c9) (.slice B9 m9 d9) 25)
    have K9 := Lib.hid (I9.up AtomE.stays HP9); have L9 := Lib.hid (J9.up AtomE.stays HP9)
    have I7' := Lib.hid (I7.out.up AtomE.stays hb99); have J7' := Lib.hid (J7.out.up AtomE.stays hb99); have X7' := Lib.hid (X7.out.later hb99); have HW9 := Lib.hid (belowThen HW7.out hb99)
    rw [e1] at K9; rw [e2] at L9
    have HY := Lib.hid hy7
    clear I9 J9 hb9 HP9 hb99 I7 J7 X7 HW7 hy9 hn9 hy7 hn7 e1 e2
    obtain ⟨_, y0, y1⟩ := X7'.out
    obtain ⟨_, z0, z1⟩ := X9.out
    cases ok9
    · go_wp2_with fail
      refine (fsChange_any A7 B7 A9 B9 rc.length c7 rd.length d7 n9 c9 m9 d9 (rc.map rAt) (rd.map rAt) _ I7'.out J7'.out K9.out L9.out).mono ?_; rintro e w10 ⟨rfl, hb10⟩
      have HW10 := belowThen HW9.out hb10
      clear hb10
      go_wp2
      go_ret; exact ⟨rfl, HW10⟩
    · go_wp2_with fail
      refine (fsChange_any A7 B7 A9 B9 rc.length c7 rd.length d7 n9 c9 m9 d9 (rc.map rAt) (rd.map rAt) _ I7'.out J7'.out K9.out L9.out).mono ?_; rintro e w10 ⟨rfl, hb10⟩
      have HW10 := belowThen HW9.out hb10
      have I10 := I7'.out.up AtomE.stays hb10; have J10 := J7'.out.up AtomE.stays hb10
      clear y0 y1
      have y0 := X7'.out.in1 hb10; have y1 := X7'.out.in2 hb10
      clear hb10 z0 z1
      go_wp2_with fail
      refine (implChangePut_any A7 rc.length c7 B7 rd.length d7 (rc.map rAt) (rd.map rAt) w10 I10 J10).mono ?_; rintro e w11 ⟨rfl, hb11⟩
      have hpe : chB (rc.map rAt) (rd.map rAt) = t.data.toList := by obtain ⟨h1, h2⟩ := HY.out (by first | rfl | trivial); unfold chB; rw [if_pos h1, h2]
      rw [hpe]
      have hpe : (t.data.toList == t.toList) = true := by rw [toList_data]; exact beq_self_eq_true _
      have HW11 := belowThen HW10 hb11
      clear hb11
      go_wp2
      go_ret; exact ⟨rfl, HW11⟩

end Go.Proofs.YtogonjkklioaaaaGreatDoor

namespace Go.Proofs.YtogonjkklioaaaaGreatDoor
open Go.RowKit

/-- The closed facts of a row, out of their parts. -/
theorem joined_of {P : Program} {f : FuncId} {fn : Func} {s : ChangeSpec} {c : OpenClaim}
    (h1 : c.wf (OpenSpec.ofChange s) = true) (h2 : laidOutB P = true) (h3 : mapsRowed P = true)
    (h4 : (fn.params.all (P.readableRec ·) && namedTie P c.named s.vars && (c.stops == []) && (P.stops == []) && (c.knobs == []) && (P.stopKnobs == [])) = true)
    (h5 : (c.inPlace == P.inPlace f) = true) (h6 : (c.unfollowed == P.unfollowed f) = true) (h7 : (c.recurses == P.recurses f) = true) (h8 : (c.named == P.varsNamed f) = true)
    (h9 : ((c.maps == (fn.params.toList ++ s.plain.varTypes P).any (P.mapsRec ·)) && (c.ifaces == (fn.params.toList ++ s.plain.varTypes P).any (P.ifacesRec ·)) && (c.mapsOut == P.mapsAmong fn.resultTypes.toList) &&
      (c.loops == (fn.params.toList ++ s.plain.varTypes P).any (P.loopsFrom ·)) && (c.wideKeys == (fn.params.toList ++ s.plain.varTypes P ++ fn.resultTypes.toList).any (P.wideKeysFrom ·)) &&
      s.vars.all (P.varReadable ·) && fn.resultTypes.all (fun t => P.readableRec t && decide (t < P.types.size)) && (c.ifacesOut == fn.resultTypes.toList.any (P.ifacesRec ·)) && (c.loopsOut == fn.resultTypes.toList.any (P.loopsFrom ·))) = true)
    (h10 : (c.plainKeys == P.plainKeys) = true) (h11 : c.shortTexts.isNone = true) (h12 : P.stopsHeard = true) (h13 : P.mayEnter = true) (h14 : (c.lifted == P.liftsFinal) = true)
    (h15 : ((P.make == some c.make) && (c.kinds == (if c.domain.isEmpty then [] else fn.params.toList.map fun t => match P.underlying t with | some (.int k) => some k | _ => none)) && (c.pinned == c.pinnedBy) &&
      (c.veiled == (fn.params.toList ++ s.plain.varTypes P ++ fn.resultTypes.toList).any (P.veiledRec ·)) && c.veiledFits P fn.params.toList (fn.params.toList ++ s.plain.varTypes P ++ fn.resultTypes.toList)) = true) : joinedFacts P f fn s c = true := by
  simp only [Bool.and_eq_true] at h4 h9 h15
  obtain ⟨⟨⟨⟨⟨a1, a2⟩, a3⟩, a4⟩, a5⟩, a6⟩ := h4
  obtain ⟨⟨⟨⟨⟨⟨⟨⟨b1, b2⟩, b3⟩, b4⟩, b5⟩, b6⟩, b7⟩, b8⟩, b9⟩ := h9
  obtain ⟨⟨⟨⟨d1, d2⟩, d3⟩, d4⟩, d5⟩ := h15
  simp only [joinedFacts, Bool.and_eq_true]
  exact ⟨⟨⟨⟨⟨⟨⟨⟨⟨⟨⟨⟨⟨⟨⟨⟨⟨⟨⟨⟨⟨⟨⟨⟨⟨⟨⟨⟨⟨⟨⟨h1, h2⟩, h3⟩, a1⟩, a2⟩, a3⟩, a4⟩, a5⟩, a6⟩, h5⟩, h6⟩, h7⟩, h8⟩, b1⟩, b2⟩, b3⟩, b4⟩, b5⟩, b6⟩, b7⟩, b8⟩, b9⟩, h10⟩, h11⟩, h12⟩, h13⟩, h14⟩, d1⟩, d2⟩, d3⟩, d4⟩, d5⟩

theorem Tryz.c_rowed : mapsRowed Tryz.prog = true := by kernel_rfl
theorem Tryz.c_heard : Tryz.prog.stopsHeard = true := by kernel_rfl
theorem Tryz.c_enter : Tryz.prog.mayEnter = true := by kernel_rfl
theorem Tryz.c_lifted : (Rows.fnChangeTextRow.lifted == Tryz.prog.liftsFinal) = true := by kernel_rfl
theorem Tryz.c_keys : (Rows.fnChangeTextRow.plainKeys == Tryz.prog.plainKeys) = true := by kernel_rfl
theorem Tryz.c_main : Tryz.pinned.checked.prog.mainIs = some (Rows.fnChangeTextCard.stood.harness.1, Rows.fnChangeTextCard.stood.harness.2.toList) := by kernel_rfl
theorem Tryz.c_looks : true = Tryz.prog.looks [] := by kernel_rfl

/-- What the rows of these laws list. -/
abbrev laidX : List (String × DataW Unit) := [("unicode/utf8.acceptRanges", Rows.laid_unicode_utf8_acceptRanges), ("io.EOF", Rows.laid_io_EOF), ("unicode/utf8.first", Rows.laid_unicode_utf8_first)]

theorem laidX_plain : (laidX.all fun x => x.2.handleName?.isNone) = true := by kernel_rfl

theorem laidX_met (os : Os) (args : Array Value) : laidMetH Tryz.prog laidX ((World.laidAll Tryz.prog os laidX).forCall (fun _ _ => 0) ⟨#[], args, []⟩).memory := by
  rw [Go.MakeChecks.laidMetH_plain _ _ _ laidX_plain]
  exact laidMet_laidAll _ (by kernel_rfl) (by kernel_rfl)

theorem laidX_shaped1 (os : Os) : ((World.laidAll Tryz.prog os laidX).forCall (fun _ _ => 0) ⟨#[], #[.string ByteArray.empty], []⟩).Shaped Tryz.prog := World.shaped_of_ZipB (by kernel_rfl) (by kernel_rfl)
theorem laidX_shaped2 (os : Os) : ((World.laidAll Tryz.prog os laidX).forCall (fun _ _ => 0) ⟨#[], #[.slice none 0 0, .slice none 0 0], []⟩).Shaped Tryz.prog := World.shaped_of_ZipB (by kernel_rfl) (by kernel_rfl)

theorem iface_of_trod {P : Program} {W : World} {sp : Nat → Bool} {t : TypeId} {ms : Array (String × TypeId)} (ht : P.underlying t = some (.interface ms)) {n : Nat} {vs : List Value} {nm : String} {d : DataW Unit} {p : List MemPlace}
    (h : DataW.trod (fun _ => ()) P W 0 sp false n t vs = some (.iface nm d, p)) : ∃ u v, vs = [.iface u v] := by
  cases n with
  | zero => simp [DataW.trod] at h
  | succ n =>
    cases vs with
    | nil => simp [DataW.trod, ht] at h
    | cons E r =>
      cases r with
      | cons E2 r => cases E <;> simp [DataW.trod, ht] at h
      | nil =>
        cases E with
        | iface u v => exact ⟨u, v, rfl⟩
        | _ => simp [DataW.trod, ht] at h

theorem laidX_eof : laidX.filter (fun x => x.1 == "io.EOF") = [("io.EOF", Rows.laid_io_EOF)] := by rfl

theorem eofIn_of_laid {W : World} (h : laidMetH Tryz.prog laidX W.memory) : EofIn W := by
  rw [Go.MakeChecks.laidMetH_plain _ _ _ laidX_plain] at h
  have h2 := h.filter (fun x => x.1 == "io.EOF")
  rw [laidX_eof] at h2
  obtain ⟨ps, ⟨g, t, cs, fuel, p, q, hg, ht, hv, hd, _, _⟩, _⟩ := h2
  have e1 : Tryz.prog.globalNamed "io.EOF" = some 0 := by kernel_rfl
  obtain rfl := Option.some.inj (e1.symm.trans hg)
  have e2 : (Tryz.prog.globals[0]?).map (·.type) = some 53 := by kernel_rfl
  obtain rfl := Option.some.inj (e2.symm.trans ht)
  obtain ⟨u, v, e⟩ := iface_of_trod Tryz.underlying53 hd
  refine ⟨u, v, ?_⟩
  have h1 := World.var?_cell e1 hv 0
  have h2 : cs[0]? = some (.iface u v) := by rw [← Array.getElem?_toList, e]; rfl
  rw [h2] at h1
  exact h1

section
variable {H : Type} {enc : TypeId × Value → H}

/-- A call whose world has a shape besides what is laid. -/
theorem handed_shaped_x {C : Checked} {os : Os} {f : FuncId} {fn : Func} {s : ChangeSpec} {X : World → Prop}
    (own : ownKnob C.prog.godebug = none) (started : os.Started) (noInit : C.prog.inits.idxOf? f = none) (hfn : C.prog.funcs[f]? = some fn)
    (w0 : World) (args0 : Array Value) (hos : w0.os = os) (hsh : (w0.forCall (fun _ _ => 0) ⟨#[], args0, []⟩).Shaped C.prog)
    (hok : Input.okWideB C.prog (w0.forCall (fun _ _ => 0) ⟨#[], args0, []⟩) f ⟨#[], args0, []⟩ = true)
    (hpre : s.preB enc C.prog fn [] false (w0.forCall (fun _ _ => 0) ⟨#[], args0, []⟩).memory args0 8 = true)
    (hsz : s.sizedB enc C.prog fn false (w0.forCall (fun _ _ => 0) ⟨#[], args0, []⟩).memory args0 8 = true)
    (hx : X (w0.forCall (fun _ _ => 0) ⟨#[], args0, []⟩).memory)
    (walk : ∀ (W : World) (args : Array Value) (ds gs : List (DataW H)) (before : List MemPlace), (∀ (j : Nat) t v, fn.params[j]? = some t → args[j]? = some v → Value.okWide C.prog W .any W.heap.size t v) →
      DataW.Whole enc C.prog fn.params.toList s.vars false W args.toList ds gs before → W.ShapedOpen C.prog → X W.memory →
      Calls C.prog f args W fun e W' => ∃ v, e = .returned v ∧ s.post enc C.prog fn false true false false W args v W') :
    ReturnsInHanded {} C os f .any (fun w args => (s.pre enc C.prog fn [] false w args ∧ X w) ∧ sizedMet enc C.prog fn (OpenSpec.ofChange s) false w args) (s.post enc C.prog fn false true false false) :=
  returnsInHanded_of_calls own started noInit (ChangeSpec.witness_shaped (X := fun w _ => X w) false w0 args0 8 hos hsh hok hpre hsz hx) fun w tape i _ hS _ hin hp _ => by
    obtain ⟨_, _, _, fn', hf', _, _, _, _, hval⟩ := hin
    obtain rfl : fn' = fn := Option.some.inj (hf'.symm.trans hfn)
    obtain ⟨⟨⟨ds, gs, before, hw, _⟩, hX⟩, _⟩ := hp
    exact (walk (w.forCall tape i) i.args ds gs before hval (DataW.Whole.of_heap (by rfl) hw) hS hX).mono fun e W' ⟨v, he, hq⟩ => by
      subst he
      exact ChangeSpec.post_blind hq
end

theorem maxIn_of_shape {W : World} (h : W.ShapedOpen Tryz.prog) : MaxIn W :=
  cell_of_shapedOpen_int (zero := #[.int .i64 0]) (t := 3) h (of_decide_eq_true (by kernel_rfl)) (by kernel_rfl) rfl (by kernel_rfl) (by kernel_rfl) Tryz.underlying3

end Go.Proofs.YtogonjkklioaaaaGreatDoor

namespace Go.Proofs.YtogonjkklioaaaaGreatDoor
open Go.ChangeShapes Go.WideShapes Go.ChangeAt Go.RowKit Go.Deep Go.Joins
open Go.ChangeMaps (open_string shut_string)

theorem Tryz.own : ownKnob Tryz.prog.godebug = none := by kernel_rfl
theorem Tryz.laidOut : laidOutB Tryz.prog = true := by kernel_rfl

section
variable {H : Type} {enc : TypeId × Value → H} {w : World} {base : Nat} {spare : Nat → Bool} {held : Bool}


end

/-- What a law owes behind the call: it answered true, and all that was there is as it was. -/
theorem post_true {H : Type} {enc : TypeId × Value → H} {f : Func} {s : ChangeSpec} {apart : Bool} {W W' : World} {args : Array Value} {ds gs : List (DataW H)} {before pa pv : List MemPlace}
    (hW : DataW.Whole enc Tryz.prog f.params.toList s.vars apart W args.toList ds gs before)
    (hres : DataW.TrodAll enc Tryz.prog W' W.heap.size (fun _ => false) false f.resultTypes.toList ((Value.bool true).resultList f.resultTypes.size) (s.fn H (ds ++ gs)).results [])
    (hargs : DataW.TrodAll enc Tryz.prog W' 0 (fun b => decide (b < W.heap.size)) true f.params.toList args.toList (s.fn H (ds ++ gs)).args pa)
    (hvars : DataW.TrodVars enc Tryz.prog W' (fun b => decide (b < W.heap.size)) s.vars (s.fn H (ds ++ gs)).vars pv)
    (hb : Below W.heap.size W W') :
    s.post enc Tryz.prog f apart true false false W args (.bool true) W' :=
  ⟨ds, gs, before, [], pa, pv, hW, hres, hargs, hvars, hb.frame _, fun h => by cases h⟩

end Go.Proofs.YtogonjkklioaaaaGreatDoor

namespace Go.Proofs.YtogonjkklioaaaaGreatDoor
open Go.ChangeShapes Go.WideShapes Go.ChangeAt Go.RowKit Go.Deep

theorem Tryz.cellsByte : Tryz.prog.cellsOf 5 = 1 := by kernel_rfl

section
variable {H : Type} {enc : TypeId × Value → H} {w : World} {base : Nat} {spare : Nat → Bool} {held : Bool}

set_option maxRecDepth 100000 in
theorem open_bytes {b0 : Nat} {v : Value} {d : DataW H} {p : List MemPlace} (hv : Value.okWide Tryz.prog w .any b0 22 v) (h : DataW.Trod enc Tryz.prog w base spare held 22 v d p) :
    ∃ A n c, v = .slice A n c ∧ IsBytes w w.heap.size A n c := by
  obtain ⟨A, n, c, rfl⟩ := okWide_slice Tryz.underlying22 hv
  obtain ⟨fuel, hf⟩ := h
  rcases open_slice1 Tryz.underlying22 Tryz.cellsByte (by simpa [Value.cells] using hf) with ⟨hc, _⟩ | ⟨a, len, cap, m, k, V, D, P, hc, _, hl, hm, hmm, _, hi⟩
  · simp only [List.cons.injEq, and_true, Value.slice.injEq] at hc
    obtain ⟨rfl, rfl, rfl⟩ := hc
    exact ⟨none, 0, 0, rfl, Nat.le_refl _, Nat.zero_le _, fun h0 => absurd h0 (by omega)⟩
  · simp only [List.cons.injEq, and_true, Value.slice.injEq] at hc
    obtain ⟨rfl, rfl, rfl⟩ := hc
    have hlm : n ≤ m := by rw [hmm]; split <;> omega
    refine ⟨_, _, _, rfl, hl, hm, fun h0 => ⟨a, rfl, World.block_lt_of_cell? _ _ (by simpa [Addr.add] using (hi 0 (by omega)).1), fun i hin => ?_⟩⟩
    obtain ⟨c1, t1⟩ := hi i (by omega)
    obtain ⟨z, hz, _, hw⟩ := DataW.trod_int Tryz.underlying5 t1
    simp only [List.cons.injEq, and_true] at hz
    have hb : 0 ≤ z ∧ z ≤ 255 := by
      have h9 := hw
      simp [Lit.wf, IntKind.min, IntKind.max, IntKind.signed, IntKind.bits] at h9
      omega
    refine ⟨z.toNat, by omega, ?_⟩
    rw [c1, hz, Int.toNat_of_nonneg hb.1]
end

end Go.Proofs.YtogonjkklioaaaaGreatDoor
