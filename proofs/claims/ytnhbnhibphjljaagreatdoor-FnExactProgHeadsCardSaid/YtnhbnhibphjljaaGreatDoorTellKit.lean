/-
  What a name needs: the names that are reached from it, from heads to their parts. (Of no code.) What a name needs, in the model: a walk in depth. What a rule's body needs is noted: in the program. What a name needs, as the program finds it: places are noted until nothing new comes.
  What ProgNames, ProgHeads, ProgNeeds and ProgStrata tell, in the model and in the program.
-/
import Derived.Test.YtnhbnhibphjljaaGreatDoorAskMath
import Derived.Test.YtnhbnhibphjljaaGreatDoorAtomsOf
import Derived.Test.YtnhbnhibphjljaaGreatDoorAtomsL
import Derived.Test.YtnhbnhibphjljaaGreatDoorStrataRun
import Derived.Test.YtnhbnhibphjljaaGreatDoorCheckImpl
import Derived.Test.YtnhbnhibphjljaaGreatDoorTextsLaw
namespace Go.Proofs.YtnhbnhibphjljaaGreatDoor
open Go.RowKit

/-- A name needs another at once: it is a head's, and the other is of its body. -/
def Succ (rs : List Rl) (a b : ByteArray) : Prop := ∃ r ∈ rs, r.1.1 = a ∧ ∃ p ∈ r.2, p.2.1 = b

/-- A name needs another. -/
inductive Reach (rs : List Rl) (a : ByteArray) : ByteArray → Prop where
  | refl : Reach rs a a
  | step {b c : ByteArray} : Reach rs a b → Succ rs b c → Reach rs a c

theorem Reach.from {rs : List Rl} {a b c : ByteArray} (h : Succ rs a b) (k : Reach rs b c) : Reach rs a c := by
  induction k with
  | refl => exact .step .refl h
  | step _ hs ih => exact .step ih hs

/-- Names were put among others: the name itself, and with each new one all that it needs at once. -/
def NeedsTo (rs : List Rl) (nm : ByteArray) (out out' : List ByteArray) : Prop :=
  (∀ x ∈ out, x ∈ out') ∧ nm ∈ out' ∧ ∀ x ∈ out', x ∉ out → Reach rs nm x ∧ ∀ y, Succ rs x y → y ∈ out'

theorem NeedsTo.none {rs : List Rl} {nm : ByteArray} {out : List ByteArray} (h : nm ∈ out) : NeedsTo rs nm out out :=
  ⟨fun _ hx => hx, h, fun _ hx hn => absurd hx hn⟩

/-- Put among none, they are all that is needed. -/
theorem NeedsTo.all {rs : List Rl} {nm : ByteArray} {out : List ByteArray} (h : NeedsTo rs nm [] out) (x : ByteArray) : x ∈ out ↔ Reach rs nm x := by
  refine ⟨fun hx => (h.2.2 x hx List.not_mem_nil).1, fun hr => ?_⟩
  induction hr with
  | refl => exact h.2.1
  | step _ hs ih => exact (h.2.2 _ ih List.not_mem_nil).2 _ hs

/-- On the way: what was there and the name stay, what is new is needed and closed. -/
def NeedsOn (rs : List Rl) (nm : ByteArray) (out cur : List ByteArray) : Prop :=
  (∀ x ∈ putT out nm, x ∈ cur) ∧ ∀ x ∈ cur, x ∉ putT out nm → Reach rs nm x ∧ ∀ y, Succ rs x y → y ∈ cur

theorem NeedsOn.start (rs : List Rl) (nm : ByteArray) (out : List ByteArray) : NeedsOn rs nm out (putT out nm) :=
  ⟨fun _ hx => hx, fun _ hx hn => absurd hx hn⟩

theorem NeedsOn.next {rs : List Rl} {nm b : ByteArray} {out cur cur' : List ByteArray} (h : NeedsOn rs nm out cur) (hs : Succ rs nm b) (k : NeedsTo rs b cur cur') : NeedsOn rs nm out cur' := by
  refine ⟨fun x hx => k.1 x (h.1 x hx), fun x hx hn => ?_⟩
  by_cases hc : x ∈ cur
  · exact ⟨(h.2 x hc hn).1, fun y hy => k.1 y ((h.2 x hc hn).2 y hy)⟩
  · exact ⟨Reach.from hs (k.2.2 x hx hc).1, (k.2.2 x hx hc).2⟩

theorem NeedsOn.done {rs : List Rl} {nm : ByteArray} {out cur : List ByteArray} (h : NeedsOn rs nm out cur) (hs : ∀ b, Succ rs nm b → b ∈ cur) : NeedsTo rs nm out cur := by
  refine ⟨fun x hx => h.1 x (mem_putT.2 (.inr hx)), h.1 nm (mem_putT.2 (.inl rfl)), fun x hx hn => ?_⟩
  by_cases he : x = nm
  · subst he; exact ⟨.refl, hs⟩
  · exact h.2 x hx (fun hp => (mem_putT.1 hp).elim he hn)

/-- Two rows of the same texts are one. -/
theorem InRow.ext : ∀ {a b : List ByteArray}, InRow a → InRow b → (∀ x, x ∈ a ↔ x ∈ b) → a = b
  | [], [], _, _, _ => rfl
  | [], y :: b, _, _, h => absurd ((h y).2 (List.mem_cons_self ..)) List.not_mem_nil
  | x :: a, [], _, _, h => absurd ((h x).1 (List.mem_cons_self ..)) List.not_mem_nil
  | x :: a, y :: b, ha, hb, h => by
    have ha' : InRow (x :: a) := ha
    have hb' : InRow (y :: b) := hb
    unfold InRow at ha hb
    obtain ⟨a1, a2⟩ := List.pairwise_cons.1 ha
    obtain ⟨b1, b2⟩ := List.pairwise_cons.1 hb
    have hxy : x = y := by
      rcases List.mem_cons.1 ((h x).1 (List.mem_cons_self ..)) with e | hx
      · exact e
      · rcases List.mem_cons.1 ((h y).2 (List.mem_cons_self ..)) with e | hy
        · exact e.symm
        · have := ltT_trans (b1 x hx) (a1 y hy)
          rw [ltT_irr] at this; cases this
    subst hxy
    have na := (List.nodup_cons.1 ha'.nodup).1
    have nb := (List.nodup_cons.1 hb'.nodup).1
    rw [InRow.ext (a := a) (b := b) a2 b2 (fun z => ⟨fun hz => by
      rcases List.mem_cons.1 ((h z).1 (List.mem_cons_of_mem _ hz)) with rfl | hz'
      · exact absurd hz na
      · exact hz', fun hz => by
      rcases List.mem_cons.1 ((h z).2 (List.mem_cons_of_mem _ hz)) with rfl | hz'
      · exact absurd hz nb
      · exact hz'⟩)]

/-- A name is not there. -/
def away (out : List ByteArray) (u : ByteArray) : Bool := out.all fun v => decide (v ≠ u)
theorem away_yes {out : List ByteArray} {u : ByteArray} (h : u ∉ out) : away out u = true := by
  unfold away; rw [List.all_eq_true]; exact fun v hv => decide_eq_true (fun e => h (e ▸ hv))
theorem away_no {out : List ByteArray} {u : ByteArray} (h : u ∈ out) : away out u = false := by
  unfold away; rw [List.all_eq_false]; exact ⟨u, h, by simp⟩

/-- How many of some names are not yet there. -/
def leftOf (us out : List ByteArray) : Nat := (us.filter (away out)).length

theorem leftOf_less {us out out' : List ByteArray} (h : ∀ x ∈ out, x ∈ out') : leftOf us out' ≤ leftOf us out := by
  unfold leftOf
  induction us with
  | nil => simp
  | cons u us ih =>
    by_cases h1 : u ∈ out
    · rw [List.filter_cons_of_neg (by rw [away_no (h u h1)]; decide), List.filter_cons_of_neg (by rw [away_no h1]; decide)]; exact ih
    · rw [List.filter_cons_of_pos (away_yes h1)]
      by_cases h2 : u ∈ out'
      · rw [List.filter_cons_of_neg (by rw [away_no h2]; decide)]; simp only [List.length_cons]; omega
      · rw [List.filter_cons_of_pos (away_yes h2)]; simp only [List.length_cons]; omega

theorem leftOf_put {us out : List ByteArray} {nm : ByteArray} (hu : nm ∈ us) (hn : nm ∉ out) : leftOf us (putT out nm) < leftOf us out := by
  have hle : ∀ us : List ByteArray, leftOf us (putT out nm) ≤ leftOf us out := fun us => leftOf_less (fun x hx => mem_putT.2 (.inr hx))
  induction us with
  | nil => cases hu
  | cons u us ih =>
    have h0 := hle us
    unfold leftOf at ih h0 ⊢
    by_cases e : u = nm
    · subst e
      rw [List.filter_cons_of_neg (by rw [away_no (mem_putT.2 (.inl rfl))]; decide), List.filter_cons_of_pos (away_yes hn)]
      simp only [List.length_cons]; omega
    · have hu' : nm ∈ us := (List.mem_cons.1 hu).elim (fun h => absurd h.symm e) id
      by_cases h1 : u ∈ out
      · rw [List.filter_cons_of_neg (by rw [away_no (mem_putT.2 (.inr h1))]; decide), List.filter_cons_of_neg (by rw [away_no h1]; decide)]; exact ih hu'
      · rw [List.filter_cons_of_pos (away_yes (fun h => (mem_putT.1 h).elim e h1)), List.filter_cons_of_pos (away_yes h1)]
        simp only [List.length_cons]; have := ih hu'; omega

end Go.Proofs.YtnhbnhibphjljaaGreatDoor

namespace Go.Proofs.YtnhbnhibphjljaaGreatDoor
open Go.RowKit

def thereB (ls : List ByteArray) (s : ByteArray) : Bool := !away ls s
theorem there_yes {ls : List ByteArray} {s : ByteArray} (h : s ∈ ls) : thereB ls s = true := by unfold thereB; rw [away_no h]; rfl
theorem there_no {ls : List ByteArray} {s : ByteArray} (h : s ∉ ls) : thereB ls s = false := by unfold thereB; rw [away_yes h]; rfl

set_option maxRecDepth 100000 in
set_option maxHeartbeats 2000000 in
theorem l2Has_any (A : Option Addr) (n c : Nat) (ls : List ByteArray) (s : ByteArray) (w : World) (h : IsTexts w 0 w.heap.size A n c ls) :
    Calls Tryz.prog 76 #[.slice A n c, .string s] w (BoolPost (thereB ls s) w) := by
  have hm := h.len
  unfold maxLen at hm
  have HL := Lib.hid h.1
  have H := Lib.hid h; clear h
  go_enter Tryz.func76, Tryz.ntmps76
  go_wp2
  go_loopw [5] (fun x wr => ∃ k : Nat, k ≤ n ∧ x = .int .i64 (k : Int) ∧ (∀ q ∈ ls.take k, q ≠ s) ∧ Below w.heap.size w wr) (fun x _ => n - (intOf x).toNat)
  case atStart => exact ⟨0, Nat.zero_le _, rfl, fun q hq => by simp at hq, Below.refl _ _⟩
  case round =>
    obtain ⟨k, hkn, rfl, hS, hb⟩ := hrel
    have HQ := Lib.hid hS; clear hS
    by_cases hlk : k < n
    · have hlkI : (k : Int) < (n : Int) := by omega
      obtain ⟨p, t, hA, -, -, hg, hE⟩ := (H.out.below TextE.stays hb (Nat.le_refl _)).at_ hlk
      subst hA
      have HG := Lib.hid hg; clear hg
      have c1 : wr.cell? (p.add k) = some (.string t) := by have := hE; unfold TextE at this; rwa [Nat.mul_one] at this
      clear hE
      obtain ⟨b, hbb⟩ : ∃ b, (t.toList == s.toList) = b := ⟨_, rfl⟩
      have HB := Lib.hid (bytes_is hbb)
      cases b
      · have HS2 := Lib.hid (all_snoc (P := fun q : ByteArray => q ≠ s) HG.out HQ.out (of_decide_eq_false HB.out.symm))
        go_wp2
        go_roundw
        case rel => exact ⟨k + 1, by omega, by go_num, HS2.out, hb⟩
        case measure => simp [intOf]; omega
      · have E := Lib.hid (there_yes (s := s) (by have := of_decide_eq_true HB.out.symm; rw [← this]; exact List.mem_of_getElem? HG.out))
        go_wp2
        go_ret; exact ⟨retB E.out.symm, hb⟩
    · have hke : k = n := by omega
      subst hke
      have E := Lib.hid (there_no (ls := ls) (s := s) (fun hx => HQ.out s (by rw [List.take_of_length_le (by rw [HL.out]; omega)]; exact hx) rfl))
      go_wp2
      go_ret; exact ⟨retB E.out.symm, hb⟩

/-- So far all that the name needs at once is there. -/
def MetTo (rs : List Rl) (nm : ByteArray) (i : Nat) (cur : List ByteArray) : Prop := ∀ r ∈ rs.take i, r.1.1 = nm → ∀ p ∈ r.2, p.2.1 ∈ cur

/-- What the walk keeps: the names are in a row, of the given ones, and on the way. -/
def WayTo (rs : List Rl) (U : List ByteArray) (nm : ByteArray) (out cur : List ByteArray) : Prop := NeedsOn rs nm out cur ∧ InRow cur ∧ ∀ x ∈ cur, x ∈ U

theorem few_names {U cur : List ByteArray} (hr : InRow cur) (h : ∀ x ∈ cur, x ∈ U) (hU : U.length ≤ 64) : cur.length ≤ 64 := Nat.le_trans (nodup_sub hr.nodup h) hU

set_option maxRecDepth 100000 in
set_option maxHeartbeats 8000000 in
theorem l2Needs_any (A : Option Addr) (n c : Nat) (rs : List Rl) (U : List ByteArray) (hU : U.length ≤ 64) (hn : n ≤ 8) (h4 : ∀ r ∈ rs, r.2.length ≤ 4) (hin : ∀ r ∈ rs, ∀ p ∈ r.2, p.2.1 ∈ U) : ∀ (t : Nat) (nm : ByteArray) (p0 : Addr) (d0 : Nat) (out : List ByteArray) (w : World),
    leftOf U out ≤ t → nm ∈ U → InRow out → (∀ x ∈ out, x ∈ U) → IsRules w 0 w.heap.size A n c rs → IsTexts w 0 w.heap.size (some p0) out.length d0 out →
    Calls Tryz.prog 77 #[.slice A n c, .string nm, .slice (some p0) out.length d0] w fun e w' => ∃ (p' : Addr) (d' : Nat) (out' : List ByteArray), e = .returned (.slice (some p') out'.length d') ∧ IsTexts w' 0 w'.heap.size (some p') out'.length d' out' ∧ NeedsTo rs nm out out' ∧ InRow out' ∧ (∀ x ∈ out', x ∈ U) ∧ Below w.heap.size w w' := by
  intro t
  induction t with
  | zero =>
    intro nm p0 d0 out w hl hnm hr ho h hT
    have hmem : nm ∈ out := by
      by_cases h0 : nm ∈ out
      · exact h0
      · have := leftOf_put hnm h0; omega
    have H := Lib.hid h; have HT := Lib.hid hT; have HM := Lib.hid hmem
    have HX := Lib.hid (And.intro hr ho)
    clear h hT hmem hr ho
    go_enter Tryz.func77, Tryz.ntmps77
    go_wp2_with fail
    refine (l2Has_any _ _ _ out nm _ HT.out).mono ?_; rintro e w1 ⟨rfl, hb1⟩
    rw [there_yes HM.out]
    go_wp2
    go_ret; exact ⟨p0, d0, out, rfl, HT.out.up TextE.stays hb1, NeedsTo.none HM.out, HX.out.1, HX.out.2, hb1⟩
  | succ t ih =>
    intro nm p0 d0 out w hl hnm hr ho h hT
    have HIH := Lib.hid ih
    have HLR := Lib.hid h.1
    have H := Lib.hid h; have HT := Lib.hid hT
    have HX := Lib.hid (And.intro hr ho)
    have HL := Lib.hid hl; have HNM := Lib.hid hnm
    have HU := Lib.hid hU; have H4 := Lib.hid h4; have HIN := Lib.hid hin
    have hol := few_names hr ho hU
    clear ih h hT hr ho hl hnm hU h4 hin
    by_cases hmem : nm ∈ out
    · have HM := Lib.hid hmem; clear hmem
      go_enter Tryz.func77, Tryz.ntmps77
      go_wp2_with fail
      refine (l2Has_any _ _ _ out nm _ HT.out).mono ?_; rintro e w1 ⟨rfl, hb1⟩
      rw [there_yes HM.out]
      go_wp2
      go_ret; exact ⟨p0, d0, out, rfl, HT.out.up TextE.stays hb1, NeedsTo.none HM.out, HX.out.1, HX.out.2, hb1⟩
    · have HM := Lib.hid hmem; clear hmem
      go_enter Tryz.func77, Tryz.ntmps77
      go_wp2_with fail
      refine (l2Has_any _ _ _ out nm _ HT.out).mono ?_; rintro e w1 ⟨rfl, hb1⟩
      rw [there_no HM.out]
      go_wp2_with fail
      refine (l2Put_any p0 _ d0 out nm w1 0 (Nat.zero_le _) (HT.out.up TextE.stays hb1) (by omega)).mono ?_; rintro e w2 ⟨p2, d2, rfl, hT2, hb2⟩
      have HB2 := belowThen hb1 hb2
      have HT2 := Lib.hid hT2
      have HW2 : Hid (WayTo rs U nm out (putT out nm)) := Lib.hid ⟨NeedsOn.start rs nm out, HX.out.1.put nm, fun x hx => (mem_putT.1 hx).elim (fun e => e ▸ HNM.out) (HX.out.2 x)⟩
      clear hT2 hb1 hb2
      go_wp2
      go_loopw [2, 7] (fun v x wr => ∃ (i : Nat) (p' : Addr) (d' : Nat) (cur : List ByteArray), i ≤ n ∧ x = .int .i64 (i : Int) ∧ v = .slice (some p') cur.length d' ∧ IsTexts wr 0 wr.heap.size (some p') cur.length d' cur ∧ WayTo rs U nm out cur ∧ MetTo rs nm i cur ∧ Below w.heap.size w wr) (fun _ x _ => n - (intOf x).toNat)
      case atStart => exact ⟨0, p2, d2, putT out nm, Nat.zero_le _, rfl, rfl, HT2.out, HW2.out, fun r hr => by simp at hr, HB2⟩
      case round =>
        obtain ⟨i, p', d', cur, hi, rfl, rfl, hTc, hW, hMet, hb⟩ := hrel
        have HTc := Lib.hid hTc; have HW := Lib.hid hW; have HMet := Lib.hid hMet
        clear hTc hW hMet
        by_cases hlt : i < n
        · have hltI : (i : Int) < (n : Int) := by omega
          go_wp2
          obtain ⟨w3, hw3⟩ : ∃ w3 : World, w3 = wr := ⟨_, rfl⟩
          subst hw3
          go_loopw [2, 8] (fun v x wr => ∃ (k : Nat) (p' : Addr) (d' : Nat) (cur : List ByteArray), x = .int .i64 (k : Int) ∧ v = .slice (some p') cur.length d' ∧ IsTexts wr 0 wr.heap.size (some p') cur.length d' cur ∧ WayTo rs U nm out cur ∧ MetTo rs nm i cur ∧ (∀ r, rs[i]? = some r → k ≤ r.2.length ∧ ∀ p ∈ r.2.take k, p.2.1 ∈ cur) ∧ Below w.heap.size w wr) (fun _ x _ => 4 - (intOf x).toNat)
          case atStart => exact ⟨0, p', d', cur, rfl, rfl, HTc.out, HW.out, HMet.out, fun r _ => ⟨Nat.zero_le _, fun p hp => by simp at hp⟩, hb⟩
          case round =>
            clear HTc HW HMet
            obtain ⟨k, p3, d3, cur3, rfl, rfl, hT3, hW3, hM3, hK3, hb3⟩ := hrel
            have HT3 := Lib.hid hT3; have HW3 := Lib.hid hW3; have HM3 := Lib.hid hM3
            clear hT3 hW3 hM3
            obtain ⟨q, r, A', n', c', B, m, d, hA, hqb, hg, e1, e2, e3, e4, e5, e6⟩ := rule_at (H.out.below RuleE.stays hb3 (Nat.le_refl _)) hlt
            subst hA
            have HG := Lib.hid hg
            obtain ⟨hkm, hkp⟩ := hK3 r hg
            have hm4 : r.2.length ≤ 4 := H4.out r (List.mem_of_getElem? hg)
            rw [e6.1] at hkm hm4
            have HKP := Lib.hid hkp
            have HP := Lib.hid (e6.keep (lo' := 0) (hi' := wr.heap.size) PartE.stays (fun _ _ _ => rfl) (Nat.le_refl _) hb3.size)
            clear hg hkp hK3 e2 e3 e4 e6
            have hc3 := few_names HW3.out.2.1 HW3.out.2.2 HU.out
            obtain ⟨b, hbb⟩ : ∃ b, (r.1.1.toList == nm.toList) = b := ⟨_, rfl⟩
            have HB := Lib.hid (bytes_is hbb)
            by_cases hkl : k < m
            · have hklI : (k : Int) < (m : Int) := by omega
              cases b
              · have HN := Lib.hid (all_snoc (P := fun r : Rl => r.1.1 = nm → ∀ p ∈ r.2, p.2.1 ∈ cur3) HG.out HM3.out (fun e => absurd e (of_decide_eq_false HB.out.symm)))
                go_wp2
                go_roundw
                case rel => exact ⟨i + 1, p3, d3, cur3, by omega, by go_num, rfl, HT3.out, HW3.out, HN.out, hb3⟩
                case measure => simp [intOf]; omega
              · have hnm := of_decide_eq_true HB.out.symm
                obtain ⟨pp, pt, hBp, _, hpp, hgp, hEp⟩ := HP.out.at_ hkl
                obtain ⟨A5, n5, c5, f1, f2, f3, f4, f5⟩ := hEp.out
                clear hEp f4 f5 f1
                subst hBp
                have HGP := Lib.hid hgp; clear hgp
                have hsucc : Succ rs nm pt.2.1 := ⟨r, List.mem_of_getElem? HG.out, hnm, pt, List.mem_of_getElem? HGP.out, rfl⟩
                have hleft : leftOf U cur3 ≤ t := by
                  have a1 := leftOf_less (us := U) HW3.out.1.1
                  have a2 := leftOf_put HNM.out HM.out
                  have a3 := HL.out
                  omega
                have hptU : pt.2.1 ∈ U := HIN.out r (List.mem_of_getElem? HG.out) pt (List.mem_of_getElem? HGP.out)
                have HSU := Lib.hid hsucc; have HLE := Lib.hid hleft; have HPU := Lib.hid hptU; have HNMM := Lib.hid hnm
                clear hsucc hleft hptU hnm
                go_wp2_with fail
                refine (HIH.out pt.2.1 p3 d3 cur3 _ HLE.out HPU.out HW3.out.2.1 HW3.out.2.2 (H.out.up RuleE.stays hb3) HT3.out).mono ?_
                rintro e w4 ⟨p4, d4, cur4, rfl, hT4, hN4, hR4, hU4, hb4⟩
                have HT4 := Lib.hid hT4
                have HW4 : Hid (WayTo rs U nm out cur4) := Lib.hid ⟨HW3.out.1.next HSU.out hN4, hR4, hU4⟩
                have HM4 : Hid (MetTo rs nm i cur4) := Lib.hid (fun r' hr' he p hp => hN4.1 _ (HM3.out r' hr' he p hp))
                have HK4 := Lib.hid (all_snoc (P := fun p : Pt => p.2.1 ∈ cur4) HGP.out (fun p hp => hN4.1 _ (HKP.out p hp)) hN4.2.1)
                have HPL := HP.out.1
                have hb5 := belowThen hb3 hb4
                clear hT4 hN4 hR4 hU4 hb4
                go_wp2
                go_roundw
                case rel => exact ⟨k + 1, p4, d4, cur4, by go_num, rfl, HT4.out, HW4.out, HM4.out, fun r' hr' => by
                  obtain rfl : r = r' := Option.some.inj (HG.out.symm.trans hr')
                  exact ⟨by omega, HK4.out⟩, hb5⟩
                case measure => simp [intOf]; omega
            · have hke : k = m := by omega
              have HN := Lib.hid (all_snoc (P := fun r : Rl => r.1.1 = nm → ∀ p ∈ r.2, p.2.1 ∈ cur3) HG.out HM3.out (fun _ p hp => HKP.out p (by rw [List.take_of_length_le (by rw [HP.out.1]; omega)]; exact hp)))
              subst hke
              go_wp2
              go_roundw
              case rel => exact ⟨i + 1, p3, d3, cur3, by omega, by go_num, rfl, HT3.out, HW3.out, HN.out, hb3⟩
              case measure => simp [intOf]; omega
        · have hin' : i = n := by omega
          subst hin'
          have HD : Hid (NeedsTo rs nm out cur) := Lib.hid (HW.out.1.done (fun b hs => by
            obtain ⟨r, hr, he, p, hp, rfl⟩ := hs
            exact HMet.out r (by rw [List.take_of_length_le (by rw [HLR.out]; omega)]; exact hr) he p hp))
          go_wp2
          go_ret; exact ⟨p', d', cur, rfl, HTc.out, HD.out, HW.out.2.1, HW.out.2.2, hb⟩

end Go.Proofs.YtnhbnhibphjljaaGreatDoor

namespace Go.Proofs.YtnhbnhibphjljaaGreatDoor
open Go.RowKit Go.Shelf Go.Maps Go.WideMaps
attribute [local go_sem] Oper.semAt_some

/-- How many of the first q places are not noted. -/
def missN (q : Nat) (N : Nat → Bool) : Nat := ((List.range q).filter fun i => !N i).length

theorem missN_put {q i : Nat} {N : Nat → Bool} (hi : i < q) (h : N i = false) : missN q (fun j => if j = i then true else N j) < missN q N := by
  unfold missN
  have key : ∀ l : List Nat, (l.filter fun j => !(if j = i then true else N j)).length ≤ (l.filter fun j => !N j).length ∧ (i ∈ l → (l.filter fun j => !(if j = i then true else N j)).length < (l.filter fun j => !N j).length) := by
    intro l
    induction l with
    | nil => exact ⟨Nat.le_refl _, fun h => absurd h List.not_mem_nil⟩
    | cons a l ih =>
      obtain ⟨ih1, ih2⟩ := ih
      by_cases e : a = i
      · subst e
        rw [List.filter_cons_of_neg (by simp), List.filter_cons_of_pos (by simp [h]), List.length_cons]
        exact ⟨by omega, fun _ => by omega⟩
      · cases hN : N a
        · rw [List.filter_cons_of_pos (by simp [e, hN]), List.filter_cons_of_pos (by simp [hN]), List.length_cons, List.length_cons]
          refine ⟨by omega, fun hm => ?_⟩
          have := ih2 ((List.mem_cons.1 hm).elim (fun x => absurd x.symm e) id)
          omega
        · rw [List.filter_cons_of_neg (by simp [e, hN]), List.filter_cons_of_neg (by simp [hN])]
          exact ⟨ih1, fun hm => ih2 ((List.mem_cons.1 hm).elim (fun x => absurd x.symm e) id)⟩
  exact (key (List.range q)).2 (List.mem_range.2 hi)

/-- What was noted of parts. -/
structure NeedOn (ps : List (ByteArray × Nat)) (l : List Pt) (q : Nat) (N : Nat → Bool) (bo : Bool) (N' : Nat → Bool) : Prop where
  keep : ∀ i, N i = true → N' i = true
  frm : ∀ i, N' i = true → N i = true ∨ ∃ p ∈ l, placeIn ps p.2.1 = i
  all : ∀ p ∈ l, N' (placeIn ps p.2.1) = true
  no : bo = false → N' = N
  yes : bo = true → missN q N' < missN q N

theorem NeedOn.start (ps : List (ByteArray × Nat)) (q : Nat) (N : Nat → Bool) : NeedOn ps [] q N false N :=
  ⟨fun _ h => h, fun _ h => .inl h, fun _ h => absurd h List.not_mem_nil, fun _ => rfl, fun h => by cases h⟩

theorem NeedOn.skip {ps : List (ByteArray × Nat)} {l : List Pt} {q : Nat} {N N' : Nat → Bool} {bo : Bool} (h : NeedOn ps l q N bo N') {p : Pt} {i : Nat} (hp : placeIn ps p.2.1 = i) (hi : N' i = true) : NeedOn ps (l ++ [p]) q N bo N' :=
  ⟨h.keep, fun j hj => (h.frm j hj).imp id fun ⟨x, hx, e⟩ => ⟨x, List.mem_append_left _ hx, e⟩, fun x hx => (List.mem_append.1 hx).elim (h.all x) fun hx => by rw [List.mem_singleton.1 hx, hp]; exact hi, h.no, h.yes⟩

theorem NeedOn.put {ps : List (ByteArray × Nat)} {l : List Pt} {q : Nat} {N N' : Nat → Bool} {bo : Bool} (h : NeedOn ps l q N bo N') {p : Pt} {i : Nat} (hp : placeIn ps p.2.1 = i) (hq : i < q) (hi : N' i = false) : NeedOn ps (l ++ [p]) q N true (fun j => if j = i then true else N' j) := by
  refine ⟨fun j hj => ?_, fun j hj => ?_, fun x hx => ?_, fun h => (by cases h), fun _ => ?_⟩
  · have := h.keep j hj
    by_cases e : j = i <;> simp [e]
    exact this
  · by_cases e : j = i
    · exact .inr ⟨p, by simp, by rw [hp, e]⟩
    · simp only [if_neg e] at hj
      exact (h.frm j hj).imp id fun ⟨x, hx, e⟩ => ⟨x, List.mem_append_left _ hx, e⟩
  · by_cases e : placeIn ps x.2.1 = i
    · simp [e]
    · simp only [if_neg e]
      rcases List.mem_append.1 hx with hx | hx
      · exact h.all x hx
      · rw [List.mem_singleton.1 hx, hp] at e; exact absurd rfl e
  · have h1 := missN_put hq hi
    cases hb : bo
    · rw [h.no hb] at h1; rwa [h.no hb]
    · exact Nat.lt_trans h1 (h.yes hb)

def NeedPost (ps : List (ByteArray × Nat)) (qs : List Pt) (q : Nat) (N : Nat → Bool) (g : Nat) (w : World) (e : Ending) (w' : World) : Prop :=
  ∃ (bo : Bool) (N' : Nat → Bool), e = .returned (.bool bo) ∧ NeedOn ps qs q N bo N' ∧ BoolRow w' g q N' ∧ w.grownBy w' (some g)

theorem grown_alloc (w : World) (o : Obj) (g : Nat) : w.grownBy (w.alloc o) (some g) := World.grownBy_alloc w o (some g)
theorem grown_on {a b c : World} {row : Option Nat} (h : a.grownBy b row) (k : b.grownBy c row) : a.grownBy c row :=
  ⟨k.os.trans h.os, k.tape.trans h.tape, k.output.trans h.output, Nat.le_trans h.size k.size, fun i hi hr => (k.block i (Nat.lt_of_lt_of_le hi h.size) hr).trans (h.block i hi hr)⟩

set_option maxRecDepth 100000 in
set_option maxHeartbeats 4000000 in
theorem needBody_any (nm : ByteArray) (A : Option Addr) (n c : Nat) (B : Option Addr) (m d : Nat) (qs : List Pt) (w : World) (hi : Nat) (h : IsParts w 0 hi B m d qs) (hm : m ≤ 4) (Av : Option Addr) (q cv b NN : Nat) (ps : List (ByteArray × Nat)) (L : List ByteArray)
    (hown : w.ownsMap Tryz.prog 9 (plainElem Tryz.prog 3) b NN (imap ps)) (hP : PlacesOf L ps) (hq : L.length = q) (hL : ∀ p ∈ qs, p.2.1 ∈ L) (hsm : ∀ p ∈ qs, p.2.1.size ≤ maxLen) (g : Nat) (N : Nat → Bool) (hh : BoolRow w g q N) (hg : hi ≤ g) (hbg : b ≠ g) :
    Calls Tryz.prog 78 #[.agg #[.string nm, .slice A n c, .slice B m d], .agg #[.slice Av q cv, .map (some b)], .slice (some ⟨g, 0, none⟩) q q] w (NeedPost ps qs q N g w) := by
  have HL := Lib.hid h.1
  have H := Lib.hid h; have HP := Lib.hid hP; have HQ := Lib.hid hq; have HLL := Lib.hid hL; have HH := Lib.hid hh; have HO := Lib.hid hown; have HSM := Lib.hid hsm
  have hgl := World.rowIs.lt hh
  have hbl := hown.lt
  clear h hP hq hL hh hown hsm
  refine (callsIn_wide (n := 6)).1 ?_
  refine callsIn_of_wp Tryz.func78 rfl trivial ?_ rfl
  simp only [Tryz.ntmps78, List.size_toArray, List.length_cons, List.length_nil, Nat.reduceAdd, Nat.reduceSub, Array.replicate_succ, Array.replicate_zero, List.push_toArray, List.append_toArray, List.nil_append, List.cons_append]
  gi_wp2
  have X1 := Blk.made (w.alloc (.cells #[.string nm, .slice A n c, .slice B m d] 72)) (b := w.heap.size + 1) 101 #[.slice Av q cv, .map (some b)] (by simp)
  have HX := Lib.hid X1; clear X1
  have G0 := grown_on (grown_alloc w (.cells #[.string nm, .slice A n c, .slice B m d] 72) g) (grown_alloc (w.alloc (.cells #[.string nm, .slice A n c, .slice B m d] 72)) (.cells #[.slice Av q cv, .map (some b)] 101) g)
  have HG0 := Lib.hid G0; clear G0
  have R0 := Lib.hid (HH.out.below (below2 w (.cells #[.string nm, .slice A n c, .slice B m d] 72) (.cells #[.slice Av q cv, .map (some b)] 101)))
  gi_loopw [7, 14] (fun y x wr => ∃ (j : Nat) (bo : Bool) (N' : Nat → Bool), j ≤ m ∧ y = .bool bo ∧ x = .int .i64 (j : Int) ∧ NeedOn ps (qs.take j) q N bo N' ∧ BoolRow wr g q N' ∧ Blk wr (w.heap.size + 1) 101 #[.slice Av q cv, .map (some b)] ∧ w.grownBy wr (some g) ∧ w.heap.size + 2 ≤ wr.heap.size) (fun _ x _ => m - (intOf x).toNat)
  case atStart => exact ⟨0, false, N, Nat.zero_le _, rfl, rfl, NeedOn.start ps q N, R0.out, HX.out, HG0.out, by simp⟩
  case round =>
    obtain ⟨j, bo, N', hjm, rfl, rfl, hN, hR, hX, hG, hwz⟩ := hrel
    have HN := Lib.hid hN; have HR := Lib.hid hR; have HX2 := Lib.hid hX; have HG := Lib.hid hG
    have x1 : wr.cell? ⟨w.heap.size + 1, 1, none⟩ = some (.map (some b)) := hX.cell 1
    clear hN hR hX hG
    by_cases hlt : j < m
    · have hltI : (j : Int) < (m : Int) := by omega
      obtain ⟨pp, p, hB, _, hpb, hg', hE⟩ := (H.out.keep (w' := wr) (lo' := 0) (hi' := hi) PartE.stays (fun x _ hx => World.cell?_of_block (HG.out.block x.block (by omega) (fun e => by injection e with e; omega))) (Nat.le_refl _) (Nat.le_refl _)).at_ hlt
      obtain ⟨A5, n5, c5, f1, f2, f3, f4, _⟩ := hE.out
      clear hE
      subst hB
      have HGP := Lib.hid hg'; clear hg'
      obtain ⟨i, hi'⟩ := List.getElem?_of_mem (HLL.out p (List.mem_of_getElem? HGP.out))
      have hiq : i < q := by rw [← HQ.out]; exact (List.getElem?_eq_some_iff.1 hi').1
      have hiI : (i : Int) < (q : Int) := by omega
      have HLO := Lib.hid (HP.out.1 i _ hi')
      have hpl : placeIn ps p.2.1 = i := by unfold placeIn; rw [HLO.out]; rfl
      have HPL := Lib.hid hpl
      have hb1 := below1 wr (.cells #[.bool p.1, .string p.2.1, .slice A5 n5 c5] 69)
      have GA := Lib.hid (grown_on HG.out (grown_alloc wr (.cells #[.bool p.1, .string p.2.1, .slice A5 n5 c5] 69) g))
      have HM3 := Lib.hid (HO.out.kept GA.out (fun e => by injection e with e; omega))
      have RA := Lib.hid (HR.out.below hb1)
      have c0 := World.rowIs.cell RA.out hiq
      have z0 := World.rowIs.frozen RA.out i
      have XA := Lib.hid (HX2.out.alloc (.cells #[.bool p.1, .string p.2.1, .slice A5 n5 c5] 69))
      have y1 := cellUp x1
      have hgz : g < wr.heap.size := by omega
      clear hi' hpl hb1
      obtain ⟨nb, nq1, tq⟩ := p
      simp only at f1 f2 f3
      have hstep : qs.take (j + 1) = qs.take j ++ [(nb, nq1, tq)] := by rw [List.take_add_one, HGP.out]; rfl
      have HST := Lib.hid hstep; clear hstep
      cases hNi : N' i
      · rw [hNi] at c0
        have HNX := Lib.hid (HN.out.put (p := (nb, nq1, tq)) HPL.out hiq hNi)
        clear hNi
        gi_wp2_with (gi_at_lookup; refine lookup_at _ rfl _ _ rfl b NN ps rfl HM3.out nq1 rfl f3 i (by rw [HLO.out]; rfl) ?_)
        have RS := Lib.hid ((HR.out.set i true).below (below1 (wr.setCell ⟨g, i, none⟩ (.bool true)) (.cells #[.bool nb, .string nq1, .slice A5 n5 c5] 69)))
        have XS := Lib.hid ((HX2.out.far (p := ⟨g, i, none⟩) (by simp; omega) (.bool true)).alloc (.cells #[.bool nb, .string nq1, .slice A5 n5 c5] 69))
        have GS := Lib.hid (grown_on (grown_on HG.out (grownBy_setC wr ⟨g, i, none⟩ (.bool true))) (grown_alloc _ (.cells #[.bool nb, .string nq1, .slice A5 n5 c5] 69) g))
        clear c0 z0 y1 x1
        go_roundw
        case rel => exact ⟨j + 1, true, _, by omega, rfl, by go_num, by rw [HST.out]; exact HNX.out, RS.out, XS.out, GS.out, by simp; omega⟩
        case measure => simp [intOf]; omega
      · rw [hNi] at c0
        have HNX := Lib.hid (HN.out.skip (p := (nb, nq1, tq)) HPL.out hNi)
        clear hNi
        gi_wp2_with (gi_at_lookup; refine lookup_at _ rfl _ _ rfl b NN ps rfl HM3.out nq1 rfl f3 i (by rw [HLO.out]; rfl) ?_)
        clear c0 z0 y1 x1
        go_roundw
        case rel => exact ⟨j + 1, bo, N', by omega, rfl, by go_num, by rw [HST.out]; exact HNX.out, RA.out, XA.out, GA.out, by simp; omega⟩
        case measure => simp [intOf]; omega
    · have hjm' : j = m := by omega
      subst hjm'
      have hjj : ¬ (j : Int) < (j : Int) := by omega
      have hqs : qs.take j = qs := List.take_of_length_le (by rw [HL.out]; exact Nat.le_refl _)
      have HNX : Hid (NeedOn ps qs q N bo N') := Lib.hid (by have := HN.out; rwa [hqs] at this)
      clear hqs
      gi_wp2
      go_ret
      exact ⟨bo, N', rfl, HNX.out, HR.out, HG.out⟩

end Go.Proofs.YtnhbnhibphjljaaGreatDoor

namespace Go.Proofs.YtnhbnhibphjljaaGreatDoor
open Go.RowKit Go.Shelf Go.Maps Go.WideMaps
attribute [local go_sem] Oper.semAt_some

/-- Of names those whose places are noted. -/
def keepN (L : List ByteArray) (N : Nat → Bool) (k : Nat) : List ByteArray := (List.range k).flatMap fun i => if N i = true then [nameAt L i] else []

theorem keepN_yes {L : List ByteArray} {N : Nat → Bool} {k : Nat} {s : ByteArray} (h : L[k]? = some s) (hN : N k = true) : keepN L N (k + 1) = keepN L N k ++ [s] := by
  unfold keepN; rw [List.range_succ, List.flatMap_append, List.flatMap_singleton, if_pos hN, nameAt_of h]
theorem keepN_no {L : List ByteArray} {N : Nat → Bool} {k : Nat} (hN : N k = false) : keepN L N (k + 1) = keepN L N k := by
  unfold keepN; rw [List.range_succ, List.flatMap_append, List.flatMap_singleton, if_neg (by rw [hN]; decide), List.append_nil]

theorem keepN_len (L : List ByteArray) (N : Nat → Bool) : ∀ k, (keepN L N k).length ≤ k
  | 0 => by simp [keepN]
  | k + 1 => by
    have := keepN_len L N k
    unfold keepN at this ⊢
    rw [List.range_succ, List.flatMap_append, List.flatMap_singleton, List.length_append]
    have h2 : (if N k = true then [nameAt L k] else []).length ≤ 1 := by split <;> simp
    omega

theorem mem_keepN {L : List ByteArray} {N : Nat → Bool} {k : Nat} {x : ByteArray} (hk : k ≤ L.length) : x ∈ keepN L N k ↔ ∃ i, i < k ∧ N i = true ∧ L[i]? = some x := by
  unfold keepN
  rw [List.mem_flatMap]
  constructor
  · rintro ⟨i, hi, hx⟩
    have hi := List.mem_range.1 hi
    split at hx
    next hN =>
      refine ⟨i, hi, hN, ?_⟩
      have hat : L[i]? = some L[i] := List.getElem?_eq_getElem (by omega)
      rw [List.mem_singleton.1 hx, nameAt_of hat, hat]
    next hN => cases hx
  · rintro ⟨i, hi, hN, hx⟩
    exact ⟨i, List.mem_range.2 hi, by rw [if_pos hN, nameAt_of hx]; exact List.mem_singleton.2 rfl⟩

theorem keepN_row {L : List ByteArray} {N : Nat → Bool} (hL : InRow L) : ∀ k, k ≤ L.length → InRow (keepN L N k)
  | 0, _ => List.Pairwise.nil
  | k + 1, hk => by
    have ih := keepN_row (N := N) hL k (by omega)
    have hat : L[k]? = some L[k] := List.getElem?_eq_getElem (by omega)
    cases hN : N k
    · rw [keepN_no hN]; exact ih
    · rw [keepN_yes hat hN]
      unfold InRow at ih hL ⊢
      refine List.pairwise_append.2 ⟨ih, List.pairwise_singleton _ _, fun x hx y hy => ?_⟩
      rw [List.mem_singleton.1 hy]
      obtain ⟨i, hi, _, hx'⟩ := (mem_keepN (by omega)).1 hx
      have hil := (List.getElem?_eq_some_iff.1 hx')
      obtain ⟨h1, h2⟩ := hil
      rw [← h2]
      exact List.pairwise_iff_getElem.1 hL i k h1 (by omega) hi

/-- What is noted is needed, and the name itself is noted. -/
def Noted (rs : List Rl) (nm : ByteArray) (L : List ByteArray) (first : Nat) (N : Nat → Bool) : Prop :=
  N first = true ∧ ∀ i, N i = true → ∃ s, L[i]? = some s ∧ Reach rs nm s

/-- Of rules whose head is noted all parts are. -/
def Shut (ps : List (ByteArray × Nat)) (rs : List Rl) (N : Nat → Bool) : Prop := ∀ r ∈ rs, N (placeIn ps r.1.1) = true → ∀ p ∈ r.2, N (placeIn ps p.2.1) = true

theorem place_at {L : List ByteArray} {ps : List (ByteArray × Nat)} (hP : PlacesOf L ps) {s : ByteArray} (hs : s ∈ L) : L[placeIn ps s]? = some s := by
  obtain ⟨i, hi⟩ := List.getElem?_of_mem hs
  have : placeIn ps s = i := by unfold placeIn; rw [hP.1 i s hi]; rfl
  rw [this]; exact hi

/-- A rule was walked through. -/
theorem Noted.next {rs : List Rl} {nm : ByteArray} {L : List ByteArray} {first q : Nat} {ps : List (ByteArray × Nat)} {N N' : Nat → Bool} {bo : Bool} {r : Rl} (h : Noted rs nm L first N) (hP : PlacesOf L ps) (hr : r ∈ rs) (hin : ∀ r ∈ rs, r.1.1 ∈ L ∧ ∀ p ∈ r.2, p.2.1 ∈ L) (hh : N (placeIn ps r.1.1) = true) (k : NeedOn ps r.2 q N bo N') : Noted rs nm L first N' := by
  refine ⟨k.keep _ h.1, fun i hi => ?_⟩
  rcases k.frm i hi with h1 | ⟨p, hp, e⟩
  · exact h.2 i h1
  · have hpl := place_at hP ((hin r hr).2 p hp)
    rw [e] at hpl
    obtain ⟨s, hs1, hs2⟩ := h.2 _ hh
    rw [place_at hP (hin r hr).1] at hs1
    injection hs1 with hs1
    subst hs1
    exact ⟨p.2.1, hpl, .step hs2 ⟨r, hr, rfl, p, hp, rfl⟩⟩

/-- All that a name needs, in a row. -/
noncomputable def needsOf (rs : List Rl) (nm : ByteArray) : List ByteArray := (namesL (atsOf rs)).filter fun x => @decide (Reach rs nm x) (Classical.propDecidable _)

theorem mem_needsOf {rs : List Rl} {nm x : ByteArray} : x ∈ needsOf rs nm ↔ x ∈ namesL (atsOf rs) ∧ Reach rs nm x := by
  unfold needsOf; rw [List.mem_filter, @decide_eq_true_iff _ (Classical.propDecidable _)]

theorem needsOf_row (rs : List Rl) (nm : ByteArray) : InRow (needsOf rs nm) := List.Pairwise.filter _ (namesL_row _)

theorem reach_names {rs : List Rl} {nm x : ByteArray} (h : nm ∈ namesL (atsOf rs)) (hr : Reach rs nm x) : x ∈ namesL (atsOf rs) := by
  induction hr with
  | refl => exact h
  | step _ hs _ =>
    obtain ⟨r, hr, _, p, hp, rfl⟩ := hs
    exact (names_in hr).2 p hp

/-- When nothing new comes, what is noted is what is needed. -/
theorem noted_all {rs : List Rl} {nm : ByteArray} {first : Nat} {ps : List (ByteArray × Nat)} {N : Nat → Bool} (hP : PlacesOf (namesL (atsOf rs)) ps) (hf : (namesL (atsOf rs))[first]? = some nm) (h : Noted rs nm (namesL (atsOf rs)) first N) (hs : Shut ps rs N) :
    keepN (namesL (atsOf rs)) N (namesL (atsOf rs)).length = needsOf rs nm := by
  have hnm : nm ∈ namesL (atsOf rs) := List.mem_of_getElem? hf
  have key : ∀ x, Reach rs nm x → N (placeIn ps x) = true := by
    intro x hx
    induction hx with
    | refl => rw [show placeIn ps nm = first by unfold placeIn; rw [hP.1 first nm hf]; rfl]; exact h.1
    | step _ hsc ih =>
      obtain ⟨r, hr, rfl, p, hp, rfl⟩ := hsc
      exact hs r hr ih p hp
  refine InRow.ext (keepN_row (namesL_row _) _ (Nat.le_refl _)) (needsOf_row rs nm) (fun x => ?_)
  rw [mem_keepN (Nat.le_refl _), mem_needsOf]
  constructor
  · rintro ⟨i, _, hN, hx⟩
    obtain ⟨s, hs1, hs2⟩ := h.2 i hN
    rw [hx] at hs1
    injection hs1 with hs1
    subst hs1
    exact ⟨List.mem_of_getElem? hx, hs2⟩
  · rintro ⟨hx, hr⟩
    have hpl := place_at hP hx
    exact ⟨placeIn ps x, (List.getElem?_eq_some_iff.1 hpl).1, key x hr, hpl⟩

open Classical in
/-- What ProgNeeds tells. -/
noncomputable def progNeeds (rs : List Rl) (nm : ByteArray) : List ByteArray := if progB rs = 0 ∧ nm ∈ namesL (atsOf rs) then needsOf rs nm else []

/-- 'v, ok := m[s]' on a map of numbers, outside a fence. -/
theorem lookup_okW {ops : Array Oper} {rest : List Oper} {o : Oper} {a : Act} {Q : Exit → Act → World → Prop} (w : World) (hg : o.guard = none) (m x : Operand) (hop : o.op = Op.lookup 87 m x true) (b N : Nat) (ps : List (ByteArray × Nat)) (hm : a.eval m = .map (some b)) (hown : w.ownsMap Tryz.prog 9 (plainElem Tryz.prog 3) b N (imap ps)) (s : ByteArray) (hx : a.eval x = .string s) (hs : s.size ≤ maxLen) (n : Nat) (sn : Bool) (h1 : (lastOf ps s).getD 0 = n) (h2 : (lastOf ps s).isSome = sn)
    (hK : wpList Tryz.prog ops Q rest (a.put o.dst (.tuple #[.int .i64 (n : Int), .bool sn])) w) : wpList Tryz.prog ops Q (o :: rest) a w :=
  wpList_lookup_own_ok_int w hg m x _ hop 9 3 .i64 Tryz.lawS Tryz.underlying87 Tryz.underlying3 (Tryz.zeroValue3 _) b N _ hm hown _ (strK s) hx (keyOf_string_mk Tryz.underlying9 hs) (fun c hat _ => by
    rw [imap_at] at hat
    injection hat with hat
    injection hat with _ hat
    rw [imap_has, ← hat, h1, h2]; exact hK)

/-- What stays all through: the table, its map, its names, and the row of what is noted. -/
structure NdSt (w : World) (gT g : Nat) (Av : Option Addr) (q cv b NN : Nat) (ps : List (ByteArray × Nat)) (L : List ByteArray) (N : Nat → Bool) (W : World) : Prop where
  T : Blk W gT 101 #[.slice Av q cv, .map (some b)]
  M : W.ownsMap Tryz.prog 9 (plainElem Tryz.prog 3) b NN (imap ps)
  X : IsTexts W w.heap.size gT Av q cv L
  R : BoolRow W g q N
  B : Below w.heap.size w W
  z : w.heap.size ≤ gT ∧ b < gT ∧ gT < g ∧ g < W.heap.size

section
variable {w W W' : World} {gT g : Nat} {Av : Option Addr} {q cv b NN : Nat} {ps : List (ByteArray × Nat)} {L : List ByteArray} {N N' : Nat → Bool}

theorem NdSt.turned (h : NdSt w gT g Av q cv b NN ps L N W) (hg : W.grownBy W' (some g)) (hR : BoolRow W' g q N') : NdSt w gT g Av q cv b NN ps L N' W' := by
  obtain ⟨z1, z2, z3, z4⟩ := h.z
  exact ⟨h.T.kept hg (fun e => by injection e with e; omega), h.M.kept hg (fun e => by injection e with e; omega), h.X.keep TextE.stays (fun x _ hx => World.cell?_of_block (hg.block x.block (by omega) (fun e => by injection e with e; omega))) (Nat.le_refl _) (Nat.le_refl _), hR, h.B.grown hg h.B.size (fun k hk => by injection hk with hk; omega), z1, z2, z3, Nat.lt_of_lt_of_le z4 hg.size⟩

theorem NdSt.below (h : NdSt w gT g Av q cv b NN ps L N W) (hb : Below W.heap.size W W') : NdSt w gT g Av q cv b NN ps L N W' := by
  obtain ⟨z1, z2, z3, z4⟩ := h.z
  exact ⟨h.T.below hb, ownsMap_below h.M hb h.M.lt, h.X.below TextE.stays hb (by omega), h.R.below hb, belowThen h.B hb, z1, z2, z3, Nat.lt_of_lt_of_le z4 hb.size⟩

/-- A row of the call's own that lies behind is grown. -/
theorem NdSt.behind {base : Nat} {row : Option Nat} (h : NdSt w gT g Av q cv b NN ps L N W) (hg : W.grownBy W' row) (hr : ∀ k, row = some k → base ≤ k) (hb : g < base) : NdSt w gT g Av q cv b NN ps L N W' := by
  obtain ⟨z1, z2, z3, z4⟩ := h.z
  have ne : ∀ x, x ≤ g → some x ≠ row := fun x hx e => by have := hr x e.symm; omega
  exact ⟨h.T.kept hg (ne _ (by omega)), h.M.kept hg (ne _ (by omega)), h.X.keep TextE.stays (fun x _ hx => World.cell?_of_block (hg.block x.block (by omega) (ne _ (by omega)))) (Nat.le_refl _) (Nat.le_refl _), h.R.keep (hg.block g z4 (ne _ (Nat.le_refl _))), h.B.grown hg h.B.size (fun k hk => by have := hr k hk; omega), z1, z2, z3, Nat.lt_of_lt_of_le z4 hg.size⟩
end

theorem Tryz.infoStr : (Tryz.prog.info? 9).map (fun i => (i.zero, i.size, i.bytes)) = some (some (.string ByteArray.empty), 1, 16) := by kernel_rfl

theorem missN_le (q : Nat) (N : Nat → Bool) : missN q N ≤ q := by
  unfold missN
  have := List.length_filter_le (fun i => !N i) (List.range q)
  rwa [List.length_range] at this

/-- How far a pass over the rules has come. -/
structure PassN (rs : List Rl) (nm : ByteArray) (L : List ByteArray) (ps : List (ByteArray × Nat)) (first q k : Nat) (N : Nat → Bool) (ch : Bool) (N' : Nat → Bool) : Prop where
  noted : Noted rs nm L first N'
  no : ch = false → N' = N ∧ Shut ps (rs.take k) N
  yes : ch = true → missN q N' < missN q N

theorem PassN.start {rs : List Rl} {nm : ByteArray} {L : List ByteArray} {ps : List (ByteArray × Nat)} {first q : Nat} {N : Nat → Bool} (h : Noted rs nm L first N) : PassN rs nm L ps first q 0 N false N :=
  ⟨h, fun _ => ⟨rfl, fun r hr => by simp at hr⟩, fun h => by cases h⟩

theorem PassN.skip {rs : List Rl} {nm : ByteArray} {L : List ByteArray} {ps : List (ByteArray × Nat)} {first q k : Nat} {N N' : Nat → Bool} {ch : Bool} {r : Rl} (h : PassN rs nm L ps first q k N ch N') (hr : rs[k]? = some r) (hn : N' (placeIn ps r.1.1) = false) : PassN rs nm L ps first q (k + 1) N ch N' := by
  refine ⟨h.noted, fun hc => ?_, h.yes⟩
  obtain ⟨e, hsh⟩ := h.no hc
  refine ⟨e, fun x hx hN => ?_⟩
  rw [List.take_add_one, hr] at hx
  rcases List.mem_append.1 hx with hx | hx
  · exact hsh x hx hN
  · have : x = r := by simpa using hx
    subst this
    rw [← e, hn] at hN; cases hN

theorem PassN.walked {rs : List Rl} {nm : ByteArray} {L : List ByteArray} {ps : List (ByteArray × Nat)} {first q k : Nat} {N N' N'' : Nat → Bool} {ch bo : Bool} {r : Rl} (h : PassN rs nm L ps first q k N ch N') (hP : PlacesOf L ps) (hin : ∀ r ∈ rs, r.1.1 ∈ L ∧ ∀ p ∈ r.2, p.2.1 ∈ L) (hr : rs[k]? = some r) (hn : N' (placeIn ps r.1.1) = true) (hb : NeedOn ps r.2 q N' bo N'') : PassN rs nm L ps first q (k + 1) N (ch || bo) N'' := by
  refine ⟨h.noted.next hP (List.mem_of_getElem? hr) hin hn hb, fun hc => ?_, fun hc => ?_⟩
  · rw [Bool.or_eq_false_iff] at hc
    obtain ⟨e, hsh⟩ := h.no hc.1
    have e2 := hb.no hc.2
    refine ⟨e2.trans e, fun x hx hN => ?_⟩
    rw [List.take_add_one, hr] at hx
    rcases List.mem_append.1 hx with hx | hx
    · exact hsh x hx hN
    · have : x = r := by simpa using hx
      subst this
      intro p hp
      rw [← e, ← e2]; exact hb.all p hp
  · cases hbo : bo
    · rw [hbo, Bool.or_false] at hc
      rw [hb.no hbo]; exact h.yes hc
    · have h1 := hb.yes hbo
      cases hch : ch
      · rw [(h.no hch).1] at h1; exact h1
      · exact Nat.lt_trans h1 (h.yes hch)

set_option maxRecDepth 100000 in
set_option maxHeartbeats 16000000 in
theorem implProgNeeds_any (A : Option Addr) (n c : Nat) (rs : List Rl) (nm : ByteArray) (w : World) (h : IsRules w 0 w.heap.size A n c rs) (hs : nm.size ≤ maxLen) (hk : ErrKind w) :
    Calls Tryz.prog 33 #[.slice A n c, .string nm] w fun e w' => ∃ v, e = .returned v ∧ w'.ownsRow w.heap.size 9 1 v (progNeeds rs nm).length (tcl (progNeeds rs nm)) ∧ Below w.heap.size w w' := by
  have HL := Lib.hid h.1
  have H := Lib.hid h; clear h
  have HE := Lib.hid hk; clear hk
  have HS := Lib.hid hs; clear hs
  obtain ⟨i0, hi, hz, hsz, hby⟩ := info_parts Tryz.infoBool
  obtain ⟨i2, hi2, hz2, hsz2, hby2⟩ := info_parts Tryz.infoStr
  have HI2 := Lib.hid hi2; have HZ2 := Lib.hid hz2; have HSZ2 := Lib.hid hsz2; have HYY2 := Lib.hid hby2
  have HI := Lib.hid hi; have HZB := Lib.hid hz; have HSZ := Lib.hid hsz; have HYY := Lib.hid hby
  clear hi2 hz2 hsz2 hby2 hi hz hsz hby
  go_enter Tryz.func33, Tryz.ntmps33
  go_wp2_with fail
  refine (implProgCheck_any A n c rs _ H.out HE.out).mono ?_; rintro e w1 ⟨rfl, hb1⟩
  obtain ⟨k, hk⟩ : ∃ k, progB rs = k := ⟨_, rfl⟩
  rw [hk]
  have HK := Lib.hid hk; clear hk
  by_cases h0 : k = 0
  · have hI : (k : Int) = 0 := by omega
    have hfine := HK.out.trans h0
    have HF := Lib.hid hfine
    have HZ := Lib.hid (prog_fine hfine)
    clear h0 hfine
    have hn8 : n ≤ 8 := by rw [← HL.out]; exact HZ.out.2
    have hlen := Nat.le_trans (atsOf_len rs (rule_four HZ.out.1)) (Nat.mul_le_mul_left 5 HZ.out.2)
    have hnl := namesL_len (atsOf rs)
    have hsm : ∀ s ∈ namesL (atsOf rs), s.size ≤ maxLen := fun s hs => by
      obtain ⟨a, ha, e⟩ := mem_namesL.1 hs
      rw [← e]; exact (atsOf_ok HZ.out.1 a ha).2
    have hin : ∀ r ∈ rs, r.1.1 ∈ namesL (atsOf rs) ∧ ∀ p ∈ r.2, p.2.1 ∈ namesL (atsOf rs) := fun r hr => names_in hr
    have hpn : nm ∉ namesL (atsOf rs) → progNeeds rs nm = [] := fun hn => if_neg (fun x => hn x.2)
    have hpy : nm ∈ namesL (atsOf rs) → progNeeds rs nm = needsOf rs nm := fun hn => if_pos ⟨HF.out, hn⟩
    have hall : ∀ (first : Nat) (ps : List (ByteArray × Nat)) (N : Nat → Bool), PlacesOf (namesL (atsOf rs)) ps → (namesL (atsOf rs))[first]? = some nm → Noted rs nm (namesL (atsOf rs)) first N → Shut ps rs N → keepN (namesL (atsOf rs)) N (namesL (atsOf rs)).length = needsOf rs nm := fun first ps N a b c d => noted_all a b c d
    obtain ⟨L, hLd⟩ : ∃ L, namesL (atsOf rs) = L := ⟨_, rfl⟩
    obtain ⟨q, hq⟩ : ∃ q, L.length = q := ⟨_, rfl⟩
    rw [hLd] at hnl hsm hin hpn hpy hall
    rw [hq] at hnl hall
    have hq40 : q ≤ 40 := by omega
    have HLD := Lib.hid hLd; have HQ := Lib.hid hq; have HSM := Lib.hid hsm; have HIN := Lib.hid hin
    have HPN := Lib.hid hpn; have HPY := Lib.hid hpy; have HALL := Lib.hid hall
    clear hLd hq hnl hsm hin hpn hpy hall hlen
    have hmk : ∀ W : World, (Instr.makeSlice 108 (.int .i64 (q : Int)) (.int .i64 (q : Int))).run Tryz.prog W = .ok (.slice (some ⟨W.heap.size, 0, none⟩) q q) (W.alloc (.cells (madeCells #[.bool false] (q * 1)) 4)) := by
      intro W
      have hr := run_make (P := Tryz.prog) W 108 4 i0 _ Tryz.underlying108 HI.out HZB.out .i64 .i64 q q (by omega) (Int.le_refl _) (by rw [HYY.out]; omega) (by omega)
      rw [HSZ.out] at hr
      exact hr
    go_wp2_with fail
    refine (namesOf_any A n c rs _ (H.out.up RuleE.stays hb1) hn8 (rule_four HZ.out.1) (fun a ha => (atsOf_ok HZ.out.1 a ha).2)).mono ?_; rintro e w2 ⟨v, b, NN, ps, rfl, hrow, ⟨hbw, hP⟩, hM, hb2⟩
    rw [HLD.out, HQ.out] at hrow; rw [HLD.out] at hP
    obtain ⟨Av, cv, rfl, O2⟩ := OwnTx.of_row hrow HQ.out.symm HSM.out (Nat.le_refl _)
    have HP := Lib.hid hP; have hbl := hM.lt
    have hz1 := hb1.size; have hz2' := hb2.size
    have hTX : IsTexts w2 w.heap.size w2.heap.size Av q cv L := O2.texts.keep TextE.stays (fun _ _ _ => rfl) hz1 (Nat.le_refl _)
    have hbT := below1 w2 (.cells #[.slice Av q cv, .map (some b)] 101)
    have X2 := Lib.hid (Blk.new w2 101 #[.slice Av q cv, .map (some b)])
    have M2 := Lib.hid (ownsMap_below hM hbT hbl)
    have T2 := Lib.hid (hTX.below TextE.stays hbT (Nat.le_refl _))
    have B2 := Lib.hid (belowThen (belowThen hb1 hb2) hbT)
    have hzT : (w2.alloc (.cells #[.slice Av q cv, .map (some b)] 101)).heap.size = w2.heap.size + 1 := by simp
    have t0 : (w2.alloc (.cells #[.slice Av q cv, .map (some b)] 101)).cell? ⟨w2.heap.size, 0, none⟩ = some (.slice Av q cv) := X2.out.cell 0
    have t1 : (w2.alloc (.cells #[.slice Av q cv, .map (some b)] 101)).cell? ⟨w2.heap.size, 1, none⟩ = some (.map (some b)) := X2.out.cell 1
    have hbz : w.heap.size ≤ w2.heap.size := by omega
    clear hrow O2 hP hM hTX hbT hb1 hb2
    by_cases hmem : nm ∈ L
    · have HPROG := Lib.hid (HPY.out hmem)
      obtain ⟨first, hfirst⟩ := List.getElem?_of_mem hmem
      have hlo : lastOf ps nm = some first := HP.out.1 first nm hfirst
      have hfq : first < q := by rw [← HQ.out]; exact (List.getElem?_eq_some_iff.1 hfirst).1
      have hfI : (first : Int) < (q : Int) := by omega
      have HFI := Lib.hid hfirst; have HLO := Lib.hid hlo
      clear hmem hfirst hlo
      have hba := below1 (w2.alloc (.cells #[.slice Av q cv, .map (some b)] 101)) (.cells (madeCells #[.bool false] q) 4)
      have R0 : BoolRow ((w2.alloc (.cells #[.slice Av q cv, .map (some b)] 101)).alloc (.cells (madeCells #[.bool false] q) 4)) (w2.heap.size + 1) q (fun _ => false) := by
        have := World.rowIs_made (w2.alloc (.cells #[.slice Av q cv, .map (some b)] 101)) (.bool false) q 4
        rw [hzT] at this
        exact this
      have c0 := World.rowIs.cell R0 hfq
      have z0 := World.rowIs.frozen R0 first
      have st : NdSt w w2.heap.size (w2.heap.size + 1) Av q cv b NN ps L (fun _ => false) ((w2.alloc (.cells #[.slice Av q cv, .map (some b)] 101)).alloc (.cells (madeCells #[.bool false] q) 4)) := ⟨X2.out.below hba, ownsMap_below M2.out hba M2.out.lt, T2.out.below TextE.stays hba (by omega), R0, belowThen B2.out hba, hbz, hbl, by omega, by simp⟩
      have hs0 := st.turned (grownBy_setC _ ⟨w2.heap.size + 1, first, none⟩ (.bool true)) (R0.set first true)
      rw [World.setCell_alloc_at _ _ _ _ _ (by simp)] at hs0
      have HS0 := Lib.hid hs0
      clear hs0
      have HNT0 : Hid (Noted rs nm L first (fun j => if j = first then true else false)) := Lib.hid ⟨if_pos rfl, fun i hi => by
        by_cases e : i = first
        · subst e; exact ⟨nm, HFI.out, .refl⟩
        · simp only [if_neg e] at hi; cases hi⟩
      clear R0 st hba
      go_wp2_with (at_lookup; refine lookup_okW _ rfl _ _ rfl b NN ps rfl M2.out nm rfl HS.out first true (by rw [HLO.out]; rfl) (by rw [HLO.out]; rfl) ?_)
      clear c0 z0 t0 t1 hmk
      have hM0 := missN_le q (fun j => if j = first then true else false)
      go_loopg [9] 100 (fun gk x wr => ∃ (go : Bool) (N : Nat → Bool), x = .bool go ∧ (if go = true then missN q N + 1 else 0) ≤ gk ∧ NdSt w w2.heap.size (w2.heap.size + 1) Av q cv b NN ps L N wr ∧ Noted rs nm L first N ∧ (go = false → Shut ps rs N))
      case atStart => exact ⟨true, _, rfl, by simp only [if_true]; omega, HS0.out, HNT0.out, fun h => by cases h⟩
      case round =>
        clear hM0 HS0 HNT0
        obtain ⟨go, N, rfl, hgk, hS, hN, hsh⟩ := hrel
        have HST := Lib.hid hS; have HNO := Lib.hid hN; have HSH := Lib.hid hsh; have HGK := Lib.hid hgk
        clear hS hN hsh hgk
        obtain ⟨z1, z2, z3, z4⟩ := HST.out.z
        cases go
        · have HSHUT := Lib.hid (HSH.out rfl)
          have HEND := Lib.hid (HALL.out first ps N HP.out HFI.out HNO.out HSHUT.out)
          have t0 : wr.cell? ⟨w2.heap.size, 0, none⟩ = some (.slice Av q cv) := HST.out.T.cell 0
          go_wp2
          obtain ⟨w3, hw3⟩ : ∃ w3 : World, w3 = wr := ⟨_, rfl⟩
          subst hw3
          go_loopw [12, 62] (fun y x wr => ∃ (j : Nat) (Ao : Option Addr) (ln co : Nat), j ≤ q ∧ x = .int .i64 (j : Int) ∧ y = .slice Ao ln co ∧ (keepN L N j).length = ln ∧ wr.ownsRow w3.heap.size 9 1 (.slice Ao ln co) ln (tcl (keepN L N j)) ∧ NdSt w w2.heap.size (w2.heap.size + 1) Av q cv b NN ps L N wr ∧ w3.heap.size ≤ wr.heap.size) (fun _ x _ => q - (intOf x).toNat)
          case atStart => exact ⟨0, none, 0, 0, Nat.zero_le _, rfl, rfl, rfl, ⟨rfl, .inl ⟨rfl, rfl⟩⟩, HST.out, Nat.le_refl _⟩
          case round =>
            clear t0
            obtain ⟨j, Ao, ln, co, hjq, rfl, rfl, hln, hrow, hS', hwz⟩ := hrel
            have hkl := keepN_len L N j
            rw [hln] at hkl
            have HRW := Lib.hid hrow; have HS' := Lib.hid hS'; have HLN := Lib.hid hln
            clear hrow hS' hln
            by_cases hlt : j < q
            · have hltI : (j : Int) < (q : Int) := by omega
              obtain ⟨p, s, hA, _, _, hg, hE⟩ := HS'.out.X.at_ hlt
              subst hA
              have c1 : wr.cell? (p.add j) = some (.string s) := by have := hE; unfold TextE at this; rwa [Nat.mul_one] at this
              have HG := Lib.hid hg
              have c4 := World.rowIs.cell HS'.out.R hlt
              clear hg hE
              cases hNj : N j
              · rw [hNj] at c4
                have HKN := Lib.hid (keepN_no (L := L) hNj)
                clear hNj
                go_wp2
                go_roundw
                case rel => exact ⟨j + 1, Ao, ln, co, by omega, by go_num, rfl, by rw [HKN.out]; exact HLN.out, by rw [HKN.out]; exact HRW.out, HS'.out, hwz⟩
                case measure => simp [intOf]; omega
              · rw [hNj] at c4
                have HKN := Lib.hid (keepN_yes HG.out hNj)
                have HNEW := Lib.hid (one_new wr (.string s) 9)
                clear hNj
                go_wp2_with (at_builtin; refine wpList_append_own _ rfl _ _ 29 rfl w3.heap.size 9 i2 _ 1 16 Tryz.underlying29 HI2.out HZ2.out HSZ2.out HYY2.out rfl (by decide) _ _ _ rfl (HRW.out.alloc _) ⟨wr.heap.size, 0, none⟩ 1 1 [.string s] rfl rfl HNEW.out (by simp [Value.oneCell']) (by unfold maxLen; omega) (by omega) (by simp; omega) ?_; intro v' w5 hown' hgrow' _; obtain ⟨g', cap', rfl⟩ := ownsRow_succ hown'; have hown := Lib.hid hown'; have hgrow := Lib.hid hgrow'; clear hown' hgrow')
                have hold := rowT_old (HRW.out.alloc (.cells #[.string s] 9))
                have HS5 := Lib.hid ((HS'.out.below (below1 wr (.cells #[.string s] 9))).behind hgrow.out hold z4)
                have hz5 : w3.heap.size ≤ w5.heap.size := by have := hgrow.out.size; simp at this; omega
                have HR5 : Hid (w5.ownsRow w3.heap.size 9 1 (.slice (some ⟨g', 0, none⟩) (ln + 1) cap') (ln + 1) (tcl (keepN L N (j + 1)))) := Lib.hid (by rw [HKN.out]; unfold tcl; rw [List.map_append]; exact hown.out)
                clear hown hgrow hold c1 c4
                go_roundw
                case rel => exact ⟨j + 1, _, _, _, by omega, by go_num, rfl, by rw [HKN.out, List.length_append, HLN.out]; rfl, HR5.out, HS5.out, hz5⟩
                case measure => simp [intOf]; omega
            · have hjq' : j = q := by omega
              subst hjq'
              have hjj : ¬ (j : Int) < (j : Int) := by omega
              have HFIN := Lib.hid (HEND.out.trans HPROG.out.symm)
              go_wp2
              go_ret
              exact ⟨_, rfl, by rw [← HFIN.out, HLN.out]; exact rowT_base HRW.out (by have := HST.out.B.size; omega), HS'.out.B⟩
        · have HNDR := Lib.hid (H.out.below RuleE.stays HST.out.B (Nat.le_refl _))
          go_wp2
          obtain ⟨w3, hw3⟩ : ∃ w3 : World, w3 = wr := ⟨_, rfl⟩
          subst hw3
          go_loopw [9, 39] (fun y x wr => ∃ (k : Nat) (ch : Bool) (N' : Nat → Bool), k ≤ n ∧ y = .bool ch ∧ x = .int .i64 (k : Int) ∧ NdSt w w2.heap.size (w2.heap.size + 1) Av q cv b NN ps L N' wr ∧ PassN rs nm L ps first q k N ch N') (fun _ x _ => n - (intOf x).toNat)
          case atStart => exact ⟨0, false, N, Nat.zero_le _, rfl, rfl, HST.out, PassN.start HNO.out⟩
          case round =>
            obtain ⟨k2, ch, N', hkn, rfl, rfl, hS', hPS⟩ := hrel
            have HS' := Lib.hid hS'; have HPS := Lib.hid hPS
            clear hS' hPS
            have hbS := HS'.out.B.size
            by_cases hlt : k2 < n
            · have hltI : (k2 : Int) < (n : Int) := by omega
              obtain ⟨p, r, A', n', c', B, mm, d, hA, hpb, hg, d1, d2, d3, d4, d5, d6⟩ := rule_at (H.out.below RuleE.stays HS'.out.B (Nat.le_refl _)) hlt
              subst hA
              have hrin := List.mem_of_getElem? hg
              have hpl := place_at HP.out (HIN.out r hrin).1
              obtain ⟨i, hpi⟩ : ∃ i, placeIn ps r.1.1 = i := ⟨_, rfl⟩
              rw [hpi] at hpl
              have hlo : lastOf ps r.1.1 = some i := HP.out.1 i _ hpl
              have hiq : i < q := by rw [← HQ.out]; exact (List.getElem?_eq_some_iff.1 hpl).1
              have hiI : (i : Int) < (q : Int) := by omega
              have hmm4 : mm ≤ 4 := by rw [← d6.1]; exact rule_four HZ.out.1 r hrin
              have HGr := Lib.hid hg; have HLO2 := Lib.hid hlo; have HPI := Lib.hid hpi
              have HPAR := Lib.hid d6
              have HINr := Lib.hid (HIN.out r hrin).2
              have ha1 := below1 wr (.cells #[.string r.1.1, .slice A' n' c', .slice B mm d] 72)
              have HSa := Lib.hid (HS'.out.below ha1)
              have u1 : (wr.alloc (.cells #[.string r.1.1, .slice A' n' c', .slice B mm d] 72)).cell? ⟨w2.heap.size, 1, none⟩ = some (.map (some b)) := HSa.out.T.cell 1
              have u0 : (wr.alloc (.cells #[.string r.1.1, .slice A' n' c', .slice B mm d] 72)).cell? ⟨w2.heap.size, 0, none⟩ = some (.slice Av q cv) := HSa.out.T.cell 0
              have c4 := World.rowIs.cell HSa.out.R hiq
              have hbw' : b ≠ w2.heap.size + 1 := by omega
              clear hg hpl hlo hrin d4 d6 hpi ha1
              cases hNi : N' i
              · rw [hNi] at c4
                have HNX := Lib.hid (HPS.out.skip HGr.out (by rw [HPI.out]; exact hNi))
                clear hNi
                go_wp2_with (at_lookup; refine lookup_atW _ rfl _ _ rfl b NN ps rfl HSa.out.M r.1.1 rfl d2 i (by rw [HLO2.out]; rfl) ?_)
                go_roundw
                case rel => exact ⟨k2 + 1, ch, N', by omega, rfl, by go_num, HSa.out, HNX.out⟩
                case measure => simp [intOf]; omega
              · rw [hNi] at c4
                have HNi := Lib.hid hNi; clear hNi
                go_wp2_with (first
                  | (at_lookup; refine lookup_atW _ rfl _ _ rfl b NN ps rfl HSa.out.M r.1.1 rfl d2 i (by rw [HLO2.out]; rfl) ?_)
                  | (go_at_call 78; refine (needBody_any r.1.1 A' n' c' B mm d r.2 _ w.heap.size (HPAR.out.keep PartE.stays (fun x _ hx => World.cell?_of_block (Below.heap_alloc wr _ x.block (by omega))) (Nat.le_refl _) (Nat.le_refl _)) hmm4 Av q cv b NN ps L HSa.out.M HP.out HQ.out HINr.out (fun p hp => HSM.out _ (HINr.out p hp)) (w2.heap.size + 1) N' HSa.out.R (by omega) hbw').mono ?_; rintro e w5 ⟨bo, N'', rfl, hNB, hR5, hg5⟩; have HNB := Lib.hid hNB; have HS5 := Lib.hid (HSa.out.turned hg5 hR5); clear hNB hR5 hg5; cases bo))
                · have HNX := Lib.hid (HPS.out.walked HP.out HIN.out HGr.out (by rw [HPI.out]; exact HNi.out) HNB.out)
                  rw [Bool.or_false] at HNX
                  go_wp2
                  go_roundw
                  case rel => exact ⟨k2 + 1, ch, N'', by omega, rfl, by go_num, HS5.out, HNX.out⟩
                  case measure => simp [intOf]; omega
                · have HNX := Lib.hid (HPS.out.walked HP.out HIN.out HGr.out (by rw [HPI.out]; exact HNi.out) HNB.out)
                  rw [Bool.or_true] at HNX
                  go_wp2
                  go_roundw
                  case rel => exact ⟨k2 + 1, true, N'', by omega, rfl, by go_num, HS5.out, HNX.out⟩
                  case measure => simp [intOf]; omega
            · have hke : k2 = n := by omega
              have hkI : ¬ (k2 : Int) < (n : Int) := by omega
              have HTK := Lib.hid (show rs.take k2 = rs from List.take_of_length_le (by rw [HL.out]; omega))
              have hgk : missN q N + 1 ≤ gk := by have := HGK.out; simpa using this
              cases ch
              · obtain ⟨e1, e2⟩ := HPS.out.no rfl
                rw [HTK.out] at e2
                have HE1 := Lib.hid e1; have HE2 := Lib.hid e2
                have hnt := HPS.out.noted
                have HNT := Lib.hid hnt
                clear e1 e2 hnt
                go_wp2_with fail
                go_roundg 0
                case rel => exact ⟨false, N', rfl, by simp, HS'.out, HNT.out, fun _ => by rw [HE1.out]; exact HE2.out⟩
                case measure => omega
              · have hy := HPS.out.yes rfl
                have HNT := Lib.hid HPS.out.noted
                go_wp2_with fail
                go_roundg (missN q N' + 1)
                case rel => exact ⟨true, N', rfl, by simp, HS'.out, HNT.out, fun h => by cases h⟩
                case measure => omega
    · have HPROG := Lib.hid (HPN.out hmem)
      have hlo : lastOf ps nm = none := HP.out.2 nm hmem
      have HLO := Lib.hid hlo
      clear hmem hlo
      go_wp2_with (at_lookup; refine lookup_okW _ rfl _ _ rfl b NN ps rfl M2.out nm rfl HS.out 0 false (by rw [HLO.out]; rfl) (by rw [HLO.out]; rfl) ?_)
      go_ret; exact ⟨_, rfl, by rw [HPROG.out]; exact World.ownsRow_nil _ _ _ _, B2.out⟩
  · have E := Lib.hid (show progNeeds rs nm = [] from if_neg (fun x => h0 (HK.out.symm.trans x.1)))
    have hI : ¬ (k : Int) = 0 := by omega
    clear h0
    go_wp2
    go_ret; exact ⟨_, rfl, by rw [E.out]; exact World.ownsRow_nil _ _ _ _, hb1⟩

end Go.Proofs.YtnhbnhibphjljaaGreatDoor

namespace Go.Proofs.YtnhbnhibphjljaaGreatDoor
open Go.RowKit

/-- What ProgNames tells. -/
def progNames (rs : List Rl) : List ByteArray := if progB rs = 0 then namesL (atsOf rs) else []

set_option maxRecDepth 100000 in
set_option maxHeartbeats 4000000 in
theorem specProgNames_any (A : Option Addr) (n c : Nat) (rs : List Rl) (w : World) (h : IsRules w 0 w.heap.size A n c rs) :
    Calls Tryz.prog 19 #[.slice A n c] w (TextsPost w.heap.size (progNames rs) w) := by
  have HL := Lib.hid h.1
  have H := Lib.hid h; clear h
  go_enter Tryz.func19, Tryz.ntmps19
  go_wp2_with fail
  refine (specProgCheck_any A n c rs _ H.out).mono ?_; rintro e w1 ⟨rfl, hb1⟩
  obtain ⟨k, hk⟩ : ∃ k, progB rs = k := ⟨_, rfl⟩
  rw [hk]
  have HK := Lib.hid hk; clear hk
  by_cases h0 : k = 0
  · have E := Lib.hid (show progNames rs = namesL (atsOf rs) from if_pos (HK.out.trans h0))
    have hI : (k : Int) = 0 := by omega
    have h3 := HK.out.trans h0
    have h1 : rs.all ruleB = true := by
      cases h1 : rs.all ruleB with
      | false => rw [prog1 h1] at h3; exact absurd h3 (by decide)
      | true => rfl
    have h2 : rs.length ≤ 8 := by
      by_cases h2 : 8 < rs.length
      · rw [prog2 h1 h2] at h3; exact absurd h3 (by decide)
      · omega
    have H1 := Lib.hid h1; have H2 := Lib.hid h2
    clear h0 h1 h2 h3
    go_wp2_with fail
    refine (l2Names_any A n c rs _ (H.out.up RuleE.stays hb1) (by rw [← HL.out]; exact H2.out) (rule_four H1.out)).mono ?_; rintro e w2 ⟨p2, d2, rfl, hT2, hb2⟩
    have HT2 := Lib.hid (hT2.keep (lo' := w.heap.size) (hi' := w2.heap.size) TextE.stays (fun _ _ _ => rfl) hb1.size (Nat.le_refl _)); clear hT2
    go_wp2
    go_ret; exact ⟨p2, d2, by rw [E.out]; rfl, by rw [E.out]; exact HT2.out, belowThen hb1 hb2⟩
  · have E := Lib.hid (show progNames rs = [] from if_neg (fun e => h0 (HK.out.symm.trans e)))
    have hI : ¬ (k : Int) = 0 := by omega
    clear h0
    go_wp2
    go_ret; exact ⟨⟨w1.heap.size, 0, none⟩, 0, by rw [E.out]; rfl, by rw [E.out]; exact ⟨rfl, Nat.le_refl _, Nat.zero_le _, fun h0 => absurd h0 (by decide)⟩, belowThen hb1 (below1 _ _)⟩

theorem progNames_small (rs : List Rl) : (progNames rs).length ≤ 40 ∧ ∀ s ∈ progNames rs, s.size ≤ maxLen := by
  unfold progNames
  by_cases h : progB rs = 0
  · obtain ⟨h1, h2⟩ := prog_fine h
    rw [if_pos h]
    refine ⟨?_, fun s hs => ?_⟩
    · have a := namesL_len (atsOf rs)
      have b := atsOf_len rs (rule_four h1)
      omega
    · obtain ⟨a, ha, rfl⟩ := mem_namesL.1 hs
      exact (atsOf_ok h1 a ha).2
  · rw [if_neg h]
    exact ⟨by simp, fun s hs => by simp at hs⟩

set_option maxRecDepth 100000 in
set_option maxHeartbeats 4000000 in
theorem implProgNames_any (A : Option Addr) (n c : Nat) (rs : List Rl) (w : World) (h : IsRules w 0 w.heap.size A n c rs) (hk : ErrKind w) :
    Calls Tryz.prog 20 #[.slice A n c] w fun e w' => ∃ v, e = .returned v ∧ w'.ownsRow w.heap.size 9 1 v (progNames rs).length (tcl (progNames rs)) ∧ Below w.heap.size w w' := by
  have HL := Lib.hid h.1
  have H := Lib.hid h; clear h
  have HE := Lib.hid hk; clear hk
  go_enter Tryz.func20, Tryz.ntmps20
  go_wp2_with fail
  refine (implProgCheck_any A n c rs _ H.out HE.out).mono ?_; rintro e w1 ⟨rfl, hb1⟩
  obtain ⟨k, hk⟩ : ∃ k, progB rs = k := ⟨_, rfl⟩
  rw [hk]
  have HK := Lib.hid hk; clear hk
  by_cases h0 : k = 0
  · have E := Lib.hid (show progNames rs = namesL (atsOf rs) from if_pos (HK.out.trans h0))
    have hI : (k : Int) = 0 := by omega
    have HZ := Lib.hid (prog_fine (HK.out.trans h0))
    clear h0
    go_wp2_with fail
    refine (namesOf_any A n c rs _ (H.out.up RuleE.stays hb1) (by rw [← HL.out]; exact HZ.out.2) (rule_four HZ.out.1) (fun a ha => (atsOf_ok HZ.out.1 a ha).2)).mono ?_; rintro e w2 ⟨v, b, N, ps, rfl, hrow, _, _, hb2⟩
    have HR := Lib.hid (rowT_base hrow hb1.size); clear hrow
    have hfd := field_names v b
    go_wp2
    go_ret; exact ⟨v, rfl, by rw [E.out]; exact HR.out, belowThen hb1 hb2⟩
  · have E := Lib.hid (show progNames rs = [] from if_neg (fun e => h0 (HK.out.symm.trans e)))
    have hI : ¬ (k : Int) = 0 := by omega
    clear h0
    go_wp2
    go_ret; exact ⟨_, rfl, by rw [E.out]; exact World.ownsRow_nil _ _ _ _, hb1⟩

end Go.Proofs.YtnhbnhibphjljaaGreatDoor

namespace Go.Proofs.YtnhbnhibphjljaaGreatDoor
open Go.RowKit

end Go.Proofs.YtnhbnhibphjljaaGreatDoor

namespace Go.Proofs.YtnhbnhibphjljaaGreatDoor
open Go.RowKit

/-- Is a name the name of a head? -/
def headsB (rs : List Rl) (nm : ByteArray) : Bool := rs.any fun r => decide (r.1.1 = nm)

/-- Are the rules fine, and is the name a head's? -/
def headsA (rs : List Rl) (nm : ByteArray) : Bool := decide (progB rs = 0) && headsB rs nm

theorem heads_yes {rs : List Rl} {nm : ByteArray} {k : Nat} {r : Rl} (h : rs[k]? = some r) (he : true = decide (r.1.1 = nm)) : headsB rs nm = true := by
  unfold headsB; rw [List.any_eq_true]; exact ⟨r, List.mem_of_getElem? h, he.symm⟩

theorem heads_no {rs : List Rl} {nm : ByteArray} {n : Nat} (hn : rs.length = n) (h : ∀ q ∈ rs.take n, q.1.1 ≠ nm) : headsB rs nm = false := by
  rw [List.take_of_length_le (by omega)] at h
  unfold headsB; rw [List.any_eq_false]; exact fun q hq => by simpa using h q hq

set_option maxRecDepth 100000 in
set_option maxHeartbeats 4000000 in
theorem l2Heads_any (A : Option Addr) (n c : Nat) (rs : List Rl) (nm : ByteArray) (w : World) (h : IsRules w 0 w.heap.size A n c rs) :
    Calls Tryz.prog 73 #[.slice A n c, .string nm] w (BoolPost (headsB rs nm) w) := by
  have hm := h.len
  unfold maxLen at hm
  have HL := Lib.hid h.1
  have H := Lib.hid h; clear h
  go_enter Tryz.func73, Tryz.ntmps73
  go_wp2
  go_loopw [5] (fun x wr => ∃ k : Nat, k ≤ n ∧ x = .int .i64 (k : Int) ∧ (∀ q ∈ rs.take k, q.1.1 ≠ nm) ∧ Below w.heap.size w wr) (fun x _ => n - (intOf x).toNat)
  case atStart => exact ⟨0, Nat.zero_le _, rfl, fun q hq => by simp at hq, Below.refl _ _⟩
  case round =>
    obtain ⟨k, hkn, rfl, hS, hb⟩ := hrel
    have HQ := Lib.hid hS; clear hS
    by_cases hlk : k < n
    · obtain ⟨p, r, A', n', c', B, m, d, hA, hpb, hg, d1, d2, d3, d4, d5, d6⟩ := rule_at (H.out.below RuleE.stays hb (Nat.le_refl _)) hlk
      subst hA
      have HG := Lib.hid hg
      clear hg d2 d3 d4 d5 d6
      obtain ⟨b, hbb⟩ : ∃ b, (r.1.1.toList == nm.toList) = b := ⟨_, rfl⟩
      have HB := Lib.hid (bytes_is hbb)
      cases b
      · have HS2 := Lib.hid (all_snoc (P := fun q : Rl => q.1.1 ≠ nm) HG.out HQ.out (of_decide_eq_false HB.out.symm))
        go_wp2
        go_roundw
        case rel => exact ⟨k + 1, by omega, by go_num, HS2.out, hb⟩
        case measure => simp [intOf]; omega
      · have E := Lib.hid (heads_yes HG.out HB.out)
        go_wp2
        go_ret; exact ⟨retB E.out.symm, hb⟩
    · have hke : k = n := by omega
      subst hke
      have E := Lib.hid (heads_no HL.out HQ.out)
      go_wp2
      go_ret; exact ⟨retB E.out.symm, hb⟩

set_option maxRecDepth 100000 in
set_option maxHeartbeats 4000000 in
theorem specProgHeads_any (A : Option Addr) (n c : Nat) (rs : List Rl) (nm : ByteArray) (w : World) (h : IsRules w 0 w.heap.size A n c rs) :
    Calls Tryz.prog 25 #[.slice A n c, .string nm] w (BoolPost (headsA rs nm) w) := by
  have H := Lib.hid h; clear h
  go_enter Tryz.func25, Tryz.ntmps25
  go_wp2_with fail
  refine (specProgCheck_any A n c rs _ H.out).mono ?_; rintro e w1 ⟨rfl, hb1⟩
  obtain ⟨k, hk⟩ : ∃ k, progB rs = k := ⟨_, rfl⟩
  rw [hk]
  have HK := Lib.hid hk; clear hk
  by_cases h0 : k = 0
  · have E := Lib.hid (show headsA rs nm = headsB rs nm by unfold headsA; rw [HK.out, decide_eq_true h0, Bool.true_and])
    have hI : (k : Int) = 0 := by omega
    clear h0
    go_wp2_with fail
    refine (l2Heads_any A n c rs nm _ (H.out.up RuleE.stays hb1)).mono ?_; rintro e w2 ⟨rfl, hb2⟩
    go_wp2
    go_ret; exact ⟨retB E.out.symm, belowThen hb1 hb2⟩
  · have E := Lib.hid (show headsA rs nm = false by unfold headsA; rw [HK.out, decide_eq_false h0, Bool.false_and])
    have hI : ¬ (k : Int) = 0 := by omega
    clear h0
    go_wp2
    go_ret; exact ⟨retB E.out.symm, hb1⟩

/-- Is this the head that is looked for? -/
theorem headIs_any (s nm : ByteArray) (x y : Value) (b : Nat) (w : World) (hb : w.cell? ⟨b, 0, none⟩ = some (.string nm)) (hl : b < w.heap.size) :
    Calls Tryz.prog 74 #[.agg #[.string s, x, y], .pointer (some ⟨b, 0, none⟩)] w (BoolPost (decide (s = nm)) w) := by
  have hb' := ((below1 w (.cells #[.string s, x, y] 72)).cell (p := ⟨b, 0, none⟩) hl).trans hb
  obtain ⟨v, hv⟩ : ∃ v, (s.toList == nm.toList) = v := ⟨_, rfl⟩
  have HV := Lib.hid (bytes_is hv)
  go_enter Tryz.func74, Tryz.ntmps74
  go_wp2
  go_ret; exact ⟨retB HV.out, below1 _ _⟩

set_option maxRecDepth 100000 in
set_option maxHeartbeats 4000000 in
theorem indexHead_any (A : Option Addr) (n c : Nat) (rs : List Rl) (nm : ByteArray) (b : Nat) (w : World) (h : IsRules w 0 w.heap.size A n c rs) (hbx : w.cell? ⟨b, 0, none⟩ = some (.string nm)) (hbl : b < w.heap.size) :
    Calls Tryz.prog 111 #[.slice A n c, .func (.func 74) #[] #[.pointer (some ⟨b, 0, none⟩)]] w (fun e w' => ∃ k : Int, e = .returned (.int .i64 k) ∧ decide (0 ≤ k) = headsB rs nm ∧ Below w.heap.size w w') := by
  have hm := h.len
  unfold maxLen at hm
  have HL := Lib.hid h.1
  have H := Lib.hid h; clear h
  have HX := Lib.hid hbx; clear hbx
  go_enter Tryz.func111, Tryz.ntmps111
  go_wp2
  go_loopw [5, 8] (fun _ x wr => ∃ k : Nat, k ≤ n ∧ x = .int .i64 (k : Int) ∧ (∀ q ∈ rs.take k, q.1.1 ≠ nm) ∧ Below w.heap.size w wr) (fun _ x _ => n - (intOf x).toNat)
  case atStart => exact ⟨0, Nat.zero_le _, rfl, fun q hq => by simp at hq, Below.refl _ _⟩
  case round =>
    obtain ⟨k, hkn, rfl, hS, hb⟩ := hrel
    have HQ := Lib.hid hS; clear hS
    by_cases hlk : k < n
    · obtain ⟨p, r, A', n', c', B, m, d, hA, hpb, hg, d1, d2, d3, d4, d5, d6⟩ := rule_at (H.out.below RuleE.stays hb (Nat.le_refl _)) hlk
      subst hA
      have HG := Lib.hid hg
      clear hg d2 d4 d6
      have hc := (hb.cell (p := ⟨b, 0, none⟩) hbl).trans HX.out
      have HC := Lib.hid hc; clear hc
      go_wp2_with fail
      refine (headIs_any r.1.1 nm _ _ b _ HC.out (Nat.lt_of_lt_of_le hbl hb.size)).mono ?_; rintro e w2 ⟨rfl, hb2⟩
      by_cases hr : r.1.1 = nm
      · have E := Lib.hid (heads_yes HG.out (decide_eq_true hr).symm)
        rw [decide_eq_true hr]
        clear hr d1 d3 d5
        go_wp2
        go_ret; exact ⟨(k : Int), rfl, by rw [E.out]; simp, belowThen hb hb2⟩
      · have HS2 := Lib.hid (all_snoc (P := fun q : Rl => q.1.1 ≠ nm) HG.out HQ.out hr)
        rw [decide_eq_false hr]
        clear hr d1 d3 d5
        go_wp2
        go_roundw
        case rel => exact ⟨k + 1, by omega, by go_num, HS2.out, belowThen hb hb2⟩
        case measure => simp [intOf]; omega
    · have hke : k = n := by omega
      subst hke
      have E := Lib.hid (heads_no HL.out HQ.out)
      go_wp2
      go_ret; exact ⟨-1, rfl, by rw [E.out]; simp, hb⟩

set_option maxRecDepth 100000 in
set_option maxHeartbeats 4000000 in
theorem containsHead_any (A : Option Addr) (n c : Nat) (rs : List Rl) (nm : ByteArray) (b : Nat) (w : World) (h : IsRules w 0 w.heap.size A n c rs) (hbx : w.cell? ⟨b, 0, none⟩ = some (.string nm)) (hbl : b < w.heap.size) :
    Calls Tryz.prog 63 #[.slice A n c, .func (.func 74) #[] #[.pointer (some ⟨b, 0, none⟩)]] w (BoolPost (headsB rs nm) w) := by
  have H := Lib.hid h; clear h
  have HX := Lib.hid hbx; clear hbx
  go_enter Tryz.func63, Tryz.ntmps63
  go_wp2_with fail
  refine (indexHead_any A n c rs nm b _ H.out HX.out hbl).mono ?_; rintro e w1 ⟨k, rfl, hk, hb1⟩
  have HK := Lib.hid hk; clear hk
  go_wp2
  go_ret; exact ⟨retB (by rw [← HK.out]), hb1⟩

set_option maxRecDepth 100000 in
set_option maxHeartbeats 4000000 in
theorem implProgHeads_any (A : Option Addr) (n c : Nat) (rs : List Rl) (nm : ByteArray) (w : World) (h : IsRules w 0 w.heap.size A n c rs) (hk : ErrKind w) :
    Calls Tryz.prog 26 #[.slice A n c, .string nm] w (BoolPost (headsA rs nm) w) := by
  have H := Lib.hid h; clear h
  have HE := Lib.hid hk; clear hk
  have h0 := below1 w (.cells #[.string nm] 9)
  have hc0 : (w.alloc (.cells #[.string nm] 9)).cell? ⟨w.heap.size, 0, none⟩ = some (.string nm) := by simp
  have HC := Lib.hid hc0; clear hc0
  go_enter Tryz.func26, Tryz.ntmps26
  go_wp2_with fail
  refine (implProgCheck_any A n c rs _ (H.out.up RuleE.stays h0) (HE.out.later h0)).mono ?_; rintro e w1 ⟨rfl, hb1⟩
  have HB1 := belowThen h0 hb1
  have hlt : w.heap.size < (w.alloc (.cells #[.string nm] 9)).heap.size := by simp
  have hc1 := (hb1.cell (p := ⟨w.heap.size, 0, none⟩) hlt).trans HC.out
  have hl1 : w.heap.size < w1.heap.size := Nat.lt_of_lt_of_le hlt hb1.size
  have HC1 := Lib.hid hc1; clear hc1 hlt hb1
  obtain ⟨k, hk⟩ : ∃ k, progB rs = k := ⟨_, rfl⟩
  rw [hk]
  have HK := Lib.hid hk; clear hk
  by_cases h0 : k = 0
  · have E := Lib.hid (show headsA rs nm = headsB rs nm by unfold headsA; rw [HK.out, decide_eq_true h0, Bool.true_and])
    have hI : (k : Int) = 0 := by omega
    clear h0
    go_wp2_with fail
    refine (containsHead_any A n c rs nm _ _ (H.out.up RuleE.stays HB1) HC1.out hl1).mono ?_; rintro e w2 ⟨rfl, hb2⟩
    go_wp2
    go_ret; exact ⟨retB E.out.symm, belowThen HB1 hb2⟩
  · have E := Lib.hid (show headsA rs nm = false by unfold headsA; rw [HK.out, decide_eq_false h0, Bool.false_and])
    have hI : ¬ (k : Int) = 0 := by omega
    clear h0
    go_wp2
    go_ret; exact ⟨retB E.out.symm, HB1⟩

end Go.Proofs.YtnhbnhibphjljaaGreatDoor

namespace Go.Proofs.YtnhbnhibphjljaaGreatDoor
open Go.RowKit

theorem progNeeds_small (rs : List Rl) (nm : ByteArray) : (progNeeds rs nm).length ≤ 40 ∧ ∀ s ∈ progNeeds rs nm, s.size ≤ maxLen := by
  unfold progNeeds
  by_cases h : progB rs = 0 ∧ nm ∈ namesL (atsOf rs)
  · obtain ⟨h1, h2⟩ := prog_fine h.1
    rw [if_pos h]
    refine ⟨?_, fun s hs => ?_⟩
    · have a := namesL_len (atsOf rs)
      have b := atsOf_len rs (rule_four h1)
      have c : (needsOf rs nm).length ≤ (namesL (atsOf rs)).length := List.length_filter_le _ _
      omega
    · obtain ⟨a, ha, rfl⟩ := mem_namesL.1 (mem_needsOf.1 hs).1
      exact (atsOf_ok h1 a ha).2
  · rw [if_neg h]
    exact ⟨by simp, fun s hs => by simp at hs⟩

/-- A list of texts was told. -/
def TextsTold (ls : List ByteArray) (w : World) (e : Ending) (w' : World) : Prop := ∃ (A : Option Addr) (c : Nat), e = .returned (.slice A ls.length c) ∧ IsTexts w' 0 w'.heap.size A ls.length c ls ∧ Below w.heap.size w w'

set_option maxRecDepth 100000 in
set_option maxHeartbeats 4000000 in
theorem specProgNeeds_any (A : Option Addr) (n c : Nat) (rs : List Rl) (nm : ByteArray) (w : World) (h : IsRules w 0 w.heap.size A n c rs) :
    Calls Tryz.prog 32 #[.slice A n c, .string nm] w (TextsTold (progNeeds rs nm) w) := by
  have HL := Lib.hid h.1
  have H := Lib.hid h; clear h
  go_enter Tryz.func32, Tryz.ntmps32
  go_wp2_with fail
  refine (specProgCheck_any A n c rs _ H.out).mono ?_; rintro e w1 ⟨rfl, hb1⟩
  obtain ⟨k, hk⟩ : ∃ k, progB rs = k := ⟨_, rfl⟩
  rw [hk]
  have HK := Lib.hid hk; clear hk
  by_cases h0 : k = 0
  · have hI : (k : Int) = 0 := by omega
    have hfine := HK.out.trans h0
    have HF := Lib.hid hfine
    have HZ := Lib.hid (prog_fine hfine)
    clear h0 hfine
    have hn8 : n ≤ 8 := by rw [← HL.out]; exact HZ.out.2
    have hll : (namesL (atsOf rs)).length ≤ 64 := by
      have a := namesL_len (atsOf rs)
      have b := atsOf_len rs (rule_four HZ.out.1)
      have := HL.out
      omega
    go_wp2_with fail
    refine (l2Names_any A n c rs _ (H.out.up RuleE.stays hb1) hn8 (rule_four HZ.out.1)).mono ?_; rintro e w2 ⟨p2, d2, rfl, hT2, hb2⟩
    have HB2 := belowThen hb1 hb2
    have HT2 := Lib.hid (hT2.keep (lo' := 0) (hi' := w2.heap.size) TextE.stays (fun _ _ _ => rfl) (Nat.zero_le _) (Nat.le_refl _))
    clear hT2 hb1 hb2
    go_wp2_with fail
    refine (l2Has_any (some p2) (namesL (atsOf rs)).length d2 (namesL (atsOf rs)) nm _ HT2.out).mono ?_; rintro e w3 ⟨rfl, hb3⟩
    have HB3 := belowThen HB2 hb3
    clear hb3
    by_cases hmem : nm ∈ namesL (atsOf rs)
    · rw [there_yes hmem]
      have HPR := Lib.hid (show progNeeds rs nm = needsOf rs nm from if_pos ⟨HF.out, hmem⟩)
      have HM := Lib.hid hmem; clear hmem
      have hba := below1 w3 (.cells #[] 9)
      have HB4 := Lib.hid (belowThen HB3 hba)
      clear hba
      go_wp2_with fail
      refine (l2Needs_any A n c rs (namesL (atsOf rs)) hll hn8 (rule_four HZ.out.1) (fun r hr => (names_in hr).2) (leftOf (namesL (atsOf rs)) []) nm ⟨w3.heap.size, 0, none⟩ 0 [] _ (Nat.le_refl _) HM.out List.Pairwise.nil (fun x hx => absurd hx List.not_mem_nil) (H.out.up RuleE.stays HB4.out) ⟨rfl, Nat.le_refl _, Nat.zero_le _, fun h0 => absurd h0 (Nat.lt_irrefl _)⟩).mono ?_; rintro e w5 ⟨p5, d5, out5, rfl, hT5, hN5, hR5, hU5, hb5⟩
      have heq : out5 = needsOf rs nm := InRow.ext hR5 (needsOf_row rs nm) (fun x => by
        rw [hN5.all, mem_needsOf]
        exact ⟨fun hr => ⟨reach_names HM.out hr, hr⟩, fun hr => hr.2⟩)
      have HEQ := Lib.hid (heq.trans HPR.out.symm)
      have HT5 := Lib.hid hT5
      have hb6 := belowThen HB4.out hb5
      clear hT5 hN5 hR5 hU5 heq hb5
      go_wp2
      go_ret; exact ⟨some p5, d5, by rw [← HEQ.out]; rfl, by rw [← HEQ.out]; exact HT5.out, hb6⟩
    · rw [there_no hmem]
      have HPR := Lib.hid (show progNeeds rs nm = [] from if_neg (fun x => hmem x.2))
      clear hmem
      go_wp2
      go_ret; exact ⟨some ⟨w3.heap.size, 0, none⟩, 0, by rw [HPR.out]; rfl, by rw [HPR.out]; exact ⟨rfl, Nat.le_refl _, Nat.zero_le _, fun h0 => absurd h0 (Nat.lt_irrefl _)⟩, belowThen HB3 (below1 _ _)⟩
  · have E := Lib.hid (show progNeeds rs nm = [] from if_neg (fun x => h0 (HK.out.symm.trans x.1)))
    have hI : ¬ (k : Int) = 0 := by omega
    clear h0
    go_wp2
    go_ret; exact ⟨some ⟨w1.heap.size, 0, none⟩, 0, by rw [E.out]; rfl, by rw [E.out]; exact ⟨rfl, Nat.le_refl _, Nat.zero_le _, fun h0 => absurd h0 (Nat.lt_irrefl _)⟩, belowThen hb1 (below1 _ _)⟩

end Go.Proofs.YtnhbnhibphjljaaGreatDoor

namespace Go.Proofs.YtnhbnhibphjljaaGreatDoor
open Go.RowKit

/-- A list of numbers in memory of its own. -/
def OwnIs (w : World) (lo hi : Nat) (A : Option Addr) (n c : Nat) (ls : List Int) : Prop :=
  ls.length = n ∧ n ≤ c ∧ c ≤ maxLen ∧ (0 < n → ∃ g k f, A = some ⟨g, 0, none⟩ ∧ lo ≤ g ∧ g < hi ∧ w.rowIs g 3 k f ∧ n ≤ k ∧ ∀ i s, ls[i]? = some s → f i = .int .i64 s)

section
variable {w w' : World} {lo hi lo' hi' n c : Nat} {A : Option Addr} {ls : List Int}

theorem OwnIs.keep (h : OwnIs w lo hi A n c ls) (hk : ∀ b, lo ≤ b → b < hi → w'.heap[b]? = w.heap[b]?) (h1 : lo' ≤ lo) (h2 : hi ≤ hi') : OwnIs w' lo' hi' A n c ls := by
  obtain ⟨a, b, d, e⟩ := h
  refine ⟨a, b, d, fun hn => ?_⟩
  obtain ⟨g, k, f, e1, e2, e3, e4, e5⟩ := e hn
  exact ⟨g, k, f, e1, by omega, by omega, e4.of_block (hk g e2 e3), e5⟩

theorem OwnIs.below {B : Nat} (h : OwnIs w lo hi A n c ls) (hb : Below B w w') (hh : hi ≤ B) : OwnIs w' lo hi A n c ls :=
  h.keep (fun b _ hb' => hb.block b (by omega)) (Nat.le_refl _) (Nat.le_refl _)

theorem OwnIs.at_ (h : OwnIs w lo hi A n c ls) {i : Nat} (hi' : i < n) : ∃ g s, A = some ⟨g, 0, none⟩ ∧ ls[i]? = some s ∧ w.cell? ⟨g, i, none⟩ = some (.int .i64 s) ∧ g < w.heap.size := by
  obtain ⟨a, b, d, e⟩ := h
  obtain ⟨g, k, f, e1, e2, e3, e4, e5, e6⟩ := e (by omega)
  have hl : i < ls.length := by omega
  refine ⟨g, ls[i], e1, List.getElem?_eq_getElem hl, ?_, e4.lt⟩
  rw [e4.cell (by omega), e6 i ls[i] (List.getElem?_eq_getElem hl)]

theorem OwnIs.of_row {base : Nat} {v : Value} (h : w.ownsRow base 3 1 v n (ls.map fun x => .int .i64 x)) (hn : n = ls.length) (hb : lo ≤ base) : ∃ A c, v = .slice A n c ∧ OwnIs w lo w.heap.size A n c ls := by
  subst hn
  rcases h.2 with ⟨rfl, h0⟩ | ⟨g, cap, cur, rfl, hbg, hgb, hle, hcap, hsz, htk⟩
  · exact ⟨none, 0, by rw [h0], rfl, by omega, by unfold maxLen; omega, fun hp => absurd hp (by omega)⟩
  · have hlt := (Array.getElem?_eq_some_iff.1 hgb).1
    refine ⟨_, cap, rfl, rfl, hle, hcap, fun _ => ⟨g, cap * 1, fun i => cur[i]?.getD undef, rfl, by omega, hlt, ⟨cur, hgb, hsz, fun i hi => by simp [hsz ▸ hi]⟩, by omega, fun j s hj => ?_⟩⟩
    have hu : (ls.map fun x => Value.int .i64 x)[j]? = some (.int .i64 s) := by rw [List.getElem?_map, hj]; rfl
    have hjl := (List.getElem?_eq_some_iff.1 hj).1
    rw [← htk, List.getElem?_take, if_pos (by omega)] at hu
    have : cur[j]? = some (.int .i64 s) := by simpa using hu
    simp [this]
end

def markIs (k n : Nat) : List Int := (List.range n).map fun i => ((k + i : Nat) : Int)
theorem markIs_len (k n : Nat) : (markIs k n).length = n := by unfold markIs; simp
theorem markIs_at {k n i : Nat} (h : i < n) : (markIs k n)[i]? = some ((k + i : Nat) : Int) := by unfold markIs; simp [h]

set_option maxHeartbeats 1000000 in
theorem eqIntS_same (A B : Option Addr) (n c n' c' : Nat) (ls : List Int) (w : World) (h : OwnIs w 0 w.heap.size A n c ls) (h' : OwnIs w 0 w.heap.size B n' c' ls) :
    Calls Tryz.prog 29 #[.slice A n c, .slice B n' c'] w (BoolPost true w) := by
  have hc := h.2.1; have hm := h.2.2.1
  unfold maxLen at hm
  have hnn : n = n' := by rw [← h.1, ← h'.1]
  subst hnn
  have H := Lib.hid h; clear h
  have H' := Lib.hid h'; clear h'
  go_enter Tryz.func29, Tryz.ntmps29
  go_wp2
  go_loopw [5] (fun i wr => ∃ k : Nat, k ≤ n ∧ i = .int .i64 (k : Int) ∧ Below w.heap.size w wr) (fun i _ => n - (intOf i).toNat)
  case atStart => exact ⟨0, Nat.zero_le _, rfl, Below.refl _ _⟩
  case round =>
    obtain ⟨k, hk, rfl, hb⟩ := hrel
    by_cases hlt : k < n
    · have hlt2 : (k : Int) < (n : Int) := by omega
      obtain ⟨g, t, hA, hg, hE, _⟩ := (H.out.below hb (Nat.le_refl _)).at_ hlt
      obtain ⟨g', t', hA', hg', hE', _⟩ := (H'.out.below hb (Nat.le_refl _)).at_ hlt
      subst hA; subst hA'
      rw [hg] at hg'
      injection hg' with hg'
      subst hg'
      have c1 : wr.drew.cell? ⟨g, k, none⟩ = some (.int .i64 t) := hE
      have c2 : wr.drew.cell? ⟨g', k, none⟩ = some (.int .i64 t) := hE'
      have hbd := hb.drew
      clear hg
      go_wp2_with fail
      go_region_with fail
      all_goals go_wp2
      all_goals (go_roundw)
      all_goals first
        | exact ⟨k + 1, by omega, by go_num, hbd⟩
        | (simp [intOf]; omega)
    · go_wp2
      go_ret
      exact ⟨rfl, hb⟩

set_option maxRecDepth 100000 in
set_option maxHeartbeats 1000000 in
theorem heldIntS_any (A : Option Addr) (n c k : Nat) (w : World) (h : OwnIs w 0 w.heap.size A n c (markIs k n)) (hk : k + n ≤ 2 ^ 62) :
    Calls Tryz.prog 31 #[.slice A n c, .int .i64 (k : Int)] w fun e w' => e = .returned (.int .i64 ((k + n : Nat) : Int)) ∧ Below w.heap.size w w' := by
  have H := Lib.hid h; clear h
  go_enter Tryz.func31, Tryz.ntmps31
  go_wp2
  go_loopw [1, 5] (fun x y wr => ∃ i : Nat, i ≤ n ∧ x = .int .i64 ((k + i : Nat) : Int) ∧ y = .int .i64 (i : Int) ∧ Below w.heap.size w wr) (fun _ y _ => n - (intOf y).toNat)
  case atStart => exact ⟨0, Nat.zero_le _, rfl, rfl, Below.refl _ _⟩
  case round =>
    obtain ⟨i, hi, rfl, rfl, hb⟩ := hrel
    by_cases hlt : i < n
    · obtain ⟨g, t, hA, hg, hE, _⟩ := (H.out.below hb (Nat.le_refl _)).at_ hlt
      subst hA
      rw [markIs_at hlt] at hg
      injection hg with hg
      subst hg
      have hlt2 : (i : Int) < (n : Int) := by omega
      go_wp2
      go_roundw
      case rel => exact ⟨i + 1, by omega, by go_num, by go_num, hb⟩
      case measure => simp [intOf]; omega
    · have hin : i = n := by omega
      subst hin
      go_wp2
      go_ret; exact ⟨by go_num, hb⟩

set_option maxRecDepth 100000 in
set_option maxHeartbeats 1000000 in
theorem markIntS_any (lo hi : Nat) (A : Option Addr) (n c k : Nat) (ls : List Int) (w : World) (h : OwnIs w lo hi A n c ls) (hk : k + n ≤ 2 ^ 62) :
    Calls Tryz.prog 30 #[.slice A n c, .int .i64 (k : Int)] w fun e w' => e = .returned (.int .i64 ((k + n : Nat) : Int)) ∧ OwnIs w' lo hi A n c (markIs k n) ∧ Within lo hi w w' := by
  obtain ⟨h1, h2, h3, h5⟩ := h
  have hcm := h3
  unfold maxLen at hcm
  by_cases h0 : 0 < n
  · obtain ⟨g, m, f, rfl, e2, e3, e4, e5, e6⟩ := h5 h0
    have HR := Lib.hid e4; clear e4 e6 h5
    go_enter Tryz.func30, Tryz.ntmps30
    go_wp2
    go_loopw [1, 5] (fun x y wr => ∃ (i : Nat) (f' : Nat → Value), i ≤ n ∧ x = .int .i64 ((k + i : Nat) : Int) ∧ y = .int .i64 (i : Int) ∧ wr.rowIs g 3 m f' ∧ (∀ j, j < i → f' j = .int .i64 ((k + j : Nat) : Int)) ∧ Within lo hi w wr) (fun _ y _ => n - (intOf y).toNat)
    case atStart => exact ⟨0, f, Nat.zero_le _, rfl, rfl, HR.out, fun j hj => absurd hj (Nat.not_lt_zero _), Within.refl⟩
    case round =>
      obtain ⟨i, f', hi', rfl, rfl, hr, hf, hw⟩ := hrel
      have HF := Lib.hid hf; clear hf
      by_cases hlt : i < n
      · have hlt2 : (i : Int) < (n : Int) := by omega
        have c1 := hr.cell (i := i) (by omega)
        have z1 := hr.frozen i
        have hr2 := hr.set i (.int .i64 ((k + i : Nat) : Int))
        have hw2 := hw.trans (Within.row (grownSet wr g i (.int .i64 ((k + i : Nat) : Int))) e2 e3)
        have HR2 := Lib.hid hr2; clear hr hr2
        go_wp2
        go_roundw
        case rel => exact ⟨i + 1, _, by omega, by go_num, by go_num, HR2.out, fun j hj => by
          by_cases e : j = i
          · subst e; simp
          · rw [if_neg e]; exact HF.out j (by omega), hw2⟩
        case measure => simp [intOf]; omega
      · have hin : i = n := by omega
        subst hin
        go_wp2
        go_ret
        exact ⟨by go_num, ⟨markIs_len _ _, h2, h3, fun _ => ⟨g, m, f', rfl, e2, e3, hr, e5, fun j s hs => by
          have hj : j < i := by have := (List.getElem?_eq_some_iff.1 hs).1; rwa [markIs_len] at this
          rw [markIs_at hj] at hs
          injection hs with hs
          subst hs
          exact HF.out j hj⟩⟩, hw⟩
  · have hn : n = 0 := by omega
    subst hn
    go_enter Tryz.func30, Tryz.ntmps30
    go_wp2
    go_loop [1, 5] (fun x y => x = .int .i64 (k : Int) ∧ y = .int .i64 0) (fun _ _ => 0)
    case atStart => exact ⟨rfl, rfl⟩
    case round =>
      obtain ⟨rfl, rfl⟩ := hrel
      go_wp2
      go_ret; exact ⟨by go_num, ⟨markIs_len _ _, h2, h3, fun h => absurd h (Nat.lt_irrefl _)⟩, Within.refl⟩

theorem prog_sound {rs : List Rl} (h : progB rs = 0) : rs.all ruleB = true ∧ rs.length ≤ 8 ∧ cycB rs = false := by
  cases h1 : rs.all ruleB with
  | false => rw [prog1 h1] at h; exact absurd h (by decide)
  | true =>
    by_cases h2 : 8 < rs.length
    · rw [prog2 h1 h2] at h; exact absurd h (by decide)
    · cases h3 : alikeB (atsOf rs) with
      | false => rw [prog3 h1 h2 h3] at h; exact absurd h (by decide)
      | true =>
        cases h4 : rs.all ruleTight with
        | false => rw [prog4 h1 h2 h3 h4] at h; exact absurd h (by decide)
        | true =>
          rw [prog5 h1 h2 h3 h4] at h
          cases h5 : cycB rs with
          | false => exact ⟨rfl, by omega, rfl⟩
          | true => rw [h5] at h; exact absurd h (by decide)

/-- What ProgStrata tells. -/
def progStrata (rs : List Rl) : List Int := if progB rs = 0 then (levelsL rs).map fun x => ((x : Nat) : Int) else []

set_option maxRecDepth 100000 in
set_option maxHeartbeats 4000000 in
theorem specProgStrata_any (A : Option Addr) (n c : Nat) (rs : List Rl) (w : World) (h : IsRules w 0 w.heap.size A n c rs) :
    Calls Tryz.prog 27 #[.slice A n c] w fun e w' => ∃ A' c', e = .returned (.slice A' (progStrata rs).length c') ∧ OwnIs w' w.heap.size w'.heap.size A' (progStrata rs).length c' (progStrata rs) ∧ Below w.heap.size w w' := by
  have HL := Lib.hid h.1
  have H := Lib.hid h; clear h
  go_enter Tryz.func27, Tryz.ntmps27
  go_wp2_with fail
  refine (specProgCheck_any A n c rs _ H.out).mono ?_; rintro e w1 ⟨rfl, hb1⟩
  obtain ⟨k, hk⟩ : ∃ k, progB rs = k := ⟨_, rfl⟩
  rw [hk]
  have HK := Lib.hid hk; clear hk
  by_cases h0 : k = 0
  · have E := Lib.hid (show progStrata rs = (levelsL rs).map fun x => ((x : Nat) : Int) from if_pos (HK.out.trans h0))
    have hI : (k : Int) = 0 := by omega
    have HZ := Lib.hid (prog_sound (HK.out.trans h0))
    clear h0
    go_wp2_with fail
    refine (l2Levels_any A n c rs _ (H.out.up RuleE.stays hb1) (by rw [← HL.out]; exact HZ.out.2.1) (rule_four HZ.out.1)).mono ?_; rintro e w2 ⟨rfl, hrow, hb2⟩
    have HR := Lib.hid hrow; clear hrow
    have hn8 : n ≤ 8 := by rw [← HL.out]; exact HZ.out.2.1
    have hlen : ((levelsL rs).map fun x => ((x : Nat) : Int)).length = n := by rw [List.length_map, HR.out.1]
    have HLN := Lib.hid hlen; clear hlen
    go_wp2
    go_ret
    refine ⟨some ⟨w1.heap.size, 0, none⟩, n, by rw [E.out, HLN.out]; rfl, ?_, belowThen hb1 hb2⟩
    rw [E.out, HLN.out]
    refine ⟨HLN.out, Nat.le_refl _, by unfold maxLen; omega, fun _ => ⟨w1.heap.size, n, _, rfl, hb1.size, HR.out.lt, HR.out.2, Nat.le_refl _, fun i s hs => ?_⟩⟩
    rw [List.getElem?_map] at hs
    cases hl : (levelsL rs)[i]? with
    | none => rw [hl] at hs; cases hs
    | some y =>
      rw [hl] at hs
      injection hs with hs
      subst hs
      show Value.int .i64 ((at0 (levelsL rs) i : Nat) : Int) = _
      unfold at0; rw [hl]; rfl
  · have E := Lib.hid (show progStrata rs = [] from if_neg (fun e => h0 (HK.out.symm.trans e)))
    have hI : ¬ (k : Int) = 0 := by omega
    clear h0
    go_wp2
    go_ret; exact ⟨some ⟨w1.heap.size, 0, none⟩, 0, by rw [E.out]; rfl, by rw [E.out]; exact ⟨rfl, Nat.le_refl _, Nat.zero_le _, fun h0 => absurd h0 (by decide)⟩, belowThen hb1 (below1 _ _)⟩

set_option maxRecDepth 100000 in
set_option maxHeartbeats 4000000 in
theorem implProgStrata_any (A : Option Addr) (n c : Nat) (rs : List Rl) (w : World) (h : IsRules w 0 w.heap.size A n c rs) (hk : ErrKind w) :
    Calls Tryz.prog 28 #[.slice A n c] w fun e w' => ∃ v, e = .returned v ∧ w'.ownsRow w.heap.size 3 1 v (progStrata rs).length ((progStrata rs).map fun x => .int .i64 x) ∧ Below w.heap.size w w' := by
  have HL := Lib.hid h.1
  have H := Lib.hid h; clear h
  have HE := Lib.hid hk; clear hk
  go_enter Tryz.func28, Tryz.ntmps28
  go_wp2_with fail
  refine (implProgCheck_any A n c rs _ H.out HE.out).mono ?_; rintro e w1 ⟨rfl, hb1⟩
  obtain ⟨k, hk⟩ : ∃ k, progB rs = k := ⟨_, rfl⟩
  rw [hk]
  have HK := Lib.hid hk; clear hk
  by_cases h0 : k = 0
  · have E := Lib.hid (show progStrata rs = (levelsL rs).map fun x => ((x : Nat) : Int) from if_pos (HK.out.trans h0))
    have hI : (k : Int) = 0 := by omega
    have HZ := Lib.hid (prog_sound (HK.out.trans h0))
    clear h0
    go_wp2_with fail
    refine (strataOf_any A n c rs _ (H.out.up RuleE.stays hb1) (by rw [← HL.out]; exact HZ.out.2.1) (rule_four HZ.out.1) (fun a ha => (atsOf_ok HZ.out.1 a ha).2)).mono ?_
    rintro e w2 (⟨hc, _⟩ | ⟨_, v, rfl, hrow, hb2⟩)
    · rw [HZ.out.2.2] at hc; cases hc
    · have hlen : n = (levelsL rs).length := by have := hrow.1; rw [List.length_map] at this; omega
      have HR := Lib.hid (rowT_base hrow hb1.size); clear hrow
      have HLN := Lib.hid hlen; clear hlen
      go_wp2
      go_ret
      refine ⟨v, rfl, ?_, belowThen hb1 hb2⟩
      have := HR.out
      rw [E.out, List.map_map, List.length_map, ← HLN.out]
      exact this
  · have E := Lib.hid (show progStrata rs = [] from if_neg (fun e => h0 (HK.out.symm.trans e)))
    have hI : ¬ (k : Int) = 0 := by omega
    clear h0
    go_wp2
    go_ret; exact ⟨_, rfl, by rw [E.out]; exact World.ownsRow_nil _ _ _ _, hb1⟩

theorem raise_count (n : Nat) (L : List Nat) (u : Up) : (raise n L u).length = L.length := by unfold raise; split <;> simp
theorem raises_count (n : Nat) : ∀ (us : List Up) (L : List Nat), (us.foldl (raise n) L).length = L.length
  | [], _ => rfl
  | u :: us, L => by rw [List.foldl_cons, raises_count n us, raise_count]
theorem again_count (f : List Nat → List Nat) (h : ∀ L, (f L).length = L.length) : ∀ (t : Nat) (x : List Nat), (again f t x).length = x.length
  | 0, _ => rfl
  | t + 1, x => by rw [again_succ, h, again_count f h t x]
theorem levels_count (rs : List Rl) : (levelsL rs).length = rs.length := by
  rw [levelsL_ups, again_count _ (fun L => raises_count rs.length (upsOf rs) L), List.length_replicate]

theorem progStrata_eight (rs : List Rl) : (progStrata rs).length ≤ 8 := by
  unfold progStrata
  by_cases h : progB rs = 0
  · rw [if_pos h, List.length_map, levels_count]; exact (prog_sound h).2.1
  · rw [if_neg h]; simp

end Go.Proofs.YtnhbnhibphjljaaGreatDoor

