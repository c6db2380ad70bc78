/-
  The law of AtomCmp: what is drawn is told as the model tells it, the other way round the opposite, nothing just for the same, and it goes on from atom to atom.
-/
import Derived.Test.YtmegmjbgfjogeaaDrawCmp
import Derived.Test.YtmegmjbgfjogeaaOrder
import Derived.Test.YtmegmjbgfjogeaaFs
import Derived.Test.YtmegmjbgfjogeaaBox
import Derived.Deep.RegionHeld3
namespace Go.Proofs.Ytmegmjbgfjogeaa
open Go.RowKit

theorem cmpB_range (a b : At) : cmpB a b = -1 ∨ cmpB a b = 0 ∨ cmpB a b = 1 := by
  have hargs : ∀ l m : List Tm, argsCmp l m = -1 ∨ argsCmp l m = 0 ∨ argsCmp l m = 1 := by
    intro l
    induction l with
    | nil => intro m; cases m <;> simp [argsCmp]
    | cons x l ih =>
      intro m
      cases m with
      | nil => simp [argsCmp]
      | cons y m =>
        have e : argsCmp (x :: l) (y :: m) = if textCmp x.2 y.2 = 0 then argsCmp l m else textCmp x.2 y.2 := rfl
        rw [e]
        by_cases h : textCmp x.2 y.2 = 0
        · rw [if_pos h]; exact ih m
        · rw [if_neg h]; exact textCmp_range _ _
  unfold cmpB atomCmp
  by_cases h : atomB a && atomB b
  · rw [if_pos h]
    by_cases h : textCmp a.1 b.1 = 0
    · rw [if_pos h]; exact hargs _ _
    · rw [if_neg h]; exact textCmp_range _ _
  · rw [if_neg h]; simp

set_option maxRecDepth 100000 in
set_option maxHeartbeats 2000000 in
theorem atomCmp_any (A : Option Addr) (n c : Nat) (A' : Option Addr) (n' c' : Nat) (w : World) (h : IsBytes w w.heap.size A n c) (h' : IsBytes w w.heap.size A' n' c') :
    Calls Try.prog 4 #[.slice A n c, .slice A' n' c'] w (BoolPost true w) := by
  have hn : n ≤ maxLen := by have := h.1; have := h.2.1; omega
  have hn' : n' ≤ maxLen := by have := h'.1; have := h'.2.1; omega
  unfold maxLen at hn hn'
  have H := Lib.hid h; clear h
  have H' := Lib.hid h'; clear h'
  go_enter Try.func4, Try.ntmps4
  go_wp2_with fail
  all_goals try (go_ret; exact ⟨rfl, Below.refl _ _⟩)
  · refine (drawAtomCmp_any A n c w H.out).mono ?_; rintro e w1 ⟨nm, B, k, d, ts, nm', B', k', d', us, ⟨rfl, hs, hs'⟩, ht, hu, hb1⟩
    -- (behind this line: written by tools/atomcmp.py)
    have hsm : nm.size ≤ maxLen := by unfold maxLen; omega
    have hsm' : nm'.size ≤ maxLen := by unfold maxLen; omega
    obtain ⟨x, hx⟩ : ∃ x, cmpB (nm, ts) (nm', us) = x := ⟨_, rfl⟩
    obtain ⟨x', hx'⟩ : ∃ x', cmpB (nm', us) (nm, ts) = x' := ⟨_, rfl⟩
    have cI : ∀ W : World, IsTerms W 0 W.heap.size B k d ts → IsTerms W 0 W.heap.size B' k' d' us → Calls Try.prog 14 #[.agg #[.string nm, .slice B k d], .agg #[.string nm', .slice B' k' d']] W (IntPost x W) := by
      intro W h0 h1
      rw [← hx]; exact implAtomCmp_any nm nm' B B' k d k' d' ts us W hsm hsm' h0 h1
    have cS : ∀ W : World, IsTerms W 0 W.heap.size B k d ts → IsTerms W 0 W.heap.size B' k' d' us → Calls Try.prog 15 #[.agg #[.string nm, .slice B k d], .agg #[.string nm', .slice B' k' d']] W (IntPost x W) := by
      intro W h0 h1
      rw [← hx]; exact specAtomCmp_any nm nm' B B' k d k' d' ts us W hsm hsm' h0 h1
    have cR : ∀ W : World, IsTerms W 0 W.heap.size B' k' d' us → IsTerms W 0 W.heap.size B k d ts → Calls Try.prog 14 #[.agg #[.string nm', .slice B' k' d'], .agg #[.string nm, .slice B k d]] W (IntPost x' W) := by
      intro W h0 h1
      rw [← hx']; exact implAtomCmp_any nm' nm B' B k' d' k d us ts W hsm' hsm h0 h1
    have hanti := cmpB_anti (nm, ts) (nm', us)
    have hrange := cmpB_range (nm, ts) (nm', us)
    rw [hx, hx'] at hanti
    rw [hx] at hrange
    have HP2 := below2 w1 (.cells #[.string nm, .slice B k d] 28) (.cells #[.string nm', .slice B' k' d'] 28)
    have ta := Lib.hid (ht.up HP2); have tb := Lib.hid (hu.up HP2)
    have ba := Lib.hid ((Box.new w1 (.string nm) (.slice B k d) 28).up (.cells #[.string nm', .slice B' k' d'] 28))
    have bb := Lib.hid (Box.new2 w1 (.cells #[.string nm, .slice B k d] 28) (.string nm') (.slice B' k' d') 28)
    have HB := Lib.hid (belowThen hb1 HP2)
    clear HP2 ht hu hb1
    go_wp2_with fail
    refine (cI _ ta.out tb.out).mono ?_; rintro e w3 ⟨rfl, hb3⟩
    have HB3 := Lib.hid (belowThen HB.out hb3); have ta3 := Lib.hid (ta.out.up hb3); have tb3 := Lib.hid (tb.out.up hb3); have ba3 := Lib.hid (ba.out.later hb3); have bb3 := Lib.hid (bb.out.later hb3)
    clear HB ta tb ba bb hb3 cI
    have HB := HB3; have ta := ta3; have tb := tb3; have ba := ba3; have bb := bb3
    clear HB3 ta3 tb3 ba3 bb3
    have cF : ∀ W : World, IsTerms W 0 W.heap.size B k d ts → IsTerms W 0 W.heap.size B' k' d' us → Calls Try.prog 17 #[.agg #[.string nm, .slice B k d], .agg #[.string nm', .slice B' k' d']] W (BoolPost (atomEq (nm, ts) (nm', us)) W) := by
      intro W h0 h1
      exact fsAtom_any nm nm' B B' k d k' d' ts us W h0 h1
    have cA : ∀ W : World, IsTerms W 0 W.heap.size B k d ts → Calls Try.prog 16 #[.agg #[.string nm, .slice B k d]] W (BoolPost (atomB (nm, ts)) W) := by
      intro W h0
      exact specAtomOk_any nm B k d ts W hsm h0
    have cB : ∀ W : World, IsTerms W 0 W.heap.size B' k' d' us → Calls Try.prog 16 #[.agg #[.string nm', .slice B' k' d']] W (BoolPost (atomB (nm', us)) W) := by
      intro W h0
      exact specAtomOk_any nm' B' k' d' us W hsm' h0
    cases hA : atomB (nm, ts)
    · rw [hA] at cA
      have hx0 : x = 0 := by rw [← hx]; exact cmpB_no (.inl hA)
      have hx0' : x' = 0 := by omega
      subst hx0; subst hx0'
      have ZZ := Lib.hid hx; have ZZ' := Lib.hid hx'; clear hx hx' hanti hrange ZZ ZZ'
      obtain ⟨ra, ea1, ea2⟩ := ba.out
      obtain ⟨rb, eb1, eb2⟩ := bb.out
      go_wp2_with fail
      refine (cS _ ta.out tb.out).mono ?_; rintro e w101 ⟨rfl, hb⟩
      clear ra ea1 ea2 rb eb1 eb2
      have HB' := Lib.hid (belowThen HB.out hb); have ta' := Lib.hid (ta.out.up hb); have ba' := Lib.hid (ba.out.later hb); have tb' := Lib.hid (tb.out.up hb); have bb' := Lib.hid (bb.out.later hb)
      clear HB hb ta ba tb bb
      have HB := HB'; have ta := ta'; have ba := ba'; have tb := tb'; have bb := bb'
      clear HB' ta' ba' tb' bb'
      obtain ⟨ra, ea1, ea2⟩ := ba.out
      obtain ⟨rb, eb1, eb2⟩ := bb.out
      go_wp2_with fail
      refine (cR _ tb.out ta.out).mono ?_; rintro e w102 ⟨rfl, hb⟩
      clear ra ea1 ea2 rb eb1 eb2
      have HB' := Lib.hid (belowThen HB.out hb); have ta' := Lib.hid (ta.out.up hb); have ba' := Lib.hid (ba.out.later hb); have tb' := Lib.hid (tb.out.up hb); have bb' := Lib.hid (bb.out.later hb)
      clear HB hb ta ba tb bb
      have HB := HB'; have ta := ta'; have ba := ba'; have tb := tb'; have bb := bb'
      clear HB' ta' ba' tb' bb'
      obtain ⟨ra, ea1, ea2⟩ := ba.out
      obtain ⟨rb, eb1, eb2⟩ := bb.out
      go_wp2_with fail
      refine (cA _ ta.out).mono ?_; rintro e w103 ⟨rfl, hb⟩
      clear ra ea1 ea2 rb eb1 eb2
      have HB' := Lib.hid (belowThen HB.out hb); have ta' := Lib.hid (ta.out.up hb); have ba' := Lib.hid (ba.out.later hb); have tb' := Lib.hid (tb.out.up hb); have bb' := Lib.hid (bb.out.later hb)
      clear HB hb ta ba tb bb
      have HB := HB'; have ta := ta'; have ba := ba'; have tb := tb'; have bb := bb'
      clear HB' ta' ba' tb' bb'
      obtain ⟨ra, ea1, ea2⟩ := ba.out
      obtain ⟨rb, eb1, eb2⟩ := bb.out
      go_wp2_with fail
      refine (cS _ ta.out tb.out).mono ?_; rintro e w104 ⟨rfl, hb⟩
      clear ra ea1 ea2 rb eb1 eb2
      have HB' := Lib.hid (belowThen HB.out hb); have ta' := Lib.hid (ta.out.up hb); have ba' := Lib.hid (ba.out.later hb); have tb' := Lib.hid (tb.out.up hb); have bb' := Lib.hid (bb.out.later hb)
      clear HB hb ta ba tb bb
      have HB := HB'; have ta := ta'; have ba := ba'; have tb := tb'; have bb := bb'
      clear HB' ta' ba' tb' bb'
      obtain ⟨ra, ea1, ea2⟩ := ba.out
      obtain ⟨rb, eb1, eb2⟩ := bb.out
      go_wp2_with fail
      refine (cR _ tb.out ta.out).mono ?_; rintro e w105 ⟨rfl, hb⟩
      clear ra ea1 ea2 rb eb1 eb2
      have HB' := Lib.hid (belowThen HB.out hb); have ta' := Lib.hid (ta.out.up hb); have ba' := Lib.hid (ba.out.later hb); have tb' := Lib.hid (tb.out.up hb); have bb' := Lib.hid (bb.out.later hb)
      clear HB hb ta ba tb bb
      have HB := HB'; have ta := ta'; have ba := ba'; have tb := tb'; have bb := bb'
      clear HB' ta' ba' tb' bb'
      go_wp2
      go_ret; exact ⟨rfl, HB.out⟩
    · rw [hA] at cA
      cases hB : atomB (nm', us)
      · rw [hB] at cB
        have hx0 : x = 0 := by rw [← hx]; exact cmpB_no (.inr hB)
        have hx0' : x' = 0 := by omega
        subst hx0; subst hx0'
        have ZZ := Lib.hid hx; have ZZ' := Lib.hid hx'; clear hx hx' hanti hrange ZZ ZZ'
        obtain ⟨ra, ea1, ea2⟩ := ba.out
        obtain ⟨rb, eb1, eb2⟩ := bb.out
        go_wp2_with fail
        refine (cS _ ta.out tb.out).mono ?_; rintro e w106 ⟨rfl, hb⟩
        clear ra ea1 ea2 rb eb1 eb2
        have HB' := Lib.hid (belowThen HB.out hb); have ta' := Lib.hid (ta.out.up hb); have ba' := Lib.hid (ba.out.later hb); have tb' := Lib.hid (tb.out.up hb); have bb' := Lib.hid (bb.out.later hb)
        clear HB hb ta ba tb bb
        have HB := HB'; have ta := ta'; have ba := ba'; have tb := tb'; have bb := bb'
        clear HB' ta' ba' tb' bb'
        obtain ⟨ra, ea1, ea2⟩ := ba.out
        obtain ⟨rb, eb1, eb2⟩ := bb.out
        go_wp2_with fail
        refine (cR _ tb.out ta.out).mono ?_; rintro e w107 ⟨rfl, hb⟩
        clear ra ea1 ea2 rb eb1 eb2
        have HB' := Lib.hid (belowThen HB.out hb); have ta' := Lib.hid (ta.out.up hb); have ba' := Lib.hid (ba.out.later hb); have tb' := Lib.hid (tb.out.up hb); have bb' := Lib.hid (bb.out.later hb)
        clear HB hb ta ba tb bb
        have HB := HB'; have ta := ta'; have ba := ba'; have tb := tb'; have bb := bb'
        clear HB' ta' ba' tb' bb'
        obtain ⟨ra, ea1, ea2⟩ := ba.out
        obtain ⟨rb, eb1, eb2⟩ := bb.out
        go_wp2_with fail
        refine (cA _ ta.out).mono ?_; rintro e w108 ⟨rfl, hb⟩
        clear ra ea1 ea2 rb eb1 eb2
        have HB' := Lib.hid (belowThen HB.out hb); have ta' := Lib.hid (ta.out.up hb); have ba' := Lib.hid (ba.out.later hb); have tb' := Lib.hid (tb.out.up hb); have bb' := Lib.hid (bb.out.later hb)
        clear HB hb ta ba tb bb
        have HB := HB'; have ta := ta'; have ba := ba'; have tb := tb'; have bb := bb'
        clear HB' ta' ba' tb' bb'
        obtain ⟨ra, ea1, ea2⟩ := ba.out
        obtain ⟨rb, eb1, eb2⟩ := bb.out
        go_wp2_with fail
        refine (cB _ tb.out).mono ?_; rintro e w109 ⟨rfl, hb⟩
        clear ra ea1 ea2 rb eb1 eb2
        have HB' := Lib.hid (belowThen HB.out hb); have ta' := Lib.hid (ta.out.up hb); have ba' := Lib.hid (ba.out.later hb); have tb' := Lib.hid (tb.out.up hb); have bb' := Lib.hid (bb.out.later hb)
        clear HB hb ta ba tb bb
        have HB := HB'; have ta := ta'; have ba := ba'; have tb := tb'; have bb := bb'
        clear HB' ta' ba' tb' bb'
        obtain ⟨ra, ea1, ea2⟩ := ba.out
        obtain ⟨rb, eb1, eb2⟩ := bb.out
        go_wp2_with fail
        refine (cS _ ta.out tb.out).mono ?_; rintro e w110 ⟨rfl, hb⟩
        clear ra ea1 ea2 rb eb1 eb2
        have HB' := Lib.hid (belowThen HB.out hb); have ta' := Lib.hid (ta.out.up hb); have ba' := Lib.hid (ba.out.later hb); have tb' := Lib.hid (tb.out.up hb); have bb' := Lib.hid (bb.out.later hb)
        clear HB hb ta ba tb bb
        have HB := HB'; have ta := ta'; have ba := ba'; have tb := tb'; have bb := bb'
        clear HB' ta' ba' tb' bb'
        obtain ⟨ra, ea1, ea2⟩ := ba.out
        obtain ⟨rb, eb1, eb2⟩ := bb.out
        go_wp2_with fail
        refine (cR _ tb.out ta.out).mono ?_; rintro e w111 ⟨rfl, hb⟩
        clear ra ea1 ea2 rb eb1 eb2
        have HB' := Lib.hid (belowThen HB.out hb); have ta' := Lib.hid (ta.out.up hb); have ba' := Lib.hid (ba.out.later hb); have tb' := Lib.hid (tb.out.up hb); have bb' := Lib.hid (bb.out.later hb)
        clear HB hb ta ba tb bb
        have HB := HB'; have ta := ta'; have ba := ba'; have tb := tb'; have bb := bb'
        clear HB' ta' ba' tb' bb'
        go_wp2
        go_ret; exact ⟨rfl, HB.out⟩
      · rw [hB] at cB
        have hE := atom_same hA hB
        rw [hx] at hE; rw [← hE] at cF
        have hle : x ≤ 0 → atomCmp (nm, ts) (nm', us) ≤ 0 := fun h => by rw [← cmpB_yes hA hB, hx]; exact h
        have HLE := Lib.hid hle; have HOA := Lib.hid hA; have HOB := Lib.hid hB; clear hle hA hB hE hx hx'
        obtain ⟨v, hv⟩ : ∃ v, decide (x = 0) = v := ⟨_, rfl⟩
        rw [hv] at cF
        have h5 : (x = -1 ∧ x' = 1 ∧ v = false) ∨ (x = 0 ∧ x' = 0 ∧ v = true) ∨ (x = 1 ∧ x' = -1 ∧ v = false) := by
          rcases hrange with h | h | h <;> subst h
          · exact .inl ⟨rfl, by omega, by rw [← hv]; rfl⟩
          · exact .inr (.inl ⟨rfl, by omega, by rw [← hv]; rfl⟩)
          · exact .inr (.inr ⟨rfl, by omega, by rw [← hv]; rfl⟩)
        clear hv hrange hanti
        rcases h5 with ⟨rfl, rfl, rfl⟩ | ⟨rfl, rfl, rfl⟩ | ⟨rfl, rfl, rfl⟩
        · have tok := True.intro
          obtain ⟨ra, ea1, ea2⟩ := ba.out
          obtain ⟨rb, eb1, eb2⟩ := bb.out
          go_wp2_with fail
          refine (cS _ ta.out tb.out).mono ?_; rintro e w112 ⟨rfl, hb⟩
          clear ra ea1 ea2 rb eb1 eb2
          have HB' := Lib.hid (belowThen HB.out hb); have ta' := Lib.hid (ta.out.up hb); have ba' := Lib.hid (ba.out.later hb); have tb' := Lib.hid (tb.out.up hb); have bb' := Lib.hid (bb.out.later hb)
          clear HB hb ta ba tb bb
          have HB := HB'; have ta := ta'; have ba := ba'; have tb := tb'; have bb := bb'
          clear HB' ta' ba' tb' bb'
          obtain ⟨ra, ea1, ea2⟩ := ba.out
          obtain ⟨rb, eb1, eb2⟩ := bb.out
          go_wp2_with fail
          refine (cR _ tb.out ta.out).mono ?_; rintro e w113 ⟨rfl, hb⟩
          clear ra ea1 ea2 rb eb1 eb2
          have HB' := Lib.hid (belowThen HB.out hb); have ta' := Lib.hid (ta.out.up hb); have ba' := Lib.hid (ba.out.later hb); have tb' := Lib.hid (tb.out.up hb); have bb' := Lib.hid (bb.out.later hb)
          clear HB hb ta ba tb bb
          have HB := HB'; have ta := ta'; have ba := ba'; have tb := tb'; have bb := bb'
          clear HB' ta' ba' tb' bb'
          obtain ⟨ra, ea1, ea2⟩ := ba.out
          obtain ⟨rb, eb1, eb2⟩ := bb.out
          go_wp2_with fail
          refine (cA _ ta.out).mono ?_; rintro e w114 ⟨rfl, hb⟩
          clear ra ea1 ea2 rb eb1 eb2
          have HB' := Lib.hid (belowThen HB.out hb); have ta' := Lib.hid (ta.out.up hb); have ba' := Lib.hid (ba.out.later hb); have tb' := Lib.hid (tb.out.up hb); have bb' := Lib.hid (bb.out.later hb)
          clear HB hb ta ba tb bb
          have HB := HB'; have ta := ta'; have ba := ba'; have tb := tb'; have bb := bb'
          clear HB' ta' ba' tb' bb'
          obtain ⟨ra, ea1, ea2⟩ := ba.out
          obtain ⟨rb, eb1, eb2⟩ := bb.out
          go_wp2_with fail
          refine (cB _ tb.out).mono ?_; rintro e w115 ⟨rfl, hb⟩
          clear ra ea1 ea2 rb eb1 eb2
          have HB' := Lib.hid (belowThen HB.out hb); have ta' := Lib.hid (ta.out.up hb); have ba' := Lib.hid (ba.out.later hb); have tb' := Lib.hid (tb.out.up hb); have bb' := Lib.hid (bb.out.later hb)
          clear HB hb ta ba tb bb
          have HB := HB'; have ta := ta'; have ba := ba'; have tb := tb'; have bb := bb'
          clear HB' ta' ba' tb' bb'
          clear cS cR cA cB
          go_wp2_with fail
          refine (drawAtomCmp_any A' n' c' w115 (H'.out.up (HB.out))).mono ?_; rintro e w116 ⟨nc, C, kc, dc, vs, ne, E, ke, de, ws, ⟨rfl, hsc, hse⟩, hvt, hwt, hbd⟩
          have hscm : nc.size ≤ maxLen := by unfold maxLen; omega
          have HP2 := below2 w116 (.cells #[.string nc, .slice C kc dc] 28) (.cells #[.string ne, .slice E ke de] 28)
          have hbe := belowThen hbd HP2
          have tc := Lib.hid (hvt.up HP2)
          have bc := Lib.hid ((Box.new w116 (.string nc) (.slice C kc dc) 28).up (.cells #[.string ne, .slice E ke de] 28))
          have HBx := Lib.hid (belowThen HB.out hbe); have tax := Lib.hid (ta.out.up hbe); have tbx := Lib.hid (tb.out.up hbe); have bax := Lib.hid (ba.out.later hbe); have bbx := Lib.hid (bb.out.later hbe)
          clear HB ta tb ba bb HP2 hbe hvt hwt hbd
          have HB := HBx; have ta := tax; have tb := tbx; have ba := bax; have bb := bbx
          clear HBx tax tbx bax bbx
          have cC : ∀ W : World, IsTerms W 0 W.heap.size C kc dc vs → Calls Try.prog 16 #[.agg #[.string nc, .slice C kc dc]] W (BoolPost (atomB (nc, vs)) W) := by
            intro W h0
            exact specAtomOk_any nc C kc dc vs W hscm h0
          cases hC : atomB (nc, vs)
          · rw [hC] at cC
            obtain ⟨_, _⟩ : True ∧ True := ⟨trivial, trivial⟩
            obtain ⟨ra, ea1, ea2⟩ := ba.out
            obtain ⟨rb, eb1, eb2⟩ := bb.out
            obtain ⟨rc, ec1, ec2⟩ := bc.out
            go_wp2_with fail
            refine (cF _ ta.out tb.out).mono ?_; rintro e w117 ⟨rfl, hb⟩
            clear ra ea1 ea2 rb eb1 eb2 rc ec1 ec2
            have HB' := Lib.hid (belowThen HB.out hb); have ta' := Lib.hid (ta.out.up hb); have ba' := Lib.hid (ba.out.later hb); have tb' := Lib.hid (tb.out.up hb); have bb' := Lib.hid (bb.out.later hb); have tc' := Lib.hid (tc.out.up hb); have bc' := Lib.hid (bc.out.later hb)
            clear HB hb ta ba tb bb tc bc
            have HB := HB'; have ta := ta'; have ba := ba'; have tb := tb'; have bb := bb'; have tc := tc'; have bc := bc'
            clear HB' ta' ba' tb' bb' tc' bc'
            obtain ⟨ra, ea1, ea2⟩ := ba.out
            obtain ⟨rb, eb1, eb2⟩ := bb.out
            obtain ⟨rc, ec1, ec2⟩ := bc.out
            go_wp2_with fail
            refine (cC _ tc.out).mono ?_; rintro e w118 ⟨rfl, hb⟩
            clear ra ea1 ea2 rb eb1 eb2 rc ec1 ec2
            have HB' := Lib.hid (belowThen HB.out hb); have ta' := Lib.hid (ta.out.up hb); have ba' := Lib.hid (ba.out.later hb); have tb' := Lib.hid (tb.out.up hb); have bb' := Lib.hid (bb.out.later hb); have tc' := Lib.hid (tc.out.up hb); have bc' := Lib.hid (bc.out.later hb)
            clear HB hb ta ba tb bb tc bc
            have HB := HB'; have ta := ta'; have ba := ba'; have tb := tb'; have bb := bb'; have tc := tc'; have bc := bc'
            clear HB' ta' ba' tb' bb' tc' bc'
            obtain ⟨ra, ea1, ea2⟩ := ba.out
            obtain ⟨rb, eb1, eb2⟩ := bb.out
            obtain ⟨rc, ec1, ec2⟩ := bc.out
            go_wp2_with fail
            refine (cF _ ta.out tb.out).mono ?_; rintro e w119 ⟨rfl, hb⟩
            clear ra ea1 ea2 rb eb1 eb2 rc ec1 ec2
            have HB' := Lib.hid (belowThen HB.out hb); have ta' := Lib.hid (ta.out.up hb); have ba' := Lib.hid (ba.out.later hb); have tb' := Lib.hid (tb.out.up hb); have bb' := Lib.hid (bb.out.later hb); have tc' := Lib.hid (tc.out.up hb); have bc' := Lib.hid (bc.out.later hb)
            clear HB hb ta ba tb bb tc bc
            have HB := HB'; have ta := ta'; have ba := ba'; have tb := tb'; have bb := bb'; have tc := tc'; have bc := bc'
            clear HB' ta' ba' tb' bb' tc' bc'
            go_wp2
            go_ret; exact ⟨rfl, HB.out⟩
          · rw [hC] at cC
            obtain ⟨y, hy⟩ : ∃ y, cmpB (nm', us) (nc, vs) = y := ⟨_, rfl⟩
            have cY : ∀ W : World, IsTerms W 0 W.heap.size B' k' d' us → IsTerms W 0 W.heap.size C kc dc vs → Calls Try.prog 14 #[.agg #[.string nm', .slice B' k' d'], .agg #[.string nc, .slice C kc dc]] W (IntPost y W) := by
              intro W h0 h1
              rw [← hy]; exact implAtomCmp_any nm' nc B' C k' d' kc dc us vs W hsm' hscm h0 h1
            by_cases hy0 : 0 < y
            · clear hy
              obtain ⟨_, _⟩ : True ∧ True := ⟨trivial, trivial⟩
              obtain ⟨ra, ea1, ea2⟩ := ba.out
              obtain ⟨rb, eb1, eb2⟩ := bb.out
              obtain ⟨rc, ec1, ec2⟩ := bc.out
              go_wp2_with fail
              refine (cF _ ta.out tb.out).mono ?_; rintro e w120 ⟨rfl, hb⟩
              clear ra ea1 ea2 rb eb1 eb2 rc ec1 ec2
              have HB' := Lib.hid (belowThen HB.out hb); have ta' := Lib.hid (ta.out.up hb); have ba' := Lib.hid (ba.out.later hb); have tb' := Lib.hid (tb.out.up hb); have bb' := Lib.hid (bb.out.later hb); have tc' := Lib.hid (tc.out.up hb); have bc' := Lib.hid (bc.out.later hb)
              clear HB hb ta ba tb bb tc bc
              have HB := HB'; have ta := ta'; have ba := ba'; have tb := tb'; have bb := bb'; have tc := tc'; have bc := bc'
              clear HB' ta' ba' tb' bb' tc' bc'
              obtain ⟨ra, ea1, ea2⟩ := ba.out
              obtain ⟨rb, eb1, eb2⟩ := bb.out
              obtain ⟨rc, ec1, ec2⟩ := bc.out
              go_wp2_with fail
              refine (cC _ tc.out).mono ?_; rintro e w121 ⟨rfl, hb⟩
              clear ra ea1 ea2 rb eb1 eb2 rc ec1 ec2
              have HB' := Lib.hid (belowThen HB.out hb); have ta' := Lib.hid (ta.out.up hb); have ba' := Lib.hid (ba.out.later hb); have tb' := Lib.hid (tb.out.up hb); have bb' := Lib.hid (bb.out.later hb); have tc' := Lib.hid (tc.out.up hb); have bc' := Lib.hid (bc.out.later hb)
              clear HB hb ta ba tb bb tc bc
              have HB := HB'; have ta := ta'; have ba := ba'; have tb := tb'; have bb := bb'; have tc := tc'; have bc := bc'
              clear HB' ta' ba' tb' bb' tc' bc'
              obtain ⟨ra, ea1, ea2⟩ := ba.out
              obtain ⟨rb, eb1, eb2⟩ := bb.out
              obtain ⟨rc, ec1, ec2⟩ := bc.out
              go_wp2_with fail
              refine (cY _ tb.out tc.out).mono ?_; rintro e w122 ⟨rfl, hb⟩
              clear ra ea1 ea2 rb eb1 eb2 rc ec1 ec2
              have HB' := Lib.hid (belowThen HB.out hb); have ta' := Lib.hid (ta.out.up hb); have ba' := Lib.hid (ba.out.later hb); have tb' := Lib.hid (tb.out.up hb); have bb' := Lib.hid (bb.out.later hb); have tc' := Lib.hid (tc.out.up hb); have bc' := Lib.hid (bc.out.later hb)
              clear HB hb ta ba tb bb tc bc
              have HB := HB'; have ta := ta'; have ba := ba'; have tb := tb'; have bb := bb'; have tc := tc'; have bc := bc'
              clear HB' ta' ba' tb' bb' tc' bc'
              obtain ⟨ra, ea1, ea2⟩ := ba.out
              obtain ⟨rb, eb1, eb2⟩ := bb.out
              obtain ⟨rc, ec1, ec2⟩ := bc.out
              go_wp2_with fail
              refine (cF _ ta.out tb.out).mono ?_; rintro e w123 ⟨rfl, hb⟩
              clear ra ea1 ea2 rb eb1 eb2 rc ec1 ec2
              have HB' := Lib.hid (belowThen HB.out hb); have ta' := Lib.hid (ta.out.up hb); have ba' := Lib.hid (ba.out.later hb); have tb' := Lib.hid (tb.out.up hb); have bb' := Lib.hid (bb.out.later hb); have tc' := Lib.hid (tc.out.up hb); have bc' := Lib.hid (bc.out.later hb)
              clear HB hb ta ba tb bb tc bc
              have HB := HB'; have ta := ta'; have ba := ba'; have tb := tb'; have bb := bb'; have tc := tc'; have bc := bc'
              clear HB' ta' ba' tb' bb' tc' bc'
              go_wp2
              go_ret; exact ⟨rfl, HB.out⟩
            · have hz : cmpB (nm, ts) (nc, vs) ≤ 0 := by
                rw [cmpB_yes HOA.out hC]
                refine atomCmp_on (HLE.out (by omega)) ?_
                rw [← cmpB_yes HOB.out hC, hy]; omega
              obtain ⟨z, hz'⟩ : ∃ z, cmpB (nm, ts) (nc, vs) = z := ⟨_, rfl⟩
              have cZ : ∀ W : World, IsTerms W 0 W.heap.size B k d ts → IsTerms W 0 W.heap.size C kc dc vs → Calls Try.prog 14 #[.agg #[.string nm, .slice B k d], .agg #[.string nc, .slice C kc dc]] W (IntPost z W) := by
                intro W h0 h1
                rw [← hz']; exact implAtomCmp_any nm nc B C k d kc dc ts vs W hsm hscm h0 h1
              rw [hz'] at hz
              clear hz' hy
              obtain ⟨_, _⟩ : True ∧ True := ⟨trivial, trivial⟩
              obtain ⟨ra, ea1, ea2⟩ := ba.out
              obtain ⟨rb, eb1, eb2⟩ := bb.out
              obtain ⟨rc, ec1, ec2⟩ := bc.out
              go_wp2_with fail
              refine (cF _ ta.out tb.out).mono ?_; rintro e w124 ⟨rfl, hb⟩
              clear ra ea1 ea2 rb eb1 eb2 rc ec1 ec2
              have HB' := Lib.hid (belowThen HB.out hb); have ta' := Lib.hid (ta.out.up hb); have ba' := Lib.hid (ba.out.later hb); have tb' := Lib.hid (tb.out.up hb); have bb' := Lib.hid (bb.out.later hb); have tc' := Lib.hid (tc.out.up hb); have bc' := Lib.hid (bc.out.later hb)
              clear HB hb ta ba tb bb tc bc
              have HB := HB'; have ta := ta'; have ba := ba'; have tb := tb'; have bb := bb'; have tc := tc'; have bc := bc'
              clear HB' ta' ba' tb' bb' tc' bc'
              obtain ⟨ra, ea1, ea2⟩ := ba.out
              obtain ⟨rb, eb1, eb2⟩ := bb.out
              obtain ⟨rc, ec1, ec2⟩ := bc.out
              go_wp2_with fail
              refine (cC _ tc.out).mono ?_; rintro e w125 ⟨rfl, hb⟩
              clear ra ea1 ea2 rb eb1 eb2 rc ec1 ec2
              have HB' := Lib.hid (belowThen HB.out hb); have ta' := Lib.hid (ta.out.up hb); have ba' := Lib.hid (ba.out.later hb); have tb' := Lib.hid (tb.out.up hb); have bb' := Lib.hid (bb.out.later hb); have tc' := Lib.hid (tc.out.up hb); have bc' := Lib.hid (bc.out.later hb)
              clear HB hb ta ba tb bb tc bc
              have HB := HB'; have ta := ta'; have ba := ba'; have tb := tb'; have bb := bb'; have tc := tc'; have bc := bc'
              clear HB' ta' ba' tb' bb' tc' bc'
              obtain ⟨ra, ea1, ea2⟩ := ba.out
              obtain ⟨rb, eb1, eb2⟩ := bb.out
              obtain ⟨rc, ec1, ec2⟩ := bc.out
              go_wp2_with fail
              refine (cY _ tb.out tc.out).mono ?_; rintro e w126 ⟨rfl, hb⟩
              clear ra ea1 ea2 rb eb1 eb2 rc ec1 ec2
              have HB' := Lib.hid (belowThen HB.out hb); have ta' := Lib.hid (ta.out.up hb); have ba' := Lib.hid (ba.out.later hb); have tb' := Lib.hid (tb.out.up hb); have bb' := Lib.hid (bb.out.later hb); have tc' := Lib.hid (tc.out.up hb); have bc' := Lib.hid (bc.out.later hb)
              clear HB hb ta ba tb bb tc bc
              have HB := HB'; have ta := ta'; have ba := ba'; have tb := tb'; have bb := bb'; have tc := tc'; have bc := bc'
              clear HB' ta' ba' tb' bb' tc' bc'
              obtain ⟨ra, ea1, ea2⟩ := ba.out
              obtain ⟨rb, eb1, eb2⟩ := bb.out
              obtain ⟨rc, ec1, ec2⟩ := bc.out
              go_wp2_with fail
              refine (cZ _ ta.out tc.out).mono ?_; rintro e w127 ⟨rfl, hb⟩
              clear ra ea1 ea2 rb eb1 eb2 rc ec1 ec2
              have HB' := Lib.hid (belowThen HB.out hb); have ta' := Lib.hid (ta.out.up hb); have ba' := Lib.hid (ba.out.later hb); have tb' := Lib.hid (tb.out.up hb); have bb' := Lib.hid (bb.out.later hb); have tc' := Lib.hid (tc.out.up hb); have bc' := Lib.hid (bc.out.later hb)
              clear HB hb ta ba tb bb tc bc
              have HB := HB'; have ta := ta'; have ba := ba'; have tb := tb'; have bb := bb'; have tc := tc'; have bc := bc'
              clear HB' ta' ba' tb' bb' tc' bc'
              go_wp2
              go_ret; exact ⟨rfl, HB.out⟩
        · have tok := True.intro
          obtain ⟨ra, ea1, ea2⟩ := ba.out
          obtain ⟨rb, eb1, eb2⟩ := bb.out
          go_wp2_with fail
          refine (cS _ ta.out tb.out).mono ?_; rintro e w128 ⟨rfl, hb⟩
          clear ra ea1 ea2 rb eb1 eb2
          have HB' := Lib.hid (belowThen HB.out hb); have ta' := Lib.hid (ta.out.up hb); have ba' := Lib.hid (ba.out.later hb); have tb' := Lib.hid (tb.out.up hb); have bb' := Lib.hid (bb.out.later hb)
          clear HB hb ta ba tb bb
          have HB := HB'; have ta := ta'; have ba := ba'; have tb := tb'; have bb := bb'
          clear HB' ta' ba' tb' bb'
          obtain ⟨ra, ea1, ea2⟩ := ba.out
          obtain ⟨rb, eb1, eb2⟩ := bb.out
          go_wp2_with fail
          refine (cR _ tb.out ta.out).mono ?_; rintro e w129 ⟨rfl, hb⟩
          clear ra ea1 ea2 rb eb1 eb2
          have HB' := Lib.hid (belowThen HB.out hb); have ta' := Lib.hid (ta.out.up hb); have ba' := Lib.hid (ba.out.later hb); have tb' := Lib.hid (tb.out.up hb); have bb' := Lib.hid (bb.out.later hb)
          clear HB hb ta ba tb bb
          have HB := HB'; have ta := ta'; have ba := ba'; have tb := tb'; have bb := bb'
          clear HB' ta' ba' tb' bb'
          obtain ⟨ra, ea1, ea2⟩ := ba.out
          obtain ⟨rb, eb1, eb2⟩ := bb.out
          go_wp2_with fail
          refine (cA _ ta.out).mono ?_; rintro e w130 ⟨rfl, hb⟩
          clear ra ea1 ea2 rb eb1 eb2
          have HB' := Lib.hid (belowThen HB.out hb); have ta' := Lib.hid (ta.out.up hb); have ba' := Lib.hid (ba.out.later hb); have tb' := Lib.hid (tb.out.up hb); have bb' := Lib.hid (bb.out.later hb)
          clear HB hb ta ba tb bb
          have HB := HB'; have ta := ta'; have ba := ba'; have tb := tb'; have bb := bb'
          clear HB' ta' ba' tb' bb'
          obtain ⟨ra, ea1, ea2⟩ := ba.out
          obtain ⟨rb, eb1, eb2⟩ := bb.out
          go_wp2_with fail
          refine (cB _ tb.out).mono ?_; rintro e w131 ⟨rfl, hb⟩
          clear ra ea1 ea2 rb eb1 eb2
          have HB' := Lib.hid (belowThen HB.out hb); have ta' := Lib.hid (ta.out.up hb); have ba' := Lib.hid (ba.out.later hb); have tb' := Lib.hid (tb.out.up hb); have bb' := Lib.hid (bb.out.later hb)
          clear HB hb ta ba tb bb
          have HB := HB'; have ta := ta'; have ba := ba'; have tb := tb'; have bb := bb'
          clear HB' ta' ba' tb' bb'
          clear cS cR cA cB
          go_wp2_with fail
          refine (drawAtomCmp_any A' n' c' w131 (H'.out.up (HB.out))).mono ?_; rintro e w132 ⟨nc, C, kc, dc, vs, ne, E, ke, de, ws, ⟨rfl, hsc, hse⟩, hvt, hwt, hbd⟩
          have hscm : nc.size ≤ maxLen := by unfold maxLen; omega
          have HP2 := below2 w132 (.cells #[.string nc, .slice C kc dc] 28) (.cells #[.string ne, .slice E ke de] 28)
          have hbe := belowThen hbd HP2
          have tc := Lib.hid (hvt.up HP2)
          have bc := Lib.hid ((Box.new w132 (.string nc) (.slice C kc dc) 28).up (.cells #[.string ne, .slice E ke de] 28))
          have HBx := Lib.hid (belowThen HB.out hbe); have tax := Lib.hid (ta.out.up hbe); have tbx := Lib.hid (tb.out.up hbe); have bax := Lib.hid (ba.out.later hbe); have bbx := Lib.hid (bb.out.later hbe)
          clear HB ta tb ba bb HP2 hbe hvt hwt hbd
          have HB := HBx; have ta := tax; have tb := tbx; have ba := bax; have bb := bbx
          clear HBx tax tbx bax bbx
          have cC : ∀ W : World, IsTerms W 0 W.heap.size C kc dc vs → Calls Try.prog 16 #[.agg #[.string nc, .slice C kc dc]] W (BoolPost (atomB (nc, vs)) W) := by
            intro W h0
            exact specAtomOk_any nc C kc dc vs W hscm h0
          cases hC : atomB (nc, vs)
          · rw [hC] at cC
            obtain ⟨_, _⟩ : True ∧ True := ⟨trivial, trivial⟩
            obtain ⟨ra, ea1, ea2⟩ := ba.out
            obtain ⟨rb, eb1, eb2⟩ := bb.out
            obtain ⟨rc, ec1, ec2⟩ := bc.out
            go_wp2_with fail
            refine (cF _ ta.out tb.out).mono ?_; rintro e w133 ⟨rfl, hb⟩
            clear ra ea1 ea2 rb eb1 eb2 rc ec1 ec2
            have HB' := Lib.hid (belowThen HB.out hb); have ta' := Lib.hid (ta.out.up hb); have ba' := Lib.hid (ba.out.later hb); have tb' := Lib.hid (tb.out.up hb); have bb' := Lib.hid (bb.out.later hb); have tc' := Lib.hid (tc.out.up hb); have bc' := Lib.hid (bc.out.later hb)
            clear HB hb ta ba tb bb tc bc
            have HB := HB'; have ta := ta'; have ba := ba'; have tb := tb'; have bb := bb'; have tc := tc'; have bc := bc'
            clear HB' ta' ba' tb' bb' tc' bc'
            obtain ⟨ra, ea1, ea2⟩ := ba.out
            obtain ⟨rb, eb1, eb2⟩ := bb.out
            obtain ⟨rc, ec1, ec2⟩ := bc.out
            go_wp2_with fail
            refine (cC _ tc.out).mono ?_; rintro e w134 ⟨rfl, hb⟩
            clear ra ea1 ea2 rb eb1 eb2 rc ec1 ec2
            have HB' := Lib.hid (belowThen HB.out hb); have ta' := Lib.hid (ta.out.up hb); have ba' := Lib.hid (ba.out.later hb); have tb' := Lib.hid (tb.out.up hb); have bb' := Lib.hid (bb.out.later hb); have tc' := Lib.hid (tc.out.up hb); have bc' := Lib.hid (bc.out.later hb)
            clear HB hb ta ba tb bb tc bc
            have HB := HB'; have ta := ta'; have ba := ba'; have tb := tb'; have bb := bb'; have tc := tc'; have bc := bc'
            clear HB' ta' ba' tb' bb' tc' bc'
            obtain ⟨ra, ea1, ea2⟩ := ba.out
            obtain ⟨rb, eb1, eb2⟩ := bb.out
            obtain ⟨rc, ec1, ec2⟩ := bc.out
            go_wp2_with fail
            refine (cF _ ta.out tb.out).mono ?_; rintro e w135 ⟨rfl, hb⟩
            clear ra ea1 ea2 rb eb1 eb2 rc ec1 ec2
            have HB' := Lib.hid (belowThen HB.out hb); have ta' := Lib.hid (ta.out.up hb); have ba' := Lib.hid (ba.out.later hb); have tb' := Lib.hid (tb.out.up hb); have bb' := Lib.hid (bb.out.later hb); have tc' := Lib.hid (tc.out.up hb); have bc' := Lib.hid (bc.out.later hb)
            clear HB hb ta ba tb bb tc bc
            have HB := HB'; have ta := ta'; have ba := ba'; have tb := tb'; have bb := bb'; have tc := tc'; have bc := bc'
            clear HB' ta' ba' tb' bb' tc' bc'
            go_wp2
            go_ret; exact ⟨rfl, HB.out⟩
          · rw [hC] at cC
            obtain ⟨y, hy⟩ : ∃ y, cmpB (nm', us) (nc, vs) = y := ⟨_, rfl⟩
            have cY : ∀ W : World, IsTerms W 0 W.heap.size B' k' d' us → IsTerms W 0 W.heap.size C kc dc vs → Calls Try.prog 14 #[.agg #[.string nm', .slice B' k' d'], .agg #[.string nc, .slice C kc dc]] W (IntPost y W) := by
              intro W h0 h1
              rw [← hy]; exact implAtomCmp_any nm' nc B' C k' d' kc dc us vs W hsm' hscm h0 h1
            by_cases hy0 : 0 < y
            · clear hy
              obtain ⟨_, _⟩ : True ∧ True := ⟨trivial, trivial⟩
              obtain ⟨ra, ea1, ea2⟩ := ba.out
              obtain ⟨rb, eb1, eb2⟩ := bb.out
              obtain ⟨rc, ec1, ec2⟩ := bc.out
              go_wp2_with fail
              refine (cF _ ta.out tb.out).mono ?_; rintro e w136 ⟨rfl, hb⟩
              clear ra ea1 ea2 rb eb1 eb2 rc ec1 ec2
              have HB' := Lib.hid (belowThen HB.out hb); have ta' := Lib.hid (ta.out.up hb); have ba' := Lib.hid (ba.out.later hb); have tb' := Lib.hid (tb.out.up hb); have bb' := Lib.hid (bb.out.later hb); have tc' := Lib.hid (tc.out.up hb); have bc' := Lib.hid (bc.out.later hb)
              clear HB hb ta ba tb bb tc bc
              have HB := HB'; have ta := ta'; have ba := ba'; have tb := tb'; have bb := bb'; have tc := tc'; have bc := bc'
              clear HB' ta' ba' tb' bb' tc' bc'
              obtain ⟨ra, ea1, ea2⟩ := ba.out
              obtain ⟨rb, eb1, eb2⟩ := bb.out
              obtain ⟨rc, ec1, ec2⟩ := bc.out
              go_wp2_with fail
              refine (cC _ tc.out).mono ?_; rintro e w137 ⟨rfl, hb⟩
              clear ra ea1 ea2 rb eb1 eb2 rc ec1 ec2
              have HB' := Lib.hid (belowThen HB.out hb); have ta' := Lib.hid (ta.out.up hb); have ba' := Lib.hid (ba.out.later hb); have tb' := Lib.hid (tb.out.up hb); have bb' := Lib.hid (bb.out.later hb); have tc' := Lib.hid (tc.out.up hb); have bc' := Lib.hid (bc.out.later hb)
              clear HB hb ta ba tb bb tc bc
              have HB := HB'; have ta := ta'; have ba := ba'; have tb := tb'; have bb := bb'; have tc := tc'; have bc := bc'
              clear HB' ta' ba' tb' bb' tc' bc'
              obtain ⟨ra, ea1, ea2⟩ := ba.out
              obtain ⟨rb, eb1, eb2⟩ := bb.out
              obtain ⟨rc, ec1, ec2⟩ := bc.out
              go_wp2_with fail
              refine (cY _ tb.out tc.out).mono ?_; rintro e w138 ⟨rfl, hb⟩
              clear ra ea1 ea2 rb eb1 eb2 rc ec1 ec2
              have HB' := Lib.hid (belowThen HB.out hb); have ta' := Lib.hid (ta.out.up hb); have ba' := Lib.hid (ba.out.later hb); have tb' := Lib.hid (tb.out.up hb); have bb' := Lib.hid (bb.out.later hb); have tc' := Lib.hid (tc.out.up hb); have bc' := Lib.hid (bc.out.later hb)
              clear HB hb ta ba tb bb tc bc
              have HB := HB'; have ta := ta'; have ba := ba'; have tb := tb'; have bb := bb'; have tc := tc'; have bc := bc'
              clear HB' ta' ba' tb' bb' tc' bc'
              obtain ⟨ra, ea1, ea2⟩ := ba.out
              obtain ⟨rb, eb1, eb2⟩ := bb.out
              obtain ⟨rc, ec1, ec2⟩ := bc.out
              go_wp2_with fail
              refine (cF _ ta.out tb.out).mono ?_; rintro e w139 ⟨rfl, hb⟩
              clear ra ea1 ea2 rb eb1 eb2 rc ec1 ec2
              have HB' := Lib.hid (belowThen HB.out hb); have ta' := Lib.hid (ta.out.up hb); have ba' := Lib.hid (ba.out.later hb); have tb' := Lib.hid (tb.out.up hb); have bb' := Lib.hid (bb.out.later hb); have tc' := Lib.hid (tc.out.up hb); have bc' := Lib.hid (bc.out.later hb)
              clear HB hb ta ba tb bb tc bc
              have HB := HB'; have ta := ta'; have ba := ba'; have tb := tb'; have bb := bb'; have tc := tc'; have bc := bc'
              clear HB' ta' ba' tb' bb' tc' bc'
              go_wp2
              go_ret; exact ⟨rfl, HB.out⟩
            · have hz : cmpB (nm, ts) (nc, vs) ≤ 0 := by
                rw [cmpB_yes HOA.out hC]
                refine atomCmp_on (HLE.out (by omega)) ?_
                rw [← cmpB_yes HOB.out hC, hy]; omega
              obtain ⟨z, hz'⟩ : ∃ z, cmpB (nm, ts) (nc, vs) = z := ⟨_, rfl⟩
              have cZ : ∀ W : World, IsTerms W 0 W.heap.size B k d ts → IsTerms W 0 W.heap.size C kc dc vs → Calls Try.prog 14 #[.agg #[.string nm, .slice B k d], .agg #[.string nc, .slice C kc dc]] W (IntPost z W) := by
                intro W h0 h1
                rw [← hz']; exact implAtomCmp_any nm nc B C k d kc dc ts vs W hsm hscm h0 h1
              rw [hz'] at hz
              clear hz' hy
              obtain ⟨_, _⟩ : True ∧ True := ⟨trivial, trivial⟩
              obtain ⟨ra, ea1, ea2⟩ := ba.out
              obtain ⟨rb, eb1, eb2⟩ := bb.out
              obtain ⟨rc, ec1, ec2⟩ := bc.out
              go_wp2_with fail
              refine (cF _ ta.out tb.out).mono ?_; rintro e w140 ⟨rfl, hb⟩
              clear ra ea1 ea2 rb eb1 eb2 rc ec1 ec2
              have HB' := Lib.hid (belowThen HB.out hb); have ta' := Lib.hid (ta.out.up hb); have ba' := Lib.hid (ba.out.later hb); have tb' := Lib.hid (tb.out.up hb); have bb' := Lib.hid (bb.out.later hb); have tc' := Lib.hid (tc.out.up hb); have bc' := Lib.hid (bc.out.later hb)
              clear HB hb ta ba tb bb tc bc
              have HB := HB'; have ta := ta'; have ba := ba'; have tb := tb'; have bb := bb'; have tc := tc'; have bc := bc'
              clear HB' ta' ba' tb' bb' tc' bc'
              obtain ⟨ra, ea1, ea2⟩ := ba.out
              obtain ⟨rb, eb1, eb2⟩ := bb.out
              obtain ⟨rc, ec1, ec2⟩ := bc.out
              go_wp2_with fail
              refine (cC _ tc.out).mono ?_; rintro e w141 ⟨rfl, hb⟩
              clear ra ea1 ea2 rb eb1 eb2 rc ec1 ec2
              have HB' := Lib.hid (belowThen HB.out hb); have ta' := Lib.hid (ta.out.up hb); have ba' := Lib.hid (ba.out.later hb); have tb' := Lib.hid (tb.out.up hb); have bb' := Lib.hid (bb.out.later hb); have tc' := Lib.hid (tc.out.up hb); have bc' := Lib.hid (bc.out.later hb)
              clear HB hb ta ba tb bb tc bc
              have HB := HB'; have ta := ta'; have ba := ba'; have tb := tb'; have bb := bb'; have tc := tc'; have bc := bc'
              clear HB' ta' ba' tb' bb' tc' bc'
              obtain ⟨ra, ea1, ea2⟩ := ba.out
              obtain ⟨rb, eb1, eb2⟩ := bb.out
              obtain ⟨rc, ec1, ec2⟩ := bc.out
              go_wp2_with fail
              refine (cY _ tb.out tc.out).mono ?_; rintro e w142 ⟨rfl, hb⟩
              clear ra ea1 ea2 rb eb1 eb2 rc ec1 ec2
              have HB' := Lib.hid (belowThen HB.out hb); have ta' := Lib.hid (ta.out.up hb); have ba' := Lib.hid (ba.out.later hb); have tb' := Lib.hid (tb.out.up hb); have bb' := Lib.hid (bb.out.later hb); have tc' := Lib.hid (tc.out.up hb); have bc' := Lib.hid (bc.out.later hb)
              clear HB hb ta ba tb bb tc bc
              have HB := HB'; have ta := ta'; have ba := ba'; have tb := tb'; have bb := bb'; have tc := tc'; have bc := bc'
              clear HB' ta' ba' tb' bb' tc' bc'
              obtain ⟨ra, ea1, ea2⟩ := ba.out
              obtain ⟨rb, eb1, eb2⟩ := bb.out
              obtain ⟨rc, ec1, ec2⟩ := bc.out
              go_wp2_with fail
              refine (cZ _ ta.out tc.out).mono ?_; rintro e w143 ⟨rfl, hb⟩
              clear ra ea1 ea2 rb eb1 eb2 rc ec1 ec2
              have HB' := Lib.hid (belowThen HB.out hb); have ta' := Lib.hid (ta.out.up hb); have ba' := Lib.hid (ba.out.later hb); have tb' := Lib.hid (tb.out.up hb); have bb' := Lib.hid (bb.out.later hb); have tc' := Lib.hid (tc.out.up hb); have bc' := Lib.hid (bc.out.later hb)
              clear HB hb ta ba tb bb tc bc
              have HB := HB'; have ta := ta'; have ba := ba'; have tb := tb'; have bb := bb'; have tc := tc'; have bc := bc'
              clear HB' ta' ba' tb' bb' tc' bc'
              go_wp2
              go_ret; exact ⟨rfl, HB.out⟩
        · have tok := True.intro
          obtain ⟨ra, ea1, ea2⟩ := ba.out
          obtain ⟨rb, eb1, eb2⟩ := bb.out
          go_wp2_with fail
          refine (cS _ ta.out tb.out).mono ?_; rintro e w144 ⟨rfl, hb⟩
          clear ra ea1 ea2 rb eb1 eb2
          have HB' := Lib.hid (belowThen HB.out hb); have ta' := Lib.hid (ta.out.up hb); have ba' := Lib.hid (ba.out.later hb); have tb' := Lib.hid (tb.out.up hb); have bb' := Lib.hid (bb.out.later hb)
          clear HB hb ta ba tb bb
          have HB := HB'; have ta := ta'; have ba := ba'; have tb := tb'; have bb := bb'
          clear HB' ta' ba' tb' bb'
          obtain ⟨ra, ea1, ea2⟩ := ba.out
          obtain ⟨rb, eb1, eb2⟩ := bb.out
          go_wp2_with fail
          refine (cR _ tb.out ta.out).mono ?_; rintro e w145 ⟨rfl, hb⟩
          clear ra ea1 ea2 rb eb1 eb2
          have HB' := Lib.hid (belowThen HB.out hb); have ta' := Lib.hid (ta.out.up hb); have ba' := Lib.hid (ba.out.later hb); have tb' := Lib.hid (tb.out.up hb); have bb' := Lib.hid (bb.out.later hb)
          clear HB hb ta ba tb bb
          have HB := HB'; have ta := ta'; have ba := ba'; have tb := tb'; have bb := bb'
          clear HB' ta' ba' tb' bb'
          obtain ⟨ra, ea1, ea2⟩ := ba.out
          obtain ⟨rb, eb1, eb2⟩ := bb.out
          go_wp2_with fail
          refine (cA _ ta.out).mono ?_; rintro e w146 ⟨rfl, hb⟩
          clear ra ea1 ea2 rb eb1 eb2
          have HB' := Lib.hid (belowThen HB.out hb); have ta' := Lib.hid (ta.out.up hb); have ba' := Lib.hid (ba.out.later hb); have tb' := Lib.hid (tb.out.up hb); have bb' := Lib.hid (bb.out.later hb)
          clear HB hb ta ba tb bb
          have HB := HB'; have ta := ta'; have ba := ba'; have tb := tb'; have bb := bb'
          clear HB' ta' ba' tb' bb'
          obtain ⟨ra, ea1, ea2⟩ := ba.out
          obtain ⟨rb, eb1, eb2⟩ := bb.out
          go_wp2_with fail
          refine (cB _ tb.out).mono ?_; rintro e w147 ⟨rfl, hb⟩
          clear ra ea1 ea2 rb eb1 eb2
          have HB' := Lib.hid (belowThen HB.out hb); have ta' := Lib.hid (ta.out.up hb); have ba' := Lib.hid (ba.out.later hb); have tb' := Lib.hid (tb.out.up hb); have bb' := Lib.hid (bb.out.later hb)
          clear HB hb ta ba tb bb
          have HB := HB'; have ta := ta'; have ba := ba'; have tb := tb'; have bb := bb'
          clear HB' ta' ba' tb' bb'
          clear cS cR cA cB
          go_wp2_with fail
          refine (drawAtomCmp_any A' n' c' w147 (H'.out.up (HB.out))).mono ?_; rintro e w148 ⟨nc, C, kc, dc, vs, ne, E, ke, de, ws, ⟨rfl, hsc, hse⟩, hvt, hwt, hbd⟩
          have hscm : nc.size ≤ maxLen := by unfold maxLen; omega
          have HP2 := below2 w148 (.cells #[.string nc, .slice C kc dc] 28) (.cells #[.string ne, .slice E ke de] 28)
          have hbe := belowThen hbd HP2
          have tc := Lib.hid (hvt.up HP2)
          have bc := Lib.hid ((Box.new w148 (.string nc) (.slice C kc dc) 28).up (.cells #[.string ne, .slice E ke de] 28))
          have HBx := Lib.hid (belowThen HB.out hbe); have tax := Lib.hid (ta.out.up hbe); have tbx := Lib.hid (tb.out.up hbe); have bax := Lib.hid (ba.out.later hbe); have bbx := Lib.hid (bb.out.later hbe)
          clear HB ta tb ba bb HP2 hbe hvt hwt hbd
          have HB := HBx; have ta := tax; have tb := tbx; have ba := bax; have bb := bbx
          clear HBx tax tbx bax bbx
          have cC : ∀ W : World, IsTerms W 0 W.heap.size C kc dc vs → Calls Try.prog 16 #[.agg #[.string nc, .slice C kc dc]] W (BoolPost (atomB (nc, vs)) W) := by
            intro W h0
            exact specAtomOk_any nc C kc dc vs W hscm h0
          cases hC : atomB (nc, vs)
          · rw [hC] at cC
            obtain ⟨_, _⟩ : True ∧ True := ⟨trivial, trivial⟩
            obtain ⟨ra, ea1, ea2⟩ := ba.out
            obtain ⟨rb, eb1, eb2⟩ := bb.out
            obtain ⟨rc, ec1, ec2⟩ := bc.out
            go_wp2_with fail
            refine (cF _ ta.out tb.out).mono ?_; rintro e w149 ⟨rfl, hb⟩
            clear ra ea1 ea2 rb eb1 eb2 rc ec1 ec2
            have HB' := Lib.hid (belowThen HB.out hb); have ta' := Lib.hid (ta.out.up hb); have ba' := Lib.hid (ba.out.later hb); have tb' := Lib.hid (tb.out.up hb); have bb' := Lib.hid (bb.out.later hb); have tc' := Lib.hid (tc.out.up hb); have bc' := Lib.hid (bc.out.later hb)
            clear HB hb ta ba tb bb tc bc
            have HB := HB'; have ta := ta'; have ba := ba'; have tb := tb'; have bb := bb'; have tc := tc'; have bc := bc'
            clear HB' ta' ba' tb' bb' tc' bc'
            obtain ⟨ra, ea1, ea2⟩ := ba.out
            obtain ⟨rb, eb1, eb2⟩ := bb.out
            obtain ⟨rc, ec1, ec2⟩ := bc.out
            go_wp2_with fail
            refine (cC _ tc.out).mono ?_; rintro e w150 ⟨rfl, hb⟩
            clear ra ea1 ea2 rb eb1 eb2 rc ec1 ec2
            have HB' := Lib.hid (belowThen HB.out hb); have ta' := Lib.hid (ta.out.up hb); have ba' := Lib.hid (ba.out.later hb); have tb' := Lib.hid (tb.out.up hb); have bb' := Lib.hid (bb.out.later hb); have tc' := Lib.hid (tc.out.up hb); have bc' := Lib.hid (bc.out.later hb)
            clear HB hb ta ba tb bb tc bc
            have HB := HB'; have ta := ta'; have ba := ba'; have tb := tb'; have bb := bb'; have tc := tc'; have bc := bc'
            clear HB' ta' ba' tb' bb' tc' bc'
            obtain ⟨ra, ea1, ea2⟩ := ba.out
            obtain ⟨rb, eb1, eb2⟩ := bb.out
            obtain ⟨rc, ec1, ec2⟩ := bc.out
            go_wp2_with fail
            refine (cF _ ta.out tb.out).mono ?_; rintro e w151 ⟨rfl, hb⟩
            clear ra ea1 ea2 rb eb1 eb2 rc ec1 ec2
            have HB' := Lib.hid (belowThen HB.out hb); have ta' := Lib.hid (ta.out.up hb); have ba' := Lib.hid (ba.out.later hb); have tb' := Lib.hid (tb.out.up hb); have bb' := Lib.hid (bb.out.later hb); have tc' := Lib.hid (tc.out.up hb); have bc' := Lib.hid (bc.out.later hb)
            clear HB hb ta ba tb bb tc bc
            have HB := HB'; have ta := ta'; have ba := ba'; have tb := tb'; have bb := bb'; have tc := tc'; have bc := bc'
            clear HB' ta' ba' tb' bb' tc' bc'
            go_wp2
            go_ret; exact ⟨rfl, HB.out⟩
          · rw [hC] at cC
            obtain ⟨_, _⟩ : True ∧ True := ⟨trivial, trivial⟩
            obtain ⟨ra, ea1, ea2⟩ := ba.out
            obtain ⟨rb, eb1, eb2⟩ := bb.out
            obtain ⟨rc, ec1, ec2⟩ := bc.out
            go_wp2_with fail
            refine (cF _ ta.out tb.out).mono ?_; rintro e w152 ⟨rfl, hb⟩
            clear ra ea1 ea2 rb eb1 eb2 rc ec1 ec2
            have HB' := Lib.hid (belowThen HB.out hb); have ta' := Lib.hid (ta.out.up hb); have ba' := Lib.hid (ba.out.later hb); have tb' := Lib.hid (tb.out.up hb); have bb' := Lib.hid (bb.out.later hb); have tc' := Lib.hid (tc.out.up hb); have bc' := Lib.hid (bc.out.later hb)
            clear HB hb ta ba tb bb tc bc
            have HB := HB'; have ta := ta'; have ba := ba'; have tb := tb'; have bb := bb'; have tc := tc'; have bc := bc'
            clear HB' ta' ba' tb' bb' tc' bc'
            obtain ⟨ra, ea1, ea2⟩ := ba.out
            obtain ⟨rb, eb1, eb2⟩ := bb.out
            obtain ⟨rc, ec1, ec2⟩ := bc.out
            go_wp2_with fail
            refine (cC _ tc.out).mono ?_; rintro e w153 ⟨rfl, hb⟩
            clear ra ea1 ea2 rb eb1 eb2 rc ec1 ec2
            have HB' := Lib.hid (belowThen HB.out hb); have ta' := Lib.hid (ta.out.up hb); have ba' := Lib.hid (ba.out.later hb); have tb' := Lib.hid (tb.out.up hb); have bb' := Lib.hid (bb.out.later hb); have tc' := Lib.hid (tc.out.up hb); have bc' := Lib.hid (bc.out.later hb)
            clear HB hb ta ba tb bb tc bc
            have HB := HB'; have ta := ta'; have ba := ba'; have tb := tb'; have bb := bb'; have tc := tc'; have bc := bc'
            clear HB' ta' ba' tb' bb' tc' bc'
            obtain ⟨ra, ea1, ea2⟩ := ba.out
            obtain ⟨rb, eb1, eb2⟩ := bb.out
            obtain ⟨rc, ec1, ec2⟩ := bc.out
            go_wp2_with fail
            refine (cF _ ta.out tb.out).mono ?_; rintro e w154 ⟨rfl, hb⟩
            clear ra ea1 ea2 rb eb1 eb2 rc ec1 ec2
            have HB' := Lib.hid (belowThen HB.out hb); have ta' := Lib.hid (ta.out.up hb); have ba' := Lib.hid (ba.out.later hb); have tb' := Lib.hid (tb.out.up hb); have bb' := Lib.hid (bb.out.later hb); have tc' := Lib.hid (tc.out.up hb); have bc' := Lib.hid (bc.out.later hb)
            clear HB hb ta ba tb bb tc bc
            have HB := HB'; have ta := ta'; have ba := ba'; have tb := tb'; have bb := bb'; have tc := tc'; have bc := bc'
            clear HB' ta' ba' tb' bb' tc' bc'
            go_wp2
            go_ret; exact ⟨rfl, HB.out⟩

end Go.Proofs.Ytmegmjbgfjogeaa
