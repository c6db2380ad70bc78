/-
  Texts of one claim, put together.
-/
import Derived.Test.YtogonjkklioaaaaGreatDoorZq
import Derived.Test.YtogonjkklioaaaaGreatDoorLt21
import Derived.Test.YtogonjkklioaaaaGreatDoorLt17
import Derived.Test.YtogonjkklioaaaaGreatDoorLt34
import Derived.Test.YtogonjkklioaaaaGreatDoorTxnGone
import Derived.Test.YtogonjkklioaaaaGreatDoorLt43
import Derived.Test.YtogonjkklioaaaaGreatDoorPutMath
import Derived.Test.YtogonjkklioaaaaGreatDoorLt12
import Derived.Test.YtogonjkklioaaaaGreatDoorLt19
import Derived.Test.YtogonjkklioaaaaGreatDoorDrawRls
set_option maxRecDepth 100000
set_option maxHeartbeats 8000000
namespace Go.Proofs.YtogonjkklioaaaaGreatDoor
open Go.RowKit
def baseB (xs : List Rl) : List Rl := if zdo xs = 0 then xs else []
def BasePost (xs : List Rl) (w : World) (e : Ending) (w' : World) : Prop :=
  ∃ A n c rs, e = .returned (.agg #[.slice A n c, .int .i64 0, .slice none 0 0, .slice none 0 0]) ∧ RulesApart w' w.heap.size w'.heap.size A n c rs ∧ rs.map rRl = baseB xs ∧ Below w.heap.size w w'
theorem fine_small {xs : List Rl} (h : zdo xs = 0) : xs.length ≤ 1048576 ∧ ∀ r ∈ xs, zho r.1.2.length r.2.length r.2 := by
  obtain ⟨h1, h2⟩ := prog_fine h; refine ⟨by omega, fun r hr => ?_⟩; obtain ⟨a, b, c⟩ := zfz (List.all_eq_true.1 h1 r hr); refine ⟨?_, by omega, fun q hq => ?_⟩
  · unfold zav at b; simp only [Bool.and_eq_true, decide_eq_true_eq] at b; omega
  · unfold zlj at a
    have := List.all_eq_true.1 a q hq; unfold zav at this; simp only [Bool.and_eq_true, decide_eq_true_eq] at this; omega
theorem RulesIn.lower {w : World} {hi : Nat} : ∀ {rs : List Rr} {lo lo' : Nat}, RulesIn w lo hi rs → lo' ≤ lo → RulesIn w lo' hi rs
  | [], _, _, h, hh => Nat.le_trans hh h
  | _ :: _, _, _, ⟨m, h1, h2, h3, h4⟩, hh => ⟨m, Nat.le_trans hh h1, h2, h3.keep (fun _ _ _ => rfl) hh (nl _), h4⟩
theorem RulesApart.keep {w w' : World} {lo hi lo' hi' n c : Nat} {A : Option Addr} {rs : List Rr} (h : RulesApart w lo hi A n c rs) (hk : ∀ b, lo ≤ b → b < hi → w'.heap[b]? = w.heap[b]?) (h1 : lo' ≤ lo) (h2 : hi ≤ hi') : RulesApart w' lo' hi' A n c rs := by
  obtain ⟨a, b, d, e, f⟩ := h; refine ⟨a, b, d, fun hn => ?_, ((f.keep hk).wide h2).lower h1⟩; obtain ⟨g, k, f', e1, e2, e3, e4, e5, e6⟩ := e hn; exact ⟨g, k, f', e1, by omega, by omega, e4.of_block (hk g e2 e3), e5, e6⟩
theorem rules_set4 {w : World} {b lo lo' n c : Nat} {A : Option Addr} {rs : List Rr} {u0 u1 u2 u3 : Value} (h : RulesApart w lo w.heap.size A n c rs) (hb : b < lo) (hl : lo' ≤ lo) :
    RulesApart ((((w.setCell ⟨b, 0, none⟩ u0).setCell ⟨b, 1, none⟩ u1).setCell ⟨b, 2, none⟩ u2).setCell ⟨b, 3, none⟩ u3) lo' ((((w.setCell ⟨b, 0, none⟩ u0).setCell ⟨b, 1, none⟩ u1).setCell ⟨b, 2, none⟩ u2).setCell ⟨b, 3, none⟩ u3).heap.size A n c rs := by
  refine h.keep (fun x hx _ => ?_) hl qck; rw [hs_ _ _ _ x (by show x ≠ b; omega), hs_ _ _ _ x (by show x ≠ b; omega), hs_ _ _ _ x (by show x ≠ b; omega), hs_ _ _ _ x (by show x ≠ b; omega)]
theorem none_apart {w : World} {lo hi : Nat} (h : lo ≤ hi) : RulesApart w lo hi none 0 0 [] :=
  ⟨rfl, nl _, Nat.zero_le _, fun h0 => absurd h0 (Nat.lt_irrefl _), h⟩
theorem znn (A : Option Addr) (n c : Nat) (xs : List Rl) (w : World) (h : zap w 0 w.heap.size A n c xs) :
    Calls Tryz.prog 106 #[.slice A n c] w (BasePost xs w) := by
  have HL := hid h.1; have a3 := zac w (.cells #[.slice none 0 0, .int .i64 0, .slice none 0 0, .slice none 0 0] 119); have X0 := Blk.new w 119 #[.slice none 0 0, .int .i64 0, .slice none 0 0, .slice none 0 0]; have a5 := hid X0; have a8 := hid a3; have H := hid (h.up RuleE.stays a3); have a9 : (w.alloc (.cells #[.slice none 0 0, .int .i64 0, .slice none 0 0, .slice none 0 0] 119)).heap.size = w.heap.size + 1 := qag; clear h X0 a3; go_enter Tryz.func106, Tryz.ntmps106
  go_wp2_with fail; refine (zdm A n c xs _ H.out).mono ?_; rintro e w1 ⟨rfl, hb1⟩; obtain ⟨k, hk⟩ : ∃ k, zdo xs = k := ⟨_, rfl⟩; rw [hk]; have HX1 := hid (a5.out.below hb1); have HB1 := hid (zaa a8.out hb1); have H1 := hid (H.out.up RuleE.stays hb1); have b3 := hb1.size; rw [a9] at b3; clear hb1; by_cases h0 : k = 0
  · have hI : (k : Int) = 0 := qaa
    have HF := hid (hk.trans h0); obtain ⟨a7, a4⟩ := fine_small HF.out; have a6 := hid a4; clear hk h0 a4; go_wp2_with fail; refine (zol A n c xs _ H1.out (by rw [← HL.out]; exact a7) a6.out).mono ?_; rintro e w2 ⟨A2, c2, rs, rfl, hO, hm, hb2⟩; have a2 := hid (HX1.out.below hb2); have HB2 := hid (zaa HB1.out hb2); have HO := hid hO; have HM := hid hm; have hz2 := hb2.size; clear hO hm hb2; have r0 := a2.out.cell 0; have r1 := a2.out.cell 1; have r2 := a2.out.cell 2; have r3 := a2.out.cell 3; have f0 := a2.out.frozen 0; have f1 := a2.out.frozen 1; have f2 := a2.out.frozen 2; have f3 := a2.out.frozen 3
    have b4 := a2.out.lt; go_wp2; have Z := (((a2.out.set 0 (.slice A2 xs.length c2)).set 1 (.int .i64 0)).set 2 (.slice none 0 0)).set 3 (.slice none 0 0); have z0 := Z.cell 0; have z1 := Z.cell 1; have z2 := Z.cell 2; have z3 := Z.cell 3; refine bodyPost_ret (v := .agg #[.slice A2 xs.length c2, .int .i64 0, .slice none 0 0, .slice none 0 0]) (by simp [results, Tryz.results106, go_sem, r0, r1, r2, r3]) rfl ⟨A2, xs.length, c2, rs, rfl, ?_, by unfold baseB; rw [if_pos HF.out]; exact HM.out, (((HB2.out.setCell qag _).setCell qag _).setCell qag _).setCell qag _⟩; exact rules_set4 HO.out qaa qaa
  · have hI : ¬ (k : Int) = 0 := qaa
    have HK := hid (show ¬ zdo xs = 0 by rw [hk]; exact h0); clear hk h0; have r0 := HX1.out.cell 0; have r1 := HX1.out.cell 1; have r2 := HX1.out.cell 2; have r3 := HX1.out.cell 3; have f0 := HX1.out.frozen 0; have f1 := HX1.out.frozen 1; have f2 := HX1.out.frozen 2; have f3 := HX1.out.frozen 3; have b4 := HX1.out.lt; go_wp2; have Z := (((HX1.out.set 0 (.slice none 0 0)).set 1 (.int .i64 0)).set 2 (.slice none 0 0)).set 3 (.slice none 0 0); have z0 := Z.cell 0; have z1 := Z.cell 1; have z2 := Z.cell 2; have z3 := Z.cell 3; refine bodyPost_ret (v := .agg #[.slice none 0 0, .int .i64 0, .slice none 0 0, .slice none 0 0]) (by simp [results, Tryz.results106, go_sem, r0, r1, r2, r3]) rfl ⟨none, 0, 0, [], rfl, none_apart (by simp only [zab]; omega), by unfold baseB; rw [if_neg HK.out]; rfl, (((HB1.out.setCell qag _).setCell qag _).setCell qag _).setCell qag _⟩
theorem facts_less {m : Nat} {xs gs : List At} (h : zae m xs = true) : zae m (zbx xs gs) = true := by
  unfold zae at h ⊢; simp only [Bool.and_eq_true, decide_eq_true_eq] at h ⊢; exact ⟨⟨List.all_eq_true.2 fun a ha => List.all_eq_true.1 h.1.1 a (List.mem_filter.1 ha).1, zkt h.1.2⟩, Nat.le_trans (List.length_filter_le _ _) h.2⟩
theorem zhh {m : Nat} : zae m [] = true := by
  unfold zae; simp [zaj]
theorem zlb {rs : List Rl} {xs : List At} (h : (zih rs xs).2 = true) : zae 40 xs = true := by
  unfold zih at h; by_cases h0 : zmp rs xs = true
  · unfold zmp at h0
    simp only [Bool.and_eq_true] at h0; exact h0.2.1
  · rw [if_neg h0] at h; simp at h
theorem of_facts {xs ys : List At} (h : zae 40 xs = true) (h' : zae 40 ys = true) : zae 40 (ofL xs ys).1 = true ∧ zae 40 (ofL xs ys).2 = true := by
  unfold ofL; split
  · exact ⟨facts_less h', facts_less h⟩
  · exact ⟨zhh, zhh⟩
section
variable {rs : List Rl} {gs cs ds : List At}
theorem to_facts {ys : List At} (hg : zae 40 gs = true) (hc : zae 40 cs = true) (hd : zae 40 ds = true) : zae 40 (toT rs gs cs ds ys).1.1 = true ∧ zae 40 (toT rs gs cs ds ys).1.2 = true := by
  unfold toT; split
  · rename_i h; exact of_facts hg (zlb h)
  · exact ⟨hc, hd⟩
theorem add_facts {a : At} (hg : zae 40 gs = true) (hc : zae 40 cs = true) (hd : zae 40 ds = true) : zae 40 (addT rs gs cs ds a).1.1 = true ∧ zae 40 (addT rs gs cs ds a).1.2 = true := by
  unfold addT; split
  · split
    · exact ⟨hc, hd⟩
    · exact to_facts hg hc hd
  · exact ⟨hc, hd⟩
theorem gone_facts {a : At} (hg : zae 40 gs = true) (hc : zae 40 cs = true) (hd : zae 40 ds = true) : zae 40 (goneT rs gs cs ds a).1.1 = true ∧ zae 40 (goneT rs gs cs ds a).1.2 = true := by
  unfold goneT; split
  · exact to_facts hg hc hd
  · exact ⟨hc, hd⟩
end
structure BaseOk (rs : List Rl) (t : Nat) (gs : List At) (hs : List Ch) : Prop where
  fine : zdo rs = 0
  few : zae 40 gs = true
  early : t ≤ 100000
  short : hs.length ≤ 30
  old : hs.length ≤ t
  each : ∀ c ∈ hs, zae 40 c.1 = true ∧ zae 40 c.2 = true
theorem BaseOk.small {rs : List Rl} {t : Nat} {gs : List At} {hs : List Ch} (h : BaseOk rs t gs hs) : ∀ c ∈ hs, zax c.1.length c.1 ∧ zax c.2.length c.2 := fun c hc =>
  ⟨zcv (m := 40) qaa (h.each c hc).1, zcv (m := 40) qaa (h.each c hc).2⟩
theorem BaseOk.new (xs : List Rl) : BaseOk (baseB xs) 0 [] [] := by
  refine ⟨?_, zhh, by omega, by simp, by simp, fun c hc => by simp at hc⟩; unfold baseB; split
  · assumption
  · rfl
theorem BaseOk.more {rs : List Rl} {t : Nat} {gs cs ds : List At} {hs : List Ch} (h : BaseOk rs t gs hs) (hc : zae 40 cs = true) (hd : zae 40 ds = true) :
    BaseOk rs (endT rs t gs hs cs ds).1.1 (endT rs t gs hs cs ds).1.2.1 (endT rs t gs hs cs ds).1.2.2 := by
  have a2 : ∀ c ∈ hs ++ [(cs, ds)], zae 40 c.1 = true ∧ zae 40 c.2 = true := fun c hm => by
    rcases List.mem_append.1 hm with hm | hm
    · exact h.each c hm
    · rw [List.mem_singleton.1 hm]; exact ⟨hc, hd⟩
  have h30 := h.short; have ht := h.old; have ht2 := h.early; unfold endT; by_cases h1 : txnB rs gs cs ds = true
  · rw [if_pos h1]
    by_cases h2 : cs.length + ds.length = 0
    · rw [if_pos h2]; exact h
    · rw [if_neg h2]
      by_cases h3 : (zih rs (doL gs cs ds)).2 = true ∧ t < 100000
      · rw [if_pos h3]
        by_cases h4 : 30 < hs.length + 1
        · rw [if_pos h4]
          exact ⟨h.fine, zlb h3.1, h3.2, by simp only [List.length_drop, List.length_append, List.length_singleton]; omega, by simp only [List.length_drop, List.length_append, List.length_singleton]; omega, fun c hm => a2 c (List.mem_of_mem_drop hm)⟩
        · rw [if_neg h4]
          exact ⟨h.fine, zlb h3.1, h3.2, by rw [List.length_append, List.length_singleton]; omega, by show (hs ++ [(cs, ds)]).length ≤ t + 1; rw [List.length_append, List.length_singleton]; omega, a2⟩
      · rw [if_neg h3]; exact h
  · rw [if_neg h1]; exact h
theorem Bx.later {a b : World} {x : Nat} {u v : Value} (h : Bx a x u v) (hb : Below a.heap.size a b) : Bx b x u v := h.grown (zah hb none) qag
end Go.Proofs.YtogonjkklioaaaaGreatDoor
namespace Go.Proofs.YtogonjkklioaaaaGreatDoor
open Go.RowKit
end Go.Proofs.YtogonjkklioaaaaGreatDoor
namespace Go.Proofs.YtogonjkklioaaaaGreatDoor
open Go.RowKit
theorem zpc (b : Nat) (A : Option Addr) (n c p : Nat) (w : World) (h : Rd w b A n c p) (hp : p ≤ 900000) :
    Calls Tryz.prog 84 #[.pointer (some ⟨b, 0, none⟩)] w (AtomDraw 3 8 b A n c p w) := by
  have H := hid h; clear h; have hbw : b < w.heap.size := H.out.1; go_enter Tryz.func84, Tryz.ntmps84; go_wp2_with fail; refine (zof nmB (w.heap.size + 1) b _ A n c p _ _ _ qag (H.out.below (zac _ _)) qaa qad qaa qaa qad).mono ?_; rintro e w1 ⟨s, ⟨rfl, hs⟩, a7, a3⟩; have b4 := hid a7; have a2 := zaf (zah (zbj w _ _) (some b)) a3; have a6 := hid a2; have a4 := Bx.new w (.string ⟨#[]⟩) (.slice none 0 0) 51; have HX1 := hid ((a4.grown (zah (zac _ _) none) qag).grown a3 qai); clear a7 a2 a4 a3
  go_wp2_with fail; refine (zkb b A n c (p + 1) s false w1 b4.out qaa (nm_of hs)).mono ?_; rintro e w2 ⟨nm, A', k, d, ts, p', ⟨rfl, hnm, hk, hp'⟩, hlen, a5, hown, a8, hg2⟩; have b5 := a6.out.size; have b3 := hg2.size; have hlx := HX1.out.1; have a9 := hid (HX1.out.grown hg2 qai); have HG2 := hid (zaf a6.out hg2); have b6 := hid hown; have b7 := hid a8; have HL := hid hlen; have HS := hid a5; have hne : (Value.slice A' k d).ownBlock ≠ some w.heap.size := fun e => by have := hown.lt _ e; omega
  have HN := hid hne; clear hown a8 hg2 hne hlen a5; obtain ⟨x1, x2, x3, x4, x5⟩ := a9.out; go_wp2; have b9 := HG2.out.size; refine bodyPost_ret (v := .agg #[.string nm, .slice A' k d]) (by simp [results, Tryz.results84, go_sem, x2, x3]) rfl ⟨nm, A', k, d, ts, p', ⟨rfl, hnm, hk, by omega⟩, HL.out, HS.out, ?_, ?_, ?_⟩
  · exact ownsRow_setCell_other (ownsRow_setCell_other (zjl b6.out qaa) HN.out _) HN.out _
  · exact (b7.out.set qai _).set qai _
  · have h1 := HG2.out
    exact ⟨h1.os, h1.tape, h1.output, by rw [zab, zab]; exact h1.size, fun i hi hne => (zmt qaa).trans (h1.block i hi hne)⟩
theorem put_mem {xs : List At} {a y : At} (h : y ∈ zet xs a) : y ∈ xs ∨ y = a := by
  unfold zet at h; split at h
  · exact .inl h
  · exact (mem_ins xs a y).1 h
theorem OwnRow.grown {V W : World} {B b : Nat} {xs : List At} {v : Value} (h : OwnRow V B xs v) (hg : V.grownBy W (some b)) (hB : b < B) : OwnRow W B xs v := by
  obtain ⟨n, M, rs, ⟨h5, h6⟩, h1, h2, h3, h4⟩ := h; exact ⟨n, M, rs, ⟨h5, Nat.le_trans h6 hg.size⟩, h1, h2, h3.kept hg (zod h3 qaa), h4.keep (fun q hq hq' => hg.cell_far _ (Nat.lt_of_lt_of_le hq' h6) qao) (nl _) (nl _)⟩
theorem OwnRow.nil {V : World} {B : Nat} {v : Value} (hB : B ≤ V.heap.size) (h : V.ownsRow B 51 2 v 0 []) : OwnRow V B [] v := ⟨0, B, [], ⟨nl _, hB⟩, rfl, rfl, h, fun r hr => absurd hr qag⟩
def FactsRow (most s : Nat) (b : Nat) (A : Option Addr) (n c p : Nat) (w : World) (e : Ending) (w' : World) : Prop :=
  ∃ (v : Value) (xs : List At) (p' : Nat), (e = .returned v ∧ xs.length ≤ most ∧ p' ≤ p + s) ∧ OwnRow w' w.heap.size xs v ∧ zaj xs = true ∧ (∀ q ∈ xs, q.1.size ≤ 16 ∧ q.2.length ≤ 3 ∧ ∀ t ∈ q.2, t.2.size ≤ 16) ∧ Rd w' b A n c p' ∧ w.grownBy w' (some b)
theorem facts_draw (b : Nat) (A : Option Addr) (n c p most : Nat) (w : World) (h : Rd w b A n c p) (hp : p ≤ 800000) (hmost : most ≤ 1000) :
    Calls Tryz.prog 67 #[.pointer (some ⟨b, 0, none⟩), .int .i64 (most : Int)] w (FactsRow most (1 + 8 * most) b A n c p w) := by
  have H := hid h; clear h; have hbw : b < w.heap.size := H.out.1; go_enter Tryz.func67, Tryz.ntmps67; go_wp2_with fail; refine (zbi b A n c p most _ (H.out.below (zac _ _)) qaa qaa).mono ?_; rintro e w1 ⟨k0, ⟨rfl, b6⟩, a8, a3⟩; have d4 : k0 ≤ most := qaa; have c3 := hid a8; have a9 := hid (zaf (zah (zac w _) (some b)) a3); have c7 := a9.out.size; have d7 : Hid (w1.ownsRow w.heap.size 51 2 (.slice (some ⟨w.heap.size, 0, none⟩) 0 0) 0 []) := hid ((zfq w 51 w.heap.size (nl _)).kept a3 (.inr qbt))
  clear a8 a3 b6; go_wp2; go_loopw [5, 6] (fun o i wr => ∃ (k : Nat) (xs : List At) (p' : Nat), k ≤ k0 ∧ i = .int .i64 (k : Int) ∧ xs.length ≤ k0 - k ∧ p' ≤ p + 1 + 8 * (k0 - k) ∧ OwnRow wr w.heap.size xs o ∧ zaj xs = true ∧ (∀ q ∈ xs, q.1.size ≤ 16 ∧ q.2.length ≤ 3 ∧ ∀ t ∈ q.2, t.2.size ≤ 16) ∧ Rd wr b A n c p' ∧ w.grownBy wr (some b)) (fun _ i _ => (intOf i).toNat)
  case atStart => exact ⟨k0, [], p + 1, nl _, rfl, by simp, by omega, OwnRow.nil c7 d7.out, rfl, fun q hq => absurd hq qag, c3.out, a9.out⟩
  case round =>
    obtain ⟨k, xs, p', hk, rfl, hj, hp', hI, hR, hS, b3, hg⟩ := hrel; have HI := hid hI; have a5 := hid hR; have HS := hid hS; have HRD := hid b3; have HG := hid hg; have hsz := hg.size; clear hI hR hS b3 hg; by_cases h0 : 0 < k
    · have e6 : (0 : Int) < (k : Int) := qaa
      go_wp2_with fail; refine (zpc b A n c p' _ HRD.out qaa).mono ?_; rintro e w3 ⟨nm, A', k3, d3, ts, p3, ⟨rfl, hnm, hk3, hp3⟩, hlen, hs3, hown, hrd3, hg3⟩; have b5 := hg3.size; obtain ⟨A4, c4, e4, hT⟩ := zeu hown hlen hs3; injection e4 with e4 _ e5; subst e4; subst e5; have T3 := hT.keep (w' := w3) (lo' := w.heap.size) (hi' := w3.heap.size) (fun _ _ _ => rfl) hsz (nl _); have c0 := hid (HI.out.grown hg3 hbw); have d9 := hid T3; have a2 := hid hrd3; have b9 := hid (zaf HG.out hg3); have HS3 := hid hs3; clear hown hT T3 hrd3 hg3 hs3; have a4 : nm.size ≤ maxLen := qaf; go_wp2_with fail; refine (l3Put_row _ xs nm A' k3 d3 ts _ w.heap.size qaa c0.out a4 d9.out a5.out qaa).mono ?_; rintro e w4 ⟨v5, rfl, a7, hb5⟩
      have hl5 := put_len xs (nm, ts); have b7 := hid a7; have a6 := hid (a2.out.below hb5); have b4 := hid (zaf b9.out (zah hb5 (some b))); clear a7 hb5; go_wp2; go_roundw
      case rel =>
        refine ⟨k - 1, zet xs (nm, ts), p3, by omega, by go_num, by omega, by omega, b7.out, zjj a5.out, fun q hq => ?_, a6.out, b4.out⟩; rcases put_mem hq with hq | rfl
        · exact HS.out q hq
        · exact ⟨hnm.1, by show ts.length ≤ 3; omega, HS3.out⟩
      case measure => exact qms
    · have e6 : ¬ (0 : Int) < (k : Int) := qaa
      go_wp2; go_ret; exact ⟨_, xs, p', ⟨rfl, by omega, by omega⟩, HI.out, a5.out, HS.out, HRD.out, HG.out⟩
end Go.Proofs.YtogonjkklioaaaaGreatDoor
namespace Go.Proofs.YtogonjkklioaaaaGreatDoor
open Go.RowKit
end Go.Proofs.YtogonjkklioaaaaGreatDoor
namespace Go.Proofs.YtogonjkklioaaaaGreatDoor
open Go.RowKit
theorem Bx.row {a b : World} {x r : Nat} {u v : Value} (h : Bx a x u v) (hg : a.grownBy b (some r)) (hx : x ≠ r) : Bx b x u v := h.grown hg (fun e => by injection e with e; exact hx e)
end Go.Proofs.YtogonjkklioaaaaGreatDoor

namespace Go.Proofs.YtogonjkklioaaaaGreatDoor
open Go.RowKit
theorem zci {w W : World} {b : Nat} {q : Addr} (h : w.grownBy W (some b)) (hx : w.heap.size ≤ q.block) (y : Value) : w.grownBy (W.setCell q y) (some b) :=
  ⟨h.os, h.tape, h.output, by rw [zab]; exact h.size, fun i hi hne => (hs_ _ _ _ i qaa).trans (h.block i hi hne)⟩
structure BS (b : Nat) (A : Option Addr) (n c : Nat) (w : World) (g : Nat) (RA : Option Addr) (rc : Nat) (rs : List Rl) (t : Nat) (GA : Option Addr) (gc : Nat) (gs : List At) (HA : Option Addr) (hc : Nat) (hs : List Ch) (p : Nat) (W : World) : Prop where
  xr : Blk W w.heap.size 119 #[.slice none 0 0, .int .i64 0, .slice none 0 0, .slice none 0 0]
  xb : Blk W g 119 #[.slice RA rs.length rc, .int .i64 (t : Int), .slice GA gs.length gc, .slice HA hs.length hc]
  gw : w.heap.size < g
  rd : Rd W b A n c p
  bw : b < w.heap.size
  ru : ∃ lo hi, zap W lo hi RA rs.length rc rs ∧ w.heap.size < lo ∧ hi ≤ W.heap.size ∧ (g < lo ∨ hi ≤ g)
  fa : ∃ lo hi, IsAtoms W lo hi GA gs.length gc gs ∧ w.heap.size < lo ∧ hi ≤ W.heap.size ∧ (g < lo ∨ hi ≤ g)
  ch : ∃ lo hi, zgn W lo hi HA hs.length hc hs ∧ w.heap.size < lo ∧ hi ≤ W.heap.size ∧ (g < lo ∨ hi ≤ g)
  ok : BaseOk rs t gs hs
  gr : w.grownBy W (some b)
section
variable {b n c g rc t gc hc p p' : Nat} {A RA GA HA : Option Addr} {w W W' : World} {rs : List Rl} {gs : List At} {hs : List Ch}
theorem BS.grown (h : BS b A n c w g RA rc rs t GA gc gs HA hc hs p W) (hg : W.grownBy W' (some b)) (hr : Rd W' b A n c p') : BS b A n c w g RA rc rs t GA gc gs HA hc hs p' W' := by
  have hbw := h.bw; have a9 := h.gw; have hs := hg.size; obtain ⟨lo, hi, a1, a2, a3, a4⟩ := h.ru; obtain ⟨a5, a7, b1, b2, b3, b4⟩ := h.fa; obtain ⟨a8, a6, c1, c2, c3, c4⟩ := h.ch; have k1 := fun q => zew (lo := w.heap.size) (hi := W.heap.size) hg hbw (nl _) q
  exact ⟨h.xr.kept hg qao, h.xb.kept hg qao, a9, hr, hbw,
    ⟨lo, hi, a1.keep RuleE.stays (fun q h1 h2 => cb_ (k1 _ qaa qaa)) (nl _) (nl _), a2, by omega, a4⟩,
    ⟨a5, a7, b1.keep AtomE.stays (fun q h1 h2 => cb_ (k1 _ qaa qaa)) (nl _) (nl _), b2, by omega, b4⟩,
    ⟨a8, a6, c1.keep ChE.stays (fun q h1 h2 => cb_ (k1 _ qaa qaa)) (nl _) (nl _), c2, by omega, c4⟩, h.ok, zaf h.gr hg⟩
theorem BS.below (h : BS b A n c w g RA rc rs t GA gc gs HA hc hs p W) (hw : Below W.heap.size W W') : BS b A n c w g RA rc rs t GA gc gs HA hc hs p W' :=
  h.grown (zah hw (some b)) (h.rd.below hw)
theorem BS.rules (h : BS b A n c w g RA rc rs t GA gc gs HA hc hs p W) : zap W 0 W.heap.size RA rs.length rc rs := by
  obtain ⟨lo, hi, a1, a2, a3, a4⟩ := h.ru; exact a1.keep RuleE.stays (fun _ _ _ => rfl) (Nat.zero_le _) a3
theorem BS.facts (h : BS b A n c w g RA rc rs t GA gc gs HA hc hs p W) : IsAtoms W 0 W.heap.size GA gs.length gc gs := by
  obtain ⟨lo, hi, a1, a2, a3, a4⟩ := h.fa; exact a1.keep AtomE.stays (fun _ _ _ => rfl) (Nat.zero_le _) a3
theorem BS.changes (h : BS b A n c w g RA rc rs t GA gc gs HA hc hs p W) : zgn W 0 W.heap.size HA hs.length hc hs := by
  obtain ⟨lo, hi, a1, a2, a3, a4⟩ := h.ch; exact a1.keep ChE.stays (fun _ _ _ => rfl) (Nat.zero_le _) a3
theorem BS.put {RA' GA' HA' : Option Addr} {rc' t' gc' hc' B : Nat} {gs' : List At} {hs' : List Ch} (h : BS b A n c w g RA rc rs t GA gc gs HA hc hs p W) (hB : g < B) (h1 : zap W B W.heap.size RA' rs.length rc' rs) (h2 : IsAtoms W B W.heap.size GA' gs'.length gc' gs') (h3 : zgn W B W.heap.size HA' hs'.length hc' hs') (hok : BaseOk rs t' gs' hs') :
    BS b A n c w g RA' rc' rs t' GA' gc' gs' HA' hc' hs' p ((((W.setCell ⟨g, 0, none⟩ (.slice RA' rs.length rc')).setCell ⟨g, 1, none⟩ (.int .i64 (t' : Int))).setCell ⟨g, 2, none⟩ (.slice GA' gs'.length gc')).setCell ⟨g, 3, none⟩ (.slice HA' hs'.length hc')) := by
  have hbw := h.bw; have a2 := h.gw; have hk : ∀ q, q ≠ g → ((((W.setCell ⟨g, 0, none⟩ (.slice RA' rs.length rc')).setCell ⟨g, 1, none⟩ (.int .i64 (t' : Int))).setCell ⟨g, 2, none⟩ (.slice GA' gs'.length gc')).setCell ⟨g, 3, none⟩ (.slice HA' hs'.length hc')).heap[q]? = W.heap[q]? := fun q hq => (hs_ _ _ _ q hq).trans ((hs_ _ _ _ q hq).trans ((hs_ _ _ _ q hq).trans (hs_ _ _ _ q hq))); have hs : ((((W.setCell ⟨g, 0, none⟩ (.slice RA' rs.length rc')).setCell ⟨g, 1, none⟩ (.int .i64 (t' : Int))).setCell ⟨g, 2, none⟩ (.slice GA' gs'.length gc')).setCell ⟨g, 3, none⟩ (.slice HA' hs'.length hc')).heap.size = W.heap.size := qcf
  have hne : w.heap.size ≠ g := qaa
  exact ⟨(((h.xr.far (p := ⟨g, 0, none⟩) hne _).far (p := ⟨g, 1, none⟩) hne _).far (p := ⟨g, 2, none⟩) hne _).far (p := ⟨g, 3, none⟩) hne _, (((h.xb.set 0 _).set 1 _).set 2 _).set 3 _, a2,
    (((h.rd.set (q := ⟨g, 0, none⟩) (by show b < g; omega) _).set (q := ⟨g, 1, none⟩) (by show b < g; omega) _).set (q := ⟨g, 2, none⟩) (by show b < g; omega) _).set (q := ⟨g, 3, none⟩) (by show b < g; omega) _, hbw,
    ⟨B, W.heap.size, h1.keep RuleE.stays (fun q h1 h2 => cb_ (hk _ qaa)) (nl _) (nl _), by omega, by omega, .inl hB⟩,
    ⟨B, W.heap.size, h2.keep AtomE.stays (fun q h1 h2 => cb_ (hk _ qaa)) (nl _) (nl _), by omega, by omega, .inl hB⟩,
    ⟨B, W.heap.size, h3.keep ChE.stays (fun q h1 h2 => cb_ (hk _ qaa)) (nl _) (nl _), by omega, by omega, .inl hB⟩, hok,
    zci (zci (zci (zci h.gr qbr _) qbr _) qbr _) qbr _⟩
theorem BS.tell (h : BS b A n c w g RA rc rs t GA gc gs HA hc hs p W) :
    ∃ W9, W9 = ((((W.setCell ⟨w.heap.size, 0, none⟩ (.slice RA rs.length rc)).setCell ⟨w.heap.size, 1, none⟩ (.int .i64 (t : Int))).setCell ⟨w.heap.size, 2, none⟩ (.slice GA gs.length gc)).setCell ⟨w.heap.size, 3, none⟩ (.slice HA hs.length hc)) ∧ Rd W9 b A n c p ∧ w.grownBy W9 (some b) ∧ zap W9 w.heap.size W9.heap.size RA rs.length rc rs ∧ IsAtoms W9 w.heap.size W9.heap.size GA gs.length gc gs ∧ zgn W9 w.heap.size W9.heap.size HA hs.length hc hs := by
  have hbw := h.bw; have hgw := h.gw; obtain ⟨lo, hi, a1, a2, a3, a4⟩ := h.ru; obtain ⟨lo2, hi2, b1, b2, b3, b4⟩ := h.fa; obtain ⟨lo3, hi3, c1, c2, c3, c4⟩ := h.ch; have hk : ∀ q, q ≠ w.heap.size → ((((W.setCell ⟨w.heap.size, 0, none⟩ (.slice RA rs.length rc)).setCell ⟨w.heap.size, 1, none⟩ (.int .i64 (t : Int))).setCell ⟨w.heap.size, 2, none⟩ (.slice GA gs.length gc)).setCell ⟨w.heap.size, 3, none⟩ (.slice HA hs.length hc)).heap[q]? = W.heap[q]? := fun q hq => (hs_ _ _ _ q hq).trans ((hs_ _ _ _ q hq).trans ((hs_ _ _ _ q hq).trans (hs_ _ _ _ q hq))); have hs : ((((W.setCell ⟨w.heap.size, 0, none⟩ (.slice RA rs.length rc)).setCell ⟨w.heap.size, 1, none⟩ (.int .i64 (t : Int))).setCell ⟨w.heap.size, 2, none⟩ (.slice GA gs.length gc)).setCell ⟨w.heap.size, 3, none⟩ (.slice HA hs.length hc)).heap.size = W.heap.size := qcf
  exact ⟨_, rfl, (((h.rd.set (q := ⟨w.heap.size, 0, none⟩) hbw _).set (q := ⟨w.heap.size, 1, none⟩) hbw _).set (q := ⟨w.heap.size, 2, none⟩) hbw _).set (q := ⟨w.heap.size, 3, none⟩) hbw _,
    zci (zci (zci (zci h.gr (nl _) _) (nl _) _) (nl _) _) (nl _) _,
    a1.keep RuleE.stays (fun q h1 h2 => cb_ (hk _ qaa)) qaa qaa, b1.keep AtomE.stays (fun q h1 h2 => cb_ (hk _ qaa)) qaa qaa, c1.keep ChE.stays (fun q h1 h2 => cb_ (hk _ qaa)) qaa qaa⟩
def BaseDraw (s : Nat) (b : Nat) (A : Option Addr) (n c p : Nat) (w : World) (e : Ending) (w' : World) : Prop :=
  ∃ (RA : Option Addr) (rc : Nat) (rs : List Rl) (t : Nat) (GA : Option Addr) (gc : Nat) (gs : List At) (HA : Option Addr) (hc : Nat) (hs : List Ch) (p' : Nat), e = .returned (.agg #[.slice RA rs.length rc, .int .i64 (t : Int), .slice GA gs.length gc, .slice HA hs.length hc]) ∧ BaseOk rs t gs hs ∧ p' ≤ p + s ∧ Rd w' b A n c p' ∧ w.grownBy w' (some b) ∧ zap w' w.heap.size w'.heap.size RA rs.length rc rs ∧ IsAtoms w' w.heap.size w'.heap.size GA gs.length gc gs ∧ zgn w' w.heap.size w'.heap.size HA hs.length hc hs
end
structure TS (b : Nat) (A : Option Addr) (n c : Nat) (V : World) (t : Nat) (B : Option Addr) (d : Nat) (cs : List At) (D : Option Addr) (e : Nat) (ds : List At) (p : Nat) (W : World) : Prop where
  x : Blk W V.heap.size 145 #[.int .i64 (t : Int), .slice B cs.length d, .slice D ds.length e]
  rd : Rd W b A n c p
  bw : b < V.heap.size
  gr : V.grownBy W (some b)
  ca : IsAtoms W (V.heap.size + 1) W.heap.size B cs.length d cs
  cd : IsAtoms W (V.heap.size + 1) W.heap.size D ds.length e ds
  fc : zae 40 cs = true
  fd : zae 40 ds = true
section
variable {b n c t d e p p' : Nat} {A B D : Option Addr} {V W W' : World} {cs ds : List At}
theorem TS.grown (h : TS b A n c V t B d cs D e ds p W) (hg : W.grownBy W' (some b)) (hr : Rd W' b A n c p') : TS b A n c V t B d cs D e ds p' W' := by
  have hbw := h.bw; have hs := hg.size; have k1 := fun q => zew (lo := V.heap.size) (hi := W.heap.size) hg hbw (nl _) q; exact ⟨h.x.kept hg qao, hr, hbw, zaf h.gr hg, h.ca.keep AtomE.stays (fun q h1 h2 => cb_ (k1 _ qaa qaa)) (nl _) hs, h.cd.keep AtomE.stays (fun q h1 h2 => cb_ (k1 _ qaa qaa)) (nl _) hs, h.fc, h.fd⟩
theorem TS.below (h : TS b A n c V t B d cs D e ds p W) (hw : Below W.heap.size W W') : TS b A n c V t B d cs D e ds p W' :=
  h.grown (zah hw (some b)) (h.rd.below hw)
theorem TS.put (h : TS b A n c V t B d cs D e ds p W) {M : Nat} {B' D' : Option Addr} {d' e' : Nat} {cs' ds' : List At} (hM : V.heap.size < M) (h1 : IsAtoms W M W.heap.size B' cs'.length d' cs') (h2 : IsAtoms W M W.heap.size D' ds'.length e' ds') (f1 : zae 40 cs' = true) (f2 : zae 40 ds' = true) :
    TS b A n c V t B' d' cs' D' e' ds' p (((W.setCell ⟨V.heap.size, 0, none⟩ (.int .i64 (t : Int))).setCell ⟨V.heap.size, 1, none⟩ (.slice B' cs'.length d')).setCell ⟨V.heap.size, 2, none⟩ (.slice D' ds'.length e')) := by
  have hbw := h.bw; have hk : ∀ q, q ≠ V.heap.size → (((W.setCell ⟨V.heap.size, 0, none⟩ (.int .i64 (t : Int))).setCell ⟨V.heap.size, 1, none⟩ (.slice B' cs'.length d')).setCell ⟨V.heap.size, 2, none⟩ (.slice D' ds'.length e')).heap[q]? = W.heap[q]? := fun q hq => (hs_ _ _ _ q hq).trans ((hs_ _ _ _ q hq).trans (hs_ _ _ _ q hq)); have hs : (((W.setCell ⟨V.heap.size, 0, none⟩ (.int .i64 (t : Int))).setCell ⟨V.heap.size, 1, none⟩ (.slice B' cs'.length d')).setCell ⟨V.heap.size, 2, none⟩ (.slice D' ds'.length e')).heap.size = W.heap.size := by rw [zab, zab, zab]
  exact ⟨((h.x.set 0 _).set 1 _).set 2 _, ((h.rd.set (q := ⟨V.heap.size, 0, none⟩) hbw _).set (q := ⟨V.heap.size, 1, none⟩) hbw _).set (q := ⟨V.heap.size, 2, none⟩) hbw _, hbw, zci (zci (zci h.gr (nl _) _) (nl _) _) (nl _) _,
    h1.keep AtomE.stays (fun q h3 h4 => cb_ (hk _ qaa)) qaa qaa, h2.keep AtomE.stays (fun q h3 h4 => cb_ (hk _ qaa)) qaa qaa, f1, f2⟩
end
theorem base_draw (b : Nat) (A : Option Addr) (n c p : Nat) (w : World) (h : Rd w b A n c p) (hp : p ≤ 600000) :
    Calls Tryz.prog 80 #[.pointer (some ⟨b, 0, none⟩)] w (BaseDraw 1300 b A n c p w) := by
  have H := hid h; clear h; have hbw : b < w.heap.size := H.out.1; have l4 := hid (Blk.new w 119 #[.slice none 0 0, .int .i64 0, .slice none 0 0, .slice none 0 0]); have HB1 := hid (zac w (.cells #[.slice none 0 0, .int .i64 0, .slice none 0 0, .slice none 0 0] 119)); obtain ⟨w1, l1⟩ : ∃ w1, w.alloc (.cells #[.slice none 0 0, .int .i64 0, .slice none 0 0, .slice none 0 0] 119) = w1 := ⟨_, rfl⟩; rw [l1] at l4 HB1; have q0 := hid l1; have p7 : Hid (w1.heap.size = w.heap.size + 1) := hid (by rw [← l1]; simp)
  clear l1; go_enter Tryz.func80, Tryz.ntmps80; go_wp2_with (rw [q0.out]); refine (rules_draw b A n c p w1 (H.out.below HB1.out) qaa).mono ?_; rintro e1 w2 ⟨B, k, d, rr, p1, rfl, hL, hk, hp1, hD, hQ⟩; obtain ⟨B', d', hv, hR⟩ := ty_rules hD.row rfl hD.ty; have q7 : B = B' := by injection hv
  have s5 : d = d' := by injection hv
  subst q7; subst s5; have HR := hid (show zap w2 0 w2.heap.size B k d (rr.map rRl) from by rw [← hL]; exact hR.keep RuleE.stays (fun _ _ _ => rfl) (Nat.zero_le _) (nl _)); have HD2 := hid hD.rd; have HG2 := hid hD.gr; clear hv hR hD hQ hL hk; go_wp2_with fail; refine (znn B k d (rr.map rRl) w2 HR.out).mono ?_; rintro e1 w3 ⟨RA, rn, rc, r3, rfl, hO, hm, hb3⟩; have o3 : rn = (baseB (rr.map rRl)).length := by rw [← hm, List.length_map]; exact hO.rules.1.symm.trans (by rw [List.length_map])
  obtain ⟨rs, o0⟩ : ∃ rs, baseB (rr.map rRl) = rs := ⟨_, rfl⟩; have g2 : BaseOk rs 0 [] [] := o0 ▸ BaseOk.new _; rw [o0] at o3 hm; subst o3; have p5 : zap w3 w2.heap.size w3.heap.size RA rs.length rc rs := by have h := hO.rules; rw [hm] at h; exact h
  have hb4 := zac w3 (.cells #[.slice RA rs.length rc, .int .i64 0, .slice none 0 0, .slice none 0 0] 119); have xb := Blk.new w3 119 #[.slice RA rs.length rc, .int .i64 0, .slice none 0 0, .slice none 0 0]; obtain ⟨w4, hq4⟩ : ∃ w4, w3.alloc (.cells #[.slice RA rs.length rc, .int .i64 0, .slice none 0 0, .slice none 0 0] 119) = w4 := ⟨_, rfl⟩; rw [hq4] at hb4 xb; have HQ4 := hid hq4; have s1 := p7.out; have s2 := HG2.out.size; have s3 := hb3.size; have s4 := hb4.size
  have k6 := hid (show BS b A n c w w3.heap.size RA rc rs 0 none 0 [] none 0 [] p1 w4 from
    ⟨((l4.out.kept HG2.out qao).below hb3).below hb4, xb, by omega, (HD2.out.below hb3).below hb4, hbw,
      ⟨w2.heap.size, w3.heap.size, p5.below RuleE.stays hb4 (nl _), by omega, by omega, .inr (nl _)⟩,
      ⟨w.heap.size + 1, w.heap.size + 1, ⟨rfl, nl _, by unfold maxLen; omega, fun hp => by simp at hp⟩, by omega, by omega, .inr qaa⟩,
      ⟨w.heap.size + 1, w.heap.size + 1, ⟨rfl, nl _, by unfold maxLen; omega, fun hp => by simp at hp⟩, by omega, by omega, .inr qaa⟩, g2,
      zaf (zaf (zaf (zah HB1.out (some b)) HG2.out) (zah hb3 (some b))) (zah hb4 (some b))⟩)
  obtain ⟨g, hg⟩ : ∃ g, w3.heap.size = g := ⟨_, rfl⟩; rw [hg] at k6; have s8 := hid hg; clear hb3 hb4 xb p5 hO hm o0 g2 hq4 hg s1 s2 s3 s4 HD2 HG2 l4 HB1 p7; go_wp2_with (rw [HQ4.out]); rw [s8.out]; refine (zbi b A n c p1 7 w4 k6.out.rd qaa qaa).mono ?_; rintro e w5 ⟨k0, ⟨rfl, r6⟩, o8, l3⟩; have n6 := hid (k6.out.grown l3 o8); have hk7 : k0 ≤ 7 := qaa; clear o8 l3 r6; go_wp2_with fail; refine (zbi b A n c (p1 + 1) 30 w5 n6.out.rd qaa qaa).mono ?_; rintro e w6 ⟨k1, ⟨rfl, hk1⟩, hr6, hg6⟩; have o6 := hid (n6.out.grown hg6 hr6); clear hr6 hg6 hk1; rename_i K2 a2 K1 a1 K0 a0
  have j0 : ∀ (n0 : Nat) (v15 v16 : Value), n0 ≤ 32 → K2 { tmps := #[.pointer (some ⟨b, 0, none⟩), undef, .pointer (some ⟨w.heap.size, 0, none⟩), .pointer (some ⟨g, 0, none⟩), .int .i64 (n0 : Int), undef, undef, undef, undef, .pointer (some ⟨b, 0, none⟩), .slice B k d, .agg #[.slice RA rs.length rc, .int .i64 0, .slice none 0 0, .slice none 0 0], .pointer (some ⟨b, 0, none⟩), .int .i64 (k0 : Int), .pointer (some ⟨b, 0, none⟩), v15, v16, undef, undef, undef, undef, undef, undef, undef, undef, undef, undef, undef, undef, undef, undef, undef, undef, undef, undef, undef, undef, undef, undef, undef, undef, undef, undef, undef, undef, undef, undef, undef, undef, undef, undef, undef, undef, undef, undef, undef, undef, undef, undef, undef, undef, undef, undef, undef, undef, undef, undef, undef, undef, undef, undef, undef, undef], defers := [] } w6 := by
    intro n0 v15 v16 hn0; clear a1 a0; refine a2 _ _ ?_; clear a2; go_wp2; go_loopw [4] (fun x wr => ∃ (j : Nat) (RA : Option Addr) (rc t : Nat) (GA : Option Addr) (gc : Nat) (gs : List At) (HA : Option Addr) (hc : Nat) (hs : List Ch) (p' : Nat), x = .int .i64 (j : Int) ∧ j ≤ 32 ∧ p' + 29 * j ≤ p1 + 2 + 29 * 32 ∧ BS b A n c w g RA rc rs t GA gc gs HA hc hs p' wr) (fun x _ => (intOf x).toNat)
    case atStart => exact ⟨n0, _, _, _, _, _, _, _, _, _, _, rfl, by omega, by omega, o6.out⟩
    case round =>
      obtain ⟨j, g6, h5, t, GA, gc, gs, HA, hc, hs, p2, rfl, hj, hp2, hS⟩ := hrel; have HS := hid hS; have y1 := hS.xb.cell 1; have y2 := hS.xb.cell 2; clear hS k6 n6 o6 HQ4; by_cases hlt : 0 < j
      · have o2 : (0 : Int) < (j : Int) := qaa
        have r7 : b < wr.heap.size := HS.out.rd.1; have hb7 := zac wr (.cells #[.int .i64 (t : Int), .slice none 0 0, .slice none 0 0] 145); have s6 := hb7.size; have l0 := hid (show TS b A n c wr t none 0 [] none 0 [] p2 (wr.alloc (.cells #[.int .i64 (t : Int), .slice none 0 0, .slice none 0 0] 145)) from ⟨Blk.new wr _ _, HS.out.rd.below hb7, r7, zah hb7 (some b), ⟨rfl, nl _, by unfold maxLen; omega, fun hp => by simp at hp⟩, ⟨rfl, nl _, by unfold maxLen; omega, fun hp => by simp at hp⟩, zhh, zhh⟩); obtain ⟨w7, n7⟩ : ∃ w7, wr.alloc (.cells #[.int .i64 (t : Int), .slice none 0 0, .slice none 0 0] 145) = w7 := ⟨_, rfl⟩
        rw [n7] at l0; have o7 := hid n7; clear hb7 s6 n7; go_wp2_with (rw [o7.out]); refine (zbi b A n c p2 3 w7 l0.out.rd qaa qaa).mono ?_; rintro e w8 ⟨k2, ⟨rfl, hk2⟩, i1, hg8⟩; have p4 := hid (l0.out.grown hg8 i1); have t5 : k2 ≤ 2 := qaa; have p8 : IntKind.i64.wrap (1 + (k2 : Int)) = ((1 + k2 : Nat) : Int) := qap; clear i1 hg8 hk2 l0 o7 y1 y2; obtain ⟨k3, hk3⟩ : ∃ k3, 1 + k2 = k3 := ⟨_, rfl⟩; rw [hk3] at p8; have s7 := hid hk3; clear hk3; obtain ⟨w0, hw0⟩ : ∃ w0 : World, w0 = wr := ⟨_, rfl⟩; subst hw0; go_wp2; go_loopw [6] (fun x wi => ∃ (i : Nat) (B1 : Option Addr) (d1 : Nat) (cs : List At) (D1 : Option Addr) (e1 : Nat) (ds : List At) (p3 : Nat), x = .int .i64 (i : Int) ∧ i ≤ 3 ∧ p3 + 9 * i ≤ p2 + 1 + 27 ∧ TS b A n c w0 t B1 d1 cs D1 e1 ds p3 wi) (fun x _ => (intOf x).toNat)
        case atStart => have hk3 := s7.out; exact ⟨k3, _, _, _, _, _, _, _, rfl, by omega, by omega, p4.out⟩
        case round =>
          clear p4; obtain ⟨i, B1, d1, cs, D1, e1, ds, p3, rfl, hi, hp3, hT⟩ := hrel; have HT := hid hT; have b6 := hid (HS.out.grown hT.gr hT.rd); clear hT; by_cases hli : 0 < i
          · have l9 : (0 : Int) < (i : Int) := qaa
            -- INNER
            rename_i K2 a2 K1 a1; clear a2 a1; have y2 := b6.out.xb.cell 2; go_wp2_with fail; refine (zbi b A n c p3 4 wr HT.out.rd qaa qaa).mono ?_; rintro e w8 ⟨k4, ⟨rfl, s9⟩, i1, hg8⟩; have j9 := hid (HT.out.grown hg8 i1); have i3 := hid (b6.out.grown hg8 i1); clear i1 hg8 s9 y2 HT b6; have y2 := i3.out.xb.cell 2; have j8 := i3.out.ok.few; have o4 : gs.length ≤ 40 := zaw j8; clear j8; have hwi : IntKind.i64.wrap ((i : Int) - 1) = ((i - 1 : Nat) : Int) := qap; rcases (Classical.em ((k4 : Int) = 0 ∧ (0 : Int) < (gs.length : Int))) with ⟨hk4I, hgI⟩ | hno
            · go_wp2_with fail
              first | (rename_i Q0 K0 a0; have h6 := hid (show ∀ (a : Act) (w : World), _ from a0); clear a0) | (rename_i Q0 K0 a0 h0; have h6 := hid (show ∀ (a : Act) (w : World), _ from a0); clear a0) | (rename_i Q0 K0 a0 h0 h1; have h6 := hid (show ∀ (a : Act) (w : World), _ from a0); clear a0)
              obtain ⟨V, hV⟩ : ∃ V, w8.drew = V := ⟨_, rfl⟩; have a8 := hid (j9.out.below ((Below.refl _ _).drew)); have b4 := hid (i3.out.below ((Below.refl _ _).drew)); rw [hV] at a8 b4; have HV := hid hV; clear hV y2 j9 i3; have l7 := a8.out.x.lt; have glt := b4.out.xb.lt; have n3 := a8.out.bw; have hgb : b < g := Nat.lt_trans b4.out.bw b4.out.gw; have l6 : g < w0.heap.size := HS.out.xb.lt; obtain ⟨x, hx⟩ : ∃ x, w0.heap.size = x := ⟨_, rfl⟩; have EL := hid (show IsAtoms V (b + 1) w0.heap.size GA gs.length gc gs from by obtain ⟨lo, hi, a1, a2, a3, a4⟩ := HS.out.fa; have o1 := HS.out.bw; exact a1.keep AtomE.stays (fun q h1 h2 => cb_ (a8.out.gr.block _ qaa qao)) qaa qaa)
              have y0 := b4.out.xb.cell 0; have y1 := b4.out.xb.cell 1; have y2 := b4.out.xb.cell 2; have y3 := b4.out.xb.cell 3; have z0 := a8.out.x.cell 0; have z1 := a8.out.x.cell 1; have z2 := a8.out.x.cell 2; rw [hx] at l7 n3 l6 EL z0 z1 z2 ⊢; have HX := hid hx; clear hx; refine wp_region_held_drew (S := fun W => ∀ q : Addr, q.block ≠ b → q.block ≠ x → q.block < V.heap.size → W.cell? q = V.cell? q) qab (by rw [HV.out]; exact fun _ _ _ _ => rfl) ?_; rw [HV.out]; intro hS_; refine tk 0 (.agg #[.slice g6 rs.length h5, .int .i64 (t : Int), .slice GA gs.length gc, .slice HA hs.length hc]) hS_ ?_ (hy := Or.inl ⟨by rfl, by intro w_ hSw_; (try dsimp only at hSw_); have s0 := (hSw_ ⟨g, 0, none⟩ qbd qbe glt).trans y0; have s1 := (hSw_ ⟨g, 1, none⟩ qbd qbe glt).trans y1; have s2 := (hSw_ ⟨g, 2, none⟩ qbd qbe glt).trans y2; have s3 := (hSw_ ⟨g, 3, none⟩ qbd qbe glt).trans y3; clear hSw_; go_simp⟩)
              refine tk 2 (.pointer (some ⟨g, 2, none⟩)) hS_ ?_; refine tk 3 (.slice GA gs.length gc) hS_ ?_ (hy := Or.inl ⟨by rfl, by intro w_ hSw_; (try dsimp only at hSw_); have s0 := (hSw_ ⟨g, 0, none⟩ qbd qbe glt).trans y0; have s1 := (hSw_ ⟨g, 1, none⟩ qbd qbe glt).trans y1; have s2 := (hSw_ ⟨g, 2, none⟩ qbd qbe glt).trans y2; have s3 := (hSw_ ⟨g, 3, none⟩ qbd qbe glt).trans y3; clear hSw_; go_simp⟩); refine tk 4 (.pointer (some ⟨b, 0, none⟩)) hS_ ?_; refine tk 5 (.pointer (some ⟨g, 2, none⟩)) hS_ ?_; refine tk 6 (.slice GA gs.length gc) hS_ ?_ (hy := Or.inl ⟨by rfl, by intro w_ hSw_; (try dsimp only at hSw_); have s0 := (hSw_ ⟨g, 0, none⟩ qbd qbe glt).trans y0; have s1 := (hSw_ ⟨g, 1, none⟩ qbd qbe glt).trans y1; have s2 := (hSw_ ⟨g, 2, none⟩ qbd qbe glt).trans y2; have s3 := (hSw_ ⟨g, 3, none⟩ qbd qbe glt).trans y3; clear hSw_; go_simp⟩)
              refine tk 7 (.int .i64 (gs.length : Int)) hS_ ?_; refine rd2 1 8 (fun K_ hK_ => ?_) fun K_ hK_ => ?_; rw [if_pos qad]; go_simp; refine hK_.out _ _ (fun _ _ _ _ => rfl) fun hS_ => ?_; clear hK_; refine rd1 8 fun K_ hK_ => ?_; go_simp; go_at_call 50; refine (zbi b A n c (p3 + 1) (gs.length : Int) V a8.out.rd qaa qaa).mono ?_; rintro e w9 ⟨k5, ⟨rfl, m9⟩, b9, a9⟩; have g8 : k5 < gs.length := qaa; have n4 : (k5 : Int) < (gs.length : Int) := qaa; have SV : ∀ q : Addr, q.block ≠ b → q.block ≠ x → q.block < V.heap.size → w9.cell? q = V.cell? q := fun q h1 h2 h3 => cb_ (a9.block _ h3 (fun e => h1 (by injection e)))
              have m7 := a9.size; have a6 := hid (a8.out.grown a9 b9); have b5 := hid (b4.out.grown a9 b9); obtain ⟨g5, ⟨nm, ts⟩, m3, m1, l3, l8, i5⟩ := EL.out.at_ g8; subst m3; obtain ⟨E5, ae, ac, n0, hnm, n1, j6⟩ := i5.out; have i6 : (g5.add (k5 * 2)).block ≠ b := qat; have hb1 : (g5.add (k5 * 2)).block ≠ x := qat; have hb2 : (g5.add (k5 * 2)).block < V.heap.size := qat; have i7 := hid (show IsTerms w9 0 w9.heap.size E5 ae ac ts from j6.keep (fun q h1 h2 => SV q qaa qaa qaa) (Nat.zero_le _) qaa); have x0 := a6.out.x.cell 0; have x1 := a6.out.x.cell 1; have x2 := a6.out.x.cell 2; rw [HX.out] at x0 x1 x2; clear b9 m9 a9 j6 i5
              refine hK_.out _ _ SV fun hS_ => ?_; clear hK_; refine tk 9 (.pointer (some (g5.add (k5 * 2)))) hS_ ?_; refine tk 10 (.agg #[.string nm, .slice E5 ae ac]) hS_ ?_ (hy := Or.inl ⟨by rfl, by intro w_ hSw_; (try dsimp only at hSw_); have s0 := (hSw_ (g5.add (k5 * 2)) i6 hb1 hb2).trans n0; have s1 := (hSw_ ⟨(g5.add (k5 * 2)).block, (g5.add (k5 * 2)).off + 1, none⟩ i6 hb1 hb2).trans n1; clear hSw_; go_simp⟩)
              rotate_left
              rw [if_pos qad]; go_simp; go_at_call 50; refine (zbi b A n c (p3 + 1) (gs.length : Int) V a8.out.rd qaa qaa).mono ?_; rintro e w9 ⟨k5, ⟨rfl, m9⟩, b9, a9⟩; have g8 : k5 < gs.length := qaa; have n4 : (k5 : Int) < (gs.length : Int) := qaa; have SV : ∀ q : Addr, q.block ≠ b → q.block ≠ x → q.block < V.heap.size → w9.cell? q = V.cell? q := fun q h1 h2 h3 => cb_ (a9.block _ h3 (fun e => h1 (by injection e))); have m7 := a9.size; have a6 := hid (a8.out.grown a9 b9); have b5 := hid (b4.out.grown a9 b9); obtain ⟨g5, ⟨nm, ts⟩, m3, m1, l3, l8, i5⟩ := EL.out.at_ g8
              subst m3; obtain ⟨E5, ae, ac, n0, hnm, n1, j6⟩ := i5.out; have i6 : (g5.add (k5 * 2)).block ≠ b := qat; have hb1 : (g5.add (k5 * 2)).block ≠ x := qat; have hb2 : (g5.add (k5 * 2)).block < V.heap.size := qat; have i7 := hid (show IsTerms w9 0 w9.heap.size E5 ae ac ts from j6.keep (fun q h1 h2 => SV q qaa qaa qaa) (Nat.zero_le _) qaa); have x0 := a6.out.x.cell 0; have x1 := a6.out.x.cell 1; have x2 := a6.out.x.cell 2; rw [HX.out] at x0 x1 x2; clear b9 m9 a9 j6 i5; refine hK_.out _ _ SV fun hS_ => ?_; clear hK_; refine tk 9 (.pointer (some (g5.add (k5 * 2)))) hS_ ?_; refine tk 10 (.agg #[.string nm, .slice E5 ae ac]) hS_ ?_ (hy := Or.inl ⟨by rfl, by intro w_ hSw_; (try dsimp only at hSw_); have s0 := (hSw_ (g5.add (k5 * 2)) i6 hb1 hb2).trans n0; have s1 := (hSw_ ⟨(g5.add (k5 * 2)).block, (g5.add (k5 * 2)).off + 1, none⟩ i6 hb1 hb2).trans n1; clear hSw_; go_simp⟩)
              refine rd1 1 fun K_ hK_ => ?_; go_simp; refine hK_.out _ _ SV fun hS_ => ?_; clear hK_
              all_goals
                clear x0 x1 x2; refine rd1 11 fun K_ hK_ => ?_; go_simp; go_at_call 108; refine (l7Gone_now g6 rs.length h5 rs t (some g5) gs.length gc gs HA hs.length hc B1 cs.length d1 cs D1 ds.length e1 ds nm E5 ae ac ts w9 b5.out.rules b5.out.facts (a6.out.ca.keep AtomE.stays (fun _ _ _ => rfl) (Nat.zero_le _) (nl _)) (a6.out.cd.keep AtomE.stays (fun _ _ _ => rfl) (Nat.zero_le _) (nl _)) hnm i7.out b5.out.ok.fine b5.out.ok.few a6.out.fc a6.out.fd b5.out.ok.early b5.out.ok.old).mono ?_; have g0 := gone_facts (rs := rs) (a := (nm, ts)) b5.out.ok.few a6.out.fc a6.out.fd; obtain ⟨⟨⟨e6, d7⟩, b7⟩, hX⟩ : ∃ X, goneT rs gs cs ds (nm, ts) = X := ⟨_, rfl⟩
                rw [hX] at g0 ⊢; rintro e c0 ⟨A5, c5, B5, d5, rfl, q1, q2, a5⟩; have d9 := (show zae 40 e6 = true from g0.1); have d4 := (show zae 40 d7 = true from g0.2); have q1 := (show IsAtoms c0 w9.heap.size c0.heap.size A5 e6.length c5 e6 from q1); have q2 := (show IsAtoms c0 w9.heap.size c0.heap.size B5 d7.length d5 d7 from q2); have m0 := a5.size; have h4 := a6.out.x.lt; have a7 := hid (a6.out.below a5); have h7 := hid (a7.out.put h4 q1 q2 d9 d4); have v0 := a7.out.x.frozen 0; have v1 := a7.out.x.frozen 1; have v2 := a7.out.x.frozen 2; have u0 := a7.out.x.cell 0; have u1 := a7.out.x.cell 1; have u2 := a7.out.x.cell 2
                rw [HX.out] at h7 v0 v1 v2 u0 u1 u2; clear hX g0 d9 d4 q1 q2 a6 b5; refine hK_.out _ _ (fun q h1 h2 h3 => (a5.cell (p := q) (Nat.lt_of_lt_of_le h3 qaa)).trans (SV q h1 h2 h3)) fun hS_ => ?_; clear hK_; refine tk 12 (.tuple #[.agg #[.int .i64 (t : Int), .slice A5 e6.length c5, .slice B5 d7.length d5], .int .i64 (b7 : Int)]) hS_ ?_; refine tk 13 (.agg #[.int .i64 (t : Int), .slice A5 e6.length c5, .slice B5 d7.length d5]) hS_ ?_; refine tk 14 (.int .i64 (b7 : Int)) hS_ ?_; refine rd1 15 fun K_ hK_ => ?_; go_simp; refine hK_.out _ _ (fun q h1 h2 h3 => ((cb_ (((hs_ _ _ _ q.block h2).trans ((hs_ _ _ _ q.block h2).trans (hs_ _ _ _ q.block h2))))).trans ((a5.cell (p := q) (Nat.lt_of_lt_of_le h3 qaa)).trans (SV q h1 h2 h3)))) (fun hS2_ => ?_)
                refine wpAnyH_done qab ?_ _; clear hK_ hS_ hS2_ SV u0 u1 u2 v0 v1 v2 a5 EL y0 y1 y2 y3 z0 z1 z2; have a0 := h6.out; go_wp2_with fail; go_roundw
                case rel => exact ⟨⟨i - 1, rfl, by omega, _, _, _, _, _, _, (p3 + 1 + 1), by omega, h7.out⟩, HX.out.symm⟩
                case measure => exact qms
            · have r8 : ((k4 : Int) = 0 ∧ ¬ (0 : Int) < (gs.length : Int)) ∨ ¬ (k4 : Int) = 0 := qaa
              clear hno; rcases r8 with ⟨hk4I, hgI⟩ | hk4I
              all_goals
                go_wp2_with fail
                first | (rename_i Q0 K0 a0; have h6 := hid (show ∀ (a : Act) (w : World), _ from a0); clear a0) | (rename_i Q0 K0 a0 h0; have h6 := hid (show ∀ (a : Act) (w : World), _ from a0); clear a0) | (rename_i Q0 K0 a0 h0 h1; have h6 := hid (show ∀ (a : Act) (w : World), _ from a0); clear a0)
                obtain ⟨V, hV⟩ : ∃ V, w8.drew = V := ⟨_, rfl⟩; have a8 := hid (j9.out.below ((Below.refl _ _).drew)); have b4 := hid (i3.out.below ((Below.refl _ _).drew)); rw [hV] at a8 b4; have HV := hid hV; clear hV y2 j9 i3; have l7 := a8.out.x.lt; have glt := b4.out.xb.lt; have n3 := a8.out.bw; have hgb : b < g := Nat.lt_trans b4.out.bw b4.out.gw; have l6 : g < w0.heap.size := HS.out.xb.lt; obtain ⟨x, hx⟩ : ∃ x, w0.heap.size = x := ⟨_, rfl⟩; have EL := hid (show IsAtoms V (b + 1) w0.heap.size GA gs.length gc gs from by obtain ⟨lo, hi, a1, a2, a3, a4⟩ := HS.out.fa; have o1 := HS.out.bw; exact a1.keep AtomE.stays (fun q h1 h2 => cb_ (a8.out.gr.block _ qaa qao)) qaa qaa)
                have y0 := b4.out.xb.cell 0; have y1 := b4.out.xb.cell 1; have y2 := b4.out.xb.cell 2; have y3 := b4.out.xb.cell 3; have z0 := a8.out.x.cell 0; have z1 := a8.out.x.cell 1; have z2 := a8.out.x.cell 2; rw [hx] at l7 n3 l6 EL z0 z1 z2 ⊢; have HX := hid hx; clear hx; refine wp_region_held_drew (S := fun W => ∀ q : Addr, q.block ≠ b → q.block ≠ x → q.block < V.heap.size → W.cell? q = V.cell? q) qab (by rw [HV.out]; exact fun _ _ _ _ => rfl) ?_; rw [HV.out]; intro hS_; refine tk 0 (.agg #[.slice g6 rs.length h5, .int .i64 (t : Int), .slice GA gs.length gc, .slice HA hs.length hc]) hS_ ?_ (hy := Or.inl ⟨by rfl, by intro w_ hSw_; (try dsimp only at hSw_); have s0 := (hSw_ ⟨g, 0, none⟩ qbd qbe glt).trans y0; have s1 := (hSw_ ⟨g, 1, none⟩ qbd qbe glt).trans y1; have s2 := (hSw_ ⟨g, 2, none⟩ qbd qbe glt).trans y2; have s3 := (hSw_ ⟨g, 3, none⟩ qbd qbe glt).trans y3; clear hSw_; go_simp⟩)
                refine tk 2 (.pointer (some ⟨b, 0, none⟩)) hS_ ?_; refine rd2 1 3 (fun K_ hK_ => ?_) fun K_ hK_ => ?_; rw [if_pos qad]; go_simp; refine hK_.out _ _ (fun _ _ _ _ => rfl) fun hS_ => ?_; clear hK_; refine rd1 3 fun K_ hK_ => ?_; go_simp; go_at_call 84; refine (zpc b A n c (p3 + 1) V a8.out.rd qaa).mono ?_; rintro e w9 ⟨nm, A6, m6, c6, ts, p9, ⟨rfl, g7, -, r9⟩, hlen, c3, hown, b9, a9⟩; have hnm : nm.size ≤ maxLen := by have := g7.1; unfold maxLen; omega
                have SV : ∀ q : Addr, q.block ≠ b → q.block ≠ x → q.block < V.heap.size → w9.cell? q = V.cell? q := fun q h1 h2 h3 => cb_ (a9.block _ h3 (fun e => h1 (by injection e))); have m7 := a9.size; have a6 := hid (a8.out.grown a9 b9); have b5 := hid (b4.out.grown a9 b9); obtain ⟨A7, c7, e7, i8⟩ := zeu hown hlen c3; injection e7 with e7 _ e8; subst e7; subst e8; have i7 := hid (show IsTerms w9 0 w9.heap.size A6 m6 c6 ts from i8.keep (fun _ _ _ => rfl) (Nat.zero_le _) (nl _)); have x0 := a6.out.x.cell 0; have x1 := a6.out.x.cell 1; have x2 := a6.out.x.cell 2; rw [HX.out] at x0 x1 x2; clear b9 a9 i8 hown hlen c3
                refine hK_.out _ _ SV fun hS_ => ?_; clear hK_
                rotate_left
                rw [if_pos qad]; go_simp; go_at_call 84; refine (zpc b A n c (p3 + 1) V a8.out.rd qaa).mono ?_; rintro e w9 ⟨nm, A6, m6, c6, ts, p9, ⟨rfl, g7, -, r9⟩, hlen, c3, hown, b9, a9⟩; have hnm : nm.size ≤ maxLen := by have := g7.1; unfold maxLen; omega
                have SV : ∀ q : Addr, q.block ≠ b → q.block ≠ x → q.block < V.heap.size → w9.cell? q = V.cell? q := fun q h1 h2 h3 => cb_ (a9.block _ h3 (fun e => h1 (by injection e))); have m7 := a9.size; have a6 := hid (a8.out.grown a9 b9); have b5 := hid (b4.out.grown a9 b9); obtain ⟨A7, c7, e7, i8⟩ := zeu hown hlen c3; injection e7 with e7 _ e8; subst e7; subst e8; have i7 := hid (show IsTerms w9 0 w9.heap.size A6 m6 c6 ts from i8.keep (fun _ _ _ => rfl) (Nat.zero_le _) (nl _)); have x0 := a6.out.x.cell 0; have x1 := a6.out.x.cell 1; have x2 := a6.out.x.cell 2; rw [HX.out] at x0 x1 x2; clear b9 a9 i8 hown hlen c3
                refine hK_.out _ _ SV fun hS_ => ?_; clear hK_; refine rd1 1 fun K_ hK_ => ?_; go_simp; refine hK_.out _ _ SV fun hS_ => ?_; clear hK_
                all_goals
                  clear x0 x1 x2; refine rd1 4 fun K_ hK_ => ?_; go_simp; go_at_call 109; refine (l7Add_now g6 rs.length h5 rs t GA gs.length gc gs HA hs.length hc B1 cs.length d1 cs D1 ds.length e1 ds nm A6 m6 c6 ts w9 b5.out.rules b5.out.facts (a6.out.ca.keep AtomE.stays (fun _ _ _ => rfl) (Nat.zero_le _) (nl _)) (a6.out.cd.keep AtomE.stays (fun _ _ _ => rfl) (Nat.zero_le _) (nl _)) hnm i7.out b5.out.ok.fine b5.out.ok.few a6.out.fc a6.out.fd b5.out.ok.early b5.out.ok.old).mono ?_; have g0 := add_facts (rs := rs) (a := (nm, ts)) b5.out.ok.few a6.out.fc a6.out.fd; obtain ⟨⟨⟨e6, d7⟩, b7⟩, hX⟩ : ∃ X, addT rs gs cs ds (nm, ts) = X := ⟨_, rfl⟩
                  rw [hX] at g0 ⊢; rintro e c0 ⟨A5, c5, B5, d5, rfl, q1, q2, a5⟩; have d9 := (show zae 40 e6 = true from g0.1); have d4 := (show zae 40 d7 = true from g0.2); have q1 := (show IsAtoms c0 w9.heap.size c0.heap.size A5 e6.length c5 e6 from q1); have q2 := (show IsAtoms c0 w9.heap.size c0.heap.size B5 d7.length d5 d7 from q2); have m0 := a5.size; have h4 := a6.out.x.lt; have a7 := hid (a6.out.below a5); have h7 := hid (a7.out.put h4 q1 q2 d9 d4); have v0 := a7.out.x.frozen 0; have v1 := a7.out.x.frozen 1; have v2 := a7.out.x.frozen 2; have u0 := a7.out.x.cell 0; have u1 := a7.out.x.cell 1; have u2 := a7.out.x.cell 2
                  rw [HX.out] at h7 v0 v1 v2 u0 u1 u2; clear hX g0 d9 d4 q1 q2 a6 b5; refine hK_.out _ _ (fun q h1 h2 h3 => (a5.cell (p := q) (Nat.lt_of_lt_of_le h3 qaa)).trans (SV q h1 h2 h3)) fun hS_ => ?_; clear hK_; refine tk 5 (.tuple #[.agg #[.int .i64 (t : Int), .slice A5 e6.length c5, .slice B5 d7.length d5], .int .i64 (b7 : Int)]) hS_ ?_; refine tk 6 (.agg #[.int .i64 (t : Int), .slice A5 e6.length c5, .slice B5 d7.length d5]) hS_ ?_; refine tk 7 (.int .i64 (b7 : Int)) hS_ ?_; refine rd1 8 fun K_ hK_ => ?_; go_simp; refine hK_.out _ _ (fun q h1 h2 h3 => ((cb_ (((hs_ _ _ _ q.block h2).trans ((hs_ _ _ _ q.block h2).trans (hs_ _ _ _ q.block h2))))).trans ((a5.cell (p := q) (Nat.lt_of_lt_of_le h3 qaa)).trans (SV q h1 h2 h3)))) (fun hS2_ => ?_)
                  refine wpAnyH_done qab ?_ _; clear hK_ hS_ hS2_ SV u0 u1 u2 v0 v1 v2 a5 EL y0 y1 y2 y3 z0 z1 z2; have a0 := h6.out; go_wp2_with fail; go_roundw
                  case rel => exact ⟨⟨i - 1, rfl, by omega, _, _, _, _, _, _, p9, by omega, h7.out⟩, HX.out.symm⟩
                  case measure => exact qms
            -- REN
          · have l9 : ¬ (0 : Int) < (i : Int) := qaa
            have y0 := b6.out.xb.cell 0; have y1 := b6.out.xb.cell 1; have y2 := b6.out.xb.cell 2; have y3 := b6.out.xb.cell 3; have z0 := HT.out.x.cell 0; have z1 := HT.out.x.cell 1; have z2 := HT.out.x.cell 2; go_wp2_with fail; refine (l7End_now g6 rs.length h5 rs t GA gs.length gc gs HA hs.length hc hs B1 cs.length d1 cs D1 ds.length e1 ds wr b6.out.rules b6.out.facts b6.out.changes (HT.out.ca.keep AtomE.stays (fun _ _ _ => rfl) (Nat.zero_le _) (nl _)) (HT.out.cd.keep AtomE.stays (fun _ _ _ => rfl) (Nat.zero_le _) (nl _)) b6.out.ok.fine b6.out.ok.few HT.out.fc HT.out.fd b6.out.ok.small b6.out.ok.short b6.out.ok.early b6.out.ok.old).mono ?_
            have g2 := b6.out.ok.more HT.out.fc HT.out.fd; obtain ⟨⟨⟨t9, i4, c3⟩, m5⟩, hX⟩ : ∃ X, endT rs t gs hs cs ds = X := ⟨_, rfl⟩; rw [hX] at g2 ⊢; rintro e w9 ⟨A5, c5, G5, d5, H5, f5, rfl, q1, q2, q3, hb9⟩; have g2 := (show BaseOk rs t9 i4 c3 from g2); have q2 := (show IsAtoms w9 wr.heap.size w9.heap.size G5 i4.length d5 i4 from q2); have q3 := (show zgn w9 wr.heap.size w9.heap.size H5 c3.length f5 c3 from q3); have a5 := zac w9 (.cells #[.slice A5 rs.length c5, .int .i64 (t9 : Int), .slice G5 i4.length d5, .slice H5 c3.length f5] 119); have l5 := hb9.size; have c4 := a5.size
            have o5 := b6.out.xb.lt; have m4 := Blk.new w9 119 #[.slice A5 rs.length c5, .int .i64 (t9 : Int), .slice G5 i4.length d5, .slice H5 c3.length f5]; obtain ⟨c0, h8⟩ : ∃ c0, w9.alloc (.cells #[.slice A5 rs.length c5, .int .i64 (t9 : Int), .slice G5 i4.length d5, .slice H5 c3.length f5] 119) = c0 := ⟨_, rfl⟩; rw [h8] at a5 m4 c4; have b3 := hid ((b6.out.below hb9).below a5); have h7 := hid (b3.out.put o5 (q1.keep RuleE.stays (fun q h1 h2 => a5.cell h2) (nl _) c4) (q2.keep AtomE.stays (fun q h1 h2 => a5.cell h2) (nl _) c4) (q3.keep ChE.stays (fun q h1 h2 => a5.cell h2) (nl _) c4) g2)
            have j7 := hid h8; have l2 := hid m4; have hwj : IntKind.i64.wrap ((j : Int) - 1) = ((j - 1 : Nat) : Int) := qap; clear q1 q2 q3 hb9 a5 l5 c4 m4 h8 g2 hX o5 y0 y1 y2 y3 z0 z1 z2; have u0 := l2.out.cell 0; have u1 := l2.out.cell 1; have u2 := l2.out.cell 2; have u3 := l2.out.cell 3; have v0 := b3.out.xb.cell 0; have v1 := b3.out.xb.cell 1; have v2 := b3.out.xb.cell 2; have v3 := b3.out.xb.cell 3; have v4 := b3.out.xb.frozen 0; have v5 := b3.out.xb.frozen 1; have v6 := b3.out.xb.frozen 2; have v7 := b3.out.xb.frozen 3; rcases (Classical.em ((m5 : Int) = 0)) with hcI | hcI
            · go_wp2_with (rw [j7.out])
              go_roundw
              case rel => exact ⟨j - 1, _, _, _, _, _, _, _, _, _, p3, by go_num, by omega, by omega, h7.out⟩
              case measure => exact qms
            · go_wp2_with (rw [j7.out])
              go_roundw
              case rel => exact ⟨j - 1, _, _, _, _, _, _, _, _, _, p3, by go_num, by omega, by omega, b3.out⟩
              case measure => exact qms
      · have o2 : ¬ (0 : Int) < (j : Int) := qaa
        have v0 := HS.out.xr.cell 0; have v1 := HS.out.xr.cell 1; have v2 := HS.out.xr.cell 2; have v3 := HS.out.xr.cell 3; have v4 := HS.out.xr.frozen 0; have v5 := HS.out.xr.frozen 1; have v6 := HS.out.xr.frozen 2; have v7 := HS.out.xr.frozen 3; have y0 := HS.out.xb.cell 0; have y3 := HS.out.xb.cell 3; go_wp2; obtain ⟨W9, hW9, q1, q2, q3, q4, q5⟩ := HS.out.tell; subst hW9; refine bodyPost_ret (v := .agg #[.slice g6 rs.length h5, .int .i64 (t : Int), .slice GA gs.length gc, .slice HA hs.length hc]) (by simp [results, Tryz.results80, go_sem, v0, v1, v2, v3]) rfl ⟨g6, h5, rs, t, GA, gc, gs, HA, hc, hs, p2, rfl, HS.out.ok, by omega, q1, q2, q3, q4, q5⟩
  have g1 := hid j0; clear j0 a2; rcases (Classical.em ((k1 : Int) = 0)) with hzI | hzI
  · go_wp2
    exact g1.out 32 _ _ qaa
  · go_wp2
    exact g1.out k0 _ _ qaa
end Go.Proofs.YtogonjkklioaaaaGreatDoor
