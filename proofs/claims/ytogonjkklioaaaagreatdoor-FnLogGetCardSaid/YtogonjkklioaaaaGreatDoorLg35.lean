/-
  Texts of one claim, put together.
-/
import Derived.Test.YtogonjkklioaaaaGreatDoorLg31
import Derived.Test.YtogonjkklioaaaaGreatDoorLg32
import Derived.Test.YtogonjkklioaaaaGreatDoorLg34
set_option maxRecDepth 100000
set_option maxHeartbeats 8000000
namespace Go.Proofs.YtogonjkklioaaaaGreatDoor
open Go.RowKit
def baseB (xs : List Rl) : List Rl := if zdl xs = 0 then xs else []
def BasePost (xs : List Rl) (w : World) (e : Ending) (w' : World) : Prop :=
  ∃ A n c rs, e = .returned (.agg #[.slice A n c, .int .i64 0, .slice none 0 0, .slice none 0 0]) ∧ RulesApart w' w.heap.size w'.heap.size A n c rs ∧ rs.map rRl = baseB xs ∧ Below w.heap.size w w'
theorem fine_small {xs : List Rl} (h : zdl xs = 0) : xs.length ≤ 1048576 ∧ ∀ r ∈ xs, zhs r.1.2.length r.2.length r.2 := by
  obtain ⟨h1, h2⟩ := prog_fine h; refine ⟨by omega, fun r hr => ?_⟩; obtain ⟨a, b, c⟩ := zgb (List.all_eq_true.1 h1 r hr); refine ⟨?_, by omega, fun q hq => ?_⟩
  · unfold zax at b; simp only [Bool.and_eq_true, decide_eq_true_eq] at b; omega
  · unfold zll at a
    have := List.all_eq_true.1 a q hq; unfold zax at this; simp only [Bool.and_eq_true, decide_eq_true_eq] at this; omega
theorem RulesIn.lower {w : World} {hi : Nat} : ∀ {rs : List Rr} {lo lo' : Nat}, RulesIn w lo hi rs → lo' ≤ lo → RulesIn w lo' hi rs
  | [], _, _, h, hh => Nat.le_trans hh h
  | _ :: _, _, _, ⟨m, h1, h2, h3, h4⟩, hh => ⟨m, Nat.le_trans hh h1, h2, h3.keep (fun _ _ _ => rfl) hh (nl _), h4⟩
theorem RulesApart.keep {w w' : World} {lo hi lo' hi' n c : Nat} {A : Option Addr} {rs : List Rr} (h : RulesApart w lo hi A n c rs) (hk : ∀ b, lo ≤ b → b < hi → w'.heap[b]? = w.heap[b]?) (h1 : lo' ≤ lo) (h2 : hi ≤ hi') : RulesApart w' lo' hi' A n c rs := by
  obtain ⟨a, b, d, e, f⟩ := h; refine ⟨a, b, d, fun hn => ?_, ((f.keep hk).wide h2).lower h1⟩; obtain ⟨g, k, f', e1, e2, e3, e4, e5, e6⟩ := e hn; exact ⟨g, k, f', e1, by omega, by omega, e4.of_block (hk g e2 e3), e5, e6⟩
theorem rules_set4 {w : World} {b lo lo' n c : Nat} {A : Option Addr} {rs : List Rr} {u0 u1 u2 u3 : Value} (h : RulesApart w lo w.heap.size A n c rs) (hb : b < lo) (hl : lo' ≤ lo) :
    RulesApart ((((w.setCell ⟨b, 0, none⟩ u0).setCell ⟨b, 1, none⟩ u1).setCell ⟨b, 2, none⟩ u2).setCell ⟨b, 3, none⟩ u3) lo' ((((w.setCell ⟨b, 0, none⟩ u0).setCell ⟨b, 1, none⟩ u1).setCell ⟨b, 2, none⟩ u2).setCell ⟨b, 3, none⟩ u3).heap.size A n c rs := by
  refine h.keep (fun x hx _ => ?_) hl qcn; rw [hs_ _ _ _ x (by show x ≠ b; omega), hs_ _ _ _ x (by show x ≠ b; omega), hs_ _ _ _ x (by show x ≠ b; omega), hs_ _ _ _ x (by show x ≠ b; omega)]
theorem none_apart {w : World} {lo hi : Nat} (h : lo ≤ hi) : RulesApart w lo hi none 0 0 [] :=
  ⟨rfl, nl _, Nat.zero_le _, fun h0 => absurd h0 (Nat.lt_irrefl _), h⟩
theorem znu (A : Option Addr) (n c : Nat) (xs : List Rl) (w : World) (h : zap w 0 w.heap.size A n c xs) :
    Calls Tryz.prog 106 #[.slice A n c] w (BasePost xs w) := by
  have HL := hid h.1; have a3 := zac w (.cells #[.slice none 0 0, .int .i64 0, .slice none 0 0, .slice none 0 0] 119); have X0 := Blk.new w 119 #[.slice none 0 0, .int .i64 0, .slice none 0 0, .slice none 0 0]; have a5 := hid X0; have a8 := hid a3; have H := hid (h.up RuleE.stays a3); have a9 : (w.alloc (.cells #[.slice none 0 0, .int .i64 0, .slice none 0 0, .slice none 0 0] 119)).heap.size = w.heap.size + 1 := qag; clear h X0 a3; go_enter Tryz.func106, Tryz.ntmps106
  go_wp2_with fail; refine (zdj A n c xs _ H.out).mono ?_; rintro e w1 ⟨rfl, hb1⟩; obtain ⟨k, hk⟩ : ∃ k, zdl xs = k := ⟨_, rfl⟩; rw [hk]; have HX1 := hid (a5.out.below hb1); have HB1 := hid (zaa a8.out hb1); have H1 := hid (H.out.up RuleE.stays hb1); have b3 := hb1.size; rw [a9] at b3; clear hb1; by_cases h0 : k = 0
  · have hI : (k : Int) = 0 := qaa
    have HF := hid (hk.trans h0); obtain ⟨a7, a4⟩ := fine_small HF.out; have a6 := hid a4; clear hk h0 a4; go_wp2_with fail; refine (zor A n c xs _ H1.out (by rw [← HL.out]; exact a7) a6.out).mono ?_; rintro e w2 ⟨A2, c2, rs, rfl, hO, hm, hb2⟩; have a2 := hid (HX1.out.below hb2); have HB2 := hid (zaa HB1.out hb2); have HO := hid hO; have HM := hid hm; have hz2 := hb2.size; clear hO hm hb2; have r0 := a2.out.cell 0; have r1 := a2.out.cell 1; have r2 := a2.out.cell 2; have r3 := a2.out.cell 3; have f0 := a2.out.frozen 0; have f1 := a2.out.frozen 1; have f2 := a2.out.frozen 2; have f3 := a2.out.frozen 3
    have b4 := a2.out.lt; go_wp2; have Z := (((a2.out.set 0 (.slice A2 xs.length c2)).set 1 (.int .i64 0)).set 2 (.slice none 0 0)).set 3 (.slice none 0 0); have z0 := Z.cell 0; have z1 := Z.cell 1; have z2 := Z.cell 2; have z3 := Z.cell 3; refine bodyPost_ret (v := .agg #[.slice A2 xs.length c2, .int .i64 0, .slice none 0 0, .slice none 0 0]) (by simp [results, Tryz.results106, go_sem, r0, r1, r2, r3]) rfl ⟨A2, xs.length, c2, rs, rfl, ?_, by unfold baseB; rw [if_pos HF.out]; exact HM.out, (((HB2.out.setCell qag _).setCell qag _).setCell qag _).setCell qag _⟩; exact rules_set4 HO.out qaa qaa
  · have hI : ¬ (k : Int) = 0 := qaa
    have HK := hid (show ¬ zdl xs = 0 by rw [hk]; exact h0); clear hk h0; have r0 := HX1.out.cell 0; have r1 := HX1.out.cell 1; have r2 := HX1.out.cell 2; have r3 := HX1.out.cell 3; have f0 := HX1.out.frozen 0; have f1 := HX1.out.frozen 1; have f2 := HX1.out.frozen 2; have f3 := HX1.out.frozen 3; have b4 := HX1.out.lt; go_wp2; have Z := (((HX1.out.set 0 (.slice none 0 0)).set 1 (.int .i64 0)).set 2 (.slice none 0 0)).set 3 (.slice none 0 0); have z0 := Z.cell 0; have z1 := Z.cell 1; have z2 := Z.cell 2; have z3 := Z.cell 3; refine bodyPost_ret (v := .agg #[.slice none 0 0, .int .i64 0, .slice none 0 0, .slice none 0 0]) (by simp [results, Tryz.results106, go_sem, r0, r1, r2, r3]) rfl ⟨none, 0, 0, [], rfl, none_apart (by simp only [zab]; omega), by unfold baseB; rw [if_neg HK.out]; rfl, (((HB1.out.setCell qag _).setCell qag _).setCell qag _).setCell qag _⟩
theorem facts_less {m : Nat} {xs gs : List At} (h : zag m xs = true) : zag m (zbv xs gs) = true := by
  unfold zag at h ⊢; simp only [Bool.and_eq_true, decide_eq_true_eq] at h ⊢; exact ⟨⟨List.all_eq_true.2 fun a ha => List.all_eq_true.1 h.1.1 a (List.mem_filter.1 ha).1, zkx h.1.2⟩, Nat.le_trans (List.length_filter_le _ _) h.2⟩
theorem zhj {m : Nat} : zag m [] = true := by
  unfold zag; simp [zaj]
theorem zlf {rs : List Rl} {xs : List At} (h : (zil rs xs).2 = true) : zag 40 xs = true := by
  unfold zil at h; by_cases h0 : zmt rs xs = true
  · unfold zmt at h0
    simp only [Bool.and_eq_true] at h0; exact h0.2.1
  · rw [if_neg h0] at h; simp at h
theorem of_facts {xs ys : List At} (h : zag 40 xs = true) (h' : zag 40 ys = true) : zag 40 (ofL xs ys).1 = true ∧ zag 40 (ofL xs ys).2 = true := by
  unfold ofL; split
  · exact ⟨facts_less h', facts_less h⟩
  · exact ⟨zhj, zhj⟩
section
variable {rs : List Rl} {gs cs ds : List At}
theorem to_facts {ys : List At} (hg : zag 40 gs = true) (hc : zag 40 cs = true) (hd : zag 40 ds = true) : zag 40 (toT rs gs cs ds ys).1.1 = true ∧ zag 40 (toT rs gs cs ds ys).1.2 = true := by
  unfold toT; split
  · rename_i h; exact of_facts hg (zlf h)
  · exact ⟨hc, hd⟩
theorem add_facts {a : At} (hg : zag 40 gs = true) (hc : zag 40 cs = true) (hd : zag 40 ds = true) : zag 40 (addT rs gs cs ds a).1.1 = true ∧ zag 40 (addT rs gs cs ds a).1.2 = true := by
  unfold addT; split
  · split
    · exact ⟨hc, hd⟩
    · exact to_facts hg hc hd
  · exact ⟨hc, hd⟩
theorem gone_facts {a : At} (hg : zag 40 gs = true) (hc : zag 40 cs = true) (hd : zag 40 ds = true) : zag 40 (goneT rs gs cs ds a).1.1 = true ∧ zag 40 (goneT rs gs cs ds a).1.2 = true := by
  unfold goneT; split
  · exact to_facts hg hc hd
  · exact ⟨hc, hd⟩
end
structure BaseOk (rs : List Rl) (t : Nat) (gs : List At) (hs : List Ch) : Prop where
  fine : zdl rs = 0
  few : zag 40 gs = true
  early : t ≤ 100000
  short : hs.length ≤ 30
  old : hs.length ≤ t
  each : ∀ c ∈ hs, zag 40 c.1 = true ∧ zag 40 c.2 = true
theorem BaseOk.small {rs : List Rl} {t : Nat} {gs : List At} {hs : List Ch} (h : BaseOk rs t gs hs) : ∀ c ∈ hs, zay c.1.length c.1 ∧ zay c.2.length c.2 := fun c hc =>
  ⟨zcs (m := 40) qaa (h.each c hc).1, zcs (m := 40) qaa (h.each c hc).2⟩
theorem BaseOk.new (xs : List Rl) : BaseOk (baseB xs) 0 [] [] := by
  refine ⟨?_, zhj, by omega, by simp, by simp, fun c hc => by simp at hc⟩; unfold baseB; split
  · assumption
  · rfl
theorem BaseOk.more {rs : List Rl} {t : Nat} {gs cs ds : List At} {hs : List Ch} (h : BaseOk rs t gs hs) (hc : zag 40 cs = true) (hd : zag 40 ds = true) :
    BaseOk rs (endT rs t gs hs cs ds).1.1 (endT rs t gs hs cs ds).1.2.1 (endT rs t gs hs cs ds).1.2.2 := by
  have a2 : ∀ c ∈ hs ++ [(cs, ds)], zag 40 c.1 = true ∧ zag 40 c.2 = true := fun c hm => by
    rcases List.mem_append.1 hm with hm | hm
    · exact h.each c hm
    · rw [List.mem_singleton.1 hm]; exact ⟨hc, hd⟩
  have h30 := h.short; have ht := h.old; have ht2 := h.early; unfold endT; by_cases h1 : txnB rs gs cs ds = true
  · rw [if_pos h1]
    by_cases h2 : cs.length + ds.length = 0
    · rw [if_pos h2]; exact h
    · rw [if_neg h2]
      by_cases h3 : (zil rs (doL gs cs ds)).2 = true ∧ t < 100000
      · rw [if_pos h3]
        by_cases h4 : 30 < hs.length + 1
        · rw [if_pos h4]
          exact ⟨h.fine, zlf h3.1, h3.2, by simp only [List.length_drop, List.length_append, List.length_singleton]; omega, by simp only [List.length_drop, List.length_append, List.length_singleton]; omega, fun c hm => a2 c (List.mem_of_mem_drop hm)⟩
        · rw [if_neg h4]
          exact ⟨h.fine, zlf h3.1, h3.2, by rw [List.length_append, List.length_singleton]; omega, by show (hs ++ [(cs, ds)]).length ≤ t + 1; rw [List.length_append, List.length_singleton]; omega, a2⟩
      · rw [if_neg h3]; exact h
  · rw [if_neg h1]; exact h
theorem IsBytes.up {w w' : World} {A : Option Addr} {n c : Nat} (h : IsBytes w w.heap.size A n c) (hb : Below w.heap.size w w') : IsBytes w' w'.heap.size A n c := by
  obtain ⟨h1, h2, h3⟩ := h.keep (w' := w') (fun q hq => hb.cell hq)
  exact ⟨h1, h2, fun hn => by
    obtain ⟨q, hq, a2, hc⟩ := h3 hn; exact ⟨q, hq, Nat.lt_of_lt_of_le a2 hb.size, hc⟩⟩
theorem Bx.later {a b : World} {x : Nat} {u v : Value} (h : Bx a x u v) (hb : Below a.heap.size a b) : Bx b x u v := h.grown (zae hb none) qag
def vOf (i : Nat) : ByteArray := ⟨#[118, UInt8.ofNat (48 + i)]⟩
def tabAt (i k : Nat) : At := (⟨#[101]⟩, [(false, vOf i), (false, vOf k)])
def tab (n : Nat) : List At := ((List.range n).map fun j => tabAt (j / 6) (j % 6)).foldl zed []
theorem tab_succ (j : Nat) : tab (j + 1) = zed (tab j) (tabAt (j / 6) (j % 6)) := by
  unfold tab; rw [List.range_succ, List.map_append, List.foldl_append]; rfl
theorem tab_at (i k : Nat) (hk : k < 6) : tab (i * 6 + k + 1) = zed (tab (i * 6 + k)) (tabAt i k) := by
  rw [tab_succ, show (i * 6 + k) / 6 = i by omega, show (i * 6 + k) % 6 = k by omega]
theorem tab_rises : ∀ n : Nat, zaj (tab n) = true
  | 0 => rfl
  | n + 1 => by rw [tab_succ]; exact zha (tab_rises n)
theorem tab_len : ∀ n : Nat, (tab n).length ≤ n
  | 0 => nl _
  | n + 1 => by rw [tab_succ]; have := zkt (tab n) (tabAt (n / 6) (n % 6)); have := tab_len n; omega
theorem tab_all : (tab 42).length = 42 := by kernel_rfl
end Go.Proofs.YtogonjkklioaaaaGreatDoor
namespace Go.Proofs.YtogonjkklioaaaaGreatDoor
open Go.RowKit
theorem oneFig (j : Nat) (hj : j < 10) (W : World) : (convert 22 9 (.slice (some ⟨W.heap.size, 0, none⟩) 1 1)).run Tryz.prog (W.alloc (.cells #[.int .u8 (48 + (j : Int))] 5)) = .ok (.string ⟨#[UInt8.ofNat (48 + j)]⟩) (W.alloc (.cells #[.int .u8 (48 + (j : Int))] 5)) := by
  have hb : ((UInt8.ofNat (48 + j)).toNat : Int) = 48 + (j : Int) := by rw [UInt8.toNat_ofNat']; omega
  have h := run_convert_bytes_back (P := Tryz.prog) (W.alloc (.cells #[.int .u8 (48 + (j : Int))] 5)) 22 9 5 ⟨W.heap.size, 0, none⟩ 1 [UInt8.ofNat (48 + j)] Tryz.underlying22 Tryz.underlying5 Tryz.underlying9 (fun i hi => by
    have : i = 0 := by simpa using hi
    subst this; show _ = some (Value.int .u8 ((UInt8.ofNat (48 + j)).toNat : Int)); rw [hb]; simp [go_sem, Addr.add])
  exact h
theorem dec_any (k : Nat) (hk : k < 10) (w : World) :
    Calls Tryz.prog 71 #[.int .i64 (k : Int)] w fun e w' => e = .returned (.string ⟨#[UInt8.ofNat (48 + k)]⟩) ∧ Below w.heap.size w w' := by
  have hcv := oneFig k hk w; have hb := zac w (.cells #[.int .u8 (48 + (k : Int))] 5); go_enter Tryz.func71, Tryz.ntmps71; go_wp2; go_ret; exact ⟨by rw [UInt8.ofNat_add]; rfl, hb⟩
theorem vText (k : Nat) : (⟨#[118]⟩ ++ ⟨#[UInt8.ofNat (48 + k)]⟩ : ByteArray) = vOf k := by
  apply ByteArray.ext; simp [ByteArray.data_append, vOf]
theorem vOf_size (k : Nat) : (vOf k).size = 2 := rfl
end Go.Proofs.YtogonjkklioaaaaGreatDoor
namespace Go.Proofs.YtogonjkklioaaaaGreatDoor
open Go.RowKit
theorem zkb (b : Nat) (A : Option Addr) (n c p : Nat) (w : World) (h : Rd w b A n c p) (hp : p ≤ 900000) :
    Calls Tryz.prog 84 #[.pointer (some ⟨b, 0, none⟩)] w (znh 3 8 b A n c p w) := by
  have H := hid h; clear h; have hbw : b < w.heap.size := H.out.1; go_enter Tryz.func84, Tryz.ntmps84; go_wp2_with fail; refine (zfr nmB (w.heap.size + 1) b _ A n c p _ _ _ qag (H.out.below (zac _ _)) qaa qad qaa qaa qad).mono ?_; rintro e w1 ⟨s, ⟨rfl, hs⟩, a6, a3⟩; have b3 := hid a6; have a2 := zad (zae (zbj w _ _) (some b)) a3; have a5 := hid a2; have a4 := Bx.new w (.string ⟨#[]⟩) (.slice none 0 0) 51; have HX1 := hid ((a4.grown (zae (zac _ _) none) qag).grown a3 qah); clear a6 a2 a4 a3
  go_wp2_with fail; refine (zho b A n c (p + 1) s false w1 b3.out qaa (nm_of hs)).mono ?_; rintro e w2 ⟨nm, A', k, d, ts, p', ⟨rfl, hnm, hk, hp'⟩, hlen, hs', hown, a7, hg2⟩; have b4 := a5.out.size; have a9 := hg2.size; have hlx := HX1.out.1; have a8 := hid (HX1.out.grown hg2 qah); have HG2 := hid (zad a5.out hg2); have HO2 := hid hown; have b5 := hid a7; have HL := hid hlen; have HS := hid hs'; have hne : (Value.slice A' k d).ownBlock ≠ some w.heap.size := fun e => by have := hown.lt _ e; omega
  have HN := hid hne; clear hown a7 hg2 hne hlen hs'; obtain ⟨x1, x2, x3, x4, x5⟩ := a8.out; go_wp2; have b6 := HG2.out.size; refine bodyPost_ret (v := .agg #[.string nm, .slice A' k d]) (by simp [results, Tryz.results84, go_sem, x2, x3]) rfl ⟨nm, A', k, d, ts, p', ⟨rfl, hnm, hk, by omega⟩, HL.out, HS.out, ?_, ?_, ?_⟩
  · exact ownsRow_setCell_other (ownsRow_setCell_other (zhy HO2.out qaa) HN.out _) HN.out _
  · exact (b5.out.set qah _).set qah _
  · have h1 := HG2.out
    exact ⟨h1.os, h1.tape, h1.output, by rw [zab, zab]; exact h1.size, fun i hi hne => (zmx qaa).trans (h1.block i hi hne)⟩
theorem put_mem {xs : List At} {a y : At} (h : y ∈ zed xs a) : y ∈ xs ∨ y = a := by
  unfold zed at h; split at h
  · exact .inl h
  · exact (mem_ins xs a y).1 h
theorem OwnRow.grown {V W : World} {B b : Nat} {xs : List At} {v : Value} (h : OwnRow V B xs v) (hg : V.grownBy W (some b)) (hB : b < B) : OwnRow W B xs v := by
  obtain ⟨n, M, rs, ⟨h5, h6⟩, h1, h2, h3, h4⟩ := h; exact ⟨n, M, rs, ⟨h5, Nat.le_trans h6 hg.size⟩, h1, h2, h3.kept hg (zge h3 qaa), h4.keep (fun q hq hq' => hg.cell_far _ (Nat.lt_of_lt_of_le hq' h6) qaj) (nl _) (nl _)⟩
theorem OwnRow.nil {V : World} {B : Nat} {v : Value} (hB : B ≤ V.heap.size) (h : V.ownsRow B 51 2 v 0 []) : OwnRow V B [] v := ⟨0, B, [], ⟨nl _, hB⟩, rfl, rfl, h, fun r hr => absurd hr qag⟩
def FactsRow (most s : Nat) (b : Nat) (A : Option Addr) (n c p : Nat) (w : World) (e : Ending) (w' : World) : Prop :=
  ∃ (v : Value) (xs : List At) (p' : Nat), (e = .returned v ∧ xs.length ≤ most ∧ p' ≤ p + s) ∧ OwnRow w' w.heap.size xs v ∧ zaj xs = true ∧ (∀ q ∈ xs, q.1.size ≤ 16 ∧ q.2.length ≤ 3 ∧ ∀ t ∈ q.2, t.2.size ≤ 16) ∧ Rd w' b A n c p' ∧ w.grownBy w' (some b)
theorem facts_draw (b : Nat) (A : Option Addr) (n c p most : Nat) (w : World) (h : Rd w b A n c p) (hp : p ≤ 800000) (hmost : most ≤ 1000) :
    Calls Tryz.prog 67 #[.pointer (some ⟨b, 0, none⟩), .int .i64 (most : Int)] w (FactsRow most (1 + 8 * most) b A n c p w) := by
  have H := hid h; clear h; have hbw : b < w.heap.size := H.out.1; go_enter Tryz.func67, Tryz.ntmps67; go_wp2_with fail; refine (zav b A n c p most _ (H.out.below (zac _ _)) qaa qaa).mono ?_; rintro e w1 ⟨k0, ⟨rfl, b5⟩, a7, a3⟩; have c7 : k0 ≤ most := qaa; have c0 := hid a7; have a8 := hid (zad (zae (zac w _) (some b)) a3); have c3 := a8.out.size; have d4 : Hid (w1.ownsRow w.heap.size 51 2 (.slice (some ⟨w.heap.size, 0, none⟩) 0 0) 0 []) := hid ((zes w 51 w.heap.size (nl _)).kept a3 (.inr qbu))
  clear a7 a3 b5; go_wp2; go_loopw [5, 6] (fun o i wr => ∃ (k : Nat) (xs : List At) (p' : Nat), k ≤ k0 ∧ i = .int .i64 (k : Int) ∧ xs.length ≤ k0 - k ∧ p' ≤ p + 1 + 8 * (k0 - k) ∧ OwnRow wr w.heap.size xs o ∧ zaj xs = true ∧ (∀ q ∈ xs, q.1.size ≤ 16 ∧ q.2.length ≤ 3 ∧ ∀ t ∈ q.2, t.2.size ≤ 16) ∧ Rd wr b A n c p' ∧ w.grownBy wr (some b)) (fun _ i _ => (intOf i).toNat)
  case atStart => exact ⟨k0, [], p + 1, nl _, rfl, by simp, by omega, OwnRow.nil c3 d4.out, rfl, fun q hq => absurd hq qag, c0.out, a8.out⟩
  case round =>
    obtain ⟨k, xs, p', hk, rfl, hj, hp', hI, hR, hS, a9, hg⟩ := hrel; have HI := hid hI; have a4 := hid hR; have HS := hid hS; have HRD := hid a9; have HG := hid hg; have hsz := hg.size; clear hI hR hS a9 hg; by_cases h0 : 0 < k
    · have d9 : (0 : Int) < (k : Int) := qaa
      go_wp2_with fail; refine (zkb b A n c p' _ HRD.out qaa).mono ?_; rintro e w3 ⟨nm, A', k3, d3, ts, p3, ⟨rfl, hnm, hk3, hp3⟩, hlen, hs3, hown, hrd3, hg3⟩; have b4 := hg3.size; obtain ⟨A4, c4, e4, hT⟩ := zbz hown hlen hs3; injection e4 with e4 _ e5; subst e4; subst e5; have T3 := hT.keep (w' := w3) (lo' := w.heap.size) (hi' := w3.heap.size) (fun _ _ _ => rfl) hsz (nl _); have b9 := hid (HI.out.grown hg3 hbw); have d7 := hid T3; have a2 := hid hrd3; have b7 := hid (zad HG.out hg3); have HS3 := hid hs3; clear hown hT T3 hrd3 hg3 hs3; have hnm' : nm.size ≤ maxLen := qaf; go_wp2_with fail; refine (zou _ xs nm A' k3 d3 ts _ w.heap.size qaa b9.out hnm' d7.out a4.out qaa).mono ?_; rintro e w4 ⟨v5, rfl, a6, hb5⟩
      have hl5 := zkt xs (nm, ts); have b6 := hid a6; have a5 := hid (a2.out.below hb5); have b3 := hid (zad b7.out (zae hb5 (some b))); clear a6 hb5; go_wp2; go_roundw
      case rel =>
        refine ⟨k - 1, zed xs (nm, ts), p3, by omega, by go_num, by omega, by omega, b6.out, zha a4.out, fun q hq => ?_, a5.out, b3.out⟩; rcases put_mem hq with hq | rfl
        · exact HS.out q hq
        · exact ⟨hnm.1, by show ts.length ≤ 3; omega, HS3.out⟩
      case measure => exact qms
    · have d9 : ¬ (0 : Int) < (k : Int) := qaa
      go_wp2; go_ret; exact ⟨_, xs, p', ⟨rfl, by omega, by omega⟩, HI.out, a4.out, HS.out, HRD.out, HG.out⟩
end Go.Proofs.YtogonjkklioaaaaGreatDoor
namespace Go.Proofs.YtogonjkklioaaaaGreatDoor
open Go.RowKit
theorem atoms_take {w : World} {lo hi n c k : Nat} {A : Option Addr} {xs : List At} (h : IsAtoms w lo hi A n c xs) (hk : k ≤ n) : IsAtoms w lo hi A k c (xs.take k) := by
  obtain ⟨h1, h2, h3, h4⟩ := h; refine ⟨by rw [List.length_take]; omega, by omega, h3, fun h0 => ?_⟩; obtain ⟨p, e, a, b, f⟩ := h4 qaa; refine ⟨p, e, a, b, fun i x hx => f i x ?_⟩; rw [List.getElem?_take] at hx; by_cases hi : i < k
  · rwa [if_pos hi] at hx
  · rw [if_neg hi] at hx; cases hx
theorem row_more {w3 w4 : World} {B M S n k d cap g' : Nat} {v : Value} {rs : List Rf} {xs : List At} {nm : ByteArray} {A' : Option Addr} {ts : List Tm} {o : Obj}
    (hB : B ≤ M) (hM : M ≤ S) (hS : S ≤ w3.heap.size) (hl : rs.length = n) (hm : rs.map rAt = xs) (h3 : w3.ownsRow M 51 2 v n (zai rs)) (hv : ∀ g, v.ownBlock = some g → g < S) (hR : RefsIn w3 B M rs)
    (hs : nm.size ≤ maxLen) (hT : IsTerms w3 S w3.heap.size A' k d ts)
    (hown : w4.ownsRow M 51 2 (.slice (some ⟨g', 0, none⟩) (n + 1) cap) (n + 1) (zai rs ++ [.string nm, .slice A' k d])) (hg : (w3.alloc o).grownBy w4 v.ownBlock) :
    IsAtoms w4 B w4.heap.size (some ⟨g', 0, none⟩) (n + 1) cap (xs ++ [(nm, ts)]) := by
  have hlow : ∀ g, v.ownBlock = some g → M ≤ g := fun g hgg => (h3.lt g hgg).1; have hz : w3.heap.size ≤ w4.heap.size := by have := hg.size; simp at this; omega
  have hc : ∀ q : Addr, q.block < w3.heap.size → (∀ g, v.ownBlock = some g → q.block ≠ g) → w4.cell? q = w3.cell? q := fun q hq hne =>
    (hg.cell_far _ qah (fun e => hne _ e.symm rfl)).trans ((zac w3 o).cell hq)
  have hr : RefsIn w4 B w4.heap.size (rs ++ [(nm, A', k, d, ts)]) := by
    intro r hr; rcases List.mem_append.1 hr with h1 | h1
    · exact ⟨(hR r h1).1, (hR r h1).2.keep (fun q _ h2 => hc q qaa (fun g e => by have := hlow g e; omega)) (nl _) qaa⟩
    · rw [List.mem_singleton.1 h1]
      exact ⟨hs, hT.keep (fun q h2 h3' => hc q h3' (fun g e => by have := hv g e; omega)) qaa hz⟩
  have e : zai rs ++ [.string nm, .slice A' k d] = zai (rs ++ [(nm, A', k, d, ts)]) := by rw [zhw]; rfl
  rw [e] at hown; obtain ⟨A, c, he, hI⟩ := zej hown (by simp [hl]) hB hr (nl _); injection he with e1 _ e2; subst e1; subst e2; have := hI.atoms; rw [List.map_append, hm] at this; exact this
theorem two_terms (W : World) (x y : ByteArray) (hx : x.size ≤ maxLen) (hy : y.size ≤ maxLen) : IsTerms (W.alloc (.cells #[.bool false, .string x, .bool false, .string y] 110)) W.heap.size (W.heap.size + 1) (some ⟨W.heap.size, 0, none⟩) 2 2 [(false, x), (false, y)] := by
  refine ⟨rfl, nl _, by unfold maxLen; omega, fun _ => ⟨_, rfl, nl _, Nat.lt_succ_self _, fun i t ht => ?_⟩⟩
  match i, ht with
  | 0, ht => injection ht with ht; subst ht; exact ⟨by simp [go_sem, Addr.add], by simp [go_sem, Addr.add], hx⟩
  | 1, ht => injection ht with ht; subst ht; exact ⟨by simp [go_sem, Addr.add], by simp [go_sem, Addr.add], hy⟩
  | i + 2, ht => simp at ht
def AnyFacts (s : Nat) (b : Nat) (A : Option Addr) (n c p : Nat) (w : World) (e : Ending) (w' : World) : Prop :=
  ∃ (A' : Option Addr) (k d : Nat) (xs : List At) (p' : Nat), (e = .returned (.slice A' k d) ∧ k ≤ 41 ∧ p' ≤ p + s) ∧ IsAtoms w' w.heap.size w'.heap.size A' k d xs ∧ Rd w' b A n c p' ∧ w.grownBy w' (some b)
theorem facts_draw9 (b : Nat) (A : Option Addr) (n c p : Nat) (w : World) (h : Rd w b A n c p) (hp : p ≤ 800000) :
    Calls Tryz.prog 67 #[.pointer (some ⟨b, 0, none⟩), .int .i64 9] w (FactsRow 9 73 b A n c p w) := facts_draw b A n c p 9 w h hp qaa
theorem grownWide {a b c : World} {row : Option Nat} {r : Nat} (h : a.grownBy b (some r)) (k : b.grownBy c row) (hr : ∀ g, row = some g → a.heap.size ≤ g) : a.grownBy c (some r) :=
  ⟨k.os.trans h.os, k.tape.trans h.tape, k.output.trans h.output, Nat.le_trans h.size k.size, fun i hi hne => (k.block i (Nat.lt_of_lt_of_le hi h.size) (fun e => by have := hr i e.symm; omega)).trans (h.block i hi hne)⟩
theorem zqc {p : Prop} (h : p := by
  obtain ⟨A4, c4, e4, hT⟩ := zbz hown3 hlen hs'; injection e4 with e4 _ e5; subst e4; subst e5; have hs3 := hg3.size; have HR3 := hid (HO2.out.kept hg3 (zge HO2.out qaa)); have HF3 := hid (HF2.out.keep (W' := w3) (fun q hq hq' => hg3.cell_far _ (Nat.lt_of_lt_of_le hq' m2) qaj) (nl _) (nl _)); have HT := hid hT; have R3 := hid hr3; have G3 := hid (zad G2.out hg3); have hnm' : nm.size ≤ maxLen := qaf; clear hT hr3 hg3 hown3; go_wp2_with (at_builtin; refine wpList_append_own _ rfl _ _ 23 rfl M 51 i0 _ 2 40 Tryz.underlying23 hi hz hsz hby rfl qan _ _ _ rfl (HR3.out.alloc _) ⟨w3.heap.size, 0, none⟩ 1 1 [.string nm, .slice A' k d] rfl rfl (zbr _ _ _ _) qal qaf qaa qah ?_; intro v' w4 hown' hgrow' _; obtain ⟨g', cap', rfl⟩ := ownsRow_succ hown'; have hown := hid hown'; have hgrow := hid hgrow'; clear hown' hgrow')
  have hlow : ∀ g, (Value.slice Av xs.length cv).ownBlock = some g → M ≤ g ∧ g < w2.heap.size := fun g hg => HO2.out.lt g hg; go_ret; refine ⟨_, _, _, _, p', ⟨rfl, by omega, by omega⟩, row_more m1 m2 hs3 hl hm HR3.out (fun g hg => (hlow g hg).2) HF3.out hnm' HT.out hown.out hgrow.out, ?_, ?_⟩
  · exact (R3.out.below (zac _ _)).grown hgrow.out (fun g hg => by have := (hlow g hg).1; omega)
  · exact grownWide (zad G3.out (zae (zac _ _) (some b))) hgrow.out (fun g hg => by have := (hlow g hg).1; omega)) : p := h
theorem any_facts_draw (b : Nat) (A : Option Addr) (n c p : Nat) (w : World) (h : Rd w b A n c p) (hp : p ≤ 700000) :
    Calls Tryz.prog 52 #[.pointer (some ⟨b, 0, none⟩)] w (AnyFacts 120 b A n c p w) := by
  have H := hid h; clear h; have hbw : b < w.heap.size := H.out.1; obtain ⟨i0, hi, hz, hsz, hby⟩ := info_parts Tryz.infoAt; go_enter Tryz.func52, Tryz.ntmps52; go_wp2_with fail; refine (facts_draw9 b A n c p _ H.out qaa).mono ?_; rintro e w1 ⟨v, xs, p1, ⟨rfl, hk, hp1⟩, a5, a4, e7, b9, a8⟩; have HRW := hid a5; have g0 := hid a4; have R1 := hid b9; have G1 := hid a8; have d9 := a8.size; clear a5 a4 e7 b9 a8; go_wp2_with fail; refine (zav b A n c p1 _ _ R1.out qaa qaa).mono ?_; rintro e w2 ⟨kk, ⟨rfl, hkk⟩, hr2, hg2⟩; have a2 := hid (HRW.out.grown hg2 hbw); have R2 := hid hr2; have G2 := hid (zad G1.out hg2)
  have e8 := hg2.size; clear hr2 hg2 HRW G1 R1; obtain ⟨Av, cv, rfl, -⟩ := a2.out.atoms; by_cases k0 : kk = 0
  · subst k0
    obtain ⟨n0, M, rs, ⟨m1, m2⟩, hl, hm, hown, a3⟩ := a2.out; have b3 : n0 = xs.length := by rw [← hm, List.length_map, hl]
    subst b3; have HO2 := hid hown; have HF2 := hid a3; clear hown a3; go_wp2_with fail; refine (zkg b A n c (p1 + 1) w2 R2.out qaa).mono ?_; rintro e w3 ⟨nm, A', k, d, ts, p', ⟨rfl, hnm, d4, hp'⟩, hlen, hs', hown3, hr3, hg3⟩; exact zqc
  · by_cases k1 : kk = 1
    · subst k1
      obtain ⟨n0, M, rs, ⟨m1, m2⟩, hl, hm, hown, a3⟩ := a2.out; have b3 : n0 = xs.length := by rw [← hm, List.length_map, hl]
      subst b3; have HO2 := hid hown; have HF2 := hid a3; clear hown a3; go_wp2_with fail; refine (zkb b A n c (p1 + 1) w2 R2.out qaa).mono ?_; rintro e w3 ⟨nm, A', k, d, ts, p', ⟨rfl, hnm, d4, hp'⟩, hlen, hs', hown3, hr3, hg3⟩; exact zqc
    · by_cases k2 : kk = 2
      · subst k2
        go_wp2_with fail; refine (zou _ xs _ _ 2 2 [(false, ⟨#[97]⟩), (false, ⟨#[98]⟩)] _ w.heap.size qah (a2.out.up (zac w2 _)) qan ((two_terms w2 ⟨#[97]⟩ ⟨#[98]⟩ qan qan).keep (fun _ _ _ => rfl) qaa qag) g0.out qaa).mono ?_; rintro e w3 ⟨v', rfl, ho, hb⟩; obtain ⟨A', c', rfl, hI⟩ := ho.atoms; have hl5 := zkt xs (⟨#[112]⟩, [(false, ⟨#[97]⟩), (false, ⟨#[98]⟩)]); have HI := hid hI; have R3 := hid ((R2.out.below (zac w2 _)).below hb); have G3 := hid (zad (zad G2.out (zae (zac w2 _) (some b))) (zae hb (some b))); clear ho hI hb; go_wp2; go_ret; exact ⟨_, _, _, _, p1 + 1, ⟨rfl, by omega, by omega⟩, HI.out, R3.out, G3.out⟩
      · by_cases k3 : kk = 3
        · subst k3
          have a6 := Nat.le_trans d9 e8; have hvo : ∀ k : Nat, ({ data := #[118] } ++ { data := #[48 + UInt8.ofNat k] } : ByteArray) = vOf k := fun k => by rw [← vText, UInt8.ofNat_add]; rfl
          go_wp2; go_loopw [4, 5] (fun o i wr => ∃ k : Nat, k ≤ 7 ∧ i = .int .i64 (k : Int) ∧ OwnRow wr w.heap.size (tab (k * 6)) o ∧ Rd wr b A n c (p1 + 1) ∧ w.grownBy wr (some b)) (fun _ i _ => 7 - (intOf i).toNat)
          case atStart => exact ⟨0, by omega, rfl, OwnRow.nil qah (zes w2 51 w.heap.size a6), R2.out.below (zac _ _), zad G2.out (zae (zac _ _) (some b))⟩
          case round =>
            obtain ⟨k, hk7, rfl, ho, hr, hg⟩ := hrel; have HO := hid ho; have HR := hid hr; have HG := hid hg; clear ho hr hg; by_cases hlt : k < 7
            · have g6 : (k : Int) < 7 := qaa
              go_wp2; go_loopw [4, 6] (fun o i wr' => ∃ j : Nat, j ≤ 6 ∧ i = .int .i64 (j : Int) ∧ OwnRow wr' w.heap.size (tab (k * 6 + j)) o ∧ Rd wr' b A n c (p1 + 1) ∧ w.grownBy wr' (some b)) (fun _ i _ => 6 - (intOf i).toNat)
              case atStart => exact ⟨0, by omega, rfl, HO.out, HR.out, HG.out⟩
              case round =>
                obtain ⟨j, hj6, rfl, ho, hr, hg⟩ := hrel; have HO2 := hid ho; have b6 := hid hr; have HG2 := hid hg; clear ho hr hg; by_cases hlt' : j < 6
                · go_wp2_with fail
                  refine (dec_any k qaa _).mono ?_; rintro e w3 ⟨rfl, hb3⟩; have d7 := hid (HO2.out.up hb3); have HR3 := hid (b6.out.below hb3); have a9 := hid (zad HG2.out (zae hb3 (some b))); clear hb3; go_wp2_with fail; refine (dec_any j qaa _).mono ?_; rintro e w4 ⟨rfl, hb4⟩; have g2 := hid (d7.out.up hb4); have g1 := hid (HR3.out.below hb4); have b4 := hid (zad a9.out (zae hb4 (some b))); clear hb4; go_wp2_with fail; refine (zou _ (tab (k * 6 + j)) _ _ 2 2 [(false, vOf k), (false, vOf j)] _ w.heap.size (by have := b4.out.size; simp; omega) (g2.out.up (zac w4 _)) qan ((two_terms w4 (vOf k) (vOf j) (by rw [vOf_size]; decide) (by rw [vOf_size]; decide)).keep (fun _ _ _ => rfl) b4.out.size qag) (tab_rises _) (by have := tab_len (k * 6 + j); omega)).mono ?_; rintro e w5 ⟨v', rfl, ho, hb⟩
                  have b7 : zed (tab (k * 6 + j)) (⟨#[101]⟩, [(false, vOf k), (false, vOf j)]) = tab (k * 6 + (j + 1)) := (tab_at k j hlt').symm; rw [b7] at ho; have g5 := hid ho; have HR5 := hid ((g1.out.below (zac w4 _)).below hb); have c0 := hid (zad (zad b4.out (zae (zac w4 _) (some b))) (zae hb (some b))); clear ho hb b7; go_wp2; go_roundw
                  case rel => exact ⟨j + 1, by omega, by go_num, g5.out, HR5.out, c0.out⟩
                  case measure => exact qms
                · go_wp2
                  go_roundw
                  case rel => exact ⟨k + 1, by omega, by go_num, by rw [show (k + 1) * 6 = k * 6 + j by omega]; exact HO2.out, b6.out, HG2.out⟩
                  case measure => exact qms
            · have a7 : k = 7 := qaa
              subst a7; go_wp2_with fail; refine (zav b A n c (p1 + 1) _ _ HR.out qaa qaa).mono ?_; rintro e w3 ⟨kp, ⟨rfl, hkp⟩, hr3, hg3⟩; have c7 : kp < 2 := qaa; obtain ⟨A', c', rfl, hI⟩ := (HO.out.grown hg3 hbw).atoms; have b5 : IsAtoms w3 w.heap.size w3.heap.size A' 42 c' (tab 42) := by have e6 := tab_all; rwa [show 7 * 6 = 42 from rfl, e6] at hI
              have HI := hid b5; have HR3 := hid hr3; have a9 := hid (zad HG.out hg3); clear hI b5 hr3 hg3; obtain ⟨pA, rfl, -⟩ := HI.out.2.2.2 qaa; have hcap := HI.out.2.1; have c3 := HI.out.2.2.1; unfold maxLen at c3; have hin : 40 + (kp : Int) ≤ (c' : Int) := qaa; have g7 : (0 : Int) ≤ 40 + (kp : Int) := qaa; go_wp2; go_ret; exact ⟨_, _, _, _, p1 + 1 + 1, ⟨rfl, by omega, by omega⟩, atoms_take HI.out qaa, HR3.out, a9.out⟩
        · have hks : kk ≠ 0 ∧ kk ≠ 1 ∧ kk ≠ 2 ∧ kk ≠ 3 := ⟨k0, k1, k2, k3⟩
          obtain ⟨A', c', e', hI⟩ := a2.out.atoms; injection e' with e1 _ e2; subst e1; subst e2; have HI := hid hI; clear hI; go_wp2; go_ret; exact ⟨_, _, _, _, p1 + 1, ⟨rfl, by omega, by omega⟩, HI.out, R2.out, G2.out⟩
end Go.Proofs.YtogonjkklioaaaaGreatDoor
namespace Go.Proofs.YtogonjkklioaaaaGreatDoor
open Go.RowKit
theorem Bx.row {a b : World} {x r : Nat} {u v : Value} (h : Bx a x u v) (hg : a.grownBy b (some r)) (hx : x ≠ r) : Bx b x u v := h.grown hg (fun e => by injection e with e; exact hx e)
theorem zfw {w : World} {lo lo' n c x : Nat} {A : Option Addr} {xs : List At} {u v : Value} (h : IsAtoms w lo w.heap.size A n c xs) (hx : x < lo) (hl : lo' ≤ lo) :
    IsAtoms ((w.setCell ⟨x, 0, none⟩ u).setCell ⟨x, 1, none⟩ v) lo' ((w.setCell ⟨x, 0, none⟩ u).setCell ⟨x, 1, none⟩ v).heap.size A n c xs :=
  h.keep AtomE.stays (fun q hq _ => cb_ ((hs_ _ _ _ _ qah).trans (hs_ _ _ _ _ qah))) hl qbc
end Go.Proofs.YtogonjkklioaaaaGreatDoor

namespace Go.Proofs.YtogonjkklioaaaaGreatDoor
open Go.RowKit
theorem zch {w W : World} {b : Nat} {q : Addr} (h : w.grownBy W (some b)) (hx : w.heap.size ≤ q.block) (y : Value) : w.grownBy (W.setCell q y) (some b) :=
  ⟨h.os, h.tape, h.output, by rw [zab]; exact h.size, fun i hi hne => (hs_ _ _ _ i qaa).trans (h.block i hi hne)⟩
structure BS (b : Nat) (A : Option Addr) (n c : Nat) (w : World) (g : Nat) (RA : Option Addr) (rc : Nat) (rs : List Rl) (t : Nat) (GA : Option Addr) (gc : Nat) (gs : List At) (HA : Option Addr) (hc : Nat) (hs : List Ch) (p : Nat) (W : World) : Prop where
  xr : Blk W w.heap.size 119 #[.slice none 0 0, .int .i64 0, .slice none 0 0, .slice none 0 0]
  xb : Blk W g 119 #[.slice RA rs.length rc, .int .i64 (t : Int), .slice GA gs.length gc, .slice HA hs.length hc]
  gw : w.heap.size < g
  rd : Rd W b A n c p
  bw : b < w.heap.size
  ru : ∃ lo hi, zap W lo hi RA rs.length rc rs ∧ w.heap.size < lo ∧ hi ≤ W.heap.size ∧ (g < lo ∨ hi ≤ g)
  fa : ∃ lo hi, IsAtoms W lo hi GA gs.length gc gs ∧ w.heap.size < lo ∧ hi ≤ W.heap.size ∧ (g < lo ∨ hi ≤ g)
  ch : ∃ lo hi, zht W lo hi HA hs.length hc hs ∧ w.heap.size < lo ∧ hi ≤ W.heap.size ∧ (g < lo ∨ hi ≤ g)
  ok : BaseOk rs t gs hs
  gr : w.grownBy W (some b)
section
variable {b n c g rc t gc hc p p' : Nat} {A RA GA HA : Option Addr} {w W W' : World} {rs : List Rl} {gs : List At} {hs : List Ch}
theorem BS.grown (h : BS b A n c w g RA rc rs t GA gc gs HA hc hs p W) (hg : W.grownBy W' (some b)) (hr : Rd W' b A n c p') : BS b A n c w g RA rc rs t GA gc gs HA hc hs p' W' := by
  have hbw := h.bw; have a9 := h.gw; have hs := hg.size; obtain ⟨lo, hi, a1, a2, a3, a4⟩ := h.ru; obtain ⟨a5, a7, b1, b2, b3, b4⟩ := h.fa; obtain ⟨a8, a6, c1, c2, c3, c4⟩ := h.ch; have k1 := fun q => zeu (lo := w.heap.size) (hi := W.heap.size) hg hbw (nl _) q
  exact ⟨h.xr.kept hg qaj, h.xb.kept hg qaj, a9, hr, hbw,
    ⟨lo, hi, a1.keep RuleE.stays (fun q h1 h2 => cb_ (k1 _ qaa qaa)) (nl _) (nl _), a2, by omega, a4⟩,
    ⟨a5, a7, b1.keep AtomE.stays (fun q h1 h2 => cb_ (k1 _ qaa qaa)) (nl _) (nl _), b2, by omega, b4⟩,
    ⟨a8, a6, c1.keep ChE.stays (fun q h1 h2 => cb_ (k1 _ qaa qaa)) (nl _) (nl _), c2, by omega, c4⟩, h.ok, zad h.gr hg⟩
theorem BS.below (h : BS b A n c w g RA rc rs t GA gc gs HA hc hs p W) (hw : Below W.heap.size W W') : BS b A n c w g RA rc rs t GA gc gs HA hc hs p W' :=
  h.grown (zae hw (some b)) (h.rd.below hw)
theorem BS.rules (h : BS b A n c w g RA rc rs t GA gc gs HA hc hs p W) : zap W 0 W.heap.size RA rs.length rc rs := by
  obtain ⟨lo, hi, a1, a2, a3, a4⟩ := h.ru; exact a1.keep RuleE.stays (fun _ _ _ => rfl) (Nat.zero_le _) a3
theorem BS.facts (h : BS b A n c w g RA rc rs t GA gc gs HA hc hs p W) : IsAtoms W 0 W.heap.size GA gs.length gc gs := by
  obtain ⟨lo, hi, a1, a2, a3, a4⟩ := h.fa; exact a1.keep AtomE.stays (fun _ _ _ => rfl) (Nat.zero_le _) a3
theorem BS.changes (h : BS b A n c w g RA rc rs t GA gc gs HA hc hs p W) : zht W 0 W.heap.size HA hs.length hc hs := by
  obtain ⟨lo, hi, a1, a2, a3, a4⟩ := h.ch; exact a1.keep ChE.stays (fun _ _ _ => rfl) (Nat.zero_le _) a3
theorem BS.put {RA' GA' HA' : Option Addr} {rc' t' gc' hc' B : Nat} {gs' : List At} {hs' : List Ch} (h : BS b A n c w g RA rc rs t GA gc gs HA hc hs p W) (hB : g < B) (h1 : zap W B W.heap.size RA' rs.length rc' rs) (h2 : IsAtoms W B W.heap.size GA' gs'.length gc' gs') (h3 : zht W B W.heap.size HA' hs'.length hc' hs') (hok : BaseOk rs t' gs' hs') :
    BS b A n c w g RA' rc' rs t' GA' gc' gs' HA' hc' hs' p ((((W.setCell ⟨g, 0, none⟩ (.slice RA' rs.length rc')).setCell ⟨g, 1, none⟩ (.int .i64 (t' : Int))).setCell ⟨g, 2, none⟩ (.slice GA' gs'.length gc')).setCell ⟨g, 3, none⟩ (.slice HA' hs'.length hc')) := by
  have hbw := h.bw; have a2 := h.gw; have hk : ∀ q, q ≠ g → ((((W.setCell ⟨g, 0, none⟩ (.slice RA' rs.length rc')).setCell ⟨g, 1, none⟩ (.int .i64 (t' : Int))).setCell ⟨g, 2, none⟩ (.slice GA' gs'.length gc')).setCell ⟨g, 3, none⟩ (.slice HA' hs'.length hc')).heap[q]? = W.heap[q]? := fun q hq => (hs_ _ _ _ q hq).trans ((hs_ _ _ _ q hq).trans ((hs_ _ _ _ q hq).trans (hs_ _ _ _ q hq))); have hs : ((((W.setCell ⟨g, 0, none⟩ (.slice RA' rs.length rc')).setCell ⟨g, 1, none⟩ (.int .i64 (t' : Int))).setCell ⟨g, 2, none⟩ (.slice GA' gs'.length gc')).setCell ⟨g, 3, none⟩ (.slice HA' hs'.length hc')).heap.size = W.heap.size := qch
  have hne : w.heap.size ≠ g := qaa
  exact ⟨(((h.xr.far (p := ⟨g, 0, none⟩) hne _).far (p := ⟨g, 1, none⟩) hne _).far (p := ⟨g, 2, none⟩) hne _).far (p := ⟨g, 3, none⟩) hne _, (((h.xb.set 0 _).set 1 _).set 2 _).set 3 _, a2,
    (((h.rd.set (q := ⟨g, 0, none⟩) (by show b < g; omega) _).set (q := ⟨g, 1, none⟩) (by show b < g; omega) _).set (q := ⟨g, 2, none⟩) (by show b < g; omega) _).set (q := ⟨g, 3, none⟩) (by show b < g; omega) _, hbw,
    ⟨B, W.heap.size, h1.keep RuleE.stays (fun q h1 h2 => cb_ (hk _ qaa)) (nl _) (nl _), by omega, by omega, .inl hB⟩,
    ⟨B, W.heap.size, h2.keep AtomE.stays (fun q h1 h2 => cb_ (hk _ qaa)) (nl _) (nl _), by omega, by omega, .inl hB⟩,
    ⟨B, W.heap.size, h3.keep ChE.stays (fun q h1 h2 => cb_ (hk _ qaa)) (nl _) (nl _), by omega, by omega, .inl hB⟩, hok,
    zch (zch (zch (zch h.gr qbs _) qbs _) qbs _) qbs _⟩
theorem BS.tell (h : BS b A n c w g RA rc rs t GA gc gs HA hc hs p W) :
    ∃ W9, W9 = ((((W.setCell ⟨w.heap.size, 0, none⟩ (.slice RA rs.length rc)).setCell ⟨w.heap.size, 1, none⟩ (.int .i64 (t : Int))).setCell ⟨w.heap.size, 2, none⟩ (.slice GA gs.length gc)).setCell ⟨w.heap.size, 3, none⟩ (.slice HA hs.length hc)) ∧ Rd W9 b A n c p ∧ w.grownBy W9 (some b) ∧ zap W9 w.heap.size W9.heap.size RA rs.length rc rs ∧ IsAtoms W9 w.heap.size W9.heap.size GA gs.length gc gs ∧ zht W9 w.heap.size W9.heap.size HA hs.length hc hs := by
  have hbw := h.bw; have hgw := h.gw; obtain ⟨lo, hi, a1, a2, a3, a4⟩ := h.ru; obtain ⟨lo2, hi2, b1, b2, b3, b4⟩ := h.fa; obtain ⟨lo3, hi3, c1, c2, c3, c4⟩ := h.ch; have hk : ∀ q, q ≠ w.heap.size → ((((W.setCell ⟨w.heap.size, 0, none⟩ (.slice RA rs.length rc)).setCell ⟨w.heap.size, 1, none⟩ (.int .i64 (t : Int))).setCell ⟨w.heap.size, 2, none⟩ (.slice GA gs.length gc)).setCell ⟨w.heap.size, 3, none⟩ (.slice HA hs.length hc)).heap[q]? = W.heap[q]? := fun q hq => (hs_ _ _ _ q hq).trans ((hs_ _ _ _ q hq).trans ((hs_ _ _ _ q hq).trans (hs_ _ _ _ q hq))); have hs : ((((W.setCell ⟨w.heap.size, 0, none⟩ (.slice RA rs.length rc)).setCell ⟨w.heap.size, 1, none⟩ (.int .i64 (t : Int))).setCell ⟨w.heap.size, 2, none⟩ (.slice GA gs.length gc)).setCell ⟨w.heap.size, 3, none⟩ (.slice HA hs.length hc)).heap.size = W.heap.size := qch
  exact ⟨_, rfl, (((h.rd.set (q := ⟨w.heap.size, 0, none⟩) hbw _).set (q := ⟨w.heap.size, 1, none⟩) hbw _).set (q := ⟨w.heap.size, 2, none⟩) hbw _).set (q := ⟨w.heap.size, 3, none⟩) hbw _,
    zch (zch (zch (zch h.gr (nl _) _) (nl _) _) (nl _) _) (nl _) _,
    a1.keep RuleE.stays (fun q h1 h2 => cb_ (hk _ qaa)) qaa qaa, b1.keep AtomE.stays (fun q h1 h2 => cb_ (hk _ qaa)) qaa qaa, c1.keep ChE.stays (fun q h1 h2 => cb_ (hk _ qaa)) qaa qaa⟩
def BaseDraw (s : Nat) (b : Nat) (A : Option Addr) (n c p : Nat) (w : World) (e : Ending) (w' : World) : Prop :=
  ∃ (RA : Option Addr) (rc : Nat) (rs : List Rl) (t : Nat) (GA : Option Addr) (gc : Nat) (gs : List At) (HA : Option Addr) (hc : Nat) (hs : List Ch) (p' : Nat), e = .returned (.agg #[.slice RA rs.length rc, .int .i64 (t : Int), .slice GA gs.length gc, .slice HA hs.length hc]) ∧ BaseOk rs t gs hs ∧ p' ≤ p + s ∧ Rd w' b A n c p' ∧ w.grownBy w' (some b) ∧ zap w' w.heap.size w'.heap.size RA rs.length rc rs ∧ IsAtoms w' w.heap.size w'.heap.size GA gs.length gc gs ∧ zht w' w.heap.size w'.heap.size HA hs.length hc hs
end
structure TS (b : Nat) (A : Option Addr) (n c : Nat) (V : World) (t : Nat) (B : Option Addr) (d : Nat) (cs : List At) (D : Option Addr) (e : Nat) (ds : List At) (p : Nat) (W : World) : Prop where
  x : Blk W V.heap.size 145 #[.int .i64 (t : Int), .slice B cs.length d, .slice D ds.length e]
  rd : Rd W b A n c p
  bw : b < V.heap.size
  gr : V.grownBy W (some b)
  ca : IsAtoms W (V.heap.size + 1) W.heap.size B cs.length d cs
  cd : IsAtoms W (V.heap.size + 1) W.heap.size D ds.length e ds
  fc : zag 40 cs = true
  fd : zag 40 ds = true
section
variable {b n c t d e p p' : Nat} {A B D : Option Addr} {V W W' : World} {cs ds : List At}
theorem TS.grown (h : TS b A n c V t B d cs D e ds p W) (hg : W.grownBy W' (some b)) (hr : Rd W' b A n c p') : TS b A n c V t B d cs D e ds p' W' := by
  have hbw := h.bw; have hs := hg.size; have k1 := fun q => zeu (lo := V.heap.size) (hi := W.heap.size) hg hbw (nl _) q; exact ⟨h.x.kept hg qaj, hr, hbw, zad h.gr hg, h.ca.keep AtomE.stays (fun q h1 h2 => cb_ (k1 _ qaa qaa)) (nl _) hs, h.cd.keep AtomE.stays (fun q h1 h2 => cb_ (k1 _ qaa qaa)) (nl _) hs, h.fc, h.fd⟩
theorem TS.below (h : TS b A n c V t B d cs D e ds p W) (hw : Below W.heap.size W W') : TS b A n c V t B d cs D e ds p W' :=
  h.grown (zae hw (some b)) (h.rd.below hw)
theorem TS.put (h : TS b A n c V t B d cs D e ds p W) {M : Nat} {B' D' : Option Addr} {d' e' : Nat} {cs' ds' : List At} (hM : V.heap.size < M) (h1 : IsAtoms W M W.heap.size B' cs'.length d' cs') (h2 : IsAtoms W M W.heap.size D' ds'.length e' ds') (f1 : zag 40 cs' = true) (f2 : zag 40 ds' = true) :
    TS b A n c V t B' d' cs' D' e' ds' p (((W.setCell ⟨V.heap.size, 0, none⟩ (.int .i64 (t : Int))).setCell ⟨V.heap.size, 1, none⟩ (.slice B' cs'.length d')).setCell ⟨V.heap.size, 2, none⟩ (.slice D' ds'.length e')) := by
  have hbw := h.bw; have hk : ∀ q, q ≠ V.heap.size → (((W.setCell ⟨V.heap.size, 0, none⟩ (.int .i64 (t : Int))).setCell ⟨V.heap.size, 1, none⟩ (.slice B' cs'.length d')).setCell ⟨V.heap.size, 2, none⟩ (.slice D' ds'.length e')).heap[q]? = W.heap[q]? := fun q hq => (hs_ _ _ _ q hq).trans ((hs_ _ _ _ q hq).trans (hs_ _ _ _ q hq)); have hs : (((W.setCell ⟨V.heap.size, 0, none⟩ (.int .i64 (t : Int))).setCell ⟨V.heap.size, 1, none⟩ (.slice B' cs'.length d')).setCell ⟨V.heap.size, 2, none⟩ (.slice D' ds'.length e')).heap.size = W.heap.size := by rw [zab, zab, zab]
  exact ⟨((h.x.set 0 _).set 1 _).set 2 _, ((h.rd.set (q := ⟨V.heap.size, 0, none⟩) hbw _).set (q := ⟨V.heap.size, 1, none⟩) hbw _).set (q := ⟨V.heap.size, 2, none⟩) hbw _, hbw, zch (zch (zch h.gr (nl _) _) (nl _) _) (nl _) _,
    h1.keep AtomE.stays (fun q h3 h4 => cb_ (hk _ qaa)) qaa qaa, h2.keep AtomE.stays (fun q h3 h4 => cb_ (hk _ qaa)) qaa qaa, f1, f2⟩
end
end Go.Proofs.YtogonjkklioaaaaGreatDoor
