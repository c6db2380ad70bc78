/-
  Texts of one claim, put together.
-/
import Derived.Test.YtcigljngiemdeaaGreatAo0
import Derived.Test.YtcigljngiemdeaaGreatAo9
import Derived.Test.YtcigljngiemdeaaGreatAo4
import Derived.Test.YtcigljngiemdeaaGreatAo35
import Derived.Test.YtcigljngiemdeaaGreatAo22
import Derived.Test.YtcigljngiemdeaaGreatAo36
import Derived.Test.YtcigljngiemdeaaGreatPartsRow
import Derived.Test.YtcigljngiemdeaaGreatFsRows
set_option maxRecDepth 100000
set_option maxHeartbeats 8000000
namespace Go.Proofs.YtcigljngiemdeaaGreat
open Go.RowKit
def thereB (ls : List ByteArray) (s : ByteArray) : Bool := ls.any fun v => decide (v = s)
theorem there_yes {ls : List ByteArray} {s : ByteArray} (h : s ∈ ls) : thereB ls s = true := by unfold thereB; rw [List.any_eq_true]; exact ⟨s, h, by simp⟩
theorem there_no {ls : List ByteArray} {s : ByteArray} (h : s ∉ ls) : thereB ls s = false := by unfold thereB; rw [List.any_eq_false]; exact fun v hv => by simp; exact fun e => h (e ▸ hv)
theorem fsText_any (A : Option Addr) (n c : Nat) (ls : List ByteArray) (s : ByteArray) (w : World) (h : IsTexts w 0 w.heap.size A n c ls) :
    Calls Tryz.prog 35 #[.slice A n c, .string s] w (BoolPost (thereB ls s) w) := by
  have hm := h.len; unfold maxLen at hm; have HL := hid h.1; have H := hid h; clear h; go_enter Tryz.func35, Tryz.ntmps35; go_wp2; go_loopw [5] (fun x wr => ∃ k : Nat, k ≤ n ∧ x = .int .i64 (k : Int) ∧ (∀ q ∈ ls.take k, q ≠ s) ∧ Below w.heap.size w wr) (fun x _ => n - (intOf x).toNat)
  case atStart => exact ⟨0, Nat.zero_le _, rfl, fun q hq => by simp at hq, Below.refl _ _⟩
  case round =>
    obtain ⟨k, hkn, rfl, hS, hb⟩ := hrel; have HQ := hid hS; clear hS; by_cases hlk : k < n
    · have hlkI : (k : Int) < (n : Int) := qaa
      obtain ⟨p, t, hA, -, -, hg, hE⟩ := (H.out.below TextE.stays hb (nl _)).at_ hlk; subst hA; have HG := hid hg; clear hg; have c1 : wr.cell? (p.add k) = some (.string t) := qat; clear hE; obtain ⟨b, hbb⟩ : ∃ b, (t.toList == s.toList) = b := ⟨_, rfl⟩; have HB := hid (bytes_is hbb); cases b
      · have HS2 := hid (all_snoc (P := fun q : ByteArray => q ≠ s) HG.out HQ.out (of_decide_eq_false HB.out.symm))
        go_wp2; go_roundw
        case rel => exact ⟨k + 1, by omega, by go_num, HS2.out, hb⟩
        case measure => exact qms
      · have E := hid (there_yes (s := s) (by have := of_decide_eq_true HB.out.symm; rw [← this]; exact List.mem_of_getElem? HG.out))
        go_wp2; go_ret; exact ⟨retB E.out.symm, hb⟩
    · have hke : k = n := qaa
      subst hke; have E := hid (there_no (ls := ls) (s := s) (fun hx => HQ.out s (by rw [List.take_of_length_le qdj]; exact hx) rfl)); go_wp2; go_ret; exact ⟨retB E.out.symm, hb⟩
theorem getW_app : ∀ (b c : Bd) (x : ByteArray), getW (b ++ c) x = (match getW b x with | some v => some v | none => getW c x)
  | [], c, x => by simp [getW]
  | q :: b, c, x => by
    have ih := getW_app b c x; have e1 : getW (q :: (b ++ c)) x = if q.1 = x then some q.2 else getW (b ++ c) x := rfl; have e2 : getW (q :: b) x = if q.1 = x then some q.2 else getW b x := rfl; show getW (q :: (b ++ c)) x = _; rw [e1, e2]; by_cases e : q.1 = x
    · rw [if_pos e, if_pos e]
    · rw [if_neg e, if_neg e]; exact ih
theorem getW_left {b : Bd} (c : Bd) {x : ByteArray} (h : getW b x ≠ none) : getW (b ++ c) x = getW b x := by
  rw [getW_app]
  cases hg : getW b x with
  | none => exact absurd hg h
  | some v => rfl
theorem getW_right {b : Bd} (c : Bd) {x : ByteArray} (h : getW b x = none) : getW (b ++ c) x = getW c x := by rw [getW_app, h]
theorem wordT_right {b c : Bd} {t : Tm} (h : t.1 = true → getW b t.2 = none) : wordT (b ++ c) t = wordT c t := by
  unfold wordT; by_cases h1 : t.1 = true
  · rw [if_pos h1, if_pos h1, getW_right c (h h1)]
  · rw [if_neg h1, if_neg h1]
theorem matchT_pre {b : Bd} : ∀ {ts us : List Tm} {c : Bd}, (∀ x, (true, x) ∈ ts → getW b x = none) → matchT ts us (b ++ c) = (matchT ts us c).map (b ++ ·)
  | [], us, c, _ => by rw [matchT_nil, matchT_nil]; rfl
  | t :: ts, [], c, _ => by rw [matchT_nil2, matchT_nil2]; rfl
  | t :: ts, u :: us, c, h => by
    have ht : t.1 = true → getW b t.2 = none := fun h1 => h t.2 (by rw [← h1]; simp); have hts : ∀ x, (true, x) ∈ ts → getW b x = none := fun x hx => h x (List.mem_cons_of_mem _ hx); rw [matchT, matchT]; by_cases h1 : t.1 = true ∧ getW c t.2 = none
    · rw [if_pos h1, if_pos ⟨h1.1, by rw [getW_right c (ht h1.1)]; exact h1.2⟩, List.append_assoc]
      exact matchT_pre hts
    · rw [if_neg h1, if_neg (fun h2 => h1 ⟨h2.1, by rw [← getW_right c (ht h2.1)]; exact h2.2⟩), wordT_right ht]
      by_cases h2 : wordT c t = u.2
      · rw [if_pos h2, if_pos h2]; exact matchT_pre hts
      · rw [if_neg h2, if_neg h2]; rfl
theorem fits_pre {list : List At} {a : At} {b c : Bd} (h : ∀ x, (true, x) ∈ a.2 → getW b x = none) : fitsL list a (b ++ c) = (fitsL list a c).map (b ++ ·) := by
  unfold fitsL; rw [List.map_filterMap]; congr 1; funext f; unfold matchA; split
  · exact matchT_pre h
  · rfl
theorem step_flat (list : List At) (out : List Bd) (q : Pt) : stepB list out q = out.flatMap fun b => stepB list [b] q := by
  unfold stepB; by_cases h : q.1 = true
  · simp only [if_pos h]
    induction out with
    | nil => rfl
    | cons b out ih => rw [List.flatMap_cons, ← ih]; rfl
  · simp only [if_neg h]
    congr 1; funext b; simp
theorem fold_flat (list : List At) : ∀ (qs : List Pt) (out : List Bd), qs.foldl (stepB list) out = out.flatMap fun b => qs.foldl (stepB list) [b]
  | [], out => by
    induction out with
    | nil => rfl
    | cons b out ih => rw [List.flatMap_cons, ← ih]; rfl
  | q :: qs, out => by
    rw [List.foldl_cons, fold_flat list qs, step_flat list out q, List.flatMap_assoc]; congr 1; funext b; rw [List.foldl_cons, fold_flat list qs (stepB list [b] q)]
theorem step_pre {list : List At} {q : Pt} {b : Bd} (h : ∀ x, (true, x) ∈ q.2.2 → getW b x = none) (out : List Bd) : stepB list (out.map (b ++ ·)) q = (stepB list out q).map (b ++ ·) := by
  unfold stepB; by_cases h1 : q.1 = true
  · rw [if_pos h1, if_pos h1]
  · rw [if_neg h1, if_neg h1, List.flatMap_map, List.map_flatMap]
    congr 1; funext c; exact fits_pre h
theorem fold_pre {list : List At} {b : Bd} : ∀ {qs : List Pt} {out : List Bd}, (∀ q ∈ qs, ∀ x, (true, x) ∈ q.2.2 → getW b x = none) → qs.foldl (stepB list) (out.map (b ++ ·)) = (qs.foldl (stepB list) out).map (b ++ ·)
  | [], out, _ => rfl
  | q :: qs, out, h => by
    rw [List.foldl_cons, List.foldl_cons, step_pre (h q qad), fold_pre fun r hr => h r qch]
theorem fold_new {list : List At} (hl : WordsAll list) : ∀ {qs : List Pt} {out : List Bd} {b : Bd} {x : ByteArray}, b ∈ qs.foldl (stepB list) out → getW b x ≠ none → (∃ c ∈ out, getW c x ≠ none) ∨ ∃ q ∈ qs, (true, x) ∈ q.2.2
  | [], out, b, x, hb, hx => .inl ⟨b, hb, hx⟩
  | q :: qs, out, b, x, hb, hx => by
    rw [List.foldl_cons] at hb; rcases fold_new hl hb hx with ⟨c, hc, hcx⟩ | ⟨r, hr, h⟩
    · unfold stepB at hc
      split at hc
      · exact .inl ⟨c, hc, hcx⟩
      · obtain ⟨d, hd, hc⟩ := List.mem_flatMap.1 hc
        unfold fitsL at hc; obtain ⟨f, hf, he⟩ := List.mem_filterMap.1 hc; obtain ⟨_, M⟩ := matchA_some (hl f hf) he; by_cases h0 : getW d x = none
        · exact .inr ⟨q, by simp, M.new x h0 hcx⟩
        · exact .inl ⟨d, hd, h0⟩
    · exact .inr ⟨r, by simp [hr], h⟩
theorem fill_left {a : At} {b : Bd} (c : Bd) (h : ∀ x, (true, x) ∈ a.2 → getW b x ≠ none) : fillA a (b ++ c) = fillA a b := by
  unfold fillA; refine Prod.ext rfl (List.map_congr_left fun t ht => ?_); unfold fillT wordT; by_cases h1 : t.1 = true
  · rw [if_pos h1, if_pos h1, getW_left c (h t.2 (by rw [← h1]; exact ht))]
  · rw [if_neg h1, if_neg h1]
theorem fill_right {a : At} {b : Bd} (c : Bd) (h : ∀ x, (true, x) ∈ a.2 → getW b x = none) : fillA a (b ++ c) = fillA a c := by
  unfold fillA; refine Prod.ext rfl (List.map_congr_left fun t ht => ?_); unfold fillT; rw [wordT_right fun h1 => h t.2 (by rw [← h1]; exact ht)]
theorem pairs_len {α β : Type} (f : α → β → α) (P : α → Bool) (p : α → Bool) (q : β → Bool) (ys : List β) : ∀ (xs : List α), (∀ x ∈ xs, ∀ y ∈ ys, P (f x y) = (p x && q y)) → ((xs.flatMap fun x => ys.map (f x)).filter P).length = (xs.filter p).length * (ys.filter q).length
  | [], _ => by simp
  | x :: xs, h => by
    rw [List.flatMap_cons, List.filter_append, List.length_append, pairs_len f P p q ys xs fun z hz => h z (by simp [hz])]
    have key : ∀ zs : List β, (∀ y ∈ zs, P (f x y) = (p x && q y)) → ((zs.map (f x)).filter P).length = if p x = true then (zs.filter q).length else 0 := by
      intro zs
      induction zs with
      | nil => intro _; simp
      | cons y zs ih =>
        intro hz; have hy := hz y qad; have ih' := ih fun z hz' => hz z (by simp [hz']); rw [List.map_cons, List.filter_cons, hy]; cases hp : p x
        · rw [hp] at ih'
          simpa using ih'
        · rw [hp] at ih'
          simp only [Bool.true_and, if_true] at ih' ⊢; rw [List.filter_cons]; cases q y
          · simpa using ih'
          · simp [ih']
    rw [key ys fun y hy => h x qad y hy, List.filter_cons]; cases p x
    · simp
    · simp only [if_true, List.length_cons]
      rw [Nat.add_mul, Nat.one_mul, Nat.add_comm]
theorem both_rows {list : List At} {a b : List Pt} (ha : askB a = true) (hb : askB b = true) (hl : a.length + b.length ≤ 4) (hd : ∀ x, (∃ q ∈ a, (true, x) ∈ q.2.2) → ¬ ∃ q ∈ b, (true, x) ∈ q.2.2) : (askRowsB list (a ++ b)).length = (askRowsB list a).length * (askRowsB list b).length := by
  obtain ⟨⟨a1, a2⟩, a3, a4⟩ := ask_iff.1 ha; obtain ⟨⟨b1, b2⟩, b3, b4⟩ := ask_iff.1 hb
  have hab : askB (a ++ b) = true := ask_iff.2 ⟨by rw [List.length_append]; omega, fun q hq => by
    rcases List.mem_append.1 hq with h | h
    · exact a3 q h
    · exact b3 q h, fun x hx => by
    obtain ⟨q, hq, h⟩ := hx; rcases List.mem_append.1 hq with h' | h'
    · obtain ⟨p, hp, h1⟩ := a4 x ⟨q, h', h⟩
      exact ⟨p, List.mem_append_left _ hp, h1⟩
    · obtain ⟨p, hp, h1⟩ := b4 x ⟨q, h', h⟩
      exact ⟨p, List.mem_append_right _ hp, h1⟩⟩
  by_cases hf : factsB 300 list = true
  · obtain ⟨_, hw, _, _⟩ := facts_ok hf
    have len : ∀ c, askB c = true → (askRowsB list c).length = (rowsB list c).length := fun c hc => by
      rw [askRows_eq hf hc]; unfold sortR; rw [(List.mergeSort_perm _ _).length_eq, List.length_map]
    rw [len _ hab, len _ ha, len _ hb]
    have hall : allB list (a ++ b) = (allB list a).flatMap fun β => (allB list b).map (β ++ ·) := by
      unfold allB; rw [List.foldl_append, fold_flat list b, List.flatMap_def, List.flatMap_def]; refine congrArg List.flatten (List.map_congr_left fun β hβ => ?_)
      have hn : ∀ q ∈ b, ∀ x, (true, x) ∈ q.2.2 → getW β x = none := fun q hq x hx => Classical.byContradiction fun hne => by
        rcases fold_new hw hβ hne with ⟨c, hc, h⟩ | h
        · rw [List.mem_singleton.1 hc] at h; exact h (by simp [getW])
        · exact hd x h ⟨q, hq, hx⟩
      have := fold_pre (list := list) (b := β) (qs := b) (out := [[]]) hn; simpa using this
    unfold rowsB; rw [hall]; refine pairs_len (fun β γ => β ++ γ) (okB list (a ++ b)) (okB list a) (okB list b) (allB list b) (allB list a) fun β hβ γ hγ => ?_
    have hbd : ∀ q ∈ a, ∀ x, (true, x) ∈ q.2.2 → getW β x ≠ none := fun q hq x hx => by
      obtain ⟨p, hp, h1, h2⟩ := a4 x ⟨q, hq, hx⟩; unfold allB at hβ; rw [fold_musts] at hβ; have hm : ∀ r ∈ musts a, r.1 = false := fun r hr => by have := (List.mem_filter.1 hr).2; simpa using this
      obtain ⟨_, _, _, h⟩ := fold_bound hw hm hβ; exact h p (List.mem_filter.2 ⟨hp, by rw [h1]; rfl⟩) x h2
    have hn : ∀ q ∈ b, ∀ x, (true, x) ∈ q.2.2 → getW β x = none := fun q hq x hx => Classical.byContradiction fun hne => by
      rcases fold_new hw hβ hne with ⟨c, hc, h⟩ | h
      · rw [List.mem_singleton.1 hc] at h; exact h (by simp [getW])
      · exact hd x h ⟨q, hq, hx⟩
    unfold okB; rw [List.all_append]; congr 1
    · rw [Bool.eq_iff_iff, List.all_eq_true, List.all_eq_true]
      refine forall_congr' fun q => forall_congr' fun hq => ?_; rw [fill_left γ (hbd q hq)]
    · rw [Bool.eq_iff_iff, List.all_eq_true, List.all_eq_true]
      refine forall_congr' fun q => forall_congr' fun hq => ?_; rw [fill_right γ (hn q hq)]
  · rw [askRows_no (fun h => hf h.1), askRows_no (fun h => hf h.1)]; simp
theorem askBothLaw_any (A : Option Addr) (n c : Nat) (B0 : Option Addr) (n0 c0 : Nat) (w : World) (h : IsBytes w w.heap.size A n c) (h' : IsBytes w w.heap.size B0 n0 c0) :
    Calls Tryz.prog 8 #[.slice A n c, .slice B0 n0 c0] w (BoolPost true w) := by
  have hn : n ≤ maxLen := qcs; have hn0 : n0 ≤ maxLen := by have := h'.1; have := h'.2.1; omega
  unfold maxLen at hn hn0; have H := hid h; have H' := hid h'; clear h h'; go_enter Tryz.func8, Tryz.ntmps8; go_wp2_with fail
  all_goals try (go_ret; exact ⟨rfl, Below.refl _ _⟩)
  refine (drawAskL_any A n c w H.out).mono ?_; rintro e w1 ⟨L, k, d, xs, B, m, f, ps, ⟨rfl, hm5⟩, hI, hP, hb1⟩; have HI1 := hid hI; have HP1 := hid hP; have HW1 := hid hb1; have HB1 := hid (H'.out.up hb1); clear hI hP hb1 H H'; go_wp2_with fail; refine (drawAskL_any B0 n0 c0 w1 HB1.out).mono ?_; rintro e w2 ⟨L9, k9, d9, xs9, D, m2, f2, qs, ⟨rfl, hm52⟩, _, hQ, hb2⟩; have HI2 := hid (HI1.out.up AtomE.stays hb2); have HP2 := hid (HP1.out.up PartE.stays hb2); have HW2 := hid (belowThen HW1.out hb2); have HQ2 := hid hQ; clear hb2 hQ HI1 HP1 HW1 HB1; obtain ⟨Ls, hLs⟩ : ∃ Ls, askRowsB xs ps = Ls := ⟨_, rfl⟩
  obtain ⟨N, hN⟩ : ∃ N, Ls.length = N := ⟨_, rfl⟩; have HLS := hid hLs; have HN := hid hN; clear hLs hN; go_wp2_with fail; refine (implAsk_rows L k d xs B m f ps w2 HI2.out HP2.out).mono ?_; rintro e w3 ⟨A3, c3, rfl, M3, hb3⟩; rw [HLS.out, HN.out] at M3 ⊢; have HI3 := hid (HI2.out.up AtomE.stays hb3); have HP3 := hid (HP2.out.up PartE.stays hb3); have HQ3 := hid (HQ2.out.up PartE.stays hb3); have HW3 := hid (belowThen HW2.out hb3); have HM3 := hid M3; clear hb3 M3 HI2 HP2 HQ2 HW2
  have again : ∀ W, Below w3.heap.size w3 W → Calls Tryz.prog 11 #[.slice L k d, .slice B m f] W (fun e w' => ∃ p4 c4, e = .returned (.slice (some p4) N c4) ∧ Below w3.heap.size w3 w' ∧ Calls Tryz.prog 24 #[.slice A3 N c3, .slice (some p4) N c4] w' fun e2 w2 => e2 = .returned (.bool true) ∧ Below w3.heap.size w3 w2 ∧ Below w.heap.size w w2) := by
    intro W hW; refine (specAsk_any L k d xs B m f ps W (HI3.out.up AtomE.stays hW) (HP3.out.up PartE.stays hW)).mono ?_; rintro e w6 ⟨p4, c4, rfl, M4, hb6⟩; rw [HLS.out, HN.out] at M4 ⊢; refine ⟨p4, c4, rfl, belowThen hW hb6, ?_⟩; refine (fsRows_same _ _ _ _ _ _ Ls w6 (HM3.out.up RowE.stays (belowThen hW hb6)) M4).mono ?_; rintro e w7 ⟨rfl, hb7⟩; exact ⟨rfl, belowThen (belowThen hW hb6) hb7, belowThen HW3.out (belowThen (belowThen hW hb6) hb7)⟩
  have AGAIN := hid again; clear again; go_wp2_with fail; refine (AGAIN.out w3 (Below.refl _ _)).mono ?_; rintro e w4 ⟨p4, c4, rfl, hb4, hcall⟩; have HC := hid hcall; clear hcall; go_wp2_with fail; refine HC.out.mono ?_; rintro e w5 ⟨rfl, hb5, _⟩; have HB5 := hid hb5; clear hb4 hb5 HC; obtain ⟨q1, hq1⟩ : ∃ q, askB ps = q := ⟨_, rfl⟩; obtain ⟨q2, hq2⟩ : ∃ q, askB qs = q := ⟨_, rfl⟩; have HQ1 := hid hq1; have HQ2 := hid hq2; clear hq1 hq2; go_wp2_with fail; refine (specAskOk_any B m f ps w5 (HP3.out.up PartE.stays HB5.out)).mono ?_; rintro e w6 ⟨rfl, hb6⟩; rw [HQ1.out]; have HB6 := hid (belowThen HB5.out hb6)
  clear hb6 HB5; cases q1
  · go_wp2_with fail
    refine (AGAIN.out w6 HB6.out).mono ?_; rintro e w7 ⟨p7, c7, rfl, hb7, hcall⟩; have HC := hid hcall; clear hcall; go_wp2_with fail; refine HC.out.mono ?_; rintro e w8 ⟨rfl, _, hb8⟩; go_wp2; go_ret; exact ⟨rfl, hb8⟩
  · go_wp2_with fail
    refine (specAskOk_any D m2 f2 qs w6 (HQ3.out.up PartE.stays HB6.out)).mono ?_; rintro e w7 ⟨rfl, hb7⟩; rw [HQ2.out]; have HB7 := hid (belowThen HB6.out hb7); clear hb7 HB6; cases q2
    · go_wp2_with fail
      refine (AGAIN.out w7 HB7.out).mono ?_; rintro e w8 ⟨p8, c8, rfl, hb8, hcall⟩; have HC := hid hcall; clear hcall; go_wp2_with fail; refine HC.out.mono ?_; rintro e w9 ⟨rfl, _, hb9⟩; go_wp2; go_ret; exact ⟨rfl, hb9⟩
    · by_cases h4 : 4 < m + m2
      · have h4I : (m : Int) + (m2 : Int) > 4 := qaa
        go_wp2_with fail; refine (AGAIN.out w7 HB7.out).mono ?_; rintro e w8 ⟨p8, c8, rfl, hb8, hcall⟩; have HC := hid hcall; clear hcall; go_wp2_with fail; refine HC.out.mono ?_; rintro e w9 ⟨rfl, _, hb9⟩; go_wp2; go_ret; exact ⟨rfl, hb9⟩
      · have h4I : ¬ (m : Int) + (m2 : Int) > 4 := qaa
        clear AGAIN; have HI7 := hid (HI3.out.up AtomE.stays HB7.out); have HP7 := hid (HP3.out.up PartE.stays HB7.out); have HQ7 := hid (HQ3.out.up PartE.stays HB7.out); have HW7 := hid (belowThen HW3.out HB7.out); clear HI3 HP3 HQ3 HW3 HM3 HB7; go_wp2_with fail; refine (implAskVars_any B m f ps w7 HP7.out).mono ?_; rintro e w8 ⟨vv, rfl, hvv, hb8⟩; obtain ⟨V1, vc1, rfl, hV1⟩ := texts_any hvv; obtain ⟨vs1, hvs1⟩ : ∃ vs, askVarsB ps = vs := ⟨_, rfl⟩; rw [hvs1] at hV1 ⊢; obtain ⟨nv1, hnv1⟩ : ∃ nv, vs1.length = nv := ⟨_, rfl⟩; rw [hnv1] at hV1 ⊢; have HVS1 := hid hvs1; have HV8 := hid hV1; have HI8 := hid (HI7.out.up AtomE.stays hb8); have HP8 := hid (HP7.out.up PartE.stays hb8); have HQ8 := hid (HQ7.out.up PartE.stays hb8); have HW8 := hid (belowThen HW7.out hb8)
        clear HI7 HP7 HQ7 HW7 hb8 hvv hV1 hvs1 hnv1; go_wp2_with fail; refine (implAskVars_any D m2 f2 qs w8 HQ8.out).mono ?_; rintro e w9 ⟨vv, rfl, hvv, hb9⟩; obtain ⟨V2, vc2, rfl, hV2⟩ := texts_any hvv; obtain ⟨vs2, hvs2⟩ : ∃ vs, askVarsB qs = vs := ⟨_, rfl⟩; rw [hvs2] at hV2 ⊢; obtain ⟨nv2, hnv2⟩ : ∃ nv, vs2.length = nv := ⟨_, rfl⟩; rw [hnv2] at hV2 ⊢; have hmx2 := hV2.len; unfold maxLen at hmx2; have HVS2 := hid hvs2; have HV9' := hid hV2; have HNV2 := hid hnv2; have HI9 := hid (HI8.out.up AtomE.stays hb9); have HP9 := hid (HP8.out.up PartE.stays hb9); have HQ9 := hid (HQ8.out.up PartE.stays hb9); have HW9 := hid (belowThen HW8.out hb9); have HV9 := hid (HV8.out.up TextE.stays hb9)
        clear HI8 HP8 HQ8 HW8 HV8 hb9 hvv hV2 hvs2 hnv2; go_wp2; go_loopw [12] (fun i wr => ∃ j : Nat, j ≤ nv2 ∧ i = .int .i64 (j : Int) ∧ (∀ x ∈ vs2.take j, x ∉ vs1) ∧ Below w9.heap.size w9 wr) (fun i _ => nv2 - (intOf i).toNat)
        case atStart => exact ⟨0, Nat.zero_le _, rfl, fun t ht => by simp at ht, Below.refl _ _⟩
        case round =>
          obtain ⟨j, hj, rfl, hq, hb⟩ := hrel; have HQJ := hid hq; have HB := hid hb; clear hq hb; by_cases hlt : j < nv2
          · have hltI : (j : Int) < (nv2 : Int) := qaa
            obtain ⟨p, t, hA, -, -, hg, hE⟩ := (HV9'.out.up TextE.stays HB.out).at_ hlt; subst hA; have HGG := hid hg; clear hg; have y0 : wr.cell? (p.add j) = some (.string t) := qat; obtain ⟨tb, htb⟩ : ∃ tb, thereB vs1 t = tb := ⟨_, rfl⟩; have HTB := hid htb; clear hE htb; go_wp2_with fail; refine (fsText_any V1 nv1 vc1 vs1 t wr (HV9.out.up TextE.stays HB.out)).mono ?_; rintro e w10 ⟨rfl, hb10⟩; rw [HTB.out]; have HB10 := hid (belowThen HB.out hb10); clear hb10 y0; cases tb
            · go_wp2
              go_roundw
              case rel => exact ⟨j + 1, by omega, by go_num, all_snoc (P := fun x => x ∉ vs1) HGG.out HQJ.out (fun hx => by have := there_yes hx; rw [HTB.out] at this; cases this), HB10.out⟩
              case measure => exact qms
            · go_wp2
              go_ret; exact ⟨rfl, belowThen HW9.out HB10.out⟩
          · have hnltI : ¬ (j : Int) < (nv2 : Int) := qaa
            have hap : ∀ x ∈ askVarsB qs, x ∉ askVarsB ps := by
              have h := HQJ.out; rw [List.take_of_length_le (by rw [HNV2.out]; omega)] at h; rw [HVS1.out, HVS2.out]; exact h
            have hm := HP9.out.1; have hm2 := HQ9.out.1; have hboth := both_rows (list := xs) HQ1.out HQ2.out qaa fun x hx hy => hap x ((mem_askVars HQ2.out).2 hy) ((mem_askVars HQ1.out).2 hx); have hfew := ask_rows_few xs (ps ++ qs); have hm1 : 0 < m := by rw [← hm]; exact (ask_iff.1 HQ1.out).1.1
            have hm21 : 0 < m2 := by rw [← hm2]; exact (ask_iff.1 HQ2.out).1.1
            rw [HLS.out, HN.out] at hboth; obtain ⟨N2, hN2⟩ : ∃ N2, (askRowsB xs qs).length = N2 := ⟨_, rfl⟩; obtain ⟨N3, hN3⟩ : ∃ N3, (askRowsB xs (ps ++ qs)).length = N3 := ⟨_, rfl⟩; rw [hN2, hN3] at hboth; rw [hN3] at hfew; have hmul : (N : Int) * (N2 : Int) = (N3 : Int) := by rw [hboth]; exact (Int.natCast_mul N N2).symm
            have HMUL := hid hmul; have HN2 := hid hN2; have HN3 := hid hN3; have HIr := hid (HI9.out.up AtomE.stays HB.out); have HPr := hid (HP9.out.up PartE.stays HB.out); have HQr := hid (HQ9.out.up PartE.stays HB.out); have HWr := hid (belowThen HW9.out HB.out); clear HI9 HP9 HQ9 HW9 HV9 HV9' HQJ hap hboth hmul hN2 hN3 hm hm2; obtain ⟨prs, hpt, hpl, hps, hpc⟩ := prs_of HPr.out; obtain ⟨pqs, hqt, hql, hqs, hqc⟩ := prs_of HQr.out; obtain ⟨pB, hBp, _, _, _⟩ := HPr.out.2.2.2 hm1; obtain ⟨pD, hDp, _, _, _⟩ := HQr.out.2.2.2 hm21; subst hBp hDp; obtain ⟨_, hpc⟩ := hpc pB rfl hm1; obtain ⟨_, hqc⟩ := hqc pD rfl hm21
            have hr0 := PRow.new wr wr (Below.refl _ _); have hb0 := below1 wr (.cells #[] 52); obtain ⟨v1, W1, hr1, hR1, _⟩ := hr0.more (ps := prs) (ad := pB) (m := m) (c := f) (Below.refl _ _) hpl (fun j u hu => Holds.below hb0 _ _ (hpc j u hu)) qaf; have hbW1 := hR1.gr; rw [List.nil_append] at hR1; obtain ⟨v2, W2, hr2, hR2, _⟩ := hR1.more (ps := pqs) (ad := pD) (m := m2) (c := f2) (Below.refl _ _) hql (fun j u hu => Holds.below hbW1 _ _ (hqc j u hu)) qaa
            obtain ⟨C, cc, rfl, hC⟩ := hR2.parts fun q hq => by
              rcases List.mem_append.1 hq with h | h
              · exact hps q h
              · exact hqs q h
            rw [List.map_append, hpt, hqt] at hC; obtain ⟨l3, hl3⟩ : ∃ l3, (prs ++ pqs).length = l3 := ⟨_, rfl⟩; rw [hl3] at hC hr2; have HR1 := hid hr1; have HR2 := hid hr2; have HC := hid hC; have HI2 := hid (HIr.out.up AtomE.stays hR2.gr); have HQ2' := hid (HQr.out.up PartE.stays hR2.gr); have HW2 := hid (belowThen HWr.out hR2.gr); clear hpt hpl hps hpc hqt hql hqs hqc hr0 hb0 hr1 hR1 hbW1 hr2 hR2 hC hl3 HIr HPr HQr HWr; go_wp2_with (first | (at_builtin; refine wpList_append_at rfl rfl rfl rfl rfl HR1.out ?_) | (at_builtin; refine wpList_append_at rfl rfl rfl rfl rfl HR2.out ?_)); refine (implAsk_rows L k d xs C l3 cc (ps ++ qs) W2 HI2.out HC.out).mono ?_; rintro e w11 ⟨A11, c11, rfl, _, hb11⟩
            rw [HN3.out]; have HI11 := hid (HI2.out.up AtomE.stays hb11); have HQ11 := hid (HQ2'.out.up PartE.stays hb11); have HW11 := hid (belowThen HW2.out hb11); clear hb11 HI2 HQ2' HW2 HC HR1 HR2; go_wp2_with fail; refine (implAsk_rows L k d xs (some pD) m2 f2 qs w11 HI11.out HQ11.out).mono ?_; rintro e w12 ⟨A12, c12, rfl, _, hb12⟩; rw [HN2.out]; have HW12 := hid (belowThen HW11.out hb12); clear hb12 HI11 HQ11 HW11; have hmul := HMUL.out; have hwrap : IntKind.i64.wrap ((N : Int) * (N2 : Int)) = (N3 : Int) := by rw [hmul, IntKind.wrap_i64]; omega
            go_wp2; go_ret; exact ⟨rfl, HW12.out⟩
end Go.Proofs.YtcigljngiemdeaaGreat
