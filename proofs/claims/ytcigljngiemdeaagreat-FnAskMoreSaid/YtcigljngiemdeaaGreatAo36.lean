/-
  Texts of one claim, put together.
-/
import Derived.Test.YtcigljngiemdeaaGreatAo0
import Derived.Test.YtcigljngiemdeaaGreatAo35
import Derived.Test.YtcigljngiemdeaaGreatAo4
import Derived.Test.YtcigljngiemdeaaGreatAo10
import Derived.Test.YtcigljngiemdeaaGreatAo34
set_option maxRecDepth 100000
set_option maxHeartbeats 8000000
namespace Go.Proofs.YtcigljngiemdeaaGreat
open Go.RowKit
theorem rows_few {list : List At} {body : List Pt} (hf : factsB 300 list = true) (hq : askB body = true) : (rowsB list body).length ≤ 1000000000000 := by
  obtain ⟨_, hwa, hnd, hl300⟩ := facts_ok hf; obtain ⟨hq4, _, _, hwf⟩ := ask_facts hq
  have := tell_few (list := list) hl300 (ps := musts body ++ notsOf body) (b := []) (by
    rw [List.length_append]; have h5 := halves_len body; omega)
  rwa [tell_rows hwa hnd hwf] at this
theorem ask_same {list : List At} {body : List Pt} (hf : factsB 300 list = true) (hq : askB body = true) : putAllR ((rowsB list body).map (rowT (partsT [] body))) = askRowsB list body := by
  obtain ⟨_, hwa, hnd, _⟩ := facts_ok hf; obtain ⟨e, _, hvs⟩ := ask_vars hq; unfold askRowsB; rw [hf, hq, e]; rw [e] at hvs; refine putAll_sort (m := (partsT [] body).length) (rows_nodup hwa hnd hvs) fun y hy => ?_; obtain ⟨b, _, rfl⟩ := List.mem_map.1 hy; unfold rowT; rw [List.length_map]
theorem specAsk_any (A : Option Addr) (n c : Nat) (list : List At) (B : Option Addr) (m d : Nat) (body : List Pt) (w : World) (hA : IsAtoms w 0 w.heap.size A n c list) (hB : IsParts w 0 w.heap.size B m d body) :
    Calls Tryz.prog 11 #[.slice A n c, .slice B m d] w (RowsPost (askRowsB list body) w) := by
  have HA := hid hA; have HB := hid hB; have HN := hid hA.1; have HM := hid hB.1; clear hA hB
  have key : ∀ W : World, Below w.heap.size w W → RowsPost [] w (.returned (.slice (some ⟨W.heap.size, 0, none⟩) 0 0)) (W.alloc (.cells #[] 42)) := fun W hW =>
    ⟨_, 0, rfl, ⟨rfl, nl _, by unfold maxLen; omega, fun h => absurd h (Nat.lt_irrefl _)⟩, belowThen hW (below1 _ _)⟩
  have KEY := hid key; clear key
  cases hf : factsB 300 list with
  | false =>
    have he : askRowsB list body = [] := by unfold askRowsB; rw [hf]; rfl
    have HE := hid he; have HF := hid hf; clear he hf; go_enter Tryz.func11, Tryz.ntmps11; go_wp2_with (first | (go_at_call 33; refine (specFactsOk_any A n c list _ HA.out).mono ?_; rintro e w1 ⟨rfl, hb1⟩; rw [HF.out])); refine bodyPost_ret (v := .slice (some ⟨w1.heap.size, 0, none⟩) 0 0) qcd rfl ?_
    rw [HE.out]; exact KEY.out w1 hb1
  | true =>
    cases hq : askB body with
    | false =>
      have he : askRowsB list body = [] := by unfold askRowsB; rw [hf, hq]; rfl
      have HE := hid he; have HF := hid hf; have HQ := hid hq; clear he hf hq; go_enter Tryz.func11, Tryz.ntmps11; go_wp2_with (first | (go_at_call 33; refine (specFactsOk_any A n c list _ HA.out).mono ?_; rintro e w1 ⟨rfl, hb1⟩; rw [HF.out]) | (go_at_call 27; refine (specAskOk_any B m d body _ ((HB.out.up PartE.stays hb1))).mono ?_; rintro e w2 ⟨rfl, hb2⟩; rw [HQ.out])); refine bodyPost_ret (v := .slice (some ⟨w2.heap.size, 0, none⟩) 0 0) qcd rfl ?_
      rw [HE.out]; exact KEY.out w2 (belowThen hb1 hb2)
    | true =>
      have hs := ask_same hf hq; have hrf := rows_few hf hq; have hv := ask_vars hq; have h12 : (partsT [] body).length ≤ 12 := by rw [← hv.1]; exact hv.2.1
      have hri : risesB list = true := by unfold factsB at hf; simp only [Bool.and_eq_true] at hf; exact hf.1.2
      obtain ⟨hq4, hq3, _, _⟩ := ask_facts hq; obtain ⟨_, _, _, hl300⟩ := facts_ok hf; have HS := hid hs; have HRF := hid hrf; have H12 := hid h12; have HRI := hid hri; have HQ3 := hid hq3; have HF := hid hf; have HQ := hid hq; have hn := HN.out; have hm := HM.out; have hn3 : n ≤ 300 := qaa; have hm4 : m ≤ 4 := qaa; clear hs hrf hv h12 hri hq3 hf hq hn hm; go_enter Tryz.func11, Tryz.ntmps11; go_wp2_with (first | (go_at_call 33; refine (specFactsOk_any A n c list _ HA.out).mono ?_; rintro e w1 ⟨rfl, hb1⟩; rw [HF.out]) | (go_at_call 27; refine (specAskOk_any B m d body _ ((HB.out.up PartE.stays hb1))).mono ?_; rintro e w2 ⟨rfl, hb2⟩; rw [HQ.out]))
      have hbw := belowThen hb1 hb2; refine (l5Ask_any A n c list B m d body _ (HA.out.up AtomE.stays hbw) (HB.out.up PartE.stays hbw) HRI.out HQ3.out hm4 hn3 H12.out HRF.out).mono ?_; rintro e w3 ⟨p, c', rfl, hr, hb3⟩; rw [HS.out] at hr ⊢; obtain ⟨R, hR⟩ : ∃ R, askRowsB list body = R := ⟨_, rfl⟩; rw [hR] at hr ⊢; have HR := hid hr; have HRE := hid hR; clear hr hR; go_wp2; refine bodyPost_ret (v := .slice (some p) R.length c') qcd rfl ?_; rw [HRE.out]; exact ⟨p, c', rfl, HR.out, belowThen hbw hb3⟩
def OwnTx (w : World) (lo hi : Nat) (A : Option Addr) (n c : Nat) (ls : List ByteArray) : Prop :=
  ls.length = n ∧ n ≤ c ∧ c ≤ maxLen ∧ (∀ s ∈ ls, s.size ≤ maxLen) ∧ (0 < n → ∃ g k f, A = some ⟨g, 0, none⟩ ∧ lo ≤ g ∧ g < hi ∧ w.rowIs g 9 k f ∧ n ≤ k ∧ ∀ i s, ls[i]? = some s → f i = .string s)
section
variable {w w' : World} {lo hi lo' hi' n c : Nat} {A : Option Addr} {ls : List ByteArray}
theorem OwnTx.texts (h : OwnTx w lo hi A n c ls) : IsTexts w lo hi A n c ls := by
  obtain ⟨a, b, d, _, e⟩ := h; refine ⟨a, b, d, fun hn => ?_⟩; obtain ⟨g, k, f, e1, e2, e3, e4, e5, e6⟩ := e hn; refine ⟨_, e1, e2, e3, fun i s hs => ?_⟩; have hi := (List.getElem?_eq_some_iff.1 hs).1; have a0 : ∀ j, (⟨g, 0, none⟩ : Addr).add j = ⟨g, j, none⟩ := fun j => by unfold Addr.add; split <;> simp_all
  show w.cell? _ = _; rw [a0, Nat.mul_one, e4.cell qaa, e6 _ _ hs]
theorem OwnTx.of_row {base : Nat} {v : Value} (h : w.ownsRow base 9 1 v n (tcl ls)) (hn : n = ls.length) (hs : ∀ s ∈ ls, s.size ≤ maxLen) (hb : lo ≤ base) : ∃ A c, v = .slice A n c ∧ OwnTx w lo w.heap.size A n c ls := by
  subst hn; rcases h.2 with ⟨rfl, h0⟩ | ⟨g, cap, cur, rfl, hbg, hgb, hle, hcap, hsz, htk⟩
  · exact ⟨none, 0, by rw [h0], rfl, by omega, by unfold maxLen; omega, hs, fun hp => absurd hp qaa⟩
  · have hlt := (Array.getElem?_eq_some_iff.1 hgb).1
    refine ⟨_, cap, rfl, rfl, hle, hcap, hs, fun _ => ⟨g, cap * 1, fun i => cur[i]?.getD undef, rfl, by omega, hlt, ⟨cur, hgb, hsz, fun i hi => by simp [hsz ▸ hi]⟩, by omega, fun j s hj => ?_⟩⟩; have hu : (tcl ls)[j]? = some (.string s) := by unfold tcl; rw [List.getElem?_map, hj]; rfl
    have hjl := (List.getElem?_eq_some_iff.1 hj).1; rw [← htk, List.getElem?_take, if_pos qaa] at hu; have : cur[j]? = some (.string s) := by simpa using hu
    simp [this]
end
structure OwnRs (w : World) (lo : Nat) (A : Option Addr) (n c m : Nat) (rs : List Value) (T : Nat → List ByteArray → Prop) : Prop where
  len : rs.length = n
  cap : n ≤ c
  max : c ≤ maxLen
  row : 0 < n → ∃ p, A = some p ∧ lo ≤ p.block ∧ p.block < w.heap.size ∧ (∀ (j : Nat) (u : Value), rs[j]? = some u → w.cell? (p.add j) = some u) ∧ ∀ r ∈ rs, r.ownBlock ≠ some p.block
  own : ∀ (j : Nat) (r : Value), rs[j]? = some r → ∃ B d L, r = .slice B m d ∧ OwnTx w lo w.heap.size B m d L ∧ T j L
  apart : rs.Pairwise ApartV
theorem ownRs_of {W : World} {base lo m : Nat} {v : Value} {rs : List Value} {Ls : List (List ByteArray)} (h : W.ownsRow base 42 1 v Ls.length rs) (hr : RowsOwn W base rs Ls) (hlo : lo ≤ base) (hm : ∀ L ∈ Ls, L.length = m) (hs : ∀ L ∈ Ls, ∀ s ∈ L, s.size ≤ maxLen) :
    ∃ A c, v = .slice A Ls.length c ∧ OwnRs W lo A Ls.length c m rs fun j L => Ls[j]? = some L := by
  have hrow : ∀ (j : Nat) (r : Value), rs[j]? = some r → ∃ L, Ls[j]? = some L ∧ L.length = m ∧ W.ownsRow base 9 1 r L.length (tcl L) ∧ ∀ s ∈ L, s.size ≤ maxLen := fun j r hj => by
    obtain ⟨L, hL⟩ : ∃ L, Ls[j]? = some L := ⟨_, List.getElem?_eq_getElem (by rw [← hr.len]; exact (List.getElem?_eq_some_iff.1 hj).1)⟩; exact ⟨L, hL, hm L (List.mem_of_getElem? hL), hr.row j r L hj hL, hs L (List.mem_of_getElem? hL)⟩
  obtain ⟨A, c, e, h1, h2⟩ := ownsRow_form h; subst e; refine ⟨A, c, rfl, hr.len, h1, h2, fun hn => ?_, fun j r hj => ?_, hr.apart⟩
  · rcases h.2 with ⟨_, e⟩ | ⟨g, cap, cur, e, hbg, hgb, hle, hcap, hsz, htk⟩
    · omega
    · injection e with e1 _ e3
      subst e1 e3; refine ⟨_, rfl, Nat.le_trans hlo hbg, (Array.getElem?_eq_some_iff.1 hgb).1, fun j u hu => ?_, fun r hr' eb => ?_⟩
      · have a0 : (⟨g, 0, none⟩ : Addr).add j = ⟨g, j, none⟩ := by unfold Addr.add; split <;> simp_all
        have hj := (List.getElem?_eq_some_iff.1 hu).1; have hl := hr.len; rw [a0]; rw [← htk, List.getElem?_take, if_pos qaa] at hu; simp [World.cell?, hgb]; simpa using hu
      · obtain ⟨j, hj⟩ := List.getElem?_of_mem hr'
        obtain ⟨L, _, _, ho, _⟩ := hrow j r hj; have eb' : r.ownBlock = some g := eb; rcases ho.2 with ⟨rfl, _⟩ | ⟨g', _, _, rfl, _, hb', _⟩
        · simp [Value.ownBlock] at eb'
        · have : g' = g := by simpa [Value.ownBlock] using eb'
          subst this; rw [hgb] at hb'; injection hb' with hb'; injection hb' with _ e2; exact absurd e2 qal
  · obtain ⟨L, hL, hLm, ho, hsz⟩ := hrow j r hj
    subst hLm; obtain ⟨B, d, e, ot⟩ := OwnTx.of_row ho rfl hsz hlo; exact ⟨B, d, L, e, ot, hL⟩
theorem OwnRs.reads {w : World} {lo n c m : Nat} {A : Option Addr} {rs : List Value} {T : Nat → List ByteArray → Prop} {Ms : List (List ByteArray)} (h : OwnRs w lo A n c m rs T) (hl : Ms.length = n) (hT : ∀ (j : Nat) (L : List ByteArray), j < n → T j L → Ms[j]? = some L) : IsRows w 0 w.heap.size A n c Ms := by
  refine ⟨hl, h.cap, h.max, fun hn => ?_⟩; obtain ⟨p, e1, _, e3, e4, _⟩ := h.row hn; refine ⟨p, e1, Nat.zero_le _, e3, fun j L hL => ?_⟩; have hj : j < n := by rw [← hl]; exact (List.getElem?_eq_some_iff.1 hL).1
  obtain ⟨r, hr⟩ : ∃ r, rs[j]? = some r := ⟨_, List.getElem?_eq_getElem (by rw [h.len]; exact hj)⟩; obtain ⟨B, d, L', e, ot, hT'⟩ := h.own j r hr; have := hT j L' hj hT'; rw [hL] at this; injection this with this; subst this; subst e; have hlen := ot.1; subst hlen; rw [Nat.mul_one]; exact ⟨B, d, e4 j _ hr, ot.texts.keep TextE.stays (fun _ _ _ => rfl) (Nat.zero_le _) (nl _)⟩
theorem matchT_words : ∀ {ts us : List Tm} {b b' : Bd}, matchT ts us b = some b' → ∀ q ∈ b', q ∈ b ∨ ∃ u ∈ us, q.2 = u.2
  | [], us, b, b', e => by
    cases us with
    | nil => rw [matchT_nil] at e; injection e with e; subst e; exact fun q hq => .inl hq
    | cons u us => unfold matchT at e; first | (injection e with e; subst e; exact fun q hq => .inl hq) | cases e
  | t :: ts, [], b, b', e => by
    unfold matchT at e; first | (injection e with e; subst e; exact fun q hq => .inl hq) | cases e
  | t :: ts, u :: us, b, b', e => by
    rw [matchT] at e; split at e
    · intro q hq
      rcases matchT_words e q hq with h | ⟨v, hv, h⟩
      · rcases List.mem_append.1 h with h | h
        · exact .inl h
        · rw [List.mem_singleton.1 h]; exact .inr ⟨u, by simp, rfl⟩
      · exact .inr ⟨v, List.mem_cons_of_mem _ hv, h⟩
    · split at e
      · intro q hq
        rcases matchT_words e q hq with h | ⟨v, hv, h⟩
        · exact .inl h
        · exact .inr ⟨v, List.mem_cons_of_mem _ hv, h⟩
      · cases e
theorem allB_words {list : List At} : ∀ {body : List Pt} {out : List Bd}, (∀ b ∈ out, ∀ q ∈ b, ∃ f ∈ list, ∃ u ∈ f.2, q.2 = u.2) → ∀ b ∈ body.foldl (stepB list) out, ∀ q ∈ b, ∃ f ∈ list, ∃ u ∈ f.2, q.2 = u.2
  | [], out, h => h
  | p :: body, out, h => by
    rw [List.foldl_cons]; refine allB_words ?_; unfold stepB; split
    · exact h
    · intro b hb q hq
      obtain ⟨c, hc, hb2⟩ := List.mem_flatMap.1 hb; unfold fitsL at hb2; obtain ⟨f, hf, hm⟩ := List.mem_filterMap.1 hb2; unfold matchA at hm; split at hm
      · rcases matchT_words hm q hq with h1 | ⟨u, hu, e⟩
        · exact h c hc q h1
        · exact ⟨f, hf, u, hu, e⟩
      · cases hm
theorem ask_words {list : List At} {body : List Pt} : ∀ L ∈ askRowsB list body, ∀ s ∈ L, s.size ≤ maxLen := by
  intro L hL s hs; unfold askRowsB at hL; split at hL
  · rename_i hc
    rw [Bool.and_eq_true] at hc; unfold sortR at hL; rw [(List.mergeSort_perm _ _).mem_iff] at hL; obtain ⟨b, hb, rfl⟩ := List.mem_map.1 hL; unfold rowT at hs; obtain ⟨x, _, rfl⟩ := List.mem_map.1 hs
    cases hg : getW b x with
    | none => show ByteArray.empty.size ≤ _; simp
    | some v =>
      have hv := getW_mem hg; unfold rowsB allB at hb; obtain ⟨f, hf, u, hu, e⟩ := allB_words (list := list) (out := [[]]) qad b (List.mem_filter.1 hb).1 _ hv; have := (((facts_ok hc.1).1 f hf).words u hu).2.1; show v.size ≤ _; rw [show v = u.2 from e]; exact this
  · simp at hL
theorem ask_rows_len {list : List At} {body : List Pt} : ∀ L ∈ askRowsB list body, L.length = (askVarsB body).length := by
  intro L hL; unfold askRowsB at hL; split at hL
  · unfold sortR at hL
    rw [(List.mergeSort_perm _ _).mem_iff] at hL; obtain ⟨b, _, rfl⟩ := List.mem_map.1 hL; unfold rowT; rw [List.length_map]
  · simp at hL
theorem ask_rows_few (list : List At) (body : List Pt) : (askRowsB list body).length ≤ 1000000000000 := by
  unfold askRowsB; split
  · rename_i h
    rw [Bool.and_eq_true] at h; unfold sortR; rw [(List.mergeSort_perm _ _).length_eq, List.length_map]; exact rows_few h.1 h.2
  · simp
def RowsTold (Ls : List (List ByteArray)) (w : World) (e : Ending) (w' : World) : Prop := ∃ A c, e = .returned (.slice A Ls.length c) ∧ IsRows w' 0 w'.heap.size A Ls.length c Ls ∧ Below w.heap.size w w'
theorem implAsk_rows (A : Option Addr) (n c : Nat) (list : List At) (B : Option Addr) (m d : Nat) (body : List Pt) (w : World) (hA : IsAtoms w 0 w.heap.size A n c list) (hB : IsParts w 0 w.heap.size B m d body) :
    Calls Tryz.prog 14 #[.slice A n c, .slice B m d] w (RowsTold (askRowsB list body) w) := by
  refine (implAsk_any A n c list B m d body w hA hB).mono ?_; rintro e w' ⟨v, rs, rfl, hown, hrows, hb⟩; obtain ⟨A', c', rfl, O⟩ := ownRs_of hown hrows (Nat.zero_le _) ask_rows_len ask_words; exact ⟨A', c', rfl, O.reads rfl fun _ _ _ e => e, hb⟩
end Go.Proofs.YtcigljngiemdeaaGreat
