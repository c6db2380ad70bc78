/-
  Texts of one claim, put together.
-/
import Derived.Test.YtcigljngiemdeaaGreatEa32
import Derived.Test.YtcigljngiemdeaaGreatEa23
import Derived.Test.YtcigljngiemdeaaGreatEa31
import Derived.Test.YtcigljngiemdeaaGreatEa33
namespace Go.Proofs.YtcigljngiemdeaaGreat
open Go.RowKit

/-- Rows of texts, m long each, each in memory of its own; of the j-th row T j holds. -/
structure OwnRs (w : World) (lo : Nat) (A : Option Addr) (n c m : Nat) (rs : List Value) (T : Nat → List ByteArray → Prop) : Prop where
  len : rs.length = n
  cap : n ≤ c
  max : c ≤ maxLen
  row : 0 < n → ∃ p, A = some p ∧ lo ≤ p.block ∧ p.block < w.heap.size ∧ (∀ (j : Nat) (u : Value), rs[j]? = some u → w.cell? (p.add j) = some u) ∧ ∀ r ∈ rs, r.ownBlock ≠ some p.block
  own : ∀ (j : Nat) (r : Value), rs[j]? = some r → ∃ B d L, r = .slice B m d ∧ OwnTx w lo w.heap.size B m d L ∧ T j L
  apart : rs.Pairwise ApartV

/-- A row's own block alone. -/
theorem OwnTx.one {w : World} {lo m d : Nat} {B : Option Addr} {L : List ByteArray} (h : OwnTx w lo w.heap.size B m d L) : ∃ g0 h0, OwnTx w g0 h0 B m d L ∧ h0 ≤ w.heap.size ∧ ∀ b, g0 ≤ b → b < h0 → lo ≤ b ∧ (Value.slice B m d).ownBlock = some b := by
  obtain ⟨h1, h2, h3, h4, h5⟩ := h
  by_cases hm : 0 < m
  · obtain ⟨g, k, f, rfl, e2, e3, e4, e5, e6⟩ := h5 hm
    refine ⟨g, g + 1, ⟨h1, h2, h3, h4, fun _ => ⟨g, k, f, rfl, Nat.le_refl _, by omega, e4, e5, e6⟩⟩, by omega, fun b hb1 hb2 => ?_⟩
    have : b = g := by omega
    subst this
    exact ⟨e2, rfl⟩
  · exact ⟨0, 0, ⟨h1, h2, h3, h4, fun h => absurd h hm⟩, Nat.zero_le _, fun b _ hb => absurd hb (Nat.not_lt_zero _)⟩

theorem OwnRs.step {w w' : World} {lo n c m i g0 h0 d : Nat} {A B : Option Addr} {rs : List Value} {T : Nat → List ByteArray → Prop} {L' : List ByteArray} (h : OwnRs w lo A n c m rs T) (hi : rs[i]? = some (.slice B m d)) (hb : ∀ b, g0 ≤ b → b < h0 → lo ≤ b ∧ (Value.slice B m d).ownBlock = some b) (hh : h0 ≤ w.heap.size) (hw : Within g0 h0 w w') (ho : OwnTx w' g0 h0 B m d L') :
    OwnRs w' lo A n c m rs (fun j L => (j = i ∧ L = L') ∨ (j ≠ i ∧ T j L)) := by
  have hs := hw.size
  have keep : ∀ b, b < w.heap.size → (Value.slice B m d).ownBlock ≠ some b → w'.heap[b]? = w.heap[b]? := fun b hbl hne => hw.block b hbl (by
    by_cases h1 : b < g0
    · exact .inl h1
    · by_cases h2 : h0 ≤ b
      · exact .inr h2
      · exact absurd (hb b (by omega) (by omega)).2 hne)
  refine ⟨h.len, h.cap, h.max, fun hn => ?_, fun j r hj => ?_, h.apart⟩
  · obtain ⟨p, e1, e2, e3, e4, e5⟩ := h.row hn
    refine ⟨p, e1, e2, by omega, fun j u hu => ?_, e5⟩
    exact (World.cell?_of_block (by rw [block_add]; exact keep _ e3 (e5 _ (List.mem_of_getElem? hi)))).trans (e4 j u hu)
  · by_cases e : j = i
    · subst e
      rw [hi] at hj
      injection hj with hj
      subst hj
      obtain ⟨a1, a2, a3, a4, a5⟩ := ho
      refine ⟨B, d, L', rfl, ⟨a1, a2, a3, a4, fun hm => ?_⟩, .inl ⟨rfl, rfl⟩⟩
      obtain ⟨g, k, f, e1, e2, e3, e4⟩ := a5 hm
      exact ⟨g, k, f, e1, (hb g e2 e3).1, by omega, e4⟩
    · obtain ⟨B2, d2, L2, rfl, ⟨a1, a2, a3, a4, a5⟩, hT⟩ := h.own j r hj
      refine ⟨B2, d2, L2, rfl, ⟨a1, a2, a3, a4, fun hm => ?_⟩, .inr ⟨e, hT⟩⟩
      obtain ⟨g, k, f, e1, e2, e3, e4, e5⟩ := a5 hm
      subst e1
      refine ⟨g, k, f, rfl, e2, by omega, e4.of_block (keep g e3 fun eb => ?_), e5⟩
      obtain ⟨j1, j2⟩ := List.getElem?_eq_some_iff.1 hj
      obtain ⟨i1, i2⟩ := List.getElem?_eq_some_iff.1 hi
      have hap := List.pairwise_iff_getElem.1 h.apart
      rcases Nat.lt_or_gt_of_ne e with hlt | hlt
      · have := hap j i j1 i1 hlt g (by rw [j2]; rfl)
        rw [i2] at this; exact this eb
      · have := hap i j i1 j1 hlt g (by rw [i2]; exact eb)
        rw [j2] at this; exact this rfl

set_option maxRecDepth 100000 in
set_option maxHeartbeats 2000000 in
theorem markStringSS_any (lo : Nat) (A : Option Addr) (n c m k : Nat) (rs : List Value) (w : World) (h : OwnRs w lo A n c m rs fun _ _ => True) (hk : k + n * m ≤ 2 ^ 62) :
    Calls Tryz.prog 20 #[.slice A n c, .int .i64 (k : Int)] w fun e w' => e = .returned (.int .i64 ((k + n * m : Nat) : Int)) ∧ OwnRs w' lo A n c m rs (fun j L => L = markXs (k + j * m) m) ∧ Within lo w.heap.size w w' := by
  have hcm := h.max; have hcap := h.cap
  unfold maxLen at hcm
  have H0 := Lib.hid h; have HK := Lib.hid hk
  clear h hk
  go_enter Tryz.func20, Tryz.ntmps20
  go_wp2
  go_loopw [1, 5] (fun x y wr => ∃ i s : Nat, i ≤ n ∧ s = k + i * m ∧ x = .int .i64 (s : Int) ∧ y = .int .i64 (i : Int) ∧ OwnRs wr lo A n c m rs (fun j L => j < i → L = markXs (k + j * m) m) ∧ Within lo w.heap.size w wr) (fun _ y _ => n - (intOf y).toNat)
  case atStart => exact ⟨0, k, Nat.zero_le _, by omega, rfl, rfl, ⟨H0.out.len, H0.out.cap, H0.out.max, H0.out.row, fun j r hj => by
    obtain ⟨B, d, L, e1, e2, _⟩ := H0.out.own j r hj
    exact ⟨B, d, L, e1, e2, fun hj0 => absurd hj0 (Nat.not_lt_zero _)⟩, H0.out.apart⟩, Within.refl⟩
  case round =>
    obtain ⟨i, s, hi, hs, rfl, rfl, hO, hw⟩ := hrel
    have HO := Lib.hid hO; have HW := Lib.hid hw; have HS := Lib.hid hs
    clear hO hw hs
    by_cases hlt : i < n
    · have hltI : (i : Int) < (n : Int) := by omega
      obtain ⟨p, hA, _, hpb, hcell, _⟩ := HO.out.row (by omega)
      subst hA
      obtain ⟨r, hr⟩ : ∃ r, rs[i]? = some r := ⟨_, List.getElem?_eq_getElem (by rw [HO.out.len]; exact hlt)⟩
      obtain ⟨B, d, L, rfl, hown, _⟩ := HO.out.own i r hr
      have y1 := hcell i _ hr
      obtain ⟨g0, h0, ho, hh, hb⟩ := hown.one
      have HRR := Lib.hid hr; have HOW := Lib.hid ho; have HBB := Lib.hid hb
      clear hcell hr hown ho hb
      obtain ⟨u, hu⟩ : ∃ u, s + m = u := ⟨_, rfl⟩
      have hu2 : u ≤ 2 ^ 62 := by
        have h1 := HS.out; have h2 := HK.out
        have h3 : (i + 1) * m ≤ n * m := Nat.mul_le_mul_right m hlt
        rw [Nat.add_mul, Nat.one_mul] at h3
        omega
      have hmark := markStringS_any g0 h0 B m d s L wr HOW.out hh (by rw [hu]; exact hu2)
      rw [hu] at hmark
      have HM := Lib.hid hmark; have HU := Lib.hid hu
      clear hmark hu
      go_wp2_with fail
      refine HM.out.mono ?_; rintro e w5 ⟨rfl, ho5, hw5⟩
      have hst := HO.out.step HRR.out HBB.out hh hw5 ho5
      have HST := Lib.hid (show OwnRs w5 lo (some p) n c m rs (fun j L => j < i + 1 → L = markXs (k + j * m) m) from ⟨hst.len, hst.cap, hst.max, hst.row, fun j r hj => by
        obtain ⟨B2, d2, L2, e1, e2, e3⟩ := hst.own j r hj
        refine ⟨B2, d2, L2, e1, e2, fun hji => ?_⟩
        rcases e3 with ⟨rfl, rfl⟩ | ⟨hne, hT⟩
        · rw [HS.out]
        · exact hT (by omega), hst.apart⟩)
      have HW5 := Lib.hid (show Within lo w.heap.size w w5 from ⟨hw5.os.trans HW.out.os, hw5.tape.trans HW.out.tape, hw5.output.trans HW.out.output, Nat.le_trans HW.out.size hw5.size, fun b hbl hor => (hw5.block b (Nat.lt_of_lt_of_le hbl HW.out.size) (by
        by_cases h1 : b < g0
        · exact .inl h1
        · by_cases h2 : h0 ≤ b
          · exact .inr h2
          · have := (HBB.out b (by omega) (by omega)).1
            omega)).trans (HW.out.block b hbl hor)⟩)
      clear hst ho5 hw5 y1
      go_wp2_with fail
      refine ⟨⟨i + 1, u, by omega, by rw [← HU.out, HS.out, Nat.add_mul, Nat.one_mul]; omega, rfl, by go_num, HST.out, HW5.out⟩, by simp [intOf]; omega⟩
    · have hin : i = n := by omega
      subst hin
      go_wp2_with fail
      refine bodyPost_ret (v := .int .i64 ((k + i * m : Nat) : Int)) (by rw [← HS.out]; simp [results, Tryz.results20, go_sem]) rfl ⟨rfl, ⟨HO.out.len, HO.out.cap, HO.out.max, HO.out.row, fun j r hj => ?_, HO.out.apart⟩, HW.out⟩
      obtain ⟨B, d, L, e1, e2, e3⟩ := HO.out.own j r hj
      exact ⟨B, d, L, e1, e2, e3 (by have := (List.getElem?_eq_some_iff.1 hj).1; have := HO.out.len; omega)⟩

/-- Rows that were answered, as rows that may be marked. -/
theorem ownRs_of {W : World} {base lo m : Nat} {v : Value} {rs : List Value} {Ls : List (List ByteArray)} (h : W.ownsRow base 42 1 v Ls.length rs) (hr : RowsOwn W base rs Ls) (hlo : lo ≤ base) (hm : ∀ L ∈ Ls, L.length = m) (hs : ∀ L ∈ Ls, ∀ s ∈ L, s.size ≤ maxLen) :
    ∃ A c, v = .slice A Ls.length c ∧ OwnRs W lo A Ls.length c m rs fun j L => Ls[j]? = some L := by
  have hrow : ∀ (j : Nat) (r : Value), rs[j]? = some r → ∃ L, Ls[j]? = some L ∧ L.length = m ∧ W.ownsRow base 9 1 r L.length (tcl L) ∧ ∀ s ∈ L, s.size ≤ maxLen := fun j r hj => by
    obtain ⟨L, hL⟩ : ∃ L, Ls[j]? = some L := ⟨_, List.getElem?_eq_getElem (by rw [← hr.len]; exact (List.getElem?_eq_some_iff.1 hj).1)⟩
    exact ⟨L, hL, hm L (List.mem_of_getElem? hL), hr.row j r L hj hL, hs L (List.mem_of_getElem? hL)⟩
  obtain ⟨A, c, e, h1, h2⟩ := ownsRow_form h
  subst e
  refine ⟨A, c, rfl, hr.len, h1, h2, fun hn => ?_, fun j r hj => ?_, hr.apart⟩
  · rcases h.2 with ⟨_, e⟩ | ⟨g, cap, cur, e, hbg, hgb, hle, hcap, hsz, htk⟩
    · omega
    · injection e with e1 _ e3
      subst e1 e3
      refine ⟨_, rfl, Nat.le_trans hlo hbg, (Array.getElem?_eq_some_iff.1 hgb).1, fun j u hu => ?_, fun r hr' eb => ?_⟩
      · have a0 : (⟨g, 0, none⟩ : Addr).add j = ⟨g, j, none⟩ := by unfold Addr.add; split <;> simp_all
        have hj := (List.getElem?_eq_some_iff.1 hu).1
        have hl := hr.len
        rw [a0]
        rw [← htk, List.getElem?_take, if_pos (by omega)] at hu
        simp [World.cell?, hgb]
        simpa using hu
      · obtain ⟨j, hj⟩ := List.getElem?_of_mem hr'
        obtain ⟨L, _, _, ho, _⟩ := hrow j r hj
        have eb' : r.ownBlock = some g := eb
        rcases ho.2 with ⟨rfl, _⟩ | ⟨g', _, _, rfl, _, hb', _⟩
        · simp [Value.ownBlock] at eb'
        · have : g' = g := by simpa [Value.ownBlock] using eb'
          subst this
          rw [hgb] at hb'
          injection hb' with hb'
          injection hb' with _ e2
          exact absurd e2 (by decide)
  · obtain ⟨L, hL, hLm, ho, hsz⟩ := hrow j r hj
    subst hLm
    obtain ⟨B, d, e, ot⟩ := OwnTx.of_row ho rfl hsz hlo
    exact ⟨B, d, L, e, ot, hL⟩

/-- .. and as what they read as. -/
theorem OwnRs.reads {w : World} {lo n c m : Nat} {A : Option Addr} {rs : List Value} {T : Nat → List ByteArray → Prop} {Ms : List (List ByteArray)} (h : OwnRs w lo A n c m rs T) (hl : Ms.length = n) (hT : ∀ (j : Nat) (L : List ByteArray), j < n → T j L → Ms[j]? = some L) : IsRows w 0 w.heap.size A n c Ms := by
  refine ⟨hl, h.cap, h.max, fun hn => ?_⟩
  obtain ⟨p, e1, _, e3, e4, _⟩ := h.row hn
  refine ⟨p, e1, Nat.zero_le _, e3, fun j L hL => ?_⟩
  have hj : j < n := by rw [← hl]; exact (List.getElem?_eq_some_iff.1 hL).1
  obtain ⟨r, hr⟩ : ∃ r, rs[j]? = some r := ⟨_, List.getElem?_eq_getElem (by rw [h.len]; exact hj)⟩
  obtain ⟨B, d, L', e, ot, hT'⟩ := h.own j r hr
  have := hT j L' hj hT'
  rw [hL] at this
  injection this with this
  subst this
  subst e
  have hlen := ot.1
  subst hlen
  rw [Nat.mul_one]
  exact ⟨B, d, e4 j _ hr, ot.texts.keep TextE.stays (fun _ _ _ => rfl) (Nat.zero_le _) (Nat.le_refl _)⟩

theorem OwnRs.marks {w : World} {lo n c m k : Nat} {A : Option Addr} {rs : List Value} (h : OwnRs w lo A n c m rs fun j L => L = markXs (k + j * m) m) : IsRows w 0 w.heap.size A n c (marksR k m n) :=
  h.reads (by unfold marksR; simp) fun j L hj e => by subst e; unfold marksR; simp [hj]

theorem matchT_words : ∀ {ts us : List Tm} {b b' : Bd}, matchT ts us b = some b' → ∀ q ∈ b', q ∈ b ∨ ∃ u ∈ us, q.2 = u.2
  | [], us, b, b', e => by
    cases us with
    | nil => rw [matchT_nil] at e; injection e with e; subst e; exact fun q hq => .inl hq
    | cons u us => unfold matchT at e; first | (injection e with e; subst e; exact fun q hq => .inl hq) | cases e
  | t :: ts, [], b, b', e => by
    unfold matchT at e; first | (injection e with e; subst e; exact fun q hq => .inl hq) | cases e
  | t :: ts, u :: us, b, b', e => by
    rw [matchT] at e
    split at e
    · intro q hq
      rcases matchT_words e q hq with h | ⟨v, hv, h⟩
      · rcases List.mem_append.1 h with h | h
        · exact .inl h
        · rw [List.mem_singleton.1 h]; exact .inr ⟨u, by simp, rfl⟩
      · exact .inr ⟨v, List.mem_cons_of_mem _ hv, h⟩
    · split at e
      · intro q hq
        rcases matchT_words e q hq with h | ⟨v, hv, h⟩
        · exact .inl h
        · exact .inr ⟨v, List.mem_cons_of_mem _ hv, h⟩
      · cases e

theorem allB_words {list : List At} : ∀ {body : List Pt} {out : List Bd}, (∀ b ∈ out, ∀ q ∈ b, ∃ f ∈ list, ∃ u ∈ f.2, q.2 = u.2) → ∀ b ∈ body.foldl (stepB list) out, ∀ q ∈ b, ∃ f ∈ list, ∃ u ∈ f.2, q.2 = u.2
  | [], out, h => h
  | p :: body, out, h => by
    rw [List.foldl_cons]
    refine allB_words ?_
    unfold stepB
    split
    · exact h
    · intro b hb q hq
      obtain ⟨c, hc, hb2⟩ := List.mem_flatMap.1 hb
      unfold fitsL at hb2
      obtain ⟨f, hf, hm⟩ := List.mem_filterMap.1 hb2
      unfold matchA at hm
      split at hm
      · rcases matchT_words hm q hq with h1 | ⟨u, hu, e⟩
        · exact h c hc q h1
        · exact ⟨f, hf, u, hu, e⟩
      · cases hm

theorem ask_words {list : List At} {body : List Pt} : ∀ L ∈ askRowsB list body, ∀ s ∈ L, s.size ≤ maxLen := by
  intro L hL s hs
  unfold askRowsB at hL
  split at hL
  · rename_i hc
    rw [Bool.and_eq_true] at hc
    unfold sortR at hL
    rw [(List.mergeSort_perm _ _).mem_iff] at hL
    obtain ⟨b, hb, rfl⟩ := List.mem_map.1 hL
    unfold rowT at hs
    obtain ⟨x, _, rfl⟩ := List.mem_map.1 hs
    cases hg : getW b x with
    | none => show ByteArray.empty.size ≤ _; simp
    | some v =>
      have hv := getW_mem hg
      unfold rowsB allB at hb
      obtain ⟨f, hf, u, hu, e⟩ := allB_words (list := list) (out := [[]]) (by simp) b (List.mem_filter.1 hb).1 _ hv
      have := (((facts_ok hc.1).1 f hf).words u hu).2.1
      show v.size ≤ _
      rw [show v = u.2 from e]; exact this
  · simp at hL

theorem ask_rows_len {list : List At} {body : List Pt} : ∀ L ∈ askRowsB list body, L.length = (askVarsB body).length := by
  intro L hL
  unfold askRowsB at hL
  split at hL
  · unfold sortR at hL
    rw [(List.mergeSort_perm _ _).mem_iff] at hL
    obtain ⟨b, _, rfl⟩ := List.mem_map.1 hL
    unfold rowT
    rw [List.length_map]
  · simp at hL

/-- Marked atoms, from k on; the number behind them. -/
def markR (k : Nat) (r : Rf) : Rf := (markB k, r.2.1, r.2.2.1, r.2.2.2.1, markTs (k + 1) (rN r))
def markN (k : Nat) : List Rf → Nat
  | [] => k
  | r :: rs => markN (k + 1 + 2 * rN r) rs
def markRs (k : Nat) : List Rf → List Rf
  | [] => []
  | r :: rs => markR k r :: markRs (k + 1 + 2 * rN r) rs

theorem markN_snoc : ∀ (k : Nat) (l : List Rf) (r : Rf), markN k (l ++ [r]) = markN k l + 1 + 2 * rN r
  | _, [], _ => rfl
  | k, q :: l, r => markN_snoc (k + 1 + 2 * rN q) l r

theorem markN_app : ∀ (k : Nat) (l l' : List Rf), markN k (l ++ l') = markN (markN k l) l'
  | _, [], _ => rfl
  | k, q :: l, l' => markN_app (k + 1 + 2 * rN q) l l'

theorem markN_ge : ∀ (k : Nat) (l : List Rf), k ≤ markN k l
  | _, [] => Nat.le_refl _
  | k, q :: l => Nat.le_trans (by omega) (markN_ge (k + 1 + 2 * rN q) l)

theorem markN_le (M : Nat) : ∀ (k : Nat) (l : List Rf), (∀ r ∈ l, rN r ≤ M) → markN k l ≤ k + l.length * (1 + 2 * M)
  | _, [], _ => by simp [markN]
  | k, q :: l, h => by
    have h1 := markN_le M (k + 1 + 2 * rN q) l (fun r hr => h r (by simp [hr]))
    have h2 := h q (by simp)
    rw [List.length_cons, Nat.add_mul]
    show markN (k + 1 + 2 * rN q) l ≤ _
    omega

theorem markRs_snoc : ∀ (k : Nat) (l : List Rf) (r : Rf), markRs k (l ++ [r]) = markRs k l ++ [markR (markN k l) r]
  | _, [], _ => rfl
  | k, q :: l, r => by
    show markR k q :: markRs (k + 1 + 2 * rN q) (l ++ [r]) = _
    rw [markRs_snoc (k + 1 + 2 * rN q) l r]; rfl

theorem markRs_len : ∀ (k : Nat) (l : List Rf), (markRs k l).length = l.length
  | _, [] => rfl
  | k, q :: l => by
    show (markRs (k + 1 + 2 * rN q) l).length + 1 = _
    rw [markRs_len, List.length_cons]

theorem markRs_at : ∀ (k : Nat) (l1 : List Rf) (r : Rf) (l2 : List Rf), (markRs k (l1 ++ r :: l2))[l1.length]? = some (markR (markN k l1) r)
  | _, [], _, _ => rfl
  | k, q :: l, r, l2 => by
    show (markR k q :: markRs (k + 1 + 2 * rN q) (l ++ r :: l2))[l.length + 1]? = _
    rw [List.getElem?_cons_succ, markRs_at]; rfl

/-- What an owned list has at a place. -/
theorem OwnRefs.place {w : World} {lo hi n c : Nat} {A : Option Addr} {l1 l2 : List Rf} {r : Rf} (h : OwnRefs w lo hi A n c (l1 ++ r :: l2)) :
    ∃ g, A = some ⟨g, 0, none⟩ ∧ lo ≤ g ∧ g < hi ∧ g < w.heap.size ∧ l1.length < n ∧ (∃ x, w.cell? ⟨g, l1.length * 2, none⟩ = some x) ∧ w.cell? ⟨g, l1.length * 2 + 1, none⟩ = some (.slice r.2.1 r.2.2.1 r.2.2.2.1) ∧ w.frozen? ⟨g, l1.length * 2, none⟩ = false := by
  obtain ⟨a, b, d, e, f⟩ := h
  have hl : l1.length < n := by rw [← a]; simp
  obtain ⟨g, k, f', e1, e2, e3, e4, e5, e6⟩ := e (by omega)
  have ha : (l1 ++ r :: l2)[l1.length]? = some r := by simp
  obtain ⟨c1, c2⟩ := rcells_at ha
  refine ⟨g, e1, e2, e3, e4.lt, hl, ⟨_, e4.cell (by omega)⟩, ?_, e4.frozen _⟩
  rw [e4.cell (by omega), e6 _ _ c2]

def MarkPost (lo hi : Nat) (A : Option Addr) (n c k : Nat) (rs : List Rf) (w : World) (e : Ending) (w' : World) : Prop :=
  e = .returned (.int .i64 ((markN k rs : Nat) : Int)) ∧ OwnRefs w' lo hi A n c (markRs k rs) ∧ Within lo hi w w'

theorem markTermS_at (lo hi : Nat) (A : Option Addr) (n c : Nat) (l1 l2 : List Rf) (r : Rf) (k : Nat) (w : World) (z : Int) (hz : z = ((k + 1 : Nat) : Int)) (h : OwnRefs w lo hi A n c (l1 ++ (markB k, r.2) :: l2)) (hk : k + 1 + 2 * rN r ≤ 2 ^ 62) :
    Calls Tryz.prog 55 #[.slice r.2.1 r.2.2.1 r.2.2.2.1, .int .i64 z] w fun e w' => e = .returned (.int .i64 ((k + 1 + 2 * rN r : Nat) : Int)) ∧ OwnRefs w' lo hi A n c (l1 ++ markR k r :: l2) ∧ Within lo hi w w' := by
  subst hz
  obtain ⟨y1, y2, y3⟩ := h.2.2.2.2.1 (markB k, r.2) (by simp)
  by_cases h0 : 0 < rN r
  · obtain ⟨g, m, f, e1, e2, e3, e4, e5⟩ := y3 h0
    have e1' : r.2.1 = some ⟨g, 0, none⟩ := e1
    rw [e1']
    refine (markTermS_any g m r.2.2.1 r.2.2.2.1 (k + 1) f w e4 e5 hk).mono ?_
    rintro e w' ⟨rfl, ⟨f', r1, r2⟩, hg⟩
    have hT : IsTerms w' lo hi (some ⟨g, 0, none⟩) r.2.2.1 r.2.2.2.1 (markTs (k + 1) (rN r)) := marked_terms r1 e5 r2 hk y2.2.1 y2.2.2.1 e2 e3
    refine ⟨rfl, ?_, Within.row hg e2 e3⟩
    have := OwnRefs.terms (r := (markB k, r.2)) h (g := g) e1 h0 (fun b hb hne => hg.block b hb (fun e => hne (by injection e))) (markTs (k + 1) (rN r)) (by show IsTerms w' lo hi r.2.1 _ _ _; rw [e1']; exact hT) ⟨g, m, f', e1, e2, e3, r1, e5⟩
    exact this
  · have hn : r.2.2.1 = 0 := by unfold rN at h0; omega
    have hn' : rN r = 0 := hn
    have ht : r.2.2.2.2 = [] := List.eq_nil_of_length_eq_zero (by have := y2.1; simp only at this; omega)
    rw [hn]
    refine (markTermS_none r.2.1 r.2.2.2.1 (k + 1) w).mono ?_
    rintro e w' ⟨rfl, rfl⟩
    refine ⟨by rw [hn'], ?_, Within.refl⟩
    have e : markR k r = (markB k, r.2) := by
      unfold markR
      rw [hn']
      obtain ⟨a, b, c, d, t⟩ := r
      simp only at ht ⊢
      subst ht
      rfl
    rw [e]; exact h

set_option maxRecDepth 100000 in
set_option maxHeartbeats 1000000 in
theorem markAtomS_any (lo hi : Nat) (A : Option Addr) (n c k : Nat) (rs : List Rf) (w : World) (h : OwnRefs w lo hi A n c rs) (hh : hi ≤ w.heap.size) (hk : markN k rs ≤ 2 ^ 62) :
    Calls Tryz.prog 18 #[.slice A n c, .int .i64 (k : Int)] w (MarkPost lo hi A n c k rs w) := by
  have hn := h.2.2.1
  have hnc := h.2.1
  have HN := Lib.hid h.1
  unfold maxLen at hn
  have H := Lib.hid h; clear h
  go_enter Tryz.func18, Tryz.ntmps18
  go_wp2
  go_loopw [1, 5] (fun x y wr => ∃ l1 l2 : List Rf, rs = l1 ++ l2 ∧ x = .int .i64 ((markN k l1 : Nat) : Int) ∧ y = .int .i64 ((l1.length : Nat) : Int) ∧ OwnRefs wr lo hi A n c (markRs k l1 ++ l2) ∧ Within lo hi w wr) (fun _ y _ => n - (intOf y).toNat)
  case atStart => exact ⟨[], rs, rfl, rfl, rfl, H.out, Within.refl⟩
  case round =>
    obtain ⟨l1, l2, hs, rfl, rfl, ho, hw⟩ := hrel
    have HS := Lib.hid hs; clear hs
    have HO := Lib.hid ho; clear ho
    have HL := Lib.hid (markRs_len k l1)
    obtain ⟨i, hi'⟩ : ∃ i, l1.length = i := ⟨_, rfl⟩
    obtain ⟨q, hq⟩ : ∃ q, markN k l1 = q := ⟨_, rfl⟩
    rw [hi', hq]
    cases l2 with
    | nil =>
      have e1 : rs = l1 := by have := HS.out; rwa [List.append_nil] at this
      have hin : i = n := by have := HN.out; rw [e1, hi'] at this; exact this
      have HQ := Lib.hid hq; have HI := Lib.hid hi'; have HE := Lib.hid e1
      clear hq hi' e1
      subst hin
      go_wp2
      go_ret; exact ⟨by rw [HE.out, HQ.out]; rfl, by rw [HE.out]; have := HO.out; rwa [List.append_nil] at this, hw⟩
    | cons r l2 =>
      obtain ⟨g, hA, p1, p2, p3, p4, ⟨x0, p5⟩, p6, p7⟩ := HO.out.place
      rw [HL.out, hi'] at p4 p5 p6 p7
      have hb1 : q + 1 + 2 * rN r ≤ 2 ^ 62 := by
        have e1 : markN k rs = markN (q + 1 + 2 * rN r) l2 := by rw [HS.out, markN_app, hq]; rfl
        have := markN_ge (q + 1 + 2 * rN r) l2
        omega
      have HQ := Lib.hid hq; have HI := Lib.hid hi'
      clear hq hi'
      subst hA
      have hws := hw.size
      go_wp2_with fail
      refine (markText_is _ q rfl (by omega) _).mono ?_; rintro e w1 ⟨rfl, hb1'⟩
      have c0 := (hb1'.cell (p := ⟨g, i * 2, none⟩) p3).trans p5
      have c1 := (hb1'.cell (p := ⟨g, i * 2 + 1, none⟩) p3).trans p6
      have z0 := (hb1'.frozen (p := ⟨g, i * 2, none⟩) p3).trans p7
      have hO1 := (HO.out.below hb1' (Nat.le_trans hh hws)).name rfl (markB q) (markB_size q (by omega))
      rw [HL.out, HI.out] at hO1
      have hw1 := (hw.trans (Within.of hb1')).trans (Within.row (grownSet w1 g (i * 2) (.string (markB q))) p1 p2)
      have HO1 := Lib.hid hO1
      clear hO1 p5 p6 p7 hb1'
      go_wp2_with fail
      refine (markTermS_at lo hi (some ⟨g, 0, none⟩) n c (markRs k l1) l2 r q _ _ (by omega) HO1.out hb1).mono ?_; rintro e w2 ⟨rfl, hO2, hw2⟩
      clear c0 c1 z0
      go_wp2
      go_roundw
      case rel => exact ⟨l1 ++ [r], l2, by rw [HS.out, List.append_assoc]; rfl, by rw [markN_snoc, HQ.out]; go_num, by rw [List.length_append, HI.out]; go_num, by rw [markRs_snoc, HQ.out, List.append_assoc]; exact hO2, hw1.trans hw2⟩
      case measure => simp [intOf]; omega


theorem markN_small {n c lo hi : Nat} {w : World} {A : Option Addr} {rs : List Rf} {xs : List At} (h : IsRefs w lo hi A n c rs) (hx : rs.map rAt = xs) (hs : SmallAtoms n xs) : markN 1 rs ≤ 2 ^ 62 := by
  have h1 := markN_le 1048576 1 rs (fun r hr => by
    have h2 := hs.2 (rAt r) (by rw [← hx]; exact List.mem_map_of_mem hr)
    have h3 := ((RefsIn.of h) r hr).2.1
    show r.2.2.1 ≤ _
    rw [← h3]; exact h2)
  have h4 := h.1
  have h5 := hs.1
  have h6 : rs.length * (1 + 2 * 1048576) ≤ 1048576 * (1 + 2 * 1048576) := Nat.mul_le_mul_right _ (by omega)
  omega


/-- The three cells of a part that may be written, and what they lead on to. -/
def PartAt (w : World) (lo hi : Nat) (f : Nat → Value) (i : Nat) : Prop :=
  ∃ b s A n c, f (i * 3) = .bool b ∧ f (i * 3 + 1) = .string s ∧ f (i * 3 + 2) = .slice A n c ∧ n ≤ 1048576 ∧ (0 < n → RowAt w lo hi 59 A (n * 2))

/-- A row of parts that may be written, and what it leads on to. -/
def PartRow (w : World) (lo hi g n : Nat) : Prop :=
  lo ≤ g ∧ g < hi ∧ ∃ f, w.rowIs g 52 (n * 3) f ∧ ∀ i, i < n → PartAt w lo hi f i

theorem PartAt.keep {w w' : World} {lo hi lo' hi' i : Nat} {f : Nat → Value} (h : PartAt w lo hi f i) (hk : ∀ b, lo ≤ b → b < hi → w'.heap[b]? = w.heap[b]?) (h1 : lo' ≤ lo) (h2 : hi ≤ hi') : PartAt w' lo' hi' f i := by
  obtain ⟨b, s, A, n, c, e1, e2, e3, e4, e5⟩ := h
  exact ⟨b, s, A, n, c, e1, e2, e3, e4, fun h0 => (e5 h0).keep hk h1 h2⟩

theorem PartRow.keep {w w' : World} {lo hi g n : Nat} (h : PartRow w lo hi g n) (hk : ∀ b, lo ≤ b → b < hi → w'.heap[b]? = w.heap[b]?) : PartRow w' lo hi g n := by
  obtain ⟨h1, h2, f, hr, hp⟩ := h
  exact ⟨h1, h2, f, hr.of_block (hk g h1 h2), fun i hi => (hp i hi).keep hk (Nat.le_refl _) (Nat.le_refl _)⟩

theorem set3_block {w : World} {g i j k : Nat} {u v x : Value} {b : Nat} (hb : b ≠ g) : (((w.setCell ⟨g, i, none⟩ u).setCell ⟨g, j, none⟩ v).setCell ⟨g, k, none⟩ x).heap[b]? = w.heap[b]? :=
  (Below.heap_setCell _ _ _ b hb).trans ((Below.heap_setCell _ _ _ b hb).trans (Below.heap_setCell _ _ _ b hb))

/-- A copy of parts, in memory of its own. -/
def PartSOwn (n : Nat) (xs : List Pt) (w : World) (e : Ending) (w' : World) : Prop :=
  ∃ g, e = .returned (.slice (some ⟨g, 0, none⟩) n n) ∧ w.heap.size ≤ g ∧ IsParts w' w.heap.size w'.heap.size (some ⟨g, 0, none⟩) n n xs ∧ PartRow w' w.heap.size w'.heap.size g n ∧ Below w.heap.size w w'

set_option maxHeartbeats 1000000 in
theorem toPartS_own (A : Option Addr) (n c : Nat) (xs : List Pt) (w : World) (h : IsParts w 0 w.heap.size A n c xs) (hn : SmallParts n xs) :
    Calls Tryz.prog 13 #[.slice A n c] w (PartSOwn n xs w) := by
  obtain ⟨hn1, hn2⟩ := hn
  obtain ⟨i0, hi, hz, hsz, hby⟩ := info_parts Tryz.infoPart
  have hmk : ∀ W : World, (Instr.makeSlice 30 (.int .i64 (n : Int)) (.int .i64 (n : Int))).run Tryz.prog W = .ok (.slice (some ⟨W.heap.size, 0, none⟩) n n) (W.alloc (.cells (madeCells #[.bool false, .string ByteArray.empty, .slice none 0 0] (n * 3)) 52)) := by
    intro W
    have hr := run_make (P := Tryz.prog) W 30 52 i0 _ Tryz.underlying30 hi hz .i64 .i64 n n (by omega) (Int.le_refl _) (by rw [hby]; omega) (by omega)
    rw [hsz] at hr
    exact hr
  clear hi hz hsz hby
  have HN := Lib.hid hn2; clear hn2
  have H := Lib.hid h; clear h
  have hst := World.rowIs_alloc w (madeCells #[.bool false, .string ByteArray.empty, .slice none 0 0] (n * 3)) 52 (fun i => (madeCells #[.bool false, .string ByteArray.empty, .slice none 0 0] (n * 3))[i]?.getD undef) (fun i hi => by simp [hi])
  rw [size_madeCells] at hst
  have HST := Lib.hid hst; clear hst
  go_enter Tryz.func13, Tryz.ntmps13
  go_wp2
  go_loopw [4] (fun i wr => ∃ (k : Nat) (f : Nat → Value), k ≤ n ∧ i = .int .i64 k ∧ Rowed 52 3 PartV wr w.heap.size n k xs ∧ wr.rowIs w.heap.size 52 (n * 3) f ∧ (∀ i, i < k → PartAt wr (w.heap.size + 1) wr.heap.size f i) ∧ Below w.heap.size w wr) (fun i _ => n - (intOf i).toNat)
  case atStart => exact ⟨0, _, Nat.zero_le _, rfl, Rowed.start w _, HST.out, fun i hi => absurd hi (Nat.not_lt_zero _), below1 _ _⟩
  case round =>
    obtain ⟨k, f, hk, rfl, hf, hr, hp, hb⟩ := hrel
    have HF := Lib.hid hf; have HR := Lib.hid hr; have HP := Lib.hid hp; clear hf hr hp
    by_cases hlt : k < n
    · obtain ⟨p, q, hA, hlo, hhi, hg, hE⟩ := (H.out.below PartE.stays hb (Nat.le_refl _)).at_ hlt
      obtain ⟨A', n', c', d1, d2, d3, d4, d5⟩ := hE.out
      clear hE
      subst hA
      have hq : n' ≤ 1048576 := by rw [← d5.1]; exact HN.out q (List.mem_of_getElem? hg)
      have HG := Lib.hid hg; clear hg
      have HT := Lib.hid d5; clear d5
      go_wp2_with fail
      (refine (toPart_any _ _ _ _ _ q.2.2 _ (HT.out.keep (fun _ _ _ => rfl) (Nat.le_refl _) hb.size) hq).mono ?_; rintro e w1 ⟨g1, rfl, hg1, ho1, hb1⟩; have HF1 := HF.out.below PartV.keep hb1; have hg0 : w.heap.size < wr.heap.size := HF.out.lt; obtain ⟨⟨x0, hx0⟩, hz0⟩ := HF1.cells (j := k * 3) (by omega); obtain ⟨⟨x1, hx1⟩, hz1⟩ := HF1.cells (j := k * 3 + 1) (by omega); obtain ⟨⟨x2, hx2⟩, hz2⟩ := HF1.cells (j := k * 3 + 2) (by omega))
      have HR1 := Lib.hid (HR.out.of_block (hb1.block w.heap.size HR.out.lt))
      go_wp2
      go_roundw
      case rel =>
        refine ⟨k + 1, _, by omega, by go_num, HF1.step3 PartV.keep PartV.cong q HG.out _ _ _ ⟨rfl, rfl, d3, _, _, _, rfl, ho1.is_ (by unfold maxLen; omega) (by omega)⟩, ((HR1.out.set _ _).set _ _).set _ _, ?_, (((belowThen hb hb1).setCell (Nat.le_refl _) _).setCell (Nat.le_refl _) _).setCell (Nat.le_refl _) _⟩
        intro i hi
        have hks : ∀ b, w.heap.size + 1 ≤ b → b < w1.heap.size → (((w1.setCell ⟨w.heap.size, k * 3, none⟩ (.bool q.1)).setCell ⟨w.heap.size, k * 3 + 1, none⟩ (.string q.2.1)).setCell ⟨w.heap.size, k * 3 + 2, none⟩ (.slice (some ⟨g1, 0, none⟩) n' n')).heap[b]? = w1.heap[b]? := fun b h1 _ => set3_block (by omega)
        rw [size_setCell, size_setCell, size_setCell]
        by_cases e : i = k
        · subst e
          refine ⟨q.1, q.2.1, some ⟨g1, 0, none⟩, n', n', by simp, by simp, by simp, hq, fun _ => ?_⟩
          refine RowAt.keep (w := w1) ⟨g1, n' * 2, tcell q.2.2, rfl, by omega, ho1.2.2.lt, ho1.2.2, Nat.le_refl _⟩ hks (Nat.le_refl _) (Nat.le_refl _)
        · obtain ⟨b, s, A2, n2, c2, e1, e2, e3, e4, e5⟩ := HP.out i (by omega)
          refine ⟨b, s, A2, n2, c2, ?_, ?_, ?_, e4, fun h0 => ?_⟩
          · dsimp only; rw [if_neg (by omega), if_neg (by omega), if_neg (by omega)]; exact e1
          · dsimp only; rw [if_neg (by omega), if_neg (by omega), if_neg (by omega)]; exact e2
          · dsimp only; rw [if_neg (by omega), if_neg (by omega), if_neg (by omega)]; exact e3
          · exact (e5 h0).keep (fun b h1 h2 => (hks b h1 (Nat.lt_of_lt_of_le h2 hb1.size)).trans (hb1.block b h2)) (Nat.le_refl _) hb1.size
      case measure => simp [intOf]; omega
    · have hkn : k = n := by omega
      go_wp2
      go_ret
      exact ⟨_, rfl, Nat.le_refl _, HF.out.is_ hlt H.out.1 (by unfold maxLen; omega) (Nat.le_refl _) (PartV.is_ (Nat.le_refl _)), ⟨Nat.le_refl _, HR.out.lt, f, HR.out, fun i hi => (HP.out i (by omega)).keep (fun _ _ _ => rfl) (by omega) (Nat.le_refl _)⟩, hb⟩

/-- A row of terms is no row of parts. -/
theorem row_apart {w : World} {lo hi g m k : Nat} {A : Option Addr} {f : Nat → Value} (h : RowAt w lo hi 59 A m) (hr : w.rowIs g 52 k f) : A ≠ some ⟨g, 0, none⟩ := by
  intro e
  obtain ⟨g', k', f', e1, _, _, ⟨cs', y1, _⟩, _⟩ := h
  rw [e] at e1
  injection e1 with e1
  injection e1 with e1
  subst e1
  obtain ⟨cs, y2, _⟩ := hr
  rw [y2] at y1
  injection y1 with y1
  injection y1 with _ y1
  exact absurd y1 (by decide)

theorem RowAt.far {w : World} {lo hi g i m k : Nat} {A : Option Addr} {f : Nat → Value} (h : RowAt w lo hi 59 A m) (hr : w.rowIs g 52 k f) (v : Value) : RowAt (w.setCell ⟨g, i, none⟩ v) lo hi 59 A m := by
  have hne := row_apart h hr
  obtain ⟨g', k', f', e1, e2, e3, e4, e5⟩ := h
  exact ⟨g', k', f', e1, e2, e3, e4.of_block (Below.heap_setCell _ _ _ g' (fun e => hne (by rw [e1, e]))), e5⟩

/-- A part's Not, or its name, is written. -/
theorem PartRow.put {w : World} {lo hi g n : Nat} (h : PartRow w lo hi g n) (i d : Nat) (v : Value) (hd : (d = 0 ∧ ∃ b, v = .bool b) ∨ (d = 1 ∧ ∃ s, v = .string s)) : PartRow (w.setCell ⟨g, i * 3 + d, none⟩ v) lo hi g n := by
  obtain ⟨h1, h2, f, hr, hp⟩ := h
  refine ⟨h1, h2, _, hr.set (i * 3 + d) v, fun j hj => ?_⟩
  obtain ⟨b, s, A, m, c, e1, e2, e3, e4, e5⟩ := hp j hj
  rcases hd with ⟨rfl, b', rfl⟩ | ⟨rfl, s', rfl⟩
  · by_cases e : j = i
    · subst e
      exact ⟨b', s, A, m, c, by simp, by dsimp only; rw [if_neg (by omega)]; exact e2, by dsimp only; rw [if_neg (by omega)]; exact e3, e4, fun h0 => (e5 h0).far hr _⟩
    · exact ⟨b, s, A, m, c, by dsimp only; rw [if_neg (by omega)]; exact e1, by dsimp only; rw [if_neg (by omega)]; exact e2, by dsimp only; rw [if_neg (by omega)]; exact e3, e4, fun h0 => (e5 h0).far hr _⟩
  · by_cases e : j = i
    · subst e
      exact ⟨b, s', A, m, c, by dsimp only; rw [if_neg (by omega)]; exact e1, by simp, by dsimp only; rw [if_neg (by omega)]; exact e3, e4, fun h0 => (e5 h0).far hr _⟩
    · exact ⟨b, s, A, m, c, by dsimp only; rw [if_neg (by omega)]; exact e1, by dsimp only; rw [if_neg (by omega)]; exact e2, by dsimp only; rw [if_neg (by omega)]; exact e3, e4, fun h0 => (e5 h0).far hr _⟩

/-- A row of terms is written. -/
theorem PartRow.terms {w w' : World} {lo hi g n g' m : Nat} {f f' : Nat → Value} (h : PartRow w lo hi g n) (hr : w.rowIs g' 59 m f) (hr' : w'.rowIs g' 59 m f') (hg : w.grownBy w' (some g')) (hh : hi ≤ w.heap.size) : PartRow w' lo hi g n := by
  obtain ⟨h1, h2, f1, hr1, hp⟩ := h
  have hne : g ≠ g' := fun e => by
    subst e
    obtain ⟨cs, y1, _⟩ := hr1
    obtain ⟨cs', y2, _⟩ := hr
    rw [y2] at y1
    injection y1 with y1
    injection y1 with _ y1
    exact absurd y1 (by decide)
  refine ⟨h1, h2, f1, hr1.of_block (hg.block g (by omega) (fun e => hne (by injection e))), fun j hj => ?_⟩
  obtain ⟨b, s, A, k, c, e1, e2, e3, e4, e5⟩ := hp j hj
  refine ⟨b, s, A, k, c, e1, e2, e3, e4, fun h0 => ?_⟩
  obtain ⟨g2, k2, f2, x1, x2, x3, x4, x5⟩ := e5 h0
  by_cases e : g2 = g'
  · subst e
    have hkm : k2 = m := by
      obtain ⟨cs, y1, y2, _⟩ := x4
      obtain ⟨cs', z1, z2, _⟩ := hr
      rw [z1] at y1
      injection y1 with y1
      injection y1 with y1
      subst y1
      omega
    subst hkm
    exact ⟨g2, k2, f', x1, x2, x3, hr', x5⟩
  · exact ⟨g2, k2, f2, x1, x2, x3, x4.of_block (hg.block g2 (by omega) (fun e' => e (by injection e'))), x5⟩

theorem markTermS_is (g m n c k : Nat) (f : Nat → Value) (w : World) (z : Int) (hz : z = (k : Int)) (hr : w.rowIs g 59 m f) (hm : n * 2 ≤ m) (hk : k + 2 * n ≤ 2 ^ 62) :
    Calls Tryz.prog 55 #[.slice (some ⟨g, 0, none⟩) n c, .int .i64 z] w (MarkTPost g m n k w) := by
  subst hz; exact markTermS_any g m n c k f w hr hm hk

theorem markTermS_zero (A : Option Addr) (c k : Nat) (w : World) (z : Int) (hz : z = (k : Int)) : Calls Tryz.prog 55 #[.slice A 0 c, .int .i64 z] w fun e w' => e = .returned (.int .i64 (k : Int)) ∧ w' = w := by
  subst hz; exact markTermS_none A c k w

theorem mod3q {q : Nat} {b : Bool} (h : ((q : Int) % 3 == 0) = b) : b = decide (q % 3 = 0) := by
  rw [← h, Bool.eq_iff_iff, beq_iff_eq, decide_eq_true_eq]; omega

set_option maxRecDepth 100000 in
set_option maxHeartbeats 2000000 in
theorem markPartS_own (lo hi g n c k : Nat) (w : World) (h : PartRow w lo hi g n) (hh : hi ≤ w.heap.size) (hk : k + n * 2097154 ≤ 2 ^ 62) :
    Calls Tryz.prog 19 #[.slice (some ⟨g, 0, none⟩) n c, .int .i64 (k : Int)] w fun e w' => (∃ k' : Nat, e = .returned (.int .i64 (k' : Int)) ∧ k ≤ k' ∧ k' ≤ k + n * 2097154) ∧ PartRow w' lo hi g n ∧ Within lo hi w w' := by
  have H := Lib.hid h; clear h
  go_enter Tryz.func19, Tryz.ntmps19
  go_wp2
  go_loopw [1, 5] (fun x y wr => ∃ i q : Nat, i ≤ n ∧ x = .int .i64 (q : Int) ∧ y = .int .i64 (i : Int) ∧ k ≤ q ∧ q ≤ k + i * 2097154 ∧ PartRow wr lo hi g n ∧ Within lo hi w wr) (fun _ y _ => n - (intOf y).toNat)
  case atStart => exact ⟨0, k, Nat.zero_le _, rfl, rfl, Nat.le_refl _, by omega, H.out, Within.refl⟩
  case round =>
    obtain ⟨i, q, hi', rfl, rfl, hq1, hq2, hP, hw⟩ := hrel
    by_cases hlt : i < n
    · have hlt2 : (i : Int) < (n : Int) := by omega
      have hwz := hw.size
      have hq3 : q + 2097154 ≤ 2 ^ 62 := by omega
      obtain ⟨bv, hbv⟩ : ∃ bv, ((q : Int) % 3 == 0) = bv := ⟨_, rfl⟩
      have P1 : PartRow (wr.setCell ⟨g, i * 3, none⟩ (.bool bv)) lo hi g n := hP.put i 0 (.bool bv) (.inl ⟨rfl, bv, rfl⟩)
      obtain ⟨hlo, hhi, f, hr, hp⟩ := hP
      have c0 := hr.cell (i := i * 3) (by omega)
      have z0 := hr.frozen (i * 3)
      have hw1 := hw.trans (Within.row (grownSet wr g (i * 3) (.bool bv)) hlo hhi)
      have HP1 := Lib.hid P1
      clear P1 hr hp
      go_wp2_with fail
      refine (markText_is _ (q + 1) (by omega) (by omega) _).mono ?_; rintro e w1 ⟨rfl, hb1⟩
      have hw2 := hw1.trans (Within.of hb1)
      have hz2 := hw2.size
      have P2 : PartRow w1 lo hi g n := HP1.out.keep (fun b h1 h2 => hb1.block b (by rw [size_setCell]; omega))
      have P3 := P2.put i 1 (.string (markB (q + 1))) (.inr ⟨rfl, _, rfl⟩)
      obtain ⟨_, _, f2, hr2, _⟩ := P2
      have c1 := hr2.cell (i := i * 3 + 1) (by omega)
      have z1 := hr2.frozen (i * 3 + 1)
      have hw3 := hw2.trans (Within.row (grownSet w1 g (i * 3 + 1) (.string (markB (q + 1)))) hlo hhi)
      have HP3 := Lib.hid P3
      obtain ⟨_, _, f3, hr3, hp3⟩ := P3
      obtain ⟨b3, s3, A3, n3, c3, _, _, e3, e4, e5⟩ := hp3 i hlt
      have c2 := hr3.cell (i := i * 3 + 2) (by omega)
      rw [e3] at c2
      have hz3 : (w1.setCell ⟨g, i * 3 + 1, none⟩ (.string (markB (q + 1)))).heap.size = w1.heap.size := size_setCell _ _ _
      clear hr2 hr3 hp3 c0 z0 e3 hb1 HP1
      go_wp2_with fail
      by_cases h0 : 0 < n3
      · obtain ⟨g', k', f', x1, x2, x3, x4, x5⟩ := e5 h0
        subst x1
        refine (markTermS_is g' k' n3 c3 (q + 2) f' _ _ (by omega) x4 x5 (by omega)).mono ?_; rintro e w4 ⟨rfl, ⟨f4, r4, _⟩, hg4⟩
        have P4 := HP3.out.terms x4 r4 hg4 (by omega)
        have hw4 := hw3.trans (Within.row hg4 x2 x3)
        have HP4 := Lib.hid P4
        clear c1 z1 c2 x4 r4 P4
        go_wp2
        go_roundw
        case rel => exact ⟨i + 1, q + 2 + 2 * n3, by omega, by go_num, by go_num, by omega, by omega, HP4.out, hw4⟩
        case measure => simp [intOf]; omega
      · have hn0 : n3 = 0 := by omega
        subst hn0
        refine (markTermS_zero A3 c3 (q + 2) _ _ (by omega)).mono ?_; rintro e w4 ⟨rfl, rfl⟩
        clear c1 z1 c2
        go_wp2
        go_roundw
        case rel => exact ⟨i + 1, q + 2, by omega, by go_num, by go_num, by omega, by omega, HP3.out, hw3⟩
        case measure => simp [intOf]; omega
    · have hin : i = n := by omega
      subst hin
      go_wp2
      go_ret; exact ⟨⟨q, rfl, hq1, hq2⟩, hP, hw⟩


theorem OwnRs.keep {w w' : World} {lo n c m : Nat} {A : Option Addr} {rs : List Value} {T : Nat → List ByteArray → Prop} (h : OwnRs w lo A n c m rs T) (hk : ∀ b, lo ≤ b → b < w.heap.size → w'.heap[b]? = w.heap[b]?) (hs : w.heap.size ≤ w'.heap.size) : OwnRs w' lo A n c m rs T := by
  refine ⟨h.len, h.cap, h.max, fun hn => ?_, fun j r hj => ?_, h.apart⟩
  · obtain ⟨p, e1, e2, e3, e4, e5⟩ := h.row hn
    exact ⟨p, e1, e2, by omega, fun j u hu => (World.cell?_of_block (by rw [block_add]; exact hk _ e2 e3)).trans (e4 j u hu), e5⟩
  · obtain ⟨B, d, L, e1, e2, e3⟩ := h.own j r hj
    exact ⟨B, d, L, e1, e2.keep hk (Nat.le_refl _) hs, e3⟩

theorem OwnRs.any {w : World} {lo n c m : Nat} {A : Option Addr} {rs : List Value} {T T' : Nat → List ByteArray → Prop} (h : OwnRs w lo A n c m rs T) (hT : ∀ j L, T j L → T' j L) : OwnRs w lo A n c m rs T' :=
  ⟨h.len, h.cap, h.max, h.row, fun j r hj => by
    obtain ⟨B, d, L, e1, e2, e3⟩ := h.own j r hj
    exact ⟨B, d, L, e1, e2, hT j L e3⟩, h.apart⟩

/-- What the law holds: the model's answer, its own facts and its own body, the program's answer; each in blocks apart. -/
structure QLaw (w : World) (a b d : Nat) (A3 : Option Addr) (N c3 : Nat) (Ls : List (List ByteArray)) (A4 : Option Addr) (n : Nat) (rf : List Rf) (g6 m : Nat) (A7 : Option Addr) (c7 mm : Nat) (rs : List Value) (T : Nat → List ByteArray → Prop) (W : World) : Prop where
  hb : Below w.heap.size w W
  h1 : w.heap.size ≤ a
  h2 : a ≤ b
  h3 : b ≤ d
  h4 : d ≤ W.heap.size
  M : IsRows W 0 a A3 N c3 Ls
  X : OwnRefs W a b A4 n n rf
  R : PartRow W b d g6 m
  O : OwnRs W d A7 N c7 mm rs T

section
variable {w : World} {a b d : Nat} {A3 : Option Addr} {N c3 : Nat} {Ls : List (List ByteArray)} {A4 : Option Addr} {n : Nat} {rf rf' : List Rf} {g6 m : Nat} {A7 : Option Addr} {c7 mm : Nat} {rs : List Value} {T T' : Nat → List ByteArray → Prop} {W W' : World}

theorem QLaw.below (h : QLaw w a b d A3 N c3 Ls A4 n rf g6 m A7 c7 mm rs T W) (hw : Below W.heap.size W W') : QLaw w a b d A3 N c3 Ls A4 n rf g6 m A7 c7 mm rs T W' :=
  have h1 := h.h1; have h2 := h.h2; have h3 := h.h3; have h4 := h.h4
  ⟨belowThen h.hb hw, h.h1, h.h2, h.h3, Nat.le_trans h.h4 hw.size, h.M.below RowE.stays hw (by omega), h.X.below hw (by omega), h.R.keep (fun x _ hx => hw.block x (by omega)), h.O.keep (fun x _ hx => hw.block x hx) hw.size⟩

theorem QLaw.atoms (h : QLaw w a b d A3 N c3 Ls A4 n rf g6 m A7 c7 mm rs T W) (hw : Within a b W W') (hX : OwnRefs W' a b A4 n n rf') : QLaw w a b d A3 N c3 Ls A4 n rf' g6 m A7 c7 mm rs T W' :=
  have h1 := h.h1; have h2 := h.h2; have h3 := h.h3; have h4 := h.h4
  ⟨h.hb.trans (hw.low (by omega) (by omega)), h.h1, h.h2, h.h3, Nat.le_trans h.h4 hw.size, h.M.keep RowE.stays (fun q _ hq => World.cell?_of_block (hw.block q.block (by omega) (.inl (by omega)))) (Nat.le_refl _) (Nat.le_refl _), hX, h.R.keep (fun x hx hx' => hw.block x (by omega) (.inr (by omega))), h.O.keep (fun x hx hx' => hw.block x hx' (.inr (by omega))) hw.size⟩

theorem QLaw.parts (h : QLaw w a b d A3 N c3 Ls A4 n rf g6 m A7 c7 mm rs T W) (hw : Within b d W W') (hR : PartRow W' b d g6 m) : QLaw w a b d A3 N c3 Ls A4 n rf g6 m A7 c7 mm rs T W' :=
  have h1 := h.h1; have h2 := h.h2; have h3 := h.h3; have h4 := h.h4
  ⟨h.hb.trans (hw.low (by omega) (by omega)), h.h1, h.h2, h.h3, Nat.le_trans h.h4 hw.size, h.M.keep RowE.stays (fun q _ hq => World.cell?_of_block (hw.block q.block (by omega) (.inl (by omega)))) (Nat.le_refl _) (Nat.le_refl _), h.X.keep (fun x hx hx' => hw.block x (by omega) (.inl (by omega))) (Nat.le_refl _) (Nat.le_refl _), hR, h.O.keep (fun x hx hx' => hw.block x hx' (.inr (by omega))) hw.size⟩

theorem QLaw.rows (h : QLaw w a b d A3 N c3 Ls A4 n rf g6 m A7 c7 mm rs T W) (hw : Within d W.heap.size W W') (hO : OwnRs W' d A7 N c7 mm rs T') : QLaw w a b d A3 N c3 Ls A4 n rf g6 m A7 c7 mm rs T' W' :=
  have h1 := h.h1; have h2 := h.h2; have h3 := h.h3; have h4 := h.h4
  ⟨h.hb.trans (hw.low (by omega) (by omega)), h.h1, h.h2, h.h3, Nat.le_trans h.h4 hw.size, h.M.keep RowE.stays (fun q _ hq => World.cell?_of_block (hw.block q.block (by omega) (.inl (by omega)))) (Nat.le_refl _) (Nat.le_refl _), h.X.keep (fun x hx hx' => hw.block x (by omega) (.inl (by omega))) (Nat.le_refl _) (Nat.le_refl _), h.R.keep (fun x hx hx' => hw.block x (by omega) (.inl (by omega))), hO⟩

theorem QLaw.model (h : QLaw w a b d A3 N c3 Ls A4 n rf g6 m A7 c7 mm rs T W) : IsRows W 0 W.heap.size A3 N c3 Ls :=
  have h1 := h.h1; have h2 := h.h2; have h3 := h.h3; have h4 := h.h4
  h.M.keep RowE.stays (fun _ _ _ => rfl) (Nat.le_refl _) (by omega)
theorem QLaw.answer (h : QLaw w a b d A3 N c3 Ls A4 n rf g6 m A7 c7 mm rs (fun j L => Ls[j]? = some L) W) : IsRows W 0 W.heap.size A7 N c7 Ls :=
  h.O.reads h.M.1 fun _ _ _ e => e
end

theorem low_parts {w : World} {lo hi n c : Nat} {A : Option Addr} {xs : List Pt} (h : IsParts w lo hi A n c xs) (hh : hi ≤ w.heap.size) : IsParts w 0 w.heap.size A n c xs := h.keep PartE.stays (fun _ _ _ => rfl) (Nat.zero_le _) hh

theorem low_atoms {w : World} {lo hi n c : Nat} {A : Option Addr} {xs : List At} (h : IsAtoms w lo hi A n c xs) (hh : hi ≤ w.heap.size) : IsAtoms w 0 w.heap.size A n c xs := h.keep AtomE.stays (fun _ _ _ => rfl) (Nat.zero_le _) hh

theorem ask_few_vars (xs : List Pt) : (askVarsB xs).length ≤ 12 := by
  cases hA : askB xs
  · unfold askVarsB; rw [hA]; simp
  · exact (ask_vars hA).2.1

theorem ask_rows_few (list : List At) (body : List Pt) : (askRowsB list body).length ≤ 1000000000000 := by
  unfold askRowsB
  split
  · rename_i h
    rw [Bool.and_eq_true] at h
    unfold sortR
    rw [(List.mergeSort_perm _ _).length_eq, List.length_map]
    exact rows_few h.1 h.2
  · simp

theorem refs_few {n : Nat} {l : List At} {rf : List Rf} {w : World} {lo hi : Nat} {A : Option Addr} (h : OwnRefs w lo hi A n n rf) (hm : rf.map rAt = l) (hn : SmallAtoms n l) : markN 1 rf ≤ 2 ^ 42 := by
  refine Nat.le_trans (markN_le 1048576 1 rf fun r hr => ?_) ?_
  · have h1 := hn.2 (rAt r) (by rw [← hm]; exact List.mem_map_of_mem hr)
    have h2 := (h.2.2.2.2.1 r hr).2.1.1
    have h3 : rN r = (rAt r).2.length := by unfold rN rAt; exact h2.symm
    rw [h3]; exact h1
  · have h1 := h.1
    have h2 := hn.1
    have h3 : rf.length * (1 + 2 * 1048576) ≤ 1048576 * (1 + 2 * 1048576) := Nat.mul_le_mul_right _ (by omega)
    omega

set_option maxRecDepth 100000 in
set_option maxHeartbeats 4000000 in
theorem exactAsk_any (A : Option Addr) (n c : Nat) (list : List At) (B : Option Addr) (m d : Nat) (body : List Pt) (w : World) (hA : IsAtoms w 0 w.heap.size A n c list) (hB : IsParts w 0 w.heap.size B m d body) :
    Calls Tryz.prog 3 #[.slice A n c, .slice B m d] w (BoolPost true w) := by
  have H := Lib.hid hA; have G := Lib.hid hB; clear hA hB
  obtain ⟨Ls, hls⟩ : ∃ Ls, askRowsB list body = Ls := ⟨_, rfl⟩
  have hw1 := ask_words (list := list) (body := body)
  have hw2 := ask_rows_len (list := list) (body := body)
  have hv12 := ask_few_vars body
  have hN12 := ask_rows_few list body
  rw [hls] at hN12
  rw [hls] at hw1 hw2
  obtain ⟨mm, hmm⟩ : ∃ mm, (askVarsB body).length = mm := ⟨_, rfl⟩
  rw [hmm] at hw2 hv12
  obtain ⟨N, hN⟩ : ∃ N, Ls.length = N := ⟨_, rfl⟩
  rw [hN] at hN12
  have HLS := Lib.hid hls; have HW1 := Lib.hid hw1; have HW2 := Lib.hid hw2; have HNN := Lib.hid hN
  clear hls hw1 hw2 hmm hN
  go_enter Tryz.func3, Tryz.ntmps3
  go_wp2_with fail
  refine (szAtomS_any _ _ _ list _ _ H.out (by omega) (by omega)).mono ?_; rintro e w1 ⟨y, ⟨rfl, ha, hb, hc⟩, hb1⟩
  go_wp2_with fail
  all_goals try (go_ret; exact ⟨rfl, hb1⟩)
  have HN := Lib.hid (hc (by assumption))
  have hy0 : 0 ≤ y := by assumption
  clear hc
  refine (szPartS_any _ _ _ body y _ (G.out.up PartE.stays hb1) hy0 (by omega)).mono ?_; rintro e w2 ⟨y2, ⟨rfl, ha2, hb2', hc2⟩, hb2⟩
  have HB2 := belowThen hb1 hb2
  clear hb1 hb2
  go_wp2_with fail
  all_goals try (go_ret; exact ⟨rfl, HB2⟩)
  have HM := Lib.hid (hc2 (by assumption))
  clear ha hb ha2 hb2' hc2
  refine (toAtomS_any _ _ _ list _ (H.out.up AtomE.stays HB2) HN.out).mono ?_; rintro e w3 ⟨g3, rfl, hg3, o3, hb3⟩
  have HB3 := belowThen HB2 hb3
  have HO3 := Lib.hid o3
  clear hb3 o3 HB2
  go_wp2_with fail
  refine (toPartS_any _ _ _ body _ (G.out.up PartE.stays HB3) HM.out).mono ?_; rintro e w4 ⟨g4, rfl, hg4, o4, hb4⟩
  have HB4 := belowThen HB3 hb4
  have HX3 := Lib.hid (low_atoms (HO3.out.below AtomE.stays hb4 (Nat.le_refl _)) hb4.size)
  have HX4 := Lib.hid (low_parts o4 (Nat.le_refl _))
  clear hb4 o4 HO3 HB3
  go_wp2_with fail
  refine (specAsk_any _ _ _ list _ _ _ body _ HX3.out HX4.out).mono ?_; rintro e w5 ⟨p5, c5, rfl, M5, hb5⟩
  rw [HLS.out, HNN.out] at M5 ⊢
  have HB5 := belowThen HB4 hb5
  have HM5 := Lib.hid M5
  clear hb5 HX3 HX4 M5 HB4
  go_wp2_with fail
  refine (toAtomS_own _ _ _ list _ (H.out.up AtomE.stays HB5) HN.out).mono ?_; rintro e w6 ⟨A6, rf, rfl, o6, hm6, hb6⟩
  have HB6 := belowThen HB5 hb6
  have HO6 := Lib.hid o6; have HR6 := Lib.hid hm6
  have HK6 := Lib.hid (refs_few o6 hm6 HN.out)
  have HM6 := Lib.hid (HM5.out.below RowE.stays hb6 (Nat.le_refl _))
  have z56 := hb6.size; have z05 := HB5.size
  clear hb6 o6 hm6 HM5 HB5
  go_wp2_with fail
  refine (toPartS_own _ _ _ body _ (G.out.up PartE.stays HB6) HM.out).mono ?_; rintro e w7 ⟨g7, rfl, hg7, o7, r7, hb7⟩
  have HB7 := belowThen HB6 hb7
  have HO7 := Lib.hid (HO6.out.below hb7 (Nat.le_refl _))
  have HP7 := Lib.hid (low_parts o7 (Nat.le_refl _)); have HR7 := Lib.hid r7
  have HM7 := Lib.hid (HM6.out.below RowE.stays hb7 z56)
  have z67 := hb7.size
  have HA7 := Lib.hid (show IsAtoms w7 0 w7.heap.size A6 n n list from by
    have h := low_atoms HO7.out.atoms hb7.size
    rwa [HR6.out] at h)
  clear hb7 o7 r7 HO6 HM6 HB6
  go_wp2_with fail
  refine (implAsk_any _ _ _ list _ _ _ body _ HA7.out HP7.out).mono ?_; rintro e w8 ⟨v, rs, rfl, hown, hrows, hb8⟩
  rw [HLS.out] at hown hrows
  obtain ⟨A8, c8, rfl, O8⟩ := ownRs_of hown hrows (Nat.le_refl _) HW2.out HW1.out
  rw [HNN.out] at O8 ⊢
  have Q8 := Lib.hid (show QLaw w w5.heap.size w6.heap.size w7.heap.size (some p5) N c5 Ls A6 n rf g7 m A8 c8 mm rs (fun j L => Ls[j]? = some L) w8 from ⟨belowThen HB7 hb8, z05, z56, z67, hb8.size, HM7.out.below RowE.stays hb8 (by omega), HO7.out.below hb8 z67, HR7.out.keep (fun x _ hx => hb8.block x hx), O8⟩)
  have HA8 := Lib.hid (HA7.out.up AtomE.stays hb8)
  have HP8 := Lib.hid (HP7.out.up PartE.stays hb8)
  clear hown hrows O8 hb8 HM7 HO7 HR7 HA7 HP7 HB7 z05 z56 z67 hg3 hg4 hg7
  go_wp2_with fail
  refine (eqStringSS_same _ _ _ _ _ _ Ls _ Q8.out.answer Q8.out.model).mono ?_; rintro e w9 ⟨rfl, hb9⟩
  have Q9 := Lib.hid (Q8.out.below hb9)
  have HA9 := Lib.hid (HA8.out.up AtomE.stays hb9)
  have HP9 := Lib.hid (HP8.out.up PartE.stays hb9)
  clear hb9 Q8 HA8 HP8
  go_wp2_with fail
  refine (toAtomS_any _ _ _ list _ (H.out.up AtomE.stays Q9.out.hb) HN.out).mono ?_; rintro e w10 ⟨g10, rfl, hg10, o10, hb10⟩
  have Q10 := Lib.hid (Q9.out.below hb10)
  have HA10 := Lib.hid (HA9.out.up AtomE.stays hb10)
  have HP10 := Lib.hid (HP9.out.up PartE.stays hb10)
  have HO10 := Lib.hid (low_atoms o10 (Nat.le_refl _))
  clear hb10 Q9 HA9 HP9 o10 hg10
  go_wp2_with fail
  refine (eqAtomS_any _ _ _ _ _ _ list list _ HA10.out HO10.out).mono ?_; rintro e w11 ⟨rfl, hb11⟩
  have Q11 := Lib.hid (Q10.out.below hb11)
  have HP11 := Lib.hid (HP10.out.up PartE.stays hb11)
  rw [listEq_refl atomEq_refl]
  clear hb11 Q10 HA10 HP10 HO10
  go_wp2_with fail
  refine (toPartS_any _ _ _ body _ (G.out.up PartE.stays Q11.out.hb) HM.out).mono ?_; rintro e w12 ⟨g12, rfl, hg12, o12, hb12⟩
  have Q12 := Lib.hid (Q11.out.below hb12)
  have HP12 := Lib.hid (HP11.out.up PartE.stays hb12)
  have HO12 := Lib.hid (low_parts o12 (Nat.le_refl _))
  clear hb12 Q11 HP11 o12 hg12
  go_wp2_with fail
  refine (eqPartS_any _ _ _ _ _ _ body body _ HP12.out HO12.out).mono ?_; rintro e w13 ⟨rfl, hb13⟩
  have Q13 := Lib.hid (Q12.out.below hb13)
  rw [listEq_refl partEq_refl]
  clear hb13 Q12 HP12 HO12
  obtain ⟨k14, hk14⟩ : ∃ k14, markN 1 rf = k14 := ⟨_, rfl⟩
  have hk14' : k14 ≤ 2 ^ 42 := by rw [← hk14]; exact HK6.out
  have HK14 := Lib.hid hk14
  clear hk14
  go_wp2_with fail
  refine (markAtomS_any _ _ A6 n n 1 rf _ Q13.out.X (Nat.le_trans Q13.out.h3 Q13.out.h4) (by rw [HK14.out]; exact Nat.le_trans hk14' (by decide))).mono ?_; rintro e w14 ⟨rfl, hX14, hw14⟩
  rw [HK14.out]
  have Q14 := Lib.hid (Q13.out.atoms hw14 hX14)
  clear hX14 hw14 Q13
  have hm20 := HM.out.1
  go_wp2_with fail
  refine (markPartS_own _ _ g7 m m k14 _ Q14.out.R Q14.out.h4 (by omega)).mono ?_; rintro e w15 ⟨⟨k15, rfl, hk15, _⟩, hR15, hw15⟩
  have Q15 := Lib.hid (Q14.out.parts hw15 hR15)
  clear hR15 hw15 Q14
  have hkn : ¬ (k15 : Int) < 0 := by omega
  go_wp2_with fail
  refine (eqStringSS_same _ _ _ _ _ _ Ls _ Q15.out.answer Q15.out.model).mono ?_; rintro e w16 ⟨rfl, hb16⟩
  have Q16 := Lib.hid (Q15.out.below hb16)
  clear hb16 Q15
  have hu2 : 1 + N * mm ≤ 2 ^ 62 := by
    have : N * mm ≤ N * 12 := Nat.mul_le_mul_left N hv12
    omega
  have hmark := markStringSS_any w7.heap.size A8 N c8 mm 1 rs w16 (Q16.out.O.any fun _ _ _ => trivial) hu2
  have hheld := fun W h => heldStringSS_any A8 N c8 1 mm W h hu2
  obtain ⟨u, hu⟩ : ∃ u, 1 + N * mm = u := ⟨_, rfl⟩
  rw [hu] at hmark hheld hu2
  have HMK := Lib.hid hmark; have HHE := Lib.hid hheld
  clear hmark hheld hu
  have hun : ¬ (u : Int) < 0 := by omega
  go_wp2_with fail
  refine HMK.out.mono ?_; rintro e w17 ⟨rfl, hO17, hw17⟩
  have Q17 := Lib.hid (Q16.out.rows hw17 hO17)
  clear hO17 hw17 Q16 HMK
  go_wp2_with fail
  refine (HHE.out _ Q17.out.O.marks).mono ?_; rintro e w18 ⟨rfl, hb18⟩
  have Q18 := Lib.hid (Q17.out.below hb18)
  clear hb18 Q17
  go_wp2_with fail
  refine (toAtomS_any _ _ _ list _ (H.out.up AtomE.stays Q18.out.hb) HN.out).mono ?_; rintro e w19 ⟨g19, rfl, hg19, o19, hb19⟩
  have Q19 := Lib.hid (Q18.out.below hb19)
  have HO19 := Lib.hid (low_atoms o19 (Nat.le_refl _))
  clear hb19 Q18 o19 hg19
  go_wp2_with fail
  refine (toPartS_any _ _ _ body _ (G.out.up PartE.stays Q19.out.hb) HM.out).mono ?_; rintro e w20 ⟨g20, rfl, hg20, o20, hb20⟩
  have Q20 := Lib.hid (Q19.out.below hb20)
  have HX20 := Lib.hid (HO19.out.up AtomE.stays hb20)
  have HO20 := Lib.hid (low_parts o20 (Nat.le_refl _))
  clear hb20 Q19 o20 hg20 HO19
  go_wp2_with fail
  refine (implAsk_any _ _ _ list _ _ _ body _ HX20.out HO20.out).mono ?_; rintro e w21 ⟨v, rs', rfl, hown, hrows, hb21⟩
  rw [HLS.out] at hown hrows
  obtain ⟨A21, c21, rfl, O21⟩ := ownRs_of hown hrows (Nat.zero_le _) HW2.out HW1.out
  rw [HNN.out] at O21 ⊢
  have Q21 := Lib.hid (Q20.out.below hb21)
  have HX21 := Lib.hid (O21.reads HNN.out fun _ _ _ e => e)
  clear hown hrows hb21 Q20 HX20 HO20 O21
  go_wp2_with fail
  refine (eqStringSS_same _ _ _ _ _ _ Ls _ HX21.out Q21.out.model).mono ?_; rintro e w22 ⟨rfl, hb22⟩
  have Q22 := Lib.hid (Q21.out.below hb22)
  clear hb22 Q21 HX21
  go_wp2_with fail
  refine (HHE.out _ Q22.out.O.marks).mono ?_; rintro e w23 ⟨rfl, hb23⟩
  have Q23 := Lib.hid (Q22.out.below hb23)
  clear hb23 Q22
  go_wp2
  go_ret; exact ⟨rfl, Q23.out.hb⟩

end Go.Proofs.YtcigljngiemdeaaGreat
