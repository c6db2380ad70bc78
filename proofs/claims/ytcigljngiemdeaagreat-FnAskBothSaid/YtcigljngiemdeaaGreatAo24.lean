/-
  Texts of one claim, put together.
-/
import Derived.Test.YtcigljngiemdeaaGreatAo0
import Derived.Test.YtcigljngiemdeaaGreatAo23
import Derived.Test.YtcigljngiemdeaaGreatAo39
import Derived.Test.YtcigljngiemdeaaGreatAo1
import Derived.Deep.QuietTactic
import Derived.BigQuiet
import Derived.Test.YtcigljngiemdeaaGreatAo2
import Derived.StillTailTactics
set_option maxRecDepth 100000
set_option maxHeartbeats 8000000
namespace Go.Proofs.YtcigljngiemdeaaGreat
open Go.RowKit
theorem getW_key : ∀ {b : Bd} {x : ByteArray}, getW b x = none ↔ x ∉ b.map (·.1)
  | [], x => by simp [getW]
  | q :: b, x => by
    rw [getW, List.map_cons, List.mem_cons]; split
    · rename_i h
      constructor
      · intro h'; cases h'
      · intro h'; exact absurd (Or.inl h.symm) h'
    · rename_i h
      rw [getW_key]; constructor
      · rintro h1 (h2 | h2)
        · exact h h2.symm
        · exact h1 h2
      · intro h1 h2; exact h1 (Or.inr h2)
noncomputable def addK (ks : List ByteArray) (t : Tm) : List ByteArray := open Classical in if t.1 = true ∧ t.2 ∉ ks then ks ++ [t.2] else ks
theorem matchT_keys : ∀ {ts us : List Tm} {b b' : Bd}, ts.length = us.length → matchT ts us b = some b' → b'.map (·.1) = ts.foldl addK (b.map (·.1)) ∧ ∃ l, b' = b ++ l
  | [], _, b, b', _, e => by
    rw [matchT_nil] at e; injection e with e; subst e
    exact ⟨rfl, [], by simp⟩
  | _ :: _, [], _, _, h, _ => by simp at h
  | t :: ts, u :: us, b, b', hl, e => by
    have hl' : ts.length = us.length := by simpa using hl
    rw [matchT] at e; rw [List.foldl_cons]; split at e
    · rename_i h
      obtain ⟨h1, l, h2⟩ := matchT_keys hl' e; refine ⟨?_, (t.2, u.2) :: l, by rw [h2]; simp⟩; rw [h1, List.map_append]; congr 1; unfold addK; rw [if_pos ⟨h.1, getW_key.1 h.2⟩]; rfl
    · rename_i h
      split at e
      · obtain ⟨h1, h2⟩ := matchT_keys hl' e
        refine ⟨?_, h2⟩; rw [h1]; congr 1; unfold addK; rw [if_neg fun h' => h ⟨h'.1, getW_key.2 h'.2⟩]
      · cases e
theorem matchA_keys {a f : At} {b b' : Bd} (e : matchA a f b = some b') : b'.map (·.1) = a.2.foldl addK (b.map (·.1)) ∧ ∃ l, b' = b ++ l := by
  unfold matchA at e; split at e
  · rename_i h; exact matchT_keys h.2 e
  · cases e
def KeysIn (V : List ByteArray) (b : Bd) : Prop := (b.map (·.1)).Nodup ∧ ∀ x ∈ b.map (·.1), x ∈ V
theorem keys_fold {V : List ByteArray} : ∀ {ts : List Tm} {ks : List ByteArray}, ks.Nodup → (∀ x ∈ ks, x ∈ V) → (∀ x, (true, x) ∈ ts → x ∈ V) → (ts.foldl addK ks).Nodup ∧ ∀ x ∈ ts.foldl addK ks, x ∈ V
  | [], ks, h, h', _ => ⟨h, h'⟩
  | t :: ts, ks, h, h', hv => by
    rw [List.foldl_cons]
    have : (addK ks t).Nodup ∧ ∀ x ∈ addK ks t, x ∈ V := by
      unfold addK; split
      · rename_i h1
        refine ⟨List.nodup_append.2 ⟨h, by simp, fun x hx y hy e => ?_⟩, fun x hx => ?_⟩
        · rw [List.mem_singleton.1 hy] at e
          exact h1.2 (e ▸ hx)
        · rcases List.mem_append.1 hx with hx | hx
          · exact h' x hx
          · rw [List.mem_singleton.1 hx]
            exact hv _ (by rw [show (true, t.2) = t from Prod.ext h1.1.symm rfl]; simp)
      · exact ⟨h, h'⟩
    exact keys_fold this.1 this.2 fun x hx => hv x (by simp [hx])
theorem KeysIn.on {V : List ByteArray} {a f : At} {b b' : Bd} (h : KeysIn V b) (hv : ∀ x, (true, x) ∈ a.2 → x ∈ V) (e : matchA a f b = some b') : KeysIn V b' := by
  unfold KeysIn; rw [(matchA_keys e).1]; exact keys_fold h.1 h.2 hv
theorem sub_len {α : Type} : ∀ {l m : List α}, l.Nodup → (∀ x ∈ l, x ∈ m) → l.length ≤ m.length
  | [], _, _, _ => by simp
  | x :: l, m, hd, h => by
    obtain ⟨d1, d2⟩ := List.nodup_cons.1 hd; obtain ⟨s, t, e⟩ := List.append_of_mem (h x qad)
    have := sub_len (l := l) (m := s ++ t) d2 fun y hy => by
      have := h y (by simp [hy]); rw [e] at this; rcases List.mem_append.1 this with k | k
      · exact List.mem_append.2 (.inl k)
      · rcases List.mem_cons.1 k with k | k
        · subst k; exact absurd hy d1
        · exact List.mem_append.2 (.inr k)
    rw [e]; rw [List.length_append] at this; rw [List.length_cons, List.length_append, List.length_cons]; omega
theorem KeysIn.room {V : List ByteArray} {b : Bd} (h : KeysIn V b) {x : ByteArray} (hx : getW b x = none) (hv : x ∈ V) : b.length < V.length := by
  have := sub_len (l := x :: b.map (·.1)) (m := V) (List.nodup_cons.2 ⟨getW_key.1 hx, h.1⟩) fun y hy => by
    rcases List.mem_cons.1 hy with e | e
    · rw [e]; exact hv
    · exact h.2 y e
  rw [List.length_cons, List.length_map] at this; omega
def rowT (vs : List ByteArray) (b : Bd) : List ByteArray := vs.map fun x => (getW b x).getD ByteArray.empty
theorem bd_back : ∀ {b : Bd}, (b.map (·.1)).Nodup → b = (b.map (·.1)).map fun x => (x, (getW b x).getD ByteArray.empty)
  | [], _ => rfl
  | q :: b, h => by
    rw [List.map_cons] at h; obtain ⟨d1, d2⟩ := List.nodup_cons.1 h; rw [List.map_cons, List.map_cons]; congr 1
    · rw [getW, if_pos rfl]; rfl
    · conv => lhs; rw [bd_back d2]
      refine List.map_congr_left fun x hx => ?_; rw [getW, if_neg]; intro e; rw [e] at d1; exact d1 hx
theorem row_inj {vs : List ByteArray} {b b' : Bd} (hd : (b.map (·.1)).Nodup) (hk : b'.map (·.1) = b.map (·.1)) (hv : ∀ x ∈ b.map (·.1), x ∈ vs) (h : rowT vs b = rowT vs b') : b = b' := by
  have h1 := bd_back hd; have h2 := bd_back (b := b') (by rw [hk]; exact hd); rw [h1, h2, hk]; refine List.map_congr_left fun x hx => ?_; unfold rowT at h; rw [List.map_inj_left.1 h x (hv x hx)]
theorem fold_keys {list : List At} : ∀ {ms : List Pt} {out : List Bd} {K : List ByteArray}, (∀ q ∈ ms, q.1 = false) → (∀ c ∈ out, c.map (·.1) = K) → ∀ b ∈ ms.foldl (stepB list) out, b.map (·.1) = ms.foldl (fun ks q => q.2.2.foldl addK ks) K
  | [], _, _, _, h, b, hb => h b hb
  | q :: ms, out, K, hq, h, b, hb => by
    rw [List.foldl_cons] at hb ⊢; refine fold_keys (out := stepB list out q) (fun r hr => hq r qch) (fun c hc => ?_) b hb; rw [show stepB list out q = out.flatMap (fitsL list q.2) by unfold stepB; rw [if_neg (by rw [hq q qad]; simp)]] at hc; obtain ⟨d, hd, hc⟩ := List.mem_flatMap.1 hc; obtain ⟨f, _, e⟩ := List.mem_filterMap.1 hc; rw [(matchA_keys e).1, h d hd]
theorem fits_nodup {list : List At} (hl : WordsAll list) (hd : list.Nodup) (a : At) (b : Bd) : (fitsL list a b).Nodup := by
  unfold fitsL; revert hl hd
  induction list with
  | nil => intro _ _; simp
  | cons f list ih =>
    intro hl hd; obtain ⟨d1, d2⟩ := List.nodup_cons.1 hd; have hl' : WordsAll list := fun g hg => hl g (by simp [hg]); rw [List.filterMap_cons]; split
    · exact ih hl' d2
    · rename_i b' e
      refine List.nodup_cons.2 ⟨fun hm => ?_, ih hl' d2⟩; obtain ⟨g, hg, e'⟩ := List.mem_filterMap.1 hm; have h1 := matchA_fill (hl f qad) e; have h2 := matchA_fill (hl' g hg) e'; exact d1 (by rw [← h1, h2]; exact hg)
theorem flat_nodup {α β : Type} {f : α → List β} : ∀ {xs : List α}, xs.Nodup → (∀ x ∈ xs, (f x).Nodup) → (∀ x ∈ xs, ∀ y ∈ xs, ∀ z, z ∈ f x → z ∈ f y → x = y) → (xs.flatMap f).Nodup
  | [], _, _, _ => by simp
  | x :: xs, hd, h1, h2 => by
    obtain ⟨d1, d2⟩ := List.nodup_cons.1 hd; rw [List.flatMap_cons]; refine List.nodup_append.2 ⟨h1 x qad, flat_nodup d2 (fun y hy => h1 y (by simp [hy])) (fun y hy z hz => h2 y (by simp [hy]) z (by simp [hz])), fun z hz z' hz' e => ?_⟩; subst e; obtain ⟨y, hy, hz'⟩ := List.mem_flatMap.1 hz'; exact d1 (h2 x qad y (by simp [hy]) z hz hz' ▸ hy)
theorem fold_nodup {list : List At} (hl : WordsAll list) (hd : list.Nodup) : ∀ {ms : List Pt} {out : List Bd} {K : List ByteArray}, (∀ q ∈ ms, q.1 = false) → (∀ c ∈ out, c.map (·.1) = K) → out.Nodup → (ms.foldl (stepB list) out).Nodup
  | [], _, _, _, _, h => h
  | q :: ms, out, K, hq, h, hn => by
    have e0 : stepB list out q = out.flatMap (fitsL list q.2) := by unfold stepB; rw [if_neg (by rw [hq q qad]; simp)]
    rw [List.foldl_cons]; refine fold_nodup hl hd (K := q.2.2.foldl addK K) (fun r hr => hq r qch) (fun c hc => ?_) ?_
    · rw [e0] at hc
      obtain ⟨d, hd', hc⟩ := List.mem_flatMap.1 hc; obtain ⟨f, _, e⟩ := List.mem_filterMap.1 hc; rw [(matchA_keys e).1, h d hd']
    · rw [e0]
      refine flat_nodup hn (fun c _ => fits_nodup hl hd q.2 c) fun c hc c' hc' z hz hz' => ?_; obtain ⟨_, _, e⟩ := List.mem_filterMap.1 hz; obtain ⟨_, _, e'⟩ := List.mem_filterMap.1 hz'; obtain ⟨_, l, hl1⟩ := matchA_keys e; obtain ⟨_, l', hl2⟩ := matchA_keys e'
      have hlen : c.length = c'.length := by
        have h1 := congrArg List.length (h c hc); have h2 := congrArg List.length (h c' hc'); rw [List.length_map] at h1 h2; omega
      rw [hl1] at hl2; exact (List.append_inj hl2 hlen).1
def mvarsOf (qs : List Pt) : List ByteArray := (musts qs).flatMap fun q => (q.2.2.filter (·.1)).map (·.2)
theorem rows_nodup {list : List At} (hl : WordsAll list) (hd : list.Nodup) {body : List Pt} {vs : List ByteArray} (hv : ∀ x, x ∈ mvarsOf body → x ∈ vs) : ((rowsB list body).map (rowT vs)).Nodup := by
  have hms : ∀ q ∈ musts body, q.1 = false := fun q hq => by
    have := (List.mem_filter.1 hq).2; simpa using this
  have hnd : (allB list body).Nodup := by
    unfold allB; rw [fold_musts]; exact fold_nodup hl hd (K := []) hms (fun c hc => by rw [List.mem_singleton.1 hc]; rfl) qad
  have hkeys : ∀ b ∈ allB list body, b.map (·.1) = (musts body).foldl (fun ks q => q.2.2.foldl addK ks) [] := by
    unfold allB; rw [fold_musts]; exact fold_keys hms fun c hc => by rw [List.mem_singleton.1 hc]; rfl
  have hK : ∀ (ms : List Pt) (ks : List ByteArray), (∀ q ∈ ms, q ∈ musts body) → ks.Nodup → (∀ x ∈ ks, x ∈ mvarsOf body) → (ms.foldl (fun ks q => q.2.2.foldl addK ks) ks).Nodup ∧ ∀ x ∈ ms.foldl (fun ks q => q.2.2.foldl addK ks) ks, x ∈ mvarsOf body := by
    intro ms
    induction ms with
    | nil => intro ks _ h h'; exact ⟨h, h'⟩
    | cons q ms ih =>
      intro ks hm h h'; rw [List.foldl_cons]
      have := keys_fold (V := mvarsOf body) (ts := q.2.2) h h' fun x hx => by
        unfold mvarsOf; exact List.mem_flatMap.2 ⟨q, hm q qad, List.mem_map.2 ⟨(true, x), List.mem_filter.2 ⟨hx, rfl⟩, rfl⟩⟩
      exact ih _ (fun r hr => hm r qch) this.1 this.2
  obtain ⟨k1, k2⟩ := hK (musts body) [] (fun q hq => hq) qad (fun x hx => by simp at hx); have hrn : (rowsB list body).Nodup := by unfold rowsB; exact hnd.filter _
  refine List.pairwise_map.2 (List.Pairwise.imp_of_mem (fun {b b'} hb hb' hne e => ?_) hrn); have hb1 := (List.mem_filter.1 hb).1; have hb2 := (List.mem_filter.1 hb').1; refine hne (row_inj (vs := vs) ?_ ?_ (fun x hx => ?_) e)
  · rw [hkeys b hb1]; exact k1
  · rw [hkeys b hb1, hkeys b' hb2]
  · rw [hkeys b hb1] at hx; exact hv x (k2 x hx)
structure BdIn (w : World) (g : Nat) (b : Bd) : Prop where
  few : b.length ≤ 12
  at1 : ∀ j q, b[j]? = some q → w.cell? ⟨g, j * 2, none⟩ = some (.string q.1)
  at2 : ∀ j q, b[j]? = some q → w.cell? ⟨g, j * 2 + 1, none⟩ = some (.string q.2)
  count : w.cell? ⟨g, 24, none⟩ = some (.int .i64 b.length)
  room : ∀ j, j < 25 → w.frozen? ⟨g, j, none⟩ = false ∧ ∃ x, w.cell? ⟨g, j, none⟩ = some x
theorem BdIn.keep {w w' : World} {g : Nat} {b : Bd} (h : BdIn w g b) (hc : ∀ j, w'.cell? ⟨g, j, none⟩ = w.cell? ⟨g, j, none⟩) (hf : ∀ j, w'.frozen? ⟨g, j, none⟩ = w.frozen? ⟨g, j, none⟩) : BdIn w' g b :=
  ⟨h.few, fun j q hq => (hc _).trans (h.at1 j q hq), fun j q hq => (hc _).trans (h.at2 j q hq), (hc _).trans h.count, fun j hj => by rw [hf, hc]; exact h.room j hj⟩
def knownB (b : Bd) (t : Tm) : Bool := !t.1 || (getW b t.2).isSome
theorem implWordOf_any (g : Nat) (b : Bd) (t : Tm) (w : World) (h : BdIn w g b) (hg : g < w.heap.size) :
    Calls Tryz.prog 91 #[.pointer (some ⟨g, 0, none⟩), .agg #[.bool t.1, .string t.2]] w fun e w' => e = .returned (.tuple #[.string (wordT b t), .bool (knownB b t)]) ∧ Below w.heap.size w w' := by
  obtain ⟨tv, x⟩ := t; have H := hid h; clear h; have hw0 := below1 w (.cells #[.bool tv, .string x] 59); have X0 := hid (Box.new w (.bool tv) (.string x) 59); go_enter Tryz.func91, Tryz.ntmps91
  cases tv with
  | false =>
    go_wp2
    refine bodyPost_ret (v := .tuple #[.string x, .bool true]) qbm rfl ⟨rfl, hw0⟩
  | true =>
    have HG := hid hg; have hc := (hw0.cell (p := ⟨g, 24, none⟩) hg).trans H.out.count; have hfew := H.out.few; go_wp2; go_loopw [16] (fun i wr => ∃ k : Nat, k ≤ b.length ∧ i = .int .i64 k ∧ (∀ j r, j < k → b[j]? = some r → r.1 ≠ x) ∧ Below (w.alloc (.cells #[.bool true, .string x] 59)).heap.size (w.alloc (.cells #[.bool true, .string x] 59)) wr) (fun i _ => b.length - (intOf i).toNat)
    case atStart => exact ⟨0, Nat.zero_le _, rfl, fun j r hj => absurd hj (Nat.not_lt_zero _), Below.refl _ _⟩
    case round =>
      obtain ⟨k, hk, rfl, hl, hb⟩ := hrel; have HL := hid hl; clear hl; have HB := belowThen hw0 hb; obtain ⟨b0, b1, b2⟩ := X0.out.later hb; by_cases hlt : k < b.length
      · have hltI : (k : Int) < (b.length : Int) := qaa
        obtain ⟨q, hq⟩ : ∃ q, b[k]? = some q := ⟨_, List.getElem?_eq_getElem hlt⟩; have x1 := (HB.cell (p := ⟨g, k * 2, none⟩) HG.out).trans (H.out.at1 k q hq); have x2 := (HB.cell (p := ⟨g, k * 2 + 1, none⟩) HG.out).trans (H.out.at2 k q hq); have HQ := hid hq; clear hq; cases he : (q.1.toList == x.toList)
        · have hne : q.1 ≠ x := fun e => by rw [e] at he; simp at he
          have HNE := hid hne; clear hne; go_wp2_with fail; go_quiet (fail); go_wp2; go_roundw
          case rel => exact ⟨k + 1, by omega, by go_num, fun j r hj hr => by
            by_cases e : j = k
            · subst e; rw [HQ.out] at hr; injection hr with hr; rw [← hr]; exact HNE.out
            · exact HL.out j r qaa hr, belowDrewN hb _⟩
          case measure => exact qms
        · have hxq : q.1 = x := bytesEq qbc
          have hv := hid (getW_hit (x := x) HL.out HQ.out hxq); clear hxq; go_wp2_with fail; go_quiet (fail); go_wp2; refine bodyPost_ret (v := .tuple #[.string q.2, .bool true]) qbm rfl ⟨?_, belowDrewN HB _⟩; have h1 : wordT b (true, x) = q.2 := by unfold wordT; rw [if_pos rfl, hv.out]; rfl
          have h2 : knownB b (true, x) = true := by unfold knownB; rw [hv.out]; rfl
          rw [h1, h2]
      · have hv := hid (getW_none (b := b) (x := x) (fun q hq => by
          obtain ⟨j, hj⟩ := List.getElem?_of_mem hq; have := (List.getElem?_eq_some_iff.1 hj).1; exact HL.out j q qaa hj))
        go_wp2; refine bodyPost_ret (v := .tuple #[.string ⟨#[]⟩, .bool false]) qbm rfl ⟨?_, HB⟩; have h1 : wordT b (true, x) = ⟨#[]⟩ := by unfold wordT; rw [if_pos rfl, hv.out]; rfl
        have h2 : knownB b (true, x) = false := by unfold knownB; rw [hv.out]; rfl
        rw [h1, h2]
theorem implKindOf_any (nm : ByteArray) (A : Option Addr) (n c : Nat) (w : World) :
    Calls Tryz.prog 131 #[.agg #[.string nm, .slice A n c]] w fun e w' => e = .returned (.agg #[.string nm, .int .i64 n]) ∧ Below w.heap.size w w' := by
  have X0 := hid (Box.new w (.string nm) (.slice A n c) 49); have hw0 := below1 w (.cells #[.string nm, .slice A n c] 49); go_enter Tryz.func131, Tryz.ntmps131; go_wp2; refine bodyPost_ret (v := .agg #[.string nm, .int .i64 n]) (by simp [results, Tryz.results131, go_sem]) rfl ⟨rfl, ?_⟩; exact belowThen hw0 (below1 _ _)
def wordAt (ts : List Tm) (i : Nat) : ByteArray := match ts[i]? with | some t => t.2 | none => ⟨#[]⟩
def factV (a : At) : Value := .agg #[.string a.1, .int .i64 a.2.length, .string (wordAt a.2 0), .string (wordAt a.2 1), .string (wordAt a.2 2)]
def noFact : Value := .agg #[.string ⟨#[]⟩, .int .i64 0, .string ⟨#[]⟩, .string ⟨#[]⟩, .string ⟨#[]⟩]
structure FO (w : World) (Q : Nat) (nm : ByteArray) (A : Option Addr) (n c : Nat) (us : List Tm) (W : World) : Prop where
  xa : Blk W w.heap.size 49 #[.string nm, .slice A n c]
  xr : Blk W (w.heap.size + 1) 143 #[.string ⟨#[]⟩, .int .i64 0, .string ⟨#[]⟩, .string ⟨#[]⟩, .string ⟨#[]⟩]
  xf : Blk W Q 143 #[.string nm, .int .i64 n, .string (wordAt us 0), .string (wordAt us 1), .string (wordAt us 2)]
  gr : Below w.heap.size w W
theorem FO.below {w W W' : World} {Q : Nat} {nm : ByteArray} {A : Option Addr} {n c : Nat} {us : List Tm} (h : FO w Q nm A n c us W) (hb : Below W.heap.size W W') : FO w Q nm A n c us W' :=
  ⟨h.xa.below hb, h.xr.below hb, h.xf.below hb, h.gr.trans (hb.mono h.gr.size)⟩
theorem wordAt_snoc (us : List Tm) (u : Tm) (i : Nat) : wordAt (us ++ [u]) i = if i = us.length then u.2 else wordAt us i := by
  unfold wordAt; by_cases h : i < us.length
  · rw [List.getElem?_append_left h, if_neg qaa]
  · by_cases e : i = us.length
    · rw [if_pos e, e, List.getElem?_append_right (nl _), Nat.sub_self]; rfl
    · rw [if_neg e, List.getElem?_eq_none (by rw [List.length_append]; simp; omega), List.getElem?_eq_none qaa]
theorem FO.more {w W : World} {Q : Nat} {nm : ByteArray} {A : Option Addr} {n c k : Nat} {us us' : List Tm} {u : Tm} (h : FO w Q nm A n c us W) (hQ : w.heap.size + 2 ≤ Q) (hl : us.length = k) (hk : k < 3) (hu : us' = us ++ [u]) : FO w Q nm A n c us' (W.setCell ⟨Q, 2 + k, none⟩ (.string u.2)) := by
  subst hu; refine ⟨h.xa.far (by show w.heap.size ≠ Q; omega) _, h.xr.far (by show w.heap.size + 1 ≠ Q; omega) _, ?_, h.gr.setCell (by show w.heap.size ≤ Q; omega) _⟩; have h1 := h.xf.set (2 + k) (.string u.2); rw [wordAt_snoc, wordAt_snoc, wordAt_snoc, hl]; have hk3 : k = 0 ∨ k = 1 ∨ k = 2 := qaa; rcases hk3 with e | e | e <;> subst e <;> simpa using h1
theorem whole_known (b : Bd) (a : At) : wholeB b a = a.2.all (knownB b) := by
  unfold wholeB knownB; congr 1; funext t; cases t.1 <;> cases getW b t.2 <;> rfl
theorem implFactOf_any (g : Nat) (b : Bd) (nm : ByteArray) (A : Option Addr) (n c : Nat) (ts : List Tm) (w : World) (h : BdIn w g b) (hg : g < w.heap.size) (hT : IsTerms w 0 w.heap.size A n c ts) (h3 : n ≤ 3) :
    Calls Tryz.prog 94 #[.pointer (some ⟨g, 0, none⟩), .agg #[.string nm, .slice A n c]] w fun e w' => e = .returned (.tuple #[if wholeB b (nm, ts) = true then factV (fillA (nm, ts) b) else noFact, .bool (wholeB b (nm, ts))]) ∧ Below w.heap.size w w' := by
  obtain ⟨V, hV⟩ : ∃ V, Value.tuple #[if wholeB b (nm, ts) = true then factV (fillA (nm, ts) b) else noFact, .bool (wholeB b (nm, ts))] = V := ⟨_, rfl⟩; rw [hV]; have HV := hid hV; have HN := hid hT.1; have H := hid h; have HT := hid hT; have HG := hid hg; clear h hT hg hV; have X0 := hid (Box.new w (.string nm) (.slice A n c) 49); have hw0 := below1 w (.cells #[.string nm, .slice A n c] 49); go_enter Tryz.func94, Tryz.ntmps94; go_wp2_with fail
  refine (implKindOf_any nm A n c _).mono ?_; rintro e w1 ⟨rfl, hb1⟩; have hsz : w.heap.size + 2 ≤ w1.heap.size := by have := hb1.size; simpa using this
  have xa := (((Blk.new w 49 #[.string nm, .slice A n c]).alloc (.cells #[.string ⟨#[]⟩, .int .i64 0, .string ⟨#[]⟩, .string ⟨#[]⟩, .string ⟨#[]⟩] 143)).below hb1).alloc (.cells #[.string nm, .int .i64 n, .string ⟨#[]⟩, .string ⟨#[]⟩, .string ⟨#[]⟩] 143); have xr := ((Blk.made (b := w.heap.size + 1) (w.alloc (.cells #[.string nm, .slice A n c] 49)) 143 #[.string ⟨#[]⟩, .int .i64 0, .string ⟨#[]⟩, .string ⟨#[]⟩, .string ⟨#[]⟩] qad).below hb1).alloc (.cells #[.string nm, .int .i64 n, .string ⟨#[]⟩, .string ⟨#[]⟩, .string ⟨#[]⟩] 143)
  have xf := Blk.new w1 143 #[.string nm, .int .i64 n, .string ⟨#[]⟩, .string ⟨#[]⟩, .string ⟨#[]⟩]; obtain ⟨x0, x1, x2⟩ := (X0.out.later (below1 _ _)).later hb1; have hgr : Below w.heap.size w (w1.alloc (.cells #[.string nm, .int .i64 n, .string ⟨#[]⟩, .string ⟨#[]⟩, .string ⟨#[]⟩] 143)) := belowThen (belowThen (belowThen hw0 (below1 _ _)) hb1) (below1 _ _); have HM0 := hid (show FO w w1.heap.size nm A n c [] _ from ⟨xa, xr, xf, hgr⟩); have hQ : w.heap.size + 2 ≤ w1.heap.size := hsz; clear xa xr xf hgr; go_wp2; clear X0 hw0 hb1 x0 x1 x2 hsz
  obtain ⟨Q, hQQ⟩ : ∃ Q, w1.heap.size = Q := ⟨_, rfl⟩; rw [hQQ] at HM0 hQ ⊢; go_loopw [17] (fun i wr => ∃ k : Nat, k ≤ n ∧ i = .int .i64 (k : Int) ∧ (∀ j t, j < k → ts[j]? = some t → knownB b t = true) ∧ FO w Q nm A n c ((ts.take k).map (fillT b)) wr) (fun i _ => n - (intOf i).toNat)
  case atStart => exact ⟨0, Nat.zero_le _, rfl, fun j t hj => absurd hj (Nat.not_lt_zero _), HM0.out⟩
  case round =>
    clear HM0; obtain ⟨k, hk, rfl, hl, hM⟩ := hrel; have HL := hid hl; clear hl; have HM := hid hM; have hb := hM.gr; clear hM; by_cases hlt : k < n
    · have hltI : (k : Int) < (n : Int) := qaa
      obtain ⟨p, t, hA, _, _, hg, z1, z2, _⟩ := (HT.out.up hb).at_ hlt; subst hA; have HGT := hid hg; clear hg; go_wp2_with fail; have hb4 := belowThen hb (below1 wr (.cells #[.bool t.1, .string t.2] 59)); refine (implWordOf_any g b t _ (H.out.keep (fun j => hb4.cell HG.out) (fun j => hb4.frozen HG.out)) qdd).mono ?_; rintro e w5 ⟨rfl, hb5⟩; have HM5 := hid ((HM.out.below (below1 wr (.cells #[.bool t.1, .string t.2] 59))).below hb5); clear HM hb4 z1 z2 hb; have y0 := HM5.out.xr.cell 0; have y1 := HM5.out.xr.cell 1; have y2 := HM5.out.xr.cell 2; have y3 := HM5.out.xr.cell 3; have y4 := HM5.out.xr.cell 4
      simp at y0 y1 y2 y3 y4; have f0 := HM5.out.xr.frozen; have g0 := HM5.out.xf.frozen
      cases hkn : knownB b t with
      | false =>
        have hw : wholeB b (nm, ts) = false := by
          rw [whole_known]
          cases ha : List.all ts (knownB b) with
          | false => rfl
          | true =>
            rw [List.all_eq_true.1 ha t (List.mem_of_getElem? HGT.out)] at hkn; cases hkn
        have HVF := hid (show V = .tuple #[noFact, .bool false] by rw [← HV.out, hw]; rfl); clear hw; go_wp2_with fail; have xr5 := ((((HM5.out.xr.set 0 (.string ⟨#[]⟩)).set 1 (.int .i64 0)).set 2 (.string ⟨#[]⟩)).set 3 (.string ⟨#[]⟩)).set 4 (.string ⟨#[]⟩); have v0 := xr5.cell 0; have v1 := xr5.cell 1; have v2 := xr5.cell 2; have v3 := xr5.cell 3; have v4 := xr5.cell 4; simp at v0 v1 v2 v3 v4; have hgr := ((((HM5.out.gr.setCell (p := ⟨w.heap.size + 1, 0, none⟩) (Nat.le_succ _) (.string ⟨#[]⟩)).setCell (p := ⟨w.heap.size + 1, 1, none⟩) (Nat.le_succ _) (.int .i64 0)).setCell (p := ⟨w.heap.size + 1, 2, none⟩) (Nat.le_succ _) (.string ⟨#[]⟩)).setCell (p := ⟨w.heap.size + 1, 3, none⟩) (Nat.le_succ _) (.string ⟨#[]⟩)).setCell (p := ⟨w.heap.size + 1, 4, none⟩) (Nat.le_succ _) (.string ⟨#[]⟩)
        refine bodyPost_ret (v := .tuple #[noFact, .bool false]) (by unfold noFact; simp [results, Tryz.results94, go_sem, v0, v1, v2, v3, v4]) rfl ⟨by rw [HVF.out], hgr⟩
      | true =>
        have hv : ∃ s, w5.cell? ⟨Q, 2 + k, none⟩ = some (.string s) := by
          have hk3 : k = 0 ∨ k = 1 ∨ k = 2 := qaa; rcases hk3 with e | e | e <;> subst e
          · exact ⟨_, HM5.out.xf.cell 2⟩
          · exact ⟨_, HM5.out.xf.cell 3⟩
          · exact ⟨_, HM5.out.xf.cell 4⟩
        obtain ⟨s, hs⟩ := hv; go_wp2; have hus : (ts.take (k + 1)).map (fillT b) = (ts.take k).map (fillT b) ++ [fillT b t] := by rw [List.take_add_one, HGT.out, List.map_append]; rfl
        have hul : ((ts.take k).map (fillT b)).length = k := by rw [List.length_map, List.length_take, HN.out]; omega
        refine ⟨⟨k + 1, by omega, by go_num, fun j u hj hu => ?_, HM5.out.more hQ hul qaa hus⟩, by simp [intOf]; omega⟩; by_cases e : j = k
        · subst e; rw [HGT.out] at hu; injection hu with hu; rw [← hu]; exact hkn
        · exact HL.out j u qaa hu
    · have hkn : k = n := qaa
      subst hkn
      have hw : wholeB b (nm, ts) = true := by
        rw [whole_known]; refine List.all_eq_true.2 fun t ht => ?_; obtain ⟨j, hj⟩ := List.getElem?_of_mem ht; exact HL.out j t (by have h7 : j < ts.length := (List.getElem?_eq_some_iff.1 hj).1; have := HN.out; omega) hj
      have hts : ts.take k = ts := List.take_of_length_le qcj
      have hV2 : V = .tuple #[.agg #[.string nm, .int .i64 k, .string (wordAt (ts.map (fillT b)) 0), .string (wordAt (ts.map (fillT b)) 1), .string (wordAt (ts.map (fillT b)) 2)], .bool true] := by
        rw [← HV.out, hw, if_pos rfl]; have : (fillA (nm, ts) b).2.length = k := by show (ts.map (fillT b)).length = k; rw [List.length_map]; exact HN.out
        unfold factV; rw [this]; rfl
      have HVF := hid hV2; have HM5 := hid (hts ▸ HM.out); have g0 := HM5.out.xf.cell 0; have g1 := HM5.out.xf.cell 1; have g2 := HM5.out.xf.cell 2; have g3 := HM5.out.xf.cell 3; have g4 := HM5.out.xf.cell 4; have y0 := HM5.out.xr.cell 0; have y1 := HM5.out.xr.cell 1; have y2 := HM5.out.xr.cell 2; have y3 := HM5.out.xr.cell 3; have y4 := HM5.out.xr.cell 4; have f0 := HM5.out.xr.frozen; simp at g0 g1 g2 g3 g4 y0 y1 y2 y3 y4; clear hV2 hw HM; go_wp2_with fail; obtain ⟨s0, hs0⟩ : ∃ s0, wordAt (ts.map (fillT b)) 0 = s0 := ⟨_, rfl⟩; obtain ⟨s1, hs1⟩ : ∃ s1, wordAt (ts.map (fillT b)) 1 = s1 := ⟨_, rfl⟩; obtain ⟨s2, hs2⟩ : ∃ s2, wordAt (ts.map (fillT b)) 2 = s2 := ⟨_, rfl⟩
      rw [hs0, hs1, hs2] at HVF ⊢; have xr5 := ((((HM5.out.xr.set 0 (.string nm)).set 1 (.int .i64 k)).set 2 (.string s0)).set 3 (.string s1)).set 4 (.string s2); have v0 := xr5.cell 0; have v1 := xr5.cell 1; have v2 := xr5.cell 2; have v3 := xr5.cell 3; have v4 := xr5.cell 4; simp at v0 v1 v2 v3 v4; have hgr := ((((HM5.out.gr.setCell (p := ⟨w.heap.size + 1, 0, none⟩) (Nat.le_succ _) (.string nm)).setCell (p := ⟨w.heap.size + 1, 1, none⟩) (Nat.le_succ _) (.int .i64 k)).setCell (p := ⟨w.heap.size + 1, 2, none⟩) (Nat.le_succ _) (.string s0)).setCell (p := ⟨w.heap.size + 1, 3, none⟩) (Nat.le_succ _) (.string s1)).setCell (p := ⟨w.heap.size + 1, 4, none⟩) (Nat.le_succ _) (.string s2)
      refine bodyPost_ret (v := .tuple #[.agg #[.string nm, .int .i64 k, .string s0, .string s1, .string s2], .bool true]) (by simp [results, Tryz.results94, go_sem, v0, v1, v2, v3, v4]) rfl ⟨by rw [HVF.out], hgr⟩
def noWords : Array Value := #[.string ⟨#[]⟩, .string ⟨#[]⟩, .string ⟨#[]⟩, .string ⟨#[]⟩, .string ⟨#[]⟩, .string ⟨#[]⟩, .string ⟨#[]⟩, .string ⟨#[]⟩, .string ⟨#[]⟩, .string ⟨#[]⟩, .string ⟨#[]⟩, .string ⟨#[]⟩, .string ⟨#[]⟩, .string ⟨#[]⟩, .string ⟨#[]⟩, .string ⟨#[]⟩, .string ⟨#[]⟩, .string ⟨#[]⟩, .string ⟨#[]⟩, .string ⟨#[]⟩, .string ⟨#[]⟩, .string ⟨#[]⟩, .string ⟨#[]⟩, .string ⟨#[]⟩, .int .i64 0]
theorem blk_noWords {W : World} {g : Nat} {t : TypeId} (h : Blk W g t noWords) : BdIn W g [] := by
  refine ⟨by simp, fun j q hq => by simp at hq, fun j q hq => by simp at hq, ?_, fun j hj => ⟨h.frozen j, ?_⟩⟩
  · rw [h.cell 24]; rfl
  · rw [h.cell j]
    exact ⟨_, Array.getElem?_eq_getElem (show j < (noWords).size by show j < 25; exact hj)⟩
theorem fill_const {ts : List Tm} {b : Bd} (h : ∀ t ∈ ts, t.1 = false) : ts.map (fillT b) = ts := by
  conv => rhs; rw [← List.map_id ts]
  refine List.map_congr_left fun t ht => ?_; have := h t ht; unfold fillT wordT; rw [this]; exact Prod.ext this.symm rfl
theorem implFactOf0_any (nm : ByteArray) (A : Option Addr) (n c : Nat) (ts : List Tm) (w : World) (hT : IsTerms w 0 w.heap.size A n c ts) (h3 : n ≤ 3) (hw : ∀ t ∈ ts, t.1 = false) :
    Calls Tryz.prog 93 #[.agg #[.string nm, .slice A n c]] w fun e w' => e = .returned (factV (nm, ts)) ∧ Below w.heap.size w w' := by
  have HT := hid hT; have HW := hid hw; clear hT hw; have X0 := hid (Box.new w (.string nm) (.slice A n c) 49); have hw0 := below1 w (.cells #[.string nm, .slice A n c] 49); obtain ⟨b0, b1, b2⟩ := X0.out; go_enter Tryz.func93, Tryz.ntmps93; go_wp2_with fail; obtain ⟨w2, hq2⟩ : ∃ w2, (w.alloc (.cells #[.string nm, .slice A n c] 49)).alloc (.cells #[.string ⟨#[]⟩, .int .i64 0, .string ⟨#[]⟩, .string ⟨#[]⟩, .string ⟨#[]⟩] 143) = w2 := ⟨_, rfl⟩
  have hz2 : w2.heap.size = w.heap.size + 2 := by rw [← hq2]; simp
  have hb2 : Below w.heap.size w w2 := by rw [← hq2]; exact belowThen hw0 (below1 _ _)
  have xr := Blk.made (b := w.heap.size + 1) (w.alloc (.cells #[.string nm, .slice A n c] 49)) 143 #[.string ⟨#[]⟩, .int .i64 0, .string ⟨#[]⟩, .string ⟨#[]⟩, .string ⟨#[]⟩] qad; rw [hq2] at xr ⊢; have hbd := blk_noWords (Blk.made (b := w.heap.size + 1 + 1) w2 86 noWords hz2.symm); have hb3 := belowThen hb2 (below1 w2 (.cells noWords 86)); have xr3 := xr.alloc (.cells noWords 86); refine (implFactOf_any (w.heap.size + 1 + 1) [] nm A n c ts _ hbd qaf (HT.out.up hb3) h3).mono ?_; rintro e w4 ⟨he, hb4⟩
  have hwh : wholeB [] (nm, ts) = true := by
    rw [whole_known]; refine List.all_eq_true.2 fun t ht => ?_; unfold knownB; rw [HW.out t ht]; rfl
  rw [hwh, if_pos rfl, show fillA (nm, ts) [] = (nm, ts) from Prod.ext rfl (fill_const HW.out)] at he; subst he; have xr4 := xr3.below hb4; have hgr := hb3.trans (hb4.mono hb3.size); have HV : factV (nm, ts) = .agg #[.string nm, .int .i64 ts.length, .string (wordAt ts 0), .string (wordAt ts 1), .string (wordAt ts 2)] := rfl; rw [HV]; obtain ⟨s0, hs0⟩ : ∃ s0, wordAt ts 0 = s0 := ⟨_, rfl⟩; obtain ⟨s1, hs1⟩ : ∃ s1, wordAt ts 1 = s1 := ⟨_, rfl⟩; obtain ⟨s2, hs2⟩ : ∃ s2, wordAt ts 2 = s2 := ⟨_, rfl⟩; rw [hs0, hs1, hs2]; have y0 := xr4.cell 0; have y1 := xr4.cell 1; have y2 := xr4.cell 2; have y3 := xr4.cell 3; have y4 := xr4.cell 4
  have f0 := xr4.frozen; simp at y0 y1 y2 y3 y4; have h14 : w.heap.size + 1 < w4.heap.size := xr4.lt; go_wp2_with fail; have xr5 := (((((xr4.set 0 (.string nm)).set 1 (.int .i64 ts.length)).set 2 (.string s0)).set 3 (.string s1)).set 4 (.string s2)).alloc (.cells #[.string nm, .int .i64 ts.length, .string s0, .string s1, .string s2] 143); have v0 := xr5.cell 0; have v1 := xr5.cell 1; have v2 := xr5.cell 2; have v3 := xr5.cell 3; have v4 := xr5.cell 4; simp at v0 v1 v2 v3 v4; have hgr5 := belowThen (((((hgr.setCell (p := ⟨w.heap.size + 1, 0, none⟩) (Nat.le_succ _) (.string nm)).setCell (p := ⟨w.heap.size + 1, 1, none⟩) (Nat.le_succ _) (.int .i64 ts.length)).setCell (p := ⟨w.heap.size + 1, 2, none⟩) (Nat.le_succ _) (.string s0)).setCell (p := ⟨w.heap.size + 1, 3, none⟩) (Nat.le_succ _) (.string s1)).setCell (p := ⟨w.heap.size + 1, 4, none⟩) (Nat.le_succ _) (.string s2)) (below1 _ (.cells #[.string nm, .int .i64 ts.length, .string s0, .string s1, .string s2] 143))
  refine bodyPost_ret (v := .agg #[.string nm, .int .i64 ts.length, .string s0, .string s1, .string s2]) (by simp [results, Tryz.results93, go_sem, v0, v1, v2, v3, v4]) rfl ⟨by rw [HV, hs0, hs1, hs2], hgr5⟩
theorem indexTerm_any (A : Option Addr) (n c : Nat) (ts : List Tm) (t : Tm) (w : World) (hT : IsTerms w 0 w.heap.size A n c ts) :
    Calls Tryz.prog 200 #[.slice A n c, .agg #[.bool t.1, .string t.2]] w fun e w' => (∃ k : Int, e = .returned (.int .i64 k) ∧ ((0 ≤ k ∧ t ∈ ts) ∨ (k = -1 ∧ t ∉ ts))) ∧ Below w.heap.size w w' := by
  have hc1 := hT.2.1; have hm1 := hT.2.2.1; unfold maxLen at hm1; have HT := hid hT; have HN := hid hT.1; clear hT; have X0 := hid (Box.new w (.bool t.1) (.string t.2) 59); have hw0 := below1 w (.cells #[.bool t.1, .string t.2] 59); go_enter Tryz.func200, Tryz.ntmps200; go_wp2; go_loopw [8] (fun i wr => ∃ k : Nat, k ≤ n ∧ i = .int .i64 k ∧ (∀ j r, j < k → ts[j]? = some r → r ≠ t) ∧ Below (w.alloc (.cells #[.bool t.1, .string t.2] 59)).heap.size (w.alloc (.cells #[.bool t.1, .string t.2] 59)) wr) (fun i _ => n - (intOf i).toNat)
  case atStart => exact ⟨0, Nat.zero_le _, rfl, fun j r hj => absurd hj (Nat.not_lt_zero _), Below.refl _ _⟩
  case round =>
    obtain ⟨k, hk, rfl, hl, hb⟩ := hrel; have HL := hid hl; clear hl; have HB := belowThen hw0 hb; obtain ⟨b0, b1, b2⟩ := X0.out.later hb; by_cases hlt : k < n
    · have hltI : (k : Int) < (n : Int) := qaa
      obtain ⟨p, u, hA, _, _, hg, z1, z2, _⟩ := (HT.out.up HB).at_ hlt; subst hA; have HG := hid hg; clear hg; by_cases he : u = t
      · have hin : t ∈ ts := he ▸ List.mem_of_getElem? HG.out
        subst he; have HIN := hid hin; clear hin; go_wp2_with fail; go_quiet (fail); go_wp2; go_ret; exact ⟨⟨k, rfl, .inl ⟨by omega, HIN.out⟩⟩, belowDrewN HB _⟩
      · have HNE := hid he
        clear he; obtain ⟨uv, ux⟩ := u; by_cases hx : t.2 = ux
        · have hv : (t.1 == uv) = false := by
            cases h1 : (t.1 == uv) with
            | false => rfl
            | true => exact absurd (Prod.ext (eq_of_beq h1).symm hx.symm) HNE.out
          subst hx; go_wp2_with fail; go_quiet ((trace_state; fail)); go_wp2; go_roundw
          case rel => exact ⟨k + 1, by omega, by go_num, fun j r hj hr => by
            by_cases e : j = k
            · subst e; rw [HG.out] at hr; injection hr with hr; rw [← hr]; exact HNE.out
            · exact HL.out j r qaa hr, belowDrewN hb _⟩
          case measure => exact qms
        · have hx2 : (t.2.toList == ux.toList) = false := by
            cases h1 : (t.2.toList == ux.toList) with
            | false => rfl
            | true => exact absurd (bytesEq (by have h2 := eq_of_beq h1; rwa [ByteArray.toList_eq, ByteArray.toList_eq] at h2)) hx
          clear hx; go_wp2_with fail; go_quiet ((trace_state; fail)); go_wp2; go_roundw
          case rel => exact ⟨k + 1, by omega, by go_num, fun j r hj hr => by
            by_cases e : j = k
            · subst e; rw [HG.out] at hr; injection hr with hr; rw [← hr]; exact HNE.out
            · exact HL.out j r qaa hr, belowDrewN hb _⟩
          case measure => exact qms
    · have hno : t ∉ ts := fun hm => by
        obtain ⟨j, hj⟩ := List.getElem?_of_mem hm; have h7 : j < ts.length := (List.getElem?_eq_some_iff.1 hj).1; exact HL.out j t qcj hj rfl
      have HNO := hid hno; clear hno; go_wp2; go_ret; exact ⟨⟨-1, rfl, .inr ⟨rfl, HNO.out⟩⟩, HB⟩
def hasT (ts : List Tm) (t : Tm) : Bool := ts.any fun u => decide (u = t)
theorem hasT_yes {ts : List Tm} {t : Tm} (h : t ∈ ts) : hasT ts t = true := List.any_eq_true.2 ⟨t, h, decide_eq_true rfl⟩
theorem hasT_no {ts : List Tm} {t : Tm} (h : t ∉ ts) : hasT ts t = false := by
  cases hh : hasT ts t with
  | false => rfl
  | true =>
    obtain ⟨u, h1, h2⟩ := List.any_eq_true.1 hh; exact absurd (of_decide_eq_true h2 ▸ h1) h
theorem containsTerm_any (A : Option Addr) (n c : Nat) (ts : List Tm) (t : Tm) (w : World) (hT : IsTerms w 0 w.heap.size A n c ts) :
    Calls Tryz.prog 194 #[.slice A n c, .agg #[.bool t.1, .string t.2]] w fun e w' => e = .returned (.bool (hasT ts t)) ∧ Below w.heap.size w w' := by
  have HT := hid hT; clear hT; have X0 := hid (Box.new w (.bool t.1) (.string t.2) 59); have hw0 := below1 w (.cells #[.bool t.1, .string t.2] 59); obtain ⟨b0, b1, b2⟩ := X0.out; go_enter Tryz.func194, Tryz.ntmps194; go_wp2_with fail; refine (indexTerm_any A n c ts t _ (HT.out.up hw0)).mono ?_; rintro e w1 ⟨⟨k, rfl, hk⟩, hb1⟩; rcases hk with ⟨h1, h2⟩ | ⟨h1, h2⟩
  · have HY := hid (hasT_yes h2)
    clear h2; have hge : (0 : Int) ≤ k := h1; go_wp2; go_ret; exact ⟨by rw [HY.out]; rfl, belowThen hw0 hb1⟩
  · have HY := hid (hasT_no h2)
    clear h2; subst h1; go_wp2; go_ret; exact ⟨by rw [HY.out]; rfl, belowThen hw0 hb1⟩
theorem share_snoc {b : Bd} {ts : List Tm} {a : At} {k : Nat} (h : ∀ j t, j < k → ts[j]? = some t → (!knownB b t && hasT a.2 t) = false) (hk : ts.length ≤ k) (nm : ByteArray) : shareB b (nm, ts) a = false := by
  cases hs : shareB b (nm, ts) a with
  | false => rfl
  | true =>
    obtain ⟨t, h1, h2⟩ := List.any_eq_true.1 hs; obtain ⟨j, hj⟩ := List.getElem?_of_mem h1; have h7 : j < ts.length := (List.getElem?_eq_some_iff.1 hj).1; have h3 := h j t qaa hj
    have h4 : (!knownB b t && hasT a.2 t) = true := by
      rw [← h2]; unfold knownB hasT; cases t.1 <;> cases getW b t.2 <;> rfl
    rw [h3] at h4; cases h4
theorem share_hit {b : Bd} {ts : List Tm} {a : At} {t : Tm} (h : t ∈ ts) (h' : (!knownB b t && hasT a.2 t) = true) (nm : ByteArray) : shareB b (nm, ts) a = true := by
  refine List.any_eq_true.2 ⟨t, h, ?_⟩; rw [← h']; unfold knownB hasT; cases t.1 <;> cases getW b t.2 <;> rfl
theorem shareOpen_any (g : Nat) (b : Bd) (nm nm' : ByteArray) (A : Option Addr) (n c : Nat) (ts : List Tm) (B : Option Addr) (m d : Nat) (us : List Tm) (w : World) (h : BdIn w g b) (hg : g < w.heap.size)
    (hT : IsTerms w 0 w.heap.size A n c ts) (hU : IsTerms w 0 w.heap.size B m d us) :
    Calls Tryz.prog 173 #[.pointer (some ⟨g, 0, none⟩), .agg #[.string nm, .slice A n c], .agg #[.string nm', .slice B m d]] w fun e w' => e = .returned (.bool (shareB b (nm, ts) (nm', us))) ∧ Below w.heap.size w w' := by
  have hc1 := hT.2.1; have hm1 := hT.2.2.1; unfold maxLen at hm1; have HN := hid hT.1; have H := hid h; have HT := hid hT; have HU := hid hU; have HG := hid hg; clear h hT hU hg; have hw0 := below2 w (.cells #[.string nm, .slice A n c] 49) (.cells #[.string nm', .slice B m d] 49); have xa := (Blk.new w 49 #[.string nm, .slice A n c]).alloc (.cells #[.string nm', .slice B m d] 49); have xb := Blk.made (b := w.heap.size + 1) (w.alloc (.cells #[.string nm, .slice A n c] 49)) 49 #[.string nm', .slice B m d] qad
  obtain ⟨w2, hq2⟩ : ∃ w2, (w.alloc (.cells #[.string nm, .slice A n c] 49)).alloc (.cells #[.string nm', .slice B m d] 49) = w2 := ⟨_, rfl⟩; rw [hq2] at hw0 xa xb; have z0 := xa.cell 0; have z1 := xa.cell 1; simp at z0 z1; have XB := hid xb; have HW := hid hw0; have HQ2 := hid hq2; clear xa xb hq2 hw0; go_enter Tryz.func173, Tryz.ntmps173; go_wp2_with (rw [HQ2.out]); go_loopw [14] (fun i wr => ∃ k : Nat, k ≤ n ∧ i = .int .i64 (k : Int) ∧ (∀ j t, j < k → ts[j]? = some t → (!knownB b t && hasT us t) = false) ∧ Below w2.heap.size w2 wr) (fun i _ => n - (intOf i).toNat)
  case atStart => exact ⟨0, Nat.zero_le _, rfl, fun j t hj => absurd hj (Nat.not_lt_zero _), Below.refl _ _⟩
  case round =>
    clear HQ2 z0 z1; obtain ⟨k, hk, rfl, hl, hb⟩ := hrel; have HL := hid hl; clear hl; have hgr := belowThen HW.out hb; have hx := XB.out.below hb; by_cases hlt : k < n
    · have hltI : (k : Int) < (n : Int) := qaa
      obtain ⟨p, t, hA, _, _, hgt, z1, z2, _⟩ := (HT.out.up hgr).at_ hlt; subst hA; have HGT := hid hgt; clear hgt; go_wp2_with fail; have hb4 := belowThen hgr (below1 wr (.cells #[.bool t.1, .string t.2] 59)); refine (implWordOf_any g b t _ (H.out.keep (fun j => hb4.cell HG.out) (fun j => hb4.frozen HG.out)) qdd).mono ?_; rintro e w5 ⟨rfl, hb5⟩; have hxt := (Blk.new wr 59 #[.bool t.1, .string t.2]).below hb5; have hx5 := (hx.alloc (.cells #[.bool t.1, .string t.2] 59)).below hb5; have hgr5 := hb4.trans (hb5.mono hb4.size)
      have hbw5 : Below w2.heap.size w2 w5 := (belowThen hb (below1 wr (.cells #[.bool t.1, .string t.2] 59))).trans (hb5.mono (belowThen hb (below1 wr (.cells #[.bool t.1, .string t.2] 59))).size); have q0 := hxt.cell 0; have q1 := hxt.cell 1; have q2 := hx5.cell 1; simp at q0 q1 q2; clear z1 z2 hb4 hb5 hgr hb
      cases hkn : knownB b t with
      | true =>
        go_wp2; refine ⟨⟨k + 1, by omega, by go_num, fun j u hj hu => ?_, hbw5⟩, by simp [intOf]; omega⟩; by_cases e : j = k
        · subst e; rw [HGT.out] at hu; injection hu with hu; rw [← hu, hkn]; rfl
        · exact HL.out j u qaa hu
      | false =>
        go_wp2_with fail; refine (containsTerm_any B m d us t _ (HU.out.up hgr5)).mono ?_; rintro e w6 ⟨rfl, hb6⟩; have hgr6 := belowThen hgr5 hb6; have hbw6 := belowThen hbw5 hb6; clear q0 q1 q2 hxt hx5
        cases hc : hasT us t with
        | true =>
          have HY := hid (share_hit (b := b) (a := (nm', us)) (List.mem_of_getElem? HGT.out) (show (!knownB b t && hasT us t) = true by rw [hkn, hc]; rfl) nm); go_wp2; go_ret
          exact ⟨by rw [HY.out]; rfl, hgr6⟩
        | false =>
          go_wp2; refine ⟨⟨k + 1, by omega, by go_num, fun j u hj hu => ?_, hbw6⟩, by simp [intOf]; omega⟩; by_cases e : j = k
          · subst e; rw [HGT.out] at hu; injection hu with hu; rw [← hu, hc, Bool.and_false]
          · exact HL.out j u qaa hu
    · have hno := share_snoc (a := (nm', us)) (fun j t hj => HL.out j t qaa) (Nat.le_of_eq HN.out) nm
      have HNO := hid hno; clear hno; go_wp2; go_ret; exact ⟨by rw [HNO.out]; rfl, hgr⟩
structure FarG (g : Nat) (w w' : World) : Prop where
  os : w'.os = w.os
  tape : w'.tape = w.tape
  output : w'.output = w.output
  size : w.heap.size ≤ w'.heap.size
  block : ∀ k, k < w.heap.size → k ≠ g → w'.heap[k]? = w.heap[k]?
theorem FarG.refl (g : Nat) (w : World) : FarG g w w := ⟨rfl, rfl, rfl, nl _, fun _ _ _ => rfl⟩
theorem FarG.trans {g : Nat} {a b c : World} (h : FarG g a b) (k : FarG g b c) : FarG g a c :=
  ⟨k.os.trans h.os, k.tape.trans h.tape, k.output.trans h.output, Nat.le_trans h.size k.size, fun i hi hg => (k.block i (Nat.lt_of_lt_of_le hi h.size) hg).trans (h.block i hi hg)⟩
theorem FarG.of_below {g : Nat} {w w' : World} (h : Below w.heap.size w w') : FarG g w w' := ⟨h.os, h.tape, h.output, h.size, fun k hk _ => h.block k hk⟩
theorem FarG.drew {g : Nat} {w w' : World} (h : FarG g w w') : FarG g w w'.drew := ⟨h.os, h.tape, h.output, h.size, h.block⟩
theorem FarG.setCell {g : Nat} {w w' : World} (h : FarG g w w') {p : Addr} (hp : p.block = g) (u : Value) : FarG g w (w'.setCell p u) :=
  ⟨h.os, h.tape, h.output, by rw [size_setCell]; exact h.size, fun k hk hg => (hs_ _ _ _ k (by rw [hp]; exact hg)).trans (h.block k hk hg)⟩
theorem FarG.below {g : Nat} {w w' : World} (h : FarG g w w') (hg : g ≤ w.heap.size) : Below g w w' := ⟨h.os, h.tape, h.output, h.size, fun k hk => h.block k (Nat.lt_of_lt_of_le hk hg) qaa⟩
theorem cell_set {w : World} {p q : Addr} {u : Value} (hx : ∃ x, w.cell? p = some x) : (w.setCell p u).cell? q = if q = p then some u else w.cell? q := by
  obtain ⟨x, hx⟩ := hx; by_cases h : q = p
  · rw [if_pos h, h]; exact World.cell?_setCell_same (h := hx) ..
  · rw [if_neg h]; exact World.cell?_setCell_other (h := fun e => h e.symm) ..
theorem addr_ne {g i j : Nat} (h : i ≠ j) : (⟨g, i, none⟩ : Addr) ≠ ⟨g, j, none⟩ := fun e => h qck
theorem BdIn.push {w : World} {g : Nat} {b : Bd} (h : BdIn w g b) (hl : b.length < 12) (x v : ByteArray) :
    BdIn (((w.setCell ⟨g, b.length * 2, none⟩ (.string x)).setCell ⟨g, b.length * 2 + 1, none⟩ (.string v)).setCell ⟨g, 24, none⟩ (.int .i64 (b.length + 1))) g (b ++ [(x, v)]) := by
  have r1 := (h.room (b.length * 2) qaa).2
  have r2 : ∃ y, (w.setCell ⟨g, b.length * 2, none⟩ (.string x)).cell? ⟨g, b.length * 2 + 1, none⟩ = some y := by
    rw [cell_set r1, if_neg (addr_ne qaa)]; exact (h.room _ qaa).2
  have r3 : ∃ y, ((w.setCell ⟨g, b.length * 2, none⟩ (.string x)).setCell ⟨g, b.length * 2 + 1, none⟩ (.string v)).cell? ⟨g, 24, none⟩ = some y := by
    rw [cell_set r2, if_neg (addr_ne qaa), cell_set r1, if_neg (addr_ne qaa)]; exact (h.room _ qaa).2
  have hc : ∀ j, (((w.setCell ⟨g, b.length * 2, none⟩ (.string x)).setCell ⟨g, b.length * 2 + 1, none⟩ (.string v)).setCell ⟨g, 24, none⟩ (.int .i64 (b.length + 1))).cell? ⟨g, j, none⟩ = if j = 24 then some (.int .i64 (b.length + 1)) else if j = b.length * 2 + 1 then some (.string v) else if j = b.length * 2 then some (.string x) else w.cell? ⟨g, j, none⟩ := by
    intro j; rw [cell_set r3, cell_set r2, cell_set r1]; by_cases e1 : j = 24
    · rw [if_pos (by rw [e1]), if_pos e1]
    · rw [if_neg (addr_ne e1), if_neg e1]
      by_cases e2 : j = b.length * 2 + 1
      · rw [if_pos (by rw [e2]), if_pos e2]
      · rw [if_neg (addr_ne e2), if_neg e2]
        by_cases e3 : j = b.length * 2
        · rw [if_pos (by rw [e3]), if_pos e3]
        · rw [if_neg (addr_ne e3), if_neg e3]
  refine ⟨by rw [List.length_append]; simp; omega, fun j q hq => ?_, fun j q hq => ?_, ?_, fun j hj => ⟨?_, ?_⟩⟩
  · have hj : j < (b ++ [(x, v)]).length := (List.getElem?_eq_some_iff.1 hq).1
    rw [List.length_append] at hj; simp at hj; rw [hc, if_neg qaa, if_neg qaa]; by_cases e : j = b.length
    · rw [if_pos qaa]
      rw [e, List.getElem?_append_right (nl _), Nat.sub_self] at hq; simp at hq; rw [← hq]
    · rw [if_neg qaa]
      rw [List.getElem?_append_left qaa] at hq; exact h.at1 j q hq
  · have hj : j < (b ++ [(x, v)]).length := (List.getElem?_eq_some_iff.1 hq).1
    rw [List.length_append] at hj; simp at hj; rw [hc, if_neg qaa]; by_cases e : j = b.length
    · rw [if_pos qaa]
      rw [e, List.getElem?_append_right (nl _), Nat.sub_self] at hq; simp at hq; rw [← hq]
    · rw [if_neg qaa, if_neg qaa]
      rw [List.getElem?_append_left qaa] at hq; exact h.at2 j q hq
  · rw [hc, if_pos rfl, List.length_append]; simp
  · simp only [World.frozen?_setCell]; exact (h.room j hj).1
  · rw [hc]
    split
    · exact ⟨_, rfl⟩
    · split
      · exact ⟨_, rfl⟩
      · split
        · exact ⟨_, rfl⟩
        · exact (h.room j hj).2
theorem BdIn.back {w : World} {g : Nat} {b l : Bd} (h : BdIn w g (b ++ l)) : BdIn (w.setCell ⟨g, 24, none⟩ (.int .i64 b.length)) g b := by
  have hf := h.few; rw [List.length_append] at hf; have r := (h.room 24 qaa).2; refine ⟨by omega, fun j q hq => ?_, fun j q hq => ?_, ?_, fun j hj => ⟨?_, ?_⟩⟩
  · have hj := (List.getElem?_eq_some_iff.1 hq).1
    rw [cell_set r, if_neg (addr_ne qaa)]; exact h.at1 j q (by rw [List.getElem?_append_left hj]; exact hq)
  · have hj := (List.getElem?_eq_some_iff.1 hq).1
    rw [cell_set r, if_neg (addr_ne qaa)]; exact h.at2 j q (by rw [List.getElem?_append_left hj]; exact hq)
  · rw [cell_set r, if_pos rfl]
  · simp only [World.frozen?_setCell]; exact (h.room j hj).1
  · rw [cell_set r]
    split
    · exact ⟨_, rfl⟩
    · exact (h.room j hj).2
theorem KeysIn.snoc {V : List ByteArray} {b : Bd} {x v : ByteArray} (h : KeysIn V b) (hx : getW b x = none) (hv : x ∈ V) : KeysIn V (b ++ [(x, v)]) := by
  unfold KeysIn; rw [List.map_append]; refine ⟨List.nodup_append.2 ⟨h.1, by simp, fun y hy z hz e => ?_⟩, fun y hy => ?_⟩
  · have h1 : z = x := by simpa using hz
    subst e; subst h1; exact getW_key.1 hx hy
  · rcases List.mem_append.1 hy with h1 | h1
    · exact h.2 y h1
    · have h1 : y = x := by simpa using h1
      rw [h1]; exact hv
def MatchPost (g : Nat) (b : Bd) (r : Option Bd) (w : World) (e : Ending) (w' : World) : Prop := e = .returned (.bool r.isSome) ∧ FarG g w w' ∧ ∃ l, BdIn w' g (b ++ l) ∧ (∀ b', r = some b' → b' = b ++ l)
theorem implMatch_any (V : List ByteArray) (g : Nat) (b : Bd) (nm : ByteArray) (A : Option Addr) (n c : Nat) (ts : List Tm) (f : At) (w : World) (h : BdIn w g b) (hg : g < w.heap.size) (hT : IsTerms w 0 g A n c ts) (h3 : n ≤ 3)
    (hf : f.2.length = n) (hV : V.length ≤ 12) (hk : KeysIn V b) (hv : ∀ x, (true, x) ∈ ts → x ∈ V) :
    Calls Tryz.prog 97 #[.pointer (some ⟨g, 0, none⟩), .agg #[.string nm, .slice A n c], factV f] w (MatchPost g b (matchT ts f.2 b) w) := by
  obtain ⟨fn, us⟩ := f; have HU := hid hf; have HV := hid hV; have HK := hid hk; have HVV := hid hv; have H := hid h; have HT := hid hT; have HN := hid hT.1; have HG := hid hg; clear h hT hf hg hk hv hV; unfold factV; have hlen : (fn, us).2.length = n := HU.out; rw [hlen]; show Calls _ _ #[_, _, .agg #[.string fn, .int .i64 n, .string (wordAt us 0), .string (wordAt us 1), .string (wordAt us 2)]] _ _; have hw0 := below2 w (.cells #[.string nm, .slice A n c] 49) (.cells #[.string fn, .int .i64 n, .string (wordAt us 0), .string (wordAt us 1), .string (wordAt us 2)] 143)
  have xa := (Blk.new w 49 #[.string nm, .slice A n c]).alloc (.cells #[.string fn, .int .i64 n, .string (wordAt us 0), .string (wordAt us 1), .string (wordAt us 2)] 143); have xb := Blk.made (b := w.heap.size + 1) (w.alloc (.cells #[.string nm, .slice A n c] 49)) 143 #[.string fn, .int .i64 n, .string (wordAt us 0), .string (wordAt us 1), .string (wordAt us 2)] qad; obtain ⟨w2, hq2⟩ : ∃ w2, (w.alloc (.cells #[.string nm, .slice A n c] 49)).alloc (.cells #[.string fn, .int .i64 n, .string (wordAt us 0), .string (wordAt us 1), .string (wordAt us 2)] 143) = w2 := ⟨_, rfl⟩
  rw [hq2] at hw0 xa xb; have z0 := xa.cell 0; have z1 := xa.cell 1; simp at z0 z1; have XB := hid xb; have HW := hid hw0; have HQ2 := hid hq2; clear xa xb hq2 hw0; go_enter Tryz.func97, Tryz.ntmps97; go_wp2_with (rw [HQ2.out]); go_loopw [14] (fun i wr => ∃ (k : Nat) (l : Bd), k ≤ n ∧ i = .int .i64 (k : Int) ∧ BdIn wr g (b ++ l) ∧ KeysIn V (b ++ l) ∧ matchT ts us b = matchT (ts.drop k) (us.drop k) (b ++ l) ∧ FarG g w wr ∧ Blk wr (w.heap.size + 1) 143 #[.string fn, .int .i64 n, .string (wordAt us 0), .string (wordAt us 1), .string (wordAt us 2)]) (fun i _ => n - (intOf i).toNat)
  case atStart => exact ⟨0, [], Nat.zero_le _, rfl, by rw [List.append_nil]; exact H.out.keep (fun j => HW.out.cell HG.out) (fun j => HW.out.frozen HG.out), by rw [List.append_nil]; exact HK.out, by simp, FarG.of_below HW.out, XB.out⟩
  case round =>
    clear HQ2 z0 z1; obtain ⟨k, l, hk, rfl, hb, hkey, hm, hfar, hx⟩ := hrel; have HB := hid hb; have HKey := hid hkey; have HM := hid hm; have HF := hid hfar; have HX := hid hx; clear hb hkey hm hx; obtain ⟨bl, hbl⟩ : ∃ bl, b ++ l = bl := ⟨_, rfl⟩; rw [hbl] at HB HKey HM; have HBL := hid hbl; clear hbl; obtain ⟨L, hL⟩ : ∃ L, bl.length = L := ⟨_, rfl⟩; have HL := hid hL; clear hL; by_cases hlt : k < n
    · have hltI : (k : Int) < (n : Int) := qaa
      have hgb : Below g w wr := hfar.below (Nat.le_of_lt HG.out); obtain ⟨p, t, hA, _, hpb, hgt, z1, z2, _⟩ := (HT.out.below hgb (nl _)).at_ hlt; subst hA; have HGT := hid hgt; clear hgt; obtain ⟨u, hu⟩ : ∃ u, us[k]? = some u := ⟨_, List.getElem?_eq_getElem (by have h7 : us.length = n := HU.out; omega)⟩; have HUK := hid hu; clear hu; go_wp2_with fail; have hgs : g < wr.heap.size := Nat.lt_of_lt_of_le HG.out hfar.size; have hb4 := below1 wr (.cells #[.bool t.1, .string t.2] 59); have hB4 := HB.out.keep (w' := wr.alloc (.cells #[.bool t.1, .string t.2] 59)) (fun j => hb4.cell hgs) (fun j => hb4.frozen hgs)
      refine (implWordOf_any g bl t _ hB4 (by have := hb4.size; omega)).mono ?_; rintro e w5 ⟨rfl, hb5⟩; have hgs4 : g < (wr.alloc (.cells #[.bool t.1, .string t.2] 59)).heap.size := by have := hb4.size; omega
      have HB5 := hid (hB4.keep (fun j => hb5.cell hgs4) (fun j => hb5.frozen hgs4)); have HX5 := hid ((HX.out.alloc (.cells #[.bool t.1, .string t.2] 59)).below hb5); have hxt := (Blk.new wr 59 #[.bool t.1, .string t.2]).below hb5; have HF5 := hid (HF.out.trans (FarG.of_below (belowThen hb4 hb5))); have q0 := hxt.cell 0; have q1 := hxt.cell 1; simp at q0 q1
      have hfk : w5.cell? ⟨w.heap.size + 1, 2 + k, none⟩ = some (.string u.2) := by
        have e0 : wordAt us k = u.2 := by unfold wordAt; rw [HUK.out]
        have hk3 : k = 0 ∨ k = 1 ∨ k = 2 := qaa; rcases hk3 with e | e | e <;> subst e <;> rw [← e0]
        · exact HX5.out.cell 2
        · exact HX5.out.cell 3
        · exact HX5.out.cell 4
      have hcnt : w5.cell? ⟨g, 24, none⟩ = some (.int .i64 L) := by rw [← HL.out]; exact HB5.out.count
      have hk12 : (k : Int) < 3 := qaa; clear z1 z2 hb4 hB4 hb5 hgs4 hxt hfar
      cases hkn : knownB bl t with
      | true =>
        have hkw : ¬ (t.1 = true ∧ getW bl t.2 = none) := fun ⟨h1, h2⟩ => by unfold knownB at hkn; rw [h1, h2] at hkn; simp at hkn
        have HKW := hid hkw; clear hkw; by_cases hwu : wordT bl t = u.2
        · have HWU := hid hwu
          rw [hwu]; clear hwu; go_wp2; refine ⟨⟨k + 1, l, by omega, by go_num, by rw [HBL.out]; exact HB5.out, by rw [HBL.out]; exact HKey.out, by rw [HBL.out, HM.out]; exact matchT_same HGT.out HUK.out HKW.out HWU.out, HF5.out, HX5.out⟩, by simp [intOf]; omega⟩
        · have hne : ((wordT bl t).toList == u.2.toList) = false := by
            cases h1 : ((wordT bl t).toList == u.2.toList) with
            | false => rfl
            | true => exact absurd (bytesEq (by have h2 := eq_of_beq h1; rwa [ByteArray.toList_eq, ByteArray.toList_eq] at h2)) hwu
          have HNO := hid (show matchT ts us b = none by rw [HM.out]; exact matchT_no HGT.out HUK.out HKW.out hwu); obtain ⟨s, hs⟩ : ∃ s, wordT bl t = s := ⟨_, rfl⟩; rw [hs] at hne ⊢; clear hs hwu; go_wp2; go_ret
          exact ⟨by rw [HNO.out]; rfl, HF5.out, l, by rw [HBL.out]; exact HB5.out, fun b' hb' => by rw [HNO.out] at hb'; cases hb'⟩
      | false =>
        have ht1 : t.1 = true := by
          cases h1 : t.1 with
          | true => rfl
          | false => unfold knownB at hkn; rw [h1] at hkn; simp at hkn
        have htn : getW bl t.2 = none := by
          cases h1 : getW bl t.2 with
          | none => rfl
          | some y => unfold knownB at hkn; rw [h1] at hkn; simp at hkn
        have hroom := HKey.out.room htn (HVV.out t.2 (by rw [show (true, t.2) = t from Prod.ext ht1.symm rfl]; exact List.mem_of_getElem? HGT.out)); rw [HL.out] at hroom; have hL12 : (L : Int) < 12 := by have := HV.out; omega
        have HT1 := hid ht1; have HTN := hid htn; have HR := hid hroom; clear ht1 htn hroom; go_wp2_with fail; go_still_tail 15, qae; change wpList _ _ _ _ _ w5.drew; obtain ⟨w6, hq6⟩ : ∃ w6, w5.drew = w6 := ⟨_, rfl⟩; have HB6 : Hid (BdIn w6 g bl) := hid (by rw [← hq6]; exact HB5.out.keep (fun _ => rfl) (fun _ => rfl)); have HX6 : Hid (Blk w6 (w.heap.size + 1) 143 #[.string fn, .int .i64 n, .string (wordAt us 0), .string (wordAt us 1), .string (wordAt us 2)]) := hid (by rw [← hq6]; exact HX5.out); have HF6 : Hid (FarG g w w6) := hid (by rw [← hq6]; exact HF5.out.drew)
        rw [hq6]; clear hq6 hcnt q0 q1 hfk; have hcnt : w6.cell? ⟨g, 24, none⟩ = some (.int .i64 L) := by rw [← HL.out]; exact HB6.out.count
        obtain ⟨s1, hs1⟩ := (HB6.out.room (L * 2) qci).2; obtain ⟨s2, hs2⟩ := (HB6.out.room (L * 2 + 1) qci).2; have fr1 := (HB6.out.room (L * 2) qci).1; have fr2 := (HB6.out.room (L * 2 + 1) qci).1; have fr3 := (HB6.out.room 24 qaa).1; have e24 : ¬ (L * 2 = 24) := qci; have e25 : ¬ (L * 2 + 1 = 24) := qaa; go_wp2_with fail; have hpush := HB6.out.push qec t.2 u.2; rw [HL.out] at hpush; have hass : b ++ (l ++ [(t.2, u.2)]) = bl ++ [(t.2, u.2)] := by rw [← List.append_assoc, HBL.out]
        have hne : w.heap.size + 1 ≠ g := by have := HG.out; omega
        refine ⟨⟨k + 1, l ++ [(t.2, u.2)], by omega, by go_num, ?_, ?_, ?_, ?_, ?_⟩, by simp [intOf]; omega⟩
        · rw [hass]; exact hpush
        · rw [hass]; exact HKey.out.snoc HTN.out (HVV.out t.2 (by rw [show (true, t.2) = t from Prod.ext HT1.out.symm rfl]; exact List.mem_of_getElem? HGT.out))
        · rw [hass, HM.out]; exact matchT_free HGT.out HUK.out HT1.out HTN.out
        · exact ((HF6.out.setCell rfl _).setCell rfl _).setCell rfl _
        · exact ((HX6.out.far hne _).far hne _).far hne _
    · have hkn : k = n := qaa
      have hend : matchT ts us b = some bl := by rw [HM.out]; exact matchT_end qcj
      have HE := hid hend; clear hend; go_wp2; go_ret; exact ⟨by rw [HE.out]; rfl, HF.out, l, by rw [HBL.out]; exact HB.out, fun b' hb' => by rw [HE.out] at hb'; injection hb' with hb'; rw [← hb', HBL.out]⟩
end Go.Proofs.YtcigljngiemdeaaGreat
