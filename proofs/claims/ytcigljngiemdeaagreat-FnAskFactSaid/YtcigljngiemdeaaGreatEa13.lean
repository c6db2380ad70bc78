/-
  Texts of one claim, put together.
-/
import Derived.Test.YtcigljngiemdeaaGreatEa11
import Derived.Test.YtcigljngiemdeaaGreatBindGet
import Derived.Test.YtcigljngiemdeaaGreatEa2
import Derived.Deep.QuietTactic
import Derived.BigQuiet
import Derived.Test.YtcigljngiemdeaaGreatEa4
namespace Go.Proofs.YtcigljngiemdeaaGreat
open Go.RowKit

theorem getW_key : ∀ {b : Bd} {x : ByteArray}, getW b x = none ↔ x ∉ b.map (·.1)
  | [], x => by simp [getW]
  | q :: b, x => by
    rw [getW, List.map_cons, List.mem_cons]
    split
    · rename_i h
      constructor
      · intro h'; cases h'
      · intro h'; exact absurd (Or.inl h.symm) h'
    · rename_i h
      rw [getW_key]
      constructor
      · rintro h1 (h2 | h2)
        · exact h h2.symm
        · exact h1 h2
      · intro h1 h2; exact h1 (Or.inr h2)

/-- The variables that have words once an atom was held against a fact. -/
noncomputable def addK (ks : List ByteArray) (t : Tm) : List ByteArray := open Classical in if t.1 = true ∧ t.2 ∉ ks then ks ++ [t.2] else ks

theorem matchT_keys : ∀ {ts us : List Tm} {b b' : Bd}, ts.length = us.length → matchT ts us b = some b' → b'.map (·.1) = ts.foldl addK (b.map (·.1)) ∧ ∃ l, b' = b ++ l
  | [], _, b, b', _, e => by
    rw [matchT_nil] at e; injection e with e; subst e
    exact ⟨rfl, [], by simp⟩
  | _ :: _, [], _, _, h, _ => by simp at h
  | t :: ts, u :: us, b, b', hl, e => by
    have hl' : ts.length = us.length := by simpa using hl
    rw [matchT] at e
    rw [List.foldl_cons]
    split at e
    · rename_i h
      obtain ⟨h1, l, h2⟩ := matchT_keys hl' e
      refine ⟨?_, (t.2, u.2) :: l, by rw [h2]; simp⟩
      rw [h1, List.map_append]
      congr 1
      unfold addK
      rw [if_pos ⟨h.1, getW_key.1 h.2⟩]
      rfl
    · rename_i h
      split at e
      · obtain ⟨h1, h2⟩ := matchT_keys hl' e
        refine ⟨?_, h2⟩
        rw [h1]
        congr 1
        unfold addK
        rw [if_neg fun h' => h ⟨h'.1, getW_key.2 h'.2⟩]
      · cases e

theorem matchA_keys {a f : At} {b b' : Bd} (e : matchA a f b = some b') : b'.map (·.1) = a.2.foldl addK (b.map (·.1)) ∧ ∃ l, b' = b ++ l := by
  unfold matchA at e
  split at e
  · rename_i h; exact matchT_keys h.2 e
  · cases e

/-- So many variables, each once. -/
def KeysIn (V : List ByteArray) (b : Bd) : Prop := (b.map (·.1)).Nodup ∧ ∀ x ∈ b.map (·.1), x ∈ V

theorem keys_fold {V : List ByteArray} : ∀ {ts : List Tm} {ks : List ByteArray}, ks.Nodup → (∀ x ∈ ks, x ∈ V) → (∀ x, (true, x) ∈ ts → x ∈ V) → (ts.foldl addK ks).Nodup ∧ ∀ x ∈ ts.foldl addK ks, x ∈ V
  | [], ks, h, h', _ => ⟨h, h'⟩
  | t :: ts, ks, h, h', hv => by
    rw [List.foldl_cons]
    have : (addK ks t).Nodup ∧ ∀ x ∈ addK ks t, x ∈ V := by
      unfold addK
      split
      · rename_i h1
        refine ⟨List.nodup_append.2 ⟨h, by simp, fun x hx y hy e => ?_⟩, fun x hx => ?_⟩
        · rw [List.mem_singleton.1 hy] at e
          exact h1.2 (e ▸ hx)
        · rcases List.mem_append.1 hx with hx | hx
          · exact h' x hx
          · rw [List.mem_singleton.1 hx]
            exact hv _ (by rw [show (true, t.2) = t from Prod.ext h1.1.symm rfl]; simp)
      · exact ⟨h, h'⟩
    exact keys_fold this.1 this.2 fun x hx => hv x (by simp [hx])

theorem KeysIn.nil (V : List ByteArray) : KeysIn V [] := ⟨by simp, fun x hx => by simp at hx⟩

theorem KeysIn.on {V : List ByteArray} {a f : At} {b b' : Bd} (h : KeysIn V b) (hv : ∀ x, (true, x) ∈ a.2 → x ∈ V) (e : matchA a f b = some b') : KeysIn V b' := by
  unfold KeysIn
  rw [(matchA_keys e).1]
  exact keys_fold h.1 h.2 hv

theorem sub_len {α : Type} : ∀ {l m : List α}, l.Nodup → (∀ x ∈ l, x ∈ m) → l.length ≤ m.length
  | [], _, _, _ => by simp
  | x :: l, m, hd, h => by
    obtain ⟨d1, d2⟩ := List.nodup_cons.1 hd
    obtain ⟨s, t, e⟩ := List.append_of_mem (h x (by simp))
    have := sub_len (l := l) (m := s ++ t) d2 fun y hy => by
      have := h y (by simp [hy])
      rw [e] at this
      rcases List.mem_append.1 this with k | k
      · exact List.mem_append.2 (.inl k)
      · rcases List.mem_cons.1 k with k | k
        · subst k; exact absurd hy d1
        · exact List.mem_append.2 (.inr k)
    rw [e]
    rw [List.length_append] at this
    rw [List.length_cons, List.length_append, List.length_cons]; omega

theorem KeysIn.len {V : List ByteArray} {b : Bd} (h : KeysIn V b) : b.length ≤ V.length := by
  have := sub_len h.1 h.2
  rwa [List.length_map] at this

/-- There is room for one more. -/
theorem KeysIn.room {V : List ByteArray} {b : Bd} (h : KeysIn V b) {x : ByteArray} (hx : getW b x = none) (hv : x ∈ V) : b.length < V.length := by
  have := sub_len (l := x :: b.map (·.1)) (m := V) (List.nodup_cons.2 ⟨getW_key.1 hx, h.1⟩) fun y hy => by
    rcases List.mem_cons.1 hy with e | e
    · rw [e]; exact hv
    · exact h.2 y e
  rw [List.length_cons, List.length_map] at this
  omega

/-- Words for all variables. -/
def rowT (vs : List ByteArray) (b : Bd) : List ByteArray := vs.map fun x => (getW b x).getD ByteArray.empty

theorem bd_back : ∀ {b : Bd}, (b.map (·.1)).Nodup → b = (b.map (·.1)).map fun x => (x, (getW b x).getD ByteArray.empty)
  | [], _ => rfl
  | q :: b, h => by
    rw [List.map_cons] at h
    obtain ⟨d1, d2⟩ := List.nodup_cons.1 h
    rw [List.map_cons, List.map_cons]
    congr 1
    · rw [getW, if_pos rfl]; rfl
    · conv => lhs; rw [bd_back d2]
      refine List.map_congr_left fun x hx => ?_
      rw [getW, if_neg]
      intro e; rw [e] at d1; exact d1 hx

theorem row_inj {vs : List ByteArray} {b b' : Bd} (hd : (b.map (·.1)).Nodup) (hk : b'.map (·.1) = b.map (·.1)) (hv : ∀ x ∈ b.map (·.1), x ∈ vs) (h : rowT vs b = rowT vs b') : b = b' := by
  have h1 := bd_back hd
  have h2 := bd_back (b := b') (by rw [hk]; exact hd)
  rw [h1, h2, hk]
  refine List.map_congr_left fun x hx => ?_
  unfold rowT at h
  rw [List.map_inj_left.1 h x (hv x hx)]

/-- All that is bound has one list of variables. -/
theorem fold_keys {list : List At} : ∀ {ms : List Pt} {out : List Bd} {K : List ByteArray}, (∀ q ∈ ms, q.1 = false) → (∀ c ∈ out, c.map (·.1) = K) → ∀ b ∈ ms.foldl (stepB list) out, b.map (·.1) = ms.foldl (fun ks q => q.2.2.foldl addK ks) K
  | [], _, _, _, h, b, hb => h b hb
  | q :: ms, out, K, hq, h, b, hb => by
    rw [List.foldl_cons] at hb ⊢
    refine fold_keys (out := stepB list out q) (fun r hr => hq r (by simp [hr])) (fun c hc => ?_) b hb
    rw [show stepB list out q = out.flatMap (fitsL list q.2) by unfold stepB; rw [if_neg (by rw [hq q (by simp)]; simp)]] at hc
    obtain ⟨d, hd, hc⟩ := List.mem_flatMap.1 hc
    obtain ⟨f, _, e⟩ := List.mem_filterMap.1 hc
    rw [(matchA_keys e).1, h d hd]

theorem fits_nodup {list : List At} (hl : WordsAll list) (hd : list.Nodup) (a : At) (b : Bd) : (fitsL list a b).Nodup := by
  unfold fitsL
  revert hl hd
  induction list with
  | nil => intro _ _; simp
  | cons f list ih =>
    intro hl hd
    obtain ⟨d1, d2⟩ := List.nodup_cons.1 hd
    have hl' : WordsAll list := fun g hg => hl g (by simp [hg])
    rw [List.filterMap_cons]
    split
    · exact ih hl' d2
    · rename_i b' e
      refine List.nodup_cons.2 ⟨fun hm => ?_, ih hl' d2⟩
      obtain ⟨g, hg, e'⟩ := List.mem_filterMap.1 hm
      have h1 := matchA_fill (hl f (by simp)) e
      have h2 := matchA_fill (hl' g hg) e'
      exact d1 (by rw [← h1, h2]; exact hg)

theorem flat_nodup {α β : Type} {f : α → List β} : ∀ {xs : List α}, xs.Nodup → (∀ x ∈ xs, (f x).Nodup) → (∀ x ∈ xs, ∀ y ∈ xs, ∀ z, z ∈ f x → z ∈ f y → x = y) → (xs.flatMap f).Nodup
  | [], _, _, _ => by simp
  | x :: xs, hd, h1, h2 => by
    obtain ⟨d1, d2⟩ := List.nodup_cons.1 hd
    rw [List.flatMap_cons]
    refine List.nodup_append.2 ⟨h1 x (by simp), flat_nodup d2 (fun y hy => h1 y (by simp [hy])) (fun y hy z hz => h2 y (by simp [hy]) z (by simp [hz])), fun z hz z' hz' e => ?_⟩
    subst e
    obtain ⟨y, hy, hz'⟩ := List.mem_flatMap.1 hz'
    exact d1 (h2 x (by simp) y (by simp [hy]) z hz hz' ▸ hy)

theorem fold_nodup {list : List At} (hl : WordsAll list) (hd : list.Nodup) : ∀ {ms : List Pt} {out : List Bd} {K : List ByteArray}, (∀ q ∈ ms, q.1 = false) → (∀ c ∈ out, c.map (·.1) = K) → out.Nodup → (ms.foldl (stepB list) out).Nodup
  | [], _, _, _, _, h => h
  | q :: ms, out, K, hq, h, hn => by
    have e0 : stepB list out q = out.flatMap (fitsL list q.2) := by unfold stepB; rw [if_neg (by rw [hq q (by simp)]; simp)]
    rw [List.foldl_cons]
    refine fold_nodup hl hd (K := q.2.2.foldl addK K) (fun r hr => hq r (by simp [hr])) (fun c hc => ?_) ?_
    · rw [e0] at hc
      obtain ⟨d, hd', hc⟩ := List.mem_flatMap.1 hc
      obtain ⟨f, _, e⟩ := List.mem_filterMap.1 hc
      rw [(matchA_keys e).1, h d hd']
    · rw [e0]
      refine flat_nodup hn (fun c _ => fits_nodup hl hd q.2 c) fun c hc c' hc' z hz hz' => ?_
      obtain ⟨_, _, e⟩ := List.mem_filterMap.1 hz
      obtain ⟨_, _, e'⟩ := List.mem_filterMap.1 hz'
      obtain ⟨_, l, hl1⟩ := matchA_keys e
      obtain ⟨_, l', hl2⟩ := matchA_keys e'
      have hlen : c.length = c'.length := by
        have h1 := congrArg List.length (h c hc); have h2 := congrArg List.length (h c' hc')
        rw [List.length_map] at h1 h2; omega
      rw [hl1] at hl2
      exact (List.append_inj hl2 hlen).1

/-- The variables of what must be. -/
def mvarsOf (qs : List Pt) : List ByteArray := (musts qs).flatMap fun q => (q.2.2.filter (·.1)).map (·.2)

/-- No row comes twice. -/
theorem rows_nodup {list : List At} (hl : WordsAll list) (hd : list.Nodup) {body : List Pt} {vs : List ByteArray} (hv : ∀ x, x ∈ mvarsOf body → x ∈ vs) : ((rowsB list body).map (rowT vs)).Nodup := by
  have hms : ∀ q ∈ musts body, q.1 = false := fun q hq => by
    have := (List.mem_filter.1 hq).2; simpa using this
  have hnd : (allB list body).Nodup := by
    unfold allB; rw [fold_musts]
    exact fold_nodup hl hd (K := []) hms (fun c hc => by rw [List.mem_singleton.1 hc]; rfl) (by simp)
  have hkeys : ∀ b ∈ allB list body, b.map (·.1) = (musts body).foldl (fun ks q => q.2.2.foldl addK ks) [] := by
    unfold allB; rw [fold_musts]
    exact fold_keys hms fun c hc => by rw [List.mem_singleton.1 hc]; rfl
  have hK : ∀ (ms : List Pt) (ks : List ByteArray), (∀ q ∈ ms, q ∈ musts body) → ks.Nodup → (∀ x ∈ ks, x ∈ mvarsOf body) → (ms.foldl (fun ks q => q.2.2.foldl addK ks) ks).Nodup ∧ ∀ x ∈ ms.foldl (fun ks q => q.2.2.foldl addK ks) ks, x ∈ mvarsOf body := by
    intro ms
    induction ms with
    | nil => intro ks _ h h'; exact ⟨h, h'⟩
    | cons q ms ih =>
      intro ks hm h h'
      rw [List.foldl_cons]
      have := keys_fold (V := mvarsOf body) (ts := q.2.2) h h' fun x hx => by
        unfold mvarsOf
        exact List.mem_flatMap.2 ⟨q, hm q (by simp), List.mem_map.2 ⟨(true, x), List.mem_filter.2 ⟨hx, rfl⟩, rfl⟩⟩
      exact ih _ (fun r hr => hm r (by simp [hr])) this.1 this.2
  obtain ⟨k1, k2⟩ := hK (musts body) [] (fun q hq => hq) (by simp) (fun x hx => by simp at hx)
  have hrn : (rowsB list body).Nodup := by unfold rowsB; exact hnd.filter _
  refine List.pairwise_map.2 (List.Pairwise.imp_of_mem (fun {b b'} hb hb' hne e => ?_) hrn)
  have hb1 := (List.mem_filter.1 hb).1
  have hb2 := (List.mem_filter.1 hb').1
  refine hne (row_inj (vs := vs) ?_ ?_ (fun x hx => ?_) e)
  · rw [hkeys b hb1]; exact k1
  · rw [hkeys b hb1, hkeys b' hb2]
  · rw [hkeys b hb1] at hx; exact hv x (k2 x hx)

/-- Words of variables as they lie in a block of their own: twelve places of two texts, and how many are used. -/
structure BdIn (w : World) (g : Nat) (b : Bd) : Prop where
  few : b.length ≤ 12
  at1 : ∀ j q, b[j]? = some q → w.cell? ⟨g, j * 2, none⟩ = some (.string q.1)
  at2 : ∀ j q, b[j]? = some q → w.cell? ⟨g, j * 2 + 1, none⟩ = some (.string q.2)
  count : w.cell? ⟨g, 24, none⟩ = some (.int .i64 b.length)
  room : ∀ j, j < 25 → w.frozen? ⟨g, j, none⟩ = false ∧ ∃ x, w.cell? ⟨g, j, none⟩ = some x

theorem BdIn.keep {w w' : World} {g : Nat} {b : Bd} (h : BdIn w g b) (hc : ∀ j, w'.cell? ⟨g, j, none⟩ = w.cell? ⟨g, j, none⟩) (hf : ∀ j, w'.frozen? ⟨g, j, none⟩ = w.frozen? ⟨g, j, none⟩) : BdIn w' g b :=
  ⟨h.few, fun j q hq => (hc _).trans (h.at1 j q hq), fun j q hq => (hc _).trans (h.at2 j q hq), (hc _).trans h.count, fun j hj => by rw [hf, hc]; exact h.room j hj⟩

/-- Has a term a word? -/
def knownB (b : Bd) (t : Tm) : Bool := !t.1 || (getW b t.2).isSome

set_option maxHeartbeats 2000000 in
theorem implWordOf_any (g : Nat) (b : Bd) (t : Tm) (w : World) (h : BdIn w g b) (hg : g < w.heap.size) :
    Calls Tryz.prog 91 #[.pointer (some ⟨g, 0, none⟩), .agg #[.bool t.1, .string t.2]] w fun e w' => e = .returned (.tuple #[.string (wordT b t), .bool (knownB b t)]) ∧ Below w.heap.size w w' := by
  obtain ⟨tv, x⟩ := t
  have H := Lib.hid h; clear h
  have hw0 := below1 w (.cells #[.bool tv, .string x] 59)
  have X0 := Lib.hid (Box.new w (.bool tv) (.string x) 59)
  go_enter Tryz.func91, Tryz.ntmps91
  cases tv with
  | false =>
    go_wp2
    refine bodyPost_ret (v := .tuple #[.string x, .bool true]) (by simp [results, Tryz.results91, go_sem]) rfl ⟨rfl, hw0⟩
  | true =>
    have HG := Lib.hid hg
    have hc := (hw0.cell (p := ⟨g, 24, none⟩) hg).trans H.out.count
    have hfew := H.out.few
    go_wp2
    go_loopw [16] (fun i wr => ∃ k : Nat, k ≤ b.length ∧ i = .int .i64 k ∧ (∀ j r, j < k → b[j]? = some r → r.1 ≠ x) ∧ Below (w.alloc (.cells #[.bool true, .string x] 59)).heap.size (w.alloc (.cells #[.bool true, .string x] 59)) wr) (fun i _ => b.length - (intOf i).toNat)
    case atStart => exact ⟨0, Nat.zero_le _, rfl, fun j r hj => absurd hj (Nat.not_lt_zero _), Below.refl _ _⟩
    case round =>
      obtain ⟨k, hk, rfl, hl, hb⟩ := hrel
      have HL := Lib.hid hl; clear hl
      have HB := belowThen hw0 hb
      obtain ⟨b0, b1, b2⟩ := X0.out.later hb
      by_cases hlt : k < b.length
      · have hltI : (k : Int) < (b.length : Int) := by omega
        obtain ⟨q, hq⟩ : ∃ q, b[k]? = some q := ⟨_, List.getElem?_eq_getElem hlt⟩
        have x1 := (HB.cell (p := ⟨g, k * 2, none⟩) HG.out).trans (H.out.at1 k q hq)
        have x2 := (HB.cell (p := ⟨g, k * 2 + 1, none⟩) HG.out).trans (H.out.at2 k q hq)
        have HQ := Lib.hid hq; clear hq
        cases he : (q.1.toList == x.toList)
        · have hne : q.1 ≠ x := fun e => by rw [e] at he; simp at he
          have HNE := Lib.hid hne; clear hne
          go_wp2_with fail
          go_quiet (fail)
          go_wp2
          go_roundw
          case rel => exact ⟨k + 1, by omega, by go_num, fun j r hj hr => by
            by_cases e : j = k
            · subst e; rw [HQ.out] at hr; injection hr with hr; rw [← hr]; exact HNE.out
            · exact HL.out j r (by omega) hr, belowDrewN hb _⟩
          case measure => simp [intOf]; omega
        · have hxq : q.1 = x := bytesEq (by have h1 := eq_of_beq he; rwa [ByteArray.toList_eq, ByteArray.toList_eq] at h1)
          have hv := Lib.hid (getW_hit (x := x) HL.out HQ.out hxq)
          clear hxq
          go_wp2_with fail
          go_quiet (fail)
          go_wp2
          refine bodyPost_ret (v := .tuple #[.string q.2, .bool true]) (by simp [results, Tryz.results91, go_sem]) rfl ⟨?_, belowDrewN HB _⟩
          have h1 : wordT b (true, x) = q.2 := by unfold wordT; rw [if_pos rfl, hv.out]; rfl
          have h2 : knownB b (true, x) = true := by unfold knownB; rw [hv.out]; rfl
          rw [h1, h2]
      · have hv := Lib.hid (getW_none (b := b) (x := x) (fun q hq => by
          obtain ⟨j, hj⟩ := List.getElem?_of_mem hq
          have := (List.getElem?_eq_some_iff.1 hj).1
          exact HL.out j q (by omega) hj))
        go_wp2
        refine bodyPost_ret (v := .tuple #[.string ⟨#[]⟩, .bool false]) (by simp [results, Tryz.results91, go_sem]) rfl ⟨?_, HB⟩
        have h1 : wordT b (true, x) = ⟨#[]⟩ := by unfold wordT; rw [if_pos rfl, hv.out]; rfl
        have h2 : knownB b (true, x) = false := by unfold knownB; rw [hv.out]; rfl
        rw [h1, h2]

set_option maxHeartbeats 2000000 in
theorem implKindOf_any (nm : ByteArray) (A : Option Addr) (n c : Nat) (w : World) :
    Calls Tryz.prog 131 #[.agg #[.string nm, .slice A n c]] w fun e w' => e = .returned (.agg #[.string nm, .int .i64 n]) ∧ Below w.heap.size w w' := by
  have X0 := Lib.hid (Box.new w (.string nm) (.slice A n c) 49)
  have hw0 := below1 w (.cells #[.string nm, .slice A n c] 49)
  go_enter Tryz.func131, Tryz.ntmps131
  go_wp2
  refine bodyPost_ret (v := .agg #[.string nm, .int .i64 n]) (by simp [results, Tryz.results131, go_sem]) rfl ⟨rfl, ?_⟩
  exact belowThen hw0 (below1 _ _)

/-- The word at a place; none behind the last. -/
def wordAt (ts : List Tm) (i : Nat) : ByteArray := match ts[i]? with | some t => t.2 | none => ⟨#[]⟩

/-- A fact as a value. -/
def factV (a : At) : Value := .agg #[.string a.1, .int .i64 a.2.length, .string (wordAt a.2 0), .string (wordAt a.2 1), .string (wordAt a.2 2)]
def noFact : Value := .agg #[.string ⟨#[]⟩, .int .i64 0, .string ⟨#[]⟩, .string ⟨#[]⟩, .string ⟨#[]⟩]

/-- A fact in the making. -/
structure FO (w : World) (Q : Nat) (nm : ByteArray) (A : Option Addr) (n c : Nat) (us : List Tm) (W : World) : Prop where
  xa : Blk W w.heap.size 49 #[.string nm, .slice A n c]
  xr : Blk W (w.heap.size + 1) 143 #[.string ⟨#[]⟩, .int .i64 0, .string ⟨#[]⟩, .string ⟨#[]⟩, .string ⟨#[]⟩]
  xf : Blk W Q 143 #[.string nm, .int .i64 n, .string (wordAt us 0), .string (wordAt us 1), .string (wordAt us 2)]
  gr : Below w.heap.size w W

theorem FO.below {w W W' : World} {Q : Nat} {nm : ByteArray} {A : Option Addr} {n c : Nat} {us : List Tm} (h : FO w Q nm A n c us W) (hb : Below W.heap.size W W') : FO w Q nm A n c us W' :=
  ⟨h.xa.below hb, h.xr.below hb, h.xf.below hb, h.gr.trans (hb.mono h.gr.size)⟩

theorem wordAt_snoc (us : List Tm) (u : Tm) (i : Nat) : wordAt (us ++ [u]) i = if i = us.length then u.2 else wordAt us i := by
  unfold wordAt
  by_cases h : i < us.length
  · rw [List.getElem?_append_left h, if_neg (by omega)]
  · by_cases e : i = us.length
    · rw [if_pos e, e, List.getElem?_append_right (Nat.le_refl _), Nat.sub_self]; rfl
    · rw [if_neg e, List.getElem?_eq_none (by rw [List.length_append]; simp; omega), List.getElem?_eq_none (by omega)]

theorem FO.more {w W : World} {Q : Nat} {nm : ByteArray} {A : Option Addr} {n c k : Nat} {us us' : List Tm} {u : Tm} (h : FO w Q nm A n c us W) (hQ : w.heap.size + 2 ≤ Q) (hl : us.length = k) (hk : k < 3) (hu : us' = us ++ [u]) : FO w Q nm A n c us' (W.setCell ⟨Q, 2 + k, none⟩ (.string u.2)) := by
  subst hu
  refine ⟨h.xa.far (by show w.heap.size ≠ Q; omega) _, h.xr.far (by show w.heap.size + 1 ≠ Q; omega) _, ?_, h.gr.setCell (by show w.heap.size ≤ Q; omega) _⟩
  have h1 := h.xf.set (2 + k) (.string u.2)
  rw [wordAt_snoc, wordAt_snoc, wordAt_snoc, hl]
  have hk3 : k = 0 ∨ k = 1 ∨ k = 2 := by omega
  rcases hk3 with e | e | e <;> subst e <;> simpa using h1

theorem whole_known (b : Bd) (a : At) : wholeB b a = a.2.all (knownB b) := by
  unfold wholeB knownB
  congr 1
  funext t
  cases t.1 <;> cases getW b t.2 <;> rfl

set_option maxHeartbeats 4000000 in
theorem implFactOf_any (g : Nat) (b : Bd) (nm : ByteArray) (A : Option Addr) (n c : Nat) (ts : List Tm) (w : World) (h : BdIn w g b) (hg : g < w.heap.size) (hT : IsTerms w 0 w.heap.size A n c ts) (h3 : n ≤ 3) :
    Calls Tryz.prog 94 #[.pointer (some ⟨g, 0, none⟩), .agg #[.string nm, .slice A n c]] w fun e w' => e = .returned (.tuple #[if wholeB b (nm, ts) = true then factV (fillA (nm, ts) b) else noFact, .bool (wholeB b (nm, ts))]) ∧ Below w.heap.size w w' := by
  obtain ⟨V, hV⟩ : ∃ V, Value.tuple #[if wholeB b (nm, ts) = true then factV (fillA (nm, ts) b) else noFact, .bool (wholeB b (nm, ts))] = V := ⟨_, rfl⟩
  rw [hV]
  have HV := Lib.hid hV
  have HN := Lib.hid hT.1
  have H := Lib.hid h; have HT := Lib.hid hT; have HG := Lib.hid hg; clear h hT hg hV
  have X0 := Lib.hid (Box.new w (.string nm) (.slice A n c) 49)
  have hw0 := below1 w (.cells #[.string nm, .slice A n c] 49)
  go_enter Tryz.func94, Tryz.ntmps94
  go_wp2_with fail
  refine (implKindOf_any nm A n c _).mono ?_; rintro e w1 ⟨rfl, hb1⟩
  have hsz : w.heap.size + 2 ≤ w1.heap.size := by have := hb1.size; simpa using this
  have xa := (((Blk.new w 49 #[.string nm, .slice A n c]).alloc (.cells #[.string ⟨#[]⟩, .int .i64 0, .string ⟨#[]⟩, .string ⟨#[]⟩, .string ⟨#[]⟩] 143)).below hb1).alloc (.cells #[.string nm, .int .i64 n, .string ⟨#[]⟩, .string ⟨#[]⟩, .string ⟨#[]⟩] 143)
  have xr := ((Blk.made (b := w.heap.size + 1) (w.alloc (.cells #[.string nm, .slice A n c] 49)) 143 #[.string ⟨#[]⟩, .int .i64 0, .string ⟨#[]⟩, .string ⟨#[]⟩, .string ⟨#[]⟩] (by simp)).below hb1).alloc (.cells #[.string nm, .int .i64 n, .string ⟨#[]⟩, .string ⟨#[]⟩, .string ⟨#[]⟩] 143)
  have xf := Blk.new w1 143 #[.string nm, .int .i64 n, .string ⟨#[]⟩, .string ⟨#[]⟩, .string ⟨#[]⟩]
  obtain ⟨x0, x1, x2⟩ := (X0.out.later (below1 _ _)).later hb1
  have hgr : Below w.heap.size w (w1.alloc (.cells #[.string nm, .int .i64 n, .string ⟨#[]⟩, .string ⟨#[]⟩, .string ⟨#[]⟩] 143)) := belowThen (belowThen (belowThen hw0 (below1 _ _)) hb1) (below1 _ _)
  have HM0 := Lib.hid (show FO w w1.heap.size nm A n c [] _ from ⟨xa, xr, xf, hgr⟩)
  have hQ : w.heap.size + 2 ≤ w1.heap.size := hsz
  clear xa xr xf hgr
  go_wp2
  clear X0 hw0 hb1 x0 x1 x2 hsz
  obtain ⟨Q, hQQ⟩ : ∃ Q, w1.heap.size = Q := ⟨_, rfl⟩
  rw [hQQ] at HM0 hQ ⊢
  go_loopw [17] (fun i wr => ∃ k : Nat, k ≤ n ∧ i = .int .i64 (k : Int) ∧ (∀ j t, j < k → ts[j]? = some t → knownB b t = true) ∧ FO w Q nm A n c ((ts.take k).map (fillT b)) wr) (fun i _ => n - (intOf i).toNat)
  case atStart => exact ⟨0, Nat.zero_le _, rfl, fun j t hj => absurd hj (Nat.not_lt_zero _), HM0.out⟩
  case round =>
    clear HM0
    obtain ⟨k, hk, rfl, hl, hM⟩ := hrel
    have HL := Lib.hid hl; clear hl
    have HM := Lib.hid hM
    have hb := hM.gr
    clear hM
    by_cases hlt : k < n
    · have hltI : (k : Int) < (n : Int) := by omega
      obtain ⟨p, t, hA, _, _, hg, z1, z2, _⟩ := (HT.out.up hb).at_ hlt
      subst hA
      have HGT := Lib.hid hg
      clear hg
      go_wp2_with fail
      have hb4 := belowThen hb (below1 wr (.cells #[.bool t.1, .string t.2] 59))
      refine (implWordOf_any g b t _ (H.out.keep (fun j => hb4.cell HG.out) (fun j => hb4.frozen HG.out)) (by have := hb4.size; have := HG.out; omega)).mono ?_; rintro e w5 ⟨rfl, hb5⟩
      have HM5 := Lib.hid ((HM.out.below (below1 wr (.cells #[.bool t.1, .string t.2] 59))).below hb5)
      clear HM hb4 z1 z2 hb
      have y0 := HM5.out.xr.cell 0; have y1 := HM5.out.xr.cell 1; have y2 := HM5.out.xr.cell 2; have y3 := HM5.out.xr.cell 3; have y4 := HM5.out.xr.cell 4
      simp at y0 y1 y2 y3 y4
      have f0 := HM5.out.xr.frozen
      have g0 := HM5.out.xf.frozen
      cases hkn : knownB b t with
      | false =>
        have hw : wholeB b (nm, ts) = false := by
          rw [whole_known]
          cases ha : List.all ts (knownB b) with
          | false => rfl
          | true =>
            rw [List.all_eq_true.1 ha t (List.mem_of_getElem? HGT.out)] at hkn
            cases hkn
        have HVF := Lib.hid (show V = .tuple #[noFact, .bool false] by rw [← HV.out, hw]; rfl)
        clear hw
        go_wp2_with fail
        have xr5 := ((((HM5.out.xr.set 0 (.string ⟨#[]⟩)).set 1 (.int .i64 0)).set 2 (.string ⟨#[]⟩)).set 3 (.string ⟨#[]⟩)).set 4 (.string ⟨#[]⟩)
        have v0 := xr5.cell 0; have v1 := xr5.cell 1; have v2 := xr5.cell 2; have v3 := xr5.cell 3; have v4 := xr5.cell 4
        simp at v0 v1 v2 v3 v4
        have hgr := ((((HM5.out.gr.setCell (p := ⟨w.heap.size + 1, 0, none⟩) (Nat.le_succ _) (.string ⟨#[]⟩)).setCell (p := ⟨w.heap.size + 1, 1, none⟩) (Nat.le_succ _) (.int .i64 0)).setCell (p := ⟨w.heap.size + 1, 2, none⟩) (Nat.le_succ _) (.string ⟨#[]⟩)).setCell (p := ⟨w.heap.size + 1, 3, none⟩) (Nat.le_succ _) (.string ⟨#[]⟩)).setCell (p := ⟨w.heap.size + 1, 4, none⟩) (Nat.le_succ _) (.string ⟨#[]⟩)
        refine bodyPost_ret (v := .tuple #[noFact, .bool false]) (by unfold noFact; simp [results, Tryz.results94, go_sem, v0, v1, v2, v3, v4]) rfl ⟨by rw [HVF.out], hgr⟩
      | true =>
        have hv : ∃ s, w5.cell? ⟨Q, 2 + k, none⟩ = some (.string s) := by
          have hk3 : k = 0 ∨ k = 1 ∨ k = 2 := by omega
          rcases hk3 with e | e | e <;> subst e
          · exact ⟨_, HM5.out.xf.cell 2⟩
          · exact ⟨_, HM5.out.xf.cell 3⟩
          · exact ⟨_, HM5.out.xf.cell 4⟩
        obtain ⟨s, hs⟩ := hv
        go_wp2
        have hus : (ts.take (k + 1)).map (fillT b) = (ts.take k).map (fillT b) ++ [fillT b t] := by rw [List.take_add_one, HGT.out, List.map_append]; rfl
        have hul : ((ts.take k).map (fillT b)).length = k := by rw [List.length_map, List.length_take, HN.out]; omega
        refine ⟨⟨k + 1, by omega, by go_num, fun j u hj hu => ?_, HM5.out.more hQ hul (by omega) hus⟩, by simp [intOf]; omega⟩
        by_cases e : j = k
        · subst e; rw [HGT.out] at hu; injection hu with hu; rw [← hu]; exact hkn
        · exact HL.out j u (by omega) hu
    · have hkn : k = n := by omega
      subst hkn
      have hw : wholeB b (nm, ts) = true := by
        rw [whole_known]
        refine List.all_eq_true.2 fun t ht => ?_
        obtain ⟨j, hj⟩ := List.getElem?_of_mem ht
        exact HL.out j t (by have h7 : j < ts.length := (List.getElem?_eq_some_iff.1 hj).1; have := HN.out; omega) hj
      have hts : ts.take k = ts := List.take_of_length_le (by have := HN.out; omega)
      have hV2 : V = .tuple #[.agg #[.string nm, .int .i64 k, .string (wordAt (ts.map (fillT b)) 0), .string (wordAt (ts.map (fillT b)) 1), .string (wordAt (ts.map (fillT b)) 2)], .bool true] := by
        rw [← HV.out, hw, if_pos rfl]
        have : (fillA (nm, ts) b).2.length = k := by show (ts.map (fillT b)).length = k; rw [List.length_map]; exact HN.out
        unfold factV; rw [this]; rfl
      have HVF := Lib.hid hV2
      have HM5 := Lib.hid (hts ▸ HM.out)
      have g0 := HM5.out.xf.cell 0; have g1 := HM5.out.xf.cell 1; have g2 := HM5.out.xf.cell 2; have g3 := HM5.out.xf.cell 3; have g4 := HM5.out.xf.cell 4
      have y0 := HM5.out.xr.cell 0; have y1 := HM5.out.xr.cell 1; have y2 := HM5.out.xr.cell 2; have y3 := HM5.out.xr.cell 3; have y4 := HM5.out.xr.cell 4
      have f0 := HM5.out.xr.frozen
      simp at g0 g1 g2 g3 g4 y0 y1 y2 y3 y4
      clear hV2 hw HM
      go_wp2_with fail
      obtain ⟨s0, hs0⟩ : ∃ s0, wordAt (ts.map (fillT b)) 0 = s0 := ⟨_, rfl⟩
      obtain ⟨s1, hs1⟩ : ∃ s1, wordAt (ts.map (fillT b)) 1 = s1 := ⟨_, rfl⟩
      obtain ⟨s2, hs2⟩ : ∃ s2, wordAt (ts.map (fillT b)) 2 = s2 := ⟨_, rfl⟩
      rw [hs0, hs1, hs2] at HVF ⊢
      have xr5 := ((((HM5.out.xr.set 0 (.string nm)).set 1 (.int .i64 k)).set 2 (.string s0)).set 3 (.string s1)).set 4 (.string s2)
      have v0 := xr5.cell 0; have v1 := xr5.cell 1; have v2 := xr5.cell 2; have v3 := xr5.cell 3; have v4 := xr5.cell 4
      simp at v0 v1 v2 v3 v4
      have hgr := ((((HM5.out.gr.setCell (p := ⟨w.heap.size + 1, 0, none⟩) (Nat.le_succ _) (.string nm)).setCell (p := ⟨w.heap.size + 1, 1, none⟩) (Nat.le_succ _) (.int .i64 k)).setCell (p := ⟨w.heap.size + 1, 2, none⟩) (Nat.le_succ _) (.string s0)).setCell (p := ⟨w.heap.size + 1, 3, none⟩) (Nat.le_succ _) (.string s1)).setCell (p := ⟨w.heap.size + 1, 4, none⟩) (Nat.le_succ _) (.string s2)
      refine bodyPost_ret (v := .tuple #[.agg #[.string nm, .int .i64 k, .string s0, .string s1, .string s2], .bool true]) (by simp [results, Tryz.results94, go_sem, v0, v1, v2, v3, v4]) rfl ⟨by rw [HVF.out], hgr⟩
end Go.Proofs.YtcigljngiemdeaaGreat
