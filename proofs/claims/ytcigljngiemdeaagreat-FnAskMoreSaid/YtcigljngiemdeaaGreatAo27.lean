/-
  Texts of one claim, put together.
-/
import Derived.Test.YtcigljngiemdeaaGreatAo0
import Derived.Test.YtcigljngiemdeaaGreatAo26
import Derived.Carry
set_option maxRecDepth 100000
set_option maxHeartbeats 8000000
namespace Go.Proofs.YtcigljngiemdeaaGreat
open Go.RowKit Go.Maps
def TellsB (p : Prop) (w : World) (e : Ending) (w' : World) : Prop := (∃ k, e = .returned (.bool k) ∧ (k = true ↔ p)) ∧ Below w.heap.size w w'
def FactsIn (w : World) (Bs : Nat → Prop) (v : Value) (fs : List At) : Prop := w.ownsRow 0 143 5 v fs.length (fsCells fs) ∧ (∀ g, v.ownBlock = some g → Bs g)
theorem FactsIn.keep {w w' : World} {Bs : Nat → Prop} {v : Value} {fs : List At} (h : FactsIn w Bs v fs) (hk : ∀ g, Bs g → g < w.heap.size → w'.heap[g]? = w.heap[g]?) : FactsIn w' Bs v fs := by
  obtain ⟨h1, h2⟩ := h; refine ⟨⟨h1.1, ?_⟩, h2⟩; rcases h1.2 with e | ⟨g, cap, cur, e, hb, hg, rest⟩
  · exact .inl e
  · exact .inr ⟨g, cap, cur, e, hb, (hk g (h2 g qed) (Array.getElem?_eq_some_iff.1 hg).1).trans hg, rest⟩
theorem fsCells_at : ∀ {fs : List At} {i : Nat} {f : At}, fs[i]? = some f → ∀ j, j < 5 → (fsCells fs)[i * 5 + j]? = (fcells f)[j]?
  | [], i, f, h, _, _ => by simp at h
  | q :: fs, 0, f, h, j, hj => by
    simp at h; subst h; show (fcells q ++ fsCells fs)[0 * 5 + j]? = _
    rw [Nat.zero_mul, Nat.zero_add, List.getElem?_append_left (by simp [fcells]; omega)]
  | q :: fs, i + 1, f, h, j, hj => by
    have ih := fsCells_at (fs := fs) (i := i) (f := f) qbd j hj; show (fcells q ++ fsCells fs)[(i + 1) * 5 + j]? = _; rw [List.getElem?_append_right (by simp [fcells]; omega), ← ih]; congr 1; simp [fcells]; omega
theorem FactsIn.form {w : World} {Bs : Nat → Prop} {v : Value} {fs : List At} (h : FactsIn w Bs v fs) : ∃ A c, v = .slice A fs.length c ∧ fs.length ≤ c ∧ c ≤ maxLen := by
  rcases h.1.2 with ⟨e, h0⟩ | ⟨g, cap, cur, e, _, _, h1, h2, _⟩
  · exact ⟨none, 0, by rw [e, h0], by omega, by unfold maxLen; omega⟩
  · exact ⟨_, cap, e, h1, h2⟩
theorem FactsIn.at_ {w : World} {Bs : Nat → Prop} {A : Option Addr} {n c i : Nat} {fs : List At} (h : FactsIn w Bs (.slice A n c) fs) (hi : i < n) :
    ∃ g f, A = some ⟨g, 0, none⟩ ∧ Bs g ∧ g < w.heap.size ∧ fs[i]? = some f ∧ w.cell? ⟨g, i * 5, none⟩ = some (.string f.1) ∧ w.cell? ⟨g, i * 5 + 1, none⟩ = some (.int .i64 f.2.length) ∧ w.cell? ⟨g, i * 5 + 2, none⟩ = some (.string (wordAt f.2 0)) ∧ w.cell? ⟨g, i * 5 + 3, none⟩ = some (.string (wordAt f.2 1)) ∧ w.cell? ⟨g, i * 5 + 4, none⟩ = some (.string (wordAt f.2 2)) := by
  rcases h.1.2 with ⟨e, h0⟩ | ⟨g, cap, cur, e, hb, hg, h1, h2, h3, h4⟩
  · injection e with e1 e2 e3; omega
  · injection e with e1 e2 e3
    subst e1; subst e2; have hgl := (Array.getElem?_eq_some_iff.1 hg).1; obtain ⟨f, hf⟩ : ∃ f, fs[i]? = some f := ⟨_, List.getElem?_eq_getElem hi⟩
    have hc : ∀ j u, (fcells f)[j]? = some u → w.cell? ⟨g, i * 5 + j, none⟩ = some u := fun j u hu => by
      have hj : j < 5 := by have := (List.getElem?_eq_some_iff.1 hu).1; simpa [fcells] using this
      have e1 := fsCells_at hf j hj; rw [hu, ← h4, List.getElem?_take, if_pos qaa] at e1; simp [World.cell?, hg]; simpa using e1
    exact ⟨g, f, rfl, h.2 g rfl, hgl, hf, hc 0 _ rfl, hc 1 _ rfl, hc 2 _ rfl, hc 3 _ rfl, hc 4 _ rfl⟩
theorem UnderIn.look {w : World} {Bs : Nat → Prop} {mu : Nat} {rows : List Rw} {s : Sp} (h : UnderIn w Bs mu rows) (hs : SpotOk s) :
    ∃ v, (Instr.lookup 135 (.map (some mu)) (spotV s) false).run Tryz.prog w = .ok v w ∧ FactsIn w Bs v (rowsAt rows s) := by
  obtain ⟨kl, hkey⟩ := hs.key; by_cases hin : ∃ r ∈ rows, r.1 = s
  · obtain ⟨r, hr, hrs⟩ := hin
    refine ⟨r.2.1, h.map.hit false Tryz.lawSp Tryz.underlying135 hkey (by rw [← hrs]; exact List.mem_map.2 ⟨r, hr, rfl⟩), ?_⟩; rw [← hrs, h.at_ hr]; exact h.row r hr
  · have hne : ∀ r ∈ rows, r.1 ≠ s := fun r hr e => hin ⟨r, hr, e⟩
    refine ⟨.slice none 0 0, h.map.miss false Tryz.lawSp Tryz.underlying135 hkey (Tryz.zeroValue148 w) (fun q hq e => ?_), ?_⟩
    · obtain ⟨r, hr, rfl⟩ := List.mem_map.1 hq
      exact hne r hr (spotV_inj e)
    · rw [rowsAt_none hne]
      exact ⟨World.ownsRow_nil _ _ _ _, fun g hg => by cases hg⟩
theorem implHas_any (Bs : Nat → Prop) (x : Nat) (L : List (At × Nat)) (f : At) (w : World) (h : IxIn w Bs x L) (hf : KeyOk f) :
    Calls Tryz.prog 132 #[.pointer (some ⟨x, 0, none⟩), factV f] w (TellsB (f ∈ L.map (·.1)) w) := by
  obtain ⟨⟨mr, mu, rows, hx, hmr, hmu, hne, hM, hU, hsem⟩, hbx, hok⟩ := h; obtain ⟨kl, hkey⟩ := hf.key
  have hres : ∃ u k, (∀ W : World, W.heap[mr]? = w.heap[mr]? → (Instr.lookup 134 (.map (some mr)) (factV f) true).run Tryz.prog W = .ok (.tuple #[.int .i64 (u : Int), .bool k]) W) ∧ (k = true ↔ f ∈ L.map (·.1)) := by
    by_cases hin : f ∈ L.map (·.1)
    · obtain ⟨q, hq, rfl⟩ := List.mem_map.1 hin
      exact ⟨q.2, true, fun W hW => (hM.keep hW).hit true Tryz.lawF Tryz.underlying134 hkey (List.mem_map.2 ⟨q, hq, rfl⟩), by simp only [true_iff]; exact hin⟩
    · refine ⟨0, false, fun W hW => (hM.keep hW).miss true Tryz.lawF Tryz.underlying134 hkey (Tryz.zeroValue3 W) (fun q hq e => ?_), by simp only [Bool.false_eq_true, false_iff]; exact hin⟩
      obtain ⟨p, hp, rfl⟩ := List.mem_map.1 hq; exact hin (List.mem_map.2 ⟨p, hp, keyV_inj (hok p hp).keyOk hf e⟩)
  obtain ⟨u, k, hlook, hk⟩ := hres; have hV : factV f = .agg #[.string f.1, .int .i64 f.2.length, .string (wordAt f.2 0), .string (wordAt f.2 1), .string (wordAt f.2 2)] := rfl; rw [hV] at hlook ⊢; obtain ⟨nm, hnm⟩ : ∃ nm, f.1 = nm := ⟨_, rfl⟩; obtain ⟨n, hn⟩ : ∃ n, f.2.length = n := ⟨_, rfl⟩; obtain ⟨s0, hs0⟩ : ∃ s0, wordAt f.2 0 = s0 := ⟨_, rfl⟩; obtain ⟨s1, hs1⟩ : ∃ s1, wordAt f.2 1 = s1 := ⟨_, rfl⟩; obtain ⟨s2, hs2⟩ : ∃ s2, wordAt f.2 2 = s2 := ⟨_, rfl⟩; rw [hnm, hn, hs0, hs1, hs2] at hlook ⊢; clear hV hkey hok hU hsem hf; obtain ⟨p, hp⟩ : ∃ p, (f ∈ L.map (·.1)) = p := ⟨_, rfl⟩; rw [hp] at hk ⊢
  have hk' := hid hk; clear hp; clear hk hnm hn hs0 hs1 hs2; have hb1 := below1 w (.cells #[.string nm, .int .i64 n, .string s0, .string s1, .string s2] 143); have xf := Blk.new w 143 #[.string nm, .int .i64 n, .string s0, .string s1, .string s2]; obtain ⟨w1, hq1⟩ : ∃ w1, w.alloc (.cells #[.string nm, .int .i64 n, .string s0, .string s1, .string s2] 143) = w1 := ⟨_, rfl⟩; rw [hq1] at hb1 xf; have hl := hid (hlook w1.drew (hb1.block mr hM.lt)); have c0 := (hx.below hb1).cell 0; have z0 := xf.cell 0; have z1 := xf.cell 1; have z2 := xf.cell 2; have z3 := xf.cell 3; have z4 := xf.cell 4
  simp at c0 z0 z1 z2 z3 z4; have HQ1 := hid hq1; clear hq1 hM hx xf hlook; go_enter Tryz.func132, Tryz.ntmps132; go_wp2_with (rw [HQ1.out]); obtain ⟨V, hVe⟩ : ∃ V, w1.drew = V := ⟨_, rfl⟩; have hbV : Below w.heap.size w V := by rw [← hVe]; exact hb1.drew
  have d0 : V.cell? ⟨x, 0, none⟩ = some (.map (some mr)) := by rw [← hVe]; exact c0
  have e0 : V.cell? ⟨w.heap.size, 0, none⟩ = some (.string nm) := by rw [← hVe]; exact z0
  have e1 : V.cell? ⟨w.heap.size, 1, none⟩ = some (.int .i64 n) := by rw [← hVe]; exact z1
  have e2 : V.cell? ⟨w.heap.size, 2, none⟩ = some (.string s0) := by rw [← hVe]; exact z2
  have e3 : V.cell? ⟨w.heap.size, 3, none⟩ = some (.string s1) := by rw [← hVe]; exact z3
  have e4 : V.cell? ⟨w.heap.size, 4, none⟩ = some (.string s2) := by rw [← hVe]; exact z4
  rw [hVe] at hl; have HVE := hid hVe; clear hVe hb1 c0 z0 z1 z2 z3 z4; refine wp_region_held_drew (S := fun W => W = V) qae (by rw [HVE.out]) ?_; rw [HVE.out]; intro hS_; refine tk 0 (.pointer (some ⟨x, 0, none⟩)) hS_ ?_; refine tk 1 (.pointer (some ⟨x, 0, none⟩)) hS_ ?_; refine tk 2 (.pointer (some ⟨x, 0, none⟩)) hS_ ?_; refine tk 3 (.map (some mr)) hS_ ?_; refine tk 4 (.agg #[.string nm, .int .i64 n, .string s0, .string s1, .string s2]) hS_ ?_; refine rd1 5 fun K_ hK_ => ?_; refine wp_lookup rfl rfl rfl hl.out ?_; refine hK_.out _ _ rfl fun hS_ => ?_; clear hK_
  (try simp only [Act.put, List.setIfInBounds_toArray, List.set_cons_zero, List.set_cons_succ])
  refine tk 6 (.tuple #[.int .i64 (u : Int), .bool k]) hS_ ?_; refine tk 7 (.int .i64 (u : Int)) hS_ ?_; refine tk 8 (.bool k) hS_ ?_; refine tk 9 (.int .i64 (u : Int)) hS_ ?_; refine tk 10 (.bool k) hS_ ?_; refine wpAnyH_done qae ?_ _; go_wp2; refine bodyPost_ret (v := .bool k) (by simp [results, Tryz.results132, go_sem]) rfl ⟨⟨k, rfl, hk'.out⟩, hbV⟩
theorem implIsSo_any (Bs : Nat → Prop) (x : Nat) (L : List (At × Nat)) (f : At) (no : Bool) (nm : ByteArray) (A : Option Addr) (n c : Nat) (w : World) (h : IxIn w Bs x L) (hf : KeyOk f) :
    Calls Tryz.prog 95 #[.agg #[.pointer (some ⟨x, 0, none⟩), .pointer (some ⟨x, 0, none⟩)], .agg #[.bool no, .string nm, .slice A n c], factV f] w (TellsB (no = true ↔ f ∉ L.map (·.1)) w) := by
  have H := hid h; have HF := hid hf; clear h hf; have hV : factV f = .agg #[.string f.1, .int .i64 f.2.length, .string (wordAt f.2 0), .string (wordAt f.2 1), .string (wordAt f.2 2)] := rfl; have HV := hid hV; rw [hV]; clear hV; obtain ⟨p, hp⟩ : ∃ p, (no = true ↔ f ∉ L.map (·.1)) = p := ⟨_, rfl⟩; rw [hp]; have HP := hid hp; clear hp; have hb3 := below3 w (.cells #[.pointer (some ⟨x, 0, none⟩), .pointer (some ⟨x, 0, none⟩)] 79) (.cells #[.bool no, .string nm, .slice A n c] 52) (.cells #[.string f.1, .int .i64 f.2.length, .string (wordAt f.2 0), .string (wordAt f.2 1), .string (wordAt f.2 2)] 143)
  have xs := ((Blk.new w 79 #[.pointer (some ⟨x, 0, none⟩), .pointer (some ⟨x, 0, none⟩)]).alloc (.cells #[.bool no, .string nm, .slice A n c] 52)).alloc (.cells #[.string f.1, .int .i64 f.2.length, .string (wordAt f.2 0), .string (wordAt f.2 1), .string (wordAt f.2 2)] 143); have xp := (Blk.made (b := w.heap.size + 1) (w.alloc (.cells #[.pointer (some ⟨x, 0, none⟩), .pointer (some ⟨x, 0, none⟩)] 79)) 52 #[.bool no, .string nm, .slice A n c] qad).alloc (.cells #[.string f.1, .int .i64 f.2.length, .string (wordAt f.2 0), .string (wordAt f.2 1), .string (wordAt f.2 2)] 143)
  have xf := Blk.made (b := w.heap.size + 1 + 1) ((w.alloc (.cells #[.pointer (some ⟨x, 0, none⟩), .pointer (some ⟨x, 0, none⟩)] 79)).alloc (.cells #[.bool no, .string nm, .slice A n c] 52)) 143 #[.string f.1, .int .i64 f.2.length, .string (wordAt f.2 0), .string (wordAt f.2 1), .string (wordAt f.2 2)] qad; obtain ⟨w3, hq3⟩ : ∃ w3, ((w.alloc (.cells #[.pointer (some ⟨x, 0, none⟩), .pointer (some ⟨x, 0, none⟩)] 79)).alloc (.cells #[.bool no, .string nm, .slice A n c] 52)).alloc (.cells #[.string f.1, .int .i64 f.2.length, .string (wordAt f.2 0), .string (wordAt f.2 1), .string (wordAt f.2 2)] 143) = w3 := ⟨_, rfl⟩
  rw [hq3] at hb3 xs xp xf; have s0 := xs.cell 0; have s1 := xs.cell 1; have p0 := xp.cell 0; have f0 := xf.cell 0; have f1 := xf.cell 1; have f2 := xf.cell 2; have f3 := xf.cell 3; have f4 := xf.cell 4; simp at s0 s1 p0 f0 f1 f2 f3 f4; have HQ3 := hid hq3; have HH := hid (implHas_any Bs x L f w3 (H.out.keep fun g _ hg => hb3.block g hg) HF.out); have HB := hid hb3; clear hq3 xs xp xf hb3; go_enter Tryz.func95, Tryz.ntmps95
  cases no with
  | true =>
    go_wp2_with (rw [HQ3.out]); refine (HH.out).mono ?_; rintro e w4 ⟨⟨k, rfl, hk⟩, hb4⟩
    have hres : ((!k) = true ↔ p) := by
      rw [← HP.out, Bool.not_eq_true', ← Bool.not_eq_true, hk]; simp
    have HR := hid hres; clear hk hres; go_wp2
    refine bodyPost_ret (v := .bool (!k)) (by simp [results, Tryz.results95, go_sem]) rfl ⟨⟨!k, rfl, HR.out⟩, belowThen HB.out hb4⟩
  | false =>
    go_wp2_with (rw [HQ3.out]); refine (HH.out).mono ?_; rintro e w4 ⟨⟨k, rfl, hk⟩, hb4⟩
    have hres : (k = true ↔ p) := by
      rw [← HP.out, hk]; simp
    have HR := hid hres; clear hk hres; go_wp2; refine bodyPost_ret (v := .bool k) (by simp [results, Tryz.results95, go_sem]) rfl ⟨⟨k, rfl, HR.out⟩, belowThen HB.out hb4⟩
end Go.Proofs.YtcigljngiemdeaaGreat

namespace Go.Proofs.YtcigljngiemdeaaGreat
open Go.RowKit Go.Maps
def SmB (b : Bd) : Prop := ∀ q ∈ b, q.2.size ≤ maxLen
theorem SmB.get {b : Bd} (h : SmB b) {x v : ByteArray} (hg : getW b x = some v) : v.size ≤ maxLen := h _ (getW_mem hg)
theorem SmB.word {b : Bd} (h : SmB b) {t : Tm} (ht : t.2.size ≤ maxLen) : (wordT b t).size ≤ maxLen := by
  unfold wordT; split
  · cases hg : getW b t.2 with
    | none => show ByteArray.empty.size ≤ _; simp
    | some v => exact h.get hg
  · exact ht
def CandOk (Bs : Nat → Prop) (L : List (At × Nat)) (b : Bd) (a : At) (v : Value) (W : World) : Prop :=
  ∃ p : At → Bool, FactsIn W Bs v ((L.map (·.1)).filter p) ∧ (∀ f, p f = true → f.1 = a.1 ∧ f.2.length = a.2.length) ∧ (∀ f ∈ L.map (·.1), ∀ b', matchA a f b = some b' → p f = true)
theorem CandOk.keep {Bs : Nat → Prop} {L : List (At × Nat)} {b : Bd} {a : At} {v : Value} {W W' : World} (h : CandOk Bs L b a v W) (hb : Below W.heap.size W W') : CandOk Bs L b a v W' := by
  obtain ⟨p, h1, h2, h3⟩ := h; exact ⟨p, h1.keep fun g _ hg => hb.block g hg, h2, h3⟩
def CandPost (Bs : Nat → Prop) (L : List (At × Nat)) (b : Bd) (a : At) (w : World) (e : Ending) (w' : World) : Prop := ∃ v, e = .returned v ∧ CandOk Bs L b a v w' ∧ Below w.heap.size w w'
theorem matchA_kind {a f : At} {b b' : Bd} (h : matchA a f b = some b') : a.1 = f.1 ∧ a.2.length = f.2.length := by
  unfold matchA at h; split at h
  · assumption
  · cases h
theorem cand_all {f a : At} {b b' : Bd} (h : matchA a f b = some b') : inSpot (allSpot a) f = true := by
  obtain ⟨h1, h2⟩ := matchA_kind h; rw [inSpot_iff]; unfold spotsOf allSpot; rw [h1, h2]; exact List.mem_cons_self
theorem cand_at {f a : At} {b b' : Bd} {k : Nat} {t : Tm} (hf : FactOk f) (h : matchA a f b = some b') (ht : a.2[k]? = some t) (hk : knownB b t = true) : inSpot (atSpot a k (wordT b t)) f = true := by
  obtain ⟨h1, h2⟩ := matchA_kind h; obtain ⟨_, M⟩ := matchA_some (fun u hu => (hf.words u hu).1) h; have hkl := (List.getElem?_eq_some_iff.1 ht).1; have hu : f.2[k]? = some (fillT b' t) := by rw [← M.fill, List.getElem?_map, ht]; rfl
  have hw : wordAt f.2 k = wordT b t := by
    unfold wordAt; rw [hu]; show wordT b' t = wordT b t; refine wordT_ext M.ext fun h1 h2 => ?_; unfold knownB at hk; rw [h1, h2] at hk; simp at hk
  rw [inSpot_iff]; unfold spotsOf; refine List.mem_cons_of_mem _ (List.mem_map.2 ⟨k, List.mem_range.2 qaa, ?_⟩); unfold atSpot; rw [hw, h1, h2]
theorem implCands_any (Bs : Nat → Prop) (x g : Nat) (L : List (At × Nat)) (b : Bd) (nm : ByteArray) (A : Option Addr) (n c : Nat) (ts : List Tm) (w : World) (h : IxIn w Bs x L) (hb : BdIn w g b) (hg : g < w.heap.size) (hsm : SmB b)
    (hT : IsTerms w 0 w.heap.size A n c ts) (h3 : n ≤ 3) (hnm : nm.size ≤ maxLen) :
    Calls Tryz.prog 96 #[.pointer (some ⟨x, 0, none⟩), .agg #[.string nm, .slice A n c], .pointer (some ⟨g, 0, none⟩)] w (CandPost Bs L b (nm, ts) w) := by
  have hN := hT.1; have H := hid h; obtain ⟨⟨mr, mu, rows, hx, hmr, hmu, hne, hM, hU, hsem⟩, hbx, hok⟩ := h; have HB := hid hb; have HG := hid hg; have HT := hid hT; have HN := hid hN; have HU := hid hU; have HX := hid hx; have hb1 := below1 w (.cells #[.string nm, .slice A n c] 49); have xa := Blk.new w 49 #[.string nm, .slice A n c]; obtain ⟨w1, hq1⟩ : ∃ w1, w.alloc (.cells #[.string nm, .slice A n c] 49) = w1 := ⟨_, rfl⟩; rw [hq1] at hb1 xa; have xx := hx.below hb1; have HQ1 := hid hq1; have HB1 := hid hb1; have XA := hid xa; have XX := hid xx
  have hspot : SpotOk (allSpot (nm, ts)) := ⟨hnm, by show ts.length ≤ maxLen; unfold maxLen; omega, Nat.zero_le _, Nat.zero_le _⟩; have hallV : spotV (allSpot (nm, ts)) = .agg #[.string nm, .int .i64 n, .int .i64 0, .string ⟨#[]⟩] := by rw [← hN]; rfl
  clear hb hg hT hN hU hM hx hq1 hb1 xa xx
  have sw : ∀ W : World, Below w1.heap.size w1 W → W.cell? ⟨x, 1, none⟩ = some (.map (some mu)) ∧ W.cell? ⟨w.heap.size, 0, none⟩ = some (.string nm) ∧ W.cell? ⟨w.heap.size, 1, none⟩ = some (.slice A n c) :=
    fun W hW => ⟨(XX.out.below hW).cell 1, (XA.out.below hW).cell 0, (XA.out.below hW).cell 1⟩
  have SW := hid sw; clear sw; go_enter Tryz.func96, Tryz.ntmps96; go_wp2_with (rw [HQ1.out]); refine wp_region_held_drew (S := fun W => W.cell? ⟨x, 1, none⟩ = some (.map (some mu)) ∧ W.cell? ⟨w.heap.size, 0, none⟩ = some (.string nm) ∧ W.cell? ⟨w.heap.size, 1, none⟩ = some (.slice A n c)) qae (SW.out _ (Below.refl _ _).drew) ?_; intro hS_; refine tk 0 (.pointer (some ⟨x, 0, none⟩)) hS_ ?_; refine tk 1 (.pointer (some ⟨x, 0, none⟩)) hS_ ?_; refine tk 2 (.pointer (some ⟨x, 1, none⟩)) hS_ ?_; refine tk 3 (.map (some mu)) hS_ ?_
  refine tk 4 (.agg #[.string nm, .slice A n c]) hS_ ?_; refine rd1 5 fun K_ hK_ => ?_; go_simp; go_at_call 131; refine (implKindOf_any nm A n c _).mono ?_; rintro e w2 ⟨rfl, hb2⟩; have hb12 : Below w1.heap.size w1 w2 := undrew ((Below.refl _ _).trans hb2); have hbw2 := belowThen HB1.out hb12; have U2 := HU.out.keep (hbw2.block _ HU.out.map.lt) (fun g _ hg => hbw2.block g hg); obtain ⟨v, hrun, hF⟩ := U2.look hspot; rw [hallV] at hrun; refine hK_.out _ _ (SW.out w2 hb12) fun hS_ => ?_; clear hK_
  (try simp only [Act.put, List.setIfInBounds_toArray, List.set_cons_zero, List.set_cons_succ])
  refine tk 6 (.agg #[.string nm, .int .i64 n, .int .i64 0, .string ⟨#[]⟩]) hS_ ?_; refine rd1 7 fun K_ hK_ => ?_; refine wp_lookup rfl rfl rfl hrun ?_; refine hK_.out _ _ hS_ fun hS_ => ?_; clear hK_
  (try simp only [Act.put, List.setIfInBounds_toArray, List.set_cons_zero, List.set_cons_succ])
  refine tk 8 v hS_ ?_; refine wpAnyH_done qae ?_ _; have hC : CandOk Bs L b (nm, ts) v w2 := ⟨inSpot (allSpot (nm, ts)), by rw [← hsem]; exact hF, fun f hf => inSpot_kind hf, fun f _ b' hm => cand_all hm⟩; have HC := hid hC; have HB12 := hid hb12; obtain ⟨y0, y1, y2⟩ := hS_; clear hC hrun hF U2 hbw2 hb2 hb12; go_wp2; clear y0 y1 y2; go_loopw [7, 24] (fun best i wr => ∃ k : Nat, k ≤ n ∧ i = .int .i64 (k : Int) ∧ CandOk Bs L b (nm, ts) best wr ∧ Below w1.heap.size w1 wr) (fun _ i _ => n - (intOf i).toNat)
  case atStart => exact ⟨0, Nat.zero_le _, rfl, HC.out, HB12.out⟩
  case round =>
    clear HC HB12; obtain ⟨k, hk, rfl, hC, hB⟩ := hrel; obtain ⟨p, hF, hp1, hp2⟩ := hC; obtain ⟨A1, c1, rfl, hlc, hcm⟩ := hF.form; obtain ⟨m1, hm1⟩ : ∃ m1, ((L.map (·.1)).filter p).length = m1 := ⟨_, rfl⟩; rw [hm1] at hF hlc ⊢; have HC := hid (show CandOk Bs L b (nm, ts) (.slice A1 m1 c1) wr from ⟨p, hF, hp1, hp2⟩); have HBW := hid hB; have HWW := hid (belowThen HB1.out hB); clear hp1 hp2 hF hm1 hB; by_cases hlt : k < n
    · have hltI : (k : Int) < (n : Int) := qaa
      obtain ⟨q, t, hA, _, _, hgt, z1, z2, hz⟩ := (HT.out.up HWW.out).at_ hlt; subst hA; have HGT := hid hgt; have HZ := hid hz; clear hgt hz; go_wp2_with fail; have hb4 := belowThen HWW.out (below1 wr (.cells #[.bool t.1, .string t.2] 59)); refine (implWordOf_any g b t _ (HB.out.keep (fun j => hb4.cell HG.out) (fun j => hb4.frozen HG.out)) qdd).mono ?_; rintro e w5 ⟨rfl, hb5⟩; have hbr5 := belowThen (below1 wr (.cells #[.bool t.1, .string t.2] 59)) hb5; have HC5 := hid (HC.out.keep hbr5); have HB5 := hid (belowThen HBW.out hbr5)
      have HW5 := hid (belowThen HWW.out hbr5); clear z1 z2 hb4 hb5 hbr5
      cases hkn : knownB b t with
      | false =>
        go_wp2
        refine ⟨⟨k + 1, by omega, by go_num, HC5.out, HB5.out⟩, by simp [intOf]; omega⟩
      | true =>
        have hspot : SpotOk (atSpot (nm, ts) k (wordT b t)) := ⟨hnm, by show ts.length ≤ maxLen; have := HN.out; unfold maxLen; omega, by show k ≤ maxLen; unfold maxLen; omega, hsm.word HZ.out⟩; have hatV : spotV (atSpot (nm, ts) k (wordT b t)) = .agg #[.string nm, .int .i64 n, .int .i64 (k : Int), .string (wordT b t)] := by rw [← HN.out]; rfl
        have hcand : ∀ f ∈ L.map (·.1), ∀ b', matchA (nm, ts) f b = some b' → inSpot (atSpot (nm, ts) k (wordT b t)) f = true := fun f hf b' hm => by
          obtain ⟨q, hq, rfl⟩ := List.mem_map.1 hf; exact cand_at (hok q hq) hm HGT.out hkn
        have HCA := hid hcand; clear hcand; obtain ⟨s, hs⟩ : ∃ s, wordT b t = s := ⟨_, rfl⟩; rw [hs] at hspot hatV HCA ⊢; have hatV' := hatV; obtain ⟨sp, hsp⟩ : ∃ sp, atSpot (nm, ts) k s = sp := ⟨_, rfl⟩; rw [hsp] at hspot hatV HCA; have HSP := hid hspot; have HAV := hid hatV; have HSS := hid hsp; clear hspot hatV hatV' hsp hs; go_wp2_with fail; refine wp_region_held_drew (S := fun W => W.cell? ⟨x, 1, none⟩ = some (.map (some mu)) ∧ W.cell? ⟨w.heap.size, 0, none⟩ = some (.string nm) ∧ W.cell? ⟨w.heap.size, 1, none⟩ = some (.slice (some q) n c)) qae (SW.out _ HB5.out.drew) ?_; intro hS_; refine tk 0 (.pointer (some ⟨x, 0, none⟩)) hS_ ?_
        refine tk 1 (.pointer (some ⟨x, 0, none⟩)) hS_ ?_; refine tk 2 (.pointer (some ⟨x, 1, none⟩)) hS_ ?_; refine tk 3 (.map (some mu)) hS_ ?_; refine tk 4 (.agg #[.string nm, .slice (some q) n c]) hS_ ?_; refine tk 6 (.int .i64 (k : Int)) hS_ ?_; refine tk 7 (.string s) hS_ ?_; refine rd1 5 fun K_ hK_ => ?_; go_simp; go_at_call 131; refine (implKindOf_any nm (some q) n c _).mono ?_; rintro e w6 ⟨rfl, hb6⟩; have hb56 : Below w5.heap.size w5 w6 := undrew ((Below.refl _ _).trans hb6); have hb16 := belowThen HB5.out hb56; have hbw6 := belowThen HW5.out hb56; have U6 := HU.out.keep (hbw6.block _ HU.out.map.lt) (fun g _ hg => hbw6.block g hg)
        obtain ⟨v2, hrun, hF2⟩ := U6.look HSP.out; rw [HAV.out] at hrun; refine hK_.out _ _ (SW.out w6 hb16) fun hS_ => ?_; clear hK_
        (try simp only [Act.put, List.setIfInBounds_toArray, List.set_cons_zero, List.set_cons_succ])
        refine tk 8 (.agg #[.string nm, .int .i64 n, .int .i64 (k : Int), .string s]) hS_ ?_; refine rd1 9 fun K_ hK_ => ?_; refine wp_lookup rfl rfl rfl hrun ?_; refine hK_.out _ _ hS_ fun hS_ => ?_; clear hK_
        (try simp only [Act.put, List.setIfInBounds_toArray, List.set_cons_zero, List.set_cons_succ])
        refine tk 10 v2 hS_ ?_; refine wpAnyH_done qae ?_ _; obtain ⟨A2, c2, rfl, _, _⟩ := hF2.form; have hC2 : CandOk Bs L b (nm, ts) (.slice A2 (rowsAt rows sp).length c2) w6 := ⟨inSpot sp, by rw [← hsem]; exact hF2, fun f hf => by rw [← HSS.out] at hf; exact inSpot_kind hf, HCA.out⟩; obtain ⟨m2, hm2⟩ : ∃ m2, (rowsAt rows sp).length = m2 := ⟨_, rfl⟩; rw [hm2] at hC2 ⊢; have HC2 := hid hC2; have HC6 := hid (HC5.out.keep hb56); have HB6 := hid hb16; clear hC2 hrun hF2 U6 hbw6 hb6 hb56 hb16 hS_ hm2; by_cases hll : m2 < m1
        · have hllI : (m2 : Int) < (m1 : Int) := qaa
          go_wp2; refine ⟨⟨k + 1, by omega, by go_num, HC2.out, HB6.out⟩, by simp [intOf]; omega⟩
        · have hllI : ¬ (m2 : Int) < (m1 : Int) := qaa
          go_wp2; refine ⟨⟨k + 1, by omega, by go_num, HC6.out, HB6.out⟩, by simp [intOf]; omega⟩
    · go_wp2
      refine bodyPost_ret (v := .slice A1 m1 c1) (by simp [results, Tryz.results96, go_sem]) rfl ⟨_, rfl, HC.out, HWW.out⟩
end Go.Proofs.YtcigljngiemdeaaGreat

namespace Go.Proofs.YtcigljngiemdeaaGreat
open Go.RowKit Go.Maps
def IxPost (L : List (At × Nat)) (w : World) (e : Ending) (w' : World) : Prop := ∃ x, e = .returned (.pointer (some ⟨x, 0, none⟩)) ∧ IxIn w' (fun k => w.heap.size ≤ k ∧ k < w'.heap.size) x L ∧ Below w.heap.size w w'
theorem OffB.toBelow {w0 w w' : World} {Bs : Nat → Prop} (h0 : Below w0.heap.size w0 w) (h : OffB Bs w w') (hs : ∀ k, Bs k → w0.heap.size ≤ k) : Below w0.heap.size w0 w' :=
  ⟨h.os.trans h0.os, h.tape.trans h0.tape, h.output.trans h0.output, Nat.le_trans h0.size h.size, fun k hk => (h.block k (Nat.lt_of_lt_of_le hk h0.size) (fun e => by have := hs k e; omega)).trans (h0.block k hk)⟩
theorem implIndexOf_any (A : Option Addr) (n c : Nat) (xs : List At) (w : World) (hA : IsAtoms w 0 w.heap.size A n c xs) (hf : ∀ f ∈ xs, FactOk f) (hd : xs.Nodup) (hL : n ≤ 1000000) :
    Calls Tryz.prog 45 #[.slice A n c] w (IxPost (xs.map fun f => (f, 0)) w) := by
  have HA := hid hA; have HF := hid hf; have HD := hid hd; have HN := hid hA.1; clear hA hf hd; have hb3 := below3 w (.map #[] 0) (.map #[] 0) (.cells #[.map (some w.heap.size), .map (some (w.heap.size + 1))] 137); have M1 := ((MapIn.made Tryz.prog 143 w).keep (w' := (w.alloc (.map #[] 0)).alloc (.map #[] 0)) (Below.heap_alloc _ _ _ qad)).keep (w' := ((w.alloc (.map #[] 0)).alloc (.map #[] 0)).alloc (.cells #[.map (some w.heap.size), .map (some (w.heap.size + 1))] 137)) (Below.heap_alloc _ _ _ qaf)
  have M2 := (MapIn.made Tryz.prog 189 (w.alloc (.map #[] 0))).keep (w' := ((w.alloc (.map #[] 0)).alloc (.map #[] 0)).alloc (.cells #[.map (some w.heap.size), .map (some (w.heap.size + 1))] 137)) (Below.heap_alloc _ _ _ qad); have xx := Blk.made (b := w.heap.size + 2) ((w.alloc (.map #[] 0)).alloc (.map #[] 0)) 137 #[.map (some w.heap.size), .map (some (w.heap.size + 1))] qad; obtain ⟨w3, hq3⟩ : ∃ w3, ((w.alloc (.map #[] 0)).alloc (.map #[] 0)).alloc (.cells #[.map (some w.heap.size), .map (some (w.heap.size + 1))] 137) = w3 := ⟨_, rfl⟩
  have hz3 : w3.heap.size = w.heap.size + 3 := by rw [← hq3]; simp
  rw [hq3] at hb3 M1 M2 xx; rw [show (w.alloc (.map #[] 0)).heap.size = w.heap.size + 1 by simp] at M2
  have IX : IxIn w3 (fun k => w.heap.size ≤ k ∧ k < w3.heap.size) (w.heap.size + 2) [] := by
    refine ⟨⟨w.heap.size, w.heap.size + 1, [], xx, ⟨by omega, by omega⟩, ⟨by omega, by omega⟩, by omega, M1, ⟨M2, fun r hr => by simp at hr, List.Pairwise.nil⟩, fun s => rfl⟩, ⟨by omega, by omega⟩, fun q hq => by simp at hq⟩
  have HQ3 := hid hq3; have HIX := hid IX; have HB3 := hid hb3; clear hq3 IX hb3 M1 M2 xx; go_enter Tryz.func45, Tryz.ntmps45; have hmm := @run_makeMap Tryz.prog; go_wp2_with (rw [HQ3.out]); clear hmm; go_loopw [12] (fun i wr => ∃ k : Nat, k ≤ n ∧ i = .int .i64 (k : Int) ∧ IxIn wr (fun j => w.heap.size ≤ j ∧ j < wr.heap.size) (w.heap.size + 2) ((xs.take k).map fun f => (f, 0)) ∧ Below w.heap.size w wr) (fun i _ => n - (intOf i).toNat)
  case atStart => exact ⟨0, Nat.zero_le _, rfl, HIX.out, HB3.out⟩
  case round =>
    clear HIX HB3 HQ3 hz3; obtain ⟨k, hk, rfl, hI, hB⟩ := hrel; have HI := hid hI; have HBW := hid hB; clear hI hB; by_cases hlt : k < n
    · have hltI : (k : Int) < (n : Int) := qaa
      obtain ⟨p, a, hAp, _, hpb, hga, hae⟩ := (HA.out.up AtomE.stays HBW.out).at_ hlt; obtain ⟨B, m, d, z1, hnm, z2, hT⟩ := hae.out; subst hAp; have HGA := hid hga; have HT := hid hT; have hfo := HF.out a (List.mem_of_getElem? hga); have hm3 : m ≤ 3 := by have := hT.1; have := hfo.few; omega
      clear hga hT hae hpb; go_wp2_with fail; have hb4 := belowThen HBW.out (below1 wr (.cells #[.string a.1, .slice B m d] 49)); refine (implFactOf0_any a.1 B m d a.2 _ (HT.out.up (below1 wr (.cells #[.string a.1, .slice B m d] 49))) hm3 (fun t ht => (hfo.words t ht).1)).mono ?_; rintro e w5 ⟨rfl, hb5⟩; have hb45 := belowThen (below1 wr (.cells #[.string a.1, .slice B m d] 49)) hb5; have hbw5 := belowThen HBW.out hb45; have hI5 : IxIn w5 (fun j => w.heap.size ≤ j ∧ j < wr.heap.size) (w.heap.size + 2) ((xs.take k).map fun f => (f, 0)) := HI.out.keep fun g _ hg => hb45.block g hg
      have hs45 := hb45.size
      have hnew : ∀ q ∈ (xs.take k).map (fun f => (f, 0)), q.1 ≠ a := fun q hq e => by
        obtain ⟨f, hf, rfl⟩ := List.mem_map.1 hq; obtain ⟨j, hj⟩ := List.getElem?_of_mem hf; rw [List.getElem?_take] at hj; split at hj
        · obtain ⟨a1, a2⟩ := List.getElem?_eq_some_iff.1 hj
          obtain ⟨b1, b2⟩ := List.getElem?_eq_some_iff.1 HGA.out; have := (List.getElem_inj HD.out).1 (a2.trans (e.trans b2.symm)); omega
        · cases hj
      have hadd := implAdd_any _ (w.heap.size + 2) 0 _ a w5 hI5 hfo hnew (by rw [List.length_map, List.length_take]; omega) (fun j hj => by omega); have HADD := hid hadd; clear hadd hnew hI5 z1 z2 hb5; go_wp2_with fail; refine HADD.out.mono ?_; rintro e w6 ⟨rfl, hI6, ho6⟩; have hs6 := ho6.size
      have hI : IxIn w6 (fun j => w.heap.size ≤ j ∧ j < w6.heap.size) (w.heap.size + 2) ((xs.take (k + 1)).map fun f => (f, 0)) := by
        rw [List.take_add_one, HGA.out, List.map_append]; refine hI6.more fun j hj => ?_; have hsb := HBW.out.size; rcases hj with h | h
        · exact ⟨h.1, by omega⟩
        · exact ⟨by omega, h.2⟩
      have hB6 : Below w.heap.size w w6 := ho6.toBelow hbw5 fun j hj => hj.1; have HI6 := hid hI; have HB6 := hid hB6; clear hI hB6 hI6 ho6 HADD; go_wp2; refine ⟨⟨k + 1, by omega, by go_num, HI6.out, HB6.out⟩, by simp [intOf]; omega⟩
    · go_wp2
      refine bodyPost_ret (v := .pointer (some ⟨w.heap.size + 2, 0, none⟩)) (by simp [results, Tryz.results45, go_sem]) rfl ⟨_, rfl, ?_, HBW.out⟩; have := HI.out
      rwa [List.take_of_length_le qcj] at this
end Go.Proofs.YtcigljngiemdeaaGreat

namespace Go.Proofs.YtcigljngiemdeaaGreat
open Go.RowKit
structure Pr where
  no : Bool
  nm : ByteArray
  A : Option Addr
  n : Nat
  c : Nat
  ts : List Tm
def Pr.pt (q : Pr) : Pt := (q.no, (q.nm, q.ts))
def pcells (q : Pr) : List Value := [.bool q.no, .string q.nm, .slice q.A q.n q.c]
def psCells (qs : List Pr) : List Value := qs.flatMap pcells
theorem psCells_snoc (qs : List Pr) (q : Pr) : psCells (qs ++ [q]) = psCells qs ++ pcells q := by unfold psCells; simp [List.flatMap_append]
theorem psCells_append (qs ps : List Pr) : psCells (qs ++ ps) = psCells qs ++ psCells ps := by unfold psCells; simp [List.flatMap_append]
theorem psCells_len : ∀ qs : List Pr, (psCells qs).length = qs.length * 3
  | [] => rfl
  | q :: qs => by
    have := psCells_len qs; show (pcells q ++ psCells qs).length = _; rw [List.length_append, this, List.length_cons]; simp [pcells]; omega
theorem psCells_one (qs : List Pr) : ∀ u ∈ psCells qs, u.oneCell' = true := by
  intro u hu; unfold psCells at hu; obtain ⟨q, _, hq⟩ := List.mem_flatMap.1 hu; unfold pcells at hq; simp at hq; rcases hq with rfl | rfl | rfl <;> rfl
theorem psCells_at : ∀ {qs : List Pr} {i : Nat} {q : Pr}, qs[i]? = some q → ∀ j, j < 3 → (psCells qs)[i * 3 + j]? = (pcells q)[j]?
  | [], i, f, h, _, _ => by simp at h
  | q :: fs, 0, f, h, j, hj => by
    simp at h; subst h; show (pcells q ++ psCells fs)[0 * 3 + j]? = _
    rw [Nat.zero_mul, Nat.zero_add, List.getElem?_append_left (by simp [pcells]; omega)]
  | q :: fs, i + 1, f, h, j, hj => by
    have ih := psCells_at (qs := fs) (i := i) (q := f) qbd j hj; show (pcells q ++ psCells fs)[(i + 1) * 3 + j]? = _; rw [List.getElem?_append_right (by simp [pcells]; omega), ← ih]; congr 1; simp [pcells]; omega
def PrOk (w : World) (hiT : Nat) (q : Pr) : Prop := q.nm.size ≤ maxLen ∧ q.n ≤ 3 ∧ IsTerms w 0 hiT q.A q.n q.c q.ts
structure PartsIn (w : World) (hiT : Nat) (Ok : Nat → Prop) (A : Option Addr) (n c : Nat) (qs : List Pr) : Prop where
  len : qs.length = n
  cap : n ≤ c
  max : c ≤ maxLen
  row : 0 < n → ∃ p, A = some p ∧ Ok p.block ∧ p.block < w.heap.size ∧ ∀ j u, (psCells qs)[j]? = some u → w.cell? (p.add j) = some u
  ok : ∀ q ∈ qs, PrOk w hiT q
section
variable {w w' : World} {hiT n c i : Nat} {Ok Ok' : Nat → Prop} {A : Option Addr} {qs ps : List Pr} {q : Pr}
theorem PrOk.keep (h : PrOk w hiT q) (hk : ∀ k, k < hiT → w'.heap[k]? = w.heap[k]?) : PrOk w' hiT q :=
  ⟨h.1, h.2.1, h.2.2.keep (fun _ _ hp => cb_ (hk _ hp)) (nl _) (nl _)⟩
theorem PartsIn.keep (h : PartsIn w hiT Ok A n c qs) (hT : ∀ k, k < hiT → w'.heap[k]? = w.heap[k]?) (hk : ∀ k, Ok k → k < w.heap.size → w'.heap[k]? = w.heap[k]?) (hs : w.heap.size ≤ w'.heap.size) : PartsIn w' hiT Ok A n c qs :=
  ⟨h.len, h.cap, h.max, fun hn => by
    obtain ⟨p, h1, h2, h3, h4⟩ := h.row hn; exact ⟨p, h1, h2, by omega, fun j u hu => (cb_ (by rw [block_add]; exact hk _ h2 h3)).trans (h4 j u hu)⟩, fun q hq => (h.ok q hq).keep hT⟩
theorem PartsIn.up (h : PartsIn w hiT Ok A n c qs) (hT : hiT ≤ w.heap.size) (hb : Below w.heap.size w w') : PartsIn w' hiT Ok A n c qs :=
  h.keep (fun k hk => hb.block k qaa) (fun k _ hk => hb.block k hk) hb.size
theorem PartsIn.more (h : PartsIn w hiT Ok A n c qs) (hs : ∀ k, k < w.heap.size → Ok k → Ok' k) : PartsIn w hiT Ok' A n c qs :=
  ⟨h.len, h.cap, h.max, fun hn => by
    obtain ⟨p, h1, h2, h3, h4⟩ := h.row hn; exact ⟨p, h1, hs _ h3 h2, h3, h4⟩, h.ok⟩
theorem PartsIn.at_ (h : PartsIn w hiT Ok A n c qs) (hi : i < n) : ∃ p q, A = some p ∧ Ok p.block ∧ p.block < w.heap.size ∧ qs[i]? = some q ∧ w.cell? (p.add (i * 3)) = some (.bool q.no) ∧ w.cell? ⟨(p.add (i * 3)).block, (p.add (i * 3)).off + 1, none⟩ = some (.string q.nm) ∧ w.cell? ⟨(p.add (i * 3)).block, (p.add (i * 3)).off + 2, none⟩ = some (.slice q.A q.n q.c) := by
  obtain ⟨p, h1, h2, h3, h4⟩ := h.row qaa; obtain ⟨q, hq⟩ : ∃ q, qs[i]? = some q := ⟨_, List.getElem?_eq_getElem (by rw [h.len]; exact hi)⟩; have c0 := h4 (i * 3 + 0) _ ((psCells_at hq 0 qaa).trans rfl); have c1 := h4 (i * 3 + 1) _ ((psCells_at hq 1 qaa).trans rfl); have c2 := h4 (i * 3 + 2) _ ((psCells_at hq 2 qaa).trans rfl); refine ⟨p, q, h1, h2, h3, hq, c0, by rw [add_next]; exact c1, ?_⟩
  have e : (⟨(p.add (i * 3)).block, (p.add (i * 3)).off + 2, none⟩ : Addr) = p.add (i * 3 + 2) := by
    unfold Addr.add; by_cases hk : i * 3 = 0
    · rw [if_pos qde, hk]; simp
    · rw [if_neg qde, if_neg qad]; simp [Nat.add_assoc]
  rw [e]; exact c2
theorem PartsIn.own {v : Value} {base : Nat} (h : w.ownsRow base 52 3 v qs.length (psCells qs)) (hq : ∀ q ∈ qs, PrOk w hiT q) (hO : ∀ g, v.ownBlock = some g → Ok g) : ∃ A c, v = .slice A qs.length c ∧ PartsIn w hiT Ok A qs.length c qs := by
  rcases h.2 with ⟨e, h0⟩ | ⟨g, cap, cur, e, hb, hg, h1, h2, h3, h4⟩
  · exact ⟨none, 0, by rw [e, h0], ⟨rfl, by omega, by unfold maxLen; omega, fun hn => by omega, hq⟩⟩
  · refine ⟨_, cap, e, ⟨rfl, h1, h2, fun _ => ⟨⟨g, 0, none⟩, rfl, hO g qed, (Array.getElem?_eq_some_iff.1 hg).1, fun j u hu => ?_⟩, hq⟩⟩
    have a0 : (⟨g, 0, none⟩ : Addr).add j = ⟨g, j, none⟩ := by unfold Addr.add; split <;> simp_all
    have hj := (List.getElem?_eq_some_iff.1 hu).1; rw [psCells_len] at hj; rw [← h4, List.getElem?_take, if_pos qaa] at hu; rw [a0]; simp [World.cell?, hg]; simpa using hu
theorem PartsIn.drop {p : Addr} (h : PartsIn w hiT Ok (some p) n c qs) {k : Nat} (hk : k ≤ n) : PartsIn w hiT Ok (some (if k = c then p else p.add (k * 3))) (n - k) (c - k) (qs.drop k) :=
  ⟨by rw [List.length_drop, h.len], by have := h.cap; omega, by have := h.max; omega, fun hn => by
    obtain ⟨p', h1, h2, h3, h4⟩ := h.row qaa; injection h1 with h1; subst h1; have := h.cap; rw [if_neg qaa]; refine ⟨_, rfl, by rw [block_add]; exact h2, by rw [block_add]; exact h3, fun j u hu => ?_⟩; have e : psCells qs = psCells (qs.take k) ++ psCells (qs.drop k) := by rw [← psCells_append, List.take_append_drop]
    have hl : (psCells (qs.take k)).length = k * 3 := by rw [psCells_len, List.length_take, h.len, Nat.min_eq_left hk]
    have h5 := h4 (k * 3 + j) u (by rw [e, List.getElem?_append_right qaa, hl, Nat.add_sub_cancel_left]; exact hu)
    have e2 : (p.add (k * 3)).add j = p.add (k * 3 + j) := by
      unfold Addr.add; by_cases h0 : k * 3 = 0
      · rw [h0]; simp
      · by_cases hj : j = 0
        · subst hj; simp
        · simp [h0, hj]
          omega
    rw [e2]; exact h5, fun q hq => h.ok q (List.mem_of_mem_drop hq)⟩
theorem PartsIn.take {k : Nat} (h : PartsIn w hiT Ok A n c qs) (hk : k ≤ n) : PartsIn w hiT Ok A k c (qs.take k) :=
  ⟨by rw [List.length_take, h.len, Nat.min_eq_left hk], by have := h.cap; omega, h.max, fun hn => by
    obtain ⟨p, h1, h2, h3, h4⟩ := h.row qaa; refine ⟨p, h1, h2, h3, fun j u hu => h4 j u ?_⟩; have e : psCells qs = psCells (qs.take k) ++ psCells (qs.drop k) := by rw [← psCells_append, List.take_append_drop]
    rw [e, List.getElem?_append_left (List.getElem?_eq_some_iff.1 hu).1]; exact hu, fun q hq => h.ok q (List.mem_of_mem_take hq)⟩
end
theorem list_choose {α : Type} {R : Nat → α → Prop} : ∀ {n : Nat}, (∀ i, i < n → ∃ x, R i x) → ∃ l : List α, l.length = n ∧ ∀ i x, l[i]? = some x → R i x
  | 0, _ => ⟨[], rfl, fun i x h => by simp at h⟩
  | n + 1, h => by
    obtain ⟨l, h1, h2⟩ := list_choose (n := n) (fun i hi => h i qaa); obtain ⟨x, hx⟩ := h n qaa; refine ⟨l ++ [x], by simp [h1], fun i y hy => ?_⟩; by_cases e : i < n
    · rw [List.getElem?_append_left qaa] at hy; exact h2 i y hy
    · have hi : i < (l ++ [x]).length := (List.getElem?_eq_some_iff.1 hy).1
      rw [List.length_append, List.length_singleton, h1] at hi; have e : i = n := qaa; subst e; rw [List.getElem?_append_right qaa, h1, Nat.sub_self] at hy; simp at hy; subst hy; exact hx
theorem PartsIn.of {w : World} {A : Option Addr} {n c hi : Nat} {ps : List Pt} (h : IsParts w 0 hi A n c ps) (h3 : ∀ q ∈ ps, q.2.2.length ≤ 3) (hh : hi ≤ w.heap.size) : ∃ qs : List Pr, qs.map Pr.pt = ps ∧ PartsIn w hi (fun k => k < hi) A n c qs := by
  obtain ⟨h1, h2, h4, h5⟩ := h; by_cases hn : 0 < n
  · obtain ⟨p, hp, _, hhi, he⟩ := h5 hn
    obtain ⟨qs, hl, hq⟩ := list_choose (n := n) (R := fun i (q : Pr) => ps[i]? = some q.pt ∧ PrOk w hi q ∧ w.cell? (p.add (i * 3)) = some (.bool q.no) ∧ w.cell? (nextTo (p.add (i * 3)) 1) = some (.string q.nm) ∧ w.cell? (nextTo (p.add (i * 3)) 2) = some (.slice q.A q.n q.c)) (fun i hi => by
      obtain ⟨x, hx⟩ : ∃ x, ps[i]? = some x := ⟨_, List.getElem?_eq_getElem qaa⟩; obtain ⟨e1, e2, e3, A', n', c', e4, e5⟩ := he i x hx; exact ⟨⟨x.1, x.2.1, A', n', c', x.2.2⟩, hx, ⟨e3, by have := h3 x (List.mem_of_getElem? hx); have := e5.1; show n' ≤ 3; omega, e5⟩, e1, e2, e4⟩)
    refine ⟨qs, ?_, ⟨hl, h2, h4, fun _ => ⟨p, hp, hhi, by omega, fun j u hu => ?_⟩, fun q hqm => ?_⟩⟩
    · refine List.ext_getElem? fun i => ?_
      rw [List.getElem?_map]; by_cases hi : i < n
      · obtain ⟨q, hqi⟩ : ∃ q, qs[i]? = some q := ⟨_, List.getElem?_eq_getElem qaa⟩
        rw [hqi, (hq i q hqi).1]; rfl
      · rw [List.getElem?_eq_none qaa, List.getElem?_eq_none qaa]; rfl
    · have hj := (List.getElem?_eq_some_iff.1 hu).1
      rw [psCells_len] at hj; obtain ⟨q, hqi⟩ : ∃ q, qs[j / 3]? = some q := ⟨_, List.getElem?_eq_getElem qaa⟩; have hcell := psCells_at hqi (j % 3) qaa; have hjj : j / 3 * 3 + j % 3 = j := qaa; rw [hjj, hu] at hcell; obtain ⟨_, _, c0, c1, c2⟩ := hq _ q hqi
      have hadd : ∀ m, w.cell? (nextTo (p.add (j / 3 * 3)) m) = w.cell? (p.add (j / 3 * 3 + m)) ∨ m = 0 := fun m => by
        by_cases hm : m = 0
        · exact .inr hm
        · left
          congr 1; unfold nextTo Addr.add; by_cases hk : j / 3 * 3 = 0
          · simp [hk, hm]
          · simp [hk, hm]; omega
      have h3j : j % 3 = 0 ∨ j % 3 = 1 ∨ j % 3 = 2 := qaa; rcases h3j with e | e | e
      · rw [e] at hcell hjj
        rw [← hjj, Nat.add_zero, c0]; simpa [pcells] using hcell.symm
      · rw [e] at hcell hjj
        rw [← hjj, ← ((hadd 1).resolve_right qaa), c1]; simpa [pcells] using hcell.symm
      · rw [e] at hcell hjj
        rw [← hjj, ← ((hadd 2).resolve_right qaa), c2]; simpa [pcells] using hcell.symm
    · obtain ⟨i, hi⟩ := List.getElem?_of_mem hqm
      exact (hq i q hi).2.1
  · have e0 : ps = [] := List.length_eq_zero_iff.1 qaa
    exact ⟨[], by rw [e0]; rfl, ⟨by simp; omega, h2, h4, fun hn' => absurd hn' hn, fun q hq => by simp at hq⟩⟩
theorem Tryz.infoPrt : (Tryz.prog.info? 52).map (fun i => (i.zero, i.size, i.bytes)) = some (some (.agg #[.bool false, .string ⟨#[]⟩, .slice none 0 0]), 3, 48) := by kernel_rfl
def SplitPost (hiT : Nat) (qs : List Pr) (w : World) (e : Ending) (w' : World) : Prop := ∃ A n c B m d, e = .returned (.tuple #[.slice A n c, .slice B m d]) ∧
  PartsIn w' hiT (fun k => w.heap.size ≤ k) A n c (qs.filter fun q => !q.no) ∧ PartsIn w' hiT (fun k => w.heap.size ≤ k) B m d (qs.filter fun q => q.no) ∧ Below w.heap.size w w'
structure SplitIn (w : World) (hiT : Nat) (v u : Value) (ps ns : List Pr) (W : World) : Prop where
  V : W.ownsRow w.heap.size 52 3 v ps.length (psCells ps)
  U : W.ownsRow w.heap.size 52 3 u ns.length (psCells ns)
  apart : ∀ g, v.ownBlock = some g → u.ownBlock ≠ some g
  gr : Below w.heap.size w W
theorem SplitIn.swap {w : World} {hiT : Nat} {v u : Value} {ps ns : List Pr} {W : World} (h : SplitIn w hiT v u ps ns W) : SplitIn w hiT u v ns ps W := ⟨h.U, h.V, fun g e e' => h.apart g e' e, h.gr⟩
theorem SplitIn.below {w : World} {hiT : Nat} {v u : Value} {ps ns : List Pr} {W W' : World} (h : SplitIn w hiT v u ps ns W) (hb : Below W.heap.size W W') : SplitIn w hiT v u ps ns W' :=
  ⟨ownsRow_up h.V hb, ownsRow_up h.U hb, h.apart, belowThen h.gr hb⟩
theorem SplitIn.more {w : World} {hiT : Nat} {v u : Value} {ps ns : List Pr} {W W1 : World} {q : Pr} {P : Nat} (h : SplitIn w hiT v u ps ns W) (hb : Below W.heap.size W W1) (hP : Blk W1 P 52 (pcells q).toArray) (hl : ps.length ≤ 1000000) :
    ∃ g m cap W2, (Builtin.append_ #[30, 30] 30 #[v, .slice (some ⟨P, 0, none⟩) 1 1]).run Tryz.prog W1 = .ok (.slice (some ⟨g, 0, none⟩) m cap) W2 ∧ SplitIn w hiT (.slice (some ⟨g, 0, none⟩) m cap) u (ps ++ [q]) ns W2 := by
  have h1 := h.below hb; obtain ⟨i0, hi0, hz0, hsz0, hby0⟩ := info_parts Tryz.infoPrt; have hs1 := h1.gr.size; obtain ⟨g, cap, W2, hr, hown, hg, hlies, _⟩ := run_append_lies (P := Tryz.prog) W1 30 30 w.heap.size 52 i0 _ 3 48 Tryz.underlying30 hi0 hz0 hsz0 hby0 rfl qaa v ps.length (psCells ps) h1.V ⟨P, 0, none⟩ 1 1 (pcells q) qab (World.news_of_block hP) (by intro u hu; unfold pcells at hu; simp at hu; rcases hu with rfl | rfl | rfl <;> rfl) qaa qac qaa hs1 W1.heap.size rfl; refine ⟨g, _, cap, W2, hr, by rw [psCells_snoc, List.length_append]; exact hown, h1.U.kept hg ?_, ?_, h1.gr.grown hg hs1 (fun j e => (h1.V.lt j e).1)⟩
  · cases ho : u.ownBlock with
    | none => exact .inl rfl
    | some k => exact .inr (fun e => h1.apart k e.symm ho)
  · intro k hk e
    obtain rfl : g = k := by simpa [Value.ownBlock] using hk
    rcases hlies with e' | e'
    · exact h1.apart _ e' e
    · have := (h1.U.lt _ e).2; omega
theorem filter_yes {α : Type} {p : α → Bool} {xs : List α} {k : Nat} {x : α} (h : xs[k]? = some x) (hp : p x = true) : (xs.take (k + 1)).filter p = (xs.take k).filter p ++ [x] := by
  rw [List.take_add_one, h, List.filter_append]; simp [hp]
theorem filter_not {α : Type} {p : α → Bool} {xs : List α} {k : Nat} {x : α} (h : xs[k]? = some x) (hp : p x = false) : (xs.take (k + 1)).filter p = (xs.take k).filter p := by
  rw [List.take_add_one, h, List.filter_append]; simp [hp]
theorem filter_few {α : Type} (p : α → Bool) (xs : List α) (k : Nat) : ((xs.take k).filter p).length ≤ k := Nat.le_trans (List.length_filter_le _ _) qcn
theorem implSplit_any (hiT : Nat) (Ok : Nat → Prop) (A : Option Addr) (n c : Nat) (qs : List Pr) (w : World) (h : PartsIn w hiT Ok A n c qs) (hT : hiT ≤ w.heap.size) (hL : n ≤ 1000) :
    Calls Tryz.prog 46 #[.slice A n c] w (SplitPost hiT qs w) := by
  have H := hid h; have HC := hid h.cap; have HM := hid h.max; have HL := hid h.len; have hcap := h.cap; have hmax := h.max; unfold maxLen at hmax; clear h; have h0 : SplitIn w hiT (.slice none 0 0) (.slice none 0 0) [] [] w := ⟨World.ownsRow_nil _ _ _ _, World.ownsRow_nil _ _ _ _, (fun g e => by cases e), Below.refl _ _⟩; have H0 := hid h0; clear h0; go_enter Tryz.func46, Tryz.ntmps46; go_wp2; go_loopw [4, 5, 10] (fun v u i wr => ∃ k : Nat, k ≤ n ∧ i = .int .i64 (k : Int) ∧ SplitIn w hiT v u ((qs.take k).filter fun q => !q.no) ((qs.take k).filter fun q => q.no) wr) (fun _ _ i _ => n - (intOf i).toNat)
  case atStart => exact ⟨0, Nat.zero_le _, rfl, H0.out⟩
  case round =>
    clear H0; obtain ⟨k, hk, rfl, hS⟩ := hrel; have HS := hid hS; clear hS; by_cases hlt : k < n
    · have hltI : (k : Int) < (n : Int) := qaa
      obtain ⟨p, q, hA, _, hpb, hq, z0, z1, z2⟩ := (H.out.up hT HS.out.gr).at_ hlt; subst hA; have HQ := hid hq; have xb := Blk.new wr 52 #[.bool q.no, .string q.nm, .slice q.A q.n q.c]; obtain ⟨w4, hq4⟩ : ∃ w4, wr.alloc (.cells #[.bool q.no, .string q.nm, .slice q.A q.n q.c] 52) = w4 := ⟨_, rfl⟩; have hb4 : Below wr.heap.size wr w4 := by rw [← hq4]; exact below1 _ _
      rw [hq4] at xb; have y0 := xb.cell 0; have y1 := xb.cell 1; have y2 := xb.cell 2; simp at y0 y1 y2; have hb5 := belowThen hb4 (below1 w4 (.cells #[.bool q.no, .string q.nm, .slice q.A q.n q.c] 52)); have HQ4 := hid hq4; clear hq hpb hq4
      cases hno : q.no with
      | true =>
        obtain ⟨g, m, cap, W2, hr, hS2⟩ := HS.out.swap.more (q := q) (P := w4.heap.size) hb5 (Blk.new w4 _ _) (Nat.le_trans (filter_few _ _ _) qaa); rw [hno] at hr HQ4 z0 y0; have HR := hid hr; have HS2 := hid hS2.swap; clear hr hS2 hb4 hb5 xb; go_wp2_with (first | rw [HQ4.out] | (at_builtin; refine wpList_append_at rfl rfl rfl rfl rfl HR.out ?_)); refine ⟨⟨k + 1, by omega, by go_num, ?_⟩, by simp [intOf]; omega⟩; rw [filter_yes HQ.out hno, filter_not HQ.out (by rw [hno]; rfl)]
        exact HS2.out
      | false =>
        obtain ⟨g, m, cap, W2, hr, hS2⟩ := HS.out.more (q := q) (P := w4.heap.size) hb5 (Blk.new w4 _ _) (Nat.le_trans (filter_few _ _ _) qaa); rw [hno] at hr HQ4 z0 y0; have HR := hid hr; have HS2 := hid hS2; clear hr hS2 hb4 hb5 xb; go_wp2_with (first | rw [HQ4.out] | (at_builtin; refine wpList_append_at rfl rfl rfl rfl rfl HR.out ?_)); refine ⟨⟨k + 1, by omega, by go_num, ?_⟩, by simp [intOf]; omega⟩; rw [filter_not HQ.out hno, filter_yes HQ.out (by rw [hno]; rfl)]; exact HS2.out
    · have hkn : qs.take k = qs := List.take_of_length_le qec
      have hS := HS.out; rw [hkn] at hS; have hqs := (H.out.up hT hS.gr).ok; obtain ⟨A1, c1, rfl, hP1⟩ := PartsIn.own (hiT := hiT) (Ok := fun k => w.heap.size ≤ k) hS.V (fun q hq => hqs q (List.mem_filter.1 hq).1) (fun g e => (hS.V.lt g e).1); obtain ⟨A2, c2, rfl, hP2⟩ := PartsIn.own (hiT := hiT) (Ok := fun k => w.heap.size ≤ k) hS.U (fun q hq => hqs q (List.mem_filter.1 hq).1) (fun g e => (hS.U.lt g e).1); have HP1 := hid hP1; have HP2 := hid hP2; have HG := hid hS.gr; clear hP1 hP2 hS hqs hkn; go_wp2; refine bodyPost_ret (v := .tuple #[.slice A1 _ c1, .slice A2 _ c2]) (by simp [results, Tryz.results46, go_sem]) rfl ⟨_, _, _, _, _, _, rfl, HP1.out, HP2.out, HG.out⟩
end Go.Proofs.YtcigljngiemdeaaGreat
