/-
  Texts of one claim, put together.
-/
import Derived.Test.YtcigljngiemdeaaGreatAo0
import Derived.Test.YtcigljngiemdeaaGreatAo14
import Derived.Test.YtcigljngiemdeaaGreatAo2
import Derived.Test.YtcigljngiemdeaaGreatTight
set_option maxRecDepth 100000
set_option maxHeartbeats 8000000
namespace Go.Proofs.YtcigljngiemdeaaGreat
open Go.RowKit
theorem getW_snoc : ∀ (b : Bd) (x v y : ByteArray), getW (b ++ [(x, v)]) y = (match getW b y with | some w => some w | none => if x = y then some v else none)
  | [], x, v, y => by simp [getW]
  | q :: b, x, v, y => by
    rw [List.cons_append, getW, getW]; split
    · rfl
    · exact getW_snoc b x v y
def OpenA (b : Bd) (a : At) (x : ByteArray) : Prop := (true, x) ∈ a.2 ∧ getW b x = none
def wholeB (b : Bd) (a : At) : Bool := a.2.all fun t => !(t.1 && (getW b t.2).isNone)
theorem whole_iff {b : Bd} {a : At} : wholeB b a = true ↔ ∀ x, ¬ OpenA b a x := by
  unfold wholeB OpenA; rw [List.all_eq_true]; constructor
  · rintro h x ⟨h1, h2⟩
    have := h _ h1; simp [h2] at this
  · intro h t ht
    obtain ⟨v, x⟩ := t
    cases v with
    | false => rfl
    | true =>
      have := h x
      cases hg : getW b x with
      | none => exact absurd ⟨ht, hg⟩ this
      | some w => simp
abbrev WordsOf := ByteArray → ByteArray
def fillU (s : WordsOf) (t : Tm) : Tm := (false, if t.1 = true then s t.2 else t.2)
def fillS (s : WordsOf) (a : At) : At := (a.1, a.2.map (fillU s))
def ExtS (s : WordsOf) (b : Bd) : Prop := ∀ x v, getW b x = some v → s x = v
def ExtB (b b' : Bd) : Prop := ∀ x v, getW b x = some v → getW b' x = some v
theorem ExtS.up {s : WordsOf} {b b' : Bd} (h : ExtS s b') (hb : ExtB b b') : ExtS s b := fun x v hx => h x v (hb x v hx)
theorem ExtB.none {b b' : Bd} (h : ExtB b b') {x : ByteArray} (hx : getW b' x = none) : getW b x = none := by
  cases hg : getW b x with
  | none => rfl
  | some v => rw [h x v hg] at hx; cases hx
theorem fillU_ext {s : WordsOf} {b : Bd} {t : Tm} (hs : ExtS s b) (h : t.1 = true → getW b t.2 ≠ none) : fillU s t = fillT b t := by
  obtain ⟨v, x⟩ := t
  cases v with
  | false => rfl
  | true =>
    cases hg : getW b x with
    | none => exact absurd hg (h rfl)
    | some w =>
      show (false, s x) = (false, (getW b x).getD ByteArray.empty); rw [hg, hs x w hg]; rfl
theorem fill_ext {s : WordsOf} {b : Bd} {a : At} (hs : ExtS s b) (h : ∀ x, (true, x) ∈ a.2 → getW b x ≠ none) : fillS s a = fillA a b := by
  unfold fillS fillA; congr 1; refine List.map_congr_left fun t ht => fillU_ext hs (fun h1 => ?_); obtain ⟨v, x⟩ := t; simp only at h1; subst h1; exact h x ht
theorem wordT_ext {b b' : Bd} {t : Tm} (hb : ExtB b b') (h : t.1 = true → getW b t.2 ≠ none) : wordT b' t = wordT b t := by
  unfold wordT; split
  · rename_i h1
    cases hg : getW b t.2 with
    | none => exact absurd hg (h h1)
    | some w => rw [hb _ _ hg]
  · rfl
structure MatchT (ts us : List Tm) (b b' : Bd) : Prop where
  ext : ExtB b b'
  all : ∀ x, (true, x) ∈ ts → getW b' x ≠ none
  fill : ts.map (fillT b') = us
  new : ∀ x, getW b x = none → getW b' x ≠ none → (true, x) ∈ ts
  sg : ∀ s : WordsOf, ExtS s b → ts.map (fillU s) = us → ExtS s b'
theorem extB_snoc {b : Bd} {x v : ByteArray} : ExtB b (b ++ [(x, v)]) := fun y w h => by rw [getW_snoc, h]
theorem matchT_some : ∀ {ts us : List Tm} {b b' : Bd}, ts.length = us.length → (∀ u ∈ us, u.1 = false) → matchT ts us b = some b' → MatchT ts us b b'
  | [], [], b, b', _, _, e => by
    rw [matchT_nil] at e; injection e with e; subst e
    exact ⟨fun _ _ h => h, fun _ h => by simp at h, rfl, fun _ h h' => absurd h h', fun _ h _ => h⟩
  | [], _ :: _, _, _, h, _, _ => by simp at h
  | _ :: _, [], _, _, h, _, _ => by simp at h
  | t :: ts, u :: us, b, b', hl, hu, e => by
    have hl' : ts.length = us.length := by simpa using hl
    have hu' : ∀ v ∈ us, v.1 = false := fun v hv => hu v (by simp [hv]); have hu1 : u = (false, u.2) := Prod.ext (hu u qad) rfl; rw [matchT] at e; split at e
    · rename_i h1
      have M := matchT_some hl' hu' e; have hg : getW (b ++ [(t.2, u.2)]) t.2 = some u.2 := by rw [getW_snoc, h1.2]; simp
      have ht : t = (true, t.2) := Prod.ext h1.1 rfl; refine ⟨fun x v h => M.ext x v (extB_snoc x v h), ?_, ?_, ?_, ?_⟩
      · intro x hx
        rcases List.mem_cons.1 hx with h | h
        · have : x = t.2 := by rw [ht] at h; injection h
          subst this; rw [M.ext _ _ hg]; simp
        · exact M.all x h
      · rw [List.map_cons, M.fill]
        congr 1; rw [hu1]; show (false, wordT b' t) = _; unfold wordT; rw [if_pos h1.1, M.ext _ _ hg]; rfl
      · intro x hx hx'
        by_cases hxt : x = t.2
        · subst hxt; rw [← ht]; exact List.mem_cons_self
        · refine List.mem_cons_of_mem _ (M.new x ?_ hx')
          rw [getW_snoc, hx]; simp only; rw [if_neg (fun h => hxt h.symm)]
      · intro s hs hf
        rw [List.map_cons] at hf; injection hf with hf1 hf2; refine M.sg s (fun x v hx => ?_) hf2; rw [getW_snoc] at hx
        cases hg' : getW b x with
        | some w => rw [hg'] at hx; simp only at hx; injection hx with hx; rw [← hx]; exact hs x w hg'
        | none =>
          rw [hg'] at hx; simp only at hx; split at hx
          · rename_i hxt
            injection hx with hx; rw [← hx, ← hxt]; have := congrArg Prod.snd hf1; unfold fillU at this; simp only [h1.1, if_true] at this; exact this
          · cases hx
    · rename_i h1
      split at e
      · rename_i h2
        have M := matchT_some hl' hu' e; have h3 : t.1 = true → getW b t.2 ≠ none := fun h h' => h1 ⟨h, h'⟩; refine ⟨M.ext, ?_, ?_, fun x hx hx' => List.mem_cons_of_mem _ (M.new x hx hx'), fun s hs hf => ?_⟩
        · intro x hx
          rcases List.mem_cons.1 hx with h | h
          · have := h3 (by rw [← h])
            rw [← h] at this; intro hn; exact this (M.ext.none hn)
          · exact M.all x h
        · rw [List.map_cons, M.fill]
          congr 1; rw [hu1]; show (false, wordT b' t) = _; rw [wordT_ext M.ext h3, h2]
        · rw [List.map_cons] at hf
          injection hf with hf1 hf2; exact M.sg s hs hf2
      · cases e
theorem matchT_of {s : WordsOf} : ∀ {ts us : List Tm} {b : Bd}, ExtS s b → ts.map (fillU s) = us → ∃ b', matchT ts us b = some b'
  | [], us, b, _, _ => ⟨b, matchT_nil us b⟩
  | t :: ts, [], b, _, h => by simp at h
  | t :: ts, u :: us, b, hs, h => by
    rw [List.map_cons] at h; injection h with h1 h2; rw [matchT]; split
    · rename_i h3
      refine matchT_of (s := s) (fun x v hx => ?_) h2; rw [getW_snoc] at hx
      cases hg' : getW b x with
      | some w => rw [hg'] at hx; simp only at hx; injection hx with hx; rw [← hx]; exact hs x w hg'
      | none =>
        rw [hg'] at hx; simp only at hx; split at hx
        · rename_i hxt
          injection hx with hx; rw [← hx, ← hxt, ← h1]; unfold fillU; simp only [h3.1, if_true]
        · cases hx
    · rename_i h3
      have h4 : t.1 = true → getW b t.2 ≠ none := fun h h' => h3 ⟨h, h'⟩
      have : wordT b t = u.2 := by
        rw [← h1]; exact (congrArg Prod.snd (fillU_ext hs h4)).symm
      rw [if_pos this]; exact matchT_of hs h2
def WordsAll (list : List At) : Prop := ∀ f ∈ list, ∀ u ∈ f.2, u.1 = false
theorem matchA_some {a f : At} {b b' : Bd} (hf : ∀ u ∈ f.2, u.1 = false) (e : matchA a f b = some b') : a.1 = f.1 ∧ MatchT a.2 f.2 b b' := by
  unfold matchA at e; split at e
  · rename_i h
    exact ⟨h.1, matchT_some h.2 hf e⟩
  · cases e
theorem matchA_fill {a f : At} {b b' : Bd} (hf : ∀ u ∈ f.2, u.1 = false) (e : matchA a f b = some b') : fillA a b' = f := by
  obtain ⟨h, M⟩ := matchA_some hf e; exact Prod.ext h M.fill
theorem matchA_of {s : WordsOf} {a : At} {b : Bd} (hs : ExtS s b) : ∃ b', matchA a (fillS s a) b = some b' := by
  unfold matchA; rw [if_pos ⟨rfl, by unfold fillS; simp⟩]; exact matchT_of hs rfl
def SoS (list : List At) (s : WordsOf) (q : Pt) : Prop := q.1 = true ↔ fillS s q.2 ∉ list
def Sat (list : List At) (ps : List Pt) (b : Bd) : Prop := ∃ s : WordsOf, ExtS s b ∧ ∀ q ∈ ps, SoS list s q
def SoB (list : List At) (b : Bd) (q : Pt) : Prop := q.1 = true ↔ fillA q.2 b ∉ list
theorem sat_nil (list : List At) (b : Bd) : Sat list [] b := ⟨fun x => (getW b x).getD ByteArray.empty, fun x v h => by simp only; rw [h]; rfl, fun _ h => by simp at h⟩
theorem sat_same {list : List At} {ps qs : List Pt} {b : Bd} (h : ∀ q, q ∈ ps ↔ q ∈ qs) : Sat list ps b ↔ Sat list qs b :=
  ⟨fun ⟨s, h1, h2⟩ => ⟨s, h1, fun q hq => h2 q ((h q).2 hq)⟩, fun ⟨s, h1, h2⟩ => ⟨s, h1, fun q hq => h2 q ((h q).1 hq)⟩⟩
theorem sat_whole {list : List At} {q : Pt} {ps : List Pt} {b : Bd} (h : wholeB b q.2 = true) : Sat list (q :: ps) b ↔ SoB list b q ∧ Sat list ps b := by
  have hw := whole_iff.1 h; have hn : ∀ x, (true, x) ∈ q.2.2 → getW b x ≠ none := fun x hx h' => hw x ⟨hx, h'⟩; constructor
  · rintro ⟨s, h1, h2⟩
    have := h2 q qad; unfold SoS at this; rw [fill_ext h1 hn] at this; exact ⟨this, s, h1, fun r hr => h2 r qch⟩
  · rintro ⟨h0, s, h1, h2⟩
    refine ⟨s, h1, fun r hr => ?_⟩; rcases List.mem_cons.1 hr with e | e
    · subst e; unfold SoS; rw [fill_ext h1 hn]; exact h0
    · exact h2 r e
theorem sat_pos {list : List At} (hl : WordsAll list) {q : Pt} {ps : List Pt} {b : Bd} (h : q.1 = false) : Sat list (q :: ps) b ↔ ∃ f ∈ list, ∃ b', matchA q.2 f b = some b' ∧ Sat list ps b' := by
  constructor
  · rintro ⟨s, h1, h2⟩
    have h3 : fillS s q.2 ∈ list := by
      have := h2 q qad; unfold SoS at this; rw [h] at this; exact Classical.byContradiction fun hn => by have := this.2 hn; cases this
    obtain ⟨b', hb'⟩ := matchA_of (a := q.2) h1; exact ⟨_, h3, b', hb', s, (matchA_some (hl _ h3) hb').2.sg s h1 rfl, fun r hr => h2 r qch⟩
  · rintro ⟨f, hf, b', hb', s, h1, h2⟩
    obtain ⟨e1, M⟩ := matchA_some (hl _ hf) hb'; refine ⟨s, h1.up M.ext, fun r hr => ?_⟩; rcases List.mem_cons.1 hr with e | e
    · subst e
      unfold SoS; rw [h, fill_ext h1 M.all, matchA_fill (hl _ hf) hb']; exact ⟨fun h => Bool.noConfusion h, fun h => absurd hf h⟩
    · exact h2 r e
theorem sat_append {list : List At} {g k : List Pt} {b : Bd} (h : ∀ p ∈ g, ∀ q ∈ k, ∀ x, OpenA b p.2 x → (true, x) ∉ q.2.2) : Sat list (g ++ k) b ↔ Sat list g b ∧ Sat list k b := by
  constructor
  · rintro ⟨s, h1, h2⟩
    exact ⟨⟨s, h1, fun q hq => h2 q qdr⟩, ⟨s, h1, fun q hq => h2 q qdr⟩⟩
  · rintro ⟨⟨s, h1, h2⟩, ⟨s', h3, h4⟩⟩
    classical
    refine ⟨fun x => if ∃ p ∈ g, (true, x) ∈ p.2.2 then s x else s' x, fun x v hx => ?_, fun q hq => ?_⟩
    · simp only
      split
      · exact h1 x v hx
      · exact h3 x v hx
    · have hc : ∀ s1 : WordsOf, (∀ x, (true, x) ∈ q.2.2 → (if ∃ p ∈ g, (true, x) ∈ p.2.2 then s x else s' x) = s1 x) → fillS (fun x => if ∃ p ∈ g, (true, x) ∈ p.2.2 then s x else s' x) q.2 = fillS s1 q.2 := by
        intro s1 hs1; unfold fillS; congr 1; refine List.map_congr_left fun t ht => ?_; obtain ⟨v, x⟩ := t
        cases v with
        | false => rfl
        | true =>
          show (false, _) = (false, s1 x); rw [← hs1 x ht]; rfl
      rcases List.mem_append.1 hq with hq | hq
      · unfold SoS
        rw [hc s (fun x hx => by rw [if_pos ⟨q, hq, hx⟩])]; exact h2 q hq
      · unfold SoS
        rw [hc s' (fun x hx => ?_)]
        · exact h4 q hq
        · split
          · rename_i hp
            obtain ⟨p, hp, hxp⟩ := hp
            cases hg : getW b x with
            | none => exact absurd hx (h p hp q hq x ⟨hxp, hg⟩)
            | some v => rw [h1 x v hg, h3 x v hg]
          · rfl
def ApartG (b : Bd) (gs : List (List Pt)) : Prop := gs.Pairwise fun g k => ∀ p ∈ g, ∀ q ∈ k, ∀ x, OpenA b p.2 x → (true, x) ∉ q.2.2
theorem sat_groups {list : List At} {b : Bd} : ∀ {gs : List (List Pt)}, ApartG b gs → (Sat list gs.flatten b ↔ ∀ g ∈ gs, Sat list g b)
  | [], _ => by
    constructor
    · intro _ g hg; simp at hg
    · intro _; exact sat_nil list b
  | g :: gs, h => by
    obtain ⟨h1, h2⟩ := List.pairwise_cons.1 h; rw [List.flatten_cons, sat_append (fun p hp q hq x hx => ?_), sat_groups h2]
    · simp
    · obtain ⟨k, hk, hqk⟩ := List.mem_flatten.1 hq
      exact h1 k hk p hp q hqk x hx
def WfP (ps : List Pt) (b : Bd) : Prop := ∀ q ∈ ps, q.1 = true → ∀ x, OpenA b q.2 x → ∃ p ∈ ps, p.1 = false ∧ (true, x) ∈ p.2.2
theorem WfP.same {ps qs : List Pt} {b : Bd} (h : WfP ps b) (e : ∀ q, q ∈ ps ↔ q ∈ qs) : WfP qs b := fun q hq hn x hx => by
  obtain ⟨p, hp, h1⟩ := h q ((e q).2 hq) hn x hx; exact ⟨p, (e p).1 hp, h1⟩
theorem WfP.tail {q : Pt} {ps : List Pt} {b : Bd} (h : WfP (q :: ps) b) (hw : wholeB b q.2 = true) : WfP ps b := fun r hr hn x hx => by
  obtain ⟨p, hp, h1, h2⟩ := h r qch hn x hx; rcases List.mem_cons.1 hp with e | e
  · subst e; exact absurd ⟨h2, hx.2⟩ (whole_iff.1 hw x)
  · exact ⟨p, e, h1, h2⟩
theorem WfP.on {q : Pt} {ps : List Pt} {b b' : Bd} {f : At} (h : WfP (q :: ps) b) (hf : ∀ u ∈ f.2, u.1 = false) (e : matchA q.2 f b = some b') : WfP ps b' := fun r hr hn x hx => by
  obtain ⟨_, M⟩ := matchA_some hf e; obtain ⟨p, hp, h1, h2⟩ := h r qch hn x ⟨hx.1, M.ext.none hx.2⟩; rcases List.mem_cons.1 hp with e | e
  · subst e; exact absurd hx.2 (M.all x h2)
  · exact ⟨p, e, h1, h2⟩
theorem WfP.nots {ps : List Pt} {b : Bd} (h : WfP ps b) (hn : ∀ q ∈ ps, q.1 = true) : ∀ q ∈ ps, wholeB b q.2 = true := fun q hq => whole_iff.2 fun x hx => by
  obtain ⟨p, hp, h1, _⟩ := h q hq (hn q hq) x hx; rw [hn p hp] at h1; cases h1
noncomputable instance (list : List At) (b : Bd) (q : Pt) : Decidable (SoB list b q) := Classical.propDecidable _
noncomputable def tellB (list : List At) : List Pt → Bd → List Bd
  | [], b => [b]
  | q :: qs, b => if wholeB b q.2 = true then (if SoB list b q then tellB list qs b else []) else (fitsL list q.2 b).flatMap (tellB list qs)
def NotsLast (ps : List Pt) : Prop := ps.Pairwise fun p q => p.1 = true → q.1 = true
theorem flat_ne {α β : Type} {f : α → List β} {xs : List α} : xs.flatMap f ≠ [] ↔ ∃ x ∈ xs, f x ≠ [] := by
  rw [Ne, List.flatMap_eq_nil_iff]; constructor
  · intro h
    exact Classical.byContradiction fun hn => h fun x hx => Classical.byContradiction fun hf => hn ⟨x, hx, hf⟩
  · rintro ⟨x, hx, hf⟩ h
    exact hf (h x hx)
theorem tell_sat {list : List At} (hl : WordsAll list) : ∀ {ps : List Pt} {b : Bd}, WfP ps b → NotsLast ps → (tellB list ps b ≠ [] ↔ Sat list ps b)
  | [], b, _, _ => by
    constructor
    · intro _; exact sat_nil list b
    · intro _; simp [tellB]
  | q :: ps, b, hw, hn => by
    obtain ⟨n1, n2⟩ := List.pairwise_cons.1 hn; rw [tellB]; split
    · rename_i h
      rw [sat_whole h]; split
      · rename_i h'
        rw [tell_sat hl (hw.tail h) n2]; exact ⟨fun k => ⟨h', k⟩, fun k => k.2⟩
      · rename_i h'
        exact ⟨fun k => absurd rfl k, fun k => absurd k.1 h'⟩
    · rename_i h
      have hq : q.1 = false := by
        cases hq : q.1 with
        | false => rfl
        | true =>
          exact absurd (hw.nots (fun r hr => by
            rcases List.mem_cons.1 hr with e | e
            · subst e; exact hq
            · exact n1 r e hq) q qad) h
      rw [sat_pos hl hq, flat_ne]; unfold fitsL; constructor
      · rintro ⟨b', hb', hne⟩
        obtain ⟨f, hf, he⟩ := List.mem_filterMap.1 hb'; exact ⟨f, hf, b', he, (tell_sat hl (hw.on (hl f hf) he) n2).1 hne⟩
      · rintro ⟨f, hf, b', he, hs⟩
        exact ⟨b', List.mem_filterMap.2 ⟨f, hf, he⟩, (tell_sat hl (hw.on (hl f hf) he) n2).2 hs⟩
theorem pw_forall {α : Type} {R : α → α → Prop} (hs : ∀ a b, R a b → R b a) : ∀ {l : List α}, l.Pairwise R → ∀ a ∈ l, ∀ b ∈ l, a ≠ b → R a b
  | [], _, a, ha, _, _, _ => by simp at ha
  | x :: l, h, a, ha, b, hb, hne => by
    obtain ⟨h1, h2⟩ := List.pairwise_cons.1 h; rcases List.mem_cons.1 ha with e | e
    · rcases List.mem_cons.1 hb with e' | e'
      · exact absurd (e.trans e'.symm) hne
      · rw [e]; exact h1 b e'
    · rcases List.mem_cons.1 hb with e' | e'
      · rw [e']; exact hs _ _ (h1 a e)
      · exact pw_forall hs h2 a e b e' hne
def shareB (b : Bd) (p q : At) : Bool := p.2.any fun t => (t.1 && (getW b t.2).isNone) && q.2.any fun u => decide (u = t)
theorem share_iff {b : Bd} {p q : At} : shareB b p q = true ↔ ∃ x, OpenA b p x ∧ (true, x) ∈ q.2 := by
  unfold shareB OpenA; rw [List.any_eq_true]; constructor
  · rintro ⟨⟨v, x⟩, h1, h2⟩
    rw [Bool.and_eq_true, Bool.and_eq_true] at h2; obtain ⟨⟨h2, h3⟩, h4⟩ := h2; simp only at h2 h3; subst h2; obtain ⟨u, h5, h6⟩ := List.any_eq_true.1 h4; exact ⟨x, ⟨h1, by simpa using h3⟩, of_decide_eq_true h6 ▸ h5⟩
  · rintro ⟨x, ⟨h1, h2⟩, h3⟩
    refine ⟨(true, x), h1, ?_⟩; rw [Bool.and_eq_true]; exact ⟨by simp [h2], List.any_eq_true.2 ⟨_, h3, decide_eq_true rfl⟩⟩
def joinsB (b : Bd) (p : Pt) (g : List Pt) : Bool := g.any fun q => shareB b p.2 q.2
def addG (b : Bd) (out : List (List Pt)) (p : Pt) : List (List Pt) := out.filter (fun g => !joinsB b p g) ++ [p :: (out.filter (joinsB b p)).flatten]
def groupsB (b : Bd) (ps : List Pt) : List (List Pt) := ps.foldl (addG b) []
abbrev ApartR (b : Bd) (g k : List Pt) : Prop := ∀ p ∈ g, ∀ q ∈ k, ∀ x, OpenA b p.2 x → (true, x) ∉ q.2.2
theorem apart_symm {b : Bd} (g k : List Pt) (h : ApartR b g k) : ApartR b k g := fun q hq p hp x hx hxp => h p hp q hq x ⟨hxp, hx.2⟩ hx.1
theorem flat_split {α : Type} (P : List α → Bool) : ∀ l : List (List α), (l.filter fun g => !P g).flatten.length + (l.filter P).flatten.length = l.flatten.length
  | [] => rfl
  | g :: l => by
    have := flat_split P l
    cases h : P g with
    | true => rw [List.filter_cons_of_neg (by simp [h]), List.filter_cons_of_pos h, List.flatten_cons, List.flatten_cons, List.length_append, List.length_append]; omega
    | false => rw [List.filter_cons_of_pos (by simp [h]), List.filter_cons_of_neg (by simp [h]), List.flatten_cons, List.flatten_cons, List.length_append, List.length_append]; omega
theorem addG_mem {b : Bd} {out : List (List Pt)} {p q : Pt} : q ∈ (addG b out p).flatten ↔ q ∈ out.flatten ∨ q = p := by
  unfold addG; simp only [List.flatten_append, List.mem_append, List.flatten_cons, List.flatten_nil, List.append_nil, List.mem_cons, List.mem_flatten, List.mem_filter]; constructor
  · rintro (⟨g, ⟨h1, _⟩, h2⟩ | h | ⟨g, ⟨h1, _⟩, h2⟩)
    · exact .inl ⟨g, h1, h2⟩
    · exact .inr h
    · exact .inl ⟨g, h1, h2⟩
  · rintro (⟨g, h1, h2⟩ | h)
    · cases hj : joinsB b p g with
      | true => exact .inr (.inr ⟨g, ⟨h1, hj⟩, h2⟩)
      | false => exact .inl ⟨g, ⟨h1, by simp [hj]⟩, h2⟩
    · exact .inr (.inl h)
theorem addG_len (b : Bd) (out : List (List Pt)) (p : Pt) : (addG b out p).flatten.length = out.flatten.length + 1 := by
  have := flat_split (joinsB b p) out; unfold addG; rw [List.flatten_append, List.length_append, List.flatten_cons, List.flatten_nil, List.append_nil, List.length_cons]; omega
structure GroupsOk (b : Bd) (gs : List (List Pt)) : Prop where
  apart : ApartG b gs
  open_ : ∀ g ∈ gs, g.length = 1 ∨ (g ≠ [] ∧ ∀ q ∈ g, wholeB b q.2 = false)
theorem not_whole {b : Bd} {a : At} {x : ByteArray} (h : OpenA b a x) : wholeB b a = false := by
  cases hw : wholeB b a with
  | false => rfl
  | true => exact absurd h (whole_iff.1 hw x)
theorem GroupsOk.add {b : Bd} {out : List (List Pt)} (h : GroupsOk b out) (p : Pt) : GroupsOk b (addG b out p) := by
  constructor
  · unfold addG ApartG
    rw [List.pairwise_append]; refine ⟨h.apart.filter _, by simp, fun g hg k hk => ?_⟩; rw [List.mem_singleton.1 hk]; obtain ⟨hg1, hg2⟩ := List.mem_filter.1 hg; have hj : joinsB b p g = false := by simpa using hg2
    intro r hr q hq x hx hxq; rcases List.mem_cons.1 hq with e | e
    · subst e
      have : joinsB b q g = true := by
        unfold joinsB; exact List.any_eq_true.2 ⟨r, hr, share_iff.2 ⟨x, ⟨hxq, hx.2⟩, hx.1⟩⟩
      rw [hj] at this; cases this
    · obtain ⟨k', hk', hqk⟩ := List.mem_flatten.1 e
      obtain ⟨h1, h2⟩ := List.mem_filter.1 hk'; exact pw_forall apart_symm h.apart g hg1 k' h1 (fun e => by rw [e, h2] at hj; cases hj) r hr q hqk x hx hxq
  · intro g hg
    unfold addG at hg; rcases List.mem_append.1 hg with hg | hg
    · exact h.open_ g (List.mem_filter.1 hg).1
    · rw [List.mem_singleton.1 hg]
      cases hJ : out.filter (joinsB b p) with
      | nil => exact .inl rfl
      | cons g1 gs1 =>
        refine .inr ⟨by simp, ?_⟩; rw [← hJ]
        have hin : ∀ k ∈ out.filter (joinsB b p), ∃ q ∈ k, ∃ x, OpenA b p.2 x ∧ (true, x) ∈ q.2.2 := fun k hk => by
          have := (List.mem_filter.1 hk).2; unfold joinsB at this; obtain ⟨q, h1, h2⟩ := List.any_eq_true.1 this; exact ⟨q, h1, share_iff.1 h2⟩
        intro q hq; rcases List.mem_cons.1 hq with e | e
        · obtain ⟨_, _, x, hx, _⟩ := hin g1 (by rw [hJ]; simp)
          rw [e]; exact not_whole hx
        · obtain ⟨k, hk, hqk⟩ := List.mem_flatten.1 e
          rcases h.open_ k (List.mem_filter.1 hk).1 with h1 | h1
          · obtain ⟨r, hr, x, hx, hxr⟩ := hin k hk
            obtain ⟨y, hy⟩ := List.length_eq_one_iff.1 h1; rw [hy] at hr hqk; rw [List.mem_singleton.1 hqk, ← List.mem_singleton.1 hr]; exact not_whole ⟨hxr, hx.2⟩
          · exact h1.2 q hqk
theorem groups_gen {b : Bd} : ∀ (ps : List Pt) (out : List (List Pt)), GroupsOk b out → GroupsOk b (ps.foldl (addG b) out) ∧ (∀ q, q ∈ (ps.foldl (addG b) out).flatten ↔ q ∈ out.flatten ∨ q ∈ ps) ∧ (ps.foldl (addG b) out).flatten.length = out.flatten.length + ps.length
  | [], out, h => ⟨h, fun q => by simp, by simp⟩
  | p :: ps, out, h => by
    obtain ⟨h1, h2, h3⟩ := groups_gen ps (addG b out p) (h.add p); refine ⟨h1, fun q => ?_, ?_⟩
    · rw [List.foldl_cons, h2, addG_mem, List.mem_cons, or_assoc]
    · rw [List.foldl_cons, h3, addG_len, List.length_cons]; omega
theorem groups_ok (b : Bd) (ps : List Pt) : GroupsOk b (groupsB b ps) := (groups_gen ps [] ⟨List.Pairwise.nil, fun g hg => by simp at hg⟩).1
theorem groups_mem (b : Bd) (ps : List Pt) (q : Pt) : q ∈ (groupsB b ps).flatten ↔ q ∈ ps := by
  have := (groups_gen (b := b) ps [] ⟨List.Pairwise.nil, fun g hg => by simp at hg⟩).2.1 q; simpa [groupsB] using this
theorem groups_len (b : Bd) (ps : List Pt) : (groupsB b ps).flatten.length = ps.length := by
  have := (groups_gen (b := b) ps [] ⟨List.Pairwise.nil, fun g hg => by simp at hg⟩).2.2; simpa [groupsB] using this
theorem flat_le {α : Type} : ∀ {l : List (List α)} {g : List α}, g ∈ l → g.length ≤ l.flatten.length
  | x :: l, g, h => by
    rw [List.flatten_cons, List.length_append]; rcases List.mem_cons.1 h with e | e
    · rw [e]; omega
    · have := flat_le e; omega
theorem group_len {b : Bd} {ps g : List Pt} (h : g ∈ groupsB b ps) : g.length ≤ ps.length := groups_len b ps ▸ flat_le h
theorem groups_sat (list : List At) (b : Bd) (ps : List Pt) : Sat list ps b ↔ ∀ g ∈ groupsB b ps, Sat list g b := by
  rw [← sat_groups (groups_ok b ps).apart]; exact sat_same fun q => (groups_mem b ps q).symm
theorem group_wf {b : Bd} {ps g : List Pt} (h : WfP ps b) (hg : g ∈ groupsB b ps) : WfP g b := fun q hq hn x hx => by
  obtain ⟨p, hp, h1, h2⟩ := h q ((groups_mem b ps q).1 (List.mem_flatten.2 ⟨g, hg, hq⟩)) hn x hx; obtain ⟨k, hk, hpk⟩ := List.mem_flatten.1 ((groups_mem b ps p).2 hp); by_cases e : g = k
  · rw [e]; exact ⟨p, hpk, h1, h2⟩
  · exact absurd h2 (pw_forall apart_symm (groups_ok b ps).apart g hg k hk e q hq p hpk x hx)
theorem group_whole {list : List At} {b : Bd} {ps g : List Pt} (hg : g ∈ groupsB b ps) {i : Nat} {q : Pt} (hi : g[i]? = some q) (hw : wholeB b q.2 = true) : Sat list g b ↔ SoB list b q := by
  have hq := List.mem_of_getElem? hi; rcases (groups_ok b ps).open_ g hg with h | h
  · obtain ⟨r, hr⟩ := List.length_eq_one_iff.1 h
    subst hr; rw [← List.mem_singleton.1 hq, sat_whole hw]; exact ⟨fun h => h.1, fun h => ⟨h, sat_nil list b⟩⟩
  · rw [h.2 q hq] at hw; cases hw
theorem mem_parted {α : Type} {g : List α} {i : Nat} {q : α} (hi : g[i]? = some q) (r : α) : r ∈ q :: (g.take i ++ g.drop (i + 1)) ↔ r ∈ g := by
  obtain ⟨h1, h2⟩ := List.getElem?_eq_some_iff.1 hi
  conv => rhs; rw [← List.take_append_drop i g, List.drop_eq_getElem_cons h1, h2]
  simp only [List.mem_cons, List.mem_append]; constructor
  · rintro (h | h | h)
    · exact .inr (.inl h)
    · exact .inl h
    · exact .inr (.inr h)
  · rintro (h | h | h)
    · exact .inr (.inl h)
    · exact .inl h
    · exact .inr (.inr h)
theorem parted_wf {g : List Pt} {b : Bd} {i : Nat} {q : Pt} (h : WfP g b) (hi : g[i]? = some q) : WfP (q :: (g.take i ++ g.drop (i + 1))) b := h.same fun r => (mem_parted hi r).symm
theorem group_sat {list : List At} (hl : WordsAll list) {b : Bd} {g : List Pt} {i : Nat} {q : Pt} (hi : g[i]? = some q) (hq : q.1 = false) : Sat list g b ↔ ∃ f ∈ list, ∃ b', matchA q.2 f b = some b' ∧ Sat list (g.take i ++ g.drop (i + 1)) b' := by
  rw [← sat_pos hl hq]; exact sat_same fun r => (mem_parted hi r).symm
theorem parted_len {α : Type} {g : List α} {i : Nat} {q : α} (hi : g[i]? = some q) : (g.take i ++ g.drop (i + 1)).length + 1 = g.length := by
  obtain ⟨h1, _⟩ := List.getElem?_eq_some_iff.1 hi; rw [List.length_append, List.length_take, List.length_drop]; omega
theorem words_same {a b : At} (hw : wordsB a.2 = true) (hw' : wordsB b.2 = true) (h : atomCmp a b = 0) : a = b := by
  obtain ⟨n, ts⟩ := a; obtain ⟨m, us⟩ := b
  have hnm : textCmp n m = 0 := by
    unfold atomCmp at h; by_cases e : textCmp n m = 0
    · exact e
    · rw [if_neg e] at h; exact h
  have hargs : argsCmp ts us = 0 := by
    unfold atomCmp at h
    rwa [if_pos hnm] at h
  simp only at hw hw'
  have hts : ts = us := by
    clear h hnm; revert us
    induction ts with
    | nil =>
      intro us hw' h
      cases us with
      | nil => rfl
      | cons u us => simp [argsCmp] at h
    | cons t ts ih =>
      intro us hwu h
      cases us with
      | nil => simp [argsCmp] at h
      | cons u us =>
        have h' : (if textCmp t.2 u.2 = 0 then argsCmp ts us else textCmp t.2 u.2) = 0 := h; unfold wordsB at *; rw [List.all_cons, Bool.and_eq_true] at hwu; rw [List.all_cons, Bool.and_eq_true] at hw; by_cases e : textCmp t.2 u.2 = 0
        · rw [if_pos e] at h'
          have e1 := ih hw.2 us hwu.2 h'; have e2 := text_same e
          have e3 : t.1 = u.1 := by
            have a1 := hw.1; have a2 := hwu.1; simp at a1 a2; rw [a1, a2]
          rw [e1, show t = u from Prod.ext e3 e2]
        · rw [if_neg e] at h'; exact absurd h' e
  rw [text_same hnm, hts]
theorem wordsB_of {ts : List Tm} (h : ∀ u ∈ ts, u.1 = false) : wordsB ts = true := by
  unfold wordsB; exact List.all_eq_true.2 fun t ht => by simp [h t ht]
theorem hasB_words {xs : List At} {a : At} (hx : WordsAll xs) (ha : ∀ u ∈ a.2, u.1 = false) : hasB xs a = true ↔ a ∈ xs := by
  unfold hasB; rw [List.any_eq_true]; constructor
  · rintro ⟨x, hx', h⟩
    rw [decide_eq_true_eq] at h; rw [← words_same (wordsB_of (hx x hx')) (wordsB_of ha) h]; exact hx'
  · intro h
    exact ⟨a, h, by rw [decide_eq_true_eq]; have := atomCmp_anti a a; omega⟩
theorem fill_words (a : At) (b : Bd) : ∀ u ∈ (fillA a b).2, u.1 = false := by
  intro u hu; unfold fillA at hu; obtain ⟨t, _, rfl⟩ := List.mem_map.1 hu; rfl
theorem matchT_whole : ∀ {ts us : List Tm} {b : Bd}, ts.length = us.length → (∀ u ∈ us, u.1 = false) → (∀ x, (true, x) ∈ ts → getW b x ≠ none) → matchT ts us b = if ts.map (fillT b) = us then some b else none
  | [], [], b, _, _, _ => by rw [matchT_nil, if_pos List.map_nil]
  | [], _ :: _, _, h, _, _ => by simp at h
  | _ :: _, [], _, h, _, _ => by simp at h
  | t :: ts, u :: us, b, hl, hu, hb => by
    have hu1 : u = (false, u.2) := Prod.ext (hu u qad) rfl; have h3 : ¬ (t.1 = true ∧ getW b t.2 = none) := fun ⟨h1, h2⟩ => hb t.2 (by rw [show (true, t.2) = t from Prod.ext h1.symm rfl]; simp) h2; rw [matchT, if_neg h3]
    have hc : fillT b t = u ↔ wordT b t = u.2 := by
      constructor
      · intro h; rw [← h]; rfl
      · intro h; rw [hu1, ← h]; rfl
    by_cases h : wordT b t = u.2
    · rw [if_pos h, matchT_whole (by simpa using hl) (fun v hv => hu v (by simp [hv])) (fun x hx => hb x (by simp [hx]))]
      congr 1; rw [List.map_cons, hc.2 h]; simp
    · rw [if_neg h, if_neg]
      rw [List.map_cons]; intro h'; injection h' with h1 _; exact h (hc.1 h1)
theorem matchA_whole {a f : At} {b : Bd} (hf : ∀ u ∈ f.2, u.1 = false) (hw : wholeB b a = true) : matchA a f b = if f = fillA a b then some b else none := by
  unfold matchA; have hb : ∀ x, (true, x) ∈ a.2 → getW b x ≠ none := fun x hx h => whole_iff.1 hw x ⟨hx, h⟩; split
  · rename_i h
    rw [matchT_whole h.2 hf hb]; congr 1; refine propext ⟨fun e => Prod.ext h.1.symm e.symm, fun e => by rw [e]; rfl⟩
  · rename_i h
    rw [if_neg]; intro e; exact h ⟨by rw [e]; rfl, by rw [e]; unfold fillA; simp⟩
theorem only_one {α β : Type} (g : α → Option β) (c : α) (y : β) : ∀ {l : List α}, l.Nodup → (∀ x ∈ l, x ≠ c → g x = none) → g c = some y → (c ∈ l → l.filterMap g = [y]) ∧ (c ∉ l → l.filterMap g = [])
  | [], _, _, _ => ⟨fun h => by simp at h, fun _ => rfl⟩
  | x :: l, hd, hn, hy => by
    obtain ⟨d1, d2⟩ := List.nodup_cons.1 hd; obtain ⟨i1, i2⟩ := only_one g c y d2 (fun z hz => hn z (by simp [hz])) hy; by_cases e : x = c
    · subst e
      exact ⟨fun _ => by rw [List.filterMap_cons, hy, i2 d1], fun h => absurd List.mem_cons_self h⟩
    · have := hn x qad e
      refine ⟨fun h => ?_, fun h => ?_⟩
      · rw [List.filterMap_cons, this]
        exact i1 ((List.mem_cons.1 h).resolve_left fun h => e h.symm)
      · rw [List.filterMap_cons, this]
        exact i2 fun h' => h (by simp [h'])
theorem fits_whole {list : List At} (hl : WordsAll list) (hd : list.Nodup) {a : At} {b : Bd} (hw : wholeB b a = true) : (fillA a b ∈ list → fitsL list a b = [b]) ∧ (fillA a b ∉ list → fitsL list a b = []) := by
  unfold fitsL; refine only_one _ (fillA a b) b hd (fun f hf hne => ?_) ?_
  · rw [matchA_whole (hl f hf) hw, if_neg hne]
  · rw [matchA_whole (fill_words a b) hw, if_pos rfl]
theorem tell_pos {list : List At} (hl : WordsAll list) (hd : list.Nodup) {q : Pt} (hq : q.1 = false) (qs : List Pt) (b : Bd) : tellB list (q :: qs) b = (fitsL list q.2 b).flatMap (tellB list qs) := by
  rw [tellB]; split
  · rename_i h
    obtain ⟨f1, f2⟩ := fits_whole hl hd h; by_cases hm : fillA q.2 b ∈ list
    · rw [f1 hm, if_pos (by unfold SoB; rw [hq]; exact ⟨fun h => Bool.noConfusion h, fun h => absurd hm h⟩)]; simp
    · rw [f2 hm, if_neg (by unfold SoB; rw [hq]; intro h; exact Bool.noConfusion (h.2 hm))]; simp
  · rfl
theorem tell_musts {list : List At} (hl : WordsAll list) (hd : list.Nodup) (ns : List Pt) : ∀ (ms : List Pt) (out : List Bd), (∀ q ∈ ms, q.1 = false) → out.flatMap (tellB list (ms ++ ns)) = (ms.foldl (stepB list) out).flatMap (tellB list ns)
  | [], _, _ => rfl
  | q :: ms, out, h => by
    rw [List.foldl_cons, ← tell_musts hl hd ns ms _ (fun r hr => h r qch)]; unfold stepB; rw [if_neg (by rw [h q qad]; simp), List.flatMap_assoc]; congr 1; funext b; rw [List.cons_append, tell_pos hl hd (h q qad)]
theorem fold_musts (list : List At) : ∀ (body : List Pt) (out : List Bd), body.foldl (stepB list) out = (musts body).foldl (stepB list) out
  | [], _ => rfl
  | q :: body, out => by
    unfold musts; rw [List.foldl_cons]
    cases hq : q.1 with
    | true =>
      rw [List.filter_cons_of_neg qdr, show stepB list out q = out by unfold stepB; rw [if_pos hq]]
      exact fold_musts list body out
    | false =>
      rw [List.filter_cons_of_pos qdr, List.foldl_cons]; exact fold_musts list body _
def notsOf (qs : List Pt) : List Pt := qs.filter fun q => q.1
theorem tell_nots {list : List At} (hl : WordsAll list) : ∀ {ns : List Pt} {b : Bd}, (∀ q ∈ ns, q.1 = true) → (∀ q ∈ ns, wholeB b q.2 = true) → tellB list ns b = if okB list ns b = true then [b] else []
  | [], b, _, _ => rfl
  | q :: ns, b, h1, h2 => by
    rw [tellB, if_pos (h2 q qad), tell_nots hl (fun r hr => h1 r qch) (fun r hr => h2 r qch)]; have hok : okB list (q :: ns) b = (!(q.1 && hasB list (fillA q.2 b)) && okB list ns b) := by unfold okB; rw [List.all_cons]
    have hm := hasB_words hl (fill_words q.2 b); have hq1 := h1 q qad; rw [hok, hq1]
    cases hh : hasB list (fillA q.2 b) with
    | true => rw [if_neg (show ¬ SoB list b q from fun h => h.1 hq1 (hm.1 hh))]; simp
    | false => rw [if_pos (show SoB list b q from ⟨fun _ h => Bool.noConfusion ((hm.2 h).symm.trans hh), fun _ => hq1⟩)]; simp
theorem ok_nots (list : List At) (body : List Pt) (b : Bd) : okB list (notsOf body) b = okB list body b := by
  unfold okB notsOf
  induction body with
  | nil => rfl
  | cons q body ih =>
    cases hq : q.1 with
    | true => rw [List.filter_cons_of_pos hq, List.all_cons, List.all_cons, ih, hq]
    | false => rw [List.filter_cons_of_neg qdr, List.all_cons, ih, hq]; simp
theorem fold_bound {list : List At} (hl : WordsAll list) : ∀ {ms : List Pt} {out : List Bd} {b : Bd}, (∀ q ∈ ms, q.1 = false) → b ∈ ms.foldl (stepB list) out → ∃ c ∈ out, ExtB c b ∧ ∀ q ∈ ms, ∀ x, (true, x) ∈ q.2.2 → getW b x ≠ none
  | [], out, b, _, h => ⟨b, h, fun _ _ h => h, fun _ h => by simp at h⟩
  | q :: ms, out, b, hq, h => by
    obtain ⟨c, hc, h1, h2⟩ := fold_bound hl (ms := ms) (out := stepB list out q) (fun r hr => hq r qch) h; rw [show stepB list out q = out.flatMap (fitsL list q.2) by unfold stepB; rw [if_neg (by rw [hq q qad]; simp)]] at hc; obtain ⟨d, hd, hc⟩ := List.mem_flatMap.1 hc; obtain ⟨f, hf, e⟩ := List.mem_filterMap.1 hc; obtain ⟨_, M⟩ := matchA_some (hl f hf) e; refine ⟨d, hd, fun x v hx => h1 x v (M.ext x v hx), fun r hr x hx => ?_⟩; rcases List.mem_cons.1 hr with e | e
    · subst e
      intro hn; exact M.all x hx (h1.none hn)
    · exact h2 r e x hx
theorem flat_filter {α : Type} {f : α → List α} {p : α → Bool} : ∀ {xs : List α}, (∀ x ∈ xs, f x = if p x = true then [x] else []) → xs.flatMap f = xs.filter p
  | [], _ => rfl
  | x :: xs, h => by
    rw [List.flatMap_cons, h x qad, flat_filter (fun y hy => h y (by simp [hy]))]
    cases hp : p x with
    | true => rw [List.filter_cons_of_pos hp]; simp
    | false => rw [List.filter_cons_of_neg (by simp [hp])]; simp
theorem tell_rows {list : List At} (hl : WordsAll list) (hd : list.Nodup) {body : List Pt} (hw : WfP body []) : tellB list (musts body ++ notsOf body) [] = rowsB list body := by
  have hms : ∀ q ∈ musts body, q.1 = false := fun q hq => by
    have := (List.mem_filter.1 hq).2; simpa using this
  have h1 := tell_musts hl hd (notsOf body) (musts body) [[]] hms; rw [List.flatMap_singleton] at h1; rw [h1, ← fold_musts]; unfold rowsB allB; rw [← show okB list (notsOf body) = okB list body from funext fun b => ok_nots list body b]; refine flat_filter fun b hb => tell_nots hl (fun q hq => (List.mem_filter.1 hq).2) fun q hq => whole_iff.2 fun x hx => ?_; rw [fold_musts] at hb; obtain ⟨c, hc, h2, h3⟩ := fold_bound hl hms hb; obtain ⟨hq1, hq2⟩ := List.mem_filter.1 hq; obtain ⟨p, hp, hp1, hp2⟩ := hw q hq1 hq2 x ⟨hx.1, rfl⟩; exact h3 p (List.mem_filter.2 ⟨hp, by simp [hp1]⟩) x hp2 hx.2
end Go.Proofs.YtcigljngiemdeaaGreat
