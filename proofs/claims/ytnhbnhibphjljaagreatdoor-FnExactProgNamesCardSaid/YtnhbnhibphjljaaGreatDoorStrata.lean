/-
  Levels: what can be derived of rules, and two ways to come to the greatest of it. (Pure: of no code.)
-/
import Derived.Test.YtnhbnhibphjljaaGreatDoorMem
namespace Go.Proofs.YtnhbnhibphjljaaGreatDoor

/-- What must be at least as high: a above b, and one higher if so marked. -/
abbrev Edge := ByteArray × ByteArray × Bool

/-- A level that is asked of a name. -/
inductive Der (C : List Edge) : ByteArray → Nat → Prop
  | zero (a : ByteArray) : Der C a 0
  | step {a b : ByteArray} {s : Bool} {v : Nat} : (a, b, s) ∈ C → Der C b v → Der C a (v + if s then 1 else 0)

/-- Levels that meet all of it are at least what is asked. -/
theorem Der.le {C : List Edge} {L : ByteArray → Nat} (h : ∀ c ∈ C, L c.2.1 + (if c.2.2 then 1 else 0) ≤ L c.1) {a : ByteArray} {v : Nat} (d : Der C a v) : v ≤ L a := by
  induction d with
  | zero a => exact Nat.zero_le _
  | step hm _ ih =>
    have := h _ hm
    simp only at this
    omega

/-- Levels that are asked, and that meet all of it: the greatest that is asked. -/
theorem Der.level {C : List Edge} {L : ByteArray → Nat} (h : ∀ c ∈ C, L c.2.1 + (if c.2.2 then 1 else 0) ≤ L c.1) (hd : ∀ a, Der C a (L a)) {L' : ByteArray → Nat} (h' : ∀ c ∈ C, L' c.2.1 + (if c.2.2 then 1 else 0) ≤ L' c.1) (hd' : ∀ a, Der C a (L' a)) (a : ByteArray) : L a = L' a :=
  Nat.le_antisymm ((hd a).le h') ((hd' a).le h)

def again {α : Type} (f : α → α) : Nat → α → α
  | 0, x => x
  | t + 1, x => again f t (f x)

theorem again_succ {α : Type} (f : α → α) : ∀ (t : Nat) (x : α), again f (t + 1) x = f (again f t x)
  | 0, _ => rfl
  | t + 1, x => again_succ f t (f x)

/-- What rises in each turn that turns anything is bad, or at rest, or has risen as often as it was turned. -/
theorem settles {α : Type} (f : α → α) (μ : α → Nat) (bad : α → Prop) (hup : ∀ x, f x ≠ x → μ x < μ (f x)) (hbad : ∀ x, bad x → bad (f x)) (x : α) :
    ∀ t, bad (again f t x) ∨ f (again f t x) = again f t x ∨ t ≤ μ (again f t x)
  | 0 => .inr (.inr (Nat.zero_le _))
  | t + 1 => by
    rw [again_succ]
    rcases settles f μ bad hup hbad x t with h | h | h
    · exact .inl (hbad _ h)
    · rw [h, h]; exact .inr (.inl rfl)
    · by_cases hf : f (again f t x) = again f t x
      · rw [hf]; exact .inr (.inl hf)
      · have := hup _ hf
        exact .inr (.inr (by omega))

/-- .. so, where it can't rise above B unless it is bad, it is bad or at rest behind more than B turns. -/
theorem settled {α : Type} (f : α → α) (μ : α → Nat) (bad : α → Prop) (hup : ∀ x, f x ≠ x → μ x < μ (f x)) (hbad : ∀ x, bad x → bad (f x)) (B : Nat) (hB : ∀ x, ¬ bad x → μ x ≤ B) (x : α) (t : Nat) (ht : B < t) :
    bad (again f t x) ∨ f (again f t x) = again f t x := by
  rcases settles f μ bad hup hbad x t with h | h | h
  · exact .inl h
  · exact .inr h
  · refine .inl (Classical.byContradiction fun hn => ?_)
    have := hB _ hn
    omega

/-- One raise: place i to what place k has, and inc more; a capped one only while i is at most n. -/
structure Up where
  i : Nat
  k : Nat
  inc : Nat
  cap : Bool

def at0 (L : List Nat) (i : Nat) : Nat := L[i]?.getD 0

def raise (n : Nat) (L : List Nat) (u : Up) : List Nat :=
  if at0 L u.i < at0 L u.k + u.inc ∧ (u.cap = true → at0 L u.i ≤ n) then L.set u.i (at0 L u.k + u.inc) else L

theorem sum_set : ∀ (L : List Nat) (i v : Nat), i < L.length → (L.set i v).sum + at0 L i = L.sum + v
  | [], _, _, h => absurd h (Nat.not_lt_zero _)
  | x :: L, 0, v, _ => by simp [at0]; omega
  | x :: L, i + 1, v, h => by
    have := sum_set L i v (by simpa using h)
    simp only [at0, List.set_cons_succ, List.sum_cons, List.getElem?_cons_succ] at *
    omega

theorem raise_len (n : Nat) (L : List Nat) (u : Up) : (raise n L u).length = L.length := by
  unfold raise; split <;> simp

theorem raise_up (n : Nat) (L : List Nat) (u : Up) : raise n L u = L ∨ L.sum < (raise n L u).sum := by
  unfold raise
  split
  · rename_i h
    by_cases hi : u.i < L.length
    · have := sum_set L u.i (at0 L u.k + u.inc) hi
      exact .inr (by omega)
    · exact .inl (List.set_eq_of_length_le (by omega))
  · exact .inl rfl

theorem pass_up (n : Nat) : ∀ (us : List Up) (L : List Nat), us.foldl (raise n) L = L ∨ L.sum < (us.foldl (raise n) L).sum
  | [], _ => .inl rfl
  | u :: us, L => by
    rw [List.foldl_cons]
    rcases raise_up n L u with h | h
    · rw [h]; exact pass_up n us L
    · rcases pass_up n us (raise n L u) with h2 | h2
      · rw [h2]; exact .inr h
      · exact .inr (by omega)

/-- Some level is too high. -/
def High (n : Nat) (L : List Nat) : Prop := L.length ≠ n ∨ ∃ x ∈ L, n ≤ x

theorem High.raise {n : Nat} {L : List Nat} (h : High n L) (u : Up) : High n (raise n L u) := by
  rcases h with h | ⟨x, hx, hn⟩
  · exact .inl (by rw [raise_len]; exact h)
  · refine .inr ?_
    unfold Proofs.YtnhbnhibphjljaaGreatDoor.raise
    split
    · rename_i hc
      obtain ⟨j, hj, e⟩ := List.getElem_of_mem hx
      by_cases e2 : u.i = j
      · refine ⟨at0 L u.k + u.inc, List.mem_iff_getElem.2 ⟨j, by rw [List.length_set]; exact hj, by rw [e2]; simp⟩, ?_⟩
        have : at0 L u.i = x := by unfold at0; rw [e2, List.getElem?_eq_getElem hj, e]; rfl
        omega
      · exact ⟨x, List.mem_iff_getElem.2 ⟨j, by rw [List.length_set]; exact hj, by rw [List.getElem_set_ne e2, e]⟩, hn⟩
    · exact ⟨x, hx, hn⟩

theorem High.pass {n : Nat} : ∀ (us : List Up) {L : List Nat}, High n L → High n (us.foldl (Proofs.YtnhbnhibphjljaaGreatDoor.raise n) L)
  | [], _, h => h
  | u :: us, _, h => by rw [List.foldl_cons]; exact High.pass us (h.raise u)

theorem sum_low : ∀ (L : List Nat) (n : Nat), (∀ x ∈ L, x < n) → L.sum ≤ L.length * n
  | [], _, _ => by simp
  | x :: L, n, h => by
    have h1 := sum_low L n (fun y hy => h y (List.mem_cons_of_mem _ hy))
    have h2 := h x (List.mem_cons_self ..)
    simp only [List.sum_cons, List.length_cons, Nat.add_mul, Nat.one_mul]
    omega

/-- Behind so many passes some level is too high, or nothing is raised any more. -/
theorem passes (n : Nat) (us : List Up) (L : List Nat) (t : Nat) (ht : n * n < t) : High n (again (fun L => us.foldl (raise n) L) t L) ∨ us.foldl (raise n) (again (fun L => us.foldl (raise n) L) t L) = again (fun L => us.foldl (raise n) L) t L :=
  settled _ List.sum (High n) (fun x hx => (pass_up n us x).resolve_left hx) (fun _ h => h.pass us) (n * n) (fun x hx => by
    have h1 : x.length = n := Classical.byContradiction fun h => hx (.inl h)
    have h2 := sum_low x n (fun y hy => Nat.lt_of_not_le fun h => hx (.inr ⟨y, hy, h⟩))
    rw [h1] at h2; exact h2) L t ht

theorem stable_each (n : Nat) : ∀ (us : List Up) (L : List Nat), us.foldl (raise n) L = L → ∀ u ∈ us, raise n L u = L
  | [], _, _ => fun u hu => by simp at hu
  | u :: us, L, h => by
    rw [List.foldl_cons] at h
    have h1 : raise n L u = L := by
      rcases raise_up n L u with e | e
      · exact e
      · rcases pass_up n us (raise n L u) with e2 | e2
        · rw [e2] at h; exact h
        · rw [h] at e2; omega
    rw [h1] at h
    intro x hx
    rcases List.mem_cons.1 hx with rfl | hx
    · exact h1
    · exact stable_each n us L h x hx

theorem at0_set {L : List Nat} {i v : Nat} (h : i < L.length) : at0 (L.set i v) i = v := by unfold at0; simp [h]
theorem at0_set_ne {L : List Nat} {i j v : Nat} (h : i ≠ j) : at0 (L.set i v) j = at0 L j := by unfold at0; rw [List.getElem?_set_ne h]

/-- At rest, and none too high: all is met. -/
theorem stable_met {n : Nat} {us : List Up} {L : List Nat} (h : us.foldl (raise n) L = L) (hl : ¬ High n L) {u : Up} (hu : u ∈ us) (hi : u.i < n) : at0 L u.k + u.inc ≤ at0 L u.i := by
  have hlen : L.length = n := Classical.byContradiction fun h => hl (.inl h)
  have h1 := stable_each n us L h u hu
  unfold raise at h1
  refine Classical.byContradiction fun hn => ?_
  have hlow : at0 L u.i < n := by
    refine Nat.lt_of_not_le fun hge => hl (.inr ⟨at0 L u.i, ?_, hge⟩)
    unfold at0
    rw [List.getElem?_eq_getElem (by omega)]
    exact List.getElem_mem _
  rw [if_pos ⟨by omega, fun _ => by omega⟩] at h1
  have := congrArg (fun L => at0 L u.i) h1
  simp only [at0_set (show u.i < L.length by omega)] at this
  omega

/-- Each place's level is asked of its name. -/
def AllDer (C : List Edge) (nm : Nat → ByteArray) (L : List Nat) : Prop := ∀ i, Der C (nm i) (at0 L i)

/-- A raise that is right: what is asked at k, and inc more, is asked at i. -/
def Right (C : List Edge) (nm : Nat → ByteArray) (u : Up) : Prop := ∀ v, Der C (nm u.k) v → Der C (nm u.i) (v + u.inc)

theorem AllDer.raise {C : List Edge} {nm : Nat → ByteArray} {n : Nat} {L : List Nat} {u : Up} (h : AllDer C nm L) (hr : Right C nm u) : AllDer C nm (raise n L u) := by
  unfold Proofs.YtnhbnhibphjljaaGreatDoor.raise
  split
  · intro j
    by_cases e : u.i = j
    · by_cases hl : u.i < L.length
      · rw [← e, at0_set hl]; exact hr _ (h u.k)
      · rw [List.set_eq_of_length_le (by omega)]; exact h j
    · rw [at0_set_ne e]; exact h j
  · exact h

theorem AllDer.pass {C : List Edge} {nm : Nat → ByteArray} {n : Nat} : ∀ (us : List Up) {L : List Nat}, AllDer C nm L → (∀ u ∈ us, Right C nm u) → AllDer C nm (us.foldl (Proofs.YtnhbnhibphjljaaGreatDoor.raise n) L)
  | [], _, h, _ => h
  | u :: us, _, h, hr => by rw [List.foldl_cons]; exact AllDer.pass us (h.raise (hr u (List.mem_cons_self ..))) (fun x hx => hr x (List.mem_cons_of_mem _ hx))

theorem AllDer.again {C : List Edge} {nm : Nat → ByteArray} {n : Nat} {us : List Up} (hr : ∀ u ∈ us, Right C nm u) : ∀ (t : Nat) {L : List Nat}, AllDer C nm L → AllDer C nm (Proofs.YtnhbnhibphjljaaGreatDoor.again (fun L => us.foldl (Proofs.YtnhbnhibphjljaaGreatDoor.raise n) L) t L)
  | 0, _, h => h
  | t + 1, _, h => AllDer.again hr t (h.pass us hr)

theorem AllDer.zero (C : List Edge) (nm : Nat → ByteArray) (n : Nat) : AllDer C nm (List.replicate n 0) := by
  intro i
  have : at0 (List.replicate n 0) i = 0 := by
    unfold at0
    rw [List.getElem?_replicate]
    split <;> rfl
  rw [this]; exact .zero _

/-- All that is asked is among the raises, and places of one name are held even. -/
structure Covers (C : List Edge) (nm : Nat → ByteArray) (n : Nat) (us : List Up) : Prop where
  right : ∀ u ∈ us, Right C nm u
  edge : ∀ a b s, (a, b, s) ∈ C → ∃ u ∈ us, u.i < n ∧ u.k < n ∧ nm u.i = a ∧ nm u.k = b ∧ u.inc = (if s then 1 else 0)
  even : ∀ i k, i < n → k < n → nm i = nm k → ∃ u ∈ us, u.i = i ∧ u.k = k ∧ u.inc = 0

/-- The level of a name, read off the places. -/
noncomputable def levelOf (nm : Nat → ByteArray) (n : Nat) (L : List Nat) (a : ByteArray) : Nat := by
  classical
  exact if h : ∃ i, i < n ∧ nm i = a then at0 L (Classical.choose h) else 0

theorem levelOf_at {C : List Edge} {nm : Nat → ByteArray} {n : Nat} {us : List Up} {L : List Nat} (hc : Covers C nm n us) (h : us.foldl (raise n) L = L) (hl : ¬ High n L) {i : Nat} (hi : i < n) : levelOf nm n L (nm i) = at0 L i := by
  have hx : ∃ j, j < n ∧ nm j = nm i := ⟨i, hi, rfl⟩
  unfold levelOf
  rw [dif_pos hx]
  obtain ⟨h1, h2⟩ := Classical.choose_spec hx
  obtain ⟨u, hu, e1, e2, e3⟩ := hc.even _ _ hi h1 h2.symm
  obtain ⟨u', hu', e1', e2', e3'⟩ := hc.even _ _ h1 hi h2
  have m1 := stable_met h hl hu (by omega)
  have m2 := stable_met h hl hu' (by omega)
  rw [e1, e2, e3] at m1
  rw [e1', e2', e3'] at m2
  omega

/-- At rest, and none too high: a place's level is the greatest that is asked of its name. -/
theorem rest_level {C : List Edge} {nm : Nat → ByteArray} {n : Nat} {us : List Up} {L : List Nat} (hc : Covers C nm n us) (h : us.foldl (raise n) L = L) (hl : ¬ High n L) {i : Nat} (hi : i < n) {v : Nat} (d : Der C (nm i) v) : v ≤ at0 L i := by
  have hfix : ∀ c ∈ C, levelOf nm n L c.2.1 + (if c.2.2 then 1 else 0) ≤ levelOf nm n L c.1 := by
    rintro ⟨a, b, s⟩ hm
    obtain ⟨u, hu, e1, e2, rfl, rfl, e5⟩ := hc.edge a b s hm
    have := stable_met h hl hu e1
    show levelOf nm n L (nm u.k) + (if s = true then 1 else 0) ≤ levelOf nm n L (nm u.i)
    rw [levelOf_at hc h hl e1, levelOf_at hc h hl e2, ← e5]
    exact this
  have := d.le hfix
  rwa [levelOf_at hc h hl hi] at this

/-- What is told of rules: does a level of n or more follow? -/
def Cyclic (C : List Edge) (nm : Nat → ByteArray) (n : Nat) : Prop := ∃ i v, i < n ∧ Der C (nm i) v ∧ n ≤ v

/-- Behind so many passes: too high just where it is cyclic; else the greatest that is asked. -/
theorem passes_tell {C : List Edge} {nm : Nat → ByteArray} {n : Nat} {us : List Up} (hc : Covers C nm n us) (t : Nat) (ht : n * n < t) (L : List Nat) (hL : again (fun L => us.foldl (raise n) L) t (List.replicate n 0) = L) :
    (High n L ↔ Cyclic C nm n) ∧ L.length = n ∧ (¬ Cyclic C nm n → ∀ i, i < n → Der C (nm i) (at0 L i) ∧ ∀ v, Der C (nm i) v → v ≤ at0 L i) := by
  have hd : AllDer C nm L := by rw [← hL]; exact AllDer.again hc.right t (AllDer.zero C nm n)
  have hlen : L.length = n := by
    have hlp : ∀ (us : List Up) (L : List Nat), (us.foldl (raise n) L).length = L.length := by
      intro us
      induction us with
      | nil => intro L; rfl
      | cons u us ih => intro L; rw [List.foldl_cons, ih, raise_len]
    have hl : ∀ (t : Nat) (L : List Nat), (again (fun L => us.foldl (raise n) L) t L).length = L.length := by
      intro t
      induction t with
      | zero => intro L; rfl
      | succ t ih => intro L; show (again (fun L => us.foldl (raise n) L) t (us.foldl (raise n) L)).length = _; rw [ih, hlp]
    rw [← hL, hl, List.length_replicate]
  have hs := passes n us (List.replicate n 0) t ht
  rw [hL] at hs
  have h1 : High n L → Cyclic C nm n := by
    rintro (h | ⟨x, hx, hn⟩)
    · exact absurd hlen h
    · obtain ⟨i, hi, e⟩ := List.getElem_of_mem hx
      refine ⟨i, x, by omega, ?_, hn⟩
      have := hd i
      unfold at0 at this
      rw [List.getElem?_eq_getElem hi, e] at this
      exact this
  have h2 : ¬ High n L → ∀ i, i < n → ∀ v, Der C (nm i) v → v ≤ at0 L i := fun hn i hi v d => rest_level hc (hs.resolve_left hn) hn hi d
  have h3 : Cyclic C nm n → High n L := by
    rintro ⟨i, v, hi, d, hv⟩
    refine Classical.byContradiction fun hn => hn (.inr ⟨at0 L i, ?_, Nat.le_trans hv (h2 hn i hi v d)⟩)
    unfold at0
    rw [List.getElem?_eq_getElem (by omega)]
    exact List.getElem_mem _
  exact ⟨⟨h1, h3⟩, hlen, fun hn i hi => ⟨hd i, h2 (fun h => hn (h1 h)) i hi⟩⟩

/-- The head's name of the rule at a place. -/
def headAt (rs : List Rl) (i : Nat) : ByteArray := (rs[i]?.map (·.1.1)).getD ⟨#[]⟩

/-- Is it the name of a head? -/
def isHead (rs : List Rl) (a : ByteArray) : Prop := ∃ k, k < rs.length ∧ headAt rs k = a

/-- What rules ask of their names. -/
noncomputable def edgesOf (rs : List Rl) : List Edge := by
  classical
  exact rs.flatMap fun r => (r.2.filter fun p => decide (isHead rs p.2.1)).map fun p => (r.1.1, p.2.1, p.1)

theorem mem_edges {rs : List Rl} {a b : ByteArray} {s : Bool} : (a, b, s) ∈ edgesOf rs ↔ ∃ r ∈ rs, ∃ p ∈ r.2, isHead rs p.2.1 ∧ r.1.1 = a ∧ p.2.1 = b ∧ p.1 = s := by
  classical
  unfold edgesOf
  simp only [List.mem_flatMap, List.mem_map, List.mem_filter, decide_eq_true_eq, Prod.mk.injEq]
  constructor
  · rintro ⟨r, hr, p, ⟨hp, hh⟩, h1, h2, h3⟩; exact ⟨r, hr, p, hp, hh, h1, h2, h3⟩
  · rintro ⟨r, hr, p, hp, hh, h1, h2, h3⟩; exact ⟨r, hr, p, ⟨hp, hh⟩, h1, h2, h3⟩

/-- The raises of one pass of the model at a rule and another: even, then each part. -/
def upsAt (rs : List Rl) (i k : Nat) : List Up :=
  (if headAt rs k = headAt rs i then [⟨i, k, 0, false⟩] else []) ++ ((rs[i]?.map (·.2)).getD []).flatMap fun p => if p.2.1 = headAt rs k then [⟨i, k, if p.1 then 1 else 0, true⟩] else []

def upsOf (rs : List Rl) : List Up := (List.range rs.length).flatMap fun i => (List.range rs.length).flatMap fun k => upsAt rs i k

theorem mem_ups {rs : List Rl} {u : Up} : u ∈ upsOf rs ↔ ∃ i k, i < rs.length ∧ k < rs.length ∧ u ∈ upsAt rs i k := by
  unfold upsOf
  simp only [List.mem_flatMap, List.mem_range]
  constructor
  · rintro ⟨i, hi, k, hk, h⟩; exact ⟨i, k, hi, hk, h⟩
  · rintro ⟨i, k, hi, hk, h⟩; exact ⟨i, hi, k, hk, h⟩

theorem ups_cover (rs : List Rl) : Covers (edgesOf rs) (headAt rs) rs.length (upsOf rs) := by
  refine ⟨fun u hu v d => ?_, fun a b s hm => ?_, fun i k hi hk e => ?_⟩
  · obtain ⟨i, k, hi, hk, h⟩ := mem_ups.1 hu
    unfold upsAt at h
    rcases List.mem_append.1 h with h | h
    · split at h
      · rename_i e
        rw [List.mem_singleton] at h
        subst h
        simp only at d ⊢
        rw [← e]; exact d
      · simp at h
    · obtain ⟨p, hp, h⟩ := List.mem_flatMap.1 h
      split at h
      · rename_i e
        rw [List.mem_singleton] at h
        subst h
        simp only at d ⊢
        have hri : rs[i]? = some rs[i] := List.getElem?_eq_getElem hi
        rw [hri] at hp
        have hh : headAt rs i = rs[i].1.1 := by unfold headAt; rw [hri]; rfl
        rw [hh]
        refine Der.step (mem_edges.2 ⟨rs[i], List.getElem_mem _, p, hp, ⟨k, hk, e.symm⟩, rfl, e, rfl⟩) d
      · simp at h
  · obtain ⟨r, hr, p, hp, ⟨k, hk, hk2⟩, rfl, rfl, rfl⟩ := mem_edges.1 hm
    obtain ⟨i, hi, rfl⟩ := List.getElem_of_mem hr
    have hri : rs[i]? = some rs[i] := List.getElem?_eq_getElem hi
    refine ⟨⟨i, k, if p.1 then 1 else 0, true⟩, mem_ups.2 ⟨i, k, hi, hk, ?_⟩, hi, hk, by show headAt rs i = _; unfold headAt; rw [hri]; rfl, hk2, rfl⟩
    unfold upsAt
    refine List.mem_append.2 (.inr (List.mem_flatMap.2 ⟨p, by rw [hri]; exact hp, ?_⟩))
    rw [if_pos hk2.symm]
    exact List.mem_singleton.2 rfl
  · refine ⟨⟨i, k, 0, false⟩, mem_ups.2 ⟨i, k, hi, hk, ?_⟩, rfl, rfl, rfl⟩
    unfold upsAt
    rw [if_pos e.symm]
    exact List.mem_append.2 (.inl (List.mem_singleton.2 rfl))

/-- Levels by name that are asked, meet all, and are none too high: nothing is cyclic, and they are the greatest. -/
theorem met_tell {C : List Edge} {nm : Nat → ByteArray} {n : Nat} {L : ByteArray → Nat} (hm : ∀ c ∈ C, L c.2.1 + (if c.2.2 then 1 else 0) ≤ L c.1) (hl : ∀ i, i < n → L (nm i) < n) : ¬ Cyclic C nm n ∧ ∀ a v, Der C a v → v ≤ L a :=
  ⟨fun ⟨i, v, hi, d, hv⟩ => by have := d.le hm; have := hl i hi; omega, fun _ _ d => d.le hm⟩

/-- .. so the model's passes come to the same levels. -/
theorem met_same {C : List Edge} {nm : Nat → ByteArray} {n : Nat} {us : List Up} (hc : Covers C nm n us) (t : Nat) (ht : n * n < t) {L : ByteArray → Nat} (hm : ∀ c ∈ C, L c.2.1 + (if c.2.2 then 1 else 0) ≤ L c.1) (hd : ∀ i, i < n → Der C (nm i) (L (nm i))) (hl : ∀ i, i < n → L (nm i) < n) :
    ¬ High n (again (fun L => us.foldl (raise n) L) t (List.replicate n 0)) ∧ again (fun L => us.foldl (raise n) L) t (List.replicate n 0) = (List.range n).map fun i => L (nm i) := by
  obtain ⟨hno, hmax⟩ := met_tell (nm := nm) (n := n) hm hl
  obtain ⟨h1, h2, h3⟩ := passes_tell hc t ht _ rfl
  refine ⟨fun h => hno (h1.1 h), List.ext_getElem (by rw [h2]; simp) fun i hi hi' => ?_⟩
  have hin : i < n := by rw [← h2]; exact hi
  obtain ⟨d, hg⟩ := h3 hno i hin
  rw [List.getElem_map, List.getElem_range]
  have e : at0 (again (fun L => us.foldl (raise n) L) t (List.replicate n 0)) i = (again (fun L => us.foldl (raise n) L) t (List.replicate n 0))[i] := by
    unfold at0; rw [List.getElem?_eq_getElem hi]; rfl
  rw [← e]
  exact Nat.le_antisymm (hmax _ _ d) (hg _ (hd i hin))

/-- .. and where a level that is asked is too high, so is one of the model's. -/
theorem high_same {C : List Edge} {nm : Nat → ByteArray} {n : Nat} {us : List Up} (hc : Covers C nm n us) (t : Nat) (ht : n * n < t) {i v : Nat} (hi : i < n) (d : Der C (nm i) v) (hv : n ≤ v) : High n (again (fun L => us.foldl (raise n) L) t (List.replicate n 0)) :=
  (passes_tell hc t ht _ rfl).1.2 ⟨i, v, hi, d, hv⟩

end Go.Proofs.YtnhbnhibphjljaaGreatDoor
