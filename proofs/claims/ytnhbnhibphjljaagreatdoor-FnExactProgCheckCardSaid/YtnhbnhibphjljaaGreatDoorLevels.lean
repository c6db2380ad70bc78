/-
  Levels, as the model works them out, place by place: it is the raises' fold; and no level grows without bound. (Pure: of no code.)
-/
import Derived.Test.YtnhbnhibphjljaaGreatDoorStrata
namespace Go.Proofs.YtnhbnhibphjljaaGreatDoor

def bodyAt (rs : List Rl) (i : Nat) : List Pt := (rs[i]?.map (·.2)).getD []

/-- Places of one name are held even. -/
def evenF (rs : List Rl) (i k : Nat) (L : List Nat) : List Nat := if headAt rs k = headAt rs i then raise rs.length L ⟨i, k, 0, false⟩ else L
/-- One part of a rule, held against another rule. -/
def partF (rs : List Rl) (i k : Nat) (L : List Nat) (p : Pt) : List Nat := if p.2.1 = headAt rs k then raise rs.length L ⟨i, k, if p.1 then 1 else 0, true⟩ else L
def pairF (rs : List Rl) (i : Nat) (L : List Nat) (k : Nat) : List Nat := (bodyAt rs i).foldl (partF rs i k) (evenF rs i k L)
def rowF (rs : List Rl) (L : List Nat) (i : Nat) : List Nat := (List.range rs.length).foldl (pairF rs i) L
/-- One pass over all rules. -/
def passF (rs : List Rl) (L : List Nat) : List Nat := (List.range rs.length).foldl (rowF rs) L

theorem pairF_ups (rs : List Rl) (i k : Nat) (L : List Nat) : pairF rs i L k = (upsAt rs i k).foldl (raise rs.length) L := by
  unfold pairF upsAt bodyAt
  rw [List.foldl_append, List.foldl_flatMap]
  have h1 : (if headAt rs k = headAt rs i then [(⟨i, k, 0, false⟩ : Up)] else []).foldl (raise rs.length) L = evenF rs i k L := by
    unfold evenF; split <;> rfl
  rw [h1]
  have h2 : (fun (acc : List Nat) (p : Pt) => (if p.2.1 = headAt rs k then [(⟨i, k, if p.1 then 1 else 0, true⟩ : Up)] else []).foldl (raise rs.length) acc) = partF rs i k := by
    funext acc p
    unfold partF; split <;> rfl
  rw [h2]

theorem passF_ups (rs : List Rl) (L : List Nat) : passF rs L = (upsOf rs).foldl (raise rs.length) L := by
  unfold passF upsOf
  rw [List.foldl_flatMap]
  have h : (fun (acc : List Nat) (i : Nat) => ((List.range rs.length).flatMap fun k => upsAt rs i k).foldl (raise rs.length) acc) = rowF rs := by
    funext acc i
    unfold rowF
    rw [List.foldl_flatMap]
    have h2 : (fun (acc : List Nat) (k : Nat) => (upsAt rs i k).foldl (raise rs.length) acc) = pairF rs i := by
      funext a k; exact (pairF_ups rs i k a).symm
    rw [h2]
  rw [h]

/-- The model's levels. -/
def levelsL (rs : List Rl) : List Nat := again (passF rs) ((rs.length + 1) * (rs.length + 2)) (List.replicate rs.length 0)

theorem levelsL_ups (rs : List Rl) : levelsL rs = again (fun L => (upsOf rs).foldl (raise rs.length) L) ((rs.length + 1) * (rs.length + 2)) (List.replicate rs.length 0) := by
  unfold levelsL
  have h : passF rs = fun L => (upsOf rs).foldl (raise rs.length) L := funext (passF_ups rs)
  rw [h]

theorem turns_lt (n : Nat) : n * n < (n + 1) * (n + 2) := by
  have : (n + 1) * (n + 2) = n * n + 3 * n + 2 := by
    rw [Nat.add_mul, Nat.mul_add, Nat.one_mul]; omega
  omega

/-- How many are low. -/
def lows (n : Nat) (L : List Nat) : Nat := (L.map fun x => if x ≤ n then 1 else 0).sum

/-- None is much too high: the more are, the higher one may be. -/
def Capped (n : Nat) (L : List Nat) : Prop := L.length = n ∧ ∀ x ∈ L, n < x → x + lows n L ≤ 2 * n

theorem lows_le (n : Nat) : ∀ L : List Nat, lows n L ≤ L.length
  | [] => Nat.le_refl _
  | x :: L => by
    have := lows_le n L
    unfold lows at *
    simp only [List.map_cons, List.sum_cons, List.length_cons]
    split <;> omega

theorem lows_set {n : Nat} {L : List Nat} {i v : Nat} (h : i < L.length) : lows n (L.set i v) + (if at0 L i ≤ n then 1 else 0) = lows n L + (if v ≤ n then 1 else 0) := by
  have h1 := sum_set (L.map fun x => if x ≤ n then 1 else 0) i (if v ≤ n then 1 else 0) (by rw [List.length_map]; exact h)
  have h2 : (L.map fun x => if x ≤ n then 1 else 0).set i (if v ≤ n then 1 else 0) = (L.set i v).map fun x => if x ≤ n then 1 else 0 := by rw [List.map_set]
  have h3 : at0 (L.map fun x => if x ≤ n then 1 else 0) i = if at0 L i ≤ n then 1 else 0 := by
    unfold at0; rw [List.getElem?_map, List.getElem?_eq_getElem h]; rfl
  rw [h2, h3] at h1
  exact h1

theorem at0_mem {L : List Nat} {i : Nat} (h : i < L.length) : at0 L i ∈ L := by
  unfold at0; rw [List.getElem?_eq_getElem h]; exact List.getElem_mem h

theorem Capped.raise {n : Nat} {L : List Nat} (h : Capped n L) (u : Up) (hi : u.i < n) (hk : u.k < n) (hu : u.inc ≤ 1) (hc : u.inc = 0 ∨ u.cap = true) : Capped n (raise n L u) := by
  unfold Proofs.YtnhbnhibphjljaaGreatDoor.raise
  split
  · rename_i hr
    obtain ⟨h1, h2⟩ := h
    have hiL : u.i < L.length := by omega
    have hs := lows_set (n := n) (v := at0 L u.k + u.inc) hiL
    have hl := lows_le n L
    have hmk : at0 L u.k ∈ L := at0_mem (by omega)
    have hlow : lows n (L.set u.i (at0 L u.k + u.inc)) ≤ lows n L := by
      by_cases e : at0 L u.k + u.inc ≤ n
      · rw [if_pos e, if_pos (by omega)] at hs; omega
      · rw [if_neg e] at hs; omega
    refine ⟨by rw [List.length_set]; exact h1, fun x hx hn => ?_⟩
    rcases List.mem_or_eq_of_mem_set hx with hx | hx
    · have := h2 x hx hn; omega
    · subst hx
      rw [if_neg (show ¬ at0 L u.k + u.inc ≤ n by omega)] at hs
      by_cases e : n < at0 L u.k
      · have hb := h2 _ hmk e
        rcases hc with hc | hc
        · omega
        · have := hr.2 hc
          rw [if_pos this] at hs
          omega
      · have hinc : u.inc = 1 := by omega
        have hcap : u.cap = true := by
          rcases hc with hc | hc
          · omega
          · exact hc
        have := hr.2 hcap
        rw [if_pos this] at hs
        omega
  · exact h

theorem Capped.le {n : Nat} {L : List Nat} (h : Capped n L) (i : Nat) : at0 L i ≤ 2 * n := by
  by_cases hi : i < L.length
  · by_cases hx : n < at0 L i
    · have := h.2 _ (at0_mem hi) hx; omega
    · omega
  · unfold at0; rw [List.getElem?_eq_none (by omega)]; simp

theorem Capped.zero (n : Nat) : Capped n (List.replicate n 0) := by
  refine ⟨List.length_replicate, fun x hx hn => ?_⟩
  have := List.eq_of_mem_replicate hx
  omega

theorem Capped.even {rs : List Rl} {i k : Nat} {L : List Nat} (h : Capped rs.length L) (hi : i < rs.length) (hk : k < rs.length) : Capped rs.length (evenF rs i k L) := by
  unfold evenF; split
  · exact h.raise _ hi hk (Nat.zero_le _) (.inl rfl)
  · exact h

theorem Capped.part {rs : List Rl} {i k : Nat} {L : List Nat} (p : Pt) (h : Capped rs.length L) (hi : i < rs.length) (hk : k < rs.length) : Capped rs.length (partF rs i k L p) := by
  unfold partF; split
  · exact h.raise _ hi hk (by simp only; split <;> omega) (.inr rfl)
  · exact h

theorem Capped.parts {rs : List Rl} {i k : Nat} (hi : i < rs.length) (hk : k < rs.length) : ∀ (ps : List Pt) {L : List Nat}, Capped rs.length L → Capped rs.length (ps.foldl (partF rs i k) L)
  | [], _, h => h
  | p :: ps, _, h => Capped.parts hi hk ps (h.part p hi hk)

theorem Capped.pair {rs : List Rl} {i k : Nat} {L : List Nat} (h : Capped rs.length L) (hi : i < rs.length) (hk : k < rs.length) : Capped rs.length (pairF rs i L k) := Capped.parts hi hk _ (h.even hi hk)

theorem Capped.pairs {rs : List Rl} {i : Nat} (hi : i < rs.length) : ∀ (ks : List Nat) {L : List Nat}, (∀ k ∈ ks, k < rs.length) → Capped rs.length L → Capped rs.length (ks.foldl (pairF rs i) L)
  | [], _, _, h => h
  | k :: ks, _, hk, h => Capped.pairs hi ks (fun x hx => hk x (List.mem_cons_of_mem _ hx)) (h.pair hi (hk k (List.mem_cons_self ..)))

theorem Capped.row {rs : List Rl} {i : Nat} {L : List Nat} (h : Capped rs.length L) (hi : i < rs.length) : Capped rs.length (rowF rs L i) := Capped.pairs hi _ (fun _ hk => List.mem_range.1 hk) h

theorem Capped.rows {rs : List Rl} : ∀ (is : List Nat) {L : List Nat}, (∀ k ∈ is, k < rs.length) → Capped rs.length L → Capped rs.length (is.foldl (rowF rs) L)
  | [], _, _, h => h
  | k :: ks, _, hk, h => Capped.rows ks (fun x hx => hk x (List.mem_cons_of_mem _ hx)) (h.row (hk k (List.mem_cons_self ..)))

theorem Capped.pass {rs : List Rl} {L : List Nat} (h : Capped rs.length L) : Capped rs.length (passF rs L) := Capped.rows _ (fun _ hk => List.mem_range.1 hk) h

theorem Capped.again {rs : List Rl} : ∀ (t : Nat) {L : List Nat}, Capped rs.length L → Capped rs.length (Proofs.YtnhbnhibphjljaaGreatDoor.again (passF rs) t L)
  | 0, _, h => h
  | t + 1, _, h => Capped.again t h.pass

theorem Capped.levels (rs : List Rl) : Capped rs.length (levelsL rs) := Capped.again _ (Capped.zero _)

/-- Is it told that there are no strata? -/
def cycB (rs : List Rl) : Bool := (levelsL rs).any fun x => decide (rs.length ≤ x)

theorem cycB_high (rs : List Rl) : cycB rs = true ↔ High rs.length (levelsL rs) := by
  unfold cycB High
  rw [List.any_eq_true]
  constructor
  · rintro ⟨x, hx, h⟩; exact .inr ⟨x, hx, of_decide_eq_true h⟩
  · rintro (h | ⟨x, hx, h⟩)
    · exact absurd (Capped.levels rs).1 h
    · exact ⟨x, hx, decide_eq_true h⟩

/-- Levels by name that are asked, meet all and are none too high: they are the model's. -/
theorem levels_met (rs : List Rl) {L : ByteArray → Nat} (hm : ∀ c ∈ edgesOf rs, L c.2.1 + (if c.2.2 then 1 else 0) ≤ L c.1) (hd : ∀ i, i < rs.length → Der (edgesOf rs) (headAt rs i) (L (headAt rs i))) (hl : ∀ i, i < rs.length → L (headAt rs i) < rs.length) :
    cycB rs = false ∧ levelsL rs = (List.range rs.length).map fun i => L (headAt rs i) := by
  have h := met_same (ups_cover rs) _ (turns_lt rs.length) hm hd hl
  rw [← levelsL_ups] at h
  refine ⟨?_, h.2⟩
  cases hc : cycB rs
  · rfl
  · exact absurd ((cycB_high rs).1 hc) h.1

/-- A level that is asked is too high. -/
theorem levels_high (rs : List Rl) {i v : Nat} (hi : i < rs.length) (d : Der (edgesOf rs) (headAt rs i) v) (hv : rs.length ≤ v) : cycB rs = true := by
  have h := high_same (ups_cover rs) _ (turns_lt rs.length) hi d hv
  rw [← levelsL_ups] at h
  exact (cycB_high rs).2 h

end Go.Proofs.YtnhbnhibphjljaaGreatDoor
