/-
  Texts of one claim, put together.
-/
import Derived.Test.YtcigljngiemdeaaGreatAo0
import Derived.Test.YtcigljngiemdeaaGreatAtomsOf
set_option maxRecDepth 100000
set_option maxHeartbeats 8000000
namespace Go.Proofs.YtcigljngiemdeaaGreat
def again {α : Type} (f : α → α) : Nat → α → α
  | 0, x => x
  | t + 1, x => again f t (f x)
theorem again_succ {α : Type} (f : α → α) : ∀ (t : Nat) (x : α), again f (t + 1) x = f (again f t x)
  | 0, _ => rfl
  | t + 1, x => again_succ f t (f x)
structure Up where
  i : Nat
  k : Nat
  inc : Nat
  cap : Bool
def at0 (L : List Nat) (i : Nat) : Nat := L[i]?.getD 0
def raise (n : Nat) (L : List Nat) (u : Up) : List Nat :=
  if at0 L u.i < at0 L u.k + u.inc ∧ (u.cap = true → at0 L u.i ≤ n) then L.set u.i (at0 L u.k + u.inc) else L
theorem sum_set : ∀ (L : List Nat) (i v : Nat), i < L.length → (L.set i v).sum + at0 L i = L.sum + v
  | [], _, _, h => absurd h (Nat.not_lt_zero _)
  | x :: L, 0, v, _ => by simp [at0]; omega
  | x :: L, i + 1, v, h => by
    have := sum_set L i v qbd; simp only [at0, List.set_cons_succ, List.sum_cons, List.getElem?_cons_succ] at *; omega
theorem at0_set {L : List Nat} {i v : Nat} (h : i < L.length) : at0 (L.set i v) i = v := by unfold at0; simp [h]
theorem at0_set_ne {L : List Nat} {i j v : Nat} (h : i ≠ j) : at0 (L.set i v) j = at0 L j := by unfold at0; rw [List.getElem?_set_ne h]
def headAt (rs : List Rl) (i : Nat) : ByteArray := (rs[i]?.map (·.1.1)).getD ⟨#[]⟩
end Go.Proofs.YtcigljngiemdeaaGreat

namespace Go.Proofs.YtcigljngiemdeaaGreat
def bodyAt (rs : List Rl) (i : Nat) : List Pt := (rs[i]?.map (·.2)).getD []
def evenF (rs : List Rl) (i k : Nat) (L : List Nat) : List Nat := if headAt rs k = headAt rs i then raise rs.length L ⟨i, k, 0, false⟩ else L
def partF (rs : List Rl) (i k : Nat) (L : List Nat) (p : Pt) : List Nat := if p.2.1 = headAt rs k then raise rs.length L ⟨i, k, if p.1 then 1 else 0, true⟩ else L
def pairF (rs : List Rl) (i : Nat) (L : List Nat) (k : Nat) : List Nat := (bodyAt rs i).foldl (partF rs i k) (evenF rs i k L)
def rowF (rs : List Rl) (L : List Nat) (i : Nat) : List Nat := (List.range rs.length).foldl (pairF rs i) L
def passF (rs : List Rl) (L : List Nat) : List Nat := (List.range rs.length).foldl (rowF rs) L
def levelsL (rs : List Rl) : List Nat := again (passF rs) ((rs.length + 1) * (rs.length + 2)) (List.replicate rs.length 0)
def lows (n : Nat) (L : List Nat) : Nat := (L.map fun x => if x ≤ n then 1 else 0).sum
def Capped (n : Nat) (L : List Nat) : Prop := L.length = n ∧ ∀ x ∈ L, n < x → x + lows n L ≤ 2 * n
theorem lows_le (n : Nat) : ∀ L : List Nat, lows n L ≤ L.length
  | [] => nl _
  | x :: L => by
    have := lows_le n L; unfold lows at *; simp only [List.map_cons, List.sum_cons, List.length_cons]; split <;> omega
theorem lows_set {n : Nat} {L : List Nat} {i v : Nat} (h : i < L.length) : lows n (L.set i v) + (if at0 L i ≤ n then 1 else 0) = lows n L + (if v ≤ n then 1 else 0) := by
  have h1 := sum_set (L.map fun x => if x ≤ n then 1 else 0) i (if v ≤ n then 1 else 0) (by rw [List.length_map]; exact h); have h2 : (L.map fun x => if x ≤ n then 1 else 0).set i (if v ≤ n then 1 else 0) = (L.set i v).map fun x => if x ≤ n then 1 else 0 := by rw [List.map_set]
  have h3 : at0 (L.map fun x => if x ≤ n then 1 else 0) i = if at0 L i ≤ n then 1 else 0 := by
    unfold at0; rw [List.getElem?_map, List.getElem?_eq_getElem h]; rfl
  rw [h2, h3] at h1; exact h1
theorem at0_mem {L : List Nat} {i : Nat} (h : i < L.length) : at0 L i ∈ L := by
  unfold at0; rw [List.getElem?_eq_getElem h]; exact List.getElem_mem h
theorem Capped.raise {n : Nat} {L : List Nat} (h : Capped n L) (u : Up) (hi : u.i < n) (hk : u.k < n) (hu : u.inc ≤ 1) (hc : u.inc = 0 ∨ u.cap = true) : Capped n (raise n L u) := by
  unfold Proofs.YtcigljngiemdeaaGreat.raise; split
  · rename_i hr
    obtain ⟨h1, h2⟩ := h; have hiL : u.i < L.length := qaa; have hs := lows_set (n := n) (v := at0 L u.k + u.inc) hiL; have hl := lows_le n L; have hmk : at0 L u.k ∈ L := at0_mem qaa
    have hlow : lows n (L.set u.i (at0 L u.k + u.inc)) ≤ lows n L := by
      by_cases e : at0 L u.k + u.inc ≤ n
      · rw [if_pos e, if_pos qaa] at hs; omega
      · rw [if_neg e] at hs; omega
    refine ⟨by rw [List.length_set]; exact h1, fun x hx hn => ?_⟩; rcases List.mem_or_eq_of_mem_set hx with hx | hx
    · have := h2 x hx hn; omega
    · subst hx
      rw [if_neg (show ¬ at0 L u.k + u.inc ≤ n by omega)] at hs; by_cases e : n < at0 L u.k
      · have hb := h2 _ hmk e
        rcases hc with hc | hc
        · omega
        · have := hr.2 hc
          rw [if_pos this] at hs; omega
      · have hinc : u.inc = 1 := qaa
        have hcap : u.cap = true := by
          rcases hc with hc | hc
          · omega
          · exact hc
        have := hr.2 hcap; rw [if_pos this] at hs; omega
  · exact h
theorem Capped.le {n : Nat} {L : List Nat} (h : Capped n L) (i : Nat) : at0 L i ≤ 2 * n := by
  by_cases hi : i < L.length
  · by_cases hx : n < at0 L i
    · have := h.2 _ (at0_mem hi) hx; omega
    · omega
  · unfold at0; rw [List.getElem?_eq_none qaa]; simp
theorem Capped.zero (n : Nat) : Capped n (List.replicate n 0) := by
  refine ⟨List.length_replicate, fun x hx hn => ?_⟩; have := List.eq_of_mem_replicate hx; omega
theorem Capped.even {rs : List Rl} {i k : Nat} {L : List Nat} (h : Capped rs.length L) (hi : i < rs.length) (hk : k < rs.length) : Capped rs.length (evenF rs i k L) := by
  unfold evenF; split
  · exact h.raise _ hi hk (Nat.zero_le _) (.inl rfl)
  · exact h
theorem Capped.part {rs : List Rl} {i k : Nat} {L : List Nat} (p : Pt) (h : Capped rs.length L) (hi : i < rs.length) (hk : k < rs.length) : Capped rs.length (partF rs i k L p) := by
  unfold partF; split
  · exact h.raise _ hi hk (by simp only; split <;> omega) (.inr rfl)
  · exact h
theorem Capped.parts {rs : List Rl} {i k : Nat} (hi : i < rs.length) (hk : k < rs.length) : ∀ (ps : List Pt) {L : List Nat}, Capped rs.length L → Capped rs.length (ps.foldl (partF rs i k) L)
  | [], _, h => h
  | p :: ps, _, h => Capped.parts hi hk ps (h.part p hi hk)
theorem Capped.pair {rs : List Rl} {i k : Nat} {L : List Nat} (h : Capped rs.length L) (hi : i < rs.length) (hk : k < rs.length) : Capped rs.length (pairF rs i L k) := Capped.parts hi hk _ (h.even hi hk)
theorem Capped.pairs {rs : List Rl} {i : Nat} (hi : i < rs.length) : ∀ (ks : List Nat) {L : List Nat}, (∀ k ∈ ks, k < rs.length) → Capped rs.length L → Capped rs.length (ks.foldl (pairF rs i) L)
  | [], _, _, h => h
  | k :: ks, _, hk, h => Capped.pairs hi ks (fun x hx => hk x (List.mem_cons_of_mem _ hx)) (h.pair hi (hk k (List.mem_cons_self ..)))
theorem Capped.row {rs : List Rl} {i : Nat} {L : List Nat} (h : Capped rs.length L) (hi : i < rs.length) : Capped rs.length (rowF rs L i) := Capped.pairs hi _ (fun _ hk => List.mem_range.1 hk) h
theorem Capped.rows {rs : List Rl} : ∀ (is : List Nat) {L : List Nat}, (∀ k ∈ is, k < rs.length) → Capped rs.length L → Capped rs.length (is.foldl (rowF rs) L)
  | [], _, _, h => h
  | k :: ks, _, hk, h => Capped.rows ks (fun x hx => hk x (List.mem_cons_of_mem _ hx)) (h.row (hk k (List.mem_cons_self ..)))
theorem Capped.pass {rs : List Rl} {L : List Nat} (h : Capped rs.length L) : Capped rs.length (passF rs L) := Capped.rows _ (fun _ hk => List.mem_range.1 hk) h
theorem Capped.again {rs : List Rl} : ∀ (t : Nat) {L : List Nat}, Capped rs.length L → Capped rs.length (Proofs.YtcigljngiemdeaaGreat.again (passF rs) t L)
  | 0, _, h => h
  | t + 1, _, h => Capped.again t h.pass
theorem Capped.levels (rs : List Rl) : Capped rs.length (levelsL rs) := Capped.again _ (Capped.zero _)
def cycB (rs : List Rl) : Bool := (levelsL rs).any fun x => decide (rs.length ≤ x)
end Go.Proofs.YtcigljngiemdeaaGreat

namespace Go.Proofs.YtcigljngiemdeaaGreat
open Go.RowKit
def IntRow (w : World) (g n : Nat) (L : List Nat) : Prop := L.length = n ∧ w.rowIs g 3 n (fun i => .int .i64 ((at0 L i : Nat) : Int))
section
variable {w w' : World} {g n : Nat} {L : List Nat}
theorem IntRow.cell (h : IntRow w g n L) {i : Nat} (hi : i < n) : w.cell? ⟨g, i, none⟩ = some (.int .i64 ((at0 L i : Nat) : Int)) := h.2.cell hi
theorem IntRow.frozen (h : IntRow w g n L) (i : Nat) : w.frozen? ⟨g, i, none⟩ = false := h.2.frozen i
theorem IntRow.lt (h : IntRow w g n L) : g < w.heap.size := h.2.lt
theorem IntRow.set (h : IntRow w g n L) {i : Nat} (hi : i < n) (v : Nat) : IntRow (w.setCell ⟨g, i, none⟩ (.int .i64 ((v : Nat) : Int))) g n (L.set i v) := by
  refine ⟨by rw [List.length_set]; exact h.1, (h.2.set i _).congr fun j hj => ?_⟩; by_cases e : j = i
  · subst e; rw [if_pos rfl, at0_set (by rw [h.1]; exact hj)]
  · rw [if_neg e, at0_set_ne (fun x => e x.symm)]
theorem IntRow.keep (h : IntRow w g n L) (hk : w'.heap[g]? = w.heap[g]?) : IntRow w' g n L := ⟨h.1, h.2.of_block hk⟩
theorem IntRow.below (h : IntRow w g n L) (hb : Below w.heap.size w w') : IntRow w' g n L := h.keep (hb.block g h.lt)
end
theorem fold_step {α β : Type} {f : β → α → β} {l : List α} {j : Nat} {x : α} {b : β} (h : l[j]? = some x) : (l.take (j + 1)).foldl f b = f ((l.take j).foldl f b) x := by
  rw [List.take_add_one, h, List.foldl_append]; rfl
theorem range_step {β : Type} {f : β → Nat → β} {k : Nat} {b : β} : (List.range (k + 1)).foldl f b = f ((List.range k).foldl f b) k := by
  rw [List.range_succ, List.foldl_append]; rfl
theorem bytes_is {s t : ByteArray} {b : Bool} (h : (s.toList == t.toList) = b) : b = decide (s = t) := by
  rw [← h, Bool.eq_iff_iff, beq_iff_eq, decide_eq_true_eq]; refine ⟨fun e => ?_, fun e => by rw [e]⟩; rw [Lib.toList_data, Lib.toList_data] at e; cases s; cases t; simp only [ByteArray.mk.injEq]; exact Array.toList_inj.1 e
theorem raise_yes {n : Nat} {L : List Nat} {i k inc : Nat} {cap : Bool} (h : at0 L i < at0 L k + inc) (h' : cap = true → at0 L i ≤ n) : raise n L ⟨i, k, inc, cap⟩ = L.set i (at0 L k + inc) := if_pos ⟨h, h'⟩
theorem raise_no {n : Nat} {L : List Nat} {i k inc : Nat} {cap : Bool} (h : ¬ (at0 L i < at0 L k + inc ∧ (cap = true → at0 L i ≤ n))) : raise n L ⟨i, k, inc, cap⟩ = L := if_neg h
theorem rules_at {w : World} {hi n c : Nat} {A : Option Addr} {rs : List Rl} (h : IsRules w 0 hi A n c rs) {i : Nat} (hn : i < n) :
    ∃ p r B m d, A = some p ∧ rs[i]? = some r ∧ w.cell? (p.add (i * 3)) = some (.string r.1.1) ∧ w.cell? ⟨(p.add (i * 3)).block, (p.add (i * 3)).off + 2, none⟩ = some (.slice B m d) ∧ IsParts w 0 hi B m d r.2 := by
  obtain ⟨p, r, hA, _, _, hg, hE⟩ := h.at_ hn; obtain ⟨_, _, _, B, m, d, d1, _, _, _, d5, d6⟩ := hE.out; exact ⟨p, r, B, m, d, hA, hg, d1, d5, d6⟩
theorem Tryz.infoInt : (Tryz.prog.info? 3).map (fun i => (i.zero, i.size, i.bytes)) = some (some (.int .i64 0), 1, 8) := by kernel_rfl
theorem headAt_of {rs : List Rl} {i : Nat} {r : Rl} (h : rs[i]? = some r) : headAt rs i = r.1.1 := by unfold headAt; rw [h]; rfl
theorem bodyAt_of {rs : List Rl} {i : Nat} {r : Rl} (h : rs[i]? = some r) : bodyAt rs i = r.2 := by unfold bodyAt; rw [h]; rfl
end Go.Proofs.YtcigljngiemdeaaGreat
