/-
  Level by level, round by round: facts, and the round of each. (Of no code.)
-/
import Derived.Test.YtcigljngiemdeaaGreatAo0
import Derived.Test.YtcigljngiemdeaaGreatAo14
set_option maxRecDepth 100000
set_option maxHeartbeats 8000000
namespace Go.Proofs.YtcigljngiemdeaaGreat
open Go.RowKit
abbrev RdL := List (At × Nat)
def factsR (r : RdL) : List At := r.map (·.1)
def roundsR (r : RdL) : List Nat := r.map (·.2)
def putRd (r : RdL) (a : At) (n : Nat) : RdL := if hasB (factsR r) a then r else r.takeWhile (fun q => ltB a q.1) ++ (a, n) :: r.dropWhile (fun q => ltB a q.1)
theorem factsR_put (r : RdL) (a : At) (n : Nat) : factsR (putRd r a n) = putL (factsR r) a := by
  unfold putRd putL; split
  · rfl
  · unfold insL factsR
    rw [List.map_append, List.map_cons, List.takeWhile_map, List.dropWhile_map]; rfl
theorem putRd_take {r : RdL} {a : At} {n k : Nat} (hB : hasB (factsR r) a = false) (hk : k ≤ r.length) (hl : ∀ j y, j < k → (factsR r)[j]? = some y → atomCmp y a < 0) (h : ∀ y, (factsR r)[k]? = some y → 0 ≤ atomCmp y a) : putRd r a n = r.take k ++ (a, n) :: r.drop k := by
  obtain ⟨e1, e2⟩ := place_take (xs := factsR r) (a := a) (k := k) (by unfold factsR; rw [List.length_map]; exact hk) hl h; unfold putRd; rw [hB, if_neg qad]; unfold factsR at e1 e2; rw [List.takeWhile_map] at e1; rw [List.dropWhile_map] at e2; have l1 := congrArg List.length e1; have l2 := congrArg List.length e2; rw [List.length_map, ← List.map_take, List.length_map] at l1; rw [List.length_map, ← List.map_drop, List.length_map] at l2; have hap := List.takeWhile_append_dropWhile (p := fun q : At × Nat => ltB a q.1) (l := r)
  have hlen : (r.takeWhile (fun q => ltB a q.1)).length = k := by
    have : (r.takeWhile ((fun x => ltB a x) ∘ fun x : At × Nat => x.1)).length = (r.take k).length := l1; rw [List.length_take, Nat.min_eq_left hk] at this; exact this
  have t1 : r.takeWhile (fun q => ltB a q.1) = r.take k := by
    conv => rhs; rw [← hap]
    rw [List.take_append_of_le_length qaa, List.take_of_length_le qaa]
  have t2 : r.dropWhile (fun q => ltB a q.1) = r.drop k := by
    conv => rhs; rw [← hap]
    rw [List.drop_append_of_le_length qaa, List.drop_of_length_le qaa]; rfl
  rw [t1, t2]
def roundL (rs : List Rl) (lv : List Nat) (level n : Nat) (r : RdL) : RdL := (onceL rs lv level (factsR r)).foldl (fun r a => putRd r a n) r
theorem foldPut_facts (n : Nat) : ∀ (ys : List At) (r : RdL), factsR (ys.foldl (fun r a => putRd r a n) r) = ys.foldl putL (factsR r)
  | [], r => rfl
  | a :: ys, r => by rw [List.foldl_cons, foldPut_facts n ys, factsR_put]; rfl
theorem putRd_len (r : RdL) (a : At) (n : Nat) : r.length ≤ (putRd r a n).length ∧ (putRd r a n).length ≤ r.length + 1 := by
  unfold putRd; split
  · omega
  · have := congrArg List.length (List.takeWhile_append_dropWhile (p := fun q : At × Nat => ltB a q.1) (l := r))
    rw [List.length_append] at this; rw [List.length_append, List.length_cons]; omega
theorem foldPut_len (n : Nat) : ∀ (ys : List At) (r : RdL), r.length ≤ (ys.foldl (fun r a => putRd r a n) r).length ∧ (ys.foldl (fun r a => putRd r a n) r).length ≤ r.length + ys.length
  | [], r => by simp
  | a :: ys, r => by
    have h1 := foldPut_len n ys (putRd r a n); have h2 := putRd_len r a n; rw [List.foldl_cons, List.length_cons]; omega
def levelRun (rs : List Rl) (lv : List Nat) (level : Nat) : Nat → Nat → RdL → RdL × Nat × Bool
  | 0, n, r => (r, n, false)
  | f + 1, n, r =>
    let r' := roundL rs lv level (n + 1) r
    if 300 < r'.length then (r', n + 1, false)
    else if r'.length = r.length then (r', n, true)
    else levelRun rs lv level f (n + 1) r'
def levelsRun (rs : List Rl) (lv : List Nat) : List Nat → Nat → RdL → RdL × Bool
  | [], _, r => (r, true)
  | l :: ls, n, r =>
    let x := levelRun rs lv l 302 n r
    if x.2.2 = true then levelsRun rs lv ls x.2.1 x.1 else (x.1, false)
def runL (rs : List Rl) (lv : List Nat) (given : List At) : RdL × Bool := levelsRun rs lv (List.range (rs.length + 1)) 0 (given.map fun a => (a, 0))
end Go.Proofs.YtcigljngiemdeaaGreat
