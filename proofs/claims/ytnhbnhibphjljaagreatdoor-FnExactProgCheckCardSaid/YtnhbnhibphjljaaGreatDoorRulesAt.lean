/-
  Rows of numbers; rules at their places; small steps of folds.
-/
import Derived.Test.YtnhbnhibphjljaaGreatDoorLevels
import Derived.Test.YtnhbnhibphjljaaGreatDoorAtomsOf
namespace Go.Proofs.YtnhbnhibphjljaaGreatDoor
open Go.RowKit

/-- A row of numbers. -/
def IntRow (w : World) (g n : Nat) (L : List Nat) : Prop := L.length = n ∧ w.rowIs g 3 n (fun i => .int .i64 ((at0 L i : Nat) : Int))

section
variable {w w' : World} {g n : Nat} {L : List Nat}
theorem IntRow.cell (h : IntRow w g n L) {i : Nat} (hi : i < n) : w.cell? ⟨g, i, none⟩ = some (.int .i64 ((at0 L i : Nat) : Int)) := h.2.cell hi
theorem IntRow.frozen (h : IntRow w g n L) (i : Nat) : w.frozen? ⟨g, i, none⟩ = false := h.2.frozen i
theorem IntRow.lt (h : IntRow w g n L) : g < w.heap.size := h.2.lt
theorem IntRow.set (h : IntRow w g n L) {i : Nat} (hi : i < n) (v : Nat) : IntRow (w.setCell ⟨g, i, none⟩ (.int .i64 ((v : Nat) : Int))) g n (L.set i v) := by
  refine ⟨by rw [List.length_set]; exact h.1, (h.2.set i _).congr fun j hj => ?_⟩
  by_cases e : j = i
  · subst e; rw [if_pos rfl, at0_set (by rw [h.1]; exact hj)]
  · rw [if_neg e, at0_set_ne (fun x => e x.symm)]
theorem IntRow.keep (h : IntRow w g n L) (hk : w'.heap[g]? = w.heap[g]?) : IntRow w' g n L := ⟨h.1, h.2.of_block hk⟩
theorem IntRow.below (h : IntRow w g n L) (hb : Below w.heap.size w w') : IntRow w' g n L := h.keep (hb.block g h.lt)
end

theorem fold_step {α β : Type} {f : β → α → β} {l : List α} {j : Nat} {x : α} {b : β} (h : l[j]? = some x) : (l.take (j + 1)).foldl f b = f ((l.take j).foldl f b) x := by
  rw [List.take_add_one, h, List.foldl_append]; rfl

theorem range_step {β : Type} {f : β → Nat → β} {k : Nat} {b : β} : (List.range (k + 1)).foldl f b = f ((List.range k).foldl f b) k := by
  rw [List.range_succ, List.foldl_append]; rfl

theorem bytes_is {s t : ByteArray} {b : Bool} (h : (s.toList == t.toList) = b) : b = decide (s = t) := by
  rw [← h, Bool.eq_iff_iff, beq_iff_eq, decide_eq_true_eq]
  refine ⟨fun e => ?_, fun e => by rw [e]⟩
  rw [Lib.toList_data, Lib.toList_data] at e
  cases s; cases t
  simp only [ByteArray.mk.injEq]
  exact Array.toList_inj.1 e

theorem raise_yes {n : Nat} {L : List Nat} {i k inc : Nat} {cap : Bool} (h : at0 L i < at0 L k + inc) (h' : cap = true → at0 L i ≤ n) : raise n L ⟨i, k, inc, cap⟩ = L.set i (at0 L k + inc) := if_pos ⟨h, h'⟩
theorem raise_no {n : Nat} {L : List Nat} {i k inc : Nat} {cap : Bool} (h : ¬ (at0 L i < at0 L k + inc ∧ (cap = true → at0 L i ≤ n))) : raise n L ⟨i, k, inc, cap⟩ = L := if_neg h

/-- A rule at its place, as the walk comes to it. -/
theorem rules_at {w : World} {hi n c : Nat} {A : Option Addr} {rs : List Rl} (h : IsRules w 0 hi A n c rs) {i : Nat} (hn : i < n) :
    ∃ p r B m d, A = some p ∧ rs[i]? = some r ∧ w.cell? (p.add (i * 3)) = some (.string r.1.1) ∧ w.cell? ⟨(p.add (i * 3)).block, (p.add (i * 3)).off + 2, none⟩ = some (.slice B m d) ∧ IsParts w 0 hi B m d r.2 := by
  obtain ⟨p, r, hA, _, _, hg, hE⟩ := h.at_ hn
  obtain ⟨_, _, _, B, m, d, d1, _, _, _, d5, d6⟩ := hE.out
  exact ⟨p, r, B, m, d, hA, hg, d1, d5, d6⟩

theorem Tryz.infoInt : (Tryz.prog.info? 3).map (fun i => (i.zero, i.size, i.bytes)) = some (some (.int .i64 0), 1, 8) := by kernel_rfl

theorem headAt_of {rs : List Rl} {i : Nat} {r : Rl} (h : rs[i]? = some r) : headAt rs i = r.1.1 := by unfold headAt; rw [h]; rfl
theorem bodyAt_of {rs : List Rl} {i : Nat} {r : Rl} (h : rs[i]? = some r) : bodyAt rs i = r.2 := by unfold bodyAt; rw [h]; rfl

end Go.Proofs.YtnhbnhibphjljaaGreatDoor
