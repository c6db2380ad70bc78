/-
  Two changes, one behind the other: in the model. (Written by tools/bothspec.py.)
-/
import Derived.Test.YtbhkihnekendbaaDoImpl
import Derived.Test.YtbhkihnekendbaaDo
namespace Go.Proofs.Ytbhkihnekendbaa
open Go.RowKit
attribute [local go_sem] run_store_func

theorem less_nil (xs : List At) : lessL xs [] = xs := by unfold lessL; rw [List.filter_eq_self]; intro a _; rfl
theorem do_nil (xs cs gs : List At) : doL (lessL xs gs) cs [] = doL xs cs gs := by unfold doL; rw [less_nil]

/-- Two changes, one behind the other: what the later one says holds. -/
def bothL (ca ga cb gb : List At) : (List At × List At) × Bool := if changeB ca ga && changeB cb gb && changeB (doL ca cb gb) (doL ga gb cb) then ((doL ca cb gb, doL ga gb cb), true) else (([], []), false)

theorem bothL_no1 {ca ga cb gb : List At} (h : (!changeB ca ga) = true) : bothL ca ga cb gb = (([], []), false) := by unfold bothL; rw [show changeB ca ga = false by simpa using h]; rfl
theorem bothL_no2 {ca ga cb gb : List At} (h : (!changeB cb gb) = true) : bothL ca ga cb gb = (([], []), false) := by unfold bothL; rw [show changeB cb gb = false by simpa using h, Bool.and_false, Bool.false_and]; rfl
theorem bothL_no3 {ca ga cb gb : List At} (h : (!changeB (doL ca cb gb) (doL ga gb cb)) = true) : bothL ca ga cb gb = (([], []), false) := by unfold bothL; rw [show changeB (doL ca cb gb) (doL ga gb cb) = false by simpa using h, Bool.and_false]; rfl
theorem bothL_yes {ca ga cb gb : List At} (h : (!changeB ca ga) = false) (h' : (!changeB cb gb) = false) (h3 : (!changeB (doL ca cb gb) (doL ga gb cb)) = false) : bothL ca ga cb gb = ((doL ca cb gb, doL ga gb cb), true) := by
  unfold bothL; rw [show changeB ca ga = true by simpa using h, show changeB cb gb = true by simpa using h', show changeB (doL ca cb gb) (doL ga gb cb) = true by simpa using h3]; rfl

theorem bothL_small {ca ga cb gb P Q : List At} {q : Bool} (h : bothL ca ga cb gb = ((P, Q), q)) : SmallAtoms P.length P ∧ SmallAtoms Q.length Q := by
  unfold bothL at h
  by_cases hc : (changeB ca ga && changeB cb gb && changeB (doL ca cb gb) (doL ga gb cb)) = true
  · rw [if_pos hc] at h
    injection h with h1 _
    injection h1 with h1 h2
    subst h1; subst h2
    rw [Bool.and_eq_true] at hc
    obtain ⟨a, b⟩ := changeB_parts (show (!changeB (doL ca cb gb) (doL ga gb cb)) = false by rw [hc.2]; rfl)
    have e := factsB_len a; have f := factsB_len b
    exact ⟨facts_small (facts_all a) (by omega), facts_small (facts_all b) (by omega)⟩
  · rw [if_neg hc] at h
    injection h with h1 _
    injection h1 with h1 h2
    subst h1; subst h2
    exact ⟨⟨Nat.zero_le _, fun q hq => absurd hq (by simp)⟩, ⟨Nat.zero_le _, fun q hq => absurd hq (by simp)⟩⟩

theorem noAtoms (w : World) (lo hi : Nat) : IsAtoms w lo hi none 0 0 [] := ⟨rfl, Nat.le_refl _, Nat.zero_le _, fun h0 => absurd h0 (by simp)⟩

theorem l3DoBare_any (A : Option Addr) (n c : Nat) (xs : List At) (B : Option Addr) (m d : Nat) (cs gs : List At) (w : World) (h : IsAtoms w 0 w.heap.size A n c (lessL xs gs)) (h1 : IsAtoms w 0 w.heap.size B m d cs)
    (fx : FactsAll xs) (rx : risesB xs = true) (fc : FactsAll cs) (hn : n ≤ 1000) (hm : m ≤ 1000) :
    Calls Try.prog 90 #[.slice A n c, .agg #[.slice B m d, .slice none 0 0]] w (CopySPost (doL xs cs gs) w) := by
  have := l3Do_any A n c (lessL xs gs) B m d cs none 0 0 [] w h h1 (noAtoms _ _ _) (less_all fx) (less_rises rx) fc rfl hn hm
  rw [do_nil] at this
  exact this

/-- A change in memory of its own, its two lists apart, and whether it was done, handed back. -/
def OwnQPost (p : (List At × List At) × Bool) (w : World) (e : Ending) (w' : World) : Prop := ∃ A c ra B d rb mid, e = .returned (.tuple #[.agg #[.slice A p.1.1.length c, .slice B p.1.2.length d], .bool p.2]) ∧ (OwnRefs w' w.heap.size mid A p.1.1.length c ra ∧ ra.map rAt = p.1.1) ∧ (OwnRefs w' mid w'.heap.size B p.1.2.length d rb ∧ rb.map rAt = p.1.2) ∧ (w.heap.size ≤ mid ∧ mid ≤ w'.heap.size) ∧ Below w.heap.size w w'

theorem q_not {p : (List At × List At) × Bool} {w w' : World} (hp : p = (([], []), false)) (hb : Below w.heap.size w w') : OwnQPost p w (.returned (.tuple #[.agg #[.slice none 0 0, .slice none 0 0], .bool false])) w' := by
  subst hp
  exact ⟨none, 0, [], none, 0, [], w.heap.size, rfl, ⟨OwnRefs.none, rfl⟩, ⟨OwnRefs.none, rfl⟩, ⟨Nat.le_refl _, hb.size⟩, hb⟩

theorem q_out {w W : World} {g c d lo mid hi : Nat} {A B : Option Addr} {xs ys : List At} {ra rb : List Rf} {b : Bool} {p : (List At × List At) × Bool} (hp : p = ((xs, ys), b))
    (h1 : OwnRefs W lo mid A xs.length c ra) (m1 : ra.map rAt = xs) (h2 : OwnRefs W mid hi B ys.length d rb) (m2 : rb.map rAt = ys)
    (hg : w.heap.size ≤ g) (hlo : g < lo) (hlm : lo ≤ mid) (hmh : mid ≤ hi) (hhi : hi ≤ W.heap.size) (hB : Below w.heap.size w W) (u v : Value) :
    OwnQPost p w (.returned (.tuple #[.agg #[.slice A xs.length c, .slice B ys.length d], .bool b])) ((W.setCell ⟨g, 0, .none⟩ u).setCell ⟨g, 1, .none⟩ v) := by
  subst hp
  have hz : ((W.setCell ⟨g, 0, .none⟩ u).setCell ⟨g, 1, .none⟩ v).heap.size = W.heap.size := by rw [size_setCell, size_setCell]
  refine ⟨A, c, ra, B, d, rb, mid, rfl, ⟨?_, m1⟩, ⟨?_, m2⟩, ⟨by omega, by omega⟩, (hB.setCell hg u).setCell hg v⟩
  · exact h1.keep (fun b h1 h2 => set2_far (by omega)) (by omega) (Nat.le_refl _)
  · exact h2.keep (fun b h1 h2 => set2_far (by omega)) (Nat.le_refl _) (by omega)

set_option maxRecDepth 100000 in
set_option maxHeartbeats 8000000 in
theorem l3Both_any (A1 A2 B1 B2 : Option Addr) (n1 c1 n2 c2 m1 d1 m2 d2 : Nat) (ca ga cb gb : List At) (w : World) (h1 : IsAtoms w 0 w.heap.size A1 n1 c1 ca) (h2 : IsAtoms w 0 w.heap.size A2 n2 c2 ga) (h3 : IsAtoms w 0 w.heap.size B1 m1 d1 cb) (h4 : IsAtoms w 0 w.heap.size B2 m2 d2 gb) (f1 : factsB 300 ca = true) (f2 : factsB 300 ga = true) (f3 : factsB 300 cb = true) (f4 : factsB 300 gb = true) :
    Calls Try.prog 92 #[.agg #[.slice A1 n1 c1, .slice A2 n2 c2], .agg #[.slice B1 m1 d1, .slice B2 m2 d2]] w (OwnKPost (doL ca cb gb, doL ga gb cb) w) := by
  have H1 := Lib.hid h1; have H2 := Lib.hid h2; have H3 := Lib.hid h3; have H4 := Lib.hid h4; clear h1 h2 h3 h4
  have LCA := Lib.hid (factsB_len f1); have NCA := Lib.hid (show n1 ≤ 300 from by have := factsB_len f1; have := H1.out.1; omega); have FCA := Lib.hid (facts_all f1); have RCA := Lib.hid (factsB_rises f1); have SCA := Lib.hid (facts_small (n := n1) (facts_all f1) (by have := factsB_len f1; have := H1.out.1; omega))
  have LGA := Lib.hid (factsB_len f2); have NGA := Lib.hid (show n2 ≤ 300 from by have := factsB_len f2; have := H2.out.1; omega); have FGA := Lib.hid (facts_all f2); have RGA := Lib.hid (factsB_rises f2); have SGA := Lib.hid (facts_small (n := n2) (facts_all f2) (by have := factsB_len f2; have := H2.out.1; omega))
  have LCB := Lib.hid (factsB_len f3); have NCB := Lib.hid (show m1 ≤ 300 from by have := factsB_len f3; have := H3.out.1; omega); have FCB := Lib.hid (facts_all f3); have RCB := Lib.hid (factsB_rises f3); have SCB := Lib.hid (facts_small (n := m1) (facts_all f3) (by have := factsB_len f3; have := H3.out.1; omega))
  have LGB := Lib.hid (factsB_len f4); have NGB := Lib.hid (show m2 ≤ 300 from by have := factsB_len f4; have := H4.out.1; omega); have FGB := Lib.hid (facts_all f4); have RGB := Lib.hid (factsB_rises f4); have SGB := Lib.hid (facts_small (n := m2) (facts_all f4) (by have := factsB_len f4; have := H4.out.1; omega))
  have hnn : n1 ≤ 300 ∧ n2 ≤ 300 ∧ m1 ≤ 300 ∧ m2 ≤ 300 := ⟨NCA.out, NGA.out, NCB.out, NGB.out⟩
  obtain ⟨hn1, hn2, hn3, hn4⟩ := hnn
  clear f1 f2 f3 f4
  go_enter Try.func92, Try.ntmps92
  go_wp2_with fail
  have X7 : Blk (((w.alloc (.cells #[.slice A1 n1 c1, .slice A2 n2 c2] 38)).alloc (.cells #[.slice B1 m1 d1, .slice B2 m2 d2] 38)).alloc (.cells #[.slice none 0 0, .slice none 0 0] 38)).drew w.heap.size 38 #[.slice A1 n1 c1, .slice A2 n2 c2] := ((Blk.new w _ _).alloc _).alloc _
  have Y7 : Blk (((w.alloc (.cells #[.slice A1 n1 c1, .slice A2 n2 c2] 38)).alloc (.cells #[.slice B1 m1 d1, .slice B2 m2 d2] 38)).alloc (.cells #[.slice none 0 0, .slice none 0 0] 38)).drew (w.heap.size + 1) 38 #[.slice B1 m1 d1, .slice B2 m2 d2] := (Blk.made (b := w.heap.size + 1) (w.alloc (.cells #[.slice A1 n1 c1, .slice A2 n2 c2] 38)) 38 #[.slice B1 m1 d1, .slice B2 m2 d2] (by simp)).alloc _
  have G7 : Blk (((w.alloc (.cells #[.slice A1 n1 c1, .slice A2 n2 c2] 38)).alloc (.cells #[.slice B1 m1 d1, .slice B2 m2 d2] 38)).alloc (.cells #[.slice none 0 0, .slice none 0 0] 38)).drew (w.heap.size + 1 + 1) 38 #[.slice none 0 0, .slice none 0 0] := Blk.made (b := w.heap.size + 1 + 1) ((w.alloc (.cells #[.slice A1 n1 c1, .slice A2 n2 c2] 38)).alloc (.cells #[.slice B1 m1 d1, .slice B2 m2 d2] 38)) 38 #[.slice none 0 0, .slice none 0 0] (by simp)
  have HB7 : Below w.heap.size w (((w.alloc (.cells #[.slice A1 n1 c1, .slice A2 n2 c2] 38)).alloc (.cells #[.slice B1 m1 d1, .slice B2 m2 d2] 38)).alloc (.cells #[.slice none 0 0, .slice none 0 0] 38)).drew := Below.drew (below3 w (.cells #[.slice A1 n1 c1, .slice A2 n2 c2] 38) (.cells #[.slice B1 m1 d1, .slice B2 m2 d2] 38) (.cells #[.slice none 0 0, .slice none 0 0] 38))
  obtain ⟨V7, hV7⟩ : ∃ X, (((w.alloc (.cells #[.slice A1 n1 c1, .slice A2 n2 c2] 38)).alloc (.cells #[.slice B1 m1 d1, .slice B2 m2 d2] 38)).alloc (.cells #[.slice none 0 0, .slice none 0 0] 38)).drew = X := ⟨_, rfl⟩
  rw [hV7] at X7 Y7 G7 HB7
  refine wp_region_held_drew (S := fun W => (W.cell? ⟨w.heap.size, 0, none⟩ = some (.slice A1 n1 c1) ∧ W.cell? ⟨w.heap.size, 1, none⟩ = some (.slice A2 n2 c2)) ∧ W.cell? ⟨w.heap.size + 1, 0, none⟩ = some (.slice B1 m1 d1) ∧ W.cell? ⟨w.heap.size + 1, 1, none⟩ = some (.slice B2 m2 d2)) (by kernel_rfl) (by rw [hV7]; exact ⟨⟨X7.cell 0, X7.cell 1⟩, Y7.cell 0, Y7.cell 1⟩) ?_
  rw [hV7]
  intro hS_
  refine takeV (i := 0) (v := .pointer (some ⟨w.heap.size, 0, none⟩)) (by (simp only [List.getElem?_toArray, List.getElem?_cons_zero]); rfl) (by kernel_rfl) (by kernel_rfl) (by kernel_rfl) (by rfl) (fun _ _ _ h => h) (Or.inl ⟨by rfl, ?_⟩) hS_ (by (simp only [List.setIfInBounds_toArray, List.set_cons_succ, List.set_cons_zero]); rfl) ?_
  · intro w_ hSw_; (try dsimp only at hSw_); go_simp
  refine takeV (i := 1) (v := .slice A1 n1 c1) (by (simp only [List.getElem?_toArray, List.getElem?_cons_succ, List.getElem?_cons_zero]); rfl) (by kernel_rfl) (by kernel_rfl) (by kernel_rfl) (by rfl) (fun _ _ _ h => h) (Or.inl ⟨by rfl, ?_⟩) hS_ (by (simp only [List.setIfInBounds_toArray, List.set_cons_succ, List.set_cons_zero]); rfl) ?_
  · intro w_ hSw_; (try dsimp only at hSw_); go_simp
  refine takeV (i := 2) (v := .pointer (some ⟨w.heap.size + 1, 1, none⟩)) (by (simp only [List.getElem?_toArray, List.getElem?_cons_succ, List.getElem?_cons_zero]); rfl) (by kernel_rfl) (by kernel_rfl) (by kernel_rfl) (by rfl) (fun _ _ _ h => h) (Or.inl ⟨by rfl, ?_⟩) hS_ (by (simp only [List.setIfInBounds_toArray, List.set_cons_succ, List.set_cons_zero]); rfl) ?_
  · intro w_ hSw_; (try dsimp only at hSw_); go_simp
  refine takeV (i := 3) (v := .slice B2 m2 d2) (by (simp only [List.getElem?_toArray, List.getElem?_cons_succ, List.getElem?_cons_zero]); rfl) (by kernel_rfl) (by kernel_rfl) (by kernel_rfl) (by rfl) (fun _ _ _ h => h) (Or.inl ⟨by rfl, ?_⟩) hS_ (by (simp only [List.setIfInBounds_toArray, List.set_cons_succ, List.set_cons_zero]); rfl) ?_
  · intro w_ hSw_; (try dsimp only at hSw_); go_simp
  refine takeV (i := 5) (v := .pointer (some ⟨w.heap.size + 1, 0, none⟩)) (by (simp only [List.getElem?_toArray, List.getElem?_cons_succ, List.getElem?_cons_zero]); rfl) (by kernel_rfl) (by kernel_rfl) (by kernel_rfl) (by rfl) (fun _ _ _ h => h) (Or.inl ⟨by rfl, ?_⟩) hS_ (by (simp only [List.setIfInBounds_toArray, List.set_cons_succ, List.set_cons_zero]); rfl) ?_
  · intro w_ hSw_; (try dsimp only at hSw_); go_simp
  refine takeV (i := 6) (v := .slice B1 m1 d1) (by (simp only [List.getElem?_toArray, List.getElem?_cons_succ, List.getElem?_cons_zero]); rfl) (by kernel_rfl) (by kernel_rfl) (by kernel_rfl) (by rfl) (fun _ _ _ h => h) (Or.inl ⟨by rfl, ?_⟩) hS_ (by (simp only [List.setIfInBounds_toArray, List.set_cons_succ, List.set_cons_zero]); rfl) ?_
  · intro w_ hSw_; (try dsimp only at hSw_); go_simp
  refine takeV (i := 7) (v := .agg #[.slice B1 m1 d1, .slice none 0 0]) (by (simp only [List.getElem?_toArray, List.getElem?_cons_succ, List.getElem?_cons_zero]); rfl) (by kernel_rfl) (by kernel_rfl) (by kernel_rfl) (by rfl) (fun _ _ _ h => h) (Or.inl ⟨by rfl, ?_⟩) hS_ (by (simp only [List.setIfInBounds_toArray, List.set_cons_succ, List.set_cons_zero]); rfl) ?_
  · intro w_ hSw_; (try dsimp only at hSw_); go_simp
  refine takeV (i := 9) (v := .pointer (some ⟨w.heap.size, 1, none⟩)) (by (simp only [List.getElem?_toArray, List.getElem?_cons_succ, List.getElem?_cons_zero]); rfl) (by kernel_rfl) (by kernel_rfl) (by kernel_rfl) (by rfl) (fun _ _ _ h => h) (Or.inl ⟨by rfl, ?_⟩) hS_ (by (simp only [List.setIfInBounds_toArray, List.set_cons_succ, List.set_cons_zero]); rfl) ?_
  · intro w_ hSw_; (try dsimp only at hSw_); go_simp
  refine takeV (i := 10) (v := .slice A2 n2 c2) (by (simp only [List.getElem?_toArray, List.getElem?_cons_succ, List.getElem?_cons_zero]); rfl) (by kernel_rfl) (by kernel_rfl) (by kernel_rfl) (by rfl) (fun _ _ _ h => h) (Or.inl ⟨by rfl, ?_⟩) hS_ (by (simp only [List.setIfInBounds_toArray, List.set_cons_succ, List.set_cons_zero]); rfl) ?_
  · intro w_ hSw_; (try dsimp only at hSw_); go_simp
  refine takeV (i := 11) (v := .pointer (some ⟨w.heap.size + 1, 0, none⟩)) (by (simp only [List.getElem?_toArray, List.getElem?_cons_succ, List.getElem?_cons_zero]); rfl) (by kernel_rfl) (by kernel_rfl) (by kernel_rfl) (by rfl) (fun _ _ _ h => h) (Or.inl ⟨by rfl, ?_⟩) hS_ (by (simp only [List.setIfInBounds_toArray, List.set_cons_succ, List.set_cons_zero]); rfl) ?_
  · intro w_ hSw_; (try dsimp only at hSw_); go_simp
  refine takeV (i := 12) (v := .slice B1 m1 d1) (by (simp only [List.getElem?_toArray, List.getElem?_cons_succ, List.getElem?_cons_zero]); rfl) (by kernel_rfl) (by kernel_rfl) (by kernel_rfl) (by rfl) (fun _ _ _ h => h) (Or.inl ⟨by rfl, ?_⟩) hS_ (by (simp only [List.setIfInBounds_toArray, List.set_cons_succ, List.set_cons_zero]); rfl) ?_
  · intro w_ hSw_; (try dsimp only at hSw_); go_simp
  refine takeV (i := 14) (v := .pointer (some ⟨w.heap.size + 1, 1, none⟩)) (by (simp only [List.getElem?_toArray, List.getElem?_cons_succ, List.getElem?_cons_zero]); rfl) (by kernel_rfl) (by kernel_rfl) (by kernel_rfl) (by rfl) (fun _ _ _ h => h) (Or.inl ⟨by rfl, ?_⟩) hS_ (by (simp only [List.setIfInBounds_toArray, List.set_cons_succ, List.set_cons_zero]); rfl) ?_
  · intro w_ hSw_; (try dsimp only at hSw_); go_simp
  refine takeV (i := 15) (v := .slice B2 m2 d2) (by (simp only [List.getElem?_toArray, List.getElem?_cons_succ, List.getElem?_cons_zero]); rfl) (by kernel_rfl) (by kernel_rfl) (by kernel_rfl) (by rfl) (fun _ _ _ h => h) (Or.inl ⟨by rfl, ?_⟩) hS_ (by (simp only [List.setIfInBounds_toArray, List.set_cons_succ, List.set_cons_zero]); rfl) ?_
  · intro w_ hSw_; (try dsimp only at hSw_); go_simp
  refine takeV (i := 16) (v := .agg #[.slice B2 m2 d2, .slice none 0 0]) (by (simp only [List.getElem?_toArray, List.getElem?_cons_succ, List.getElem?_cons_zero]); rfl) (by kernel_rfl) (by kernel_rfl) (by kernel_rfl) (by rfl) (fun _ _ _ h => h) (Or.inl ⟨by rfl, ?_⟩) hS_ (by (simp only [List.setIfInBounds_toArray, List.set_cons_succ, List.set_cons_zero]); rfl) ?_
  · intro w_ hSw_; (try dsimp only at hSw_); go_simp
  refine wpAnyH_ready (rs := [4]) (by kernel_rfl) (by simp) ?_
  refine AllReadyH.cons (o := _) (by (simp only [List.getElem?_toArray, List.getElem?_cons_succ, List.getElem?_cons_zero]); rfl) (fun K_ hK_ => ?_) AllReadyH.nil
  rw [if_pos (by rfl)]
  go_simp
  go_at_call 86
  refine (l3Less_any A1 n1 c1 ca B2 m2 d2 gb _ (H1.out.up AtomE.stays HB7) SCA.out (H4.out.up AtomE.stays HB7) RGB.out).mono ?_; rintro e V8 ⟨L1, e1, rs, rfl, hi, hm, hb⟩
  have HB8 := belowThen HB7 hb
  have hz8 := hb.size
  have X8 := X7.below hb
  have Y8 := Y7.below hb
  have G8 := G7.below hb
  have hl : rs.length ≤ 1000 := by have h1 := less_le ca gb; rw [← hm, List.length_map] at h1; have h2 := LCA.out; omega
  have hkl1 := hb
  have hi := hi.atoms; rw [hm] at hi
  obtain ⟨k1, hk⟩ : ∃ z, rs.length = z := ⟨_, rfl⟩
  rw [hk] at hi hl ⊢; have hl1 := hl; clear hk hm hl
  have I1 := Lib.hid hi; clear hi
  refine hK_.out _ _ ⟨⟨X8.cell 0, X8.cell 1⟩, Y8.cell 0, Y8.cell 1⟩ (fun hS2_ => ?_)
  clear hK_ hS_; have hS_ := hS2_; clear hS2_
  (try simp only [Act.put, List.setIfInBounds_toArray, List.set_cons_zero, List.set_cons_succ])
  refine wpAnyH_ready (rs := [8]) (by kernel_rfl) (by simp) ?_
  refine AllReadyH.cons (o := _) (by (simp only [List.getElem?_toArray, List.getElem?_cons_succ, List.getElem?_cons_zero]); rfl) (fun K_ hK_ => ?_) AllReadyH.nil
  rw [if_pos (by rfl)]
  go_simp
  go_at_call 90
  refine (l3DoBare_any L1 k1 e1 ca B1 m1 d1 cb gb _ I1.out (H3.out.up AtomE.stays HB8) FCA.out RCA.out FCB.out hl1 (by omega)).mono ?_; rintro e V9 ⟨Q1, q1, r1, rfl, ho, hm, hb⟩
  have HB9 := belowThen HB8 hb
  have hz9 := hb.size
  have X9 := X8.below hb
  have Y9 := Y8.below hb
  have G9 := G8.below hb
  have O1 := Lib.hid ho; have M1 := Lib.hid hm; have hk1 := hb; clear ho hm hb
  obtain ⟨t1, ht1⟩ : ∃ z, (doL ca cb gb).length = z := ⟨_, rfl⟩; have T1 := Lib.hid ht1; rw [ht1]; clear ht1
  refine hK_.out _ _ ⟨⟨X9.cell 0, X9.cell 1⟩, Y9.cell 0, Y9.cell 1⟩ (fun hS2_ => ?_)
  clear hK_ hS_; have hS_ := hS2_; clear hS2_
  (try simp only [Act.put, List.setIfInBounds_toArray, List.set_cons_zero, List.set_cons_succ])
  refine wpAnyH_ready (rs := [13]) (by kernel_rfl) (by simp) ?_
  refine AllReadyH.cons (o := _) (by (simp only [List.getElem?_toArray, List.getElem?_cons_succ, List.getElem?_cons_zero]); rfl) (fun K_ hK_ => ?_) AllReadyH.nil
  rw [if_pos (by rfl)]
  go_simp
  go_at_call 86
  refine (l3Less_any A2 n2 c2 ga B1 m1 d1 cb _ (H2.out.up AtomE.stays HB9) SGA.out (H3.out.up AtomE.stays HB9) RCB.out).mono ?_; rintro e V10 ⟨L2, e2, rs, rfl, hi, hm, hb⟩
  have HB10 := belowThen HB9 hb
  have hz10 := hb.size
  have X10 := X9.below hb
  have Y10 := Y9.below hb
  have G10 := G9.below hb
  have hl : rs.length ≤ 1000 := by have h1 := less_le ga cb; rw [← hm, List.length_map] at h1; have h2 := LGA.out; omega
  have hkl2 := hb
  have hi := hi.atoms; rw [hm] at hi
  obtain ⟨k2, hk⟩ : ∃ z, rs.length = z := ⟨_, rfl⟩
  rw [hk] at hi hl ⊢; have hl2 := hl; clear hk hm hl
  have I2 := Lib.hid hi; clear hi
  refine hK_.out _ _ ⟨⟨X10.cell 0, X10.cell 1⟩, Y10.cell 0, Y10.cell 1⟩ (fun hS2_ => ?_)
  clear hK_ hS_; have hS_ := hS2_; clear hS2_
  (try simp only [Act.put, List.setIfInBounds_toArray, List.set_cons_zero, List.set_cons_succ])
  refine wpAnyH_ready (rs := [17]) (by kernel_rfl) (by simp) ?_
  refine AllReadyH.cons (o := _) (by (simp only [List.getElem?_toArray, List.getElem?_cons_succ, List.getElem?_cons_zero]); rfl) (fun K_ hK_ => ?_) AllReadyH.nil
  rw [if_pos (by rfl)]
  go_simp
  go_at_call 90
  refine (l3DoBare_any L2 k2 e2 ga B2 m2 d2 gb cb _ I2.out (H4.out.up AtomE.stays HB10) FGA.out RGA.out FGB.out hl2 (by omega)).mono ?_; rintro e V11 ⟨Q2, q2, r2, rfl, ho, hm, hb⟩
  have HB11 := belowThen HB10 hb
  have hz11 := hb.size
  have X11 := X10.below hb
  have Y11 := Y10.below hb
  have G11 := G10.below hb
  have O2 := Lib.hid ho; have M2 := Lib.hid hm; have hk3 := hb; clear ho hm hb
  obtain ⟨t2, ht2⟩ : ∃ z, (doL ga gb cb).length = z := ⟨_, rfl⟩; have T2 := Lib.hid ht2; rw [ht2]; clear ht2
  refine hK_.out _ _ ⟨⟨X11.cell 0, X11.cell 1⟩, Y11.cell 0, Y11.cell 1⟩ (fun hS2_ => ?_)
  clear hK_ hS_; have hS_ := hS2_; clear hS2_
  (try simp only [Act.put, List.setIfInBounds_toArray, List.set_cons_zero, List.set_cons_succ])
  refine takeV (i := 18) (v := .agg #[.slice Q1 t1 q1, .slice Q2 t2 q2]) (by (simp only [List.getElem?_toArray, List.getElem?_cons_succ, List.getElem?_cons_zero]); rfl) (by kernel_rfl) (by kernel_rfl) (by kernel_rfl) (by rfl) (fun _ _ _ h => h) (Or.inl ⟨by rfl, ?_⟩) hS_ (by (simp only [List.setIfInBounds_toArray, List.set_cons_succ, List.set_cons_zero]); rfl) ?_
  · intro w_ hSw_; (try dsimp only at hSw_); go_simp
  refine wpAnyH_ready (rs := [19]) (by kernel_rfl) (by simp) ?_
  refine AllReadyH.cons (o := _) (by (simp only [List.getElem?_toArray, List.getElem?_cons_succ, List.getElem?_cons_zero]); rfl) (fun K_ hK_ => ?_) AllReadyH.nil
  have b0 : V11.cell? ⟨w.heap.size + 1 + 1, 0, none⟩ = some (.slice none 0 0) := G11.cell 0
  have b1 : V11.cell? ⟨w.heap.size + 1 + 1, 1, none⟩ = some (.slice none 0 0) := G11.cell 1
  have f0 := G11.frozen 0; have f1 := G11.frozen 1
  rw [if_pos (by rfl)]
  go_simp
  refine hK_.out _ _ ⟨⟨((X11.far (by simp only; omega) _).far (by simp only; omega) _).cell 0, ((X11.far (by simp only; omega) _).far (by simp only; omega) _).cell 1⟩, ((Y11.far (by simp only; omega) _).far (by simp only; omega) _).cell 0, ((Y11.far (by simp only; omega) _).far (by simp only; omega) _).cell 1⟩ (fun hS2_ => ?_)
  clear hK_ hS_; have hS_ := hS2_; clear hS2_
  (try simp only [Act.put, List.setIfInBounds_toArray, List.set_cons_zero, List.set_cons_succ])
  refine wpAnyH_done (by kernel_rfl) ?_ _
  clear hS_
  go_wp2
  refine bodyPost_ret (v := .agg #[.slice Q1 t1 q1, .slice Q2 t2 q2]) (by simp [results, Try.results92, go_sem, b0, b1]) rfl ?_
  rw [← T1.out, ← T2.out]
  exact own_both rfl O1.out M1.out O2.out M2.out (belowThen hkl2 hk3) hz9 hz10 (by omega) G8.lt HB11 _ _

set_option maxRecDepth 100000 in
set_option maxHeartbeats 8000000 in
theorem specChangeBoth_any (A1 A2 B1 B2 : Option Addr) (n1 c1 n2 c2 m1 d1 m2 d2 : Nat) (ca ga cb gb : List At) (w : World) (h1 : IsAtoms w 0 w.heap.size A1 n1 c1 ca) (h2 : IsAtoms w 0 w.heap.size A2 n2 c2 ga) (h3 : IsAtoms w 0 w.heap.size B1 m1 d1 cb) (h4 : IsAtoms w 0 w.heap.size B2 m2 d2 gb) :
    Calls Try.prog 37 #[.agg #[.slice A1 n1 c1, .slice A2 n2 c2], .agg #[.slice B1 m1 d1, .slice B2 m2 d2]] w (OwnQPost (bothL ca ga cb gb) w) := by
  have H1 := Lib.hid h1; have H2 := Lib.hid h2; have H3 := Lib.hid h3; have H4 := Lib.hid h4; clear h1 h2 h3 h4
  have X1 : Blk (((w.alloc (.cells #[.slice A1 n1 c1, .slice A2 n2 c2] 38)).alloc (.cells #[.slice B1 m1 d1, .slice B2 m2 d2] 38)).alloc (.cells #[.slice none 0 0, .slice none 0 0] 38)) w.heap.size 38 #[.slice A1 n1 c1, .slice A2 n2 c2] := ((Blk.new w _ _).alloc _).alloc _
  have Y1 : Blk (((w.alloc (.cells #[.slice A1 n1 c1, .slice A2 n2 c2] 38)).alloc (.cells #[.slice B1 m1 d1, .slice B2 m2 d2] 38)).alloc (.cells #[.slice none 0 0, .slice none 0 0] 38)) (w.heap.size + 1) 38 #[.slice B1 m1 d1, .slice B2 m2 d2] := (Blk.made (b := w.heap.size + 1) (w.alloc (.cells #[.slice A1 n1 c1, .slice A2 n2 c2] 38)) 38 #[.slice B1 m1 d1, .slice B2 m2 d2] (by simp)).alloc _
  have G1 : Blk (((w.alloc (.cells #[.slice A1 n1 c1, .slice A2 n2 c2] 38)).alloc (.cells #[.slice B1 m1 d1, .slice B2 m2 d2] 38)).alloc (.cells #[.slice none 0 0, .slice none 0 0] 38)) (w.heap.size + 1 + 1) 38 #[.slice none 0 0, .slice none 0 0] := Blk.made (b := w.heap.size + 1 + 1) ((w.alloc (.cells #[.slice A1 n1 c1, .slice A2 n2 c2] 38)).alloc (.cells #[.slice B1 m1 d1, .slice B2 m2 d2] 38)) 38 #[.slice none 0 0, .slice none 0 0] (by simp)
  have HB1 : Below w.heap.size w (((w.alloc (.cells #[.slice A1 n1 c1, .slice A2 n2 c2] 38)).alloc (.cells #[.slice B1 m1 d1, .slice B2 m2 d2] 38)).alloc (.cells #[.slice none 0 0, .slice none 0 0] 38)) := (below3 w (.cells #[.slice A1 n1 c1, .slice A2 n2 c2] 38) (.cells #[.slice B1 m1 d1, .slice B2 m2 d2] 38) (.cells #[.slice none 0 0, .slice none 0 0] 38))
  obtain ⟨W1, hW1⟩ : ∃ X, ((w.alloc (.cells #[.slice A1 n1 c1, .slice A2 n2 c2] 38)).alloc (.cells #[.slice B1 m1 d1, .slice B2 m2 d2] 38)).alloc (.cells #[.slice none 0 0, .slice none 0 0] 38) = X := ⟨_, rfl⟩
  have hWd := Lib.hid hW1
  rw [hW1] at X1 Y1 G1 HB1; clear hW1
  have xs0 : (((w.alloc (.cells #[.slice A1 n1 c1, .slice A2 n2 c2] 38)).alloc (.cells #[.slice B1 m1 d1, .slice B2 m2 d2] 38)).alloc (.cells #[.slice none 0 0, .slice none 0 0] 38)).cell? ⟨w.heap.size, 0, none⟩ = some (.slice A1 n1 c1) := by rw [hWd.out]; exact X1.cell 0
  have xs1 : (((w.alloc (.cells #[.slice A1 n1 c1, .slice A2 n2 c2] 38)).alloc (.cells #[.slice B1 m1 d1, .slice B2 m2 d2] 38)).alloc (.cells #[.slice none 0 0, .slice none 0 0] 38)).cell? ⟨w.heap.size, 1, none⟩ = some (.slice A2 n2 c2) := by rw [hWd.out]; exact X1.cell 1
  go_enter Try.func37, Try.ntmps37
  go_wp2_with fail
  rw [hWd.out]; clear xs0 xs1
  refine (specChangeOk_any A1 A2 n1 c1 n2 c2 ca ga _ (H1.out.up AtomE.stays HB1) (H2.out.up AtomE.stays HB1)).mono ?_; rintro e W2 ⟨rfl, hb⟩
  have HB2 := belowThen HB1 hb; have X2 := X1.below hb; have Y2 := Y1.below hb; have G2 := G1.below hb; clear hb
  have xc0 : W2.cell? ⟨w.heap.size, 0, none⟩ = some (.slice A1 n1 c1) := X2.cell 0
  have xc1 : W2.cell? ⟨w.heap.size, 1, none⟩ = some (.slice A2 n2 c2) := X2.cell 1
  have yc0 : W2.cell? ⟨w.heap.size + 1, 0, none⟩ = some (.slice B1 m1 d1) := Y2.cell 0
  have yc1 : W2.cell? ⟨w.heap.size + 1, 1, none⟩ = some (.slice B2 m2 d2) := Y2.cell 1
  have gc0 : W2.cell? ⟨w.heap.size + 1 + 1, 0, none⟩ = some (.slice none 0 0) := G2.cell 0
  have gc1 : W2.cell? ⟨w.heap.size + 1 + 1, 1, none⟩ = some (.slice none 0 0) := G2.cell 1
  have gf0 := G2.frozen 0; have gf1 := G2.frozen 1
  by_cases hx : (!changeB ca ga) = true
  · have E := Lib.hid (bothL_no1 (cb := cb) (gb := gb) hx)
    go_wp2
    refine bodyPost_ret (v := .tuple #[.agg #[.slice none 0 0, .slice none 0 0], .bool false]) (by simp [results, Try.results37, go_sem, gc0, gc1]) rfl (q_not E.out ((HB2.setCell (by simp only; omega) _).setCell (by simp only; omega) _))
  · have hx' : (!changeB ca ga) = false := by simpa using hx
    clear hx
    go_wp2_with fail
    refine (specChangeOk_any B1 B2 m1 d1 m2 d2 cb gb _ (H3.out.up AtomE.stays HB2) (H4.out.up AtomE.stays HB2)).mono ?_; rintro e W3 ⟨rfl, hb⟩
    clear xc0 xc1 yc0 yc1 gc0 gc1 gf0 gf1
    have HB3 := belowThen HB2 hb; have X3 := X2.below hb; have Y3 := Y2.below hb; have G3 := G2.below hb; clear hb
    have xc0 : W3.cell? ⟨w.heap.size, 0, none⟩ = some (.slice A1 n1 c1) := X3.cell 0
    have xc1 : W3.cell? ⟨w.heap.size, 1, none⟩ = some (.slice A2 n2 c2) := X3.cell 1
    have yc0 : W3.cell? ⟨w.heap.size + 1, 0, none⟩ = some (.slice B1 m1 d1) := Y3.cell 0
    have yc1 : W3.cell? ⟨w.heap.size + 1, 1, none⟩ = some (.slice B2 m2 d2) := Y3.cell 1
    have gc0 : W3.cell? ⟨w.heap.size + 1 + 1, 0, none⟩ = some (.slice none 0 0) := G3.cell 0
    have gc1 : W3.cell? ⟨w.heap.size + 1 + 1, 1, none⟩ = some (.slice none 0 0) := G3.cell 1
    have gf0 := G3.frozen 0; have gf1 := G3.frozen 1
    by_cases hy : (!changeB cb gb) = true
    · have E := Lib.hid (bothL_no2 (ca := ca) (ga := ga) hy)
      go_wp2
      refine bodyPost_ret (v := .tuple #[.agg #[.slice none 0 0, .slice none 0 0], .bool false]) (by simp [results, Try.results37, go_sem, gc0, gc1]) rfl (q_not E.out ((HB3.setCell (by simp only; omega) _).setCell (by simp only; omega) _))
    · have hy' : (!changeB cb gb) = false := by simpa using hy
      clear hy
      obtain ⟨f1, f2⟩ := changeB_parts hx'; obtain ⟨f3, f4⟩ := changeB_parts hy'
      have CL := Lib.hid (fun (W : World) (k1 : IsAtoms W 0 W.heap.size A1 n1 c1 ca) (k2 : IsAtoms W 0 W.heap.size A2 n2 c2 ga) (k3 : IsAtoms W 0 W.heap.size B1 m1 d1 cb) (k4 : IsAtoms W 0 W.heap.size B2 m2 d2 gb) => l3Both_any A1 A2 B1 B2 n1 c1 n2 c2 m1 d1 m2 d2 ca ga cb gb W k1 k2 k3 k4 f1 f2 f3 f4)
      obtain ⟨P, hP⟩ : ∃ z, doL ca cb gb = z := ⟨_, rfl⟩; obtain ⟨Q, hQ⟩ : ∃ z, doL ga gb cb = z := ⟨_, rfl⟩
      rw [hP, hQ] at CL; have EP := Lib.hid hP; have EQ := Lib.hid hQ; clear hP hQ f1 f2 f3 f4
      go_wp2_with fail
      refine (CL.out _ (H1.out.up AtomE.stays HB3) (H2.out.up AtomE.stays HB3) (H3.out.up AtomE.stays HB3) (H4.out.up AtomE.stays HB3)).mono ?_; rintro e W4 ⟨Q1, q1, r1, Q2, q2, r2, mid, rfl, ⟨o1, m1⟩, ⟨o2, m2⟩, ⟨s1, s2⟩, hb⟩
      clear xc0 xc1 yc0 yc1 gc0 gc1 gf0 gf1
      have M1 := Lib.hid m1; have M2 := Lib.hid m2; clear m1 m2
      have HB4 := belowThen HB3 hb; have G4 := G3.below hb; clear hb
      have hbx := below1 W4 (.cells #[.slice Q1 P.length q1, .slice Q2 Q.length q2] 38)
      have T5 := Blk.new W4 38 #[.slice Q1 P.length q1, .slice Q2 Q.length q2]
      have HB5 := belowThen HB4 hbx; have G5 := G4.below hbx
      have O1 := Lib.hid (o1.below hbx s2); have O2 := Lib.hid (o2.below hbx (Nat.le_refl _)); clear o1 o2
      obtain ⟨W5, hW5⟩ : ∃ X, W4.alloc (.cells #[.slice Q1 P.length q1, .slice Q2 Q.length q2] 38) = X := ⟨_, rfl⟩
      have hWd5 := Lib.hid hW5; have hz5 := hbx.size
      rw [hW5] at T5 HB5 G5 O1 O2 hz5; clear hW5 hbx
      dsimp only at O1 O2 M1 M2
      go_wp2_with fail
      rw [hWd5.out]
      have i1 := O1.out.atoms; have i2 := O2.out.atoms; rw [M1.out] at i1; rw [M2.out] at i2
      refine (specChangeOk_any Q1 Q2 P.length q1 Q.length q2 P Q _ (i1.keep AtomE.stays (lo' := 0) (hi' := W5.heap.size) (fun _ _ _ => rfl) (Nat.zero_le _) (by omega)) (i2.keep AtomE.stays (lo' := 0) (hi' := W5.heap.size) (fun _ _ _ => rfl) (Nat.zero_le _) (by omega))).mono ?_; rintro e W6 ⟨rfl, hb⟩
      clear i1 i2
      have O1 := Lib.hid (O1.out.below hb (by omega)); have O2 := Lib.hid (O2.out.below hb (by omega))
      have HB6 := belowThen HB5 hb; have G6 := G5.below hb; have T6 := T5.below hb; have hz6 := hb.size; clear hb
      have gc0 : W6.cell? ⟨w.heap.size + 1 + 1, 0, none⟩ = some (.slice none 0 0) := G6.cell 0
      have gc1 : W6.cell? ⟨w.heap.size + 1 + 1, 1, none⟩ = some (.slice none 0 0) := G6.cell 1
      have gf0 := G6.frozen 0; have gf1 := G6.frozen 1
      have tc0 : W6.cell? ⟨W4.heap.size, 0, none⟩ = some (.slice Q1 P.length q1) := T6.cell 0
      have tc1 : W6.cell? ⟨W4.heap.size, 1, none⟩ = some (.slice Q2 Q.length q2) := T6.cell 1
      have hg3 : w.heap.size + 1 + 1 < W3.heap.size := G3.lt
      by_cases hq : (!changeB P Q) = true
      · have E := Lib.hid (bothL_no3 (ca := ca) (ga := ga) (cb := cb) (gb := gb) (by rw [EP.out, EQ.out]; exact hq))
        go_wp2
        refine bodyPost_ret (v := .tuple #[.agg #[.slice none 0 0, .slice none 0 0], .bool false]) (by simp [results, Try.results37, go_sem, gc0, gc1]) rfl (q_not E.out ((HB6.setCell (by simp only; omega) _).setCell (by simp only; omega) _))
      · have hq' : (!changeB P Q) = false := by simpa using hq
        clear hq
        have E := Lib.hid (show bothL ca ga cb gb = ((P, Q), true) by rw [bothL_yes hx' hy' (by rw [EP.out, EQ.out]; exact hq'), EP.out, EQ.out])
        obtain ⟨t1, ht1⟩ : ∃ z, P.length = z := ⟨_, rfl⟩; have T1 := Lib.hid ht1; rw [ht1] at tc0 ⊢; clear ht1
        obtain ⟨t2, ht2⟩ : ∃ z, Q.length = z := ⟨_, rfl⟩; have T2 := Lib.hid ht2; rw [ht2] at tc1 ⊢; clear ht2
        go_wp2
        refine bodyPost_ret (v := .tuple #[.agg #[.slice Q1 t1 q1, .slice Q2 t2 q2], .bool true]) (by simp [results, Try.results37, go_sem, gc0, gc1]) rfl ?_
        rw [← T1.out, ← T2.out]
        exact q_out E.out O1.out M1.out O2.out M2.out (by omega) hg3 (by omega) (by omega) (by omega) HB6 _ _

end Go.Proofs.Ytbhkihnekendbaa
