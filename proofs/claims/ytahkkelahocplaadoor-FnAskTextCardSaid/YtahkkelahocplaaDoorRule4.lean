/-
  Rules' texts: the program.
-/
import Derived.Test.YtahkkelahocplaaDoorRule3
namespace Go.Proofs.YtahkkelahocplaaDoor
open Go.RowKit

/-- A row of texts, filled as far as k. -/
def TextRow (w : World) (g n k : Nat) (ls : List (List UInt8)) : Prop := ∃ f, w.rowIs g 9 n f ∧ ∀ j l, j < k → ls[j]? = some l → f j = .string ⟨l.toArray⟩

theorem TextRow.start (w : World) (n : Nat) (ls : List (List UInt8)) : TextRow (w.alloc (.cells (madeCells #[.string ByteArray.empty] n) 9)) w.heap.size n 0 ls :=
  ⟨_, World.rowIs_made w _ n _, fun j t hj => absurd hj (by omega)⟩

theorem TextRow.lt {w : World} {g n k : Nat} {ls : List (List UInt8)} (h : TextRow w g n k ls) : g < w.heap.size := by
  obtain ⟨f, h, _⟩ := h; exact h.lt

theorem TextRow.below {w w' : World} {g n k : Nat} {ls : List (List UInt8)} (h : TextRow w g n k ls) (hb : Below w.heap.size w w') : TextRow w' g n k ls := by
  obtain ⟨f, h, h2⟩ := h
  exact ⟨f, h.of_block (hb.block g h.lt), h2⟩

theorem TextRow.cell {w : World} {g n k : Nat} {ls : List (List UInt8)} (h : TextRow w g n k ls) (hk : k < n) : (∃ x, w.cell? ⟨g, k, none⟩ = some x) ∧ w.frozen? ⟨g, k, none⟩ = false := by
  obtain ⟨f, h, _⟩ := h
  exact ⟨⟨_, h.cell hk⟩, h.frozen _⟩

/-- A store at k, of whatever: what is filled ahead of it stays. -/
theorem TextRow.at_ {w : World} {g n k : Nat} {ls : List (List UInt8)} (h : TextRow w g n k ls) (v : Value) : TextRow (w.setCell ⟨g, k, none⟩ v) g n k ls := by
  obtain ⟨f, h, h2⟩ := h
  refine ⟨_, h.set k v, fun j l hj hl => ?_⟩
  have e : ¬ j = k := by omega
  simp only [e, if_false]; exact h2 j l hj hl

theorem TextRow.step {w : World} {g n k : Nat} {ls : List (List UInt8)} (h : TextRow w g n k ls) {l : List UInt8} (hl : ls[k]? = some l) {s : ByteArray} (hs : s = ⟨l.toArray⟩) : TextRow (w.setCell ⟨g, k, none⟩ (.string s)) g n (k + 1) ls := by
  obtain ⟨f, h, h2⟩ := h
  refine ⟨_, h.set k (.string s), fun j m hj hm => ?_⟩
  by_cases e : j = k
  · subst e
    rw [hl] at hm
    injection hm with hm
    subst hm
    simp [hs]
  · simp only [e, if_false]; exact h2 j m (by omega) hm

/-- A row of texts, joined. -/
theorem joinRow_any (g n : Nat) (ls : List (List UInt8)) (sep : ByteArray) (w : World) (hl : ls.length = n) (hn : n ≤ 1048576) (h : TextRow w g n n ls) (hle : (Lib.join ls sep.data.toList).length ≤ 1099511627776) :
    Calls Tryd.prog 98 #[.slice (some ⟨g, 0, none⟩) n n, .string sep] w (StrPost (Lib.join ls sep.data.toList) w) := by
  subst hl
  obtain ⟨f, hr, hf⟩ := h
  have hx : ((ls.map fun l => (⟨l.toArray⟩ : ByteArray)).map fun s => s.data.toList) = ls := by
    rw [List.map_map]
    exact List.map_id' ls
  have key := Tryd.strings_Join g 0 ls.length (ls.map fun l => ⟨l.toArray⟩) sep w (fun j x hj => by
      obtain ⟨l, hl, rfl⟩ := List.mem_map.1 (List.mem_of_getElem? hj)
      have hjl : j < ls.length := by have := (List.getElem?_eq_some_iff.1 hj).1; simpa using this
      have hg : ls[j]? = some ls[j] := List.getElem?_eq_getElem hjl
      rw [Nat.zero_add, hr.cell hjl, hf j _ hjl hg]
      have : (ls.map fun l => (⟨l.toArray⟩ : ByteArray))[j]? = some ⟨ls[j].toArray⟩ := by simp [hjl]
      rw [this] at hj
      injection hj with hj
      rw [hj]) hr.lt (by rw [List.length_map]; omega) (by simp) (by rw [hx]; omega)
  rw [List.length_map, hx] at key
  exact key

theorem part_not (q : At) : (⟨(partL (true, q)).toArray⟩ : ByteArray) = ⟨#[110, 111, 116, 32]⟩ ++ ⟨(textL q).toArray⟩ := by
  apply ByteArray.ext
  rw [ByteArray.data_append]
  apply Array.toList_inj.1
  simp [partL]

set_option maxHeartbeats 2000000 in
theorem bodyPut_any (B : Option Addr) (m d : Nat) (xs : List Pt) (w : World) (h : IsParts w 0 w.heap.size B m d xs) (hB : bodyB xs = true) (hL : xs.length ≤ 4) :
    Calls Tryd.prog 73 #[.slice B m d] w (StrPost (bodyL xs) w) := by
  have L := Lib.hid h.1
  have hm : m ≤ 4 := by rw [← h.1]; exact hL
  have hm' : (m : Int) ≤ 4 := by omega
  have hshort := bodyL_short hB hL
  have H := Lib.hid h; clear h
  have EB := Lib.hid hB; clear hB hL
  obtain ⟨i0, hi, hz, hsz, hby⟩ := info_parts Tryd.infoString
  have hmk : ∀ W : World, (Instr.makeSlice 59 (.int .i64 (m : Int)) (.int .i64 (m : Int))).run Tryd.prog W = .ok (.slice (some ⟨W.heap.size, 0, none⟩) m m) (W.alloc (.cells (madeCells #[.string ByteArray.empty] m) 9)) := by
    intro W
    have hr := run_make (P := Tryd.prog) W 59 9 i0 _ Tryd.underlying59 hi hz .i64 .i64 m m (by omega) (Int.le_refl _) (by rw [hby]; omega) (by omega)
    rw [hsz, Nat.mul_one] at hr
    exact hr
  clear hi hz hsz hby
  go_enter Tryd.func73, Tryd.ntmps73
  go_wp2
  go_loopw [4, 5, 11] (fun _ _ i wr => ∃ k : Nat, k ≤ m ∧ i = .int .i64 k ∧ TextRow wr w.heap.size m k (xs.map partL) ∧ Below w.heap.size w wr) (fun _ _ i _ => m - (intOf i).toNat)
  case atStart => exact ⟨0, Nat.zero_le _, rfl, TextRow.start w m _, below1 _ _⟩
  case round =>
    obtain ⟨k, hk, rfl, hf, HB⟩ := hrel
    have HF := Lib.hid hf; clear hf
    by_cases hlt : k < m
    · obtain ⟨p, ⟨b, q⟩, hA, hlo, hhi, hg, hE⟩ := (H.out.below PartE.stays HB (Nat.le_refl _)).at_ hlt
      obtain ⟨C, n', c', d1, d2, d3, d4, d5⟩ := hE.out
      clear hE
      subst hA
      have hqa : atomB q = true := by
        have := EB.out
        unfold bodyB at this
        exact List.all_eq_true.1 this (b, q) (List.mem_of_getElem? hg)
      have hput : putB (q.1, q.2) = textL q := by unfold putB; rw [show atomB (q.1, q.2) = true from hqa]; rfl
      have hple := textL_le hqa
      have HP := Lib.hid hput; clear hput hqa
      have hgm : (xs.map partL)[k]? = some (partL (b, q)) := by rw [List.getElem?_map, hg]; rfl
      have HG := Lib.hid hgm; clear hg hgm
      have hb1 := below1 wr (.cells #[.bool b, .string q.1, .slice C n' c'] 86)
      have HT := Lib.hid ((d5.keep (lo' := 0) (hi' := wr.heap.size) (fun _ _ _ => rfl) (Nat.le_refl _) HB.size).up hb1); clear d5
      have X1 := Lib.hid (Box3.new wr (.bool b) (.string q.1) (.slice C n' c') 86)
      have HF1 := Lib.hid (HF.out.below hb1)
      have HB1 := belowThen HB hb1
      have hg0 : w.heap.size < wr.heap.size := HF.out.lt
      cases b
      · go_wp2_with fail
        refine (implAtomPut_any _ _ _ _ q.2 _ d3 HT.out).mono ?_; rintro e w2 ⟨rfl, hb2⟩
        rw [HP.out]
        obtain ⟨x1, x2, x3, x4⟩ := X1.out.later hb2
        have HF2 := HF1.out.below hb2
        obtain ⟨⟨z0, hz0⟩, hz1⟩ := HF2.cell hlt
        have hgw : w.heap.size < w2.heap.size := by have := hb2.size; have := hb1.size; omega
        go_wp2
        go_roundw
        case rel => exact ⟨k + 1, by omega, by go_num, HF2.step HG.out (by unfold partL; simp), (belowThen HB1 hb2).setCell (Nat.le_refl _) _⟩
        case measure => simp [intOf]; omega
      · go_wp2_with fail
        refine (implAtomPut_any _ _ _ _ q.2 _ d3 HT.out).mono ?_; rintro e w2 ⟨rfl, hb2⟩
        rw [HP.out]
        obtain ⟨x1, x2, x3, x4⟩ := X1.out.later hb2
        have HF2 := HF1.out.below hb2
        obtain ⟨⟨z0, hz0⟩, hz1⟩ := HF2.cell hlt
        have hgw : w.heap.size < w2.heap.size := by have := hb2.size; have := hb1.size; omega
        have hne : ∀ u, (w2.setCell ⟨w.heap.size, k, none⟩ u).cell? ⟨wr.heap.size, 0, none⟩ = some (.bool true) := fun u => (World.cell?_setCell_other _ _ _ _ (fun e => by have := congrArg Addr.block e; simp at this; omega)).trans x2
        go_wp2
        go_roundw
        case rel => exact ⟨k + 1, by omega, by go_num, (HF2.at_ _).step HG.out (by rw [part_not]), ((belowThen HB1 hb2).setCell (Nat.le_refl _) _).setCell (Nat.le_refl _) _⟩
        case measure => simp [intOf]; omega
    · have hkm : k = m := by omega
      have HJ : TextRow wr w.heap.size m m (xs.map partL) := by
        have h9 := HF.out
        rw [hkm] at h9
        exact h9
      clear hkm
      go_wp2_with fail
      refine (joinRow_any w.heap.size m (xs.map partL) _ _ (by rw [List.length_map]; exact L.out) (by omega) HJ ?_).mono ?_
      · show (bodyL xs).length ≤ _
        omega
      rintro e w2 ⟨rfl, hb2⟩
      go_wp2
      go_ret
      exact ⟨rfl, belowThen HB hb2⟩

theorem rule_text (r : Rl) (h : r.2.length ≠ 0) : (⟨(ruleL r).toArray⟩ : ByteArray) = ⟨(textL r.1).toArray⟩ ++ ⟨#[32, 105, 102, 32]⟩ ++ ⟨(bodyL r.2).toArray⟩ := by
  apply ByteArray.ext
  simp only [ByteArray.data_append]
  apply Array.toList_inj.1
  unfold ruleL
  simp [h]

set_option maxHeartbeats 4000000 in
theorem implRulePut_any (nm : ByteArray) (A : Option Addr) (n c : Nat) (B : Option Addr) (m d : Nat) (ts : List Tm) (xs : List Pt) (w : World) (hs : nm.size ≤ maxLen) (h : IsRule w w.heap.size A n c B m d ts xs) :
    Calls Tryd.prog 28 #[.agg #[.string nm, .slice A n c, .slice B m d]] w (StrPost (rulePutB ((nm, ts), xs)) w) := by
  have L := Lib.hid h.2.1
  have H := Lib.hid h; clear h
  have hw0 := below1 w (.cells #[.string nm, .slice A n c, .slice B m d] 38)
  have X0 := Lib.hid (Box3.new w (.string nm) (.slice A n c) (.slice B m d) 38)
  go_enter Tryd.func28, Tryd.ntmps28
  go_wp2_with fail
  refine (ruleOk_any _ _ _ _ _ _ _ ts xs _ hs (H.out.up hw0)).mono ?_; rintro e w1 ⟨rfl, hb1⟩
  have HB1 := belowThen hw0 hb1
  have X1 := Lib.hid (X0.out.later hb1)
  clear hb1 X0
  obtain ⟨x1, x2, x3, x4⟩ := X1.out
  cases hA : ruleB ((nm, ts), xs)
  · have E := Lib.hid (show rulePutB ((nm, ts), xs) = [] by unfold rulePutB; rw [hA]; rfl); clear hA
    go_wp2
    go_ret; exact ⟨by rw [E.out]; rfl, HB1⟩
  · have E := Lib.hid (show rulePutB ((nm, ts), xs) = ruleL ((nm, ts), xs) by unfold rulePutB; rw [hA]; rfl)
    unfold ruleB at hA
    simp only [Bool.and_eq_true, decide_eq_true_eq] at hA
    obtain ⟨hB, ha, hL⟩ := hA
    have hput : putB (nm, ts) = textL (nm, ts) := by unfold putB; rw [ha]; rfl
    have hple := textL_le ha
    have hble := bodyL_short hB hL
    have HP := Lib.hid hput; clear hput ha
    have EB := Lib.hid hB; clear hB
    have EL := Lib.hid hL; clear hL
    by_cases hm0 : m = 0
    · have hk0 : ((m : Int) == 0) = true := by rw [beq_iff_eq]; omega
      have E2 := Lib.hid (show ruleL ((nm, ts), xs) = textL (nm, ts) by unfold ruleL; rw [L.out, if_pos hm0, List.append_nil])
      clear hm0
      go_wp2_with fail
      refine (implAtomPut_any _ _ _ _ ts _ hs (H.out.up HB1).1).mono ?_; rintro e w2 ⟨rfl, hb2⟩
      go_wp2
      go_ret; exact ⟨by rw [E.out, E2.out, HP.out]; rfl, belowThen HB1 hb2⟩
    · have hk0 : ((m : Int) == 0) = false := by rw [beq_eq_false_iff_ne]; omega
      have E2 := Lib.hid (rule_text ((nm, ts), xs) (by rw [L.out]; exact hm0))
      clear hm0
      go_wp2_with fail
      have hbd := HB1.drew
      go_region_with (first
        | ((with_reducible refine (implAtomPut_any nm A n c ts _ hs (H.out.up hbd).head).mono ?_); rintro e w2 ⟨rfl, hb2'⟩; have hb2 : Below w1.heap.size w1 w2 := undrew hb2'; clear hb2'; have HB2 := belowThen HB1 hb2; obtain ⟨y1, y2, y3, y4⟩ := X1.out.later hb2; rw [HP.out])
        | ((with_reducible refine (bodyPut_any B m d xs _ (H.out.up HB2).body EB.out EL.out).mono ?_); rintro e w3 ⟨rfl, hb3⟩; have HB3 := belowThen HB2 hb3))
      all_goals go_wp2
      all_goals (go_ret; exact ⟨by rw [E.out, E2.out]; rfl, HB3⟩)

end Go.Proofs.YtahkkelahocplaaDoor
