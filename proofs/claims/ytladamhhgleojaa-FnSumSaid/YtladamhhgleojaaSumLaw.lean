/-
  The law of Sum: a text of which one byte is turned has another sum; and what is drawn is told as the model tells it.
-/
import Derived.Test.YtladamhhgleojaaDrawSum
import Derived.Lib.ConvBytes
import Derived.Laws.IdiomStrings
namespace Go.Proofs.Ytladamhhgleojaa
open Go.RowKit

theorem step_apart {a b : Nat} {c : UInt8} (ha : a < 1000003) (hb : b < 1000003) (h : a ≠ b) : sumStep a c ≠ sumStep b c := by
  unfold sumStep; omega

theorem step_turn {a : Nat} {c d : UInt8} (h : c ≠ d) : sumStep a c ≠ sumStep a d := by
  have hc := c.toNat_lt
  have hd := d.toNat_lt
  have hn : c.toNat ≠ d.toNat := fun e => h (UInt8.toNat_inj.1 e)
  unfold sumStep; omega

theorem fold_apart : ∀ (r : List UInt8) {a b : Nat}, a < 1000003 → b < 1000003 → a ≠ b → r.foldl sumStep a ≠ r.foldl sumStep b
  | [], _, _, _, _, h => h
  | c :: r, _, _, ha, hb, h => by
    rw [List.foldl_cons, List.foldl_cons]
    exact fold_apart r (sumStep_lt _ _) (sumStep_lt _ _) (step_apart ha hb h)

/-- A text of which one byte is turned has another sum. -/
theorem sum_turned (l : List UInt8) {k : Nat} (hk : k < l.length) {d : UInt8} (h : d ≠ l[k]) : sumB (l.set k d) ≠ sumB l := by
  have key : ∀ x, sumB (l.set k x) = (l.drop (k + 1)).foldl sumStep (sumStep (sumB (l.take k)) x) := fun x => by
    rw [List.set_eq_take_append_cons_drop, if_pos hk]
    unfold sumB
    rw [List.foldl_append, List.foldl_cons]
  have h2 := key l[k]
  rw [List.set_getElem_self] at h2
  rw [key d, h2]
  exact fold_apart _ (sumStep_lt _ _) (sumStep_lt _ _) (step_turn h)

/-- One byte against another: another. -/
theorem xor_turn (c : UInt8) (v : Nat) (h0 : 0 < v) (h1 : v < 256) : ∃ d : UInt8, bits .xor .u8 (c.toNat : Int) (v : Int) = (d.toNat : Int) ∧ d ≠ c := by
  refine ⟨⟨c.toBitVec ^^^ BitVec.ofNat 8 v⟩, ?_, fun e => ?_⟩
  · have e1 : bits .xor .u8 (c.toNat : Int) (v : Int) = IntKind.u8.wrap (((BitVec.ofInt 8 (c.toNat : Int)) ^^^ (BitVec.ofInt 8 (v : Int))).toNat : Int) := rfl
    have e2 : BitVec.ofInt 8 (c.toNat : Int) = c.toBitVec := by
      apply BitVec.eq_of_toNat_eq
      have := c.toNat_lt
      rw [BitVec.toNat_ofInt]
      show _ = c.toNat
      omega
    have e3 : BitVec.ofInt 8 (v : Int) = BitVec.ofNat 8 v := by
      apply BitVec.eq_of_toNat_eq
      rw [BitVec.toNat_ofInt, BitVec.toNat_ofNat]
      omega
    rw [e1, e2, e3]
    have hlt := (c.toBitVec ^^^ BitVec.ofNat 8 v).isLt
    rw [IntKind.wrap_u8]
    show _ = (((c.toBitVec ^^^ BitVec.ofNat 8 v).toNat : Nat) : Int)
    omega
  · have e2 : c.toBitVec ^^^ BitVec.ofNat 8 v = c.toBitVec := congrArg UInt8.toBitVec e
    have e3 : BitVec.ofNat 8 v = 0#8 := by
      have h3 := congrArg (fun x => c.toBitVec ^^^ x) e2
      simpa [← BitVec.xor_assoc] using h3
    have := congrArg BitVec.toNat e3
    rw [BitVec.toNat_ofNat] at this
    simp at this
    omega

theorem bytes_apart (w : World) (s : ByteArray) : ∃ cap W, (convert 9 22 (.string s)).run Try.prog w = .ok (.slice (some ⟨w.heap.size, 0, none⟩) s.size cap) W ∧ Below w.heap.size w W ∧ w.heap.size < W.heap.size ∧
    (∀ j (hj : j < s.size), W.cell? ⟨w.heap.size, j, none⟩ = some (.int .u8 ((s.data.toList[j]'(by simpa using hj)).toNat : Int))) ∧ (∀ j, j < s.size → W.frozen? ⟨w.heap.size, j, none⟩ = false) ∧ s.size ≤ cap := by
  refine ⟨_, _, Lib.run_convert_string_bytes w _ _ 5 s Try.underlying9 Try.underlying22 Try.underlying5, ⟨rfl, rfl, rfl, by rw [Lib.bytesWorld_size]; omega, fun k hk => Lib.bytesWorld_at_old w _ s k hk⟩, by rw [Lib.bytesWorld_size]; omega, fun j hj => ?_, fun j hj => ?_, ?_⟩
  · rw [Lib.bytesWorld_cell w _ s j hj]
    congr 2
    simp [List.getD, hj]
  · have hz : s.size ≤ (Lib.bytesCells w 5 s).size := by unfold Lib.bytesCells; simp
    simp [World.frozen?, Lib.bytesWorld_at_new]
    omega
  · exact grownCap_ge _ _ _ _

/-- One byte is turned, and all is read back. -/
theorem turned_back {w W : World} {g cap n k : Nat} {s : ByteArray} (hb : Below w.heap.size w W) (hg : w.heap.size ≤ g) (hc : ∀ j (hj : j < s.size), W.cell? ⟨g, j, none⟩ = some (.int .u8 ((s.data.toList[j]'(by simpa using hj)).toNat : Int))) (hk : k < s.size) :
    ∃ s' : ByteArray, (convert 22 9 (.slice (some ⟨g, 0, none⟩) s.size cap)).run Try.prog (W.setCell ⟨g, k, none⟩ (.int .u8 (bits .xor .u8 (s.data[k].toNat : Int) (1 + (n : Int) % 255)))) = .ok (.string s') (W.setCell ⟨g, k, none⟩ (.int .u8 (bits .xor .u8 (s.data[k].toNat : Int) (1 + (n : Int) % 255)))) ∧
      s'.size = s.size ∧ Below w.heap.size w (W.setCell ⟨g, k, none⟩ (.int .u8 (bits .xor .u8 (s.data[k].toNat : Int) (1 + (n : Int) % 255)))) ∧ sumB s'.data.toList ≠ sumB s.data.toList := by
  obtain ⟨d, hd, hne⟩ := xor_turn s.data[k] (1 + n % 255) (by omega) (by omega)
  rw [show (((1 + n % 255 : Nat)) : Int) = 1 + (n : Int) % 255 by omega] at hd
  rw [hd]
  have hl : s.data.toList.length = s.size := by simp
  refine ⟨⟨(s.data.toList.set k d).toArray⟩, ?_, by show (s.data.toList.set k d).toArray.size = _; simp, hb.setCell hg _, ?_⟩
  · have a0 : ∀ j, (⟨g, 0, none⟩ : Addr).add j = ⟨g, j, none⟩ := fun j => by unfold Addr.add; split <;> simp_all
    have h := run_convert_bytes_back (P := Try.prog) (W.setCell ⟨g, k, none⟩ (.int .u8 (d.toNat : Int))) 22 9 5 ⟨g, 0, none⟩ cap (s.data.toList.set k d) Try.underlying22 Try.underlying5 Try.underlying9 (fun j hj => by
      have hj' : j < s.size := by rw [List.length_set, hl] at hj; exact hj
      rw [a0]
      by_cases e : k = j
      · subst e
        rw [show (W.setCell ⟨g, k, none⟩ (.int .u8 (d.toNat : Int))).cell? ⟨g, k, none⟩ = some (.int .u8 (d.toNat : Int)) by apply World.cell?_setCell_same; exact hc k hk]
        simp
      · rw [show (W.setCell ⟨g, k, none⟩ (.int .u8 (d.toNat : Int))).cell? ⟨g, j, none⟩ = W.cell? ⟨g, j, none⟩ by apply World.cell?_setCell_other; intro e2; injection e2 with _ e3; exact e e3, hc j hj']
        simp [List.getElem_set_ne e])
    rwa [List.length_set, hl] at h
  · show sumB (s.data.toList.set k d) ≠ _
    exact sum_turned _ (by rw [hl]; exact hk) (by simpa using hne)

set_option maxRecDepth 100000 in
set_option maxHeartbeats 4000000 in
theorem sumLaw_any (A : Option Addr) (n c : Nat) (B : Option Addr) (m c' : Nat) (w : World) (h : IsBytes w w.heap.size A n c) (_h' : IsBytes w w.heap.size B m c') :
    Calls Try.prog 5 #[.slice A n c, .slice B m c'] w (BoolPost true w) := by
  have H := Lib.hid h; clear h
  go_enter Try.func5, Try.ntmps5
  go_wp2_with fail
  all_goals try (go_ret; exact ⟨rfl, Below.refl _ _⟩)
  refine (drawSum_any A n c _ H.out).mono ?_; rintro e w1 ⟨s, rfl, hs, hb1⟩
  have HB1 := Lib.hid hb1; clear hb1
  obtain ⟨S, hS⟩ : ∃ S, sumB s.data.toList = S := ⟨_, rfl⟩
  have HS := Lib.hid hS
  have hS1 : S < 1000003 := by rw [← hS]; exact sumB_lt _
  clear hS
  go_wp2_with fail
  refine (implSum_any s _ hs).mono ?_; rintro e w2 ⟨rfl, rfl⟩
  rw [HS.out]
  go_wp2_with fail
  refine (specSum_any s _ hs).mono ?_; rintro e w3 ⟨rfl, rfl⟩
  rw [HS.out]
  have hss : ((S : Int) != (S : Int)) = false := by simp
  go_wp2_with fail
  refine (implSum_any ⟨#[]⟩ _ (by decide)).mono ?_; rintro e w4 ⟨rfl, rfl⟩
  rw [show ((sumB (⟨#[]⟩ : ByteArray).data.toList : Nat) : Int) = 1 from rfl]
  have hn0 : ¬ (S : Int) < 0 := by omega
  have hn1 : ¬ (1000002 : Int) < (S : Int) := by omega
  by_cases h0 : s = ⟨#[]⟩
  · subst h0
    go_wp2_with fail
    refine (specSum_any ⟨#[]⟩ _ hs).mono ?_; rintro e w3 ⟨rfl, rfl⟩
    rw [HS.out]
    have hse : ((S : Int) == (S : Int)) = true := by simp
    go_wp2_with fail
    refine (implSum_any ⟨#[]⟩ _ (by decide)).mono ?_; rintro e w4 ⟨rfl, rfl⟩
    rw [show ((sumB (⟨#[]⟩ : ByteArray).data.toList : Nat) : Int) = 1 from rfl]
    go_wp2
    go_ret; exact ⟨by simp, HB1.out⟩
  · have he : (s.toList == []) = false := by
      cases hx : (s.toList == []) with
      | false => rfl
      | true => exact absurd (bytesEq (by have := eq_of_beq hx; rw [ByteArray.toList_eq] at this; exact this)) h0
    have hz : 0 < s.size := by
      refine Nat.pos_of_ne_zero fun e => h0 (bytesEq ?_)
      exact List.eq_nil_of_length_eq_zero (by simpa using e)
    obtain ⟨cap, W, hcv, hbW, hlW, hcW, hfW, hcap⟩ := bytes_apart w1 s
    obtain ⟨k, hk⟩ : ∃ k, m % s.size = k := ⟨_, rfl⟩
    have hks : k < s.size := by rw [← hk]; exact Nat.mod_lt _ hz
    have hrem : (m : Int).tmod (s.size : Int) = (k : Int) := by rw [← hk]; rfl
    have hszI : ¬ (s.size : Int) = 0 := by omega
    obtain ⟨s', hback, hs', hbV, hne⟩ := turned_back (cap := cap) (n := n) hbW (Nat.le_refl _) hcW hks
    have hs2 : s'.size ≤ maxLen := by rw [hs']; exact hs
    have hneI : ((sumB s'.data.toList : Nat) : Int) ≠ (S : Int) := by rw [← HS.out]; intro e; exact hne (by omega)
    go_wp2_with fail
    refine (implSum_any s' _ hs2).mono ?_; rintro e w5 ⟨rfl, rfl⟩
    have hnb : (((sumB s'.data.toList : Nat) : Int) != (S : Int)) = true := by simpa using hneI
    go_wp2
    go_ret; exact ⟨by simp, belowThen HB1.out hbV⟩

end Go.Proofs.Ytladamhhgleojaa
