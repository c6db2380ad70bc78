/-
  Drawing: the model's reader of a code, byte by byte: it picks a number below what it is asked for, and turns nothing but its own place.
  Drawing: words, variables, and atoms of them.
  Drawing: any atom, fine or not.
-/
import Derived.Test.YtcigljngiemdeaaGreatAo0
import Derived.Outline
import Derived.Deep.QuietTactic
import Derived.BigQuiet
import Derived.Laws.BitsAllLaws
import Derived.Laws.BitsLemmas
import Derived.Deep.RegionHeld3
import Derived.Deep.AppendLies
import Derived.Deep.RegionLaw
import Derived.Deep.LoopGhost
set_option maxRecDepth 100000
set_option maxHeartbeats 8000000
namespace Go.Proofs.YtcigljngiemdeaaGreat
open Go.RowKit
def IsBytes (w : World) (hi : Nat) (A : Option Addr) (n c : Nat) : Prop :=
  n ≤ c ∧ c ≤ maxLen ∧ (0 < n → ∃ q, A = some q ∧ q.block < hi ∧ ∀ k, k < n → ∃ v : Nat, v ≤ 255 ∧ w.cell? (q.add k) = some (.int .u8 (v : Int)))
def Rd (w : World) (b : Nat) (A : Option Addr) (n c p : Nat) : Prop :=
  b < w.heap.size ∧ w.cell? ⟨b, 0, none⟩ = some (.slice A n c) ∧ w.cell? ⟨b, 1, none⟩ = some (.int .i64 (p : Int)) ∧ w.frozen? ⟨b, 1, none⟩ = false ∧ IsBytes w b A n c ∧ ∃ T, w.heap[b]? = some (.cells #[.slice A n c, .int .i64 (p : Int)] T (0, 0))
def PickPost (m : Int) (b : Nat) (A : Option Addr) (n c p : Nat) (w : World) (e : Ending) (w' : World) : Prop :=
  ∃ k : Nat, (e = .returned (.int .i64 (k : Int)) ∧ (k = 0 ∨ (k : Int) < m)) ∧ Rd w' b A n c (p + 1) ∧ w.grownBy w' (some b)
theorem IsBytes.at_ {w : World} {hi : Nat} {A : Option Addr} {n c : Nat} (h : IsBytes w hi A n c) {k : Nat} (hk : k < n) : ∃ q, ∃ v : Nat, A = some q ∧ q.block < hi ∧ v ≤ 255 ∧ w.cell? (q.add k) = some (.int .u8 (v : Int)) := by
  obtain ⟨_, _, h3⟩ := h; obtain ⟨q, hq, hb, hc⟩ := h3 qaa; obtain ⟨v, hv, hc⟩ := hc k hk; exact ⟨q, v, hq, hb, hv, hc⟩
theorem IsBytes.keep {w w' : World} {hi : Nat} {A : Option Addr} {n c : Nat} (h : IsBytes w hi A n c) (hk : ∀ q : Addr, q.block < hi → w'.cell? q = w.cell? q) : IsBytes w' hi A n c := by
  obtain ⟨h1, h2, h3⟩ := h; refine ⟨h1, h2, fun hn => ?_⟩; obtain ⟨q, hq, hb, hc⟩ := h3 hn; refine ⟨q, hq, hb, fun k hk' => ?_⟩; obtain ⟨v, hv, hcell⟩ := hc k hk'; exact ⟨v, hv, (hk _ (by rw [block_add]; exact hb)).trans hcell⟩
theorem Rd.step {w : World} {b : Nat} {A : Option Addr} {n c p : Nat} (h : Rd w b A n c p) (j : Nat) : Rd ((w.setCell ⟨b, 1, none⟩ (.int .i64 ((p : Int) + 1))).drewN j) b A n c (p + 1) := by
  obtain ⟨h1, h2, h3, h4, h5, T, h6⟩ := h; refine ⟨by simpa [World.setCell] using h1, ?_, ?_, ?_, h5.keep fun q hq => ?_, T, by show (w.setCell ⟨b, 1, none⟩ _).heap[b]? = _; simp [World.setCell, Array.getElem?_modify, h6]⟩
  · show (w.setCell ⟨b, 1, none⟩ _).cell? ⟨b, 0, none⟩ = _
    rw [World.cell?_setCell_other _ _ _ _ qad]; exact h2
  · show (w.setCell ⟨b, 1, none⟩ _).cell? ⟨b, 1, none⟩ = _
    simp [go_sem, h3]
  · show (w.setCell ⟨b, 1, none⟩ _).frozen? ⟨b, 1, none⟩ = _
    simp [go_sem, h4]
  · show (w.setCell ⟨b, 1, none⟩ _).cell? q = _
    exact World.cell?_setCell_other _ _ _ _ qdf
theorem grown_step (w : World) (b : Nat) (v : Value) (j : Nat) : w.grownBy ((w.setCell ⟨b, 1, none⟩ v).drewN j) (some b) :=
  ⟨rfl, rfl, rfl, by simp [World.setCell], fun k _ hne => hs_ w ⟨b, 1, none⟩ v k (fun e => hne (by rw [e]))⟩
theorem retI64 {a b : Int} (h : a = b) : Ending.returned (.int .i64 a) = .returned (.int .i64 b) := by rw [h]
theorem rest_of (y m : Int) (hm : 1 ≤ m) : ∃ k : Nat, y % m = (k : Int) ∧ (k : Int) < m := by
  have h1 := Int.emod_nonneg y (show m ≠ 0 by omega); have h2 := Int.emod_lt_of_pos y (show 0 < m by omega); exact ⟨(y % m).toNat, by omega, by omega⟩
theorem bitsNat (a : Nat) (h : a < 9223372036854775808) : (BitVec.ofInt 64 (a : Int)).toNat = a := by
  rw [BitVec.ofInt_natCast, BitVec.toNat_ofNat]; exact Nat.mod_eq_of_lt qaa
theorem xorNat (a b : Nat) (ha : a < 9223372036854775808) (hb : b < 9223372036854775808) : ∃ y : Nat, bits .xor .i64 (a : Int) (b : Int) = (y : Int) := by
  refine ⟨a ^^^ b, ?_⟩; have hx : a ^^^ b < 2 ^ 63 := Nat.xor_lt_two_pow qaa qaa; show IntKind.i64.wrap ((BitVec.ofInt 64 (a : Int) ^^^ BitVec.ofInt 64 (b : Int)).toNat : Int) = _; rw [BitVec.toNat_xor, bitsNat a ha, bitsNat b hb, IntKind.wrap_i64]; omega
theorem mixed (x m : Int) (h0 : 0 ≤ x) (h1 : x < 4611686018427387904) (hm : 1 ≤ m) : ∃ k : Nat, (bits .xor .i64 x (x / 64)).tmod m = (k : Int) ∧ (k : Int) < m := by
  obtain ⟨a, rfl⟩ := Int.eq_ofNat_of_zero_le h0; obtain ⟨y, hy⟩ := xorNat a (a / 64) qaa qaa; have e : ((a : Int) / 64) = ((a / 64 : Nat) : Int) := qaa; rw [e, hy, Int.tmod_eq_emod_of_nonneg qaa]; exact rest_of _ _ hm
theorem pick_any (b : Nat) (A : Option Addr) (n c p : Nat) (m : Int) (w : World) (h : Rd w b A n c p) (hp : p ≤ 1099511627776) (hm : m ≤ 1048576) :
    Calls Tryz.prog 60 #[.pointer (some ⟨b, 0, none⟩), .int .i64 m] w (PickPost m b A n c p w) := by
  have H := hid h; obtain ⟨h1, h2, h3, h4, h5, _⟩ := h; have hn : n ≤ maxLen := by have := h5.1; have := h5.2.1; omega
  unfold maxLen at hn; clear h5; by_cases hm1 : m < 1
  · go_enter Tryz.func60, Tryz.ntmps60
    go_wp2; go_ret; exact ⟨0, ⟨rfl, .inl rfl⟩, H.out.step 0, grown_step _ _ _ 0⟩
  · by_cases hn0 : n = 0
    · have hn1 : ((n : Int) == 0) = true := by rw [beq_iff_eq]; omega
      have hmm : (1 : Int) ≤ m := qaa; clear hm1; have HN := hid hn0; clear hn0; go_enter Tryz.func60, Tryz.ntmps60; go_wp2; go_ret; exact ⟨0, ⟨rfl, .inl rfl⟩, H.out.step 0, grown_step _ _ _ 0⟩
    · have hn1 : ((n : Int) == 0) = false := by rw [beq_eq_false_iff_ne]; omega
      have hmm : (1 : Int) ≤ m := qaa; have hnp : 0 < n := qaa; clear hm1 hn0; by_cases hpn : p < n
      · obtain ⟨q, v, hA, hqb, hv, hc⟩ := H.out.2.2.2.2.1.at_ hpn
        subst hA; have hpn' : (p : Int) < (n : Int) := qaa; go_enter Tryz.func60, Tryz.ntmps60; have hc' : ∀ u, (w.setCell ⟨b, 1, none⟩ u).cell? (q.add p) = some (.int .u8 (v : Int)) := fun u => (World.cell?_setCell_other _ _ _ _ qbn).trans hc; go_wp2; go_ret; obtain ⟨k, hk, hk'⟩ := rest_of (v : Int) m hmm; exact ⟨k, ⟨retI64 hk, .inr hk'⟩, H.out.step 0, grown_step _ _ _ 0⟩
      · have hpn' : ¬ (p : Int) < (n : Int) := qaa
        obtain ⟨q, v, hA, hqb, hv, hc⟩ := H.out.2.2.2.2.1.at_ (k := p % n) (Nat.mod_lt _ hnp); obtain ⟨q', v', hA', _, hv', hc'⟩ := H.out.2.2.2.2.1.at_ (k := (p * 7 + 3) % n) (Nat.mod_lt _ hnp); subst hA; injection hA' with hA'; subst hA'; have fc : ∀ u, (w.setCell ⟨b, 1, none⟩ u).cell? (q.add (p % n)) = some (.int .u8 (v : Int)) := fun u => (World.cell?_setCell_other _ _ _ _ qbn).trans hc; have fc' : ∀ u, (w.setCell ⟨b, 1, none⟩ u).cell? (q.add ((p * 7 + 3) % n)) = some (.int .u8 (v' : Int)) := fun u => (World.cell?_setCell_other _ _ _ _ qbn).trans hc'; have e1 : (0 : Int) ≤ (p : Int) % (n : Int) := Int.emod_nonneg _ qaa
        have e2 : (p : Int) % (n : Int) < (n : Int) := Int.emod_lt_of_pos _ qaa; have e3 : ((p : Int) % (n : Int)).toNat = p % n := by rw [← Int.natCast_emod, Int.toNat_natCast]
        have e1' : (0 : Int) ≤ ((p : Int) * 7 + 3) % (n : Int) := Int.emod_nonneg _ qaa; have e2' : ((p : Int) * 7 + 3) % (n : Int) < (n : Int) := Int.emod_lt_of_pos _ qaa
        have e3' : (((p : Int) * 7 + 3) % (n : Int)).toNat = (p * 7 + 3) % n := by
          rw [show ((p : Int) * 7 + 3) % (n : Int) = (((p * 7 + 3) % n : Nat) : Int) by rw [Int.natCast_emod]; simp, Int.toNat_natCast]
        have d1 : (0 : Int) ≤ (p : Int) / (n : Int) := Int.ediv_nonneg qaa qaa; have d2 : (p : Int) / (n : Int) ≤ (p : Int) := Int.ediv_le_self _ qaa; go_enter Tryz.func60, Tryz.ntmps60; go_wp2; go_quiet (fail); go_wp2; go_ret; have hX : (0 : Int) ≤ (v : Int) * 131 + (v' : Int) * 1117 + (p : Int) * 29 + (p : Int) / (n : Int) * 53 := qaa; have hX1 : (v : Int) * 131 + (v' : Int) * 1117 + (p : Int) * 29 + (p : Int) / (n : Int) * 53 < 4611686018427387904 := qaa; obtain ⟨k, hk, hk'⟩ := mixed _ m hX hX1 hmm; exact ⟨k, ⟨retI64 hk, .inr hk'⟩, H.out.step _, grown_step _ _ _ _⟩
theorem Rd.below {w w' : World} {b : Nat} {A : Option Addr} {n c p : Nat} (h : Rd w b A n c p) (hb : Below w.heap.size w w') : Rd w' b A n c p := by
  obtain ⟨h1, h2, h3, h4, h5, T, h6⟩ := h; exact ⟨Nat.lt_of_lt_of_le h1 hb.size, (hb.cell (p := ⟨b, 0, none⟩) h1).trans h2, (hb.cell (p := ⟨b, 1, none⟩) h1).trans h3, (hb.frozen (p := ⟨b, 1, none⟩) h1).trans h4, h5.keep fun q hq => hb.cell qaa, T, (hb.block b h1).trans h6⟩
def strOk (q : ByteArray → Bool) (v : Value) : Bool := match v with
  | .string s => q s
  | _ => false
theorem laid (q : ByteArray → Bool) (w : World) (cs : Array Value) (t : TypeId) (h : cs.toList.all (strOk q) = true) : ∀ i, i < cs.size → ∃ s, (w.alloc (.cells cs t)).cell? ⟨w.heap.size, i, none⟩ = some (.string s) ∧ q s = true := by
  intro i hi; have hv := List.all_eq_true.1 h cs[i] qad; have hc : (w.alloc (.cells cs t)).cell? ⟨w.heap.size, i, none⟩ = some cs[i] := by simp [go_sem, hi]
  unfold strOk at hv; split at hv
  · rename_i s hs
    exact ⟨s, by rw [hc, hs], hv⟩
  · simp at hv
def OfPost (Q : ByteArray → Prop) (b : Nat) (A : Option Addr) (n c p : Nat) (w : World) (e : Ending) (w' : World) : Prop :=
  ∃ s : ByteArray, (e = .returned (.string s) ∧ Q s) ∧ Rd w' b A n c (p + 1) ∧ w.grownBy w' (some b)
theorem of_any (Q : ByteArray → Prop) (b g m : Nat) (A : Option Addr) (n c p : Nat) (w : World) (h : Rd w b A n c p) (hp : p ≤ 1099511627776) (hm : 0 < m) (hm' : m ≤ 1048576) (hg : g ≠ b)
    (hl : ∀ i, i < m → ∃ s, w.cell? ⟨g, i, none⟩ = some (.string s) ∧ Q s) :
    Calls Tryz.prog 111 #[.pointer (some ⟨b, 0, none⟩), .slice (some ⟨g, 0, none⟩) m m] w (OfPost Q b A n c p w) := by
  have HL := hid hl; clear hl; go_enter Tryz.func111, Tryz.ntmps111; go_wp2_with fail; refine (pick_any b A n c p _ _ h hp qaa).mono ?_; rintro e w1 ⟨k, ⟨rfl, hk⟩, hr1, hg1⟩; have hkm : k < m := qaa; clear hk; obtain ⟨s, hs, hq⟩ := HL.out k hkm; have hs1 : w1.cell? ⟨g, k, none⟩ = some (.string s) := hg1.cell hs (by simp [hg]); have hk0 : (0 : Int) ≤ (k : Int) := qaa; have hk1 : (k : Int) < (m : Int) := qaa; go_wp2; go_ret; exact ⟨s, ⟨rfl, hq⟩, hr1, hg1⟩
theorem of_laid (q : ByteArray → Bool) (b m : Nat) (A : Option Addr) (n c p : Nat) (w : World) (cs : Array Value) (t : TypeId) (h : Rd w b A n c p) (hp : p ≤ 1099511627776) (hc : cs.size = m) (hm : 0 < m) (hm' : m ≤ 1048576) (hq : cs.toList.all (strOk q) = true) :
    Calls Tryz.prog 111 #[.pointer (some ⟨b, 0, none⟩), .slice (some ⟨w.heap.size, 0, none⟩) m m] (w.alloc (.cells cs t)) (OfPost (fun s => q s = true) b A n c p (w.alloc (.cells cs t))) :=
  of_any _ b _ m A n c p _ (h.below (below1 _ _)) hp hm hm' (fun e => by have := h.1; omega) (fun i hi => laid q w cs t hq i qaa)
def OpenPost (A : Option Addr) (c : Nat) (w : World) (e : Ending) (w' : World) : Prop :=
  ∃ b n', (e = .returned (.pointer (some ⟨b, 0, none⟩)) ∧ w.heap.size ≤ b) ∧ Rd w' b A n' c 0 ∧ Below w.heap.size w w'
theorem IsBytes.less {w : World} {hi : Nat} {A : Option Addr} {n n' c : Nat} (h : IsBytes w hi A n c) (hn : n' ≤ n) : IsBytes w hi A n' c := by
  obtain ⟨h1, h2, h3⟩ := h; refine ⟨by omega, h2, fun h0 => ?_⟩; obtain ⟨q, hq, hb, hc⟩ := h3 qaa; exact ⟨q, hq, hb, fun k hk => hc k qaa⟩
theorem Rd.new {w : World} {A : Option Addr} {n c : Nat} (h : IsBytes w w.heap.size A n c) (t : TypeId) : Rd (w.alloc (.cells #[.slice A n c, .int .i64 0] t)) w.heap.size A n c 0 := by
  refine ⟨by simp, ?_, ?_, ?_, h.keep fun q hq => World.cell?_alloc_lt w _ q hq, t, by unfold World.alloc; simp⟩ <;> simp [go_sem]
theorem open_any (A : Option Addr) (n c : Nat) (w : World) (h : IsBytes w w.heap.size A n c) :
    Calls Tryz.prog 58 #[.slice A n c] w (OpenPost A c w) := by
  have hn : n ≤ maxLen := qcs; have hc : n ≤ c := h.1; have hc' : c ≤ maxLen := h.2.1; unfold maxLen at hn hc'; have H := hid h; clear h; by_cases hb : 2000 < (n : Int)
  · go_enter Tryz.func58, Tryz.ntmps58
    go_wp2; go_ret; exact ⟨_, 2000, ⟨rfl, nl _⟩, Rd.new (H.out.less qaa) _, below1 _ _⟩
  · go_enter Tryz.func58, Tryz.ntmps58
    go_wp2; go_ret; exact ⟨_, n, ⟨rfl, nl _⟩, Rd.new H.out _, below1 _ _⟩
end Go.Proofs.YtcigljngiemdeaaGreat
namespace Go.Proofs.YtcigljngiemdeaaGreat
open Go.RowKit
theorem grownTrans {a b c : World} {row : Option Nat} (h : a.grownBy b row) (k : b.grownBy c row) : a.grownBy c row :=
  ⟨k.os.trans h.os, k.tape.trans h.tape, k.output.trans h.output, Nat.le_trans h.size k.size, fun i hi hne => (k.block i (Nat.lt_of_lt_of_le hi h.size) hne).trans (h.block i hi hne)⟩
theorem grownOther {a b : World} {row row' : Option Nat} {B : Nat} (h : b.grownBy a row') (hB : B ≤ b.heap.size) (hr : ∀ g, row' = some g → B ≤ g) {o : World} (k : o.grownBy b row) (ho : o.heap.size ≤ B) : o.grownBy a row :=
  ⟨h.os.trans k.os, h.tape.trans k.tape, h.output.trans k.output, Nat.le_trans k.size h.size, fun i hi hne => (h.block i qaa (fun e => by have := hr i e.symm; omega)).trans (k.block i hi hne)⟩
def WordPost (b : Nat) (A : Option Addr) (n c p : Nat) (w : World) (e : Ending) (w' : World) : Prop :=
  ∃ s : ByteArray, (e = .returned (.string s) ∧ s.size ≤ 16) ∧ Rd w' b A n c (p + 1) ∧ w.grownBy w' (some b)
theorem word_draw (b : Nat) (A : Option Addr) (n c p : Nat) (w : World) (h : Rd w b A n c p) (hp : p ≤ 1099511627776) :
    Calls Tryz.prog 154 #[.pointer (some ⟨b, 0, none⟩)] w (WordPost b A n c p w) := by
  go_enter Tryz.func154, Tryz.ntmps154; go_wp2_with fail; refine (of_laid (fun s => decide (s.size ≤ 16)) b _ A n c p w _ _ h hp qab qaa qaa qab).mono ?_; rintro e w2 ⟨s, ⟨rfl, hs⟩, hr2, hg2⟩; go_wp2; go_ret; exact ⟨s, ⟨rfl, by simpa using hs⟩, hr2, grownTrans (grownBelow (below1 _ _) _) hg2⟩
theorem var_draw (b : Nat) (A : Option Addr) (n c p : Nat) (w : World) (h : Rd w b A n c p) (hp : p ≤ 1099511627776) :
    Calls Tryz.prog 153 #[.pointer (some ⟨b, 0, none⟩)] w (WordPost b A n c p w) := by
  go_enter Tryz.func153, Tryz.ntmps153; go_wp2_with fail; refine (of_laid (fun s => decide (s.size ≤ 16)) b _ A n c p w _ _ h hp qab qaa qaa qab).mono ?_; rintro e w2 ⟨s, ⟨rfl, hs⟩, hr2, hg2⟩; go_wp2; go_ret; exact ⟨s, ⟨rfl, by simpa using hs⟩, hr2, grownTrans (grownBelow (below1 _ _) _) hg2⟩
def ArgsPost (w : World) (e : Ending) (w' : World) : Prop := (∃ k : Nat, e = .returned (.int .i64 (k : Int)) ∧ k ≤ 3) ∧ w = w'
theorem args_any (s : ByteArray) (w : World) : Calls Tryz.prog 152 #[.string s] w (ArgsPost w) := by
  go_enter Tryz.func152, Tryz.ntmps152; go_wp2
  all_goals (go_ret; first | exact ⟨⟨2, rfl, by omega⟩, rfl⟩ | exact ⟨⟨0, rfl, by omega⟩, rfl⟩ | exact ⟨⟨3, rfl, by omega⟩, rfl⟩ | exact ⟨⟨1, rfl, by omega⟩, rfl⟩)
def tmCells (ts : List Tm) : List Value := ts.flatMap fun t => [.bool t.1, .string t.2]
theorem tmCells_snoc (ts : List Tm) (t : Tm) : tmCells (ts ++ [t]) = tmCells ts ++ [.bool t.1, .string t.2] := by simp [tmCells]
theorem tmCells_at : ∀ (ts : List Tm) (i : Nat) (t : Tm), ts[i]? = some t → (tmCells ts)[i * 2]? = some (.bool t.1) ∧ (tmCells ts)[i * 2 + 1]? = some (.string t.2)
  | [], i, t, h => by simp at h
  | x :: r, 0, t, h => by
    simp at h; subst h
    exact ⟨rfl, rfl⟩
  | x :: r, i + 1, t, h => by
    have h' : r[i]? = some t := qbd; obtain ⟨h1, h2⟩ := tmCells_at r i t h'; have e : tmCells (x :: r) = [.bool x.1, .string x.2] ++ tmCells r := rfl; rw [e, show (i + 1) * 2 = i * 2 + 2 by omega, show i * 2 + 2 + 1 = (i * 2 + 1) + 2 by omega]; exact ⟨h1, h2⟩
theorem owned_terms {w : World} {base : Nat} {v : Value} {n : Nat} {ts : List Tm} (h : w.ownsRow base 59 2 v n (tmCells ts)) (hn : ts.length = n) (hs : ∀ t ∈ ts, t.2.size ≤ 16) :
    ∃ A c, v = .slice A n c ∧ IsTerms w base w.heap.size A n c ts := by
  rcases h.2 with ⟨rfl, rfl⟩ | ⟨g, cap, cur, rfl, hg, hh, hnc, hcm, _, _⟩
  · exact ⟨none, 0, rfl, hn, nl _, Nat.zero_le _, fun h0 => absurd h0 qaa⟩
  · refine ⟨_, cap, rfl, hn, hnc, hcm, fun h0 => ⟨_, rfl, hg, (h.lt g rfl).2, fun i t ht => ?_⟩⟩
    obtain ⟨h1, h2⟩ := tmCells_at ts i t ht; have hc := h.cells (g := g) rfl; exact ⟨hc _ _ h1, hc _ _ h2, by have := hs t (List.mem_of_getElem? ht); unfold maxLen; omega⟩
abbrev Nm (s : ByteArray) : Prop := s.size ≤ 16 ∧ s.data.toList ≠ [122, 122, 122]
def nmB (s : ByteArray) : Bool := decide (s.size ≤ 16) && !(s.data.toList == [122, 122, 122])
theorem nm_of {s : ByteArray} (h : nmB s = true) : Nm s := by
  unfold nmB at h; simp only [Bool.and_eq_true, decide_eq_true_eq, Bool.not_eq_true', beq_eq_false_iff_ne, ne_eq] at h; exact h
def AtomDraw (j s : Nat) (b : Nat) (A : Option Addr) (n c p : Nat) (w : World) (e : Ending) (w' : World) : Prop :=
  ∃ (nm : ByteArray) (A' : Option Addr) (k d : Nat) (ts : List Tm) (p' : Nat), (e = .returned (.agg #[.string nm, .slice A' k d]) ∧ Nm nm ∧ k ≤ j ∧ p' ≤ p + s) ∧ ts.length = k ∧ (∀ t ∈ ts, t.2.size ≤ 16) ∧
    w'.ownsRow w.heap.size 59 2 (.slice A' k d) k (tmCells ts) ∧ Rd w' b A n c p' ∧ w.grownBy w' (some b)
theorem ownsLess {w : World} {base base' : Nat} {e : TypeId} {size n : Nat} {v : Value} {xs : List Value} (h : w.ownsRow base e size v n xs) (hb : base' ≤ base) : w.ownsRow base' e size v n xs := by
  refine ⟨h.1, ?_⟩; rcases h.2 with hn | ⟨g, cap, cur, hv, hg, rest⟩
  · exact .inl hn
  · exact .inr ⟨g, cap, cur, hv, by omega, rest⟩
def Bx (w : World) (x : Nat) (u v : Value) : Prop := x < w.heap.size ∧ w.cell? ⟨x, 0, none⟩ = some u ∧ w.cell? ⟨x, 1, none⟩ = some v ∧ w.frozen? ⟨x, 0, none⟩ = false ∧ w.frozen? ⟨x, 1, none⟩ = false
theorem Bx.new (w : World) (u v : Value) (t : TypeId) : Bx (w.alloc (.cells #[u, v] t)) w.heap.size u v := by
  refine ⟨by simp, ?_, ?_, ?_, ?_⟩ <;> simp [go_sem]
theorem Bx.grown {a b : World} {x : Nat} {u v : Value} {row : Option Nat} (h : Bx a x u v) (hg : a.grownBy b row) (hne : some x ≠ row) : Bx b x u v := by
  obtain ⟨h1, h2, h3, h4, h5⟩ := h; exact ⟨Nat.lt_of_lt_of_le h1 hg.size, (hg.cell_far _ h1 hne).trans h2, (hg.cell_far _ h1 hne).trans h3, (hg.frozen_far _ h1 hne).trans h4, (hg.frozen_far _ h1 hne).trans h5⟩
theorem Bx.set1 {a : World} {x : Nat} {u v : Value} (h : Bx a x u v) (v' : Value) : Bx (a.setCell ⟨x, 1, none⟩ v') x u v' := by
  obtain ⟨h1, h2, h3, h4, h5⟩ := h; refine ⟨by rw [size_setCell]; exact h1, ?_, ?_, ?_, ?_⟩
  · rw [World.cell?_setCell_other _ _ _ _ qad]; exact h2
  · simp [go_sem, h3]
  · simp [go_sem, h4]
  · simp [go_sem, h5]
theorem Bx.other {a : World} {x : Nat} {u v : Value} (h : Bx a x u v) {q : Addr} (hq : x ≠ q.block) (y : Value) : Bx (a.setCell q y) x u v := by
  obtain ⟨h1, h2, h3, h4, h5⟩ := h; have hc : ∀ j, (⟨x, j, none⟩ : Addr) ≠ q := fun j e => hq (by rw [← e]); refine ⟨by rw [size_setCell]; exact h1, ?_, ?_, ?_, ?_⟩
  · rw [World.cell?_setCell_other _ _ _ _ qdf]; exact h2
  · rw [World.cell?_setCell_other _ _ _ _ qdf]; exact h3
  · simpa [go_sem] using h4
  · simpa [go_sem] using h5
def Drawing (b : Nat) (A : Option Addr) (n c p : Nat) (w0 : World) (nm : ByteArray) (k : Nat) (w : World) : Prop :=
  ∃ (v : Value) (len : Nat) (ts : List Tm) (p' : Nat), (len + k ≤ 3 ∧ p' ≤ p + 2 * len) ∧ ts.length = len ∧ (∀ t ∈ ts, t.2.size ≤ 16) ∧ w.ownsRow (w0.heap.size + 2) 59 2 v len (tmCells ts) ∧
    Bx w w0.heap.size (.string ⟨#[]⟩) (.slice none 0 0) ∧ Bx w (w0.heap.size + 1) (.string nm) v ∧ Rd w b A n c p' ∧ w0.grownBy w (some b)
theorem Rd.grown {w w' : World} {b : Nat} {A : Option Addr} {n c p : Nat} {row : Option Nat} (h : Rd w b A n c p) (hg : w.grownBy w' row) (hne : ∀ g, row = some g → b < g) : Rd w' b A n c p := by
  obtain ⟨h1, h2, h3, h4, h5, T, h6⟩ := h; have hb : some b ≠ row := fun e => by have := hne b e.symm; omega
  exact ⟨Nat.lt_of_lt_of_le h1 hg.size, (hg.cell_far _ h1 hb).trans h2, (hg.cell_far _ h1 hb).trans h3, (hg.frozen_far _ h1 hb).trans h4, h5.keep fun q hq => hg.cell_far q qaa (fun e => by have := hne _ e.symm; omega), T, (hg.block b h1 hb).trans h6⟩
theorem ungrown {a b : World} {row : Option Nat} (h : a.drew.grownBy b row) : a.grownBy b row := ⟨h.os, h.tape, h.output, h.size, h.block⟩
theorem ownNe {w : World} {base : Nat} {e : TypeId} {size n b : Nat} {v : Value} {xs : List Value} (h : w.ownsRow base e size v n xs) (hb : b < base) : v.ownBlock = none ∨ v.ownBlock ≠ some b := by
  right; intro he; have := (h.lt b he).1; omega
theorem ownFar {w : World} {base : Nat} {e : TypeId} {size n b : Nat} {v : Value} {xs : List Value} (h : w.ownsRow base e size v n xs) (hb : b < base) : some b ≠ v.ownBlock := by
  intro he; have := (h.lt b he.symm).1; omega
theorem Tryz.infoTm : (Tryz.prog.info? 59).map (fun i => (i.zero, i.size, i.bytes)) = some (some (.agg #[.bool false, .string ByteArray.empty]), 2, 24) := by kernel_rfl
theorem Rd.set {w : World} {b : Nat} {A : Option Addr} {n c p : Nat} (h : Rd w b A n c p) {q : Addr} (hq : b < q.block) (y : Value) : Rd (w.setCell q y) b A n c p := by
  obtain ⟨h1, h2, h3, h4, h5, T, h6⟩ := h; refine ⟨by rw [size_setCell]; exact h1, ?_, ?_, ?_, h5.keep fun a ha => World.cell?_setCell_other _ _ _ _ (fun e => by subst e; omega), T, (hs_ _ _ _ b qaa).trans h6⟩
  · rw [World.cell?_setCell_other _ _ _ _ qdf]; exact h2
  · rw [World.cell?_setCell_other _ _ _ _ qdf]; exact h3
  · simpa [go_sem] using h4
theorem Drawing.next {b : Nat} {A A' : Option Addr} {n c p p' q' len k d gg cap : Nat} {w w1 w3 : World} {nm s : ByteArray} {x : Bool} {ts : List Tm} {o : Obj} (hbw : b < w.heap.size)
    (hl : ts.length = len) (hs : ∀ t ∈ ts, t.2.size ≤ 16) (hk : len + k ≤ 3) (hk0 : 0 < k) (hp : p' ≤ p + 2 * len) (hq : q' ≤ p' + 2) (hss : s.size ≤ 16)
    (HO1 : w1.ownsRow (w.heap.size + 2) 59 2 (.slice A' len d) len (tmCells ts))
    (hown3 : w3.ownsRow (w.heap.size + 2) 59 2 (.slice (some ⟨gg, 0, none⟩) (len + 1) cap) (len + 1) (tmCells ts ++ [.bool x, .string s]))
    (hgrow : (w1.alloc o).grownBy w3 (Value.slice A' len d).ownBlock)
    (RB1 : Bx w1 w.heap.size (.string ⟨#[]⟩) (.slice none 0 0)) (XB1 : Bx w1 (w.heap.size + 1) (.string nm) (.slice A' len d)) (hrd1 : Rd w1 b A n c q') (GG1 : w.grownBy w1 (some b)) :
    Drawing b A n c p w nm (k - 1) (w3.setCell ⟨w.heap.size + 1, 1, none⟩ (.slice (some ⟨gg, 0, none⟩) (len + 1) cap)) := by
  have hal := grownBelow (below1 w1 o) none; have far : ∀ g, (Value.slice A' len d).ownBlock = some g → w.heap.size + 2 ≤ g := fun g hg => (HO1.lt g hg).1; have hsz := XB1.1; refine ⟨.slice (some ⟨gg, 0, none⟩) (len + 1) cap, len + 1, ts ++ [(x, s)], q', ⟨by omega, by omega⟩, by simp [hl], ?_, ?_, ?_, ?_, ?_, ?_⟩
  · intro t ht
    rcases List.mem_append.1 ht with ht | ht
    · exact hs t ht
    · rw [List.mem_singleton.1 ht]; exact hss
  · rw [tmCells_snoc]
    exact ownsRow_setCell_below hown3 qad _
  · exact ((RB1.grown hal qad).grown hgrow (fun e => by have := far _ e.symm; omega)).other qad _
  · exact ((XB1.grown hal qad).grown hgrow (fun e => by have := far _ e.symm; omega)).set1 _
  · exact ((hrd1.grown hal qad).grown hgrow qdk).set qaf _
  · have h1 : w.grownBy w3 (some b) := grownOther hgrow (B := w.heap.size + 2) qaf far (grownTrans GG1 (grownBelow (below1 w1 o) _)) qaa
    exact ⟨h1.os, h1.tape, h1.output, by rw [size_setCell]; exact h1.size, fun i hi hne => (hs_ _ _ _ i qaf).trans (h1.block i hi hne)⟩
theorem atom_draw (b : Nat) (A : Option Addr) (n c p : Nat) (nm : ByteArray) (vars : Bool) (w : World) (h : Rd w b A n c p) (hp : p ≤ 1000000) (hnm : Nm nm) :
    Calls Tryz.prog 112 #[.pointer (some ⟨b, 0, none⟩), .string nm, .bool vars] w (AtomDraw 3 6 b A n c p w) := by
  have H := hid h; clear h; go_enter Tryz.func112, Tryz.ntmps112; go_wp2_with fail; refine (args_any _ _).mono ?_; rintro e w1 ⟨⟨k, rfl, hk⟩, rfl⟩; go_wp2_with fail; have hR := Bx.new w (.string ⟨#[]⟩) (.slice none 0 0) 49; have hR1 := hid (hR.grown (grownBelow (below1 _ (.cells #[.string nm, .slice none 0 0] 49)) none) qad); clear hR; have hX := Bx.new (w.alloc (.cells #[.string ⟨#[]⟩, .slice none 0 0] 49)) (.string nm) (.slice none 0 0) 49
  rw [size_alloc_eq] at hX; have HX := hid hX; clear hX; obtain ⟨i0, hi, hz, hsz, hby⟩ := info_parts Tryz.infoTm; have HI := hid hi; have HZ := hid hz; have HS := hid hsz; have HY := hid hby; clear hi hz hsz hby; have hbw : b < w.heap.size := H.out.1; go_loopw [8] (fun i wr => ∃ k : Nat, k ≤ 3 ∧ i = .int .i64 k ∧ Drawing b A n c p w nm k wr) (fun i _ => (intOf i).toNat)
  case atStart => exact ⟨k, hk, rfl, .slice none 0 0, 0, [], p, ⟨by omega, by omega⟩, rfl, fun t ht => by simp at ht, World.ownsRow_nil _ _ _ _, hR1.out, HX.out, H.out.below (below2 _ _ _), grownBelow (below2 _ _ _) _⟩
  case round =>
    obtain ⟨k, hk, rfl, v, len, ts, p', ⟨hl1, hp'⟩, hlen, hs, hown, hr, hx, hrd, hg⟩ := hrel; obtain ⟨A', d, rfl, hT⟩ := owned_terms hown hlen hs; have HT := hid hT; clear hT; have HL := hid hlen; clear hlen; have HO := hid hown; clear hown; have HG := hid hg; clear hg; have HSM := hid hs; clear hs; have HRD := hid hrd; clear hrd; have HRB := hid hr; clear hr; have HXB := hid hx; obtain ⟨x1, x2, x3, x4, x5⟩ := hx; by_cases hlt : 0 < k
    · cases vars
      · have HRDd := hid (show Rd wr.drew b A n c p' from HRD.out)
        go_wp2_with fail
        go_region_law (first
          | (refine step_append_lies _ qab _ _ _ qab (w.heap.size + 2) 59 i0 _ 2 24 Tryz.underlying47 HI.out HZ.out HS.out HY.out rfl qaa (.slice A' len d) len (tmCells ts) qab (HO1.out.alloc _) ⟨w1.heap.size, 0, none⟩ 1 1 [.bool false, .string s] qab qab (World.news_of_block (cs := #[.bool false, .string s]) (t := 59) (fr := (0, 0)) (heap_alloc_new w1 _)) qai qaa qac qaa (by have := XB1.1; simp; omega) (w1.heap.size + 1) qad ?_; intro gg cap w3 hown3 hgrow hat hlt3; have XB3 := XB2.grown hgrow (ownFar HO1.out qaa); have z3 := XB3.2.2.1; have z5 := XB3.2.2.2.2)
          | ((go_simp; go_at_call 154; refine (word_draw b A n c _ _ HRDd.out qaa).mono ?_); rintro e w1 ⟨s, ⟨rfl, hss⟩, hrd1, hg1'⟩; have hg1 : World.grownBy wr w1 (some b) := ungrown hg1'; clear hg1'; have XB1 := HXB.out.grown hg1 qaf; have y3 := XB1.2.2.1; have y2 := XB1.2.1; have RB1 := HRB.out.grown hg1 qaf; have HO1 := hid (World.ownsRow.kept (w' := w1) HO.out hg1 (ownNe HO.out qaa)); have GG1 := grownTrans HG.out hg1; have XB2 := XB1.grown (grownBelow (below1 w1 (.cells #[.bool false, .string s] 59)) none) qad; have yy3 := XB2.2.2.1))
        all_goals go_wp2
        all_goals
          go_roundw
          case rel => exact ⟨k - 1, by omega, by rw [show ((k - 1 : Nat) : Int) = (k : Int) - 1 by omega], Drawing.next hbw HL.out HSM.out hl1 hlt hp' qaa hss HO1.out hown3 hgrow RB1 XB1 hrd1 GG1⟩
          case measure => exact qms
      · go_wp2_with fail
        refine (pick_any b A n c p' _ wr HRD.out qaa qaa).mono ?_; rintro e wp ⟨kk, ⟨rfl, hkk⟩, hrdp, hgp⟩; clear hkk x1 x2 x3 x4 x5; have HRDdp := hid (show Rd wp.drew b A n c (p' + 1) from hrdp); have HXBp := hid (HXB.out.grown hgp qaf); have HRBp := hid (HRB.out.grown hgp qaf); have HOp := hid (World.ownsRow.kept (w' := wp) HO.out hgp (ownNe HO.out qaa)); have HGp := hid (grownTrans HG.out hgp); clear hrdp hgp; obtain ⟨x1, x2, x3, x4, x5⟩ := HXBp.out; by_cases h0 : 0 < kk
        · go_wp2_with fail
          go_region_law (first
            | (refine step_append_lies _ qab _ _ _ qab (w.heap.size + 2) 59 i0 _ 2 24 Tryz.underlying47 HI.out HZ.out HS.out HY.out rfl qaa (.slice A' len d) len (tmCells ts) qab (HO1.out.alloc _) ⟨w1.heap.size, 0, none⟩ 1 1 [.bool true, .string s] qab qab (World.news_of_block (cs := #[.bool true, .string s]) (t := 59) (fr := (0, 0)) (heap_alloc_new w1 _)) qai qaa qac qaa (by have := XB1.1; simp; omega) (w1.heap.size + 1) qad ?_; intro gg cap w3 hown3 hgrow hat hlt3; have XB3 := XB2.grown hgrow (ownFar HO1.out qaa); have z3 := XB3.2.2.1; have z5 := XB3.2.2.2.2)
            | ((go_simp; go_at_call 153; refine (var_draw b A n c _ _ HRDdp.out qaa).mono ?_); rintro e w1 ⟨s, ⟨rfl, hss⟩, hrd1, hg1'⟩; have hg1 : World.grownBy wp w1 (some b) := ungrown hg1'; clear hg1'; have XB1 := HXBp.out.grown hg1 qaf; have y3 := XB1.2.2.1; have y2 := XB1.2.1; have RB1 := HRBp.out.grown hg1 qaf; have HO1 := hid (World.ownsRow.kept (w' := w1) HOp.out hg1 (ownNe HOp.out qaa)); have GG1 := grownTrans HGp.out hg1; have XB2 := XB1.grown (grownBelow (below1 w1 (.cells #[.bool true, .string s] 59)) none) qad; have yy3 := XB2.2.2.1))
          all_goals go_wp2
          all_goals
            go_roundw
            case rel => exact ⟨k - 1, by omega, by rw [show ((k - 1 : Nat) : Int) = (k : Int) - 1 by omega], Drawing.next hbw HL.out HSM.out hl1 hlt hp' qaa hss HO1.out hown3 hgrow RB1 XB1 hrd1 GG1⟩
            case measure => exact qms
        · go_wp2_with fail
          go_region_law (first
            | (refine step_append_lies _ qab _ _ _ qab (w.heap.size + 2) 59 i0 _ 2 24 Tryz.underlying47 HI.out HZ.out HS.out HY.out rfl qaa (.slice A' len d) len (tmCells ts) qab (HO1.out.alloc _) ⟨w1.heap.size, 0, none⟩ 1 1 [.bool false, .string s] qab qab (World.news_of_block (cs := #[.bool false, .string s]) (t := 59) (fr := (0, 0)) (heap_alloc_new w1 _)) qai qaa qac qaa (by have := XB1.1; simp; omega) (w1.heap.size + 1) qad ?_; intro gg cap w3 hown3 hgrow hat hlt3; have XB3 := XB2.grown hgrow (ownFar HO1.out qaa); have z3 := XB3.2.2.1; have z5 := XB3.2.2.2.2)
            | ((go_simp; go_at_call 154; refine (word_draw b A n c _ _ HRDdp.out qaa).mono ?_); rintro e w1 ⟨s, ⟨rfl, hss⟩, hrd1, hg1'⟩; have hg1 : World.grownBy wp w1 (some b) := ungrown hg1'; clear hg1'; have XB1 := HXBp.out.grown hg1 qaf; have y3 := XB1.2.2.1; have y2 := XB1.2.1; have RB1 := HRBp.out.grown hg1 qaf; have HO1 := hid (World.ownsRow.kept (w' := w1) HOp.out hg1 (ownNe HOp.out qaa)); have GG1 := grownTrans HGp.out hg1; have XB2 := XB1.grown (grownBelow (below1 w1 (.cells #[.bool false, .string s] 59)) none) qad; have yy3 := XB2.2.2.1))
          all_goals go_wp2
          all_goals
            go_roundw
            case rel => exact ⟨k - 1, by omega, by rw [show ((k - 1 : Nat) : Int) = (k : Int) - 1 by omega], Drawing.next hbw HL.out HSM.out hl1 hlt hp' qaa hss HO1.out hown3 hgrow RB1 XB1 hrd1 GG1⟩
            case measure => exact qms
    · obtain ⟨r1, r2, r3, r4, r5⟩ := HRB.out
      go_wp2; have hrow := HG.out; refine bodyPost_ret (v := .agg #[.string nm, .slice A' len d]) (by simp [results, Tryz.results112, go_sem, r2, r3]) rfl ⟨nm, A', len, d, ts, p', ⟨rfl, hnm, by omega, by omega⟩, HL.out, HSM.out, ?_, ?_, ?_⟩
      · exact ownsLess (ownsRow_setCell_below (ownsRow_setCell_below HO.out qad _) qad _) qaa
      · exact (HRD.out.set qaf _).set qaf _
      · exact ⟨hrow.os, hrow.tape, hrow.output, by rw [size_setCell, size_setCell]; exact hrow.size, fun i hi hne => ((hs_ _ _ _ i qaf).trans (hs_ _ _ _ i qaf)).trans (hrow.block i hi hne)⟩
end Go.Proofs.YtcigljngiemdeaaGreat
namespace Go.Proofs.YtcigljngiemdeaaGreat
open Go.RowKit
theorem of_laidAt (q : ByteArray → Bool) (g b m : Nat) (A : Option Addr) (n c p : Nat) (w : World) (cs : Array Value) (t : TypeId) (hg : w.heap.size = g) (h : Rd w b A n c p) (hp : p ≤ 1099511627776) (hc : cs.size = m) (hm : 0 < m) (hm' : m ≤ 1048576) (hq : cs.toList.all (strOk q) = true) :
    Calls Tryz.prog 111 #[.pointer (some ⟨b, 0, none⟩), .slice (some ⟨g, 0, none⟩) m m] (w.alloc (.cells cs t)) (OfPost (fun s => q s = true) b A n c p (w.alloc (.cells cs t))) := by
  subst hg; exact of_laid q b m A n c p w cs t h hp hc hm hm' hq
theorem Rd.drawn {w : World} {b : Nat} {A : Option Addr} {n c p : Nat} (h : Rd w b A n c p) : Rd w.drew b A n c p := h
theorem laidKept (q : ByteArray → Bool) {w w' : World} {b m : Nat} {cs : Array Value} {t : TypeId} (hm : cs.size = m) (hq : cs.toList.all (strOk q) = true) (hg : (w.alloc (.cells cs t)).grownBy w' (some b)) (hb : w.heap.size ≠ b) :
    ∀ i, i < m → ∃ s, w'.cell? ⟨w.heap.size, i, none⟩ = some (.string s) ∧ q s = true := by
  intro i hi; obtain ⟨s, hs, hqs⟩ := laid q w cs t hq i qaa; exact ⟨s, hg.cell hs (by simp [hb]), hqs⟩
theorem Bx.set0 {a : World} {x : Nat} {u v : Value} (h : Bx a x u v) (u' : Value) : Bx (a.setCell ⟨x, 0, none⟩ u') x u' v := by
  obtain ⟨h1, h2, h3, h4, h5⟩ := h; refine ⟨by rw [size_setCell]; exact h1, ?_, ?_, ?_, ?_⟩
  · simp [go_sem, h2]
  · rw [World.cell?_setCell_other _ _ _ _ qad]; exact h3
  · simp [go_sem, h4]
  · simp [go_sem, h5]
def AnyAt (j s : Nat) (b : Nat) (A : Option Addr) (n c p : Nat) (w : World) (B x : Nat) (W : World) (nm : ByteArray) (v : Value) (len : Nat) : Prop :=
  ∃ (ts : List Tm) (p' : Nat), (Nm nm ∧ len ≤ j ∧ p' ≤ p + s) ∧ ts.length = len ∧ (∀ t ∈ ts, t.2.size ≤ 16) ∧ W.ownsRow B 59 2 v len (tmCells ts) ∧ v.ownBlock ≠ some x ∧
    Bx W w.heap.size (.string ⟨#[]⟩) (.slice none 0 0) ∧ Bx W x (.string nm) v ∧ Rd W b A n c p' ∧ w.grownBy W (some b)
theorem AnyAt.pick {j s b n c p B x len : Nat} {A : Option Addr} {w W W' : World} {nm : ByteArray} {v : Value} {ts : List Tm} {p' : Nat} (hb : b < w.heap.size) (hB : w.heap.size < B) (hx : B ≤ x)
    (h0 : Nm nm ∧ len ≤ j ∧ p' ≤ p + s) (h1 : ts.length = len) (h2 : ∀ t ∈ ts, t.2.size ≤ 16) (h3 : W.ownsRow B 59 2 v len (tmCells ts)) (h4 : v.ownBlock ≠ some x)
    (h5 : Bx W w.heap.size (.string ⟨#[]⟩) (.slice none 0 0)) (h6 : Bx W x (.string nm) v) (h7 : w.grownBy W (some b)) (hr : Rd W' b A n c (p' + 1)) (hg : W.grownBy W' (some b)) :
    AnyAt j (s + 1) b A n c p w B x W' nm v len :=
  ⟨ts, p' + 1, ⟨h0.1, h0.2.1, by omega⟩, h1, h2, World.ownsRow.kept h3 hg (ownNe h3 qaa), h4, h5.grown hg qaf, h6.grown hg qaf, hr, grownTrans h7 hg⟩
theorem AnyAt.done {j s b n c p B x len : Nat} {A : Option Addr} {w W : World} {nm : ByteArray} {v : Value} (hb : b < w.heap.size) (hB : w.heap.size < B) (h : AnyAt j s b A n c p w B x W nm v len) :
    AtomDraw j s b A n c p w (.returned (.agg #[.string nm, v])) ((W.setCell ⟨w.heap.size, 0, none⟩ (.string nm)).setCell ⟨w.heap.size, 1, none⟩ v) := by
  obtain ⟨ts, p', h0, h1, h2, h3, h4, h5, h6, h7, h8⟩ := h; obtain ⟨A', d, rfl, hT⟩ := owned_terms h3 h1 h2; refine ⟨nm, A', len, d, ts, p', ⟨rfl, h0⟩, h1, h2, ?_, ?_, ?_⟩
  · exact ownsLess (ownsRow_setCell_below (ownsRow_setCell_below h3 qaf _) qaf _) qaa
  · exact (h7.set qaf _).set qaf _
  · exact ⟨h8.os, h8.tape, h8.output, by rw [size_setCell, size_setCell]; exact h8.size, fun i hi hne => ((hs_ _ _ _ i qaf).trans (hs_ _ _ _ i qaf)).trans (h8.block i hi hne)⟩
theorem AnyAt.more {j s b n c p B x len p' gg cap : Nat} {A : Option Addr} {w W1 W3 : World} {nm s' : ByteArray} {q : Bool} {v : Value} {ts : List Tm} {o : Obj} (hbw : b < w.heap.size) (hB : w.heap.size < B) (hx : B ≤ x)
    (h0 : Nm nm ∧ len + 1 ≤ j ∧ p' ≤ p + s) (h1 : ts.length = len) (h2 : ∀ t ∈ ts, t.2.size ≤ 16) (hss : s'.size ≤ 16) (HO1 : W1.ownsRow B 59 2 v len (tmCells ts)) (h4 : v.ownBlock ≠ some x)
    (h5 : Bx W1 w.heap.size (.string ⟨#[]⟩) (.slice none 0 0)) (h6 : Bx W1 x (.string nm) v) (h7 : Rd W1 b A n c p') (h8 : w.grownBy W1 (some b))
    (hown3 : W3.ownsRow B 59 2 (.slice (some ⟨gg, 0, none⟩) (len + 1) cap) (len + 1) (tmCells ts ++ [.bool q, .string s'])) (hgrow : (W1.alloc o).grownBy W3 v.ownBlock) (hat : v.ownBlock = some gg ∨ gg = W1.heap.size + 1) :
    AnyAt j s b A n c p w B x (W3.setCell ⟨x, 1, none⟩ (.slice (some ⟨gg, 0, none⟩) (len + 1) cap)) nm (.slice (some ⟨gg, 0, none⟩) (len + 1) cap) (len + 1) := by
  have hal := grownBelow (below1 W1 o) none; have far : ∀ g, v.ownBlock = some g → B ≤ g := fun g hg => (HO1.lt g hg).1; have hsz := h6.1
  have hnew : gg ≠ x := by
    rcases hat with hat | hat
    · intro e; rw [e] at hat; exact h4 hat
    · omega
  have hnew' : (Value.slice (some ⟨gg, 0, none⟩) (len + 1) cap).ownBlock ≠ some x := by
    intro e; injection e with e; exact hnew e
  refine ⟨ts ++ [(q, s')], p', h0, by simp [h1], ?_, ?_, hnew', ?_, ?_, ?_, ?_⟩
  · intro t ht
    rcases List.mem_append.1 ht with ht | ht
    · exact h2 t ht
    · rw [List.mem_singleton.1 ht]; exact hss
  · rw [tmCells_snoc]
    exact ownsRow_setCell_other hown3 hnew' _
  · exact ((h5.grown hal qad).grown hgrow (fun e => by have := far _ e.symm; omega)).other qaf _
  · exact ((h6.grown hal qad).grown hgrow (fun e => h4 e.symm)).set1 _
  · exact ((h7.grown hal qad).grown hgrow qdk).set qaf _
  · have h1 : w.grownBy W3 (some b) := grownOther hgrow (B := B) qaf far (grownTrans h8 (grownBelow (below1 W1 o) _)) qaa
    exact ⟨h1.os, h1.tape, h1.output, by rw [size_setCell]; exact h1.size, fun i hi hne => (hs_ _ _ _ i qaf).trans (h1.block i hi hne)⟩
theorem any_atom_draw (b : Nat) (A : Option Addr) (n c p : Nat) (w : World) (h : Rd w b A n c p) (hp : p ≤ 999000) :
    Calls Tryz.prog 104 #[.pointer (some ⟨b, 0, none⟩)] w (AtomDraw 8 40 b A n c p w) := by
  have H := hid h; clear h; have hbw : b < w.heap.size := H.out.1; go_enter Tryz.func104, Tryz.ntmps104; go_wp2_with fail; refine (of_laidAt nmB (w.heap.size + 1) b _ A n c p _ _ _ qad (H.out.below (below1 _ _)) qaa qab qaa qaa qab).mono ?_; rintro e w1 ⟨s, ⟨rfl, hs⟩, hr1, hg1⟩; have HR1 := hid hr1; have hgw1 := grownTrans (grownBelow (below2 w _ _) (some b)) hg1; have HG1 := hid hgw1; have hX0 := Bx.new w (.string ⟨#[]⟩) (.slice none 0 0) 49; have HX1 := hid ((hX0.grown (grownBelow (below1 _ _) none) qad).grown hg1 qaf)
  clear hr1 hgw1 hX0 hg1; go_wp2_with fail; refine (atom_draw b A n c (p + 1) s true w1 HR1.out qaa (nm_of hs)).mono ?_; rintro e w2 ⟨nm, A', k, d, ts, p', ⟨rfl, hnm, hk, hp'⟩, hlen, hs', hown, hrd, hg2⟩; have hsz1 := HG1.out.size; have hsz2 := hg2.size; have hlx := HX1.out.1; have hhg := grownTrans HG1.out hg2; have HG2 := hid (grownTrans hhg (grownBelow (below1 w2 (.cells #[.string nm, .slice A' k d] 49)) (some b))); have HX2 := hid ((HX1.out.grown hg2 qaf).grown (grownBelow (below1 w2 (.cells #[.string nm, .slice A' k d] 49)) none) qad)
  have HA2 := hid (Bx.new w2 (.string nm) (.slice A' k d) 49); have HR2 := hid (hrd.below (below1 w2 (.cells #[.string nm, .slice A' k d] 49))); have HO2 := hid (hown.alloc (.cells #[.string nm, .slice A' k d] 49)); have hne : (Value.slice A' k d).ownBlock ≠ some w2.heap.size := fun e => by have := hown.lt _ e; omega
  have HN := hid hne; have HS := hid hs'; have HL := hid hlen; clear hg2 hown hrd hhg hne hs' hlen; go_wp2_with fail; refine (pick_any b A n c _ _ _ HR2.out qaa qaa).mono ?_; rintro e w3 ⟨kk, ⟨rfl, hkk⟩, hrd3, hg3⟩; have HY := hid (AnyAt.pick (j := 3) (s := 7) (p := p) hbw (B := w1.heap.size) qaa qaa ⟨hnm, hk, by omega⟩ HL.out HS.out HO2.out HN.out HX2.out HA2.out HG2.out hrd3 hg3); clear HG2 HX2 HA2 HR2 HO2 HN HS HL hrd3 hg3 HG1 HX1 HR1; by_cases k0 : kk = 0
  · subst k0
    obtain ⟨ts3, p3, ⟨q1, q2, q3⟩, q4, q5, q6, q7, q8, q9, q10, q11⟩ := HY.out; have R3 := hid q10; have O3 := hid q6; have X3 := hid q8; have Y3 := hid q9; have G3 := hid q11; have S3 := hid q5; have L3 := hid q4; have N3 := hid q7; clear q4 q5 q6 q7 q8 q9 q10 q11 HY; go_wp2_with fail; refine (of_laidAt nmB w3.heap.size b _ A n c _ w3 _ _ rfl R3.out qaa qab qaa qaa qab).mono ?_; rintro e w4 ⟨s', ⟨rfl, hs4⟩, hr4, hg4⟩; have hg34 := grownTrans (grownBelow (below1 w3 _) (some b)) hg4; have Y4 := Y3.out.grown hg34 qaf; have X4 := hid (X3.out.grown hg34 qaf); have HY4 := hid Y4; obtain ⟨x1, x2, x3, x4, x5⟩ := Y4
    obtain ⟨y1, y2, y3, y4, y5⟩ := X4.out; go_wp2
    have W5 : AnyAt 8 40 b A n c p w w1.heap.size w2.heap.size (w4.setCell ⟨w2.heap.size, 0, none⟩ (.string s')) s' (.slice A' k d) k := by
      have hg3 := G3.out; refine ⟨ts3, p3 + 1, ⟨nm_of hs4, by omega, by omega⟩, L3.out, S3.out, ?_, N3.out, X4.out.other qaf _, HY4.out.set0 _, hr4.set qaf _, ?_⟩
      · exact ownsRow_setCell_other (World.ownsRow.kept (O3.out.alloc _) hg4 (ownNe O3.out qaa)) N3.out _
      · have h8 := grownTrans hg3 hg34
        exact ⟨h8.os, h8.tape, h8.output, by rw [size_setCell]; exact h8.size, fun i hi hne => (hs_ _ _ _ i qaf).trans (h8.block i hi hne)⟩
    refine bodyPost_ret (v := .agg #[.string s', .slice A' k d]) qay rfl ?_; exact W5.done hbw qaa
  · by_cases k1 : kk = 1
    · subst k1
      obtain ⟨i0, hi, hz, hsz, hby⟩ := info_parts Tryz.infoTm; have HI := hid hi; have HZ := hid hz; have HSZ := hid hsz; have HYY := hid hby; clear hi hz hsz hby k0 hkk; obtain ⟨ts3, p3, ⟨q1, q2, q3⟩, q4, q5, q6, q7, q8, q9, q10, q11⟩ := HY.out; have R3 := hid (show Rd w3.drew b A n c p3 from q10); have O3 := hid q6; have X3 := hid q8; have Y3 := hid q9; have G3 := hid q11; have S3 := hid q5; have L3 := hid q4; have N3 := hid q7; have y0 := q9.2.2.1; have hb3 := q10.1; have R30 := hid q10; have cu0 := cellUp y0; clear q4 q5 q6 q7 q8 q9 q10 q11 HY; go_wp2_with fail
      go_region_law (first
        | (refine step_append_lies _ qab _ _ _ qab w1.heap.size 59 i0 _ 2 24 Tryz.underlying47 HI.out HZ.out HSZ.out HYY.out rfl qaa (.slice A' k d) k (tmCells ts3) qab (O5.out.alloc _) ⟨w5.heap.size, 0, none⟩ 1 1 [.bool ((kk : Int) == 0), .string s'] qab qab (World.news_of_block (cs := #[.bool ((kk : Int) == 0), .string s']) (t := 59) (fr := (0, 0)) (heap_alloc_new w5 _)) qai qaa qac qaa (by have := Y5.1; simp; omega) (w5.heap.size + 1) qad ?_; intro gg cap w6 hown6 hgrow hat hlt6; have Y7 := Y6.grown hgrow (fun e => N3.out e.symm); have z3 := Y7.2.2.1; have z5 := Y7.2.2.2.2)
        | ((go_simp; go_at_call 60; refine (pick_any b A n c p3 _ _ R3.out qaa qaa).mono ?_); rintro e w4 ⟨kk, ⟨rfl, hkk⟩, hr4, hg4'⟩; have hg4 : w3.grownBy w4 (some b) := ungrown hg4'; clear hg4'; have Y4 := Y3.out.grown hg4 qbs; have yy4 := Y4.2.2.1; have cu4 := cellUp yy4)
        | ((have hld := HLD; clear hld; go_simp; go_at_call 111; refine (of_any (fun s => decide (s.size ≤ 16) = true) b w3.heap.size 7 A n c _ w4 hr4 qaa qaa qaa qaa HLD.out).mono ?_); rintro e w5 ⟨s', ⟨rfl, hs5⟩, hr5, hg5⟩; have hg35 := grownTrans hg4 hg5; have Y5 := Y3.out.grown hg35 qbs; have yy5 := Y5.2.2.1; have O5 := hid (World.ownsRow.kept (w' := w5) O3.out hg35 (ownNe O3.out qaa)); have Y6 := Y5.grown (grownBelow (below1 w5 (.cells #[.bool ((kk : Int) == 0), .string s'] 59)) none) qad; have yy6 := Y6.2.2.1)
        | ((go_simp; go_at_call 111; refine (of_laidAt (fun s => decide (s.size ≤ 16)) w4.heap.size b _ A n c _ w4 _ _ rfl hr4 qaa qab qaa qaa qab).mono ?_); rintro e w5 ⟨s', ⟨rfl, hs5⟩, hr5, hg5⟩; have hg45 := grownTrans (grownBelow (below1 w4 _) (some b)) hg5; have hg35 := grownTrans hg4 hg45; have Y5 := Y3.out.grown hg35 qbs; have yy5 := Y5.2.2.1; have O5 := hid (World.ownsRow.kept (w' := w5) O3.out hg35 (ownNe O3.out qaa)); have Y6 := Y5.grown (grownBelow (below1 w5 (.cells #[.bool ((kk : Int) == 0), .string s'] 59)) none) qad; have yy6 := Y6.2.2.1)
        | ((go_simp; go_at_call 60; refine (pick_any b A n c p3 _ _ (R30.out.below (below1 _ _)).drawn qaa qaa).mono ?_); rintro e w4 ⟨kk, ⟨rfl, hkk⟩, hr4, hg4'⟩; have hg40 := ungrown hg4'; have HLD := hid (laidKept (fun s => decide (s.size ≤ 16)) (m := 7) qab qab hg40 qaa); have hg4 : w3.grownBy w4 (some b) := grownTrans (grownBelow (below1 w3 _) (some b)) hg40; clear hg4' hg40; have Y4 := Y3.out.grown hg4 qbs; have yy4 := Y4.2.2.1; have cu4 := cellUp yy4))
      all_goals
        have X5 := X3.out.grown hg35 qbs; have W7 := hid (AnyAt.more (j := 8) (s := 40) (p := p) (p' := p3 + 1 + 1) (B := w1.heap.size) (x := w2.heap.size) hbw qaa qaa ⟨q1, by omega, by omega⟩ L3.out S3.out (of_decide_eq_true hs5) O5.out N3.out X5 Y5 hr5 (grownTrans G3.out hg35) hown6 hgrow hat); have X6 := X5.grown (grownBelow (below1 w5 (.cells #[.bool ((kk : Int) == 0), .string s'] 59)) none) qad; have X7 := X6.grown hgrow (fun e => by have := (O5.out.lt _ e.symm).1; omega); obtain ⟨y1, y2, y3, y4, y5⟩ := X7; obtain ⟨x1, x2, x3, x4, x5⟩ := Y7; clear hgrow hown6 hat hg35 hr5 hr4 Y5 Y6 X5 X6 hg4
        go_wp2; refine bodyPost_ret (v := .agg #[.string nm, .slice (some ⟨gg, 0, none⟩) (k + 1) cap]) qay rfl ?_; exact W7.out.done hbw qaa
    · by_cases k2 : kk = 2
      · subst k2
        obtain ⟨i0, hi, hz, hsz, hby⟩ := info_parts Tryz.infoTm; have HI := hid hi; have HZ := hid hz; have HSZ := hid hsz; have HYY := hid hby; clear hi hz hsz hby k0 k1 hkk; go_wp2_with fail; go_loopw [] (fun wr => ∃ (v : Value) (len : Nat), len ≤ 4 ∧ AnyAt 8 (10 + 2 * len) b A n c p w w1.heap.size w2.heap.size wr nm v len) (fun wr => match wr.cell? ⟨w2.heap.size, 1, none⟩ with | some (.slice _ len _) => 5 - len | _ => 0)
        case atStart =>
          obtain ⟨ts3, p3, ⟨q1, q2, q3⟩, q4⟩ := HY.out; exact ⟨_, k, by omega, ts3, p3, ⟨q1, by omega, by omega⟩, q4⟩
        case round =>
          obtain ⟨v, len, hl4, ts3, p3, ⟨q1, q2, q3⟩, q4, q5, q6, q7, q8, q9, q10, q11⟩ := hrel; obtain ⟨A'', d', rfl, hT⟩ := owned_terms q6 q4 q5; clear hT HY; have R3 := hid (show Rd wr.drew b A n c p3 from q10); have O3 := hid q6; have X3 := hid q8; have Y3 := hid q9; have G3 := hid q11; have S3 := hid q5; have L3 := hid q4; have N3 := hid q7; have y0 := q9.2.2.1; clear q4 q5 q6 q7 q8 q9 q10 q11; have HWR := hid (show ∀ m : Nat, m < 2 → IntKind.i64.wrap (3 + (m : Int)) = 3 + (m : Int) from fun m hm => by rw [IntKind.wrap_i64]; omega); go_wp2_with fail
          go_region_held3 (fun W => W.cell? ⟨w2.heap.size, 1, none⟩ = some (.slice A'' len d'))
            (first | exact y0 | exact yy4)
            (((with_reducible refine (pick_any b A n c p3 _ _ R3.out qaa qaa).mono ?_); rintro e w4 ⟨kk, ⟨rfl, hkk⟩, hr4, hg4'⟩; have hg4 : wr.grownBy w4 (some b) := ungrown hg4'; clear hg4'; have Y4 := Y3.out.grown hg4 qbs; have yy4 := Y4.2.2.1; have hk2 : kk < 2 := qaa; have hw3 := HWR.out kk hk2))
          have X4 := X3.out.grown hg4 qaf; have HX4 := hid X4; have HY4 := hid Y4; have O4 := hid (World.ownsRow.kept (w' := w4) O3.out hg4 (ownNe O3.out qaa)); have G4 := hid (grownTrans G3.out hg4); have R4 := hid hr4; clear hr4 hkk hg4; obtain ⟨x1, x2, x3, x4, x5⟩ := Y4; by_cases hlt : len < 3 + kk
          · have hin : (len : Int) < 3 + (kk : Int) := qaa
            go_wp2_with (at_builtin; refine wpList_append_lies _ qab _ _ _ qab w1.heap.size 59 i0 _ 2 24 Tryz.underlying47 HI.out HZ.out HSZ.out HYY.out rfl qaa (.slice A'' len d') len (tmCells ts3) qab (O4.out.alloc _) ⟨w4.heap.size, 0, none⟩ 1 1 [.bool false, .string ⟨#[97]⟩] qab qab (World.news_of_block (cs := #[.bool false, .string ⟨#[97]⟩]) (t := 59) (fr := (0, 0)) (heap_alloc_new w4 _)) qai qaa qac qaa qaf (w4.heap.size + 1) qad ?_; intro gg cap w5 hown5 hgrow hat hlt5; have Y5 := (HY4.out.grown (grownBelow (below1 w4 (.cells #[.bool false, .string ⟨#[97]⟩] 59)) none) qad).grown hgrow (fun e => N3.out e.symm); have z3 := Y5.2.2.1; have z5 := Y5.2.2.2.2)
            refine ⟨⟨_, len + 1, by omega, AnyAt.more hbw qaa qaa ⟨q1, by omega, by omega⟩ L3.out S3.out qal O4.out N3.out HX4.out HY4.out R4.out G4.out hown5 hgrow hat⟩, ?_⟩; rw [show (w5.setCell ⟨w2.heap.size, 1, none⟩ (.slice (some ⟨gg, 0, none⟩) (len + 1) cap)).cell? ⟨w2.heap.size, 1, none⟩ = some (.slice (some ⟨gg, 0, none⟩) (len + 1) cap) by simp [go_sem, z3], y0]; show 5 - (len + 1) < 5 - len; omega
          · have hin : ¬ (len : Int) < 3 + (kk : Int) := qaa
            obtain ⟨y1, y2, y3, y4, y5⟩ := X4; go_wp2; have W5 : AnyAt 8 40 b A n c p w w1.heap.size w2.heap.size w4 nm (.slice A'' len d') len := ⟨ts3, p3 + 1, ⟨q1, by omega, by omega⟩, L3.out, S3.out, O4.out, N3.out, HX4.out, HY4.out, R4.out, G4.out⟩; refine bodyPost_ret (v := .agg #[.string nm, .slice A'' len d']) qay rfl ?_; exact W5.done hbw qaa
      · obtain ⟨ts3, p3, ⟨q1, q2, q3⟩, q4, q5, q6, q7, q8, q9, q10, q11⟩ := HY.out
        have X4 := q8; obtain ⟨x1, x2, x3, x4, x5⟩ := q9; have W5 : AnyAt 8 40 b A n c p w w1.heap.size w2.heap.size w3 nm (.slice A' k d) k := ⟨ts3, p3, ⟨q1, by omega, by omega⟩, q4, q5, q6, q7, q8, ⟨x1, x2, x3, x4, x5⟩, q10, q11⟩; have W6 := hid W5; obtain ⟨y1, y2, y3, y4, y5⟩ := q8; clear q1 q2 q3 q4 q5 q6 q7 q10 q11 W5; go_wp2; exact bodyPost_ret (v := .agg #[.string nm, .slice A' k d]) qay rfl (W6.out.done hbw qaa)
end Go.Proofs.YtcigljngiemdeaaGreat
