/-
  Drawing: the model's reader of a code, byte by byte: it picks a number below what it is asked for, and turns nothing but its own place.
-/
import Derived.Test.YtfghmphaldefbaaMem
import Derived.Outline
import Derived.Deep.QuietTactic
import Derived.BigQuiet
import Derived.Laws.BitsAllLaws
import Derived.Laws.BitsLemmas
namespace Go.Proofs.Ytfghmphaldefbaa
open Go.RowKit

/-- A slice of n bytes, in a block below hi. -/
def IsBytes (w : World) (hi : Nat) (A : Option Addr) (n c : Nat) : Prop :=
  n ≤ c ∧ c ≤ maxLen ∧ (0 < n → ∃ q, A = some q ∧ q.block < hi ∧ ∀ k, k < n → ∃ v : Nat, v ≤ 255 ∧ w.cell? (q.add k) = some (.int .u8 (v : Int)))

/-- A reader in block b: its code, and its place. -/
def Rd (w : World) (b : Nat) (A : Option Addr) (n c p : Nat) : Prop :=
  b < w.heap.size ∧ w.cell? ⟨b, 0, none⟩ = some (.slice A n c) ∧ w.cell? ⟨b, 1, none⟩ = some (.int .i64 (p : Int)) ∧ w.frozen? ⟨b, 1, none⟩ = false ∧ IsBytes w b A n c

/-- A number was picked. -/
def PickPost (m : Int) (b : Nat) (A : Option Addr) (n c p : Nat) (w : World) (e : Ending) (w' : World) : Prop :=
  ∃ k : Nat, (e = .returned (.int .i64 (k : Int)) ∧ (k = 0 ∨ (k : Int) < m)) ∧ Rd w' b A n c (p + 1) ∧ w.grownBy w' (some b)

theorem IsBytes.at_ {w : World} {hi : Nat} {A : Option Addr} {n c : Nat} (h : IsBytes w hi A n c) {k : Nat} (hk : k < n) : ∃ q, ∃ v : Nat, A = some q ∧ q.block < hi ∧ v ≤ 255 ∧ w.cell? (q.add k) = some (.int .u8 (v : Int)) := by
  obtain ⟨_, _, h3⟩ := h
  obtain ⟨q, hq, hb, hc⟩ := h3 (by omega)
  obtain ⟨v, hv, hc⟩ := hc k hk
  exact ⟨q, v, hq, hb, hv, hc⟩

theorem IsBytes.keep {w w' : World} {hi : Nat} {A : Option Addr} {n c : Nat} (h : IsBytes w hi A n c) (hk : ∀ q : Addr, q.block < hi → w'.cell? q = w.cell? q) : IsBytes w' hi A n c := by
  obtain ⟨h1, h2, h3⟩ := h
  refine ⟨h1, h2, fun hn => ?_⟩
  obtain ⟨q, hq, hb, hc⟩ := h3 hn
  refine ⟨q, hq, hb, fun k hk' => ?_⟩
  obtain ⟨v, hv, hcell⟩ := hc k hk'
  exact ⟨v, hv, (hk _ (by rw [block_add]; exact hb)).trans hcell⟩

/-- Behind the step of its place. -/
theorem Rd.step {w : World} {b : Nat} {A : Option Addr} {n c p : Nat} (h : Rd w b A n c p) (j : Nat) : Rd ((w.setCell ⟨b, 1, none⟩ (.int .i64 ((p : Int) + 1))).drewN j) b A n c (p + 1) := by
  obtain ⟨h1, h2, h3, h4, h5⟩ := h
  refine ⟨by simpa [World.setCell] using h1, ?_, ?_, ?_, h5.keep fun q hq => ?_⟩
  · show (w.setCell ⟨b, 1, none⟩ _).cell? ⟨b, 0, none⟩ = _
    rw [World.cell?_setCell_other _ _ _ _ (by simp)]; exact h2
  · show (w.setCell ⟨b, 1, none⟩ _).cell? ⟨b, 1, none⟩ = _
    simp [go_sem, h3]
  · show (w.setCell ⟨b, 1, none⟩ _).frozen? ⟨b, 1, none⟩ = _
    simp [go_sem, h4]
  · show (w.setCell ⟨b, 1, none⟩ _).cell? q = _
    exact World.cell?_setCell_other _ _ _ _ (fun e => by subst e; simp at hq)

theorem grown_step (w : World) (b : Nat) (v : Value) (j : Nat) : w.grownBy ((w.setCell ⟨b, 1, none⟩ v).drewN j) (some b) :=
  ⟨rfl, rfl, rfl, by simp [World.setCell], fun k _ hne => Below.heap_setCell w ⟨b, 1, none⟩ v k (fun e => hne (by rw [e]))⟩

theorem retI64 {a b : Int} (h : a = b) : Ending.returned (.int .i64 a) = .returned (.int .i64 b) := by rw [h]

/-- A rest is a number below what it is the rest of. -/
theorem rest_of (y m : Int) (hm : 1 ≤ m) : ∃ k : Nat, y % m = (k : Int) ∧ (k : Int) < m := by
  have h1 := Int.emod_nonneg y (show m ≠ 0 by omega)
  have h2 := Int.emod_lt_of_pos y (show 0 < m by omega)
  exact ⟨(y % m).toNat, by omega, by omega⟩

theorem bitsNat (a : Nat) (h : a < 9223372036854775808) : (BitVec.ofInt 64 (a : Int)).toNat = a := by
  rw [BitVec.ofInt_natCast, BitVec.toNat_ofNat]; exact Nat.mod_eq_of_lt (by omega)

theorem xorNat (a b : Nat) (ha : a < 9223372036854775808) (hb : b < 9223372036854775808) : ∃ y : Nat, bits .xor .i64 (a : Int) (b : Int) = (y : Int) := by
  refine ⟨a ^^^ b, ?_⟩
  have hx : a ^^^ b < 2 ^ 63 := Nat.xor_lt_two_pow (by omega) (by omega)
  show IntKind.i64.wrap ((BitVec.ofInt 64 (a : Int) ^^^ BitVec.ofInt 64 (b : Int)).toNat : Int) = _
  rw [BitVec.toNat_xor, bitsNat a ha, bitsNat b hb, IntKind.wrap_i64]
  omega

theorem mixed (x m : Int) (h0 : 0 ≤ x) (h1 : x < 4611686018427387904) (hm : 1 ≤ m) : ∃ k : Nat, (bits .xor .i64 x (x / 64)).tmod m = (k : Int) ∧ (k : Int) < m := by
  obtain ⟨a, rfl⟩ := Int.eq_ofNat_of_zero_le h0
  obtain ⟨y, hy⟩ := xorNat a (a / 64) (by omega) (by omega)
  have e : ((a : Int) / 64) = ((a / 64 : Nat) : Int) := by omega
  rw [e, hy, Int.tmod_eq_emod_of_nonneg (by omega)]
  exact rest_of _ _ hm

set_option maxHeartbeats 1000000 in
theorem pick_any (b : Nat) (A : Option Addr) (n c p : Nat) (m : Int) (w : World) (h : Rd w b A n c p) (hp : p ≤ 1099511627776) (hm : m ≤ 1048576) :
    Calls Try.prog 47 #[.pointer (some ⟨b, 0, none⟩), .int .i64 m] w (PickPost m b A n c p w) := by
  have H := Lib.hid h
  obtain ⟨h1, h2, h3, h4, h5⟩ := h
  have hn : n ≤ maxLen := by have := h5.1; have := h5.2.1; omega
  unfold maxLen at hn
  clear h5
  by_cases hm1 : m < 1
  · go_enter Try.func47, Try.ntmps47
    go_wp2
    go_ret
    exact ⟨0, ⟨rfl, .inl rfl⟩, H.out.step 0, grown_step _ _ _ 0⟩
  · by_cases hn0 : n = 0
    · have hn1 : ((n : Int) == 0) = true := by rw [beq_iff_eq]; omega
      have hmm : (1 : Int) ≤ m := by omega
      clear hm1
      have HN := Lib.hid hn0; clear hn0
      go_enter Try.func47, Try.ntmps47
      go_wp2
      go_ret
      exact ⟨0, ⟨rfl, .inl rfl⟩, H.out.step 0, grown_step _ _ _ 0⟩
    · have hn1 : ((n : Int) == 0) = false := by rw [beq_eq_false_iff_ne]; omega
      have hmm : (1 : Int) ≤ m := by omega
      have hnp : 0 < n := by omega
      clear hm1 hn0
      by_cases hpn : p < n
      · obtain ⟨q, v, hA, hqb, hv, hc⟩ := H.out.2.2.2.2.at_ hpn
        subst hA
        have hpn' : (p : Int) < (n : Int) := by omega
        go_enter Try.func47, Try.ntmps47
        have hc' : ∀ u, (w.setCell ⟨b, 1, none⟩ u).cell? (q.add p) = some (.int .u8 (v : Int)) := fun u => (World.cell?_setCell_other _ _ _ _ (fun e => by have := congrArg Addr.block e; rw [block_add] at this; simp at this; omega)).trans hc
        go_wp2
        go_ret
        obtain ⟨k, hk, hk'⟩ := rest_of (v : Int) m hmm
        exact ⟨k, ⟨retI64 hk, .inr hk'⟩, H.out.step 0, grown_step _ _ _ 0⟩
      · have hpn' : ¬ (p : Int) < (n : Int) := by omega
        obtain ⟨q, v, hA, hqb, hv, hc⟩ := H.out.2.2.2.2.at_ (k := p % n) (Nat.mod_lt _ hnp)
        obtain ⟨q', v', hA', _, hv', hc'⟩ := H.out.2.2.2.2.at_ (k := (p * 7 + 3) % n) (Nat.mod_lt _ hnp)
        subst hA
        injection hA' with hA'
        subst hA'
        have fc : ∀ u, (w.setCell ⟨b, 1, none⟩ u).cell? (q.add (p % n)) = some (.int .u8 (v : Int)) := fun u => (World.cell?_setCell_other _ _ _ _ (fun e => by have := congrArg Addr.block e; rw [block_add] at this; simp at this; omega)).trans hc
        have fc' : ∀ u, (w.setCell ⟨b, 1, none⟩ u).cell? (q.add ((p * 7 + 3) % n)) = some (.int .u8 (v' : Int)) := fun u => (World.cell?_setCell_other _ _ _ _ (fun e => by have := congrArg Addr.block e; rw [block_add] at this; simp at this; omega)).trans hc'
        have e1 : (0 : Int) ≤ (p : Int) % (n : Int) := Int.emod_nonneg _ (by omega)
        have e2 : (p : Int) % (n : Int) < (n : Int) := Int.emod_lt_of_pos _ (by omega)
        have e3 : ((p : Int) % (n : Int)).toNat = p % n := by rw [← Int.natCast_emod, Int.toNat_natCast]
        have e1' : (0 : Int) ≤ ((p : Int) * 7 + 3) % (n : Int) := Int.emod_nonneg _ (by omega)
        have e2' : ((p : Int) * 7 + 3) % (n : Int) < (n : Int) := Int.emod_lt_of_pos _ (by omega)
        have e3' : (((p : Int) * 7 + 3) % (n : Int)).toNat = (p * 7 + 3) % n := by
          rw [show ((p : Int) * 7 + 3) % (n : Int) = (((p * 7 + 3) % n : Nat) : Int) by rw [Int.natCast_emod]; simp, Int.toNat_natCast]
        have d1 : (0 : Int) ≤ (p : Int) / (n : Int) := Int.ediv_nonneg (by omega) (by omega)
        have d2 : (p : Int) / (n : Int) ≤ (p : Int) := Int.ediv_le_self _ (by omega)
        go_enter Try.func47, Try.ntmps47
        go_wp2
        go_quiet (fail)
        go_wp2
        go_ret
        have hX : (0 : Int) ≤ (v : Int) * 131 + (v' : Int) * 1117 + (p : Int) * 29 + (p : Int) / (n : Int) * 53 := by omega
        have hX1 : (v : Int) * 131 + (v' : Int) * 1117 + (p : Int) * 29 + (p : Int) / (n : Int) * 53 < 4611686018427387904 := by omega
        obtain ⟨k, hk, hk'⟩ := mixed _ m hX hX1 hmm
        exact ⟨k, ⟨retI64 hk, .inr hk'⟩, H.out.step _, grown_step _ _ _ _⟩

/-- A reader, where nothing old has turned. -/
theorem Rd.below {w w' : World} {b : Nat} {A : Option Addr} {n c p : Nat} (h : Rd w b A n c p) (hb : Below w.heap.size w w') : Rd w' b A n c p := by
  obtain ⟨h1, h2, h3, h4, h5⟩ := h
  exact ⟨Nat.lt_of_lt_of_le h1 hb.size, (hb.cell (p := ⟨b, 0, none⟩) h1).trans h2, (hb.cell (p := ⟨b, 1, none⟩) h1).trans h3, (hb.frozen (p := ⟨b, 1, none⟩) h1).trans h4, h5.keep fun q hq => hb.cell (by omega)⟩

/-- A list of texts that was laid out, each of which meets a test. -/
def strOk (q : ByteArray → Bool) (v : Value) : Bool := match v with
  | .string s => q s
  | _ => false

theorem laid (q : ByteArray → Bool) (w : World) (cs : Array Value) (t : TypeId) (h : cs.toList.all (strOk q) = true) : ∀ i, i < cs.size → ∃ s, (w.alloc (.cells cs t)).cell? ⟨w.heap.size, i, none⟩ = some (.string s) ∧ q s = true := by
  intro i hi
  have hv := List.all_eq_true.1 h cs[i] (by simp)
  have hc : (w.alloc (.cells cs t)).cell? ⟨w.heap.size, i, none⟩ = some cs[i] := by simp [go_sem, hi]
  unfold strOk at hv
  split at hv
  · rename_i s hs
    exact ⟨s, by rw [hc, hs], hv⟩
  · simp at hv

/-- A text was picked. -/
def OfPost (Q : ByteArray → Prop) (b : Nat) (A : Option Addr) (n c p : Nat) (w : World) (e : Ending) (w' : World) : Prop :=
  ∃ s : ByteArray, (e = .returned (.string s) ∧ Q s) ∧ Rd w' b A n c (p + 1) ∧ w.grownBy w' (some b)

set_option maxHeartbeats 1000000 in
theorem of_any (Q : ByteArray → Prop) (b g m : Nat) (A : Option Addr) (n c p : Nat) (w : World) (h : Rd w b A n c p) (hp : p ≤ 1099511627776) (hm : 0 < m) (hm' : m ≤ 1048576) (hg : g ≠ b)
    (hl : ∀ i, i < m → ∃ s, w.cell? ⟨g, i, none⟩ = some (.string s) ∧ Q s) :
    Calls Try.prog 97 #[.pointer (some ⟨b, 0, none⟩), .slice (some ⟨g, 0, none⟩) m m] w (OfPost Q b A n c p w) := by
  have HL := Lib.hid hl; clear hl
  go_enter Try.func97, Try.ntmps97
  go_wp2_with fail
  refine (pick_any b A n c p _ _ h hp (by omega)).mono ?_; rintro e w1 ⟨k, ⟨rfl, hk⟩, hr1, hg1⟩
  have hkm : k < m := by omega
  clear hk
  obtain ⟨s, hs, hq⟩ := HL.out k hkm
  have hs1 : w1.cell? ⟨g, k, none⟩ = some (.string s) := hg1.cell hs (by simp [hg])
  have hk0 : (0 : Int) ≤ (k : Int) := by omega
  have hk1 : (k : Int) < (m : Int) := by omega
  go_wp2
  go_ret
  exact ⟨s, ⟨rfl, hq⟩, hr1, hg1⟩

/-- One of a list of texts that was just laid out. -/
theorem of_laid (q : ByteArray → Bool) (b m : Nat) (A : Option Addr) (n c p : Nat) (w : World) (cs : Array Value) (t : TypeId) (h : Rd w b A n c p) (hp : p ≤ 1099511627776) (hc : cs.size = m) (hm : 0 < m) (hm' : m ≤ 1048576) (hq : cs.toList.all (strOk q) = true) :
    Calls Try.prog 97 #[.pointer (some ⟨b, 0, none⟩), .slice (some ⟨w.heap.size, 0, none⟩) m m] (w.alloc (.cells cs t)) (OfPost (fun s => q s = true) b A n c p (w.alloc (.cells cs t))) :=
  of_any _ b _ m A n c p _ (h.below (below1 _ _)) hp hm hm' (fun e => by have := h.1; omega) (fun i hi => laid q w cs t hq i (by omega))

/-- A reader was opened. -/
def OpenPost (A : Option Addr) (c : Nat) (w : World) (e : Ending) (w' : World) : Prop :=
  ∃ b n', (e = .returned (.pointer (some ⟨b, 0, none⟩)) ∧ w.heap.size ≤ b) ∧ Rd w' b A n' c 0 ∧ Below w.heap.size w w'

theorem IsBytes.less {w : World} {hi : Nat} {A : Option Addr} {n n' c : Nat} (h : IsBytes w hi A n c) (hn : n' ≤ n) : IsBytes w hi A n' c := by
  obtain ⟨h1, h2, h3⟩ := h
  refine ⟨by omega, h2, fun h0 => ?_⟩
  obtain ⟨q, hq, hb, hc⟩ := h3 (by omega)
  exact ⟨q, hq, hb, fun k hk => hc k (by omega)⟩

theorem Rd.new {w : World} {A : Option Addr} {n c : Nat} (h : IsBytes w w.heap.size A n c) (t : TypeId) : Rd (w.alloc (.cells #[.slice A n c, .int .i64 0] t)) w.heap.size A n c 0 := by
  refine ⟨by simp, ?_, ?_, ?_, h.keep fun q hq => World.cell?_alloc_lt w _ q hq⟩ <;> simp [go_sem]

set_option maxHeartbeats 1000000 in
theorem open_any (A : Option Addr) (n c : Nat) (w : World) (h : IsBytes w w.heap.size A n c) :
    Calls Try.prog 45 #[.slice A n c] w (OpenPost A c w) := by
  have hn : n ≤ maxLen := by have := h.1; have := h.2.1; omega
  have hc : n ≤ c := h.1
  have hc' : c ≤ maxLen := h.2.1
  unfold maxLen at hn hc'
  have H := Lib.hid h; clear h
  by_cases hb : 2000 < (n : Int)
  · go_enter Try.func45, Try.ntmps45
    go_wp2
    go_ret
    exact ⟨_, 2000, ⟨rfl, Nat.le_refl _⟩, Rd.new (H.out.less (by omega)) _, below1 _ _⟩
  · go_enter Try.func45, Try.ntmps45
    go_wp2
    go_ret
    exact ⟨_, n, ⟨rfl, Nat.le_refl _⟩, Rd.new H.out _, below1 _ _⟩

end Go.Proofs.Ytfghmphaldefbaa
