/-
  Texts of one claim, put together.
-/
import Derived.Test.YtogonjkklioaaaaGreatDoorLg1
import Derived.BigQuiet
import Derived.Deep.AppendLies
import Derived.Deep.RegionLaw
import Derived.Lib.SmallJoins
set_option maxRecDepth 100000
set_option maxHeartbeats 8000000
namespace Go.Proofs.YtogonjkklioaaaaGreatDoor
open Go.RowKit
def SmallParts (n : Nat) (xs : List Pt) : Prop := n ≤ 1048576 ∧ ∀ q ∈ xs, q.2.2.length ≤ 1048576
theorem Tryz.infoPart : (Tryz.prog.info? 171).map (fun i => (i.zero, i.size, i.bytes)) = some (some (.agg #[.bool false, .string ByteArray.empty, .slice none 0 0]), 3, 48) := by kernel_rfl
end Go.Proofs.YtogonjkklioaaaaGreatDoor
namespace Go.Proofs.YtogonjkklioaaaaGreatDoor
open Go.RowKit
end Go.Proofs.YtogonjkklioaaaaGreatDoor

namespace Go.Proofs.YtogonjkklioaaaaGreatDoor
open Go.RowKit
def IsRule (w : World) (hi : Nat) (A : Option Addr) (n c : Nat) (B : Option Addr) (m d : Nat) (ts : List Tm) (xs : List Pt) : Prop := IsTerms w 0 hi A n c ts ∧ zeg w 0 hi B m d xs
theorem IsRule.up {w w' : World} {A B : Option Addr} {n c m d : Nat} {ts : List Tm} {xs : List Pt} (h : IsRule w w.heap.size A n c B m d ts xs) (hb : Below w.heap.size w w') : IsRule w' w'.heap.size A n c B m d ts xs :=
  ⟨h.1.up hb, h.2.up PartE.stays hb⟩
def Box3 (w : World) (b : Nat) (u v x : Value) : Prop := b < w.heap.size ∧ w.cell? ⟨b, 0, none⟩ = some u ∧ w.cell? ⟨b, 1, none⟩ = some v ∧ w.cell? ⟨b, 2, none⟩ = some x
theorem Box3.new (w : World) (u v x : Value) (t : TypeId) : Box3 (w.alloc (.cells #[u, v, x] t)) w.heap.size u v x := by
  refine ⟨by simp, ?_, ?_, ?_⟩ <;> simp [go_sem]
theorem Box3.later {w w' : World} {b : Nat} {u v x : Value} (h : Box3 w b u v x) (hb : Below w.heap.size w w') : Box3 w' b u v x :=
  ⟨Nat.lt_of_lt_of_le h.1 hb.size, (hb.cell (p := ⟨b, 0, none⟩) h.1).trans h.2.1, (hb.cell (p := ⟨b, 1, none⟩) h.1).trans h.2.2.1, (hb.cell (p := ⟨b, 2, none⟩) h.1).trans h.2.2.2⟩
def zhs (n m : Nat) (xs : List Pt) : Prop := n ≤ 1048576 ∧ SmallParts m xs
def zll (xs : List Pt) : Bool := xs.all fun q => zax q.2
def zgc (r : Rl) : Bool := zll r.2 && (zax r.1 && decide (r.2.length ≤ 4))
theorem bodyB_snoc {xs : List Pt} {k : Nat} {q : Pt} (h : xs[k]? = some q) (hr : zll (xs.take k) = true) (hq : zax q.2 = true) : zll (xs.take (k + 1)) = true := by
  obtain ⟨h1, h2⟩ := List.getElem?_eq_some_iff.1 h; unfold zll at *; rw [List.take_succ_eq_append_getElem h1, List.all_append, hr, h2]; simp [hq]
theorem bodyB_no {xs : List Pt} {k : Nat} {q : Pt} (h : xs[k]? = some q) (hq : zax q.2 = false) : zll xs = false := by
  unfold zll; rw [List.all_eq_false]; exact ⟨q, List.mem_of_getElem? h, by simp [hq]⟩
theorem bodyB_all {xs : List Pt} {k n : Nat} (h : xs.length = n) (hk : ¬ k < n) (hr : zll (xs.take k) = true) : zll xs = true := by
  rwa [List.take_of_length_le qaa] at hr
theorem atom_no {q : Pt} (h : (!zax (q.2.1, q.2.2)) = true) : zax q.2 = false := by simpa using h
theorem atom_yes {q : Pt} (h : (!zax (q.2.1, q.2.2)) = false) : zax q.2 = true := by simpa using h
theorem l1Rule_any (nm : ByteArray) (A : Option Addr) (n c : Nat) (B : Option Addr) (m d : Nat) (ts : List Tm) (xs : List Pt) (w : World) (hs : nm.size ≤ maxLen) (h : IsRule w w.heap.size A n c B m d ts xs) :
    Calls Tryz.prog 161 #[.agg #[.string nm, .slice A n c, .slice B m d]] w (zas (zgc ((nm, ts), xs)) w) := by
  have hm := h.2.len; unfold maxLen at hm; have L := hid h.2.1; have H := hid h; clear h; have hw0 := zac w (.cells #[.string nm, .slice A n c, .slice B m d] 174); have X0 := hid (Box3.new w (.string nm) (.slice A n c) (.slice B m d) 174); go_enter Tryz.func161, Tryz.ntmps161; go_wp2; go_loopw [3] (fun i wr => ∃ k : Nat, k ≤ m ∧ i = .int .i64 k ∧ zll (xs.take k) = true ∧ Below (w.alloc (.cells #[.string nm, .slice A n c, .slice B m d] 174)).heap.size (w.alloc (.cells #[.string nm, .slice A n c, .slice B m d] 174)) wr) (fun i _ => m - (intOf i).toNat)
  case atStart => exact ⟨0, Nat.zero_le _, rfl, rfl, Below.refl _ _⟩
  case round =>
    obtain ⟨k, hk, rfl, hd, hb⟩ := hrel; have HD := hid hd; clear hd; have HB := zaa hw0 hb; obtain ⟨x1, x2, x3, x4⟩ := X0.out.later hb; by_cases hlt : k < m
    · obtain ⟨p, q, hA, hlo, hhi, hg, hE⟩ := (H.out.2.below PartE.stays HB (nl _)).at_ hlt
      obtain ⟨C, n', c', d1, d2, d3, d4, d5⟩ := hE.out; clear hE; subst hA; have HG := hid hg; clear hg; have HT := hid (d5.keep (lo' := 0) (hi' := wr.heap.size) (fun _ _ _ => rfl) (nl _) HB.size); clear d5; go_wp2_with fail; refine (zdq _ _ _ _ q.2.2 _ d3 HT.out).mono ?_; rintro e w1 ⟨rfl, hb1⟩; go_wp2
      · go_ret; exact ⟨zdb (by unfold zgc; rw [bodyB_no HG.out (atom_no qbn)]; rfl), zaa HB hb1⟩
      · go_roundw
        case rel => exact ⟨k + 1, by omega, by go_num, bodyB_snoc HG.out HD.out (atom_yes qbn), zaa hb hb1⟩
        case measure => exact qms
    · have E := hid (bodyB_all L.out hlt HD.out)
      go_wp2_with fail; refine (zdq _ _ _ _ ts _ hs (H.out.up HB).1).mono ?_; rintro e w1 ⟨rfl, hb1⟩; obtain ⟨x1, x2, x3, x4⟩ := (X0.out.later hb).later hb1; go_wp2
      all_goals (go_ret; exact ⟨zdb (by unfold zgc; rw [E.out, L.out]; simp_all; try omega), zaa HB hb1⟩)
def IsBytes (w : World) (hi : Nat) (A : Option Addr) (n c : Nat) : Prop :=
  n ≤ c ∧ c ≤ maxLen ∧ (0 < n → ∃ q, A = some q ∧ q.block < hi ∧ ∀ k, k < n → ∃ v : Nat, v ≤ 255 ∧ w.cell? (q.add k) = some (.int .u8 (v : Int)))
def Rd (w : World) (b : Nat) (A : Option Addr) (n c p : Nat) : Prop :=
  b < w.heap.size ∧ w.cell? ⟨b, 0, none⟩ = some (.slice A n c) ∧ w.cell? ⟨b, 1, none⟩ = some (.int .i64 (p : Int)) ∧ w.frozen? ⟨b, 1, none⟩ = false ∧ IsBytes w b A n c
def PickPost (m : Int) (b : Nat) (A : Option Addr) (n c p : Nat) (w : World) (e : Ending) (w' : World) : Prop :=
  ∃ k : Nat, (e = .returned (.int .i64 (k : Int)) ∧ (k = 0 ∨ (k : Int) < m)) ∧ Rd w' b A n c (p + 1) ∧ w.grownBy w' (some b)
theorem IsBytes.at_ {w : World} {hi : Nat} {A : Option Addr} {n c : Nat} (h : IsBytes w hi A n c) {k : Nat} (hk : k < n) : ∃ q, ∃ v : Nat, A = some q ∧ q.block < hi ∧ v ≤ 255 ∧ w.cell? (q.add k) = some (.int .u8 (v : Int)) := by
  obtain ⟨_, _, h3⟩ := h; obtain ⟨q, hq, hb, hc⟩ := h3 qaa; obtain ⟨v, hv, hc⟩ := hc k hk; exact ⟨q, v, hq, hb, hv, hc⟩
theorem IsBytes.keep {w w' : World} {hi : Nat} {A : Option Addr} {n c : Nat} (h : IsBytes w hi A n c) (hk : ∀ q : Addr, q.block < hi → w'.cell? q = w.cell? q) : IsBytes w' hi A n c := by
  obtain ⟨h1, h2, h3⟩ := h; refine ⟨h1, h2, fun hn => ?_⟩; obtain ⟨q, hq, hb, hc⟩ := h3 hn; refine ⟨q, hq, hb, fun k hk' => ?_⟩; obtain ⟨v, hv, a2⟩ := hc k hk'; exact ⟨v, hv, (hk _ (by rw [zah]; exact hb)).trans a2⟩
theorem Rd.step {w : World} {b : Nat} {A : Option Addr} {n c p : Nat} (h : Rd w b A n c p) (j : Nat) : Rd ((w.setCell ⟨b, 1, none⟩ (.int .i64 ((p : Int) + 1))).drewN j) b A n c (p + 1) := by
  obtain ⟨h1, h2, h3, h4, h5⟩ := h; refine ⟨by simpa [World.setCell] using h1, ?_, ?_, ?_, h5.keep fun q hq => ?_⟩
  · show (w.setCell ⟨b, 1, none⟩ _).cell? ⟨b, 0, none⟩ = _
    rw [World.cell?_setCell_other _ _ _ _ qag]; exact h2
  · show (w.setCell ⟨b, 1, none⟩ _).cell? ⟨b, 1, none⟩ = _
    simp [go_sem, h3]
  · show (w.setCell ⟨b, 1, none⟩ _).frozen? ⟨b, 1, none⟩ = _
    simp [go_sem, h4]
  · show (w.setCell ⟨b, 1, none⟩ _).cell? q = _
    exact World.cell?_setCell_other _ _ _ _ qdv
theorem zid (w : World) (b : Nat) (v : Value) (j : Nat) : w.grownBy ((w.setCell ⟨b, 1, none⟩ v).drewN j) (some b) :=
  ⟨rfl, rfl, rfl, by simp [World.setCell], fun k _ hne => hs_ w ⟨b, 1, none⟩ v k (fun e => hne (by rw [e]))⟩
theorem retI64 {a b : Int} (h : a = b) : Ending.returned (.int .i64 a) = .returned (.int .i64 b) := by rw [h]
theorem rest_of (y m : Int) (hm : 1 ≤ m) : ∃ k : Nat, y % m = (k : Int) ∧ (k : Int) < m := by
  have h1 := Int.emod_nonneg y (show m ≠ 0 by omega); have h2 := Int.emod_lt_of_pos y (show 0 < m by omega); exact ⟨(y % m).toNat, by omega, by omega⟩
theorem bitsNat (a : Nat) (h : a < 9223372036854775808) : (BitVec.ofInt 64 (a : Int)).toNat = a := by
  rw [BitVec.ofInt_natCast, BitVec.toNat_ofNat]; exact Nat.mod_eq_of_lt qaa
theorem xorNat (a b : Nat) (ha : a < 9223372036854775808) (hb : b < 9223372036854775808) : ∃ y : Nat, bits .xor .i64 (a : Int) (b : Int) = (y : Int) := by
  refine ⟨a ^^^ b, ?_⟩; have hx : a ^^^ b < 2 ^ 63 := Nat.xor_lt_two_pow qaa qaa; show IntKind.i64.wrap ((BitVec.ofInt 64 (a : Int) ^^^ BitVec.ofInt 64 (b : Int)).toNat : Int) = _; rw [BitVec.toNat_xor, bitsNat a ha, bitsNat b hb, IntKind.wrap_i64]; omega
theorem mixed (x m : Int) (h0 : 0 ≤ x) (h1 : x < 4611686018427387904) (hm : 1 ≤ m) : ∃ k : Nat, (bits .xor .i64 x (x / 64)).tmod m = (k : Int) ∧ (k : Int) < m := by
  obtain ⟨a, rfl⟩ := Int.eq_ofNat_of_zero_le h0; obtain ⟨y, hy⟩ := xorNat a (a / 64) qaa qaa; have e : ((a : Int) / 64) = ((a / 64 : Nat) : Int) := qaa; rw [e, hy, Int.tmod_eq_emod_of_nonneg qaa]; exact rest_of _ _ hm
theorem zav (b : Nat) (A : Option Addr) (n c p : Nat) (m : Int) (w : World) (h : Rd w b A n c p) (hp : p ≤ 1099511627776) (hm : m ≤ 1048576) :
    Calls Tryz.prog 50 #[.pointer (some ⟨b, 0, none⟩), .int .i64 m] w (PickPost m b A n c p w) := by
  have H := hid h; obtain ⟨h1, h2, h3, h4, h5⟩ := h; have hn : n ≤ maxLen := by have := h5.1; have := h5.2.1; omega
  unfold maxLen at hn; clear h5; by_cases hm1 : m < 1
  · go_enter Tryz.func50, Tryz.ntmps50
    go_wp2; go_ret; exact ⟨0, ⟨rfl, .inl rfl⟩, H.out.step 0, zid _ _ _ 0⟩
  · by_cases hn0 : n = 0
    · have b3 : ((n : Int) == 0) = true := by rw [beq_iff_eq]; omega
      have a4 : (1 : Int) ≤ m := qaa; clear hm1; have HN := hid hn0; clear hn0; go_enter Tryz.func50, Tryz.ntmps50; go_wp2; go_ret; exact ⟨0, ⟨rfl, .inl rfl⟩, H.out.step 0, zid _ _ _ 0⟩
    · have b3 : ((n : Int) == 0) = false := qbp
      have a4 : (1 : Int) ≤ m := qaa; have a7 : 0 < n := qaa; clear hm1 hn0; by_cases hpn : p < n
      · obtain ⟨q, v, hA, a8, hv, hc⟩ := H.out.2.2.2.2.at_ hpn
        subst hA; have a3 : (p : Int) < (n : Int) := qaa; go_enter Tryz.func50, Tryz.ntmps50; have a6 : ∀ u, (w.setCell ⟨b, 1, none⟩ u).cell? (q.add p) = some (.int .u8 (v : Int)) := fun u => (World.cell?_setCell_other _ _ _ _ qcg).trans hc; go_wp2; go_ret; obtain ⟨k, hk, a2⟩ := rest_of (v : Int) m a4; exact ⟨k, ⟨retI64 hk, .inr a2⟩, H.out.step 0, zid _ _ _ 0⟩
      · have a3 : ¬ (p : Int) < (n : Int) := qaa
        obtain ⟨q, v, hA, a8, hv, hc⟩ := H.out.2.2.2.2.at_ (k := p % n) (Nat.mod_lt _ a7); obtain ⟨q', v', a5, _, hv', a6⟩ := H.out.2.2.2.2.at_ (k := (p * 7 + 3) % n) (Nat.mod_lt _ a7); subst hA; injection a5 with a5; subst a5; have fc : ∀ u, (w.setCell ⟨b, 1, none⟩ u).cell? (q.add (p % n)) = some (.int .u8 (v : Int)) := fun u => (World.cell?_setCell_other _ _ _ _ qcg).trans hc; have fc' : ∀ u, (w.setCell ⟨b, 1, none⟩ u).cell? (q.add ((p * 7 + 3) % n)) = some (.int .u8 (v' : Int)) := fun u => (World.cell?_setCell_other _ _ _ _ qcg).trans a6; have e1 : (0 : Int) ≤ (p : Int) % (n : Int) := Int.emod_nonneg _ qaa
        have e2 : (p : Int) % (n : Int) < (n : Int) := Int.emod_lt_of_pos _ qaa; have e3 : ((p : Int) % (n : Int)).toNat = p % n := by rw [← Int.natCast_emod, Int.toNat_natCast]
        have e1' : (0 : Int) ≤ ((p : Int) * 7 + 3) % (n : Int) := Int.emod_nonneg _ qaa; have e2' : ((p : Int) * 7 + 3) % (n : Int) < (n : Int) := Int.emod_lt_of_pos _ qaa
        have e3' : (((p : Int) * 7 + 3) % (n : Int)).toNat = (p * 7 + 3) % n := by
          rw [show ((p : Int) * 7 + 3) % (n : Int) = (((p * 7 + 3) % n : Nat) : Int) by rw [Int.natCast_emod]; simp, Int.toNat_natCast]
        have d1 : (0 : Int) ≤ (p : Int) / (n : Int) := Int.ediv_nonneg qaa qaa; have d2 : (p : Int) / (n : Int) ≤ (p : Int) := Int.ediv_le_self _ qaa; go_enter Tryz.func50, Tryz.ntmps50; go_wp2; go_quiet (fail); go_wp2; go_ret; have hX : (0 : Int) ≤ (v : Int) * 131 + (v' : Int) * 1117 + (p : Int) * 29 + (p : Int) / (n : Int) * 53 := qaa; have a9 : (v : Int) * 131 + (v' : Int) * 1117 + (p : Int) * 29 + (p : Int) / (n : Int) * 53 < 4611686018427387904 := qaa; obtain ⟨k, hk, a2⟩ := mixed _ m hX a9 a4; exact ⟨k, ⟨retI64 hk, .inr a2⟩, H.out.step _, zid _ _ _ _⟩
theorem Rd.below {w w' : World} {b : Nat} {A : Option Addr} {n c p : Nat} (h : Rd w b A n c p) (hb : Below w.heap.size w w') : Rd w' b A n c p := by
  obtain ⟨h1, h2, h3, h4, h5⟩ := h; exact ⟨Nat.lt_of_lt_of_le h1 hb.size, (hb.cell (p := ⟨b, 0, none⟩) h1).trans h2, (hb.cell (p := ⟨b, 1, none⟩) h1).trans h3, (hb.frozen (p := ⟨b, 1, none⟩) h1).trans h4, h5.keep fun q hq => hb.cell qaa⟩
def strOk (q : ByteArray → Bool) (v : Value) : Bool := match v with
  | .string s => q s
  | _ => false
theorem laid (q : ByteArray → Bool) (w : World) (cs : Array Value) (t : TypeId) (h : cs.toList.all (strOk q) = true) : ∀ i, i < cs.size → ∃ s, (w.alloc (.cells cs t)).cell? ⟨w.heap.size, i, none⟩ = some (.string s) ∧ q s = true := by
  intro i hi; have hv := List.all_eq_true.1 h cs[i] qag; have hc : (w.alloc (.cells cs t)).cell? ⟨w.heap.size, i, none⟩ = some cs[i] := by simp [go_sem, hi]
  unfold strOk at hv; split at hv
  · rename_i s hs
    exact ⟨s, by rw [hc, hs], hv⟩
  · simp at hv
def OfPost (Q : ByteArray → Prop) (b : Nat) (A : Option Addr) (n c p : Nat) (w : World) (e : Ending) (w' : World) : Prop :=
  ∃ s : ByteArray, (e = .returned (.string s) ∧ Q s) ∧ Rd w' b A n c (p + 1) ∧ w.grownBy w' (some b)
theorem of_any (Q : ByteArray → Prop) (b g m : Nat) (A : Option Addr) (n c p : Nat) (w : World) (h : Rd w b A n c p) (hp : p ≤ 1099511627776) (hm : 0 < m) (hm' : m ≤ 1048576) (hg : g ≠ b)
    (hl : ∀ i, i < m → ∃ s, w.cell? ⟨g, i, none⟩ = some (.string s) ∧ Q s) :
    Calls Tryz.prog 66 #[.pointer (some ⟨b, 0, none⟩), .slice (some ⟨g, 0, none⟩) m m] w (OfPost Q b A n c p w) := by
  have HL := hid hl; clear hl; go_enter Tryz.func66, Tryz.ntmps66; go_wp2_with fail; refine (zav b A n c p _ _ h hp qaa).mono ?_; rintro e w1 ⟨k, ⟨rfl, hk⟩, a4, a2⟩; have a3 : k < m := qaa; clear hk; obtain ⟨s, hs, hq⟩ := HL.out k a3; have hs1 : w1.cell? ⟨g, k, none⟩ = some (.string s) := a2.cell hs (by simp [hg]); have hk0 : (0 : Int) ≤ (k : Int) := qaa; have hk1 : (k : Int) < (m : Int) := qaa; go_wp2; go_ret; exact ⟨s, ⟨rfl, hq⟩, a4, a2⟩
theorem of_laid (q : ByteArray → Bool) (b m : Nat) (A : Option Addr) (n c p : Nat) (w : World) (cs : Array Value) (t : TypeId) (h : Rd w b A n c p) (hp : p ≤ 1099511627776) (hc : cs.size = m) (hm : 0 < m) (hm' : m ≤ 1048576) (hq : cs.toList.all (strOk q) = true) :
    Calls Tryz.prog 66 #[.pointer (some ⟨b, 0, none⟩), .slice (some ⟨w.heap.size, 0, none⟩) m m] (w.alloc (.cells cs t)) (OfPost (fun s => q s = true) b A n c p (w.alloc (.cells cs t))) :=
  of_any _ b _ m A n c p _ (h.below (zac _ _)) hp hm hm' (fun e => by have := h.1; omega) (fun i hi => laid q w cs t hq i qaa)
def OpenPost (A : Option Addr) (c : Nat) (w : World) (e : Ending) (w' : World) : Prop :=
  ∃ b n', (e = .returned (.pointer (some ⟨b, 0, none⟩)) ∧ w.heap.size ≤ b) ∧ Rd w' b A n' c 0 ∧ Below w.heap.size w w'
theorem IsBytes.less {w : World} {hi : Nat} {A : Option Addr} {n n' c : Nat} (h : IsBytes w hi A n c) (hn : n' ≤ n) : IsBytes w hi A n' c := by
  obtain ⟨h1, h2, h3⟩ := h; refine ⟨by omega, h2, fun h0 => ?_⟩; obtain ⟨q, hq, hb, hc⟩ := h3 qaa; exact ⟨q, hq, hb, fun k hk => hc k qaa⟩
theorem Rd.new {w : World} {A : Option Addr} {n c : Nat} (h : IsBytes w w.heap.size A n c) (t : TypeId) : Rd (w.alloc (.cells #[.slice A n c, .int .i64 0] t)) w.heap.size A n c 0 := by
  refine ⟨by simp, ?_, ?_, ?_, h.keep fun q hq => World.cell?_alloc_lt w _ q hq⟩ <;> simp [go_sem]
theorem open_any (A : Option Addr) (n c : Nat) (w : World) (h : IsBytes w w.heap.size A n c) :
    Calls Tryz.prog 25 #[.slice A n c] w (OpenPost A c w) := by
  have hn : n ≤ maxLen := by have := h.1; have := h.2.1; omega
  have hc : n ≤ c := h.1; have a2 : c ≤ maxLen := h.2.1; unfold maxLen at hn a2; have H := hid h; clear h; by_cases hb : 2000 < (n : Int)
  · go_enter Tryz.func25, Tryz.ntmps25
    go_wp2; go_ret; exact ⟨_, 2000, ⟨rfl, nl _⟩, Rd.new (H.out.less qaa) _, zac _ _⟩
  · go_enter Tryz.func25, Tryz.ntmps25
    go_wp2; go_ret; exact ⟨_, n, ⟨rfl, nl _⟩, Rd.new H.out _, zac _ _⟩
end Go.Proofs.YtogonjkklioaaaaGreatDoor
namespace Go.Proofs.YtogonjkklioaaaaGreatDoor
open Go.RowKit
theorem zad {a b c : World} {row : Option Nat} (h : a.grownBy b row) (k : b.grownBy c row) : a.grownBy c row :=
  ⟨k.os.trans h.os, k.tape.trans h.tape, k.output.trans h.output, Nat.le_trans h.size k.size, fun i hi hne => (k.block i (Nat.lt_of_lt_of_le hi h.size) hne).trans (h.block i hi hne)⟩
theorem zfu {a b : World} {row row' : Option Nat} {B : Nat} (h : b.grownBy a row') (hB : B ≤ b.heap.size) (hr : ∀ g, row' = some g → B ≤ g) {o : World} (k : o.grownBy b row) (ho : o.heap.size ≤ B) : o.grownBy a row :=
  ⟨h.os.trans k.os, h.tape.trans k.tape, h.output.trans k.output, Nat.le_trans k.size h.size, fun i hi hne => (h.block i qaa (fun e => by have := hr i e.symm; omega)).trans (k.block i hi hne)⟩
def WordPost (b : Nat) (A : Option Addr) (n c p : Nat) (w : World) (e : Ending) (w' : World) : Prop :=
  ∃ s : ByteArray, (e = .returned (.string s) ∧ s.size ≤ 16) ∧ Rd w' b A n c (p + 1) ∧ w.grownBy w' (some b)
theorem ZDraw1 {p : Prop} (h : p := by
  go_wp2_with fail; refine (of_laid (fun s => decide (s.size ≤ 16)) b _ A n c p w _ _ h hp qad qaa qaa qad).mono ?_; rintro e w2 ⟨s, ⟨rfl, hs⟩, hr2, hg2⟩; go_wp2; go_ret; exact ⟨s, ⟨rfl, by simpa using hs⟩, hr2, zad (zae (zac _ _) _) hg2⟩) : p := h
theorem word_draw (b : Nat) (A : Option Addr) (n c p : Nat) (w : World) (h : Rd w b A n c p) (hp : p ≤ 1099511627776) :
    Calls Tryz.prog 115 #[.pointer (some ⟨b, 0, none⟩)] w (WordPost b A n c p w) := by
  go_enter Tryz.func115, Tryz.ntmps115; exact ZDraw1
theorem var_draw (b : Nat) (A : Option Addr) (n c p : Nat) (w : World) (h : Rd w b A n c p) (hp : p ≤ 1099511627776) :
    Calls Tryz.prog 114 #[.pointer (some ⟨b, 0, none⟩)] w (WordPost b A n c p w) := by
  go_enter Tryz.func114, Tryz.ntmps114; exact ZDraw1
def ArgsPost (w : World) (e : Ending) (w' : World) : Prop := (∃ k : Nat, e = .returned (.int .i64 (k : Int)) ∧ k ≤ 3) ∧ w = w'
theorem args_any (s : ByteArray) (w : World) : Calls Tryz.prog 113 #[.string s] w (ArgsPost w) := by
  go_enter Tryz.func113, Tryz.ntmps113; go_wp2
  all_goals (go_ret; first | exact ⟨⟨2, rfl, by omega⟩, rfl⟩ | exact ⟨⟨0, rfl, by omega⟩, rfl⟩ | exact ⟨⟨3, rfl, by omega⟩, rfl⟩ | exact ⟨⟨1, rfl, by omega⟩, rfl⟩)
def zbe (ts : List Tm) : List Value := ts.flatMap fun t => [.bool t.1, .string t.2]
theorem zlu (ts : List Tm) (t : Tm) : zbe (ts ++ [t]) = zbe ts ++ [.bool t.1, .string t.2] := by simp [zbe]
theorem zkl : ∀ (ts : List Tm) (i : Nat) (t : Tm), ts[i]? = some t → (zbe ts)[i * 2]? = some (.bool t.1) ∧ (zbe ts)[i * 2 + 1]? = some (.string t.2)
  | [], i, t, h => by simp at h
  | x :: r, 0, t, h => by
    simp at h; subst h
    exact ⟨rfl, rfl⟩
  | x :: r, i + 1, t, h => by
    have h' : r[i]? = some t := qbk; obtain ⟨h1, h2⟩ := zkl r i t h'; have e : zbe (x :: r) = [.bool x.1, .string x.2] ++ zbe r := rfl; rw [e, show (i + 1) * 2 = i * 2 + 2 by omega, show i * 2 + 2 + 1 = (i * 2 + 1) + 2 by omega]; exact ⟨h1, h2⟩
theorem zbz {w : World} {base : Nat} {v : Value} {n : Nat} {ts : List Tm} (h : w.ownsRow base 110 2 v n (zbe ts)) (hn : ts.length = n) (hs : ∀ t ∈ ts, t.2.size ≤ 16) :
    ∃ A c, v = .slice A n c ∧ IsTerms w base w.heap.size A n c ts := by
  rcases h.2 with ⟨rfl, rfl⟩ | ⟨g, cap, cur, rfl, hg, hh, hnc, hcm, _, _⟩
  · exact ⟨none, 0, rfl, hn, nl _, Nat.zero_le _, fun h0 => absurd h0 qaa⟩
  · refine ⟨_, cap, rfl, hn, hnc, hcm, fun h0 => ⟨_, rfl, hg, (h.lt g rfl).2, fun i t ht => ?_⟩⟩
    obtain ⟨h1, h2⟩ := zkl ts i t ht; have hc := h.cells (g := g) rfl; exact ⟨hc _ _ h1, hc _ _ h2, by have := hs t (List.mem_of_getElem? ht); unfold maxLen; omega⟩
abbrev Nm (s : ByteArray) : Prop := s.size ≤ 16 ∧ s.data.toList ≠ [122, 122, 122]
def nmB (s : ByteArray) : Bool := decide (s.size ≤ 16) && !(s.data.toList == [122, 122, 122])
theorem nm_of {s : ByteArray} (h : nmB s = true) : Nm s := by
  unfold nmB at h; simp only [Bool.and_eq_true, decide_eq_true_eq, Bool.not_eq_true', beq_eq_false_iff_ne, ne_eq] at h; exact h
def znh (j s : Nat) (b : Nat) (A : Option Addr) (n c p : Nat) (w : World) (e : Ending) (w' : World) : Prop :=
  ∃ (nm : ByteArray) (A' : Option Addr) (k d : Nat) (ts : List Tm) (p' : Nat), (e = .returned (.agg #[.string nm, .slice A' k d]) ∧ Nm nm ∧ k ≤ j ∧ p' ≤ p + s) ∧ ts.length = k ∧ (∀ t ∈ ts, t.2.size ≤ 16) ∧
    w'.ownsRow w.heap.size 110 2 (.slice A' k d) k (zbe ts) ∧ Rd w' b A n c p' ∧ w.grownBy w' (some b)
theorem zhy {w : World} {base base' : Nat} {e : TypeId} {size n : Nat} {v : Value} {xs : List Value} (h : w.ownsRow base e size v n xs) (hb : base' ≤ base) : w.ownsRow base' e size v n xs := by
  refine ⟨h.1, ?_⟩; rcases h.2 with hn | ⟨g, cap, cur, hv, hg, rest⟩
  · exact .inl hn
  · exact .inr ⟨g, cap, cur, hv, by omega, rest⟩
def Bx (w : World) (x : Nat) (u v : Value) : Prop := x < w.heap.size ∧ w.cell? ⟨x, 0, none⟩ = some u ∧ w.cell? ⟨x, 1, none⟩ = some v ∧ w.frozen? ⟨x, 0, none⟩ = false ∧ w.frozen? ⟨x, 1, none⟩ = false
theorem Bx.new (w : World) (u v : Value) (t : TypeId) : Bx (w.alloc (.cells #[u, v] t)) w.heap.size u v := by
  refine ⟨by simp, ?_, ?_, ?_, ?_⟩ <;> simp [go_sem]
theorem Bx.grown {a b : World} {x : Nat} {u v : Value} {row : Option Nat} (h : Bx a x u v) (hg : a.grownBy b row) (hne : some x ≠ row) : Bx b x u v := by
  obtain ⟨h1, h2, h3, h4, h5⟩ := h; exact ⟨Nat.lt_of_lt_of_le h1 hg.size, (hg.cell_far _ h1 hne).trans h2, (hg.cell_far _ h1 hne).trans h3, (hg.frozen_far _ h1 hne).trans h4, (hg.frozen_far _ h1 hne).trans h5⟩
theorem Bx.set1 {a : World} {x : Nat} {u v : Value} (h : Bx a x u v) (v' : Value) : Bx (a.setCell ⟨x, 1, none⟩ v') x u v' := by
  obtain ⟨h1, h2, h3, h4, h5⟩ := h; refine ⟨by rw [zab]; exact h1, ?_, ?_, ?_, ?_⟩
  · rw [World.cell?_setCell_other _ _ _ _ qag]; exact h2
  · simp [go_sem, h3]
  · simp [go_sem, h4]
  · simp [go_sem, h5]
theorem Bx.other {a : World} {x : Nat} {u v : Value} (h : Bx a x u v) {q : Addr} (hq : x ≠ q.block) (y : Value) : Bx (a.setCell q y) x u v := by
  obtain ⟨h1, h2, h3, h4, h5⟩ := h; have hc : ∀ j, (⟨x, j, none⟩ : Addr) ≠ q := fun j e => hq (by rw [← e]); refine ⟨by rw [zab]; exact h1, ?_, ?_, ?_, ?_⟩
  · rw [World.cell?_setCell_other _ _ _ _ qdv]; exact h2
  · rw [World.cell?_setCell_other _ _ _ _ qdv]; exact h3
  · simpa [go_sem] using h4
  · simpa [go_sem] using h5
def Drawing (b : Nat) (A : Option Addr) (n c p : Nat) (w0 : World) (nm : ByteArray) (k : Nat) (w : World) : Prop :=
  ∃ (v : Value) (len : Nat) (ts : List Tm) (p' : Nat), (len + k ≤ 3 ∧ p' ≤ p + 2 * len) ∧ ts.length = len ∧ (∀ t ∈ ts, t.2.size ≤ 16) ∧ w.ownsRow (w0.heap.size + 2) 110 2 v len (zbe ts) ∧
    Bx w w0.heap.size (.string ⟨#[]⟩) (.slice none 0 0) ∧ Bx w (w0.heap.size + 1) (.string nm) v ∧ Rd w b A n c p' ∧ w0.grownBy w (some b)
theorem Rd.grown {w w' : World} {b : Nat} {A : Option Addr} {n c p : Nat} {row : Option Nat} (h : Rd w b A n c p) (hg : w.grownBy w' row) (hne : ∀ g, row = some g → b < g) : Rd w' b A n c p := by
  obtain ⟨h1, h2, h3, h4, h5⟩ := h; have hb : some b ≠ row := fun e => by have := hne b e.symm; omega
  exact ⟨Nat.lt_of_lt_of_le h1 hg.size, (hg.cell_far _ h1 hb).trans h2, (hg.cell_far _ h1 hb).trans h3, (hg.frozen_far _ h1 hb).trans h4, h5.keep fun q hq => hg.cell_far q qaa (fun e => by have := hne _ e.symm; omega)⟩
theorem zgr {a b : World} {row : Option Nat} (h : a.drew.grownBy b row) : a.grownBy b row := ⟨h.os, h.tape, h.output, h.size, h.block⟩
theorem zge {w : World} {base : Nat} {e : TypeId} {size n b : Nat} {v : Value} {xs : List Value} (h : w.ownsRow base e size v n xs) (hb : b < base) : v.ownBlock = none ∨ v.ownBlock ≠ some b := by
  right; intro he; have := (h.lt b he).1; omega
theorem ownFar {w : World} {base : Nat} {e : TypeId} {size n b : Nat} {v : Value} {xs : List Value} (h : w.ownsRow base e size v n xs) (hb : b < base) : some b ≠ v.ownBlock := by
  intro he; have := (h.lt b he.symm).1; omega
theorem Tryz.infoTm : (Tryz.prog.info? 110).map (fun i => (i.zero, i.size, i.bytes)) = some (some (.agg #[.bool false, .string ByteArray.empty]), 2, 24) := by kernel_rfl
theorem Rd.set {w : World} {b : Nat} {A : Option Addr} {n c p : Nat} (h : Rd w b A n c p) {q : Addr} (hq : b < q.block) (y : Value) : Rd (w.setCell q y) b A n c p := by
  obtain ⟨h1, h2, h3, h4, h5⟩ := h; refine ⟨by rw [zab]; exact h1, ?_, ?_, ?_, h5.keep fun a ha => World.cell?_setCell_other _ _ _ _ (fun e => by subst e; omega)⟩
  · rw [World.cell?_setCell_other _ _ _ _ qdv]; exact h2
  · rw [World.cell?_setCell_other _ _ _ _ qdv]; exact h3
  · simpa [go_sem] using h4
theorem Drawing.next {b : Nat} {A A' : Option Addr} {n c p p' q' len k d gg cap : Nat} {w w1 w3 : World} {nm s : ByteArray} {x : Bool} {ts : List Tm} {o : Obj} (hbw : b < w.heap.size)
    (hl : ts.length = len) (hs : ∀ t ∈ ts, t.2.size ≤ 16) (hk : len + k ≤ 3) (hk0 : 0 < k) (hp : p' ≤ p + 2 * len) (hq : q' ≤ p' + 2) (hss : s.size ≤ 16)
    (HO1 : w1.ownsRow (w.heap.size + 2) 110 2 (.slice A' len d) len (zbe ts))
    (hown3 : w3.ownsRow (w.heap.size + 2) 110 2 (.slice (some ⟨gg, 0, none⟩) (len + 1) cap) (len + 1) (zbe ts ++ [.bool x, .string s]))
    (hgrow : (w1.alloc o).grownBy w3 (Value.slice A' len d).ownBlock)
    (RB1 : Bx w1 w.heap.size (.string ⟨#[]⟩) (.slice none 0 0)) (XB1 : Bx w1 (w.heap.size + 1) (.string nm) (.slice A' len d)) (hrd1 : Rd w1 b A n c q') (GG1 : w.grownBy w1 (some b)) :
    Drawing b A n c p w nm (k - 1) (w3.setCell ⟨w.heap.size + 1, 1, none⟩ (.slice (some ⟨gg, 0, none⟩) (len + 1) cap)) := by
  have a2 := zae (zac w1 o) none; have far : ∀ g, (Value.slice A' len d).ownBlock = some g → w.heap.size + 2 ≤ g := fun g hg => (HO1.lt g hg).1; have hsz := XB1.1; refine ⟨.slice (some ⟨gg, 0, none⟩) (len + 1) cap, len + 1, ts ++ [(x, s)], q', ⟨by omega, by omega⟩, by simp [hl], ?_, ?_, ?_, ?_, ?_, ?_⟩
  · intro t ht
    rcases List.mem_append.1 ht with ht | ht
    · exact hs t ht
    · rw [List.mem_singleton.1 ht]; exact hss
  · rw [zlu]
    exact ownsRow_setCell_below hown3 qag _
  · exact ((RB1.grown a2 qag).grown hgrow (fun e => by have := far _ e.symm; omega)).other qag _
  · exact ((XB1.grown a2 qag).grown hgrow (fun e => by have := far _ e.symm; omega)).set1 _
  · exact ((hrd1.grown a2 qag).grown hgrow qdg).set qah _
  · have h1 : w.grownBy w3 (some b) := zfu hgrow (B := w.heap.size + 2) qah far (zad GG1 (zae (zac w1 o) _)) qaa
    exact ⟨h1.os, h1.tape, h1.output, by rw [zab]; exact h1.size, fun i hi hne => (hs_ _ _ _ i qah).trans (h1.block i hi hne)⟩
theorem ZDraw0 {p : Prop} (h : p := by
  go_roundw
  case rel => exact ⟨k - 1, by omega, by rw [show ((k - 1 : Nat) : Int) = (k : Int) - 1 by omega], Drawing.next hbw HL.out HSM.out hl1 hlt hp' qaa hss HO1.out hown3 hgrow RB1 XB1 hrd1 GG1⟩
  case measure => exact qms) : p := h
theorem zho (b : Nat) (A : Option Addr) (n c p : Nat) (nm : ByteArray) (vars : Bool) (w : World) (h : Rd w b A n c p) (hp : p ≤ 1000000) (hnm : Nm nm) :
    Calls Tryz.prog 83 #[.pointer (some ⟨b, 0, none⟩), .string nm, .bool vars] w (znh 3 6 b A n c p w) := by
  have H := hid h; clear h; go_enter Tryz.func83, Tryz.ntmps83; go_wp2_with fail; refine (args_any _ _).mono ?_; rintro e w1 ⟨⟨k, rfl, hk⟩, rfl⟩; go_wp2_with fail; have hR := Bx.new w (.string ⟨#[]⟩) (.slice none 0 0) 51; have c7 := hid (hR.grown (zae (zac _ (.cells #[.string nm, .slice none 0 0] 51)) none) qag); clear hR; have hX := Bx.new (w.alloc (.cells #[.string ⟨#[]⟩, .slice none 0 0] 51)) (.string nm) (.slice none 0 0) 51
  rw [zcj] at hX; have HX := hid hX; clear hX; obtain ⟨i0, hi, hz, hsz, hby⟩ := info_parts Tryz.infoTm; have HI := hid hi; have HZ := hid hz; have HS := hid hsz; have HY := hid hby; clear hi hz hsz hby; have hbw : b < w.heap.size := H.out.1; go_loopw [8] (fun i wr => ∃ k : Nat, k ≤ 3 ∧ i = .int .i64 k ∧ Drawing b A n c p w nm k wr) (fun i _ => (intOf i).toNat)
  case atStart => exact ⟨k, hk, rfl, .slice none 0 0, 0, [], p, ⟨by omega, by omega⟩, rfl, fun t ht => by simp at ht, World.ownsRow_nil _ _ _ _, c7.out, HX.out, H.out.below (zbj _ _ _), zae (zbj _ _ _) _⟩
  case round =>
    obtain ⟨k, hk, rfl, v, len, ts, p', ⟨hl1, hp'⟩, hlen, hs, hown, hr, hx, b9, hg⟩ := hrel; obtain ⟨A', d, rfl, hT⟩ := zbz hown hlen hs; have HT := hid hT; clear hT; have HL := hid hlen; clear hlen; have HO := hid hown; clear hown; have HG := hid hg; clear hg; have HSM := hid hs; clear hs; have HRD := hid b9; clear b9; have HRB := hid hr; clear hr; have b7 := hid hx; obtain ⟨x1, x2, x3, x4, x5⟩ := hx; by_cases hlt : 0 < k
    · cases vars
      · have b6 := hid (show Rd wr.drew b A n c p' from HRD.out)
        go_wp2_with fail
        go_region_law (first
          | (refine step_append_lies _ qad _ _ _ qad (w.heap.size + 2) 110 i0 _ 2 24 Tryz.underlying49 HI.out HZ.out HS.out HY.out rfl qaa (.slice A' len d) len (zbe ts) qad (HO1.out.alloc _) ⟨w1.heap.size, 0, none⟩ 1 1 [.bool false, .string s] qad qad (World.news_of_block (cs := #[.bool false, .string s]) (t := 110) (fr := (0, 0)) (heap_alloc_new w1 _)) qal qaa qaf qaa (by have := XB1.1; simp; omega) (w1.heap.size + 1) qag ?_; intro gg cap w3 hown3 hgrow hat hlt3; have a5 := a6.grown hgrow (ownFar HO1.out qaa); have z3 := a5.2.2.1; have z5 := a5.2.2.2.2)
          | ((go_simp; go_at_call 115; refine (word_draw b A n c _ _ b6.out qaa).mono ?_); rintro e w1 ⟨s, ⟨rfl, hss⟩, hrd1, a2⟩; have a3 : World.grownBy wr w1 (some b) := zgr a2; clear a2; have XB1 := b7.out.grown a3 qah; have y3 := XB1.2.2.1; have y2 := XB1.2.1; have RB1 := HRB.out.grown a3 qah; have HO1 := hid (World.ownsRow.kept (w' := w1) HO.out a3 (zge HO.out qaa)); have GG1 := zad HG.out a3; have a6 := XB1.grown (zae (zac w1 (.cells #[.bool false, .string s] 110)) none) qag; have c0 := a6.2.2.1))
        all_goals go_wp2
        all_goals
          exact ZDraw0
      · go_wp2_with fail
        refine (zav b A n c p' _ wr HRD.out qaa qaa).mono ?_; rintro e wp ⟨kk, ⟨rfl, hkk⟩, b3, b4⟩; clear hkk x1 x2 x3 x4 x5; have a7 := hid (show Rd wp.drew b A n c (p' + 1) from b3); have a8 := hid (b7.out.grown b4 qah); have a9 := hid (HRB.out.grown b4 qah); have b5 := hid (World.ownsRow.kept (w' := wp) HO.out b4 (zge HO.out qaa)); have c3 := hid (zad HG.out b4); clear b3 b4; obtain ⟨x1, x2, x3, x4, x5⟩ := a8.out; by_cases h0 : 0 < kk
        · go_wp2_with fail
          go_region_law (first
            | (refine step_append_lies _ qad _ _ _ qad (w.heap.size + 2) 110 i0 _ 2 24 Tryz.underlying49 HI.out HZ.out HS.out HY.out rfl qaa (.slice A' len d) len (zbe ts) qad (HO1.out.alloc _) ⟨w1.heap.size, 0, none⟩ 1 1 [.bool true, .string s] qad qad (World.news_of_block (cs := #[.bool true, .string s]) (t := 110) (fr := (0, 0)) (heap_alloc_new w1 _)) qal qaa qaf qaa (by have := XB1.1; simp; omega) (w1.heap.size + 1) qag ?_; intro gg cap w3 hown3 hgrow hat hlt3; have a5 := a6.grown hgrow (ownFar HO1.out qaa); have z3 := a5.2.2.1; have z5 := a5.2.2.2.2)
            | ((go_simp; go_at_call 114; refine (var_draw b A n c _ _ a7.out qaa).mono ?_); rintro e w1 ⟨s, ⟨rfl, hss⟩, hrd1, a2⟩; have a3 : World.grownBy wp w1 (some b) := zgr a2; clear a2; have XB1 := a8.out.grown a3 qah; have y3 := XB1.2.2.1; have y2 := XB1.2.1; have RB1 := a9.out.grown a3 qah; have HO1 := hid (World.ownsRow.kept (w' := w1) b5.out a3 (zge b5.out qaa)); have GG1 := zad c3.out a3; have a6 := XB1.grown (zae (zac w1 (.cells #[.bool true, .string s] 110)) none) qag; have c0 := a6.2.2.1))
          all_goals go_wp2
          all_goals
            exact ZDraw0
        · go_wp2_with fail
          go_region_law (first
            | (refine step_append_lies _ qad _ _ _ qad (w.heap.size + 2) 110 i0 _ 2 24 Tryz.underlying49 HI.out HZ.out HS.out HY.out rfl qaa (.slice A' len d) len (zbe ts) qad (HO1.out.alloc _) ⟨w1.heap.size, 0, none⟩ 1 1 [.bool false, .string s] qad qad (World.news_of_block (cs := #[.bool false, .string s]) (t := 110) (fr := (0, 0)) (heap_alloc_new w1 _)) qal qaa qaf qaa (by have := XB1.1; simp; omega) (w1.heap.size + 1) qag ?_; intro gg cap w3 hown3 hgrow hat hlt3; have a5 := a6.grown hgrow (ownFar HO1.out qaa); have z3 := a5.2.2.1; have z5 := a5.2.2.2.2)
            | ((go_simp; go_at_call 115; refine (word_draw b A n c _ _ a7.out qaa).mono ?_); rintro e w1 ⟨s, ⟨rfl, hss⟩, hrd1, a2⟩; have a3 : World.grownBy wp w1 (some b) := zgr a2; clear a2; have XB1 := a8.out.grown a3 qah; have y3 := XB1.2.2.1; have y2 := XB1.2.1; have RB1 := a9.out.grown a3 qah; have HO1 := hid (World.ownsRow.kept (w' := w1) b5.out a3 (zge b5.out qaa)); have GG1 := zad c3.out a3; have a6 := XB1.grown (zae (zac w1 (.cells #[.bool false, .string s] 110)) none) qag; have c0 := a6.2.2.1))
          all_goals go_wp2
          all_goals
            exact ZDraw0
    · obtain ⟨r1, r2, r3, r4, r5⟩ := HRB.out
      go_wp2; have a4 := HG.out; refine bodyPost_ret (v := .agg #[.string nm, .slice A' len d]) (by simp [results, Tryz.results83, go_sem, r2, r3]) rfl ⟨nm, A', len, d, ts, p', ⟨rfl, hnm, by omega, by omega⟩, HL.out, HSM.out, ?_, ?_, ?_⟩
      · exact zhy (ownsRow_setCell_below (ownsRow_setCell_below HO.out qag _) qag _) qaa
      · exact (HRD.out.set qah _).set qah _
      · exact ⟨a4.os, a4.tape, a4.output, by rw [zab, zab]; exact a4.size, fun i hi hne => ((hs_ _ _ _ i qah).trans (hs_ _ _ _ i qah)).trans (a4.block i hi hne)⟩
end Go.Proofs.YtogonjkklioaaaaGreatDoor
namespace Go.Proofs.YtogonjkklioaaaaGreatDoor
open Go.RowKit
theorem zfr (q : ByteArray → Bool) (g b m : Nat) (A : Option Addr) (n c p : Nat) (w : World) (cs : Array Value) (t : TypeId) (hg : w.heap.size = g) (h : Rd w b A n c p) (hp : p ≤ 1099511627776) (hc : cs.size = m) (hm : 0 < m) (hm' : m ≤ 1048576) (hq : cs.toList.all (strOk q) = true) :
    Calls Tryz.prog 66 #[.pointer (some ⟨b, 0, none⟩), .slice (some ⟨g, 0, none⟩) m m] (w.alloc (.cells cs t)) (OfPost (fun s => q s = true) b A n c p (w.alloc (.cells cs t))) := by
  subst hg; exact of_laid q b m A n c p w cs t h hp hc hm hm' hq
theorem Rd.drawn {w : World} {b : Nat} {A : Option Addr} {n c p : Nat} (h : Rd w b A n c p) : Rd w.drew b A n c p := h
theorem laidKept (q : ByteArray → Bool) {w w' : World} {b m : Nat} {cs : Array Value} {t : TypeId} (hm : cs.size = m) (hq : cs.toList.all (strOk q) = true) (hg : (w.alloc (.cells cs t)).grownBy w' (some b)) (hb : w.heap.size ≠ b) :
    ∀ i, i < m → ∃ s, w'.cell? ⟨w.heap.size, i, none⟩ = some (.string s) ∧ q s = true := by
  intro i hi; obtain ⟨s, hs, a2⟩ := laid q w cs t hq i qaa; exact ⟨s, hg.cell hs (by simp [hb]), a2⟩
theorem Bx.set0 {a : World} {x : Nat} {u v : Value} (h : Bx a x u v) (u' : Value) : Bx (a.setCell ⟨x, 0, none⟩ u') x u' v := by
  obtain ⟨h1, h2, h3, h4, h5⟩ := h; refine ⟨by rw [zab]; exact h1, ?_, ?_, ?_, ?_⟩
  · simp [go_sem, h2]
  · rw [World.cell?_setCell_other _ _ _ _ qag]; exact h3
  · simp [go_sem, h4]
  · simp [go_sem, h5]
def AnyAt (j s : Nat) (b : Nat) (A : Option Addr) (n c p : Nat) (w : World) (B x : Nat) (W : World) (nm : ByteArray) (v : Value) (len : Nat) : Prop :=
  ∃ (ts : List Tm) (p' : Nat), (Nm nm ∧ len ≤ j ∧ p' ≤ p + s) ∧ ts.length = len ∧ (∀ t ∈ ts, t.2.size ≤ 16) ∧ W.ownsRow B 110 2 v len (zbe ts) ∧ v.ownBlock ≠ some x ∧
    Bx W w.heap.size (.string ⟨#[]⟩) (.slice none 0 0) ∧ Bx W x (.string nm) v ∧ Rd W b A n c p' ∧ w.grownBy W (some b)
theorem AnyAt.pick {j s b n c p B x len : Nat} {A : Option Addr} {w W W' : World} {nm : ByteArray} {v : Value} {ts : List Tm} {p' : Nat} (hb : b < w.heap.size) (hB : w.heap.size < B) (hx : B ≤ x)
    (h0 : Nm nm ∧ len ≤ j ∧ p' ≤ p + s) (h1 : ts.length = len) (h2 : ∀ t ∈ ts, t.2.size ≤ 16) (h3 : W.ownsRow B 110 2 v len (zbe ts)) (h4 : v.ownBlock ≠ some x)
    (h5 : Bx W w.heap.size (.string ⟨#[]⟩) (.slice none 0 0)) (h6 : Bx W x (.string nm) v) (h7 : w.grownBy W (some b)) (hr : Rd W' b A n c (p' + 1)) (hg : W.grownBy W' (some b)) :
    AnyAt j (s + 1) b A n c p w B x W' nm v len :=
  ⟨ts, p' + 1, ⟨h0.1, h0.2.1, by omega⟩, h1, h2, World.ownsRow.kept h3 hg (zge h3 qaa), h4, h5.grown hg qah, h6.grown hg qah, hr, zad h7 hg⟩
theorem AnyAt.done {j s b n c p B x len : Nat} {A : Option Addr} {w W : World} {nm : ByteArray} {v : Value} (hb : b < w.heap.size) (hB : w.heap.size < B) (h : AnyAt j s b A n c p w B x W nm v len) :
    znh j s b A n c p w (.returned (.agg #[.string nm, v])) ((W.setCell ⟨w.heap.size, 0, none⟩ (.string nm)).setCell ⟨w.heap.size, 1, none⟩ v) := by
  obtain ⟨ts, p', h0, h1, h2, h3, h4, h5, h6, h7, h8⟩ := h; obtain ⟨A', d, rfl, hT⟩ := zbz h3 h1 h2; refine ⟨nm, A', len, d, ts, p', ⟨rfl, h0⟩, h1, h2, ?_, ?_, ?_⟩
  · exact zhy (ownsRow_setCell_below (ownsRow_setCell_below h3 qah _) qah _) qaa
  · exact (h7.set qah _).set qah _
  · exact ⟨h8.os, h8.tape, h8.output, by rw [zab, zab]; exact h8.size, fun i hi hne => ((hs_ _ _ _ i qah).trans (hs_ _ _ _ i qah)).trans (h8.block i hi hne)⟩
theorem AnyAt.more {j s b n c p B x len p' gg cap : Nat} {A : Option Addr} {w W1 W3 : World} {nm s' : ByteArray} {q : Bool} {v : Value} {ts : List Tm} {o : Obj} (hbw : b < w.heap.size) (hB : w.heap.size < B) (hx : B ≤ x)
    (h0 : Nm nm ∧ len + 1 ≤ j ∧ p' ≤ p + s) (h1 : ts.length = len) (h2 : ∀ t ∈ ts, t.2.size ≤ 16) (hss : s'.size ≤ 16) (HO1 : W1.ownsRow B 110 2 v len (zbe ts)) (h4 : v.ownBlock ≠ some x)
    (h5 : Bx W1 w.heap.size (.string ⟨#[]⟩) (.slice none 0 0)) (h6 : Bx W1 x (.string nm) v) (h7 : Rd W1 b A n c p') (h8 : w.grownBy W1 (some b))
    (hown3 : W3.ownsRow B 110 2 (.slice (some ⟨gg, 0, none⟩) (len + 1) cap) (len + 1) (zbe ts ++ [.bool q, .string s'])) (hgrow : (W1.alloc o).grownBy W3 v.ownBlock) (hat : v.ownBlock = some gg ∨ gg = W1.heap.size + 1) :
    AnyAt j s b A n c p w B x (W3.setCell ⟨x, 1, none⟩ (.slice (some ⟨gg, 0, none⟩) (len + 1) cap)) nm (.slice (some ⟨gg, 0, none⟩) (len + 1) cap) (len + 1) := by
  have a3 := zae (zac W1 o) none; have far : ∀ g, v.ownBlock = some g → B ≤ g := fun g hg => (HO1.lt g hg).1; have hsz := h6.1
  have a4 : gg ≠ x := by
    rcases hat with hat | hat
    · intro e; rw [e] at hat; exact h4 hat
    · omega
  have a2 : (Value.slice (some ⟨gg, 0, none⟩) (len + 1) cap).ownBlock ≠ some x := by
    intro e; injection e with e; exact a4 e
  refine ⟨ts ++ [(q, s')], p', h0, by simp [h1], ?_, ?_, a2, ?_, ?_, ?_, ?_⟩
  · intro t ht
    rcases List.mem_append.1 ht with ht | ht
    · exact h2 t ht
    · rw [List.mem_singleton.1 ht]; exact hss
  · rw [zlu]
    exact ownsRow_setCell_other hown3 a2 _
  · exact ((h5.grown a3 qag).grown hgrow (fun e => by have := far _ e.symm; omega)).other qah _
  · exact ((h6.grown a3 qag).grown hgrow (fun e => h4 e.symm)).set1 _
  · exact ((h7.grown a3 qag).grown hgrow qdg).set qah _
  · have h1 : w.grownBy W3 (some b) := zfu hgrow (B := B) qah far (zad h8 (zae (zac W1 o) _)) qaa
    exact ⟨h1.os, h1.tape, h1.output, by rw [zab]; exact h1.size, fun i hi hne => (hs_ _ _ _ i qah).trans (h1.block i hi hne)⟩
theorem zkg (b : Nat) (A : Option Addr) (n c p : Nat) (w : World) (h : Rd w b A n c p) (hp : p ≤ 999000) :
    Calls Tryz.prog 51 #[.pointer (some ⟨b, 0, none⟩)] w (znh 8 40 b A n c p w) := by
  have H := hid h; clear h; have hbw : b < w.heap.size := H.out.1; go_enter Tryz.func51, Tryz.ntmps51; go_wp2_with fail; refine (zfr nmB (w.heap.size + 1) b _ A n c p _ _ _ qag (H.out.below (zac _ _)) qaa qad qaa qaa qad).mono ?_; rintro e w1 ⟨s, ⟨rfl, hs⟩, g5, c3⟩; have g1 := hid g5; have b5 := zad (zae (zbj w _ _) (some b)) c3; have c7 := hid b5; have d7 := Bx.new w (.string ⟨#[]⟩) (.slice none 0 0) 51; have HX1 := hid ((d7.grown (zae (zac _ _) none) qag).grown c3 qah); clear g5 b5 d7 c3
  go_wp2_with fail; refine (zho b A n c (p + 1) s true w1 g1.out qaa (nm_of hs)).mono ?_; rintro e w2 ⟨nm, A', k, d, ts, p', ⟨rfl, hnm, hk, hp'⟩, hlen, hs', hown, g2, hg2⟩; have i3 := c7.out.size; have i5 := hg2.size; have hlx := HX1.out.1; have e7 := zad c7.out hg2; have HG2 := hid (zad e7 (zae (zac w2 (.cells #[.string nm, .slice A' k d] 51)) (some b))); have e8 := hid ((HX1.out.grown hg2 qah).grown (zae (zac w2 (.cells #[.string nm, .slice A' k d] 51)) none) qag); have g6 := hid (Bx.new w2 (.string nm) (.slice A' k d) 51)
  have g0 := hid (g2.below (zac w2 (.cells #[.string nm, .slice A' k d] 51))); have HO2 := hid (hown.alloc (.cells #[.string nm, .slice A' k d] 51)); have hne : (Value.slice A' k d).ownBlock ≠ some w2.heap.size := fun e => by have := hown.lt _ e; omega
  have HN := hid hne; have HS := hid hs'; have HL := hid hlen; clear hg2 hown g2 e7 hne hs' hlen; go_wp2_with fail; refine (zav b A n c _ _ _ g0.out qaa qaa).mono ?_; rintro e w3 ⟨kk, ⟨rfl, hkk⟩, hrd3, hg3⟩; have HY := hid (AnyAt.pick (j := 3) (s := 7) (p := p) hbw (B := w1.heap.size) qaa qaa ⟨hnm, hk, by omega⟩ HL.out HS.out HO2.out HN.out e8.out g6.out HG2.out hrd3 hg3); clear HG2 e8 g6 g0 HO2 HN HS HL hrd3 hg3 c7 HX1 g1; by_cases k0 : kk = 0
  · subst k0
    obtain ⟨a7, p3, ⟨q1, q2, q3⟩, q4, q5, q6, q7, q8, q9, a5, a6⟩ := HY.out; have R3 := hid a5; have O3 := hid q6; have X3 := hid q8; have Y3 := hid q9; have G3 := hid a6; have S3 := hid q5; have L3 := hid q4; have N3 := hid q7; clear q4 q5 q6 q7 q8 q9 a5 a6 HY; go_wp2_with fail; refine (zfr nmB w3.heap.size b _ A n c _ w3 _ _ rfl R3.out qaa qad qaa qaa qad).mono ?_; rintro e w4 ⟨s', ⟨rfl, h7⟩, a8, a4⟩; have a9 := zad (zae (zac w3 _) (some b)) a4; have Y4 := Y3.out.grown a9 qah; have X4 := hid (X3.out.grown a9 qah); have b6 := hid Y4; obtain ⟨x1, x2, x3, x4, x5⟩ := Y4; obtain ⟨y1, y2, y3, y4, y5⟩ := X4.out
    go_wp2
    have W5 : AnyAt 8 40 b A n c p w w1.heap.size w2.heap.size (w4.setCell ⟨w2.heap.size, 0, none⟩ (.string s')) s' (.slice A' k d) k := by
      have hg3 := G3.out; refine ⟨a7, p3 + 1, ⟨nm_of h7, by omega, by omega⟩, L3.out, S3.out, ?_, N3.out, X4.out.other qah _, b6.out.set0 _, a8.set qah _, ?_⟩
      · exact ownsRow_setCell_other (World.ownsRow.kept (O3.out.alloc _) a4 (zge O3.out qaa)) N3.out _
      · have h8 := zad hg3 a9
        exact ⟨h8.os, h8.tape, h8.output, by rw [zab]; exact h8.size, fun i hi hne => (hs_ _ _ _ i qah).trans (h8.block i hi hne)⟩
    refine bodyPost_ret (v := .agg #[.string s', .slice A' k d]) qbi rfl ?_; exact W5.done hbw qaa
  · by_cases k1 : kk = 1
    · subst k1
      obtain ⟨i0, hi, hz, hsz, hby⟩ := info_parts Tryz.infoTm; have HI := hid hi; have HZ := hid hz; have HSZ := hid hsz; have HYY := hid hby; clear hi hz hsz hby k0 hkk; obtain ⟨a7, p3, ⟨q1, q2, q3⟩, q4, q5, q6, q7, q8, q9, a5, a6⟩ := HY.out; have R3 := hid (show Rd w3.drew b A n c p3 from a5); have O3 := hid q6; have X3 := hid q8; have Y3 := hid q9; have G3 := hid a6; have S3 := hid q5; have L3 := hid q4; have N3 := hid q7; have y0 := q9.2.2.1; have hb3 := a5.1; have i6 := hid a5; have cu0 := zfa y0; clear q4 q5 q6 q7 q8 q9 a5 a6 HY; go_wp2_with fail
      go_region_law (first
        | (refine step_append_lies _ qad _ _ _ qad w1.heap.size 110 i0 _ 2 24 Tryz.underlying49 HI.out HZ.out HSZ.out HYY.out rfl qaa (.slice A' k d) k (zbe a7) qad (O5.out.alloc _) ⟨w5.heap.size, 0, none⟩ 1 1 [.bool ((kk : Int) == 0), .string s'] qad qad (World.news_of_block (cs := #[.bool ((kk : Int) == 0), .string s']) (t := 110) (fr := (0, 0)) (heap_alloc_new w5 _)) qal qaa qaf qaa (by have := Y5.1; simp; omega) (w5.heap.size + 1) qag ?_; intro gg cap w6 hown6 hgrow hat hlt6; have Y7 := Y6.grown hgrow (fun e => N3.out e.symm); have z3 := Y7.2.2.1; have z5 := Y7.2.2.2.2)
        | ((go_simp; go_at_call 50; refine (zav b A n c p3 _ _ R3.out qaa qaa).mono ?_); rintro e w4 ⟨kk, ⟨rfl, hkk⟩, a8, a3⟩; have a4 : w3.grownBy w4 (some b) := zgr a3; clear a3; have Y4 := Y3.out.grown a4 qcm; have b4 := Y4.2.2.1; have h6 := zfa b4)
        | ((have i4 := d9; clear i4; go_simp; go_at_call 66; refine (of_any (fun s => decide (s.size ≤ 16) = true) b w3.heap.size 7 A n c _ w4 a8 qaa qaa qaa qaa d9.out).mono ?_); rintro e w5 ⟨s', ⟨rfl, e6⟩, b9, d4⟩; have a2 := zad a4 d4; have Y5 := Y3.out.grown a2 qcm; have h5 := Y5.2.2.1; have O5 := hid (World.ownsRow.kept (w' := w5) O3.out a2 (zge O3.out qaa)); have Y6 := Y5.grown (zae (zac w5 (.cells #[.bool ((kk : Int) == 0), .string s'] 110)) none) qag; have h4 := Y6.2.2.1)
        | ((go_simp; go_at_call 66; refine (zfr (fun s => decide (s.size ≤ 16)) w4.heap.size b _ A n c _ w4 _ _ rfl a8 qaa qad qaa qaa qad).mono ?_); rintro e w5 ⟨s', ⟨rfl, e6⟩, b9, d4⟩; have c0 := zad (zae (zac w4 _) (some b)) d4; have a2 := zad a4 c0; have Y5 := Y3.out.grown a2 qcm; have h5 := Y5.2.2.1; have O5 := hid (World.ownsRow.kept (w' := w5) O3.out a2 (zge O3.out qaa)); have Y6 := Y5.grown (zae (zac w5 (.cells #[.bool ((kk : Int) == 0), .string s'] 110)) none) qag; have h4 := Y6.2.2.1)
        | ((go_simp; go_at_call 50; refine (zav b A n c p3 _ _ (i6.out.below (zac _ _)).drawn qaa qaa).mono ?_); rintro e w4 ⟨kk, ⟨rfl, hkk⟩, a8, a3⟩; have b3 := zgr a3; have d9 := hid (laidKept (fun s => decide (s.size ≤ 16)) (m := 7) qad qad b3 qaa); have a4 : w3.grownBy w4 (some b) := zad (zae (zac w3 _) (some b)) b3; clear a3 b3; have Y4 := Y3.out.grown a4 qcm; have b4 := Y4.2.2.1; have h6 := zfa b4))
      all_goals
        have X5 := X3.out.grown a2 qcm; have W7 := hid (AnyAt.more (j := 8) (s := 40) (p := p) (p' := p3 + 1 + 1) (B := w1.heap.size) (x := w2.heap.size) hbw qaa qaa ⟨q1, by omega, by omega⟩ L3.out S3.out (of_decide_eq_true e6) O5.out N3.out X5 Y5 b9 (zad G3.out a2) hown6 hgrow hat); have X6 := X5.grown (zae (zac w5 (.cells #[.bool ((kk : Int) == 0), .string s'] 110)) none) qag; have X7 := X6.grown hgrow (fun e => by have := (O5.out.lt _ e.symm).1; omega); obtain ⟨y1, y2, y3, y4, y5⟩ := X7; obtain ⟨x1, x2, x3, x4, x5⟩ := Y7; clear hgrow hown6 hat a2 b9 a8 Y5 Y6 X5 X6 a4
        go_wp2; refine bodyPost_ret (v := .agg #[.string nm, .slice (some ⟨gg, 0, none⟩) (k + 1) cap]) qbi rfl ?_; exact W7.out.done hbw qaa
    · by_cases k2 : kk = 2
      · subst k2
        obtain ⟨i0, hi, hz, hsz, hby⟩ := info_parts Tryz.infoTm; have HI := hid hi; have HZ := hid hz; have HSZ := hid hsz; have HYY := hid hby; clear hi hz hsz hby k0 k1 hkk; go_wp2_with fail; go_loopw [] (fun wr => ∃ (v : Value) (len : Nat), len ≤ 4 ∧ AnyAt 8 (10 + 2 * len) b A n c p w w1.heap.size w2.heap.size wr nm v len) (fun wr => match wr.cell? ⟨w2.heap.size, 1, none⟩ with | some (.slice _ len _) => 5 - len | _ => 0)
        case atStart =>
          obtain ⟨a7, p3, ⟨q1, q2, q3⟩, q4⟩ := HY.out; exact ⟨_, k, by omega, a7, p3, ⟨q1, by omega, by omega⟩, q4⟩
        case round =>
          obtain ⟨v, len, hl4, a7, p3, ⟨q1, q2, q3⟩, q4, q5, q6, q7, q8, q9, a5, a6⟩ := hrel; obtain ⟨b7, d', rfl, hT⟩ := zbz q6 q4 q5; clear hT HY; have R3 := hid (show Rd wr.drew b A n c p3 from a5); have O3 := hid q6; have X3 := hid q8; have Y3 := hid q9; have G3 := hid a6; have S3 := hid q5; have L3 := hid q4; have N3 := hid q7; have y0 := q9.2.2.1; clear q4 q5 q6 q7 q8 q9 a5 a6; have g8 := hid (show ∀ m : Nat, m < 2 → IntKind.i64.wrap (3 + (m : Int)) = 3 + (m : Int) from fun m hm => by rw [IntKind.wrap_i64]; omega); go_wp2_with fail
          go_region_held3 (fun W => W.cell? ⟨w2.heap.size, 1, none⟩ = some (.slice b7 len d'))
            (first | exact y0 | exact b4)
            (((with_reducible refine (zav b A n c p3 _ _ R3.out qaa qaa).mono ?_); rintro e w4 ⟨kk, ⟨rfl, hkk⟩, a8, a3⟩; have a4 : wr.grownBy w4 (some b) := zgr a3; clear a3; have Y4 := Y3.out.grown a4 qcm; have b4 := Y4.2.2.1; have hk2 : kk < 2 := qaa; have hw3 := g8.out kk hk2))
          have X4 := X3.out.grown a4 qah; have g7 := hid X4; have b6 := hid Y4; have O4 := hid (World.ownsRow.kept (w' := w4) O3.out a4 (zge O3.out qaa)); have G4 := hid (zad G3.out a4); have R4 := hid a8; clear a8 hkk a4; obtain ⟨x1, x2, x3, x4, x5⟩ := Y4; by_cases hlt : len < 3 + kk
          · have i1 : (len : Int) < 3 + (kk : Int) := qaa
            go_wp2_with (at_builtin; refine wpList_append_lies _ qad _ _ _ qad w1.heap.size 110 i0 _ 2 24 Tryz.underlying49 HI.out HZ.out HSZ.out HYY.out rfl qaa (.slice b7 len d') len (zbe a7) qad (O4.out.alloc _) ⟨w4.heap.size, 0, none⟩ 1 1 [.bool false, .string ⟨#[97]⟩] qad qad (World.news_of_block (cs := #[.bool false, .string ⟨#[97]⟩]) (t := 110) (fr := (0, 0)) (heap_alloc_new w4 _)) qal qaa qaf qaa qah (w4.heap.size + 1) qag ?_; intro gg cap w5 hown5 hgrow hat hlt5; have Y5 := (b6.out.grown (zae (zac w4 (.cells #[.bool false, .string ⟨#[97]⟩] 110)) none) qag).grown hgrow (fun e => N3.out e.symm); have z3 := Y5.2.2.1; have z5 := Y5.2.2.2.2)
            refine ⟨⟨_, len + 1, by omega, AnyAt.more hbw qaa qaa ⟨q1, by omega, by omega⟩ L3.out S3.out qan O4.out N3.out g7.out b6.out R4.out G4.out hown5 hgrow hat⟩, ?_⟩; rw [show (w5.setCell ⟨w2.heap.size, 1, none⟩ (.slice (some ⟨gg, 0, none⟩) (len + 1) cap)).cell? ⟨w2.heap.size, 1, none⟩ = some (.slice (some ⟨gg, 0, none⟩) (len + 1) cap) by simp [go_sem, z3], y0]; show 5 - (len + 1) < 5 - len; omega
          · have i1 : ¬ (len : Int) < 3 + (kk : Int) := qaa
            obtain ⟨y1, y2, y3, y4, y5⟩ := X4; go_wp2; have W5 : AnyAt 8 40 b A n c p w w1.heap.size w2.heap.size w4 nm (.slice b7 len d') len := ⟨a7, p3 + 1, ⟨q1, by omega, by omega⟩, L3.out, S3.out, O4.out, N3.out, g7.out, b6.out, R4.out, G4.out⟩; refine bodyPost_ret (v := .agg #[.string nm, .slice b7 len d']) qbi rfl ?_; exact W5.done hbw qaa
      · obtain ⟨a7, p3, ⟨q1, q2, q3⟩, q4, q5, q6, q7, q8, q9, a5, a6⟩ := HY.out
        have X4 := q8; obtain ⟨x1, x2, x3, x4, x5⟩ := q9; have W5 : AnyAt 8 40 b A n c p w w1.heap.size w2.heap.size w3 nm (.slice A' k d) k := ⟨a7, p3, ⟨q1, by omega, by omega⟩, q4, q5, q6, q7, q8, ⟨x1, x2, x3, x4, x5⟩, a5, a6⟩; have W6 := hid W5; obtain ⟨y1, y2, y3, y4, y5⟩ := q8; clear q1 q2 q3 q4 q5 q6 q7 a5 a6 W5; go_wp2; exact bodyPost_ret (v := .agg #[.string nm, .slice A' k d]) qbi rfl (W6.out.done hbw qaa)
end Go.Proofs.YtogonjkklioaaaaGreatDoor

namespace Go.Proofs.YtogonjkklioaaaaGreatDoor
open Go.ChangeShapes Go.WideShapes Go.ChangeAt Go.RowKit Go.Deep Go.Joins
open Go.ChangeMaps (open_string shut_string)
theorem Tryz.own : ownKnob Tryz.prog.godebug = none := by kernel_rfl
theorem Tryz.laidOut : laidOutB Tryz.prog = true := by kernel_rfl
section
variable {H : Type} {enc : TypeId × Value → H} {w : World} {base : Nat} {spare : Nat → Bool} {held : Bool}
end
theorem post_true {H : Type} {enc : TypeId × Value → H} {f : Func} {s : ChangeSpec} {apart : Bool} {W W' : World} {args : Array Value} {ds gs : List (DataW H)} {before pa pv : List MemPlace}
    (hW : DataW.Whole enc Tryz.prog f.params.toList s.vars apart W args.toList ds gs before)
    (hres : DataW.TrodAll enc Tryz.prog W' W.heap.size (fun _ => false) false f.resultTypes.toList ((Value.bool true).resultList f.resultTypes.size) (s.fn H (ds ++ gs)).results [])
    (hargs : DataW.TrodAll enc Tryz.prog W' 0 (fun b => decide (b < W.heap.size)) true f.params.toList args.toList (s.fn H (ds ++ gs)).args pa)
    (hvars : DataW.TrodVars enc Tryz.prog W' (fun b => decide (b < W.heap.size)) s.vars (s.fn H (ds ++ gs)).vars pv)
    (hb : Below W.heap.size W W') :
    s.post enc Tryz.prog f apart true false false W args (.bool true) W' :=
  ⟨ds, gs, before, [], pa, pv, hW, hres, hargs, hvars, hb.frame _, fun h => by cases h⟩
end Go.Proofs.YtogonjkklioaaaaGreatDoor

namespace Go.Proofs.YtogonjkklioaaaaGreatDoor
open Go.ChangeShapes Go.WideShapes Go.ChangeAt Go.RowKit Go.Deep
theorem Tryz.cellsByte : Tryz.prog.cellsOf 5 = 1 := by kernel_rfl
section
variable {H : Type} {enc : TypeId × Value → H} {w : World} {base : Nat} {spare : Nat → Bool} {held : Bool}
theorem open_bytes {b0 : Nat} {v : Value} {d : DataW H} {p : List MemPlace} (hv : Value.okWide Tryz.prog w .any b0 22 v) (h : DataW.Trod enc Tryz.prog w base spare held 22 v d p) :
    ∃ A n c, v = .slice A n c ∧ IsBytes w w.heap.size A n c := by
  obtain ⟨A, n, c, rfl⟩ := okWide_slice Tryz.underlying22 hv; obtain ⟨a2, hf⟩ := h; rcases open_slice1 Tryz.underlying22 Tryz.cellsByte (by simpa [Value.cells] using hf) with ⟨hc, _⟩ | ⟨a, len, cap, m, k, V, D, P, hc, _, hl, hm, hmm, _, hi⟩
  · simp only [List.cons.injEq, and_true, Value.slice.injEq] at hc
    obtain ⟨rfl, rfl, rfl⟩ := hc; exact ⟨none, 0, 0, rfl, nl _, Nat.zero_le _, fun h0 => absurd h0 qaa⟩
  · simp only [List.cons.injEq, and_true, Value.slice.injEq] at hc
    obtain ⟨rfl, rfl, rfl⟩ := hc; have hlm : n ≤ m := by rw [hmm]; split <;> omega
    refine ⟨_, _, _, rfl, hl, hm, fun h0 => ⟨a, rfl, World.block_lt_of_cell? _ _ (by simpa [Addr.add] using (hi 0 qaa).1), fun i hin => ?_⟩⟩; obtain ⟨c1, t1⟩ := hi i qaa; obtain ⟨z, hz, _, hw⟩ := DataW.trod_int Tryz.underlying5 t1; simp only [List.cons.injEq, and_true] at hz
    have hb : 0 ≤ z ∧ z ≤ 255 := by
      have h9 := hw; simp [Lit.wf, IntKind.min, IntKind.max, IntKind.signed, IntKind.bits] at h9; omega
    refine ⟨z.toNat, by omega, ?_⟩; rw [c1, hz, Int.toNat_of_nonneg hb.1]
end
end Go.Proofs.YtogonjkklioaaaaGreatDoor
