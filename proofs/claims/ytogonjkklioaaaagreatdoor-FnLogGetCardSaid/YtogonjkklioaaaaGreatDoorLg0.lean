/-
  Texts of one claim, put together.
-/
import Derived.Deep.RegionHeld3
import Derived.OwnWalkIn
import Derived.Lib.Hide
import Derived.Test.YtogonjkklioaaaaGreatDoorRows
import Derived.WalkSpells
import Derived.WalkLawsBesides
import Derived.ProofKit
import Derived.Deep.SlicePairs
import Derived.Deep.OwnRows
import Derived.Deep.LoopGhost
import Derived.StillTailTactics
set_option maxRecDepth 100000
set_option maxHeartbeats 8000000
namespace Go.Proofs.YtogonjkklioaaaaGreatDoor
open Go Go.RowKit
theorem hid {p : Prop} (h : p) : RowKit.Hid p := h
theorem nl (n : Nat) : n ≤ n := Nat.le_refl n
theorem qms {p : Prop} (h : p := by simp [intOf]; omega) : p := h
theorem cb_ {w w' : World} {a : Addr} (h : w'.heap[a.block]? = w.heap[a.block]?) : w'.cell? a = w.cell? a := World.cell?_of_block h
theorem hs_ (w : World) (a : Addr) (u : Value) (k : Nat) (h : k ≠ a.block) : (w.setCell a u).heap[k]? = w.heap[k]? := Below.heap_setCell w a u k h
theorem qaa {p : Prop} (h : p := by omega) : p := h
theorem qab {p : Prop} (h : p := by kernel_rfl) : p := h
theorem qac {p : Prop} (h : p := by (simp only [List.getElem?_toArray, List.getElem?_cons_succ, List.getElem?_cons_zero]); rfl) : p := h
theorem qad {p : Prop} (h : p := by rfl) : p := h
theorem qae {p : Prop} (h : p := by (simp only [List.setIfInBounds_toArray, List.set_cons_succ, List.set_cons_zero]); rfl) : p := h
theorem qaf {p : Prop} (h : p := by unfold maxLen; omega) : p := h
theorem qag {p : Prop} (h : p := by simp) : p := h
theorem qah {p : Prop} (h : p := by simp; omega) : p := h
theorem qai {p : Prop} (h : p := by show w.heap.size + 1 < _; omega) : p := h
theorem qaj {p : Prop} (h : p := by exact fun e => by injection e with e; omega) : p := h
theorem qak {p : Prop} (h : p := by show w.heap.size < _; omega) : p := h
theorem qal {p : Prop} (h : p := by simp [Value.oneCell']) : p := h
theorem qam {p : Prop} (h : p := by first | exact rcells_one _ | simp [Value.oneCell']) : p := h
theorem qan {p : Prop} (h : p := by decide) : p := h
theorem qao {p : Prop} (h : p := by rw [IntKind.wrap_i64]; omega) : p := h
theorem qap {p : Prop} (h : p := by first | exact tcl_one _ | simp [Value.oneCell']) : p := h
theorem qaq {p : Prop} (h : p := by show (p.add (i * 3)).block < _; rw [zah]; exact hpp) : p := h
theorem qar {p : Prop} (h : p := by cases e) : p := h
theorem qas {p : Prop} (h : p := by rw [zah]; exact Nat.lt_of_lt_of_le hhi hb.size) : p := h
theorem qat {p : Prop} (h : p := by rw [zah]; omega) : p := h
theorem qau {p : Prop} (h : p := by rw [zah]; exact Nat.lt_of_lt_of_le hhi (Nat.le_trans hb.size hb1.size)) : p := h
theorem qav {p : Prop} (h : p := by simp [results, Tryz.results110, go_sem, v0, v1, v2, v3]) : p := h
theorem qaw {p : Prop} (h : p := by rw [zah]; show pb.block < _; omega) : p := h
theorem qax {p : Prop} (h : p := by show (p3.add (k * 2)).block < _; rw [zah]; exact hpp3) : p := h
theorem qay {p : Prop} (h : p := by simp [results, Tryz.results41, go_sem, x0, x1]) : p := h
theorem qaz {p : Prop} (h : p := by have h := J.r4 rfl; have e : ncl rt ++ [.int .i64 (x : Int)] ++ ncl rd = ncl (rt ++ [x] ++ rd) := (by unfold ncl; simp); rw [e] at h; exact h) : p := h
theorem qba {p : Prop} (h : p := by show w.heap.size + 2 < _; omega) : p := h
theorem qbb {p : Prop} (h : p := by simp [results, Tryz.results74, go_sem, x0, x1]) : p := h
theorem qbc {p : Prop} (h : p := by rw [zab, zab]; exact nl _) : p := h
theorem qbd {p : Prop} (h : p := by show (p2.add (j * 2)).block < _; rw [zah]; exact hpp2) : p := h
theorem qbe {p : Prop} (h : p := by show g ≠ b; omega) : p := h
theorem qbf {p : Prop} (h : p := by show g ≠ x; omega) : p := h
theorem qbg {p : Prop} (h : p := by simpa using h0) : p := h
theorem qbh {p : Prop} (h : p := by show b ≠ w.heap.size; omega) : p := h
theorem qbi {p : Prop} (h : p := by simp [results, Tryz.results51, go_sem, y2, y3]) : p := h
theorem qbj {p : Prop} (h : p := by simp [results, Tryz.results14, go_sem, a0, a1]) : p := h
theorem qbk {p : Prop} (h : p := by simpa using h) : p := h
theorem qbl {p : Prop} (h : p := by rw [zab, zab]) : p := h
theorem qbm {p : Prop} (h : p := by rw [zah]; exact hpz) : p := h
theorem qbn {p : Prop} (h : p := by assumption) : p := h
theorem qbo {p : Prop} (h : p := by show w.heap.size + 1 ≠ _; omega) : p := h
theorem qbp {p : Prop} (h : p := by rw [beq_eq_false_iff_ne]; omega) : p := h
theorem qbq {p : Prop} (h : p := by have h := zcs (m := 40) (by omega) HG.out; rw [HL1.out] at h; exact h) : p := h
theorem qbr {p : Prop} (h : p := by show q.block ≠ w.heap.size; omega) : p := h
theorem qbs {p : Prop} (h : p := by show w.heap.size ≤ g; omega) : p := h
theorem qbt {p : Prop} (h : p := by have := (Array.getElem?_eq_some_iff.1 ho).1; exact this) : p := h
theorem qbu {p : Prop} (h : p := by simp [Value.ownBlock]; omega) : p := h
theorem qbv {p : Prop} (h : p := by have := h.2.1; have := h.2.2.1; omega) : p := h
theorem qbw {p : Prop} (h : p := by simp [results, Tryz.results24, go_sem, x2, x3]) : p := h
theorem qbx {p : Prop} (h : p := by rw [← hV]; rfl) : p := h
theorem qby {p : Prop} (h : p := by simp [results, Tryz.results9, go_sem, a0, a1]) : p := h
theorem qbz {p : Prop} (h : p := by simp [results, Tryz.results109, go_sem, u0, u1, u2]) : p := h
theorem qca {p : Prop} (h : p := by show R ≠ w.heap.size; omega) : p := h
theorem qcb {p : Prop} (h : p := by show q ≠ w.heap.size; omega) : p := h
theorem qcc {p : Prop} (h : p := by show w.heap.size ≠ _; omega) : p := h
theorem qcd {p : Prop} (h : p := by rw [zah]; exact hpb) : p := h
theorem qce {p : Prop} (h : p := by simp [results, Tryz.results166, go_sem, b0, b1]) : p := h
theorem qcf {p : Prop} (h : p := by rw [zah]; show p.block < _; omega) : p := h
theorem qcg {p : Prop} (h : p := by exact fun e => by have := congrArg Addr.block e; rw [zah] at this; simp at this; omega) : p := h
theorem qch {p : Prop} (h : p := by rw [zab, zab, zab, zab]) : p := h
theorem qci {p : Prop} (h : p := by exact fun a b => by omega) : p := h
theorem qcj {p : Prop} (h : p := by rw [← hV1]; exact zes V 51 _ BXV.lt) : p := h
theorem qck {p : Prop} (h : p := by show (p.add (i * 3)).block < _; rw [zah]; exact hpb) : p := h
theorem qcl {p : Prop} (h : p := by have h1 := eq_of_beq he; rwa [ByteArray.toList_eq, ByteArray.toList_eq] at h1) : p := h
theorem qcm {p : Prop} (h : p := by exact fun e => by (injection e with e; omega)) : p := h
theorem qcn {p : Prop} (h : p := by simp only [zab]; exact nl _) : p := h
theorem qco {p : Prop} (h : p := by rw [← d5.1]; exact HN.out q (List.mem_of_getElem? hg)) : p := h
theorem qcp {p : Prop} (h : p := by simp [results, Tryz.results15, go_sem]) : p := h
theorem qcq {p : Prop} (h : p := by show (p'.add (k * 2)).block < _; rw [zah]; omega) : p := h
theorem qcr {p : Prop} (h : p := by exact fun e => by simp [Value.ownBlock] at e; omega) : p := h
theorem qcs {p : Prop} (h : p := by simp [Value.ownBlock]) : p := h
theorem qct {p : Prop} (h : p := by simp [results, Tryz.results168, go_sem]) : p := h
theorem qcu {p : Prop} (h : p := by rw [zah]; exact Nat.lt_of_lt_of_le hpb hb1.size) : p := h
theorem qcv {p : Prop} (h : p := by show (p.add (k * 2)).block < _; rw [zah]; omega) : p := h
theorem qcw {p : Prop} (h : p := by show (p.add (i * 3)).block < _; rw [zah]; omega) : p := h
theorem qcx {p : Prop} (h : p := by show (p.add (i * 2)).block < _; rw [zah]; omega) : p := h
theorem qcy {p : Prop} (h : p := by rw [← hV1]; exact HBV.alloc HBV.size _) : p := h
theorem qcz {p : Prop} (h : p := by simp at h0 d0; omega) : p := h
theorem qda {p : Prop} (h : p := by simp only [zcj]; omega) : p := h
theorem qdb {p : Prop} (h : p := by rw [zah]; exact hpp3) : p := h
theorem qdc {p : Prop} (h : p := by rw [zah]; exact Nat.lt_of_lt_of_le hhi hsz) : p := h
theorem qdd {p : Prop} (h : p := by exact fun h => by cases h) : p := h
theorem qde {p : Prop} (h : p := by exact fun e => by omega) : p := h
theorem qdf {p : Prop} (h : p := by rw [HV0.out]; exact ⟨x0, x1, x2⟩) : p := h
theorem qdg {p : Prop} (h : p := by exact fun g hg => by have := far g hg; omega) : p := h
theorem qdh {p : Prop} (h : p := by show b ≠ cb; omega) : p := h
theorem qdi {p : Prop} (h : p := by rw [List.length_take]; omega) : p := h
theorem qdj {p : Prop} (h : p := by have := hE; unfold TextE at this; rwa [Nat.mul_one] at this) : p := h
theorem qdk {p : Prop} (h : p := by rw [← hV11]; exact HB10.alloc HB10.size _) : p := h
theorem qdl {p : Prop} (h : p := by have := hmn.out; omega) : p := h
theorem qdm {p : Prop} (h : p := by rw [zah]; exact hpp2) : p := h
theorem qdn {p : Prop} (h : p := by simp [Value.ownBlock]; exact hne) : p := h
theorem qdo {p : Prop} (h : p := by rw [← hV10]; exact HBV.alloc HBV.size _) : p := h
theorem qdp {p : Prop} (h : p := by first | rfl | trivial) : p := h
theorem qdq {p : Prop} (h : p := by rw [← hV3]; exact HB2.alloc HB2.size _) : p := h
theorem qdr {p : Prop} (h : p := by rw [← hV6]; exact HB1.alloc HB1.size _) : p := h
theorem qds {p : Prop} (h : p := by exact fun _ => by rw [HAj.out, HL.out]; exact hle) : p := h
theorem qdt {p : Prop} (h : p := by rw [List.take_of_length_le (by have := HL0.out; omega)]) : p := h
theorem qdu {p : Prop} (h : p := by simpa using d1) : p := h
theorem qdv {p : Prop} (h : p := by exact fun e => by subst e; simp at hq) : p := h
theorem qdw {p : Prop} (h : p := by have := (List.getElem?_eq_some_iff.1 hj).1; omega) : p := h
theorem qdx {p : Prop} (h : p := by exact fun r e => by cases e) : p := h
theorem qdy {p : Prop} (h : p := by rw [zbl, hput]; exact beq_self_eq_true _) : p := h
theorem qdz {p : Prop} (h : p := by exact fun t ht => by rw [List.mem_singleton.1 ht]; decide) : p := h
theorem qea {p : Prop} (h : p := by rw [← hV3]; exact Blk.new V2 _ _) : p := h
theorem qeb {p : Prop} (h : p := by rw [← hV6]; exact Blk.new V1 _ _) : p := h
theorem qec {p : Prop} (h : p := by rw [← hV10]; exact Blk.new V _ _) : p := h
theorem qed {p : Prop} (h : p := by rw [← hV11]; exact TM10.alloc _) : p := h
theorem qee {p : Prop} (h : p := by rw [HAj.out, HAk2.out]; exact hgt) : p := h
theorem qef {p : Prop} (h : p := by show w.heap.size + 2 ≠ g; omega) : p := h
theorem qeg {p : Prop} (h : p := by show w.heap.size + 2 ≠ _; omega) : p := h
theorem qeh {p : Prop} (h : p := by rw [← hV3]; exact OW2.alloc _) : p := h
theorem qei {p : Prop} (h : p := by rw [← hV6]; exact OW1.alloc _) : p := h
theorem qej {p : Prop} (h : p := by show w.heap.size + 1 < a; omega) : p := h
theorem qek {p : Prop} (h : p := by obtain ⟨p, hr⟩ := hr; exact hr.cell 1) : p := h
theorem qel {p : Prop} (h : p := by exact fun e => by have := HFAR.out _ e.symm; omega) : p := h
theorem qem {p : Prop} (h : p := by exact fun _ _ _ h => by cases h) : p := h
theorem qen {p : Prop} (h : p := by have := HL0.out; omega) : p := h
theorem qeo {p : Prop} (h : p := by simpa using hy) : p := h
theorem qep {p : Prop} (h : p := by simpa using hu) : p := h
theorem qeq {p : Prop} (h : p := by have := HLL.out; have := HLR.out; omega) : p := h
theorem qer {p : Prop} (h : p := by rw [← htl] at hp; exact hp) : p := h
theorem qes {p : Prop} (h : p := by exact fun k hk => by injection hk with hk; omega) : p := h
theorem qet {p : Prop} (h : p := by exact fun r hr => by rw [hsame r hr]) : p := h
theorem qeu {p : Prop} (h : p := by rw [hV]; exact ⟨x1, x2⟩) : p := h
theorem qev {p : Prop} (h : p := by simp [go_sem]) : p := h
theorem qew {p : Prop} (h : p := by have := h.hb; omega) : p := h
theorem qex {p : Prop} (h : p := by rw [← hq4]; simp; omega) : p := h
end Go.Proofs.YtogonjkklioaaaaGreatDoor

namespace Go.Proofs.YtogonjkklioaaaaGreatDoor
open Go.RowKit
theorem zdb {a b : Bool} (h : a = b) : Ending.returned (.bool a) = .returned (.bool b) := by rw [h]
def zgl (c : UInt8) : Bool := !(((decide ((c.toNat : Int) < 97)) || decide (122 < (c.toNat : Int))) && (decide ((c.toNat : Int) < 48) || decide (57 < (c.toNat : Int))))
def zeq (l : List UInt8) : Bool := l.all zgl
theorem take_snoc (s : ByteArray) (k : Nat) (h : k < s.size) : s.data.toList.take (k + 1) = s.data.toList.take k ++ [s[k]] := by
  rw [List.take_succ_eq_append_getElem qbk]; rfl
theorem small_snoc (l : List UInt8) (c : UInt8) : zeq (l ++ [c]) = (zeq l && zgl c) := by
  unfold zeq; simp
theorem zol {c : UInt8} (h : (97 ≤ (c.toNat : Int) ∧ (c.toNat : Int) ≤ 122) ∨ (48 ≤ (c.toNat : Int) ∧ (c.toNat : Int) ≤ 57)) : zgl c = true := by
  unfold zgl; simp; omega
theorem zma {c : UInt8} (h : ((c.toNat : Int) < 97 ∨ 122 < (c.toNat : Int)) ∧ ((c.toNat : Int) < 48 ∨ 57 < (c.toNat : Int))) : zgl c = false := by
  unfold zgl; simp; omega
theorem small_no (s : ByteArray) (k : Nat) (h : k < s.size) (hb : zgl s[k] = false) : zeq s.data.toList = false := by
  unfold zeq; rw [List.all_eq_false]; refine ⟨s[k], ?_, by simp [hb]⟩; have : s[k] = s.data.toList[k]' qbk := rfl; rw [this]; exact List.getElem_mem _
theorem small_step (s : ByteArray) (k : Nat) (h : k < s.size) (hr : Hid (zeq (s.data.toList.take k) = true)) (hb : zgl s[k] = true) : zeq (s.data.toList.take (k + 1)) = true := by
  rw [take_snoc s k h, small_snoc, hr.out, hb]; rfl
theorem small_all (s : ByteArray) (k : Nat) (h : ¬ k < s.size) (hr : Hid (zeq (s.data.toList.take k) = true)) : zeq s.data.toList = true := by
  have h' := hr.out
  rwa [List.take_of_length_le qah] at h'
theorem zml (s : ByteArray) (w : World) (hs : s.size ≤ maxLen) :
    Calls Tryz.prog 122 #[.string s] w fun e w' => e = .returned (.bool (zeq s.data.toList)) ∧ w = w' := by
  unfold maxLen at hs; go_enter Tryz.func122, Tryz.ntmps122; go_wp2; go_loop [3, 4, 7] (fun _ _ i => ∃ k : Nat, k ≤ s.size ∧ i = .int .i64 k ∧ zeq (s.data.toList.take k) = true) (fun _ _ i => s.size - (intOf i).toNat)
  case atStart => exact ⟨0, Nat.zero_le _, rfl, rfl⟩
  case round =>
    obtain ⟨k, hk, rfl, hrel⟩ := hrel; have HR := hid hrel; clear hrel; by_cases hlt : k < s.size
    · go_wp2
      all_goals first
        | (go_ret; exact ⟨zdb (small_no s k hlt (zma qaa)).symm, rfl⟩)
        | (go_round
           case rel => exact ⟨k + 1, by omega, by go_num, small_step s k hlt HR (zol qaa)⟩
           case measure => exact qms)
    · go_wp2
      go_ret; exact ⟨zdb (small_all s k hlt HR).symm, rfl⟩
theorem in_any (n lo hi : Int) (w : World) : Calls Tryz.prog 111 #[.int .i64 n, .int .i64 lo, .int .i64 hi] w fun e w' => e = .returned (.bool (decide (lo ≤ n) && decide (n ≤ hi))) ∧ w = w' := by
  go_enter Tryz.func111, Tryz.ntmps111; go_wp2
  all_goals (go_ret; exact ⟨zdb (by simp; try omega), rfl⟩)
def zdn (l : List UInt8) : Bool := zeq l && (decide (1 ≤ (l.length : Int)) && decide ((l.length : Int) ≤ 8))
theorem letters_no (s : ByteArray) (k : Nat) (h : k < s.size) (hb : zgl s[k] = false) : zdn s.data.toList = false := by
  unfold zdn; rw [small_no s k h hb]; rfl
theorem letters_all (s : ByteArray) (k : Nat) (h : ¬ k < s.size) (hr : Hid (zeq (s.data.toList.take k) = true)) : zdn s.data.toList = (decide ((1 : Int) ≤ (s.size : Int)) && decide ((s.size : Int) ≤ 8)) := by
  unfold zdn; rw [small_all s k h hr, Bool.true_and]; rfl
theorem zoq (s : ByteArray) (w : World) (hs : s.size ≤ maxLen) :
    Calls Tryz.prog 159 #[.string s] w fun e w' => e = .returned (.bool (zdn s.data.toList)) ∧ w = w' := by
  unfold maxLen at hs; go_enter Tryz.func159, Tryz.ntmps159; go_wp2; go_loop [3] (fun i => ∃ k : Nat, k ≤ s.size ∧ i = .int .i64 k ∧ zeq (s.data.toList.take k) = true) (fun i => s.size - (intOf i).toNat)
  case atStart => exact ⟨0, Nat.zero_le _, rfl, rfl⟩
  case round =>
    obtain ⟨k, hk, rfl, hrel⟩ := hrel; have HR := hid hrel; clear hrel; by_cases hlt : k < s.size
    · go_wp2
      all_goals first
        | (go_ret; exact ⟨zdb (letters_no s k hlt (zma qaa)).symm, rfl⟩)
        | (go_round
           case rel => exact ⟨k + 1, by omega, by go_num, small_step s k hlt HR (zol qaa)⟩
           case measure => exact qms)
    · go_wp2_with (go_at_call 111; refine (in_any _ _ _ _).mono ?_; rintro e w' ⟨rfl, rfl⟩)
      go_ret; exact ⟨zdb (letters_all s k hlt HR).symm, rfl⟩
theorem size_length (s : ByteArray) : (s.size : Int) = (s.data.toList.length : Int) := rfl
def zij (l : List UInt8) : Bool := zdn l && !(l == [110, 111, 116])
theorem zly (s : ByteArray) (w : World) (hs : s.size ≤ maxLen) :
    Calls Tryz.prog 130 #[.string s] w fun e w' => e = .returned (.bool (zij s.data.toList)) ∧ w = w' := by
  go_enter Tryz.func130, Tryz.ntmps130; go_wp2_with (go_at_call 159; refine (zoq _ _ hs).mono ?_; rintro e w' ⟨rfl, rfl⟩)
  all_goals (go_ret; exact ⟨zdb (by unfold zij; simp [*, ByteArray.toList_eq]), rfl⟩)
theorem zme (s : ByteArray) (w : World) (hs : s.size ≤ maxLen) :
    Calls Tryz.prog 91 #[.string s] w fun e w' => e = .returned (.bool (zij s.data.toList)) ∧ w = w' := by
  have hs' := hs; unfold maxLen at hs'; go_enter Tryz.func91, Tryz.ntmps91; go_wp2_with (go_at_call 122; refine (zml _ _ hs).mono ?_; rintro e w' ⟨rfl, rfl⟩)
  all_goals (go_ret; exact ⟨zdb (by unfold zij zdn; rw [← size_length]; simp_all [ByteArray.toList_eq, Bool.and_comm]; try omega), rfl⟩)
abbrev Tm := Bool × ByteArray
abbrev At := ByteArray × List Tm
def TermsAt (w : World) (lo hi : Nat) (p : Addr) (ts : List Tm) : Prop :=
  lo ≤ p.block ∧ p.block < hi ∧ ∀ (i : Nat) (t : Tm), ts[i]? = some t → w.cell? (p.add (i * 2)) = some (.bool t.1) ∧ w.cell? (p.add (i * 2 + 1)) = some (.string t.2) ∧ t.2.size ≤ maxLen
def IsTerms (w : World) (lo hi : Nat) (A : Option Addr) (n c : Nat) (ts : List Tm) : Prop :=
  ts.length = n ∧ n ≤ c ∧ c ≤ maxLen ∧ (0 < n → ∃ p, A = some p ∧ TermsAt w lo hi p ts)
theorem zah (p : Addr) (k : Nat) : (p.add k).block = p.block := by
  unfold Addr.add; split <;> rfl
theorem TermsAt.keep {w w' : World} {lo hi lo' hi' : Nat} {p : Addr} {ts : List Tm} (h : TermsAt w lo hi p ts) (hk : ∀ q : Addr, lo ≤ q.block → q.block < hi → w'.cell? q = w.cell? q) (h1 : lo' ≤ lo) (h2 : hi ≤ hi') : TermsAt w' lo' hi' p ts := by
  obtain ⟨a, b, c⟩ := h; refine ⟨by omega, by omega, fun i t ht => ?_⟩; obtain ⟨c1, c2, c3⟩ := c i t ht; refine ⟨?_, ?_, c3⟩
  · rw [hk _ (by rw [zah]; exact a) (by rw [zah]; exact b)]; exact c1
  · rw [hk _ (by rw [zah]; exact a) (by rw [zah]; exact b)]; exact c2
theorem IsTerms.keep {w w' : World} {lo hi lo' hi' : Nat} {A : Option Addr} {n c : Nat} {ts : List Tm} (h : IsTerms w lo hi A n c ts) (hk : ∀ q : Addr, lo ≤ q.block → q.block < hi → w'.cell? q = w.cell? q) (h1 : lo' ≤ lo) (h2 : hi ≤ hi') : IsTerms w' lo' hi' A n c ts := by
  obtain ⟨a, b, d, e⟩ := h; refine ⟨a, b, d, fun hn => ?_⟩; obtain ⟨p, hp, ht⟩ := e hn; exact ⟨p, hp, ht.keep hk h1 h2⟩
theorem IsTerms.below {w w' : World} {lo hi B : Nat} {A : Option Addr} {n c : Nat} {ts : List Tm} (h : IsTerms w lo hi A n c ts) (hb : Below B w w') (hh : hi ≤ B) : IsTerms w' lo hi A n c ts :=
  h.keep (fun q _ hq => hb.cell qaa) (nl _) (nl _)
theorem IsTerms.up {w w' : World} {lo : Nat} {A : Option Addr} {n c : Nat} {ts : List Tm} (h : IsTerms w lo w.heap.size A n c ts) (hb : Below w.heap.size w w') : IsTerms w' lo w'.heap.size A n c ts :=
  h.keep (fun _ _ hq => hb.cell hq) (nl _) hb.size
theorem zhz {W w1 : World} (hb : Below W.heap.size W w1) : (∀ b o, b < W.heap.size → w1.cell? ⟨b, o, none⟩ = W.cell? ⟨b, o, none⟩) ∧ (∀ b o, b < W.heap.size → w1.frozen? ⟨b, o, none⟩ = W.frozen? ⟨b, o, none⟩) :=
  ⟨fun b o h => hb.cell (p := ⟨b, o, none⟩) h, fun b o h => hb.frozen (p := ⟨b, o, none⟩) h⟩
theorem zac (w : World) (o : Obj) : Below w.heap.size w (w.alloc o) := (Below.refl _ _).alloc (nl _) _
theorem zbj (w : World) (o o' : Obj) : Below w.heap.size w ((w.alloc o).alloc o') := (zac w o).alloc qag _
theorem below3 (w : World) (o o' o'' : Obj) : Below w.heap.size w (((w.alloc o).alloc o').alloc o'') := (zbj w o o').alloc qah _
theorem zaa {w w1 w2 : World} (h : Below w.heap.size w w1) (h' : Below w1.heap.size w1 w2) : Below w.heap.size w w2 := h.trans (h'.mono h.size)
theorem zfa {w : World} {q : Addr} {v : Value} (h : w.cell? q = some v) : ∀ o, (w.alloc o).cell? q = some v :=
  fun o => (World.cell?_alloc_lt w o q (World.block_lt_of_cell? _ _ h)).trans h
theorem zae {a b : World} (h : Below a.heap.size a b) (row : Option Nat) : a.grownBy b row := ⟨h.os, h.tape, h.output, h.size, fun i hi _ => h.block i hi⟩
theorem zjg {B : Nat} {w w' : World} (h : Below B w.drew w') : Below B w w' := ⟨h.os, h.tape, h.output, h.size, h.block⟩
theorem add_next (p : Addr) (k : Nat) : (⟨(p.add k).block, (p.add k).off + 1, none⟩ : Addr) = p.add (k + 1) := by
  unfold Addr.add; by_cases hk : k = 0
  · subst hk; simp
  · simp [hk, Nat.add_assoc]
theorem IsTerms.at_ {w : World} {lo hi : Nat} {A : Option Addr} {n c : Nat} {ts : List Tm} (h : IsTerms w lo hi A n c ts) {i : Nat} (hi' : i < n) :
    ∃ p t, A = some p ∧ lo ≤ p.block ∧ p.block < hi ∧ ts[i]? = some t ∧ w.cell? (p.add (i * 2)) = some (.bool t.1) ∧ w.cell? ⟨(p.add (i * 2)).block, (p.add (i * 2)).off + 1, none⟩ = some (.string t.2) ∧ t.2.size ≤ maxLen := by
  obtain ⟨hl, _, _, e⟩ := h; obtain ⟨p, hp, h1, h2, h3⟩ := e qaa; have hlt : i < ts.length := qaa; have hg : ts[i]? = some ts[i] := List.getElem?_eq_getElem hlt; obtain ⟨c1, c2, c3⟩ := h3 i _ hg; exact ⟨p, ts[i], hp, h1, h2, hg, c1, by rw [add_next]; exact c2, c3⟩
end Go.Proofs.YtogonjkklioaaaaGreatDoor
namespace Go.Proofs.YtogonjkklioaaaaGreatDoor
theorem zfb {α : Type} {P : α → Prop} {xs : List α} {k : Nat} {x : α} (h : xs[k]? = some x) (hr : ∀ q ∈ xs.take k, P q) (hx : P x) : ∀ q ∈ xs.take (k + 1), P q := by
  obtain ⟨h1, h2⟩ := List.getElem?_eq_some_iff.1 h; rw [List.take_succ_eq_append_getElem h1, h2]; intro q hq; rcases List.mem_append.1 hq with hq | hq
  · exact hr q hq
  · rw [List.mem_singleton.1 hq]; exact hx
def zcx {α : Type} (eq : α → α → Bool) : List α → List α → Bool
  | [], [] => true
  | a :: l, b :: m => eq a b && zcx eq l m
  | _, _ => false
section
variable {α : Type} {eq : α → α → Bool}
theorem listEq_len : ∀ {l m : List α}, l.length ≠ m.length → zcx eq l m = false
  | [], [], h => absurd rfl h
  | [], _ :: _, _ => rfl
  | _ :: _, [], _ => rfl
  | _ :: l, _ :: m, h => by
    have := listEq_len (l := l) (m := m) qbk; simp [zcx, this]
theorem listEq_end {l m : List α} {n k : Nat} (h : l.length = n) (h' : m.length = n) (hd : zcx eq (l.drop k) (m.drop k) = zcx eq l m) (hk : ¬ k < n) : true = zcx eq l m := by
  rw [← hd, List.drop_eq_nil_of_le qaa, List.drop_eq_nil_of_le qaa]; rfl
theorem zop {l m : List α} {k : Nat} {t u : α} (h : l[k]? = some t) (h' : m[k]? = some u) : zcx eq (l.drop k) (m.drop k) = (eq t u && zcx eq (l.drop (k + 1)) (m.drop (k + 1))) := by
  obtain ⟨h1, h2⟩ := List.getElem?_eq_some_iff.1 h; obtain ⟨h3, h4⟩ := List.getElem?_eq_some_iff.1 h'; rw [List.drop_eq_getElem_cons h1, List.drop_eq_getElem_cons h3, h2, h4]; rfl
theorem listEq_no {l m : List α} {k : Nat} {t u : α} (h : l[k]? = some t) (h' : m[k]? = some u) (hd : zcx eq (l.drop k) (m.drop k) = zcx eq l m) (he : (!eq t u) = true) : false = zcx eq l m := by
  rw [← hd, zop h h', show eq t u = false by simpa using he]; rfl
theorem listEq_on {l m : List α} {k : Nat} {t u : α} (h : l[k]? = some t) (h' : m[k]? = some u) (hd : zcx eq (l.drop k) (m.drop k) = zcx eq l m) (he : (!eq t u) = false) : zcx eq (l.drop (k + 1)) (m.drop (k + 1)) = zcx eq l m := by
  rw [← hd, zop h h', show eq t u = true by simpa using he]; rfl
end
end Go.Proofs.YtogonjkklioaaaaGreatDoor
namespace Go.Proofs.YtogonjkklioaaaaGreatDoor
open Go.RowKit
def IsSeq {α : Type} (sz : Nat) (E : World → Nat → Nat → Addr → α → Prop) (w : World) (lo hi : Nat) (A : Option Addr) (n c : Nat) (xs : List α) : Prop :=
  xs.length = n ∧ n ≤ c ∧ c ≤ maxLen ∧ (0 < n → ∃ p, A = some p ∧ lo ≤ p.block ∧ p.block < hi ∧ ∀ (i : Nat) (x : α), xs[i]? = some x → E w lo hi (p.add (i * sz)) x)
def zqg {α : Type} (E : World → Nat → Nat → Addr → α → Prop) : Prop :=
  ∀ (w w' : World) (lo hi lo' hi' : Nat) (p : Addr) (x : α), E w lo hi p x → lo ≤ p.block → p.block < hi → (∀ q : Addr, lo ≤ q.block → q.block < hi → w'.cell? q = w.cell? q) → lo' ≤ lo → hi ≤ hi' → E w' lo' hi' p x
section
variable {α : Type} {sz : Nat} {E : World → Nat → Nat → Addr → α → Prop} {w w' : World} {lo hi lo' hi' n c : Nat} {A : Option Addr} {xs : List α}
theorem IsSeq.keep (h : IsSeq sz E w lo hi A n c xs) (hE : zqg E) (hk : ∀ q : Addr, lo ≤ q.block → q.block < hi → w'.cell? q = w.cell? q) (h1 : lo' ≤ lo) (h2 : hi ≤ hi') : IsSeq sz E w' lo' hi' A n c xs := by
  obtain ⟨a, b, d, e⟩ := h; refine ⟨a, b, d, fun hn => ?_⟩; obtain ⟨p, hp, a2, hhi, ht⟩ := e hn; exact ⟨p, hp, by omega, by omega, fun i x hx => hE w w' lo hi lo' hi' _ x (ht i x hx) (by rw [zah]; exact a2) (by rw [zah]; exact hhi) hk h1 h2⟩
theorem IsSeq.below {B : Nat} (h : IsSeq sz E w lo hi A n c xs) (hE : zqg E) (hb : Below B w w') (hh : hi ≤ B) : IsSeq sz E w' lo hi A n c xs :=
  h.keep hE (fun q _ hq => hb.cell qaa) (nl _) (nl _)
theorem IsSeq.up (h : IsSeq sz E w lo w.heap.size A n c xs) (hE : zqg E) (hb : Below w.heap.size w w') : IsSeq sz E w' lo w'.heap.size A n c xs :=
  h.keep hE (fun _ _ hq => hb.cell hq) (nl _) hb.size
theorem IsSeq.at_ (h : IsSeq sz E w lo hi A n c xs) {i : Nat} (hi' : i < n) : ∃ p x, A = some p ∧ lo ≤ p.block ∧ p.block < hi ∧ xs[i]? = some x ∧ E w lo hi (p.add (i * sz)) x := by
  obtain ⟨hl, _, _, e⟩ := h; obtain ⟨p, hp, h1, h2, h3⟩ := e qaa; have hg : xs[i]? = some xs[i] := List.getElem?_eq_getElem qaa; exact ⟨p, xs[i], hp, h1, h2, hg, h3 i _ hg⟩
theorem IsSeq.len (h : IsSeq sz E w lo hi A n c xs) : n ≤ maxLen := by
  have := h.2.1; have := h.2.2.1; omega
end
def zcw (p : Addr) (k : Nat) : Addr := ⟨p.block, p.off + k, none⟩
def AtomE (w : World) (lo hi : Nat) (p : Addr) (a : At) : Prop :=
  w.cell? p = some (.string a.1) ∧ a.1.size ≤ maxLen ∧ ∃ A n c, w.cell? (zcw p 1) = some (.slice A n c) ∧ IsTerms w lo hi A n c a.2
abbrev Pt := Bool × At
def PartE (w : World) (lo hi : Nat) (p : Addr) (q : Pt) : Prop :=
  w.cell? p = some (.bool q.1) ∧ w.cell? (zcw p 1) = some (.string q.2.1) ∧ q.2.1.size ≤ maxLen ∧ ∃ A n c, w.cell? (zcw p 2) = some (.slice A n c) ∧ IsTerms w lo hi A n c q.2.2
theorem AtomE.stays : zqg AtomE := by
  intro w w' lo hi lo' hi' p a ⟨h1, h2, A, n, c, h3, h4⟩ hp1 hp2 hk hl hh; exact ⟨(hk p hp1 hp2).trans h1, h2, A, n, c, (hk (zcw p 1) hp1 hp2).trans h3, h4.keep hk hl hh⟩
theorem PartE.stays : zqg PartE := by
  intro w w' lo hi lo' hi' p a ⟨h1, h2, h0, A, n, c, h3, h4⟩ hp1 hp2 hk hl hh; exact ⟨(hk p hp1 hp2).trans h1, (hk (zcw p 1) hp1 hp2).trans h2, h0, A, n, c, (hk (zcw p 2) hp1 hp2).trans h3, h4.keep hk hl hh⟩
theorem PartE.out {w : World} {lo hi : Nat} {p : Addr} {q : Pt} (h : PartE w lo hi p q) : ∃ A n c, w.cell? p = some (.bool q.1) ∧ w.cell? ⟨p.block, p.off + 1, none⟩ = some (.string q.2.1) ∧ q.2.1.size ≤ maxLen ∧ w.cell? ⟨p.block, p.off + 2, none⟩ = some (.slice A n c) ∧ IsTerms w lo hi A n c q.2.2 := by
  obtain ⟨h1, h2, h3, A, n, c, h4, h5⟩ := h; exact ⟨A, n, c, h1, h2, h3, h4, h5⟩
theorem AtomE.out {w : World} {lo hi : Nat} {p : Addr} {a : At} (h : AtomE w lo hi p a) : ∃ A n c, w.cell? p = some (.string a.1) ∧ a.1.size ≤ maxLen ∧ w.cell? ⟨p.block, p.off + 1, none⟩ = some (.slice A n c) ∧ IsTerms w lo hi A n c a.2 := by
  obtain ⟨h1, h3, A, n, c, h4, h5⟩ := h; exact ⟨A, n, c, h1, h3, h4, h5⟩
abbrev IsAtoms := IsSeq 2 AtomE
abbrev zeg := IsSeq 3 PartE
abbrev Rl := At × List Pt
def RuleE (w : World) (lo hi : Nat) (p : Addr) (r : Rl) : Prop :=
  w.cell? p = some (.string r.1.1) ∧ r.1.1.size ≤ maxLen ∧ (∃ A n c, w.cell? (zcw p 1) = some (.slice A n c) ∧ IsTerms w lo hi A n c r.1.2) ∧ (∃ A n c, w.cell? (zcw p 2) = some (.slice A n c) ∧ zeg w lo hi A n c r.2)
theorem RuleE.stays : zqg RuleE := by
  intro w w' lo hi lo' hi' p a ⟨h1, h2, ⟨A, n, c, h3, h4⟩, ⟨B, m, d, h5, h6⟩⟩ hp1 hp2 hk hl hh; exact ⟨(hk p hp1 hp2).trans h1, h2, ⟨A, n, c, (hk (zcw p 1) hp1 hp2).trans h3, h4.keep hk hl hh⟩, ⟨B, m, d, (hk (zcw p 2) hp1 hp2).trans h5, h6.keep PartE.stays hk hl hh⟩⟩
abbrev zap := IsSeq 3 RuleE
abbrev Says (α : Type) := World → Nat → (Nat → Value) → α → Prop
section
variable {α : Type} {T sz : Nat} {V : Says α} {w w' : World} {g n k : Nat} {xs : List α}
theorem zab (w : World) (a : Addr) (v : Value) : (w.setCell a v).heap.size = w.heap.size := by simp [World.setCell]
end
end Go.Proofs.YtogonjkklioaaaaGreatDoor
namespace Go.Proofs.YtogonjkklioaaaaGreatDoor
open Go.RowKit
def Box (w : World) (b : Nat) (u v : Value) : Prop := b < w.heap.size ∧ w.cell? ⟨b, 0, none⟩ = some u ∧ w.cell? ⟨b, 1, none⟩ = some v
theorem Box.new (w : World) (u v : Value) (t : TypeId) : Box (w.alloc (.cells #[u, v] t)) w.heap.size u v := by
  refine ⟨by simp, ?_, ?_⟩ <;> simp [go_sem]
theorem Box.new2 (w : World) (o : Obj) (u v : Value) (t : TypeId) : Box ((w.alloc o).alloc (.cells #[u, v] t)) (w.heap.size + 1) u v := by
  have h := Box.new (w.alloc o) u v t
  rwa [show (w.alloc o).heap.size = w.heap.size + 1 by simp] at h
theorem Box.later {w w' : World} {b : Nat} {u v : Value} (h : Box w b u v) (hb : Below w.heap.size w w') : Box w' b u v :=
  ⟨Nat.lt_of_lt_of_le h.1 hb.size, (hb.cell (p := ⟨b, 0, none⟩) h.1).trans h.2.1, (hb.cell (p := ⟨b, 1, none⟩) h.1).trans h.2.2⟩
theorem Box.up {w : World} {b : Nat} {u v : Value} (h : Box w b u v) (o : Obj) : Box (w.alloc o) b u v := h.later (zac w o)
end Go.Proofs.YtogonjkklioaaaaGreatDoor

namespace Go.Proofs.YtogonjkklioaaaaGreatDoor
open Go.RowKit
end Go.Proofs.YtogonjkklioaaaaGreatDoor
namespace Go.Proofs.YtogonjkklioaaaaGreatDoor
open Go.RowKit
theorem zcj (w : World) (o : Obj) : (w.alloc o).heap.size = w.heap.size + 1 := by simp
theorem Tryz.infoTerm : (Tryz.prog.info? 110).map (fun i => (i.zero, i.size, i.bytes)) = some (some (.agg #[.bool false, .string ByteArray.empty]), 2, 24) := by kernel_rfl
end Go.Proofs.YtogonjkklioaaaaGreatDoor
namespace Go.Proofs.YtogonjkklioaaaaGreatDoor
open Go.RowKit
def zas (b : Bool) (w : World) (e : Ending) (w' : World) : Prop := e = .returned (.bool b) ∧ Below w.heap.size w w'
def zgj (a b : Tm) : Bool := (a.1 == b.1) && (a.2.toList == b.2.toList)
def zbu : List Tm → List Tm → Bool
  | [], [] => true
  | a :: l, b :: m => zgj a b && zbu l m
  | _, _ => false
theorem zir : ∀ {ts us : List Tm}, ts.length ≠ us.length → zbu ts us = false
  | [], [], h => absurd rfl h
  | [], _ :: _, _ => rfl
  | _ :: _, [], _ => rfl
  | _ :: l, _ :: m, h => by
    have := zir (ts := l) (us := m) qbk; simp [zbu, this]
theorem termsEq_end {ts us : List Tm} {n k : Nat} (h : ts.length = n) (h' : us.length = n) (hd : zbu (ts.drop k) (us.drop k) = zbu ts us) (hk : ¬ k < n) : true = zbu ts us := by
  rw [← hd, List.drop_eq_nil_of_le qaa, List.drop_eq_nil_of_le qaa]; rfl
theorem zlv {ts us : List Tm} {k : Nat} {t u : Tm} (h : ts[k]? = some t) (h' : us[k]? = some u) : zbu (ts.drop k) (us.drop k) = (zgj t u && zbu (ts.drop (k + 1)) (us.drop (k + 1))) := by
  obtain ⟨h1, h2⟩ := List.getElem?_eq_some_iff.1 h; obtain ⟨h3, h4⟩ := List.getElem?_eq_some_iff.1 h'; rw [List.drop_eq_getElem_cons h1, List.drop_eq_getElem_cons h3, h2, h4]; rfl
theorem termsEq_no {ts us : List Tm} {k : Nat} {t u : Tm} (h : ts[k]? = some t) (h' : us[k]? = some u) (hd : zbu (ts.drop k) (us.drop k) = zbu ts us) (he : (!zgj (t.1, t.2) (u.1, u.2)) = true) : false = zbu ts us := by
  rw [← hd, zlv h h']; have : zgj t u = false := by simpa using he
  rw [this]; rfl
theorem termsEq_on {ts us : List Tm} {k : Nat} {t u : Tm} (h : ts[k]? = some t) (h' : us[k]? = some u) (hd : zbu (ts.drop k) (us.drop k) = zbu ts us) (he : (!zgj (t.1, t.2) (u.1, u.2)) = false) : zbu (ts.drop (k + 1)) (us.drop (k + 1)) = zbu ts us := by
  rw [← hd, zlv h h']; have : zgj t u = true := by simpa using he
  rw [this]; rfl
def zgn (a b : At) : Bool := (a.1.toList == b.1.toList) && zbu a.2 b.2
theorem termEq_refl (t : Tm) : zgj t t = true := by unfold zgj; simp
theorem zlw : ∀ ts : List Tm, zbu ts ts = true
  | [] => rfl
  | t :: l => by simp [zbu, termEq_refl t, zlw l]
theorem atomEq_refl (a : At) : zgn a a = true := by unfold zgn; simp [zlw]
end Go.Proofs.YtogonjkklioaaaaGreatDoor
namespace Go.Proofs.YtogonjkklioaaaaGreatDoor
open Go.RowKit
def zay (n : Nat) (xs : List At) : Prop := n ≤ 1048576 ∧ ∀ q ∈ xs, q.2.length ≤ 1048576
theorem Tryz.infoAt : (Tryz.prog.info? 51).map (fun i => (i.zero, i.size, i.bytes)) = some (some (.agg #[.string ByteArray.empty, .slice none 0 0]), 2, 40) := by kernel_rfl
theorem IsAtoms.low {w : World} {lo n c : Nat} {A : Option Addr} {xs : List At} (h : IsAtoms w lo w.heap.size A n c xs) : IsAtoms w 0 w.heap.size A n c xs := h.keep AtomE.stays (fun _ _ _ => rfl) (Nat.zero_le _) (nl _)
end Go.Proofs.YtogonjkklioaaaaGreatDoor
