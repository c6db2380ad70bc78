/-
  Texts of one claim, put together.
-/
import Derived.Deep.RegionHeld3
import Derived.KernelRfl
import Derived.OwnWalkIn
import Derived.Lib.Hide
import Derived.Test.YtcigljngiemdeaaGreatRows
import Derived.WalkKit
import Derived.WalkSpells
import Derived.WalkLawsBesides
import Derived.ProofKit
import Derived.Deep.Slices
import Derived.Deep.SlicePairs
import Derived.Deep.OwnRows
import Derived.Outline
import Derived.Deep.LoopGhost
import Derived.StillTailTactics
import Derived.Deep.RegionWith
set_option maxRecDepth 100000
set_option maxHeartbeats 8000000
namespace Go.Proofs.YtcigljngiemdeaaGreat
open Go Go.RowKit
theorem hid {p : Prop} (h : p) : RowKit.Hid p := h
theorem nl (n : Nat) : n ≤ n := Nat.le_refl n
theorem qms {p : Prop} (h : p := by simp [intOf]; omega) : p := h
theorem cb_ {w w' : World} {a : Addr} (h : w'.heap[a.block]? = w.heap[a.block]?) : w'.cell? a = w.cell? a := World.cell?_of_block h
theorem hs_ (w : World) (a : Addr) (u : Value) (k : Nat) (h : k ≠ a.block) : (w.setCell a u).heap[k]? = w.heap[k]? := Below.heap_setCell w a u k h
theorem qaa {p : Prop} (h : p := by omega) : p := h
theorem qab {p : Prop} (h : p := by rfl) : p := h
theorem qac {p : Prop} (h : p := by unfold maxLen; omega) : p := h
theorem qad {p : Prop} (h : p := by simp) : p := h
theorem qae {p : Prop} (h : p := by kernel_rfl) : p := h
theorem qaf {p : Prop} (h : p := by simp; omega) : p := h
theorem qag {p : Prop} (h : p := by first | exact rcells_one _ | simp [Value.oneCell']) : p := h
theorem qah {p : Prop} (h : p := by first | exact tcl_one _ | simp [Value.oneCell']) : p := h
theorem qai {p : Prop} (h : p := by simp [Value.oneCell']) : p := h
theorem qaj {p : Prop} (h : p := by have h := J.r4 rfl; have e : ncl rt ++ [.int .i64 (x : Int)] ++ ncl rd = ncl (rt ++ [x] ++ rd) := (by unfold ncl; simp); rw [e] at h; exact h) : p := h
theorem qak {p : Prop} (h : p := by show (p.add (i * 3)).block < _; rw [block_add]; exact hpp) : p := h
theorem qal {p : Prop} (h : p := by decide) : p := h
theorem qam {p : Prop} (h : p := by cases e) : p := h
theorem qan {p : Prop} (h : p := by rw [block_add]; exact Nat.lt_of_lt_of_le hhi hb.size) : p := h
theorem qao {p : Prop} (h : p := by simp [results, Tryz.results22, go_sem]) : p := h
theorem qap {p : Prop} (h : p := by rw [block_add]; exact Nat.lt_of_lt_of_le hhi (Nat.le_trans hb.size hb1.size)) : p := h
theorem qaq {p : Prop} (h : p := by simp [results, Tryz.results47, go_sem]) : p := h
theorem qar {p : Prop} (h : p := by exact fun _ => by rw [HAj.out, HL.out]; exact hle) : p := h
theorem qas {p : Prop} (h : p := by rw [HAj.out, HAk2.out]; exact hgt) : p := h
theorem qat {p : Prop} (h : p := by have := hE; unfold TextE at this; rwa [Nat.mul_one] at this) : p := h
theorem qau {p : Prop} (h : p := by show (p3.add (k * 2)).block < _; rw [block_add]; exact hpp3) : p := h
theorem qav {p : Prop} (h : p := by simp [Value.ownBlock]; omega) : p := h
theorem qaw {p : Prop} (h : p := by exact fun e => by injection e with e; omega) : p := h
theorem qax {p : Prop} (h : p := by show (p2.add (j * 2)).block < _; rw [block_add]; exact hpp2) : p := h
theorem qay {p : Prop} (h : p := by simp [results, Tryz.results104, go_sem, y2, y3]) : p := h
theorem qaz {p : Prop} (h : p := by assumption) : p := h
theorem qba {p : Prop} (h : p := by rw [size_setCell, size_setCell]; exact nl _) : p := h
theorem qbb {p : Prop} (h : p := by rw [block_add]; exact hpb) : p := h
theorem qbc {p : Prop} (h : p := by have h1 := eq_of_beq he; rwa [ByteArray.toList_eq, ByteArray.toList_eq] at h1) : p := h
theorem qbd {p : Prop} (h : p := by simpa using h) : p := h
theorem qbe {p : Prop} (h : p := by simpa using h0) : p := h
theorem qbf {p : Prop} (h : p := by have := hh.2 rfl; rwa [HAj.out, HL.out] at this) : p := h
theorem qbg {p : Prop} (h : p := by exact fun e => by omega) : p := h
theorem qbh {p : Prop} (h : p := by simp [results, Tryz.results50, go_sem]) : p := h
theorem qbi {p : Prop} (h : p := by have := hh.1; rwa [HAj.out, HAk2.out] at this) : p := h
theorem qbj {p : Prop} (h : p := by rw [IntKind.wrap_i64]; omega) : p := h
theorem qbk {p : Prop} (h : p := by exact fun a b => by omega) : p := h
theorem qbl {p : Prop} (h : p := by simp [results, Tryz.results134, go_sem]) : p := h
theorem qbm {p : Prop} (h : p := by simp [results, Tryz.results91, go_sem]) : p := h
theorem qbn {p : Prop} (h : p := by exact fun e => by have := congrArg Addr.block e; rw [block_add] at this; simp at this; omega) : p := h
theorem qbo {p : Prop} (h : p := by have := h.2.1; have := h.2.2.1; omega) : p := h
theorem qbp {p : Prop} (h : p := by rw [size_setCell, size_setCell]) : p := h
theorem qbq {p : Prop} (h : p := by simp at h0 d0; omega) : p := h
theorem qbr {p : Prop} (h : p := by show (p.add (i * 3)).block < _; rw [block_add]; exact hpb) : p := h
theorem qbs {p : Prop} (h : p := by exact fun e => by (injection e with e; omega)) : p := h
theorem qbt {p : Prop} (h : p := by exact fun _ _ _ h => by cases h) : p := h
theorem qbu {p : Prop} (h : p := by have := (Array.getElem?_eq_some_iff.1 ho).1; exact this) : p := h
theorem qbv {p : Prop} (h : p := by simp [results, Tryz.results128, go_sem]) : p := h
theorem qbw {p : Prop} (h : p := by show (p'.add (k * 2)).block < _; rw [block_add]; omega) : p := h
theorem qbx {p : Prop} (h : p := by exact fun e => by simp [Value.ownBlock] at e; omega) : p := h
theorem qby {p : Prop} (h : p := by simp [results, Tryz.results61, go_sem]) : p := h
theorem qbz {p : Prop} (h : p := by rw [block_add]; exact Nat.lt_of_lt_of_le hpb hb1.size) : p := h
theorem qca {p : Prop} (h : p := by show (p.add (k * 2)).block < _; rw [block_add]; omega) : p := h
theorem qcb {p : Prop} (h : p := by show (p.add (i * 3)).block < _; rw [block_add]; omega) : p := h
theorem qcc {p : Prop} (h : p := by simp [results, Tryz.results14, go_sem]) : p := h
theorem qcd {p : Prop} (h : p := by simp [results, Tryz.results11, go_sem]) : p := h
theorem qce {p : Prop} (h : p := by rw [block_add]; exact hpp3) : p := h
theorem qcf {p : Prop} (h : p := by rw [block_add]; exact Nat.lt_of_lt_of_le hhi hsz) : p := h
theorem qcg {p : Prop} (h : p := by rw [← HP.out.1]; exact H4.out ri (List.mem_of_getElem? HGi.out)) : p := h
theorem qch {p : Prop} (h : p := by simp [hr]) : p := h
theorem qci {p : Prop} (h : p := by have := HR.out; have := HV.out; omega) : p := h
theorem qcj {p : Prop} (h : p := by have := HN.out; omega) : p := h
theorem qck {p : Prop} (h : p := by injection e) : p := h
theorem qcl {p : Prop} (h : p := by rw [headAt_of HGk2.out]; exact of_decide_eq_false HB2.out.symm) : p := h
theorem qcm {p : Prop} (h : p := by show w.heap.size + 1 < w.heap.size + 2; omega) : p := h
theorem qcn {p : Prop} (h : p := by rw [List.length_take]; omega) : p := h
theorem qco {p : Prop} (h : p := by have := hE'; unfold TextE at this; rwa [Nat.mul_one] at this) : p := h
theorem qcp {p : Prop} (h : p := by rw [← hn9, ← List.length_map (f := rAt), hm9]; exact hl9) : p := h
theorem qcq {p : Prop} (h : p := by rw [← hV11]; exact HB10.alloc HB10.size _) : p := h
theorem qcr {p : Prop} (h : p := by simp [results, Tryz.results102, go_sem]) : p := h
theorem qcs {p : Prop} (h : p := by have := h.1; have := h.2.1; omega) : p := h
theorem qct {p : Prop} (h : p := by have := hmn.out; omega) : p := h
theorem qcu {p : Prop} (h : p := by rw [block_add]; exact hpp2) : p := h
theorem qcv {p : Prop} (h : p := by rw [← hV10]; exact HBV.alloc HBV.size _) : p := h
theorem qcw {p : Prop} (h : p := by show w.heap.size < w.heap.size + 2; omega) : p := h
theorem qcx {p : Prop} (h : p := by rw [block_add]; omega) : p := h
theorem qcy {p : Prop} (h : p := by have := HM.out; omega) : p := h
theorem qcz {p : Prop} (h : p := by rw [← hV1]; exact HBV.alloc HBV.size _) : p := h
theorem qda {p : Prop} (h : p := by rw [← hV3]; exact HB2.alloc HB2.size _) : p := h
theorem qdb {p : Prop} (h : p := by rw [← hV6]; exact HB1.alloc HB1.size _) : p := h
theorem qdc {p : Prop} (h : p := by exact fun g hg => by have := (hlow g hg).1; omega) : p := h
theorem qdd {p : Prop} (h : p := by have := hb4.size; have := HG.out; omega) : p := h
theorem qde {p : Prop} (h : p := by simpa using hk) : p := h
theorem qdf {p : Prop} (h : p := by exact fun e => by subst e; simp at hq) : p := h
theorem qdg {p : Prop} (h : p := by have := HGi.out; rw [hgi2] at this; injection this) : p := h
theorem qdh {p : Prop} (h : p := by have := HGk.out; rw [hgk2] at this; injection this) : p := h
theorem qdi {p : Prop} (h : p := by rw [← h3]; exact List.mem_map.2 ⟨x, hx, rfl⟩) : p := h
theorem qdj {p : Prop} (h : p := by rw [HL.out]; omega) : p := h
theorem qdk {p : Prop} (h : p := by exact fun g hg => by have := far g hg; omega) : p := h
theorem qdl {p : Prop} (h : p := by exact fun t ht => by rw [List.mem_singleton.1 ht]; decide) : p := h
theorem qdm {p : Prop} (h : p := by simp [Value.ownBlock]) : p := h
theorem qdn {p : Prop} (h : p := by rw [← hV3]; exact Blk.new V2 _ _) : p := h
theorem qdo {p : Prop} (h : p := by rw [← hV6]; exact Blk.new V1 _ _) : p := h
theorem qdp {p : Prop} (h : p := by rw [← hV10]; exact Blk.new V _ _) : p := h
theorem qdq {p : Prop} (h : p := by show w.heap.size + 1 ≠ w.heap.size + 2; omega) : p := h
theorem qdr {p : Prop} (h : p := by simp [hq]) : p := h
theorem qds {p : Prop} (h : p := by rw [← hV11]; exact TM10.alloc _) : p := h
theorem qdt {p : Prop} (h : p := by simpa using d1) : p := h
theorem qdu {p : Prop} (h : p := by simp [Value.ownBlock]; exact hne) : p := h
theorem qdv {p : Prop} (h : p := by rw [← hV3]; exact OW2.alloc _) : p := h
theorem qdw {p : Prop} (h : p := by rw [← hV6]; exact OW1.alloc _) : p := h
theorem qdx {p : Prop} (h : p := by show w.heap.size ≠ w.heap.size + 2; omega) : p := h
theorem qdy {p : Prop} (h : p := by have := HR.out.hs; simp; omega) : p := h
theorem qdz {p : Prop} (h : p := by exact fun r e => by cases e) : p := h
theorem qea {p : Prop} (h : p := by have := hT.2.1; have := hT.2.2.1; omega) : p := h
theorem qeb {p : Prop} (h : p := by have := HLL.out; have := HLR.out; omega) : p := h
theorem qec {p : Prop} (h : p := by have := HL.out; omega) : p := h
theorem qed {p : Prop} (h : p := by rw [e]; rfl) : p := h
theorem qef {p : Prop} (h : p := by rw [block_add]; exact hpb') : p := h
theorem qeg {p : Prop} (h : p := by have := h.hb; omega) : p := h
end Go.Proofs.YtcigljngiemdeaaGreat

namespace Go.Proofs.YtcigljngiemdeaaGreat
open Go.RowKit
theorem retB {a b : Bool} (h : a = b) : Ending.returned (.bool a) = .returned (.bool b) := by rw [h]
def okByte (c : UInt8) : Bool := !(((decide ((c.toNat : Int) < 97)) || decide (122 < (c.toNat : Int))) && (decide ((c.toNat : Int) < 48) || decide (57 < (c.toNat : Int))))
def small (l : List UInt8) : Bool := l.all okByte
theorem take_snoc (s : ByteArray) (k : Nat) (h : k < s.size) : s.data.toList.take (k + 1) = s.data.toList.take k ++ [s[k]] := by
  rw [List.take_succ_eq_append_getElem qbd]; rfl
theorem small_snoc (l : List UInt8) (c : UInt8) : small (l ++ [c]) = (small l && okByte c) := by
  unfold small; simp
theorem okByte_true {c : UInt8} (h : (97 ≤ (c.toNat : Int) ∧ (c.toNat : Int) ≤ 122) ∨ (48 ≤ (c.toNat : Int) ∧ (c.toNat : Int) ≤ 57)) : okByte c = true := by
  unfold okByte; simp; omega
theorem okByte_false {c : UInt8} (h : ((c.toNat : Int) < 97 ∨ 122 < (c.toNat : Int)) ∧ ((c.toNat : Int) < 48 ∨ 57 < (c.toNat : Int))) : okByte c = false := by
  unfold okByte; simp; omega
theorem small_no (s : ByteArray) (k : Nat) (h : k < s.size) (hb : okByte s[k] = false) : small s.data.toList = false := by
  unfold small; rw [List.all_eq_false]; refine ⟨s[k], ?_, by simp [hb]⟩; have : s[k] = s.data.toList[k]' qbd := rfl; rw [this]; exact List.getElem_mem _
theorem small_step (s : ByteArray) (k : Nat) (h : k < s.size) (hr : Hid (small (s.data.toList.take k) = true)) (hb : okByte s[k] = true) : small (s.data.toList.take (k + 1)) = true := by
  rw [take_snoc s k h, small_snoc, hr.out, hb]; rfl
theorem small_all (s : ByteArray) (k : Nat) (h : ¬ k < s.size) (hr : Hid (small (s.data.toList.take k) = true)) : small s.data.toList = true := by
  have h' := hr.out
  rwa [List.take_of_length_le qaf] at h'
theorem allSmall_any (s : ByteArray) (w : World) (hs : s.size ≤ maxLen) :
    Calls Tryz.prog 191 #[.string s] w fun e w' => e = .returned (.bool (small s.data.toList)) ∧ w = w' := by
  unfold maxLen at hs; go_enter Tryz.func191, Tryz.ntmps191; go_wp2; go_loop [3, 4, 7] (fun _ _ i => ∃ k : Nat, k ≤ s.size ∧ i = .int .i64 k ∧ small (s.data.toList.take k) = true) (fun _ _ i => s.size - (intOf i).toNat)
  case atStart => exact ⟨0, Nat.zero_le _, rfl, rfl⟩
  case round =>
    obtain ⟨k, hk, rfl, hrel⟩ := hrel; have HR := hid hrel; clear hrel; by_cases hlt : k < s.size
    · go_wp2
      all_goals first
        | (go_ret; exact ⟨retB (small_no s k hlt (okByte_false qaa)).symm, rfl⟩)
        | (go_round
           case rel => exact ⟨k + 1, by omega, by go_num, small_step s k hlt HR (okByte_true qaa)⟩
           case measure => exact qms)
    · go_wp2
      go_ret; exact ⟨retB (small_all s k hlt HR).symm, rfl⟩
theorem in_any (n lo hi : Int) (w : World) : Calls Tryz.prog 70 #[.int .i64 n, .int .i64 lo, .int .i64 hi] w fun e w' => e = .returned (.bool (decide (lo ≤ n) && decide (n ≤ hi))) ∧ w = w' := by
  go_enter Tryz.func70, Tryz.ntmps70; go_wp2
  all_goals (go_ret; exact ⟨retB (by simp; try omega), rfl⟩)
def letters (l : List UInt8) : Bool := small l && (decide (1 ≤ (l.length : Int)) && decide ((l.length : Int) ≤ 8))
theorem letters_no (s : ByteArray) (k : Nat) (h : k < s.size) (hb : okByte s[k] = false) : letters s.data.toList = false := by
  unfold letters; rw [small_no s k h hb]; rfl
theorem letters_all (s : ByteArray) (k : Nat) (h : ¬ k < s.size) (hr : Hid (small (s.data.toList.take k) = true)) : letters s.data.toList = (decide ((1 : Int) ≤ (s.size : Int)) && decide ((s.size : Int) ≤ 8)) := by
  unfold letters; rw [small_all s k h hr, Bool.true_and]; rfl
theorem letters_any (s : ByteArray) (w : World) (hs : s.size ≤ maxLen) :
    Calls Tryz.prog 124 #[.string s] w fun e w' => e = .returned (.bool (letters s.data.toList)) ∧ w = w' := by
  unfold maxLen at hs; go_enter Tryz.func124, Tryz.ntmps124; go_wp2; go_loop [3] (fun i => ∃ k : Nat, k ≤ s.size ∧ i = .int .i64 k ∧ small (s.data.toList.take k) = true) (fun i => s.size - (intOf i).toNat)
  case atStart => exact ⟨0, Nat.zero_le _, rfl, rfl⟩
  case round =>
    obtain ⟨k, hk, rfl, hrel⟩ := hrel; have HR := hid hrel; clear hrel; by_cases hlt : k < s.size
    · go_wp2
      all_goals first
        | (go_ret; exact ⟨retB (letters_no s k hlt (okByte_false qaa)).symm, rfl⟩)
        | (go_round
           case rel => exact ⟨k + 1, by omega, by go_num, small_step s k hlt HR (okByte_true qaa)⟩
           case measure => exact qms)
    · go_wp2_with (go_at_call 70; refine (in_any _ _ _ _).mono ?_; rintro e w' ⟨rfl, rfl⟩)
      go_ret; exact ⟨retB (letters_all s k hlt HR).symm, rfl⟩
theorem size_length (s : ByteArray) : (s.size : Int) = (s.data.toList.length : Int) := rfl
def nameB (l : List UInt8) : Bool := letters l && !(l == [110, 111, 116])
theorem specName_any (s : ByteArray) (w : World) (hs : s.size ≤ maxLen) :
    Calls Tryz.prog 82 #[.string s] w fun e w' => e = .returned (.bool (nameB s.data.toList)) ∧ w = w' := by
  go_enter Tryz.func82, Tryz.ntmps82; go_wp2_with (go_at_call 124; refine (letters_any _ _ hs).mono ?_; rintro e w' ⟨rfl, rfl⟩)
  all_goals (go_ret; exact ⟨retB (by unfold nameB; simp [*, ByteArray.toList_eq]), rfl⟩)
theorem implName_any (s : ByteArray) (w : World) (hs : s.size ≤ maxLen) :
    Calls Tryz.prog 163 #[.string s] w fun e w' => e = .returned (.bool (nameB s.data.toList)) ∧ w = w' := by
  have hs' := hs; unfold maxLen at hs'; go_enter Tryz.func163, Tryz.ntmps163; go_wp2_with (go_at_call 191; refine (allSmall_any _ _ hs).mono ?_; rintro e w' ⟨rfl, rfl⟩)
  all_goals (go_ret; exact ⟨retB (by unfold nameB letters; rw [← size_length]; simp_all [ByteArray.toList_eq, Bool.and_comm]; try omega), rfl⟩)
abbrev Tm := Bool × ByteArray
abbrev At := ByteArray × List Tm
def TermsAt (w : World) (lo hi : Nat) (p : Addr) (ts : List Tm) : Prop :=
  lo ≤ p.block ∧ p.block < hi ∧ ∀ (i : Nat) (t : Tm), ts[i]? = some t → w.cell? (p.add (i * 2)) = some (.bool t.1) ∧ w.cell? (p.add (i * 2 + 1)) = some (.string t.2) ∧ t.2.size ≤ maxLen
def IsTerms (w : World) (lo hi : Nat) (A : Option Addr) (n c : Nat) (ts : List Tm) : Prop :=
  ts.length = n ∧ n ≤ c ∧ c ≤ maxLen ∧ (0 < n → ∃ p, A = some p ∧ TermsAt w lo hi p ts)
theorem block_add (p : Addr) (k : Nat) : (p.add k).block = p.block := by
  unfold Addr.add; split <;> rfl
theorem TermsAt.keep {w w' : World} {lo hi lo' hi' : Nat} {p : Addr} {ts : List Tm} (h : TermsAt w lo hi p ts) (hk : ∀ q : Addr, lo ≤ q.block → q.block < hi → w'.cell? q = w.cell? q) (h1 : lo' ≤ lo) (h2 : hi ≤ hi') : TermsAt w' lo' hi' p ts := by
  obtain ⟨a, b, c⟩ := h; refine ⟨by omega, by omega, fun i t ht => ?_⟩; obtain ⟨c1, c2, c3⟩ := c i t ht; refine ⟨?_, ?_, c3⟩
  · rw [hk _ (by rw [block_add]; exact a) (by rw [block_add]; exact b)]; exact c1
  · rw [hk _ (by rw [block_add]; exact a) (by rw [block_add]; exact b)]; exact c2
theorem IsTerms.keep {w w' : World} {lo hi lo' hi' : Nat} {A : Option Addr} {n c : Nat} {ts : List Tm} (h : IsTerms w lo hi A n c ts) (hk : ∀ q : Addr, lo ≤ q.block → q.block < hi → w'.cell? q = w.cell? q) (h1 : lo' ≤ lo) (h2 : hi ≤ hi') : IsTerms w' lo' hi' A n c ts := by
  obtain ⟨a, b, d, e⟩ := h; refine ⟨a, b, d, fun hn => ?_⟩; obtain ⟨p, hp, ht⟩ := e hn; exact ⟨p, hp, ht.keep hk h1 h2⟩
theorem IsTerms.below {w w' : World} {lo hi B : Nat} {A : Option Addr} {n c : Nat} {ts : List Tm} (h : IsTerms w lo hi A n c ts) (hb : Below B w w') (hh : hi ≤ B) : IsTerms w' lo hi A n c ts :=
  h.keep (fun q _ hq => hb.cell qaa) (nl _) (nl _)
theorem IsTerms.up {w w' : World} {lo : Nat} {A : Option Addr} {n c : Nat} {ts : List Tm} (h : IsTerms w lo w.heap.size A n c ts) (hb : Below w.heap.size w w') : IsTerms w' lo w'.heap.size A n c ts :=
  h.keep (fun _ _ hq => hb.cell hq) (nl _) hb.size
theorem oldCells {W w1 : World} (hb : Below W.heap.size W w1) : (∀ b o, b < W.heap.size → w1.cell? ⟨b, o, none⟩ = W.cell? ⟨b, o, none⟩) ∧ (∀ b o, b < W.heap.size → w1.frozen? ⟨b, o, none⟩ = W.frozen? ⟨b, o, none⟩) :=
  ⟨fun b o h => hb.cell (p := ⟨b, o, none⟩) h, fun b o h => hb.frozen (p := ⟨b, o, none⟩) h⟩
theorem below1 (w : World) (o : Obj) : Below w.heap.size w (w.alloc o) := (Below.refl _ _).alloc (nl _) _
theorem below2 (w : World) (o o' : Obj) : Below w.heap.size w ((w.alloc o).alloc o') := (below1 w o).alloc qad _
theorem below3 (w : World) (o o' o'' : Obj) : Below w.heap.size w (((w.alloc o).alloc o').alloc o'') := (below2 w o o').alloc qaf _
theorem belowThen {w w1 w2 : World} (h : Below w.heap.size w w1) (h' : Below w1.heap.size w1 w2) : Below w.heap.size w w2 := h.trans (h'.mono h.size)
theorem cellUp {w : World} {q : Addr} {v : Value} (h : w.cell? q = some v) : ∀ o, (w.alloc o).cell? q = some v :=
  fun o => (World.cell?_alloc_lt w o q (World.block_lt_of_cell? _ _ h)).trans h
theorem grownBelow {a b : World} (h : Below a.heap.size a b) (row : Option Nat) : a.grownBy b row := ⟨h.os, h.tape, h.output, h.size, fun i hi _ => h.block i hi⟩
theorem undrew {B : Nat} {w w' : World} (h : Below B w.drew w') : Below B w w' := ⟨h.os, h.tape, h.output, h.size, h.block⟩
theorem add_next (p : Addr) (k : Nat) : (⟨(p.add k).block, (p.add k).off + 1, none⟩ : Addr) = p.add (k + 1) := by
  unfold Addr.add; by_cases hk : k = 0
  · subst hk; simp
  · simp [hk, Nat.add_assoc]
theorem IsTerms.at_ {w : World} {lo hi : Nat} {A : Option Addr} {n c : Nat} {ts : List Tm} (h : IsTerms w lo hi A n c ts) {i : Nat} (hi' : i < n) :
    ∃ p t, A = some p ∧ lo ≤ p.block ∧ p.block < hi ∧ ts[i]? = some t ∧ w.cell? (p.add (i * 2)) = some (.bool t.1) ∧ w.cell? ⟨(p.add (i * 2)).block, (p.add (i * 2)).off + 1, none⟩ = some (.string t.2) ∧ t.2.size ≤ maxLen := by
  obtain ⟨hl, _, _, e⟩ := h; obtain ⟨p, hp, h1, h2, h3⟩ := e qaa; have hlt : i < ts.length := qaa; have hg : ts[i]? = some ts[i] := List.getElem?_eq_getElem hlt; obtain ⟨c1, c2, c3⟩ := h3 i _ hg; exact ⟨p, ts[i], hp, h1, h2, hg, c1, by rw [add_next]; exact c2, c3⟩
end Go.Proofs.YtcigljngiemdeaaGreat
namespace Go.Proofs.YtcigljngiemdeaaGreat
theorem all_snoc {α : Type} {P : α → Prop} {xs : List α} {k : Nat} {x : α} (h : xs[k]? = some x) (hr : ∀ q ∈ xs.take k, P q) (hx : P x) : ∀ q ∈ xs.take (k + 1), P q := by
  obtain ⟨h1, h2⟩ := List.getElem?_eq_some_iff.1 h; rw [List.take_succ_eq_append_getElem h1, h2]; intro q hq; rcases List.mem_append.1 hq with hq | hq
  · exact hr q hq
  · rw [List.mem_singleton.1 hq]; exact hx
section
variable {α : Type} {eq : α → α → Bool}
end
end Go.Proofs.YtcigljngiemdeaaGreat
namespace Go.Proofs.YtcigljngiemdeaaGreat
open Go.RowKit
def IsSeq {α : Type} (sz : Nat) (E : World → Nat → Nat → Addr → α → Prop) (w : World) (lo hi : Nat) (A : Option Addr) (n c : Nat) (xs : List α) : Prop :=
  xs.length = n ∧ n ≤ c ∧ c ≤ maxLen ∧ (0 < n → ∃ p, A = some p ∧ lo ≤ p.block ∧ p.block < hi ∧ ∀ (i : Nat) (x : α), xs[i]? = some x → E w lo hi (p.add (i * sz)) x)
def Stays {α : Type} (E : World → Nat → Nat → Addr → α → Prop) : Prop :=
  ∀ (w w' : World) (lo hi lo' hi' : Nat) (p : Addr) (x : α), E w lo hi p x → lo ≤ p.block → p.block < hi → (∀ q : Addr, lo ≤ q.block → q.block < hi → w'.cell? q = w.cell? q) → lo' ≤ lo → hi ≤ hi' → E w' lo' hi' p x
section
variable {α : Type} {sz : Nat} {E : World → Nat → Nat → Addr → α → Prop} {w w' : World} {lo hi lo' hi' n c : Nat} {A : Option Addr} {xs : List α}
theorem IsSeq.keep (h : IsSeq sz E w lo hi A n c xs) (hE : Stays E) (hk : ∀ q : Addr, lo ≤ q.block → q.block < hi → w'.cell? q = w.cell? q) (h1 : lo' ≤ lo) (h2 : hi ≤ hi') : IsSeq sz E w' lo' hi' A n c xs := by
  obtain ⟨a, b, d, e⟩ := h; refine ⟨a, b, d, fun hn => ?_⟩; obtain ⟨p, hp, hlo, hhi, ht⟩ := e hn; exact ⟨p, hp, by omega, by omega, fun i x hx => hE w w' lo hi lo' hi' _ x (ht i x hx) (by rw [block_add]; exact hlo) (by rw [block_add]; exact hhi) hk h1 h2⟩
theorem IsSeq.below {B : Nat} (h : IsSeq sz E w lo hi A n c xs) (hE : Stays E) (hb : Below B w w') (hh : hi ≤ B) : IsSeq sz E w' lo hi A n c xs :=
  h.keep hE (fun q _ hq => hb.cell qaa) (nl _) (nl _)
theorem IsSeq.up (h : IsSeq sz E w lo w.heap.size A n c xs) (hE : Stays E) (hb : Below w.heap.size w w') : IsSeq sz E w' lo w'.heap.size A n c xs :=
  h.keep hE (fun _ _ hq => hb.cell hq) (nl _) hb.size
theorem IsSeq.at_ (h : IsSeq sz E w lo hi A n c xs) {i : Nat} (hi' : i < n) : ∃ p x, A = some p ∧ lo ≤ p.block ∧ p.block < hi ∧ xs[i]? = some x ∧ E w lo hi (p.add (i * sz)) x := by
  obtain ⟨hl, _, _, e⟩ := h; obtain ⟨p, hp, h1, h2, h3⟩ := e qaa; have hg : xs[i]? = some xs[i] := List.getElem?_eq_getElem qaa; exact ⟨p, xs[i], hp, h1, h2, hg, h3 i _ hg⟩
theorem IsSeq.len (h : IsSeq sz E w lo hi A n c xs) : n ≤ maxLen := by
  have := h.2.1; have := h.2.2.1; omega
end
def nextTo (p : Addr) (k : Nat) : Addr := ⟨p.block, p.off + k, none⟩
def AtomE (w : World) (lo hi : Nat) (p : Addr) (a : At) : Prop :=
  w.cell? p = some (.string a.1) ∧ a.1.size ≤ maxLen ∧ ∃ A n c, w.cell? (nextTo p 1) = some (.slice A n c) ∧ IsTerms w lo hi A n c a.2
abbrev Pt := Bool × At
def PartE (w : World) (lo hi : Nat) (p : Addr) (q : Pt) : Prop :=
  w.cell? p = some (.bool q.1) ∧ w.cell? (nextTo p 1) = some (.string q.2.1) ∧ q.2.1.size ≤ maxLen ∧ ∃ A n c, w.cell? (nextTo p 2) = some (.slice A n c) ∧ IsTerms w lo hi A n c q.2.2
theorem AtomE.stays : Stays AtomE := by
  intro w w' lo hi lo' hi' p a ⟨h1, h2, A, n, c, h3, h4⟩ hp1 hp2 hk hl hh; exact ⟨(hk p hp1 hp2).trans h1, h2, A, n, c, (hk (nextTo p 1) hp1 hp2).trans h3, h4.keep hk hl hh⟩
theorem PartE.stays : Stays PartE := by
  intro w w' lo hi lo' hi' p a ⟨h1, h2, h0, A, n, c, h3, h4⟩ hp1 hp2 hk hl hh; exact ⟨(hk p hp1 hp2).trans h1, (hk (nextTo p 1) hp1 hp2).trans h2, h0, A, n, c, (hk (nextTo p 2) hp1 hp2).trans h3, h4.keep hk hl hh⟩
theorem PartE.out {w : World} {lo hi : Nat} {p : Addr} {q : Pt} (h : PartE w lo hi p q) : ∃ A n c, w.cell? p = some (.bool q.1) ∧ w.cell? ⟨p.block, p.off + 1, none⟩ = some (.string q.2.1) ∧ q.2.1.size ≤ maxLen ∧ w.cell? ⟨p.block, p.off + 2, none⟩ = some (.slice A n c) ∧ IsTerms w lo hi A n c q.2.2 := by
  obtain ⟨h1, h2, h3, A, n, c, h4, h5⟩ := h; exact ⟨A, n, c, h1, h2, h3, h4, h5⟩
theorem AtomE.out {w : World} {lo hi : Nat} {p : Addr} {a : At} (h : AtomE w lo hi p a) : ∃ A n c, w.cell? p = some (.string a.1) ∧ a.1.size ≤ maxLen ∧ w.cell? ⟨p.block, p.off + 1, none⟩ = some (.slice A n c) ∧ IsTerms w lo hi A n c a.2 := by
  obtain ⟨h1, h3, A, n, c, h4, h5⟩ := h; exact ⟨A, n, c, h1, h3, h4, h5⟩
abbrev IsAtoms := IsSeq 2 AtomE
abbrev IsParts := IsSeq 3 PartE
abbrev Rl := At × List Pt
def RuleE (w : World) (lo hi : Nat) (p : Addr) (r : Rl) : Prop :=
  w.cell? p = some (.string r.1.1) ∧ r.1.1.size ≤ maxLen ∧ (∃ A n c, w.cell? (nextTo p 1) = some (.slice A n c) ∧ IsTerms w lo hi A n c r.1.2) ∧ (∃ A n c, w.cell? (nextTo p 2) = some (.slice A n c) ∧ IsParts w lo hi A n c r.2)
theorem RuleE.stays : Stays RuleE := by
  intro w w' lo hi lo' hi' p a ⟨h1, h2, ⟨A, n, c, h3, h4⟩, ⟨B, m, d, h5, h6⟩⟩ hp1 hp2 hk hl hh; exact ⟨(hk p hp1 hp2).trans h1, h2, ⟨A, n, c, (hk (nextTo p 1) hp1 hp2).trans h3, h4.keep hk hl hh⟩, ⟨B, m, d, (hk (nextTo p 2) hp1 hp2).trans h5, h6.keep PartE.stays hk hl hh⟩⟩
abbrev IsRules := IsSeq 3 RuleE
abbrev Says (α : Type) := World → Nat → (Nat → Value) → α → Prop
section
variable {α : Type} {T sz : Nat} {V : Says α} {w w' : World} {g n k : Nat} {xs : List α}
theorem size_setCell (w : World) (a : Addr) (v : Value) : (w.setCell a v).heap.size = w.heap.size := by simp [World.setCell]
end
end Go.Proofs.YtcigljngiemdeaaGreat
namespace Go.Proofs.YtcigljngiemdeaaGreat
open Go.RowKit
def Box (w : World) (b : Nat) (u v : Value) : Prop := b < w.heap.size ∧ w.cell? ⟨b, 0, none⟩ = some u ∧ w.cell? ⟨b, 1, none⟩ = some v
theorem Box.new (w : World) (u v : Value) (t : TypeId) : Box (w.alloc (.cells #[u, v] t)) w.heap.size u v := by
  refine ⟨by simp, ?_, ?_⟩ <;> simp [go_sem]
theorem Box.later {w w' : World} {b : Nat} {u v : Value} (h : Box w b u v) (hb : Below w.heap.size w w') : Box w' b u v :=
  ⟨Nat.lt_of_lt_of_le h.1 hb.size, (hb.cell (p := ⟨b, 0, none⟩) h.1).trans h.2.1, (hb.cell (p := ⟨b, 1, none⟩) h.1).trans h.2.2⟩
theorem Box.up {w : World} {b : Nat} {u v : Value} (h : Box w b u v) (o : Obj) : Box (w.alloc o) b u v := h.later (below1 w o)
end Go.Proofs.YtcigljngiemdeaaGreat

namespace Go.Proofs.YtcigljngiemdeaaGreat
open Go.RowKit
end Go.Proofs.YtcigljngiemdeaaGreat
namespace Go.Proofs.YtcigljngiemdeaaGreat
open Go.RowKit
theorem size_alloc_eq (w : World) (o : Obj) : (w.alloc o).heap.size = w.heap.size + 1 := by simp
theorem Tryz.infoTerm : (Tryz.prog.info? 59).map (fun i => (i.zero, i.size, i.bytes)) = some (some (.agg #[.bool false, .string ByteArray.empty]), 2, 24) := by kernel_rfl
end Go.Proofs.YtcigljngiemdeaaGreat
namespace Go.Proofs.YtcigljngiemdeaaGreat
open Go.RowKit
def BoolPost (b : Bool) (w : World) (e : Ending) (w' : World) : Prop := e = .returned (.bool b) ∧ Below w.heap.size w w'
def termEq (a b : Tm) : Bool := (a.1 == b.1) && (a.2.toList == b.2.toList)
def termsEq : List Tm → List Tm → Bool
  | [], [] => true
  | a :: l, b :: m => termEq a b && termsEq l m
  | _, _ => false
theorem termsEq_len : ∀ {ts us : List Tm}, ts.length ≠ us.length → termsEq ts us = false
  | [], [], h => absurd rfl h
  | [], _ :: _, _ => rfl
  | _ :: _, [], _ => rfl
  | _ :: l, _ :: m, h => by
    have := termsEq_len (ts := l) (us := m) qbd; simp [termsEq, this]
theorem termsEq_end {ts us : List Tm} {n k : Nat} (h : ts.length = n) (h' : us.length = n) (hd : termsEq (ts.drop k) (us.drop k) = termsEq ts us) (hk : ¬ k < n) : true = termsEq ts us := by
  rw [← hd, List.drop_eq_nil_of_le qaa, List.drop_eq_nil_of_le qaa]; rfl
theorem termsEq_step {ts us : List Tm} {k : Nat} {t u : Tm} (h : ts[k]? = some t) (h' : us[k]? = some u) : termsEq (ts.drop k) (us.drop k) = (termEq t u && termsEq (ts.drop (k + 1)) (us.drop (k + 1))) := by
  obtain ⟨h1, h2⟩ := List.getElem?_eq_some_iff.1 h; obtain ⟨h3, h4⟩ := List.getElem?_eq_some_iff.1 h'; rw [List.drop_eq_getElem_cons h1, List.drop_eq_getElem_cons h3, h2, h4]; rfl
theorem termsEq_no {ts us : List Tm} {k : Nat} {t u : Tm} (h : ts[k]? = some t) (h' : us[k]? = some u) (hd : termsEq (ts.drop k) (us.drop k) = termsEq ts us) (he : (!termEq (t.1, t.2) (u.1, u.2)) = true) : false = termsEq ts us := by
  rw [← hd, termsEq_step h h']; have : termEq t u = false := by simpa using he
  rw [this]; rfl
theorem termsEq_on {ts us : List Tm} {k : Nat} {t u : Tm} (h : ts[k]? = some t) (h' : us[k]? = some u) (hd : termsEq (ts.drop k) (us.drop k) = termsEq ts us) (he : (!termEq (t.1, t.2) (u.1, u.2)) = false) : termsEq (ts.drop (k + 1)) (us.drop (k + 1)) = termsEq ts us := by
  rw [← hd, termsEq_step h h']; have : termEq t u = true := by simpa using he
  rw [this]; rfl
def atomEq (a b : At) : Bool := (a.1.toList == b.1.toList) && termsEq a.2 b.2
end Go.Proofs.YtcigljngiemdeaaGreat
namespace Go.Proofs.YtcigljngiemdeaaGreat
open Go.RowKit
def SmallAtoms (n : Nat) (xs : List At) : Prop := n ≤ 1048576 ∧ ∀ q ∈ xs, q.2.length ≤ 1048576
theorem Tryz.infoAt : (Tryz.prog.info? 49).map (fun i => (i.zero, i.size, i.bytes)) = some (some (.agg #[.string ByteArray.empty, .slice none 0 0]), 2, 40) := by kernel_rfl
theorem IsAtoms.low {w : World} {lo n c : Nat} {A : Option Addr} {xs : List At} (h : IsAtoms w lo w.heap.size A n c xs) : IsAtoms w 0 w.heap.size A n c xs := h.keep AtomE.stays (fun _ _ _ => rfl) (Nat.zero_le _) (nl _)
end Go.Proofs.YtcigljngiemdeaaGreat
