/-
  Short proofs that stand in many places, each once.
-/
import Derived.Deep.RegionHeld3
import Derived.KernelRfl
import Derived.OwnWalkIn
import Derived.Lib.Hide
namespace Go.Proofs.YtogonjkklioaaaaGreatDoor
open Go Go.RowKit
theorem hid {p : Prop} (h : p) : RowKit.Hid p := h
theorem nl (n : Nat) : n ≤ n := Nat.le_refl n
theorem qms {p : Prop} (h : p := by simp [intOf]; omega) : p := h
theorem cb_ {w w' : World} {a : Addr} (h : w'.heap[a.block]? = w.heap[a.block]?) : w'.cell? a = w.cell? a := World.cell?_of_block h
theorem hs_ (w : World) (a : Addr) (u : Value) (k : Nat) (h : k ≠ a.block) : (w.setCell a u).heap[k]? = w.heap[k]? := Below.heap_setCell w a u k h
theorem qaa {p : Prop} (h : p := by omega) : p := h
theorem qab {p : Prop} (h : p := by kernel_rfl) : p := h
theorem qac {p : Prop} (h : p := by (simp only [List.getElem?_toArray, List.getElem?_cons_succ, List.getElem?_cons_zero]); rfl) : p := h
theorem qad {p : Prop} (h : p := by rfl) : p := h
theorem qae {p : Prop} (h : p := by (simp only [List.setIfInBounds_toArray, List.set_cons_succ, List.set_cons_zero]); rfl) : p := h
theorem qaf {p : Prop} (h : p := by unfold maxLen; omega) : p := h
theorem qag {p : Prop} (h : p := by simp) : p := h
theorem qah {p : Prop} (h : p := by show w.heap.size + 1 < _; omega) : p := h
theorem qai {p : Prop} (h : p := by simp; omega) : p := h
theorem qaj {p : Prop} (h : p := by show w.heap.size < _; omega) : p := h
theorem qak {p : Prop} (h : p := by first | exact rcells_one _ | simp [Value.oneCell']) : p := h
theorem qal {p : Prop} (h : p := by simp [Value.oneCell']) : p := h
theorem qam {p : Prop} (h : p := by decide) : p := h
theorem qan {p : Prop} (h : p := by first | exact tcl_one _ | simp [Value.oneCell']) : p := h
theorem qao {p : Prop} (h : p := by exact fun e => by injection e with e; omega) : p := h
theorem qap {p : Prop} (h : p := by rw [IntKind.wrap_i64]; omega) : p := h
theorem qaq {p : Prop} (h : p := by show (p.add (i * 3)).block < _; rw [zag]; exact hpp) : p := h
theorem qar {p : Prop} (h : p := by cases e) : p := h
theorem qas {p : Prop} (h : p := by rw [zag]; exact Nat.lt_of_lt_of_le hhi hb.size) : p := h
theorem qat {p : Prop} (h : p := by rw [zag]; omega) : p := h
theorem qau {p : Prop} (h : p := by rw [zag]; exact Nat.lt_of_lt_of_le hhi (Nat.le_trans hb.size hb1.size)) : p := h
theorem qav {p : Prop} (h : p := by simp [results, Tryz.results110, go_sem, v0, v1, v2, v3]) : p := h
theorem qaw {p : Prop} (h : p := by rw [zag]; show pb.block < _; omega) : p := h
theorem qax {p : Prop} (h : p := by show (p3.add (k * 2)).block < _; rw [zag]; exact hpp3) : p := h
theorem qay {p : Prop} (h : p := by simp [results, Tryz.results41, go_sem, x0, x1]) : p := h
theorem qaz {p : Prop} (h : p := by have h := J.r4 rfl; have e : ncl rt ++ [.int .i64 (x : Int)] ++ ncl rd = ncl (rt ++ [x] ++ rd) := (by unfold ncl; simp); rw [e] at h; exact h) : p := h
theorem qba {p : Prop} (h : p := by show w.heap.size + 2 < _; omega) : p := h
theorem qbb {p : Prop} (h : p := by simp [results, Tryz.results74, go_sem, x0, x1]) : p := h
theorem qbc {p : Prop} (h : p := by show (p2.add (j * 2)).block < _; rw [zag]; exact hpp2) : p := h
theorem qbd {p : Prop} (h : p := by show g ≠ b; omega) : p := h
theorem qbe {p : Prop} (h : p := by show g ≠ x; omega) : p := h
theorem qbf {p : Prop} (h : p := by simpa using h0) : p := h
theorem qbg {p : Prop} (h : p := by show b ≠ w.heap.size; omega) : p := h
theorem qbh {p : Prop} (h : p := by simp [results, Tryz.results14, go_sem, a0, a1]) : p := h
theorem qbi {p : Prop} (h : p := by simpa using h) : p := h
theorem qbj {p : Prop} (h : p := by rw [zab, zab]) : p := h
theorem qbk {p : Prop} (h : p := by rw [zag]; exact hpz) : p := h
theorem qbl {p : Prop} (h : p := by assumption) : p := h
theorem qbm {p : Prop} (h : p := by show w.heap.size + 1 ≠ _; omega) : p := h
theorem qbn {p : Prop} (h : p := by rw [zab, zab]; exact nl _) : p := h
theorem qbo {p : Prop} (h : p := by rw [beq_eq_false_iff_ne]; omega) : p := h
theorem qbp {p : Prop} (h : p := by have h := zcv (m := 40) (by omega) HG.out; rw [HL1.out] at h; exact h) : p := h
theorem qbq {p : Prop} (h : p := by show q.block ≠ w.heap.size; omega) : p := h
theorem qbr {p : Prop} (h : p := by show w.heap.size ≤ g; omega) : p := h
theorem qbs {p : Prop} (h : p := by have := (Array.getElem?_eq_some_iff.1 ho).1; exact this) : p := h
theorem qbt {p : Prop} (h : p := by simp [Value.ownBlock]; omega) : p := h
theorem qbu {p : Prop} (h : p := by have := h.2.1; have := h.2.2.1; omega) : p := h
theorem qbv {p : Prop} (h : p := by rw [← hV]; rfl) : p := h
theorem qbw {p : Prop} (h : p := by simp [results, Tryz.results9, go_sem, a0, a1]) : p := h
theorem qbx {p : Prop} (h : p := by simp [results, Tryz.results109, go_sem, u0, u1, u2]) : p := h
theorem qby {p : Prop} (h : p := by show R ≠ w.heap.size; omega) : p := h
theorem qbz {p : Prop} (h : p := by show q ≠ w.heap.size; omega) : p := h
theorem qca {p : Prop} (h : p := by show w.heap.size ≠ _; omega) : p := h
theorem qcb {p : Prop} (h : p := by rw [zag]; exact hpb) : p := h
theorem qcc {p : Prop} (h : p := by simp [results, Tryz.results166, go_sem, b0, b1]) : p := h
theorem qcd {p : Prop} (h : p := by rw [zag]; show p.block < _; omega) : p := h
theorem qce {p : Prop} (h : p := by exact fun e => by have := congrArg Addr.block e; rw [zag] at this; simp at this; omega) : p := h
theorem qcf {p : Prop} (h : p := by rw [zab, zab, zab, zab]) : p := h
theorem qcg {p : Prop} (h : p := by exact fun a b => by omega) : p := h
theorem qch {p : Prop} (h : p := by rw [← hV1]; exact zfq V 51 _ BXV.lt) : p := h
theorem qci {p : Prop} (h : p := by show (p.add (i * 3)).block < _; rw [zag]; exact hpb) : p := h
theorem qcj {p : Prop} (h : p := by have h1 := eq_of_beq he; rwa [ByteArray.toList_eq, ByteArray.toList_eq] at h1) : p := h
theorem qck {p : Prop} (h : p := by simp only [zab]; exact nl _) : p := h
theorem qcl {p : Prop} (h : p := by rw [← d5.1]; exact HN.out q (List.mem_of_getElem? hg)) : p := h
theorem qcm {p : Prop} (h : p := by simp [results, Tryz.results15, go_sem]) : p := h
theorem qcn {p : Prop} (h : p := by show (p'.add (k * 2)).block < _; rw [zag]; omega) : p := h
theorem qco {p : Prop} (h : p := by exact fun e => by simp [Value.ownBlock] at e; omega) : p := h
theorem qcp {p : Prop} (h : p := by simp [Value.ownBlock]) : p := h
theorem qcq {p : Prop} (h : p := by simp [results, Tryz.results168, go_sem]) : p := h
theorem qcr {p : Prop} (h : p := by rw [zag]; exact Nat.lt_of_lt_of_le hpb hb1.size) : p := h
theorem qcs {p : Prop} (h : p := by show (p.add (k * 2)).block < _; rw [zag]; omega) : p := h
theorem qct {p : Prop} (h : p := by show (p.add (i * 3)).block < _; rw [zag]; omega) : p := h
theorem qcu {p : Prop} (h : p := by show (p.add (i * 2)).block < _; rw [zag]; omega) : p := h
theorem qcv {p : Prop} (h : p := by rw [← hV1]; exact HBV.alloc HBV.size _) : p := h
theorem qcw {p : Prop} (h : p := by simp at h0 d0; omega) : p := h
theorem qcx {p : Prop} (h : p := by simp only [zeh]; omega) : p := h
theorem qcy {p : Prop} (h : p := by rw [zag]; exact hpp3) : p := h
theorem qcz {p : Prop} (h : p := by rw [zag]; exact Nat.lt_of_lt_of_le hhi hsz) : p := h
theorem qda {p : Prop} (h : p := by exact fun h => by cases h) : p := h
theorem qdb {p : Prop} (h : p := by exact fun e => by omega) : p := h
theorem qdc {p : Prop} (h : p := by rw [HV0.out]; exact ⟨x0, x1, x2⟩) : p := h
theorem qdd {p : Prop} (h : p := by show b ≠ cb; omega) : p := h
theorem qde {p : Prop} (h : p := by rw [List.length_take]; omega) : p := h
theorem qdf {p : Prop} (h : p := by have := hE; unfold TextE at this; rwa [Nat.mul_one] at this) : p := h
theorem qdg {p : Prop} (h : p := by rw [← hV11]; exact HB10.alloc HB10.size _) : p := h
theorem qdh {p : Prop} (h : p := by have := hmn.out; omega) : p := h
theorem qdi {p : Prop} (h : p := by rw [zag]; exact hpp2) : p := h
theorem qdj {p : Prop} (h : p := by simp [Value.ownBlock]; exact hne) : p := h
theorem qdk {p : Prop} (h : p := by rw [← hV10]; exact HBV.alloc HBV.size _) : p := h
theorem qdl {p : Prop} (h : p := by first | rfl | trivial) : p := h
theorem qdm {p : Prop} (h : p := by rw [← hV3]; exact HB2.alloc HB2.size _) : p := h
theorem qdn {p : Prop} (h : p := by rw [← hV6]; exact HB1.alloc HB1.size _) : p := h
theorem qdo {p : Prop} (h : p := by exact fun _ => by rw [HAj.out, HL.out]; exact hle) : p := h
theorem qdp {p : Prop} (h : p := by rw [List.take_of_length_le (by have := HL0.out; omega)]) : p := h
theorem qdq {p : Prop} (h : p := by simpa using d1) : p := h
theorem qdr {p : Prop} (h : p := by exact fun e => by subst e; simp at hq) : p := h
theorem qds {p : Prop} (h : p := by have := (List.getElem?_eq_some_iff.1 hj).1; omega) : p := h
theorem qdt {p : Prop} (h : p := by exact fun r e => by cases e) : p := h
theorem qdu {p : Prop} (h : p := by exact fun g hg => by have := far g hg; omega) : p := h
theorem qdv {p : Prop} (h : p := by rw [zbk, hput]; exact beq_self_eq_true _) : p := h
theorem qdw {p : Prop} (h : p := by exact fun t ht => by rw [List.mem_singleton.1 ht]; decide) : p := h
theorem qdx {p : Prop} (h : p := by rw [← hV3]; exact Blk.new V2 _ _) : p := h
theorem qdy {p : Prop} (h : p := by rw [← hV6]; exact Blk.new V1 _ _) : p := h
theorem qdz {p : Prop} (h : p := by rw [← hV10]; exact Blk.new V _ _) : p := h
theorem qea {p : Prop} (h : p := by rw [← hV11]; exact TM10.alloc _) : p := h
theorem qeb {p : Prop} (h : p := by rw [HAj.out, HAk2.out]; exact hgt) : p := h
theorem qec {p : Prop} (h : p := by show w.heap.size + 2 ≠ g; omega) : p := h
theorem qed {p : Prop} (h : p := by show w.heap.size + 2 ≠ _; omega) : p := h
theorem qee {p : Prop} (h : p := by rw [← hV3]; exact OW2.alloc _) : p := h
theorem qef {p : Prop} (h : p := by rw [← hV6]; exact OW1.alloc _) : p := h
theorem qeg {p : Prop} (h : p := by show w.heap.size + 1 < a; omega) : p := h
theorem qeh {p : Prop} (h : p := by obtain ⟨p, hr⟩ := hr; exact hr.cell 1) : p := h
theorem qei {p : Prop} (h : p := by exact fun e => by have := HFAR.out _ e.symm; omega) : p := h
theorem qej {p : Prop} (h : p := by exact fun _ _ _ h => by cases h) : p := h
theorem qek {p : Prop} (h : p := by have := HL0.out; omega) : p := h
theorem qel {p : Prop} (h : p := by simpa using hy) : p := h
theorem qem {p : Prop} (h : p := by simpa using hu) : p := h
theorem qen {p : Prop} (h : p := by have := HLL.out; have := HLR.out; omega) : p := h
theorem qeo {p : Prop} (h : p := by rw [← htl] at hp; exact hp) : p := h
theorem qep {p : Prop} (h : p := by exact fun r hr => by rw [hsame r hr]) : p := h
theorem qeq {p : Prop} (h : p := by rw [hV]; exact ⟨x1, x2⟩) : p := h
theorem qer {p : Prop} (h : p := by simp [go_sem]) : p := h
theorem qes {p : Prop} (h : p := by have := h.hb; omega) : p := h
theorem qet {p : Prop} (h : p := by rw [← hq4]; simp; omega) : p := h
end Go.Proofs.YtogonjkklioaaaaGreatDoor
