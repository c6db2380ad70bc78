/-
  Marks: what the law writes into a list to see who shares its memory, and how it reads that again.
-/
import Derived.Test.YtahkkelahocplaaDoorOwn
import Derived.Laws.IdiomStrings
namespace Go.Proofs.YtahkkelahocplaaDoor
open Go.RowKit

/-- The figures of a number. -/
def digs (k : Nat) : List UInt8 := if k = 0 then [] else digs (k / 10) ++ [UInt8.ofNat (48 + k % 10)]
termination_by k
decreasing_by omega

theorem digs_zero : digs 0 = [] := by rw [digs]; rfl
theorem digs_step {k : Nat} (h : 0 < k) : digs k = digs (k / 10) ++ [UInt8.ofNat (48 + k % 10)] := by rw [digs, if_neg (by omega)]

theorem digs_len : ∀ (n k : Nat), k < 10 ^ n → (digs k).length ≤ n
  | 0, k, h => by
    have : k = 0 := by simpa using h
    subst this; rw [digs_zero]; simp
  | n + 1, k, h => by
    by_cases h0 : 0 < k
    · rw [digs_step h0, List.length_append]
      have := digs_len n (k / 10) (by rw [Nat.pow_succ] at h; omega)
      simp; omega
    · have : k = 0 := by omega
      subst this; rw [digs_zero]; simp

/-- The mark of a number. -/
def markL (k : Nat) : List UInt8 := 109 :: (if k = 0 then [48] else digs k)
def markB (k : Nat) : ByteArray := ⟨(markL k).toArray⟩

theorem byteOf (j : Nat) : ((UInt8.ofNat (48 + j % 10)).toNat : Int) = 48 + (j : Int) % 10 := by
  have h : (UInt8.ofNat (48 + j % 10)).toNat = 48 + j % 10 := by rw [UInt8.toNat_ofNat']; omega
  rw [h]; omega

theorem oneByte (j : Nat) (W : World) : (convert 30 9 (.slice (some ⟨W.heap.size, 0, none⟩) 1 1)).run Tryd.prog (W.alloc (.cells #[.int .u8 (48 + (j : Int) % 10)] 5)) = .ok (.string ⟨#[UInt8.ofNat (48 + j % 10)]⟩) (W.alloc (.cells #[.int .u8 (48 + (j : Int) % 10)] 5)) := by
  have h := run_convert_bytes_back (P := Tryd.prog) (W.alloc (.cells #[.int .u8 (48 + (j : Int) % 10)] 5)) 30 9 5 ⟨W.heap.size, 0, none⟩ 1 [UInt8.ofNat (48 + j % 10)] Tryd.underlying30 Tryd.underlying5 Tryd.underlying9 (fun i hi => by
    have : i = 0 := by simpa using hi
    subst this
    show _ = some (Value.int .u8 ((UInt8.ofNat (48 + j % 10)).toNat : Int))
    rw [byteOf]
    simp [go_sem, Addr.add])
  exact h

theorem consB (a : UInt8) (l : List UInt8) : (⟨#[a]⟩ ++ ⟨l.toArray⟩ : ByteArray) = ⟨(a :: l).toArray⟩ := by
  apply ByteArray.ext
  simp [ByteArray.data_append]

set_option maxRecDepth 100000 in
set_option maxHeartbeats 1000000 in
theorem markText_any (k : Nat) (hk : k ≤ 2 ^ 62) (w : World) :
    Calls Tryd.prog 77 #[.int .i64 (k : Int)] w fun e w' => e = .returned (.string (markB k)) ∧ Below w.heap.size w w' := by
  by_cases h0 : 0 < k
  · have hl := digs_len 19 k (Nat.lt_of_le_of_lt hk (by decide))
    have hmk : Hid (markB k = ⟨(109 :: digs k).toArray⟩) := Lib.hid (by unfold markB markL; rw [if_neg (by omega)])
    go_enter Tryd.func77, Tryd.ntmps77
    go_wp2
    go_loopw [0, 3] (fun x s wr => ∃ (j : Nat) (l : List UInt8), x = .int .i64 (j : Int) ∧ s = .string ⟨l.toArray⟩ ∧ digs k = digs j ++ l ∧ j ≤ k ∧ Below w.heap.size w wr) (fun x _ _ => (intOf x).toNat)
    case atStart => exact ⟨k, [], rfl, rfl, by simp, Nat.le_refl _, Below.refl _ _⟩
    case round =>
      obtain ⟨j, l, rfl, rfl, hd, hj, hb⟩ := hrel
      have HD := Lib.hid hd; clear hd
      have hll : l.length ≤ 19 := by have := congrArg List.length HD.out; rw [List.length_append] at this; omega
      by_cases hj0 : 0 < j
      · have hcv := oneByte j wr
        have hst := digs_step hj0
        have HST := Lib.hid hst; clear hst
        go_wp2
        go_roundw
        case rel => exact ⟨j / 10, UInt8.ofNat (48 + j % 10) :: l, by rw [Int.natCast_ediv]; rfl, by rw [consB, UInt8.ofNat_add]; rfl, by rw [HD.out, HST.out, List.append_assoc]; rfl, by omega, belowThen hb (below1 wr _)⟩
        case measure => simp [intOf]; omega
      · have hj1 : j = 0 := by omega
        subst hj1
        have HF : Hid (Value.string ({ data := #[109] } ++ { data := l.toArray }) = .string (markB k)) := Lib.hid (by rw [hmk.out, consB, HD.out, digs_zero]; rfl)
        go_wp2
        go_ret; exact ⟨by rw [HF.out]; rfl, hb⟩
  · have hk0 : k = 0 := by omega
    subst hk0
    go_enter Tryd.func77, Tryd.ntmps77
    go_wp2
    go_ret; exact ⟨rfl, Below.refl _ _⟩

theorem grownRow {a b : World} {row : Option Nat} (h : Below a.heap.size a b) : a.grownBy b row := ⟨h.os, h.tape, h.output, h.size, fun i hi _ => h.block i hi⟩

theorem grownThen {a b c : World} {row : Option Nat} (h : a.grownBy b row) (k : b.grownBy c row) : a.grownBy c row :=
  ⟨k.os.trans h.os, k.tape.trans h.tape, k.output.trans h.output, Nat.le_trans h.size k.size, fun i hi hne => (k.block i (Nat.lt_of_lt_of_le hi h.size) hne).trans (h.block i hi hne)⟩

theorem grownSet (w : World) (g i : Nat) (v : Value) : w.grownBy (w.setCell ⟨g, i, none⟩ v) (some g) :=
  ⟨rfl, rfl, rfl, by simp [World.setCell], fun k _ hk => Below.heap_setCell _ _ _ k (fun e => hk (by rw [e]))⟩

theorem markText_is (z : Int) (k : Nat) (hz : z = (k : Int)) (hk : k ≤ 2 ^ 62) (w : World) :
    Calls Tryd.prog 77 #[.int .i64 z] w fun e w' => e = .returned (.string (markB k)) ∧ Below w.heap.size w w' := by
  subst hz; exact markText_any k hk w

theorem mod3 {k i : Nat} {b : Bool} (h : (((k : Int) + 2 * (i : Int)) % 3 == 0) = b) : b = decide ((k + 2 * i) % 3 = 0) := by
  rw [← h, Bool.eq_iff_iff, beq_iff_eq, decide_eq_true_eq]; omega

/-- What a marked row of terms holds. -/
def MarkedRow (k n : Nat) (f : Nat → Value) : Prop := ∀ i, i < n → f (i * 2) = .bool (decide ((k + 2 * i) % 3 = 0)) ∧ f (i * 2 + 1) = .string (markB (k + 2 * i + 1))

def MarkTPost (g m n k : Nat) (w : World) (e : Ending) (w' : World) : Prop :=
  e = .returned (.int .i64 ((k + 2 * n : Nat) : Int)) ∧ (∃ f', w'.rowIs g 62 m f' ∧ MarkedRow k n f') ∧ w.grownBy w' (some g)

set_option maxRecDepth 100000 in
set_option maxHeartbeats 1000000 in
theorem markTermS_any (g m n c k : Nat) (f : Nat → Value) (w : World) (hr : w.rowIs g 62 m f) (hm : n * 2 ≤ m) (hk : k + 2 * n ≤ 2 ^ 62) :
    Calls Tryd.prog 55 #[.slice (some ⟨g, 0, none⟩) n c, .int .i64 (k : Int)] w (MarkTPost g m n k w) := by
  go_enter Tryd.func55, Tryd.ntmps55
  go_wp2
  go_loopw [1, 5] (fun x y wr => ∃ i : Nat, i ≤ n ∧ x = .int .i64 ((k + 2 * i : Nat) : Int) ∧ y = .int .i64 (i : Int) ∧ (∃ f', wr.rowIs g 62 m f' ∧ MarkedRow k i f') ∧ w.grownBy wr (some g)) (fun _ y _ => n - (intOf y).toNat)
  case atStart => exact ⟨0, Nat.zero_le _, rfl, rfl, ⟨f, hr, fun i hi => absurd hi (Nat.not_lt_zero _)⟩, World.grownBy.refl w _⟩
  case round =>
    obtain ⟨i, hi, rfl, rfl, ⟨f', hr', hf'⟩, hg⟩ := hrel
    have HF := Lib.hid hf'; clear hf'
    by_cases hlt : i < n
    · obtain ⟨bv, hbv⟩ : ∃ bv, (((k : Int) + 2 * (i : Int)) % 3 == 0) = bv := ⟨_, rfl⟩
      have HV := Lib.hid (mod3 hbv)
      have c0 := hr'.cell (i := i * 2) (by omega)
      have z0 := hr'.frozen (i * 2)
      have hr2 := hr'.set (i * 2) (.bool bv)
      have hg2 := grownThen hg (grownSet wr g (i * 2) (.bool bv))
      go_wp2_with fail
      refine (markText_is _ (k + 2 * i + 1) (by omega) (by omega) _).mono ?_; rintro e w1 ⟨rfl, hb1⟩
      have hr3 := hr2.of_block (hb1.block g hr2.lt)
      have hg3 := grownThen hg2 (grownRow hb1)
      have c1 := hr3.cell (i := i * 2 + 1) (by omega)
      have z1 := hr3.frozen (i * 2 + 1)
      have hr4 := hr3.set (i * 2 + 1) (.string (markB (k + 2 * i + 1)))
      have hg4 := grownThen hg3 (grownSet w1 g (i * 2 + 1) (.string (markB (k + 2 * i + 1))))
      clear hr2 hr3 hg2 hg3 hr'
      go_wp2
      go_roundw
      case rel => exact ⟨i + 1, by omega, by go_num, by go_num, ⟨_, hr4, fun j hj => by
        by_cases e : j = i
        · subst e
          constructor
          · rw [if_neg (by omega), if_pos rfl, HV.out]
          · rw [if_pos rfl]
        · have hj' := HF.out j (by omega)
          constructor
          · rw [if_neg (by omega), if_neg (by omega)]; exact hj'.1
          · rw [if_neg (by omega), if_neg (by omega)]; exact hj'.2⟩, hg4⟩
      case measure => simp [intOf]; omega
    · have hin : i = n := by omega
      subst hin
      go_wp2
      go_ret; exact ⟨by go_num, ⟨f', hr', HF.out⟩, hg⟩

end Go.Proofs.YtahkkelahocplaaDoor
