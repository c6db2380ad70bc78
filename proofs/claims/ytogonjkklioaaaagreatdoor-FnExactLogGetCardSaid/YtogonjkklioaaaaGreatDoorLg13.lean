/-
  Texts of one claim, put together.
-/
import Derived.Test.YtogonjkklioaaaaGreatDoorLg2
import Derived.Test.YtogonjkklioaaaaGreatDoorLg12
import Derived.Test.YtogonjkklioaaaaGreatDoorLg0
import Derived.Deep.RegionHeld3
import Derived.Test.YtogonjkklioaaaaGreatDoorLg11
import Derived.Laws.IdiomStrings
import Derived.Test.YtogonjkklioaaaaGreatDoorLg4
namespace Go.Proofs.YtogonjkklioaaaaGreatDoor
open Go.RowKit

/-- The pieces, as texts. -/
def cutsB (c : UInt8) (s : ByteArray) : List ByteArray := (cuts c s.data.toList).map fun l => ⟨l.toArray⟩

theorem piece_new (W : World) (x : Value) (t : TypeId) : ∀ j u, [x][j]? = some u → (W.alloc (.cells #[x] t)).cell? ((⟨W.heap.size, 0, none⟩ : Addr).add j) = some u := by
  intro j u hu
  match j, hu with
  | 0, hu => simp at hu; subst hu; simp [go_sem, Addr.add]

/-- As far as byte k a text is cut: these pieces, and what begins at f. -/
def CutAt (c : UInt8) (s : ByteArray) (k f : Nat) (os : List ByteArray) : Prop := f ≤ k ∧ k ≤ s.size ∧ os.length ≤ k ∧ cutRun c (s.data.toList.take k) = (os.map fun x => x.data.toList, (s.data.toList.take k).drop f)

theorem CutAt.start (c : UInt8) (s : ByteArray) : CutAt c s 0 0 [] := ⟨Nat.le_refl _, Nat.zero_le _, Nat.le_refl _, rfl⟩

theorem CutAt.hit {c : UInt8} {s : ByteArray} {k f : Nat} {os : List ByteArray} (h : CutAt c s k f os) (hk : k < s.size) (hb : s[k] = c) : CutAt c s (k + 1) (k + 1) (os ++ [s.extract f k]) := by
  obtain ⟨h1, h2, h3, h4⟩ := h
  refine ⟨Nat.le_refl _, hk, by rw [List.length_append]; simp; omega, ?_⟩
  have hg : s.data.toList[k]? = some c := by rw [← hb]; exact List.getElem?_eq_getElem (by simpa using hk)
  rw [cutRun_take c _ k c hg, h4]
  unfold cutStep
  rw [if_pos rfl, List.map_append]
  have e : (s.extract f k).data.toList = (s.data.toList.take k).drop f := by
    rw [Lib.extract_data]
    rw [List.drop_take]
  have e2 : (s.data.toList.take (k + 1)).drop (k + 1) = [] := List.drop_eq_nil_of_le (by rw [List.length_take]; omega)
  rw [e2, ← e]
  rfl

theorem CutAt.on {c : UInt8} {s : ByteArray} {k f : Nat} {os : List ByteArray} (h : CutAt c s k f os) (hk : k < s.size) (hb : s[k] ≠ c) : CutAt c s (k + 1) f os := by
  obtain ⟨h1, h2, h3, h4⟩ := h
  refine ⟨by omega, hk, by omega, ?_⟩
  have hg : s.data.toList[k]? = some s[k] := List.getElem?_eq_getElem (by simpa using hk)
  rw [cutRun_take c _ k _ hg, h4]
  unfold cutStep
  rw [if_neg hb]
  have hl : k < s.data.toList.length := by simpa using hk
  rw [List.take_succ_eq_append_getElem hl, List.drop_append_of_le_length (by rw [List.length_take]; omega)]
  rfl

theorem CutAt.all {c : UInt8} {s : ByteArray} {k f : Nat} {os : List ByteArray} (h : CutAt c s k f os) (hk : ¬ k < s.size) : os ++ [s.extract f s.size] = cutsB c s := by
  obtain ⟨h1, h2, h3, h4⟩ := h
  have hl : s.data.toList.length = s.size := by simp
  have hks : k = s.size := by omega
  subst hks
  rw [List.take_of_length_le (by omega)] at h4
  unfold cutsB cuts
  rw [h4]
  have e : (⟨(s.data.toList.drop f).toArray⟩ : ByteArray) = s.extract f s.size := by
    apply ByteArray.ext
    apply Array.toList_inj.1
    rw [Lib.extract_to_end]
  have e2 : ((os.map fun x => x.data.toList).map fun l => (⟨l.toArray⟩ : ByteArray)) = os := by
    rw [List.map_map]
    conv => rhs; rw [← List.map_id os]
    exact List.map_congr_left fun x _ => by cases x; rfl
  rw [List.map_append, e2]
  simp [e]

theorem cutsB_len (c : UInt8) (s : ByteArray) : (cutsB c s).length ≤ s.size + 1 := by
  have := cuts_len c s.data.toList
  have hl : s.data.toList.length = s.size := by simp
  unfold cutsB
  rw [List.length_map]; omega

theorem byte_eq {a c : UInt8} (h : ((a.toNat : Int) == (c.toNat : Int)) = true) : a = c := UInt8.toNat_inj.1 (by have := beq_iff_eq.1 h; omega)
theorem byte_ne {a c : UInt8} (h : ((a.toNat : Int) == (c.toNat : Int)) = false) : a ≠ c := fun e => by subst e; simp at h

/-- A row that is the call's own grew. -/
theorem cutRow {w wr w5 : World} {e : TypeId} {sz n : Nat} {v : Value} {xs : List Value} {o : Obj} (hb : Below w.heap.size w wr) (hr : wr.ownsRow w.heap.size e sz v n xs) (hg : (wr.alloc o).grownBy w5 v.ownBlock) : Below w.heap.size w w5 :=
  (hb.alloc hb.size o).grown hg (by have := hb.size; simp; omega) (fun j ej => (hr.lt j ej).1)

set_option maxRecDepth 100000 in
set_option maxHeartbeats 4000000 in
theorem l1Cut_any (s : ByteArray) (c : UInt8) (w : World) (hs : s.size ≤ 1048576) :
    Calls Tryz.prog 39 #[.string s, .int .u8 (c.toNat : Int)] w (TextsPost w.heap.size (cutsB c s) w) := by
  obtain ⟨i0, hi, hz, hsz, hby⟩ := info_parts Tryz.infoText
  go_enter Tryz.func39, Tryz.ntmps39
  go_wp2
  go_loopw [5, 6, 7] (fun o f i wr => ∃ (k fr : Nat) (os : List ByteArray) (Av : Option Addr) (cv : Nat), f = .int .i64 fr ∧ i = .int .i64 k ∧ o = .slice Av os.length cv ∧ wr.ownsRow w.heap.size 9 1 (.slice Av os.length cv) os.length (tcl os) ∧ CutAt c s k fr os ∧ Below w.heap.size w wr) (fun _ _ i _ => s.size - (intOf i).toNat)
  case atStart => exact ⟨0, 0, [], some ⟨w.heap.size, 0, none⟩, 0, rfl, rfl, rfl, ⟨rfl, .inr ⟨w.heap.size, 0, #[], rfl, Nat.le_refl _, heap_alloc_new w _, Nat.le_refl _, by unfold maxLen; omega, rfl, rfl⟩⟩, CutAt.start c s, below1 _ _⟩
  case round =>
    obtain ⟨k, fr, os, Av, cv, rfl, rfl, rfl, hrow, hc, hb⟩ := hrel
    have HR := Lib.hid hrow
    have hfk := hc.1; have hks := hc.2.1; have hok := hc.2.2.1
    have HC := Lib.hid hc
    clear hrow hc
    have hwr := hb.size
    by_cases hlt : k < s.size
    · have hlt2 : (k : Int) < (s.size : Int) := by omega
      have HNEW := Lib.hid (piece_new wr (.string (s.extract fr k)) 9)
      go_wp2_with (at_builtin; refine wpList_append_own _ rfl _ _ 71 rfl w.heap.size 9 i0 _ 1 16 Tryz.underlying71 hi hz hsz hby rfl (by decide) _ _ _ rfl (HR.out.alloc _) ⟨wr.heap.size, 0, none⟩ 1 1 [.string (s.extract fr k)] rfl rfl HNEW.out (by simp [Value.oneCell']) (by unfold maxLen; omega) (by omega) (by simp; omega) ?_; intro v' w5 hown' hgrow' _; obtain ⟨g', cap', rfl⟩ := ownsRow_succ hown'; have hown := Lib.hid hown'; have hgrow := Lib.hid hgrow'; clear hown' hgrow')
      · have HR5 : Hid (w5.ownsRow w.heap.size 9 1 (.slice (some ⟨g', 0, none⟩) (os.length + 1) cap') (os.length + 1) (tcl (os ++ [s.extract fr k]))) := Lib.hid (by unfold tcl; rw [List.map_append]; exact hown.out)
        have hb5 := Lib.hid (cutRow hb HR.out hgrow.out)
        have hbe : s[k] = c := byte_eq (by assumption)
        have HC5 := Lib.hid (HC.out.hit hlt hbe)
        clear hown hgrow HR
        go_roundw
        case rel => exact ⟨k + 1, k + 1, os ++ [s.extract fr k], _, cap', by go_num, by go_num, by rw [List.length_append]; rfl, by rw [List.length_append]; exact HR5.out, HC5.out, hb5.out⟩
        case measure => simp [intOf]; omega
      · have hbe : s[k] ≠ c := byte_ne (by assumption)
        have HC5 := Lib.hid (HC.out.on hlt hbe)
        go_roundw
        case rel => exact ⟨k + 1, fr, os, Av, cv, rfl, by go_num, rfl, HR.out, HC5.out, hb⟩
        case measure => simp [intOf]; omega
    · have hks' : k = s.size := by omega
      have HNEW := Lib.hid (piece_new wr (.string (s.extract fr s.size)) 9)
      go_wp2_with (at_builtin; refine wpList_append_own _ rfl _ _ 71 rfl w.heap.size 9 i0 _ 1 16 Tryz.underlying71 hi hz hsz hby rfl (by decide) _ _ _ rfl (HR.out.alloc _) ⟨wr.heap.size, 0, none⟩ 1 1 [.string (s.extract fr s.size)] rfl rfl HNEW.out (by simp [Value.oneCell']) (by unfold maxLen; omega) (by omega) (by simp; omega) ?_; intro v' w5 hown' hgrow' _; obtain ⟨g', cap', rfl⟩ := ownsRow_succ hown'; have hown := Lib.hid hown'; have hgrow := Lib.hid hgrow'; clear hown' hgrow')
      have HR5 : Hid (w5.ownsRow w.heap.size 9 1 (.slice (some ⟨g', 0, none⟩) (os.length + 1) cap') (os.length + 1) (tcl (cutsB c s))) := Lib.hid (by rw [← HC.out.all hlt]; unfold tcl; rw [List.map_append]; exact hown.out)
      have hb5 := Lib.hid (cutRow hb HR.out hgrow.out)
      obtain ⟨p, d, e5, hT⟩ := texts_own HR5.out (Nat.succ_pos _) (Nat.le_refl _)
      rw [e5]
      have HT := Lib.hid hT
      clear hown hgrow HR hT
      go_wp2
      go_ret
      exact ⟨p, d, rfl, HT.out, hb5.out⟩

end Go.Proofs.YtogonjkklioaaaaGreatDoor

namespace Go.Proofs.YtogonjkklioaaaaGreatDoor
open Go.RowKit

set_option maxHeartbeats 400000 in
theorem specAtomPut_any (nm : ByteArray) (A : Option Addr) (n c : Nat) (ts : List Tm) (w : World) (hs : nm.size ≤ maxLen) (h : IsTerms w 0 w.heap.size A n c ts) :
    Calls Tryz.prog 70 #[.agg #[.string nm, .slice A n c]] w (StrPost (putB (nm, ts)) w) := by
  have H := Lib.hid h; clear h
  have hw0 := below1 w (.cells #[.string nm, .slice A n c] 51)
  have B0 := Lib.hid (Box.new w (.string nm) (.slice A n c) 51)
  go_enter Tryz.func70, Tryz.ntmps70
  go_wp2_with fail
  refine (specAtomOk_any _ _ _ _ ts _ hs (H.out.up hw0)).mono ?_; rintro e w1 ⟨rfl, hb1⟩
  have HB1 := belowThen hw0 hb1
  obtain ⟨x1, x2, x3⟩ := B0.out.later hb1
  clear hb1
  cases hA : atomB (nm, ts)
  · have E := Lib.hid (show putB (nm, ts) = [] by unfold putB; rw [hA]; rfl); clear hA
    go_wp2
    go_ret; exact ⟨by rw [E.out]; rfl, HB1⟩
  · have E := Lib.hid (show putB (nm, ts) = textL (nm, ts) by unfold putB; rw [hA]; rfl)
    have hle := textL_le hA
    clear hA
    go_wp2_with fail
    refine (l1Put_any _ _ _ _ ts _ (H.out.up HB1) (by omega)).mono ?_; rintro e w2 ⟨rfl, hb2⟩
    go_wp2
    go_ret; exact ⟨by rw [E.out]; rfl, belowThen HB1 hb2⟩


end Go.Proofs.YtogonjkklioaaaaGreatDoor

namespace Go.Proofs.YtogonjkklioaaaaGreatDoor
open Go.RowKit

/-- The figures of a number. -/
def digs (k : Nat) : List UInt8 := if k = 0 then [] else digs (k / 10) ++ [UInt8.ofNat (48 + k % 10)]
termination_by k
decreasing_by omega

theorem digs_zero : digs 0 = [] := by rw [digs]; rfl
theorem digs_step {k : Nat} (h : 0 < k) : digs k = digs (k / 10) ++ [UInt8.ofNat (48 + k % 10)] := by rw [digs, if_neg (by omega)]

theorem digs_len : ∀ (n k : Nat), k < 10 ^ n → (digs k).length ≤ n
  | 0, k, h => by
    have : k = 0 := by simpa using h
    subst this; rw [digs_zero]; simp
  | n + 1, k, h => by
    by_cases h0 : 0 < k
    · rw [digs_step h0, List.length_append]
      have := digs_len n (k / 10) (by rw [Nat.pow_succ] at h; omega)
      simp; omega
    · have : k = 0 := by omega
      subst this; rw [digs_zero]; simp

/-- The mark of a number. -/
def markL (k : Nat) : List UInt8 := 109 :: (if k = 0 then [48] else digs k)
def markB (k : Nat) : ByteArray := ⟨(markL k).toArray⟩

theorem byteOf (j : Nat) : ((UInt8.ofNat (48 + j % 10)).toNat : Int) = 48 + (j : Int) % 10 := by
  have h : (UInt8.ofNat (48 + j % 10)).toNat = 48 + j % 10 := by rw [UInt8.toNat_ofNat']; omega
  rw [h]; omega

theorem oneByte (j : Nat) (W : World) : (convert 22 9 (.slice (some ⟨W.heap.size, 0, none⟩) 1 1)).run Tryz.prog (W.alloc (.cells #[.int .u8 (48 + (j : Int) % 10)] 5)) = .ok (.string ⟨#[UInt8.ofNat (48 + j % 10)]⟩) (W.alloc (.cells #[.int .u8 (48 + (j : Int) % 10)] 5)) := by
  have h := run_convert_bytes_back (P := Tryz.prog) (W.alloc (.cells #[.int .u8 (48 + (j : Int) % 10)] 5)) 22 9 5 ⟨W.heap.size, 0, none⟩ 1 [UInt8.ofNat (48 + j % 10)] Tryz.underlying22 Tryz.underlying5 Tryz.underlying9 (fun i hi => by
    have : i = 0 := by simpa using hi
    subst this
    show _ = some (Value.int .u8 ((UInt8.ofNat (48 + j % 10)).toNat : Int))
    rw [byteOf]
    simp [go_sem, Addr.add])
  exact h

theorem consB (a : UInt8) (l : List UInt8) : (⟨#[a]⟩ ++ ⟨l.toArray⟩ : ByteArray) = ⟨(a :: l).toArray⟩ := by
  apply ByteArray.ext
  simp [ByteArray.data_append]

set_option maxRecDepth 100000 in
set_option maxHeartbeats 1000000 in
theorem markText_any (k : Nat) (hk : k ≤ 2 ^ 62) (w : World) :
    Calls Tryz.prog 77 #[.int .i64 (k : Int)] w fun e w' => e = .returned (.string (markB k)) ∧ Below w.heap.size w w' := by
  by_cases h0 : 0 < k
  · have hl := digs_len 19 k (Nat.lt_of_le_of_lt hk (by decide))
    have hmk : Hid (markB k = ⟨(109 :: digs k).toArray⟩) := Lib.hid (by unfold markB markL; rw [if_neg (by omega)])
    go_enter Tryz.func77, Tryz.ntmps77
    go_wp2
    go_loopw [0, 3] (fun x s wr => ∃ (j : Nat) (l : List UInt8), x = .int .i64 (j : Int) ∧ s = .string ⟨l.toArray⟩ ∧ digs k = digs j ++ l ∧ j ≤ k ∧ Below w.heap.size w wr) (fun x _ _ => (intOf x).toNat)
    case atStart => exact ⟨k, [], rfl, rfl, by simp, Nat.le_refl _, Below.refl _ _⟩
    case round =>
      obtain ⟨j, l, rfl, rfl, hd, hj, hb⟩ := hrel
      have HD := Lib.hid hd; clear hd
      have hll : l.length ≤ 19 := by have := congrArg List.length HD.out; rw [List.length_append] at this; omega
      by_cases hj0 : 0 < j
      · have hcv := oneByte j wr
        have hst := digs_step hj0
        have HST := Lib.hid hst; clear hst
        go_wp2
        go_roundw
        case rel => exact ⟨j / 10, UInt8.ofNat (48 + j % 10) :: l, by rw [Int.natCast_ediv]; rfl, by rw [consB, UInt8.ofNat_add]; rfl, by rw [HD.out, HST.out, List.append_assoc]; rfl, by omega, belowThen hb (below1 wr _)⟩
        case measure => simp [intOf]; omega
      · have hj1 : j = 0 := by omega
        subst hj1
        have HF : Hid (Value.string ({ data := #[109] } ++ { data := l.toArray }) = .string (markB k)) := Lib.hid (by rw [hmk.out, consB, HD.out, digs_zero]; rfl)
        go_wp2
        go_ret; exact ⟨by rw [HF.out]; rfl, hb⟩
  · have hk0 : k = 0 := by omega
    subst hk0
    go_enter Tryz.func77, Tryz.ntmps77
    go_wp2
    go_ret; exact ⟨rfl, Below.refl _ _⟩

theorem grownRow {a b : World} {row : Option Nat} (h : Below a.heap.size a b) : a.grownBy b row := ⟨h.os, h.tape, h.output, h.size, fun i hi _ => h.block i hi⟩

theorem grownThen {a b c : World} {row : Option Nat} (h : a.grownBy b row) (k : b.grownBy c row) : a.grownBy c row :=
  ⟨k.os.trans h.os, k.tape.trans h.tape, k.output.trans h.output, Nat.le_trans h.size k.size, fun i hi hne => (k.block i (Nat.lt_of_lt_of_le hi h.size) hne).trans (h.block i hi hne)⟩

theorem grownSet (w : World) (g i : Nat) (v : Value) : w.grownBy (w.setCell ⟨g, i, none⟩ v) (some g) :=
  ⟨rfl, rfl, rfl, by simp [World.setCell], fun k _ hk => Below.heap_setCell _ _ _ k (fun e => hk (by rw [e]))⟩

theorem markText_is (z : Int) (k : Nat) (hz : z = (k : Int)) (hk : k ≤ 2 ^ 62) (w : World) :
    Calls Tryz.prog 77 #[.int .i64 z] w fun e w' => e = .returned (.string (markB k)) ∧ Below w.heap.size w w' := by
  subst hz; exact markText_any k hk w

theorem mod3 {k i : Nat} {b : Bool} (h : (((k : Int) + 2 * (i : Int)) % 3 == 0) = b) : b = decide ((k + 2 * i) % 3 = 0) := by
  rw [← h, Bool.eq_iff_iff, beq_iff_eq, decide_eq_true_eq]; omega

/-- What a marked row of terms holds. -/
def MarkedRow (k n : Nat) (f : Nat → Value) : Prop := ∀ i, i < n → f (i * 2) = .bool (decide ((k + 2 * i) % 3 = 0)) ∧ f (i * 2 + 1) = .string (markB (k + 2 * i + 1))

def MarkTPost (g m n k : Nat) (w : World) (e : Ending) (w' : World) : Prop :=
  e = .returned (.int .i64 ((k + 2 * n : Nat) : Int)) ∧ (∃ f', w'.rowIs g 110 m f' ∧ MarkedRow k n f') ∧ w.grownBy w' (some g)

set_option maxRecDepth 100000 in
set_option maxHeartbeats 1000000 in
theorem markTermS_any (g m n c k : Nat) (f : Nat → Value) (w : World) (hr : w.rowIs g 110 m f) (hm : n * 2 ≤ m) (hk : k + 2 * n ≤ 2 ^ 62) :
    Calls Tryz.prog 78 #[.slice (some ⟨g, 0, none⟩) n c, .int .i64 (k : Int)] w (MarkTPost g m n k w) := by
  go_enter Tryz.func78, Tryz.ntmps78
  go_wp2
  go_loopw [1, 5] (fun x y wr => ∃ i : Nat, i ≤ n ∧ x = .int .i64 ((k + 2 * i : Nat) : Int) ∧ y = .int .i64 (i : Int) ∧ (∃ f', wr.rowIs g 110 m f' ∧ MarkedRow k i f') ∧ w.grownBy wr (some g)) (fun _ y _ => n - (intOf y).toNat)
  case atStart => exact ⟨0, Nat.zero_le _, rfl, rfl, ⟨f, hr, fun i hi => absurd hi (Nat.not_lt_zero _)⟩, World.grownBy.refl w _⟩
  case round =>
    obtain ⟨i, hi, rfl, rfl, ⟨f', hr', hf'⟩, hg⟩ := hrel
    have HF := Lib.hid hf'; clear hf'
    by_cases hlt : i < n
    · obtain ⟨bv, hbv⟩ : ∃ bv, (((k : Int) + 2 * (i : Int)) % 3 == 0) = bv := ⟨_, rfl⟩
      have HV := Lib.hid (mod3 hbv)
      have c0 := hr'.cell (i := i * 2) (by omega)
      have z0 := hr'.frozen (i * 2)
      have hr2 := hr'.set (i * 2) (.bool bv)
      have hg2 := grownThen hg (grownSet wr g (i * 2) (.bool bv))
      go_wp2_with fail
      refine (markText_is _ (k + 2 * i + 1) (by omega) (by omega) _).mono ?_; rintro e w1 ⟨rfl, hb1⟩
      have hr3 := hr2.of_block (hb1.block g hr2.lt)
      have hg3 := grownThen hg2 (grownRow hb1)
      have c1 := hr3.cell (i := i * 2 + 1) (by omega)
      have z1 := hr3.frozen (i * 2 + 1)
      have hr4 := hr3.set (i * 2 + 1) (.string (markB (k + 2 * i + 1)))
      have hg4 := grownThen hg3 (grownSet w1 g (i * 2 + 1) (.string (markB (k + 2 * i + 1))))
      clear hr2 hr3 hg2 hg3 hr'
      go_wp2
      go_roundw
      case rel => exact ⟨i + 1, by omega, by go_num, by go_num, ⟨_, hr4, fun j hj => by
        by_cases e : j = i
        · subst e
          constructor
          · rw [if_neg (by omega), if_pos rfl, HV.out]
          · rw [if_pos rfl]
        · have hj' := HF.out j (by omega)
          constructor
          · rw [if_neg (by omega), if_neg (by omega)]; exact hj'.1
          · rw [if_neg (by omega), if_neg (by omega)]; exact hj'.2⟩, hg4⟩
      case measure => simp [intOf]; omega
    · have hin : i = n := by omega
      subst hin
      go_wp2
      go_ret; exact ⟨by go_num, ⟨f', hr', HF.out⟩, hg⟩

end Go.Proofs.YtogonjkklioaaaaGreatDoor

namespace Go.Proofs.YtogonjkklioaaaaGreatDoor
open Go.RowKit

theorem markB_size (k : Nat) (hk : k ≤ 2 ^ 62) : (markB k).size ≤ maxLen := by
  have hl := digs_len 19 k (Nat.lt_of_le_of_lt hk (by decide))
  unfold markB markL maxLen
  show (109 :: (if k = 0 then [48] else digs k)).toArray.size ≤ _
  rw [List.size_toArray, List.length_cons]
  split
  · simp
  · omega

/-- Terms that hold marks from k on. -/
def markTs (k n : Nat) : List Tm := (List.range n).map fun i => (decide ((k + 2 * i) % 3 = 0), markB (k + 2 * i + 1))

theorem markTs_len (k n : Nat) : (markTs k n).length = n := by unfold markTs; simp
theorem markTs_at {k n i : Nat} (h : i < n) : (markTs k n)[i]? = some (decide ((k + 2 * i) % 3 = 0), markB (k + 2 * i + 1)) := by
  unfold markTs; simp [h]

theorem marked_terms {w : World} {g m n c k lo hi : Nat} {f : Nat → Value} (h : w.rowIs g 110 m f) (hm : n * 2 ≤ m) (hf : MarkedRow k n f) (hk : k + 2 * n ≤ 2 ^ 62) (hn : n ≤ c) (hc : c ≤ maxLen) (h1 : lo ≤ g) (h2 : g < hi) : IsTerms w lo hi (some ⟨g, 0, none⟩) n c (markTs k n) := by
  refine ⟨markTs_len k n, hn, hc, fun _ => ⟨_, rfl, h1, h2, fun i t ht => ?_⟩⟩
  have hi : i < n := by
    have := (List.getElem?_eq_some_iff.1 ht).1
    rwa [markTs_len] at this
  rw [markTs_at hi] at ht
  injection ht with ht
  subst ht
  have a0 : ∀ j, (⟨g, 0, none⟩ : Addr).add j = ⟨g, j, none⟩ := fun j => by unfold Addr.add; split <;> simp_all
  obtain ⟨d1, d2⟩ := hf i hi
  rw [a0, a0, h.cell (by omega), h.cell (by omega), d1, d2]
  exact ⟨rfl, rfl, markB_size _ (by omega)⟩

theorem markTermS_none (A : Option Addr) (c k : Nat) (w : World) : Calls Tryz.prog 78 #[.slice A 0 c, .int .i64 (k : Int)] w fun e w' => e = .returned (.int .i64 (k : Int)) ∧ w' = w := by
  go_enter Tryz.func78, Tryz.ntmps78
  go_wp2
  go_loop [1, 5] (fun x y => x = .int .i64 (k : Int) ∧ y = .int .i64 0) (fun _ _ => 0)
  case atStart => exact ⟨rfl, rfl⟩
  case round =>
    obtain ⟨rfl, rfl⟩ := hrel
    go_wp2
    go_ret; exact ⟨rfl, rfl⟩

set_option maxRecDepth 100000 in
set_option maxHeartbeats 1000000 in
theorem heldTermS_any (A : Option Addr) (n c k : Nat) (w : World) (h : IsTerms w 0 w.heap.size A n c (markTs k n)) (hk : k + 2 * n ≤ 2 ^ 62) :
    Calls Tryz.prog 79 #[.slice A n c, .int .i64 (k : Int)] w fun e w' => e = .returned (.int .i64 ((k + 2 * n : Nat) : Int)) ∧ Below w.heap.size w w' := by
  have H := Lib.hid h; clear h
  go_enter Tryz.func79, Tryz.ntmps79
  go_wp2
  go_loopw [1, 5] (fun x y wr => ∃ i : Nat, i ≤ n ∧ x = .int .i64 ((k + 2 * i : Nat) : Int) ∧ y = .int .i64 (i : Int) ∧ Below w.heap.size w wr) (fun _ y _ => n - (intOf y).toNat)
  case atStart => exact ⟨0, Nat.zero_le _, rfl, rfl, Below.refl _ _⟩
  case round =>
    obtain ⟨i, hi, rfl, rfl, hb⟩ := hrel
    by_cases hlt : i < n
    · obtain ⟨p, t, hA, hlo, hhi, hg, c1, c2, c3⟩ := (H.out.below hb (Nat.le_refl _)).at_ hlt
      subst hA
      rw [markTs_at hlt] at hg
      injection hg with hg
      subst hg
      obtain ⟨bv, hbv⟩ : ∃ bv, (((k : Int) + 2 * (i : Int)) % 3 == 0) = bv := ⟨_, rfl⟩
      rw [← mod3 hbv] at c1
      have hne : (bv != bv) = false := by simp
      have x1 : wr.drew.cell? ⟨(p.add (i * 2)).block, (p.add (i * 2)).off + 1, none⟩ = some (.string (markB (k + 2 * i + 1))) := c2
      have hbd := hb.drew
      go_wp2
      clear hne hbv
      refine wp_region_held_drew (S := fun W => W.cell? ⟨(p.add (i * 2)).block, (p.add (i * 2)).off + 1, none⟩ = some (.string (markB (k + 2 * i + 1)))) (by kernel_rfl) x1 ?_
      intro hS_
      refine takeV (i := 0) (v := .slice (some p) n c) (by (simp only [List.getElem?_toArray, List.getElem?_cons_zero]); rfl) (by kernel_rfl) (by kernel_rfl) (by kernel_rfl) (by rfl) (fun _ _ _ h => h) (Or.inl ⟨by rfl, ?_⟩) hS_ (by (simp only [List.setIfInBounds_toArray, List.set_cons_succ, List.set_cons_zero]); rfl) ?_
      · intro w_ hSw_; (try dsimp only at hSw_); go_simp
      refine takeV (i := 1) (v := .int .i64 (i : Int)) (by (simp only [List.getElem?_toArray, List.getElem?_cons_succ, List.getElem?_cons_zero]); rfl) (by kernel_rfl) (by kernel_rfl) (by kernel_rfl) (by rfl) (fun _ _ _ h => h) (Or.inl ⟨by rfl, ?_⟩) hS_ (by (simp only [List.setIfInBounds_toArray, List.set_cons_succ, List.set_cons_zero]); rfl) ?_
      · intro w_ hSw_; (try dsimp only at hSw_); go_simp
      refine takeV (i := 2) (v := .pointer (some (p.add (i * 2)))) (by (simp only [List.getElem?_toArray, List.getElem?_cons_succ, List.getElem?_cons_zero]); rfl) (by kernel_rfl) (by kernel_rfl) (by kernel_rfl) (by rfl) (fun _ _ _ h => h) (Or.inl ⟨by rfl, ?_⟩) hS_ (by (simp only [List.setIfInBounds_toArray, List.set_cons_succ, List.set_cons_zero]); rfl) ?_
      · intro w_ hSw_; (try dsimp only at hSw_); go_simp
      refine takeV (i := 3) (v := .pointer (some ⟨(p.add (i * 2)).block, (p.add (i * 2)).off + 1, none⟩)) (by (simp only [List.getElem?_toArray, List.getElem?_cons_succ, List.getElem?_cons_zero]); rfl) (by kernel_rfl) (by kernel_rfl) (by kernel_rfl) (by rfl) (fun _ _ _ h => h) (Or.inl ⟨by rfl, ?_⟩) hS_ (by (simp only [List.setIfInBounds_toArray, List.set_cons_succ, List.set_cons_zero]); rfl) ?_
      · intro w_ hSw_; (try dsimp only at hSw_); go_simp
      refine takeV (i := 4) (v := .string (markB (k + 2 * i + 1))) (by (simp only [List.getElem?_toArray, List.getElem?_cons_succ, List.getElem?_cons_zero]); rfl) (by kernel_rfl) (by kernel_rfl) (by kernel_rfl) (by rfl) (fun _ _ _ h => h) (Or.inl ⟨by rfl, ?_⟩) hS_ (by (simp only [List.setIfInBounds_toArray, List.set_cons_succ, List.set_cons_zero]); rfl) ?_
      · intro w_ hSw_; (try dsimp only at hSw_); go_simp
      refine takeV (i := 5) (v := .int .i64 ((k : Int) + 2 * (i : Int) + 1)) (by (simp only [List.getElem?_toArray, List.getElem?_cons_succ, List.getElem?_cons_zero]); rfl) (by kernel_rfl) (by kernel_rfl) (by kernel_rfl) (by rfl) (fun _ _ _ h => h) (Or.inl ⟨by rfl, ?_⟩) hS_ (by (simp only [List.setIfInBounds_toArray, List.set_cons_succ, List.set_cons_zero]); rfl) ?_
      · intro w_ hSw_; (try dsimp only at hSw_); go_simp
      refine wpAnyH_ready (rs := [6]) (by kernel_rfl) (by simp) ?_
      refine AllReadyH.cons (o := _) (by (simp only [List.getElem?_toArray, List.getElem?_cons_succ, List.getElem?_cons_zero]); rfl) (fun K_ hK_ => ?_) AllReadyH.nil
      rw [if_pos (by rfl)]
      go_simp
      go_at_call 77
      refine (markText_is _ (k + 2 * i + 1) (by omega) (by omega) _).mono ?_; rintro e w1 ⟨rfl, hb1⟩
      have y1 := (hb1.cell (p := ⟨(p.add (i * 2)).block, (p.add (i * 2)).off + 1, none⟩) (by rw [block_add]; exact Nat.lt_of_lt_of_le hhi hb.size)).trans x1
      refine hK_.out _ _ y1 (fun hS2_ => ?_)
      clear hK_ hS_
      have hS_ := hS2_; clear hS2_
      refine takeV (i := 7) (v := .bool false) (by (simp only [List.getElem?_toArray, List.getElem?_cons_succ, List.getElem?_cons_zero]); rfl) (by kernel_rfl) (by kernel_rfl) (by kernel_rfl) (by rfl) (fun _ _ _ h => h) (Or.inl ⟨by rfl, ?_⟩) hS_ (by (simp only [List.setIfInBounds_toArray, List.set_cons_succ, List.set_cons_zero]); rfl) ?_
      · intro w_ hSw_; (try dsimp only at hSw_); go_simp
      refine wpAnyH_done (by kernel_rfl) ?_ _
      go_wp2
      go_roundw
      case rel => exact ⟨i + 1, by omega, by go_num, by go_num, belowThen hbd hb1⟩
      case measure => simp [intOf]; omega
    · have hin : i = n := by omega
      subst hin
      go_wp2
      go_ret; exact ⟨by go_num, hb⟩

theorem heldTermS_is (A : Option Addr) (n c k : Nat) (w : World) (z : Int) (hz : z = (k : Int)) (h : IsTerms w 0 w.heap.size A n c (markTs k n)) (hk : k + 2 * n ≤ 2 ^ 62) :
    Calls Tryz.prog 79 #[.slice A n c, .int .i64 z] w fun e w' => e = .returned (.int .i64 ((k + 2 * n : Nat) : Int)) ∧ Below w.heap.size w w' := by
  subst hz; exact heldTermS_any A n c k w h hk

/-- Blocks from lo on and below hi alone have turned. -/
structure Within (lo hi : Nat) (w w' : World) : Prop where
  os : w'.os = w.os
  tape : w'.tape = w.tape
  output : w'.output = w.output
  size : w.heap.size ≤ w'.heap.size
  block : ∀ b, b < w.heap.size → (b < lo ∨ hi ≤ b) → w'.heap[b]? = w.heap[b]?

section
variable {lo hi : Nat} {w w' w'' : World}
theorem Within.refl : Within lo hi w w := ⟨rfl, rfl, rfl, Nat.le_refl _, fun _ _ _ => rfl⟩
theorem Within.trans (h : Within lo hi w w') (k : Within lo hi w' w'') : Within lo hi w w'' :=
  ⟨k.os.trans h.os, k.tape.trans h.tape, k.output.trans h.output, Nat.le_trans h.size k.size, fun b hb ho => (k.block b (Nat.lt_of_lt_of_le hb h.size) ho).trans (h.block b hb ho)⟩
theorem Within.of (h : Below w.heap.size w w') : Within lo hi w w' := ⟨h.os, h.tape, h.output, h.size, fun b hb _ => h.block b hb⟩
theorem Within.row {g : Nat} (h : w.grownBy w' (some g)) (h1 : lo ≤ g) (h2 : g < hi) : Within lo hi w w' :=
  ⟨h.os, h.tape, h.output, h.size, fun b hb ho => h.block b hb (fun e => by injection e with e; omega)⟩
theorem Within.low {B : Nat} (h : Within lo hi w w') (hB : B ≤ lo) (hs : lo ≤ w.heap.size) : Below B w w' :=
  ⟨h.os, h.tape, h.output, h.size, fun b hb => h.block b (by omega) (.inl (by omega))⟩
theorem Within.wide {lo' hi' : Nat} (h : Within lo hi w w') (h1 : lo' ≤ lo) (h2 : hi ≤ hi') : Within lo' hi' w w' :=
  ⟨h.os, h.tape, h.output, h.size, fun b hb ho => h.block b hb (by omega)⟩
end

end Go.Proofs.YtogonjkklioaaaaGreatDoor

namespace Go.Proofs.YtogonjkklioaaaaGreatDoor
open Go.RowKit

/-- The three cells of a part that may be written, and what they lead on to. -/
def PartAt (w : World) (lo hi : Nat) (f : Nat → Value) (i : Nat) : Prop :=
  ∃ b s A n c, f (i * 3) = .bool b ∧ f (i * 3 + 1) = .string s ∧ f (i * 3 + 2) = .slice A n c ∧ n ≤ 1048576 ∧ (0 < n → RowAt w lo hi 110 A (n * 2))

/-- A row of parts that may be written, and what it leads on to. -/
def PartRow (w : World) (lo hi g n : Nat) : Prop :=
  lo ≤ g ∧ g < hi ∧ ∃ f, w.rowIs g 171 (n * 3) f ∧ ∀ i, i < n → PartAt w lo hi f i

theorem PartAt.keep {w w' : World} {lo hi lo' hi' i : Nat} {f : Nat → Value} (h : PartAt w lo hi f i) (hk : ∀ b, lo ≤ b → b < hi → w'.heap[b]? = w.heap[b]?) (h1 : lo' ≤ lo) (h2 : hi ≤ hi') : PartAt w' lo' hi' f i := by
  obtain ⟨b, s, A, n, c, e1, e2, e3, e4, e5⟩ := h
  exact ⟨b, s, A, n, c, e1, e2, e3, e4, fun h0 => (e5 h0).keep hk h1 h2⟩

theorem PartRow.keep {w w' : World} {lo hi g n : Nat} (h : PartRow w lo hi g n) (hk : ∀ b, lo ≤ b → b < hi → w'.heap[b]? = w.heap[b]?) : PartRow w' lo hi g n := by
  obtain ⟨h1, h2, f, hr, hp⟩ := h
  exact ⟨h1, h2, f, hr.of_block (hk g h1 h2), fun i hi => (hp i hi).keep hk (Nat.le_refl _) (Nat.le_refl _)⟩

theorem set3_block {w : World} {g i j k : Nat} {u v x : Value} {b : Nat} (hb : b ≠ g) : (((w.setCell ⟨g, i, none⟩ u).setCell ⟨g, j, none⟩ v).setCell ⟨g, k, none⟩ x).heap[b]? = w.heap[b]? :=
  (Below.heap_setCell _ _ _ b hb).trans ((Below.heap_setCell _ _ _ b hb).trans (Below.heap_setCell _ _ _ b hb))

/-- A copy of parts, in memory of its own. -/
def PartSOwn (n : Nat) (xs : List Pt) (w : World) (e : Ending) (w' : World) : Prop :=
  ∃ g, e = .returned (.slice (some ⟨g, 0, none⟩) n n) ∧ w.heap.size ≤ g ∧ IsParts w' w.heap.size w'.heap.size (some ⟨g, 0, none⟩) n n xs ∧ PartRow w' w.heap.size w'.heap.size g n ∧ Below w.heap.size w w'


/-- A row of terms is no row of parts. -/
theorem row_apart {w : World} {lo hi g m k : Nat} {A : Option Addr} {f : Nat → Value} (h : RowAt w lo hi 110 A m) (hr : w.rowIs g 171 k f) : A ≠ some ⟨g, 0, none⟩ := by
  intro e
  obtain ⟨g', k', f', e1, _, _, ⟨cs', y1, _⟩, _⟩ := h
  rw [e] at e1
  injection e1 with e1
  injection e1 with e1
  subst e1
  obtain ⟨cs, y2, _⟩ := hr
  rw [y2] at y1
  injection y1 with y1
  injection y1 with _ y1
  exact absurd y1 (by decide)

theorem RowAt.far {w : World} {lo hi g i m k : Nat} {A : Option Addr} {f : Nat → Value} (h : RowAt w lo hi 110 A m) (hr : w.rowIs g 171 k f) (v : Value) : RowAt (w.setCell ⟨g, i, none⟩ v) lo hi 110 A m := by
  have hne := row_apart h hr
  obtain ⟨g', k', f', e1, e2, e3, e4, e5⟩ := h
  exact ⟨g', k', f', e1, e2, e3, e4.of_block (Below.heap_setCell _ _ _ g' (fun e => hne (by rw [e1, e]))), e5⟩

/-- A part's Not, or its name, is written. -/
theorem PartRow.put {w : World} {lo hi g n : Nat} (h : PartRow w lo hi g n) (i d : Nat) (v : Value) (hd : (d = 0 ∧ ∃ b, v = .bool b) ∨ (d = 1 ∧ ∃ s, v = .string s)) : PartRow (w.setCell ⟨g, i * 3 + d, none⟩ v) lo hi g n := by
  obtain ⟨h1, h2, f, hr, hp⟩ := h
  refine ⟨h1, h2, _, hr.set (i * 3 + d) v, fun j hj => ?_⟩
  obtain ⟨b, s, A, m, c, e1, e2, e3, e4, e5⟩ := hp j hj
  rcases hd with ⟨rfl, b', rfl⟩ | ⟨rfl, s', rfl⟩
  · by_cases e : j = i
    · subst e
      exact ⟨b', s, A, m, c, by simp, by dsimp only; rw [if_neg (by omega)]; exact e2, by dsimp only; rw [if_neg (by omega)]; exact e3, e4, fun h0 => (e5 h0).far hr _⟩
    · exact ⟨b, s, A, m, c, by dsimp only; rw [if_neg (by omega)]; exact e1, by dsimp only; rw [if_neg (by omega)]; exact e2, by dsimp only; rw [if_neg (by omega)]; exact e3, e4, fun h0 => (e5 h0).far hr _⟩
  · by_cases e : j = i
    · subst e
      exact ⟨b, s', A, m, c, by dsimp only; rw [if_neg (by omega)]; exact e1, by simp, by dsimp only; rw [if_neg (by omega)]; exact e3, e4, fun h0 => (e5 h0).far hr _⟩
    · exact ⟨b, s, A, m, c, by dsimp only; rw [if_neg (by omega)]; exact e1, by dsimp only; rw [if_neg (by omega)]; exact e2, by dsimp only; rw [if_neg (by omega)]; exact e3, e4, fun h0 => (e5 h0).far hr _⟩

/-- A row of terms is written. -/
theorem PartRow.terms {w w' : World} {lo hi g n g' m : Nat} {f f' : Nat → Value} (h : PartRow w lo hi g n) (hr : w.rowIs g' 110 m f) (hr' : w'.rowIs g' 110 m f') (hg : w.grownBy w' (some g')) (hh : hi ≤ w.heap.size) : PartRow w' lo hi g n := by
  obtain ⟨h1, h2, f1, hr1, hp⟩ := h
  have hne : g ≠ g' := fun e => by
    subst e
    obtain ⟨cs, y1, _⟩ := hr1
    obtain ⟨cs', y2, _⟩ := hr
    rw [y2] at y1
    injection y1 with y1
    injection y1 with _ y1
    exact absurd y1 (by decide)
  refine ⟨h1, h2, f1, hr1.of_block (hg.block g (by omega) (fun e => hne (by injection e))), fun j hj => ?_⟩
  obtain ⟨b, s, A, k, c, e1, e2, e3, e4, e5⟩ := hp j hj
  refine ⟨b, s, A, k, c, e1, e2, e3, e4, fun h0 => ?_⟩
  obtain ⟨g2, k2, f2, x1, x2, x3, x4, x5⟩ := e5 h0
  by_cases e : g2 = g'
  · subst e
    have hkm : k2 = m := by
      obtain ⟨cs, y1, y2, _⟩ := x4
      obtain ⟨cs', z1, z2, _⟩ := hr
      rw [z1] at y1
      injection y1 with y1
      injection y1 with y1
      subst y1
      omega
    subst hkm
    exact ⟨g2, k2, f', x1, x2, x3, hr', x5⟩
  · exact ⟨g2, k2, f2, x1, x2, x3, x4.of_block (hg.block g2 (by omega) (fun e' => e (by injection e'))), x5⟩

theorem markTermS_is (g m n c k : Nat) (f : Nat → Value) (w : World) (z : Int) (hz : z = (k : Int)) (hr : w.rowIs g 110 m f) (hm : n * 2 ≤ m) (hk : k + 2 * n ≤ 2 ^ 62) :
    Calls Tryz.prog 78 #[.slice (some ⟨g, 0, none⟩) n c, .int .i64 z] w (MarkTPost g m n k w) := by
  subst hz; exact markTermS_any g m n c k f w hr hm hk

theorem markTermS_zero (A : Option Addr) (c k : Nat) (w : World) (z : Int) (hz : z = (k : Int)) : Calls Tryz.prog 78 #[.slice A 0 c, .int .i64 z] w fun e w' => e = .returned (.int .i64 (k : Int)) ∧ w' = w := by
  subst hz; exact markTermS_none A c k w

theorem mod3q {q : Nat} {b : Bool} (h : ((q : Int) % 3 == 0) = b) : b = decide (q % 3 = 0) := by
  rw [← h, Bool.eq_iff_iff, beq_iff_eq, decide_eq_true_eq]; omega


end Go.Proofs.YtogonjkklioaaaaGreatDoor
