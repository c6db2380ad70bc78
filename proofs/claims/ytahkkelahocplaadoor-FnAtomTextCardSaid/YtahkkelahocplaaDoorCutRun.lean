/-
  A text cut at a byte, in the model.
-/
import Derived.Test.YtahkkelahocplaaDoorGetMath
import Derived.Test.YtahkkelahocplaaDoorTexts
namespace Go.Proofs.YtahkkelahocplaaDoor
open Go.RowKit

/-- The pieces, as texts. -/
def cutsB (c : UInt8) (s : ByteArray) : List ByteArray := (cuts c s.data.toList).map fun l => ⟨l.toArray⟩

theorem piece_new (W : World) (x : Value) (t : TypeId) : ∀ j u, [x][j]? = some u → (W.alloc (.cells #[x] t)).cell? ((⟨W.heap.size, 0, none⟩ : Addr).add j) = some u := by
  intro j u hu
  match j, hu with
  | 0, hu => simp at hu; subst hu; simp [go_sem, Addr.add]

/-- As far as byte k a text is cut: these pieces, and what begins at f. -/
def CutAt (c : UInt8) (s : ByteArray) (k f : Nat) (os : List ByteArray) : Prop := f ≤ k ∧ k ≤ s.size ∧ os.length ≤ k ∧ cutRun c (s.data.toList.take k) = (os.map fun x => x.data.toList, (s.data.toList.take k).drop f)

theorem CutAt.start (c : UInt8) (s : ByteArray) : CutAt c s 0 0 [] := ⟨Nat.le_refl _, Nat.zero_le _, Nat.le_refl _, rfl⟩

theorem CutAt.hit {c : UInt8} {s : ByteArray} {k f : Nat} {os : List ByteArray} (h : CutAt c s k f os) (hk : k < s.size) (hb : s[k] = c) : CutAt c s (k + 1) (k + 1) (os ++ [s.extract f k]) := by
  obtain ⟨h1, h2, h3, h4⟩ := h
  refine ⟨Nat.le_refl _, hk, by rw [List.length_append]; simp; omega, ?_⟩
  have hg : s.data.toList[k]? = some c := by rw [← hb]; exact List.getElem?_eq_getElem (by simpa using hk)
  rw [cutRun_take c _ k c hg, h4]
  unfold cutStep
  rw [if_pos rfl, List.map_append]
  have e : (s.extract f k).data.toList = (s.data.toList.take k).drop f := by
    rw [Lib.extract_data]
    rw [List.drop_take]
  have e2 : (s.data.toList.take (k + 1)).drop (k + 1) = [] := List.drop_eq_nil_of_le (by rw [List.length_take]; omega)
  rw [e2, ← e]
  rfl

theorem CutAt.on {c : UInt8} {s : ByteArray} {k f : Nat} {os : List ByteArray} (h : CutAt c s k f os) (hk : k < s.size) (hb : s[k] ≠ c) : CutAt c s (k + 1) f os := by
  obtain ⟨h1, h2, h3, h4⟩ := h
  refine ⟨by omega, hk, by omega, ?_⟩
  have hg : s.data.toList[k]? = some s[k] := List.getElem?_eq_getElem (by simpa using hk)
  rw [cutRun_take c _ k _ hg, h4]
  unfold cutStep
  rw [if_neg hb]
  have hl : k < s.data.toList.length := by simpa using hk
  rw [List.take_succ_eq_append_getElem hl, List.drop_append_of_le_length (by rw [List.length_take]; omega)]
  rfl

theorem CutAt.all {c : UInt8} {s : ByteArray} {k f : Nat} {os : List ByteArray} (h : CutAt c s k f os) (hk : ¬ k < s.size) : os ++ [s.extract f s.size] = cutsB c s := by
  obtain ⟨h1, h2, h3, h4⟩ := h
  have hl : s.data.toList.length = s.size := by simp
  have hks : k = s.size := by omega
  subst hks
  rw [List.take_of_length_le (by omega)] at h4
  unfold cutsB cuts
  rw [h4]
  have e : (⟨(s.data.toList.drop f).toArray⟩ : ByteArray) = s.extract f s.size := by
    apply ByteArray.ext
    apply Array.toList_inj.1
    rw [Lib.extract_to_end]
  have e2 : ((os.map fun x => x.data.toList).map fun l => (⟨l.toArray⟩ : ByteArray)) = os := by
    rw [List.map_map]
    conv => rhs; rw [← List.map_id os]
    exact List.map_congr_left fun x _ => by cases x; rfl
  rw [List.map_append, e2]
  simp [e]

theorem cutsB_len (c : UInt8) (s : ByteArray) : (cutsB c s).length ≤ s.size + 1 := by
  have := cuts_len c s.data.toList
  have hl : s.data.toList.length = s.size := by simp
  unfold cutsB
  rw [List.length_map]; omega

theorem byte_eq {a c : UInt8} (h : ((a.toNat : Int) == (c.toNat : Int)) = true) : a = c := UInt8.toNat_inj.1 (by have := beq_iff_eq.1 h; omega)
theorem byte_ne {a c : UInt8} (h : ((a.toNat : Int) == (c.toNat : Int)) = false) : a ≠ c := fun e => by subst e; simp at h

/-- A row that is the call's own grew. -/
theorem cutRow {w wr w5 : World} {e : TypeId} {sz n : Nat} {v : Value} {xs : List Value} {o : Obj} (hb : Below w.heap.size w wr) (hr : wr.ownsRow w.heap.size e sz v n xs) (hg : (wr.alloc o).grownBy w5 v.ownBlock) : Below w.heap.size w w5 :=
  (hb.alloc hb.size o).grown hg (by have := hb.size; simp; omega) (fun j ej => (hr.lt j ej).1)

set_option maxRecDepth 100000 in
set_option maxHeartbeats 4000000 in
theorem l1Cut_any (s : ByteArray) (c : UInt8) (w : World) (hs : s.size ≤ 1048576) :
    Calls Tryd.prog 49 #[.string s, .int .u8 (c.toNat : Int)] w (TextsPost w.heap.size (cutsB c s) w) := by
  obtain ⟨i0, hi, hz, hsz, hby⟩ := info_parts Tryd.infoText
  go_enter Tryd.func49, Tryd.ntmps49
  go_wp2
  go_loopw [5, 6, 7] (fun o f i wr => ∃ (k fr : Nat) (os : List ByteArray) (Av : Option Addr) (cv : Nat), f = .int .i64 fr ∧ i = .int .i64 k ∧ o = .slice Av os.length cv ∧ wr.ownsRow w.heap.size 9 1 (.slice Av os.length cv) os.length (tcl os) ∧ CutAt c s k fr os ∧ Below w.heap.size w wr) (fun _ _ i _ => s.size - (intOf i).toNat)
  case atStart => exact ⟨0, 0, [], some ⟨w.heap.size, 0, none⟩, 0, rfl, rfl, rfl, ⟨rfl, .inr ⟨w.heap.size, 0, #[], rfl, Nat.le_refl _, heap_alloc_new w _, Nat.le_refl _, by unfold maxLen; omega, rfl, rfl⟩⟩, CutAt.start c s, below1 _ _⟩
  case round =>
    obtain ⟨k, fr, os, Av, cv, rfl, rfl, rfl, hrow, hc, hb⟩ := hrel
    have HR := Lib.hid hrow
    have hfk := hc.1; have hks := hc.2.1; have hok := hc.2.2.1
    have HC := Lib.hid hc
    clear hrow hc
    have hwr := hb.size
    by_cases hlt : k < s.size
    · have hlt2 : (k : Int) < (s.size : Int) := by omega
      have HNEW := Lib.hid (piece_new wr (.string (s.extract fr k)) 9)
      go_wp2_with (at_builtin; refine wpList_append_own _ rfl _ _ 59 rfl w.heap.size 9 i0 _ 1 16 Tryd.underlying59 hi hz hsz hby rfl (by decide) _ _ _ rfl (HR.out.alloc _) ⟨wr.heap.size, 0, none⟩ 1 1 [.string (s.extract fr k)] rfl rfl HNEW.out (by simp [Value.oneCell']) (by unfold maxLen; omega) (by omega) (by simp; omega) ?_; intro v' w5 hown' hgrow' _; obtain ⟨g', cap', rfl⟩ := ownsRow_succ hown'; have hown := Lib.hid hown'; have hgrow := Lib.hid hgrow'; clear hown' hgrow')
      · have HR5 : Hid (w5.ownsRow w.heap.size 9 1 (.slice (some ⟨g', 0, none⟩) (os.length + 1) cap') (os.length + 1) (tcl (os ++ [s.extract fr k]))) := Lib.hid (by unfold tcl; rw [List.map_append]; exact hown.out)
        have hb5 := Lib.hid (cutRow hb HR.out hgrow.out)
        have hbe : s[k] = c := byte_eq (by assumption)
        have HC5 := Lib.hid (HC.out.hit hlt hbe)
        clear hown hgrow HR
        go_roundw
        case rel => exact ⟨k + 1, k + 1, os ++ [s.extract fr k], _, cap', by go_num, by go_num, by rw [List.length_append]; rfl, by rw [List.length_append]; exact HR5.out, HC5.out, hb5.out⟩
        case measure => simp [intOf]; omega
      · have hbe : s[k] ≠ c := byte_ne (by assumption)
        have HC5 := Lib.hid (HC.out.on hlt hbe)
        go_roundw
        case rel => exact ⟨k + 1, fr, os, Av, cv, rfl, by go_num, rfl, HR.out, HC5.out, hb⟩
        case measure => simp [intOf]; omega
    · have hks' : k = s.size := by omega
      have HNEW := Lib.hid (piece_new wr (.string (s.extract fr s.size)) 9)
      go_wp2_with (at_builtin; refine wpList_append_own _ rfl _ _ 59 rfl w.heap.size 9 i0 _ 1 16 Tryd.underlying59 hi hz hsz hby rfl (by decide) _ _ _ rfl (HR.out.alloc _) ⟨wr.heap.size, 0, none⟩ 1 1 [.string (s.extract fr s.size)] rfl rfl HNEW.out (by simp [Value.oneCell']) (by unfold maxLen; omega) (by omega) (by simp; omega) ?_; intro v' w5 hown' hgrow' _; obtain ⟨g', cap', rfl⟩ := ownsRow_succ hown'; have hown := Lib.hid hown'; have hgrow := Lib.hid hgrow'; clear hown' hgrow')
      have HR5 : Hid (w5.ownsRow w.heap.size 9 1 (.slice (some ⟨g', 0, none⟩) (os.length + 1) cap') (os.length + 1) (tcl (cutsB c s))) := Lib.hid (by rw [← HC.out.all hlt]; unfold tcl; rw [List.map_append]; exact hown.out)
      have hb5 := Lib.hid (cutRow hb HR.out hgrow.out)
      obtain ⟨p, d, e5, hT⟩ := texts_own HR5.out (Nat.succ_pos _) (Nat.le_refl _)
      rw [e5]
      have HT := Lib.hid hT
      clear hown hgrow HR hT
      go_wp2
      go_ret
      exact ⟨p, d, rfl, HT.out, hb5.out⟩

end Go.Proofs.YtahkkelahocplaaDoor
