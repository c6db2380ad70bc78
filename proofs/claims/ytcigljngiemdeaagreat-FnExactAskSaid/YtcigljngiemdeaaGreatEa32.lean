/-
  Texts of one claim, put together.
-/
import Derived.Test.YtcigljngiemdeaaGreatEa30
import Derived.Test.YtcigljngiemdeaaGreatEa31
import Derived.Test.YtcigljngiemdeaaGreatEa3
import Derived.Test.YtcigljngiemdeaaGreatOwn
import Derived.Laws.IdiomStrings
import Derived.Test.YtcigljngiemdeaaGreatTexts
namespace Go.Proofs.YtcigljngiemdeaaGreat
open Go.RowKit

/-- Rows that ascend. -/
def AscR (Ls : List (List ByteArray)) : Prop := Ls.Pairwise fun x y => keyR x < keyR y

theorem asc_ext : ∀ {l l' : List (List ByteArray)}, AscR l → AscR l' → (∀ x, x ∈ l ↔ x ∈ l') → l = l'
  | [], [], _, _, _ => rfl
  | [], y :: l', _, _, h => absurd ((h y).2 (by simp)) (by simp)
  | x :: l, [], _, _, h => absurd ((h x).1 (by simp)) (by simp)
  | x :: l, y :: l', h1, h2, h => by
    obtain ⟨a1, a2⟩ := List.pairwise_cons.1 h1
    obtain ⟨b1, b2⟩ := List.pairwise_cons.1 h2
    have hxy : x = y := by
      rcases List.mem_cons.1 ((h x).1 (by simp)) with e | e
      · exact e
      · rcases List.mem_cons.1 ((h y).2 (by simp)) with e' | e'
        · exact e'.symm
        · exact absurd (List.lt_trans (b1 x e) (a1 y e')) (List.lt_irrefl _)
    subst hxy
    have ht : ∀ z, z ∈ l ↔ z ∈ l' := fun z => by
      constructor
      · intro hz
        rcases List.mem_cons.1 ((h z).1 (List.mem_cons_of_mem _ hz)) with e | e
        · subst e; exact absurd (a1 z hz) (List.lt_irrefl _)
        · exact e
      · intro hz
        rcases List.mem_cons.1 ((h z).2 (List.mem_cons_of_mem _ hz)) with e | e
        · subst e; exact absurd (b1 z hz) (List.lt_irrefl _)
        · exact e
    rw [asc_ext a2 b2 ht]

theorem putR_asc {m : Nat} : ∀ {Ls : List (List ByteArray)} {L : List ByteArray}, AscR Ls → (∀ y ∈ Ls, y.length = m) → L.length = m → AscR (putR Ls L) ∧ ∀ x, x ∈ putR Ls L ↔ x = L ∨ x ∈ Ls
  | [], L, _, _, _ => by rw [putR]; exact ⟨by unfold AscR; simp, by simp⟩
  | y :: Ls, L, h, hl, hL => by
    obtain ⟨a1, a2⟩ := List.pairwise_cons.1 h
    have hy := hl y (by simp)
    obtain ⟨i1, i2⟩ := putR_asc (L := L) a2 (fun z hz => hl z (List.mem_cons_of_mem _ hz)) hL
    have e := pfx_row (x := y) (y := L) (by omega)
    rw [putR]
    split
    · rename_i hlt
      rw [e] at hlt
      have hk := (rowCmp_lt y L).1 hlt
      refine ⟨List.pairwise_cons.2 ⟨fun z hz => ?_, i1⟩, fun x => by rw [List.mem_cons, i2, List.mem_cons]; constructor <;> (rintro (h | h | h) <;> simp [h])⟩
      rcases (i2 z).1 hz with rfl | hz'
      · exact hk
      · exact a1 z hz'
    · rename_i hlt
      split
      · rename_i h0
        have heq : y = L := by
          rw [e] at h0 hlt
          refine keyR_inj (List.le_antisymm (List.not_lt.1 fun h9 => ?_) (List.not_lt.1 fun h9 => ?_))
          · have h8 := (rowCmp_lt L y).2 h9
            rw [← pfx_row (by omega)] at h8
            have : rowCmp L y = 0 := by
              have h7 : ∀ {x z : List ByteArray}, rowCmp x z = 0 → x.length = z.length → rowCmp z x = 0 := by
                intro x
                induction x with
                | nil => intro z h7 hl'; cases z with
                  | nil => rfl
                  | cons _ _ => simp at hl'
                | cons a x ih =>
                  intro z h7 hl'
                  cases z with
                  | nil => simp at hl'
                  | cons b z =>
                    rw [rowCmp] at h7 ⊢
                    by_cases hab : textCmp a b = 0
                    · have hba : textCmp b a = 0 := by have := textCmp_anti a b; omega
                      rw [if_pos hab] at h7
                      rw [if_pos hba]
                      exact ih h7 (by simpa using hl')
                    · rw [if_neg hab] at h7; exact absurd h7 hab
              exact h7 h0 (by omega)
            rw [pfx_row (by omega)] at h8
            omega
          · have h8 := (rowCmp_lt y L).2 h9
            omega
        subst heq
        exact ⟨h, fun x => by rw [List.mem_cons]; constructor <;> (intro h; rcases h with h | h <;> simp [h])⟩
      · rename_i h0
        have hlt2 : keyR L < keyR y := by
          rw [e] at hlt h0
          refine Classical.byContradiction fun h9 => ?_
          have h8 : ¬ keyR y < keyR L := fun h => hlt ((rowCmp_lt y L).2 h)
          have : y = L := keyR_inj (List.le_antisymm (List.not_lt.1 h9) (List.not_lt.1 h8))
          subst this
          have h6 : ∀ x : List ByteArray, rowCmp x x = 0 := by
            intro x
            induction x with
            | nil => rfl
            | cons a x ih => rw [rowCmp, if_pos ((textCmp_eq a a).2 rfl), ih]
          exact h0 (h6 y)
        exact ⟨List.pairwise_cons.2 ⟨fun z hz => by
          rcases List.mem_cons.1 hz with rfl | hz'
          · exact hlt2
          · exact List.lt_trans hlt2 (a1 z hz'), h⟩, fun x => by rw [List.mem_cons]⟩

theorem putAll_asc {m : Nat} : ∀ {Ls out : List (List ByteArray)}, AscR out → (∀ y ∈ out, y.length = m) → (∀ y ∈ Ls, y.length = m) → AscR (Ls.foldl putR out) ∧ ∀ x, x ∈ Ls.foldl putR out ↔ x ∈ Ls ∨ x ∈ out
  | [], out, h, _, _ => ⟨h, by simp⟩
  | L :: Ls, out, h, ho, hl => by
    obtain ⟨i1, i2⟩ := putR_asc (L := L) h ho (hl L (by simp))
    obtain ⟨j1, j2⟩ := putAll_asc (Ls := Ls) (out := putR out L) i1 (fun y hy => by
      rcases (i2 y).1 hy with rfl | hy
      · exact hl _ (by simp)
      · exact ho y hy) (fun y hy => hl y (List.mem_cons_of_mem _ hy))
    refine ⟨j1, fun x => ?_⟩
    rw [List.foldl_cons, j2, i2, List.mem_cons]
    constructor
    · rintro (h | h | h) <;> simp [h]
    · rintro ((h | h) | h) <;> simp [h]

theorem sortR_asc {Ls : List (List ByteArray)} (hd : Ls.Nodup) : AscR (sortR Ls) := by
  have hs := row_swo (fun x : List ByteArray => x)
  have e : ∀ x y : List ByteArray, Go.Proofs.ltOf rowCmp x y = decide (keyR x < keyR y) := ltOf_row
  have h1 : (sortR Ls).Pairwise fun x y => (!(Go.Proofs.ltOf rowCmp) y x) = true := by
    unfold sortR
    refine List.pairwise_mergeSort (fun a b c hab hbc => ?_) (fun a b => ?_) Ls
    · rw [e] at *
      simp only [Bool.not_eq_true', decide_eq_false_iff_not] at *
      exact List.not_lt.2 (List.le_trans (List.not_lt.1 hab) (List.not_lt.1 hbc))
    · rw [e, e]
      by_cases h : keyR b < keyR a
      · have h9 : ¬ keyR a < keyR b := fun h' => List.lt_irrefl _ (List.lt_trans h h')
        simp [h9]
      · simp [h]
  have h2 : (sortR Ls).Nodup := (List.mergeSort_perm _ _).nodup_iff.2 hd
  refine (h1.and h2).imp fun {x y} ⟨ha, hb⟩ => ?_
  rw [e] at ha
  simp only [Bool.not_eq_true', decide_eq_false_iff_not] at ha
  exact Classical.byContradiction fun h9 => hb (keyR_inj (List.le_antisymm (List.not_lt.1 ha) (List.not_lt.1 h9)))

/-- Both are one. -/
theorem putAll_sort {m : Nat} {Ls : List (List ByteArray)} (hd : Ls.Nodup) (hl : ∀ y ∈ Ls, y.length = m) : putAllR Ls = sortR Ls := by
  obtain ⟨j1, j2⟩ := putAll_asc (m := m) (Ls := Ls) (out := []) List.Pairwise.nil (by simp) hl
  refine asc_ext j1 (sortR_asc hd) fun x => ?_
  rw [show x ∈ putAllR Ls ↔ x ∈ Ls ∨ x ∈ [] from j2 x]
  unfold sortR
  rw [(List.mergeSort_perm _ _).mem_iff]
  simp

theorem rows_few {list : List At} {body : List Pt} (hf : factsB 300 list = true) (hq : askB body = true) : (rowsB list body).length ≤ 1000000000000 := by
  obtain ⟨_, hwa, hnd, hl300⟩ := facts_ok hf
  obtain ⟨hq4, _, _, hwf⟩ := ask_facts hq
  have := tell_few (list := list) hl300 (ps := musts body ++ notsOf body) (b := []) (by
    rw [List.length_append]
    have h5 := halves_len body
    omega)
  rwa [tell_rows hwa hnd hwf] at this

/-- What the model answers is what the program answers. -/
theorem ask_same {list : List At} {body : List Pt} (hf : factsB 300 list = true) (hq : askB body = true) : putAllR ((rowsB list body).map (rowT (partsT [] body))) = askRowsB list body := by
  obtain ⟨_, hwa, hnd, _⟩ := facts_ok hf
  obtain ⟨e, _, hvs⟩ := ask_vars hq
  unfold askRowsB
  rw [hf, hq, e]
  rw [e] at hvs
  refine putAll_sort (m := (partsT [] body).length) (rows_nodup hwa hnd hvs) fun y hy => ?_
  obtain ⟨b, _, rfl⟩ := List.mem_map.1 hy
  unfold rowT
  rw [List.length_map]

set_option maxRecDepth 100000 in
set_option maxHeartbeats 4000000 in
theorem specAsk_any (A : Option Addr) (n c : Nat) (list : List At) (B : Option Addr) (m d : Nat) (body : List Pt) (w : World) (hA : IsAtoms w 0 w.heap.size A n c list) (hB : IsParts w 0 w.heap.size B m d body) :
    Calls Tryz.prog 11 #[.slice A n c, .slice B m d] w (RowsPost (askRowsB list body) w) := by
  have HA := Lib.hid hA; have HB := Lib.hid hB; have HN := Lib.hid hA.1; have HM := Lib.hid hB.1
  clear hA hB
  have key : ∀ W : World, Below w.heap.size w W → RowsPost [] w (.returned (.slice (some ⟨W.heap.size, 0, none⟩) 0 0)) (W.alloc (.cells #[] 42)) := fun W hW =>
    ⟨_, 0, rfl, ⟨rfl, Nat.le_refl _, by unfold maxLen; omega, fun h => absurd h (Nat.lt_irrefl _)⟩, belowThen hW (below1 _ _)⟩
  have KEY := Lib.hid key
  clear key
  cases hf : factsB 300 list with
  | false =>
    have he : askRowsB list body = [] := by unfold askRowsB; rw [hf]; rfl
    have HE := Lib.hid he; have HF := Lib.hid hf
    clear he hf
    go_enter Tryz.func11, Tryz.ntmps11
    go_wp2_with (first | (go_at_call 33; refine (specFactsOk_any A n c list _ HA.out).mono ?_; rintro e w1 ⟨rfl, hb1⟩; rw [HF.out]))
    refine bodyPost_ret (v := .slice (some ⟨w1.heap.size, 0, none⟩) 0 0) (by simp [results, Tryz.results11, go_sem]) rfl ?_
    rw [HE.out]; exact KEY.out w1 hb1
  | true =>
    cases hq : askB body with
    | false =>
      have he : askRowsB list body = [] := by unfold askRowsB; rw [hf, hq]; rfl
      have HE := Lib.hid he; have HF := Lib.hid hf; have HQ := Lib.hid hq
      clear he hf hq
      go_enter Tryz.func11, Tryz.ntmps11
      go_wp2_with (first | (go_at_call 33; refine (specFactsOk_any A n c list _ HA.out).mono ?_; rintro e w1 ⟨rfl, hb1⟩; rw [HF.out]) | (go_at_call 27; refine (specAskOk_any B m d body _ ((HB.out.up PartE.stays hb1))).mono ?_; rintro e w2 ⟨rfl, hb2⟩; rw [HQ.out]))
      refine bodyPost_ret (v := .slice (some ⟨w2.heap.size, 0, none⟩) 0 0) (by simp [results, Tryz.results11, go_sem]) rfl ?_
      rw [HE.out]; exact KEY.out w2 (belowThen hb1 hb2)
    | true =>
      have hs := ask_same hf hq
      have hrf := rows_few hf hq
      have hv := ask_vars hq
      have h12 : (partsT [] body).length ≤ 12 := by rw [← hv.1]; exact hv.2.1
      have hri : risesB list = true := by unfold factsB at hf; simp only [Bool.and_eq_true] at hf; exact hf.1.2
      obtain ⟨hq4, hq3, _, _⟩ := ask_facts hq
      obtain ⟨_, _, _, hl300⟩ := facts_ok hf
      have HS := Lib.hid hs; have HRF := Lib.hid hrf; have H12 := Lib.hid h12; have HRI := Lib.hid hri; have HQ3 := Lib.hid hq3; have HF := Lib.hid hf; have HQ := Lib.hid hq
      have hn := HN.out; have hm := HM.out
      have hn3 : n ≤ 300 := by omega
      have hm4 : m ≤ 4 := by omega
      clear hs hrf hv h12 hri hq3 hf hq hn hm
      go_enter Tryz.func11, Tryz.ntmps11
      go_wp2_with (first | (go_at_call 33; refine (specFactsOk_any A n c list _ HA.out).mono ?_; rintro e w1 ⟨rfl, hb1⟩; rw [HF.out]) | (go_at_call 27; refine (specAskOk_any B m d body _ ((HB.out.up PartE.stays hb1))).mono ?_; rintro e w2 ⟨rfl, hb2⟩; rw [HQ.out]))
      have hbw := belowThen hb1 hb2
      refine (l5Ask_any A n c list B m d body _ (HA.out.up AtomE.stays hbw) (HB.out.up PartE.stays hbw) HRI.out HQ3.out hm4 hn3 H12.out HRF.out).mono ?_; rintro e w3 ⟨p, c', rfl, hr, hb3⟩
      rw [HS.out] at hr ⊢
      obtain ⟨R, hR⟩ : ∃ R, askRowsB list body = R := ⟨_, rfl⟩
      rw [hR] at hr ⊢
      have HR := Lib.hid hr; have HRE := Lib.hid hR
      clear hr hR
      go_wp2
      refine bodyPost_ret (v := .slice (some p) R.length c') (by simp [results, Tryz.results11, go_sem]) rfl ?_
      rw [HRE.out]
      exact ⟨p, c', rfl, HR.out, belowThen hbw hb3⟩

/-- The figures of a number. -/
def digs (k : Nat) : List UInt8 := if k = 0 then [] else digs (k / 10) ++ [UInt8.ofNat (48 + k % 10)]
termination_by k
decreasing_by omega

theorem digs_zero : digs 0 = [] := by rw [digs]; rfl
theorem digs_step {k : Nat} (h : 0 < k) : digs k = digs (k / 10) ++ [UInt8.ofNat (48 + k % 10)] := by rw [digs, if_neg (by omega)]

theorem digs_len : ∀ (n k : Nat), k < 10 ^ n → (digs k).length ≤ n
  | 0, k, h => by
    have : k = 0 := by simpa using h
    subst this; rw [digs_zero]; simp
  | n + 1, k, h => by
    by_cases h0 : 0 < k
    · rw [digs_step h0, List.length_append]
      have := digs_len n (k / 10) (by rw [Nat.pow_succ] at h; omega)
      simp; omega
    · have : k = 0 := by omega
      subst this; rw [digs_zero]; simp

/-- The mark of a number. -/
def markL (k : Nat) : List UInt8 := 109 :: (if k = 0 then [48] else digs k)
def markB (k : Nat) : ByteArray := ⟨(markL k).toArray⟩

theorem byteOf (j : Nat) : ((UInt8.ofNat (48 + j % 10)).toNat : Int) = 48 + (j : Int) % 10 := by
  have h : (UInt8.ofNat (48 + j % 10)).toNat = 48 + j % 10 := by rw [UInt8.toNat_ofNat']; omega
  rw [h]; omega

theorem oneByte (j : Nat) (W : World) : (convert 39 9 (.slice (some ⟨W.heap.size, 0, none⟩) 1 1)).run Tryz.prog (W.alloc (.cells #[.int .u8 (48 + (j : Int) % 10)] 5)) = .ok (.string ⟨#[UInt8.ofNat (48 + j % 10)]⟩) (W.alloc (.cells #[.int .u8 (48 + (j : Int) % 10)] 5)) := by
  have h := run_convert_bytes_back (P := Tryz.prog) (W.alloc (.cells #[.int .u8 (48 + (j : Int) % 10)] 5)) 39 9 5 ⟨W.heap.size, 0, none⟩ 1 [UInt8.ofNat (48 + j % 10)] Tryz.underlying39 Tryz.underlying5 Tryz.underlying9 (fun i hi => by
    have : i = 0 := by simpa using hi
    subst this
    show _ = some (Value.int .u8 ((UInt8.ofNat (48 + j % 10)).toNat : Int))
    rw [byteOf]
    simp [go_sem, Addr.add])
  exact h

theorem consB (a : UInt8) (l : List UInt8) : (⟨#[a]⟩ ++ ⟨l.toArray⟩ : ByteArray) = ⟨(a :: l).toArray⟩ := by
  apply ByteArray.ext
  simp [ByteArray.data_append]

set_option maxRecDepth 100000 in
set_option maxHeartbeats 1000000 in
theorem markText_any (k : Nat) (hk : k ≤ 2 ^ 62) (w : World) :
    Calls Tryz.prog 54 #[.int .i64 (k : Int)] w fun e w' => e = .returned (.string (markB k)) ∧ Below w.heap.size w w' := by
  by_cases h0 : 0 < k
  · have hl := digs_len 19 k (Nat.lt_of_le_of_lt hk (by decide))
    have hmk : Hid (markB k = ⟨(109 :: digs k).toArray⟩) := Lib.hid (by unfold markB markL; rw [if_neg (by omega)])
    go_enter Tryz.func54, Tryz.ntmps54
    go_wp2
    go_loopw [0, 3] (fun x s wr => ∃ (j : Nat) (l : List UInt8), x = .int .i64 (j : Int) ∧ s = .string ⟨l.toArray⟩ ∧ digs k = digs j ++ l ∧ j ≤ k ∧ Below w.heap.size w wr) (fun x _ _ => (intOf x).toNat)
    case atStart => exact ⟨k, [], rfl, rfl, by simp, Nat.le_refl _, Below.refl _ _⟩
    case round =>
      obtain ⟨j, l, rfl, rfl, hd, hj, hb⟩ := hrel
      have HD := Lib.hid hd; clear hd
      have hll : l.length ≤ 19 := by have := congrArg List.length HD.out; rw [List.length_append] at this; omega
      by_cases hj0 : 0 < j
      · have hcv := oneByte j wr
        have hst := digs_step hj0
        have HST := Lib.hid hst; clear hst
        go_wp2
        go_roundw
        case rel => exact ⟨j / 10, UInt8.ofNat (48 + j % 10) :: l, by rw [Int.natCast_ediv]; rfl, by rw [consB, UInt8.ofNat_add]; rfl, by rw [HD.out, HST.out, List.append_assoc]; rfl, by omega, belowThen hb (below1 wr _)⟩
        case measure => simp [intOf]; omega
      · have hj1 : j = 0 := by omega
        subst hj1
        have HF : Hid (Value.string ({ data := #[109] } ++ { data := l.toArray }) = .string (markB k)) := Lib.hid (by rw [hmk.out, consB, HD.out, digs_zero]; rfl)
        go_wp2
        go_ret; exact ⟨by rw [HF.out]; rfl, hb⟩
  · have hk0 : k = 0 := by omega
    subst hk0
    go_enter Tryz.func54, Tryz.ntmps54
    go_wp2
    go_ret; exact ⟨rfl, Below.refl _ _⟩

theorem grownRow {a b : World} {row : Option Nat} (h : Below a.heap.size a b) : a.grownBy b row := ⟨h.os, h.tape, h.output, h.size, fun i hi _ => h.block i hi⟩

theorem grownThen {a b c : World} {row : Option Nat} (h : a.grownBy b row) (k : b.grownBy c row) : a.grownBy c row :=
  ⟨k.os.trans h.os, k.tape.trans h.tape, k.output.trans h.output, Nat.le_trans h.size k.size, fun i hi hne => (k.block i (Nat.lt_of_lt_of_le hi h.size) hne).trans (h.block i hi hne)⟩

theorem grownSet (w : World) (g i : Nat) (v : Value) : w.grownBy (w.setCell ⟨g, i, none⟩ v) (some g) :=
  ⟨rfl, rfl, rfl, by simp [World.setCell], fun k _ hk => Below.heap_setCell _ _ _ k (fun e => hk (by rw [e]))⟩

theorem markText_is (z : Int) (k : Nat) (hz : z = (k : Int)) (hk : k ≤ 2 ^ 62) (w : World) :
    Calls Tryz.prog 54 #[.int .i64 z] w fun e w' => e = .returned (.string (markB k)) ∧ Below w.heap.size w w' := by
  subst hz; exact markText_any k hk w

theorem mod3 {k i : Nat} {b : Bool} (h : (((k : Int) + 2 * (i : Int)) % 3 == 0) = b) : b = decide ((k + 2 * i) % 3 = 0) := by
  rw [← h, Bool.eq_iff_iff, beq_iff_eq, decide_eq_true_eq]; omega

/-- What a marked row of terms holds. -/
def MarkedRow (k n : Nat) (f : Nat → Value) : Prop := ∀ i, i < n → f (i * 2) = .bool (decide ((k + 2 * i) % 3 = 0)) ∧ f (i * 2 + 1) = .string (markB (k + 2 * i + 1))

def MarkTPost (g m n k : Nat) (w : World) (e : Ending) (w' : World) : Prop :=
  e = .returned (.int .i64 ((k + 2 * n : Nat) : Int)) ∧ (∃ f', w'.rowIs g 59 m f' ∧ MarkedRow k n f') ∧ w.grownBy w' (some g)

set_option maxRecDepth 100000 in
set_option maxHeartbeats 1000000 in
theorem markTermS_any (g m n c k : Nat) (f : Nat → Value) (w : World) (hr : w.rowIs g 59 m f) (hm : n * 2 ≤ m) (hk : k + 2 * n ≤ 2 ^ 62) :
    Calls Tryz.prog 55 #[.slice (some ⟨g, 0, none⟩) n c, .int .i64 (k : Int)] w (MarkTPost g m n k w) := by
  go_enter Tryz.func55, Tryz.ntmps55
  go_wp2
  go_loopw [1, 5] (fun x y wr => ∃ i : Nat, i ≤ n ∧ x = .int .i64 ((k + 2 * i : Nat) : Int) ∧ y = .int .i64 (i : Int) ∧ (∃ f', wr.rowIs g 59 m f' ∧ MarkedRow k i f') ∧ w.grownBy wr (some g)) (fun _ y _ => n - (intOf y).toNat)
  case atStart => exact ⟨0, Nat.zero_le _, rfl, rfl, ⟨f, hr, fun i hi => absurd hi (Nat.not_lt_zero _)⟩, World.grownBy.refl w _⟩
  case round =>
    obtain ⟨i, hi, rfl, rfl, ⟨f', hr', hf'⟩, hg⟩ := hrel
    have HF := Lib.hid hf'; clear hf'
    by_cases hlt : i < n
    · obtain ⟨bv, hbv⟩ : ∃ bv, (((k : Int) + 2 * (i : Int)) % 3 == 0) = bv := ⟨_, rfl⟩
      have HV := Lib.hid (mod3 hbv)
      have c0 := hr'.cell (i := i * 2) (by omega)
      have z0 := hr'.frozen (i * 2)
      have hr2 := hr'.set (i * 2) (.bool bv)
      have hg2 := grownThen hg (grownSet wr g (i * 2) (.bool bv))
      go_wp2_with fail
      refine (markText_is _ (k + 2 * i + 1) (by omega) (by omega) _).mono ?_; rintro e w1 ⟨rfl, hb1⟩
      have hr3 := hr2.of_block (hb1.block g hr2.lt)
      have hg3 := grownThen hg2 (grownRow hb1)
      have c1 := hr3.cell (i := i * 2 + 1) (by omega)
      have z1 := hr3.frozen (i * 2 + 1)
      have hr4 := hr3.set (i * 2 + 1) (.string (markB (k + 2 * i + 1)))
      have hg4 := grownThen hg3 (grownSet w1 g (i * 2 + 1) (.string (markB (k + 2 * i + 1))))
      clear hr2 hr3 hg2 hg3 hr'
      go_wp2
      go_roundw
      case rel => exact ⟨i + 1, by omega, by go_num, by go_num, ⟨_, hr4, fun j hj => by
        by_cases e : j = i
        · subst e
          constructor
          · rw [if_neg (by omega), if_pos rfl, HV.out]
          · rw [if_pos rfl]
        · have hj' := HF.out j (by omega)
          constructor
          · rw [if_neg (by omega), if_neg (by omega)]; exact hj'.1
          · rw [if_neg (by omega), if_neg (by omega)]; exact hj'.2⟩, hg4⟩
      case measure => simp [intOf]; omega
    · have hin : i = n := by omega
      subst hin
      go_wp2
      go_ret; exact ⟨by go_num, ⟨f', hr', HF.out⟩, hg⟩


theorem markB_size (k : Nat) (hk : k ≤ 2 ^ 62) : (markB k).size ≤ maxLen := by
  have hl := digs_len 19 k (Nat.lt_of_le_of_lt hk (by decide))
  unfold markB markL maxLen
  show (109 :: (if k = 0 then [48] else digs k)).toArray.size ≤ _
  rw [List.size_toArray, List.length_cons]
  split
  · simp
  · omega

/-- Terms that hold marks from k on. -/
def markTs (k n : Nat) : List Tm := (List.range n).map fun i => (decide ((k + 2 * i) % 3 = 0), markB (k + 2 * i + 1))

theorem markTs_len (k n : Nat) : (markTs k n).length = n := by unfold markTs; simp
theorem markTs_at {k n i : Nat} (h : i < n) : (markTs k n)[i]? = some (decide ((k + 2 * i) % 3 = 0), markB (k + 2 * i + 1)) := by
  unfold markTs; simp [h]

theorem marked_terms {w : World} {g m n c k lo hi : Nat} {f : Nat → Value} (h : w.rowIs g 59 m f) (hm : n * 2 ≤ m) (hf : MarkedRow k n f) (hk : k + 2 * n ≤ 2 ^ 62) (hn : n ≤ c) (hc : c ≤ maxLen) (h1 : lo ≤ g) (h2 : g < hi) : IsTerms w lo hi (some ⟨g, 0, none⟩) n c (markTs k n) := by
  refine ⟨markTs_len k n, hn, hc, fun _ => ⟨_, rfl, h1, h2, fun i t ht => ?_⟩⟩
  have hi : i < n := by
    have := (List.getElem?_eq_some_iff.1 ht).1
    rwa [markTs_len] at this
  rw [markTs_at hi] at ht
  injection ht with ht
  subst ht
  have a0 : ∀ j, (⟨g, 0, none⟩ : Addr).add j = ⟨g, j, none⟩ := fun j => by unfold Addr.add; split <;> simp_all
  obtain ⟨d1, d2⟩ := hf i hi
  rw [a0, a0, h.cell (by omega), h.cell (by omega), d1, d2]
  exact ⟨rfl, rfl, markB_size _ (by omega)⟩

theorem markTermS_none (A : Option Addr) (c k : Nat) (w : World) : Calls Tryz.prog 55 #[.slice A 0 c, .int .i64 (k : Int)] w fun e w' => e = .returned (.int .i64 (k : Int)) ∧ w' = w := by
  go_enter Tryz.func55, Tryz.ntmps55
  go_wp2
  go_loop [1, 5] (fun x y => x = .int .i64 (k : Int) ∧ y = .int .i64 0) (fun _ _ => 0)
  case atStart => exact ⟨rfl, rfl⟩
  case round =>
    obtain ⟨rfl, rfl⟩ := hrel
    go_wp2
    go_ret; exact ⟨rfl, rfl⟩



/-- Blocks from lo on and below hi alone have turned. -/
structure Within (lo hi : Nat) (w w' : World) : Prop where
  os : w'.os = w.os
  tape : w'.tape = w.tape
  output : w'.output = w.output
  size : w.heap.size ≤ w'.heap.size
  block : ∀ b, b < w.heap.size → (b < lo ∨ hi ≤ b) → w'.heap[b]? = w.heap[b]?

section
variable {lo hi : Nat} {w w' w'' : World}
theorem Within.refl : Within lo hi w w := ⟨rfl, rfl, rfl, Nat.le_refl _, fun _ _ _ => rfl⟩
theorem Within.trans (h : Within lo hi w w') (k : Within lo hi w' w'') : Within lo hi w w'' :=
  ⟨k.os.trans h.os, k.tape.trans h.tape, k.output.trans h.output, Nat.le_trans h.size k.size, fun b hb ho => (k.block b (Nat.lt_of_lt_of_le hb h.size) ho).trans (h.block b hb ho)⟩
theorem Within.of (h : Below w.heap.size w w') : Within lo hi w w' := ⟨h.os, h.tape, h.output, h.size, fun b hb _ => h.block b hb⟩
theorem Within.row {g : Nat} (h : w.grownBy w' (some g)) (h1 : lo ≤ g) (h2 : g < hi) : Within lo hi w w' :=
  ⟨h.os, h.tape, h.output, h.size, fun b hb ho => h.block b hb (fun e => by injection e with e; omega)⟩
theorem Within.low {B : Nat} (h : Within lo hi w w') (hB : B ≤ lo) (hs : lo ≤ w.heap.size) : Below B w w' :=
  ⟨h.os, h.tape, h.output, h.size, fun b hb => h.block b (by omega) (.inl (by omega))⟩
theorem Within.wide {lo' hi' : Nat} (h : Within lo hi w w') (h1 : lo' ≤ lo) (h2 : hi ≤ hi') : Within lo' hi' w w' :=
  ⟨h.os, h.tape, h.output, h.size, fun b hb ho => h.block b hb (by omega)⟩
end


/-- A list of texts in memory of its own. -/
def OwnTx (w : World) (lo hi : Nat) (A : Option Addr) (n c : Nat) (ls : List ByteArray) : Prop :=
  ls.length = n ∧ n ≤ c ∧ c ≤ maxLen ∧ (∀ s ∈ ls, s.size ≤ maxLen) ∧ (0 < n → ∃ g k f, A = some ⟨g, 0, none⟩ ∧ lo ≤ g ∧ g < hi ∧ w.rowIs g 9 k f ∧ n ≤ k ∧ ∀ i s, ls[i]? = some s → f i = .string s)

section
variable {w w' : World} {lo hi lo' hi' n c : Nat} {A : Option Addr} {ls : List ByteArray}

theorem OwnTx.keep (h : OwnTx w lo hi A n c ls) (hk : ∀ b, lo ≤ b → b < hi → w'.heap[b]? = w.heap[b]?) (h1 : lo' ≤ lo) (h2 : hi ≤ hi') : OwnTx w' lo' hi' A n c ls := by
  obtain ⟨a, b, d, x, e⟩ := h
  refine ⟨a, b, d, x, fun hn => ?_⟩
  obtain ⟨g, k, f, e1, e2, e3, e4, e5⟩ := e hn
  exact ⟨g, k, f, e1, by omega, by omega, e4.of_block (hk g e2 e3), e5⟩

theorem OwnTx.below {B : Nat} (h : OwnTx w lo hi A n c ls) (hb : Below B w w') (hh : hi ≤ B) : OwnTx w' lo hi A n c ls :=
  h.keep (fun b _ hb' => hb.block b (by omega)) (Nat.le_refl _) (Nat.le_refl _)

/-- What it reads as. -/
theorem OwnTx.texts (h : OwnTx w lo hi A n c ls) : IsTexts w lo hi A n c ls := by
  obtain ⟨a, b, d, _, e⟩ := h
  refine ⟨a, b, d, fun hn => ?_⟩
  obtain ⟨g, k, f, e1, e2, e3, e4, e5, e6⟩ := e hn
  refine ⟨_, e1, e2, e3, fun i s hs => ?_⟩
  have hi := (List.getElem?_eq_some_iff.1 hs).1
  have a0 : ∀ j, (⟨g, 0, none⟩ : Addr).add j = ⟨g, j, none⟩ := fun j => by unfold Addr.add; split <;> simp_all
  show w.cell? _ = _
  rw [a0, Nat.mul_one, e4.cell (by omega), e6 _ _ hs]

theorem OwnTx.of_row {base : Nat} {v : Value} (h : w.ownsRow base 9 1 v n (tcl ls)) (hn : n = ls.length) (hs : ∀ s ∈ ls, s.size ≤ maxLen) (hb : lo ≤ base) : ∃ A c, v = .slice A n c ∧ OwnTx w lo w.heap.size A n c ls := by
  subst hn
  rcases h.2 with ⟨rfl, h0⟩ | ⟨g, cap, cur, rfl, hbg, hgb, hle, hcap, hsz, htk⟩
  · exact ⟨none, 0, by rw [h0], rfl, by omega, by unfold maxLen; omega, hs, fun hp => absurd hp (by omega)⟩
  · have hlt := (Array.getElem?_eq_some_iff.1 hgb).1
    refine ⟨_, cap, rfl, rfl, hle, hcap, hs, fun _ => ⟨g, cap * 1, fun i => cur[i]?.getD undef, rfl, by omega, hlt, ⟨cur, hgb, hsz, fun i hi => by simp [hsz ▸ hi]⟩, by omega, fun j s hj => ?_⟩⟩
    have hu : (tcl ls)[j]? = some (.string s) := by unfold tcl; rw [List.getElem?_map, hj]; rfl
    have hjl := (List.getElem?_eq_some_iff.1 hj).1
    rw [← htk, List.getElem?_take, if_pos (by omega)] at hu
    have : cur[j]? = some (.string s) := by simpa using hu
    simp [this]
end

/-- Marks, one behind the other. -/
def markXs (k n : Nat) : List ByteArray := (List.range n).map fun i => markB (k + i)
theorem markXs_len (k n : Nat) : (markXs k n).length = n := by unfold markXs; simp
theorem markXs_at {k n i : Nat} (h : i < n) : (markXs k n)[i]? = some (markB (k + i)) := by unfold markXs; simp [h]

set_option maxHeartbeats 1000000 in
theorem eqStringS_same (A B : Option Addr) (n c n' c' : Nat) (ls : List ByteArray) (w : World) (h : IsTexts w 0 w.heap.size A n c ls) (h' : IsTexts w 0 w.heap.size B n' c' ls) :
    Calls Tryz.prog 51 #[.slice A n c, .slice B n' c'] w (BoolPost true w) := by
  have hm := h.len
  unfold maxLen at hm
  have hnn : n = n' := by rw [← h.1, ← h'.1]
  subst hnn
  have H := Lib.hid h; clear h
  have H' := Lib.hid h'; clear h'
  go_enter Tryz.func51, Tryz.ntmps51
  go_wp2
  go_loopw [5] (fun i wr => ∃ k : Nat, k ≤ n ∧ i = .int .i64 (k : Int) ∧ Below w.heap.size w wr) (fun i _ => n - (intOf i).toNat)
  case atStart => exact ⟨0, Nat.zero_le _, rfl, Below.refl _ _⟩
  case round =>
    obtain ⟨k, hk, rfl, hb⟩ := hrel
    by_cases hlt : k < n
    · have hlt2 : (k : Int) < (n : Int) := by omega
      obtain ⟨p, t, hA, -, -, hg, hE⟩ := (H.out.below TextE.stays hb (Nat.le_refl _)).at_ hlt
      obtain ⟨p', t', hA', -, -, hg', hE'⟩ := (H'.out.below TextE.stays hb (Nat.le_refl _)).at_ hlt
      subst hA; subst hA'
      rw [hg] at hg'
      injection hg' with hg'
      subst hg'
      have c1 : wr.drew.cell? (p.add k) = some (.string t) := by have := hE; unfold TextE at this; rwa [Nat.mul_one] at this
      have c2 : wr.drew.cell? (p'.add k) = some (.string t) := by have := hE'; unfold TextE at this; rwa [Nat.mul_one] at this
      have hbd := hb.drew
      clear hg hE hE'
      go_wp2_with fail
      go_region_with fail
      all_goals go_wp2
      all_goals (go_roundw)
      all_goals first
        | exact ⟨k + 1, by omega, by go_num, hbd⟩
        | (simp [intOf]; omega)
    · go_wp2
      go_ret
      exact ⟨rfl, hb⟩

set_option maxRecDepth 100000 in
set_option maxHeartbeats 1000000 in
theorem heldStringS_any (A : Option Addr) (n c k : Nat) (w : World) (h : IsTexts w 0 w.heap.size A n c (markXs k n)) (hk : k + n ≤ 2 ^ 62) :
    Calls Tryz.prog 57 #[.slice A n c, .int .i64 (k : Int)] w fun e w' => e = .returned (.int .i64 ((k + n : Nat) : Int)) ∧ Below w.heap.size w w' := by
  have H := Lib.hid h; clear h
  go_enter Tryz.func57, Tryz.ntmps57
  go_wp2
  go_loopw [1, 5] (fun x y wr => ∃ i : Nat, i ≤ n ∧ x = .int .i64 ((k + i : Nat) : Int) ∧ y = .int .i64 (i : Int) ∧ Below w.heap.size w wr) (fun _ y _ => n - (intOf y).toNat)
  case atStart => exact ⟨0, Nat.zero_le _, rfl, rfl, Below.refl _ _⟩
  case round =>
    obtain ⟨i, hi, rfl, rfl, hb⟩ := hrel
    by_cases hlt : i < n
    · obtain ⟨p, t, hA, hlo, hhi, hg, hE⟩ := (H.out.below TextE.stays hb (Nat.le_refl _)).at_ hlt
      subst hA
      rw [markXs_at hlt] at hg
      injection hg with hg
      subst hg
      have x1 : wr.drew.cell? (p.add i) = some (.string (markB (k + i))) := by have := hE; unfold TextE at this; rwa [Nat.mul_one] at this
      have hbd := hb.drew
      have hlt2 : (i : Int) < (n : Int) := by omega
      clear hE
      go_wp2
      refine wp_region_held_drew (S := fun W => W.cell? (p.add i) = some (.string (markB (k + i)))) (by kernel_rfl) x1 ?_
      intro hS_
      refine tk 0 (.slice (some p) n c) hS_ ?_
      refine tk 1 (.int .i64 (i : Int)) hS_ ?_
      refine tk 2 (.pointer (some (p.add i))) hS_ ?_
      refine tk 3 (.string (markB (k + i))) hS_ ?_
      refine tk 4 (.int .i64 ((k : Int) + (i : Int))) hS_ ?_
      refine rd1 5 fun K_ hK_ => ?_
      go_simp
      go_at_call 54
      refine (markText_is _ (k + i) (by omega) (by omega) _).mono ?_; rintro e w1 ⟨rfl, hb1⟩
      have y1 := (hb1.cell (p := p.add i) (by rw [block_add]; exact Nat.lt_of_lt_of_le hhi hb.size)).trans x1
      refine hK_.out _ _ y1 (fun hS2_ => ?_)
      clear hK_ hS_
      have hS_ := hS2_; clear hS2_
      refine tk 6 (.bool false) hS_ ?_
      refine wpAnyH_done (by kernel_rfl) ?_ _
      go_wp2
      go_roundw
      case rel => exact ⟨i + 1, by omega, by go_num, by go_num, belowThen hbd hb1⟩
      case measure => simp [intOf]; omega
    · have hin : i = n := by omega
      subst hin
      go_wp2
      go_ret; exact ⟨by go_num, hb⟩

set_option maxRecDepth 100000 in
set_option maxHeartbeats 1000000 in
theorem markStringS_any (lo hi : Nat) (A : Option Addr) (n c k : Nat) (ls : List ByteArray) (w : World) (h : OwnTx w lo hi A n c ls) (hh : hi ≤ w.heap.size) (hk : k + n ≤ 2 ^ 62) :
    Calls Tryz.prog 56 #[.slice A n c, .int .i64 (k : Int)] w fun e w' => e = .returned (.int .i64 ((k + n : Nat) : Int)) ∧ OwnTx w' lo hi A n c (markXs k n) ∧ Within lo hi w w' := by
  obtain ⟨h1, h2, h3, h4, h5⟩ := h
  have hcm := h3
  unfold maxLen at hcm
  by_cases h0 : 0 < n
  · obtain ⟨g, m, f, rfl, e2, e3, e4, e5, e6⟩ := h5 h0
    have HR := Lib.hid e4; clear e4 e6 h5
    go_enter Tryz.func56, Tryz.ntmps56
    go_wp2
    go_loopw [1, 5] (fun x y wr => ∃ (i : Nat) (f' : Nat → Value), i ≤ n ∧ x = .int .i64 ((k + i : Nat) : Int) ∧ y = .int .i64 (i : Int) ∧ wr.rowIs g 9 m f' ∧ (∀ j, j < i → f' j = .string (markB (k + j))) ∧ Within lo hi w wr) (fun _ y _ => n - (intOf y).toNat)
    case atStart => exact ⟨0, f, Nat.zero_le _, rfl, rfl, HR.out, fun j hj => absurd hj (Nat.not_lt_zero _), Within.refl⟩
    case round =>
      obtain ⟨i, f', hi', rfl, rfl, hr, hf, hw⟩ := hrel
      have HF := Lib.hid hf; clear hf
      by_cases hlt : i < n
      · have hlt2 : (i : Int) < (n : Int) := by omega
        have hwz := hw.size
        go_wp2_with fail
        refine (markText_is _ (k + i) (by omega) (by omega) _).mono ?_; rintro e w1 ⟨rfl, hb1⟩
        have hr1 := hr.of_block (hb1.block g (by omega))
        have c1 := hr1.cell (i := i) (by omega)
        have z1 := hr1.frozen i
        have hr2 := hr1.set i (.string (markB (k + i)))
        have hw2 := (hw.trans (Within.of hb1)).trans (Within.row (grownSet w1 g i (.string (markB (k + i)))) e2 e3)
        have HR2 := Lib.hid hr2; clear hr hr1 hr2 hb1
        go_wp2
        go_roundw
        case rel => exact ⟨i + 1, _, by omega, by go_num, by go_num, HR2.out, fun j hj => by
          by_cases e : j = i
          · subst e; simp
          · rw [if_neg e]; exact HF.out j (by omega), hw2⟩
        case measure => simp [intOf]; omega
      · have hin : i = n := by omega
        subst hin
        go_wp2
        go_ret
        exact ⟨by go_num, ⟨markXs_len _ _, h2, h3, fun s hs => by
          unfold markXs at hs
          obtain ⟨j, hj, rfl⟩ := List.mem_map.1 hs
          exact markB_size _ (by have := List.mem_range.1 hj; omega), fun _ => ⟨g, m, f', rfl, e2, e3, hr, e5, fun j s hs => by
          have hj : j < i := by have := (List.getElem?_eq_some_iff.1 hs).1; rwa [markXs_len] at this
          rw [markXs_at hj] at hs
          injection hs with hs
          subst hs
          exact HF.out j hj⟩⟩, hw⟩
  · have hn : n = 0 := by omega
    subst hn
    go_enter Tryz.func56, Tryz.ntmps56
    go_wp2
    go_loop [1, 5] (fun x y => x = .int .i64 (k : Int) ∧ y = .int .i64 0) (fun _ _ => 0)
    case atStart => exact ⟨rfl, rfl⟩
    case round =>
      obtain ⟨rfl, rfl⟩ := hrel
      go_wp2
      go_ret; exact ⟨by go_num, ⟨markXs_len _ _, h2, h3, fun s hs => by simp [markXs] at hs, fun h => absurd h (Nat.lt_irrefl _)⟩, Within.refl⟩


set_option maxRecDepth 100000 in
set_option maxHeartbeats 2000000 in
theorem eqStringSS_same (A B : Option Addr) (n c n' c' : Nat) (Ls : List (List ByteArray)) (w : World) (h : IsRows w 0 w.heap.size A n c Ls) (h' : IsRows w 0 w.heap.size B n' c' Ls) :
    Calls Tryz.prog 15 #[.slice A n c, .slice B n' c'] w (BoolPost true w) := by
  have hm := h.len
  unfold maxLen at hm
  have hnn : n = n' := by rw [← h.1, ← h'.1]
  subst hnn
  have H := Lib.hid h; have H' := Lib.hid h'
  clear h h'
  go_enter Tryz.func15, Tryz.ntmps15
  go_wp2
  go_loopw [5] (fun i wr => ∃ k : Nat, k ≤ n ∧ i = .int .i64 (k : Int) ∧ Below w.heap.size w wr) (fun i _ => n - (intOf i).toNat)
  case atStart => exact ⟨0, Nat.zero_le _, rfl, Below.refl _ _⟩
  case round =>
    obtain ⟨k, hk, rfl, hB⟩ := hrel
    have HW := Lib.hid hB
    clear hB
    by_cases hlt : k < n
    · have hltI : (k : Int) < (n : Int) := by omega
      obtain ⟨p, L, hA, _, hpb, hL, A1, c1, y1, t1⟩ := (H.out.up RowE.stays HW.out).at_ hlt
      obtain ⟨q, L', hB', _, hqb, hL', A2, c2, y2, t2⟩ := (H'.out.up RowE.stays HW.out).at_ hlt
      subst hA hB'
      rw [hL] at hL'
      injection hL' with hL'
      subst hL'
      rw [Nat.mul_one] at y1 y2
      have hd : Below wr.heap.size wr wr.drew := (Below.refl _ _).drew
      have sw : ∀ U : World, Below wr.heap.size wr U → U.cell? (p.add k) = some (.slice A1 L.length c1) ∧ U.cell? (q.add k) = some (.slice A2 L.length c2) := fun U hU => ⟨(hU.cell (by rw [block_add]; exact hpb)).trans y1, (hU.cell (by rw [block_add]; exact hqb)).trans y2⟩
      obtain ⟨nl, hnl⟩ : ∃ nl, L.length = nl := ⟨_, rfl⟩
      rw [hnl] at sw t1 t2
      have SW := Lib.hid sw; have HD := Lib.hid hd; have T1 := Lib.hid t1; have T2 := Lib.hid t2
      clear sw hd y1 y2 t1 t2 hL hnl
      go_wp2_with fail
      refine wp_region_held_drew (S := fun U => U.cell? (p.add k) = some (.slice A1 nl c1) ∧ U.cell? (q.add k) = some (.slice A2 nl c2)) (by kernel_rfl) (SW.out _ HD.out) ?_
      intro hS_
      refine tk 0 (.slice (some p) n c) hS_ ?_
      refine tk 1 (.int .i64 (k : Int)) hS_ ?_
      refine tk 2 (.pointer (some (p.add k))) hS_ ?_
      refine tk 3 (.slice A1 nl c1) hS_ ?_
      refine tk 4 (.slice (some q) n c') hS_ ?_
      refine tk 5 (.int .i64 (k : Int)) hS_ ?_
      refine tk 6 (.pointer (some (q.add k))) hS_ ?_
      refine tk 7 (.slice A2 nl c2) hS_ ?_
      refine rd1 8 fun K_ hK_ => ?_
      go_simp
      go_at_call 51
      refine (eqStringS_same A1 A2 nl c1 nl c2 L _ (T1.out.up TextE.stays HD.out) (T2.out.up TextE.stays HD.out)).mono ?_; rintro e w5 ⟨rfl, hb5⟩
      have hb5' := belowThen HD.out hb5
      refine hK_.out _ _ (SW.out _ hb5') fun hS_ => ?_
      clear hK_
      (try simp only [Act.put, List.setIfInBounds_toArray, List.set_cons_zero, List.set_cons_succ])
      refine tk 9 (.bool false) hS_ ?_
      refine wpAnyH_done (by kernel_rfl) ?_ _
      have HB5 := Lib.hid hb5'
      clear hb5 hb5' hS_
      go_wp2_with fail
      refine ⟨⟨k + 1, by omega, by go_num, belowThen HW.out HB5.out⟩, by simp [intOf]; omega⟩
    · go_wp2_with fail
      refine bodyPost_ret (v := .bool true) (by simp [results, Tryz.results15, go_sem]) rfl ⟨rfl, HW.out⟩

/-- Rows of marks, one behind the other: each m long. -/
def marksR (k m n : Nat) : List (List ByteArray) := (List.range n).map fun i => markXs (k + i * m) m

theorem marksR_at {k m n i : Nat} {L : List ByteArray} (h : (marksR k m n)[i]? = some L) : L = markXs (k + i * m) m := by
  unfold marksR at h
  rw [List.getElem?_map] at h
  by_cases hi : i < n
  · rw [List.getElem?_range hi] at h
    simpa using h.symm
  · rw [List.getElem?_eq_none (by simpa using hi)] at h
    cases h

set_option maxRecDepth 100000 in
set_option maxHeartbeats 2000000 in
theorem heldStringSS_any (A : Option Addr) (n c k m : Nat) (w : World) (h : IsRows w 0 w.heap.size A n c (marksR k m n)) (hk : k + n * m ≤ 2 ^ 62) :
    Calls Tryz.prog 21 #[.slice A n c, .int .i64 (k : Int)] w fun e w' => e = .returned (.int .i64 ((k + n * m : Nat) : Int)) ∧ Below w.heap.size w w' := by
  have hm := h.len
  unfold maxLen at hm
  have H := Lib.hid h; have HK := Lib.hid hk
  clear h hk
  go_enter Tryz.func21, Tryz.ntmps21
  go_wp2
  go_loopw [1, 5] (fun x y wr => ∃ i s : Nat, i ≤ n ∧ s = k + i * m ∧ x = .int .i64 (s : Int) ∧ y = .int .i64 (i : Int) ∧ Below w.heap.size w wr) (fun _ y _ => n - (intOf y).toNat)
  case atStart => exact ⟨0, k, Nat.zero_le _, by omega, rfl, rfl, Below.refl _ _⟩
  case round =>
    obtain ⟨i, s, hi, hs, rfl, rfl, hb⟩ := hrel
    have HW := Lib.hid hb; have HS := Lib.hid hs
    clear hb hs
    by_cases hlt : i < n
    · have hltI : (i : Int) < (n : Int) := by omega
      obtain ⟨p, L, hA, _, hpb, hL, A1, c1, y1, t1⟩ := (H.out.up RowE.stays HW.out).at_ hlt
      subst hA
      rw [Nat.mul_one] at y1
      have hLe := marksR_at hL
      rw [← HS.out] at hLe
      subst hLe
      rw [markXs_len] at y1 t1
      have T1 := Lib.hid t1
      clear t1 hL
      obtain ⟨u, hu⟩ : ∃ u, s + m = u := ⟨_, rfl⟩
      have hu2 : u ≤ 2 ^ 62 := by
        have h1 := HS.out; have h2 := HK.out
        have h3 : (i + 1) * m ≤ n * m := Nat.mul_le_mul_right m hlt
        rw [Nat.add_mul, Nat.one_mul] at h3
        omega
      have hheld := heldStringS_any A1 m c1 s wr T1.out (by rw [hu]; exact hu2)
      rw [hu] at hheld
      have HH := Lib.hid hheld; have HU := Lib.hid hu
      clear hheld hu
      have hu0 : ¬ (u : Int) < 0 := by omega
      go_wp2_with fail
      refine HH.out.mono ?_; rintro e w5 ⟨rfl, hb5⟩
      have HB5 := Lib.hid (belowThen HW.out hb5)
      clear hb5 y1
      go_wp2_with fail
      refine ⟨⟨i + 1, u, by omega, by rw [← HU.out, HS.out, Nat.add_mul, Nat.one_mul]; omega, rfl, by go_num, HB5.out⟩, by simp [intOf]; omega⟩
    · have hin : i = n := by omega
      subst hin
      have hs := HS.out
      go_wp2_with fail
      refine bodyPost_ret (v := .int .i64 ((k + i * m : Nat) : Int)) (by rw [← HS.out]; simp [results, Tryz.results21, go_sem]) rfl ⟨rfl, HW.out⟩
end Go.Proofs.YtcigljngiemdeaaGreat
