/-
  A body's text, in the model and in the program.
-/
import Derived.Test.YtahkkelahocplaaDoorAskOk
import Derived.Test.YtahkkelahocplaaDoorRule4
namespace Go.Proofs.YtahkkelahocplaaDoor
open Go.RowKit

/-- What stands in the model's text behind k parts. -/
def APart (xs : List Pt) (k : Nat) (s : ByteArray) : Prop := s.data.toList = bodyL (xs.take k)

theorem APart.start (xs : List Pt) : APart xs 0 ⟨#[]⟩ := by unfold APart bodyL; simp [Lib.join_nil]
theorem APart.one {xs : List Pt} {s t : ByteArray} {q : Pt} {k : Nat} (h : APart xs k s) (hk : k = 0) (hq : xs[k]? = some q) (ht : t.data.toList = partL q) : APart xs (k + 1) (s ++ t) := by
  subst hk
  unfold APart at *
  rw [bodyL_first hq]
  simp [bodyL, Lib.join_nil] at h
  simp [h, ht]
theorem APart.next {xs : List Pt} {s t : ByteArray} {q : Pt} {k : Nat} (h : APart xs k s) (hk : 0 < k) (hq : xs[k]? = some q) (ht : t.data.toList = partL q) : APart xs (k + 1) (s ++ ⟨#[32, 97, 110, 100, 32]⟩ ++ t) := by
  unfold APart at *
  rw [bodyL_next hq hk]
  simp [h, ht]
theorem APart.size {xs : List Pt} {s : ByteArray} {k : Nat} (h : APart xs k s) (hb : bodyB xs = true) (hl : xs.length ≤ 4) : s.size ≤ 200 := by
  have h1 : s.size = s.data.toList.length := rfl
  rw [h1, h]
  refine bodyL_short ?_ (by rw [List.length_take]; omega)
  unfold bodyB at *
  rw [List.all_eq_true] at *
  exact fun x hx => hb x (List.mem_of_mem_take hx)
theorem APart.all {xs : List Pt} {s : ByteArray} {k n : Nat} (h : APart xs k s) (hn : xs.length = n) (hk : ¬ k < n) : s.data.toList = bodyL xs := by
  rw [h, List.take_of_length_le (by omega)]

set_option maxHeartbeats 2000000 in
theorem l5Text_any (B : Option Addr) (m d : Nat) (xs : List Pt) (w : World) (h : IsParts w 0 w.heap.size B m d xs) (hB : bodyB xs = true) (hL : xs.length ≤ 4) :
    Calls Tryd.prog 79 #[.slice B m d] w (StrPost (bodyL xs) w) := by
  have hm := h.len
  unfold maxLen at hm
  have L := Lib.hid h.1
  have H := Lib.hid h; clear h
  have EB := Lib.hid hB; have EL := Lib.hid hL
  clear hB hL
  go_enter Tryd.func79, Tryd.ntmps79
  go_wp2
  go_loopw [3, 4] (fun x i wr => ∃ (k : Nat) (s : ByteArray), k ≤ m ∧ i = .int .i64 k ∧ x = .string s ∧ APart xs k s ∧ Below w.heap.size w wr) (fun _ i _ => m - (intOf i).toNat)
  case atStart => exact ⟨0, _, Nat.zero_le _, rfl, rfl, APart.start xs, Below.refl _ _⟩
  case round =>
    obtain ⟨k, s, hk, rfl, rfl, hd, HB⟩ := hrel
    have hsz := hd.size EB.out EL.out
    have HD := Lib.hid hd; clear hd
    by_cases hlt : k < m
    · obtain ⟨p, q, hA, hlo, hhi, hg, hE⟩ := (H.out.below PartE.stays HB (Nat.le_refl _)).at_ hlt
      obtain ⟨C, n', c', d1, d2, d3, d4, d5⟩ := hE.out
      clear hE
      subst hA
      have hqa : atomB q.2 = true := by
        have := EB.out
        unfold bodyB at this
        exact List.all_eq_true.1 this q (List.mem_of_getElem? hg)
      have hql := partL_le hqa
      have hqp := textL_le hqa
      have hql' : (partL (q.1, q.2.1, q.2.2)).length ≤ 44 := hql
      have hqp' : (textL (q.2.1, q.2.2)).length ≤ 40 := hqp
      clear hqa
      have HG := Lib.hid hg; clear hg
      have HT := Lib.hid (d5.keep (lo' := 0) (hi' := wr.heap.size) (fun _ _ _ => rfl) (Nat.le_refl _) HB.size); clear d5
      rcases Nat.eq_zero_or_pos k with h0 | h0
      · have hk0 : ¬ (0 : Int) < (k : Int) := by omega
        have HN := Lib.hid (HD.out.one h0 HG.out (t := ⟨(partL q).toArray⟩) (by simp))
        clear h0
        go_wp2_with fail
        refine (l1Part_any _ _ _ _ _ q.2.2 _ HT.out (by omega)).mono ?_; rintro e w2 ⟨rfl, hb2⟩
        go_wp2
        go_roundw
        case rel => exact ⟨k + 1, _, by omega, by go_num, rfl, HN.out, belowThen HB hb2⟩
        case measure => simp [intOf]; omega
      · have hk0 : (0 : Int) < (k : Int) := by omega
        have HN := Lib.hid (HD.out.next h0 HG.out (t := ⟨(partL q).toArray⟩) (by simp))
        clear h0
        go_wp2_with fail
        refine (l1Part_any _ _ _ _ _ q.2.2 _ HT.out (by omega)).mono ?_; rintro e w2 ⟨rfl, hb2⟩
        go_wp2
        go_roundw
        case rel => exact ⟨k + 1, _, by omega, by go_num, rfl, HN.out, belowThen HB hb2⟩
        case measure => simp [intOf]; omega
    · have E := Lib.hid (HD.out.all L.out hlt)
      go_wp2
      go_ret
      exact ⟨strEq E.out, HB⟩

/-- What AskPut answers. -/
def askPutB (xs : List Pt) : List UInt8 := if askB xs then bodyL xs else []

theorem askB_body {xs : List Pt} (h : askB xs = true) : bodyB xs = true ∧ xs.length ≤ 4 := by
  unfold askB at h
  simp only [Bool.and_eq_true, decide_eq_true_eq] at h
  exact h.1.2

set_option maxHeartbeats 1000000 in
theorem specAskPut_any (B : Option Addr) (m d : Nat) (xs : List Pt) (w : World) (h : IsParts w 0 w.heap.size B m d xs) :
    Calls Tryd.prog 39 #[.slice B m d] w (StrPost (askPutB xs) w) := by
  have H := Lib.hid h; clear h
  go_enter Tryd.func39, Tryd.ntmps39
  go_wp2_with fail
  refine (specAskOk_any B m d xs w H.out).mono ?_; rintro e w1 ⟨rfl, HB1⟩
  cases hA : askB xs
  · have E := Lib.hid (show askPutB xs = [] by unfold askPutB; rw [hA]; rfl); clear hA
    go_wp2
    go_ret; exact ⟨by rw [E.out]; rfl, HB1⟩
  · have E := Lib.hid (show askPutB xs = bodyL xs by unfold askPutB; rw [hA]; rfl)
    have EA := Lib.hid (askB_body hA); clear hA
    go_wp2_with fail
    refine (l5Text_any B m d xs w1 (H.out.up PartE.stays HB1) EA.out.1 EA.out.2).mono ?_; rintro e w2 ⟨rfl, hb2⟩
    go_wp2
    go_ret; exact ⟨by rw [E.out]; rfl, belowThen HB1 hb2⟩

set_option maxHeartbeats 1000000 in
theorem implAskPut_any (B : Option Addr) (m d : Nat) (xs : List Pt) (w : World) (h : IsParts w 0 w.heap.size B m d xs) :
    Calls Tryd.prog 38 #[.slice B m d] w (StrPost (askPutB xs) w) := by
  have H := Lib.hid h; clear h
  go_enter Tryd.func38, Tryd.ntmps38
  go_wp2_with fail
  refine (implAskOk_any B m d xs w H.out).mono ?_; rintro e w1 ⟨rfl, HB1⟩
  cases hA : askB xs
  · have E := Lib.hid (show askPutB xs = [] by unfold askPutB; rw [hA]; rfl); clear hA
    go_wp2
    go_ret; exact ⟨by rw [E.out]; rfl, HB1⟩
  · have E := Lib.hid (show askPutB xs = bodyL xs by unfold askPutB; rw [hA]; rfl)
    have EA := Lib.hid (askB_body hA); clear hA
    go_wp2_with fail
    refine (bodyPut_any B m d xs w1 (H.out.up PartE.stays HB1) EA.out.1 EA.out.2).mono ?_; rintro e w2 ⟨rfl, hb2⟩
    go_wp2
    go_ret; exact ⟨by rw [E.out]; rfl, belowThen HB1 hb2⟩

end Go.Proofs.YtahkkelahocplaaDoor
