/-
  Rules' texts: the text of a part and of a rule in the model.
-/
import Derived.Test.YtahkkelahocplaaDoorRuleOk
import Derived.Test.YtahkkelahocplaaDoorPut2
namespace Go.Proofs.YtahkkelahocplaaDoor
open Go.RowKit

/-- A part's text. -/
def partL (q : Pt) : List UInt8 := (if q.1 then [110, 111, 116, 32] else []) ++ textL q.2

/-- A body's text. -/
def bodyL (xs : List Pt) : List UInt8 := Lib.join (xs.map partL) [32, 97, 110, 100, 32]

/-- A rule's text. -/
def ruleL (r : Rl) : List UInt8 := textL r.1 ++ (if r.2.length = 0 then [] else [32, 105, 102, 32] ++ bodyL r.2)

theorem strEq {s : ByteArray} {l : List UInt8} (h : s.data.toList = l) : Ending.returned (.string s) = .returned (.string ⟨l.toArray⟩) := by
  subst h; rfl

theorem partL_le {q : Pt} (h : atomB q.2 = true) : (partL q).length ≤ 44 := by
  have h1 := textL_le h
  unfold partL
  split <;> simp only [List.length_append, List.length_cons, List.length_nil] <;> omega

set_option maxHeartbeats 1000000 in
theorem l1Part_any (b : Bool) (nm : ByteArray) (A : Option Addr) (n c : Nat) (ts : List Tm) (w : World) (h : IsTerms w 0 w.heap.size A n c ts) (hl : (textL (nm, ts)).length ≤ 1099511627776) :
    Calls Tryd.prog 106 #[.agg #[.bool b, .string nm, .slice A n c]] w (StrPost (partL (b, nm, ts)) w) := by
  have H := Lib.hid h; clear h
  have hw0 := below1 w (.cells #[.bool b, .string nm, .slice A n c] 86)
  cases b
  · go_enter Tryd.func106, Tryd.ntmps106
    go_wp2_with fail
    refine (l1Put_any _ _ _ _ ts _ (H.out.up hw0) hl).mono ?_; rintro e w1 ⟨rfl, hb1⟩
    go_wp2
    go_ret; exact ⟨strEq (by unfold partL; simp), belowThen hw0 hb1⟩
  · go_enter Tryd.func106, Tryd.ntmps106
    go_wp2_with fail
    refine (l1Put_any _ _ _ _ ts _ (H.out.up hw0) hl).mono ?_; rintro e w1 ⟨rfl, hb1⟩
    go_wp2
    go_ret; exact ⟨strEq (by unfold partL; simp), belowThen hw0 hb1⟩

/-- What stands in the model's text behind k parts. -/
def RPart (r : Rl) (k : Nat) (s : ByteArray) : Prop := s.data.toList = textL r.1 ++ (if k = 0 then [] else [32, 105, 102, 32] ++ bodyL (r.2.take k))

theorem bodyL_first {xs : List Pt} {q : Pt} (h : xs[0]? = some q) : bodyL (xs.take 1) = partL q := by
  obtain ⟨h1, h2⟩ := List.getElem?_eq_some_iff.1 h
  rw [List.take_succ_eq_append_getElem h1, h2]
  simp [bodyL, Lib.join_one]

theorem joinTail_snoc (sep : List UInt8) (r : List (List UInt8)) (x : List UInt8) : Lib.joinTail sep (r ++ [x]) = Lib.joinTail sep r ++ (sep ++ x) := by simp [Lib.joinTail]

theorem bodyL_next {xs : List Pt} {k : Nat} {q : Pt} (h : xs[k]? = some q) (hk : 0 < k) : bodyL (xs.take (k + 1)) = bodyL (xs.take k) ++ ([32, 97, 110, 100, 32] ++ partL q) := by
  obtain ⟨h1, h2⟩ := List.getElem?_eq_some_iff.1 h
  unfold bodyL
  rw [List.take_succ_eq_append_getElem h1, h2, List.map_append]
  have hne : xs.take k ≠ [] := fun e => by
    have h3 : (xs.take k).length = k := by rw [List.length_take]; omega
    rw [e] at h3
    simp at h3
    omega
  generalize xs.take k = ys at hne
  cases ys with
  | nil => exact absurd rfl hne
  | cons y r =>
    rw [List.map_cons, List.cons_append, Lib.join_cons, Lib.join_cons]
    show partL y ++ Lib.joinTail _ (r.map partL ++ [partL q]) = _
    rw [joinTail_snoc, List.append_assoc]

theorem RPart.start (r : Rl) : RPart r 0 ⟨(textL r.1).toArray⟩ := by unfold RPart; simp

theorem RPart.one {r : Rl} {s t : ByteArray} {q : Pt} {k : Nat} (h : RPart r k s) (hk : k = 0) (hq : r.2[k]? = some q) (ht : t.data.toList = partL q) : RPart r (k + 1) (s ++ ⟨#[32, 105, 102, 32]⟩ ++ t) := by
  subst hk
  unfold RPart at *
  rw [bodyL_first hq]
  simp [h, ht]

theorem RPart.next {r : Rl} {s t : ByteArray} {q : Pt} {k : Nat} (h : RPart r k s) (hk : 0 < k) (hq : r.2[k]? = some q) (ht : t.data.toList = partL q) : RPart r (k + 1) (s ++ ⟨#[32, 97, 110, 100, 32]⟩ ++ t) := by
  unfold RPart at *
  rw [bodyL_next hq hk]
  have hk0 : ¬ k = 0 := by omega
  simp [h, ht, hk0]

theorem RPart.all {r : Rl} {s : ByteArray} {k n : Nat} (h : RPart r k s) (hn : r.2.length = n) (hk : ¬ k < n) (hkn : k ≤ n) : s.data.toList = ruleL r := by
  have hkk : k = n := by omega
  unfold RPart at h
  rw [h]
  unfold ruleL
  rw [List.take_of_length_le (by omega), hn, hkk]

/-- The texts of few short parts are short. -/
theorem bodyL_le : ∀ (xs : List Pt), (∀ q ∈ xs, atomB q.2 = true) → (Lib.joinTail [32, 97, 110, 100, 32] (xs.map partL)).length ≤ 49 * xs.length
  | [], _ => by simp [Lib.joinTail]
  | q :: r, h => by
    have h1 := partL_le (h q (by simp))
    have h2 := bodyL_le r (fun x hx => h x (by simp [hx]))
    have h3 : Lib.joinTail [32, 97, 110, 100, 32] ((q :: r).map partL) = [32, 97, 110, 100, 32] ++ partL q ++ Lib.joinTail [32, 97, 110, 100, 32] (r.map partL) := by simp [Lib.joinTail]
    rw [h3]
    simp only [List.length_append, List.length_cons, List.length_nil]
    omega

theorem bodyL_short {xs : List Pt} (h : bodyB xs = true) (hl : xs.length ≤ 4) : (bodyL xs).length ≤ 200 := by
  unfold bodyB at h
  have ha := List.all_eq_true.1 h
  cases xs with
  | nil => simp [bodyL, Lib.join_nil]
  | cons q r =>
    have h1 := partL_le (ha q (by simp))
    have h2 := bodyL_le r (fun x hx => ha x (by simp [hx]))
    unfold bodyL
    rw [List.map_cons, Lib.join_cons]
    simp only [List.length_append, List.length_cons] at *
    omega

theorem RPart.size {r : Rl} {s : ByteArray} {k : Nat} (h : RPart r k s) (hb : bodyB r.2 = true) (ha : atomB r.1 = true) (hl : r.2.length ≤ 4) : s.size ≤ 300 := by
  have h1 : s.size = s.data.toList.length := rfl
  rw [h1, h]
  have h2 := textL_le ha
  have h3 : (bodyL (r.2.take k)).length ≤ 200 := by
    refine bodyL_short ?_ (by rw [List.length_take]; omega)
    unfold bodyB at *
    rw [List.all_eq_true] at *
    exact fun x hx => hb x (List.mem_of_mem_take hx)
  split <;> simp only [List.length_append, List.length_cons, List.length_nil] <;> omega

set_option maxHeartbeats 2000000 in
theorem l1RulePut_any (nm : ByteArray) (A : Option Addr) (n c : Nat) (B : Option Addr) (m d : Nat) (ts : List Tm) (xs : List Pt) (w : World) (h : IsRule w w.heap.size A n c B m d ts xs) (hr : ruleB ((nm, ts), xs) = true) :
    Calls Tryd.prog 75 #[.agg #[.string nm, .slice A n c, .slice B m d]] w (StrPost (ruleL ((nm, ts), xs)) w) := by
  have hm := h.2.len
  unfold maxLen at hm
  have hr' := hr
  unfold ruleB at hr'
  simp only [Bool.and_eq_true, decide_eq_true_eq] at hr'
  obtain ⟨hB, hA, hL⟩ := hr'
  have hput := textL_le hA
  have L := Lib.hid h.2.1
  have H := Lib.hid h; clear h
  have EB := Lib.hid hB; have EA := Lib.hid hA; have EL := Lib.hid hL
  clear hB hA hL hr
  have hw0 := below1 w (.cells #[.string nm, .slice A n c, .slice B m d] 38)
  have X0 := Lib.hid (Box3.new w (.string nm) (.slice A n c) (.slice B m d) 38)
  have P0 := Lib.hid (RPart.start ((nm, ts), xs))
  go_enter Tryd.func75, Tryd.ntmps75
  go_wp2_with fail
  refine (l1Put_any _ _ _ _ ts _ (H.out.up hw0).1 (by omega)).mono ?_; rintro e w1 ⟨rfl, hb1⟩
  have HB1 := belowThen hw0 hb1
  have X1 := Lib.hid (X0.out.later hb1); clear hb1 X0
  go_wp2_with fail
  go_loopw [3, 4] (fun x i wr => ∃ (k : Nat) (s : ByteArray), k ≤ m ∧ i = .int .i64 k ∧ x = .string s ∧ RPart ((nm, ts), xs) k s ∧ Below w1.heap.size w1 wr) (fun _ i _ => m - (intOf i).toNat)
  case atStart => exact ⟨0, _, Nat.zero_le _, rfl, rfl, P0.out, Below.refl _ _⟩
  case round =>
    obtain ⟨k, s, hk, rfl, rfl, hd, hb⟩ := hrel
    have hsz := hd.size EB.out EA.out EL.out
    have HD := Lib.hid hd; clear hd
    have HB := belowThen HB1 hb
    obtain ⟨x1, x2, x3, x4⟩ := X1.out.later hb
    by_cases hlt : k < m
    · obtain ⟨p, q, hA, hlo, hhi, hg, hE⟩ := (H.out.2.below PartE.stays HB (Nat.le_refl _)).at_ hlt
      obtain ⟨C, n', c', d1, d2, d3, d4, d5⟩ := hE.out
      clear hE
      subst hA
      have hqa : atomB q.2 = true := by
        have := EB.out
        unfold bodyB at this
        exact List.all_eq_true.1 this q (List.mem_of_getElem? hg)
      have hql := partL_le hqa
      have hqp := textL_le hqa
      have hql' : (partL (q.1, q.2.1, q.2.2)).length ≤ 44 := hql
      have hqp' : (textL (q.2.1, q.2.2)).length ≤ 40 := hqp
      clear hqa
      have HG := Lib.hid hg; clear hg
      have HT := Lib.hid (d5.keep (lo' := 0) (hi' := wr.heap.size) (fun _ _ _ => rfl) (Nat.le_refl _) HB.size); clear d5
      rcases Nat.eq_zero_or_pos k with h0 | h0
      · have hk0 : ((k : Int) == 0) = true := by rw [beq_iff_eq]; omega
        have HN := Lib.hid (HD.out.one h0 HG.out (t := ⟨(partL q).toArray⟩) (by simp))
        clear h0
        go_wp2_with fail
        refine (l1Part_any _ _ _ _ _ q.2.2 _ HT.out (by omega)).mono ?_; rintro e w2 ⟨rfl, hb2⟩
        go_wp2
        go_roundw
        case rel => exact ⟨k + 1, _, by omega, by go_num, rfl, HN.out, belowThen hb hb2⟩
        case measure => simp [intOf]; omega
      · have hk0 : ((k : Int) == 0) = false := by rw [beq_eq_false_iff_ne]; omega
        have HN := Lib.hid (HD.out.next h0 HG.out (t := ⟨(partL q).toArray⟩) (by simp))
        clear h0
        go_wp2_with fail
        refine (l1Part_any _ _ _ _ _ q.2.2 _ HT.out (by omega)).mono ?_; rintro e w2 ⟨rfl, hb2⟩
        go_wp2
        go_roundw
        case rel => exact ⟨k + 1, _, by omega, by go_num, rfl, HN.out, belowThen hb hb2⟩
        case measure => simp [intOf]; omega
    · have E := Lib.hid (HD.out.all L.out hlt hk)
      go_wp2
      go_ret
      exact ⟨strEq E.out, HB⟩

/-- What RulePut answers. -/
def rulePutB (r : Rl) : List UInt8 := if ruleB r then ruleL r else []

set_option maxHeartbeats 1000000 in
theorem specRulePut_any (nm : ByteArray) (A : Option Addr) (n c : Nat) (B : Option Addr) (m d : Nat) (ts : List Tm) (xs : List Pt) (w : World) (hs : nm.size ≤ maxLen) (h : IsRule w w.heap.size A n c B m d ts xs) :
    Calls Tryd.prog 29 #[.agg #[.string nm, .slice A n c, .slice B m d]] w (StrPost (rulePutB ((nm, ts), xs)) w) := by
  have H := Lib.hid h; clear h
  have hw0 := below1 w (.cells #[.string nm, .slice A n c, .slice B m d] 38)
  have X0 := Lib.hid (Box3.new w (.string nm) (.slice A n c) (.slice B m d) 38)
  go_enter Tryd.func29, Tryd.ntmps29
  go_wp2_with fail
  refine (l1Rule_any _ _ _ _ _ _ _ ts xs _ hs (H.out.up hw0)).mono ?_; rintro e w1 ⟨rfl, hb1⟩
  have HB1 := belowThen hw0 hb1
  obtain ⟨x1, x2, x3, x4⟩ := X0.out.later hb1
  cases hA : ruleB ((nm, ts), xs)
  · have E := Lib.hid (show rulePutB ((nm, ts), xs) = [] by unfold rulePutB; rw [hA]; rfl); clear hA
    go_wp2
    go_ret; exact ⟨by rw [E.out]; rfl, HB1⟩
  · have E := Lib.hid (show rulePutB ((nm, ts), xs) = ruleL ((nm, ts), xs) by unfold rulePutB; rw [hA]; rfl)
    have EA := Lib.hid hA; clear hA
    go_wp2_with fail
    refine (l1RulePut_any _ _ _ _ _ _ _ ts xs _ (H.out.up HB1) EA.out).mono ?_; rintro e w2 ⟨rfl, hb2⟩
    go_wp2
    go_ret; exact ⟨by rw [E.out]; rfl, belowThen HB1 hb2⟩

end Go.Proofs.YtahkkelahocplaaDoor
