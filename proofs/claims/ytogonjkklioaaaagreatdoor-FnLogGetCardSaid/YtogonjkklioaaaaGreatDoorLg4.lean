/-
  Texts of one claim, put together.
-/
import Derived.Test.YtogonjkklioaaaaGreatDoorLg3
set_option maxRecDepth 100000
set_option maxHeartbeats 8000000
namespace Go.Proofs.YtogonjkklioaaaaGreatDoor
open Go.RowKit
theorem bytes_anti : ∀ a b : List UInt8, Lib.compareBytes b a = -Lib.compareBytes a b
  | [], [] => rfl
  | [], _ :: _ => rfl
  | _ :: _, [] => rfl
  | a :: l, b :: m => by
    unfold Lib.compareBytes; by_cases h : a < b
    · have h' : ¬ b < a := fun k => absurd (UInt8.lt_trans h k) (UInt8.lt_irrefl _)
      simp [h, h']
    · by_cases h' : b < a
      · simp [h, h']
      · simp only [h, h', if_false]; exact bytes_anti l m
theorem bytes_same {a b : List UInt8} (h : Lib.compareBytes a b = 0) : a = b := by
  have := (znc a b).2; rw [h] at this; simpa using this
theorem bytes_on : ∀ a b c : List UInt8, Lib.compareBytes a b ≤ 0 → Lib.compareBytes b c ≤ 0 → Lib.compareBytes a c ≤ 0
  | [], _, [], _, _ => Int.le_refl _
  | [], _, _ :: _, _, _ => by simp [Lib.compareBytes]
  | _ :: _, [], _, h, _ => by simp [Lib.compareBytes] at h
  | _ :: _, _ :: _, [], _, h => by simp [Lib.compareBytes] at h
  | a :: l, b :: m, c :: r, h, h' => by
    unfold Lib.compareBytes at h h' ⊢; by_cases h1 : a < b
    · by_cases h2 : b < c
      · simp [UInt8.lt_trans h1 h2]
      · by_cases h3 : c < b
        · simp [h2, h3] at h'
        · have : b = c := UInt8.le_antisymm (UInt8.not_lt.1 h3) (UInt8.not_lt.1 h2)
          subst this; simp [h1]
    · by_cases h3 : b < a
      · simp [h1, h3] at h
      · have : a = b := UInt8.le_antisymm (UInt8.not_lt.1 h3) (UInt8.not_lt.1 h1)
        subst this; by_cases h2 : a < c
        · simp [h2]
        · by_cases h4 : c < a
          · simp [h2, h4] at h'
          · simp only [h1, h2, h4, if_false] at h h' ⊢
            exact bytes_on l m r h h'
theorem zjd {a b : ByteArray} (h : a.data.toList = b.data.toList) : a = b := by
  cases a; cases b; simp only [ByteArray.mk.injEq]; exact Array.toList_inj.1 h
theorem text_anti (a b : ByteArray) : zal b a = -zal a b := bytes_anti _ _
theorem zji {a b : ByteArray} (h : zal a b = 0) : a = b := zjd (bytes_same h)
theorem text_on {a b c : ByteArray} (h : zal a b ≤ 0) (h' : zal b c ≤ 0) : zal a c ≤ 0 := bytes_on _ _ _ h h'
theorem text_strict {a b c : ByteArray} (h : zal a b ≤ 0) (h' : zal b c ≤ 0) (hs : zal a b ≠ 0 ∨ zal b c ≠ 0) : zal a c ≠ 0 := by
  intro he; have a2 := zji he; subst a2; have := text_anti a b; omega
theorem args_anti : ∀ a b : List Tm, zbd b a = -zbd a b
  | [], [] => rfl
  | [], _ :: _ => rfl
  | _ :: _, [] => rfl
  | x :: l, y :: m => by
    have := text_anti x.2 y.2; show (if zal y.2 x.2 = 0 then zbd m l else zal y.2 x.2) = -(if zal x.2 y.2 = 0 then zbd l m else zal x.2 y.2); by_cases h : zal x.2 y.2 = 0
    · rw [if_pos h, if_pos qaa]; exact args_anti l m
    · rw [if_neg h, if_neg qaa]; exact this
theorem args_on : ∀ a b c : List Tm, zbd a b ≤ 0 → zbd b c ≤ 0 → zbd a c ≤ 0
  | [], _, [], _, _ => Int.le_refl _
  | [], _, _ :: _, _, _ => by simp [zbd]
  | _ :: _, [], _, h, _ => by simp [zbd] at h
  | _ :: _, _ :: _, [], _, h => by simp [zbd] at h
  | x :: l, y :: m, z :: r, h, h' => by
    have h0 : (if zal x.2 y.2 = 0 then zbd l m else zal x.2 y.2) ≤ 0 := h; have h1 : (if zal y.2 z.2 = 0 then zbd m r else zal y.2 z.2) ≤ 0 := h'; show (if zal x.2 z.2 = 0 then zbd l r else zal x.2 z.2) ≤ 0; by_cases e : zal x.2 y.2 = 0
    · rw [if_pos e] at h0
      have exy := zji e; rw [exy]; by_cases e' : zal y.2 z.2 = 0
      · rw [if_pos e'] at h1 ⊢
        exact args_on l m r h0 h1
      · rw [if_neg e'] at h1 ⊢
        exact h1
    · rw [if_neg e] at h0
      have h2 : zal y.2 z.2 ≤ 0 := by
        by_cases e' : zal y.2 z.2 = 0
        · omega
        · rw [if_neg e'] at h1; exact h1
      rw [if_neg (text_strict h0 h2 (.inl e))]; exact text_on h0 h2
theorem zpw (a b : At) : zaf a b = zbd ((false, a.1) :: a.2) ((false, b.1) :: b.2) := rfl
theorem zbc (a b : At) : zaf b a = -zaf a b := by rw [zpw, zpw]; exact args_anti _ _
theorem zih {a b c : At} (h : zaf a b ≤ 0) (h' : zaf b c ≤ 0) : zaf a c ≤ 0 := by
  rw [zpw] at *; exact args_on _ _ _ h h'
end Go.Proofs.YtogonjkklioaaaaGreatDoor

namespace Go.Proofs.YtogonjkklioaaaaGreatDoor
theorem zbt {a b c : At} (h : zaf a b < 0) (h' : zaf b c ≤ 0) : zaf a c < 0 := by
  have h1 : zaf a c ≤ 0 := zih (Int.le_of_lt h) h'; by_cases e : zaf a c = 0
  · have h2 := zbc a c
    have h3 := zih (a := b) (b := c) (c := a) h' qaa; have h4 := zbc a b; omega
  · omega
def zbq (xs : List At) (a : At) : Bool := xs.any fun x => decide (zaf x a = 0)
theorem zbp : ∀ {x : At} {l : List At}, zaj (x :: l) = true → ∀ y ∈ l, zaf x y < 0
  | x, [], _, y, hy => by simp at hy
  | x, z :: l, h, y, hy => by
    have h' : (decide (zaf x z < 0) && zaj (z :: l)) = true := h; rw [Bool.and_eq_true, decide_eq_true_eq] at h'; rcases List.mem_cons.1 hy with rfl | hy
    · exact h'.1
    · have := zbp h'.2 y hy
      exact zbt h'.1 qaa
theorem zck {x : At} {l : List At} (h : zaj (x :: l) = true) : zaj l = true := by
  cases l with
  | nil => rfl
  | cons z l =>
    have h' : (decide (zaf x z < 0) && zaj (z :: l)) = true := h; rw [Bool.and_eq_true] at h'; exact h'.2
theorem zkq : ∀ {xs : List At}, zaj xs = true → ∀ (i j : Nat) (x y : At), i < j → xs[i]? = some x → xs[j]? = some y → zaf x y < 0
  | [], _, i, j, x, y, _, h, _ => by simp at h
  | z :: l, h, 0, j + 1, x, y, _, hx, hy => by
    simp at hx hy; subst hx
    exact zbp h y (List.mem_of_getElem? hy)
  | z :: l, h, i + 1, j + 1, x, y, hij, hx, hy => zkq (zck h) i j x y qaa (by simpa using hx) qeo
  | z :: l, h, i, 0, x, y, hij, _, _ => absurd hij qaa
theorem hasB_at {xs : List At} {a x : At} {k : Nat} (h : zaj xs = true) (hlow : ∀ j y, j < k → xs[j]? = some y → zaf y a < 0) (hx : xs[k]? = some x) (hk : 0 ≤ zaf x a) : zbq xs a = decide (zaf x a = 0) := by
  by_cases e : zaf x a = 0
  · rw [decide_eq_true e]
    unfold zbq; rw [List.any_eq_true]; exact ⟨x, List.mem_of_getElem? hx, by simp [e]⟩
  · rw [decide_eq_false e]
    unfold zbq; rw [List.any_eq_false]; intro y hy; obtain ⟨j, hj⟩ := List.getElem?_of_mem hy; simp only [decide_eq_true_eq]; intro e'; rcases Nat.lt_trichotomy j k with hlt | rfl | hgt
    · have := hlow j y hlt hj; omega
    · rw [hx] at hj; injection hj with hj; subst hj; exact e e'
    · have h1 := zkq h k j x y hgt hx hj
      have h2 := zbt h1 (show zaf y a ≤ 0 by omega); omega
theorem hasB_end {xs : List At} {a : At} {k n : Nat} (hl : xs.length = n) (hlow : ∀ j y, j < k → xs[j]? = some y → zaf y a < 0) (hk : ¬ k < n) : zbq xs a = false := by
  unfold zbq; rw [List.any_eq_false]; intro y hy; obtain ⟨j, hj⟩ := List.getElem?_of_mem hy; have := hlow j y qdw hj; simp only [decide_eq_true_eq]; omega
theorem low_snoc {xs : List At} {a x : At} {k : Nat} (hlow : ∀ j y, j < k → xs[j]? = some y → zaf y a < 0) (hx : xs[k]? = some x) (h : zaf x a < 0) : ∀ j y, j < k + 1 → xs[j]? = some y → zaf y a < 0 := by
  intro j y hj hy; by_cases e : j = k
  · subst e; rw [hx] at hy; injection hy with hy; subst hy; exact h
  · exact hlow j y qaa hy
end Go.Proofs.YtogonjkklioaaaaGreatDoor

namespace Go.Proofs.YtogonjkklioaaaaGreatDoor
open Go.RowKit Go.Deep
abbrev Rf := ByteArray × Option Addr × Nat × Nat × List Tm
def rAt (r : Rf) : At := (r.1, r.2.2.2.2)
def rVal (r : Rf) : Value := .agg #[.string r.1, .slice r.2.1 r.2.2.1 r.2.2.2.1]
def RefE (w : World) (lo hi : Nat) (p : Addr) (r : Rf) : Prop :=
  w.cell? p = some (.string r.1) ∧ r.1.size ≤ maxLen ∧ w.cell? (zcw p 1) = some (.slice r.2.1 r.2.2.1 r.2.2.2.1) ∧ IsTerms w lo hi r.2.1 r.2.2.1 r.2.2.2.1 r.2.2.2.2
theorem RefE.stays : zqg RefE := by
  intro w w' lo hi lo' hi' p a ⟨h1, h2, h3, h4⟩ hp1 hp2 hk hl hh; exact ⟨(hk p hp1 hp2).trans h1, h2, (hk (zcw p 1) hp1 hp2).trans h3, h4.keep hk hl hh⟩
abbrev IsRefs := IsSeq 2 RefE
theorem IsRefs.atoms {w : World} {lo hi n c : Nat} {A : Option Addr} {rs : List Rf} (h : IsRefs w lo hi A n c rs) : IsAtoms w lo hi A n c (rs.map rAt) := by
  obtain ⟨h1, h2, h3, h4⟩ := h; refine ⟨by simpa using h1, h2, h3, fun hn => ?_⟩; obtain ⟨p, hp, hl, hh, he⟩ := h4 hn; refine ⟨p, hp, hl, hh, fun i x hx => ?_⟩; rw [List.getElem?_map] at hx; obtain ⟨r, hr, rfl⟩ := Option.map_eq_some_iff.1 hx; obtain ⟨e1, e2, e3, e4⟩ := he i r hr; exact ⟨e1, e2, _, _, _, e3, e4⟩
theorem zks {w : World} {lo hi n c : Nat} {A : Option Addr} {xs : List At} (h : IsAtoms w lo hi A n c xs) : ∃ rs, IsRefs w lo hi A n c rs ∧ rs.map rAt = xs := by
  obtain ⟨h1, h2, h3, h4⟩ := h; by_cases hn : 0 < n
  · obtain ⟨p, hp, hl, hh, he⟩ := h4 hn
    have a3 : ∀ i, i < n → ∃ r : Rf, RefE w lo hi (p.add (i * 2)) r ∧ xs[i]? = some (rAt r) := by
      intro i hi'; have hx : xs[i]? = some xs[i] := List.getElem?_eq_getElem qaa; obtain ⟨e1, e2, B, m, d, e3, e4⟩ := he i _ hx; exact ⟨(xs[i].1, B, m, d, xs[i].2), ⟨e1, e2, e3, e4⟩, hx⟩
    obtain ⟨f, hf⟩ := choose_lt a3; refine ⟨(List.range n).map f, ⟨by simp, h2, h3, fun _ => ⟨p, hp, hl, hh, fun i r hr => ?_⟩⟩, ?_⟩
    · have a2 : i < n := by
        have := (List.getElem?_eq_some_iff.1 hr).1; simpa using this
      have a4 : f i = r := by simpa [a2] using hr
      rw [← a4]; exact (hf i a2).1
    · apply List.ext_getElem?
      intro i; by_cases a2 : i < n
      · rw [(hf i a2).2]; simp [a2]
      · rw [List.getElem?_eq_none qah, List.getElem?_eq_none qaa]
  · have a5 : n = 0 := qaa
    subst a5; have : xs = [] := List.eq_nil_of_length_eq_zero h1; subst this; exact ⟨[], ⟨rfl, h2, h3, fun hn => absurd hn qaa⟩, rfl⟩
theorem zlr (p : Addr) (a b : Nat) : (p.add a).add b = p.add (a + b) := by
  unfold Addr.add; by_cases ha : a = 0
  · subst ha; simp
  · by_cases hb : b = 0
    · subst hb; simp [ha]
    · simp [ha, hb, Nat.add_assoc]
theorem IsRefs.first {w : World} {lo hi n c : Nat} {A : Option Addr} {r : Rf} {rs : List Rf} (h : IsRefs w lo hi A n c (r :: rs)) :
    ∃ p, A = some p ∧ lo ≤ p.block ∧ p.block < hi ∧ 0 < n ∧ RefE w lo hi p r ∧ IsRefs w lo hi (some (p.add 2)) (n - 1) (c - 1) rs := by
  obtain ⟨h1, h2, h3, h4⟩ := h; have hn : 0 < n := by rw [← h1]; simp
  obtain ⟨p, hp, hl, hh, he⟩ := h4 hn; have e0 := he 0 r rfl; have z : p.add (0 * 2) = p := by unfold Addr.add; simp
  rw [z] at e0; refine ⟨p, hp, hl, hh, hn, e0, by simp at h1; omega, by omega, by omega, fun _ => ⟨_, rfl, by rw [zah]; exact hl, by rw [zah]; exact hh, fun i x hx => ?_⟩⟩; rw [zlr, show 2 + i * 2 = (i + 1) * 2 by omega]; exact he (i + 1) x (by simpa using hx)
def zgu : List At → List At → Nat
  | _, [] => 0
  | [], _ :: _ => 1
  | a :: _, b :: _ => if zaf a b < 0 then 0 else if 0 < zaf a b then 1 else 2
def zba : List Rf → List Rf → List (Rf × Nat)
  | ra, [] => ra.map fun r => (r, 0)
  | [], b :: rb => (b :: rb).map fun r => (r, 1)
  | a :: ra, b :: rb =>
    if zaf (rAt a) (rAt b) < 0 then (a, 0) :: zba ra (b :: rb)
    else if 0 < zaf (rAt a) (rAt b) then (b, 1) :: zba (a :: ra) rb
    else (a, 2) :: zba ra rb
termination_by ra rb => ra.length + rb.length
theorem zjs (ra : List Rf) : zba ra [] = ra.map fun r => (r, 0) := by rw [zba]
theorem merge_left (rb : List Rf) : zba [] rb = rb.map fun r => (r, 1) := by
  cases rb with
  | nil => rw [zjs]; rfl
  | cons b rb => rw [zba]
theorem merge_first {a : Rf} {ra rb : List Rf} (h : zgu ((a :: ra).map rAt) (rb.map rAt) = 0) : zba (a :: ra) rb = (a, 0) :: zba ra rb := by
  cases rb with
  | nil => rw [zjs, zjs]; rfl
  | cons b rb =>
    have h' : (if zaf (rAt a) (rAt b) < 0 then 0 else if 0 < zaf (rAt a) (rAt b) then 1 else 2) = 0 := h; rw [zba]; by_cases hc : zaf (rAt a) (rAt b) < 0
    · rw [if_pos hc]
    · rw [if_neg hc] at h'; split at h' <;> simp at h'
theorem merge_second {b : Rf} {ra rb : List Rf} (h : zgu (ra.map rAt) ((b :: rb).map rAt) = 1) : zba ra (b :: rb) = (b, 1) :: zba ra rb := by
  cases ra with
  | nil => rw [merge_left, merge_left]; rfl
  | cons a ra =>
    have h' : (if zaf (rAt a) (rAt b) < 0 then 0 else if 0 < zaf (rAt a) (rAt b) then 1 else 2) = 1 := h; rw [zba]; by_cases hc : zaf (rAt a) (rAt b) < 0
    · rw [if_pos hc] at h'; simp at h'
    · rw [if_neg hc] at h' ⊢
      by_cases hc' : 0 < zaf (rAt a) (rAt b)
      · rw [if_pos hc']
      · rw [if_neg hc'] at h'; simp at h'
theorem merge_both {a b : Rf} {ra rb : List Rf} (h : zgu ((a :: ra).map rAt) ((b :: rb).map rAt) = 2) : zba (a :: ra) (b :: rb) = (a, 2) :: zba ra rb := by
  have h' : (if zaf (rAt a) (rAt b) < 0 then 0 else if 0 < zaf (rAt a) (rAt b) then 1 else 2) = 2 := h; rw [zba]; by_cases hc : zaf (rAt a) (rAt b) < 0
  · rw [if_pos hc] at h'; simp at h'
  · rw [if_neg hc] at h' ⊢
    by_cases hc' : 0 < zaf (rAt a) (rAt b)
    · rw [if_pos hc'] at h'; simp at h'
    · rw [if_neg hc']
end Go.Proofs.YtogonjkklioaaaaGreatDoor

namespace Go.Proofs.YtogonjkklioaaaaGreatDoor
open Go.RowKit
def Blk (W : World) (b : Nat) (t : TypeId) (cs : Array Value) : Prop := W.heap[b]? = some (.cells cs t (0, 0))
section
variable {W W' w1 : World} {b B n₀ size k m : Nat} {t e : TypeId} {cs : Array Value} {v v' : Value} {xs ys : List Value} {tmp : Obj}
theorem Blk.lt (h : Blk W b t cs) : b < W.heap.size := (Array.getElem?_eq_some_iff.1 h).1
theorem Blk.cell (h : Blk W b t cs) (i : Nat) : W.cell? ⟨b, i, none⟩ = cs[i]? := by
  unfold Blk at h; simp [World.cell?, h]
theorem Blk.frozen (h : Blk W b t cs) (i : Nat) : W.frozen? ⟨b, i, none⟩ = false := by
  unfold Blk at h; simp [World.frozen?, h]
theorem Blk.new (W : World) (t : TypeId) (cs : Array Value) : Blk (W.alloc (.cells cs t)) W.heap.size t cs := World.alloc_heap_new W _
theorem Blk.kept {row : Option Nat} (h : Blk W b t cs) (hg : W.grownBy W' row) (hne : some b ≠ row) : Blk W' b t cs := (hg.block b h.lt hne).trans h
theorem Blk.alloc (h : Blk W b t cs) (o : Obj) : Blk (W.alloc o) b t cs := h.kept (World.grownBy_alloc W o none) qag
theorem Blk.below (h : Blk W b t cs) (hb : Below W.heap.size W W') : Blk W' b t cs := (hb.block b h.lt).trans h
theorem Blk.far (h : Blk W b t cs) {p : Addr} (hp : b ≠ p.block) (u : Value) : Blk (W.setCell p u) b t cs := (hs_ W p u b hp).trans h
theorem Blk.own {β : Type} (b : Nat) (t : TypeId) (cs : Array Value) : Own (fun (_ : β) W => Blk W b t cs) := fun s X Y row hs hg hrow =>
  hs.kept hg (fun e' => by obtain ⟨o, ho, hc⟩ := hrow b e'.symm; rw [show X.heap[b]? = _ from hs] at ho; cases ho; cases hc)
theorem Blk.putObj (h : Blk W b t cs) {l : Nat} {o : Obj} (o' : Obj) (hl : W.heap[l]? = some o) (ho : o.isCells = false) : Blk (W.putObj l o') b t cs :=
  (Blk.own (β := Unit) b t cs).putObj o' (s := ()) h hl ho
theorem Blk.not_row (h : Blk W b t cs) (hte : t ≠ e) (hr : W.ownsRow n₀ e size v k xs) : some b ≠ v.ownBlock := by
  rcases hr.2 with ⟨rfl, _⟩ | ⟨g, cap, cur, rfl, _, hgb, _⟩
  · simp [Value.ownBlock]
  · intro e'
    obtain rfl : b = g := by simpa [Value.ownBlock] using e'
    have := (show W.heap[b]? = _ from h).symm.trans hgb; simp at this; exact hte this.2
theorem Blk.through (h : Blk W b t cs) (hte : t ≠ e) (hrow : W.ownsRow n₀ e size v k xs) (hgrow : (W.alloc tmp).grownBy w1 v.ownBlock) (hne : b ≠ B) (v' : Value) : Blk (w1.setCell ⟨B, 0, none⟩ v') b t cs :=
  ((h.alloc tmp).kept hgrow (h.not_row hte hrow)).far hne v'
end
theorem Blk.made (w : World) {b : Nat} (t : TypeId) (cs : Array Value) (h : b = w.heap.size) : Blk (w.alloc (.cells cs t)) b t cs := by subst h; exact Blk.new w t cs
theorem Blk.same {W W' : World} {b : Nat} {t : TypeId} {cs : Array Value} (h : Blk W b t cs) (h' : Blk W' b t cs) : W'.heap[b]? = W.heap[b]? := (show W'.heap[b]? = _ from h').trans (show W.heap[b]? = _ from h).symm
theorem Blk.set {W : World} {b : Nat} {t : TypeId} {cs : Array Value} (h : Blk W b t cs) (i : Nat) (u : Value) : Blk (W.setCell ⟨b, i, none⟩ u) b t (cs.setIfInBounds i u) := by
  unfold Blk at h ⊢; simp [World.setCell, Array.getElem?_modify, h]
def zai (rs : List Rf) : List Value := rs.flatMap fun r => [.string r.1, .slice r.2.1 r.2.2.1 r.2.2.2.1]
theorem zen : ∀ rs : List Rf, (zai rs).length = rs.length * 2
  | [] => rfl
  | r :: rs => by
    have := zen rs; unfold zai at *; simp only [List.flatMap_cons, List.length_append, List.length_cons, List.length_nil, this]; omega
theorem zcv (rs : List Rf) (r : Rf) : zai (rs ++ [r]) = zai rs ++ [.string r.1, .slice r.2.1 r.2.2.1 r.2.2.2.1] := by
  unfold zai; simp [List.flatMap_append]
theorem zjm : ∀ {rs : List Rf} {i : Nat} {r : Rf}, rs[i]? = some r → (zai rs)[i * 2]? = some (.string r.1) ∧ (zai rs)[i * 2 + 1]? = some (.slice r.2.1 r.2.2.1 r.2.2.2.1)
  | [], _, _, h => by simp at h
  | q :: rs, 0, r, h => by
    simp at h; subst h
    exact ⟨rfl, rfl⟩
  | q :: rs, i + 1, r, h => by
    have ih := zjm (rs := rs) (i := i) (r := r) qbk; have e : zai (q :: rs) = .string q.1 :: .slice q.2.1 q.2.2.1 q.2.2.2.1 :: zai rs := rfl; rw [e, show (i + 1) * 2 = i * 2 + 1 + 1 by omega]; exact ⟨by simpa using ih.1, by simpa using ih.2⟩
theorem rcells_one (rs : List Rf) : ∀ u ∈ zai rs, u.oneCell' = true := by
  intro u hu; unfold zai at hu; obtain ⟨r, _, hr⟩ := List.mem_flatMap.1 hu; simp at hr; rcases hr with rfl | rfl <;> rfl
def RefsIn (W : World) (lo hi : Nat) (rs : List Rf) : Prop := ∀ r ∈ rs, r.1.size ≤ maxLen ∧ IsTerms W lo hi r.2.1 r.2.2.1 r.2.2.2.1 r.2.2.2.2
theorem RefsIn.of {W : World} {lo hi n c : Nat} {A : Option Addr} {rs : List Rf} (h : IsRefs W lo hi A n c rs) : RefsIn W lo hi rs := by
  obtain ⟨h1, _, _, h4⟩ := h; intro r hr; obtain ⟨i, hi⟩ := List.getElem?_of_mem hr; have hn : 0 < n := by have := (List.getElem?_eq_some_iff.1 hi).1; omega
  obtain ⟨p, _, _, _, he⟩ := h4 hn; obtain ⟨_, e2, _, e4⟩ := he i r hi; exact ⟨e2, e4⟩
theorem RefsIn.keep {W W' : World} {lo hi lo' hi' : Nat} {rs : List Rf} (h : RefsIn W lo hi rs) (hk : ∀ q : Addr, lo ≤ q.block → q.block < hi → W'.cell? q = W.cell? q) (h1 : lo' ≤ lo) (h2 : hi ≤ hi') : RefsIn W' lo' hi' rs :=
  fun r hr => ⟨(h r hr).1, (h r hr).2.keep hk h1 h2⟩
theorem zej {W : World} {base lo hi : Nat} {v : Value} {rs : List Rf} {n : Nat} (h : W.ownsRow base 51 2 v n (zai rs)) (hn : n = rs.length) (hb : lo ≤ base) (hr : RefsIn W lo hi rs) (hh : hi ≤ W.heap.size) :
    ∃ A c, v = .slice A n c ∧ IsRefs W lo W.heap.size A n c rs := by
  subst hn; rcases h.2 with ⟨rfl, h0⟩ | ⟨g, cap, cur, rfl, hbg, hgb, hle, hcap, hsz, htk⟩
  · refine ⟨none, 0, by rw [h0], rfl, by omega, by unfold maxLen; omega, fun hp => absurd hp qaa⟩
  · have hlt := (Array.getElem?_eq_some_iff.1 hgb).1
    refine ⟨_, cap, rfl, rfl, hle, hcap, fun _ => ⟨_, rfl, by show lo ≤ g; omega, hlt, fun i r hi => ?_⟩⟩; obtain ⟨c1, c2⟩ := zjm hi; have hil := (List.getElem?_eq_some_iff.1 hi).1; have a0 : ∀ j, (⟨g, 0, none⟩ : Addr).add j = ⟨g, j, none⟩ := fun j => by unfold Addr.add; split <;> simp_all
    have a2 : ∀ j u, (zai rs)[j]? = some u → W.cell? ⟨g, j, none⟩ = some u := by
      intro j u hu; have hj := (List.getElem?_eq_some_iff.1 hu).1; rw [zen] at hj; rw [← htk, List.getElem?_take, if_pos qaa] at hu; simp [World.cell?, hgb]; simpa using hu
    rw [a0]; exact ⟨a2 _ _ c1, (hr r (List.mem_of_getElem? hi)).1, a2 _ _ c2, (hr r (List.mem_of_getElem? hi)).2.keep (fun _ _ _ => rfl) (nl _) hh⟩
theorem merge_len : ∀ ra rb : List Rf, (zba ra rb).length ≤ ra.length + rb.length := by
  intro ra rb
  fun_induction zba ra rb with
  | case1 ra => simp
  | case2 b rb => simp
  | case3 a ra b rb h ih => simp at *; omega
  | case4 a ra b rb h h' ih => simp at *; omega
  | case5 a ra b rb h h' ih => simp at *; omega
theorem merge_mem : ∀ ra rb : List Rf, ∀ x ∈ zba ra rb, x.1 ∈ ra ∨ x.1 ∈ rb := by
  intro ra rb
  fun_induction zba ra rb with
  | case1 ra => intro x hx; obtain ⟨r, hr, rfl⟩ := List.mem_map.1 hx; exact .inl hr
  | case2 b rb => intro x hx; obtain ⟨r, hr, rfl⟩ := List.mem_map.1 hx; exact .inr hr
  | case3 a ra b rb h ih => intro x hx; rcases List.mem_cons.1 hx with rfl | hx; · simp
                            rcases ih x hx with h | h <;> simp_all
  | case4 a ra b rb h h' ih => intro x hx; rcases List.mem_cons.1 hx with rfl | hx; · simp
                               rcases ih x hx with h | h <;> simp_all
  | case5 a ra b rb h h' ih => intro x hx; rcases List.mem_cons.1 hx with rfl | hx; · simp
                               rcases ih x hx with h | h <;> simp_all
def zgp (v : Nat) (l : List (Rf × Nat)) : List Rf := (l.filter fun x => x.2 == v).map (·.1)
theorem selR_yes {v : Nat} {l : List (Rf × Nat)} {x : Rf × Nat} (h : x.2 = v) : zgp v (l ++ [x]) = zgp v l ++ [x.1] := by
  unfold zgp; rw [List.filter_append]; simp [h]
theorem selR_no {v : Nat} {l : List (Rf × Nat)} {x : Rf × Nat} (h : ¬ x.2 = v) : zgp v (l ++ [x]) = zgp v l := by
  unfold zgp; rw [List.filter_append]; simp [h]
theorem selR_len (v : Nat) (l : List (Rf × Nat)) : (zgp v l).length ≤ l.length := by
  unfold zgp; rw [List.length_map]; exact List.length_filter_le _ _
theorem selR_mem {v : Nat} {l : List (Rf × Nat)} : ∀ r ∈ zgp v l, ∃ x ∈ l, x.1 = r := by
  intro r hr; unfold zgp at hr; obtain ⟨x, hx, rfl⟩ := List.mem_map.1 hr; exact ⟨x, (List.mem_filter.1 hx).1, rfl⟩
end Go.Proofs.YtogonjkklioaaaaGreatDoor
