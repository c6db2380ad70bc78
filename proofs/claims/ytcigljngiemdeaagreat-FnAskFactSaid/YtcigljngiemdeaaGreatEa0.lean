/-
  Texts of one claim, put together.
-/
import Derived.Test.YtcigljngiemdeaaGreatRows
import Derived.WalkKit
import Derived.WalkSpells
import Derived.WalkLawsBesides
import Derived.Lib.Hide
import Derived.ProofKit
import Derived.Deep.Slices
import Derived.Deep.SlicePairs
import Derived.Deep.OwnRows
namespace Go.Proofs.YtcigljngiemdeaaGreat
open Go.RowKit

theorem retB {a b : Bool} (h : a = b) : Ending.returned (.bool a) = .returned (.bool b) := by rw [h]

/-- A small letter or a figure. -/
def okByte (c : UInt8) : Bool := !(((decide ((c.toNat : Int) < 97)) || decide (122 < (c.toNat : Int))) && (decide ((c.toNat : Int) < 48) || decide (57 < (c.toNat : Int))))
def small (l : List UInt8) : Bool := l.all okByte

theorem take_snoc (s : ByteArray) (k : Nat) (h : k < s.size) : s.data.toList.take (k + 1) = s.data.toList.take k ++ [s[k]] := by
  rw [List.take_succ_eq_append_getElem (by simpa using h)]; rfl

theorem small_snoc (l : List UInt8) (c : UInt8) : small (l ++ [c]) = (small l && okByte c) := by
  unfold small; simp

theorem okByte_true {c : UInt8} (h : (97 ≤ (c.toNat : Int) ∧ (c.toNat : Int) ≤ 122) ∨ (48 ≤ (c.toNat : Int) ∧ (c.toNat : Int) ≤ 57)) : okByte c = true := by
  unfold okByte; simp; omega

theorem okByte_false {c : UInt8} (h : ((c.toNat : Int) < 97 ∨ 122 < (c.toNat : Int)) ∧ ((c.toNat : Int) < 48 ∨ 57 < (c.toNat : Int))) : okByte c = false := by
  unfold okByte; simp; omega

theorem small_no (s : ByteArray) (k : Nat) (h : k < s.size) (hb : okByte s[k] = false) : small s.data.toList = false := by
  unfold small
  rw [List.all_eq_false]
  refine ⟨s[k], ?_, by simp [hb]⟩
  have : s[k] = s.data.toList[k]'(by simpa using h) := rfl
  rw [this]; exact List.getElem_mem _

theorem small_step (s : ByteArray) (k : Nat) (h : k < s.size) (hr : Hid (small (s.data.toList.take k) = true)) (hb : okByte s[k] = true) : small (s.data.toList.take (k + 1)) = true := by
  rw [take_snoc s k h, small_snoc, hr.out, hb]; rfl

theorem small_all (s : ByteArray) (k : Nat) (h : ¬ k < s.size) (hr : Hid (small (s.data.toList.take k) = true)) : small s.data.toList = true := by
  have h' := hr.out
  rwa [List.take_of_length_le (by simp; omega)] at h'

set_option maxHeartbeats 400000 in
theorem allSmall_any (s : ByteArray) (w : World) (hs : s.size ≤ maxLen) :
    Calls Tryz.prog 191 #[.string s] w fun e w' => e = .returned (.bool (small s.data.toList)) ∧ w = w' := by
  unfold maxLen at hs
  go_enter Tryz.func191, Tryz.ntmps191
  go_wp2
  go_loop [3, 4, 7] (fun _ _ i => ∃ k : Nat, k ≤ s.size ∧ i = .int .i64 k ∧ small (s.data.toList.take k) = true) (fun _ _ i => s.size - (intOf i).toNat)
  case atStart => exact ⟨0, Nat.zero_le _, rfl, rfl⟩
  case round =>
    obtain ⟨k, hk, rfl, hrel⟩ := hrel
    have HR := Lib.hid hrel; clear hrel
    by_cases hlt : k < s.size
    · go_wp2
      all_goals first
        | (go_ret; exact ⟨retB (small_no s k hlt (okByte_false (by omega))).symm, rfl⟩)
        | (go_round
           case rel => exact ⟨k + 1, by omega, by go_num, small_step s k hlt HR (okByte_true (by omega))⟩
           case measure => simp [intOf]; omega)
    · go_wp2
      go_ret
      exact ⟨retB (small_all s k hlt HR).symm, rfl⟩

theorem in_any (n lo hi : Int) (w : World) : Calls Tryz.prog 70 #[.int .i64 n, .int .i64 lo, .int .i64 hi] w fun e w' => e = .returned (.bool (decide (lo ≤ n) && decide (n ≤ hi))) ∧ w = w' := by
  go_enter Tryz.func70, Tryz.ntmps70
  go_wp2
  all_goals (go_ret; exact ⟨retB (by simp; try omega), rfl⟩)

/-- What a name is, by its bytes: at most eight small letters and figures, at least one. -/
def letters (l : List UInt8) : Bool := small l && (decide (1 ≤ (l.length : Int)) && decide ((l.length : Int) ≤ 8))

theorem letters_no (s : ByteArray) (k : Nat) (h : k < s.size) (hb : okByte s[k] = false) : letters s.data.toList = false := by
  unfold letters; rw [small_no s k h hb]; rfl

theorem letters_all (s : ByteArray) (k : Nat) (h : ¬ k < s.size) (hr : Hid (small (s.data.toList.take k) = true)) : letters s.data.toList = (decide ((1 : Int) ≤ (s.size : Int)) && decide ((s.size : Int) ≤ 8)) := by
  unfold letters; rw [small_all s k h hr, Bool.true_and]; rfl

set_option maxHeartbeats 400000 in
theorem letters_any (s : ByteArray) (w : World) (hs : s.size ≤ maxLen) :
    Calls Tryz.prog 124 #[.string s] w fun e w' => e = .returned (.bool (letters s.data.toList)) ∧ w = w' := by
  unfold maxLen at hs
  go_enter Tryz.func124, Tryz.ntmps124
  go_wp2
  go_loop [3] (fun i => ∃ k : Nat, k ≤ s.size ∧ i = .int .i64 k ∧ small (s.data.toList.take k) = true) (fun i => s.size - (intOf i).toNat)
  case atStart => exact ⟨0, Nat.zero_le _, rfl, rfl⟩
  case round =>
    obtain ⟨k, hk, rfl, hrel⟩ := hrel
    have HR := Lib.hid hrel; clear hrel
    by_cases hlt : k < s.size
    · go_wp2
      all_goals first
        | (go_ret; exact ⟨retB (letters_no s k hlt (okByte_false (by omega))).symm, rfl⟩)
        | (go_round
           case rel => exact ⟨k + 1, by omega, by go_num, small_step s k hlt HR (okByte_true (by omega))⟩
           case measure => simp [intOf]; omega)
    · go_wp2_with (go_at_call 70; refine (in_any _ _ _ _).mono ?_; rintro e w' ⟨rfl, rfl⟩)
      go_ret
      exact ⟨retB (letters_all s k hlt HR).symm, rfl⟩

theorem size_length (s : ByteArray) : (s.size : Int) = (s.data.toList.length : Int) := rfl

/-- What a name is. -/
def nameB (l : List UInt8) : Bool := letters l && !(l == [110, 111, 116])

set_option maxHeartbeats 400000 in
theorem specName_any (s : ByteArray) (w : World) (hs : s.size ≤ maxLen) :
    Calls Tryz.prog 82 #[.string s] w fun e w' => e = .returned (.bool (nameB s.data.toList)) ∧ w = w' := by
  go_enter Tryz.func82, Tryz.ntmps82
  go_wp2_with (go_at_call 124; refine (letters_any _ _ hs).mono ?_; rintro e w' ⟨rfl, rfl⟩)
  all_goals (go_ret; exact ⟨retB (by unfold nameB; simp [*, ByteArray.toList_eq]), rfl⟩)

set_option maxHeartbeats 400000 in
theorem implName_any (s : ByteArray) (w : World) (hs : s.size ≤ maxLen) :
    Calls Tryz.prog 163 #[.string s] w fun e w' => e = .returned (.bool (nameB s.data.toList)) ∧ w = w' := by
  have hs' := hs
  unfold maxLen at hs'
  go_enter Tryz.func163, Tryz.ntmps163
  go_wp2_with (go_at_call 191; refine (allSmall_any _ _ hs).mono ?_; rintro e w' ⟨rfl, rfl⟩)
  all_goals (go_ret; exact ⟨retB (by unfold nameB letters; rw [← size_length]; simp_all [ByteArray.toList_eq, Bool.and_comm]; try omega), rfl⟩)


/-- A term: is it a variable; its name. -/
abbrev Tm := Bool × ByteArray
/-- An atom: its name, its terms. -/
abbrev At := ByteArray × List Tm

/-- From address p on lie just these terms, in a block from lo on and below hi. -/
def TermsAt (w : World) (lo hi : Nat) (p : Addr) (ts : List Tm) : Prop :=
  lo ≤ p.block ∧ p.block < hi ∧ ∀ (i : Nat) (t : Tm), ts[i]? = some t → w.cell? (p.add (i * 2)) = some (.bool t.1) ∧ w.cell? (p.add (i * 2 + 1)) = some (.string t.2) ∧ t.2.size ≤ maxLen

/-- A slice of n elements that reads as these terms. -/
def IsTerms (w : World) (lo hi : Nat) (A : Option Addr) (n c : Nat) (ts : List Tm) : Prop :=
  ts.length = n ∧ n ≤ c ∧ c ≤ maxLen ∧ (0 < n → ∃ p, A = some p ∧ TermsAt w lo hi p ts)

theorem block_add (p : Addr) (k : Nat) : (p.add k).block = p.block := by
  unfold Addr.add; split <;> rfl

theorem TermsAt.keep {w w' : World} {lo hi lo' hi' : Nat} {p : Addr} {ts : List Tm} (h : TermsAt w lo hi p ts) (hk : ∀ q : Addr, lo ≤ q.block → q.block < hi → w'.cell? q = w.cell? q) (h1 : lo' ≤ lo) (h2 : hi ≤ hi') : TermsAt w' lo' hi' p ts := by
  obtain ⟨a, b, c⟩ := h
  refine ⟨by omega, by omega, fun i t ht => ?_⟩
  obtain ⟨c1, c2, c3⟩ := c i t ht
  refine ⟨?_, ?_, c3⟩
  · rw [hk _ (by rw [block_add]; exact a) (by rw [block_add]; exact b)]; exact c1
  · rw [hk _ (by rw [block_add]; exact a) (by rw [block_add]; exact b)]; exact c2

theorem IsTerms.keep {w w' : World} {lo hi lo' hi' : Nat} {A : Option Addr} {n c : Nat} {ts : List Tm} (h : IsTerms w lo hi A n c ts) (hk : ∀ q : Addr, lo ≤ q.block → q.block < hi → w'.cell? q = w.cell? q) (h1 : lo' ≤ lo) (h2 : hi ≤ hi') : IsTerms w' lo' hi' A n c ts := by
  obtain ⟨a, b, d, e⟩ := h
  refine ⟨a, b, d, fun hn => ?_⟩
  obtain ⟨p, hp, ht⟩ := e hn
  exact ⟨p, hp, ht.keep hk h1 h2⟩

theorem IsTerms.below {w w' : World} {lo hi B : Nat} {A : Option Addr} {n c : Nat} {ts : List Tm} (h : IsTerms w lo hi A n c ts) (hb : Below B w w') (hh : hi ≤ B) : IsTerms w' lo hi A n c ts :=
  h.keep (fun q _ hq => hb.cell (by omega)) (Nat.le_refl _) (Nat.le_refl _)

/-- In a world that has only grown, with its end. -/
theorem IsTerms.up {w w' : World} {lo : Nat} {A : Option Addr} {n c : Nat} {ts : List Tm} (h : IsTerms w lo w.heap.size A n c ts) (hb : Below w.heap.size w w') : IsTerms w' lo w'.heap.size A n c ts :=
  h.keep (fun _ _ hq => hb.cell hq) (Nat.le_refl _) hb.size

/-- Old cells and old marks, as the walk asks for them. -/
theorem oldCells {W w1 : World} (hb : Below W.heap.size W w1) : (∀ b o, b < W.heap.size → w1.cell? ⟨b, o, none⟩ = W.cell? ⟨b, o, none⟩) ∧ (∀ b o, b < W.heap.size → w1.frozen? ⟨b, o, none⟩ = W.frozen? ⟨b, o, none⟩) :=
  ⟨fun b o h => hb.cell (p := ⟨b, o, none⟩) h, fun b o h => hb.frozen (p := ⟨b, o, none⟩) h⟩

theorem below1 (w : World) (o : Obj) : Below w.heap.size w (w.alloc o) := (Below.refl _ _).alloc (Nat.le_refl _) _
theorem below2 (w : World) (o o' : Obj) : Below w.heap.size w ((w.alloc o).alloc o') := (below1 w o).alloc (by simp) _
theorem below3 (w : World) (o o' o'' : Obj) : Below w.heap.size w (((w.alloc o).alloc o').alloc o'') := (below2 w o o').alloc (by simp; omega) _

/-- What was done behind something new. -/
theorem belowThen {w w1 w2 : World} (h : Below w.heap.size w w1) (h' : Below w1.heap.size w1 w2) : Below w.heap.size w w2 := h.trans (h'.mono h.size)

/-- An old cell behind a new block, whatever that is. -/
theorem cellUp {w : World} {q : Addr} {v : Value} (h : w.cell? q = some v) : ∀ o, (w.alloc o).cell? q = some v :=
  fun o => (World.cell?_alloc_lt w o q (World.block_lt_of_cell? _ _ h)).trans h

/-- What was done above a line grew. -/
theorem grownBelow {a b : World} (h : Below a.heap.size a b) (row : Option Nat) : a.grownBy b row := ⟨h.os, h.tape, h.output, h.size, fun i hi _ => h.block i hi⟩

/-- A draw turns nothing. -/
theorem undrew {B : Nat} {w w' : World} (h : Below B w.drew w') : Below B w w' := ⟨h.os, h.tape, h.output, h.size, h.block⟩

theorem add_next (p : Addr) (k : Nat) : (⟨(p.add k).block, (p.add k).off + 1, none⟩ : Addr) = p.add (k + 1) := by
  unfold Addr.add
  by_cases hk : k = 0
  · subst hk; simp
  · simp [hk, Nat.add_assoc]

/-- The i-th term's cells, spelled as the walk comes to them. -/
theorem IsTerms.at_ {w : World} {lo hi : Nat} {A : Option Addr} {n c : Nat} {ts : List Tm} (h : IsTerms w lo hi A n c ts) {i : Nat} (hi' : i < n) :
    ∃ p t, A = some p ∧ lo ≤ p.block ∧ p.block < hi ∧ ts[i]? = some t ∧ w.cell? (p.add (i * 2)) = some (.bool t.1) ∧ w.cell? ⟨(p.add (i * 2)).block, (p.add (i * 2)).off + 1, none⟩ = some (.string t.2) ∧ t.2.size ≤ maxLen := by
  obtain ⟨hl, _, _, e⟩ := h
  obtain ⟨p, hp, h1, h2, h3⟩ := e (by omega)
  have hlt : i < ts.length := by omega
  have hg : ts[i]? = some ts[i] := List.getElem?_eq_getElem hlt
  obtain ⟨c1, c2, c3⟩ := h3 i _ hg
  exact ⟨p, ts[i], hp, h1, h2, hg, c1, by rw [add_next]; exact c2, c3⟩

end Go.Proofs.YtcigljngiemdeaaGreat

namespace Go.Proofs.YtcigljngiemdeaaGreat

theorem all_snoc {α : Type} {P : α → Prop} {xs : List α} {k : Nat} {x : α} (h : xs[k]? = some x) (hr : ∀ q ∈ xs.take k, P q) (hx : P x) : ∀ q ∈ xs.take (k + 1), P q := by
  obtain ⟨h1, h2⟩ := List.getElem?_eq_some_iff.1 h
  rw [List.take_succ_eq_append_getElem h1, h2]
  intro q hq
  rcases List.mem_append.1 hq with hq | hq
  · exact hr q hq
  · rw [List.mem_singleton.1 hq]; exact hx

/-- Two lists, element by element. -/
def listEq {α : Type} (eq : α → α → Bool) : List α → List α → Bool
  | [], [] => true
  | a :: l, b :: m => eq a b && listEq eq l m
  | _, _ => false

section
variable {α : Type} {eq : α → α → Bool}

theorem listEq_refl (h : ∀ a, eq a a = true) : ∀ l : List α, listEq eq l l = true
  | [] => rfl
  | a :: l => by simp [listEq, h a, listEq_refl h l]

theorem listEq_len : ∀ {l m : List α}, l.length ≠ m.length → listEq eq l m = false
  | [], [], h => absurd rfl h
  | [], _ :: _, _ => rfl
  | _ :: _, [], _ => rfl
  | _ :: l, _ :: m, h => by
    have := listEq_len (l := l) (m := m) (by simpa using h)
    simp [listEq, this]

theorem listEq_end {l m : List α} {n k : Nat} (h : l.length = n) (h' : m.length = n) (hd : listEq eq (l.drop k) (m.drop k) = listEq eq l m) (hk : ¬ k < n) : true = listEq eq l m := by
  rw [← hd, List.drop_eq_nil_of_le (by omega), List.drop_eq_nil_of_le (by omega)]; rfl

theorem listEq_step {l m : List α} {k : Nat} {t u : α} (h : l[k]? = some t) (h' : m[k]? = some u) : listEq eq (l.drop k) (m.drop k) = (eq t u && listEq eq (l.drop (k + 1)) (m.drop (k + 1))) := by
  obtain ⟨h1, h2⟩ := List.getElem?_eq_some_iff.1 h
  obtain ⟨h3, h4⟩ := List.getElem?_eq_some_iff.1 h'
  rw [List.drop_eq_getElem_cons h1, List.drop_eq_getElem_cons h3, h2, h4]; rfl

theorem listEq_no {l m : List α} {k : Nat} {t u : α} (h : l[k]? = some t) (h' : m[k]? = some u) (hd : listEq eq (l.drop k) (m.drop k) = listEq eq l m) (he : (!eq t u) = true) : false = listEq eq l m := by
  rw [← hd, listEq_step h h', show eq t u = false by simpa using he]; rfl

theorem listEq_on {l m : List α} {k : Nat} {t u : α} (h : l[k]? = some t) (h' : m[k]? = some u) (hd : listEq eq (l.drop k) (m.drop k) = listEq eq l m) (he : (!eq t u) = false) : listEq eq (l.drop (k + 1)) (m.drop (k + 1)) = listEq eq l m := by
  rw [← hd, listEq_step h h', show eq t u = true by simpa using he]; rfl
end

end Go.Proofs.YtcigljngiemdeaaGreat

namespace Go.Proofs.YtcigljngiemdeaaGreat
open Go.RowKit

/-- A slice of n elements of size sz that read as these; each in blocks from lo on and below hi. -/
def IsSeq {α : Type} (sz : Nat) (E : World → Nat → Nat → Addr → α → Prop) (w : World) (lo hi : Nat) (A : Option Addr) (n c : Nat) (xs : List α) : Prop :=
  xs.length = n ∧ n ≤ c ∧ c ≤ maxLen ∧ (0 < n → ∃ p, A = some p ∧ lo ≤ p.block ∧ p.block < hi ∧ ∀ (i : Nat) (x : α), xs[i]? = some x → E w lo hi (p.add (i * sz)) x)

/-- Such a reading stays where no cell of these blocks turns. -/
def Stays {α : Type} (E : World → Nat → Nat → Addr → α → Prop) : Prop :=
  ∀ (w w' : World) (lo hi lo' hi' : Nat) (p : Addr) (x : α), E w lo hi p x → lo ≤ p.block → p.block < hi → (∀ q : Addr, lo ≤ q.block → q.block < hi → w'.cell? q = w.cell? q) → lo' ≤ lo → hi ≤ hi' → E w' lo' hi' p x

section
variable {α : Type} {sz : Nat} {E : World → Nat → Nat → Addr → α → Prop} {w w' : World} {lo hi lo' hi' n c : Nat} {A : Option Addr} {xs : List α}

theorem IsSeq.keep (h : IsSeq sz E w lo hi A n c xs) (hE : Stays E) (hk : ∀ q : Addr, lo ≤ q.block → q.block < hi → w'.cell? q = w.cell? q) (h1 : lo' ≤ lo) (h2 : hi ≤ hi') : IsSeq sz E w' lo' hi' A n c xs := by
  obtain ⟨a, b, d, e⟩ := h
  refine ⟨a, b, d, fun hn => ?_⟩
  obtain ⟨p, hp, hlo, hhi, ht⟩ := e hn
  exact ⟨p, hp, by omega, by omega, fun i x hx => hE w w' lo hi lo' hi' _ x (ht i x hx) (by rw [block_add]; exact hlo) (by rw [block_add]; exact hhi) hk h1 h2⟩

theorem IsSeq.below {B : Nat} (h : IsSeq sz E w lo hi A n c xs) (hE : Stays E) (hb : Below B w w') (hh : hi ≤ B) : IsSeq sz E w' lo hi A n c xs :=
  h.keep hE (fun q _ hq => hb.cell (by omega)) (Nat.le_refl _) (Nat.le_refl _)

theorem IsSeq.up (h : IsSeq sz E w lo w.heap.size A n c xs) (hE : Stays E) (hb : Below w.heap.size w w') : IsSeq sz E w' lo w'.heap.size A n c xs :=
  h.keep hE (fun _ _ hq => hb.cell hq) (Nat.le_refl _) hb.size

theorem IsSeq.at_ (h : IsSeq sz E w lo hi A n c xs) {i : Nat} (hi' : i < n) : ∃ p x, A = some p ∧ lo ≤ p.block ∧ p.block < hi ∧ xs[i]? = some x ∧ E w lo hi (p.add (i * sz)) x := by
  obtain ⟨hl, _, _, e⟩ := h
  obtain ⟨p, hp, h1, h2, h3⟩ := e (by omega)
  have hg : xs[i]? = some xs[i] := List.getElem?_eq_getElem (by omega)
  exact ⟨p, xs[i], hp, h1, h2, hg, h3 i _ hg⟩

theorem IsSeq.len (h : IsSeq sz E w lo hi A n c xs) : n ≤ maxLen := by
  have := h.2.1; have := h.2.2.1; omega
end

/-- The cell behind one, as the walk comes to it. -/
def nextTo (p : Addr) (k : Nat) : Addr := ⟨p.block, p.off + k, none⟩

theorem nextTo_block (p : Addr) (k : Nat) : (nextTo p k).block = p.block := rfl

/-- An atom in two cells. -/
def AtomE (w : World) (lo hi : Nat) (p : Addr) (a : At) : Prop :=
  w.cell? p = some (.string a.1) ∧ a.1.size ≤ maxLen ∧ ∃ A n c, w.cell? (nextTo p 1) = some (.slice A n c) ∧ IsTerms w lo hi A n c a.2

/-- A part: must it not be; its atom. -/
abbrev Pt := Bool × At

/-- A part in three cells. -/
def PartE (w : World) (lo hi : Nat) (p : Addr) (q : Pt) : Prop :=
  w.cell? p = some (.bool q.1) ∧ w.cell? (nextTo p 1) = some (.string q.2.1) ∧ q.2.1.size ≤ maxLen ∧ ∃ A n c, w.cell? (nextTo p 2) = some (.slice A n c) ∧ IsTerms w lo hi A n c q.2.2

theorem AtomE.stays : Stays AtomE := by
  intro w w' lo hi lo' hi' p a ⟨h1, h2, A, n, c, h3, h4⟩ hp1 hp2 hk hl hh
  exact ⟨(hk p hp1 hp2).trans h1, h2, A, n, c, (hk (nextTo p 1) hp1 hp2).trans h3, h4.keep hk hl hh⟩

theorem PartE.stays : Stays PartE := by
  intro w w' lo hi lo' hi' p a ⟨h1, h2, h0, A, n, c, h3, h4⟩ hp1 hp2 hk hl hh
  exact ⟨(hk p hp1 hp2).trans h1, (hk (nextTo p 1) hp1 hp2).trans h2, h0, A, n, c, (hk (nextTo p 2) hp1 hp2).trans h3, h4.keep hk hl hh⟩

theorem PartE.out {w : World} {lo hi : Nat} {p : Addr} {q : Pt} (h : PartE w lo hi p q) : ∃ A n c, w.cell? p = some (.bool q.1) ∧ w.cell? ⟨p.block, p.off + 1, none⟩ = some (.string q.2.1) ∧ q.2.1.size ≤ maxLen ∧ w.cell? ⟨p.block, p.off + 2, none⟩ = some (.slice A n c) ∧ IsTerms w lo hi A n c q.2.2 := by
  obtain ⟨h1, h2, h3, A, n, c, h4, h5⟩ := h
  exact ⟨A, n, c, h1, h2, h3, h4, h5⟩

theorem AtomE.out {w : World} {lo hi : Nat} {p : Addr} {a : At} (h : AtomE w lo hi p a) : ∃ A n c, w.cell? p = some (.string a.1) ∧ a.1.size ≤ maxLen ∧ w.cell? ⟨p.block, p.off + 1, none⟩ = some (.slice A n c) ∧ IsTerms w lo hi A n c a.2 := by
  obtain ⟨h1, h3, A, n, c, h4, h5⟩ := h
  exact ⟨A, n, c, h1, h3, h4, h5⟩

/-- A slice of atoms. -/
abbrev IsAtoms := IsSeq 2 AtomE
/-- A slice of parts. -/
abbrev IsParts := IsSeq 3 PartE

/-- A rule: its head, its body. -/
abbrev Rl := At × List Pt

/-- A rule in three cells. -/
def RuleE (w : World) (lo hi : Nat) (p : Addr) (r : Rl) : Prop :=
  w.cell? p = some (.string r.1.1) ∧ r.1.1.size ≤ maxLen ∧ (∃ A n c, w.cell? (nextTo p 1) = some (.slice A n c) ∧ IsTerms w lo hi A n c r.1.2) ∧ (∃ A n c, w.cell? (nextTo p 2) = some (.slice A n c) ∧ IsParts w lo hi A n c r.2)

theorem RuleE.stays : Stays RuleE := by
  intro w w' lo hi lo' hi' p a ⟨h1, h2, ⟨A, n, c, h3, h4⟩, ⟨B, m, d, h5, h6⟩⟩ hp1 hp2 hk hl hh
  exact ⟨(hk p hp1 hp2).trans h1, h2, ⟨A, n, c, (hk (nextTo p 1) hp1 hp2).trans h3, h4.keep hk hl hh⟩, ⟨B, m, d, (hk (nextTo p 2) hp1 hp2).trans h5, h6.keep PartE.stays hk hl hh⟩⟩

/-- A slice of rules. -/
abbrev IsRules := IsSeq 3 RuleE

/-- What the cells of one thing say, inner memory in blocks from lo on. -/
abbrev Says (α : Type) := World → Nat → (Nat → Value) → α → Prop

def SaysKeep {α : Type} (V : Says α) : Prop :=
  ∀ (w w' : World) (lo : Nat) (cs : Nat → Value) (x : α), V w lo cs x → (∀ q : Addr, lo ≤ q.block → q.block < w.heap.size → w'.cell? q = w.cell? q) → w.heap.size ≤ w'.heap.size → V w' lo cs x

def SaysCong {α : Type} (sz : Nat) (V : Says α) : Prop :=
  ∀ (w : World) (lo : Nat) (cs cs' : Nat → Value) (x : α), (∀ j, j < sz → cs j = cs' j) → V w lo cs x → V w lo cs' x

/-- A row of this call's own, filled as far as k: element i reads as it should, and what it leads to lies behind the row. -/
def Rowed {α : Type} (T sz : Nat) (V : Says α) (w : World) (g n k : Nat) (xs : List α) : Prop :=
  ∃ f, w.rowIs g T (n * sz) f ∧ ∀ i x, i < k → xs[i]? = some x → V w (g + 1) (fun j => f (i * sz + j)) x

section
variable {α : Type} {T sz : Nat} {V : Says α} {w w' : World} {g n k : Nat} {xs : List α}

theorem Rowed.start (w : World) (z : Array Value) : Rowed T sz V (w.alloc (.cells (madeCells z (n * sz)) T)) w.heap.size n 0 xs := by
  have h := World.rowIs_alloc w (madeCells z (n * sz)) T (fun i => (madeCells z (n * sz))[i]?.getD undef) (fun i hi => by simp [hi])
  rw [size_madeCells] at h
  exact ⟨_, h, fun i x hi => absurd hi (by omega)⟩

theorem Rowed.lt (h : Rowed T sz V w g n k xs) : g < w.heap.size := by
  obtain ⟨f, h, _⟩ := h; exact h.lt

theorem Rowed.below (h : Rowed T sz V w g n k xs) (hV : SaysKeep V) (hb : Below w.heap.size w w') : Rowed T sz V w' g n k xs := by
  obtain ⟨f, h, h2⟩ := h
  exact ⟨f, h.of_block (hb.block g h.lt), fun i x hi hx => hV w w' _ _ x (h2 i x hi hx) (fun q _ hq => hb.cell hq) hb.size⟩

theorem Rowed.cells (h : Rowed T sz V w g n k xs) {j : Nat} (hj : j < n * sz) : (∃ x, w.cell? ⟨g, j, none⟩ = some x) ∧ w.frozen? ⟨g, j, none⟩ = false := by
  obtain ⟨f, h, _⟩ := h
  exact ⟨⟨_, h.cell hj⟩, h.frozen _⟩

theorem size_setCell (w : World) (a : Addr) (v : Value) : (w.setCell a v).heap.size = w.heap.size := by simp [World.setCell]

/-- One thing more, its cells stored by whatever stores into the row alone. -/
theorem Rowed.step (h : Rowed T sz V w g n k xs) (hV : SaysKeep V) (hC : SaysCong sz V) (x : α) (hx : xs[k]? = some x) (upd : (Nat → Value) → Nat → Value) (cs : Nat → Value) (hn : V w (g + 1) cs x)
    (hr : ∀ f, w.rowIs g T (n * sz) f → w'.rowIs g T (n * sz) (upd f)) (hs : w.heap.size ≤ w'.heap.size) (hk : ∀ q : Addr, g + 1 ≤ q.block → q.block < w.heap.size → w'.cell? q = w.cell? q)
    (h0 : ∀ f i j, i < k → j < sz → upd f (i * sz + j) = f (i * sz + j)) (h1 : ∀ f j, j < sz → upd f (k * sz + j) = cs j) : Rowed T sz V w' g n (k + 1) xs := by
  obtain ⟨f, h, h2⟩ := h
  refine ⟨_, hr f h, fun i y hi hy => ?_⟩
  by_cases e : i = k
  · subst e
    rw [hx] at hy
    injection hy with hy
    subst hy
    exact hC _ _ cs _ _ (fun j hj => (h1 f j hj).symm) (hV w w' _ _ x hn hk hs)
  · exact hC _ _ _ _ _ (fun j hj => (h0 f i j (by omega) hj).symm) (hV w w' _ _ y (h2 i y (by omega) hy) hk hs)

theorem Rowed.step2 {V : Says α} (h : Rowed T 2 V w g n k xs) (hV : SaysKeep V) (hC : SaysCong 2 V) (x : α) (hx : xs[k]? = some x) (v0 v1 : Value) (hn : V w (g + 1) (fun j => if j = 1 then v1 else v0) x) :
    Rowed T 2 V ((w.setCell ⟨g, k * 2, none⟩ v0).setCell ⟨g, k * 2 + 1, none⟩ v1) g n (k + 1) xs := by
  refine h.step hV hC x hx (fun f j => if j = k * 2 + 1 then v1 else if j = k * 2 then v0 else f j) _ hn (fun f hf => (hf.set (k * 2) v0).set (k * 2 + 1) v1) (by rw [size_setCell, size_setCell]; exact Nat.le_refl _) (fun q hq _ => ?_) (fun f i j hi hj => ?_) (fun f j hj => ?_)
  · rw [World.cell?_setCell_other _ _ _ _ (fun e => by subst e; simp at hq; omega), World.cell?_setCell_other _ _ _ _ (fun e => by subst e; simp at hq; omega)]
  · have e1 : ¬ i * 2 + j = k * 2 + 1 := by omega
    have e0 : ¬ i * 2 + j = k * 2 := by omega
    simp only [e1, e0, if_false]
  · match j, hj with
    | 0, _ => simp
    | 1, _ => simp

theorem Rowed.step3 {V : Says α} (h : Rowed T 3 V w g n k xs) (hV : SaysKeep V) (hC : SaysCong 3 V) (x : α) (hx : xs[k]? = some x) (v0 v1 v2 : Value) (hn : V w (g + 1) (fun j => if j = 2 then v2 else if j = 1 then v1 else v0) x) :
    Rowed T 3 V (((w.setCell ⟨g, k * 3, none⟩ v0).setCell ⟨g, k * 3 + 1, none⟩ v1).setCell ⟨g, k * 3 + 2, none⟩ v2) g n (k + 1) xs := by
  refine h.step hV hC x hx (fun f j => if j = k * 3 + 2 then v2 else if j = k * 3 + 1 then v1 else if j = k * 3 then v0 else f j) _ hn (fun f hf => ((hf.set (k * 3) v0).set (k * 3 + 1) v1).set (k * 3 + 2) v2) (by rw [size_setCell, size_setCell, size_setCell]; exact Nat.le_refl _) (fun q hq _ => ?_) (fun f i j hi hj => ?_) (fun f j hj => ?_)
  · rw [World.cell?_setCell_other _ _ _ _ (fun e => by subst e; simp at hq; omega), World.cell?_setCell_other _ _ _ _ (fun e => by subst e; simp at hq; omega), World.cell?_setCell_other _ _ _ _ (fun e => by subst e; simp at hq; omega)]
  · have e2 : ¬ i * 3 + j = k * 3 + 2 := by omega
    have e1 : ¬ i * 3 + j = k * 3 + 1 := by omega
    have e0 : ¬ i * 3 + j = k * 3 := by omega
    simp only [e2, e1, e0, if_false]
  · match j, hj with
    | 0, _ => simp
    | 1, _ => simp
    | 2, _ => simp

/-- The row, whole: it reads as the list. -/
theorem Rowed.is_ {E : World → Nat → Nat → Addr → α → Prop} (h : Rowed T sz V w g n k xs) (hk : ¬ k < n) (hl : xs.length = n) (hn : n ≤ maxLen) {lo : Nat} (hlo : lo ≤ g)
    (hE : ∀ (p : Addr) (cs : Nat → Value) (x : α), V w (g + 1) cs x → (∀ j, j < sz → w.cell? (⟨p.block, p.off + j, none⟩) = some (cs j)) → p.spot = none → E w lo w.heap.size p x) : IsSeq sz E w lo w.heap.size (some ⟨g, 0, none⟩) n n xs := by
  obtain ⟨f, h, h2⟩ := h
  refine ⟨hl, Nat.le_refl _, hn, fun _ => ⟨_, rfl, hlo, h.lt, fun i x hx => ?_⟩⟩
  have hi : i < n := by rw [← hl]; exact (List.getElem?_eq_some_iff.1 hx).1
  have a0 : (⟨g, 0, none⟩ : Addr).add (i * sz) = ⟨g, i * sz, none⟩ := by unfold Addr.add; split <;> simp_all
  rw [a0]
  refine hE _ _ x (h2 i x (by omega) hx) (fun j hj => h.cell ?_) rfl
  have : (i + 1) * sz ≤ n * sz := Nat.mul_le_mul_right _ hi
  rw [Nat.add_mul, Nat.one_mul] at this
  show i * sz + j < n * sz
  omega
end

/-- What a row of atoms says. -/
def AtomV : Says At := fun w lo cs a => cs 0 = .string a.1 ∧ a.1.size ≤ maxLen ∧ ∃ A n c, cs 1 = .slice A n c ∧ IsTerms w lo w.heap.size A n c a.2

/-- What a row of parts says. -/
def PartV : Says Pt := fun w lo cs q => cs 0 = .bool q.1 ∧ cs 1 = .string q.2.1 ∧ q.2.1.size ≤ maxLen ∧ ∃ A n c, cs 2 = .slice A n c ∧ IsTerms w lo w.heap.size A n c q.2.2

theorem AtomV.keep : SaysKeep AtomV := fun _ _ _ _ _ ⟨h1, h2, A, n, c, h3, h4⟩ hk hs => ⟨h1, h2, A, n, c, h3, h4.keep hk (Nat.le_refl _) hs⟩
theorem PartV.keep : SaysKeep PartV := fun _ _ _ _ _ ⟨h1, h2, h0, A, n, c, h3, h4⟩ hk hs => ⟨h1, h2, h0, A, n, c, h3, h4.keep hk (Nat.le_refl _) hs⟩
theorem AtomV.cong : SaysCong 2 AtomV := fun _ _ _ _ _ hc ⟨h1, h2, A, n, c, h3, h4⟩ => ⟨(hc 0 (by omega)).symm.trans h1, h2, A, n, c, (hc 1 (by omega)).symm.trans h3, h4⟩
theorem PartV.cong : SaysCong 3 PartV := fun _ _ _ _ _ hc ⟨h1, h2, h0, A, n, c, h3, h4⟩ => ⟨(hc 0 (by omega)).symm.trans h1, (hc 1 (by omega)).symm.trans h2, h0, A, n, c, (hc 2 (by omega)).symm.trans h3, h4⟩

theorem AtomV.is_ {w : World} {g lo : Nat} (hlo : lo ≤ g) (p : Addr) (cs : Nat → Value) (a : At) (h : AtomV w (g + 1) cs a) (hc : ∀ j, j < 2 → w.cell? (⟨p.block, p.off + j, none⟩) = some (cs j)) (hp : p.spot = none) : AtomE w lo w.heap.size p a := by
  obtain ⟨h1, h2, A, n, c, h3, h4⟩ := h
  obtain ⟨b, o, s⟩ := p
  simp only at hp
  subst hp
  exact ⟨by rw [← h1]; exact hc 0 (by omega), h2, A, n, c, by rw [← h3]; exact hc 1 (by omega), h4.keep (fun _ _ _ => rfl) (by omega) (Nat.le_refl _)⟩

theorem PartV.is_ {w : World} {g lo : Nat} (hlo : lo ≤ g) (p : Addr) (cs : Nat → Value) (a : Pt) (h : PartV w (g + 1) cs a) (hc : ∀ j, j < 3 → w.cell? (⟨p.block, p.off + j, none⟩) = some (cs j)) (hp : p.spot = none) : PartE w lo w.heap.size p a := by
  obtain ⟨h1, h2, h0, A, n, c, h3, h4⟩ := h
  obtain ⟨b, o, s⟩ := p
  simp only at hp
  subst hp
  exact ⟨by rw [← h1]; exact hc 0 (by omega), by rw [← h2]; exact hc 1 (by omega), h0, A, n, c, by rw [← h3]; exact hc 2 (by omega), h4.keep (fun _ _ _ => rfl) (by omega) (Nat.le_refl _)⟩

end Go.Proofs.YtcigljngiemdeaaGreat

namespace Go.Proofs.YtcigljngiemdeaaGreat
open Go.RowKit

/-- The two cells of a box. -/
def Box (w : World) (b : Nat) (u v : Value) : Prop := b < w.heap.size ∧ w.cell? ⟨b, 0, none⟩ = some u ∧ w.cell? ⟨b, 1, none⟩ = some v

theorem Box.new (w : World) (u v : Value) (t : TypeId) : Box (w.alloc (.cells #[u, v] t)) w.heap.size u v := by
  refine ⟨by simp, ?_, ?_⟩ <;> simp [go_sem]

theorem Box.new2 (w : World) (o : Obj) (u v : Value) (t : TypeId) : Box ((w.alloc o).alloc (.cells #[u, v] t)) (w.heap.size + 1) u v := by
  have h := Box.new (w.alloc o) u v t
  rwa [show (w.alloc o).heap.size = w.heap.size + 1 by simp] at h

theorem Box.later {w w' : World} {b : Nat} {u v : Value} (h : Box w b u v) (hb : Below w.heap.size w w') : Box w' b u v :=
  ⟨Nat.lt_of_lt_of_le h.1 hb.size, (hb.cell (p := ⟨b, 0, none⟩) h.1).trans h.2.1, (hb.cell (p := ⟨b, 1, none⟩) h.1).trans h.2.2⟩

theorem Box.up {w : World} {b : Nat} {u v : Value} (h : Box w b u v) (o : Obj) : Box (w.alloc o) b u v := h.later (below1 w o)

end Go.Proofs.YtcigljngiemdeaaGreat

