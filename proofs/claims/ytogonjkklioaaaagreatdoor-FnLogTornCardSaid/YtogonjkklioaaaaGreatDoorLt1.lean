/-
  Texts of one claim, put together.
-/
import Derived.Test.YtogonjkklioaaaaGreatDoorZq
import Derived.Test.YtogonjkklioaaaaGreatDoorRows
import Derived.WalkKit
import Derived.WalkSpells
import Derived.WalkLawsBesides
import Derived.Lib.Hide
import Derived.ProofKit
import Derived.Deep.Slices
import Derived.Deep.SlicePairs
import Derived.Deep.OwnRows
set_option maxRecDepth 100000
set_option maxHeartbeats 8000000
namespace Go.Proofs.YtogonjkklioaaaaGreatDoor
open Go.RowKit
theorem zdf {a b : Bool} (h : a = b) : Ending.returned (.bool a) = .returned (.bool b) := by rw [h]
def zgj (c : UInt8) : Bool := !(((decide ((c.toNat : Int) < 97)) || decide (122 < (c.toNat : Int))) && (decide ((c.toNat : Int) < 48) || decide (57 < (c.toNat : Int))))
def zer (l : List UInt8) : Bool := l.all zgj
theorem take_snoc (s : ByteArray) (k : Nat) (h : k < s.size) : s.data.toList.take (k + 1) = s.data.toList.take k ++ [s[k]] := by
  rw [List.take_succ_eq_append_getElem qbi]; rfl
theorem small_snoc (l : List UInt8) (c : UInt8) : zer (l ++ [c]) = (zer l && zgj c) := by
  unfold zer; simp
theorem zoe {c : UInt8} (h : (97 ≤ (c.toNat : Int) ∧ (c.toNat : Int) ≤ 122) ∨ (48 ≤ (c.toNat : Int) ∧ (c.toNat : Int) ≤ 57)) : zgj c = true := by
  unfold zgj; simp; omega
theorem zlx {c : UInt8} (h : ((c.toNat : Int) < 97 ∨ 122 < (c.toNat : Int)) ∧ ((c.toNat : Int) < 48 ∨ 57 < (c.toNat : Int))) : zgj c = false := by
  unfold zgj; simp; omega
theorem small_no (s : ByteArray) (k : Nat) (h : k < s.size) (hb : zgj s[k] = false) : zer s.data.toList = false := by
  unfold zer; rw [List.all_eq_false]; refine ⟨s[k], ?_, by simp [hb]⟩; have : s[k] = s.data.toList[k]' qbi := rfl; rw [this]; exact List.getElem_mem _
theorem small_step (s : ByteArray) (k : Nat) (h : k < s.size) (hr : Hid (zer (s.data.toList.take k) = true)) (hb : zgj s[k] = true) : zer (s.data.toList.take (k + 1)) = true := by
  rw [take_snoc s k h, small_snoc, hr.out, hb]; rfl
theorem small_all (s : ByteArray) (k : Nat) (h : ¬ k < s.size) (hr : Hid (zer (s.data.toList.take k) = true)) : zer s.data.toList = true := by
  have h' := hr.out
  rwa [List.take_of_length_le qai] at h'
theorem zmh (s : ByteArray) (w : World) (hs : s.size ≤ maxLen) :
    Calls Tryz.prog 122 #[.string s] w fun e w' => e = .returned (.bool (zer s.data.toList)) ∧ w = w' := by
  unfold maxLen at hs; go_enter Tryz.func122, Tryz.ntmps122; go_wp2; go_loop [3, 4, 7] (fun _ _ i => ∃ k : Nat, k ≤ s.size ∧ i = .int .i64 k ∧ zer (s.data.toList.take k) = true) (fun _ _ i => s.size - (intOf i).toNat)
  case atStart => exact ⟨0, Nat.zero_le _, rfl, rfl⟩
  case round =>
    obtain ⟨k, hk, rfl, hrel⟩ := hrel; have HR := hid hrel; clear hrel; by_cases hlt : k < s.size
    · go_wp2
      all_goals first
        | (go_ret; exact ⟨zdf (small_no s k hlt (zlx qaa)).symm, rfl⟩)
        | (go_round
           case rel => exact ⟨k + 1, by omega, by go_num, small_step s k hlt HR (zoe qaa)⟩
           case measure => exact qms)
    · go_wp2
      go_ret; exact ⟨zdf (small_all s k hlt HR).symm, rfl⟩
theorem in_any (n lo hi : Int) (w : World) : Calls Tryz.prog 111 #[.int .i64 n, .int .i64 lo, .int .i64 hi] w fun e w' => e = .returned (.bool (decide (lo ≤ n) && decide (n ≤ hi))) ∧ w = w' := by
  go_enter Tryz.func111, Tryz.ntmps111; go_wp2
  all_goals (go_ret; exact ⟨zdf (by simp; try omega), rfl⟩)
def zdp (l : List UInt8) : Bool := zer l && (decide (1 ≤ (l.length : Int)) && decide ((l.length : Int) ≤ 8))
theorem letters_no (s : ByteArray) (k : Nat) (h : k < s.size) (hb : zgj s[k] = false) : zdp s.data.toList = false := by
  unfold zdp; rw [small_no s k h hb]; rfl
theorem letters_all (s : ByteArray) (k : Nat) (h : ¬ k < s.size) (hr : Hid (zer (s.data.toList.take k) = true)) : zdp s.data.toList = (decide ((1 : Int) ≤ (s.size : Int)) && decide ((s.size : Int) ≤ 8)) := by
  unfold zdp; rw [small_all s k h hr, Bool.true_and]; rfl
theorem zok (s : ByteArray) (w : World) (hs : s.size ≤ maxLen) :
    Calls Tryz.prog 159 #[.string s] w fun e w' => e = .returned (.bool (zdp s.data.toList)) ∧ w = w' := by
  unfold maxLen at hs; go_enter Tryz.func159, Tryz.ntmps159; go_wp2; go_loop [3] (fun i => ∃ k : Nat, k ≤ s.size ∧ i = .int .i64 k ∧ zer (s.data.toList.take k) = true) (fun i => s.size - (intOf i).toNat)
  case atStart => exact ⟨0, Nat.zero_le _, rfl, rfl⟩
  case round =>
    obtain ⟨k, hk, rfl, hrel⟩ := hrel; have HR := hid hrel; clear hrel; by_cases hlt : k < s.size
    · go_wp2
      all_goals first
        | (go_ret; exact ⟨zdf (letters_no s k hlt (zlx qaa)).symm, rfl⟩)
        | (go_round
           case rel => exact ⟨k + 1, by omega, by go_num, small_step s k hlt HR (zoe qaa)⟩
           case measure => exact qms)
    · go_wp2_with (go_at_call 111; refine (in_any _ _ _ _).mono ?_; rintro e w' ⟨rfl, rfl⟩)
      go_ret; exact ⟨zdf (letters_all s k hlt HR).symm, rfl⟩
theorem size_length (s : ByteArray) : (s.size : Int) = (s.data.toList.length : Int) := rfl
def zif (l : List UInt8) : Bool := zdp l && !(l == [110, 111, 116])
theorem zlv (s : ByteArray) (w : World) (hs : s.size ≤ maxLen) :
    Calls Tryz.prog 130 #[.string s] w fun e w' => e = .returned (.bool (zif s.data.toList)) ∧ w = w' := by
  go_enter Tryz.func130, Tryz.ntmps130; go_wp2_with (go_at_call 159; refine (zok _ _ hs).mono ?_; rintro e w' ⟨rfl, rfl⟩)
  all_goals (go_ret; exact ⟨zdf (by unfold zif; simp [*, ByteArray.toList_eq]), rfl⟩)
theorem zmb (s : ByteArray) (w : World) (hs : s.size ≤ maxLen) :
    Calls Tryz.prog 91 #[.string s] w fun e w' => e = .returned (.bool (zif s.data.toList)) ∧ w = w' := by
  have a2 := hs; unfold maxLen at a2; go_enter Tryz.func91, Tryz.ntmps91; go_wp2_with (go_at_call 122; refine (zmh _ _ hs).mono ?_; rintro e w' ⟨rfl, rfl⟩)
  all_goals (go_ret; exact ⟨zdf (by unfold zif zdp; rw [← size_length]; simp_all [ByteArray.toList_eq, Bool.and_comm]; try omega), rfl⟩)
abbrev Tm := Bool × ByteArray
abbrev At := ByteArray × List Tm
def TermsAt (w : World) (lo hi : Nat) (p : Addr) (ts : List Tm) : Prop :=
  lo ≤ p.block ∧ p.block < hi ∧ ∀ (i : Nat) (t : Tm), ts[i]? = some t → w.cell? (p.add (i * 2)) = some (.bool t.1) ∧ w.cell? (p.add (i * 2 + 1)) = some (.string t.2) ∧ t.2.size ≤ maxLen
def IsTerms (w : World) (lo hi : Nat) (A : Option Addr) (n c : Nat) (ts : List Tm) : Prop :=
  ts.length = n ∧ n ≤ c ∧ c ≤ maxLen ∧ (0 < n → ∃ p, A = some p ∧ TermsAt w lo hi p ts)
theorem zag (p : Addr) (k : Nat) : (p.add k).block = p.block := by
  unfold Addr.add; split <;> rfl
theorem TermsAt.keep {w w' : World} {lo hi lo' hi' : Nat} {p : Addr} {ts : List Tm} (h : TermsAt w lo hi p ts) (hk : ∀ q : Addr, lo ≤ q.block → q.block < hi → w'.cell? q = w.cell? q) (h1 : lo' ≤ lo) (h2 : hi ≤ hi') : TermsAt w' lo' hi' p ts := by
  obtain ⟨a, b, c⟩ := h; refine ⟨by omega, by omega, fun i t ht => ?_⟩; obtain ⟨c1, c2, c3⟩ := c i t ht; refine ⟨?_, ?_, c3⟩
  · rw [hk _ (by rw [zag]; exact a) (by rw [zag]; exact b)]; exact c1
  · rw [hk _ (by rw [zag]; exact a) (by rw [zag]; exact b)]; exact c2
theorem IsTerms.keep {w w' : World} {lo hi lo' hi' : Nat} {A : Option Addr} {n c : Nat} {ts : List Tm} (h : IsTerms w lo hi A n c ts) (hk : ∀ q : Addr, lo ≤ q.block → q.block < hi → w'.cell? q = w.cell? q) (h1 : lo' ≤ lo) (h2 : hi ≤ hi') : IsTerms w' lo' hi' A n c ts := by
  obtain ⟨a, b, d, e⟩ := h; refine ⟨a, b, d, fun hn => ?_⟩; obtain ⟨p, hp, ht⟩ := e hn; exact ⟨p, hp, ht.keep hk h1 h2⟩
theorem IsTerms.below {w w' : World} {lo hi B : Nat} {A : Option Addr} {n c : Nat} {ts : List Tm} (h : IsTerms w lo hi A n c ts) (hb : Below B w w') (hh : hi ≤ B) : IsTerms w' lo hi A n c ts :=
  h.keep (fun q _ hq => hb.cell qaa) (nl _) (nl _)
theorem IsTerms.up {w w' : World} {lo : Nat} {A : Option Addr} {n c : Nat} {ts : List Tm} (h : IsTerms w lo w.heap.size A n c ts) (hb : Below w.heap.size w w') : IsTerms w' lo w'.heap.size A n c ts :=
  h.keep (fun _ _ hq => hb.cell hq) (nl _) hb.size
theorem zht {W w1 : World} (hb : Below W.heap.size W w1) : (∀ b o, b < W.heap.size → w1.cell? ⟨b, o, none⟩ = W.cell? ⟨b, o, none⟩) ∧ (∀ b o, b < W.heap.size → w1.frozen? ⟨b, o, none⟩ = W.frozen? ⟨b, o, none⟩) :=
  ⟨fun b o h => hb.cell (p := ⟨b, o, none⟩) h, fun b o h => hb.frozen (p := ⟨b, o, none⟩) h⟩
theorem zac (w : World) (o : Obj) : Below w.heap.size w (w.alloc o) := (Below.refl _ _).alloc (nl _) _
theorem zbj (w : World) (o o' : Obj) : Below w.heap.size w ((w.alloc o).alloc o') := (zac w o).alloc qag _
theorem below3 (w : World) (o o' o'' : Obj) : Below w.heap.size w (((w.alloc o).alloc o').alloc o'') := (zbj w o o').alloc qai _
theorem zaa {w w1 w2 : World} (h : Below w.heap.size w w1) (h' : Below w1.heap.size w1 w2) : Below w.heap.size w w2 := h.trans (h'.mono h.size)
theorem zil {w : World} {q : Addr} {v : Value} (h : w.cell? q = some v) : ∀ o, (w.alloc o).cell? q = some v :=
  fun o => (World.cell?_alloc_lt w o q (World.block_lt_of_cell? _ _ h)).trans h
theorem zah {a b : World} (h : Below a.heap.size a b) (row : Option Nat) : a.grownBy b row := ⟨h.os, h.tape, h.output, h.size, fun i hi _ => h.block i hi⟩
theorem zjc {B : Nat} {w w' : World} (h : Below B w.drew w') : Below B w w' := ⟨h.os, h.tape, h.output, h.size, h.block⟩
theorem add_next (p : Addr) (k : Nat) : (⟨(p.add k).block, (p.add k).off + 1, none⟩ : Addr) = p.add (k + 1) := by
  unfold Addr.add; by_cases hk : k = 0
  · subst hk; simp
  · simp [hk, Nat.add_assoc]
theorem IsTerms.at_ {w : World} {lo hi : Nat} {A : Option Addr} {n c : Nat} {ts : List Tm} (h : IsTerms w lo hi A n c ts) {i : Nat} (hi' : i < n) :
    ∃ p t, A = some p ∧ lo ≤ p.block ∧ p.block < hi ∧ ts[i]? = some t ∧ w.cell? (p.add (i * 2)) = some (.bool t.1) ∧ w.cell? ⟨(p.add (i * 2)).block, (p.add (i * 2)).off + 1, none⟩ = some (.string t.2) ∧ t.2.size ≤ maxLen := by
  obtain ⟨hl, _, _, e⟩ := h; obtain ⟨p, hp, h1, h2, h3⟩ := e qaa; have hlt : i < ts.length := qaa; have hg : ts[i]? = some ts[i] := List.getElem?_eq_getElem hlt; obtain ⟨c1, c2, c3⟩ := h3 i _ hg; exact ⟨p, ts[i], hp, h1, h2, hg, c1, by rw [add_next]; exact c2, c3⟩
end Go.Proofs.YtogonjkklioaaaaGreatDoor
namespace Go.Proofs.YtogonjkklioaaaaGreatDoor
theorem zfc {α : Type} {P : α → Prop} {xs : List α} {k : Nat} {x : α} (h : xs[k]? = some x) (hr : ∀ q ∈ xs.take k, P q) (hx : P x) : ∀ q ∈ xs.take (k + 1), P q := by
  obtain ⟨h1, h2⟩ := List.getElem?_eq_some_iff.1 h; rw [List.take_succ_eq_append_getElem h1, h2]; intro q hq; rcases List.mem_append.1 hq with hq | hq
  · exact hr q hq
  · rw [List.mem_singleton.1 hq]; exact hx
def zdb {α : Type} (eq : α → α → Bool) : List α → List α → Bool
  | [], [] => true
  | a :: l, b :: m => eq a b && zdb eq l m
  | _, _ => false
section
variable {α : Type} {eq : α → α → Bool}
theorem listEq_len : ∀ {l m : List α}, l.length ≠ m.length → zdb eq l m = false
  | [], [], h => absurd rfl h
  | [], _ :: _, _ => rfl
  | _ :: _, [], _ => rfl
  | _ :: l, _ :: m, h => by
    have := listEq_len (l := l) (m := m) qbi; simp [zdb, this]
theorem listEq_end {l m : List α} {n k : Nat} (h : l.length = n) (h' : m.length = n) (hd : zdb eq (l.drop k) (m.drop k) = zdb eq l m) (hk : ¬ k < n) : true = zdb eq l m := by
  rw [← hd, List.drop_eq_nil_of_le qaa, List.drop_eq_nil_of_le qaa]; rfl
theorem zoj {l m : List α} {k : Nat} {t u : α} (h : l[k]? = some t) (h' : m[k]? = some u) : zdb eq (l.drop k) (m.drop k) = (eq t u && zdb eq (l.drop (k + 1)) (m.drop (k + 1))) := by
  obtain ⟨h1, h2⟩ := List.getElem?_eq_some_iff.1 h; obtain ⟨h3, h4⟩ := List.getElem?_eq_some_iff.1 h'; rw [List.drop_eq_getElem_cons h1, List.drop_eq_getElem_cons h3, h2, h4]; rfl
theorem listEq_no {l m : List α} {k : Nat} {t u : α} (h : l[k]? = some t) (h' : m[k]? = some u) (hd : zdb eq (l.drop k) (m.drop k) = zdb eq l m) (he : (!eq t u) = true) : false = zdb eq l m := by
  rw [← hd, zoj h h', show eq t u = false by simpa using he]; rfl
theorem listEq_on {l m : List α} {k : Nat} {t u : α} (h : l[k]? = some t) (h' : m[k]? = some u) (hd : zdb eq (l.drop k) (m.drop k) = zdb eq l m) (he : (!eq t u) = false) : zdb eq (l.drop (k + 1)) (m.drop (k + 1)) = zdb eq l m := by
  rw [← hd, zoj h h', show eq t u = true by simpa using he]; rfl
end
end Go.Proofs.YtogonjkklioaaaaGreatDoor
namespace Go.Proofs.YtogonjkklioaaaaGreatDoor
open Go.RowKit
def IsSeq {α : Type} (sz : Nat) (E : World → Nat → Nat → Addr → α → Prop) (w : World) (lo hi : Nat) (A : Option Addr) (n c : Nat) (xs : List α) : Prop :=
  xs.length = n ∧ n ≤ c ∧ c ≤ maxLen ∧ (0 < n → ∃ p, A = some p ∧ lo ≤ p.block ∧ p.block < hi ∧ ∀ (i : Nat) (x : α), xs[i]? = some x → E w lo hi (p.add (i * sz)) x)
def zpx {α : Type} (E : World → Nat → Nat → Addr → α → Prop) : Prop :=
  ∀ (w w' : World) (lo hi lo' hi' : Nat) (p : Addr) (x : α), E w lo hi p x → lo ≤ p.block → p.block < hi → (∀ q : Addr, lo ≤ q.block → q.block < hi → w'.cell? q = w.cell? q) → lo' ≤ lo → hi ≤ hi' → E w' lo' hi' p x
section
variable {α : Type} {sz : Nat} {E : World → Nat → Nat → Addr → α → Prop} {w w' : World} {lo hi lo' hi' n c : Nat} {A : Option Addr} {xs : List α}
theorem IsSeq.keep (h : IsSeq sz E w lo hi A n c xs) (hE : zpx E) (hk : ∀ q : Addr, lo ≤ q.block → q.block < hi → w'.cell? q = w.cell? q) (h1 : lo' ≤ lo) (h2 : hi ≤ hi') : IsSeq sz E w' lo' hi' A n c xs := by
  obtain ⟨a, b, d, e⟩ := h; refine ⟨a, b, d, fun hn => ?_⟩; obtain ⟨p, hp, a2, hhi, ht⟩ := e hn; exact ⟨p, hp, by omega, by omega, fun i x hx => hE w w' lo hi lo' hi' _ x (ht i x hx) (by rw [zag]; exact a2) (by rw [zag]; exact hhi) hk h1 h2⟩
theorem IsSeq.below {B : Nat} (h : IsSeq sz E w lo hi A n c xs) (hE : zpx E) (hb : Below B w w') (hh : hi ≤ B) : IsSeq sz E w' lo hi A n c xs :=
  h.keep hE (fun q _ hq => hb.cell qaa) (nl _) (nl _)
theorem IsSeq.up (h : IsSeq sz E w lo w.heap.size A n c xs) (hE : zpx E) (hb : Below w.heap.size w w') : IsSeq sz E w' lo w'.heap.size A n c xs :=
  h.keep hE (fun _ _ hq => hb.cell hq) (nl _) hb.size
theorem IsSeq.at_ (h : IsSeq sz E w lo hi A n c xs) {i : Nat} (hi' : i < n) : ∃ p x, A = some p ∧ lo ≤ p.block ∧ p.block < hi ∧ xs[i]? = some x ∧ E w lo hi (p.add (i * sz)) x := by
  obtain ⟨hl, _, _, e⟩ := h; obtain ⟨p, hp, h1, h2, h3⟩ := e qaa; have hg : xs[i]? = some xs[i] := List.getElem?_eq_getElem qaa; exact ⟨p, xs[i], hp, h1, h2, hg, h3 i _ hg⟩
theorem IsSeq.len (h : IsSeq sz E w lo hi A n c xs) : n ≤ maxLen := by
  have := h.2.1; have := h.2.2.1; omega
end
def zda (p : Addr) (k : Nat) : Addr := ⟨p.block, p.off + k, none⟩
def AtomE (w : World) (lo hi : Nat) (p : Addr) (a : At) : Prop :=
  w.cell? p = some (.string a.1) ∧ a.1.size ≤ maxLen ∧ ∃ A n c, w.cell? (zda p 1) = some (.slice A n c) ∧ IsTerms w lo hi A n c a.2
abbrev Pt := Bool × At
def PartE (w : World) (lo hi : Nat) (p : Addr) (q : Pt) : Prop :=
  w.cell? p = some (.bool q.1) ∧ w.cell? (zda p 1) = some (.string q.2.1) ∧ q.2.1.size ≤ maxLen ∧ ∃ A n c, w.cell? (zda p 2) = some (.slice A n c) ∧ IsTerms w lo hi A n c q.2.2
theorem AtomE.stays : zpx AtomE := by
  intro w w' lo hi lo' hi' p a ⟨h1, h2, A, n, c, h3, h4⟩ hp1 hp2 hk hl hh; exact ⟨(hk p hp1 hp2).trans h1, h2, A, n, c, (hk (zda p 1) hp1 hp2).trans h3, h4.keep hk hl hh⟩
theorem PartE.stays : zpx PartE := by
  intro w w' lo hi lo' hi' p a ⟨h1, h2, h0, A, n, c, h3, h4⟩ hp1 hp2 hk hl hh; exact ⟨(hk p hp1 hp2).trans h1, (hk (zda p 1) hp1 hp2).trans h2, h0, A, n, c, (hk (zda p 2) hp1 hp2).trans h3, h4.keep hk hl hh⟩
theorem PartE.out {w : World} {lo hi : Nat} {p : Addr} {q : Pt} (h : PartE w lo hi p q) : ∃ A n c, w.cell? p = some (.bool q.1) ∧ w.cell? ⟨p.block, p.off + 1, none⟩ = some (.string q.2.1) ∧ q.2.1.size ≤ maxLen ∧ w.cell? ⟨p.block, p.off + 2, none⟩ = some (.slice A n c) ∧ IsTerms w lo hi A n c q.2.2 := by
  obtain ⟨h1, h2, h3, A, n, c, h4, h5⟩ := h; exact ⟨A, n, c, h1, h2, h3, h4, h5⟩
theorem AtomE.out {w : World} {lo hi : Nat} {p : Addr} {a : At} (h : AtomE w lo hi p a) : ∃ A n c, w.cell? p = some (.string a.1) ∧ a.1.size ≤ maxLen ∧ w.cell? ⟨p.block, p.off + 1, none⟩ = some (.slice A n c) ∧ IsTerms w lo hi A n c a.2 := by
  obtain ⟨h1, h3, A, n, c, h4, h5⟩ := h; exact ⟨A, n, c, h1, h3, h4, h5⟩
abbrev IsAtoms := IsSeq 2 AtomE
abbrev zee := IsSeq 3 PartE
abbrev Rl := At × List Pt
def RuleE (w : World) (lo hi : Nat) (p : Addr) (r : Rl) : Prop :=
  w.cell? p = some (.string r.1.1) ∧ r.1.1.size ≤ maxLen ∧ (∃ A n c, w.cell? (zda p 1) = some (.slice A n c) ∧ IsTerms w lo hi A n c r.1.2) ∧ (∃ A n c, w.cell? (zda p 2) = some (.slice A n c) ∧ zee w lo hi A n c r.2)
theorem RuleE.stays : zpx RuleE := by
  intro w w' lo hi lo' hi' p a ⟨h1, h2, ⟨A, n, c, h3, h4⟩, ⟨B, m, d, h5, h6⟩⟩ hp1 hp2 hk hl hh; exact ⟨(hk p hp1 hp2).trans h1, h2, ⟨A, n, c, (hk (zda p 1) hp1 hp2).trans h3, h4.keep hk hl hh⟩, ⟨B, m, d, (hk (zda p 2) hp1 hp2).trans h5, h6.keep PartE.stays hk hl hh⟩⟩
abbrev zap := IsSeq 3 RuleE
abbrev Says (α : Type) := World → Nat → (Nat → Value) → α → Prop
section
variable {α : Type} {T sz : Nat} {V : Says α} {w w' : World} {g n k : Nat} {xs : List α}
theorem zab (w : World) (a : Addr) (v : Value) : (w.setCell a v).heap.size = w.heap.size := by simp [World.setCell]
end
end Go.Proofs.YtogonjkklioaaaaGreatDoor
namespace Go.Proofs.YtogonjkklioaaaaGreatDoor
open Go.RowKit
def Box (w : World) (b : Nat) (u v : Value) : Prop := b < w.heap.size ∧ w.cell? ⟨b, 0, none⟩ = some u ∧ w.cell? ⟨b, 1, none⟩ = some v
theorem Box.new (w : World) (u v : Value) (t : TypeId) : Box (w.alloc (.cells #[u, v] t)) w.heap.size u v := by
  refine ⟨by simp, ?_, ?_⟩ <;> simp [go_sem]
theorem Box.new2 (w : World) (o : Obj) (u v : Value) (t : TypeId) : Box ((w.alloc o).alloc (.cells #[u, v] t)) (w.heap.size + 1) u v := by
  have h := Box.new (w.alloc o) u v t
  rwa [show (w.alloc o).heap.size = w.heap.size + 1 by simp] at h
theorem Box.later {w w' : World} {b : Nat} {u v : Value} (h : Box w b u v) (hb : Below w.heap.size w w') : Box w' b u v :=
  ⟨Nat.lt_of_lt_of_le h.1 hb.size, (hb.cell (p := ⟨b, 0, none⟩) h.1).trans h.2.1, (hb.cell (p := ⟨b, 1, none⟩) h.1).trans h.2.2⟩
theorem Box.up {w : World} {b : Nat} {u v : Value} (h : Box w b u v) (o : Obj) : Box (w.alloc o) b u v := h.later (zac w o)
end Go.Proofs.YtogonjkklioaaaaGreatDoor
