/-
  A text that is drawn: cut, or with a sign put into it.
-/
import Derived.Test.YtahkkelahocplaaDoorDraw
import Derived.Test.YtahkkelahocplaaDoorAskGetAll
import Derived.Test.YtahkkelahocplaaDoorDrawUp
namespace Go.Proofs.YtahkkelahocplaaDoor
open Go.RowKit

/-- A text was drawn that is not much longer. -/
def CutPost (s : ByteArray) (b : Nat) (A : Option Addr) (n c p : Nat) (w : World) (e : Ending) (w' : World) : Prop :=
  ∃ (t : ByteArray) (p' : Nat), (e = .returned (.string t) ∧ t.size ≤ s.size + 16 ∧ p' ≤ p + 3) ∧ Rd w' b A n c p' ∧ w.grownBy w' (some b)

/-- A text is taken out of a list that was laid ahead of a draw. -/
theorem of_drew (q : ByteArray → Bool) (g b m : Nat) (A : Option Addr) (n c p : Nat) (w : World) (cs : Array Value) (t : TypeId) (hg : w.heap.size = g) (h : Rd (w.alloc (.cells cs t)) b A n c p) (hp : p ≤ 1099511627776) (hc : cs.size = m) (hm : 0 < m) (hm' : m ≤ 1048576) (hq : cs.toList.all (strOk q) = true) :
    Calls Tryd.prog 67 #[.pointer (some ⟨b, 0, none⟩), .slice (some ⟨g, 0, none⟩) m m] (w.alloc (.cells cs t)).drew (OfPost (fun s => q s = true) b A n c p (w.alloc (.cells cs t)).drew) := by
  subst hg; subst hc
  have hl := laid q w cs t hq
  exact of_any (fun s => q s = true) b w.heap.size cs.size A n c p _ h.drawn hp hm hm' (by
    intro e
    obtain ⟨s, hs, _⟩ := hl 0 hm
    have h0 := h.2.1
    rw [← e] at h0
    rw [h0] at hs
    injection hs with hs
    cases hs) hl

set_option maxRecDepth 100000 in
set_option maxHeartbeats 2000000 in
theorem cut_draw (s : ByteArray) (b : Nat) (A : Option Addr) (n c p : Nat) (w : World) (h : Rd w b A n c p) (hp : p ≤ 1000000) (hs : s.size ≤ 1000) :
    Calls Tryd.prog 65 #[.pointer (some ⟨b, 0, none⟩), .string s] w (CutPost s b A n c p w) := by
  have H := Lib.hid h; clear h
  have hbw := H.out.1
  have hsI : (s.size : Int) ≤ 1000 := by omega
  have hws : IntKind.i64.wrap ((s.size : Int) + 1) = ((s.size + 1 : Nat) : Int) := by rw [IntKind.wrap_i64]; omega
  go_enter Tryd.func65, Tryd.ntmps65
  go_wp2_with fail
  refine (pick_any b A n c p _ w H.out (by omega) (by omega)).mono ?_; rintro e w1 ⟨k, ⟨rfl, hk⟩, hr1, hg1⟩
  have hks : k ≤ s.size := by omega
  have R1 := Lib.hid hr1; have G1 := Lib.hid hg1
  clear hr1 hg1 hk
  go_wp2_with fail
  refine (pick_any b A n c _ _ w1 R1.out (by omega) (by omega)).mono ?_; rintro e w2 ⟨j, ⟨rfl, hj⟩, hr2, hg2⟩
  have R2 := Lib.hid hr2; have G2 := Lib.hid (grownTrans G1.out hg2)
  clear hr2 hg2 R1 G1
  have hz2 := G2.out.size
  have hkI : (k : Int) ≤ (s.size : Int) := by omega
  have hke : (s.extract 0 k).size = k := by rw [ByteArray.size_extract]; omega
  have hkr : (s.extract k s.size).size = s.size - k := by rw [ByteArray.size_extract]; omega
  by_cases j0 : j = 0
  · subst j0
    have R2' := Lib.hid (show Rd w2.drew b A n c (p + 1 + 1) from R2.out)
    go_wp2_with fail
    go_region_with ((go_at_call 67; refine (of_drew (fun s => decide (s.size ≤ 16)) w2.heap.size b 12 A n c _ w2 _ _ rfl (R2.out.below (below1 _ _)) (by omega) (by rfl) (by omega) (by omega) (by rfl)).mono ?_); rintro e w5 ⟨t, ⟨rfl, ht⟩, hr5, hg5⟩; have ht16 : t.size ≤ 16 := of_decide_eq_true ht; have hc1 : (s.extract 0 k ++ t).size = k + t.size := by rw [ByteArray.size_append, hke])
    have hg5' := ungrown hg5
    have G5 := Lib.hid (grownTrans G2.out (grownTrans (grownBelow (below1 w2 _) (some b)) hg5'))
    have R5 := Lib.hid hr5
    clear hg5 hg5' hr5
    go_wp2
    go_ret
    exact ⟨_, _, ⟨rfl, by rw [ByteArray.size_append, hc1, hkr]; omega, by omega⟩, R5.out, G5.out⟩
  · have j0I : ((j : Int) == 0) = false := by rw [beq_eq_false_iff_ne]; omega
    by_cases j1 : j = 1
    · subst j1
      go_wp2_with fail
      go_ret
      exact ⟨_, _, ⟨rfl, by omega, by omega⟩, R2.out, G2.out⟩
    · have j1I : ((j : Int) == 1) = false := by rw [beq_eq_false_iff_ne]; omega
      go_wp2_with fail
      go_ret
      exact ⟨s, _, ⟨rfl, by omega, by omega⟩, R2.out, G2.out⟩

/-- An atom was drawn. -/
def DrawnAtom (w : World) (e : Ending) (w' : World) : Prop :=
  ∃ (nm : ByteArray) (A : Option Addr) (k d : Nat) (ts : List Tm), (e = .returned (.agg #[.string nm, .slice A k d]) ∧ nm.size ≤ 16 ∧ k ≤ 8) ∧ IsTerms w' 0 w'.heap.size A k d ts ∧ (∀ t ∈ ts, t.2.size ≤ 16) ∧ Below w.heap.size w w'

set_option maxRecDepth 100000 in
set_option maxHeartbeats 2000000 in
theorem drawAtomPut_any (A : Option Addr) (n c : Nat) (w : World) (h : IsBytes w w.heap.size A n c) :
    Calls Tryd.prog 15 #[.slice A n c] w (DrawnAtom w) := by
  go_enter Tryd.func15, Tryd.ntmps15
  go_wp2_with fail
  have hX0 := Bx.new w (.string ⟨#[]⟩) (.slice none 0 0) 24
  refine (open_any A n c _ (h.up (below1 w _))).mono ?_; rintro e w1 ⟨b, n', ⟨rfl, hb⟩, hr, hb1⟩
  rw [size_alloc_eq] at hb
  have X1 := Lib.hid (hX0.later hb1)
  have HB1 := Lib.hid (belowThen (below1 w _) hb1)
  have R1 := Lib.hid hr
  clear hX0 hb1 hr
  go_wp2_with fail
  refine (any_atom_draw b A n' c 0 w1 R1.out (by omega)).mono ?_; rintro e w2 ⟨nm, A', k, d, ts, p', ⟨rfl, hnm, hk, hp'⟩, hlen, hs', hown, hrd, hg2⟩
  have hbw1 : b < w1.heap.size := R1.out.1
  have X2 := X1.out.grown hg2 (fun e => by injection e with e; omega)
  obtain ⟨A5, d5, hv, hT5⟩ := owned_terms hown hlen hs'
  injection hv with hv1 hv2 hv3
  subst hv1; subst hv3
  have HT := Lib.hid hT5
  have HB2 := Lib.hid (HB1.out.grown hg2 HB1.out.size (fun k hk => by injection hk with hk; omega))
  have hz1 := HB1.out.size; have hz2 := hg2.size
  have hxw := X1.out.1
  obtain ⟨x1, x2, x3, x4, x5⟩ := X2
  clear hown hg2 hT5
  go_wp2
  refine bodyPost_ret (v := .agg #[.string nm, .slice A' k d]) (by simp [results, Tryd.results15, go_sem, x2, x3]) rfl ⟨nm, A', k, d, ts, ⟨rfl, hnm.1, hk⟩, ?_, hs', (HB2.out.setCell (by simp) _).setCell (by simp) _⟩
  exact HT.out.keep (fun q h1 _ => World.cell?_of_block ((Below.heap_setCell _ _ _ _ (by simp; omega)).trans (Below.heap_setCell _ _ _ _ (by simp; omega)))) (Nat.zero_le _) (by simp)

/-- A text was drawn. -/
def DrawnText (m : Nat) (w : World) (e : Ending) (w' : World) : Prop := ∃ t : ByteArray, (e = .returned (.string t) ∧ t.size ≤ m) ∧ Below w.heap.size w w'

theorem drawn_text_len {nm : ByteArray} {ts : List Tm} {k : Nat} (hn : nm.size ≤ 16) (hk : ts.length = k) (hk8 : k ≤ 8) (hs : ∀ t ∈ ts, t.2.size ≤ 16) : (textL (nm, ts)).length ≤ 200 := by
  have tail16 : ∀ xs : List (List UInt8), (∀ x ∈ xs, x.length ≤ 16) → (Lib.joinTail [44] xs).length ≤ 17 * xs.length := by
    intro xs
    induction xs with
    | nil => intro _; simp [Lib.joinTail]
    | cons x r ih =>
      intro h
      have h1 := h x (by simp)
      have h2 := ih (fun y hy => h y (by simp [hy]))
      rw [joinTail_cons]
      simp only [List.length_append, List.length_cons, List.length_nil]; omega
  have hj : (Lib.join (tmNames ts) [44]).length ≤ 17 * (tmNames ts).length := by
    have hx : ∀ x ∈ tmNames ts, x.length ≤ 16 := fun x hx => by
      unfold tmNames at hx
      obtain ⟨t, ht, rfl⟩ := List.mem_map.1 hx
      have := hs t ht
      simpa using this
    cases hxs : tmNames ts with
    | nil => simp [Lib.join_nil]
    | cons x r =>
      rw [hxs] at hx
      have h1 := hx x (by simp)
      have h2 := tail16 r (fun y hy => hx y (by simp [hy]))
      rw [Lib.join_cons]
      simp only [List.length_append, List.length_cons]; omega
  have hl : (tmNames ts).length = k := by unfold tmNames; rw [List.length_map, hk]
  have hnl : nm.data.toList.length = nm.size := by simp
  unfold textL
  simp only [List.length_append, List.length_cons, List.length_nil]
  omega

set_option maxRecDepth 100000 in
set_option maxHeartbeats 2000000 in
theorem drawAtomGet_any (A : Option Addr) (n c : Nat) (w : World) (h : IsBytes w w.heap.size A n c) :
    Calls Tryd.prog 21 #[.slice A n c] w (DrawnText 216 w) := by
  go_enter Tryd.func21, Tryd.ntmps21
  go_wp2_with fail
  refine (open_any A n c _ h).mono ?_; rintro e w1 ⟨b, n', ⟨rfl, hb⟩, hr, hb1⟩
  have HB1 := Lib.hid hb1
  have R1 := Lib.hid hr
  have hbw1 : b < w1.heap.size := R1.out.1
  clear hb1 hr
  go_wp2_with fail
  refine (of_laidAt nmB w1.heap.size b 4 A n' c 0 w1 _ _ rfl R1.out (by omega) (by rfl) (by omega) (by omega) (by rfl)).mono ?_; rintro e w2 ⟨s, ⟨rfl, hs⟩, hr2, hg2⟩
  have G2 := Lib.hid (grownTrans (grownBelow (below1 w1 _) (some b)) hg2)
  have R2 := Lib.hid hr2
  clear hr2 hg2
  go_wp2_with fail
  refine (atom_draw b A n' c _ s true w2 R2.out (by omega) (nm_of hs)).mono ?_; rintro e w3 ⟨nm, A', k, d, ts, p', ⟨rfl, hnm, hk, hp'⟩, hlen, hs', hown, hrd, hg3⟩
  obtain ⟨A5, d5, hv, hT5⟩ := owned_terms hown hlen hs'
  injection hv with hv1 hv2 hv3
  subst hv1; subst hv3
  have HT := Lib.hid (hT5.keep (w' := w3) (lo' := 0) (hi' := w3.heap.size) (fun _ _ _ => rfl) (Nat.zero_le _) (Nat.le_refl _))
  have hlt := drawn_text_len hnm.1 hlen (by omega) hs'
  have G3 := Lib.hid (grownTrans G2.out hg3)
  have R3 := Lib.hid hrd
  clear hown hg3 hT5 hrd
  go_wp2_with fail
  refine (l1Put_any nm A' k d ts w3 HT.out (by omega)).mono ?_; rintro e w4 ⟨rfl, hb4⟩
  have G4 := Lib.hid (grownTrans G3.out (grownBelow hb4 (some b)))
  have R4 := Lib.hid (R3.out.below hb4)
  clear hb4
  go_wp2_with fail
  refine (cut_draw _ b A n' c _ w4 R4.out (by omega) (by rw [ByteArray.size]; simp; omega)).mono ?_; rintro e w5 ⟨t, p5, ⟨rfl, ht, _⟩, hr5, hg5⟩
  have G5 := Lib.hid (grownTrans G4.out hg5)
  clear hr5 hg5
  go_wp2
  go_ret
  refine ⟨t, ⟨rfl, ?_⟩, HB1.out.grown G5.out HB1.out.size (fun k hk => by injection hk with hk; omega)⟩
  have e : (⟨(textL (nm, ts)).toArray⟩ : ByteArray).size = (textL (nm, ts)).length := by simp [ByteArray.size]
  rw [e] at ht
  omega

end Go.Proofs.YtahkkelahocplaaDoor
