/-
  What the laws of changes call, in one form.
-/
import Derived.Test.YtbhkihnekendbaaLawKit
import Derived.Test.YtbhkihnekendbaaOfImpl
import Derived.Test.YtbhkihnekendbaaDoImpl
namespace Go.Proofs.Ytbhkihnekendbaa
open Go.RowKit

/-- Two lists were told, in a world that keeps what was in w. -/
def PairFrom (w : World) (P Q : List At) (e : Ending) (W' : World) : Prop := ∃ (A : Option Addr) (c : Nat) (B : Option Addr) (d : Nat), e = .returned (.agg #[.slice A P.length c, .slice B Q.length d]) ∧
  IsAtoms W' 0 W'.heap.size A P.length c P ∧ IsAtoms W' 0 W'.heap.size B Q.length d Q ∧ Below w.heap.size w W'

/-- A list was told, in a world that keeps what was in w. -/
def ListFrom (w : World) (P : List At) (e : Ending) (W' : World) : Prop := ∃ (A : Option Addr) (c : Nat), e = .returned (.slice A P.length c) ∧ IsAtoms W' 0 W'.heap.size A P.length c P ∧ Below w.heap.size w W'

theorem OwnRefs.told {w : World} {lo hi n c : Nat} {A : Option Addr} {rs : List Rf} {xs : List At} (h : OwnRefs w lo hi A n c rs) (hm : rs.map rAt = xs) (hh : hi ≤ w.heap.size) : IsAtoms w 0 w.heap.size A n c xs := by
  have hI : IsRefs w 0 w.heap.size A n c rs := h.refs.keep (w' := w) RefE.stays (fun _ _ _ => rfl) (Nat.zero_le _) hh
  have := hI.atoms
  rwa [hm] at this

theorem OwnKPost.pair {w W W' : World} {p : List At × List At} {P Q : List At} {e : Ending} (hW : Below w.heap.size w W) (hp : p = (P, Q)) (h : OwnKPost p W e W') : PairFrom w P Q e W' := by
  subst hp
  obtain ⟨A, c, ra, B, d, rb, mid, rfl, ⟨h1, h2⟩, ⟨h3, h4⟩, ⟨h5, h6⟩, h7⟩ := h
  exact ⟨A, c, B, d, rfl, h1.told h2 h6, h3.told h4 (Nat.le_refl _), belowThen hW h7⟩

theorem CopySPost.told {w W W' : World} {xs P : List At} {e : Ending} (hW : Below w.heap.size w W) (hp : xs = P) (h : CopySPost xs W e W') : ListFrom w P e W' := by
  subst hp
  obtain ⟨A, c, rs, rfl, h1, h2, h3⟩ := h
  exact ⟨A, c, rfl, h1.told h2 (Nat.le_refl _), belowThen hW h3⟩

section
variable {w W : World} {A B D : Option Addr} {n c m d m' d' : Nat} {xs ys cs gs P Q : List At}
theorem ofI_from (h : IsAtoms w 0 w.heap.size A n c xs) (h' : IsAtoms w 0 w.heap.size B m d ys) (hp : ofL xs ys = (P, Q)) (hW : Below w.heap.size w W) : Calls Try.prog 26 #[.slice A n c, .slice B m d] W (PairFrom w P Q) :=
  (implChangeOf_any A n c xs B m d ys W (h.up AtomE.stays hW) (h'.up AtomE.stays hW)).mono fun _ _ x => x.pair hW hp
theorem ofS_from (h : IsAtoms w 0 w.heap.size A n c xs) (h' : IsAtoms w 0 w.heap.size B m d ys) (hp : ofL xs ys = (P, Q)) (hW : Below w.heap.size w W) : Calls Try.prog 28 #[.slice A n c, .slice B m d] W (PairFrom w P Q) :=
  (specChangeOf_any A n c xs B m d ys W (h.up AtomE.stays hW) (h'.up AtomE.stays hW)).mono fun _ _ x => x.pair hW hp
theorem doI_from (h : IsAtoms w 0 w.heap.size A n c xs) (h1 : IsAtoms w 0 w.heap.size B m d cs) (h2 : IsAtoms w 0 w.heap.size D m' d' gs) (hp : (doneL xs cs gs).1 = P) (hW : Below w.heap.size w W) : Calls Try.prog 31 #[.slice A n c, .agg #[.slice B m d, .slice D m' d']] W (ListFrom w P) :=
  (implChangeDo_any A n c xs B m d cs D m' d' gs W (h.up AtomE.stays hW) (h1.up AtomE.stays hW) (h2.up AtomE.stays hW)).mono fun _ _ x => x.told hW hp
theorem doS_from (h : IsAtoms w 0 w.heap.size A n c xs) (h1 : IsAtoms w 0 w.heap.size B m d cs) (h2 : IsAtoms w 0 w.heap.size D m' d' gs) (hp : (doneL xs cs gs).1 = P) (hW : Below w.heap.size w W) : Calls Try.prog 33 #[.slice A n c, .agg #[.slice B m d, .slice D m' d']] W (ListFrom w P) :=
  (specChangeDo_any A n c xs B m d cs D m' d' gs W (h.up AtomE.stays hW) (h1.up AtomE.stays hW) (h2.up AtomE.stays hW)).mono fun _ _ x => x.told hW hp
theorem chI_tells {b : Bool} (h : IsAtoms w 0 w.heap.size A n c cs) (h' : IsAtoms w 0 w.heap.size B m d gs) (hp : changeB cs gs = b) (hW : Below w.heap.size w W) : Calls Try.prog 30 #[.agg #[.slice A n c, .slice B m d]] W (Tells w b) :=
  (implChangeOk_any A B n c m d cs gs W (h.up AtomE.stays hW) (h'.up AtomE.stays hW)).mono fun _ _ x => tells hW hp x
theorem chS_tells {b : Bool} (h : IsAtoms w 0 w.heap.size A n c cs) (h' : IsAtoms w 0 w.heap.size B m d gs) (hp : changeB cs gs = b) (hW : Below w.heap.size w W) : Calls Try.prog 34 #[.agg #[.slice A n c, .slice B m d]] W (Tells w b) :=
  (specChangeOk_any A B n c m d cs gs W (h.up AtomE.stays hW) (h'.up AtomE.stays hW)).mono fun _ _ x => tells hW hp x
theorem hasE_tells {b : Bool} {nm : ByteArray} {ts : List Tm} (h : IsAtoms w 0 w.heap.size A n c xs) (h' : IsTerms w 0 w.heap.size B m d ts) (hp : hasE xs (nm, ts) = b) (hW : Below w.heap.size w W) : Calls Try.prog 29 #[.slice A n c, .agg #[.string nm, .slice B m d]] W (Tells w b) :=
  (fsHas_any A n c xs nm B m d ts W (h.up AtomE.stays hW) (h'.up hW)).mono fun _ _ x => tells hW hp x
/-- A list that was told just now is the same as one that was there. -/
theorem sameNow_tells (h : IsAtoms w 0 w.heap.size A n c xs) (hz : IsAtoms W 0 W.heap.size B m d xs) (hW : Below w.heap.size w W) :
    Calls Try.prog 17 #[.slice A n c, .slice B m d] W (Tells w true) :=
  (fsSame_any A B n c m d xs xs W (h.up AtomE.stays hW) hz).mono fun _ _ x => tells hW (listEq_self xs) x
theorem nowSame_tells (h : IsAtoms w 0 w.heap.size A n c xs) (hz : IsAtoms W 0 W.heap.size B m d xs) (hW : Below w.heap.size w W) :
    Calls Try.prog 17 #[.slice B m d, .slice A n c] W (Tells w true) :=
  (fsSame_any B A m d n c xs xs W hz (h.up AtomE.stays hW)).mono fun _ _ x => tells hW (listEq_self xs) x
end

set_option maxHeartbeats 1000000 in
theorem fsChange_any (A1 A2 B1 B2 : Option Addr) (n1 c1 n2 c2 m1 d1 m2 d2 : Nat) (P Q : List At) (w : World) (h1 : IsAtoms w 0 w.heap.size A1 n1 c1 P) (h2 : IsAtoms w 0 w.heap.size A2 n2 c2 Q) (h3 : IsAtoms w 0 w.heap.size B1 m1 d1 P) (h4 : IsAtoms w 0 w.heap.size B2 m2 d2 Q) :
    Calls Try.prog 27 #[.agg #[.slice A1 n1 c1, .slice A2 n2 c2], .agg #[.slice B1 m1 d1, .slice B2 m2 d2]] w (BoolPost true w) := by
  have HP := below2 w (.cells #[.slice A1 n1 c1, .slice A2 n2 c2] 38) (.cells #[.slice B1 m1 d1, .slice B2 m2 d2] 38)
  have XA := (Box.new w (.slice A1 n1 c1) (.slice A2 n2 c2) 38).up (.cells #[.slice B1 m1 d1, .slice B2 m2 d2] 38)
  have XC := Box.new2 w (.cells #[.slice A1 n1 c1, .slice A2 n2 c2] 38) (.slice B1 m1 d1) (.slice B2 m2 d2) 38
  have K1 := Lib.hid (h1.up AtomE.stays HP); have K2 := Lib.hid (h2.up AtomE.stays HP); have K3 := Lib.hid (h3.up AtomE.stays HP); have K4 := Lib.hid (h4.up AtomE.stays HP)
  have YA := Lib.hid XA; have YC := Lib.hid XC; have HPP := Lib.hid HP
  clear h1 h2 h3 h4 HP XA XC
  go_enter Try.func27, Try.ntmps27
  obtain ⟨_, x0, x1⟩ := YA.out
  obtain ⟨_, y0, y1⟩ := YC.out
  go_wp2_with fail
  refine (same_tells K1.out K3.out (Below.refl _ _)).mono ?_; rintro e w3 ⟨rfl, hB⟩
  clear x0 x1 y0 y1
  obtain ⟨_, x0, x1⟩ := YA.out.later hB
  obtain ⟨_, y0, y1⟩ := YC.out.later hB
  go_wp2_with fail
  refine (same_tells K2.out K4.out hB).mono ?_; rintro e w4 ⟨rfl, hB4⟩
  go_wp2
  go_ret; exact ⟨rfl, belowThen HPP.out hB4⟩

theorem changeNow_tells {w W : World} {A1 A2 B1 B2 : Option Addr} {n1 c1 n2 c2 m1 d1 m2 d2 : Nat} {P Q : List At} (h1 : IsAtoms w 0 w.heap.size A1 n1 c1 P) (h2 : IsAtoms w 0 w.heap.size A2 n2 c2 Q) (h3 : IsAtoms W 0 W.heap.size B1 m1 d1 P) (h4 : IsAtoms W 0 W.heap.size B2 m2 d2 Q) (hW : Below w.heap.size w W) :
    Calls Try.prog 27 #[.agg #[.slice A1 n1 c1, .slice A2 n2 c2], .agg #[.slice B1 m1 d1, .slice B2 m2 d2]] W (Tells w true) :=
  (fsChange_any A1 A2 B1 B2 n1 c1 n2 c2 m1 d1 m2 d2 P Q W (h1.up AtomE.stays hW) (h2.up AtomE.stays hW) h3 h4).mono fun _ _ x => tells hW rfl x

end Go.Proofs.Ytbhkihnekendbaa
