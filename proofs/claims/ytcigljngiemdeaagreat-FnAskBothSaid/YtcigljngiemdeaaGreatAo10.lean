/-
  Texts of one claim, put together.
-/
import Derived.Test.YtcigljngiemdeaaGreatAo0
import Derived.Test.YtcigljngiemdeaaGreatOwn
import Derived.Laws.IdiomStrings
import Derived.Test.YtcigljngiemdeaaGreatAo1
import Derived.Deep.RegionWith
set_option maxRecDepth 100000
set_option maxHeartbeats 8000000
namespace Go.Proofs.YtcigljngiemdeaaGreat
open Go.RowKit
theorem grownSet (w : World) (g i : Nat) (v : Value) : w.grownBy (w.setCell ⟨g, i, none⟩ v) (some g) :=
  ⟨rfl, rfl, rfl, by simp [World.setCell], fun k _ hk => hs_ _ _ _ k (fun e => hk (by rw [e]))⟩
section
variable {lo hi : Nat} {w w' w'' : World}
end
theorem Tryz.infoPart : (Tryz.prog.info? 52).map (fun i => (i.zero, i.size, i.bytes)) = some (some (.agg #[.bool false, .string ByteArray.empty, .slice none 0 0]), 3, 48) := by kernel_rfl
end Go.Proofs.YtcigljngiemdeaaGreat
namespace Go.Proofs.YtcigljngiemdeaaGreat
open Go.RowKit
end Go.Proofs.YtcigljngiemdeaaGreat

namespace Go.Proofs.YtcigljngiemdeaaGreat
open Go.RowKit
def IsRule (w : World) (hi : Nat) (A : Option Addr) (n c : Nat) (B : Option Addr) (m d : Nat) (ts : List Tm) (xs : List Pt) : Prop := IsTerms w 0 hi A n c ts ∧ IsParts w 0 hi B m d xs
theorem IsRule.up {w w' : World} {A B : Option Addr} {n c m d : Nat} {ts : List Tm} {xs : List Pt} (h : IsRule w w.heap.size A n c B m d ts xs) (hb : Below w.heap.size w w') : IsRule w' w'.heap.size A n c B m d ts xs :=
  ⟨h.1.up hb, h.2.up PartE.stays hb⟩
def Box3 (w : World) (b : Nat) (u v x : Value) : Prop := b < w.heap.size ∧ w.cell? ⟨b, 0, none⟩ = some u ∧ w.cell? ⟨b, 1, none⟩ = some v ∧ w.cell? ⟨b, 2, none⟩ = some x
theorem Box3.new (w : World) (u v x : Value) (t : TypeId) : Box3 (w.alloc (.cells #[u, v, x] t)) w.heap.size u v x := by
  refine ⟨by simp, ?_, ?_, ?_⟩ <;> simp [go_sem]
theorem Box3.later {w w' : World} {b : Nat} {u v x : Value} (h : Box3 w b u v x) (hb : Below w.heap.size w w') : Box3 w' b u v x :=
  ⟨Nat.lt_of_lt_of_le h.1 hb.size, (hb.cell (p := ⟨b, 0, none⟩) h.1).trans h.2.1, (hb.cell (p := ⟨b, 1, none⟩) h.1).trans h.2.2.1, (hb.cell (p := ⟨b, 2, none⟩) h.1).trans h.2.2.2⟩
def bodyB (xs : List Pt) : Bool := xs.all fun q => atomB q.2
def ruleB (r : Rl) : Bool := bodyB r.2 && (atomB r.1 && decide (r.2.length ≤ 4))
theorem bodyB_snoc {xs : List Pt} {k : Nat} {q : Pt} (h : xs[k]? = some q) (hr : bodyB (xs.take k) = true) (hq : atomB q.2 = true) : bodyB (xs.take (k + 1)) = true := by
  obtain ⟨h1, h2⟩ := List.getElem?_eq_some_iff.1 h; unfold bodyB at *; rw [List.take_succ_eq_append_getElem h1, List.all_append, hr, h2]; simp [hq]
theorem bodyB_no {xs : List Pt} {k : Nat} {q : Pt} (h : xs[k]? = some q) (hq : atomB q.2 = false) : bodyB xs = false := by
  unfold bodyB; rw [List.all_eq_false]; exact ⟨q, List.mem_of_getElem? h, by simp [hq]⟩
theorem bodyB_all {xs : List Pt} {k n : Nat} (h : xs.length = n) (hk : ¬ k < n) (hr : bodyB (xs.take k) = true) : bodyB xs = true := by
  rwa [List.take_of_length_le qaa] at hr
theorem atom_no {q : Pt} (h : (!atomB (q.2.1, q.2.2)) = true) : atomB q.2 = false := by simpa using h
theorem atom_yes {q : Pt} (h : (!atomB (q.2.1, q.2.2)) = false) : atomB q.2 = true := by simpa using h
theorem l1Rule_any (nm : ByteArray) (A : Option Addr) (n c : Nat) (B : Option Addr) (m d : Nat) (ts : List Tm) (xs : List Pt) (w : World) (hs : nm.size ≤ maxLen) (h : IsRule w w.heap.size A n c B m d ts xs) :
    Calls Tryz.prog 155 #[.agg #[.string nm, .slice A n c, .slice B m d]] w (BoolPost (ruleB ((nm, ts), xs)) w) := by
  have hm := h.2.len; unfold maxLen at hm; have L := hid h.2.1; have H := hid h; clear h; have hw0 := below1 w (.cells #[.string nm, .slice A n c, .slice B m d] 114); have X0 := hid (Box3.new w (.string nm) (.slice A n c) (.slice B m d) 114); go_enter Tryz.func155, Tryz.ntmps155; go_wp2; go_loopw [3] (fun i wr => ∃ k : Nat, k ≤ m ∧ i = .int .i64 k ∧ bodyB (xs.take k) = true ∧ Below (w.alloc (.cells #[.string nm, .slice A n c, .slice B m d] 114)).heap.size (w.alloc (.cells #[.string nm, .slice A n c, .slice B m d] 114)) wr) (fun i _ => m - (intOf i).toNat)
  case atStart => exact ⟨0, Nat.zero_le _, rfl, rfl, Below.refl _ _⟩
  case round =>
    obtain ⟨k, hk, rfl, hd, hb⟩ := hrel; have HD := hid hd; clear hd; have HB := belowThen hw0 hb; obtain ⟨x1, x2, x3, x4⟩ := X0.out.later hb; by_cases hlt : k < m
    · obtain ⟨p, q, hA, hlo, hhi, hg, hE⟩ := (H.out.2.below PartE.stays HB (nl _)).at_ hlt
      obtain ⟨C, n', c', d1, d2, d3, d4, d5⟩ := hE.out; clear hE; subst hA; have HG := hid hg; clear hg; have HT := hid (d5.keep (lo' := 0) (hi' := wr.heap.size) (fun _ _ _ => rfl) (nl _) HB.size); clear d5; go_wp2_with fail; refine (specAtomOk_any _ _ _ _ q.2.2 _ d3 HT.out).mono ?_; rintro e w1 ⟨rfl, hb1⟩; go_wp2
      · go_ret; exact ⟨retB (by unfold ruleB; rw [bodyB_no HG.out (atom_no qaz)]; rfl), belowThen HB hb1⟩
      · go_roundw
        case rel => exact ⟨k + 1, by omega, by go_num, bodyB_snoc HG.out HD.out (atom_yes qaz), belowThen hb hb1⟩
        case measure => exact qms
    · have E := hid (bodyB_all L.out hlt HD.out)
      go_wp2_with fail; refine (specAtomOk_any _ _ _ _ ts _ hs (H.out.up HB).1).mono ?_; rintro e w1 ⟨rfl, hb1⟩; obtain ⟨x1, x2, x3, x4⟩ := (X0.out.later hb).later hb1; go_wp2
      all_goals (go_ret; exact ⟨retB (by unfold ruleB; rw [E.out, L.out]; simp_all; try omega), belowThen HB hb1⟩)
theorem bodyOk_any (B : Option Addr) (m d : Nat) (xs : List Pt) (w : World) (h : IsParts w 0 w.heap.size B m d xs) :
    Calls Tryz.prog 89 #[.slice B m d] w (BoolPost (bodyB xs && decide (xs.length ≤ 4)) w) := by
  have hm := h.len; unfold maxLen at hm; have L := hid h.1; have H := hid h; clear h; by_cases hlong : 4 < (m : Int)
  · have E := hid (show (bodyB xs && decide (xs.length ≤ 4)) = false by rw [L.out]; simp; omega)
    go_enter Tryz.func89, Tryz.ntmps89; go_wp2; go_ret; exact ⟨retB E.out.symm, Below.refl _ _⟩
  · have hle : decide (xs.length ≤ 4) = true := by rw [L.out]; simp; omega
    have HL := hid hle; clear hle; go_enter Tryz.func89, Tryz.ntmps89; go_wp2; go_loopw [4, 10] (fun _ i wr => ∃ k : Nat, k ≤ m ∧ i = .int .i64 k ∧ bodyB (xs.take k) = true ∧ Below w.heap.size w wr) (fun _ i _ => m - (intOf i).toNat)
    case atStart => exact ⟨0, Nat.zero_le _, rfl, rfl, Below.refl _ _⟩
    case round =>
      obtain ⟨k, hk, rfl, hd, HB⟩ := hrel; have HD := hid hd; clear hd; by_cases hlt : k < m
      · obtain ⟨p, q, hA, hlo, hhi, hg, hE⟩ := (H.out.below PartE.stays HB (nl _)).at_ hlt
        obtain ⟨C, n', c', d1, d2, d3, d4, d5⟩ := hE.out; clear hE; subst hA; have HG := hid hg; clear hg; have hb1 := below1 wr (.cells #[.bool q.1, .string q.2.1, .slice C n' c'] 52); have HT := hid ((d5.keep (lo' := 0) (hi' := wr.heap.size) (fun _ _ _ => rfl) (nl _) HB.size).up hb1); clear d5; go_wp2_with fail; refine (implAtomOk_any _ _ _ _ q.2.2 _ d3 HT.out).mono ?_; rintro e w1 ⟨rfl, hb2⟩; go_wp2
        · go_ret; exact ⟨retB (by rw [bodyB_no HG.out (atom_no qaz)]; rfl), belowThen (belowThen HB hb1) hb2⟩
        · go_roundw
          case rel => exact ⟨k + 1, by omega, by go_num, bodyB_snoc HG.out HD.out (atom_yes qaz), belowThen (belowThen HB hb1) hb2⟩
          case measure => exact qms
      · have E := hid (bodyB_all L.out hlt HD.out)
        go_wp2; go_ret; exact ⟨retB (by rw [E.out, HL.out]; rfl), HB⟩
end Go.Proofs.YtcigljngiemdeaaGreat
