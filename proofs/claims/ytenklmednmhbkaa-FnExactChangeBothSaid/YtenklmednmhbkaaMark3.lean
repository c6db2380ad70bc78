/-
  Marks: one atom by value; a change.
-/
import Derived.Test.YtenklmednmhbkaaMark2
import Derived.Test.YtenklmednmhbkaaOwn2
namespace Go.Proofs.Ytenklmednmhbkaa
open Go.RowKit

theorem Blk.within {W W' : World} {b lo hi : Nat} {t : TypeId} {cs : Array Value} (h : Blk W b t cs) (hw : Within lo hi W W') (ho : b < lo ∨ hi ≤ b) : Blk W' b t cs := (hw.block b h.lt ho).trans h
theorem OwnTerms.within {W W' : World} {g n lo hi : Nat} {ts : List Tm} (h : OwnTerms W g n ts) (hw : Within lo hi W W') (ho : g < lo ∨ hi ≤ g) : OwnTerms W' g n ts := ⟨h.1, h.2.1, h.2.2.of_block (hw.block g h.2.2.lt ho)⟩

theorem markN_tiny {n c lo hi : Nat} {w : World} {A : Option Addr} {rs : List Rf} {xs : List At} (h : IsRefs w lo hi A n c rs) (hx : rs.map rAt = xs) (hs : SmallAtoms n xs) : markN 1 rs ≤ 2 ^ 42 := by
  have h1 := markN_le 1048576 1 rs (fun r hr => by
    have h2 := hs.2 (rAt r) (by rw [← hx]; exact List.mem_map_of_mem hr)
    have h3 := ((RefsIn.of h) r hr).2.1
    show r.2.2.1 ≤ _
    rw [← h3]; exact h2)
  have h4 := h.1
  have h5 := hs.1
  have h6 : rs.length * (1 + 2 * 1048576) ≤ 1048576 * (1 + 2 * 1048576) := Nat.mul_le_mul_right _ (by omega)
  omega

set_option maxHeartbeats 1000000 in
theorem markAtom_any (nm : ByteArray) (g m k : Nat) (ts : List Tm) (w : World) (h : OwnTerms w g m ts) (hk : k + 2 * m ≤ 2 ^ 50) :
    Calls Try.prog 33 #[.agg #[.string nm, .slice (some ⟨g, 0, none⟩) m m], .int .i64 (k : Int)] w fun e w' => e = .returned (.int .i64 ((k + 2 * m : Nat) : Int)) ∧ Within g (g + 1) w w' := by
  have hr := h.2.2
  have hlt := hr.lt
  have hb1 := below1 w (.cells #[.string nm, .slice (some ⟨g, 0, none⟩) m m] 26)
  have hr1 := hr.alloc (.cells #[.string nm, .slice (some ⟨g, 0, none⟩) m m] 26)
  have HR := Lib.hid hr1
  clear hr hr1 h
  go_enter Try.func33, Try.ntmps33
  go_wp2_with fail
  refine (markTermS_any g (m * 2) m m k (tcell ts) _ HR.out (Nat.le_refl _) hk).mono ?_; rintro e w1 ⟨rfl, -, hg⟩
  have hw := (Within.of (lo := g) (hi := g + 1) hb1).trans (Within.row hg (Nat.le_refl _) (Nat.lt_succ_self _))
  clear hg
  go_wp2
  go_ret; exact ⟨rfl, hw⟩

end Go.Proofs.Ytenklmednmhbkaa
