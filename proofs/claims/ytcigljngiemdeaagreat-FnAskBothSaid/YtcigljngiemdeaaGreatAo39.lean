/-
  Texts of one claim, put together.
-/
import Derived.Test.YtcigljngiemdeaaGreatAo0
import Derived.Test.YtcigljngiemdeaaGreatAo14
import Derived.Lib.SmallJoins
import Derived.Below
import Derived.Test.YtcigljngiemdeaaGreatDraw
set_option maxRecDepth 100000
set_option maxHeartbeats 8000000
namespace Go.Proofs.YtcigljngiemdeaaGreat
open Go.RowKit
theorem bd_at {b : Bd} {k : Nat} {x y : ByteArray} (h : (b.map (·.1))[k]? = some x) (h' : (b.map (·.2))[k]? = some y) : b[k]? = some (x, y) := by
  rw [List.getElem?_map] at h h'; obtain ⟨q, hq, rfl⟩ := Option.map_eq_some_iff.1 h; rw [hq] at h'; injection h' with h'; subst h'; exact hq
theorem l4Get_any (A B : Option Addr) (n c m d : Nat) (b : Bd) (x : ByteArray) (w : World) (h : IsTexts w 0 w.heap.size A n c (b.map (·.1))) (h' : IsTexts w 0 w.heap.size B m d (b.map (·.2))) :
    Calls Tryz.prog 85 #[.agg #[.slice A n c, .slice B m d], .string x] w fun e w' => e = .returned (.tuple #[.string ((getW b x).getD ⟨#[]⟩), .bool (getW b x).isSome]) ∧ Below w.heap.size w w' := by
  have hn := h.len; unfold maxLen at hn; have h1 := hid (show n = b.length by rw [← h.1, List.length_map]); have h2 := hid (show m = b.length by rw [← h'.1, List.length_map]); have H := hid h; have H' := hid h'; clear h h'; have hw0 := below1 w (.cells #[.slice A n c, .slice B m d] 128); have X0 := hid (Box.new w (.slice A n c) (.slice B m d) 128); go_enter Tryz.func85, Tryz.ntmps85; go_wp2; go_loopw [6] (fun i wr => ∃ k : Nat, k ≤ n ∧ i = .int .i64 k ∧ (∀ j r, j < k → b[j]? = some r → r.1 ≠ x) ∧ Below (w.alloc (.cells #[.slice A n c, .slice B m d] 128)).heap.size (w.alloc (.cells #[.slice A n c, .slice B m d] 128)) wr) (fun i _ => n - (intOf i).toNat)
  case atStart => exact ⟨0, Nat.zero_le _, rfl, fun j r hj => absurd hj (Nat.not_lt_zero _), Below.refl _ _⟩
  case round =>
    obtain ⟨k, hk, rfl, hl, hb⟩ := hrel; have HL := hid hl; clear hl; have HB := belowThen hw0 hb; obtain ⟨b0, b1, b2⟩ := X0.out.later hb; by_cases hlt : k < n
    · have hltI : (k : Int) < (n : Int) := qaa
      have hltm : (k : Int) < (m : Int) := by have := h1.out; have := h2.out; omega
      obtain ⟨p, q, hA, _, _, hg, hE⟩ := (H.out.below TextE.stays HB (nl _)).at_ hlt; obtain ⟨p', q', hA', _, _, hg', hE'⟩ := (H'.out.below TextE.stays HB (nl _)).at_ (show k < m by have := h1.out; have := h2.out; omega); subst hA; subst hA'; have x1 : wr.cell? (p.add k) = some (.string q) := qat; have x2 : wr.cell? (p'.add k) = some (.string q') := qco; have HG := hid (bd_at hg hg'); clear hE hE' hg hg'; cases he : (q.toList == x.toList)
      · have hne : q ≠ x := fun e => by subst e; simp at he
        have HNE := hid hne; clear hne; go_wp2; go_roundw
        case rel => exact ⟨k + 1, by omega, by go_num, fun j r hj hr => by
          by_cases e : j = k
          · subst e; rw [HG.out] at hr; injection hr with hr; rw [← hr]; exact HNE.out
          · exact HL.out j r qaa hr, hb⟩
        case measure => exact qms
      · have hq : q = x := bytesEq qbc
        have hv := hid (getW_hit (x := x) HL.out HG.out hq); clear hq; go_wp2; refine bodyPost_ret (v := .tuple #[.string q', .bool true]) (by simp [results, Tryz.results85, go_sem]) rfl ⟨by rw [hv.out]; rfl, HB⟩
    · have hv := hid (getW_none (b := b) (x := x) (fun q hq => by
        obtain ⟨j, hj⟩ := List.getElem?_of_mem hq; have := (List.getElem?_eq_some_iff.1 hj).1; exact HL.out j q (by have := h1.out; omega) hj))
      go_wp2; refine bodyPost_ret (v := .tuple #[.string ⟨#[]⟩, .bool false]) (by simp [results, Tryz.results85, go_sem]) rfl ⟨by rw [hv.out]; rfl, HB⟩
end Go.Proofs.YtcigljngiemdeaaGreat

namespace Go.Proofs.YtcigljngiemdeaaGreat
open Go.ChangeShapes Go.WideShapes Go.ChangeAt Go.RowKit Go.Deep Go.Joins
open Go.ChangeMaps (open_string shut_string)
theorem Tryz.own : ownKnob Tryz.prog.godebug = none := by kernel_rfl
theorem Tryz.laidOut : laidOutB Tryz.prog = true := by kernel_rfl
section
variable {H : Type} {enc : TypeId × Value → H} {w : World} {base : Nat} {spare : Nat → Bool} {held : Bool}
end
theorem post_true {H : Type} {enc : TypeId × Value → H} {f : Func} {s : ChangeSpec} {apart : Bool} {W W' : World} {args : Array Value} {ds gs : List (DataW H)} {before pa pv : List MemPlace}
    (hW : DataW.Whole enc Tryz.prog f.params.toList s.vars apart W args.toList ds gs before)
    (hres : DataW.TrodAll enc Tryz.prog W' W.heap.size (fun _ => false) false f.resultTypes.toList ((Value.bool true).resultList f.resultTypes.size) (s.fn H (ds ++ gs)).results [])
    (hargs : DataW.TrodAll enc Tryz.prog W' 0 (fun b => decide (b < W.heap.size)) true f.params.toList args.toList (s.fn H (ds ++ gs)).args pa)
    (hvars : DataW.TrodVars enc Tryz.prog W' (fun b => decide (b < W.heap.size)) s.vars (s.fn H (ds ++ gs)).vars pv)
    (hb : Below W.heap.size W W') :
    s.post enc Tryz.prog f apart true false false W args (.bool true) W' :=
  ⟨ds, gs, before, [], pa, pv, hW, hres, hargs, hvars, hb.frame _, fun h => by cases h⟩
end Go.Proofs.YtcigljngiemdeaaGreat

namespace Go.Proofs.YtcigljngiemdeaaGreat
open Go.ChangeShapes Go.WideShapes Go.ChangeAt Go.RowKit Go.Deep
theorem Tryz.cellsByte : Tryz.prog.cellsOf 5 = 1 := by kernel_rfl
section
variable {H : Type} {enc : TypeId × Value → H} {w : World} {base : Nat} {spare : Nat → Bool} {held : Bool}
theorem open_bytes {b0 : Nat} {v : Value} {d : DataW H} {p : List MemPlace} (hv : Value.okWide Tryz.prog w .any b0 39 v) (h : DataW.Trod enc Tryz.prog w base spare held 39 v d p) :
    ∃ A n c, v = .slice A n c ∧ IsBytes w w.heap.size A n c := by
  obtain ⟨A, n, c, rfl⟩ := okWide_slice Tryz.underlying39 hv; obtain ⟨fuel, hf⟩ := h; rcases open_slice1 Tryz.underlying39 Tryz.cellsByte (by simpa [Value.cells] using hf) with ⟨hc, _⟩ | ⟨a, len, cap, m, k, V, D, P, hc, _, hl, hm, hmm, _, hi⟩
  · simp only [List.cons.injEq, and_true, Value.slice.injEq] at hc
    obtain ⟨rfl, rfl, rfl⟩ := hc; exact ⟨none, 0, 0, rfl, nl _, Nat.zero_le _, fun h0 => absurd h0 qaa⟩
  · simp only [List.cons.injEq, and_true, Value.slice.injEq] at hc
    obtain ⟨rfl, rfl, rfl⟩ := hc; have hlm : n ≤ m := by rw [hmm]; split <;> omega
    refine ⟨_, _, _, rfl, hl, hm, fun h0 => ⟨a, rfl, World.block_lt_of_cell? _ _ (by simpa [Addr.add] using (hi 0 qaa).1), fun i hin => ?_⟩⟩; obtain ⟨c1, t1⟩ := hi i qaa; obtain ⟨z, hz, _, hw⟩ := DataW.trod_int Tryz.underlying5 t1; simp only [List.cons.injEq, and_true] at hz
    have hb : 0 ≤ z ∧ z ≤ 255 := by
      have h9 := hw; simp [Lit.wf, IntKind.min, IntKind.max, IntKind.signed, IntKind.bits] at h9; omega
    refine ⟨z.toNat, by omega, ?_⟩; rw [c1, hz, Int.toNat_of_nonneg hb.1]
end
end Go.Proofs.YtcigljngiemdeaaGreat
