/-
  An atom held against a fact, in the model. (Written by tools/l4match.py.)
-/
import Derived.Test.YtcigljngiemdeaaGreatEa26
namespace Go.Proofs.YtcigljngiemdeaaGreat
open Go.RowKit

/-- What is bound, while an atom is held against a fact: the two atoms; what is bound so far, and where it lies; the result. -/
structure MS (w : World) (H0 : Nat) (nm : ByteArray) (A1 : Option Addr) (n1 c1 : Nat) (nm2 : ByteArray) (A2 : Option Addr) (n2 c2 : Nat) (A : Option Addr) (n c : Nat) (B : Option Addr) (m d : Nat) (bs : Bd) (W : World) : Prop where
  xa : Blk W w.heap.size 49 #[.string nm, .slice A1 n1 c1]
  xf : Blk W (w.heap.size + 1) 49 #[.string nm2, .slice A2 n2 c2]
  xb : Blk W (w.heap.size + 2) 128 #[.slice A n c, .slice B m d]
  xr : Blk W (w.heap.size + 3) 128 #[.slice none 0 0, .slice none 0 0]
  ms : ∃ lo hi, IsTexts W lo hi A n c (bs.map (·.1)) ∧ IsTexts W lo hi B m d (bs.map (·.2)) ∧ hi ≤ W.heap.size ∧ (hi ≤ H0 ∨ w.heap.size + 4 ≤ lo)
  gr : Below w.heap.size w W
  hs : w.heap.size + 4 ≤ W.heap.size

section
variable {w W W' : World} {H0 : Nat} {nm nm2 : ByteArray} {A1 A2 A B A' B' : Option Addr} {n1 c1 n2 c2 n c m d n' c' m' d' : Nat} {bs bs' : Bd}

theorem MS.below (h : MS w H0 nm A1 n1 c1 nm2 A2 n2 c2 A n c B m d bs W) (hb : Below W.heap.size W W') : MS w H0 nm A1 n1 c1 nm2 A2 n2 c2 A n c B m d bs W' := by
  have hs := hb.size; have h4 := h.hs
  obtain ⟨lo, hi, m1, m2, m3, m4⟩ := h.ms
  exact ⟨h.xa.below hb, h.xf.below hb, h.xb.below hb, h.xr.below hb, ⟨lo, hi, m1.below TextE.stays hb m3, m2.below TextE.stays hb m3, by omega, m4⟩, h.gr.trans (hb.mono (by omega)), by omega⟩

theorem MS.drew (h : MS w H0 nm A1 n1 c1 nm2 A2 n2 c2 A n c B m d bs W) : MS w H0 nm A1 n1 c1 nm2 A2 n2 c2 A n c B m d bs W.drew := h.below (Below.refl _ _).drew

theorem MS.texts (h : MS w H0 nm A1 n1 c1 nm2 A2 n2 c2 A n c B m d bs W) : IsTexts W 0 W.heap.size A n c (bs.map (·.1)) ∧ IsTexts W 0 W.heap.size B m d (bs.map (·.2)) := by
  obtain ⟨lo, hi, m1, m2, m3, m4⟩ := h.ms
  exact ⟨m1.keep TextE.stays (fun _ _ _ => rfl) (Nat.zero_le _) m3, m2.keep TextE.stays (fun _ _ _ => rfl) (Nat.zero_le _) m3⟩

/-- Other bindings stored into their box. -/
theorem MS.put (h : MS w H0 nm A1 n1 c1 nm2 A2 n2 c2 A n c B m d bs W) {lo hi : Nat} (i1 : IsTexts W lo hi A' n' c' (bs'.map (·.1))) (i2 : IsTexts W lo hi B' m' d' (bs'.map (·.2))) (i3 : hi ≤ W.heap.size) (i4 : w.heap.size + 4 ≤ lo) :
    MS w H0 nm A1 n1 c1 nm2 A2 n2 c2 A' n' c' B' m' d' bs' ((W.setCell ⟨w.heap.size + 2, 0, none⟩ (.slice A' n' c')).setCell ⟨w.heap.size + 2, 1, none⟩ (.slice B' m' d')) := by
  have hs : ((W.setCell ⟨w.heap.size + 2, 0, none⟩ (.slice A' n' c')).setCell ⟨w.heap.size + 2, 1, none⟩ (.slice B' m' d')).heap.size = W.heap.size := by rw [size_setCell, size_setCell]
  have hk : ∀ b, b ≠ w.heap.size + 2 → ((W.setCell ⟨w.heap.size + 2, 0, none⟩ (.slice A' n' c')).setCell ⟨w.heap.size + 2, 1, none⟩ (.slice B' m' d')).heap[b]? = W.heap[b]? := fun b hb => (Below.heap_setCell _ _ _ b hb).trans (Below.heap_setCell _ _ _ b hb)
  have hq : ∀ q : Addr, lo ≤ q.block → q.block < hi → ((W.setCell ⟨w.heap.size + 2, 0, none⟩ (.slice A' n' c')).setCell ⟨w.heap.size + 2, 1, none⟩ (.slice B' m' d')).cell? q = W.cell? q := fun q h1 _ => World.cell?_of_block (hk _ (by omega))
  exact ⟨(h.xa.far (p := ⟨w.heap.size + 2, 0, none⟩) (by show w.heap.size ≠ w.heap.size + 2; omega) _).far (p := ⟨w.heap.size + 2, 1, none⟩) (by show w.heap.size ≠ w.heap.size + 2; omega) _,
    (h.xf.far (p := ⟨w.heap.size + 2, 0, none⟩) (by show w.heap.size + 1 ≠ w.heap.size + 2; omega) _).far (p := ⟨w.heap.size + 2, 1, none⟩) (by show w.heap.size + 1 ≠ w.heap.size + 2; omega) _,
    (h.xb.set 0 _).set 1 _,
    (h.xr.far (p := ⟨w.heap.size + 2, 0, none⟩) (by show w.heap.size + 3 ≠ w.heap.size + 2; omega) _).far (p := ⟨w.heap.size + 2, 1, none⟩) (by show w.heap.size + 3 ≠ w.heap.size + 2; omega) _,
    ⟨lo, hi, i1.keep TextE.stays hq (Nat.le_refl _) (Nat.le_refl _), i2.keep TextE.stays hq (Nat.le_refl _) (Nat.le_refl _), by omega, .inr i4⟩,
    (h.gr.setCell (p := ⟨w.heap.size + 2, 0, none⟩) (Nat.le_add_right _ _) _).setCell (p := ⟨w.heap.size + 2, 1, none⟩) (Nat.le_add_right _ _) _, by rw [hs]; exact h.hs⟩

/-- What is bound stored into the result. -/
theorem MS.told (h : MS w H0 nm A1 n1 c1 nm2 A2 n2 c2 A n c B m d bs W) (h0 : H0 ≤ w.heap.size) : ∃ lo hi, IsTexts ((W.setCell ⟨w.heap.size + 3, 0, none⟩ (.slice A n c)).setCell ⟨w.heap.size + 3, 1, none⟩ (.slice B m d)) lo hi A n c (bs.map (·.1)) ∧ IsTexts ((W.setCell ⟨w.heap.size + 3, 0, none⟩ (.slice A n c)).setCell ⟨w.heap.size + 3, 1, none⟩ (.slice B m d)) lo hi B m d (bs.map (·.2)) ∧ hi ≤ ((W.setCell ⟨w.heap.size + 3, 0, none⟩ (.slice A n c)).setCell ⟨w.heap.size + 3, 1, none⟩ (.slice B m d)).heap.size ∧ (hi ≤ H0 ∨ w.heap.size ≤ lo) ∧ Below w.heap.size w ((W.setCell ⟨w.heap.size + 3, 0, none⟩ (.slice A n c)).setCell ⟨w.heap.size + 3, 1, none⟩ (.slice B m d)) := by
  obtain ⟨lo, hi, m1, m2, m3, m4⟩ := h.ms
  have hs : ((W.setCell ⟨w.heap.size + 3, 0, none⟩ (.slice A n c)).setCell ⟨w.heap.size + 3, 1, none⟩ (.slice B m d)).heap.size = W.heap.size := by rw [size_setCell, size_setCell]
  have hk : ∀ b, b ≠ w.heap.size + 3 → ((W.setCell ⟨w.heap.size + 3, 0, none⟩ (.slice A n c)).setCell ⟨w.heap.size + 3, 1, none⟩ (.slice B m d)).heap[b]? = W.heap[b]? := fun b hb => (Below.heap_setCell _ _ _ b hb).trans (Below.heap_setCell _ _ _ b hb)
  have hq : ∀ q : Addr, lo ≤ q.block → q.block < hi → ((W.setCell ⟨w.heap.size + 3, 0, none⟩ (.slice A n c)).setCell ⟨w.heap.size + 3, 1, none⟩ (.slice B m d)).cell? q = W.cell? q := fun q h1 _ => World.cell?_of_block (hk _ (by omega))
  exact ⟨lo, hi, m1.keep TextE.stays hq (Nat.le_refl _) (Nat.le_refl _), m2.keep TextE.stays hq (Nat.le_refl _) (Nat.le_refl _), by omega, by omega, (h.gr.setCell (p := ⟨w.heap.size + 3, 0, none⟩) (Nat.le_add_right _ _) _).setCell (p := ⟨w.heap.size + 3, 1, none⟩) (Nat.le_add_right _ _) _⟩
end

/-- An atom was held against a fact. -/
def MatchSPost (a f : At) (b : Bd) (H0 : Nat) (w : World) (e : Ending) (w' : World) : Prop :=
  ∃ (A : Option Addr) (n c : Nat) (B : Option Addr) (m d : Nat) (bs : Bd) (ok : Bool) (lo hi : Nat), e = .returned (.tuple #[.agg #[.slice A n c, .slice B m d], .bool ok]) ∧ IsTexts w' lo hi A n c (bs.map (·.1)) ∧ IsTexts w' lo hi B m d (bs.map (·.2)) ∧ hi ≤ w'.heap.size ∧ (hi ≤ H0 ∨ w.heap.size ≤ lo) ∧ Below w.heap.size w w' ∧ (ok = true → matchA a f b = some bs) ∧ (ok = false → matchA a f b = none)

set_option maxRecDepth 100000 in
set_option maxHeartbeats 4000000 in
theorem l4Match_any (nm : ByteArray) (A1 : Option Addr) (n1 c1 : Nat) (ts : List Tm) (nm2 : ByteArray) (A2 : Option Addr) (n2 c2 : Nat) (us : List Tm) (A : Option Addr) (n c : Nat) (B : Option Addr) (m d : Nat) (b : Bd) (H0 : Nat) (w : World) (h1 : IsTerms w 0 w.heap.size A1 n1 c1 ts) (h2 : IsTerms w 0 w.heap.size A2 n2 c2 us)
    (h3 : IsTexts w 0 H0 A n c (b.map (·.1))) (h4 : IsTexts w 0 H0 B m d (b.map (·.2))) (h0 : H0 ≤ w.heap.size) (hmax : b.length + n1 ≤ 1048576) :
    Calls Tryz.prog 126 #[.agg #[.string nm, .slice A1 n1 c1], .agg #[.string nm2, .slice A2 n2 c2], .agg #[.slice A n c, .slice B m d]] w (MatchSPost (nm, ts) (nm2, us) b H0 w) := by
  have hn1 := h1.1; have hn2 := h2.1
  have hc1 := h1.2.1; have hm1 := h1.2.2.1; have hc2 := h2.2.1; have hm2 := h2.2.2.1
  unfold maxLen at hm1 hm2
  have L1 := Lib.hid hn1; have L2 := Lib.hid hn2
  have H1 := Lib.hid h1; have H2 := Lib.hid h2
  have hw3 := below3 w (.cells #[.string nm, .slice A1 n1 c1] 49) (.cells #[.string nm2, .slice A2 n2 c2] 49) (.cells #[.slice A n c, .slice B m d] 128)
  obtain ⟨w3, hq3⟩ : ∃ w3, ((w.alloc (.cells #[.string nm, .slice A1 n1 c1] 49)).alloc (.cells #[.string nm2, .slice A2 n2 c2] 49)).alloc (.cells #[.slice A n c, .slice B m d] 128) = w3 := ⟨_, rfl⟩
  have xa := ((Blk.new w 49 #[.string nm, .slice A1 n1 c1]).alloc (.cells #[.string nm2, .slice A2 n2 c2] 49)).alloc (.cells #[.slice A n c, .slice B m d] 128)
  have xf := (Blk.made (b := w.heap.size + 1) (w.alloc (.cells #[.string nm, .slice A1 n1 c1] 49)) 49 #[.string nm2, .slice A2 n2 c2] (by simp)).alloc (.cells #[.slice A n c, .slice B m d] 128)
  have xb := Blk.made (b := w.heap.size + 2) ((w.alloc (.cells #[.string nm, .slice A1 n1 c1] 49)).alloc (.cells #[.string nm2, .slice A2 n2 c2] 49)) 128 #[.slice A n c, .slice B m d] (by simp)
  rw [hq3] at hw3 xa xf xb
  have hz3 : w3.heap.size = w.heap.size + 3 := by rw [← hq3]; simp
  obtain ⟨w4, hq4⟩ : ∃ w4, w3.alloc (.cells #[.slice none 0 0, .slice none 0 0] 128) = w4 := ⟨_, rfl⟩
  have hb4 := below1 w3 (.cells #[.slice none 0 0, .slice none 0 0] 128)
  have xr := Blk.made (b := w.heap.size + 3) w3 128 #[.slice none 0 0, .slice none 0 0] hz3.symm
  rw [hq4] at hb4 xr
  have hz4 : w4.heap.size = w.heap.size + 4 := by rw [← hq4]; simp; omega
  have M0 : MS w H0 nm A1 n1 c1 nm2 A2 n2 c2 A n c B m d b w4 := ⟨xa.below hb4, xf.below hb4, xb.below hb4, xr, ⟨0, H0, h3.below TextE.stays (belowThen hw3 hb4) h0, h4.below TextE.stays (belowThen hw3 hb4) h0, by omega, .inl (Nat.le_refl _)⟩, belowThen hw3 hb4, by omega⟩
  have q0 := M0.xa.cell 0; have q1 := M0.xa.cell 1; have q2 := M0.xf.cell 0; have q3 := M0.xf.cell 1; have q4 := M0.xb.cell 0; have q5 := M0.xb.cell 1; have q6 := M0.xr.frozen 0; have q7 := M0.xr.frozen 1; have q8 := M0.xr.cell 0; have q9 := M0.xr.cell 1
  have HM0 := Lib.hid M0; have HQ3 := Lib.hid hq3; have HQ4 := Lib.hid hq4
  clear h1 h2 h3 h4 hn1 hn2 xa xf xb xr hw3 hb4 hq3 hq4 M0
  go_enter Tryz.func126, Tryz.ntmps126
  by_cases hnm : nm = nm2 ∧ n1 = n2
  · obtain ⟨hnm, hnn⟩ := hnm
    subst hnm
    subst hnn
    have hself : (nm.toList == nm.toList) = true := beq_self_eq_true _
    have hpure := Lib.hid (show matchA (nm, ts) (nm, us) b = matchT ts us b from by unfold matchA; rw [if_pos ⟨rfl, by show ts.length = us.length; rw [L1.out, L2.out]⟩])
    go_wp2_with (first | rw [HQ3.out] | rw [HQ4.out])
    go_loopw [8] (fun i wr => ∃ (k : Nat) (A : Option Addr) (n c : Nat) (B : Option Addr) (m d : Nat) (bs : Bd), k ≤ n1 ∧ i = .int .i64 (k : Int) ∧ MS w H0 nm A1 n1 c1 nm A2 n1 c2 A n c B m d bs wr ∧ matchT (ts.drop k) (us.drop k) bs = matchT ts us b ∧ bs.length ≤ b.length + k) (fun i _ => n1 - (intOf i).toNat)
    case atStart => exact ⟨0, A, n, c, B, m, d, b, Nat.zero_le _, rfl, HM0.out, rfl, Nat.le_refl _⟩
    case round =>
      clear q0 q1 q2 q3 q4 q5 q6 q7 q8 q9 HM0 HQ3 HQ4 hz3 hz4
      obtain ⟨k, A, n, c, B, m, d, bs, hk, rfl, hM, hP, hL⟩ := hrel
      have HM := Lib.hid hM; have HP := Lib.hid hP
      have y0 := hM.xa.cell 0; have y1 := hM.xa.cell 1; have y2 := hM.xf.cell 0; have y3 := hM.xf.cell 1; have y4 := hM.xb.cell 0; have y5 := hM.xb.cell 1; have y6 := hM.xr.frozen 0; have y7 := hM.xr.frozen 1; have y8 := hM.xr.cell 0; have y9 := hM.xr.cell 1
      by_cases hlt : k < n1
      · have hltI : (k : Int) < (n1 : Int) := by omega
        obtain ⟨p, t, hA, plo, phi, hg, d1, d2, d3⟩ := (H1.out.below hM.gr (Nat.le_refl _)).at_ hlt
        obtain ⟨p', u, hA', plo', phi', hg', f1, f2, f3⟩ := (H2.out.below hM.gr (Nat.le_refl _)).at_ hlt
        subst hA; subst hA'
        have HG := Lib.hid hg; have HG' := Lib.hid hg'
        have hpb : p.block < w.heap.size := phi
        have hpb' : p'.block < w.heap.size := phi'
        clear hM hP hg hg' plo plo' phi phi'
        obtain ⟨tv, s⟩ := t
        cases tv
        · -- no variable
          cases he : (s.toList == u.2.toList)
          · have hno : matchT ts us b = none := HP.out ▸ matchT_no (b := bs) HG.out HG'.out (by simp) (by show s ≠ u.2; intro e; rw [e] at he; simp at he)
            have HNO := Lib.hid hno
            clear hno
            go_wp2
            obtain ⟨lo, hi, j1, j2, j3, j4, j5⟩ := HM.out.told h0
            refine bodyPost_ret (v := .tuple #[.agg #[.slice A n c, .slice B m d], .bool false]) (by simp [results, Tryz.results126, go_sem, y8, y9]) rfl ⟨_, _, _, _, _, _, bs, false, lo, hi, rfl, j1, j2, j3, j4, j5, fun e => (by cases e), fun _ => by rw [hpure.out]; exact HNO.out⟩
          · have hse : s = u.2 := bytesEq (by have h1 := eq_of_beq he; rwa [ByteArray.toList_eq, ByteArray.toList_eq] at h1)
            have hon := Lib.hid (matchT_same (b := bs) HG.out HG'.out (by simp) (show wordT bs (false, s) = u.2 from hse))
            clear hse
            go_wp2
            go_roundw
            case rel => exact ⟨k + 1, A, n, c, B, m, d, bs, by omega, by go_num, HM.out, hon.out ▸ HP.out, by omega⟩
            case measure => simp [intOf]; omega
        · -- a variable
          have TX := HM.out.drew.texts
          have HTX := Lib.hid TX
          clear TX
          have x0 : wr.drew.cell? ⟨w.heap.size, 1, none⟩ = some (.slice (some p) n1 c1) := y1
          have x1 : wr.drew.cell? ⟨w.heap.size + 1, 1, none⟩ = some (.slice (some p') n1 c2) := y3
          have x2 : wr.drew.cell? ⟨w.heap.size + 2, 0, none⟩ = some (.slice A n c) := y4
          have x3 : wr.drew.cell? ⟨w.heap.size + 2, 1, none⟩ = some (.slice B m d) := y5
          have x4 : wr.drew.cell? ⟨(p.add (k * 2)).block, (p.add (k * 2)).off + 1, none⟩ = some (.string s) := d2
          have x5 : wr.drew.cell? ⟨(p'.add (k * 2)).block, (p'.add (k * 2)).off + 1, none⟩ = some (.string u.2) := f2
          obtain ⟨gw, hgw⟩ : ∃ gw, getW bs s = gw := ⟨_, rfl⟩
          have HGW := Lib.hid hgw
          clear hgw
          cases gw with
          | none =>
            go_wp2_with fail
            refine wp_region_held_drew (S := fun W => W.cell? ⟨w.heap.size, 1, none⟩ = some (.slice (some p) n1 c1) ∧ W.cell? ⟨w.heap.size + 1, 1, none⟩ = some (.slice (some p') n1 c2) ∧ W.cell? ⟨w.heap.size + 2, 0, none⟩ = some (.slice A n c) ∧ W.cell? ⟨w.heap.size + 2, 1, none⟩ = some (.slice B m d) ∧ W.cell? ⟨(p.add (k * 2)).block, (p.add (k * 2)).off + 1, none⟩ = some (.string s) ∧ W.cell? ⟨(p'.add (k * 2)).block, (p'.add (k * 2)).off + 1, none⟩ = some (.string u.2)) (by kernel_rfl) ⟨x0, x1, x2, x3, x4, x5⟩ ?_
            intro hS_
            refine tk 0 (.agg #[.slice A n c, .slice B m d]) hS_ ?_
            refine tk 1 (.pointer (some ⟨w.heap.size, 1, none⟩)) hS_ ?_
            refine tk 2 (.slice (some p) n1 c1) hS_ ?_
            refine tk 3 (.int .i64 (k : Int)) hS_ ?_
            refine tk 4 (.pointer (some (p.add (k * 2)))) hS_ ?_
            refine tk 5 (.pointer (some ⟨(p.add (k * 2)).block, (p.add (k * 2)).off + 1, none⟩)) hS_ ?_
            refine tk 6 (.string s) hS_ ?_
            refine rd1 7 fun K_ hK_ => ?_
            go_simp
            go_at_call 85
            refine (l4Get_any A B n c m d bs s _ HTX.out.1 HTX.out.2).mono ?_; rintro e w5 ⟨rfl, hb5⟩
            rw [HGW.out]
            have hM5 := HM.out.drew.below hb5
            have HM5 := Lib.hid hM5
            have z0 := hM5.xa.cell 0; have z1 : w5.cell? ⟨w.heap.size, 1, none⟩ = some (.slice (some p) n1 c1) := hM5.xa.cell 1; have z2 := hM5.xf.cell 0; have z3 : w5.cell? ⟨w.heap.size + 1, 1, none⟩ = some (.slice (some p') n1 c2) := hM5.xf.cell 1; have z4 : w5.cell? ⟨w.heap.size + 2, 0, none⟩ = some (.slice A n c) := hM5.xb.cell 0; have z5 : w5.cell? ⟨w.heap.size + 2, 1, none⟩ = some (.slice B m d) := hM5.xb.cell 1; have z6 := hM5.xr.frozen 0; have z7 := hM5.xr.frozen 1; have z8 := hM5.xr.cell 0; have z9 := hM5.xr.cell 1
            have hzz : w.heap.size ≤ wr.drew.heap.size := by have := HM.out.hs; show w.heap.size ≤ wr.heap.size; omega
            have g1 : w5.cell? ⟨(p.add (k * 2)).block, (p.add (k * 2)).off + 1, none⟩ = some (.string s) := (hb5.cell (p := ⟨(p.add (k * 2)).block, (p.add (k * 2)).off + 1, none⟩) (by show (p.add (k * 2)).block < _; rw [block_add]; omega)).trans x4
            have g2 : w5.cell? ⟨(p'.add (k * 2)).block, (p'.add (k * 2)).off + 1, none⟩ = some (.string u.2) := (hb5.cell (p := ⟨(p'.add (k * 2)).block, (p'.add (k * 2)).off + 1, none⟩) (by show (p'.add (k * 2)).block < _; rw [block_add]; omega)).trans x5
            refine hK_.out _ _ ⟨z1, z3, z4, z5, g1, g2⟩ fun hS_ => ?_
            clear hK_
            refine tk 8 (.tuple #[.string ⟨#[]⟩, .bool false]) hS_ ?_
            refine tk 9 (.string ⟨#[]⟩) hS_ ?_
            refine tk 10 (.bool false) hS_ ?_
            refine tk 11 (.string ⟨#[]⟩) hS_ ?_
            refine tk 12 (.bool false) hS_ ?_
            refine wpAnyH_done (by kernel_rfl) ?_ _
            clear hM5 hS_ y0 y1 y2 y3 y4 y5 y6 y7 y8 y9 x0 x1 x2 x3 x4 x5 HTX
            have TX := HM5.out.drew.texts
            have HTX := Lib.hid TX
            clear TX
            have x0 : w5.drew.cell? ⟨w.heap.size, 1, none⟩ = some (.slice (some p) n1 c1) := z1
            have x1 : w5.drew.cell? ⟨w.heap.size + 1, 1, none⟩ = some (.slice (some p') n1 c2) := z3
            have x2 : w5.drew.cell? ⟨w.heap.size + 2, 0, none⟩ = some (.slice A n c) := z4
            have x3 : w5.drew.cell? ⟨w.heap.size + 2, 1, none⟩ = some (.slice B m d) := z5
            have x4 : w5.drew.cell? ⟨(p.add (k * 2)).block, (p.add (k * 2)).off + 1, none⟩ = some (.string s) := g1
            have x5 : w5.drew.cell? ⟨(p'.add (k * 2)).block, (p'.add (k * 2)).off + 1, none⟩ = some (.string u.2) := g2
            go_wp2_with fail
            refine wp_region_held_drew (S := fun W => W.cell? ⟨w.heap.size, 1, none⟩ = some (.slice (some p) n1 c1) ∧ W.cell? ⟨w.heap.size + 1, 1, none⟩ = some (.slice (some p') n1 c2) ∧ W.cell? ⟨(p.add (k * 2)).block, (p.add (k * 2)).off + 1, none⟩ = some (.string s) ∧ W.cell? ⟨(p'.add (k * 2)).block, (p'.add (k * 2)).off + 1, none⟩ = some (.string u.2)) (by kernel_rfl) ⟨x0, x1, x4, x5⟩ ?_
            intro hS_
            refine tk 1 (.pointer (some ⟨w.heap.size, 1, none⟩)) hS_ ?_
            refine tk 2 (.slice (some p) n1 c1) hS_ ?_
            refine tk 3 (.int .i64 (k : Int)) hS_ ?_
            refine tk 4 (.pointer (some (p.add (k * 2)))) hS_ ?_
            refine tk 5 (.pointer (some ⟨(p.add (k * 2)).block, (p.add (k * 2)).off + 1, none⟩)) hS_ ?_
            refine tk 6 (.string s) hS_ ?_
            refine tk 7 (.pointer (some ⟨w.heap.size + 1, 1, none⟩)) hS_ ?_
            refine tk 8 (.slice (some p') n1 c2) hS_ ?_
            refine tk 9 (.int .i64 (k : Int)) hS_ ?_
            refine tk 10 (.pointer (some (p'.add (k * 2)))) hS_ ?_
            refine tk 11 (.pointer (some ⟨(p'.add (k * 2)).block, (p'.add (k * 2)).off + 1, none⟩)) hS_ ?_
            refine tk 12 (.string u.2) hS_ ?_
            refine rd1 0 fun K_ hK_ => ?_
            go_simp
            refine hK_.out _ _ ⟨x0, x1, x4, x5⟩ fun hS_ => ?_
            clear hK_
            (try simp only [Act.put, List.setIfInBounds_toArray, List.set_cons_zero, List.set_cons_succ])
            refine rd1 13 fun K_ hK_ => ?_
            go_simp
            go_at_call 168
            refine (l4With_any A B n c m d bs s u.2 _ HTX.out.1 HTX.out.2 (by omega)).mono ?_; rintro e w6 ⟨A6, n6, c6, B6, m6, d6, rfl, i6, j6, hb6⟩
            have hM6 := HM5.out.drew.below hb6
            have HM6 := Lib.hid hM6
            have v1 : w6.cell? ⟨w.heap.size, 1, none⟩ = some (.slice (some p) n1 c1) := hM6.xa.cell 1; have v3 : w6.cell? ⟨w.heap.size + 1, 1, none⟩ = some (.slice (some p') n1 c2) := hM6.xf.cell 1; have v4 : w6.cell? ⟨w.heap.size + 2, 0, none⟩ = some (.slice A n c) := hM6.xb.cell 0; have v5 : w6.cell? ⟨w.heap.size + 2, 1, none⟩ = some (.slice B m d) := hM6.xb.cell 1; have v6 := hM6.xb.frozen 0; have v7 := hM6.xb.frozen 1
            have hzz5 : w.heap.size + 4 ≤ w5.drew.heap.size := HM5.out.hs
            have k1 : w6.cell? ⟨(p.add (k * 2)).block, (p.add (k * 2)).off + 1, none⟩ = some (.string s) := (hb6.cell (p := ⟨(p.add (k * 2)).block, (p.add (k * 2)).off + 1, none⟩) (by show (p.add (k * 2)).block < _; rw [block_add]; omega)).trans x4
            have k2 : w6.cell? ⟨(p'.add (k * 2)).block, (p'.add (k * 2)).off + 1, none⟩ = some (.string u.2) := (hb6.cell (p := ⟨(p'.add (k * 2)).block, (p'.add (k * 2)).off + 1, none⟩) (by show (p'.add (k * 2)).block < _; rw [block_add]; omega)).trans x5
            have HI6 := Lib.hid i6; have HJ6 := Lib.hid j6
            clear i6 j6
            refine hK_.out _ _ ⟨v1, v3, k1, k2⟩ fun hS_ => ?_
            clear hK_
            (try simp only [Act.put, List.setIfInBounds_toArray, List.set_cons_zero, List.set_cons_succ])
            refine rd1 14 fun K_ hK_ => ?_
            go_simp
            have hN := HM6.out.put (bs' := bs ++ [(s, u.2)]) HI6.out HJ6.out (Nat.le_refl _) hzz5
            have HN := Lib.hid hN
            have n1_ : ((w6.setCell ⟨w.heap.size + 2, 0, none⟩ (.slice A6 n6 c6)).setCell ⟨w.heap.size + 2, 1, none⟩ (.slice B6 m6 d6)).cell? ⟨w.heap.size, 1, none⟩ = some (.slice (some p) n1 c1) := hN.xa.cell 1
            have n3_ : ((w6.setCell ⟨w.heap.size + 2, 0, none⟩ (.slice A6 n6 c6)).setCell ⟨w.heap.size + 2, 1, none⟩ (.slice B6 m6 d6)).cell? ⟨w.heap.size + 1, 1, none⟩ = some (.slice (some p') n1 c2) := hN.xf.cell 1
            have fk : ∀ q : Addr, q.block < w.heap.size → ((w6.setCell ⟨w.heap.size + 2, 0, none⟩ (.slice A6 n6 c6)).setCell ⟨w.heap.size + 2, 1, none⟩ (.slice B6 m6 d6)).cell? q = w6.cell? q := fun q hq => World.cell?_of_block ((Below.heap_setCell _ _ _ _ (by show q.block ≠ w.heap.size + 2; omega)).trans (Below.heap_setCell _ _ _ _ (by show q.block ≠ w.heap.size + 2; omega)))
            refine hK_.out _ _ ⟨n1_, n3_, (fk _ (by show (p.add (k * 2)).block < _; rw [block_add]; omega)).trans k1, (fk _ (by show (p'.add (k * 2)).block < _; rw [block_add]; omega)).trans k2⟩ (fun hS2_ => ?_)
            refine wpAnyH_done (by kernel_rfl) ?_ _
            clear hK_ hS_ hS2_ hN n1_ n3_ fk v1 v3 v4 v5 v6 v7 k1 k2 x0 x1 x2 x3 x4 x5 z0 z1 z2 z3 z4 z5 z6 z7 z8 z9 g1 g2
            have hon := Lib.hid (matchT_free (b := bs) HG.out HG'.out (show (true, s).1 = true from rfl) HGW.out)
            go_wp2
            go_roundw
            case rel => exact ⟨k + 1, A6, n6, c6, B6, m6, d6, bs ++ [(s, u.2)], by omega, by go_num, HN.out, hon.out ▸ HP.out, by rw [List.length_append]; simp; omega⟩
            case measure => simp [intOf]; omega
          | some v =>
            go_wp2_with fail
            refine wp_region_held_drew (S := fun W => W.cell? ⟨w.heap.size, 1, none⟩ = some (.slice (some p) n1 c1) ∧ W.cell? ⟨w.heap.size + 1, 1, none⟩ = some (.slice (some p') n1 c2) ∧ W.cell? ⟨w.heap.size + 2, 0, none⟩ = some (.slice A n c) ∧ W.cell? ⟨w.heap.size + 2, 1, none⟩ = some (.slice B m d) ∧ W.cell? ⟨(p.add (k * 2)).block, (p.add (k * 2)).off + 1, none⟩ = some (.string s) ∧ W.cell? ⟨(p'.add (k * 2)).block, (p'.add (k * 2)).off + 1, none⟩ = some (.string u.2)) (by kernel_rfl) ⟨x0, x1, x2, x3, x4, x5⟩ ?_
            intro hS_
            refine tk 0 (.agg #[.slice A n c, .slice B m d]) hS_ ?_
            refine tk 1 (.pointer (some ⟨w.heap.size, 1, none⟩)) hS_ ?_
            refine tk 2 (.slice (some p) n1 c1) hS_ ?_
            refine tk 3 (.int .i64 (k : Int)) hS_ ?_
            refine tk 4 (.pointer (some (p.add (k * 2)))) hS_ ?_
            refine tk 5 (.pointer (some ⟨(p.add (k * 2)).block, (p.add (k * 2)).off + 1, none⟩)) hS_ ?_
            refine tk 6 (.string s) hS_ ?_
            refine rd1 7 fun K_ hK_ => ?_
            go_simp
            go_at_call 85
            refine (l4Get_any A B n c m d bs s _ HTX.out.1 HTX.out.2).mono ?_; rintro e w5 ⟨rfl, hb5⟩
            rw [HGW.out]
            have hM5 := HM.out.drew.below hb5
            have HM5 := Lib.hid hM5
            have z0 := hM5.xa.cell 0; have z1 : w5.cell? ⟨w.heap.size, 1, none⟩ = some (.slice (some p) n1 c1) := hM5.xa.cell 1; have z2 := hM5.xf.cell 0; have z3 : w5.cell? ⟨w.heap.size + 1, 1, none⟩ = some (.slice (some p') n1 c2) := hM5.xf.cell 1; have z4 : w5.cell? ⟨w.heap.size + 2, 0, none⟩ = some (.slice A n c) := hM5.xb.cell 0; have z5 : w5.cell? ⟨w.heap.size + 2, 1, none⟩ = some (.slice B m d) := hM5.xb.cell 1; have z6 := hM5.xr.frozen 0; have z7 := hM5.xr.frozen 1; have z8 := hM5.xr.cell 0; have z9 := hM5.xr.cell 1
            have hzz : w.heap.size ≤ wr.drew.heap.size := by have := HM.out.hs; show w.heap.size ≤ wr.heap.size; omega
            have g1 : w5.cell? ⟨(p.add (k * 2)).block, (p.add (k * 2)).off + 1, none⟩ = some (.string s) := (hb5.cell (p := ⟨(p.add (k * 2)).block, (p.add (k * 2)).off + 1, none⟩) (by show (p.add (k * 2)).block < _; rw [block_add]; omega)).trans x4
            have g2 : w5.cell? ⟨(p'.add (k * 2)).block, (p'.add (k * 2)).off + 1, none⟩ = some (.string u.2) := (hb5.cell (p := ⟨(p'.add (k * 2)).block, (p'.add (k * 2)).off + 1, none⟩) (by show (p'.add (k * 2)).block < _; rw [block_add]; omega)).trans x5
            refine hK_.out _ _ ⟨z1, z3, z4, z5, g1, g2⟩ fun hS_ => ?_
            clear hK_
            refine tk 8 (.tuple #[.string v, .bool true]) hS_ ?_
            refine tk 9 (.string v) hS_ ?_
            refine tk 10 (.bool true) hS_ ?_
            refine tk 11 (.string v) hS_ ?_
            refine tk 12 (.bool true) hS_ ?_
            refine wpAnyH_done (by kernel_rfl) ?_ _
            clear hM5 hS_ y0 y1 y2 y3 y4 y5 y6 y7 y8 y9 x0 x1 x2 x3 x4 x5 HTX
            have hfr : ¬ ((true, s).1 = true ∧ getW bs (true, s).2 = none) := fun e => by have := e.2; rw [HGW.out] at this; cases this
            have hwt : wordT bs (true, s) = v := by unfold wordT; rw [if_pos rfl, HGW.out]; rfl
            cases he : (v.toList == u.2.toList)
            · have hno : matchT ts us b = none := HP.out ▸ matchT_no (b := bs) HG.out HG'.out hfr (by rw [hwt]; intro e; rw [e] at he; simp at he)
              have HNO := Lib.hid hno
              clear hno hfr hwt
              have g2' := g2
              go_wp2
              obtain ⟨lo, hi, j1, j2, j3, j4, j5⟩ := HM5.out.told h0
              refine bodyPost_ret (v := .tuple #[.agg #[.slice A n c, .slice B m d], .bool false]) (by simp [results, Tryz.results126, go_sem, z8, z9]) rfl ⟨_, _, _, _, _, _, bs, false, lo, hi, rfl, j1, j2, j3, j4, j5, fun e => (by cases e), fun _ => by rw [hpure.out]; exact HNO.out⟩
            · have hse : v = u.2 := bytesEq (by have h1 := eq_of_beq he; rwa [ByteArray.toList_eq, ByteArray.toList_eq] at h1)
              have hon := Lib.hid (matchT_same (b := bs) HG.out HG'.out hfr (hwt.trans hse))
              clear hse hfr hwt
              go_wp2
              go_roundw
              case rel => exact ⟨k + 1, A, n, c, B, m, d, bs, by omega, by go_num, HM5.out, hon.out ▸ HP.out, by omega⟩
              case measure => simp [intOf]; omega
      · have hend := Lib.hid (show matchT ts us b = some bs from HP.out ▸ matchT_end (by rw [L1.out]; exact hlt))
        clear hM hP
        go_wp2
        obtain ⟨lo, hi, j1, j2, j3, j4, j5⟩ := HM.out.told h0
        refine bodyPost_ret (v := .tuple #[.agg #[.slice A n c, .slice B m d], .bool true]) (by simp [results, Tryz.results126, go_sem, y8, y9]) rfl ⟨_, _, _, _, _, _, bs, true, lo, hi, rfl, j1, j2, j3, j4, j5, fun _ => by rw [hpure.out]; exact hend.out, fun e => (by cases e)⟩
  · have hpure := Lib.hid (show matchA (nm, ts) (nm2, us) b = none from by
      unfold matchA
      rw [if_neg]
      rintro ⟨e1, e2⟩
      exact hnm ⟨e1, by rw [← L1.out, ← L2.out]; exact e2⟩)
    have fin : ∀ W9 : World, W9 = w4 → True := fun _ _ => trivial
    by_cases e1 : nm = nm2
    · have e2 : ¬ n1 = n2 := fun e => hnm ⟨e1, e⟩
      have e3 : ¬ (n1 : Int) = (n2 : Int) := by omega
      have e4 : (nm.toList == nm2.toList) = true := by rw [e1]; exact beq_self_eq_true _
      clear hnm e1 e2 fin
      go_wp2_with (first | rw [HQ3.out] | rw [HQ4.out])
      obtain ⟨lo, hi, j1, j2, j3, j4, j5⟩ := HM0.out.told h0
      refine bodyPost_ret (v := .tuple #[.agg #[.slice A n c, .slice B m d], .bool false]) (by simp [results, Tryz.results126, go_sem, q8, q9]) rfl ⟨_, _, _, _, _, _, b, false, lo, hi, rfl, j1, j2, j3, j4, j5, fun e => (by cases e), fun _ => hpure.out⟩
    · have e4 : (nm.toList == nm2.toList) = false := by
        cases e : (nm.toList == nm2.toList)
        · rfl
        · exact absurd (bytesEq (by have h1 := eq_of_beq e; rwa [ByteArray.toList_eq, ByteArray.toList_eq] at h1)) e1
      clear hnm e1 fin
      go_wp2_with (first | rw [HQ3.out] | rw [HQ4.out])
      obtain ⟨lo, hi, j1, j2, j3, j4, j5⟩ := HM0.out.told h0
      refine bodyPost_ret (v := .tuple #[.agg #[.slice A n c, .slice B m d], .bool false]) (by simp [results, Tryz.results126, go_sem, q8, q9]) rfl ⟨_, _, _, _, _, _, b, false, lo, hi, rfl, j1, j2, j3, j4, j5, fun e => (by cases e), fun _ => hpure.out⟩

end Go.Proofs.YtcigljngiemdeaaGreat
