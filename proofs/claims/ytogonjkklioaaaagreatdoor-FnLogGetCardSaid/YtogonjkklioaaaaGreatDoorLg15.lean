/-
  Texts of one claim, put together.
-/
import Derived.Test.YtogonjkklioaaaaGreatDoorLg6
set_option maxRecDepth 100000
set_option maxHeartbeats 8000000
namespace Go.Proofs.YtogonjkklioaaaaGreatDoor
open Go.RowKit
def zdi (ls : List ByteArray) (ts : List Tm) : List ByteArray := (zce ts).foldl putT ls
theorem putT_len (ls : List ByteArray) (s : ByteArray) : (putT ls s).length ≤ ls.length + 1 := by
  unfold putT; by_cases h : (ls.dropWhile (ltT s)).head? = some s
  · rw [if_pos h]; omega
  · rw [if_neg h, List.length_append, List.length_cons]
    have := congrArg List.length (List.takeWhile_append_dropWhile (p := ltT s) (l := ls)); rw [List.length_append] at this; omega
theorem putsT_len : ∀ (vs ls : List ByteArray), (vs.foldl putT ls).length ≤ ls.length + vs.length
  | [], ls => by simp
  | v :: vs, ls => by
    have := putsT_len vs (putT ls v); have := putT_len ls v; simp only [List.foldl_cons, List.length_cons]; omega
theorem znl (ls : List ByteArray) (ts : List Tm) : (zdi ls ts).length ≤ ls.length + ts.length := by
  unfold zdi; have h1 := putsT_len (zce ts) ls; have h2 := varsOf_len ts ts.length; rw [List.take_of_length_le (nl _)] at h2; omega
theorem varsT_no {ls : List ByteArray} {ts : List Tm} {k : Nat} {t : Tm} (h : ts[k]? = some t) (ht : t.1 = false) : zdi ls (ts.take (k + 1)) = zdi ls (ts.take k) := by unfold zdi; rw [varsOf_no h ht]
theorem varsT_yes {ls : List ByteArray} {ts : List Tm} {k : Nat} {t : Tm} (h : ts[k]? = some t) (ht : t.1 = true) : zdi ls (ts.take (k + 1)) = putT (zdi ls (ts.take k)) t.2 := by unfold zdi; rw [zkk h ht, List.foldl_append]; rfl
theorem zkz (nm : ByteArray) (A : Option Addr) (n c : Nat) (ts : List Tm) (p : Addr) (m d : Nat) (ls : List ByteArray) (w : World) (L0 : Nat) (hL0 : L0 ≤ w.heap.size) (h : IsTerms w 0 w.heap.size A n c ts) (h' : IsTexts w L0 w.heap.size (some p) m d ls) (hmax : m + n ≤ 1048576) :
    Calls Tryz.prog 164 #[.agg #[.string nm, .slice A n c], .slice (some p) m d] w (zqf L0 (zdi ls ts) w) := by
  have hw0 := zac w (.cells #[.string nm, .slice A n c] 51); have X0 := hid (Box.new w (.string nm) (.slice A n c) 51); have HL := hid h.1; have a2 := hid h'.1; have H0 := hid (h.up hw0); have a3 := hid (h'.up TextE.stays hw0); clear h h'; obtain ⟨W0, a6⟩ : ∃ W0, w.alloc (.cells #[.string nm, .slice A n c] 51) = W0 := ⟨_, rfl⟩; go_enter Tryz.func164, Tryz.ntmps164; go_wp2_with fail; rw [a6] at hw0 X0 H0 a3; have a7 := hw0
  have HW := hid hw0; clear hw0; go_loopw [1, 5] (fun v i wr => ∃ (k : Nat) (p' : Addr) (d' : Nat), k ≤ n ∧ i = .int .i64 (k : Int) ∧ v = .slice (some p') (zdi ls (ts.take k)).length d' ∧ IsTexts wr L0 wr.heap.size (some p') (zdi ls (ts.take k)).length d' (zdi ls (ts.take k)) ∧ Below W0.heap.size W0 wr) (fun _ i _ => n - (intOf i).toNat)
  case atStart => exact ⟨0, p, d, Nat.zero_le _, rfl, by rw [← a2.out]; rfl, by have := a3.out; rw [← a2.out] at this; exact this, Below.refl _ _⟩
  case round =>
    obtain ⟨k, p', d', hk, rfl, rfl, hT, hb⟩ := hrel; have HT := hid hT; clear hT; obtain ⟨_, x0, x1⟩ := X0.out.later hb; by_cases hlt : k < n
    · have a9 : (k : Int) < (n : Int) := qaa
      obtain ⟨q, t, hA, -, hhi, hg, c1, c2, c3⟩ := (H0.out.below hb (nl _)).at_ hlt; subst hA; have HG := hid hg; clear hg; have hlen := znl ls (ts.take k); rw [List.length_take, HL.out, a2.out] at hlen; have a5 := Nat.min_le_left k n; cases ht : t.1
      · rw [ht] at c1
        go_wp2; go_roundw
        case rel => exact ⟨k + 1, p', d', by omega, by go_num, by rw [varsT_no HG.out ht], by rw [varsT_no HG.out ht]; exact HT.out, hb⟩
        case measure => exact qms
      · rw [ht] at c1
        go_wp2_with fail; refine (l2Put_any p' _ d' (zdi ls (ts.take k)) t.2 wr L0 (by have := a7.size; have := hb.size; omega) HT.out qaa).mono ?_; rintro e w2 ⟨p2, d2, rfl, a4, hb2⟩; have a8 := hid a4; have hb3 := zaa hb hb2; clear a4 hb2; go_wp2; go_roundw
        case rel => exact ⟨k + 1, p2, d2, by omega, by go_num, by rw [varsT_yes HG.out ht], by rw [varsT_yes HG.out ht]; exact a8.out, hb3⟩
        case measure => exact qms
    · have hk2 : k = n := qaa
      have e : zdi ls (ts.take k) = zdi ls ts := by rw [List.take_of_length_le (by rw [HL.out]; omega)]
      have E := hid e; clear e; go_wp2; go_ret; exact ⟨p', d', by rw [E.out]; rfl, by rw [← E.out]; exact HT.out, zaa HW.out hb⟩
def zcl (ls : List ByteArray) (qs : List Pt) : List ByteArray := qs.foldl (fun L q => zdi L q.2.2) ls
theorem zgd {ls : List ByteArray} {qs : List Pt} {k : Nat} {q : Pt} (h : qs[k]? = some q) : zcl ls (qs.take (k + 1)) = zdi (zcl ls (qs.take k)) q.2.2 := by
  unfold zcl; rw [List.take_add_one, h, List.foldl_append]; rfl
theorem zkv : ∀ (qs : List Pt) (ls : List ByteArray), (∀ q ∈ qs, q.2.2.length ≤ 3) → (zcl ls qs).length ≤ ls.length + 3 * qs.length
  | [], ls, _ => by simp [zcl]
  | q :: qs, ls, h => by
    have h1 := zkv qs (zdi ls q.2.2) (fun x hx => h x (List.mem_cons_of_mem _ hx)); have h2 := znl ls q.2.2; have h3 := h q (List.mem_cons_self ..); show (zcl (zdi ls q.2.2) qs).length ≤ _; simp only [List.length_cons]; omega
end Go.Proofs.YtogonjkklioaaaaGreatDoor
namespace Go.Proofs.YtogonjkklioaaaaGreatDoor
open Go.RowKit
def ziy (qs : List Pt) : List Pt := qs.filter fun q => !q.1
theorem musts_no {qs : List Pt} {k : Nat} {q : Pt} (h : qs[k]? = some q) (hq : q.1 = true) : ziy (qs.take (k + 1)) = ziy (qs.take k) := by unfold ziy; rw [List.take_add_one, h, List.filter_append]; simp [hq]
theorem musts_yes {qs : List Pt} {k : Nat} {q : Pt} (h : qs[k]? = some q) (hq : q.1 = false) : ziy (qs.take (k + 1)) = ziy (qs.take k) ++ [q] := by unfold ziy; rw [List.take_add_one, h, List.filter_append]; simp [hq]
theorem musts_len (qs : List Pt) (k : Nat) : (ziy (qs.take k)).length ≤ k := Nat.le_trans (List.length_filter_le _ _) qdi
theorem zoh (ls : List ByteArray) (qs : List Pt) (q : Pt) : zcl ls (qs ++ [q]) = zdi (zcl ls qs) q.2.2 := by unfold zcl; rw [List.foldl_append]; rfl
def zno (hd : List Tm) (qs : List Pt) : Bool := decide ((zcl (zdi [] hd) qs).length = (zcl [] (ziy qs)).length)
theorem zov (nm : ByteArray) (A : Option Addr) (n c : Nat) (hd : List Tm) (B : Option Addr) (m d : Nat) (qs : List Pt) (w : World) (h : IsTerms w 0 w.heap.size A n c hd) (h' : zeg w 0 w.heap.size B m d qs) (h3 : ∀ q ∈ qs, q.2.2.length ≤ 3) (hn : n ≤ 1000) (hmax : m ≤ 1000) :
    Calls Tryz.prog 137 #[.agg #[.string nm, .slice A n c, .slice B m d]] w (zas (zno hd qs) w) := by
  have HL := hid h'.1; have e8 := hid h.1; have H3 := hid h3; clear h3; have hb3 := ((zac w (.cells #[.string nm, .slice A n c, .slice B m d] 174)).trans ((zac _ (.cells #[] 9)).mono qag)).trans ((zac ((w.alloc (.cells #[.string nm, .slice A n c, .slice B m d] 174)).alloc (.cells #[] 9)) (.cells #[] 9)).mono qah); have X0 := ((Blk.new w 174 #[.string nm, .slice A n c, .slice B m d]).alloc (.cells #[] 9)).alloc (.cells #[] 9); obtain ⟨W0, b5⟩ : ∃ W0, ((w.alloc (.cells #[.string nm, .slice A n c, .slice B m d] 174)).alloc (.cells #[] 9)).alloc (.cells #[] 9) = W0 := ⟨_, rfl⟩
  have hz0 : W0.heap.size = w.heap.size + 3 := by rw [← b5]; simp
  go_enter Tryz.func137, Tryz.ntmps137; go_wp2_with fail; rw [b5] at hb3 X0; have d9 := hid hb3; have HX := hid X0; have HT := hid (h.up hb3); have HP := hid (h'.up PartE.stays hb3); clear h h' hb3 X0; refine (zkz nm A n c hd ⟨w.heap.size + 2, 0, none⟩ 0 0 [] W0 0 (Nat.zero_le _) HT.out ⟨rfl, nl _, Nat.zero_le _, fun h0 => absurd h0 qag⟩ qaa).mono ?_; rintro e w1 ⟨p1, d1, rfl, b6, hb1⟩; have a2 := znl [] hd; rw [e8.out] at a2; simp only [List.length_nil] at a2; have g0 := hid b6; have HX1 := hid (HX.out.below hb1); have e7 := hid (HP.out.up PartE.stays hb1); have HB1 := hid (zaa d9.out hb1)
  have hz1 := hb1.size; clear b6 hb1; go_wp2_with fail; go_loopw [3, 4, 5] (fun b a i wr => ∃ (k : Nat) (p2 : Addr) (d2 : Nat) (p3 : Addr) (d3 : Nat), k ≤ m ∧ i = .int .i64 (k : Int) ∧ b = .slice (some p2) (zcl [] (ziy (qs.take k))).length d2 ∧ IsTexts wr 0 wr.heap.size (some p2) (zcl [] (ziy (qs.take k))).length d2 (zcl [] (ziy (qs.take k))) ∧ a = .slice (some p3) (zcl (zdi [] hd) (qs.take k)).length d3 ∧ IsTexts wr 0 wr.heap.size (some p3) (zcl (zdi [] hd) (qs.take k)).length d3 (zcl (zdi [] hd) (qs.take k)) ∧ Below w1.heap.size w1 wr) (fun _ _ i _ => m - (intOf i).toNat)
  case atStart => exact ⟨0, ⟨w.heap.size + 1, 0, none⟩, 0, p1, d1, Nat.zero_le _, rfl, rfl, ⟨rfl, nl _, Nat.zero_le _, fun h0 => absurd h0 (by simp [zcl, ziy])⟩, rfl, g0.out, Below.refl _ _⟩
  case round =>
    obtain ⟨k, p2, d2, p3, d3, hk, rfl, rfl, b3, rfl, b9, hb⟩ := hrel; have g6 := hid b3; have g7 := hid b9; clear b3 b9; have BX := HX1.out.below hb; have x0 : wr.cell? ⟨w.heap.size, 0, none⟩ = some (.string nm) := BX.cell 0; have x1 : wr.cell? ⟨w.heap.size, 1, none⟩ = some (.slice A n c) := BX.cell 1; have x2 : wr.cell? ⟨w.heap.size, 2, none⟩ = some (.slice B m d) := BX.cell 2; have a5 := zkv (qs.take k) (zdi [] hd) (fun x hx => H3.out x (List.mem_of_mem_take hx)); have a3 := zkv (ziy (qs.take k)) [] (fun x hx => H3.out x (List.mem_of_mem_take (List.mem_filter.1 hx).1)); have hml := musts_len qs k
    rw [List.length_take, HL.out] at a5; have e6 := Nat.min_le_left k m; by_cases hlt : k < m
    · have g1 : (k : Int) < (m : Int) := qaa
      obtain ⟨q, t, hA, -, hhi, hg, hE⟩ := (e7.out.below PartE.stays hb (nl _)).at_ hlt; obtain ⟨C, n5, c5, c1, c2, c3, c4, a7⟩ := hE.out; clear hE; subst hA; have g2 := H3.out t (List.mem_of_getElem? hg); have hl5 := a7.1; have HG := hid hg; clear hg; have c0 := hid (a7.keep (w' := wr) (lo' := 0) (hi' := wr.heap.size) (fun _ _ _ => rfl) (nl _) hb.size); clear a7; go_wp2_with fail; refine (zkz t.2.1 C n5 c5 t.2.2 p3 _ d3 (zcl (zdi [] hd) (qs.take k)) wr 0 (Nat.zero_le _) c0.out g7.out qaa).mono ?_; rintro e w2 ⟨p4, d4, rfl, b7, hb2⟩; have c7 := hid b7; have a4 := hid (g6.out.up TextE.stays hb2); have hb4 := zaa hb hb2
      have g5 := BX.below hb2; have y2 : w2.cell? ⟨w.heap.size, 2, none⟩ = some (.slice (some q) m d) := g5.cell 2; have a8 : (q.add (k * 3)).block < wr.heap.size := qas; have e1 := (hb2.cell (p := q.add (k * 3)) a8).trans c1; have e2 := (hb2.cell (p := ⟨(q.add (k * 3)).block, (q.add (k * 3)).off + 1, none⟩) a8).trans c2; have e4 := (hb2.cell (p := ⟨(q.add (k * 3)).block, (q.add (k * 3)).off + 2, none⟩) a8).trans c4; have a6 := hid (c0.out.up hb2); clear b7 x0 x1 x2 c1 c2 c4; cases ht : t.1
      · rw [ht] at e1
        go_wp2_with fail; refine (zkz t.2.1 C n5 c5 t.2.2 p2 _ d2 (zcl [] (ziy (qs.take k))) w2 0 (Nat.zero_le _) a6.out a4.out (by simp only [List.length_nil] at a3; omega)).mono ?_; rintro e w6 ⟨p6, d6, rfl, d7, b4⟩; have HT6 := hid d7; have a9 := hid (c7.out.up TextE.stays b4); have hb7 := zaa hb4 b4; clear d7; go_wp2; go_roundw
        case rel => exact ⟨k + 1, p6, d6, p4, d4, by omega, by go_num, by rw [musts_yes HG.out ht, zoh], by rw [musts_yes HG.out ht, zoh]; exact HT6.out, by rw [zgd HG.out], by rw [zgd HG.out]; exact a9.out, hb7⟩
        case measure => exact qms
      · rw [ht] at e1
        go_wp2; go_roundw
        case rel => exact ⟨k + 1, p2, d2, p4, d4, by omega, by go_num, by rw [musts_no HG.out ht], by rw [musts_no HG.out ht]; exact a4.out, by rw [zgd HG.out], by rw [zgd HG.out]; exact c7.out, hb4⟩
        case measure => exact qms
    · have e1 : qs.take k = qs := List.take_of_length_le (by rw [HL.out]; omega)
      have E := hid (show (((zcl (zdi [] hd) qs).length : Int) == ((zcl [] (ziy qs)).length : Int)) = zno hd qs by unfold zno; rw [Bool.eq_iff_iff, decide_eq_true_eq, beq_iff_eq]; omega); go_wp2; go_ret; exact ⟨zdb (by first | exact E.out.symm | exact E.out), zaa HB1.out hb⟩
end Go.Proofs.YtogonjkklioaaaaGreatDoor
