/-
  The variables of atoms, of parts and of a rule, in the model: put among others; and whether each is in something that must be.
  A rule of what is asked, and whether each of its variables is in something that must be, in the model.
-/
import Derived.Test.YtcigljngiemdeaaGreatAo0
import Derived.Test.YtcigljngiemdeaaGreatAo4
import Derived.Test.YtcigljngiemdeaaGreatAo2
import Derived.Deep.RegionLaw
import Derived.Deep.AppendLies
set_option maxRecDepth 100000
set_option maxHeartbeats 8000000
namespace Go.Proofs.YtcigljngiemdeaaGreat
open Go.RowKit
def varsT (ls : List ByteArray) (ts : List Tm) : List ByteArray := (varsOf ts).foldl putT ls
theorem putT_len (ls : List ByteArray) (s : ByteArray) : (putT ls s).length ≤ ls.length + 1 := by
  unfold putT; by_cases h : (ls.dropWhile (ltT s)).head? = some s
  · rw [if_pos h]; omega
  · rw [if_neg h, List.length_append, List.length_cons]
    have := congrArg List.length (List.takeWhile_append_dropWhile (p := ltT s) (l := ls)); rw [List.length_append] at this; omega
theorem putsT_len : ∀ (vs ls : List ByteArray), (vs.foldl putT ls).length ≤ ls.length + vs.length
  | [], ls => by simp
  | v :: vs, ls => by
    have := putsT_len vs (putT ls v); have := putT_len ls v; simp only [List.foldl_cons, List.length_cons]; omega
theorem varsT_len (ls : List ByteArray) (ts : List Tm) : (varsT ls ts).length ≤ ls.length + ts.length := by
  unfold varsT; have h1 := putsT_len (varsOf ts) ls; have h2 := varsOf_len ts ts.length; rw [List.take_of_length_le (nl _)] at h2; omega
theorem varsT_no {ls : List ByteArray} {ts : List Tm} {k : Nat} {t : Tm} (h : ts[k]? = some t) (ht : t.1 = false) : varsT ls (ts.take (k + 1)) = varsT ls (ts.take k) := by unfold varsT; rw [varsOf_no h ht]
theorem varsT_yes {ls : List ByteArray} {ts : List Tm} {k : Nat} {t : Tm} (h : ts[k]? = some t) (ht : t.1 = true) : varsT ls (ts.take (k + 1)) = putT (varsT ls (ts.take k)) t.2 := by unfold varsT; rw [varsOf_yes h ht, List.foldl_append]; rfl
theorem l2Vars_any (nm : ByteArray) (A : Option Addr) (n c : Nat) (ts : List Tm) (p : Addr) (m d : Nat) (ls : List ByteArray) (w : World) (L0 : Nat) (hL0 : L0 ≤ w.heap.size) (h : IsTerms w 0 w.heap.size A n c ts) (h' : IsTexts w L0 w.heap.size (some p) m d ls) (hmax : m + n ≤ 1048576) :
    Calls Tryz.prog 118 #[.agg #[.string nm, .slice A n c], .slice (some p) m d] w (TextsPost L0 (varsT ls ts) w) := by
  have hw0 := below1 w (.cells #[.string nm, .slice A n c] 49); have X0 := hid (Box.new w (.string nm) (.slice A n c) 49); have HL := hid h.1; have HL' := hid h'.1; have H0 := hid (h.up hw0); have H0' := hid (h'.up TextE.stays hw0); clear h h'; obtain ⟨W0, hW0⟩ : ∃ W0, w.alloc (.cells #[.string nm, .slice A n c] 49) = W0 := ⟨_, rfl⟩; go_enter Tryz.func118, Tryz.ntmps118; go_wp2_with fail; rw [hW0] at hw0 X0 H0 H0'; have hw1 := hw0
  have HW := hid hw0; clear hw0; go_loopw [1, 5] (fun v i wr => ∃ (k : Nat) (p' : Addr) (d' : Nat), k ≤ n ∧ i = .int .i64 (k : Int) ∧ v = .slice (some p') (varsT ls (ts.take k)).length d' ∧ IsTexts wr L0 wr.heap.size (some p') (varsT ls (ts.take k)).length d' (varsT ls (ts.take k)) ∧ Below W0.heap.size W0 wr) (fun _ i _ => n - (intOf i).toNat)
  case atStart => exact ⟨0, p, d, Nat.zero_le _, rfl, by rw [← HL'.out]; rfl, by have := H0'.out; rw [← HL'.out] at this; exact this, Below.refl _ _⟩
  case round =>
    obtain ⟨k, p', d', hk, rfl, rfl, hT, hb⟩ := hrel; have HT := hid hT; clear hT; obtain ⟨_, x0, x1⟩ := X0.out.later hb; by_cases hlt : k < n
    · have hlt2 : (k : Int) < (n : Int) := qaa
      obtain ⟨q, t, hA, -, hhi, hg, c1, c2, c3⟩ := (H0.out.below hb (nl _)).at_ hlt; subst hA; have HG := hid hg; clear hg; have hlen := varsT_len ls (ts.take k); rw [List.length_take, HL.out, HL'.out] at hlen; have hmin := Nat.min_le_left k n; cases ht : t.1
      · rw [ht] at c1
        go_wp2; go_roundw
        case rel => exact ⟨k + 1, p', d', by omega, by go_num, by rw [varsT_no HG.out ht], by rw [varsT_no HG.out ht]; exact HT.out, hb⟩
        case measure => exact qms
      · rw [ht] at c1
        go_wp2_with fail; refine (l2Put_any p' _ d' (varsT ls (ts.take k)) t.2 wr L0 (by have := hw1.size; have := hb.size; omega) HT.out qaa).mono ?_; rintro e w2 ⟨p2, d2, rfl, hT2, hb2⟩; have HT2 := hid hT2; have hb3 := belowThen hb hb2; clear hT2 hb2; go_wp2; go_roundw
        case rel => exact ⟨k + 1, p2, d2, by omega, by go_num, by rw [varsT_yes HG.out ht], by rw [varsT_yes HG.out ht]; exact HT2.out, hb3⟩
        case measure => exact qms
    · have hk2 : k = n := qaa
      have e : varsT ls (ts.take k) = varsT ls ts := by rw [List.take_of_length_le qdj]
      have E := hid e; clear e; go_wp2; go_ret; exact ⟨p', d', by rw [E.out]; rfl, by rw [← E.out]; exact HT.out, belowThen HW.out hb⟩
def partsT (ls : List ByteArray) (qs : List Pt) : List ByteArray := qs.foldl (fun L q => varsT L q.2.2) ls
theorem partsT_step {ls : List ByteArray} {qs : List Pt} {k : Nat} {q : Pt} (h : qs[k]? = some q) : partsT ls (qs.take (k + 1)) = varsT (partsT ls (qs.take k)) q.2.2 := by
  unfold partsT; rw [List.take_add_one, h, List.foldl_append]; rfl
theorem partsT_len : ∀ (qs : List Pt) (ls : List ByteArray), (∀ q ∈ qs, q.2.2.length ≤ 3) → (partsT ls qs).length ≤ ls.length + 3 * qs.length
  | [], ls, _ => by simp [partsT]
  | q :: qs, ls, h => by
    have h1 := partsT_len qs (varsT ls q.2.2) (fun x hx => h x (List.mem_cons_of_mem _ hx)); have h2 := varsT_len ls q.2.2; have h3 := h q (List.mem_cons_self ..); show (partsT (varsT ls q.2.2) qs).length ≤ _; simp only [List.length_cons]; omega
end Go.Proofs.YtcigljngiemdeaaGreat
namespace Go.Proofs.YtcigljngiemdeaaGreat
open Go.RowKit
def musts (qs : List Pt) : List Pt := qs.filter fun q => !q.1
theorem musts_no {qs : List Pt} {k : Nat} {q : Pt} (h : qs[k]? = some q) (hq : q.1 = true) : musts (qs.take (k + 1)) = musts (qs.take k) := by unfold musts; rw [List.take_add_one, h, List.filter_append]; simp [hq]
theorem musts_yes {qs : List Pt} {k : Nat} {q : Pt} (h : qs[k]? = some q) (hq : q.1 = false) : musts (qs.take (k + 1)) = musts (qs.take k) ++ [q] := by unfold musts; rw [List.take_add_one, h, List.filter_append]; simp [hq]
theorem musts_len (qs : List Pt) (k : Nat) : (musts (qs.take k)).length ≤ k := Nat.le_trans (List.length_filter_le _ _) qcn
theorem partsT_snoc (ls : List ByteArray) (qs : List Pt) (q : Pt) : partsT ls (qs ++ [q]) = varsT (partsT ls qs) q.2.2 := by unfold partsT; rw [List.foldl_append]; rfl
def tightB (hd : List Tm) (qs : List Pt) : Bool := decide ((partsT (varsT [] hd) qs).length = (partsT [] (musts qs)).length)
theorem l2Tight_any (nm : ByteArray) (A : Option Addr) (n c : Nat) (hd : List Tm) (B : Option Addr) (m d : Nat) (qs : List Pt) (w : World) (h : IsTerms w 0 w.heap.size A n c hd) (h' : IsParts w 0 w.heap.size B m d qs) (h3 : ∀ q ∈ qs, q.2.2.length ≤ 3) (hn : n ≤ 1000) (hmax : m ≤ 1000) :
    Calls Tryz.prog 71 #[.agg #[.string nm, .slice A n c, .slice B m d]] w (BoolPost (tightB hd qs) w) := by
  have HL := hid h'.1; have HLA := hid h.1; have H3 := hid h3; clear h3; have hb3 := ((below1 w (.cells #[.string nm, .slice A n c, .slice B m d] 114)).trans ((below1 _ (.cells #[] 9)).mono qad)).trans ((below1 ((w.alloc (.cells #[.string nm, .slice A n c, .slice B m d] 114)).alloc (.cells #[] 9)) (.cells #[] 9)).mono qaf); have X0 := ((Blk.new w 114 #[.string nm, .slice A n c, .slice B m d]).alloc (.cells #[] 9)).alloc (.cells #[] 9); obtain ⟨W0, hW0⟩ : ∃ W0, ((w.alloc (.cells #[.string nm, .slice A n c, .slice B m d] 114)).alloc (.cells #[] 9)).alloc (.cells #[] 9) = W0 := ⟨_, rfl⟩
  have hz0 : W0.heap.size = w.heap.size + 3 := by rw [← hW0]; simp
  go_enter Tryz.func71, Tryz.ntmps71; go_wp2_with fail; rw [hW0] at hb3 X0; have HB0 := hid hb3; have HX := hid X0; have HT := hid (h.up hb3); have HP := hid (h'.up PartE.stays hb3); clear h h' hb3 X0; refine (l2Vars_any nm A n c hd ⟨w.heap.size + 2, 0, none⟩ 0 0 [] W0 0 (Nat.zero_le _) HT.out ⟨rfl, nl _, Nat.zero_le _, fun h0 => absurd h0 qad⟩ qaa).mono ?_; rintro e w1 ⟨p1, d1, rfl, hT1, hb1⟩; have hlen1 := varsT_len [] hd; rw [HLA.out] at hlen1; simp only [List.length_nil] at hlen1; have HT1 := hid hT1; have HX1 := hid (HX.out.below hb1); have HP1 := hid (HP.out.up PartE.stays hb1); have HB1 := hid (belowThen HB0.out hb1)
  have hz1 := hb1.size; clear hT1 hb1; go_wp2_with fail; go_loopw [3, 4, 5] (fun b a i wr => ∃ (k : Nat) (p2 : Addr) (d2 : Nat) (p3 : Addr) (d3 : Nat), k ≤ m ∧ i = .int .i64 (k : Int) ∧ b = .slice (some p2) (partsT [] (musts (qs.take k))).length d2 ∧ IsTexts wr 0 wr.heap.size (some p2) (partsT [] (musts (qs.take k))).length d2 (partsT [] (musts (qs.take k))) ∧ a = .slice (some p3) (partsT (varsT [] hd) (qs.take k)).length d3 ∧ IsTexts wr 0 wr.heap.size (some p3) (partsT (varsT [] hd) (qs.take k)).length d3 (partsT (varsT [] hd) (qs.take k)) ∧ Below w1.heap.size w1 wr) (fun _ _ i _ => m - (intOf i).toNat)
  case atStart => exact ⟨0, ⟨w.heap.size + 1, 0, none⟩, 0, p1, d1, Nat.zero_le _, rfl, rfl, ⟨rfl, nl _, Nat.zero_le _, fun h0 => absurd h0 (by simp [partsT, musts])⟩, rfl, HT1.out, Below.refl _ _⟩
  case round =>
    obtain ⟨k, p2, d2, p3, d3, hk, rfl, rfl, hT2, rfl, hT3, hb⟩ := hrel; have HT2 := hid hT2; have HT3 := hid hT3; clear hT2 hT3; have BX := HX1.out.below hb; have x0 : wr.cell? ⟨w.heap.size, 0, none⟩ = some (.string nm) := BX.cell 0; have x1 : wr.cell? ⟨w.heap.size, 1, none⟩ = some (.slice A n c) := BX.cell 1; have x2 : wr.cell? ⟨w.heap.size, 2, none⟩ = some (.slice B m d) := BX.cell 2; have hlenA := partsT_len (qs.take k) (varsT [] hd) (fun x hx => H3.out x (List.mem_of_mem_take hx)); have hlenB := partsT_len (musts (qs.take k)) [] (fun x hx => H3.out x (List.mem_of_mem_take (List.mem_filter.1 hx).1))
    have hml := musts_len qs k; rw [List.length_take, HL.out] at hlenA; have hmin := Nat.min_le_left k m; by_cases hlt : k < m
    · have hlt2 : (k : Int) < (m : Int) := qaa
      obtain ⟨q, t, hA, -, hhi, hg, hE⟩ := (HP1.out.below PartE.stays hb (nl _)).at_ hlt; obtain ⟨C, n5, c5, c1, c2, c3, c4, c5'⟩ := hE.out; clear hE; subst hA; have hmem := H3.out t (List.mem_of_getElem? hg); have hl5 := c5'.1; have HG := hid hg; clear hg; have HT5 := hid (c5'.keep (w' := wr) (lo' := 0) (hi' := wr.heap.size) (fun _ _ _ => rfl) (nl _) hb.size); clear c5'; go_wp2_with fail; refine (l2Vars_any t.2.1 C n5 c5 t.2.2 p3 _ d3 (partsT (varsT [] hd) (qs.take k)) wr 0 (Nat.zero_le _) HT5.out HT3.out qaa).mono ?_; rintro e w2 ⟨p4, d4, rfl, hT4, hb2⟩; have HT4 := hid hT4; have HT2' := hid (HT2.out.up TextE.stays hb2); have hb4 := belowThen hb hb2
      have BX2 := BX.below hb2; have y2 : w2.cell? ⟨w.heap.size, 2, none⟩ = some (.slice (some q) m d) := BX2.cell 2; have hqs : (q.add (k * 3)).block < wr.heap.size := qan; have e1 := (hb2.cell (p := q.add (k * 3)) hqs).trans c1; have e2 := (hb2.cell (p := ⟨(q.add (k * 3)).block, (q.add (k * 3)).off + 1, none⟩) hqs).trans c2; have e4 := (hb2.cell (p := ⟨(q.add (k * 3)).block, (q.add (k * 3)).off + 2, none⟩) hqs).trans c4; have HT5' := hid (HT5.out.up hb2); clear hT4 x0 x1 x2 c1 c2 c4; cases ht : t.1
      · rw [ht] at e1
        go_wp2_with fail; refine (l2Vars_any t.2.1 C n5 c5 t.2.2 p2 _ d2 (partsT [] (musts (qs.take k))) w2 0 (Nat.zero_le _) HT5'.out HT2'.out (by simp only [List.length_nil] at hlenB; omega)).mono ?_; rintro e w6 ⟨p6, d6, rfl, hT6, hb6⟩; have HT6 := hid hT6; have HT4' := hid (HT4.out.up TextE.stays hb6); have hb7 := belowThen hb4 hb6; clear hT6; go_wp2; go_roundw
        case rel => exact ⟨k + 1, p6, d6, p4, d4, by omega, by go_num, by rw [musts_yes HG.out ht, partsT_snoc], by rw [musts_yes HG.out ht, partsT_snoc]; exact HT6.out, by rw [partsT_step HG.out], by rw [partsT_step HG.out]; exact HT4'.out, hb7⟩
        case measure => exact qms
      · rw [ht] at e1
        go_wp2; go_roundw
        case rel => exact ⟨k + 1, p2, d2, p4, d4, by omega, by go_num, by rw [musts_no HG.out ht], by rw [musts_no HG.out ht]; exact HT2'.out, by rw [partsT_step HG.out], by rw [partsT_step HG.out]; exact HT4.out, hb4⟩
        case measure => exact qms
    · have e1 : qs.take k = qs := List.take_of_length_le qdj
      have E := hid (show (((partsT (varsT [] hd) qs).length : Int) == ((partsT [] (musts qs)).length : Int)) = tightB hd qs by unfold tightB; rw [Bool.eq_iff_iff, decide_eq_true_eq, beq_iff_eq]; omega); go_wp2; go_ret; exact ⟨retB (by first | exact E.out.symm | exact E.out), belowThen HB1.out hb⟩
def asVars (vs : List ByteArray) : List Tm := vs.map fun s => (true, s)
def RuleAsks (nm : ByteArray) (B : Option Addr) (m d : Nat) (vs : List ByteArray) (w : World) (e : Ending) (w' : World) : Prop :=
  ∃ A c, e = .returned (.agg #[.string nm, .slice A vs.length c, .slice B m d]) ∧ IsTerms w' 0 w'.heap.size A vs.length c (asVars vs) ∧ Below w.heap.size w w'
end Go.Proofs.YtcigljngiemdeaaGreat
