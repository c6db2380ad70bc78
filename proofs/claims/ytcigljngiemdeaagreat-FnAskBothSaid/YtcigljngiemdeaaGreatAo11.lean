/-
  Texts of one claim, put together.
-/
import Derived.Test.YtcigljngiemdeaaGreatAo0
import Derived.Test.YtcigljngiemdeaaGreatAo9
import Derived.Deep.QuietTactic
import Derived.BigQuiet
import Derived.Test.YtcigljngiemdeaaGreatAo4
import Derived.Test.YtcigljngiemdeaaGreatAo8
import Derived.Test.YtcigljngiemdeaaGreatAo10
set_option maxRecDepth 100000
set_option maxHeartbeats 8000000
namespace Go.Proofs.YtcigljngiemdeaaGreat
open Go.RowKit
theorem atsOf_len : ∀ (rs : List Rl), (∀ r ∈ rs, r.2.length ≤ 4) → (atsOf rs).length ≤ 5 * rs.length
  | [], _ => by simp [atsOf]
  | r :: rs, h => by
    have h1 := atsOf_len rs (fun q hq => h q (List.mem_cons_of_mem _ hq)); have h2 := h r (List.mem_cons_self ..); unfold atsOf at *; simp only [List.flatMap_cons, List.length_append, List.length_cons, List.length_map]; omega
def AtomsSo (w : World) (L : List At) (o : Value) (wr : World) : Prop :=
  ∃ (rfs : List Rf), wr.ownsRow w.heap.size 49 2 o L.length (rcells rfs) ∧ rfs.map rAt = L ∧ RefsIn w 0 w.heap.size rfs ∧ Below w.heap.size w wr
theorem AtomsSo.value {w wr : World} {L : List At} {o : Value} (h : AtomsSo w L o wr) : ∃ A c, o = .slice A L.length c := by
  obtain ⟨rfs, hrow, _⟩ := h; rcases hrow.2 with ⟨e1, e2⟩ | ⟨g, cap, cur, e1, _⟩
  · exact ⟨none, 0, by rw [e1, e2]⟩
  · exact ⟨_, cap, e1⟩
theorem AtomsSo.more {w wr w2 : World} {L : List At} {v v' : Value} {o : Obj} {nm : ByteArray} {A : Option Addr} {n c : Nat} {ts : List Tm} {rfs : List Rf} (hm : rfs.map rAt = L) (hR : RefsIn w 0 w.heap.size rfs) (hb : Below w.heap.size w wr)
    (hrow : wr.ownsRow w.heap.size 49 2 v L.length (rcells rfs)) (hown : w2.ownsRow w.heap.size 49 2 v' (L.length + 1) (rcells rfs ++ [.string nm, .slice A n c])) (hg : (wr.alloc o).grownBy w2 v.ownBlock) (hs : nm.size ≤ maxLen) (hT : IsTerms w 0 w.heap.size A n c ts) : AtomsSo w (L ++ [(nm, ts)]) v' w2 := by
  refine ⟨rfs ++ [(nm, A, n, c, ts)], ?_, ?_, ?_, ?_⟩
  · rw [rcells_snoc, List.length_append]; exact hown
  · rw [List.map_append, hm]; rfl
  · intro r hr
    rcases List.mem_append.1 hr with hr | hr
    · exact hR r hr
    · rw [List.mem_singleton.1 hr]; exact ⟨hs, hT⟩
  · refine ((hb.alloc hb.size o).grown hg (by simp; have := hb.size; omega) (fun j ej => ?_))
    rcases hrow.2 with ⟨rfl, _⟩ | ⟨g', cap', cur, rfl, hbg, _, _⟩
    · simp [Value.ownBlock] at ej
    · obtain rfl : g' = j := by simpa [Value.ownBlock] using ej
      exact hbg
theorem rule_at {w : World} {hi n c : Nat} {A : Option Addr} {rs : List Rl} (h : IsRules w 0 hi A n c rs) {i : Nat} (hn : i < n) :
    ∃ p r A' n' c' B m d, A = some p ∧ p.block < hi ∧ rs[i]? = some r ∧ w.cell? (p.add (i * 3)) = some (.string r.1.1) ∧ r.1.1.size ≤ maxLen ∧ w.cell? ⟨(p.add (i * 3)).block, (p.add (i * 3)).off + 1, none⟩ = some (.slice A' n' c') ∧ IsTerms w 0 hi A' n' c' r.1.2 ∧
      w.cell? ⟨(p.add (i * 3)).block, (p.add (i * 3)).off + 2, none⟩ = some (.slice B m d) ∧ IsParts w 0 hi B m d r.2 := by
  obtain ⟨p, r, hA, _, hh, hg, hE⟩ := h.at_ hn; obtain ⟨A', n', c', B, m, d, d1, d2, d3, d4, d5, d6⟩ := hE.out; exact ⟨p, r, A', n', c', B, m, d, hA, hh, hg, d1, d2, d3, d4, d5, d6⟩
theorem l2Atoms_any (A : Option Addr) (n c : Nat) (rs : List Rl) (w : World) (h : IsRules w 0 w.heap.size A n c rs) (hn : n ≤ 8) (h4 : ∀ r ∈ rs, r.2.length ≤ 4) :
    Calls Tryz.prog 180 #[.slice A n c] w fun e w' => ∃ A' c', e = .returned (.slice A' (atsOf rs).length c') ∧ IsAtoms w' 0 w'.heap.size A' (atsOf rs).length c' (atsOf rs) ∧ Below w.heap.size w w' := by
  obtain ⟨i0, hi, hz, hsz, hby⟩ := info_parts Tryz.infoAt; have HL := hid h.1; have H := hid h; have H4 := hid h4; clear h h4; have hlen : ∀ k, (atsOf (rs.take k)).length ≤ 5 * k := fun k => Nat.le_trans (atsOf_len _ (fun r hr => H4.out r (List.mem_of_mem_take hr))) (Nat.mul_le_mul_left _ (List.length_take_le _ _)); have HLEN := hid hlen; clear hlen; go_enter Tryz.func180, Tryz.ntmps180; go_wp2; go_loopw [3, 4] (fun o x wr => ∃ i : Nat, i ≤ n ∧ x = .int .i64 (i : Int) ∧ AtomsSo w (atsOf (rs.take i)) o wr) (fun _ x _ => n - (intOf x).toNat)
  case atStart => exact ⟨0, Nat.zero_le _, rfl, [], own_empty w _ _ (nl _), rfl, fun r hr => by simp at hr, below1 _ _⟩
  case round =>
    obtain ⟨i, hin, rfl, hS⟩ := hrel; have hli := HLEN.out i; obtain ⟨L, hLL⟩ : ∃ L, atsOf (rs.take i) = L := ⟨_, rfl⟩; rw [hLL] at hS hli; obtain ⟨Av, cv, rfl⟩ := hS.value; have HLL := hid hLL; clear hLL; by_cases hlt : i < n
    · obtain ⟨p, r, A', n', c', B, m, d, hA, hpb, hg, d1, d2, d3, d4, d5, d6⟩ := rule_at H.out hlt
      subst hA; obtain ⟨rfs, hrow, hm, hR, hb⟩ := hS; have hm4 : m ≤ 4 := by rw [← d6.1]; exact H4.out r (List.mem_of_getElem? hg)
      have HG := hid hg; have HT := hid d4; have HP := hid d6; have HROW := hid hrow; have HM := hid hm; have HR := hid hR; have x1 := (hb.cell (p := p.add (i * 3)) qbb).trans d1; have x2 := (hb.cell (p := ⟨(p.add (i * 3)).block, (p.add (i * 3)).off + 1, none⟩) qbb).trans d3; have hbs := hb.size; clear hg d4 d6 hrow hm hR d1 d3; go_wp2_with (at_builtin; refine wpList_append_own _ rfl _ _ 28 rfl w.heap.size 49 i0 _ 2 40 Tryz.underlying28 hi hz hsz hby rfl qal _ _ _ rfl (HROW.out.alloc _) ⟨wr.heap.size, 0, none⟩ 1 1 [.string r.1.1, .slice A' n' c'] rfl rfl (two_new _ _ _ _) qai qac qaa qaf ?_; intro v' w2 hown' hgrow' _; have hown := hid hown'; have hgrow := hid hgrow'; clear hown' hgrow')
      have HS2 := hid (AtomsSo.more HM.out HR.out hb HROW.out hown.out hgrow.out d2 HT.out); clear hown hgrow x1 x2; obtain ⟨w0, rfl⟩ : ∃ w0 : World, w0 = w2 := ⟨_, rfl⟩; go_loopw [3, 5] (fun o x wr => ∃ j : Nat, j ≤ m ∧ x = .int .i64 (j : Int) ∧ AtomsSo w (L ++ r.1 :: (r.2.take j).map (·.2)) o wr) (fun _ x _ => m - (intOf x).toNat)
      case atStart => exact ⟨0, Nat.zero_le _, rfl, HS2.out⟩
      case round =>
        obtain ⟨j, hjm, rfl, hS⟩ := hrel
        have hlj : (L ++ r.1 :: (r.2.take j).map (·.2)).length ≤ 5 * i + 1 + j := by
          have := List.length_take_le j r.2; simp only [List.length_append, List.length_cons, List.length_map]; omega
        obtain ⟨M, hMM⟩ : ∃ M, L ++ r.1 :: (r.2.take j).map (·.2) = M := ⟨_, rfl⟩; rw [hMM] at hS hlj; obtain ⟨Au, cu, rfl⟩ := hS.value; have HMM := hid hMM; clear hMM; obtain ⟨rfs', hrow, hm, hR, hb'⟩ := hS; have HROW2 := hid hrow; have HM2 := hid hm; have HR2 := hid hR; have hbs' := hb'.size; clear hrow hm hR; have y5 := (hb'.cell (p := ⟨(p.add (i * 3)).block, (p.add (i * 3)).off + 2, none⟩) qbb).trans d5; by_cases hlj2 : j < m
        · obtain ⟨pp, q, hB, _, hpp, hg2, hE⟩ := HP.out.at_ hlj2
          obtain ⟨A5, n5, c5, _, f2, f3, f4, f5⟩ := hE.out; clear hE; subst hB; have HG2 := hid hg2; have HT2 := hid f5; have y2 := (hb'.cell (p := ⟨(pp.add (j * 3)).block, (pp.add (j * 3)).off + 1, none⟩) (by rw [block_add]; exact hpp)).trans f2; have y4 := (hb'.cell (p := ⟨(pp.add (j * 3)).block, (pp.add (j * 3)).off + 2, none⟩) (by rw [block_add]; exact hpp)).trans f4; clear hg2 f5 f2 f4 d5; go_wp2_with (at_builtin; refine wpList_append_own _ rfl _ _ 28 rfl w.heap.size 49 i0 _ 2 40 Tryz.underlying28 hi hz hsz hby rfl qal _ _ _ rfl (HROW2.out.alloc _) ⟨wr.heap.size, 0, none⟩ 1 1 [.string q.2.1, .slice A5 n5 c5] rfl rfl (two_new _ _ _ _) qai qac qaa qaf ?_; intro v' w2 hown' hgrow' _; have hown := hid hown'; have hgrow := hid hgrow'; clear hown' hgrow')
          have HS3 := AtomsSo.more HM2.out HR2.out hb' HROW2.out hown.out hgrow.out f3 HT2.out; rw [← HMM.out, List.append_assoc, List.cons_append] at HS3; have e3 : (r.2.take j).map (·.2) ++ [(q.2.1, q.2.2)] = (r.2.take (j + 1)).map (·.2) := by rw [List.take_add_one, HG2.out, List.map_append]; rfl
          rw [e3] at HS3; have HS4 := hid HS3; clear hown hgrow HS3 e3 y2 y4 y5; go_roundw
          case rel => exact ⟨j + 1, by omega, by go_num, HS4.out⟩
          case measure => exact qms
        · have hjm' : j = m := qaa
          have HS5 := hid (show AtomsSo w (atsOf (rs.take (i + 1))) (.slice Au M.length cu) wr by
            refine ⟨rfs', ?_, ?_, HR2.out, hb'⟩
            · have e : (atsOf (rs.take (i + 1))).length = M.length := by rw [atsOf_step HG.out, HLL.out, ← HMM.out, List.take_of_length_le (by rw [HP.out.1]; omega)]
              rw [e]; exact HROW2.out
            · rw [HM2.out, atsOf_step HG.out, HLL.out, ← HMM.out, List.take_of_length_le (by rw [HP.out.1]; omega)])
          go_wp2; go_roundw
          case rel => exact ⟨i + 1, by omega, by go_num, HS5.out⟩
          case measure => exact qms
    · have hin' : i = n := qaa
      have e : L = atsOf rs := by rw [← HLL.out, List.take_of_length_le qdj]
      subst e; obtain ⟨rfs, hrow, hm, hR, hb⟩ := hS; have hlr : (atsOf rs).length = rfs.length := by rw [← hm, List.length_map]
      obtain ⟨A9, c9, e9, hI⟩ := refs_own hrow hlr (Nat.zero_le _) (hR.keep (fun q _ hq => hb.cell hq) (nl _) (nl _)) hb.size; injection e9 with e9 _ e10; subst e9; subst e10; have HI : Hid (IsAtoms wr 0 wr.heap.size Av (atsOf rs).length cv (atsOf rs)) := hid (by have := hI.atoms; rwa [hm] at this); clear hrow hm hR hlr hI; go_wp2; go_ret; exact ⟨_, _, rfl, HI.out, hb⟩
def pairOk (a b : At) : Bool := !(decide (a.1 = b.1)) || decide (a.2.length = b.2.length)
def alikeB (xs : List At) : Bool := xs.all fun a => xs.all fun b => pairOk a b
theorem pairOk_symm (a b : At) : pairOk a b = pairOk b a := by
  unfold pairOk; rw [show decide (a.1 = b.1) = decide (b.1 = a.1) from decide_eq_decide.2 ⟨Eq.symm, Eq.symm⟩, show decide (a.2.length = b.2.length) = decide (b.2.length = a.2.length) from decide_eq_decide.2 ⟨Eq.symm, Eq.symm⟩]
theorem pairOk_self (a : At) : pairOk a a = true := by unfold pairOk; simp
def PairsOk (xs : List At) (i k : Nat) : Prop := ∀ x y a b, xs[x]? = some a → xs[y]? = some b → (x < i ∧ y < x ∨ x = i ∧ y < k) → pairOk a b = true
theorem PairsOk.next {xs : List At} {i k : Nat} {a b : At} (h : PairsOk xs i k) (ha : xs[i]? = some a) (hb : xs[k]? = some b) (hp : pairOk a b = true) : PairsOk xs i (k + 1) := by
  intro x y a' b' hx hy hxy; by_cases e : x = i ∧ y = k
  · obtain ⟨rfl, rfl⟩ := e
    rw [ha] at hx; rw [hb] at hy; injection hx with hx; injection hy with hy; subst hx; subst hy; exact hp
  · exact h x y a' b' hx hy qaa
theorem PairsOk.row {xs : List At} {i : Nat} (h : PairsOk xs i i) : PairsOk xs (i + 1) 0 :=
  fun x y a b hx hy hxy => h x y a b hx hy qaa
theorem PairsOk.all {xs : List At} {n : Nat} (hn : xs.length = n) (h : PairsOk xs n 0) : alikeB xs = true := by
  unfold alikeB; rw [List.all_eq_true]; intro a ha; rw [List.all_eq_true]; intro b hb; obtain ⟨x, hx⟩ := List.getElem?_of_mem ha; obtain ⟨y, hy⟩ := List.getElem?_of_mem hb; have lx := (List.getElem?_eq_some_iff.1 hx).1; have ly := (List.getElem?_eq_some_iff.1 hy).1; rcases Nat.lt_trichotomy x y with e | e | e
  · rw [pairOk_symm]; exact h y x b a hy hx qaa
  · subst e
    rw [hx] at hy; injection hy with hy; subst hy; exact pairOk_self a
  · exact h x y a b hx hy qaa
theorem alikeB_no {xs : List At} {a b : At} (ha : a ∈ xs) (hb : b ∈ xs) (h : pairOk a b = false) : alikeB xs = false := by
  cases h1 : alikeB xs
  · rfl
  · unfold alikeB at h1
    have := List.all_eq_true.1 (List.all_eq_true.1 h1 a ha) b hb; rw [h] at this; cases this
theorem l2Args_any (A : Option Addr) (n c : Nat) (rs : List Rl) (w : World) (h : IsRules w 0 w.heap.size A n c rs) (hn : n ≤ 8) (h4 : ∀ r ∈ rs, r.2.length ≤ 4) :
    Calls Tryz.prog 156 #[.slice A n c] w (BoolPost (alikeB (atsOf rs)) w) := by
  have H := hid h; have H4 := hid h4; have hlen := Nat.le_trans (atsOf_len rs h4) (Nat.mul_le_mul_left 5 (show rs.length ≤ 8 by rw [h.1]; exact hn)); obtain ⟨xs, hxs⟩ : ∃ xs, atsOf rs = xs := ⟨_, rfl⟩; obtain ⟨m, hm⟩ : ∃ m, xs.length = m := ⟨_, rfl⟩; rw [hxs, hm] at hlen; have HXS := hid hxs; have HM := hid hm; clear h h4 hxs hm; rw [HXS.out]; go_enter Tryz.func156, Tryz.ntmps156; go_wp2_with fail; refine (l2Atoms_any A n c rs _ H.out hn H4.out).mono ?_; rintro e w1 ⟨A', c', rfl, hI, hb1⟩; rw [HXS.out, HM.out] at hI ⊢; have HI := hid hI; clear hI
  go_wp2; go_loopw [4] (fun x wr => ∃ i : Nat, i ≤ m ∧ x = .int .i64 (i : Int) ∧ PairsOk xs i 0 ∧ Below w1.heap.size w1 wr) (fun x _ => m - (intOf x).toNat)
  case atStart => exact ⟨0, Nat.zero_le _, rfl, fun x y a b _ _ h => by omega, Below.refl _ _⟩
  case round =>
    obtain ⟨i, him, rfl, hS, hb⟩ := hrel; have HS := hid hS; clear hS; by_cases hlt : i < m
    · have hltI : (i : Int) < (m : Int) := qaa
      go_wp2; obtain ⟨w2, hw2⟩ : ∃ w2 : World, w2 = wr := ⟨_, rfl⟩; subst hw2; go_loopw [5] (fun x wr => ∃ k : Nat, k ≤ i ∧ x = .int .i64 (k : Int) ∧ PairsOk xs i k ∧ Below w1.heap.size w1 wr) (fun x _ => i - (intOf x).toNat)
      case atStart => exact ⟨0, Nat.zero_le _, rfl, HS.out, hb⟩
      case round =>
        obtain ⟨k, hki, rfl, hSk, hbk⟩ := hrel; have HSk := hid hSk; clear hSk; by_cases hlk : k < i
        · have hlkI : (k : Int) < (i : Int) := qaa
          obtain ⟨p, a, hA, _, _, hga, hEa⟩ := (HI.out.below AtomE.stays hbk (nl _)).at_ hlt; obtain ⟨p', b, hA', _, _, hgb, hEb⟩ := (HI.out.below AtomE.stays hbk (nl _)).at_ (show k < m by omega); obtain ⟨A1, n1, c1, a1, _, a3, a4⟩ := hEa.out; obtain ⟨A2, n2, c2, b1, _, b3, b4⟩ := hEb.out; clear hEa hEb; rw [hA] at hA'; injection hA' with hA'; subst hA'; subst hA; have HGa := hid hga; have HGb := hid hgb; have N1 := hid a4.1; have N2 := hid b4.1; clear hga hgb a4 b4; obtain ⟨bb, hbb⟩ : ∃ bb, (a.1.toList == b.1.toList) = bb := ⟨_, rfl⟩; have HB := hid (bytes_is hbb); cases bb
          · have HP := hid (HSk.out.next HGa.out HGb.out (by unfold pairOk; rw [← HB.out]; rfl))
            go_wp2_with fail; go_quiet (fail); go_wp2; go_roundw
            case rel => exact ⟨k + 1, by omega, by go_num, HP.out, hbk.os, hbk.tape, hbk.output, hbk.size, hbk.block⟩
            case measure => exact qms
          · by_cases hnn : n1 = n2
            · have HP := hid (HSk.out.next HGa.out HGb.out (by unfold pairOk; rw [← HB.out, N1.out, N2.out, hnn]; simp))
              subst hnn; go_wp2_with fail; go_quiet (fail); go_wp2; go_roundw
              case rel => exact ⟨k + 1, by omega, by go_num, HP.out, hbk.os, hbk.tape, hbk.output, hbk.size, hbk.block⟩
              case measure => exact qms
            · have HP := hid (alikeB_no (List.mem_of_getElem? HGa.out) (List.mem_of_getElem? HGb.out) (by unfold pairOk; rw [← HB.out, N1.out, N2.out, decide_eq_false hnn]; rfl))
              have e1 : ((n1 : Int) == (n2 : Int)) = false := beq_eq_false_iff_ne.2 (fun e => hnn qaa); have e2 : ((n1 : Int) != (n2 : Int)) = true := by rw [bne, e1]; rfl
              have e3 : (n1 == n2) = false := by simpa using hnn
              go_wp2_with fail; go_quiet (fail); go_wp2; go_ret; exact ⟨retB HP.out.symm, belowThen hb1 ⟨hbk.os, hbk.tape, hbk.output, hbk.size, hbk.block⟩⟩
        · have hke : k = i := qaa
          subst hke; go_wp2; go_roundw
          case rel => exact ⟨k + 1, by omega, by go_num, HSk.out.row, hbk⟩
          case measure => exact qms
    · have hie : i = m := qaa
      subst hie; have HA := hid (HS.out.all HM.out); go_wp2; go_ret; exact ⟨retB HA.out.symm, belowThen hb1 hb⟩
def LevelsAre (w : World) (g n : Nat) (T : List Nat) (wr : World) : Prop := IntRow wr g n T ∧ Capped n T ∧ Below w.heap.size w wr
theorem LevelsAre.drewN {w wr : World} {g n : Nat} {T : List Nat} (h : LevelsAre w g n T wr) (a : Nat) : LevelsAre w g n T (wr.drewN a) :=
  ⟨h.1.keep rfl, h.2.1, ⟨h.2.2.os, h.2.2.tape, h.2.2.output, h.2.2.size, h.2.2.block⟩⟩
theorem LevelsAre.alloc {w wr : World} {g n : Nat} {T : List Nat} (h : LevelsAre w g n T wr) (hg : w.heap.size ≤ wr.heap.size) (o : Obj) : LevelsAre w g n T (wr.alloc o) :=
  ⟨h.1.below (below1 wr o), h.2.1, h.2.2.alloc hg o⟩
theorem LevelsAre.raised {w wr : World} {n i : Nat} {T : List Nat} (h : LevelsAre w w.heap.size n T wr) (hi : i < n) (v : Nat) (hc : Capped n (T.set i v)) : LevelsAre w w.heap.size n (T.set i v) (wr.setCell ⟨w.heap.size, i, none⟩ (.int .i64 ((v : Nat) : Int))) :=
  ⟨h.1.set hi v, hc, h.2.2.setCell (nl _) _⟩
theorem l2Levels_any (A : Option Addr) (n c : Nat) (rs : List Rl) (w : World) (h : IsRules w 0 w.heap.size A n c rs) (hn : n ≤ 8) (h4 : ∀ r ∈ rs, r.2.length ≤ 4) :
    Calls Tryz.prog 149 #[.slice A n c] w fun e w' => e = .returned (.slice (some ⟨w.heap.size, 0, none⟩) n n) ∧ IntRow w' w.heap.size n (levelsL rs) ∧ Below w.heap.size w w' := by
  have HL := hid h.1; have H := hid h; have H4 := hid h4; clear h h4; obtain ⟨i0, hi, hz, hsz, hby⟩ := info_parts Tryz.infoInt
  have hmk : ∀ W : World, (Instr.makeSlice 164 (.int .i64 (n : Int)) (.int .i64 (n : Int))).run Tryz.prog W = .ok (.slice (some ⟨W.heap.size, 0, none⟩) n n) (W.alloc (.cells (madeCells #[.int .i64 0] (n * 1)) 3)) := by
    intro W; have hr := run_make (P := Tryz.prog) W 164 3 i0 _ Tryz.underlying164 hi hz .i64 .i64 n n qaa (Int.le_refl _) (by rw [hby]; omega) qaa; rw [hsz] at hr; exact hr
  clear hi hz hsz hby; have hTn : (n + 1) * (n + 2) ≤ 90 := Nat.mul_le_mul (show n + 1 ≤ 9 by omega) (show n + 2 ≤ 10 by omega); have hTi : ((n : Int) + 1) * ((n : Int) + 2) = (((n + 1) * (n + 2) : Nat) : Int) := by rw [Int.natCast_mul]; rfl
  have hT0 : ((n : Int) + 1) * ((n : Int) + 2) ≤ 90 := by rw [hTi]; omega
  have hT1 : 0 ≤ ((n : Int) + 1) * ((n : Int) + 2) := by rw [hTi]; omega
  have HTI := hid hTi; clear hTi; go_enter Tryz.func149, Tryz.ntmps149; go_wp2
  have hr0 : IntRow (w.alloc (.cells (madeCells #[.int .i64 0] n) 3)) w.heap.size n (List.replicate n 0) := by
    refine ⟨List.length_replicate, ?_⟩; have := World.rowIs_made w (.int .i64 0) n 3; refine this.congr fun j hj => ?_; unfold at0; rw [List.getElem?_replicate, if_pos hj]; rfl
  have hb0 := below1 w (.cells (madeCells #[.int .i64 0] n) 3); have HR0 := hid hr0; clear hr0 hmk; go_loopw [4] (fun x wr => ∃ t : Nat, t ≤ (n + 1) * (n + 2) ∧ x = .int .i64 (t : Int) ∧ LevelsAre w w.heap.size n (again (passF rs) t (List.replicate n 0)) wr) (fun x _ => (n + 1) * (n + 2) - (intOf x).toNat)
  case atStart => exact ⟨0, Nat.zero_le _, rfl, HR0.out, Capped.zero n, hb0⟩
  case round =>
    obtain ⟨t, ht, rfl, hS⟩ := hrel; obtain ⟨T, hT⟩ : ∃ T, again (passF rs) t (List.replicate n 0) = T := ⟨_, rfl⟩; rw [hT] at hS; have HT := hid hT; have HS := hid hS; clear hT hS; by_cases hlt : (t : Int) < ((n : Int) + 1) * ((n : Int) + 2)
    · go_wp2
      obtain ⟨w0, rfl⟩ : ∃ w0 : World, w0 = wr := ⟨_, rfl⟩; go_loopw [5] (fun x wr => ∃ i : Nat, i ≤ n ∧ x = .int .i64 (i : Int) ∧ LevelsAre w w.heap.size n ((List.range i).foldl (rowF rs) T) wr) (fun x _ => n - (intOf x).toNat)
      case atStart => exact ⟨0, Nat.zero_le _, rfl, HS.out⟩
      case round =>
        obtain ⟨i, hin, rfl, hSi⟩ := hrel; obtain ⟨R, hR⟩ : ∃ R, (List.range i).foldl (rowF rs) T = R := ⟨_, rfl⟩; rw [hR] at hSi; have HRi := hid hR; have HSi := hid hSi; clear hR hSi; by_cases hli : i < n
        · go_wp2
          obtain ⟨w1, rfl⟩ : ∃ w1 : World, w1 = wr := ⟨_, rfl⟩; go_loopw [6] (fun x wr => ∃ k : Nat, k ≤ n ∧ x = .int .i64 (k : Int) ∧ LevelsAre w w.heap.size n ((List.range k).foldl (pairF rs i) R) wr) (fun x _ => n - (intOf x).toNat)
          case atStart => exact ⟨0, Nat.zero_le _, rfl, HSi.out⟩
          case round =>
            obtain ⟨k, hkn, rfl, hSk⟩ := hrel; obtain ⟨K0, hK⟩ : ∃ K0, (List.range k).foldl (pairF rs i) R = K0 := ⟨_, rfl⟩; rw [hK] at hSk; have HK := hid hK; have HSk := hid hSk; clear hK hSk; by_cases hlk : k < n
            · have hbr := HSk.out.2.2
              obtain ⟨p, ri, B, m, d, hA, hgi, ci, cb, hP⟩ := rules_at (H.out.below RuleE.stays hbr (nl _)) hli; obtain ⟨p', rk, _, _, _, hA', hgk, ck, _, _⟩ := rules_at (H.out.below RuleE.stays hbr (nl _)) hlk; rw [hA] at hA'; injection hA' with hA'; subst hA'; subst hA; have HGi := hid hgi; have HGk := hid hgk; have HP := hid hP; clear hgi hgk hP; have xi := HSk.out.1.cell hli; have xk := HSk.out.1.cell hlk; have zi := HSk.out.1.frozen i; have li := HSk.out.2.1.le i; have lk := HSk.out.2.1.le k; obtain ⟨ai, hai⟩ : ∃ a, at0 K0 i = a := ⟨_, rfl⟩; obtain ⟨ak, hak⟩ : ∃ a, at0 K0 k = a := ⟨_, rfl⟩; rw [hai] at xi li; rw [hak] at xk lk
              have HAi := hid hai; have HAk := hid hak; clear hai hak; obtain ⟨b, hb⟩ : ∃ b, (rk.1.1.toList == ri.1.1.toList) = b := ⟨_, rfl⟩; have HB := hid (bytes_is hb); have hln : (k : Int) < (n : Int) := qaa; cases b
              · have he : evenF rs i k K0 = K0 := if_neg (by rw [headAt_of HGk.out, headAt_of HGi.out]; exact of_decide_eq_false HB.out.symm)
                have HEV := hid he; clear he; go_wp2_with fail; go_quiet (fail); have HE : LevelsAre w w.heap.size n (evenF rs i k K0) (wr.drewN nq) := by rw [HEV.out]; exact HSk.out.drewN _
                go_wp2_with fail; have hm4 : m ≤ 4 := qcg; go_loopw [7] (fun x wr => ∃ j : Nat, j ≤ m ∧ x = .int .i64 (j : Int) ∧ LevelsAre w w.heap.size n ((ri.2.take j).foldl (partF rs i k) (evenF rs i k K0)) wr) (fun x _ => m - (intOf x).toNat)
                case atStart => exact ⟨0, Nat.zero_le _, rfl, HE⟩
                case round =>
                  obtain ⟨j, hjm, rfl, hSj⟩ := hrel; obtain ⟨J0, hJ⟩ : ∃ J0, (ri.2.take j).foldl (partF rs i k) (evenF rs i k K0) = J0 := ⟨_, rfl⟩; rw [hJ] at hSj; have HJ := hid hJ; have HSj := hid hSj; clear hJ hSj; have hbj := HSj.out.2.2; have hsj := hbj.size
                  have hcap : ∀ q, Capped n (partF rs i k J0 q) := fun q => by
                    have := Capped.part (rs := rs) (i := i) (k := k) (L := J0) q (by rw [HL.out]; exact HSj.out.2.1) (by rw [HL.out]; exact hli) (by rw [HL.out]; exact hlk)
                    rwa [HL.out] at this
                  have HCAP := hid hcap; clear hcap; obtain ⟨p2, ri2, B2, m2, d2, hA2, hgi2, ci2, cb2, hP2⟩ := rules_at (H.out.below RuleE.stays hbj (nl _)) hli; obtain ⟨p3, rk2, _, _, _, hA3, hgk2, ck2, _, _⟩ := rules_at (H.out.below RuleE.stays hbj (nl _)) hlk; injection hA2 with hA2; injection hA3 with hA3; subst hA2; subst hA3; have hri : ri2 = ri := qdg; have hrk : rk2 = rk := qdh; subst hri; subst hrk; have hm2 : m2 = m := hP2.1.symm.trans HP.out.1; subst hm2; have HGk2 := hid hgk2; have HP2 := hid hP2; clear hgi2 hgk2 hP2; have yi := HSj.out.1.cell hli; have yk := HSj.out.1.cell hlk; have vi := HSj.out.1.frozen i
                  have lj := HSj.out.2.1.le i; have lk2 := HSj.out.2.1.le k; obtain ⟨aj, haj⟩ : ∃ a, at0 J0 i = a := ⟨_, rfl⟩; obtain ⟨ak, hak⟩ : ∃ a, at0 J0 k = a := ⟨_, rfl⟩; rw [haj] at yi lj; rw [hak] at yk lk2; have HAj := hid haj; have HAk2 := hid hak; clear haj hak; by_cases hlj : j < m2
                  · have hljI : (j : Int) < (m2 : Int) := qaa
                    obtain ⟨pp, q, hB, _, _, hg2, hEq⟩ := HP2.out.at_ hlj; obtain ⟨A5, n5, c5, f1, f2, _, f4, _⟩ := hEq.out; clear hEq; subst hB; obtain ⟨bq, nq1, tq⟩ := q; simp only at f1 f2; have HG2 := hid hg2; clear hg2; have uk := cellUp ck2; have ui := cellUp yi; have uk2 := cellUp yk; have uf : ∀ o, (wr.alloc o).frozen? ⟨w.heap.size, i, none⟩ = false := fun o => (HSj.out.1.below (below1 wr o)).frozen i; obtain ⟨b2, hb2⟩ : ∃ b2, (nq1.toList == rk2.1.1.toList) = b2 := ⟨_, rfl⟩; have HB2 := hid (bytes_is hb2); cases b2
                    · go_wp2_with fail
                      go_quiet (fail); go_wp2; go_roundw
                      case rel =>
                        refine ⟨j + 1, by omega, by go_num, ?_⟩; rw [fold_step HG2.out, HJ.out, show partF rs i k J0 (bq, nq1, tq) = J0 from if_neg qcl]; exact (HSj.out.alloc hsj _).drewN _
                      case measure => exact qms
                    · have hcap := HCAP.out
                      have hg2 := HG2.out; clear hcap hg2; cases bq
                      · go_wp2_with fail
                        go_quiet (fail); have hcap := HCAP.out; have hg2 := HG2.out; have HPF := hid (show partF rs i k J0 (false, nq1, tq) = raise rs.length J0 ⟨i, k, 0, true⟩ from if_pos (show nq1 = headAt rs k by rw [headAt_of HGk2.out]; exact of_decide_eq_true HB2.out.symm)); by_cases hgt : aj < (ak + 0)
                        · by_cases hle : aj ≤ n
                          · have HC := hid (hcap (false, nq1, tq))
                            have hgt' : (aj : Int) < (ak : Int) := qaa; have hle' : (aj : Int) ≤ (n : Int) := qaa; have e1 : decide ((aj : Int) < (ak : Int)) = true := decide_eq_true hgt'; have e2 : decide ((aj : Int) ≤ (n : Int)) = true := decide_eq_true hle'; go_wp2; go_roundw
                            case rel =>
                              refine ⟨j + 1, by omega, by go_num, ?_⟩; rw [fold_step hg2, HJ.out, HPF.out, raise_yes qas qar, HAk2.out]
                              have hcc : Capped n (J0.set i (ak + 0)) := by
                                have := HC.out
                                rwa [HPF.out, raise_yes qas qar, HAk2.out] at this
                              exact ((HSj.out.alloc hsj _).drewN _).raised hli (ak + 0) hcc
                            case measure => exact qms
                          · have hle' : ¬ (aj : Int) ≤ (n : Int) := qaa
                            have hgt' : (aj : Int) < (ak : Int) := qaa; go_wp2; go_roundw
                            case rel =>
                              refine ⟨j + 1, by omega, by go_num, ?_⟩; rw [fold_step hg2, HJ.out, HPF.out, raise_no (fun hh => hle qbf)]; exact (HSj.out.alloc hsj _).drewN _
                            case measure => exact qms
                        · have hgt' : ¬ (aj : Int) < (ak : Int) := qaa
                          go_wp2; go_roundw
                          case rel =>
                            refine ⟨j + 1, by omega, by go_num, ?_⟩; rw [fold_step hg2, HJ.out, HPF.out, raise_no (fun hh => hgt qbi)]; exact (HSj.out.alloc hsj _).drewN _
                          case measure => exact qms
                      · go_wp2_with fail
                        go_quiet (fail); have hcap := HCAP.out; have hg2 := HG2.out; have HPF := hid (show partF rs i k J0 (true, nq1, tq) = raise rs.length J0 ⟨i, k, 1, true⟩ from if_pos (show nq1 = headAt rs k by rw [headAt_of HGk2.out]; exact of_decide_eq_true HB2.out.symm)); by_cases hgt : aj < (ak + 1)
                        · by_cases hle : aj ≤ n
                          · have HC := hid (hcap (true, nq1, tq))
                            have hgt' : (aj : Int) < (ak : Int) + 1 := qaa; have hle' : (aj : Int) ≤ (n : Int) := qaa; have e1 : decide ((aj : Int) < (ak : Int) + 1) = true := decide_eq_true hgt'; have e2 : decide ((aj : Int) ≤ (n : Int)) = true := decide_eq_true hle'; go_wp2; go_roundw
                            case rel =>
                              refine ⟨j + 1, by omega, by go_num, ?_⟩; rw [fold_step hg2, HJ.out, HPF.out, raise_yes qas qar, HAk2.out]
                              have hcc : Capped n (J0.set i (ak + 1)) := by
                                have := HC.out
                                rwa [HPF.out, raise_yes qas qar, HAk2.out] at this
                              exact ((HSj.out.alloc hsj _).drewN _).raised hli (ak + 1) hcc
                            case measure => exact qms
                          · have hle' : ¬ (aj : Int) ≤ (n : Int) := qaa
                            have hgt' : (aj : Int) < (ak : Int) + 1 := qaa; go_wp2; go_roundw
                            case rel =>
                              refine ⟨j + 1, by omega, by go_num, ?_⟩; rw [fold_step hg2, HJ.out, HPF.out, raise_no (fun hh => hle qbf)]; exact (HSj.out.alloc hsj _).drewN _
                            case measure => exact qms
                        · have hgt' : ¬ (aj : Int) < (ak : Int) + 1 := qaa
                          go_wp2; go_roundw
                          case rel =>
                            refine ⟨j + 1, by omega, by go_num, ?_⟩; rw [fold_step hg2, HJ.out, HPF.out, raise_no (fun hh => hgt qbi)]; exact (HSj.out.alloc hsj _).drewN _
                          case measure => exact qms
                  · have hjme : j = m2 := qaa
                    subst hjme; have HJe := hid (show (List.range (k + 1)).foldl (pairF rs i) R = J0 by rw [range_step, HK.out, ← HJ.out, List.take_of_length_le (Nat.le_of_eq HP2.out.1)]; unfold pairF; rw [bodyAt_of HGi.out]); go_wp2; go_roundw
                    case rel => exact ⟨k + 1, by omega, by go_num, by rw [HJe.out]; exact HSj.out⟩
                    case measure => exact qms
              · have he : evenF rs i k K0 = raise rs.length K0 ⟨i, k, 0, false⟩ := if_pos (by rw [headAt_of HGk.out, headAt_of HGi.out]; exact of_decide_eq_true HB.out.symm)
                have hc : Capped n (evenF rs i k K0) := by
                  have := Capped.even (rs := rs) (i := i) (k := k) (L := K0) (by rw [HL.out]; exact HSk.out.2.1) (by rw [HL.out]; exact hli) (by rw [HL.out]; exact hlk)
                  rwa [HL.out] at this
                have HC := hid hc; have HEV := hid he; clear he hc; by_cases hgt : ai < ak
                · have hgtI : (ai : Int) < (ak : Int) := qaa
                  have e1 : decide (ai < ak) = true := decide_eq_true hgt; have HEV2 := hid (show evenF rs i k K0 = K0.set i ak by rw [HEV.out, raise_yes (by rw [HAi.out, HAk.out]; exact hgt) (fun h => by cases h), HAk.out]; rfl); go_wp2_with fail; go_quiet (fail)
                  have HE : LevelsAre w w.heap.size n (evenF rs i k K0) ((wr.drewN nq).setCell ⟨w.heap.size, i, none⟩ (.int .i64 (ak : Int))) := by
                    rw [HEV2.out]; exact (HSk.out.drewN _).raised hli ak (by rw [← HEV2.out]; exact HC.out)
                  go_wp2_with fail; have hm4 : m ≤ 4 := qcg; go_loopw [7] (fun x wr => ∃ j : Nat, j ≤ m ∧ x = .int .i64 (j : Int) ∧ LevelsAre w w.heap.size n ((ri.2.take j).foldl (partF rs i k) (evenF rs i k K0)) wr) (fun x _ => m - (intOf x).toNat)
                  case atStart => exact ⟨0, Nat.zero_le _, rfl, HE⟩
                  case round =>
                    obtain ⟨j, hjm, rfl, hSj⟩ := hrel; obtain ⟨J0, hJ⟩ : ∃ J0, (ri.2.take j).foldl (partF rs i k) (evenF rs i k K0) = J0 := ⟨_, rfl⟩; rw [hJ] at hSj; have HJ := hid hJ; have HSj := hid hSj; clear hJ hSj; have hbj := HSj.out.2.2; have hsj := hbj.size
                    have hcap : ∀ q, Capped n (partF rs i k J0 q) := fun q => by
                      have := Capped.part (rs := rs) (i := i) (k := k) (L := J0) q (by rw [HL.out]; exact HSj.out.2.1) (by rw [HL.out]; exact hli) (by rw [HL.out]; exact hlk)
                      rwa [HL.out] at this
                    have HCAP := hid hcap; clear hcap; obtain ⟨p2, ri2, B2, m2, d2, hA2, hgi2, ci2, cb2, hP2⟩ := rules_at (H.out.below RuleE.stays hbj (nl _)) hli; obtain ⟨p3, rk2, _, _, _, hA3, hgk2, ck2, _, _⟩ := rules_at (H.out.below RuleE.stays hbj (nl _)) hlk; injection hA2 with hA2; injection hA3 with hA3; subst hA2; subst hA3; have hri : ri2 = ri := qdg; have hrk : rk2 = rk := qdh; subst hri; subst hrk; have hm2 : m2 = m := hP2.1.symm.trans HP.out.1; subst hm2; have HGk2 := hid hgk2; have HP2 := hid hP2; clear hgi2 hgk2 hP2; have yi := HSj.out.1.cell hli; have yk := HSj.out.1.cell hlk; have vi := HSj.out.1.frozen i
                    have lj := HSj.out.2.1.le i; have lk2 := HSj.out.2.1.le k; obtain ⟨aj, haj⟩ : ∃ a, at0 J0 i = a := ⟨_, rfl⟩; obtain ⟨ak, hak⟩ : ∃ a, at0 J0 k = a := ⟨_, rfl⟩; rw [haj] at yi lj; rw [hak] at yk lk2; have HAj := hid haj; have HAk2 := hid hak; clear haj hak; by_cases hlj : j < m2
                    · have hljI : (j : Int) < (m2 : Int) := qaa
                      obtain ⟨pp, q, hB, _, _, hg2, hEq⟩ := HP2.out.at_ hlj; obtain ⟨A5, n5, c5, f1, f2, _, f4, _⟩ := hEq.out; clear hEq; subst hB; obtain ⟨bq, nq1, tq⟩ := q; simp only at f1 f2; have HG2 := hid hg2; clear hg2; have uk := cellUp ck2; have ui := cellUp yi; have uk2 := cellUp yk; have uf : ∀ o, (wr.alloc o).frozen? ⟨w.heap.size, i, none⟩ = false := fun o => (HSj.out.1.below (below1 wr o)).frozen i; obtain ⟨b2, hb2⟩ : ∃ b2, (nq1.toList == rk2.1.1.toList) = b2 := ⟨_, rfl⟩; have HB2 := hid (bytes_is hb2); cases b2
                      · go_wp2_with fail
                        go_quiet (fail); go_wp2; go_roundw
                        case rel =>
                          refine ⟨j + 1, by omega, by go_num, ?_⟩; rw [fold_step HG2.out, HJ.out, show partF rs i k J0 (bq, nq1, tq) = J0 from if_neg qcl]; exact (HSj.out.alloc hsj _).drewN _
                        case measure => exact qms
                      · have hcap := HCAP.out
                        have hg2 := HG2.out; clear hcap hg2; cases bq
                        · go_wp2_with fail
                          go_quiet (fail); have hcap := HCAP.out; have hg2 := HG2.out; have HPF := hid (show partF rs i k J0 (false, nq1, tq) = raise rs.length J0 ⟨i, k, 0, true⟩ from if_pos (show nq1 = headAt rs k by rw [headAt_of HGk2.out]; exact of_decide_eq_true HB2.out.symm)); by_cases hgt : aj < (ak + 0)
                          · by_cases hle : aj ≤ n
                            · have HC := hid (hcap (false, nq1, tq))
                              have hgt' : (aj : Int) < (ak : Int) := qaa; have hle' : (aj : Int) ≤ (n : Int) := qaa; have e1 : decide ((aj : Int) < (ak : Int)) = true := decide_eq_true hgt'; have e2 : decide ((aj : Int) ≤ (n : Int)) = true := decide_eq_true hle'; go_wp2; go_roundw
                              case rel =>
                                refine ⟨j + 1, by omega, by go_num, ?_⟩; rw [fold_step hg2, HJ.out, HPF.out, raise_yes qas qar, HAk2.out]
                                have hcc : Capped n (J0.set i (ak + 0)) := by
                                  have := HC.out
                                  rwa [HPF.out, raise_yes qas qar, HAk2.out] at this
                                exact ((HSj.out.alloc hsj _).drewN _).raised hli (ak + 0) hcc
                              case measure => exact qms
                            · have hle' : ¬ (aj : Int) ≤ (n : Int) := qaa
                              have hgt' : (aj : Int) < (ak : Int) := qaa; go_wp2; go_roundw
                              case rel =>
                                refine ⟨j + 1, by omega, by go_num, ?_⟩; rw [fold_step hg2, HJ.out, HPF.out, raise_no (fun hh => hle qbf)]; exact (HSj.out.alloc hsj _).drewN _
                              case measure => exact qms
                          · have hgt' : ¬ (aj : Int) < (ak : Int) := qaa
                            go_wp2; go_roundw
                            case rel =>
                              refine ⟨j + 1, by omega, by go_num, ?_⟩; rw [fold_step hg2, HJ.out, HPF.out, raise_no (fun hh => hgt qbi)]; exact (HSj.out.alloc hsj _).drewN _
                            case measure => exact qms
                        · go_wp2_with fail
                          go_quiet (fail); have hcap := HCAP.out; have hg2 := HG2.out; have HPF := hid (show partF rs i k J0 (true, nq1, tq) = raise rs.length J0 ⟨i, k, 1, true⟩ from if_pos (show nq1 = headAt rs k by rw [headAt_of HGk2.out]; exact of_decide_eq_true HB2.out.symm)); by_cases hgt : aj < (ak + 1)
                          · by_cases hle : aj ≤ n
                            · have HC := hid (hcap (true, nq1, tq))
                              have hgt' : (aj : Int) < (ak : Int) + 1 := qaa; have hle' : (aj : Int) ≤ (n : Int) := qaa; have e1 : decide ((aj : Int) < (ak : Int) + 1) = true := decide_eq_true hgt'; have e2 : decide ((aj : Int) ≤ (n : Int)) = true := decide_eq_true hle'; go_wp2; go_roundw
                              case rel =>
                                refine ⟨j + 1, by omega, by go_num, ?_⟩; rw [fold_step hg2, HJ.out, HPF.out, raise_yes qas qar, HAk2.out]
                                have hcc : Capped n (J0.set i (ak + 1)) := by
                                  have := HC.out
                                  rwa [HPF.out, raise_yes qas qar, HAk2.out] at this
                                exact ((HSj.out.alloc hsj _).drewN _).raised hli (ak + 1) hcc
                              case measure => exact qms
                            · have hle' : ¬ (aj : Int) ≤ (n : Int) := qaa
                              have hgt' : (aj : Int) < (ak : Int) + 1 := qaa; go_wp2; go_roundw
                              case rel =>
                                refine ⟨j + 1, by omega, by go_num, ?_⟩; rw [fold_step hg2, HJ.out, HPF.out, raise_no (fun hh => hle qbf)]; exact (HSj.out.alloc hsj _).drewN _
                              case measure => exact qms
                          · have hgt' : ¬ (aj : Int) < (ak : Int) + 1 := qaa
                            go_wp2; go_roundw
                            case rel =>
                              refine ⟨j + 1, by omega, by go_num, ?_⟩; rw [fold_step hg2, HJ.out, HPF.out, raise_no (fun hh => hgt qbi)]; exact (HSj.out.alloc hsj _).drewN _
                            case measure => exact qms
                    · have hjme : j = m2 := qaa
                      subst hjme; have HJe := hid (show (List.range (k + 1)).foldl (pairF rs i) R = J0 by rw [range_step, HK.out, ← HJ.out, List.take_of_length_le (Nat.le_of_eq HP2.out.1)]; unfold pairF; rw [bodyAt_of HGi.out]); go_wp2; go_roundw
                      case rel => exact ⟨k + 1, by omega, by go_num, by rw [HJe.out]; exact HSj.out⟩
                      case measure => exact qms
                · have hgtI : ¬ (ai : Int) < (ak : Int) := qaa
                  have e1 : decide (ai < ak) = false := decide_eq_false hgt; have e2 : decide ((ai : Int) < (ak : Int)) = false := decide_eq_false hgtI; have HEV2 := hid (show evenF rs i k K0 = K0 by rw [HEV.out]; exact raise_no (fun hh => hgt (by have := hh.1; rwa [HAi.out, HAk.out] at this))); go_wp2_with fail; go_quiet (fail); have HE : LevelsAre w w.heap.size n (evenF rs i k K0) (wr.drewN nq) := by rw [HEV2.out]; exact HSk.out.drewN _
                  go_wp2_with fail; have hm4 : m ≤ 4 := qcg; go_loopw [7] (fun x wr => ∃ j : Nat, j ≤ m ∧ x = .int .i64 (j : Int) ∧ LevelsAre w w.heap.size n ((ri.2.take j).foldl (partF rs i k) (evenF rs i k K0)) wr) (fun x _ => m - (intOf x).toNat)
                  case atStart => exact ⟨0, Nat.zero_le _, rfl, HE⟩
                  case round =>
                    obtain ⟨j, hjm, rfl, hSj⟩ := hrel; obtain ⟨J0, hJ⟩ : ∃ J0, (ri.2.take j).foldl (partF rs i k) (evenF rs i k K0) = J0 := ⟨_, rfl⟩; rw [hJ] at hSj; have HJ := hid hJ; have HSj := hid hSj; clear hJ hSj; have hbj := HSj.out.2.2; have hsj := hbj.size
                    have hcap : ∀ q, Capped n (partF rs i k J0 q) := fun q => by
                      have := Capped.part (rs := rs) (i := i) (k := k) (L := J0) q (by rw [HL.out]; exact HSj.out.2.1) (by rw [HL.out]; exact hli) (by rw [HL.out]; exact hlk)
                      rwa [HL.out] at this
                    have HCAP := hid hcap; clear hcap; obtain ⟨p2, ri2, B2, m2, d2, hA2, hgi2, ci2, cb2, hP2⟩ := rules_at (H.out.below RuleE.stays hbj (nl _)) hli; obtain ⟨p3, rk2, _, _, _, hA3, hgk2, ck2, _, _⟩ := rules_at (H.out.below RuleE.stays hbj (nl _)) hlk; injection hA2 with hA2; injection hA3 with hA3; subst hA2; subst hA3; have hri : ri2 = ri := qdg; have hrk : rk2 = rk := qdh; subst hri; subst hrk; have hm2 : m2 = m := hP2.1.symm.trans HP.out.1; subst hm2; have HGk2 := hid hgk2; have HP2 := hid hP2; clear hgi2 hgk2 hP2; have yi := HSj.out.1.cell hli; have yk := HSj.out.1.cell hlk; have vi := HSj.out.1.frozen i
                    have lj := HSj.out.2.1.le i; have lk2 := HSj.out.2.1.le k; obtain ⟨aj, haj⟩ : ∃ a, at0 J0 i = a := ⟨_, rfl⟩; obtain ⟨ak, hak⟩ : ∃ a, at0 J0 k = a := ⟨_, rfl⟩; rw [haj] at yi lj; rw [hak] at yk lk2; have HAj := hid haj; have HAk2 := hid hak; clear haj hak; by_cases hlj : j < m2
                    · have hljI : (j : Int) < (m2 : Int) := qaa
                      obtain ⟨pp, q, hB, _, _, hg2, hEq⟩ := HP2.out.at_ hlj; obtain ⟨A5, n5, c5, f1, f2, _, f4, _⟩ := hEq.out; clear hEq; subst hB; obtain ⟨bq, nq1, tq⟩ := q; simp only at f1 f2; have HG2 := hid hg2; clear hg2; have uk := cellUp ck2; have ui := cellUp yi; have uk2 := cellUp yk; have uf : ∀ o, (wr.alloc o).frozen? ⟨w.heap.size, i, none⟩ = false := fun o => (HSj.out.1.below (below1 wr o)).frozen i; obtain ⟨b2, hb2⟩ : ∃ b2, (nq1.toList == rk2.1.1.toList) = b2 := ⟨_, rfl⟩; have HB2 := hid (bytes_is hb2); cases b2
                      · go_wp2_with fail
                        go_quiet (fail); go_wp2; go_roundw
                        case rel =>
                          refine ⟨j + 1, by omega, by go_num, ?_⟩; rw [fold_step HG2.out, HJ.out, show partF rs i k J0 (bq, nq1, tq) = J0 from if_neg qcl]; exact (HSj.out.alloc hsj _).drewN _
                        case measure => exact qms
                      · have hcap := HCAP.out
                        have hg2 := HG2.out; clear hcap hg2; cases bq
                        · go_wp2_with fail
                          go_quiet (fail); have hcap := HCAP.out; have hg2 := HG2.out; have HPF := hid (show partF rs i k J0 (false, nq1, tq) = raise rs.length J0 ⟨i, k, 0, true⟩ from if_pos (show nq1 = headAt rs k by rw [headAt_of HGk2.out]; exact of_decide_eq_true HB2.out.symm)); by_cases hgt : aj < (ak + 0)
                          · by_cases hle : aj ≤ n
                            · have HC := hid (hcap (false, nq1, tq))
                              have hgt' : (aj : Int) < (ak : Int) := qaa; have hle' : (aj : Int) ≤ (n : Int) := qaa; have e1 : decide ((aj : Int) < (ak : Int)) = true := decide_eq_true hgt'; have e2 : decide ((aj : Int) ≤ (n : Int)) = true := decide_eq_true hle'; go_wp2; go_roundw
                              case rel =>
                                refine ⟨j + 1, by omega, by go_num, ?_⟩; rw [fold_step hg2, HJ.out, HPF.out, raise_yes qas qar, HAk2.out]
                                have hcc : Capped n (J0.set i (ak + 0)) := by
                                  have := HC.out
                                  rwa [HPF.out, raise_yes qas qar, HAk2.out] at this
                                exact ((HSj.out.alloc hsj _).drewN _).raised hli (ak + 0) hcc
                              case measure => exact qms
                            · have hle' : ¬ (aj : Int) ≤ (n : Int) := qaa
                              have hgt' : (aj : Int) < (ak : Int) := qaa; go_wp2; go_roundw
                              case rel =>
                                refine ⟨j + 1, by omega, by go_num, ?_⟩; rw [fold_step hg2, HJ.out, HPF.out, raise_no (fun hh => hle qbf)]; exact (HSj.out.alloc hsj _).drewN _
                              case measure => exact qms
                          · have hgt' : ¬ (aj : Int) < (ak : Int) := qaa
                            go_wp2; go_roundw
                            case rel =>
                              refine ⟨j + 1, by omega, by go_num, ?_⟩; rw [fold_step hg2, HJ.out, HPF.out, raise_no (fun hh => hgt qbi)]; exact (HSj.out.alloc hsj _).drewN _
                            case measure => exact qms
                        · go_wp2_with fail
                          go_quiet (fail); have hcap := HCAP.out; have hg2 := HG2.out; have HPF := hid (show partF rs i k J0 (true, nq1, tq) = raise rs.length J0 ⟨i, k, 1, true⟩ from if_pos (show nq1 = headAt rs k by rw [headAt_of HGk2.out]; exact of_decide_eq_true HB2.out.symm)); by_cases hgt : aj < (ak + 1)
                          · by_cases hle : aj ≤ n
                            · have HC := hid (hcap (true, nq1, tq))
                              have hgt' : (aj : Int) < (ak : Int) + 1 := qaa; have hle' : (aj : Int) ≤ (n : Int) := qaa; have e1 : decide ((aj : Int) < (ak : Int) + 1) = true := decide_eq_true hgt'; have e2 : decide ((aj : Int) ≤ (n : Int)) = true := decide_eq_true hle'; go_wp2; go_roundw
                              case rel =>
                                refine ⟨j + 1, by omega, by go_num, ?_⟩; rw [fold_step hg2, HJ.out, HPF.out, raise_yes qas qar, HAk2.out]
                                have hcc : Capped n (J0.set i (ak + 1)) := by
                                  have := HC.out
                                  rwa [HPF.out, raise_yes qas qar, HAk2.out] at this
                                exact ((HSj.out.alloc hsj _).drewN _).raised hli (ak + 1) hcc
                              case measure => exact qms
                            · have hle' : ¬ (aj : Int) ≤ (n : Int) := qaa
                              have hgt' : (aj : Int) < (ak : Int) + 1 := qaa; go_wp2; go_roundw
                              case rel =>
                                refine ⟨j + 1, by omega, by go_num, ?_⟩; rw [fold_step hg2, HJ.out, HPF.out, raise_no (fun hh => hle qbf)]; exact (HSj.out.alloc hsj _).drewN _
                              case measure => exact qms
                          · have hgt' : ¬ (aj : Int) < (ak : Int) + 1 := qaa
                            go_wp2; go_roundw
                            case rel =>
                              refine ⟨j + 1, by omega, by go_num, ?_⟩; rw [fold_step hg2, HJ.out, HPF.out, raise_no (fun hh => hgt qbi)]; exact (HSj.out.alloc hsj _).drewN _
                            case measure => exact qms
                    · have hjme : j = m2 := qaa
                      subst hjme; have HJe := hid (show (List.range (k + 1)).foldl (pairF rs i) R = J0 by rw [range_step, HK.out, ← HJ.out, List.take_of_length_le (Nat.le_of_eq HP2.out.1)]; unfold pairF; rw [bodyAt_of HGi.out]); go_wp2; go_roundw
                      case rel => exact ⟨k + 1, by omega, by go_num, by rw [HJe.out]; exact HSj.out⟩
                      case measure => exact qms
            · have hke : k = n := qaa
              have hrange := hid (show (List.range (i + 1)).foldl (rowF rs) T = K0 by rw [range_step, HRi.out, ← HK.out]; unfold rowF; rw [HL.out, hke]); have hlkI : ¬ (k : Int) < (n : Int) := qaa; go_wp2; go_roundw
              case rel => exact ⟨i + 1, by omega, by go_num, by rw [hrange.out]; exact HSk.out⟩
              case measure => exact qms
        · have hie : i = n := qaa
          have hpass := hid (show again (passF rs) (t + 1) (List.replicate n 0) = R by rw [again_succ, HT.out, ← HRi.out]; unfold passF; rw [HL.out, hie]); have hliI : ¬ (i : Int) < (n : Int) := qaa; have hlt' := HTI.out; go_wp2; go_roundw
          case rel => exact ⟨t + 1, by omega, by go_num, by rw [hpass.out]; exact HSi.out⟩
          case measure => exact qms
    · have hte : t = (n + 1) * (n + 2) := by have := HTI.out; omega
      subst hte; have hl := HL.out; go_wp2; go_ret; refine ⟨rfl, ?_, HS.out.2.2⟩; unfold levelsL; rw [hl, HT.out]; exact HS.out.1
def ruleTight (r : Rl) : Bool := tightB r.1.2 r.2
def progB (rs : List Rl) : Nat :=
  if rs.all ruleB = false then 1 else if 8 < rs.length then 2 else if alikeB (atsOf rs) = false then 3 else if rs.all ruleTight = false then 4 else if cycB rs = true then 5 else 0
theorem all_no {α : Type} {f : α → Bool} {l : List α} {x : α} (h : x ∈ l) (hf : f x = false) : l.all f = false := by
  rw [List.all_eq_false]; exact ⟨x, h, by rw [hf]; decide⟩
theorem all_end {α : Type} {f : α → Bool} {l : List α} {n : Nat} (hn : l.length = n) (h : ∀ q ∈ l.take n, f q = true) : l.all f = true := by
  rw [List.take_of_length_le qaa] at h; rw [List.all_eq_true]; exact h
theorem ruleB_parts {r : Rl} (h : ruleB r = true) : bodyB r.2 = true ∧ atomB r.1 = true ∧ r.2.length ≤ 4 := by
  unfold ruleB at h; simp only [Bool.and_eq_true, decide_eq_true_eq] at h; exact ⟨h.1, h.2.1, h.2.2⟩
theorem atomB_three {a : At} (h : atomB a = true) : a.2.length ≤ 3 := by
  unfold atomB at h; simp only [Bool.and_eq_true, decide_eq_true_eq] at h; exact h.2.2
theorem rule_three {qs : List Pt} (h : bodyB qs = true) : ∀ q ∈ qs, q.2.2.length ≤ 3 := by
  intro q hq; unfold bodyB at h; exact atomB_three (List.all_eq_true.1 h q hq)
end Go.Proofs.YtcigljngiemdeaaGreat
namespace Go.Proofs.YtcigljngiemdeaaGreat
open Go.RowKit
theorem l2Cycle_any (A : Option Addr) (n c : Nat) (rs : List Rl) (w : World) (h : IsRules w 0 w.heap.size A n c rs) (hn : n ≤ 8) (h4 : ∀ r ∈ rs, r.2.length ≤ 4) :
    Calls Tryz.prog 157 #[.slice A n c] w (BoolPost (cycB rs) w) := by
  have HL := hid h.1; have H := hid h; have H4 := hid h4; clear h h4; go_enter Tryz.func157, Tryz.ntmps157; go_wp2_with fail; refine (l2Levels_any A n c rs _ H.out hn H4.out).mono ?_; rintro e w1 ⟨rfl, hI, hb1⟩; have hcap := Capped.levels rs; rw [HL.out] at hcap; obtain ⟨T, hT⟩ : ∃ T, levelsL rs = T := ⟨_, rfl⟩; rw [hT] at hI hcap; have HT := hid hT; have HI := hid hI; have HC := hid hcap; clear hT hI hcap; go_wp2; go_loop [4] (fun x => ∃ i : Nat, i ≤ n ∧ x = .int .i64 (i : Int) ∧ ∀ q ∈ T.take i, ¬ n ≤ q) (fun x => n - (intOf x).toNat)
  case atStart => exact ⟨0, Nat.zero_le _, rfl, fun q hq => by simp at hq⟩
  case round =>
    obtain ⟨i, hin, rfl, hS⟩ := hrel; have HS := hid hS; clear hS; by_cases hlt : i < n
    · have x1 := HI.out.cell hlt
      have hle := HC.out.le i; obtain ⟨a, ha⟩ : ∃ a, at0 T i = a := ⟨_, rfl⟩; rw [ha] at x1 hle
      have hTi : T[i]? = some a := by
        have hl : i < T.length := by rw [HI.out.1]; exact hlt
        rw [List.getElem?_eq_getElem hl]; unfold at0 at ha; rw [List.getElem?_eq_getElem hl] at ha; exact congrArg some ha
      have HTi := hid hTi; clear hTi ha; by_cases hge : n ≤ a
      · have E := hid (show cycB rs = true by unfold cycB; rw [HT.out, HL.out, List.any_eq_true]; exact ⟨a, List.mem_of_getElem? HTi.out, decide_eq_true hge⟩)
        have hgeI : (n : Int) ≤ (a : Int) := qaa; go_wp2; go_ret; exact ⟨retB E.out.symm, hb1⟩
      · have hgeI : ¬ (n : Int) ≤ (a : Int) := qaa
        go_wp2; go_round
        case rel => exact ⟨i + 1, by omega, by go_num, all_snoc HTi.out HS.out hge⟩
        case measure => exact qms
    · have hie : i = n := qaa
      have E := hid (show cycB rs = false by
        unfold cycB; rw [HT.out, HL.out, List.any_eq_false]; intro q hq; have := HS.out q (by rw [List.take_of_length_le (by rw [HI.out.1]; omega)]; exact hq); simpa using this)
      go_wp2; go_ret; exact ⟨retB E.out.symm, hb1⟩
def CodePost (k : Nat) (w : World) (e : Ending) (w' : World) : Prop := e = .returned (.int .i64 (k : Int)) ∧ Below w.heap.size w w'
theorem prog1 {rs : List Rl} (h : rs.all ruleB = false) : progB rs = 1 := if_pos h
theorem prog2 {rs : List Rl} (h : rs.all ruleB = true) (h2 : 8 < rs.length) : progB rs = 2 := by unfold progB; rw [if_neg (by rw [h]; decide), if_pos h2]
theorem prog3 {rs : List Rl} (h : rs.all ruleB = true) (h2 : ¬ 8 < rs.length) (h3 : alikeB (atsOf rs) = false) : progB rs = 3 := by unfold progB; rw [if_neg (by rw [h]; decide), if_neg h2, if_pos h3]
theorem prog4 {rs : List Rl} (h : rs.all ruleB = true) (h2 : ¬ 8 < rs.length) (h3 : alikeB (atsOf rs) = true) (h4 : rs.all ruleTight = false) : progB rs = 4 := by unfold progB; rw [if_neg (by rw [h]; decide), if_neg h2, if_neg (by rw [h3]; decide), if_pos h4]
theorem prog5 {rs : List Rl} (h : rs.all ruleB = true) (h2 : ¬ 8 < rs.length) (h3 : alikeB (atsOf rs) = true) (h4 : rs.all ruleTight = true) : progB rs = if cycB rs = true then 5 else 0 := by unfold progB; rw [if_neg (by rw [h]; decide), if_neg h2, if_neg (by rw [h3]; decide), if_neg (by rw [h4]; decide)]
theorem code_is {k j : Nat} (h : j = k) : Ending.returned (.int .i64 (k : Int)) = .returned (.int .i64 ((j : Nat) : Int)) := by rw [h]
theorem rule_four {rs : List Rl} (h : rs.all ruleB = true) : ∀ r ∈ rs, r.2.length ≤ 4 := fun r hr => (ruleB_parts (List.all_eq_true.1 h r hr)).2.2
theorem specProgCheck_any (A : Option Addr) (n c : Nat) (rs : List Rl) (w : World) (h : IsRules w 0 w.heap.size A n c rs) :
    Calls Tryz.prog 113 #[.slice A n c] w (CodePost (progB rs) w) := by
  have hm := h.len; unfold maxLen at hm; have HL := hid h.1; have H := hid h; clear h; go_enter Tryz.func113, Tryz.ntmps113; go_wp2; go_loopw [3] (fun x wr => ∃ i : Nat, i ≤ n ∧ x = .int .i64 (i : Int) ∧ (∀ q ∈ rs.take i, ruleB q = true) ∧ Below w.heap.size w wr) (fun x _ => n - (intOf x).toNat)
  case atStart => exact ⟨0, Nat.zero_le _, rfl, fun q hq => by simp at hq, Below.refl _ _⟩
  case round =>
    obtain ⟨i, hin, rfl, hS, hb⟩ := hrel; have HS := hid hS; clear hS; by_cases hlt : i < n
    · obtain ⟨p, r, A', n', c', B, m, d, hA, hpb, hg, d1, d2, d3, d4, d5, d6⟩ := rule_at (H.out.below RuleE.stays hb (nl _)) hlt
      subst hA; have HG := hid hg; have HR : Hid (IsRule wr wr.heap.size A' n' c' B m d r.1.2 r.2) := hid ⟨d4.keep (fun _ _ _ => rfl) (nl _) hb.size, d6.keep PartE.stays (fun _ _ _ => rfl) (nl _) hb.size⟩; clear hg d4 d6; go_wp2_with fail; refine (l1Rule_any r.1.1 A' n' c' B m d r.1.2 r.2 _ d2 HR.out).mono ?_; rintro e w1 ⟨rfl, hb1⟩; cases hr : ruleB r
      · have E := hid (prog1 (all_no (List.mem_of_getElem? HG.out) hr))
        have hr' : ruleB ((r.1.1, r.1.2), r.2) = false := hr
        try rw [hr']
        clear hr hr' d1 d3 d5; go_wp2; go_ret; exact ⟨code_is E.out, belowThen hb hb1⟩
      · have hr' : ruleB ((r.1.1, r.1.2), r.2) = true := hr
        have HS2 := hid (all_snoc HG.out HS.out hr)
        try rw [hr']
        clear hr hr' d1 d3 d5; go_wp2; go_roundw
        case rel => exact ⟨i + 1, by omega, by go_num, HS2.out, belowThen hb hb1⟩
        case measure => exact qms
    · have hie : i = n := qaa
      subst hie; have HALL := hid (all_end (f := ruleB) HL.out HS.out); by_cases h8 : 8 < i
      · have E := hid (prog2 HALL.out (by rw [HL.out]; exact h8))
        have h8I : (8 : Int) < (i : Int) := qaa; go_wp2; go_ret; exact ⟨code_is E.out, hb⟩
      · have h8I : ¬ (8 : Int) < (i : Int) := qaa
        have H8 := hid (show ¬ 8 < rs.length by rw [HL.out]; exact h8); have H4 := hid (rule_four HALL.out); go_wp2_with fail; refine (l2Args_any A i c rs _ (H.out.up RuleE.stays hb) qaa H4.out).mono ?_; rintro e w1 ⟨rfl, hb1⟩; cases h3 : alikeB (atsOf rs)
        · have E := hid (prog3 HALL.out H8.out h3)
          clear h3; go_wp2; go_ret; exact ⟨code_is E.out, belowThen hb hb1⟩
        · have HB1 := belowThen hb hb1
          have H3 := hid h3; clear h3; go_wp2; go_loopw [4] (fun x wr => ∃ k : Nat, k ≤ i ∧ x = .int .i64 (k : Int) ∧ (∀ q ∈ rs.take k, ruleTight q = true) ∧ Below w.heap.size w wr) (fun x _ => i - (intOf x).toNat)
          case atStart => exact ⟨0, Nat.zero_le _, rfl, fun q hq => by simp at hq, HB1⟩
          case round =>
            obtain ⟨k, hkn, rfl, hS, hb⟩ := hrel; have HQ := hid hS; clear hS; by_cases hlk : k < i
            · obtain ⟨p, r, A', n', c', B, m, d, hA, hpb, hg, d1, d2, d3, d4, d5, d6⟩ := rule_at (H.out.below RuleE.stays hb (nl _)) hlk
              subst hA; have hok := ruleB_parts (List.all_eq_true.1 HALL.out r (List.mem_of_getElem? hg)); have HG := hid hg; have HO := hid hok; have hn3 : n' ≤ 3 := by rw [← d4.1]; exact atomB_three hok.2.1
              have hm4 : m ≤ 4 := by rw [← d6.1]; exact hok.2.2
              have HT := hid (d4.keep (lo' := 0) (hi' := wr.heap.size) (fun _ _ _ => rfl) (nl _) hb.size); have HP := hid (d6.keep (lo' := 0) (hi' := wr.heap.size) PartE.stays (fun _ _ _ => rfl) (nl _) hb.size); clear hg d4 d6 hok; go_wp2_with fail; refine (l2Tight_any r.1.1 A' n' c' r.1.2 B m d r.2 _ HT.out HP.out (rule_three HO.out.1) qaa qaa).mono ?_; rintro e w2 ⟨rfl, hb2⟩; cases hr : ruleTight r
              · have E := hid (prog4 HALL.out H8.out H3.out (all_no (List.mem_of_getElem? HG.out) hr))
                have hr' : tightB r.1.2 r.2 = false := hr
                try rw [hr']
                clear hr hr' d1 d3 d5; go_wp2; go_ret; exact ⟨code_is E.out, belowThen hb hb2⟩
              · have hr' : tightB r.1.2 r.2 = true := hr
                have HS2 := hid (all_snoc HG.out HQ.out hr)
                try rw [hr']
                clear hr hr' d1 d3 d5; go_wp2; go_roundw
                case rel => exact ⟨k + 1, by omega, by go_num, HS2.out, belowThen hb hb2⟩
                case measure => exact qms
            · have hke : k = i := qaa
              subst hke; have HT := hid (all_end (f := ruleTight) HL.out HQ.out); have HE := hid (prog5 HALL.out H8.out H3.out HT.out); go_wp2_with fail; refine (l2Cycle_any A k c rs _ (H.out.up RuleE.stays hb) qaa H4.out).mono ?_; rintro e w2 ⟨rfl, hb2⟩; cases hc : cycB rs
              · have E := hid (show progB rs = 0 by rw [HE.out, hc]; rfl)
                clear hc; go_wp2; go_ret; exact ⟨code_is E.out, belowThen hb hb2⟩
              · have E := hid (show progB rs = 5 by rw [HE.out, hc]; rfl)
                clear hc; go_wp2; go_ret; exact ⟨code_is E.out, belowThen hb hb2⟩
end Go.Proofs.YtcigljngiemdeaaGreat
namespace Go.Proofs.YtcigljngiemdeaaGreat
open Go.RowKit
theorem prog_fine {rs : List Rl} (h : progB rs = 0) : rs.all ruleB = true ∧ rs.length ≤ 8 := by
  cases h1 : rs.all ruleB with
  | false => rw [prog1 h1] at h; exact absurd h qal
  | true =>
    by_cases h2 : 8 < rs.length
    · rw [prog2 h1 h2] at h; exact absurd h qal
    · exact ⟨rfl, by omega⟩
end Go.Proofs.YtcigljngiemdeaaGreat
