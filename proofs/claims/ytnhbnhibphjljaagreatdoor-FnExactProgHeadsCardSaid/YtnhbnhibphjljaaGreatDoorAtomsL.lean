/-
  All atoms of rules, in the model; and whether each name has one number of terms.
-/
import Derived.Test.YtnhbnhibphjljaaGreatDoorRulesAt
import Derived.Deep.QuietTactic
import Derived.BigQuiet
import Derived.Test.YtnhbnhibphjljaaGreatDoorApp
namespace Go.Proofs.YtnhbnhibphjljaaGreatDoor
open Go.RowKit

theorem atsOf_len : ∀ (rs : List Rl), (∀ r ∈ rs, r.2.length ≤ 4) → (atsOf rs).length ≤ 5 * rs.length
  | [], _ => by simp [atsOf]
  | r :: rs, h => by
    have h1 := atsOf_len rs (fun q hq => h q (List.mem_cons_of_mem _ hq))
    have h2 := h r (List.mem_cons_self ..)
    unfold atsOf at *
    simp only [List.flatMap_cons, List.length_append, List.length_cons, List.length_map]
    omega

/-- The atoms so far, in a row of the call's own; what they lead to is old. -/
def AtomsSo (w : World) (L : List At) (o : Value) (wr : World) : Prop :=
  ∃ (rfs : List Rf), wr.ownsRow w.heap.size 67 2 o L.length (rcells rfs) ∧ rfs.map rAt = L ∧ RefsIn w 0 w.heap.size rfs ∧ Below w.heap.size w wr

theorem AtomsSo.value {w wr : World} {L : List At} {o : Value} (h : AtomsSo w L o wr) : ∃ A c, o = .slice A L.length c := by
  obtain ⟨rfs, hrow, _⟩ := h
  rcases hrow.2 with ⟨e1, e2⟩ | ⟨g, cap, cur, e1, _⟩
  · exact ⟨none, 0, by rw [e1, e2]⟩
  · exact ⟨_, cap, e1⟩

theorem AtomsSo.more {w wr w2 : World} {L : List At} {v v' : Value} {o : Obj} {nm : ByteArray} {A : Option Addr} {n c : Nat} {ts : List Tm} {rfs : List Rf} (hm : rfs.map rAt = L) (hR : RefsIn w 0 w.heap.size rfs) (hb : Below w.heap.size w wr)
    (hrow : wr.ownsRow w.heap.size 67 2 v L.length (rcells rfs)) (hown : w2.ownsRow w.heap.size 67 2 v' (L.length + 1) (rcells rfs ++ [.string nm, .slice A n c])) (hg : (wr.alloc o).grownBy w2 v.ownBlock) (hs : nm.size ≤ maxLen) (hT : IsTerms w 0 w.heap.size A n c ts) : AtomsSo w (L ++ [(nm, ts)]) v' w2 := by
  refine ⟨rfs ++ [(nm, A, n, c, ts)], ?_, ?_, ?_, ?_⟩
  · rw [rcells_snoc, List.length_append]; exact hown
  · rw [List.map_append, hm]; rfl
  · intro r hr
    rcases List.mem_append.1 hr with hr | hr
    · exact hR r hr
    · rw [List.mem_singleton.1 hr]; exact ⟨hs, hT⟩
  · refine ((hb.alloc hb.size o).grown hg (by simp; have := hb.size; omega) (fun j ej => ?_))
    rcases hrow.2 with ⟨rfl, _⟩ | ⟨g', cap', cur, rfl, hbg, _, _⟩
    · simp [Value.ownBlock] at ej
    · obtain rfl : g' = j := by simpa [Value.ownBlock] using ej
      exact hbg

/-- A rule at its place, its head and its body. -/
theorem rule_at {w : World} {hi n c : Nat} {A : Option Addr} {rs : List Rl} (h : IsRules w 0 hi A n c rs) {i : Nat} (hn : i < n) :
    ∃ p r A' n' c' B m d, A = some p ∧ p.block < hi ∧ rs[i]? = some r ∧ w.cell? (p.add (i * 3)) = some (.string r.1.1) ∧ r.1.1.size ≤ maxLen ∧ w.cell? ⟨(p.add (i * 3)).block, (p.add (i * 3)).off + 1, none⟩ = some (.slice A' n' c') ∧ IsTerms w 0 hi A' n' c' r.1.2 ∧
      w.cell? ⟨(p.add (i * 3)).block, (p.add (i * 3)).off + 2, none⟩ = some (.slice B m d) ∧ IsParts w 0 hi B m d r.2 := by
  obtain ⟨p, r, hA, _, hh, hg, hE⟩ := h.at_ hn
  obtain ⟨A', n', c', B, m, d, d1, d2, d3, d4, d5, d6⟩ := hE.out
  exact ⟨p, r, A', n', c', B, m, d, hA, hh, hg, d1, d2, d3, d4, d5, d6⟩

set_option maxRecDepth 100000 in
set_option maxHeartbeats 8000000 in
theorem l2Atoms_any (A : Option Addr) (n c : Nat) (rs : List Rl) (w : World) (h : IsRules w 0 w.heap.size A n c rs) (hn : n ≤ 8) (h4 : ∀ r ∈ rs, r.2.length ≤ 4) :
    Calls Tryz.prog 105 #[.slice A n c] w fun e w' => ∃ A' c', e = .returned (.slice A' (atsOf rs).length c') ∧ IsAtoms w' 0 w'.heap.size A' (atsOf rs).length c' (atsOf rs) ∧ Below w.heap.size w w' := by
  obtain ⟨i0, hi, hz, hsz, hby⟩ := info_parts Tryz.infoAt
  have HL := Lib.hid h.1
  have H := Lib.hid h; have H4 := Lib.hid h4; clear h h4
  have hlen : ∀ k, (atsOf (rs.take k)).length ≤ 5 * k := fun k => Nat.le_trans (atsOf_len _ (fun r hr => H4.out r (List.mem_of_mem_take hr))) (Nat.mul_le_mul_left _ (List.length_take_le _ _))
  have HLEN := Lib.hid hlen; clear hlen
  go_enter Tryz.func105, Tryz.ntmps105
  go_wp2
  go_loopw [3, 4] (fun o x wr => ∃ i : Nat, i ≤ n ∧ x = .int .i64 (i : Int) ∧ AtomsSo w (atsOf (rs.take i)) o wr) (fun _ x _ => n - (intOf x).toNat)
  case atStart => exact ⟨0, Nat.zero_le _, rfl, [], own_empty w _ _ (Nat.le_refl _), rfl, fun r hr => by simp at hr, below1 _ _⟩
  case round =>
    obtain ⟨i, hin, rfl, hS⟩ := hrel
    have hli := HLEN.out i
    obtain ⟨L, hLL⟩ : ∃ L, atsOf (rs.take i) = L := ⟨_, rfl⟩
    rw [hLL] at hS hli
    obtain ⟨Av, cv, rfl⟩ := hS.value
    have HLL := Lib.hid hLL; clear hLL
    by_cases hlt : i < n
    · obtain ⟨p, r, A', n', c', B, m, d, hA, hpb, hg, d1, d2, d3, d4, d5, d6⟩ := rule_at H.out hlt
      subst hA
      obtain ⟨rfs, hrow, hm, hR, hb⟩ := hS
      have hm4 : m ≤ 4 := by rw [← d6.1]; exact H4.out r (List.mem_of_getElem? hg)
      have HG := Lib.hid hg; have HT := Lib.hid d4; have HP := Lib.hid d6; have HROW := Lib.hid hrow; have HM := Lib.hid hm; have HR := Lib.hid hR
      have x1 := (hb.cell (p := p.add (i * 3)) (by rw [block_add]; exact hpb)).trans d1
      have x2 := (hb.cell (p := ⟨(p.add (i * 3)).block, (p.add (i * 3)).off + 1, none⟩) (by rw [block_add]; exact hpb)).trans d3
      have hbs := hb.size
      clear hg d4 d6 hrow hm hR d1 d3
      go_wp2_with (at_builtin; refine wpList_append_own _ rfl _ _ 41 rfl w.heap.size 67 i0 _ 2 40 Tryz.underlying41 hi hz hsz hby rfl (by decide) _ _ _ rfl (HROW.out.alloc _) ⟨wr.heap.size, 0, none⟩ 1 1 [.string r.1.1, .slice A' n' c'] rfl rfl (two_new _ _ _ _) (by simp [Value.oneCell']) (by unfold maxLen; omega) (by omega) (by simp; omega) ?_; intro v' w2 hown' hgrow' _; have hown := Lib.hid hown'; have hgrow := Lib.hid hgrow'; clear hown' hgrow')
      have HS2 := Lib.hid (AtomsSo.more HM.out HR.out hb HROW.out hown.out hgrow.out d2 HT.out)
      clear hown hgrow x1 x2
      obtain ⟨w0, rfl⟩ : ∃ w0 : World, w0 = w2 := ⟨_, rfl⟩
      go_loopw [3, 5] (fun o x wr => ∃ j : Nat, j ≤ m ∧ x = .int .i64 (j : Int) ∧ AtomsSo w (L ++ r.1 :: (r.2.take j).map (·.2)) o wr) (fun _ x _ => m - (intOf x).toNat)
      case atStart => exact ⟨0, Nat.zero_le _, rfl, HS2.out⟩
      case round =>
        obtain ⟨j, hjm, rfl, hS⟩ := hrel
        have hlj : (L ++ r.1 :: (r.2.take j).map (·.2)).length ≤ 5 * i + 1 + j := by
          have := List.length_take_le j r.2
          simp only [List.length_append, List.length_cons, List.length_map]; omega
        obtain ⟨M, hMM⟩ : ∃ M, L ++ r.1 :: (r.2.take j).map (·.2) = M := ⟨_, rfl⟩
        rw [hMM] at hS hlj
        obtain ⟨Au, cu, rfl⟩ := hS.value
        have HMM := Lib.hid hMM; clear hMM
        obtain ⟨rfs', hrow, hm, hR, hb'⟩ := hS
        have HROW2 := Lib.hid hrow; have HM2 := Lib.hid hm; have HR2 := Lib.hid hR
        have hbs' := hb'.size
        clear hrow hm hR
        have y5 := (hb'.cell (p := ⟨(p.add (i * 3)).block, (p.add (i * 3)).off + 2, none⟩) (by rw [block_add]; exact hpb)).trans d5
        by_cases hlj2 : j < m
        · obtain ⟨pp, q, hB, _, hpp, hg2, hE⟩ := HP.out.at_ hlj2
          obtain ⟨A5, n5, c5, _, f2, f3, f4, f5⟩ := hE.out
          clear hE
          subst hB
          have HG2 := Lib.hid hg2; have HT2 := Lib.hid f5
          have y2 := (hb'.cell (p := ⟨(pp.add (j * 3)).block, (pp.add (j * 3)).off + 1, none⟩) (by rw [block_add]; exact hpp)).trans f2
          have y4 := (hb'.cell (p := ⟨(pp.add (j * 3)).block, (pp.add (j * 3)).off + 2, none⟩) (by rw [block_add]; exact hpp)).trans f4
          clear hg2 f5 f2 f4 d5
          go_wp2_with (at_builtin; refine wpList_append_own _ rfl _ _ 41 rfl w.heap.size 67 i0 _ 2 40 Tryz.underlying41 hi hz hsz hby rfl (by decide) _ _ _ rfl (HROW2.out.alloc _) ⟨wr.heap.size, 0, none⟩ 1 1 [.string q.2.1, .slice A5 n5 c5] rfl rfl (two_new _ _ _ _) (by simp [Value.oneCell']) (by unfold maxLen; omega) (by omega) (by simp; omega) ?_; intro v' w2 hown' hgrow' _; have hown := Lib.hid hown'; have hgrow := Lib.hid hgrow'; clear hown' hgrow')
          have HS3 := AtomsSo.more HM2.out HR2.out hb' HROW2.out hown.out hgrow.out f3 HT2.out
          rw [← HMM.out, List.append_assoc, List.cons_append] at HS3
          have e3 : (r.2.take j).map (·.2) ++ [(q.2.1, q.2.2)] = (r.2.take (j + 1)).map (·.2) := by rw [List.take_add_one, HG2.out, List.map_append]; rfl
          rw [e3] at HS3
          have HS4 := Lib.hid HS3
          clear hown hgrow HS3 e3 y2 y4 y5
          go_roundw
          case rel => exact ⟨j + 1, by omega, by go_num, HS4.out⟩
          case measure => simp [intOf]; omega
        · have hjm' : j = m := by omega
          have HS5 := Lib.hid (show AtomsSo w (atsOf (rs.take (i + 1))) (.slice Au M.length cu) wr by
            refine ⟨rfs', ?_, ?_, HR2.out, hb'⟩
            · have e : (atsOf (rs.take (i + 1))).length = M.length := by rw [atsOf_step HG.out, HLL.out, ← HMM.out, List.take_of_length_le (by rw [HP.out.1]; omega)]
              rw [e]; exact HROW2.out
            · rw [HM2.out, atsOf_step HG.out, HLL.out, ← HMM.out, List.take_of_length_le (by rw [HP.out.1]; omega)])
          go_wp2
          go_roundw
          case rel => exact ⟨i + 1, by omega, by go_num, HS5.out⟩
          case measure => simp [intOf]; omega
    · have hin' : i = n := by omega
      have e : L = atsOf rs := by rw [← HLL.out, List.take_of_length_le (by rw [HL.out]; omega)]
      subst e
      obtain ⟨rfs, hrow, hm, hR, hb⟩ := hS
      have hlr : (atsOf rs).length = rfs.length := by rw [← hm, List.length_map]
      obtain ⟨A9, c9, e9, hI⟩ := refs_own hrow hlr (Nat.zero_le _) (hR.keep (fun q _ hq => hb.cell hq) (Nat.le_refl _) (Nat.le_refl _)) hb.size
      injection e9 with e9 _ e10
      subst e9; subst e10
      have HI : Hid (IsAtoms wr 0 wr.heap.size Av (atsOf rs).length cv (atsOf rs)) := Lib.hid (by have := hI.atoms; rwa [hm] at this)
      clear hrow hm hR hlr hI
      go_wp2
      go_ret; exact ⟨_, _, rfl, HI.out, hb⟩

/-- Two atoms go together: they have unlike names, or as many terms. -/
def pairOk (a b : At) : Bool := !(decide (a.1 = b.1)) || decide (a.2.length = b.2.length)
/-- Each name has one number of terms. -/
def alikeB (xs : List At) : Bool := xs.all fun a => xs.all fun b => pairOk a b

theorem pairOk_symm (a b : At) : pairOk a b = pairOk b a := by
  unfold pairOk
  rw [show decide (a.1 = b.1) = decide (b.1 = a.1) from decide_eq_decide.2 ⟨Eq.symm, Eq.symm⟩, show decide (a.2.length = b.2.length) = decide (b.2.length = a.2.length) from decide_eq_decide.2 ⟨Eq.symm, Eq.symm⟩]

theorem pairOk_self (a : At) : pairOk a a = true := by unfold pairOk; simp

/-- All pairs below a place go together, and those of the place below another one. -/
def PairsOk (xs : List At) (i k : Nat) : Prop := ∀ x y a b, xs[x]? = some a → xs[y]? = some b → (x < i ∧ y < x ∨ x = i ∧ y < k) → pairOk a b = true

theorem PairsOk.next {xs : List At} {i k : Nat} {a b : At} (h : PairsOk xs i k) (ha : xs[i]? = some a) (hb : xs[k]? = some b) (hp : pairOk a b = true) : PairsOk xs i (k + 1) := by
  intro x y a' b' hx hy hxy
  by_cases e : x = i ∧ y = k
  · obtain ⟨rfl, rfl⟩ := e
    rw [ha] at hx; rw [hb] at hy
    injection hx with hx; injection hy with hy
    subst hx; subst hy; exact hp
  · exact h x y a' b' hx hy (by omega)

theorem PairsOk.row {xs : List At} {i : Nat} (h : PairsOk xs i i) : PairsOk xs (i + 1) 0 :=
  fun x y a b hx hy hxy => h x y a b hx hy (by omega)

theorem PairsOk.all {xs : List At} {n : Nat} (hn : xs.length = n) (h : PairsOk xs n 0) : alikeB xs = true := by
  unfold alikeB
  rw [List.all_eq_true]
  intro a ha
  rw [List.all_eq_true]
  intro b hb
  obtain ⟨x, hx⟩ := List.getElem?_of_mem ha
  obtain ⟨y, hy⟩ := List.getElem?_of_mem hb
  have lx := (List.getElem?_eq_some_iff.1 hx).1
  have ly := (List.getElem?_eq_some_iff.1 hy).1
  rcases Nat.lt_trichotomy x y with e | e | e
  · rw [pairOk_symm]; exact h y x b a hy hx (by omega)
  · subst e
    rw [hx] at hy
    injection hy with hy
    subst hy; exact pairOk_self a
  · exact h x y a b hx hy (by omega)

theorem alikeB_no {xs : List At} {a b : At} (ha : a ∈ xs) (hb : b ∈ xs) (h : pairOk a b = false) : alikeB xs = false := by
  cases h1 : alikeB xs
  · rfl
  · unfold alikeB at h1
    have := List.all_eq_true.1 (List.all_eq_true.1 h1 a ha) b hb
    rw [h] at this; cases this

set_option maxRecDepth 100000 in
set_option maxHeartbeats 4000000 in
theorem l2Args_any (A : Option Addr) (n c : Nat) (rs : List Rl) (w : World) (h : IsRules w 0 w.heap.size A n c rs) (hn : n ≤ 8) (h4 : ∀ r ∈ rs, r.2.length ≤ 4) :
    Calls Tryz.prog 57 #[.slice A n c] w (BoolPost (alikeB (atsOf rs)) w) := by
  have H := Lib.hid h; have H4 := Lib.hid h4
  have hlen := Nat.le_trans (atsOf_len rs h4) (Nat.mul_le_mul_left 5 (show rs.length ≤ 8 by rw [h.1]; exact hn))
  obtain ⟨xs, hxs⟩ : ∃ xs, atsOf rs = xs := ⟨_, rfl⟩
  obtain ⟨m, hm⟩ : ∃ m, xs.length = m := ⟨_, rfl⟩
  rw [hxs, hm] at hlen
  have HXS := Lib.hid hxs; have HM := Lib.hid hm
  clear h h4 hxs hm
  rw [HXS.out]
  go_enter Tryz.func57, Tryz.ntmps57
  go_wp2_with fail
  refine (l2Atoms_any A n c rs _ H.out hn H4.out).mono ?_; rintro e w1 ⟨A', c', rfl, hI, hb1⟩
  rw [HXS.out, HM.out] at hI ⊢
  have HI := Lib.hid hI; clear hI
  go_wp2
  go_loopw [4] (fun x wr => ∃ i : Nat, i ≤ m ∧ x = .int .i64 (i : Int) ∧ PairsOk xs i 0 ∧ Below w1.heap.size w1 wr) (fun x _ => m - (intOf x).toNat)
  case atStart => exact ⟨0, Nat.zero_le _, rfl, fun x y a b _ _ h => by omega, Below.refl _ _⟩
  case round =>
    obtain ⟨i, him, rfl, hS, hb⟩ := hrel
    have HS := Lib.hid hS; clear hS
    by_cases hlt : i < m
    · have hltI : (i : Int) < (m : Int) := by omega
      go_wp2
      obtain ⟨w2, hw2⟩ : ∃ w2 : World, w2 = wr := ⟨_, rfl⟩
      subst hw2
      go_loopw [5] (fun x wr => ∃ k : Nat, k ≤ i ∧ x = .int .i64 (k : Int) ∧ PairsOk xs i k ∧ Below w1.heap.size w1 wr) (fun x _ => i - (intOf x).toNat)
      case atStart => exact ⟨0, Nat.zero_le _, rfl, HS.out, hb⟩
      case round =>
        obtain ⟨k, hki, rfl, hSk, hbk⟩ := hrel
        have HSk := Lib.hid hSk; clear hSk
        by_cases hlk : k < i
        · have hlkI : (k : Int) < (i : Int) := by omega
          obtain ⟨p, a, hA, _, _, hga, hEa⟩ := (HI.out.below AtomE.stays hbk (Nat.le_refl _)).at_ hlt
          obtain ⟨p', b, hA', _, _, hgb, hEb⟩ := (HI.out.below AtomE.stays hbk (Nat.le_refl _)).at_ (show k < m by omega)
          obtain ⟨A1, n1, c1, a1, _, a3, a4⟩ := hEa.out
          obtain ⟨A2, n2, c2, b1, _, b3, b4⟩ := hEb.out
          clear hEa hEb
          rw [hA] at hA'
          injection hA' with hA'
          subst hA'; subst hA
          have HGa := Lib.hid hga; have HGb := Lib.hid hgb
          have N1 := Lib.hid a4.1; have N2 := Lib.hid b4.1
          clear hga hgb a4 b4
          obtain ⟨bb, hbb⟩ : ∃ bb, (a.1.toList == b.1.toList) = bb := ⟨_, rfl⟩
          have HB := Lib.hid (bytes_is hbb)
          cases bb
          · have HP := Lib.hid (HSk.out.next HGa.out HGb.out (by unfold pairOk; rw [← HB.out]; rfl))
            go_wp2_with fail
            go_quiet (fail)
            go_wp2
            go_roundw
            case rel => exact ⟨k + 1, by omega, by go_num, HP.out, hbk.os, hbk.tape, hbk.output, hbk.size, hbk.block⟩
            case measure => simp [intOf]; omega
          · by_cases hnn : n1 = n2
            · have HP := Lib.hid (HSk.out.next HGa.out HGb.out (by unfold pairOk; rw [← HB.out, N1.out, N2.out, hnn]; simp))
              subst hnn
              go_wp2_with fail
              go_quiet (fail)
              go_wp2
              go_roundw
              case rel => exact ⟨k + 1, by omega, by go_num, HP.out, hbk.os, hbk.tape, hbk.output, hbk.size, hbk.block⟩
              case measure => simp [intOf]; omega
            · have HP := Lib.hid (alikeB_no (List.mem_of_getElem? HGa.out) (List.mem_of_getElem? HGb.out) (by unfold pairOk; rw [← HB.out, N1.out, N2.out, decide_eq_false hnn]; rfl))
              have e1 : ((n1 : Int) == (n2 : Int)) = false := beq_eq_false_iff_ne.2 (fun e => hnn (by omega))
              have e2 : ((n1 : Int) != (n2 : Int)) = true := by rw [bne, e1]; rfl
              have e3 : (n1 == n2) = false := by simpa using hnn
              go_wp2_with fail
              go_quiet (fail)
              go_wp2
              go_ret; exact ⟨retB HP.out.symm, belowThen hb1 ⟨hbk.os, hbk.tape, hbk.output, hbk.size, hbk.block⟩⟩
        · have hke : k = i := by omega
          subst hke
          go_wp2
          go_roundw
          case rel => exact ⟨k + 1, by omega, by go_num, HSk.out.row, hbk⟩
          case measure => simp [intOf]; omega
    · have hie : i = m := by omega
      subst hie
      have HA := Lib.hid (HS.out.all HM.out)
      go_wp2
      go_ret; exact ⟨retB HA.out.symm, belowThen hb1 hb⟩

end Go.Proofs.YtnhbnhibphjljaaGreatDoor
