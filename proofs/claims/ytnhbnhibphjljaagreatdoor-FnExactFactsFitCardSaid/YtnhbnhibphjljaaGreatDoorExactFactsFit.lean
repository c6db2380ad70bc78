/-
  The exact law of FactsFit: at every list of rules and every list of facts the program answers as its model, and nothing is written into what came in.
-/
import Derived.Test.YtnhbnhibphjljaaGreatDoorRulesS
import Derived.Test.YtnhbnhibphjljaaGreatDoorCheckImpl
import Derived.Test.YtnhbnhibphjljaaGreatDoorAtoms
import Derived.Test.YtnhbnhibphjljaaGreatDoorFactsOk
import Derived.Maps.OwnSet
import Derived.Test.YtnhbnhibphjljaaGreatDoorOpen
import Derived.Test.YtnhbnhibphjljaaGreatDoorClosed
import Derived.Test.YtnhbnhibphjljaaGreatDoorCards
import Derived.Test.YtnhbnhibphjljaaGreatDoorTie
import Derived.SevenTiedAt
namespace Go.Proofs.YtnhbnhibphjljaaGreatDoor
open Go.RowKit Go.Maps Go.WideMaps

/-- Have facts as many terms as the atoms of their names? -/
def fitB (xs ls : List At) : Bool := ls.all fun a => xs.all fun b => pairOk b a

/-- The same of one fact, by the map. -/
def fitOne (xs : List At) (a : At) : Bool := match lastOf (cnts xs) a.1 with | none => true | some v => decide (v = a.2.length)

theorem fitOne_is {xs : List At} (h : alikeB xs = true) (a : At) : fitOne xs a = xs.all fun b => pairOk b a := by
  unfold fitOne
  cases hl : lastOf (cnts xs) a.1 with
  | none =>
    symm; show (xs.all fun b => pairOk b a) = true
    rw [List.all_eq_true]
    intro b hb
    unfold pairOk
    have hne : b.1 ≠ a.1 := fun e => lastOf_none hl b.2.length (by unfold cnts; rw [List.mem_map]; exact ⟨b, hb, by rw [e]⟩)
    rw [decide_eq_false hne]; rfl
  | some v =>
    have hm := lastOf_mem hl
    unfold cnts at hm
    obtain ⟨b, hb, he⟩ := List.mem_map.1 hm
    injection he with e1 e2
    show decide (v = a.2.length) = _
    by_cases hv : v = a.2.length
    · rw [decide_eq_true hv]; symm; rw [List.all_eq_true]
      intro c hc
      have hp := alike_pair h hc hb
      unfold pairOk at hp ⊢
      by_cases hca : c.1 = a.1
      · rw [decide_eq_true (hca.trans e1.symm)] at hp
        have hcl : c.2.length = b.2.length := by simpa using hp
        rw [decide_eq_true (show c.2.length = a.2.length by omega)]; simp
      · rw [decide_eq_false hca]; rfl
    · rw [decide_eq_false hv]; symm
      exact all_no hb (by unfold pairOk; rw [decide_eq_true e1, decide_eq_false (by omega)]; rfl)

theorem fits_by {xs ls : List At} (h : alikeB xs = true) : (ls.all fun a => fitOne xs a) = fitB xs ls := by
  unfold fitB; congr 1; funext a; exact fitOne_is h a

theorem prog_zero {rs : List Rl} (h : progB rs = 0) : rs.all ruleB = true ∧ rs.length ≤ 8 ∧ alikeB (atsOf rs) = true := by
  cases h1 : rs.all ruleB with
  | false => rw [prog1 h1] at h; exact absurd h (by decide)
  | true =>
    by_cases h2 : 8 < rs.length
    · rw [prog2 h1 h2] at h; exact absurd h (by decide)
    · cases h3 : alikeB (atsOf rs) with
      | false => rw [prog3 h1 h2 h3] at h; exact absurd h (by decide)
      | true => exact ⟨rfl, by omega, rfl⟩

def fitA (rs : List Rl) (ls : List At) : Bool := decide (progB rs = 0) && (factsB 300 ls && fitB (atsOf rs) ls)

theorem lookup_okW {ops : Array Oper} {rest : List Oper} {o : Oper} {a : Act} {Q : Exit → Act → World → Prop} (w : World) (hg : o.guard = none) (m x : Operand) (hop : o.op = Op.lookup 87 m x true) (b N : Nat) (ps : List (ByteArray × Nat)) (hm : a.eval m = .map (some b)) (hown : w.ownsMap Tryz.prog 9 (plainElem Tryz.prog 3) b N (imap ps)) (s : ByteArray) (hx : a.eval x = .string s) (hs : s.size ≤ maxLen) (n : Nat) (sn : Bool) (h1 : (lastOf ps s).getD 0 = n) (h2 : (lastOf ps s).isSome = sn)
    (hK : wpList Tryz.prog ops Q rest (a.put o.dst (.tuple #[.int .i64 (n : Int), .bool sn])) w) : wpList Tryz.prog ops Q (o :: rest) a w :=
  wpList_lookup_own_ok_int w hg m x _ hop 9 3 .i64 Tryz.lawS Tryz.underlying87 Tryz.underlying3 (Tryz.zeroValue3 _) b N _ hm hown _ _ hx (keyOf_string_mk Tryz.underlying9 hs) (fun c hat _ => by
    have hat' : (imap ps).atKey (strK s) (.lit (.int .i64 0)) = .lit (.int .i64 c) := hat
    have hh : Maps.has (imap ps) (Lit.string s.data.toList) = (lastOf ps s).isSome := imap_has s ps
    rw [imap_at] at hat'
    injection hat' with hat'
    injection hat' with _ hat'
    rw [hh, ← hat', h1, h2]; exact hK)

set_option maxRecDepth 100000 in
set_option maxHeartbeats 4000000 in
theorem fit_any (b N : Nat) (xs : List At) (B : Option Addr) (n d : Nat) (ls : List At) (w : World) (hM : w.ownsMap Tryz.prog 9 (plainElem Tryz.prog 3) b N (imap (cnts xs))) (h : IsAtoms w 0 w.heap.size B n d ls) :
    Calls Tryz.prog 98 #[.map (some b), .slice B n d] w (BoolPost (ls.all fun a => fitOne xs a) w) := by
  have hm := h.len
  unfold maxLen at hm
  have HL := Lib.hid h.1
  have H := Lib.hid h; clear h
  have HM := Lib.hid hM; clear hM
  go_enter Tryz.func98, Tryz.ntmps98
  go_wp2
  go_loopw [6, 7, 8, 11] (fun _ _ _ x wr => ∃ k : Nat, k ≤ n ∧ x = .int .i64 (k : Int) ∧ (∀ q ∈ ls.take k, fitOne xs q = true) ∧ Below w.heap.size w wr) (fun _ _ _ x _ => n - (intOf x).toNat)
  case atStart => exact ⟨0, Nat.zero_le _, rfl, fun q hq => by simp at hq, Below.refl _ _⟩
  case round =>
    obtain ⟨k, hkn, rfl, hS, hb⟩ := hrel
    have HQ := Lib.hid hS; clear hS
    by_cases hlk : k < n
    · obtain ⟨p, q, hA, hlo, hhi, hg, hE⟩ := (H.out.below AtomE.stays hb (Nat.le_refl _)).at_ hlk
      obtain ⟨A', n', c', d1, d3, d4, d5⟩ := hE.out
      clear hE
      subst hA
      have HG := Lib.hid hg; clear hg
      have L5 := Lib.hid d5.1
      have hb1 := below1 wr (.cells #[.string q.1, .slice A' n' c'] 67)
      have HMa := Lib.hid (ownsMap_below HM.out (belowThen hb hb1) HM.out.lt)
      clear d5
      have HB1 := belowThen hb hb1
      clear hb1
      cases hl : lastOf (cnts xs) q.1 with
      | none =>
        have HS2 := Lib.hid (all_snoc (P := fun q => fitOne xs q = true) HG.out HQ.out (by unfold fitOne; rw [hl]))
        have HLN := Lib.hid hl; clear hl
        go_wp2_with (at_lookup; refine lookup_okW _ rfl _ _ rfl b N (cnts xs) rfl HMa.out q.1 rfl d3 0 false (by rw [HLN.out]; rfl) (by rw [HLN.out]; rfl) ?_)
        go_roundw
        case rel => exact ⟨k + 1, by omega, by go_num, HS2.out, HB1⟩
        case measure => simp [intOf]; omega
      | some v =>
        have HLN := Lib.hid hl
        by_cases hv : v = n'
        · have HS2 := Lib.hid (all_snoc (P := fun q => fitOne xs q = true) HG.out HQ.out (by unfold fitOne; rw [hl]; exact decide_eq_true (by rw [L5.out]; exact hv)))
          clear hl
          subst hv
          go_wp2_with (at_lookup; refine lookup_okW _ rfl _ _ rfl b N (cnts xs) rfl HMa.out q.1 rfl d3 v true (by rw [HLN.out]; rfl) (by rw [HLN.out]; rfl) ?_)
          go_roundw
          case rel => exact ⟨k + 1, by omega, by go_num, HS2.out, HB1⟩
          case measure => simp [intOf]; omega
        · have E := Lib.hid (all_no (f := fun a => fitOne xs a) (List.mem_of_getElem? HG.out) (by unfold fitOne; rw [hl]; exact decide_eq_false (by rw [L5.out]; exact hv)))
          clear hl
          have e1 : ((v : Int) == (n' : Int)) = false := beq_eq_false_iff_ne.2 (fun e => hv (by omega))
          have e2 : ((v : Int) != (n' : Int)) = true := by rw [bne, e1]; rfl
          have e3 : (v == n') = false := by simpa using hv
          go_wp2_with (at_lookup; refine lookup_okW _ rfl _ _ rfl b N (cnts xs) rfl HMa.out q.1 rfl d3 v true (by rw [HLN.out]; rfl) (by rw [HLN.out]; rfl) ?_)
          go_ret; exact ⟨retB E.out.symm, HB1⟩
    · have hke : k = n := by omega
      subst hke
      have E := Lib.hid (all_end (f := fun a => fitOne xs a) HL.out HQ.out)
      go_wp2
      go_ret; exact ⟨retB E.out.symm, hb⟩

set_option maxRecDepth 100000 in
set_option maxHeartbeats 8000000 in
theorem l3Fit_any (A : Option Addr) (n c : Nat) (rs : List Rl) (B : Option Addr) (m d : Nat) (ls : List At) (w : World) (h : IsRules w 0 w.heap.size A n c rs) (h' : IsAtoms w 0 w.heap.size B m d ls) (hn : n ≤ 8) (h4 : ∀ r ∈ rs, r.2.length ≤ 4) :
    Calls Tryz.prog 95 #[.slice A n c, .slice B m d] w (BoolPost (fitB (atsOf rs) ls) w) := by
  have hmm := h'.len
  unfold maxLen at hmm
  have H := Lib.hid h; have H4 := Lib.hid h4; have HL' := Lib.hid h'.1; have H' := Lib.hid h'
  have hlen := Nat.le_trans (atsOf_len rs h4) (Nat.mul_le_mul_left 5 (show rs.length ≤ 8 by rw [h.1]; exact hn))
  obtain ⟨xs, hxs⟩ : ∃ xs, atsOf rs = xs := ⟨_, rfl⟩
  obtain ⟨z, hz⟩ : ∃ z, xs.length = z := ⟨_, rfl⟩
  rw [hxs, hz] at hlen
  have HXS := Lib.hid hxs; have HM := Lib.hid hz
  clear h h' h4 hxs hz
  rw [HXS.out]
  go_enter Tryz.func95, Tryz.ntmps95
  go_wp2_with fail
  refine (l2Atoms_any A n c rs _ H.out hn H4.out).mono ?_; rintro e w1 ⟨A', c', rfl, hI, hb1⟩
  rw [HXS.out, HM.out] at hI ⊢
  have HI := Lib.hid hI; clear hI
  have HJ := Lib.hid (H'.out.up AtomE.stays hb1)
  go_wp2
  go_loopw [6] (fun x wr => ∃ i : Nat, i ≤ m ∧ x = .int .i64 (i : Int) ∧ (∀ a ∈ ls.take i, (xs.all fun b => pairOk b a) = true) ∧ Below w1.heap.size w1 wr) (fun x _ => m - (intOf x).toNat)
  case atStart => exact ⟨0, Nat.zero_le _, rfl, fun q hq => by simp at hq, Below.refl _ _⟩
  case round =>
    obtain ⟨i, him, rfl, hS, hb⟩ := hrel
    have HS := Lib.hid hS; clear hS
    by_cases hlt : i < m
    · have hltI : (i : Int) < (m : Int) := by omega
      obtain ⟨a, hga⟩ : ∃ a, ls[i]? = some a := ⟨_, List.getElem?_eq_getElem (by rw [HL'.out]; exact hlt)⟩
      have HGa := Lib.hid hga; clear hga
      go_wp2
      obtain ⟨w2, hw2⟩ : ∃ w2 : World, w2 = wr := ⟨_, rfl⟩
      subst hw2
      go_loopw [7] (fun x wr => ∃ k : Nat, k ≤ z ∧ x = .int .i64 (k : Int) ∧ (∀ b ∈ xs.take k, pairOk b a = true) ∧ Below w1.heap.size w1 wr) (fun x _ => z - (intOf x).toNat)
      case atStart => exact ⟨0, Nat.zero_le _, rfl, fun q hq => by simp at hq, hb⟩
      case round =>
        obtain ⟨k, hkz, rfl, hSk, hbk⟩ := hrel
        have HSk := Lib.hid hSk; clear hSk
        by_cases hlk : k < z
        · have hlkI : (k : Int) < (z : Int) := by omega
          obtain ⟨p, a9, hA, _, _, hga9, hEa⟩ := (HJ.out.below AtomE.stays hbk (Nat.le_refl _)).at_ hlt
          obtain rfl : a9 = a := Option.some.inj (hga9.symm.trans HGa.out)
          obtain ⟨p', b, hA', _, _, hgb, hEb⟩ := (HI.out.below AtomE.stays hbk (Nat.le_refl _)).at_ hlk
          obtain ⟨A1, n1, c1, a1, _, a3, a4⟩ := hEa.out
          obtain ⟨A2, n2, c2, b1, _, b3, b4⟩ := hEb.out
          clear hEa hEb hga9
          subst hA'; subst hA
          have HGb := Lib.hid hgb
          have N1 := Lib.hid a4.1; have N2 := Lib.hid b4.1
          clear hgb a4 b4
          obtain ⟨bb, hbb⟩ : ∃ bb, (b.1.toList == a9.1.toList) = bb := ⟨_, rfl⟩
          have HB := Lib.hid (bytes_is hbb)
          cases bb
          · have HP := Lib.hid (all_snoc (P := fun b => pairOk b a9 = true) HGb.out HSk.out (by unfold pairOk; rw [← HB.out]; rfl))
            go_wp2_with fail
            go_quiet (fail)
            go_wp2
            go_roundw
            case rel => exact ⟨k + 1, by omega, by go_num, HP.out, hbk.os, hbk.tape, hbk.output, hbk.size, hbk.block⟩
            case measure => simp [intOf]; omega
          · by_cases hnn : n2 = n1
            · have HP := Lib.hid (all_snoc (P := fun b => pairOk b a9 = true) HGb.out HSk.out (by unfold pairOk; rw [← HB.out, N1.out, N2.out, hnn]; simp))
              subst hnn
              go_wp2_with fail
              go_quiet (fail)
              go_wp2
              go_roundw
              case rel => exact ⟨k + 1, by omega, by go_num, HP.out, hbk.os, hbk.tape, hbk.output, hbk.size, hbk.block⟩
              case measure => simp [intOf]; omega
            · have HP : Hid (fitB xs ls = false) := Lib.hid (all_no (f := fun a => xs.all fun b => pairOk b a) (List.mem_of_getElem? HGa.out) (all_no (f := fun b => pairOk b a9) (List.mem_of_getElem? HGb.out) (by unfold pairOk; rw [← HB.out, N1.out, N2.out, decide_eq_false hnn]; rfl)))
              have e1 : ((n2 : Int) == (n1 : Int)) = false := beq_eq_false_iff_ne.2 (fun e => hnn (by omega))
              have e2 : ((n2 : Int) != (n1 : Int)) = true := by rw [bne, e1]; rfl
              have e3 : (n2 == n1) = false := by simpa using hnn
              go_wp2_with fail
              go_quiet (fail)
              go_wp2
              go_ret; exact ⟨retB HP.out.symm, belowThen hb1 ⟨hbk.os, hbk.tape, hbk.output, hbk.size, hbk.block⟩⟩
        · have hke : k = z := by omega
          subst hke
          have HN := Lib.hid (all_snoc (P := fun a => (xs.all fun b => pairOk b a) = true) HGa.out HS.out (all_end (f := fun b => pairOk b a) HM.out HSk.out))
          go_wp2
          go_roundw
          case rel => exact ⟨i + 1, by omega, by go_num, HN.out, hbk⟩
          case measure => simp [intOf]; omega
    · have hie : i = m := by omega
      subst hie
      have HA : Hid (fitB xs ls = true) := Lib.hid (all_end (f := fun a => xs.all fun b => pairOk b a) HL'.out HS.out)
      go_wp2
      go_ret; exact ⟨retB HA.out.symm, belowThen hb1 hb⟩

set_option maxRecDepth 100000 in
set_option maxHeartbeats 4000000 in
theorem specFactsFit_any (A : Option Addr) (n c : Nat) (rs : List Rl) (B : Option Addr) (m d : Nat) (ls : List At) (w : World) (h : IsRules w 0 w.heap.size A n c rs) (h' : IsAtoms w 0 w.heap.size B m d ls) :
    Calls Tryz.prog 45 #[.slice A n c, .slice B m d] w (BoolPost (fitA rs ls) w) := by
  have HL := Lib.hid h.1
  have H := Lib.hid h; have H' := Lib.hid h'; clear h h'
  go_enter Tryz.func45, Tryz.ntmps45
  go_wp2_with fail
  refine (specProgCheck_any A n c rs _ H.out).mono ?_; rintro e w1 ⟨rfl, hb1⟩
  obtain ⟨k, hk⟩ : ∃ k, progB rs = k := ⟨_, rfl⟩
  rw [hk]
  have HK := Lib.hid hk; clear hk
  by_cases h0 : k = 0
  · have E := Lib.hid (show fitA rs ls = (factsB 300 ls && fitB (atsOf rs) ls) by unfold fitA; rw [HK.out, decide_eq_true h0, Bool.true_and])
    have hI : (k : Int) = 0 := by omega
    have HZ := Lib.hid (prog_zero (HK.out.trans h0))
    clear h0
    go_wp2_with fail
    refine (specFactsOk_any B m d ls _ (H'.out.up AtomE.stays hb1)).mono ?_; rintro e w2 ⟨rfl, hb2⟩
    have HB2 := belowThen hb1 hb2
    cases hf : factsB 300 ls
    · have E2 := Lib.hid (show fitA rs ls = false by rw [E.out, hf]; rfl)
      clear hf
      go_wp2
      go_ret; exact ⟨retB E2.out.symm, HB2⟩
    · have E2 := Lib.hid (show fitA rs ls = fitB (atsOf rs) ls by rw [E.out, hf]; rfl)
      clear hf
      go_wp2_with fail
      refine (l3Fit_any A n c rs B m d ls _ (H.out.up RuleE.stays HB2) (H'.out.up AtomE.stays HB2) (by rw [← HL.out]; exact HZ.out.2.1) (rule_four HZ.out.1)).mono ?_; rintro e w3 ⟨rfl, hb3⟩
      go_wp2
      go_ret; exact ⟨retB E2.out.symm, belowThen HB2 hb3⟩
  · have E := Lib.hid (show fitA rs ls = false by unfold fitA; rw [HK.out, decide_eq_false h0, Bool.false_and])
    have hI : ¬ (k : Int) = 0 := by omega
    clear h0
    go_wp2
    go_ret; exact ⟨retB E.out.symm, hb1⟩

set_option maxRecDepth 100000 in
set_option maxHeartbeats 4000000 in
theorem implFactsFit_any (A : Option Addr) (n c : Nat) (rs : List Rl) (B : Option Addr) (m d : Nat) (ls : List At) (w : World) (h : IsRules w 0 w.heap.size A n c rs) (h' : IsAtoms w 0 w.heap.size B m d ls) (hk : ErrKind w) :
    Calls Tryz.prog 47 #[.slice A n c, .slice B m d] w (BoolPost (fitA rs ls) w) := by
  have HL := Lib.hid h.1
  have H := Lib.hid h; have H' := Lib.hid h'; clear h h'
  have HE := Lib.hid hk; clear hk
  go_enter Tryz.func47, Tryz.ntmps47
  go_wp2_with fail
  refine (implProgCheck_any A n c rs _ H.out HE.out).mono ?_; rintro e w1 ⟨rfl, hb1⟩
  obtain ⟨k, hk⟩ : ∃ k, progB rs = k := ⟨_, rfl⟩
  rw [hk]
  have HK := Lib.hid hk; clear hk
  by_cases h0 : k = 0
  · have E := Lib.hid (show fitA rs ls = (factsB 300 ls && fitB (atsOf rs) ls) by unfold fitA; rw [HK.out, decide_eq_true h0, Bool.true_and])
    have hI : (k : Int) = 0 := by omega
    have HZ := Lib.hid (prog_zero (HK.out.trans h0))
    clear h0
    go_wp2_with fail
    refine (implFactsOk_any B m d ls _ (H'.out.up AtomE.stays hb1)).mono ?_; rintro e w2 ⟨rfl, hb2⟩
    have HB2 := belowThen hb1 hb2
    cases hf : factsB 300 ls
    · have E2 := Lib.hid (show fitA rs ls = false by rw [E.out, hf]; rfl)
      clear hf
      go_wp2
      go_ret; exact ⟨retB E2.out.symm, HB2⟩
    · have E2 := Lib.hid (show fitA rs ls = fitB (atsOf rs) ls by rw [E.out, hf]; rfl)
      clear hf
      go_wp2_with fail
      refine (argCounts_any A n c rs _ (H.out.up RuleE.stays HB2) (by rw [← HL.out]; exact HZ.out.2.1) (rule_four HZ.out.1) (atsOf_ok HZ.out.1)).mono ?_; rintro e w3 ⟨v, rfl, hM, hb3⟩
      obtain ⟨b, N, rfl, _, hM⟩ := hM HZ.out.2.2
      have HB3 := belowThen HB2 hb3
      have HM := Lib.hid hM; clear hM
      go_wp2_with fail
      refine (fit_any b N (atsOf rs) B m d ls _ HM.out (H'.out.up AtomE.stays HB3)).mono ?_; rintro e w4 ⟨rfl, hb4⟩
      have E3 := Lib.hid ((fits_by (ls := ls) HZ.out.2.2).trans E2.out.symm)
      go_wp2
      go_ret; exact ⟨retB E3.out, belowThen HB3 hb4⟩
  · have E := Lib.hid (show fitA rs ls = false by unfold fitA; rw [HK.out, decide_eq_false h0, Bool.false_and])
    have hI : ¬ (k : Int) = 0 := by omega
    clear h0
    go_wp2
    go_ret; exact ⟨retB E.out.symm, hb1⟩

set_option maxHeartbeats 4000000 in
theorem exactFactsFit_any (A : Option Addr) (n c : Nat) (l : List Rl) (B : Option Addr) (m d : Nat) (ls : List At) (w : World) (h : IsRules w 0 w.heap.size A n c l) (h' : IsAtoms w 0 w.heap.size B m d ls) (hk : ErrKind w) :
    Calls Tryz.prog 10 #[.slice A n c, .slice B m d] w (BoolPost true w) := by
  have H := Lib.hid h; have H' := Lib.hid h'; clear h h'
  have HK := Lib.hid hk; clear hk
  go_enter Tryz.func10, Tryz.ntmps10
  go_wp2_with fail
  refine (szRuleS_any _ _ _ l _ _ H.out (by omega) (by omega)).mono ?_; rintro e w1 ⟨y, ⟨rfl, ha, hb, hc⟩, hb1⟩
  go_wp2_with fail
  all_goals try (go_ret; exact ⟨rfl, hb1⟩)
  have hn : SmallRules n l := hc (by assumption)
  have HN := Lib.hid hn; clear hn hc
  refine (szAtomS_any _ _ _ ls _ _ (H'.out.up AtomE.stays hb1) (by omega) (by omega)).mono ?_; rintro e w2 ⟨y2, ⟨rfl, ha2, hb2', hc2⟩, hb2⟩
  have HB2 := belowThen hb1 hb2
  clear hb1 hb2
  go_wp2_with fail
  all_goals try (go_ret; exact ⟨rfl, HB2⟩)
  have hn2 : SmallAtoms m ls := hc2 (by assumption)
  have HN2 := Lib.hid hn2; clear hn2 hc2
  refine (toRuleS_any _ _ _ l _ (H.out.up RuleE.stays HB2) HN.out).mono ?_; rintro e w3 ⟨g3, rfl, hg3, o3, hb3⟩
  have HB3 := belowThen HB2 hb3
  have o3' := o3.keep (lo' := 0) (hi' := w3.heap.size) RuleE.stays (fun _ _ _ => rfl) (Nat.zero_le _) (Nat.le_refl _)
  clear hb3 o3 HB2 ha hb ha2 hb2'
  go_wp2_with fail
  refine (toAtomS_any _ _ _ ls _ (H'.out.up AtomE.stays HB3) HN2.out).mono ?_; rintro e w4 ⟨g4, rfl, hg4, o4, hb4⟩
  have HB4 := belowThen HB3 hb4
  have o34 := o3'.up RuleE.stays hb4
  have o4' := o4.keep (lo' := 0) (hi' := w4.heap.size) AtomE.stays (fun _ _ _ => rfl) (Nat.zero_le _) (Nat.le_refl _)
  clear hb4 o4 o3' HB3
  go_wp2_with fail
  refine (specFactsFit_any _ _ _ l _ _ _ ls _ o34 o4').mono ?_; rintro e w5 ⟨rfl, hb5⟩
  have HB5 := belowThen HB4 hb5
  clear hb5 o34 o4' HB4
  go_wp2_with fail
  refine (toRuleS_any _ _ _ l _ (H.out.up RuleE.stays HB5) HN.out).mono ?_; rintro e w6 ⟨g6, rfl, hg6, o6, hb6⟩
  have HB6 := belowThen HB5 hb6
  have o6' := o6.keep (lo' := 0) (hi' := w6.heap.size) RuleE.stays (fun _ _ _ => rfl) (Nat.zero_le _) (Nat.le_refl _)
  clear hb6 o6 HB5
  go_wp2_with fail
  refine (toAtomS_any _ _ _ ls _ (H'.out.up AtomE.stays HB6) HN2.out).mono ?_; rintro e w7 ⟨g7, rfl, hg7, o7, hb7⟩
  have HB7 := belowThen HB6 hb7
  have o67 := o6'.up RuleE.stays hb7
  have o7' := o7.keep (lo' := 0) (hi' := w7.heap.size) AtomE.stays (fun _ _ _ => rfl) (Nat.zero_le _) (Nat.le_refl _)
  clear hb7 o7 o6' HB6
  go_wp2_with fail
  refine (implFactsFit_any _ _ _ l _ _ _ ls _ o67 o7' (HK.out.later HB7)).mono ?_; rintro e w8 ⟨rfl, hb8⟩
  have HB8 := belowThen HB7 hb8
  have o68 := o67.up RuleE.stays hb8
  have o78 := o7'.up AtomE.stays hb8
  clear hb8 o67 o7' HB7
  go_wp2_with fail
  refine (toRuleS_any _ _ _ l _ (H.out.up RuleE.stays HB8) HN.out).mono ?_; rintro e w9 ⟨g9, rfl, hg9, o9, hb9⟩
  have HB9 := belowThen HB8 hb9
  have o69 := o68.up RuleE.stays hb9
  have o79 := o78.up AtomE.stays hb9
  have o9' := o9.keep (lo' := 0) (hi' := w9.heap.size) RuleE.stays (fun _ _ _ => rfl) (Nat.zero_le _) (Nat.le_refl _)
  clear hb9 o9 HB8 o68 o78
  go_wp2_with fail
  refine (eqRuleS_any _ _ _ _ _ _ l l _ o69 o9').mono ?_; rintro e w10 ⟨rfl, hb10⟩
  have HB10 := belowThen HB9 hb10
  have o70 := o79.up AtomE.stays hb10
  clear hb10 HB9 o69 o9' o79
  rw [listEq_refl ruleEq_refl]
  go_wp2_with fail
  refine (toAtomS_any _ _ _ ls _ (H'.out.up AtomE.stays HB10) HN2.out).mono ?_; rintro e w11 ⟨g11, rfl, hg11, o11, hb11⟩
  have HB11 := belowThen HB10 hb11
  have o71 := o70.up AtomE.stays hb11
  have o11' := o11.keep (lo' := 0) (hi' := w11.heap.size) AtomE.stays (fun _ _ _ => rfl) (Nat.zero_le _) (Nat.le_refl _)
  go_wp2_with fail
  refine (eqAtomS_any _ _ _ _ _ _ ls ls _ o71 o11').mono ?_; rintro e w12 ⟨rfl, hb12⟩
  have HB12 := belowThen HB11 hb12
  rw [listEq_refl atomEq_refl]
  go_wp2
  go_ret; exact ⟨rfl, HB12⟩

end Go.Proofs.YtnhbnhibphjljaaGreatDoor

namespace Go.Proofs.YtnhbnhibphjljaaGreatDoor
open Go.ChangeShapes Go.WideShapes Go.ChangeAt Go.RowKit Go.Deep Go.Joins

section
variable {H : Type} {enc : TypeId × Value → H} {w : World} {base : Nat} {spare : Nat → Bool} {held : Bool}

/-- A slice of atoms, opened. -/
theorem open_atomsF {fuel : Nat} {v : Value} {x : DataW H × List MemPlace} (h : DataW.trod enc Tryz.prog w base spare held fuel 55 [v] = some x) :
    ∃ A n c xs, v = .slice A n c ∧ IsAtoms w 0 w.heap.size A n c xs := by
  rcases open_slice Tryz.underlying55 h with ⟨hc, _⟩ | ⟨a, len, cap, m, n, D, Pl, hc, _, hl, hm, hmm, _, hi⟩
  · simp only [List.cons.injEq, and_true] at hc
    exact ⟨none, 0, 0, [], hc, rfl, Nat.le_refl _, Nat.zero_le _, fun h0 => absurd h0 (by omega)⟩
  · simp only [List.cons.injEq, and_true] at hc
    have hlm : len ≤ m := by rw [hmm]; split <;> omega
    have each : ∀ i, i < m → ∃ q : At, AtomE w 0 w.heap.size (a.add (i * 2)) q := by
      intro i him
      obtain ⟨cs', h1, h2⟩ := hi i him
      rw [Tryz.cellsAtom] at h1
      obtain ⟨_, hlen, hcell⟩ := World.cells?_some h1
      match cs', hlen with
      | [u0, u1], _ =>
        obtain ⟨nm, A, n', c', ts, hv0, hv1, hz, ht⟩ := open_atom2 h2
        have e0 := hcell 0 (by omega)
        have e1 := hcell 1 (by omega)
        simp at e0 e1
        refine ⟨(nm, ts), ?_, hz, A, n', c', ?_, ht⟩
        · rw [← hv0]; simpa [Addr.add] using e0
        · rw [next_eq _ _ (by omega), ← hv1]; exact e1
    obtain ⟨f, hf⟩ := choose_lt each
    refine ⟨some a, len, cap, (List.range len).map f, hc, by simp, hl, hm, fun h0 => ⟨a, rfl, Nat.zero_le _, World.block_lt_of_cell? _ _ (by simpa [Addr.add] using (hf 0 (by omega)).1), fun i t ht => ?_⟩⟩
    have hil : i < len := by
      have := (List.getElem?_eq_some_iff.1 ht).1
      simpa using this
    have ht' : f i = t := by simpa [hil] using ht
    rw [← ht']
    exact hf i (by omega)

set_option maxRecDepth 100000 in
theorem open_atoms {b0 : Nat} {v : Value} {d : DataW H} {p : List MemPlace} (hv : Value.okWide Tryz.prog w .any b0 55 v) (h : DataW.Trod enc Tryz.prog w base spare held 55 v d p) :
    ∃ A n c xs, v = .slice A n c ∧ IsAtoms w 0 w.heap.size A n c xs := by
  obtain ⟨A, n, c, rfl⟩ := okWide_slice Tryz.underlying55 hv
  obtain ⟨fuel, hf⟩ := h
  exact open_atomsF (by simpa [Value.cells] using hf)
end

end Go.Proofs.YtnhbnhibphjljaaGreatDoor

namespace Go.Proofs.YtnhbnhibphjljaaGreatDoor
open Go.RowKit Go.ChangeShapes Go.WideShapes Go.ChangeAt

set_option maxRecDepth 100000 in
set_option maxHeartbeats 1000000 in
theorem exactFactsFit_lifted (os : Os) (started : os.Started) (H : Type) (enc : TypeId × Value → H) :
    ReturnsInHanded {} Tryz.checked os 10 .any (fun w args => (Rows.fnExactFactsFitSpec.pre enc Tryz.prog Tryz.f10 [] false w args ∧ laidMetH Tryz.prog laidE w) ∧ sizedMet enc Tryz.prog Tryz.f10 (OpenSpec.ofChange Rows.fnExactFactsFitSpec) false w args)
      (Rows.fnExactFactsFitSpec.post enc Tryz.prog Tryz.f10 false true false false) := by
  refine returnsInHanded_of_change_and (C := Tryz.checked) (X := fun w _ => laidMetH Tryz.prog laidE w) (fun _ _ _ hh h => h.of_heap hh) Tryz.own started (by kernel_rfl) Tryz.func10
    (ChangeSpec.witness_shaped (enc := enc) (C := Tryz.checked) (os := os) (X := fun w _ => laidMetH Tryz.prog laidE w) false (World.doorLaid Tryz.prog 400 os) #[.slice none 0 0, .slice none 0 0] 8 rfl (World.shaped_of_RefB (by kernel_rfl) (by kernel_rfl)) (by kernel_rfl) (by kernel_rfl) (by kernel_rfl) (err_met os _)) ?_
  intro W base args ds gs before hval0 hW _ _ hL _
  have hval : ∀ (j : Nat) t v, Tryz.f10.params[j]? = some t → args[j]? = some v → Value.okWide Tryz.prog W .any base t v := hval0
  have hW' := hW
  have hlt : ∀ x ∈ before, x.block < W.heap.size := fun x hx => hW.lt x hx
  obtain ⟨p, q, hA0, hV, hpq, hfz, hnd⟩ := hW
  have hA : DataW.TrodAll enc Tryz.prog W 0 (fun _ => true) true Tryz.f10.params.toList args.toList ds p := hA0
  rw [Tryz.params10] at hA hval
  obtain ⟨v0, v1, d0, d1, p0, p1, hargs, rfl, rfl, h0, h1⟩ := trodAll_two hA
  obtain ⟨rfl, rfl⟩ := trodVars_none hV
  simp only [List.append_nil] at hpq
  subst hpq
  have hh0 := Lib.hid h0
  have hh1 := Lib.hid h1
  have hk := errKind_of_laid hL
  obtain ⟨A0, n0, c0, l0, rfl, wt0⟩ := open_rules (hval 0 22 v0 rfl (by rw [hargs]; rfl)) h0
  obtain ⟨A1, n1, c1, l1, rfl, wt1⟩ := open_atoms (hval 1 55 v1 rfl (by rw [hargs]; rfl)) h1
  subst hargs
  clear hA0 hval0
  refine (exactFactsFit_any A0 n0 c0 l0 A1 n1 c1 l1 W wt0 wt1 hk).mono fun e W' ⟨he, hb⟩ => ?_
  subst he
  exact ⟨_, rfl, post_true (pv := []) hW' (trodAll_mk1 (shut_bool Tryz.underlying4 true)) (trodAll_mk2 (Below.trod Tryz.laidOut (by kernel_rfl) (of_decide_eq_true (by kernel_rfl)) hh0.out hb (fun x hx => hlt x (by simp [hx]))) (Below.trod Tryz.laidOut (by kernel_rfl) (of_decide_eq_true (by kernel_rfl)) hh1.out hb (fun x hx => hlt x (by simp [hx])))) rfl hb⟩

theorem exactFactsFit_in : (Rows.fnExactFactsFitRow.inPlace == Tryz.prog.inPlace 10) = true := by kernel_rfl
theorem exactFactsFit_un : (Rows.fnExactFactsFitRow.unfollowed == Tryz.prog.unfollowed 10) = true := by kernel_rfl
theorem exactFactsFit_rec : (Rows.fnExactFactsFitRow.recurses == Tryz.prog.recurses 10) = true := by kernel_rfl
theorem exactFactsFit_nam : (Rows.fnExactFactsFitRow.named == Tryz.prog.varsNamed 10) = true := by kernel_rfl
theorem exactFactsFit_goes : false = Rows.fnExactFactsFitRow.goesBy Tryz.prog := by kernel_rfl
theorem exactFactsFit_named : Tryz.pinned.checked.prog.funcNamed Rows.fnExactFactsFitRow.func = some 10 := by kernel_rfl
theorem exactFactsFit_joined : joinedFacts Tryz.prog 10 Tryz.f10 Rows.fnExactFactsFitSpec Rows.fnExactFactsFitRow = true :=
  joined_of (by kernel_rfl) Tryz.laidOut Tryz.c_rowed (by kernel_rfl) exactFactsFit_in exactFactsFit_un exactFactsFit_rec exactFactsFit_nam (by kernel_rfl) Tryz.c_keys rfl Tryz.c_heard Tryz.c_enter Tryz.c_lifted (by kernel_rfl)

theorem exactFactsFit_row : Rows.FnExactFactsFitSaid :=
  OpenClaim.holds_of_wide 10 Tryz.f10 rfl rfl rfl rfl rfl rfl rfl ⟨rfl, rfl, rfl, rfl, rfl⟩ rfl rfl rfl rfl rfl exactFactsFit_named Tryz.func10 exactFactsFit_joined
    (of_decide_eq_true (by kernel_rfl)) (by unfold Func.isWrapper; rw [if_neg (of_decide_eq_false (by kernel_rfl))]; exact ⟨rfl, rfl⟩)
    (fun os started H enc _ => exactFactsFit_lifted os started H enc)

theorem exactFactsFit_holds : Rows.FnExactFactsFitCardSaid :=
  Claim7.holds_tied_plain_at .later [] [.handle] true _ true
    exactFactsFit_row (fun _ h => by cases h) (by kernel_rfl) (fun _ h => by cases h) fnExactFactsFit_row_tie rfl ⟨rfl, rfl⟩ Tryz.c_main rfl
    (fun f fn hf hfn => by
      obtain rfl : f = 10 := Option.some.inj (exactFactsFit_named.symm.trans hf) |>.symm
      obtain rfl : fn = Tryz.f10 := (Option.some.inj (Tryz.func10.symm.trans hfn)).symm
      exact ⟨Tryz.c_looks, fun j t ht => by
        rw [Tryz.params10] at ht
        have h3 : t = 22 ∨ t = 55 := by
          rcases j with _ | _ | j
          · exact .inl (by simpa using ht.symm)
          · exact .inr (by simpa using ht.symm)
          · simp at ht
        rcases h3 with rfl | rfl
        · exact (show Tryz.prog.wantsStandIn 22 = false by kernel_rfl)
        · exact (show Tryz.prog.wantsStandIn 55 = false by kernel_rfl)⟩)
    exactFactsFit_goes

end Go.Proofs.YtnhbnhibphjljaaGreatDoor

