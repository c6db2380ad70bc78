/-
  The names of rules, ascending, and the place of each, as the program keeps them.
  Which names are names of heads, and the least level that a body allows, as the program works them out. The least level that a rule's body allows, as the program works it out.
-/
import Derived.Test.YtnhbnhibphjljaaGreatDoorCounts
import Derived.Test.YtnhbnhibphjljaaGreatDoorAskMath
import Derived.Test.YtnhbnhibphjljaaGreatDoorTextsLaw
import Derived.Sort.KeysCollected
import Derived.Test.YtnhbnhibphjljaaGreatDoorIter
import Derived.WalkLawsBesides
namespace Go.Proofs.YtnhbnhibphjljaaGreatDoor
open Go.RowKit Go.Shelf Go.Maps Go.WideMaps Go.Sort
attribute [local go_sem] Oper.semAt_some

/-- All names of rules, ascending, each once. -/
def namesL (xs : List At) : List ByteArray := (xs.map (·.1)).foldl putT []

theorem namesL_row (xs : List At) : InRow (namesL xs) := InRow.puts List.Pairwise.nil
theorem mem_namesL {xs : List At} {s : ByteArray} : s ∈ namesL xs ↔ ∃ a ∈ xs, a.1 = s := by
  unfold namesL
  rw [mem_puts]
  simp
theorem namesL_len (xs : List At) : (namesL xs).length ≤ xs.length := by
  unfold namesL
  have h : ∀ (vs ls : List ByteArray), (vs.foldl putT ls).length ≤ ls.length + vs.length := putsT_len
  have := h (xs.map (·.1)) []
  simpa using this

def nameAt (L : List ByteArray) (i : Nat) : ByteArray := L[i]?.getD ⟨#[]⟩
theorem nameAt_of {L : List ByteArray} {i : Nat} {s : ByteArray} (h : L[i]? = some s) : nameAt L i = s := by unfold nameAt; rw [h]; rfl

/-- The first k names with their places. -/
def placed (L : List ByteArray) (k : Nat) : List (ByteArray × Nat) := (List.range k).map fun i => (nameAt L i, i)
theorem placed_succ (L : List ByteArray) (k : Nat) : placed L (k + 1) = placed L k ++ [(nameAt L k, k)] := by unfold placed; rw [List.range_succ, List.map_append]; rfl

/-- Each name's place is found under it, and nothing under anything else. -/
def PlacesOf (L : List ByteArray) (ps : List (ByteArray × Nat)) : Prop := (∀ i s, L[i]? = some s → lastOf ps s = some i) ∧ ∀ s, s ∉ L → lastOf ps s = none

theorem nodup_at {L : List ByteArray} (h : L.Nodup) {i j : Nat} {s : ByteArray} (hi : L[i]? = some s) (hj : L[j]? = some s) : i = j := by
  have h1 := (List.getElem?_eq_some_iff.1 hi)
  have h2 := (List.getElem?_eq_some_iff.1 hj)
  obtain ⟨a1, e1⟩ := h1
  obtain ⟨a2, e2⟩ := h2
  have hp := List.pairwise_iff_getElem.1 h
  rcases Nat.lt_trichotomy i j with hlt | he | hlt
  · exact absurd (e1.trans e2.symm) (hp i j a1 a2 hlt)
  · exact he
  · exact absurd (e2.trans e1.symm) (hp j i a2 a1 hlt)

theorem placed_all {L : List ByteArray} (hL : L.Nodup) {ps0 : List (ByteArray × Nat)} (h0 : ∀ s, s ∉ L → lastOf ps0 s = none) : PlacesOf L (ps0 ++ placed L L.length) := by
  have key : ∀ k, k ≤ L.length → (∀ i s, i < k → L[i]? = some s → lastOf (ps0 ++ placed L k) s = some i) ∧ ∀ s, s ∉ L → lastOf (ps0 ++ placed L k) s = none := by
    intro k
    induction k with
    | zero => intro _; exact ⟨fun i s h => absurd h (Nat.not_lt_zero _), fun s hs => by rw [show placed L 0 = [] from rfl, List.append_nil]; exact h0 s hs⟩
    | succ k ih =>
      intro hk
      obtain ⟨ih1, ih2⟩ := ih (by omega)
      have hat : L[k]? = some L[k] := List.getElem?_eq_getElem (by omega)
      have hn := nameAt_of hat
      refine ⟨fun i s hi hs => ?_, fun s hs => ?_⟩
      · rw [placed_succ, ← List.append_assoc, lastOf_snoc]
        by_cases e : nameAt L k = s
        · rw [if_pos e]
          rw [hn] at e
          rw [e] at hat
          rw [nodup_at hL hs hat]
        · rw [if_neg e]
          refine ih1 i s ?_ hs
          by_cases e2 : i = k
          · subst e2; exact absurd (nameAt_of hs) e
          · omega
      · rw [placed_succ, ← List.append_assoc, lastOf_snoc, if_neg (fun e => hs (by rw [← e, hn]; exact List.getElem_mem _))]
        exact ih2 s hs
  obtain ⟨k1, k2⟩ := key L.length (Nat.le_refl _)
  exact ⟨fun i s hs => k1 i s (List.getElem?_eq_some_iff.1 hs).1 hs, k2⟩

/-- Names under which nought is written. -/
def noughts (xs : List At) : List (ByteArray × Nat) := xs.map fun a => (a.1, 0)
theorem noughts_snoc (xs : List At) (a : At) : noughts (xs ++ [a]) = noughts xs ++ [(a.1, 0)] := by unfold noughts; rw [List.map_append]; rfl

theorem noughts_is (xs : List At) (s : ByteArray) : (lastOf (noughts xs) s).isSome = true ↔ s ∈ namesL xs := by
  rw [mem_namesL]
  cases h : lastOf (noughts xs) s with
  | none =>
    simp only [Option.isSome_none, Bool.false_eq_true, false_iff]
    rintro ⟨a, ha, e⟩
    exact lastOf_none h 0 (List.mem_map.2 ⟨a, ha, by rw [e]⟩)
  | some n =>
    simp only [Option.isSome_some, true_iff]
    obtain ⟨a, ha, e⟩ := List.mem_map.1 (lastOf_mem h)
    injection e with e _
    exact ⟨a, ha, e⟩

theorem bytesLt : ∀ x y : List UInt8, Op.bytesLess x y = decide (x < y)
  | [], [] => by simp [Op.bytesLess]
  | _ :: _, [] => by simp [Op.bytesLess]
  | [], _ :: _ => by simp [Op.bytesLess]
  | a :: x, b :: y => by
    rw [Op.bytesLess, bytesLt x y]
    simp only [List.cons_lt_cons_iff]
    by_cases h1 : a < b <;> by_cases h2 : a = b <;> by_cases h3 : x < y <;> simp [h1, h2, h3]

theorem imap_sorted {w : World} {b n : Nat} {ps : List (ByteArray × Nat)} {L : List ByteArray} (hown : w.ownsMap Tryz.prog 9 (plainElem Tryz.prog 3) b n (imap ps)) (hL : InRow L) (hm : ∀ x, (lastOf ps x).isSome = true ↔ x ∈ L) {ss : List (List UInt8)} (hp : ss.Perm (strKeys (imap ps))) :
    ss.mergeSort (fun x y => decide (x ≤ y)) = L.map fun s => s.data.toList := by
  obtain ⟨es, he, hk⟩ := hown.keysOf
  have hk' : ∀ p ∈ es, ∃ x, p.1 = .string x := fun p hp => by
    obtain ⟨key, h⟩ := hk p hp
    obtain ⟨x, _, hx, _⟩ := keyOf_str Tryz.underlying9 h
    exact ⟨x, hx⟩
  obtain ⟨es', he', hpw⟩ := imap_tidy ps
  have e1 : es' = es := by have := he'.symm.trans he; injection this
  subst e1
  have P1 := perm_strKeys hpw hk' (ss := L.map fun s => s.data.toList) (List.pairwise_map.2 (hL.nodup.imp fun {a b} h e => h (strK_inj (congrArg Lit.string e)))) (fun x => by
    rw [← he', List.mem_map]
    have hx : Lit.string x = strK ⟨x.toArray⟩ := by unfold strK; simp
    rw [hx, imap_has, hm]
    constructor
    · rintro ⟨s, hs, e⟩
      have : (⟨x.toArray⟩ : ByteArray) = s := strK_inj (by unfold strK; rw [← e])
      rw [this]; exact hs
    · intro h; exact ⟨_, h, by simp⟩)
  rw [← he] at P1
  have h1 := mergeSort_of_perm (hp.trans P1.symm)
  refine h1.trans (List.mergeSort_of_pairwise ?_)
  refine List.pairwise_map.2 (hL.imp fun {a c} h => ?_)
  rw [ltT_cmp, decide_eq_true_eq, Lib.toList_data, Lib.toList_data] at h
  have h2 := bytes_anti a.data.toList c.data.toList
  have h3 := (less_cmp c.data.toList a.data.toList).1
  rw [bytesLt] at h3
  refine decide_eq_true (List.not_lt.1 fun hlt => ?_)
  rw [decide_eq_true hlt] at h3
  have h4 := of_decide_eq_true h3.symm
  omega

theorem imap_size (ps : List (ByteArray × Nat)) : Maps.size (imap ps) ≤ ps.length := by
  refine snoc_ind (P := fun ps => Maps.size (imap ps) ≤ ps.length) (Nat.le_refl _) ?_ ps
  intro l p h
  rw [show l ++ [p] = l ++ [(p.1, p.2)] from rfl, imap_snoc, size_put (imap_tidy l), List.length_append]
  split <;> simp only [List.length_cons, List.length_nil] <;> omega

/-- A row of texts, which stays where another block turns. -/
theorem row_turned {W W' : World} {base n b : Nat} {v : Value} {L : List ByteArray} (h : W.ownsRow base 9 1 v n (tcl L)) (hg : W.grownBy W' (some b)) (hb : b < base) : W'.ownsRow base 9 1 v n (tcl L) :=
  h.kept hg (by
    rcases h.2 with ⟨rfl, _⟩ | ⟨g, cap, cur, rfl, hbg, _⟩
    · exact .inl rfl
    · exact .inr (fun e => by injection e with e; simp at e; omega))

theorem row_base {W : World} {base base' n : Nat} {v : Value} {L : List Value} (h : W.ownsRow base 9 1 v n L) (hb : base' ≤ base) : W.ownsRow base' 9 1 v n L :=
  ⟨h.1, h.2.imp id (fun ⟨g, cap, cur, e, h1, h2⟩ => ⟨g, cap, cur, e, Nat.le_trans hb h1, h2⟩)⟩

theorem texts_turned {W W' : World} {lo hi n c b : Nat} {A : Option Addr} {L : List ByteArray} (h : IsTexts W lo hi A n c L) (hg : W.grownBy W' (some b)) (hb : b < lo) (hh : hi ≤ W.heap.size) : IsTexts W' lo hi A n c L :=
  h.keep TextE.stays (fun q h1 h2 => hg.cell_far _ (by omega) (fun e => by injection e with e; omega)) (Nat.le_refl _) (Nat.le_refl _)

theorem enc_tcl (L : List ByteArray) : (L.map fun s => s.data.toList).map encStr = tcl L := by
  unfold tcl
  rw [List.map_map]
  refine List.map_congr_left fun s _ => ?_
  show Value.string ⟨s.data.toList.toArray⟩ = .string s
  rw [Array.toArray_toList]

/-- The table of names. -/
def TablePost (xs : List At) (w : World) (e : Ending) (w' : World) : Prop :=
  ∃ v b N ps, e = .returned (.agg #[v, .map (some b)]) ∧ w'.ownsRow w.heap.size 9 1 v (namesL xs).length (tcl (namesL xs)) ∧ (w.heap.size ≤ b ∧ PlacesOf (namesL xs) ps) ∧ w'.ownsMap Tryz.prog 9 (plainElem Tryz.prog 3) b N (imap ps) ∧ Below w.heap.size w w'

set_option maxRecDepth 100000 in
set_option maxHeartbeats 8000000 in
theorem namesOf_any (A : Option Addr) (m c : Nat) (rs : List Rl) (w : World) (h : IsRules w 0 w.heap.size A m c rs) (hn : m ≤ 8) (h4 : ∀ r ∈ rs, r.2.length ≤ 4) (h3 : ∀ a ∈ atsOf rs, a.1.size ≤ maxLen) :
    Calls Tryz.prog 69 #[.slice A m c] w (TablePost (atsOf rs) w) := by
  have H := Lib.hid h
  have hlen := Nat.le_trans (atsOf_len rs h4) (Nat.mul_le_mul_left 5 (show rs.length ≤ 8 by rw [h.1]; exact hn))
  have HLEN := Lib.hid hlen; have H3 := Lib.hid h3
  clear h h4 hlen h3
  have hmm := @run_makeMap Tryz.prog
  have hfK : Fence.wide.fn 123 := trivial
  have hfS : Fence.wide.fn 122 := trivial
  refine (callsIn_wide (n := 6)).1 ?_
  refine callsIn_of_wp_marks Tryz.func69 rfl trivial ?_ rfl
  simp only [Tryz.ntmps69, List.size_toArray, List.length_cons, List.length_nil, Nat.reduceAdd, Nat.reduceSub, Array.replicate_succ, Array.replicate_zero, List.push_toArray, List.append_toArray, List.nil_append, List.cons_append]
  gi_wp2_with (refine ⟨trivial, ?_⟩; gi_at_call 110; refine (callsIn_wide.2 (atomsOf_any _ _ _ _)).mono ?_; rintro e w' ⟨rfl, rfl⟩)
  have hb4 : Below w.heap.size w ((((w.alloc (.cells #[.slice none 0 0, .map none] 101)).alloc (.map #[] 0)).alloc (.cells #[.map (some (w.heap.size + 1))] 87)).alloc (.cells #[.slice A m c] 25)) := (((below1 w _).alloc (by simp) _).alloc (by simp; omega) _).alloc (by simp; omega) _
  have R0 := (((Blk.new w 101 #[.slice none 0 0, .map none]).alloc (.map #[] 0)).alloc (.cells #[.map (some (w.heap.size + 1))] 87)).alloc (.cells #[.slice A m c] 25)
  have R2 := (Blk.made ((w.alloc (.cells #[.slice none 0 0, .map none] 101)).alloc (.map #[] 0)) (b := w.heap.size + 1 + 1) 87 #[.map (some (w.heap.size + 1))] (by simp)).alloc (.cells #[.slice A m c] 25)
  have R3 := Blk.made (((w.alloc (.cells #[.slice none 0 0, .map none] 101)).alloc (.map #[] 0)).alloc (.cells #[.map (some (w.heap.size + 1))] 87)) (b := w.heap.size + 1 + 1 + 1) 25 #[.slice A m c] (by simp)
  have M1 : ((((w.alloc (.cells #[.slice none 0 0, .map none] 101)).alloc (.map #[] 0)).alloc (.cells #[.map (some (w.heap.size + 1))] 87)).alloc (.cells #[.slice A m c] 25)).ownsMap Tryz.prog 9 (plainElem Tryz.prog 3) (w.heap.size + 1) 0 (imap []) := by
    have h0 := World.ownsMap_made (w.alloc (.cells #[.slice none 0 0, .map none] 101)) Tryz.prog 9 (plainElem (H := Unit) Tryz.prog 3)
    rw [show (w.alloc (.cells #[.slice none 0 0, .map none] 101)).heap.size = w.heap.size + 1 by simp] at h0
    exact (h0.alloc _).alloc _
  have hz4 : ((((w.alloc (.cells #[.slice none 0 0, .map none] 101)).alloc (.map #[] 0)).alloc (.cells #[.map (some (w.heap.size + 1))] 87)).alloc (.cells #[.slice A m c] 25)).heap.size = w.heap.size + 4 := by simp
  obtain ⟨W0, hW0⟩ : ∃ W0, ((((w.alloc (.cells #[.slice none 0 0, .map none] 101)).alloc (.map #[] 0)).alloc (.cells #[.map (some (w.heap.size + 1))] 87)).alloc (.cells #[.slice A m c] 25)) = W0 := ⟨_, rfl⟩
  rw [hW0] at hb4 R0 R2 R3 M1 hz4 ⊢
  clear hW0
  have TR : IsRules W0 0 w.heap.size A m c rs := H.out.below RuleE.stays hb4 (Nat.le_refl _)
  refine wpIn_rangeFunc_ownH rfl (by omega) (gf := 150) (lb := #[.pointer (some ⟨w.heap.size + 1 + 1 + 1, 0, none⟩)]) rfl trivial (enters_of Tryz.func150 (by kernel_rfl) rfl)
    (atoms_stops (6 - 1) (by omega) (w.heap.size + 1 + 1 + 1) w.heap.size A m c rs W0 (by omega) (by omega) (R3.cell 0) TR) keepsC_t (keepsC_b (by omega)) (Below.refl _ _) (fun _ => rfl)
    (fun pre V => V.ownsMap Tryz.prog 9 (plainElem Tryz.prog 3) (w.heap.size + 1) pre.length (imap (noughts (pre.map lainAt))) ∧ (Blk V w.heap.size 101 #[.slice none 0 0, .map none] ∧ Blk V (w.heap.size + 1 + 1) 87 #[.map (some (w.heap.size + 1))]) ∧ Below w.heap.size w V)
    (fun _ _ _ => False)
    (OwnFrom.and (ownFrom_mapN (by omega)) (OwnFrom.and (OwnFrom.and (Own.from (Blk.own _ _ _) _) (Own.from (Blk.own _ _ _) _)) (ownFrom_below (Nat.le_refl _) (by omega))))
    (fun _ _ _ _ _ hs _ _ => hs)
    ⟨M1, ⟨R0, R2⟩, hb4⟩
    (fun x a' W => ∃ Bx, Blk W Bx 67 #[.string x.1.1.1, .slice x.1.1.2 x.1.2.1.1 x.1.2.1.2] ∧ a' = { tmps := #[.slice A m c, undef, .pointer (some ⟨w.heap.size, 0, none⟩), .pointer (some ⟨w.heap.size + 1 + 1, 0, none⟩), .pointer (some ⟨Bx, 0, none⟩), undef, undef, undef, .map (some (w.heap.size + 1)), .slice A m c, .func (.func 150) #[] #[.pointer (some ⟨w.heap.size + 1 + 1 + 1, 0, none⟩)], .agg #[.string x.1.1.1, .slice x.1.1.2 x.1.2.1.1 x.1.2.1.2], undef, undef, undef, undef, undef, undef, undef, undef, undef, undef, undef, undef, undef, undef, undef, undef, undef, undef, undef, undef], defers := [] })
    (fun x a' _ X Y row hs hg hr => by obtain ⟨Bx, e2, e3⟩ := hs; exact ⟨Bx, Blk.own Bx _ _ () X Y row e2 hg (fun r e => (hr r e).2), e3⟩)
    ?assign ?body ?done ?stop
  case assign =>
    rintro l pre x W K ⟨hmp, ⟨b0, b2⟩, hB⟩ hK
    have hsz := hB.size
    gi_wp2
    exact hK _ _ ((KeepsOthers.alloc _ _).from _) (KeepsCells.of (below1 W _) (by omega)) ⟨hmp.alloc _, ⟨b0.alloc _, b2.alloc _⟩, hB.alloc hsz _⟩ ⟨W.heap.size, Blk.new W _ _, rfl⟩
  case body =>
    rintro l pre ⟨⟨⟨nm5, C⟩, ⟨n5, c5⟩, ts5⟩, hx1, hx2⟩ a' W hl ⟨r, hr⟩ ⟨hmp, ⟨b0, b2⟩, hB⟩ ⟨Bx, bX, rfl⟩ hlt
    have hsW := hB.size
    have c0 : W.cell? ⟨Bx, 0, none⟩ = some (.string nm5) := bX.cell 0
    have cM : W.cell? ⟨w.heap.size + 1 + 1, 0, none⟩ = some (.map (some (w.heap.size + 1))) := b2.cell 0
    have hL := HLEN.out
    gi_wp2_with (gi_at_mapUpdate; refine store_at _ rfl _ _ _ rfl (w.heap.size + 1) pre.length (noughts (pre.map lainAt)) rfl hmp (by unfold maxLen; omega) nm5 rfl hx1 0 rfl (Nat.zero_le _) ?_; intro V1 hmp1 hgr1)
    refine ⟨KeepsFrom.of_grownBy hgr1 (fun j e => by cases e; omega), keepsC_map hmp hgr1 (by omega) hsW, ?_, ⟨b0.kept hgr1 (fun e => by injection e with e; omega), b2.kept hgr1 (fun e => by injection e with e; omega)⟩, hB.grown hgr1 hsW (fun j e => by cases e; omega)⟩
    rw [List.map_append, List.length_append]
    show V1.ownsMap _ _ _ _ _ (imap (noughts (pre.map lainAt ++ [(nm5, ts5)])))
    rw [noughts_snoc]
    exact hmp1
  case stop =>
    rintro D cc pre W hD hpre hF
    exact hF.elim
  case done =>
    rintro D ys W hD hys ⟨hmp, ⟨b0, b2⟩, hB⟩ hK
    have hyl : ys.length = (atsOf rs).length := by rw [← hys, List.length_map]
    rw [hys] at hmp
    have hL := HLEN.out
    have cM : W.cell? ⟨w.heap.size + 1 + 1, 0, none⟩ = some (.map (some (w.heap.size + 1))) := b2.cell 0
    have hsz := hB.size
    have hDlt : D < W.heap.size := (Array.getElem?_eq_some_iff.1 hK).1
    have hsize : Maps.size (imap (noughts (atsOf rs))) ≤ 40 := Nat.le_trans (imap_size _) (by unfold noughts; rw [List.length_map]; omega)
    have hnl := namesL_len (atsOf rs)
    have hsm : ∀ s ∈ namesL (atsOf rs), s.size ≤ maxLen := fun s hs => by
      obtain ⟨a, ha, e⟩ := mem_namesL.1 hs
      rw [← e]; exact H3.out a ha
    obtain ⟨L, hLd⟩ : ∃ L, namesL (atsOf rs) = L := ⟨_, rfl⟩
    have hmem : ∀ x, (lastOf (noughts (atsOf rs)) x).isSome = true ↔ x ∈ L := fun x => by rw [← hLd]; exact noughts_is _ x
    have hrowL : InRow L := by rw [← hLd]; exact namesL_row _
    rw [hLd] at hnl hsm
    have HLD := Lib.hid hLd; have HMEM := Lib.hid hmem; have HSM := Lib.hid hsm; have HRL := Lib.hid hrowL
    have HB0 := Lib.hid b0; have HB2 := Lib.hid b2; have HMP := Lib.hid hmp; have HB := Lib.hid hB; have HK := Lib.hid hK
    clear b0 b2 hmp hB hK hLd hmem hsm hrowL
    obtain ⟨q, hq⟩ : ∃ q, L.length = q := ⟨_, rfl⟩
    rw [hq] at hnl
    have HQ := Lib.hid hq; clear hq
    gi_wp2_with (first
      | (gi_at_call 123; refine (Tryz.maps_Keys_123 _ _).mono ?_; rintro e w' ⟨rfl, rfl⟩)
      | (gi_at_call 122; refine (Tryz.slices_Sorted_keys_122_123 (w.heap.size + 1) ys.length (imap (noughts (atsOf rs))) _ W HMP.out (by unfold maxLen; omega) (by omega)).mono ?_; rintro e w' ⟨v, ss, rfl, hS, hrow, hnil, hb3⟩; have hk := imap_sorted HMP.out HRL.out HMEM.out hS; rw [hk, enc_tcl] at hrow; have hss : ss.length = q := (by have := congrArg List.length hk; rwa [List.length_mergeSort, List.length_map, HQ.out] at this); rw [hss] at hrow; clear hk hss hS hnil; have hrow' := hrow; obtain ⟨Av, cv, rfl, O5⟩ := OwnTx.of_row hrow' HQ.out.symm HSM.out (Nat.le_refl _); have HRW := Lib.hid hrow; have HO := Lib.hid O5.texts; clear hrow hrow' O5))
    have hb3' : Below W.heap.size W w' := belowThen (below1 W _) hb3
    have hz3 := hb3'.size
    have hzz : W.heap.size + 1 ≤ w'.heap.size := by have := hb3.size; simp at this; exact this
    have s0 : (W.alloc (.cells #[.map (some (w.heap.size + 1))] 87)).heap.size = W.heap.size + 1 := by simp
    rw [s0] at HRW HO
    have HB' := Lib.hid (HB.out.trans (hb3'.mono HB.out.size))
    have HMP' := Lib.hid (ownsMap_below HMP.out hb3' HMP.out.lt)
    have HB0' := Lib.hid (HB0.out.below hb3'); have HB2' := Lib.hid (HB2.out.below hb3')
    have HK' : Hid (w'.heap[D]? = some (.deferred (some []))) := Lib.hid ((hb3'.block D hDlt).trans HK.out)
    have HBL := HMP.out.lt
    clear hb3 hb3' cM
    gi_loopw [20] (fun i wr => ∃ k : Nat, k ≤ q ∧ i = .int .i64 (k : Int) ∧ wr.ownsMap Tryz.prog 9 (plainElem Tryz.prog 3) (w.heap.size + 1) (ys.length + k) (imap (noughts (atsOf rs) ++ placed L k)) ∧ wr.ownsRow (W.heap.size + 1) 9 1 (.slice Av q cv) q (tcl L) ∧ IsTexts wr (W.heap.size + 1) w'.heap.size Av q cv L ∧ (Blk wr w.heap.size 101 #[.slice none 0 0, .map none] ∧ Blk wr (w.heap.size + 1 + 1) 87 #[.map (some (w.heap.size + 1))] ∧ wr.heap[D]? = some (.deferred (some []))) ∧ Below w.heap.size w wr ∧ w'.heap.size ≤ wr.heap.size) (fun i _ => q - (intOf i).toNat)
    case atStart => exact ⟨0, Nat.zero_le _, rfl, by rw [show placed L 0 = [] from rfl, List.append_nil]; exact HMP'.out, HRW.out, HO.out, ⟨HB0'.out, HB2'.out, HK'.out⟩, HB'.out, Nat.le_refl _⟩
    case round =>
      obtain ⟨k, hkq, rfl, hmp, hrw, hT, ⟨b0, b2, hKD⟩, hB, hwz⟩ := hrel
      have HMP2 := Lib.hid hmp; have HRW2 := Lib.hid hrw; have HT2 := Lib.hid hT; have C0 := Lib.hid b0; have C2 := Lib.hid b2; have HB3 := Lib.hid hB; have HKD := Lib.hid hKD
      have cM : wr.cell? ⟨w.heap.size + 1 + 1, 0, none⟩ = some (.map (some (w.heap.size + 1))) := b2.cell 0
      have hsz2 := hB.size
      clear hmp hrw hT b0 b2 hB hKD
      by_cases hlk : k < q
      · have hlkI : (k : Int) < (q : Int) := by omega
        obtain ⟨p, s, hA, _, _, hg, hE⟩ := HT2.out.at_ hlk
        have c1 : wr.cell? (p.add k) = some (.string s) := by have := hE; unfold TextE at this; rwa [Nat.mul_one] at this
        subst hA
        have hs := HSM.out s (List.mem_of_getElem? hg)
        have HG := Lib.hid hg; clear hg hE
        gi_wp2_with (gi_at_mapUpdate; refine store_at _ rfl _ _ _ rfl (w.heap.size + 1) (ys.length + k) (noughts (atsOf rs) ++ placed L k) rfl HMP2.out (by unfold maxLen; omega) s rfl hs k rfl (by unfold maxLen; omega) ?_; intro V1 hmp1 hgr1)
        have e1 : noughts (atsOf rs) ++ placed L k ++ [(s, k)] = noughts (atsOf rs) ++ placed L (k + 1) := by rw [placed_succ, nameAt_of HG.out, List.append_assoc]
        rw [e1] at hmp1
        have D0 := Lib.hid (C0.out.kept hgr1 (fun e => by injection e with e; omega)); have D2 := Lib.hid (C2.out.kept hgr1 (fun e => by injection e with e; omega))
        have D3 := Lib.hid (row_turned HRW2.out hgr1 (by omega)); have D4 := Lib.hid (texts_turned HT2.out hgr1 (by omega) hwz)
        have D5 : Hid (V1.heap[D]? = some (.deferred (some []))) := Lib.hid ((hgr1.block D (Array.getElem?_eq_some_iff.1 HKD.out).1 (fun e => by injection e with e; subst e; obtain ⟨es, clock, h1, _⟩ := HMP2.out; rw [h1] at HKD; have := HKD.out; cases this)).trans HKD.out)
        have D6 := Lib.hid (HB3.out.grown hgr1 hsz2 (fun j e => by cases e; omega)); have D7 := hgr1.size
        have D8 := Lib.hid hmp1
        clear hmp1 hgr1 e1 c1 cM
        go_roundw
        case rel => exact ⟨k + 1, by omega, by go_num, D8.out, D3.out, D4.out, ⟨D0.out, D2.out, D5.out⟩, D6.out, by omega⟩
        case measure => simp [intOf]; omega
      · have hkq' : k = q := by omega
        subst hkq'
        have HPL := Lib.hid (show PlacesOf L (noughts (atsOf rs) ++ placed L k) by
          rw [← HQ.out]
          exact placed_all HRL.out.nodup (fun s hs => by
            cases h : lastOf (noughts (atsOf rs)) s with
            | none => rfl
            | some n => exact absurd ((HMEM.out s).1 (by rw [h]; rfl)) hs))
        have r0 : wr.cell? ⟨w.heap.size, 0, none⟩ = some (.slice none 0 0) := C0.out.cell 0
        have r1 : wr.cell? ⟨w.heap.size, 1, none⟩ = some (.map none) := C0.out.cell 1
        have f0 := C0.out.frozen 0
        have f1 := C0.out.frozen 1
        have hkk : ¬ (k : Int) < (k : Int) := by omega
        gi_wp2
        have k0 := (C0.out.set 0 (.slice Av k cv)).set 1 (.map (some (w.heap.size + 1)))
        have hK' := (KeepsOthers.setCell (wr.setCell ⟨w.heap.size, 0, none⟩ (.slice Av k cv)) ⟨w.heap.size, 1, none⟩ (.map (some (w.heap.size + 1)))).same D _ ((KeepsOthers.setCell wr ⟨w.heap.size, 0, none⟩ (.slice Av k cv)).same D _ HKD.out rfl) rfl
        refine ⟨by simp, .inl ⟨_, _, rfl, run_takeDeferred hK', ?_⟩⟩
        have hc0 := cell_kept (show ((wr.setCell ⟨w.heap.size, 0, none⟩ (.slice Av k cv)).setCell ⟨w.heap.size, 1, none⟩ (.map (some (w.heap.size + 1)))).cell? ⟨w.heap.size, 0, none⟩ = some (.slice Av k cv) from k0.cell 0) (grownBy_putObj' _ D (.deferred none)) (fun r e => by cases e; exact ⟨_, hK', rfl⟩)
        have hc1 := cell_kept (show ((wr.setCell ⟨w.heap.size, 0, none⟩ (.slice Av k cv)).setCell ⟨w.heap.size, 1, none⟩ (.map (some (w.heap.size + 1)))).cell? ⟨w.heap.size, 1, none⟩ = some (.map (some (w.heap.size + 1))) from k0.cell 1) (grownBy_putObj' _ D (.deferred none)) (fun r e => by cases e; exact ⟨_, hK', rfl⟩)
        have hgs : (wr.setCell ⟨w.heap.size, 0, none⟩ (.slice Av k cv)).grownBy ((wr.setCell ⟨w.heap.size, 0, none⟩ (.slice Av k cv)).setCell ⟨w.heap.size, 1, none⟩ (.map (some (w.heap.size + 1)))) (some w.heap.size) := grownBy_setC _ ⟨w.heap.size, 1, none⟩ _
        have hgs0 : wr.grownBy (wr.setCell ⟨w.heap.size, 0, none⟩ (.slice Av k cv)) (some w.heap.size) := grownBy_setC _ ⟨w.heap.size, 0, none⟩ _
        refine ⟨.agg #[.slice Av k cv, .map (some (w.heap.size + 1))], ?_, .slice Av k cv, w.heap.size + 1, ys.length + k, noughts (atsOf rs) ++ placed L k, rfl, ?_, ⟨by omega, by rw [HLD.out]; exact HPL.out⟩, ?_, ((HB3.out.setCell (p := ⟨w.heap.size, 0, none⟩) (by simp) _).setCell (p := ⟨w.heap.size, 1, none⟩) (by simp) _).trans (belowK_b (w := w) (Nat.le_refl _) _ D _ _ (by omega) hK' rfl rfl)⟩
        · simp [results, Tryz.f69, go_sem, hc0, hc1]
        · rw [HLD.out, HQ.out]
          have h1 := row_turned (row_turned HRW2.out hgs0 (by omega)) hgs (by omega)
          refine row_base (h1.kept (grownBy_putObj' _ D (.deferred none)) ?_) (by omega)
          rcases h1.2 with ⟨e, _⟩ | ⟨g, cap, cur, e, hbg, hgb, _⟩
          · exact .inl (by rw [e]; rfl)
          · exact .inr (fun e2 => by
              rw [e] at e2
              injection e2 with e2
              subst e2
              rw [hgb] at hK'
              cases hK')
        · have h1 := (HMP2.out.kept hgs0 (fun e => by injection e with e; omega)).kept hgs (fun e => by injection e with e; omega)
          refine h1.kept (grownBy_putObj' _ D (.deferred none)) (fun e => ?_)
          injection e with e
          subst e
          obtain ⟨es, clock, h2, _⟩ := h1
          rw [h2] at hK'
          cases hK'

end Go.Proofs.YtnhbnhibphjljaaGreatDoor

namespace Go.Proofs.YtnhbnhibphjljaaGreatDoor
open Go.RowKit Go.Shelf Go.Maps Go.WideMaps
attribute [local go_sem] Oper.semAt_some

/-- A row of bools. -/
def BoolRow (w : World) (g n : Nat) (f : Nat → Bool) : Prop := w.rowIs g 4 n (fun i => .bool (f i))

theorem BoolRow.set {w : World} {g n : Nat} {f : Nat → Bool} (h : BoolRow w g n f) (i : Nat) (b : Bool) : BoolRow (w.setCell ⟨g, i, none⟩ (.bool b)) g n (fun j => if j = i then b else f j) := by
  refine (World.rowIs.set h i (.bool b)).congr fun j _ => ?_
  by_cases e : j = i <;> simp [e]
theorem BoolRow.keep {w w' : World} {g n : Nat} {f : Nat → Bool} (h : BoolRow w g n f) (hk : w'.heap[g]? = w.heap[g]?) : BoolRow w' g n f := World.rowIs.of_block h hk
theorem BoolRow.below {w w' : World} {g n : Nat} {f : Nat → Bool} (h : BoolRow w g n f) (hb : Below w.heap.size w w') : BoolRow w' g n f := h.keep (hb.block g (World.rowIs.lt h))

/-- Is a head's name at this place? -/
def hdF (ps : List (ByteArray × Nat)) (l : List Rl) (i : Nat) : Bool := l.any fun r => decide (lastOf ps r.1.1 = some i)

theorem hdF_step {ps : List (ByteArray × Nat)} {rs : List Rl} {k i : Nat} {r : Rl} (h : rs[k]? = some r) (hl : lastOf ps r.1.1 = some i) : hdF ps (rs.take (k + 1)) = fun j => if j = i then true else hdF ps (rs.take k) j := by
  funext j
  unfold hdF
  rw [List.take_add_one, h, List.any_append]
  by_cases e : j = i
  · subst e; rw [if_pos rfl]; simp [hl]
  · rw [if_neg e]
    have : decide (lastOf ps r.1.1 = some j) = false := by rw [hl]; exact decide_eq_false (fun h => e (by injection h with h; exact h.symm))
    simp [this]

theorem hdF_tells {ps : List (ByteArray × Nat)} {L : List ByteArray} {rs : List Rl} (hP : PlacesOf L ps) {i : Nat} {s : ByteArray} (hi : L[i]? = some s) (hL : ∀ r ∈ rs, r.1.1 ∈ L) : hdF ps rs i = true ↔ ∃ r ∈ rs, r.1.1 = s := by
  unfold hdF
  rw [List.any_eq_true]
  constructor
  · rintro ⟨r, hr, h⟩
    have h := of_decide_eq_true h
    obtain ⟨j, hj⟩ := List.getElem?_of_mem (hL r hr)
    have := hP.1 j _ hj
    rw [this] at h
    injection h with h
    subst h
    rw [hi] at hj
    injection hj with hj
    exact ⟨r, hr, hj.symm⟩
  · rintro ⟨r, hr, rfl⟩
    exact ⟨r, hr, decide_eq_true (hP.1 i _ hi)⟩

def HeadsPost (ps : List (ByteArray × Nat)) (rs : List Rl) (q : Nat) (w : World) (e : Ending) (w' : World) : Prop :=
  e = .returned (.slice (some ⟨w.heap.size + 1, 0, none⟩) q q) ∧ BoolRow w' (w.heap.size + 1) q (hdF ps rs) ∧ Below w.heap.size w w'

theorem Tryz.infoBool : (Tryz.prog.info? 4).map (fun i => (i.zero, i.size, i.bytes)) = some (some (.bool false), 1, 1) := by kernel_rfl

set_option maxRecDepth 100000 in
set_option maxHeartbeats 4000000 in
theorem headPlaces_any (A : Option Addr) (m c : Nat) (rs : List Rl) (w : World) (h : IsRules w 0 w.heap.size A m c rs) (hm : m ≤ 8) (Av : Option Addr) (q cv b N : Nat) (ps : List (ByteArray × Nat)) (L : List ByteArray)
    (hown : w.ownsMap Tryz.prog 9 (plainElem Tryz.prog 3) b N (imap ps)) (hP : PlacesOf L ps) (hq : L.length = q) (hq40 : q ≤ 40) (hL : ∀ r ∈ rs, r.1.1 ∈ L) :
    Calls Tryz.prog 114 #[.slice A m c, .agg #[.slice Av q cv, .map (some b)]] w (HeadsPost ps rs q w) := by
  have HL := Lib.hid h.1
  have H := Lib.hid h; have HP := Lib.hid hP; have HQ := Lib.hid hq; have HLL := Lib.hid hL
  clear h hP hq hL
  obtain ⟨i0, hi, hz, hsz, hby⟩ := info_parts Tryz.infoBool
  have hmk : ∀ W : World, (Instr.makeSlice 108 (.int .i64 (q : Int)) (.int .i64 (q : Int))).run Tryz.prog W = .ok (.slice (some ⟨W.heap.size, 0, none⟩) q q) (W.alloc (.cells (madeCells #[.bool false] (q * 1)) 4)) := by
    intro W
    have hr := run_make (P := Tryz.prog) W 108 4 i0 _ Tryz.underlying108 hi hz .i64 .i64 q q (by omega) (Int.le_refl _) (by rw [hby]; omega) (by omega)
    rw [hsz] at hr
    exact hr
  clear hi hz hsz hby
  refine (callsIn_wide (n := 6)).1 ?_
  refine callsIn_of_wp Tryz.func114 rfl trivial ?_ rfl
  simp only [Tryz.ntmps114, List.size_toArray, List.length_cons, List.length_nil, Nat.reduceAdd, Nat.reduceSub, Array.replicate_succ, Array.replicate_zero, List.push_toArray, List.append_toArray, List.nil_append, List.cons_append]
  gi_wp2
  have X0 := (Blk.new w 101 #[.slice Av q cv, .map (some b)]).alloc (.cells (madeCells #[.bool false] q) 4)
  have hb2 := below2 w (.cells #[.slice Av q cv, .map (some b)] 101) (.cells (madeCells #[.bool false] q) 4)
  have R0 : BoolRow ((w.alloc (.cells #[.slice Av q cv, .map (some b)] 101)).alloc (.cells (madeCells #[.bool false] q) 4)) (w.heap.size + 1) q (hdF ps (rs.take 0)) := by
    have := World.rowIs_made (w.alloc (.cells #[.slice Av q cv, .map (some b)] 101)) (.bool false) q 4
    rw [show (w.alloc (.cells #[.slice Av q cv, .map (some b)] 101)).heap.size = w.heap.size + 1 by simp] at this
    exact this
  have M0 := (hown.alloc (.cells #[.slice Av q cv, .map (some b)] 101)).alloc (.cells (madeCells #[.bool false] q) 4)
  have hbl := hown.lt
  have HX := Lib.hid X0; have HR := Lib.hid R0; have HM := Lib.hid M0
  clear X0 R0 M0 hmk
  gi_loopw [14] (fun x wr => ∃ k : Nat, k ≤ m ∧ x = .int .i64 (k : Int) ∧ BoolRow wr (w.heap.size + 1) q (hdF ps (rs.take k)) ∧ Blk wr w.heap.size 101 #[.slice Av q cv, .map (some b)] ∧ wr.ownsMap Tryz.prog 9 (plainElem Tryz.prog 3) b N (imap ps) ∧ Below w.heap.size w wr ∧ w.heap.size + 2 ≤ wr.heap.size) (fun x _ => m - (intOf x).toNat)
  case atStart => exact ⟨0, Nat.zero_le _, rfl, HR.out, HX.out, HM.out, hb2, by simp⟩
  case round =>
    obtain ⟨k, hkm, rfl, hR, hX, hM, hb, hwz⟩ := hrel
    have HR2 := Lib.hid hR; have HX2 := Lib.hid hX; have HM2 := Lib.hid hM
    have x1 : wr.cell? ⟨w.heap.size, 1, none⟩ = some (.map (some b)) := hX.cell 1
    have hbs := hb.size
    clear hR hX hM
    by_cases hlt : k < m
    · have hltI : (k : Int) < (m : Int) := by omega
      obtain ⟨p, r, A', n', c', B, mm, d, hA, hpb, hg, d1, d2, d3, d4, d5, d6⟩ := rule_at (H.out.below RuleE.stays hb (Nat.le_refl _)) hlt
      subst hA
      have HG := Lib.hid hg
      clear hg d4 d6
      obtain ⟨i, hi⟩ := List.getElem?_of_mem (HLL.out r (List.mem_of_getElem? HG.out))
      have hiq : i < q := by rw [← HQ.out]; exact (List.getElem?_eq_some_iff.1 hi).1
      have hlo := HP.out.1 i _ hi
      have HLO := Lib.hid hlo
      have hb1 := below1 wr (.cells #[.string r.1.1, .slice A' n' c', .slice B mm d] 72)
      have HM3 := Lib.hid (HM2.out.alloc (.cells #[.string r.1.1, .slice A' n' c', .slice B mm d] 72))
      have HR3 := Lib.hid (HR2.out.below hb1)
      have y1 := cellUp x1
      have c0 : (wr.alloc (.cells #[.string r.1.1, .slice A' n' c', .slice B mm d] 72)).cell? ⟨w.heap.size + 1, i, none⟩ = some (.bool (hdF ps (rs.take k) i)) := World.rowIs.cell HR3.out hiq
      have z0 : (wr.alloc (.cells #[.string r.1.1, .slice A' n' c', .slice B mm d] 72)).frozen? ⟨w.heap.size + 1, i, none⟩ = false := World.rowIs.frozen HR3.out i
      have hiI : (i : Int) < (q : Int) := by omega
      clear hi hlo
      gi_wp2_with (gi_at_lookup; refine lookup_at _ rfl _ _ rfl b N ps rfl HM3.out r.1.1 rfl d2 i (by rw [HLO.out]; rfl) ?_)
      have HE := Lib.hid (hdF_step HG.out HLO.out)
      have hb3 := ((hb.alloc hbs (.cells #[.string r.1.1, .slice A' n' c', .slice B mm d] 72)).setCell (p := ⟨w.heap.size + 1, i, none⟩) (by simp) (.bool true))
      have HX3 := Lib.hid ((HX2.out.alloc (.cells #[.string r.1.1, .slice A' n' c', .slice B mm d] 72)).far (p := ⟨w.heap.size + 1, i, none⟩) (by simp) (.bool true))
      have HM4 := Lib.hid (HM3.out.kept (grownBy_setC _ ⟨w.heap.size + 1, i, none⟩ (.bool true)) (fun e => by injection e with e; simp only at e; omega))
      have HR4 := Lib.hid (HR3.out.set i true)
      clear c0 z0 y1 x1 hb1
      go_roundw
      case rel => exact ⟨k + 1, by omega, by go_num, by rw [HE.out]; exact HR4.out, HX3.out, HM4.out, hb3, by rw [size_setCell]; simp; omega⟩
      case measure => simp [intOf]; omega
    · have hke : k = m := by omega
      subst hke
      have E := Lib.hid (show rs.take k = rs from List.take_of_length_le (by rw [HL.out]; exact Nat.le_refl _))
      have hkk : ¬ (k : Int) < (k : Int) := by omega
      gi_wp2
      go_ret
      exact ⟨rfl, by have := HR2.out; rwa [E.out] at this, hb⟩

end Go.Proofs.YtnhbnhibphjljaaGreatDoor

namespace Go.Proofs.YtnhbnhibphjljaaGreatDoor
open Go.RowKit Go.Shelf Go.Maps Go.WideMaps
attribute [local go_sem] Oper.semAt_some

def placeIn (ps : List (ByteArray × Nat)) (s : ByteArray) : Nat := (lastOf ps s).getD 0

/-- What a part asks, at least. -/
def askF (ps : List (ByteArray × Nat)) (hd : Nat → Bool) (LV : List Nat) (a : Nat) (p : Pt) : Nat :=
  if hd (placeIn ps p.2.1) = true then Nat.max a (at0 LV (placeIn ps p.2.1) + if p.1 then 1 else 0) else a

/-- The least level that a body allows. -/
def leastF (ps : List (ByteArray × Nat)) (hd : Nat → Bool) (LV : List Nat) (qs : List Pt) : Nat := qs.foldl (askF ps hd LV) 0

theorem askF_le {ps : List (ByteArray × Nat)} {hd : Nat → Bool} {LV : List Nat} {a M : Nat} {p : Pt} (ha : a ≤ M + 1) (hl : ∀ i, at0 LV i ≤ M) : askF ps hd LV a p ≤ M + 1 := by
  unfold askF
  have := hl (placeIn ps p.2.1)
  split
  · refine Nat.max_le.2 ⟨ha, ?_⟩
    split <;> omega
  · exact ha

theorem leastF_le {ps : List (ByteArray × Nat)} {hd : Nat → Bool} {LV : List Nat} {M : Nat} (hl : ∀ i, at0 LV i ≤ M) (qs : List Pt) : leastF ps hd LV qs ≤ M + 1 := by
  unfold leastF
  have h : ∀ (qs : List Pt) (a : Nat), a ≤ M + 1 → qs.foldl (askF ps hd LV) a ≤ M + 1 := by
    intro qs
    induction qs with
    | nil => intro a h; exact h
    | cons p qs ih => intro a h; exact ih _ (askF_le h hl)
  exact h qs 0 (Nat.zero_le _)

theorem leastF_step {ps : List (ByteArray × Nat)} {hd : Nat → Bool} {LV : List Nat} {qs : List Pt} {j : Nat} {p : Pt} (h : qs[j]? = some p) : leastF ps hd LV (qs.take (j + 1)) = askF ps hd LV (leastF ps hd LV (qs.take j)) p := fold_step h

theorem askF_no {ps : List (ByteArray × Nat)} {hd : Nat → Bool} {LV : List Nat} {a i : Nat} {p : Pt} (hi : lastOf ps p.2.1 = some i) (h : hd i = false) : askF ps hd LV a p = a := by
  unfold askF placeIn
  rw [hi]
  exact if_neg (by rw [show (some i).getD 0 = i from rfl, h]; decide)

theorem askF_yes {ps : List (ByteArray × Nat)} {hd : Nat → Bool} {LV : List Nat} {a i x : Nat} {p : Pt} (hi : lastOf ps p.2.1 = some i) (h : hd i = true) (hx : at0 LV i + (if p.1 then 1 else 0) = x) : askF ps hd LV a p = Nat.max a x := by
  unfold askF placeIn
  rw [hi, show (some i).getD 0 = i from rfl, if_pos h, hx]

def LeastPost (k : Nat) (w : World) (e : Ending) (w' : World) : Prop := e = .returned (.int .i64 (k : Int)) ∧ Below w.heap.size w w'

set_option maxRecDepth 100000 in
set_option maxHeartbeats 4000000 in
theorem leastLevel_any (nm : ByteArray) (A : Option Addr) (n c : Nat) (B : Option Addr) (m d : Nat) (qs : List Pt) (w : World) (h : IsParts w 0 w.heap.size B m d qs) (hm : m ≤ 4) (Av : Option Addr) (q cv b N : Nat) (ps : List (ByteArray × Nat)) (L : List ByteArray)
    (hown : w.ownsMap Tryz.prog 9 (plainElem Tryz.prog 3) b N (imap ps)) (hP : PlacesOf L ps) (hq : L.length = q) (hL : ∀ p ∈ qs, p.2.1 ∈ L) (gh gl : Nat) (hd : Nat → Bool) (LV : List Nat) (hh : BoolRow w gh q hd) (hlv : IntRow w gl q LV) (hM : ∀ i, at0 LV i ≤ 100) :
    Calls Tryz.prog 115 #[.agg #[.string nm, .slice A n c, .slice B m d], .agg #[.slice Av q cv, .map (some b)], .slice (some ⟨gh, 0, none⟩) q q, .slice (some ⟨gl, 0, none⟩) q q] w (LeastPost (leastF ps hd LV qs) w) := by
  have HL := Lib.hid h.1
  have H := Lib.hid h; have HP := Lib.hid hP; have HQ := Lib.hid hq; have HLL := Lib.hid hL; have HH := Lib.hid hh; have HV := Lib.hid hlv; have HM := Lib.hid hM; have HO := Lib.hid hown
  have hgh := World.rowIs.lt hh; have hgl := hlv.lt
  clear h hP hq hL hh hlv hM hown
  refine (callsIn_wide (n := 6)).1 ?_
  refine callsIn_of_wp Tryz.func115 rfl trivial ?_ rfl
  simp only [Tryz.ntmps115, List.size_toArray, List.length_cons, List.length_nil, Nat.reduceAdd, Nat.reduceSub, Array.replicate_succ, Array.replicate_zero, List.push_toArray, List.append_toArray, List.nil_append, List.cons_append]
  gi_wp2
  have hb2 := below2 w (.cells #[.string nm, .slice A n c, .slice B m d] 72) (.cells #[.slice Av q cv, .map (some b)] 101)
  have X1 := Blk.made (w.alloc (.cells #[.string nm, .slice A n c, .slice B m d] 72)) (b := w.heap.size + 1) 101 #[.slice Av q cv, .map (some b)] (by simp)
  have HX := Lib.hid X1; clear X1
  gi_loopw [9, 17] (fun y x wr => ∃ j : Nat, j ≤ m ∧ y = .int .i64 ((leastF ps hd LV (qs.take j) : Nat) : Int) ∧ x = .int .i64 (j : Int) ∧ Blk wr (w.heap.size + 1) 101 #[.slice Av q cv, .map (some b)] ∧ Below w.heap.size w wr ∧ w.heap.size + 2 ≤ wr.heap.size) (fun _ x _ => m - (intOf x).toNat)
  case atStart => exact ⟨0, Nat.zero_le _, rfl, rfl, HX.out, hb2, by simp⟩
  case round =>
    obtain ⟨j, hjm, rfl, rfl, hX, hb, hwz⟩ := hrel
    have HX2 := Lib.hid hX
    have x1 : wr.cell? ⟨w.heap.size + 1, 1, none⟩ = some (.map (some b)) := hX.cell 1
    have hbs := hb.size
    obtain ⟨a, ha⟩ : ∃ a, leastF ps hd LV (qs.take j) = a := ⟨_, rfl⟩
    have hale := leastF_le HM.out (ps := ps) (hd := hd) (qs.take j)
    rw [ha] at hale ⊢
    have HA := Lib.hid ha
    clear hX ha
    by_cases hlt : j < m
    · have hltI : (j : Int) < (m : Int) := by omega
      obtain ⟨pp, p, hB, _, hpb, hg, hE⟩ := (H.out.below PartE.stays hb (Nat.le_refl _)).at_ hlt
      obtain ⟨A5, n5, c5, f1, f2, f3, f4, _⟩ := hE.out
      clear hE
      subst hB
      have HG := Lib.hid hg; clear hg
      obtain ⟨i, hi⟩ := List.getElem?_of_mem (HLL.out p (List.mem_of_getElem? HG.out))
      have hiq : i < q := by rw [← HQ.out]; exact (List.getElem?_eq_some_iff.1 hi).1
      have hiI : (i : Int) < (q : Int) := by omega
      have HLO := Lib.hid (HP.out.1 i _ hi)
      have hb1 := below1 wr (.cells #[.bool p.1, .string p.2.1, .slice A5 n5 c5] 69)
      have hball := hb.alloc hbs (.cells #[.bool p.1, .string p.2.1, .slice A5 n5 c5] 69)
      have HM3 := Lib.hid (ownsMap_below HO.out hball HO.out.lt)
      have c0 := (hball.cell (p := ⟨gh, i, none⟩) hgh).trans (World.rowIs.cell HH.out hiq)
      have c1 := (hball.cell (p := ⟨gl, i, none⟩) hgl).trans (HV.out.cell hiq)
      have HX3 := Lib.hid (HX2.out.alloc (.cells #[.bool p.1, .string p.2.1, .slice A5 n5 c5] 69))
      have hlI := HM.out i
      obtain ⟨lv, hlv⟩ : ∃ lv, at0 LV i = lv := ⟨_, rfl⟩
      rw [hlv] at c1 hlI
      have HLV := Lib.hid hlv
      have y1 := cellUp x1
      clear hi hlv
      obtain ⟨nb, nq1, tq⟩ := p
      simp only at f1 f2 f3
      cases hh : hd i
      · rw [hh] at c0
        have HE := Lib.hid (show leastF ps hd LV (qs.take (j + 1)) = a by rw [leastF_step HG.out, HA.out]; exact askF_no HLO.out hh)
        clear hh
        gi_wp2_with (gi_at_lookup; refine lookup_at _ rfl _ _ rfl b N ps rfl HM3.out nq1 rfl f3 i (by rw [HLO.out]; rfl) ?_)
        go_roundw
        case rel => exact ⟨j + 1, by omega, by rw [HE.out], by go_num, HX3.out, hball, by simp; omega⟩
        case measure => simp [intOf]; omega
      · rw [hh] at c0
        cases nb
        · have HE := Lib.hid (show leastF ps hd LV (qs.take (j + 1)) = Nat.max a lv by rw [leastF_step HG.out, HA.out]; exact askF_yes HLO.out hh (by rw [HLV.out]; rfl))
          clear hh
          by_cases hmx : a < lv
          · have hmxI : (a : Int) < (lv : Int) := by omega
            have HE2 := Lib.hid (show leastF ps hd LV (qs.take (j + 1)) = lv by rw [HE.out]; exact Nat.max_eq_right (by omega))
            gi_wp2_with (gi_at_lookup; refine lookup_at _ rfl _ _ rfl b N ps rfl HM3.out nq1 rfl f3 i (by rw [HLO.out]; rfl) ?_)
            go_roundw
            case rel => exact ⟨j + 1, by omega, by rw [HE2.out]; go_num, by go_num, HX3.out, hball, by simp; omega⟩
            case measure => simp [intOf]; omega
          · have hmxI : ¬ (a : Int) < (lv : Int) := by omega
            have HE2 := Lib.hid (show leastF ps hd LV (qs.take (j + 1)) = a by rw [HE.out]; exact Nat.max_eq_left (by omega))
            gi_wp2_with (gi_at_lookup; refine lookup_at _ rfl _ _ rfl b N ps rfl HM3.out nq1 rfl f3 i (by rw [HLO.out]; rfl) ?_)
            go_roundw
            case rel => exact ⟨j + 1, by omega, (by rw [HE2.out]; first | rfl | (simp; omega)), by go_num, HX3.out, hball, by simp; omega⟩
            case measure => simp [intOf]; omega
        · have HE := Lib.hid (show leastF ps hd LV (qs.take (j + 1)) = Nat.max a (lv + 1) by rw [leastF_step HG.out, HA.out]; exact askF_yes HLO.out hh (by rw [HLV.out]; rfl))
          clear hh
          by_cases hmx : a < (lv + 1)
          · have hmxI : (a : Int) < (lv : Int) + 1 := by omega
            have HE2 := Lib.hid (show leastF ps hd LV (qs.take (j + 1)) = (lv + 1) by rw [HE.out]; exact Nat.max_eq_right (by omega))
            gi_wp2_with (gi_at_lookup; refine lookup_at _ rfl _ _ rfl b N ps rfl HM3.out nq1 rfl f3 i (by rw [HLO.out]; rfl) ?_)
            go_roundw
            case rel => exact ⟨j + 1, by omega, by rw [HE2.out]; go_num, by go_num, HX3.out, hball, by simp; omega⟩
            case measure => simp [intOf]; omega
          · have hmxI : ¬ (a : Int) < (lv : Int) + 1 := by omega
            have HE2 := Lib.hid (show leastF ps hd LV (qs.take (j + 1)) = a by rw [HE.out]; exact Nat.max_eq_left (by omega))
            gi_wp2_with (gi_at_lookup; refine lookup_at _ rfl _ _ rfl b N ps rfl HM3.out nq1 rfl f3 i (by rw [HLO.out]; rfl) ?_)
            go_roundw
            case rel => exact ⟨j + 1, by omega, (by rw [HE2.out]; first | rfl | (simp; omega)), by go_num, HX3.out, hball, by simp; omega⟩
            case measure => simp [intOf]; omega
    · have hje : j = m := by omega
      subst hje
      have E := Lib.hid (show leastF ps hd LV qs = a by rw [← HA.out, List.take_of_length_le (by rw [HL.out]; exact Nat.le_refl _)])
      have hjj : ¬ (j : Int) < (j : Int) := by omega
      gi_wp2
      go_ret
      exact ⟨by rw [E.out]; rfl, hb⟩

end Go.Proofs.YtnhbnhibphjljaaGreatDoor

