/-
  Lists of texts: read, and put among others, in the model. (The walk of l2Put is written by tools/l2put.py.)
-/
import Derived.Test.YtcigljngiemdeaaGreatEa6
namespace Go.Proofs.YtcigljngiemdeaaGreat
open Go.RowKit

/-- A text in a cell. -/
def TextE (w : World) (_lo _hi : Nat) (p : Addr) (s : ByteArray) : Prop := w.cell? p = some (.string s)

theorem TextE.stays : Stays TextE := by
  intro w w' lo hi lo' hi' p s h hp1 hp2 hk hl hh
  exact (hk p hp1 hp2).trans h

abbrev IsTexts := IsSeq 1 TextE

/-- The slice A, m long, holds these cells. -/
def SrcZ (sz : Nat) (w : World) (A : Option Addr) (m : Nat) (news : List Value) : Prop :=
  news.length = m * sz ∧ (∀ ad, A = some ad → ∀ j u, news[j]? = some u → w.cell? (ad.add j) = some u) ∧ (A = none → m = 0)

section
variable {P : Program} {w : World}

theorem step_appZ (sz : Nat) (hsz0 : 0 < sz) {ops : Array Oper} {o : Oper} {a : Act} {K : Act → World → Prop} {Q : Exit → Act → World → Prop} {E : Prop} (hgd : o.guard = none) (s x : Operand) (t : TypeId)
    (ho : o.op = .call { callee := .builtin .append, args := #[s, x], argTypes := #[t, t] })
    (base : Nat) (e : TypeId) (i : TypeInfo) (z : Value) (bytes : Nat) (ht : P.underlying t = some (.slice e)) (hi : P.info? e = some i) (hz : i.zero = some z)
    (hsize : i.size = sz) (hby : i.bytes = bytes) (hzs : z.cells.size = sz)
    (v : Value) (n : Nat) (xs : List Value) (hs : a.eval s = v) (hown : w.ownsRow base e sz v n xs)
    (A : Option Addr) (m c : Nat) (news : List Value) (hx : a.eval x = .slice A m c) (hsrc : SrcZ sz w A m news) (h1 : ∀ u ∈ news, u.oneCell' = true)
    (h63 : n + m ≤ maxLen) (hbytes : (n + m) * bytes ≤ 140737488355328) (hbase : base ≤ w.heap.size)
    (h : ∀ v' w', w'.ownsRow base e sz v' (n + m) (xs ++ news) → w.grownBy w' v.ownBlock → K (a.put o.dst v') w') :
    if Region.wanted o (yielded ops a.tmps) = true then Oper.wp P o a w K Q else E := by
  have hw : Region.wanted o (yielded ops a.tmps) = true := by simp [Region.wanted, hgd]
  rw [if_pos hw]
  obtain ⟨hl, hc, hn⟩ := hsrc
  cases A with
  | none =>
    have hm := hn rfl
    subst hm
    have hnil : news = [] := List.eq_nil_of_length_eq_zero (by simpa using hl)
    subst hnil
    have hrun := run_app_none (P := P) base t o.type e i sz ht hi v n c xs hown
    unfold Oper.wp execOp
    simp only [ho, resolve, invoke, builtin, Sem.run_bind, Sem.run_pure, Result.andThen_ok, List.map_toArray, List.map_cons, List.map_nil, hs, hx, hrun]
    exact h v w (by simpa using hown) (World.grownBy.refl w _)
  | some ad => exact wp_append_own w s x t ho base e i z sz bytes ht hi hz hsize hby hzs hsz0 v n xs hs hown ad m c news hx hl (hc ad rfl) h1 h63 hbytes hbase fun v' w' h2 h3 _ => h v' w' h2 h3

end

def tcl (ls : List ByteArray) : List Value := ls.map Value.string

theorem IsTexts.cells {w : World} {lo hi n c : Nat} {p : Addr} {ls : List ByteArray} (h : IsTexts w lo hi (some p) n c ls) : ∀ j u, (tcl ls)[j]? = some u → w.cell? (p.add j) = some u := by
  obtain ⟨h1, h2, h3, h4⟩ := h
  intro j u hj
  unfold tcl at hj
  rw [List.getElem?_map] at hj
  cases hs : ls[j]? with
  | none => rw [hs] at hj; cases hj
  | some s =>
    rw [hs] at hj
    injection hj with hj
    subst hj
    have hjl := (List.getElem?_eq_some_iff.1 hs).1
    obtain ⟨p', hp, _, _, he⟩ := h4 (by omega)
    injection hp with hp
    subst hp
    have := he j s hs
    rwa [Nat.mul_one] at this

theorem IsTexts.srcTake {w : World} {lo hi n c k : Nat} {p : Addr} {ls : List ByteArray} (h : IsTexts w lo hi (some p) n c ls) (hk : k ≤ n) : SrcZ 1 w (some p) k (tcl (ls.take k)) := by
  refine ⟨by unfold tcl; rw [List.length_map, List.length_take, h.1, Nat.min_eq_left hk, Nat.mul_one], fun ad hA j u hu => ?_, fun hA => by cases hA⟩
  injection hA with hA
  subst hA
  refine h.cells j u ?_
  unfold tcl at hu ⊢
  rw [List.map_take, List.getElem?_take] at hu
  split at hu
  · exact hu
  · cases hu

theorem IsTexts.srcDrop {w : World} {lo hi n c k : Nat} {p : Addr} {ls : List ByteArray} (h : IsTexts w lo hi (some p) n c ls) (hk : k ≤ n) {q : Option Addr} (hq : q = if c = k then some p else some (p.add k)) : SrcZ 1 w q (n - k) (tcl (ls.drop k)) := by
  have hnc := h.2.1
  have hl := h.1
  subst hq
  by_cases hc : c = k
  · have hn : n - k = 0 := by omega
    rw [hn, List.drop_eq_nil_of_le (by omega)]
    exact ⟨rfl, fun ad _ j u hu => by simp [tcl] at hu, fun _ => rfl⟩
  · rw [if_neg hc]
    refine ⟨by unfold tcl; rw [List.length_map, List.length_drop, hl, Nat.mul_one], fun ad hA j u hu => ?_, fun hA => by cases hA⟩
    injection hA with hA
    subst hA
    unfold tcl at hu
    rw [List.map_drop, List.getElem?_drop] at hu
    rw [add_add]
    exact h.cells _ u hu

theorem srcOne1 (W : World) (g : Nat) (t : TypeId) (x : Value) (h : Blk W g t #[x]) : SrcZ 1 W (some ⟨g, 0, none⟩) 1 [x] := by
  refine ⟨rfl, fun ad hA j u hu => ?_, fun hA => by cases hA⟩
  injection hA with hA
  subst hA
  have a0 : ∀ j, (⟨g, 0, none⟩ : Addr).add j = ⟨g, j, none⟩ := fun j => by unfold Addr.add; split <;> simp_all
  rw [a0, h.cell]
  simpa using hu

theorem tcl_one (ls : List ByteArray) : ∀ u ∈ tcl ls, u.oneCell' = true := by
  intro u hu
  obtain ⟨s, _, rfl⟩ := List.mem_map.1 hu
  rfl

/-- A row of texts of the call's own, read. -/
theorem texts_own {W : World} {base n : Nat} {v : Value} {ls : List ByteArray} (h : W.ownsRow base 9 1 v n (tcl ls)) (h0 : 0 < n) {lo : Nat} (hlo : lo ≤ base) : ∃ p c, v = .slice (some p) ls.length c ∧ IsTexts W lo W.heap.size (some p) ls.length c ls := by
  have hn : n = ls.length := by have := h.1; unfold tcl at this; rw [List.length_map] at this; omega
  subst hn
  rcases h.2 with ⟨_, hz⟩ | ⟨g, cap, cur, rfl, hbg, hgb, hle, hcap, hsz, htk⟩
  · omega
  · have hlt := (Array.getElem?_eq_some_iff.1 hgb).1
    refine ⟨_, cap, rfl, rfl, hle, hcap, fun _ => ⟨_, rfl, by show lo ≤ g; omega, hlt, fun i s hi => ?_⟩⟩
    have hc := h.cells (g := g) rfl i (.string s) (by unfold tcl; rw [List.getElem?_map, hi]; rfl)
    rwa [Nat.mul_one]

/-- Is a text ahead of s? -/
def ltT (s t : ByteArray) : Bool := Op.bytesLess t.toList s.toList
/-- A text put among others. -/
def putT (ls : List ByteArray) (s : ByteArray) : List ByteArray := if (ls.dropWhile (ltT s)).head? = some s then ls else ls.takeWhile (ltT s) ++ s :: ls.dropWhile (ltT s)

theorem putT_cut : ∀ {ls : List ByteArray} {s : ByteArray} {k : Nat}, k ≤ ls.length → (∀ j t, j < k → ls[j]? = some t → ltT s t = true) → (∀ t, ls[k]? = some t → ltT s t = false) → ls.takeWhile (ltT s) = ls.take k ∧ ls.dropWhile (ltT s) = ls.drop k
  | [], s, k, hk, _, _ => by
    have : k = 0 := by simpa using hk
    subst this; exact ⟨rfl, rfl⟩
  | t :: ls, s, 0, _, _, h => by
    have h0 : ltT s t = false := h t rfl
    rw [List.takeWhile_cons, List.dropWhile_cons, h0]; exact ⟨rfl, rfl⟩
  | t :: ls, s, k + 1, hk, hl, h => by
    have h0 : ltT s t = true := hl 0 t (by omega) rfl
    have ih := putT_cut (ls := ls) (s := s) (k := k) (by simpa using hk) (fun j u hj hu => hl (j + 1) u (by omega) hu) (fun u hu => h u hu)
    rw [List.takeWhile_cons, List.dropWhile_cons, h0]
    exact ⟨by simp [ih.1], by simp [ih.2]⟩

/-- A list of texts was told: it lies from L0 on. -/
def TextsPost (L0 : Nat) (ls : List ByteArray) (w : World) (e : Ending) (w' : World) : Prop := ∃ (p : Addr) (c : Nat), e = .returned (.slice (some p) ls.length c) ∧ IsTexts w' L0 w'.heap.size (some p) ls.length c ls ∧ Below w.heap.size w w'

theorem Tryz.infoText : (Tryz.prog.info? 9).map (fun i => (i.zero, i.size, i.bytes)) = some (some (.string ByteArray.empty), 1, 16) := by kernel_rfl

theorem put_texts {W : World} {base k m : Nat} {v : Value} {ls : List ByteArray} {s : ByteArray} {P : List ByteArray} (hP : ls.take k ++ s :: ls.drop k = P) (h : W.ownsRow base 9 1 v (0 + k + 1 + m) ([] ++ tcl (ls.take k) ++ [.string s] ++ tcl (ls.drop k))) (hk : 0 < 0 + k + 1 + m) {lo : Nat} (hlo : lo ≤ base) :
    ∃ p c, v = .slice (some p) P.length c ∧ IsTexts W lo W.heap.size (some p) P.length c P := by
  have e : [] ++ tcl (ls.take k) ++ [.string s] ++ tcl (ls.drop k) = tcl P := by rw [← hP]; unfold tcl; simp
  rw [e] at h
  exact texts_own h hk hlo

set_option maxRecDepth 100000 in
set_option maxHeartbeats 8000000 in
theorem l2Put_any (p : Addr) (n c : Nat) (ls : List ByteArray) (s : ByteArray) (w : World) (L0 : Nat) (hL0 : L0 ≤ w.heap.size) (h : IsTexts w L0 w.heap.size (some p) n c ls) (hmax : n ≤ 1048576) :
    Calls Tryz.prog 162 #[.slice (some p) n c, .string s] w (TextsPost L0 (putT ls s) w) := by
  have RR := Lib.hid h
  have hnc := h.2.1
  have hcm := h.2.2.1
  have HL := Lib.hid h.1
  unfold maxLen at hcm
  clear h
  obtain ⟨i0, hi, hz, hsz, hby⟩ := info_parts Tryz.infoText
  go_enter Tryz.func162, Tryz.ntmps162
  go_wp2
  go_loopw [5] (fun i wr => ∃ k : Nat, k ≤ n ∧ i = .int .i64 (k : Int) ∧ (∀ j t, j < k → ls[j]? = some t → ltT s t = true) ∧ Below w.heap.size w wr) (fun i _ => n - (intOf i).toNat)
  case atStart => exact ⟨0, Nat.zero_le _, rfl, fun j t hj => by omega, Below.refl _ _⟩
  case round =>
    obtain ⟨k, hkn, rfl, hlo, hb⟩ := hrel
    have HLO := Lib.hid hlo; clear hlo
    by_cases hlt : k < n
    · have hlt2 : (k : Int) < (n : Int) := by omega
      obtain ⟨p', t, hp, -, -, hg, hE⟩ := (RR.out.below TextE.stays hb (Nat.le_refl _)).at_ hlt
      injection hp with hp
      subst hp
      have c1 : wr.cell? (p.add k) = some (.string t) := by have := hE; unfold TextE at this; rwa [Nat.mul_one] at this
      have HG := Lib.hid hg; clear hg hE
      cases hb1 : Op.bytesLess t.toList s.toList
      · have hcut := Lib.hid (putT_cut (ls := ls) (s := s) (k := k) (by rw [HL.out]; exact hkn) HLO.out (fun u hu => by rw [HG.out] at hu; injection hu with hu; subst hu; exact hb1))
        cases he : (t.toList == s.toList)
        · have PD := Lib.hid (show ls.take k ++ s :: ls.drop k = putT ls s from by
            unfold putT
            rw [hcut.out.1, hcut.out.2, List.head?_drop, HG.out, if_neg]
            intro e
            injection e with e
            subst e
            simp at he)
          go_wp2
          have HBV : Below w.heap.size w wr.drew := hb.drew
          have hkc : k ≤ c := by omega
          have hki : (k : Int) ≤ (c : Int) := by omega
          have hkni : (k : Int) ≤ (n : Int) := by omega
          obtain ⟨QK, hQK⟩ : ∃ q, (if c = k then some p else some (p.add k)) = q := ⟨_, rfl⟩
          have SD : Hid (∀ W, Below w.heap.size w W → SrcZ 1 W QK (n - k) (tcl (ls.drop k))) := Lib.hid (fun W hb => by have h := IsTexts.srcDrop (RR.out.below TextE.stays hb (Nat.le_refl _)) hkn hQK.symm; exact h)
          obtain ⟨V, hV⟩ : ∃ V, wr.drew = V := ⟨_, rfl⟩
          rw [hV] at HBV
          refine wp_region_held_drew (S := fun _ => True) (by kernel_rfl) trivial ?_
          rw [hV]
          intro hS_
          refine tk 1 (.slice (some p) n c) hS_ ?_
          refine tk 2 (.int .i64 (k : Int)) hS_ ?_
          refine tk 3 (.slice (some p) k c) hS_ ?_
          refine tk 5 (.string s) hS_ ?_
          refine tk 8 (.slice (some p) n c) hS_ ?_
          refine tk 9 (.int .i64 (k : Int)) hS_ ?_
          refine tk 10 (.slice QK (n - k) (c - k)) hS_ ?_
          refine rd2 0 6 (fun K_ hK_ => ?_) fun K_ hK_ => ?_
          · rw [if_pos (by rfl)]
            go_simp
            obtain ⟨V1, hV1⟩ : ∃ X, V.alloc (.cells #[] 9) = X := ⟨_, rfl⟩
            have HB1 : Below w.heap.size w V1 := by rw [← hV1]; exact HBV.alloc HBV.size _
            have Z1 : V.heap.size + 1 ≤ V1.heap.size := by rw [← hV1]; simp
            have OW1 : V1.ownsRow w.heap.size 9 1 (.slice (some ⟨V.heap.size, 0, none⟩) 0 0) 0 [] := by rw [← hV1]; exact ⟨rfl, .inr ⟨V.heap.size, 0, #[], rfl, HBV.size, heap_alloc_new V _, Nat.le_refl _, by unfold maxLen; omega, rfl, rfl⟩⟩
            rw [hV1]; clear hV1
            refine hK_.out _ _ trivial fun hS_ => ?_
            clear hK_
            (try simp only [Act.put, List.setIfInBounds_toArray, List.set_cons_zero, List.set_cons_succ])
            refine rd2 4 6 (fun K_ hK_ => ?_) fun K_ hK_ => ?_
            · refine step_appZ 1 (by omega) (by rfl) _ _ _ (by rfl) (w.heap.size) 9 i0 _ 16 Tryz.underlying42 hi hz hsz hby rfl (.slice (some ⟨V.heap.size, 0, none⟩) 0 0) 0 [] (by rfl) OW1 (some p) k c (tcl (ls.take k)) (by rfl) (IsTexts.srcTake (RR.out.below TextE.stays HB1 (Nat.le_refl _)) (by omega)) (by first | exact tcl_one _ | simp [Value.oneCell']) (by unfold maxLen; omega) (by omega) HB1.size ?_
              intro v2 V2 OW2 G2
              have HB2 := HB1.trans (own_below OW1 G2 (Nat.le_refl _) HB1.size)
              refine hK_.out _ _ trivial fun hS_ => ?_
              clear hK_
              (try simp only [Act.put, List.setIfInBounds_toArray, List.set_cons_zero, List.set_cons_succ])
              refine rd1 6 fun K_ hK_ => ?_
              go_simp
              obtain ⟨V3, hV3⟩ : ∃ X, V2.alloc (.cells #[.string s] 9) = X := ⟨_, rfl⟩
              have HB3 : Below w.heap.size w V3 := by rw [← hV3]; exact HB2.alloc HB2.size _
              have Z3 : V2.heap.size + 1 ≤ V3.heap.size := by rw [← hV3]; simp
              have TM3 : Blk V3 (V2.heap.size) 9 #[.string s] := by rw [← hV3]; exact Blk.new V2 _ _
              have OW3 : V3.ownsRow w.heap.size 9 1 v2 (0 + k) ([] ++ (tcl (ls.take k))) := by rw [← hV3]; exact OW2.alloc _
              rw [hV3]; clear hV3
              refine hK_.out _ _ trivial fun hS_ => ?_
              clear hK_
              (try simp only [Act.put, List.setIfInBounds_toArray, List.set_cons_zero, List.set_cons_succ])
              refine rd0 7 fun K_ hK_ => ?_
              refine step_appZ 1 (by omega) (by rfl) _ _ _ (by rfl) (w.heap.size) 9 i0 _ 16 Tryz.underlying42 hi hz hsz hby rfl v2 (0 + k) ([] ++ (tcl (ls.take k))) (by rfl) OW3 (some ⟨V2.heap.size, 0, none⟩) 1 1 [.string s] (by rfl) (srcOne1 _ _ _ _ TM3) (by first | exact tcl_one _ | simp [Value.oneCell']) (by unfold maxLen; omega) (by omega) HB3.size ?_
              intro v4 V4 OW4 G4
              have HB4 := HB3.trans (own_below OW3 G4 (Nat.le_refl _) HB3.size)
              refine hK_.out _ _ trivial fun hS_ => ?_
              clear hK_
              (try simp only [Act.put, List.setIfInBounds_toArray, List.set_cons_zero, List.set_cons_succ])
              refine rd0 11 fun K_ hK_ => ?_
              refine step_appZ 1 (by omega) (by rfl) _ _ _ (by rfl) (w.heap.size) 9 i0 _ 16 Tryz.underlying42 hi hz hsz hby rfl v4 (0 + k + 1) ([] ++ (tcl (ls.take k)) ++ [.string s]) (by rfl) OW4 QK (n - k) (c - k) (tcl (ls.drop k)) (by rfl) (SD.out _ HB4) (by first | exact tcl_one _ | simp [Value.oneCell']) (by unfold maxLen; omega) (by omega) HB4.size ?_
              intro v5 V5 OW5 G5
              have HB5 := HB4.trans (own_below OW4 G5 (Nat.le_refl _) HB4.size)
              refine hK_.out _ _ trivial fun hS_ => ?_
              clear hK_
              refine tk 12 v5 hS_ ?_
              refine wpAnyH_done (by kernel_rfl) ?_ _
              obtain ⟨p9, c9, e9, i9⟩ := put_texts PD.out OW5 (by omega) hL0
              subst e9
              go_wp2
              go_ret; exact ⟨_, _, rfl, i9, HB5⟩
            · rw [if_pos (by rfl)]
              go_simp
              obtain ⟨V6, hV6⟩ : ∃ X, V1.alloc (.cells #[.string s] 9) = X := ⟨_, rfl⟩
              have HB6 : Below w.heap.size w V6 := by rw [← hV6]; exact HB1.alloc HB1.size _
              have Z6 : V1.heap.size + 1 ≤ V6.heap.size := by rw [← hV6]; simp
              have TM6 : Blk V6 (V1.heap.size) 9 #[.string s] := by rw [← hV6]; exact Blk.new V1 _ _
              have OW6 : V6.ownsRow w.heap.size 9 1 (.slice (some ⟨V.heap.size, 0, none⟩) 0 0) 0 [] := by rw [← hV6]; exact OW1.alloc _
              rw [hV6]; clear hV6
              refine hK_.out _ _ trivial fun hS_ => ?_
              clear hK_
              (try simp only [Act.put, List.setIfInBounds_toArray, List.set_cons_zero, List.set_cons_succ])
              refine rd0 4 fun K_ hK_ => ?_
              refine step_appZ 1 (by omega) (by rfl) _ _ _ (by rfl) (w.heap.size) 9 i0 _ 16 Tryz.underlying42 hi hz hsz hby rfl (.slice (some ⟨V.heap.size, 0, none⟩) 0 0) 0 [] (by rfl) OW6 (some p) k c (tcl (ls.take k)) (by rfl) (IsTexts.srcTake (RR.out.below TextE.stays HB6 (Nat.le_refl _)) (by omega)) (by first | exact tcl_one _ | simp [Value.oneCell']) (by unfold maxLen; omega) (by omega) HB6.size ?_
              intro v7 V7 OW7 G7
              have HB7 := HB6.trans (own_below OW6 G7 (Nat.le_refl _) HB6.size)
              have TM7 := TM6.kept G7 (by simp [Value.ownBlock]; omega)
              refine hK_.out _ _ trivial fun hS_ => ?_
              clear hK_
              (try simp only [Act.put, List.setIfInBounds_toArray, List.set_cons_zero, List.set_cons_succ])
              refine rd0 7 fun K_ hK_ => ?_
              refine step_appZ 1 (by omega) (by rfl) _ _ _ (by rfl) (w.heap.size) 9 i0 _ 16 Tryz.underlying42 hi hz hsz hby rfl v7 (0 + k) ([] ++ (tcl (ls.take k))) (by rfl) OW7 (some ⟨V1.heap.size, 0, none⟩) 1 1 [.string s] (by rfl) (srcOne1 _ _ _ _ TM7) (by first | exact tcl_one _ | simp [Value.oneCell']) (by unfold maxLen; omega) (by omega) HB7.size ?_
              intro v8 V8 OW8 G8
              have HB8 := HB7.trans (own_below OW7 G8 (Nat.le_refl _) HB7.size)
              refine hK_.out _ _ trivial fun hS_ => ?_
              clear hK_
              (try simp only [Act.put, List.setIfInBounds_toArray, List.set_cons_zero, List.set_cons_succ])
              refine rd0 11 fun K_ hK_ => ?_
              refine step_appZ 1 (by omega) (by rfl) _ _ _ (by rfl) (w.heap.size) 9 i0 _ 16 Tryz.underlying42 hi hz hsz hby rfl v8 (0 + k + 1) ([] ++ (tcl (ls.take k)) ++ [.string s]) (by rfl) OW8 QK (n - k) (c - k) (tcl (ls.drop k)) (by rfl) (SD.out _ HB8) (by first | exact tcl_one _ | simp [Value.oneCell']) (by unfold maxLen; omega) (by omega) HB8.size ?_
              intro v9 V9 OW9 G9
              have HB9 := HB8.trans (own_below OW8 G9 (Nat.le_refl _) HB8.size)
              refine hK_.out _ _ trivial fun hS_ => ?_
              clear hK_
              refine tk 12 v9 hS_ ?_
              refine wpAnyH_done (by kernel_rfl) ?_ _
              obtain ⟨p9, c9, e9, i9⟩ := put_texts PD.out OW9 (by omega) hL0
              subst e9
              go_wp2
              go_ret; exact ⟨_, _, rfl, i9, HB9⟩
          · rw [if_pos (by rfl)]
            go_simp
            obtain ⟨V10, hV10⟩ : ∃ X, V.alloc (.cells #[.string s] 9) = X := ⟨_, rfl⟩
            have HB10 : Below w.heap.size w V10 := by rw [← hV10]; exact HBV.alloc HBV.size _
            have Z10 : V.heap.size + 1 ≤ V10.heap.size := by rw [← hV10]; simp
            have TM10 : Blk V10 (V.heap.size) 9 #[.string s] := by rw [← hV10]; exact Blk.new V _ _
            rw [hV10]; clear hV10
            refine hK_.out _ _ trivial fun hS_ => ?_
            clear hK_
            (try simp only [Act.put, List.setIfInBounds_toArray, List.set_cons_zero, List.set_cons_succ])
            refine rd1 0 fun K_ hK_ => ?_
            go_simp
            obtain ⟨V11, hV11⟩ : ∃ X, V10.alloc (.cells #[] 9) = X := ⟨_, rfl⟩
            have HB11 : Below w.heap.size w V11 := by rw [← hV11]; exact HB10.alloc HB10.size _
            have Z11 : V10.heap.size + 1 ≤ V11.heap.size := by rw [← hV11]; simp
            have OW11 : V11.ownsRow w.heap.size 9 1 (.slice (some ⟨V10.heap.size, 0, none⟩) 0 0) 0 [] := by rw [← hV11]; exact ⟨rfl, .inr ⟨V10.heap.size, 0, #[], rfl, HB10.size, heap_alloc_new V10 _, Nat.le_refl _, by unfold maxLen; omega, rfl, rfl⟩⟩
            have TM11 : Blk V11 (V.heap.size) 9 #[.string s] := by rw [← hV11]; exact TM10.alloc _
            rw [hV11]; clear hV11
            refine hK_.out _ _ trivial fun hS_ => ?_
            clear hK_
            (try simp only [Act.put, List.setIfInBounds_toArray, List.set_cons_zero, List.set_cons_succ])
            refine rd0 4 fun K_ hK_ => ?_
            refine step_appZ 1 (by omega) (by rfl) _ _ _ (by rfl) (w.heap.size) 9 i0 _ 16 Tryz.underlying42 hi hz hsz hby rfl (.slice (some ⟨V10.heap.size, 0, none⟩) 0 0) 0 [] (by rfl) OW11 (some p) k c (tcl (ls.take k)) (by rfl) (IsTexts.srcTake (RR.out.below TextE.stays HB11 (Nat.le_refl _)) (by omega)) (by first | exact tcl_one _ | simp [Value.oneCell']) (by unfold maxLen; omega) (by omega) HB11.size ?_
            intro v12 V12 OW12 G12
            have HB12 := HB11.trans (own_below OW11 G12 (Nat.le_refl _) HB11.size)
            have TM12 := TM11.kept G12 (by simp [Value.ownBlock]; omega)
            refine hK_.out _ _ trivial fun hS_ => ?_
            clear hK_
            (try simp only [Act.put, List.setIfInBounds_toArray, List.set_cons_zero, List.set_cons_succ])
            refine rd0 7 fun K_ hK_ => ?_
            refine step_appZ 1 (by omega) (by rfl) _ _ _ (by rfl) (w.heap.size) 9 i0 _ 16 Tryz.underlying42 hi hz hsz hby rfl v12 (0 + k) ([] ++ (tcl (ls.take k))) (by rfl) OW12 (some ⟨V.heap.size, 0, none⟩) 1 1 [.string s] (by rfl) (srcOne1 _ _ _ _ TM12) (by first | exact tcl_one _ | simp [Value.oneCell']) (by unfold maxLen; omega) (by omega) HB12.size ?_
            intro v13 V13 OW13 G13
            have HB13 := HB12.trans (own_below OW12 G13 (Nat.le_refl _) HB12.size)
            refine hK_.out _ _ trivial fun hS_ => ?_
            clear hK_
            (try simp only [Act.put, List.setIfInBounds_toArray, List.set_cons_zero, List.set_cons_succ])
            refine rd0 11 fun K_ hK_ => ?_
            refine step_appZ 1 (by omega) (by rfl) _ _ _ (by rfl) (w.heap.size) 9 i0 _ 16 Tryz.underlying42 hi hz hsz hby rfl v13 (0 + k + 1) ([] ++ (tcl (ls.take k)) ++ [.string s]) (by rfl) OW13 QK (n - k) (c - k) (tcl (ls.drop k)) (by rfl) (SD.out _ HB13) (by first | exact tcl_one _ | simp [Value.oneCell']) (by unfold maxLen; omega) (by omega) HB13.size ?_
            intro v14 V14 OW14 G14
            have HB14 := HB13.trans (own_below OW13 G14 (Nat.le_refl _) HB13.size)
            refine hK_.out _ _ trivial fun hS_ => ?_
            clear hK_
            refine tk 12 v14 hS_ ?_
            refine wpAnyH_done (by kernel_rfl) ?_ _
            obtain ⟨p9, c9, e9, i9⟩ := put_texts PD.out OW14 (by omega) hL0
            subst e9
            go_wp2
            go_ret; exact ⟨_, _, rfl, i9, HB14⟩
        · have PD := Lib.hid (show ls = putT ls s from by
            unfold putT
            have e : t = s := bytesEq (by have := eq_of_beq he; rwa [ByteArray.toList_eq, ByteArray.toList_eq] at this)
            rw [hcut.out.2, List.head?_drop, HG.out, e, if_pos rfl])
          go_wp2
          go_ret; exact ⟨p, c, by rw [← PD.out, HL.out]; rfl, by rw [← PD.out, HL.out]; exact RR.out.up TextE.stays hb, hb⟩
      · go_wp2
        go_roundw
        case rel => exact ⟨k + 1, by omega, by go_num, fun j u hj hu => by
          by_cases e : j = k
          · subst e; rw [HG.out] at hu; injection hu with hu; subst hu; exact hb1
          · exact HLO.out j u (by omega) hu, hb⟩
        case measure => simp [intOf]; omega
    · have hk2 : k = n := by omega
      subst hk2
      have hcut := Lib.hid (putT_cut (ls := ls) (s := s) (k := k) (by rw [HL.out]; exact hkn) HLO.out (fun u hu => by have := (List.getElem?_eq_some_iff.1 hu).1; have := HL.out; omega))
      have PD := Lib.hid (show ls.take k ++ s :: ls.drop k = putT ls s from by
        unfold putT
        rw [hcut.out.1, hcut.out.2, List.drop_eq_nil_of_le (by rw [HL.out]; exact Nat.le_refl _), if_neg]
        simp)
      go_wp2
      have HBV : Below w.heap.size w wr.drew := hb.drew
      have hkc : k ≤ c := by omega
      have hki : (k : Int) ≤ (c : Int) := by omega
      have hkni : (k : Int) ≤ (k : Int) := by omega
      obtain ⟨QK, hQK⟩ : ∃ q, (if c = k then some p else some (p.add k)) = q := ⟨_, rfl⟩
      have SD : Hid (∀ W, Below w.heap.size w W → SrcZ 1 W QK 0 (tcl (ls.drop k))) := Lib.hid (fun W hb => by have h := IsTexts.srcDrop (RR.out.below TextE.stays hb (Nat.le_refl _)) hkn hQK.symm; rwa [Nat.sub_self] at h)
      obtain ⟨V, hV⟩ : ∃ V, wr.drew = V := ⟨_, rfl⟩
      rw [hV] at HBV
      refine wp_region_held_drew (S := fun _ => True) (by kernel_rfl) trivial ?_
      rw [hV]
      intro hS_
      refine tk 1 (.slice (some p) k c) hS_ ?_
      refine tk 2 (.int .i64 (k : Int)) hS_ ?_
      refine tk 3 (.slice (some p) k c) hS_ ?_
      refine tk 5 (.string s) hS_ ?_
      refine tk 8 (.slice (some p) k c) hS_ ?_
      refine tk 9 (.int .i64 (k : Int)) hS_ ?_
      refine tk 10 (.slice QK 0 (c - k)) hS_ ?_
      refine rd2 0 6 (fun K_ hK_ => ?_) fun K_ hK_ => ?_
      · rw [if_pos (by rfl)]
        go_simp
        obtain ⟨V1, hV1⟩ : ∃ X, V.alloc (.cells #[] 9) = X := ⟨_, rfl⟩
        have HB1 : Below w.heap.size w V1 := by rw [← hV1]; exact HBV.alloc HBV.size _
        have Z1 : V.heap.size + 1 ≤ V1.heap.size := by rw [← hV1]; simp
        have OW1 : V1.ownsRow w.heap.size 9 1 (.slice (some ⟨V.heap.size, 0, none⟩) 0 0) 0 [] := by rw [← hV1]; exact ⟨rfl, .inr ⟨V.heap.size, 0, #[], rfl, HBV.size, heap_alloc_new V _, Nat.le_refl _, by unfold maxLen; omega, rfl, rfl⟩⟩
        rw [hV1]; clear hV1
        refine hK_.out _ _ trivial fun hS_ => ?_
        clear hK_
        (try simp only [Act.put, List.setIfInBounds_toArray, List.set_cons_zero, List.set_cons_succ])
        refine rd2 4 6 (fun K_ hK_ => ?_) fun K_ hK_ => ?_
        · refine step_appZ 1 (by omega) (by rfl) _ _ _ (by rfl) (w.heap.size) 9 i0 _ 16 Tryz.underlying42 hi hz hsz hby rfl (.slice (some ⟨V.heap.size, 0, none⟩) 0 0) 0 [] (by rfl) OW1 (some p) k c (tcl (ls.take k)) (by rfl) (IsTexts.srcTake (RR.out.below TextE.stays HB1 (Nat.le_refl _)) (by omega)) (by first | exact tcl_one _ | simp [Value.oneCell']) (by unfold maxLen; omega) (by omega) HB1.size ?_
          intro v2 V2 OW2 G2
          have HB2 := HB1.trans (own_below OW1 G2 (Nat.le_refl _) HB1.size)
          refine hK_.out _ _ trivial fun hS_ => ?_
          clear hK_
          (try simp only [Act.put, List.setIfInBounds_toArray, List.set_cons_zero, List.set_cons_succ])
          refine rd1 6 fun K_ hK_ => ?_
          go_simp
          obtain ⟨V3, hV3⟩ : ∃ X, V2.alloc (.cells #[.string s] 9) = X := ⟨_, rfl⟩
          have HB3 : Below w.heap.size w V3 := by rw [← hV3]; exact HB2.alloc HB2.size _
          have Z3 : V2.heap.size + 1 ≤ V3.heap.size := by rw [← hV3]; simp
          have TM3 : Blk V3 (V2.heap.size) 9 #[.string s] := by rw [← hV3]; exact Blk.new V2 _ _
          have OW3 : V3.ownsRow w.heap.size 9 1 v2 (0 + k) ([] ++ (tcl (ls.take k))) := by rw [← hV3]; exact OW2.alloc _
          rw [hV3]; clear hV3
          refine hK_.out _ _ trivial fun hS_ => ?_
          clear hK_
          (try simp only [Act.put, List.setIfInBounds_toArray, List.set_cons_zero, List.set_cons_succ])
          refine rd0 7 fun K_ hK_ => ?_
          refine step_appZ 1 (by omega) (by rfl) _ _ _ (by rfl) (w.heap.size) 9 i0 _ 16 Tryz.underlying42 hi hz hsz hby rfl v2 (0 + k) ([] ++ (tcl (ls.take k))) (by rfl) OW3 (some ⟨V2.heap.size, 0, none⟩) 1 1 [.string s] (by rfl) (srcOne1 _ _ _ _ TM3) (by first | exact tcl_one _ | simp [Value.oneCell']) (by unfold maxLen; omega) (by omega) HB3.size ?_
          intro v4 V4 OW4 G4
          have HB4 := HB3.trans (own_below OW3 G4 (Nat.le_refl _) HB3.size)
          refine hK_.out _ _ trivial fun hS_ => ?_
          clear hK_
          (try simp only [Act.put, List.setIfInBounds_toArray, List.set_cons_zero, List.set_cons_succ])
          refine rd0 11 fun K_ hK_ => ?_
          refine step_appZ 1 (by omega) (by rfl) _ _ _ (by rfl) (w.heap.size) 9 i0 _ 16 Tryz.underlying42 hi hz hsz hby rfl v4 (0 + k + 1) ([] ++ (tcl (ls.take k)) ++ [.string s]) (by rfl) OW4 QK 0 (c - k) (tcl (ls.drop k)) (by rfl) (SD.out _ HB4) (by first | exact tcl_one _ | simp [Value.oneCell']) (by unfold maxLen; omega) (by omega) HB4.size ?_
          intro v5 V5 OW5 G5
          have HB5 := HB4.trans (own_below OW4 G5 (Nat.le_refl _) HB4.size)
          refine hK_.out _ _ trivial fun hS_ => ?_
          clear hK_
          refine tk 12 v5 hS_ ?_
          refine wpAnyH_done (by kernel_rfl) ?_ _
          obtain ⟨p9, c9, e9, i9⟩ := put_texts PD.out OW5 (by omega) hL0
          subst e9
          go_wp2
          go_ret; exact ⟨_, _, rfl, i9, HB5⟩
        · rw [if_pos (by rfl)]
          go_simp
          obtain ⟨V6, hV6⟩ : ∃ X, V1.alloc (.cells #[.string s] 9) = X := ⟨_, rfl⟩
          have HB6 : Below w.heap.size w V6 := by rw [← hV6]; exact HB1.alloc HB1.size _
          have Z6 : V1.heap.size + 1 ≤ V6.heap.size := by rw [← hV6]; simp
          have TM6 : Blk V6 (V1.heap.size) 9 #[.string s] := by rw [← hV6]; exact Blk.new V1 _ _
          have OW6 : V6.ownsRow w.heap.size 9 1 (.slice (some ⟨V.heap.size, 0, none⟩) 0 0) 0 [] := by rw [← hV6]; exact OW1.alloc _
          rw [hV6]; clear hV6
          refine hK_.out _ _ trivial fun hS_ => ?_
          clear hK_
          (try simp only [Act.put, List.setIfInBounds_toArray, List.set_cons_zero, List.set_cons_succ])
          refine rd0 4 fun K_ hK_ => ?_
          refine step_appZ 1 (by omega) (by rfl) _ _ _ (by rfl) (w.heap.size) 9 i0 _ 16 Tryz.underlying42 hi hz hsz hby rfl (.slice (some ⟨V.heap.size, 0, none⟩) 0 0) 0 [] (by rfl) OW6 (some p) k c (tcl (ls.take k)) (by rfl) (IsTexts.srcTake (RR.out.below TextE.stays HB6 (Nat.le_refl _)) (by omega)) (by first | exact tcl_one _ | simp [Value.oneCell']) (by unfold maxLen; omega) (by omega) HB6.size ?_
          intro v7 V7 OW7 G7
          have HB7 := HB6.trans (own_below OW6 G7 (Nat.le_refl _) HB6.size)
          have TM7 := TM6.kept G7 (by simp [Value.ownBlock]; omega)
          refine hK_.out _ _ trivial fun hS_ => ?_
          clear hK_
          (try simp only [Act.put, List.setIfInBounds_toArray, List.set_cons_zero, List.set_cons_succ])
          refine rd0 7 fun K_ hK_ => ?_
          refine step_appZ 1 (by omega) (by rfl) _ _ _ (by rfl) (w.heap.size) 9 i0 _ 16 Tryz.underlying42 hi hz hsz hby rfl v7 (0 + k) ([] ++ (tcl (ls.take k))) (by rfl) OW7 (some ⟨V1.heap.size, 0, none⟩) 1 1 [.string s] (by rfl) (srcOne1 _ _ _ _ TM7) (by first | exact tcl_one _ | simp [Value.oneCell']) (by unfold maxLen; omega) (by omega) HB7.size ?_
          intro v8 V8 OW8 G8
          have HB8 := HB7.trans (own_below OW7 G8 (Nat.le_refl _) HB7.size)
          refine hK_.out _ _ trivial fun hS_ => ?_
          clear hK_
          (try simp only [Act.put, List.setIfInBounds_toArray, List.set_cons_zero, List.set_cons_succ])
          refine rd0 11 fun K_ hK_ => ?_
          refine step_appZ 1 (by omega) (by rfl) _ _ _ (by rfl) (w.heap.size) 9 i0 _ 16 Tryz.underlying42 hi hz hsz hby rfl v8 (0 + k + 1) ([] ++ (tcl (ls.take k)) ++ [.string s]) (by rfl) OW8 QK 0 (c - k) (tcl (ls.drop k)) (by rfl) (SD.out _ HB8) (by first | exact tcl_one _ | simp [Value.oneCell']) (by unfold maxLen; omega) (by omega) HB8.size ?_
          intro v9 V9 OW9 G9
          have HB9 := HB8.trans (own_below OW8 G9 (Nat.le_refl _) HB8.size)
          refine hK_.out _ _ trivial fun hS_ => ?_
          clear hK_
          refine tk 12 v9 hS_ ?_
          refine wpAnyH_done (by kernel_rfl) ?_ _
          obtain ⟨p9, c9, e9, i9⟩ := put_texts PD.out OW9 (by omega) hL0
          subst e9
          go_wp2
          go_ret; exact ⟨_, _, rfl, i9, HB9⟩
      · rw [if_pos (by rfl)]
        go_simp
        obtain ⟨V10, hV10⟩ : ∃ X, V.alloc (.cells #[.string s] 9) = X := ⟨_, rfl⟩
        have HB10 : Below w.heap.size w V10 := by rw [← hV10]; exact HBV.alloc HBV.size _
        have Z10 : V.heap.size + 1 ≤ V10.heap.size := by rw [← hV10]; simp
        have TM10 : Blk V10 (V.heap.size) 9 #[.string s] := by rw [← hV10]; exact Blk.new V _ _
        rw [hV10]; clear hV10
        refine hK_.out _ _ trivial fun hS_ => ?_
        clear hK_
        (try simp only [Act.put, List.setIfInBounds_toArray, List.set_cons_zero, List.set_cons_succ])
        refine rd1 0 fun K_ hK_ => ?_
        go_simp
        obtain ⟨V11, hV11⟩ : ∃ X, V10.alloc (.cells #[] 9) = X := ⟨_, rfl⟩
        have HB11 : Below w.heap.size w V11 := by rw [← hV11]; exact HB10.alloc HB10.size _
        have Z11 : V10.heap.size + 1 ≤ V11.heap.size := by rw [← hV11]; simp
        have OW11 : V11.ownsRow w.heap.size 9 1 (.slice (some ⟨V10.heap.size, 0, none⟩) 0 0) 0 [] := by rw [← hV11]; exact ⟨rfl, .inr ⟨V10.heap.size, 0, #[], rfl, HB10.size, heap_alloc_new V10 _, Nat.le_refl _, by unfold maxLen; omega, rfl, rfl⟩⟩
        have TM11 : Blk V11 (V.heap.size) 9 #[.string s] := by rw [← hV11]; exact TM10.alloc _
        rw [hV11]; clear hV11
        refine hK_.out _ _ trivial fun hS_ => ?_
        clear hK_
        (try simp only [Act.put, List.setIfInBounds_toArray, List.set_cons_zero, List.set_cons_succ])
        refine rd0 4 fun K_ hK_ => ?_
        refine step_appZ 1 (by omega) (by rfl) _ _ _ (by rfl) (w.heap.size) 9 i0 _ 16 Tryz.underlying42 hi hz hsz hby rfl (.slice (some ⟨V10.heap.size, 0, none⟩) 0 0) 0 [] (by rfl) OW11 (some p) k c (tcl (ls.take k)) (by rfl) (IsTexts.srcTake (RR.out.below TextE.stays HB11 (Nat.le_refl _)) (by omega)) (by first | exact tcl_one _ | simp [Value.oneCell']) (by unfold maxLen; omega) (by omega) HB11.size ?_
        intro v12 V12 OW12 G12
        have HB12 := HB11.trans (own_below OW11 G12 (Nat.le_refl _) HB11.size)
        have TM12 := TM11.kept G12 (by simp [Value.ownBlock]; omega)
        refine hK_.out _ _ trivial fun hS_ => ?_
        clear hK_
        (try simp only [Act.put, List.setIfInBounds_toArray, List.set_cons_zero, List.set_cons_succ])
        refine rd0 7 fun K_ hK_ => ?_
        refine step_appZ 1 (by omega) (by rfl) _ _ _ (by rfl) (w.heap.size) 9 i0 _ 16 Tryz.underlying42 hi hz hsz hby rfl v12 (0 + k) ([] ++ (tcl (ls.take k))) (by rfl) OW12 (some ⟨V.heap.size, 0, none⟩) 1 1 [.string s] (by rfl) (srcOne1 _ _ _ _ TM12) (by first | exact tcl_one _ | simp [Value.oneCell']) (by unfold maxLen; omega) (by omega) HB12.size ?_
        intro v13 V13 OW13 G13
        have HB13 := HB12.trans (own_below OW12 G13 (Nat.le_refl _) HB12.size)
        refine hK_.out _ _ trivial fun hS_ => ?_
        clear hK_
        (try simp only [Act.put, List.setIfInBounds_toArray, List.set_cons_zero, List.set_cons_succ])
        refine rd0 11 fun K_ hK_ => ?_
        refine step_appZ 1 (by omega) (by rfl) _ _ _ (by rfl) (w.heap.size) 9 i0 _ 16 Tryz.underlying42 hi hz hsz hby rfl v13 (0 + k + 1) ([] ++ (tcl (ls.take k)) ++ [.string s]) (by rfl) OW13 QK 0 (c - k) (tcl (ls.drop k)) (by rfl) (SD.out _ HB13) (by first | exact tcl_one _ | simp [Value.oneCell']) (by unfold maxLen; omega) (by omega) HB13.size ?_
        intro v14 V14 OW14 G14
        have HB14 := HB13.trans (own_below OW13 G14 (Nat.le_refl _) HB13.size)
        refine hK_.out _ _ trivial fun hS_ => ?_
        clear hK_
        refine tk 12 v14 hS_ ?_
        refine wpAnyH_done (by kernel_rfl) ?_ _
        obtain ⟨p9, c9, e9, i9⟩ := put_texts PD.out OW14 (by omega) hL0
        subst e9
        go_wp2
        go_ret; exact ⟨_, _, rfl, i9, HB14⟩

end Go.Proofs.YtcigljngiemdeaaGreat
