/-
  Texts of one claim, put together.
-/
import Derived.Test.YtogonjkklioaaaaGreatDoorLg5
set_option maxRecDepth 100000
set_option maxHeartbeats 8000000
namespace Go.Proofs.YtogonjkklioaaaaGreatDoor
open Go.RowKit
def TextE (w : World) (_lo _hi : Nat) (p : Addr) (s : ByteArray) : Prop := w.cell? p = some (.string s)
theorem TextE.stays : zqg TextE := by
  intro w w' lo hi lo' hi' p s h hp1 hp2 hk hl hh; exact (hk p hp1 hp2).trans h
abbrev IsTexts := IsSeq 1 TextE
def SrcZ (sz : Nat) (w : World) (A : Option Addr) (m : Nat) (news : List Value) : Prop :=
  news.length = m * sz ∧ (∀ ad, A = some ad → ∀ j u, news[j]? = some u → w.cell? (ad.add j) = some u) ∧ (A = none → m = 0)
section
variable {P : Program} {w : World}
theorem zaq (sz : Nat) (hsz0 : 0 < sz) {ops : Array Oper} {o : Oper} {a : Act} {K : Act → World → Prop} {Q : Exit → Act → World → Prop} {E : Prop} (hgd : o.guard = none) (s x : Operand) (t : TypeId)
    (ho : o.op = .call { callee := .builtin .append, args := #[s, x], argTypes := #[t, t] })
    (base : Nat) (e : TypeId) (i : TypeInfo) (z : Value) (bytes : Nat) (ht : P.underlying t = some (.slice e)) (hi : P.info? e = some i) (hz : i.zero = some z)
    (hsize : i.size = sz) (hby : i.bytes = bytes) (hzs : z.cells.size = sz)
    (v : Value) (n : Nat) (xs : List Value) (hs : a.eval s = v) (hown : w.ownsRow base e sz v n xs)
    (A : Option Addr) (m c : Nat) (news : List Value) (hx : a.eval x = .slice A m c) (hsrc : SrcZ sz w A m news) (h1 : ∀ u ∈ news, u.oneCell' = true)
    (h63 : n + m ≤ maxLen) (hbytes : (n + m) * bytes ≤ 140737488355328) (hbase : base ≤ w.heap.size)
    (h : ∀ v' w', w'.ownsRow base e sz v' (n + m) (xs ++ news) → w.grownBy w' v.ownBlock → K (a.put o.dst v') w') :
    if Region.wanted o (yielded ops a.tmps) = true then Oper.wp P o a w K Q else E := by
  have hw : Region.wanted o (yielded ops a.tmps) = true := by simp [Region.wanted, hgd]
  rw [if_pos hw]; obtain ⟨hl, hc, hn⟩ := hsrc
  cases A with
  | none =>
    have hm := hn rfl; subst hm; have a2 : news = [] := List.eq_nil_of_length_eq_zero (by simpa using hl); subst a2; have a3 := zgv (P := P) base t o.type e i sz ht hi v n c xs hown; unfold Oper.wp execOp; simp only [ho, resolve, invoke, builtin, Sem.run_bind, Sem.run_pure, Result.andThen_ok, List.map_toArray, List.map_cons, List.map_nil, hs, hx, a3]
    exact h v w (by simpa using hown) (World.grownBy.refl w _)
  | some ad => exact wp_append_own w s x t ho base e i z sz bytes ht hi hz hsize hby hzs hsz0 v n xs hs hown ad m c news hx hl (hc ad rfl) h1 h63 hbytes hbase fun v' w' h2 h3 _ => h v' w' h2 h3
end
def tcl (ls : List ByteArray) : List Value := ls.map Value.string
theorem IsTexts.cells {w : World} {lo hi n c : Nat} {p : Addr} {ls : List ByteArray} (h : IsTexts w lo hi (some p) n c ls) : ∀ j u, (tcl ls)[j]? = some u → w.cell? (p.add j) = some u := by
  obtain ⟨h1, h2, h3, h4⟩ := h; intro j u hj; unfold tcl at hj; rw [List.getElem?_map] at hj
  cases hs : ls[j]? with
  | none => rw [hs] at hj; cases hj
  | some s =>
    rw [hs] at hj; injection hj with hj; subst hj; have hjl := (List.getElem?_eq_some_iff.1 hs).1; obtain ⟨p', hp, _, _, he⟩ := h4 qaa; injection hp with hp; subst hp; have := he j s hs
    rwa [Nat.mul_one] at this
theorem IsTexts.srcTake {w : World} {lo hi n c k : Nat} {p : Addr} {ls : List ByteArray} (h : IsTexts w lo hi (some p) n c ls) (hk : k ≤ n) : SrcZ 1 w (some p) k (tcl (ls.take k)) := by
  refine ⟨by unfold tcl; rw [List.length_map, List.length_take, h.1, Nat.min_eq_left hk, Nat.mul_one], fun ad hA j u hu => ?_, fun hA => by cases hA⟩; injection hA with hA; subst hA; refine h.cells j u ?_; unfold tcl at hu ⊢; rw [List.map_take, List.getElem?_take] at hu; split at hu
  · exact hu
  · cases hu
theorem IsTexts.srcDrop {w : World} {lo hi n c k : Nat} {p : Addr} {ls : List ByteArray} (h : IsTexts w lo hi (some p) n c ls) (hk : k ≤ n) {q : Option Addr} (hq : q = if c = k then some p else some (p.add k)) : SrcZ 1 w q (n - k) (tcl (ls.drop k)) := by
  have hnc := h.2.1; have hl := h.1; subst hq; by_cases hc : c = k
  · have hn : n - k = 0 := qaa
    rw [hn, List.drop_eq_nil_of_le qaa]; exact ⟨rfl, fun ad _ j u hu => by simp [tcl] at hu, fun _ => rfl⟩
  · rw [if_neg hc]
    refine ⟨by unfold tcl; rw [List.length_map, List.length_drop, hl, Nat.mul_one], fun ad hA j u hu => ?_, fun hA => by cases hA⟩; injection hA with hA; subst hA; unfold tcl at hu; rw [List.map_drop, List.getElem?_drop] at hu; rw [zlr]; exact h.cells _ u hu
theorem zga (W : World) (g : Nat) (t : TypeId) (x : Value) (h : Blk W g t #[x]) : SrcZ 1 W (some ⟨g, 0, none⟩) 1 [x] := by
  refine ⟨rfl, fun ad hA j u hu => ?_, fun hA => by cases hA⟩; injection hA with hA; subst hA; have a0 : ∀ j, (⟨g, 0, none⟩ : Addr).add j = ⟨g, j, none⟩ := fun j => by unfold Addr.add; split <;> simp_all
  rw [a0, h.cell]; simpa using hu
theorem tcl_one (ls : List ByteArray) : ∀ u ∈ tcl ls, u.oneCell' = true := by
  intro u hu; obtain ⟨s, _, rfl⟩ := List.mem_map.1 hu; rfl
theorem znp {W : World} {base n : Nat} {v : Value} {ls : List ByteArray} (h : W.ownsRow base 9 1 v n (tcl ls)) (h0 : 0 < n) {lo : Nat} (hlo : lo ≤ base) : ∃ p c, v = .slice (some p) ls.length c ∧ IsTexts W lo W.heap.size (some p) ls.length c ls := by
  have hn : n = ls.length := by have := h.1; unfold tcl at this; rw [List.length_map] at this; omega
  subst hn; rcases h.2 with ⟨_, hz⟩ | ⟨g, cap, cur, rfl, hbg, hgb, hle, hcap, hsz, htk⟩
  · omega
  · have hlt := (Array.getElem?_eq_some_iff.1 hgb).1
    refine ⟨_, cap, rfl, rfl, hle, hcap, fun _ => ⟨_, rfl, by show lo ≤ g; omega, hlt, fun i s hi => ?_⟩⟩; have hc := h.cells (g := g) rfl i (.string s) (by unfold tcl; rw [List.getElem?_map, hi]; rfl)
    rwa [Nat.mul_one]
def ltT (s t : ByteArray) : Bool := Op.bytesLess t.toList s.toList
def putT (ls : List ByteArray) (s : ByteArray) : List ByteArray := if (ls.dropWhile (ltT s)).head? = some s then ls else ls.takeWhile (ltT s) ++ s :: ls.dropWhile (ltT s)
theorem putT_cut : ∀ {ls : List ByteArray} {s : ByteArray} {k : Nat}, k ≤ ls.length → (∀ j t, j < k → ls[j]? = some t → ltT s t = true) → (∀ t, ls[k]? = some t → ltT s t = false) → ls.takeWhile (ltT s) = ls.take k ∧ ls.dropWhile (ltT s) = ls.drop k
  | [], s, k, hk, _, _ => by
    have : k = 0 := by simpa using hk
    subst this; exact ⟨rfl, rfl⟩
  | t :: ls, s, 0, _, _, h => by
    have h0 : ltT s t = false := h t rfl
    rw [List.takeWhile_cons, List.dropWhile_cons, h0]; exact ⟨rfl, rfl⟩
  | t :: ls, s, k + 1, hk, hl, h => by
    have h0 : ltT s t = true := hl 0 t qaa rfl; have ih := putT_cut (ls := ls) (s := s) (k := k) (by simpa using hk) (fun j u hj hu => hl (j + 1) u qaa hu) (fun u hu => h u hu); rw [List.takeWhile_cons, List.dropWhile_cons, h0]; exact ⟨by simp [ih.1], by simp [ih.2]⟩
def zqf (L0 : Nat) (ls : List ByteArray) (w : World) (e : Ending) (w' : World) : Prop := ∃ (p : Addr) (c : Nat), e = .returned (.slice (some p) ls.length c) ∧ IsTexts w' L0 w'.heap.size (some p) ls.length c ls ∧ Below w.heap.size w w'
theorem Tryz.infoText : (Tryz.prog.info? 9).map (fun i => (i.zero, i.size, i.bytes)) = some (some (.string ByteArray.empty), 1, 16) := by kernel_rfl
theorem zob {W : World} {base k m : Nat} {v : Value} {ls : List ByteArray} {s : ByteArray} {P : List ByteArray} (hP : ls.take k ++ s :: ls.drop k = P) (h : W.ownsRow base 9 1 v (0 + k + 1 + m) ([] ++ tcl (ls.take k) ++ [.string s] ++ tcl (ls.drop k))) (hk : 0 < 0 + k + 1 + m) {lo : Nat} (hlo : lo ≤ base) :
    ∃ p c, v = .slice (some p) P.length c ∧ IsTexts W lo W.heap.size (some p) P.length c P := by
  have e : [] ++ tcl (ls.take k) ++ [.string s] ++ tcl (ls.drop k) = tcl P := by rw [← hP]; unfold tcl; simp
  rw [e] at h; exact znp h hk hlo
theorem ZTexts1 {p : Prop} (h : p := by
  intro v5 V5 OW5 G5; have HB5 := HB4.trans (zam OW4 G5 (nl _) HB4.size); refine hK_.out _ _ trivial fun hS_ => ?_; clear hK_; refine tk 12 v5 hS_ ?_; refine wpAnyH_done qab ?_ _; obtain ⟨p9, c9, e9, i9⟩ := zob PD.out OW5 qaa hL0; subst e9; go_wp2; go_ret; exact ⟨_, _, rfl, i9, HB5⟩) : p := h
theorem ZTexts2 {p : Prop} (h : p := by
  intro v9 V9 OW9 G9; have HB9 := HB8.trans (zam OW8 G9 (nl _) HB8.size); refine hK_.out _ _ trivial fun hS_ => ?_; clear hK_; refine tk 12 v9 hS_ ?_; refine wpAnyH_done qab ?_ _; obtain ⟨p9, c9, e9, i9⟩ := zob PD.out OW9 qaa hL0; subst e9; go_wp2; go_ret; exact ⟨_, _, rfl, i9, HB9⟩) : p := h
theorem ZTexts0 {p : Prop} (h : p := by
  intro v14 V14 OW14 G14; have HB14 := HB13.trans (zam OW13 G14 (nl _) HB13.size); refine hK_.out _ _ trivial fun hS_ => ?_; clear hK_; refine tk 12 v14 hS_ ?_; refine wpAnyH_done qab ?_ _; obtain ⟨p9, c9, e9, i9⟩ := zob PD.out OW14 qaa hL0; subst e9; go_wp2; go_ret; exact ⟨_, _, rfl, i9, HB14⟩) : p := h
theorem l2Put_any (p : Addr) (n c : Nat) (ls : List ByteArray) (s : ByteArray) (w : World) (L0 : Nat) (hL0 : L0 ≤ w.heap.size) (h : IsTexts w L0 w.heap.size (some p) n c ls) (hmax : n ≤ 1048576) :
    Calls Tryz.prog 184 #[.slice (some p) n c, .string s] w (zqf L0 (putT ls s) w) := by
  have RR := hid h; have hnc := h.2.1; have d4 := h.2.2.1; have HL := hid h.1; unfold maxLen at d4; clear h; obtain ⟨i0, hi, hz, hsz, hby⟩ := info_parts Tryz.infoText; go_enter Tryz.func184, Tryz.ntmps184; go_wp2; go_loopw [5] (fun i wr => ∃ k : Nat, k ≤ n ∧ i = .int .i64 (k : Int) ∧ (∀ j t, j < k → ls[j]? = some t → ltT s t = true) ∧ Below w.heap.size w wr) (fun i _ => n - (intOf i).toNat)
  case atStart => exact ⟨0, Nat.zero_le _, rfl, fun j t hj => by omega, Below.refl _ _⟩
  case round =>
    obtain ⟨k, hkn, rfl, c3, hb⟩ := hrel; have b9 := hid c3; clear c3; by_cases hlt : k < n
    · have e7 : (k : Int) < (n : Int) := qaa
      obtain ⟨p', t, hp, -, -, hg, hE⟩ := (RR.out.below TextE.stays hb (nl _)).at_ hlt; injection hp with hp; subst hp; have c1 : wr.cell? (p.add k) = some (.string t) := qdj; have HG := hid hg; clear hg hE; cases hb1 : Op.bytesLess t.toList s.toList
      · have a5 := hid (putT_cut (ls := ls) (s := s) (k := k) (by rw [HL.out]; exact hkn) b9.out (fun u hu => by rw [HG.out] at hu; injection hu with hu; subst hu; exact hb1))
        cases he : (t.toList == s.toList)
        · have PD := hid (show ls.take k ++ s :: ls.drop k = putT ls s from by
            unfold putT; rw [a5.out.1, a5.out.2, List.head?_drop, HG.out, if_neg]; intro e; injection e with e; subst e; simp at he)
          go_wp2; have HBV : Below w.heap.size w wr.drew := hb.drew; have d7 : k ≤ c := qaa; have c7 : (k : Int) ≤ (c : Int) := qaa; have c0 : (k : Int) ≤ (n : Int) := qaa; obtain ⟨QK, b5⟩ : ∃ q, (if c = k then some p else some (p.add k)) = q := ⟨_, rfl⟩; have SD : Hid (∀ W, Below w.heap.size w W → SrcZ 1 W QK (n - k) (tcl (ls.drop k))) := hid (fun W hb => by have h := IsTexts.srcDrop (RR.out.below TextE.stays hb (nl _)) hkn b5.symm; exact h); obtain ⟨V, hV⟩ : ∃ V, wr.drew = V := ⟨_, rfl⟩; rw [hV] at HBV; refine wp_region_held_drew (S := fun _ => True) qab trivial ?_; rw [hV]; intro hS_; refine tk 1 (.slice (some p) n c) hS_ ?_
          refine tk 2 (.int .i64 (k : Int)) hS_ ?_; refine tk 3 (.slice (some p) k c) hS_ ?_; refine tk 5 (.string s) hS_ ?_; refine tk 8 (.slice (some p) n c) hS_ ?_; refine tk 9 (.int .i64 (k : Int)) hS_ ?_; refine tk 10 (.slice QK (n - k) (c - k)) hS_ ?_; refine rd2 0 6 (fun K_ hK_ => ?_) fun K_ hK_ => ?_
          · rw [if_pos qad]
            go_simp; obtain ⟨V1, hV1⟩ : ∃ X, V.alloc (.cells #[] 9) = X := ⟨_, rfl⟩; have HB1 : Below w.heap.size w V1 := qcy; have Z1 : V.heap.size + 1 ≤ V1.heap.size := by rw [← hV1]; simp
            have OW1 : V1.ownsRow w.heap.size 9 1 (.slice (some ⟨V.heap.size, 0, none⟩) 0 0) 0 [] := by rw [← hV1]; exact ⟨rfl, .inr ⟨V.heap.size, 0, #[], rfl, HBV.size, heap_alloc_new V _, nl _, by unfold maxLen; omega, rfl, rfl⟩⟩
            rw [hV1]; clear hV1; refine hK_.out _ _ trivial fun hS_ => ?_; clear hK_; refine rd2 4 6 (fun K_ hK_ => ?_) fun K_ hK_ => ?_
            · refine zaq 1 qaa qad _ _ _ qad (w.heap.size) 9 i0 _ 16 Tryz.underlying71 hi hz hsz hby rfl (.slice (some ⟨V.heap.size, 0, none⟩) 0 0) 0 [] qad OW1 (some p) k c (tcl (ls.take k)) qad (IsTexts.srcTake (RR.out.below TextE.stays HB1 (nl _)) qaa) qap qaf qaa HB1.size ?_
              intro v2 V2 OW2 G2; have HB2 := HB1.trans (zam OW1 G2 (nl _) HB1.size); refine hK_.out _ _ trivial fun hS_ => ?_; clear hK_; refine rd1 6 fun K_ hK_ => ?_; go_simp; obtain ⟨V3, hV3⟩ : ∃ X, V2.alloc (.cells #[.string s] 9) = X := ⟨_, rfl⟩; have HB3 : Below w.heap.size w V3 := qdq; have Z3 : V2.heap.size + 1 ≤ V3.heap.size := by rw [← hV3]; simp
              have b6 : Blk V3 (V2.heap.size) 9 #[.string s] := qea; have b3 : V3.ownsRow w.heap.size 9 1 v2 (0 + k) ([] ++ (tcl (ls.take k))) := qeh; rw [hV3]; clear hV3; refine hK_.out _ _ trivial fun hS_ => ?_; clear hK_; refine rd0 7 fun K_ hK_ => ?_; refine zaq 1 qaa qad _ _ _ qad (w.heap.size) 9 i0 _ 16 Tryz.underlying71 hi hz hsz hby rfl v2 (0 + k) ([] ++ (tcl (ls.take k))) qad b3 (some ⟨V2.heap.size, 0, none⟩) 1 1 [.string s] qad (zga _ _ _ _ b6) qap qaf qaa HB3.size ?_; intro v4 V4 OW4 G4; have HB4 := HB3.trans (zam b3 G4 (nl _) HB3.size); refine hK_.out _ _ trivial fun hS_ => ?_
              clear hK_; refine rd0 11 fun K_ hK_ => ?_; refine zaq 1 qaa qad _ _ _ qad (w.heap.size) 9 i0 _ 16 Tryz.underlying71 hi hz hsz hby rfl v4 (0 + k + 1) ([] ++ (tcl (ls.take k)) ++ [.string s]) qad OW4 QK (n - k) (c - k) (tcl (ls.drop k)) qad (SD.out _ HB4) qap qaf qaa HB4.size ?_; exact ZTexts1
            · rw [if_pos qad]
              go_simp; obtain ⟨V6, hV6⟩ : ∃ X, V1.alloc (.cells #[.string s] 9) = X := ⟨_, rfl⟩; have HB6 : Below w.heap.size w V6 := qdr; have Z6 : V1.heap.size + 1 ≤ V6.heap.size := by rw [← hV6]; simp
              have b7 : Blk V6 (V1.heap.size) 9 #[.string s] := qeb; have b4 : V6.ownsRow w.heap.size 9 1 (.slice (some ⟨V.heap.size, 0, none⟩) 0 0) 0 [] := qei; rw [hV6]; clear hV6; refine hK_.out _ _ trivial fun hS_ => ?_; clear hK_; refine rd0 4 fun K_ hK_ => ?_; refine zaq 1 qaa qad _ _ _ qad (w.heap.size) 9 i0 _ 16 Tryz.underlying71 hi hz hsz hby rfl (.slice (some ⟨V.heap.size, 0, none⟩) 0 0) 0 [] qad b4 (some p) k c (tcl (ls.take k)) qad (IsTexts.srcTake (RR.out.below TextE.stays HB6 (nl _)) qaa) qap qaf qaa HB6.size ?_; intro v7 V7 OW7 G7; have HB7 := HB6.trans (zam b4 G7 (nl _) HB6.size)
              have TM7 := b7.kept G7 qbu; refine hK_.out _ _ trivial fun hS_ => ?_; clear hK_; refine rd0 7 fun K_ hK_ => ?_; refine zaq 1 qaa qad _ _ _ qad (w.heap.size) 9 i0 _ 16 Tryz.underlying71 hi hz hsz hby rfl v7 (0 + k) ([] ++ (tcl (ls.take k))) qad OW7 (some ⟨V1.heap.size, 0, none⟩) 1 1 [.string s] qad (zga _ _ _ _ TM7) qap qaf qaa HB7.size ?_; intro v8 V8 OW8 G8; have HB8 := HB7.trans (zam OW7 G8 (nl _) HB7.size); refine hK_.out _ _ trivial fun hS_ => ?_; clear hK_; refine rd0 11 fun K_ hK_ => ?_; refine zaq 1 qaa qad _ _ _ qad (w.heap.size) 9 i0 _ 16 Tryz.underlying71 hi hz hsz hby rfl v8 (0 + k + 1) ([] ++ (tcl (ls.take k)) ++ [.string s]) qad OW8 QK (n - k) (c - k) (tcl (ls.drop k)) qad (SD.out _ HB8) qap qaf qaa HB8.size ?_
              exact ZTexts2
          · rw [if_pos qad]
            go_simp; obtain ⟨a2, hV10⟩ : ∃ X, V.alloc (.cells #[.string s] 9) = X := ⟨_, rfl⟩; have HB10 : Below w.heap.size w a2 := qdo; have e6 : V.heap.size + 1 ≤ a2.heap.size := by rw [← hV10]; simp
            have TM10 : Blk a2 (V.heap.size) 9 #[.string s] := qec; rw [hV10]; clear hV10; refine hK_.out _ _ trivial fun hS_ => ?_; clear hK_; refine rd1 0 fun K_ hK_ => ?_; go_simp; obtain ⟨a7, hV11⟩ : ∃ X, a2.alloc (.cells #[] 9) = X := ⟨_, rfl⟩; have a3 : Below w.heap.size w a7 := qdk; have d9 : a2.heap.size + 1 ≤ a7.heap.size := by rw [← hV11]; simp
            have a6 : a7.ownsRow w.heap.size 9 1 (.slice (some ⟨a2.heap.size, 0, none⟩) 0 0) 0 [] := by rw [← hV11]; exact ⟨rfl, .inr ⟨a2.heap.size, 0, #[], rfl, HB10.size, heap_alloc_new a2 _, nl _, by unfold maxLen; omega, rfl, rfl⟩⟩
            have a8 : Blk a7 (V.heap.size) 9 #[.string s] := qed; rw [hV11]; clear hV11; refine hK_.out _ _ trivial fun hS_ => ?_; clear hK_; refine rd0 4 fun K_ hK_ => ?_; refine zaq 1 qaa qad _ _ _ qad (w.heap.size) 9 i0 _ 16 Tryz.underlying71 hi hz hsz hby rfl (.slice (some ⟨a2.heap.size, 0, none⟩) 0 0) 0 [] qad a6 (some p) k c (tcl (ls.take k)) qad (IsTexts.srcTake (RR.out.below TextE.stays a3 (nl _)) qaa) qap qaf qaa a3.size ?_; intro v12 V12 OW12 G12; have a4 := a3.trans (zam a6 G12 (nl _) a3.size); have a9 := a8.kept G12 qbu; refine hK_.out _ _ trivial fun hS_ => ?_; clear hK_
            refine rd0 7 fun K_ hK_ => ?_; refine zaq 1 qaa qad _ _ _ qad (w.heap.size) 9 i0 _ 16 Tryz.underlying71 hi hz hsz hby rfl v12 (0 + k) ([] ++ (tcl (ls.take k))) qad OW12 (some ⟨V.heap.size, 0, none⟩) 1 1 [.string s] qad (zga _ _ _ _ a9) qap qaf qaa a4.size ?_; intro v13 V13 OW13 G13; have HB13 := a4.trans (zam OW12 G13 (nl _) a4.size); refine hK_.out _ _ trivial fun hS_ => ?_; clear hK_; refine rd0 11 fun K_ hK_ => ?_; refine zaq 1 qaa qad _ _ _ qad (w.heap.size) 9 i0 _ 16 Tryz.underlying71 hi hz hsz hby rfl v13 (0 + k + 1) ([] ++ (tcl (ls.take k)) ++ [.string s]) qad OW13 QK (n - k) (c - k) (tcl (ls.drop k)) qad (SD.out _ HB13) qap qaf qaa HB13.size ?_
            exact ZTexts0
        · have PD := hid (show ls = putT ls s from by
            unfold putT; have e : t = s := zjd (by have := eq_of_beq he; rwa [ByteArray.toList_eq, ByteArray.toList_eq] at this); rw [a5.out.2, List.head?_drop, HG.out, e, if_pos rfl])
          go_wp2; go_ret; exact ⟨p, c, by rw [← PD.out, HL.out]; rfl, by rw [← PD.out, HL.out]; exact RR.out.up TextE.stays hb, hb⟩
      · go_wp2
        go_roundw
        case rel => exact ⟨k + 1, by omega, by go_num, fun j u hj hu => by
          by_cases e : j = k
          · subst e; rw [HG.out] at hu; injection hu with hu; subst hu; exact hb1
          · exact b9.out j u qaa hu, hb⟩
        case measure => exact qms
    · have hk2 : k = n := qaa
      subst hk2; have a5 := hid (putT_cut (ls := ls) (s := s) (k := k) (by rw [HL.out]; exact hkn) b9.out (fun u hu => by have := (List.getElem?_eq_some_iff.1 hu).1; have := HL.out; omega))
      have PD := hid (show ls.take k ++ s :: ls.drop k = putT ls s from by
        unfold putT; rw [a5.out.1, a5.out.2, List.drop_eq_nil_of_le (by rw [HL.out]; exact nl _), if_neg]; simp)
      go_wp2; have HBV : Below w.heap.size w wr.drew := hb.drew; have d7 : k ≤ c := qaa; have c7 : (k : Int) ≤ (c : Int) := qaa; have c0 : (k : Int) ≤ (k : Int) := qaa; obtain ⟨QK, b5⟩ : ∃ q, (if c = k then some p else some (p.add k)) = q := ⟨_, rfl⟩; have SD : Hid (∀ W, Below w.heap.size w W → SrcZ 1 W QK 0 (tcl (ls.drop k))) := hid (fun W hb => by have h := IsTexts.srcDrop (RR.out.below TextE.stays hb (nl _)) hkn b5.symm; rwa [Nat.sub_self] at h); obtain ⟨V, hV⟩ : ∃ V, wr.drew = V := ⟨_, rfl⟩; rw [hV] at HBV; refine wp_region_held_drew (S := fun _ => True) qab trivial ?_; rw [hV]; intro hS_; refine tk 1 (.slice (some p) k c) hS_ ?_
      refine tk 2 (.int .i64 (k : Int)) hS_ ?_; refine tk 3 (.slice (some p) k c) hS_ ?_; refine tk 5 (.string s) hS_ ?_; refine tk 8 (.slice (some p) k c) hS_ ?_; refine tk 9 (.int .i64 (k : Int)) hS_ ?_; refine tk 10 (.slice QK 0 (c - k)) hS_ ?_; refine rd2 0 6 (fun K_ hK_ => ?_) fun K_ hK_ => ?_
      · rw [if_pos qad]
        go_simp; obtain ⟨V1, hV1⟩ : ∃ X, V.alloc (.cells #[] 9) = X := ⟨_, rfl⟩; have HB1 : Below w.heap.size w V1 := qcy; have Z1 : V.heap.size + 1 ≤ V1.heap.size := by rw [← hV1]; simp
        have OW1 : V1.ownsRow w.heap.size 9 1 (.slice (some ⟨V.heap.size, 0, none⟩) 0 0) 0 [] := by rw [← hV1]; exact ⟨rfl, .inr ⟨V.heap.size, 0, #[], rfl, HBV.size, heap_alloc_new V _, nl _, by unfold maxLen; omega, rfl, rfl⟩⟩
        rw [hV1]; clear hV1; refine hK_.out _ _ trivial fun hS_ => ?_; clear hK_; refine rd2 4 6 (fun K_ hK_ => ?_) fun K_ hK_ => ?_
        · refine zaq 1 qaa qad _ _ _ qad (w.heap.size) 9 i0 _ 16 Tryz.underlying71 hi hz hsz hby rfl (.slice (some ⟨V.heap.size, 0, none⟩) 0 0) 0 [] qad OW1 (some p) k c (tcl (ls.take k)) qad (IsTexts.srcTake (RR.out.below TextE.stays HB1 (nl _)) qaa) qap qaf qaa HB1.size ?_
          intro v2 V2 OW2 G2; have HB2 := HB1.trans (zam OW1 G2 (nl _) HB1.size); refine hK_.out _ _ trivial fun hS_ => ?_; clear hK_; refine rd1 6 fun K_ hK_ => ?_; go_simp; obtain ⟨V3, hV3⟩ : ∃ X, V2.alloc (.cells #[.string s] 9) = X := ⟨_, rfl⟩; have HB3 : Below w.heap.size w V3 := qdq; have Z3 : V2.heap.size + 1 ≤ V3.heap.size := by rw [← hV3]; simp
          have b6 : Blk V3 (V2.heap.size) 9 #[.string s] := qea; have b3 : V3.ownsRow w.heap.size 9 1 v2 (0 + k) ([] ++ (tcl (ls.take k))) := qeh; rw [hV3]; clear hV3; refine hK_.out _ _ trivial fun hS_ => ?_; clear hK_; refine rd0 7 fun K_ hK_ => ?_; refine zaq 1 qaa qad _ _ _ qad (w.heap.size) 9 i0 _ 16 Tryz.underlying71 hi hz hsz hby rfl v2 (0 + k) ([] ++ (tcl (ls.take k))) qad b3 (some ⟨V2.heap.size, 0, none⟩) 1 1 [.string s] qad (zga _ _ _ _ b6) qap qaf qaa HB3.size ?_; intro v4 V4 OW4 G4; have HB4 := HB3.trans (zam b3 G4 (nl _) HB3.size); refine hK_.out _ _ trivial fun hS_ => ?_
          clear hK_; refine rd0 11 fun K_ hK_ => ?_; refine zaq 1 qaa qad _ _ _ qad (w.heap.size) 9 i0 _ 16 Tryz.underlying71 hi hz hsz hby rfl v4 (0 + k + 1) ([] ++ (tcl (ls.take k)) ++ [.string s]) qad OW4 QK 0 (c - k) (tcl (ls.drop k)) qad (SD.out _ HB4) qap qaf qaa HB4.size ?_; exact ZTexts1
        · rw [if_pos qad]
          go_simp; obtain ⟨V6, hV6⟩ : ∃ X, V1.alloc (.cells #[.string s] 9) = X := ⟨_, rfl⟩; have HB6 : Below w.heap.size w V6 := qdr; have Z6 : V1.heap.size + 1 ≤ V6.heap.size := by rw [← hV6]; simp
          have b7 : Blk V6 (V1.heap.size) 9 #[.string s] := qeb; have b4 : V6.ownsRow w.heap.size 9 1 (.slice (some ⟨V.heap.size, 0, none⟩) 0 0) 0 [] := qei; rw [hV6]; clear hV6; refine hK_.out _ _ trivial fun hS_ => ?_; clear hK_; refine rd0 4 fun K_ hK_ => ?_; refine zaq 1 qaa qad _ _ _ qad (w.heap.size) 9 i0 _ 16 Tryz.underlying71 hi hz hsz hby rfl (.slice (some ⟨V.heap.size, 0, none⟩) 0 0) 0 [] qad b4 (some p) k c (tcl (ls.take k)) qad (IsTexts.srcTake (RR.out.below TextE.stays HB6 (nl _)) qaa) qap qaf qaa HB6.size ?_; intro v7 V7 OW7 G7; have HB7 := HB6.trans (zam b4 G7 (nl _) HB6.size)
          have TM7 := b7.kept G7 qbu; refine hK_.out _ _ trivial fun hS_ => ?_; clear hK_; refine rd0 7 fun K_ hK_ => ?_; refine zaq 1 qaa qad _ _ _ qad (w.heap.size) 9 i0 _ 16 Tryz.underlying71 hi hz hsz hby rfl v7 (0 + k) ([] ++ (tcl (ls.take k))) qad OW7 (some ⟨V1.heap.size, 0, none⟩) 1 1 [.string s] qad (zga _ _ _ _ TM7) qap qaf qaa HB7.size ?_; intro v8 V8 OW8 G8; have HB8 := HB7.trans (zam OW7 G8 (nl _) HB7.size); refine hK_.out _ _ trivial fun hS_ => ?_; clear hK_; refine rd0 11 fun K_ hK_ => ?_; refine zaq 1 qaa qad _ _ _ qad (w.heap.size) 9 i0 _ 16 Tryz.underlying71 hi hz hsz hby rfl v8 (0 + k + 1) ([] ++ (tcl (ls.take k)) ++ [.string s]) qad OW8 QK 0 (c - k) (tcl (ls.drop k)) qad (SD.out _ HB8) qap qaf qaa HB8.size ?_
          exact ZTexts2
      · rw [if_pos qad]
        go_simp; obtain ⟨a2, hV10⟩ : ∃ X, V.alloc (.cells #[.string s] 9) = X := ⟨_, rfl⟩; have HB10 : Below w.heap.size w a2 := qdo; have e6 : V.heap.size + 1 ≤ a2.heap.size := by rw [← hV10]; simp
        have TM10 : Blk a2 (V.heap.size) 9 #[.string s] := qec; rw [hV10]; clear hV10; refine hK_.out _ _ trivial fun hS_ => ?_; clear hK_; refine rd1 0 fun K_ hK_ => ?_; go_simp; obtain ⟨a7, hV11⟩ : ∃ X, a2.alloc (.cells #[] 9) = X := ⟨_, rfl⟩; have a3 : Below w.heap.size w a7 := qdk; have d9 : a2.heap.size + 1 ≤ a7.heap.size := by rw [← hV11]; simp
        have a6 : a7.ownsRow w.heap.size 9 1 (.slice (some ⟨a2.heap.size, 0, none⟩) 0 0) 0 [] := by rw [← hV11]; exact ⟨rfl, .inr ⟨a2.heap.size, 0, #[], rfl, HB10.size, heap_alloc_new a2 _, nl _, by unfold maxLen; omega, rfl, rfl⟩⟩
        have a8 : Blk a7 (V.heap.size) 9 #[.string s] := qed; rw [hV11]; clear hV11; refine hK_.out _ _ trivial fun hS_ => ?_; clear hK_; refine rd0 4 fun K_ hK_ => ?_; refine zaq 1 qaa qad _ _ _ qad (w.heap.size) 9 i0 _ 16 Tryz.underlying71 hi hz hsz hby rfl (.slice (some ⟨a2.heap.size, 0, none⟩) 0 0) 0 [] qad a6 (some p) k c (tcl (ls.take k)) qad (IsTexts.srcTake (RR.out.below TextE.stays a3 (nl _)) qaa) qap qaf qaa a3.size ?_; intro v12 V12 OW12 G12; have a4 := a3.trans (zam a6 G12 (nl _) a3.size); have a9 := a8.kept G12 qbu; refine hK_.out _ _ trivial fun hS_ => ?_; clear hK_
        refine rd0 7 fun K_ hK_ => ?_; refine zaq 1 qaa qad _ _ _ qad (w.heap.size) 9 i0 _ 16 Tryz.underlying71 hi hz hsz hby rfl v12 (0 + k) ([] ++ (tcl (ls.take k))) qad OW12 (some ⟨V.heap.size, 0, none⟩) 1 1 [.string s] qad (zga _ _ _ _ a9) qap qaf qaa a4.size ?_; intro v13 V13 OW13 G13; have HB13 := a4.trans (zam OW12 G13 (nl _) a4.size); refine hK_.out _ _ trivial fun hS_ => ?_; clear hK_; refine rd0 11 fun K_ hK_ => ?_; refine zaq 1 qaa qad _ _ _ qad (w.heap.size) 9 i0 _ 16 Tryz.underlying71 hi hz hsz hby rfl v13 (0 + k + 1) ([] ++ (tcl (ls.take k)) ++ [.string s]) qad OW13 QK 0 (c - k) (tcl (ls.drop k)) qad (SD.out _ HB13) qap qaf qaa HB13.size ?_
        exact ZTexts0
end Go.Proofs.YtogonjkklioaaaaGreatDoor
