/-
  Texts of one claim, put together.
-/
import Derived.Test.YtogonjkklioaaaaGreatDoorLg24
import Derived.Test.YtogonjkklioaaaaGreatDoorLg4
namespace Go.Proofs.YtogonjkklioaaaaGreatDoor
open Go.RowKit Go.Shelf
attribute [local go_sem] Oper.semAt_some

/-- A change that was read, and where its record ends. -/
abbrev Rx := Cf × Nat
def rxE (x : Rx) : Array Value := #[.agg #[cfV x.1, cfU x.1], .int .i64 ((x.2 : Nat) : Int)]
def rxC (xs : List Rx) : List Ch := xs.map fun x => cfAt x.1

/-- What a round keeps: what lay below n₀, and two blocks. -/
def KeepsTwo (n₀ a b : Nat) (W W' : World) : Prop := Below n₀ W W' ∧ W'.heap[a]? = W.heap[a]? ∧ W'.heap[b]? = W.heap[b]?

theorem KeepsTwo.trans {n₀ a b : Nat} {A B C : World} (h : KeepsTwo n₀ a b A B) (k : KeepsTwo n₀ a b B C) : KeepsTwo n₀ a b A C := ⟨h.1.trans k.1, k.2.1.trans h.2.1, k.2.2.trans h.2.2⟩
theorem KeepsTwo.of {n₀ a b : Nat} {A B : World} (h : Below A.heap.size A B) (hn : n₀ ≤ A.heap.size) (ha : a < A.heap.size) (hb : b < A.heap.size) : KeepsTwo n₀ a b A B := ⟨h.mono hn, h.block a ha, h.block b hb⟩

/-- What holds where a record is handed over. -/
def RecPre (pre : List Rx) (x : Rx) (W0 W1 : World) : Prop := OwnCf W1 x.1 ∧ W0.heap.size ≤ x.1.lo ∧ x.1.hi ≤ W1.heap.size ∧ okC (cfAt x.1) ∧ pre.length ≤ 100000 ∧ x.2 = (logL 0 (rxC (pre ++ [x]))).length ∧ x.2 ≤ 1048576

theorem rxC_snoc (xs : List Rx) (x : Rx) : rxC (xs ++ [x]) = rxC xs ++ [cfAt x.1] := by unfold rxC; simp

theorem grownLater {w wr W : World} {R : Nat} (h : w.grownBy wr (some R)) (hb : Below wr.heap.size wr W) : w.grownBy W (some R) := grownTrans h (grownBelow hb (some R))

/-- All records were handed over; or a round stopped. -/
def RecsPost (s : ByteArray) (J Jx : List Rx → World → Prop) (R : Nat) (e : Ending) (W' : World) : Prop := (∃ v, e = .returned v) ∧
      ((∃ xs W0, LogOf s.data.toList (rxC xs) ∧ J xs W0 ∧ W0.grownBy W' (some R)) ∨ (∃ pre W0, True ∧ Jx pre W0 ∧ W0.grownBy W' (some R)))

set_option maxRecDepth 100000 in
set_option maxHeartbeats 8000000 in
theorem records1_in (n : Nat) (hn : 1 ≤ n) (l rb R n₀ : Nat) (s : ByteArray) (J Jx : List Rx → World → Prop) (W : World)
    (hY : ∀ pre x W0 W1, J pre W0 → W0.grownBy W1 (some R) → RecPre pre x W0 W1 → YieldAt Fence.wide (n - 1) Tryz.prog l (rxE x) W1 fun e W' =>
      (e = .returned (.bool true) ∧ J (pre ++ [x]) W' ∧ KeepsTwo n₀ rb R W1 W') ∨ (e = .returned (.bool false) ∧ Jx (pre ++ [x]) W' ∧ KeepsTwo n₀ rb R W1 W'))
    (hs : s.size ≤ 400000) (hb : Blk W rb 58 #[.pointer (some ⟨R, 0, none⟩)]) (hr : Rdr W R s 0) (hne : rb ≠ R) (hnR : n₀ ≤ R) (hn0 : n₀ ≤ W.heap.size) (h0 : J [] W)
    (hE : ∀ W', W'.heap.size ≥ n₀ → (∀ k, k < n₀ → W'.heap[k]? = W.heap[k]?) → EofIn W') (hM : ∀ W', W'.heap.size ≥ n₀ → (∀ k, k < n₀ → W'.heap[k]? = W.heap[k]?) → MaxIn W') (hP : ∀ W', W'.heap.size ≥ n₀ → (∀ k, k < n₀ → W'.heap[k]? = W.heap[k]?) → PowTab W') (hR1 : 0 ≠ R) (hR2 : 1 ≠ R) :
    CallsIn Fence.wide n Tryz.prog 73 #[.func (.yield l) #[] #[], .pointer (some ⟨rb, 0, none⟩)] W (RecsPost s J Jx R) := by
  have HY := Lib.hid hY; clear hY
  have HE := Lib.hid hE; have HM := Lib.hid hM; have HP := Lib.hid hP; clear hE hM hP
  have hmx : Tryz.prog.follows .mixedOrders = true := by kernel_rfl
  have hRW := hr.lt
  have hbW := hb.lt
  refine callsIn_of_wp Tryz.func73 rfl trivial ?_ rfl
  simp only [Tryz.ntmps73, List.size_toArray, List.length_cons, List.length_nil, Nat.reduceAdd, Nat.reduceSub, Array.replicate_succ, Array.replicate_zero, List.push_toArray, List.append_toArray, List.nil_append, List.cons_append]
  have B0 := Lib.hid hb; have R0 := Lib.hid hr; clear hb hr
  gi_wp2
  gi_loopw [3] (fun t wr => ∃ (pre : List Rx) (W0 : World) (i : Nat), t = .int .i64 (pre.length : Int) ∧ J pre W0 ∧ W0.grownBy wr (some R) ∧ Rdr wr R s i ∧ i ≤ s.size ∧ i = (logL 0 (rxC pre)).length ∧ s.data.toList = logL 0 (rxC pre) ++ s.data.toList.drop i ∧ (∀ x ∈ pre, okC (cfAt x.1)) ∧ Blk wr rb 58 #[.pointer (some ⟨R, 0, none⟩)] ∧ (wr.heap.size ≥ n₀ ∧ ∀ k, k < n₀ → wr.heap[k]? = W.heap[k]?)) (fun _ wr => match wr.cell? ⟨R, 1, none⟩ with | some (.int _ j) => s.size - j.toNat | _ => 0)
  case atStart => exact ⟨[], W, 0, rfl, h0, World.grownBy.refl _ _, R0.out, Nat.zero_le _, rfl, by simp [rxC, logL], fun x h => by simp at h, B0.out, hn0, fun _ _ => rfl⟩
  case round =>
    obtain ⟨pre, W0, i, rfl, hJ, hg, hr, hi, hil, htx, hok, hb, hz, hlow⟩ := hrel
    clear R0 B0
    have HJ := Lib.hid hJ; have HG := Lib.hid hg; have HR := Lib.hid hr; have HI := Lib.hid hil; have HT := Lib.hid htx; have HO := Lib.hid hok; have HB := Lib.hid hb; have HL := Lib.hid hlow
    have hk4 := logL_len 0 (rxC pre)
    have hkp : (rxC pre).length = pre.length := by unfold rxC; rw [List.length_map]
    have hpl : pre.length ≤ 100000 := by omega
    have y1 : wr.cell? ⟨R, 1, none⟩ = some (.int .i64 (i : Int)) := by obtain ⟨p, hr⟩ := hr; exact hr.cell 1
    have b0 : wr.cell? ⟨rb, 0, none⟩ = some (.pointer (some ⟨R, 0, none⟩)) := hb.cell 0
    have hE := HE.out wr hz hlow; have hM := HM.out wr hz hlow
    have hPW : ∀ w', wr.grownBy w' (some R) → PowTab w' := fun w' hw => HP.out w' (by have := hw.size; omega) (fun k hk => (hw.block k (by omega) (fun e => by injection e with e; omega)).trans (hlow k hk))
    have hRwr := hr.lt; have hbwr := hb.lt; have hgs := hg.size
    clear hJ hg hr hil htx hok hb hlow
    gi_wp2_with (refine ⟨trivial, ?_⟩; gi_at_call 74; refine (callsIn_wide.2 (record_any R i pre.length s wr HR.out hi (by omega) hpl hE hR1 hM hR2 hPW)).mono ?_; rintro e w5 ⟨A, ca, ra, B, cb, rb', mid, ok, j, rfl, hO, hG, ⟨hm1, hm2⟩, hr5, hj5, hg5, hyes, hno⟩)
    have HYS := Lib.hid hyes; have HNO := Lib.hid hno
    have hal := below1 w5 (.cells #[.slice A ra.length ca, .slice B rb'.length cb] 25)
    have B6 := Lib.hid ((HB.out.kept hg5 (fun e => hne (by injection e))).below hal)
    have R6 := Lib.hid (hr5.below hal)
    have G6 := Lib.hid (grownTrans HG.out (grownTrans hg5 (grownBelow hal (some R))))
    have G6' := Lib.hid (grownTrans hg5 (grownBelow hal (some R)))
    have C6 := Lib.hid (Box.new w5 (.slice A ra.length ca) (.slice B rb'.length cb) 25)
    have O6 := Lib.hid (show OwnCf (w5.alloc (.cells #[.slice A ra.length ca, .slice B rb'.length cb] 25)) ⟨wr.heap.size, mid, w5.heap.size, A, ca, ra, B, cb, rb'⟩ from
      ⟨hO.keep (fun b _ h2 => hal.block b h2) (Nat.le_refl _) (Nat.le_refl _), hG.keep (fun b _ h2 => hal.block b (by omega)) (Nat.le_refl _) (Nat.le_refl _), hm1, hm2⟩)
    have hz5 := hg5.size
    have hzx : (w5.alloc (.cells #[.slice A ra.length ca, .slice B rb'.length cb] 25)).heap.size = w5.heap.size + 1 := by simp
    clear hO hG hr5 hg5 hal hyes hno HB HR HG hE hM hPW b0
    obtain ⟨W6, hW6⟩ : ∃ W6, w5.alloc (.cells #[.slice A ra.length ca, .slice B rb'.length cb] 25) = W6 := ⟨_, rfl⟩
    rw [hW6] at B6 R6 G6 G6' C6 O6 hzx
    have LW : ∀ W7, Below W6.heap.size W6 W7 → W7.heap.size ≥ n₀ ∧ ∀ k, k < n₀ → W7.heap[k]? = W.heap[k]? := fun W7 h7 => ⟨by have := h7.size; omega, fun k hk => (h7.block k (by omega)).trans ((G6'.out.block k (by omega) (fun e => by injection e with e; omega)).trans (HL.out k hk))⟩
    have HLW := Lib.hid LW; clear LW
    have HG0 := Lib.hid (show W0.heap.size ≤ wr.heap.size from hgs)
    have rb6 : W6.cell? ⟨rb, 0, none⟩ = some (.pointer (some ⟨R, 0, none⟩)) := B6.out.cell 0
    cases ok
    · gi_wp2
      (try rw [hW6])
      refine wpIn_region_held_drew (S := (fun _ _ => True)) hmx trivial ?_
      intro hS_
      refine takeIn (i := 0) (v := .bool false) rfl (by (simp only [List.getElem?_toArray, List.getElem?_cons_zero]); rfl) (by kernel_rfl) (by kernel_rfl) (by kernel_rfl) (by rfl) (fun _ _ => Iff.rfl) (by kernel_rfl) (fun _ _ _ h => h) (Or.inl ⟨by rfl, ?_⟩) (fun _ => rfl) hS_ (by (simp only [List.setIfInBounds_toArray, List.set_cons_succ, List.set_cons_zero]); rfl) ?_
      · intro L_ w_ hD_ hSw_; (try dsimp only at hSw_); go_simp
      refine takeIn (i := 1) (v := .bool true) rfl (by (simp only [List.getElem?_toArray, List.getElem?_cons_succ, List.getElem?_cons_zero]); rfl) (by kernel_rfl) (by kernel_rfl) (by kernel_rfl) (by rfl) (fun _ _ => Iff.rfl) (by kernel_rfl) (fun _ _ _ h => h) (Or.inl ⟨by rfl, ?_⟩) (fun _ => rfl) hS_ (by (simp only [List.setIfInBounds_toArray, List.set_cons_succ, List.set_cons_zero]); rfl) ?_
      · intro L_ w_ hD_ hSw_; (try dsimp only at hSw_); go_simp
      refine takeIn (i := 2) (v := .bool true) rfl (by (simp only [List.getElem?_toArray, List.getElem?_cons_succ, List.getElem?_cons_zero]); rfl) (by kernel_rfl) (by kernel_rfl) (by kernel_rfl) (by rfl) (fun _ _ => Iff.rfl) (by kernel_rfl) (fun _ _ _ h => h) (Or.inl ⟨by rfl, ?_⟩) (fun _ => rfl) hS_ (by (simp only [List.setIfInBounds_toArray, List.set_cons_succ, List.set_cons_zero]); rfl) ?_
      · intro L_ w_ hD_ hSw_; (try dsimp only at hSw_); go_simp
      refine takeIn (i := 3) (v := undef) rfl (by (simp only [List.getElem?_toArray, List.getElem?_cons_succ, List.getElem?_cons_zero]); rfl) (by kernel_rfl) (by kernel_rfl) (by kernel_rfl) (by rfl) (fun _ _ => Iff.rfl) (by kernel_rfl) (fun _ _ _ h => h) (Or.inr ⟨by rfl, rfl⟩) (fun _ => rfl) hS_ (by (simp only [List.setIfInBounds_toArray, List.set_cons_succ, List.set_cons_zero]); rfl) ?_
      refine takeIn (i := 4) (v := undef) rfl (by (simp only [List.getElem?_toArray, List.getElem?_cons_succ, List.getElem?_cons_zero]); rfl) (by kernel_rfl) (by kernel_rfl) (by kernel_rfl) (by rfl) (fun _ _ => Iff.rfl) (by kernel_rfl) (fun _ _ _ h => h) (Or.inr ⟨by rfl, rfl⟩) (fun _ => rfl) hS_ (by (simp only [List.setIfInBounds_toArray, List.set_cons_succ, List.set_cons_zero]); rfl) ?_
      refine takeIn (i := 5) (v := undef) rfl (by (simp only [List.getElem?_toArray, List.getElem?_cons_succ, List.getElem?_cons_zero]); rfl) (by kernel_rfl) (by kernel_rfl) (by kernel_rfl) (by rfl) (fun _ _ => Iff.rfl) (by kernel_rfl) (fun _ _ _ h => h) (Or.inr ⟨by rfl, rfl⟩) (fun _ => rfl) hS_ (by (simp only [List.setIfInBounds_toArray, List.set_cons_succ, List.set_cons_zero]); rfl) ?_
      refine takeIn (i := 6) (v := undef) rfl (by (simp only [List.getElem?_toArray, List.getElem?_cons_succ, List.getElem?_cons_zero]); rfl) (by kernel_rfl) (by kernel_rfl) (by kernel_rfl) (by rfl) (fun _ _ => Iff.rfl) (by kernel_rfl) (fun _ _ _ h => h) (Or.inr ⟨by rfl, rfl⟩) (fun _ => rfl) hS_ (by (simp only [List.setIfInBounds_toArray, List.set_cons_succ, List.set_cons_zero]); rfl) ?_
      refine takeIn (i := 7) (v := undef) rfl (by (simp only [List.getElem?_toArray, List.getElem?_cons_succ, List.getElem?_cons_zero]); rfl) (by kernel_rfl) (by kernel_rfl) (by kernel_rfl) (by rfl) (fun _ _ => Iff.rfl) (by kernel_rfl) (fun _ _ _ h => h) (Or.inr ⟨by rfl, rfl⟩) (fun _ => rfl) hS_ (by (simp only [List.setIfInBounds_toArray, List.set_cons_succ, List.set_cons_zero]); rfl) ?_
      refine takeIn (i := 9) (v := undef) rfl (by (simp only [List.getElem?_toArray, List.getElem?_cons_succ, List.getElem?_cons_zero]); rfl) (by kernel_rfl) (by kernel_rfl) (by kernel_rfl) (by rfl) (fun _ _ => Iff.rfl) (by kernel_rfl) (fun _ _ _ h => h) (Or.inr ⟨by rfl, rfl⟩) (fun _ => rfl) hS_ (by (simp only [List.setIfInBounds_toArray, List.set_cons_succ, List.set_cons_zero]); rfl) ?_
      refine takeIn (i := 10) (v := undef) rfl (by (simp only [List.getElem?_toArray, List.getElem?_cons_succ, List.getElem?_cons_zero]); rfl) (by kernel_rfl) (by kernel_rfl) (by kernel_rfl) (by rfl) (fun _ _ => Iff.rfl) (by kernel_rfl) (fun _ _ _ h => h) (Or.inr ⟨by rfl, rfl⟩) (fun _ => rfl) hS_ (by (simp only [List.setIfInBounds_toArray, List.set_cons_succ, List.set_cons_zero]); rfl) ?_
      refine takeIn (i := 11) (v := undef) rfl (by (simp only [List.getElem?_toArray, List.getElem?_cons_succ, List.getElem?_cons_zero]); rfl) (by kernel_rfl) (by kernel_rfl) (by kernel_rfl) (by rfl) (fun _ _ => Iff.rfl) (by kernel_rfl) (fun _ _ _ h => h) (Or.inr ⟨by rfl, rfl⟩) (fun _ => rfl) hS_ (by (simp only [List.setIfInBounds_toArray, List.set_cons_succ, List.set_cons_zero]); rfl) ?_
      refine wpAnyHIn_ready (rs := [8]) (by kernel_rfl) (by simp) ?_
      refine AllReadyHIn.cons (o := _) (by (simp only [List.getElem?_toArray, List.getElem?_cons_succ, List.getElem?_cons_zero]); rfl) (fun K_ hK_ => ?_) AllReadyHIn.nil
      split; rename_i e_; exact absurd (show false = true from e_) (by decide)
      refine ⟨fun _ _ => trivial, ?_⟩
      refine hK_.out _ _ trivial (fun hS2_ => ?_)
      clear hK_ hS_; have hS_ := hS2_; clear hS2_
      (try simp only [Act.put, List.setIfInBounds_toArray, List.set_cons_zero, List.set_cons_succ])
      refine wpAnyHIn_ready (rs := [12]) (by kernel_rfl) (by simp) ?_
      refine AllReadyHIn.cons (o := _) (by (simp only [List.getElem?_toArray, List.getElem?_cons_succ, List.getElem?_cons_zero]); rfl) (fun K_ hK_ => ?_) AllReadyHIn.nil
      split; rename_i e_; exact absurd (show false = true from e_) (by decide)
      refine ⟨fun _ _ => trivial, ?_⟩
      refine hK_.out _ _ trivial (fun hS2_ => ?_)
      clear hK_ hS_; have hS_ := hS2_; clear hS2_
      (try simp only [Act.put, List.setIfInBounds_toArray, List.set_cons_zero, List.set_cons_succ])
      refine takeIn (i := 13) (v := undef) rfl (by (simp only [List.getElem?_toArray, List.getElem?_cons_succ, List.getElem?_cons_zero]); rfl) (by kernel_rfl) (by kernel_rfl) (by kernel_rfl) (by rfl) (fun _ _ => Iff.rfl) (by kernel_rfl) (fun _ _ _ h => h) (Or.inr ⟨by rfl, rfl⟩) (fun _ => rfl) hS_ (by (simp only [List.setIfInBounds_toArray, List.set_cons_succ, List.set_cons_zero]); rfl) ?_
      refine takeIn (i := 14) (v := undef) rfl (by (simp only [List.getElem?_toArray, List.getElem?_cons_succ, List.getElem?_cons_zero]); rfl) (by kernel_rfl) (by kernel_rfl) (by kernel_rfl) (by rfl) (fun _ _ => Iff.rfl) (by kernel_rfl) (fun _ _ _ h => h) (Or.inr ⟨by rfl, rfl⟩) (fun _ => rfl) hS_ (by (simp only [List.setIfInBounds_toArray, List.set_cons_succ, List.set_cons_zero]); rfl) ?_
      refine takeIn (i := 15) (v := undef) rfl (by (simp only [List.getElem?_toArray, List.getElem?_cons_succ, List.getElem?_cons_zero]); rfl) (by kernel_rfl) (by kernel_rfl) (by kernel_rfl) (by rfl) (fun _ _ => Iff.rfl) (by kernel_rfl) (fun _ _ _ h => h) (Or.inr ⟨by rfl, rfl⟩) (fun _ => rfl) hS_ (by (simp only [List.setIfInBounds_toArray, List.set_cons_succ, List.set_cons_zero]); rfl) ?_
      refine takeIn (i := 16) (v := .bool true) rfl (by (simp only [List.getElem?_toArray, List.getElem?_cons_succ, List.getElem?_cons_zero]); rfl) (by kernel_rfl) (by kernel_rfl) (by kernel_rfl) (by rfl) (fun _ _ => Iff.rfl) (by kernel_rfl) (fun _ _ _ h => h) (Or.inl ⟨by rfl, ?_⟩) (fun _ => rfl) hS_ (by (simp only [List.setIfInBounds_toArray, List.set_cons_succ, List.set_cons_zero]); rfl) ?_
      · intro L_ w_ hD_ hSw_; (try dsimp only at hSw_); go_simp
      refine wpAnyHIn_done (by kernel_rfl) ?_ _
      clear hS_
      gi_wp2
      refine bodyPost_ret (results_none rfl _ _ _) rfl ⟨⟨_, rfl⟩, .inl ⟨pre, W0, ⟨fun c hc => ?_, ⟨_, HT.out.symm⟩, fun c r hc he => ?_⟩, HJ.out, grownLater G6.out (Below.refl W6.heap.size W6).drew⟩⟩
      · unfold rxC at hc; obtain ⟨x, hx, rfl⟩ := List.mem_map.1 hc; exact HO.out x hx
      · have h1 := HT.out.symm.trans he
        exact HNO.out (by first | rfl | trivial) c r hc (by rw [hkp] at h1; exact List.append_cancel_left h1)
    · obtain ⟨hoc, hdx, hjx⟩ := HYS.out (by first | rfl | trivial)
      have HOC := Lib.hid hoc; have HDX := Lib.hid hdx; have HJX := Lib.hid hjx
      have hln := line_len pre.length (chC (ra.map rAt, rb'.map rAt))
      have hij : i + 4 ≤ j := by omega
      clear hoc hdx hjx HYS HNO
      have hsub : IntKind.i64.wrap ((s.size : Int) - ((s.size - j : Nat) : Int)) = (j : Int) := by rw [IntKind.wrap_i64]; omega
      obtain ⟨_, c0, c1⟩ := C6.out
      gi_wp2
      (try rw [hW6])
      refine wpIn_region_held_drew (S := (fun L Wx => Wx.cell? ⟨rb, 0, none⟩ = some (.pointer (some ⟨R, 0, none⟩)) ∧ (L.getD 14 true = false → Wx.cell? ⟨w5.heap.size, 0, none⟩ = some (.slice A ra.length ca) ∧ Wx.cell? ⟨w5.heap.size, 1, none⟩ = some (.slice B rb'.length cb)))) hmx ⟨rb6, fun _ => ⟨c0, c1⟩⟩ ?_
      intro hS_
      refine takeIn (i := 0) (v := .bool true) rfl (by (simp only [List.getElem?_toArray, List.getElem?_cons_zero]); rfl) (by kernel_rfl) (by kernel_rfl) (by kernel_rfl) (by rfl) (fun L w => by (try dsimp only); (try rw [getD_set_ne true (show 0 ≠ 14 by decide)])) (by kernel_rfl) (fun _ _ _ h => h) (Or.inl ⟨by rfl, ?_⟩) (fun _ => rfl) hS_ (by (simp only [List.setIfInBounds_toArray, List.set_cons_succ, List.set_cons_zero]); rfl) ?_
      · intro L_ w_ hD_ hSw_; (try dsimp only at hSw_); go_simp
      refine takeIn (i := 1) (v := .bool false) rfl (by (simp only [List.getElem?_toArray, List.getElem?_cons_succ, List.getElem?_cons_zero]); rfl) (by kernel_rfl) (by kernel_rfl) (by kernel_rfl) (by rfl) (fun L w => by (try dsimp only); (try rw [getD_set_ne true (show 1 ≠ 14 by decide)])) (by kernel_rfl) (fun _ _ _ h => h) (Or.inl ⟨by rfl, ?_⟩) (fun _ => rfl) hS_ (by (simp only [List.setIfInBounds_toArray, List.set_cons_succ, List.set_cons_zero]); rfl) ?_
      · intro L_ w_ hD_ hSw_; (try dsimp only at hSw_); go_simp
      refine takeIn (i := 2) (v := .bool false) rfl (by (simp only [List.getElem?_toArray, List.getElem?_cons_succ, List.getElem?_cons_zero]); rfl) (by kernel_rfl) (by kernel_rfl) (by kernel_rfl) (by rfl) (fun L w => by (try dsimp only); (try rw [getD_set_ne true (show 2 ≠ 14 by decide)])) (by kernel_rfl) (fun _ _ _ h => h) (Or.inl ⟨by rfl, ?_⟩) (fun _ => rfl) hS_ (by (simp only [List.setIfInBounds_toArray, List.set_cons_succ, List.set_cons_zero]); rfl) ?_
      · intro L_ w_ hD_ hSw_; (try dsimp only at hSw_); go_simp
      refine takeIn (i := 3) (v := .func (.yield l) #[] #[]) rfl (by (simp only [List.getElem?_toArray, List.getElem?_cons_succ, List.getElem?_cons_zero]); rfl) (by kernel_rfl) (by kernel_rfl) (by kernel_rfl) (by rfl) (fun L w => by (try dsimp only); (try rw [getD_set_ne true (show 3 ≠ 14 by decide)])) (by kernel_rfl) (fun _ _ _ h => h) (Or.inl ⟨by rfl, ?_⟩) (fun _ => rfl) hS_ (by (simp only [List.setIfInBounds_toArray, List.set_cons_succ, List.set_cons_zero]); rfl) ?_
      · intro L_ w_ hD_ hSw_; (try dsimp only at hSw_); go_simp
      refine takeIn (i := 4) (v := (.agg #[.slice A ra.length ca, .slice B rb'.length cb])) rfl (by (simp only [List.getElem?_toArray, List.getElem?_cons_succ, List.getElem?_cons_zero]); rfl) (by kernel_rfl) (by kernel_rfl) (by kernel_rfl) (by rfl) (fun L w => by (try dsimp only); (try rw [getD_set_ne true (show 4 ≠ 14 by decide)])) (by kernel_rfl) (fun _ _ _ h => h) (Or.inl ⟨by rfl, ?_⟩) (fun _ => rfl) hS_ (by (simp only [List.setIfInBounds_toArray, List.set_cons_succ, List.set_cons_zero]); rfl) ?_
      · intro L_ w_ hD_ hSw_; (try dsimp only at hSw_); obtain ⟨z0, z1⟩ := hSw_.2 (hD_ 14 _ (by rfl) ⟨_, Array.mem_of_getElem? (i := 1) (by rfl), by rfl, by rfl⟩); go_simp
      refine takeIn (i := 5) (v := (.pointer (some ⟨R, 0, none⟩))) rfl (by (simp only [List.getElem?_toArray, List.getElem?_cons_succ, List.getElem?_cons_zero]); rfl) (by kernel_rfl) (by kernel_rfl) (by kernel_rfl) (by rfl) (fun L w => by (try dsimp only); (try rw [getD_set_ne true (show 5 ≠ 14 by decide)])) (by kernel_rfl) (fun _ _ _ h => h) (Or.inl ⟨by rfl, ?_⟩) (fun _ => rfl) hS_ (by (simp only [List.setIfInBounds_toArray, List.set_cons_succ, List.set_cons_zero]); rfl) ?_
      · intro L_ w_ hD_ hSw_; (try dsimp only at hSw_); obtain ⟨z0, _⟩ := hSw_; go_simp
      refine takeIn (i := 6) (v := (.pointer (some ⟨R, 0, none⟩))) rfl (by (simp only [List.getElem?_toArray, List.getElem?_cons_succ, List.getElem?_cons_zero]); rfl) (by kernel_rfl) (by kernel_rfl) (by kernel_rfl) (by rfl) (fun L w => by (try dsimp only); (try rw [getD_set_ne true (show 6 ≠ 14 by decide)])) (by kernel_rfl) (fun _ _ _ h => h) (Or.inl ⟨by rfl, ?_⟩) (fun _ => rfl) hS_ (by (simp only [List.setIfInBounds_toArray, List.set_cons_succ, List.set_cons_zero]); rfl) ?_
      · intro L_ w_ hD_ hSw_; (try dsimp only at hSw_); go_simp
      refine takeIn (i := 7) (v := (.pointer (some ⟨R, 0, none⟩))) rfl (by (simp only [List.getElem?_toArray, List.getElem?_cons_succ, List.getElem?_cons_zero]); rfl) (by kernel_rfl) (by kernel_rfl) (by kernel_rfl) (by rfl) (fun L w => by (try dsimp only); (try rw [getD_set_ne true (show 7 ≠ 14 by decide)])) (by kernel_rfl) (fun _ _ _ h => h) (Or.inl ⟨by rfl, ?_⟩) (fun _ => rfl) hS_ (by (simp only [List.setIfInBounds_toArray, List.set_cons_succ, List.set_cons_zero]); rfl) ?_
      · intro L_ w_ hD_ hSw_; (try dsimp only at hSw_); go_simp
      refine takeIn (i := 9) (v := (.pointer (some ⟨R, 0, none⟩))) rfl (by (simp only [List.getElem?_toArray, List.getElem?_cons_succ, List.getElem?_cons_zero]); rfl) (by kernel_rfl) (by kernel_rfl) (by kernel_rfl) (by rfl) (fun L w => by (try dsimp only); (try rw [getD_set_ne true (show 9 ≠ 14 by decide)])) (by kernel_rfl) (fun _ _ _ h => h) (Or.inl ⟨by rfl, ?_⟩) (fun _ => rfl) hS_ (by (simp only [List.setIfInBounds_toArray, List.set_cons_succ, List.set_cons_zero]); rfl) ?_
      · intro L_ w_ hD_ hSw_; (try dsimp only at hSw_); obtain ⟨z0, _⟩ := hSw_; go_simp
      refine takeIn (i := 10) (v := (.pointer (some ⟨R, 0, none⟩))) rfl (by (simp only [List.getElem?_toArray, List.getElem?_cons_succ, List.getElem?_cons_zero]); rfl) (by kernel_rfl) (by kernel_rfl) (by kernel_rfl) (by rfl) (fun L w => by (try dsimp only); (try rw [getD_set_ne true (show 10 ≠ 14 by decide)])) (by kernel_rfl) (fun _ _ _ h => h) (Or.inl ⟨by rfl, ?_⟩) (fun _ => rfl) hS_ (by (simp only [List.setIfInBounds_toArray, List.set_cons_succ, List.set_cons_zero]); rfl) ?_
      · intro L_ w_ hD_ hSw_; (try dsimp only at hSw_); go_simp
      refine takeIn (i := 11) (v := (.pointer (some ⟨R, 0, none⟩))) rfl (by (simp only [List.getElem?_toArray, List.getElem?_cons_succ, List.getElem?_cons_zero]); rfl) (by kernel_rfl) (by kernel_rfl) (by kernel_rfl) (by rfl) (fun L w => by (try dsimp only); (try rw [getD_set_ne true (show 11 ≠ 14 by decide)])) (by kernel_rfl) (fun _ _ _ h => h) (Or.inl ⟨by rfl, ?_⟩) (fun _ => rfl) hS_ (by (simp only [List.setIfInBounds_toArray, List.set_cons_succ, List.set_cons_zero]); rfl) ?_
      · intro L_ w_ hD_ hSw_; (try dsimp only at hSw_); go_simp
      refine wpAnyHIn_ready (rs := [8]) (by kernel_rfl) (by simp) ?_
      refine AllReadyHIn.cons (o := _) (by (simp only [List.getElem?_toArray, List.getElem?_cons_succ, List.getElem?_cons_zero]); rfl) (fun K_ hK_ => ?_) AllReadyHIn.nil
      rw [if_pos (by rfl)]
      go_simp
      refine ⟨trivial, ?_⟩
      gi_at_call 75
      refine (callsIn_wide.2 (rdSize_any R j s W6.drew (R6.out.below (Below.refl _ _).drew))).mono ?_; rintro e W7 ⟨rfl, hb7⟩
      have hb67 : Below W6.heap.size W6 W7 := undrew hb7
      have R7 := R6.out.below hb67; have B7 := B6.out.below hb67; obtain ⟨_, c0, c1⟩ := C6.out.later hb67
      refine hK_.out _ _ ⟨B7.cell 0, fun _ => ⟨c0, c1⟩⟩ (fun hS2_ => ?_)
      clear hK_ hS_; have hS_ := hS2_; clear hS2_
      (try simp only [Act.put, List.setIfInBounds_toArray, List.set_cons_zero, List.set_cons_succ])
      refine wpAnyHIn_ready (rs := [12]) (by kernel_rfl) (by simp) ?_
      refine AllReadyHIn.cons (o := _) (by (simp only [List.getElem?_toArray, List.getElem?_cons_succ, List.getElem?_cons_zero]); rfl) (fun K_ hK_ => ?_) AllReadyHIn.nil
      rw [if_pos (by rfl)]
      go_simp
      refine ⟨trivial, ?_⟩
      gi_at_call 31
      refine (callsIn_wide.2 (rdLen_any R j s W7 R7 hj5 (by omega))).mono ?_; rintro e W8 ⟨rfl, hb8⟩
      have hb68 := belowThen hb67 hb8
      have R8 := Lib.hid (R7.below hb8); have B8 := Lib.hid (B7.below hb8); obtain ⟨_, c0, c1⟩ := C6.out.later hb68
      have HB68 := Lib.hid hb68
      refine hK_.out _ _ ⟨B8.out.cell 0, fun _ => ⟨c0, c1⟩⟩ (fun hS2_ => ?_)
      clear hK_ hS_; have hS_ := hS2_; clear hS2_
      (try simp only [Act.put, List.setIfInBounds_toArray, List.set_cons_zero, List.set_cons_succ])
      clear hb7 hb67 R7 B7 hb8 c0 c1 hb68
      refine takeIn (i := 13) (v := .int .i64 (j : Int)) rfl (by (simp only [List.getElem?_toArray, List.getElem?_cons_succ, List.getElem?_cons_zero]); rfl) (by kernel_rfl) (by kernel_rfl) (by kernel_rfl) (by rfl) (fun L w => by (try dsimp only); (try rw [getD_set_ne true (show 13 ≠ 14 by decide)])) (by kernel_rfl) (fun _ _ _ h => h) (Or.inl ⟨by rfl, ?_⟩) (fun _ => rfl) hS_ (by (simp only [List.setIfInBounds_toArray, List.set_cons_succ, List.set_cons_zero]); rfl) ?_
      · intro L_ w_ hD_ hSw_; (try dsimp only at hSw_); go_simp
      refine wpAnyHIn_ready (rs := [14]) (by kernel_rfl) (by simp) ?_
      refine AllReadyHIn.cons (o := _) (by (simp only [List.getElem?_toArray, List.getElem?_cons_succ, List.getElem?_cons_zero]); rfl) (fun K_ hK_ => ?_) AllReadyHIn.nil
      rw [if_pos (by rfl)]
      have hz8 := HB68.out.size
      have hxe : (logL 0 (rxC (pre ++ [(⟨wr.heap.size, mid, w5.heap.size, A, ca, ra, B, cb, rb'⟩, j)]))).length = j := by rw [rxC_snoc, logL_snoc, List.length_append, ← HI.out, Nat.zero_add, hkp]; exact HJX.out.symm
      have hyy : YieldAt Fence.wide (n - 1) Tryz.prog l #[.agg #[.slice A ra.length ca, .slice B rb'.length cb], .int .i64 (j : Int)] W8 (fun e W' => (e = .returned (.bool true) ∧ J (pre ++ [(⟨wr.heap.size, mid, w5.heap.size, A, ca, ra, B, cb, rb'⟩, j)]) W' ∧ KeepsTwo n₀ rb R W8 W') ∨ (e = .returned (.bool false) ∧ Jx (pre ++ [(⟨wr.heap.size, mid, w5.heap.size, A, ca, ra, B, cb, rb'⟩, j)]) W' ∧ KeepsTwo n₀ rb R W8 W')) := HY.out pre (⟨wr.heap.size, mid, w5.heap.size, A, ca, ra, B, cb, rb'⟩, j) W0 W8 HJ.out (grownLater G6.out HB68.out)
        ⟨O6.out.keep (fun b _ h2 => HB68.out.block b (by show b < W6.heap.size; have : b < w5.heap.size := h2; omega)), HG0.out, by show w5.heap.size ≤ W8.heap.size; omega, HOC.out, hpl, hxe.symm, by show j ≤ 1048576; omega⟩
      obtain ⟨fn, tmps, assign, body, hy, hRd⟩ := hyy
      go_simp
      refine hRd.mono ?_
      rintro e W9 (⟨rfl, hJ9, hk9⟩ | ⟨rfl, hJx9, hk9⟩)
      · have B9 : Blk W9 rb 58 #[.pointer (some ⟨R, 0, none⟩)] := hk9.2.1.trans B8.out
        have R9 : Rdr W9 R s j := by obtain ⟨p, hr⟩ := R8.out; exact ⟨p, hk9.2.2.trans hr⟩
        refine hK_.out _ _ ⟨B9.cell 0, fun h => by cases h⟩ (fun hS2_ => ?_)
        clear hK_ hS_; have hS_ := hS2_; clear hS2_
        (try simp only [Act.put, List.setIfInBounds_toArray, List.set_cons_zero, List.set_cons_succ])
        refine takeIn (i := 15) (v := .bool false) rfl (by (simp only [List.getElem?_toArray, List.getElem?_cons_succ, List.getElem?_cons_zero]); rfl) (by kernel_rfl) (by kernel_rfl) (by kernel_rfl) (by rfl) (fun L w => by (try dsimp only); (try rw [getD_set_ne true (show 15 ≠ 14 by decide)])) (by kernel_rfl) (fun _ _ _ h => h) (Or.inl ⟨by rfl, ?_⟩) (fun _ => rfl) hS_ (by (simp only [List.setIfInBounds_toArray, List.set_cons_succ, List.set_cons_zero]); rfl) ?_
        · intro L_ w_ hD_ hSw_; (try dsimp only at hSw_); go_simp
        refine takeIn (i := 16) (v := .bool false) rfl (by (simp only [List.getElem?_toArray, List.getElem?_cons_succ, List.getElem?_cons_zero]); rfl) (by kernel_rfl) (by kernel_rfl) (by kernel_rfl) (by rfl) (fun L w => by (try dsimp only); (try rw [getD_set_ne true (show 16 ≠ 14 by decide)])) (by kernel_rfl) (fun _ _ _ h => h) (Or.inl ⟨by rfl, ?_⟩) (fun _ => rfl) hS_ (by (simp only [List.setIfInBounds_toArray, List.set_cons_succ, List.set_cons_zero]); rfl) ?_
        · intro L_ w_ hD_ hSw_; (try dsimp only at hSw_); go_simp
        refine wpAnyHIn_done (by kernel_rfl) ?_ _
        have HJ9 := Lib.hid hJ9; have HB9 := Lib.hid B9; have HR9 := Lib.hid R9; have HK9 := Lib.hid hk9
        have z9 : W9.cell? ⟨R, 1, none⟩ = some (.int .i64 (j : Int)) := by obtain ⟨p, hr⟩ := R9; exact hr.cell 1
        have hlw := HLW.out W8 HB68.out
        have hk1 := hk9.1.size
        clear hJ9 B9 R9 hk9 hS_
        gi_wp2
        go_roundw
        case rel => exact ⟨pre ++ [(⟨wr.heap.size, mid, w5.heap.size, A, ca, ra, B, cb, rb'⟩, j)], W9, j, by rw [List.length_append]; go_num, HJ9.out, World.grownBy.refl _ _, HR9.out, hj5, hxe.symm, by rw [rxC_snoc, logL_snoc, Nat.zero_add, hkp, List.append_assoc]; exact HT.out.trans (congrArg _ HDX.out), fun x hx => (by rcases List.mem_append.1 hx with hx | hx; exact HO.out x hx; rw [List.mem_singleton.1 hx]; exact HOC.out), HB9.out, by omega, fun k hk => (HK9.out.1.block k hk).trans (hlw.2 k hk)⟩
        case measure =>
          rw [z9, y1]
          show s.size - ((j : Nat) : Int).toNat < s.size - ((i : Nat) : Int).toNat
          omega
      · have B9 : Blk W9 rb 58 #[.pointer (some ⟨R, 0, none⟩)] := hk9.2.1.trans B8.out
        have R9 : Rdr W9 R s j := by obtain ⟨p, hr⟩ := R8.out; exact ⟨p, hk9.2.2.trans hr⟩
        refine hK_.out _ _ ⟨B9.cell 0, fun h => by cases h⟩ (fun hS2_ => ?_)
        clear hK_ hS_; have hS_ := hS2_; clear hS2_
        (try simp only [Act.put, List.setIfInBounds_toArray, List.set_cons_zero, List.set_cons_succ])
        refine takeIn (i := 15) (v := .bool true) rfl (by (simp only [List.getElem?_toArray, List.getElem?_cons_succ, List.getElem?_cons_zero]); rfl) (by kernel_rfl) (by kernel_rfl) (by kernel_rfl) (by rfl) (fun L w => by (try dsimp only); (try rw [getD_set_ne true (show 15 ≠ 14 by decide)])) (by kernel_rfl) (fun _ _ _ h => h) (Or.inl ⟨by rfl, ?_⟩) (fun _ => rfl) hS_ (by (simp only [List.setIfInBounds_toArray, List.set_cons_succ, List.set_cons_zero]); rfl) ?_
        · intro L_ w_ hD_ hSw_; (try dsimp only at hSw_); go_simp
        refine takeIn (i := 16) (v := .bool true) rfl (by (simp only [List.getElem?_toArray, List.getElem?_cons_succ, List.getElem?_cons_zero]); rfl) (by kernel_rfl) (by kernel_rfl) (by kernel_rfl) (by rfl) (fun L w => by (try dsimp only); (try rw [getD_set_ne true (show 16 ≠ 14 by decide)])) (by kernel_rfl) (fun _ _ _ h => h) (Or.inl ⟨by rfl, ?_⟩) (fun _ => rfl) hS_ (by (simp only [List.setIfInBounds_toArray, List.set_cons_succ, List.set_cons_zero]); rfl) ?_
        · intro L_ w_ hD_ hSw_; (try dsimp only at hSw_); go_simp
        refine wpAnyHIn_done (by kernel_rfl) ?_ _
        gi_wp2
        refine bodyPost_ret (results_none rfl _ _ _) rfl ⟨⟨_, rfl⟩, .inr ⟨_, W9, trivial, hJx9, World.grownBy.refl _ _⟩⟩

end Go.Proofs.YtogonjkklioaaaaGreatDoor
