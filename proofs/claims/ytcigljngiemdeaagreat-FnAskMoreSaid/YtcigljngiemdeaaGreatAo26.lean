/-
  Texts of one claim, put together.
-/
import Derived.Test.YtcigljngiemdeaaGreatAo0
import Derived.Test.YtcigljngiemdeaaGreatAo25
import Derived.Deep.QuietTactic
import Derived.BigQuiet
import Derived.StillTailTactics
import Derived.Test.YtcigljngiemdeaaGreatAo1
set_option maxRecDepth 100000
set_option maxHeartbeats 8000000
namespace Go.Proofs.YtcigljngiemdeaaGreat
open Go.RowKit
section
variable {P : Program} {w w' : World} {o : Oper} {a : Act} {K : Act → World → Prop} {Q : Exit → Act → World → Prop} {t : TypeId} {m x v : Operand} {M key res st : Value}
theorem wp_entry (hop : o.op = Op.mapEntry t m x) (hm : a.eval m = M) (hx : a.eval x = key) (hR : (Instr.mapEntry t M key).run P w = .ok res w') (h : K (a.put o.dst res) w') : o.wp P a w K Q := by
  unfold Oper.wp; simp [execOp, hop, hm, hx, hR, Result.andThen]; exact h
theorem wp_entryStore (hop : o.op = Op.entryStore t m x v) (hm : a.eval m = M) (hx : a.eval x = st) (hv : a.eval v = key) (hR : (Instr.entryStore t M st key).run P w = .ok () w') (h : K (a.put o.dst undef) w') : o.wp P a w K Q := by
  unfold Oper.wp; simp [execOp, hop, hm, hx, hv, hR, Result.andThen]; exact h
theorem wp_lookup {c : Bool} (hop : o.op = Op.lookup t m x c) (hm : a.eval m = M) (hx : a.eval x = key) (hR : (Instr.lookup t M key c).run P w = .ok res w) (h : K (a.put o.dst res) w) : o.wp P a w K Q := by
  unfold Oper.wp; simp [execOp, hop, hm, hx, hR, Result.andThen]; exact h
theorem wp_append_run {ty : TypeId} (hop : o.op = .call { callee := .builtin .append, args := #[m, x], argTypes := #[t, t] }) (hty : o.type = ty) (hm : a.eval m = M) (hx : a.eval x = key) (hR : (Builtin.append_ #[t, t] ty #[M, key]).run P w = .ok res w') (h : K (a.put o.dst res) w') : o.wp P a w K Q := by
  subst hty; unfold Oper.wp execOp; simp only [hop, resolve, invoke, builtin, Sem.run_bind, Sem.run_pure, Result.andThen_ok, List.map_toArray, List.map_cons, List.map_nil, hm, hx, hR]; exact h
theorem wpList_append_at {ops : Array Oper} {rest : List Oper} {ty : TypeId} (hg : o.guard = none) (hop : o.op = .call { callee := .builtin .append, args := #[m, x], argTypes := #[t, t] }) (hty : o.type = ty) (hm : a.eval m = M) (hx : a.eval x = key) (hR : (Builtin.append_ #[t, t] ty #[M, key]).run P w = .ok res w') (h : wpList P ops Q rest (a.put o.dst res) w') : wpList P ops Q (o :: rest) a w :=
  wpList_plain hg fun _ hK => wp_append_run hop hty hm hx hR (hK _ _ h)
end
end Go.Proofs.YtcigljngiemdeaaGreat

namespace Go.Proofs.YtcigljngiemdeaaGreat
open Go.RowKit Go.Maps
theorem Tryz.infoFacts : (Tryz.prog.info? 143).map (fun i => (i.zero, i.size, i.bytes)) = some (some (.agg #[.string ⟨#[]⟩, .int .i64 0, .string ⟨#[]⟩, .string ⟨#[]⟩, .string ⟨#[]⟩]), 5, 72) := by kernel_rfl
structure AddMid (w0 : World) (Bs : Nat → Prop) (x mr mu F : Nat) (L : List (At × Nat)) (f : At) (r j : Nat) (W : World) : Prop where
  xx : Blk W x 137 #[.map (some mr), .map (some mu)]
  xf : Blk W F 143 (fcells f).toArray
  M : MapIn Tryz.prog 143 W mr ((L ++ [(f, r)]).map fun q => (factV q.1, .int .i64 (q.2 : Int)))
  U : ∃ Bt rows, UnderIn W Bt mu rows ∧ ¬ Bt F ∧ (∀ k, Bt k → Bs k ∨ (w0.heap.size ≤ k ∧ k < W.heap.size)) ∧ ∀ s, (s ∈ (spotsOf f).take j → rowsAt rows s = (L.map (·.1)).filter (inSpot s) ++ [f]) ∧ (s ∉ (spotsOf f).take j → rowsAt rows s = (L.map (·.1)).filter (inSpot s))
  off : OffB Bs w0 W
theorem AddMid.below {w0 W W' : World} {Bs : Nat → Prop} {x mr mu F : Nat} {L : List (At × Nat)} {f : At} {r j : Nat} (h : AddMid w0 Bs x mr mu F L f r j W) (hb : Below W.heap.size W W') : AddMid w0 Bs x mr mu F L f r j W' := by
  obtain ⟨Bt, rows, h1, h2, h3, h4⟩ := h.U; exact ⟨h.xx.below hb, h.xf.below hb, h.M.keep (hb.block _ h.M.lt), ⟨Bt, rows, h1.keep (hb.block _ h1.map.lt) (fun g _ hg => hb.block g hg), h2, fun k hk => (h3 k hk).imp id fun e => ⟨e.1, Nat.lt_of_lt_of_le e.2 hb.size⟩, h4⟩, h.off.below hb⟩
theorem one_fcells {f : At} : ∀ u ∈ fcells f, u.oneCell' = true := by
  intro u hu; unfold fcells at hu; simp at hu; rcases hu with rfl | rfl | rfl | rfl | rfl <;> rfl
theorem spots_at {a : At} {k : Nat} (h : k < a.2.length) : (spotsOf a)[k + 1]? = some (atSpot a k (wordAt a.2 k)) := by
  unfold spotsOf; rw [List.getElem?_cons_succ, List.getElem?_map, List.getElem?_range h]; rfl
theorem spots_len (f : At) : (spotsOf f).length = f.2.length + 1 := by unfold spotsOf; simp
theorem AddMid.step {w0 W V1 : World} {Bs : Nat → Prop} {x mr mu F j P r : Nat} {L : List (At × Nat)} {f : At} {s : Sp} (h : AddMid w0 Bs x mr mu F L f r j W) (hf : FactOk f) (hL : L.length ≤ 1000000) (hne : mr ≠ mu) (hBs : ∀ k, Bs k → k < w0.heap.size) (hmu : Bs mu)
    (hs : (spotsOf f)[j]? = some s) (hV : Below W.heap.size W V1) (hP : Blk V1 P 143 (fcells f).toArray) (hPW : W.heap.size ≤ P) :
    ∃ V2 V3 V4 st v g m cap, (Instr.mapEntry 135 (.map (some mu)) (spotV s)).run Tryz.prog V1 = .ok (.tuple #[v, .int .i64 (st : Nat)]) V2 ∧
      (Builtin.append_ #[148, 148] 148 #[v, .slice (some ⟨P, 0, none⟩) 1 1]).run Tryz.prog V2 = .ok (.slice (some ⟨g, 0, none⟩) m cap) V3 ∧
      (Instr.entryStore 135 (.map (some mu)) (.int .i64 (st : Nat)) (.slice (some ⟨g, 0, none⟩) m cap)).run Tryz.prog V3 = .ok () V4 ∧
      AddMid w0 Bs x mr mu F L f r (j + 1) V4 ∧ (∀ b t cs, W.heap.size ≤ b → Blk V1 b t cs → Blk V2 b t cs ∧ Blk V3 b t cs ∧ Blk V4 b t cs) ∧ (∀ b t cs, b = x ∨ b = F → Blk V1 b t cs → Blk V2 b t cs ∧ Blk V3 b t cs ∧ Blk V4 b t cs) := by
  have hA := h.below hV; obtain ⟨Bt0, rows, U0, hF0, hB0, hsem⟩ := h.U; have U1 := U0.keep (hV.block _ U0.map.lt) (fun g _ hg => hV.block g hg); obtain ⟨V2, st, i, v, fs, rows', hr1, U2, hi, hst, hsame, hg2⟩ := U1.entry (spots_ok hf s (List.mem_of_getElem? hs)); have hmem := List.mem_of_getElem? hi; have hPmu : P ≠ mu := fun e => by have h1 : mu < W.heap.size := U0.map.lt; omega
  have hP2 : Blk V2 P 143 (fcells f).toArray := hP.kept hg2 (fun e => hPmu qck); obtain ⟨i0, hi0, hz0, hsz0, hby0⟩ := info_parts Tryz.infoFacts; have hfs : fs = rowsAt rows s := by rw [← hsame]; exact (U2.at_ hmem).symm
  have hlen : fs.length ≤ 1000001 := by
    have h1 := List.length_filter_le (inSpot s) (L.map (·.1)); rw [List.length_map] at h1; rw [hfs]; by_cases hm : s ∈ (spotsOf f).take j
    · rw [(hsem s).1 hm, List.length_append]; simp; omega
    · rw [(hsem s).2 hm]; omega
  obtain ⟨hown, hBv⟩ := U2.row _ hmem; obtain ⟨g, cap, V3, hr2, hown3, hg3, hlies, hglt⟩ := run_append_lies (P := Tryz.prog) V2 148 148 0 143 i0 _ 5 72 Tryz.underlying148 hi0 hz0 hsz0 hby0 rfl qaa v fs.length (fsCells fs) hown ⟨P, 0, none⟩ 1 1 (fcells f) qab (World.news_of_block hP2) one_fcells qaa qac qaa (Nat.zero_le _) V2.heap.size rfl; obtain ⟨V4, hr3, U4, hsem4, hg4⟩ := U2.store hi hst hg3 hown3 hlies; have hvF : v.ownBlock ≠ some F := fun e => hF0 (hBv F e)
  have hvW : ∀ b, W.heap.size ≤ b → v.ownBlock ≠ some b := fun b hb e => by
    rcases hB0 b (hBv b e) with h1 | h1
    · have := hBs b h1; have := h.off.size; omega
    · omega
  have hmuW : mu < W.heap.size := U0.map.lt; have hs1 := hV.size; have hs2 := hg2.size; have hs3 := hg3.size; have hs4 := hg4.size
  have key : ∀ b t cs, b ≠ mu → v.ownBlock ≠ some b → Blk V1 b t cs → Blk V2 b t cs ∧ Blk V3 b t cs ∧ Blk V4 b t cs := fun b t cs h1 h2 h3 => by
    have k2 := h3.kept hg2 (fun e => h1 qck); have k3 := k2.kept hg3 (fun e => h2 e.symm); exact ⟨k2, k3, k3.kept hg4 (fun e => h1 qck)⟩
  have hxmu : x ≠ mu := fun e => by
    obtain ⟨o, ho, hc⟩ := U0.map.noCells; have := h.xx; rw [e] at this; rw [show W.heap[mu]? = _ from this] at ho; cases ho; cases hc
  have hFmu : F ≠ mu := fun e => by
    obtain ⟨o, ho, hc⟩ := U0.map.noCells; have := h.xf; rw [e] at this; rw [show W.heap[mu]? = _ from this] at ho; cases ho; cases hc
  have hvx : v.ownBlock ≠ some x := fun e => by
    obtain ⟨cur, hcur⟩ := ownBlock_form hown e; have h2 := hA.xx.kept hg2 (fun e => hxmu qck); rw [show V2.heap[x]? = _ from h2] at hcur; simp at hcur
  have hvmr : v.ownBlock ≠ some mr := fun e => by
    obtain ⟨cur, hcur⟩ := ownBlock_form hown e; have h2 := hA.M.keep (hg2.block mr hA.M.lt (fun e => hne qck)); obtain ⟨o, ho, hc⟩ := h2.noCells; rw [hcur] at ho; cases ho; cases hc
  have kF := key F _ _ hFmu hvF hA.xf; have kx := key x _ _ hxmu hvx hA.xx
  have M4 : MapIn Tryz.prog 143 V4 mr ((L ++ [(f, r)]).map fun q => (factV q.1, .int .i64 (q.2 : Int))) := by
    have m2 := hA.M.keep (hg2.block mr hA.M.lt (fun e => hne qck)); have m3 := m2.keep (hg3.block mr m2.lt (fun e => hvmr e.symm)); exact m3.keep (hg4.block mr m3.lt (fun e => hne qck))
  refine ⟨V2, V3, V4, st, v, g, fs.length + 1, cap, hr1, hr2, hr3, ⟨kx.2.2, kF.2.2, M4, ⟨_, _, U4, ?_, ?_, fun t => ?_⟩, ?_⟩, fun b t cs h1 h2 => key b t cs qaa (hvW b h1) h2, fun b t cs h1 h2 => ?_⟩
  · rintro (h1 | ⟨h1, _⟩)
    · exact hF0 h1
    · have := h.xf.lt; omega
  · rintro k (h1 | ⟨h1, h2⟩)
    · exact (hB0 k h1).imp id fun e => ⟨e.1, by omega⟩
    · have := h.off.size; exact .inr ⟨by omega, by omega⟩
  · have htk : (spotsOf f).take (j + 1) = (spotsOf f).take j ++ [s] := by rw [List.take_add_one, hs]; rfl
    rw [htk, hsem4, hsame]; have hnd := spots_nodup hf
    have hnot : s ∉ (spotsOf f).take j := fun hm => by
      obtain ⟨a, ha⟩ := List.getElem?_of_mem hm; rw [List.getElem?_take] at ha; split at ha
      · obtain ⟨a1, a2⟩ := List.getElem?_eq_some_iff.1 ha
        obtain ⟨b1, b2⟩ := List.getElem?_eq_some_iff.1 hs; have := (List.getElem_inj hnd).1 (a2.trans b2.symm); omega
      · cases ha
    by_cases e : t = s
    · subst e
      rw [if_pos rfl, hfs, (hsem t).2 hnot]; exact ⟨fun _ => rfl, fun hm => absurd qad hm⟩
    · rw [if_neg e]
      refine ⟨fun hm => (hsem t).1 ?_, fun hm => (hsem t).2 fun h => hm (by simp [h])⟩; rcases List.mem_append.1 hm with h | h
      · exact h
      · exact absurd (List.mem_singleton.1 h) e
  · have o1 : OffB Bs w0 V1 := h.off.below hV
    have o2 := o1.grown hg2 (fun b e _ => by injection e with e; rw [← e]; exact hmu)
    have o3 := o2.grown hg3 (fun b e hb => by
      rcases hB0 b (hBv b e) with h1 | h1
      · exact h1
      · omega)
    exact o3.grown hg4 (fun b e _ => by injection e with e; rw [← e]; exact hmu)
  · rcases h1 with e | e
    · subst e; exact key _ t cs hxmu hvx h2
    · subst e; exact key _ t cs hFmu hvF h2
theorem AddMid.done {w0 W : World} {Bs : Nat → Prop} {x mr mu F : Nat} {L : List (At × Nat)} {f : At} {r : Nat} (h : AddMid w0 Bs x mr mu F L f r (f.2.length + 1) W) (hf : FactOk f) (hok : ∀ q ∈ L, FactOk q.1) (hbx : Bs x) (hmr : Bs mr) (hmu : Bs mu) (hne : mr ≠ mu) :
    IxIn W (fun k => Bs k ∨ (w0.heap.size ≤ k ∧ k < W.heap.size)) x (L ++ [(f, r)]) ∧ OffB Bs w0 W := by
  obtain ⟨Bt, rows, U, _, hB, hsem⟩ := h.U; refine ⟨⟨⟨mr, mu, rows, h.xx, .inl hmr, .inl hmu, hne, h.M, U.more hB, fun s => ?_⟩, .inl hbx, fun q hq => ?_⟩, h.off⟩
  · have htk : (spotsOf f).take (f.2.length + 1) = spotsOf f := List.take_of_length_le (by rw [spots_len]; exact nl _)
    rw [List.map_append, List.filter_append]; obtain ⟨h1, h2⟩ := hsem s; rw [htk] at h1 h2; by_cases hm : s ∈ spotsOf f
    · rw [h1 hm]
      have : [((f, r) : At × Nat)].map (·.1) = [f] := rfl; rw [this, List.filter_cons_of_pos (inSpot_iff.2 hm)]; rfl
    · rw [h2 hm]
      have : [((f, r) : At × Nat)].map (·.1) = [f] := rfl; rw [this, List.filter_cons_of_neg (fun e => hm (inSpot_iff.1 e))]; simp
  · rcases List.mem_append.1 hq with hq | hq
    · exact hok q hq
    · rw [List.mem_singleton.1 hq]; exact hf
theorem Tryz.arrW : Tryz.prog.underlying 141 = some (.array (Tryz.prog.arrayLen 141) (Tryz.prog.elem 141)) := by kernel_rfl
theorem Tryz.lenW : Tryz.prog.arrayLen 141 = 3 := by kernel_rfl
theorem Tryz.sizeW (w : World) : (sizeOf (Tryz.prog.elem 141)).run Tryz.prog w = .ok 1 w := by kernel_rfl
theorem words_slice (W : World) (b n : Nat) (hn : n ≤ 3) : (Instr.sliceAt 141 (.pointer (some ⟨b, 2, none⟩)) none (some (.int .i64 (n : Int))) none).run Tryz.prog W = .ok (.slice (some ⟨b, 2, none⟩) n 3) W := by
  rw [run_sliceAt_array_h W 141 _ Tryz.arrW .i64 n qaa (by rw [Tryz.lenW]; omega), Tryz.sizeW, Tryz.lenW]; simp [Result.andThen, slicedAt, Addr.add]
theorem implAdd_any (Bs : Nat → Prop) (x r : Nat) (L : List (At × Nat)) (f : At) (w : World) (h : IxIn w Bs x L) (hf : FactOk f) (hnew : ∀ q ∈ L, q.1 ≠ f) (hL : L.length ≤ 1000000) (hBs : ∀ k, Bs k → k < w.heap.size) :
    Calls Tryz.prog 92 #[.pointer (some ⟨x, 0, none⟩), factV f, .int .i64 (r : Int)] w fun e w' => e = .returned (.tuple #[]) ∧ IxIn w' (fun k => Bs k ∨ (w.heap.size ≤ k ∧ k < w'.heap.size)) x (L ++ [(f, r)]) ∧ OffB Bs w w' := by
  obtain ⟨⟨mr, mu, rows, hx, hmr, hmu, hne, hM, hU, hsem⟩, hbx, hok⟩ := h; obtain ⟨kl, hkey⟩ := hf.key; obtain ⟨nm, ts⟩ := f; have hV : factV (nm, ts) = .agg #[.string nm, .int .i64 ts.length, .string (wordAt ts 0), .string (wordAt ts 1), .string (wordAt ts 2)] := rfl; rw [hV] at hkey ⊢; obtain ⟨s0, hs0⟩ : ∃ s0, wordAt ts 0 = s0 := ⟨_, rfl⟩; obtain ⟨s1, hs1⟩ : ∃ s1, wordAt ts 1 = s1 := ⟨_, rfl⟩; obtain ⟨s2, hs2⟩ : ∃ s2, wordAt ts 2 = s2 := ⟨_, rfl⟩; have HV := hid (show factV (nm, ts) = .agg #[.string nm, .int .i64 ts.length, .string s0, .string s1, .string s2] by rw [hV, hs0, hs1, hs2]); rw [hs0, hs1, hs2] at hkey ⊢
  obtain ⟨n, hn⟩ : ∃ n, ts.length = n := ⟨_, rfl⟩; rw [hn] at HV hkey ⊢; clear hV; have xf := Blk.new w 143 #[.string nm, .int .i64 n, .string s0, .string s1, .string s2]; obtain ⟨w1, hq1⟩ : ∃ w1, w.alloc (.cells #[.string nm, .int .i64 n, .string s0, .string s1, .string s2] 143) = w1 := ⟨_, rfl⟩; rw [hq1] at xf; have hb1 : Below w.heap.size w w1 := by rw [← hq1]; exact below1 _ _
  have hx1 := hx.below hb1; have M1 := hM.keep (hb1.block mr hM.lt); have U1 := hU.keep (hb1.block mu hU.map.lt) (fun g _ hg => hb1.block g hg)
  have hno : ∀ q ∈ L.map (fun q => (factV q.1, Value.int .i64 (q.2 : Int))), q.1 ≠ .agg #[.string nm, .int .i64 n, .string s0, .string s1, .string s2] := fun q hq e => by
    obtain ⟨p, hp, rfl⟩ := List.mem_map.1 hq; exact hnew p hp (factV_inj (hok p hp) hf (e.trans HV.out.symm))
  have hxmr : x ≠ mr := fun e => by
    obtain ⟨o, ho, hc⟩ := M1.noCells; rw [← e, show w1.heap[x]? = _ from hx1] at ho; cases ho; cases hc
  have hFmr : w.heap.size ≠ mr := fun e => by have := hM.lt; omega
  obtain ⟨w2, hrun, M2, hg2⟩ := (M1.keep (w' := w1.drew) rfl).push (val := .int .i64 (r : Int)) Tryz.lawF Tryz.underlying134 hkey hno; have hgd : w1.grownBy w2 (some mr) := ⟨hg2.os, hg2.tape, hg2.output, hg2.size, hg2.block⟩
  have MID : Hid (AddMid w Bs x mr mu w.heap.size L (nm, ts) r 0 w2) := hid ⟨hx1.kept hgd (fun e => hxmr qck), by
      have h1 : Blk w1 w.heap.size 143 (fcells (nm, ts)).toArray := by unfold fcells; rw [hs0, hs1, hs2, hn]; exact xf
      exact h1.kept hgd (fun e => hFmr qck), by
      rw [List.map_append]; show MapIn _ _ _ _ (_ ++ [(factV (nm, ts), _)])
      rw [HV.out]; exact M2, ⟨Bs, rows, U1.keepC (hgd.block mu U1.map.lt (fun e => hne (by injection e with e; exact e.symm))) (fun g cur _ hg => hgd.block g (Array.getElem?_eq_some_iff.1 hg).1 (fun e => by
        injection e with e; subst e; obtain ⟨o, ho, hc⟩ := M1.noCells; rw [hg] at ho; cases ho; cases hc)), fun e => by have := hBs _ e; omega, fun k hk => .inl hk, fun s => ⟨fun h => by simp at h, fun _ => hsem s⟩⟩, (OffB.of_below hb1).grown hgd (fun g e _ => by injection e with e; rw [← e]; exact hmr)⟩
  have HQ1 := hid hq1; have c0 := hx1.cell 0; have c1 := hx1.cell 1; have z0 := xf.cell 0; have z1 := xf.cell 1; have z2 := xf.cell 2; have z3 := xf.cell 3; have z4 := xf.cell 4; simp at c0 c1 z0 z1 z2 z3 z4; clear hM hU hx hkey hno hq1 hx1 xf M1 M2 hg2 U1 hgd; go_enter Tryz.func92, Tryz.ntmps92; go_wp2_with (rw [HQ1.out]); go_still_tail 6, qae; change wpList _ _ _ _ _ w1.drew; refine wpList_update_in _ rfl _ _ _ _ rfl mr rfl _ _ rfl rfl (fun W => w2 = W) ⟨w2, hrun, rfl⟩ ?_; rintro _ rfl; clear c0 c1 z0 z1 z2 z3 z4 hrun
  have z0 := MID.out.xf.cell 0; have z1 := MID.out.xf.cell 1; have z2 := MID.out.xf.cell 2; have z3 := MID.out.xf.cell 3; have z4 := MID.out.xf.cell 4; simp [fcells, hn, hs0, hs1, hs2] at z0 z1 z2 z3 z4; go_wp2_with fail; have hsp : (spotsOf (nm, ts))[0]? = some (allSpot (nm, ts)) := rfl; have hspV : spotV (allSpot (nm, ts)) = .agg #[.string nm, .int .i64 n, .int .i64 0, .string ⟨#[]⟩] := by rw [← hn]; rfl
  have xq := Blk.new w2 189 #[.string nm, .int .i64 n, .int .i64 0, .string ⟨#[]⟩]; have hb3 := below1 w2 (.cells #[.string nm, .int .i64 n, .int .i64 0, .string ⟨#[]⟩] 189); have hq0 : w2.heap.size = w2.heap.size := rfl; obtain ⟨q, hqq⟩ : ∃ q, w2.heap.size = q := ⟨_, rfl⟩; obtain ⟨V, hVe⟩ : ∃ V, (w2.alloc (.cells #[.string nm, .int .i64 n, .int .i64 0, .string ⟨#[]⟩] 189)).drew = V := ⟨_, rfl⟩; have hbV : Below w2.heap.size w2 V := by rw [← hVe]; exact hb3.drew
  have xqV : Blk V q 189 #[.string nm, .int .i64 n, .int .i64 0, .string ⟨#[]⟩] := by rw [← hVe, ← hqq]; exact xq
  have hbV1 := belowThen hbV (below1 V (.cells #[.string nm, .int .i64 n, .string s0, .string s1, .string s2] 143)); have hfc : (fcells (nm, ts)).toArray = #[.string nm, .int .i64 n, .string s0, .string s1, .string s2] := by unfold fcells; rw [hs0, hs1, hs2, hn]
  have xP := Blk.new V 143 #[.string nm, .int .i64 n, .string s0, .string s1, .string s2]; obtain ⟨V2, V3, V4, st, v, g, m, cap, hr1, hr2, hr3, MID4, hk1, hk2⟩ := MID.out.step hf hL hne hBs hmu hsp hbV1 (by rw [hfc]; exact xP) hbV.size; have xqV1 := xqV.alloc (.cells #[.string nm, .int .i64 n, .string s0, .string s1, .string s2] 143); have xfV := MID.out.xf.below hbV; have xxV := MID.out.xx.below hbV; have xfV1 := MID.out.xf.below hbV1; have xxV1 := MID.out.xx.below hbV1; obtain ⟨q2, q3, q4⟩ := hk1 q _ _ qaa xqV1; obtain ⟨f2, f3, f4⟩ := hk2 _ _ _ (.inr rfl) xfV1
  obtain ⟨x2, x3, x4⟩ := hk2 _ _ _ (.inl rfl) xxV1; rw [hspV] at hr1; rw [hfc] at xfV xfV1 f2 f3 f4
  have sw : ∀ W : World, Blk W x 137 #[.map (some mr), .map (some mu)] → Blk W q 189 #[.string nm, .int .i64 n, .int .i64 0, .string ⟨#[]⟩] → Blk W w.heap.size 143 #[.string nm, .int .i64 n, .string s0, .string s1, .string s2] →
      W.cell? ⟨x, 1, none⟩ = some (.map (some mu)) ∧ (W.cell? ⟨q, 0, none⟩ = some (.string nm) ∧ W.cell? ⟨q, 1, none⟩ = some (.int .i64 n) ∧ W.cell? ⟨q, 2, none⟩ = some (.int .i64 0) ∧ W.cell? ⟨q, 3, none⟩ = some (.string ⟨#[]⟩)) ∧
      W.cell? ⟨w.heap.size, 0, none⟩ = some (.string nm) ∧ W.cell? ⟨w.heap.size, 1, none⟩ = some (.int .i64 n) ∧ W.cell? ⟨w.heap.size, 2, none⟩ = some (.string s0) ∧ W.cell? ⟨w.heap.size, 3, none⟩ = some (.string s1) ∧ W.cell? ⟨w.heap.size, 4, none⟩ = some (.string s2) :=
    fun W h1 h2 h3 => ⟨h1.cell 1, ⟨h2.cell 0, h2.cell 1, h2.cell 2, h2.cell 3⟩, h3.cell 0, h3.cell 1, h3.cell 2, h3.cell 3, h3.cell 4⟩
  have S0 := sw V xxV xqV xfV; have S1 := sw _ xxV1 xqV1 xfV1; have S2 := sw V2 x2 q2 f2; have S3 := sw V3 x3 q3 f3; have S4 := sw V4 x4 q4 f4; clear sw; have MID5 := hid MID4; have HVE := hid hVe; have HR2 := hid hr2; have HR3 := hid hr3; have HR1 := hid hr1; clear MID4 hk1 hk2 hVe hr1 hr2 hr3 q2 q3 q4 f2 f3 f4 x2 x3 x4 xqV1 xfV xxV xfV1 xxV1 xP hbV1 xqV hb3 xq z0 z1 z2 z3 z4; rw [hqq]
  refine wp_region_held_drew (S := fun W => W.cell? ⟨x, 1, none⟩ = some (.map (some mu)) ∧ (W.cell? ⟨q, 0, none⟩ = some (.string nm) ∧ W.cell? ⟨q, 1, none⟩ = some (.int .i64 n) ∧ W.cell? ⟨q, 2, none⟩ = some (.int .i64 0) ∧ W.cell? ⟨q, 3, none⟩ = some (.string ⟨#[]⟩)) ∧
      W.cell? ⟨w.heap.size, 0, none⟩ = some (.string nm) ∧ W.cell? ⟨w.heap.size, 1, none⟩ = some (.int .i64 n) ∧ W.cell? ⟨w.heap.size, 2, none⟩ = some (.string s0) ∧ W.cell? ⟨w.heap.size, 3, none⟩ = some (.string s1) ∧ W.cell? ⟨w.heap.size, 4, none⟩ = some (.string s2)) qae (by rw [HVE.out]; exact S0) ?_
  rw [HVE.out]; intro hS_; refine tk 0 (.pointer (some ⟨x, 0, none⟩)) hS_ ?_; refine tk 1 (.pointer (some ⟨x, 0, none⟩)) hS_ ?_; refine tk 2 (.pointer (some ⟨x, 1, none⟩)) hS_ ?_; refine tk 3 (.map (some mu)) hS_ ?_; refine tk 4 (.agg #[.string nm, .int .i64 n, .int .i64 0, .string ⟨#[]⟩]) hS_ ?_; refine tk 5 (.agg #[.string nm, .int .i64 n, .string s0, .string s1, .string s2]) hS_ ?_; refine rd1 6 fun K_ hK_ => ?_; go_simp; refine hK_.out _ _ S1 fun hS_ => ?_; clear hK_; refine rd1 7 fun K_ hK_ => ?_; refine wp_entry rfl rfl rfl HR1.out ?_; refine hK_.out _ _ S2 fun hS_ => ?_; clear hK_
  (try simp only [Act.put, List.setIfInBounds_toArray, List.set_cons_zero, List.set_cons_succ])
  refine tk 8 v hS_ ?_; refine tk 10 (.int .i64 (st : Nat)) hS_ ?_; refine rd1 9 fun K_ hK_ => ?_; refine wp_append_run rfl rfl rfl rfl HR2.out ?_; refine hK_.out _ _ S3 fun hS_ => ?_; clear hK_
  (try simp only [Act.put, List.setIfInBounds_toArray, List.set_cons_zero, List.set_cons_succ])
  refine rd1 11 fun K_ hK_ => ?_; refine wp_entryStore rfl rfl rfl rfl HR3.out ?_; refine hK_.out _ _ S4 fun hS_ => ?_; clear hK_; refine wpAnyH_done qae ?_ _; go_wp2_with fail; have z0 := MID5.out.xf.cell 0; have z1 := MID5.out.xf.cell 1; have z2 := MID5.out.xf.cell 2; have z3 := MID5.out.xf.cell 3; have z4 := MID5.out.xf.cell 4; simp [fcells, hn, hs0, hs1, hs2] at z0 z1 z2 z3 z4; have hn3 : (n : Int) ≤ 3 := by have := hf.few; simp only at this; omega
  clear S0 S1 S2 S3 S4 hS_; have hwsl := hid (words_slice V4 w.heap.size n qaa); go_wp2_with (rw [hwsl.out]); clear hwsl; go_loopw [36] (fun i wr => ∃ k : Nat, k ≤ n ∧ i = .int .i64 (k : Int) ∧ AddMid w Bs x mr mu w.heap.size L (nm, ts) r (k + 1) wr) (fun i _ => n - (intOf i).toNat)
  case atStart => exact ⟨0, Nat.zero_le _, rfl, MID5.out⟩
  case round =>
    clear MID5 z0 z1 z2 z3 z4 MID HVE HR1 HR2 HR3 HQ1; obtain ⟨k, hk, rfl, hM⟩ := hrel; have HM := hid hM; clear hM; by_cases hlt : k < n
    · have hltI : (k : Int) < (n : Int) := qaa
      have z0 := HM.out.xf.cell 0; have z1 := HM.out.xf.cell 1; have z2 := HM.out.xf.cell 2; have z3 := HM.out.xf.cell 3; have z4 := HM.out.xf.cell 4; simp [fcells, hn, hs0, hs1, hs2] at z0 z1 z2 z3 z4; obtain ⟨sk, hsk⟩ : ∃ sk, wordAt ts k = sk := ⟨_, rfl⟩
      have hzk : wr.cell? ⟨w.heap.size, 2 + k, none⟩ = some (.string sk) := by
        have hk3 : k = 0 ∨ k = 1 ∨ k = 2 := qaa; rcases hk3 with e | e | e <;> subst e
        · rw [← hsk, hs0]; exact z2
        · rw [← hsk, hs1]; exact z3
        · rw [← hsk, hs2]; exact z4
      go_wp2_with fail; have hsp : (spotsOf (nm, ts))[k + 1]? = some (atSpot (nm, ts) k (wordAt ts k)) := spots_at (a := (nm, ts)) (by show k < ts.length; omega); have hspV : spotV (atSpot (nm, ts) k (wordAt ts k)) = .agg #[.string nm, .int .i64 n, .int .i64 (k : Int), .string sk] := by rw [← hn, ← hsk]; rfl
      have xq := Blk.new wr 189 #[.string nm, .int .i64 n, .int .i64 (k : Int), .string sk]; have hb3 := below1 wr (.cells #[.string nm, .int .i64 n, .int .i64 (k : Int), .string sk] 189); obtain ⟨q, hqq⟩ : ∃ q, wr.heap.size = q := ⟨_, rfl⟩; obtain ⟨V, hVe⟩ : ∃ V, (wr.alloc (.cells #[.string nm, .int .i64 n, .int .i64 (k : Int), .string sk] 189)).drew = V := ⟨_, rfl⟩; have hbV : Below wr.heap.size wr V := by rw [← hVe]; exact hb3.drew
      have xqV : Blk V q 189 #[.string nm, .int .i64 n, .int .i64 (k : Int), .string sk] := by rw [← hVe, ← hqq]; exact xq
      have hbV1 := belowThen hbV (below1 V (.cells #[.string nm, .int .i64 n, .string s0, .string s1, .string s2] 143)); have hfc : (fcells (nm, ts)).toArray = #[.string nm, .int .i64 n, .string s0, .string s1, .string s2] := by unfold fcells; rw [hs0, hs1, hs2, hn]
      have xP := Blk.new V 143 #[.string nm, .int .i64 n, .string s0, .string s1, .string s2]; obtain ⟨V2, V3, V4, st, v, g, m, cap, hr1, hr2, hr3, MID6, hk1, hk2⟩ := HM.out.step hf hL hne hBs hmu hsp hbV1 (by rw [hfc]; exact xP) hbV.size; have xqV1 := xqV.alloc (.cells #[.string nm, .int .i64 n, .string s0, .string s1, .string s2] 143); have xfV := HM.out.xf.below hbV; have xxV := HM.out.xx.below hbV; have xfV1 := HM.out.xf.below hbV1; have xxV1 := HM.out.xx.below hbV1; obtain ⟨q2, q3, q4⟩ := hk1 q _ _ qaa xqV1; obtain ⟨f2, f3, f4⟩ := hk2 _ _ _ (.inr rfl) xfV1
      obtain ⟨x2, x3, x4⟩ := hk2 _ _ _ (.inl rfl) xxV1; rw [hspV] at hr1; rw [hfc] at xfV xfV1 f2 f3 f4
      have sw : ∀ W : World, Blk W x 137 #[.map (some mr), .map (some mu)] → Blk W q 189 #[.string nm, .int .i64 n, .int .i64 (k : Int), .string sk] → Blk W w.heap.size 143 #[.string nm, .int .i64 n, .string s0, .string s1, .string s2] →
          W.cell? ⟨x, 1, none⟩ = some (.map (some mu)) ∧ (W.cell? ⟨q, 0, none⟩ = some (.string nm) ∧ W.cell? ⟨q, 1, none⟩ = some (.int .i64 n) ∧ W.cell? ⟨q, 2, none⟩ = some (.int .i64 (k : Int)) ∧ W.cell? ⟨q, 3, none⟩ = some (.string sk)) ∧
          W.cell? ⟨w.heap.size, 0, none⟩ = some (.string nm) ∧ W.cell? ⟨w.heap.size, 1, none⟩ = some (.int .i64 n) ∧ W.cell? ⟨w.heap.size, 2, none⟩ = some (.string s0) ∧ W.cell? ⟨w.heap.size, 3, none⟩ = some (.string s1) ∧ W.cell? ⟨w.heap.size, 4, none⟩ = some (.string s2) :=
        fun W h1 h2 h3 => ⟨h1.cell 1, ⟨h2.cell 0, h2.cell 1, h2.cell 2, h2.cell 3⟩, h3.cell 0, h3.cell 1, h3.cell 2, h3.cell 3, h3.cell 4⟩
      have S0 := sw V xxV xqV xfV; have S1 := sw _ xxV1 xqV1 xfV1; have S2 := sw V2 x2 q2 f2; have S3 := sw V3 x3 q3 f3; have S4 := sw V4 x4 q4 f4; clear sw; have MID7 := hid MID6; have HVE := hid hVe; have HR2 := hid hr2; have HR3 := hid hr3; have HR1 := hid hr1; clear MID6 hk1 hk2 hVe hr1 hr2 hr3 q2 q3 q4 f2 f3 f4 x2 x3 x4 xqV1 xfV xxV xfV1 xxV1 xP hbV1 xqV hb3 xq; rw [hqq]
      refine wp_region_held_drew (S := fun W => W.cell? ⟨x, 1, none⟩ = some (.map (some mu)) ∧ (W.cell? ⟨q, 0, none⟩ = some (.string nm) ∧ W.cell? ⟨q, 1, none⟩ = some (.int .i64 n) ∧ W.cell? ⟨q, 2, none⟩ = some (.int .i64 (k : Int)) ∧ W.cell? ⟨q, 3, none⟩ = some (.string sk)) ∧
          W.cell? ⟨w.heap.size, 0, none⟩ = some (.string nm) ∧ W.cell? ⟨w.heap.size, 1, none⟩ = some (.int .i64 n) ∧ W.cell? ⟨w.heap.size, 2, none⟩ = some (.string s0) ∧ W.cell? ⟨w.heap.size, 3, none⟩ = some (.string s1) ∧ W.cell? ⟨w.heap.size, 4, none⟩ = some (.string s2)) qae (by rw [HVE.out]; exact S0) ?_
      rw [HVE.out]; intro hS_; refine tk 0 (.pointer (some ⟨x, 0, none⟩)) hS_ ?_; refine tk 1 (.pointer (some ⟨x, 0, none⟩)) hS_ ?_; refine tk 2 (.pointer (some ⟨x, 1, none⟩)) hS_ ?_; refine tk 3 (.map (some mu)) hS_ ?_; refine tk 4 (.agg #[.string nm, .int .i64 n, .int .i64 (k : Int), .string sk]) hS_ ?_; refine tk 5 (.agg #[.string nm, .int .i64 n, .string s0, .string s1, .string s2]) hS_ ?_; refine rd1 6 fun K_ hK_ => ?_; go_simp; refine hK_.out _ _ S1 fun hS_ => ?_; clear hK_; refine rd1 7 fun K_ hK_ => ?_; refine wp_entry rfl rfl rfl HR1.out ?_; refine hK_.out _ _ S2 fun hS_ => ?_; clear hK_
      (try simp only [Act.put, List.setIfInBounds_toArray, List.set_cons_zero, List.set_cons_succ])
      refine tk 8 v hS_ ?_; refine tk 10 (.int .i64 (st : Nat)) hS_ ?_; refine rd1 9 fun K_ hK_ => ?_; refine wp_append_run rfl rfl rfl rfl HR2.out ?_; refine hK_.out _ _ S3 fun hS_ => ?_; clear hK_
      (try simp only [Act.put, List.setIfInBounds_toArray, List.set_cons_zero, List.set_cons_succ])
      refine rd1 11 fun K_ hK_ => ?_; refine wp_entryStore rfl rfl rfl rfl HR3.out ?_; refine hK_.out _ _ S4 fun hS_ => ?_; clear hK_; refine wpAnyH_done qae ?_ _; clear S0 S1 S2 S3 S4 hS_; go_wp2; refine ⟨⟨k + 1, by omega, by go_num, MID7.out⟩, by simp [intOf]; omega⟩
    · have hkn : k = n := qaa
      subst hkn; have hD := HM.out; rw [← hn] at hD; have HD := hid (AddMid.done (f := (nm, ts)) hD hf hok hbx hmr hmu hne); clear hD; go_wp2; exact bodyPost_end (results_none rfl _ _ _) rfl ⟨rfl, HD.out.1, HD.out.2⟩
end Go.Proofs.YtcigljngiemdeaaGreat
