/-
  Whether there are words by which all parts hold, as the program looks for it.
-/
import Derived.Test.YtcigljngiemdeaaGreatAo0
import Derived.Test.YtcigljngiemdeaaGreatAo28
set_option maxRecDepth 100000
set_option maxHeartbeats 8000000
namespace Go.Proofs.YtcigljngiemdeaaGreat
open Go.RowKit
theorem PartsIn.cut {w : World} {hiT n c k : Nat} {Ok : Nat → Prop} {A : Option Addr} {qs : List Pr} (h : PartsIn w hiT Ok A n c qs) (hk : k ≤ n) : PartsIn w hiT Ok (if c = k then A else A.map (·.add (k * 3))) (n - k) (c - k) (qs.drop k) := by
  cases A with
  | some p =>
    have := h.drop hk; by_cases e : c = k
    · rw [if_pos e]; rw [if_pos e.symm] at this; exact this
    · rw [if_neg e]; rw [if_neg (fun h => e h.symm)] at this; exact this
  | none =>
    have h0 : n = 0 := by
      rcases Nat.eq_zero_or_pos n with h0 | h0
      · exact h0
      · obtain ⟨p, hp, _⟩ := h.row h0; cases hp
    have hk0 : k = 0 := qaa; subst h0; subst hk0; have hq : qs = [] := List.length_eq_zero_iff.1 h.len; subst hq; rw [show (if c = 0 then none else Option.map (fun (x : Addr) => x.add (0 * 3)) none) = (none : Option Addr) by split <;> rfl]; exact ⟨rfl, Nat.zero_le _, h.max, fun h0 => by omega, fun q hq => by simp at hq⟩
theorem store3 {W : World} {Q T : Nat} {a0 a1 a2 v0 v1 v2 : Value} (h : Blk W Q T #[a0, a1, a2]) : Blk (((W.setCell ⟨Q, 0, none⟩ v0).setCell ⟨Q, 1, none⟩ v1).setCell ⟨Q, 2, none⟩ v2) Q T #[v0, v1, v2] ∧ (∀ k, k ≠ Q → (((W.setCell ⟨Q, 0, none⟩ v0).setCell ⟨Q, 1, none⟩ v1).setCell ⟨Q, 2, none⟩ v2).heap[k]? = W.heap[k]?) ∧ (((W.setCell ⟨Q, 0, none⟩ v0).setCell ⟨Q, 1, none⟩ v1).setCell ⟨Q, 2, none⟩ v2).heap.size = W.heap.size ∧ ∀ w0 : World, Below w0.heap.size w0 W → w0.heap.size ≤ Q → Below w0.heap.size w0 (((W.setCell ⟨Q, 0, none⟩ v0).setCell ⟨Q, 1, none⟩ v1).setCell ⟨Q, 2, none⟩ v2) :=
  ⟨by simpa using ((h.set 0 v0).set 1 v1).set 2 v2, fun k hk => (hs_ _ _ _ k hk).trans ((hs_ _ _ _ k hk).trans (hs_ _ _ _ k hk)), by rw [size_setCell, size_setCell, size_setCell], fun w0 hb hq => ((hb.setCell (p := ⟨Q, 0, none⟩) hq _).setCell (p := ⟨Q, 1, none⟩) hq _).setCell (p := ⟨Q, 2, none⟩) hq _⟩
theorem PartsIn.past {w w' : World} {hiT n c Q : Nat} {Ok Ok' : Nat → Prop} {A : Option Addr} {qs : List Pr} (h : PartsIn w hiT Ok A n c qs) (hk : ∀ k, k ≠ Q → w'.heap[k]? = w.heap[k]?) (hs : w'.heap.size = w.heap.size) (hT : hiT ≤ Q) (hO : ∀ k, k < w.heap.size → Ok k → k ≠ Q ∧ Ok' k) : PartsIn w' hiT Ok' A n c qs :=
  (h.more fun k hl ho => (hO k hl ho)).keep (Ok := fun k => k ≠ Q ∧ Ok' k) (fun k hk' => hk k qaa) (fun k ho _ => hk k ho.1) (Nat.le_of_eq hs.symm) |>.more fun _ _ ho => ho.2
def HoldsPost (g : Nat) (b : Bd) (p : Prop) (w : World) (e : Ending) (w' : World) : Prop := (∃ k, e = .returned (.bool k) ∧ (k = true ↔ p)) ∧ FarG g w w' ∧ BdIn w' g b
theorem SeekIn.far {w w' : World} {Bs : Nat → Prop} {x g : Nat} {L : List (At × Nat)} {b : Bd} {hiT : Nat} {V : List ByteArray} (h : SeekIn w Bs x g L b hiT V) (hf : FarG g w w') (hb : BdIn w' g b) : SeekIn w' Bs x g L b hiT V :=
  ⟨h.ix.keep fun k hk hl => hf.block k hl (fun e => h.off (e ▸ hk)), h.few, hb, Nat.lt_of_lt_of_le h.lt hf.size, h.off, h.sm, h.keys, h.vs, h.line⟩
theorem PartsIn.far {w w' : World} {hiT g n c : Nat} {Ok : Nat → Prop} {A : Option Addr} {qs : List Pr} (h : PartsIn w hiT Ok A n c qs) (hf : FarG g w w') (hT : hiT ≤ g) (hg : g < w.heap.size) (hO : ∀ k, Ok k → k ≠ g) : PartsIn w' hiT Ok A n c qs :=
  h.keep (fun k hk => hf.block k qaa qaa) (fun k hk hl => hf.block k hl (hO k hk)) hf.size
abbrev factsOf (L : List (At × Nat)) : List At := L.map (·.1)
def VarsIn (V : List ByteArray) (qs : List Pr) : Prop := ∀ q ∈ qs, ∀ x, (true, x) ∈ q.ts → x ∈ V
def HoldsAt (Bs : Nat → Prop) (x g : Nat) (L : List (At × Nat)) (hiT : Nat) (V : List ByteArray) (N : Nat) : Prop :=
  ∀ (b : Bd) (Ok : Nat → Prop) (A : Option Addr) (n c : Nat) (qs : List Pr) (w : World), n ≤ N → SeekIn w Bs x g L b hiT V → PartsIn w hiT Ok A n c qs → (∀ k, k < w.heap.size → Ok k → k ≠ g) → VarsIn V qs → WfP (qs.map Pr.pt) b →
    Calls Tryz.prog 98 #[.agg #[.pointer (some ⟨x, 0, none⟩), .pointer (some ⟨x, 0, none⟩)], .slice A n c, .pointer (some ⟨g, 0, none⟩)] w (HoldsPost g b (Sat (factsOf L) (qs.map Pr.pt) b) w)
def GroupAt (Bs : Nat → Prop) (x g : Nat) (L : List (At × Nat)) (hiT : Nat) (V : List ByteArray) (N : Nat) : Prop :=
  ∀ (b : Bd) (Ok : Nat → Prop) (A : Option Addr) (n c : Nat) (qs : List Pr) (ps : List Pt) (w : World), n ≤ N → 0 < n → SeekIn w Bs x g L b hiT V → PartsIn w hiT Ok A n c qs → (∀ k, k < w.heap.size → Ok k → k ≠ g) → VarsIn V qs → WfP (qs.map Pr.pt) b → qs.map Pr.pt ∈ groupsB b ps →
    Calls Tryz.prog 134 #[.agg #[.pointer (some ⟨x, 0, none⟩), .pointer (some ⟨x, 0, none⟩)], .slice A n c, .pointer (some ⟨g, 0, none⟩)] w (HoldsPost g b (Sat (factsOf L) (qs.map Pr.pt) b) w)
theorem ix_words {w : World} {Bs : Nat → Prop} {x : Nat} {L : List (At × Nat)} (h : IxIn w Bs x L) : WordsAll (factsOf L) := fun f hf u hu => by
  obtain ⟨q, hq, rfl⟩ := List.mem_map.1 hf; exact ((h.ok q hq).words u hu).1
theorem hfar_blk {w6 w9 wr : World} {g Q T : Nat} {cs : Array Value} (h : Blk w6 Q T cs) (hb : Below w6.heap.size w6 w9) (hf : FarG g w9 wr) (hq : Q ≠ g) : Blk wr Q T cs :=
  (hf.block Q (Nat.lt_of_lt_of_le h.lt hb.size) hq).trans (h.below hb)
theorem HFA9 {wr wa : World} {o : Obj} (h : wr.alloc o = wa) : Below wr.heap.size wr wa := by rw [← h]; exact below1 wr o
theorem fill_key {b : Bd} {q : Pr} {w : World} {hiT : Nat} (h : PrOk w hiT q) (hs : SmB b) : KeyOk (fillA q.pt.2 b) := by
  refine ⟨h.1, ?_, fun u hu => ?_⟩
  · show (q.ts.map (fillT b)).length ≤ 3
    rw [List.length_map, h.2.2.1]; exact h.2.1
  · obtain ⟨t, ht0, rfl⟩ := List.mem_map.1 hu
    have ht : t ∈ q.ts := ht0; refine ⟨rfl, hs.word ?_⟩; obtain ⟨i, hi⟩ := List.getElem?_of_mem ht; have hil : i < q.n := by have := (List.getElem?_eq_some_iff.1 hi).1; have := h.2.2.1; omega
    obtain ⟨_, t', _, _, _, e, _, _, hz⟩ := h.2.2.at_ hil; rw [hi] at e; injection e with e; subst e; exact hz
theorem match_sm {a f : At} {b b' : Bd} (h : SmB b) (hf : FactOk f) (e : matchA a f b = some b') : SmB b' := fun q hq =>
  (matchA_small (K := b.length) ⟨nl _, h⟩ (fun u hu => (hf.words u hu).2.1) e).2 q hq
theorem matchA_of_kind {a f : At} {b : Bd} (h1 : f.1 = a.1) (h2 : f.2.length = a.2.length) : matchA a f b = matchT a.2 f.2 b := by
  unfold matchA; rw [if_pos ⟨h1.symm, h2.symm⟩]
theorem open_must {qs : List Pr} {b : Bd} {k : Nat} {q : Pr} (hwf : WfP (qs.map Pr.pt) b) (hk : qs[k]? = some q) (hm : (∃ q ∈ qs, q.no = false) → ∃ q, qs[k]? = some q ∧ q.no = false) (ho : wholeB b q.pt.2 = false) : q.no = false := by
  by_cases h : ∃ q ∈ qs, q.no = false
  · obtain ⟨q', h1, h2⟩ := hm h
    rw [hk] at h1; injection h1 with h1; rw [h1]; exact h2
  · have hall : ∀ r ∈ qs.map Pr.pt, r.1 = true := fun r hr => by
      obtain ⟨s, hs, rfl⟩ := List.mem_map.1 hr
      cases hn : s.no with
      | true => exact hn
      | false => exact absurd ⟨s, hs, hn⟩ h
    have := hwf.nots hall q.pt (List.mem_map.2 ⟨q, List.mem_of_getElem? hk, rfl⟩); rw [ho] at this; cases this
theorem groupAt (Bs : Nat → Prop) (x g : Nat) (L : List (At × Nat)) (hiT : Nat) (V : List ByteArray) (N : Nat) (hN : N ≤ 1000) (ih : HoldsAt Bs x g L hiT V N) : GroupAt Bs x g L hiT V (N + 1) := by
  intro b Ok A n c qs ps w hn hn0 h hq hO hV hwf hps; have H := hid h; have HQ := hid hq; have HL := hid hq.len; have HO := hid hO; have HV := hid hV; have HWF := hid hwf; have HPS := hid hps; have IH := hid ih; have hcap := hq.cap; have hmax := hq.max; unfold maxLen at hmax; have hlg := h.line; have hglt := h.lt; have hb1 := below1 w (.cells #[.pointer (some ⟨x, 0, none⟩), .pointer (some ⟨x, 0, none⟩)] 79); have xs := Blk.new w 79 #[.pointer (some ⟨x, 0, none⟩), .pointer (some ⟨x, 0, none⟩)]; obtain ⟨w1, hq1⟩ : ∃ w1, w.alloc (.cells #[.pointer (some ⟨x, 0, none⟩), .pointer (some ⟨x, 0, none⟩)] 79) = w1 := ⟨_, rfl⟩
  rw [hq1] at hb1 xs; have hs0 := xs.cell 0; have hs1 := xs.cell 1; simp at hs0 hs1; have hfw := implFewest_any Bs x g L b hiT V Ok A n c qs w1 (h.below hb1) (hq.up qaa hb1); have HFW := hid hfw; have HQ1 := hid hq1; have HB1 := hid hb1; have XS := hid xs; clear h hq hq1 hb1 xs hO hV hwf hps hfw ih; go_enter Tryz.func134, Tryz.ntmps134; go_wp2_with (rw [HQ1.out]); refine HFW.out.mono ?_; rintro e w2 ⟨k, rfl, hk, hmust, hb2⟩; have hkn : k < n := qec; have hknI : (k : Int) < (n : Int) := qaa; have hkc : (k : Int) ≤ (c : Int) := qaa
  have hk1 : ((k : Int) + 1) ≤ (n : Int) := qaa; have hk0 : ¬ ((k : Int) + 1) < 0 := qaa; have hk2 : ((k : Int) + 1).toNat = k + 1 := qaa; have hkw : IntKind.i64.wrap ((k : Int) + 1) = (k : Int) + 1 := qbj; have hbw2 := belowThen HB1.out hb2; have HQ2 := HQ.out.up qaa hbw2; obtain ⟨p, q, hA, hOp, hpb, hqk, z0, z1, z2⟩ := HQ2.at_ hkn; subst hA; have hcut := HQ2.cut (k := k + 1) qaa; have htake := HQ2.take (k := k) qaa; obtain ⟨D, hD⟩ : ∃ D, (if c = k + 1 then some p else (some p).map (·.add ((k + 1) * 3))) = D := ⟨_, rfl⟩; rw [hD] at hcut; have HD := hid hD; have HMU := hid hmust; have HB2 := hid hb2; have HW2 := hid hbw2; have HQK := hid hqk; have HPQ := hid (HQ2.ok q (List.mem_of_getElem? hqk))
  have HCUT := hid hcut; have HTK := hid htake; have hs2 := hbw2.size; clear hD hmust hb2 hbw2 hqk hcut htake HFW HQ2 hOp; go_wp2_with fail; obtain ⟨V2, hVe⟩ : ∃ V2, w2.drew = V2 := ⟨_, rfl⟩; have HVE := hid hVe; have hb2v : Below w2.heap.size w2 V2 := by rw [← hVe]; exact (Below.refl _ _).drew
  have u0 : V2.cell? (p.add (k * 3)) = some (.bool q.no) := by rw [← hVe]; exact z0
  have u1 : V2.cell? ⟨(p.add (k * 3)).block, (p.add (k * 3)).off + 1, none⟩ = some (.string q.nm) := by rw [← hVe]; exact z1
  have u2 : V2.cell? ⟨(p.add (k * 3)).block, (p.add (k * 3)).off + 2, none⟩ = some (.slice q.A q.n q.c) := by rw [← hVe]; exact z2
  clear hVe z0 z1 z2
  have sw : ∀ W : World, Below V2.heap.size V2 W → W.cell? (p.add (k * 3)) = some (.bool q.no) ∧ W.cell? ⟨(p.add (k * 3)).block, (p.add (k * 3)).off + 1, none⟩ = some (.string q.nm) ∧ W.cell? ⟨(p.add (k * 3)).block, (p.add (k * 3)).off + 2, none⟩ = some (.slice q.A q.n q.c) := fun W hW => by
    have hpv : (p.add (k * 3)).block < V2.heap.size := by rw [block_add]; exact Nat.lt_of_lt_of_le hpb hb2v.size
    exact ⟨(hW.cell hpv).trans u0, (hW.cell (p := ⟨(p.add (k * 3)).block, _, none⟩) hpv).trans u1, (hW.cell (p := ⟨(p.add (k * 3)).block, _, none⟩) hpv).trans u2⟩
  have SW := hid sw; have HB2V := hid hb2v; clear sw u0 u1 u2 hb2v hpb
  have hrest : ∀ W : World, Below V2.heap.size V2 W → PartsIn W hiT Ok (some p) k c (qs.take k) ∧ PartsIn W hiT Ok D (n - (k + 1)) (c - (k + 1)) (qs.drop (k + 1)) := fun W hW =>
    ⟨(HTK.out.up qaa HB2V.out).up (by have := HB2V.out.size; omega) hW, (HCUT.out.up qaa HB2V.out).up (by have := HB2V.out.size; omega) hW⟩
  have HRT := hid hrest; clear hrest; refine wp_region_held_drew (S := fun W => W.cell? (p.add (k * 3)) = some (.bool q.no) ∧ W.cell? ⟨(p.add (k * 3)).block, (p.add (k * 3)).off + 1, none⟩ = some (.string q.nm) ∧ W.cell? ⟨(p.add (k * 3)).block, (p.add (k * 3)).off + 2, none⟩ = some (.slice q.A q.n q.c)) qae (by rw [HVE.out]; exact SW.out _ (Below.refl _ _)) ?_; rw [HVE.out]; intro hS_; refine tk 0 (.slice (some p) n c) hS_ ?_; refine tk 1 (.int .i64 (k : Int)) hS_ ?_; refine tk 2 (.pointer (some (p.add (k * 3)))) hS_ ?_; refine tk 3 (.agg #[.bool q.no, .string q.nm, .slice q.A q.n q.c]) hS_ ?_; refine tk 4 (.slice (some p) n c) hS_ ?_
  refine tk 5 (.int .i64 (k : Int)) hS_ ?_; refine tk 6 (.slice (some p) k c) hS_ ?_; refine tk 7 (.slice (some p) n c) hS_ ?_; refine tk 8 (.int .i64 (k : Int)) hS_ ?_; refine tk 9 (.int .i64 ((k : Int) + 1)) hS_ ?_; refine tk 10 (.slice D (n - (k + 1)) (c - (k + 1))) hS_ ?_ (hy := Or.inl ⟨by rfl, fun w_ hSw_ => by rw [← HD.out]; go_simp⟩); have hcz : (n - (k + 1) : Nat) ≤ 1000 := qaa
  have key : ∀ W R : _, Below V2.heap.size V2 W → Blk W R 30 #[.slice (some p) k c, .slice D (n - (k + 1)) (c - (k + 1))] → Calls Tryz.prog 48 #[.slice (some ⟨R, 0, none⟩) 2 2] W (ConcatPost hiT (qs.take k ++ qs.drop (k + 1)) W) := fun W R hW hR =>
    implConcat_any hiT Ok _ _ _ _ _ _ _ _ R W (HRT.out W hW).1 (HRT.out W hW).2 hR (by have := hW.size; have := HB2V.out.size; omega) qaa hcz
  have KEY := hid key; clear key hcz; refine rd2 11 13 (fun K_ hK_ => ?oA) (fun K_ hK_ => ?oB)
  case' oA =>
    rw [if_pos qab]; go_simp; have hb3 := below1 V2 (.cells #[.slice (some p) k c, .slice D (n - (k + 1)) (c - (k + 1))] 30); refine hK_.out _ _ (SW.out _ hb3) fun hS_ => ?_; clear hK_
    (try simp only [Act.put, List.setIfInBounds_toArray, List.set_cons_zero, List.set_cons_succ])
    refine rd2 12 13 (fun K_ hK_ => ?oC) (fun K_ hK_ => ?oD)
    case' oC =>
      rw [if_pos qab]; go_simp; go_at_call 48; refine (KEY.out _ V2.heap.size hb3 (Blk.new V2 _ _)).mono ?_; rintro e w4 ⟨A4, c4, rfl, hP4, hb4⟩; have hb24 := belowThen hb3 hb4; refine hK_.out _ _ (SW.out _ hb24) fun hS_ => ?_; clear hK_
      (try simp only [Act.put, List.setIfInBounds_toArray, List.set_cons_zero, List.set_cons_succ])
      have hb45 := below1 w4 (.cells #[.bool false, .string ⟨#[]⟩, .slice none 0 0] 52); have xQ := Blk.new w4 52 #[.bool false, .string ⟨#[]⟩, .slice none 0 0]; have hb25 := belowThen hb24 hb45; have hP5 := (hP4.more (Ok' := fun k => k ≠ g ∧ k ≠ w4.heap.size) fun k hl ho => ⟨by have := hb3.size; have := HB2V.out.size; omega, by omega⟩).up (by have := hb24.size; have := HB2V.out.size; omega) hb45; have hQ2 : V2.heap.size ≤ w4.heap.size := hb24.size; refine rd1 13 fun K_ hK_ => ?_; go_simp; refine hK_.out _ _ (SW.out _ hb25) fun hS_ => ?_
      clear hK_ hb3 hb4 hb24 hb45 hP4
      (try simp only [Act.put, List.setIfInBounds_toArray, List.set_cons_zero, List.set_cons_succ])
      obtain ⟨w5, hq5⟩ : ∃ w5, w4.alloc (.cells #[.bool false, .string ⟨#[]⟩, .slice none 0 0] 52) = w5 := ⟨_, rfl⟩; obtain ⟨Q, hQ⟩ : ∃ Q, w4.heap.size = Q := ⟨_, rfl⟩; rw [hq5] at xQ hb25 hP5 hS_ ⊢; rw [hQ] at xQ hP5 hQ2 ⊢; clear hq5 hQ
    case' oD =>
      rw [if_pos qab]; go_simp; have hb34 := below1 (V2.alloc (.cells #[.slice (some p) k c, .slice D (n - (k + 1)) (c - (k + 1))] 30)) (.cells #[.bool false, .string ⟨#[]⟩, .slice none 0 0] 52); have hb24 := belowThen hb3 hb34; have xR := (Blk.new V2 30 #[.slice (some p) k c, .slice D (n - (k + 1)) (c - (k + 1))]).alloc (.cells #[.bool false, .string ⟨#[]⟩, .slice none 0 0] 52); have xQ0 := Blk.made (b := V2.heap.size + 1) (V2.alloc (.cells #[.slice (some p) k c, .slice D (n - (k + 1)) (c - (k + 1))] 30)) 52 #[.bool false, .string ⟨#[]⟩, .slice none 0 0] qad
      refine hK_.out _ _ (SW.out _ hb24) fun hS_ => ?_; clear hK_
      (try simp only [Act.put, List.setIfInBounds_toArray, List.set_cons_zero, List.set_cons_succ])
      refine rd1 12 fun K_ hK_ => ?_; go_simp; go_at_call 48; refine (KEY.out _ V2.heap.size hb24 xR).mono ?_; rintro e w5 ⟨A4, c4, rfl, hP4, hb4⟩; have hb25 := belowThen hb24 hb4; have xQ := xQ0.below hb4; have hQ2 : V2.heap.size ≤ V2.heap.size + 1 := Nat.le_succ _; have hP5 := hP4.more (Ok' := fun k => k ≠ g ∧ k ≠ V2.heap.size + 1) fun k hl ho => by simp at ho; have := HB2V.out.size; exact ⟨by omega, by omega⟩
      refine hK_.out _ _ (SW.out _ hb25) fun hS_ => ?_; clear hK_ hb3 hb4 hb24 hb34 hP4 xQ0 xR
      (try simp only [Act.put, List.setIfInBounds_toArray, List.set_cons_zero, List.set_cons_succ])
      obtain ⟨Q, hQ⟩ : ∃ Q, V2.heap.size + 1 = Q := ⟨_, rfl⟩; rw [hQ] at xQ hP5 hQ2 ⊢; clear hQ
  case' oB =>
    rw [if_pos qab]; go_simp; have hb3 := below1 V2 (.cells #[.bool false, .string ⟨#[]⟩, .slice none 0 0] 52); have xQ0 := (Blk.new V2 52 #[.bool false, .string ⟨#[]⟩, .slice none 0 0]).alloc (.cells #[.slice (some p) k c, .slice D (n - (k + 1)) (c - (k + 1))] 30); have xR := Blk.made (b := V2.heap.size + 1) (V2.alloc (.cells #[.bool false, .string ⟨#[]⟩, .slice none 0 0] 52)) 30 #[.slice (some p) k c, .slice D (n - (k + 1)) (c - (k + 1))] qad; refine hK_.out _ _ (SW.out _ hb3) fun hS_ => ?_
    clear hK_
    (try simp only [Act.put, List.setIfInBounds_toArray, List.set_cons_zero, List.set_cons_succ])
    refine rd1 11 fun K_ hK_ => ?_; go_simp; have hb34 := below1 (V2.alloc (.cells #[.bool false, .string ⟨#[]⟩, .slice none 0 0] 52)) (.cells #[.slice (some p) k c, .slice D (n - (k + 1)) (c - (k + 1))] 30); have hb24 := belowThen hb3 hb34; refine hK_.out _ _ (SW.out _ hb24) fun hS_ => ?_; clear hK_
    (try simp only [Act.put, List.setIfInBounds_toArray, List.set_cons_zero, List.set_cons_succ])
    refine rd1 12 fun K_ hK_ => ?_; go_simp; go_at_call 48; refine (KEY.out _ (V2.heap.size + 1) hb24 xR).mono ?_; rintro e w5 ⟨A4, c4, rfl, hP4, hb4⟩; have hb25 := belowThen hb24 hb4; have xQ := xQ0.below hb4; have hQ2 : V2.heap.size ≤ V2.heap.size := nl _; have hP5 := hP4.more (Ok' := fun k => k ≠ g ∧ k ≠ V2.heap.size) fun k hl ho => by simp at ho; have := HB2V.out.size; exact ⟨by omega, by omega⟩
    refine hK_.out _ _ (SW.out _ hb25) fun hS_ => ?_; clear hK_ hb3 hb4 hb24 hb34 hP4 xQ0 xR
    (try simp only [Act.put, List.setIfInBounds_toArray, List.set_cons_zero, List.set_cons_succ])
    obtain ⟨Q, hQ⟩ : ∃ Q, V2.heap.size = Q := ⟨_, rfl⟩; have hQ3 : V2.heap.size ≤ Q := qaa; rw [hQ] at xQ hP5 ⊢; clear hQ hQ2; have hQ2 := hQ3; clear hQ3
  all_goals
    have y0 := xQ.cell 0; have y1 := xQ.cell 1; have y2 := xQ.cell 2; have f0 := xQ.frozen 0; have f1 := xQ.frozen 1; have f2 := xQ.frozen 2; simp at y0 y1 y2; refine rd1 14 fun K_ hK_ => ?_; go_simp; obtain ⟨x1, x2, x3, x4⟩ := store3 (v0 := .bool q.no) (v1 := .string q.nm) (v2 := .slice q.A q.n q.c) xQ; have hP6 := hP5.past (Ok' := fun k => k ≠ g ∧ k ≠ Q) x2 x3 (by have := HB2V.out.size; omega) (fun k _ ho => ⟨ho.2, ho⟩); have hb26 := x4 V2 hb25 hQ2; obtain ⟨w6, hq6⟩ : ∃ w6, ((w5.setCell ⟨Q, 0, none⟩ (.bool q.no)).setCell ⟨Q, 1, none⟩ (.string q.nm)).setCell ⟨Q, 2, none⟩ (.slice q.A q.n q.c) = w6 := ⟨_, rfl⟩
    rw [hq6] at x1 hP6 hb26 ⊢; clear hq6 x2 x3 x4 y0 y1 y2 f0 f1 f2 hP5 hb25 xQ; refine hK_.out _ _ (SW.out _ hb26) fun hS_ => ?_; clear hK_; refine tk 15 (.slice A4 (qs.take k ++ qs.drop (k + 1)).length c4) hS_ ?_; refine wpAnyH_done qae ?_ _; have HX := hid x1; have HP6 := hid hP6; have HB26 := hid (HB2V.out.trans (hb26.mono HB2V.out.size)); clear x1 hP6 hb26 hS_; have HXS := hid (XS.out.below (HB2.out.trans (HB26.out.mono HB2.out.size))); have hv2s := HB2V.out.size; clear HVE SW HB2V HRT KEY HCUT HTK HD; have HBW2 := HW2; obtain ⟨rs, hrs⟩ : ∃ rs, qs.take k ++ qs.drop (k + 1) = rs := ⟨_, rfl⟩; rw [hrs] at HP6 ⊢
    have hml : rs.length + 1 = n := by rw [← hrs, ← HL.out]; exact parted_len HQK.out
    obtain ⟨m, hm⟩ : ∃ m, rs.length = m := ⟨_, rfl⟩; rw [hm] at HP6 hml ⊢; have HRS := hid hrs; have hrsp : rs.map Pr.pt = (qs.map Pr.pt).take k ++ (qs.map Pr.pt).drop (k + 1) := by rw [← hrs, List.map_append, List.map_take, List.map_drop]
    have HRP := hid hrsp; have hqkp : (qs.map Pr.pt)[k]? = some q.pt := by rw [List.getElem?_map, HQK.out]; rfl
    have HQP := hid hqkp; clear hrs hm hrsp hqkp; have HBW := hid (belowThen HW2.out HB26.out); have hs6 := HBW.out.size; have hQg : Q ≠ g := by have := HB26.out.size; have := HW2.out.size; omega
    have hpq6 := HPQ.out.keep (w' := w6) fun k hk => HB26.out.block k qaa; have HPQ6 := hid hpq6; have hfo := implFactOf_any g b q.nm q.A q.n q.c q.ts w6 (H.out.below HBW.out).bd qaa (hpq6.2.2.keep (fun _ _ _ => rfl) (nl _) qaa) hpq6.2.1; have y0 := HX.out.cell 0; have y1 := HX.out.cell 1; have y2 := HX.out.cell 2; simp at y0 y1 y2; have HFO := hid hfo; clear hpq6 hfo; obtain ⟨pr, hpr⟩ : ∃ pr, Sat (factsOf L) (qs.map Pr.pt) b = pr := ⟨_, rfl⟩; have HPR := hid hpr; clear hpr
    cases hwh : wholeB b (q.nm, q.ts) with
    | true =>
      have hsat := group_whole (list := factsOf L) HPS.out HQP.out (show wholeB b q.pt.2 = true from hwh); have hky := fill_key HPQ.out H.out.sm; obtain ⟨fa, hfa⟩ : ∃ fa, fillA q.pt.2 b = fa := ⟨_, rfl⟩; have hfo2 := HFO.out; rw [hwh, if_pos rfl, show fillA (q.nm, q.ts) b = fa from hfa] at hfo2; rw [hfa] at hky; have hso : (SoB (factsOf L) b q.pt ↔ (q.no = true ↔ fa ∉ L.map (·.1))) := by unfold SoB; rw [hfa]; exact Iff.rfl
      have hpi : pr ↔ (q.no = true ↔ fa ∉ L.map (·.1)) := by rw [← HPR.out, hsat, hso]
      have hV : factV fa = .agg #[.string fa.1, .int .i64 fa.2.length, .string (wordAt fa.2 0), .string (wordAt fa.2 1), .string (wordAt fa.2 2)] := rfl; have HPI := hid hpi; have HKY := hid hky; have HVV := hid hV; rw [hV] at hfo2; have HFO2 := hid hfo2; clear hsat hso hpi hky hV hfo2 HFO hfa hwh; go_wp2_with fail; refine HFO2.out.mono ?_; rintro e w7 ⟨rfl, hb7⟩; have hb78 := belowThen hb7 (below1 w7 (.cells #[.string fa.1, .int .i64 fa.2.length, .string (wordAt fa.2 0), .string (wordAt fa.2 1), .string (wordAt fa.2 2)] 143)); have xF := Blk.new w7 143 #[.string fa.1, .int .i64 fa.2.length, .string (wordAt fa.2 0), .string (wordAt fa.2 1), .string (wordAt fa.2 2)]
      obtain ⟨w8, hq8⟩ : ∃ w8, w7.alloc (.cells #[.string fa.1, .int .i64 fa.2.length, .string (wordAt fa.2 0), .string (wordAt fa.2 1), .string (wordAt fa.2 2)] 143) = w8 := ⟨_, rfl⟩; rw [hq8] at hb78 xF; have HQ8 := hid hq8; have v0 := (HX.out.below hb78).cell 0; have v1 := (HX.out.below hb78).cell 1; have v2 := (HX.out.below hb78).cell 2; have s0 := (HXS.out.below hb78).cell 0; have s1 := (HXS.out.below hb78).cell 1; have g0 := xF.cell 0; have g1 := xF.cell 1; have g2 := xF.cell 2; have g3 := xF.cell 3; have g4 := xF.cell 4; simp at v0 v1 v2 s0 s1 g0 g1 g2 g3 g4; have hbw8 := belowThen HBW.out hb78
      have his := implIsSo_any Bs x L fa q.no q.nm q.A q.n q.c w8 (H.out.below hbw8).ix HKY.out; rw [HVV.out] at his; have HIS := hid his; have HBW8 := hid hbw8; clear his hbw8 hb78 hb7 xF hq8 y0 y1 y2; go_wp2_with (first | rw [HQ8.out]); refine HIS.out.mono ?_; rintro e w9 ⟨⟨k9, rfl, hk9⟩, hb9⟩; have HK9 := hid (hk9.trans HPI.out.symm); have HB9 := hid (belowThen HBW8.out hb9); clear hk9 hb9; go_wp2
      refine bodyPost_ret (v := .bool k9) qbl rfl ⟨⟨k9, rfl, by rw [HPR.out]; exact HK9.out⟩, FarG.of_below HB9.out, (H.out.below HB9.out).bd⟩
    | false =>
      have hno := open_must HWF.out HQK.out HMU.out (show wholeB b q.pt.2 = false from hwh); have hsat := group_sat (b := b) (ix_words H.out.ix) HQP.out (show q.pt.1 = false from hno); rw [← HRP.out, HPR.out] at hsat
      have hwfr : ∀ f ∈ factsOf L, ∀ b', matchA q.pt.2 f b = some b' → WfP (rs.map Pr.pt) b' := fun f hf b' hm => by
        rw [HRP.out]; exact (parted_wf HWF.out HQP.out).on (fun u hu => ix_words H.out.ix f hf u hu) hm
      have HSAT := hid hsat; have HWR := hid hwfr; have hfo2 := HFO.out; rw [hwh] at hfo2
      have hfo3 : Calls Tryz.prog 94 #[.pointer (some ⟨g, 0, none⟩), .agg #[.string q.nm, .slice q.A q.n q.c]] w6 fun e w' => e = .returned (.tuple #[.agg #[.string ⟨#[]⟩, .int .i64 0, .string ⟨#[]⟩, .string ⟨#[]⟩, .string ⟨#[]⟩], .bool false]) ∧ Below w6.heap.size w6 w' := by
        simpa [noFact] using hfo2
      have HFO2 := hid hfo3; clear hsat hwfr hfo2 hfo3 HFO hwh; go_wp2_with fail; refine HFO2.out.mono ?_; rintro e w7 ⟨rfl, hb7⟩; have hb78 := belowThen hb7 (below1 w7 (.cells #[.string ⟨#[]⟩, .int .i64 0, .string ⟨#[]⟩, .string ⟨#[]⟩, .string ⟨#[]⟩] 143)); have v0 := (HX.out.below hb78).cell 0; have v1 := (HX.out.below hb78).cell 1; have v2 := (HX.out.below hb78).cell 2; have s0 := (HXS.out.below hb78).cell 0; have s1 := (HXS.out.below hb78).cell 1; simp only [List.getElem?_toArray, List.getElem?_cons_zero, List.getElem?_cons_succ] at v0 v1 v2 s0 s1; have hcnt := (H.out.below (belowThen HBW.out hb78)).bd.count
      obtain ⟨w8, hq8⟩ : ∃ w8, w7.alloc (.cells #[.string ⟨#[]⟩, .int .i64 0, .string ⟨#[]⟩, .string ⟨#[]⟩, .string ⟨#[]⟩] 143) = w8 := ⟨_, rfl⟩; rw [hq8] at hb78; have HQ8 := hid hq8; have HBW8 := hid (belowThen HBW.out hb78); have hs8 := HBW8.out.size; have hp8 := HPQ6.out.keep (w' := w8) fun k hk => hb78.block k qaa; have hcd := implCands_any Bs x g L b q.nm q.A q.n q.c q.ts w8 (H.out.below HBW8.out).ix (H.out.below HBW8.out).bd qaa H.out.sm (hp8.2.2.keep (fun _ _ _ => rfl) (nl _) qaa) hp8.2.1 hp8.1; have HCD := hid hcd; have HB68 := hid hb78; clear hcd hp8 hb78 hb7 hq8 y0 y1 y2
      go_wp2_with fail; rw [HQ8.out]; refine HCD.out.mono ?_; rintro e w9 ⟨v, rfl, ⟨pd, hF, hpk, hpm⟩, hb9⟩; obtain ⟨A9, c9, rfl, hc9, hm9⟩ := hF.form; unfold maxLen at hm9; obtain ⟨fs, hfs⟩ : ∃ fs, (L.map (·.1)).filter pd = fs := ⟨_, rfl⟩; rw [hfs] at hF hc9 ⊢; have HFS := hid hfs; have HF := hid hF; have HPK := hid hpk; have HPM := hid hpm; have HB69 := hid (belowThen HB68.out hb9); have HBW9 := hid (belowThen HBW8.out hb9); clear hfs hF hpk hpm hb9 HCD v0 v1 v2 s0 s1 hcnt; go_wp2_with fail; obtain ⟨mf, hmf⟩ : ∃ mf, fs.length = mf := ⟨_, rfl⟩; rw [hmf] at hc9 ⊢; have HMF := hid hmf; have hF9 := HF.out
      rw [hmf] at hF9; have HF9 := hid hF9; clear hF9 hmf; obtain ⟨lb, hlb⟩ : ∃ lb, b.length = lb := ⟨_, rfl⟩; rw [hlb]; have HLB := hid hlb; clear hlb; go_loopw [56] (fun i wr => ∃ j : Nat, j ≤ mf ∧ i = .int .i64 (j : Int) ∧ FarG g w9 wr ∧ BdIn wr g b ∧ ∀ j' f, j' < j → fs[j']? = some f → ¬ ∃ b', matchA q.pt.2 f b = some b' ∧ Sat (factsOf L) (rs.map Pr.pt) b') (fun i _ => mf - (intOf i).toNat)
      case atStart => exact ⟨0, Nat.zero_le _, rfl, FarG.refl g w9, (H.out.below HBW9.out).bd, fun j' f hj => absurd hj (Nat.not_lt_zero _)⟩
      case round =>
        obtain ⟨j, hj, rfl, hfar, hbd, hnone⟩ := hrel; have HFAR := hid hfar; have HBD := hid hbd; have HNONE := hid hnone; have hs9 := HBW9.out.size; have hsr := hfar.size; have HFW := hid ((FarG.of_below (g := g) HBW9.out).trans hfar); clear hfar hbd hnone; by_cases hlj : j < mf
        · have hljI : (j : Int) < (mf : Int) := qaa
          have hFr := HF.out.keep (w' := wr) fun k hk hl => HFAR.out.block k hl (fun e => H.out.off (e ▸ hk)); rw [HMF.out] at hFr; obtain ⟨gb, f, hA9, hBg, hgb, hfj, d0, d1, d2, d3, d4⟩ := hFr.at_ hlj; subst hA9; have hfm : f ∈ (L.map (·.1)).filter pd := by rw [HFS.out]; exact List.mem_of_getElem? hfj
          obtain ⟨hfL, hfp⟩ := List.mem_filter.1 hfm; obtain ⟨hfk1, hfk2⟩ := HPK.out f hfp; have hfok : FactOk f := by obtain ⟨r, hr, e⟩ := List.mem_map.1 hfL; rw [← e]; exact H.out.ix.ok r hr
          have hmA : matchA q.pt.2 f b = matchT q.ts f.2 b := matchA_of_kind hfk1 hfk2; have HFJ := hid hfj; have HFL := hid hfL; have HFOK := hid hfok; have HMA := hid hmA; have xF := Blk.new wr 143 #[.string f.1, .int .i64 f.2.length, .string (wordAt f.2 0), .string (wordAt f.2 1), .string (wordAt f.2 2)]; have hba := below1 wr (.cells #[.string f.1, .int .i64 f.2.length, .string (wordAt f.2 0), .string (wordAt f.2 1), .string (wordAt f.2 2)] 143); obtain ⟨wa, hqa⟩ : ∃ wa, wr.alloc (.cells #[.string f.1, .int .i64 f.2.length, .string (wordAt f.2 0), .string (wordAt f.2 1), .string (wordAt f.2 2)] 143) = wa := ⟨_, rfl⟩
          rw [hqa] at xF hba; have HQA := hid hqa; have hfa := HFW.out.trans (FarG.of_below hba); have HFA := hid hfa; have hQr : Blk wa Q 52 #[.bool q.no, .string q.nm, .slice q.A q.n q.c] := (hfar_blk HX.out (HB69.out) HFAR.out hQg).below hba; have hSr : Blk wa w.heap.size 79 #[.pointer (some ⟨x, 0, none⟩), .pointer (some ⟨x, 0, none⟩)] := (hfar_blk HXS.out (HB69.out) HFAR.out qaa).below hba; have v0 := hQr.cell 0; have v1 := hQr.cell 1; have v2 := hQr.cell 2; have s0 := hSr.cell 0; have s1 := hSr.cell 1; have g0 := xF.cell 0; have g1 := xF.cell 1; have g2 := xF.cell 2; have g3 := xF.cell 3; have g4 := xF.cell 4
          simp only [List.getElem?_toArray, List.getElem?_cons_zero, List.getElem?_cons_succ] at v0 v1 v2 s0 s1 g0 g1 g2 g3 g4; have hsa := hba.size; have hga : g < wa.heap.size := qaa; have hgr : g < wr.heap.size := qaa; have hbda := HBD.out.keep (w' := wa) (fun j => hba.cell hgr) (fun j => hba.frozen hgr); have hlow : ∀ z, z < hiT → wa.heap[z]? = w2.heap[z]? := fun z hz => (hfa.block z qaa qaa).trans (HBW2.out.block z qaa).symm; have hTa : IsTerms wa 0 g q.A q.n q.c q.ts := HPQ.out.2.2.keep (fun z _ hz => cb_ (hlow _ hz)) (nl _) hlg; clear hlow; have hqts : q.ts.length = q.n := HPQ.out.2.2.1; have hVq := HV.out q (List.mem_of_getElem? HQK.out)
          have hmt := implMatch_any V g b q.nm q.A q.n q.c q.ts f wa hbda hga hTa HPQ.out.2.1 (by rw [hfk2]; exact hqts) H.out.vs H.out.keys hVq; have HMT := hid hmt; have HQR := hid hQr; have HSR := hid hSr; clear hmt hfm hfL hfp hfk1 hfk2 hfok hmA hfj hFr hqa hQr hSr xF hba hbda hTa hqts; go_wp2_with (first | rw [HQA.out]); refine HMT.out.mono ?_; rintro e w10 ⟨rfl, hf10, l, hbl, hr⟩; have hg10 : g < w10.heap.size := Nat.lt_of_lt_of_le hga hf10.size; have HF10 := hid (HFA.out.trans hf10); have HF910 := hid ((HFAR.out.trans (FarG.of_below (HFA9 HQA.out))).trans hf10)
          have hnx : ¬ (∃ b', matchA q.pt.2 f b = some b' ∧ Sat (factsOf L) (rs.map Pr.pt) b') → ∀ j' f', j' < j + 1 → fs[j']? = some f' → ¬ ∃ b', matchA q.pt.2 f' b = some b' ∧ Sat (factsOf L) (rs.map Pr.pt) b' := fun hno' j' f' hj' hf' => by
            by_cases e : j' = j
            · subst e; rw [HFJ.out] at hf'; injection hf' with hf'; rw [← hf']; exact hno'
            · exact HNONE.out j' f' qaa hf'
          have HNX := hid hnx; clear hnx
          cases hrr : matchT q.ts f.2 b with
          | none =>
            have hno' : ¬ ∃ b', matchA q.pt.2 f b = some b' ∧ Sat (factsOf L) (rs.map Pr.pt) b' := fun ⟨b', hm, _⟩ => by rw [HMA.out, hrr] at hm; cases hm
            have HNO := hid (HNX.out hno'); have hroom := (hbl.room 24 qaa); obtain ⟨hfz, y, hy⟩ := hroom; have hbk := hbl.back; rw [HLB.out] at hbk; have HBK := hid hbk; have HFB := hid (HF910.out.setCell (p := ⟨g, 24, none⟩) rfl (.int .i64 (lb : Int))); clear hno' hbl hbk hr v0 v1 v2 s0 s1 g0 g1 g2 g3 g4; go_wp2
            exact ⟨⟨j + 1, by omega, by go_num, HFB.out, HBK.out, HNO.out⟩, by simp [intOf]; omega⟩
          | some b' =>
            have hb' := hr b' hrr; subst hb'; have hmm : matchA q.pt.2 f b = some (b ++ l) := HMA.out.trans hrr; have hseek : SeekIn w10 Bs x g L (b ++ l) hiT V := ⟨H.out.ix.keep fun k hk hl => HF10.out.block k hl (fun e => H.out.off (e ▸ hk)), H.out.few, hbl, hg10, H.out.off, match_sm H.out.sm HFOK.out hmm, H.out.keys.on hVq hmm, H.out.vs, H.out.line⟩; have hp10 : PartsIn w10 hiT (fun k => k ≠ g ∧ k ≠ Q) A4 m c4 rs := HP6.out.far ((FarG.of_below HB69.out).trans HF910.out) hlg qaa (fun k ho => ho.1)
            have hvr : VarsIn V rs := fun r hr' => HV.out r (by
              rw [← HRS.out] at hr'; rcases List.mem_append.1 hr' with h | h
              · exact List.mem_of_mem_take h
              · exact List.mem_of_mem_drop h)
            have hih := IH.out (b ++ l) (fun k => k ≠ g ∧ k ≠ Q) A4 m c4 rs w10 qaa hseek hp10 (fun k _ ho => ho.1) hvr (HWR.out f HFL.out _ hmm); have hS10 : Blk w10 w.heap.size 79 #[.pointer (some ⟨x, 0, none⟩), .pointer (some ⟨x, 0, none⟩)] := (hf10.block _ HSR.out.lt qaa).trans HSR.out; have s0 := hS10.cell 0; have s1 := hS10.cell 1; simp only [List.getElem?_toArray, List.getElem?_cons_zero, List.getElem?_cons_succ] at s0 s1; have HIH := hid hih; have HMM := hid hmm; clear hseek hp10 hvr hih hS10 hr hrr hmm hbl v0 v1 v2 g0 g1 g2 g3 g4; go_wp2_with fail; refine HIH.out.mono ?_; rintro e w11 ⟨⟨k11, rfl, hk11⟩, hf11, hbd11⟩
            obtain ⟨hfz, y, hy⟩ := hbd11.room 24 qaa; have hbk := hbd11.back; rw [HLB.out] at hbk; have HBK := hid hbk; have HK11 := hid hk11; have HFB := hid ((HF910.out.trans hf11).setCell (p := ⟨g, 24, none⟩) rfl (.int .i64 (lb : Int))); have HFBW := hid ((HF10.out.trans hf11).setCell (p := ⟨g, 24, none⟩) rfl (.int .i64 (lb : Int))); clear hbk hk11 hf11 hbd11 HIH s0 s1
            cases k11 with
            | true =>
              have hpr : pr := HSAT.out.2 ⟨f, HFL.out, _, HMM.out, HK11.out.1 rfl⟩; have HPP := hid hpr; clear hpr; go_wp2
              exact bodyPost_ret (v := .bool true) qbl rfl ⟨⟨true, rfl, by rw [HPR.out]; simp only [true_iff]; exact HPP.out⟩, HFBW.out, HBK.out⟩
            | false =>
              have hno' : ¬ ∃ b', matchA q.pt.2 f b = some b' ∧ Sat (factsOf L) (rs.map Pr.pt) b' := fun ⟨b', hm, hs⟩ => by
                rw [HMM.out] at hm; injection hm with hm; have := HK11.out.2 (hm ▸ hs); cases this
              have HNO := hid (HNX.out hno'); clear hno'; go_wp2; exact ⟨⟨j + 1, by omega, by go_num, HFB.out, HBK.out, HNO.out⟩, by simp [intOf]; omega⟩
        · have hcon : ¬ pr := fun hp => by
            obtain ⟨f, hf, b', hm, hs⟩ := HSAT.out.1 hp; have hfm : f ∈ fs := by rw [← HFS.out]; exact List.mem_filter.2 ⟨hf, HPM.out f hf b' hm⟩
            obtain ⟨j', hj'⟩ := List.getElem?_of_mem hfm; have := (List.getElem?_eq_some_iff.1 hj').1; exact HNONE.out j' f (by have := HMF.out; omega) hj' ⟨b', hm, hs⟩
          have HCON := hid hcon; clear hcon; go_wp2; exact bodyPost_ret (v := .bool false) qbl rfl ⟨⟨false, rfl, by rw [HPR.out]; simp only [Bool.false_eq_true, false_iff]; exact HCON.out⟩, HFW.out, HBD.out⟩
end Go.Proofs.YtcigljngiemdeaaGreat
