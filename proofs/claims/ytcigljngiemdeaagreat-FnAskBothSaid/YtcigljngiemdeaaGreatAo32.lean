/-
  Texts of one claim, put together.
-/
import Derived.Test.YtcigljngiemdeaaGreatAo0
import Derived.Test.YtcigljngiemdeaaGreatAo30
import Derived.Test.YtcigljngiemdeaaGreatAo31
import Derived.Deep.AppendLies
import Derived.Test.YtcigljngiemdeaaGreatAo2
import Derived.Test.YtcigljngiemdeaaGreatShelfS
set_option maxRecDepth 100000
set_option maxHeartbeats 8000000
namespace Go.Proofs.YtcigljngiemdeaaGreat
open Go.RowKit
theorem Tryz.infoTx : (Tryz.prog.info? 9).map (fun i => (i.zero, i.size, i.bytes)) = some (some (.string ByteArray.empty), 1, 16) := by kernel_rfl
theorem rowT_take {vs : List ByteArray} {b : Bd} {k : Nat} {x : ByteArray} (h : vs[k]? = some x) : rowT (vs.take (k + 1)) b = rowT (vs.take k) b ++ [wordT b (true, x)] := by
  unfold rowT; rw [List.take_add_one, h, List.map_append]; rfl
theorem texts_more {base : Nat} {W W1 : World} {v : Value} {ls : List ByteArray} {s : ByteArray} {P n : Nat} (h : W.ownsRow base 9 1 v n (tcl ls)) (hn : n = ls.length) (hbase : base ≤ W.heap.size) (hb : Below W.heap.size W W1) (hP : Blk W1 P 9 #[.string s]) (hl : n ≤ 1000000) :
    ∃ g m cap W2, (Builtin.append_ #[42, 42] 42 #[v, .slice (some ⟨P, 0, none⟩) 1 1]).run Tryz.prog W1 = .ok (.slice (some ⟨g, 0, none⟩) m cap) W2 ∧ W2.ownsRow base 9 1 (.slice (some ⟨g, 0, none⟩) m cap) (n + 1) (tcl (ls ++ [s])) ∧ W1.grownBy W2 v.ownBlock := by
  have h1 := ownsRow_up h hb; obtain ⟨i0, hi0, hz0, hsz0, hby0⟩ := info_parts Tryz.infoTx; have hs1 := hb.size; obtain ⟨g, cap, W2, hr, hown, hg, _, _⟩ := run_append_lies (P := Tryz.prog) W1 42 42 base 9 i0 _ 1 16 Tryz.underlying42 hi0 hz0 hsz0 hby0 rfl qaa v n (tcl ls) h1 ⟨P, 0, none⟩ 1 1 [.string s] qab (World.news_of_block hP) (by intro u hu; simp at hu; subst hu; rfl) qaa qac qaa qaa W1.heap.size rfl; refine ⟨g, _, cap, W2, hr, ?_, hg⟩; have e : tcl (ls ++ [s]) = tcl ls ++ [.string s] := by unfold tcl; simp
  rw [e]; exact hown
def RowSoFar (w : World) (v : Value) (k : Nat) (ls : List ByteArray) (W : World) : Prop := W.ownsRow w.heap.size 9 1 v k (tcl ls) ∧ Below w.heap.size w W
theorem implWordsOf_any (g : Nat) (b : Bd) (A : Option Addr) (n c : Nat) (vs : List ByteArray) (w : World) (h : BdIn w g b) (hg : g < w.heap.size) (hV : IsTexts w 0 w.heap.size A n c vs) (hn : n ≤ 12) :
    Calls Tryz.prog 44 #[.pointer (some ⟨g, 0, none⟩), .slice A n c] w (OwnTextsPost (rowT vs b) w) := by
  have H := hid h; have HG := hid hg; have HV := hid hV; have HL := hid hV.1; have hc := hV.2.1; have hmx := hV.2.2.1; unfold maxLen at hmx; clear h hg hV; obtain ⟨i0, hi0, hz0, hsz0, hby0⟩ := info_parts Tryz.infoTx
  have hmk : ∀ W : World, (Instr.makeSlice 42 (.int .i64 0) (.int .i64 (n : Int))).run Tryz.prog W = .ok (.slice (some ⟨W.heap.size, 0, none⟩) 0 n) (W.alloc (.cells (madeCells #[.string ByteArray.empty] n) 9)) := by
    intro W; have hr := run_make (P := Tryz.prog) W 42 9 i0 _ Tryz.underlying42 hi0 hz0 .i64 .i64 0 n qaa qaa (by rw [hby0]; omega) qaa; rw [hsz0, Nat.mul_one] at hr; exact hr
  have h0 : RowSoFar w (.slice (some ⟨w.heap.size, 0, none⟩) 0 n) 0 (rowT (vs.take 0) b) (w.alloc (.cells (madeCells #[.string ByteArray.empty] n) 9)) :=
    ⟨World.ownsRow_made w _ n (nl _) qac (by simpa using size_madeCells #[.string ByteArray.empty] n), below1 _ _⟩
  obtain ⟨w1, hq1⟩ : ∃ w1, w.alloc (.cells (madeCells #[.string ByteArray.empty] n) 9) = w1 := ⟨_, rfl⟩; rw [hq1] at h0; have HQ1 := hid hq1; have H0 := hid h0; have HMK := hid hmk; clear hi0 hz0 hsz0 hby0 hq1 h0; go_enter Tryz.func44, Tryz.ntmps44; go_wp2_with (rw [HQ1.out]); go_loopw [5, 15] (fun v i wr => ∃ k : Nat, k ≤ n ∧ i = .int .i64 (k : Int) ∧ RowSoFar w v k (rowT (vs.take k) b) wr) (fun _ i _ => n - (intOf i).toNat)
  case atStart => exact ⟨0, Nat.zero_le _, rfl, H0.out⟩
  case round =>
    clear H0; obtain ⟨k, hk, rfl, hS⟩ := hrel; have HS := hid hS; clear hS; by_cases hlt : k < n
    · have hltI : (k : Int) < (n : Int) := qaa
      obtain ⟨p, x, hA, _, _, hx, z0⟩ := (HV.out.up TextE.stays HS.out.2).at_ hlt; subst hA; rw [Nat.mul_one] at z0; have z0' : wr.cell? (p.add k) = some (.string x) := z0; have HX := hid hx; clear hx z0; go_wp2_with fail; have hb4 := HS.out.2; refine (implWordOf_any g b (true, x) _ (H.out.keep (fun j => hb4.cell HG.out) (fun j => hb4.frozen HG.out)) qdd).mono ?_; rintro e w5 ⟨rfl, hb5⟩; have hw5 := below1 w5 (.cells #[.string (wordT b (true, x))] 9); have hb6 := belowThen hb5 hw5; have hkl : k = (rowT (vs.take k) b).length := by unfold rowT; rw [List.length_map, List.length_take]; have := HL.out; omega
      obtain ⟨g2, m2, cap, W2, hr, hown, hgr⟩ := texts_more (s := wordT b (true, x)) HS.out.1 hkl hb4.size hb6 (Blk.new w5 _ _) qaa; have HR := hid hr; have HN := hid (show RowSoFar w (.slice (some ⟨g2, 0, none⟩) m2 cap) (k + 1) (rowT (vs.take (k + 1)) b) W2 from ⟨by rw [rowT_take HX.out]; exact hown, (belowThen hb4 hb6).grown hgr (belowThen hb4 hb6).size (fun j e => (HS.out.1.lt j e).1)⟩); clear hr hown hgr hb6 hw5 hb5 hb4 hkl; go_wp2_with (at_builtin; refine wpList_append_at rfl rfl rfl rfl rfl HR.out ?_); refine ⟨⟨k + 1, by omega, by go_num, HN.out⟩, by simp [intOf]; omega⟩
    · have hkn : vs.take k = vs := List.take_of_length_le qec
      have hS := HS.out; rw [hkn] at hS; have hlen : (rowT vs b).length = k := by unfold rowT; rw [List.length_map]; have := HL.out; omega
      go_wp2; refine bodyPost_ret (v := u5) (by simp [results, Tryz.results44, go_sem]) rfl ⟨_, rfl, by rw [hlen]; exact hS.1, hS.2⟩
theorem Tryz.infoTs : (Tryz.prog.info? 42).map (fun i => (i.zero, i.size, i.bytes)) = some (some (.slice none 0 0), 1, 24) := by kernel_rfl
def ApartV (r r' : Value) : Prop := ∀ g, r.ownBlock = some g → r'.ownBlock ≠ some g
structure RowsOwn (W : World) (B : Nat) (rs : List Value) (Ls : List (List ByteArray)) : Prop where
  len : rs.length = Ls.length
  row : ∀ (i : Nat) (r : Value) (L : List ByteArray), rs[i]? = some r → Ls[i]? = some L → W.ownsRow B 9 1 r L.length (tcl L)
  apart : rs.Pairwise ApartV
structure ToldIn (B R : Nat) (Ls : List (List ByteArray)) (v : Value) (rs : List Value) (W : World) : Prop where
  box : Blk W R 26 #[v]
  own : W.ownsRow B 42 1 v Ls.length rs
  rows : RowsOwn W B rs Ls
def ToldAt (B R : Nat) (Ls : List (List ByteArray)) (W : World) : Prop := ∃ v rs, ToldIn B R Ls v rs W
theorem ownsRow_blocks {W W' : World} {base sz n : Nat} {e : TypeId} {v : Value} {xs : List Value} (h : W.ownsRow base e sz v n xs) (hk : ∀ (k : Nat) (cs : Array Value), base ≤ k → W.heap[k]? = some (.cells cs e (0, 0)) → W'.heap[k]? = some (.cells cs e (0, 0))) : W'.ownsRow base e sz v n xs := by
  refine ⟨h.1, ?_⟩; rcases h.2 with h | ⟨g, cap, cur, h1, h2, h3, h4⟩
  · exact .inl h
  · exact .inr ⟨g, cap, cur, h1, h2, hk _ _ h2 h3, h4⟩
theorem RowsOwn.keep {W W' : World} {B : Nat} {rs : List Value} {Ls : List (List ByteArray)} (h : RowsOwn W B rs Ls) (hk : ∀ (k : Nat) (cs : Array Value), B ≤ k → W.heap[k]? = some (.cells cs 9 (0, 0)) → W'.heap[k]? = some (.cells cs 9 (0, 0))) : RowsOwn W' B rs Ls :=
  ⟨h.len, fun i r L h1 h2 => ownsRow_blocks (h.row i r L h1 h2) hk, h.apart⟩
theorem ToldIn.keep {W W' : World} {B R : Nat} {Ls : List (List ByteArray)} {v : Value} {rs : List Value} (h : ToldIn B R Ls v rs W) (hR : W'.heap[R]? = W.heap[R]?) (hk : ∀ (k : Nat) (cs : Array Value) (t : TypeId), B ≤ k → (t = 9 ∨ t = 42) → W.heap[k]? = some (.cells cs t (0, 0)) → W'.heap[k]? = some (.cells cs t (0, 0))) : ToldIn B R Ls v rs W' :=
  ⟨hR.trans h.box, ownsRow_blocks h.own fun k cs hB => hk k cs _ hB (.inr rfl), h.rows.keep fun k cs hB => hk k cs _ hB (.inl rfl)⟩
structure TellKept (B R : Nat) (W W' : World) : Prop where
  os : W'.os = W.os
  tape : W'.tape = W.tape
  output : W'.output = W.output
  size : W.heap.size ≤ W'.heap.size
  same : ∀ k, k < W.heap.size → k ≠ R → (k < B ∨ ∀ cs, W.heap[k]? ≠ some (.cells cs 42 (0, 0))) → W'.heap[k]? = W.heap[k]?
theorem set_heap_ne (W : World) (R : Nat) (u : Value) {k : Nat} (h : k ≠ R) : (W.setCell ⟨R, 0, none⟩ u).heap[k]? = W.heap[k]? := hs_ W ⟨R, 0, none⟩ u k h
theorem tell_more {B R : Nat} {Ls : List (List ByteArray)} {v : Value} {rs : List Value} {W w2 : World} {L : List ByteArray} {rv : Value} (h : ToldIn B R Ls v rs W) (hb : Below W.heap.size W w2) (hrow : w2.ownsRow W.heap.size 9 1 rv L.length (tcl L)) (hR : R < B) (hB : B ≤ W.heap.size) (hl : Ls.length ≤ 1000000000000) :
    ∃ g m cap W5, (Builtin.append_ #[26, 26] 26 #[v, .slice (some ⟨w2.heap.size, 0, none⟩) 1 1]).run Tryz.prog (w2.alloc (.cells #[rv] 42)) = .ok (.slice (some ⟨g, 0, none⟩) m cap) W5 ∧ W5.cell? ⟨R, 0, none⟩ = some v ∧ W5.frozen? ⟨R, 0, none⟩ = false ∧
      ToldAt B R (Ls ++ [L]) (W5.setCell ⟨R, 0, none⟩ (.slice (some ⟨g, 0, none⟩) m cap)) ∧ TellKept B R W (W5.setCell ⟨R, 0, none⟩ (.slice (some ⟨g, 0, none⟩) m cap)) := by
  have hb4 := below1 w2 (.cells #[rv] 42); have hbw4 := belowThen hb hb4; have h4 := ownsRow_up h.own hbw4; obtain ⟨i0, hi0, hz0, hsz0, hby0⟩ := info_parts Tryz.infoTs; have hs1 := hb.size; have hs4 := hb4.size; obtain ⟨w4, hw4⟩ : ∃ w4, w2.alloc (.cells #[rv] 42) = w4 := ⟨_, rfl⟩; have hP : Blk w4 w2.heap.size 42 #[rv] := by rw [← hw4]; exact Blk.new w2 _ _
  rw [hw4] at hb4 hbw4 h4 hs4 ⊢
  have h1c : rv.oneCell' = true := by
    rcases hrow.2 with ⟨rfl, _⟩ | ⟨g, cap, cur, rfl, _⟩ <;> rfl
  obtain ⟨g, cap, W5, hr, hown, hg, hlies, hglt⟩ := run_append_lies (P := Tryz.prog) w4 26 26 B 42 i0 _ 1 24 Tryz.underlying26 hi0 hz0 hsz0 hby0 rfl qaa v Ls.length rs h4 ⟨w2.heap.size, 0, none⟩ 1 1 [rv] qab (World.news_of_block hP) (by intro u hu; simp at hu; subst hu; exact h1c) qaa qac qaa qaa w4.heap.size rfl
  have hvb : ∀ k, v.ownBlock = some k → B ≤ k ∧ ∃ cs, W.heap[k]? = some (.cells cs 42 (0, 0)) := by
    intro k hk; refine ⟨(h.own.lt k hk).1, ?_⟩; rcases h.own.2 with ⟨rfl, _⟩ | ⟨g, cap, cur, rfl, _, h3, _⟩
    · simp [Value.ownBlock] at hk
    · simp [Value.ownBlock] at hk; subst hk; exact ⟨_, h3⟩
  have hRv : some R ≠ v.ownBlock := fun e => by have := (hvb R e.symm).1; omega
  have hboxW4 : Blk w4 R 26 #[v] := h.box.below hbw4; have hbox5 : Blk W5 R 26 #[v] := hboxW4.kept hg hRv; have hg5 : ∀ k, k < w4.heap.size → some k ≠ v.ownBlock → W5.heap[k]? = w4.heap[k]? := hg.block
  have htx : ∀ (k : Nat) (cs : Array Value), w4.heap[k]? = some (.cells cs 9 (0, 0)) → W5.heap[k]? = some (.cells cs 9 (0, 0)) := by
    intro k cs hk; refine (hg5 k (Array.getElem?_eq_some_iff.1 hk).1 fun e => ?_).trans hk; obtain ⟨hkB, cs', hc⟩ := hvb k e.symm; have hkl := (Array.getElem?_eq_some_iff.1 hc).1; have := (hbw4.block k hkl).trans hc; rw [hk] at this; injection this with this; injection this with _ e2; exact absurd e2 qal
  have hgR : g ≠ R := by
    rcases hlies with e | e
    · have := (hvb g e).1; omega
    · omega
  have hsize5 : (W5.setCell ⟨R, 0, none⟩ (.slice (some ⟨g, 0, none⟩) (Ls.length + 1) cap)).heap.size = W5.heap.size := by simp [World.setCell]
  have hs5 := hg.size; refine ⟨g, _, cap, W5, hr, by rw [hbox5.cell]; rfl, hbox5.frozen _, ⟨_, rs ++ [rv], hbox5.set 0 _, ?_, ?_, ?_, ?_⟩, ⟨?_, ?_, ?_, by omega, ?_⟩⟩
  · rw [List.length_append]
    refine ownsRow_blocks hown fun k cs _ hk => ?_; rw [set_heap_ne _ _ _ (fun e => ?_)]; exact hk; subst e; rw [show W5.heap[k]? = _ from hbox5] at hk; injection hk with hk; injection hk with _ e2; exact absurd e2 qal
  · rw [List.length_append, List.length_append, h.rows.len]; rfl
  · intro i r L' hi hL
    have key : ∀ r L', w4.ownsRow B 9 1 r L'.length (tcl L') → (W5.setCell ⟨R, 0, none⟩ (.slice (some ⟨g, 0, none⟩) (Ls.length + 1) cap)).ownsRow B 9 1 r L'.length (tcl L') := fun r L' hr' => by
      refine ownsRow_blocks (ownsRow_blocks hr' fun k cs _ => htx k cs) fun k cs _ hk => ?_; rw [set_heap_ne _ _ _ (fun e => ?_)]; exact hk; subst e; rw [show W5.heap[k]? = _ from hbox5] at hk; injection hk with hk; injection hk with _ e2; exact absurd e2 qal
    refine key r L' ?_; by_cases hlt : i < rs.length
    · rw [List.getElem?_append_left hlt] at hi
      rw [List.getElem?_append_left (by rw [← h.rows.len]; exact hlt)] at hL; exact ownsRow_up (h.rows.row i r L' hi hL) hbw4
    · have hi1 : i = rs.length := by
        have := (List.getElem?_eq_some_iff.1 hi).1; rw [List.length_append, List.length_singleton] at this; omega
      subst hi1; rw [List.getElem?_append_right (nl _), Nat.sub_self] at hi; rw [h.rows.len, List.getElem?_append_right (nl _), Nat.sub_self] at hL; simp at hi hL; subst hi hL; exact ownsRow_base (ownsRow_up hrow hb4) hB
  · refine List.pairwise_append.2 ⟨h.rows.apart, by simp, fun r hr' r' hr2 k e1 e2 => ?_⟩
    rw [List.mem_singleton.1 hr2] at e2; obtain ⟨i, hi⟩ := List.getElem?_of_mem hr'; obtain ⟨L', hL'⟩ : ∃ L', Ls[i]? = some L' := ⟨_, List.getElem?_eq_getElem (by rw [← h.rows.len]; exact (List.getElem?_eq_some_iff.1 hi).1)⟩; have := ((h.rows.row i r L' hi hL').lt k e1).2; have := (hrow.lt k e2).1; omega
  · show W5.os = _; rw [hg.os, hbw4.os]
  · show W5.tape = _; rw [hg.tape, hbw4.tape]
  · show W5.output = _; rw [hg.output, hbw4.output]
  · intro k hk hkR hor
    rw [set_heap_ne _ _ _ hkR, hg5 k qaa (fun e => ?_), hbw4.block k hk]; obtain ⟨hkB, cs, hc⟩ := hvb k e.symm; rcases hor with hor | hor
    · omega
    · exact hor cs hc
def ToldPost (B R : Nat) (Ls : List (List ByteArray)) (W : World) (e : Ending) (W' : World) : Prop := e = .returned (.bool true) ∧ ToldAt B R Ls W' ∧ TellKept B R W W'
theorem implAskTell_any (B R Vb g : Nat) (b : Bd) (A : Option Addr) (n c : Nat) (vs : List ByteArray) (Ls : List (List ByteArray)) (w : World) (h : ToldAt B R Ls w) (hvb : Blk w Vb 42 #[.slice A n c]) (hV : IsTexts w 0 w.heap.size A n c vs) (hn : n ≤ 12) (hb : BdIn w g b) (hg : g < w.heap.size) (hR : R < B) (hB : B ≤ w.heap.size) (hRV : R ≠ Vb) (hVB0 : Vb < B) (hl : Ls.length ≤ 1000000000000) :
    Calls Tryz.prog 43 #[.pointer (some ⟨g, 0, none⟩), .pointer (some ⟨R, 0, none⟩), .pointer (some ⟨Vb, 0, none⟩)] w (ToldPost B R (Ls ++ [rowT vs b]) w) := by
  obtain ⟨v, rs, h⟩ := h; have HH := hid h; have HVB := hid hvb; have HV := hid hV; have HB := hid hb; have HG := hid hg; clear h hvb hV hb hg
  have key : ∀ W : World, Below w.heap.size w W → Calls Tryz.prog 44 #[.pointer (some ⟨g, 0, none⟩), .slice A n c] W (OwnTextsPost (rowT vs b) W) := fun W hW =>
    implWordsOf_any g b A n c vs W (HB.out.keep (fun j => hW.cell HG.out) (fun j => hW.frozen HG.out)) (by have := hW.size; have := HG.out; omega) (HV.out.up TextE.stays hW) hn
  have KEY := hid key; clear key; go_enter Tryz.func43, Tryz.ntmps43; go_wp2_with fail; have hd : Below w.heap.size w w.drew := (Below.refl _ _).drew; obtain ⟨V2, hVe⟩ : ∃ V2, w.drew = V2 := ⟨_, rfl⟩; have h2 : ToldIn B R Ls v rs V2 := by rw [← hVe]; exact HH.out.keep rfl fun _ _ _ _ _ h => h
  have hs2 : V2.heap.size = w.heap.size := by rw [← hVe]; rfl
  rw [hVe] at hd; have HD := hid hd; have H2 := hid h2; have HVE := hid hVe; have sw : ∀ W : World, Below V2.heap.size V2 W → W.cell? ⟨Vb, 0, none⟩ = some (.slice A n c) ∧ W.cell? ⟨R, 0, none⟩ = some v := fun W hW => ⟨((HVB.out.below HD.out).below hW).cell 0, (H2.out.box.below hW).cell 0⟩; have SW := hid sw; clear hVe hd h2 sw; refine wp_region_held_drew (S := fun W => W.cell? ⟨Vb, 0, none⟩ = some (.slice A n c)) qae (by rw [HVE.out]; exact (SW.out _ (Below.refl _ _)).1) ?_; rw [HVE.out]; intro hS_; refine tk 1 (.pointer (some ⟨g, 0, none⟩)) hS_ ?_; refine tk 2 (.slice A n c) hS_ ?_; refine rd2 0 3 (fun K_ hK_ => ?oA) (fun K_ hK_ => ?oB)
  case' oA =>
    have hc0 := (SW.out _ (Below.refl _ V2)).2; rw [if_pos qab]; go_simp; refine hK_.out _ _ hS_ fun hS_ => ?_; clear hK_ hc0
    (try simp only [Act.put, List.setIfInBounds_toArray, List.set_cons_zero, List.set_cons_succ])
    refine rd1 3 fun K_ hK_ => ?_; go_simp; go_at_call 44; refine (KEY.out V2 HD.out).mono ?_; rintro e w2 ⟨rv, rfl, hrow, hb2⟩; obtain ⟨Ar, cr, rfl, _, _⟩ := ownsRow_form hrow; refine hK_.out _ _ (SW.out _ hb2).1 fun hS_ => ?_; clear hK_
    (try simp only [Act.put, List.setIfInBounds_toArray, List.set_cons_zero, List.set_cons_succ])
    refine rd1 4 fun K_ hK_ => ?_; go_simp; refine hK_.out _ _ (SW.out _ (belowThen hb2 (below1 _ _))).1 fun hS_ => ?_; clear hK_
    (try simp only [Act.put, List.setIfInBounds_toArray, List.set_cons_zero, List.set_cons_succ])
  case' oB =>
    rw [if_pos qab]; go_simp; go_at_call 44; refine (KEY.out V2 HD.out).mono ?_; rintro e w2 ⟨rv, rfl, hrow, hb2⟩; obtain ⟨Ar, cr, rfl, _, _⟩ := ownsRow_form hrow; refine hK_.out _ _ (SW.out _ hb2).1 fun hS_ => ?_; clear hK_
    (try simp only [Act.put, List.setIfInBounds_toArray, List.set_cons_zero, List.set_cons_succ])
    refine rd2 0 4 (fun K_ hK_ => ?oC) (fun K_ hK_ => ?oD)
    case' oC =>
      have hc0 := (SW.out _ hb2).2; rw [if_pos qab]; go_simp; refine hK_.out _ _ hS_ fun hS_ => ?_; clear hK_ hc0
      (try simp only [Act.put, List.setIfInBounds_toArray, List.set_cons_zero, List.set_cons_succ])
      refine rd1 4 fun K_ hK_ => ?_; go_simp; refine hK_.out _ _ (SW.out _ (belowThen hb2 (below1 _ _))).1 fun hS_ => ?_; clear hK_
      (try simp only [Act.put, List.setIfInBounds_toArray, List.set_cons_zero, List.set_cons_succ])
    case' oD =>
      rw [if_pos qab]; go_simp; refine hK_.out _ _ (SW.out _ (belowThen hb2 (below1 _ _))).1 fun hS_ => ?_; clear hK_
      (try simp only [Act.put, List.setIfInBounds_toArray, List.set_cons_zero, List.set_cons_succ])
      refine rd1 0 fun K_ hK_ => ?_; have hc0 := (SW.out _ (belowThen hb2 (below1 w2 (.cells #[.slice Ar (rowT vs b).length cr] 42)))).2; go_simp; refine hK_.out _ _ hS_ fun hS_ => ?_; clear hK_ hc0
      (try simp only [Act.put, List.setIfInBounds_toArray, List.set_cons_zero, List.set_cons_succ])
  all_goals
    obtain ⟨g5, m5, cap, W5, hr, hc5, hf5, hA, hK⟩ := tell_more H2.out hb2 hrow hR qaa hl; have HA := hid hA; have HK := hid hK
    have hS5 : W5.cell? ⟨Vb, 0, none⟩ = some (.slice A n c) ∧ (W5.setCell ⟨R, 0, none⟩ (.slice (some ⟨g5, 0, none⟩) m5 cap)).cell? ⟨Vb, 0, none⟩ = some (.slice A n c) := by
      have e1 := hK.same Vb (by have := HVB.out.lt; omega) (Ne.symm hRV) (.inl hVB0); have e2 := set_heap_ne W5 R (.slice (some ⟨g5, 0, none⟩) m5 cap) (Ne.symm hRV); have e3 := (SW.out _ (Below.refl _ V2)).1; exact ⟨(cb_ (a := ⟨Vb, 0, none⟩) (e2.symm.trans e1)).trans e3, (cb_ (a := ⟨Vb, 0, none⟩) e1).trans e3⟩
    refine rd1 5 fun K_ hK_ => ?_; refine wp_append_run rfl rfl rfl rfl hr ?_; refine hK_.out _ _ hS5.1 fun hS_ => ?_; clear hK_
    (try simp only [Act.put, List.setIfInBounds_toArray, List.set_cons_zero, List.set_cons_succ])
    refine rd1 6 fun K_ hK_ => ?_; go_simp; refine hK_.out _ _ hS5.2 fun hS_ => ?_; clear hK_; refine wpAnyH_done qae ?_ _; clear hS5 hr hc5 hf5 hA hK hrow hb2; go_wp2; refine bodyPost_ret (v := .bool true) (by simp [results, Tryz.results43, go_sem]) rfl ⟨rfl, HA.out, ?_⟩; have hK := HK.out; rw [← HVE.out] at hK; exact ⟨hK.os, hK.tape, hK.output, hK.size, hK.same⟩
structure AskJ (W00 : World) (B R Vb g : Nat) (A : Option Addr) (n c : Nat) (vs : List ByteArray) (pre : List Bd) (W : World) : Prop where
  told : ToldAt B R (pre.map (rowT vs)) W
  vb : Blk W Vb 42 #[.slice A n c]
  txs : IsTexts W 0 Vb A n c vs
  same : W.os = W00.os ∧ W.tape = W00.tape ∧ W.output = W00.output
def askE (B R g : Nat) (k : Nat) : Prop := k < B ∧ k ≠ g ∧ k ≠ R
theorem AskJ.turns {W00 : World} {B R Vb g : Nat} {A : Option Addr} {n c : Nat} {vs : List ByteArray} {pre : List Bd} {W W' : World} (h : AskJ W00 B R Vb g A n c vs pre W) (hT : TurnsR B g W W') (h1 : Vb < R) (h2 : R < g) (h3 : g < B) : AskJ W00 B R Vb g A n c vs pre W' := by
  obtain ⟨v, rs, hv⟩ := h.told
  have same : ∀ k, k < W.heap.size → k < B → k ≠ g → W'.heap[k]? = W.heap[k]? := fun k hk hb hg => by
    obtain ⟨o, ho⟩ : ∃ o, W.heap[k]? = some o := ⟨_, Array.getElem?_eq_getElem hk⟩; rw [ho]; exact hT.same k o ho hg (.inl hb)
  have hbv := h.vb.lt; have hbr := hv.box.lt; refine ⟨⟨v, rs, hv.keep (same R hbr qaa qaa) fun k cs t hk' ht hk => hT.same k _ hk qaa (.inr fun ho => ?_)⟩, (same Vb hbv qaa qaa).trans h.vb, h.txs.keep TextE.stays (fun q _ hq => cb_ (same _ qaa qaa qaa)) (nl _) (nl _), ⟨hT.os.trans h.same.1, hT.tape.trans h.same.2.1, hT.output.trans h.same.2.2⟩⟩; have ho' : OwnT t := ho; unfold OwnT at ho'; rcases ht with rfl | rfl <;> exact absurd ho' qal
theorem askNone (W00 : World) (Bs : Nat → Prop) (x g : Nat) (L : List (At × Nat)) (hiT : Nat) (V : List ByteArray) (B R Vb M : Nat) (A : Option Addr) (n c : Nat) (vs : List ByteArray) (h1 : Vb < R) (h2 : R < g) (h3 : g < B) (hn : n ≤ 12) (hM : M ≤ 1000000000000) :
    TellsNone (askE B R g) Bs x g L hiT V (.func (.func 43) #[] #[.pointer (some ⟨R, 0, none⟩), .pointer (some ⟨Vb, 0, none⟩)]) B M (AskJ W00 B R Vb g A n c vs) (fun _ _ => False) := by
  intro b A0 c0 pre W0 w hJ hpre hT h hB0; have hJ := hJ.turns hT h1 h2 h3; have hb1 := below1 w (.cells #[.pointer (some ⟨x, 0, none⟩), .pointer (some ⟨x, 0, none⟩)] 79); obtain ⟨w1, hq1⟩ : ∃ w1, w.alloc (.cells #[.pointer (some ⟨x, 0, none⟩), .pointer (some ⟨x, 0, none⟩)] 79) = w1 := ⟨_, rfl⟩; rw [hq1] at hb1; have HQ1 := hid hq1; have HB1 := hid hb1; have HJ := hid hJ; have H := hid h; clear hq1 hb1 hJ h hT; go_enter Tryz.func47, Tryz.ntmps47
  go_wp2_with (rw [HQ1.out]); have hs1 := HB1.out.size; have hlt := H.out.lt; have hJ1 : AskJ W00 B R Vb g A n c vs pre w1 := HJ.out.turns (TurnsR.below HB1.out) h1 h2 h3; have hvl := hJ1.vb.lt; refine (implAskTell_any B R Vb g b A n c vs (pre.map (rowT vs)) w1 hJ1.told hJ1.vb (hJ1.txs.keep TextE.stays (fun _ _ _ => rfl) (nl _) qaa) hn (H.out.below HB1.out).bd qaa qaa qaa qaa qaa (by rw [List.length_map]; omega)).mono ?_; rintro e w2 ⟨rfl, hA, hK⟩; have HA := hid hA; have HK := hid hK; have HJ1 := hid hJ1; clear hA hK hJ1; go_wp2; have hK := HK.out; have hs2 := hK.size; have hbd : BdIn w2 g b := (H.out.below HB1.out).bd.keep (fun j => cb_ (a := ⟨g, j, none⟩) (hK.same g qaa qaa (.inl h3))) (fun j => World.frozen?_of_block (a := ⟨g, j, none⟩) (hK.same g qaa qaa (.inl h3)))
  refine bodyPost_ret (v := .bool true) qaq rfl ⟨⟨by omega, fun k hk hl => ?_, fun k cs t hk hB' hkg ht => ?_⟩, hbd, w2, TurnsR.refl _ _ _, .inl ⟨rfl, ⟨by rw [List.map_append]; exact HA.out, ?_, ?_, ⟨hK.os.trans HJ1.out.same.1, hK.tape.trans HJ1.out.same.2.1, hK.output.trans HJ1.out.same.2.2⟩⟩⟩⟩
  · exact (hK.same k qaa hk.2.2 (.inl hk.1)).trans (HB1.out.block k hl)
  · have hk1 := (HB1.out.block k (Array.getElem?_eq_some_iff.1 hk).1).trans hk
    refine (hK.same k (Array.getElem?_eq_some_iff.1 hk1).1 qaa (.inr fun cs' e => ?_)).trans hk1; rw [hk1] at e; injection e with e; injection e with _ e2; subst e2; unfold OwnT at ht; exact absurd ht qal
  · exact (hK.same Vb hvl qaa (.inl qaa)).trans HJ1.out.vb
  · exact HJ1.out.txs.keep TextE.stays (fun q _ hq => cb_ (hK.same _ qaa qaa (.inl qaa))) (nl _) (nl _)
def rowCmp : List ByteArray → List ByteArray → Int
  | [], [] => 0
  | [], _ :: _ => -1
  | _ :: _, [] => 1
  | a :: x, b :: y => if textCmp a b = 0 then rowCmp x y else textCmp a b
def keyR (L : List ByteArray) : List (List UInt8) := L.map (·.data.toList)
theorem textCmp_lt (a b : ByteArray) : textCmp a b < 0 ↔ a.data.toList < b.data.toList := by
  have h := (less_cmp a.data.toList b.data.toList).1; rw [bytes_lt] at h; have h1 := cmp_range a.data.toList b.data.toList; unfold textCmp; constructor
  · intro h2
    have : Lib.compareBytes a.data.toList b.data.toList = -1 := qaa; rw [this] at h; simpa using h
  · intro h2
    rw [decide_eq_true h2] at h; have := of_decide_eq_true h.symm; omega
theorem textCmp_anti (a b : ByteArray) : textCmp b a = -textCmp a b := bytes_anti a.data.toList b.data.toList
theorem textCmp_eq (a b : ByteArray) : textCmp a b = 0 ↔ a = b := by
  have h := (less_cmp a.data.toList b.data.toList).2; unfold textCmp; constructor
  · intro h2
    rw [h2] at h; exact bytes_eq qbd
  · rintro rfl
    simp at h; exact h
theorem rowCmp_lt : ∀ x y : List ByteArray, rowCmp x y < 0 ↔ keyR x < keyR y
  | [], [] => by unfold rowCmp keyR; simp
  | [], _ :: _ => by unfold rowCmp keyR; simp
  | _ :: _, [] => by unfold rowCmp keyR; simp
  | a :: x, b :: y => by
    have ih := rowCmp_lt x y; unfold rowCmp; show _ ↔ a.data.toList :: keyR x < b.data.toList :: keyR y; rw [List.cons_lt_cons_iff]; by_cases h : textCmp a b = 0
    · have e := (textCmp_eq a b).1 h
      subst e; rw [if_pos h, ih]; constructor
      · intro h; exact .inr ⟨rfl, h⟩
      · rintro (h | h)
        · exact absurd h (List.lt_irrefl _)
        · exact h.2
    · rw [if_neg h, textCmp_lt]
      constructor
      · intro h; exact .inl h
      · rintro (h' | h')
        · exact h'
        · exact absurd ((textCmp_eq a b).2 (bytes_eq h'.1)) h
theorem keyR_inj {x y : List ByteArray} (h : keyR x = keyR y) : x = y := by
  unfold keyR at h; refine List.map_inj_right (f := fun s : ByteArray => s.data.toList) (fun a b e => bytes_eq e) |>.1 h
theorem ltOf_row (x y : List ByteArray) : Go.Proofs.ltOf rowCmp x y = decide (keyR x < keyR y) := by
  unfold Go.Proofs.ltOf; exact decide_eq_decide.2 (rowCmp_lt x y)
theorem row_total {x y : List ByteArray} (h : Go.Proofs.ltOf rowCmp x y = false) (h' : Go.Proofs.ltOf rowCmp y x = false) : x = y := by
  rw [ltOf_row] at h h'; exact keyR_inj (List.le_antisymm (List.not_lt.1 (of_decide_eq_false h')) (List.not_lt.1 (of_decide_eq_false h)))
theorem row_swo {α : Type} (f : α → List ByteArray) : Go.Sort.SWO (Go.Proofs.ltOf fun x y => rowCmp (f x) (f y)) := by
  have e : ∀ x y, Go.Proofs.ltOf (fun x y => rowCmp (f x) (f y)) x y = decide (keyR (f x) < keyR (f y)) := fun x y => ltOf_row (f x) (f y); refine ⟨fun x => ?_, fun x y z h h' => ?_, fun x y z h h' => ?_⟩
  · rw [e]; exact decide_eq_false (List.lt_irrefl _)
  · rw [e] at *; exact decide_eq_true (List.lt_trans (of_decide_eq_true h) (of_decide_eq_true h'))
  · rw [e] at *
    exact decide_eq_false (List.not_lt.2 (List.le_trans (List.not_lt.1 (of_decide_eq_false h')) (List.not_lt.1 (of_decide_eq_false h))))
def CmpPost (i : Int) (w : World) (e : Ending) (w' : World) : Prop := e = .returned (.int .i64 i) ∧ w' = w
theorem implIsNaN_any (s : ByteArray) (w : World) : Calls Tryz.prog 145 #[.string s] w fun e w' => e = .returned (.bool false) ∧ w' = w := by
  go_enter Tryz.func145, Tryz.ntmps145; go_wp2; refine bodyPost_ret (v := .bool false) (by simp [results, Tryz.results145, go_sem]) rfl ⟨rfl, rfl⟩
theorem implCmpStr_any (s t : ByteArray) (w : World) : Calls Tryz.prog 102 #[.string s, .string t] w (CmpPost (textCmp s t) w) := by
  have h1 := (less_cmp s.data.toList t.data.toList).1; have h2 := (less_cmp t.data.toList s.data.toList).1; have h5 := (less_cmp s.data.toList t.data.toList).2; have h3 := bytes_anti s.data.toList t.data.toList; have h4 := cmp_range s.data.toList t.data.toList; rw [← Lib.toList_data, ← Lib.toList_data] at h1 h2 h5; have H3 := hid h3; have H4 := hid h4; clear h3 h4; go_enter Tryz.func102, Tryz.ntmps102
  cases e1 : Op.bytesLess s.toList t.toList with
  | true =>
    rw [e1] at h1; have hv : textCmp s t = -1 := by have := of_decide_eq_true h1.symm; unfold textCmp; rw [← Lib.toList_data, ← Lib.toList_data]; exact this
    have HV := hid hv; clear h1 h2 hv h5; go_wp2_with (first | (go_at_call 145; refine (implIsNaN_any _ _).mono ?_; rintro e w' ⟨rfl, rfl⟩))
    refine bodyPost_ret (v := .int .i64 (-1)) qcr rfl ⟨by rw [HV.out], rfl⟩
  | false =>
    cases e2 : Op.bytesLess t.toList s.toList with
    | true =>
      have hv : textCmp s t = 1 := by
        rw [e2] at h2; have h2 := of_decide_eq_true h2.symm; have h3 := H3.out; unfold textCmp; rw [Lib.toList_data, Lib.toList_data] at h2; omega
      have HV := hid hv
      have he : (s.toList == t.toList) = false := by
        rw [h5]; refine decide_eq_false fun e => ?_; have e' : textCmp s t = 0 := by unfold textCmp; rw [← Lib.toList_data, ← Lib.toList_data]; exact e
        omega
      clear h1 h2 hv h5; go_wp2_with (first | (go_at_call 145; refine (implIsNaN_any _ _).mono ?_; rintro e w' ⟨rfl, rfl⟩))
      refine bodyPost_ret (v := .int .i64 1) qcr rfl ⟨by rw [HV.out], rfl⟩
    | false =>
      have hv : textCmp s t = 0 := by
        rw [e1] at h1; rw [e2] at h2; have h1 := of_decide_eq_false h1.symm; have h2 := of_decide_eq_false h2.symm; have h3 := H3.out; have h4 := H4.out; unfold textCmp; rw [Lib.toList_data, Lib.toList_data] at h1 h2; omega
      have HV := hid hv
      have he : (s.toList == t.toList) = true := by
        rw [h5]; refine decide_eq_true ?_; rw [Lib.toList_data, Lib.toList_data]; exact hv
      clear h1 h2 hv h5; go_wp2_with (first | (go_at_call 145; refine (implIsNaN_any _ _).mono ?_; rintro e w' ⟨rfl, rfl⟩)); refine bodyPost_ret (v := .int .i64 0) qcr rfl ⟨by rw [HV.out], rfl⟩
theorem rowCmp_drop {x y : List ByteArray} {k : Nat} {a b : ByteArray} (ha : x[k]? = some a) (hb : y[k]? = some b) : rowCmp (x.drop k) (y.drop k) = if textCmp a b = 0 then rowCmp (x.drop (k + 1)) (y.drop (k + 1)) else textCmp a b := by
  have e : ∀ {z : List ByteArray} {c : ByteArray}, z[k]? = some c → z.drop k = c :: z.drop (k + 1) := fun {z c} h => by
    obtain ⟨h1, h2⟩ := List.getElem?_eq_some_iff.1 h; rw [← h2]; exact List.drop_eq_getElem_cons h1
  rw [e ha, e hb, rowCmp]
theorem implCompare_any (A B : Option Addr) (n c m d : Nat) (x y : List ByteArray) (w : World) (hx : IsTexts w 0 w.heap.size A n c x) (hy : IsTexts w 0 w.heap.size B m d y) :
    Calls Tryz.prog 50 #[.slice A n c, .slice B m d] w (CmpPost (rowCmp x y) w) := by
  have hn := hx.len; have hm := hy.len; unfold maxLen at hn hm; have HX := hid hx; have HY := hid hy; have HN := hid hx.1; have HM := hid hy.1; clear hx hy; go_enter Tryz.func50, Tryz.ntmps50; go_wp2; go_loopw [11] (fun i wr => ∃ k : Nat, k ≤ n ∧ k ≤ m ∧ i = .int .i64 (k : Int) ∧ wr = w ∧ rowCmp x y = rowCmp (x.drop k) (y.drop k)) (fun i _ => n - (intOf i).toNat)
  case atStart => exact ⟨0, Nat.zero_le _, Nat.zero_le _, rfl, rfl, rfl⟩
  case round =>
    obtain ⟨k, hk, hkm, rfl, rfl, he⟩ := hrel; have HE := hid he; clear he; by_cases hlt : k < n
    · have hltI : (k : Int) < (n : Int) := qaa
      obtain ⟨p, a, hA, _, _, ha, z0⟩ := HX.out.at_ hlt; subst hA; rw [Nat.mul_one] at z0; have z0' : wr.cell? (p.add k) = some (.string a) := z0; have HA := hid ha; clear z0 ha; by_cases hlm : k < m
      · have hlmI : (k : Int) < (m : Int) := qaa
        have hge : ¬ (m : Int) ≤ (k : Int) := qaa; obtain ⟨q, b, hB, _, _, hb, y0⟩ := HY.out.at_ hlm; subst hB; rw [Nat.mul_one] at y0; have y0' : wr.cell? (q.add k) = some (.string b) := y0; have HB := hid hb; clear y0 hb; have hstep := rowCmp_drop HA.out HB.out; have HS := hid hstep; clear hstep; obtain ⟨i, hi⟩ : ∃ i, textCmp a b = i := ⟨_, rfl⟩; have HI := hid hi; clear hi; by_cases h0 : i = 0
        · go_wp2_with (first | (go_at_call 102; refine (implCmpStr_any _ _ _).mono ?_; rintro e w' ⟨rfl, rfl⟩; rw [HI.out]))
          refine ⟨⟨k + 1, by omega, by omega, by go_num, trivial, ?_⟩, by simp [intOf]; omega⟩; rw [HE.out, HS.out, HI.out, if_pos h0]
        · go_wp2_with (first | (go_at_call 102; refine (implCmpStr_any _ _ _).mono ?_; rintro e w' ⟨rfl, rfl⟩; rw [HI.out]))
          refine bodyPost_ret (v := .int .i64 i) qbh rfl ⟨?_, rfl⟩; rw [HE.out, HS.out, HI.out, if_neg h0]
      · have hge : (m : Int) ≤ (k : Int) := qaa
        have hv : rowCmp x y = 1 := by
          have hd : y.drop k = [] := List.drop_eq_nil_of_le qcy; obtain ⟨h1, h2⟩ := List.getElem?_eq_some_iff.1 HA.out; rw [HE.out, hd, List.drop_eq_getElem_cons h1, rowCmp]
        have HV := hid hv; clear hv; go_wp2_with fail; refine bodyPost_ret (v := .int .i64 1) qbh rfl ⟨by rw [HV.out], rfl⟩
    · have hdx : x.drop k = [] := List.drop_eq_nil_of_le qcj
      by_cases hnm : n < m
      · have hnmI : (n : Int) < (m : Int) := qaa
        have hv : rowCmp x y = -1 := by
          have h1 : k < y.length := qcy; rw [HE.out, hdx, List.drop_eq_getElem_cons h1, rowCmp]
        have HV := hid hv; clear hv hdx; go_wp2_with fail; refine bodyPost_ret (v := .int .i64 (-1)) qbh rfl ⟨by rw [HV.out], rfl⟩
      · have hnmI : ¬ (n : Int) < (m : Int) := qaa
        have hv : rowCmp x y = 0 := by
          have h1 : y.drop k = [] := List.drop_eq_nil_of_le qcy; rw [HE.out, hdx, h1, rowCmp]
        have HV := hid hv; clear hv hdx; go_wp2_with fail; refine bodyPost_ret (v := .int .i64 0) qbh rfl ⟨by rw [HV.out], rfl⟩
end Go.Proofs.YtcigljngiemdeaaGreat
