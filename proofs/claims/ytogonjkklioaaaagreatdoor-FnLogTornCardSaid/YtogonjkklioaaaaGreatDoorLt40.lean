/-
  Texts of one claim, put together.
-/
import Derived.Test.YtogonjkklioaaaaGreatDoorZq
import Derived.Test.YtogonjkklioaaaaGreatDoorLt26
import Derived.Lib.ConvBytes
import Derived.Laws.IdiomStrings
import Derived.Test.YtogonjkklioaaaaGreatDoorLt27
set_option maxRecDepth 100000
set_option maxHeartbeats 8000000
namespace Go.Proofs.YtogonjkklioaaaaGreatDoor
open Go.RowKit
theorem step_apart {a b : Nat} {c : UInt8} (ha : a < 1000003) (hb : b < 1000003) (h : a ≠ b) : zch a c ≠ zch b c := by
  unfold zch; omega
theorem step_turn {a : Nat} {c d : UInt8} (h : c ≠ d) : zch a c ≠ zch a d := by
  have hc := c.toNat_lt; have hd := d.toNat_lt; have hn : c.toNat ≠ d.toNat := fun e => h (UInt8.toNat_inj.1 e); unfold zch; omega
theorem fold_apart : ∀ (r : List UInt8) {a b : Nat}, a < 1000003 → b < 1000003 → a ≠ b → r.foldl zch a ≠ r.foldl zch b
  | [], _, _, _, _, h => h
  | c :: r, _, _, ha, hb, h => by
    rw [List.foldl_cons, List.foldl_cons]; exact fold_apart r (zem _ _) (zem _ _) (step_apart ha hb h)
theorem sum_turned (l : List UInt8) {k : Nat} (hk : k < l.length) {d : UInt8} (h : d ≠ l[k]) : zhq (l.set k d) ≠ zhq l := by
  have a2 : ∀ x, zhq (l.set k x) = (l.drop (k + 1)).foldl zch (zch (zhq (l.take k)) x) := fun x => by
    rw [List.set_eq_take_append_cons_drop, if_pos hk]; unfold zhq; rw [List.foldl_append, List.foldl_cons]
  have h2 := a2 l[k]; rw [List.set_getElem_self] at h2; rw [a2 d, h2]; exact fold_apart _ (zem _ _) (zem _ _) (step_turn h)
theorem xor_turn (c : UInt8) (v : Nat) (h0 : 0 < v) (h1 : v < 256) : ∃ d : UInt8, bits .xor .u8 (c.toNat : Int) (v : Int) = (d.toNat : Int) ∧ d ≠ c := by
  refine ⟨⟨c.toBitVec ^^^ BitVec.ofNat 8 v⟩, ?_, fun e => ?_⟩
  · have e1 : bits .xor .u8 (c.toNat : Int) (v : Int) = IntKind.u8.wrap (((BitVec.ofInt 8 (c.toNat : Int)) ^^^ (BitVec.ofInt 8 (v : Int))).toNat : Int) := rfl
    have e2 : BitVec.ofInt 8 (c.toNat : Int) = c.toBitVec := by
      apply BitVec.eq_of_toNat_eq; have := c.toNat_lt; rw [BitVec.toNat_ofInt]; show _ = c.toNat; omega
    have e3 : BitVec.ofInt 8 (v : Int) = BitVec.ofNat 8 v := by
      apply BitVec.eq_of_toNat_eq; rw [BitVec.toNat_ofInt, BitVec.toNat_ofNat]; omega
    rw [e1, e2, e3]; have hlt := (c.toBitVec ^^^ BitVec.ofNat 8 v).isLt; rw [IntKind.wrap_u8]; show _ = (((c.toBitVec ^^^ BitVec.ofNat 8 v).toNat : Nat) : Int); omega
  · have e2 : c.toBitVec ^^^ BitVec.ofNat 8 v = c.toBitVec := congrArg UInt8.toBitVec e
    have e3 : BitVec.ofNat 8 v = 0#8 := by
      have h3 := congrArg (fun x => c.toBitVec ^^^ x) e2; simpa [← BitVec.xor_assoc] using h3
    have := congrArg BitVec.toNat e3; rw [BitVec.toNat_ofNat] at this; simp at this; omega
theorem bytes_apart (w : World) (s : ByteArray) : ∃ cap W, (convert 9 22 (.string s)).run Tryz.prog w = .ok (.slice (some ⟨w.heap.size, 0, none⟩) s.size cap) W ∧ Below w.heap.size w W ∧ w.heap.size < W.heap.size ∧
    (∀ j (hj : j < s.size), W.cell? ⟨w.heap.size, j, none⟩ = some (.int .u8 ((s.data.toList[j]'(by simpa using hj)).toNat : Int))) ∧ (∀ j, j < s.size → W.frozen? ⟨w.heap.size, j, none⟩ = false) ∧ s.size ≤ cap := by
  refine ⟨_, _, Lib.run_convert_string_bytes w _ _ 5 s Tryz.underlying9 Tryz.underlying22 Tryz.underlying5, ⟨rfl, rfl, rfl, by rw [Lib.bytesWorld_size]; omega, fun k hk => Lib.bytesWorld_at_old w _ s k hk⟩, by rw [Lib.bytesWorld_size]; omega, fun j hj => ?_, fun j hj => ?_, ?_⟩
  · rw [Lib.bytesWorld_cell w _ s j hj]
    congr 2; simp [List.getD, hj]
  · have hz : s.size ≤ (Lib.bytesCells w 5 s).size := by unfold Lib.bytesCells; simp
    simp [World.frozen?, Lib.bytesWorld_at_new]; omega
  · exact grownCap_ge _ _ _ _
def valD (l : List UInt8) : Nat := l.foldl (fun s c => s * 10 + (c.toNat - 48)) 0
theorem val_dec (u : Nat) : valD (Lib.decDigits u) = u := by
  induction u using Nat.strongRecOn with
  | ind u ih =>
    by_cases h : u < 10
    · rw [Lib.decDigits, dif_pos h]
      unfold valD; simp only [List.foldl_cons, List.foldl_nil, UInt8.toNat_ofNat']; omega
    · rw [zpf h]
      have e := ih (u / 10) qaa; unfold valD at e ⊢; rw [List.foldl_append, e]; simp only [List.foldl_cons, List.foldl_nil, UInt8.toNat_ofNat']; omega
theorem dec_inj {u v : Nat} (h : Lib.decDigits u = Lib.decDigits v) : u = v := by rw [← val_dec u, h, val_dec]
theorem encS_no {d : UInt8} (hd : d ≠ 32 ∧ d ≠ 40 ∧ d ≠ 41 ∧ d ≠ 44) (hp : ¬ zjk d) : ∀ {l : List Sg}, (∀ x ∈ l, zav x.2 = true ∧ x.1 ≠ d) → d ∉ encS l
  | [], _ => by simp [encS]
  | x :: l, h => by
    rw [zby]; intro hc; rcases List.mem_cons.1 hc with e | hc
    · exact (h x qag).2 e.symm
    · rcases List.mem_append.1 hc with hc | hc
      · rcases zki (h x qag).1 hc with e | e | e | e
        · exact hd.2.1 e
        · exact hd.2.2.1 e
        · exact hd.2.2.2 e
        · exact hp e
      · rcases List.mem_cons.1 hc with e | hc
        · exact hd.1 e
        · exact encS_no hd hp (fun y hy => h y (by simp [hy])) hc
theorem sgs_sign {xs ys : List At} : ∀ z ∈ sgs xs ys, z.1 = 45 ∨ z.1 = 43 := by
  intro z hz; unfold sgs at hz; rcases List.mem_append.1 hz with hz | hz
  · obtain ⟨a, _, rfl⟩ := List.mem_map.1 hz; exact .inl rfl
  · obtain ⟨a, _, rfl⟩ := List.mem_map.1 hz; exact .inr rfl
theorem ch_no_mark {c : Ch} (h : okC c) : (58 : UInt8) ∉ chC c := by
  obtain ⟨_, _, a1, a2⟩ := zbd h; unfold chC; rw [← zcl]; refine encS_no qam (by unfold zjk; decide) fun z hz => ⟨zbq a1 a2 z hz, ?_⟩; rcases sgs_sign z hz with e | e <;> rw [e] <;> decide
theorem ch_more {c c' : Ch} (h : okC c) (h' : okC c') {r : List UInt8} (he : chC c = chC c' ++ r) : r = [] ∨ ∃ q, r = 45 :: q ∨ r = 43 :: q := by
  obtain ⟨_, _, a1, a2⟩ := zbd h; obtain ⟨_, _, b1, b2⟩ := zbd h'; unfold chC at he; rw [← zcl, ← zcl] at he; obtain ⟨V, h1, h2⟩ := zcz (zbq a1 a2) (zbq b1 b2) he
  cases V with
  | nil => exact .inl (by rw [h2]; rfl)
  | cons z V =>
    rw [zby] at h2; rcases sgs_sign z (by rw [h1]; simp) with e | e
    · exact .inr ⟨_, .inl (by rw [h2, e])⟩
    · exact .inr ⟨_, .inr (by rw [h2, e])⟩
theorem ch_no_more {c c' : Ch} (h : okC c) (h' : okC c') {d : UInt8} {r : List UInt8} (hd : d ≠ 45 ∧ d ≠ 43) (he : chC c = chC c' ++ d :: r) : False := by
  rcases ch_more h h' he with e | ⟨q, e | e⟩
  · cases e
  · injection e with e _; exact hd.1 e
  · injection e with e _; exact hd.2 e
theorem dec_cons (u : Nat) : ∃ d r, Lib.decDigits u = d :: r ∧ 48 ≤ d.toNat ∧ d.toNat ≤ 57 := by
  cases h : Lib.decDigits u with
  | nil => have := dec_some u; rw [h] at this; simp at this
  | cons d r => exact ⟨d, r, rfl, zib u d (by rw [h]; simp)⟩
theorem digit_no {d : UInt8} (h : 48 ≤ d.toNat) : d ≠ 45 ∧ d ≠ 43 := ⟨fun e => by rw [e] at h; revert h; decide, fun e => by rw [e] at h; revert h; decide⟩
theorem rec_prefix {j : Nat} {c c' : Ch} (h : okC c) (h' : okC c') {r : List UInt8} (he : zen j (chC c) = zen j (chC c') ++ r) : r = [] := by
  rw [zfk, zfk, List.append_assoc, List.cons_append] at he; have h1 := List.append_cancel_left he; injection h1 with _ h1; rw [List.append_assoc] at h1; obtain ⟨d, q, a3, a2, hd2⟩ := dec_cons (zhq (zcp j (chC c'))); rcases List.append_eq_append_iff.1 h1 with ⟨us, e1, e2⟩ | ⟨vs, e1, e2⟩
  · -- chC c' = chC c ++ us
    cases us with
    | nil =>
      rw [List.append_nil] at e1; rw [List.nil_append] at e2; rw [e1] at e2
      exact List.eq_nil_of_length_eq_zero (by have := congrArg List.length e2; rw [List.length_append] at this; omega)
    | cons x us =>
      exfalso; have hx := ch_more h' h e1; rcases hx with e | ⟨q', e | e⟩
      · cases e
      · rw [e] at e2
        exact zik (u := zhq (zcp j (chC c))) (c := 45) (.inl qam) (by rw [e2]; simp)
      · rw [e] at e2
        exact zik (u := zhq (zcp j (chC c))) (c := 43) (.inl qam) (by rw [e2]; simp)
  · cases vs with
    | nil =>
      rw [List.append_nil] at e1; rw [List.nil_append] at e2; rw [← e1] at e2
      exact List.eq_nil_of_length_eq_zero (by have := congrArg List.length e2; rw [List.length_append] at this; omega)
    | cons x vs =>
      exfalso; rw [a3, List.cons_append] at e2; have hx : d = x := by rw [List.cons_append] at e2; injection e2
      subst hx; exact ch_no_more h h' (digit_no a2) e1
theorem headL_len (k : Nat) (p : List UInt8) : (zcp k p).length = (Lib.decDigits k).length + 1 + p.length := by
  unfold zcp; simp only [List.length_append, List.length_cons, List.length_nil]
theorem cut_turned {c c' : Ch} (h : okC c) (h' : okC c') {S S' : List UInt8} (hS : ∀ d ∈ S, 48 ≤ d.toNat) {k : Nat} (hlt : (chC c).length < (chC c').length) (he : ∀ n, n ≠ k → (chC c ++ S)[n]? = (chC c' ++ S')[n]?) : False := by
  have hb : zez (chC c') := zfu _ _; rcases hb with e | ⟨q, hq⟩
  · rw [e] at hlt; simp at hlt
  · have hlen : (chC c').length = q.length + 1 := by rw [hq]; simp
    have hk : k = q.length := by
      refine Classical.byContradiction fun hne => ?_; have e := he q.length (fun e => hne e.symm); rw [List.getElem?_append_right qaa, List.getElem?_append_left qaa, hq, List.getElem?_append_right (nl _), Nat.sub_self] at e; have := hS 32 (List.mem_of_getElem? e); revert this; decide
    have e1 : chC c' = chC c ++ (chC c').drop (chC c).length := by
      have e2 : (chC c').take (chC c).length = chC c := by
        apply List.ext_getElem?; intro n; by_cases hn : n < (chC c).length
        · have e := he n qaa
          rw [List.getElem?_append_left hn, List.getElem?_append_left qaa] at e; rw [List.getElem?_take_of_lt hn, e]
        · rw [List.getElem?_eq_none qai, List.getElem?_eq_none qaa]
      have e3 := List.take_append_drop (chC c).length (chC c'); rw [e2] at e3; exact e3.symm
    cases hd : (chC c').drop (chC c).length with
    | nil => have := congrArg List.length hd; simp at this; omega
    | cons d r =>
      rw [hd] at e1; have a2 : (chC c')[(chC c).length]? = some d := by rw [e1, List.getElem?_append_right (nl _)]; simp
      refine ch_no_more h' h ?_ e1; by_cases hlast : (chC c).length = q.length
      · rw [hlast, hq, List.getElem?_append_right (nl _)] at a2
        simp at a2; rw [← a2]; decide
      · have e := he (chC c).length qaa
        rw [List.getElem?_append_right (nl _), List.getElem?_append_left qaa, a2] at e; exact digit_no (hS d (List.mem_of_getElem? e))
theorem zli (k : Nat) (p : List UInt8) : zen k p = (Lib.decDigits k ++ [58]) ++ (p ++ Lib.decDigits (zhq (zcp k p))) := by rw [zfk]; simp
theorem rec_turned {j : Nat} {c c' : Ch} (h : okC c) (h' : okC c') {i : Nat} {x y : UInt8} (hx : (zen j (chC c))[i]? = some x) (hy : y ≠ x) (he : (zen j (chC c)).set i y = zen j (chC c')) : False := by
  have hi : i < (zen j (chC c)).length := (List.getElem?_eq_some_iff.1 hx).1; have a5 : ∀ n, n ≠ i → (zen j (chC c))[n]? = (zen j (chC c'))[n]? := fun n hn => by rw [← he, List.getElem?_set_ne (fun e => hn e.symm)]
  have a3 : (zen j (chC c'))[i]? = some y := by rw [← he, List.getElem?_set_self hi]
  by_cases hD : i < (Lib.decDigits j ++ [58]).length
  · rw [zli, List.getElem?_append_left hD] at a3 hx
    rw [hx] at a3; exact hy (Option.some.inj a3).symm
  · have a2 : ∀ n, n ≠ i - (Lib.decDigits j ++ [58]).length → (chC c ++ Lib.decDigits (zhq (zcp j (chC c))))[n]? = (chC c' ++ Lib.decDigits (zhq (zcp j (chC c'))))[n]? := fun n hn => by
      have e := a5 ((Lib.decDigits j ++ [58]).length + n) qaa; rw [zli, zli, List.getElem?_append_right (Nat.le_add_right _ _), List.getElem?_append_right (Nat.le_add_right _ _), Nat.add_sub_cancel_left] at e; exact e
    rcases Nat.lt_trichotomy (chC c).length (chC c').length with hl | hl | hl
    · exact cut_turned h h' (fun d hd => (zib _ d hd).1) hl a2
    · have hh : (zcp j (chC c)).length = (zcp j (chC c')).length := by rw [headL_len, headL_len, hl]
      by_cases hk : i < (zcp j (chC c)).length
      · unfold zen at he
        rw [List.set_append_left _ _ hk] at he; obtain ⟨e1, e2⟩ := List.append_inj he (by rw [List.length_set, hh]); have e3 := dec_inj e2; rw [← e1] at e3; unfold zen at hx; rw [List.getElem?_append_left hk] at hx; exact sum_turned (zcp j (chC c)) hk (d := y) (by rw [(List.getElem?_eq_some_iff.1 hx).2]; exact hy) e3.symm
      · have a4 := he
        unfold zen at a4; rw [List.set_append_right _ _ qaa] at a4; obtain ⟨e1, e2⟩ := List.append_inj a4 hh; have e3 : zen j (chC c') = zen j (chC c) := by unfold zen; rw [← e1]
        rw [e3, hx] at a3; exact hy (Option.some.inj a3).symm
    · exact cut_turned h' h (fun d hd => (zib _ d hd).1) hl (fun n hn => (a2 n hn).symm)
theorem zns {k : Nat} {c : Ch} (h : okC c) : (zen k (chC c)).count 58 = 1 := by
  have d0 : ∀ u, (Lib.decDigits u).count 58 = 0 := fun u => List.count_eq_zero.2 (zik (.inr qam)); rw [zfk, List.count_append, List.count_cons, List.count_append, d0, d0, List.count_eq_zero.2 (ch_no_mark h)]; rfl
theorem line_turned {j : Nat} {c c' : Ch} (h : okC c) (h' : okC c') {ds : List Ch} (hds : ∀ x ∈ ds, okC x) {i : Nat} {x y : UInt8} (hx : (zbo j (chC c))[i]? = some x) (hy : y ≠ x) {r : List UInt8} (he : (zbo j (chC c)).set i y ++ zcr (j + 1) ds = zbo j (chC c') ++ r) : False := by
  have hi : i < (zbo j (chC c)).length := (List.getElem?_eq_some_iff.1 hx).1; have n1 := zcj (k := j) (zea h); have n2 := zcj (k := j) (zea h'); change (10 : UInt8) ∉ zen j (chC c) at n1; change (10 : UInt8) ∉ zen j (chC c') at n2; rw [zbm] at hx hi he; rw [zbm j (chC c'), List.append_assoc] at he; by_cases hk : i < (zen j (chC c)).length
  · rw [List.set_append_left _ _ hk, List.append_assoc] at he
    rw [List.getElem?_append_left hk] at hx; by_cases h10 : y = 10
    · subst h10
      rw [List.set_eq_take_append_cons_drop, if_pos hk, List.append_assoc, List.cons_append] at he; obtain ⟨e1, _⟩ := zcd he (fun hm => n1 (List.mem_of_mem_take hm)) n2
      have e2 : zen j (chC c) = zen j (chC c') ++ (zen j (chC c)).drop i := by
        have e3 := List.take_append_drop i (zen j (chC c)); rw [e1] at e3; exact e3.symm
      have e3 := congrArg List.length (rec_prefix h h' e2); rw [List.length_drop, List.length_nil] at e3; omega
    · obtain ⟨e1, _⟩ := zcd he (fun hm => by
        rcases List.mem_or_eq_of_mem_set hm with hm | hm
        · exact n1 hm
        · exact h10 hm.symm) n2
      exact rec_turned h h' hx hy e1
  · have a3 : i = (zen j (chC c)).length := by rw [List.length_append, List.length_singleton] at hi; omega
    rw [List.set_append_right _ _ qaa, a3, Nat.sub_self] at he; rw [a3, List.getElem?_append_right (nl _), Nat.sub_self] at hx; have a2 : x = 10 := by simpa using hx.symm
    subst a2
    have n3 : (10 : UInt8) ∉ zen j (chC c) ++ [y] := fun hm => by
      rcases List.mem_append.1 hm with hm | hm
      · exact n1 hm
      · exact hy (List.mem_singleton.1 hm).symm
    change zen j (chC c) ++ [y] ++ zcr (j + 1) ds = _ at he
    cases ds with
    | nil =>
      refine n3 ?_; have e : zcr (j + 1) [] = [] := rfl; rw [e, List.append_nil] at he; rw [he]
      simp
    | cons d ds =>
      have hd := hds d qag
      have e : zcr (j + 1) (d :: ds) = zen (j + 1) (chC d) ++ (10 :: zcr (j + 2) ds) := by
        show zbo (j + 1) (chC d) ++ zcr (j + 2) ds = _; rw [zbm, List.append_assoc]; rfl
      rw [e, ← List.append_assoc] at he; have n4 := zcj (k := j + 1) (zea hd); change (10 : UInt8) ∉ zen (j + 1) (chC d) at n4
      obtain ⟨e1, _⟩ := zcd he (fun hm => by
        rcases List.mem_append.1 hm with hm | hm
        · exact n3 hm
        · exact n4 hm) n2
      have e2 := congrArg (List.count 58) e1; rw [List.count_append, List.count_append, zns h, zns hd, zns h'] at e2; omega
theorem LogOf.cut {l : List UInt8} {cs ds : List Ch} {k : Nat} (h : LogOf l cs) (h' : LogOf (l.take k) ds) : ds <+: cs ∧ (zcr 0 ds).length ≤ k := by
  have h1 := h'.tx; refine ⟨h.most h'.ok (h1.trans (List.take_prefix _ _)), ?_⟩; have := h1.length_le; rw [List.length_take] at this; omega
theorem LogOf.torn {l : List UInt8} {cs ds es : List Ch} {k : Nat} {x y : UInt8} (h : LogOf l cs) (h1 : LogOf (l.take k) ds) (hx : (zcr 0 cs)[k]? = some x) (hy : y ≠ x) (h2 : LogOf ((zcr 0 cs).set k y) es) : es = ds := by
  have hk : k < (zcr 0 cs).length := (List.getElem?_eq_some_iff.1 hx).1; obtain ⟨⟨vs, a4⟩, hm⟩ := h.cut h1
  have a6 : l.take k = (zcr 0 cs).take k := by
    obtain ⟨r, hr⟩ := h.tx; rw [← hr, List.take_append_of_le_length qaa]
  have a2 : ∀ c ∈ vs, okC c := fun c hc => h.ok c (by rw [← a4]; simp [hc]); have hl : zcr 0 cs = zcr 0 ds ++ zcr ds.length vs := by rw [← a4, zmw, Nat.zero_add]
  rw [hl, List.set_append_right _ _ hm] at h2; have hp : ds <+: es := h2.most h1.ok (List.prefix_append _ _); obtain ⟨us, hus⟩ := hp
  cases us with
  | nil => rw [List.append_nil] at hus; exact hus.symm
  | cons c' us =>
    exfalso; have a5 : okC c' := h2.ok c' (by rw [← hus]; simp)
    cases vs with
    | nil =>
      have e : zcr ds.length [] = [] := rfl; rw [hl, e, List.append_nil] at hk
      omega
    | cons c vs =>
      have hc := a2 c qag; have e0 : zcr ds.length (c :: vs) = zbo ds.length (chC c) ++ zcr (ds.length + 1) vs := rfl
      -- the byte lies in the line of c
      have a3 : k - (zcr 0 ds).length < (zbo ds.length (chC c)).length := by
        refine Classical.byContradiction fun hge => ?_; refine h1.no c ((zcr (ds.length + 1) vs).take (k - (zcr 0 ds).length - (zbo ds.length (chC c)).length)) hc ?_; rw [a6, hl, e0, List.take_append, List.take_of_length_le hm, List.take_append, List.take_of_length_le qaa]
      obtain ⟨r, hr⟩ := h2.tx; rw [← hus, zmw, Nat.zero_add, List.append_assoc] at hr; have hr := List.append_cancel_left hr; have e1 : zcr ds.length (c' :: us) = zbo ds.length (chC c') ++ zcr (ds.length + 1) us := rfl; rw [e1, e0, List.set_append_left _ _ a3, List.append_assoc] at hr; rw [hl, List.getElem?_append_right hm, e0, List.getElem?_append_left a3] at hx; exact line_turned hc a5 (fun z hz => a2 z (by simp [hz])) hx hy hr.symm
end Go.Proofs.YtogonjkklioaaaaGreatDoor
