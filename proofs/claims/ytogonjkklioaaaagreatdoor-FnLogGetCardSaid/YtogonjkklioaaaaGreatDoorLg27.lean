/-
  Texts of one claim, put together.
-/
import Derived.Test.YtogonjkklioaaaaGreatDoorLg26
import Derived.Test.YtogonjkklioaaaaGreatDoorLg25
import Derived.Test.YtogonjkklioaaaaGreatDoorShelf6
set_option maxRecDepth 100000
set_option maxHeartbeats 8000000
namespace Go.Proofs.YtogonjkklioaaaaGreatDoor
open Go.RowKit
theorem dec_digits (u : Nat) : ∀ c ∈ Lib.decDigits u, 48 ≤ c.toNat ∧ c.toNat ≤ 57 := by
  induction u using Nat.strongRecOn with
  | ind u ih =>
    intro c hc; rw [Lib.decDigits] at hc; split at hc
    · have e : c = UInt8.ofNat (48 + u) := by simpa using hc
      rw [e, UInt8.toNat_ofNat']; omega
    · rcases List.mem_append.1 hc with hc | hc
      · exact ih (u / 10) qaa c hc
      · have e : c = UInt8.ofNat (48 + u % 10) := by simpa using hc
        rw [e, UInt8.toNat_ofNat']; omega
theorem zpl {u : Nat} {c : UInt8} (h : c.toNat < 48 ∨ 57 < c.toNat) : c ∉ Lib.decDigits u := fun hc => by have := dec_digits u c hc; omega
theorem dec_some (u : Nat) : 1 ≤ (Lib.decDigits u).length := by
  rw [Lib.decDigits]; split
  · simp
  · simp
theorem plain_ten {c : UInt8} (h : zod c) : c ≠ 10 := by
  intro e; subst e; revert h; unfold zod; decide
theorem text_no_ten {a : At} (h : zax a = true) : (10 : UInt8) ∉ zau a := by
  intro hc; rcases text_plain h hc with e | e | e | e
  · cases e
  · cases e
  · cases e
  · exact plain_ten e rfl
theorem zpj : ∀ {l : List Sg}, (∀ x ∈ l, zax x.2 = true ∧ x.1 ≠ 10) → (10 : UInt8) ∉ encS l
  | [], _ => by simp [encS]
  | x :: l, h => by
    rw [zci]; intro hc; rcases List.mem_cons.1 hc with e | hc
    · exact (h x qag).2 e.symm
    · rcases List.mem_append.1 hc with hc | hc
      · exact text_no_ten (h x qag).1 hc
      · rcases List.mem_cons.1 hc with e | hc
        · cases e
        · exact zpj (fun y hy => h y (by simp [hy])) hc
theorem zhn {xs ys : List At} (h : zao xs ys = true) : (10 : UInt8) ∉ chL xs ys := by
  obtain ⟨_, _, a1, a2⟩ := zbk h; rw [← zdu]; refine zpj fun z hz => ⟨zcg a1 a2 z hz, ?_⟩; unfold sgs at hz; rcases List.mem_append.1 hz with hz | hz
  · obtain ⟨a, _, rfl⟩ := List.mem_map.1 hz; exact (show (45 : UInt8) ≠ 10 by decide)
  · obtain ⟨a, _, rfl⟩ := List.mem_map.1 hz; exact (show (43 : UInt8) ≠ 10 by decide)
def zfl (l : List UInt8) : Prop := l = [] ∨ ∃ q, l = q ++ [32]
theorem zmh : ∀ (l : List Sg), zfl (encS l)
  | [] => .inl rfl
  | x :: l => by
    rw [zci]; rcases zmh l with e | ⟨q, e⟩
    · exact .inr ⟨x.1 :: zau x.2, by rw [e]; rfl⟩
    · exact .inr ⟨x.1 :: (zau x.2 ++ 32 :: q), by rw [e]; simp⟩
theorem zig (xs ys : List At) : zfl (chL xs ys) := by rw [← zdu]; exact zmh _
theorem ZLogMath0 {p : Prop} (h : p := by
  have := congrArg List.getLast? e1; rw [List.getLast?_append, List.getLast?_append] at this; simp only [List.getLast?_singleton, Option.some_or] at this
  have h2 : (x :: r).getLast? = some 32 := by
    cases hl : (x :: r).getLast? with
    | none => simp at hl
    | some z => rw [hl] at this; simpa using this.symm
  exact List.mem_of_getLast? h2) : p := h
theorem zlm {u v u' v' : List UInt8} (h : u ++ v = u' ++ v') (hu : zfl u) (hv : (32 : UInt8) ∉ v) (hu' : zfl u') (hv' : (32 : UInt8) ∉ v') : u = u' ∧ v = v' := by
  rcases List.append_eq_append_iff.1 h with ⟨us, e1, e2⟩ | ⟨vs, e1, e2⟩
  · rcases hu' with e | ⟨q, e⟩
    · rw [e] at e1
      obtain ⟨h1, h2⟩ := List.append_eq_nil_iff.1 e1.symm; rw [h2] at e2; exact ⟨by rw [h1, e], e2⟩
    · cases us with
      | nil => rw [List.append_nil] at e1; exact ⟨e1.symm, e2⟩
      | cons x r =>
        exfalso; rw [e] at e1
        have h1 : (32 : UInt8) ∈ x :: r := by
          exact ZLogMath0
        exact hv (by rw [e2]; exact List.mem_append_left _ h1)
  · rcases hu with e | ⟨q, e⟩
    · rw [e] at e1
      obtain ⟨h1, h2⟩ := List.append_eq_nil_iff.1 e1.symm; rw [h2] at e2; exact ⟨by rw [h1, e], e2.symm⟩
    · cases vs with
      | nil => rw [List.append_nil] at e1; exact ⟨e1, e2.symm⟩
      | cons x r =>
        exfalso; rw [e] at e1
        have h1 : (32 : UInt8) ∈ x :: r := by
          exact ZLogMath0
        exact hv' (by rw [e2]; exact List.mem_append_left _ h1)
def recL (k : Nat) (p : List UInt8) : List UInt8 := zff k p ++ Lib.decDigits (zns (zff k p))
theorem zcc (k : Nat) (p : List UInt8) : zbo k p = recL k p ++ [10] := rfl
theorem zlk (k : Nat) (p : List UInt8) : recL k p = Lib.decDigits k ++ 58 :: (p ++ Lib.decDigits (zns (zff k p))) := by
  unfold recL zff; simp
theorem zew {k : Nat} {p : List UInt8} (h : (10 : UInt8) ∉ p) : (10 : UInt8) ∉ recL k p := by
  rw [zlk]; intro hc; rcases List.mem_append.1 hc with hc | hc
  · exact zpl (.inl qan) hc
  · rcases List.mem_cons.1 hc with e | hc
    · cases e
    · rcases List.mem_append.1 hc with hc | hc
      · exact h hc
      · exact zpl (.inl qan) hc
theorem body_inj {k : Nat} {p p' : List UInt8} (h : recL k p = recL k p') (hp : zfl p) (hp' : zfl p') : p = p' := by
  rw [zlk, zlk] at h; have h1 := List.append_cancel_left h; injection h1 with _ h1; exact (zlm h1 hp (zpl (.inl qan)) hp' (zpl (.inl qan))).1
theorem line_len (k : Nat) (p : List UInt8) : 4 + p.length ≤ (zbo k p).length := by
  rw [zcc, zlk]; have h1 := dec_some k; have h2 := dec_some (zns (zff k p)); simp only [List.length_append, List.length_cons, List.length_nil]; omega
abbrev Ch := List At × List At
def okC (c : Ch) : Prop := zao c.1 c.2 = true
def chC (c : Ch) : List UInt8 := chL c.1 c.2
theorem line_first {k : Nat} {c c' : Ch} {r r' : List UInt8} (h : okC c) (h' : okC c') (he : zbo k (chC c) ++ r = zbo k (chC c') ++ r') : c = c' ∧ r = r' := by
  rw [zcc, zcc, List.append_assoc, List.append_assoc] at he; obtain ⟨h1, h2⟩ := zdm he (zew (zhn h)) (zew (zhn h')); have h3 := body_inj h1 (zig _ _) (zig _ _); obtain ⟨h4, h5⟩ := chL_inj h h' h3; exact ⟨Prod.ext h4 h5, by simpa using h2⟩
def zeb (k : Nat) : List Ch → List UInt8
  | [] => []
  | c :: r => zbo k (chC c) ++ zeb (k + 1) r
theorem zdy : ∀ (k : Nat) (cs : List Ch) (c : Ch), zeb k (cs ++ [c]) = zeb k cs ++ zbo (k + cs.length) (chC c)
  | k, [], c => by simp [zeb]
  | k, x :: cs, c => by
    show zbo k (chC x) ++ zeb (k + 1) (cs ++ [c]) = (zbo k (chC x) ++ zeb (k + 1) cs) ++ _; rw [zdy (k + 1) cs c, List.append_assoc, List.length_cons, Nat.add_assoc, Nat.add_comm 1]
theorem zmz : ∀ (k : Nat) (cs ds : List Ch), zeb k (cs ++ ds) = zeb k cs ++ zeb (k + cs.length) ds
  | k, [], ds => by simp [zeb]
  | k, x :: cs, ds => by
    show zbo k (chC x) ++ zeb (k + 1) (cs ++ ds) = (zbo k (chC x) ++ zeb (k + 1) cs) ++ _; rw [zmz (k + 1) cs ds, List.append_assoc, List.length_cons, Nat.add_assoc, Nat.add_comm 1]
theorem zjt : ∀ (k : Nat) (cs : List Ch), 4 * cs.length ≤ (zeb k cs).length
  | _, [] => by simp
  | k, c :: cs => by
    have h1 := zjt (k + 1) cs; have h2 := line_len k (chC c); show 4 * (cs.length + 1) ≤ (zbo k (chC c) ++ zeb (k + 1) cs).length; rw [List.length_append]; omega
structure LogOf (l : List UInt8) (cs : List Ch) : Prop where
  ok : ∀ c ∈ cs, okC c
  tx : zeb 0 cs <+: l
  no : ∀ c r, okC c → l ≠ zeb 0 cs ++ (zbo cs.length (chC c) ++ r)
theorem log_prefix : ∀ (k : Nat) (cs ds : List Ch) (r r' : List UInt8), (∀ c ∈ cs, okC c) → (∀ c ∈ ds, okC c) → zeb k cs ++ r = zeb k ds ++ r' → cs <+: ds ∨ ds <+: cs
  | _, [], ds, _, _, _, _, _ => .inl (List.nil_prefix)
  | _, _ :: _, [], _, _, _, _, _ => .inr (List.nil_prefix)
  | k, c :: cs, d :: ds, r, r', h, h', he => by
    have he' : zbo k (chC c) ++ (zeb (k + 1) cs ++ r) = zbo k (chC d) ++ (zeb (k + 1) ds ++ r') := by
      rw [← List.append_assoc, ← List.append_assoc]; exact he
    obtain ⟨h1, h2⟩ := line_first (h c qag) (h' d qag) he'; subst h1; rcases log_prefix (k + 1) cs ds r r' (fun x hx => h x (by simp [hx])) (fun x hx => h' x (by simp [hx])) h2 with h3 | h3
    · exact .inl ((List.prefix_cons_inj c).2 h3)
    · exact .inr ((List.prefix_cons_inj c).2 h3)
theorem LogOf.most {l : List UInt8} {cs ds : List Ch} (h : LogOf l cs) (h1 : ∀ c ∈ ds, okC c) (h2 : zeb 0 ds <+: l) : ds <+: cs := by
  obtain ⟨r, hr⟩ := h.tx; obtain ⟨r', a2⟩ := h2; rcases log_prefix 0 cs ds r r' h.ok h1 (hr.trans a2.symm) with ⟨t, ht⟩ | ht
  · cases t with
    | nil => rw [List.append_nil] at ht; rw [ht]; exact List.prefix_rfl
    | cons c t =>
      exfalso; subst ht; refine h.no c (zeb (cs.length + 1) t ++ r') (h1 c qag) ?_; rw [← a2, zmz]; show _ = _; rw [Nat.zero_add]; show (zeb 0 cs ++ (zbo cs.length (chC c) ++ zeb (cs.length + 1) t)) ++ r' = _; simp
  · exact ht
theorem LogOf.uniq {l : List UInt8} {cs ds : List Ch} (h : LogOf l cs) (h' : LogOf l ds) : cs = ds := by
  have h1 := h.most h'.ok h'.tx; have h2 := h'.most h.ok h.tx; exact List.IsPrefix.eq_of_length_le h2 h1.length_le
theorem zhr {p : Prop} (h : p := by
  go_wp2; exact bodyPost_ret (v := .tuple #[.agg #[.slice none 0 0, .slice none 0 0], .bool false]) qby rfl (HNO.out W6 _ _ _ _ _ _ HC.out HNN.out)) : p := h
theorem zlb (s : ByteArray) (w : World) (hs : s.size ≤ 1048576) (hm : MaxIn w) (hE : EofIn w) :
    Calls Tryz.prog 9 #[.string s] w (GetCPost s.data.toList w) := by
  obtain ⟨i0, hi, hz, hsz, hby⟩ := info_parts Tryz.infoAt; have HI := hid hi; have HZ := hid hz; have HSZ := hid hsz; have HYY := hid hby; clear hi hz hsz hby; have g2 := World.block_lt_of_cell? _ _ hm.choose_spec; have e7 := World.block_lt_of_cell? _ _ hE.choose_spec.choose_spec; have c3 := zac w (.cells #[.slice none 0 0, .slice none 0 0] 25); have X0 := Blk.new w 25 #[.slice none 0 0, .slice none 0 0]; obtain ⟨w1, d4⟩ : ∃ w1, w.alloc (.cells #[.slice none 0 0, .slice none 0 0] 25) = w1 := ⟨_, rfl⟩
  rw [d4] at c3 X0; have e8 : w1.heap.size = w.heap.size + 1 := by rw [← d4]; simp
  have hb1 := zac w1 (.cells #[.slice none 0 0, .slice none 0 0] 25); have X1 := Blk.new w1 25 #[.slice none 0 0, .slice none 0 0]; obtain ⟨w2, b9⟩ : ∃ w2, w1.alloc (.cells #[.slice none 0 0, .slice none 0 0] 25) = w2 := ⟨_, rfl⟩; rw [b9] at hb1 X1; have hz2 : w2.heap.size = w.heap.size + 2 := by rw [← b9]; simp [e8]
  go_enter Tryz.func9, Tryz.ntmps9; go_wp2_with fail; refine (zjr s w2).mono ?_; rintro e w3 ⟨rfl, hr3, hb3, d7⟩; rw [hz2] at hr3 d7 ⊢; have HR3 := hid hr3; have g0 : Hid (CG w1 (w.heap.size + 1) (w.heap.size + 3) w3.heap.size w3.heap.size (.slice none 0 0) (.slice none 0 0) [] [] w3) := hid ⟨by have := X1.below hb3; rw [e8] at this; exact this, ⟨rfl, .inl ⟨rfl, rfl⟩⟩, fun g hg => by simp [Value.ownBlock] at hg, OwnIn.nil, ⟨rfl, .inl ⟨rfl, rfl⟩⟩, OwnIn.nil, by omega, by omega, by omega, nl _, nl _, zaa hb1 hb3⟩; have X0 := hid X0; have b5 := hid c3
  clear hr3 hb3 hb1 c3 X1 d4 b9
  have NO : ∀ (W : World) (a6 hi : Nat) (vc vg : Value) (rc rg : List Rf), CG w1 (w.heap.size + 1) (w.heap.size + 3) a6 hi vc vg rc rg W → (∀ xs ys, zao xs ys = true → s.data.toList ≠ chL xs ys) → GetCPost s.data.toList w (.returned (.tuple #[.agg #[.slice none 0 0, .slice none 0 0], .bool false])) ((W.setCell ⟨w.heap.size, 0, none⟩ (.slice none 0 0)).setCell ⟨w.heap.size, 1, none⟩ (.slice none 0 0)) := by
    intro W a6 hi vc vg rc rg hC hno; have hg := hC.gr; have hgs := hg.size; have hb : Below w.heap.size w W := zaa b5.out hg; have hb2 := (hb.setCell (p := ⟨w.heap.size, 0, none⟩) (nl _) (.slice none 0 0)).setCell (p := ⟨w.heap.size, 1, none⟩) (nl _) (.slice none 0 0); exact ⟨none, 0, [], none, 0, [], w.heap.size, false, rfl, zmb, zmb, ⟨nl _, hb2.size⟩, hb2, qdd, fun _ => ⟨rfl, rfl, hno⟩⟩
  have HNO := hid NO; clear NO; have j0 : 0 ≠ w.heap.size + 2 := by have : 0 < w.heap.size := e7; omega
  have i8 : 1 ≠ w.heap.size + 2 := by have : 1 < w.heap.size := g2; omega
  have h7 := hE.below b5.out; have h8 := hm.below b5.out; clear hE hm g2 e7; go_wp2_with fail; go_loopw [] (fun wr => ∃ (i a6 hi : Nat) (vc vg : Value) (rc rg : List Rf), Rdr wr (w.heap.size + 2) s i ∧ CG w1 (w.heap.size + 1) (w.heap.size + 3) a6 hi vc vg rc rg wr ∧ CAt s i rc rg ∧ (rc = [] → vc = .slice none 0 0)) (fun wr => match wr.cell? ⟨w.heap.size + 2, 1, none⟩ with | some (.int _ j) => s.size - j.toNat | _ => 0)
  case atStart => exact ⟨0, _, _, _, _, [], [], HR3.out, g0.out, CAt.start s, fun _ => rfl⟩
  case round =>
    obtain ⟨i, a6, hi, vc, vg, rc, rg, hr, hC, hA, hv⟩ := hrel; clear HR3 g0; have HR := hid hr; have HC := hid hC.raise; have HA := hid hA; have HV := hid hv; have hli := hA.li; have hln := hA.ln; have h5 := h7.below hC.gr; have g7 := h8.below hC.gr; have y1 : wr.cell? ⟨w.heap.size + 2, 1, none⟩ = some (.int .i64 (i : Int)) := qek; clear hr hC hA hv; go_wp2_with fail; refine (rdLen_any (w.heap.size + 2) i s wr HR.out hli hs).mono ?_; rintro e w4 ⟨rfl, hb4⟩; have g5 := hid (HR.out.below hb4); have a5 := hid (HC.out.below hb4).raise; have h4 := h5.below hb4; have hm4 := g7.below hb4; clear hb4 HR HC h5 g7
    by_cases hlt : i < s.size
    · have c7 : (0 : Int) < ((s.size - i : Nat) : Int) := qaa
      go_wp2_with fail; refine (signed_any (w.heap.size + 2) i s w4 g5.out hli hs h4 j0 hm4 i8).mono ?_; rintro e w5 ⟨x, r, ok, j, rfl, hj, d9, h6, g8, g6, hno⟩; unfold zfc; have a9 := zac w5 (.cells #[.string r.1, .slice r.2.1 r.2.2.1 r.2.2.2.1] 51); have a3 := (a5.out.step g8 qaa qaa qaa).below a9; have HR6 := d9.below a9; have B6 := Blk.new w5 51 #[.string r.1, .slice r.2.1 r.2.2.1 r.2.2.2.1]; have H6 : HeadApart (w5.alloc (.cells #[.string r.1, .slice r.2.1 r.2.2.1 r.2.2.2.1] 51)) w4.heap.size (w5.alloc (.cells #[.string r.1, .slice r.2.1 r.2.2.1 r.2.2.2.1] 51)).heap.size r := h6.keep (fun b _ h2 => a9.block b h2) (nl _) a9.size
      obtain ⟨W6, b7⟩ : ∃ W6, w5.alloc (.cells #[.string r.1, .slice r.2.1 r.2.2.1 r.2.2.2.1] 51) = W6 := ⟨_, rfl⟩; rw [b7] at a3 HR6 B6 H6; have b0 : W6.cell? ⟨w5.heap.size, 0, none⟩ = some (.string r.1) := B6.cell 0; have b1 : W6.cell? ⟨w5.heap.size, 1, none⟩ = some (.slice r.2.1 r.2.2.1 r.2.2.2.1) := B6.cell 1; obtain ⟨A, c, B, d, ea, eb, _, _⟩ := a3.own; subst ea; subst eb; have c0 : W6.cell? ⟨w.heap.size + 1, 0, none⟩ = some (.slice A rc.length c) := a3.C.cell 0; have c1 : W6.cell? ⟨w.heap.size + 1, 1, none⟩ = some (.slice B rg.length d) := a3.C.cell 1; have X6 := X0.out.below a3.gr
      have a0 : W6.cell? ⟨w.heap.size, 0, none⟩ = some (.slice none 0 0) := X6.cell 0; have a1 : W6.cell? ⟨w.heap.size, 1, none⟩ = some (.slice none 0 0) := X6.cell 1; have f0 := X6.frozen 0; have f1 := X6.frozen 1; have b6 := hid (a3.C.alloc (.cells #[.string r.1, .slice r.2.1 r.2.2.1 r.2.2.2.1] 51)); have hz6 := a3.h3; have i1 := a3.h1; have i6 := a3.h2; have HC := hid a3; have HR := hid HR6; have H := hid H6; have a8 := hid g6; have HN := hid hno; have HW := hid b7; clear a3 HR6 H6 g6 hno b7 B6 X6 a9 d9 h6 g8 g5 a5 h4 hm4; by_cases hA1 : ok = true ∧ x = 45 ∧ rc = []
      · obtain ⟨rfl, rfl, rfl⟩ := hA1
        obtain ⟨p, a7, h1, h2, h3, rfl⟩ := a8.out rfl; have hv := HV.out rfl; injection hv with e1 _ e2; subst e1; subst e2; have HRW := hid HC.out.G; have H1 := hid h1; have H3 := hid h3; clear HV h1 h2 h3 a8 HN; have e6 := HW.out; go_wp2_with (at_builtin; refine wpList_append_own _ rfl _ _ 23 rfl (w.heap.size + 3) 51 i0 _ 2 40 Tryz.underlying23 HI.out HZ.out HSZ.out HYY.out rfl qan _ _ _ rfl (HRW.out.alloc _) ⟨W6.heap.size, 0, none⟩ 1 1 [.string r.1, .slice r.2.1 r.2.2.1 r.2.2.2.1] rfl rfl (zbr _ _ _ _) qal qaf qaa qah ?_; intro v' w9 hown' hgrow' _; have X9 := Blk.kept b6.out hgrow' (zbf (HRW.out.alloc _) b6.out); have q2 := X9.cell 1; have i5 := X9.frozen 1; obtain ⟨g', cap', rfl⟩ := ownsRow_succ hown'; have hown := hid hown'; have hgrow := hid hgrow'; clear hown' hgrow' X9)
        have hM := HC.out.goes H.out hown.out hgrow.out; have b3 := HR.out.turned (cb := w.heap.size + 1) (c := 1) (u := .slice (some ⟨g', 0, none⟩) (rg.length + 1) cap') HRW.out qaa hgrow.out qaa; have y9 : (w9.setCell ⟨w.heap.size + 1, 1, none⟩ (.slice (some ⟨g', 0, none⟩) (rg.length + 1) cap')).cell? ⟨w.heap.size + 2, 1, none⟩ = some (.int .i64 ((i + p.length + 2 : Nat) : Int)) := by obtain ⟨p', hr⟩ := b3; exact hr.cell 1
        go_roundw
        case rel => exact ⟨_, _, _, _, _, [], rg ++ [r], b3, hM, HA.out.goes H1.out H3.out hj, fun _ => rfl⟩
        case measure =>
          rw [y9, y1]; show s.size - ((i + p.length + 2 : Nat) : Int).toNat < s.size - ((i : Nat) : Int).toNat; omega
      · by_cases hB1 : ok = true ∧ x = 43
        · obtain ⟨rfl, rfl⟩ := hB1
          obtain ⟨p, a7, h1, h2, h3, rfl⟩ := a8.out rfl; have HRW := hid HC.out.K; have H1 := hid h1; have H3 := hid h3; clear HV h1 h2 h3 a8 HN hA1; have e6 := HW.out; go_wp2_with (at_builtin; refine wpList_append_own _ rfl _ _ 23 rfl a6 51 i0 _ 2 40 Tryz.underlying23 HI.out HZ.out HSZ.out HYY.out rfl qan _ _ _ rfl (HRW.out.alloc _) ⟨W6.heap.size, 0, none⟩ 1 1 [.string r.1, .slice r.2.1 r.2.2.1 r.2.2.2.1] rfl rfl (zbr _ _ _ _) qal qaf qaa qah ?_; intro v' w9 hown' hgrow' _; have X9 := Blk.kept b6.out hgrow' (zbf (HRW.out.alloc _) b6.out); have q2 := X9.cell 0; have i5 := X9.frozen 0; obtain ⟨g', cap', rfl⟩ := ownsRow_succ hown'; have hown := hid hown'; have hgrow := hid hgrow'; clear hown' hgrow' X9)
          have hM := HC.out.comes H.out hown.out hgrow.out; have b3 := HR.out.turned (cb := w.heap.size + 1) (c := 0) (u := .slice (some ⟨g', 0, none⟩) (rc.length + 1) cap') HRW.out qaa hgrow.out qaa; have y9 : (w9.setCell ⟨w.heap.size + 1, 0, none⟩ (.slice (some ⟨g', 0, none⟩) (rc.length + 1) cap')).cell? ⟨w.heap.size + 2, 1, none⟩ = some (.int .i64 ((i + p.length + 2 : Nat) : Int)) := by obtain ⟨p', hr⟩ := b3; exact hr.cell 1
          go_roundw
          case rel => exact ⟨_, _, _, _, _, rc ++ [r], rg, b3, hM, HA.out.comes H1.out H3.out hj, fun h => absurd h qag⟩
          case measure =>
            rw [y9, y1]; show s.size - ((i + p.length + 2 : Nat) : Int).toNat < s.size - ((i : Nat) : Int).toNat; omega
        · have a2 := HA.out.none hlt (fun y p a7 a h1 h2 h3 => by
            cases ok with
            | false => rw [HN.out rfl y p a7 h1 h2] at h3; cases h3
            | true =>
              obtain ⟨p', g1, k1, k2, k3, _⟩ := a8.out rfl; obtain ⟨k4, _⟩ := zdm (k1.symm.trans h1) k2 h2; injection k4 with k4 _; subst k4; exact ⟨fun ⟨e1, e2⟩ => hA1 ⟨rfl, e1, e2⟩, fun e1 => hB1 ⟨rfl, e1⟩⟩)
          have HNN := hid a2; have e6 := HW.out; clear a2 a8 HN HV
          cases ok with
          | false =>
            exact zhr
          | true =>
            have h43 : ¬ (x.toNat : Int) = 43 := fun e => hB1 ⟨rfl, UInt8.toNat_inj.1 (show x.toNat = (43 : UInt8).toNat by show x.toNat = 43; omega)⟩; by_cases h45 : x = 45
            · subst h45
              have hnr : ¬ (rc.length : Int) = 0 := fun e => hA1 ⟨rfl, rfl, List.eq_nil_of_length_eq_zero qaa⟩; exact zhr
            · have i4 : ¬ (x.toNat : Int) = 45 := fun e => h45 (UInt8.toNat_inj.1 (show x.toNat = (45 : UInt8).toNat by show x.toNat = 45; omega))
              exact zhr
    · have c7 : ¬ (0 : Int) < ((s.size - i : Nat) : Int) := qaa
      obtain ⟨A, c, B, d, ea, eb, oa, og⟩ := a5.out.own; subst ea; subst eb; have c0 : w4.cell? ⟨w.heap.size + 1, 0, none⟩ = some (.slice A rc.length c) := a5.out.C.cell 0; have c1 : w4.cell? ⟨w.heap.size + 1, 1, none⟩ = some (.slice B rg.length d) := a5.out.C.cell 1; have IA := hid (oa.atoms.keep (w' := w4) (lo' := 0) (hi' := w4.heap.size) AtomE.stays (fun _ _ _ => rfl) (Nat.zero_le _) (nl _)); have IG := hid (og.atoms.keep (w' := w4) (lo' := 0) (hi' := w4.heap.size) AtomE.stays (fun _ _ _ => rfl) (Nat.zero_le _) (Nat.le_trans a5.out.h2 a5.out.h3)); have OA := hid oa; have OG := hid og; have b4 := HA.out.all hlt
      clear oa og; go_wp2_with fail; refine (zee A B rc.length c rg.length d (rc.map rAt) (rg.map rAt) w4 IA.out IG.out).mono ?_; rintro e w7 ⟨rfl, hb7⟩; have a4 := hid (a5.out.below hb7); have X7 := X0.out.below a4.out.gr; have a0 : w7.cell? ⟨w.heap.size, 0, none⟩ = some (.slice none 0 0) := X7.cell 0; have a1 : w7.cell? ⟨w.heap.size, 1, none⟩ = some (.slice none 0 0) := X7.cell 1; have f0 := X7.frozen 0; have f1 := X7.frozen 1; have d0 : w7.cell? ⟨w.heap.size + 1, 0, none⟩ = some (.slice A rc.length c) := a4.out.C.cell 0; have d1 : w7.cell? ⟨w.heap.size + 1, 1, none⟩ = some (.slice B rg.length d) := a4.out.C.cell 1
      clear hb7 X7 c0 c1 a5; cases hch : zao (rc.map rAt) (rg.map rAt)
      · have a2 : ∀ xs ys, zao xs ys = true → s.data.toList ≠ chL xs ys := fun xs ys h he => by
          obtain ⟨e1, e2⟩ := chL_uniq HA.out.ac HA.out.ag h (b4.symm.trans he); rw [e1, e2, h] at hch; cases hch
        have HNN := hid a2; clear a2; go_wp2; exact bodyPost_ret (v := .tuple #[.agg #[.slice none 0 0, .slice none 0 0], .bool false]) qby rfl (HNO.out w7 _ _ _ _ _ _ a4.out HNN.out)
      · obtain ⟨A', c', B', d', ea, eb, oa, og⟩ := a4.out.own
        injection ea with e1 _ e2; injection eb with e3 _ e4; subst e1; subst e2; subst e3; subst e4; have k0 := a4.out.h0; have k1 := a4.out.h1; have k2 := a4.out.h2; have k3 := a4.out.h3; have i7 := hid oa; have i3 := hid og; have HB7 := hid (zaa b5.out a4.out.gr); clear oa og; go_wp2; refine bodyPost_ret (v := .tuple #[.agg #[.slice A rc.length c, .slice B rg.length d], .bool true]) qby rfl ⟨A, c, rc, B, d, rg, a6, true, rfl, ?_, ?_, ⟨by omega, by simp only [zab]; omega⟩, (HB7.out.setCell (nl _) _).setCell (nl _) _, fun _ => ⟨hch, b4⟩, qdd⟩
        · exact i7.out.keep (fun b a1 _ => (hs_ _ _ _ b qbh).trans (hs_ _ _ _ b qbh)) (nl _) qcn
        · exact i3.out.keep (fun b a1 _ => (hs_ _ _ _ b qbh).trans (hs_ _ _ _ b qbh)) qaa (nl _)
def upTo (s : ByteArray) : ByteArray := s.extract 0 (Lib.lastIndexByte s 32 + 1).toNat
theorem same_bytes {a b : ByteArray} (h : a.data.toList = b.data.toList) : a = b := by rw [← Lib.mk_data a, ← Lib.mk_data b, h]
theorem bang_at {s : ByteArray} {j : Nat} (hj : j < s.size) : s.data.toList[j]? = some (s.data[j]!) := by
  have h : j < s.data.size := hj; rw [getElem!_pos s.data j h, Array.getElem?_toList, Array.getElem?_eq_getElem h]
theorem last_le (s : ByteArray) : 0 ≤ Lib.lastIndexByte s 32 + 1 ∧ Lib.lastIndexByte s 32 + 1 ≤ (s.size : Int) := by
  rcases Lib.lastIndexByte_spec s 32 with ⟨e, _⟩ | ⟨i, hi, e, _⟩
  · rw [e]; omega
  · rw [e]; omega
theorem upTo_split (s : ByteArray) : ∃ v, s.data.toList = (upTo s).data.toList ++ v ∧ (32 : UInt8) ∉ v ∧ zfl (upTo s).data.toList := by
  have hx : ∀ k, (s.extract 0 k).data.toList = s.data.toList.take k := fun k => by simp [ByteArray.data_extract]
  have hl : s.data.toList.length = s.size := qag; unfold upTo; rcases Lib.lastIndexByte_spec s 32 with ⟨e, hn⟩ | ⟨i, hi, e, hc, hn⟩
  · refine ⟨s.data.toList, by rw [hx, e]; simp, fun hm => ?_, .inl (by rw [hx, e]; simp)⟩
    obtain ⟨j, hj⟩ := List.mem_iff_getElem?.1 hm; have a2 : j < s.size := qdw; rw [bang_at a2] at hj; have := Option.some.inj hj; exact hn j a2 (by rw [this]; rfl)
  · refine ⟨s.data.toList.drop (i + 1), ?_, fun hm => ?_, .inr ⟨s.data.toList.take i, ?_⟩⟩
    · rw [hx, e, show ((i : Int) + 1).toNat = i + 1 by omega]; exact (List.take_append_drop _ _).symm
    · obtain ⟨j, hj⟩ := List.mem_iff_getElem?.1 hm
      rw [List.getElem?_drop] at hj; have a2 : i + 1 + j < s.size := qdw; rw [bang_at a2] at hj; have := Option.some.inj hj; exact hn (i + 1 + j) qaa a2 (by rw [this]; rfl)
    · rw [hx, e, show ((i : Int) + 1).toNat = i + 1 by omega, List.take_add_one, bang_at hi]
      have h2 : s.data[i]! = 32 := UInt8.toNat_inj.1 (by have h3 : ((32 : UInt8).toNat : Int) = 32 := rfl; omega); rw [h2]; rfl
theorem upTo_is {s : ByteArray} {u v : List UInt8} (h : s.data.toList = u ++ v) (hu : zfl u) (hv : (32 : UInt8) ∉ v) : (upTo s).data.toList = u := by
  obtain ⟨v', h1, h2, h3⟩ := upTo_split s; exact (zlm (h1.symm.trans h) h3 h2 hu hv).1
theorem upTo_size (s : ByteArray) : (upTo s).size ≤ s.size := by
  have h := last_le s; unfold upTo; rw [ByteArray.size_extract]; omega
def zmr (pre : List UInt8) : ByteArray := ⟨(Lib.cut pre [58]).2.1.toArray⟩
theorem restB_len (pre : List UInt8) : (zmr pre).size ≤ pre.length := by
  unfold zmr; rw [zkw]; unfold Lib.cut; split
  · simp
  · simp
theorem restB_rec (k : Nat) (p : List UInt8) : (zmr (recL k p)).data.toList = p ++ Lib.decDigits (zns (zff k p)) := by
  unfold zmr; rw [mk_data, zlk, zhm (zpl (.inr qan))]
theorem rec_text {k : Nat} {p : List UInt8} (hp : zfl p) : (upTo (zmr (recL k p))).data.toList = p :=
  upTo_is (restB_rec k p) hp (zpl (.inl qan))
def RecPost (R i k : Nat) (s : ByteArray) (w : World) (e : Ending) (w' : World) : Prop :=
  ∃ (A : Option Addr) (c : Nat) (ra : List Rf) (B : Option Addr) (d : Nat) (rb : List Rf) (mid : Nat) (ok : Bool) (j : Nat), e = .returned (.tuple #[.agg #[.slice A ra.length c, .slice B rb.length d], .bool ok]) ∧
    OwnRefs w' mid w'.heap.size A ra.length c ra ∧ OwnRefs w' w.heap.size mid B rb.length d rb ∧ (w.heap.size ≤ mid ∧ mid ≤ w'.heap.size) ∧ Rdr w' R s j ∧ j ≤ s.size ∧ w.grownBy w' (some R) ∧
    (ok = true → okC (ra.map rAt, rb.map rAt) ∧ s.data.toList.drop i = zbo k (chC (ra.map rAt, rb.map rAt)) ++ s.data.toList.drop j ∧ j = i + (zbo k (chC (ra.map rAt, rb.map rAt))).length) ∧
    (ok = false → ∀ c r, okC c → s.data.toList.drop i ≠ zbo k (chC c) ++ r)
theorem rdSize_any (R i : Nat) (s : ByteArray) (w : World) (h : Rdr w R s i) :
    Calls Tryz.prog 75 #[.pointer (some ⟨R, 0, none⟩)] w fun e w' => e = .returned (.int .i64 (s.size : Int)) ∧ Below w.heap.size w w' := by
  obtain ⟨p, h⟩ := h; have x0 : w.cell? ⟨R, 0, none⟩ = some (.string s) := h.cell 0; go_enter Tryz.func75, Tryz.ntmps75; go_wp2; go_ret; exact ⟨rfl, Below.refl _ _⟩
theorem PowTab.below {w w' : World} (h : PowTab w) (hb : Below w.heap.size w w') : PowTab w' := znr h hb
theorem record_any (R i k : Nat) (s : ByteArray) (w : World) (h : Rdr w R s i) (hi : i ≤ s.size) (hs : s.size ≤ 1048576) (hk : k ≤ 100000) (hE : EofIn w) (hR : 0 ≠ R) (hm : MaxIn w) (hR2 : 1 ≠ R) (hT : ∀ w', w.grownBy w' (some R) → PowTab w') :
    Calls Tryz.prog 74 #[.pointer (some ⟨R, 0, none⟩), .int .i64 (k : Int)] w (RecPost R i k s w) := by
  have hlR := h.lt; have a9 := zac w (.cells #[.slice none 0 0, .slice none 0 0] 25); have R0 := hid (h.below a9); have X0 := hid (Blk.new w 25 #[.slice none 0 0, .slice none 0 0]); have G0 := hid (zae a9 (some R)); have E0 := hE.below a9; obtain ⟨W0, b7⟩ : ∃ W0, w.alloc (.cells #[.slice none 0 0, .slice none 0 0] 25) = W0 := ⟨_, rfl⟩; clear h a9; go_enter Tryz.func74, Tryz.ntmps74; go_wp2_with fail
  have hz0 : W0.heap.size = w.heap.size + 1 := by rw [← b7]; simp
  rw [b7] at R0 X0 G0 E0; clear b7; refine (until_any R i s 10 W0 R0.out hi hs E0 hR).mono ?_; rintro e w1 ⟨a3, a8⟩; have G1 := hid (zad G0.out a8); have X1 := hid (X0.out.kept a8 qaj); have hz1 := a8.size; clear a8 R0 X0 G0
  have NO : ∀ (j : Nat) (W : World), j ≤ s.size → Rdr W R s j → w.grownBy W (some R) → (∀ c r, okC c → s.data.toList.drop i ≠ zbo k (chC c) ++ r) → RecPost R i k s w (.returned (.tuple #[.agg #[.slice none 0 0, .slice none 0 0], .bool false])) ((W.setCell ⟨w.heap.size, 0, none⟩ (.slice none 0 0)).setCell ⟨w.heap.size, 1, none⟩ (.slice none 0 0)) := by
    intro j W hj hr hg hno; refine ⟨none, 0, [], none, 0, [], w.heap.size, false, j, rfl, zmb, zmb, ⟨nl _, by simp only [zab]; exact hg.size⟩, ?_, hj, ?_, qdd, fun _ => hno⟩
    · obtain ⟨p, hr⟩ := hr
      exact ⟨p, (Blk.far hr (p := ⟨w.heap.size, 0, none⟩) qca _).far qca _⟩
    · exact ⟨hg.os, hg.tape, hg.output, by simp only [zab]; exact hg.size, fun q hq hne => (hs_ _ _ _ q qcb).trans ((hs_ _ _ _ q qcb).trans (hg.block q hq hne))⟩
  have HNO := hid NO; clear NO; have x0 : w1.cell? ⟨w.heap.size, 0, none⟩ = some (.slice none 0 0) := X1.out.cell 0; have x1 : w1.cell? ⟨w.heap.size, 1, none⟩ = some (.slice none 0 0) := X1.out.cell 1; have q0 := X1.out.frozen 0; have q1 := X1.out.frozen 1; rcases a3 with ⟨pre, post, hp, hc, rfl, hr1⟩ | ⟨hc, rfl, hr1⟩
  · have hl := mark_len hp hi
    have hd : s.data.toList.drop (i + pre.length + 1) = post := by
      rw [show i + pre.length + 1 = i + (pre ++ [10]).length by simp [Nat.add_assoc], ← List.drop_drop, hp, show pre ++ 10 :: post = (pre ++ [10]) ++ post by simp]; exact List.drop_left' rfl
    have b3 := hid hr1; have HP := hid hp; have HC := hid hc; have HD := hid hd; have hpl : pre.length ≤ 1048576 := qaa; obtain ⟨T, a6⟩ : ∃ T : ByteArray, (⟨pre.toArray⟩ : ByteArray) = T := ⟨_, rfl⟩; have b4 : T.data.toList = pre := by rw [← a6]
    have hTz : T.size ≤ 1048576 := by rw [← a6, zkw]; exact hpl
    rw [a6]; clear hr1 hp hc hd a6; obtain ⟨mx, d9⟩ := hm.grown G1.out hR2; go_wp2_with fail; refine (Tryz.strings_Cut T ⟨#[58]⟩ mx w1 qaa d9).mono ?_; rintro e w2 ⟨rfl, n2, d7⟩; rw [b4, show (⟨#[58]⟩ : ByteArray).data.toList = [58] from rfl]; have hb2 : Below w1.heap.size w1 w2 := by rw [d7]; exact ⟨rfl, rfl, rfl, nl _, fun _ _ => rfl⟩
    clear d7 d9; obtain ⟨c1, hc1⟩ : ∃ c1 : ByteArray, (⟨(Lib.cut pre [58]).1.toArray⟩ : ByteArray) = c1 := ⟨_, rfl⟩; obtain ⟨c3, g0⟩ : ∃ c3 : Bool, (Lib.cut pre [58]).2.2 = c3 := ⟨_, rfl⟩; have g8 := restB_len pre; have b5 := last_le (zmr pre); have hsz := upTo_size (zmr pre); have HU := hid (show (zmr pre).extract 0 (Lib.lastIndexByte (zmr pre) 32 + 1).toNat = upTo (zmr pre) from rfl); have HB := hid (show zmr pre = ⟨(Lib.cut pre [58]).2.1.toArray⟩ from rfl); rw [hc1, g0, ← HB.out]; obtain ⟨rs, b6⟩ : ∃ rs, zmr pre = rs := ⟨_, rfl⟩; have h5 := hid b6; rw [b6] at g8 b5 hsz HU ⊢; clear hc1 g0 b6 HB; have X2 := hid (X1.out.below hb2); have e6 := hid (b3.out.below hb2); have G2 := hid (zad G1.out (zae hb2 (some R)))
    have hz2 := hb2.size; clear hb2 X1 b3 G1 x0 x1 q0 q1; go_wp2_with fail; refine (Tryz.strings_LastIndexByte rs 32 qaa w2).mono ?_; rintro e w' ⟨rfl, b9⟩; rw [b9]; clear b9; obtain ⟨li, hli⟩ : ∃ li, Lib.lastIndexByte rs 32 + 1 = li := ⟨_, rfl⟩; have a4 : Lib.lastIndexByte rs 32 = li - 1 := qaa; rw [hli] at b5 HU; rw [a4]; clear hli a4; obtain ⟨hu0, hu1⟩ := b5; have hwr : IntKind.i64.wrap (li - 1 + 1) = li := qao; go_wp2_with fail; rw [HU.out]; have hm2 := hm.grown G2.out hR2; have h6 : EofIn w2 := hE.grown G2.out hR; refine (zlb (upTo rs) w2 qaa hm2 h6).mono ?_; rintro e w3 ⟨A, ca, ra, B, cb, rb, g7, ok, rfl, hO, hG, ⟨hm1, g5⟩, hb3, hy, hno⟩
    have HY := hid hy; have HN := hid hno; have a7 := zac w3 (.cells #[.slice A ra.length ca, .slice B rb.length cb] 25); have a2 := zaa hb3 a7; have X3 := hid (X2.out.below a2); have Y3 := hid (Box.new w3 (.slice A ra.length ca) (.slice B rb.length cb) 25); have O3 := hid (hO.keep (w' := w3.alloc (.cells #[.slice A ra.length ca, .slice B rb.length cb] 25)) (fun b _ h2 => a7.block b h2) (nl _) (nl _)); have P3 := hid (hG.keep (w' := w3.alloc (.cells #[.slice A ra.length ca, .slice B rb.length cb] 25)) (fun b _ h2 => a7.block b qaa) (nl _) (nl _))
    have HR3 := hid (e6.out.below a2); have G3 := hid (zad G2.out (zae a2 (some R))); have hz3 := hb3.size; have h4 : (w3.alloc (.cells #[.slice A ra.length ca, .slice B rb.length cb] 25)).heap.size = w3.heap.size + 1 := qag; clear hO hG hb3 hy hno a7 a2 X2 e6 G2; obtain ⟨W3, h7⟩ : ∃ W3, w3.alloc (.cells #[.slice A ra.length ca, .slice B rb.length cb] 25) = W3 := ⟨_, rfl⟩; rw [h7] at X3 Y3 O3 P3 HR3 G3 h4; have x0 : W3.cell? ⟨w.heap.size, 0, none⟩ = some (.slice none 0 0) := X3.out.cell 0; have x1 : W3.cell? ⟨w.heap.size, 1, none⟩ = some (.slice none 0 0) := X3.out.cell 1
    have q0 := X3.out.frozen 0; have q1 := X3.out.frozen 1; obtain ⟨_, y0, y1⟩ := Y3.out
    have c0 := hid (show (∀ c r, okC c → upTo rs ≠ ⟨(chC c).toArray⟩ ∨ zbo k (chC c) ≠ pre ++ [10]) → ∀ c r, okC c → s.data.toList.drop i ≠ zbo k (chC c) ++ r from fun hh c r hc he => by
      rw [HP.out, zcc, List.append_assoc] at he; obtain ⟨e1, e2⟩ := zdm he HC.out (zew (zhn hc)); have e3 := rec_text (k := k) (zig c.1 c.2); rw [show recL k (chL c.1 c.2) = pre from e1.symm, h5.out] at e3; rcases hh c r hc with h | h
      · exact h (by rw [← Lib.mk_data (upTo rs), e3]; rfl)
      · exact h (by rw [zcc, e1]))
    cases ok
    · go_wp2
      refine bodyPost_ret (v := .tuple #[.agg #[.slice none 0 0, .slice none 0 0], .bool false]) qbb rfl (HNO.out _ _ hl HR3.out G3.out (c0.out fun c r hc => .inl fun e => ?_)); exact (HN.out qdp).2.2 c.1 c.2 hc (by rw [e]; simp [chC])
    · obtain ⟨g1, g2⟩ := HY.out rfl
      have hI := hid (O3.out.atoms.keep (w' := W3) (lo' := 0) (hi' := W3.heap.size) AtomE.stays (fun _ _ _ => rfl) (Nat.zero_le _) qaa); have hJ := hid (P3.out.atoms.keep (w' := W3) (lo' := 0) (hi' := W3.heap.size) AtomE.stays (fun _ _ _ => rfl) (Nat.zero_le _) qaa); have d4 := hT W3 G3.out
      have a5 : znb (k : Int) (ra.map rAt) (rb.map rAt) = zbo k (chL (ra.map rAt) (rb.map rAt)) := by
        unfold znb; rw [if_pos ⟨g1, by omega, by omega⟩, Int.toNat_natCast]
      go_wp2_with fail; refine (zfe (k : Int) A ra.length ca B rb.length cb (ra.map rAt) (rb.map rAt) W3 hI.out hJ.out d4).mono ?_; rintro e w5 ⟨rfl, hb5⟩; rw [a5]; have X5 := hid (X3.out.below hb5); have HR5 := hid (HR3.out.below hb5); have G5 := hid (zad G3.out (zae hb5 (some R))); have Y5 := hid (Y3.out.later hb5); have O5 := hid (O3.out.keep (w' := w5) (fun b _ h2 => hb5.block b qaa) (nl _) (nl _)); have P5 := hid (P3.out.keep (w' := w5) (fun b _ h2 => hb5.block b qaa) (nl _) (nl _)); have hz5 := hb5.size; clear hb5 X3 HR3 G3 Y3 O3 P3 hI hJ x0 x1 q0 q1 y0 y1 d4; have x0 : w5.cell? ⟨w.heap.size, 0, none⟩ = some (.slice none 0 0) := X5.out.cell 0
      have x1 : w5.cell? ⟨w.heap.size, 1, none⟩ = some (.slice none 0 0) := X5.out.cell 1; have q0 := X5.out.frozen 0; have q1 := X5.out.frozen 1; obtain ⟨_, y0, y1⟩ := Y5.out; obtain ⟨u, hu⟩ : ∃ u : ByteArray, (⟨(zbo k (chL (ra.map rAt) (rb.map rAt))).toArray⟩ : ByteArray) = u := ⟨_, rfl⟩; have e7 : u.data.toList = zbo k (chL (ra.map rAt) (rb.map rAt)) := by rw [← hu]
      rw [hu]; have e8 := hid e7; clear hu e7 a5; by_cases heq : u = T ++ ⟨#[10]⟩
      · have hq : (u.toList == (T ++ ⟨#[10]⟩ : ByteArray).toList) = true := by rw [heq]; exact beq_self_eq_true _
        have hln : zbo k (chL (ra.map rAt) (rb.map rAt)) = pre ++ [10] := by rw [← e8.out, heq]; simp [ByteArray.data_append, b4]
        have c7 := hid hln; clear heq hln; go_wp2; refine bodyPost_ret (v := .tuple #[.agg #[.slice A ra.length ca, .slice B rb.length cb], .bool true]) qbb rfl ⟨A, ca, ra, B, cb, rb, g7, true, i + pre.length + 1, rfl, ?_, ?_, ⟨by omega, by simp only [zab]; omega⟩, ?_, hl, ?_, fun _ => ⟨g1, ?_, ?_⟩, qdd⟩
        · exact O5.out.keep (fun b a1 _ => (hs_ _ _ _ b qbh).trans (hs_ _ _ _ b qbh)) (nl _) (by simp only [zab]; omega)
        · exact P5.out.keep (fun b a1 _ => (hs_ _ _ _ b qbh).trans (hs_ _ _ _ b qbh)) qaa (nl _)
        · obtain ⟨p, hr⟩ := HR5.out
          exact ⟨p, (Blk.far hr (p := ⟨w.heap.size, 0, none⟩) qca _).far qca _⟩
        · exact ⟨G5.out.os, G5.out.tape, G5.out.output, by simp only [zab]; exact G5.out.size, fun q hq hne => (hs_ _ _ _ q qcb).trans ((hs_ _ _ _ q qcb).trans (G5.out.block q hq hne))⟩
        · rw [show chC (ra.map rAt, rb.map rAt) = chL (ra.map rAt) (rb.map rAt) from rfl, c7.out, HP.out, HD.out]; simp
        · rw [show chC (ra.map rAt, rb.map rAt) = chL (ra.map rAt) (rb.map rAt) from rfl, c7.out]; simp [Nat.add_assoc]
      · have hq : (u.toList == (T ++ ⟨#[10]⟩ : ByteArray).toList) = false := by rw [beq_eq_false_iff_ne]; intro e; rw [zbl, zbl] at e; exact heq (same_bytes e)
        have g6 := hid heq; clear heq; go_wp2; refine bodyPost_ret (v := .tuple #[.agg #[.slice none 0 0, .slice none 0 0], .bool false]) qbb rfl (HNO.out _ _ hl HR5.out G5.out (c0.out fun c r hc => ?_)); by_cases hcc : upTo rs = ⟨(chC c).toArray⟩
        · right
          have h1 : chC c = chL (ra.map rAt) (rb.map rAt) := by rw [← g2, hcc]
          intro h2; rw [h1] at h2; exact g6.out (same_bytes (by rw [e8.out, h2]; simp [ByteArray.data_append, b4]))
        · exact .inl hcc
  · have b3 := hid hr1; have HC := hid hc
    clear hr1 hc; go_wp2; refine bodyPost_ret (v := .tuple #[.agg #[.slice none 0 0, .slice none 0 0], .bool false]) qbb rfl (HNO.out _ _ (nl _) b3.out G1.out fun c r hc he => ?_); exact HC.out (by rw [he, zcc]; simp)
theorem zii {F : Fence} {n : Nat} {P : Program} {w : World} {ops : Array Oper} {rest : List Oper} {o : Oper} {a : Act} {Q : Exit → Act → World → Prop} (hgd : o.guard = none) (s x : Operand) (t : TypeId)
    (ho : o.op = .call { callee := .builtin .append, args := #[s, x], argTypes := #[t, t] })
    (base : Nat) (e : TypeId) (i : TypeInfo) (z : Value) (size bytes : Nat) (ht : P.underlying t = some (.slice e)) (hi : P.info? e = some i) (hz : i.zero = some z)
    (hsize : i.size = size) (hby : i.bytes = bytes) (hzs : z.cells.size = size) (hsz : 0 < size)
    (v : Value) (k : Nat) (xs : List Value) (hs : a.eval s = v) (hown : w.ownsRow base e size v k xs)
    (ad : Addr) (m c : Nat) (news : List Value) (hx : a.eval x = .slice (some ad) m c) (hl : news.length = m * size) (hnews : ∀ j u, news[j]? = some u → w.cell? (ad.add j) = some u) (h1 : ∀ u ∈ news, u.oneCell' = true)
    (hm : 0 < m) (h63 : k + m ≤ maxLen) (hbytes : (k + m) * bytes ≤ 140737488355328) (hbase : base ≤ w.heap.size) (H : Nat) (hH : w.heap.size = H)
    (h : ∀ g cap w', w'.ownsRow base e size (.slice (some ⟨g, 0, none⟩) (k + m) cap) (k + m) (xs ++ news) → w.grownBy w' v.ownBlock → (v.ownBlock = some g ∨ g = H) → g < w'.heap.size → wpListIn F n P ops Q rest (a.put o.dst (.slice (some ⟨g, 0, none⟩) (k + m) cap)) w') : wpListIn F n P ops Q (o :: rest) a w := by
  refine wpListIn_plain hgd fun K hK' => ?_; obtain ⟨g, cap, w', a2, r1, r2, r3, r4⟩ := run_append_lies (P := P) w t o.type base e i z size bytes ht hi hz hsize hby hzs hsz v k xs hown ad m c news hl hnews h1 hm h63 hbytes hbase H hH; unfold Oper.wpIn; refine ⟨?_, ?_⟩
  · simp [Oper.about, ho, resolve, Target.leads, Sem.run_pure]
  · rw [Oper.semAt_plain F _ _ (by rw [ho]; intro c hc'; cases hc')]
    simp [execOp, ho, resolve, invoke, builtin, hs, hx, a2, Result.andThen]; exact hK' _ _ (h g cap w' r1 r2 r3 r4)
structure Cf where
  lo : Nat
  mid : Nat
  hi : Nat
  A : Option Addr
  c : Nat
  ra : List Rf
  B : Option Addr
  d : Nat
  rb : List Rf
def cfAt (x : Cf) : Ch := (x.ra.map rAt, x.rb.map rAt)
def cfV (x : Cf) : Value := .slice x.A x.ra.length x.c
def cfU (x : Cf) : Value := .slice x.B x.rb.length x.d
structure OwnCf (W : World) (x : Cf) : Prop where
  a : OwnRefs W x.mid x.hi x.A x.ra.length x.c x.ra
  b : OwnRefs W x.lo x.mid x.B x.rb.length x.d x.rb
  h1 : x.lo ≤ x.mid
  h2 : x.mid ≤ x.hi
def zeh (xs : List Cf) : List Value := xs.flatMap fun x => [cfV x, cfU x]
theorem ccells_len : ∀ xs : List Cf, (zeh xs).length = xs.length * 2
  | [] => rfl
  | x :: xs => by
    have h := ccells_len xs; unfold zeh at h ⊢; rw [List.flatMap_cons, List.length_append, h, List.length_cons]; simp only [List.length_cons, List.length_nil]; omega
theorem ccells_snoc (xs : List Cf) (x : Cf) : zeh (xs ++ [x]) = zeh xs ++ [cfV x, cfU x] := by
  unfold zeh; rw [List.flatMap_append, List.flatMap_singleton]
theorem ccells_at : ∀ {xs : List Cf} {i : Nat} {x : Cf}, xs[i]? = some x → (zeh xs)[i * 2]? = some (cfV x) ∧ (zeh xs)[i * 2 + 1]? = some (cfU x)
  | [], i, x, h => by simp at h
  | y :: xs, 0, x, h => by
    simp at h; subst h
    exact ⟨rfl, rfl⟩
  | y :: xs, i + 1, x, h => by
    obtain ⟨a, b⟩ := ccells_at (xs := xs) (i := i) (x := x) qbk; have e : zeh (y :: xs) = cfV y :: cfU y :: zeh xs := rfl; rw [e, show (i + 1) * 2 = i * 2 + 1 + 1 by omega]; exact ⟨by simpa using a, by simpa using b⟩
structure OwnCs (W : World) (lo hi : Nat) (r : Option Nat) (xs : List Cf) : Prop where
  own : ∀ x ∈ xs, OwnCf W x ∧ lo ≤ x.lo ∧ x.hi ≤ hi ∧ ∀ g, r = some g → g < x.lo ∨ x.hi ≤ g
  on : xs.Pairwise fun x y => x.hi ≤ y.lo
section
variable {W W' : World} {lo hi lo' hi' : Nat} {r : Option Nat} {xs : List Cf} {x : Cf}
theorem OwnCf.keep (h : OwnCf W x) (hk : ∀ b, x.lo ≤ b → b < x.hi → W'.heap[b]? = W.heap[b]?) : OwnCf W' x := by
  have h1 := h.h1; have h2 := h.h2; exact ⟨h.a.keep (fun b h3 h4 => hk b qaa h4) (nl _) (nl _), h.b.keep (fun b h3 h4 => hk b h3 qaa) (nl _) (nl _), h1, h2⟩
theorem OwnCs.nil : OwnCs W lo hi r [] := ⟨fun x h => by simp at h, List.Pairwise.nil⟩
theorem OwnCs.keep (h : OwnCs W lo hi r xs) (hk : ∀ b, lo ≤ b → b < hi → r ≠ some b → W'.heap[b]? = W.heap[b]?) (h1 : lo' ≤ lo) (h2 : hi ≤ hi') : OwnCs W' lo' hi' r xs :=
  ⟨fun x hx => by
    obtain ⟨a, b, c, d⟩ := h.own x hx; exact ⟨a.keep (fun g h3 h4 => hk g qaa qaa (fun e => by rcases d g e with h5 | h5 <;> omega)), by omega, by omega, d⟩, h.on⟩
theorem OwnCs.snoc (h : OwnCs W lo hi r xs) (ho : OwnCf W' x) (hk : ∀ b, lo ≤ b → b < hi → r ≠ some b → W'.heap[b]? = W.heap[b]?) (h0 : lo ≤ hi) (h1 : hi ≤ x.lo) (h2 : x.hi ≤ hi') (hr : ∀ g, r = some g → g < x.lo) : OwnCs W' lo hi' r (xs ++ [x]) := by
  have hx := ho.h1; have hy := ho.h2; refine ⟨fun y hyy => ?_, ?_⟩
  · rcases List.mem_append.1 hyy with hyy | hyy
    · exact (h.keep hk (nl _) qaa).own y hyy
    · rw [List.mem_singleton.1 hyy]
      exact ⟨ho, by omega, h2, fun g e => .inl (hr g e)⟩
  · rw [List.pairwise_append]
    refine ⟨h.on, List.pairwise_singleton _ _, fun y hyy z hz => ?_⟩; rw [List.mem_singleton.1 hz]; have := (h.own y hyy).2.2.1; omega
end
structure LG (w : World) (cb sb lo hi : Nat) (v : Value) (n : Nat) (xs : List Cf) (W : World) : Prop where
  C : Blk W cb 34 #[v]
  Z : Blk W sb 3 #[.int .i64 (n : Int)]
  K : W.ownsRow lo 25 2 v xs.length (zeh xs)
  O : OwnCs W lo hi v.ownBlock xs
  hc : w.heap.size ≤ cb
  hs : cb < sb
  h0 : sb < lo
  h1 : lo ≤ hi
  h2 : hi ≤ W.heap.size
  kb : ∀ g, v.ownBlock = some g → g < hi
  gr : Below w.heap.size w W
section
variable {w W W' W9 : World} {cb sb lo hi R n : Nat} {v v' : Value} {xs : List Cf} {x : Cf} {ob : Obj} {g' m cap : Nat}
theorem LG.raise (h : LG w cb sb lo hi v n xs W) : LG w cb sb lo W.heap.size v n xs W :=
  ⟨h.C, h.Z, h.K, h.O.keep (fun _ _ _ _ => rfl) (nl _) h.h2, h.hc, h.hs, h.h0, Nat.le_trans h.h1 h.h2, nl _, fun g e => by have := h.kb g e; have := h.h2; omega, h.gr⟩
theorem LG.below (h : LG w cb sb lo hi v n xs W) (hb : Below W.heap.size W W') : LG w cb sb lo hi v n xs W' := by
  have h2 := h.h2; have a3 := hb.size; have hs := h.gr.size; exact ⟨h.C.below hb, h.Z.below hb, zan h.K hb, h.O.keep (fun b _ a2 _ => hb.block b qaa) (nl _) (nl _), h.hc, h.hs, h.h0, h.h1, Nat.le_trans h2 a3, h.kb, h.gr.trans (hb.mono hs)⟩
theorem LG.step (h : LG w cb sb lo hi v n xs W) (hg : W.grownBy W' (some R)) (hR : R < lo) (hne : R ≠ cb) (hne2 : R ≠ sb) (hw : w.heap.size ≤ R) : LG w cb sb lo hi v n xs W' := by
  have h0 := h.h0; have h1 := h.h1; have h2 := h.h2; have a3 := hg.size; have hs := h.gr.size
  exact ⟨h.C.kept hg (fun e => hne (by injection e with e; exact e.symm)), h.Z.kept hg (fun e => hne2 (by injection e with e; exact e.symm)), h.K.kept hg (zge h.K hR), h.O.keep (fun b a1 a2 _ => hg.block b qaa qaj) (nl _) (nl _), h.hc, h.hs, h.h0, h.h1, Nat.le_trans h2 a3, h.kb,
    ⟨hg.os.trans h.gr.os, hg.tape.trans h.gr.tape, hg.output.trans h.gr.output, Nat.le_trans hs a3, fun k hk => (hg.block k qaa qaj).trans (h.gr.block k hk)⟩⟩
theorem LG.book (h : LG w cb sb lo hi v n xs W) {l : Nat} {r r' : Loop} (hl : W.heap[l]? = some (.loop r)) (hwl : w.heap.size ≤ l) (hll : l < lo) : LG w cb sb lo hi v n xs (W.putObj l (.loop r')) := by
  have hs := h.gr.size; have hsz : (W.putObj l (.loop r')).heap.size = W.heap.size := by simp [World.putObj]
  have a2 : ∀ {b : Nat} {o : Obj}, W.heap[b]? = some o → o.isCells = true → (W.putObj l (.loop r')).heap[b]? = some o := fun {b o} hb ho => by
    rw [World.putObj_heap_other (fun e => by subst e; rw [hl] at hb; cases hb; cases ho)]; exact hb
  refine ⟨a2 h.C rfl, a2 h.Z rfl, ownsRow_putObj h.K (.loop r') hl rfl, h.O.keep (fun b a1 _ _ => World.putObj_heap_other qaa) (nl _) (nl _), h.hc, h.hs, h.h0, h.h1, by rw [hsz]; exact h.h2, h.kb, ?_⟩; exact ⟨h.gr.os, h.gr.tape, h.gr.output, by rw [hsz]; exact hs, fun k hk => (World.putObj_heap_other qaa).trans (h.gr.block k hk)⟩
theorem LG.mark (h : LG w cb sb lo hi v n xs W) {D : Nat} {ds : List Deferred} (hl : W.heap[D]? = some (.deferred (some ds))) (hwl : w.heap.size ≤ D) (hll : D < lo) : LG w cb sb lo hi v n xs (W.putObj D (.deferred none)) := by
  have hs := h.gr.size; have hsz : (W.putObj D (.deferred none)).heap.size = W.heap.size := by simp [World.putObj]
  have a2 : ∀ {b : Nat} {o : Obj}, W.heap[b]? = some o → o.isCells = true → (W.putObj D (.deferred none)).heap[b]? = some o := fun {b o} hb ho => by
    rw [World.putObj_heap_other (fun e => by subst e; rw [hl] at hb; cases hb; cases ho)]; exact hb
  refine ⟨a2 h.C rfl, a2 h.Z rfl, ownsRow_putObj h.K (.deferred none) hl rfl, h.O.keep (fun b a1 _ _ => World.putObj_heap_other qaa) (nl _) (nl _), h.hc, h.hs, h.h0, h.h1, by rw [hsz]; exact h.h2, h.kb, ?_⟩; exact ⟨h.gr.os, h.gr.tape, h.gr.output, by rw [hsz]; exact hs, fun k hk => (World.putObj_heap_other qaa).trans (h.gr.block k hk)⟩
theorem LG.more (h : LG w cb sb lo hi v n xs W) (ho : OwnCf W x) (h1 : hi ≤ x.lo) (h2 : x.hi ≤ W.heap.size)
    (hown : W9.ownsRow lo 25 2 (.slice (some ⟨g', 0, none⟩) m cap) (xs.length + 1) (zeh xs ++ [cfV x, cfU x])) (hgrow : (W.alloc ob).grownBy W9 v.ownBlock) (hat : v.ownBlock = some g' ∨ g' = W.heap.size + 1) (k : Nat) :
    LG w cb sb lo W9.heap.size (.slice (some ⟨g', 0, none⟩) m cap) k (xs ++ [x]) ((W9.setCell ⟨cb, 0, none⟩ (.slice (some ⟨g', 0, none⟩) m cap)).setCell ⟨sb, 0, none⟩ (.int .i64 (k : Int))) := by
  have a0 := h.h0; have a1 := h.h1; have a2 := h.h2; have a3 := h.hs; have ac := h.hc; have ag := h.gr.size; have x1 := ho.h1; have x2 := ho.h2; have hb1 := zac W ob; have hbs : (W.alloc ob).heap.size = W.heap.size + 1 := qag; have hA := h.below hb1; have hgs := hgrow.size; have far : ∀ g, v.ownBlock = some g → lo ≤ g ∧ g < hi := fun g hg => ⟨(hA.K.lt g hg).1, h.kb g hg⟩; have c9 : Blk W9 cb 34 #[v] := hA.C.kept hgrow (fun e => by have := far cb e.symm; omega); have z9 : Blk W9 sb 3 #[.int .i64 (n : Int)] := hA.Z.kept hgrow (fun e => by have := far sb e.symm; omega); have o9 : OwnCs W9 lo hi v.ownBlock xs := hA.O.keep (fun b _ b2 hne => hgrow.block b qaa (fun e => hne e.symm)) (nl _) (nl _)
  have q9 : OwnCf W9 x := ho.keep (fun b b1 b2 => (hgrow.block b qaa (fun e => by have := far b e.symm; omega)).trans (hb1.block b qaa)); have s9 : OwnCs W9 lo W9.heap.size v.ownBlock (xs ++ [x]) := o9.snoc q9 (fun _ _ _ _ => rfl) a1 h1 qaa qdg; have hg9 : lo ≤ g' ∧ g' < W9.heap.size := hown.lt g' rfl
  have r9 : OwnCs W9 lo W9.heap.size (some g') (xs ++ [x]) := by
    rcases hat with e | e
    · rw [← e]; exact s9
    · refine ⟨fun y hy => ?_, s9.on⟩
      obtain ⟨y1, y2, y3, _⟩ := s9.own y hy; refine ⟨y1, y2, y3, fun g eg => .inr ?_⟩; injection eg with eg; rcases List.mem_append.1 hy with hy | hy
      · have := (h.O.own y hy).2.2.1; omega
      · rw [List.mem_singleton.1 hy]; omega
  have hsz : ((W9.setCell ⟨cb, 0, none⟩ (.slice (some ⟨g', 0, none⟩) m cap)).setCell ⟨sb, 0, none⟩ (.int .i64 (k : Int))).heap.size = W9.heap.size := by simp only [zab]
  refine ⟨(c9.set 0 _).far (p := ⟨sb, 0, none⟩) (by show cb ≠ sb; omega) _, (z9.far (p := ⟨cb, 0, none⟩) (by show sb ≠ cb; omega) _).set 0 _, ?_, r9.keep (fun b b1 _ _ => (hs_ _ _ _ b (by show b ≠ sb; omega)).trans (hs_ _ _ _ b qdh)) (nl _) (nl _), ac, a3, a0, by omega, by rw [hsz]; exact nl _, fun g e => by simp [Value.ownBlock] at e; omega, ?_⟩
  · rw [List.length_append, ccells_snoc]
    exact znx (znx hown (p := ⟨cb, 0, none⟩) qcr _) (p := ⟨sb, 0, none⟩) qcr _
  · refine (Below.setCell ?_ ac _).setCell (by show w.heap.size ≤ sb; omega) _
    exact ⟨hgrow.os.trans hA.gr.os, hgrow.tape.trans hA.gr.tape, hgrow.output.trans hA.gr.output, by omega, fun k hk => (hgrow.block k qaa (fun e => by have := far k e.symm; omega)).trans (hA.gr.block k hk)⟩
theorem keeps_append {Wt W9 : World} {base sz k : Nat} {e : TypeId} {v : Value} {xs : List Value} (hrow : Wt.ownsRow base e sz v k xs) (hg : Wt.grownBy W9 v.ownBlock) : KeepsOthers Wt W9 :=
  ⟨hg.size, fun q o hq ho => by
    refine (hg.block q (Array.getElem?_eq_some_iff.1 hq).1 (fun e => ?_)).trans hq; rcases hrow.2 with ⟨rfl, _⟩ | ⟨g, cap, cur, rfl, _, hgb, _⟩
    · simp [Value.ownBlock] at e
    · simp [Value.ownBlock] at e
      subst e; rw [hgb] at hq; cases hq; cases ho⟩
end
end Go.Proofs.YtogonjkklioaaaaGreatDoor
