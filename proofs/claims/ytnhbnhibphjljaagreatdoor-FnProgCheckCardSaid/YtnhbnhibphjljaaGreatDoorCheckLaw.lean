/-
  The law of ProgCheck, proved: for every code that can be read, of the rules that are drawn: what is wrong is told as the model tells it; fine ones without their last are fine; with one by which something follows if it does not, they go round. (Written by tools/checklaw.py.)
-/
import Derived.Test.YtnhbnhibphjljaaGreatDoorDrawLaw
import Derived.Test.YtnhbnhibphjljaaGreatDoorOpenB
import Derived.Test.YtnhbnhibphjljaaGreatDoorOpen
import Derived.Test.YtnhbnhibphjljaaGreatDoorClosed
import Derived.Test.YtnhbnhibphjljaaGreatDoorCards
import Derived.Test.YtnhbnhibphjljaaGreatDoorTie
import Derived.SevenTiedAt
namespace Go.Proofs.YtnhbnhibphjljaaGreatDoor
open Go.RowKit

theorem Der.sub {C C' : List Edge} (h : ∀ c ∈ C', c ∈ C) {a : ByteArray} {v : Nat} (d : Der C' a v) : Der C a v := by
  induction d with
  | zero a => exact .zero a
  | step hm _ ih => exact .step (h _ hm) ih

/-- The greatest that is asked. -/
def Top (C : List Edge) (a : ByteArray) (v : Nat) : Prop := Der C a v ∧ ∀ u, Der C a u → u ≤ v

/-- Ahead of the greatest stands a name whose greatest is one less. -/
theorem top_down {C : List Edge} {H : ByteArray → Prop} (hC : ∀ c ∈ C, H c.2.1) {a : ByteArray} {v : Nat} (d : Der C a v) : ∀ u, v = u + 1 → (∀ x, Der C a x → x ≤ v) → ∃ b, H b ∧ Top C b u := by
  induction d with
  | zero a => intro u h; omega
  | @step a b s v hm d ih =>
    intro u hv hmax
    cases s with
    | true =>
      have e : v = u := by simpa using hv
      subst e
      refine ⟨b, hC _ hm, d, fun x hx => ?_⟩
      have := hmax _ (.step hm hx)
      simp at this; omega
    | false =>
      refine ih u (by simpa using hv) (fun x hx => ?_)
      have := hmax _ (.step hm hx)
      simpa using this

theorem top_all {C : List Edge} {H : ByteArray → Prop} (hC : ∀ c ∈ C, H c.2.1) : ∀ (v : Nat) (a : ByteArray), H a → Top C a v → ∀ u, u ≤ v → ∃ b, H b ∧ Top C b u
  | 0, a, ha, h, u, hu => by
    have : u = 0 := by omega
    subst this; exact ⟨a, ha, h⟩
  | v + 1, a, ha, h, u, hu => by
    by_cases e : u = v + 1
    · subst e; exact ⟨a, ha, h⟩
    · obtain ⟨b, hb, hT⟩ := top_down hC h.1 v rfl h.2
      exact top_all hC v b hb hT u (by omega)

theorem top_ex {C : List Edge} {a : ByteArray} {K : Nat} (hK : ∀ u, Der C a u → u ≤ K) : ∀ (t v : Nat), Der C a v → K ≤ v + t → ∃ v', v ≤ v' ∧ Top C a v'
  | 0, v, d, h => ⟨v, Nat.le_refl _, d, fun u hu => by have := hK u hu; omega⟩
  | t + 1, v, d, h => by
    by_cases hx : ∃ u, Der C a u ∧ v < u
    · obtain ⟨u, hu, hlt⟩ := hx
      obtain ⟨v', h1, h2⟩ := top_ex hK t u hu (by omega)
      exact ⟨v', by omega, h2⟩
    · exact ⟨v, Nat.le_refl _, d, fun u hu => Nat.le_of_not_lt fun h => hx ⟨u, hu, h⟩⟩

/-- More levels than names there can't be. -/
theorem top_few {C : List Edge} {U : List ByteArray} (hC : ∀ c ∈ C, c.2.1 ∈ U) {a : ByteArray} {v : Nat} (ha : a ∈ U) (h : Top C a v) : v < U.length := by
  classical
  have hall : ∀ u, u < v + 1 → ∃ b, b ∈ U ∧ Top C b u := fun u hu => top_all (H := fun b => b ∈ U) hC v a ha h u (by omega)
  let f : Nat → ByteArray := fun u => if hu : u < v + 1 then Classical.choose (hall u hu) else a
  have hf : ∀ u, u < v + 1 → f u ∈ U ∧ Top C (f u) u := fun u hu => by
    have e : f u = Classical.choose (hall u hu) := dif_pos hu
    rw [e]; exact Classical.choose_spec (hall u hu)
  have hn : ((List.range (v + 1)).map f).Nodup := by
    unfold List.Nodup
    rw [List.pairwise_map]
    refine List.Pairwise.imp_of_mem ?_ List.pairwise_lt_range
    intro x y hx hy hlt e
    have h1 := (hf x (List.mem_range.1 hx)).2
    have h2 := (hf y (List.mem_range.1 hy)).2
    rw [← e] at h2
    have := h1.2 y h2.1
    omega
  have hs := nodup_sub hn (m := U) (fun x hx => by
    obtain ⟨u, hu, rfl⟩ := List.mem_map.1 hx
    exact (hf u (List.mem_range.1 hu)).1)
  rw [List.length_map, List.length_range] at hs
  omega

theorem low_tell {rs : List Rl} (h : cycB rs = false) {i : Nat} (hi : i < rs.length) : ∀ v, Der (edgesOf rs) (headAt rs i) v → v ≤ at0 (levelsL rs) i := by
  obtain ⟨h1, _, h3⟩ := passes_tell (ups_cover rs) _ (turns_lt rs.length) (levelsL rs) (levelsL_ups rs).symm
  refine (h3 (fun hc => ?_) i hi).2
  rw [(cycB_high rs).2 (h1.2 hc)] at h
  cases h

/-- Of rules that do not go round, some do not either. -/
theorem cyc_some {rs rs' : List Rl} (hs : ∀ r ∈ rs', r ∈ rs) (h : cycB rs = false) : cycB rs' = false := by
  cases hc : cycB rs' with
  | false => rfl
  | true =>
    exfalso
    obtain ⟨h1, _, _⟩ := passes_tell (ups_cover rs') _ (turns_lt rs'.length) (levelsL rs') (levelsL_ups rs').symm
    obtain ⟨i, v, hi, d, hv⟩ := h1.1 ((cycB_high rs').1 hc)
    have hsub : ∀ c ∈ edgesOf rs', c ∈ edgesOf rs := by
      rintro ⟨a, b, s⟩ hm
      obtain ⟨r, hr, p, hp, hh, e1, e2, e3⟩ := mem_edges.1 hm
      refine mem_edges.2 ⟨r, hs r hr, p, hp, ?_, e1, e2, e3⟩
      obtain ⟨q, hq, e⟩ := isHead_iff.1 hh
      exact isHead_iff.2 ⟨q, hs q hq, e⟩
    have hU : ∀ c ∈ edgesOf rs', c.2.1 ∈ rs'.map (·.1.1) := by
      rintro ⟨a, b, s⟩ hm
      obtain ⟨r, hr, p, hp, hh, e1, e2, e3⟩ := mem_edges.1 hm
      obtain ⟨q, hq, e⟩ := isHead_iff.1 hh
      exact List.mem_map.2 ⟨q, hq, e.trans e2⟩
    have hri := List.getElem?_eq_getElem hi
    have hmem : rs'[i] ∈ rs := hs _ (List.getElem_mem hi)
    obtain ⟨j, hj, hjr⟩ := List.getElem_of_mem hmem
    have ha : headAt rs' i = headAt rs j := by
      rw [headAt_of hri, headAt_of (List.getElem?_eq_getElem hj), hjr]
    have hK : ∀ u, Der (edgesOf rs') (headAt rs' i) u → u ≤ at0 (levelsL rs) j := fun u hu => by
      have h2 := hu.sub hsub
      rw [ha] at h2
      exact low_tell h hj u h2
    obtain ⟨v', hv', hT⟩ := top_ex hK (at0 (levelsL rs) j) v d (by omega)
    have := top_few hU (List.mem_map.2 ⟨rs'[i], List.getElem_mem hi, (headAt_of hri).symm⟩) hT
    rw [List.length_map] at this
    omega

theorem prog_zero {rs : List Rl} (h : progB rs = 0) : rs.all ruleB = true ∧ rs.length ≤ 8 ∧ alikeB (atsOf rs) = true ∧ rs.all ruleTight = true ∧ cycB rs = false := by
  obtain ⟨h1, h2, h5⟩ := prog_sound h
  have h2' : ¬ 8 < rs.length := by omega
  cases h3 : alikeB (atsOf rs) with
  | false => rw [prog3 h1 h2' h3] at h; exact absurd h (by decide)
  | true =>
    cases h4 : rs.all ruleTight with
    | false => rw [prog4 h1 h2' h3 h4] at h; exact absurd h (by decide)
    | true => exact ⟨h1, h2, rfl, rfl, h5⟩

theorem alike_all {xs : List At} : alikeB xs = true ↔ ∀ a ∈ xs, ∀ b ∈ xs, pairOk a b = true := by
  unfold alikeB
  simp only [List.all_eq_true]

/-- Fine rules without their last are fine. -/
theorem prog_take {rs : List Rl} (h : progB rs = 0) (k : Nat) : progB (rs.take k) = 0 := by
  obtain ⟨h1, h2, h3, h4, h5⟩ := prog_zero h
  have hs : ∀ r ∈ rs.take k, r ∈ rs := fun r hr => List.mem_of_mem_take hr
  have ha : ∀ a ∈ atsOf (rs.take k), a ∈ atsOf rs := fun a hx => by
    unfold atsOf at hx ⊢
    obtain ⟨r, hr, h⟩ := List.mem_flatMap.1 hx
    exact List.mem_flatMap.2 ⟨r, hs r hr, h⟩
  rw [prog5 (List.all_eq_true.2 fun r hr => List.all_eq_true.1 h1 r (hs r hr)) (by rw [List.length_take]; omega)
    (alike_all.2 fun a x b y => alike_all.1 h3 a (ha a x) b (ha b y)) (List.all_eq_true.2 fun r hr => List.all_eq_true.1 h4 r (hs r hr)), cyc_some hs h5]
  rfl

def zzA : At := (⟨#[122, 122, 122]⟩, [(false, ⟨#[97]⟩)])
def zzR : Rl := (zzA, [(true, zzA)])

theorem zzz_der {C : List Edge} (h : (zzA.1, zzA.1, true) ∈ C) : ∀ v, Der C zzA.1 v
  | 0 => .zero _
  | v + 1 => .step h (zzz_der h v)

/-- Fine rules, of other names, and one by which something follows if it does not: they go round. -/
theorem prog_zzz {rs : List Rl} (h : progB rs = 0) (hk : rs.length < 8) (hz : ∀ a ∈ atsOf rs, a.1 ≠ zzA.1) : progB (rs ++ [zzR]) = 5 := by
  obtain ⟨h1, h2, h3, h4, h5⟩ := prog_zero h
  have ez : atsOf (rs ++ [zzR]) = atsOf rs ++ [zzA, zzA] := by unfold atsOf; rw [List.flatMap_append]; rfl
  rw [prog5 (by rw [List.all_append, h1]; decide) (by rw [List.length_append]; show ¬ 8 < rs.length + 1; omega) ?_ (by rw [List.all_append, h4]; decide), if_pos ?_]
  · have hl : rs.length < (rs ++ [zzR]).length := by rw [List.length_append]; show rs.length < rs.length + 1; omega
    have hg : (rs ++ [zzR])[rs.length]? = some zzR := by rw [List.getElem?_append_right (Nat.le_refl _), Nat.sub_self]; rfl
    refine levels_high (rs ++ [zzR]) hl (v := (rs ++ [zzR]).length) ?_ (Nat.le_refl _)
    rw [headAt_of hg]
    refine zzz_der (mem_edges.2 ⟨zzR, List.mem_append_right _ (List.mem_singleton.2 rfl), (true, zzA), List.mem_singleton.2 rfl, ?_, rfl, rfl, rfl⟩) _
    exact isHead_iff.2 ⟨zzR, List.mem_append_right _ (List.mem_singleton.2 rfl), rfl⟩
  · rw [ez, alike_all]
    have key : ∀ a ∈ atsOf rs, pairOk a zzA = true := fun a ha => by unfold pairOk; rw [decide_eq_false (hz a ha)]; rfl
    have hzz : ∀ b ∈ [zzA, zzA], b = zzA := fun b hb => by simpa using hb
    intro a ha b hb
    rcases List.mem_append.1 ha with ha | ha <;> rcases List.mem_append.1 hb with hb | hb
    · exact alike_all.1 h3 a ha b hb
    · rw [hzz b hb]; exact key a ha
    · rw [hzz a ha, pairOk_symm]; exact key b hb
    · rw [hzz a ha, hzz b hb]; exact pairOk_self _

theorem nm_ats {rs : List Rr} (h : ∀ r ∈ rs, NmRule r) : ∀ a ∈ atsOf (rs.map rRl), a.1 ≠ zzA.1 := by
  intro a ha e
  unfold atsOf at ha
  obtain ⟨r', hr', hx⟩ := List.mem_flatMap.1 ha
  obtain ⟨r, hr, rfl⟩ := List.mem_map.1 hr'
  obtain ⟨h1, _, _, h4⟩ := h r hr
  rcases List.mem_cons.1 hx with rfl | hx
  · exact h1.2 (by rw [show r.1.1 = zzA.1 from e]; rfl)
  · obtain ⟨q', hq', rfl⟩ := List.mem_map.1 hx
    obtain ⟨q, hq, rfl⟩ := List.mem_map.1 hq'
    exact (h4 q hq).1.2 (by rw [show q.2.1 = zzA.1 from e]; rfl)

/-- The head that is not in any drawn rule, as it lies. -/
def zzH (T : Nat) : Rf := (⟨#[122, 122, 122]⟩, some ⟨T, 0, none⟩, 1, 1, [(false, ⟨#[97]⟩)])
def zzRr (T P : Nat) : Rr := (zzH T, some ⟨P, 0, none⟩, 1, 1, [(true, zzH T)])

theorem zz_rule {W w7 : World} {lo P T : Nat} (hb : Below w7.heap.size w7 W) (hH : HeadApart w7 lo w7.heap.size (zzH T)) (hl : lo ≤ P) (hP : Blk W P 69 #[.bool true, .string ⟨#[122, 122, 122]⟩, .slice (some ⟨T, 0, none⟩) 1 1]) : TyRule W lo W.heap.size (zzRr T P) := by
  have h1 := hH.on hb
  refine ⟨h1, rfl, Nat.le_refl _, by unfold maxLen; show 1 ≤ _; omega, fun _ => ⟨P, 3, fun i => #[Value.bool true, .string ⟨#[122, 122, 122]⟩, .slice (some ⟨T, 0, none⟩) 1 1][i]?.getD undef, rfl, hl, hP.lt, ⟨_, hP, rfl, fun i hi => ?_⟩, Nat.le_refl _, fun j u hu => ?_⟩, fun p hp => by rw [List.mem_singleton.1 hp]; exact h1⟩
  · simp [hi]
  · match j, hu with
    | 0, hu => simpa [pcells, zzH, zzRr] using hu
    | 1, hu => simpa [pcells, zzH, zzRr] using hu
    | 2, hu => simpa [pcells, zzH, zzRr] using hu

/-- A shorter piece of a list. -/
theorem seq_take {α : Type} {sz : Nat} {E : World → Nat → Nat → Addr → α → Prop} {w : World} {lo hi n c k : Nat} {A : Option Addr} {xs : List α} (h : IsSeq sz E w lo hi A n c xs) (hk : k ≤ n) : IsSeq sz E w lo hi A k c (xs.take k) := by
  obtain ⟨h1, h2, h3, h4⟩ := h
  refine ⟨by rw [List.length_take]; omega, by omega, h3, fun h0 => ?_⟩
  obtain ⟨p, hp, a, b, he⟩ := h4 (by omega)
  refine ⟨p, hp, a, b, fun i x hx => he i x ?_⟩
  rw [List.getElem?_take] at hx
  split at hx
  · exact hx
  · cases hx

/-- The rules and that one, in a row of their own. -/
theorem zz_end {w V W V9 : World} {B : Option Addr} {k d T P : Nat} {rs : List Rr} {ls : List Rl} {v v' : Value} (hls : rs.map rRl = ls) (hD : Drawn w B k d rs V) (hH : HeadApart V w.heap.size V.heap.size (zzH T)) (hw : w.heap.size ≤ V.heap.size)
    (hb : Below V.heap.size V W) (hP : w.heap.size ≤ P) (hT : Blk W P 69 #[.bool true, .string ⟨#[122, 122, 122]⟩, .slice (some ⟨T, 0, none⟩) 1 1]) (hrow : W.ownsRow V.heap.size 72 3 v k (rrcells rs))
    (hown : V9.ownsRow V.heap.size 72 3 v' (k + 1) (rrcells rs ++ [.string ⟨#[122, 122, 122]⟩, .slice (some ⟨T, 0, none⟩) 1 1, .slice (some ⟨P, 0, none⟩) 1 1])) (hg : W.grownBy V9 v.ownBlock) :
    ∃ C e, v' = .slice C (k + 1) e ∧ IsRules V9 0 V9.heap.size C (k + 1) e (ls ++ [zzR]) ∧ Below V.heap.size V V9 := by
  have hb9 : Below V.heap.size V V9 := hb.grown hg hb.size (fun g hg => (hrow.lt g hg).1)
  have hP9 := hT.kept hg (own_kind hrow hT (by decide))
  have hD9 := hD.later hb9
  have hlen : (rs ++ [zzRr T P]).length = k + 1 := by rw [List.length_append, hD.len]; rfl
  obtain ⟨C, e, e1, hI⟩ := ty_rules (rs := rs ++ [zzRr T P]) (k := k + 1) (by rw [rrcells_snoc]; exact ownsLess hown hw) hlen (fun r hr => by
    rcases List.mem_append.1 hr with hr | hr
    · exact hD9.ty r hr
    · rw [List.mem_singleton.1 hr]; exact zz_rule hb9 hH hP hP9)
  refine ⟨C, e, e1, ?_, hb9⟩
  have e2 : (rs ++ [zzRr T P]).map rRl = ls ++ [zzR] := by rw [List.map_append, hls]; rfl
  rw [← e2]
  exact hI.keep RuleE.stays (fun _ _ _ => rfl) (Nat.zero_le _) (Nat.le_refl _)

set_option maxRecDepth 100000 in
set_option maxHeartbeats 8000000 in
theorem checkLaw_any (A : Option Addr) (n c : Nat) (w : World) (h : IsBytes w w.heap.size A n c) (hk : ErrKind w) :
    Calls Tryz.prog 11 #[.slice A n c] w (BoolPost true w) := by
  have HK := Lib.hid hk; clear hk
  obtain ⟨i2, hi2, hz2, hsz2, hby2⟩ := info_parts Tryz.infoRuleR
  have HI2 := Lib.hid hi2; have HZ2 := Lib.hid hz2; have HSZ2 := Lib.hid hsz2; have HYY2 := Lib.hid hby2
  clear hi2 hz2 hsz2 hby2
  go_enter Tryz.func11, Tryz.ntmps11
  go_wp2_with fail
  all_goals try (go_ret; exact ⟨rfl, Below.refl _ _⟩)
  refine (drawProgCheck_any A n c _ h).mono ?_; rintro e w1 ⟨B, k, d, rs, rfl, hD⟩
  have HD := Lib.hid hD
  clear hD
  obtain ⟨ls, hls⟩ : ∃ ls, rs.map rRl = ls := ⟨_, rfl⟩
  have HLS := Lib.hid hls
  have HLN := Lib.hid (show ls.length = k by rw [← hls, List.length_map]; exact HD.out.len)
  have HR1 := Lib.hid (hls ▸ HD.out.rules)
  have HB1 := Lib.hid HD.out.be
  have hk9 := HD.out.few
  clear hls
  obtain ⟨z, hz⟩ : ∃ z, progB ls = z := ⟨_, rfl⟩
  have HZ := Lib.hid hz; clear hz
  have hz5 : z ≤ 5 := by rw [← HZ.out]; unfold progB; repeat' split
                         all_goals omega
  go_wp2_with fail
  refine (implProgCheck_any B k d ls _ HR1.out (HK.out.later HB1.out)).mono ?_; rintro e w2 ⟨rfl, hb2⟩
  rw [HZ.out]
  have HB2 := Lib.hid (belowThen HB1.out hb2)
  have HR2 := Lib.hid (HR1.out.up RuleE.stays hb2)
  have HD2 := Lib.hid (HD.out.later hb2)
  clear hb2 HR1 HD
  go_wp2_with fail
  refine (specProgCheck_any B k d ls _ HR2.out).mono ?_; rintro e w3 ⟨rfl, hb3⟩
  rw [HZ.out]
  have HB3 := Lib.hid (belowThen HB2.out hb3)
  have HR3 := Lib.hid (HR2.out.up RuleE.stays hb3)
  have HD3 := Lib.hid (HD2.out.later hb3)
  clear hb3 HR2 HD2
  have hzz : ((z : Int) != (z : Int)) = false := by simp
  have hzn : ¬ (z : Int) < 0 := by omega
  have hz5I : ¬ (5 : Int) < (z : Int) := by omega
  by_cases h0 : z = 0
  · subst h0
    have hbz : w.heap.size ≤ w3.heap.size := HB3.out.size
    go_wp2
    have hb7 : Below w3.heap.size w3 ((w3.alloc (.cells #[.bool false, .string ⟨#[97]⟩] 64)).alloc (.cells #[.string ⟨#[122, 122, 122]⟩, .slice (some ⟨w3.heap.size, 0, none⟩) 1 1] 67)) := below2 w3 _ _
    have hh7 : HeadApart ((w3.alloc (.cells #[.bool false, .string ⟨#[97]⟩] 64)).alloc (.cells #[.string ⟨#[122, 122, 122]⟩, .slice (some ⟨w3.heap.size, 0, none⟩) 1 1] 67)) w.heap.size ((w3.alloc (.cells #[.bool false, .string ⟨#[97]⟩] 64)).alloc (.cells #[.string ⟨#[122, 122, 122]⟩, .slice (some ⟨w3.heap.size, 0, none⟩) 1 1] 67)).heap.size (zzH w3.heap.size) := (head_newAt w3 w.heap.size w3.heap.size ⟨#[122, 122, 122]⟩ [(false, ⟨#[97]⟩)] #[.bool false, .string ⟨#[97]⟩] 1 rfl hbz (by decide) rfl (by decide) (by omega) (by omega) rfl).on (below1 _ _)
    have hx7 : Blk ((w3.alloc (.cells #[.bool false, .string ⟨#[97]⟩] 64)).alloc (.cells #[.string ⟨#[122, 122, 122]⟩, .slice (some ⟨w3.heap.size, 0, none⟩) 1 1] 67)) (w3.heap.size + 1) 67 #[.string ⟨#[122, 122, 122]⟩, .slice (some ⟨w3.heap.size, 0, none⟩) 1 1] := by
      have h := Blk.new (w3.alloc (.cells #[.bool false, .string ⟨#[97]⟩] 64)) 67 #[.string ⟨#[122, 122, 122]⟩, .slice (some ⟨w3.heap.size, 0, none⟩) 1 1]
      rwa [show (w3.alloc (.cells #[.bool false, .string ⟨#[97]⟩] 64)).heap.size = w3.heap.size + 1 by simp] at h
    have hs7 : w3.heap.size + 2 ≤ ((w3.alloc (.cells #[.bool false, .string ⟨#[97]⟩] 64)).alloc (.cells #[.string ⟨#[122, 122, 122]⟩, .slice (some ⟨w3.heap.size, 0, none⟩) 1 1] 67)).heap.size := by simp
    obtain ⟨w7, h7⟩ : ∃ X, ((w3.alloc (.cells #[.bool false, .string ⟨#[97]⟩] 64)).alloc (.cells #[.string ⟨#[122, 122, 122]⟩, .slice (some ⟨w3.heap.size, 0, none⟩) 1 1] 67)) = X := ⟨_, rfl⟩
    rw [h7] at hb7 hh7 hx7 hs7 ⊢
    clear h7
    rename_i K5 a5
    have REST : ∀ (u1 u2 u4 u5 u7 u8 u9 u10 u11 u12 u13 u14 u15 u16 u17 u18 u19 u20 u21 u22 u23 u24 u25 u26 u27 u28 u29 u30 u31 u32 u33 u34 u35 u36 u37 u38 u39 u40 u41 u42 u43 u44 u45 u46 u47 u48 u49 u50 u51 u52 u53 u54 u55 u56 u57 u58 u59 u60 u61 u62 u63 u64 u65 u66 u67 u68 u69 u70 u71 u72 u73 u74 : Value) (C : Option Addr) (e : Nat) (W : World), Below w3.heap.size w3 W → IsRules W 0 W.heap.size C (k + 1) e (ls ++ [zzR]) → K5 { tmps := #[.slice A n c, u1, u2, .slice B k d, u4, u5, .slice C (k + 1) e, u7, u8, u9, u10, u11, u12, u13, u14, u15, u16, u17, u18, u19, u20, u21, u22, u23, u24, u25, u26, u27, u28, u29, u30, u31, u32, u33, u34, u35, u36, u37, u38, u39, u40, u41, u42, u43, u44, u45, u46, u47, u48, u49, u50, u51, u52, u53, u54, u55, u56, u57, u58, u59, u60, u61, u62, u63, u64, u65, u66, u67, u68, u69, u70, u71, u72, u73, u74], defers := [] } W := by
      intro u1 u2 u4 u5 u7 u8 u9 u10 u11 u12 u13 u14 u15 u16 u17 u18 u19 u20 u21 u22 u23 u24 u25 u26 u27 u28 u29 u30 u31 u32 u33 u34 u35 u36 u37 u38 u39 u40 u41 u42 u43 u44 u45 u46 u47 u48 u49 u50 u51 u52 u53 u54 u55 u56 u57 u58 u59 u60 u61 u62 u63 u64 u65 u66 u67 u68 u69 u70 u71 u72 u73 u74 C e W hW hI
      have HW := Lib.hid hW; have HI := Lib.hid hI
      clear hW hI hb7 hh7 hx7 hs7
      refine a5 _ _ ?_
      clear a5
      by_cases hk8 : k < 8
      · have hk8I : (k : Int) < 8 := by omega
        go_wp2_with fail
        refine (implProgCheck_any C (k + 1) e (ls ++ [zzR]) _ HI.out (HK.out.later (belowThen HB3.out HW.out))).mono ?_; rintro e_ w8 ⟨rfl, hb8⟩
        rw [prog_zzz HZ.out (by rw [HLN.out]; exact hk8) (by rw [← HLS.out]; exact nm_ats HD3.out.nm)]
        have HW8 := Lib.hid (belowThen HW.out hb8)
        clear hb8
        by_cases hk0 : k = 0
        · subst hk0
          go_wp2
          go_ret; exact ⟨rfl, belowThen HB3.out HW8.out⟩
        · obtain ⟨q, hq⟩ : ∃ q, q + 1 = k := ⟨k - 1, by omega⟩
          have hk0I : ¬ (k : Int) = 0 := by omega
          have hkb : ((k : Int) == 0) = false := by simpa using hk0I
          have hsub : IntKind.i64.wrap ((k : Int) - 1) = (q : Int) := by rw [IntKind.wrap_i64]; omega
          have HRX := Lib.hid (HR3.out.up RuleE.stays HW8.out)
          have hkd : k ≤ d := HRX.out.2.1
          have hqd : (q : Int) ≤ (d : Int) := by omega
          obtain ⟨p, hp⟩ : ∃ p, B = some p := by obtain ⟨p, hp, _⟩ := HRX.out.2.2.2 (by omega); exact ⟨p, hp⟩
          subst hp
          have HRQ := Lib.hid (seq_take HRX.out (k := q) (by omega))
          go_wp2_with fail
          refine (implProgCheck_any (some p) q d (ls.take q) _ HRQ.out (HK.out.later (belowThen HB3.out HW8.out))).mono ?_; rintro e_ w9 ⟨rfl, hb9⟩
          rw [prog_take HZ.out]
          go_wp2
          go_ret; exact ⟨rfl, belowThen (belowThen HB3.out HW8.out) hb9⟩
      · have hk8I : ¬ (k : Int) < 8 := by omega
        by_cases hk0 : k = 0
        · exfalso; omega
        · obtain ⟨q, hq⟩ : ∃ q, q + 1 = k := ⟨k - 1, by omega⟩
          have hk0I : ¬ (k : Int) = 0 := by omega
          have hkb : ((k : Int) == 0) = false := by simpa using hk0I
          have hsub : IntKind.i64.wrap ((k : Int) - 1) = (q : Int) := by rw [IntKind.wrap_i64]; omega
          have HRX := Lib.hid (HR3.out.up RuleE.stays HW.out)
          have hkd : k ≤ d := HRX.out.2.1
          have hqd : (q : Int) ≤ (d : Int) := by omega
          obtain ⟨p, hp⟩ : ∃ p, B = some p := by obtain ⟨p, hp, _⟩ := HRX.out.2.2.2 (by omega); exact ⟨p, hp⟩
          subst hp
          have HRQ := Lib.hid (seq_take HRX.out (k := q) (by omega))
          go_wp2_with fail
          refine (implProgCheck_any (some p) q d (ls.take q) _ HRQ.out (HK.out.later (belowThen HB3.out HW.out))).mono ?_; rintro e_ w9 ⟨rfl, hb9⟩
          rw [prog_take HZ.out]
          go_wp2
          go_ret; exact ⟨rfl, belowThen (belowThen HB3.out HW.out) hb9⟩
    have HREST := Lib.hid REST; clear REST a5
    obtain ⟨V, hV⟩ : ∃ V, w7.drew = V := ⟨_, rfl⟩
    have hbV : Below w7.heap.size w7 V := by rw [← hV]; exact (Below.refl _ _).drew
    have HV3 := Lib.hid (belowThen hb7 hbV)
    have HHV := Lib.hid (hh7.on hbV)
    have hxV := hx7.below hbV
    have HDV := Lib.hid (HD3.out.later HV3.out)
    have hwV : w.heap.size ≤ V.heap.size := Nat.le_trans hbz HV3.out.size
    have hs7 : w3.heap.size + 2 ≤ V.heap.size := Nat.le_trans hs7 hbV.size
    have hPT : w.heap.size ≤ V.heap.size := hwV
    have y0 : V.cell? ⟨w3.heap.size + 1, 0, none⟩ = some (.string ⟨#[122, 122, 122]⟩) := hxV.cell 0
    have y1 : V.cell? ⟨w3.heap.size + 1, 1, none⟩ = some (.slice (some ⟨w3.heap.size, 0, none⟩) 1 1) := hxV.cell 1
    clear hb7 hh7 hx7 hbV hxV
    refine wp_region_held_drew (S := fun W => W.cell? ⟨w3.heap.size + 1, 0, none⟩ = some (.string ⟨#[122, 122, 122]⟩) ∧ W.cell? ⟨w3.heap.size + 1, 1, none⟩ = some (.slice (some ⟨w3.heap.size, 0, none⟩) 1 1)) (by kernel_rfl) (by rw [hV]; exact ⟨y0, y1⟩) ?_
    rw [hV]
    clear hV
    intro hS_
    refine takeV (i := 1) (v := .slice B k d) (by (simp only [List.getElem?_toArray, List.getElem?_cons_succ, List.getElem?_cons_zero]); rfl) (by kernel_rfl) (by kernel_rfl) (by kernel_rfl) (by rfl) (fun _ _ _ h => h) (Or.inl ⟨by rfl, ?_⟩) hS_ (by (simp only [List.setIfInBounds_toArray, List.set_cons_succ, List.set_cons_zero]); rfl) ?_
    · intro w_ hSw_; (try dsimp only at hSw_); go_simp
    refine takeV (i := 3) (v := .agg #[.string ⟨#[122, 122, 122]⟩, .slice (some ⟨w3.heap.size, 0, none⟩) 1 1]) (by (simp only [List.getElem?_toArray, List.getElem?_cons_succ, List.getElem?_cons_zero]); rfl) (by kernel_rfl) (by kernel_rfl) (by kernel_rfl) (by rfl) (fun _ _ _ h => h) (Or.inl ⟨by rfl, ?_⟩) hS_ (by (simp only [List.setIfInBounds_toArray, List.set_cons_succ, List.set_cons_zero]); rfl) ?_
    · intro w_ hSw_; (try dsimp only at hSw_); go_simp
    refine takeV (i := 4) (v := .agg #[.string ⟨#[122, 122, 122]⟩, .slice (some ⟨w3.heap.size, 0, none⟩) 1 1]) (by (simp only [List.getElem?_toArray, List.getElem?_cons_succ, List.getElem?_cons_zero]); rfl) (by kernel_rfl) (by kernel_rfl) (by kernel_rfl) (by rfl) (fun _ _ _ h => h) (Or.inl ⟨by rfl, ?_⟩) hS_ (by (simp only [List.setIfInBounds_toArray, List.set_cons_succ, List.set_cons_zero]); rfl) ?_
    · intro w_ hSw_; (try dsimp only at hSw_); go_simp
    refine takeV (i := 5) (v := .agg #[.bool true, .string ⟨#[122, 122, 122]⟩, .slice (some ⟨w3.heap.size, 0, none⟩) 1 1]) (by (simp only [List.getElem?_toArray, List.getElem?_cons_succ, List.getElem?_cons_zero]); rfl) (by kernel_rfl) (by kernel_rfl) (by kernel_rfl) (by rfl) (fun _ _ _ h => h) (Or.inl ⟨by rfl, ?_⟩) hS_ (by (simp only [List.setIfInBounds_toArray, List.set_cons_succ, List.set_cons_zero]); rfl) ?_
    · intro w_ hSw_; (try dsimp only at hSw_); go_simp
    have BVV := Lib.hid (Below.refl V.heap.size V)
    refine wpAnyH_ready (rs := [0, 6]) (by kernel_rfl) (by simp) ?_
    refine (AllReadyH.cons (o := _) (by (simp only [List.getElem?_toArray, List.getElem?_cons_zero]); rfl) (fun K_ hK_ => ?_) (AllReadyH.cons (o := _) (by (simp only [List.getElem?_toArray, List.getElem?_cons_succ, List.getElem?_cons_zero]); rfl) (fun K_ hK_ => ?_) AllReadyH.nil))
    · rw [if_pos (by rfl)]
      go_simp
      have BV1 := Lib.hid (belowThen BVV.out (below1 V (.cells #[] 72)))
      have hzb1 := BVV.out.size
      have RY1 := Lib.hid (own_empty3 V 72 V.heap.size hzb1)
      have hzs1 : (V.alloc (.cells #[] 72)).heap.size ≤ V.heap.size + 1 ∧ V.heap.size + 1 ≤ (V.alloc (.cells #[] 72)).heap.size := by simp
      obtain ⟨V1, hV1⟩ : ∃ X, V.alloc (.cells #[] 72) = X := ⟨_, rfl⟩
      rw [hV1] at BV1 RY1 hzs1 ⊢
      clear hV1
      refine hK_.out _ _ ⟨(BV1.out.cell (p := ⟨w3.heap.size + 1, 0, none⟩) (by show w3.heap.size + 1 < _; omega)).trans y0, (BV1.out.cell (p := ⟨w3.heap.size + 1, 1, none⟩) (by show w3.heap.size + 1 < _; omega)).trans y1⟩ (fun hS2_ => ?_)
      clear hK_ hS_; have hS_ := hS2_; clear hS2_
      (try simp only [Act.put, List.setIfInBounds_toArray, List.set_cons_zero, List.set_cons_succ])
      refine wpAnyH_ready (rs := [2, 6]) (by kernel_rfl) (by simp) ?_
      refine (AllReadyH.cons (o := _) (by (simp only [List.getElem?_toArray, List.getElem?_cons_succ, List.getElem?_cons_zero]); rfl) (fun K_ hK_ => ?_) (AllReadyH.cons (o := _) (by (simp only [List.getElem?_toArray, List.getElem?_cons_succ, List.getElem?_cons_zero]); rfl) (fun K_ hK_ => ?_) AllReadyH.nil))
      · have SRC2 := srcRow (B := B) (d := d) (HDV.out.later BV1.out).row (by rw [rrcells_len, HDV.out.len])
        have hzw2 := BV1.out.size
        refine step_appZ 3 (by omega) (by rfl) _ _ _ (by rfl) V.heap.size 72 i2 _ 64 Tryz.underlying25 HI2.out HZ2.out HSZ2.out HYY2.out rfl (.slice (some ⟨V.heap.size, 0, none⟩) 0 0) 0 [] (by rfl) RY1.out B k d (rrcells rs) (by rfl) SRC2 (rrcells_one rs) (by unfold maxLen; omega) (by omega) BV1.out.size ?_
        intro q2 V2 OW2 G2
        have RY2 := Lib.hid (show V2.ownsRow V.heap.size 72 3 q2 k (rrcells rs) by rw [Nat.zero_add, List.nil_append] at OW2; exact OW2)
        have BV2 := Lib.hid (BV1.out.grown G2 BV1.out.size (fun g hg => (RY1.out.lt g hg).1))
        have hzg2 : V1.heap.size ≤ V2.heap.size := G2.size
        clear OW2 G2 SRC2
        refine hK_.out _ _ ⟨(BV2.out.cell (p := ⟨w3.heap.size + 1, 0, none⟩) (by show w3.heap.size + 1 < _; omega)).trans y0, (BV2.out.cell (p := ⟨w3.heap.size + 1, 1, none⟩) (by show w3.heap.size + 1 < _; omega)).trans y1⟩ (fun hS2_ => ?_)
        clear hK_ hS_; have hS_ := hS2_; clear hS2_
        (try simp only [Act.put, List.setIfInBounds_toArray, List.set_cons_zero, List.set_cons_succ])
        refine wpAnyH_ready (rs := [6]) (by kernel_rfl) (by simp) ?_
        refine AllReadyH.cons (o := _) (by (simp only [List.getElem?_toArray, List.getElem?_cons_succ, List.getElem?_cons_zero]); rfl) (fun K_ hK_ => ?_) AllReadyH.nil
        rw [if_pos (by rfl)]
        go_simp
        have BV3 := Lib.hid (belowThen BV2.out (below1 V2 (.cells #[.bool true, .string ⟨#[122, 122, 122]⟩, .slice (some ⟨w3.heap.size, 0, none⟩) 1 1] 69)))
        have hzb3 := BV2.out.size
        have RY3 := Lib.hid (RY2.out.alloc (.cells #[.bool true, .string ⟨#[122, 122, 122]⟩, .slice (some ⟨w3.heap.size, 0, none⟩) 1 1] 69))
        have TP3 := Lib.hid (Blk.new V2 69 #[.bool true, .string ⟨#[122, 122, 122]⟩, .slice (some ⟨w3.heap.size, 0, none⟩) 1 1])
        have hzs3 : (V2.alloc (.cells #[.bool true, .string ⟨#[122, 122, 122]⟩, .slice (some ⟨w3.heap.size, 0, none⟩) 1 1] 69)).heap.size ≤ V2.heap.size + 1 ∧ V2.heap.size + 1 ≤ (V2.alloc (.cells #[.bool true, .string ⟨#[122, 122, 122]⟩, .slice (some ⟨w3.heap.size, 0, none⟩) 1 1] 69)).heap.size := by simp
        obtain ⟨V3, hV3⟩ : ∃ X, V2.alloc (.cells #[.bool true, .string ⟨#[122, 122, 122]⟩, .slice (some ⟨w3.heap.size, 0, none⟩) 1 1] 69) = X := ⟨_, rfl⟩
        rw [hV3] at BV3 RY3 TP3 hzs3 ⊢
        clear hV3
        refine hK_.out _ _ ⟨(BV3.out.cell (p := ⟨w3.heap.size + 1, 0, none⟩) (by show w3.heap.size + 1 < _; omega)).trans y0, (BV3.out.cell (p := ⟨w3.heap.size + 1, 1, none⟩) (by show w3.heap.size + 1 < _; omega)).trans y1⟩ (fun hS2_ => ?_)
        clear hK_ hS_; have hS_ := hS2_; clear hS2_
        (try simp only [Act.put, List.setIfInBounds_toArray, List.set_cons_zero, List.set_cons_succ])
        refine takeV (i := 7) (v := .agg #[.string ⟨#[122, 122, 122]⟩, .slice (some ⟨w3.heap.size, 0, none⟩) 1 1, .slice (some ⟨V2.heap.size, 0, none⟩) 1 1]) (by (simp only [List.getElem?_toArray, List.getElem?_cons_succ, List.getElem?_cons_zero]); rfl) (by kernel_rfl) (by kernel_rfl) (by kernel_rfl) (by rfl) (fun _ _ _ h => h) (Or.inl ⟨by rfl, ?_⟩) hS_ (by (simp only [List.setIfInBounds_toArray, List.set_cons_succ, List.set_cons_zero]); rfl) ?_
        · intro w_ hSw_; (try dsimp only at hSw_); go_simp
        refine wpAnyH_ready (rs := [8]) (by kernel_rfl) (by simp) ?_
        refine AllReadyH.cons (o := _) (by (simp only [List.getElem?_toArray, List.getElem?_cons_succ, List.getElem?_cons_zero]); rfl) (fun K_ hK_ => ?_) AllReadyH.nil
        rw [if_pos (by rfl)]
        go_simp
        have BV4 := Lib.hid (belowThen BV3.out (below1 V3 (.cells #[.string ⟨#[122, 122, 122]⟩, .slice (some ⟨w3.heap.size, 0, none⟩) 1 1, .slice (some ⟨V2.heap.size, 0, none⟩) 1 1] 72)))
        have hzb4 := BV3.out.size
        have RY4 := Lib.hid (RY3.out.alloc (.cells #[.string ⟨#[122, 122, 122]⟩, .slice (some ⟨w3.heap.size, 0, none⟩) 1 1, .slice (some ⟨V2.heap.size, 0, none⟩) 1 1] 72))
        have TP4 := Lib.hid (TP3.out.alloc (.cells #[.string ⟨#[122, 122, 122]⟩, .slice (some ⟨w3.heap.size, 0, none⟩) 1 1, .slice (some ⟨V2.heap.size, 0, none⟩) 1 1] 72))
        have TR4 := Lib.hid (Blk.new V3 72 #[.string ⟨#[122, 122, 122]⟩, .slice (some ⟨w3.heap.size, 0, none⟩) 1 1, .slice (some ⟨V2.heap.size, 0, none⟩) 1 1])
        have hzs4 : (V3.alloc (.cells #[.string ⟨#[122, 122, 122]⟩, .slice (some ⟨w3.heap.size, 0, none⟩) 1 1, .slice (some ⟨V2.heap.size, 0, none⟩) 1 1] 72)).heap.size ≤ V3.heap.size + 1 ∧ V3.heap.size + 1 ≤ (V3.alloc (.cells #[.string ⟨#[122, 122, 122]⟩, .slice (some ⟨w3.heap.size, 0, none⟩) 1 1, .slice (some ⟨V2.heap.size, 0, none⟩) 1 1] 72)).heap.size := by simp
        obtain ⟨V4, hV4⟩ : ∃ X, V3.alloc (.cells #[.string ⟨#[122, 122, 122]⟩, .slice (some ⟨w3.heap.size, 0, none⟩) 1 1, .slice (some ⟨V2.heap.size, 0, none⟩) 1 1] 72) = X := ⟨_, rfl⟩
        rw [hV4] at BV4 RY4 TP4 TR4 hzs4 ⊢
        clear hV4
        refine hK_.out _ _ ⟨(BV4.out.cell (p := ⟨w3.heap.size + 1, 0, none⟩) (by show w3.heap.size + 1 < _; omega)).trans y0, (BV4.out.cell (p := ⟨w3.heap.size + 1, 1, none⟩) (by show w3.heap.size + 1 < _; omega)).trans y1⟩ (fun hS2_ => ?_)
        clear hK_ hS_; have hS_ := hS2_; clear hS2_
        (try simp only [Act.put, List.setIfInBounds_toArray, List.set_cons_zero, List.set_cons_succ])
        refine wpAnyH_ready (rs := [9]) (by kernel_rfl) (by simp) ?_
        refine AllReadyH.cons (o := _) (by (simp only [List.getElem?_toArray, List.getElem?_cons_succ, List.getElem?_cons_zero]); rfl) (fun K_ hK_ => ?_) AllReadyH.nil
        have hzp5 : V.heap.size ≤ V4.heap.size := BV4.out.size
        refine step_appZ 3 (by omega) (by rfl) _ _ _ (by rfl) V.heap.size 72 i2 _ 64 Tryz.underlying25 HI2.out HZ2.out HSZ2.out HYY2.out rfl q2 k (rrcells rs) (by rfl) RY4.out (some ⟨V3.heap.size, 0, none⟩) 1 1 [.string ⟨#[122, 122, 122]⟩, .slice (some ⟨w3.heap.size, 0, none⟩) 1 1, .slice (some ⟨V2.heap.size, 0, none⟩) 1 1] (by rfl) (srcOneP _ _ _ _ _ _ TR4.out) (by simp [Value.oneCell']) (by unfold maxLen; omega) (by omega) BV4.out.size ?_
        intro q5 V5 OW5 G5
        obtain ⟨C, e, rfl, HI9, BW9⟩ := zz_end HLS.out HDV.out HHV.out hwV BV4.out (P := V2.heap.size) (by omega) TP4.out RY4.out OW5 G5
        have BV5 := Lib.hid BW9
        have HI9 := Lib.hid HI9
        clear OW5 G5 BW9
        refine hK_.out _ _ ⟨(BV5.out.cell (p := ⟨w3.heap.size + 1, 0, none⟩) (by show w3.heap.size + 1 < _; omega)).trans y0, (BV5.out.cell (p := ⟨w3.heap.size + 1, 1, none⟩) (by show w3.heap.size + 1 < _; omega)).trans y1⟩ (fun hS2_ => ?_)
        clear hK_ hS_; have hS_ := hS2_; clear hS2_
        (try simp only [Act.put, List.setIfInBounds_toArray, List.set_cons_zero, List.set_cons_succ])
        refine takeV (i := 10) (v := .slice C (k + 1) e) (by (simp only [List.getElem?_toArray, List.getElem?_cons_succ, List.getElem?_cons_zero]); rfl) (by kernel_rfl) (by kernel_rfl) (by kernel_rfl) (by rfl) (fun _ _ _ h => h) (Or.inl ⟨by rfl, ?_⟩) hS_ (by (simp only [List.setIfInBounds_toArray, List.set_cons_succ, List.set_cons_zero]); rfl) ?_
        · intro w_ hSw_; (try dsimp only at hSw_); go_simp
        refine wpAnyH_done (by kernel_rfl) ?_ _
        exact HREST.out _ _ _ _ _ _ _ _ _ _ _ _ _ _ _ _ _ _ _ _ _ _ _ _ _ _ _ _ _ _ _ _ _ _ _ _ _ _ _ _ _ _ _ _ _ _ _ _ _ _ _ _ _ _ _ _ _ _ _ _ _ _ _ _ _ _ _ _ _ _ _ _ C e V5 (belowThen HV3.out BV5.out) HI9.out
      · rw [if_pos (by rfl)]
        go_simp
        have BV6 := Lib.hid (belowThen BV1.out (below1 V1 (.cells #[.bool true, .string ⟨#[122, 122, 122]⟩, .slice (some ⟨w3.heap.size, 0, none⟩) 1 1] 69)))
        have hzb6 := BV1.out.size
        have RY6 := Lib.hid (RY1.out.alloc (.cells #[.bool true, .string ⟨#[122, 122, 122]⟩, .slice (some ⟨w3.heap.size, 0, none⟩) 1 1] 69))
        have TP6 := Lib.hid (Blk.new V1 69 #[.bool true, .string ⟨#[122, 122, 122]⟩, .slice (some ⟨w3.heap.size, 0, none⟩) 1 1])
        have hzs6 : (V1.alloc (.cells #[.bool true, .string ⟨#[122, 122, 122]⟩, .slice (some ⟨w3.heap.size, 0, none⟩) 1 1] 69)).heap.size ≤ V1.heap.size + 1 ∧ V1.heap.size + 1 ≤ (V1.alloc (.cells #[.bool true, .string ⟨#[122, 122, 122]⟩, .slice (some ⟨w3.heap.size, 0, none⟩) 1 1] 69)).heap.size := by simp
        obtain ⟨V6, hV6⟩ : ∃ X, V1.alloc (.cells #[.bool true, .string ⟨#[122, 122, 122]⟩, .slice (some ⟨w3.heap.size, 0, none⟩) 1 1] 69) = X := ⟨_, rfl⟩
        rw [hV6] at BV6 RY6 TP6 hzs6 ⊢
        clear hV6
        refine hK_.out _ _ ⟨(BV6.out.cell (p := ⟨w3.heap.size + 1, 0, none⟩) (by show w3.heap.size + 1 < _; omega)).trans y0, (BV6.out.cell (p := ⟨w3.heap.size + 1, 1, none⟩) (by show w3.heap.size + 1 < _; omega)).trans y1⟩ (fun hS2_ => ?_)
        clear hK_ hS_; have hS_ := hS2_; clear hS2_
        (try simp only [Act.put, List.setIfInBounds_toArray, List.set_cons_zero, List.set_cons_succ])
        refine takeV (i := 7) (v := .agg #[.string ⟨#[122, 122, 122]⟩, .slice (some ⟨w3.heap.size, 0, none⟩) 1 1, .slice (some ⟨V1.heap.size, 0, none⟩) 1 1]) (by (simp only [List.getElem?_toArray, List.getElem?_cons_succ, List.getElem?_cons_zero]); rfl) (by kernel_rfl) (by kernel_rfl) (by kernel_rfl) (by rfl) (fun _ _ _ h => h) (Or.inl ⟨by rfl, ?_⟩) hS_ (by (simp only [List.setIfInBounds_toArray, List.set_cons_succ, List.set_cons_zero]); rfl) ?_
        · intro w_ hSw_; (try dsimp only at hSw_); go_simp
        refine wpAnyH_ready (rs := [2, 8]) (by kernel_rfl) (by simp) ?_
        refine (AllReadyH.cons (o := _) (by (simp only [List.getElem?_toArray, List.getElem?_cons_succ, List.getElem?_cons_zero]); rfl) (fun K_ hK_ => ?_) (AllReadyH.cons (o := _) (by (simp only [List.getElem?_toArray, List.getElem?_cons_succ, List.getElem?_cons_zero]); rfl) (fun K_ hK_ => ?_) AllReadyH.nil))
        · have SRC7 := srcRow (B := B) (d := d) (HDV.out.later BV6.out).row (by rw [rrcells_len, HDV.out.len])
          have hzw7 := BV6.out.size
          refine step_appZ 3 (by omega) (by rfl) _ _ _ (by rfl) V.heap.size 72 i2 _ 64 Tryz.underlying25 HI2.out HZ2.out HSZ2.out HYY2.out rfl (.slice (some ⟨V.heap.size, 0, none⟩) 0 0) 0 [] (by rfl) RY6.out B k d (rrcells rs) (by rfl) SRC7 (rrcells_one rs) (by unfold maxLen; omega) (by omega) BV6.out.size ?_
          intro q7 V7 OW7 G7
          have RY7 := Lib.hid (show V7.ownsRow V.heap.size 72 3 q7 k (rrcells rs) by rw [Nat.zero_add, List.nil_append] at OW7; exact OW7)
          have BV7 := Lib.hid (BV6.out.grown G7 BV6.out.size (fun g hg => (RY6.out.lt g hg).1))
          have hzg7 : V6.heap.size ≤ V7.heap.size := G7.size
          have TP7 := Lib.hid (TP6.out.kept G7 (own_kind RY6.out TP6.out (by decide)))
          clear OW7 G7 SRC7
          refine hK_.out _ _ ⟨(BV7.out.cell (p := ⟨w3.heap.size + 1, 0, none⟩) (by show w3.heap.size + 1 < _; omega)).trans y0, (BV7.out.cell (p := ⟨w3.heap.size + 1, 1, none⟩) (by show w3.heap.size + 1 < _; omega)).trans y1⟩ (fun hS2_ => ?_)
          clear hK_ hS_; have hS_ := hS2_; clear hS2_
          (try simp only [Act.put, List.setIfInBounds_toArray, List.set_cons_zero, List.set_cons_succ])
          refine wpAnyH_ready (rs := [8]) (by kernel_rfl) (by simp) ?_
          refine AllReadyH.cons (o := _) (by (simp only [List.getElem?_toArray, List.getElem?_cons_succ, List.getElem?_cons_zero]); rfl) (fun K_ hK_ => ?_) AllReadyH.nil
          rw [if_pos (by rfl)]
          go_simp
          have BV8 := Lib.hid (belowThen BV7.out (below1 V7 (.cells #[.string ⟨#[122, 122, 122]⟩, .slice (some ⟨w3.heap.size, 0, none⟩) 1 1, .slice (some ⟨V1.heap.size, 0, none⟩) 1 1] 72)))
          have hzb8 := BV7.out.size
          have RY8 := Lib.hid (RY7.out.alloc (.cells #[.string ⟨#[122, 122, 122]⟩, .slice (some ⟨w3.heap.size, 0, none⟩) 1 1, .slice (some ⟨V1.heap.size, 0, none⟩) 1 1] 72))
          have TP8 := Lib.hid (TP7.out.alloc (.cells #[.string ⟨#[122, 122, 122]⟩, .slice (some ⟨w3.heap.size, 0, none⟩) 1 1, .slice (some ⟨V1.heap.size, 0, none⟩) 1 1] 72))
          have TR8 := Lib.hid (Blk.new V7 72 #[.string ⟨#[122, 122, 122]⟩, .slice (some ⟨w3.heap.size, 0, none⟩) 1 1, .slice (some ⟨V1.heap.size, 0, none⟩) 1 1])
          have hzs8 : (V7.alloc (.cells #[.string ⟨#[122, 122, 122]⟩, .slice (some ⟨w3.heap.size, 0, none⟩) 1 1, .slice (some ⟨V1.heap.size, 0, none⟩) 1 1] 72)).heap.size ≤ V7.heap.size + 1 ∧ V7.heap.size + 1 ≤ (V7.alloc (.cells #[.string ⟨#[122, 122, 122]⟩, .slice (some ⟨w3.heap.size, 0, none⟩) 1 1, .slice (some ⟨V1.heap.size, 0, none⟩) 1 1] 72)).heap.size := by simp
          obtain ⟨V8, hV8⟩ : ∃ X, V7.alloc (.cells #[.string ⟨#[122, 122, 122]⟩, .slice (some ⟨w3.heap.size, 0, none⟩) 1 1, .slice (some ⟨V1.heap.size, 0, none⟩) 1 1] 72) = X := ⟨_, rfl⟩
          rw [hV8] at BV8 RY8 TP8 TR8 hzs8 ⊢
          clear hV8
          refine hK_.out _ _ ⟨(BV8.out.cell (p := ⟨w3.heap.size + 1, 0, none⟩) (by show w3.heap.size + 1 < _; omega)).trans y0, (BV8.out.cell (p := ⟨w3.heap.size + 1, 1, none⟩) (by show w3.heap.size + 1 < _; omega)).trans y1⟩ (fun hS2_ => ?_)
          clear hK_ hS_; have hS_ := hS2_; clear hS2_
          (try simp only [Act.put, List.setIfInBounds_toArray, List.set_cons_zero, List.set_cons_succ])
          refine wpAnyH_ready (rs := [9]) (by kernel_rfl) (by simp) ?_
          refine AllReadyH.cons (o := _) (by (simp only [List.getElem?_toArray, List.getElem?_cons_succ, List.getElem?_cons_zero]); rfl) (fun K_ hK_ => ?_) AllReadyH.nil
          have hzp9 : V.heap.size ≤ V8.heap.size := BV8.out.size
          refine step_appZ 3 (by omega) (by rfl) _ _ _ (by rfl) V.heap.size 72 i2 _ 64 Tryz.underlying25 HI2.out HZ2.out HSZ2.out HYY2.out rfl q7 k (rrcells rs) (by rfl) RY8.out (some ⟨V7.heap.size, 0, none⟩) 1 1 [.string ⟨#[122, 122, 122]⟩, .slice (some ⟨w3.heap.size, 0, none⟩) 1 1, .slice (some ⟨V1.heap.size, 0, none⟩) 1 1] (by rfl) (srcOneP _ _ _ _ _ _ TR8.out) (by simp [Value.oneCell']) (by unfold maxLen; omega) (by omega) BV8.out.size ?_
          intro q9 V9 OW9 G9
          obtain ⟨C, e, rfl, HI9, BW9⟩ := zz_end HLS.out HDV.out HHV.out hwV BV8.out (P := V1.heap.size) (by omega) TP8.out RY8.out OW9 G9
          have BV9 := Lib.hid BW9
          have HI9 := Lib.hid HI9
          clear OW9 G9 BW9
          refine hK_.out _ _ ⟨(BV9.out.cell (p := ⟨w3.heap.size + 1, 0, none⟩) (by show w3.heap.size + 1 < _; omega)).trans y0, (BV9.out.cell (p := ⟨w3.heap.size + 1, 1, none⟩) (by show w3.heap.size + 1 < _; omega)).trans y1⟩ (fun hS2_ => ?_)
          clear hK_ hS_; have hS_ := hS2_; clear hS2_
          (try simp only [Act.put, List.setIfInBounds_toArray, List.set_cons_zero, List.set_cons_succ])
          refine takeV (i := 10) (v := .slice C (k + 1) e) (by (simp only [List.getElem?_toArray, List.getElem?_cons_succ, List.getElem?_cons_zero]); rfl) (by kernel_rfl) (by kernel_rfl) (by kernel_rfl) (by rfl) (fun _ _ _ h => h) (Or.inl ⟨by rfl, ?_⟩) hS_ (by (simp only [List.setIfInBounds_toArray, List.set_cons_succ, List.set_cons_zero]); rfl) ?_
          · intro w_ hSw_; (try dsimp only at hSw_); go_simp
          refine wpAnyH_done (by kernel_rfl) ?_ _
          exact HREST.out _ _ _ _ _ _ _ _ _ _ _ _ _ _ _ _ _ _ _ _ _ _ _ _ _ _ _ _ _ _ _ _ _ _ _ _ _ _ _ _ _ _ _ _ _ _ _ _ _ _ _ _ _ _ _ _ _ _ _ _ _ _ _ _ _ _ _ _ _ _ _ _ C e V9 (belowThen HV3.out BV9.out) HI9.out
        · rw [if_pos (by rfl)]
          go_simp
          have BV10 := Lib.hid (belowThen BV6.out (below1 V6 (.cells #[.string ⟨#[122, 122, 122]⟩, .slice (some ⟨w3.heap.size, 0, none⟩) 1 1, .slice (some ⟨V1.heap.size, 0, none⟩) 1 1] 72)))
          have hzb10 := BV6.out.size
          have RY10 := Lib.hid (RY6.out.alloc (.cells #[.string ⟨#[122, 122, 122]⟩, .slice (some ⟨w3.heap.size, 0, none⟩) 1 1, .slice (some ⟨V1.heap.size, 0, none⟩) 1 1] 72))
          have TP10 := Lib.hid (TP6.out.alloc (.cells #[.string ⟨#[122, 122, 122]⟩, .slice (some ⟨w3.heap.size, 0, none⟩) 1 1, .slice (some ⟨V1.heap.size, 0, none⟩) 1 1] 72))
          have TR10 := Lib.hid (Blk.new V6 72 #[.string ⟨#[122, 122, 122]⟩, .slice (some ⟨w3.heap.size, 0, none⟩) 1 1, .slice (some ⟨V1.heap.size, 0, none⟩) 1 1])
          have hzs10 : (V6.alloc (.cells #[.string ⟨#[122, 122, 122]⟩, .slice (some ⟨w3.heap.size, 0, none⟩) 1 1, .slice (some ⟨V1.heap.size, 0, none⟩) 1 1] 72)).heap.size ≤ V6.heap.size + 1 ∧ V6.heap.size + 1 ≤ (V6.alloc (.cells #[.string ⟨#[122, 122, 122]⟩, .slice (some ⟨w3.heap.size, 0, none⟩) 1 1, .slice (some ⟨V1.heap.size, 0, none⟩) 1 1] 72)).heap.size := by simp
          obtain ⟨V10, hV10⟩ : ∃ X, V6.alloc (.cells #[.string ⟨#[122, 122, 122]⟩, .slice (some ⟨w3.heap.size, 0, none⟩) 1 1, .slice (some ⟨V1.heap.size, 0, none⟩) 1 1] 72) = X := ⟨_, rfl⟩
          rw [hV10] at BV10 RY10 TP10 TR10 hzs10 ⊢
          clear hV10
          refine hK_.out _ _ ⟨(BV10.out.cell (p := ⟨w3.heap.size + 1, 0, none⟩) (by show w3.heap.size + 1 < _; omega)).trans y0, (BV10.out.cell (p := ⟨w3.heap.size + 1, 1, none⟩) (by show w3.heap.size + 1 < _; omega)).trans y1⟩ (fun hS2_ => ?_)
          clear hK_ hS_; have hS_ := hS2_; clear hS2_
          (try simp only [Act.put, List.setIfInBounds_toArray, List.set_cons_zero, List.set_cons_succ])
          refine wpAnyH_ready (rs := [2]) (by kernel_rfl) (by simp) ?_
          refine AllReadyH.cons (o := _) (by (simp only [List.getElem?_toArray, List.getElem?_cons_succ, List.getElem?_cons_zero]); rfl) (fun K_ hK_ => ?_) AllReadyH.nil
          have SRC11 := srcRow (B := B) (d := d) (HDV.out.later BV10.out).row (by rw [rrcells_len, HDV.out.len])
          have hzw11 := BV10.out.size
          refine step_appZ 3 (by omega) (by rfl) _ _ _ (by rfl) V.heap.size 72 i2 _ 64 Tryz.underlying25 HI2.out HZ2.out HSZ2.out HYY2.out rfl (.slice (some ⟨V.heap.size, 0, none⟩) 0 0) 0 [] (by rfl) RY10.out B k d (rrcells rs) (by rfl) SRC11 (rrcells_one rs) (by unfold maxLen; omega) (by omega) BV10.out.size ?_
          intro q11 V11 OW11 G11
          have RY11 := Lib.hid (show V11.ownsRow V.heap.size 72 3 q11 k (rrcells rs) by rw [Nat.zero_add, List.nil_append] at OW11; exact OW11)
          have BV11 := Lib.hid (BV10.out.grown G11 BV10.out.size (fun g hg => (RY10.out.lt g hg).1))
          have hzg11 : V10.heap.size ≤ V11.heap.size := G11.size
          have TP11 := Lib.hid (TP10.out.kept G11 (own_kind RY10.out TP10.out (by decide)))
          have TR11 := Lib.hid (TR10.out.kept G11 (fun e => by simp [Value.ownBlock] at e; omega))
          clear OW11 G11 SRC11
          refine hK_.out _ _ ⟨(BV11.out.cell (p := ⟨w3.heap.size + 1, 0, none⟩) (by show w3.heap.size + 1 < _; omega)).trans y0, (BV11.out.cell (p := ⟨w3.heap.size + 1, 1, none⟩) (by show w3.heap.size + 1 < _; omega)).trans y1⟩ (fun hS2_ => ?_)
          clear hK_ hS_; have hS_ := hS2_; clear hS2_
          (try simp only [Act.put, List.setIfInBounds_toArray, List.set_cons_zero, List.set_cons_succ])
          refine wpAnyH_ready (rs := [9]) (by kernel_rfl) (by simp) ?_
          refine AllReadyH.cons (o := _) (by (simp only [List.getElem?_toArray, List.getElem?_cons_succ, List.getElem?_cons_zero]); rfl) (fun K_ hK_ => ?_) AllReadyH.nil
          have hzp12 : V.heap.size ≤ V11.heap.size := BV11.out.size
          refine step_appZ 3 (by omega) (by rfl) _ _ _ (by rfl) V.heap.size 72 i2 _ 64 Tryz.underlying25 HI2.out HZ2.out HSZ2.out HYY2.out rfl q11 k (rrcells rs) (by rfl) RY11.out (some ⟨V6.heap.size, 0, none⟩) 1 1 [.string ⟨#[122, 122, 122]⟩, .slice (some ⟨w3.heap.size, 0, none⟩) 1 1, .slice (some ⟨V1.heap.size, 0, none⟩) 1 1] (by rfl) (srcOneP _ _ _ _ _ _ TR11.out) (by simp [Value.oneCell']) (by unfold maxLen; omega) (by omega) BV11.out.size ?_
          intro q12 V12 OW12 G12
          obtain ⟨C, e, rfl, HI9, BW9⟩ := zz_end HLS.out HDV.out HHV.out hwV BV11.out (P := V1.heap.size) (by omega) TP11.out RY11.out OW12 G12
          have BV12 := Lib.hid BW9
          have HI9 := Lib.hid HI9
          clear OW12 G12 BW9
          refine hK_.out _ _ ⟨(BV12.out.cell (p := ⟨w3.heap.size + 1, 0, none⟩) (by show w3.heap.size + 1 < _; omega)).trans y0, (BV12.out.cell (p := ⟨w3.heap.size + 1, 1, none⟩) (by show w3.heap.size + 1 < _; omega)).trans y1⟩ (fun hS2_ => ?_)
          clear hK_ hS_; have hS_ := hS2_; clear hS2_
          (try simp only [Act.put, List.setIfInBounds_toArray, List.set_cons_zero, List.set_cons_succ])
          refine takeV (i := 10) (v := .slice C (k + 1) e) (by (simp only [List.getElem?_toArray, List.getElem?_cons_succ, List.getElem?_cons_zero]); rfl) (by kernel_rfl) (by kernel_rfl) (by kernel_rfl) (by rfl) (fun _ _ _ h => h) (Or.inl ⟨by rfl, ?_⟩) hS_ (by (simp only [List.setIfInBounds_toArray, List.set_cons_succ, List.set_cons_zero]); rfl) ?_
          · intro w_ hSw_; (try dsimp only at hSw_); go_simp
          refine wpAnyH_done (by kernel_rfl) ?_ _
          exact HREST.out _ _ _ _ _ _ _ _ _ _ _ _ _ _ _ _ _ _ _ _ _ _ _ _ _ _ _ _ _ _ _ _ _ _ _ _ _ _ _ _ _ _ _ _ _ _ _ _ _ _ _ _ _ _ _ _ _ _ _ _ _ _ _ _ _ _ _ _ _ _ _ _ C e V12 (belowThen HV3.out BV12.out) HI9.out
    · rw [if_pos (by rfl)]
      go_simp
      have BV13 := Lib.hid (belowThen BVV.out (below1 V (.cells #[.bool true, .string ⟨#[122, 122, 122]⟩, .slice (some ⟨w3.heap.size, 0, none⟩) 1 1] 69)))
      have hzb13 := BVV.out.size
      have TP13 := Lib.hid (Blk.new V 69 #[.bool true, .string ⟨#[122, 122, 122]⟩, .slice (some ⟨w3.heap.size, 0, none⟩) 1 1])
      have hzs13 : (V.alloc (.cells #[.bool true, .string ⟨#[122, 122, 122]⟩, .slice (some ⟨w3.heap.size, 0, none⟩) 1 1] 69)).heap.size ≤ V.heap.size + 1 ∧ V.heap.size + 1 ≤ (V.alloc (.cells #[.bool true, .string ⟨#[122, 122, 122]⟩, .slice (some ⟨w3.heap.size, 0, none⟩) 1 1] 69)).heap.size := by simp
      obtain ⟨V13, hV13⟩ : ∃ X, V.alloc (.cells #[.bool true, .string ⟨#[122, 122, 122]⟩, .slice (some ⟨w3.heap.size, 0, none⟩) 1 1] 69) = X := ⟨_, rfl⟩
      rw [hV13] at BV13 TP13 hzs13 ⊢
      clear hV13
      refine hK_.out _ _ ⟨(BV13.out.cell (p := ⟨w3.heap.size + 1, 0, none⟩) (by show w3.heap.size + 1 < _; omega)).trans y0, (BV13.out.cell (p := ⟨w3.heap.size + 1, 1, none⟩) (by show w3.heap.size + 1 < _; omega)).trans y1⟩ (fun hS2_ => ?_)
      clear hK_ hS_; have hS_ := hS2_; clear hS2_
      (try simp only [Act.put, List.setIfInBounds_toArray, List.set_cons_zero, List.set_cons_succ])
      refine takeV (i := 7) (v := .agg #[.string ⟨#[122, 122, 122]⟩, .slice (some ⟨w3.heap.size, 0, none⟩) 1 1, .slice (some ⟨V.heap.size, 0, none⟩) 1 1]) (by (simp only [List.getElem?_toArray, List.getElem?_cons_succ, List.getElem?_cons_zero]); rfl) (by kernel_rfl) (by kernel_rfl) (by kernel_rfl) (by rfl) (fun _ _ _ h => h) (Or.inl ⟨by rfl, ?_⟩) hS_ (by (simp only [List.setIfInBounds_toArray, List.set_cons_succ, List.set_cons_zero]); rfl) ?_
      · intro w_ hSw_; (try dsimp only at hSw_); go_simp
      refine wpAnyH_ready (rs := [0, 8]) (by kernel_rfl) (by simp) ?_
      refine (AllReadyH.cons (o := _) (by (simp only [List.getElem?_toArray, List.getElem?_cons_zero]); rfl) (fun K_ hK_ => ?_) (AllReadyH.cons (o := _) (by (simp only [List.getElem?_toArray, List.getElem?_cons_succ, List.getElem?_cons_zero]); rfl) (fun K_ hK_ => ?_) AllReadyH.nil))
      · rw [if_pos (by rfl)]
        go_simp
        have BV14 := Lib.hid (belowThen BV13.out (below1 V13 (.cells #[] 72)))
        have hzb14 := BV13.out.size
        have TP14 := Lib.hid (TP13.out.alloc (.cells #[] 72))
        have RY14 := Lib.hid (own_empty3 V13 72 V.heap.size hzb14)
        have hzs14 : (V13.alloc (.cells #[] 72)).heap.size ≤ V13.heap.size + 1 ∧ V13.heap.size + 1 ≤ (V13.alloc (.cells #[] 72)).heap.size := by simp
        obtain ⟨V14, hV14⟩ : ∃ X, V13.alloc (.cells #[] 72) = X := ⟨_, rfl⟩
        rw [hV14] at BV14 TP14 RY14 hzs14 ⊢
        clear hV14
        refine hK_.out _ _ ⟨(BV14.out.cell (p := ⟨w3.heap.size + 1, 0, none⟩) (by show w3.heap.size + 1 < _; omega)).trans y0, (BV14.out.cell (p := ⟨w3.heap.size + 1, 1, none⟩) (by show w3.heap.size + 1 < _; omega)).trans y1⟩ (fun hS2_ => ?_)
        clear hK_ hS_; have hS_ := hS2_; clear hS2_
        (try simp only [Act.put, List.setIfInBounds_toArray, List.set_cons_zero, List.set_cons_succ])
        refine wpAnyH_ready (rs := [2, 8]) (by kernel_rfl) (by simp) ?_
        refine (AllReadyH.cons (o := _) (by (simp only [List.getElem?_toArray, List.getElem?_cons_succ, List.getElem?_cons_zero]); rfl) (fun K_ hK_ => ?_) (AllReadyH.cons (o := _) (by (simp only [List.getElem?_toArray, List.getElem?_cons_succ, List.getElem?_cons_zero]); rfl) (fun K_ hK_ => ?_) AllReadyH.nil))
        · have SRC15 := srcRow (B := B) (d := d) (HDV.out.later BV14.out).row (by rw [rrcells_len, HDV.out.len])
          have hzw15 := BV14.out.size
          refine step_appZ 3 (by omega) (by rfl) _ _ _ (by rfl) V.heap.size 72 i2 _ 64 Tryz.underlying25 HI2.out HZ2.out HSZ2.out HYY2.out rfl (.slice (some ⟨V13.heap.size, 0, none⟩) 0 0) 0 [] (by rfl) RY14.out B k d (rrcells rs) (by rfl) SRC15 (rrcells_one rs) (by unfold maxLen; omega) (by omega) BV14.out.size ?_
          intro q15 V15 OW15 G15
          have RY15 := Lib.hid (show V15.ownsRow V.heap.size 72 3 q15 k (rrcells rs) by rw [Nat.zero_add, List.nil_append] at OW15; exact OW15)
          have BV15 := Lib.hid (BV14.out.grown G15 BV14.out.size (fun g hg => (RY14.out.lt g hg).1))
          have hzg15 : V14.heap.size ≤ V15.heap.size := G15.size
          have TP15 := Lib.hid (TP14.out.kept G15 (own_kind RY14.out TP14.out (by decide)))
          clear OW15 G15 SRC15
          refine hK_.out _ _ ⟨(BV15.out.cell (p := ⟨w3.heap.size + 1, 0, none⟩) (by show w3.heap.size + 1 < _; omega)).trans y0, (BV15.out.cell (p := ⟨w3.heap.size + 1, 1, none⟩) (by show w3.heap.size + 1 < _; omega)).trans y1⟩ (fun hS2_ => ?_)
          clear hK_ hS_; have hS_ := hS2_; clear hS2_
          (try simp only [Act.put, List.setIfInBounds_toArray, List.set_cons_zero, List.set_cons_succ])
          refine wpAnyH_ready (rs := [8]) (by kernel_rfl) (by simp) ?_
          refine AllReadyH.cons (o := _) (by (simp only [List.getElem?_toArray, List.getElem?_cons_succ, List.getElem?_cons_zero]); rfl) (fun K_ hK_ => ?_) AllReadyH.nil
          rw [if_pos (by rfl)]
          go_simp
          have BV16 := Lib.hid (belowThen BV15.out (below1 V15 (.cells #[.string ⟨#[122, 122, 122]⟩, .slice (some ⟨w3.heap.size, 0, none⟩) 1 1, .slice (some ⟨V.heap.size, 0, none⟩) 1 1] 72)))
          have hzb16 := BV15.out.size
          have RY16 := Lib.hid (RY15.out.alloc (.cells #[.string ⟨#[122, 122, 122]⟩, .slice (some ⟨w3.heap.size, 0, none⟩) 1 1, .slice (some ⟨V.heap.size, 0, none⟩) 1 1] 72))
          have TP16 := Lib.hid (TP15.out.alloc (.cells #[.string ⟨#[122, 122, 122]⟩, .slice (some ⟨w3.heap.size, 0, none⟩) 1 1, .slice (some ⟨V.heap.size, 0, none⟩) 1 1] 72))
          have TR16 := Lib.hid (Blk.new V15 72 #[.string ⟨#[122, 122, 122]⟩, .slice (some ⟨w3.heap.size, 0, none⟩) 1 1, .slice (some ⟨V.heap.size, 0, none⟩) 1 1])
          have hzs16 : (V15.alloc (.cells #[.string ⟨#[122, 122, 122]⟩, .slice (some ⟨w3.heap.size, 0, none⟩) 1 1, .slice (some ⟨V.heap.size, 0, none⟩) 1 1] 72)).heap.size ≤ V15.heap.size + 1 ∧ V15.heap.size + 1 ≤ (V15.alloc (.cells #[.string ⟨#[122, 122, 122]⟩, .slice (some ⟨w3.heap.size, 0, none⟩) 1 1, .slice (some ⟨V.heap.size, 0, none⟩) 1 1] 72)).heap.size := by simp
          obtain ⟨V16, hV16⟩ : ∃ X, V15.alloc (.cells #[.string ⟨#[122, 122, 122]⟩, .slice (some ⟨w3.heap.size, 0, none⟩) 1 1, .slice (some ⟨V.heap.size, 0, none⟩) 1 1] 72) = X := ⟨_, rfl⟩
          rw [hV16] at BV16 RY16 TP16 TR16 hzs16 ⊢
          clear hV16
          refine hK_.out _ _ ⟨(BV16.out.cell (p := ⟨w3.heap.size + 1, 0, none⟩) (by show w3.heap.size + 1 < _; omega)).trans y0, (BV16.out.cell (p := ⟨w3.heap.size + 1, 1, none⟩) (by show w3.heap.size + 1 < _; omega)).trans y1⟩ (fun hS2_ => ?_)
          clear hK_ hS_; have hS_ := hS2_; clear hS2_
          (try simp only [Act.put, List.setIfInBounds_toArray, List.set_cons_zero, List.set_cons_succ])
          refine wpAnyH_ready (rs := [9]) (by kernel_rfl) (by simp) ?_
          refine AllReadyH.cons (o := _) (by (simp only [List.getElem?_toArray, List.getElem?_cons_succ, List.getElem?_cons_zero]); rfl) (fun K_ hK_ => ?_) AllReadyH.nil
          have hzp17 : V.heap.size ≤ V16.heap.size := BV16.out.size
          refine step_appZ 3 (by omega) (by rfl) _ _ _ (by rfl) V.heap.size 72 i2 _ 64 Tryz.underlying25 HI2.out HZ2.out HSZ2.out HYY2.out rfl q15 k (rrcells rs) (by rfl) RY16.out (some ⟨V15.heap.size, 0, none⟩) 1 1 [.string ⟨#[122, 122, 122]⟩, .slice (some ⟨w3.heap.size, 0, none⟩) 1 1, .slice (some ⟨V.heap.size, 0, none⟩) 1 1] (by rfl) (srcOneP _ _ _ _ _ _ TR16.out) (by simp [Value.oneCell']) (by unfold maxLen; omega) (by omega) BV16.out.size ?_
          intro q17 V17 OW17 G17
          obtain ⟨C, e, rfl, HI9, BW9⟩ := zz_end HLS.out HDV.out HHV.out hwV BV16.out (P := V.heap.size) (by omega) TP16.out RY16.out OW17 G17
          have BV17 := Lib.hid BW9
          have HI9 := Lib.hid HI9
          clear OW17 G17 BW9
          refine hK_.out _ _ ⟨(BV17.out.cell (p := ⟨w3.heap.size + 1, 0, none⟩) (by show w3.heap.size + 1 < _; omega)).trans y0, (BV17.out.cell (p := ⟨w3.heap.size + 1, 1, none⟩) (by show w3.heap.size + 1 < _; omega)).trans y1⟩ (fun hS2_ => ?_)
          clear hK_ hS_; have hS_ := hS2_; clear hS2_
          (try simp only [Act.put, List.setIfInBounds_toArray, List.set_cons_zero, List.set_cons_succ])
          refine takeV (i := 10) (v := .slice C (k + 1) e) (by (simp only [List.getElem?_toArray, List.getElem?_cons_succ, List.getElem?_cons_zero]); rfl) (by kernel_rfl) (by kernel_rfl) (by kernel_rfl) (by rfl) (fun _ _ _ h => h) (Or.inl ⟨by rfl, ?_⟩) hS_ (by (simp only [List.setIfInBounds_toArray, List.set_cons_succ, List.set_cons_zero]); rfl) ?_
          · intro w_ hSw_; (try dsimp only at hSw_); go_simp
          refine wpAnyH_done (by kernel_rfl) ?_ _
          exact HREST.out _ _ _ _ _ _ _ _ _ _ _ _ _ _ _ _ _ _ _ _ _ _ _ _ _ _ _ _ _ _ _ _ _ _ _ _ _ _ _ _ _ _ _ _ _ _ _ _ _ _ _ _ _ _ _ _ _ _ _ _ _ _ _ _ _ _ _ _ _ _ _ _ C e V17 (belowThen HV3.out BV17.out) HI9.out
        · rw [if_pos (by rfl)]
          go_simp
          have BV18 := Lib.hid (belowThen BV14.out (below1 V14 (.cells #[.string ⟨#[122, 122, 122]⟩, .slice (some ⟨w3.heap.size, 0, none⟩) 1 1, .slice (some ⟨V.heap.size, 0, none⟩) 1 1] 72)))
          have hzb18 := BV14.out.size
          have RY18 := Lib.hid (RY14.out.alloc (.cells #[.string ⟨#[122, 122, 122]⟩, .slice (some ⟨w3.heap.size, 0, none⟩) 1 1, .slice (some ⟨V.heap.size, 0, none⟩) 1 1] 72))
          have TP18 := Lib.hid (TP14.out.alloc (.cells #[.string ⟨#[122, 122, 122]⟩, .slice (some ⟨w3.heap.size, 0, none⟩) 1 1, .slice (some ⟨V.heap.size, 0, none⟩) 1 1] 72))
          have TR18 := Lib.hid (Blk.new V14 72 #[.string ⟨#[122, 122, 122]⟩, .slice (some ⟨w3.heap.size, 0, none⟩) 1 1, .slice (some ⟨V.heap.size, 0, none⟩) 1 1])
          have hzs18 : (V14.alloc (.cells #[.string ⟨#[122, 122, 122]⟩, .slice (some ⟨w3.heap.size, 0, none⟩) 1 1, .slice (some ⟨V.heap.size, 0, none⟩) 1 1] 72)).heap.size ≤ V14.heap.size + 1 ∧ V14.heap.size + 1 ≤ (V14.alloc (.cells #[.string ⟨#[122, 122, 122]⟩, .slice (some ⟨w3.heap.size, 0, none⟩) 1 1, .slice (some ⟨V.heap.size, 0, none⟩) 1 1] 72)).heap.size := by simp
          obtain ⟨V18, hV18⟩ : ∃ X, V14.alloc (.cells #[.string ⟨#[122, 122, 122]⟩, .slice (some ⟨w3.heap.size, 0, none⟩) 1 1, .slice (some ⟨V.heap.size, 0, none⟩) 1 1] 72) = X := ⟨_, rfl⟩
          rw [hV18] at BV18 RY18 TP18 TR18 hzs18 ⊢
          clear hV18
          refine hK_.out _ _ ⟨(BV18.out.cell (p := ⟨w3.heap.size + 1, 0, none⟩) (by show w3.heap.size + 1 < _; omega)).trans y0, (BV18.out.cell (p := ⟨w3.heap.size + 1, 1, none⟩) (by show w3.heap.size + 1 < _; omega)).trans y1⟩ (fun hS2_ => ?_)
          clear hK_ hS_; have hS_ := hS2_; clear hS2_
          (try simp only [Act.put, List.setIfInBounds_toArray, List.set_cons_zero, List.set_cons_succ])
          refine wpAnyH_ready (rs := [2]) (by kernel_rfl) (by simp) ?_
          refine AllReadyH.cons (o := _) (by (simp only [List.getElem?_toArray, List.getElem?_cons_succ, List.getElem?_cons_zero]); rfl) (fun K_ hK_ => ?_) AllReadyH.nil
          have SRC19 := srcRow (B := B) (d := d) (HDV.out.later BV18.out).row (by rw [rrcells_len, HDV.out.len])
          have hzw19 := BV18.out.size
          refine step_appZ 3 (by omega) (by rfl) _ _ _ (by rfl) V.heap.size 72 i2 _ 64 Tryz.underlying25 HI2.out HZ2.out HSZ2.out HYY2.out rfl (.slice (some ⟨V13.heap.size, 0, none⟩) 0 0) 0 [] (by rfl) RY18.out B k d (rrcells rs) (by rfl) SRC19 (rrcells_one rs) (by unfold maxLen; omega) (by omega) BV18.out.size ?_
          intro q19 V19 OW19 G19
          have RY19 := Lib.hid (show V19.ownsRow V.heap.size 72 3 q19 k (rrcells rs) by rw [Nat.zero_add, List.nil_append] at OW19; exact OW19)
          have BV19 := Lib.hid (BV18.out.grown G19 BV18.out.size (fun g hg => (RY18.out.lt g hg).1))
          have hzg19 : V18.heap.size ≤ V19.heap.size := G19.size
          have TP19 := Lib.hid (TP18.out.kept G19 (own_kind RY18.out TP18.out (by decide)))
          have TR19 := Lib.hid (TR18.out.kept G19 (fun e => by simp [Value.ownBlock] at e; omega))
          clear OW19 G19 SRC19
          refine hK_.out _ _ ⟨(BV19.out.cell (p := ⟨w3.heap.size + 1, 0, none⟩) (by show w3.heap.size + 1 < _; omega)).trans y0, (BV19.out.cell (p := ⟨w3.heap.size + 1, 1, none⟩) (by show w3.heap.size + 1 < _; omega)).trans y1⟩ (fun hS2_ => ?_)
          clear hK_ hS_; have hS_ := hS2_; clear hS2_
          (try simp only [Act.put, List.setIfInBounds_toArray, List.set_cons_zero, List.set_cons_succ])
          refine wpAnyH_ready (rs := [9]) (by kernel_rfl) (by simp) ?_
          refine AllReadyH.cons (o := _) (by (simp only [List.getElem?_toArray, List.getElem?_cons_succ, List.getElem?_cons_zero]); rfl) (fun K_ hK_ => ?_) AllReadyH.nil
          have hzp20 : V.heap.size ≤ V19.heap.size := BV19.out.size
          refine step_appZ 3 (by omega) (by rfl) _ _ _ (by rfl) V.heap.size 72 i2 _ 64 Tryz.underlying25 HI2.out HZ2.out HSZ2.out HYY2.out rfl q19 k (rrcells rs) (by rfl) RY19.out (some ⟨V14.heap.size, 0, none⟩) 1 1 [.string ⟨#[122, 122, 122]⟩, .slice (some ⟨w3.heap.size, 0, none⟩) 1 1, .slice (some ⟨V.heap.size, 0, none⟩) 1 1] (by rfl) (srcOneP _ _ _ _ _ _ TR19.out) (by simp [Value.oneCell']) (by unfold maxLen; omega) (by omega) BV19.out.size ?_
          intro q20 V20 OW20 G20
          obtain ⟨C, e, rfl, HI9, BW9⟩ := zz_end HLS.out HDV.out HHV.out hwV BV19.out (P := V.heap.size) (by omega) TP19.out RY19.out OW20 G20
          have BV20 := Lib.hid BW9
          have HI9 := Lib.hid HI9
          clear OW20 G20 BW9
          refine hK_.out _ _ ⟨(BV20.out.cell (p := ⟨w3.heap.size + 1, 0, none⟩) (by show w3.heap.size + 1 < _; omega)).trans y0, (BV20.out.cell (p := ⟨w3.heap.size + 1, 1, none⟩) (by show w3.heap.size + 1 < _; omega)).trans y1⟩ (fun hS2_ => ?_)
          clear hK_ hS_; have hS_ := hS2_; clear hS2_
          (try simp only [Act.put, List.setIfInBounds_toArray, List.set_cons_zero, List.set_cons_succ])
          refine takeV (i := 10) (v := .slice C (k + 1) e) (by (simp only [List.getElem?_toArray, List.getElem?_cons_succ, List.getElem?_cons_zero]); rfl) (by kernel_rfl) (by kernel_rfl) (by kernel_rfl) (by rfl) (fun _ _ _ h => h) (Or.inl ⟨by rfl, ?_⟩) hS_ (by (simp only [List.setIfInBounds_toArray, List.set_cons_succ, List.set_cons_zero]); rfl) ?_
          · intro w_ hSw_; (try dsimp only at hSw_); go_simp
          refine wpAnyH_done (by kernel_rfl) ?_ _
          exact HREST.out _ _ _ _ _ _ _ _ _ _ _ _ _ _ _ _ _ _ _ _ _ _ _ _ _ _ _ _ _ _ _ _ _ _ _ _ _ _ _ _ _ _ _ _ _ _ _ _ _ _ _ _ _ _ _ _ _ _ _ _ _ _ _ _ _ _ _ _ _ _ _ _ C e V20 (belowThen HV3.out BV20.out) HI9.out
      · rw [if_pos (by rfl)]
        go_simp
        have BV21 := Lib.hid (belowThen BV13.out (below1 V13 (.cells #[.string ⟨#[122, 122, 122]⟩, .slice (some ⟨w3.heap.size, 0, none⟩) 1 1, .slice (some ⟨V.heap.size, 0, none⟩) 1 1] 72)))
        have hzb21 := BV13.out.size
        have TP21 := Lib.hid (TP13.out.alloc (.cells #[.string ⟨#[122, 122, 122]⟩, .slice (some ⟨w3.heap.size, 0, none⟩) 1 1, .slice (some ⟨V.heap.size, 0, none⟩) 1 1] 72))
        have TR21 := Lib.hid (Blk.new V13 72 #[.string ⟨#[122, 122, 122]⟩, .slice (some ⟨w3.heap.size, 0, none⟩) 1 1, .slice (some ⟨V.heap.size, 0, none⟩) 1 1])
        have hzs21 : (V13.alloc (.cells #[.string ⟨#[122, 122, 122]⟩, .slice (some ⟨w3.heap.size, 0, none⟩) 1 1, .slice (some ⟨V.heap.size, 0, none⟩) 1 1] 72)).heap.size ≤ V13.heap.size + 1 ∧ V13.heap.size + 1 ≤ (V13.alloc (.cells #[.string ⟨#[122, 122, 122]⟩, .slice (some ⟨w3.heap.size, 0, none⟩) 1 1, .slice (some ⟨V.heap.size, 0, none⟩) 1 1] 72)).heap.size := by simp
        obtain ⟨V21, hV21⟩ : ∃ X, V13.alloc (.cells #[.string ⟨#[122, 122, 122]⟩, .slice (some ⟨w3.heap.size, 0, none⟩) 1 1, .slice (some ⟨V.heap.size, 0, none⟩) 1 1] 72) = X := ⟨_, rfl⟩
        rw [hV21] at BV21 TP21 TR21 hzs21 ⊢
        clear hV21
        refine hK_.out _ _ ⟨(BV21.out.cell (p := ⟨w3.heap.size + 1, 0, none⟩) (by show w3.heap.size + 1 < _; omega)).trans y0, (BV21.out.cell (p := ⟨w3.heap.size + 1, 1, none⟩) (by show w3.heap.size + 1 < _; omega)).trans y1⟩ (fun hS2_ => ?_)
        clear hK_ hS_; have hS_ := hS2_; clear hS2_
        (try simp only [Act.put, List.setIfInBounds_toArray, List.set_cons_zero, List.set_cons_succ])
        refine wpAnyH_ready (rs := [0]) (by kernel_rfl) (by simp) ?_
        refine AllReadyH.cons (o := _) (by (simp only [List.getElem?_toArray, List.getElem?_cons_zero]); rfl) (fun K_ hK_ => ?_) AllReadyH.nil
        rw [if_pos (by rfl)]
        go_simp
        have BV22 := Lib.hid (belowThen BV21.out (below1 V21 (.cells #[] 72)))
        have hzb22 := BV21.out.size
        have TP22 := Lib.hid (TP21.out.alloc (.cells #[] 72))
        have TR22 := Lib.hid (TR21.out.alloc (.cells #[] 72))
        have RY22 := Lib.hid (own_empty3 V21 72 V.heap.size hzb22)
        have hzs22 : (V21.alloc (.cells #[] 72)).heap.size ≤ V21.heap.size + 1 ∧ V21.heap.size + 1 ≤ (V21.alloc (.cells #[] 72)).heap.size := by simp
        obtain ⟨V22, hV22⟩ : ∃ X, V21.alloc (.cells #[] 72) = X := ⟨_, rfl⟩
        rw [hV22] at BV22 TP22 TR22 RY22 hzs22 ⊢
        clear hV22
        refine hK_.out _ _ ⟨(BV22.out.cell (p := ⟨w3.heap.size + 1, 0, none⟩) (by show w3.heap.size + 1 < _; omega)).trans y0, (BV22.out.cell (p := ⟨w3.heap.size + 1, 1, none⟩) (by show w3.heap.size + 1 < _; omega)).trans y1⟩ (fun hS2_ => ?_)
        clear hK_ hS_; have hS_ := hS2_; clear hS2_
        (try simp only [Act.put, List.setIfInBounds_toArray, List.set_cons_zero, List.set_cons_succ])
        refine wpAnyH_ready (rs := [2]) (by kernel_rfl) (by simp) ?_
        refine AllReadyH.cons (o := _) (by (simp only [List.getElem?_toArray, List.getElem?_cons_succ, List.getElem?_cons_zero]); rfl) (fun K_ hK_ => ?_) AllReadyH.nil
        have SRC23 := srcRow (B := B) (d := d) (HDV.out.later BV22.out).row (by rw [rrcells_len, HDV.out.len])
        have hzw23 := BV22.out.size
        refine step_appZ 3 (by omega) (by rfl) _ _ _ (by rfl) V.heap.size 72 i2 _ 64 Tryz.underlying25 HI2.out HZ2.out HSZ2.out HYY2.out rfl (.slice (some ⟨V21.heap.size, 0, none⟩) 0 0) 0 [] (by rfl) RY22.out B k d (rrcells rs) (by rfl) SRC23 (rrcells_one rs) (by unfold maxLen; omega) (by omega) BV22.out.size ?_
        intro q23 V23 OW23 G23
        have RY23 := Lib.hid (show V23.ownsRow V.heap.size 72 3 q23 k (rrcells rs) by rw [Nat.zero_add, List.nil_append] at OW23; exact OW23)
        have BV23 := Lib.hid (BV22.out.grown G23 BV22.out.size (fun g hg => (RY22.out.lt g hg).1))
        have hzg23 : V22.heap.size ≤ V23.heap.size := G23.size
        have TP23 := Lib.hid (TP22.out.kept G23 (own_kind RY22.out TP22.out (by decide)))
        have TR23 := Lib.hid (TR22.out.kept G23 (fun e => by simp [Value.ownBlock] at e; omega))
        clear OW23 G23 SRC23
        refine hK_.out _ _ ⟨(BV23.out.cell (p := ⟨w3.heap.size + 1, 0, none⟩) (by show w3.heap.size + 1 < _; omega)).trans y0, (BV23.out.cell (p := ⟨w3.heap.size + 1, 1, none⟩) (by show w3.heap.size + 1 < _; omega)).trans y1⟩ (fun hS2_ => ?_)
        clear hK_ hS_; have hS_ := hS2_; clear hS2_
        (try simp only [Act.put, List.setIfInBounds_toArray, List.set_cons_zero, List.set_cons_succ])
        refine wpAnyH_ready (rs := [9]) (by kernel_rfl) (by simp) ?_
        refine AllReadyH.cons (o := _) (by (simp only [List.getElem?_toArray, List.getElem?_cons_succ, List.getElem?_cons_zero]); rfl) (fun K_ hK_ => ?_) AllReadyH.nil
        have hzp24 : V.heap.size ≤ V23.heap.size := BV23.out.size
        refine step_appZ 3 (by omega) (by rfl) _ _ _ (by rfl) V.heap.size 72 i2 _ 64 Tryz.underlying25 HI2.out HZ2.out HSZ2.out HYY2.out rfl q23 k (rrcells rs) (by rfl) RY23.out (some ⟨V13.heap.size, 0, none⟩) 1 1 [.string ⟨#[122, 122, 122]⟩, .slice (some ⟨w3.heap.size, 0, none⟩) 1 1, .slice (some ⟨V.heap.size, 0, none⟩) 1 1] (by rfl) (srcOneP _ _ _ _ _ _ TR23.out) (by simp [Value.oneCell']) (by unfold maxLen; omega) (by omega) BV23.out.size ?_
        intro q24 V24 OW24 G24
        obtain ⟨C, e, rfl, HI9, BW9⟩ := zz_end HLS.out HDV.out HHV.out hwV BV23.out (P := V.heap.size) (by omega) TP23.out RY23.out OW24 G24
        have BV24 := Lib.hid BW9
        have HI9 := Lib.hid HI9
        clear OW24 G24 BW9
        refine hK_.out _ _ ⟨(BV24.out.cell (p := ⟨w3.heap.size + 1, 0, none⟩) (by show w3.heap.size + 1 < _; omega)).trans y0, (BV24.out.cell (p := ⟨w3.heap.size + 1, 1, none⟩) (by show w3.heap.size + 1 < _; omega)).trans y1⟩ (fun hS2_ => ?_)
        clear hK_ hS_; have hS_ := hS2_; clear hS2_
        (try simp only [Act.put, List.setIfInBounds_toArray, List.set_cons_zero, List.set_cons_succ])
        refine takeV (i := 10) (v := .slice C (k + 1) e) (by (simp only [List.getElem?_toArray, List.getElem?_cons_succ, List.getElem?_cons_zero]); rfl) (by kernel_rfl) (by kernel_rfl) (by kernel_rfl) (by rfl) (fun _ _ _ h => h) (Or.inl ⟨by rfl, ?_⟩) hS_ (by (simp only [List.setIfInBounds_toArray, List.set_cons_succ, List.set_cons_zero]); rfl) ?_
        · intro w_ hSw_; (try dsimp only at hSw_); go_simp
        refine wpAnyH_done (by kernel_rfl) ?_ _
        exact HREST.out _ _ _ _ _ _ _ _ _ _ _ _ _ _ _ _ _ _ _ _ _ _ _ _ _ _ _ _ _ _ _ _ _ _ _ _ _ _ _ _ _ _ _ _ _ _ _ _ _ _ _ _ _ _ _ _ _ _ _ _ _ _ _ _ _ _ _ _ _ _ _ _ C e V24 (belowThen HV3.out BV24.out) HI9.out
  · have hI : ¬ (z : Int) = 0 := by omega
    have hzb : ((z : Int) != 0) = true := by simpa using hI
    have hze : ((z : Int) == (z : Int)) = true := by simp
    have hzg : (0 : Int) ≤ (z : Int) := by omega
    have hzl : (z : Int) ≤ 5 := by omega
    go_wp2_with fail
    refine (specProgCheck_any B k d ls _ HR3.out).mono ?_; rintro e w4 ⟨rfl, hb4⟩
    rw [HZ.out]
    have HB4 := Lib.hid (belowThen HB3.out hb4)
    clear hb4
    go_wp2
    go_ret; exact ⟨by simp, HB4.out⟩

end Go.Proofs.YtnhbnhibphjljaaGreatDoor

namespace Go.Proofs.YtnhbnhibphjljaaGreatDoor
open Go.RowKit Go.ChangeShapes Go.WideShapes Go.ChangeAt

set_option maxRecDepth 100000 in
set_option maxHeartbeats 1000000 in
theorem progCheck_lifted (os : Os) (started : os.Started) (H : Type) (enc : TypeId × Value → H) :
    ReturnsInHanded {} Tryz.checked os 11 .any (fun w args => (Rows.fnProgCheckSpec.pre enc Tryz.prog Tryz.f11 [] false w args ∧ laidMetH Tryz.prog laidE w) ∧ sizedMet enc Tryz.prog Tryz.f11 (OpenSpec.ofChange Rows.fnProgCheckSpec) false w args)
      (Rows.fnProgCheckSpec.post enc Tryz.prog Tryz.f11 false true false false) := by
  refine returnsInHanded_of_change_and (C := Tryz.checked) (X := fun w _ => laidMetH Tryz.prog laidE w) (fun _ _ _ hh h => h.of_heap hh) Tryz.own started (by kernel_rfl) Tryz.func11
    (ChangeSpec.witness_shaped (enc := enc) (C := Tryz.checked) (os := os) (X := fun w _ => laidMetH Tryz.prog laidE w) false (World.doorLaid Tryz.prog 400 os) #[.slice none 0 0] 8 rfl (World.shaped_of_RefB (by kernel_rfl) (by kernel_rfl)) (by kernel_rfl) (by kernel_rfl) (by kernel_rfl) (err_met os _)) ?_
  intro W base args ds gs before hval0 hW _ _ hL _
  have hval : ∀ (j : Nat) t v, Tryz.f11.params[j]? = some t → args[j]? = some v → Value.okWide Tryz.prog W .any base t v := hval0
  have hW' := hW
  have hlt : ∀ x ∈ before, x.block < W.heap.size := fun x hx => hW.lt x hx
  obtain ⟨p, q, hA0, hV, hpq, hfz, hnd⟩ := hW
  have hA : DataW.TrodAll enc Tryz.prog W 0 (fun _ => true) true Tryz.f11.params.toList args.toList ds p := hA0
  rw [Tryz.params11] at hA hval
  obtain ⟨v0, d0, hargs, rfl, h0⟩ := trodAll_one hA
  obtain ⟨rfl, rfl⟩ := trodVars_none hV
  simp only [List.append_nil] at hpq
  subst hpq
  have hh0 := Lib.hid h0
  have hk := errKind_of_laid hL
  obtain ⟨A0, n0, c0, rfl, wt0⟩ := open_bytes (hval 0 61 v0 rfl (by rw [hargs]; rfl)) h0
  subst hargs
  clear hA0 hval0
  refine (checkLaw_any A0 n0 c0 W wt0 hk).mono fun e W' ⟨he, hb⟩ => ?_
  subst he
  exact ⟨_, rfl, post_true (pv := []) hW' (trodAll_mk1 (shut_bool Tryz.underlying4 true)) (trodAll_mk1 (Below.trod Tryz.laidOut (by kernel_rfl) (of_decide_eq_true (by kernel_rfl)) hh0.out hb hlt)) rfl hb⟩

theorem progCheck_in : (Rows.fnProgCheckRow.inPlace == Tryz.prog.inPlace 11) = true := by kernel_rfl
theorem progCheck_un : (Rows.fnProgCheckRow.unfollowed == Tryz.prog.unfollowed 11) = true := by kernel_rfl
theorem progCheck_rec : (Rows.fnProgCheckRow.recurses == Tryz.prog.recurses 11) = true := by kernel_rfl
theorem progCheck_nam : (Rows.fnProgCheckRow.named == Tryz.prog.varsNamed 11) = true := by kernel_rfl
theorem progCheck_goes : false = Rows.fnProgCheckRow.goesBy Tryz.prog := by kernel_rfl
theorem progCheck_named : Tryz.pinned.checked.prog.funcNamed Rows.fnProgCheckRow.func = some 11 := by kernel_rfl
theorem progCheck_joined : joinedFacts Tryz.prog 11 Tryz.f11 Rows.fnProgCheckSpec Rows.fnProgCheckRow = true :=
  joined_of (by kernel_rfl) Tryz.laidOut Tryz.c_rowed (by kernel_rfl) progCheck_in progCheck_un progCheck_rec progCheck_nam (by kernel_rfl) Tryz.c_keys rfl Tryz.c_heard Tryz.c_enter Tryz.c_lifted (by kernel_rfl)

theorem progCheck_row : Rows.FnProgCheckSaid :=
  OpenClaim.holds_of_wide 11 Tryz.f11 rfl rfl rfl rfl rfl rfl rfl ⟨rfl, rfl, rfl, rfl, rfl⟩ rfl rfl rfl rfl rfl progCheck_named Tryz.func11 progCheck_joined
    (of_decide_eq_true (by kernel_rfl)) (by unfold Func.isWrapper; rw [if_neg (of_decide_eq_false (by kernel_rfl))]; exact ⟨rfl, rfl⟩)
    (fun os started H enc _ => progCheck_lifted os started H enc)

theorem progCheck_holds : Rows.FnProgCheckCardSaid :=
  Claim7.holds_tied_plain_at .later [] [.handle] true _ true
    progCheck_row (fun _ h => by cases h) (by kernel_rfl) (fun _ h => by cases h) fnProgCheck_row_tie rfl ⟨rfl, rfl⟩ Tryz.c_main rfl
    (fun f fn hf hfn => by
      obtain rfl : f = 11 := Option.some.inj (progCheck_named.symm.trans hf) |>.symm
      obtain rfl : fn = Tryz.f11 := (Option.some.inj (Tryz.func11.symm.trans hfn)).symm
      exact ⟨Tryz.c_looks, fun j t ht => by
        rw [Tryz.params11] at ht
        have h3 : t = 61 := by
          rcases j with _ | j
          · simpa using ht.symm
          · simp at ht
        subst h3
        exact (show Tryz.prog.wantsStandIn 61 = false by kernel_rfl)⟩)
    progCheck_goes

end Go.Proofs.YtnhbnhibphjljaaGreatDoor

