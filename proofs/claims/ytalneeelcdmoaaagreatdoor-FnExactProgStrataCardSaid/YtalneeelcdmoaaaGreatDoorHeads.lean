/-
  Which names are names of heads, and the least level that a body allows, as the program works them out.
  The least level that a rule's body allows, as the program works it out.
-/
import Derived.Test.YtalneeelcdmoaaaGreatDoorPlaces
import Derived.WalkLawsBesides
namespace Go.Proofs.YtalneeelcdmoaaaGreatDoor
open Go.RowKit Go.Shelf Go.Maps Go.WideMaps
attribute [local go_sem] Oper.semAt_some

/-- A row of bools. -/
def BoolRow (w : World) (g n : Nat) (f : Nat → Bool) : Prop := w.rowIs g 4 n (fun i => .bool (f i))

theorem BoolRow.set {w : World} {g n : Nat} {f : Nat → Bool} (h : BoolRow w g n f) (i : Nat) (b : Bool) : BoolRow (w.setCell ⟨g, i, none⟩ (.bool b)) g n (fun j => if j = i then b else f j) := by
  refine (World.rowIs.set h i (.bool b)).congr fun j _ => ?_
  by_cases e : j = i <;> simp [e]
theorem BoolRow.keep {w w' : World} {g n : Nat} {f : Nat → Bool} (h : BoolRow w g n f) (hk : w'.heap[g]? = w.heap[g]?) : BoolRow w' g n f := World.rowIs.of_block h hk
theorem BoolRow.below {w w' : World} {g n : Nat} {f : Nat → Bool} (h : BoolRow w g n f) (hb : Below w.heap.size w w') : BoolRow w' g n f := h.keep (hb.block g (World.rowIs.lt h))

/-- Is a head's name at this place? -/
def hdF (ps : List (ByteArray × Nat)) (l : List Rl) (i : Nat) : Bool := l.any fun r => decide (lastOf ps r.1.1 = some i)

theorem hdF_step {ps : List (ByteArray × Nat)} {rs : List Rl} {k i : Nat} {r : Rl} (h : rs[k]? = some r) (hl : lastOf ps r.1.1 = some i) : hdF ps (rs.take (k + 1)) = fun j => if j = i then true else hdF ps (rs.take k) j := by
  funext j
  unfold hdF
  rw [List.take_add_one, h, List.any_append]
  by_cases e : j = i
  · subst e; rw [if_pos rfl]; simp [hl]
  · rw [if_neg e]
    have : decide (lastOf ps r.1.1 = some j) = false := by rw [hl]; exact decide_eq_false (fun h => e (by injection h with h; exact h.symm))
    simp [this]

theorem hdF_tells {ps : List (ByteArray × Nat)} {L : List ByteArray} {rs : List Rl} (hP : PlacesOf L ps) {i : Nat} {s : ByteArray} (hi : L[i]? = some s) (hL : ∀ r ∈ rs, r.1.1 ∈ L) : hdF ps rs i = true ↔ ∃ r ∈ rs, r.1.1 = s := by
  unfold hdF
  rw [List.any_eq_true]
  constructor
  · rintro ⟨r, hr, h⟩
    have h := of_decide_eq_true h
    obtain ⟨j, hj⟩ := List.getElem?_of_mem (hL r hr)
    have := hP.1 j _ hj
    rw [this] at h
    injection h with h
    subst h
    rw [hi] at hj
    injection hj with hj
    exact ⟨r, hr, hj.symm⟩
  · rintro ⟨r, hr, rfl⟩
    exact ⟨r, hr, decide_eq_true (hP.1 i _ hi)⟩

def HeadsPost (ps : List (ByteArray × Nat)) (rs : List Rl) (q : Nat) (w : World) (e : Ending) (w' : World) : Prop :=
  e = .returned (.slice (some ⟨w.heap.size + 1, 0, none⟩) q q) ∧ BoolRow w' (w.heap.size + 1) q (hdF ps rs) ∧ Below w.heap.size w w'

theorem Tryz.infoBool : (Tryz.prog.info? 4).map (fun i => (i.zero, i.size, i.bytes)) = some (some (.bool false), 1, 1) := by kernel_rfl

set_option maxRecDepth 100000 in
set_option maxHeartbeats 4000000 in
theorem headPlaces_any (A : Option Addr) (m c : Nat) (rs : List Rl) (w : World) (h : IsRules w 0 w.heap.size A m c rs) (hm : m ≤ 8) (Av : Option Addr) (q cv b N : Nat) (ps : List (ByteArray × Nat)) (L : List ByteArray)
    (hown : w.ownsMap Tryz.prog 9 (plainElem Tryz.prog 3) b N (imap ps)) (hP : PlacesOf L ps) (hq : L.length = q) (hq40 : q ≤ 40) (hL : ∀ r ∈ rs, r.1.1 ∈ L) :
    Calls Tryz.prog 102 #[.slice A m c, .agg #[.slice Av q cv, .map (some b)]] w (HeadsPost ps rs q w) := by
  have HL := Lib.hid h.1
  have H := Lib.hid h; have HP := Lib.hid hP; have HQ := Lib.hid hq; have HLL := Lib.hid hL
  clear h hP hq hL
  obtain ⟨i0, hi, hz, hsz, hby⟩ := info_parts Tryz.infoBool
  have hmk : ∀ W : World, (Instr.makeSlice 101 (.int .i64 (q : Int)) (.int .i64 (q : Int))).run Tryz.prog W = .ok (.slice (some ⟨W.heap.size, 0, none⟩) q q) (W.alloc (.cells (madeCells #[.bool false] (q * 1)) 4)) := by
    intro W
    have hr := run_make (P := Tryz.prog) W 101 4 i0 _ Tryz.underlying101 hi hz .i64 .i64 q q (by omega) (Int.le_refl _) (by rw [hby]; omega) (by omega)
    rw [hsz] at hr
    exact hr
  clear hi hz hsz hby
  refine (callsIn_wide (n := 6)).1 ?_
  refine callsIn_of_wp Tryz.func102 rfl trivial ?_ rfl
  simp only [Tryz.ntmps102, List.size_toArray, List.length_cons, List.length_nil, Nat.reduceAdd, Nat.reduceSub, Array.replicate_succ, Array.replicate_zero, List.push_toArray, List.append_toArray, List.nil_append, List.cons_append]
  gi_wp2
  have X0 := (Blk.new w 94 #[.slice Av q cv, .map (some b)]).alloc (.cells (madeCells #[.bool false] q) 4)
  have hb2 := below2 w (.cells #[.slice Av q cv, .map (some b)] 94) (.cells (madeCells #[.bool false] q) 4)
  have R0 : BoolRow ((w.alloc (.cells #[.slice Av q cv, .map (some b)] 94)).alloc (.cells (madeCells #[.bool false] q) 4)) (w.heap.size + 1) q (hdF ps (rs.take 0)) := by
    have := World.rowIs_made (w.alloc (.cells #[.slice Av q cv, .map (some b)] 94)) (.bool false) q 4
    rw [show (w.alloc (.cells #[.slice Av q cv, .map (some b)] 94)).heap.size = w.heap.size + 1 by simp] at this
    exact this
  have M0 := (hown.alloc (.cells #[.slice Av q cv, .map (some b)] 94)).alloc (.cells (madeCells #[.bool false] q) 4)
  have hbl := hown.lt
  have HX := Lib.hid X0; have HR := Lib.hid R0; have HM := Lib.hid M0
  clear X0 R0 M0 hmk
  gi_loopw [14] (fun x wr => ∃ k : Nat, k ≤ m ∧ x = .int .i64 (k : Int) ∧ BoolRow wr (w.heap.size + 1) q (hdF ps (rs.take k)) ∧ Blk wr w.heap.size 94 #[.slice Av q cv, .map (some b)] ∧ wr.ownsMap Tryz.prog 9 (plainElem Tryz.prog 3) b N (imap ps) ∧ Below w.heap.size w wr ∧ w.heap.size + 2 ≤ wr.heap.size) (fun x _ => m - (intOf x).toNat)
  case atStart => exact ⟨0, Nat.zero_le _, rfl, HR.out, HX.out, HM.out, hb2, by simp⟩
  case round =>
    obtain ⟨k, hkm, rfl, hR, hX, hM, hb, hwz⟩ := hrel
    have HR2 := Lib.hid hR; have HX2 := Lib.hid hX; have HM2 := Lib.hid hM
    have x1 : wr.cell? ⟨w.heap.size, 1, none⟩ = some (.map (some b)) := hX.cell 1
    have hbs := hb.size
    clear hR hX hM
    by_cases hlt : k < m
    · have hltI : (k : Int) < (m : Int) := by omega
      obtain ⟨p, r, A', n', c', B, mm, d, hA, hpb, hg, d1, d2, d3, d4, d5, d6⟩ := rule_at (H.out.below RuleE.stays hb (Nat.le_refl _)) hlt
      subst hA
      have HG := Lib.hid hg
      clear hg d4 d6
      obtain ⟨i, hi⟩ := List.getElem?_of_mem (HLL.out r (List.mem_of_getElem? HG.out))
      have hiq : i < q := by rw [← HQ.out]; exact (List.getElem?_eq_some_iff.1 hi).1
      have hlo := HP.out.1 i _ hi
      have HLO := Lib.hid hlo
      have hb1 := below1 wr (.cells #[.string r.1.1, .slice A' n' c', .slice B mm d] 65)
      have HM3 := Lib.hid (HM2.out.alloc (.cells #[.string r.1.1, .slice A' n' c', .slice B mm d] 65))
      have HR3 := Lib.hid (HR2.out.below hb1)
      have y1 := cellUp x1
      have c0 : (wr.alloc (.cells #[.string r.1.1, .slice A' n' c', .slice B mm d] 65)).cell? ⟨w.heap.size + 1, i, none⟩ = some (.bool (hdF ps (rs.take k) i)) := World.rowIs.cell HR3.out hiq
      have z0 : (wr.alloc (.cells #[.string r.1.1, .slice A' n' c', .slice B mm d] 65)).frozen? ⟨w.heap.size + 1, i, none⟩ = false := World.rowIs.frozen HR3.out i
      have hiI : (i : Int) < (q : Int) := by omega
      clear hi hlo
      gi_wp2_with (gi_at_lookup; refine lookup_at _ rfl _ _ rfl b N ps rfl HM3.out r.1.1 rfl d2 i (by rw [HLO.out]; rfl) ?_)
      have HE := Lib.hid (hdF_step HG.out HLO.out)
      have hb3 := ((hb.alloc hbs (.cells #[.string r.1.1, .slice A' n' c', .slice B mm d] 65)).setCell (p := ⟨w.heap.size + 1, i, none⟩) (by simp) (.bool true))
      have HX3 := Lib.hid ((HX2.out.alloc (.cells #[.string r.1.1, .slice A' n' c', .slice B mm d] 65)).far (p := ⟨w.heap.size + 1, i, none⟩) (by simp) (.bool true))
      have HM4 := Lib.hid (HM3.out.kept (grownBy_setC _ ⟨w.heap.size + 1, i, none⟩ (.bool true)) (fun e => by injection e with e; simp only at e; omega))
      have HR4 := Lib.hid (HR3.out.set i true)
      clear c0 z0 y1 x1 hb1
      go_roundw
      case rel => exact ⟨k + 1, by omega, by go_num, by rw [HE.out]; exact HR4.out, HX3.out, HM4.out, hb3, by rw [size_setCell]; simp; omega⟩
      case measure => simp [intOf]; omega
    · have hke : k = m := by omega
      subst hke
      have E := Lib.hid (show rs.take k = rs from List.take_of_length_le (by rw [HL.out]; exact Nat.le_refl _))
      have hkk : ¬ (k : Int) < (k : Int) := by omega
      gi_wp2
      go_ret
      exact ⟨rfl, by have := HR2.out; rwa [E.out] at this, hb⟩

end Go.Proofs.YtalneeelcdmoaaaGreatDoor

namespace Go.Proofs.YtalneeelcdmoaaaGreatDoor
open Go.RowKit Go.Shelf Go.Maps Go.WideMaps
attribute [local go_sem] Oper.semAt_some

def placeIn (ps : List (ByteArray × Nat)) (s : ByteArray) : Nat := (lastOf ps s).getD 0

/-- What a part asks, at least. -/
def askF (ps : List (ByteArray × Nat)) (hd : Nat → Bool) (LV : List Nat) (a : Nat) (p : Pt) : Nat :=
  if hd (placeIn ps p.2.1) = true then Nat.max a (at0 LV (placeIn ps p.2.1) + if p.1 then 1 else 0) else a

/-- The least level that a body allows. -/
def leastF (ps : List (ByteArray × Nat)) (hd : Nat → Bool) (LV : List Nat) (qs : List Pt) : Nat := qs.foldl (askF ps hd LV) 0

theorem askF_le {ps : List (ByteArray × Nat)} {hd : Nat → Bool} {LV : List Nat} {a M : Nat} {p : Pt} (ha : a ≤ M + 1) (hl : ∀ i, at0 LV i ≤ M) : askF ps hd LV a p ≤ M + 1 := by
  unfold askF
  have := hl (placeIn ps p.2.1)
  split
  · refine Nat.max_le.2 ⟨ha, ?_⟩
    split <;> omega
  · exact ha

theorem leastF_le {ps : List (ByteArray × Nat)} {hd : Nat → Bool} {LV : List Nat} {M : Nat} (hl : ∀ i, at0 LV i ≤ M) (qs : List Pt) : leastF ps hd LV qs ≤ M + 1 := by
  unfold leastF
  have h : ∀ (qs : List Pt) (a : Nat), a ≤ M + 1 → qs.foldl (askF ps hd LV) a ≤ M + 1 := by
    intro qs
    induction qs with
    | nil => intro a h; exact h
    | cons p qs ih => intro a h; exact ih _ (askF_le h hl)
  exact h qs 0 (Nat.zero_le _)

theorem leastF_step {ps : List (ByteArray × Nat)} {hd : Nat → Bool} {LV : List Nat} {qs : List Pt} {j : Nat} {p : Pt} (h : qs[j]? = some p) : leastF ps hd LV (qs.take (j + 1)) = askF ps hd LV (leastF ps hd LV (qs.take j)) p := fold_step h

theorem askF_no {ps : List (ByteArray × Nat)} {hd : Nat → Bool} {LV : List Nat} {a i : Nat} {p : Pt} (hi : lastOf ps p.2.1 = some i) (h : hd i = false) : askF ps hd LV a p = a := by
  unfold askF placeIn
  rw [hi]
  exact if_neg (by rw [show (some i).getD 0 = i from rfl, h]; decide)

theorem askF_yes {ps : List (ByteArray × Nat)} {hd : Nat → Bool} {LV : List Nat} {a i x : Nat} {p : Pt} (hi : lastOf ps p.2.1 = some i) (h : hd i = true) (hx : at0 LV i + (if p.1 then 1 else 0) = x) : askF ps hd LV a p = Nat.max a x := by
  unfold askF placeIn
  rw [hi, show (some i).getD 0 = i from rfl, if_pos h, hx]

def LeastPost (k : Nat) (w : World) (e : Ending) (w' : World) : Prop := e = .returned (.int .i64 (k : Int)) ∧ Below w.heap.size w w'

set_option maxRecDepth 100000 in
set_option maxHeartbeats 4000000 in
theorem leastLevel_any (nm : ByteArray) (A : Option Addr) (n c : Nat) (B : Option Addr) (m d : Nat) (qs : List Pt) (w : World) (h : IsParts w 0 w.heap.size B m d qs) (hm : m ≤ 4) (Av : Option Addr) (q cv b N : Nat) (ps : List (ByteArray × Nat)) (L : List ByteArray)
    (hown : w.ownsMap Tryz.prog 9 (plainElem Tryz.prog 3) b N (imap ps)) (hP : PlacesOf L ps) (hq : L.length = q) (hL : ∀ p ∈ qs, p.2.1 ∈ L) (gh gl : Nat) (hd : Nat → Bool) (LV : List Nat) (hh : BoolRow w gh q hd) (hlv : IntRow w gl q LV) (hM : ∀ i, at0 LV i ≤ 100) :
    Calls Tryz.prog 103 #[.agg #[.string nm, .slice A n c, .slice B m d], .agg #[.slice Av q cv, .map (some b)], .slice (some ⟨gh, 0, none⟩) q q, .slice (some ⟨gl, 0, none⟩) q q] w (LeastPost (leastF ps hd LV qs) w) := by
  have HL := Lib.hid h.1
  have H := Lib.hid h; have HP := Lib.hid hP; have HQ := Lib.hid hq; have HLL := Lib.hid hL; have HH := Lib.hid hh; have HV := Lib.hid hlv; have HM := Lib.hid hM; have HO := Lib.hid hown
  have hgh := World.rowIs.lt hh; have hgl := hlv.lt
  clear h hP hq hL hh hlv hM hown
  refine (callsIn_wide (n := 6)).1 ?_
  refine callsIn_of_wp Tryz.func103 rfl trivial ?_ rfl
  simp only [Tryz.ntmps103, List.size_toArray, List.length_cons, List.length_nil, Nat.reduceAdd, Nat.reduceSub, Array.replicate_succ, Array.replicate_zero, List.push_toArray, List.append_toArray, List.nil_append, List.cons_append]
  gi_wp2
  have hb2 := below2 w (.cells #[.string nm, .slice A n c, .slice B m d] 65) (.cells #[.slice Av q cv, .map (some b)] 94)
  have X1 := Blk.made (w.alloc (.cells #[.string nm, .slice A n c, .slice B m d] 65)) (b := w.heap.size + 1) 94 #[.slice Av q cv, .map (some b)] (by simp)
  have HX := Lib.hid X1; clear X1
  gi_loopw [9, 17] (fun y x wr => ∃ j : Nat, j ≤ m ∧ y = .int .i64 ((leastF ps hd LV (qs.take j) : Nat) : Int) ∧ x = .int .i64 (j : Int) ∧ Blk wr (w.heap.size + 1) 94 #[.slice Av q cv, .map (some b)] ∧ Below w.heap.size w wr ∧ w.heap.size + 2 ≤ wr.heap.size) (fun _ x _ => m - (intOf x).toNat)
  case atStart => exact ⟨0, Nat.zero_le _, rfl, rfl, HX.out, hb2, by simp⟩
  case round =>
    obtain ⟨j, hjm, rfl, rfl, hX, hb, hwz⟩ := hrel
    have HX2 := Lib.hid hX
    have x1 : wr.cell? ⟨w.heap.size + 1, 1, none⟩ = some (.map (some b)) := hX.cell 1
    have hbs := hb.size
    obtain ⟨a, ha⟩ : ∃ a, leastF ps hd LV (qs.take j) = a := ⟨_, rfl⟩
    have hale := leastF_le HM.out (ps := ps) (hd := hd) (qs.take j)
    rw [ha] at hale ⊢
    have HA := Lib.hid ha
    clear hX ha
    by_cases hlt : j < m
    · have hltI : (j : Int) < (m : Int) := by omega
      obtain ⟨pp, p, hB, _, hpb, hg, hE⟩ := (H.out.below PartE.stays hb (Nat.le_refl _)).at_ hlt
      obtain ⟨A5, n5, c5, f1, f2, f3, f4, _⟩ := hE.out
      clear hE
      subst hB
      have HG := Lib.hid hg; clear hg
      obtain ⟨i, hi⟩ := List.getElem?_of_mem (HLL.out p (List.mem_of_getElem? HG.out))
      have hiq : i < q := by rw [← HQ.out]; exact (List.getElem?_eq_some_iff.1 hi).1
      have hiI : (i : Int) < (q : Int) := by omega
      have HLO := Lib.hid (HP.out.1 i _ hi)
      have hb1 := below1 wr (.cells #[.bool p.1, .string p.2.1, .slice A5 n5 c5] 62)
      have hball := hb.alloc hbs (.cells #[.bool p.1, .string p.2.1, .slice A5 n5 c5] 62)
      have HM3 := Lib.hid (ownsMap_below HO.out hball HO.out.lt)
      have c0 := (hball.cell (p := ⟨gh, i, none⟩) hgh).trans (World.rowIs.cell HH.out hiq)
      have c1 := (hball.cell (p := ⟨gl, i, none⟩) hgl).trans (HV.out.cell hiq)
      have HX3 := Lib.hid (HX2.out.alloc (.cells #[.bool p.1, .string p.2.1, .slice A5 n5 c5] 62))
      have hlI := HM.out i
      obtain ⟨lv, hlv⟩ : ∃ lv, at0 LV i = lv := ⟨_, rfl⟩
      rw [hlv] at c1 hlI
      have HLV := Lib.hid hlv
      have y1 := cellUp x1
      clear hi hlv
      obtain ⟨nb, nq1, tq⟩ := p
      simp only at f1 f2 f3
      cases hh : hd i
      · rw [hh] at c0
        have HE := Lib.hid (show leastF ps hd LV (qs.take (j + 1)) = a by rw [leastF_step HG.out, HA.out]; exact askF_no HLO.out hh)
        clear hh
        gi_wp2_with (gi_at_lookup; refine lookup_at _ rfl _ _ rfl b N ps rfl HM3.out nq1 rfl f3 i (by rw [HLO.out]; rfl) ?_)
        go_roundw
        case rel => exact ⟨j + 1, by omega, by rw [HE.out], by go_num, HX3.out, hball, by simp; omega⟩
        case measure => simp [intOf]; omega
      · rw [hh] at c0
        cases nb
        · have HE := Lib.hid (show leastF ps hd LV (qs.take (j + 1)) = Nat.max a lv by rw [leastF_step HG.out, HA.out]; exact askF_yes HLO.out hh (by rw [HLV.out]; rfl))
          clear hh
          by_cases hmx : a < lv
          · have hmxI : (a : Int) < (lv : Int) := by omega
            have HE2 := Lib.hid (show leastF ps hd LV (qs.take (j + 1)) = lv by rw [HE.out]; exact Nat.max_eq_right (by omega))
            gi_wp2_with (gi_at_lookup; refine lookup_at _ rfl _ _ rfl b N ps rfl HM3.out nq1 rfl f3 i (by rw [HLO.out]; rfl) ?_)
            go_roundw
            case rel => exact ⟨j + 1, by omega, by rw [HE2.out]; go_num, by go_num, HX3.out, hball, by simp; omega⟩
            case measure => simp [intOf]; omega
          · have hmxI : ¬ (a : Int) < (lv : Int) := by omega
            have HE2 := Lib.hid (show leastF ps hd LV (qs.take (j + 1)) = a by rw [HE.out]; exact Nat.max_eq_left (by omega))
            gi_wp2_with (gi_at_lookup; refine lookup_at _ rfl _ _ rfl b N ps rfl HM3.out nq1 rfl f3 i (by rw [HLO.out]; rfl) ?_)
            go_roundw
            case rel => exact ⟨j + 1, by omega, (by rw [HE2.out]; first | rfl | (simp; omega)), by go_num, HX3.out, hball, by simp; omega⟩
            case measure => simp [intOf]; omega
        · have HE := Lib.hid (show leastF ps hd LV (qs.take (j + 1)) = Nat.max a (lv + 1) by rw [leastF_step HG.out, HA.out]; exact askF_yes HLO.out hh (by rw [HLV.out]; rfl))
          clear hh
          by_cases hmx : a < (lv + 1)
          · have hmxI : (a : Int) < (lv : Int) + 1 := by omega
            have HE2 := Lib.hid (show leastF ps hd LV (qs.take (j + 1)) = (lv + 1) by rw [HE.out]; exact Nat.max_eq_right (by omega))
            gi_wp2_with (gi_at_lookup; refine lookup_at _ rfl _ _ rfl b N ps rfl HM3.out nq1 rfl f3 i (by rw [HLO.out]; rfl) ?_)
            go_roundw
            case rel => exact ⟨j + 1, by omega, by rw [HE2.out]; go_num, by go_num, HX3.out, hball, by simp; omega⟩
            case measure => simp [intOf]; omega
          · have hmxI : ¬ (a : Int) < (lv : Int) + 1 := by omega
            have HE2 := Lib.hid (show leastF ps hd LV (qs.take (j + 1)) = a by rw [HE.out]; exact Nat.max_eq_left (by omega))
            gi_wp2_with (gi_at_lookup; refine lookup_at _ rfl _ _ rfl b N ps rfl HM3.out nq1 rfl f3 i (by rw [HLO.out]; rfl) ?_)
            go_roundw
            case rel => exact ⟨j + 1, by omega, (by rw [HE2.out]; first | rfl | (simp; omega)), by go_num, HX3.out, hball, by simp; omega⟩
            case measure => simp [intOf]; omega
    · have hje : j = m := by omega
      subst hje
      have E := Lib.hid (show leastF ps hd LV qs = a by rw [← HA.out, List.take_of_length_le (by rw [HL.out]; exact Nat.le_refl _)])
      have hjj : ¬ (j : Int) < (j : Int) := by omega
      gi_wp2
      go_ret
      exact ⟨by rw [E.out]; rfl, hb⟩

end Go.Proofs.YtalneeelcdmoaaaGreatDoor

