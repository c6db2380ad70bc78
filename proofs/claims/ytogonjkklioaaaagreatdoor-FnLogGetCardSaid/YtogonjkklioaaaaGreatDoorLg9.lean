/-
  Texts of one claim, put together.
-/
import Derived.Test.YtogonjkklioaaaaGreatDoorLg6
import Derived.Test.YtogonjkklioaaaaGreatDoorLg8
set_option maxRecDepth 100000
set_option maxHeartbeats 8000000
namespace Go.Proofs.YtogonjkklioaaaaGreatDoor
open Go.RowKit
structure Ex (α : Type) where
  lo : Nat
  hi : Nat
  vs : List Value
  x : α
abbrev zmn (α : Type) := World → Nat → Nat → List Value → α → Prop
def TKeep {α : Type} (V : zmn α) : Prop := ∀ (W W' : World) (lo hi : Nat) (vs : List Value) (x : α), V W lo hi vs x → (∀ b, lo ≤ b → b < hi → W'.heap[b]? = W.heap[b]?) → V W' lo hi vs x
def zea {α : Type} (xs : List (Ex α)) : List Value := xs.flatMap (·.vs)
section
variable {α : Type} {T : TypeId} {sz a : Nat} {V : zmn α} {w W W' W9 : World} {v : Value} {xs : List (Ex α)} {x : Ex α}
theorem ecells_snoc : zea (xs ++ [x]) = zea xs ++ x.vs := by
  unfold zea; rw [List.flatMap_append, List.flatMap_singleton]
theorem zpk : ∀ {xs : List (Ex α)} {i : Nat} {x : Ex α}, (∀ y ∈ xs, y.vs.length = sz) → xs[i]? = some x → ∀ j, j < sz → (zea xs)[i * sz + j]? = x.vs[j]?
  | [], i, x, _, h, _, _ => by simp at h
  | y :: xs, 0, x, hl, h, j, hj => by
    simp at h; subst h; have := hl y qag; show (y.vs ++ zea xs)[0 * sz + j]? = _
    rw [Nat.zero_mul, Nat.zero_add, List.getElem?_append_left qaa]
  | y :: xs, i + 1, x, hl, h, j, hj => by
    have hy := hl y qag; have ih := zpk (xs := xs) (i := i) (x := x) (fun z hz => hl z (by simp [hz])) qbk j hj; show (y.vs ++ zea xs)[(i + 1) * sz + j]? = _; rw [Nat.add_mul, Nat.one_mul, List.getElem?_append_right qaa, ← ih]; congr 1; omega
theorem zlg : ∀ {xs : List (Ex α)}, (∀ y ∈ xs, y.vs.length = sz) → (zea xs).length = xs.length * sz
  | [], _ => by simp [zea]
  | y :: xs, hl => by
    have hy := hl y qag; have ih := zlg (xs := xs) (fun z hz => hl z (by simp [hz])); show (y.vs ++ zea xs).length = _; rw [List.length_append, ih, hy, List.length_cons, Nat.add_mul, Nat.one_mul, Nat.add_comm]
structure GR (T : TypeId) (sz : Nat) (V : zmn α) (w : World) (a : Nat) (v : Value) (xs : List (Ex α)) (W : World) : Prop where
  K : W.ownsRow a T sz v xs.length (zea xs)
  O : ∀ x ∈ xs, x.vs.length = sz ∧ V W x.lo x.hi x.vs x.x ∧ x.hi ≤ W.heap.size ∧ ∀ g, v.ownBlock = some g → g < x.lo ∨ x.hi ≤ g
  h0 : w.heap.size ≤ a
  gr : Below w.heap.size w W
theorem GR.below (h : GR T sz V w a v xs W) (hV : TKeep V) (hb : Below W.heap.size W W') : GR T sz V w a v xs W' := by
  have hs := h.gr.size; have hbs := hb.size
  exact ⟨zan h.K hb, fun x hx => by
    obtain ⟨o0, o1, o2, o3⟩ := h.O x hx; exact ⟨o0, hV _ _ _ _ _ _ o1 (fun b _ h2 => hb.block b qaa), by omega, o3⟩, h.h0, h.gr.trans (hb.mono hs)⟩
theorem GR.start (v : Value) (hw : W.ownsRow a T sz v 0 []) (h0 : w.heap.size ≤ a) (hb : Below w.heap.size w W) : GR T sz V w a v ([] : List (Ex α)) W :=
  ⟨hw, fun x hx => by simp at hx, h0, hb⟩
theorem GR.more {n' cap g' : Nat} {W1 : World} (h : GR T sz V w a v xs W) (hV : TKeep V) (hb1 : Below W.heap.size W W1) (hl : x.vs.length = sz) (ho : V W1 x.lo x.hi x.vs x.x) (h2 : x.hi ≤ W1.heap.size) (hr : ∀ g, v.ownBlock = some g → g < x.lo ∨ x.hi ≤ g)
    (hown : W9.ownsRow a T sz (.slice (some ⟨g', 0, none⟩) n' cap) (xs.length + 1) (zea xs ++ x.vs)) (hgrow : W1.grownBy W9 v.ownBlock) (hat : v.ownBlock = some g' ∨ g' = W1.heap.size) :
    GR T sz V w a (.slice (some ⟨g', 0, none⟩) n' cap) (xs ++ [x]) W9 := by
  have hA := h.below hV hb1; have hgs := hgrow.size; have hs := h.gr.size; have hh0 := h.h0; have hbs := hb1.size; refine ⟨by rw [List.length_append, ecells_snoc]; exact hown, fun y hy => ?_, h.h0, ?_⟩
  · have a2 : y.vs.length = sz ∧ V W9 y.lo y.hi y.vs y.x ∧ y.hi ≤ W1.heap.size ∧ ∀ g, v.ownBlock = some g → g < y.lo ∨ y.hi ≤ g := by
      rcases List.mem_append.1 hy with hy | hy
      · obtain ⟨o0, o1, o2, o3⟩ := hA.O y hy
        exact ⟨o0, hV _ _ _ _ _ _ o1 (fun c c1 c2 => hgrow.block c qaa (fun e => by rcases o3 c e.symm with h | h <;> omega)), o2, o3⟩
      · rw [List.mem_singleton.1 hy]
        exact ⟨hl, hV _ _ _ _ _ _ ho (fun c c1 c2 => hgrow.block c qaa (fun e => by rcases hr c e.symm with h | h <;> omega)), h2, hr⟩
    obtain ⟨o0, o1, o2, o3⟩ := a2; refine ⟨o0, o1, by omega, fun g e => ?_⟩; simp [Value.ownBlock] at e; subst e; rcases hat with e | e
    · exact o3 _ e
    · right; omega
  · exact ⟨hgrow.os.trans hA.gr.os, hgrow.tape.trans hA.gr.tape, hgrow.output.trans hA.gr.output, by omega, fun k hk => (hgrow.block k qaa (fun e => by have := (hA.K.lt k e.symm).1; omega)).trans (hA.gr.block k hk)⟩
theorem GR.seq {E : World → Nat → Nat → Addr → α → Prop} {A : Option Addr} {c : Nat} (h : GR T sz V w a (.slice A xs.length c) xs W) (hE : ∀ (p : Addr) (x : Ex α), x ∈ xs → V W x.lo x.hi x.vs x.x → (∀ j u, x.vs[j]? = some u → W.cell? ⟨p.block, p.off + j, none⟩ = some u) → p.spot = none → x.hi ≤ W.heap.size → E W 0 W.heap.size p x.x) : IsSeq sz E W 0 W.heap.size A xs.length c (xs.map (·.x)) := by
  rcases h.K.2 with ⟨e, h0⟩ | ⟨g, cap, cur, e, hb, hgb, hle, hcap, hsz, htk⟩
  · injection e with e1 e2 e3
    subst e1; subst e3; exact ⟨List.length_map _, by omega, by unfold maxLen; omega, fun hp => by omega⟩
  · injection e with e1 e2 e3
    subst e1; subst e3; have hlt := (Array.getElem?_eq_some_iff.1 hgb).1; refine ⟨List.length_map _, hle, hcap, fun _ => ⟨_, rfl, Nat.zero_le _, hlt, fun i x hx => ?_⟩⟩; rw [List.getElem?_map] at hx; obtain ⟨f, hf, rfl⟩ := Option.map_eq_some_iff.1 hx; have hi := (List.getElem?_eq_some_iff.1 hf).1; have a3 := List.mem_of_getElem? hf; have a0 : ∀ j, (⟨g, 0, none⟩ : Addr).add j = ⟨g, j, none⟩ := fun j => by unfold Addr.add; split <;> simp_all
    obtain ⟨o0, o1, o2, _⟩ := h.O f a3; have a2 : ∀ y ∈ xs, y.vs.length = sz := fun y hy => (h.O y hy).1; rw [a0]; refine hE _ f a3 o1 (fun j u hu => ?_) rfl o2; have hj : j < sz := by have := (List.getElem?_eq_some_iff.1 hu).1; omega
    have hc := zpk a2 hf j hj; rw [hu, ← htk] at hc; have hlen := zlg a2
    have hm : i * sz + j < xs.length * sz := by
      have := Nat.mul_le_mul_right sz (show i + 1 ≤ xs.length by omega); rw [Nat.add_mul, Nat.one_mul] at this; omega
    rw [List.getElem?_take, if_pos hm] at hc; show W.cell? ⟨g, i * sz + j, none⟩ = some u; unfold World.cell?; rw [hgb]; simpa using hc
theorem GR.form (h : GR T sz V w a v xs W) (hne : ∃ g n c, v = .slice (some ⟨g, 0, none⟩) n c) : ∃ A c, v = .slice A xs.length c ∧ xs.length ≤ c ∧ c ≤ maxLen ∧ (∃ g, A = some ⟨g, 0, none⟩ ∧ a ≤ g ∧ g < W.heap.size) := by
  obtain ⟨g0, n0, c0, rfl⟩ := hne; rcases h.K.2 with ⟨e, h0⟩ | ⟨g, cap, cur, e, hb, hgb, hle, hcap, hsz, htk⟩
  · cases e
  · rw [e]
    exact ⟨_, _, rfl, hle, hcap, g, rfl, hb, (Array.getElem?_eq_some_iff.1 hgb).1⟩
end
abbrev Bd := List (ByteArray × ByteArray)
def BindE (w : World) (lo hi : Nat) (p : Addr) (b : Bd) : Prop :=
  (∃ A n c, w.cell? p = some (.slice A n c) ∧ IsTexts w lo hi A n c (b.map (·.1))) ∧ (∃ B m d, w.cell? (zcw p 1) = some (.slice B m d) ∧ IsTexts w lo hi B m d (b.map (·.2)))
theorem BindE.stays : zqg BindE := by
  intro w w' lo hi lo' hi' p a ⟨⟨A, n, c, h3, h4⟩, ⟨B, m, d, h5, h6⟩⟩ hp1 hp2 hk hl hh; exact ⟨⟨A, n, c, (hk p hp1 hp2).trans h3, h4.keep TextE.stays hk hl hh⟩, ⟨B, m, d, (hk (zcw p 1) hp1 hp2).trans h5, h6.keep TextE.stays hk hl hh⟩⟩
theorem BindE.out {w : World} {lo hi : Nat} {p : Addr} {b : Bd} (h : BindE w lo hi p b) : ∃ A n c B m d, w.cell? p = some (.slice A n c) ∧ w.cell? ⟨p.block, p.off + 1, none⟩ = some (.slice B m d) ∧ IsTexts w lo hi A n c (b.map (·.1)) ∧ IsTexts w lo hi B m d (b.map (·.2)) := by
  obtain ⟨⟨A, n, c, h3, h4⟩, ⟨B, m, d, h5, h6⟩⟩ := h; exact ⟨A, n, c, B, m, d, h3, h5, h4, h6⟩
abbrev zjf := IsSeq 2 BindE
def BindV : zmn Bd := fun W lo hi vs b => ∃ A n c B m d, vs = [.slice A n c, .slice B m d] ∧ IsTexts W lo hi A n c (b.map (·.1)) ∧ IsTexts W lo hi B m d (b.map (·.2))
theorem BindV.keep : TKeep BindV := fun _ _ _ _ _ _ ⟨A, n, c, B, m, d, h1, h2, h3⟩ hk =>
  ⟨A, n, c, B, m, d, h1, h2.keep TextE.stays (fun q h1 h2 => cb_ (hk q.block h1 h2)) (nl _) (nl _), h3.keep TextE.stays (fun q h1 h2 => cb_ (hk q.block h1 h2)) (nl _) (nl _)⟩
theorem zqk {W : World} {T : TypeId} {w : World} {a c : Nat} {A : Option Addr} {xs : List (Ex Bd)} (h : GR T 2 BindV w a (.slice A xs.length c) xs W) : zjf W 0 W.heap.size A xs.length c (xs.map (·.x)) :=
  h.seq (fun p x _ hx hc hp hh => by
    obtain ⟨A, n, c, B, m, d, h1, h2, h3⟩ := hx; obtain ⟨b, o, s⟩ := p; simp only at hp; subst hp; exact ⟨⟨A, n, c, hc 0 _ (by rw [h1]; rfl), h2.keep TextE.stays (fun _ _ _ => rfl) (Nat.zero_le _) hh⟩, ⟨B, m, d, hc 1 _ (by rw [h1]; rfl), h3.keep TextE.stays (fun _ _ _ => rfl) (Nat.zero_le _) hh⟩⟩)
def getW : Bd → ByteArray → Option ByteArray
  | [], _ => none
  | q :: b, x => if q.1 = x then some q.2 else getW b x
theorem getW_hit : ∀ {b : Bd} {x : ByteArray} {k : Nat} {q : ByteArray × ByteArray}, (∀ j r, j < k → b[j]? = some r → r.1 ≠ x) → b[k]? = some q → q.1 = x → getW b x = some q.2
  | [], x, k, q, _, h, _ => by simp at h
  | r :: b, x, 0, q, _, h, hx => by
    simp at h; subst h
    unfold getW; rw [if_pos hx]
  | r :: b, x, k + 1, q, hl, h, hx => by
    unfold getW; rw [if_neg (hl 0 r qaa rfl)]; exact getW_hit (k := k) (fun j s hj hs => hl (j + 1) s qaa (by simpa using hs)) qbk hx
theorem getW_none : ∀ {b : Bd} {x : ByteArray}, (∀ q ∈ b, q.1 ≠ x) → getW b x = none
  | [], _, _ => rfl
  | r :: b, x, h => by
    unfold getW; rw [if_neg (h r qag)]; exact getW_none (fun q hq => h q (by simp [hq]))
theorem getW_mem : ∀ {b : Bd} {x v : ByteArray}, getW b x = some v → (x, v) ∈ b
  | [], _, _, h => by simp [getW] at h
  | r :: b, x, v, h => by
    unfold getW at h; split at h
    · rename_i e
      injection h with h; subst h; subst e; exact List.mem_cons_self
    · exact List.mem_cons_of_mem _ (getW_mem h)
def znk (b : Bd) (t : Tm) : ByteArray := if t.1 = true then (getW b t.2).getD ByteArray.empty else t.2
def zcm : List Tm → List Tm → Bd → Option Bd
  | t :: ts, u :: us, b => if t.1 = true ∧ getW b t.2 = none then zcm ts us (b ++ [(t.2, u.2)]) else if znk b t = u.2 then zcm ts us b else none
  | _, _, b => some b
def zhd (a f : At) (b : Bd) : Option Bd := if a.1 = f.1 ∧ a.2.length = f.2.length then zcm a.2 f.2 b else none
def zpg (b : Bd) (t : Tm) : Tm := (false, znk b t)
def zmu (a : At) (b : Bd) : At := (a.1, a.2.map (zpg b))
theorem matchT_nil (us : List Tm) (b : Bd) : zcm [] us b = some b := by cases us <;> rfl
theorem matchT_nil2 (ts : List Tm) (b : Bd) : zcm ts [] b = some b := by cases ts <;> rfl
section
variable {ts us : List Tm} {k : Nat} {t u : Tm} {b : Bd}
theorem matchT_free (h : ts[k]? = some t) (h' : us[k]? = some u) (h1 : t.1 = true) (h2 : getW b t.2 = none) : zcm (ts.drop k) (us.drop k) b = zcm (ts.drop (k + 1)) (us.drop (k + 1)) (b ++ [(t.2, u.2)]) := by
  obtain ⟨e1, e2⟩ := List.getElem?_eq_some_iff.1 h; obtain ⟨e3, e4⟩ := List.getElem?_eq_some_iff.1 h'; rw [List.drop_eq_getElem_cons e1, List.drop_eq_getElem_cons e3, e2, e4, zcm, if_pos ⟨h1, h2⟩]
theorem zoo (h : ts[k]? = some t) (h' : us[k]? = some u) (h1 : ¬ (t.1 = true ∧ getW b t.2 = none)) (h2 : znk b t = u.2) : zcm (ts.drop k) (us.drop k) b = zcm (ts.drop (k + 1)) (us.drop (k + 1)) b := by
  obtain ⟨e1, e2⟩ := List.getElem?_eq_some_iff.1 h; obtain ⟨e3, e4⟩ := List.getElem?_eq_some_iff.1 h'; rw [List.drop_eq_getElem_cons e1, List.drop_eq_getElem_cons e3, e2, e4, zcm, if_neg h1, if_pos h2]
theorem matchT_no (h : ts[k]? = some t) (h' : us[k]? = some u) (h1 : ¬ (t.1 = true ∧ getW b t.2 = none)) (h2 : znk b t ≠ u.2) : zcm (ts.drop k) (us.drop k) b = none := by
  obtain ⟨e1, e2⟩ := List.getElem?_eq_some_iff.1 h; obtain ⟨e3, e4⟩ := List.getElem?_eq_some_iff.1 h'; rw [List.drop_eq_getElem_cons e1, List.drop_eq_getElem_cons e3, e2, e4, zcm, if_neg h1, if_neg h2]
theorem matchT_end (hk : ¬ k < ts.length) : zcm (ts.drop k) (us.drop k) b = some b := by
  rw [List.drop_eq_nil_of_le qaa, matchT_nil]
end
def SmallBd (K : Nat) (b : Bd) : Prop := b.length ≤ K ∧ ∀ q ∈ b, q.2.size ≤ maxLen
theorem SmallBd.up {K K' : Nat} {b : Bd} (h : SmallBd K b) (hk : K ≤ K') : SmallBd K' b := ⟨Nat.le_trans h.1 hk, h.2⟩
theorem SmallBd.snoc {K : Nat} {b : Bd} {x v : ByteArray} (h : SmallBd K b) (hv : v.size ≤ maxLen) : SmallBd (K + 1) (b ++ [(x, v)]) := by
  refine ⟨by rw [List.length_append]; have := h.1; simp; omega, fun q hq => ?_⟩; rcases List.mem_append.1 hq with h1 | h1
  · exact h.2 q h1
  · rw [List.mem_singleton.1 h1]; exact hv
theorem wordT_size {K : Nat} {b : Bd} {t : Tm} (h : SmallBd K b) (ht : t.2.size ≤ maxLen) : (znk b t).size ≤ maxLen := by
  unfold znk; split
  · cases hg : getW b t.2 with
    | none => show ByteArray.empty.size ≤ _; simp
    | some v => exact h.2 _ (getW_mem hg)
  · exact ht
theorem zhc : ∀ {ts us : List Tm} {b b' : Bd} {K : Nat}, SmallBd K b → (∀ u ∈ us, u.2.size ≤ maxLen) → zcm ts us b = some b' → SmallBd (K + ts.length) b'
  | [], us, b, b', K, h, _, e => by rw [matchT_nil] at e; injection e with e; subst e; exact h
  | t :: ts, [], b, b', K, h, _, e => by
    rw [matchT_nil2] at e; injection e with e; subst e; exact h.up qaa
  | t :: ts, u :: us, b, b', K, h, hu, e => by
    rw [zcm] at e; split at e
    · have := zhc (h.snoc (x := t.2) (hu u qag)) (fun v hv => hu v (by simp [hv])) e
      rw [List.length_cons, show K + (ts.length + 1) = K + 1 + ts.length by omega]; exact this
    · split at e
      · exact (zhc h (fun v hv => hu v (by simp [hv])) e).up (by rw [List.length_cons]; omega)
      · cases e
theorem matchA_small {a f : At} {b b' : Bd} {K : Nat} (h : SmallBd K b) (hf : ∀ u ∈ f.2, u.2.size ≤ maxLen) (e : zhd a f b = some b') : SmallBd (K + a.2.length) b' := by
  unfold zhd at e; split at e
  · exact zhc h hf e
  · cases e
def zik (list : List At) (a : At) (b : Bd) : List Bd := list.filterMap fun f => zhd a f b
def zjj (list : List At) (out : List Bd) (q : Pt) : List Bd := if q.1 = true then out else out.flatMap (zik list q.2)
def allB (list : List At) (body : List Pt) : List Bd := body.foldl (zjj list) [[]]
def okB (list : List At) (body : List Pt) (b : Bd) : Bool := body.all fun q => !(q.1 && zbq list (zmu q.2 b))
def rowsB (list : List At) (body : List Pt) : List Bd := (allB list body).filter (okB list body)
theorem zif {α β : Type} (f : β → α → β) (z : β) {xs : List α} {k : Nat} {x : α} (h : xs[k]? = some x) : (xs.take (k + 1)).foldl f z = f ((xs.take k).foldl f z) x := by
  rw [List.take_add_one, h, List.foldl_append]; rfl
theorem flatMap_take {α β : Type} (f : α → List β) {xs : List α} {k : Nat} {x : α} (h : xs[k]? = some x) : (xs.take (k + 1)).flatMap f = (xs.take k).flatMap f ++ f x := by
  rw [List.take_add_one, h, List.flatMap_append]; simp
theorem fits_len (list : List At) (a : At) (b : Bd) : (zik list a b).length ≤ list.length := List.length_filterMap_le _ _
theorem flat_len {α β : Type} {f : α → List β} {n : Nat} (h : ∀ x, (f x).length ≤ n) : ∀ xs : List α, (xs.flatMap f).length ≤ xs.length * n
  | [] => by simp
  | x :: xs => by
    have := flat_len h xs; have := h x; rw [List.flatMap_cons, List.length_append, List.length_cons, Nat.add_mul, Nat.one_mul]; omega
theorem stepB_len (list : List At) (out : List Bd) (q : Pt) : (zjj list out q).length ≤ out.length * (list.length + 1) := by
  unfold zjj; split
  · exact Nat.le_mul_of_pos_right _ qaa
  · exact Nat.le_trans (flat_len (fits_len list q.2) out) (Nat.mul_le_mul_left _ qaa)
theorem znt (list : List At) : ∀ (body : List Pt) (out : List Bd), (body.foldl (zjj list) out).length ≤ out.length * (list.length + 1) ^ body.length
  | [], out => by simp
  | q :: body, out => by
    have h1 := znt list body (zjj list out q); have h2 := Nat.mul_le_mul_right ((list.length + 1) ^ body.length) (stepB_len list out q); rw [List.foldl_cons, List.length_cons, Nat.pow_succ, Nat.mul_comm ((list.length + 1) ^ body.length), ← Nat.mul_assoc]; omega
theorem allB_len (list : List At) (body : List Pt) : (allB list body).length ≤ (list.length + 1) ^ body.length := by
  have := znt list body [[]]; unfold allB; simpa using this
theorem fits_small {list : List At} {a : At} {b b' : Bd} {K : Nat} (h : SmallBd K b) (hf : ∀ f ∈ list, ∀ u ∈ f.2, u.2.size ≤ maxLen) (e : b' ∈ zik list a b) : SmallBd (K + a.2.length) b' := by
  unfold zik at e; obtain ⟨f, hm, he⟩ := List.mem_filterMap.1 e; exact matchA_small h (hf f hm) he
theorem stepB_small {list : List At} {q : Pt} {out : List Bd} {K : Nat} (h : ∀ b ∈ out, SmallBd K b) (hf : ∀ f ∈ list, ∀ u ∈ f.2, u.2.size ≤ maxLen) (hq : q.2.2.length ≤ 64) : ∀ b ∈ zjj list out q, SmallBd (K + 64) b := by
  intro b hb; unfold zjj at hb; split at hb
  · exact (h b hb).up qaa
  · obtain ⟨c, hc, hb⟩ := List.mem_flatMap.1 hb
    exact (fits_small (h c hc) hf hb).up qaa
theorem zit {list : List At} (hf : ∀ f ∈ list, ∀ u ∈ f.2, u.2.size ≤ maxLen) : ∀ {body : List Pt} {out : List Bd} {K : Nat}, (∀ b ∈ out, SmallBd K b) → (∀ q ∈ body, q.2.2.length ≤ 64) → ∀ b ∈ body.foldl (zjj list) out, SmallBd (K + 64 * body.length) b
  | [], out, K, h, _, b, hb => by simpa using h b hb
  | q :: body, out, K, h, hq, b, hb => by
    have := zit hf (body := body) (stepB_small h hf (hq q qag)) (fun r hr => hq r (by simp [hr])) b hb; exact this.up (by rw [List.length_cons]; omega)
theorem allB_small {list : List At} (hf : ∀ f ∈ list, ∀ u ∈ f.2, u.2.size ≤ maxLen) {body : List Pt} (hq : ∀ q ∈ body, q.2.2.length ≤ 64) : ∀ b ∈ allB list body, SmallBd (64 * body.length) b := by
  intro b hb; have := zit hf (body := body) (out := [[]]) (K := 0) (fun c hc => by rw [List.mem_singleton.1 hc]; exact ⟨nl _, fun q hq => by simp at hq⟩) hq b hb; exact this.up qaa
def zpt (list : List At) (out : List At) (r : Rl) : List At := (rowsB list r.2).foldl (fun o b => zed o (zmu r.1 b)) out
def onceL (rs : List Rl) (lv : List Nat) (level : Nat) (list : List At) : List At := (rs.zip lv).foldl (fun out q => if q.2 = level then zpt list out q.1 else out) []
theorem zev {α : Type} (f : α → At) : ∀ (bs : List α) {xs : List At}, zaj xs = true → zaj (bs.foldl (fun o b => zed o (f b)) xs) = true
  | [], _, h => h
  | _ :: bs, _, h => zev f bs (zha h)
theorem zgh {α : Type} (f : α → At) : ∀ (bs : List α) (xs : List At), (bs.foldl (fun o b => zed o (f b)) xs).length ≤ xs.length + bs.length
  | [], xs => by simp
  | b :: bs, xs => by
    have := zgh f bs (zed xs (f b)); have := zkt xs (f b); rw [List.foldl_cons, List.length_cons]; omega
theorem bd_at {b : Bd} {k : Nat} {x y : ByteArray} (h : (b.map (·.1))[k]? = some x) (h' : (b.map (·.2))[k]? = some y) : b[k]? = some (x, y) := by
  rw [List.getElem?_map] at h h'; obtain ⟨q, hq, rfl⟩ := Option.map_eq_some_iff.1 h; rw [hq] at h'; injection h' with h'; subst h'; exact hq
theorem zot (A B : Option Addr) (n c m d : Nat) (b : Bd) (x : ByteArray) (w : World) (h : IsTexts w 0 w.heap.size A n c (b.map (·.1))) (h' : IsTexts w 0 w.heap.size B m d (b.map (·.2))) :
    Calls Tryz.prog 202 #[.agg #[.slice A n c, .slice B m d], .string x] w fun e w' => e = .returned (.tuple #[.string ((getW b x).getD ⟨#[]⟩), .bool (getW b x).isSome]) ∧ Below w.heap.size w w' := by
  have hn := h.len; unfold maxLen at hn; have h1 := hid (show n = b.length by rw [← h.1, List.length_map]); have h2 := hid (show m = b.length by rw [← h'.1, List.length_map]); have H := hid h; have H' := hid h'; clear h h'; have hw0 := zac w (.cells #[.slice A n c, .slice B m d] 230); have X0 := hid (Box.new w (.slice A n c) (.slice B m d) 230); go_enter Tryz.func202, Tryz.ntmps202; go_wp2; go_loopw [6] (fun i wr => ∃ k : Nat, k ≤ n ∧ i = .int .i64 k ∧ (∀ j r, j < k → b[j]? = some r → r.1 ≠ x) ∧ Below (w.alloc (.cells #[.slice A n c, .slice B m d] 230)).heap.size (w.alloc (.cells #[.slice A n c, .slice B m d] 230)) wr) (fun i _ => n - (intOf i).toNat)
  case atStart => exact ⟨0, Nat.zero_le _, rfl, fun j r hj => absurd hj (Nat.not_lt_zero _), Below.refl _ _⟩
  case round =>
    obtain ⟨k, hk, rfl, hl, hb⟩ := hrel; have HL := hid hl; clear hl; have HB := zaa hw0 hb; obtain ⟨b0, b1, b2⟩ := X0.out.later hb; by_cases hlt : k < n
    · have a5 : (k : Int) < (n : Int) := qaa
      have a6 : (k : Int) < (m : Int) := by have := h1.out; have := h2.out; omega
      obtain ⟨p, q, hA, _, _, hg, hE⟩ := (H.out.below TextE.stays HB (nl _)).at_ hlt; obtain ⟨p', q', a7, _, _, a3, a2⟩ := (H'.out.below TextE.stays HB (nl _)).at_ (show k < m by have := h1.out; have := h2.out; omega); subst hA; subst a7; have x1 : wr.cell? (p.add k) = some (.string q) := qdj; have x2 : wr.cell? (p'.add k) = some (.string q') := by have := a2; unfold TextE at this; rwa [Nat.mul_one] at this
      have HG := hid (bd_at hg a3); clear hE a2 hg a3; cases he : (q.toList == x.toList)
      · have hne : q ≠ x := fun e => by subst e; simp at he
        have a4 := hid hne; clear hne; go_wp2; go_roundw
        case rel => exact ⟨k + 1, by omega, by go_num, fun j r hj hr => by
          by_cases e : j = k
          · subst e; rw [HG.out] at hr; injection hr with hr; rw [← hr]; exact a4.out
          · exact HL.out j r qaa hr, hb⟩
        case measure => exact qms
      · have hq : q = x := zjd qcl
        have hv := hid (getW_hit (x := x) HL.out HG.out hq); clear hq; go_wp2; refine bodyPost_ret (v := .tuple #[.string q', .bool true]) (by simp [results, Tryz.results202, go_sem]) rfl ⟨by rw [hv.out]; rfl, HB⟩
    · have hv := hid (getW_none (b := b) (x := x) (fun q hq => by
        obtain ⟨j, hj⟩ := List.getElem?_of_mem hq; have := (List.getElem?_eq_some_iff.1 hj).1; exact HL.out j q (by have := h1.out; omega) hj))
      go_wp2; refine bodyPost_ret (v := .tuple #[.string ⟨#[]⟩, .bool false]) (by simp [results, Tryz.results202, go_sem]) rfl ⟨by rw [hv.out]; rfl, HB⟩
end Go.Proofs.YtogonjkklioaaaaGreatDoor

namespace Go.Proofs.YtogonjkklioaaaaGreatDoor
open Go
section
variable {P : Program} {ops : Array Oper} {Q : Exit → Act → World → Prop} {md : Region.Mode} {S : World → Prop}
def leftN (L : Array Bool) : Nat := L.toList.count false
theorem left_set {L : Array Bool} {i : Nat} (h : L.getD i true = false) : leftN (L.setIfInBounds i true) + 1 = leftN L := by
  rcases Nat.lt_or_ge i L.size with hi | hi
  · have hg : L[i] = false := by simpa [hi] using h
    unfold leftN; have hl : i < L.toList.length := by simpa using hi
    have hg2 : L.toList[i] = false := by simpa using hg
    have a2 : 0 < L.toList.count false := List.count_pos_iff.2 (by rw [← hg2]; exact List.getElem_mem hl); have e1 : (if (false == false) = true then 1 else 0) = 1 := rfl; have e2 : (if (true == false) = true then 1 else 0) = 0 := rfl; rw [Array.toList_setIfInBounds, List.count_set hl, hg2, e1, e2]; omega
  · simp [Array.getElem?_eq_none hi] at h
theorem zem (I : Array Bool → Act → World → Prop) (hS : ∀ L a w, I L a w → S w)
    (step : ∀ L a w i o, I L a w → ops[i]? = some o → L.getD i true = false → (∀ e ∈ o.after, Region.binds md e = true → L.getD e.on false = true) →
      ∀ K : Act → World → Prop, Shut (∀ a' w', I (L.setIfInBounds i true) a' w' → K a' w') → if Region.wanted o (yielded ops a.tmps) = true then Oper.wp P o a w K Q else K (a.put o.dst undef) w)
    (fin : ∀ L a w, I L a w → Region.ready md ops L = [] → Q .normal a w) :
    ∀ (fuel : Nat) (L : Array Bool) (a : Act) (w : World), leftN L ≤ fuel → I L a w → wpAnyH P md ops Q S fuel L a w
  | 0, L, a, w, hl, hI => by
    have hr : Region.ready md ops L = [] := by
      rw [List.eq_nil_iff_forall_not_mem]; intro i hi; have := left_set (mem_ready.1 hi).1; omega
    exact ⟨hr, fin L a w hI hr⟩
  | fuel + 1, L, a, w, hl, hI => by
    refine ⟨fun hr => fin L a w hI hr, fun i hi => ?_⟩; obtain ⟨h0, o, ho, hd⟩ := mem_ready.1 hi; have hc := left_set h0; exact wpOp_step ho fun K' hK => step L a w i o hI ho h0 hd K' (fun a' w' hI' => hK a' w' ⟨hS _ _ _ hI', zem I hS step fin fuel _ a' w' qaa hI'⟩)
def backB (ops : Array Oper) : Bool := (List.range ops.size).all fun i => match ops[i]? with | some o => o.after.all fun e => decide (e.on < i) | none => true
theorem all_up {L : Array Bool} (hb : backB ops = true) (hs : L.size = ops.size) (hr : Region.ready md ops L = []) : ∀ (i : Nat), i < ops.size → L.getD i false = true := by
  intro i
  induction i using Nat.strongRecOn with
  | _ i ih =>
    intro hi
    cases hL : L.getD i false with
    | true => rfl
    | false =>
      exfalso; have a3 : i < L.size := qaa; have ho : ops[i]? = some ops[i] := Array.getElem?_eq_getElem hi; have a2 := List.all_eq_true.1 hb i (List.mem_range.2 hi); simp only [ho] at a2
      have hm : i ∈ Region.ready md ops L := mem_ready.2 ⟨by simp [a3] at hL ⊢; exact hL, _, ho, fun e he _ => ih e.on (by
        have := Array.all_eq_true_iff_forall_mem.1 a2 e he; simpa using this) (by
        have := Array.all_eq_true_iff_forall_mem.1 a2 e he; have h2 : e.on < i := by simpa using this
        omega)⟩
      rw [hr] at hm; cases hm
end
end Go.Proofs.YtogonjkklioaaaaGreatDoor

namespace Go.Proofs.YtogonjkklioaaaaGreatDoor
open Go.RowKit
structure Chn (base : Nat) (ls : List ByteArray) (s : ByteArray) (k : Nat) (bx : Bool) (v u : Value) (W : World) : Prop where
  r1 : k = 1 → W.ownsRow base 9 1 v 0 []
  r2 : k = 2 → W.ownsRow base 9 1 v ls.length (tcl ls)
  r3 : k = 3 → W.ownsRow base 9 1 v (ls.length + 1) (tcl ls ++ [.string s])
  z : k = 0 → v = undef
  bz : bx = false → u = undef
  b : bx = true → ∃ g, u = .slice (some ⟨g, 0, none⟩) 1 1 ∧ Blk W g 9 #[.string s] ∧ base ≤ g
def Ap (a b : Value) : Prop := ∀ g, a.ownBlock = some g → b.ownBlock ≠ some g
def Lt0 (a : Value) (W : World) : Prop := ∀ g, a.ownBlock = some g → g < W.heap.size
theorem Ap.symm {a b : Value} (h : Ap a b) : Ap b a := fun g h1 h2 => h g h2 h1
theorem Ap.undef (a : Value) : Ap undef a := fun g h => by simp [Go.undef, Value.ownBlock] at h
theorem Lt0.mono {a : Value} {W W' : World} (h : Lt0 a W) (hs : W.heap.size ≤ W'.heap.size) : Lt0 a W' := fun g e => Nat.lt_of_lt_of_le (h g e) hs
theorem Ap.new {a b : Value} {W : World} (h : Lt0 a W) (hb : ∀ g, b.ownBlock = some g → W.heap.size ≤ g) : Ap a b := fun g h1 h2 => by have := h g h1; have := hb g h2; omega
theorem Ap.grown {a v v' : Value} {W : World} (h : Ap a v) (hl : Lt0 a W) (hat : v'.ownBlock = v.ownBlock ∨ v'.ownBlock = some W.heap.size) : Ap a v' := fun g h1 h2 => by
  rcases hat with e | e
  · rw [e] at h2; exact h g h1 h2
  · rw [e] at h2; injection h2 with h2; have := hl g h1; omega
section
variable {base : Nat} {ls : List ByteArray} {s : ByteArray} {k : Nat} {bx : Bool} {v u x : Value} {W W' : World}
theorem Chn.kept (h : Chn base ls s k bx v u W) (hg : W.grownBy W' x.ownBlock) (h1 : Ap v x) (h2 : Ap u x) : Chn base ls s k bx v u W' := by
  have ne : v.ownBlock = none ∨ v.ownBlock ≠ x.ownBlock := by
    cases e : v.ownBlock with
    | none => exact .inl rfl
    | some g => exact .inr (fun e2 => h1 g e e2.symm)
  exact ⟨fun e => (h.r1 e).kept hg ne, fun e => (h.r2 e).kept hg ne, fun e => (h.r3 e).kept hg ne, h.z, h.bz, fun e => by
    obtain ⟨g, e1, e2, e4⟩ := h.b e; exact ⟨g, e1, e2.kept hg (fun e3 => h2 g (by rw [e1]; rfl) e3.symm), e4⟩⟩
theorem Chn.up (h : Chn base ls s k bx v u W) (o : Obj) : Chn base ls s k bx v u (W.alloc o) :=
  h.kept (x := .slice none 0 0) (zae (zac W o) _) (fun g _ e => by simp [Value.ownBlock] at e) (fun g _ e => by simp [Value.ownBlock] at e)
end
structure WJ (V : World) (rb : Nat) (tb : TypeId) (arr : Array Value) (l1 : List ByteArray) (s1 : ByteArray) (l2 : List ByteArray) (s2 : ByteArray) (k1 k2 : Nat) (b1 b2 : Bool) (v1 u1 v2 u2 : Value) (W : World) : Prop where
  c1 : Chn (rb + 1) l1 s1 k1 b1 v1 u1 W
  c2 : Chn (rb + 1) l2 s2 k2 b2 v2 u2 W
  a1 : Ap v1 u1
  a2 : Ap v1 v2
  a3 : Ap v1 u2
  a4 : Ap u1 v2
  a5 : Ap u1 u2
  a6 : Ap v2 u2
  t1 : Lt0 v1 W
  t2 : Lt0 u1 W
  t3 : Lt0 v2 W
  t4 : Lt0 u2 W
  gr : Below rb V W
  res : Blk W rb tb arr
  hb : rb + 1 ≤ W.heap.size
section
variable {w V W W' : World} {rb : Nat} {tb : TypeId} {arr : Array Value} {l1 l2 : List ByteArray} {s1 s2 : ByteArray} {k1 k2 k' : Nat} {b1 b2 : Bool} {v1 u1 v2 u2 v' : Value}
theorem WJ.swap (h : WJ V rb tb arr l1 s1 l2 s2 k1 k2 b1 b2 v1 u1 v2 u2 W) : WJ V rb tb arr l2 s2 l1 s1 k2 k1 b2 b1 v2 u2 v1 u1 W :=
  ⟨h.c2, h.c1, h.a6, h.a2.symm, h.a4.symm, h.a3.symm, h.a5.symm, h.a1, h.t3, h.t4, h.t1, h.t2, h.gr, h.res, h.hb⟩
theorem zia {W : World} {n c : Nat} : ∀ g, (Value.slice (some ⟨W.heap.size, 0, none⟩) n c).ownBlock = some g → W.heap.size ≤ g := fun g e => by simp [Value.ownBlock] at e; omega
theorem ltNew {W : World} {n c : Nat} (o : Obj) : Lt0 (.slice (some ⟨W.heap.size, 0, none⟩) n c) (W.alloc o) := fun g e => by simp [Value.ownBlock] at e; simp; omega
theorem WJ.made (h : WJ V rb tb arr l1 s1 l2 s2 0 k2 b1 b2 v1 u1 v2 u2 W) : WJ V rb tb arr l1 s1 l2 s2 1 k2 b1 b2 (.slice (some ⟨W.heap.size, 0, none⟩) 0 0) u1 v2 u2 (W.alloc (.cells #[] 9)) := by
  have hs : W.heap.size ≤ (W.alloc (.cells #[] 9)).heap.size := qag; have c := h.c1.up (.cells #[] 9)
  exact ⟨⟨fun _ => ⟨rfl, .inr ⟨W.heap.size, 0, #[], rfl, h.hb, heap_alloc_new W _, nl _, by unfold maxLen; omega, rfl, rfl⟩⟩, fun e => by omega, fun e => by omega, fun e => by omega, c.bz, c.b⟩, h.c2.up _,
    (Ap.new h.t2 zia).symm, (Ap.new h.t3 zia).symm, (Ap.new h.t4 zia).symm, h.a4, h.a5, h.a6, ltNew _, h.t2.mono hs, h.t3.mono hs, h.t4.mono hs, h.gr.alloc qew _, h.res.alloc _, by have := h.hb; omega⟩
theorem WJ.boxed (h : WJ V rb tb arr l1 s1 l2 s2 k1 k2 false b2 v1 u1 v2 u2 W) : WJ V rb tb arr l1 s1 l2 s2 k1 k2 true b2 v1 (.slice (some ⟨W.heap.size, 0, none⟩) 1 1) v2 u2 (W.alloc (.cells #[.string s1] 9)) := by
  have hs : W.heap.size ≤ (W.alloc (.cells #[.string s1] 9)).heap.size := qag; have c := h.c1.up (.cells #[.string s1] 9)
  exact ⟨⟨c.r1, c.r2, c.r3, c.z, fun e => qar, fun _ => ⟨_, rfl, Blk.new W _ _, h.hb⟩⟩, h.c2.up _,
    Ap.new h.t1 zia, h.a2, h.a3, (Ap.new h.t3 zia).symm, (Ap.new h.t4 zia).symm, h.a6, h.t1.mono hs, ltNew _, h.t3.mono hs, h.t4.mono hs, h.gr.alloc qew _, h.res.alloc _, by have := h.hb; omega⟩
theorem WJ.grown (h : WJ V rb tb arr l1 s1 l2 s2 k1 k2 b1 b2 v1 u1 v2 u2 W) (hk : k1 = 1 ∨ k1 = 2) (hk' : k' = 2 ∨ k' = 3) (h2 : k' = 2 → W'.ownsRow (rb + 1) 9 1 v' l1.length (tcl l1)) (h3 : k' = 3 → W'.ownsRow (rb + 1) 9 1 v' (l1.length + 1) (tcl l1 ++ [.string s1]))
    (hg : W.grownBy W' v1.ownBlock) (hat : v'.ownBlock = v1.ownBlock ∨ v'.ownBlock = some W.heap.size) : WJ V rb tb arr l1 s1 l2 s2 k' k2 b1 b2 v' u1 v2 u2 W' := by
  have hs := hg.size
  have a7 : ∀ g, v1.ownBlock = some g → rb + 1 ≤ g := fun g e => by
    rcases hk with e1 | e1
    · exact ((h.c1.r1 e1).lt g e).1
    · exact ((h.c1.r2 e1).lt g e).1
  have hlt : Lt0 v' W' := fun g e => by
    rcases hk' with e1 | e1
    · exact ((h2 e1).lt g e).2
    · exact ((h3 e1).lt g e).2
  exact ⟨⟨fun e => by omega, h2, h3, fun e => by omega, h.c1.bz, fun e => by
      obtain ⟨g, e1, e2, e4⟩ := h.c1.b e; exact ⟨g, e1, e2.kept hg (fun e3 => h.a1 g e3.symm (by rw [e1]; rfl)), e4⟩⟩, h.c2.kept hg h.a2.symm h.a3.symm,
    (h.a1.symm.grown h.t2 hat).symm, (h.a2.symm.grown h.t3 hat).symm, (h.a3.symm.grown h.t4 hat).symm, h.a4, h.a5, h.a6, hlt, h.t2.mono hs, h.t3.mono hs, h.t4.mono hs,
    h.gr.grown hg qew (fun k e => by have := a7 k e; omega), h.res.kept hg (fun e => by have := a7 rb e.symm; omega), by have := h.hb; omega⟩
theorem Chn.far {base : Nat} {ls : List ByteArray} {s : ByteArray} {k : Nat} {bx : Bool} {v u : Value} {W : World} {g c d : Nat} (h : Chn base ls s k bx v u W) (hk : k = 3) (hg : g < base) : Ap v (.slice (some ⟨g, 0, none⟩) c d) ∧ (bx = true → Ap u (.slice (some ⟨g, 0, none⟩) c d)) ∧ (bx = false → Ap u (.slice (some ⟨g, 0, none⟩) c d)) := by
  refine ⟨fun x e e2 => ?_, fun hb x e e2 => ?_, fun hb x e => ?_⟩
  · have := ((h.r3 hk).lt x e).1; simp [Value.ownBlock] at e2; omega
  · obtain ⟨y, e3, _, e4⟩ := h.b hb
    rw [e3] at e; simp [Value.ownBlock] at e e2; omega
  · rw [h.bz hb] at e; simp [undef, Value.ownBlock] at e
theorem Chn.far2 {base : Nat} {ls : List ByteArray} {s : ByteArray} {k : Nat} {bx : Bool} {v u : Value} {W : World} {g c d : Nat} (h : Chn base ls s k bx v u W) (hk : k = 3) (hg : g < base) : Ap u (.slice (some ⟨g, 0, none⟩) c d) := by
  cases bx
  · exact (h.far hk hg).2.2 rfl
  · exact (h.far hk hg).2.1 rfl
theorem WJ.put (h : WJ V rb tb arr l1 s1 l2 s2 3 3 b1 b2 v1 u1 v2 u2 W) (a b : Value) : WJ V rb tb ((arr.setIfInBounds 0 a).setIfInBounds 1 b) l1 s1 l2 s2 3 3 b1 b2 v1 u1 v2 u2 ((W.setCell ⟨rb, 0, none⟩ a).setCell ⟨rb, 1, none⟩ b) := by
  have hs : ((W.setCell ⟨rb, 0, none⟩ a).setCell ⟨rb, 1, none⟩ b).heap.size = W.heap.size := qbl; have hb1 : Below rb W ((W.setCell ⟨rb, 0, none⟩ a).setCell ⟨rb, 1, none⟩ b) := ((Below.refl rb W).setCell (p := ⟨rb, 0, none⟩) (nl rb) a).setCell (p := ⟨rb, 1, none⟩) (nl rb) b
  have hg : W.grownBy ((W.setCell ⟨rb, 0, none⟩ a).setCell ⟨rb, 1, none⟩ b) (Value.slice (some ⟨rb, 0, none⟩) 0 0).ownBlock := ⟨hb1.os, hb1.tape, hb1.output, hb1.size, fun i _ hne => by
    have hi : i ≠ rb := fun e => hne (by rw [e]; rfl); exact (hs_ _ _ _ i hi).trans (hs_ _ _ _ i hi)⟩
  exact ⟨h.c1.kept hg (h.c1.far rfl (Nat.lt_succ_self _)).1 (h.c1.far2 rfl (Nat.lt_succ_self _)), h.c2.kept hg (h.c2.far rfl (Nat.lt_succ_self _)).1 (h.c2.far2 rfl (Nat.lt_succ_self _)),
    h.a1, h.a2, h.a3, h.a4, h.a5, h.a6, h.t1.mono (Nat.le_of_eq hs.symm), h.t2.mono (Nat.le_of_eq hs.symm), h.t3.mono (Nat.le_of_eq hs.symm), h.t4.mono (Nat.le_of_eq hs.symm), h.gr.trans hb1, (h.res.set 0 a).set 1 b, by rw [hs]; exact h.hb⟩
end
theorem zdd {P : Program} {w : World} (sz : Nat) (hsz0 : 0 < sz) {ops : Array Oper} {o : Oper} {a : Act} {K : Act → World → Prop} {Q : Exit → Act → World → Prop} {E : Prop} (hgd : o.guard = none) (s x : Operand) (t : TypeId)
    (ho : o.op = .call { callee := .builtin .append, args := #[s, x], argTypes := #[t, t] })
    (base : Nat) (e : TypeId) (i : TypeInfo) (z : Value) (bytes : Nat) (ht : P.underlying t = some (.slice e)) (hi : P.info? e = some i) (hz : i.zero = some z)
    (hsize : i.size = sz) (hby : i.bytes = bytes) (hzs : z.cells.size = sz)
    (v : Value) (n : Nat) (xs : List Value) (hs : a.eval s = v) (hown : w.ownsRow base e sz v n xs)
    (A : Option Addr) (m c : Nat) (news : List Value) (hx : a.eval x = .slice A m c) (hsrc : SrcZ sz w A m news) (h1 : ∀ u ∈ news, u.oneCell' = true)
    (h63 : n + m ≤ maxLen) (hbytes : (n + m) * bytes ≤ 140737488355328) (hbase : base ≤ w.heap.size)
    (h : ∀ v' w', w'.ownsRow base e sz v' (n + m) (xs ++ news) → w.grownBy w' v.ownBlock → (v'.ownBlock = v.ownBlock ∨ v'.ownBlock = some w.heap.size) → K (a.put o.dst v') w') :
    if Region.wanted o (yielded ops a.tmps) = true then Oper.wp P o a w K Q else E := by
  have hw : Region.wanted o (yielded ops a.tmps) = true := by simp [Region.wanted, hgd]
  rw [if_pos hw]; obtain ⟨hl, hc, hn⟩ := hsrc
  cases A with
  | none =>
    have hm := hn rfl; subst hm; have a2 : news = [] := List.eq_nil_of_length_eq_zero (by simpa using hl); subst a2; have a3 := zgv (P := P) base t o.type e i sz ht hi v n c xs hown; unfold Oper.wp execOp; simp only [ho, resolve, invoke, builtin, Sem.run_bind, Sem.run_pure, Result.andThen_ok, List.map_toArray, List.map_cons, List.map_nil, hs, hx, a3]
    exact h v w (by simpa using hown) (World.grownBy.refl w _) (.inl rfl)
  | some ad =>
    obtain ⟨v', w', hr, h2, h3, _, h5⟩ := run_append_own_at (P := P) w base t o.type e i z sz bytes ht hi hz hsize hby hzs hsz0 v n xs hown ad m c news hl (hc ad rfl) h1 h63 hbytes hbase; unfold Oper.wp execOp; simp only [ho, resolve, invoke, builtin, Sem.run_bind, Sem.run_pure, Result.andThen_ok, List.map_toArray, List.map_cons, List.map_nil, hs, hx, hr]; exact h v' w' h2 h3 h5
theorem zqh {w : World} {lo hi n c : Nat} {A : Option Addr} {ls : List ByteArray} (h : IsTexts w lo hi A n c ls) : SrcZ 1 w A n (tcl ls) := by
  refine ⟨by unfold tcl; rw [List.length_map, h.1, Nat.mul_one], fun ad hA j u hu => ?_, fun hA => ?_⟩
  · subst hA; exact h.cells j u hu
  · rcases Nat.eq_zero_or_pos n with h0 | h0
    · exact h0
    · obtain ⟨p, hp, _⟩ := h.2.2.2 h0; rw [hA] at hp; cases hp
theorem zfo {W : World} {base n : Nat} {v : Value} {ls : List ByteArray} {s : ByteArray} (h : W.ownsRow base 9 1 v (ls.length + 1) (tcl ls ++ [.string s])) {lo : Nat} (hlo : lo ≤ base) (hn : n = ls.length + 1) : ∃ p c, v = .slice (some p) n c ∧ IsTexts W lo W.heap.size (some p) n c (ls ++ [s]) := by
  have e : tcl ls ++ [.string s] = tcl (ls ++ [s]) := by unfold tcl; simp
  rw [e] at h; obtain ⟨p, c, e1, e2⟩ := znp h qaa hlo; have e3 : (ls ++ [s]).length = n := by rw [List.length_append, hn]; rfl
  rw [e3] at e1 e2; exact ⟨p, c, e1, e2⟩
theorem l4With_any (A B : Option Addr) (n c m d : Nat) (b : Bd) (x y : ByteArray) (w : World) (h : IsTexts w 0 w.heap.size A n c (b.map (·.1))) (h' : IsTexts w 0 w.heap.size B m d (b.map (·.2))) (hb : b.length ≤ 1048576) :
    Calls Tryz.prog 203 #[.agg #[.slice A n c, .slice B m d], .string x, .string y] w fun e w' => ∃ A' n' c' B' m' d', e = .returned (.agg #[.slice A' n' c', .slice B' m' d']) ∧ IsTexts w' w.heap.size w'.heap.size A' n' c' ((b ++ [(x, y)]).map (·.1)) ∧ IsTexts w' w.heap.size w'.heap.size B' m' d' ((b ++ [(x, y)]).map (·.2)) ∧ Below w.heap.size w w' := by
  have h1 := hid (show n = b.length by rw [← h.1, List.length_map]); have h2 := hid (show m = b.length by rw [← h'.1, List.length_map]); have H := hid h; have H' := hid h'; clear h h'; obtain ⟨i0, hi, hz, hsz, hby⟩ := info_parts Tryz.infoText; have g6 := zbj w (.cells #[.slice A n c, .slice B m d] 230) (.cells #[.slice none 0 0, .slice none 0 0] 230); have X0 := ((Box.new w (.slice A n c) (.slice B m d) 230).up (.cells #[.slice none 0 0, .slice none 0 0] 230))
  have R0 := Blk.new (w.alloc (.cells #[.slice A n c, .slice B m d] 230)) 230 #[.slice none 0 0, .slice none 0 0]; go_enter Tryz.func203, Tryz.ntmps203; go_wp2_with fail; obtain ⟨V, hV⟩ : ∃ V, ((w.alloc (.cells #[.slice A n c, .slice B m d] 230)).alloc (.cells #[.slice none 0 0, .slice none 0 0] 230)).drew = V := ⟨_, rfl⟩; refine wp_region_held_drew (S := fun W => W.cell? ⟨w.heap.size, 0, none⟩ = some (.slice A n c) ∧ W.cell? ⟨w.heap.size, 1, none⟩ = some (.slice B m d)) qab ?_ ?_
  · exact ⟨X0.2.1, X0.2.2⟩
  rw [hV]; intro hS_; refine tk 1 (.pointer (some ⟨w.heap.size, 0, none⟩)) hS_ ?_; refine tk 2 (.slice A n c) hS_ ?_; refine tk 4 (.string x) hS_ ?_; refine tk 8 (.pointer (some ⟨w.heap.size, 1, none⟩)) hS_ ?_; refine tk 9 (.slice B m d) hS_ ?_; refine tk 11 (.string y) hS_ ?_; obtain ⟨bn, g0⟩ : ∃ z, b.map (·.1) = z := ⟨_, rfl⟩; obtain ⟨bv, e8⟩ : ∃ z, b.map (·.2) = z := ⟨_, rfl⟩; have ln : bn.length = b.length := by rw [← g0, List.length_map]
  have lv : bv.length = b.length := by rw [← e8, List.length_map]
  rw [g0] at H; rw [e8] at H'; have g2 := hid g0; have HBV := hid e8; clear g0 e8
  have J0 : WJ V (w.heap.size + 1) 230 #[.slice none 0 0, .slice none 0 0] bn x bv y 0 0 false false undef undef undef undef V := by
    have u0 : ∀ g, undef.ownBlock = some g → False := fun g e => by simp [undef, Value.ownBlock] at e
    refine ⟨⟨fun e => by omega, fun e => by omega, fun e => by omega, fun _ => rfl, fun _ => rfl, fun e => by cases e⟩, ⟨fun e => by omega, fun e => by omega, fun e => by omega, fun _ => rfl, fun _ => rfl, fun e => by cases e⟩, Ap.undef _, Ap.undef _, Ap.undef _, Ap.undef _, Ap.undef _, Ap.undef _, fun g e => (u0 g e).elim, fun g e => (u0 g e).elim, fun g e => (u0 g e).elim, fun g e => (u0 g e).elim, Below.refl _ _, ?_, ?_⟩
    · rw [← hV]; have h := R0; rw [show (w.alloc (.cells #[.slice A n c, .slice B m d] 230)).heap.size = w.heap.size + 1 by simp] at h; exact h
    · rw [← hV]; show w.heap.size + 1 + 1 ≤ ((w.alloc _).alloc _).heap.size; simp
  have hVw : Below w.heap.size w V := by rw [← hV]; exact g6.drew
  have bel : ∀ W, Below (w.heap.size + 1) V W → Below w.heap.size w W := fun W hb => hVw.trans (hb.mono (Nat.le_succ _)); have HVS := hid hS_; clear hV hS_ X0 R0; have SN : Hid (∀ W, Below w.heap.size w W → SrcZ 1 W A n (tcl bn)) := hid (fun W hb => zqh (H.out.below TextE.stays hb (nl _))); have SM : Hid (∀ W, Below w.heap.size w W → SrcZ 1 W B m (tcl bv)) := hid (fun W hb => zqh (H'.out.below TextE.stays hb (nl _))); refine zem (I := fun (L : Array Bool) (a : Act) (W : World) => ∃ (k1 k2 : Nat) (f5 a4 b4 b6 : Bool) (x7 a6 b9 a7 a8 b7 x21 v1 v2 b5 a9 : Value) (arr : Array Value), L = #[decide (1 ≤ k1), true, true, decide (2 ≤ k1), true, f5, decide (3 ≤ k1), decide (1 ≤ k2), true, true, decide (2 ≤ k2), true, a4, decide (3 ≤ k2), b4, b6] ∧ a = ⟨#[.agg #[.slice A n c, .slice B m d], .string x, .string y, .pointer (some ⟨w.heap.size, 0, none⟩), undef, undef, .pointer (some ⟨w.heap.size + 1, 0, none⟩), x7, .pointer (some ⟨w.heap.size, 0, none⟩), .slice A n c, a6, .string x, b5, b9, a7, .pointer (some ⟨w.heap.size, 1, none⟩), .slice B m d, a8, .string y, a9, b7, x21], []⟩ ∧ (k1 = 1 → x7 = v1) ∧ (k1 = 2 → a6 = v1) ∧ (k1 = 3 → b9 = v1) ∧ (k2 = 1 → a7 = v2) ∧ (k2 = 2 → a8 = v2) ∧ (k2 = 3 → b7 = v2) ∧ k1 ≤ 3 ∧ k2 ≤ 3 ∧ (b4 = true → x21 = .agg #[v1, v2] ∧ k1 = 3 ∧ k2 = 3) ∧ (b6 = true → b4 = true) ∧ arr = (if b6 = true then #[v1, v2] else #[.slice none 0 0, .slice none 0 0]) ∧ WJ V (w.heap.size + 1) 230 arr bn x bv y k1 k2 f5 a4 v1 b5 v2 a9 W) ?keep ?step ?fin _ _ _ _ ?lf ⟨0, 0, false, false, false, false, undef, undef, undef, undef, undef, undef, undef, undef, undef, undef, undef, _, rfl, rfl, fun e => by omega, fun e => by omega, fun e => by omega, fun e => by omega, fun e => by omega, fun e => by omega, by omega, by omega, fun e => qar, fun e => qar, rfl, J0⟩
  case lf => decide
  case keep =>
    rintro L a W ⟨k1, k2, f5, a4, b4, b6, x7, a6, b9, a7, a8, b7, x21, v1, v2, b5, a9, arr, -, -, -, -, -, -, -, -, -, -, -, -, -, J⟩; exact ⟨(J.gr.cell (p := ⟨w.heap.size, 0, none⟩) (Nat.lt_succ_self _)).trans HVS.out.1, (J.gr.cell (p := ⟨w.heap.size, 1, none⟩) (Nat.lt_succ_self _)).trans HVS.out.2⟩
  case step =>
    rintro L a W i o ⟨k1, k2, f5, a4, b4, b6, x7, a6, b9, a7, a8, b7, x21, v1, v2, b5, a9, arr, rfl, rfl, e7, c7, d7, c3, d4, d9, hk1, hk2, e6, c0, rfl, J⟩ ho h0 hd K hK; have g1 : i < 16 := qbt; have g5 : i = 0 ∨ i = 1 ∨ i = 2 ∨ i = 3 ∨ i = 4 ∨ i = 5 ∨ i = 6 ∨ i = 7 ∨ i = 8 ∨ i = 9 ∨ i = 10 ∨ i = 11 ∨ i = 12 ∨ i = 13 ∨ i = 14 ∨ i = 15 := qaa; have a5 : b4 = false → b6 = false := fun e => by cases b6 with | false => rfl | true => have := c0 rfl; rw [e] at this; cases this
    have b3 : ∀ {j : Nat}, (k1 = 3 → k2 = 3 → False) → b4 = false := fun hj => by cases b4 with | false => rfl | true => exact (hj (e6 rfl).2.1 (e6 rfl).2.2).elim
    rcases g5 with rfl | rfl | rfl | rfl | rfl | rfl | rfl | rfl | rfl | rfl | rfl | rfl | rfl | rfl | rfl | rfl
    all_goals (injection ho with ho; subst ho)
    · have hk : k1 = 0 := by simp at h0; omega
      subst hk; have a2 := b3 (j := 0) qci; have a3 := a5 a2; subst a2; subst a3; rw [if_pos qad]; go_simp; refine hK.out _ _ ⟨1, k2, f5, a4, false, false, (.slice (some ⟨W.heap.size, 0, none⟩) 0 0), a6, b9, a7, a8, b7, x21, (.slice (some ⟨W.heap.size, 0, none⟩) 0 0), v2, b5, a9, _, rfl, rfl, fun _ => rfl, fun e => by omega, fun e => by omega, c3, d4, d9, by omega, by omega, fun e => qar, c0, rfl, ?_⟩; exact J.made
    · simp at h0
    · simp at h0
    · have d0 := hd ⟨0, .data⟩ qag rfl
      have hk : k1 = 1 := qcz; subst hk; have a2 := b3 (j := 0) qci; have a3 := a5 a2; subst a2; subst a3; have hx := e7 rfl; subst hx; refine zdd 1 qaa qad _ _ _ qad (w.heap.size + 1 + 1) 9 i0 _ 16 Tryz.underlying71 hi hz hsz hby rfl x7 0 [] qad (J.c1.r1 rfl) A n c (tcl bn) qad (SN.out _ (bel _ J.gr)) (tcl_one _) (by have := h1.out; have := h2.out; unfold maxLen; omega) (by have := h1.out; have := h2.out; omega) J.hb ?_; intro v9 W9 hown hgrow hat; have hJ := J.grown (k' := 2) (.inl rfl) (.inl rfl) (fun _ => by rw [Nat.zero_add, List.nil_append, h1.out, ← ln] at hown; exact hown) qde hgrow hat
      refine hK.out _ _ ⟨2, k2, f5, a4, false, false, x7, v9, b9, a7, a8, b7, x21, v9, v2, b5, a9, _, rfl, rfl, fun e => by omega, fun _ => rfl, fun e => by omega, c3, d4, d9, by omega, by omega, fun e => qar, c0, rfl, hJ⟩
    · simp at h0
    · have hf : f5 = false := qbg
      subst hf; rw [if_pos qad]; go_simp; refine hK.out _ _ ⟨k1, k2, true, a4, b4, b6, x7, a6, b9, a7, a8, b7, x21, v1, v2, (.slice (some ⟨W.heap.size, 0, none⟩) 1 1), a9, _, rfl, rfl, e7, c7, d7, c3, d4, d9, hk1, hk2, e6, c0, rfl, ?_⟩; exact J.boxed
    · have d0 := hd ⟨3, .data⟩ qag rfl
      have d1 := hd ⟨5, .data⟩ qag rfl; have hk : k1 = 2 := qcz; have hf : f5 = true := qdu; subst hk; subst hf; have a2 := b3 (j := 0) qci; have a3 := a5 a2; subst a2; subst a3; have hx := c7 rfl; subst hx; obtain ⟨gb, rfl, hB, -⟩ := J.c1.b rfl; refine zdd 1 qaa qad _ _ _ qad (w.heap.size + 1 + 1) 9 i0 _ 16 Tryz.underlying71 hi hz hsz hby rfl a6 _ _ qad (J.c1.r2 rfl) (some ⟨gb, 0, none⟩) 1 1 [.string x] qad (zga _ _ _ _ hB) qal qaf qaa J.hb ?_; intro v9 W9 hown hgrow hat; have hJ := J.grown (k' := 3) (.inr rfl) (.inr rfl) qde (fun _ => hown) hgrow hat; refine hK.out _ _ ⟨3, k2, true, a4, false, false, x7, a6, v9, a7, a8, b7, x21, v9, v2, _, a9, _, rfl, rfl, fun e => by omega, fun e => by omega, fun _ => rfl, c3, d4, d9, by omega, by omega, fun e => qar, c0, rfl, hJ⟩
    · have hk : k2 = 0 := by simp at h0; omega
      subst hk; have a2 := b3 (j := 0) qci; have a3 := a5 a2; subst a2; subst a3; rw [if_pos qad]; go_simp; refine hK.out _ _ ⟨k1, 1, f5, a4, false, false, x7, a6, b9, (.slice (some ⟨W.heap.size, 0, none⟩) 0 0), a8, b7, x21, v1, (.slice (some ⟨W.heap.size, 0, none⟩) 0 0), b5, a9, _, rfl, rfl, e7, c7, d7, fun _ => rfl, fun e => by omega, fun e => by omega, by omega, by omega, fun e => qar, c0, rfl, ?_⟩; exact J.swap.made.swap
    · simp at h0
    · simp at h0
    · have d0 := hd ⟨7, .data⟩ qag rfl
      have hk : k2 = 1 := qcz; subst hk; have a2 := b3 (j := 0) qci; have a3 := a5 a2; subst a2; subst a3; have hx := c3 rfl; subst hx; refine zdd 1 qaa qad _ _ _ qad (w.heap.size + 1 + 1) 9 i0 _ 16 Tryz.underlying71 hi hz hsz hby rfl a7 0 [] qad (J.swap.c1.r1 rfl) B m d (tcl bv) qad (SM.out _ (bel _ J.gr)) (tcl_one _) (by have := h1.out; have := h2.out; unfold maxLen; omega) (by have := h1.out; have := h2.out; omega) J.hb ?_; intro v9 W9 hown hgrow hat; have hJ := J.swap.grown (k' := 2) (.inl rfl) (.inl rfl) (fun _ => by rw [Nat.zero_add, List.nil_append, h2.out, ← lv] at hown; exact hown) qde hgrow hat
      refine hK.out _ _ ⟨k1, 2, f5, a4, false, false, x7, a6, b9, a7, v9, b7, x21, v1, v9, b5, a9, _, rfl, rfl, e7, c7, d7, fun e => by omega, fun _ => rfl, fun e => by omega, by omega, by omega, fun e => qar, c0, rfl, hJ.swap⟩
    · simp at h0
    · have hf : a4 = false := qbg
      subst hf; rw [if_pos qad]; go_simp; refine hK.out _ _ ⟨k1, k2, f5, true, b4, b6, x7, a6, b9, a7, a8, b7, x21, v1, v2, b5, (.slice (some ⟨W.heap.size, 0, none⟩) 1 1), _, rfl, rfl, e7, c7, d7, c3, d4, d9, hk1, hk2, e6, c0, rfl, ?_⟩; exact J.swap.boxed.swap
    · have d0 := hd ⟨10, .data⟩ qag rfl
      have d1 := hd ⟨12, .data⟩ qag rfl; have hk : k2 = 2 := qcz; have hf : a4 = true := qdu; subst hk; subst hf; have a2 := b3 (j := 0) qci; have a3 := a5 a2; subst a2; subst a3; have hx := d4 rfl; subst hx; obtain ⟨gb, rfl, hB, -⟩ := J.swap.c1.b rfl; refine zdd 1 qaa qad _ _ _ qad (w.heap.size + 1 + 1) 9 i0 _ 16 Tryz.underlying71 hi hz hsz hby rfl a8 _ _ qad (J.swap.c1.r2 rfl) (some ⟨gb, 0, none⟩) 1 1 [.string y] qad (zga _ _ _ _ hB) qal qaf qaa J.hb ?_; intro v9 W9 hown hgrow hat; have hJ := J.swap.grown (k' := 3) (.inr rfl) (.inr rfl) qde (fun _ => hown) hgrow hat; refine hK.out _ _ ⟨k1, 3, f5, true, false, false, x7, a6, b9, a7, a8, v9, x21, v1, v9, b5, _, _, rfl, rfl, e7, c7, d7, fun e => by omega, fun e => by omega, fun _ => rfl, by omega, by omega, fun e => qar, c0, rfl, hJ.swap⟩
    · have d0 := hd ⟨6, .data⟩ qag rfl
      have d1 := hd ⟨13, .data⟩ qag rfl; have hk : k1 = 3 := by simp at d0; omega
      have hk2 : k2 = 3 := by simp at d1; omega
      have hl : b4 = false := qbg; have a3 := a5 hl; subst hk; subst hk2; subst hl; subst a3; have hx := d7 rfl; have hy := d9 rfl; subst hx; subst hy; obtain ⟨p1, c1, q1, -⟩ := zfo (n := b.length + 1) (J.c1.r3 rfl) (Nat.zero_le _) qaa; obtain ⟨p2, c2, q2, -⟩ := zfo (n := b.length + 1) (J.c2.r3 rfl) (Nat.zero_le _) qaa; subst q1; subst q2; clear hd h0; rw [if_pos qad]; go_simp; refine hK.out _ _ ⟨3, 3, f5, a4, true, false, x7, a6, _, a7, a8, _, _, _, _, b5, a9, _, rfl, rfl, e7, c7, fun _ => rfl, c3, d4, fun _ => rfl, by omega, by omega, fun _ => ⟨rfl, rfl, rfl⟩, fun e => qar, rfl, J⟩
    · have d0 := hd ⟨14, .data⟩ qag rfl
      have hl : b4 = true := by simpa using d0
      have hl2 : b6 = false := qbg; subst hl; subst hl2; obtain ⟨hx, hk, hk2⟩ := e6 rfl; subst hx; subst hk; subst hk2; obtain ⟨p1, c1, q1, -⟩ := zfo (n := b.length + 1) (J.c1.r3 rfl) (Nat.zero_le _) qaa; obtain ⟨p2, c2, q2, -⟩ := zfo (n := b.length + 1) (J.c2.r3 rfl) (Nat.zero_le _) qaa; subst q1; subst q2; clear hd h0; have r2 : W.cell? ⟨w.heap.size + 1, 0, none⟩ = some (.slice none 0 0) := J.res.cell 0; have r3 : W.cell? ⟨w.heap.size + 1, 1, none⟩ = some (.slice none 0 0) := J.res.cell 1; have r4 := J.res.frozen 0; have r5 := J.res.frozen 1; rw [if_pos qad]; go_simp; refine hK.out _ _ ⟨3, 3, f5, a4, true, true, x7, a6, _, a7, a8, _, _, _, _, b5, a9, _, rfl, rfl, e7, c7, fun _ => rfl, c3, d4, fun _ => rfl, by omega, by omega, fun _ => ⟨rfl, rfl, rfl⟩, fun _ => rfl, rfl, ?_⟩
      exact J.put _ _
  case fin =>
    rintro L a W ⟨k1, k2, f5, a4, b4, b6, x7, a6, b9, a7, a8, b7, x21, v1, v2, b5, a9, arr, rfl, rfl, e7, c7, d7, c3, d4, d9, hk1, hk2, e6, c0, rfl, J⟩ hr; have up := all_up qab rfl hr; have hl : b6 = true := up 15 qan; subst hl; obtain ⟨hx, hk, hk2⟩ := e6 (c0 rfl); subst hx; subst hk; subst hk2; have hx := d7 rfl; have hy := d9 rfl; subst hx; subst hy; obtain ⟨p1, c1, q1, i1⟩ := zfo (n := b.length + 1) (lo := w.heap.size) (J.c1.r3 rfl) qaa qaa; obtain ⟨p2, c2, q2, i2⟩ := zfo (n := b.length + 1) (lo := w.heap.size) (J.c2.r3 rfl) qaa qaa; subst q1; subst q2; have r2 : W.cell? ⟨w.heap.size + 1, 0, none⟩ = some (.slice (some p1) (b.length + 1) c1) := J.res.cell 0
    have r3 : W.cell? ⟨w.heap.size + 1, 1, none⟩ = some (.slice (some p2) (b.length + 1) c2) := J.res.cell 1; have hgr := hid (bel _ J.gr); clear J up hr; have K1 := hid i1; have K2 := hid i2; clear i1 i2; go_wp2; refine bodyPost_ret (v := .agg #[.slice (some p1) (b.length + 1) c1, .slice (some p2) (b.length + 1) c2]) (by simp [results, Tryz.results203, go_sem, r2, r3]) rfl ⟨_, _, _, _, _, _, rfl, by rw [g2.out]; exact K1.out, by rw [HBV.out]; exact K2.out, hgr.out⟩
end Go.Proofs.YtogonjkklioaaaaGreatDoor
