/-
  Texts of one claim, put together.
-/
import Derived.Test.YtcigljngiemdeaaGreatAo0
import Derived.Test.YtcigljngiemdeaaGreatAo32
import Derived.Sort.OwnSorted
import Derived.Test.YtcigljngiemdeaaGreatAo2
import Derived.Test.YtcigljngiemdeaaGreatAo31
set_option maxRecDepth 100000
set_option maxHeartbeats 8000000
namespace Go.Proofs.YtcigljngiemdeaaGreat
open Go.RowKit Go.Sort
def sortR (Ls : List (List ByteArray)) : List (List ByteArray) := Ls.mergeSort fun x y => !(Go.Proofs.ltOf rowCmp) y x
theorem texts_any {W : World} {base : Nat} {v : Value} {ls : List ByteArray} (h : W.ownsRow base 9 1 v ls.length (tcl ls)) : ∃ A c, v = .slice A ls.length c ∧ IsTexts W 0 W.heap.size A ls.length c ls := by
  by_cases h0 : 0 < ls.length
  · obtain ⟨p, c, h1, h2⟩ := texts_own h h0 (Nat.zero_le _)
    exact ⟨_, c, h1, h2⟩
  · obtain ⟨A, c, e, h1, h2⟩ := ownsRow_form h
    exact ⟨A, c, e, rfl, h1, h2, fun hn => absurd hn h0⟩
theorem row_grown {α : Type} {w : World} {g n : Nat} {os : Array Obj} (enc : α → Value) [Inhabited α] (d : Array α) : w.grownBy (grow (putRow enc (Sort.ahead w n) g 0 d) os) (some g) := by
  refine ⟨rfl, rfl, rfl, by simp, fun k hk hne => ?_⟩; rw [heap_grow_old _ _ qde]; have : g ≠ k := fun e => hne (by rw [e]); simp [putRow, mapBlock, Sort.ahead, Array.getElem?_modify, this]
theorem row_take {α : Type} [Inhabited α] (enc : α → Value) (cur : Array Value) (d : Array α) (h : d.size ≤ cur.size) : (putCells enc 0 d cur).toList.take d.size = d.toList.map enc := by
  apply List.ext_getElem?; intro j; by_cases hj : j < d.size
  · rw [List.getElem?_take_of_lt hj, Array.getElem?_toList]
    simp [putCells, hj, show j < cur.size by omega]
  · rw [List.getElem?_take_eq_none qaa, List.getElem?_eq_none qaf]
theorem row_sorted {α : Type} [Inhabited α] (enc : α → Value) {w : World} {base g cap n m : Nat} {e : TypeId} {os : Array Obj} {cur : Array Value} {d : Array α} (hm : d.size = m) (hbase : base ≤ g) (hb : w.heap[g]? = some (.cells cur e (0, 0))) (h1 : m ≤ cap) (h2 : cap ≤ maxLen) (h3 : cur.size = cap * 1) :
    (grow (putRow enc (Sort.ahead w n) g 0 d) os).ownsRow base e 1 (.slice (some ⟨g, 0, none⟩) m cap) m (d.toList.map enc) := by
  subst hm; refine ⟨by simp, .inr ⟨g, cap, putCells enc 0 d cur, rfl, hbase, ?_, h1, h2, by simp [putCells, h3], by rw [Nat.mul_one]; exact row_take enc cur d qaa⟩⟩; have hg : g < w.heap.size := (Array.getElem?_eq_some_iff.1 hb).1; rw [heap_grow_old _ _ (by simpa using hg)]; simp [putRow, mapBlock, Sort.ahead, Array.getElem?_modify, hb, onCells]
theorem row_holds {α : Type} [Inhabited α] (enc : α → Value) {w : World} {g : Nat} {cur : Array Value} {e : TypeId} {d : Array α} (hb : w.heap[g]? = some (.cells cur e (0, 0))) (ht : cur.toList.take d.size = d.toList.map enc) : Holds enc w g 0 d := by
  intro j hj; refine ⟨?_, by simp [World.frozen?, hb]⟩; have h1 : (cur.toList.take d.size)[j]? = (d.toList.map enc)[j]? := by rw [ht]
  rw [List.getElem?_take_of_lt hj] at h1; simp only [World.cell?, hb, Nat.zero_add]; simp only [Option.isSome_none, Bool.false_eq_true, if_false]; rw [← Array.getElem?_toList, h1]; simp [hj]
theorem zip_one {α : Type} : ∀ {rs : List α} {Ls : List (List ByteArray)}, Ls.Nodup → ∀ p ∈ rs.zip Ls, ∀ q ∈ rs.zip Ls, p.2 = q.2 → p = q
  | [], _, _, p, hp, _, _, _ => by simp at hp
  | _ :: _, [], _, p, hp, _, _, _ => by simp at hp
  | r :: rs, L :: Ls, hd, p, hp, q, hq, e => by
    obtain ⟨h1, h2⟩ := List.nodup_cons.1 hd; rw [List.zip_cons_cons] at hp hq; rcases List.mem_cons.1 hp with hp | hp <;> rcases List.mem_cons.1 hq with hq | hq
    · rw [hp, hq]
    · subst hp; exact absurd (by rw [show L = q.2 from e]; exact (List.of_mem_zip hq).2) h1
    · subst hq; exact absurd (by rw [show L = p.2 from e.symm]; exact (List.of_mem_zip hp).2) h1
    · exact zip_one h2 p hp q hq e
def SortPost (B : Nat) (v : Value) (Ls : List (List ByteArray)) (w : World) (e : Ending) (w' : World) : Prop := e = .returned (.tuple #[]) ∧ ∃ rs', w'.ownsRow B 42 1 v Ls.length rs' ∧ RowsOwn w' B rs' (sortR Ls) ∧ w.grownBy w' v.ownBlock
theorem implSort_any (B : Nat) (v : Value) (rs : List Value) (Ls : List (List ByteArray)) (w : World) (h : w.ownsRow B 42 1 v Ls.length rs) (hr : RowsOwn w B rs Ls) (hd : Ls.Nodup) (hl : Ls.length ≤ 1000000000000) :
    Calls Tryz.prog 49 #[v, .func (.func 50) #[] #[]] w (SortPost B v Ls w) := by
  by_cases h0 : Ls = []
  · subst h0
    have hrs : rs = [] := List.length_eq_zero_iff.1 hr.len; subst hrs; obtain ⟨A, c, rfl, _, _⟩ := ownsRow_form h; refine (Tryz.slices_SortFunc_none (α := Nat) A c _ w).mono ?_; rintro e w' ⟨rfl, rfl⟩; exact ⟨rfl, [], h, by unfold sortR; rw [List.mergeSort_nil]; exact hr, World.grownBy.refl _ _⟩
  · have hlen : 0 < Ls.length := List.length_pos_iff.2 h0
    rcases h.2 with ⟨rfl, h1⟩ | ⟨g, cap, cur, rfl, hg, hb, hc, hm, hsz, htk⟩
    · omega
    · have hz : (rs.zip Ls).length = Ls.length := by rw [List.length_zip, hr.len, Nat.min_self]
      have hne : ∃ p, p ∈ rs.zip Ls := by
        cases hx : rs.zip Ls with
        | nil => rw [hx] at hz; simp at hz; omega
        | cons p l => exact ⟨p, by simp⟩
      obtain ⟨p0, hp0⟩ := hne; let α := {p : Value × List ByteArray // p ∈ rs.zip Ls}
      letI : Inhabited α := ⟨⟨p0, hp0⟩⟩
      let enc : α → Value := fun p => p.1.1; let d : Array α := (rs.zip Ls).attach.toArray
      have hds : d.size = Ls.length := by
        show (rs.zip Ls).attach.toArray.size = Ls.length; rw [List.size_toArray, List.length_attach, hz]
      have hrow : ∀ p ∈ rs.zip Ls, w.ownsRow B 9 1 p.1 p.2.length (tcl p.2) := by
        intro p hp; obtain ⟨i, hi⟩ := List.getElem?_of_mem hp; rw [List.getElem?_zip_eq_some] at hi; exact hr.row i _ _ hi.1 hi.2
      have h1c : OneCell enc := fun x => by
        obtain ⟨A, c, e, _, _⟩ := ownsRow_form (hrow x.1 x.2); show (x.1.1).oneCell' = true; rw [e]; rfl
      have hglt : g < w.heap.size := (Array.getElem?_eq_some_iff.1 hb).1
      have hdl : d.toList.map enc = rs := by
        show (rs.zip Ls).attach.toArray.toList.map (fun i => Prod.fst i.val) = rs; rw [List.toList_toArray, List.attach_map_val, List.map_fst_zip (by rw [hr.len]; exact nl _)]
      have hdL : d.toList.map (fun p : α => p.1.2) = Ls := by
        show (rs.zip Ls).attach.toArray.toList.map (fun i => Prod.snd i.val) = Ls; rw [List.toList_toArray, List.attach_map_val, List.map_snd_zip (by rw [hr.len]; exact nl _)]
      have htx : ∀ {w' : World} {r : Value} {L : List ByteArray}, w.grownBy w' (some g) → w.ownsRow B 9 1 r L.length (tcl L) → w'.ownsRow B 9 1 r L.length (tcl L) := fun {w' r L} hgr hro => by
        refine ownsRow_blocks hro fun k cs _ hk => ?_; refine (hgr.block k (Array.getElem?_eq_some_iff.1 hk).1 fun e => ?_).trans hk; injection e with e; subst e; rw [hb] at hk; injection hk with hk; injection hk with _ e2; exact absurd e2 qal
      have hsort := Tryz.slices_SortFunc_total (α := α) enc h1c (fun x y => rowCmp x.1.2 y.1.2) (row_swo fun x : α => x.1.2) 50 #[] g 0 cap d w (fun args w => by kernel_rfl) (fun m os dk hk x y => by
          have hgr : w.grownBy (sortWorld enc w g 0 m dk os) (some g) := row_grown enc dk; obtain ⟨A1, c1, e1, t1⟩ := texts_any (htx hgr (hrow x.1 x.2)); obtain ⟨A2, c2, e2, t2⟩ := texts_any (htx hgr (hrow y.1 y.2)); show Calls Tryz.prog _ (#[x.1.1, y.1.1] ++ #[]) _ _; rw [e1, e2]; refine (implCompare_any A1 A2 _ c1 _ c2 x.1.2 y.1.2 _ t1 t2).mono ?_; rintro e w' ⟨rfl, rfl⟩; exact ⟨rfl, 0, #[], by rw [Go.Sort.grow_empty]; rfl⟩) (row_holds enc hb (by rw [hds, hdl, ← htk, Nat.mul_one])) hglt (by rw [hds]; omega) (fun x y hxy hyx => Subtype.ext (zip_one hd x.1 x.2 y.1 y.2 (row_total hxy hyx)))
      rw [hds] at hsort; refine hsort.mono ?_; rintro e w' ⟨rfl, n, os, hw⟩; have hgr : w.grownBy w' (some g) := by rw [hw]; exact row_grown enc _
      have hper := List.mergeSort_perm d.toList (fun x y : α => !(Go.Proofs.ltOf fun x y : α => rowCmp x.1.2 y.1.2) y x); obtain ⟨d', hd'⟩ : ∃ d', d.toList.mergeSort (fun x y : α => !(Go.Proofs.ltOf fun x y : α => rowCmp x.1.2 y.1.2) y x) = d' := ⟨_, rfl⟩
      have hmap : d'.map (fun p : α => p.1.2) = sortR Ls := by
        have h9 := List.map_mergeSort (r := fun x y : α => !(Go.Proofs.ltOf fun x y : α => rowCmp x.1.2 y.1.2) y x) (s := fun x y => !(Go.Proofs.ltOf rowCmp) y x) (f := fun p : α => p.1.2) (l := d.toList) fun a _ b _ => rfl; rw [← hd', h9, hdL]; rfl
      rw [hd'] at hw hper; have hd's : d'.length = Ls.length := by rw [hper.length_eq]; simpa using hds
      refine ⟨rfl, d'.map enc, ?_, ⟨?_, ?_, ?_⟩, hgr⟩
      · have := row_sorted enc (w := w) (n := n) (os := os) (d := d'.toArray) (m := Ls.length) (by simpa using hd's) hg hb hc hm hsz
        rw [hw]; exact this
      · rw [← hmap, List.length_map, List.length_map]
      · intro i r L hi hL
        rw [← hmap, List.getElem?_map] at hL; rw [List.getElem?_map] at hi
        cases hp : d'[i]? with
        | none => rw [hp] at hi; cases hi
        | some p =>
          rw [hp] at hi hL; simp at hi hL; subst hi hL; exact htx hgr (hrow p.1 p.2)
      · refine (List.Perm.pairwise_iff (fun {x y} hxy g e e' => hxy g e' e) (hper.map enc)).2 ?_
        rw [hdl]; exact hr.apart
end Go.Proofs.YtcigljngiemdeaaGreat

namespace Go.Proofs.YtcigljngiemdeaaGreat
open Go.RowKit
theorem letters_size {s : ByteArray} (h : letters s.data.toList = true) : 1 ≤ s.size ∧ s.size ≤ 8 := by
  unfold letters at h; simp only [Bool.and_eq_true, decide_eq_true_eq] at h; have e : s.data.toList.length = s.size := by show _ = s.data.size; simp
  rw [e] at h; omega
theorem name_size {s : ByteArray} (h : nameB s.data.toList = true) : 1 ≤ s.size ∧ s.size ≤ 8 := by
  unfold nameB at h; rw [Bool.and_eq_true] at h; exact letters_size h.1
theorem fact_ok {a : At} (h : factB a = true) : FactOk a := by
  unfold factB atomB wordsB argsB at h; simp only [Bool.and_eq_true, List.all_eq_true, decide_eq_true_eq] at h; obtain ⟨h1, h2, h3, h4⟩ := h; have hn := name_size h3; refine ⟨by unfold maxLen; omega, h4, fun u hu => ?_⟩; have hu1 : u.1 = false := by have := h1 u hu; simpa using this
  have hu2 := h2 u hu; unfold termB at hu2; rw [hu1] at hu2; have hs := name_size (by simpa using hu2); exact ⟨hu1, by unfold maxLen; omega, by omega⟩
theorem facts_ok {m : Nat} {xs : List At} (h : factsB m xs = true) : (∀ f ∈ xs, FactOk f) ∧ WordsAll xs ∧ xs.Nodup ∧ xs.length ≤ m := by
  unfold factsB at h; simp only [Bool.and_eq_true, List.all_eq_true, decide_eq_true_eq] at h; obtain ⟨⟨h1, h2⟩, h3⟩ := h; refine ⟨fun f hf => fact_ok (h1 f hf), fun f hf u hu => ((fact_ok (h1 f hf)).words u hu).1, ?_, h3⟩
  have hp : xs.Pairwise fun a b => atomCmp a b < 0 := by
    clear h1 h3
    induction xs with
    | nil => exact List.Pairwise.nil
    | cons x l ih => exact List.pairwise_cons.2 ⟨rises_head h2, ih (rises_tail h2)⟩
  refine hp.imp fun {a b} hab e => ?_; subst e; have := atomCmp_anti a a; omega
theorem ask_facts {qs : List Pt} (h : askB qs = true) : qs.length ≤ 4 ∧ (∀ q ∈ qs, q.2.2.length ≤ 3) ∧ (∀ q ∈ qs, ∀ x, (true, x) ∈ q.2.2 → x ∈ mvars qs) ∧ WfP qs [] := by
  obtain ⟨h1, h2⟩ := askB_ok h; have h3 := body_three h1
  have h4 : ∀ q ∈ qs, ∀ x, (true, x) ∈ q.2.2 → x ∈ mvars qs := fun q hq x hx => by
    refine (tight_all h x).1 ?_; rw [partsT_all, mem_puts]; exact .inl (List.mem_flatMap.2 ⟨q, hq, List.mem_map.2 ⟨_, List.mem_filter.2 ⟨hx, rfl⟩, rfl⟩⟩)
  refine ⟨h2, h3, h4, fun q hq _ x hx => ?_⟩; have := h4 q hq x hx.1; unfold mvars at this; obtain ⟨p, hp, hv⟩ := List.mem_flatMap.1 this; obtain ⟨hp1, hp2⟩ := List.mem_filter.1 hp; refine ⟨p, hp1, by simpa using hp2, ?_⟩; unfold varsOf at hv; obtain ⟨t, ht, e⟩ := List.mem_map.1 hv; obtain ⟨ht1, ht2⟩ := List.mem_filter.1 ht; have : t = (true, x) := Prod.ext ht2 e; rw [← this]; exact ht1
theorem ask_vars {qs : List Pt} (h : askB qs = true) : askVarsB qs = partsT [] qs ∧ (askVarsB qs).length ≤ 12 ∧ (∀ x, x ∈ mvars qs → x ∈ askVarsB qs) := by
  obtain ⟨h1, h2, h3, _⟩ := ask_facts h; have e : askVarsB qs = partsT [] qs := by unfold askVarsB; rw [if_pos h]
  refine ⟨e, ?_, fun x hx => by rw [e]; exact (tight_all h x).2 hx⟩; rw [e]; have hn : (partsT [] qs).Nodup := by rw [partsT_all]; exact (InRow.puts (ls := []) List.Pairwise.nil).nodup
  have hsub : ∀ x ∈ partsT [] qs, x ∈ mvars qs := fun x hx => (tight_all h x).1 hx; have := hn.length_le_of_subset hsub; have := mvars_len h2; omega
theorem tell_count {list : List At} (hl : list.length ≤ 300) : ∀ {ps : List Pt} {b : Bd}, (tellB list ps b).length ≤ 301 ^ ps.length
  | [], b => by rw [tellB]; simp
  | q :: ps, b => by
    rw [tellB, List.length_cons, Nat.pow_succ]; split
    · split
      · have := tell_count hl (ps := ps) (b := b); omega
      · simp
    · have hb : ∀ l : List Bd, (l.flatMap (tellB list ps)).length ≤ l.length * 301 ^ ps.length := by
        intro l
        induction l with
        | nil => simp
        | cons c l ih =>
          have := tell_count hl (ps := ps) (b := c); rw [List.flatMap_cons, List.length_append, List.length_cons, Nat.add_mul, Nat.one_mul]; omega
      have hf : (fitsL list q.2 b).length ≤ 300 := Nat.le_trans (List.length_filterMap_le _ _) hl; refine Nat.le_trans (hb _) ?_; rw [Nat.mul_comm]; exact Nat.mul_le_mul_left _ qaa
theorem tell_few {list : List At} (hl : list.length ≤ 300) {ps : List Pt} (hp : ps.length ≤ 4) {b : Bd} : (tellB list ps b).length ≤ 1000000000000 := by
  refine Nat.le_trans (tell_count hl) (Nat.le_trans (Nat.pow_le_pow_right qaa hp) qal)
theorem nots_last (qs : List Pt) : NotsLast (musts qs ++ notsOf qs) := by
  unfold NotsLast; refine List.pairwise_append.2 ⟨?_, ?_, fun a ha b hb _ => by simpa [notsOf] using (List.mem_filter.1 hb).2⟩
  · refine List.Pairwise.imp_of_mem (R := fun _ _ => True) (fun {a b} ha _ _ h => ?_) (List.pairwise_of_forall fun _ _ => trivial)
    have := (List.mem_filter.1 ha).2; rw [h] at this; cases this
  · refine List.Pairwise.imp_of_mem (R := fun _ _ => True) (fun {a b} _ hb _ _ => ?_) (List.pairwise_of_forall fun _ _ => trivial)
    exact (List.mem_filter.1 hb).2
noncomputable def askRowsB (list : List At) (body : List Pt) : List (List ByteArray) := if (factsB 300 list && askB body) = true then sortR ((rowsB list body).map (rowT (askVarsB body))) else []
def AskPost (Ls : List (List ByteArray)) (w : World) (e : Ending) (w' : World) : Prop := ∃ v rs, e = .returned v ∧ w'.ownsRow w.heap.size 42 1 v Ls.length rs ∧ RowsOwn w' w.heap.size rs Ls ∧ Below w.heap.size w w'
theorem AskPost.nil {w w' : World} (h : Below w.heap.size w w') : AskPost [] w (.returned (.slice none 0 0)) w' := ⟨_, [], rfl, World.ownsRow_nil _ _ _ _, ⟨rfl, fun i r L h => by simp at h, List.Pairwise.nil⟩, h⟩
structure AskAt (w : World) (A3 : Option Addr) (n3 c3 x : Nat) (qs3 : List Pr) (L : List (At × Nat)) (body : List Pt) (V : List ByteArray) (Vb R g : Nat) (VA : Option Addr) (vc : Nat) (W : World) : Prop where
  parts : PartsIn W w.heap.size (askE W.heap.size R g) A3 n3 c3 qs3
  seek : ∃ Bs, (∀ k, Bs k → askE W.heap.size R g k) ∧ SeekIn W Bs x g L [] w.heap.size V
  line : w.heap.size ≤ Vb ∧ Vb < R ∧ R < g ∧ g < W.heap.size
  j : AskJ W W.heap.size R Vb g VA V.length vc V [] W
  gr : Below w.heap.size w W
theorem AskAt.tells {w : World} {A3 : Option Addr} {n3 c3 x : Nat} {qs3 : List Pr} {L : List (At × Nat)} {body : List Pt} {V : List ByteArray} {Vb R g : Nat} {VA : Option Addr} {vc : Nat} {W : World} (h : AskAt w A3 n3 c3 x qs3 L body V Vb R g VA vc W)
    (hn : n3 ≤ 4) (hV : V.length ≤ 12) (hL : (factsOf L).length ≤ 300) (hvi : VarsIn V qs3) (hwf : WfP (qs3.map Pr.pt) []) (hnl : NotsLast (qs3.map Pr.pt)) :
    Calls Tryz.prog 47 #[.agg #[.pointer (some ⟨x, 0, none⟩), .pointer (some ⟨x, 0, none⟩)], .slice A3 n3 c3, .pointer (some ⟨g, 0, none⟩), .func (.func 43) #[] #[.pointer (some ⟨R, 0, none⟩), .pointer (some ⟨Vb, 0, none⟩)]] W fun e w' =>
      (∃ v, e = .returned v) ∧ ToldAt W.heap.size R ((tellB (factsOf L) (qs3.map Pr.pt) []).map (rowT V)) w' ∧ Below w.heap.size w w' := by
  obtain ⟨Bs, hBE, hseek⟩ := h.seek; obtain ⟨l1, l2, l3, l4⟩ := h.line; have hlen : (tellB (factsOf L) (qs3.map Pr.pt) []).length ≤ 1000000000000 := tell_few hL (by rw [List.length_map, h.parts.len]; exact hn)
  have hT := implTells_any (askE W.heap.size R g) Bs x g L w.heap.size V (.func (.func 43) #[] #[.pointer (some ⟨R, 0, none⟩), .pointer (some ⟨Vb, 0, none⟩)]) W.heap.size 1000000000000 (AskJ W W.heap.size R Vb g VA V.length vc V) (fun _ _ => False) hBE (fun k hk => ⟨by omega, by omega, by omega⟩) (fun he => he.2.1 rfl)
    (askNone W Bs x g L w.heap.size V W.heap.size R Vb 1000000000000 VA V.length vc V l2 l3 l4 hV (nl _)) 4 qaa [] A3 n3 c3 qs3 [] W W hn h.j (by rw [List.length_nil, Nat.zero_add]; exact hlen) (TurnsR.refl _ _ _) hseek (nl _) h.parts hvi hwf hnl
  refine hT.mono ?_; rintro e w' ⟨hk, _, W2, ht, hor⟩; rcases hor with ⟨rfl, hJ⟩ | ⟨_, _, _, hf⟩
  · have hJ' := hJ.turns ht l2 l3 l4
    refine ⟨⟨_, rfl⟩, hJ'.told, ⟨hJ'.same.1.trans h.gr.os, hJ'.same.2.1.trans h.gr.tape, hJ'.same.2.2.trans h.gr.output, Nat.le_trans h.gr.size hk.size, fun k hkl => ?_⟩⟩; have := h.gr.size; exact (hk.env k ⟨by omega, by omega, by omega⟩ qaa).trans (h.gr.block k hkl)
  · exact hf.elim
theorem askAt_made {w w3 w7 w8 w10 : World} {V : List ByteArray} {VA A1 A2 A3 : Option Addr} {vc n1 c1 n2 c2 n3 c3 x : Nat} {L : List (At × Nat)} {body : List Pt} {qs3 : List Pr} (hb3 : Below w.heap.size w w3) (hvt : IsTexts w3 0 w3.heap.size VA V.length vc V)
    (hb7 : Below ((w3.alloc (.cells #[.slice VA V.length vc] 42)).alloc (.cells #[.slice none 0 0] 26)).heap.size ((w3.alloc (.cells #[.slice VA V.length vc] 42)).alloc (.cells #[.slice none 0 0] 26)) w7)
    (hix : IxIn w7 (fun k => ((w3.alloc (.cells #[.slice VA V.length vc] 42)).alloc (.cells #[.slice none 0 0] 26)).heap.size ≤ k ∧ k < w7.heap.size) x L) (hL : L.length ≤ 300) (hV : V.length ≤ 12)
    (hb8 : Below w7.heap.size w7 w8) (hb10 : Below (w8.alloc (.cells #[.slice A1 n1 c1, .slice A2 n2 c2] 30)).heap.size (w8.alloc (.cells #[.slice A1 n1 c1, .slice A2 n2 c2] 30)) w10)
    (hP : PartsIn w10 w.heap.size (fun k => (w8.alloc (.cells #[.slice A1 n1 c1, .slice A2 n2 c2] 30)).heap.size ≤ k) A3 n3 c3 qs3) :
    AskAt w A3 n3 c3 x qs3 L body V w3.heap.size (w3.heap.size + 1) w10.heap.size VA vc (w10.alloc (.cells noWords 86)) := by
  have hb4 := below1 w3 (.cells #[.slice VA V.length vc] 42); have x4 := Blk.new w3 42 #[.slice VA V.length vc]; have z4 : (w3.alloc (.cells #[.slice VA V.length vc] 42)).heap.size = w3.heap.size + 1 := qad; obtain ⟨w4, hq4⟩ : ∃ w4, w3.alloc (.cells #[.slice VA V.length vc] 42) = w4 := ⟨_, rfl⟩; rw [hq4] at hb4 x4 hb7 hix z4; have hb6 := below1 w4 (.cells #[.slice none 0 0] 26); have x6 := Blk.new w4 26 #[.slice none 0 0]; have z6 : (w4.alloc (.cells #[.slice none 0 0] 26)).heap.size = w4.heap.size + 1 := qad; obtain ⟨w6, hq6⟩ : ∃ w6, w4.alloc (.cells #[.slice none 0 0] 26) = w6 := ⟨_, rfl⟩
  rw [hq6] at hb6 x6 hb7 hix z6; have hb9 := below1 w8 (.cells #[.slice A1 n1 c1, .slice A2 n2 c2] 30); have z9 : (w8.alloc (.cells #[.slice A1 n1 c1, .slice A2 n2 c2] 30)).heap.size = w8.heap.size + 1 := qad; obtain ⟨w9, hq9⟩ : ∃ w9, w8.alloc (.cells #[.slice A1 n1 c1, .slice A2 n2 c2] 30) = w9 := ⟨_, rfl⟩; rw [hq9] at hb9 hb10 hP z9; have hb11 := below1 w10 (.cells noWords 86); have x11 := Blk.new w10 86 noWords; have z11 : (w10.alloc (.cells noWords 86)).heap.size = w10.heap.size + 1 := qad
  obtain ⟨w11, hq11⟩ : ∃ w11, w10.alloc (.cells noWords 86) = w11 := ⟨_, rfl⟩; rw [hq11] at hb11 x11 z11 ⊢; clear hq4 hq6 hq9 hq11; have s3 := hb3.size; have s7 := hb7.size; have s8 := hb8.size; have s10 := hb10.size; rw [z4] at x6 z6; have b711 : Below w7.heap.size w7 w11 := belowThen hb8 (belowThen hb9 (belowThen hb10 hb11)); have b611 : Below w6.heap.size w6 w11 := belowThen hb7 b711; have b411 : Below w4.heap.size w4 w11 := belowThen hb6 b611; have b311 : Below w3.heap.size w3 w11 := belowThen hb4 b411; have hR : Blk w11 (w3.heap.size + 1) 26 #[.slice none 0 0] := x6.below b611
  refine ⟨?_, ⟨fun k => w6.heap.size ≤ k ∧ k < w7.heap.size, fun k hk => ⟨by omega, by omega, by omega⟩, ?_⟩, ⟨by omega, by omega, by omega, by omega⟩, ⟨⟨.slice none 0 0, [], hR, World.ownsRow_nil _ _ _ _, ⟨rfl, fun i r L h => by simp at h, List.Pairwise.nil⟩⟩, x4.below b411, ?_, ⟨rfl, rfl, rfl⟩⟩, belowThen hb3 b311⟩
  · refine PartsIn.up (PartsIn.more hP fun k hk ho => ?_) qaa hb11
    exact ⟨by omega, by omega, by omega⟩
  · exact ⟨hix.keep fun k hk hl => b711.block k hl, hL, blk_noWords x11, by omega, (fun hk => by have := hk.2; omega), (fun q hq => by simp at hq), ⟨by simp, fun x hx => by simp at hx⟩, hV, by omega⟩
  · exact hvt.keep TextE.stays (fun q _ hq => b311.cell hq) (nl _) (nl _)
theorem halves_len : ∀ qs : List Pt, (musts qs).length + (notsOf qs).length = qs.length
  | [] => rfl
  | q :: qs => by
    have ih := halves_len qs; unfold musts notsOf at *; rw [List.filter_cons, List.filter_cons, List.length_cons]; cases q.1 <;> simp <;> omega
theorem implAsk_any (A : Option Addr) (n c : Nat) (list : List At) (B : Option Addr) (m d : Nat) (body : List Pt) (w : World) (hA : IsAtoms w 0 w.heap.size A n c list) (hB : IsParts w 0 w.heap.size B m d body) :
    Calls Tryz.prog 14 #[.slice A n c, .slice B m d] w (AskPost (askRowsB list body) w) := by
  have HA := hid hA; have HB := hid hB; clear hA hB
  cases hf : factsB 300 list with
  | false =>
    have he : askRowsB list body = [] := by unfold askRowsB; rw [hf]; rfl
    have HE := hid he; have HF := hid hf; clear he hf; go_enter Tryz.func14, Tryz.ntmps14; go_wp2_with (first | (go_at_call 41; refine (implFactsOk_any A n c list _ HA.out).mono ?_; rintro e w1 ⟨rfl, hb1⟩; rw [HF.out])); refine bodyPost_ret (v := .slice none 0 0) qcc rfl ?_
    rw [HE.out]; exact AskPost.nil hb1
  | true =>
    cases hq : askB body with
    | false =>
      have he : askRowsB list body = [] := by unfold askRowsB; rw [hf, hq]; rfl
      have HE := hid he; have HF := hid hf; have HQ := hid hq; clear he hf hq; go_enter Tryz.func14, Tryz.ntmps14; go_wp2_with (first | (go_at_call 41; refine (implFactsOk_any A n c list _ HA.out).mono ?_; rintro e w1 ⟨rfl, hb1⟩; rw [HF.out]) | (go_at_call 42; refine (implAskOk_any B m d body _ ((HB.out.up PartE.stays hb1))).mono ?_; rintro e w2 ⟨rfl, hb2⟩; rw [HQ.out])); refine bodyPost_ret (v := .slice none 0 0) qcc rfl ?_
      rw [HE.out]; exact AskPost.nil (belowThen hb1 hb2)
    | true =>
      have HF := hid hf; have HQ := hid hq; clear hf hq; go_enter Tryz.func14, Tryz.ntmps14; go_wp2_with (first | (go_at_call 41; refine (implFactsOk_any A n c list _ HA.out).mono ?_; rintro e w1 ⟨rfl, hb1⟩; rw [HF.out]) | (go_at_call 42; refine (implAskOk_any B m d body _ ((HB.out.up PartE.stays hb1))).mono ?_; rintro e w2 ⟨rfl, hb2⟩; rw [HQ.out]) | (go_at_call 23; refine (implAskVars_any B m d body _ ((HB.out.up PartE.stays (belowThen hb1 hb2)))).mono ?_; rintro e w3 ⟨vv, rfl, hvv, hb3⟩; obtain ⟨VA, vc, rfl, hvt⟩ := texts_any hvv))
      obtain ⟨hfok, hwa, hnd, hl300⟩ := facts_ok HF.out; obtain ⟨hq4, hq3, hqv, hwf⟩ := ask_facts HQ.out; obtain ⟨_, hV12, hVs⟩ := ask_vars HQ.out; have hbw3 := belowThen (belowThen hb1 hb2) hb3; obtain ⟨V, hV⟩ : ∃ V, askVarsB body = V := ⟨_, rfl⟩; rw [hV] at hvt hV12 hVs ⊢; have hAn := HA.out.1; have hBn := HB.out.1; have hb36 := belowThen (below1 w3 (.cells #[.slice VA V.length vc] 42)) (below1 (w3.alloc (.cells #[.slice VA V.length vc] 42)) (.cells #[.slice none 0 0] 26)); refine (implIndexOf_any A n c list _ (HA.out.up AtomE.stays (belowThen hbw3 hb36)) hfok hnd qaa).mono ?_; rintro e w7 ⟨x, rfl, hix, hb7⟩
      have hbw7 := belowThen hbw3 (belowThen hb36 hb7); obtain ⟨prs, hprs, hpin⟩ := PartsIn.of HB.out hq3 (nl _); have hpin7 := hpin.up (nl _) hbw7; have HIX := hid hix; have HB7 := hid hb7; have HB36 := hid hb36; have HBW7 := hid hbw7; have HBW3 := hid hbw3; have HPI := hid hpin7; have HPR := hid hprs; have HV := hid hV; have HVT := hid hvt; have HFO := hid hfok; have HWA := hid hwa; have HND := hid hnd; have HQV := hid hqv; have HWF := hid hwf; have HVS := hid hVs; clear hix hb7 hb36 hbw7 hbw3 hpin7 hpin hprs hV hvt hfok hwa hnd hqv hwf hVs hvv hb1 hb2 hb3 hq3; go_wp2_with fail; refine (implSplit_any w.heap.size (fun k => k < w.heap.size) B m d prs _ HPI.out HBW7.out.size qaa).mono ?_; rintro e w8 ⟨A1, n1, c1, A2, n2, c2, rfl, hP1, hP2, hb8⟩
      have HP1 := hid hP1; have HP2 := hid hP2; have HB8 := hid hb8; clear hP1 hP2 hb8; go_wp2_with fail; have hm := HPI.out.len; have hbw8 := belowThen HBW7.out HB8.out; have hb9 := below1 w8 (.cells #[.slice A1 n1 c1, .slice A2 n2 c2] 30); have l1 := List.length_filter_le (fun q : Pr => !q.no) prs; have l2 := List.length_filter_le (fun q : Pr => q.no) prs; have l3 := HP1.out.len; have l4 := HP2.out.len; refine (implConcat_any w.heap.size (fun k => w7.heap.size ≤ k) A1 n1 c1 _ A2 n2 c2 _ w8.heap.size _ (HP1.out.up hbw8.size hb9) (HP2.out.up hbw8.size hb9) (Blk.new w8 _ _) (by have := hbw8.size; have := hb9.size; omega) qaa qaa).mono ?_; rintro e w10 ⟨A3, c3, rfl, hP3, hb10⟩
      obtain ⟨qs3, hqs3⟩ : ∃ qs3, prs.filter (fun q => !q.no) ++ prs.filter (fun q => q.no) = qs3 := ⟨_, rfl⟩; rw [hqs3] at hP3 ⊢; obtain ⟨n3, hn3⟩ : ∃ n3, qs3.length = n3 := ⟨_, rfl⟩; rw [hn3] at hP3 ⊢; have HN3 := hid hn3; have HQS := hid hqs3; clear hn3 hqs3 l1 l2 l3 l4 hm; have hmade := askAt_made (body := body) HBW3.out HVT.out HB7.out HIX.out (by rw [List.length_map]; exact hl300) hV12 HB8.out hb10 hP3; have HM := hid hmade; clear hmade hP3 hb10 hb9 hbw8; go_wp2_with fail
      have hmp : qs3.map Pr.pt = musts body ++ notsOf body := by
        rw [← HQS.out, ← HPR.out, List.map_append]; unfold musts notsOf; rw [List.filter_map, List.filter_map]; rfl
      have hml : n3 ≤ 4 := by
        rw [← HN3.out]; have := congrArg List.length hmp; rw [List.length_map] at this; rw [this, List.length_append]; have h5 := halves_len body; omega
      have hfacts : factsOf (list.map fun f => (f, 0)) = list := by
        unfold factsOf; rw [List.map_map]; exact List.map_id _
      have hrows : tellB list (musts body ++ notsOf body) [] = rowsB list body := tell_rows HWA.out HND.out HWF.out
      have htells := HM.out.tells hml hV12 (by rw [hfacts]; exact hl300) (fun q hq x hx => by
          refine HVS.out x (HQV.out q.pt ?_ x hx); rw [← HPR.out]; refine List.mem_map_of_mem ?_; rw [← HQS.out] at hq; rcases List.mem_append.1 hq with h | h <;> exact (List.mem_filter.1 h).1) (by
          rw [hmp]; refine HWF.out.same fun q => ?_; unfold musts notsOf; rw [List.mem_append, List.mem_filter, List.mem_filter]; cases q.1 <;> simp) (by rw [hmp]; exact nots_last body)
      rw [hmp, hfacts, hrows] at htells; have HT := hid htells; have hbl := HM.out.line; clear hmp hml hfacts hrows htells; change Calls _ _ _ (w10.alloc (.cells noWords 86)) _; refine HT.out.mono ?_; rintro e w12 ⟨⟨rv, rfl⟩, ⟨v12, rs, hin⟩, hbw12⟩; have hns : ((rowsB list body).map (rowT V)).Nodup := rows_nodup HWA.out HND.out HVS.out
      have hns2 : ((rowsB list body).map (rowT V)).length ≤ 1000000000000 := by
        rw [List.length_map]
        have := tell_few (list := list) hl300 (ps := musts body ++ notsOf body) (b := []) (by
          rw [List.length_append]; have h5 := halves_len body; omega)
        rwa [tell_rows HWA.out HND.out HWF.out] at this
      obtain ⟨Ls, hLs⟩ : ∃ Ls, (rowsB list body).map (rowT V) = Ls := ⟨_, rfl⟩
      have hans : askRowsB list body = sortR Ls := by
        unfold askRowsB; rw [HF.out, HQ.out, HV.out, hLs]; rfl
      rw [hLs] at hin hns hns2; have r12 := hin.box.cell 0; simp at r12; have HIN := hid hin; have HB12 := hid hbw12; have HNS := hid hns; have HANS := hid hans; clear hin hbw12 hns hans hLs HT; go_wp2_with fail; refine (implSort_any _ v12 rs Ls w12 HIN.out.own HIN.out.rows HNS.out hns2).mono ?_; rintro e w13 ⟨rfl, rs', hown, hrows, hgr⟩; have hlt12 := HIN.out.box.lt
      have r13 : w13.cell? ⟨w3.heap.size + 1, 0, none⟩ = some v12 := by
        refine (cb_ (a := ⟨w3.heap.size + 1, 0, none⟩) (hgr.block _ hlt12 fun e => ?_)).trans r12; have h9 : _ ≤ w3.heap.size + 1 := (HIN.out.own.lt _ e.symm).1; omega
      have hbw13 := HB12.out.grown hgr HB12.out.size (fun j e => by have := (HIN.out.own.lt j e).1; omega); have HO := hid hown; have HR := hid hrows; have HBW := hid hbw13; clear hown hrows hgr hbw13; go_wp2; refine bodyPost_ret (v := v12) qcc rfl ?_; rw [HANS.out]; have hsl : (sortR Ls).length = Ls.length := by unfold sortR; exact (List.mergeSort_perm _ _).length_eq
      have hw0 : w.heap.size ≤ (w10.alloc (.cells noWords 86)).heap.size := qaa; exact ⟨v12, rs', rfl, by rw [hsl]; exact ownsRow_base HO.out hw0, ⟨HR.out.len, fun i r L h1 h2 => ownsRow_base (HR.out.row i r L h1 h2) hw0, HR.out.apart⟩, HBW.out⟩
end Go.Proofs.YtcigljngiemdeaaGreat
