/-
  What more holds of a world that has grown: names rise and are names, entries lead to nodes, no directory is covered twice, data are short.
-/
import Derived.Test.YtenopnfclbegbaaGreatLall
import Derived.Test.YtenopnfclbegbaaGreatWays
import Derived.Test.YtenopnfclbegbaaGreatMath
import Derived.Test.YtenopnfclbegbaaGreatEfind
namespace Go.Proofs.YtenopnfclbegbaaGreat.K
open G

def text (st : St) (k : Int) : List UInt8 := (gets st.n k).data.data.toList
def kind (st : St) (k : Int) : Int := (gets st.n k).kind
/-- where a name leads -/
def hit (st : St) (k : Int) (p : List UInt8) : Int := over st.d (E.numOf (gets st.n k).es p)
structure Tree (st : St) : Prop where
  up : ∀ nd ∈ st.n, E.Up nd.es
  clean : ∀ nd ∈ st.n, ∀ e ∈ nd.es, V.M.check e.name = 0
  kids : ∀ nd ∈ st.n, ∀ e ∈ nd.es, (get st.n e.no).isSome = true
  covs : st.d.Pairwise fun a b => a.cov ≠ b.cov
  short : ∀ nd ∈ st.n, nd.data.size ≤ 2000

theorem get_made {st : St} {x : T.Nd} {k : Int} (h : (get st.n k).isSome = true) : (get (make st x).1.n k).isSome = true := by
  obtain ⟨y, hy⟩ := Option.isSome_iff_exists.1 h
  rw [make_get hy]; rfl
theorem get_set {n : List T.Nd} {x : T.Nd} {k : Int} (h : (get n k).isSome = true) : (get (setN n x) k).isSome = true := by
  rw [get_setN]
  cases hg : get n k with
  | none => rw [hg] at h; cases h
  | some y => rfl
theorem get_more {n : List T.Nd} {x : T.Nd} {k : Int} (h : (get n k).isSome = true) : (get (n ++ [x]) k).isSome = true := by
  unfold G.get at *
  rw [List.find?_append]
  cases hg : n.find? (fun p => decide (p.no = k)) with
  | none => rw [hg] at h; cases h
  | some y => rfl
theorem settle_covs {d : List Mt} {k : Int} {q : U.Sp} (h : d.Pairwise fun a b => a.cov ≠ b.cov) : (G.settle d k q).Pairwise fun a b => a.cov ≠ b.cov := by
  have e : (G.settle d k q).map (·.cov) = d.map (·.cov) := by
    have := congrArg (List.map Prod.snd) (settle_map d k q)
    rw [List.map_map, List.map_map] at this
    exact this
  rw [← List.pairwise_map (f := fun m : Mt => m.cov) (R := fun a b => a ≠ b)] at h ⊢
  rw [e]; exact h
theorem taken_covs {d : List Mt} {k x y : Int} (h : d.Pairwise fun a b => a.cov ≠ b.cov) : (taken d k x y).Pairwise fun a b => a.cov ≠ b.cov := by
  obtain ⟨q, hq⟩ := taken_settle d k x y
  rw [hq]; exact settle_covs h
theorem tree_new (b c : Int) : Tree (begin_ bare 1 b c) := by
  refine ⟨fun p hp => ?_, fun p hp e he => ?_, fun p hp e he => ?_, List.pairwise_singleton _ _, fun p hp => ?_⟩ <;> obtain rfl := List.mem_singleton.1 hp
  · exact List.Pairwise.nil
  · cases he
  · cases he
  · show (0 : Nat) ≤ _; decide
/-- what is covered by none -/
theorem uncovered {st : St} {k : Int} (h1 : over st.d k = k) (h2 : isRoot st.d k = false) : ∀ m ∈ st.d, m.cov ≠ k := by
  intro m hm e
  unfold over at h1
  cases hf : st.d.find? (fun m => decide (m.cov = k)) with
  | none => exact absurd (List.find?_eq_none.1 hf m hm) (by simp [e])
  | some x =>
    rw [hf] at h1
    have hx := List.mem_of_find?_eq_some hf
    have h3 : x.root = k := h1
    unfold isRoot at h2
    rw [List.any_eq_false] at h2
    exact h2 x hx (by simp [h3])
theorem Tree.begun {st : St} (h : Tree st) (k b c : Int) (hk : ∀ m ∈ st.d, m.cov ≠ k) : Tree (begin_ st k b c) := by
  obtain ⟨t1, t2, t3, t4, t5⟩ := h
  refine ⟨fun p hp => ?_, fun p hp e he => ?_, fun p hp e he => ?_, ?_, fun p hp => ?_⟩
  · rcases List.mem_append.1 hp with hp | hp
    · exact t1 p hp
    · obtain rfl := List.mem_singleton.1 hp; exact List.Pairwise.nil
  · rcases List.mem_append.1 hp with hp | hp
    · exact t2 p hp e he
    · obtain rfl := List.mem_singleton.1 hp; cases he
  · rcases List.mem_append.1 hp with hp | hp
    · exact get_more (t3 p hp e he)
    · obtain rfl := List.mem_singleton.1 hp; cases he
  · show (st.d ++ [_]).Pairwise _
    rw [List.pairwise_append]
    refine ⟨t4, List.pairwise_singleton _ _, fun a ha y hy => ?_⟩
    obtain rfl := List.mem_singleton.1 hy
    exact hk a ha
  · rcases List.mem_append.1 hp with hp | hp
    · exact t5 p hp
    · obtain rfl := List.mem_singleton.1 hp; show (0 : Nat) ≤ _; decide
theorem Tree.mounted {st : St} (h : Tree st) (k b c : Int) : Tree (mount st k b c).1 := by
  unfold mount
  split
  · split
    · split
      · exact h
      · rename_i h3
        split
        · exact h
        · split
          · have h4 : over st.d k = k := Decidable.byContradiction fun e => h3 (.inl e)
            have h5 : isRoot st.d k = false := by
              cases e : isRoot st.d k with
              | false => rfl
              | true => exact absurd (.inr e) h3
            exact h.begun k b c (uncovered h4 h5)
          · exact h
    · exact h
  · exact h
theorem Tree.makes {st : St} (h : Tree st) (x : T.Nd) (hes : x.es = []) (hd : x.data.size ≤ 2000) : Tree (make st x).1 := by
  obtain ⟨t1, t2, t3, t4, t5⟩ := h
  have hes' : (x.as (st.last + 1)).es = [] := hes
  refine ⟨fun p hp => ?_, fun p hp e he => ?_, fun p hp e he => ?_, ?_, fun p hp => ?_⟩
  · rcases make_mem hp with hp | rfl
    · exact t1 p hp
    · rw [hes']; exact List.Pairwise.nil
  · rcases make_mem hp with hp | rfl
    · exact t2 p hp e he
    · rw [hes'] at he; cases he
  · rcases make_mem hp with hp | rfl
    · exact get_made (t3 p hp e he)
    · rw [hes'] at he; cases he
  · unfold make
    split
    · exact taken_covs t4
    · exact t4
  · rcases make_mem hp with hp | rfl
    · exact t5 p hp
    · exact hd
theorem Tree.sets {st : St} (h : Tree st) (d : T.Nd) (ls : List E.Ent) (hd : d ∈ st.n) (h1 : E.Up ls) (h2 : ∀ e ∈ ls, V.M.check e.name = 0) (h3 : ∀ e ∈ ls, (get st.n e.no).isSome = true) : Tree ⟨st.last, setN st.n { d with es := ls }, st.d⟩ := by
  obtain ⟨t1, t2, t3, t4, t5⟩ := h
  refine ⟨fun p hp => ?_, fun p hp e he => ?_, fun p hp e he => ?_, t4, fun p hp => ?_⟩
  · rcases mem_setN hp with ⟨rfl, _⟩ | hp
    · exact h1
    · exact t1 p hp
  · rcases mem_setN hp with ⟨rfl, _⟩ | hp
    · exact h2 e he
    · exact t2 p hp e he
  · rcases mem_setN hp with ⟨rfl, _⟩ | hp
    · exact get_set (h3 e he)
    · exact get_set (t3 p hp e he)
  · rcases mem_setN hp with ⟨rfl, _⟩ | hp
    · exact t5 d hd
    · exact t5 p hp
theorem made_there {st : St} (hI : Inv st) {x : T.Nd} (h : (make st x).2.2 = 0) : (get (make st x).1.n (make st x).2.1).isSome = true := by
  unfold make at h ⊢
  split at h
  · rename_i h1
    rw [if_pos h1]
    dsimp only
    rw [get_new (last := st.last) (fun p hp => (hI.given p hp).2) rfl]
    simp
  · rename_i h1
    exact absurd h h1
theorem Tree.grows {st : St} (hT : Tree st) (hI : Inv st) (i : It) (hd : i.data.size ≤ 2000) : Tree (growSt st i) := by
  by_cases h4 : i.kind = 4
  · rw [grow_four h4]; exact hT.mounted _ _ _
  · by_cases hv : vain (gets st.n (place st.last i.dir)) i
    · rw [grow_vain h4 hv]; exact hT
    · rw [grow_node h4 hv]
      have hk : (gets st.n (place st.last i.dir)).kind = 1 := Decidable.byContradiction fun e => hv (.inl e)
      have hc : V.M.check i.name = 0 := Decidable.byContradiction fun e => hv (.inr (.inr (.inr (.inl e))))
      generalize place st.last i.dir = pl at *
      obtain ⟨d, hd'⟩ : ∃ d, get st.n pl = some d := by
        cases e : get st.n pl with
        | none => rw [gets_none e] at hk; cases hk
        | some d => exact ⟨d, rfl⟩
      rw [gets_some hd'] at hk ⊢
      obtain ⟨hdm, hdn⟩ := get_some hd'
      have hmk := hT.makes (node d i pl) rfl (by
        unfold node
        dsimp only
        split
        · show (0 : Nat) ≤ _; decide
        · exact hd)
      have hth := made_there (x := node d i pl) hI
      have hmm : d ∈ (make st (node d i pl)).1.n := (get_some (make_get (x := node d i pl) hd')).1
      have hkid : ∀ e ∈ d.es, (get (make st (node d i pl)).1.n e.no).isSome = true := fun e he => get_made (hT.kids d hdm e he)
      have hup := hT.up d hdm
      have hcl := hT.clean d hdm
      generalize make st (node d i pl) = r at *
      obtain ⟨st', rx, ry⟩ := r
      dsimp only at *
      by_cases hy : ry = 0
      · rw [named_ok hy]
        dsimp only
        refine hmk.sets d _ hmm (E.up_put hup _) (fun e he => ?_) (fun e he => ?_)
        · rcases mem_put he with rfl | he
          · exact hc
          · exact hcl e he
        · rcases mem_put he with rfl | he
          · exact hth hy
          · exact hkid e he
      · rw [named_err hy]; exact hmk
theorem tree_all {st : St} (hG : Grown st) (hT : Tree st) : ∀ (ls : List It), (∀ i ∈ ls, i.data.size ≤ 2000) → st.last + ls.length < 1000 → Tree (growAll st ls)
  | [], _, _ => hT
  | i :: r, hd, hl => by
    have hl' : st.last + ((r.length + 1 : Nat) : Int) < 1000 := hl
    obtain ⟨h1, h2, h3⟩ := hG.grows i (by have := hd i (List.mem_cons_self ..); omega) (by omega)
    exact tree_all h1 (hT.grows hG.inv i (hd i (List.mem_cons_self ..))) r (fun j hj => hd j (List.mem_cons_of_mem _ hj)) (by omega)

/-! what a name leads to -/
section
variable {st : St}
theorem numOf_cases {ls : List E.Ent} (n : List UInt8) : E.numOf ls n = 0 ∨ ∃ e ∈ ls, e.name = n ∧ e.no = E.numOf ls n := by
  unfold E.numOf
  cases hf : ls.find? (fun x => decide (x.name = n)) with
  | none => exact .inl rfl
  | some x => exact .inr ⟨x, List.mem_of_find?_eq_some hf, by simpa using List.find?_some hf, rfl⟩
theorem over_zero (hI : Inv st) : over st.d 0 = 0 := by
  have := hI.over_raw 0
  rw [this]; rfl
theorem over_there (hI : Inv st) {k : Int} (h : (get st.n k).isSome = true) : (get st.n (over st.d k)).isSome = true := by
  unfold over
  cases hf : st.d.find? (fun m => decide (m.cov = k)) with
  | none => exact h
  | some m =>
    obtain ⟨i, hi⟩ := List.mem_iff_getElem?.1 (List.mem_of_find?_eq_some hf)
    obtain ⟨nd, hg, _⟩ := hI.roots i m hi
    show (get st.n m.root).isSome = true
    rw [hg]; rfl
theorem hit_there (hI : Inv st) (hT : Tree st) (k : Int) (p : List UInt8) : hit st k p = 0 ∨ (get st.n (hit st k p)).isSome = true := by
  unfold hit
  rcases numOf_cases (ls := (gets st.n k).es) p with h | ⟨e, he, _, h⟩
  · rw [h]; exact .inl (over_zero hI)
  · refine .inr (over_there hI ?_)
    rw [← h]
    cases hg : get st.n k with
    | none => rw [gets_none hg] at he; cases he
    | some d => rw [gets_some hg] at he; exact hT.kids d (get_some hg).1 e he
theorem there_range (hI : Inv st) {k : Int} (h : (get st.n k).isSome = true) : 1 ≤ k ∧ k ≤ st.last := by
  obtain ⟨x, hx⟩ := Option.isSome_iff_exists.1 h
  obtain ⟨h1, h2⟩ := get_some hx
  have := hI.given x h1
  omega
theorem hit_range (hI : Inv st) (hT : Tree st) (k : Int) (p : List UInt8) : 0 ≤ hit st k p ∧ hit st k p ≤ st.last := by
  rcases hit_there hI hT k p with h | h
  · rw [h]; exact ⟨Int.le_refl _, hI.lo⟩
  · have := there_range hI h; omega
theorem num_range (hI : Inv st) (hT : Tree st) (k : Int) (p : List UInt8) : 0 ≤ E.numOf (gets st.n k).es p ∧ E.numOf (gets st.n k).es p ≤ st.last := by
  rcases numOf_cases (ls := (gets st.n k).es) p with h | ⟨e, he, _, h⟩
  · rw [h]; exact ⟨Int.le_refl _, hI.lo⟩
  · rw [← h]
    cases hg : get st.n k with
    | none => rw [gets_none hg] at he; cases he
    | some d =>
      rw [gets_some hg] at he
      have := there_range hI (hT.kids d (get_some hg).1 e he)
      omega
theorem gets_up (hT : Tree st) (k : Int) : E.Up (gets st.n k).es := by
  cases hg : get st.n k with
  | none => rw [gets_none hg]; exact List.Pairwise.nil
  | some d => rw [gets_some hg]; exact hT.up d (get_some hg).1
theorem gets_few (hI : Inv st) (k : Int) : (gets st.n k).es.length ≤ 100000 := by
  cases hg : get st.n k with
  | none => rw [gets_none hg]; decide
  | some d => rw [gets_some hg]; exact hI.few d (get_some hg).1
theorem gets_short (hT : Tree st) (k : Int) : (gets st.n k).data.size ≤ 2000 := by
  cases hg : get st.n k with
  | none => rw [gets_none hg]; decide
  | some d => rw [gets_some hg]; exact hT.short d (get_some hg).1
theorem noOf_numOf {ls : List E.Ent} (n : List UInt8) : E.noOf ls n = E.numOf ls n := by
  unfold E.noOf E.numOf
  rw [E.find_fil]
  cases (E.fil n ls).head? <;> rfl
theorem gets_as {k : Int} (h : (get st.n k).isSome = true) : (gets st.n k).as k = gets st.n k := by
  obtain ⟨x, hx⟩ := Option.isSome_iff_exists.1 h
  rw [gets_some hx]
  have := (get_some hx).2
  rw [← this]; exact T.Nd.as_self x
end
end Go.Proofs.YtenopnfclbegbaaGreat.K
