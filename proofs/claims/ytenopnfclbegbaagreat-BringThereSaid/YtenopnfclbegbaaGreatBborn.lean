/-
  What has come: the mathematics of BringThere.
-/
import Derived.Test.YtenopnfclbegbaaGreatBact
namespace Go.Proofs.YtenopnfclbegbaaGreat.BR
open Go.RowKit G

theorem len_parts : ∀ (ls : List E.Ent) (n : List UInt8), (∀ e ∈ ls, e.name ≠ n) → (E.lo ls n).length + (E.hi ls n).length = ls.length
  | [], _, _ => rfl
  | x :: r, n, h => by
    have ih := len_parts r n fun e he => h e (List.mem_cons_of_mem _ he)
    have hx := h x (List.mem_cons_self ..)
    unfold E.lo E.hi at ih ⊢
    by_cases h1 : x.name < n
    · have h2 : ¬ n < x.name := fun h2 => absurd (List.lt_trans h1 h2) (List.lt_irrefl _)
      simp [h1, h2]; omega
    · have h2 : n < x.name := Decidable.byContradiction fun h2 => hx (List.le_antisymm (List.not_lt.1 h2) (List.not_lt.1 h1))
      simp [h1, h2]; omega
theorem put_more {ls : List E.Ent} {y : E.Ent} (h : ∀ e ∈ ls, e.name ≠ y.name) : (E.put ls y).length = ls.length + 1 := by
  have := len_parts ls y.name h
  unfold E.put
  simp; omega
theorem numOf_at : ∀ {ls : List E.Ent} {i : Nat} {y : E.Ent}, E.Up ls → ls[i]? = some y → E.numOf ls y.name = y.no
  | [], i, y, _, h => by simp at h
  | x :: r, 0, y, _, h => by
    obtain rfl : x = y := by simpa using h
    unfold E.numOf
    rw [List.find?_cons_of_pos (by simp)]
  | x :: r, i + 1, y, hu, h => by
    have hi : r[i]? = some y := by simpa using h
    have hxy : x.name < y.name := (List.pairwise_cons.1 hu).1 y (List.mem_of_getElem? hi)
    have ih := numOf_at (List.pairwise_cons.1 hu).2 hi
    unfold E.numOf at ih ⊢
    rw [List.find?_cons_of_neg (by simp; intro e; rw [e] at hxy; exact E.lt_irrefl _ hxy)]
    exact ih
theorem put_has (ls : List E.Ent) (y : E.Ent) : y ∈ E.put ls y := by unfold E.put; simp
theorem numOf_put {ls : List E.Ent} (hu : E.Up ls) (y : E.Ent) : E.numOf (E.put ls y) y.name = y.no := by
  obtain ⟨i, hi⟩ := List.getElem?_of_mem (put_has ls y)
  exact numOf_at (E.up_put hu y) hi
theorem numOf_none {ls : List E.Ent} {n : List UInt8} (hp : ∀ e ∈ ls, e.no ≠ 0) (h : E.numOf ls n = 0) : ∀ e ∈ ls, e.name ≠ n := fun e he hn => by
  unfold E.numOf at h
  split at h
  · rename_i x hx
    exact hp x (List.mem_of_find?_eq_some hx) h
  · rename_i hx
    have := List.find?_eq_none.1 hx e he
    simp [hn] at this
/-- what has come -/
structure Born (st st' : St) (cu cg t k : Int) (s : List UInt8) (no : Int) : Prop where
  len : st'.n.length = st.n.length + 1
  uid : (gets st'.n no).uid = cu
  gid : (gets st'.n no).gid = cg
  dev : (gets st'.n no).dev = (gets st.n k).dev
  links : (gets st'.n no).links = 1
  mt : (gets st'.n no).mt = t
  named : E.numOf (gets st'.n k).es s = no
  more : (gets st'.n k).es.length = (gets st.n k).es.length + 1
  dmt : (gets st'.n k).mt = t
  wf : T.Wf no
theorem make_born {st : St} {x : T.Nd} (hI : Inv st) (h : (make st x).2.2 = 0) : (make st x).2.1 = st.last + 1 ∧ (make st x).1.n.length = st.n.length + 1 ∧ G.get (make st x).1.n (st.last + 1) = some (x.as (st.last + 1)) := by
  have hg := hI.given
  by_cases ht : terr st.d x.dev (blk x) 1 = 0
  · rw [make_ok ht]
    refine ⟨rfl, by simp, ?_⟩
    show G.get (st.n ++ [x.as (st.last + 1)]) (st.last + 1) = _
    unfold G.get
    rw [List.find?_append]
    have : st.n.find? (fun p => decide (p.no = st.last + 1)) = none := List.find?_eq_none.2 fun p hp => by
      have := hg p hp
      simp; omega
    rw [this]
    simp [T.Nd.as]
  · rw [make_err ht] at h
    exact absurd h ht
theorem seven : (7 : Int) ≠ 0 := by decide
theorem come_born {m : Int} {st : St} (hf : Fine m st) (hm : m ≤ 900) (cu cg t k : Int) (s : List UInt8) (x : T.Nd) :
    ((come st cu cg t k s x).2.2 = 0 ∧ Born st (come st cu cg t k s x).1 cu cg t k s (come st cu cg t k s x).2.1) ∨ ((come st cu cg t k s x).2.2 ≠ 0 ∧ (come st cu cg t k s x).1 = st ∧ (come st cu cg t k s x).2.1 = 0) := by
  have hI := hf.inv
  by_cases hp' : placeE st cu cg k s ≠ 0
  · rw [come_place hp']; exact .inr ⟨hp', rfl, rfl⟩
  have hp := Decidable.of_not_not hp'
  by_cases hn' : E.numOf (gets st.n k).es s ≠ 0
  · rw [come_there hp hn']; exact .inr ⟨seven, rfl, rfl⟩
  have hn := Decidable.of_not_not hn'
  by_cases he' : (make st (fresh x (gets st.n k).dev cu cg t)).2.2 ≠ 0
  · rw [come_err hp hn rfl he']; exact .inr ⟨he', rfl, rfl⟩
  have he := Decidable.of_not_not he'
  clear hp' hn' he'
  left
  rw [come_ok hp hn rfl he]
  refine ⟨rfl, ?_⟩
  obtain ⟨hs, hk, hc, _⟩ := place_dir hp
  have hr := K.there_range hI hs
  obtain ⟨d, hd⟩ := Option.isSome_iff_exists.1 hs
  have hgd := gets_some hd
  obtain ⟨hdm, hdn⟩ := get_some hd
  obtain ⟨b1, b2, b3⟩ := make_born hI he
  have b4 := make_get (x := fresh x (gets st.n k).dev cu cg t) hd
  have hlast := hf.last
  dsimp only
  rw [b1]
  generalize (make st (fresh x (gets st.n k).dev cu cg t)).1 = s1 at *
  have hg1 : gets s1.n k = d := gets_some b4
  have hno : ∀ e ∈ d.es, e.no ≠ 0 := fun e he => by
    have := K.there_range hI (hf.tree.kids d hdm e he)
    omega
  have hup := hf.tree.up d hdm
  rw [hgd] at hn b3 ⊢
  have hname := numOf_none hno hn
  -- the two nodes
  have g1 : G.get (touch s1 k (E.put d.es ⟨s, st.last + 1⟩) t).n (st.last + 1) = some ((fresh x d.dev cu cg t).as (st.last + 1)) := by
    unfold touch
    rw [get_setN, b3, hg1]
    simp only [Option.map_some]
    rw [if_neg]
    show st.last + 1 ≠ d.no
    omega
  have g2 : G.get (touch s1 k (E.put d.es ⟨s, st.last + 1⟩) t).n k = some (touched d (E.put d.es ⟨s, st.last + 1⟩) t) := by
    unfold touch
    rw [get_setN, b4, hg1]
    simp only [Option.map_some]
    rw [if_pos]
    exact hdn.symm
  have e1 := gets_some g1
  have e2 := gets_some g2
  refine ⟨?_, by rw [e1]; rfl, by rw [e1]; rfl, by rw [e1, hgd]; rfl, by rw [e1]; rfl, by rw [e1]; rfl, ?_, ?_, by rw [e2]; rfl, T.wf_of (by omega) (by omega)⟩
  · unfold touch; rw [length_setN]; exact b2
  · rw [e2]; exact numOf_put hup ⟨s, st.last + 1⟩
  · rw [e2, hgd]; exact put_more (y := ⟨s, st.last + 1⟩) hname
/-- a call that makes something: what it answers -/
def thrSt (st : St) (a : Ac) : St × Int × Int :=
  if a.kind = 0 then dirSt st a.cu a.cg 9 (place (st.last + 1) a.dir) a.name a.n
  else if a.kind = 1 then fileSt st a.cu a.cg 9 (place (st.last + 1) a.dir) a.name a.n a.text
  else symSt st a.cu a.cg 9 (place (st.last + 1) a.dir) a.name a.text
theorem thr_born {m : Int} {st : St} (hf : Fine m st) (hm : m ≤ 900) (a : Ac) :
    ((thrSt st a).2.2 = 0 ∧ Born st (thrSt st a).1 a.cu a.cg 9 (place (st.last + 1) a.dir) a.name (thrSt st a).2.1) ∨ ((thrSt st a).2.2 ≠ 0 ∧ (thrSt st a).1 = st ∧ (thrSt st a).2.1 = 0) := by
  unfold thrSt
  split
  · unfold dirSt
    split
    · exact .inr ⟨by simp, rfl, rfl⟩
    · exact come_born hf hm ..
  · split
    · unfold fileSt
      split
      · exact .inr ⟨by simp, rfl, rfl⟩
      · split
        · exact .inr ⟨by simp, rfl, rfl⟩
        · exact come_born hf hm ..
    · unfold symSt
      split
      · exact .inr ⟨by simp, rfl, rfl⟩
      · split
        · exact .inr ⟨by simp, rfl, rfl⟩
        · exact come_born hf hm ..
end Go.Proofs.YtenopnfclbegbaaGreat.BR
