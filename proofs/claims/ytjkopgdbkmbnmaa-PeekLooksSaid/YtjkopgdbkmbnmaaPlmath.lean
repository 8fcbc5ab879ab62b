/-
  What a directory's list has is looked up there: the mathematics.
-/
import Derived.Test.YtjkopgdbkmbnmaaPtell
namespace Go.Proofs.Ytjkopgdbkmbnmaa.P
open Go.RowKit Go.Shelf G

theorem str_geq (a b : List UInt8) (W : World) : (binOp .geq 9 (.string ⟨a.toArray⟩) (.string ⟨b.toArray⟩)).run Try.prog W = .ok (.bool (!Op.bytesLess a b)) W := by
  simp [binOp, go_sem, Op.stringOp, ByteArray.toList_eq]
theorem numOf_at : ∀ {ls : List E.Ent} {i : Nat} {y : E.Ent}, E.Up ls → ls[i]? = some y → E.numOf ls y.name = y.no
  | [], i, y, _, h => by simp at h
  | x :: r, 0, y, _, h => by
    obtain rfl : x = y := by simpa using h
    unfold E.numOf
    rw [List.find?_cons_of_pos (by simp)]
  | x :: r, i + 1, y, hu, h => by
    have hi : r[i]? = some y := by simpa using h
    have hxy : x.name < y.name := (List.pairwise_cons.1 hu).1 y (List.mem_of_getElem? hi)
    have ih := numOf_at (List.pairwise_cons.1 hu).2 hi
    unfold E.numOf at ih ⊢
    rw [List.find?_cons_of_neg (by simp; intro e; rw [e] at hxy; exact E.lt_irrefl _ hxy)]
    exact ih
theorem rising {ls : List E.Ent} {i : Nat} {x y : E.Ent} (hu : E.Up ls) (h1 : ls[i]? = some x) (h2 : ls[i + 1]? = some y) : x.name < y.name := by
  obtain ⟨a1, b1⟩ := List.getElem?_eq_some_iff.1 h1
  obtain ⟨a2, b2⟩ := List.getElem?_eq_some_iff.1 h2
  have := List.pairwise_iff_getElem.1 hu i (i + 1) a1 a2 (by omega)
  rw [b1, b2] at this
  exact this
section
variable {st : St} {cu cg k : Int}
theorem dir_ok (h : dirE st cu cg k 4 = 0) : dirE st cu cg k 1 = 0 ∨ dirE st cu cg k 1 = 6 := by
  unfold dirE at h ⊢
  split at h
  · cases h
  · rename_i h1
    rw [if_neg h1]
    split at h
    · cases h
    · rename_i h2
      rw [if_neg h2]
      split
      · exact .inr rfl
      · exact .inl rfl
/-- an entry is looked up, or may not be -/
theorem looked (hI : Inv st) (hT : K.Tree st) (h : dirE st cu cg k 4 = 0) {i : Nat} {y : E.Ent} (hy : (gets st.n k).es[i]? = some y) :
    lookE st cu cg k y.name = 6 ∨ (lookE st cu cg k y.name = 0 ∧ lookN st cu cg k y.name = over st.d y.no) := by
  have hn := numOf_at (K.gets_up hT k) hy
  have hm := List.mem_of_getElem? hy
  have hpos : y.no ≠ 0 := by
    cases hg : get st.n k with
    | none => rw [gets_none hg] at hm; cases hm
    | some d =>
      rw [gets_some hg] at hm
      have := K.there_range hI (hT.kids d (get_some hg).1 y hm)
      omega
  unfold lookE lookN
  rcases dir_ok h with h1 | h1
  · right
    rw [h1, hn]
    refine ⟨by simp [hpos], ?_⟩
    simp only [ne_eq, not_true_eq_false, if_false, hpos]
    unfold K.hit
    rw [hn]
  · left
    rw [h1]; simp
end
end Go.Proofs.Ytjkopgdbkmbnmaa.P
