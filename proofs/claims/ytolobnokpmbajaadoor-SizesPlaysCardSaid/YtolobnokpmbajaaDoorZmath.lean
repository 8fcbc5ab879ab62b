/-
  Sorted rows, and what of several lines of one name is left: the mathematics.
-/
import Derived.Test.YtolobnokpmbajaaDoorZrparse
import Derived.Test.YtolobnokpmbajaaDoorZparse
namespace Go.Proofs.YtolobnokpmbajaaDoor.Z

/-- rising by their names -/
def Up (l : List Line) : Prop := l.Pairwise fun a b => a.name < b.name
theorem mem_fil' {x : Line} {l : List Line} (h : x ∈ l) : x ∈ St.fil x.name l := St.mem_fil.2 ⟨h, rfl⟩
theorem up_ext : ∀ (xs ys : List Line), Up xs → Up ys → (∀ n, St.fil n xs = St.fil n ys) → xs = ys
  | [], [], _, _, _ => rfl
  | [], y :: ys, _, _, h => by have := mem_fil' (show y ∈ y :: ys by simp); rw [← h] at this; simp [St.fil] at this
  | x :: xs, [], _, _, h => by have := mem_fil' (show x ∈ x :: xs by simp); rw [h] at this; simp [St.fil] at this
  | x :: xs, y :: ys, hx, hy, h => by
    obtain ⟨hx1, hx2⟩ := List.pairwise_cons.1 hx
    obtain ⟨hy1, hy2⟩ := List.pairwise_cons.1 hy
    have m1 : x ∈ y :: ys := by
      have := mem_fil' (show x ∈ x :: xs by simp)
      rw [h] at this; exact (St.mem_fil.1 this).1
    have m2 : y ∈ x :: xs := by
      have := mem_fil' (show y ∈ y :: ys by simp)
      rw [← h] at this; exact (St.mem_fil.1 this).1
    have e : x = y := by
      rcases List.mem_cons.1 m1 with e | h1
      · exact e
      · rcases List.mem_cons.1 m2 with e | h2
        · exact e.symm
        · exact absurd (hx1 y h2) (St.lt_asymm (hy1 x h1))
    subst e
    congr 1
    refine up_ext xs ys hx2 hy2 fun n => ?_
    have := h n
    simp only [St.fil, List.filter_cons] at this ⊢
    split at this
    · exact (List.cons.inj this).2
    · exact this

theorem fil_lo (ls : List Line) (m n : List UInt8) : St.fil n (lo ls m) = if n < m then St.fil n ls else [] := by
  unfold St.fil lo
  rw [List.filter_filter]
  split
  · rename_i h
    congr 1; funext x
    by_cases e : x.name = n
    · subst e; simp [h]
    · simp [e]
  · rename_i h
    rw [List.filter_eq_nil_iff]
    intro x _ hx
    simp at hx
    obtain ⟨e, h2⟩ := hx
    rw [e] at h2; exact h h2
theorem fil_hi (ls : List Line) (m n : List UInt8) : St.fil n (hi ls m) = if m < n then St.fil n ls else [] := by
  unfold St.fil hi
  rw [List.filter_filter]
  split
  · rename_i h
    congr 1; funext x
    by_cases e : x.name = n
    · subst e; simp [h]
    · simp [e]
  · rename_i h
    rw [List.filter_eq_nil_iff]
    intro x _ hx
    simp at hx
    obtain ⟨e, h2⟩ := hx
    rw [e] at h2; exact h h2
theorem fil_put (ls : List Line) (y : Line) (n : List UInt8) : St.fil n (put ls y) = if y.name = n then [y] else St.fil n ls := by
  unfold put
  rw [St.fil_append, St.fil_append, fil_lo, fil_hi]
  have e1 : St.fil n [y] = if y.name = n then [y] else [] := by unfold St.fil; by_cases h : y.name = n <;> simp [h]
  rw [e1]
  rcases St.tri n y.name with h | h | h
  · have h2 := St.lt_asymm h
    have h3 : ¬ y.name = n := fun e => by rw [e] at h; exact St.lt_irrefl _ h
    rw [if_pos h, if_neg h2, if_neg h3, if_neg h3]; simp
  · have h2 : ¬ n < y.name := by rw [h]; exact St.lt_irrefl _
    have h3 : ¬ y.name < n := by rw [h]; exact St.lt_irrefl _
    rw [if_neg h2, if_neg h3, if_pos h.symm, if_pos h.symm]; simp
  · have h2 := St.lt_asymm h
    have h3 : ¬ y.name = n := fun e => by rw [e] at h; exact St.lt_irrefl _ h
    rw [if_neg h2, if_pos h, if_neg h3, if_neg h3]; simp
theorem up_put {ls : List Line} (h : Up ls) (y : Line) : Up (put ls y) := by
  unfold put Up
  rw [List.pairwise_append, List.pairwise_append]
  refine ⟨⟨h.sublist List.filter_sublist, List.pairwise_singleton _ _, fun a ha b hb => ?_⟩, h.sublist List.filter_sublist, fun a ha b hb => ?_⟩
  · rw [List.mem_singleton] at hb; subst hb
    simpa [lo] using (List.mem_filter.1 ha).2
  · have h2 : y.name < b.name := by simpa [hi] using (List.mem_filter.1 hb).2
    rcases List.mem_append.1 ha with h3 | h3
    · have h1 : a.name < y.name := by simpa [lo] using (List.mem_filter.1 h3).2
      exact St.lt_trans h1 h2
    · rw [List.mem_singleton] at h3; subst h3; exact h2
/-- put in one behind the other -/
def puts (ls : List Line) : List Line := ls.foldl put []
theorem puts_snoc (ls : List Line) (y : Line) : puts (ls ++ [y]) = put (puts ls) y := by simp [puts]
theorem up_fold : ∀ (ls rs : List Line), Up rs → Up (ls.foldl put rs)
  | [], _, h => h
  | y :: ls, rs, h => up_fold ls (put rs y) (up_put h y)
theorem up_puts (ls : List Line) : Up (puts ls) := up_fold ls [] List.Pairwise.nil
theorem fil_snoc (ls : List Line) (y : Line) (n : List UInt8) : St.fil n (ls ++ [y]) = St.fil n ls ++ (if y.name = n then [y] else []) := by
  rw [St.fil_append]; congr 1; unfold St.fil; by_cases h : y.name = n <;> simp [h]
theorem fil_puts (n : List UInt8) (ls : List Line) : St.fil n (puts ls) = (St.fil n ls).getLast?.toList := by
  have key : ∀ k, ∀ ls : List Line, ls.length = k → St.fil n (puts ls) = (St.fil n ls).getLast?.toList := by
    intro k
    induction k with
    | zero => intro ls h; rw [List.eq_nil_of_length_eq_zero h]; rfl
    | succ k ih =>
      intro ls h
      have hne : ls ≠ [] := by intro e; rw [e] at h; simp at h
      obtain ⟨q, y, rfl⟩ : ∃ q y, ls = q ++ [y] := ⟨ls.dropLast, ls.getLast hne, (List.dropLast_concat_getLast hne).symm⟩
      rw [puts_snoc, fil_put, fil_snoc]
      by_cases e : y.name = n
      · rw [if_pos e, if_pos e]; simp
      · rw [if_neg e, if_neg e, List.append_nil]; exact ih q (by simp at h; exact h)
  exact key _ ls rfl
theorem rows_puts : ∀ (ts : List (List UInt8)) (rs : List Line), ts.foldl step rs = (fnd ts).foldl put rs
  | [], _ => rfl
  | t :: ts, rs => by
    rw [List.foldl_cons, rows_puts ts]
    unfold step fnd
    cases h : rd t <;> simp [h]
theorem rows_is (ts : List (List UInt8)) : rows ts = puts (fnd ts) := rows_puts ts []

/-- not falling -/
def Ns (l : List Line) : Prop := l.Pairwise fun a b => ¬ b.name < a.name
theorem cp_facts : ∀ (l : List Line) (x : Line), Ns (x :: l) → (∀ a ∈ cp x l, x.name < a.name) ∧ Up (cp x l) ∧ ∀ n, St.fil n (cp x l) = if n = x.name then [] else (St.fil n l).head?.toList
  | [], x, _ => ⟨by simp [cp], List.Pairwise.nil, fun n => by simp [cp, St.fil]⟩
  | y :: l, x, h => by
    obtain ⟨h1, h2⟩ := List.pairwise_cons.1 h
    obtain ⟨ih1, ih2, ih3⟩ := cp_facts l y h2
    have hxy := h1 y (by simp)
    unfold cp
    by_cases e : y.name = x.name
    · rw [if_pos e]
      refine ⟨fun a ha => by rw [← e]; exact ih1 a ha, ih2, fun n => ?_⟩
      rw [ih3 n, e]
      by_cases hn : n = x.name
      · rw [if_pos hn, if_pos hn]
      · rw [if_neg hn, if_neg hn]
        have : ¬ y.name = n := fun e' => hn (by rw [← e', e])
        simp [St.fil, this]
    · rw [if_neg e]
      have hlt : x.name < y.name := by
        rcases St.tri x.name y.name with h' | h' | h'
        · exact h'
        · exact absurd h'.symm e
        · exact absurd h' hxy
      refine ⟨fun a ha => ?_, List.pairwise_cons.2 ⟨ih1, ih2⟩, fun n => ?_⟩
      · rcases List.mem_cons.1 ha with rfl | ha
        · exact hlt
        · exact St.lt_trans hlt (ih1 a ha)
      · have hc : St.fil n (y :: cp y l) = (if y.name = n then [y] else []) ++ St.fil n (cp y l) := by unfold St.fil; by_cases h' : y.name = n <;> simp [h']
        rw [hc, ih3 n]
        by_cases hn : n = x.name
        · subst hn
          rw [if_neg e, if_neg (fun e' => e e'.symm), if_pos rfl]
          have hnil : St.fil x.name l = [] := by
            refine St.fil_nil_iff.2 fun a ha e' => ?_
            have h3 := (List.pairwise_cons.1 h2).1 a ha
            rw [e'] at h3; exact h3 hlt
          rw [hnil]; rfl
        · rw [if_neg hn]
          by_cases hy : y.name = n
          · subst hy
            rw [if_pos rfl, if_pos rfl]
            simp [St.fil]
          · rw [if_neg hy, if_neg (fun e' => hy e'.symm)]
            simp [St.fil, hy]
theorem compact_up {l : List Line} (h : Ns l) : Up (compact l) := by
  cases l with
  | nil => exact List.Pairwise.nil
  | cons x l =>
    obtain ⟨h1, h2, _⟩ := cp_facts l x h
    exact List.pairwise_cons.2 ⟨h1, h2⟩
theorem compact_fil {l : List Line} (h : Ns l) (n : List UInt8) : St.fil n (compact l) = (St.fil n l).head?.toList := by
  cases l with
  | nil => rfl
  | cons x l =>
    obtain ⟨_, _, h3⟩ := cp_facts l x h
    have hc : St.fil n (x :: cp x l) = (if x.name = n then [x] else []) ++ St.fil n (cp x l) := by unfold St.fil; by_cases h' : x.name = n <;> simp [h']
    show St.fil n (x :: cp x l) = _
    rw [hc, h3 n]
    by_cases e : x.name = n
    · subst e; simp [St.fil]
    · rw [if_neg e, if_neg (fun e' => e e'.symm)]; simp [St.fil, e]
theorem Stab.ns {ls ms : List Line} (h : Stab ls ms) : Ns ms := by
  refine List.pairwise_iff_getElem.2 fun i j hi hj hij => ?_
  have := h.srt i j (Nat.le_of_lt hij) hj
  rwa [getElem!_pos ms i hi, getElem!_pos ms j hj] at this
/-- what Parse's row tells -/
theorem stab_puts {ls ms : List Line} (h : Stab ls.reverse ms) : compact ms = puts ls := by
  refine up_ext _ _ (compact_up h.ns) (up_puts ls) fun n => ?_
  rw [compact_fil h.ns, h.fil n, fil_puts]
  have : St.fil n ls.reverse = (St.fil n ls).reverse := by unfold St.fil; rw [List.filter_reverse]
  rw [this, List.head?_reverse]
theorem up_one {ls : List Line} (h : Up ls) : puts ls = ls := by
  refine up_ext _ _ (up_puts ls) h fun n => ?_
  rw [fil_puts]
  have h1 : Up (St.fil n ls) := h.sublist List.filter_sublist
  have h2 : ∀ x ∈ St.fil n ls, x.name = n := fun x hx => (St.mem_fil.1 hx).2
  cases hf : St.fil n ls with
  | nil => rfl
  | cons a l =>
    rw [hf] at h1 h2
    cases l with
    | nil => rfl
    | cons b l =>
      have h3 := (List.pairwise_cons.1 h1).1 b (by simp)
      rw [h2 a (by simp), h2 b (by simp)] at h3
      exact absurd h3 (St.lt_irrefl _)
end Go.Proofs.YtolobnokpmbajaaDoor.Z
