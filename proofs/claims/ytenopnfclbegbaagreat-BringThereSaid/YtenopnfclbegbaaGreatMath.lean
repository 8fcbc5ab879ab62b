/-
  Names and paths, on lists of bytes: what stands between slashes; which of it says something; what stands last.
-/
import Derived.Lib.IndexMore
import Derived.Lib.LastIndexByte
import Derived.Lib.TrimByte
import Derived.Lib.Strings
namespace Go.Proofs.YtenopnfclbegbaaGreat.V.M
open Go

/-- What stands between slashes. -/
def pieces : List UInt8 → List (List UInt8)
  | [] => [[]]
  | b :: l => if b = 47 then [] :: pieces l else match pieces l with
    | [] => [[b]]
    | p :: ps => (b :: p) :: ps

theorem pieces_nil : pieces [] = [[]] := rfl
theorem pieces_slash (l : List UInt8) : pieces (47 :: l) = [] :: pieces l := by rw [pieces, if_pos rfl]
theorem pieces_ne : ∀ l, pieces l ≠ []
  | [] => by simp [pieces]
  | b :: l => by
    rw [pieces]
    split
    · simp
    · split <;> simp
theorem pieces_cons {b : UInt8} {l p : List UInt8} {ps : List (List UInt8)} (hb : b ≠ 47) (h : pieces l = p :: ps) : pieces (b :: l) = (b :: p) :: ps := by
  rw [pieces, if_neg hb, h]
theorem pieces_app : ∀ a r : List UInt8, pieces (a ++ 47 :: r) = pieces a ++ pieces r
  | [], r => by rw [List.nil_append, pieces_slash, pieces_nil]; rfl
  | b :: a, r => by
    have ih := pieces_app a r
    by_cases hb : b = 47
    · subst hb
      rw [List.cons_append, pieces_slash, pieces_slash, ih]; rfl
    · cases hp : pieces a with
      | nil => exact absurd hp (pieces_ne a)
      | cons p ps =>
        rw [pieces_cons hb hp, List.cons_append, pieces_cons hb (p := p) (ps := ps ++ pieces r) (by rw [ih, hp]; rfl)]
        rfl
theorem pieces_none : ∀ l : List UInt8, (47 : UInt8) ∉ l → pieces l = [l]
  | [], _ => rfl
  | b :: l, h => by
    simp only [List.mem_cons, not_or] at h
    exact pieces_cons (fun e => h.1 e.symm) (pieces_none l h.2)
theorem pieces_len : ∀ l, (pieces l).length ≤ l.length + 1
  | [] => by simp [pieces]
  | b :: l => by
    have ih := pieces_len l
    by_cases hb : b = 47
    · subst hb; rw [pieces_slash]; simp; omega
    · cases hp : pieces l with
      | nil => exact absurd hp (pieces_ne l)
      | cons p ps => rw [pieces_cons hb hp]; rw [hp] at ih; simp at ih ⊢; omega
theorem pieces_pos (l : List UInt8) : 0 < (pieces l).length := List.length_pos_iff.2 (pieces_ne l)
/-- The bytes of all the pieces together. -/
def total (ps : List (List UInt8)) : Nat := (ps.map List.length).sum
theorem pieces_total : ∀ l, total (pieces l) ≤ l.length
  | [] => by simp [pieces, total]
  | b :: l => by
    have ih := pieces_total l
    by_cases hb : b = 47
    · subst hb; rw [pieces_slash]; simp [total] at ih ⊢; omega
    · cases hp : pieces l with
      | nil => exact absurd hp (pieces_ne l)
      | cons p ps => rw [pieces_cons hb hp]; rw [hp] at ih; simp [total] at ih ⊢; omega
theorem pieces_mem : ∀ (l p : List UInt8), p ∈ pieces l → (47 : UInt8) ∉ p
  | [], p, h => by simp [pieces] at h; subst h; simp
  | b :: l, p, h => by
    by_cases hb : b = 47
    · subst hb
      rw [pieces_slash, List.mem_cons] at h
      rcases h with rfl | h
      · simp
      · exact pieces_mem l p h
    · cases hp : pieces l with
      | nil => exact absurd hp (pieces_ne l)
      | cons q qs =>
        rw [pieces_cons hb hp, List.mem_cons] at h
        have ih := pieces_mem l
        rcases h with rfl | h
        · simp only [List.mem_cons, not_or]
          exact ⟨fun e => hb e.symm, ih q (by rw [hp]; simp)⟩
        · exact ih p (by rw [hp]; simp [h])

/-- What stands behind the last slash. -/
def lastp (l : List UInt8) : List UInt8 := (pieces l).getLast (pieces_ne l)
theorem lastp_at (l : List UInt8) : (pieces l)[(pieces l).length - 1]? = some (lastp l) := by
  unfold lastp; rw [← List.getLast?_eq_getElem?, List.getLast?_eq_some_getLast (pieces_ne l)]
theorem lastp_none {l : List UInt8} (h : (47 : UInt8) ∉ l) : lastp l = l := by
  unfold lastp; simp only [pieces_none l h, List.getLast_singleton]
theorem lastp_app (a r : List UInt8) : lastp (a ++ 47 :: r) = lastp r := by
  unfold lastp; simp only [pieces_app, List.getLast_append, pieces_ne, List.isEmpty_iff, dite_false]
theorem lastp_le (l : List UInt8) : (lastp l).length ≤ l.length := by
  have h := pieces_total l
  have hm : lastp l ∈ pieces l := List.getLast_mem _
  have : ∀ (ps : List (List UInt8)) (p : List UInt8), p ∈ ps → p.length ≤ total ps := by
    intro ps
    induction ps with
    | nil => intro p hp; simp at hp
    | cons q qs ih =>
      intro p hp
      rw [List.mem_cons] at hp
      rcases hp with rfl | hp
      · simp [total]
      · have := ih p hp; simp [total] at this ⊢; omega
  exact Nat.le_trans (this _ _ hm) h

theorem snoc_slash (l : List UInt8) : pieces (l ++ [47]) = pieces l ++ [[]] := by
  have := pieces_app l []
  rw [pieces_nil] at this
  exact this
theorem set_last {α : Type} : ∀ (a : List α) (x y : α), (a ++ [x]).set ((a ++ [x]).length - 1) y = a ++ [y] := by
  intro a x y
  simp
theorem snoc_other {b : UInt8} (hb : b ≠ 47) : ∀ l : List UInt8, pieces (l ++ [b]) = (pieces l).set ((pieces l).length - 1) (lastp l ++ [b])
  | [] => by simp [pieces, hb, lastp]
  | c :: l => by
    have ih := snoc_other hb l
    by_cases hc : c = 47
    · subst hc
      have e : lastp (47 :: l) = lastp l := lastp_app [] l
      rw [List.cons_append, pieces_slash, pieces_slash, ih, e]
      have := pieces_pos l
      obtain ⟨n, hn⟩ : ∃ n, (pieces l).length = n + 1 := ⟨_, (Nat.succ_pred_eq_of_pos this).symm⟩
      simp [hn]
    · cases hp : pieces l with
      | nil => exact absurd hp (pieces_ne l)
      | cons p ps =>
        rw [hp] at ih
        have e := pieces_cons hc hp
        cases ps with
        | nil =>
          have e1 : lastp l = p := by unfold lastp; simp [hp]
          have e2 : lastp (c :: l) = c :: p := by unfold lastp; simp [e]
          rw [e1] at ih
          rw [e, e2, List.cons_append, pieces_cons hc (p := p ++ [b]) (ps := []) (by rw [ih]; simp)]
          simp
        | cons q qs =>
          have e1 : lastp (c :: l) = lastp l := by unfold lastp; simp [e, hp]
          rw [e, e1, List.cons_append, pieces_cons hc (p := p) (ps := (q :: qs).set ((q :: qs).length - 1) (lastp l ++ [b])) (by rw [ih]; simp)]
          simp

/-- A piece that says something. -/
def keep (p : List UInt8) : Bool := !(p == [] || p == [46])
def parts (l : List UInt8) : List (List UInt8) := (pieces l).filter keep
theorem parts_len (l : List UInt8) : (parts l).length ≤ l.length + 1 := Nat.le_trans (List.length_filter_le _ _) (pieces_len l)
theorem keep_empty : keep [] = false := rfl
theorem keep_dot : keep [46] = false := rfl
theorem keep_other {p : List UInt8} (h1 : p ≠ []) (h2 : p ≠ [46]) : keep p = true := by simp [keep, h1, h2]

/-! ### The library's words -/
theorem index_slash : ∀ l : List UInt8, (Lib.index l [47] = -1 ∧ (47 : UInt8) ∉ l) ∨ ∃ i : Nat, Lib.index l [47] = i ∧ i < l.length ∧ (47 : UInt8) ∉ l.take i ∧ l = l.take i ++ 47 :: l.drop (i + 1)
  | [] => .inl ⟨rfl, by simp⟩
  | b :: l => by
    by_cases hb : b = 47
    · subst hb
      exact .inr ⟨0, by simp [Lib.index], by simp, by simp, by simp⟩
    · have e : ([47] : List UInt8).isPrefixOf (b :: l) = false := by simp [List.isPrefixOf]; exact fun e => hb e.symm
      rcases index_slash l with ⟨h1, h2⟩ | ⟨i, h1, h2, h3, h4⟩
      · left
        refine ⟨by rw [Lib.index, e, h1]; rfl, ?_⟩
        simp only [List.mem_cons, not_or]
        exact ⟨fun e => hb e.symm, h2⟩
      · right
        refine ⟨i + 1, ?_, by simp; omega, ?_, ?_⟩
        · rw [Lib.index, e, h1]
          have : ((i : Int) == -1) = false := by rw [beq_eq_false_iff_ne]; omega
          simp [this]
        · simp only [List.take_succ_cons, List.mem_cons, not_or]
          exact ⟨fun e => hb e.symm, h3⟩
        · simp only [List.take_succ_cons, List.drop_succ_cons, List.cons_append]
          rw [← h4]
theorem index_byte (c : UInt8) : ∀ l : List UInt8, (Lib.index l [c] = -1 ∧ c ∉ l) ∨ (0 ≤ Lib.index l [c] ∧ c ∈ l)
  | [] => .inl ⟨rfl, by simp⟩
  | b :: l => by
    by_cases hb : c = b
    · subst hb
      exact .inr ⟨by simp [Lib.index], by simp⟩
    · have e : ([c] : List UInt8).isPrefixOf (b :: l) = false := by simp [List.isPrefixOf]; exact hb
      rcases index_byte c l with ⟨h1, h2⟩ | ⟨h1, h2⟩
      · left
        refine ⟨by rw [Lib.index, e, h1]; rfl, ?_⟩
        simp only [List.mem_cons, not_or]
        exact ⟨hb, h2⟩
      · right
        refine ⟨?_, by simp [h2]⟩
        rw [Lib.index, e]
        have : (Lib.index l [c] == -1) = false := by rw [beq_eq_false_iff_ne]; omega
        simp [this]; omega
theorem contains_byte (l : List UInt8) (c : UInt8) : Lib.contains l [c] = decide (c ∈ l) := by
  unfold Lib.contains
  rcases index_byte c l with ⟨h1, h2⟩ | ⟨h1, h2⟩
  · simp [h1, h2]
  · simp [h1, h2]
/-- The first piece, what is left, and whether anything is left. -/
theorem cut_slash (l : List UInt8) :
    (Lib.cut l [47] = (l, [], false) ∧ pieces l = [l]) ∨ ∃ p r : List UInt8, Lib.cut l [47] = (p, r, true) ∧ pieces l = p :: pieces r ∧ p.length + r.length + 1 = l.length := by
  rcases index_slash l with ⟨h1, h2⟩ | ⟨i, h1, h2, h3, h4⟩
  · left
    exact ⟨by simp [Lib.cut, h1], pieces_none l h2⟩
  · right
    refine ⟨l.take i, l.drop (i + 1), by simp [Lib.cut, h1], ?_, by simp; omega⟩
    have := pieces_app (l.take i) (l.drop (i + 1))
    rw [← h4, pieces_none _ h3] at this
    exact this
theorem last_slash (s : ByteArray) : ∃ k : Nat, Lib.lastIndexByte s 47 + 1 = k ∧ k ≤ s.size ∧ lastp s.data.toList = s.data.toList.drop k := by
  have get : ∀ j (hj : j < s.data.toList.length), s.data[j]! = s.data.toList[j] := by
    intro j hj
    rw [getElem!_pos s.data j (by simpa using hj)]; simp
  have noth : ∀ k : Nat, (∀ j, k ≤ j → j < s.size → ((s.data[j]!).toNat : Int) ≠ 47) → (47 : UInt8) ∉ s.data.toList.drop k := by
    intro k h hm
    obtain ⟨j, hj, e⟩ := List.mem_iff_getElem.1 hm
    have hj' : j < s.data.toList.length - k := by simpa using hj
    have hlt : k + j < s.size := by have : s.size = s.data.toList.length := by simp
                                    omega
    refine h (k + j) (by omega) hlt ?_
    have hlt' : k + j < s.data.toList.length := by simpa using hlt
    rw [List.getElem_drop] at e
    rw [get _ hlt', e]; rfl
  rcases Lib.lastIdx_spec s 47 s.size with ⟨h1, h2⟩ | ⟨i, hi, h1, h2, h3⟩
  · refine ⟨0, ?_, Nat.zero_le _, ?_⟩
    · unfold Lib.lastIndexByte; rw [h1]; rfl
    · rw [List.drop_zero]
      have := noth 0 (fun j _ hj => h2 j hj)
      rw [List.drop_zero] at this
      exact lastp_none this
  · refine ⟨i + 1, ?_, by omega, ?_⟩
    · unfold Lib.lastIndexByte; rw [h1]; rfl
    · have hn := noth (i + 1) (fun j hj hs => h3 j (by omega) hs)
      have hi' : i < s.data.toList.length := by simpa using hi
      have e47 : s.data.toList[i] = 47 := by
        rw [get i hi'] at h2
        apply UInt8.toNat_inj.1
        have : (47 : UInt8).toNat = 47 := rfl
        omega
      have split : s.data.toList = s.data.toList.take i ++ 47 :: s.data.toList.drop (i + 1) := by
        conv => lhs; rw [← List.take_append_drop i s.data.toList, List.drop_eq_getElem_cons hi', e47]
      conv => lhs; rw [split, lastp_app, lastp_none hn]

theorem trim_snoc (l : List UInt8) : Lib.trimRightB (l ++ [47]) 47 = Lib.trimRightB l 47 := by simp [Lib.trimRightB]
theorem trim_other {b : UInt8} (l : List UInt8) (h : b ≠ 47) : Lib.trimRightB (l ++ [b]) 47 = l ++ [b] := by simp [Lib.trimRightB, h]
theorem trim_nil : Lib.trimRightB [] 47 = [] := rfl
theorem trim_le (l : List UInt8) : (Lib.trimRightB l 47).length ≤ l.length := by
  unfold Lib.trimRightB
  rw [List.length_reverse, ← List.length_reverse (as := l)]
  exact (List.dropWhile_sublist _).length_le

/-! ### The document's answers -/
def has (l : List UInt8) (c : UInt8) : Bool := decide (c ∈ l)
theorem has_yes {l : List UInt8} {c : UInt8} (h : c ∈ l) : has l c = true := decide_eq_true h
theorem has_no {l : List UInt8} {c : UInt8} (h : c ∉ l) : has l c = false := decide_eq_false h
def bad (l : List UInt8) : Prop := l = [] ∨ l = [46] ∨ l = [46, 46] ∨ (47 : UInt8) ∈ l ∨ (0 : UInt8) ∈ l
instance (l : List UInt8) : Decidable (bad l) := by unfold bad; infer_instance
def check (l : List UInt8) : Int := if bad l then 1 else if 255 < l.length then 13 else 0
def wrongPath (l : List UInt8) : Prop := ¬ (l.head? = some 47) ∨ (0 : UInt8) ∈ l
instance (l : List UInt8) : Decidable (wrongPath l) := by unfold wrongPath; infer_instance
def path (l : List UInt8) : Int := if l = [] then 5 else if wrongPath l then 1 else if 4096 < l.length then 13 else 0
def dots (l : List UInt8) : Bool := l == [46] || l == [46, 46]
def slash (l : List UInt8) : Bool := lastp l == [] || dots (lastp l)
def last (l : List UInt8) : List UInt8 := if dots (lastp (Lib.trimRightB l 47)) then [] else lastp (Lib.trimRightB l 47)

theorem part_is {l p : List UInt8} (h : p ∈ parts l) : p ≠ [] ∧ p ≠ [46] ∧ (47 : UInt8) ∉ p := by
  rw [parts, List.mem_filter] at h
  refine ⟨?_, ?_, pieces_mem l p h.1⟩
  · rintro rfl; simp [keep] at h
  · rintro rfl; simp [keep] at h
/-- P2.3. -/
theorem part_name {l p : List UInt8} (h : p ∈ parts l) : check p = 0 ∨ p = [46, 46] ∨ 255 < p.length ∨ (0 : UInt8) ∈ p := by
  obtain ⟨h1, h2, h3⟩ := part_is h
  by_cases h4 : p = [46, 46]
  · exact .inr (.inl h4)
  · by_cases h5 : (0 : UInt8) ∈ p
    · exact .inr (.inr (.inr h5))
    · by_cases h6 : 255 < p.length
      · exact .inr (.inr (.inl h6))
      · left
        unfold check
        rw [if_neg (by unfold bad; simp [h1, h2, h3, h4, h5]), if_neg h6]
theorem total_filter (f : List UInt8 → Bool) : ∀ ps, total (ps.filter f) ≤ total ps
  | [] => by simp [total]
  | p :: ps => by
    have ih := total_filter f ps
    rw [List.filter_cons]
    split
    · simp [total] at ih ⊢; omega
    · simp [total] at ih ⊢; omega
theorem parts_total (l : List UInt8) : total (parts l) ≤ l.length := Nat.le_trans (total_filter keep _) (pieces_total l)
theorem total_snoc (ps : List (List UInt8)) (p : List UInt8) : total (ps ++ [p]) = total ps + p.length := by simp [total]
theorem total_take (ps : List (List UInt8)) (k : Nat) : total (ps.take k) ≤ total ps := by
  have : total ps = total (ps.take k) + total (ps.drop k) := by
    have e : ∀ a b : List (List UInt8), total (a ++ b) = total a + total b := by intro a b; simp [total]
    rw [← e, List.take_append_drop]
  omega
end Go.Proofs.YtenopnfclbegbaaGreat.V.M
