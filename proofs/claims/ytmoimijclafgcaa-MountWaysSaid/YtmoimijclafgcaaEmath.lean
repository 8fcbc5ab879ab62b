/-
  Entries, their order by names, what is ahead of a name and behind it: the mathematics.
-/
import Derived.Lib.Bytealg
import Derived.Lib.Hide
import Derived.Sort.Walk0
namespace Go.Proofs.Ytmoimijclafgcaa.E

theorem lt_irrefl (a : List UInt8) : ¬ a < a := List.lt_irrefl a
theorem lt_trans {a b c : List UInt8} (h1 : a < b) (h2 : b < c) : a < c := List.lt_trans h1 h2
theorem lt_asymm {a b : List UInt8} (h : a < b) : ¬ b < a := fun h' => lt_irrefl a (lt_trans h h')
theorem tri (a b : List UInt8) : a < b ∨ a = b ∨ b < a := by
  by_cases h : a < b
  · exact .inl h
  · by_cases h' : b < a
    · exact .inr (.inr h')
    · exact .inr (.inl (List.le_antisymm (List.not_lt.1 h') (List.not_lt.1 h)))
theorem cmp_lt : ∀ a b : List UInt8, (Lib.compareBytes a b < 0 ↔ a < b)
  | [], [] => by simp [Lib.compareBytes]
  | [], _ :: _ => by simp [Lib.compareBytes]
  | _ :: _, [] => by simp [Lib.compareBytes]
  | a :: x, b :: y => by
    rw [Lib.compareBytes, List.cons_lt_cons_iff]
    by_cases h : a < b
    · rw [if_pos h]; simp [h]
    · rw [if_neg h]
      by_cases h' : b < a
      · rw [if_pos h']
        have : a ≠ b := fun e => by subst e; exact h h'
        simp [h, this]
      · rw [if_neg h', cmp_lt x y]
        have e : a = b := by
          apply UInt8.toNat_inj.1
          have h1 : ¬ a.toNat < b.toNat := h
          have h2 : ¬ b.toNat < a.toNat := h'
          omega
        subst e
        simp [h]
theorem cmp_eq : ∀ a b : List UInt8, (Lib.compareBytes a b = 0 ↔ a = b)
  | [], [] => by simp [Lib.compareBytes]
  | [], _ :: _ => by simp [Lib.compareBytes]
  | _ :: _, [] => by simp [Lib.compareBytes]
  | a :: x, b :: y => by
    rw [Lib.compareBytes]
    by_cases h : a < b
    · rw [if_pos h]
      have : a ≠ b := fun e => by subst e; exact absurd h (by show ¬ a.toNat < a.toNat; omega)
      simp [this]
    · rw [if_neg h]
      by_cases h' : b < a
      · rw [if_pos h']
        have : a ≠ b := fun e => by subst e; exact h h'
        simp [this]
      · rw [if_neg h', cmp_eq x y]
        have e : a = b := by
          apply UInt8.toNat_inj.1
          have h1 : ¬ a.toNat < b.toNat := h
          have h2 : ¬ b.toNat < a.toNat := h'
          omega
        subst e
        simp
/-- an entry of a directory -/
structure Ent where
  name : List UInt8
  no : Int
instance : Inhabited Ent := ⟨⟨[], 0⟩⟩
instance : DecidableEq Ent := fun a b =>
  if h1 : a.name = b.name then if h2 : a.no = b.no then .isTrue (by cases a; cases b; simp_all)
  else .isFalse (fun e => h2 (by rw [e])) else .isFalse (fun e => h1 (by rw [e]))
/-- how an entry and a name compare -/
def cf (x : Ent) (n : List UInt8) : Int := Lib.compareBytes x.name n
theorem cf_lt (x : Ent) (n : List UInt8) : cf x n < 0 ↔ x.name < n := cmp_lt _ _
theorem cf_eq (x : Ent) (n : List UInt8) : cf x n = 0 ↔ x.name = n := cmp_eq _ _

/-- those of one name, in their order -/
def fil (n : List UInt8) (l : List Ent) : List Ent := l.filter fun x => decide (x.name = n)
theorem fil_append (n : List UInt8) (a b : List Ent) : fil n (a ++ b) = fil n a ++ fil n b := by simp [fil]
theorem fil_nil_iff {n : List UInt8} {l : List Ent} : fil n l = [] ↔ ∀ x ∈ l, x.name ≠ n := by simp [fil]
theorem mem_fil {n : List UInt8} {l : List Ent} {x : Ent} : x ∈ fil n l ↔ x ∈ l ∧ x.name = n := by simp [fil]
/-- the lines ahead of a name, behind a name -/
def lo (ls : List Ent) (n : List UInt8) : List Ent := ls.filter fun x => decide (x.name < n)
def hi (ls : List Ent) (n : List UInt8) : List Ent := ls.filter fun x => decide (n < x.name)
/-- lines with one more, or another one -/
def put (ls : List Ent) (y : Ent) : List Ent := (lo ls y.name ++ [y]) ++ hi ls y.name
theorem lo_take {ls : List Ent} {k : Nat} {x : Ent} (n : List UInt8) (h : ls[k]? = some x) : lo (ls.take (k + 1)) n = lo (ls.take k) n ++ (if x.name < n then [x] else []) := by
  rw [List.take_add_one, h]
  unfold lo
  rw [List.filter_append]
  by_cases hx : x.name < n <;> simp [hx]
theorem hi_take {ls : List Ent} {k : Nat} {x : Ent} (n : List UInt8) (h : ls[k]? = some x) : hi (ls.take (k + 1)) n = hi (ls.take k) n ++ (if n < x.name then [x] else []) := by
  rw [List.take_add_one, h]
  unfold hi
  rw [List.filter_append]
  by_cases hx : n < x.name <;> simp [hx]
theorem lo_len (ls : List Ent) (n : List UInt8) : (lo ls n).length ≤ ls.length := List.length_filter_le _ _
theorem hi_len (ls : List Ent) (n : List UInt8) : (hi ls n).length ≤ ls.length := List.length_filter_le _ _
theorem less_yes {a b : List UInt8} (h : a < b) : Op.bytesLess a b = true := by rw [Go.Proofs.bytesLess_eq]; exact decide_eq_true h
theorem less_no {a b : List UInt8} (h : ¬ a < b) : Op.bytesLess a b = false := by rw [Go.Proofs.bytesLess_eq]; exact decide_eq_false h
/-- the lines without one of a name -/
def drop (ls : List Ent) (n : List UInt8) : List Ent := ls.filter fun x => decide (x.name ≠ n)
theorem drop_take {ls : List Ent} {k : Nat} {x : Ent} (n : List UInt8) (h : ls[k]? = some x) : drop (ls.take (k + 1)) n = drop (ls.take k) n ++ (if x.name = n then [] else [x]) := by
  rw [List.take_add_one, h]
  unfold drop
  rw [List.filter_append]
  by_cases hx : x.name = n <;> simp [hx]
theorem drop_len (ls : List Ent) (n : List UInt8) : (drop ls n).length ≤ ls.length := List.length_filter_le _ _
/-- rising by their names -/
def Up (l : List Ent) : Prop := l.Pairwise fun a b => a.name < b.name
theorem mem_fil' {x : Ent} {l : List Ent} (h : x ∈ l) : x ∈ fil x.name l := mem_fil.2 ⟨h, rfl⟩
theorem up_ext : ∀ (xs ys : List Ent), Up xs → Up ys → (∀ n, fil n xs = fil n ys) → xs = ys
  | [], [], _, _, _ => rfl
  | [], y :: ys, _, _, h => by have := mem_fil' (show y ∈ y :: ys by simp); rw [← h] at this; simp [fil] at this
  | x :: xs, [], _, _, h => by have := mem_fil' (show x ∈ x :: xs by simp); rw [h] at this; simp [fil] at this
  | x :: xs, y :: ys, hx, hy, h => by
    obtain ⟨hx1, hx2⟩ := List.pairwise_cons.1 hx
    obtain ⟨hy1, hy2⟩ := List.pairwise_cons.1 hy
    have m1 : x ∈ y :: ys := by
      have := mem_fil' (show x ∈ x :: xs by simp)
      rw [h] at this; exact (mem_fil.1 this).1
    have m2 : y ∈ x :: xs := by
      have := mem_fil' (show y ∈ y :: ys by simp)
      rw [← h] at this; exact (mem_fil.1 this).1
    have e : x = y := by
      rcases List.mem_cons.1 m1 with e | h1
      · exact e
      · rcases List.mem_cons.1 m2 with e | h2
        · exact e.symm
        · exact absurd (hx1 y h2) (lt_asymm (hy1 x h1))
    subst e
    congr 1
    refine up_ext xs ys hx2 hy2 fun n => ?_
    have := h n
    simp only [fil, List.filter_cons] at this ⊢
    split at this
    · exact (List.cons.inj this).2
    · exact this
theorem fil_lo (ls : List Ent) (m n : List UInt8) : fil n (lo ls m) = if n < m then fil n ls else [] := by
  unfold fil lo
  rw [List.filter_filter]
  split
  · rename_i h
    congr 1; funext x
    by_cases e : x.name = n
    · subst e; simp [h]
    · simp [e]
  · rename_i h
    rw [List.filter_eq_nil_iff]
    intro x _ hx
    simp at hx
    obtain ⟨e, h2⟩ := hx
    rw [e] at h2; exact h h2
theorem fil_hi (ls : List Ent) (m n : List UInt8) : fil n (hi ls m) = if m < n then fil n ls else [] := by
  unfold fil hi
  rw [List.filter_filter]
  split
  · rename_i h
    congr 1; funext x
    by_cases e : x.name = n
    · subst e; simp [h]
    · simp [e]
  · rename_i h
    rw [List.filter_eq_nil_iff]
    intro x _ hx
    simp at hx
    obtain ⟨e, h2⟩ := hx
    rw [e] at h2; exact h h2
theorem fil_put (ls : List Ent) (y : Ent) (n : List UInt8) : fil n (put ls y) = if y.name = n then [y] else fil n ls := by
  unfold put
  rw [fil_append, fil_append, fil_lo, fil_hi]
  have e1 : fil n [y] = if y.name = n then [y] else [] := by unfold fil; by_cases h : y.name = n <;> simp [h]
  rw [e1]
  rcases tri n y.name with h | h | h
  · have h2 := lt_asymm h
    have h3 : ¬ y.name = n := fun e => by rw [e] at h; exact lt_irrefl _ h
    rw [if_pos h, if_neg h2, if_neg h3, if_neg h3]; simp
  · have h2 : ¬ n < y.name := by rw [h]; exact lt_irrefl _
    have h3 : ¬ y.name < n := by rw [h]; exact lt_irrefl _
    rw [if_neg h2, if_neg h3, if_pos h.symm, if_pos h.symm]; simp
  · have h2 := lt_asymm h
    have h3 : ¬ y.name = n := fun e => by rw [e] at h; exact lt_irrefl _ h
    rw [if_neg h2, if_pos h, if_neg h3, if_neg h3]; simp
theorem up_put {ls : List Ent} (h : Up ls) (y : Ent) : Up (put ls y) := by
  unfold put Up
  rw [List.pairwise_append, List.pairwise_append]
  refine ⟨⟨h.sublist List.filter_sublist, List.pairwise_singleton _ _, fun a ha b hb => ?_⟩, h.sublist List.filter_sublist, fun a ha b hb => ?_⟩
  · rw [List.mem_singleton] at hb; subst hb
    simpa [lo] using (List.mem_filter.1 ha).2
  · have h2 : y.name < b.name := by simpa [hi] using (List.mem_filter.1 hb).2
    rcases List.mem_append.1 ha with h3 | h3
    · have h1 : a.name < y.name := by simpa [lo] using (List.mem_filter.1 h3).2
      exact lt_trans h1 h2
    · rw [List.mem_singleton] at h3; subst h3; exact h2
/-- does a name stand in the row? -/
def there (ls : List Ent) (n : List UInt8) : Bool := !(fil n ls).isEmpty
theorem lo_cons (x : Ent) (ls : List Ent) (n : List UInt8) : lo (x :: ls) n = if x.name < n then x :: lo ls n else lo ls n := by
  unfold lo; rw [List.filter_cons]; by_cases h : x.name < n <;> simp [h]
theorem lo_none {ls : List Ent} {n : List UInt8} (h : ∀ x ∈ ls, ¬ x.name < n) : lo ls n = [] := by
  unfold lo; rw [List.filter_eq_nil_iff]; intro x hx; simpa using h x hx
theorem place_key : ∀ (ls : List Ent), Up ls → ∀ (n : List UInt8) (k : Nat) (x : Ent), ls[k]? = some x → (x.name < n ↔ k < (lo ls n).length)
  | [], _, n, k, x, h => by simp at h
  | y :: ls, hu, n, k, x, h => by
    obtain ⟨h1, h2⟩ := List.pairwise_cons.1 hu
    by_cases hy : y.name < n
    · rw [lo_cons, if_pos hy, List.length_cons]
      cases k with
      | zero => simp at h; subst h; simp [hy]
      | succ k =>
        have := place_key ls h2 n k x (by simpa using h)
        rw [this]; omega
    · have hno : ∀ z ∈ ls, ¬ z.name < n := fun z hz hn => hy (lt_trans (h1 z hz) hn)
      rw [lo_cons, if_neg hy, lo_none hno]
      have hx : ¬ x.name < n := by
        cases k with
        | zero => simp at h; subst h; exact hy
        | succ k => exact hno x (List.mem_of_getElem? (by simpa using h))
      simp [hx]
theorem fil_fil (ls : List Ent) (n m : List UInt8) : fil m (fil n ls) = if m = n then fil n ls else [] := by
  unfold fil
  rw [List.filter_filter]
  split
  · rename_i h; subst h; congr 1; funext x; by_cases e : x.name = m <;> simp [e]
  · rename_i h
    rw [List.filter_eq_nil_iff]
    intro x _ hx
    simp at hx
    exact h (hx.1.symm.trans hx.2)
theorem row_parts {ls : List Ent} (hu : Up ls) (n : List UInt8) : ls = lo ls n ++ (fil n ls ++ hi ls n) := by
  refine up_ext _ _ hu ?_ fun m => ?_
  · unfold Up
    rw [List.pairwise_append, List.pairwise_append]
    refine ⟨hu.sublist List.filter_sublist, ⟨hu.sublist List.filter_sublist, hu.sublist List.filter_sublist, fun a ha b hb => ?_⟩, fun a ha b hb => ?_⟩
    · rw [(mem_fil.1 ha).2]
      simpa [hi] using (List.mem_filter.1 hb).2
    · have h1 : a.name < n := by simpa [lo] using (List.mem_filter.1 ha).2
      rcases List.mem_append.1 hb with hb | hb
      · rw [(mem_fil.1 hb).2]; exact h1
      · have h2 : n < b.name := by simpa [hi] using (List.mem_filter.1 hb).2
        exact lt_trans h1 h2
  · rw [fil_append, fil_append, fil_lo, fil_hi, fil_fil]
    rcases tri m n with h | h | h
    · rw [if_pos h, if_neg (lt_asymm h), if_neg (fun e => by rw [e] at h; exact lt_irrefl _ h)]; simp
    · subst h
      rw [if_neg (lt_irrefl _), if_pos rfl]; simp
    · rw [if_neg (lt_asymm h), if_pos h, if_neg (fun e => by rw [e] at h; exact lt_irrefl _ h)]; simp
theorem fil_one {ls : List Ent} (hu : Up ls) (n : List UInt8) : fil n ls = [] ∨ ∃ x, fil n ls = [x] := by
  have h1 : Up (fil n ls) := hu.sublist List.filter_sublist
  have h2 : ∀ x ∈ fil n ls, x.name = n := fun x hx => (mem_fil.1 hx).2
  cases hf : fil n ls with
  | nil => exact .inl rfl
  | cons a l =>
    rw [hf] at h1 h2
    cases l with
    | nil => exact .inr ⟨a, rfl⟩
    | cons b l =>
      have h3 := (List.pairwise_cons.1 h1).1 b (by simp)
      rw [h2 a (by simp), h2 b (by simp)] at h3
      exact absurd h3 (lt_irrefl _)
/-- what stands at the place of a name -/
theorem place_at {ls : List Ent} (hu : Up ls) (n : List UInt8) (x : Ent) (hx : ls[(lo ls n).length]? = some x) : there ls n = decide (x.name = n) := by
  have hp := row_parts hu n
  have hx2 : (fil n ls ++ hi ls n)[0]? = some x := by
    have := hx
    rw [hp] at this
    have e : (lo (lo ls n ++ (fil n ls ++ hi ls n)) n).length = (lo ls n).length := by rw [← hp]
    rw [e, List.getElem?_append_right (Nat.le_refl _), Nat.sub_self] at this
    exact this
  unfold there
  rcases fil_one hu n with h | ⟨y, h⟩
  · rw [h] at hx2 ⊢
    have hm : x ∈ hi ls n := List.mem_of_getElem? (by simpa using hx2)
    have h2 : n < x.name := by simpa [hi] using (List.mem_filter.1 hm).2
    have : ¬ x.name = n := fun e => by rw [e] at h2; exact lt_irrefl _ h2
    simp [this]
  · have hy : y.name = n := (mem_fil.1 (by rw [h]; simp : y ∈ fil n ls)).2
    rw [h] at hx2 ⊢
    simp at hx2; subst hx2
    simp [hy]
theorem place_end {ls : List Ent} (hu : Up ls) (n : List UInt8) (h : ls.length ≤ (lo ls n).length) : there ls n = false := by
  have hp := congrArg List.length (row_parts hu n)
  simp only [List.length_append] at hp
  have : fil n ls = [] := List.eq_nil_of_length_eq_zero (by omega)
  unfold there; rw [this]; rfl
/-- where what is behind a name begins -/
def after (ls : List Ent) (n : List UInt8) : Nat := (lo ls n).length + (if there ls n then 1 else 0)
theorem after_facts {ls : List Ent} (hu : Up ls) (n : List UInt8) : lo ls n = ls.take (lo ls n).length ∧ hi ls n = ls.drop (after ls n) ∧ after ls n ≤ ls.length ∧ (lo ls n).length ≤ after ls n := by
  have hp := row_parts hu n
  have hf : (fil n ls).length = if there ls n then 1 else 0 := by
    unfold there
    rcases fil_one hu n with h | ⟨x, h⟩ <;> simp [h]
  have hlen := congrArg List.length hp
  simp only [List.length_append, hf] at hlen
  refine ⟨?_, ?_, by unfold after; omega, by unfold after; omega⟩
  · generalize lo ls n = A at hp ⊢
    rw [hp, List.take_left]
  · unfold after
    rw [← hf, ← List.length_append]
    generalize lo ls n = A at hp ⊢
    generalize fil n ls = F at hp ⊢
    generalize hi ls n = H at hp ⊢
    rw [← List.append_assoc] at hp
    rw [hp, List.drop_left]
theorem fil_drop (ls : List Ent) (n m : List UInt8) : fil m (drop ls n) = if m = n then [] else fil m ls := by
  unfold fil drop
  rw [List.filter_filter]
  split
  · rename_i h; subst h
    rw [List.filter_eq_nil_iff]
    intro x _ hx
    simp at hx
  · rename_i h
    congr 1; funext x
    by_cases e : x.name = m
    · simp [e, h]
    · simp [e]
theorem drop_parts {ls : List Ent} (hu : Up ls) (n : List UInt8) : lo ls n ++ hi ls n = drop ls n := by
  have hp := row_parts hu n
  have hd : ∀ A F H : List Ent, (∀ x ∈ A, x.name ≠ n) → (∀ x ∈ F, x.name = n) → (∀ x ∈ H, x.name ≠ n) → drop (A ++ (F ++ H)) n = A ++ H := by
    intro A F H h1 h2 h3
    unfold drop
    rw [List.filter_append, List.filter_append]
    rw [List.filter_eq_self.2 (fun x hx => by simpa using h1 x hx), List.filter_eq_nil_iff.2 (fun x hx => by simpa using h2 x hx), List.filter_eq_self.2 (fun x hx => by simpa using h3 x hx), List.nil_append]
  have h1 : ∀ x ∈ lo ls n, x.name ≠ n := fun x hx e => by
    have : x.name < n := by simpa [lo] using (List.mem_filter.1 hx).2
    rw [e] at this; exact lt_irrefl _ this
  have h3 : ∀ x ∈ hi ls n, x.name ≠ n := fun x hx e => by
    have : n < x.name := by simpa [hi] using (List.mem_filter.1 hx).2
    rw [e] at this; exact lt_irrefl _ this
  have := hd (lo ls n) (fil n ls) (hi ls n) h1 (fun x hx => (mem_fil.1 hx).2) h3
  rw [← hp] at this
  exact this.symm
theorem up_drop {ls : List Ent} (hu : Up ls) (n : List UInt8) : Up (drop ls n) := hu.sublist List.filter_sublist
theorem there_len {ls : List Ent} (hu : Up ls) (n : List UInt8) : there ls n = decide ((drop ls n).length < ls.length) := by
  have hp := congrArg List.length (row_parts hu n)
  have hd := congrArg List.length (drop_parts hu n)
  simp only [List.length_append] at hp hd
  unfold there
  rcases fil_one hu n with h | ⟨x, h⟩
  · rw [h] at hp ⊢
    simp at hp
    simp; omega
  · rw [h] at hp ⊢
    simp at hp
    simp; omega
end Go.Proofs.Ytmoimijclafgcaa.E
