/-
  Entries, their order by names, what is ahead of a name and behind it: the mathematics.
-/
import Derived.Lib.Bytealg
import Derived.Lib.Hide
import Derived.Sort.Walk0
import Derived.Test.YtenopnfclbegbaaGreatProg
import Derived.WalkKit
import Derived.WalkSpells
import Derived.WalkSmall
import Derived.Lib.OthersKept
import Derived.Shelf.RegionOpen
import Derived.Shelf.Small.Wraps
import Derived.IntWalk
import Derived.Maps.AppendAt
import Derived.Laws.CopyRow
import Derived.Laws.CopyOwn
import Derived.OwnWalk
import Derived.Lib.Builder
import Derived.RangeFuncBox
import Derived.Deep.RegionHeld3
import Derived.Deep.RegionLaw
import Derived.BigRegion
import Derived.Handy
import Derived.Laws.StructEq
namespace Go.Proofs.YtenopnfclbegbaaGreat.E

theorem lt_irrefl (a : List UInt8) : ¬ a < a := List.lt_irrefl a
theorem lt_trans {a b c : List UInt8} (h1 : a < b) (h2 : b < c) : a < c := List.lt_trans h1 h2
theorem lt_asymm {a b : List UInt8} (h : a < b) : ¬ b < a := fun h' => lt_irrefl a (lt_trans h h')
theorem tri (a b : List UInt8) : a < b ∨ a = b ∨ b < a := by
  by_cases h : a < b
  · exact .inl h
  · by_cases h' : b < a
    · exact .inr (.inr h')
    · exact .inr (.inl (List.le_antisymm (List.not_lt.1 h') (List.not_lt.1 h)))
theorem cmp_lt : ∀ a b : List UInt8, (Lib.compareBytes a b < 0 ↔ a < b)
  | [], [] => by simp [Lib.compareBytes]
  | [], _ :: _ => by simp [Lib.compareBytes]
  | _ :: _, [] => by simp [Lib.compareBytes]
  | a :: x, b :: y => by
    rw [Lib.compareBytes, List.cons_lt_cons_iff]
    by_cases h : a < b
    · rw [if_pos h]; simp [h]
    · rw [if_neg h]
      by_cases h' : b < a
      · rw [if_pos h']
        have : a ≠ b := fun e => by subst e; exact h h'
        simp [h, this]
      · rw [if_neg h', cmp_lt x y]
        have e : a = b := by
          apply UInt8.toNat_inj.1
          have h1 : ¬ a.toNat < b.toNat := h
          have h2 : ¬ b.toNat < a.toNat := h'
          omega
        subst e
        simp [h]
theorem cmp_eq : ∀ a b : List UInt8, (Lib.compareBytes a b = 0 ↔ a = b)
  | [], [] => by simp [Lib.compareBytes]
  | [], _ :: _ => by simp [Lib.compareBytes]
  | _ :: _, [] => by simp [Lib.compareBytes]
  | a :: x, b :: y => by
    rw [Lib.compareBytes]
    by_cases h : a < b
    · rw [if_pos h]
      have : a ≠ b := fun e => by subst e; exact absurd h (by show ¬ a.toNat < a.toNat; omega)
      simp [this]
    · rw [if_neg h]
      by_cases h' : b < a
      · rw [if_pos h']
        have : a ≠ b := fun e => by subst e; exact h h'
        simp [this]
      · rw [if_neg h', cmp_eq x y]
        have e : a = b := by
          apply UInt8.toNat_inj.1
          have h1 : ¬ a.toNat < b.toNat := h
          have h2 : ¬ b.toNat < a.toNat := h'
          omega
        subst e
        simp
/-- an entry of a directory -/
structure Ent where
  name : List UInt8
  no : Int
instance : Inhabited Ent := ⟨⟨[], 0⟩⟩
instance : DecidableEq Ent := fun a b =>
  if h1 : a.name = b.name then if h2 : a.no = b.no then .isTrue (by cases a; cases b; simp_all)
  else .isFalse (fun e => h2 (by rw [e])) else .isFalse (fun e => h1 (by rw [e]))
/-- how an entry and a name compare -/
def cf (x : Ent) (n : List UInt8) : Int := Lib.compareBytes x.name n
theorem cf_lt (x : Ent) (n : List UInt8) : cf x n < 0 ↔ x.name < n := cmp_lt _ _
theorem cf_eq (x : Ent) (n : List UInt8) : cf x n = 0 ↔ x.name = n := cmp_eq _ _

/-- those of one name, in their order -/
def fil (n : List UInt8) (l : List Ent) : List Ent := l.filter fun x => decide (x.name = n)
theorem fil_append (n : List UInt8) (a b : List Ent) : fil n (a ++ b) = fil n a ++ fil n b := by simp [fil]
theorem fil_nil_iff {n : List UInt8} {l : List Ent} : fil n l = [] ↔ ∀ x ∈ l, x.name ≠ n := by simp [fil]
theorem mem_fil {n : List UInt8} {l : List Ent} {x : Ent} : x ∈ fil n l ↔ x ∈ l ∧ x.name = n := by simp [fil]
/-- the lines ahead of a name, behind a name -/
def lo (ls : List Ent) (n : List UInt8) : List Ent := ls.filter fun x => decide (x.name < n)
def hi (ls : List Ent) (n : List UInt8) : List Ent := ls.filter fun x => decide (n < x.name)
/-- lines with one more, or another one -/
def put (ls : List Ent) (y : Ent) : List Ent := (lo ls y.name ++ [y]) ++ hi ls y.name
theorem lo_take {ls : List Ent} {k : Nat} {x : Ent} (n : List UInt8) (h : ls[k]? = some x) : lo (ls.take (k + 1)) n = lo (ls.take k) n ++ (if x.name < n then [x] else []) := by
  rw [List.take_add_one, h]
  unfold lo
  rw [List.filter_append]
  by_cases hx : x.name < n <;> simp [hx]
theorem hi_take {ls : List Ent} {k : Nat} {x : Ent} (n : List UInt8) (h : ls[k]? = some x) : hi (ls.take (k + 1)) n = hi (ls.take k) n ++ (if n < x.name then [x] else []) := by
  rw [List.take_add_one, h]
  unfold hi
  rw [List.filter_append]
  by_cases hx : n < x.name <;> simp [hx]
theorem lo_len (ls : List Ent) (n : List UInt8) : (lo ls n).length ≤ ls.length := List.length_filter_le _ _
theorem hi_len (ls : List Ent) (n : List UInt8) : (hi ls n).length ≤ ls.length := List.length_filter_le _ _
theorem less_yes {a b : List UInt8} (h : a < b) : Op.bytesLess a b = true := by rw [Go.Proofs.bytesLess_eq]; exact decide_eq_true h
theorem less_no {a b : List UInt8} (h : ¬ a < b) : Op.bytesLess a b = false := by rw [Go.Proofs.bytesLess_eq]; exact decide_eq_false h
/-- the lines without one of a name -/
def drop (ls : List Ent) (n : List UInt8) : List Ent := ls.filter fun x => decide (x.name ≠ n)
theorem drop_take {ls : List Ent} {k : Nat} {x : Ent} (n : List UInt8) (h : ls[k]? = some x) : drop (ls.take (k + 1)) n = drop (ls.take k) n ++ (if x.name = n then [] else [x]) := by
  rw [List.take_add_one, h]
  unfold drop
  rw [List.filter_append]
  by_cases hx : x.name = n <;> simp [hx]
theorem drop_len (ls : List Ent) (n : List UInt8) : (drop ls n).length ≤ ls.length := List.length_filter_le _ _
/-- rising by their names -/
def Up (l : List Ent) : Prop := l.Pairwise fun a b => a.name < b.name
theorem mem_fil' {x : Ent} {l : List Ent} (h : x ∈ l) : x ∈ fil x.name l := mem_fil.2 ⟨h, rfl⟩
theorem up_ext : ∀ (xs ys : List Ent), Up xs → Up ys → (∀ n, fil n xs = fil n ys) → xs = ys
  | [], [], _, _, _ => rfl
  | [], y :: ys, _, _, h => by have := mem_fil' (show y ∈ y :: ys by simp); rw [← h] at this; simp [fil] at this
  | x :: xs, [], _, _, h => by have := mem_fil' (show x ∈ x :: xs by simp); rw [h] at this; simp [fil] at this
  | x :: xs, y :: ys, hx, hy, h => by
    obtain ⟨hx1, hx2⟩ := List.pairwise_cons.1 hx
    obtain ⟨hy1, hy2⟩ := List.pairwise_cons.1 hy
    have m1 : x ∈ y :: ys := by
      have := mem_fil' (show x ∈ x :: xs by simp)
      rw [h] at this; exact (mem_fil.1 this).1
    have m2 : y ∈ x :: xs := by
      have := mem_fil' (show y ∈ y :: ys by simp)
      rw [← h] at this; exact (mem_fil.1 this).1
    have e : x = y := by
      rcases List.mem_cons.1 m1 with e | h1
      · exact e
      · rcases List.mem_cons.1 m2 with e | h2
        · exact e.symm
        · exact absurd (hx1 y h2) (lt_asymm (hy1 x h1))
    subst e
    congr 1
    refine up_ext xs ys hx2 hy2 fun n => ?_
    have := h n
    simp only [fil, List.filter_cons] at this ⊢
    split at this
    · exact (List.cons.inj this).2
    · exact this
theorem fil_lo (ls : List Ent) (m n : List UInt8) : fil n (lo ls m) = if n < m then fil n ls else [] := by
  unfold fil lo
  rw [List.filter_filter]
  split
  · rename_i h
    congr 1; funext x
    by_cases e : x.name = n
    · subst e; simp [h]
    · simp [e]
  · rename_i h
    rw [List.filter_eq_nil_iff]
    intro x _ hx
    simp at hx
    obtain ⟨e, h2⟩ := hx
    rw [e] at h2; exact h h2
theorem fil_hi (ls : List Ent) (m n : List UInt8) : fil n (hi ls m) = if m < n then fil n ls else [] := by
  unfold fil hi
  rw [List.filter_filter]
  split
  · rename_i h
    congr 1; funext x
    by_cases e : x.name = n
    · subst e; simp [h]
    · simp [e]
  · rename_i h
    rw [List.filter_eq_nil_iff]
    intro x _ hx
    simp at hx
    obtain ⟨e, h2⟩ := hx
    rw [e] at h2; exact h h2
theorem fil_put (ls : List Ent) (y : Ent) (n : List UInt8) : fil n (put ls y) = if y.name = n then [y] else fil n ls := by
  unfold put
  rw [fil_append, fil_append, fil_lo, fil_hi]
  have e1 : fil n [y] = if y.name = n then [y] else [] := by unfold fil; by_cases h : y.name = n <;> simp [h]
  rw [e1]
  rcases tri n y.name with h | h | h
  · have h2 := lt_asymm h
    have h3 : ¬ y.name = n := fun e => by rw [e] at h; exact lt_irrefl _ h
    rw [if_pos h, if_neg h2, if_neg h3, if_neg h3]; simp
  · have h2 : ¬ n < y.name := by rw [h]; exact lt_irrefl _
    have h3 : ¬ y.name < n := by rw [h]; exact lt_irrefl _
    rw [if_neg h2, if_neg h3, if_pos h.symm, if_pos h.symm]; simp
  · have h2 := lt_asymm h
    have h3 : ¬ y.name = n := fun e => by rw [e] at h; exact lt_irrefl _ h
    rw [if_neg h2, if_pos h, if_neg h3, if_neg h3]; simp
theorem up_put {ls : List Ent} (h : Up ls) (y : Ent) : Up (put ls y) := by
  unfold put Up
  rw [List.pairwise_append, List.pairwise_append]
  refine ⟨⟨h.sublist List.filter_sublist, List.pairwise_singleton _ _, fun a ha b hb => ?_⟩, h.sublist List.filter_sublist, fun a ha b hb => ?_⟩
  · rw [List.mem_singleton] at hb; subst hb
    simpa [lo] using (List.mem_filter.1 ha).2
  · have h2 : y.name < b.name := by simpa [hi] using (List.mem_filter.1 hb).2
    rcases List.mem_append.1 ha with h3 | h3
    · have h1 : a.name < y.name := by simpa [lo] using (List.mem_filter.1 h3).2
      exact lt_trans h1 h2
    · rw [List.mem_singleton] at h3; subst h3; exact h2
/-- does a name stand in the row? -/
def there (ls : List Ent) (n : List UInt8) : Bool := !(fil n ls).isEmpty
theorem lo_cons (x : Ent) (ls : List Ent) (n : List UInt8) : lo (x :: ls) n = if x.name < n then x :: lo ls n else lo ls n := by
  unfold lo; rw [List.filter_cons]; by_cases h : x.name < n <;> simp [h]
theorem lo_none {ls : List Ent} {n : List UInt8} (h : ∀ x ∈ ls, ¬ x.name < n) : lo ls n = [] := by
  unfold lo; rw [List.filter_eq_nil_iff]; intro x hx; simpa using h x hx
theorem place_key : ∀ (ls : List Ent), Up ls → ∀ (n : List UInt8) (k : Nat) (x : Ent), ls[k]? = some x → (x.name < n ↔ k < (lo ls n).length)
  | [], _, n, k, x, h => by simp at h
  | y :: ls, hu, n, k, x, h => by
    obtain ⟨h1, h2⟩ := List.pairwise_cons.1 hu
    by_cases hy : y.name < n
    · rw [lo_cons, if_pos hy, List.length_cons]
      cases k with
      | zero => simp at h; subst h; simp [hy]
      | succ k =>
        have := place_key ls h2 n k x (by simpa using h)
        rw [this]; omega
    · have hno : ∀ z ∈ ls, ¬ z.name < n := fun z hz hn => hy (lt_trans (h1 z hz) hn)
      rw [lo_cons, if_neg hy, lo_none hno]
      have hx : ¬ x.name < n := by
        cases k with
        | zero => simp at h; subst h; exact hy
        | succ k => exact hno x (List.mem_of_getElem? (by simpa using h))
      simp [hx]
theorem fil_fil (ls : List Ent) (n m : List UInt8) : fil m (fil n ls) = if m = n then fil n ls else [] := by
  unfold fil
  rw [List.filter_filter]
  split
  · rename_i h; subst h; congr 1; funext x; by_cases e : x.name = m <;> simp [e]
  · rename_i h
    rw [List.filter_eq_nil_iff]
    intro x _ hx
    simp at hx
    exact h (hx.1.symm.trans hx.2)
theorem row_parts {ls : List Ent} (hu : Up ls) (n : List UInt8) : ls = lo ls n ++ (fil n ls ++ hi ls n) := by
  refine up_ext _ _ hu ?_ fun m => ?_
  · unfold Up
    rw [List.pairwise_append, List.pairwise_append]
    refine ⟨hu.sublist List.filter_sublist, ⟨hu.sublist List.filter_sublist, hu.sublist List.filter_sublist, fun a ha b hb => ?_⟩, fun a ha b hb => ?_⟩
    · rw [(mem_fil.1 ha).2]
      simpa [hi] using (List.mem_filter.1 hb).2
    · have h1 : a.name < n := by simpa [lo] using (List.mem_filter.1 ha).2
      rcases List.mem_append.1 hb with hb | hb
      · rw [(mem_fil.1 hb).2]; exact h1
      · have h2 : n < b.name := by simpa [hi] using (List.mem_filter.1 hb).2
        exact lt_trans h1 h2
  · rw [fil_append, fil_append, fil_lo, fil_hi, fil_fil]
    rcases tri m n with h | h | h
    · rw [if_pos h, if_neg (lt_asymm h), if_neg (fun e => by rw [e] at h; exact lt_irrefl _ h)]; simp
    · subst h
      rw [if_neg (lt_irrefl _), if_pos rfl]; simp
    · rw [if_neg (lt_asymm h), if_pos h, if_neg (fun e => by rw [e] at h; exact lt_irrefl _ h)]; simp
theorem fil_one {ls : List Ent} (hu : Up ls) (n : List UInt8) : fil n ls = [] ∨ ∃ x, fil n ls = [x] := by
  have h1 : Up (fil n ls) := hu.sublist List.filter_sublist
  have h2 : ∀ x ∈ fil n ls, x.name = n := fun x hx => (mem_fil.1 hx).2
  cases hf : fil n ls with
  | nil => exact .inl rfl
  | cons a l =>
    rw [hf] at h1 h2
    cases l with
    | nil => exact .inr ⟨a, rfl⟩
    | cons b l =>
      have h3 := (List.pairwise_cons.1 h1).1 b (by simp)
      rw [h2 a (by simp), h2 b (by simp)] at h3
      exact absurd h3 (lt_irrefl _)
/-- what stands at the place of a name -/
theorem place_at {ls : List Ent} (hu : Up ls) (n : List UInt8) (x : Ent) (hx : ls[(lo ls n).length]? = some x) : there ls n = decide (x.name = n) := by
  have hp := row_parts hu n
  have hx2 : (fil n ls ++ hi ls n)[0]? = some x := by
    have := hx
    rw [hp] at this
    have e : (lo (lo ls n ++ (fil n ls ++ hi ls n)) n).length = (lo ls n).length := by rw [← hp]
    rw [e, List.getElem?_append_right (Nat.le_refl _), Nat.sub_self] at this
    exact this
  unfold there
  rcases fil_one hu n with h | ⟨y, h⟩
  · rw [h] at hx2 ⊢
    have hm : x ∈ hi ls n := List.mem_of_getElem? (by simpa using hx2)
    have h2 : n < x.name := by simpa [hi] using (List.mem_filter.1 hm).2
    have : ¬ x.name = n := fun e => by rw [e] at h2; exact lt_irrefl _ h2
    simp [this]
  · have hy : y.name = n := (mem_fil.1 (by rw [h]; simp : y ∈ fil n ls)).2
    rw [h] at hx2 ⊢
    simp at hx2; subst hx2
    simp [hy]
theorem place_end {ls : List Ent} (hu : Up ls) (n : List UInt8) (h : ls.length ≤ (lo ls n).length) : there ls n = false := by
  have hp := congrArg List.length (row_parts hu n)
  simp only [List.length_append] at hp
  have : fil n ls = [] := List.eq_nil_of_length_eq_zero (by omega)
  unfold there; rw [this]; rfl
/-- where what is behind a name begins -/
def after (ls : List Ent) (n : List UInt8) : Nat := (lo ls n).length + (if there ls n then 1 else 0)
theorem after_facts {ls : List Ent} (hu : Up ls) (n : List UInt8) : lo ls n = ls.take (lo ls n).length ∧ hi ls n = ls.drop (after ls n) ∧ after ls n ≤ ls.length ∧ (lo ls n).length ≤ after ls n := by
  have hp := row_parts hu n
  have hf : (fil n ls).length = if there ls n then 1 else 0 := by
    unfold there
    rcases fil_one hu n with h | ⟨x, h⟩ <;> simp [h]
  have hlen := congrArg List.length hp
  simp only [List.length_append, hf] at hlen
  refine ⟨?_, ?_, by unfold after; omega, by unfold after; omega⟩
  · generalize lo ls n = A at hp ⊢
    rw [hp, List.take_left]
  · unfold after
    rw [← hf, ← List.length_append]
    generalize lo ls n = A at hp ⊢
    generalize fil n ls = F at hp ⊢
    generalize hi ls n = H at hp ⊢
    rw [← List.append_assoc] at hp
    rw [hp, List.drop_left]
theorem fil_drop (ls : List Ent) (n m : List UInt8) : fil m (drop ls n) = if m = n then [] else fil m ls := by
  unfold fil drop
  rw [List.filter_filter]
  split
  · rename_i h; subst h
    rw [List.filter_eq_nil_iff]
    intro x _ hx
    simp at hx
  · rename_i h
    congr 1; funext x
    by_cases e : x.name = m
    · simp [e, h]
    · simp [e]
theorem drop_parts {ls : List Ent} (hu : Up ls) (n : List UInt8) : lo ls n ++ hi ls n = drop ls n := by
  have hp := row_parts hu n
  have hd : ∀ A F H : List Ent, (∀ x ∈ A, x.name ≠ n) → (∀ x ∈ F, x.name = n) → (∀ x ∈ H, x.name ≠ n) → drop (A ++ (F ++ H)) n = A ++ H := by
    intro A F H h1 h2 h3
    unfold drop
    rw [List.filter_append, List.filter_append]
    rw [List.filter_eq_self.2 (fun x hx => by simpa using h1 x hx), List.filter_eq_nil_iff.2 (fun x hx => by simpa using h2 x hx), List.filter_eq_self.2 (fun x hx => by simpa using h3 x hx), List.nil_append]
  have h1 : ∀ x ∈ lo ls n, x.name ≠ n := fun x hx e => by
    have : x.name < n := by simpa [lo] using (List.mem_filter.1 hx).2
    rw [e] at this; exact lt_irrefl _ this
  have h3 : ∀ x ∈ hi ls n, x.name ≠ n := fun x hx e => by
    have : n < x.name := by simpa [hi] using (List.mem_filter.1 hx).2
    rw [e] at this; exact lt_irrefl _ this
  have := hd (lo ls n) (fil n ls) (hi ls n) h1 (fun x hx => (mem_fil.1 hx).2) h3
  rw [← hp] at this
  exact this.symm
theorem up_drop {ls : List Ent} (hu : Up ls) (n : List UInt8) : Up (drop ls n) := hu.sublist List.filter_sublist
theorem there_len {ls : List Ent} (hu : Up ls) (n : List UInt8) : there ls n = decide ((drop ls n).length < ls.length) := by
  have hp := congrArg List.length (row_parts hu n)
  have hd := congrArg List.length (drop_parts hu n)
  simp only [List.length_append] at hp hd
  unfold there
  rcases fil_one hu n with h | ⟨x, h⟩
  · rw [h] at hp ⊢
    simp at hp
    simp; omega
  · rw [h] at hp ⊢
    simp at hp
    simp; omega
end Go.Proofs.YtenopnfclbegbaaGreat.E
/-
  Entries in memory: a slice that is only read, a row of the call's own, a box of one entry; copy at entries; ents.against.
-/
namespace Go.Proofs.YtenopnfclbegbaaGreat.E
open Go.RowKit Go.Shelf

theorem below_two {w w1 w2 : World} (h1 : Below w.heap.size w w1) (h2 : Below w1.heap.size w1 w2) : Below w.heap.size w w2 := h1.trans (h2.mono h1.size)
theorem below_drewN {n : Nat} {w : World} (k : Nat) : Below n w (w.drewN k) := by
  induction k with
  | zero => exact Below.refl _ _
  | succ k ih => exact ih.drew
theorem bytes_eq (s : ByteArray) : ∃ l : List UInt8, s = ⟨l.toArray⟩ := ⟨s.data.toList, by rw [Array.toArray_toList]⟩
theorem add_at (g o : Nat) (j : Nat) : (⟨g, o, none⟩ : Addr).add j = ⟨g, o + j, none⟩ := by unfold Addr.add; split <;> simp_all

/-- an entry's two cells -/
def enc (x : Ent) : List Value := [.string ⟨x.name.toArray⟩, .int .i64 x.no]
theorem enc_len (x : Ent) : (enc x).length = 2 := rfl
theorem enc_one (x : Ent) : ∀ v ∈ enc x, v.oneCell' = true := by
  intro v hv
  simp only [enc, List.mem_cons, List.not_mem_nil, or_false] at hv
  rcases hv with rfl | rfl <;> rfl
def flat (ls : List Ent) : List Value := ls.flatMap enc
theorem flat_len (ls : List Ent) : (flat ls).length = ls.length * 2 := by
  induction ls with
  | nil => rfl
  | cons x ls ih => simp only [flat, List.flatMap_cons, List.length_append, List.length_cons]; unfold flat at ih; rw [ih, enc_len]; omega
theorem flat_app (a b : List Ent) : flat (a ++ b) = flat a ++ flat b := by simp [flat]
theorem flat_snoc (ls : List Ent) (x : Ent) : flat (ls ++ [x]) = flat ls ++ enc x := by simp [flat]
theorem flat_one (ls : List Ent) : ∀ u ∈ flat ls, u.oneCell' = true := by
  intro u hu
  obtain ⟨x, _, h⟩ := List.mem_flatMap.1 hu
  exact enc_one x u h
theorem flat_at : ∀ (ls : List Ent) (k : Nat) (x : Ent) (j : Nat), ls[k]? = some x → j < 2 → (flat ls)[k * 2 + j]? = (enc x)[j]?
  | [], k, x, j, h, _ => by simp at h
  | y :: ls, 0, x, j, h, hj => by
    simp at h; subst h
    simp only [flat, List.flatMap_cons, Nat.zero_mul, Nat.zero_add]
    rw [List.getElem?_append_left (by rw [enc_len]; exact hj)]
  | y :: ls, k + 1, x, j, h, hj => by
    have h' : ls[k]? = some x := by simpa using h
    have e := flat_at ls k x j h' hj
    simp only [flat, List.flatMap_cons] at e ⊢
    rw [List.getElem?_append_right (by rw [enc_len]; omega), enc_len, show (k + 1) * 2 + j - 2 = k * 2 + j by omega]
    exact e

/-- who reads this slice sees these entries -/
def Sees (v : Value) (ls : List Ent) (w : World) : Prop :=
  ∃ oa cap, v = .slice oa ls.length cap ∧ (ls.length ≤ cap ∧ cap ≤ maxLen) ∧ ∀ k x, ls[k]? = some x → ∃ g o, oa = some ⟨g, o, none⟩ ∧ w.cell? ⟨g, o + k * 2, none⟩ = some (.string ⟨x.name.toArray⟩) ∧ w.cell? ⟨g, o + k * 2 + 1, none⟩ = some (.int .i64 x.no)
theorem Sees.below {v : Value} {ls : List Ent} {w w' : World} (h : Sees v ls w) (hb : Below w.heap.size w w') : Sees v ls w' := by
  obtain ⟨oa, cap, rfl, hm, hc⟩ := h
  refine ⟨oa, cap, rfl, hm, fun k x hk => ?_⟩
  obtain ⟨g, o, rfl, h0, h1⟩ := hc k x hk
  have hlt : g < w.heap.size := World.block_lt_of_cell? _ _ h0
  exact ⟨g, o, rfl, (hb.cell (p := ⟨g, o + k * 2, none⟩) hlt).trans h0, (hb.cell (p := ⟨g, o + k * 2 + 1, none⟩) hlt).trans h1⟩
theorem sees_none (oa : Option Addr) (c : Nat) (hc : c ≤ maxLen) (w : World) : Sees (.slice oa 0 c) [] w := ⟨oa, c, rfl, ⟨Nat.zero_le _, hc⟩, fun k x h => by simp at h⟩
theorem sees_flat {a : Addr} {cap : Nat} {ls : List Ent} {w : World} (h : Sees (.slice (some a) ls.length cap) ls w) : ∀ j v, (flat ls)[j]? = some v → w.cell? (a.add j) = some v := by
  intro j v hv
  have hj : j < ls.length * 2 := by have := (List.getElem?_eq_some_iff.1 hv).1; rwa [flat_len] at this
  obtain ⟨oa, cap', he, _, hc⟩ := h
  cases he
  have hq : j / 2 < ls.length := by omega
  obtain ⟨x, hx⟩ : ∃ x, ls[j / 2]? = some x := ⟨_, List.getElem?_eq_getElem hq⟩
  obtain ⟨g, o, ha, h0, h1⟩ := hc _ x hx
  cases ha
  have hf := flat_at ls (j / 2) x (j % 2) hx (Nat.mod_lt _ (by decide))
  rw [show j / 2 * 2 + j % 2 = j by omega, hv] at hf
  rw [add_at]
  have h2 : j % 2 = 0 ∨ j % 2 = 1 := by omega
  rcases h2 with e | e
  · rw [e] at hf; rw [show o + j = o + j / 2 * 2 by omega, h0]; exact hf.symm ▸ rfl
  · rw [e] at hf; rw [show o + j = o + j / 2 * 2 + 1 by omega, h1]; exact hf.symm ▸ rfl

theorem infoE : (Tryz.prog.info? 89).map (fun i => (i.zero, i.size, i.bytes)) = some (some (.agg #[.string ⟨#[]⟩, .int .i64 0]), 2, 24) := by kernel_rfl
theorem sizeE : (Tryz.prog.info? 89).map (·.size) = some 2 := by kernel_rfl
theorem info_parts {t : TypeId} {z : Value} {n b : Nat} (h : (Tryz.prog.info? t).map (fun i => (i.zero, i.size, i.bytes)) = some (some z, n, b)) : ∃ i, Tryz.prog.info? t = some i ∧ i.zero = some z ∧ i.size = n ∧ i.bytes = b := by
  obtain ⟨i, h1, h2⟩ := Option.map_eq_some_iff.1 h
  simp only [Prod.mk.injEq] at h2
  exact ⟨i, h1, h2.1, h2.2.1, h2.2.2⟩

/-- the slice v holds these entries, in memory of the call's own -/
def Own (B : Nat) (v : Value) (ls : List Ent) (w : World) : Prop := w.ownsRow B 89 2 v ls.length (flat ls)
theorem Own.nil (B : Nat) (w : World) : Own B (.slice none 0 0) [] w := World.ownsRow_nil _ _ _ _
theorem Own.snoc {B : Nat} {v : Value} {ls : List Ent} {x : Ent} {w : World} (h : w.ownsRow B 89 2 v (ls.length + 1) (flat ls ++ enc x)) : Own B v (ls ++ [x]) w := by
  unfold Own; rw [flat_snoc, List.length_append]; exact h
theorem Own.mono {B B' : Nat} {v : Value} {ls : List Ent} {w : World} (h : Own B v ls w) (hb : B' ≤ B) : Own B' v ls w := by
  refine ⟨h.1, h.2.imp id ?_⟩
  rintro ⟨g, cap, cur, h1, h2, h3⟩
  exact ⟨g, cap, cur, h1, Nat.le_trans hb h2, h3⟩
theorem Own.below {B : Nat} {v : Value} {ls : List Ent} {w w' : World} (h : Own B v ls w) (hb : Below w.heap.size w w') : Own B v ls w' :=
  h.kept (row := none) ⟨hb.os, hb.tape, hb.output, hb.size, fun j hj _ => hb.block j hj⟩ (by cases hv : v.ownBlock <;> simp)
theorem Own.forms {B : Nat} {v : Value} {ls : List Ent} {w : World} (h : Own B v ls w) : (v = .slice none 0 0 ∧ ls = []) ∨ ∃ g cap, v = .slice (some ⟨g, 0, none⟩) ls.length cap := by
  rcases h.2 with ⟨h1, h2⟩ | ⟨g, cap, cur, h1, _⟩
  · exact .inl ⟨h1, List.eq_nil_of_length_eq_zero h2⟩
  · exact .inr ⟨g, cap, h1⟩
theorem Own.sees {B : Nat} {v : Value} {ls : List Ent} {w : World} (h : Own B v ls w) : Sees v ls w := by
  rcases h.forms with ⟨rfl, rfl⟩ | ⟨g, cap, rfl⟩
  · exact sees_none _ _ (Nat.zero_le _) _
  · refine ⟨_, _, rfl, ?_, fun k x hk => ⟨g, 0, rfl, ?_⟩⟩
    · rcases h.2 with ⟨h1, _⟩ | ⟨g', cap', cur, h1, _, _, h2, h3, _⟩
      · cases h1
      · cases h1; exact ⟨h2, h3⟩
    have hlt : k < ls.length := (List.getElem?_eq_some_iff.1 hk).1
    have c : ∀ j, j < 2 → w.cell? ⟨g, k * 2 + j, none⟩ = (enc x)[j]? := fun j hj => by
      rw [World.ownsRow.cellAt h (k * 2 + j) (by omega)]
      exact flat_at ls k x j hk hj
    exact ⟨by rw [Nat.zero_add]; exact c 0 (by decide), by rw [Nat.zero_add]; exact c 1 (by decide)⟩
theorem own_drew {B : Nat} {v : Value} {n : Nat} {xs : List Value} {w : World} (h : w.ownsRow B 89 2 v n xs) : w.drew.ownsRow B 89 2 v n xs := h.drew

/-- two cells of an entry, in a block of the call's own -/
def Box2 (b : Nat) (x : Ent) (w : World) : Prop := w.heap[b]? = some (.cells #[.string ⟨x.name.toArray⟩, .int .i64 x.no] 89 (0, 0))
theorem Box2.lt {b : Nat} {x : Ent} {w : World} (h : Box2 b x w) : b < w.heap.size := (Array.getElem?_eq_some_iff.1 h).1
theorem Box2.below {b : Nat} {x : Ent} {w w' : World} (h : Box2 b x w) (hb : Below w.heap.size w w') : Box2 b x w' := (hb.block b h.lt).trans h
theorem Box2.new (x : Ent) (w : World) : Box2 w.heap.size x (w.alloc (.cells #[.string ⟨x.name.toArray⟩, .int .i64 x.no] 89)) := heap_alloc_new w _
theorem Box2.facts {b : Nat} {x : Ent} {w : World} (h : Box2 b x w) :
    w.cell? ⟨b, 0, none⟩ = some (.string ⟨x.name.toArray⟩) ∧ w.cell? ⟨b, 1, none⟩ = some (.int .i64 x.no) ∧ w.frozen? ⟨b, 0, none⟩ = false ∧ w.frozen? ⟨b, 1, none⟩ = false :=
  ⟨by rw [Lib.cell_of_heap h]; rfl, by rw [Lib.cell_of_heap h]; rfl, Lib.frozen_of_heap h 0, Lib.frozen_of_heap h 1⟩
theorem Box2.put {b : Nat} {x : Ent} {w : World} (h : Box2 b x w) (y : Ent) :
    Box2 b y ((w.setCell ⟨b, 0, none⟩ (.string ⟨y.name.toArray⟩)).setCell ⟨b, 1, none⟩ (.int .i64 y.no)) := by
  unfold Box2 at *
  simp [World.setCell, Array.getElem?_modify, h]
theorem filled {n b : Nat} (hn : n ≤ b) (w : World) (y : Ent) : Below n w ((w.setCell ⟨b, 0, none⟩ (.string ⟨y.name.toArray⟩)).setCell ⟨b, 1, none⟩ (.int .i64 y.no)) :=
  ((Below.refl n w).setCell (p := ⟨b, 0, none⟩) hn _).setCell (p := ⟨b, 1, none⟩) hn _
theorem one_sees (y : Ent) (w : World) (t : TypeId) : Sees (.slice (some ⟨w.heap.size, 0, none⟩) 1 1) [y] (w.alloc (.cells #[.string ⟨y.name.toArray⟩, .int .i64 y.no] t)) := by
  refine ⟨_, 1, rfl, ⟨Nat.le_refl _, by decide⟩, fun k x h => ⟨w.heap.size, 0, rfl, ?_⟩⟩
  have hk : k = 0 := by have := (List.getElem?_eq_some_iff.1 h).1; simp at this; exact this
  subst hk
  simp at h; subst h
  exact ⟨by rw [World.cell?_alloc_new]; rfl, by rw [World.cell?_alloc_new]; rfl⟩

/-- copy into a row: what goes over is laid over what was there -/
theorem run_copy2 (w : World) (ty : TypeId) (g o dLen dCap : Nat) (dp oa : Option Addr) (ls : List Ent) (cap : Nat) (cur : List Value) (hR : Sees (.slice oa ls.length cap) ls w) (hg : w.heap[g]? = some (.cells cur.toArray 89 (0, 0)))
    (hle : ls.length ≤ dLen) (hd : 0 < ls.length → dp = some ⟨g, o, none⟩) (hfit : o + ls.length * 2 ≤ cur.length) :
    (Builtin.copy_ #[46, 46] ty #[.slice dp dLen dCap, .slice oa ls.length cap]).run Tryz.prog w = .ok (goInt ls.length) (w.setRow g (splice cur o (flat ls)).toArray) := by
  obtain ⟨i, hq, hi⟩ := Option.map_eq_some_iff.1 sizeE
  have hmin : Nat.min ls.length dLen = ls.length := Nat.min_eq_left hle
  by_cases h0 : ls = []
  · subst h0
    have hs : splice cur o (flat []) = cur := by simp [splice, flat]
    rw [hs, setRow_self w g cur.toArray 89 (0, 0) hg]
    cases dp <;> cases oa <;> simp [Builtin.copy_, run_underlying Tryz.underlying46, Builtin.lenOf, Builtin.firstCells, sizeOf, typeInfo, hq, storeCells, loadCells, loadCellsFrom]
  · have hpos : 0 < ls.length := List.length_pos_iff.2 h0
    obtain rfl := hd hpos
    cases oa with
    | none =>
      cases ls with
      | nil => exact absurd rfl h0
      | cons x l =>
        obtain ⟨oa, cap', he, _, hc⟩ := hR
        cases he
        obtain ⟨g', o', ha, _⟩ := hc 0 x rfl
        cases ha
    | some a =>
      have hst := run_storeCells_at Tryz.prog g o 89 (flat ls) 0 cur.toArray w hg (by rw [flat_len]; simpa using hfit) (flat_one ls)
      have hl := run_loadCells_list (P := Tryz.prog) w a (flat ls) (sees_flat hR)
      rw [flat_len] at hl
      simp [Builtin.copy_, run_underlying Tryz.underlying46, Builtin.lenOf, Builtin.firstCells, sizeOf, typeInfo, hq, hi, hmin, hl, hst, splice, flat_len]

theorem wpList_copy2 {w : World} {ops : Array Oper} {rest : List Oper} {o : Oper} {a : Act} {Q : Exit → Act → World → Prop} (hgd : o.guard = none) (d s : Operand)
    (ho : o.op = .call { callee := .builtin .copy, args := #[d, s], argTypes := #[46, 46] }) (dp oa : Option Addr) (dLen dCap m cap : Nat) (hd : a.eval d = .slice dp dLen dCap) (hs : a.eval s = .slice oa m cap)
    (ls : List Ent) (hm : m = ls.length) (g off : Nat) (cur : List Value) (hR : Sees (.slice oa ls.length cap) ls w) (hg : w.heap[g]? = some (.cells cur.toArray 89 (0, 0)))
    (hle : ls.length ≤ dLen) (hdp : 0 < ls.length → dp = some ⟨g, off, none⟩) (hfit : off + ls.length * 2 ≤ cur.length) (B : Nat) (w0 : World) (hb : Below B w0 w) (hBg : B ≤ g)
    (h : ∀ w', Hid (w'.heap[g]? = some (.cells (splice cur off (flat ls)).toArray 89 (0, 0))) → Below B w0 w' → wpList Tryz.prog ops Q rest (a.put o.dst (goInt m)) w') :
    wpList Tryz.prog ops Q (o :: rest) a w := by
  subst hm
  refine wpList_plain hgd fun K hK => ?_
  have hrun := run_copy2 w o.type g off dLen dCap dp oa ls cap cur hR hg hle hdp hfit
  unfold Oper.wp
  simp [execOp, ho, resolve, invoke, builtin, hd, hs, hrun, Result.andThen]
  exact hK _ _ (h _ (show _ = _ from setRow_heap w g _ _ _ _ hg) (below_setRow hb hBg _))
theorem step_copy2 {w : World} {ops : Array Oper} {o : Oper} {a : Act} {K : Act → World → Prop} {Q : Exit → Act → World → Prop} {E : Prop} (hgd : o.guard = none) (d s : Operand)
    (ho : o.op = .call { callee := .builtin .copy, args := #[d, s], argTypes := #[46, 46] }) (dp oa : Option Addr) (dLen dCap m cap : Nat) (hd : a.eval d = .slice dp dLen dCap) (hs : a.eval s = .slice oa m cap)
    (ls : List Ent) (hm : m = ls.length) (g off : Nat) (cur : List Value) (hR : Sees (.slice oa ls.length cap) ls w) (hg : w.heap[g]? = some (.cells cur.toArray 89 (0, 0)))
    (hle : ls.length ≤ dLen) (hdp : 0 < ls.length → dp = some ⟨g, off, none⟩) (hfit : off + ls.length * 2 ≤ cur.length) (B : Nat) (w0 : World) (hb : Below B w0 w) (hBg : B ≤ g)
    (h : ∀ w', Hid (w'.heap[g]? = some (.cells (splice cur off (flat ls)).toArray 89 (0, 0))) → Below B w0 w' → K (a.put o.dst (goInt m)) w') :
    if Region.wanted o (yielded ops a.tmps) = true then Oper.wp Tryz.prog o a w K Q else E := by
  subst hm
  have hw : Region.wanted o (yielded ops a.tmps) = true := by simp [Region.wanted, hgd]
  rw [if_pos hw]
  have hrun := run_copy2 w o.type g off dLen dCap dp oa ls cap cur hR hg hle hdp hfit
  unfold Oper.wp
  simp [execOp, ho, resolve, invoke, builtin, hd, hs, hrun, Result.andThen]
  exact h _ (show _ = _ from setRow_heap w g _ _ _ _ hg) (below_setRow hb hBg _)

end Go.Proofs.YtenopnfclbegbaaGreat.E
/-
  ents.Name.
-/
namespace Go.Proofs.YtenopnfclbegbaaGreat.E
open Go.RowKit Go.Shelf

/-- the first name with a number -/
def nameOf (ls : List Ent) (no : Int) : Option (List UInt8) := (ls.find? fun x => decide (x.no = no)).map (·.name)
theorem find_take {ls : List Ent} {k : Nat} {x : Ent} {no : Int} (h : ls[k]? = some x) (hb : ∀ y ∈ ls.take k, y.no ≠ no) : (x.no = no → nameOf ls no = some x.name) ∧ (x.no ≠ no → ∀ y ∈ ls.take (k + 1), y.no ≠ no) := by
  have hs : ls = ls.take k ++ (x :: ls.drop (k + 1)) := by
    have hk := (List.getElem?_eq_some_iff.1 h)
    obtain ⟨hk, he⟩ := hk
    rw [← he, ← List.drop_eq_getElem_cons hk, List.take_append_drop]
  refine ⟨fun e => ?_, fun e y hy => ?_⟩
  · unfold nameOf
    rw [hs, List.find?_append, List.find?_eq_none.2 (fun y hy => by simpa using hb y hy)]
    simp [e]
  · rw [List.take_add_one, h] at hy
    rcases List.mem_append.1 hy with hy | hy
    · exact hb y hy
    · simp at hy; subst hy; exact e
theorem find_end {ls : List Ent} {no : Int} (hb : ∀ y ∈ ls, y.no ≠ no) : nameOf ls no = none := by
  unfold nameOf
  rw [List.find?_eq_none.2 (fun y hy => by simpa using hb y hy)]; rfl

set_option maxRecDepth 100000 in
set_option maxHeartbeats 4000000 in
theorem name_any {v : Value} {ls : List Ent} {w : World} (hS : Sees v ls w) (no : Int) (hl : ls.length ≤ 100000) :
    Calls Tryz.prog 115 #[v, .int .i64 no] w fun e w' => e = .returned (.tuple #[.string ⟨((nameOf ls no).getD []).toArray⟩, .bool (nameOf ls no).isSome]) ∧ Below w.heap.size w w' := by
  obtain ⟨oa, cap, rfl, _, hcells⟩ := hS
  have HC := Lib.hid hcells
  clear hcells
  go_enter Tryz.func115, Tryz.ntmps115
  go_wp2
  go_loopw [10] (fun i wr => ∃ k : Nat, k ≤ ls.length ∧ i = .int .i64 k ∧ (∀ y ∈ ls.take k, y.no ≠ no) ∧ Below w.heap.size w wr) (fun i _ => ls.length - (intOf i).toNat)
  case atStart => exact ⟨0, Nat.zero_le _, rfl, fun y hy => by simp at hy, Below.refl _ _⟩
  case round =>
    obtain ⟨k, hk, rfl, hno, hb⟩ := hrel
    have HB := Lib.hid hno
    clear hno
    by_cases hlt : k < ls.length
    · obtain ⟨x, hx⟩ : ∃ x, ls[k]? = some x := ⟨_, List.getElem?_eq_getElem hlt⟩
      obtain ⟨g, o, rfl, h0, h1⟩ := HC.out k x hx
      have hg := World.block_lt_of_cell? _ _ h0
      have d0 := (hb.cell (p := ⟨g, o + k * 2, none⟩) hg).trans h0
      have d1 := (hb.cell (p := ⟨g, o + k * 2 + 1, none⟩) hg).trans h1
      have HF := Lib.hid (find_take hx HB.out)
      have hb2 : Below w.heap.size w (wr.alloc (.cells #[.string ⟨x.name.toArray⟩, .int .i64 x.no] 89)) := hb.alloc hb.size _
      have HB2 := Lib.hid hb2
      clear h0 h1 hx hb2
      by_cases hn : x.no = no
      · have HN := Lib.hid (HF.out.1 hn)
        subst hn
        clear HF
        go_wp2
        go_ret2
        exact ⟨by rw [HN.out]; rfl, HB2.out⟩
      · have HN := Lib.hid (HF.out.2 hn)
        have hn' : (x.no == no) = false := by simpa using hn
        clear HF hn
        go_wp2
        go_roundw
        case rel => exact ⟨k + 1, by omega, by go_num, HN.out, HB2.out⟩
        case measure => simp [intOf]; omega
    · have HE := Lib.hid (find_end (ls := ls) (no := no) (by have := HB.out; rwa [List.take_of_length_le (by omega)] at this))
      go_wp2
      go_ret2
      exact ⟨by rw [HE.out]; rfl, hb⟩
end Go.Proofs.YtenopnfclbegbaaGreat.E
