/-
  Trashinfo files, on lists of bytes: lines; what is cut off; the group; keys and values; what is written is read.
-/
import Derived.Lib.IndexMore
import Derived.Lib.Strings
import Derived.Lib.SlTrimSet
import Derived.Lib.TrimByte
import Derived.Lib.Hide
namespace Go.Proofs.YtolobnokpmbajaaDoor.I
open Go

/-- What stands between newlines. -/
def lines : List UInt8 → List (List UInt8)
  | [] => [[]]
  | b :: l => if b = 10 then [] :: lines l else match lines l with
    | [] => [[b]]
    | p :: ps => (b :: p) :: ps

theorem lines_nil : lines [] = [[]] := rfl
theorem lines_break (l : List UInt8) : lines (10 :: l) = [] :: lines l := by rw [lines, if_pos rfl]
theorem lines_ne : ∀ l, lines l ≠ []
  | [] => by simp [lines]
  | b :: l => by
    rw [lines]
    split
    · simp
    · split <;> simp
theorem lines_cons {b : UInt8} {l p : List UInt8} {ps : List (List UInt8)} (hb : b ≠ 10) (h : lines l = p :: ps) : lines (b :: l) = (b :: p) :: ps := by
  rw [lines, if_neg hb, h]
theorem lines_app : ∀ a r : List UInt8, lines (a ++ 10 :: r) = lines a ++ lines r
  | [], r => by rw [List.nil_append, lines_break, lines_nil]; rfl
  | b :: a, r => by
    have ih := lines_app a r
    by_cases hb : b = 10
    · subst hb
      rw [List.cons_append, lines_break, lines_break, ih]; rfl
    · cases hp : lines a with
      | nil => exact absurd hp (lines_ne a)
      | cons p ps =>
        rw [lines_cons hb hp, List.cons_append, lines_cons hb (p := p) (ps := ps ++ lines r) (by rw [ih, hp]; rfl)]
        rfl
theorem lines_none : ∀ l : List UInt8, (10 : UInt8) ∉ l → lines l = [l]
  | [], _ => rfl
  | b :: l, h => by
    simp only [List.mem_cons, not_or] at h
    exact lines_cons (fun e => h.1 e.symm) (lines_none l h.2)
theorem lines_len : ∀ l, (lines l).length ≤ l.length + 1
  | [] => by simp [lines]
  | b :: l => by
    have ih := lines_len l
    by_cases hb : b = 10
    · subst hb; rw [lines_break]; simp; omega
    · cases hp : lines l with
      | nil => exact absurd hp (lines_ne l)
      | cons p ps => rw [lines_cons hb hp]; rw [hp] at ih; simp at ih ⊢; omega
theorem lines_pos (l : List UInt8) : 0 < (lines l).length := List.length_pos_iff.2 (lines_ne l)
/-- The bytes of all the lines together. -/
def total (ps : List (List UInt8)) : Nat := (ps.map List.length).sum
theorem lines_total : ∀ l, total (lines l) ≤ l.length
  | [] => by simp [lines, total]
  | b :: l => by
    have ih := lines_total l
    by_cases hb : b = 10
    · subst hb; rw [lines_break]; simp [total] at ih ⊢; omega
    · cases hp : lines l with
      | nil => exact absurd hp (lines_ne l)
      | cons p ps => rw [lines_cons hb hp]; rw [hp] at ih; simp [total] at ih ⊢; omega
theorem lines_mem : ∀ (l p : List UInt8), p ∈ lines l → (10 : UInt8) ∉ p
  | [], p, h => by simp [lines] at h; subst h; simp
  | b :: l, p, h => by
    by_cases hb : b = 10
    · subst hb
      rw [lines_break, List.mem_cons] at h
      rcases h with rfl | h
      · simp
      · exact lines_mem l p h
    · cases hp : lines l with
      | nil => exact absurd hp (lines_ne l)
      | cons q qs =>
        rw [lines_cons hb hp, List.mem_cons] at h
        have ih := lines_mem l
        rcases h with rfl | h
        · simp only [List.mem_cons, not_or]
          exact ⟨fun e => hb e.symm, ih q (by rw [hp]; simp)⟩
        · exact ih p (by rw [hp]; simp [h])

/-- What stands behind the last slash. -/
def lastp (l : List UInt8) : List UInt8 := (lines l).getLast (lines_ne l)
theorem lastp_at (l : List UInt8) : (lines l)[(lines l).length - 1]? = some (lastp l) := by
  unfold lastp; rw [← List.getLast?_eq_getElem?, List.getLast?_eq_some_getLast (lines_ne l)]
theorem lastp_none {l : List UInt8} (h : (10 : UInt8) ∉ l) : lastp l = l := by
  unfold lastp; simp only [lines_none l h, List.getLast_singleton]
theorem lastp_app (a r : List UInt8) : lastp (a ++ 10 :: r) = lastp r := by
  unfold lastp; simp only [lines_app, List.getLast_append, lines_ne, List.isEmpty_iff, dite_false]
theorem lastp_le (l : List UInt8) : (lastp l).length ≤ l.length := by
  have h := lines_total l
  have hm : lastp l ∈ lines l := List.getLast_mem _
  have : ∀ (ps : List (List UInt8)) (p : List UInt8), p ∈ ps → p.length ≤ total ps := by
    intro ps
    induction ps with
    | nil => intro p hp; simp at hp
    | cons q qs ih =>
      intro p hp
      rw [List.mem_cons] at hp
      rcases hp with rfl | hp
      · simp [total]
      · have := ih p hp; simp [total] at this ⊢; omega
  exact Nat.le_trans (this _ _ hm) h

theorem snoc_line (l : List UInt8) : lines (l ++ [10]) = lines l ++ [[]] := by
  have := lines_app l []
  rw [lines_nil] at this
  exact this
theorem set_last {α : Type} : ∀ (a : List α) (x y : α), (a ++ [x]).set ((a ++ [x]).length - 1) y = a ++ [y] := by
  intro a x y
  simp
theorem snoc_other {b : UInt8} (hb : b ≠ 10) : ∀ l : List UInt8, lines (l ++ [b]) = (lines l).set ((lines l).length - 1) (lastp l ++ [b])
  | [] => by simp [lines, hb, lastp]
  | c :: l => by
    have ih := snoc_other hb l
    by_cases hc : c = 10
    · subst hc
      have e : lastp (10 :: l) = lastp l := lastp_app [] l
      rw [List.cons_append, lines_break, lines_break, ih, e]
      have := lines_pos l
      obtain ⟨n, hn⟩ : ∃ n, (lines l).length = n + 1 := ⟨_, (Nat.succ_pred_eq_of_pos this).symm⟩
      simp [hn]
    · cases hp : lines l with
      | nil => exact absurd hp (lines_ne l)
      | cons p ps =>
        rw [hp] at ih
        have e := lines_cons hc hp
        cases ps with
        | nil =>
          have e1 : lastp l = p := by unfold lastp; simp [hp]
          have e2 : lastp (c :: l) = c :: p := by unfold lastp; simp [e]
          rw [e1] at ih
          rw [e, e2, List.cons_append, lines_cons hc (p := p ++ [b]) (ps := []) (by rw [ih]; simp)]
          simp
        | cons q qs =>
          have e1 : lastp (c :: l) = lastp l := by unfold lastp; simp [e, hp]
          rw [e, e1, List.cons_append, lines_cons hc (p := p) (ps := (q :: qs).set ((q :: qs).length - 1) (lastp l ++ [b])) (by rw [ih]; simp)]
          simp

/-! ### The library's words -/
theorem index_one (c : UInt8) : ∀ l : List UInt8, (Lib.index l [c] = -1 ∧ c ∉ l) ∨ ∃ i : Nat, Lib.index l [c] = i ∧ i < l.length ∧ c ∉ l.take i ∧ l = l.take i ++ c :: l.drop (i + 1)
  | [] => .inl ⟨rfl, by simp⟩
  | b :: l => by
    by_cases hb : b = c
    · subst hb
      exact .inr ⟨0, by simp [Lib.index], by simp, by simp, by simp⟩
    · have e : ([c] : List UInt8).isPrefixOf (b :: l) = false := by simp [List.isPrefixOf]; exact fun e => hb e.symm
      rcases index_one c l with ⟨h1, h2⟩ | ⟨i, h1, h2, h3, h4⟩
      · left
        refine ⟨by rw [Lib.index, e, h1]; rfl, ?_⟩
        simp only [List.mem_cons, not_or]
        exact ⟨fun e => hb e.symm, h2⟩
      · right
        refine ⟨i + 1, ?_, by simp; omega, ?_, ?_⟩
        · rw [Lib.index, e, h1]
          have : ((i : Int) == -1) = false := by rw [beq_eq_false_iff_ne]; omega
          simp [this]
        · simp only [List.take_succ_cons, List.mem_cons, not_or]
          exact ⟨fun e => hb e.symm, h3⟩
        · simp only [List.take_succ_cons, List.drop_succ_cons, List.cons_append]
          rw [← h4]
theorem contains_byte (l : List UInt8) (c : UInt8) : Lib.contains l [c] = decide (c ∈ l) := by
  unfold Lib.contains
  rcases index_one c l with ⟨h1, h2⟩ | ⟨i, h1, h2, h3, h4⟩
  · simp [h1, h2]
  · have : c ∈ l := by rw [h4]; simp
    simp [h1, this]
/-- What Cut leaves at a byte. -/
theorem cut_one (c : UInt8) (l : List UInt8) :
    (Lib.cut l [c] = (l, [], false) ∧ c ∉ l) ∨ ∃ p r : List UInt8, Lib.cut l [c] = (p, r, true) ∧ l = p ++ c :: r ∧ c ∉ p ∧ p.length + r.length + 1 = l.length := by
  rcases index_one c l with ⟨h1, h2⟩ | ⟨i, h1, h2, h3, h4⟩
  · left
    exact ⟨by simp [Lib.cut, h1], h2⟩
  · right
    exact ⟨l.take i, l.drop (i + 1), by simp [Lib.cut, h1], h4, h3, by simp; omega⟩
theorem cut_app {c : UInt8} {p r : List UInt8} (hp : c ∉ p) : Lib.cut (p ++ c :: r) [c] = (p, r, true) := by
  rcases cut_one c (p ++ c :: r) with ⟨_, h2⟩ | ⟨p', r', h1, h2, h3, h4⟩
  · exact absurd (by simp) h2
  · rw [h1]
    have : p = p' ∧ r = r' := by
      clear h1 h4
      induction p generalizing p' with
      | nil =>
        cases p' with
        | nil => simp at h2; exact ⟨rfl, h2⟩
        | cons b p' => simp at h2; exact absurd (by rw [h2.1]; simp) h3
      | cons a p ih =>
        cases p' with
        | nil => simp at h2; exact absurd (by rw [h2.1]; simp) hp
        | cons b p' =>
          simp at h2
          obtain ⟨rfl, h2⟩ := h2
          have := ih (fun h => hp (by simp [h])) p' (by simpa using h2) (fun h => h3 (by simp [h]))
          exact ⟨by rw [this.1], this.2⟩
    rw [this.1, this.2]
theorem cut_lines (l : List UInt8) :
    (Lib.cut l [10] = (l, [], false) ∧ lines l = [l]) ∨ ∃ p r : List UInt8, Lib.cut l [10] = (p, r, true) ∧ lines l = p :: lines r ∧ p.length + r.length + 1 = l.length := by
  rcases cut_one 10 l with ⟨h1, h2⟩ | ⟨p, r, h1, h2, h3, h4⟩
  · exact .inl ⟨h1, lines_none l h2⟩
  · refine .inr ⟨p, r, h1, ?_, h4⟩
    rw [h2, lines_app, lines_none p h3]; rfl
theorem cut_le (c : UInt8) (l : List UInt8) : (Lib.cut l [c]).1.length ≤ l.length ∧ (Lib.cut l [c]).2.1.length ≤ l.length := by
  rcases cut_one c l with ⟨h1, h2⟩ | ⟨p, r, h1, h2, h3, h4⟩
  · rw [h1]; simp
  · rw [h1]; simp; omega

/-! ### What is cut off at the ends -/
def edges : List UInt8 := [32, 9, 13]
def blanks : List UInt8 := [32, 9]
def bare (l : List UInt8) : List UInt8 := Lib.trimS l edges
def bare0 (l : List UInt8) : List UInt8 := Lib.trimS l blanks
theorem left_cons (x : UInt8) (l cs : List UInt8) : Lib.trimLeftS (x :: l) cs = if cs.contains x then Lib.trimLeftS l cs else x :: l := by
  unfold Lib.trimLeftS; rw [List.dropWhile_cons]
theorem right_cons (x : UInt8) (l cs : List UInt8) : Lib.trimRightS (x :: l) cs = if Lib.trimRightS l cs = [] ∧ cs.contains x = true then [] else x :: Lib.trimRightS l cs := by
  unfold Lib.trimRightS
  rw [List.reverse_cons, List.dropWhile_append]
  by_cases h : l.reverse.dropWhile (cs.contains ·) = []
  · by_cases hx : cs.contains x = true
    · rw [h]; simp only [List.isEmpty_nil, if_true]; rw [List.dropWhile_cons, if_pos hx]; simp [List.contains_iff_mem.1 hx]
    · rw [h]; simp only [List.isEmpty_nil, if_true]; rw [List.dropWhile_cons, if_neg hx, if_neg (fun e => hx e.2)]; rfl
  · have h' : (l.reverse.dropWhile (cs.contains ·)).isEmpty = false := by cases hh : l.reverse.dropWhile (cs.contains ·) <;> simp_all
    rw [h']
    simp only [Bool.false_eq_true, if_false, List.reverse_append, List.reverse_cons, List.reverse_nil, List.nil_append, List.singleton_append]
    rw [if_neg]
    rintro ⟨e, _⟩
    exact h (List.reverse_eq_nil_iff.1 e)
theorem right_snoc (x : UInt8) (l cs : List UInt8) : Lib.trimRightS (l ++ [x]) cs = if cs.contains x then Lib.trimRightS l cs else l ++ [x] := by
  unfold Lib.trimRightS
  rw [List.reverse_append, List.reverse_cons, List.reverse_nil, List.nil_append, List.singleton_append, List.dropWhile_cons]
  split
  · rfl
  · simp
theorem trim_comm (cs : List UInt8) : ∀ l : List UInt8, Lib.trimRightS (Lib.trimLeftS l cs) cs = Lib.trimS l cs
  | [] => rfl
  | x :: l => by
    have ih := trim_comm cs l
    unfold Lib.trimS at ih ⊢
    rw [left_cons, right_cons]
    by_cases hx : cs.contains x = true
    · rw [if_pos hx, ih]
      by_cases h0 : Lib.trimRightS l cs = []
      · rw [if_pos ⟨h0, hx⟩, h0]
      · rw [if_neg (fun e => h0 e.1), left_cons, if_pos hx]
    · rw [if_neg hx, if_neg (fun e => hx e.2), left_cons, if_neg hx, right_cons, if_neg (fun e => hx e.2)]
theorem left_le (l cs : List UInt8) : (Lib.trimLeftS l cs).length ≤ l.length := by
  induction l with
  | nil => simp [Lib.trimLeftS]
  | cons x l ih => rw [left_cons]; split <;> simp at * <;> omega
theorem right_le (l cs : List UInt8) : (Lib.trimRightS l cs).length ≤ l.length := by
  induction l with
  | nil => simp [Lib.trimRightS]
  | cons x l ih => rw [right_cons]; split <;> simp at * <;> omega
theorem trim_le (l cs : List UInt8) : (Lib.trimS l cs).length ≤ l.length := Nat.le_trans (left_le _ _) (right_le _ _)
theorem right_id {l cs : List UInt8} {x : UInt8} (hx : cs.contains x = false) : Lib.trimRightS (l ++ [x]) cs = l ++ [x] := by
  rw [right_snoc, hx]; rfl
theorem right_app {m cs : List UInt8} (hm : Lib.trimRightS m cs = m) (hn : m ≠ []) : ∀ l : List UInt8, Lib.trimRightS (l ++ m) cs = l ++ m
  | [] => hm
  | x :: l => by
    rw [List.cons_append, right_cons, right_app hm hn l, if_neg]
    rintro ⟨e, _⟩
    exact hn (by simp at e; exact e.2)
theorem right_all {cs : List UInt8} : ∀ {m : List UInt8}, (∀ b ∈ m, cs.contains b = false) → Lib.trimRightS m cs = m
  | [], _ => rfl
  | x :: l, h => by
    rw [right_cons, right_all (fun b hb => h b (by simp [hb])), if_neg]
    rintro ⟨_, e⟩
    rw [h x (by simp)] at e; cases e
theorem left_all {cs : List UInt8} {m : List UInt8} (h : ∀ b ∈ m, cs.contains b = false) : Lib.trimLeftS m cs = m := by
  cases m with
  | nil => rfl
  | cons x l => rw [left_cons, h x (by simp)]; rfl
/-- a line whose first byte is no blank, and whose bytes behind are none -/
theorem trim_id {x : UInt8} {l m cs : List UInt8} (hx : cs.contains x = false) (hm : ∀ b ∈ m, cs.contains b = false) (hn : m ≠ []) : Lib.trimS (x :: l ++ m) cs = x :: l ++ m := by
  unfold Lib.trimS
  rw [right_app (right_all hm) hn, List.cons_append, left_cons, hx]; rfl
theorem trim_all {m cs : List UInt8} (hm : ∀ b ∈ m, cs.contains b = false) : Lib.trimS m cs = m := by
  unfold Lib.trimS; rw [right_all hm, left_all hm]
/-- a line that begins with a byte that is no blank keeps it -/
theorem trim_head {x : UInt8} {cs : List UInt8} (hx : cs.contains x = false) (l : List UInt8) : Lib.trimS (x :: l) cs = x :: Lib.trimRightS l cs := by
  unfold Lib.trimS
  rw [right_cons, if_neg (by rw [hx]; simp), left_cons, hx]; rfl

/-! ### The lines that count; the group; its keys -/
def head : List UInt8 := [91, 84, 114, 97, 115, 104, 32, 73, 110, 102, 111, 93]
def kPath : List UInt8 := [80, 97, 116, 104]
def kDate : List UInt8 := [68, 101, 108, 101, 116, 105, 111, 110, 68, 97, 116, 101]
def ok (l : List UInt8) : Bool := !(l == []) && !(Lib.hasPrefix l [35])
def kept (s : List UInt8) : List (List UInt8) := ((lines s).map bare).filter ok
structure Rec where
  path : List UInt8
  pf : Bool
  date : List UInt8
  df : Bool
def r0 : Rec := ⟨[], false, [], false⟩
def fillP (r : Rec) (v : List UInt8) : Rec := if r.pf then r else ⟨v, true, r.date, r.df⟩
def fillD (r : Rec) (v : List UInt8) : Rec := if r.df then r else ⟨r.path, r.pf, v, true⟩
def tak (r : Rec) (l : List UInt8) : Rec :=
  if (Lib.cut l [61]).2.2 then
    if bare0 (Lib.cut l [61]).1 = kPath then fillP r (bare0 (Lib.cut l [61]).2.1)
    else if bare0 (Lib.cut l [61]).1 = kDate then fillD r (bare0 (Lib.cut l [61]).2.1) else r
  else r
def run : Bool → Rec → List (List UInt8) → Rec
  | _, r, [] => r
  | b, r, l :: ls => if b = false ∧ l = head then run true r ls else if b = false ∨ Lib.hasPrefix l [91] = true then r else run true (tak r l) ls
theorem run_head (r : Rec) (ls : List (List UInt8)) : run false r (head :: ls) = run true r ls := by rw [run, if_pos ⟨rfl, rfl⟩]
theorem run_other {r : Rec} {l : List UInt8} (ls : List (List UInt8)) (h : l ≠ head) : run false r (l :: ls) = r := by rw [run, if_neg (fun e => h e.2), if_pos (.inl rfl)]
theorem run_end {r : Rec} {l : List UInt8} (ls : List (List UInt8)) (h : Lib.hasPrefix l [91] = true) : run true r (l :: ls) = r := by rw [run, if_neg (fun e => by cases e.1), if_pos (.inr h)]
theorem run_take {r : Rec} {l : List UInt8} (ls : List (List UInt8)) (h : Lib.hasPrefix l [91] = false) : run true r (l :: ls) = run true (tak r l) ls := by
  rw [run, if_neg (fun e => by cases e.1), if_neg (by rw [h]; simp)]
def rec_ (s : List UInt8) : Rec := run false r0 (kept s)
theorem tak_full {r : Rec} (h1 : r.pf = true) (h2 : r.df = true) (l : List UInt8) : tak r l = r := by
  unfold tak fillP fillD
  rw [if_pos h1, if_pos h2]
  split <;> (try split) <;> (try split) <;> rfl
theorem run_full {r : Rec} (h1 : r.pf = true) (h2 : r.df = true) : ∀ ls : List (List UInt8), run true r ls = r
  | [] => rfl
  | l :: ls => by
    cases h : Lib.hasPrefix l [91] with
    | true => exact run_end ls h
    | false => rw [run_take ls h, tak_full h1 h2, run_full h1 h2 ls]
theorem tak_le {r : Rec} {n : Nat} (hp : r.path.length ≤ n) (hd : r.date.length ≤ n) {l : List UInt8} (hl : l.length ≤ n) : (tak r l).path.length ≤ n ∧ (tak r l).date.length ≤ n := by
  have h1 := cut_le 61 l
  have h2 := trim_le (Lib.cut l [61]).2.1 blanks
  unfold tak fillP fillD bare0
  split
  · split
    · split
      · exact ⟨hp, hd⟩
      · exact ⟨by show (Lib.trimS _ blanks).length ≤ n; omega, hd⟩
    · split
      · split
        · exact ⟨hp, hd⟩
        · exact ⟨hp, by show (Lib.trimS _ blanks).length ≤ n; omega⟩
      · exact ⟨hp, hd⟩
  · exact ⟨hp, hd⟩
theorem run_le {n : Nat} : ∀ (ls : List (List UInt8)) (b : Bool) (r : Rec), r.path.length ≤ n → r.date.length ≤ n → (∀ l ∈ ls, l.length ≤ n) → (run b r ls).path.length ≤ n ∧ (run b r ls).date.length ≤ n
  | [], b, r, hp, hd, _ => ⟨hp, hd⟩
  | l :: ls, b, r, hp, hd, h => by
    rw [run]
    split
    · exact run_le ls _ _ hp hd (fun x hx => h x (by simp [hx]))
    · split
      · exact ⟨hp, hd⟩
      · have := tak_le hp hd (h l (by simp))
        exact run_le ls _ _ this.1 this.2 (fun x hx => h x (by simp [hx]))
theorem line_le {s l : List UInt8} (h : l ∈ lines s) : l.length ≤ s.length := by
  have h1 := lines_total s
  have : l.length ≤ total (lines s) := by
    clear h1
    generalize lines s = ps at h
    induction ps with
    | nil => cases h
    | cons p ps ih =>
      simp only [total, List.map_cons, List.sum_cons] at ih ⊢
      rcases List.mem_cons.1 h with rfl | h
      · omega
      · have := ih h; omega
  omega
theorem kept_le {s l : List UInt8} (h : l ∈ kept s) : l.length ≤ s.length := by
  unfold kept at h
  rw [List.mem_filter, List.mem_map] at h
  obtain ⟨⟨p, hp, rfl⟩, _⟩ := h
  exact Nat.le_trans (trim_le _ _) (line_le hp)
theorem rec_le (s : List UInt8) : (rec_ s).path.length ≤ s.length ∧ (rec_ s).date.length ≤ s.length :=
  run_le _ _ _ (by simp [r0]) (by simp [r0]) (fun _ h => kept_le h)
theorem kept_len (s : List UInt8) : (kept s).length ≤ s.length + 1 := by
  unfold kept
  have := List.length_filter_le ok ((lines s).map bare)
  have h2 := lines_len s
  simp at this; omega

/-! ### What is written is read -/
theorem kept_app (a r : List UInt8) : kept (a ++ 10 :: r) = kept a ++ kept r := by
  unfold kept; rw [lines_app, List.map_append, List.filter_append]
theorem kept_line {a : List UInt8} (h : (10 : UInt8) ∉ a) : kept a = if ok (bare a) then [bare a] else [] := by
  unfold kept; rw [lines_none a h]; simp [List.filter_cons]
def wr (e t : List UInt8) : List UInt8 := head ++ 10 :: (kPath ++ 61 :: e ++ 10 :: (kDate ++ 61 :: t ++ [10]))
structure Seen (e : List UInt8) : Prop where
  some : e ≠ []
  all : ∀ b ∈ e, 33 ≤ b.toNat
theorem Seen.not {e : List UInt8} (h : Seen e) {c : UInt8} (hc : c.toNat < 33) : c ∉ e := fun hm => by have := h.all c hm; omega
theorem Seen.edges {e : List UInt8} (h : Seen e) : ∀ b ∈ e, edges.contains b = false := by
  intro b hb
  have := h.all b hb
  cases hc : I.edges.contains b with
  | false => rfl
  | true =>
    have := List.contains_iff_mem.1 hc
    simp [I.edges] at this
    rcases this with rfl | rfl | rfl <;> simp at * <;> omega
theorem Seen.blanks {e : List UInt8} (h : Seen e) : ∀ b ∈ e, blanks.contains b = false := by
  intro b hb
  have := h.all b hb
  cases hc : I.blanks.contains b with
  | false => rfl
  | true =>
    have := List.contains_iff_mem.1 hc
    simp [I.blanks] at this
    rcases this with rfl | rfl <;> simp at * <;> omega
theorem keep_path {e : List UInt8} (h : Seen e) : kept (kPath ++ 61 :: e) = [kPath ++ 61 :: e] := by
  rw [kept_line (by simp [kPath]; exact h.not (by decide))]
  have : bare (kPath ++ 61 :: e) = kPath ++ 61 :: e := trim_id (x := 80) (l := [97, 116, 104, 61]) (by decide) h.edges h.some
  rw [this, if_pos]; rfl
theorem keep_date {e : List UInt8} (h : Seen e) : kept (kDate ++ 61 :: e) = [kDate ++ 61 :: e] := by
  rw [kept_line (by simp [kDate]; exact h.not (by decide))]
  have : bare (kDate ++ 61 :: e) = kDate ++ 61 :: e := trim_id (x := 68) (l := [101, 108, 101, 116, 105, 111, 110, 68, 97, 116, 101, 61]) (by decide) h.edges h.some
  rw [this, if_pos]; rfl
theorem keep_head : kept head = [head] := by decide
theorem tak_path {e : List UInt8} (h : Seen e) (r : Rec) : tak r (kPath ++ 61 :: e) = fillP r e := by
  unfold tak
  rw [cut_app (by decide), if_pos rfl, if_pos (show bare0 kPath = kPath by decide)]
  show fillP r (Lib.trimS e I.blanks) = _
  rw [trim_all h.blanks]
theorem tak_date {e : List UInt8} (h : Seen e) (r : Rec) : tak r (kDate ++ 61 :: e) = fillD r e := by
  unfold tak
  rw [cut_app (by decide), if_pos rfl, if_neg (show ¬ bare0 kDate = kPath by decide), if_pos (show bare0 kDate = kDate by decide)]
  show fillD r (Lib.trimS e I.blanks) = _
  rw [trim_all h.blanks]
/-- what is written is read, whatever stands behind it -/
theorem rec_wr {e t : List UInt8} (he : Seen e) (ht : Seen t) (x : List UInt8) : rec_ (wr e t ++ x) = ⟨e, true, t, true⟩ := by
  have e1 : wr e t ++ x = head ++ 10 :: ((kPath ++ 61 :: e) ++ 10 :: ((kDate ++ 61 :: t) ++ 10 :: x)) := by simp [wr]
  unfold rec_
  rw [e1, kept_app, kept_app, kept_app, keep_head, keep_path he, keep_date ht]
  show run false r0 (head :: (kPath ++ 61 :: e) :: (kDate ++ 61 :: t) :: kept x) = _
  rw [run_head, run_take _ rfl, run_take _ rfl, tak_path he, tak_date ht]
  exact run_full rfl rfl _
/-- an empty line and a comment ahead of it say nothing -/
theorem rec_skip {p x : List UInt8} (hp : (10 : UInt8) ∉ p) : rec_ (10 :: 35 :: p ++ 10 :: x) = rec_ x := by
  unfold rec_
  have e1 : (10 :: 35 :: p ++ 10 :: x : List UInt8) = [] ++ 10 :: ((35 :: p) ++ 10 :: x) := by simp
  rw [e1, kept_app, kept_app, kept_line (a := 35 :: p) (by simp; exact hp)]
  have : ok (bare (35 :: p)) = false := by
    show ok (Lib.trimS (35 :: p) I.edges) = false
    rw [trim_head (by decide)]; simp [ok, Lib.hasPrefix]
  rw [this]
  show run false r0 (kept [] ++ ([] ++ kept x)) = _
  rfl
end Go.Proofs.YtolobnokpmbajaaDoor.I
