/-
  Plain facts on the calendar: days of months and years, the seconds of a date, and that a second has exactly one date. No program stands in this text.
-/
import Derived.KernelRfl
namespace Go.Proofs.YtjdccfegmllphaaGreatDoor.M

/-! ### Months -/
def leap (y : Int) : Bool := decide ((y % 4 = 0 ∧ y % 100 ≠ 0) ∨ y % 400 = 0)
def dm (l : Bool) (m : Int) : Int :=
  if m < 1 ∨ 12 < m then 0 else if m = 2 then (if l then 29 else 28) else if m = 4 ∨ m = 6 ∨ m = 9 ∨ m = 11 then 30 else 31
def days (y m : Int) : Int := dm (leap y) m
/-- the days ahead of a month (of month 13: of the whole year) -/
def cum (l : Bool) (m : Int) : Int :=
  (if m ≤ 1 then 0 else if m = 2 then 31 else (if l then 1 else 0) + (if m = 3 then 59 else if m = 4 then 90 else if m = 5 then 120 else if m = 6 then 151 else if m = 7 then 181 else if m = 8 then 212 else if m = 9 then 243 else if m = 10 then 273 else if m = 11 then 304 else if m = 12 then 334 else 365))
theorem dm_le (l : Bool) (m : Int) : 0 ≤ dm l m ∧ dm l m ≤ 31 := by
  unfold dm; cases l <;> (repeat' split) <;> simp_all
theorem cum_one (l : Bool) : cum l 1 = 0 := rfl
theorem cum_step (l : Bool) (m : Int) (h1 : 1 ≤ m) (h2 : m ≤ 12) : cum l (m + 1) = cum l m + dm l m := by
  have : m = 1 ∨ m = 2 ∨ m = 3 ∨ m = 4 ∨ m = 5 ∨ m = 6 ∨ m = 7 ∨ m = 8 ∨ m = 9 ∨ m = 10 ∨ m = 11 ∨ m = 12 := by omega
  rcases this with h | h | h | h | h | h | h | h | h | h | h | h <;> subst h <;> cases l <;> decide
def yd (l : Bool) : Int := if l then 366 else 365
theorem cum_last (l : Bool) : cum l 13 = yd l := by cases l <;> decide
theorem cum_mono (l : Bool) (a b : Int) (h1 : 1 ≤ a) (h : a < b) (h2 : b ≤ 13) : cum l a + dm l a ≤ cum l b := by
  rw [← cum_step l a h1 (by omega)]
  have key : ∀ k : Nat, ∀ a : Int, 1 ≤ a → a + k ≤ 13 → cum l a ≤ cum l (a + k) := by
    intro k
    induction k with
    | zero => intro a _ _; simp
    | succ k ih =>
      intro a h1 h2
      have := ih a h1 (by omega)
      have h3 := cum_step l (a + k) (by omega) (by omega)
      have h4 := (dm_le l (a + k)).1
      rw [show a + ((k + 1 : Nat) : Int) = a + k + 1 by omega, h3]; omega
  have := key (b - (a + 1)).toNat (a + 1) (by omega) (by omega)
  rwa [show a + 1 + ((b - (a + 1)).toNat : Int) = b by omega] at this

/-! ### Years -/
def lt (y : Int) : Int := (y - 1) / 4 - (y - 1) / 100 + (y - 1) / 400
/-- the days from the beginning of 1970 to that of a year -/
def dTo (y : Int) : Int := (y - 1970) * 365 + lt y - lt 1970
theorem leap_iff (y : Int) : leap y = true ↔ ((y % 4 = 0 ∧ y % 100 ≠ 0) ∨ y % 400 = 0) := by unfold leap; simp
theorem dTo_step (y : Int) : dTo (y + 1) = dTo y + yd (leap y) := by
  unfold dTo lt yd
  have := leap_iff y
  split
  · rename_i h; have := this.1 h; omega
  · rename_i h
    have : ¬ ((y % 4 = 0 ∧ y % 100 ≠ 0) ∨ y % 400 = 0) := fun h' => h (this.2 h')
    omega
theorem yd_le (l : Bool) : 365 ≤ yd l ∧ yd l ≤ 366 := by unfold yd; cases l <;> simp
theorem dTo_first : dTo 1970 = 0 := by decide
theorem dTo_end : dTo 10000 = 2932897 := by decide
theorem dTo_far (k : Nat) : ∀ y : Int, dTo y + 365 * k ≤ dTo (y + k) ∧ dTo (y + k) ≤ dTo y + 366 * k := by
  induction k with
  | zero => intro y; simp
  | succ k ih =>
    intro y
    have := ih y
    have h3 := dTo_step (y + k)
    have h4 := yd_le (leap (y + k))
    rw [show y + ((k + 1 : Nat) : Int) = y + k + 1 by omega, h3]; omega
theorem dTo_mono (a b : Int) (h : a < b) : dTo a + yd (leap a) ≤ dTo b := by
  rw [← dTo_step]
  have := (dTo_far (b - (a + 1)).toNat (a + 1)).1
  rw [show a + 1 + ((b - (a + 1)).toNat : Int) = b by omega] at this
  omega
theorem dTo_lower (y : Int) (h : 1970 ≤ y) : 365 * (y - 1970) ≤ dTo y ∧ dTo y ≤ 366 * (y - 1970) := by
  have := dTo_far (y - 1970).toNat 1970
  rw [show (1970 : Int) + ((y - 1970).toNat : Int) = y by omega, dTo_first] at this
  omega
theorem year_uniq {d a b : Int} (ha : dTo a ≤ d) (ha' : d < dTo (a + 1)) (hb : dTo b ≤ d) (hb' : d < dTo (b + 1)) : a = b := by
  rcases Int.lt_trichotomy a b with h | h | h
  · have := dTo_mono a b h; rw [← dTo_step] at this; omega
  · exact h
  · have := dTo_mono b a h; rw [← dTo_step] at this; omega
theorem year_ex (n : Nat) : ∃ y : Int, 1970 ≤ y ∧ dTo y ≤ n ∧ (n : Int) < dTo (y + 1) := by
  induction n with
  | zero => exact ⟨1970, by omega, by decide, by decide⟩
  | succ n ih =>
    obtain ⟨y, h0, h1, h2⟩ := ih
    by_cases h : ((n + 1 : Nat) : Int) < dTo (y + 1)
    · exact ⟨y, h0, by omega, h⟩
    · refine ⟨y + 1, by omega, by omega, ?_⟩
      have h3 := dTo_step (y + 1)
      have h4 := yd_le (leap (y + 1))
      omega
theorem month_uniq {l : Bool} {d a b : Int} (a1 : 1 ≤ a) (a2 : a ≤ 12) (b1 : 1 ≤ b) (b2 : b ≤ 12) (ha : cum l a ≤ d) (ha' : d < cum l a + dm l a) (hb : cum l b ≤ d) (hb' : d < cum l b + dm l b) : a = b := by
  rcases Int.lt_trichotomy a b with h | h | h
  · have := cum_mono l a b a1 h (by omega); omega
  · exact h
  · have := cum_mono l b a b1 h (by omega); omega
theorem month_ex (l : Bool) (d : Int) (h0 : 0 ≤ d) (h : d < yd l) : ∃ m : Int, 1 ≤ m ∧ m ≤ 12 ∧ cum l m ≤ d ∧ d < cum l m + dm l m := by
  have key : ∀ k : Nat, k ≤ 12 → (∃ m : Int, 1 ≤ m ∧ m ≤ 12 ∧ cum l m ≤ d ∧ d < cum l m + dm l m) ∨ cum l (k + 1) ≤ d := by
    intro k
    induction k with
    | zero => intro _; exact .inr (by show cum l 1 ≤ d; rw [cum_one]; exact h0)
    | succ k ih =>
      intro hk
      rcases ih (by omega) with h1 | h1
      · exact .inl h1
      · by_cases h2 : d < cum l (k + 1) + dm l (k + 1)
        · exact .inl ⟨k + 1, by omega, by omega, h1, h2⟩
        · right
          rw [show ((k + 1 : Nat) : Int) + 1 = (k : Int) + 1 + 1 by omega, cum_step l (k + 1) (by omega) (by omega)]; omega
  rcases key 12 (by omega) with h1 | h1
  · exact h1
  · have : cum l 13 ≤ d := h1
    rw [cum_last] at this; omega

/-! ### Dates -/
structure Valid (y m d h i s : Int) : Prop where
  y0 : 0 ≤ y
  y1 : y ≤ 9999
  m0 : 1 ≤ m
  m1 : m ≤ 12
  d0 : 1 ≤ d
  d1 : d ≤ days y m
  h0 : 0 ≤ h
  h1 : h ≤ 23
  i0 : 0 ≤ i
  i1 : i ≤ 59
  s0 : 0 ≤ s
  s1 : s ≤ 59
def dayOf (y m d : Int) : Int := dTo y + cum (leap y) m + (d - 1)
def secs (y m d h i s : Int) : Int := dayOf y m d * 86400 + h * 3600 + i * 60 + s
/-- the date of a second -/
structure Cv (x y m d h i s : Int) : Prop where
  ok : Valid y m d h i s
  late : 1970 ≤ y
  eq : secs y m d h i s = x
theorem Cv.day {x y m d h i s : Int} (c : Cv x y m d h i s) : x / 86400 = dayOf y m d ∧ x % 86400 = h * 3600 + i * 60 + s := by
  have := c.eq
  have hv := c.ok
  cases hv
  unfold secs at this
  omega
theorem Valid.dm31 {y m d h i s : Int} (c : Valid y m d h i s) : d ≤ 31 := by
  have := c.d1
  have h := (dm_le (leap y) m).2
  unfold days at this; omega
theorem Valid.year {y m d h i s : Int} (c : Valid y m d h i s) : dTo y ≤ dayOf y m d ∧ dayOf y m d < dTo (y + 1) ∧ cum (leap y) m ≤ dayOf y m d - dTo y ∧ dayOf y m d - dTo y < cum (leap y) m + dm (leap y) m := by
  have h1 := c.d0
  have h2 := c.d1
  have h3 := cum_mono (leap y) m 13 c.m0 (by have := c.m1; omega) (by omega)
  have h5 : 0 ≤ cum (leap y) m := by
    by_cases h : m = 1
    · rw [h, cum_one]; omega
    · have := cum_mono (leap y) 1 m (by omega) (by have := c.m0; omega) (by have := c.m1; omega)
      have h6 := (dm_le (leap y) 1).1
      rw [cum_one] at this; omega
  rw [cum_last] at h3
  unfold days at h2
  rw [dTo_step]
  unfold dayOf
  omega
theorem Cv.range {x y m d h i s : Int} (c : Cv x y m d h i s) : 0 ≤ x ∧ x ≤ 253402300799 := by
  have h1 := c.ok.year
  have h2 := dTo_lower y c.late
  have h3 : dTo (y + 1) ≤ 2932897 := by
    by_cases h : y = 9999
    · rw [h]; exact Int.le_of_eq dTo_end
    · have := dTo_mono (y + 1) 10000 (by have := c.ok.y1; omega)
      have h4 := yd_le (leap (y + 1))
      rw [dTo_end] at this; omega
  have h4 := c.day
  have h5 := c.ok
  cases h5
  omega
theorem Cv.uniq {x y m d h i s y' m' d' h' i' s' : Int} (c : Cv x y m d h i s) (c' : Cv x y' m' d' h' i' s') : y = y' ∧ m = m' ∧ d = d' ∧ h = h' ∧ i = i' ∧ s = s' := by
  have e := c.day
  have e' := c'.day
  have r := c.ok.year
  have r' := c'.ok.year
  have hy : y = y' := year_uniq (d := x / 86400) (by omega) (by omega) (by omega) (by omega)
  subst hy
  have hm : m = m' := month_uniq (l := leap y) (d := x / 86400 - dTo y) c.ok.m0 c.ok.m1 c'.ok.m0 c'.ok.m1 (by omega) (by omega) (by omega) (by omega)
  subst hm
  have h1 := c.ok
  have h2 := c'.ok
  unfold dayOf at e e'
  cases h1
  cases h2
  refine ⟨rfl, rfl, ?_, ?_, ?_, ?_⟩ <;> omega
theorem cv_ex (x : Int) (h0 : 0 ≤ x) (h1 : x ≤ 253402300799) : ∃ y m d h i s, Cv x y m d h i s := by
  obtain ⟨y, hy, ha, hb⟩ := year_ex (x / 86400).toNat
  have hn : ((x / 86400).toNat : Int) = x / 86400 := by omega
  rw [hn] at ha hb
  rw [dTo_step] at hb
  obtain ⟨m, m1, m2, hm, hm'⟩ := month_ex (leap y) (x / 86400 - dTo y) (by omega) (by omega)
  have hy9 : y ≤ 9999 := by
    by_cases h : y ≤ 9999
    · exact h
    · have : dTo 10000 ≤ dTo y := by
        by_cases h' : y = 10000
        · rw [h']; exact Int.le_refl _
        · have := dTo_mono 10000 y (by omega)
          have := yd_le (leap 10000); omega
      rw [dTo_end] at this; omega
  refine ⟨y, m, x / 86400 - dTo y - cum (leap y) m + 1, x % 86400 / 3600, x % 86400 % 3600 / 60, x % 86400 % 60, ⟨⟨by omega, hy9, m1, m2, by omega, ?_, by omega, by omega, by omega, by omega, by omega, by omega⟩, hy, ?_⟩⟩
  · unfold days; omega
  · unfold secs dayOf; omega
/-- later seconds have later dates, number by number -/
theorem Cv.order {x y m d h i s x' y' m' d' h' i' s' : Int} (c : Cv x y m d h i s) (c' : Cv x' y' m' d' h' i' s') :
    x < x' ↔ (y < y' ∨ (y = y' ∧ (m < m' ∨ (m = m' ∧ (d < d' ∨ (d = d' ∧ (h < h' ∨ (h = h' ∧ (i < i' ∨ (i = i' ∧ s < s')))))))))) := by
  have r := c.ok.year
  have r' := c'.ok.year
  have e := c.eq
  have e' := c'.eq
  have v := c.ok
  have v' := c'.ok
  unfold secs at e e'
  cases v
  cases v'
  by_cases hy : y = y'
  · subst hy
    by_cases hm : m = m'
    · subst hm
      unfold dayOf at e e'
      omega
    · rcases Int.lt_or_gt_of_ne hm with hlt | hgt
      · have := cum_mono (leap y) m m' (by omega) hlt (by omega)
        omega
      · have := cum_mono (leap y) m' m (by omega) hgt (by omega)
        omega
  · rcases Int.lt_or_gt_of_ne hy with hlt | hgt
    · have := dTo_mono y y' hlt
      rw [← dTo_step] at this
      omega
    · have := dTo_mono y' y hgt
      rw [← dTo_step] at this
      omega
end Go.Proofs.YtjdccfegmllphaaGreatDoor.M
