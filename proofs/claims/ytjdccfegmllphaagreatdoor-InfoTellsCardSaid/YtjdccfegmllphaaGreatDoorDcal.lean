/-
  What date's Leap, Days, within, leapsTo, daysTo, yearOf and monthOf and the reference's Leap, Days and Year do.
-/
import Derived.Test.YtjdccfegmllphaaGreatDoorDmath
import Derived.Test.YtjdccfegmllphaaGreatDoorProg
import Derived.WalkKit
import Derived.WalkSpells
import Derived.WalkSmall
import Derived.Lib.OthersKept
import Derived.Lib.Hide
import Derived.IntWalk
import Derived.Laws.Strings3
import Derived.Laws.Concat
import Derived.Shelf.RegionOpen
namespace Go.Proofs.YtjdccfegmllphaaGreatDoor
open Go.RowKit Go.Shelf

theorem ret_bool {a b : Bool} (h : a = b) : Ending.returned (.bool a) = .returned (.bool b) := by rw [h]
theorem ret_int {a b : Int} (h : a = b) : Ending.returned (.int .i64 a) = .returned (.int .i64 b) := by rw [h]
theorem tm (y k : Int) : y.tmod k = 0 ↔ y % k = 0 := by
  rw [← Int.dvd_iff_tmod_eq_zero, ← Int.dvd_iff_emod_eq_zero]
theorem leap_tm (y : Int) : M.leap y = decide ((y.tmod 4 = 0 ∧ y.tmod 100 ≠ 0) ∨ y.tmod 400 = 0) := by
  unfold M.leap
  rw [decide_eq_decide, tm, tm, ne_eq, ne_eq, tm]

set_option maxHeartbeats 1000000 in
theorem leap_any (y : Int) (w : World) : Calls Tryz.prog 84 #[.int .i64 y] w fun e w' => e = .returned (.bool (M.leap y)) ∧ w = w' := by
  have HP := Lib.hid (leap_tm y)
  go_enter Tryz.func84, Tryz.ntmps84
  go_wp2
  all_goals go_ret
  all_goals refine ⟨ret_bool ?_, rfl⟩
  all_goals rw [HP.out, Bool.eq_iff_iff]
  all_goals simp only [beq_iff_eq, ne_eq, decide_eq_true_eq, true_iff] at *
  all_goals omega
set_option maxHeartbeats 1000000 in
theorem refLeap_any (y : Int) (w : World) : Calls Tryz.prog 76 #[.int .i64 y] w fun e w' => e = .returned (.bool (M.leap y)) ∧ w = w' := by
  have HP := Lib.hid (leap_tm y)
  go_enter Tryz.func76, Tryz.ntmps76
  go_wp2
  all_goals go_ret
  all_goals refine ⟨ret_bool ?_, rfl⟩
  all_goals rw [HP.out, Bool.eq_iff_iff]
  all_goals simp only [beq_iff_eq, ne_eq, decide_eq_true_eq, true_iff] at *
  all_goals omega

/-! ### Days -/
theorem days_out {y m d : Int} {l : Bool} (hl : M.leap y = l) (h : M.dm l m = d) : M.days y m = d := by unfold M.days; rw [hl, h]
theorem ret_days {y m d : Int} {l : Bool} (hl : M.leap y = l) (h : M.dm l m = d) : Ending.returned (.int .i64 d) = .returned (.int .i64 (M.days y m)) := by rw [days_out hl h]
theorem dm_none {l : Bool} {m : Int} (h : m < 1 ∨ 12 < m) : M.dm l m = 0 := by unfold M.dm; rw [if_pos h]
theorem twelve {m : Int} (h1 : 1 ≤ m) (h2 : m ≤ 12) : m = 1 ∨ m = 2 ∨ m = 3 ∨ m = 4 ∨ m = 5 ∨ m = 6 ∨ m = 7 ∨ m = 8 ∨ m = 9 ∨ m = 10 ∨ m = 11 ∨ m = 12 := by omega
theorem leap_is {y : Int} {b : Bool} (h : M.leap y = b) (w : World) : Calls Tryz.prog 84 #[.int .i64 y] w fun e w' => e = .returned (.bool b) ∧ w = w' := by subst h; exact leap_any y w
theorem refLeap_is {y : Int} {b : Bool} (h : M.leap y = b) (w : World) : Calls Tryz.prog 76 #[.int .i64 y] w fun e w' => e = .returned (.bool b) ∧ w = w' := by subst h; exact refLeap_any y w
set_option maxHeartbeats 2000000 in
theorem days_any (y m : Int) (w : World) : Calls Tryz.prog 67 #[.int .i64 y, .int .i64 m] w fun e w' => e = .returned (.int .i64 (M.days y m)) ∧ w = w' := by
  obtain ⟨l, hl⟩ : ∃ l, M.leap y = l := ⟨_, rfl⟩
  have HL := Lib.hid hl
  clear hl
  by_cases h1 : m < 1 ∨ 12 < m
  · have HD := Lib.hid (days_out HL.out (dm_none h1))
    go_enter Tryz.func67, Tryz.ntmps67
    go_wp2_with fail
    all_goals first | (go_ret; exact ⟨ret_int HD.out.symm, rfl⟩) | (exfalso; simp only [beq_iff_eq] at *; omega)
  · rcases twelve (m := m) (by omega) (by omega) with h | h | h | h | h | h | h | h | h | h | h | h
    all_goals
      subst h
      clear h1
    case inr.inl =>
      cases l
      all_goals
        go_enter Tryz.func67, Tryz.ntmps67
        go_wp2_with (go_at_call 84; refine (leap_is HL.out _).mono ?_; rintro e w1 ⟨rfl, rfl⟩)
        go_ret
        exact ⟨ret_days HL.out rfl, rfl⟩
    all_goals
      go_enter Tryz.func67, Tryz.ntmps67
      go_wp2
      go_ret
      exact ⟨ret_days HL.out rfl, rfl⟩
set_option maxHeartbeats 2000000 in
theorem refDays_any (y m : Int) (w : World) : Calls Tryz.prog 51 #[.int .i64 y, .int .i64 m] w fun e w' => e = .returned (.int .i64 (M.days y m)) ∧ Below w.heap.size w w' := by
  obtain ⟨l, hl⟩ : ∃ l, M.leap y = l := ⟨_, rfl⟩
  have HL := Lib.hid hl
  clear hl
  by_cases h1 : m < 1
  · have HD := Lib.hid (days_out HL.out (dm_none (.inl h1)))
    go_enter Tryz.func51, Tryz.ntmps51
    go_wp2
    go_ret
    exact ⟨ret_int HD.out.symm, Below.refl _ _⟩
  · by_cases h2 : 12 < m
    · have HD := Lib.hid (days_out HL.out (dm_none (.inr h2)))
      go_enter Tryz.func51, Tryz.ntmps51
      go_wp2
      go_ret
      exact ⟨ret_int HD.out.symm, Below.refl _ _⟩
    · rcases twelve (m := m) (by omega) (by omega) with h | h | h | h | h | h | h | h | h | h | h | h
      all_goals
        subst h
        clear h1 h2
      case inr.inl =>
        cases l
        all_goals
          go_enter Tryz.func51, Tryz.ntmps51
          go_wp2_with (go_at_call 76; refine (refLeap_is HL.out _).mono ?_; rintro e w1 ⟨rfl, rfl⟩)
          go_ret
          exact ⟨ret_days HL.out rfl, by first | exact Below.refl _ _ | exact (Below.refl _ w).alloc (Nat.le_refl _) _⟩
      all_goals
        go_enter Tryz.func51, Tryz.ntmps51
        go_wp2
        go_ret
        exact ⟨ret_days HL.out rfl, (Below.refl _ w).alloc (Nat.le_refl _) _⟩
set_option maxHeartbeats 1000000 in
theorem refYear_any (y : Int) (w : World) : Calls Tryz.prog 50 #[.int .i64 y] w fun e w' => e = .returned (.int .i64 (M.yd (M.leap y))) ∧ w = w' := by
  obtain ⟨l, hl⟩ : ∃ l, M.leap y = l := ⟨_, rfl⟩
  have HL := Lib.hid hl
  rw [hl]
  clear hl
  cases l
  all_goals
    go_enter Tryz.func50, Tryz.ntmps50
    go_wp2_with (go_at_call 76; refine (refLeap_is HL.out _).mono ?_; rintro e w1 ⟨rfl, rfl⟩)
    go_ret
    exact ⟨rfl, rfl⟩
set_option maxHeartbeats 1000000 in
theorem within_any (n a b : Int) (w : World) : Calls Tryz.prog 83 #[.int .i64 n, .int .i64 a, .int .i64 b] w fun e w' => e = .returned (.bool (decide (a ≤ n ∧ n ≤ b))) ∧ w = w' := by
  go_enter Tryz.func83, Tryz.ntmps83
  go_wp2
  all_goals go_ret
  all_goals refine ⟨ret_bool ?_, rfl⟩
  all_goals rw [Bool.eq_iff_iff]
  all_goals simp only [Bool.and_eq_true, decide_eq_true_eq, Bool.false_eq_true, false_iff] at *
  all_goals omega
/-! ### Years -/
set_option maxHeartbeats 1000000 in
theorem leapsTo_any (y : Int) (h0 : 1 ≤ y) (h1 : y ≤ 100000) (w : World) : Calls Tryz.prog 69 #[.int .i64 y] w fun e w' => e = .returned (.int .i64 (M.lt y)) ∧ w = w' := by
  have HE := Lib.hid (show M.lt y = (y - 1) / 4 - (y - 1) / 100 + (y - 1) / 400 from rfl)
  have e1 : (y - 1).tdiv 4 = (y - 1) / 4 := Int.tdiv_eq_ediv_of_nonneg (by omega)
  have e2 : (y - 1).tdiv 100 = (y - 1) / 100 := Int.tdiv_eq_ediv_of_nonneg (by omega)
  have e3 : (y - 1).tdiv 400 = (y - 1) / 400 := Int.tdiv_eq_ediv_of_nonneg (by omega)
  go_enter Tryz.func69, Tryz.ntmps69
  go_wp2
  go_ret
  exact ⟨ret_int HE.out.symm, rfl⟩
end Go.Proofs.YtjdccfegmllphaaGreatDoor
