/-
  What date's daysTo, yearOf and monthOf do.
-/
import Derived.Test.YtjdccfegmllphaaGreatDoorDcal
namespace Go.Proofs.YtjdccfegmllphaaGreatDoor
open Go.RowKit Go.Shelf

theorem lt_bound (y : Int) (h0 : 1 ≤ y) (h1 : y ≤ 100000) : 0 ≤ M.lt y ∧ M.lt y ≤ 100000 := by unfold M.lt; omega
theorem lt_first : M.lt 1970 = 477 := by decide
theorem dTo_out (y : Int) : M.dTo y = (y - 1970) * 365 + M.lt y - 477 := by unfold M.dTo; rw [lt_first]
theorem leapsTo_first (w : World) : Calls Tryz.prog 69 #[.int .i64 1970] w fun e w' => e = .returned (.int .i64 477) ∧ w = w' :=
  (leapsTo_any 1970 (by decide) (by decide) w).mono fun e w' ⟨he, hw⟩ => ⟨by rw [he, lt_first], hw⟩
theorem leapsTo_is {y k : Int} (hk : M.lt y = k) (h0 : 1 ≤ y) (h1 : y ≤ 100000) (w : World) : Calls Tryz.prog 69 #[.int .i64 y] w fun e w' => e = .returned (.int .i64 k) ∧ w = w' := by
  subst hk; exact leapsTo_any y h0 h1 w
set_option maxHeartbeats 1000000 in
theorem daysTo_any (y : Int) (h0 : 1 ≤ y) (h1 : y ≤ 100000) (w : World) : Calls Tryz.prog 47 #[.int .i64 y] w fun e w' => e = .returned (.int .i64 (M.dTo y)) ∧ w = w' := by
  have HE := Lib.hid (dTo_out y)
  have hb := lt_bound y h0 h1
  obtain ⟨k, hk⟩ : ∃ k, M.lt y = k := ⟨_, rfl⟩
  rw [hk] at hb
  have HK := Lib.hid hk
  clear hk
  go_enter Tryz.func47, Tryz.ntmps47
  go_wp2_with fail
  refine (leapsTo_is HK.out h0 h1 _).mono ?_
  rintro e w1 ⟨rfl, rfl⟩
  go_wp2_with fail
  refine (leapsTo_first _).mono ?_
  rintro e w1 ⟨rfl, rfl⟩
  go_wp2
  go_ret
  exact ⟨ret_int (by rw [HE.out, HK.out]), rfl⟩
theorem daysTo_is {y k : Int} (hk : M.dTo y = k) (h0 : 1 ≤ y) (h1 : y ≤ 100000) (w : World) : Calls Tryz.prog 47 #[.int .i64 y] w fun e w' => e = .returned (.int .i64 k) ∧ w = w' := by
  subst hk; exact daysTo_any y h0 h1 w

theorem guess_le (n : Nat) : M.dTo (1970 + ((n / 366 : Nat) : Int)) ≤ n := by
  have := (M.dTo_lower (1970 + ((n / 366 : Nat) : Int)) (by omega)).2
  omega
set_option maxHeartbeats 1000000 in
theorem yearOf_any (n : Nat) (hn : n ≤ 3000000) (y : Int) (hy : M.dTo y ≤ n) (hy' : (n : Int) < M.dTo (y + 1)) (w : World) :
    Calls Tryz.prog 45 #[.int .i64 n] w fun e w' => e = .returned (.int .i64 y) ∧ w = w' := by
  have H1 := Lib.hid hy
  have H2 := Lib.hid hy'
  clear hy hy'
  go_enter Tryz.func45, Tryz.ntmps45
  go_wp2
  go_loop [3] (fun v => ∃ k : Int, v = .int .i64 k ∧ 1970 ≤ k ∧ M.dTo k ≤ n) (fun v => (20000 - intOf v).toNat)
  case atStart => exact ⟨1970 + ((n / 366 : Nat) : Int), by go_num, by omega, guess_le n⟩
  case round =>
    obtain ⟨k, rfl, hk0, hk⟩ := hrel
    have hk2 : k ≤ 11000 := by have := (M.dTo_lower k hk0).1; omega
    obtain ⟨d, hd⟩ : ∃ d, M.dTo (k + 1) = d := ⟨_, rfl⟩
    have HK := Lib.hid hk
    have HD := Lib.hid hd
    clear hk hd
    by_cases hlt : d ≤ n
    · go_wp2_with (go_at_call 47; refine (daysTo_is HD.out (by omega) (by omega) _).mono ?_; rintro e w1 ⟨rfl, rfl⟩)
      go_round
      case rel => exact ⟨k + 1, rfl, by omega, by rw [HD.out]; exact hlt⟩
      case measure => simp [intOf]; omega
    · go_wp2_with (go_at_call 47; refine (daysTo_is HD.out (by omega) (by omega) _).mono ?_; rintro e w1 ⟨rfl, rfl⟩)
      go_ret
      exact ⟨ret_int (M.year_uniq HK.out (by rw [HD.out]; omega) H1.out H2.out), rfl⟩

theorem ret_two {a b c d : Int} (h : a = c) (h' : b = d) : Ending.returned (.tuple #[.int .i64 a, .int .i64 b]) = .returned (.tuple #[.int .i64 c, .int .i64 d]) := by rw [h, h']
theorem days_is {y m k : Int} (hk : M.days y m = k) (w : World) : Calls Tryz.prog 67 #[.int .i64 y, .int .i64 m] w fun e w' => e = .returned (.int .i64 k) ∧ w = w' := by
  subst hk; exact days_any y m w
set_option maxHeartbeats 1000000 in
theorem monthOf_any (y : Int) (n : Int) (h0 : 0 ≤ n) (h1 : n < M.yd (M.leap y)) (m : Int) (m1 : 1 ≤ m) (m2 : m ≤ 12) (hm : M.cum (M.leap y) m ≤ n) (hm' : n < M.cum (M.leap y) m + M.dm (M.leap y) m) (w : World) :
    Calls Tryz.prog 46 #[.int .i64 y, .int .i64 n] w fun e w' => e = .returned (.tuple #[.int .i64 m, .int .i64 (n - M.cum (M.leap y) m + 1)]) ∧ w = w' := by
  have HM := Lib.hid (And.intro hm hm')
  have hn : n ≤ 366 := by have := M.yd_le (M.leap y); omega
  have HN := Lib.hid h1
  clear hm hm' h1
  go_enter Tryz.func46, Tryz.ntmps46
  go_wp2
  go_loop [1, 6] (fun v u => ∃ d k : Int, v = .int .i64 d ∧ u = .int .i64 k ∧ 1 ≤ k ∧ k ≤ 12 ∧ 0 ≤ d ∧ M.cum (M.leap y) k + d = n ∧ d ≤ n) (fun _ u => (13 - intOf u).toNat)
  case atStart => exact ⟨n, 1, rfl, rfl, by omega, by omega, h0, by rw [M.cum_one]; omega, by omega⟩
  case round =>
    obtain ⟨d, k, rfl, rfl, hk1, hk2, hd0, hk, hdn⟩ := hrel
    obtain ⟨x, hx⟩ : ∃ x, M.days y k = x := ⟨_, rfl⟩
    have hxb : 0 ≤ x ∧ x ≤ 31 := by rw [← hx]; exact M.dm_le _ _
    have HX := Lib.hid hx
    have HK := Lib.hid hk
    clear hx hk
    by_cases hlt : x ≤ d
    · go_wp2_with (go_at_call 67; refine (days_is HX.out _).mono ?_; rintro e w1 ⟨rfl, rfl⟩)
      go_round
      case rel =>
        have hs := M.cum_step (M.leap y) k hk1 hk2
        have hx := HX.out
        unfold M.days at hx
        have hk := HK.out
        refine ⟨d - x, k + 1, rfl, rfl, by omega, ?_, by omega, by rw [hs, hx]; omega, by omega⟩
        by_cases e : k = 12
        · exfalso
          subst e
          have := M.cum_last (M.leap y)
          have hN := HN.out
          rw [← this] at hN
          have : M.cum (M.leap y) 13 = M.cum (M.leap y) (12 + 1) := rfl
          omega
        · omega
      case measure => simp [intOf]; omega
    · go_wp2_with (go_at_call 67; refine (days_is HX.out _).mono ?_; rintro e w1 ⟨rfl, rfl⟩)
      go_ret2
      have hx := HX.out
      unfold M.days at hx
      have hk := HK.out
      have e : k = m := M.month_uniq (l := M.leap y) (d := n) hk1 hk2 m1 m2 (by omega) (by omega) HM.out.1 HM.out.2
      subst e
      exact ⟨ret_two rfl (by omega), rfl⟩
end Go.Proofs.YtjdccfegmllphaaGreatDoor
