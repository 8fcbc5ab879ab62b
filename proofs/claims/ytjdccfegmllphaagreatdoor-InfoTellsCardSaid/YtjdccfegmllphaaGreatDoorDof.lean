/-
  What date.Of and date.valid do.
-/
import Derived.Test.YtjdccfegmllphaaGreatDoorDyear
import Derived.Handy
namespace Go.Proofs.YtjdccfegmllphaaGreatDoor
open Go.RowKit Go.Shelf

/-- a date as the program holds it, and as the reference does -/
def six (y m d h i s : Int) : Value := .agg #[.int .i64 y, .int .i64 m, .int .i64 d, .int .i64 h, .int .i64 i, .int .i64 s]

set_option maxHeartbeats 1000000 in
theorem of_bad (x : Int) (hx : x < 0 ∨ 253402300799 < x) (w : World) :
    Calls Tryz.prog 25 #[.int .i64 x] w fun e w' => e = .returned (.tuple #[six 0 0 0 0 0 0, .int .i64 3]) ∧ Below w.heap.size w w' := by
  unfold six
  rcases hx with hx | hx
  · go_enter Tryz.func25, Tryz.ntmps25
    go_wp2
    go_returns
    exact ⟨rfl, (Below.refl _ w).alloc (Nat.le_refl _) _⟩
  · have h0 : ¬ x < 0 := by omega
    go_enter Tryz.func25, Tryz.ntmps25
    go_wp2
    go_returns
    exact ⟨rfl, (Below.refl _ w).alloc (Nat.le_refl _) _⟩
theorem yearOf_is {n k : Nat} (hk : n = k) (hn : n ≤ 3000000) {y : Int} (hy : M.dTo y ≤ n) (hy' : (n : Int) < M.dTo (y + 1)) (w : World) :
    Calls Tryz.prog 45 #[.int .i64 k] w fun e w' => e = .returned (.int .i64 y) ∧ w = w' := by subst hk; exact yearOf_any n hn y hy hy' w
theorem monthOf_is {y n m d : Int} (h0 : 0 ≤ n) (h1 : n < M.yd (M.leap y)) (m1 : 1 ≤ m) (m2 : m ≤ 12) (hm : M.cum (M.leap y) m ≤ n) (hm' : n < M.cum (M.leap y) m + M.dm (M.leap y) m) (hd : n - M.cum (M.leap y) m + 1 = d) (w : World) :
    Calls Tryz.prog 46 #[.int .i64 y, .int .i64 n] w fun e w' => e = .returned (.tuple #[.int .i64 m, .int .i64 d]) ∧ w = w' := by
  subst hd; exact monthOf_any y n h0 h1 m m1 m2 hm hm' w
theorem ret_six {y m d h i s y' m' d' h' i' s' f : Int} (e1 : y = y') (e2 : m = m') (e3 : d = d') (e4 : h = h') (e5 : i = i') (e6 : s = s') :
    Ending.returned (.tuple #[.agg #[.int .i64 y, .int .i64 m, .int .i64 d, .int .i64 h, .int .i64 i, .int .i64 s], .int .i64 f]) = .returned (.tuple #[six y' m' d' h' i' s', .int .i64 f]) := by
  subst e1 e2 e3 e4 e5 e6; rfl
set_option maxHeartbeats 1000000 in
theorem of_good (n : Nat) {y m d h i s : Int} (c : M.Cv n y m d h i s) (w : World) :
    Calls Tryz.prog 25 #[.int .i64 n] w fun e w' => e = .returned (.tuple #[six y m d h i s, .int .i64 0]) ∧ Below w.heap.size w w' := by
  have hr := c.range
  have he := c.day
  have hy := c.ok.year
  have hlo := M.dTo_lower y c.late
  have hy1 := c.ok.y1
  have hy0 := c.late
  obtain ⟨D, hD⟩ : ∃ D, M.dTo y = D := ⟨_, rfl⟩
  have hn : ((n / 86400 : Nat) : Int) = M.dayOf y m d := by omega
  have hn2 : n / 86400 ≤ 3000000 := by omega
  have H1 : Hid (M.dTo y ≤ (n / 86400 : Nat) ∧ ((n / 86400 : Nat) : Int) < M.dTo (y + 1)) := ⟨by omega, by omega⟩
  have hs := M.dTo_step y
  have H2 : Hid (((n / 86400 : Nat) : Int) - D < M.yd (M.leap y)) := by show _ < _; omega
  have H3 : Hid (M.cum (M.leap y) m ≤ ((n / 86400 : Nat) : Int) - D ∧ ((n / 86400 : Nat) : Int) - D < M.cum (M.leap y) m + M.dm (M.leap y) m) := ⟨by omega, by omega⟩
  have H4 : Hid (((n / 86400 : Nat) : Int) - D - M.cum (M.leap y) m + 1 = d) := by show _ = _; rw [hn, ← hD]; unfold M.dayOf; omega
  have hDb : 0 ≤ D ∧ D ≤ ((n / 86400 : Nat) : Int) := by omega
  have HD := Lib.hid hD
  have hx0 : ¬ ((n : Int) < 0) := by omega
  have hx1 : ¬ ((253402300799 : Int) < n) := by omega
  have HC := Lib.hid c
  clear hr he hy hlo hs hn hD c
  unfold six
  go_enter Tryz.func25, Tryz.ntmps25
  go_wp2_with fail
  refine (yearOf_is rfl hn2 H1.out.1 H1.out.2 _).mono ?_
  rintro e w1 ⟨rfl, rfl⟩
  go_wp2_with fail
  refine (daysTo_is HD.out (by omega) (by omega) _).mono ?_
  rintro e w1 ⟨rfl, rfl⟩
  go_wp2_with fail
  refine (monthOf_is (by omega) H2.out HC.out.ok.m0 HC.out.ok.m1 H3.out.1 H3.out.2 H4.out _).mono ?_
  rintro e w1 ⟨rfl, rfl⟩
  go_wp2
  go_returns
  have he := HC.out.day
  have hv := HC.out.ok
  cases hv
  refine ⟨ret_six rfl rfl rfl ?_ ?_ ?_, ?_⟩
  · omega
  · omega
  · omega
  · go_grown
end Go.Proofs.YtjdccfegmllphaaGreatDoor
