/-
  What date.Seconds does.
-/
import Derived.Test.YtjdccfegmllphaaGreatDoorDval
namespace Go.Proofs.YtjdccfegmllphaaGreatDoor
open Go.RowKit Go.Shelf

theorem valid_is {y m d h i s : Int} {b : Bool} (hb : ok y m d h i s = b) (w : World) :
    Calls Tryz.prog 66 #[.agg #[.int .i64 y, .int .i64 m, .int .i64 d, .int .i64 h, .int .i64 i, .int .i64 s]] w fun e w' => e = .returned (.bool b) ∧ Below w.heap.size w w' := by
  subst hb; exact valid_any y m d h i s w
theorem ok_true {y m d h i s : Int} (v : M.Valid y m d h i s) : ok y m d h i s = true := by unfold ok; simpa using v
theorem ok_false {y m d h i s : Int} (v : ¬ M.Valid y m d h i s) : ok y m d h i s = false := by unfold ok; simpa using v
set_option maxHeartbeats 1000000 in
theorem seconds_form {y m d h i s : Int} (v : ¬ M.Valid y m d h i s) (w : World) :
    Calls Tryz.prog 39 #[six y m d h i s] w fun e w' => e = .returned (.tuple #[.int .i64 0, .int .i64 2]) ∧ Below w.heap.size w w' := by
  have HV := Lib.hid (ok_false v)
  unfold six
  go_enter Tryz.func39, Tryz.ntmps39
  go_wp2_with fail
  refine (valid_is HV.out _).mono ?_
  rintro e w1 ⟨rfl, hb⟩
  go_wp2
  go_ret2
  exact ⟨rfl, ((Below.refl _ w).alloc (Nat.le_refl _) _).trans (hb.mono (by simp))⟩
/-- the six cells of a box -/
def Six (b : Nat) (y m d h i s : Int) (w : World) : Prop :=
  w.cell? ⟨b, 0, none⟩ = some (.int .i64 y) ∧ w.cell? ⟨b, 1, none⟩ = some (.int .i64 m) ∧ w.cell? ⟨b, 2, none⟩ = some (.int .i64 d) ∧
  w.cell? ⟨b, 3, none⟩ = some (.int .i64 h) ∧ w.cell? ⟨b, 4, none⟩ = some (.int .i64 i) ∧ w.cell? ⟨b, 5, none⟩ = some (.int .i64 s)
theorem Six.new (w : World) (t : TypeId) (y m d h i s : Int) : Six w.heap.size y m d h i s (w.alloc (.cells #[.int .i64 y, .int .i64 m, .int .i64 d, .int .i64 h, .int .i64 i, .int .i64 s] t)) := by
  refine ⟨?_, ?_, ?_, ?_, ?_, ?_⟩ <;> rw [World.cell?_alloc_new] <;> rfl
theorem Six.later {b n : Nat} {y m d h i s : Int} {w w' : World} (c : Six b y m d h i s w) (hb : Below n w w') (hn : b < n) : Six b y m d h i s w' := by
  obtain ⟨c0, c1, c2, c3, c4, c5⟩ := c
  refine ⟨?_, ?_, ?_, ?_, ?_, ?_⟩ <;> rw [hb.cell (by exact hn)] <;> assumption
set_option maxHeartbeats 1000000 in
theorem seconds_range {y m d h i s : Int} (v : M.Valid y m d h i s) (hy : y < 1970) (w : World) :
    Calls Tryz.prog 39 #[six y m d h i s] w fun e w' => e = .returned (.tuple #[.int .i64 0, .int .i64 3]) ∧ Below w.heap.size w w' := by
  have HV := Lib.hid (ok_true v)
  unfold six
  go_enter Tryz.func39, Tryz.ntmps39
  go_wp2_with fail
  refine (valid_is HV.out _).mono ?_
  rintro e w1 ⟨rfl, hb⟩
  obtain ⟨c0, c1, c2, c3, c4, c5⟩ := (Six.new w 58 y m d h i s).later hb (by simp)
  go_wp2
  go_ret2
  exact ⟨rfl, ((Below.refl _ w).alloc (Nat.le_refl _) _).trans (hb.mono (by simp))⟩
theorem daysTo_q {y k : Int} (hk : M.dTo y = k) (h0 : 1 ≤ y) (h1 : y ≤ 100000) (w : World) : Calls Tryz.prog 47 #[.int .i64 y] w fun e w' => e = .returned (.int .i64 k) ∧ w' = w :=
  (daysTo_is hk h0 h1 w).mono fun _ _ ⟨he, hw⟩ => ⟨he, hw.symm⟩
theorem cum_le (l : Bool) (m : Int) (h1 : 1 ≤ m) (h2 : m ≤ 12) : 0 ≤ M.cum l m ∧ M.cum l m ≤ 366 := by
  rcases twelve h1 h2 with h | h | h | h | h | h | h | h | h | h | h | h <;> subst h <;> cases l <;> decide
theorem Six.drewN {b n : Nat} {y m d h i s : Int} {w : World} (c : Six b y m d h i s w) : Six b y m d h i s (w.drewN n) := by
  obtain ⟨c0, c1, c2, c3, c4, c5⟩ := c
  refine ⟨?_, ?_, ?_, ?_, ?_, ?_⟩ <;> rw [World.cell?_drewN] <;> assumption
set_option maxHeartbeats 1000000 in
theorem seconds_good {y m d h i s : Int} (v : M.Valid y m d h i s) (hy : 1970 ≤ y) (w : World) :
    Calls Tryz.prog 39 #[six y m d h i s] w fun e w' => e = .returned (.tuple #[.int .i64 (M.secs y m d h i s), .int .i64 0]) ∧ Below w.heap.size w w' := by
  have HV := Lib.hid (ok_true v)
  have hd31 := v.dm31
  have hlo := M.dTo_lower y hy
  have hvv := v
  cases hvv with | mk y0 y1 m0 m1 d0 d1 h0 h1 i0 i1 s0 s1 =>
  obtain ⟨D, hD⟩ : ∃ D, M.dTo y = D := ⟨_, rfl⟩
  rw [hD] at hlo
  have HD := Lib.hid hD
  have hny : ¬ y < 1970 := by omega
  have hya : 1 ≤ y := by omega
  have hyb : y ≤ 100000 := by omega
  clear hD d1
  unfold six
  go_enter Tryz.func39, Tryz.ntmps39
  go_wp2_with fail
  refine (valid_is HV.out _).mono ?_
  rintro e w1 ⟨rfl, hb⟩
  have S := (Six.new w 58 y m d h i s).later hb (by simp)
  have hb' : Below w.heap.size w w1 := ((Below.refl _ w).alloc (Nat.le_refl _) _).trans (hb.mono (by simp))
  have hsz : w.heap.size < w1.heap.size := by have := hb.size; simp at this; omega
  clear hb
  obtain ⟨c0, c1, c2, c3, c4, c5⟩ := id S
  go_wp2_with fail
  go_quiet (first | (go_at_call 47; exact Calls.quiet_of_same (daysTo_q HD.out hya hyb _)))
  have hb2 := below_drewN hb' nq
  have S2 := S.drewN (n := nq)
  clear S hb' c0 c1 c2 c3 c4 c5
  generalize w1.drewN nq = W at *
  obtain ⟨c0, c1, c2, c3, c4, c5⟩ := S2
  go_wp2_with fail
  go_loop [4, 5] (fun n k => ∃ a b : Int, n = .int .i64 a ∧ k = .int .i64 b ∧ 1 ≤ b ∧ b ≤ m ∧ a = D + d - 1 + M.cum (M.leap y) b) (fun _ k => (13 - intOf k).toNat)
  case atStart => exact ⟨_, 1, rfl, rfl, by omega, by omega, by rw [M.cum_one]; omega⟩
  case round =>
    obtain ⟨a, b, rfl, rfl, hb1, hbm, ha⟩ := hrel
    have hcb := cum_le (M.leap y) b hb1 (by omega)
    have ha0 : 0 ≤ a := by omega
    have ha1 : a ≤ 4000000 := by omega
    have HA := Lib.hid ha
    clear ha hcb
    by_cases hlt : b < m
    · obtain ⟨x, hx⟩ : ∃ x, M.days y b = x := ⟨_, rfl⟩
      have hxb : 0 ≤ x ∧ x ≤ 31 := by rw [← hx]; exact M.dm_le _ _
      have HX := Lib.hid hx
      clear hx
      go_wp2_with (go_at_call 67; refine (days_is HX.out _).mono ?_; rintro e w2 ⟨rfl, rfl⟩)
      go_round
      case rel =>
        have hs := M.cum_step (M.leap y) b hb1 (by omega)
        have hx := HX.out
        unfold M.days at hx
        exact ⟨_, b + 1, rfl, rfl, by omega, by omega, by rw [HA.out, hs, hx]; omega⟩
      case measure => simp [intOf]; omega
    · have hbm2 : b = m := by omega
      subst hbm2
      go_wp2
      go_ret2
      refine ⟨ret_two ?_ rfl, hb2⟩
      unfold M.secs M.dayOf
      rw [HA.out, HD.out]
      omega
end Go.Proofs.YtjdccfegmllphaaGreatDoor
