/-
  What quota's between, amount, Fine, fileBlocks, Blocks and New do; the reference's Fine, Limits, Blocks.
-/
import Derived.Test.YtmoimijclafgcaaUmath
namespace Go.Proofs.Ytmoimijclafgcaa.U
open Go.RowKit Go.Shelf

set_option maxHeartbeats 1000000 in
theorem between_any (l n m : Int) (w : World) : Calls Try.prog 85 #[.int .i64 l, .int .i64 n, .int .i64 m] w fun e w' => e = .returned (.bool (btw l n m)) ∧ w = w' := by
  go_enter Try.func85, Try.ntmps85
  go_wp2
  all_goals go_ret
  all_goals refine ⟨ret_bool ?_, rfl⟩
  all_goals unfold btw
  all_goals simp
  all_goals omega

set_option maxHeartbeats 1000000 in
theorem amount_any (n : Int) (w : World) : Calls Try.prog 82 #[.int .i64 n] w fun e w' => e = .returned (.bool (amt n)) ∧ w = w' := by
  unfold amt
  have c1 := fun w => between_any (-1073741824) n 1073741824 w
  generalize btw _ _ _ = b at c1 ⊢
  go_enter Try.func82, Try.ntmps82
  go_wp2_with (refine (c1 _).mono ?_; rintro e w1 ⟨rfl, rfl⟩)
  go_ret
  exact ⟨rfl, rfl⟩

set_option maxHeartbeats 1000000 in
theorem Fine_any (q : Sp) (w : World) : Calls Try.prog 81 #[q.v] w fun e w' => e = .returned (.bool (fine q)) ∧ Below w.heap.size w w' := by
  obtain ⟨b, n, mb, mn⟩ := q
  have hf : fine ⟨b, n, mb, mn⟩ = (btw 0 b mb && (decide (mb ≤ 1073741824) && (btw 0 n mn && decide (mn ≤ 65536)))) := by
    unfold fine btw
    dsimp only
    rw [Bool.eq_iff_iff]; simp; omega
  rw [hf]
  clear hf
  dsimp only [Sp.v]
  have c1 := fun w => between_any 0 b mb w
  have c2 := fun w => between_any 0 n mn w
  obtain ⟨x, hx⟩ : ∃ x, btw 0 b mb = x := ⟨_, rfl⟩
  obtain ⟨y, hy⟩ : ∃ y, btw 0 n mn = y := ⟨_, rfl⟩
  rw [hx] at c1 ⊢
  rw [hy] at c2 ⊢
  clear hx hy
  go_enter Try.func81, Try.ntmps81
  have hc : x = false ∨ (x = true ∧ ¬ mb ≤ 1073741824) ∨ (x = true ∧ mb ≤ 1073741824 ∧ y = false) ∨ (x = true ∧ mb ≤ 1073741824 ∧ y = true ∧ ¬ mn ≤ 65536) ∨ (x = true ∧ mb ≤ 1073741824 ∧ y = true ∧ mn ≤ 65536) := by
    cases x <;> cases y <;> simp <;> omega
  rcases hc with rfl | ⟨rfl, h1⟩ | ⟨rfl, h1, rfl⟩ | ⟨rfl, h1, rfl, h2⟩ | ⟨rfl, h1, rfl, h2⟩
  all_goals go_wp2_with (first | (refine (c1 _).mono ?_; clear c1; rintro e w1 ⟨rfl, rfl⟩) | (refine (c2 _).mono ?_; rintro e w1 ⟨rfl, rfl⟩))
  all_goals go_ret
  all_goals refine ⟨ret_bool (by first | (simp [*]; done) | (simp [*]; intros; omega)), ?_⟩
  all_goals go_grown

set_option maxHeartbeats 1000000 in
theorem refFine_any (q : Sp) (w : World) : Calls Try.prog 68 #[q.v] w fun e w' => e = .returned (.bool (fine q)) ∧ Below w.heap.size w w' := by
  obtain ⟨b, n, mb, mn⟩ := q
  dsimp only [Sp.v]
  unfold fine
  dsimp only
  go_enter Try.func68, Try.ntmps68
  have hc : ¬ 0 ≤ b ∨ (0 ≤ b ∧ ¬ 0 ≤ n) ∨ (0 ≤ b ∧ 0 ≤ n ∧ ¬ b ≤ mb) ∨ (0 ≤ b ∧ 0 ≤ n ∧ b ≤ mb ∧ ¬ n ≤ mn) ∨ (0 ≤ b ∧ 0 ≤ n ∧ b ≤ mb ∧ n ≤ mn ∧ ¬ mb ≤ 1073741824) ∨ (0 ≤ b ∧ 0 ≤ n ∧ b ≤ mb ∧ n ≤ mn ∧ mb ≤ 1073741824 ∧ ¬ mn ≤ 65536) ∨ (0 ≤ b ∧ 0 ≤ n ∧ b ≤ mb ∧ n ≤ mn ∧ mb ≤ 1073741824 ∧ mn ≤ 65536) := by omega
  rcases hc with h1 | ⟨h1, h2⟩ | ⟨h1, h2, h3⟩ | ⟨h1, h2, h3, h4⟩ | ⟨h1, h2, h3, h4, h5⟩ | ⟨h1, h2, h3, h4, h5, h6⟩ | ⟨h1, h2, h3, h4, h5, h6⟩
  all_goals go_wp2
  all_goals go_ret
  all_goals refine ⟨ret_bool (by first | (simp [*]; done) | (simp [*]; intros; omega)), ?_⟩
  all_goals go_grown

set_option maxHeartbeats 1000000 in
theorem fileBlocks_any (s : Int) (hs : s ≤ 9223372036854775807) (w : World) : Calls Try.prog 83 #[.int .i64 s] w fun e w' => e = .returned (.int .i64 (if s < 1 then 0 else (s - 1) / 512 + 1)) ∧ w = w' := by
  by_cases h : s < 1
  · rw [if_pos h]
    go_enter Try.func83, Try.ntmps83
    go_wp2
    go_ret
    exact ⟨rfl, rfl⟩
  · rw [if_neg h]
    go_enter Try.func83, Try.ntmps83
    go_wp2
    go_ret
    exact ⟨rfl, rfl⟩

set_option maxHeartbeats 1000000 in
theorem Blocks_any (k s : Int) (hs : s ≤ 9223372036854775807) (w : World) : Calls Try.prog 66 #[.int .i64 k, .int .i64 s] w fun e w' => e = .returned (.int .i64 (blk k s)) ∧ w = w' := by
  have c1 := fun w => fileBlocks_any s hs w
  unfold blk
  generalize (if s < 1 then 0 else (s - 1) / 512 + 1) = r at c1 ⊢
  by_cases h1 : k = 1
  · rw [if_pos h1]
    have h2 : ¬ k = 2 := by omega
    go_enter Try.func66, Try.ntmps66
    go_wp2
    go_ret
    exact ⟨rfl, rfl⟩
  · rw [if_neg h1]
    by_cases h2 : k = 2
    · rw [if_pos h2]
      go_enter Try.func66, Try.ntmps66
      go_wp2_with (refine (c1 _).mono ?_; rintro e w1 ⟨rfl, rfl⟩)
      go_ret
      exact ⟨rfl, rfl⟩
    · rw [if_neg h2]
      go_enter Try.func66, Try.ntmps66
      go_wp2
      go_ret
      exact ⟨rfl, rfl⟩

set_option maxHeartbeats 1000000 in
theorem Limits_any (x y : Int) (w : World) : Calls Try.prog 39 #[.int .i64 x, .int .i64 y] w fun e w' => e = .returned (.bool (btw 1 x 1073741824 && btw 1 y 65536)) ∧ w = w' := by
  unfold btw
  have hc : ¬ 1 ≤ x ∨ (1 ≤ x ∧ ¬ x ≤ 1073741824) ∨ (1 ≤ x ∧ x ≤ 1073741824 ∧ ¬ 1 ≤ y) ∨ (1 ≤ x ∧ x ≤ 1073741824 ∧ 1 ≤ y ∧ ¬ y ≤ 65536) ∨ (1 ≤ x ∧ x ≤ 1073741824 ∧ 1 ≤ y ∧ y ≤ 65536) := by omega
  go_enter Try.func39, Try.ntmps39
  rcases hc with h1 | ⟨h1, h2⟩ | ⟨h1, h2, h3⟩ | ⟨h1, h2, h3, h4⟩ | ⟨h1, h2, h3, h4⟩
  all_goals go_wp2
  all_goals go_ret
  all_goals refine ⟨ret_bool (by first | (simp [*]; done) | (simp [*]; intros; omega)), rfl⟩
end Go.Proofs.Ytmoimijclafgcaa.U
