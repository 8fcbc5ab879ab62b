/-
  What the reference's Blocks does; the example at the end of each law of package quota is true.
-/
import Derived.Test.YtmoimijclafgcaaUtak2
import Derived.Test.YtmoimijclafgcaaUref
import Derived.Test.YtmoimijclafgcaaUref2
namespace Go.Proofs.Ytmoimijclafgcaa.U
open Go.RowKit Go.Shelf

theorem Take_any (q : Sp) (x y : Int) (w : World) : Calls Try.prog 65 #[q.v, .int .i64 x, .int .i64 y] w fun e w' => e = .returned (.tuple #[(took q x y).1.v, .int .i64 (took q x y).2]) ∧ Below w.heap.size w w' := by
  by_cases h : fine q = true ∧ amt x = true ∧ amt y = true
  · exact Take_yes q x y h.1 h.2.1 h.2.2 w
  · have hn : fine q = false ∨ amt x = false ∨ amt y = false := by
      cases h1 : fine q <;> cases h2 : amt x <;> cases h3 : amt y <;> simp_all
    rw [took_no x y hn]
    exact Take_no q x y hn w
theorem refTake_any (q : Sp) (x y : Int) (w : World) : Calls Try.prog 32 #[q.v, .int .i64 x, .int .i64 y] w fun e w' => e = .returned (.tuple #[(took q x y).1.v, .int .i64 (took q x y).2]) ∧ Below w.heap.size w w' := by
  by_cases h : fine q = true ∧ amt x = true ∧ amt y = true
  · exact refTake_yes q x y h.1 h.2.1 h.2.2 w
  · have hn : fine q = false ∨ amt x = false ∨ amt y = false := by
      cases h1 : fine q <;> cases h2 : amt x <;> cases h3 : amt y <;> simp_all
    rw [took_no x y hn]
    exact refTake_no q x y hn w

set_option maxHeartbeats 1000000 in
theorem refBlocks_any (k s : Int) (hs : s ≤ 2000000) (w : World) : Calls Try.prog 33 #[.int .i64 k, .int .i64 s] w fun e w' => e = .returned (.int .i64 (blk k s)) ∧ w = w' := by
  unfold blk
  by_cases h1 : k = 1
  · rw [if_pos h1]
    go_enter Try.func33, Try.ntmps33
    go_wp2
    go_ret
    exact ⟨rfl, rfl⟩
  · rw [if_neg h1]
    by_cases h2 : k = 2
    · rw [if_pos h2]
      obtain ⟨r, hr⟩ : ∃ r, (if s < 1 then 0 else (s - 1) / 512 + 1) = r := ⟨_, rfl⟩
      rw [hr]
      have HR := Lib.hid hr
      clear hr
      go_enter Try.func33, Try.ntmps33
      go_wp2
      go_loop [5] (fun v => ∃ i : Int, v = .int .i64 i ∧ 0 ≤ i ∧ (i = 0 ∨ 512 * (i - 1) < s)) (fun v => (10000 - intOf v).toNat)
      case atStart => exact ⟨0, rfl, by omega, .inl rfl⟩
      case round =>
        obtain ⟨i, rfl, hi0, hi⟩ := hrel
        have hi2 : i ≤ 5000 := by omega
        by_cases hlt : 512 * i < s
        · go_wp2
          go_round
          case rel => exact ⟨i + 1, rfl, by omega, .inr (by omega)⟩
          case measure => simp [intOf]; omega
        · go_wp2
          go_ret
          refine ⟨?_, rfl⟩
          have e : i = r := by
            have hr := HR.out
            split at hr <;> omega
          rw [← e]
          rfl
    · rw [if_neg h2]
      go_enter Try.func33, Try.ntmps33
      go_wp2
      go_loop [5] (fun v => v = .int .i64 0) (fun _ => 0)
      case atStart => rfl
      case round =>
        subst hrel
        go_wp2
        go_ret
        exact ⟨rfl, rfl⟩

end Go.Proofs.Ytmoimijclafgcaa.U
