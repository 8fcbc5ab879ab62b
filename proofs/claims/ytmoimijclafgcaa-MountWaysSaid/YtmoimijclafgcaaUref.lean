/-
  What the reference's Take and Blocks do.
-/
import Derived.Test.YtmoimijclafgcaaUtake
namespace Go.Proofs.Ytmoimijclafgcaa.U
open Go.RowKit Go.Shelf

set_option maxHeartbeats 4000000 in
theorem refTake_no (q : Sp) (x y : Int) (hn : fine q = false ∨ amt x = false ∨ amt y = false) (w : World) : Calls Try.prog 32 #[q.v, .int .i64 x, .int .i64 y] w fun e w' => e = .returned (.tuple #[q.v, .int .i64 1]) ∧ Below w.heap.size w w' := by
  have c0 := fun w => refFine_any q w
  have hc : fine q = false ∨ (fine q = true ∧ (1073741824 < x ∨ (¬ 1073741824 < x ∧ (x < -1073741824 ∨ (¬ x < -1073741824 ∧ (1073741824 < y ∨ (¬ 1073741824 < y ∧ y < -1073741824))))))) := by
    cases hf : fine q
    · exact .inl rfl
    · refine .inr ⟨rfl, ?_⟩
      rcases hn with h | h | h
      · rw [hf] at h; cases h
      · have h' : ¬ amt x = true := by rw [h]; decide
        rw [amt_iff] at h'; omega
      · have h' : ¬ amt y = true := by rw [h]; decide
        rw [amt_iff] at h'; omega
  clear hn
  obtain ⟨f, hf⟩ : ∃ f, fine q = f := ⟨_, rfl⟩
  rw [hf] at c0 hc
  clear hf
  have kp := Two.new w q 53 53
  obtain ⟨qb, qn, qm, qk⟩ := q
  dsimp only [Sp.v] at *
  go_enter Try.func32, Try.ntmps32
  rcases hc with rfl | ⟨rfl, h | ⟨h1, h | ⟨h2, h | ⟨h3, h⟩⟩⟩⟩
  all_goals
    go_wp2_with (go_at_call 68; refine (c0 _).mono ?_; rintro e w1 ⟨rfl, b1⟩; have kp := kp.next b1; have l1 := kp.lt; have l0 := kp.own.lt; obtain ⟨k0, k1, k2, k3⟩ := kp.own; obtain ⟨a0, a1, a2, a3⟩ := kp.ans; obtain ⟨f0, f1, f2, f3⟩ := kp.fr)
    generalize hW : World.setCell _ _ _ = W
    obtain ⟨⟨g0, g1, g2, g3⟩, hB⟩ := Box4.put (q := ⟨0, 0, 0, 0⟩) ⟨a0, a1, a2, a3⟩ hW
    refine bodyPost_ret (by simp [results, Try.results32, go_sem, g0, g1, g2, g3]; rfl) rfl ?_
    exact ⟨rfl, kp.bel.trans (hB _ (Nat.le_succ _))⟩
end Go.Proofs.Ytmoimijclafgcaa.U
