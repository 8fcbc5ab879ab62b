/-
  What the reference's Take does where what is asked may be asked.
-/
import Derived.Test.YtmoimijclafgcaaUtake
namespace Go.Proofs.Ytmoimijclafgcaa.U
open Go.RowKit Go.Shelf

set_option maxHeartbeats 4000000 in
theorem refTake_yes (q : Sp) (x y : Int) (h1 : fine q = true) (h2 : amt x = true) (h3 : amt y = true) (w : World) : Calls Try.prog 32 #[q.v, .int .i64 x, .int .i64 y] w fun e w' => e = .returned (.tuple #[(took q x y).1.v, .int .i64 (took q x y).2]) ∧ Below w.heap.size w w' := by
  have c0 := fun w => refFine_any q w
  rw [took_yes h1 h2 h3]
  rw [h1] at c0
  rw [fine_iff] at h1
  rw [amt_iff] at h2
  rw [amt_iff] at h3
  have kp := Two.new w q 53 53
  obtain ⟨qb, qn, qm, qk⟩ := q
  dsimp only [Sp.v] at *
  obtain ⟨d1, d2, d3, d4, d5, d6⟩ := h1
  obtain ⟨d7, d8⟩ := h2
  obtain ⟨d9, d0⟩ := h3
  have t1 : ¬ 1073741824 < x := by omega
  have t2 : ¬ x < -1073741824 := by omega
  have t3 : ¬ 1073741824 < y := by omega
  have t4 : ¬ y < -1073741824 := by omega
  go_enter Try.func32, Try.ntmps32
  by_cases r1 : qk < qn + y
  · rw [if_pos r1]
    go_wp2_with (go_at_call 68; refine (c0 _).mono ?_; rintro e w1 ⟨rfl, b1⟩; have kp := kp.next b1; have l1 := kp.lt; have l0 := kp.own.lt; obtain ⟨k0, k1, k2, k3⟩ := kp.own; obtain ⟨a0, a1, a2, a3⟩ := kp.ans; obtain ⟨f0, f1, f2, f3⟩ := kp.fr)
    generalize hW : World.setCell _ _ _ = W
    obtain ⟨hB4, hB⟩ := Box4.put (q := ⟨0, 0, 0, 0⟩) ⟨a0, a1, a2, a3⟩ hW
    obtain ⟨g0, g1, g2, g3⟩ := hB4.alloc (.cells #[.int .i64 (qb + x), .int .i64 (qn + y), .int .i64 qm, .int .i64 qk] 53)
    refine bodyPost_ret (by simp [results, Try.results32, go_sem, g0, g1, g2, g3]; rfl) rfl ?_
    have hz := kp.bel.trans (hB _ (Nat.le_succ _))
    exact ⟨rfl, hz.alloc hz.size _⟩
  · rw [if_neg r1]
    by_cases r2 : qm < qb + x
    · rw [if_pos r2]
      go_wp2_with (go_at_call 68; refine (c0 _).mono ?_; rintro e w1 ⟨rfl, b1⟩; have kp := kp.next b1; have l1 := kp.lt; have l0 := kp.own.lt; obtain ⟨k0, k1, k2, k3⟩ := kp.own; obtain ⟨a0, a1, a2, a3⟩ := kp.ans; obtain ⟨f0, f1, f2, f3⟩ := kp.fr)
      generalize hW : World.setCell _ _ _ = W
      obtain ⟨hB4, hB⟩ := Box4.put (q := ⟨0, 0, 0, 0⟩) ⟨a0, a1, a2, a3⟩ hW
      obtain ⟨g0, g1, g2, g3⟩ := hB4.alloc (.cells #[.int .i64 (qb + x), .int .i64 (qn + y), .int .i64 qm, .int .i64 qk] 53)
      refine bodyPost_ret (by simp [results, Try.results32, go_sem, g0, g1, g2, g3]; rfl) rfl ?_
      have hz := kp.bel.trans (hB _ (Nat.le_succ _))
      exact ⟨rfl, hz.alloc hz.size _⟩
    · rw [if_neg r2]
      by_cases r4 : qn + y < 0
      · rw [if_pos (.inr r4)]
        go_wp2_with (go_at_call 68; refine (c0 _).mono ?_; rintro e w1 ⟨rfl, b1⟩; have kp := kp.next b1; have l1 := kp.lt; have l0 := kp.own.lt; obtain ⟨k0, k1, k2, k3⟩ := kp.own; obtain ⟨a0, a1, a2, a3⟩ := kp.ans; obtain ⟨f0, f1, f2, f3⟩ := kp.fr)
        generalize hW : World.setCell _ _ _ = W
        obtain ⟨hB4, hB⟩ := Box4.put (q := ⟨0, 0, 0, 0⟩) ⟨a0, a1, a2, a3⟩ hW
        obtain ⟨g0, g1, g2, g3⟩ := hB4.alloc (.cells #[.int .i64 (qb + x), .int .i64 (qn + y), .int .i64 qm, .int .i64 qk] 53)
        refine bodyPost_ret (by simp [results, Try.results32, go_sem, g0, g1, g2, g3]; rfl) rfl ?_
        have hz := kp.bel.trans (hB _ (Nat.le_succ _))
        exact ⟨rfl, hz.alloc hz.size _⟩
      · by_cases r3 : qb + x < 0
        · rw [if_pos (.inl r3)]
          go_wp2_with (go_at_call 68; refine (c0 _).mono ?_; rintro e w1 ⟨rfl, b1⟩; have kp := kp.next b1; have l1 := kp.lt; have l0 := kp.own.lt; obtain ⟨k0, k1, k2, k3⟩ := kp.own; obtain ⟨a0, a1, a2, a3⟩ := kp.ans; obtain ⟨f0, f1, f2, f3⟩ := kp.fr)
          generalize hW : World.setCell _ _ _ = W
          obtain ⟨hB4, hB⟩ := Box4.put (q := ⟨0, 0, 0, 0⟩) ⟨a0, a1, a2, a3⟩ hW
          obtain ⟨g0, g1, g2, g3⟩ := hB4.alloc (.cells #[.int .i64 (qb + x), .int .i64 (qn + y), .int .i64 qm, .int .i64 qk] 53)
          refine bodyPost_ret (by simp [results, Try.results32, go_sem, g0, g1, g2, g3]; rfl) rfl ?_
          have hz := kp.bel.trans (hB _ (Nat.le_succ _))
          exact ⟨rfl, hz.alloc hz.size _⟩
        · rw [if_neg (by omega)]
          go_wp2_with (go_at_call 68; refine (c0 _).mono ?_; rintro e w1 ⟨rfl, b1⟩; have kp := kp.next b1; have l1 := kp.lt; have l0 := kp.own.lt; obtain ⟨k0, k1, k2, k3⟩ := kp.own; obtain ⟨a0, a1, a2, a3⟩ := kp.ans; obtain ⟨f0, f1, f2, f3⟩ := kp.fr)
          generalize hW : World.setCell _ _ _ = W
          obtain ⟨hB4, hB⟩ := Box4.put (q := ⟨0, 0, 0, 0⟩) ⟨a0, a1, a2, a3⟩ hW
          obtain ⟨g0, g1, g2, g3⟩ := hB4.alloc (.cells #[.int .i64 (qb + x), .int .i64 (qn + y), .int .i64 qm, .int .i64 qk] 53)
          refine bodyPost_ret (by simp [results, Try.results32, go_sem, g0, g1, g2, g3]; rfl) rfl ?_
          have hz := kp.bel.trans (hB _ (Nat.le_succ _))
          exact ⟨rfl, hz.alloc hz.size _⟩
end Go.Proofs.Ytmoimijclafgcaa.U
