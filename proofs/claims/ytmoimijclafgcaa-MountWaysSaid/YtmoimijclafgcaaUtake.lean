/-
  What quota's New and Take do, and the reference's Take.
-/
import Derived.Test.YtmoimijclafgcaaUbase
namespace Go.Proofs.Ytmoimijclafgcaa.U
open Go.RowKit Go.Shelf

theorem took_no {q : Sp} (x y : Int) (h : fine q = false ∨ amt x = false ∨ amt y = false) : took q x y = (q, 1) := by
  unfold took
  rw [if_neg]
  rintro ⟨a, b, c⟩
  rw [a, b, c] at h
  simp at h
theorem took_yes {q : Sp} {x y : Int} (h1 : fine q = true) (h2 : amt x = true) (h3 : amt y = true) :
    took q x y = if q.mn < q.n + y then (q, 15) else if q.mb < q.b + x then (q, 14) else if q.b + x < 0 ∨ q.n + y < 0 then (q, 1) else (⟨q.b + x, q.n + y, q.mb, q.mn⟩, 0) := by
  unfold took
  rw [if_pos ⟨h1, h2, h3⟩]
theorem fresh_no {x y : Int} (h : btw 1 x 1073741824 = false ∨ btw 1 y 65536 = false) : fresh x y = (⟨0, 0, 0, 0⟩, 3) := by
  unfold fresh
  rw [if_neg]
  rintro ⟨a, b⟩
  rw [a, b] at h
  simp at h
theorem fresh_yes {x y : Int} (h1 : btw 1 x 1073741824 = true) (h2 : btw 1 y 65536 = true) : fresh x y = (⟨0, 0, x, y⟩, 0) := by
  unfold fresh
  rw [if_pos ⟨h1, h2⟩]

set_option maxHeartbeats 2000000 in
theorem New_any (x y : Int) (w : World) : Calls Try.prog 70 #[.int .i64 x, .int .i64 y] w fun e w' => e = .returned (.tuple #[(fresh x y).1.v, .int .i64 (fresh x y).2]) ∧ Below w.heap.size w w' := by
  have c1 := fun w => between_any 1 x 1073741824 w
  have c2 := fun w => between_any 1 y 65536 w
  cases ha : btw 1 x 1073741824 with
  | false =>
    rw [fresh_no (.inl ha)]
    rw [ha] at c1
    clear ha
    dsimp only [Sp.v]
    go_enter Try.func70, Try.ntmps70
    go_wp2_with (refine (c1 _).mono ?_; rintro e w1 ⟨rfl, rfl⟩)
    go_returns
    exact ⟨rfl, (Below.refl _ w).alloc (Nat.le_refl _) _⟩
  | true =>
    rw [ha] at c1
    cases hb : btw 1 y 65536 with
    | false =>
      rw [fresh_no (.inr hb)]
      rw [hb] at c2
      clear ha hb
      dsimp only [Sp.v]
      go_enter Try.func70, Try.ntmps70
      go_wp2_with (first | (refine (c1 _).mono ?_; clear c1; rintro e w1 ⟨rfl, rfl⟩) | (refine (c2 _).mono ?_; rintro e w1 ⟨rfl, rfl⟩))
      go_returns
      exact ⟨rfl, (Below.refl _ w).alloc (Nat.le_refl _) _⟩
    | true =>
      rw [fresh_yes ha hb]
      rw [hb] at c2
      clear ha hb
      dsimp only [Sp.v]
      go_enter Try.func70, Try.ntmps70
      go_wp2_with (first | (refine (c1 _).mono ?_; clear c1; rintro e w1 ⟨rfl, rfl⟩) | (refine (c2 _).mono ?_; rintro e w1 ⟨rfl, rfl⟩))
      go_returns
      exact ⟨rfl, (Below.refl _ w).alloc (Nat.le_refl _) _⟩

/-- a space boxed, and a cell for the answer behind it -/
structure Two (w : World) (q r : Sp) (W : World) : Prop where
  bel : Below w.heap.size w W
  lt : w.heap.size + 1 < W.heap.size
  own : Box4 w.heap.size q W
  ans : Box4 (w.heap.size + 1) r W
  fr : Open4 (w.heap.size + 1) W
theorem Two.new (w : World) (q : Sp) (t u : TypeId) : Two w q ⟨0, 0, 0, 0⟩ ((w.alloc (.cells #[.int .i64 q.b, .int .i64 q.n, .int .i64 q.mb, .int .i64 q.mn] t)).alloc (.cells #[.int .i64 0, .int .i64 0, .int .i64 0, .int .i64 0] u)) := by
  refine ⟨((Below.refl _ w).alloc (Nat.le_refl _) _).alloc (by simp) _, by simp, (Box4.new w q t).alloc _, ?_, ?_⟩
  · have h := Box4.new (w.alloc (.cells #[.int .i64 q.b, .int .i64 q.n, .int .i64 q.mb, .int .i64 q.mn] t)) ⟨0, 0, 0, 0⟩ u
    rw [World.size_alloc] at h
    exact h
  · have h := Open4.new (w.alloc (.cells #[.int .i64 q.b, .int .i64 q.n, .int .i64 q.mb, .int .i64 q.mn] t)) u #[.int .i64 0, .int .i64 0, .int .i64 0, .int .i64 0]
    rw [World.size_alloc] at h
    exact h
theorem Two.next {w W W' : World} {q r : Sp} (k : Two w q r W) (b : Below W.heap.size W W') : Two w q r W' :=
  ⟨below_two k.bel b, Nat.lt_of_lt_of_le k.lt b.size, k.own.next b, k.ans.next b, k.fr.later b k.lt⟩

set_option maxHeartbeats 4000000 in
theorem Take_no (q : Sp) (x y : Int) (hn : fine q = false ∨ amt x = false ∨ amt y = false) (w : World) : Calls Try.prog 65 #[q.v, .int .i64 x, .int .i64 y] w fun e w' => e = .returned (.tuple #[q.v, .int .i64 1]) ∧ Below w.heap.size w w' := by
  have c0 := fun w => Fine_any q w
  have c1 := fun w => amount_any x w
  have c2 := fun w => amount_any y w
  obtain ⟨f, hf⟩ : ∃ f, fine q = f := ⟨_, rfl⟩
  obtain ⟨a, ha⟩ : ∃ a, amt x = a := ⟨_, rfl⟩
  obtain ⟨b, hb⟩ : ∃ b, amt y = b := ⟨_, rfl⟩
  rw [hf, ha, hb] at hn
  rw [hf] at c0
  rw [ha] at c1
  rw [hb] at c2
  clear hf ha hb
  have kp := Two.new w q 53 53
  obtain ⟨qb, qn, qm, qk⟩ := q
  dsimp only [Sp.v] at *
  have hc : f = false ∨ (f = true ∧ a = false) ∨ (f = true ∧ a = true ∧ b = false) := by
    cases f <;> cases a <;> cases b <;> simp_all
  clear hn
  go_enter Try.func65, Try.ntmps65
  rcases hc with rfl | ⟨rfl, rfl⟩ | ⟨rfl, rfl, rfl⟩
  all_goals
    go_wp2_with (first
      | (go_at_call 81; refine (c0 _).mono ?_; rintro e w1 ⟨rfl, b1⟩; have kp := kp.next b1; obtain ⟨k0, k1, k2, k3⟩ := kp.own; obtain ⟨a0, a1, a2, a3⟩ := kp.ans; obtain ⟨f0, f1, f2, f3⟩ := kp.fr)
      | (refine (c1 _).mono ?_; clear c1; rintro e w2 ⟨rfl, rfl⟩) | (refine (c2 _).mono ?_; rintro e w2 ⟨rfl, rfl⟩))
    generalize hW : World.setCell _ _ _ = W
    obtain ⟨⟨g0, g1, g2, g3⟩, hB⟩ := Box4.put (q := ⟨0, 0, 0, 0⟩) ⟨a0, a1, a2, a3⟩ hW
    refine bodyPost_ret (by simp [results, Try.results65, go_sem, g0, g1, g2, g3]; rfl) rfl ?_
    exact ⟨rfl, kp.bel.trans (hB _ (Nat.le_succ _))⟩
end Go.Proofs.Ytmoimijclafgcaa.U
