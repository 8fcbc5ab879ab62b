/-
  The example at the end of each law of package perm is true.
-/
import Derived.Test.YtccdpkbiandjdaaQrtext
namespace Go.Proofs.Ytccdpkbiandjdaa.PM
open Go.RowKit Go.Shelf

/-- what is boxed lies as it was -/
def Kept (w : World) (cs : Array Value) (W : World) : Prop := Below w.heap.size w W ∧ w.heap.size < W.heap.size ∧ Box w.heap.size cs W
theorem Kept.next {w W W' : World} {cs : Array Value} (k : Kept w cs W) (b : Below W.heap.size W W') : Kept w cs W' :=
  ⟨below_two k.1 b, Nat.lt_of_lt_of_le k.2.1 b.size, k.2.2.later b k.2.1⟩

set_option maxHeartbeats 2000000 in
theorem awake_any (w : World) : Calls Try.prog 17 #[] w fun e w' => e = .returned (.bool true) ∧ Below w.heap.size w w' := by
  have cm := fun u g m want w => May_any 5 6 u g m want w
  have f1 : may 5 6 5 0 416 6 = true := by decide +kernel
  have f2 : may 5 6 5 0 416 1 = false := by decide +kernel
  have f3 : may 5 6 1 6 32 4 = true := by decide +kernel
  have f4 : may 5 6 5 6 63 4 = false := by decide +kernel
  have ct := fun w => Text_any 1 1023 w
  rw [show txt 1 1023 = [100, 114, 119, 120, 114, 119, 120, 114, 119, 116] by decide +kernel] at ct
  have kp : Kept w #[.int .i64 5, .int .i64 6] (w.alloc (.cells #[.int .i64 5, .int .i64 6] 23)) := ⟨(Below.refl _ w).alloc (Nat.le_refl _) _, by simp, Box.new w _ _⟩
  go_enter Try.func17, Try.ntmps17
  go_wp2_with (first
    | (go_at_call 10; refine (cm _ _ _ _ _).mono ?_; rintro e W' ⟨rfl, b1⟩; simp only [f1, f2, f3, f4]; have kp := Kept.next kp b1; obtain ⟨k0, k1⟩ := kp.2.2.two)
    | (refine (ct _).mono ?_; rintro e W' ⟨rfl, rfl⟩))
  go_ret
  exact ⟨rfl, kp.1⟩

end Go.Proofs.Ytccdpkbiandjdaa.PM
