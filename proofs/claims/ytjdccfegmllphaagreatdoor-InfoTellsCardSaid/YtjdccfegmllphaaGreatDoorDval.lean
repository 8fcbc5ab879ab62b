/-
  What date.valid and date.Seconds do.
-/
import Derived.Test.YtjdccfegmllphaaGreatDoorDof
import Derived.Deep.QuietTactic
import Derived.BigQuiet
namespace Go.Proofs.YtjdccfegmllphaaGreatDoor
open Go.RowKit Go.Shelf

def wi (n a b : Int) : Bool := decide (a ≤ n ∧ n ≤ b)
theorem within_q (n a b : Int) (w : World) : Calls Tryz.prog 83 #[.int .i64 n, .int .i64 a, .int .i64 b] w fun e w' => e = .returned (.bool (wi n a b)) ∧ w' = w :=
  (within_any n a b w).mono fun _ _ ⟨he, hw⟩ => ⟨he, hw.symm⟩
theorem days_q {y m k : Int} (hk : M.days y m = k) (w : World) : Calls Tryz.prog 67 #[.int .i64 y, .int .i64 m] w fun e w' => e = .returned (.int .i64 k) ∧ w' = w :=
  (days_is hk w).mono fun _ _ ⟨he, hw⟩ => ⟨he, hw.symm⟩
open Classical in
noncomputable def ok (y m d h i s : Int) : Bool := decide (M.Valid y m d h i s)

set_option maxHeartbeats 4000000 in
theorem valid_any (y m d h i s : Int) (w : World) :
    Calls Tryz.prog 66 #[six y m d h i s] w fun e w' => e = .returned (.bool (ok y m d h i s)) ∧ Below w.heap.size w w' := by
  obtain ⟨k, hk⟩ : ∃ k, M.days y m = k := ⟨_, rfl⟩
  obtain ⟨b1, h1⟩ : ∃ b, wi y 0 9999 = b := ⟨_, rfl⟩
  obtain ⟨b2, h2⟩ : ∃ b, wi m 1 12 = b := ⟨_, rfl⟩
  obtain ⟨b3, h3⟩ : ∃ b, wi d 1 k = b := ⟨_, rfl⟩
  obtain ⟨b4, h4⟩ : ∃ b, wi h 0 23 = b := ⟨_, rfl⟩
  obtain ⟨b5, h5⟩ : ∃ b, wi i 0 59 = b := ⟨_, rfl⟩
  obtain ⟨b6, h6⟩ : ∃ b, wi s 0 59 = b := ⟨_, rfl⟩
  have HE : Hid (ok y m d h i s = (b1 && b2 && b3 && b4 && b5 && b6)) := by
    show _ = _
    subst h1 h2 h3 h4 h5 h6 hk
    unfold ok wi
    rw [Bool.eq_iff_iff]
    simp only [Bool.and_eq_true, decide_eq_true_eq]
    constructor
    · rintro ⟨⟩
      refine ⟨⟨⟨⟨⟨⟨?_, ?_⟩, ?_, ?_⟩, ?_, ?_⟩, ?_, ?_⟩, ?_, ?_⟩, ?_, ?_⟩ <;> assumption
    · rintro ⟨⟨⟨⟨⟨⟨_, _⟩, _, _⟩, _, _⟩, _, _⟩, _, _⟩, _, _⟩
      constructor <;> assumption
  have HK := Lib.hid hk
  clear hk
  unfold six
  cases b1
  · go_enter Tryz.func66, Tryz.ntmps66
    go_wp2_with fail
    go_quiet (first | (go_at_call 83; exact Calls.quiet_of_same (within_q _ _ _ _)))
    go_wp2
    go_ret
    exact ⟨ret_bool HE.out.symm, below_drewN ((Below.refl _ w).alloc (Nat.le_refl _) _) _⟩
  cases b2
  · go_enter Tryz.func66, Tryz.ntmps66
    go_wp2_with fail
    go_quiet (first | (go_at_call 83; exact Calls.quiet_of_same (within_q _ _ _ _)))
    go_wp2
    go_ret
    exact ⟨ret_bool HE.out.symm, below_drewN ((Below.refl _ w).alloc (Nat.le_refl _) _) _⟩
  cases b3
  · go_enter Tryz.func66, Tryz.ntmps66
    go_wp2_with fail
    go_quiet (first | (go_at_call 83; exact Calls.quiet_of_same (within_q _ _ _ _)) | (go_at_call 67; exact Calls.quiet_of_same (days_q HK.out _)))
    go_wp2
    go_ret
    exact ⟨ret_bool HE.out.symm, below_drewN ((Below.refl _ w).alloc (Nat.le_refl _) _) _⟩
  cases b4
  · go_enter Tryz.func66, Tryz.ntmps66
    go_wp2_with fail
    go_quiet (first | (go_at_call 83; exact Calls.quiet_of_same (within_q _ _ _ _)) | (go_at_call 67; exact Calls.quiet_of_same (days_q HK.out _)))
    go_wp2
    go_ret
    exact ⟨ret_bool HE.out.symm, below_drewN ((Below.refl _ w).alloc (Nat.le_refl _) _) _⟩
  cases b5
  · go_enter Tryz.func66, Tryz.ntmps66
    go_wp2_with fail
    go_quiet (first | (go_at_call 83; exact Calls.quiet_of_same (within_q _ _ _ _)) | (go_at_call 67; exact Calls.quiet_of_same (days_q HK.out _)))
    go_wp2
    go_ret
    exact ⟨ret_bool HE.out.symm, below_drewN ((Below.refl _ w).alloc (Nat.le_refl _) _) _⟩
  go_enter Tryz.func66, Tryz.ntmps66
  go_wp2_with fail
  go_quiet (first | (go_at_call 83; exact Calls.quiet_of_same (within_q _ _ _ _)) | (go_at_call 67; exact Calls.quiet_of_same (days_q HK.out _)))
  go_wp2
  go_ret
  exact ⟨ret_bool (by rw [HE.out]; rfl), below_drewN ((Below.refl _ w).alloc (Nat.le_refl _) _) _⟩
end Go.Proofs.YtjdccfegmllphaaGreatDoor
