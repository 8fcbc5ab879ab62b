/-
  A line's text: sizes.valid, written; the reference's May.
-/
import Derived.Test.YtolobnokpmbajaaDoorSrange
import Derived.Test.YtolobnokpmbajaaDoorNnum
import Derived.Test.YtolobnokpmbajaaDoorName
import Derived.Test.YtolobnokpmbajaaDoorPenc
import Derived.Deep.RegionHeld3
namespace Go.Proofs.YtolobnokpmbajaaDoor.Z
open Go.RowKit Go.Shelf

theorem below_two {w w1 w2 : World} (h1 : Below w.heap.size w w1) (h2 : Below w1.heap.size w1 w2) : Below w.heap.size w w2 := h1.trans (h2.mono h1.size)
theorem size_l (l : List UInt8) : (⟨l.toArray⟩ : ByteArray).size = l.length := by rw [Lib.size_eq]
theorem bytes_eq (s : ByteArray) : ∃ l : List UInt8, s = ⟨l.toArray⟩ := ⟨s.data.toList, by rw [Array.toArray_toList]⟩
theorem add_ll (l m : List UInt8) (h : l.length + m.length ≤ 100000) (w : World) : (Op.stringOp .add ⟨l.toArray⟩ ⟨m.toArray⟩).run Tryd.prog w = .ok (.string ⟨(l ++ m).toArray⟩) w := by
  rw [run_string_add_sum w _ _ (by rw [size_l, size_l]; omega), ByteArray.mk_append_mk]
theorem check_is {l : List UInt8} {c : Int} (h : V.M.check l = c) (w : World) : Calls Tryd.prog 46 #[.string ⟨l.toArray⟩] w fun e w' => e = .returned (.int .i64 c) ∧ w = w' := by
  have := V.check_any ⟨l.toArray⟩ w
  rw [show (⟨l.toArray⟩ : ByteArray).data.toList = l from rfl, h] at this
  exact this
theorem refCheck_is {l : List UInt8} {c : Int} (hl : l.length ≤ 5000) (h : V.M.check l = c) (w : World) : Calls Tryd.prog 24 #[.string ⟨l.toArray⟩] w fun e w' => e = .returned (.int .i64 c) ∧ w = w' := by
  have := V.refCheck_any ⟨l.toArray⟩ (by rw [size_l]; exact hl) w
  rw [show (⟨l.toArray⟩ : ByteArray).data.toList = l from rfl, h] at this
  exact this

/-- may a line be written? -/
def may (x : Line) : Bool := decide (0 ≤ x.size) && (decide (0 ≤ x.time) && decide (V.M.check x.name = 0))
theorem may_yes {x : Line} (h : may x = true) : 0 ≤ x.size ∧ 0 ≤ x.time ∧ V.M.check x.name = 0 := by simpa [may] using h

set_option maxHeartbeats 1000000 in
theorem valid_any (x : Line) (w : World) : Calls Tryd.prog 29 #[.agg (enc x).toArray] w fun e w' => e = .returned (.bool (may x)) ∧ Below w.heap.size w w' := by
  obtain ⟨a, t, n⟩ := x
  unfold enc
  dsimp only
  have cc := fun w => check_is (l := n) rfl w
  have HM : Hid (may ⟨a, t, n⟩ = (decide (0 ≤ a) && (decide (0 ≤ t) && decide (V.M.check n = 0)))) := Lib.hid rfl
  generalize V.M.check n = c at cc HM
  by_cases h1 : 0 ≤ a
  · by_cases h2 : 0 ≤ t
    · have HV : Hid (may ⟨a, t, n⟩ = decide (c = 0)) := Lib.hid (by rw [HM.out]; simp [h1, h2])
      go_enter Tryd.func29, Tryd.ntmps29
      go_wp2_with (go_at_call 46; refine (cc _).mono ?_; rintro e w1 ⟨rfl, rfl⟩)
      go_ret
      exact ⟨by rw [HV.out]; simp; rfl, (Below.refl _ _).alloc (Nat.le_refl _) _⟩
    · have HV : Hid (may ⟨a, t, n⟩ = false) := Lib.hid (by rw [HM.out]; simp [h2])
      go_enter Tryd.func29, Tryd.ntmps29
      go_wp2
      go_ret
      exact ⟨by rw [HV.out]; rfl, (Below.refl _ _).alloc (Nat.le_refl _) _⟩
  · have HV : Hid (may ⟨a, t, n⟩ = false) := Lib.hid (by rw [HM.out]; simp [h1])
    go_enter Tryd.func29, Tryd.ntmps29
    go_wp2
    go_ret
    exact ⟨by rw [HV.out]; rfl, (Below.refl _ _).alloc (Nat.le_refl _) _⟩
set_option maxHeartbeats 1000000 in
theorem refMay_any (x : Line) (hx : x.name.length ≤ 5000) (w : World) : Calls Tryd.prog 20 #[.agg (enc x).toArray] w fun e w' => e = .returned (.bool (may x)) ∧ Below w.heap.size w w' := by
  obtain ⟨a, t, n⟩ := x
  unfold enc
  dsimp only at hx ⊢
  have cc := fun w => refCheck_is (l := n) hx rfl w
  have HM : Hid (may ⟨a, t, n⟩ = (decide (0 ≤ a) && (decide (0 ≤ t) && decide (V.M.check n = 0)))) := Lib.hid rfl
  generalize V.M.check n = c at cc HM
  by_cases h1 : 0 ≤ a
  · by_cases h2 : 0 ≤ t
    · have HV : Hid (may ⟨a, t, n⟩ = decide (c = 0)) := Lib.hid (by rw [HM.out]; simp [h1, h2])
      go_enter Tryd.func20, Tryd.ntmps20
      go_wp2_with (go_at_call 24; refine (cc _).mono ?_; rintro e w1 ⟨rfl, rfl⟩)
      go_ret
      exact ⟨by rw [HV.out]; simp; rfl, (Below.refl _ _).alloc (Nat.le_refl _) _⟩
    · have HV : Hid (may ⟨a, t, n⟩ = false) := Lib.hid (by rw [HM.out]; simp [h2])
      go_enter Tryd.func20, Tryd.ntmps20
      go_wp2
      go_ret
      exact ⟨by rw [HV.out]; rfl, (Below.refl _ _).alloc (Nat.le_refl _) _⟩
  · have HV : Hid (may ⟨a, t, n⟩ = false) := Lib.hid (by rw [HM.out]; simp [h1])
    go_enter Tryd.func20, Tryd.ntmps20
    go_wp2
    go_ret
    exact ⟨by rw [HV.out]; rfl, (Below.refl _ _).alloc (Nat.le_refl _) _⟩
end Go.Proofs.YtolobnokpmbajaaDoor.Z
