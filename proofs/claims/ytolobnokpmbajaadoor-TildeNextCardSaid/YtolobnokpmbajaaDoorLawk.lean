/-
  The law's example (awake).
-/
import Derived.Test.YtolobnokpmbajaaDoorLmost
namespace Go.Proofs.YtolobnokpmbajaaDoor.L
open Go.RowKit Go.Shelf

def three : List (List UInt8) := [[97], [97, 46, 126, 50, 126], [97, 46, 126, 120, 126]]
theorem mo_three : mo [97] three = 2 := by decide +kernel
theorem er_three : er [97] 3 = 0 := by decide +kernel
theorem nm_three : nm [97] 3 = [97, 46, 126, 51, 126] := by decide +kernel
theorem er_zero : er [97] 0 = 3 := by decide +kernel
theorem nm_zero : nm [97] 0 = [] := by decide +kernel
theorem ix_two : ix [97] [97, 46, 126, 48, 50, 126] = 0 := by decide +kernel
theorem sees_nil (w : World) : Sees (.slice none 0 0) [] w := ⟨none, 0, rfl, fun k p h => by simp at h⟩
theorem sees_three (w : World) (t : TypeId) : Sees (.slice (some ⟨w.heap.size, 0, none⟩) 3 3) three (w.alloc (.cells #[.string ⟨#[97]⟩, .string ⟨#[97, 46, 126, 50, 126]⟩, .string ⟨#[97, 46, 126, 120, 126]⟩] t)) := by
  refine ⟨_, 3, rfl, fun k p h => ⟨w.heap.size, 0, rfl, ?_⟩⟩
  rw [World.cell?_alloc_at _ _ _ _ rfl]
  match k, h with
  | 0, h => cases h; rfl
  | 1, h => cases h; rfl
  | 2, h => cases h; rfl
  | k + 3, h => simp [three] at h
theorem len_three : ∀ p ∈ three, p.length ≤ 2000 := by decide
theorem awake_next (v : Value) (w : World) (hL : K.Laid w) (hR : Sees v three w) :
    Calls Tryd.prog 27 #[.string ⟨#[97]⟩, v] w fun e w' => e = .returned (.tuple #[.string ⟨#[97, 46, 126, 51, 126]⟩, .int .i64 0]) ∧ Below w.heap.size w w' := by
  have := next_any [97] v three w hL hR (by decide) len_three (by decide)
  rw [mo_three, show (2 : Int) + 1 = 3 by rfl, er_three, nm_three] at this
  exact this
theorem awake_name (w : World) (hL : K.Laid w) :
    Calls Tryd.prog 22 #[.string ⟨#[97]⟩, .int .i64 0] w fun e w' => e = .returned (.tuple #[.string ⟨#[]⟩, .int .i64 3]) ∧ Below w.heap.size w w' := by
  have := name_any [97] 0 (by decide) w hL
  rw [er_zero, nm_zero] at this
  exact this
theorem awake_index (w : World) : Calls Tryd.prog 25 #[.string ⟨#[97]⟩, .string ⟨#[97, 46, 126, 48, 50, 126]⟩] w fun e w' => e = .returned (.int .i64 0) ∧ Below w.heap.size w w' := by
  have := index_any [97] [97, 46, 126, 48, 50, 126] (by decide) w
  rw [ix_two] at this
  exact this
theorem awake_most (w : World) : Calls Tryd.prog 28 #[.string ⟨#[97]⟩, .slice none 0 0] w fun e w' => e = .returned (.int .i64 0) ∧ Below w.heap.size w w' :=
  most_any [97] (.slice none 0 0) [] w (sees_nil w) (by simp) (by simp)

set_option maxHeartbeats 4000000 in
theorem awake_any (w : World) (hL : K.Laid w) :
    Calls Tryd.prog 21 #[] w fun e w' => e = .returned (.bool true) ∧ Below w.heap.size w w' := by
  have HL := Lib.hid hL
  clear hL
  go_enter Tryd.func21, Tryd.ntmps21
  go_wp2_with (first
    | (go_at_call 27; refine (awake_next _ _ (HL.out.of_below ((Below.refl _ _).alloc (Nat.le_refl _) _)) (sees_three _ _)).mono ?_; rintro e w1 ⟨rfl, hb1⟩)
    | (go_at_call 22; refine (awake_name _ (HL.out.of_below (below_two ((Below.refl _ _).alloc (Nat.le_refl _) _) hb1))).mono ?_; rintro e w2 ⟨rfl, hb2⟩)
    | (go_at_call 25; refine (awake_index _).mono ?_; rintro e w3 ⟨rfl, hb3⟩)
    | (go_at_call 28; refine (awake_most _).mono ?_; rintro e w4 ⟨rfl, hb4⟩))
  go_ret
  exact ⟨rfl, below_two (below_two (below_two (below_two ((Below.refl _ _).alloc (Nat.le_refl _) _) hb1) hb2) hb3) hb4⟩
end Go.Proofs.YtolobnokpmbajaaDoor.L
