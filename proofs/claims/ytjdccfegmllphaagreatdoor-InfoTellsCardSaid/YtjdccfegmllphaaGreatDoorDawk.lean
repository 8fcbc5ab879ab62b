/-
  The example at the end of each law of this seat is true; what of and to do.
-/
import Derived.Test.YtjdccfegmllphaaGreatDoorDparse
import Derived.ChangeKeysEq
namespace Go.Proofs.YtjdccfegmllphaaGreatDoor
open Go.RowKit Go.Shelf

theorem eqIn6 (y m d h i s : Int) (w : World) : (Op.equalIn 10000 61 (.agg #[.int .i64 y, .int .i64 m, .int .i64 d, .int .i64 h, .int .i64 i, .int .i64 s]) (.agg #[.int .i64 y, .int .i64 m, .int .i64 d, .int .i64 h, .int .i64 i, .int .i64 s])).run Tryz.prog w = .ok true w := by
  obtain ⟨i3, hi3⟩ := Option.isSome_iff_exists.1 (show (Tryz.prog.info? 3).isSome = true by kernel_rfl)
  have hc : Tryz.prog.cellsOf 3 = 1 := by kernel_rfl
  rw [show (10000 : Nat) = 9999 + 1 from rfl, run_equalIn_array w 9999 _ _ Tryz.underlying61 hi3, hc]
  have e : List.range 6 = [0, 1, 2, 3, 4, 5] := by decide
  rw [e]
  simp [Op.eqItems, go_sem]
theorem below_two {w w1 w2 : World} (h1 : Below w.heap.size w w1) (h2 : Below w1.heap.size w1 w2) : Below w.heap.size w w2 := h1.trans (h2.mono h1.size)

theorem cv_ex1 : M.Cv (951782400 : Nat) 2000 2 29 0 0 0 := ⟨⟨by decide, by decide, by decide, by decide, by decide, by decide, by decide, by decide, by decide, by decide, by decide, by decide⟩, by decide, by decide⟩
theorem tx_ex1 : tx 2000 2 29 0 0 0 6 = [50, 48, 48, 48, 45, 48, 50, 45, 50, 57, 84, 48, 48, 58, 48, 48, 58, 48, 48] := by decide +kernel
theorem ps_ex2 : ps [50, 48, 50, 51, 45, 48, 50, 45, 50, 57, 84, 48, 48, 58, 48, 48, 58, 48, 48] = (0, 2) := by
  have h : rd mks [50, 48, 50, 51, 45, 48, 50, 45, 50, 57, 84, 48, 48, 58, 48, 48, 58, 48, 48] = some [2023, 2, 29, 0, 0, 0] := by decide +kernel
  rw [ps_some h]
  exact sc_form (fun v => absurd v.d1 (by decide))
theorem ps_ex3 : ps [49, 57, 54, 57, 45, 49, 50, 45, 51, 49, 84, 50, 51, 58, 53, 57, 58, 53, 57] = (0, 3) := by
  have h : rd mks [49, 57, 54, 57, 45, 49, 50, 45, 51, 49, 84, 50, 51, 58, 53, 57, 58, 53, 57] = some [1969, 12, 31, 23, 59, 59] := by decide +kernel
  rw [ps_some h]
  exact sc_range ⟨by decide, by decide, by decide, by decide, by decide, by decide, by decide, by decide, by decide, by decide, by decide, by decide⟩ (by decide)
theorem a_text (w : World) (hL : Laid w) : Calls Tryz.prog 10 #[.int .i64 951782400] w fun e w' => e = .returned (.tuple #[.string ⟨#[50, 48, 48, 48, 45, 48, 50, 45, 50, 57, 84, 48, 48, 58, 48, 48, 58, 48, 48]⟩, .int .i64 0]) ∧ Below w.heap.size w w' :=
  (text_good 951782400 cv_ex1 w hL).mono fun e w' ⟨he, hb⟩ => ⟨by rw [he, tx_ex1], hb⟩
theorem a_parse2 (w : World) (hL : Laid w) : Calls Tryz.prog 19 #[.string ⟨#[50, 48, 50, 51, 45, 48, 50, 45, 50, 57, 84, 48, 48, 58, 48, 48, 58, 48, 48]⟩] w fun e w' => e = .returned (.tuple #[.int .i64 0, .int .i64 2]) ∧ Below w.heap.size w w' :=
  (parse_any ⟨#[50, 48, 50, 51, 45, 48, 50, 45, 50, 57, 84, 48, 48, 58, 48, 48, 58, 48, 48]⟩ (by decide) w hL).mono fun e w' ⟨he, hb⟩ => ⟨by
    have h := ps_ex2
    rw [show (⟨#[50, 48, 50, 51, 45, 48, 50, 45, 50, 57, 84, 48, 48, 58, 48, 48, 58, 48, 48]⟩ : ByteArray).data.toList = [50, 48, 50, 51, 45, 48, 50, 45, 50, 57, 84, 48, 48, 58, 48, 48, 58, 48, 48] from rfl, h] at he
    exact he, hb⟩
theorem a_parse3 (w : World) (hL : Laid w) : Calls Tryz.prog 19 #[.string ⟨#[49, 57, 54, 57, 45, 49, 50, 45, 51, 49, 84, 50, 51, 58, 53, 57, 58, 53, 57]⟩] w fun e w' => e = .returned (.tuple #[.int .i64 0, .int .i64 3]) ∧ Below w.heap.size w w' :=
  (parse_any ⟨#[49, 57, 54, 57, 45, 49, 50, 45, 51, 49, 84, 50, 51, 58, 53, 57, 58, 53, 57]⟩ (by decide) w hL).mono fun e w' ⟨he, hb⟩ => ⟨by
    have h := ps_ex3
    rw [show (⟨#[49, 57, 54, 57, 45, 49, 50, 45, 51, 49, 84, 50, 51, 58, 53, 57, 58, 53, 57]⟩ : ByteArray).data.toList = [49, 57, 54, 57, 45, 49, 50, 45, 51, 49, 84, 50, 51, 58, 53, 57, 58, 53, 57] from rfl, h] at he
    exact he, hb⟩
theorem l2000 (w : World) : Calls Tryz.prog 84 #[.int .i64 2000] w fun e w' => e = .returned (.bool true) ∧ w = w' := leap_is (by decide) w
theorem l1900 (w : World) : Calls Tryz.prog 84 #[.int .i64 1900] w fun e w' => e = .returned (.bool false) ∧ w = w' := leap_is (by decide) w
end Go.Proofs.YtjdccfegmllphaaGreatDoor
