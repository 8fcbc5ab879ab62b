/-
  An act as an argument.
-/
import Derived.Test.YtenopnfclbegbaaArgs
import Derived.Test.YtenopnfclbegbaaBact
namespace Go.Proofs.Ytenopnfclbegbaa.BR
open Go.ChangeShapes Go.WideShapes Go.ChangeAt Go.RowKit Go.Deep G
open E (rows_at of_at list_of cells3 cellsS drop_take_one cell_int cell_string)
set_option maxRecDepth 100000

theorem laidOut : laidOutB Try.prog = true := by kernel_rfl
theorem cellsA : Try.prog.cellsOf 26 = 10 := by kernel_rfl
/-- an act -/
theorem open_act {w : World} {r : Reach} {base : Nat} {v : Value} (hval : Value.okWide Try.prog w r base 26 v) : ∃ a : Ac, v = a.v := by
  obtain ⟨cs, rfl, hsz, hrow⟩ : ∃ cs, v = .agg cs ∧ cs.size = Try.prog.cellsOf 26 ∧ Row.okWide Try.prog w r base 26 cs := by
    simpa [Value.okWide, Try.underlying26] using hval
  rw [cellsA] at hsz
  have hr := rows_at (ts := [3, 3, 3, 3, 3, 3, 9, 9, 3, 9]) (by kernel_rfl) hsz hrow
  obtain ⟨l⟩ := cs
  match l, hsz with
  | [z0, z1, z2, z3, z4, z5, z6, z7, z8, z9], _ =>
    obtain ⟨x0, rfl⟩ := cell_int Try.underlying3 (of_at hr 0 _ _ rfl rfl)
    obtain ⟨x1, rfl⟩ := cell_int Try.underlying3 (of_at hr 1 _ _ rfl rfl)
    obtain ⟨x2, rfl⟩ := cell_int Try.underlying3 (of_at hr 2 _ _ rfl rfl)
    obtain ⟨x3, rfl⟩ := cell_int Try.underlying3 (of_at hr 3 _ _ rfl rfl)
    obtain ⟨x4, rfl⟩ := cell_int Try.underlying3 (of_at hr 4 _ _ rfl rfl)
    obtain ⟨x5, rfl⟩ := cell_int Try.underlying3 (of_at hr 5 _ _ rfl rfl)
    obtain ⟨x6, rfl⟩ := cell_string Try.underlying9 (of_at hr 6 _ _ rfl rfl)
    obtain ⟨x7, rfl⟩ := cell_string Try.underlying9 (of_at hr 7 _ _ rfl rfl)
    obtain ⟨x8, rfl⟩ := cell_int Try.underlying3 (of_at hr 8 _ _ rfl rfl)
    obtain ⟨x9, rfl⟩ := cell_string Try.underlying9 (of_at hr 9 _ _ rfl rfl)
    exact ⟨⟨x0, x1, x2, x3, x4, x5, x6.data.toList, x7, x8, x9⟩, by simp [Ac.v]⟩
end Go.Proofs.Ytenopnfclbegbaa.BR
