/-
  Who asks, as an argument.
-/
import Derived.Test.YtjkopgdbkmbnmaaArgs
import Derived.Test.YtjkopgdbkmbnmaaPmath
namespace Go.Proofs.Ytjkopgdbkmbnmaa.P
open Go.ChangeShapes Go.WideShapes Go.ChangeAt Go.RowKit Go.Deep
open E (rows_at of_at cell_int)
set_option maxRecDepth 100000

theorem laidOut : laidOutB Try.prog = true := by kernel_rfl
theorem open_cred {w : World} {r : Reach} {base : Nat} {v : Value} (hval : Value.okWide Try.prog w r base 24 v) : ∃ u g, v = .agg #[.int .i64 u, .int .i64 g] := by
  obtain ⟨cs, rfl, hsz, hrow⟩ : ∃ cs, v = .agg cs ∧ cs.size = Try.prog.cellsOf 24 ∧ Row.okWide Try.prog w r base 24 cs := by
    simpa [Value.okWide, Try.underlying24] using hval
  rw [show Try.prog.cellsOf 24 = 2 by kernel_rfl] at hsz
  have hr := rows_at (ts := [3, 3]) (by kernel_rfl) hsz hrow
  obtain ⟨l⟩ := cs
  match l, hsz with
  | [z0, z1], _ =>
    obtain ⟨x0, rfl⟩ := cell_int Try.underlying3 (of_at hr 0 _ _ rfl rfl)
    obtain ⟨x1, rfl⟩ := cell_int Try.underlying3 (of_at hr 1 _ _ rfl rfl)
    exact ⟨x0, x1, rfl⟩
end Go.Proofs.Ytjkopgdbkmbnmaa.P
