/-
  What the listed tables of the library give the walks; the heap that the door's own run leaves meets the list.
-/
import Derived.Test.YtpjnofanfjedfaaDoorRows
import Derived.Test.YtpjnofanfjedfaaDoorLaws
import Derived.ProofKit
import Derived.LaidMore
import Derived.OpenShut
import Derived.ShutString
import Derived.ChangeOld
import Derived.Stop.Joined
import Derived.Lib.LaidTab
import Derived.Stop.LaidErr
namespace Go.Proofs.YtpjnofanfjedfaaDoor
open Go.ChangeShapes Go.WideShapes Go.ChangeAt Go.RowKit

theorem own : ownKnob Tryd.prog.godebug = none := by kernel_rfl
abbrev laids : List (String × DataW Unit) := [("math/bits.deBruijn32tab", Rows.laid_math_bits_deBruijn32tab), ("math/bits.deBruijn64tab", Rows.laid_math_bits_deBruijn64tab), ("internal/strconv.uint64pow10", Rows.laid_internal_strconv_uint64pow10)]
theorem door_met (os : Os) (args : Array Value) : laidMetH Tryd.prog laids ((World.doorLaid Tryd.prog 400 os).forCall (fun _ _ => 0) ⟨#[], args, []⟩).memory :=
  laidMetH_of_parts3 (fuel := 8) (laidMet_of_run' 8 (by kernel_rfl) (by kernel_rfl)) (by kernel_rfl) (by kernel_rfl)

def db64 : List Int := [0, 1, 56, 2, 57, 49, 28, 3, 61, 58, 42, 50, 38, 29, 17, 4, 62, 47, 59, 36, 45, 43, 51, 22, 53, 39, 33, 30, 24, 18, 12, 5, 63, 55, 48, 27, 60, 41, 37, 16, 46, 35, 44, 21, 52, 32, 23, 11, 54, 26, 40, 15, 34, 20, 31, 10, 25, 14, 19, 9, 13, 8, 7, 6]
theorem g64 : Tryd.prog.globalNamed "math/bits.deBruijn64tab" = some 3 := by kernel_rfl
theorem t64 : (Tryd.prog.globals[3]?).map (·.type) = some 73 := by kernel_rfl
theorem tPow : (Tryd.prog.globals[0]?).map (·.type) = some 64 := by kernel_rfl
theorem laid_of {W : World} (h : laidMetH Tryd.prog laids W) : Laid W := by
  rw [MakeChecks.laidMetH_plain _ _ _ (by kernel_rfl)] at h
  have h2 := laidMet.tail h
  have h3 := laidMet.tail h2
  have T64 : Lib.TabIs Tryd.prog W "math/bits.deBruijn64tab" .u8 db64 := Lib.tabIs_of_head g64 t64 Tryd.underlying73 Tryd.underlying5 (by kernel_rfl) (by kernel_rfl) h2
  have TP : Lib.TabIs Tryd.prog W "internal/strconv.uint64pow10" .u64 Lib.pow10Tab := Lib.tabIs_of_head gPow tPow Tryd.underlying64 Tryd.underlying34 (by kernel_rfl) (by kernel_rfl) h3
  have hc : W.cell? ⟨3, 7, none⟩ = some (.int .u8 3) := T64.cell g64 7 (by decide)
  exact ⟨TP, hc, World.block_lt_of_cell? _ _ hc⟩
end Go.Proofs.YtpjnofanfjedfaaDoor
