/-
  Who asks, in a box.
-/
import Derived.Test.YtenopnfclbegbaaGreatTab
namespace Go.Proofs.YtenopnfclbegbaaGreat.P
open Go.RowKit Go.Shelf

def CrBox (b : Nat) (cu cg : Int) (w : World) : Prop := w.heap[b]? = some (.cells #[.int .i64 cu, .int .i64 cg] 40 (0, 0))
theorem CrBox.new (cu cg : Int) (w : World) : CrBox w.heap.size cu cg (w.alloc (.cells #[.int .i64 cu, .int .i64 cg] 40)) := heap_alloc_new w _
section
variable {b : Nat} {cu cg : Int} {w w' : World}
theorem CrBox.lt (H : CrBox b cu cg w) : b < w.heap.size := (Array.getElem?_eq_some_iff.1 H).1
theorem CrBox.facts (H : CrBox b cu cg w) : w.cell? ⟨b, 0, none⟩ = some (.int .i64 cu) ∧ w.cell? ⟨b, 1, none⟩ = some (.int .i64 cg) := by
  refine ⟨?_, ?_⟩ <;> (rw [Lib.cell_of_heap H]; rfl)
theorem CrBox.below (H : CrBox b cu cg w) (hb : Below w.heap.size w w') : CrBox b cu cg w' := (hb.block b H.lt).trans H
end
end Go.Proofs.YtenopnfclbegbaaGreat.P
