/-
  Who asks, and what is told of a node, in boxes.
-/
import Derived.Test.YtjkopgdbkmbnmaaPmath
import Derived.Deep.RegionHeld3
namespace Go.Proofs.Ytjkopgdbkmbnmaa.P
open Go.RowKit Go.Shelf G

def CrBox (b : Nat) (cu cg : Int) (w : World) : Prop := w.heap[b]? = some (.cells #[.int .i64 cu, .int .i64 cg] 24 (0, 0))
theorem CrBox.new (cu cg : Int) (w : World) : CrBox w.heap.size cu cg (w.alloc (.cells #[.int .i64 cu, .int .i64 cg] 24)) := heap_alloc_new w _
/-- what is told of a node -/
structure Sd where
  no : Int
  dev : Int
  kind : Int
  mode : Int
  uid : Int
  gid : Int
  links : Int
  size : Int
  mt : Int
  ct : Int
def Sd.v (f : Sd) : Value := .agg #[.int .i64 f.no, .int .i64 f.dev, .int .i64 f.kind, .int .i64 f.mode, .int .i64 f.uid, .int .i64 f.gid, .int .i64 f.links, .int .i64 f.size, .int .i64 f.mt, .int .i64 f.ct]
def Sd.zero : Sd := ⟨0, 0, 0, 0, 0, 0, 0, 0, 0, 0⟩
/-- of this node -/
def told (n : T.Nd) : Sd := ⟨n.no, n.dev, n.kind, n.mode, n.uid, n.gid, n.links, n.data.size, n.mt, n.ct⟩
theorem told_zero : told T.Nd.zero = Sd.zero := rfl
def SBox (b : Nat) (f : Sd) (w : World) : Prop := w.heap[b]? = some (.cells #[.int .i64 f.no, .int .i64 f.dev, .int .i64 f.kind, .int .i64 f.mode, .int .i64 f.uid, .int .i64 f.gid, .int .i64 f.links, .int .i64 f.size, .int .i64 f.mt, .int .i64 f.ct] 37 (0, 0))
theorem SBox.new (f : Sd) (w : World) : SBox w.heap.size f (w.alloc (.cells #[.int .i64 f.no, .int .i64 f.dev, .int .i64 f.kind, .int .i64 f.mode, .int .i64 f.uid, .int .i64 f.gid, .int .i64 f.links, .int .i64 f.size, .int .i64 f.mt, .int .i64 f.ct] 37)) := heap_alloc_new w _
def fillS (w : World) (b : Nat) (f : Sd) : World := (((((((((w.setCell ⟨b, 0, none⟩ (.int .i64 f.no)).setCell ⟨b, 1, none⟩ (.int .i64 f.dev)).setCell ⟨b, 2, none⟩ (.int .i64 f.kind)).setCell ⟨b, 3, none⟩ (.int .i64 f.mode)).setCell ⟨b, 4, none⟩ (.int .i64 f.uid)).setCell ⟨b, 5, none⟩ (.int .i64 f.gid)).setCell ⟨b, 6, none⟩ (.int .i64 f.links)).setCell ⟨b, 7, none⟩ (.int .i64 f.size)).setCell ⟨b, 8, none⟩ (.int .i64 f.mt)).setCell ⟨b, 9, none⟩ (.int .i64 f.ct)
section
variable {b : Nat} {f : Sd} {cu cg : Int} {w w' : World}
theorem CrBox.lt (H : CrBox b cu cg w) : b < w.heap.size := (Array.getElem?_eq_some_iff.1 H).1
theorem CrBox.facts (H : CrBox b cu cg w) : w.cell? ⟨b, 0, none⟩ = some (.int .i64 cu) ∧ w.cell? ⟨b, 1, none⟩ = some (.int .i64 cg) := by
  refine ⟨?_, ?_⟩ <;> (rw [Lib.cell_of_heap H]; rfl)
theorem CrBox.below (H : CrBox b cu cg w) (hb : Below w.heap.size w w') : CrBox b cu cg w' := (hb.block b H.lt).trans H
theorem SBox.lt (H : SBox b f w) : b < w.heap.size := (Array.getElem?_eq_some_iff.1 H).1
theorem SBox.below (H : SBox b f w) (hb : Below w.heap.size w w') : SBox b f w' := (hb.block b H.lt).trans H
theorem SBox.facts (H : SBox b f w) : w.cell? ⟨b, 0, none⟩ = some (.int .i64 f.no) ∧ w.cell? ⟨b, 1, none⟩ = some (.int .i64 f.dev) ∧ w.cell? ⟨b, 2, none⟩ = some (.int .i64 f.kind) ∧ w.cell? ⟨b, 3, none⟩ = some (.int .i64 f.mode) ∧ w.cell? ⟨b, 4, none⟩ = some (.int .i64 f.uid) ∧ w.cell? ⟨b, 5, none⟩ = some (.int .i64 f.gid) ∧ w.cell? ⟨b, 6, none⟩ = some (.int .i64 f.links) ∧ w.cell? ⟨b, 7, none⟩ = some (.int .i64 f.size) ∧ w.cell? ⟨b, 8, none⟩ = some (.int .i64 f.mt) ∧ w.cell? ⟨b, 9, none⟩ = some (.int .i64 f.ct) := by
  refine ⟨?_, ?_, ?_, ?_, ?_, ?_, ?_, ?_, ?_, ?_⟩ <;> (rw [Lib.cell_of_heap H]; rfl)
theorem SBox.open (H : SBox b f w) : w.frozen? ⟨b, 0, none⟩ = false ∧ w.frozen? ⟨b, 1, none⟩ = false ∧ w.frozen? ⟨b, 2, none⟩ = false ∧ w.frozen? ⟨b, 3, none⟩ = false ∧ w.frozen? ⟨b, 4, none⟩ = false ∧ w.frozen? ⟨b, 5, none⟩ = false ∧ w.frozen? ⟨b, 6, none⟩ = false ∧ w.frozen? ⟨b, 7, none⟩ = false ∧ w.frozen? ⟨b, 8, none⟩ = false ∧ w.frozen? ⟨b, 9, none⟩ = false :=
  ⟨Lib.frozen_of_heap H 0, Lib.frozen_of_heap H 1, Lib.frozen_of_heap H 2, Lib.frozen_of_heap H 3, Lib.frozen_of_heap H 4, Lib.frozen_of_heap H 5, Lib.frozen_of_heap H 6, Lib.frozen_of_heap H 7, Lib.frozen_of_heap H 8, Lib.frozen_of_heap H 9⟩
theorem SBox.fill (H : SBox b f w) (g : Sd) : SBox b g (fillS w b g) := by
  unfold SBox fillS at *
  simp [World.setCell, Array.getElem?_modify, H]
theorem below_fillS {m : Nat} (hb : m ≤ b) (w : World) (f : Sd) : Below m w (fillS w b f) := by
  unfold fillS
  refine Below.setCell ?_ hb _
  refine Below.setCell ?_ hb _
  refine Below.setCell ?_ hb _
  refine Below.setCell ?_ hb _
  refine Below.setCell ?_ hb _
  refine Below.setCell ?_ hb _
  refine Below.setCell ?_ hb _
  refine Below.setCell ?_ hb _
  refine Below.setCell ?_ hb _
  exact Below.setCell (Below.refl _ _) hb _
end
end Go.Proofs.Ytjkopgdbkmbnmaa.P
