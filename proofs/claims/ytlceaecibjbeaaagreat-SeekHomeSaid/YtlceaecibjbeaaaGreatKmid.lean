/-
  What lies in memory on the way of seek.Path.
-/
import Derived.Test.YtlceaecibjbeaaaGreatKjump
import Derived.Test.YtlceaecibjbeaaaGreatKtree
namespace Go.Proofs.YtlceaecibjbeaaaGreat.K
open Go.RowKit Go.Shelf G

/-- what is told, by value, and in a box -/
def Fd.v (f : Fd) : Value := .agg #[.int .i64 f.dir, .string ⟨f.name.toArray⟩, .int .i64 f.no, .bool f.slash]
def FdBox (b : Nat) (f : Fd) (w : World) : Prop := w.heap[b]? = some (.cells #[.int .i64 f.dir, .string ⟨f.name.toArray⟩, .int .i64 f.no, .bool f.slash] 33 (0, 0))
def fillF (w : World) (b : Nat) (f : Fd) : World := (((w.setCell ⟨b, 0, none⟩ (.int .i64 f.dir)).setCell ⟨b, 1, none⟩ (.string ⟨f.name.toArray⟩)).setCell ⟨b, 2, none⟩ (.int .i64 f.no)).setCell ⟨b, 3, none⟩ (.bool f.slash)
def CrBox (b : Nat) (cu cg : Int) (w : World) : Prop := w.heap[b]? = some (.cells #[.int .i64 cu, .int .i64 cg] 24 (0, 0))
section
variable {b : Nat} {f : Fd} {cu cg : Int} {w w' : World}
theorem FdBox.lt (H : FdBox b f w) : b < w.heap.size := (Array.getElem?_eq_some_iff.1 H).1
theorem FdBox.facts (H : FdBox b f w) : w.cell? ⟨b, 0, none⟩ = some (.int .i64 f.dir) ∧ w.cell? ⟨b, 1, none⟩ = some (.string ⟨f.name.toArray⟩) ∧ w.cell? ⟨b, 2, none⟩ = some (.int .i64 f.no) ∧ w.cell? ⟨b, 3, none⟩ = some (.bool f.slash) := by
  refine ⟨?_, ?_, ?_, ?_⟩ <;> (rw [Lib.cell_of_heap H]; rfl)
theorem FdBox.open (H : FdBox b f w) : w.frozen? ⟨b, 0, none⟩ = false ∧ w.frozen? ⟨b, 1, none⟩ = false ∧ w.frozen? ⟨b, 2, none⟩ = false ∧ w.frozen? ⟨b, 3, none⟩ = false :=
  ⟨Lib.frozen_of_heap H 0, Lib.frozen_of_heap H 1, Lib.frozen_of_heap H 2, Lib.frozen_of_heap H 3⟩
theorem FdBox.fill (H : FdBox b f w) (g : Fd) : FdBox b g (fillF w b g) := by
  unfold FdBox fillF at *
  simp [World.setCell, Array.getElem?_modify, H]
theorem below_fillF {m : Nat} (hb : m ≤ b) (w : World) (f : Fd) : Below m w (fillF w b f) := by
  unfold fillF
  exact ((((Below.refl _ _).setCell (p := ⟨b, 0, none⟩) hb _).setCell (p := ⟨b, 1, none⟩) hb _).setCell (p := ⟨b, 2, none⟩) hb _).setCell (p := ⟨b, 3, none⟩) hb _
theorem CrBox.lt (H : CrBox b cu cg w) : b < w.heap.size := (Array.getElem?_eq_some_iff.1 H).1
theorem CrBox.facts (H : CrBox b cu cg w) : w.cell? ⟨b, 0, none⟩ = some (.int .i64 cu) ∧ w.cell? ⟨b, 1, none⟩ = some (.int .i64 cg) := by
  refine ⟨?_, ?_⟩ <;> (rw [Lib.cell_of_heap H]; rfl)
end

/-- on the way of seek.Path: the walk in the box b, who asks in C, the answer in D -/
structure Mid (w0 : World) (BB X A M : Nat) (mv : Value) (st : St) (C D b : Nat) (cu cg : Int) (here : Int) (rest : List (List UInt8)) (must : Bool) (hops : Nat) (w : World) : Prop where
  at_ : At w0.heap.size b X st here rest must hops w
  wd : Wd BB X A M mv st w
  found : FdBox D noFd w
  cred : CrBox C cu cg w
  low : Below w0.heap.size w0 w
  hb : w0.heap.size ≤ b
  hD : w0.heap.size ≤ D
section
variable {w0 : World} {BB X A M : Nat} {mv : Value} {st : St} {C D b : Nat} {cu cg : Int} {here : Int} {rest : List (List UInt8)} {must : Bool} {hops : Nat} {w w' : World}
theorem Mid.below (h : Mid w0 BB X A M mv st C D b cu cg here rest must hops w) (hb : Below w.heap.size w w') : Mid w0 BB X A M mv st C D b cu cg here rest must hops w' :=
  ⟨h.at_.below hb, h.wd.below hb, (hb.block D h.found.lt).trans h.found, (hb.block C h.cred.lt).trans h.cred, h.low.trans (hb.mono h.low.size), h.hb, h.hD⟩
theorem Mid.turn (h : Mid w0 BB X A M mv st C D b cu cg here rest must hops w) (ht : Turn (fun k => k = b) w w') {here' : Int} {rest' : List (List UInt8)} {must' : Bool} {hops' : Nat} (hA : At w0.heap.size b X st here' rest' must' hops' w') :
    Mid w0 BB X A M mv st C D b cu cg here' rest' must' hops' w' := by
  have hw := h.at_.wd h.wd ht
  have hA0 := h.at_
  obtain ⟨es, rv, H, _, _⟩ := hA0
  refine ⟨hA, hw, ?_, ?_, ?_, h.hb, h.hD⟩
  · exact (ht.block D h.found.lt fun e => by subst e; have := h.found; unfold FdBox at this; unfold WkBox at H; rw [H] at this; cases this).trans h.found
  · exact (ht.block C h.cred.lt fun e => by subst e; have := h.cred; unfold CrBox at this; unfold WkBox at H; rw [H] at this; cases this).trans h.cred
  · exact h.low.trans (ht.below h.low.size fun i e => by rw [e]; exact h.hb)
end
end Go.Proofs.YtlceaecibjbeaaaGreat.K
