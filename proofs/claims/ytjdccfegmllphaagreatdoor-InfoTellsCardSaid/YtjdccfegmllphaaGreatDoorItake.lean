/-
  info's record: its four cells; fill and take.
-/
import Derived.Test.YtjdccfegmllphaaGreatDoorIlines
import Derived.Handy
import Derived.Laws.IdiomCopy
namespace Go.Proofs.YtjdccfegmllphaaGreatDoor.I
open Go.RowKit Go.Shelf

/-- the four cells of a record -/
def RecAt (B : Nat) (r : Rec) (w : World) : Prop := w.heap[B]? = some (.cells #[.string ⟨r.path.toArray⟩, .bool r.pf, .string ⟨r.date.toArray⟩, .bool r.df] 42 (0, 0))
theorem RecAt.lt {B : Nat} {r : Rec} {w : World} (h : RecAt B r w) : B < w.heap.size := (Array.getElem?_eq_some_iff.1 h).1
theorem RecAt.c0 {B : Nat} {r : Rec} {w : World} (h : RecAt B r w) : w.cell? ⟨B, 0, none⟩ = some (.string ⟨r.path.toArray⟩) := by simp [World.cell?, show w.heap[B]? = _ from h]
theorem RecAt.c1 {B : Nat} {r : Rec} {w : World} (h : RecAt B r w) : w.cell? ⟨B, 1, none⟩ = some (.bool r.pf) := by simp [World.cell?, show w.heap[B]? = _ from h]
theorem RecAt.c2 {B : Nat} {r : Rec} {w : World} (h : RecAt B r w) : w.cell? ⟨B, 2, none⟩ = some (.string ⟨r.date.toArray⟩) := by simp [World.cell?, show w.heap[B]? = _ from h]
theorem RecAt.c3 {B : Nat} {r : Rec} {w : World} (h : RecAt B r w) : w.cell? ⟨B, 3, none⟩ = some (.bool r.df) := by simp [World.cell?, show w.heap[B]? = _ from h]
theorem RecAt.open {B : Nat} {r : Rec} {w : World} (h : RecAt B r w) (k : Nat) : w.frozen? ⟨B, k, none⟩ = false := by simp [World.frozen?, show w.heap[B]? = _ from h]
theorem RecAt.kept {B : Nat} {r : Rec} {w w' : World} {row : Option Nat} (h : RecAt B r w) (hg : w.grownBy w' row) (hne : some B ≠ row) : RecAt B r w' := (hg.block B h.lt hne).trans h
theorem RecAt.below {B n : Nat} {r : Rec} {w w' : World} (h : RecAt B r w) (hb : Below n w w') (hn : B < n) : RecAt B r w' := (hb.block B hn).trans h
theorem RecAt.new (w : World) : RecAt w.heap.size r0 (w.alloc (.cells #[.string ⟨#[]⟩, .bool false, .string ⟨#[]⟩, .bool false] 42)) := World.alloc_heap_new w _
theorem set_block {w : World} {B k : Nat} {c : Array Value} {t : TypeId} (h : w.heap[B]? = some (.cells c t (0, 0))) (v : Value) : (w.setCell ⟨B, k, none⟩ v).heap[B]? = some (.cells (c.setIfInBounds k v) t (0, 0)) := by
  obtain ⟨hlt, h'⟩ := Array.getElem?_eq_some_iff.1 h
  show (w.heap.modify B _)[B]? = _
  rw [Array.getElem?_eq_getElem (by rw [Array.size_modify]; exact hlt), Array.getElem_modify_self, h']
  simp
theorem RecAt.fillP {B : Nat} {r : Rec} {w : World} (h : RecAt B r w) (hf : r.pf = false) (v : List UInt8) : RecAt B (fillP r v) ((w.setCell ⟨B, 0, none⟩ (.string ⟨v.toArray⟩)).setCell ⟨B, 1, none⟩ (.bool true)) := by
  unfold I.fillP
  rw [if_neg (by simp [hf])]
  exact set_block (set_block h _) _
theorem RecAt.fillD {B : Nat} {r : Rec} {w : World} (h : RecAt B r w) (hf : r.df = false) (v : List UInt8) : RecAt B (fillD r v) ((w.setCell ⟨B, 2, none⟩ (.string ⟨v.toArray⟩)).setCell ⟨B, 3, none⟩ (.bool true)) := by
  unfold I.fillD
  rw [if_neg (by simp [hf])]
  exact set_block (set_block h _) _
theorem grown_two (w : World) (B k m : Nat) (u v : Value) : w.grownBy ((w.setCell ⟨B, k, none⟩ u).setCell ⟨B, m, none⟩ v) (some B) :=
  ⟨rfl, rfl, rfl, by simp [World.setCell], fun j _ hj => by
    have hne : j ≠ B := fun e => hj (by rw [e])
    rw [Below.heap_setCell _ _ _ _ hne, Below.heap_setCell _ _ _ _ hne]⟩
theorem grown_trans {a b c : World} {B : Nat} (h : Below a.heap.size a b) (k : b.grownBy c (some B)) : a.grownBy c (some B) :=
  ⟨k.os.trans h.os, k.tape.trans h.tape, k.output.trans h.output, Nat.le_trans h.size k.size, fun j hj hne => (k.block j (Nat.lt_of_lt_of_le hj h.size) hne).trans (h.block j hj)⟩
theorem grown_refl (w : World) (B : Nat) : w.grownBy w (some B) := ⟨rfl, rfl, rfl, Nat.le_refl _, fun _ _ _ => rfl⟩

set_option maxHeartbeats 1000000 in
theorem fill_done (B k m : Nat) (hm : m = k + 1) (v : List UInt8) (w : World) (hc : w.cell? ⟨B, m, none⟩ = some (.bool true)) :
    Calls Tryz.prog 36 #[.pointer (some ⟨B, k, none⟩), .string ⟨v.toArray⟩] w fun e w' => (∃ u, e = .returned u) ∧ w' = w := by
  subst hm
  go_enter Tryz.func36, Tryz.ntmps36
  go_wp2
  go_end0
  exact ⟨⟨_, rfl⟩, rfl⟩
set_option maxHeartbeats 1000000 in
theorem fill_new (B k m : Nat) (hm : m = k + 1) (v : List UInt8) (w : World) (hc : w.cell? ⟨B, m, none⟩ = some (.bool false)) {u : Value} (hc0 : w.cell? ⟨B, k, none⟩ = some u) (hf0 : w.frozen? ⟨B, k, none⟩ = false) (hf1 : w.frozen? ⟨B, m, none⟩ = false) :
    Calls Tryz.prog 36 #[.pointer (some ⟨B, k, none⟩), .string ⟨v.toArray⟩] w fun e w' => (∃ u, e = .returned u) ∧ w' = (w.setCell ⟨B, k, none⟩ (.string ⟨v.toArray⟩)).setCell ⟨B, m, none⟩ (.bool true) := by
  subst hm
  go_enter Tryz.func36, Tryz.ntmps36
  go_wp2
  go_end0
  exact ⟨⟨_, rfl⟩, rfl⟩
end Go.Proofs.YtjdccfegmllphaaGreatDoor.I
