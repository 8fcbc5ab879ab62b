/-
  Space of a mount: plain mathematics of package quota, what lies in a box.
-/
import Derived.Test.YtmoimijclafgcaaProg
import Derived.WalkKit
import Derived.WalkSpells
import Derived.WalkSmall
import Derived.Handy
import Derived.IntWalk
import Derived.Lib.Hide
import Derived.Lib.OthersKept
import Derived.Shelf.RegionOpen
import Derived.Shelf.Small.Wraps
namespace Go.Proofs.Ytmoimijclafgcaa.U
open Go.RowKit Go.Shelf

/-- what a mount has used, and may use -/
structure Sp where
  b : Int
  n : Int
  mb : Int
  mn : Int
def Sp.v (q : Sp) : Value := .agg #[.int .i64 q.b, .int .i64 q.n, .int .i64 q.mb, .int .i64 q.mn]
/-- is a number between two? -/
def btw (l n m : Int) : Bool := decide (l ≤ n) && decide (n ≤ m)
def amt (n : Int) : Bool := btw (-1073741824) n 1073741824
def fine (q : Sp) : Bool := decide (0 ≤ q.b) && (decide (0 ≤ q.n) && (decide (q.b ≤ q.mb) && (decide (q.n ≤ q.mn) && (decide (q.mb ≤ 1073741824) && decide (q.mn ≤ 65536)))))
/-- more is used, or less; the error's number -/
def took (q : Sp) (x y : Int) : Sp × Int :=
  if fine q = true ∧ amt x = true ∧ amt y = true then
    if q.mn < q.n + y then (q, 15) else if q.mb < q.b + x then (q, 14) else if q.b + x < 0 ∨ q.n + y < 0 then (q, 1) else (⟨q.b + x, q.n + y, q.mb, q.mn⟩, 0)
  else (q, 1)
/-- the blocks of a node of a kind and a size -/
def blk (k s : Int) : Int := if k = 1 then 1 else if k = 2 then (if s < 1 then 0 else (s - 1) / 512 + 1) else 0
/-- a mount of which nothing is used -/
def fresh (x y : Int) : Sp × Int := if btw 1 x 1073741824 = true ∧ btw 1 y 65536 = true then (⟨0, 0, x, y⟩, 0) else (⟨0, 0, 0, 0⟩, 3)

theorem fine_iff (q : Sp) : fine q = true ↔ 0 ≤ q.b ∧ 0 ≤ q.n ∧ q.b ≤ q.mb ∧ q.n ≤ q.mn ∧ q.mb ≤ 1073741824 ∧ q.mn ≤ 65536 := by
  unfold fine; simp
theorem amt_iff (x : Int) : amt x = true ↔ -1073741824 ≤ x ∧ x ≤ 1073741824 := by
  unfold amt btw; simp
theorem btw_iff (l n m : Int) : btw l n m = true ↔ l ≤ n ∧ n ≤ m := by
  unfold btw; simp
/-- a space that is fine stays so -/
theorem took_fine (q : Sp) (x y : Int) (h : fine q = true) : fine (took q x y).1 = true := by
  have h0 := (fine_iff q).1 h
  unfold took
  split
  · split
    · exact h
    · split
      · exact h
      · split
        · exact h
        · rw [fine_iff]
          dsimp only
          omega
  · exact h
/-- with an error nothing changes -/
theorem took_err (q : Sp) (x y : Int) (h : (took q x y).2 ≠ 0) : (took q x y).1 = q := by
  unfold took at *
  split
  · split
    · rfl
    · split
      · rfl
      · split
        · rfl
        · rename_i a b c d
          rw [if_pos a, if_neg b, if_neg c, if_neg d] at h
          exact absurd rfl h
  · rfl
/-- what is taken, and given back, changes nothing -/
theorem took_back (q : Sp) (x y : Int) (h : (took q x y).2 = 0) : -1073741824 ≤ x ∧ x ≤ 1073741824 ∧ -1073741824 ≤ y ∧ y ≤ 1073741824 ∧ took (took q x y).1 (0 - x) (0 - y) = (q, 0) := by
  unfold took at h
  split at h
  · rename_i hc
    obtain ⟨h1, h2, h3⟩ := hc
    split at h
    · cases h
    · split at h
      · cases h
      · split at h
        · cases h
        · rename_i a b c
          have e : took q x y = (⟨q.b + x, q.n + y, q.mb, q.mn⟩, 0) := by
            unfold took; rw [if_pos ⟨h1, h2, h3⟩, if_neg a, if_neg b, if_neg c]
          have f1 := (fine_iff q).1 h1
          have f2 := (amt_iff x).1 h2
          have f3 := (amt_iff y).1 h3
          refine ⟨f2.1, f2.2, f3.1, f3.2, ?_⟩
          rw [e]
          unfold took
          rw [if_pos ⟨by rw [fine_iff]; dsimp only; omega, by rw [amt_iff]; omega, by rw [amt_iff]; omega⟩]
          dsimp only
          rw [if_neg (by omega), if_neg (by omega), if_neg (by omega)]
          obtain ⟨qb, qn, qm, qk⟩ := q
          dsimp only
          rw [show qb + x + (0 - x) = qb by omega, show qn + y + (0 - y) = qn by omega]
  · cases h

theorem below_two {w w1 w2 : World} (h1 : Below w.heap.size w w1) (h2 : Below w1.heap.size w1 w2) : Below w.heap.size w w2 := h1.trans (h2.mono h1.size)
theorem ret_bool {a b : Bool} (h : a = b) : Ending.returned (.bool a) = .returned (.bool b) := by rw [h]
/-- four integers lie in a box -/
def Box4 (b : Nat) (q : Sp) (w : World) : Prop := w.cell? ⟨b, 0, none⟩ = some (.int .i64 q.b) ∧ w.cell? ⟨b, 1, none⟩ = some (.int .i64 q.n) ∧ w.cell? ⟨b, 2, none⟩ = some (.int .i64 q.mb) ∧ w.cell? ⟨b, 3, none⟩ = some (.int .i64 q.mn)
theorem Box4.new (w : World) (q : Sp) (t : TypeId) : Box4 w.heap.size q (w.alloc (.cells #[.int .i64 q.b, .int .i64 q.n, .int .i64 q.mb, .int .i64 q.mn] t)) := by
  refine ⟨?_, ?_, ?_, ?_⟩ <;> rw [World.cell?_alloc_new] <;> rfl
theorem Box4.lt {b : Nat} {q : Sp} {w : World} (c : Box4 b q w) : b < w.heap.size := World.block_lt_of_cell? _ _ c.1
theorem Box4.later {b n : Nat} {q : Sp} {w w' : World} (c : Box4 b q w) (hb : Below n w w') (hn : b < n) : Box4 b q w' := by
  obtain ⟨c0, c1, c2, c3⟩ := c
  refine ⟨?_, ?_, ?_, ?_⟩ <;> rw [hb.cell (by exact hn)] <;> assumption
theorem Box4.next {b : Nat} {q : Sp} {w w' : World} (c : Box4 b q w) (hb : Below w.heap.size w w') : Box4 b q w' := c.later hb c.lt
theorem Box4.alloc {b : Nat} {q : Sp} {w : World} (c : Box4 b q w) (o : Obj) : Box4 b q (w.alloc o) := c.next ((Below.refl _ w).alloc (Nat.le_refl _) o)
theorem Box4.drew {b : Nat} {q : Sp} {w : World} (c : Box4 b q w) : Box4 b q w.drew := c.next ((Below.refl _ w).drew)
/-- four cells that may be written -/
def Open4 (b : Nat) (w : World) : Prop := w.frozen? ⟨b, 0, none⟩ = false ∧ w.frozen? ⟨b, 1, none⟩ = false ∧ w.frozen? ⟨b, 2, none⟩ = false ∧ w.frozen? ⟨b, 3, none⟩ = false
theorem Open4.new (w : World) (t : TypeId) (z : Array Value) : Open4 w.heap.size (w.alloc (.cells z t)) := by
  refine ⟨?_, ?_, ?_, ?_⟩ <;> exact World.frozen?_alloc_new _ _ _ _
theorem Open4.later {b n : Nat} {w w' : World} (c : Open4 b w) (hb : Below n w w') (hn : b < n) : Open4 b w' := by
  obtain ⟨c0, c1, c2, c3⟩ := c
  refine ⟨?_, ?_, ?_, ?_⟩ <;> rw [hb.frozen (by exact hn)] <;> assumption
theorem Box4.put {b : Nat} {q : Sp} {x y z u : Int} {w W : World} (c : Box4 b q w)
    (hW : ((((w.setCell ⟨b, 0, none⟩ (.int .i64 x)).setCell ⟨b, 1, none⟩ (.int .i64 y)).setCell ⟨b, 2, none⟩ (.int .i64 z)).setCell ⟨b, 3, none⟩ (.int .i64 u)) = W) :
    Box4 b ⟨x, y, z, u⟩ W ∧ ∀ n, n ≤ b → Below n w W := by
  obtain ⟨c0, c1, c2, c3⟩ := c
  subst hW
  refine ⟨?_, fun n hn => (((((Below.refl _ w).setCell hn _).setCell hn _).setCell hn _).setCell hn _)⟩
  refine ⟨?_, ?_, ?_, ?_⟩
  · rw [World.cell?_setCell_other _ _ _ _ (by simp), World.cell?_setCell_other _ _ _ _ (by simp), World.cell?_setCell_other _ _ _ _ (by simp)]
    exact World.cell?_setCell_same _ _ _ c0
  · rw [World.cell?_setCell_other _ _ _ _ (by simp), World.cell?_setCell_other _ _ _ _ (by simp)]
    exact World.cell?_setCell_same _ _ _ (by rw [World.cell?_setCell_other _ _ _ _ (by simp)]; exact c1)
  · rw [World.cell?_setCell_other _ _ _ _ (by simp)]
    exact World.cell?_setCell_same _ _ _ (by rw [World.cell?_setCell_other _ _ _ _ (by simp), World.cell?_setCell_other _ _ _ _ (by simp)]; exact c2)
  · exact World.cell?_setCell_same _ _ _ (by rw [World.cell?_setCell_other _ _ _ _ (by simp), World.cell?_setCell_other _ _ _ _ (by simp), World.cell?_setCell_other _ _ _ _ (by simp)]; exact c3)
end Go.Proofs.Ytmoimijclafgcaa.U
