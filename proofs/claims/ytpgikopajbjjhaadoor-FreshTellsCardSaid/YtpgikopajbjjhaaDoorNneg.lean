/-
  What num.negated does at every string.
-/
import Derived.Test.YtpgikopajbjjhaaDoorProg
import Derived.Test.YtpgikopajbjjhaaDoorNmath
import Derived.WalkKit
import Derived.WalkSpells
import Derived.WalkSmall
import Derived.Lib.OthersKept
import Derived.Lib.Hide
import Derived.IntWalk
namespace Go.Proofs.YtpgikopajbjjhaaDoor.K
open Go.RowKit

theorem drop_cons (s : ByteArray) (k : Nat) (h : k < s.size) : s.data.toList.drop k = (s[k]'h) :: s.data.toList.drop (k + 1) := by
  rw [List.drop_eq_getElem_cons (by simpa using h)]; rfl

theorem td (a y : Int) (h0 : 0 ≤ y) (h1 : y ≤ 9) : (a < (-9223372036854775808 + y).tdiv 10) ↔ a * 10 - y < -9223372036854775808 := by
  have e : (-9223372036854775808 + y).tdiv 10 = -((9223372036854775808 - y) / 10) := by
    rw [show (-9223372036854775808 + y) = -(9223372036854775808 - y) by omega, Int.neg_tdiv, Int.tdiv_eq_ediv_of_nonneg (by omega)]
  rw [e]; omega
theorem neg_fail (a : Int) (c : UInt8) (l : List UInt8) (x : Int) (hx : x = (c.toNat : Int)) (h : x < 48 ∨ 57 < x ∨ a < (-9223372036854775808 + (x - 48)).tdiv 10) : M.neg a (c :: l) = none := by
  unfold M.neg
  rw [if_neg]
  rintro ⟨hd, hb⟩
  have hd := (M.dig_iff c).1 hd
  rcases h with h | h | h
  · omega
  · omega
  · have := (td a (x - 48) (by omega) (by omega)).1 h; omega
theorem neg_step (a : Int) (c : UInt8) (l : List UInt8) (x : Int) (hx : x = (c.toNat : Int)) (h0 : 48 ≤ x) (h1 : x ≤ 57) (h : (-9223372036854775808 + (x - 48)).tdiv 10 ≤ a) :
    M.neg a (c :: l) = M.neg (a * 10 - (x - 48)) l ∧ -9223372036854775808 ≤ a * 10 - (x - 48) := by
  have hb : ¬ (a * 10 - (x - 48) < -9223372036854775808) := fun hh => by have := (td a (x - 48) (by omega) (by omega)).2 hh; omega
  refine ⟨?_, by omega⟩
  rw [M.neg, if_pos ⟨(M.dig_iff c).2 (by omega), by omega⟩, hx]
def NegOut (l : List UInt8) (e : Ending) : Prop := e = .returned (.tuple #[.int .i64 ((M.neg 0 l).getD 0), .bool (M.neg 0 l).isSome])
theorem negOut_some {l : List UInt8} {n : Int} (h : M.neg 0 l = some n) : NegOut l (.returned (.tuple #[.int .i64 n, .bool true])) := by unfold NegOut; rw [h]; rfl
theorem negOut_none {l : List UInt8} (h : M.neg 0 l = none) : NegOut l (.returned (.tuple #[.int .i64 0, .bool false])) := by unfold NegOut; rw [h]; rfl

def NegRel (s : ByteArray) (w : World) (n : Value) (wr : World) : Prop :=
  ∃ (pos : Nat) (a : Int), pos ≤ s.size ∧ -9223372036854775808 ≤ a ∧ a ≤ 0 ∧ n = .int .i64 a ∧ M.neg 0 s.data.toList = M.neg a (s.data.toList.drop pos) ∧ wr.heap[w.heap.size]? = some (.stringIter s pos) ∧ Below w.heap.size w wr

end Go.Proofs.YtpgikopajbjjhaaDoor.K
