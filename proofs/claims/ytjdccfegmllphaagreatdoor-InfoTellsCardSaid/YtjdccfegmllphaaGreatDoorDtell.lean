/-
  DateTells, walked: the program's answers are the reference's.
-/
import Derived.Test.YtjdccfegmllphaaGreatDoorDback
import Derived.Test.YtjdccfegmllphaaGreatDoorDrtext
import Derived.Test.YtjdccfegmllphaaGreatDoorDrpar
namespace Go.Proofs.YtjdccfegmllphaaGreatDoor
open Go.RowKit Go.Shelf

theorem refParse_any (s : ByteArray) (w : World) :
    Calls Tryz.prog 23 #[.string s] w fun e w' => e = .returned (.tuple #[.int .i64 (ps s.data.toList).1, .int .i64 (ps s.data.toList).2]) ∧ Below w.heap.size w w' := by
  by_cases h : s.size = 19
  · exact refParse_19 s h w
  · rw [ps_none (rd_not19 (by rw [← Lib.size_eq]; exact h))]; exact refParse_long s h w
theorem parse_out {s : ByteArray} {n f : Int} (hp : ps s.data.toList = (n, f)) (hs : s.size ≤ 1000000) (w : World) (hL : Laid w) :
    Calls Tryz.prog 19 #[.string s] w fun e w' => e = .returned (.tuple #[.int .i64 n, .int .i64 f]) ∧ Below w.heap.size w w' :=
  (parse_any s hs w hL).mono fun e w' ⟨he, hb⟩ => ⟨by rw [he, hp], hb⟩
theorem refParse_out {s : ByteArray} {n f : Int} (hp : ps s.data.toList = (n, f)) (w : World) :
    Calls Tryz.prog 23 #[.string s] w fun e w' => e = .returned (.tuple #[.int .i64 n, .int .i64 f]) ∧ Below w.heap.size w w' :=
  (refParse_any s w).mono fun e w' ⟨he, hb⟩ => ⟨by rw [he, hp], hb⟩
/-- one answer for the program and the reference -/
structure Both (x y m d h i s f : Int) (T : List UInt8) : Prop where
  of : ∀ w : World, Calls Tryz.prog 25 #[.int .i64 x] w fun e w' => e = .returned (.tuple #[.agg #[.int .i64 y, .int .i64 m, .int .i64 d, .int .i64 h, .int .i64 i, .int .i64 s], .int .i64 f]) ∧ Below w.heap.size w w'
  rof : ∀ w : World, Calls Tryz.prog 29 #[.int .i64 x] w fun e w' => e = .returned (.tuple #[.agg #[.int .i64 y, .int .i64 m, .int .i64 d, .int .i64 h, .int .i64 i, .int .i64 s], .int .i64 f]) ∧ Below w.heap.size w w'
  tx : ∀ w : World, Laid w → Calls Tryz.prog 10 #[.int .i64 x] w fun e w' => e = .returned (.tuple #[.string ⟨T.toArray⟩, .int .i64 f]) ∧ Below w.heap.size w w'
  rtx : ∀ w : World, Calls Tryz.prog 14 #[.int .i64 x] w fun e w' => e = .returned (.tuple #[.string ⟨T.toArray⟩, .int .i64 f]) ∧ Below w.heap.size w w'
theorem both_ex (x : Int) : ∃ y m d h i s f T, Both x y m d h i s f T := by
  by_cases hx : x < 0 ∨ 253402300799 < x
  · exact ⟨0, 0, 0, 0, 0, 0, 3, [], of_bad x hx, refOf_bad x hx, fun w _ => text_bad x hx w, refText_bad x hx⟩
  · obtain ⟨n, rfl⟩ : ∃ n : Nat, x = n := ⟨x.toNat, by omega⟩
    obtain ⟨y, m, d, h, i, s, c⟩ := M.cv_ex n (by omega) (by omega)
    exact ⟨y, m, d, h, i, s, 0, _, of_good n c, refOf_good n c, fun w hL => text_good n c w hL, refText_good n c⟩
/-- what is kept beside the calls of the last line -/
structure Kp (b q r : Nat) (p0 p1 p2 p3 p4 p5 y m d h i s : Int) (w0 w : World) : Prop where
  c : Six b p0 p1 p2 p3 p4 p5 w
  a : Six q y m d h i s w
  z : Six r y m d h i s w
  laid : Laid w
  below : Below w0.heap.size w0 w
  rb : b < w.heap.size
  rq : q < w.heap.size
  rr : r < w.heap.size
theorem Kp.later {b q r : Nat} {p0 p1 p2 p3 p4 p5 y m d h i s : Int} {w0 w w' : World} (k : Kp b q r p0 p1 p2 p3 p4 p5 y m d h i s w0 w) (hb : Below w.heap.size w w') : Kp b q r p0 p1 p2 p3 p4 p5 y m d h i s w0 w' :=
  ⟨k.c.later hb k.rb, k.a.later hb k.rq, k.z.later hb k.rr, k.laid.of_below hb, below_two k.below hb, Nat.lt_of_lt_of_le k.rb hb.size, Nat.lt_of_lt_of_le k.rq hb.size, Nat.lt_of_lt_of_le k.rr hb.size⟩
end Go.Proofs.YtjdccfegmllphaaGreatDoor
