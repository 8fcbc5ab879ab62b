/-
  DateTells, walked: the program's answers are the reference's.
-/
import Derived.Test.YtggbhbhphfgloaaDoorDback
import Derived.Test.YtggbhbhphfgloaaDoorDrtext
import Derived.Test.YtggbhbhphfgloaaDoorDrpar
namespace Go.Proofs.YtggbhbhphfgloaaDoor
open Go.RowKit Go.Shelf

theorem refParse_any (s : ByteArray) (w : World) :
    Calls Tryd.prog 15 #[.string s] w fun e w' => e = .returned (.tuple #[.int .i64 (ps s.data.toList).1, .int .i64 (ps s.data.toList).2]) ∧ Below w.heap.size w w' := by
  by_cases h : s.size = 19
  · exact refParse_19 s h w
  · rw [ps_none (rd_not19 (by rw [← Lib.size_eq]; exact h))]; exact refParse_long s h w
theorem parse_out {s : ByteArray} {n f : Int} (hp : ps s.data.toList = (n, f)) (hs : s.size ≤ 1000000) (w : World) (hL : Laid w) :
    Calls Tryd.prog 14 #[.string s] w fun e w' => e = .returned (.tuple #[.int .i64 n, .int .i64 f]) ∧ Below w.heap.size w w' :=
  (parse_any s hs w hL).mono fun e w' ⟨he, hb⟩ => ⟨by rw [he, hp], hb⟩
theorem refParse_out {s : ByteArray} {n f : Int} (hp : ps s.data.toList = (n, f)) (w : World) :
    Calls Tryd.prog 15 #[.string s] w fun e w' => e = .returned (.tuple #[.int .i64 n, .int .i64 f]) ∧ Below w.heap.size w w' :=
  (refParse_any s w).mono fun e w' ⟨he, hb⟩ => ⟨by rw [he, hp], hb⟩
/-- one answer for the program and the reference -/
structure Both (x y m d h i s f : Int) (T : List UInt8) : Prop where
  of : ∀ w : World, Calls Tryd.prog 7 #[.int .i64 x] w fun e w' => e = .returned (.tuple #[.agg #[.int .i64 y, .int .i64 m, .int .i64 d, .int .i64 h, .int .i64 i, .int .i64 s], .int .i64 f]) ∧ Below w.heap.size w w'
  rof : ∀ w : World, Calls Tryd.prog 8 #[.int .i64 x] w fun e w' => e = .returned (.tuple #[.agg #[.int .i64 y, .int .i64 m, .int .i64 d, .int .i64 h, .int .i64 i, .int .i64 s], .int .i64 f]) ∧ Below w.heap.size w w'
  tx : ∀ w : World, Laid w → Calls Tryd.prog 12 #[.int .i64 x] w fun e w' => e = .returned (.tuple #[.string ⟨T.toArray⟩, .int .i64 f]) ∧ Below w.heap.size w w'
  rtx : ∀ w : World, Calls Tryd.prog 13 #[.int .i64 x] w fun e w' => e = .returned (.tuple #[.string ⟨T.toArray⟩, .int .i64 f]) ∧ Below w.heap.size w w'
theorem both_ex (x : Int) : ∃ y m d h i s f T, Both x y m d h i s f T := by
  by_cases hx : x < 0 ∨ 253402300799 < x
  · exact ⟨0, 0, 0, 0, 0, 0, 3, [], of_bad x hx, refOf_bad x hx, fun w _ => text_bad x hx w, refText_bad x hx⟩
  · obtain ⟨n, rfl⟩ : ∃ n : Nat, x = n := ⟨x.toNat, by omega⟩
    obtain ⟨y, m, d, h, i, s, c⟩ := M.cv_ex n (by omega) (by omega)
    exact ⟨y, m, d, h, i, s, 0, _, of_good n c, refOf_good n c, fun w hL => text_good n c w hL, refText_good n c⟩
/-- what is kept beside the calls of the last line -/
structure Kp (b q r : Nat) (p0 p1 p2 p3 p4 p5 y m d h i s : Int) (w0 w : World) : Prop where
  c : Six b p0 p1 p2 p3 p4 p5 w
  a : Six q y m d h i s w
  z : Six r y m d h i s w
  laid : Laid w
  below : Below w0.heap.size w0 w
  rb : b < w.heap.size
  rq : q < w.heap.size
  rr : r < w.heap.size
theorem Kp.later {b q r : Nat} {p0 p1 p2 p3 p4 p5 y m d h i s : Int} {w0 w w' : World} (k : Kp b q r p0 p1 p2 p3 p4 p5 y m d h i s w0 w) (hb : Below w.heap.size w w') : Kp b q r p0 p1 p2 p3 p4 p5 y m d h i s w0 w' :=
  ⟨k.c.later hb k.rb, k.a.later hb k.rq, k.z.later hb k.rr, k.laid.of_below hb, below_two k.below hb, Nat.lt_of_lt_of_le k.rb hb.size, Nat.lt_of_lt_of_le k.rq hb.size, Nat.lt_of_lt_of_le k.rr hb.size⟩
set_option maxHeartbeats 1000000 in
theorem dateTells_long (x p0 p1 p2 p3 p4 p5 : Int) (str : ByteArray) (h100 : 100 < str.size) (w : World) (hL : Laid w) :
    Calls Tryd.prog 3 #[.int .i64 x, .agg #[.int .i64 p0, .int .i64 p1, .int .i64 p2, .int .i64 p3, .int .i64 p4, .int .i64 p5], .string str] w fun e w' => e = .returned (.bool true) ∧ Below w.heap.size w w' := by
  have h1 : (100 : Int) < str.size := by omega
  have b0 : ∀ o, Below w.heap.size w (w.alloc o) := fun o => (Below.refl _ w).alloc (Nat.le_refl _) o
  go_enter Tryd.func3, Tryd.ntmps3
  go_wp2_with fail
  refine (awake_any _ (hL.of_below (b0 _))).mono ?_
  rintro e w1 ⟨rfl, b1⟩
  go_wp2
  go_ret
  exact ⟨rfl, below_two (b0 _) b1⟩
set_option maxRecDepth 100000 in
set_option maxHeartbeats 4000000 in
theorem dateTells_short (x p0 p1 p2 p3 p4 p5 : Int) (str : ByteArray) (h100 : ¬ 100 < str.size) (w : World) (hL : Laid w) :
    Calls Tryd.prog 3 #[.int .i64 x, .agg #[.int .i64 p0, .int .i64 p1, .int .i64 p2, .int .i64 p3, .int .i64 p4, .int .i64 p5], .string str] w fun e w' => e = .returned (.bool true) ∧ Below w.heap.size w w' := by
  have h1 : ¬ (100 : Int) < str.size := by omega
  have hM : str.size ≤ 1000000 := by omega
  obtain ⟨y, m, d, h, i, s, f, T, hB⟩ := both_ex x
  obtain ⟨n, g, hsc⟩ : ∃ n g, sc p0 p1 p2 p3 p4 p5 = (n, g) := ⟨_, _, rfl⟩
  obtain ⟨v, k, hps⟩ : ∃ v k, ps str.data.toList = (v, k) := ⟨_, _, rfl⟩
  have HB := Lib.hid hB
  have HSC := Lib.hid hsc
  have HPS := Lib.hid hps
  clear hB hsc hps h100
  go_enter Tryd.func3, Tryd.ntmps3
  go_wp2_with fail
  have S0 := Six.new w 22 p0 p1 p2 p3 p4 p5
  have b0 : Below w.heap.size w (w.alloc (.cells #[.int .i64 p0, .int .i64 p1, .int .i64 p2, .int .i64 p3, .int .i64 p4, .int .i64 p5] 22)) := (Below.refl _ w).alloc (Nat.le_refl _) _
  have z0 : w.heap.size < (w.alloc (.cells #[.int .i64 p0, .int .i64 p1, .int .i64 p2, .int .i64 p3, .int .i64 p4, .int .i64 p5] 22)).heap.size := by simp
  generalize w.alloc _ = W0 at *
  have L0 := hL.of_below b0
  refine (HB.out.of _).mono ?_
  rintro e w1 ⟨rfl, b1⟩
  have S1 := S0.later b1 z0
  have z1 := Nat.lt_of_lt_of_le z0 b1.size
  have L1 := L0.of_below b1
  have B1 := below_two b0 b1
  clear S0 b0 z0 L0 b1
  go_wp2_with fail
  have A0 := Six.new w1 25 y m d h i s
  have b2 : Below w1.heap.size w1 (w1.alloc (.cells #[.int .i64 y, .int .i64 m, .int .i64 d, .int .i64 h, .int .i64 i, .int .i64 s] 25)) := (Below.refl _ w1).alloc (Nat.le_refl _) _
  have z2 : w1.heap.size < (w1.alloc (.cells #[.int .i64 y, .int .i64 m, .int .i64 d, .int .i64 h, .int .i64 i, .int .i64 s] 25)).heap.size := by simp
  generalize w1.alloc _ = W1 at *
  have S2 := S1.later b2 z1
  have L2 := L1.of_below b2
  have B2 := below_two B1 b2
  have y2 := Nat.lt_trans z1 z2
  clear S1 L1 B1 b2
  refine (HB.out.rof _).mono ?_
  rintro e w3 ⟨rfl, b3⟩
  have S3 := S2.later b3 y2
  have A3 := A0.later b3 z2
  have L3 := L2.of_below b3
  have B3 := below_two B2 b3
  have y3 := Nat.lt_of_lt_of_le y2 b3.size
  have z3 := Nat.lt_of_lt_of_le z2 b3.size
  clear S2 L2 B2 y2 z2 A0 b3
  obtain ⟨c0, c1, c2, c3, c4, c5⟩ := id S3
  go_wp2_with fail
  have Z0 := Six.new w3 22 y m d h i s
  have b4 : Below w3.heap.size w3 (w3.alloc (.cells #[.int .i64 y, .int .i64 m, .int .i64 d, .int .i64 h, .int .i64 i, .int .i64 s] 22)) := (Below.refl _ w3).alloc (Nat.le_refl _) _
  have z4 : w3.heap.size < (w3.alloc (.cells #[.int .i64 y, .int .i64 m, .int .i64 d, .int .i64 h, .int .i64 i, .int .i64 s] 22)).heap.size := by simp
  generalize w3.alloc _ = W3 at *
  have K4 : Kp w.heap.size w1.heap.size w3.heap.size p0 p1 p2 p3 p4 p5 y m d h i s w W3 := ⟨S3.later b4 y3, A3.later b4 z3, Z0, L3.of_below b4, below_two B3 b4, Nat.lt_trans y3 z4, Nat.lt_trans z3 z4, z4⟩
  clear S3 A3 L3 B3 y3 z3 b4 z4 Z0 c0 c1 c2 c3 c4 c5
  refine (to_any _ _ _ _ _ _ _).mono ?_
  rintro e w5 ⟨rfl, b5⟩
  have K5 := K4.later b5
  clear K4 b5
  go_wp2_with fail
  refine (seconds_is HSC.out _).mono ?_
  rintro e w6 ⟨rfl, b6⟩
  have K6 := K5.later b6
  clear K5 b6
  obtain ⟨c0, c1, c2, c3, c4, c5⟩ := id K6.c
  go_wp2_with fail
  refine (refSeconds_is HSC.out _).mono ?_
  rintro e w7 ⟨rfl, b7⟩
  have K7 := K6.later b7
  clear K6 b7 c0 c1 c2 c3 c4 c5
  go_wp2_with fail
  refine (HB.out.tx _ K7.laid).mono ?_
  rintro e w8 ⟨rfl, b8⟩
  have K8 := K7.later b8
  clear K7 b8
  go_wp2_with fail
  refine (HB.out.rtx _).mono ?_
  rintro e w9 ⟨rfl, b9⟩
  have K9 := K8.later b9
  clear K8 b9
  go_wp2_with fail
  refine (parse_out HPS.out hM _ K9.laid).mono ?_
  rintro e w10 ⟨rfl, b10⟩
  have K10 := K9.later b10
  clear K9 b10
  go_wp2_with fail
  refine (refParse_out HPS.out _).mono ?_
  rintro e w11 ⟨rfl, b11⟩
  have K11 := (K10.later b11).later (drew_below w11)
  clear K10 b11
  have heq := eqIn6 y m d h i s
  go_wp2_with fail
  dsimp only [List.append]
  go_region_held3 (fun w' => (w'.cell? ⟨w.heap.size, 0, none⟩ = some (.int .i64 p0) ∧ w'.cell? ⟨w.heap.size, 1, none⟩ = some (.int .i64 p1) ∧ w'.cell? ⟨w.heap.size, 2, none⟩ = some (.int .i64 p2) ∧ w'.cell? ⟨w.heap.size, 3, none⟩ = some (.int .i64 p3) ∧ w'.cell? ⟨w.heap.size, 4, none⟩ = some (.int .i64 p4) ∧ w'.cell? ⟨w.heap.size, 5, none⟩ = some (.int .i64 p5)) ∧ (w'.cell? ⟨w1.heap.size, 0, none⟩ = some (.int .i64 y) ∧ w'.cell? ⟨w1.heap.size, 1, none⟩ = some (.int .i64 m) ∧ w'.cell? ⟨w1.heap.size, 2, none⟩ = some (.int .i64 d) ∧ w'.cell? ⟨w1.heap.size, 3, none⟩ = some (.int .i64 h) ∧ w'.cell? ⟨w1.heap.size, 4, none⟩ = some (.int .i64 i) ∧ w'.cell? ⟨w1.heap.size, 5, none⟩ = some (.int .i64 s)) ∧ (w'.cell? ⟨w3.heap.size, 0, none⟩ = some (.int .i64 y) ∧ w'.cell? ⟨w3.heap.size, 1, none⟩ = some (.int .i64 m) ∧ w'.cell? ⟨w3.heap.size, 2, none⟩ = some (.int .i64 d) ∧ w'.cell? ⟨w3.heap.size, 3, none⟩ = some (.int .i64 h) ∧ w'.cell? ⟨w3.heap.size, 4, none⟩ = some (.int .i64 i) ∧ w'.cell? ⟨w3.heap.size, 5, none⟩ = some (.int .i64 s))) (first | exact ⟨K11.c, K11.a, K11.z⟩ | exact ⟨K12.c, K12.a, K12.z⟩ | exact ⟨K13.c, K13.a, K13.z⟩ | exact ⟨K14.c, K14.a, K14.z⟩) (first | (go_at_call 16; refine (of_any _ _ _ _ _ _ w11.drew).mono ?_; rintro e w12 ⟨rfl, b12⟩; have K12 := K11.later b12) | (go_at_call 17; refine (leap_any p0 w12).mono ?_; rintro e wx ⟨rfl, rfl⟩) | (go_at_call 18; refine (refLeap_any p0 w12).mono ?_; rintro e wx ⟨rfl, rfl⟩) | (go_at_call 19; refine (days_any p0 p1 w12).mono ?_; rintro e wx ⟨rfl, rfl⟩) | (go_at_call 20; refine (refDays_any p0 p1 w12).mono ?_; rintro e w13 ⟨rfl, b13⟩; have K13 := K12.later b13) | (go_at_call 6; refine (awake_any w13 K13.laid).mono ?_; rintro e w14 ⟨rfl, b14⟩; have K14 := K13.later b14))
  go_wp2
  go_ret
  exact ⟨rfl, K14.below⟩
theorem dateTells_walk (x p0 p1 p2 p3 p4 p5 : Int) (str : ByteArray) (w : World) (hL : Laid w) :
    Calls Tryd.prog 3 #[.int .i64 x, .agg #[.int .i64 p0, .int .i64 p1, .int .i64 p2, .int .i64 p3, .int .i64 p4, .int .i64 p5], .string str] w fun e w' => e = .returned (.bool true) ∧ Below w.heap.size w w' := by
  by_cases h : 100 < str.size
  · exact dateTells_long x p0 p1 p2 p3 p4 p5 str h w hL
  · exact dateTells_short x p0 p1 p2 p3 p4 p5 str h w hL
end Go.Proofs.YtggbhbhphfgloaaDoor
