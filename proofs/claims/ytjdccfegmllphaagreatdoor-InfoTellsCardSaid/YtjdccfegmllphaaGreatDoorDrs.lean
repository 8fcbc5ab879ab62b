/-
  What the reference's Seconds does, put together.
-/
import Derived.Test.YtjdccfegmllphaaGreatDoorDrsb
import Derived.Test.YtjdccfegmllphaaGreatDoorDrsc
import Derived.Test.YtjdccfegmllphaaGreatDoorDrsd
import Derived.Test.YtjdccfegmllphaaGreatDoorDrse
import Derived.Test.YtjdccfegmllphaaGreatDoorDparse
namespace Go.Proofs.YtjdccfegmllphaaGreatDoor
open Go.RowKit Go.Shelf

theorem df {p : Prop} [Decidable p] (h : ¬ p) : decide p = false := decide_eq_false h
theorem refSeconds_any (y m d h i s : Int) (w : World) :
    Calls Tryz.prog 43 #[six y m d h i s] w fun e w' => e = .returned (.tuple #[.int .i64 (sc y m d h i s).1, .int .i64 (sc y m d h i s).2]) ∧ Below w.heap.size w w' := by
  by_cases v : M.Valid y m d h i s
  · have hv := v
    cases hv with | mk y0 y1 m0 m1 d0 d1 h0 h1 i0 i1 s0 s1 =>
    by_cases hy : y < 1970
    · rw [sc_range v hy]
      exact rt_early rfl (df (by omega)) (df (by omega)) (df (by omega)) (df (by omega)) (df (by omega)) (df (by omega)) (df (by omega)) (df (by omega)) (df (by omega)) (df (by omega)) hy w
    · rw [sc_good v hy]
      exact rt_late rfl (df (by omega)) (df (by omega)) (df (by omega)) (df (by omega)) (df (by omega)) (df (by omega)) (df (by omega)) (df (by omega)) (df (by omega)) (df (by omega)) v (by omega) w
  · rw [sc_form v]
    by_cases t1 : y < 0
    · exact rt1 t1 w
    by_cases t2 : 9999 < y
    · exact rt2 (df t1) t2 w
    by_cases t3 : d < 1
    · exact rt3 (df t1) (df t2) t3 w
    by_cases t4 : M.days y m < d
    · exact rt4 rfl (df t1) (df t2) (df t3) t4 w
    by_cases t5 : h < 0
    · exact rt5 rfl (df t1) (df t2) (df t3) (df t4) t5 w
    by_cases t6 : 23 < h
    · exact rt6 rfl (df t1) (df t2) (df t3) (df t4) (df t5) t6 w
    by_cases t7 : i < 0
    · exact rt7 rfl (df t1) (df t2) (df t3) (df t4) (df t5) (df t6) t7 w
    by_cases t8 : 59 < i
    · exact rt8 rfl (df t1) (df t2) (df t3) (df t4) (df t5) (df t6) (df t7) t8 w
    by_cases t9 : s < 0
    · exact rt9 rfl (df t1) (df t2) (df t3) (df t4) (df t5) (df t6) (df t7) (df t8) t9 w
    by_cases t10 : 59 < s
    · exact rt10 rfl (df t1) (df t2) (df t3) (df t4) (df t5) (df t6) (df t7) (df t8) (df t9) t10 w
    exfalso
    apply v
    have hm : ¬ (m < 1 ∨ 12 < m) := by
      intro hm
      have e : M.days y m = 0 := dm_none hm
      omega
    exact ⟨by omega, by omega, by omega, by omega, by omega, by omega, by omega, by omega, by omega, by omega, by omega, by omega⟩
theorem refSeconds_is {y m d h i s n f : Int} (hp : sc y m d h i s = (n, f)) (w : World) :
    Calls Tryz.prog 43 #[.agg #[.int .i64 y, .int .i64 m, .int .i64 d, .int .i64 h, .int .i64 i, .int .i64 s]] w fun e w' => e = .returned (.tuple #[.int .i64 n, .int .i64 f]) ∧ Below w.heap.size w w' :=
  (refSeconds_any y m d h i s w).mono fun e w' ⟨he, hw⟩ => ⟨by rw [he, hp], hw⟩
end Go.Proofs.YtjdccfegmllphaaGreatDoor
