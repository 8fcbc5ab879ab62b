/-
  What the reference's Seconds does where no number is out of its range.
-/
import Derived.Test.YtjdccfegmllphaaGreatDoorDrsa
import Derived.Deep.RegionHeld3
namespace Go.Proofs.YtjdccfegmllphaaGreatDoor
open Go.RowKit Go.Shelf

set_option maxRecDepth 100000 in
set_option maxHeartbeats 4000000 in
theorem rt_early {y m d h i s k : Int} (hk : M.days y m = k) (y0 : decide (y < 0) = false) (y1 : decide (9999 < y) = false) (d0 : decide (d < 1) = false) (d1 : decide (k < d) = false) (h0 : decide (h < 0) = false) (h1 : decide (23 < h) = false) (i0 : decide (i < 0) = false) (i1 : decide (59 < i) = false) (s0 : decide (s < 0) = false) (s1 : decide (59 < s) = false) (hy : y < 1970) (w : World) :
    Calls Tryz.prog 43 #[six y m d h i s] w fun e w' => e = .returned (.tuple #[.int .i64 0, .int .i64 3]) ∧ Below w.heap.size w w' := by
  unfold six
  have S := Six.new w 61 y m d h i s
  have hb : Below w.heap.size w (w.alloc (.cells #[.int .i64 y, .int .i64 m, .int .i64 d, .int .i64 h, .int .i64 i, .int .i64 s] 61)) := (Below.refl _ w).alloc (Nat.le_refl _) _
  have hsz : w.heap.size < (w.alloc (.cells #[.int .i64 y, .int .i64 m, .int .i64 d, .int .i64 h, .int .i64 i, .int .i64 s] 61)).heap.size := by simp
  have HK := Lib.hid hk
  clear hk
  go_enter Tryz.func43, Tryz.ntmps43
  go_wp2_with fail
  generalize w.alloc _ = W at *
  obtain ⟨c0, c1, c2, c3, c4, c5⟩ := id S
  first | go_region_held3 (fun w' => w'.cell? ⟨w.heap.size, 0, none⟩ = some (.int .i64 y) ∧ w'.cell? ⟨w.heap.size, 1, none⟩ = some (.int .i64 m) ∧ w'.cell? ⟨w.heap.size, 2, none⟩ = some (.int .i64 d) ∧ w'.cell? ⟨w.heap.size, 3, none⟩ = some (.int .i64 h) ∧ w'.cell? ⟨w.heap.size, 4, none⟩ = some (.int .i64 i) ∧ w'.cell? ⟨w.heap.size, 5, none⟩ = some (.int .i64 s)) (first | exact S2 | go_keep) (first | (go_at_call 51; refine (refDays_six (w0 := w) (b := w.heap.size) (d := d) (h := h) (i := i) (s := s) HK.out W.drew ?_ ?_ ?_ ?_).mono ?_; (exact S); (exact hb.drew); (exact hsz); (exact Nat.le_of_lt hsz); rintro e w2 ⟨rfl, S2, hb2, hsz2⟩)) | fail
  obtain ⟨e0, e1, e2, e3, e4, e5⟩ := id S2
  go_wp2
  go_ret2
  exact ⟨rfl, hb2⟩
end Go.Proofs.YtjdccfegmllphaaGreatDoor
