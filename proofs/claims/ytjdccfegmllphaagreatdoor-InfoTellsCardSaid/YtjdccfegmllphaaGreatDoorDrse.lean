/-
  What the reference's Seconds does of a date from 1970 on.
-/
import Derived.Test.YtjdccfegmllphaaGreatDoorDrsa
import Derived.Deep.RegionHeld3
namespace Go.Proofs.YtjdccfegmllphaaGreatDoor
open Go.RowKit Go.Shelf

set_option maxRecDepth 100000 in
set_option maxHeartbeats 4000000 in
theorem rt_late {y m d h i s k : Int} (hk : M.days y m = k) (y0 : decide (y < 0) = false) (y1 : decide (9999 < y) = false) (d0 : decide (d < 1) = false) (d1 : decide (k < d) = false) (h0 : decide (h < 0) = false) (h1 : decide (23 < h) = false) (i0 : decide (i < 0) = false) (i1 : decide (59 < i) = false) (s0 : decide (s < 0) = false) (s1 : decide (59 < s) = false) (v : M.Valid y m d h i s) (hy : 1970 ≤ y) (w : World) :
    Calls Tryz.prog 43 #[six y m d h i s] w fun e w' => e = .returned (.tuple #[.int .i64 (M.secs y m d h i s), .int .i64 0]) ∧ Below w.heap.size w w' := by
  have hd31 := v.dm31
  have m0 := v.m0
  have m1 := v.m1
  have hy1 := v.y1
  have hv := v
  cases hv with | mk _ _ _ _ v1 _ v2 v3 v4 v5 v6 v7 =>
  have hny : ¬ y < 1970 := by omega
  unfold six
  have S := Six.new w 61 y m d h i s
  have hb : Below w.heap.size w (w.alloc (.cells #[.int .i64 y, .int .i64 m, .int .i64 d, .int .i64 h, .int .i64 i, .int .i64 s] 61)) := (Below.refl _ w).alloc (Nat.le_refl _) _
  have hsz : w.heap.size < (w.alloc (.cells #[.int .i64 y, .int .i64 m, .int .i64 d, .int .i64 h, .int .i64 i, .int .i64 s] 61)).heap.size := by simp
  have HK := Lib.hid hk
  clear hk
  go_enter Tryz.func43, Tryz.ntmps43
  go_wp2_with fail
  generalize w.alloc _ = W at *
  obtain ⟨c0, c1, c2, c3, c4, c5⟩ := id S
  first | go_region_held3 (fun w' => w'.cell? ⟨w.heap.size, 0, none⟩ = some (.int .i64 y) ∧ w'.cell? ⟨w.heap.size, 1, none⟩ = some (.int .i64 m) ∧ w'.cell? ⟨w.heap.size, 2, none⟩ = some (.int .i64 d) ∧ w'.cell? ⟨w.heap.size, 3, none⟩ = some (.int .i64 h) ∧ w'.cell? ⟨w.heap.size, 4, none⟩ = some (.int .i64 i) ∧ w'.cell? ⟨w.heap.size, 5, none⟩ = some (.int .i64 s)) (first | exact S2 | go_keep) (first | (go_at_call 51; refine (refDays_six (w0 := w) (b := w.heap.size) (d := d) (h := h) (i := i) (s := s) HK.out W.drew ?_ ?_ ?_ ?_).mono ?_; (exact S); (exact hb.drew); (exact hsz); (exact Nat.le_of_lt hsz); rintro e w2 ⟨rfl, S2, hb2, hsz2⟩)) | fail
  obtain ⟨e0, e1, e2, e3, e4, e5⟩ := id S2
  go_wp2_with fail
  clear c0 c1 c2 c3 c4 c5 S hb hsz
  go_loop [4, 5] (fun n u => ∃ a b : Int, n = .int .i64 a ∧ u = .int .i64 b ∧ 1970 ≤ b ∧ b ≤ y ∧ a = d - 1 + M.dTo b) (fun _ u => (20000 - intOf u).toNat)
  case atStart => exact ⟨_, 1970, rfl, rfl, by omega, by omega, by rw [M.dTo_first]; omega⟩
  case round =>
    obtain ⟨a, b, rfl, rfl, hb1, hby, ha⟩ := hrel
    have hlo := M.dTo_lower b hb1
    have ha0 : 0 ≤ a := by omega
    have ha1 : a ≤ 4000000 := by omega
    have HA := Lib.hid ha
    clear ha hlo
    by_cases hlt : b < y
    · obtain ⟨x, hx⟩ : ∃ x, M.yd (M.leap b) = x := ⟨_, rfl⟩
      have hxb := M.yd_le (M.leap b)
      rw [hx] at hxb
      have HX := Lib.hid hx
      clear hx
      go_wp2_with (go_at_call 50; refine (refYear_is HX.out _).mono ?_; rintro e w3 ⟨rfl, rfl⟩)
      go_round
      case rel => exact ⟨_, b + 1, rfl, rfl, by omega, by omega, by rw [HA.out, M.dTo_step, HX.out]; omega⟩
      case measure => simp [intOf]; omega
    · have hby2 : b = y := by omega
      subst hby2
      go_wp2_with fail
      have hS2 := S2
      clear S2 e0 e1 e2 e3 e4 e5
      go_loopw [4, 6] (fun n u wr => ∃ c j : Int, n = .int .i64 c ∧ u = .int .i64 j ∧ 1 ≤ j ∧ j ≤ m ∧ c = a + M.cum (M.leap b) j ∧ Six w.heap.size b m d h i s wr ∧ Below w.heap.size w wr ∧ w.heap.size < wr.heap.size) (fun _ u _ => (13 - intOf u).toNat)
      case atStart => exact ⟨_, 1, rfl, rfl, by omega, by omega, by rw [M.cum_one]; omega, hS2, hb2, hsz2⟩
      case round =>
        obtain ⟨c, j, rfl, rfl, hj1, hjm, hc, hS, hB, hZ⟩ := hrel
        have hcb := cum_le (M.leap b) j hj1 (by omega)
        have hc0 : 0 ≤ c := by omega
        have hc1 : c ≤ 5000000 := by omega
        have HCc := Lib.hid hc
        clear hc hcb hS2 hb2 hsz2
        obtain ⟨e0, e1, e2, e3, e4, e5⟩ := id hS
        by_cases hlt2 : j < m
        · obtain ⟨x, hx⟩ : ∃ x, M.days b j = x := ⟨_, rfl⟩
          have hxb : 0 ≤ x ∧ x ≤ 31 := by rw [← hx]; exact M.dm_le _ _
          have HX := Lib.hid hx
          clear hx
          go_wp2_with fail
          refine (refDays_is HX.out _).mono ?_
          rintro e w3 ⟨rfl, hb3⟩
          go_wp2
          go_roundw
          case rel =>
            have hs := M.cum_step (M.leap b) j hj1 (by omega)
            have hx := HX.out
            unfold M.days at hx
            exact ⟨_, j + 1, rfl, rfl, by omega, by omega, by rw [HCc.out, hs, hx]; omega, hS.later hb3 hZ, hB.trans (hb3.mono (Nat.le_of_lt hZ)), Nat.lt_of_lt_of_le hZ hb3.size⟩
          case measure => simp [intOf]; omega
        · have hjm2 : j = m := by omega
          subst hjm2
          go_wp2
          go_ret2
          refine ⟨ret_two ?_ rfl, hB⟩
          have hc := HCc.out
          have ha := HA.out
          unfold M.secs M.dayOf
          omega
end Go.Proofs.YtjdccfegmllphaaGreatDoor
