/-
  What the reference's Of does.
-/
import Derived.Test.YtjdccfegmllphaaGreatDoorDsec
namespace Go.Proofs.YtjdccfegmllphaaGreatDoor
open Go.RowKit Go.Shelf

set_option maxHeartbeats 1000000 in
theorem refOf_bad (x : Int) (hx : x < 0 ∨ 253402300799 < x) (w : World) :
    Calls Tryz.prog 29 #[.int .i64 x] w fun e w' => e = .returned (.tuple #[six 0 0 0 0 0 0, .int .i64 3]) ∧ Below w.heap.size w w' := by
  unfold six
  rcases hx with hx | hx
  · go_enter Tryz.func29, Tryz.ntmps29
    go_wp2
    go_returns
    exact ⟨rfl, (Below.refl _ w).alloc (Nat.le_refl _) _⟩
  · have h0 : ¬ x < 0 := by omega
    go_enter Tryz.func29, Tryz.ntmps29
    go_wp2
    go_returns
    exact ⟨rfl, (Below.refl _ w).alloc (Nat.le_refl _) _⟩
theorem refYear_is {y k : Int} (hk : M.yd (M.leap y) = k) (w : World) : Calls Tryz.prog 50 #[.int .i64 y] w fun e w' => e = .returned (.int .i64 k) ∧ w = w' := by
  subst hk; exact refYear_any y w
theorem refDays_is {y m k : Int} (hk : M.days y m = k) (w : World) : Calls Tryz.prog 51 #[.int .i64 y, .int .i64 m] w fun e w' => e = .returned (.int .i64 k) ∧ Below w.heap.size w w' := by
  subst hk; exact refDays_any y m w
/-- six cells that may be written -/
def Open6 (b : Nat) (w : World) : Prop := w.frozen? ⟨b, 0, none⟩ = false ∧ w.frozen? ⟨b, 1, none⟩ = false ∧ w.frozen? ⟨b, 2, none⟩ = false ∧ w.frozen? ⟨b, 3, none⟩ = false ∧ w.frozen? ⟨b, 4, none⟩ = false ∧ w.frozen? ⟨b, 5, none⟩ = false
theorem Open6.new (w : World) (t : TypeId) (z : Array Value) : Open6 w.heap.size (w.alloc (.cells z t)) := by
  refine ⟨?_, ?_, ?_, ?_, ?_, ?_⟩ <;> exact World.frozen?_alloc_new _ _ _ _
theorem Open6.later {b n : Nat} {w w' : World} (c : Open6 b w) (hb : Below n w w') (hn : b < n) : Open6 b w' := by
  obtain ⟨c0, c1, c2, c3, c4, c5⟩ := c
  refine ⟨?_, ?_, ?_, ?_, ?_, ?_⟩ <;> rw [hb.frozen (by exact hn)] <;> assumption
theorem Six.put {b : Nat} {y m d h i s y' m' d' h' i' s' : Int} {w W : World} (c : Six b y m d h i s w)
    (hW : (((((w.setCell ⟨b, 0, none⟩ (.int .i64 y')).setCell ⟨b, 1, none⟩ (.int .i64 m')).setCell ⟨b, 2, none⟩ (.int .i64 d')).setCell ⟨b, 3, none⟩ (.int .i64 h')).setCell ⟨b, 4, none⟩ (.int .i64 i')).setCell ⟨b, 5, none⟩ (.int .i64 s') = W) :
    Six b y' m' d' h' i' s' W ∧ ∀ n, n ≤ b → Below n w W := by
  obtain ⟨c0, c1, c2, c3, c4, c5⟩ := c
  subst hW
  refine ⟨?_, fun n hn => (((((((Below.refl _ w).setCell hn _).setCell hn _).setCell hn _).setCell hn _).setCell hn _).setCell hn _)⟩
  have a0 := World.cell?_setCell_same w ⟨b, 0, none⟩ (.int .i64 y') c0
  refine ⟨?_, ?_, ?_, ?_, ?_, ?_⟩
  · rw [World.cell?_setCell_other _ _ _ _ (by simp), World.cell?_setCell_other _ _ _ _ (by simp), World.cell?_setCell_other _ _ _ _ (by simp), World.cell?_setCell_other _ _ _ _ (by simp), World.cell?_setCell_other _ _ _ _ (by simp)]; exact a0
  · rw [World.cell?_setCell_other _ _ _ _ (by simp), World.cell?_setCell_other _ _ _ _ (by simp), World.cell?_setCell_other _ _ _ _ (by simp), World.cell?_setCell_other _ _ _ _ (by simp)]
    exact World.cell?_setCell_same _ _ _ (by rw [World.cell?_setCell_other _ _ _ _ (by simp)]; exact c1)
  · rw [World.cell?_setCell_other _ _ _ _ (by simp), World.cell?_setCell_other _ _ _ _ (by simp), World.cell?_setCell_other _ _ _ _ (by simp)]
    exact World.cell?_setCell_same _ _ _ (by rw [World.cell?_setCell_other _ _ _ _ (by simp), World.cell?_setCell_other _ _ _ _ (by simp)]; exact c2)
  · rw [World.cell?_setCell_other _ _ _ _ (by simp), World.cell?_setCell_other _ _ _ _ (by simp)]
    exact World.cell?_setCell_same _ _ _ (by rw [World.cell?_setCell_other _ _ _ _ (by simp), World.cell?_setCell_other _ _ _ _ (by simp), World.cell?_setCell_other _ _ _ _ (by simp)]; exact c3)
  · rw [World.cell?_setCell_other _ _ _ _ (by simp)]
    exact World.cell?_setCell_same _ _ _ (by rw [World.cell?_setCell_other _ _ _ _ (by simp), World.cell?_setCell_other _ _ _ _ (by simp), World.cell?_setCell_other _ _ _ _ (by simp), World.cell?_setCell_other _ _ _ _ (by simp)]; exact c4)
  · exact World.cell?_setCell_same _ _ _ (by rw [World.cell?_setCell_other _ _ _ _ (by simp), World.cell?_setCell_other _ _ _ _ (by simp), World.cell?_setCell_other _ _ _ _ (by simp), World.cell?_setCell_other _ _ _ _ (by simp), World.cell?_setCell_other _ _ _ _ (by simp)]; exact c5)
set_option maxHeartbeats 1000000 in
theorem refOf_good (n : Nat) {y m d h i s : Int} (c : M.Cv n y m d h i s) (w : World) :
    Calls Tryz.prog 29 #[.int .i64 n] w fun e w' => e = .returned (.tuple #[six y m d h i s, .int .i64 0]) ∧ Below w.heap.size w w' := by
  have hr := c.range
  have hn2 : n / 86400 ≤ 3000000 := by omega
  have hx0 : ¬ ((n : Int) < 0) := by omega
  have hx1 : ¬ ((253402300799 : Int) < n) := by omega
  have HC := Lib.hid c
  clear hr c
  unfold six
  go_enter Tryz.func29, Tryz.ntmps29
  go_wp2_with fail
  go_loop [4, 5] (fun v u => ∃ a k : Int, v = .int .i64 a ∧ u = .int .i64 k ∧ 1970 ≤ k ∧ 0 ≤ a ∧ M.dTo k + a = ((n / 86400 : Nat) : Int)) (fun _ u => (20000 - intOf u).toNat)
  case atStart => exact ⟨_, 1970, rfl, rfl, by omega, by omega, by rw [M.dTo_first]; omega⟩
  case round =>
    obtain ⟨a, k, rfl, rfl, hk0, ha0, hk⟩ := hrel
    have hk2 : k ≤ 11000 ∧ a ≤ 3000000 := by have := (M.dTo_lower k hk0).1; omega
    obtain ⟨x, hx⟩ : ∃ x, M.yd (M.leap k) = x := ⟨_, rfl⟩
    have hxb := M.yd_le (M.leap k)
    rw [hx] at hxb
    have HX := Lib.hid hx
    have HK := Lib.hid hk
    clear hx hk
    by_cases hlt : x ≤ a
    · go_wp2_with (go_at_call 50; refine (refYear_is HX.out _).mono ?_; rintro e w1 ⟨rfl, rfl⟩)
      go_round
      case rel => exact ⟨a - x, k + 1, rfl, rfl, by omega, by omega, by rw [M.dTo_step, HX.out, ← HK.out]; omega⟩
      case measure => simp [intOf]; omega
    · have hy : k = y := by
        have h1 := HC.out.ok.year
        have h2 := HC.out.day
        exact M.year_uniq (d := ((n / 86400 : Nat) : Int)) (by have := HK.out; omega) (by rw [M.dTo_step, HX.out]; have := HK.out; omega) (by omega) (by omega)
      subst hy
      go_wp2_with (go_at_call 50; refine (refYear_is HX.out _).mono ?_; rintro e w1 ⟨rfl, rfl⟩)
      have hv := HC.out.ok
      have hday := HC.out.day
      have hyr := hv.year
      have hal : a = M.dayOf k m d - M.dTo k := by have := HK.out; omega
      have HM : Hid (M.cum (M.leap k) m ≤ a ∧ a < M.cum (M.leap k) m + M.dm (M.leap k) m ∧ 1 ≤ m ∧ m ≤ 12 ∧ d = a - M.cum (M.leap k) m + 1) := by
        refine ⟨by omega, by omega, hv.m0, hv.m1, ?_⟩
        rw [hal]; unfold M.dayOf; omega
      have hax : a < M.yd (M.leap k) := by rw [HX.out]; omega
      have HXa := Lib.hid hax
      clear hv hday hyr hal hax HX
      go_loopw [4, 6] (fun v u wr => ∃ b j : Int, v = .int .i64 b ∧ u = .int .i64 j ∧ 1 ≤ j ∧ j ≤ 12 ∧ 0 ≤ b ∧ b ≤ 400 ∧ M.cum (M.leap k) j + b = a ∧ Below (w.heap.size + 1) (w.alloc (.cells #[.int .i64 0, .int .i64 0, .int .i64 0, .int .i64 0, .int .i64 0, .int .i64 0] 61)) wr) (fun _ u _ => (13 - intOf u).toNat)
      case atStart => exact ⟨a, 1, rfl, rfl, by omega, by omega, ha0, by have := M.yd_le (M.leap k); have := HXa.out; omega, by rw [M.cum_one]; omega, Below.refl _ _⟩
      case round =>
        obtain ⟨b, j, rfl, rfl, hj1, hj2, hb0, hb4, hj, hbel⟩ := hrel
        obtain ⟨z, hz⟩ : ∃ z, M.days k j = z := ⟨_, rfl⟩
        have hzb : 0 ≤ z ∧ z ≤ 31 := by rw [← hz]; exact M.dm_le _ _
        have HZ := Lib.hid hz
        have HJ := Lib.hid hj
        clear hz hj
        have hsz : w.heap.size + 1 ≤ wr.heap.size := by have := hbel.size; simp at this; omega
        by_cases hlt : z ≤ b
        · go_wp2_with fail
          refine (refDays_is HZ.out _).mono ?_
          rintro e w1 ⟨rfl, hb1⟩
          go_wp2_with fail
          refine (refDays_is HZ.out _).mono ?_
          rintro e w2 ⟨rfl, hb2⟩
          go_wp2
          go_roundw
          case rel =>
            have hs := M.cum_step (M.leap k) j hj1 hj2
            have hz := HZ.out
            unfold M.days at hz
            have hj := HJ.out
            refine ⟨b - z, j + 1, rfl, rfl, by omega, ?_, by omega, by omega, by rw [hs, hz]; omega, (hbel.trans (hb1.mono hsz)).trans (hb2.mono (Nat.le_trans hsz hb1.size))⟩
            by_cases e : j = 12
            · exfalso
              subst e
              have := M.cum_last (M.leap k)
              have hN := HXa.out
              rw [← this] at hN
              have : M.cum (M.leap k) 13 = M.cum (M.leap k) (12 + 1) := rfl
              omega
            · omega
          case measure => simp [intOf]; omega
        · have e : j = m := by
            have hz := HZ.out
            unfold M.days at hz
            have hj := HJ.out
            exact M.month_uniq (l := M.leap k) (d := a) hj1 hj2 HM.out.2.2.1 HM.out.2.2.2.1 (by omega) (by omega) HM.out.1 HM.out.2.1
          subst e
          go_wp2_with fail
          refine (refDays_is HZ.out _).mono ?_
          rintro e w1 ⟨rfl, hb1⟩
          have hbel1 := hbel.trans (hb1.mono hsz)
          obtain ⟨c0, c1, c2, c3, c4, c5⟩ := (Six.new w 61 0 0 0 0 0 0).later hbel1 (Nat.lt_succ_self _)
          obtain ⟨f0, f1, f2, f3, f4, f5⟩ := (Open6.new w 61 #[.int .i64 0, .int .i64 0, .int .i64 0, .int .i64 0, .int .i64 0, .int .i64 0]).later hbel1 (Nat.lt_succ_self _)
          go_wp2
          generalize hW : World.setCell _ _ _ = W
          obtain ⟨⟨g0, g1, g2, g3, g4, g5⟩, hB⟩ := Six.put ⟨c0, c1, c2, c3, c4, c5⟩ hW
          refine bodyPost_ret (by simp [results, Tryz.results29, go_sem, g0, g1, g2, g3, g4, g5]; rfl) rfl ?_
          have hday := HC.out.day
          have hv := HC.out.ok
          have hd := HM.out.2.2.2.2
          have hj := HJ.out
          cases hv
          refine ⟨ret_six rfl rfl ?_ ?_ ?_ ?_, ?_⟩
          · omega
          · omega
          · omega
          · omega
          · exact (((Below.refl _ w).alloc (Nat.le_refl _) _).trans (hbel1.mono (Nat.le_succ _))).trans (hB _ (Nat.le_refl _))
end Go.Proofs.YtjdccfegmllphaaGreatDoor
