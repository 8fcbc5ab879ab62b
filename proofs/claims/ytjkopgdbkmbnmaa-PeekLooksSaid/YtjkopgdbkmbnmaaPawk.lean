/-
  Chapter 16's example, and a file's bytes.
-/
import Derived.Test.YtjkopgdbkmbnmaaPask
import Derived.Test.YtjkopgdbkmbnmaaPlist
import Derived.Test.YtjkopgdbkmbnmaaPstat
import Derived.KernelRfl
namespace Go.Proofs.Ytjkopgdbkmbnmaa.P
open Go.RowKit Go.Shelf G
attribute [local go_sem] Oper.semAt_some

def itP : List It := [⟨0, [102], 2, 384, 5, 0, ⟨#[97, 98, 99]⟩, 0⟩]
def stP : St := growAll (begin_ bare 1 9 9) itP
theorem fewP : few itP = true := by kernel_rfl
theorem p_list : dirE stP 0 0 1 4 = 0 ∧ (shown stP (onlyIf 0 (gets stP.n 1)).es) = [⟨[102], 2⟩] := by constructor <;> kernel_rfl
theorem p_read1 : readE stP 5 0 2 = 0 ∧ (onlyIf 0 (gets stP.n 2)).data = ⟨#[97, 98, 99]⟩ := by constructor <;> kernel_rfl
theorem p_read2 : readE stP 6 0 2 = 6 := by kernel_rfl
theorem p_read3 : readE stP 0 0 1 = 8 := by kernel_rfl
theorem p_stat : noneE stP 2 = 0 ∧ told (gets stP.n 2) = ⟨2, 1, 2, 384, 5, 0, 1, 3, 0, 0⟩ := by constructor <;> kernel_rfl
theorem p_look : lookN stP 6 0 1 [102] = 2 ∧ lookE stP 6 0 1 [102] = 0 := by constructor <;> kernel_rfl
theorem seesP (w : World) : ItSees (.slice (some ⟨w.heap.size, 0, none⟩) 1 1) itP (w.alloc (.cells #[.int .i64 0, .string ⟨#[102]⟩, .int .i64 2, .int .i64 384, .int .i64 5, .int .i64 0, .string ⟨#[97, 98, 99]⟩, .int .i64 0] 64)) := by
  refine ⟨_, 1, rfl, ⟨Nat.le_refl _, by decide⟩, fun k x hk => ⟨w.heap.size, 0, rfl, ?_⟩⟩
  match k, hk with
  | 0, hk =>
    cases hk
    refine ⟨?_, ?_, ?_, ?_, ?_, ?_, ?_, ?_⟩ <;> (rw [World.cell?_alloc_new]; rfl)
  | k + 1, hk => simp [itP] at hk
set_option maxRecDepth 100000 in
set_option maxHeartbeats 16000000 in
theorem awake_any (w : World) : Calls Try.prog 6 #[] w fun e w' => e = .returned (.bool true) ∧ Below w.heap.size w w' := by
  have hB1 : Below w.heap.size w (w.alloc (.cells #[.int .i64 0, .string ⟨#[102]⟩, .int .i64 2, .int .i64 384, .int .i64 5, .int .i64 0, .string ⟨#[97, 98, 99]⟩, .int .i64 0] 64)) := (Below.refl _ _).alloc (Nat.le_refl _) _
  have hG := (grown_all (grown_new 9 9) itP (by decide) (by decide)).1
  have hT := K.tree_all (grown_new 9 9) (K.tree_new 9 9) itP (by decide) (by decide)
  have cG := Grow_any 9 9 (by decide) (seesP w) fewP
  have hst : growAll (begin_ bare 1 9 9) itP = stP := rfl
  rw [hst] at cG hG hT
  have hI := hG.inv
  have c1 := fun B X A M mv W (hW : Wd B X A M mv stP W) => List_any hI hW 0 0 1 (T.wf_of (by decide) (by decide))
  have c2 := fun B X A M mv W (hW : Wd B X A M mv stP W) => Read_any hW 5 0 2 (T.wf_of (by decide) (by decide))
  have c3 := fun B X A M mv W (hW : Wd B X A M mv stP W) => Read_any hW 6 0 2 (T.wf_of (by decide) (by decide))
  have c4 := fun B X A M mv W (hW : Wd B X A M mv stP W) => Read_any hW 0 0 1 (T.wf_of (by decide) (by decide))
  have c5 := fun B X A M mv W (hW : Wd B X A M mv stP W) => Stat_any hW 2 (T.wf_of (by decide) (by decide))
  have c6 := fun B X A M mv W (hW : Wd B X A M mv stP W) => Look_any hI hW hT 6 0 1 (T.wf_of (by decide) (by decide)) [102]
  simp only [p_list.1, p_list.2] at c1
  simp only [p_read1.1, p_read1.2] at c2
  simp only [p_read2] at c3
  simp only [p_read3] at c4
  rw [p_stat.1, p_stat.2] at c5
  rw [p_look.1, p_look.2] at c6
  dsimp only [Sd.v] at c5
  clear hst hG hT hI
  go_enter Try.func6, Try.ntmps6
  go_upto_region 4 with (go_at_call 7; refine cG.mono ?_; rintro e w2 ⟨X, A, M, F, rfl, ⟨mv, nv, dv, hW, hF⟩, hb2⟩)
  have hb2' := hB1.trans (hb2.mono hB1.size)
  have d1 := c1 _ _ _ _ _ _ hW
  clear c1 hB1 hb2 hF cG
  go_upto_region 5 with (go_at_call 10; refine d1.mono ?_; rintro e w3 ⟨u, rfl, hO, hb3⟩; obtain ⟨ou, cu, rfl⟩ := T.own_slice hO)
  have hW3 := hW.below hb3
  have hb3' := below_two hb2' hb3
  have d2 := c2 _ _ _ _ _ _ hW3
  clear c2 d1 hb3 hW hb2' hO
  go_upto_region 6 with (go_at_call 12; refine d2.mono ?_; rintro e w4 ⟨rfl, hb4⟩)
  have hW4 := hW3.below hb4
  have hb4' := below_two hb3' hb4
  have d3 := c3 _ _ _ _ _ _ hW4
  clear c3 d2 hb4 hW3 hb3'
  go_upto_region 7 with (go_at_call 12; refine d3.mono ?_; rintro e w5 ⟨rfl, hb5⟩)
  have hW5 := hW4.below hb5
  have hb5' := below_two hb4' hb5
  have d4 := c4 _ _ _ _ _ _ hW5
  clear c4 d3 hb5 hW4 hb4'
  go_upto_region 8 with (go_at_call 12; refine d4.mono ?_; rintro e w6 ⟨rfl, hb6⟩)
  have hW6 := hW5.below hb6
  have hb6' := below_two hb5' hb6
  have d5 := c5 _ _ _ _ _ _ hW6
  clear c5 d4 hb6 hW5 hb5'
  go_upto_region 9 with (go_at_call 8; refine d5.mono ?_; rintro e w7 ⟨rfl, hb7⟩; have B7 := SBox.new ⟨2, 1, 2, 384, 5, 0, 1, 3, 0, 0⟩ w7)
  have hal : Below w7.heap.size w7 (w7.alloc (.cells #[.int .i64 2, .int .i64 1, .int .i64 2, .int .i64 384, .int .i64 5, .int .i64 0, .int .i64 1, .int .i64 3, .int .i64 0, .int .i64 0] 37)) := (Below.refl _ _).alloc (Nat.le_refl _) _
  have hW7 := (hW6.below hb7).below hal
  have hb7' := below_two (below_two hb6' hb7) hal
  generalize w7.heap.size = b7 at *
  generalize w7.alloc (.cells #[.int .i64 2, .int .i64 1, .int .i64 2, .int .i64 384, .int .i64 5, .int .i64 0, .int .i64 1, .int .i64 3, .int .i64 0, .int .i64 0] 37) = W7 at *
  have d6 := c6 _ _ _ _ _ _ hW7
  clear c6 d5 hb7 hW6 hb6' hal
  go_upto_region 10 with (go_at_call 17; refine d6.mono ?_; rintro e w8 ⟨rfl, hb8⟩)
  have hb8' := below_two hb7' hb8
  obtain ⟨g0, g1, g2, g3, g4, g5, g6, g7, g8, g9⟩ := (B7.below hb8).facts
  clear d6 hb8 hW7 hb7' B7
  go_wp2
  go_ret
  exact ⟨rfl, hb8'⟩
end Go.Proofs.Ytjkopgdbkmbnmaa.P
