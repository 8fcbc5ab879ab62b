/-
  Chapter 17's example, from the program's contracts.
-/
import Derived.Test.YtenopnfclbegbaaGreatBhard
import Derived.Test.YtenopnfclbegbaaGreatLall
import Derived.KernelRfl
namespace Go.Proofs.YtenopnfclbegbaaGreat.BR
open Go.RowKit Go.Shelf G
attribute [local go_sem] Oper.semAt_some

def sA : St := begin_ bare 1 9 9
def rA1 : St × Int × Int := dirSt sA 0 0 7 1 [100] 448
def rA2 : St × Int × Int := dirSt rA1.1 0 0 7 1 [100] 448
def rA3 : St × Int × Int := fileSt rA2.1 0 0 8 2 [120] 384 ⟨#[97, 98, 99]⟩
def rA4 : St × Int := hardSt rA3.1 0 0 9 3 1 [121]
theorem a_1 : rA1.2 = (2, 0) := by kernel_rfl
theorem a_2 : rA2.2 = (0, 7) := by kernel_rfl
theorem a_3 : rA3.2 = (3, 0) := by kernel_rfl
theorem a_4 : rA4.2 = 0 := by kernel_rfl
def ndA : T.Nd := gets rA4.1.n 3
theorem a_5 : (ndA.links, ndA.mt, ndA.ct, ndA.data) = (2, 8, 9, ⟨#[97, 98, 99]⟩) := by kernel_rfl
theorem fineA : Fine 100 sA := fine_grown (b := 9) (c := 9) (ls := []) (by kernel_rfl)
theorem fineA1 : Fine 101 rA1.1 := fineA.dirs 0 0 7 1 [100] 448 (by decide)
theorem fineA2 : Fine 102 rA2.1 := fineA1.dirs 0 0 7 1 [100] 448 (by decide)
theorem fineA3 : Fine 103 rA3.1 := fineA2.files 0 0 8 2 [120] 384 ⟨#[97, 98, 99]⟩ (by decide) (by decide)
theorem fineA4 : Fine 104 rA4.1 := fineA3.hards 0 0 9 3 1 [121] (by decide)
set_option maxRecDepth 100000 in
set_option maxHeartbeats 16000000 in
theorem awake_any (w : World) : Calls Tryz.prog 7 #[] w fun e w' => e = .returned (.bool true) ∧ Below w.heap.size w w' := by
  have cG := Grow_any 9 9 (by decide) (itSees_none none 0 (Nat.zero_le _) w) (by kernel_rfl)
  have c1 := fun B X A M mv W (hW : Wd B X A M mv sA W) (_ : B ≤ W.heap.size) => Dir_any (fineA.mono (by decide)) hW 0 0 7 1 (T.wf_of (by decide) (by decide)) [100] 448
  have c2 := fun B X A M mv W (hW : Wd B X A M mv rA1.1 W) (_ : B ≤ W.heap.size) => Dir_any (fineA1.mono (by decide)) hW 0 0 7 1 (T.wf_of (by decide) (by decide)) [100] 448
  have c3 := fun B X A M mv W (hW : Wd B X A M mv rA2.1 W) (_ : B ≤ W.heap.size) => File_any (fineA2.mono (by decide)) hW 0 0 8 2 (T.wf_of (by decide) (by decide)) [120] 384 ⟨#[97, 98, 99]⟩ (by decide)
  have c4 := fun B X A M mv W (hW : Wd B X A M mv rA3.1 W) (_ : B ≤ W.heap.size) => Hard_any (fineA3.mono (by decide)) hW 0 0 9 3 1 (T.wf_of (by decide) (by decide)) (T.wf_of (by decide) (by decide)) [121]
  have e1 : dirSt sA 0 0 7 1 [100] 448 = (rA1.1, 2, 0) := by rw [← a_1]; rfl
  have e2 : dirSt rA1.1 0 0 7 1 [100] 448 = (rA2.1, 0, 7) := by rw [← a_2]; rfl
  have e3 : fileSt rA2.1 0 0 8 2 [120] 384 ⟨#[97, 98, 99]⟩ = (rA3.1, 3, 0) := by rw [← a_3]; rfl
  have e4 : hardSt rA3.1 0 0 9 3 1 [121] = (rA4.1, 0) := by rw [← a_4]; rfl
  simp only [e1] at c1
  simp only [e2] at c2
  simp only [e3] at c3
  simp only [e4] at c4
  have c5 := fun B X A M mv W (hW : Wd B X A M mv rA4.1 W) => Get_st hW 3 (T.wf_of (by decide) (by decide))
  have h5 := a_5
  have hnd : gets rA4.1.n 3 = ndA := rfl
  rw [hnd] at c5
  generalize ndA = nd at *
  obtain ⟨dno, ddev, dkind, dmode, duid, dgid, dmt, dct, dlinks, dup, ddata, des⟩ := nd
  simp only [Prod.mk.injEq] at h5
  obtain ⟨rfl, rfl, rfl, rfl⟩ := h5
  dsimp only [T.Nd.v] at c5
  have hst : growAll (begin_ bare 1 9 9) [] = sA := rfl
  rw [hst] at cG
  clear hst e1 e2 e3 e4 hnd
  generalize sA = s0 at *
  generalize rA1.1 = s1 at *
  generalize rA2.1 = s2 at *
  generalize rA3.1 = s3 at *
  generalize rA4.1 = s4 at *
  go_enter Tryz.func7, Tryz.ntmps7
  go_upto_region 4 with (go_at_call 8; refine cG.mono ?_; rintro e w2 ⟨X, A, M, F, rfl, ⟨mv, nv, dv, hW, hF⟩, hb2⟩)
  have hB2 : w.heap.size ≤ w2.heap.size := hb2.size
  have d1 := c1 _ _ _ _ _ _ hW hB2
  clear c1 hF cG
  go_upto_region 5 with (go_at_call 13; refine d1.mono ?_; rintro e w3 ⟨rfl, hW3, ht3⟩)
  have hb3 := hb2.trans (hW.ofTurn ht3 hB2)
  have hB3 : w.heap.size ≤ w3.heap.size := hb3.size
  have d2 := c2 _ _ _ _ _ _ hW3 hB3
  clear c2 d1 ht3 hW hb2 hB2
  go_upto_region 6 with (go_at_call 13; refine d2.mono ?_; rintro e w4 ⟨rfl, hW4, ht4⟩)
  have hb4 := hb3.trans (hW3.ofTurn ht4 hB3)
  have hB4 : w.heap.size ≤ w4.heap.size := hb4.size
  have d3 := c3 _ _ _ _ _ _ hW4 hB4
  clear c3 d2 ht4 hW3 hb3 hB3
  go_upto_region 7 with (go_at_call 14; refine d3.mono ?_; rintro e w5 ⟨rfl, hW5, ht5⟩)
  have hb5 := hb4.trans (hW4.ofTurn ht5 hB4)
  have hB5 : w.heap.size ≤ w5.heap.size := hb5.size
  have d4 := c4 _ _ _ _ _ _ hW5 hB5
  clear c4 d3 ht5 hW4 hb4 hB4
  go_upto_region 8 with (go_at_call 20; refine d4.mono ?_; rintro e w6 ⟨rfl, hW6, ht6⟩)
  have hb6 := hb5.trans (hW5.ofTurn ht6 hB5)
  have hB6 : w.heap.size ≤ w6.heap.size := hb6.size
  have x0 := hW6.facts.1
  have d5 := c5 _ _ _ _ _ _ hW6
  clear c5 d4 ht6 hW5 hb5 hB5
  go_upto_region 9 with (go_at_call 16; refine d5.mono ?_; rintro e w7 ⟨u7, rfl, hO7, hb7⟩; obtain ⟨o7, c7, rfl⟩ := T.own_slice hO7; have M7 := T.BoxN.new ⟨dno, ddev, dkind, dmode, duid, dgid, 8, 9, 2, dup, ⟨#[97, 98, 99]⟩, des⟩ (.slice o7 des.length c7) w7)
  have hal : Below w7.heap.size w7 (w7.alloc (.cells #[.int .i64 dno, .int .i64 ddev, .int .i64 dkind, .int .i64 dmode, .int .i64 duid, .int .i64 dgid, .int .i64 8, .int .i64 9, .int .i64 2, .int .i64 dup, .string ⟨#[97, 98, 99]⟩, .slice o7 des.length c7] 48)) := (Below.refl _ _).alloc (Nat.le_refl _) _
  have hb8 := (hb6.trans (hb7.mono hB6)).trans (hal.mono (Nat.le_trans hB6 hb7.size))
  generalize w7.heap.size = b7 at *
  generalize w7.alloc (.cells #[.int .i64 dno, .int .i64 ddev, .int .i64 dkind, .int .i64 dmode, .int .i64 duid, .int .i64 dgid, .int .i64 8, .int .i64 9, .int .i64 2, .int .i64 dup, .string ⟨#[97, 98, 99]⟩, .slice o7 des.length c7] 48) = W7 at *
  obtain ⟨g0, g1, g2, g3, g4, g5, g6, g7, g8, g9, g10, g11⟩ := M7.facts
  dsimp only at g0 g1 g2 g3 g4 g5 g6 g7 g8 g9 g10 g11
  clear d5 hW6 hb6 hB6 hO7 hb7 hal x0
  go_wp2
  go_ret
  exact ⟨rfl, hb8⟩
end Go.Proofs.YtenopnfclbegbaaGreat.BR
