/-
  What is told of any node is the reference's: PeekTells.
-/
import Derived.Test.YtjkopgdbkmbnmaaPawk
import Derived.Test.YtjkopgdbkmbnmaaPsame
import Derived.Test.YtjkopgdbkmbnmaaRask
import Derived.Test.YtjkopgdbkmbnmaaRlist
namespace Go.Proofs.Ytjkopgdbkmbnmaa.P
open Go.RowKit Go.Shelf G
attribute [local go_sem] Oper.semAt_some

theorem Few_any {v : Value} {ls : List It} {w : World} (hS : ItSees v ls w) : Calls Try.prog 5 #[v] w fun e w' => e = .returned (.bool (few ls)) ∧ w = w' := by
  have hS1 := hS
  obtain ⟨oi, ci, rfl, hmi, _⟩ := hS
  have cF := few_any hS1 (by have := hmi.1; have := hmi.2; unfold maxLen at this; omega)
  generalize few ls = z at *
  go_enter Try.func5, Try.ntmps5
  go_wp2_with (go_at_call 19; refine cF.mono ?_; rintro e w2 ⟨rfl, rfl⟩)
  go_ret
  exact ⟨rfl, rfl⟩
/-- what holds of every world of such items -/
structure Good (st : St) : Prop where
  gr : Grown st
  tr : K.Tree st
  so : Sorts st
  last : st.last ≤ 41
theorem good_all {ls : List It} (hf : few ls = true) : Good (growAll (begin_ bare 1 60000 60000) ls) := by
  obtain ⟨hf1, hf2⟩ := few_iff.1 hf
  have h1 : (begin_ bare 1 60000 60000).last + ls.length < 1000 := by show (1 : Int) + _ < _; omega
  obtain ⟨hG, hg1, hg2⟩ := grown_all (grown_new 60000 60000) ls (fun i hi => (hf1 i hi).2) h1
  have hT := K.tree_all (grown_new 60000 60000) (K.tree_new 60000 60000) ls (fun i hi => (hf1 i hi).2) h1
  have hl : (growAll (begin_ bare 1 60000 60000) ls).last ≤ 41 := by
    have : (begin_ bare 1 60000 60000).last = 1 := rfl
    omega
  exact ⟨hG, hT, sorts_all (sorts_new _ _) ls, hl⟩
theorem str_list (s : ByteArray) : (⟨s.data.toList.toArray⟩ : ByteArray) = s := by
  cases s; simp
theorem shown_few {st : St} (hI : Inv st) (e k : Int) : (shown st (onlyIf e (gets st.n k)).es).length ≤ 100000 := by
  rw [shown_len]; exact nd_few hI e k
set_option maxRecDepth 100000 in
set_option maxHeartbeats 32000000 in
theorem tells_any {v : Value} {ls : List It} {w : World} (cu cg : Int) (n : ByteArray) (hS : ItSees v ls w) :
    Calls Try.prog 3 #[v, .agg #[.int .i64 cu, .int .i64 cg], .string n] w fun e w' => e = .returned (.bool true) ∧ Below w.heap.size w w' := by
  have hS1 := hS
  obtain ⟨oi, ci, rfl, hmi, _⟩ := hS
  have hC : CrBox w.heap.size cu cg (w.alloc (.cells #[.int .i64 cu, .int .i64 cg] 24)) := heap_alloc_new w _
  have hb1 : Below w.heap.size w (w.alloc (.cells #[.int .i64 cu, .int .i64 cg] 24)) := (Below.refl _ _).alloc (Nat.le_refl _) _
  have cF := Few_any (hS1.below hb1)
  have cG := fun hf => Grow_any 60000 60000 (by decide) (hS1.below hb1) hf
  have hA := fun W => awake_any W
  clear hmi hS1
  go_enter Try.func3, Try.ntmps3
  go_upto_region 1 with fail
  generalize w.alloc (.cells #[.int .i64 cu, .int .i64 cg] 24) = W1 at *
  cases hf : few ls with
  | false =>
    rw [hf] at cF
    have cA := hA W1
    clear cG hA
    go_wp2_with (first
      | (go_at_call 5; refine cF.mono ?_; rintro e w2 ⟨rfl, rfl⟩)
      | (go_at_call 6; refine cA.mono ?_; rintro e w3 ⟨rfl, hb3⟩))
    go_ret
    exact ⟨rfl, below_two hb1 hb3⟩
  | true =>
    rw [hf] at cF
    by_cases hn : n.size ≤ 300
    · have hn' : ¬ (300 : Int) < (n.size : Int) := by omega
      have cG1 := cG hf
      have hgood := good_all hf
      generalize growAll (begin_ bare 1 60000 60000) ls = st at *
      have HG := Lib.hid hgood
      have hlast := hgood.last
      have hlo := hgood.gr.inv.lo
      have hlen : st.n.length ≤ 1000000 := by have := hgood.gr.inv.len; omega
      have hdl : st.d.length ≤ 1000000 := by have := hgood.gr.inv.mounts; omega
      clear cG hf hgood
      go_upto_region 4 with (first
        | (go_at_call 5; refine cF.mono ?_; rintro e w2 ⟨rfl, rfl⟩)
        | (go_at_call 7; refine cG1.mono ?_; rintro e W2 ⟨X, A, M, F, rfl, ⟨mv, nv, dv, hW, hF⟩, hb2⟩))
      have hb12 := below_two hb1 hb2
      have hC2 : CrBox w.heap.size cu cg W2 := hC.below hb2
      have x2 := hF.facts.2.2.1
      have hFl := hF.ltF
      have HW := Lib.hid hW; have HF := Lib.hid hF; have HC := Lib.hid hC2
      have HB12 := Lib.hid hb12
      clear cF cG1 hb1 hb2 hC hW hF hb12 hC2 hn'
      go_wp2
      go_loopw [10] (fun i wr => ∃ z : Int, i = .int .i64 z ∧ -1 ≤ z ∧ z ≤ st.last + 2 ∧ Below W2.heap.size W2 wr) (fun i _ => (st.last + 2 - RowKit.intOf i).toNat)
      case atStart => exact ⟨-1, rfl, by omega, by omega, Below.refl _ _⟩
      case round =>
        obtain ⟨z, rfl, hz1, hz2, hb⟩ := hrel
        have y2 := (hb.cell (p := ⟨F, 2, none⟩) hFl).trans x2
        have hwr : IntKind.i64.wrap (st.last + 1) = st.last + 1 := wrap_id (by omega) (by omega)
        by_cases hlt : z ≤ st.last + 1
        · have hwz : IntKind.i64.wrap (z + 1) = z + 1 := wrap_id (by omega) (by omega)
          have hwf : T.Wf z := T.wf_of (by omega) (by omega)
          have c1 := fun W (hh : Below W2.heap.size W2 W) => Stat_any (HW.out.below hh) z hwf
          have c2 := fun W (hh : Below W2.heap.size W2 W) => refStat_any HG.out.gr.inv (HF.out.below hh) hlen z
          have c3 := fun W (hh : Below W2.heap.size W2 W) => List_any HG.out.gr.inv (HW.out.below hh) cu cg z hwf
          have c4 := fun W (hh : Below W2.heap.size W2 W) => refList_any HG.out.gr.inv (HF.out.below hh) hlen hdl cu cg z
          have c5 := fun W (hh : Below W2.heap.size W2 W) => Read_any (HW.out.below hh) cu cg z hwf
          have c6 := fun W (hh : Below W2.heap.size W2 W) => refRead_any HG.out.gr.inv HG.out.so (HF.out.below hh) hlen cu cg z
          have c7 := fun W (hh : Below W2.heap.size W2 W) => Target_any (HW.out.below hh) z hwf
          have c8 := fun W (hh : Below W2.heap.size W2 W) => refTarget_any HG.out.gr.inv HG.out.so (HF.out.below hh) hlen z
          have c9 := fun W (hh : Below W2.heap.size W2 W) => Look_any HG.out.gr.inv (HW.out.below hh) HG.out.tr cu cg z hwf n.data.toList
          have c10 := fun W (hh : Below W2.heap.size W2 W) => refLook_any HG.out.gr.inv (HF.out.below hh) hlen hdl cu cg z n.data.toList
          simp only [str_list] at c9 c10
          have hfew := shown_few HG.out.gr.inv (dirE st cu cg z 4) z
          generalize noneE st z = e1 at *
          generalize told (gets st.n z) = fd at *
          generalize shown st (onlyIf (dirE st cu cg z 4) (gets st.n z)).es = es at *
          generalize dirE st cu cg z 4 = e2 at *
          generalize (onlyIf (readE st cu cg z) (gets st.n z)).data = rd at *
          generalize readE st cu cg z = e3 at *
          generalize (onlyIf (filE st z 2) (gets st.n z)).data = td at *
          generalize filE st z 2 = e4 at *
          generalize lookN st cu cg z n.data.toList = lk at *
          generalize lookE st cu cg z n.data.toList = e5 at *
          obtain ⟨f0, f1, f2, f3, f4, f5, f6, f7, f8, f9⟩ := fd
          dsimp only [Sd.v] at c1 c2
          have HBR := Lib.hid hb
          have q1 := c1 _ hb
          clear c1
          go_upto_region 10 with (go_at_call 8; refine q1.mono ?_; rintro e w3 ⟨rfl, hb3⟩; have S3 := SBox.new ⟨f0, f1, f2, f3, f4, f5, f6, f7, f8, f9⟩ w3)
          have hal : Below w3.heap.size w3 (w3.alloc (.cells #[.int .i64 f0, .int .i64 f1, .int .i64 f2, .int .i64 f3, .int .i64 f4, .int .i64 f5, .int .i64 f6, .int .i64 f7, .int .i64 f8, .int .i64 f9] 37)) := (Below.refl _ _).alloc (Nat.le_refl _) _
          have hb4 := hb.trans ((below_two hb3 hal).mono hb.size)
          generalize w3.heap.size = b3 at *
          generalize w3.alloc (.cells #[.int .i64 f0, .int .i64 f1, .int .i64 f2, .int .i64 f3, .int .i64 f4, .int .i64 f5, .int .i64 f6, .int .i64 f7, .int .i64 f8, .int .i64 f9] 37) = W4 at *
          have q2 := c2 _ hb4
          clear c2 q1 hb3 hal hb
          go_upto_region 11 with (go_at_call 9; refine q2.mono ?_; rintro e w5 ⟨rfl, hb5⟩; have S5 := SBox.new ⟨f0, f1, f2, f3, f4, f5, f6, f7, f8, f9⟩ w5)
          have hal : Below w5.heap.size w5 (w5.alloc (.cells #[.int .i64 f0, .int .i64 f1, .int .i64 f2, .int .i64 f3, .int .i64 f4, .int .i64 f5, .int .i64 f6, .int .i64 f7, .int .i64 f8, .int .i64 f9] 37)) := (Below.refl _ _).alloc (Nat.le_refl _) _
          have S3 := (S3.below hb5).below hal
          have hb6 := hb4.trans ((below_two hb5 hal).mono hb4.size)
          generalize w5.heap.size = b5 at *
          generalize w5.alloc (.cells #[.int .i64 f0, .int .i64 f1, .int .i64 f2, .int .i64 f3, .int .i64 f4, .int .i64 f5, .int .i64 f6, .int .i64 f7, .int .i64 f8, .int .i64 f9] 37) = W6 at *
          have q3 := c3 _ hb6
          have HC6 := Lib.hid ((HC.out.below hb6).facts)
          obtain ⟨k0, k1⟩ := HC6.out
          clear c3 q2 hb5 hal hb4 HC6
          go_upto_region 12 with (go_at_call 10; refine q3.mono ?_; rintro e w7 ⟨u7, rfl, hO7, hb7⟩; obtain ⟨o7, cc7, rfl⟩ := T.own_slice hO7)
          have hb8 := hb6.trans (hb7.mono hb6.size)
          have S3 := S3.below hb7
          have S5 := S5.below hb7
          have q4 := c4 _ hb8
          clear c4 q3 hb7 hb6 k0 k1
          obtain ⟨k0, k1⟩ := (HC.out.below hb8).facts
          go_upto_region 13 with (go_at_call 11; refine q4.mono ?_; rintro e w9 ⟨u9, rfl, hO9, hb9⟩; obtain ⟨o9, cc9, rfl⟩ := T.own_slice hO9)
          have hb10 := hb8.trans (hb9.mono hb8.size)
          have hO7 := hO7.below hb9
          have S3 := S3.below hb9
          have S5 := S5.below hb9
          have q5 := c5 _ hb10
          clear c5 q4 hb9 hb8 k0 k1
          obtain ⟨k0, k1⟩ := (HC.out.below hb10).facts
          go_upto_region 14 with (go_at_call 12; refine q5.mono ?_; rintro e w11 ⟨rfl, hb11⟩)
          have hb12 := hb10.trans (hb11.mono hb10.size)
          have hO7 := hO7.below hb11
          have hO9 := hO9.below hb11
          have S3 := S3.below hb11
          have S5 := S5.below hb11
          have q6 := c6 _ hb12
          clear c6 q5 hb11 hb10 k0 k1
          obtain ⟨k0, k1⟩ := (HC.out.below hb12).facts
          go_upto_region 15 with (go_at_call 13; refine q6.mono ?_; rintro e w13 ⟨rfl, hb13⟩)
          have hb14 := hb12.trans (hb13.mono hb12.size)
          have hO7 := hO7.below hb13
          have hO9 := hO9.below hb13
          have S3 := S3.below hb13
          have S5 := S5.below hb13
          have cs := Same_any hO7.sees hO9.sees hfew
          obtain ⟨p0, p1, p2, p3, p4, p5, p6, p7, p8, p9⟩ := S3.facts
          obtain ⟨s0, s1, s2, s3, s4, s5, s6, s7, s8, s9⟩ := S5.facts
          dsimp only at p0 p1 p2 p3 p4 p5 p6 p7 p8 p9 s0 s1 s2 s3 s4 s5 s6 s7 s8 s9
          clear q6 hb13 hb12 k0 k1
          go_upto_region 17 with (go_at_call 14; refine cs.mono ?_; rintro e w15 ⟨rfl, hb15⟩)
          have hb16 := hb14.trans (hb15.mono hb14.size)
          have q7 := c7 _ hb16
          clear p0 p1 p2 p3 p4 p5 p6 p7 p8 p9 s0 s1 s2 s3 s4 s5 s6 s7 s8 s9 S3 S5 hO7 hO9 cs hb15 hb14 c7
          go_upto_region 18 with (go_at_call 15; refine q7.mono ?_; rintro e w17 ⟨rfl, hb17⟩)
          have hb18 := hb16.trans (hb17.mono hb16.size)
          have q8 := c8 _ hb18
          clear c8 q7 hb17 hb16
          go_upto_region 19 with (go_at_call 16; refine q8.mono ?_; rintro e w19 ⟨rfl, hb19⟩)
          have hb20 := hb18.trans (hb19.mono hb18.size)
          have q9 := c9 _ hb20
          obtain ⟨k0, k1⟩ := (HC.out.below hb20).facts
          clear c9 q8 hb19 hb18
          go_upto_region 20 with (go_at_call 17; refine q9.mono ?_; rintro e w21 ⟨rfl, hb21⟩)
          have hb22 := hb20.trans (hb21.mono hb20.size)
          have q10 := c10 _ hb22
          clear c10 q9 hb21 hb20 k0 k1
          obtain ⟨k0, k1⟩ := (HC.out.below hb22).facts
          go_upto_region 21 with (go_at_call 18; refine q10.mono ?_; rintro e w23 ⟨rfl, hb23⟩)
          have hb24 := hb22.trans (hb23.mono hb22.size)
          have HB24 := Lib.hid hb24
          clear q10 hb23 hb22 k0 k1 hb24
          go_wp2
          go_roundw
          case rel => exact ⟨z + 1, by first | rfl | rw [hwz], by omega, by omega, HB24.out⟩
          case measure => simp [RowKit.intOf]; omega
        · have cA := hA wr
          clear hA
          go_wp2_with (go_at_call 6; refine cA.mono ?_; rintro e w3 ⟨rfl, hb3⟩)
          go_ret
          exact ⟨rfl, below_two (HB12.out.trans (hb.mono HB12.out.size)) hb3⟩
    · have hn' : (300 : Int) < (n.size : Int) := by omega
      have cA := hA W1
      clear cG hA
      go_wp2_with (first
        | (go_at_call 5; refine cF.mono ?_; rintro e w2 ⟨rfl, rfl⟩)
        | (go_at_call 6; refine cA.mono ?_; rintro e w3 ⟨rfl, hb3⟩))
      go_ret
      exact ⟨rfl, below_two hb1 hb3⟩
end Go.Proofs.Ytjkopgdbkmbnmaa.P
