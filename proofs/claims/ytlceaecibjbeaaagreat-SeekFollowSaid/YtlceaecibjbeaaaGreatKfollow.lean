/-
  What leads to no link leads there whether or not it would be followed; what is told lies where it is told: SeekFollow.
-/
import Derived.Test.YtlceaecibjbeaaaGreatKtabs
import Derived.Test.YtlceaecibjbeaaaGreatKfmath
import Derived.Test.YtlceaecibjbeaaaGreatKlook
namespace Go.Proofs.YtlceaecibjbeaaaGreat.K
open Go.RowKit Go.Shelf G
attribute [local go_sem] Oper.semAt_some

/-- what the region reads: a table's address, a number -/
def Src2 (X A b : Nat) (k : Int) (w : World) : Prop := w.cell? ⟨X, 0, none⟩ = some (.pointer (some ⟨A, 0, none⟩)) ∧ w.cell? ⟨b, 2, none⟩ = some (.int .i64 k)
section
variable {X A b : Nat} {k : Int} {w w' : World}
theorem Src2.all (c : Src2 X A b k w) : w.cell? ⟨X, 0, none⟩ = some (.pointer (some ⟨A, 0, none⟩)) ∧ w.cell? ⟨b, 2, none⟩ = some (.int .i64 k) := c
theorem Src2.later {n : Nat} (c : Src2 X A b k w) (hb : Below n w w') (l0 : X < n) (l1 : b < n) : Src2 X A b k w' := by
  obtain ⟨c0, c1⟩ := c
  refine ⟨?_, ?_⟩ <;> rw [hb.cell (by assumption)] <;> assumption
theorem Src2.next (c : Src2 X A b k w) (hb : Below w.heap.size w w') : Src2 X A b k w' := c.later hb (World.block_lt_of_cell? _ _ c.1) (World.block_lt_of_cell? _ _ c.2)
theorem Src2.alloc (c : Src2 X A b k w) (o : Obj) : Src2 X A b k (w.alloc o) := c.next ((Below.refl _ w).alloc (Nat.le_refl _) o)
theorem Src2.drew (c : Src2 X A b k w) : Src2 X A b k w.drew := c.next ((Below.refl _ w).drew)
theorem Src2.filled (c : Src2 X A b k w) {n : Nat} (l0 : X < n) (l1 : b < n) (q0 q1 q2 q3 q4 q5 q6 q7 q8 q9 : Int) (q10 : ByteArray) (q11 : Value) :
    Src2 X A b k ((((((((((((w.setCell ⟨n, 0, none⟩ (.int .i64 q0)).setCell ⟨n, 1, none⟩ (.int .i64 q1)).setCell ⟨n, 2, none⟩ (.int .i64 q2)).setCell ⟨n, 3, none⟩ (.int .i64 q3)).setCell ⟨n, 4, none⟩ (.int .i64 q4)).setCell ⟨n, 5, none⟩ (.int .i64 q5)).setCell ⟨n, 6, none⟩ (.int .i64 q6)).setCell ⟨n, 7, none⟩ (.int .i64 q7)).setCell ⟨n, 8, none⟩ (.int .i64 q8)).setCell ⟨n, 9, none⟩ (.int .i64 q9)).setCell ⟨n, 10, none⟩ (.string q10)).setCell ⟨n, 11, none⟩ q11) :=
  c.later (T.below_fill (Nat.le_refl n) w ⟨q0, q1, q2, q3, q4, q5, q6, q7, q8, q9, q10, []⟩ q11) l0 l1
end
theorem new_node {w w2 : World} (hb : Below ((w.alloc (.cells #[.int .i64 0, .int .i64 0, .int .i64 0, .int .i64 0, .int .i64 0, .int .i64 0, .int .i64 0, .int .i64 0, .int .i64 0, .int .i64 0, .string ⟨#[]⟩, .slice none 0 0] 51)).drew).heap.size ((w.alloc (.cells #[.int .i64 0, .int .i64 0, .int .i64 0, .int .i64 0, .int .i64 0, .int .i64 0, .int .i64 0, .int .i64 0, .int .i64 0, .int .i64 0, .string ⟨#[]⟩, .slice none 0 0] 51)).drew) w2) : T.BoxN w.heap.size T.Nd.zero (.slice none 0 0) w2 :=
  (T.BoxN.below (T.BoxN.new T.Nd.zero (.slice none 0 0) w) ((Below.refl _ _).drew)).below hb
set_option maxRecDepth 100000 in
set_option maxHeartbeats 16000000 in
theorem follows_any {v : Value} {ls : List It} {w : World} (cu cg : Int) (hS : ItSees v ls w) (s : ByteArray) :
    Calls Tryz.prog 5 #[v, .agg #[.int .i64 cu, .int .i64 cg], .string s] w fun e w' => e = .returned (.bool true) ∧ Below w.heap.size w w' := by
  have hS1 := hS
  obtain ⟨oi, ci, rfl, hmi, _⟩ := hS
  have hC : CrBox w.heap.size cu cg (w.alloc (.cells #[.int .i64 cu, .int .i64 cg] 24)) := heap_alloc_new w _
  have hb1 : Below w.heap.size w (w.alloc (.cells #[.int .i64 cu, .int .i64 cg] 24)) := (Below.refl _ _).alloc (Nat.le_refl _) _
  have cF := Few_any (hS1.below hb1)
  have cG := fun hf => Grow_any 60000 60000 (by decide) (hS1.below hb1) hf
  have hA := fun W => awake_any W
  clear hmi hS1
  go_enter Tryz.func5, Tryz.ntmps5
  go_upto_region 1 with fail
  generalize w.alloc (.cells #[.int .i64 cu, .int .i64 cg] 24) = W1 at *
  cases hf : few ls with
  | false =>
    rw [hf] at cF
    have cA := hA W1
    clear cG hA
    go_wp2_with (first
      | (go_at_call 6; refine cF.mono ?_; rintro e w2 ⟨rfl, rfl⟩)
      | (go_at_call 7; refine cA.mono ?_; rintro e w3 ⟨rfl, hb3⟩))
    go_ret
    exact ⟨rfl, below_two hb1 hb3⟩
  | true =>
    rw [hf] at cF
    by_cases h600 : s.size ≤ 600
    · have h600' : ¬ (600 : Int) < (s.size : Int) := by omega
      have cG1 := cG hf
      have hgood := good_all hf
      obtain ⟨hf1, hf2⟩ := few_iff.1 hf
      have hrt := rooted_all (grown_new 60000 60000) (rooted_new 60000 60000) ls (fun i hi => (hf1 i hi).2) (by show (1 : Int) + _ < _; omega)
      generalize growAll (begin_ bare 1 60000 60000) ls = st at *
      have HG := Lib.hid hgood
      have hlast := hgood.last
      have hlen : st.n.length < 1000 := by have := hgood.gr.inv.len; omega
      have hmts := hgood.gr.inv.mounts
      have htw := follow_path hgood.gr.inv hgood.tr hrt hgood.rg (by omega) cu cg s.data.toList
      clear cG hf hgood hf1 hf2 hrt
      go_upto_region 6 with (first
        | (go_at_call 6; refine cF.mono ?_; rintro e w2 ⟨rfl, rfl⟩)
        | (go_at_call 8; refine cG1.mono ?_; rintro e W2 ⟨X, A, M, F, rfl, ⟨mv, nv, dv, hW, hF⟩, hb2⟩))
      have hb12 := below_two hb1 hb2
      have hC2 : CrBox w.heap.size cu cg W2 := (hb2.block _ hC.lt).trans hC
      have c1 := Path_any (by omega) HG.out.gr.inv HG.out.tr HG.out.rg hW cu cg s (by omega) false
      have c2 := fun W (hb : Below W2.heap.size W2 W) => Path_any (by omega) HG.out.gr.inv HG.out.tr HG.out.rg (hW.below hb) cu cg s (by omega) true
      obtain ⟨⟨⟨xd, xn, xo, xs⟩, ex⟩, hpx⟩ : ∃ y, path st cu cg false s.data.toList = y := ⟨_, rfl⟩
      obtain ⟨⟨⟨yd, yn, yo, ys⟩, ey⟩, hpy⟩ : ∃ y, path st cu cg true s.data.toList = y := ⟨_, rfl⟩
      rw [hpx] at c1 htw
      rw [hpy] at c2 htw
      dsimp only [Fd.v] at c1 c2
      obtain ⟨t1, t2, t3, t4, t5⟩ := htw
      dsimp only at t1 t2 t3 t4 t5
      have T1 := Lib.hid t1; have T2 := Lib.hid t2; have T3 := Lib.hid t3; have T4 := Lib.hid t4; have T5 := Lib.hid t5
      have cget := fun W (hb : Below W2.heap.size W2 W) => Get_st (hW.below hb) xo (T.wf_of (by omega) (by omega))
      have clk := fun W (hb : Below W2.heap.size W2 W) hk => look_any HG.out.gr.inv (hF.below hb) (by omega) (by omega) xd hk xn
      have hx0 := hW.facts.1
      have HB12 := Lib.hid hb12
      obtain ⟨k0, k1⟩ := hC2.facts
      clear cF cG1 hb1 hb2 hC hW hF hb12 t1 t2 t3 t4 t5 hpx hpy
      go_upto_region 7 with (go_at_call 9; refine c1.mono ?_; rintro e w3 ⟨rfl, hb3⟩; have B3 := FdBox.new ⟨xd, xn, xo, xs⟩ w3)
      have hal : Below w3.heap.size w3 (w3.alloc (.cells #[.int .i64 xd, .string ⟨xn.toArray⟩, .int .i64 xo, .bool xs] 33)) := (Below.refl _ _).alloc (Nat.le_refl _) _
      have hb23 : Below W2.heap.size W2 (w3.alloc (.cells #[.int .i64 xd, .string ⟨xn.toArray⟩, .int .i64 xo, .bool xs] 33)) := below_two hb3 hal
      have hC3 : CrBox w.heap.size cu cg (w3.alloc (.cells #[.int .i64 xd, .string ⟨xn.toArray⟩, .int .i64 xo, .bool xs] 33)) := (hb23.block _ hC2.lt).trans hC2
      try dsimp only at B3
      generalize w3.alloc (.cells #[.int .i64 xd, .string ⟨xn.toArray⟩, .int .i64 xo, .bool xs] 33) = W3 at *
      generalize w3.heap.size = bx at *
      have c23 := c2 W3 hb23
      clear c1 c2 k0 k1 hb3 hal
      obtain ⟨k0, k1⟩ := hC3.facts
      go_upto_region 8 with (go_at_call 9; refine c23.mono ?_; rintro e w4 ⟨rfl, hb4⟩; have B4 := FdBox.new ⟨yd, yn, yo, ys⟩ w4)
      have hal : Below w4.heap.size w4 (w4.alloc (.cells #[.int .i64 yd, .string ⟨yn.toArray⟩, .int .i64 yo, .bool ys] 33)) := (Below.refl _ _).alloc (Nat.le_refl _) _
      have hb24 : Below W2.heap.size W2 (w4.alloc (.cells #[.int .i64 yd, .string ⟨yn.toArray⟩, .int .i64 yo, .bool ys] 33)) := below_two (below_two hb23 hb4) hal
      have B34 := (B3.below hb4).below hal
      try dsimp only at B4
      generalize w4.alloc (.cells #[.int .i64 yd, .string ⟨yn.toArray⟩, .int .i64 yo, .bool ys] 33) = W4 at *
      generalize w4.heap.size = by_ at *
      clear c23 k0 k1 hb4 hal B3 hC3 hb23
      obtain ⟨x0, x1, x2, x3⟩ := B34.facts
      obtain ⟨y0, y1, y2, y3⟩ := B4.facts
      dsimp only at x0 x1 x2 x3 y0 y1 y2 y3
      have cA4 := hA W4
      by_cases he : ex = 0
      · subst he
        have hxc := (hb24.cell (p := ⟨X, 0, none⟩) (World.block_lt_of_cell? _ _ hx0)).trans hx0
        have hXN : X < W4.heap.size := World.block_lt_of_cell? _ _ hxc
        have hbN : bx < W4.heap.size := B34.lt
        have kw : Src2 X A bx xo W4 := ⟨hxc, x2⟩
        have kp : Src2 X A bx xo W4.drew := kw.drew
        have bdr : Below W4.heap.size W4 W4.drew := (Below.refl _ _).drew
        have bad : Below W4.heap.size W4 ((W4.alloc (.cells #[.int .i64 0, .int .i64 0, .int .i64 0, .int .i64 0, .int .i64 0, .int .i64 0, .int .i64 0, .int .i64 0, .int .i64 0, .int .i64 0, .string ⟨#[]⟩, .slice none 0 0] 51)).drew) := ((Below.refl _ _).alloc (Nat.le_refl _) _).drew
        have cg4 : ∀ W, Below W4.heap.size W4 W → _ := fun W h => cget W (hb24.trans (h.mono hb24.size))
        have clk4 : ∀ W, Below W4.heap.size W4 W → _ := fun W h => clk W (hb24.trans (h.mono hb24.size))
        have hkd : kind st xo = (gets st.n xo).kind := rfl
        obtain ⟨nd, hnd⟩ : ∃ nd, gets st.n xo = nd := ⟨_, rfl⟩
        rw [hnd] at cg4 hkd
        obtain ⟨no, dev, kd, mode, uid, gid, mtm, ctm, links, up, data, es⟩ := nd
        dsimp only [T.Nd.v] at cg4
        dsimp only at hkd
        generalize (get st.n xo).isSome = bb at cg4
        have HKD := Lib.hid hkd; have HB34 := Lib.hid B34; have HB4 := Lib.hid B4; have CLK := Lib.hid clk4
        clear cget clk hnd hkd clk4 B34 B4 x0 x1 x3 y0 y1 y2 y3 cA4
        go_upto_region 10 with fail
        go_cut [14, 15] (fun sx sy wx => ∃ N u, sx = .pointer (some ⟨N, 0, none⟩) ∧ sy = .bool bb ∧ T.BoxN N ⟨no, dev, kd, mode, uid, gid, mtm, ctm, links, up, data, es⟩ u wx ∧ Below W4.heap.size W4 wx)
        case first =>
          go_region_held3 (fun w' => w'.cell? ⟨X, 0, none⟩ = some (.pointer (some ⟨A, 0, none⟩)) ∧ w'.cell? ⟨bx, 2, none⟩ = some (.int .i64 xo)) (with_reducible first | exact Src2.all kq | exact Src2.all (Src2.alloc kq _) | exact Src2.all kp | exact Src2.all (Src2.drew (Src2.alloc kw _)) | exact Src2.all (Src2.filled kq hXN hbN _ _ _ _ _ _ _ _ _ _ _ _))
            (first
              | (go_at_call 14; refine (cg4 _ (by with_reducible exact bdr)).mono ?_; rintro e w5 ⟨u, rfl, hO5, hb5⟩; obtain ⟨ou, cu5, rfl⟩ := T.own_slice hO5; have kq : Src2 X A bx xo w5 := (by with_reducible exact Src2.next kp hb5))
              | (go_at_call 14; refine (cg4 _ (by with_reducible exact bad)).mono ?_; rintro e w5 ⟨u, rfl, hO5, hb5⟩; obtain ⟨ou, cu5, rfl⟩ := T.own_slice hO5; have kq : Src2 X A bx xo w5 := (by with_reducible exact Src2.next (Src2.drew (Src2.alloc kw _)) hb5); have nb := new_node hb5; obtain ⟨a0, a1, a2, a3, a4, a5, a6, a7, a8, a9, a10, a11⟩ := nb.facts; obtain ⟨f0, f1, f2, f3, f4, f5, f6, f7, f8, f9, f10, f11⟩ := nb.open))
          · go_wp2_with fail
            go_meet
            case rel =>
              have h1 := below_two bdr hb5
              exact ⟨w5.heap.size, _, rfl, rfl, T.BoxN.new ⟨no, dev, kd, mode, uid, gid, mtm, ctm, links, up, data, es⟩ (.slice ou es.length cu5) w5, h1.alloc h1.size _⟩
          · go_wp2_with fail
            go_meet
            case rel =>
              have h1 := below_two bad hb5
              exact ⟨W4.heap.size, _, rfl, rfl, nb.fill ⟨no, dev, kd, mode, uid, gid, mtm, ctm, links, up, data, es⟩ (.slice ou es.length cu5), h1.trans (T.below_fill (Nat.le_refl _) w5 ⟨no, dev, kd, mode, uid, gid, mtm, ctm, links, up, data, es⟩ (.slice ou es.length cu5))⟩
        case rest =>
          obtain ⟨N, u, rfl, rfl, hN, hbc⟩ := hcut
          have n2 := hN.facts.2.2.1
          dsimp only at n2
          obtain ⟨x0, x1, x2, x3⟩ := (HB34.out.below hbc).facts
          obtain ⟨y0, y1, y2, y3⟩ := (HB4.out.below hbc).facts
          dsimp only at x0 x1 x2 x3 y0 y1 y2 y3
          have hbw := HB12.out.trans ((hb24.trans (hbc.mono hb24.size)).mono HB12.out.size)
          have HBC := Lib.hid hbc; have HBW := Lib.hid hbw
          clear kw kp bdr bad cg4 hxc hN hbc hbw hb24
          have HX := Lib.hid (HB34.out.below HBC.out)
          go_step
          go_step
          by_cases hk3 : kd = 3
          · subst hk3
            by_cases hn : xn = []
            · obtain ⟨h5, h6⟩ := T3.out rfl hn
              subst hn
              have h7 : (xo != 0) = true := by simpa using h6
              subst h5
              have cAw := hA wc
              clear h6 CLK hA
              go_wp2_with (go_at_call 7; refine cAw.mono ?_; rintro e w6 ⟨rfl, hb6⟩)
              go_ret
              exact ⟨rfl, below_two HBW.out hb6⟩
            · obtain ⟨h5, h6⟩ := T4.out rfl hn
              have hne : xn.isEmpty = false := by cases xn with | nil => exact absurd rfl hn | cons a b => rfl
              have clk := CLK.out wc HBC.out h5
              rw [← h6] at clk
              have hA6 := fun W => hA W
              clear h5 h6 hn CLK hA
              go_wp2_with (first
                | (go_at_call 15; refine clk.mono ?_; rintro e w6 ⟨z6, rfl, hb6⟩; have cAw := hA6 w6; obtain ⟨x0', x1', x2', x3'⟩ := (HX.out.below hb6).facts)
                | (go_at_call 7; refine cAw.mono ?_; rintro e w7 ⟨rfl, hb7⟩))
              go_ret
              exact ⟨rfl, below_two (below_two HBW.out hb6) hb7⟩
          · have hk3' : (kd != 3) = true := by simpa using hk3
            have hsm := T2.out rfl (by rw [HKD.out]; exact hk3)
            obtain ⟨rfl, rfl, rfl, rfl, rfl⟩ : xd = yd ∧ xn = yn ∧ xo = yo ∧ xs = ys ∧ 0 = ey := by cases hsm; exact ⟨rfl, rfl, rfl, rfl, rfl⟩
            clear hsm
            by_cases hn : xn = []
            · obtain ⟨h5, h6⟩ := T3.out rfl hn
              subst hn
              have h7 : (xo != 0) = true := by simpa using h6
              subst h5
              have cAw := hA wc
              clear h6 CLK hA
              go_wp2_with (go_at_call 7; refine cAw.mono ?_; rintro e w6 ⟨rfl, hb6⟩)
              go_ret
              exact ⟨rfl, below_two HBW.out hb6⟩
            · obtain ⟨h5, h6⟩ := T4.out rfl hn
              have hne : xn.isEmpty = false := by cases xn with | nil => exact absurd rfl hn | cons a b => rfl
              have clk := CLK.out wc HBC.out h5
              rw [← h6] at clk
              have hA6 := fun W => hA W
              clear h5 h6 hn CLK hA
              go_wp2_with (first
                | (go_at_call 15; refine clk.mono ?_; rintro e w6 ⟨z6, rfl, hb6⟩; have cAw := hA6 w6; obtain ⟨x0', x1', x2', x3'⟩ := (HX.out.below hb6).facts)
                | (go_at_call 7; refine cAw.mono ?_; rintro e w7 ⟨rfl, hb7⟩))
              go_ret
              exact ⟨rfl, below_two (below_two HBW.out hb6) hb7⟩
      · have he' : (ex != 0) = true := by simpa using he
        obtain ⟨h1, h2⟩ := T1.out he
        have h3 : xd = 0 ∧ xn = [] ∧ xo = 0 ∧ xs = false := by cases h2; exact ⟨rfl, rfl, rfl, rfl⟩
        have h4 : ey = ex := congrArg Prod.snd h1
        obtain ⟨rfl, rfl, rfl, rfl⟩ := h3
        obtain rfl := h4.symm
        have hbw := HB12.out.trans (hb24.mono HB12.out.size)
        clear h1 h2 cget clk hA
        go_wp2_with (go_at_call 7; refine cA4.mono ?_; rintro e w5 ⟨rfl, hb5⟩)
        go_ret
        exact ⟨rfl, below_two hbw hb5⟩
    · have h600' : (600 : Int) < (s.size : Int) := by omega
      have cA := hA W1
      clear cG hA
      go_wp2_with (first
        | (go_at_call 6; refine cF.mono ?_; rintro e w2 ⟨rfl, rfl⟩)
        | (go_at_call 7; refine cA.mono ?_; rintro e w3 ⟨rfl, hb3⟩))
      go_ret
      exact ⟨rfl, below_two hb1 hb3⟩
end Go.Proofs.YtlceaecibjbeaaaGreat.K
