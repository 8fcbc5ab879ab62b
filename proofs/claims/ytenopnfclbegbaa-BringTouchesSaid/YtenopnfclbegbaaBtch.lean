/-
  A directory has other names: BringTouches.
-/
import Derived.Test.YtenopnfclbegbaaBawk
import Derived.Test.YtenopnfclbegbaaBact
import Derived.Test.YtenopnfclbegbaaBfew
import Derived.Test.YtenopnfclbegbaaBloose
import Derived.Test.YtenopnfclbegbaaTsam
import Derived.BigQuiet
import Derived.KernelRfl
import Derived.Deep.RegionHeld3
namespace Go.Proofs.Ytenopnfclbegbaa.BR
open Go.RowKit Go.Shelf G
attribute [local go_sem] Oper.semAt_some

theorem str_geq (a b : List UInt8) (W : World) : (binOp .geq 9 (.string ⟨a.toArray⟩) (.string ⟨b.toArray⟩)).run Try.prog W = .ok (.bool (!Op.bytesLess a b)) W := by
  simp [binOp, go_sem, Op.stringOp, ByteArray.toList_eq]
theorem touch_get {st : St} {k t : Int} {es : List E.Ent} (hs : (get st.n k).isSome = true) : gets (touch st k es t).n k = touched (gets st.n k) es t ∧ (get (touch st k es t).n k).isSome = true := by
  obtain ⟨d, hd⟩ := Option.isSome_iff_exists.1 hs
  have h1 := gets_some hd
  have h2 := (get_some hd).2
  have g : get (touch st k es t).n k = some (touched d es t) := by
    unfold touch
    rw [get_setN, hd, h1]
    simp only [Option.map_some]
    rw [if_pos]
    exact h2.symm
  exact ⟨by rw [gets_some g, h1], by rw [g]; rfl⟩
theorem dir_there {st : St} {k : Int} (h : (gets st.n k).kind = 1) : (get st.n k).isSome = true := by
  cases e : get st.n k with
  | none => rw [gets_none e] at h; cases h
  | some _ => rfl
set_option maxRecDepth 100000 in
set_option maxHeartbeats 32000000 in
theorem touches_any {v u : Value} {ls : List It} {ns : List E.Ent} {w : World} (hS : ItSees v ls w) (a : Ac) (hN : E.Sees u ns w) :
    Calls Try.prog 3 #[v, a.v, u] w fun e w' => e = .returned (.bool true) ∧ Below w.heap.size w w' := by
  have D1 := BoxA.new a w
  have hb1 : Below w.heap.size w (w.alloc (.cells #[.int .i64 a.kind, .int .i64 a.cu, .int .i64 a.cg, .int .i64 a.dir, .int .i64 a.no, .int .i64 a.n, .string ⟨a.name.toArray⟩, .string a.text, .int .i64 a.tgt, .string a.asn] 26)) := (Below.refl _ _).alloc (Nat.le_refl _) _
  have cF := Few_any (hS.below hb1)
  have cG := fun W (hb : Below w.heap.size w W) hf => Grow_any 300 60 (by decide) (hS.below hb) hf
  have HN := Lib.hid hN
  obtain ⟨oi, ci, rfl, _, _⟩ := hS
  obtain ⟨on_, cn, rfl, _, hcells⟩ := hN
  have HC := Lib.hid hcells
  clear hcells
  dsimp only [Ac.v]
  go_enter Try.func3, Try.ntmps3
  go_upto_region 1 with fail
  generalize w.alloc (.cells #[.int .i64 a.kind, .int .i64 a.cu, .int .i64 a.cg, .int .i64 a.dir, .int .i64 a.no, .int .i64 a.n, .string ⟨a.name.toArray⟩, .string a.text, .int .i64 a.tgt, .string a.asn] 26) = W1 at *
  obtain ⟨b0, hb0⟩ : ∃ b, w.heap.size = b := ⟨_, rfl⟩
  have HB0 := Lib.hid hb0
  rw [hb0] at D1 ⊢
  clear hb0
  cases hf : few ls with
  | false =>
    rw [hf] at cF
    clear cG
    go_wp2_with (first | (go_at_call 4; refine cF.mono ?_; rintro e w2 ⟨rfl, rfl⟩) | (go_at_call 5; refine (awake_any _).mono ?_; rintro e w9 ⟨rfl, hb9⟩))
    go_ret
    exact ⟨rfl, HB0.out ▸ below_two hb1 hb9⟩
  | true =>
    rw [hf] at cF
    by_cases h20' : 20 < ns.length
    · have h20 : (20 : Int) < (ns.length : Int) := by omega
      clear cG
      go_wp2_with (first | (go_at_call 4; refine cF.mono ?_; rintro e w2 ⟨rfl, rfl⟩) | (go_at_call 5; refine (awake_any _).mono ?_; rintro e w9 ⟨rfl, hb9⟩))
      go_ret
      exact ⟨rfl, HB0.out ▸ below_two hb1 hb9⟩
    · have h20 : ¬ (20 : Int) < (ns.length : Int) := by omega
      have HD1 := Lib.hid D1; have HB1 := Lib.hid hb1; have HF := Lib.hid hf; have HG := Lib.hid cG
      clear D1 cG hf
      go_wp2_with (go_at_call 4; refine cF.mono ?_; rintro e w2 ⟨rfl, rfl⟩)
      clear cF
      go_loopw [7] (fun i wr => ∃ j : Nat, i = .int .i64 j ∧ j ≤ ns.length ∧ Below W1.heap.size W1 wr) (fun i _ => ns.length - (RowKit.intOf i).toNat)
      case atStart => exact ⟨0, rfl, Nat.zero_le _, Below.refl _ _⟩
      case round =>
        obtain ⟨j, rfl, hj, hb⟩ := hrel
        have hbw := below_two HB1.out hb
        by_cases hjl : j < ns.length
        · have hjl' : (j : Int) < (ns.length : Int) := by omega
          obtain ⟨x, hx⟩ : ∃ x, ns[j]? = some x := ⟨_, List.getElem?_eq_getElem hjl⟩
          obtain ⟨g, o, rfl, d0, d1⟩ := HC.out j x hx
          have hg := World.block_lt_of_cell? _ _ d0
          have r0 := (hbw.cell (p := ⟨g, o + j * 2, none⟩) hg).trans d0
          have hwj : IntKind.i64.wrap ((j : Int) + 1) = (j : Int) + 1 := wrap_id (by omega) (by omega)
          have hsz := size_list x.name
          clear d0 d1
          by_cases h300 : 300 < x.name.length
          · have h300' : (300 : Int) < (x.name.length : Int) := by omega
            have HB := Lib.hid hb
            have HX := Lib.hid hx
            clear hb hx hbw
            go_upto_region 6 with fail
            go_quiet (fail)
            go_wp2_with (go_at_call 5; refine (awake_any _).mono ?_; rintro e w9 ⟨rfl, hb9⟩)
            go_ret
            exact ⟨rfl, HB0.out ▸ (below_two (below_two (below_two HB1.out HB.out) (E.below_drewN nq)) hb9)⟩
          · have h300' : ¬ (300 : Int) < (x.name.length : Int) := by omega
            have HB := Lib.hid hb
            have hpre : j = 0 ∨ ∃ m y, j = m + 1 ∧ ns[m]? = some y := by
              cases j with
              | zero => exact .inl rfl
              | succ m => exact .inr ⟨m, _, rfl, List.getElem?_eq_getElem (show m < ns.length by omega)⟩
            rcases hpre with rfl | ⟨m, y, hm, hy⟩
            · have HX := Lib.hid hx
              simp only [Nat.zero_mul, Nat.add_zero] at r0
              clear hb hx hbw
              go_upto_region 6 with fail
              go_quiet (fail)
              go_wp2
              go_roundw
              case rel => exact ⟨0 + 1, by go_num, by omega, below_two HB.out (E.below_drewN nq)⟩
              case measure => simp [RowKit.intOf]; omega
            · obtain ⟨g', o', e', d2, _⟩ := HC.out m y hy
              cases e'
              have t0 := (hbw.cell (p := ⟨g, o + m * 2, none⟩) hg).trans d2
              have hj0 : (0 : Int) < (j : Int) := by omega
              have hjn : 0 < j := by omega
              have hwm : IntKind.i64.wrap ((j : Int) - 1) = (m : Int) := by rw [show (j : Int) - 1 = (m : Int) by omega]; exact wrap_id (by omega) (by omega)
              have hml : (m : Int) < (ns.length : Int) := by omega
              have HX := Lib.hid hx; have HY := Lib.hid hy
              clear d2 hy hm hx hb hbw
              by_cases hlt : y.name < x.name
              · have hge : ∀ W, (binOp .geq 9 (.string ⟨y.name.toArray⟩) (.string ⟨x.name.toArray⟩)).run Try.prog W = .ok (.bool false) W := fun W => by rw [str_geq, E.less_yes hlt]; rfl
                clear hlt
                go_upto_region 6 with fail
                go_quiet (fail)
                go_wp2
                go_roundw
                case rel => exact ⟨j + 1, by go_num, by omega, below_two HB.out (E.below_drewN nq)⟩
                case measure => simp [RowKit.intOf]; omega
              · have hge : ∀ W, (binOp .geq 9 (.string ⟨y.name.toArray⟩) (.string ⟨x.name.toArray⟩)).run Try.prog W = .ok (.bool true) W := fun W => by rw [str_geq, E.less_no hlt]; rfl
                clear hlt
                go_upto_region 6 with fail
                go_quiet (fail)
                go_wp2_with (go_at_call 5; refine (awake_any _).mono ?_; rintro e w9 ⟨rfl, hb9⟩)
                go_ret
                exact ⟨rfl, HB0.out ▸ (below_two (below_two (below_two HB1.out HB.out) (E.below_drewN nq)) hb9)⟩
        · have hjl' : ¬ (j : Int) < (ns.length : Int) := by omega
          have cG2 := HG.out wr hbw HF.out
          have D2 := HD1.out.below hb
          have hfine := fine_grown (b := 300) (c := 60) HF.out
          have HBW := Lib.hid hbw
          generalize growAll (begin_ bare 1 300 60) ls = st at *
          have hns : T.Fits ns := fits_of (by omega)
          clear HG HF HC HD1 HB1 hb hbw hj
          obtain ⟨B0, hB0⟩ : ∃ b, wr.heap.size = b := ⟨_, rfl⟩
          have hb0B : b0 < B0 := hB0 ▸ D2.lt
          rw [hB0] at cG2
          go_upto_region 9 with (go_at_call 6; refine cG2.mono ?_; rintro e W3 ⟨X, A, M, F, rfl, ⟨mv, nv, dv, hW, hF⟩, hb3'⟩)
          have hb3 : Below wr.heap.size wr W3 := by rw [hB0]; exact hb3'
          have D3 := D2.below hb3
          have hbw3 := below_two HBW.out hb3
          clear cG2 hb3' D2
          have hone := hfine.one
          have hlast := hfine.last
          have hlen := hfine.inv.len
          have cn := near_any hF (by omega) (by omega) a.dir
          obtain ⟨c0, c1, c2, c3, c4, c5, c6, c7, c8, c9⟩ := D3.facts
          go_upto_region 12 with (go_at_call 7; refine cn.mono ?_; rintro e w4 ⟨rfl, rfl⟩)
          have hpd := place_range (last := st.last + 1) (dir := a.dir) (by omega)
          generalize place (st.last + 1) a.dir = kd at *
          have hwd : T.Wf kd := T.wf_of (by omega) (by omega)
          have cg := refGet_any hF kd (by omega)
          have hwB : w.heap.size ≤ B0 := by rw [HB0.out]; omega
          have hB3 : B0 ≤ W3.heap.size := by rw [← hB0]; exact hb3.size
          clear hpd cn hb3
          by_cases hk1 : (gets st.n kd).kind = 1
          · have hs := dir_there hk1
            have hkd : kindE st kd = 0 := kind_dir hs hk1
            have hnk := (P.gets_no hfine.inv hs).1
            have tg := (touch_get (t := a.n) (es := ns) hs).1
            have cT := fun W (h : Wd B0 X A M mv st W) hSS => Touch_any h kd a.n hwd hkd hnk (s := .slice on_ ns.length cn) (es := ns) hSS hns (by omega)
            have cR := fun W (h : Fs { ex0 with now := a.n } B0 F nv dv st W) => refTouch_row hfine.inv h (by omega) kd hs ns on_ cn
            have hI := hfine.inv
            generalize gets st.n kd = nd at *
            obtain ⟨dno, ddev, dkind, dmode, duid, dgid, dmt, dct, dlinks, dup, ddata, des⟩ := nd
            dsimp only at hk1 hnk
            subst hk1
            subst hnk
            dsimp only [T.Nd.v, touched] at cg tg cR
            clear hs hkd hfine
            have hfd : ∀ (o : Option Addr) (c : Nat) (W : World), (Instr.field 38 (.agg #[.int .i64 dno, .int .i64 ddev, .int .i64 1, .int .i64 dmode, .int .i64 duid, .int .i64 dgid, .int .i64 dmt, .int .i64 dct, .int .i64 dlinks, .int .i64 dup, .string ddata, .slice o des.length c]) 2).run Try.prog W = .ok (.int .i64 1) W := fun _ _ _ => by kernel_rfl
            go_upto_region 14 with (go_at_call 8; refine cg.mono ?_; rintro e W5 ⟨u5, rfl, hO5, hb5⟩; obtain ⟨o5, c5', rfl⟩ := T.own_slice hO5)
            have hF5 := hF.below hb5
            have hW5 := hW.below hb5
            have D5 := D3.below hb5
            have hbw5 := below_two hbw3 hb5
            have hB5 : B0 ≤ W5.heap.size := Nat.le_trans hB3 hb5.size
            clear c0 c1 c2 c3 c4 c5 c6 c7 c8 c9 hF hW D3 hbw3 hb5 hO5 cg
            obtain ⟨c0, c1, c2, c3, c4, c5, c6, c7, c8, c9⟩ := D5.facts
            obtain ⟨x3, y3⟩ := hF5.facts3
            have hF6 := hF5.clock a.n
            have hW6 := hW5.beside hF5 (Fs.turnF W5 3 (.int .i64 a.n))
            have D6 := D5.turnF hF5 (Fs.turnF W5 3 (.int .i64 a.n))
            have hb6 := hbw5.setCell (p := ⟨F, 3, none⟩) (Nat.le_trans hwB hF5.bf) (.int .i64 a.n)
            have hB6 : B0 ≤ (W5.setCell ⟨F, 3, none⟩ (.int .i64 a.n)).heap.size := by rw [World.size_setCell]; exact hB5
            clear hF5 hW5 D5 hbw5 hB5
            go_upto_region 15 with fail
            generalize W5.setCell ⟨F, 3, none⟩ (.int .i64 a.n) = W6 at *
            clear c0 c1 c2 c3 c4 c5 c6 c7 c8 c9 x3 y3
            obtain ⟨c0, c1, c2, c3, c4, c5, c6, c7, c8, c9⟩ := D6.facts
            have cT6 := cT W6 hW6 (HN.out.below hb6)
            clear cT
            go_upto_region 16 with (go_at_call 9; refine cT6.mono ?_; rintro e W7 ⟨rfl, hW7, ht7⟩)
            have hF7 := hF6.beside hW6 ht7
            have D7 := D6.turnW hW6 ht7
            have hb7 := hb6.trans ((hW6.ofTurn ht7 hB6).mono hwB)
            have hB7 : B0 ≤ W7.heap.size := Nat.le_trans hB6 ht7.size
            have cR7 := cR W7 hF7
            clear cT6 cR hF6 hW6 D6 hb6 hB6 ht7 c0 c1 c2 c3 c4 c5 c6 c7 c8 c9
            go_upto_region 17 with (go_at_call 10; refine cR7.mono ?_; rintro e W8 ⟨rfl, hL8, ht8⟩)
            have hW8 := hW7.beside hF7 ht8
            have D8 := D7.turnF hF7 ht8
            have hb8 := hb7.trans ((hF7.ofTurn ht8 hB7).mono hwB)
            obtain ⟨of, cf, hnv⟩ := nlen_of hF7
            subst hnv
            have cg8 := Get_st hW8 dno hwd
            rw [tg] at cg8
            have x0 := hW8.facts.1
            dsimp only [T.Nd.v] at cg8
            clear cR7 hF7 hW7 D7 hb7 hB7 ht8
            go_upto_region 18 with (go_at_call 11; refine cg8.mono ?_; rintro e w9 ⟨u9, rfl, hO9, hb9'⟩; obtain ⟨o7, c7, rfl⟩ := T.own_slice hO9; have M9 := T.BoxN.new ⟨dno, ddev, 1, dmode, duid, dgid, a.n, a.n, dlinks, dup, ddata, ns⟩ (.slice o7 ns.length c7) w9)
            have hal : Below w9.heap.size w9 (w9.alloc (.cells #[.int .i64 dno, .int .i64 ddev, .int .i64 1, .int .i64 dmode, .int .i64 duid, .int .i64 dgid, .int .i64 a.n, .int .i64 a.n, .int .i64 dlinks, .int .i64 dup, .string ddata, .slice o7 ns.length c7] 38)) := (Below.refl _ _).alloc (Nat.le_refl _) _
            have hb89 := below_two hb9' hal
            have hO9' := hO9.sees.below hal
            generalize w9.heap.size = y7 at *
            generalize w9.alloc (.cells #[.int .i64 dno, .int .i64 ddev, .int .i64 1, .int .i64 dmode, .int .i64 duid, .int .i64 dgid, .int .i64 a.n, .int .i64 a.n, .int .i64 dlinks, .int .i64 dup, .string ddata, .slice o7 ns.length c7] 38) = W9 at *
            have hL9 := hL8.below hb89
            have hW9 := hW8.below hb89
            have D9 := D8.below hb89
            have hbw9 := below_two hb8 hb89
            have hN9 := HN.out.below hbw9
            clear hO9 hb9' hal hb89 hL8 hW8 D8 hb8 cg8 x0
            have SS : ∀ w2, Below W9.heap.size W9 w2 → w2.cell? ⟨y7, 0, none⟩ = some (.int .i64 dno) ∧ w2.cell? ⟨y7, 1, none⟩ = some (.int .i64 ddev) ∧ w2.cell? ⟨y7, 2, none⟩ = some (.int .i64 1) ∧ w2.cell? ⟨y7, 3, none⟩ = some (.int .i64 dmode) ∧ w2.cell? ⟨y7, 4, none⟩ = some (.int .i64 duid) ∧ w2.cell? ⟨y7, 5, none⟩ = some (.int .i64 dgid) ∧ w2.cell? ⟨y7, 6, none⟩ = some (.int .i64 a.n) ∧ w2.cell? ⟨y7, 7, none⟩ = some (.int .i64 a.n) ∧ w2.cell? ⟨y7, 8, none⟩ = some (.int .i64 dlinks) ∧ w2.cell? ⟨y7, 9, none⟩ = some (.int .i64 dup) ∧ w2.cell? ⟨y7, 10, none⟩ = some (.string ddata) ∧ w2.cell? ⟨y7, 11, none⟩ = some (.slice o7 ns.length c7) ∧ w2.cell? ⟨X, 0, none⟩ = some (.pointer (some ⟨A, 0, none⟩)) ∧ w2.cell? ⟨F, 0, none⟩ = some (.slice of st.n.length cf) ∧ w2.cell? ⟨b0, 5, none⟩ = some (.int .i64 a.n) := fun w2 hb => by
              obtain ⟨m0, m1, m2, m3, m4, m5, m6, m7, m8, m9, m10, m11⟩ := (M9.below hb).facts
              obtain ⟨_, _, _, _, hc0⟩ := hL9.below hb
              exact ⟨m0, m1, m2, m3, m4, m5, m6, m7, m8, m9, m10, m11, (hW9.below hb).facts.1, hc0, (D9.below hb).facts.2.2.2.2.2.1⟩
            have T0 := (Below.refl W9.heap.size W9).drew
            have cgr := refGet_row (hL9.below T0) (by omega)
            have cS := fun W (hb : Below W9.heap.size W9 W) => T.Same_any ⟨dno, ddev, 1, dmode, duid, dgid, a.n, a.n, dlinks, dup, ddata, ns⟩ (.slice o7 ns.length c7) (.slice on_ ns.length cn) W (hO9'.below hb) (hN9.below hb)
            have cl := fun W (hb : Below W9.heap.size W9 W) => Len_st (hW9.below hb)
            have hln : (touch st dno ns a.n).n.length = st.n.length := by unfold touch setN; simp
            simp only [hln] at cl
            dsimp only [T.Nd.v] at cgr cS
            clear M9 hO9' hL9 hW9 D9 hN9 HN
            try dsimp only [List.append]
            go_region_held3 (fun w' => w'.cell? ⟨y7, 0, none⟩ = some (.int .i64 dno) ∧ w'.cell? ⟨y7, 1, none⟩ = some (.int .i64 ddev) ∧ w'.cell? ⟨y7, 2, none⟩ = some (.int .i64 1) ∧ w'.cell? ⟨y7, 3, none⟩ = some (.int .i64 dmode) ∧ w'.cell? ⟨y7, 4, none⟩ = some (.int .i64 duid) ∧ w'.cell? ⟨y7, 5, none⟩ = some (.int .i64 dgid) ∧ w'.cell? ⟨y7, 6, none⟩ = some (.int .i64 a.n) ∧ w'.cell? ⟨y7, 7, none⟩ = some (.int .i64 a.n) ∧ w'.cell? ⟨y7, 8, none⟩ = some (.int .i64 dlinks) ∧ w'.cell? ⟨y7, 9, none⟩ = some (.int .i64 dup) ∧ w'.cell? ⟨y7, 10, none⟩ = some (.string ddata) ∧ w'.cell? ⟨y7, 11, none⟩ = some (.slice o7 ns.length c7) ∧ w'.cell? ⟨X, 0, none⟩ = some (.pointer (some ⟨A, 0, none⟩)) ∧ w'.cell? ⟨F, 0, none⟩ = some (.slice of st.n.length cf) ∧ w'.cell? ⟨b0, 5, none⟩ = some (.int .i64 a.n))
              (with_reducible first | exact SS _ T3 | exact SS _ T2 | exact SS _ T1 | exact SS _ T0)
              (first
                | (go_at_call 8; refine cgr.mono ?_; rintro e w10 ⟨rfl, hb10⟩; have T1 := below_two T0 hb10)
                | (go_at_call 12; refine (cS _ T1).mono ?_; rintro e w11 ⟨rfl, hb11⟩; have T2 := below_two T1 hb11)
                | (go_at_call 13; refine (cl _ T2).mono ?_; rintro e w12 ⟨rfl, rfl⟩)
                | (go_at_call 5; refine (awake_any _).mono ?_; rintro e w13 ⟨rfl, hb13⟩; have T3 := below_two T2 hb13))
            go_wp2
            go_ret
            exact ⟨rfl, below_two hbw9 T3⟩
          · generalize gets st.n kd = nd at *
            obtain ⟨dno, ddev, dkind, dmode, duid, dgid, dmt, dct, dlinks, dup, ddata, des⟩ := nd
            dsimp only at hk1
            have hk2 : (dkind == 1) = false := by simpa using hk1
            dsimp only [T.Nd.v] at cg
            have hfd : ∀ (o : Option Addr) (c : Nat) (W : World), (Instr.field 38 (.agg #[.int .i64 dno, .int .i64 ddev, .int .i64 dkind, .int .i64 dmode, .int .i64 duid, .int .i64 dgid, .int .i64 dmt, .int .i64 dct, .int .i64 dlinks, .int .i64 dup, .string ddata, .slice o des.length c]) 2).run Try.prog W = .ok (.int .i64 dkind) W := fun _ _ _ => by kernel_rfl
            go_wp2_with (first
              | (go_at_call 8; refine cg.mono ?_; rintro e W5 ⟨u5, rfl, hO5, hb5⟩; obtain ⟨o5, c5', rfl⟩ := T.own_slice hO5)
              | (go_at_call 5; refine (awake_any _).mono ?_; rintro e w9 ⟨rfl, hb9⟩))
            go_ret
            exact ⟨rfl, HB0.out ▸ (below_two (below_two hbw3 hb5) hb9)⟩
end Go.Proofs.Ytenopnfclbegbaa.BR
