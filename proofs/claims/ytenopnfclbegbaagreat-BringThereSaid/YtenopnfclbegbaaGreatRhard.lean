/-
  The reference's Hard.
-/
import Derived.Test.YtenopnfclbegbaaGreatRcome
namespace Go.Proofs.YtenopnfclbegbaaGreat.BR
open Go.RowKit Go.Shelf G
open P (CrBox onlyIf)
attribute [local go_sem] Oper.semAt_some

section
variable {B F : Nat} {ex : Ext} {nv dv : Value} {st : St} {w : World}
set_option maxRecDepth 100000 in
set_option maxHeartbeats 32000000 in
theorem refHard_any (hI : Inv st) (hF : Fs ex B F nv dv st w) (hlen : st.n.length < 800000) (hB : B ≤ w.heap.size) (cu cg no k : Int) (p : List UInt8) (hp : p.length ≤ 5000) (hlk : 0 ≤ (gets st.n no).links) :
    Calls Tryz.prog 27 #[.pointer (some ⟨F, 0, none⟩), .agg #[.int .i64 cu, .int .i64 cg], .int .i64 no, .int .i64 k, .string ⟨p.toArray⟩] w fun e w' =>
      e = .returned (.int .i64 (hardSt st cu cg ex.now no k p).2) ∧ Fs ex B F nv dv (hardSt st cu cg ex.now no k p).1 w' ∧ Turn (fS F nv dv) w w' := by
  have hb0 : Below w.heap.size w (w.alloc (.cells #[.int .i64 cu, .int .i64 cg] 40)) := (Below.refl _ _).alloc (Nat.le_refl _) _
  have C1 := CrBox.new cu cg w
  have cP := refPlace_list hI (hF.below hb0) (by omega) cu cg k p hp
  have cG := fun W (hb : Below w.heap.size w W) => refGet_any (hF.below hb) no (by omega)
  have hr : hardSt st cu cg ex.now no k p = if hardE st cu cg no k p ≠ 0 then (st, hardE st cu cg no k p) else (touch (relink st no ex.now) k (E.put (gets st.n k).es ⟨p, no⟩) ex.now, 0) := rfl
  have he' : hardE st cu cg no k p = if placeE st cu cg k p ≠ 0 then placeE st cu cg k p else if (get st.n no).isSome = false then 5 else if (gets st.n no).kind = 1 then 4 else if E.numOf (gets st.n k).es p ≠ 0 then 7 else if (gets st.n no).dev ≠ (gets st.n k).dev then 11 else if 1000 ≤ (gets st.n no).links then 18 else 0 := rfl
  have hrl : relink st no ex.now = ⟨st.last, setN st.n (linked (gets st.n no) ex.now), st.d⟩ := rfl
  have hIr := fun hs hk => relinks hI (no := no) (t := ex.now) hs hk
  have hkn : K.kind st no = (gets st.n no).kind := rfl
  rw [hkn] at hIr
  have hln : (relink st no ex.now).n.length = st.n.length := by unfold relink setN; simp
  have hfew := K.gets_few hI k
  have hno := P.gets_no hI (k := no)
  have hzn := P.gets_zero (st := st) (k := no)
  generalize hardSt st cu cg ex.now no k p = r at *
  generalize hardE st cu cg no k p = he at *
  generalize relink st no ex.now = S1 at *
  generalize placeE st cu cg k p = pe at *
  generalize gets st.n k = d at *
  generalize gets st.n no = n at *
  generalize (get st.n no).isSome = bb at *
  clear hkn
  go_enter Tryz.func27, Tryz.ntmps27
  go_upto_region 1 with fail
  generalize hWW : w.alloc (.cells #[.int .i64 cu, .int .i64 cg] 40) = W1 at *
  have HR := Lib.hid hr; have HE := Lib.hid he'; have HRL := Lib.hid hrl; have HIR := Lib.hid hIr; have HNO := Lib.hid hno; have HZN := Lib.hid hzn
  have HF := Lib.hid hF
  have hnv := Fs.nvlt hF
  have hFw := hF.ltF
  clear hr he' hrl hIr hno hzn hWW hF
  obtain ⟨k0, k1⟩ := C1.facts
  obtain ⟨nno, ndev, nkind, nmode, nuid, ngid, nmt, nct, nlinks, nup, ndata, nes⟩ := n
  dsimp only at hlk
  by_cases h0 : pe = 0
  · subst h0
    rw [P.only_ok] at cP
    obtain ⟨dno, ddev, dkind, dmode, duid, dgid, dmt, dct, dlinks, dup, ddata, des⟩ := d
    dsimp only [T.Nd.v] at cP cG
    dsimp only at hfew
    go_upto_region 2 with (go_at_call 29; refine cP.mono ?_; rintro e w3 ⟨u, rfl, hO, hb3⟩; obtain ⟨od, cd, rfl⟩ := T.own_slice hO; have N3 := T.BoxN.new ⟨dno, ddev, dkind, dmode, duid, dgid, dmt, dct, dlinks, dup, ddata, des⟩ (.slice od des.length cd) w3)
    have hal : Below w3.heap.size w3 (w3.alloc (.cells #[.int .i64 dno, .int .i64 ddev, .int .i64 dkind, .int .i64 dmode, .int .i64 duid, .int .i64 dgid, .int .i64 dmt, .int .i64 dct, .int .i64 dlinks, .int .i64 dup, .string ddata, (.slice od des.length cd)] 48)) := (Below.refl _ _).alloc (Nat.le_refl _) _
    have hb4 := below_two hb0 (below_two hb3 hal)
    have hO4 := hO.below hal
    have hn3 : w.heap.size < w3.heap.size := by have := hb3.size; have := C1.lt; omega
    generalize w3.heap.size = b3 at *
    generalize w3.alloc (.cells #[.int .i64 dno, .int .i64 ddev, .int .i64 dkind, .int .i64 dmode, .int .i64 duid, .int .i64 dgid, .int .i64 dmt, .int .i64 dct, .int .i64 dlinks, .int .i64 dup, .string ddata, (.slice od des.length cd)] 48) = W4 at *
    clear hal hO hb3 cP C1 hb0 k0 k1
    have cG4 := cG W4 hb4
    clear cG
    go_upto_region 3 with (go_at_call 12; refine cG4.mono ?_; rintro e w5 ⟨u, rfl, hOn, hb5'⟩; obtain ⟨on_, cn, rfl⟩ := T.own_slice hOn; have M5 := T.BoxN.new ⟨nno, ndev, nkind, nmode, nuid, ngid, nmt, nct, nlinks, nup, ndata, nes⟩ (.slice on_ nes.length cn) w5)
    have hal : Below w5.heap.size w5 (w5.alloc (.cells #[.int .i64 nno, .int .i64 ndev, .int .i64 nkind, .int .i64 nmode, .int .i64 nuid, .int .i64 ngid, .int .i64 nmt, .int .i64 nct, .int .i64 nlinks, .int .i64 nup, .string ndata, (.slice on_ nes.length cn)] 48)) := (Below.refl _ _).alloc (Nat.le_refl _) _
    have hb5 := below_two hb4 (below_two hb5' hal)
    have hO5 := (hO4.below hb5').below hal
    have hOn5 := hOn.below hal
    have N5 := (N3.below hb5').below hal
    have hn5 : b3 < w5.heap.size := Nat.lt_of_lt_of_le N3.lt hb5'.size
    generalize w5.heap.size = b5 at *
    generalize w5.alloc (.cells #[.int .i64 nno, .int .i64 ndev, .int .i64 nkind, .int .i64 nmode, .int .i64 nuid, .int .i64 ngid, .int .i64 nmt, .int .i64 nct, .int .i64 nlinks, .int .i64 nup, .string ndata, (.slice on_ nes.length cn)] 48) = W5 at *
    clear hal hOn hb5' hO4 N3 hb4 cG4
    have hF5 := HF.out.below hb5
    obtain ⟨g0, g1, g2, g3, g4, g5, g6, g7, g8, g9, g10, g11⟩ := N5.facts
    obtain ⟨a0, a1, a2, a3, a4, a5, a6, a7, a8, a9, a10, a11⟩ := M5.facts
    dsimp only at g0 g1 g2 g3 g4 g5 g6 g7 g8 g9 g10 g11 a0 a1 a2 a3 a4 a5 a6 a7 a8 a9 a10 a11
    cases bb with
    | false =>
      have hz := HZN.out rfl
      cases hz
      obtain rfl : he = 5 := HE.out.trans (by simp )
      obtain rfl : r = (st, 5) := HR.out.trans (if_pos (by decide))
      clear HR HE
      go_wp2
      go_ret
      exact ⟨rfl, hF5, Turn.of_below hb5⟩
    | true =>
      have hno' : (nno == 0) = false := by have h1 : nno = no := (HNO.out rfl).1; have h2 := (HNO.out rfl).2; rw [beq_eq_false_iff_ne]; omega
      by_cases hk1 : nkind = 1
      · subst hk1
        obtain rfl : he = 4 := HE.out.trans (by simp )
        obtain rfl : r = (st, 4) := HR.out.trans (if_pos (by decide))
        clear HR HE
        go_wp2
        go_ret
        exact ⟨rfl, hF5, Turn.of_below hb5⟩
      · have hk2 : (nkind == 1) = false := by simpa using hk1
        have cf := E.refFind_any hO5.sees p hfew
        by_cases hz : E.numOf des p = 0
        · by_cases hd : ndev = ddev
          · subst hd
            by_cases hl : 1000 ≤ nlinks
            · obtain rfl : he = 18 := HE.out.trans (by simp [hk1, hz, hl])
              obtain rfl : r = (st, 18) := HR.out.trans (if_pos (by decide))
              rw [hz] at cf
              clear HR HE
              go_wp2_with (go_at_call 18; refine cf.mono ?_; rintro e W9 ⟨rfl, rfl⟩)
              go_ret
              exact ⟨rfl, hF5, Turn.of_below hb5⟩
            · have hl' : ¬ (1000 : Int) ≤ nlinks := hl
              obtain rfl : he = 0 := HE.out.trans (by simp [hk1, hz, hl])
              obtain rfl := HR.out.trans (if_neg (by simp))
              rw [hz] at cf
              have hwl : IntKind.i64.wrap (nlinks + 1) = nlinks + 1 := wrap_id (by omega) (by omega)
              obtain ⟨f0, f1, f2, f3, f4, f5, f6, f7, f8, f9, f10, f11⟩ := M5.open
              clear HE HR
              have hnb : ∀ g, nv.ownBlock = some g → g ≠ b5 := fun g hg => by have := hnv g hg; omega
              go_upto_region 16 with (go_at_call 18; refine cf.mono ?_; rintro e W9 ⟨rfl, rfl⟩)
              have M6 := box_links M5 (nlinks + 1)
              have hF6 := hF5.boxed M5 hnb 8 (.int .i64 (nlinks + 1))
              have hb6 := hb5.setCell (p := ⟨b5, 8, none⟩) (show w.heap.size ≤ b5 by omega) (.int .i64 (nlinks + 1))
              have hO6 := T.own_kept hO5 (T.entKept_set M5 (by decide) 8 (.int .i64 (nlinks + 1)))
              have hOn6 := T.own_kept hOn5 (T.entKept_set M5 (by decide) 8 (.int .i64 (nlinks + 1)))
              have N6 := N5.other (show b3 ≠ b5 by omega) 8 (.int .i64 (nlinks + 1))
              dsimp only at M6
              generalize W5.setCell ⟨b5, 8, none⟩ (.int .i64 (nlinks + 1)) = W6 at *
              clear a0 a1 a2 a3 a4 a5 a6 a7 a8 a9 a10 a11 f0 f1 f2 f3 f4 f5 f6 f7 f8 f9 f10 f11 g0 g1 g2 g3 g4 g5 g6 g7 g8 g9 g10 g11 M5 hF5 hb5 hO5 hOn5 N5 cf
              obtain ⟨a0, a1, a2, a3, a4, a5, a6, a7, a8, a9, a10, a11⟩ := M6.facts
              obtain ⟨f0, f1, f2, f3, f4, f5, f6, f7, f8, f9, f10, f11⟩ := M6.open
              have x3 := Fs.now hF6
              dsimp only at a0 a1 a2 a3 a4 a5 a6 a7 a8 a9 a10 a11
              go_upto_region 17 with fail
              have M7 := box_ct M6 ex.now
              have hF7 := hF6.boxed M6 hnb 7 (.int .i64 ex.now)
              have hb7 := hb6.setCell (p := ⟨b5, 7, none⟩) (show w.heap.size ≤ b5 by omega) (.int .i64 ex.now)
              have hO7 := T.own_kept hO6 (T.entKept_set M6 (by decide) 7 (.int .i64 ex.now))
              have hOn7 := T.own_kept hOn6 (T.entKept_set M6 (by decide) 7 (.int .i64 ex.now))
              have N7 := N6.other (show b3 ≠ b5 by omega) 7 (.int .i64 ex.now)
              dsimp only at M7
              generalize W6.setCell ⟨b5, 7, none⟩ (.int .i64 ex.now) = W7 at *
              clear a0 a1 a2 a3 a4 a5 a6 a7 a8 a9 a10 a11 f0 f1 f2 f3 f4 f5 f6 f7 f8 f9 f10 f11 M6 hF6 hb6 hO6 hOn6 N6 x3
              obtain ⟨a0, a1, a2, a3, a4, a5, a6, a7, a8, a9, a10, a11⟩ := M7.facts
              dsimp only at a0 a1 a2 a3 a4 a5 a6 a7 a8 a9 a10 a11
              have cS := refSet_any hF7 hI.rise ⟨nno, ndev, nkind, nmode, nuid, ngid, nmt, ex.now, nlinks + 1, nup, ndata, nes⟩ (.slice on_ nes.length cn) hOn7 (by omega)
              have hS1 : (⟨st.last, setN st.n ⟨nno, ndev, nkind, nmode, nuid, ngid, nmt, ex.now, nlinks + 1, nup, ndata, nes⟩, st.d⟩ : St) = S1 := HRL.out.symm
              rw [hS1] at cS
              dsimp only [T.Nd.v] at cS
              have hnd : ∀ g, nv.ownBlock = some g → g ≠ b3 := fun g hg => by have := hnv g hg; omega
              have HF7 := Lib.hid hF7; have HB7 := Lib.hid hb7
              have hI1 := HIR.out (by trivial) hk1
              clear hS1 hF7 hb7 M7
              go_upto_region 18 with (go_at_call 51; refine cS.mono ?_; rintro e W8 ⟨rfl, hF8, ht8⟩)
              have N8 := box_turnF N7 HF7.out ht8 hnd
              have hO8 := T.own_kept hO7 (HF7.out.entKept ht8)
              have hBW : B ≤ W8.heap.size := Nat.le_trans (Nat.le_trans hB HB7.out.size) ht8.size
              have m11 := N8.facts.2.2.2.2.2.2.2.2.2.2.2
              have cP2 := E.refPut_any ⟨p, no⟩ hO8.sees hfew
              have cT := fun W (hb : Below W8.heap.size W8 W) u (hS : E.Own B u (E.put des ⟨p, no⟩) W) => refTouch_any hI1 (hF8.below hb) (by omega) k hS
              have HT8 := Lib.hid ht8
              clear a0 a1 a2 a3 a4 a5 a6 a7 a8 a9 a10 a11 N7 N8 hF8 ht8 hO7 hO8 hOn7 cS hI1
              go_wp2_with (first
                | (go_at_call 50; refine cP2.mono ?_; rintro e W13 ⟨u, rfl, hO13, hb13⟩; have q14 := cT W13 hb13 u (hO13.mono hBW); obtain ⟨ou2, cu2, rfl⟩ := T.own_slice hO13)
                | (go_at_call 54; refine q14.mono ?_; rintro e W14 ⟨rfl, hF14, ht14⟩))
              go_ret
              exact ⟨rfl, hF14, ((Turn.ahead HB7.out HT8.out).next hb13).trans ht14⟩
          · obtain rfl : he = 11 := HE.out.trans (by simp [hk1, hz, hd])
            obtain rfl : r = (st, 11) := HR.out.trans (if_pos (by decide))
            have hd' : (ndev == ddev) = false := by simpa using hd
            rw [hz] at cf
            clear HR HE
            go_wp2_with (go_at_call 18; refine cf.mono ?_; rintro e W9 ⟨rfl, rfl⟩)
            go_ret
            exact ⟨rfl, hF5, Turn.of_below hb5⟩
        · obtain rfl : he = 7 := HE.out.trans (by simp [hk1, hz])
          obtain rfl : r = (st, 7) := HR.out.trans (if_pos (by decide))
          have hz' : (E.numOf des p == 0) = false := by simpa using hz
          clear HR HE
          generalize E.numOf des p = z at *
          go_wp2_with (go_at_call 18; refine cf.mono ?_; rintro e W9 ⟨rfl, rfl⟩)
          go_ret
          exact ⟨rfl, hF5, Turn.of_below hb5⟩
  · obtain rfl : he = pe := HE.out.trans (if_pos h0)
    obtain rfl : r = (st, he) := HR.out.trans (if_pos h0)
    have h1 : (he == 0) = false := by simpa using h0
    rw [P.only_err h0] at cP
    unfold T.Nd.zero at *
    dsimp only [T.Nd.v] at cP cG
    clear HR HE
    go_upto_region 2 with (go_at_call 29; refine cP.mono ?_; rintro e w3 ⟨u, rfl, hO, hb3⟩; obtain ⟨od, cd, rfl⟩ := T.own_slice hO)
    have hb4 := below_two hb0 (below_two hb3 ((Below.refl w3.heap.size w3).alloc (Nat.le_refl _) (.cells #[.int .i64 0, .int .i64 0, .int .i64 0, .int .i64 0, .int .i64 0, .int .i64 0, .int .i64 0, .int .i64 0, .int .i64 0, .int .i64 0, .string ⟨#[]⟩, .slice od ([] : List E.Ent).length cd] 48)))
    have cG4 := cG _ hb4
    clear cG
    go_wp2_with (go_at_call 12; refine cG4.mono ?_; rintro e w5 ⟨u, rfl, hOn, hb5'⟩; obtain ⟨on_, cn, rfl⟩ := T.own_slice hOn)
    go_ret
    have hb5 := below_two hb4 (below_two hb5' ((Below.refl w5.heap.size w5).alloc (Nat.le_refl _) (.cells #[.int .i64 nno, .int .i64 ndev, .int .i64 nkind, .int .i64 nmode, .int .i64 nuid, .int .i64 ngid, .int .i64 nmt, .int .i64 nct, .int .i64 nlinks, .int .i64 nup, .string ndata, (.slice on_ nes.length cn)] 48)))
    exact ⟨rfl, HF.out.below hb5, Turn.of_below hb5⟩
end
end Go.Proofs.YtenopnfclbegbaaGreat.BR
