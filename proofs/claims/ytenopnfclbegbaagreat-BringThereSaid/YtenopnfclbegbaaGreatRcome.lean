/-
  The reference's come: a node comes under a name.
-/
import Derived.Test.YtenopnfclbegbaaGreatRplace
import Derived.Test.YtenopnfclbegbaaGreatRtouch
import Derived.Test.YtenopnfclbegbaaGreatRthr
namespace Go.Proofs.YtenopnfclbegbaaGreat.BR
open Go.RowKit Go.Shelf G
open P (CrBox onlyIf)
attribute [local go_sem] Oper.semAt_some

section
variable {B F : Nat} {ex : Ext} {nv dv : Value} {st : St} {w : World}
theorem refPlace_list (hI : Inv st) (hF : Fs ex B F nv dv st w) (hl : st.n.length ≤ 1000000) (cu cg k : Int) (p : List UInt8) (hp : p.length ≤ 5000) :
    Calls Tryz.prog 29 #[.pointer (some ⟨F, 0, none⟩), .agg #[.int .i64 cu, .int .i64 cg], .int .i64 k, .string ⟨p.toArray⟩] w fun e w' =>
      ∃ u, e = .returned (.tuple #[(onlyIf (placeE st cu cg k p) (gets st.n k)).v u, .int .i64 (placeE st cu cg k p)]) ∧ E.Own B u (onlyIf (placeE st cu cg k p) (gets st.n k)).es w' ∧ Below w.heap.size w w' := by
  have h := refPlace_any hI hF hl cu cg k ⟨p.toArray⟩ (by show p.toArray.size ≤ _; simp; exact hp)
  exact h
set_option maxRecDepth 100000 in
set_option maxHeartbeats 32000000 in
theorem refcome_any (hI : Inv st) (hF : Fs ex B F nv dv st w) (hlen : st.n.length < 800000) (hlast : st.last < 800000) (hB : B ≤ w.heap.size) (cu cg k : Int) (p : List UInt8) (hp : p.length ≤ 5000) (x : T.Nd) (hxs : x.es = []) (hxd : x.data.size ≤ 2000000) :
    Calls Tryz.prog 52 #[.pointer (some ⟨F, 0, none⟩), .agg #[.int .i64 cu, .int .i64 cg], .int .i64 k, .string ⟨p.toArray⟩, x.v (.slice none 0 0)] w fun e w' =>
      e = .returned (.tuple #[.int .i64 (come st cu cg ex.now k p x).2.1, .int .i64 (come st cu cg ex.now k p x).2.2]) ∧ ∃ nv', Fs ex B F nv' dv (come st cu cg ex.now k p x).1 w' ∧ Turn (fS F nv dv) w w' ∧ ∀ i, fS F nv' dv i → fS F nv dv i ∨ w.heap.size ≤ i := by
  obtain ⟨xno, xdev, xkind, xmode, xuid, xgid, xmt, xct, xlinks, xup, xdata, xes⟩ := x
  dsimp only at hxs hxd
  subst hxs
  have hb0 : Below w.heap.size w ((w.alloc (.cells #[.int .i64 cu, .int .i64 cg] 40)).alloc (.cells #[.int .i64 xno, .int .i64 xdev, .int .i64 xkind, .int .i64 xmode, .int .i64 xuid, .int .i64 xgid, .int .i64 xmt, .int .i64 xct, .int .i64 xlinks, .int .i64 xup, .string xdata, .slice none 0 0] 48)) := ((Below.refl _ _).alloc (Nat.le_refl _) _).alloc (by simp) _
  have C1 : CrBox w.heap.size cu cg ((w.alloc (.cells #[.int .i64 cu, .int .i64 cg] 40)).alloc (.cells #[.int .i64 xno, .int .i64 xdev, .int .i64 xkind, .int .i64 xmode, .int .i64 xuid, .int .i64 xgid, .int .i64 xmt, .int .i64 xct, .int .i64 xlinks, .int .i64 xup, .string xdata, .slice none 0 0] 48)) := (CrBox.new cu cg w).below ((Below.refl _ _).alloc (Nat.le_refl _) _)
  have B1 := T.BoxN.new ⟨xno, xdev, xkind, xmode, xuid, xgid, xmt, xct, xlinks, xup, xdata, []⟩ (.slice none 0 0) (w.alloc (.cells #[.int .i64 cu, .int .i64 cg] 40))
  rw [World.size_alloc] at B1
  dsimp only at B1
  have hs1 : ((w.alloc (.cells #[.int .i64 cu, .int .i64 cg] 40)).alloc (.cells #[.int .i64 xno, .int .i64 xdev, .int .i64 xkind, .int .i64 xmode, .int .i64 xuid, .int .i64 xgid, .int .i64 xmt, .int .i64 xct, .int .i64 xlinks, .int .i64 xup, .string xdata, .slice none 0 0] 48)).heap.size = w.heap.size + 2 := by simp
  have cP := refPlace_list hI (hF.below hb0) (by omega) cu cg k p hp
  have hc1 : placeE st cu cg k p ≠ 0 → come st cu cg ex.now k p ⟨xno, xdev, xkind, xmode, xuid, xgid, xmt, xct, xlinks, xup, xdata, []⟩ = (st, 0, placeE st cu cg k p) := come_place
  have hc2 : placeE st cu cg k p = 0 → E.numOf (gets st.n k).es p ≠ 0 → come st cu cg ex.now k p ⟨xno, xdev, xkind, xmode, xuid, xgid, xmt, xct, xlinks, xup, xdata, []⟩ = (st, 0, 7) := come_there
  have hc3 : placeE st cu cg k p = 0 → E.numOf (gets st.n k).es p = 0 → ∀ y, make st (fresh ⟨xno, xdev, xkind, xmode, xuid, xgid, xmt, xct, xlinks, xup, xdata, []⟩ (gets st.n k).dev cu cg ex.now) = y → y.2.2 ≠ 0 → come st cu cg ex.now k p ⟨xno, xdev, xkind, xmode, xuid, xgid, xmt, xct, xlinks, xup, xdata, []⟩ = (st, 0, y.2.2) := fun a b _ c d => come_err a b c d
  have hc4 : placeE st cu cg k p = 0 → E.numOf (gets st.n k).es p = 0 → ∀ y, make st (fresh ⟨xno, xdev, xkind, xmode, xuid, xgid, xmt, xct, xlinks, xup, xdata, []⟩ (gets st.n k).dev cu cg ex.now) = y → y.2.2 = 0 → come st cu cg ex.now k p ⟨xno, xdev, xkind, xmode, xuid, xgid, xmt, xct, xlinks, xup, xdata, []⟩ = (touch y.1 k (E.put (gets st.n k).es ⟨p, y.2.1⟩) ex.now, y.2.1, 0) := fun a b _ c d => come_ok a b c d
  dsimp only [fresh] at hc3 hc4
  have hfew := K.gets_few hI k
  generalize come st cu cg ex.now k p ⟨xno, xdev, xkind, xmode, xuid, xgid, xmt, xct, xlinks, xup, xdata, []⟩ = r at *
  generalize placeE st cu cg k p = pe at *
  generalize gets st.n k = d at *
  dsimp only [T.Nd.v]
  go_enter Tryz.func52, Tryz.ntmps52
  go_upto_region 1 with fail
  generalize hWW : (w.alloc (.cells #[.int .i64 cu, .int .i64 cg] 40)).alloc (.cells #[.int .i64 xno, .int .i64 xdev, .int .i64 xkind, .int .i64 xmode, .int .i64 xuid, .int .i64 xgid, .int .i64 xmt, .int .i64 xct, .int .i64 xlinks, .int .i64 xup, .string xdata, .slice none 0 0] 48) = W1 at *
  have HC1 := Lib.hid hc1; have HC2 := Lib.hid hc2; have HC3 := Lib.hid hc3; have HC4 := Lib.hid hc4
  have HF := Lib.hid (hF.below hb0)
  have hnv := Fs.nvlt hF
  have hFw := hF.ltF
  clear hc1 hc2 hc3 hc4 hWW hF
  obtain ⟨k0, k1⟩ := C1.facts
  by_cases h0 : pe = 0
  · subst h0
    rw [P.only_ok] at cP
    obtain ⟨dno, ddev, dkind, dmode, duid, dgid, dmt, dct, dlinks, dup, ddata, des⟩ := d
    dsimp only [T.Nd.v] at cP
    dsimp only at hfew
    go_upto_region 2 with (go_at_call 29; refine cP.mono ?_; rintro e w3 ⟨u, rfl, hO, hb3⟩; obtain ⟨ou, cu', rfl⟩ := T.own_slice hO; have N3 := T.BoxN.new ⟨dno, ddev, dkind, dmode, duid, dgid, dmt, dct, dlinks, dup, ddata, des⟩ (.slice ou des.length cu') w3)
    have hal : Below w3.heap.size w3 (w3.alloc (.cells #[.int .i64 dno, .int .i64 ddev, .int .i64 dkind, .int .i64 dmode, .int .i64 duid, .int .i64 dgid, .int .i64 dmt, .int .i64 dct, .int .i64 dlinks, .int .i64 dup, .string ddata, .slice ou des.length cu'] 48)) := (Below.refl _ _).alloc (Nat.le_refl _) _
    have hb4 := below_two hb0 (below_two hb3 hal)
    have hO4 := hO.below hal
    have X4 := (B1.below hb3).below hal
    have C4 := (C1.below hb3).below hal
    have hF4 := (HF.out.below hb3).below hal
    have hn3 : w.heap.size + 2 ≤ w3.heap.size := by have := hb3.size; omega
    generalize w3.heap.size = b3 at *
    generalize w3.alloc (.cells #[.int .i64 dno, .int .i64 ddev, .int .i64 dkind, .int .i64 dmode, .int .i64 duid, .int .i64 dgid, .int .i64 dmt, .int .i64 dct, .int .i64 dlinks, .int .i64 dup, .string ddata, .slice ou des.length cu'] 48) = W4 at *
    clear hal hO hb3 cP B1 C1 HF hb0 k0 k1
    obtain ⟨g0, g1, g2, g3, g4, g5, g6, g7, g8, g9, g10, g11⟩ := N3.facts
    dsimp only at g0 g1 g2 g3 g4 g5 g6 g7 g8 g9 g10 g11
    have cf := E.refFind_any hO4.sees p hfew
    by_cases hz : E.numOf des p = 0
    · rw [hz] at cf
      obtain ⟨a0, a1, a2, a3, a4, a5, a6, a7, a8, a9, a10, a11⟩ := X4.facts
      obtain ⟨f0, f1, f2, f3, f4, f5, f6, f7, f8, f9, f10, f11⟩ := X4.open
      dsimp only at a0 a1 a2 a3 a4 a5 a6 a7 a8 a9 a10 a11
      go_upto_region 6 with (go_at_call 18; refine cf.mono ?_; rintro e W5 ⟨rfl, rfl⟩)
      have HH4 := Lib.hid hF4; have HO4 := Lib.hid hO4; have HN3 := Lib.hid N3; have HC4 := Lib.hid C4
      have hnb : ∀ g, nv.ownBlock = some g → g ≠ w.heap.size + 1 := fun g hg => by have := hnv g hg; omega
      have hnd : ∀ g, nv.ownBlock = some g → g ≠ b3 := fun g hg => by have := hnv g hg; omega
      have hF5 := hF4; have X5 := X4; have hb5 := hb4; have hO5 := hO4; have N5 := N3; have C5 := C4
      clear hF4 X4 hb4 hO4 N3 C4 HH4 HO4 HN3 HC4 cf
      go_upto_region 7 with fail
      have X6 := box_dev X5 (ddev)
      have hF6 := hF5.boxed X5 hnb 1 (.int .i64 (ddev))
      have hb6 := hb5.setCell (p := ⟨w.heap.size + 1, 1, none⟩) (Nat.le_succ _) (.int .i64 (ddev))
      have hO6 := T.own_kept hO5 (T.entKept_set X5 (by decide) 1 (.int .i64 (ddev)))
      have N6 := N5.other (show b3 ≠ w.heap.size + 1 by omega) 1 (.int .i64 (ddev))
      have C6 : CrBox w.heap.size cu cg _ := (RowKit.Below.heap_setCell W4 ⟨w.heap.size + 1, 1, none⟩ (.int .i64 (ddev)) w.heap.size (show w.heap.size ≠ w.heap.size + 1 by omega)).trans C5
      dsimp only at X6
      generalize W4.setCell ⟨w.heap.size + 1, 1, none⟩ (.int .i64 (ddev)) = W6 at *
      clear hF5 X5 hb5 hO5 N5 C5 a0 a1 a2 a3 a4 a5 a6 a7 a8 a9 a10 a11 f0 f1 f2 f3 f4 f5 f6 f7 f8 f9 f10 f11
      obtain ⟨a0, a1, a2, a3, a4, a5, a6, a7, a8, a9, a10, a11⟩ := X6.facts
      obtain ⟨f0, f1, f2, f3, f4, f5, f6, f7, f8, f9, f10, f11⟩ := X6.open
      dsimp only at a0 a1 a2 a3 a4 a5 a6 a7 a8 a9 a10 a11
      clear g0 g1 g2 g3 g4 g5 g6 g7 g8 g9 g10 g11
      obtain ⟨k0, k1⟩ := C6.facts
      go_upto_region 8 with fail
      have X7 := box_uid X6 (cu)
      have hF7 := hF6.boxed X6 hnb 4 (.int .i64 (cu))
      have hb7 := hb6.setCell (p := ⟨w.heap.size + 1, 4, none⟩) (Nat.le_succ _) (.int .i64 (cu))
      have hO7 := T.own_kept hO6 (T.entKept_set X6 (by decide) 4 (.int .i64 (cu)))
      have N7 := N6.other (show b3 ≠ w.heap.size + 1 by omega) 4 (.int .i64 (cu))
      have C7 : CrBox w.heap.size cu cg _ := (RowKit.Below.heap_setCell W6 ⟨w.heap.size + 1, 4, none⟩ (.int .i64 (cu)) w.heap.size (show w.heap.size ≠ w.heap.size + 1 by omega)).trans C6
      dsimp only at X7
      generalize W6.setCell ⟨w.heap.size + 1, 4, none⟩ (.int .i64 (cu)) = W7 at *
      clear hF6 X6 hb6 hO6 N6 C6 a0 a1 a2 a3 a4 a5 a6 a7 a8 a9 a10 a11 f0 f1 f2 f3 f4 f5 f6 f7 f8 f9 f10 f11
      clear k0 k1
      obtain ⟨a0, a1, a2, a3, a4, a5, a6, a7, a8, a9, a10, a11⟩ := X7.facts
      obtain ⟨f0, f1, f2, f3, f4, f5, f6, f7, f8, f9, f10, f11⟩ := X7.open
      dsimp only at a0 a1 a2 a3 a4 a5 a6 a7 a8 a9 a10 a11
      obtain ⟨k0, k1⟩ := C7.facts
      go_upto_region 9 with fail
      have X8 := box_gid X7 (cg)
      have hF8 := hF7.boxed X7 hnb 5 (.int .i64 (cg))
      have hb8 := hb7.setCell (p := ⟨w.heap.size + 1, 5, none⟩) (Nat.le_succ _) (.int .i64 (cg))
      have hO8 := T.own_kept hO7 (T.entKept_set X7 (by decide) 5 (.int .i64 (cg)))
      have N8 := N7.other (show b3 ≠ w.heap.size + 1 by omega) 5 (.int .i64 (cg))
      have C8 : CrBox w.heap.size cu cg _ := (RowKit.Below.heap_setCell W7 ⟨w.heap.size + 1, 5, none⟩ (.int .i64 (cg)) w.heap.size (show w.heap.size ≠ w.heap.size + 1 by omega)).trans C7
      dsimp only at X8
      generalize W7.setCell ⟨w.heap.size + 1, 5, none⟩ (.int .i64 (cg)) = W8 at *
      clear hF7 X7 hb7 hO7 N7 C7 a0 a1 a2 a3 a4 a5 a6 a7 a8 a9 a10 a11 f0 f1 f2 f3 f4 f5 f6 f7 f8 f9 f10 f11
      clear k0 k1
      obtain ⟨a0, a1, a2, a3, a4, a5, a6, a7, a8, a9, a10, a11⟩ := X8.facts
      obtain ⟨f0, f1, f2, f3, f4, f5, f6, f7, f8, f9, f10, f11⟩ := X8.open
      dsimp only at a0 a1 a2 a3 a4 a5 a6 a7 a8 a9 a10 a11
      have x3 := Fs.now hF8
      go_upto_region 10 with fail
      have X9 := box_mt X8 (ex.now)
      have hF9 := hF8.boxed X8 hnb 6 (.int .i64 (ex.now))
      have hb9 := hb8.setCell (p := ⟨w.heap.size + 1, 6, none⟩) (Nat.le_succ _) (.int .i64 (ex.now))
      have hO9 := T.own_kept hO8 (T.entKept_set X8 (by decide) 6 (.int .i64 (ex.now)))
      have N9 := N8.other (show b3 ≠ w.heap.size + 1 by omega) 6 (.int .i64 (ex.now))
      have C9 : CrBox w.heap.size cu cg _ := (RowKit.Below.heap_setCell W8 ⟨w.heap.size + 1, 6, none⟩ (.int .i64 (ex.now)) w.heap.size (show w.heap.size ≠ w.heap.size + 1 by omega)).trans C8
      dsimp only at X9
      generalize W8.setCell ⟨w.heap.size + 1, 6, none⟩ (.int .i64 (ex.now)) = W9 at *
      clear hF8 X8 hb8 hO8 N8 C8 a0 a1 a2 a3 a4 a5 a6 a7 a8 a9 a10 a11 f0 f1 f2 f3 f4 f5 f6 f7 f8 f9 f10 f11
      clear x3
      obtain ⟨a0, a1, a2, a3, a4, a5, a6, a7, a8, a9, a10, a11⟩ := X9.facts
      obtain ⟨f0, f1, f2, f3, f4, f5, f6, f7, f8, f9, f10, f11⟩ := X9.open
      dsimp only at a0 a1 a2 a3 a4 a5 a6 a7 a8 a9 a10 a11
      have x3 := Fs.now hF9
      go_upto_region 11 with fail
      have X10 := box_ct X9 (ex.now)
      have hF10 := hF9.boxed X9 hnb 7 (.int .i64 (ex.now))
      have hb10 := hb9.setCell (p := ⟨w.heap.size + 1, 7, none⟩) (Nat.le_succ _) (.int .i64 (ex.now))
      have hO10 := T.own_kept hO9 (T.entKept_set X9 (by decide) 7 (.int .i64 (ex.now)))
      have N10 := N9.other (show b3 ≠ w.heap.size + 1 by omega) 7 (.int .i64 (ex.now))
      have C10 : CrBox w.heap.size cu cg _ := (RowKit.Below.heap_setCell W9 ⟨w.heap.size + 1, 7, none⟩ (.int .i64 (ex.now)) w.heap.size (show w.heap.size ≠ w.heap.size + 1 by omega)).trans C9
      dsimp only at X10
      generalize W9.setCell ⟨w.heap.size + 1, 7, none⟩ (.int .i64 (ex.now)) = W10 at *
      clear hF9 X9 hb9 hO9 N9 C9 a0 a1 a2 a3 a4 a5 a6 a7 a8 a9 a10 a11 f0 f1 f2 f3 f4 f5 f6 f7 f8 f9 f10 f11
      clear x3
      obtain ⟨a0, a1, a2, a3, a4, a5, a6, a7, a8, a9, a10, a11⟩ := X10.facts
      obtain ⟨f0, f1, f2, f3, f4, f5, f6, f7, f8, f9, f10, f11⟩ := X10.open
      dsimp only at a0 a1 a2 a3 a4 a5 a6 a7 a8 a9 a10 a11
      go_upto_region 12 with fail
      have X11 := box_links X10 (1)
      have hF11 := hF10.boxed X10 hnb 8 (.int .i64 (1))
      have hb11 := hb10.setCell (p := ⟨w.heap.size + 1, 8, none⟩) (Nat.le_succ _) (.int .i64 (1))
      have hO11 := T.own_kept hO10 (T.entKept_set X10 (by decide) 8 (.int .i64 (1)))
      have N11 := N10.other (show b3 ≠ w.heap.size + 1 by omega) 8 (.int .i64 (1))
      have C11 : CrBox w.heap.size cu cg _ := (RowKit.Below.heap_setCell W10 ⟨w.heap.size + 1, 8, none⟩ (.int .i64 (1)) w.heap.size (show w.heap.size ≠ w.heap.size + 1 by omega)).trans C10
      dsimp only at X11
      generalize W10.setCell ⟨w.heap.size + 1, 8, none⟩ (.int .i64 (1)) = W11 at *
      clear hF10 X10 hb10 hO10 N10 C10 a0 a1 a2 a3 a4 a5 a6 a7 a8 a9 a10 a11 f0 f1 f2 f3 f4 f5 f6 f7 f8 f9 f10 f11
      obtain ⟨a0, a1, a2, a3, a4, a5, a6, a7, a8, a9, a10, a11⟩ := X11.facts
      obtain ⟨f0, f1, f2, f3, f4, f5, f6, f7, f8, f9, f10, f11⟩ := X11.open
      dsimp only at a0 a1 a2 a3 a4 a5 a6 a7 a8 a9 a10 a11
      have cM := refMake_any hI hF11 ⟨xno, ddev, xkind, xmode, cu, cg, ex.now, ex.now, 1, xup, xdata, []⟩ (.slice none 0 0) (E.Own.nil _ _) hxd (Nat.le_trans hB hb11.size) (by omega) (by omega)
      have hIm := hI.makes ⟨xno, ddev, xkind, xmode, cu, cg, ex.now, ex.now, 1, xup, xdata, []⟩ rfl hxd
      have hml := make_len (st := st) (x := ⟨xno, ddev, xkind, xmode, cu, cg, ex.now, ex.now, 1, xup, xdata, []⟩)
      obtain ⟨⟨st', no', er⟩, hmk⟩ : ∃ y, make st ⟨xno, ddev, xkind, xmode, cu, cg, ex.now, ex.now, 1, xup, xdata, []⟩ = y := ⟨_, rfl⟩
      rw [hmk] at cM hIm hml
      have he1 := HC3.out trivial hz _ hmk
      have he2 := HC4.out trivial hz _ hmk
      have hsame : er ≠ 0 → st' = st := fun e => by
        have h9 := make_same (st := st) (x := ⟨xno, ddev, xkind, xmode, cu, cg, ex.now, ex.now, 1, xup, xdata, []⟩)
        rw [hmk] at h9
        exact h9 e
      clear HC1 HC2 HC3 HC4 hmk
      dsimp only [T.Nd.v] at cM
      dsimp only at hIm hml he1 he2
      have HH11 := Lib.hid hF11; have HB11 := Lib.hid hb11
      by_cases he : er = 0
      · subst he
        obtain rfl := he2 rfl
        clear he1 he2 hsame
        go_upto_region 15 with (go_at_call 49; refine cM.mono ?_; rintro e W12 ⟨rfl, nv2, hF12, ht12, hk12⟩)
        have N12 := box_turnF N11 HH11.out ht12 hnd
        have hO12 := T.own_kept hO11 (HH11.out.entKept ht12)
        have hBW : B ≤ W12.heap.size := Nat.le_trans (Nat.le_trans hB HB11.out.size) ht12.size
        have m11 := N12.facts.2.2.2.2.2.2.2.2.2.2.2
        have cP2 := E.refPut_any ⟨p, no'⟩ hO12.sees hfew
        have cT := fun W (hb : Below W12.heap.size W12 W) u (hS : E.Own B u (E.put des ⟨p, no'⟩) W) => refTouch_any hIm (hF12.below hb) (by omega) k hS
        have HK12 := Lib.hid hk12; have HT12 := Lib.hid ht12
        clear a0 a1 a2 a3 a4 a5 a6 a7 a8 a9 a10 a11 f0 f1 f2 f3 f4 f5 f6 f7 f8 f9 f10 f11 N11 N12 hF12 ht12 hk12 cM hO12 hO11 X11 C11 hF11 hb11
        go_wp2_with (first
          | (go_at_call 50; refine cP2.mono ?_; rintro e W13 ⟨u, rfl, hO13, hb13⟩; have q14 := cT W13 hb13 u (hO13.mono hBW); obtain ⟨ou2, cu2, rfl⟩ := T.own_slice hO13)
          | (go_at_call 54; refine q14.mono ?_; rintro e W14 ⟨rfl, hF14, ht14⟩))
        go_ret2
        exact ⟨rfl, nv2, hF14, ((Turn.ahead HB11.out HT12.out).next hb13).late ht14 (fun i hi => (HK12.out i hi).imp id (fun h => Nat.le_trans HB11.out.size h)), fun i hi => (HK12.out i hi).imp id (fun h => Nat.le_trans HB11.out.size h)⟩
      · obtain rfl := he1 he
        have her : (er == 0) = false := by simpa using he
        have HS := Lib.hid (hsame he)
        clear he1 he2 hsame
        go_wp2_with (go_at_call 49; refine cM.mono ?_; rintro e W12 ⟨rfl, nv2, hF12, ht12, hk12⟩)
        go_ret2
        exact ⟨rfl, nv2, by rw [← HS.out]; exact hF12, Turn.ahead HB11.out ht12, fun i hi => (hk12 i hi).imp id (fun h => Nat.le_trans HB11.out.size h)⟩
    · obtain rfl : r = (st, 0, 7) := HC2.out trivial hz
      have hz' : (E.numOf des p == 0) = false := by simpa using hz
      generalize E.numOf des p = z at *
      go_wp2_with (go_at_call 18; refine cf.mono ?_; rintro e W5 ⟨rfl, rfl⟩)
      go_ret2
      exact ⟨rfl, nv, hF4, Turn.of_below hb4, fun i hi => .inl hi⟩
  · obtain rfl : r = (st, 0, pe) := HC1.out h0
    have h1 : (pe == 0) = false := by simpa using h0
    rw [P.only_err h0] at cP
    unfold T.Nd.zero at *
    dsimp only [T.Nd.v] at cP
    go_wp2_with (go_at_call 29; refine cP.mono ?_; rintro e w3 ⟨u, rfl, hO, hb3⟩; obtain ⟨ou, cu', rfl⟩ := T.own_slice hO)
    go_ret2
    have hal := (Below.refl w3.heap.size w3).alloc (Nat.le_refl _) (.cells #[.int .i64 0, .int .i64 0, .int .i64 0, .int .i64 0, .int .i64 0, .int .i64 0, .int .i64 0, .int .i64 0, .int .i64 0, .int .i64 0, .string ⟨#[]⟩, .slice ou 0 cu'] 48)
    exact ⟨rfl, nv, (HF.out.below hb3).below hal, Turn.of_below (below_two hb0 (below_two hb3 hal)), fun i hi => .inl hi⟩
end
end Go.Proofs.YtenopnfclbegbaaGreat.BR
