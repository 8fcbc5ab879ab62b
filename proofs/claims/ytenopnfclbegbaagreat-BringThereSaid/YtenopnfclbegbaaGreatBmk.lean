/-
  Package bring: create, Dir, File, Sym.
-/
import Derived.Test.YtenopnfclbegbaaGreatBtouch
import Derived.Test.YtenopnfclbegbaaGreatEput
import Derived.BigRegion
namespace Go.Proofs.YtenopnfclbegbaaGreat.BR
open Go.RowKit Go.Shelf G
open P (CrBox onlyIf)
attribute [local go_sem] Oper.semAt_some

/-- behind a made node a directory is as it was -/
theorem make_dir {st : St} {k : Int} (hs : (get st.n k).isSome = true) (hk : K.kind st k = 1) (x : T.Nd) : kindE (make st x).1 k = 0 ∧ gets (make st x).1.n k = gets st.n k ∧ (gets st.n k).no = k := by
  obtain ⟨d, hd⟩ := Option.isSome_iff_exists.1 hs
  have h1 := make_get (x := x) hd
  have h2 := gets_some hd
  have h3 := gets_some h1
  refine ⟨kind_dir (by rw [h1]; rfl) ?_, h3.trans h2.symm, by rw [h2]; exact (get_some hd).2⟩
  unfold K.kind at *
  rw [h3, ← h2]; exact hk
section
variable {B X A M : Nat} {mv : Value} {st : St} {w : World}
set_option maxRecDepth 100000 in
set_option maxHeartbeats 32000000 in
theorem create_any (hf : Fine 900 st) (h : Wd B X A M mv st w) (cu cg t k : Int) (hk : T.Wf k) (p : List UInt8) (x : T.Nd) (hxs : x.es = []) (hxd : x.data.size ≤ 2000000) :
    Calls Tryz.prog 33 #[.pointer (some ⟨X, 0, none⟩), .agg #[.int .i64 cu, .int .i64 cg], .int .i64 t, .int .i64 k, .string ⟨p.toArray⟩, x.v (.slice none 0 0)] w fun e w' =>
      e = .returned (.tuple #[.int .i64 (come st cu cg t k p x).2.1, .int .i64 (come st cu cg t k p x).2.2]) ∧ Wd B X A M mv (come st cu cg t k p x).1 w' ∧ Turn (wS X A M mv) w w' := by
  have hI := hf.inv
  have hlast : st.last < 800000 := by have := hf.last; omega
  have hlen : st.n.length < 800000 := by have := hI.len; omega
  obtain ⟨xno, xdev, xkind, xmode, xuid, xgid, xmt, xct, xlinks, xup, xdata, xes⟩ := x
  dsimp only at hxs hxd
  subst hxs
  have hb0 : Below w.heap.size w ((w.alloc (.cells #[.int .i64 cu, .int .i64 cg] 40)).alloc (.cells #[.int .i64 xno, .int .i64 xdev, .int .i64 xkind, .int .i64 xmode, .int .i64 xuid, .int .i64 xgid, .int .i64 xmt, .int .i64 xct, .int .i64 xlinks, .int .i64 xup, .string xdata, .slice none 0 0] 48)) := ((Below.refl _ _).alloc (Nat.le_refl _) _).alloc (by simp) _
  have C1 : CrBox w.heap.size cu cg ((w.alloc (.cells #[.int .i64 cu, .int .i64 cg] 40)).alloc (.cells #[.int .i64 xno, .int .i64 xdev, .int .i64 xkind, .int .i64 xmode, .int .i64 xuid, .int .i64 xgid, .int .i64 xmt, .int .i64 xct, .int .i64 xlinks, .int .i64 xup, .string xdata, .slice none 0 0] 48)) := (CrBox.new cu cg w).below ((Below.refl _ _).alloc (Nat.le_refl _) _)
  have X1 := T.BoxN.new ⟨xno, xdev, xkind, xmode, xuid, xgid, xmt, xct, xlinks, xup, xdata, []⟩ (.slice none 0 0) (w.alloc (.cells #[.int .i64 cu, .int .i64 cg] 40))
  rw [World.size_alloc] at X1
  dsimp only at X1
  have cP := Place_any (h.below hb0) cu cg k hk p
  have hc1 : placeE st cu cg k p ≠ 0 → come st cu cg t k p ⟨xno, xdev, xkind, xmode, xuid, xgid, xmt, xct, xlinks, xup, xdata, []⟩ = (st, 0, placeE st cu cg k p) := come_place
  have hc2 : placeE st cu cg k p = 0 → E.numOf (gets st.n k).es p ≠ 0 → come st cu cg t k p ⟨xno, xdev, xkind, xmode, xuid, xgid, xmt, xct, xlinks, xup, xdata, []⟩ = (st, 0, 7) := come_there
  have hc3 : placeE st cu cg k p = 0 → E.numOf (gets st.n k).es p = 0 → ∀ y, make st (fresh ⟨xno, xdev, xkind, xmode, xuid, xgid, xmt, xct, xlinks, xup, xdata, []⟩ (gets st.n k).dev cu cg t) = y → y.2.2 ≠ 0 → come st cu cg t k p ⟨xno, xdev, xkind, xmode, xuid, xgid, xmt, xct, xlinks, xup, xdata, []⟩ = (st, 0, y.2.2) := fun a b _ c d => come_err a b c d
  have hc4 : placeE st cu cg k p = 0 → E.numOf (gets st.n k).es p = 0 → ∀ y, make st (fresh ⟨xno, xdev, xkind, xmode, xuid, xgid, xmt, xct, xlinks, xup, xdata, []⟩ (gets st.n k).dev cu cg t) = y → y.2.2 = 0 → come st cu cg t k p ⟨xno, xdev, xkind, xmode, xuid, xgid, xmt, xct, xlinks, xup, xdata, []⟩ = (touch y.1 k (E.put (gets st.n k).es ⟨p, y.2.1⟩) t, y.2.1, 0) := fun a b _ c d => come_ok a b c d
  dsimp only [fresh] at hc3 hc4
  have hfew := K.gets_few hI k
  have hup := K.gets_up hf.tree k
  have hmd : placeE st cu cg k p = 0 → ∀ y, kindE (make st y).1 k = 0 ∧ gets (make st y).1.n k = gets st.n k ∧ (gets st.n k).no = k := fun e y => make_dir (place_dir e).1 (place_dir e).2.1 y
  generalize come st cu cg t k p ⟨xno, xdev, xkind, xmode, xuid, xgid, xmt, xct, xlinks, xup, xdata, []⟩ = r at *
  generalize placeE st cu cg k p = pe at *
  generalize gets st.n k = d at *
  dsimp only [T.Nd.v]
  go_enter Tryz.func33, Tryz.ntmps33
  go_upto_region 1 with fail
  have H := Lib.hid h
  generalize hWW : (w.alloc (.cells #[.int .i64 cu, .int .i64 cg] 40)).alloc (.cells #[.int .i64 xno, .int .i64 xdev, .int .i64 xkind, .int .i64 xmode, .int .i64 xuid, .int .i64 xgid, .int .i64 xmt, .int .i64 xct, .int .i64 xlinks, .int .i64 xup, .string xdata, .slice none 0 0] 48) = W1 at *
  have HC1 := Lib.hid hc1; have HC2 := Lib.hid hc2; have HC3 := Lib.hid hc3; have HC4 := Lib.hid hc4; have HMD := Lib.hid hmd
  clear hc1 hc2 hc3 hc4 hmd hWW h hf
  obtain ⟨k0, k1⟩ := C1.facts
  by_cases h0 : pe = 0
  · subst h0
    rw [P.only_ok] at cP
    obtain ⟨dno, ddev, dkind, dmode, duid, dgid, dmt, dct, dlinks, dup, ddata, des⟩ := d
    dsimp only [T.Nd.v] at cP
    dsimp only at hfew hup
    go_upto_region 2 with (go_at_call 28; refine cP.mono ?_; rintro e w3 ⟨u, rfl, hO, hb3⟩; obtain ⟨ou, cu', rfl⟩ := T.own_slice hO; have N3 := T.BoxN.new ⟨dno, ddev, dkind, dmode, duid, dgid, dmt, dct, dlinks, dup, ddata, des⟩ (.slice ou des.length cu') w3)
    have hal : Below w3.heap.size w3 (w3.alloc (.cells #[.int .i64 dno, .int .i64 ddev, .int .i64 dkind, .int .i64 dmode, .int .i64 duid, .int .i64 dgid, .int .i64 dmt, .int .i64 dct, .int .i64 dlinks, .int .i64 dup, .string ddata, (.slice ou des.length cu')] 48)) := (Below.refl _ _).alloc (Nat.le_refl _) _
    have hb4 := below_two hb0 (below_two hb3 hal)
    have hO4 := hO.below hal
    have X4 := (X1.below hb3).below hal
    have C4 := (C1.below hb3).below hal
    have hn3 : w.heap.size + 1 < w3.heap.size := Nat.lt_of_lt_of_le X1.lt hb3.size
    generalize w3.heap.size = b3 at *
    generalize w3.alloc (.cells #[.int .i64 dno, .int .i64 ddev, .int .i64 dkind, .int .i64 dmode, .int .i64 duid, .int .i64 dgid, .int .i64 dmt, .int .i64 dct, .int .i64 dlinks, .int .i64 dup, .string ddata, (.slice ou des.length cu')] 48) = W4 at *
    clear hal hO hb3 cP X1 C1 hb0 k0 k1
    obtain ⟨g0, g1, g2, g3, g4, g5, g6, g7, g8, g9, g10, g11⟩ := N3.facts
    dsimp only at g0 g1 g2 g3 g4 g5 g6 g7 g8 g9 g10 g11
    have ch := holds_any ⟨dno, ddev, dkind, dmode, duid, dgid, dmt, dct, dlinks, dup, ddata, des⟩ hO4.sees hup hfew p
    dsimp only [T.Nd.v] at ch
    by_cases hz : E.numOf des p = 0
    · rw [hz, show ((0 : Int) != 0) = false from rfl] at ch
      go_upto_region 6 with (go_at_call 37; refine ch.mono ?_; rintro e W5 ⟨rfl, hb5'⟩)
      have X5 := X4.below hb5'
      have C5 := C4.below hb5'
      have N5 := N3.below hb5'
      have hO5 := hO4.below hb5'
      have hb5 := below_two hb4 hb5'
      clear X4 C4 N3 hO4 hb4 hb5' ch g0 g1 g2 g3 g4 g5 g6 g7 g8 g9 g10 g11
      obtain ⟨a0, a1, a2, a3, a4, a5, a6, a7, a8, a9, a10, a11⟩ := X5.facts
      obtain ⟨f0, f1, f2, f3, f4, f5, f6, f7, f8, f9, f10, f11⟩ := X5.open
      obtain ⟨g0, g1, g2, g3, g4, g5, g6, g7, g8, g9, g10, g11⟩ := N5.facts
      obtain ⟨k0, k1⟩ := C5.facts
      dsimp only at a0 a1 a2 a3 a4 a5 a6 a7 a8 a9 a10 a11 g0 g1 g2 g3 g4 g5 g6 g7 g8 g9 g10 g11
      go_region
      have X6 := box_gid (box_uid (box_dev X5 ddev) cu) cg
      have hO6 := T.own_kept (T.own_kept (T.own_kept hO5 (T.entKept_set X5 (by decide) 1 (.int .i64 ddev))) (T.entKept_set (box_dev X5 ddev) (by decide) 4 (.int .i64 cu))) (T.entKept_set (box_uid (box_dev X5 ddev) cu) (by decide) 5 (.int .i64 cg))
      have hb6 := ((hb5.setCell (p := ⟨w.heap.size + 1, 1, none⟩) (Nat.le_succ _) (.int .i64 ddev)).setCell (p := ⟨w.heap.size + 1, 4, none⟩) (Nat.le_succ _) (.int .i64 cu)).setCell (p := ⟨w.heap.size + 1, 5, none⟩) (Nat.le_succ _) (.int .i64 cg)
      have N6 := ((N5.other (show b3 ≠ w.heap.size + 1 by omega) 1 (.int .i64 ddev)).other (show b3 ≠ w.heap.size + 1 by omega) 4 (.int .i64 cu)).other (show b3 ≠ w.heap.size + 1 by omega) 5 (.int .i64 cg)
      dsimp only at X6
      generalize ((W5.setCell ⟨w.heap.size + 1, 1, none⟩ (.int .i64 ddev)).setCell ⟨w.heap.size + 1, 4, none⟩ (.int .i64 cu)).setCell ⟨w.heap.size + 1, 5, none⟩ (.int .i64 cg) = W6 at *
      have hdr : Below W6.heap.size W6 W6.drew := (Below.refl _ _).drew
      have X7 := X6.below hdr
      have N7 := N6.below hdr
      have hO7 := hO6.below hdr
      have hb7 := below_two hb6 hdr
      generalize W6.drew = W7 at *
      clear X5 C5 N5 hO5 hb5 X6 N6 hO6 hb6 hdr a0 a1 a2 a3 a4 a5 a6 a7 a8 a9 a10 a11 f0 f1 f2 f3 f4 f5 f6 f7 f8 f9 f10 f11 g0 g1 g2 g3 g4 g5 g6 g7 g8 g9 g10 g11 k0 k1
      obtain ⟨a0, a1, a2, a3, a4, a5, a6, a7, a8, a9, a10, a11⟩ := X7.facts
      obtain ⟨f0, f1, f2, f3, f4, f5, f6, f7, f8, f9, f10, f11⟩ := X7.open
      dsimp only at a0 a1 a2 a3 a4 a5 a6 a7 a8 a9 a10 a11
      go_upto_region 8 with fail
      have X8 := box_links (box_ct (box_mt X7 t) t) 1
      have hO8 := T.own_kept (T.own_kept (T.own_kept hO7 (T.entKept_set X7 (by decide) 6 (.int .i64 t))) (T.entKept_set (box_mt X7 t) (by decide) 7 (.int .i64 t))) (T.entKept_set (box_ct (box_mt X7 t) t) (by decide) 8 (.int .i64 1))
      have hb8 := ((hb7.setCell (p := ⟨w.heap.size + 1, 6, none⟩) (Nat.le_succ _) (.int .i64 t)).setCell (p := ⟨w.heap.size + 1, 7, none⟩) (Nat.le_succ _) (.int .i64 t)).setCell (p := ⟨w.heap.size + 1, 8, none⟩) (Nat.le_succ _) (.int .i64 1)
      have N8 := ((N7.other (show b3 ≠ w.heap.size + 1 by omega) 6 (.int .i64 t)).other (show b3 ≠ w.heap.size + 1 by omega) 7 (.int .i64 t)).other (show b3 ≠ w.heap.size + 1 by omega) 8 (.int .i64 1)
      dsimp only at X8
      generalize ((W7.setCell ⟨w.heap.size + 1, 6, none⟩ (.int .i64 t)).setCell ⟨w.heap.size + 1, 7, none⟩ (.int .i64 t)).setCell ⟨w.heap.size + 1, 8, none⟩ (.int .i64 1) = W8 at *
      clear X7 N7 hO7 hb7 a0 a1 a2 a3 a4 a5 a6 a7 a8 a9 a10 a11 f0 f1 f2 f3 f4 f5 f6 f7 f8 f9 f10 f11
      obtain ⟨a0, a1, a2, a3, a4, a5, a6, a7, a8, a9, a10, a11⟩ := X8.facts
      dsimp only at a0 a1 a2 a3 a4 a5 a6 a7 a8 a9 a10 a11
      have hW8 := H.out.below hb8
      have cM := Make_any hW8 ⟨xno, ddev, xkind, xmode, cu, cg, t, t, 1, xup, xdata, []⟩ (.slice none 0 0) (fun W => E.sees_none none 0 (Nat.zero_le _) W) (fits_of (by show ([] : List E.Ent).length ≤ 200000; decide)) hxd (by omega) (by omega)
      have hml := make_len (st := st) (x := ⟨xno, ddev, xkind, xmode, cu, cg, t, t, 1, xup, xdata, []⟩)
      have hmd := HMD.out (by trivial) ⟨xno, ddev, xkind, xmode, cu, cg, t, t, 1, xup, xdata, []⟩
      obtain ⟨⟨st', no', er⟩, hmk⟩ : ∃ y, make st ⟨xno, ddev, xkind, xmode, cu, cg, t, t, 1, xup, xdata, []⟩ = y := ⟨_, rfl⟩
      rw [hmk] at cM hml hmd
      have he1 := HC3.out (by trivial) hz _ hmk
      have he2 := HC4.out (by trivial) hz _ hmk
      have hsame : er ≠ 0 → st' = st := fun e => by
        have h9 := make_same (st := st) (x := ⟨xno, ddev, xkind, xmode, cu, cg, t, t, 1, xup, xdata, []⟩)
        rw [hmk] at h9
        exact h9 e
      clear HC1 HC2 HC3 HC4 hmk HMD
      dsimp only [T.Nd.v] at cM
      dsimp only at hml hmd he1 he2
      have HB8 := Lib.hid hb8; have HH8 := Lib.hid hW8
      by_cases he : er = 0
      · subst he
        obtain rfl := he2 rfl
        obtain ⟨hm1, hm2, hm3⟩ := hmd
        clear he1 he2 hsame
        go_upto_region 11 with (go_at_call 48; refine cM.mono ?_; rintro e W9 ⟨rfl, hW9, ht9⟩)
        have N9 := box_turn N8 HH8.out ht9 (fun _ e => e)
        have hO9 := T.own_kept hO8 (HH8.out.entKept ht9)
        have m11 := N9.facts.2.2.2.2.2.2.2.2.2.2.2
        have cP2 := E.put_any hO9.sees p no' hup hfew
        have hpl := put_len des ⟨p, no'⟩
        have cT := fun W (hb : Below W9.heap.size W9 W) u (hS : E.Sees u (E.put des ⟨p, no'⟩) W) => Touch_any (hW9.below hb) k t hk hm1 (by rw [hm2]; exact hm3) hS (fits_of (by omega)) (by omega)
        have HT9 := Lib.hid ht9
        clear a0 a1 a2 a3 a4 a5 a6 a7 a8 a9 a10 a11 N8 N9 hW9 ht9 cM hO9 hO8 X8 hb8 hW8 hm1 hm2 hm3
        go_wp2_with (first
          | (go_at_call 40; refine cP2.mono ?_; rintro e W13 ⟨u, rfl, hO13, hb13⟩; have q14 := cT W13 hb13 u hO13.sees; obtain ⟨ou2, cu2, rfl⟩ := T.own_slice hO13)
          | (go_at_call 39; refine q14.mono ?_; rintro e W14 ⟨rfl, hW14, ht14⟩))
        go_ret2
        exact ⟨rfl, hW14, ((Turn.ahead HB8.out HT9.out).next hb13).trans ht14⟩
      · obtain rfl := he1 he
        have her : (er == 0) = false := by simpa using he
        have HS := Lib.hid (hsame he)
        clear he1 he2 hsame hmd
        go_wp2_with (go_at_call 48; refine cM.mono ?_; rintro e W12 ⟨rfl, hW12, ht12⟩)
        go_ret2
        exact ⟨rfl, by rw [← HS.out]; exact hW12, Turn.ahead HB8.out ht12⟩
    · obtain rfl : r = (st, 0, 7) := HC2.out (by trivial) hz
      have hz2 : (E.numOf des p != 0) = true := by simpa using hz
      rw [hz2] at ch
      have HH4 := Lib.hid (H.out.below hb4)
      have HB4 := Lib.hid hb4
      go_wp2_with (go_at_call 37; refine ch.mono ?_; rintro e W5 ⟨rfl, hb5⟩)
      go_ret2
      exact ⟨rfl, HH4.out.below hb5, (Turn.of_below HB4.out).next hb5⟩
  · obtain rfl : r = (st, 0, pe) := HC1.out h0
    have h1 : (pe == 0) = false := by simpa using h0
    rw [P.only_err h0] at cP
    unfold T.Nd.zero at *
    dsimp only [T.Nd.v] at cP
    go_wp2_with (go_at_call 28; refine cP.mono ?_; rintro e w3 ⟨u, rfl, hO, hb3⟩; obtain ⟨ou, cu', rfl⟩ := T.own_slice hO)
    go_ret2
    have hal := (Below.refl w3.heap.size w3).alloc (Nat.le_refl _) (.cells #[.int .i64 0, .int .i64 0, .int .i64 0, .int .i64 0, .int .i64 0, .int .i64 0, .int .i64 0, .int .i64 0, .int .i64 0, .int .i64 0, .string ⟨#[]⟩, .slice ou 0 cu'] 48)
    have hbz := below_two hb0 (below_two hb3 hal)
    exact ⟨rfl, H.out.below hbz, Turn.of_below hbz⟩
set_option maxRecDepth 100000 in
set_option maxHeartbeats 16000000 in
theorem Dir_any (hf : Fine 900 st) (h : Wd B X A M mv st w) (cu cg t k : Int) (hk : T.Wf k) (p : List UInt8) (mode : Int) : Calls Tryz.prog 13 #[.pointer (some ⟨X, 0, none⟩), .agg #[.int .i64 cu, .int .i64 cg], .int .i64 t, .int .i64 k, .string ⟨p.toArray⟩, .int .i64 mode] w fun e w' =>
    e = .returned (.tuple #[.int .i64 (dirSt st cu cg t k p mode).2.1, .int .i64 (dirSt st cu cg t k p mode).2.2]) ∧ Wd B X A M mv (dirSt st cu cg t k p mode).1 w' ∧ Turn (wS X A M mv) w w' := by
  have hb1 : Below w.heap.size w (w.alloc (.cells #[.int .i64 cu, .int .i64 cg] 40)) := (Below.refl _ _).alloc (Nat.le_refl _) _
  have C1 := CrBox.new cu cg w
  have cc := create_any hf (h.below hb1) cu cg t k hk p (newDir k mode) rfl (by show (0 : Nat) ≤ _; decide)
  have hd : dirSt st cu cg t k p mode = if modeOk mode = false then (st, 0, 1) else come st cu cg t k p (newDir k mode) := rfl
  generalize come st cu cg t k p (newDir k mode) = r at *
  generalize dirSt st cu cg t k p mode = q at *
  dsimp only [newDir, T.Nd.v] at cc
  have H := Lib.hid (h.below hb1)
  have HD := Lib.hid hd
  have HB := Lib.hid hb1
  clear hd h
  go_enter Tryz.func13, Tryz.ntmps13
  go_upto_region 1 with fail
  generalize w.alloc (.cells #[.int .i64 cu, .int .i64 cg] 40) = W1 at *
  obtain ⟨k0, k1⟩ := C1.facts
  clear hb1 C1
  have cm := fineMode_any mode W1
  cases hm : modeOk mode with
  | false =>
    obtain rfl : q = (st, 0, 1) := HD.out.trans (if_pos hm)
    rw [hm] at cm
    clear HD
    go_wp2_with (go_at_call 32; refine cm.mono ?_; rintro e W9 ⟨rfl, rfl⟩)
    go_ret2
    exact ⟨rfl, H.out, Turn.of_below HB.out⟩
  | true =>
    obtain rfl : q = r := HD.out.trans (if_neg (by simp [hm]))
    rw [hm] at cm
    clear HD
    go_wp2_with (first
      | (go_at_call 32; refine cm.mono ?_; rintro e W9 ⟨rfl, rfl⟩)
      | (go_at_call 33; refine cc.mono ?_; rintro e W2 ⟨rfl, hW2, ht2⟩))
    go_ret2
    exact ⟨rfl, hW2, Turn.ahead HB.out ht2⟩
set_option maxRecDepth 100000 in
set_option maxHeartbeats 16000000 in
theorem File_any (hf : Fine 900 st) (h : Wd B X A M mv st w) (cu cg t k : Int) (hk : T.Wf k) (p : List UInt8) (mode : Int) (x : ByteArray) (hx : x.size ≤ 2000) : Calls Tryz.prog 14 #[.pointer (some ⟨X, 0, none⟩), .agg #[.int .i64 cu, .int .i64 cg], .int .i64 t, .int .i64 k, .string ⟨p.toArray⟩, .int .i64 mode, .string x] w fun e w' =>
    e = .returned (.tuple #[.int .i64 (fileSt st cu cg t k p mode x).2.1, .int .i64 (fileSt st cu cg t k p mode x).2.2]) ∧ Wd B X A M mv (fileSt st cu cg t k p mode x).1 w' ∧ Turn (wS X A M mv) w w' := by
  have hb1 : Below w.heap.size w (w.alloc (.cells #[.int .i64 cu, .int .i64 cg] 40)) := (Below.refl _ _).alloc (Nat.le_refl _) _
  have C1 := CrBox.new cu cg w
  have cc := create_any hf (h.below hb1) cu cg t k hk p (newFile mode x) rfl (show x.size ≤ 2000000 by omega)
  have hd : fileSt st cu cg t k p mode x = if modeOk mode = false then (st, 0, 1) else if 1048576 < x.size then (st, 0, 3) else come st cu cg t k p (newFile mode x) := rfl
  generalize come st cu cg t k p (newFile mode x) = r at *
  generalize fileSt st cu cg t k p mode x = q at *
  dsimp only [newFile, T.Nd.v] at cc
  have H := Lib.hid (h.below hb1)
  have HD := Lib.hid hd
  have HB := Lib.hid hb1
  clear hd h
  go_enter Tryz.func14, Tryz.ntmps14
  go_upto_region 1 with fail
  generalize w.alloc (.cells #[.int .i64 cu, .int .i64 cg] 40) = W1 at *
  obtain ⟨k0, k1⟩ := C1.facts
  clear hb1 C1
  have cm := fineMode_any mode W1
  cases hm : modeOk mode with
  | false =>
    obtain rfl : q = (st, 0, 1) := HD.out.trans (if_pos hm)
    rw [hm] at cm
    clear HD
    go_wp2_with (go_at_call 32; refine cm.mono ?_; rintro e W9 ⟨rfl, rfl⟩)
    go_ret2
    exact ⟨rfl, H.out, Turn.of_below HB.out⟩
  | true =>
    have hs : ¬ (1048576 : Int) < (x.size : Int) := by omega
    obtain rfl : q = r := HD.out.trans ((if_neg (by simp [hm])).trans (if_neg (by omega)))
    rw [hm] at cm
    clear HD
    go_wp2_with (first
      | (go_at_call 32; refine cm.mono ?_; rintro e W9 ⟨rfl, rfl⟩)
      | (go_at_call 33; refine cc.mono ?_; rintro e W2 ⟨rfl, hW2, ht2⟩))
    go_ret2
    exact ⟨rfl, hW2, Turn.ahead HB.out ht2⟩
set_option maxRecDepth 100000 in
set_option maxHeartbeats 16000000 in
theorem Sym_any (hf : Fine 900 st) (h : Wd B X A M mv st w) (cu cg t k : Int) (hk : T.Wf k) (p : List UInt8) (x : ByteArray) (hx : x.size ≤ 2000) : Calls Tryz.prog 15 #[.pointer (some ⟨X, 0, none⟩), .agg #[.int .i64 cu, .int .i64 cg], .int .i64 t, .int .i64 k, .string ⟨p.toArray⟩, .string x] w fun e w' =>
    e = .returned (.tuple #[.int .i64 (symSt st cu cg t k p x).2.1, .int .i64 (symSt st cu cg t k p x).2.2]) ∧ Wd B X A M mv (symSt st cu cg t k p x).1 w' ∧ Turn (wS X A M mv) w w' := by
  have hb1 : Below w.heap.size w (w.alloc (.cells #[.int .i64 cu, .int .i64 cg] 40)) := (Below.refl _ _).alloc (Nat.le_refl _) _
  have C1 := CrBox.new cu cg w
  have cc := create_any hf (h.below hb1) cu cg t k hk p (newLink x) rfl (show x.size ≤ 2000000 by omega)
  have hd : symSt st cu cg t k p x = if badText x then (st, 0, 1) else if 4096 < x.size then (st, 0, 13) else come st cu cg t k p (newLink x) := rfl
  generalize come st cu cg t k p (newLink x) = r at *
  generalize symSt st cu cg t k p x = q at *
  dsimp only [newLink, T.Nd.v] at cc
  have H := Lib.hid (h.below hb1)
  have HD := Lib.hid hd
  have HB := Lib.hid hb1
  clear hd h
  have hbt : badText x ↔ x.data.toList = [] ∨ (0 : UInt8) ∈ x.data.toList := Iff.rfl
  have hemp : x.data.toList = [] ↔ x.toList = [] := by rw [ByteArray.toList_eq]
  have HT := Lib.hid hbt
  clear hbt
  go_enter Tryz.func15, Tryz.ntmps15
  go_upto_region 1 with fail
  generalize w.alloc (.cells #[.int .i64 cu, .int .i64 cg] 40) = W1 at *
  obtain ⟨k0, k1⟩ := C1.facts
  clear hb1 C1
  by_cases h1 : x.toList = []
  · obtain rfl : q = (st, 0, 1) := HD.out.trans (if_pos (HT.out.2 (.inl (hemp.2 h1))))
    clear HD hemp HT
    go_wp2
    go_ret2
    exact ⟨rfl, H.out, Turn.of_below HB.out⟩
  · have h1' : (x.toList == []) = false := by simpa using h1
    by_cases h2 : (0 : UInt8) ∈ x.data.toList
    · obtain rfl : q = (st, 0, 1) := HD.out.trans (if_pos (HT.out.2 (.inr h2)))
      have cH := fun W => V.contains_yes h2 W
      clear HD hemp HT
      go_wp2_with (go_at_call 34; refine (cH _).mono ?_; rintro e W9 ⟨rfl, rfl⟩)
      go_ret2
      exact ⟨rfl, H.out, Turn.of_below HB.out⟩
    · have h3 := HD.out.trans (if_neg (fun e => (HT.out.1 e).elim (fun e => h1 (hemp.1 e)) h2))
      have cH := fun W => V.contains_no h2 W
      obtain rfl : q = r := h3.trans (if_neg (by omega))
      have h5 : ¬ (4096 : Int) < (x.size : Int) := by omega
      clear HD h3 hemp HT h2
      go_wp2_with (first
        | (go_at_call 34; refine (cH _).mono ?_; rintro e W9 ⟨rfl, rfl⟩)
        | (go_at_call 33; refine cc.mono ?_; rintro e W2 ⟨rfl, hW2, ht2⟩))
      go_ret2
      exact ⟨rfl, hW2, Turn.ahead HB.out ht2⟩
end
end Go.Proofs.YtenopnfclbegbaaGreat.BR
