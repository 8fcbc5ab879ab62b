/-
  Package bring: Hard.
-/
import Derived.Test.YtenopnfclbegbaaGreatBmk
namespace Go.Proofs.YtenopnfclbegbaaGreat.BR
open Go.RowKit Go.Shelf G
open P (CrBox onlyIf)
attribute [local go_sem] Oper.semAt_some

theorem relink_dir {st : St} {k no t : Int} (hs : (get st.n k).isSome = true) (hk : K.kind st k = 1) (hn : (get st.n no).isSome = true) (h3 : K.kind st no ≠ 1) : kindE (relink st no t) k = 0 ∧ gets (relink st no t).n k = gets st.n k ∧ (gets st.n k).no = k := by
  obtain ⟨d, hd⟩ := Option.isSome_iff_exists.1 hs
  obtain ⟨x, hx⟩ := Option.isSome_iff_exists.1 hn
  have hxg := gets_some hx
  obtain ⟨hxm, hxn⟩ := get_some hx
  have hne : k ≠ no := fun e => by rw [e] at hk; exact h3 hk
  have hg' : get (relink st no t).n k = some d := by
    unfold relink
    rw [get_setN, hd, hxg]
    show some (if k = x.no then linked x t else d) = some d
    rw [if_neg (by rw [hxn]; exact hne)]
  have h2 := gets_some hd
  have h4 := gets_some hg'
  refine ⟨kind_dir (by rw [hg']; rfl) ?_, h4.trans h2.symm, by rw [h2]; exact (get_some hd).2⟩
  unfold K.kind at *
  rw [h4, ← h2]; exact hk
section
variable {B X A M : Nat} {mv : Value} {st : St} {w : World}
set_option maxRecDepth 100000 in
set_option maxHeartbeats 32000000 in
theorem Hard_any (hf : Fine 900 st) (h : Wd B X A M mv st w) (cu cg t no k : Int) (hk : T.Wf k) (hn : T.Wf no) (p : List UInt8) :
    Calls Tryz.prog 20 #[.pointer (some ⟨X, 0, none⟩), .agg #[.int .i64 cu, .int .i64 cg], .int .i64 t, .int .i64 no, .int .i64 k, .string ⟨p.toArray⟩] w fun e w' =>
      e = .returned (.int .i64 (hardSt st cu cg t no k p).2) ∧ Wd B X A M mv (hardSt st cu cg t no k p).1 w' ∧ Turn (wS X A M mv) w w' := by
  have hI := hf.inv
  have hlast : st.last < 800000 := by have := hf.last; omega
  have hlen : st.n.length < 800000 := by have := hI.len; omega
  have hlk : 0 ≤ (gets st.n no).links := by
    cases e : get st.n no with
    | none => rw [gets_none e]; decide
    | some x => rw [gets_some e]; exact hf.links x (get_some e).1
  have hb0 : Below w.heap.size w (w.alloc (.cells #[.int .i64 cu, .int .i64 cg] 40)) := (Below.refl _ _).alloc (Nat.le_refl _) _
  have C1 := CrBox.new cu cg w
  have cP := Place_any (h.below hb0) cu cg k hk p
  have cG := fun W (hb : Below w.heap.size w W) => Get_st (h.below hb) no hn
  have hr : hardSt st cu cg t no k p = if hardE st cu cg no k p ≠ 0 then (st, hardE st cu cg no k p) else (touch (relink st no t) k (E.put (gets st.n k).es ⟨p, no⟩) t, 0) := rfl
  have he' : hardE st cu cg no k p = if placeE st cu cg k p ≠ 0 then placeE st cu cg k p else if (get st.n no).isSome = false then 5 else if (gets st.n no).kind = 1 then 4 else if E.numOf (gets st.n k).es p ≠ 0 then 7 else if (gets st.n no).dev ≠ (gets st.n k).dev then 11 else if 1000 ≤ (gets st.n no).links then 18 else 0 := rfl
  have hrl : relink st no t = ⟨st.last, setN st.n (linked (gets st.n no) t), st.d⟩ := rfl
  have hmd : placeE st cu cg k p = 0 → (get st.n no).isSome = true → (gets st.n no).kind ≠ 1 → kindE (relink st no t) k = 0 ∧ gets (relink st no t).n k = gets st.n k ∧ (gets st.n k).no = k := fun e e1 e2 => relink_dir (place_dir e).1 (place_dir e).2.1 e1 e2
  have hln : (relink st no t).n.length = st.n.length := by unfold relink setN; simp
  have hfew := K.gets_few hI k
  have hup := K.gets_up hf.tree k
  have hnn : (get st.n no).isSome = true → (gets st.n no).no = no := fun e => (P.gets_no hI e).1
  have HFT := Lib.hid (h.fits no)
  generalize hardSt st cu cg t no k p = r at *
  generalize hardE st cu cg no k p = he at *
  generalize relink st no t = S1 at *
  generalize placeE st cu cg k p = pe at *
  generalize gets st.n k = d at *
  generalize gets st.n no = n at *
  generalize (get st.n no).isSome = bb at *
  go_enter Tryz.func20, Tryz.ntmps20
  go_upto_region 1 with fail
  generalize hWW : w.alloc (.cells #[.int .i64 cu, .int .i64 cg] 40) = W1 at *
  have HR := Lib.hid hr; have HE := Lib.hid he'; have HRL := Lib.hid hrl; have HMD := Lib.hid hmd; have HNN := Lib.hid hnn
  have H := Lib.hid h
  clear hr he' hrl hmd hnn hWW h hf
  obtain ⟨k0, k1⟩ := C1.facts
  by_cases h0 : pe = 0
  · subst h0
    rw [P.only_ok] at cP
    obtain ⟨dno, ddev, dkind, dmode, duid, dgid, dmt, dct, dlinks, dup, ddata, des⟩ := d
    dsimp only [T.Nd.v] at cP
    dsimp only at hfew hup
    go_upto_region 2 with (go_at_call 28; refine cP.mono ?_; rintro e w3 ⟨u, rfl, hO, hb3⟩; obtain ⟨od, cd, rfl⟩ := T.own_slice hO; have N3 := T.BoxN.new ⟨dno, ddev, dkind, dmode, duid, dgid, dmt, dct, dlinks, dup, ddata, des⟩ (.slice od des.length cd) w3)
    have hal : Below w3.heap.size w3 (w3.alloc (.cells #[.int .i64 dno, .int .i64 ddev, .int .i64 dkind, .int .i64 dmode, .int .i64 duid, .int .i64 dgid, .int .i64 dmt, .int .i64 dct, .int .i64 dlinks, .int .i64 dup, .string ddata, (.slice od des.length cd)] 48)) := (Below.refl _ _).alloc (Nat.le_refl _) _
    have hb4 := below_two hb0 (below_two hb3 hal)
    have hO4 := hO.below hal
    have hn3 : w.heap.size < w3.heap.size := by have := hb3.size; have := C1.lt; omega
    generalize w3.heap.size = b3 at *
    generalize w3.alloc (.cells #[.int .i64 dno, .int .i64 ddev, .int .i64 dkind, .int .i64 dmode, .int .i64 duid, .int .i64 dgid, .int .i64 dmt, .int .i64 dct, .int .i64 dlinks, .int .i64 dup, .string ddata, (.slice od des.length cd)] 48) = W4 at *
    clear hal hO hb3 cP C1 hb0 k0 k1
    have cG4 := cG W4 hb4
    have x0 := (H.out.below hb4).facts.1
    clear cG
    obtain ⟨nno, ndev, nkind, nmode, nuid, ngid, nmt, nct, nlinks, nup, ndata, nes⟩ := n
    dsimp only at hlk
    dsimp only [T.Nd.v] at cG4
    go_upto_region 5 with (go_at_call 16; refine cG4.mono ?_; rintro e w5 ⟨u, rfl, hOn, hb5'⟩; obtain ⟨on_, cn, rfl⟩ := T.own_slice hOn; have M5 := T.BoxN.new ⟨nno, ndev, nkind, nmode, nuid, ngid, nmt, nct, nlinks, nup, ndata, nes⟩ (.slice on_ nes.length cn) w5)
    have hal : Below w5.heap.size w5 (w5.alloc (.cells #[.int .i64 nno, .int .i64 ndev, .int .i64 nkind, .int .i64 nmode, .int .i64 nuid, .int .i64 ngid, .int .i64 nmt, .int .i64 nct, .int .i64 nlinks, .int .i64 nup, .string ndata, (.slice on_ nes.length cn)] 48)) := (Below.refl _ _).alloc (Nat.le_refl _) _
    have hb5 := below_two hb4 (below_two hb5' hal)
    have hO5 := (hO4.below hb5').below hal
    have hOn5 := hOn.below hal
    have N5 := (N3.below hb5').below hal
    have hn5 : b3 < w5.heap.size := Nat.lt_of_lt_of_le N3.lt hb5'.size
    generalize w5.heap.size = b5 at *
    generalize w5.alloc (.cells #[.int .i64 nno, .int .i64 ndev, .int .i64 nkind, .int .i64 nmode, .int .i64 nuid, .int .i64 ngid, .int .i64 nmt, .int .i64 nct, .int .i64 nlinks, .int .i64 nup, .string ndata, (.slice on_ nes.length cn)] 48) = W5 at *
    clear hal hOn hb5' hO4 N3 hb4 cG4 x0
    obtain ⟨g0, g1, g2, g3, g4, g5, g6, g7, g8, g9, g10, g11⟩ := N5.facts
    obtain ⟨a0, a1, a2, a3, a4, a5, a6, a7, a8, a9, a10, a11⟩ := M5.facts
    dsimp only at g0 g1 g2 g3 g4 g5 g6 g7 g8 g9 g10 g11 a0 a1 a2 a3 a4 a5 a6 a7 a8 a9 a10 a11
    cases bb with
    | false =>
      obtain rfl : he = 5 := HE.out.trans (by simp)
      obtain rfl : r = (st, 5) := HR.out.trans (if_pos (by decide))
      clear HR HE HMD HNN HRL
      go_wp2
      go_ret
      exact ⟨rfl, H.out.below hb5, Turn.of_below hb5⟩
    | true =>
      by_cases hk1 : nkind = 1
      · subst hk1
        obtain rfl : he = 4 := HE.out.trans (by simp)
        obtain rfl : r = (st, 4) := HR.out.trans (if_pos (by decide))
        clear HR HE HMD HNN HRL
        go_wp2
        go_ret
        exact ⟨rfl, H.out.below hb5, Turn.of_below hb5⟩
      · have hk2 : (nkind == 1) = false := by simpa using hk1
        have ch := holds_any ⟨dno, ddev, dkind, dmode, duid, dgid, dmt, dct, dlinks, dup, ddata, des⟩ hO5.sees hup hfew p
        dsimp only [T.Nd.v] at ch
        by_cases hz : E.numOf des p = 0
        · rw [hz, show ((0 : Int) != 0) = false from rfl] at ch
          go_upto_region 11 with (go_at_call 37; refine ch.mono ?_; rintro e W6 ⟨rfl, hb6'⟩)
          have hO6 := hO5.below hb6'
          have hOn6 := hOn5.below hb6'
          have N6 := N5.below hb6'
          have M6 := M5.below hb6'
          have hb6 := below_two hb5 hb6'
          clear hO5 hOn5 N5 M5 hb5 hb6' g0 g1 g2 g3 g4 g5 g6 g7 g8 g9 g10 g11 a0 a1 a2 a3 a4 a5 a6 a7 a8 a9 a10 a11 ch
          obtain ⟨g0, g1, g2, g3, g4, g5, g6, g7, g8, g9, g10, g11⟩ := N6.facts
          obtain ⟨a0, a1, a2, a3, a4, a5, a6, a7, a8, a9, a10, a11⟩ := M6.facts
          dsimp only at g0 g1 g2 g3 g4 g5 g6 g7 g8 g9 g10 g11 a0 a1 a2 a3 a4 a5 a6 a7 a8 a9 a10 a11
          by_cases hd : ndev = ddev
          · subst hd
            by_cases hl : 1000 ≤ nlinks
            · obtain rfl : he = 18 := HE.out.trans (by simp [hk1, hz, hl])
              obtain rfl : r = (st, 18) := HR.out.trans (if_pos (by decide))
              clear HR HE HMD HNN HRL
              go_wp2
              go_ret
              exact ⟨rfl, H.out.below hb6, Turn.of_below hb6⟩
            · have hl' : ¬ (1000 : Int) ≤ nlinks := hl
              obtain rfl : he = 0 := HE.out.trans (by simp [hk1, hz, hl])
              obtain rfl := HR.out.trans (if_neg (by simp))
              have hwl : IntKind.i64.wrap (nlinks + 1) = nlinks + 1 := wrap_id (by omega) (by omega)
              obtain ⟨f0, f1, f2, f3, f4, f5, f6, f7, f8, f9, f10, f11⟩ := M6.open
              clear HE HR
              go_upto_region 16 with fail
              have M7 := box_links M6 (nlinks + 1)
              have hb7 := hb6.setCell (p := ⟨b5, 8, none⟩) (show w.heap.size ≤ b5 by omega) (.int .i64 (nlinks + 1))
              have hO7 := T.own_kept hO6 (T.entKept_set M6 (by decide) 8 (.int .i64 (nlinks + 1)))
              have hOn7 := T.own_kept hOn6 (T.entKept_set M6 (by decide) 8 (.int .i64 (nlinks + 1)))
              have N7 := N6.other (show b3 ≠ b5 by omega) 8 (.int .i64 (nlinks + 1))
              dsimp only at M7
              generalize W6.setCell ⟨b5, 8, none⟩ (.int .i64 (nlinks + 1)) = W7 at *
              clear a0 a1 a2 a3 a4 a5 a6 a7 a8 a9 a10 a11 f0 f1 f2 f3 f4 f5 f6 f7 f8 f9 f10 f11 g0 g1 g2 g3 g4 g5 g6 g7 g8 g9 g10 g11 M6 hb6 hO6 hOn6 N6
              obtain ⟨a0, a1, a2, a3, a4, a5, a6, a7, a8, a9, a10, a11⟩ := M7.facts
              obtain ⟨f0, f1, f2, f3, f4, f5, f6, f7, f8, f9, f10, f11⟩ := M7.open
              dsimp only at a0 a1 a2 a3 a4 a5 a6 a7 a8 a9 a10 a11
              go_upto_region 17 with fail
              have M8 := box_ct M7 t
              have hb8 := hb7.setCell (p := ⟨b5, 7, none⟩) (show w.heap.size ≤ b5 by omega) (.int .i64 t)
              have hO8 := T.own_kept hO7 (T.entKept_set M7 (by decide) 7 (.int .i64 t))
              have hOn8 := T.own_kept hOn7 (T.entKept_set M7 (by decide) 7 (.int .i64 t))
              have N8 := N7.other (show b3 ≠ b5 by omega) 7 (.int .i64 t)
              dsimp only at M8
              generalize W7.setCell ⟨b5, 7, none⟩ (.int .i64 t) = W8 at *
              clear a0 a1 a2 a3 a4 a5 a6 a7 a8 a9 a10 a11 f0 f1 f2 f3 f4 f5 f6 f7 f8 f9 f10 f11 M7 hb7 hO7 hOn7 N7
              have hdr : Below W8.heap.size W8 W8.drew := (Below.refl _ _).drew
              have hb9 := below_two hb8 hdr
              have D10 := M8.below hdr
              have N10 := N8.below hdr
              have hO10 := hO8.below hdr
              have H10 := H.out.below hb9
              have hln2 : T.Fits nes := HFT.out
              have hnn : nno = no := HNN.out (by trivial)
              have cS := Set_st H10 ⟨nno, ndev, nkind, nmode, nuid, ngid, nmt, t, nlinks + 1, nup, ndata, nes⟩ (.slice on_ nes.length cn) (hOn8.below hdr).sees hln2 (by show T.Wf nno; rw [hnn]; exact hn) (by omega)
              have hS1 : (⟨st.last, setN st.n ⟨nno, ndev, nkind, nmode, nuid, ngid, nmt, t, nlinks + 1, nup, ndata, nes⟩, st.d⟩ : St) = S1 := HRL.out.symm
              rw [hS1] at cS
              dsimp only [T.Nd.v] at cS
              have x0 := H10.head1
              obtain ⟨hm1, hm2, hm3⟩ := HMD.out (by trivial) (by trivial) hk1
              try dsimp only at hm3
              clear hS1 M8 hOn8 hb8 hO8 N8 hdr HMD HNN HRL hnn
              go_region_held3 (fun w' => w'.cell? ⟨b5, 0, none⟩ = some (.int .i64 nno) ∧ w'.cell? ⟨b5, 1, none⟩ = some (.int .i64 ndev) ∧ w'.cell? ⟨b5, 2, none⟩ = some (.int .i64 nkind) ∧ w'.cell? ⟨b5, 3, none⟩ = some (.int .i64 nmode) ∧ w'.cell? ⟨b5, 4, none⟩ = some (.int .i64 nuid) ∧ w'.cell? ⟨b5, 5, none⟩ = some (.int .i64 ngid) ∧ w'.cell? ⟨b5, 6, none⟩ = some (.int .i64 nmt) ∧ w'.cell? ⟨b5, 7, none⟩ = some (.int .i64 t) ∧ w'.cell? ⟨b5, 8, none⟩ = some (.int .i64 (nlinks + 1)) ∧ w'.cell? ⟨b5, 9, none⟩ = some (.int .i64 nup) ∧ w'.cell? ⟨b5, 10, none⟩ = some (.string ndata) ∧ w'.cell? ⟨b5, 11, none⟩ = some (.slice on_ nes.length cn) ∧ w'.cell? ⟨X, 0, none⟩ = some (.pointer (some ⟨A, 0, none⟩)))
                (with_reducible first | exact and12 D11.facts H11.head1 | exact and12 D10.facts x0)
                (first | (go_at_call 38; refine cS.mono ?_; rintro e w11 ⟨rfl, H11, t11⟩; have D11 := box_turn D10 H10 t11.tab (fun _ e => e)))
              have N11 := box_turn N10 H10 t11.tab (fun _ e => e)
              have hO11 := T.own_kept hO10 (H10.entKept t11.tab)
              have m11 := N11.facts.2.2.2.2.2.2.2.2.2.2.2
              have cP2 := E.put_any hO11.sees p no hup hfew
              have hpl := put_len des ⟨p, no⟩
              have cT := fun W (hb : Below w11.heap.size w11 W) u (hS : E.Sees u (E.put des ⟨p, no⟩) W) => Touch_any (H11.below hb) k t hk hm1 (by rw [hm2]; exact hm3) hS (fits_of (by omega)) (by omega)
              have HT9 := Lib.hid ((Turn.of_below (S := wS X A M mv) hb9).trans t11.tab)
              clear N10 N11 H11 t11 cS hO11 hO10 D10 D11 H10 hb9 hm1 hm2 hm3 x0
              go_wp2_with (first
                | (go_at_call 40; refine cP2.mono ?_; rintro e W13 ⟨u, rfl, hO13, hb13⟩; have q14 := cT W13 hb13 u hO13.sees; obtain ⟨ou2, cu2, rfl⟩ := T.own_slice hO13)
                | (go_at_call 39; refine q14.mono ?_; rintro e W14 ⟨rfl, hW14, ht14⟩))
              go_ret
              exact ⟨rfl, hW14, (HT9.out.next hb13).trans ht14⟩
          · obtain rfl : he = 11 := HE.out.trans (by simp [hk1, hz, hd])
            obtain rfl : r = (st, 11) := HR.out.trans (if_pos (by decide))
            have hd' : (ndev == ddev) = false := by simpa using hd
            clear HR HE HMD HNN HRL
            go_wp2
            go_ret
            exact ⟨rfl, H.out.below hb6, Turn.of_below hb6⟩
        · obtain rfl : he = 7 := HE.out.trans (by simp [hk1, hz])
          obtain rfl : r = (st, 7) := HR.out.trans (if_pos (by decide))
          have hz2 : (E.numOf des p != 0) = true := by simpa using hz
          rw [hz2] at ch
          clear HR HE HMD HNN HRL
          go_wp2_with (go_at_call 37; refine ch.mono ?_; rintro e W6 ⟨rfl, hb6'⟩)
          go_ret
          exact ⟨rfl, H.out.below (below_two hb5 hb6'), Turn.of_below (below_two hb5 hb6')⟩
  · obtain rfl : he = pe := HE.out.trans (if_pos h0)
    obtain rfl : r = (st, he) := HR.out.trans (if_pos h0)
    have h1 : (he == 0) = false := by simpa using h0
    rw [P.only_err h0] at cP
    unfold T.Nd.zero at *
    dsimp only [T.Nd.v] at cP
    clear HR HE HMD HNN HRL
    go_wp2_with (go_at_call 28; refine cP.mono ?_; rintro e w3 ⟨u, rfl, hO, hb3⟩; obtain ⟨od, cd, rfl⟩ := T.own_slice hO)
    have hb4 := below_two hb0 (below_two hb3 ((Below.refl w3.heap.size w3).alloc (Nat.le_refl _) (.cells #[.int .i64 0, .int .i64 0, .int .i64 0, .int .i64 0, .int .i64 0, .int .i64 0, .int .i64 0, .int .i64 0, .int .i64 0, .int .i64 0, .string ⟨#[]⟩, .slice od ([] : List E.Ent).length cd] 48)))
    go_ret
    exact ⟨rfl, H.out.below hb4, Turn.of_below hb4⟩
end
end Go.Proofs.YtenopnfclbegbaaGreat.BR
