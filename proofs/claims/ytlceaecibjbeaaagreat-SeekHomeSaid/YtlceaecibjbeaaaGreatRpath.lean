/-
  The reference's Path.
-/
import Derived.Test.YtlceaecibjbeaaaGreatKmid
import Derived.Test.YtlceaecibjbeaaaGreatRfou
import Derived.Test.YtlceaecibjbeaaaGreatLways
import Derived.Test.YtlceaecibjbeaaaGreatRefd
import Derived.Test.YtlceaecibjbeaaaGreatQref
import Derived.Deep.LoopGhost
namespace Go.Proofs.YtlceaecibjbeaaaGreat.K
open Go.RowKit Go.Shelf G
attribute [local go_sem] Oper.semAt_some

/-- on the way of the reference's Path -/
structure MidR (w0 : World) (BB F : Nat) (nv dv : Value) (st : St) (C D : Nat) (cu cg : Int) (w : World) : Prop where
  fs : Fs BB F nv dv st w
  found : FdBox D noFd w
  cred : CrBox C cu cg w
  low : Below w0.heap.size w0 w
  hD : w0.heap.size ≤ D
theorem MidR.below {w0 : World} {BB F : Nat} {nv dv : Value} {st : St} {C D : Nat} {cu cg : Int} {w w' : World} (h : MidR w0 BB F nv dv st C D cu cg w) (hb : Below w.heap.size w w') : MidR w0 BB F nv dv st C D cu cg w' :=
  ⟨h.fs.below hb, (hb.block D h.found.lt).trans h.found, (hb.block C h.cred.lt).trans h.cred, h.low.trans (hb.mono h.low.size), h.hD⟩
theorem gets_no {st : St} {k : Int} (h : k = 0 ∨ (get st.n k).isSome = true) (hI : Inv st) : (gets st.n k).no = k := by
  rcases h with rfl | h
  · rw [gets_none (hI.not_zero (Int.le_refl _))]; rfl
  · obtain ⟨x, hx⟩ := Option.isSome_iff_exists.1 h
    rw [gets_some hx]; exact (get_some hx).2
theorem kind_zero {st : St} (hI : Inv st) : kind st 0 = 0 := by unfold kind; rw [gets_none (hI.not_zero (Int.le_refl _))]; rfl
theorem mes_jump2 {hops a b c gk : Nat} (h : hops < 8) (hm : (8 - hops) * 100000 + b < gk) (hc : c ≤ a + 1 + b) (ha : a ≤ 2000) : (8 - (hops + 1)) * 100000 + c < gk := by
  obtain ⟨m, hm2⟩ : ∃ m, 8 - hops = m + 1 := ⟨8 - (hops + 1), by omega⟩
  have h3 : 8 - (hops + 1) = m := by omega
  rw [hm2, Nat.add_mul, Nat.one_mul] at hm
  rw [h3]
  generalize m * 100000 = x at *
  omega

set_option maxRecDepth 100000 in
set_option maxHeartbeats 40000000 in
theorem rpath_yes {BB F : Nat} {nv dv : Value} {st : St} {w : World} (hlast : st.last < 800000) (hI : Inv st) (hT : Tree st) (hF : Fs BB F nv dv st w) (cu cg : Int) (s : ByteArray) (hs : s.size ≤ 5000) (follow : Bool) (h0 : V.M.path s.data.toList = 0) {R : Fd × Int}
    (hrun : run st cu cg follow 1 (V.M.parts s.data.toList) (V.M.slash s.data.toList) 0 = R) :
    Calls Tryz.prog 10 #[.pointer (some ⟨F, 0, none⟩), .agg #[.int .i64 cu, .int .i64 cg], .string s, .bool follow] w fun e w' => e = .returned (.tuple #[R.1.v, .int .i64 R.2]) ∧ Below w.heap.size w w' := by
  obtain ⟨i0, hi0, hz0, hz1, hz2⟩ := info_parts V.info9
  have cp := fun W => V.refPath_any s hs W
  rw [h0] at cp
  have cparts := fun W => V.refParts_any s hs W
  have cslash := fun W => V.refSlash_any s hs W
  have hpl : (V.M.parts s.data.toList).length ≤ 5001 := by
    have := V.M.parts_len s.data.toList
    rw [← Lib.size_eq] at this; omega
  have hnl : st.n.length < 800000 := by have := hI.len; omega
  have hdl := hI.mounts
  have hD : FdBox (w.heap.size + 1) noFd ((w.alloc (.cells #[.int .i64 cu, .int .i64 cg] 24)).alloc (.cells #[.int .i64 0, .string ⟨#[]⟩, .int .i64 0, .bool false] 33)) := by
    have := heap_alloc_new (w.alloc (.cells #[.int .i64 cu, .int .i64 cg] 24)) (.cells #[.int .i64 0, .string ⟨#[]⟩, .int .i64 0, .bool false] 33)
    rw [World.size_alloc] at this
    exact this
  have hC : CrBox w.heap.size cu cg (w.alloc (.cells #[.int .i64 cu, .int .i64 cg] 24)) := heap_alloc_new w _
  have hM : MidR w BB F nv dv st w.heap.size (w.heap.size + 1) cu cg ((w.alloc (.cells #[.int .i64 cu, .int .i64 cg] 24)).alloc (.cells #[.int .i64 0, .string ⟨#[]⟩, .int .i64 0, .bool false] 33)) :=
    ⟨(hF.alloc _).alloc _, hD, (((Below.refl _ _).alloc (Nat.le_refl _) _).block _ hC.lt).trans hC, ((Below.refl _ _).alloc (Nat.le_refl _) _).alloc (by simp) _, Nat.le_succ _⟩
  have HM := Lib.hid hM; have HI := Lib.hid hI; have HTr := Lib.hid hT; have HRUN0 := Lib.hid hrun
  clear hM hI hT hD hC hF hrun
  generalize V.M.parts s.data.toList = ps at *
  generalize V.M.slash s.data.toList = sl at *
  go_enter Tryz.func10, Tryz.ntmps10
  go_upto_region 4 with (go_at_call 29; refine (cp _).mono ?_; rintro e w1 ⟨rfl, hw1⟩; obtain rfl := hw1.symm)
  generalize (w.alloc (.cells #[.int .i64 cu, .int .i64 cg] 24)).alloc (.cells #[.int .i64 0, .string ⟨#[]⟩, .int .i64 0, .bool false] 33) = W2 at *
  generalize w.heap.size + 1 = D at *
  go_wp2_with (first
    | (go_at_call 30; refine (cparts _).mono ?_; rintro e W3 ⟨v3, rfl, hT3, hb3⟩; obtain ⟨o3, c3, rfl, _⟩ := (strs_of hT3).slice)
    | (go_at_call 31; refine (cslash _).mono ?_; rintro e W4 ⟨rfl, hb4⟩))
  have hM4 := (HM.out.below hb3).below hb4
  have hS4 := (strs_of hT3).below hb4
  clear HM hT3 hb3 hb4 cp cparts cslash
  go_loopg [11, 12, 13, 14] 900000 (fun k s11 s12 s13 s14 wr => ∃ (here : Int) (rest : List (List UInt8)) (must : Bool) (hops : Nat), Strs s11 rest wr ∧ s12 = .bool must ∧ s13 = .int .i64 here ∧ s14 = .int .i64 hops ∧ MidR w BB F nv dv st w.heap.size D cu cg wr ∧ Hid (run st cu cg follow here rest must hops = R) ∧ hops ≤ 8 ∧ rest.length ≤ 5001 * (hops + 1) ∧ (8 - hops) * 100000 + rest.length ≤ k)
  case atStart => exact ⟨1, _, _, 0, hS4, rfl, rfl, rfl, hM4, HRUN0, by omega, by omega, by omega⟩
  case round =>
    obtain ⟨here, rest, must, hops, hS, rfl, rfl, rfl, hm, HRUN, h8, hlen, hmes⟩ := hrel
    clear hM4 hS4 HRUN0 hpl
    cases rest with
    | nil =>
      obtain ⟨oa, cap, rfl, _⟩ := hS.slice
      have hres := HRUN.out
      rw [run_end] at hres
      have HRES := Lib.hid hres.symm
      obtain ⟨d0, d1, d2, d3⟩ := hm.found.facts
      obtain ⟨e0, e1, e2, e3⟩ := hm.found.open
      have HMM := Lib.hid hm
      clear hm HRUN hres hS
      go_upto_region 37 with fail
      go_wp
      have F9 := HMM.out.found.fill ⟨0, [], here, true⟩
      have hb9 := HMM.out.low.trans (below_fillF HMM.out.hD wr ⟨0, [], here, true⟩)
      unfold fillF at F9 hb9
      dsimp only [noFd] at F9 hb9
      generalize World.setCell _ _ _ = W9 at F9 hb9 ⊢
      obtain ⟨q0, q1, q2, q3⟩ := F9.facts
      dsimp only at q0 q1 q2 q3
      refine bodyPost_ret (by simp [results, Tryz.results10, go_sem, q0, q1, q2, q3]; rfl) rfl ?_
      exact ⟨by rw [HRES.out]; rfl, hb9⟩
    | cons p r =>
      obtain ⟨g, o, cap, rfl, hc1, hc2, hcell, hg, hcons⟩ := hS.cons
      have hlr : r.length ≤ 5001 * (hops + 1) := by simp only [List.length_cons] at hlen; omega
      have hmr : (8 - hops) * 100000 + r.length < gk := by simp only [List.length_cons] at hmes; omega
      have h3 : (1 : Int) ≤ (cap : Int) := by omega
      have h4 : (0 : Int) < (r.length : Int) + 1 := by omega
      have HC := Lib.hid hcons; have HM0 := Lib.hid hm
      clear hlen hmes hcons hm hS
      go_upto_region 7 with fail
      obtain ⟨lb, hlb⟩ : ∃ x, ((r.length : Int) + 1 == 1) = x := ⟨_, rfl⟩
      have HLB : Hid (lb = r.isEmpty) := Lib.hid (by rw [← hlb]; cases r with | nil => simp | cons a b => simp; omega)
      rw [hlb]
      clear hlb
      go_cut [11] (fun s11 wx => Strs s11 r wx ∧ wx = wr)
      case first =>
        go_wp2
        all_goals
          go_meet
          case rel => exact ⟨HC.out _ _ (by omega) (fun hr => by first | rfl | exact absurd (List.length_pos_iff.2 hr) (by omega)), rfl⟩
      case rest =>
        obtain ⟨hS5, hwx⟩ := hcut
        obtain rfl := hwx.symm
        obtain ⟨o5, c5, rfl, _⟩ := hS5.slice
        obtain ⟨nd, hnd⟩ : ∃ nd, gets st.n here = nd := ⟨_, rfl⟩
        have cG := refGet_any HM0.out.fs here (by omega)
        rw [hnd] at cG
        have hkd : kind st here = nd.kind := by unfold kind; rw [hnd]
        have hmay : may cu cg st here = PM.may cu cg nd.uid nd.gid nd.mode 1 := by unfold may; rw [hnd]
        obtain ⟨no0, dev, kd, mode, uid, gid, mtm, ctm, links, up, data, ents⟩ := nd
        dsimp only at hkd hmay
        dsimp only [T.Nd.v] at cG
        have HS5 := Lib.hid hS5; have HND := Lib.hid hnd; have HKD := Lib.hid hkd; have HMY := Lib.hid hmay
        clear hS5 HC hcell hg h3 h4 hc1 hc2 hnd hkd hmay
        go_step
        go_step
        go_upto_region 9 with (go_at_call 32; refine cG.mono ?_; rintro e W6 ⟨u, rfl, hO6, hb6⟩; obtain ⟨ou, cu1, rfl⟩ := T.own_slice hO6; have N6 := T.BoxN.new ⟨no0, dev, kd, mode, uid, gid, mtm, ctm, links, up, data, ents⟩ (.slice ou ents.length cu1) W6)
        have hal : Below W6.heap.size W6 (W6.alloc (.cells #[.int .i64 no0, .int .i64 dev, .int .i64 kd, .int .i64 mode, .int .i64 uid, .int .i64 gid, .int .i64 mtm, .int .i64 ctm, .int .i64 links, .int .i64 up, .string data, .slice ou ents.length cu1] 51)) := (Below.refl _ _).alloc (Nat.le_refl _) _
        have hO7 := T.own_kept hO6 (T.EntKept.below hal)
        have hm7 := (HM0.out.below hb6).below hal
        have hS7 := (HS5.out.below hb6).below hal
        generalize W6.alloc (.cells #[.int .i64 no0, .int .i64 dev, .int .i64 kd, .int .i64 mode, .int .i64 uid, .int .i64 gid, .int .i64 mtm, .int .i64 ctm, .int .i64 links, .int .i64 up, .string data, .slice ou ents.length cu1] 51) = W7 at N6 hO7 hm7 hS7 ⊢
        generalize W6.heap.size = bd at N6 ⊢
        clear hal hb6 hO6 cG HS5 HM0
        obtain ⟨n0, n1, n2, n3, n4, n5, n6, n7, n8, n9, n10, n11⟩ := N6.facts
        dsimp only at n0 n1 n2 n3 n4 n5 n6 n7 n8 n9 n10 n11
        have HM7 := Lib.hid hm7; have HN6 := Lib.hid N6; have HO7 := Lib.hid hO7; have HS7 := Lib.hid hS7
        clear hm7 N6 hO7 hS7
        by_cases hk : kd = 1
        · subst hk
          obtain ⟨k0, k1⟩ := HM7.out.cred.facts
          have cn := fun W => PM.refNode_any cu cg ⟨no0, dev, 1, mode, uid, gid, mtm, ctm, links, up, data, ou, ents.length, cu1⟩ 1 W
          dsimp only [PM.Nd.v, PM.cred] at cn
          rw [← HMY.out] at cn
          cases hmy : may cu cg st here with
          | false =>
            rw [hmy] at cn
            have hres := HRUN.out
            rw [run_access HKD.out hmy] at hres
            have HRES := Lib.hid hres.symm
            have cn7 := cn W7
            clear cn hres HMY
            go_upto_region 12 with (go_at_call 33; refine cn7.mono ?_; rintro e W8 ⟨rfl, hb8⟩)
            have hm8 := HM7.out.below hb8
            clear n0 n1 n2 n3 n4 n5 n6 n7 n8 n9 n10 n11 k0 k1 cn7
            obtain ⟨d0, d1, d2, d3⟩ := hm8.found.facts
            obtain ⟨e0, e1, e2, e3⟩ := hm8.found.open
            have HM8 := Lib.hid hm8
            clear hm8
            go_upto_region 12 with fail
            go_wp
            have F9 := HM8.out.found.fill noFd
            have hb9 := HM8.out.low.trans (below_fillF HM8.out.hD W8 noFd)
            unfold fillF at F9 hb9
            dsimp only [noFd] at F9 hb9
            generalize World.setCell _ _ _ = W9 at F9 hb9 ⊢
            obtain ⟨q0, q1, q2, q3⟩ := F9.facts
            dsimp only at q0 q1 q2 q3
            refine bodyPost_ret (by simp [results, Tryz.results10, go_sem, q0, q1, q2, q3]; rfl) rfl ?_
            exact ⟨by rw [HRES.out]; rfl, hb9⟩
          | true =>
            rw [hmy] at cn
            have cn7 := cn W7
            have HMY1 := Lib.hid hmy
            clear cn hmy HMY
            go_upto_region 13 with (go_at_call 33; refine cn7.mono ?_; rintro e W8 ⟨rfl, hb8⟩)
            have hm8 := HM7.out.below hb8
            have hN8 := HN6.out.below hb8
            have hO8 := T.own_kept HO7.out (T.EntKept.below hb8)
            have hS8 := HS7.out.below hb8
            clear n0 n1 n2 n3 n4 n5 n6 n7 n8 n9 n10 n11 k0 k1 cn7 HN6 HO7 HS7 HM7 hb8
            have n11 := hN8.facts.2.2.2.2.2.2.2.2.2.2.2
            try dsimp only at n11
            have HM8 := Lib.hid hm8; have HO8 := Lib.hid hO8; have HS8 := Lib.hid hS8
            clear hm8 hN8 hO8 hS8
            by_cases hp : p = [46, 46]
            · subst hp
              have hrun := HRUN.out
              rw [run_up HKD.out HMY1.out rfl, HI.out.above_ref] at hrun
              have HR2 := Lib.hid hrun
              have ca := refAbove_any HI.out HM8.out.fs here (by omega)
              clear hrun HRUN n11
              generalize refAbove st here = here2 at *
              go_wp2_with (go_at_call 34; refine ca.mono ?_; rintro e W9 ⟨rfl, hb9⟩)
              go_roundg ((8 - hops) * 100000 + r.length)
              case measure => exact hmr
              case rel => exact ⟨here2, r, must, hops, HS8.out.below hb9, rfl, rfl, rfl, HM8.out.below hb9, HR2, h8, hlr, Nat.le_refl _⟩
            · have hp' : (p == [46, 46]) = false := by simpa using hp
              have HP := Lib.hid hp
              have hsz := size_ll p
              by_cases hlp : 255 < p.length
              · have hlp' : (255 : Int) < (p.length : Int) := by omega
                have hres := HRUN.out
                rw [run_long HKD.out HMY1.out hlp] at hres
                have HRES := Lib.hid hres.symm
                obtain ⟨d0, d1, d2, d3⟩ := HM8.out.found.facts
                obtain ⟨e0, e1, e2, e3⟩ := HM8.out.found.open
                clear hres hp n11
                go_upto_region 16 with fail
                go_wp
                have F9 := HM8.out.found.fill noFd
                have hb9 := HM8.out.low.trans (below_fillF HM8.out.hD W8 noFd)
                unfold fillF at F9 hb9
                dsimp only [noFd] at F9 hb9
                generalize World.setCell _ _ _ = W9 at F9 hb9 ⊢
                obtain ⟨q0, q1, q2, q3⟩ := F9.facts
                dsimp only at q0 q1 q2 q3
                refine bodyPost_ret (by simp [results, Tryz.results10, go_sem, q0, q1, q2, q3]; rfl) rfl ?_
                exact ⟨by rw [HRES.out]; rfl, hb9⟩
              · have hlp' : ¬ (255 : Int) < (p.length : Int) := by omega
                have HLP := Lib.hid hlp
                obtain ⟨no, hno⟩ : ∃ k, hit st here p = k := ⟨_, rfl⟩
                have cf := fun W (hb : Below W8.heap.size W8 W) => E.refFind_any (w := W) (E.Own.sees (T.own_kept HO8.out (T.EntKept.below hb))) p (by have := gets_few HI.out here; rw [HND.out] at this; exact this)
                have hov : over st.d (E.numOf ents p) = no := by rw [← hno]; unfold hit; rw [HND.out]
                rw [HI.out.over_ref] at hov
                have co := refOver_any HM8.out.fs (E.numOf ents p) (by omega)
                rw [hov] at co
                have cf8 := cf W8 (Below.refl _ _)
                have cg2 := refGet_any HM8.out.fs no (by omega)
                have hth := hit_there HI.out HTr.out here p
                rw [hno] at hth
                have hgn := gets_no hth HI.out
                have hsh := gets_short HTr.out no
                have hk2 : kind st no = (gets st.n no).kind := rfl
                have htx : text st no = (gets st.n no).data.data.toList := rfl
                obtain ⟨nd2, hnd2⟩ : ∃ nd, gets st.n no = nd := ⟨_, rfl⟩
                rw [hnd2] at cg2 hsh hk2 htx hgn
                obtain ⟨no2, dev2, kd2, mode2, uid2, gid2, mt2, ct2, links2, up2, data2, es2⟩ := nd2
                dsimp only at cg2 hsh hk2 htx hgn
                subst hgn
                have HNO := Lib.hid hno; have HK2 := Lib.hid hk2; have HTX := Lib.hid htx
                clear hp hlp hov hno hth hk2 htx hnd2 cf
                generalize E.numOf ents p = fno at *
                dsimp only [T.Nd.v] at cg2
                go_upto_region 18 with (first
                  | (go_at_call 36; refine cf8.mono ?_; rintro e W9 ⟨rfl, hw9⟩; obtain rfl := hw9.symm)
                  | (go_at_call 35; refine co.mono ?_; rintro e W9 ⟨rfl, hw9⟩; obtain rfl := hw9.symm)
                  | (go_at_call 32; refine cg2.mono ?_; rintro e W9 ⟨u2, rfl, hO9, hb9⟩; obtain ⟨ou2, cu2, rfl⟩ := T.own_slice hO9; have N9 := T.BoxN.new ⟨no2, dev2, kd2, mode2, uid2, gid2, mt2, ct2, links2, up2, data2, es2⟩ (.slice ou2 es2.length cu2) W9))
                have hal : Below W9.heap.size W9 (W9.alloc (.cells #[.int .i64 no2, .int .i64 dev2, .int .i64 kd2, .int .i64 mode2, .int .i64 uid2, .int .i64 gid2, .int .i64 mt2, .int .i64 ct2, .int .i64 links2, .int .i64 up2, .string data2, .slice ou2 es2.length cu2] 51)) := (Below.refl _ _).alloc (Nat.le_refl _) _
                have hm10 := (HM8.out.below hb9).below hal
                have hS10 := (HS8.out.below hb9).below hal
                generalize W9.alloc (.cells #[.int .i64 no2, .int .i64 dev2, .int .i64 kd2, .int .i64 mode2, .int .i64 uid2, .int .i64 gid2, .int .i64 mt2, .int .i64 ct2, .int .i64 links2, .int .i64 up2, .string data2, .slice ou2 es2.length cu2] 51) = W10 at N9 hm10 hS10 ⊢
                generalize W9.heap.size = bn at N9 ⊢
                clear hal hb9 hO9 cg2 co cf8 HM8 HS8 HO8 n11
                obtain ⟨m0, m1, m2, m3, m4, m5, m6, m7, m8, m9, m10, m11⟩ := N9.facts
                dsimp only at m0 m2 m10
                clear m1 m3 m4 m5 m6 m7 m8 m9 m11 N9
                obtain ⟨d0, d1, d2, d3⟩ := hm10.found.facts
                obtain ⟨e0, e1, e2, e3⟩ := hm10.found.open
                have HM10 := Lib.hid hm10; have HS10 := Lib.hid hS10
                clear hm10 hS10
                by_cases hz : no2 = 0
                · subst hz
                  have hk0 : ¬ (kind st (hit st here p) = 3 ∧ goes follow must r = true) := by rw [HNO.out, kind_zero HI.out]; rintro ⟨h5, _⟩; cases h5
                  cases hlv : lb with
                  | true =>
                    subst hlv
                    have hre : r.isEmpty = true := HLB.out.symm
                    have hres := HRUN.out
                    rw [run_last HKD.out HMY1.out HP.out HLP.out hk0 (by rw [hre]; rintro ⟨_, h5⟩; cases h5) (by rw [HNO.out]; rintro ⟨h5, _⟩; exact h5 rfl) hre, HNO.out] at hres
                    have HRES := Lib.hid hres.symm
                    clear hres hre hk0
                    go_upto_region 21 with fail
                    go_wp
                    have F9 := HM10.out.found.fill ⟨here, p, 0, must⟩
                    have hb9 := HM10.out.low.trans (below_fillF HM10.out.hD W10 ⟨here, p, 0, must⟩)
                    unfold fillF at F9 hb9
                    dsimp only [noFd] at F9 hb9
                    generalize World.setCell _ _ _ = W9 at F9 hb9 ⊢
                    obtain ⟨q0, q1, q2, q3⟩ := F9.facts
                    dsimp only at q0 q1 q2 q3
                    refine bodyPost_ret (by simp [results, Tryz.results10, go_sem, q0, q1, q2, q3]; rfl) rfl ?_
                    exact ⟨by rw [HRES.out]; rfl, hb9⟩
                  | false =>
                    subst hlv
                    have hre : r.isEmpty = false := HLB.out.symm
                    have hres := HRUN.out
                    rw [run_none HKD.out HMY1.out HP.out HLP.out hk0 HNO.out hre] at hres
                    have HRES := Lib.hid hres.symm
                    clear hres hre hk0
                    go_upto_region 19 with fail
                    go_wp
                    have F9 := HM10.out.found.fill noFd
                    have hb9 := HM10.out.low.trans (below_fillF HM10.out.hD W10 noFd)
                    unfold fillF at F9 hb9
                    dsimp only [noFd] at F9 hb9
                    generalize World.setCell _ _ _ = W9 at F9 hb9 ⊢
                    obtain ⟨q0, q1, q2, q3⟩ := F9.facts
                    dsimp only at q0 q1 q2 q3
                    refine bodyPost_ret (by simp [results, Tryz.results10, go_sem, q0, q1, q2, q3]; rfl) rfl ?_
                    exact ⟨by rw [HRES.out]; rfl, hb9⟩
                · have hz' : (no2 == 0) = false := by simpa using hz
                  have HZ := Lib.hid hz
                  clear hz
                  have hgo : goes follow must r = (follow || must || !lb) := by unfold goes; rw [HLB.out]
                  have HGO := Lib.hid hgo
                  clear hgo
                  go_upto_region 22 with fail
                  go_cut [96] (fun c wx => c = .bool (decide (kd2 = 3) && goes follow must r) ∧ wx = W10)
                  case first =>
                    by_cases hk3 : kd2 = 3
                    · subst hk3
                      cases lb with
                      | false =>
                        go_wp2_with fail
                        go_meet
                        case rel => exact ⟨by rw [HGO.out]; simp, rfl⟩
                      | true =>
                        cases must with
                        | true =>
                          go_wp2_with fail
                          go_meet
                          case rel => exact ⟨by rw [HGO.out]; simp, rfl⟩
                        | false =>
                          go_wp2_with fail
                          go_meet
                          case rel => exact ⟨by rw [HGO.out]; simp, rfl⟩
                    · have hk3' : (kd2 == 3) = false := by simpa using hk3
                      go_wp2_with fail
                      go_meet
                      case rel => exact ⟨by simp [hk3], rfl⟩
                  case rest =>
                    obtain ⟨rfl, hwx⟩ := hcut
                    obtain rfl := hwx.symm
                    obtain ⟨q, hq⟩ : ∃ q, (decide (kd2 = 3) && goes follow must r) = q := ⟨_, rfl⟩
                    rw [hq]
                    have HQ := Lib.hid hq
                    clear hq HGO
                    cases q with
                    | true =>
                      obtain ⟨hk3, hgg⟩ : kd2 = 3 ∧ goes follow must r = true := by have := HQ.out; simpa using this
                      have hkk : kind st (hit st here p) = 3 := by rw [HNO.out, HK2.out]; exact hk3
                      have hxx : text st (hit st here p) = data2.data.toList := by rw [HNO.out, HTX.out]
                      obtain ⟨z, hzz⟩ : ∃ z : Int, ((hops + 1 : Nat) : Int) = z := ⟨_, rfl⟩
                      have hw : IntKind.i64.wrap ((hops : Int) + 1) = z := (wrap_id (by omega) (by omega)).trans (by omega)
                      have HZZ := Lib.hid hzz
                      go_step
                      go_step
                      by_cases h88 : hops = 8
                      · subst h88
                        have hgt : (8 : Int) < z := by omega
                        have hres := HRUN.out
                        rw [run_loop HKD.out HMY1.out HP.out HLP.out hkk hgg (by omega)] at hres
                        have HRES := Lib.hid hres.symm
                        clear hres hkk hxx hk3 hgg HRUN hzz
                        go_upto_region 25 with fail
                        go_wp
                        have F9 := HM10.out.found.fill noFd
                        have hb9 := HM10.out.low.trans (below_fillF HM10.out.hD W10 noFd)
                        unfold fillF at F9 hb9
                        dsimp only [noFd] at F9 hb9
                        generalize World.setCell _ _ _ = W9 at F9 hb9 ⊢
                        obtain ⟨q0, q1, q2, q3⟩ := F9.facts
                        dsimp only at q0 q1 q2 q3
                        refine bodyPost_ret (by simp [results, Tryz.results10, go_sem, q0, q1, q2, q3]; rfl) rfl ?_
                        exact ⟨by rw [HRES.out]; rfl, hb9⟩
                      · have hgt : ¬ (8 : Int) < z := by omega
                        have h8z : hops + 1 ≤ 8 := by omega
                        clear hzz
                        by_cases htx : data2.data.toList = []
                        · have hres := HRUN.out
                          rw [run_empty HKD.out HMY1.out HP.out HLP.out hkk hgg (by omega) (by rw [hxx]; exact htx)] at hres
                          have HRES := Lib.hid hres.symm
                          obtain ⟨⟨l⟩⟩ := data2
                          have hl : l = [] := htx
                          subst hl
                          clear hres hkk hxx hk3 hgg HRUN htx
                          go_upto_region 27 with fail
                          go_wp
                          have F9 := HM10.out.found.fill noFd
                          have hb9 := HM10.out.low.trans (below_fillF HM10.out.hD W10 noFd)
                          unfold fillF at F9 hb9
                          dsimp only [noFd] at F9 hb9
                          generalize World.setCell _ _ _ = W9 at F9 hb9 ⊢
                          obtain ⟨q0, q1, q2, q3⟩ := F9.facts
                          dsimp only at q0 q1 q2 q3
                          refine bodyPost_ret (by simp [results, Tryz.results10, go_sem, q0, q1, q2, q3]; rfl) rfl ?_
                          exact ⟨by rw [HRES.out]; rfl, hb9⟩
                        · have hrun := HRUN.out
                          rw [run_jump HKD.out HMY1.out HP.out HLP.out hkk hgg (by omega) (by rw [hxx]; exact htx), hxx] at hrun
                          have hpl2 := V.M.parts_len data2.data.toList
                          rw [← Lib.size_eq] at hpl2
                          have hlen2 : (V.M.parts data2.data.toList ++ r).length ≤ data2.size + 1 + r.length := by rw [List.length_append]; omega
                          have hmz : (8 - (hops + 1)) * 100000 + (V.M.parts data2.data.toList ++ r).length < gk := mes_jump2 (by omega) hmr hlen2 hsh
                          have hlz : (V.M.parts data2.data.toList ++ r).length ≤ 5001 * (hops + 1 + 1) := by omega
                          have hpos : 0 < data2.size := by
                            rw [Lib.size_eq]; exact List.length_pos_iff.2 htx
                          have hhd := V.head_at hpos
                          have hne' : data2.toList.isEmpty = false := by
                            rw [ByteArray.toList_eq]
                            cases hh : data2.data.toList with
                            | nil => exact absurd hh htx
                            | cons x y => rfl
                          clear hkk hxx hk3 hgg HRUN htx hlen2
                          by_cases h47 : (data2[0]'hpos).toNat = 47
                          · have hdx : data2.data.toList.head? = some 47 := by rw [hhd, UInt8.toNat_inj.1 (show (data2[0]'hpos).toNat = (47 : UInt8).toNat from h47)]
                            clear hhd
                            have HFR : Hid (from_ data2.data.toList here = 1) := Lib.hid (by unfold from_; rw [if_pos hdx])
                            go_upto_region 30 with fail
                            go_cut [12] (fun c wx => c = .bool (must_ must r data2.data.toList) ∧ Below W10.heap.size W10 wx)
                            case first =>
                              cases must with
                              | true =>
                                go_wp2_with fail
                                go_meet
                                case rel => exact ⟨by unfold must_; rfl, Below.refl _ _⟩
                              | false =>
                                cases lb with
                                | true =>
                                  have HE : Hid (V.M.slash data2.data.toList = must_ false r data2.data.toList) := Lib.hid (by unfold must_; rw [← HLB.out]; simp)
                                  have csl := V.refSlash_any data2 (by omega) W10
                                  generalize V.M.slash data2.data.toList = sl2 at *
                                  go_wp2_with (go_at_call 31; refine csl.mono ?_; rintro e W11 ⟨rfl, hb11⟩)
                                  go_meet
                                  case rel => exact ⟨by rw [HE.out], hb11⟩
                                | false =>
                                  go_wp2_with fail
                                  go_meet
                                  case rel => exact ⟨by unfold must_; rw [← HLB.out]; rfl, Below.refl _ _⟩
                            case rest =>
                              obtain ⟨rfl, hbx⟩ := hcut
                              have y10 := (hbx.cell (p := ⟨bn, 10, none⟩) (World.block_lt_of_cell? _ _ m10)).trans m10
                              have cpt := fun W => V.refParts_any data2 (by omega) W
                              have HLZ := Lib.hid hlz; have HMZ := Lib.hid hmz
                              have hm11 := HM10.out.below hbx
                              have hS11 := HS10.out.below hbx
                              have HM11 := Lib.hid hm11; have HS11 := Lib.hid hS11
                              have hfr := HFR.out
                              rw [hfr] at hrun
                              have HR2 := Lib.hid hrun
                              have hl2 : (V.M.parts data2.data.toList).length + r.length ≤ 1000000 := by omega
                              clear hlz hmz hm11 hS11 hfr hrun m0 m2 m10 hbx HM10 HS10 HFR d0 d1 d2 d3 e0 e1 e2 e3 hdx
                              generalize must_ must r data2.data.toList = must2 at *
                              go_step
                              go_step
                              go_wp2_with (first
                                | (go_at_call 30; refine (cpt _).mono ?_; rintro e W12 ⟨v12, rfl, hT12, hb12⟩)
                                | (at_builtin; obtain ⟨v13, W13, hr13, hT13, hg13⟩ := append_strs 25 _ i0 Tryz.underlying25 hi0 hz0 hz1 hz2 hT12 (HS11.out.below hb12) hl2 hb12.size; obtain ⟨o13, c13, rfl, _⟩ := (strs_of hT13).slice; obtain ⟨n13, hn13⟩ : ∃ n, (V.M.parts data2.data.toList ++ r).length = n := ⟨_, rfl⟩; rw [hn13] at hT13 hr13; have HN13 := Lib.hid hn13; clear hn13; refine Lib.wpList_append_run _ rfl _ _ _ _ rfl _ _ rfl rfl _ W13 hr13 ?_))
                              have hb13 := hb12.trans (texts_below hT12 hg13 (Nat.le_refl _) hb12.size)
                              go_roundg ((8 - (hops + 1)) * 100000 + (V.M.parts data2.data.toList ++ r).length)
                              case measure => exact HMZ.out
                              case rel => exact ⟨1, V.M.parts data2.data.toList ++ r, must2, hops + 1, strs_of hT13, rfl, rfl, by rw [← HZZ.out], HM11.out.below hb13, HR2, h8z, HLZ.out, Nat.le_refl _⟩
                          · have h47' : (((data2[0]'hpos).toNat : Int) == 47) = false := by simp; omega
                            have hdx : ¬ data2.data.toList.head? = some 47 := by rw [hhd]; intro e; exact h47 (by rw [Option.some.inj e]; rfl)
                            clear hhd
                            have HFR : Hid (from_ data2.data.toList here = here) := Lib.hid (by unfold from_; rw [if_neg hdx])
                            go_upto_region 30 with fail
                            go_cut [12] (fun c wx => c = .bool (must_ must r data2.data.toList) ∧ Below W10.heap.size W10 wx)
                            case first =>
                              cases must with
                              | true =>
                                go_wp2_with fail
                                go_meet
                                case rel => exact ⟨by unfold must_; rfl, Below.refl _ _⟩
                              | false =>
                                cases lb with
                                | true =>
                                  have HE : Hid (V.M.slash data2.data.toList = must_ false r data2.data.toList) := Lib.hid (by unfold must_; rw [← HLB.out]; simp)
                                  have csl := V.refSlash_any data2 (by omega) W10
                                  generalize V.M.slash data2.data.toList = sl2 at *
                                  go_wp2_with (go_at_call 31; refine csl.mono ?_; rintro e W11 ⟨rfl, hb11⟩)
                                  go_meet
                                  case rel => exact ⟨by rw [HE.out], hb11⟩
                                | false =>
                                  go_wp2_with fail
                                  go_meet
                                  case rel => exact ⟨by unfold must_; rw [← HLB.out]; rfl, Below.refl _ _⟩
                            case rest =>
                              obtain ⟨rfl, hbx⟩ := hcut
                              have y10 := (hbx.cell (p := ⟨bn, 10, none⟩) (World.block_lt_of_cell? _ _ m10)).trans m10
                              have cpt := fun W => V.refParts_any data2 (by omega) W
                              have HLZ := Lib.hid hlz; have HMZ := Lib.hid hmz
                              have hm11 := HM10.out.below hbx
                              have hS11 := HS10.out.below hbx
                              have HM11 := Lib.hid hm11; have HS11 := Lib.hid hS11
                              have hfr := HFR.out
                              rw [hfr] at hrun
                              have HR2 := Lib.hid hrun
                              have hl2 : (V.M.parts data2.data.toList).length + r.length ≤ 1000000 := by omega
                              clear hlz hmz hm11 hS11 hfr hrun m0 m2 m10 hbx HM10 HS10 HFR d0 d1 d2 d3 e0 e1 e2 e3 hdx
                              generalize must_ must r data2.data.toList = must2 at *
                              go_step
                              go_step
                              go_wp2_with (first
                                | (go_at_call 30; refine (cpt _).mono ?_; rintro e W12 ⟨v12, rfl, hT12, hb12⟩)
                                | (at_builtin; obtain ⟨v13, W13, hr13, hT13, hg13⟩ := append_strs 25 _ i0 Tryz.underlying25 hi0 hz0 hz1 hz2 hT12 (HS11.out.below hb12) hl2 hb12.size; obtain ⟨o13, c13, rfl, _⟩ := (strs_of hT13).slice; obtain ⟨n13, hn13⟩ : ∃ n, (V.M.parts data2.data.toList ++ r).length = n := ⟨_, rfl⟩; rw [hn13] at hT13 hr13; have HN13 := Lib.hid hn13; clear hn13; refine Lib.wpList_append_run _ rfl _ _ _ _ rfl _ _ rfl rfl _ W13 hr13 ?_))
                              have hb13 := hb12.trans (texts_below hT12 hg13 (Nat.le_refl _) hb12.size)
                              go_roundg ((8 - (hops + 1)) * 100000 + (V.M.parts data2.data.toList ++ r).length)
                              case measure => exact HMZ.out
                              case rel => exact ⟨here, V.M.parts data2.data.toList ++ r, must2, hops + 1, strs_of hT13, rfl, rfl, by rw [← HZZ.out], HM11.out.below hb13, HR2, h8z, HLZ.out, Nat.le_refl _⟩
                    | false =>
                      have h4 : ¬ (kind st (hit st here p) = 3 ∧ goes follow must r = true) := by
                        rintro ⟨h5, h6⟩
                        rw [HNO.out, HK2.out] at h5
                        have := HQ.out
                        rw [h6, decide_eq_true h5] at this
                        cases this
                      have H4 := Lib.hid h4
                      clear h4
                      go_step
                      go_step
                      go_upto_region 32 with fail
                      go_cut [133] (fun c wx => c = .bool (!decide (kd2 = 1) && (!lb || must)) ∧ wx = W10)
                      case first =>
                        by_cases hk1 : kd2 = 1
                        · subst hk1
                          go_wp2_with fail
                          go_meet
                          case rel => exact ⟨by simp, rfl⟩
                        · have hk1' : (kd2 != 1) = true := by simpa using hk1
                          cases lb with
                          | false =>
                            go_wp2_with fail
                            go_meet
                            case rel => exact ⟨by simp [hk1], rfl⟩
                          | true =>
                            go_wp2_with fail
                            go_meet
                            case rel => exact ⟨by simp [hk1], rfl⟩
                      case rest =>
                        obtain ⟨rfl, hwx⟩ := hcut
                        obtain rfl := hwx.symm
                        obtain ⟨q2, hq2⟩ : ∃ q, (!decide (kd2 = 1) && (!lb || must)) = q := ⟨_, rfl⟩
                        rw [hq2]
                        have HQ2 := Lib.hid hq2
                        clear hq2
                        have h5 : ¬ (hit st here p = 0 ∧ r.isEmpty = false) := by rw [HNO.out]; exact fun e => HZ.out e.1
                        cases q2 with
                        | true =>
                          have h6 : kd2 ≠ 1 ∧ (lb = false ∨ must = true) := by
                            have := HQ2.out
                            simp at this
                            exact this
                          have hres := HRUN.out
                          rw [run_file HKD.out HMY1.out HP.out HLP.out H4.out (by rw [HNO.out]; exact HZ.out) (by rw [HNO.out, HK2.out]; exact h6.1) (by rw [← HLB.out]; exact h6.2)] at hres
                          have HRES := Lib.hid hres.symm
                          clear hres h5 h6 HRUN
                          go_step
                          go_step
                          go_upto_region 33 with fail
                          go_wp
                          have F9 := HM10.out.found.fill noFd
                          have hb9 := HM10.out.low.trans (below_fillF HM10.out.hD W10 noFd)
                          unfold fillF at F9 hb9
                          dsimp only [noFd] at F9 hb9
                          generalize World.setCell _ _ _ = W9 at F9 hb9 ⊢
                          obtain ⟨q0, q1, q2, q3⟩ := F9.facts
                          dsimp only at q0 q1 q2 q3
                          refine bodyPost_ret (by simp [results, Tryz.results10, go_sem, q0, q1, q2, q3]; rfl) rfl ?_
                          exact ⟨by rw [HRES.out]; rfl, hb9⟩
                        | false =>
                          have h6 : ¬ (hit st here p ≠ 0 ∧ kind st (hit st here p) ≠ 1 ∧ (r.isEmpty = false ∨ must = true)) := by
                            rintro ⟨_, h7, h8'⟩
                            rw [HNO.out, HK2.out] at h7
                            rw [← HLB.out] at h8'
                            have := HQ2.out
                            rw [decide_eq_false h7] at this
                            rcases h8' with h8' | h8' <;> (rw [h8'] at this; simp at this)
                          cases hlv : lb with
                          | true =>
                            subst hlv
                            have hres := HRUN.out
                            rw [run_last HKD.out HMY1.out HP.out HLP.out H4.out h5 h6 HLB.out.symm, HNO.out] at hres
                            have HRES := Lib.hid hres.symm
                            clear hres h5 h6 HRUN
                            go_step
                            go_step
                            go_upto_region 35 with fail
                            go_wp
                            have F9 := HM10.out.found.fill ⟨here, p, no2, must⟩
                            have hb9 := HM10.out.low.trans (below_fillF HM10.out.hD W10 ⟨here, p, no2, must⟩)
                            unfold fillF at F9 hb9
                            dsimp only [noFd] at F9 hb9
                            generalize World.setCell _ _ _ = W9 at F9 hb9 ⊢
                            obtain ⟨q0, q1, q2, q3⟩ := F9.facts
                            dsimp only at q0 q1 q2 q3
                            refine bodyPost_ret (by simp [results, Tryz.results10, go_sem, q0, q1, q2, q3]; rfl) rfl ?_
                            exact ⟨by rw [HRES.out]; rfl, hb9⟩
                          | false =>
                            subst hlv
                            have hrun := HRUN.out
                            rw [run_go HKD.out HMY1.out HP.out HLP.out H4.out h5 h6 HLB.out.symm, HNO.out] at hrun
                            have HR2 := Lib.hid hrun
                            clear hrun h5 h6 HRUN d0 d1 d2 d3 e0 e1 e2 e3
                            go_step
                            go_step
                            go_wp2
                            go_roundg ((8 - hops) * 100000 + r.length)
                            case measure => exact hmr
                            case rel => exact ⟨no2, r, must, hops, HS10.out, rfl, rfl, rfl, HM10.out, HR2, h8, hlr, Nat.le_refl _⟩
        · have hk' : (kd != 1) = true := by simpa using hk
          have hres := HRUN.out
          rw [run_notdir (by rw [HKD.out]; exact hk)] at hres
          have HRES := Lib.hid hres.symm
          obtain ⟨d0, d1, d2, d3⟩ := HM7.out.found.facts
          obtain ⟨e0, e1, e2, e3⟩ := HM7.out.found.open
          clear hres n0 n1 n3 n4 n5 n6 n7 n8 n9 n10 n11
          go_upto_region 10 with fail
          go_wp
          have F9 := HM7.out.found.fill noFd
          have hb9 := HM7.out.low.trans (below_fillF HM7.out.hD W7 noFd)
          unfold fillF at F9 hb9
          dsimp only [noFd] at F9 hb9
          generalize World.setCell _ _ _ = W9 at F9 hb9 ⊢
          obtain ⟨q0, q1, q2, q3⟩ := F9.facts
          dsimp only at q0 q1 q2 q3
          refine bodyPost_ret (by simp [results, Tryz.results10, go_sem, q0, q1, q2, q3]; rfl) rfl ?_
          exact ⟨by rw [HRES.out]; rfl, hb9⟩
end Go.Proofs.YtlceaecibjbeaaaGreat.K
