/-
  What is made is the maker's, lies where it was made, and is all that is new: BringThere, from the program's contracts.
-/
import Derived.Test.YtenopnfclbegbaaGreatBplay
import Derived.Test.YtenopnfclbegbaaGreatBborn
import Derived.Deep.RegionHeld3
import Derived.Deep.CutBlock
namespace Go.Proofs.YtenopnfclbegbaaGreat.BR
open Go.RowKit Go.Shelf G
attribute [local go_sem] Oper.semAt_some

theorem sees_one (a : Ac) (w : World) : AcSees (.slice (some ⟨w.heap.size, 0, none⟩) 1 1) [a] (w.alloc (.cells #[.int .i64 a.kind, .int .i64 a.cu, .int .i64 a.cg, .int .i64 a.dir, .int .i64 a.no, .int .i64 a.n, .string ⟨a.name.toArray⟩, .string a.text, .int .i64 a.tgt, .string a.asn] 42)) := by
  refine ⟨_, 1, rfl, ⟨Nat.le_refl _, by decide⟩, fun k x hk => ⟨w.heap.size, 0, rfl, ?_⟩⟩
  match k, hk with
  | 0, hk =>
    cases hk
    refine ⟨?_, ?_, ?_, ?_, ?_, ?_, ?_, ?_, ?_, ?_⟩ <;> (rw [World.cell?_alloc_new]; rfl)
  | k + 1, hk => simp at hk
theorem nlen_of {B F : Nat} {ex : Ext} {nv dv : Value} {st : St} {w : World} (h : Fs ex B F nv dv st w) : ∃ oa cap, nv = .slice oa st.n.length cap := by
  obtain ⟨l, h1, h2, _⟩ := h.nodes
  obtain ⟨oa, cap, e, _⟩ := h2.sees
  exact ⟨oa, cap, by rw [e, ← h1, List.length_map]⟩
theorem thr0 {st : St} {a : Ac} {kd : Int} (h : a.kind = 0) (hk : place (st.last + 1) a.dir = kd) : thrSt st a = dirSt st a.cu a.cg 9 kd a.name a.n := by subst hk; unfold thrSt; rw [if_pos h]
theorem thr1 {st : St} {a : Ac} {kd : Int} (h : a.kind = 1) (hk : place (st.last + 1) a.dir = kd) : thrSt st a = fileSt st a.cu a.cg 9 kd a.name a.n a.text := by subst hk; unfold thrSt; rw [if_neg (by omega), if_pos h]
theorem thr2 {st : St} {a : Ac} {kd : Int} (h0 : a.kind ≠ 0) (h1 : a.kind ≠ 1) (hk : place (st.last + 1) a.dir = kd) : thrSt st a = symSt st a.cu a.cg 9 kd a.name a.text := by subst hk; unfold thrSt; rw [if_neg h0, if_neg h1]
set_option maxRecDepth 100000 in
set_option maxHeartbeats 32000000 in
theorem there_any (hP : Plays) {v : Value} {ls : List It} {w : World} (hS : ItSees v ls w) (a : Ac) :
    Calls Tryz.prog 4 #[v, a.v] w fun e w' => e = .returned (.bool true) ∧ Below w.heap.size w w' := by
  have D1 := BoxA.new a w
  have O1 := fun W => sees_one a W
  have hfewa : fewA [a] = (shortA a && true) := by simp [fewA]
  have hsh : shortA a = true → a.name.length ≤ 300 ∧ a.text.size ≤ 2000 := fun h => by simp [shortA] at h; exact ⟨h.1.1, h.2⟩
  have hb1 : Below w.heap.size w (w.alloc (.cells #[.int .i64 a.kind, .int .i64 a.cu, .int .i64 a.cg, .int .i64 a.dir, .int .i64 a.no, .int .i64 a.n, .string ⟨a.name.toArray⟩, .string a.text, .int .i64 a.tgt, .string a.asn] 42)) := (Below.refl _ _).alloc (Nat.le_refl _) _
  have cF := Few_any (hS.below hb1)
  have cG := fun W (hb : Below w.heap.size w W) hf => Grow_any 300 60 (by decide) (hS.below hb) hf
  obtain ⟨oi, ci, rfl, _, _⟩ := hS
  dsimp only [Ac.v]
  go_enter Tryz.func4, Tryz.ntmps4
  go_upto_region 1 with fail
  generalize w.alloc (.cells #[.int .i64 a.kind, .int .i64 a.cu, .int .i64 a.cg, .int .i64 a.dir, .int .i64 a.no, .int .i64 a.n, .string ⟨a.name.toArray⟩, .string a.text, .int .i64 a.tgt, .string a.asn] 42) = W1 at *
  obtain ⟨b0, hb0⟩ : ∃ b, w.heap.size = b := ⟨_, rfl⟩
  rw [hb0] at D1 ⊢
  obtain ⟨c0, c1, c2, c3, c4, c5, c6, c7, c8, c9⟩ := D1.facts
  cases hf : few ls with
  | false =>
    rw [hf] at cF
    have cA := hP.awake W1
    clear cG
    go_wp2_with (first
      | (go_at_call 5; refine cF.mono ?_; rintro e w2 ⟨rfl, rfl⟩)
      | (go_at_call 7; refine cA.mono ?_; rintro e w3 ⟨rfl, hb3⟩))
    go_ret
    exact ⟨rfl, hb0 ▸ below_two hb1 hb3⟩
  | true =>
    rw [hf] at cF
    have cE := fewA_any (O1 W1)
    rw [hfewa] at cE
    have hal : Below W1.heap.size W1 (W1.alloc (.cells #[.int .i64 a.kind, .int .i64 a.cu, .int .i64 a.cg, .int .i64 a.dir, .int .i64 a.no, .int .i64 a.n, .string ⟨a.name.toArray⟩, .string a.text, .int .i64 a.tgt, .string a.asn] 42)) := (Below.refl _ _).alloc (Nat.le_refl _) _
    have hb2 := below_two hb1 hal
    cases hsa : shortA a with
    | false =>
      rw [hsa] at cE
      have cA := hP.awake (W1.alloc (.cells #[.int .i64 a.kind, .int .i64 a.cu, .int .i64 a.cg, .int .i64 a.dir, .int .i64 a.no, .int .i64 a.n, .string ⟨a.name.toArray⟩, .string a.text, .int .i64 a.tgt, .string a.asn] 42))
      clear cG
      go_wp2_with (first
        | (go_at_call 5; refine cF.mono ?_; rintro e w2 ⟨rfl, rfl⟩)
        | (go_at_call 6; refine cE.mono ?_; rintro e w2 ⟨rfl, rfl⟩)
        | (go_at_call 7; refine cA.mono ?_; rintro e w3 ⟨rfl, hb3⟩))
      go_ret
      exact ⟨rfl, hb0 ▸ below_two hb2 hb3⟩
    | true =>
      rw [hsa] at cE
      obtain ⟨hnm, htx⟩ := hsh hsa
      have D2 := D1.below hal
      have cG2 := cG _ hb2 hf
      clear cG
      have hfine := fine_grown (b := 300) (c := 60) hf
      generalize growAll (begin_ bare 1 300 60) ls = st at *
      obtain ⟨W2, hW2'⟩ : ∃ W, W1.alloc (.cells #[.int .i64 a.kind, .int .i64 a.cu, .int .i64 a.cg, .int .i64 a.dir, .int .i64 a.no, .int .i64 a.n, .string ⟨a.name.toArray⟩, .string a.text, .int .i64 a.tgt, .string a.asn] 42) = W := ⟨_, rfl⟩
      rw [hW2'] at cE D2 hb2 cG2 hal
      obtain ⟨B0, hB0⟩ : ∃ b, W2.heap.size = b := ⟨_, rfl⟩
      have hb0B : b0 < B0 := hB0 ▸ D2.lt
      rw [hB0] at cG2
      have HW2 := Lib.hid hW2'
      clear hW2'
      go_upto_region 3 with (first
        | (go_at_call 5; refine cF.mono ?_; rintro e w2 ⟨rfl, rfl⟩)
        | (go_at_call 6; rw [HW2.out]; refine cE.mono ?_; rintro e w2 ⟨rfl, rfl⟩))
      go_upto_region 5 with (first
        | (go_at_call 8; refine cG2.mono ?_; rintro e W3 ⟨X, A, M, F, rfl, ⟨mv, nv, dv, hW, hF⟩, hb3⟩))
      have D3 := D2.below (hB0 ▸ hb3)
      have hb3' := below_two hb2 (hB0 ▸ hb3)
      have hl1 := hfine.one
      have hl2 := hfine.last
      have hlen : st.n.length < 800000 := by have := hfine.inv.len; omega
      have hk : T.Wf (place (st.last + 1) a.dir) := by have := place_range (last := st.last + 1) (dir := a.dir) (by omega); exact T.wf_of (by omega) (by omega)
      obtain ⟨kd, hkd⟩ : ∃ k, place (st.last + 1) a.dir = k := ⟨_, rfl⟩
      have cN := fun W (h : Fs ex0 B0 F nv dv st W) => near_any h (by omega) (by omega) a.dir
      have cg := fun W (h : Fs ex0 B0 F nv dv st W) => refGet_any h kd (by omega)
      rw [hkd] at hk cN
      obtain ⟨nd, hnd⟩ : ∃ n, gets st.n kd = n := ⟨_, rfl⟩
      rw [hnd] at cg
      have P3 : Pair X A b0 3 a.dir W3 := ⟨hW.facts.1, D3.facts.2.2.2.1⟩
      have kp := P3.drew
      have hF3d := hF.drew
      have hF3a := (hF.alloc (.cells #[.int .i64 0, .int .i64 0, .int .i64 0, .int .i64 0, .int .i64 0, .int .i64 0, .int .i64 0, .int .i64 0, .int .i64 0, .int .i64 0, .string ⟨#[]⟩, .slice none 0 0] 48)).drew
      have hXl := hW.ltX
      have hgl : b0 < W3.heap.size := D3.lt
      have HNX := Lib.hid hk; have HKD := Lib.hid hkd; have HND := Lib.hid hnd; have HTH := Lib.hid (thr_born hfine (by decide) a)
      clear hk hkd hnd cE cF cG2 hal hb2 hb3 HW2 D2
      obtain ⟨dno, ddev, dkind, dmode, duid, dgid, dmt, dct, dlinks, dup, ddata, des⟩ := nd
      dsimp only [T.Nd.v] at cg
      go_cut [8, 9] (fun s8 s9 wx => ∃ Y oa c, s9 = .pointer (some ⟨Y, 0, none⟩) ∧ s8 = .int .i64 kd ∧ W3.heap.size ≤ Y ∧ T.BoxN Y ⟨dno, ddev, dkind, dmode, duid, dgid, dmt, dct, dlinks, dup, ddata, des⟩ (.slice oa des.length c) wx ∧ Below W3.heap.size W3 wx)
      case first =>
        go_region_held3 (fun w' => w'.cell? ⟨X, 0, none⟩ = some (.pointer (some ⟨A, 0, none⟩)) ∧ w'.cell? ⟨b0, 3, none⟩ = some (.int .i64 a.dir))
          (with_reducible first | exact Pair.all kq | exact Pair.all (Pair.alloc kq _) | exact Pair.all kp | exact Pair.all (Pair.drew (Pair.alloc P3 _)) | exact Pair.all (Pair.later kq (below_raw (Nat.le_refl _) _ _ _ _ _ _ _ _ _ _ _ _ _) hXl hgl))
          (first
            | (go_at_call 11; refine (cN _ hF3d).mono ?_; rintro e w4 ⟨rfl, rfl⟩)
            | (go_at_call 11; refine (cN _ hF3a).mono ?_; rintro e w4 ⟨rfl, rfl⟩)
            | (go_at_call 12; refine (cg _ hF3d).mono ?_; rintro e w7 ⟨u7, rfl, hO7, hb7⟩; obtain ⟨oa7, c7', rfl⟩ := T.own_slice hO7; have kq : Pair X A b0 3 a.dir w7 := (by with_reducible exact Pair.next kp hb7))
            | (go_at_call 12; refine (cg _ hF3a).mono ?_; rintro e w7 ⟨u7, rfl, hO7, hb7⟩; obtain ⟨oa7, c7', rfl⟩ := T.own_slice hO7; have kq : Pair X A b0 3 a.dir w7 := (by with_reducible exact Pair.next (Pair.drew (Pair.alloc P3 _)) hb7); have nb := node_box hb7; obtain ⟨a0, a1, a2, a3, a4, a5, a6, a7, a8, a9, a10, a11⟩ := nb.facts; obtain ⟨f0, f1, f2, f3, f4, f5, f6, f7, f8, f9, f10, f11⟩ := nb.open))
        all_goals
          go_wp2_with fail
          go_meet
          case rel =>
            first
            | (have hB7 : Below W3.heap.size W3 w7 := below_two ((Below.refl W3.heap.size W3).drew) hb7
               have hal : Below w7.heap.size w7 (w7.alloc (.cells #[.int .i64 dno, .int .i64 ddev, .int .i64 dkind, .int .i64 dmode, .int .i64 duid, .int .i64 dgid, .int .i64 dmt, .int .i64 dct, .int .i64 dlinks, .int .i64 dup, .string ddata, .slice oa7 des.length c7'] 48)) := (Below.refl _ _).alloc (Nat.le_refl _) _
               exact ⟨w7.heap.size, oa7, c7', rfl, rfl, hB7.size, T.BoxN.new ⟨dno, ddev, dkind, dmode, duid, dgid, dmt, dct, dlinks, dup, ddata, des⟩ (.slice oa7 des.length c7') w7, below_two hB7 hal⟩)
            | (have hB7 : Below W3.heap.size W3 w7 := ((Below.refl W3.heap.size W3).alloc (Nat.le_refl _) _).drew.trans (hb7.mono (by simp))
               have D := nb.fill ⟨dno, ddev, dkind, dmode, duid, dgid, dmt, dct, dlinks, dup, ddata, des⟩ (.slice oa7 des.length c7')
               exact ⟨W3.heap.size, oa7, c7', rfl, rfl, Nat.le_refl _, D, hB7.trans (T.below_fill (Nat.le_refl _) w7 ⟨dno, ddev, dkind, dmode, duid, dgid, dmt, dct, dlinks, dup, ddata, des⟩ (.slice oa7 des.length c7'))⟩)
      case rest =>
        obtain ⟨Y, oa8, c8', rfl, rfl, hY, D8, b8⟩ := hcut
        have D4 := D3.below b8
        have hW4 := hW.below b8
        have hF4 := hF.below b8
        have hb4 := below_two hb3' b8
        clear P3 kp hF3d hF3a hXl hgl cN cg hW hF D3 b8 hb3' hY
        generalize wc = W4 at *
        obtain ⟨c0, c1, c2, c3, c4, c5, c6, c7, c8, c9⟩ := D4.facts
        have x0 := hW4.facts.1
        have cdir := hP.acts (B := B0) (X := X) (A := A) (M := M) (mv := mv) (hfine.mono (by decide))
        have HT0 := Lib.hid (fun h => thr0 (st := st) (a := a) h HKD.out)
        have HT1 := Lib.hid (fun h => thr1 (st := st) (a := a) h HKD.out)
        have HT2 := Lib.hid (fun h h' => thr2 (st := st) (a := a) h h' HKD.out)
        have hB4 : B0 ≤ W4.heap.size := by have := hF4.bf; have := hF4.ltF; omega
        have HFI := Lib.hid hfine
        have HHS := Lib.hid hsh
        clear hfine hsh
        obtain ⟨kk, hkk⟩ : ∃ k, a.kind = k := ⟨_, rfl⟩
        rw [hkk] at c0
        have HKK := Lib.hid hkk
        clear hkk
        have hbw : w.heap.size ≤ B0 := by omega
        go_upto_block 0 with fail
        go_cut [10, 11] (fun s10 s11 wx => ∃ r : St × Int × Int, r = thrSt st a ∧ s10 = .int .i64 r.2.1 ∧ s11 = .int .i64 r.2.2 ∧ Wd B0 X A M mv r.1 wx ∧ Fs ex0 B0 F nv dv st wx ∧ BoxA b0 a wx ∧ T.BoxN Y ⟨dno, ddev, dkind, dmode, duid, dgid, dmt, dct, dlinks, dup, ddata, des⟩ (.slice oa8 des.length c8') wx ∧ Below w.heap.size w wx)
        case first =>
          by_cases k0 : kk = 0
          · subst k0
            have cd := cdir.dir W4 hW4 hB4 a.cu a.cg 9 kd a.name a.n HNX.out hnm
            rw [← HT0.out HKK.out] at cd
            go_wp2_with (go_at_call 13; refine cd.mono ?_; rintro e W5 ⟨rfl, hW5, ht5⟩)
            go_meet
            case rel => exact ⟨_, rfl, rfl, rfl, hW5, hF4.beside hW4 ht5, D4.turnW hW4 ht5, (ht5.block Y D8.lt (hW4.not D8 (by decide) (by decide) (by decide))).trans D8, hb4.trans ((hW4.ofTurn ht5 hB4).mono hbw)⟩
          · by_cases k1 : kk = 1
            · subst k1
              have cd := cdir.file W4 hW4 hB4 a.cu a.cg 9 kd a.name a.n a.text HNX.out hnm htx
              rw [← HT1.out HKK.out] at cd
              go_wp2_with (go_at_call 14; refine cd.mono ?_; rintro e W5 ⟨rfl, hW5, ht5⟩)
              go_meet
              case rel => exact ⟨_, rfl, rfl, rfl, hW5, hF4.beside hW4 ht5, D4.turnW hW4 ht5, (ht5.block Y D8.lt (hW4.not D8 (by decide) (by decide) (by decide))).trans D8, hb4.trans ((hW4.ofTurn ht5 hB4).mono hbw)⟩
            · have hk0 : a.kind ≠ 0 := by rw [HKK.out]; exact k0
              have hk1 : a.kind ≠ 1 := by rw [HKK.out]; exact k1
              have HK0 := Lib.hid hk0
              clear hk0
              have HK1 := Lib.hid hk1
              clear hk1
              have cd := cdir.sym W4 hW4 hB4 a.cu a.cg 9 kd a.name a.text HNX.out hnm htx
              rw [← HT2.out HK0.out HK1.out] at cd
              go_wp2_with (go_at_call 15; refine cd.mono ?_; rintro e W5 ⟨rfl, hW5, ht5⟩)
              go_meet
              case rel => exact ⟨_, rfl, rfl, rfl, hW5, hF4.beside hW4 ht5, D4.turnW hW4 ht5, (ht5.block Y D8.lt (hW4.not D8 (by decide) (by decide) (by decide))).trans D8, hb4.trans ((hW4.ofTurn ht5 hB4).mono hbw)⟩
        case rest =>
          obtain ⟨⟨s5, no5, e5⟩, hr, rfl, rfl, hW5, hF5, D5, N5, hb5⟩ := hcut
          have hth := HTH.out
          rw [HKD.out, ← hr] at hth
          clear hr HTH HT0 HT1 HT2 D4 D8 hW4 hF4 x0 hb4 cdir hB4 c0 c1 c2 c3 c4 c5 c6 c7 c8 c9
          generalize wc = W5 at *
          dsimp only at *
          obtain ⟨c0, c1, c2, c3, c4, c5, c6, c7, c8, c9⟩ := D5.facts
          obtain ⟨g0, g1, g2, g3, g4, g5, g6, g7, g8, g9, g10, g11⟩ := N5.facts
          dsimp only at g0 g1 g2 g3 g4 g5 g6 g7 g8 g9 g10 g11
          rcases hth with ⟨rfl, hbn⟩ | ⟨he, rfl, rfl⟩
          · obtain ⟨q1, q2, q3, q4, q5, q6, q7, q8, q9, q10⟩ := hbn
            have cg1 := Get_st hW5 no5 q10
            have cg2 := fun W (hb : Below W5.heap.size W5 W) => Get_st (hW5.below hb) kd HNX.out
            have cw := fun W => hP.awake W
            rw [HND.out] at q4 q8
            generalize gets s5.n no5 = n5 at *
            generalize gets s5.n kd = d5 at *
            obtain ⟨nno, ndev, nkind, nmode, nuid, ngid, nmt, nct, nlinks, nup, ndata, nes⟩ := n5
            obtain ⟨pno, pdev, pkind, pmode, puid, pgid, pmt, pct, plinks, pup, pdata, pes⟩ := d5
            dsimp only at q2 q3 q4 q5 q6 q7 q8 q9
            subst q2 q3 q4 q5 q6 q9
            dsimp only [T.Nd.v] at cg1 cg2
            have x0 := hW5.facts.1
            have HQ1 := Lib.hid q1; have HQ7 := Lib.hid q7; have HQ8 := Lib.hid q8
            clear q1 q7 q8
            go_upto_region 17 with (go_at_call 16; refine cg1.mono ?_; rintro e W6 ⟨u6, rfl, hO6, hb6⟩; obtain ⟨o6, c6', rfl⟩ := T.own_slice hO6)
            have hal6 : Below W6.heap.size W6 (W6.alloc (.cells #[.int .i64 nno, .int .i64 ndev, .int .i64 nkind, .int .i64 nmode, .int .i64 a.cu, .int .i64 a.cg, .int .i64 9, .int .i64 nct, .int .i64 1, .int .i64 nup, .string ndata, .slice o6 nes.length c6'] 48)) := (Below.refl _ _).alloc (Nat.le_refl _) _
            have hb56 := below_two hb6 hal6
            have cg3 := cg2 _ hb56
            have M6 : T.BoxN W6.heap.size ⟨nno, ndev, nkind, nmode, a.cu, a.cg, 9, nct, 1, nup, ndata, nes⟩ (.slice o6 nes.length c6') (W6.alloc (.cells #[.int .i64 nno, .int .i64 ndev, .int .i64 nkind, .int .i64 nmode, .int .i64 a.cu, .int .i64 a.cg, .int .i64 9, .int .i64 nct, .int .i64 1, .int .i64 nup, .string ndata, .slice o6 nes.length c6'] 48)) := T.BoxN.new _ _ W6
            have x7 := (hW5.below hb56).facts.1
            generalize W6.heap.size = y6 at *
            generalize W6.alloc (.cells #[.int .i64 nno, .int .i64 ndev, .int .i64 nkind, .int .i64 nmode, .int .i64 a.cu, .int .i64 a.cg, .int .i64 9, .int .i64 nct, .int .i64 1, .int .i64 nup, .string ndata, .slice o6 nes.length c6'] 48) = W7 at *
            clear cg1 cg2 x0 hO6 hb6 hal6 c0 c1 c2 c3 c4 c5 c6 c7 c8 c9 g0 g1 g2 g3 g4 g5 g6 g7 g8 g9 g10 g11
            go_upto_region 18 with (go_at_call 16; refine cg3.mono ?_; rintro e W8 ⟨u8, rfl, hO8, hb8⟩; obtain ⟨o8, c8'', rfl⟩ := T.own_slice hO8)
            have hal8 : Below W8.heap.size W8 (W8.alloc (.cells #[.int .i64 pno, .int .i64 pdev, .int .i64 pkind, .int .i64 pmode, .int .i64 puid, .int .i64 pgid, .int .i64 9, .int .i64 pct, .int .i64 plinks, .int .i64 pup, .string pdata, .slice o8 pes.length c8''] 48)) := (Below.refl _ _).alloc (Nat.le_refl _) _
            have M8 : T.BoxN W8.heap.size ⟨pno, pdev, pkind, pmode, puid, pgid, 9, pct, plinks, pup, pdata, pes⟩ (.slice o8 pes.length c8'') (W8.alloc (.cells #[.int .i64 pno, .int .i64 pdev, .int .i64 pkind, .int .i64 pmode, .int .i64 puid, .int .i64 pgid, .int .i64 9, .int .i64 pct, .int .i64 plinks, .int .i64 pup, .string pdata, .slice o8 pes.length c8''] 48)) := T.BoxN.new _ _ W8
            have hb78 := below_two hb8 hal8
            have hO9 := hO8.below hal8
            generalize W8.heap.size = y8 at *
            generalize W8.alloc (.cells #[.int .i64 pno, .int .i64 pdev, .int .i64 pkind, .int .i64 pmode, .int .i64 puid, .int .i64 pgid, .int .i64 9, .int .i64 pct, .int .i64 plinks, .int .i64 pup, .string pdata, .slice o8 pes.length c8''] 48) = W9 at *
            have hb59 := below_two hb56 hb78
            have M6' := M6.below hb78
            have N9 := N5.below hb59
            have D9 := D5.below hb59
            have hW9 := hW5.below hb59
            have hF9 := hF5.below hb59
            have hbw9 := below_two hb5 hb59
            obtain ⟨of, cf, hnv⟩ := nlen_of hF9
            subst hnv
            have hdes : des.length ≤ 100 := by
              have h1 : (gets st.n kd).es.length ≤ 100 := by
                cases e : G.get st.n kd with
                | none => rw [gets_none e]; decide
                | some z => rw [gets_some e]; have := HFI.out.ents z (get_some e).1; omega
              rw [HND.out] at h1; exact h1
            have T0 := (Below.refl W9.heap.size W9).drew
            have SS : ∀ w2, Below W9.heap.size W9 w2 → w2.cell? ⟨X, 0, none⟩ = some (.pointer (some ⟨A, 0, none⟩)) ∧ w2.cell? ⟨F, 0, none⟩ = some (.slice of st.n.length cf) ∧ w2.cell? ⟨y6, 4, none⟩ = some (.int .i64 a.cu) ∧ w2.cell? ⟨y6, 5, none⟩ = some (.int .i64 a.cg) ∧ w2.cell? ⟨y6, 1, none⟩ = some (.int .i64 ndev) ∧ w2.cell? ⟨y6, 8, none⟩ = some (.int .i64 1) ∧ w2.cell? ⟨y6, 6, none⟩ = some (.int .i64 9) ∧ w2.cell? ⟨b0, 1, none⟩ = some (.int .i64 a.cu) ∧ w2.cell? ⟨b0, 2, none⟩ = some (.int .i64 a.cg) ∧ w2.cell? ⟨b0, 6, none⟩ = some (.string ⟨a.name.toArray⟩) ∧ w2.cell? ⟨Y, 1, none⟩ = some (.int .i64 ndev) ∧ w2.cell? ⟨Y, 11, none⟩ = some (.slice oa8 des.length c8') ∧ w2.cell? ⟨y8, 11, none⟩ = some (.slice o8 pes.length c8'') ∧ w2.cell? ⟨y8, 6, none⟩ = some (.int .i64 9) := fun w2 hb => by
              obtain ⟨_, d1, d2, _, _, _, d6, _, _, _⟩ := (D9.below hb).facts
              obtain ⟨_, n1, _, _, _, _, _, _, _, _, _, n11⟩ := (N9.below hb).facts
              obtain ⟨_, m1, _, _, m4, m5, m6, _, m8, _, _, _⟩ := (M6'.below hb).facts
              obtain ⟨_, _, _, _, _, _, p6, _, _, _, _, p11⟩ := (M8.below hb).facts
              exact ⟨(hW9.below hb).facts.1, (hF9.below hb).facts.1, m4, m5, m1, m8, m6, d1, d2, d6, n1, n11, p11, p6⟩
            have cl := Len_st (hW9.below T0)
            have cfd := E.refFind_any (hO9.below T0).sees a.name (by have := HQ8.out; omega)
            have cw9 := cw W9.drew
            rw [HQ7.out] at cfd
            rw [HQ1.out] at cl
            have hlw : IntKind.i64.wrap ((st.n.length : Int) + 1) = (st.n.length : Int) + 1 := by have := HFI.out.inv.len; have := HFI.out.last; exact wrap_id (by omega) (by omega)
            have hew : IntKind.i64.wrap ((des.length : Int) + 1) = (des.length : Int) + 1 := wrap_id (by omega) (by omega)
            have hcast : ((st.n.length + 1 : Nat) : Int) = (st.n.length : Int) + 1 := by omega
            rw [hcast] at cl
            have hq8 : (pes.length : Int) = (des.length : Int) + 1 := by have := HQ8.out; omega
            clear hcast hdes HQ8 HQ1 HQ7 hb59 hb78 hb56 hO8 hO9 hb8 hal8 M6 M8 M6' N9 D9 hW9 hF9 hF5 hW5 N5 D5 hb5 x7 cg3 cw
            as_aux_lemma =>
              try dsimp only [List.append]
              go_region_held3 (fun w' => w'.cell? ⟨X, 0, none⟩ = some (.pointer (some ⟨A, 0, none⟩)) ∧ w'.cell? ⟨F, 0, none⟩ = some (.slice of st.n.length cf) ∧ w'.cell? ⟨y6, 4, none⟩ = some (.int .i64 a.cu) ∧ w'.cell? ⟨y6, 5, none⟩ = some (.int .i64 a.cg) ∧ w'.cell? ⟨y6, 1, none⟩ = some (.int .i64 ndev) ∧ w'.cell? ⟨y6, 8, none⟩ = some (.int .i64 1) ∧ w'.cell? ⟨y6, 6, none⟩ = some (.int .i64 9) ∧ w'.cell? ⟨b0, 1, none⟩ = some (.int .i64 a.cu) ∧ w'.cell? ⟨b0, 2, none⟩ = some (.int .i64 a.cg) ∧ w'.cell? ⟨b0, 6, none⟩ = some (.string ⟨a.name.toArray⟩) ∧ w'.cell? ⟨Y, 1, none⟩ = some (.int .i64 ndev) ∧ w'.cell? ⟨Y, 11, none⟩ = some (.slice oa8 des.length c8') ∧ w'.cell? ⟨y8, 11, none⟩ = some (.slice o8 pes.length c8'') ∧ w'.cell? ⟨y8, 6, none⟩ = some (.int .i64 9))
                (with_reducible first | exact SS _ T1 | exact SS _ T0)
                (first
                  | (go_at_call 17; refine cl.mono ?_; rintro e w4 ⟨rfl, rfl⟩)
                  | (go_at_call 18; refine cfd.mono ?_; rintro e w4 ⟨rfl, rfl⟩)
                  | (go_at_call 7; refine cw9.mono ?_; rintro e W10 ⟨rfl, hb10⟩; have T1 := below_two T0 hb10))
              go_wp2
              go_ret
              exact ⟨rfl, hb0 ▸ below_two hbw9 T1⟩
          · have cS := hP.same (HFI.out.mono (by decide)) hW5 hF5
            have cw := fun W => hP.awake W
            have HE := Lib.hid he
            have hE : (e5 == 0) = false := by simpa using he
            clear he
            have hE2 : (e5 != 0) = true := by simpa using HE.out
            go_wp2_with (first
              | (go_at_call 10; refine cS.mono ?_; rintro e W6 ⟨rfl, hb6⟩; have cw6 := cw W6)
              | (go_at_call 7; refine cw6.mono ?_; rintro e W7 ⟨rfl, hb7⟩))
            go_ret
            exact ⟨rfl, hb0 ▸ below_two (below_two hb5 hb6) hb7⟩
end Go.Proofs.YtenopnfclbegbaaGreat.BR
