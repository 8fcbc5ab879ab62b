/-
  seek.Path.
-/
import Derived.Test.YtlceaecibjbeaaaGreatKmid
import Derived.Deep.LoopGhost
import Derived.WalkMore
namespace Go.Proofs.YtlceaecibjbeaaaGreat.K
open Go.RowKit Go.Shelf G
attribute [local go_sem] Oper.semAt_some

theorem mes_jump {hops a b c gk : Nat} (h : hops < 8) (hm : (8 - hops) * 100000 + b < gk) (hc : c ≤ a + 1 + b) (ha : a ≤ 2000) : (8 - (hops + 1)) * 100000 + c < gk := by
  obtain ⟨m, hm2⟩ : ∃ m, 8 - hops = m + 1 := ⟨8 - (hops + 1), by omega⟩
  have h3 : 8 - (hops + 1) = m := by omega
  rw [hm2, Nat.add_mul, Nat.one_mul] at hm
  rw [h3]
  generalize m * 100000 = x at *
  omega
theorem path_head {l : List UInt8} (h : V.M.path l = 0) : l.head? = some 47 := by
  unfold V.M.path at h
  split at h
  · cases h
  · split at h
    · cases h
    · rename_i h1
      exact Decidable.byContradiction fun e => h1 (.inl e)
theorem run_refused {st : St} {cu cg : Int} {follow : Bool} {here : Int} {p : List UInt8} {r : List (List UInt8)} {must : Bool} {hops : Nat} {n : T.Nd} (hn : gets st.n here = n) (h : refusedE cu cg (n.as here) p ≠ 0) :
    run st cu cg follow here (p :: r) must hops = (noFd, refusedE cu cg (n.as here) p) := by
  subst hn
  by_cases h1 : kind st here = 1
  · by_cases h2 : may cu cg st here = true
    · by_cases h3 : 255 < p.length
      · rw [run_long h1 h2 h3]
        unfold refusedE
        rw [if_neg (show ¬ ((gets st.n here).as here).kind ≠ 1 from fun e => e h1), if_neg (show ¬ PM.may cu cg ((gets st.n here).as here).uid ((gets st.n here).as here).gid ((gets st.n here).as here).mode 1 = false from fun e => by rw [show PM.may cu cg ((gets st.n here).as here).uid ((gets st.n here).as here).gid ((gets st.n here).as here).mode 1 = true from h2] at e; cases e), if_pos h3]
      · refine absurd ?_ h
        unfold refusedE
        rw [if_neg (show ¬ ((gets st.n here).as here).kind ≠ 1 from fun e => e h1), if_neg (show ¬ PM.may cu cg ((gets st.n here).as here).uid ((gets st.n here).as here).gid ((gets st.n here).as here).mode 1 = false from fun e => by rw [show PM.may cu cg ((gets st.n here).as here).uid ((gets st.n here).as here).gid ((gets st.n here).as here).mode 1 = true from h2] at e; cases e), if_neg h3]
    · have h2' : may cu cg st here = false := by simpa using h2
      rw [run_access h1 h2']
      unfold refusedE
      rw [if_neg (show ¬ ((gets st.n here).as here).kind ≠ 1 from fun e => e h1), if_pos (show PM.may cu cg ((gets st.n here).as here).uid ((gets st.n here).as here).gid ((gets st.n here).as here).mode 1 = false from h2')]
  · rw [run_notdir h1]
    unfold refusedE
    rw [if_pos (show ((gets st.n here).as here).kind ≠ 1 from h1)]
theorem refused_ok {st : St} {cu cg : Int} {here : Int} {p : List UInt8} {n : T.Nd} (hn : gets st.n here = n) (h : refusedE cu cg (n.as here) p = 0) : kind st here = 1 ∧ may cu cg st here = true ∧ ¬ 255 < p.length := by
  subst hn
  unfold refusedE at h
  split at h
  · cases h
  · rename_i h1
    split at h
    · cases h
    · rename_i h2
      split at h
      · cases h
      · rename_i h3
        refine ⟨Decidable.byContradiction h1, ?_, h3⟩
        cases e : may cu cg st here with
        | true => rfl
        | false => exact absurd e h2
theorem run_stuck {st : St} {cu cg : Int} {follow : Bool} {here : Int} {p : List UInt8} {r : List (List UInt8)} {must : Bool} {hops : Nat} (h : kind st here = 1) (h1 : may cu cg st here = true) (h2 : p ≠ [46, 46]) (h3 : ¬ 255 < p.length)
    (h4 : ¬ (kind st (hit st here p) = 3 ∧ goes follow must r = true)) (h5 : stuckE (hit st here p) (kind st (hit st here p)) r must ≠ 0) :
    run st cu cg follow here (p :: r) must hops = (noFd, stuckE (hit st here p) (kind st (hit st here p)) r must) := by
  unfold stuckE at h5 ⊢
  by_cases ha : hit st here p = 0 ∧ r.isEmpty = false
  · rw [if_pos ha, run_none h h1 h2 h3 h4 ha.1 ha.2]
  · rw [if_neg ha] at h5 ⊢
    by_cases hb : hit st here p ≠ 0 ∧ kind st (hit st here p) ≠ 1 ∧ (r.isEmpty = false ∨ must = true)
    · rw [if_pos hb, run_file h h1 h2 h3 h4 hb.1 hb.2.1 hb.2.2]
    · rw [if_neg hb] at h5
      exact absurd rfl h5
theorem stuck_ok {st : St} {here : Int} {p : List UInt8} {r : List (List UInt8)} {must : Bool} (h5 : stuckE (hit st here p) (kind st (hit st here p)) r must = 0) :
    ¬ (hit st here p = 0 ∧ r.isEmpty = false) ∧ ¬ (hit st here p ≠ 0 ∧ kind st (hit st here p) ≠ 1 ∧ (r.isEmpty = false ∨ must = true)) := by
  unfold stuckE at h5
  split at h5
  · cases h5
  · rename_i h6
    split at h5
    · cases h5
    · rename_i h7
      exact ⟨h6, h7⟩
theorem begin_at {B b X : Nat} {st : St} {w : World} (hI : Inv st) (H : WkBox b X T.Nd.zero (.slice none 0 0) (.slice none 0 0) 0 false w) : At B b X st 0 [] false 0 w := by
  have hz : gets st.n 0 = T.Nd.zero := gets_none (hI.not_zero (Int.le_refl _))
  refine ⟨.slice none 0 0, .slice none 0 0, ?_, ?_, Strs.nil w⟩
  · rw [hz]; exact H
  · rw [hz]; exact World.ownsRow_nil _ _ _ _
set_option maxRecDepth 100000 in
set_option maxHeartbeats 40000000 in
theorem Path_yes {BB X A M : Nat} {mv : Value} {st : St} {w : World} (hlast : st.last < 1000000) (hI : Inv st) (hT : Tree st) (hR : Ranged st) (hW : Wd BB X A M mv st w) (cu cg : Int) (s : ByteArray) (hs : s.size ≤ 5000) (follow : Bool) (h0 : V.M.path s.data.toList = 0) {R : Fd × Int}
    (hrun : run st cu cg follow 1 (V.M.parts s.data.toList) (V.M.slash s.data.toList) 0 = R) :
    Calls Tryz.prog 9 #[.pointer (some ⟨X, 0, none⟩), .agg #[.int .i64 cu, .int .i64 cg], .string s, .bool follow] w fun e w' => e = .returned (.tuple #[R.1.v, .int .i64 R.2]) ∧ Below w.heap.size w w' := by
  have cp := fun W => V.path_any s W
  rw [h0] at cp
  have hroot : rootOf st.d 1 = 1 := by
    obtain ⟨q, hq⟩ := hI.top
    unfold rootOf
    rw [show mt st.d 1 = some ⟨1, 1, q⟩ from mt_at (k := 0) hq]
  have hpl : (V.M.parts s.data.toList).length ≤ 5001 := by
    have := V.M.parts_len s.data.toList
    rw [← Lib.size_eq] at this; omega
  have hfr : from_ s.data.toList 0 = 1 := by unfold from_; rw [if_pos (path_head h0)]
  have hms : must_ false [] s.data.toList = V.M.slash s.data.toList := by unfold must_; simp
  have W1 : ∀ o o' : Obj, Below w.heap.size w ((w.alloc o).alloc o') := fun o o' => ((Below.refl _ _).alloc (Nat.le_refl _) _).alloc (by simp) _
  have hK := WkBox.new X T.Nd.zero (.slice none 0 0) (.slice none 0 0) 0 false ((w.alloc (.cells #[.int .i64 cu, .int .i64 cg] 24)).alloc (.cells #[.int .i64 0, .string ⟨#[]⟩, .int .i64 0, .bool false] 33))
  have hD : FdBox (w.heap.size + 1) noFd ((w.alloc (.cells #[.int .i64 cu, .int .i64 cg] 24)).alloc (.cells #[.int .i64 0, .string ⟨#[]⟩, .int .i64 0, .bool false] 33)) := by
    have := heap_alloc_new (w.alloc (.cells #[.int .i64 cu, .int .i64 cg] 24)) (.cells #[.int .i64 0, .string ⟨#[]⟩, .int .i64 0, .bool false] 33)
    rw [World.size_alloc] at this
    exact this
  have hC : CrBox w.heap.size cu cg (w.alloc (.cells #[.int .i64 cu, .int .i64 cg] 24)) := heap_alloc_new w _
  rw [World.size_alloc, World.size_alloc] at hK
  have hM : Mid w BB X A M mv st w.heap.size (w.heap.size + 1) (w.heap.size + 1 + 1) cu cg 0 [] false 0 (((w.alloc (.cells #[.int .i64 cu, .int .i64 cg] 24)).alloc (.cells #[.int .i64 0, .string ⟨#[]⟩, .int .i64 0, .bool false] 33)).alloc (.cells #[.pointer (some ⟨X, 0, none⟩), .int .i64 T.Nd.zero.no, .int .i64 T.Nd.zero.dev, .int .i64 T.Nd.zero.kind, .int .i64 T.Nd.zero.mode, .int .i64 T.Nd.zero.uid, .int .i64 T.Nd.zero.gid, .int .i64 T.Nd.zero.mt, .int .i64 T.Nd.zero.ct, .int .i64 T.Nd.zero.links, .int .i64 T.Nd.zero.up, .string T.Nd.zero.data, .slice none 0 0, .slice none 0 0, .int .i64 0, .bool false] 69)) :=
    ⟨begin_at hI hK, ((hW.alloc _).alloc _).alloc _, (((Below.refl _ _).alloc (Nat.le_refl _) _).block _ hD.lt).trans hD, (((Below.refl _ _).alloc (Nat.le_refl _) _).block _ (by rw [World.size_alloc]; exact Nat.lt_succ_of_lt hC.lt)).trans ((((Below.refl _ _).alloc (Nat.le_refl _) _).block _ hC.lt).trans hC), (W1 _ _).alloc (by simp; omega) _, by omega, by omega⟩
  dsimp only [T.Nd.zero] at hM
  have cl := lead_any hM.wd hroot s hs (by show 0 ≤ _; omega) hM.low.size hM.at_
  rw [hfr, hms, List.append_nil] at cl
  have HM := Lib.hid hM; have HI := Lib.hid hI; have HTr := Lib.hid hT; have HRg := Lib.hid hR; have HRT := Lib.hid hroot
  clear hM hI hT hR hroot hK hD hC W1 hW hfr hms
  go_enter Tryz.func9, Tryz.ntmps9
  go_upto_region 1 with fail
  go_step3
  go_upto_region 8 with (first
    | (go_at_call 20; refine (cp _).mono ?_; rintro e w1 ⟨rfl, rfl⟩)
    | (go_at_call 21; refine cl.mono ?_; rintro e W4 ⟨rfl, hA4, ht4⟩))
  have hM4 := HM.out.turn ht4 hA4
  clear HM hA4 ht4 cp cl
  generalize w.heap.size + 1 + 1 = b at *
  generalize w.heap.size + 1 = D at *
  go_step3
  go_wp2
  go_loopg [12] 900000 (fun k _ wr => ∃ (here : Int) (rest : List (List UInt8)) (must : Bool) (hops : Nat), Mid w BB X A M mv st w.heap.size D b cu cg here rest must hops wr ∧ Hid (run st cu cg follow here rest must hops = R) ∧ hops ≤ 8 ∧ rest.length ≤ 5001 * (hops + 1) ∧ (8 - hops) * 100000 + rest.length ≤ k ∧ (-9223372036854775808 ≤ here ∧ here ≤ 9223372036854775807))
  case atStart => exact ⟨1, _, _, 0, hM4, Lib.hid hrun, by omega, by omega, by omega, by omega, by omega⟩
  case round =>
    obtain ⟨here, rest, must, hops, hm, HRUN, h8, hlen, hmes, hh1, hh2⟩ := hrel
    clear hM4 hrun hpl
    cases rest with
    | nil =>
      have hres := HRUN.out
      rw [run_end] at hres
      have HRES := Lib.hid hres.symm
      obtain ⟨es, rv, H, _, hS⟩ := hm.at_
      obtain ⟨oa, cap, rfl, _⟩ := hS.slice
      obtain ⟨_, c1, _, _, _, _, _, _, _, _, _, _, _, c13, _, _⟩ := H.facts
      dsimp only [T.Nd.as] at c1
      obtain ⟨d0, d1, d2, d3⟩ := hm.found.facts
      obtain ⟨e0, e1, e2, e3⟩ := hm.found.open
      have HMM := Lib.hid hm
      clear hm HRUN hres H hS
      go_wp2
      have F9 := HMM.out.found.fill ⟨0, [], here, true⟩
      have hb9 := HMM.out.low.trans (below_fillF HMM.out.hD wr ⟨0, [], here, true⟩)
      unfold fillF at F9 hb9
      dsimp only [noFd] at F9 hb9
      generalize World.setCell _ _ _ = W9 at F9 hb9 ⊢
      obtain ⟨q0, q1, q2, q3⟩ := F9.facts
      dsimp only at q0 q1 q2 q3
      rw [Exit.noGoto_ret]
      refine bodyPost_ret (by simp [results, Tryz.results9, go_sem, q0, q1, q2, q3]; rfl) rfl ?_
      exact ⟨by rw [HRES.out]; rfl, hb9⟩
    | cons p r =>
      have ct := take_any hm.at_
      obtain ⟨es0, rv0, H0, _, hS0⟩ := hm.at_
      obtain ⟨oa0, cap0, rfl, _⟩ := hS0.slice
      have x13 : wr.cell? ⟨b, 13, none⟩ = some (.slice oa0 (p :: r).length cap0) := H0.facts.2.2.2.2.2.2.2.2.2.2.2.2.2.1
      rw [List.length_cons] at x13
      have hpos : (0 : Int) < (r.length : Int) + 1 := by omega
      clear H0 hS0
      go_upto_region 10 with (go_at_call 22; refine ct.mono ?_; rintro e W5 ⟨rfl, hA5, ht5⟩)
      have hm5 := hm.turn ht5 hA5
      clear ct hm hA5 ht5 x13 hpos
      obtain ⟨nd, hnd⟩ : ∃ nd, gets st.n here = nd := ⟨_, rfl⟩
      have hlr : r.length ≤ 5001 * (hops + 1) := by simp only [List.length_cons] at hlen; omega
      have hmr : (8 - hops) * 100000 + r.length < gk := by simp only [List.length_cons] at hmes; omega
      clear hlen hmes
      obtain ⟨es, rv, H, hO, hS⟩ := hm5.at_
      obtain ⟨oa, cap, rfl, _⟩ := hS.slice
      rw [hnd] at H hO
      obtain ⟨no0, dev, kd, mode, uid, gid, mtm, ctm, links, up, data, ents⟩ := nd
      obtain ⟨oe, ce, rfl⟩ := T.own_slice hO
      obtain ⟨c0, c1, c2, c3, c4, c5, c6, c7, c8, c9, c10, c11, c12, c13, c14, c15⟩ := H.facts
      dsimp only [T.Nd.as] at c0 c1 c2 c3 c4 c5 c6 c7 c8 c9 c10 c11 c12 c13 c14 c15
      obtain ⟨k0, k1⟩ := hm5.cred.facts
      have cr := fun W => refused_any cu cg (⟨here, dev, kd, mode, uid, gid, mtm, ctm, links, up, data, ents⟩ : T.Nd) (s := .slice oe ents.length ce) ⟨oe, ents.length, ce, rfl⟩ p W
      dsimp only [T.Nd.v] at cr
      have hz1 := fun h => run_refused (follow := follow) (r := r) (must := must) (hops := hops) (p := p) (cu := cu) (cg := cg) hnd h
      have hz2 := fun h => refused_ok (p := p) (cu := cu) (cg := cg) hnd h
      dsimp only [T.Nd.as] at hz1 hz2
      generalize refusedE cu cg ⟨here, dev, kd, mode, uid, gid, mtm, ctm, links, up, data, ents⟩ p = z at cr hz1 hz2
      have HZ1 := Lib.hid hz1; have HZ2 := Lib.hid hz2; have HO := Lib.hid hO; have HND := Lib.hid hnd; have HM5 := Lib.hid hm5
      clear hz1 hz2 hO hS H hnd hm5
      go_upto_region 11 with (go_at_call 23; refine (cr _).mono ?_; rintro e W6 ⟨rfl, hb6⟩)
      have hm6 := HM5.out.below hb6
      clear c0 c1 c2 c3 c4 c5 c6 c7 c8 c9 c10 c11 c12 c13 c14 c15 k0 k1 cr
      by_cases hz : z = 0
      · subst hz
        obtain ⟨hk1, hk2, hk3⟩ := HZ2.out rfl
        have HK1 := Lib.hid hk1; have HK2 := Lib.hid hk2; have HK3 := Lib.hid hk3
        clear hk1 hk2 hk3
        obtain ⟨es6, rv6, H6, hO6, hS6⟩ := hm6.at_
        obtain ⟨oa6, cap6, rfl, _⟩ := hS6.slice
        rw [HND.out] at H6 hO6
        obtain ⟨oe6, ce6, rfl⟩ := T.own_slice hO6
        have c1 := H6.facts.2.1
        dsimp only [T.Nd.as] at c1
        by_cases hp : p = [46, 46]
        · subst hp
          have hrun := HRUN.out
          rw [run_up HK1.out HK2.out rfl] at hrun
          have HR2 := Lib.hid hrun
          have ca := Above_any hm6.wd here (T.wf_of hh1 hh2) (T.wf_of (HRg.out.under ⟨hh1, hh2⟩).1 (HRg.out.under ⟨hh1, hh2⟩).2)
          have hab := HRg.out.above here
          have ce := fun W (hb : Below W6.heap.size W6 W) => enter_any (hm6.below hb).wd (above st here) (T.wf_of hab.1 hab.2) (hm6.below hb).low.size (hm6.below hb).at_
          have HM6 := Lib.hid hm6; have HAB := Lib.hid hab
          clear hm6 hO6 H6 hS6 HM5 HO HND hrun HRUN hab
          generalize above st here = here2 at *
          go_wp2_with (first
            | (go_at_call 25; refine ca.mono ?_; rintro e W7 ⟨rfl, hb7⟩; have ce7 := ce W7 hb7)
            | (go_at_call 24; refine ce7.mono ?_; rintro e W8 ⟨rfl, hA8, ht8⟩))
          go_roundg ((8 - hops) * 100000 + r.length)
          case measure => exact hmr
          case rel => exact ⟨here2, r, must, hops, (HM6.out.below hb7).turn ht8 hA8, HR2, h8, hlr, Nat.le_refl _, HAB.out.1, HAB.out.2⟩
        · have hp' : (p == [46, 46]) = false := by simpa using hp
          have HP := Lib.hid hp
          have c12 := H6.facts.2.2.2.2.2.2.2.2.2.2.2.2.1
          dsimp only at c12
          have x0 := hm6.wd.facts.1
          obtain ⟨no, hno⟩ : ∃ k, hit st here p = k := ⟨_, rfl⟩
          have hrg := hit_range HI.out HTr.out here p
          rw [hno] at hrg
          have cf := E.find_any (w := W6) (E.Own.sees hO6) p (by have := gets_up HTr.out here; rw [HND.out] at this; exact this) (by have := gets_few HI.out here; rw [HND.out] at this; exact this)
          rw [noOf_numOf] at cf
          have co := fun W (hb : Below W6.heap.size W6 W) => Over_any (hm6.below hb).wd (E.numOf ents p)
          rw [show over st.d (E.numOf ents p) = no by rw [← hno]; unfold hit; rw [HND.out]] at co
          have cg2 := fun W (hb : Below W6.heap.size W6 W) => Get_st (hm6.below hb).wd no (T.wf_of (by omega) (by omega))
          have hth := hit_there HI.out HTr.out here p
          rw [hno] at hth
          have HTH := Lib.hid hth; have HNO := Lib.hid hno; have HM6 := Lib.hid hm6
          have hsh := gets_short HTr.out no
          clear hp hm6 hO6 H6 hS6 HM5 HO HND hno hth c1
          generalize E.numOf ents p = fno at *
          obtain ⟨nd2, hnd2⟩ : ∃ nd, gets st.n no = nd := ⟨_, rfl⟩
          rw [hnd2] at cg2 hsh
          have hk2 : kind st no = nd2.kind := by unfold kind; rw [hnd2]
          have htx : text st no = nd2.data.data.toList := by unfold text; rw [hnd2]
          obtain ⟨no2, dev2, kd2, mode2, uid2, gid2, mt2, ct2, links2, up2, data2, es2⟩ := nd2
          dsimp only at cg2 hsh hk2 htx
          have HND2 := Lib.hid hnd2; have HKD := Lib.hid hk2; have HTX := Lib.hid htx
          clear hnd2 hk2 htx
          generalize (get st.n no).isSome = bb2 at cg2
          dsimp only [T.Nd.v] at cg2
          go_upto_region 16 with (first
            | (go_at_call 26; refine cf.mono ?_; rintro e W7 ⟨rfl, hb7⟩; have co7 := co W7 hb7)
            | (go_at_call 13; refine co7.mono ?_; rintro e W8 ⟨rfl, hb8⟩))
          have hb68 := below_two hb7 hb8
          have cg8 := cg2 W8 hb68
          have y0 := (HM6.out.below hb68).wd.facts.1
          clear cf co cg2 co7 x0 c12
          go_upto_region 17 with (go_at_call 14; refine cg8.mono ?_; rintro e W9 ⟨u, rfl, hO9, hb9⟩; obtain ⟨ou, cu2, rfl⟩ := T.own_slice hO9; have N9 := T.BoxN.new ⟨no2, dev2, kd2, mode2, uid2, gid2, mt2, ct2, links2, up2, data2, es2⟩ (.slice ou es2.length cu2) W9)
          have hal : Below W9.heap.size W9 (W9.alloc (.cells #[.int .i64 no2, .int .i64 dev2, .int .i64 kd2, .int .i64 mode2, .int .i64 uid2, .int .i64 gid2, .int .i64 mt2, .int .i64 ct2, .int .i64 links2, .int .i64 up2, .string data2, .slice ou es2.length cu2] 51)) := (Below.refl _ _).alloc (Nat.le_refl _) _
          have hO10 := T.own_kept (hO9.mono (Nat.le_trans HM6.out.low.size hb68.size)) (T.EntKept.below hal)
          have hm10 := (HM6.out.below (below_two hb68 hb9)).below hal
          generalize W9.alloc (.cells #[.int .i64 no2, .int .i64 dev2, .int .i64 kd2, .int .i64 mode2, .int .i64 uid2, .int .i64 gid2, .int .i64 mt2, .int .i64 ct2, .int .i64 links2, .int .i64 up2, .string data2, .slice ou es2.length cu2] 51) = W10 at N9 hO10 hm10 ⊢
          generalize W9.heap.size = N at N9 ⊢
          clear hal hb6 hb7 hb8 hb68 hb9 hO9 cg8 y0 HM6
          obtain ⟨es10, rv10, H10, _, hS10⟩ := hm10.at_
          obtain ⟨oa10, cap10, rfl, _⟩ := hS10.slice
          have z13 := H10.facts.2.2.2.2.2.2.2.2.2.2.2.2.2.1
          have z15 := H10.facts.2.2.2.2.2.2.2.2.2.2.2.2.2.2.2
          have n2 := N9.facts.2.2.1
          have n10 := N9.facts.2.2.2.2.2.2.2.2.2.2.1
          dsimp only at n2 n10
          have HM10 := Lib.hid hm10; have HN9 := Lib.hid N9; have HO10 := Lib.hid hO10
          clear hS10 H10 hm10 N9 hO10
          have hgo : goes follow must r = (follow || must || !decide (r.length = 0)) := by unfold goes; cases r <;> simp
          have HGO := Lib.hid hgo
          clear hgo
          go_cut [85] (fun c wx => c = .bool (decide (kd2 = 3) && goes follow must r) ∧ wx = W10)
          case first =>
            by_cases hk3 : kd2 = 3
            · subst hk3
              cases follow with
              | true =>
                go_wp2_with fail
                go_meet
                case rel => exact ⟨by rw [HGO.out]; simp, rfl⟩
              | false =>
                cases must with
                | true =>
                  go_wp2_with fail
                  go_meet
                  case rel => exact ⟨by rw [HGO.out]; simp, rfl⟩
                | false =>
                  by_cases hr0 : r.length = 0
                  · go_wp2_with fail
                    go_meet
                    case rel => exact ⟨by rw [HGO.out]; simp [hr0], rfl⟩
                  · have hr1 : (0 : Int) < (r.length : Int) := by omega
                    go_wp2_with fail
                    go_meet
                    case rel => exact ⟨by rw [HGO.out]; simp [hr0]; omega, rfl⟩
            · have hk3' : (kd2 == 3) = false := by simpa using hk3
              go_wp2_with fail
              go_meet
              case rel => exact ⟨by simp [hk3], rfl⟩
          case rest =>
            obtain ⟨rfl, hwx⟩ := hcut
            obtain rfl := hwx.symm
            obtain ⟨q, hq⟩ : ∃ q, (decide (kd2 = 3) && goes follow must r) = q := ⟨_, rfl⟩
            rw [hq]
            have HQ := Lib.hid hq
            clear hq z13 z15 HGO HZ1 HZ2
            obtain ⟨d0, d1, d2, d3⟩ := HM10.out.found.facts
            obtain ⟨e0, e1, e2, e3⟩ := HM10.out.found.open
            cases q with
            | true =>
              obtain ⟨hk3, hgg⟩ : kd2 = 3 ∧ goes follow must r = true := by have := HQ.out; simpa using this
              have hkk : kind st (hit st here p) = 3 := by rw [HNO.out, HKD.out]; exact hk3
              have hxx : text st (hit st here p) = data2.data.toList := by rw [HNO.out, HTX.out]
              by_cases h88 : hops = 8
              · subst h88
                have hres := HRUN.out
                rw [run_loop HK1.out HK2.out HP.out HK3.out hkk hgg (by omega)] at hres
                have HRES := Lib.hid hres.symm
                have cj := jump_loop data2 HM10.out.at_
                clear hres hkk hxx hk3 hgg HRUN
                go_step
                go_step
                go_wp2_with (go_at_call 27; refine cj.mono ?_; rintro e W11 ⟨rfl, rfl⟩)
                have F9 := HM10.out.found.fill noFd
                have hb9 := HM10.out.low.trans (below_fillF HM10.out.hD W10 noFd)
                unfold fillF at F9 hb9
                dsimp only [noFd] at F9 hb9
                generalize World.setCell _ _ _ = W9 at F9 hb9 ⊢
                obtain ⟨q0, q1, q2, q3⟩ := F9.facts
                dsimp only at q0 q1 q2 q3
                rw [Exit.noGoto_ret]
                refine bodyPost_ret (by simp [results, Tryz.results9, go_sem, q0, q1, q2, q3]; rfl) rfl ?_
                exact ⟨by rw [HRES.out]; rfl, hb9⟩
              · by_cases htx : data2.data.toList = []
                · have hres := HRUN.out
                  rw [run_empty HK1.out HK2.out HP.out HK3.out hkk hgg (by omega) (by rw [hxx]; exact htx)] at hres
                  have HRES := Lib.hid hres.symm
                  obtain ⟨⟨l⟩⟩ := data2
                  have hl : l = [] := htx
                  subst hl
                  have cj := jump_empty (by omega) HM10.out.at_
                  clear hres hkk hxx hk3 hgg HRUN
                  go_step
                  go_step
                  go_wp2_with (go_at_call 27; refine cj.mono ?_; rintro e W11 ⟨rfl, rfl⟩)
                  have F9 := HM10.out.found.fill noFd
                  have hb9 := HM10.out.low.trans (below_fillF HM10.out.hD W10 noFd)
                  unfold fillF at F9 hb9
                  dsimp only [noFd] at F9 hb9
                  generalize World.setCell _ _ _ = W9 at F9 hb9 ⊢
                  obtain ⟨q0, q1, q2, q3⟩ := F9.facts
                  dsimp only at q0 q1 q2 q3
                  rw [Exit.noGoto_ret]
                  refine bodyPost_ret (by simp [results, Tryz.results9, go_sem, q0, q1, q2, q3]; rfl) rfl ?_
                  exact ⟨by rw [HRES.out]; rfl, hb9⟩
                · have hrun := HRUN.out
                  rw [run_jump HK1.out HK2.out HP.out HK3.out hkk hgg (by omega) (by rw [hxx]; exact htx), hxx] at hrun
                  have HR2 := Lib.hid hrun
                  have hpl2 := V.M.parts_len data2.data.toList
                  rw [← Lib.size_eq] at hpl2
                  have cj := jump_go HM10.out.wd HRT.out data2 (by omega) htx (by omega) (by omega) HM10.out.low.size HM10.out.at_
                  have hfr2 : -9223372036854775808 ≤ from_ data2.data.toList here ∧ from_ data2.data.toList here ≤ 9223372036854775807 := by unfold from_; split <;> omega
                  have HFR := Lib.hid hfr2
                  have hlen2 : (V.M.parts data2.data.toList ++ r).length ≤ data2.size + 1 + r.length := by rw [List.length_append]; omega
                  have hmz : (8 - (hops + 1)) * 100000 + (V.M.parts data2.data.toList ++ r).length < gk := mes_jump (by omega) hmr hlen2 hsh
                  have hlz : (V.M.parts data2.data.toList ++ r).length ≤ 5001 * (hops + 1 + 1) := by omega
                  have h8z : hops + 1 ≤ 8 := by omega
                  clear hrun hkk hxx hk3 hgg HRUN d0 d1 d2 d3 e0 e1 e2 e3 hpl2 hfr2 htx hlen2
                  generalize from_ data2.data.toList here = here2 at *
                  generalize V.M.parts data2.data.toList ++ r = r2 at *
                  generalize must_ must r data2.data.toList = must2 at *
                  go_step
                  go_step
                  go_wp2_with (go_at_call 27; refine cj.mono ?_; rintro e W11 ⟨rfl, hA11, ht11⟩)
                  go_roundg ((8 - (hops + 1)) * 100000 + r2.length)
                  case measure => exact hmz
                  case rel => exact ⟨here2, r2, must2, hops + 1, HM10.out.turn ht11 hA11, HR2, h8z, hlz, Nat.le_refl _, HFR.out.1, HFR.out.2⟩
            | false =>
              have h4 : ¬ (kind st (hit st here p) = 3 ∧ goes follow must r = true) := by
                rintro ⟨h5, h6⟩
                rw [HNO.out, HKD.out] at h5
                have := HQ.out
                rw [h6, decide_eq_true h5] at this
                cases this
              have cs := stuck_any no kd2 HM10.out.at_
              have hs1 := fun h => run_stuck (follow := follow) (hops := hops) HK1.out HK2.out HP.out HK3.out h4 h
              have hs2 := fun h => stuck_ok (st := st) (here := here) (p := p) (r := r) (must := must) h
              rw [HNO.out, HKD.out, HRUN.out] at hs1
              rw [HNO.out, HKD.out] at hs2
              generalize stuckE no kd2 r must = z2 at cs hs1 hs2
              have HS1 := Lib.hid hs1; have HS2 := Lib.hid hs2; have H4 := Lib.hid h4
              clear hs1 hs2 h4
              go_step
              go_step
              go_upto_region 22 with (go_at_call 28; refine cs.mono ?_; rintro e W11 ⟨rfl, rfl⟩)
              clear cs n2 n10
              obtain ⟨es11, rv11, H11, _, hS11⟩ := HM10.out.at_
              obtain ⟨oa11, cap11, rfl, _⟩ := hS11.slice
              obtain ⟨c0, c1, c2, c3, c4, c5, c6, c7, c8, c9, c10, c11, c12, c13, c14, c15⟩ := H11.facts
              have HS11 := Lib.hid hS11; have HH11 := Lib.hid H11
              by_cases hz2 : z2 = 0
              · subst hz2
                obtain ⟨hs3, hs4⟩ := HS2.out rfl
                by_cases hr0 : r.length = 0
                · have hre : r.isEmpty = true := by cases r with | nil => rfl | cons x y => simp at hr0
                  have hres := HRUN.out
                  rw [run_last HK1.out HK2.out HP.out HK3.out H4.out (by rw [HNO.out]; exact hs3) (by rw [HNO.out, HKD.out]; exact hs4) hre, HNO.out] at hres
                  have HRES := Lib.hid hres.symm
                  dsimp only [T.Nd.as] at c1
                  clear hres hs3 hs4 hre c0 c2 c3 c4 c5 c6 c7 c8 c9 c10 c11 c12 c14 H11 hS11 HRUN HS1 HS2
                  go_wp2
                  have F9 := HM10.out.found.fill ⟨here, p, no, must⟩
                  have hb9 := HM10.out.low.trans (below_fillF HM10.out.hD W10 ⟨here, p, no, must⟩)
                  unfold fillF at F9 hb9
                  dsimp only [noFd] at F9 hb9
                  generalize World.setCell _ _ _ = W9 at F9 hb9 ⊢
                  obtain ⟨q0, q1, q2, q3⟩ := F9.facts
                  dsimp only at q0 q1 q2 q3
                  rw [Exit.noGoto_ret]
                  refine bodyPost_ret (by simp [results, Tryz.results9, go_sem, q0, q1, q2, q3]; rfl) rfl ?_
                  exact ⟨by rw [HRES.out]; rfl, hb9⟩
                · have hr1 : ((r.length : Int) == 0) = false := by simpa using hr0
                  have hre : r.isEmpty = false := by cases r with | nil => simp at hr0 | cons x y => rfl
                  have hrun := HRUN.out
                  rw [run_go HK1.out HK2.out HP.out HK3.out H4.out (by rw [HNO.out]; exact hs3) (by rw [HNO.out, HKD.out]; exact hs4) hre, HNO.out] at hrun
                  have HR2 := Lib.hid hrun
                  have hno0 : no ≠ 0 := fun e => hs3 ⟨e, hre⟩
                  have hth : (get st.n no).isSome = true := HTH.out.resolve_left hno0
                  have has := gets_as hth
                  rw [HND2.out] at has
                  have HAS := Lib.hid has
                  obtain ⟨m0, m1, m2, m3, m4, m5, m6, m7, m8, m9, m10, m11⟩ := HN9.out.facts
                  dsimp only at m0 m1 m2 m3 m4 m5 m6 m7 m8 m9 m10 m11
                  obtain ⟨f0, f1, f2, f3, f4, f5, f6, f7, f8, f9, f10, f11, f12, f13, f14, f15⟩ := H11.open
                  clear hrun hs3 hs4 hre hth has H11 hS11 HRUN HS1 HS2 d0 d1 d2 d3 e0 e1 e2 e3 hr0 hno0
                  go_wp2
                  have F11 := HH11.out.fill ⟨no2, dev2, kd2, mode2, uid2, gid2, mt2, ct2, links2, up2, data2, es2⟩ (.slice ou es2.length cu2)
                  have ht11 := turn_fillK b ⟨no2, dev2, kd2, mode2, uid2, gid2, mt2, ct2, links2, up2, data2, es2⟩ (.slice ou es2.length cu2) W10
                  have hO11 := T.own_kept HO10.out (HH11.out.entKept ht11)
                  have hS12 := HS11.out.kept (HH11.out.strKept ht11)
                  unfold fillK at F11 ht11 hO11 hS12
                  dsimp only at F11 ht11 hO11 hS12
                  generalize World.setCell _ _ _ = W12 at F11 ht11 hO11 hS12 ⊢
                  have hA12 : At w.heap.size b X st no r must hops W12 := ⟨_, _, by rw [HND2.out, HAS.out]; exact F11, by rw [HND2.out]; exact hO11, hS12⟩
                  go_roundg ((8 - hops) * 100000 + r.length)
                  case measure => exact hmr
                  case rel => exact ⟨no, r, must, hops, HM10.out.turn ht11 hA12, HR2, h8, hlr, Nat.le_refl _, by omega, by omega⟩
              · have hz2' : (z2 != 0) = true := by simpa using hz2
                have HRES := Lib.hid (HS1.out hz2)
                clear c0 c1 c2 c3 c4 c5 c6 c7 c8 c9 c10 c11 c12 c13 c14 c15 H11 hS11 HRUN HS1 HS2
                go_wp2
                have F9 := HM10.out.found.fill noFd
                have hb9 := HM10.out.low.trans (below_fillF HM10.out.hD W10 noFd)
                unfold fillF at F9 hb9
                dsimp only [noFd] at F9 hb9
                generalize World.setCell _ _ _ = W9 at F9 hb9 ⊢
                obtain ⟨q0, q1, q2, q3⟩ := F9.facts
                dsimp only at q0 q1 q2 q3
                rw [Exit.noGoto_ret]
                refine bodyPost_ret (by simp [results, Tryz.results9, go_sem, q0, q1, q2, q3]; rfl) rfl ?_
                exact ⟨by rw [HRES.out]; rfl, hb9⟩
      · have hz' : (z != 0) = true := by simpa using hz
        have hres := HZ1.out hz
        rw [HRUN.out] at hres
        have HRES := Lib.hid hres
        obtain ⟨d0, d1, d2, d3⟩ := hm6.found.facts; obtain ⟨e0, e1, e2, e3⟩ := hm6.found.open
        have HM6 := Lib.hid hm6
        clear hres hm6 HM5 HO HZ1 HZ2 HND HRUN
        go_wp2
        have F9 := HM6.out.found.fill noFd
        have hb9 := HM6.out.low.trans (below_fillF HM6.out.hD W6 noFd)
        unfold fillF at F9 hb9
        dsimp only [noFd] at F9 hb9
        generalize World.setCell _ _ _ = W9 at F9 hb9 ⊢
        obtain ⟨q0, q1, q2, q3⟩ := F9.facts
        dsimp only at q0 q1 q2 q3
        rw [Exit.noGoto_ret]
        refine bodyPost_ret (by simp [results, Tryz.results9, go_sem, q0, q1, q2, q3]; rfl) rfl ?_
        exact ⟨by rw [HRES.out]; rfl, hb9⟩
end Go.Proofs.YtlceaecibjbeaaaGreat.K
