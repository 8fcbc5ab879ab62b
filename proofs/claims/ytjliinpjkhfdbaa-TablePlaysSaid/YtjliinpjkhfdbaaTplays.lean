/-
  TablePlays's walk.
-/
import Derived.Test.YtjliinpjkhfdbaaTpmath
import Derived.Deep.RegionLaw
import Derived.Shelf.RegionOpenPlain
namespace Go.Proofs.Ytjliinpjkhfdbaa.T
open Go.RowKit Go.Shelf Go.Maps

/-- 'append' to a row of the call's own, as one step of a region that draws its order -/
theorem step_append_own {P : Program} {ops : Array Oper} {o : Oper} {a : Act} {w : World} {K : Act → World → Prop} {Q : Exit → Act → World → Prop} {E : Prop}
    (hg : o.guard = none) (s x : Operand) (t : TypeId) (ho : o.op = .call { callee := .builtin .append, args := #[s, x], argTypes := #[t, t] })
    (base : Nat) (e : TypeId) (i : TypeInfo) (z : Value) (size bytes : Nat) (ht : P.underlying t = some (.slice e)) (hi : P.info? e = some i) (hz : i.zero = some z)
    (hsize : i.size = size) (hby : i.bytes = bytes) (hzs : z.cells.size = size) (hsz : 0 < size)
    (v : Value) (n : Nat) (xs : List Value) (hs : a.eval s = v) (hown : w.ownsRow base e size v n xs)
    (ad : Addr) (m c : Nat) (news : List Value) (hx : a.eval x = .slice (some ad) m c) (hl : news.length = m * size) (hnews : ∀ j u, news[j]? = some u → w.cell? (ad.add j) = some u) (h1 : ∀ u ∈ news, u.oneCell' = true)
    (h63 : n + m ≤ maxLen) (hbytes : (n + m) * bytes ≤ 140737488355328) (hbase : base ≤ w.heap.size)
    (h : ∀ v' w', w'.ownsRow base e size v' (n + m) (xs ++ news) → w.grownBy w' v.ownBlock → K (a.put o.dst v') w') :
    if Region.wanted o (yielded ops a.tmps) = true then Oper.wp P o a w K Q else E := by
  have hw : Region.wanted o (yielded ops a.tmps) = true := by simp [Region.wanted, hg]
  rw [if_pos hw]
  exact wp_append_own w s x t ho base e i z size bytes ht hi hz hsize hby hzs hsz v n xs hs hown ad m c news hx hl hnews h1 h63 hbytes hbase (fun v' w' h1 h2 _ => h v' w' h1 h2)

set_option maxRecDepth 100000 in
set_option maxHeartbeats 16000000 in
theorem tablePlays_walk (v : Value) (ds : List (Int × Nd × Value)) (no : Int) (w : World) (hv : Deeds v ds w) (hk : Wf no) :
    Calls Try.prog 3 #[v, .int .i64 no] w fun e w' => e = .returned (.bool true) ∧ Below w.heap.size w w' := by
  obtain ⟨i0, hi0, hz0, hz1, hz2⟩ := E.info_parts infoN
  obtain ⟨oa, cap, rfl, hle, hc⟩ := hv
  have HC := Lib.hid hc
  clear hc
  have cN := New_any w
  by_cases hbig : 60 < ds.length
  · have hbig' : (60 : Int) < (ds.length : Int) := by omega
    go_enter Try.func3, Try.ntmps3
    go_wp2_with (first
      | (go_at_call 6; refine cN.mono ?_; rintro e w1 ⟨T, M, rfl, hT, hb⟩; have ca := awake_any w1)
      | (refine ca.mono ?_; rintro e w2 ⟨rfl, hb2⟩))
    go_ret
    exact ⟨rfl, below_two hb hb2⟩
  · have hsm : ¬ (60 : Int) < (ds.length : Int) := by omega
    have HSM := Lib.hid hbig
    clear hbig
    go_enter Try.func3, Try.ntmps3
    go_wp2_with (go_at_call 6; refine cN.mono ?_; rintro e w1 ⟨T, M, rfl, hT, hb⟩)
    have HT := Lib.hid hT; have HB := Lib.hid hb
    clear hT hb cN
    go_loopw [6, 7, 8] (fun u la i wr => ∃ (k : Nat) (last : Int) (l r : Row) (ou : Option Addr) (cu : Nat), u = .slice ou r.length cu ∧ i = .int .i64 k ∧ la = .int .i64 last ∧ k ≤ ds.length ∧ last ≤ k ∧ l.length ≤ k ∧ Twin l r w ∧ RowOwn w.heap.size (.slice ou r.length cu) r wr ∧ Tab w.heap.size T M last l wr ∧ Below w.heap.size w wr) (fun _ _ i _ => ds.length - (intOf i).toNat)
    case atStart => exact ⟨0, 0, [], [], none, 0, rfl, rfl, rfl, Nat.zero_le _, by decide, Nat.le_refl _, ⟨rfl, fun p hp => by cases hp⟩, RowOwn.nil _ _, HT.out, HB.out⟩
    case round =>
      obtain ⟨k, last, l, r, ou, cu, rfl, rfl, rfl, hkl, hla, hll, htw, hO, hTr, hbr⟩ := hrel
      have hsm' := HSM.out
      have HTW := Lib.hid htw; have HTR := Lib.hid hTr; have HBR := Lib.hid hbr; have HO := Lib.hid hO
      have hrl := htw.len
      clear htw hTr hbr
      by_cases hlt : k < ds.length
      · obtain ⟨d, hd⟩ : ∃ d, ds[k]? = some d := ⟨_, List.getElem?_eq_getElem hlt⟩
        obtain ⟨⟨g, o, rfl, hkc, hat⟩, hse, hfit, hwf⟩ := HC.out k d hd
        obtain ⟨kind, ⟨n0, dev, nkind, mode, uid, gid, mt, ct, links, up, data, es⟩, s⟩ := d
        dsimp only at hkc hat hse hfit hwf
        obtain ⟨so, sc, hs0⟩ : ∃ so sc, s = .slice so es.length sc := by
          obtain ⟨so, sc, e, _⟩ := hse
          exact ⟨so, sc, e⟩
        subst hs0
        have HKC := Lib.hid hkc; have HAT := Lib.hid hat; have HSE := Lib.hid hse; have HF := Lib.hid hfit
        have e0 := (HBR.out.cell (p := ⟨g, o + k * 13, none⟩) (World.block_lt_of_cell? _ _ hkc)).trans hkc
        obtain ⟨c0, c1, c2, c3, c4, c5, c6, c7, c8, c9, c10, c11⟩ := (hat.below HBR.out hat.lt).facts
        have hB1 : Below wr.heap.size wr (wr.alloc (.cells #[.int .i64 n0, .int .i64 dev, .int .i64 nkind, .int .i64 mode, .int .i64 uid, .int .i64 gid, .int .i64 mt, .int .i64 ct, .int .i64 links, .int .i64 up, .string data, .slice so es.length sc] 29)) := (Below.refl _ _).alloc (Nat.le_refl _) _
        have BX := BoxN.new ⟨n0, dev, nkind, mode, uid, gid, mt, ct, links, up, data, es⟩ (.slice so es.length sc) wr
        dsimp only at BX
        have hat1 := at_any _ r n0 _ ((hO.sees).below hB1)
        clear hkc hat hse hfit hd hO
        have HRL := Lib.hid hrl
        clear hrl
        go_upto_region 10 with fail
        have e1 := (hB1.cell (p := ⟨g, o + k * 13, none⟩) (World.block_lt_of_cell? _ _ e0)).trans e0
        have hs1 : (wr.alloc (.cells #[.int .i64 n0, .int .i64 dev, .int .i64 nkind, .int .i64 mode, .int .i64 uid, .int .i64 gid, .int .i64 mt, .int .i64 ct, .int .i64 links, .int .i64 up, .string data, .slice so es.length sc] 29)).heap.size = wr.heap.size + 1 := by simp
        generalize wr.alloc (.cells #[.int .i64 n0, .int .i64 dev, .int .i64 nkind, .int .i64 mode, .int .i64 uid, .int .i64 gid, .int .i64 mt, .int .i64 ct, .int .i64 links, .int .i64 up, .string data, .slice so es.length sc] 29) = W1 at hB1 BX hat1 e1 hs1 ⊢
        have HB1 := Lib.hid hB1; have HS1 := Lib.hid hs1; have HBX := Lib.hid BX
        have x0 := BX.facts.1
        clear c0 c1 c2 c3 c4 c5 c6 c7 c8 c9 c10 c11 e0 hB1 BX hs1
        go_upto_region 11 with (go_at_call 8; refine hat1.mono ?_; rintro e w2 ⟨rfl, z, rfl, hz⟩)
        have hlen : l.length < 1000000 := by omega
        have hlas : last < 1000000 := by omega
        have hl0 := HTR.out.lo
        by_cases hk0 : kind = 0
        · subst hk0
          clear hz hat1
          have hwrl : IntKind.i64.wrap (last + 1) = last + 1 := IntWalk.i64_in _ (by omega)
          have f0 := HBX.out.open.1
          go_upto_region 19 with fail
          have BX2 := HBX.out.set0 (last + 1)
          have hB2 : Below wr.heap.size wr (W1.setCell ⟨wr.heap.size, 0, none⟩ (.int .i64 (last + 1))) := HB1.out.setCell (p := ⟨wr.heap.size, 0, none⟩) (Nat.le_refl _) _
          generalize W1.setCell ⟨wr.heap.size, 0, none⟩ (.int .i64 (last + 1)) = W2 at BX2 hB2 ⊢
          have HT2 := Lib.hid (HTR.out.below hB2)
          have hO2 := HO.out.below hB2
          have hb2 := HBR.out.trans (hB2.mono HBR.out.size)
          obtain ⟨c0, c1, c2, c3, c4, c5, c6, c7, c8, c9, c10, c11⟩ := BX2.facts
          dsimp only [Nd.as] at c0 c1 c2 c3 c4 c5 c6 c7 c8 c9 c10 c11
          have hfl := cs_one ⟨last + 1, dev, nkind, mode, uid, gid, mt, ct, links, up, data, es⟩ (s := .slice so es.length sc) ⟨_, _, _, rfl⟩
          have HB2 := Lib.hid hb2
          have hOk := hO2
          unfold RowOwn at hOk
          have hrl := HRL.out
          have hrl2 : r.length ≤ 60 := by omega
          clear hrl e1 x0 f0 hB2 hO2 hb2 BX2
          go_upto_region 20 with (at_builtin; refine wpList_append_own _ rfl _ _ 26 rfl w.heap.size 29 i0 (.agg #[.int .i64 0, .int .i64 0, .int .i64 0, .int .i64 0, .int .i64 0, .int .i64 0, .int .i64 0, .int .i64 0, .int .i64 0, .int .i64 0, .string ⟨#[]⟩, .slice none 0 0]) 12 120 Try.underlying26 hi0 hz0 hz1 hz2 rfl (by decide) (.slice ou r.length cu) _ _ rfl (hOk.alloc _) ⟨W2.heap.size, 0, none⟩ 1 1 (Nd.cs ⟨last + 1, dev, nkind, mode, uid, gid, mt, ct, links, up, data, es⟩ (.slice so es.length sc)) rfl rfl (cell_new _ _ _ _) hfl (by unfold maxLen; omega) (by omega) (by have := HB2.out.size; simp; omega) ?_; intro v' w4 hown' hgrow _)
          have hO4 : RowOwn w.heap.size v' (r ++ [(⟨last + 1, dev, nkind, mode, uid, gid, mt, ct, links, up, data, es⟩, .slice so es.length sc)]) w4 := RowOwn.snoc hown'
          have hT4 := (HT2.out.alloc _).grown (hOk.alloc _) hgrow
          have hb4 := (HB2.out.alloc HB2.out.size (.cells #[.int .i64 (last + 1), .int .i64 dev, .int .i64 nkind, .int .i64 mode, .int .i64 uid, .int .i64 gid, .int .i64 mt, .int .i64 ct, .int .i64 links, .int .i64 up, .string data, .slice so es.length sc] 29)).grown hgrow (by have := HB2.out.size; simp; omega) (fun k hk => (hOk.lt k hk).1)
          obtain ⟨r4, hr4⟩ : ∃ r4, r ++ [(⟨last + 1, dev, nkind, mode, uid, gid, mt, ct, links, up, data, es⟩, Value.slice so es.length sc)] = r4 := ⟨_, rfl⟩
          rw [hr4] at hO4
          have HR4 := Lib.hid hr4
          clear hr4
          obtain ⟨ou4, cu4, hu4, _⟩ := hO4.sees
          have HO4 := Lib.hid hO4; have HT4 := Lib.hid hT4; have HB4 := Lib.hid hb4
          subst hu4
          clear c0 c1 c2 c3 c4 c5 c6 c7 c8 c9 c10 c11 hown' hgrow hO4 hT4 hb4 hOk hfl
          obtain ⟨c0, c1, c2, c3, c4, c5, c6, c7, c8, c9, c10, c11⟩ := (HAT.out.below HB4.out HAT.out.lt).facts
          have ca := Add_any HT4.out ⟨n0, dev, nkind, mode, uid, gid, mt, ct, links, up, data, es⟩ (.slice so es.length sc) (HSE.out.below HB4.out) HF.out hlen hlas
          dsimp only [Nd.v, Nd.as] at ca
          go_upto_region 27 with (go_at_call 9; refine ca.mono ?_; clear ca; rintro e w5 ⟨rfl, hO5, u5, hT5⟩)
          have hb5 := HB4.out.trans (hO5.below HTR.out.bt HTR.out.bm HB4.out.size)
          have hR5 := HO4.out.only HT4.out hO5
          have htw5 := HTW.out.snoc ⟨last + 1, dev, nkind, mode, uid, gid, mt, ct, links, up, data, es⟩ (.slice so es.length sc) u5 HSE.out
          rw [HR4.out] at htw5
          have HT5 := Lib.hid hT5; have HB5 := Lib.hid hb5; have HR5 := Lib.hid hR5; have HTW5 := Lib.hid htw5
          have cl := all_any hT5 (by rw [List.length_append]; simp; omega) (by omega) _ _ hR5.sees htw5.fst (fun p hp => (htw5.sees p hp).below hb5)
          clear hT5 hb5 hR5 htw5 c0 c1 c2 c3 c4 c5 c6 c7 c8 c9 c10 c11
          go_wp2_with (go_at_call 12; refine cl.mono ?_; clear cl; rintro e w6 ⟨rfl, hb6⟩)
          go_roundw
          case rel => exact ⟨k + 1, last + 1, _, r4, ou4, cu4, rfl, by go_num, rfl, by omega, by omega, by rw [List.length_append]; simp; omega, HTW5.out, HR5.out.below hb6, HT5.out.below hb6, HB5.out.trans (hb6.mono HB5.out.size)⟩
          case measure => simp [intOf]; omega
        · rcases hz with ⟨i, p, rfl, hi, hpn⟩ | ⟨hz1', hz⟩
          · have htw := HTW.out
            have hT1 := HTR.out.below HB1.out
            obtain ⟨hyes, hfo⟩ := place_yes (rise_fst htw.fst hT1.rise) hi hpn htw.fst
            have hst := strike_at r (rise_fst htw.fst hT1.rise) hi hpn
            have hil : i < r.length := (List.getElem?_eq_some_iff.1 hi).1
            have hi0' : (0 : Int) ≤ (i : Int) := by omega
            have hb1 := HBR.out.trans (HB1.out.mono HBR.out.size)
            rcases HO.out.forms with ⟨_, hnil⟩ | ⟨gr, cap', hform⟩
            · rw [hnil] at hil; simp at hil
            obtain ⟨rfl, rfl⟩ : ou = some ⟨gr, 0, none⟩ ∧ cu = cap' := by cases hform; exact ⟨rfl, rfl⟩
            have hcap : r.length ≤ cu ∧ cu ≤ maxLen := by obtain ⟨_, _, e, hm, _⟩ := HO.out.sees; cases e; exact hm
            by_cases hk1 : kind = 1
            · subst hk1
              have cd := Drop_any hT1 n0 hwf
              rw [hyes] at cd
              have HST := Lib.hid hst; have HT1 := Lib.hid hT1; have HBW := Lib.hid hb1
              clear htw hT1 hyes hfo hst hb1 hform hat1 hi hpn
              go_upto_region 26 with (go_at_call 10; refine cd.mono ?_; clear cd; rintro e w3 ⟨rfl, hT3, hO3⟩)
              have hR3 := (HO.out.below HB1.out).only HT1.out hO3
              obtain ⟨hgr, hcl⟩ := row_cells hR3
              have hslc : ∀ p ∈ r, Slc p.2 := fun p hp => slc_of (HTW.out.sees p hp)
              have hb3 := HBW.out.trans (hO3.below HTR.out.bt HTR.out.bm HBW.out.size)
              have hT3' : Tab w.heap.size T M last (strike l n0) w3 := hT3
              have HT3 := Lib.hid hT3'; have HB3 := Lib.hid hb3
              clear hT3 hT3' hb3 hR3 hO3
              obtain ⟨WA, hWA⟩ : ∃ WA, (w3.alloc (.cells #[] 29)).drew = WA := ⟨_, rfl⟩
              have hbA : Below w3.heap.size w3 WA := by rw [← hWA]; exact ((Below.refl _ w3).alloc (Nat.le_refl _) _).drew
              have hown0 : WA.ownsRow w3.heap.size 29 12 (.slice (some ⟨w3.heap.size, 0, none⟩) 0 0) 0 [] := by rw [← hWA]; exact (empty_rowN w3).drew
              have hn1 : (flat (r.take i)).length = i * 12 := by rw [flat_len, List.length_take, Nat.min_eq_left (by omega)]
              have hc1 : ∀ j u, (flat (r.take i))[j]? = some u → WA.cell? ((⟨gr, 0, none⟩ : Addr).add j) = some u := fun j u hj => by
                rw [add_at, Nat.zero_add, hbA.cell (p := ⟨gr, j, none⟩) hgr]
                exact hcl j u (take_cells hj)
              have h1c : ∀ u ∈ flat (r.take i), u.oneCell' = true := flat_one _ fun p hp => hslc p (List.mem_of_mem_take hp)
              have hn2 : (flat (r.drop (i + 1))).length = (r.length - (i + 1)) * 12 := by rw [flat_len, List.length_drop]
              have h2c : ∀ u ∈ flat (r.drop (i + 1)), u.oneCell' = true := flat_one _ fun p hp => hslc p (List.mem_of_mem_drop hp)
              have hc2 : ∀ W, Below w3.heap.size w3 W → ∀ j u, (flat (r.drop (i + 1)))[j]? = some u → W.cell? ⟨gr, (i + 1) * 12 + j, none⟩ = some u := fun W hW j u hj => by
                rw [hW.cell (p := ⟨gr, (i + 1) * 12 + j, none⟩) hgr]
                exact hcl _ u (drop_cells (by omega) hj)
              have HN1 := Lib.hid hn1; have HC1 := Lib.hid hc1; have H1C := Lib.hid h1c; have HN2 := Lib.hid hn2; have H2C := Lib.hid h2c; have HC2 := Lib.hid hc2
              have HBA := Lib.hid hbA; have HW0 := Lib.hid hown0; have HWA := Lib.hid hWA
              have hrl3 : r.length ≤ 60 := by have := HRL.out; omega
              have wi : IntKind.i64.wrap ((i : Int) + 1) = (i : Int) + 1 := IntWalk.i64_in _ (by omega)
              have ti : ((i : Int) + 1).toNat = i + 1 := by omega
              have ii : (0 : Int) ≤ (i : Int) + 1 := by omega
              have il : (i : Int) + 1 ≤ (r.length : Int) := by omega
              have iln : i + 1 ≤ r.length := by omega
              have ic : i ≤ cu := by omega
              have icu : i + 1 ≤ cu := by omega
              clear hn1 hc1 h1c hn2 h2c hc2 hbA hown0 hWA hcl hslc
              by_cases hcu : cu = i + 1
              · have hz0' : r.length - (i + 1) = 0 := by omega
                have HZ := Lib.hid hz0'
                clear hz0'
                subst hcu
                have e1' : (i : Int) ≤ (i : Int) + 1 := by omega
                have e2' : i ≤ i + 1 := by omega
                clear ic icu
                go_region_law (first
                  | (refine step_append_own rfl (.tmp 89) (.tmp 92) 26 rfl w3.heap.size 29 i0 (.agg #[.int .i64 0, .int .i64 0, .int .i64 0, .int .i64 0, .int .i64 0, .int .i64 0, .int .i64 0, .int .i64 0, .int .i64 0, .int .i64 0, .string ⟨#[]⟩, .slice none 0 0]) 12 120 Try.underlying26 hi0 hz0 hz1 hz2 rfl (by decide) (.slice (some ⟨w3.heap.size, 0, none⟩) 0 0) 0 [] (by simp [Act.eval]) (by rw [HWA.out]; exact HW0.out) ⟨gr, 0, none⟩ i (i + 1) (flat (r.take i)) (by simp [Act.eval]) HN1.out (by rw [HWA.out]; exact HC1.out) H1C.out (by unfold maxLen; omega) (by omega) (by rw [HWA.out]; exact HBA.out.size) ?_
                     intro vA wA hownA hgrA
                     have hbB : Below w3.heap.size w3 wA := HBA.out.grown (HWA.out ▸ hgrA) HBA.out.size (fun j hj => (HW0.out.lt j hj).1)
                     have HBB := Lib.hid hbB; have HWB := Lib.hid hownA; clear hbB hownA hgrA)
                  | (refine step_append_own rfl (.tmp 93) (.tmp 97) 26 rfl w3.heap.size 29 i0 (.agg #[.int .i64 0, .int .i64 0, .int .i64 0, .int .i64 0, .int .i64 0, .int .i64 0, .int .i64 0, .int .i64 0, .int .i64 0, .int .i64 0, .string ⟨#[]⟩, .slice none 0 0]) 12 120 Try.underlying26 hi0 hz0 hz1 hz2 rfl (by decide) vA _ _ (by simp [Act.eval]) HWB.out ⟨gr, 0, none⟩ 0 0 [] (by simp [Act.eval]) rfl (fun j u hj => by simp at hj) (by simp) (by unfold maxLen; omega) (by omega) HBB.out.size ?_
                     intro vB wB hownB hgrB))
                have hbC : Below w3.heap.size w3 wB := HBB.out.grown hgrB HBB.out.size (fun j hj => (HWB.out.lt j hj).1)
                have hR5 : RowOwn w.heap.size vB (strike r n0) wB := by
                  rw [HST.out, show r.drop (i + 1) = [] from List.drop_eq_nil_of_le (by have := HZ.out; omega), List.append_nil]
                  refine RowOwn.mono (B := w3.heap.size) ?_ HB3.out.size
                  unfold RowOwn
                  rw [List.length_take, Nat.min_eq_left (by omega)]
                  simpa using hownB
                have hT5 := HT3.out.below hbC
                have hb5 := HB3.out.trans (hbC.mono HB3.out.size)
                have htw5 := HTW.out.strike n0
                have hl5 : (strike l n0).length < 1000000 := Nat.lt_of_le_of_lt (length_strike_le _ _) hlen
                have hl6 : (strike l n0).length ≤ k := Nat.le_trans (length_strike_le _ _) hll
                obtain ⟨r4, hr4⟩ : ∃ r4, strike r n0 = r4 := ⟨_, rfl⟩
                rw [hr4] at hR5 htw5
                obtain ⟨ou4, cu4, hu4, _⟩ := hR5.sees
                subst hu4
                have HT5 := Lib.hid hT5; have HB5 := Lib.hid hb5; have HR5 := Lib.hid hR5; have HTW5 := Lib.hid htw5; have HL5 := Lib.hid hl6
                have cl := all_any hT5 hl5 hlas _ _ hR5.sees htw5.fst (fun p hp => (htw5.sees p hp).below hb5)
                clear hT5 hb5 hR5 htw5 hl5 hl6 hr4 hownB hgrB hbC
                go_wp2_with (go_at_call 12; refine cl.mono ?_; clear cl; rintro e w6 ⟨rfl, hb6⟩)
                go_roundw
                case rel => exact ⟨k + 1, last, _, r4, ou4, cu4, rfl, by go_num, rfl, by omega, by omega, Nat.le_succ_of_le HL5.out, HTW5.out, HR5.out.below hb6, HT5.out.below hb6, HB5.out.trans (hb6.mono HB5.out.size)⟩
                case measure => simp [intOf]; omega
              · have hcz : ¬ cu = 0 := by omega
                go_region_law (first
                  | (refine step_append_own rfl (.tmp 89) (.tmp 92) 26 rfl w3.heap.size 29 i0 (.agg #[.int .i64 0, .int .i64 0, .int .i64 0, .int .i64 0, .int .i64 0, .int .i64 0, .int .i64 0, .int .i64 0, .int .i64 0, .int .i64 0, .string ⟨#[]⟩, .slice none 0 0]) 12 120 Try.underlying26 hi0 hz0 hz1 hz2 rfl (by decide) (.slice (some ⟨w3.heap.size, 0, none⟩) 0 0) 0 [] (by simp [Act.eval]) (by rw [HWA.out]; exact HW0.out) ⟨gr, 0, none⟩ i cu (flat (r.take i)) (by simp [Act.eval]) HN1.out (by rw [HWA.out]; exact HC1.out) H1C.out (by unfold maxLen; omega) (by omega) (by rw [HWA.out]; exact HBA.out.size) ?_
                     intro vA wA hownA hgrA
                     have hbB : Below w3.heap.size w3 wA := HBA.out.grown (HWA.out ▸ hgrA) HBA.out.size (fun j hj => (HW0.out.lt j hj).1)
                     have HBB := Lib.hid hbB; have HWB := Lib.hid hownA; clear hbB hownA hgrA)
                  | (refine step_append_own rfl (.tmp 93) (.tmp 97) 26 rfl w3.heap.size 29 i0 (.agg #[.int .i64 0, .int .i64 0, .int .i64 0, .int .i64 0, .int .i64 0, .int .i64 0, .int .i64 0, .int .i64 0, .int .i64 0, .int .i64 0, .string ⟨#[]⟩, .slice none 0 0]) 12 120 Try.underlying26 hi0 hz0 hz1 hz2 rfl (by decide) vA _ _ (by simp [Act.eval]) HWB.out ⟨gr, (i + 1) * 12, none⟩ (r.length - (i + 1)) (cu - (i + 1)) (flat (r.drop (i + 1))) (by simp [Act.eval]) HN2.out (fun j u hj => by rw [add_at]; exact HC2.out _ HBB.out j u hj) H2C.out (by unfold maxLen; omega) (by omega) HBB.out.size ?_
                     intro vB wB hownB hgrB))
                have hbC : Below w3.heap.size w3 wB := HBB.out.grown hgrB HBB.out.size (fun j hj => (HWB.out.lt j hj).1)
                have hR5 : RowOwn w.heap.size vB (strike r n0) wB := by
                  rw [HST.out]
                  refine RowOwn.mono (B := w3.heap.size) ?_ HB3.out.size
                  unfold RowOwn
                  rw [flat_app, List.length_append, List.length_take, Nat.min_eq_left (by omega), List.length_drop]
                  simpa using hownB
                have hT5 := HT3.out.below hbC
                have hb5 := HB3.out.trans (hbC.mono HB3.out.size)
                have htw5 := HTW.out.strike n0
                have hl5 : (strike l n0).length < 1000000 := Nat.lt_of_le_of_lt (length_strike_le _ _) hlen
                have hl6 : (strike l n0).length ≤ k := Nat.le_trans (length_strike_le _ _) hll
                obtain ⟨r4, hr4⟩ : ∃ r4, strike r n0 = r4 := ⟨_, rfl⟩
                rw [hr4] at hR5 htw5
                obtain ⟨ou4, cu4, hu4, _⟩ := hR5.sees
                subst hu4
                have HT5 := Lib.hid hT5; have HB5 := Lib.hid hb5; have HR5 := Lib.hid hR5; have HTW5 := Lib.hid htw5; have HL5 := Lib.hid hl6
                have cl := all_any hT5 hl5 hlas _ _ hR5.sees htw5.fst (fun p hp => (htw5.sees p hp).below hb5)
                clear hT5 hb5 hR5 htw5 hl5 hl6 hr4 hownB hgrB hbC
                go_wp2_with (go_at_call 12; refine cl.mono ?_; clear cl; rintro e w6 ⟨rfl, hb6⟩)
                go_roundw
                case rel => exact ⟨k + 1, last, _, r4, ou4, cu4, rfl, by go_num, rfl, by omega, by omega, Nat.le_succ_of_le HL5.out, HTW5.out, HR5.out.below hb6, HT5.out.below hb6, HB5.out.trans (hb6.mono HB5.out.size)⟩
                case measure => simp [intOf]; omega
            · have cs := Set_any hT1 ⟨n0, dev, nkind, mode, uid, gid, mt, ct, links, up, data, es⟩ (.slice so es.length sc) (HSE.out.below hb1) HF.out hwf hlen
              dsimp only [Nd.v] at cs
              rw [hyes] at cs
              have hrp := repl_at r (⟨n0, dev, nkind, mode, uid, gid, mt, ct, links, up, data, es⟩, Value.slice so es.length sc) (rise_fst htw.fst hT1.rise) hi hpn
              have HRP := Lib.hid hrp; have HT1 := Lib.hid hT1; have HBW := Lib.hid hb1
              obtain ⟨c0, c1, c2, c3, c4, c5, c6, c7, c8, c9, c10, c11⟩ := HBX.out.facts
              clear htw hT1 hyes hfo hst hb1 hform hat1 hi hpn hrp x0
              go_upto_region 15 with (go_at_call 11; refine cs.mono ?_; clear cs; rintro e w3 ⟨rfl, hO3, hS3⟩)
              obtain ⟨u3, hT3⟩ : ∃ u, Tab w.heap.size T M last (repl l (⟨n0, dev, nkind, mode, uid, gid, mt, ct, links, up, data, es⟩, u)) w3 := by
                rcases hS3 with ⟨h, _⟩ | ⟨_, h⟩
                · cases h
                · exact h
              have hR3 := (HO.out.below HB1.out).only HT1.out hO3
              have hbx3 : BoxN wr.heap.size ⟨n0, dev, nkind, mode, uid, gid, mt, ct, links, up, data, es⟩ (.slice so es.length sc) w3 := (hO3.block wr.heap.size HBX.out.lt (fun e => by have := HTR.out.ltT; omega) (fun e => by have := HTR.out.ltM; omega)).trans HBX.out
              have hb3 := HBW.out.trans (hO3.below HTR.out.bt HTR.out.bm HBW.out.size)
              obtain ⟨k1, k2, k3⟩ := row_fill hR3 hT3 ⟨n0, dev, nkind, mode, uid, gid, mt, ct, links, up, data, es⟩ (.slice so es.length sc) hil
              have K1 := Lib.hid k1; have K2 := Lib.hid k2; have K3 := Lib.hid k3; have HB3 := Lib.hid hb3
              have q0 := hR3.frozenAt (i * 12)
              have q1 := hR3.frozenAt (i * 12 + 1)
              have q2 := hR3.frozenAt (i * 12 + 2)
              have q3 := hR3.frozenAt (i * 12 + 3)
              have q4 := hR3.frozenAt (i * 12 + 4)
              have q5 := hR3.frozenAt (i * 12 + 5)
              have q6 := hR3.frozenAt (i * 12 + 6)
              have q7 := hR3.frozenAt (i * 12 + 7)
              have q8 := hR3.frozenAt (i * 12 + 8)
              have q9 := hR3.frozenAt (i * 12 + 9)
              have q10 := hR3.frozenAt (i * 12 + 10)
              have q11 := hR3.frozenAt (i * 12 + 11)
              clear c0 c1 c2 c3 c4 c5 c6 c7 c8 c9 c10 c11 hS3 k1 k2 k3 hb3 hT3 hO3
              obtain ⟨c0, c1, c2, c3, c4, c5, c6, c7, c8, c9, c10, c11⟩ := hbx3.facts
              obtain ⟨p0, hp0⟩ : ∃ p0, r[i]? = some p0 := ⟨_, List.getElem?_eq_getElem hil⟩
              obtain ⟨g', o', e', hatr⟩ : ∃ g' o', some (⟨gr, 0, none⟩ : Addr) = some ⟨g', o', none⟩ ∧ At g' (o' + i * 12) p0.1 p0.2 w3 := by
                obtain ⟨_, _, e, _, hc⟩ := hR3.sees
                cases e
                exact hc i p0 hp0
              cases e'
              rw [Nat.zero_add] at hatr
              obtain ⟨d0, d1, d2, d3, d4, d5, d6, d7, d8, d9, d10, d11⟩ := hatr.facts
              have iln : (i : Int) < (r.length : Int) := by omega
              clear hR3 hbx3 hp0 hatr
              go_upto_region 27 with fail
              have hR5 := K1.out
              have hT5 := K2.out
              have hb5 := HB3.out.trans K3.out
              have htw5 := HTW.out.repl ⟨n0, dev, nkind, mode, uid, gid, mt, ct, links, up, data, es⟩ (.slice so es.length sc) u3 HSE.out
              rw [← HRP.out] at hR5
              unfold fillAt at hR5 hT5 hb5
              generalize World.setCell _ _ _ = W5 at hR5 hT5 hb5 ⊢
              have hl5 : (repl l (⟨n0, dev, nkind, mode, uid, gid, mt, ct, links, up, data, es⟩, u3)).length = l.length := length_repl _ _
              have HL5 := Lib.hid hl5
              have hl4 : (repl r (⟨n0, dev, nkind, mode, uid, gid, mt, ct, links, up, data, es⟩, Value.slice so es.length sc)).length = r.length := length_repl _ _
              have HL4 := Lib.hid hl4
              have hR6 : RowOwn w.heap.size (.slice (some ⟨gr, 0, none⟩) (repl r (⟨n0, dev, nkind, mode, uid, gid, mt, ct, links, up, data, es⟩, Value.slice so es.length sc)).length cu) (repl r (⟨n0, dev, nkind, mode, uid, gid, mt, ct, links, up, data, es⟩, Value.slice so es.length sc)) W5 := by rw [HL4.out]; exact hR5
              have HT5 := Lib.hid hT5; have HB5 := Lib.hid hb5; have HR6 := Lib.hid hR6; have HTW5 := Lib.hid htw5
              have cl := all_any hT5 (by rw [HL5.out]; omega) hlas _ _ hR5.sees htw5.fst (fun p hp => (htw5.sees p hp).below hb5)
              clear hT5 hb5 hR5 hR6 htw5 hl5 hl4 c0 c1 c2 c3 c4 c5 c6 c7 c8 c9 c10 c11 d0 d1 d2 d3 d4 d5 d6 d7 d8 d9 d10 d11 q0 q1 q2 q3 q4 q5 q6 q7 q8 q9 q10 q11
              go_wp2_with (go_at_call 12; refine cl.mono ?_; clear cl; rintro e w6 ⟨rfl, hb6⟩)
              go_roundw
              case rel => exact ⟨k + 1, last, _, _, some ⟨gr, 0, none⟩, cu, by rw [HL4.out], by go_num, rfl, by omega, by omega, by rw [HL5.out]; omega, HTW5.out, HR6.out.below hb6, HT5.out.below hb6, HB5.out.trans (hb6.mono HB5.out.size)⟩
              case measure => simp [intOf]; omega
          · have htw := HTW.out
            have hT1 := HTR.out.below HB1.out
            have hR1 := HO.out.below HB1.out
            obtain ⟨hnot, hfo⟩ := place_no hz htw.fst
            have hb1 := HBR.out.trans (HB1.out.mono HBR.out.size)
            have hzn : ¬ (0 : Int) ≤ z := by omega
            have hsr : strike r n0 = r := strike_gone hz
            by_cases hk1 : kind = 1
            · subst hk1
              have cd := Drop_any hT1 n0 hwf
              rw [hnot] at cd
              have htw5 := htw.strike n0
              rw [hsr] at htw5
              have HTW5 := Lib.hid htw5; have HT1 := Lib.hid hT1; have HBW := Lib.hid hb1; have HR1 := Lib.hid hR1
              have hl5 : (strike l n0).length < 1000000 := Nat.lt_of_le_of_lt (length_strike_le _ _) hlen
              have hl6 : (strike l n0).length ≤ k := Nat.le_trans (length_strike_le _ _) hll
              have HL5 := Lib.hid hl5; have HL6 := Lib.hid hl6
              clear htw hT1 hR1 hnot hfo hb1 hat1 hz hz1' hsr htw5 hl5 hl6
              go_upto_region 27 with (go_at_call 10; refine cd.mono ?_; clear cd; rintro e w3 ⟨rfl, hT3, hO3⟩)
              have hR5 := HR1.out.only HT1.out hO3
              have hb5 := HBW.out.trans (hO3.below HTR.out.bt HTR.out.bm HBW.out.size)
              have HT5 := Lib.hid hT3; have HB5 := Lib.hid hb5; have HR5 := Lib.hid hR5
              have cl := all_any hT3 HL5.out hlas _ _ hR5.sees HTW5.out.fst (fun p hp => (HTW5.out.sees p hp).below hb5)
              clear hT3 hb5 hR5
              go_wp2_with (go_at_call 12; refine cl.mono ?_; clear cl; rintro e w6 ⟨rfl, hb6⟩)
              go_roundw
              case rel => exact ⟨k + 1, last, _, r, ou, cu, rfl, by go_num, rfl, by omega, by omega, Nat.le_succ_of_le HL6.out, HTW5.out, HR5.out.below hb6, HT5.out.below hb6, HB5.out.trans (hb6.mono HB5.out.size)⟩
              case measure => simp [intOf]; omega
            · have cs := Set_any hT1 ⟨n0, dev, nkind, mode, uid, gid, mt, ct, links, up, data, es⟩ (.slice so es.length sc) (HSE.out.below hb1) HF.out hwf hlen
              dsimp only [Nd.v] at cs
              rw [hnot] at cs
              have HT1 := Lib.hid hT1; have HBW := Lib.hid hb1; have HR1 := Lib.hid hR1
              obtain ⟨c0, c1, c2, c3, c4, c5, c6, c7, c8, c9, c10, c11⟩ := HBX.out.facts
              clear htw hT1 hR1 hnot hfo hb1 hat1 hz hz1' hsr x0
              go_upto_region 27 with (go_at_call 11; refine cs.mono ?_; clear cs; rintro e w3 ⟨rfl, hO3, hS3⟩)
              have hT3 : Tab w.heap.size T M last l w3 := by
                rcases hS3 with ⟨_, h⟩ | ⟨h, _⟩
                · exact h
                · cases h
              have hR5 := HR1.out.only HT1.out hO3
              have hb5 := HBW.out.trans (hO3.below HTR.out.bt HTR.out.bm HBW.out.size)
              have HT5 := Lib.hid hT3; have HB5 := Lib.hid hb5; have HR5 := Lib.hid hR5
              have cl := all_any hT3 hlen hlas _ _ hR5.sees HTW.out.fst (fun p hp => (HTW.out.sees p hp).below hb5)
              clear hT3 hb5 hR5 hS3 c0 c1 c2 c3 c4 c5 c6 c7 c8 c9 c10 c11
              go_wp2_with (go_at_call 12; refine cl.mono ?_; clear cl; rintro e w6 ⟨rfl, hb6⟩)
              go_roundw
              case rel => exact ⟨k + 1, last, _, r, ou, cu, rfl, by go_num, rfl, by omega, by omega, by omega, HTW.out, HR5.out.below hb6, HT5.out.below hb6, HB5.out.trans (hb6.mono HB5.out.size)⟩
              case measure => simp [intOf]; omega
      · have hnk : ¬ (k : Int) < (ds.length : Int) := by omega
        have cg := Get_any HTR.out no hk
        obtain ⟨⟨fno, fdev, fkind, fmode, fuid, fgid, fmt, fct, flinks, fup, fdata, fes⟩, hfe⟩ : ∃ f, (found l no).1 = f := ⟨_, rfl⟩
        rw [hfe] at cg
        dsimp only [Nd.v] at cg
        have HFE := Lib.hid hfe
        have HRL := Lib.hid hrl
        generalize hbb : (look l no).isSome = bb at cg
        have HBBB := Lib.hid hbb
        have hmx : Try.prog.follows .mixedOrders = true := by kernel_rfl
        clear hO hfe hbb hrl
        go_upto_region 30 with (go_at_call 13; refine cg.mono ?_; clear cg; rintro e w3 ⟨u, rfl, hO3, hb3⟩; obtain ⟨fo, fc, rfl⟩ := own_slice hO3)
        have hB4 : Below w3.heap.size w3 (w3.alloc (.cells #[.int .i64 fno, .int .i64 fdev, .int .i64 fkind, .int .i64 fmode, .int .i64 fuid, .int .i64 fgid, .int .i64 fmt, .int .i64 fct, .int .i64 flinks, .int .i64 fup, .string fdata, .slice fo fes.length fc] 29)) := (Below.refl _ _).alloc (Nat.le_refl _) _
        have BX := BoxN.new ⟨fno, fdev, fkind, fmode, fuid, fgid, fmt, fct, flinks, fup, fdata, fes⟩ (.slice fo fes.length fc) w3
        dsimp only at BX
        generalize w3.alloc (.cells #[.int .i64 fno, .int .i64 fdev, .int .i64 fkind, .int .i64 fmode, .int .i64 fuid, .int .i64 fgid, .int .i64 fmt, .int .i64 fct, .int .i64 flinks, .int .i64 fup, .string fdata, .slice fo fes.length fc] 29) = W4 at hB4 BX ⊢
        have hbw := hb3.trans (hB4.mono hb3.size)
        have hR4 := HO.out.below hbw
        have hb4 := HBR.out.trans (hbw.mono HBR.out.size)
        have hO4 := own_kept hO3 (EntKept.below hB4)
        have hat1 := at_any _ r no _ hR4.sees
        have HR4 := Lib.hid hR4; have HB4 := Lib.hid hb4; have HO4 := Lib.hid hO4; have HBX := Lib.hid BX
        obtain ⟨c0, c1, c2, c3, c4, c5, c6, c7, c8, c9, c10, c11⟩ := BX.facts
        clear hO3 hb3 hB4 BX hbw hR4 hb4 hO4
        go_upto_region 31 with (go_at_call 8; refine hat1.mono ?_; clear hat1; rintro e w5 ⟨rfl, z, rfl, hz⟩)
        rcases hz with ⟨i, p, rfl, hi, hpn⟩ | ⟨hz1', hz⟩
        · obtain ⟨hyes, hfo⟩ := place_yes (rise_fst HTW.out.fst HTR.out.rise) hi hpn HTW.out.fst
          obtain rfl : bb = true := HBBB.out.symm.trans hyes
          have hil : i < r.length := (List.getElem?_eq_some_iff.1 hi).1
          have hi0' : (0 : Int) ≤ (i : Int) := by omega
          have hin : ¬ (i : Int) < 0 := by omega
          have hill : (i : Int) < (r.length : Int) := by omega
          obtain ⟨g', o', e', hatr⟩ : ∃ g' o', ou = some ⟨g', o', none⟩ ∧ At g' (o' + i * 12) p.1 p.2 W4 := by
            obtain ⟨_, _, e, _, hc⟩ := HR4.out.sees
            cases e
            exact hc i p hi
          subst e'
          have hsp := (HTW.out.sees p (List.mem_of_getElem? hi)).below HB4.out
          obtain ⟨pn, ps⟩ := p
          obtain rfl : pn = ⟨fno, fdev, fkind, fmode, fuid, fgid, fmt, fct, flinks, fup, fdata, fes⟩ := hfo.symm.trans HFE.out
          obtain ⟨po, pc, hps⟩ : ∃ po pc, ps = .slice po fes.length pc := by
            obtain ⟨a, b, e, _⟩ := hsp
            exact ⟨a, b, e⟩
          subst hps
          have cs := Same_any ⟨fno, fdev, fkind, fmode, fuid, fgid, fmt, fct, flinks, fup, fdata, fes⟩ _ _ W4.drew (HO4.out.sees.below (Below.refl _ W4).drew) (hsp.below (Below.refl _ W4).drew)
          dsimp only [Nd.v] at cs
          clear hi hpn hyes hfo hsp
          have hdr : Below W4.heap.size W4 W4.drew := (Below.refl _ W4).drew
          have kb := HBX.out.below hdr
          have ka := hatr.later hdr
          clear hatr hdr c0 c1 c2 c3 c4 c5 c6 c7 c8 c9 c10 c11
          refine wp_region_noPanic ?_
          refine wp_region_held_drew (S := fun w' => (w'.cell? ⟨w3.heap.size, 0, none⟩ = some (.int .i64 fno) ∧ w'.cell? ⟨w3.heap.size, 1, none⟩ = some (.int .i64 fdev) ∧ w'.cell? ⟨w3.heap.size, 2, none⟩ = some (.int .i64 fkind) ∧ w'.cell? ⟨w3.heap.size, 3, none⟩ = some (.int .i64 fmode) ∧ w'.cell? ⟨w3.heap.size, 4, none⟩ = some (.int .i64 fuid) ∧ w'.cell? ⟨w3.heap.size, 5, none⟩ = some (.int .i64 fgid) ∧ w'.cell? ⟨w3.heap.size, 6, none⟩ = some (.int .i64 fmt) ∧ w'.cell? ⟨w3.heap.size, 7, none⟩ = some (.int .i64 fct) ∧ w'.cell? ⟨w3.heap.size, 8, none⟩ = some (.int .i64 flinks) ∧ w'.cell? ⟨w3.heap.size, 9, none⟩ = some (.int .i64 fup) ∧ w'.cell? ⟨w3.heap.size, 10, none⟩ = some (.string fdata) ∧ w'.cell? ⟨w3.heap.size, 11, none⟩ = some (.slice fo fes.length fc)) ∧ (w'.cell? ⟨g', o' + i * 12, none⟩ = some (.int .i64 fno) ∧ w'.cell? ⟨g', o' + i * 12 + 1, none⟩ = some (.int .i64 fdev) ∧ w'.cell? ⟨g', o' + i * 12 + 2, none⟩ = some (.int .i64 fkind) ∧ w'.cell? ⟨g', o' + i * 12 + 3, none⟩ = some (.int .i64 fmode) ∧ w'.cell? ⟨g', o' + i * 12 + 4, none⟩ = some (.int .i64 fuid) ∧ w'.cell? ⟨g', o' + i * 12 + 5, none⟩ = some (.int .i64 fgid) ∧ w'.cell? ⟨g', o' + i * 12 + 6, none⟩ = some (.int .i64 fmt) ∧ w'.cell? ⟨g', o' + i * 12 + 7, none⟩ = some (.int .i64 fct) ∧ w'.cell? ⟨g', o' + i * 12 + 8, none⟩ = some (.int .i64 flinks) ∧ w'.cell? ⟨g', o' + i * 12 + 9, none⟩ = some (.int .i64 fup) ∧ w'.cell? ⟨g', o' + i * 12 + 10, none⟩ = some (.string fdata) ∧ w'.cell? ⟨g', o' + i * 12 + 11, none⟩ = some (.slice po fes.length pc))) (by kernel_rfl) ?_ (fun hHeld => ?_)
          · exact ⟨kb.facts, ka.facts⟩
          refine tk (i := 0) (d := 112) (v := (.bool true)) rfl rfl (by kernel_rfl) (by kernel_rfl) (by kernel_rfl) (fun _ _ _ h => h) (Or.inl ⟨by rfl, fun w9 hSw => ?_⟩) (by assumption) ?_
          · dsimp only at hSw; go_simp
          simp only [Act.put, List.setIfInBounds_toArray, List.set_cons_zero, List.set_cons_succ]
          refine tk (i := 1) (d := 113) (v := (.int .i64 i)) rfl rfl (by kernel_rfl) (by kernel_rfl) (by kernel_rfl) (fun _ _ _ h => h) (Or.inl ⟨by rfl, fun w9 hSw => ?_⟩) (by assumption) ?_
          · dsimp only at hSw; go_simp
          simp only [Act.put, List.setIfInBounds_toArray, List.set_cons_zero, List.set_cons_succ]
          refine tk (i := 2) (d := 114) (v := (.bool true)) rfl rfl (by kernel_rfl) (by kernel_rfl) (by kernel_rfl) (fun _ _ _ h => h) (Or.inl ⟨by rfl, fun w9 hSw => ?_⟩) (by assumption) ?_
          · dsimp only at hSw; go_simp
          simp only [Act.put, List.setIfInBounds_toArray, List.set_cons_zero, List.set_cons_succ]
          refine tk (i := 3) (d := 115) (v := (.bool true)) rfl rfl (by kernel_rfl) (by kernel_rfl) (by kernel_rfl) (fun _ _ _ h => h) (Or.inl ⟨by rfl, fun w9 hSw => ?_⟩) (by assumption) ?_
          · dsimp only at hSw; go_simp
          simp only [Act.put, List.setIfInBounds_toArray, List.set_cons_zero, List.set_cons_succ]
          refine tk (i := 4) (d := 116) (v := (.bool true)) rfl rfl (by kernel_rfl) (by kernel_rfl) (by kernel_rfl) (fun _ _ _ h => h) (Or.inl ⟨by rfl, fun w9 hSw => ?_⟩) (by assumption) ?_
          · dsimp only at hSw; go_simp
          simp only [Act.put, List.setIfInBounds_toArray, List.set_cons_zero, List.set_cons_succ]
          refine tk (i := 5) (d := 117) (v := (.int .i64 i)) rfl rfl (by kernel_rfl) (by kernel_rfl) (by kernel_rfl) (fun _ _ _ h => h) (Or.inl ⟨by rfl, fun w9 hSw => ?_⟩) (by assumption) ?_
          · dsimp only at hSw; go_simp
          simp only [Act.put, List.setIfInBounds_toArray, List.set_cons_zero, List.set_cons_succ]
          refine tk (i := 6) (d := 118) (v := (.bool true)) rfl rfl (by kernel_rfl) (by kernel_rfl) (by kernel_rfl) (fun _ _ _ h => h) (Or.inl ⟨by rfl, fun w9 hSw => ?_⟩) (by assumption) ?_
          · dsimp only at hSw; go_simp
          simp only [Act.put, List.setIfInBounds_toArray, List.set_cons_zero, List.set_cons_succ]
          refine tk (i := 7) (d := 119) (v := (.bool true)) rfl rfl (by kernel_rfl) (by kernel_rfl) (by kernel_rfl) (fun _ _ _ h => h) (Or.inl ⟨by rfl, fun w9 hSw => ?_⟩) (by assumption) ?_
          · dsimp only at hSw; go_simp
          simp only [Act.put, List.setIfInBounds_toArray, List.set_cons_zero, List.set_cons_succ]
          refine tk (i := 8) (d := 120) (v := (.agg #[.int .i64 fno, .int .i64 fdev, .int .i64 fkind, .int .i64 fmode, .int .i64 fuid, .int .i64 fgid, .int .i64 fmt, .int .i64 fct, .int .i64 flinks, .int .i64 fup, .string fdata, .slice fo fes.length fc])) rfl rfl (by kernel_rfl) (by kernel_rfl) (by kernel_rfl) (fun _ _ _ h => h) (Or.inl ⟨by rfl, fun w9 hSw => ?_⟩) (by assumption) ?_
          · dsimp only at hSw; go_simp
          simp only [Act.put, List.setIfInBounds_toArray, List.set_cons_zero, List.set_cons_succ]
          refine tk (i := 9) (d := 121) (v := (.slice (some ⟨g', o', none⟩) r.length cu)) rfl rfl (by kernel_rfl) (by kernel_rfl) (by kernel_rfl) (fun _ _ _ h => h) (Or.inl ⟨by rfl, fun w9 hSw => ?_⟩) (by assumption) ?_
          · dsimp only at hSw; go_simp
          simp only [Act.put, List.setIfInBounds_toArray, List.set_cons_zero, List.set_cons_succ]
          refine tk (i := 10) (d := 122) (v := (.int .i64 i)) rfl rfl (by kernel_rfl) (by kernel_rfl) (by kernel_rfl) (fun _ _ _ h => h) (Or.inl ⟨by rfl, fun w9 hSw => ?_⟩) (by assumption) ?_
          · dsimp only at hSw; go_simp
          simp only [Act.put, List.setIfInBounds_toArray, List.set_cons_zero, List.set_cons_succ]
          refine tk (i := 11) (d := 123) (v := (.pointer (some ⟨g', o' + i * 12, none⟩))) rfl rfl (by kernel_rfl) (by kernel_rfl) (by kernel_rfl) (fun _ _ _ h => h) (Or.inl ⟨by rfl, fun w9 hSw => ?_⟩) (by assumption) ?_
          · dsimp only at hSw; go_simp
          simp only [Act.put, List.setIfInBounds_toArray, List.set_cons_zero, List.set_cons_succ]
          refine tk (i := 12) (d := 124) (v := (.agg #[.int .i64 fno, .int .i64 fdev, .int .i64 fkind, .int .i64 fmode, .int .i64 fuid, .int .i64 fgid, .int .i64 fmt, .int .i64 fct, .int .i64 flinks, .int .i64 fup, .string fdata, .slice po fes.length pc])) rfl rfl (by kernel_rfl) (by kernel_rfl) (by kernel_rfl) (fun _ _ _ h => h) (Or.inl ⟨by rfl, fun w9 hSw => ?_⟩) (by assumption) ?_
          · dsimp only at hSw; go_simp
          simp only [Act.put, List.setIfInBounds_toArray, List.set_cons_zero, List.set_cons_succ]
          refine wpAnyH_ready (rs := [13]) (by kernel_rfl) (by simp) ?_
          refine AllReadyH.cons rfl (fun K hK => ?_) AllReadyH.nil
          go_simp
          go_at_call 14
          refine cs.mono ?_
          rintro e w6 ⟨rfl, hb6⟩
          have kb6 := kb.below hb6
          have ka6 := ka.later hb6
          refine hK.out _ _ ⟨kb6.facts, ka6.facts⟩ (fun hHeld2 => ?_)
          clear hK K
          refine tk (i := 14) (d := 126) (v := (.bool true)) rfl rfl (by kernel_rfl) (by kernel_rfl) (by kernel_rfl) (fun _ _ _ h => h) (Or.inl ⟨by rfl, fun w9 hSw => ?_⟩) (by assumption) ?_
          · dsimp only at hSw; go_simp
          simp only [Act.put, List.setIfInBounds_toArray, List.set_cons_zero, List.set_cons_succ]
          refine tk (i := 15) (d := 127) (v := (.bool true)) rfl rfl (by kernel_rfl) (by kernel_rfl) (by kernel_rfl) (fun _ _ _ h => h) (Or.inl ⟨by rfl, fun w9 hSw => ?_⟩) (by assumption) ?_
          · dsimp only at hSw; go_simp
          simp only [Act.put, List.setIfInBounds_toArray, List.set_cons_zero, List.set_cons_succ]
          refine tk (i := 16) (d := 128) (v := undef) rfl rfl (by kernel_rfl) (by kernel_rfl) (by kernel_rfl) (fun _ _ _ h => h) (Or.inr ⟨by rfl, rfl⟩) (by assumption) ?_
          simp only [Act.put, List.setIfInBounds_toArray, List.set_cons_zero, List.set_cons_succ]
          refine tk (i := 17) (d := 129) (v := undef) rfl rfl (by kernel_rfl) (by kernel_rfl) (by kernel_rfl) (fun _ _ _ h => h) (Or.inr ⟨by rfl, rfl⟩) (by assumption) ?_
          simp only [Act.put, List.setIfInBounds_toArray, List.set_cons_zero, List.set_cons_succ]
          refine tk (i := 18) (d := 130) (v := undef) rfl rfl (by kernel_rfl) (by kernel_rfl) (by kernel_rfl) (fun _ _ _ h => h) (Or.inr ⟨by rfl, rfl⟩) (by assumption) ?_
          simp only [Act.put, List.setIfInBounds_toArray, List.set_cons_zero, List.set_cons_succ]
          refine tk (i := 19) (d := 131) (v := undef) rfl rfl (by kernel_rfl) (by kernel_rfl) (by kernel_rfl) (fun _ _ _ h => h) (Or.inr ⟨by rfl, rfl⟩) (by assumption) ?_
          simp only [Act.put, List.setIfInBounds_toArray, List.set_cons_zero, List.set_cons_succ]
          refine tk (i := 20) (d := 132) (v := undef) rfl rfl (by kernel_rfl) (by kernel_rfl) (by kernel_rfl) (fun _ _ _ h => h) (Or.inr ⟨by rfl, rfl⟩) (by assumption) ?_
          simp only [Act.put, List.setIfInBounds_toArray, List.set_cons_zero, List.set_cons_succ]
          refine tk (i := 21) (d := 133) (v := undef) rfl rfl (by kernel_rfl) (by kernel_rfl) (by kernel_rfl) (fun _ _ _ h => h) (Or.inr ⟨by rfl, rfl⟩) (by assumption) ?_
          simp only [Act.put, List.setIfInBounds_toArray, List.set_cons_zero, List.set_cons_succ]
          refine tk (i := 22) (d := 134) (v := undef) rfl rfl (by kernel_rfl) (by kernel_rfl) (by kernel_rfl) (fun _ _ _ h => h) (Or.inr ⟨by rfl, rfl⟩) (by assumption) ?_
          simp only [Act.put, List.setIfInBounds_toArray, List.set_cons_zero, List.set_cons_succ]
          refine tk (i := 23) (d := 135) (v := (.bool true)) rfl rfl (by kernel_rfl) (by kernel_rfl) (by kernel_rfl) (fun _ _ _ h => h) (Or.inl ⟨by rfl, fun w9 hSw => ?_⟩) (by assumption) ?_
          · dsimp only at hSw; go_simp
          simp only [Act.put, List.setIfInBounds_toArray, List.set_cons_zero, List.set_cons_succ]
          refine tk (i := 24) (d := 136) (v := (.bool true)) rfl rfl (by kernel_rfl) (by kernel_rfl) (by kernel_rfl) (fun _ _ _ h => h) (Or.inl ⟨by rfl, fun w9 hSw => ?_⟩) (by assumption) ?_
          · dsimp only at hSw; go_simp
          simp only [Act.put, List.setIfInBounds_toArray, List.set_cons_zero, List.set_cons_succ]
          refine tk (i := 25) (d := 137) (v := (.bool true)) rfl rfl (by kernel_rfl) (by kernel_rfl) (by kernel_rfl) (fun _ _ _ h => h) (Or.inl ⟨by rfl, fun w9 hSw => ?_⟩) (by assumption) ?_
          · dsimp only at hSw; go_simp
          simp only [Act.put, List.setIfInBounds_toArray, List.set_cons_zero, List.set_cons_succ]
          refine wpAnyH_ready (rs := [26]) (by kernel_rfl) (by simp) ?_
          refine AllReadyH.cons rfl (fun K hK => ?_) AllReadyH.nil
          go_simp
          go_at_call 7
          refine (awake_any _).mono ?_
          rintro e w7 ⟨rfl, hb7⟩
          have kb7 := kb6.below hb7
          have ka7 := ka6.later hb7
          refine hK.out _ _ ⟨kb7.facts, ka7.facts⟩ (fun hHeld3 => ?_)
          clear hK K
          refine tk (i := 27) (d := 139) (v := (.bool true)) rfl rfl (by kernel_rfl) (by kernel_rfl) (by kernel_rfl) (fun _ _ _ h => h) (Or.inl ⟨by rfl, fun w9 hSw => ?_⟩) (by assumption) ?_
          · dsimp only at hSw; go_simp
          simp only [Act.put, List.setIfInBounds_toArray, List.set_cons_zero, List.set_cons_succ]
          refine tk (i := 28) (d := 4) (v := (.bool true)) rfl rfl (by kernel_rfl) (by kernel_rfl) (by kernel_rfl) (fun _ _ _ h => h) (Or.inl ⟨by rfl, fun w9 hSw => ?_⟩) (by assumption) ?_
          · dsimp only at hSw; go_simp
          simp only [Act.put, List.setIfInBounds_toArray, List.set_cons_zero, List.set_cons_succ]
          refine wpAnyH_done (by kernel_rfl) ?_ _
          refine NoPanic.normal ?_
          go_wp2
          go_ret
          have q1 := HB4.out.drew
          have q2 := q1.trans (hb6.mono q1.size)
          exact ⟨rfl, q2.trans (hb7.mono q2.size)⟩
        · obtain ⟨hnot, hfo⟩ := place_no hz HTW.out.fst
          obtain rfl : bb = false := HBBB.out.symm.trans hnot
          have hzn : ¬ (0 : Int) ≤ z := by omega
          have hzl : z < 0 := by omega
          have hnd : (⟨fno, fdev, fkind, fmode, fuid, fgid, fmt, fct, flinks, fup, fdata, fes⟩ : Nd) = Nd.zero := HFE.out.symm.trans hfo
          unfold Nd.zero at hnd
          injection hnd with n1 n2 n3 n4 n5 n6 n7 n8 n9 n10 n11 n12
          subst n1 n2 n3 n4 n5 n6 n7 n8 n9 n10 n11 n12
          have cs := Same_any Nd.zero (.slice fo 0 fc) (.slice none 0 0) W4.drew (HO4.out.sees.below (Below.refl _ W4).drew) (E.sees_none _ _ (Nat.zero_le _) _)
          dsimp only [Nd.v, Nd.zero] at cs
          have hdr : Below W4.heap.size W4 W4.drew := (Below.refl _ W4).drew
          have kb := HBX.out.below hdr
          clear hz hz1' hnot hfo hdr c0 c1 c2 c3 c4 c5 c6 c7 c8 c9 c10 c11
          refine wp_region_noPanic ?_
          refine wp_region_held_drew (S := fun w' => (w'.cell? ⟨w3.heap.size, 0, none⟩ = some (.int .i64 0) ∧ w'.cell? ⟨w3.heap.size, 1, none⟩ = some (.int .i64 0) ∧ w'.cell? ⟨w3.heap.size, 2, none⟩ = some (.int .i64 0) ∧ w'.cell? ⟨w3.heap.size, 3, none⟩ = some (.int .i64 0) ∧ w'.cell? ⟨w3.heap.size, 4, none⟩ = some (.int .i64 0) ∧ w'.cell? ⟨w3.heap.size, 5, none⟩ = some (.int .i64 0) ∧ w'.cell? ⟨w3.heap.size, 6, none⟩ = some (.int .i64 0) ∧ w'.cell? ⟨w3.heap.size, 7, none⟩ = some (.int .i64 0) ∧ w'.cell? ⟨w3.heap.size, 8, none⟩ = some (.int .i64 0) ∧ w'.cell? ⟨w3.heap.size, 9, none⟩ = some (.int .i64 0) ∧ w'.cell? ⟨w3.heap.size, 10, none⟩ = some (.string ⟨#[]⟩) ∧ w'.cell? ⟨w3.heap.size, 11, none⟩ = some (.slice fo 0 fc))) (by kernel_rfl) ?_ (fun hHeld => ?_)
          · exact kb.facts
          refine tk (i := 0) (d := 112) (v := (.bool false)) rfl rfl (by kernel_rfl) (by kernel_rfl) (by kernel_rfl) (fun _ _ _ h => h) (Or.inl ⟨by rfl, fun w9 hSw => ?_⟩) (by assumption) ?_
          · dsimp only at hSw; go_simp
          simp only [Act.put, List.setIfInBounds_toArray, List.set_cons_zero, List.set_cons_succ]
          refine tk (i := 1) (d := 113) (v := (.int .i64 z)) rfl rfl (by kernel_rfl) (by kernel_rfl) (by kernel_rfl) (fun _ _ _ h => h) (Or.inl ⟨by rfl, fun w9 hSw => ?_⟩) (by assumption) ?_
          · dsimp only at hSw; go_simp
          simp only [Act.put, List.setIfInBounds_toArray, List.set_cons_zero, List.set_cons_succ]
          refine tk (i := 2) (d := 114) (v := (.bool false)) rfl rfl (by kernel_rfl) (by kernel_rfl) (by kernel_rfl) (fun _ _ _ h => h) (Or.inl ⟨by rfl, fun w9 hSw => ?_⟩) (by assumption) ?_
          · dsimp only at hSw; go_simp
          simp only [Act.put, List.setIfInBounds_toArray, List.set_cons_zero, List.set_cons_succ]
          refine tk (i := 3) (d := 115) (v := (.bool true)) rfl rfl (by kernel_rfl) (by kernel_rfl) (by kernel_rfl) (fun _ _ _ h => h) (Or.inl ⟨by rfl, fun w9 hSw => ?_⟩) (by assumption) ?_
          · dsimp only at hSw; go_simp
          simp only [Act.put, List.setIfInBounds_toArray, List.set_cons_zero, List.set_cons_succ]
          refine tk (i := 4) (d := 116) (v := (.bool true)) rfl rfl (by kernel_rfl) (by kernel_rfl) (by kernel_rfl) (fun _ _ _ h => h) (Or.inl ⟨by rfl, fun w9 hSw => ?_⟩) (by assumption) ?_
          · dsimp only at hSw; go_simp
          simp only [Act.put, List.setIfInBounds_toArray, List.set_cons_zero, List.set_cons_succ]
          refine tk (i := 5) (d := 117) (v := (.int .i64 z)) rfl rfl (by kernel_rfl) (by kernel_rfl) (by kernel_rfl) (fun _ _ _ h => h) (Or.inl ⟨by rfl, fun w9 hSw => ?_⟩) (by assumption) ?_
          · dsimp only at hSw; go_simp
          simp only [Act.put, List.setIfInBounds_toArray, List.set_cons_zero, List.set_cons_succ]
          refine tk (i := 6) (d := 118) (v := (.bool false)) rfl rfl (by kernel_rfl) (by kernel_rfl) (by kernel_rfl) (fun _ _ _ h => h) (Or.inl ⟨by rfl, fun w9 hSw => ?_⟩) (by assumption) ?_
          · dsimp only at hSw; go_simp
          simp only [Act.put, List.setIfInBounds_toArray, List.set_cons_zero, List.set_cons_succ]
          refine tk (i := 7) (d := 119) (v := (.bool false)) rfl rfl (by kernel_rfl) (by kernel_rfl) (by kernel_rfl) (fun _ _ _ h => h) (Or.inl ⟨by rfl, fun w9 hSw => ?_⟩) (by assumption) ?_
          · dsimp only at hSw; go_simp
          simp only [Act.put, List.setIfInBounds_toArray, List.set_cons_zero, List.set_cons_succ]
          refine tk (i := 8) (d := 120) (v := undef) rfl rfl (by kernel_rfl) (by kernel_rfl) (by kernel_rfl) (fun _ _ _ h => h) (Or.inr ⟨by rfl, rfl⟩) (by assumption) ?_
          simp only [Act.put, List.setIfInBounds_toArray, List.set_cons_zero, List.set_cons_succ]
          refine tk (i := 9) (d := 121) (v := undef) rfl rfl (by kernel_rfl) (by kernel_rfl) (by kernel_rfl) (fun _ _ _ h => h) (Or.inr ⟨by rfl, rfl⟩) (by assumption) ?_
          simp only [Act.put, List.setIfInBounds_toArray, List.set_cons_zero, List.set_cons_succ]
          refine tk (i := 10) (d := 122) (v := undef) rfl rfl (by kernel_rfl) (by kernel_rfl) (by kernel_rfl) (fun _ _ _ h => h) (Or.inr ⟨by rfl, rfl⟩) (by assumption) ?_
          simp only [Act.put, List.setIfInBounds_toArray, List.set_cons_zero, List.set_cons_succ]
          refine tk (i := 11) (d := 123) (v := undef) rfl rfl (by kernel_rfl) (by kernel_rfl) (by kernel_rfl) (fun _ _ _ h => h) (Or.inr ⟨by rfl, rfl⟩) (by assumption) ?_
          simp only [Act.put, List.setIfInBounds_toArray, List.set_cons_zero, List.set_cons_succ]
          refine tk (i := 12) (d := 124) (v := undef) rfl rfl (by kernel_rfl) (by kernel_rfl) (by kernel_rfl) (fun _ _ _ h => h) (Or.inr ⟨by rfl, rfl⟩) (by assumption) ?_
          simp only [Act.put, List.setIfInBounds_toArray, List.set_cons_zero, List.set_cons_succ]
          refine tk (i := 13) (d := 125) (v := undef) rfl rfl (by kernel_rfl) (by kernel_rfl) (by kernel_rfl) (fun _ _ _ h => h) (Or.inr ⟨by rfl, rfl⟩) (by assumption) ?_
          simp only [Act.put, List.setIfInBounds_toArray, List.set_cons_zero, List.set_cons_succ]
          refine tk (i := 14) (d := 126) (v := (.bool false)) rfl rfl (by kernel_rfl) (by kernel_rfl) (by kernel_rfl) (fun _ _ _ h => h) (Or.inl ⟨by rfl, fun w9 hSw => ?_⟩) (by assumption) ?_
          · dsimp only at hSw; go_simp
          simp only [Act.put, List.setIfInBounds_toArray, List.set_cons_zero, List.set_cons_succ]
          refine tk (i := 15) (d := 127) (v := (.bool false)) rfl rfl (by kernel_rfl) (by kernel_rfl) (by kernel_rfl) (fun _ _ _ h => h) (Or.inl ⟨by rfl, fun w9 hSw => ?_⟩) (by assumption) ?_
          · dsimp only at hSw; go_simp
          simp only [Act.put, List.setIfInBounds_toArray, List.set_cons_zero, List.set_cons_succ]
          refine tk (i := 16) (d := 128) (v := (.int .i64 z)) rfl rfl (by kernel_rfl) (by kernel_rfl) (by kernel_rfl) (fun _ _ _ h => h) (Or.inl ⟨by rfl, fun w9 hSw => ?_⟩) (by assumption) ?_
          · dsimp only at hSw; go_simp
          simp only [Act.put, List.setIfInBounds_toArray, List.set_cons_zero, List.set_cons_succ]
          refine tk (i := 17) (d := 129) (v := (.bool true)) rfl rfl (by kernel_rfl) (by kernel_rfl) (by kernel_rfl) (fun _ _ _ h => h) (Or.inl ⟨by rfl, fun w9 hSw => ?_⟩) (by assumption) ?_
          · dsimp only at hSw; go_simp
          simp only [Act.put, List.setIfInBounds_toArray, List.set_cons_zero, List.set_cons_succ]
          refine tk (i := 18) (d := 130) (v := (.bool true)) rfl rfl (by kernel_rfl) (by kernel_rfl) (by kernel_rfl) (fun _ _ _ h => h) (Or.inl ⟨by rfl, fun w9 hSw => ?_⟩) (by assumption) ?_
          · dsimp only at hSw; go_simp
          simp only [Act.put, List.setIfInBounds_toArray, List.set_cons_zero, List.set_cons_succ]
          refine tk (i := 19) (d := 131) (v := (.agg #[.int .i64 0, .int .i64 0, .int .i64 0, .int .i64 0, .int .i64 0, .int .i64 0, .int .i64 0, .int .i64 0, .int .i64 0, .int .i64 0, .string ⟨#[]⟩, .slice fo 0 fc])) rfl rfl (by kernel_rfl) (by kernel_rfl) (by kernel_rfl) (fun _ _ _ h => h) (Or.inl ⟨by rfl, fun w9 hSw => ?_⟩) (by assumption) ?_
          · dsimp only at hSw; go_simp
          simp only [Act.put, List.setIfInBounds_toArray, List.set_cons_zero, List.set_cons_succ]
          refine tk (i := 20) (d := 132) (v := (.agg #[.int .i64 0, .int .i64 0, .int .i64 0, .int .i64 0, .int .i64 0, .int .i64 0, .int .i64 0, .int .i64 0, .int .i64 0, .int .i64 0, .string ⟨#[]⟩, .slice none 0 0])) rfl rfl (by kernel_rfl) (by kernel_rfl) (by kernel_rfl) (fun _ _ _ h => h) (Or.inl ⟨by rfl, fun w9 hSw => ?_⟩) (by assumption) ?_
          · dsimp only at hSw; go_simp
          simp only [Act.put, List.setIfInBounds_toArray, List.set_cons_zero, List.set_cons_succ]
          refine wpAnyH_ready (rs := [21]) (by kernel_rfl) (by simp) ?_
          refine AllReadyH.cons rfl (fun K hK => ?_) AllReadyH.nil
          go_simp
          go_at_call 14
          refine cs.mono ?_
          rintro e w6 ⟨rfl, hb6⟩
          have kb6 := kb.below hb6
          refine hK.out _ _ kb6.facts (fun hHeld2 => ?_)
          clear hK K
          refine tk (i := 22) (d := 134) (v := (.bool true)) rfl rfl (by kernel_rfl) (by kernel_rfl) (by kernel_rfl) (fun _ _ _ h => h) (Or.inl ⟨by rfl, fun w9 hSw => ?_⟩) (by assumption) ?_
          · dsimp only at hSw; go_simp
          simp only [Act.put, List.setIfInBounds_toArray, List.set_cons_zero, List.set_cons_succ]
          refine tk (i := 23) (d := 135) (v := (.bool true)) rfl rfl (by kernel_rfl) (by kernel_rfl) (by kernel_rfl) (fun _ _ _ h => h) (Or.inl ⟨by rfl, fun w9 hSw => ?_⟩) (by assumption) ?_
          · dsimp only at hSw; go_simp
          simp only [Act.put, List.setIfInBounds_toArray, List.set_cons_zero, List.set_cons_succ]
          refine tk (i := 24) (d := 136) (v := (.bool true)) rfl rfl (by kernel_rfl) (by kernel_rfl) (by kernel_rfl) (fun _ _ _ h => h) (Or.inl ⟨by rfl, fun w9 hSw => ?_⟩) (by assumption) ?_
          · dsimp only at hSw; go_simp
          simp only [Act.put, List.setIfInBounds_toArray, List.set_cons_zero, List.set_cons_succ]
          refine tk (i := 25) (d := 137) (v := (.bool true)) rfl rfl (by kernel_rfl) (by kernel_rfl) (by kernel_rfl) (fun _ _ _ h => h) (Or.inl ⟨by rfl, fun w9 hSw => ?_⟩) (by assumption) ?_
          · dsimp only at hSw; go_simp
          simp only [Act.put, List.setIfInBounds_toArray, List.set_cons_zero, List.set_cons_succ]
          refine wpAnyH_ready (rs := [26]) (by kernel_rfl) (by simp) ?_
          refine AllReadyH.cons rfl (fun K hK => ?_) AllReadyH.nil
          go_simp
          go_at_call 7
          refine (awake_any _).mono ?_
          rintro e w7 ⟨rfl, hb7⟩
          have kb7 := kb6.below hb7
          refine hK.out _ _ kb7.facts (fun hHeld3 => ?_)
          clear hK K
          refine tk (i := 27) (d := 139) (v := (.bool true)) rfl rfl (by kernel_rfl) (by kernel_rfl) (by kernel_rfl) (fun _ _ _ h => h) (Or.inl ⟨by rfl, fun w9 hSw => ?_⟩) (by assumption) ?_
          · dsimp only at hSw; go_simp
          simp only [Act.put, List.setIfInBounds_toArray, List.set_cons_zero, List.set_cons_succ]
          refine tk (i := 28) (d := 4) (v := (.bool true)) rfl rfl (by kernel_rfl) (by kernel_rfl) (by kernel_rfl) (fun _ _ _ h => h) (Or.inl ⟨by rfl, fun w9 hSw => ?_⟩) (by assumption) ?_
          · dsimp only at hSw; go_simp
          simp only [Act.put, List.setIfInBounds_toArray, List.set_cons_zero, List.set_cons_succ]
          refine wpAnyH_done (by kernel_rfl) ?_ _
          refine NoPanic.normal ?_
          go_wp2
          go_ret
          have q1 := HB4.out.drew
          have q2 := q1.trans (hb6.mono q1.size)
          exact ⟨rfl, q2.trans (hb7.mono q2.size)⟩
end Go.Proofs.Ytjliinpjkhfdbaa.T
