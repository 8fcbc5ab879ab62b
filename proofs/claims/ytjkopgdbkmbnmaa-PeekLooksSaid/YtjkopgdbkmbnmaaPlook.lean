/-
  What a directory's list has, names rising, is looked up there: PeekLooks.
-/
import Derived.Test.YtjkopgdbkmbnmaaPlmath
import Derived.Deep.RegionHeld3
namespace Go.Proofs.Ytjkopgdbkmbnmaa.P
open Go.RowKit Go.Shelf G
attribute [local go_sem] Oper.semAt_some

/-- what is read: who asks, and a name -/
def Src (C g j : Nat) (cu cg : Int) (s : List UInt8) (w : World) : Prop := w.cell? ⟨C, 0, none⟩ = some (.int .i64 cu) ∧ w.cell? ⟨C, 1, none⟩ = some (.int .i64 cg) ∧ w.cell? ⟨g, j, none⟩ = some (.string ⟨s.toArray⟩)
section
variable {C g j : Nat} {cu cg : Int} {s : List UInt8} {w w' : World}
theorem Src.all (c : Src C g j cu cg s w) : w.cell? ⟨C, 0, none⟩ = some (.int .i64 cu) ∧ w.cell? ⟨C, 1, none⟩ = some (.int .i64 cg) ∧ w.cell? ⟨g, j, none⟩ = some (.string ⟨s.toArray⟩) := c
theorem Src.next (c : Src C g j cu cg s w) (hb : Below w.heap.size w w') : Src C g j cu cg s w' := by
  obtain ⟨c0, c1, c2⟩ := c
  refine ⟨?_, ?_, ?_⟩
  · rw [hb.cell (World.block_lt_of_cell? _ _ c0)]; exact c0
  · rw [hb.cell (World.block_lt_of_cell? _ _ c1)]; exact c1
  · rw [hb.cell (World.block_lt_of_cell? _ _ c2)]; exact c2
theorem Src.drew (c : Src C g j cu cg s w) : Src C g j cu cg s w.drew := c.next ((Below.refl _ w).drew)
end
set_option maxRecDepth 100000 in
set_option maxHeartbeats 32000000 in
theorem looks_any {v : Value} {ls : List It} {w : World} (cu cg : Int) (hS : ItSees v ls w) :
    Calls Try.prog 4 #[v, .agg #[.int .i64 cu, .int .i64 cg]] w fun e w' => e = .returned (.bool true) ∧ Below w.heap.size w w' := by
  have hS1 := hS
  obtain ⟨oi, ci, rfl, hmi, _⟩ := hS
  have hC : CrBox w.heap.size cu cg (w.alloc (.cells #[.int .i64 cu, .int .i64 cg] 24)) := heap_alloc_new w _
  have hb1 : Below w.heap.size w (w.alloc (.cells #[.int .i64 cu, .int .i64 cg] 24)) := (Below.refl _ _).alloc (Nat.le_refl _) _
  have cF := Few_any (hS1.below hb1)
  have cG := fun hf => Grow_any 60000 60000 (by decide) (hS1.below hb1) hf
  have hA := fun W => awake_any W
  clear hmi hS1
  go_enter Try.func4, Try.ntmps4
  go_upto_region 1 with fail
  generalize w.alloc (.cells #[.int .i64 cu, .int .i64 cg] 24) = W1 at *
  cases hf : few ls with
  | false =>
    rw [hf] at cF
    have cA := hA W1
    clear cG hA
    go_wp2_with (first
      | (go_at_call 5; refine cF.mono ?_; rintro e w2 ⟨rfl, rfl⟩)
      | (go_at_call 6; refine cA.mono ?_; rintro e w3 ⟨rfl, hb3⟩))
    go_ret
    exact ⟨rfl, below_two hb1 hb3⟩
  | true =>
    rw [hf] at cF
    have cG1 := cG hf
    have hgood := good_all hf
    generalize growAll (begin_ bare 1 60000 60000) ls = st at *
    have HG := Lib.hid hgood
    have hlast := hgood.last
    have hlo := hgood.gr.inv.lo
    clear cG hf hgood
    go_upto_region 4 with (first
      | (go_at_call 5; refine cF.mono ?_; rintro e w2 ⟨rfl, rfl⟩)
      | (go_at_call 7; refine cG1.mono ?_; rintro e W2 ⟨X, A, M, F, rfl, ⟨mv, nv, dv, hW, hF⟩, hb2⟩))
    have hb12 := below_two hb1 hb2
    have hC2 : CrBox w.heap.size cu cg W2 := hC.below hb2
    have x2 := hF.facts.2.2.1
    have hFl := hF.ltF
    have HW := Lib.hid hW; have HC := Lib.hid hC2
    have HB12 := Lib.hid hb12
    clear cF cG1 hb1 hb2 hC hW hF hb12 hC2
    go_wp2
    go_loopw [8] (fun i wr => ∃ z : Int, i = .int .i64 z ∧ 1 ≤ z ∧ z ≤ st.last + 1 ∧ Below W2.heap.size W2 wr) (fun i _ => (st.last + 1 - RowKit.intOf i).toNat)
    case atStart => exact ⟨1, rfl, by omega, by omega, Below.refl _ _⟩
    case round =>
      obtain ⟨z, rfl, hz1, hz2, hb⟩ := hrel
      have y2 := (hb.cell (p := ⟨F, 2, none⟩) hFl).trans x2
      by_cases hlt : z ≤ st.last
      · have hwz : IntKind.i64.wrap (z + 1) = z + 1 := wrap_id (by omega) (by omega)
        have hwf : T.Wf z := T.wf_of (by omega) (by omega)
        have c3 := List_any HG.out.gr.inv (HW.out.below hb) cu cg z hwf
        have c9 := fun W (hh : Below W2.heap.size W2 W) n => Look_any HG.out.gr.inv (HW.out.below hh) HG.out.tr cu cg z hwf n
        have hE : dirE st cu cg z 4 ≠ 0 → shown st (onlyIf (dirE st cu cg z 4) (gets st.n z)).es = [] := fun e => by rw [only_err e]; rfl
        have hL : ∀ (i : Nat) (x : E.Ent), (shown st (onlyIf (dirE st cu cg z 4) (gets st.n z)).es)[i]? = some x → lookE st cu cg z x.name = 6 ∨ (lookE st cu cg z x.name = 0 ∧ lookN st cu cg z x.name = x.no) := fun i x hx => by
          by_cases e : dirE st cu cg z 4 = 0
          · rw [e, only_ok] at hx
            obtain ⟨y, hy, rfl⟩ := shown_at hx
            exact looked HG.out.gr.inv HG.out.tr e hy
          · rw [hE e] at hx; simp at hx
        have hR : ∀ (i : Nat) (x y : E.Ent), (shown st (onlyIf (dirE st cu cg z 4) (gets st.n z)).es)[i]? = some x → (shown st (onlyIf (dirE st cu cg z 4) (gets st.n z)).es)[i + 1]? = some y → x.name < y.name := fun i x y hx hy => by
          by_cases e : dirE st cu cg z 4 = 0
          · rw [e, only_ok] at hx hy
            obtain ⟨a, ha, rfl⟩ := shown_at hx
            obtain ⟨b, hb, rfl⟩ := shown_at hy
            show a.name < b.name
            exact rising (K.gets_up HG.out.tr z) ha hb
          · rw [hE e] at hx; simp at hx
        have hfew := shown_few HG.out.gr.inv (dirE st cu cg z 4) z
        generalize shown st (onlyIf (dirE st cu cg z 4) (gets st.n z)).es = es at *
        generalize dirE st cu cg z 4 = e2 at *
        generalize lookE st cu cg z = le at *
        generalize lookN st cu cg z = ln at *
        have HL := Lib.hid hL; have HR := Lib.hid hR; have HE := Lib.hid hE
        obtain ⟨k0, k1⟩ := (HC.out.below hb).facts
        clear hL hR hE
        go_upto_region 10 with (go_at_call 10; refine c3.mono ?_; rintro e w3 ⟨u3, rfl, hO3, hb3⟩; obtain ⟨o3, cc3, rfl⟩ := T.own_slice hO3)
        obtain ⟨_, _, hsl, _, hcells⟩ := hO3.sees
        cases hsl
        have HX := Lib.hid hcells
        have hb4 := hb.trans (hb3.mono hb.size)
        have HB4 := Lib.hid hb4
        have HC4 := Lib.hid (HC.out.below hb4)
        clear hO3 hcells c3 k0 k1 hb hb3
        by_cases h0 : e2 = 0
        · have h0' : (e2 == 0) = true := by simpa using h0
          subst h0
          clear HE h0'
          go_wp2
          go_loopw [11] (fun i wr => ∃ j : Nat, i = .int .i64 j ∧ j ≤ es.length ∧ Below w3.heap.size w3 wr) (fun i _ => es.length - (RowKit.intOf i).toNat)
          case atStart => exact ⟨0, rfl, Nat.zero_le _, Below.refl _ _⟩
          case round =>
            obtain ⟨j, rfl, hj, hb⟩ := hrel
            by_cases hjl : j < es.length
            · obtain ⟨x, hx⟩ : ∃ x, es[j]? = some x := ⟨_, List.getElem?_eq_getElem hjl⟩
              obtain ⟨g, o, rfl, d0, d1⟩ := HX.out j x hx
              have hg := World.block_lt_of_cell? _ _ d0
              have r0 := (hb.cell (p := ⟨g, o + j * 2, none⟩) hg).trans d0
              have r1 := (hb.cell (p := ⟨g, o + j * 2 + 1, none⟩) hg).trans d1
              obtain ⟨k0, k1⟩ := (HC4.out.below hb).facts
              have hbw := HB4.out.trans (hb.mono HB4.out.size)
              have q9 := fun W (hh : Below wr.heap.size wr W) => c9 W (hbw.trans (hh.mono hbw.size)) x.name
              have hlook := HL.out j x hx
              obtain ⟨gl, hgl⟩ : ∃ y, le x.name = y := ⟨_, rfl⟩
              obtain ⟨kl, hkl⟩ : ∃ y, ln x.name = y := ⟨_, rfl⟩
              rw [hgl, hkl] at hlook
              rw [hgl, hkl] at q9
              have kw : Src w.heap.size g (o + j * 2) cu cg x.name wr := ⟨k0, k1, r0⟩
              have kp : Src w.heap.size g (o + j * 2) cu cg x.name wr.drew := kw.drew
              have bdr : Below wr.heap.size wr wr.drew := (Below.refl _ _).drew
              have HBW := Lib.hid hbw
              have hw3 : w3.heap.size ≤ wr.heap.size := hb.size
              clear hgl hkl d0 d1 hbw kw k0 k1 r0
              go_upto_region 15 with fail
              go_region_held3 (fun w' => w'.cell? ⟨w.heap.size, 0, none⟩ = some (.int .i64 cu) ∧ w'.cell? ⟨w.heap.size, 1, none⟩ = some (.int .i64 cg) ∧ w'.cell? ⟨g, o + j * 2, none⟩ = some (.string ⟨x.name.toArray⟩)) (with_reducible first | exact Src.all kq | exact Src.all kp)
                ((go_at_call 17; refine (q9 _ (by with_reducible exact bdr)).mono ?_; rintro e w5 ⟨rfl, bb5⟩; have kq : Src w.heap.size g (o + j * 2) cu cg x.name w5 := (by with_reducible exact Src.next kp bb5)))
              have hb5 : Below wr.heap.size wr w5 := bdr.trans bb5
              have s0 := kq.2.2
              have s1 := (hb5.cell (p := ⟨g, o + j * 2 + 1, none⟩) (Nat.lt_of_lt_of_le hg hw3)).trans r1
              have hbw5 := hb.trans (hb5.mono hw3)
              have HBW5 := Lib.hid hbw5
              clear kq kp bdr bb5 q9 r1 hb hb5
              have hwj : IntKind.i64.wrap ((j : Int) + 1) = (j : Int) + 1 := wrap_id (by omega) (by omega)
              have hpre : j = 0 ∨ ∃ m y, j = m + 1 ∧ es[m]? = some y := by
                cases j with
                | zero => exact .inl rfl
                | succ m => exact .inr ⟨m, _, rfl, List.getElem?_eq_getElem (show m < es.length by omega)⟩
              rcases hlook with h6 | ⟨h6, h7⟩
              · subst h6
                rcases hpre with rfl | ⟨m, y, hm, hy⟩
                · skip
                  go_upto_region 16 with fail
                  go_quiet (fail)
                  go_wp2
                  go_roundw
                  case rel => exact ⟨0 + 1, by go_num, by omega, below_drewN HBW5.out nq⟩
                  case measure => simp [RowKit.intOf]; omega
                · obtain ⟨g', o', e', d2, _⟩ := HX.out m y hy
                  cases e'
                  have t0 := (hbw5.cell (p := ⟨g, o + m * 2, none⟩) hg).trans d2
                  have hlt2 := HR.out m y x hy (by rw [← hm]; exact hx)
                  have hge : ∀ W, (binOp .geq 9 (.string ⟨y.name.toArray⟩) (.string ⟨x.name.toArray⟩)).run Try.prog W = .ok (.bool false) W := fun W => by rw [str_geq, E.less_yes hlt2]; rfl
                  have hj0 : (0 : Int) < (j : Int) := by omega
                  have hjn : 0 < j := by omega
                  have hwm : IntKind.i64.wrap ((j : Int) - 1) = (m : Int) := by rw [show (j : Int) - 1 = (m : Int) by omega]; exact wrap_id (by omega) (by omega)
                  have hml : (m : Int) < (es.length : Int) := by omega
                  clear d2 hlt2 hy hm hx
                  go_upto_region 16 with fail
                  go_quiet (fail)
                  go_wp2
                  go_roundw
                  case rel => exact ⟨j + 1, by go_num, by omega, below_drewN HBW5.out nq⟩
                  case measure => simp [RowKit.intOf]; omega
              · subst h6
                subst h7
                rcases hpre with rfl | ⟨m, y, hm, hy⟩
                · skip
                  go_upto_region 16 with fail
                  go_quiet (fail)
                  go_wp2
                  go_roundw
                  case rel => exact ⟨0 + 1, by go_num, by omega, below_drewN HBW5.out nq⟩
                  case measure => simp [RowKit.intOf]; omega
                · obtain ⟨g', o', e', d2, _⟩ := HX.out m y hy
                  cases e'
                  have t0 := (hbw5.cell (p := ⟨g, o + m * 2, none⟩) hg).trans d2
                  have hlt2 := HR.out m y x hy (by rw [← hm]; exact hx)
                  have hge : ∀ W, (binOp .geq 9 (.string ⟨y.name.toArray⟩) (.string ⟨x.name.toArray⟩)).run Try.prog W = .ok (.bool false) W := fun W => by rw [str_geq, E.less_yes hlt2]; rfl
                  have hj0 : (0 : Int) < (j : Int) := by omega
                  have hjn : 0 < j := by omega
                  have hwm : IntKind.i64.wrap ((j : Int) - 1) = (m : Int) := by rw [show (j : Int) - 1 = (m : Int) by omega]; exact wrap_id (by omega) (by omega)
                  have hml : (m : Int) < (es.length : Int) := by omega
                  clear d2 hlt2 hy hm hx
                  go_upto_region 16 with fail
                  go_quiet (fail)
                  go_wp2
                  go_roundw
                  case rel => exact ⟨j + 1, by go_num, by omega, below_drewN HBW5.out nq⟩
                  case measure => simp [RowKit.intOf]; omega
            · have hjl' : ¬ (j : Int) < (es.length : Int) := by omega
              go_wp2
              go_roundw
              case rel => exact ⟨z + 1, by first | rfl | rw [hwz], by omega, by omega, HB4.out.trans (hb.mono HB4.out.size)⟩
              case measure => simp [RowKit.intOf]; omega
        · have h0' : (e2 == 0) = false := by simpa using h0
          have hes : es.length = 0 := by rw [HE.out h0]; rfl
          have HES := Lib.hid hes
          have hl1 : ¬ 0 < es.length := by omega
          have hl2 : ¬ (0 : Int) < (es.length : Int) := by omega
          clear HE hes
          go_wp2
          go_loopw [11] (fun i wr => ∃ j : Nat, i = .int .i64 j ∧ j ≤ es.length ∧ Below w3.heap.size w3 wr) (fun i _ => es.length - (RowKit.intOf i).toNat)
          case atStart => exact ⟨0, rfl, Nat.zero_le _, Below.refl _ _⟩
          case round =>
            obtain ⟨j, rfl, hj, hb⟩ := hrel
            have hjl : ¬ j < es.length := by omega
            have hjl' : ¬ (j : Int) < (es.length : Int) := by omega
            go_wp2
            go_roundw
            case rel => exact ⟨z + 1, by first | rfl | rw [hwz], by omega, by omega, HB4.out.trans (hb.mono HB4.out.size)⟩
            case measure => simp [RowKit.intOf]; omega
      · have hlt' : ¬ z ≤ st.last := hlt
        have cA := hA wr
        clear hA
        go_wp2_with (go_at_call 6; refine cA.mono ?_; rintro e w3 ⟨rfl, hb3⟩)
        go_ret
        exact ⟨rfl, below_two (HB12.out.trans (hb.mono HB12.out.size)) hb3⟩
end Go.Proofs.Ytjkopgdbkmbnmaa.P
