/-
  Where any paths lead is the reference's: SeekTells.
-/
import Derived.Test.YtlceaecibjbeaaaGreatKawk
import Derived.Test.YtlceaecibjbeaaaGreatRpath2
import Derived.Deep.RegionHeld3
import Derived.Deep.DeepCutAuto
namespace Go.Proofs.YtlceaecibjbeaaaGreat.K
open Go.RowKit Go.Shelf G
attribute [local go_sem] Oper.semAt_some

/-- who reads this slice sees these texts, wherever it lies -/
def Txts (v : Value) (ps : List ByteArray) (w : World) : Prop :=
  ∃ oa cap, v = .slice oa ps.length cap ∧ (ps.length ≤ cap ∧ cap ≤ maxLen) ∧ ∀ k p, ps[k]? = some p → ∃ g o, oa = some ⟨g, o, none⟩ ∧ w.cell? ⟨g, o + k, none⟩ = some (.string p)
theorem txts_none (oa : Option Addr) (c : Nat) (hc : c ≤ maxLen) (w : World) : Txts (.slice oa 0 c) [] w := ⟨oa, c, rfl, ⟨Nat.zero_le _, hc⟩, fun k x h => by simp at h⟩
/-- what the two calls read: who asks, and a text -/
def Src (C g j : Nat) (cu cg : Int) (s : ByteArray) (w : World) : Prop := w.cell? ⟨C, 0, none⟩ = some (.int .i64 cu) ∧ w.cell? ⟨C, 1, none⟩ = some (.int .i64 cg) ∧ w.cell? ⟨g, j, none⟩ = some (.string s)
section
variable {C g j : Nat} {cu cg : Int} {s : ByteArray} {w w' : World}
theorem Src.all (c : Src C g j cu cg s w) : w.cell? ⟨C, 0, none⟩ = some (.int .i64 cu) ∧ w.cell? ⟨C, 1, none⟩ = some (.int .i64 cg) ∧ w.cell? ⟨g, j, none⟩ = some (.string s) := c
theorem Src.later {n : Nat} (c : Src C g j cu cg s w) (hb : Below n w w') (l0 : C < n) (l1 : g < n) : Src C g j cu cg s w' := by
  obtain ⟨c0, c1, c2⟩ := c
  refine ⟨?_, ?_, ?_⟩ <;> rw [hb.cell (by assumption)] <;> assumption
theorem Src.next (c : Src C g j cu cg s w) (hb : Below w.heap.size w w') : Src C g j cu cg s w' := c.later hb (World.block_lt_of_cell? _ _ c.1) (World.block_lt_of_cell? _ _ c.2.2)
theorem Src.alloc (c : Src C g j cu cg s w) (o : Obj) : Src C g j cu cg s (w.alloc o) := c.next ((Below.refl _ w).alloc (Nat.le_refl _) o)
theorem Src.drew (c : Src C g j cu cg s w) : Src C g j cu cg s w.drew := c.next ((Below.refl _ w).drew)
end
/-- a box laid ahead of a call -/
theorem new_found {w w2 : World} (hb : Below ((w.alloc (.cells #[.int .i64 0, .string ⟨#[]⟩, .int .i64 0, .bool false] 33)).drew).heap.size ((w.alloc (.cells #[.int .i64 0, .string ⟨#[]⟩, .int .i64 0, .bool false] 33)).drew) w2) : FdBox w.heap.size noFd w2 :=
  (FdBox.below (FdBox.new noFd w) ((Below.refl _ _).drew)).below hb
theorem fill_below {b n : Nat} (hb : n ≤ b) (w : World) (f : Fd) : Below n w (fillF w b f) := below_fillF hb w f
theorem fd_eq {f : Fd} {v : Value} (h : v = f.v) : v = .agg #[.int .i64 f.dir, .string ⟨f.name.toArray⟩, .int .i64 f.no, .bool f.slash] := h
theorem Src.filled {C g j : Nat} {cu cg : Int} {s : ByteArray} {w : World} (c : Src C g j cu cg s w) {b : Nat} (l0 : C < b) (l1 : g < b) (fd : Int) (fn : List UInt8) (fo : Int) (fs : Bool) :
    Src C g j cu cg s ((((w.setCell ⟨b, 0, none⟩ (.int .i64 fd)).setCell ⟨b, 1, none⟩ (.string ⟨fn.toArray⟩)).setCell ⟨b, 2, none⟩ (.int .i64 fo)).setCell ⟨b, 3, none⟩ (.bool fs)) :=
  c.later (below_fillF (Nat.le_refl b) w ⟨fd, fn, fo, fs⟩) l0 l1
theorem Few_any {v : Value} {ls : List It} {w : World} (hS : ItSees v ls w) : Calls Tryz.prog 6 #[v] w fun e w' => e = .returned (.bool (few ls)) ∧ w = w' := by
  have hS1 := hS
  obtain ⟨oi, ci, rfl, hmi, _⟩ := hS
  have cF := few_any hS1 (by have := hmi.1; have := hmi.2; unfold maxLen at this; omega)
  generalize few ls = z at *
  go_enter Tryz.func6, Tryz.ntmps6
  go_wp2_with (go_at_call 16; refine cF.mono ?_; rintro e w2 ⟨rfl, rfl⟩)
  go_ret
  exact ⟨rfl, rfl⟩
/-- what holds of every world of such items -/
structure Good (st : St) : Prop where
  gr : Grown st
  tr : Tree st
  rg : Ranged st
  last : st.last ≤ 41
theorem good_all {ls : List It} (hf : few ls = true) : Good (growAll (begin_ bare 1 60000 60000) ls) := by
  obtain ⟨hf1, hf2⟩ := few_iff.1 hf
  have h1 : (begin_ bare 1 60000 60000).last + ls.length < 1000 := by show (1 : Int) + _ < _; omega
  obtain ⟨hG, hg1, hg2⟩ := grown_all (grown_new 60000 60000) ls (fun i hi => (hf1 i hi).2) h1
  have hT := tree_all (grown_new 60000 60000) (tree_new 60000 60000) ls (fun i hi => (hf1 i hi).2) h1
  have hl : (growAll (begin_ bare 1 60000 60000) ls).last ≤ 41 := by
    have : (begin_ bare 1 60000 60000).last = 1 := rfl
    omega
  exact ⟨hG, hT, hG.ranged (by omega), hl⟩
theorem rem_two (k : Nat) : ((k : Int).tmod 2 = ((k % 2 : Nat) : Int)) := by
  rw [Int.tmod_eq_emod_of_nonneg (by omega)]
  omega
set_option maxRecDepth 100000 in
set_option maxHeartbeats 16000000 in
theorem tells_any {v t : Value} {ls : List It} {ps : List ByteArray} {w : World} (cu cg : Int) (hS : ItSees v ls w) (hP : Txts t ps w) :
    Calls Tryz.prog 3 #[v, .agg #[.int .i64 cu, .int .i64 cg], t] w fun e w' => e = .returned (.bool true) ∧ Below w.heap.size w w' := by
  have hS1 := hS
  obtain ⟨oi, ci, rfl, hmi, _⟩ := hS
  obtain ⟨op, cp, rfl, hmp, hcells⟩ := hP
  have hC : CrBox w.heap.size cu cg (w.alloc (.cells #[.int .i64 cu, .int .i64 cg] 24)) := heap_alloc_new w _
  have hb1 : Below w.heap.size w (w.alloc (.cells #[.int .i64 cu, .int .i64 cg] 24)) := (Below.refl _ _).alloc (Nat.le_refl _) _
  have cF := Few_any (hS1.below hb1)
  have cG := fun hf => Grow_any 60000 60000 (by decide) (hS1.below hb1) hf
  have hA := fun W => awake_any W
  have HC := Lib.hid hcells
  clear hmi hcells hS1
  go_enter Tryz.func3, Tryz.ntmps3
  go_upto_region 1 with fail
  generalize w.alloc (.cells #[.int .i64 cu, .int .i64 cg] 24) = W1 at *
  cases hf : few ls with
  | false =>
    rw [hf] at cF
    have cA := hA W1
    clear cG hA
    go_wp2_with (first
      | (go_at_call 6; refine cF.mono ?_; rintro e w2 ⟨rfl, rfl⟩)
      | (go_at_call 7; refine cA.mono ?_; rintro e w3 ⟨rfl, hb3⟩))
    go_ret
    exact ⟨rfl, below_two hb1 hb3⟩
  | true =>
    rw [hf] at cF
    by_cases h12 : ps.length ≤ 12
    · have h12' : ¬ (12 : Int) < (ps.length : Int) := by omega
      have cG1 := cG hf
      have hgood := good_all hf
      generalize growAll (begin_ bare 1 60000 60000) ls = st at *
      have HG := Lib.hid hgood
      have hlast := hgood.last
      clear cG hf hgood
      go_upto_region 4 with (first
        | (go_at_call 6; refine cF.mono ?_; rintro e w2 ⟨rfl, rfl⟩)
        | (go_at_call 8; refine cG1.mono ?_; rintro e W2 ⟨X, A, M, F, rfl, ⟨mv, nv, dv, hW, hF⟩, hb2⟩))
      have hb12 := below_two hb1 hb2
      have hC2 : CrBox w.heap.size cu cg W2 := (hb2.block _ hC.lt).trans hC
      have cpath := fun fl (x : ByteArray) hx W (hb : Below W2.heap.size W2 W) => Path_any (by omega) HG.out.gr.inv HG.out.tr HG.out.rg (hW.below hb) cu cg x hx fl
      have crpath := fun fl (x : ByteArray) hx W (hb : Below W2.heap.size W2 W) => rpath_any (by omega) HG.out.gr.inv HG.out.tr (hF.below hb) cu cg x hx fl
      have hNN := hb12.size
      have hCl := hC2.lt
      have HB12 := Lib.hid hb12
      clear cF cG1 hb1 hb2 hC hW hF hb12
      go_wp2
      go_loopw [10] (fun i wr => ∃ k : Nat, i = .int .i64 k ∧ k ≤ ps.length ∧ Below W2.heap.size W2 wr) (fun i _ => ps.length - (RowKit.intOf i).toNat)
      case atStart => exact ⟨0, rfl, Nat.zero_le _, Below.refl _ _⟩
      case round =>
        obtain ⟨k, rfl, hk, hb⟩ := hrel
        by_cases hlt : k < ps.length
        · obtain ⟨x, hx⟩ : ∃ x, ps[k]? = some x := ⟨_, List.getElem?_eq_getElem hlt⟩
          obtain ⟨g, o, rfl, hc⟩ := HC.out k x hx
          have hg := World.block_lt_of_cell? _ _ hc
          have hc2 : wr.cell? ⟨g, o + k, none⟩ = some (.string x) := (hb.cell (p := ⟨g, o + k, none⟩) (Nat.lt_of_lt_of_le hg hNN)).trans ((HB12.out.cell (p := ⟨g, o + k, none⟩) hg).trans hc)
          have hCr : CrBox w.heap.size cu cg wr := (hb.block _ hC2.lt).trans hC2
          obtain ⟨k0, k1⟩ := hCr.facts
          have hCN := hCr.lt
          have hgN : g < wr.heap.size := Nat.lt_of_lt_of_le (Nat.lt_of_lt_of_le hg hNN) hb.size
          clear hc hx hCr
          by_cases h600 : x.size ≤ 600
          · have h600' : ¬ (600 : Int) < (x.size : Int) := by omega
            have hr2 := rem_two k
            obtain ⟨z, hz⟩ : ∃ z : Int, ((k % 2 : Nat) : Int) = z := ⟨_, rfl⟩
            rw [hz] at hr2
            obtain ⟨fl, hfl⟩ : ∃ b, (z == 1) = b := ⟨_, rfl⟩
            have cp1 := cpath fl x (by omega)
            have cr1 := crpath fl x (by omega)
            obtain ⟨⟨⟨fd, fn, fo, fs⟩, te⟩, hpe⟩ : ∃ y, path st cu cg fl x.data.toList = y := ⟨_, rfl⟩
            rw [hpe] at cp1 cr1
            dsimp only [Fd.v] at cp1 cr1
            clear hpe hz
            go_upto_region 11 with fail
            have kw : Src w.heap.size g (o + k) cu cg x wr := ⟨k0, k1, hc2⟩
            have kp : Src w.heap.size g (o + k) cu cg x wr.drew := kw.drew
            have cq : ∀ W, Below wr.heap.size wr W → _ := fun W h => cp1 W (hb.trans (h.mono hb.size))
            have cs : ∀ W, Below wr.heap.size wr W → _ := fun W h => cr1 W (hb.trans (h.mono hb.size))
            have bdr : Below wr.heap.size wr wr.drew := (Below.refl _ _).drew
            have bad : Below wr.heap.size wr ((wr.alloc (.cells #[.int .i64 0, .string ⟨#[]⟩, .int .i64 0, .bool false] 33)).drew) := ((Below.refl _ _).alloc (Nat.le_refl _) _).drew
            have CS := Lib.hid cs
            clear cpath crpath cp1 cr1 cs
            go_cut [11, 12] (fun sx sy wx => ∃ X, sx = .pointer (some ⟨X, 0, none⟩) ∧ sy = .int .i64 te ∧ FdBox X ⟨fd, fn, fo, fs⟩ wx ∧ Below wr.heap.size wr wx)
            case first =>
              go_region_held3 (fun w' => w'.cell? ⟨w.heap.size, 0, none⟩ = some (.int .i64 cu) ∧ w'.cell? ⟨w.heap.size, 1, none⟩ = some (.int .i64 cg) ∧ w'.cell? ⟨g, o + k, none⟩ = some (.string x)) (with_reducible first | exact Src.all kq | exact Src.all (Src.alloc kq _) | exact Src.all kp | exact Src.all (Src.drew (Src.alloc kw _)) | exact Src.all (Src.filled kq hCN hgN fd fn fo fs))
                (first
                  | (go_at_call 9; refine (cq _ (by with_reducible exact bdr)).mono ?_; rintro e w2 ⟨rfl, bb2⟩; have kq : Src w.heap.size g (o + k) cu cg x w2 := (by with_reducible exact Src.next kp bb2))
                  | (go_at_call 9; refine (cq _ (by with_reducible exact bad)).mono ?_; rintro e w2 ⟨rfl, bb2⟩; have kq : Src w.heap.size g (o + k) cu cg x w2 := (by with_reducible exact Src.next (Src.drew (Src.alloc kw _)) bb2); have nb := new_found bb2; obtain ⟨n0, n1, n2, n3⟩ := nb.facts; obtain ⟨z0, z1, z2, z3⟩ := nb.open))
              · go_wp2_with fail
                go_meet
                case rel =>
                  have h1 := below_two bdr bb2
                  exact ⟨w2.heap.size, rfl, rfl, FdBox.new ⟨fd, fn, fo, fs⟩ w2, h1.alloc h1.size _⟩
              · go_wp2_with fail
                go_meet
                case rel =>
                  have h1 := below_two bad bb2
                  exact ⟨wr.heap.size, rfl, rfl, nb.fill ⟨fd, fn, fo, fs⟩, h1.trans (below_fillF (Nat.le_refl _) w2 ⟨fd, fn, fo, fs⟩)⟩
            case rest =>
              obtain ⟨X3, rfl, rfl, bx, hbc⟩ := hcut
              have kw2 : Src w.heap.size g (o + k) cu cg x wc := kw.next hbc
              have kp2 : Src w.heap.size g (o + k) cu cg x wc.drew := kw2.drew
              have cs2 : ∀ W, Below wc.heap.size wc W → _ := fun W h => CS.out W (hbc.trans (h.mono hbc.size))
              have bdr2 : Below wc.heap.size wc wc.drew := (Below.refl _ _).drew
              have bad2 : Below wc.heap.size wc ((wc.alloc (.cells #[.int .i64 0, .string ⟨#[]⟩, .int .i64 0, .bool false] 33)).drew) := ((Below.refl _ _).alloc (Nat.le_refl _) _).drew
              have hCN2 : w.heap.size < wc.heap.size := Nat.lt_of_lt_of_le hCN hbc.size
              have hgN2 : g < wc.heap.size := Nat.lt_of_lt_of_le hgN hbc.size
              obtain ⟨k0', k1', hc2'⟩ := kw2
              have kw2 : Src w.heap.size g (o + k) cu cg x wc := ⟨k0', k1', hc2'⟩
              have HBX := Lib.hid bx
              clear kw kp bdr bad k0 k1 hc2 bx cq CS
              go_step
              go_step
              go_cut [13, 14] (fun sx sy wx => ∃ X, sx = .pointer (some ⟨X, 0, none⟩) ∧ sy = .int .i64 te ∧ FdBox X ⟨fd, fn, fo, fs⟩ wx ∧ Below wc.heap.size wc wx)
              case first =>
                go_region_held3 (fun w' => w'.cell? ⟨w.heap.size, 0, none⟩ = some (.int .i64 cu) ∧ w'.cell? ⟨w.heap.size, 1, none⟩ = some (.int .i64 cg) ∧ w'.cell? ⟨g, o + k, none⟩ = some (.string x)) (with_reducible first | exact Src.all kq | exact Src.all (Src.alloc kq _) | exact Src.all kp2 | exact Src.all (Src.drew (Src.alloc kw2 _)) | exact Src.all (Src.filled kq hCN2 hgN2 fd fn fo fs))
                  (first
                    | (go_at_call 10; refine (cs2 _ (by with_reducible exact bdr2)).mono ?_; rintro e w2 ⟨rfl, bb2⟩; have kq : Src w.heap.size g (o + k) cu cg x w2 := (by with_reducible exact Src.next kp2 bb2))
                    | (go_at_call 10; refine (cs2 _ (by with_reducible exact bad2)).mono ?_; rintro e w2 ⟨rfl, bb2⟩; have kq : Src w.heap.size g (o + k) cu cg x w2 := (by with_reducible exact Src.next (Src.drew (Src.alloc kw2 _)) bb2); have nb := new_found bb2; obtain ⟨n0, n1, n2, n3⟩ := nb.facts; obtain ⟨z0, z1, z2, z3⟩ := nb.open))
                · go_wp2_with fail
                  go_meet
                  case rel =>
                    have h1 := below_two bdr2 bb2
                    exact ⟨w2.heap.size, rfl, rfl, FdBox.new ⟨fd, fn, fo, fs⟩ w2, h1.alloc h1.size _⟩
                · go_wp2_with fail
                  go_meet
                  case rel =>
                    have h1 := below_two bad2 bb2
                    exact ⟨wc.heap.size, rfl, rfl, nb.fill ⟨fd, fn, fo, fs⟩, h1.trans (below_fillF (Nat.le_refl _) w2 ⟨fd, fn, fo, fs⟩)⟩
              case rest =>
                obtain ⟨Y3, rfl, rfl, by_, hbd⟩ := hcut
                rename_i wd
                have bx2 := HBX.out.below hbd
                obtain ⟨x0, x1, x2, x3⟩ := bx2.facts
                obtain ⟨y0, y1, y2, y3⟩ := by_.facts
                dsimp only at x0 x1 x2 x3 y0 y1 y2 y3
                have hbb := hb.trans ((below_two hbc hbd).mono hb.size)
                have HBB := Lib.hid hbb
                clear kw2 kp2 bdr2 bad2 k0' k1' hc2' bx2 by_ cs2 hbc hbd hbb HBX hb
                go_step
                go_step
                go_wp2
                go_roundw
                case rel => exact ⟨k + 1, by first | rfl | go_num, by omega, HBB.out⟩
                case measure => simp [RowKit.intOf]; omega
          · have h600' : (600 : Int) < (x.size : Int) := by omega
            have cA := hA wr
            clear cpath crpath
            go_wp2_with (go_at_call 7; refine cA.mono ?_; rintro e w3 ⟨rfl, hb3⟩)
            go_ret
            exact ⟨rfl, below_two (HB12.out.trans (hb.mono HB12.out.size)) hb3⟩
        · have cA := hA wr
          have hlt' : ¬ (k : Int) < (ps.length : Int) := by omega
          clear cpath crpath
          go_wp2_with (go_at_call 7; refine cA.mono ?_; rintro e w3 ⟨rfl, hb3⟩)
          go_ret
          exact ⟨rfl, below_two (HB12.out.trans (hb.mono HB12.out.size)) hb3⟩
    · have h12' : (12 : Int) < (ps.length : Int) := by omega
      have cA := hA W1
      clear cG hA
      go_wp2_with (first
        | (go_at_call 6; refine cF.mono ?_; rintro e w2 ⟨rfl, rfl⟩)
        | (go_at_call 7; refine cA.mono ?_; rintro e w3 ⟨rfl, hb3⟩))
      go_ret
      exact ⟨rfl, below_two hb1 hb3⟩
end Go.Proofs.YtlceaecibjbeaaaGreat.K
