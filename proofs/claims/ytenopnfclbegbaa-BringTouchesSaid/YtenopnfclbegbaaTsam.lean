/-
  The law's Same: two nodes that agree.
-/
import Derived.Test.YtenopnfclbegbaaTab
import Derived.BigQuiet
import Derived.Deep.RegionHeld3
import Derived.Laws.StructEq
namespace Go.Proofs.Ytenopnfclbegbaa.T
open Go.RowKit Go.Shelf

set_option maxRecDepth 100000 in
set_option maxHeartbeats 8000000 in
theorem Same_any (n : Nd) (s1 s2 : Value) (w : World) (h1 : E.Sees s1 n.es w) (h2 : E.Sees s2 n.es w) :
    Calls Try.prog 12 #[n.v s1, n.v s2] w fun e w' => e = .returned (.bool true) ∧ Below w.heap.size w w' := by
  obtain ⟨oa, ca, rfl, hm, hca⟩ := h1
  have hle : n.es.length ≤ 9223372036854775807 := by have := Nat.le_trans hm.1 hm.2; unfold maxLen at this; omega
  clear hm
  obtain ⟨ob, cb, rfl, _, hcb⟩ := h2
  have HCA := Lib.hid hca; have HCB := Lib.hid hcb
  clear hca hcb
  obtain ⟨no, dev, kind, mode, uid, gid, mt, ct, links, up, data, es⟩ := n
  dsimp only [Nd.v] at *
  have A1 := BoxN.new ⟨no, dev, kind, mode, uid, gid, mt, ct, links, up, data, es⟩ (.slice oa es.length ca) w
  dsimp only at A1
  go_enter Try.func12, Try.ntmps12
  go_upto_region 4 with fail
  have hb1 : Below w.heap.size w (w.alloc (.cells #[.int .i64 no, .int .i64 dev, .int .i64 kind, .int .i64 mode, .int .i64 uid, .int .i64 gid, .int .i64 mt, .int .i64 ct, .int .i64 links, .int .i64 up, .string data, .slice oa es.length ca] 38)) := (Below.refl _ _).alloc (Nat.le_refl _) _
  have hs1 : (w.alloc (.cells #[.int .i64 no, .int .i64 dev, .int .i64 kind, .int .i64 mode, .int .i64 uid, .int .i64 gid, .int .i64 mt, .int .i64 ct, .int .i64 links, .int .i64 up, .string data, .slice oa es.length ca] 38)).heap.size = w.heap.size + 1 := by simp
  generalize w.alloc (.cells #[.int .i64 no, .int .i64 dev, .int .i64 kind, .int .i64 mode, .int .i64 uid, .int .i64 gid, .int .i64 mt, .int .i64 ct, .int .i64 links, .int .i64 up, .string data, .slice oa es.length ca] 38) = W1 at A1 hb1 hs1 ⊢
  have A2 := BoxN.new ⟨no, dev, kind, mode, uid, gid, mt, ct, links, up, data, es⟩ (.slice ob es.length cb) W1
  dsimp only at A2
  have hb2 : Below W1.heap.size W1 (W1.alloc (.cells #[.int .i64 no, .int .i64 dev, .int .i64 kind, .int .i64 mode, .int .i64 uid, .int .i64 gid, .int .i64 mt, .int .i64 ct, .int .i64 links, .int .i64 up, .string data, .slice ob es.length cb] 38)) := (Below.refl _ _).alloc (Nat.le_refl _) _
  generalize W1.alloc (.cells #[.int .i64 no, .int .i64 dev, .int .i64 kind, .int .i64 mode, .int .i64 uid, .int .i64 gid, .int .i64 mt, .int .i64 ct, .int .i64 links, .int .i64 up, .string data, .slice ob es.length cb] 38) = W2 at A2 hb2 ⊢
  rw [hs1] at A2
  have A1' := Lib.hid (A1.below hb2); have A2' := Lib.hid A2
  have HB := Lib.hid (below_two hb1 hb2)
  clear A1 A2 hb1 hb2 hs1
  go_loopw [5] (fun i wr => ∃ (k : Nat), i = .int .i64 k ∧ k ≤ es.length ∧ Below W2.heap.size W2 wr) (fun i _ => es.length - (RowKit.intOf i).toNat)
  case atStart => exact ⟨0, rfl, Nat.zero_le _, Below.refl _ _⟩
  case round =>
    obtain ⟨k, rfl, hk, hbw⟩ := hrel
    have e1 := (A1'.out.below hbw).facts.2.2.2.2.2.2.2.2.2.2.2
    have e2 := (A2'.out.below hbw).facts.2.2.2.2.2.2.2.2.2.2.2
    by_cases hlt : k < es.length
    · obtain ⟨x, hx⟩ : ∃ x, es[k]? = some x := ⟨_, List.getElem?_eq_getElem hlt⟩
      obtain ⟨g1, o1, rfl, d0, d1⟩ := HCA.out k x hx
      obtain ⟨g2, o2, rfl, f0, f1⟩ := HCB.out k x hx
      have hbb := HB.out.trans (hbw.mono HB.out.size)
      have hg1 := World.block_lt_of_cell? _ _ d0
      have hg2 := World.block_lt_of_cell? _ _ f0
      have p0 := (hbb.cell (p := ⟨g1, o1 + k * 2, none⟩) hg1).trans d0
      have p1 := (hbb.cell (p := ⟨g1, o1 + k * 2 + 1, none⟩) hg1).trans d1
      have q0 := (hbb.cell (p := ⟨g2, o2 + k * 2, none⟩) hg2).trans f0
      have q1 := (hbb.cell (p := ⟨g2, o2 + k * 2 + 1, none⟩) hg2).trans f1
      have HBW := Lib.hid hbw
      clear d0 d1 f0 f1 hbb hbw hx
      go_wp2
      go_quiet (fail)
      go_wp2
      go_roundw
      case rel => exact ⟨k + 1, by go_num, by omega, HBW.out.trans (E.below_drewN _)⟩
      case measure => simp [RowKit.intOf]; omega
    · go_wp2
      go_ret
      exact ⟨rfl, HB.out.trans (hbw.mono HB.out.size)⟩
end Go.Proofs.Ytenopnfclbegbaa.T
