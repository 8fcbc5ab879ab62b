/-
  The law's grow.
-/
import Derived.Test.YtenopnfclbegbaaGreatRthr
import Derived.Test.YtenopnfclbegbaaGreatRefa
import Derived.BigQuiet
import Derived.Deep.DeepCutAuto
namespace Go.Proofs.YtenopnfclbegbaaGreat.G
open Go.RowKit Go.Shelf
attribute [local go_sem] Oper.semAt_some

/-- an item -/
structure It where
  dir : Int
  name : List UInt8
  kind : Int
  mode : Int
  uid : Int
  gid : Int
  data : ByteArray
  n : Int
def It.v (i : It) : Value := .agg #[.int .i64 i.dir, .string ⟨i.name.toArray⟩, .int .i64 i.kind, .int .i64 i.mode, .int .i64 i.uid, .int .i64 i.gid, .string i.data, .int .i64 i.n]
/-- a box of an item -/
def BoxI (b : Nat) (i : It) (w : World) : Prop := w.heap[b]? = some (.cells #[.int .i64 i.dir, .string ⟨i.name.toArray⟩, .int .i64 i.kind, .int .i64 i.mode, .int .i64 i.uid, .int .i64 i.gid, .string i.data, .int .i64 i.n] 70 (0, 0))
section
variable {b : Nat} {i : It} {w w' : World}
theorem BoxI.lt (h : BoxI b i w) : b < w.heap.size := (Array.getElem?_eq_some_iff.1 h).1
theorem BoxI.below (h : BoxI b i w) (hb : Below w.heap.size w w') : BoxI b i w' := (hb.block b h.lt).trans h
theorem BoxI.new (i : It) (w : World) : BoxI w.heap.size i (w.alloc (.cells #[.int .i64 i.dir, .string ⟨i.name.toArray⟩, .int .i64 i.kind, .int .i64 i.mode, .int .i64 i.uid, .int .i64 i.gid, .string i.data, .int .i64 i.n] 70)) := heap_alloc_new w _
theorem BoxI.facts (h : BoxI b i w) : w.cell? ⟨b, 0, none⟩ = some (.int .i64 i.dir) ∧ w.cell? ⟨b, 1, none⟩ = some (.string ⟨i.name.toArray⟩) ∧ w.cell? ⟨b, 2, none⟩ = some (.int .i64 i.kind) ∧ w.cell? ⟨b, 3, none⟩ = some (.int .i64 i.mode) ∧
    w.cell? ⟨b, 4, none⟩ = some (.int .i64 i.uid) ∧ w.cell? ⟨b, 5, none⟩ = some (.int .i64 i.gid) ∧ w.cell? ⟨b, 6, none⟩ = some (.string i.data) ∧ w.cell? ⟨b, 7, none⟩ = some (.int .i64 i.n) := by
  unfold BoxI at h
  refine ⟨?_, ?_, ?_, ?_, ?_, ?_, ?_, ?_⟩ <;> (rw [Lib.cell_of_heap h]; rfl)
end
/-- where an item comes -/
def place (last dir : Int) : Int := 1 + IntKind.u64.wrap dir % last
theorem place_range {last dir : Int} (h : 1 ≤ last) : 1 ≤ place last dir ∧ place last dir ≤ last := by
  unfold place
  have h1 := Int.emod_nonneg (IntKind.u64.wrap dir) (b := last) (by omega)
  have h2 := Int.emod_lt_of_pos (IntKind.u64.wrap dir) (b := last) (by omega)
  omega
/-- the node that an item brings -/
def node (nd : T.Nd) (i : It) (pl : Int) : T.Nd := ⟨0, nd.dev, i.kind, bits .and .i64 i.mode 1023, i.uid, i.gid, 0, 0, 1, if i.kind = 1 then pl else 0, if i.kind = 1 then ⟨#[]⟩ else i.data, []⟩
/-- a directory with a name more -/
def named (d : T.Nd) (name : List UInt8) (r : St × Int × Int) : St := if r.2.2 = 0 then ⟨r.1.last, setN r.1.n { d with es := E.put d.es ⟨name, r.2.1⟩ }, r.1.d⟩ else r.1
/-- does an item bring no node? -/
def vain (nd : T.Nd) (i : It) : Prop := nd.kind ≠ 1 ∨ i.kind < 1 ∨ 3 < i.kind ∨ V.M.check i.name ≠ 0 ∨ E.numOf nd.es i.name ≠ 0
instance (nd : T.Nd) (i : It) : Decidable (vain nd i) := by unfold vain; infer_instance
/-- what an item does -/
def growSt (st : St) (i : It) : St :=
  if i.kind = 4 then (mount st (place st.last i.dir) i.n i.n).1
  else if vain (gets st.n (place st.last i.dir)) i then st
  else named (gets st.n (place st.last i.dir)) i.name (make st (node (gets st.n (place st.last i.dir)) i (place st.last i.dir)))
theorem grow_four {st : St} {i : It} (h : i.kind = 4) : growSt st i = (mount st (place st.last i.dir) i.n i.n).1 := by unfold growSt; rw [if_pos h]
theorem grow_vain {st : St} {i : It} (h : i.kind ≠ 4) (h1 : vain (gets st.n (place st.last i.dir)) i) : growSt st i = st := by unfold growSt; rw [if_neg h, if_pos h1]
theorem grow_node {st : St} {i : It} (h : i.kind ≠ 4) (h1 : ¬ vain (gets st.n (place st.last i.dir)) i) : growSt st i = named (gets st.n (place st.last i.dir)) i.name (make st (node (gets st.n (place st.last i.dir)) i (place st.last i.dir))) := by unfold growSt; rw [if_neg h, if_neg h1]
section
variable {B X A M F : Nat} {ex : Ext} {mv nv dv : Value} {st : St} {w w' : World}
theorem BoxI.turnW {b : Nat} {i : It} (D : BoxI b i w) (h : Wd B X A M mv st w) (ht : Turn (wS X A M mv) w w') : BoxI b i w' := (ht.block b D.lt (h.not D (by decide) (by decide) (by decide))).trans D
theorem BoxI.turnF {b : Nat} {i : It} (D : BoxI b i w) (h : Fs ex B F nv dv st w) (ht : Turn (fS F nv dv) w w') : BoxI b i w' := (ht.block b D.lt (h.not D (by decide) (by decide) (by decide))).trans D
/-- both worlds, with whatever slices -/
def Both (ex : Ext) (B X A M F : Nat) (st : St) (w : World) : Prop := ∃ mv nv dv, Wd B X A M mv st w ∧ Fs ex B F nv dv st w
theorem Both.below (h : Both ex B X A M F st w) (hb : Below w.heap.size w w') : Both ex B X A M F st w' := by
  obtain ⟨mv, nv, dv, h1, h2⟩ := h
  exact ⟨mv, nv, dv, h1.below hb, h2.below hb⟩
set_option maxRecDepth 100000 in
set_option maxHeartbeats 8000000 in
theorem grow_mount (hI : Inv st) (hW : Wd B X A M mv st w) (hF : Fs ex B F nv dv st w) (i : It) (h4 : i.kind = 4) (hl1 : 1 ≤ st.last) (hlast : st.last < 1000) (hB : B ≤ w.heap.size) :
    Calls Tryz.prog 23 #[.pointer (some ⟨X, 0, none⟩), .pointer (some ⟨F, 0, none⟩), i.v] w fun e w' =>
    e = .returned (.bool true) ∧ Both ex B X A M F (growSt st i) w' ∧ Below B w w' := by
  rw [grow_four h4]
  have hlen : st.n.length < 1000 := by have := hI.len; omega
  have hdl := hI.mounts
  have hb1 : Below w.heap.size w (w.alloc (.cells #[.int .i64 i.dir, .string ⟨i.name.toArray⟩, .int .i64 i.kind, .int .i64 i.mode, .int .i64 i.uid, .int .i64 i.gid, .string i.data, .int .i64 i.n] 70)) := (Below.refl _ _).alloc (Nat.le_refl _) _
  have B1 := BoxI.new i w
  have hW1 := hW.below hb1
  have hF1 := hF.below hb1
  have hu : 0 ≤ IntKind.u64.wrap i.dir ∧ IntKind.u64.wrap i.dir ≤ 18446744073709551615 := by
    simp [IntKind.wrap, IntKind.signed, IntKind.bits]; omega
  have hp1 : IntKind.u64.wrap st.last = st.last := by
    simp [IntKind.wrap, IntKind.signed, IntKind.bits]; omega
  have hpr := place_range (dir := i.dir) hl1
  have hm1 : (IntKind.u64.wrap i.dir).tmod st.last = place st.last i.dir - 1 := by
    rw [Int.tmod_eq_emod_of_nonneg hu.1]; unfold place; omega
  obtain ⟨p, hp⟩ : ∃ p, place st.last i.dir - 1 = p := ⟨_, rfl⟩
  have hm2 : IntKind.i64.wrap p = p := wrap_id (by omega) (by omega)
  have hm3 : IntKind.i64.wrap (1 + p) = place st.last i.dir := by rw [← hp]; exact (wrap_id (by omega) (by omega)).trans (by omega)
  have hp0 : IntKind.u64.wrap p = p := by
    simp [IntKind.wrap, IntKind.signed, IntKind.bits]; omega
  rw [hp] at hm1
  have hz : (st.last == 0) = false := by simp; omega
  clear hW hF hp
  obtain ⟨dir, name, kind, mode, uid, gid, data, n⟩ := i
  dsimp only [It.v] at *
  subst h4
  generalize place st.last dir = pl at *
  obtain ⟨r, hr⟩ : ∃ r, mount st pl n n = r := ⟨_, rfl⟩
  have cm := fun W (hW : Wd B X A M mv st W) (hBW : B ≤ W.heap.size) => Mount_any hW pl n n (T.wf_of (by omega) (by omega)) hBW (by omega) (by omega) (by omega)
  have cf := fun W (hF : Fs ex B F nv dv st W) (hBW : B ≤ W.heap.size) => refMount_any hI hF pl n n hBW (by omega) (by omega)
  rw [hr] at cm cf ⊢
  obtain ⟨st', rx, ry⟩ := r
  dsimp only at cm cf ⊢
  clear hr
  go_enter Tryz.func23, Tryz.ntmps23
  go_upto_region 1 with fail
  generalize w.alloc (.cells #[.int .i64 dir, .string ⟨name.toArray⟩, .int .i64 4, .int .i64 mode, .int .i64 uid, .int .i64 gid, .string data, .int .i64 n] 70) = W1 at *
  obtain ⟨b0, hbd⟩ : ∃ b, w.heap.size = b := ⟨_, rfl⟩
  rw [hbd] at B1 hb1 hB ⊢
  obtain ⟨c0, c1, c2, c3, c4, c5, c6, c7⟩ := B1.facts
  dsimp only at c0 c1 c2 c3 c4 c5 c6 c7
  have x2 := hF1.facts.2.2.1
  go_cut [7] (fun s7 wx => s7 = .int .i64 pl ∧ Below W1.heap.size W1 wx)
  case first =>
    go_quiet (fail)
    go_wp2_with fail
    go_meet
    case rel => exact ⟨rfl, E.below_drewN _⟩
  case rest =>
    obtain ⟨rfl, hbc⟩ := hcut
    have hWc := hW1.below hbc
    have hFc := hF1.below hbc
    have Bc := B1.below hbc
    have hb2 := (hb1.mono hB).trans (hbc.mono (by have := hb1.size; omega))
    have hBc : B ≤ wc.heap.size := by have := hb2.size; omega
    clear c0 c1 c2 c3 c4 c5 c6 c7 x2 hW1 hF1 B1 hb1 hbc hu hp1 hm1 hm2 hm3 hp0 hz
    obtain ⟨c0, c1, c2, c3, c4, c5, c6, c7⟩ := Bc.facts
    dsimp only at c0 c1 c2 c3 c4 c5 c6 c7
    have cm1 := cm wc hWc hBc
    clear cm
    go_upto_region 4 with (go_at_call 45; refine cm1.mono ?_; rintro e w4 ⟨rfl, ⟨mv4, hW4⟩, t4⟩)
    have hF4 := hFc.beside hWc t4
    have B4 := Bc.turnW hWc t4
    have hBw : B ≤ w4.heap.size := Nat.le_trans hBc t4.size
    have hb4 := hb2.trans (hWc.ofTurn t4 hBc)
    have cf4 := cf w4 hF4 hBw
    clear c0 c1 c2 c3 c4 c5 c6 c7 cf cm1 hFc hWc Bc t4 hb2
    obtain ⟨c0, c1, c2, c3, c4, c5, c6, c7⟩ := B4.facts
    dsimp only at c0 c1 c2 c3 c4 c5 c6 c7
    go_wp2_with (go_at_call 46; refine cf4.mono ?_; rintro e w5 ⟨rfl, nv5, dv5, hF5, t5, k5⟩)
    go_ret
    exact ⟨by simp, ⟨mv4, nv5, dv5, hW4.beside hF4 t5, hF5⟩, hb4.trans (hF4.ofTurn t5 hBw)⟩
end
end Go.Proofs.YtenopnfclbegbaaGreat.G
