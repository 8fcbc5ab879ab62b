/-
  Nodes in memory: boxes, rows of the call's own, what stays; slices.Clone at entries; table.apart.
-/
import Derived.Test.YtmoimijclafgcaaTmath
import Derived.Deep.DeepCutAuto
namespace Go.Proofs.Ytmoimijclafgcaa.T
open Go.RowKit Go.Shelf Go.Maps

theorem below_two {w w1 w2 : World} (h1 : Below w.heap.size w w1) (h2 : Below w1.heap.size w1 w2) : Below w.heap.size w w2 := h1.trans (h2.mono h1.size)

/-- a node's twelve cells in a block of the call's own -/
def BoxN (b : Nat) (n : Nd) (s : Value) (w : World) : Prop := w.heap[b]? = some (.cells #[.int .i64 n.no, .int .i64 n.dev, .int .i64 n.kind, .int .i64 n.mode, .int .i64 n.uid, .int .i64 n.gid, .int .i64 n.mt, .int .i64 n.ct, .int .i64 n.links, .int .i64 n.up, .string n.data, s] 71 (0, 0))
theorem BoxN.lt {b : Nat} {n : Nd} {s : Value} {w : World} (h : BoxN b n s w) : b < w.heap.size := (Array.getElem?_eq_some_iff.1 h).1
theorem BoxN.below {b : Nat} {n : Nd} {s : Value} {w w' : World} (h : BoxN b n s w) (hb : Below w.heap.size w w') : BoxN b n s w' := (hb.block b h.lt).trans h
theorem BoxN.new (n : Nd) (s : Value) (w : World) : BoxN w.heap.size n s (w.alloc (.cells #[.int .i64 n.no, .int .i64 n.dev, .int .i64 n.kind, .int .i64 n.mode, .int .i64 n.uid, .int .i64 n.gid, .int .i64 n.mt, .int .i64 n.ct, .int .i64 n.links, .int .i64 n.up, .string n.data, s] 71)) := heap_alloc_new w _
theorem BoxN.facts {b : Nat} {n : Nd} {s : Value} {w : World} (h : BoxN b n s w) :
    w.cell? ⟨b, 0, none⟩ = some (.int .i64 n.no) ∧ w.cell? ⟨b, 1, none⟩ = some (.int .i64 n.dev) ∧ w.cell? ⟨b, 2, none⟩ = some (.int .i64 n.kind) ∧ w.cell? ⟨b, 3, none⟩ = some (.int .i64 n.mode) ∧
    w.cell? ⟨b, 4, none⟩ = some (.int .i64 n.uid) ∧ w.cell? ⟨b, 5, none⟩ = some (.int .i64 n.gid) ∧ w.cell? ⟨b, 6, none⟩ = some (.int .i64 n.mt) ∧ w.cell? ⟨b, 7, none⟩ = some (.int .i64 n.ct) ∧
    w.cell? ⟨b, 8, none⟩ = some (.int .i64 n.links) ∧ w.cell? ⟨b, 9, none⟩ = some (.int .i64 n.up) ∧ w.cell? ⟨b, 10, none⟩ = some (.string n.data) ∧ w.cell? ⟨b, 11, none⟩ = some s := by
  refine ⟨?_, ?_, ?_, ?_, ?_, ?_, ?_, ?_, ?_, ?_, ?_, ?_⟩ <;> (rw [Lib.cell_of_heap h]; rfl)
theorem BoxN.open {b : Nat} {n : Nd} {s : Value} {w : World} (h : BoxN b n s w) :
    w.frozen? ⟨b, 0, none⟩ = false ∧ w.frozen? ⟨b, 1, none⟩ = false ∧ w.frozen? ⟨b, 2, none⟩ = false ∧ w.frozen? ⟨b, 3, none⟩ = false ∧ w.frozen? ⟨b, 4, none⟩ = false ∧ w.frozen? ⟨b, 5, none⟩ = false ∧
    w.frozen? ⟨b, 6, none⟩ = false ∧ w.frozen? ⟨b, 7, none⟩ = false ∧ w.frozen? ⟨b, 8, none⟩ = false ∧ w.frozen? ⟨b, 9, none⟩ = false ∧ w.frozen? ⟨b, 10, none⟩ = false ∧ w.frozen? ⟨b, 11, none⟩ = false :=
  ⟨Lib.frozen_of_heap h 0, Lib.frozen_of_heap h 1, Lib.frozen_of_heap h 2, Lib.frozen_of_heap h 3, Lib.frozen_of_heap h 4, Lib.frozen_of_heap h 5, Lib.frozen_of_heap h 6, Lib.frozen_of_heap h 7, Lib.frozen_of_heap h 8, Lib.frozen_of_heap h 9, Lib.frozen_of_heap h 10, Lib.frozen_of_heap h 11⟩
theorem BoxN.other {b a : Nat} {n : Nd} {s : Value} {w : World} (h : BoxN b n s w) (hne : b ≠ a) (i : Nat) (u : Value) : BoxN b n s (w.setCell ⟨a, i, none⟩ u) := by
  unfold BoxN at *
  rw [RowKit.Below.heap_setCell _ _ _ _ hne]; exact h
/-- the first cell, the last cell written -/
theorem BoxN.set0 {b : Nat} {n : Nd} {s : Value} {w : World} (h : BoxN b n s w) (k : Int) : BoxN b (n.as k) s (w.setCell ⟨b, 0, none⟩ (.int .i64 k)) := by
  unfold BoxN at *
  simp [World.setCell, Array.getElem?_modify, h, Nd.as]
theorem BoxN.set11 {b : Nat} {n : Nd} {s : Value} {w : World} (h : BoxN b n s w) (u : Value) : BoxN b n u (w.setCell ⟨b, 11, none⟩ u) := by
  unfold BoxN at *
  simp [World.setCell, Array.getElem?_modify, h]
/-- all twelve cells written -/
def fill (w : World) (b : Nat) (n : Nd) (s : Value) : World := ((((((((((((w.setCell ⟨b, 0, none⟩ (.int .i64 n.no)).setCell ⟨b, 1, none⟩ (.int .i64 n.dev)).setCell ⟨b, 2, none⟩ (.int .i64 n.kind)).setCell ⟨b, 3, none⟩ (.int .i64 n.mode)).setCell ⟨b, 4, none⟩ (.int .i64 n.uid)).setCell ⟨b, 5, none⟩ (.int .i64 n.gid)).setCell ⟨b, 6, none⟩ (.int .i64 n.mt)).setCell ⟨b, 7, none⟩ (.int .i64 n.ct)).setCell ⟨b, 8, none⟩ (.int .i64 n.links)).setCell ⟨b, 9, none⟩ (.int .i64 n.up)).setCell ⟨b, 10, none⟩ (.string n.data)).setCell ⟨b, 11, none⟩ s)
theorem BoxN.fill {b : Nat} {m : Nd} {u : Value} {w : World} (h : BoxN b m u w) (n : Nd) (s : Value) : BoxN b n s (fill w b n s) := by
  unfold BoxN T.fill at *
  simp [World.setCell, Array.getElem?_modify, h]
theorem below_fill {m b : Nat} (hb : m ≤ b) (w : World) (n : Nd) (s : Value) : Below m w (fill w b n s) := by
  unfold fill
  refine Below.setCell ?_ hb _
  refine Below.setCell ?_ hb _
  refine Below.setCell ?_ hb _
  refine Below.setCell ?_ hb _
  refine Below.setCell ?_ hb _
  refine Below.setCell ?_ hb _
  refine Below.setCell ?_ hb _
  refine Below.setCell ?_ hb _
  refine Below.setCell ?_ hb _
  refine Below.setCell ?_ hb _
  refine Below.setCell ?_ hb _
  exact Below.setCell (Below.refl _ _) hb _

theorem own_block {B : Nat} {v : Value} {ls : List E.Ent} {w w' : World} (h : E.Own B v ls w) (hk : ∀ (g : Nat) (cur : Array Value), w.heap[g]? = some (.cells cur 128 (0, 0)) → w'.heap[g]? = some (.cells cur 128 (0, 0))) : E.Own B v ls w' := by
  refine ⟨h.1, h.2.imp id ?_⟩
  rintro ⟨g, cap, cur, h1, h2, h3, h4⟩
  exact ⟨g, cap, cur, h1, h2, hk g cur h3, h4⟩
/-- blocks of entries stay -/
def EntKept (w w' : World) : Prop := ∀ (g : Nat) (cur : Array Value), w.heap[g]? = some (.cells cur 128 (0, 0)) → w'.heap[g]? = some (.cells cur 128 (0, 0))
theorem EntKept.trans {a b c : World} (h : EntKept a b) (k : EntKept b c) : EntKept a c := fun g cur hg => k g cur (h g cur hg)
theorem EntKept.below {w w' : World} (h : Below w.heap.size w w') : EntKept w w' := fun g _ hg => (h.block g (Array.getElem?_eq_some_iff.1 hg).1).trans hg
theorem EntKept.fill {b : Nat} {m : Nd} {u : Value} {w : World} (h : BoxN b m u w) (n : Nd) (s : Value) : EntKept w (fill w b n s) := fun g cur hg => by
  have hne : g ≠ b := fun e => by subst e; unfold BoxN at h; rw [h] at hg; cases hg
  unfold T.fill
  rw [RowKit.Below.heap_setCell _ _ _ _ hne, RowKit.Below.heap_setCell _ _ _ _ hne, RowKit.Below.heap_setCell _ _ _ _ hne, RowKit.Below.heap_setCell _ _ _ _ hne, RowKit.Below.heap_setCell _ _ _ _ hne, RowKit.Below.heap_setCell _ _ _ _ hne, RowKit.Below.heap_setCell _ _ _ _ hne, RowKit.Below.heap_setCell _ _ _ _ hne, RowKit.Below.heap_setCell _ _ _ _ hne, RowKit.Below.heap_setCell _ _ _ _ hne, RowKit.Below.heap_setCell _ _ _ _ hne, RowKit.Below.heap_setCell _ _ _ _ hne]
  exact hg
theorem own_kept {B : Nat} {v : Value} {ls : List E.Ent} {w w' : World} (h : E.Own B v ls w) (hk : EntKept w w') : E.Own B v ls w' := own_block h hk

/-! slices.Clone, at entries of whatever number -/
theorem empty_own (w : World) : (w.alloc (.cells #[] 128)).ownsRow w.heap.size 128 2 (.slice (some ⟨w.heap.size, 0, none⟩) 0 0) 0 [] :=
  ⟨rfl, .inr ⟨w.heap.size, 0, #[], rfl, Nat.le_refl _, heap_alloc_new w _, Nat.le_refl _, by decide, rfl, rfl⟩⟩
theorem slice_equal (oa : Option Addr) (n c : Nat) (W : World) : (Op.equal 69 (.slice oa n c) (.slice none 0 0)).run Try.prog W = .ok oa.isNone W := by
  have hu := run_underlying Try.underlying69
  have h : Op.equal 69 (.slice oa n c) (.slice none 0 0) = Op.equalIn (9999 + 1) 69 (.slice oa n c) (.slice none 0 0) := rfl
  rw [h, Op.equalIn]
  cases oa <;> simp [go_sem, hu]
theorem slice_nil (oa : Option Addr) (n c : Nat) (W : World) : (binOp .eql 69 (.slice oa n c) (.slice none 0 0)).run Try.prog W = .ok (.bool oa.isNone) W := by
  simp [binOp, go_sem, slice_equal]
/-- so many entries may be copied -/
def Fits (ls : List E.Ent) : Prop := ls.length * 24 ≤ 140737488355328
set_option maxRecDepth 100000 in
set_option maxHeartbeats 4000000 in
theorem clone_any {v : Value} {ls : List E.Ent} {w : World} (hS : E.Sees v ls w) (hl : Fits ls) :
    Calls Try.prog 84 #[v] w fun e w' => ∃ u, e = .returned u ∧ E.Own w.heap.size u ls w' ∧ Below w.heap.size w w' := by
  obtain ⟨i0, hi0, hz0, hz1, hz2⟩ := E.info_parts E.infoE
  obtain ⟨oa, cap, rfl, hm, hcells⟩ := hS
  have hS : E.Sees (.slice oa ls.length cap) ls w := ⟨oa, cap, rfl, hm, hcells⟩
  unfold Fits at hl
  cases oa with
  | none =>
    have hnil : ls = [] := by
      cases ls with
      | nil => rfl
      | cons x l => obtain ⟨g, o, e, _⟩ := hcells 0 x rfl; cases e
    subst hnil
    clear hS hcells hm
    have hq := slice_nil none 0 cap w
    go_enter Try.func84, Try.ntmps84
    go_wp2
    go_ret
    exact ⟨_, rfl, E.Own.nil _ _, Below.refl _ _⟩
  | some a =>
    have HF := Lib.hid (E.sees_flat (hS.below ((Below.refl _ _).alloc (Nat.le_refl _) (.cells #[] 128))))
    have hfl := E.flat_len ls
    have HO := Lib.hid (E.flat_one ls)
    obtain ⟨m, hmm⟩ : ∃ m, ls.length = m := ⟨_, rfl⟩
    have HM := Lib.hid hmm
    rw [hmm] at hl hfl ⊢
    clear hS hcells hm hmm
    have hq := slice_nil (some a) m cap w
    go_enter Try.func84, Try.ntmps84
    go_wp2_with (at_builtin; refine wpList_append_own _ rfl _ _ 69 rfl w.heap.size 128 i0 (.agg #[.string ⟨#[]⟩, .int .i64 0]) 2 24 Try.underlying69 hi0 hz0 hz1 hz2 rfl (by decide) _ _ _ rfl (empty_own w) a m cap (E.flat ls) rfl hfl HF.out HO.out (by unfold maxLen; omega) (by omega) (by simp) ?_; intro v' w1 hown' hgrow _)
    go_ret
    refine ⟨_, rfl, ?_, ?_⟩
    · unfold E.Own
      rw [HM.out]
      simpa using hown'
    · exact ((Below.refl _ _).alloc (Nat.le_refl _) _).grown hgrow (by simp) (fun k hk => ((empty_own w).lt k hk).1)

set_option maxRecDepth 100000 in
set_option maxHeartbeats 8000000 in
theorem apart_any (n : Nd) {s : Value} {w : World} (hS : E.Sees s n.es w) (hl : Fits n.es) :
    Calls Try.prog 69 #[n.v s] w fun e w' => ∃ u, e = .returned (n.v u) ∧ E.Own w.heap.size u n.es w' ∧ Below w.heap.size w w' := by
  have cc := fun W hS => clone_any (v := s) (ls := n.es) (w := W) hS hl
  obtain ⟨no, dev, kind, mode, uid, gid, mt, ct, links, up, data, es⟩ := n
  have B1 := BoxN.new ⟨no, dev, kind, mode, uid, gid, mt, ct, links, up, data, es⟩ s w
  dsimp only [Nd.v] at *
  go_enter Try.func69, Try.ntmps69
  go_upto_region 1 with fail
  have hb1 : Below w.heap.size w (w.alloc (.cells #[.int .i64 no, .int .i64 dev, .int .i64 kind, .int .i64 mode, .int .i64 uid, .int .i64 gid, .int .i64 mt, .int .i64 ct, .int .i64 links, .int .i64 up, .string data, s] 71)) := (Below.refl _ _).alloc (Nat.le_refl _) _
  generalize hW1 : w.alloc (.cells #[.int .i64 no, .int .i64 dev, .int .i64 kind, .int .i64 mode, .int .i64 uid, .int .i64 gid, .int .i64 mt, .int .i64 ct, .int .i64 links, .int .i64 up, .string data, s] 71) = W1 at B1 hb1 ⊢
  have hs1 : W1.heap.size = w.heap.size + 1 := by rw [← hW1]; simp
  have B2 := BoxN.new Nd.zero (.slice none 0 0) W1
  dsimp only [Nd.zero] at B2
  have hb2 : Below W1.heap.size W1 (W1.alloc (.cells #[.int .i64 0, .int .i64 0, .int .i64 0, .int .i64 0, .int .i64 0, .int .i64 0, .int .i64 0, .int .i64 0, .int .i64 0, .int .i64 0, .string ⟨#[]⟩, .slice none 0 0] 71)) := (Below.refl _ _).alloc (Nat.le_refl _) _
  generalize hW2 : W1.alloc (.cells #[.int .i64 0, .int .i64 0, .int .i64 0, .int .i64 0, .int .i64 0, .int .i64 0, .int .i64 0, .int .i64 0, .int .i64 0, .int .i64 0, .string ⟨#[]⟩, .slice none 0 0] 71) = W2 at B2 hb2 ⊢
  have B1' := B1.below hb2
  have hS2 := hS.below (below_two hb1 hb2)
  have hb := below_two hb1 hb2
  have call := cc W2 hS2
  rw [hs1] at B2
  have hlt := B2.lt
  obtain ⟨b, hbd⟩ : ∃ b, w.heap.size = b := ⟨_, rfl⟩
  rw [hbd] at B1' B2 hb hlt ⊢
  have HB := Lib.hid hbd
  clear hbd hW1 hW2 B1 hs1 hb1 hb2 cc
  obtain ⟨c0, c1, c2, c3, c4, c5, c6, c7, c8, c9, c10, c11⟩ := B1'.facts
  go_upto_region 2 with (go_at_call 84; refine call.mono ?_; rintro e w1 ⟨u, rfl, hO, hb1⟩; obtain ⟨ou, cu, rfl, _⟩ := hO.sees; have f11 := (B1'.below hb1).open.2.2.2.2.2.2.2.2.2.2.2; have e11 := (B1'.below hb1).facts.2.2.2.2.2.2.2.2.2.2.2)
  have D1 := (B1'.below hb1).set11 (.slice ou es.length cu)
  have D2 := (B2.below hb1).other (by omega) (a := b) 11 (.slice ou es.length cu)
  have hO2 : E.Own W2.heap.size _ es _ := ownsRow_setCell_below hO (a := ⟨b, 11, none⟩) (by show b < _; omega) (.slice ou es.length cu)
  have hb3 : Below b w (w1.setCell ⟨b, 11, none⟩ (.slice ou es.length cu)) := (hb.trans (hb1.mono (by omega))).setCell (p := ⟨b, 11, none⟩) (Nat.le_refl _) _
  have hlt3 : b + 1 < (w1.setCell ⟨b, 11, none⟩ (.slice ou es.length cu)).heap.size := by rw [World.size_setCell]; exact Nat.lt_of_lt_of_le hlt hb1.size
  generalize w1.setCell ⟨b, 11, none⟩ (.slice ou es.length cu) = W3 at D1 D2 hO2 hb3 hlt3 ⊢
  clear c0 c1 c2 c3 c4 c5 c6 c7 c8 c9 c10 c11 f11 e11 hO hb1 B1' B2
  obtain ⟨c0, c1, c2, c3, c4, c5, c6, c7, c8, c9, c10, c11⟩ := D1.facts
  obtain ⟨f0, f1, f2, f3, f4, f5, f6, f7, f8, f9, f10, f11⟩ := D2.open
  obtain ⟨a0, a1, a2, a3, a4, a5, a6, a7, a8, a9, a10, a11⟩ := D2.facts
  go_wp2
  have D3 := D2.fill ⟨no, dev, kind, mode, uid, gid, mt, ct, links, up, data, es⟩ (.slice ou es.length cu)
  have hb4 := hb3.trans (below_fill (Nat.le_succ b) W3 ⟨no, dev, kind, mode, uid, gid, mt, ct, links, up, data, es⟩ (.slice ou es.length cu))
  have hO4 : E.Own b _ es _ := own_kept (hO2.mono (Nat.le_of_lt (Nat.lt_of_succ_lt hlt))) (EntKept.fill D2 ⟨no, dev, kind, mode, uid, gid, mt, ct, links, up, data, es⟩ (.slice ou es.length cu))
  unfold fill at D3 hb4 hO4
  generalize World.setCell _ _ _ = W4 at D3 hb4 hO4 ⊢
  obtain ⟨g0, g1, g2, g3, g4, g5, g6, g7, g8, g9, g10, g11⟩ := D3.facts
  refine bodyPost_ret (by simp [results, Try.results69, go_sem, g0, g1, g2, g3, g4, g5, g6, g7, g8, g9, g10, g11]; rfl) rfl ?_
  exact ⟨_, rfl, HB.out ▸ hO4, HB.out ▸ hb4⟩
end Go.Proofs.Ytmoimijclafgcaa.T
