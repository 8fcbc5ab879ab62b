/-
  A table in memory: what holds of it and what stays; kept, New, Len, Get, Drop.
-/
import Derived.Test.YtmoimijclafgcaaTbase
namespace Go.Proofs.Ytmoimijclafgcaa.T
open Go.RowKit Go.Shelf Go.Maps

theorem law : Keyed Try.prog 3 := int_keyed Try.underlying3
theorem zeroN (w : World) : (zeroValue 71).run Try.prog w = .ok (Nd.zero.v (.slice none 0 0)) w := by kernel_rfl
def Wf (k : Int) : Prop := (Lit.int .i64 k).wf = true
theorem wf_of {k : Int} (h0 : -9223372036854775808 ≤ k) (h1 : k ≤ 9223372036854775807) : Wf k := WalkArith.wf_i64 (by omega)
theorem key_of {k : Int} (h : Wf k) : keyOf Try.prog 3 (.int .i64 k) = some (.int .i64 k) := Go.Maps.keyOf_int_mk Try.underlying3 h

/-- only the blocks T and M have turned, and new ones have come -/
structure Only (T M : Nat) (w w' : World) : Prop where
  os : w'.os = w.os
  tape : w'.tape = w.tape
  output : w'.output = w.output
  size : w.heap.size ≤ w'.heap.size
  block : ∀ k, k < w.heap.size → k ≠ T → k ≠ M → w'.heap[k]? = w.heap[k]?
theorem Only.of_below {T M : Nat} {w w' : World} (h : Below w.heap.size w w') : Only T M w w' := ⟨h.os, h.tape, h.output, h.size, fun k hk _ _ => h.block k hk⟩
theorem Only.trans {T M : Nat} {a b c : World} (h : Only T M a b) (k : Only T M b c) : Only T M a c :=
  ⟨k.os.trans h.os, k.tape.trans h.tape, k.output.trans h.output, Nat.le_trans h.size k.size, fun i hi h1 h2 => (k.block i (Nat.lt_of_lt_of_le hi h.size) h1 h2).trans (h.block i hi h1 h2)⟩
theorem Only.below {T M B : Nat} {w w' : World} (h : Only T M w w') (hT : B ≤ T) (hM : B ≤ M) (hB : B ≤ w.heap.size) : Below B w w' :=
  ⟨h.os, h.tape, h.output, h.size, fun k hk => h.block k (by omega) (by omega) (by omega)⟩
theorem Only.grown {T M : Nat} {w w' : World} (h : w.grownBy w' (some M)) : Only T M w w' := ⟨h.os, h.tape, h.output, h.size, fun k hk _ hm => h.block k hk (by intro e; cases e; exact hm rfl)⟩
theorem Only.set {T M : Nat} (w : World) (i : Nat) (u : Value) : Only T M w (w.setCell ⟨T, i, none⟩ u) :=
  ⟨rfl, rfl, rfl, by rw [World.size_setCell]; exact Nat.le_refl _, fun k _ hT _ => RowKit.Below.heap_setCell _ _ _ _ hT⟩

/-- T points at a table, its map in M, that holds the row l and has given the numbers up to last -/
structure Tab (B T M : Nat) (last : Int) (l : Row) (w : World) : Prop where
  bt : B ≤ T
  bm : B ≤ M
  head : w.heap[T]? = some (.cells #[.map (some M), .int .i64 last] 113 (0, 0))
  map : w.ownsMap Try.prog 3 elem M l.length (DD l)
  rise : Rise l
  given : Given last l
  ents : ∀ p ∈ l, E.Own B p.2 p.1.es w
  fits : ∀ p ∈ l, Fits p.1.es
  lo : 0 ≤ last
section
variable {B T M : Nat} {last : Int} {l : Row} {w w' : World}
theorem Tab.ltT (h : Tab B T M last l w) : T < w.heap.size := (Array.getElem?_eq_some_iff.1 h.head).1
theorem Tab.ltM (h : Tab B T M last l w) : M < w.heap.size := h.map.lt
theorem Tab.ne (h : Tab B T M last l w) : T ≠ M := fun e => by
  obtain ⟨es, clock, hb, _⟩ := h.map
  rw [← e, h.head] at hb
  cases hb
theorem Tab.stays (h : Tab B T M last l w) (hT : w'.heap[T]? = w.heap[T]?) (hM : w'.heap[M]? = w.heap[M]?) (hE : EntKept w w') : Tab B T M last l w' :=
  ⟨h.bt, h.bm, hT.trans h.head, by obtain ⟨es, clock, hb, r⟩ := h.map; exact ⟨es, clock, hM.trans hb, r⟩, h.rise, h.given, fun p hp => own_kept (h.ents p hp) hE, h.fits, h.lo⟩
theorem Tab.below (h : Tab B T M last l w) (hb : Below w.heap.size w w') : Tab B T M last l w' := h.stays (hb.block T h.ltT) (hb.block M h.ltM) (EntKept.below hb)
theorem Tab.alloc (h : Tab B T M last l w) (o : Obj) : Tab B T M last l (w.alloc o) := h.below ((Below.refl _ _).alloc (Nat.le_refl _) o)
theorem Tab.facts (h : Tab B T M last l w) : w.cell? ⟨T, 0, none⟩ = some (.map (some M)) ∧ w.cell? ⟨T, 1, none⟩ = some (.int .i64 last) ∧ w.frozen? ⟨T, 0, none⟩ = false ∧ w.frozen? ⟨T, 1, none⟩ = false :=
  ⟨by rw [Lib.cell_of_heap h.head]; rfl, by rw [Lib.cell_of_heap h.head]; rfl, Lib.frozen_of_heap h.head 0, Lib.frozen_of_heap h.head 1⟩
/-- blocks of entries stay where only T and M turn -/
theorem Tab.entKept (h : Tab B T M last l w) (ho : Only T M w w') : EntKept w w' := fun g cur hg => by
  have h1 : g ≠ T := fun e => by subst e; rw [h.head] at hg; cases hg
  have h2 : g ≠ M := fun e => by
    subst e
    obtain ⟨es, clock, hb, _⟩ := h.map
    rw [hb] at hg; cases hg
  exact (ho.block g (Array.getElem?_eq_some_iff.1 hg).1 h1 h2).trans hg
theorem tight {n : Nat} (h : w.ownsMap Try.prog 3 elem M n (DD l)) : w.ownsMap Try.prog 3 elem M l.length (DD l) := by
  obtain ⟨es, clock, hb, F, hs, hD⟩ := h
  refine ⟨es, clock, hb, F, ?_, hD⟩
  have e : Maps.size (DD l) = es.size := by rw [hD]; simp [Maps.size, length_sorted]
  rw [size_DD] at e
  omega
/-- what a look-up finds -/
def found (l : Row) (k : Int) : Nd × Value := match look l k with | some p => p | none => (Nd.zero, .slice none 0 0)
theorem Tab.finds (h : Tab B T M last l w) {k : Int} (hk : Wf k) : (Instr.lookup 85 (.map (some M)) (.int .i64 k) true).run Try.prog w = .ok (.tuple #[(found l k).1.v (found l k).2, .bool (look l k).isSome]) w := by
  obtain ⟨v, ps, hrun, hv⟩ := h.map.look_ok law Try.underlying85 (zeroN w) (zd := .held (Nd.zero.v (.slice none 0 0))) (zp := []) rfl (key_of hk)
  rw [has_DD] at hrun
  rw [at_DD] at hv
  rw [hrun]
  unfold found
  cases e : look l k with
  | none => rw [e] at hv; rw [elem_inv hv]
  | some p => rw [e] at hv; rw [elem_inv hv]
theorem Tab.finds1 (h : Tab B T M last l w) {k : Int} (hk : Wf k) : (Instr.lookup 85 (.map (some M)) (.int .i64 k) false).run Try.prog w = .ok ((found l k).1.v (found l k).2) w := by
  obtain ⟨v, ps, hrun, hv⟩ := h.map.lookup law Try.underlying85 (zeroN w) (zd := .held (Nd.zero.v (.slice none 0 0))) (zp := []) rfl (key_of hk)
  rw [at_DD] at hv
  rw [hrun]
  unfold found
  cases e : look l k with
  | none => rw [e] at hv; rw [elem_inv hv]
  | some p => rw [e] at hv; rw [elem_inv hv]
theorem Tab.found_own (h : Tab B T M last l w) (k : Int) : E.Own B (found l k).2 (found l k).1.es w ∧ Fits (found l k).1.es := by
  unfold found
  cases e : look l k with
  | none => exact ⟨E.Own.nil _ _, by unfold Fits; decide⟩
  | some p => exact ⟨h.ents p (look_some e).1, h.fits p (look_some e).1⟩
end

theorem map_equal (om : Option Nat) (W : World) : (Op.equal 85 (.map om) (.map none)).run Try.prog W = .ok om.isNone W := by
  have hu := run_underlying Try.underlying85
  have h : Op.equal 85 (.map om) (.map none) = Op.equalIn (9999 + 1) 85 (.map om) (.map none) := rfl
  rw [h, Op.equalIn]
  cases om <;> simp [go_sem, hu]
theorem map_nil (om : Option Nat) (W : World) : (binOp .eql 85 (.map om) (.map none)).run Try.prog W = .ok (.bool om.isNone) W := by
  simp [binOp, go_sem, map_equal]

theorem kept_any (T : Nat) (om : Option Nat) (w : World) (h : w.cell? ⟨T, 0, none⟩ = some (.map om)) : Calls Try.prog 42 #[.pointer (some ⟨T, 0, none⟩)] w fun e w' => e = .returned (.map om) ∧ w = w' := by
  go_enter Try.func42, Try.ntmps42
  go_wp2
  go_ret
  exact ⟨rfl, rfl⟩
theorem kept_nil (w : World) : Calls Try.prog 42 #[.pointer none] w fun e w' => e = .returned (.map none) ∧ w = w' := by
  go_enter Try.func42, Try.ntmps42
  go_wp2
  go_ret
  exact ⟨rfl, rfl⟩

theorem New_any (w : World) : Calls Try.prog 57 #[] w fun e w' => ∃ T M, e = .returned (.pointer (some ⟨T, 0, none⟩)) ∧ Tab w.heap.size T M 0 [] w' ∧ Below w.heap.size w w' := by
  have hmm := @run_makeMap Try.prog
  go_enter Try.func57, Try.ntmps57
  go_wp2
  go_ret
  have hm : (w.alloc (.map #[] 0)).ownsMap Try.prog 3 elem w.heap.size 0 (DD []) := World.ownsMap_made w _ _ _
  refine ⟨w.heap.size + 1, w.heap.size, rfl, ⟨Nat.le_succ _, Nat.le_refl _, ?_, hm.alloc _, List.Pairwise.nil, fun p hp => (by cases hp), fun p hp => (by cases hp), fun p hp => (by cases hp), Int.le_refl _⟩, ?_⟩
  · have := heap_alloc_new (w.alloc (.map #[] 0)) (.cells #[.map (some w.heap.size), .int .i64 0] 113)
    rw [World.size_alloc] at this
    exact this
  · exact ((Below.refl _ _).alloc (Nat.le_refl _) _).alloc (by simp) _

theorem Len_any {B T M : Nat} {last : Int} {l : Row} {w : World} (h : Tab B T M last l w) : Calls Try.prog 15 #[.pointer (some ⟨T, 0, none⟩)] w fun e w' => e = .returned (.int .i64 l.length) ∧ w = w' := by
  have c1 := kept_any T (some M) w h.facts.1
  have hown := h.map
  have hs := size_DD l
  clear h
  go_enter Try.func15, Try.ntmps15
  go_wp2_with (first | (refine c1.mono ?_; rintro e w1 ⟨rfl, rfl⟩) | (at_len; refine wpList_len_own _ rfl _ 85 rfl 3 71 Try.underlying85 _ M _ _ rfl hown ?_))
  go_ret
  exact ⟨rfl, rfl⟩

/-- the node found, by value: its slice written out -/
theorem own_slice {B : Nat} {v : Value} {ls : List E.Ent} {w : World} (h : E.Own B v ls w) : ∃ oa c, v = .slice oa ls.length c := by
  obtain ⟨oa, c, rfl, _⟩ := h.sees; exact ⟨oa, c, rfl⟩

set_option maxRecDepth 100000 in
set_option maxHeartbeats 8000000 in
theorem Drop_any {B T M : Nat} {last : Int} {l : Row} {w : World} (h : Tab B T M last l w) (k : Int) (hk : Wf k) : Calls Try.prog 29 #[.pointer (some ⟨T, 0, none⟩), .int .i64 k] w fun e w' =>
    e = .returned (.bool (look l k).isSome) ∧ Tab B T M last (strike l k) w' ∧ Only T M w w' := by
  have c1 := kept_any T (some M) w h.facts.1
  have hf := h.finds hk
  obtain ⟨oa, c, hs⟩ := own_slice (h.found_own k).1
  generalize found l k = f at hf hs
  obtain ⟨⟨no, dev, kind, mode, uid, gid, mt, ct, links, up, data, es⟩, s⟩ := f
  dsimp only at hs
  subst hs
  dsimp only [Nd.v] at hf
  have HT := Lib.hid h
  clear h
  generalize (look l k).isSome = b at hf ⊢
  go_enter Try.func29, Try.ntmps29
  go_wp2_with (first
    | (refine c1.mono ?_; rintro e w1 ⟨rfl, rfl⟩)
    | (at_delete; refine wpList_delete_own _ rfl _ _ 85 3 rfl 71 law Try.underlying85 _ M _ _ rfl (HT.out.map.alloc _) _ _ rfl (key_of hk) ?_; intro w2 hown2 hturn2))
  go_ret
  have hA := HT.out.alloc (.cells #[.int .i64 no, .int .i64 dev, .int .i64 kind, .int .i64 mode, .int .i64 uid, .int .i64 gid, .int .i64 mt, .int .i64 ct, .int .i64 links, .int .i64 up, .string data, .slice oa es.length c] 71)
  have hO : Only T M _ w2 := Only.grown hturn2.grown
  rw [del_DD] at hown2
  refine ⟨rfl, ⟨hA.bt, hA.bm, (hturn2.grown.block T hA.ltT (by intro e; cases e; exact hA.ne rfl)).trans hA.head, tight hown2, hA.rise.strike k, hA.given.strike k, fun p hp => own_kept (hA.ents p (mem_strike hp)) (hA.entKept hO), fun p hp => hA.fits p (mem_strike hp), hA.lo⟩, ?_⟩
  exact (Only.of_below ((Below.refl _ _).alloc (Nat.le_refl _) _)).trans hO

set_option maxRecDepth 100000 in
set_option maxHeartbeats 8000000 in
theorem Get_any {B T M : Nat} {last : Int} {l : Row} {w : World} (h : Tab B T M last l w) (k : Int) (hk : Wf k) : Calls Try.prog 51 #[.pointer (some ⟨T, 0, none⟩), .int .i64 k] w fun e w' =>
    ∃ u, e = .returned (.tuple #[(found l k).1.v u, .bool (look l k).isSome]) ∧ E.Own w.heap.size u (found l k).1.es w' ∧ Below w.heap.size w w' := by
  have c1 := fun W hW => kept_any T (some M) W hW
  obtain ⟨hfo, hfit⟩ := h.found_own k
  obtain ⟨oa, c, hs⟩ := own_slice hfo
  have HT := Lib.hid h
  have hf := fun W (hW : Tab B T M last l W) => hW.finds hk
  generalize found l k = f at hf hs hfo hfit ⊢
  obtain ⟨⟨no, dev, kind, mode, uid, gid, mt, ct, links, up, data, es⟩, s⟩ := f
  dsimp only at hs hfo hfit
  subst hs
  dsimp only [Nd.v] at hf ⊢
  clear h
  generalize (look l k).isSome = b at hf ⊢
  have B1 := BoxN.new Nd.zero (.slice none 0 0) w
  dsimp only [Nd.zero] at B1
  have cc := fun W hS => apart_any ⟨no, dev, kind, mode, uid, gid, mt, ct, links, up, data, es⟩ (s := .slice oa es.length c) (w := W) hS hfit
  dsimp only [Nd.v] at cc
  go_enter Try.func51, Try.ntmps51
  go_upto_region 1 with fail
  have hb1 : Below w.heap.size w (w.alloc (.cells #[.int .i64 0, .int .i64 0, .int .i64 0, .int .i64 0, .int .i64 0, .int .i64 0, .int .i64 0, .int .i64 0, .int .i64 0, .int .i64 0, .string ⟨#[]⟩, .slice none 0 0] 71)) := (Below.refl _ _).alloc (Nat.le_refl _) _
  generalize hW1 : w.alloc (.cells #[.int .i64 0, .int .i64 0, .int .i64 0, .int .i64 0, .int .i64 0, .int .i64 0, .int .i64 0, .int .i64 0, .int .i64 0, .int .i64 0, .string ⟨#[]⟩, .slice none 0 0] 71) = W1 at B1 hb1 ⊢
  have hs1 : W1.heap.size = w.heap.size + 1 := by rw [← hW1]; simp
  have hT1 := HT.out.below hb1
  have hf1 := hf W1 hT1
  have hk1 := c1 W1 hT1.facts.1
  have hfo1 := own_kept hfo (EntKept.below hb1)
  clear hW1 hf c1 hfo HT
  go_upto_region 2 with (refine hk1.mono ?_; rintro e w1 ⟨rfl, rfl⟩)
  have B2 := BoxN.new ⟨no, dev, kind, mode, uid, gid, mt, ct, links, up, data, es⟩ (.slice oa es.length c) W1
  dsimp only at B2
  have hb2 : Below W1.heap.size W1 (W1.alloc (.cells #[.int .i64 no, .int .i64 dev, .int .i64 kind, .int .i64 mode, .int .i64 uid, .int .i64 gid, .int .i64 mt, .int .i64 ct, .int .i64 links, .int .i64 up, .string data, .slice oa es.length c] 71)) := (Below.refl _ _).alloc (Nat.le_refl _) _
  generalize hW2 : W1.alloc (.cells #[.int .i64 no, .int .i64 dev, .int .i64 kind, .int .i64 mode, .int .i64 uid, .int .i64 gid, .int .i64 mt, .int .i64 ct, .int .i64 links, .int .i64 up, .string data, .slice oa es.length c] 71) = W2 at B2 hb2 ⊢
  have B1' := B1.below hb2
  have call := cc W2 ((own_kept hfo1 (EntKept.below hb2)).sees)
  have hb := below_two hb1 hb2
  have hlt := B2.lt
  obtain ⟨b0, hbd⟩ : ∃ b, w.heap.size = b := ⟨_, rfl⟩
  rw [hs1] at B2 hlt
  rw [hbd] at B2 hlt B1' hb ⊢
  have HB := Lib.hid hbd
  clear hbd hW2 B1 hs1 hb1 hb2 cc hk1 hf1 hT1 hfo1
  obtain ⟨c0, c1, c2, c3, c4, c5, c6, c7, c8, c9, c10, c11⟩ := B2.facts
  go_wp2_with (go_at_call 69; refine call.mono ?_; rintro e w3 ⟨u, rfl, hO, hb3⟩; obtain ⟨ou, cu, rfl⟩ := own_slice hO; obtain ⟨a0, a1, a2, a3, a4, a5, a6, a7, a8, a9, a10, a11⟩ := (B1'.below hb3).facts; obtain ⟨f0, f1, f2, f3, f4, f5, f6, f7, f8, f9, f10, f11⟩ := (B1'.below hb3).open)
  have D2 := B1'.below hb3
  have D3 := D2.fill ⟨no, dev, kind, mode, uid, gid, mt, ct, links, up, data, es⟩ (.slice ou es.length cu)
  have hb4 := (hb.trans (hb3.mono (Nat.le_of_lt (Nat.lt_of_succ_lt hlt)))).trans (below_fill (Nat.le_refl b0) w3 ⟨no, dev, kind, mode, uid, gid, mt, ct, links, up, data, es⟩ (.slice ou es.length cu))
  have hO4 : E.Own b0 _ es _ := own_kept (hO.mono (Nat.le_of_lt (Nat.lt_of_succ_lt hlt))) (EntKept.fill D2 ⟨no, dev, kind, mode, uid, gid, mt, ct, links, up, data, es⟩ (.slice ou es.length cu))
  unfold fill at D3 hb4 hO4
  generalize World.setCell _ _ _ = W4 at D3 hb4 hO4 ⊢
  obtain ⟨g0, g1, g2, g3, g4, g5, g6, g7, g8, g9, g10, g11⟩ := D3.facts
  refine bodyPost_ret (by simp [results, Try.results51, go_sem, g0, g1, g2, g3, g4, g5, g6, g7, g8, g9, g10, g11]; rfl) rfl ?_
  exact ⟨_, rfl, HB.out ▸ hO4, HB.out ▸ hb4⟩
end Go.Proofs.Ytmoimijclafgcaa.T
