/-
  Entries in memory: a slice that is only read, a row of the call's own, a box of one entry; copy at entries; ents.against.
-/
import Derived.Test.YtmoimijclafgcaaEmath
import Derived.Test.YtmoimijclafgcaaProg
import Derived.WalkKit
import Derived.WalkSpells
import Derived.WalkSmall
import Derived.Lib.OthersKept
import Derived.Shelf.RegionOpen
import Derived.Shelf.Small.Wraps
import Derived.IntWalk
import Derived.Maps.AppendAt
import Derived.Laws.CopyRow
import Derived.Laws.CopyOwn
import Derived.OwnWalk
import Derived.Lib.Builder
import Derived.RangeFuncBox
import Derived.Deep.RegionHeld3
import Derived.Deep.RegionLaw
import Derived.BigRegion
import Derived.Handy
import Derived.Laws.StructEq
namespace Go.Proofs.Ytmoimijclafgcaa.E
open Go.RowKit Go.Shelf

theorem below_two {w w1 w2 : World} (h1 : Below w.heap.size w w1) (h2 : Below w1.heap.size w1 w2) : Below w.heap.size w w2 := h1.trans (h2.mono h1.size)
theorem below_drewN {n : Nat} {w : World} (k : Nat) : Below n w (w.drewN k) := by
  induction k with
  | zero => exact Below.refl _ _
  | succ k ih => exact ih.drew
theorem bytes_eq (s : ByteArray) : ∃ l : List UInt8, s = ⟨l.toArray⟩ := ⟨s.data.toList, by rw [Array.toArray_toList]⟩
theorem add_at (g o : Nat) (j : Nat) : (⟨g, o, none⟩ : Addr).add j = ⟨g, o + j, none⟩ := by unfold Addr.add; split <;> simp_all

/-- an entry's two cells -/
def enc (x : Ent) : List Value := [.string ⟨x.name.toArray⟩, .int .i64 x.no]
theorem enc_len (x : Ent) : (enc x).length = 2 := rfl
theorem enc_one (x : Ent) : ∀ v ∈ enc x, v.oneCell' = true := by
  intro v hv
  simp only [enc, List.mem_cons, List.not_mem_nil, or_false] at hv
  rcases hv with rfl | rfl <;> rfl
def flat (ls : List Ent) : List Value := ls.flatMap enc
theorem flat_len (ls : List Ent) : (flat ls).length = ls.length * 2 := by
  induction ls with
  | nil => rfl
  | cons x ls ih => simp only [flat, List.flatMap_cons, List.length_append, List.length_cons]; unfold flat at ih; rw [ih, enc_len]; omega
theorem flat_app (a b : List Ent) : flat (a ++ b) = flat a ++ flat b := by simp [flat]
theorem flat_snoc (ls : List Ent) (x : Ent) : flat (ls ++ [x]) = flat ls ++ enc x := by simp [flat]
theorem flat_one (ls : List Ent) : ∀ u ∈ flat ls, u.oneCell' = true := by
  intro u hu
  obtain ⟨x, _, h⟩ := List.mem_flatMap.1 hu
  exact enc_one x u h
theorem flat_at : ∀ (ls : List Ent) (k : Nat) (x : Ent) (j : Nat), ls[k]? = some x → j < 2 → (flat ls)[k * 2 + j]? = (enc x)[j]?
  | [], k, x, j, h, _ => by simp at h
  | y :: ls, 0, x, j, h, hj => by
    simp at h; subst h
    simp only [flat, List.flatMap_cons, Nat.zero_mul, Nat.zero_add]
    rw [List.getElem?_append_left (by rw [enc_len]; exact hj)]
  | y :: ls, k + 1, x, j, h, hj => by
    have h' : ls[k]? = some x := by simpa using h
    have e := flat_at ls k x j h' hj
    simp only [flat, List.flatMap_cons] at e ⊢
    rw [List.getElem?_append_right (by rw [enc_len]; omega), enc_len, show (k + 1) * 2 + j - 2 = k * 2 + j by omega]
    exact e

/-- who reads this slice sees these entries -/
def Sees (v : Value) (ls : List Ent) (w : World) : Prop :=
  ∃ oa cap, v = .slice oa ls.length cap ∧ (ls.length ≤ cap ∧ cap ≤ maxLen) ∧ ∀ k x, ls[k]? = some x → ∃ g o, oa = some ⟨g, o, none⟩ ∧ w.cell? ⟨g, o + k * 2, none⟩ = some (.string ⟨x.name.toArray⟩) ∧ w.cell? ⟨g, o + k * 2 + 1, none⟩ = some (.int .i64 x.no)
theorem Sees.below {v : Value} {ls : List Ent} {w w' : World} (h : Sees v ls w) (hb : Below w.heap.size w w') : Sees v ls w' := by
  obtain ⟨oa, cap, rfl, hm, hc⟩ := h
  refine ⟨oa, cap, rfl, hm, fun k x hk => ?_⟩
  obtain ⟨g, o, rfl, h0, h1⟩ := hc k x hk
  have hlt : g < w.heap.size := World.block_lt_of_cell? _ _ h0
  exact ⟨g, o, rfl, (hb.cell (p := ⟨g, o + k * 2, none⟩) hlt).trans h0, (hb.cell (p := ⟨g, o + k * 2 + 1, none⟩) hlt).trans h1⟩
theorem sees_none (oa : Option Addr) (c : Nat) (hc : c ≤ maxLen) (w : World) : Sees (.slice oa 0 c) [] w := ⟨oa, c, rfl, ⟨Nat.zero_le _, hc⟩, fun k x h => by simp at h⟩
theorem sees_flat {a : Addr} {cap : Nat} {ls : List Ent} {w : World} (h : Sees (.slice (some a) ls.length cap) ls w) : ∀ j v, (flat ls)[j]? = some v → w.cell? (a.add j) = some v := by
  intro j v hv
  have hj : j < ls.length * 2 := by have := (List.getElem?_eq_some_iff.1 hv).1; rwa [flat_len] at this
  obtain ⟨oa, cap', he, _, hc⟩ := h
  cases he
  have hq : j / 2 < ls.length := by omega
  obtain ⟨x, hx⟩ : ∃ x, ls[j / 2]? = some x := ⟨_, List.getElem?_eq_getElem hq⟩
  obtain ⟨g, o, ha, h0, h1⟩ := hc _ x hx
  cases ha
  have hf := flat_at ls (j / 2) x (j % 2) hx (Nat.mod_lt _ (by decide))
  rw [show j / 2 * 2 + j % 2 = j by omega, hv] at hf
  rw [add_at]
  have h2 : j % 2 = 0 ∨ j % 2 = 1 := by omega
  rcases h2 with e | e
  · rw [e] at hf; rw [show o + j = o + j / 2 * 2 by omega, h0]; exact hf.symm ▸ rfl
  · rw [e] at hf; rw [show o + j = o + j / 2 * 2 + 1 by omega, h1]; exact hf.symm ▸ rfl

theorem infoE : (Try.prog.info? 128).map (fun i => (i.zero, i.size, i.bytes)) = some (some (.agg #[.string ⟨#[]⟩, .int .i64 0]), 2, 24) := by kernel_rfl
theorem sizeE : (Try.prog.info? 128).map (·.size) = some 2 := by kernel_rfl
theorem info_parts {t : TypeId} {z : Value} {n b : Nat} (h : (Try.prog.info? t).map (fun i => (i.zero, i.size, i.bytes)) = some (some z, n, b)) : ∃ i, Try.prog.info? t = some i ∧ i.zero = some z ∧ i.size = n ∧ i.bytes = b := by
  obtain ⟨i, h1, h2⟩ := Option.map_eq_some_iff.1 h
  simp only [Prod.mk.injEq] at h2
  exact ⟨i, h1, h2.1, h2.2.1, h2.2.2⟩

/-- the slice v holds these entries, in memory of the call's own -/
def Own (B : Nat) (v : Value) (ls : List Ent) (w : World) : Prop := w.ownsRow B 128 2 v ls.length (flat ls)
theorem Own.nil (B : Nat) (w : World) : Own B (.slice none 0 0) [] w := World.ownsRow_nil _ _ _ _
theorem Own.snoc {B : Nat} {v : Value} {ls : List Ent} {x : Ent} {w : World} (h : w.ownsRow B 128 2 v (ls.length + 1) (flat ls ++ enc x)) : Own B v (ls ++ [x]) w := by
  unfold Own; rw [flat_snoc, List.length_append]; exact h
theorem Own.mono {B B' : Nat} {v : Value} {ls : List Ent} {w : World} (h : Own B v ls w) (hb : B' ≤ B) : Own B' v ls w := by
  refine ⟨h.1, h.2.imp id ?_⟩
  rintro ⟨g, cap, cur, h1, h2, h3⟩
  exact ⟨g, cap, cur, h1, Nat.le_trans hb h2, h3⟩
theorem Own.below {B : Nat} {v : Value} {ls : List Ent} {w w' : World} (h : Own B v ls w) (hb : Below w.heap.size w w') : Own B v ls w' :=
  h.kept (row := none) ⟨hb.os, hb.tape, hb.output, hb.size, fun j hj _ => hb.block j hj⟩ (by cases hv : v.ownBlock <;> simp)
theorem Own.forms {B : Nat} {v : Value} {ls : List Ent} {w : World} (h : Own B v ls w) : (v = .slice none 0 0 ∧ ls = []) ∨ ∃ g cap, v = .slice (some ⟨g, 0, none⟩) ls.length cap := by
  rcases h.2 with ⟨h1, h2⟩ | ⟨g, cap, cur, h1, _⟩
  · exact .inl ⟨h1, List.eq_nil_of_length_eq_zero h2⟩
  · exact .inr ⟨g, cap, h1⟩
theorem Own.sees {B : Nat} {v : Value} {ls : List Ent} {w : World} (h : Own B v ls w) : Sees v ls w := by
  rcases h.forms with ⟨rfl, rfl⟩ | ⟨g, cap, rfl⟩
  · exact sees_none _ _ (Nat.zero_le _) _
  · refine ⟨_, _, rfl, ?_, fun k x hk => ⟨g, 0, rfl, ?_⟩⟩
    · rcases h.2 with ⟨h1, _⟩ | ⟨g', cap', cur, h1, _, _, h2, h3, _⟩
      · cases h1
      · cases h1; exact ⟨h2, h3⟩
    have hlt : k < ls.length := (List.getElem?_eq_some_iff.1 hk).1
    have c : ∀ j, j < 2 → w.cell? ⟨g, k * 2 + j, none⟩ = (enc x)[j]? := fun j hj => by
      rw [World.ownsRow.cellAt h (k * 2 + j) (by omega)]
      exact flat_at ls k x j hk hj
    exact ⟨by rw [Nat.zero_add]; exact c 0 (by decide), by rw [Nat.zero_add]; exact c 1 (by decide)⟩
theorem own_drew {B : Nat} {v : Value} {n : Nat} {xs : List Value} {w : World} (h : w.ownsRow B 128 2 v n xs) : w.drew.ownsRow B 128 2 v n xs := h.drew

/-- two cells of an entry, in a block of the call's own -/
def Box2 (b : Nat) (x : Ent) (w : World) : Prop := w.heap[b]? = some (.cells #[.string ⟨x.name.toArray⟩, .int .i64 x.no] 128 (0, 0))
theorem Box2.lt {b : Nat} {x : Ent} {w : World} (h : Box2 b x w) : b < w.heap.size := (Array.getElem?_eq_some_iff.1 h).1
theorem Box2.below {b : Nat} {x : Ent} {w w' : World} (h : Box2 b x w) (hb : Below w.heap.size w w') : Box2 b x w' := (hb.block b h.lt).trans h
theorem Box2.new (x : Ent) (w : World) : Box2 w.heap.size x (w.alloc (.cells #[.string ⟨x.name.toArray⟩, .int .i64 x.no] 128)) := heap_alloc_new w _
theorem Box2.facts {b : Nat} {x : Ent} {w : World} (h : Box2 b x w) :
    w.cell? ⟨b, 0, none⟩ = some (.string ⟨x.name.toArray⟩) ∧ w.cell? ⟨b, 1, none⟩ = some (.int .i64 x.no) ∧ w.frozen? ⟨b, 0, none⟩ = false ∧ w.frozen? ⟨b, 1, none⟩ = false :=
  ⟨by rw [Lib.cell_of_heap h]; rfl, by rw [Lib.cell_of_heap h]; rfl, Lib.frozen_of_heap h 0, Lib.frozen_of_heap h 1⟩
theorem Box2.put {b : Nat} {x : Ent} {w : World} (h : Box2 b x w) (y : Ent) :
    Box2 b y ((w.setCell ⟨b, 0, none⟩ (.string ⟨y.name.toArray⟩)).setCell ⟨b, 1, none⟩ (.int .i64 y.no)) := by
  unfold Box2 at *
  simp [World.setCell, Array.getElem?_modify, h]
theorem filled {n b : Nat} (hn : n ≤ b) (w : World) (y : Ent) : Below n w ((w.setCell ⟨b, 0, none⟩ (.string ⟨y.name.toArray⟩)).setCell ⟨b, 1, none⟩ (.int .i64 y.no)) :=
  ((Below.refl n w).setCell (p := ⟨b, 0, none⟩) hn _).setCell (p := ⟨b, 1, none⟩) hn _
theorem one_sees (y : Ent) (w : World) (t : TypeId) : Sees (.slice (some ⟨w.heap.size, 0, none⟩) 1 1) [y] (w.alloc (.cells #[.string ⟨y.name.toArray⟩, .int .i64 y.no] t)) := by
  refine ⟨_, 1, rfl, ⟨Nat.le_refl _, by decide⟩, fun k x h => ⟨w.heap.size, 0, rfl, ?_⟩⟩
  have hk : k = 0 := by have := (List.getElem?_eq_some_iff.1 h).1; simp at this; exact this
  subst hk
  simp at h; subst h
  exact ⟨by rw [World.cell?_alloc_new]; rfl, by rw [World.cell?_alloc_new]; rfl⟩

/-- copy into a row: what goes over is laid over what was there -/
theorem run_copy2 (w : World) (ty : TypeId) (g o dLen dCap : Nat) (dp oa : Option Addr) (ls : List Ent) (cap : Nat) (cur : List Value) (hR : Sees (.slice oa ls.length cap) ls w) (hg : w.heap[g]? = some (.cells cur.toArray 128 (0, 0)))
    (hle : ls.length ≤ dLen) (hd : 0 < ls.length → dp = some ⟨g, o, none⟩) (hfit : o + ls.length * 2 ≤ cur.length) :
    (Builtin.copy_ #[69, 69] ty #[.slice dp dLen dCap, .slice oa ls.length cap]).run Try.prog w = .ok (goInt ls.length) (w.setRow g (splice cur o (flat ls)).toArray) := by
  obtain ⟨i, hq, hi⟩ := Option.map_eq_some_iff.1 sizeE
  have hmin : Nat.min ls.length dLen = ls.length := Nat.min_eq_left hle
  by_cases h0 : ls = []
  · subst h0
    have hs : splice cur o (flat []) = cur := by simp [splice, flat]
    rw [hs, setRow_self w g cur.toArray 128 (0, 0) hg]
    cases dp <;> cases oa <;> simp [Builtin.copy_, run_underlying Try.underlying69, Builtin.lenOf, Builtin.firstCells, sizeOf, typeInfo, hq, storeCells, loadCells, loadCellsFrom]
  · have hpos : 0 < ls.length := List.length_pos_iff.2 h0
    obtain rfl := hd hpos
    cases oa with
    | none =>
      cases ls with
      | nil => exact absurd rfl h0
      | cons x l =>
        obtain ⟨oa, cap', he, _, hc⟩ := hR
        cases he
        obtain ⟨g', o', ha, _⟩ := hc 0 x rfl
        cases ha
    | some a =>
      have hst := run_storeCells_at Try.prog g o 128 (flat ls) 0 cur.toArray w hg (by rw [flat_len]; simpa using hfit) (flat_one ls)
      have hl := run_loadCells_list (P := Try.prog) w a (flat ls) (sees_flat hR)
      rw [flat_len] at hl
      simp [Builtin.copy_, run_underlying Try.underlying69, Builtin.lenOf, Builtin.firstCells, sizeOf, typeInfo, hq, hi, hmin, hl, hst, splice, flat_len]

theorem wpList_copy2 {w : World} {ops : Array Oper} {rest : List Oper} {o : Oper} {a : Act} {Q : Exit → Act → World → Prop} (hgd : o.guard = none) (d s : Operand)
    (ho : o.op = .call { callee := .builtin .copy, args := #[d, s], argTypes := #[69, 69] }) (dp oa : Option Addr) (dLen dCap m cap : Nat) (hd : a.eval d = .slice dp dLen dCap) (hs : a.eval s = .slice oa m cap)
    (ls : List Ent) (hm : m = ls.length) (g off : Nat) (cur : List Value) (hR : Sees (.slice oa ls.length cap) ls w) (hg : w.heap[g]? = some (.cells cur.toArray 128 (0, 0)))
    (hle : ls.length ≤ dLen) (hdp : 0 < ls.length → dp = some ⟨g, off, none⟩) (hfit : off + ls.length * 2 ≤ cur.length) (B : Nat) (w0 : World) (hb : Below B w0 w) (hBg : B ≤ g)
    (h : ∀ w', Hid (w'.heap[g]? = some (.cells (splice cur off (flat ls)).toArray 128 (0, 0))) → Below B w0 w' → wpList Try.prog ops Q rest (a.put o.dst (goInt m)) w') :
    wpList Try.prog ops Q (o :: rest) a w := by
  subst hm
  refine wpList_plain hgd fun K hK => ?_
  have hrun := run_copy2 w o.type g off dLen dCap dp oa ls cap cur hR hg hle hdp hfit
  unfold Oper.wp
  simp [execOp, ho, resolve, invoke, builtin, hd, hs, hrun, Result.andThen]
  exact hK _ _ (h _ (show _ = _ from setRow_heap w g _ _ _ _ hg) (below_setRow hb hBg _))
theorem step_copy2 {w : World} {ops : Array Oper} {o : Oper} {a : Act} {K : Act → World → Prop} {Q : Exit → Act → World → Prop} {E : Prop} (hgd : o.guard = none) (d s : Operand)
    (ho : o.op = .call { callee := .builtin .copy, args := #[d, s], argTypes := #[69, 69] }) (dp oa : Option Addr) (dLen dCap m cap : Nat) (hd : a.eval d = .slice dp dLen dCap) (hs : a.eval s = .slice oa m cap)
    (ls : List Ent) (hm : m = ls.length) (g off : Nat) (cur : List Value) (hR : Sees (.slice oa ls.length cap) ls w) (hg : w.heap[g]? = some (.cells cur.toArray 128 (0, 0)))
    (hle : ls.length ≤ dLen) (hdp : 0 < ls.length → dp = some ⟨g, off, none⟩) (hfit : off + ls.length * 2 ≤ cur.length) (B : Nat) (w0 : World) (hb : Below B w0 w) (hBg : B ≤ g)
    (h : ∀ w', Hid (w'.heap[g]? = some (.cells (splice cur off (flat ls)).toArray 128 (0, 0))) → Below B w0 w' → K (a.put o.dst (goInt m)) w') :
    if Region.wanted o (yielded ops a.tmps) = true then Oper.wp Try.prog o a w K Q else E := by
  subst hm
  have hw : Region.wanted o (yielded ops a.tmps) = true := by simp [Region.wanted, hgd]
  rw [if_pos hw]
  have hrun := run_copy2 w o.type g off dLen dCap dp oa ls cap cur hR hg hle hdp hfit
  unfold Oper.wp
  simp [execOp, ho, resolve, invoke, builtin, hd, hs, hrun, Result.andThen]
  exact h _ (show _ = _ from setRow_heap w g _ _ _ _ hg) (below_setRow hb hBg _)

end Go.Proofs.Ytmoimijclafgcaa.E
