/-
  Slices of texts that are only read, one appended to a slice of the call's own; the walk's box.
-/
import Derived.Test.YtlceaecibjbeaaaGreatRefc
import Derived.Test.YtlceaecibjbeaaaGreatKmath
import Derived.Laws.OwnMore
import Derived.Laws.AppendOwn
import Derived.Lib.AppendZeros
namespace Go.Proofs.YtlceaecibjbeaaaGreat.K
open Go.RowKit Go.Shelf G

theorem size_ll (l : List UInt8) : (⟨l.toArray⟩ : ByteArray).size = l.length := by show l.toArray.size = _; simp
/-- who reads this slice sees these texts -/
def Strs (v : Value) (ps : List (List UInt8)) (w : World) : Prop :=
  ∃ oa cap, v = .slice oa ps.length cap ∧ (ps.length ≤ cap ∧ cap ≤ maxLen) ∧ ∀ k p, ps[k]? = some p → ∃ g o cur, oa = some ⟨g, o, none⟩ ∧ w.heap[g]? = some (.cells cur 9 (0, 0)) ∧ cur[o + k]? = some (.string ⟨p.toArray⟩)
/-- the blocks of texts are as they were -/
def StrKept (w w' : World) : Prop := ∀ (g : Nat) (cur : Array Value), w.heap[g]? = some (.cells cur 9 (0, 0)) → w'.heap[g]? = some (.cells cur 9 (0, 0))
theorem StrKept.trans {a b c : World} (h : StrKept a b) (k : StrKept b c) : StrKept a c := fun g cur hg => k g cur (h g cur hg)
theorem StrKept.below {w w' : World} (h : Below w.heap.size w w') : StrKept w w' := fun g _ hg => (h.block g (Array.getElem?_eq_some_iff.1 hg).1).trans hg
theorem Strs.kept {v : Value} {ps : List (List UInt8)} {w w' : World} (h : Strs v ps w) (hk : StrKept w w') : Strs v ps w' := by
  obtain ⟨oa, cap, h1, h2, h3⟩ := h
  refine ⟨oa, cap, h1, h2, fun k p hp => ?_⟩
  obtain ⟨g, o, cur, e1, e2, e3⟩ := h3 k p hp
  exact ⟨g, o, cur, e1, hk g cur e2, e3⟩
theorem Strs.below {v : Value} {ps : List (List UInt8)} {w w' : World} (h : Strs v ps w) (hb : Below w.heap.size w w') : Strs v ps w' := h.kept (StrKept.below hb)
theorem Strs.nil (w : World) : Strs (.slice none 0 0) [] w := ⟨none, 0, rfl, ⟨Nat.le_refl _, Nat.zero_le _⟩, fun k p h => by simp at h⟩
theorem Strs.none_nil {n c : Nat} {ps : List (List UInt8)} {w : World} (h : Strs (.slice none n c) ps w) : ps = [] := by
  obtain ⟨oa, cap, h1, h2, h3⟩ := h
  cases ps with
  | nil => rfl
  | cons p r =>
    obtain ⟨g, o, cur, e1, _⟩ := h3 0 p rfl
    subst e1
    cases h1
theorem Strs.slice {v : Value} {ps : List (List UInt8)} {w : World} (h : Strs v ps w) : ∃ oa cap, v = .slice oa ps.length cap ∧ (ps.length ≤ cap ∧ cap ≤ maxLen) := by
  obtain ⟨oa, cap, h1, h2, _⟩ := h; exact ⟨oa, cap, h1, h2⟩
/-- the first text, and the slice behind it -/
theorem Strs.cons {v : Value} {p : List UInt8} {r : List (List UInt8)} {w : World} (h : Strs v (p :: r) w) :
    ∃ g o cap, v = .slice (some ⟨g, o, none⟩) (r.length + 1) cap ∧ r.length + 1 ≤ cap ∧ cap ≤ maxLen ∧ w.cell? ⟨g, o, none⟩ = some (.string ⟨p.toArray⟩) ∧ g < w.heap.size ∧ ∀ oa c, c = cap - 1 → (r ≠ [] → oa = some ⟨g, o + 1, none⟩) → Strs (.slice oa r.length c) r w := by
  obtain ⟨oa, cap, rfl, h2, h3⟩ := h
  obtain ⟨g, o, cur, rfl, e2, e3⟩ := h3 0 p rfl
  refine ⟨g, o, cap, rfl, h2.1, h2.2, ?_, (Array.getElem?_eq_some_iff.1 e2).1, ?_⟩
  · rw [Lib.cell_of_heap e2]; exact e3
  · rintro oa c rfl ho
    refine ⟨oa, cap - 1, rfl, ⟨?_, ?_⟩, fun k q hq => ?_⟩
    · have := h2.1; simp only [List.length_cons] at this; omega
    · have := h2.2; omega
    · obtain ⟨g', o', cur', e4, e5, e6⟩ := h3 (k + 1) q (by simpa using hq)
      cases e4
      refine ⟨g, o + 1, cur', ho (fun e => by subst e; simp at hq), e5, ?_⟩
      rw [show o + 1 + k = o + (k + 1) by omega]; exact e6
/-- texts of the call's own are seen -/
theorem strs_of {B : Nat} {v : Value} {ps : List (List UInt8)} {w : World} (h : V.Texts B v ps w) : Strs v ps w := by
  have h0 := h
  rcases h.2 with ⟨h1, h2⟩ | ⟨g, cap, cur, h1, h2, h3, h4, h5, _⟩
  · have : ps = [] := List.eq_nil_of_length_eq_zero h2
    subst this h1
    exact Strs.nil w
  · subst h1
    refine ⟨_, cap, rfl, ⟨h4, h5⟩, fun k p hp => ⟨g, 0, cur, rfl, h3, ?_⟩⟩
    have := h0.cell k p hp
    rw [Lib.cell_of_heap h3] at this
    simpa using this
/-- texts appended to texts of the call's own -/
theorem append_strs {P : Program} {B : Nat} {w : World} (t ty : TypeId) (i : TypeInfo) (ht : P.underlying t = some (.slice 9)) (hi : P.info? 9 = some i) (hz : i.zero = some (.string ⟨#[]⟩)) (hs : i.size = 1) (hb : i.bytes = 16)
    {v u : Value} {ps rs : List (List UInt8)} (h : V.Texts B v ps w) (k : Strs u rs w) (hl : ps.length + rs.length ≤ 1000000) (hB : B ≤ w.heap.size) :
    ∃ v' w', (Builtin.append_ #[t, t] ty #[v, u]).run P w = .ok v' w' ∧ V.Texts B v' (ps ++ rs) w' ∧ w.grownBy w' v.ownBlock := by
  obtain ⟨oa, cap, rfl, h2, h3⟩ := k
  cases oa with
  | none =>
    have hn : rs = [] := by
      cases rs with
      | nil => rfl
      | cons p r => obtain ⟨g, o, cur, e, _⟩ := h3 0 p rfl; cases e
    subst hn
    refine ⟨v, w, ?_, by rw [List.append_nil]; exact h, ?_⟩
    · rcases h.forms with ⟨rfl, rfl⟩ | ⟨g, c, rfl⟩
      · simp [Builtin.append_, run_underlying ht, sizeOf, typeInfo, hi, Builtin.lenOf, Builtin.firstCells]
      · rcases h.2 with ⟨e1, _⟩ | ⟨g', c', cur, e1, _, _, e4, _⟩
        · cases e1
        · cases e1
          simp [Builtin.append_, run_underlying ht, sizeOf, typeInfo, hi, Builtin.lenOf, Builtin.firstCells, e4, storeCells]
    · exact ⟨rfl, rfl, rfl, Nat.le_refl _, fun _ _ _ => rfl⟩
  | some a =>
    obtain ⟨v', w', hr, ho, hg, _⟩ := run_append_own (P := P) w B t ty 9 i (.string ⟨#[]⟩) 1 16 ht hi hz hs hb rfl (by decide) v ps.length (ps.map V.str) h a rs.length cap (rs.map V.str) (by simp)
      (fun j x hx => by
        rw [List.getElem?_map] at hx
        obtain ⟨p, hp, rfl⟩ := Option.map_eq_some_iff.1 hx
        obtain ⟨g, o, cur, e1, e2, e3⟩ := h3 j p hp
        cases e1
        rw [show (⟨g, o, none⟩ : Addr).add j = ⟨g, o + j, none⟩ from E.add_at _ _ _, Lib.cell_of_heap e2]
        exact e3)
      (fun x hx => by obtain ⟨p, _, rfl⟩ := List.mem_map.1 hx; rfl) (by unfold maxLen; omega) (by omega) hB
    refine ⟨v', w', hr, ?_, hg⟩
    unfold V.Texts
    rw [List.length_append, List.map_append]
    exact ho
/-- that, as a step of a region that draws -/
theorem step_append_strs {P : Program} {ops : Array Oper} {o : Oper} {a : Act} {w : World} {K : Act → World → Prop} {Q : Exit → Act → World → Prop} {E : Prop} {B : Nat}
    (hg : o.guard = none) (s x : Operand) (t : TypeId) (ho : o.op = .call { callee := .builtin .append, args := #[s, x], argTypes := #[t, t] })
    (i : TypeInfo) (ht : P.underlying t = some (.slice 9)) (hi : P.info? 9 = some i) (hz : i.zero = some (.string ⟨#[]⟩)) (hs : i.size = 1) (hb : i.bytes = 16)
    {v u : Value} {ps rs : List (List UInt8)} (ev : a.eval s = v) (eu : a.eval x = u) (h : V.Texts B v ps w) (k : Strs u rs w) (hl : ps.length + rs.length ≤ 1000000) (hB : B ≤ w.heap.size)
    (hK : ∀ v' w', V.Texts B v' (ps ++ rs) w' → w.grownBy w' v.ownBlock → K (a.put o.dst v') w') :
    if Region.wanted o (yielded ops a.tmps) = true then Oper.wp P o a w K Q else E := by
  have hw : Region.wanted o (yielded ops a.tmps) = true := by simp [Region.wanted, hg]
  rw [if_pos hw]
  obtain ⟨v', w', hr, h1, h2⟩ := append_strs t o.type i ht hi hz hs hb h k hl hB
  exact Lib.wp_append_run w s x t t ho v u ev eu v' w' hr (hK v' w' h1 h2)

/-- the walk's box -/
def WkBox (b X : Nat) (n : T.Nd) (es rv : Value) (h : Int) (m : Bool) (w : World) : Prop := w.heap[b]? = some (.cells #[.pointer (some ⟨X, 0, none⟩), .int .i64 n.no, .int .i64 n.dev, .int .i64 n.kind, .int .i64 n.mode, .int .i64 n.uid, .int .i64 n.gid, .int .i64 n.mt, .int .i64 n.ct, .int .i64 n.links, .int .i64 n.up, .string n.data, es, rv, .int .i64 h, .bool m] 69 (0, 0))
/-- all twelve cells of its node written -/
def fillK (w : World) (b : Nat) (n : T.Nd) (es : Value) : World := (((((((((((w.setCell ⟨b, 1, none⟩ (.int .i64 n.no)).setCell ⟨b, 2, none⟩ (.int .i64 n.dev)).setCell ⟨b, 3, none⟩ (.int .i64 n.kind)).setCell ⟨b, 4, none⟩ (.int .i64 n.mode)).setCell ⟨b, 5, none⟩ (.int .i64 n.uid)).setCell ⟨b, 6, none⟩ (.int .i64 n.gid)).setCell ⟨b, 7, none⟩ (.int .i64 n.mt)).setCell ⟨b, 8, none⟩ (.int .i64 n.ct)).setCell ⟨b, 9, none⟩ (.int .i64 n.links)).setCell ⟨b, 10, none⟩ (.int .i64 n.up)).setCell ⟨b, 11, none⟩ (.string n.data)).setCell ⟨b, 12, none⟩ (es)
section
variable {b X : Nat} {n : T.Nd} {es rv : Value} {h : Int} {m : Bool} {w w' : World}
theorem WkBox.lt (H : WkBox b X n es rv h m w) : b < w.heap.size := (Array.getElem?_eq_some_iff.1 H).1
theorem WkBox.below (H : WkBox b X n es rv h m w) (hb : Below w.heap.size w w') : WkBox b X n es rv h m w' := (hb.block b H.lt).trans H
theorem WkBox.grown (H : WkBox b X n es rv h m w) {oa : Option Nat} (hg : w.grownBy w' oa) (hne : oa ≠ some b) : WkBox b X n es rv h m w' := (hg.block b H.lt (fun e => hne (by rw [e]))).trans H
theorem WkBox.new (X : Nat) (n : T.Nd) (es rv : Value) (h : Int) (m : Bool) (w : World) : WkBox w.heap.size X n es rv h m (w.alloc (.cells #[.pointer (some ⟨X, 0, none⟩), .int .i64 n.no, .int .i64 n.dev, .int .i64 n.kind, .int .i64 n.mode, .int .i64 n.uid, .int .i64 n.gid, .int .i64 n.mt, .int .i64 n.ct, .int .i64 n.links, .int .i64 n.up, .string n.data, es, rv, .int .i64 h, .bool m] 69)) := heap_alloc_new w _
theorem WkBox.facts (H : WkBox b X n es rv h m w) : w.cell? ⟨b, 0, none⟩ = some (.pointer (some ⟨X, 0, none⟩)) ∧ w.cell? ⟨b, 1, none⟩ = some (.int .i64 n.no) ∧ w.cell? ⟨b, 2, none⟩ = some (.int .i64 n.dev) ∧ w.cell? ⟨b, 3, none⟩ = some (.int .i64 n.kind) ∧ w.cell? ⟨b, 4, none⟩ = some (.int .i64 n.mode) ∧ w.cell? ⟨b, 5, none⟩ = some (.int .i64 n.uid) ∧ w.cell? ⟨b, 6, none⟩ = some (.int .i64 n.gid) ∧ w.cell? ⟨b, 7, none⟩ = some (.int .i64 n.mt) ∧ w.cell? ⟨b, 8, none⟩ = some (.int .i64 n.ct) ∧ w.cell? ⟨b, 9, none⟩ = some (.int .i64 n.links) ∧ w.cell? ⟨b, 10, none⟩ = some (.int .i64 n.up) ∧ w.cell? ⟨b, 11, none⟩ = some (.string n.data) ∧ w.cell? ⟨b, 12, none⟩ = some (es) ∧ w.cell? ⟨b, 13, none⟩ = some (rv) ∧ w.cell? ⟨b, 14, none⟩ = some (.int .i64 h) ∧ w.cell? ⟨b, 15, none⟩ = some (.bool m) := by
  refine ⟨?_, ?_, ?_, ?_, ?_, ?_, ?_, ?_, ?_, ?_, ?_, ?_, ?_, ?_, ?_, ?_⟩ <;> (rw [Lib.cell_of_heap H]; rfl)
theorem WkBox.open (H : WkBox b X n es rv h m w) : w.frozen? ⟨b, 0, none⟩ = false ∧ w.frozen? ⟨b, 1, none⟩ = false ∧ w.frozen? ⟨b, 2, none⟩ = false ∧ w.frozen? ⟨b, 3, none⟩ = false ∧ w.frozen? ⟨b, 4, none⟩ = false ∧ w.frozen? ⟨b, 5, none⟩ = false ∧ w.frozen? ⟨b, 6, none⟩ = false ∧ w.frozen? ⟨b, 7, none⟩ = false ∧ w.frozen? ⟨b, 8, none⟩ = false ∧ w.frozen? ⟨b, 9, none⟩ = false ∧ w.frozen? ⟨b, 10, none⟩ = false ∧ w.frozen? ⟨b, 11, none⟩ = false ∧ w.frozen? ⟨b, 12, none⟩ = false ∧ w.frozen? ⟨b, 13, none⟩ = false ∧ w.frozen? ⟨b, 14, none⟩ = false ∧ w.frozen? ⟨b, 15, none⟩ = false :=
  ⟨Lib.frozen_of_heap H 0, Lib.frozen_of_heap H 1, Lib.frozen_of_heap H 2, Lib.frozen_of_heap H 3, Lib.frozen_of_heap H 4, Lib.frozen_of_heap H 5, Lib.frozen_of_heap H 6, Lib.frozen_of_heap H 7, Lib.frozen_of_heap H 8, Lib.frozen_of_heap H 9, Lib.frozen_of_heap H 10, Lib.frozen_of_heap H 11, Lib.frozen_of_heap H 12, Lib.frozen_of_heap H 13, Lib.frozen_of_heap H 14, Lib.frozen_of_heap H 15⟩
theorem WkBox.fill (H : WkBox b X n es rv h m w) (n' : T.Nd) (es' : Value) : WkBox b X n' es' rv h m (fillK w b n' es') := by
  unfold WkBox fillK at *
  simp [World.setCell, Array.getElem?_modify, H]
theorem WkBox.num (H : WkBox b X n es rv h m w) (k : Int) : WkBox b X (n.as k) es rv h m (w.setCell ⟨b, 1, none⟩ (.int .i64 k)) := by
  unfold WkBox at *
  simp [World.setCell, Array.getElem?_modify, H, T.Nd.as]
theorem WkBox.rest (H : WkBox b X n es rv h m w) (u : Value) : WkBox b X n es u h m (w.setCell ⟨b, 13, none⟩ (u)) := by
  unfold WkBox at *
  simp [World.setCell, Array.getElem?_modify, H]
theorem WkBox.hops (H : WkBox b X n es rv h m w) (k : Int) : WkBox b X n es rv k m (w.setCell ⟨b, 14, none⟩ (.int .i64 k)) := by
  unfold WkBox at *
  simp [World.setCell, Array.getElem?_modify, H]
theorem WkBox.must (H : WkBox b X n es rv h m w) (k : Bool) : WkBox b X n es rv h k (w.setCell ⟨b, 15, none⟩ (.bool k)) := by
  unfold WkBox at *
  simp [World.setCell, Array.getElem?_modify, H]

theorem turn_set (b i : Nat) (u : Value) (w : World) : Turn (fun k => k = b) w (w.setCell ⟨b, i, none⟩ u) :=
  ⟨rfl, rfl, rfl, by simp [World.setCell], fun k _ hk => Below.heap_setCell _ _ _ _ hk⟩
theorem turn_fillK (b : Nat) (n : T.Nd) (es : Value) (w : World) : Turn (fun k => k = b) w (fillK w b n es) := by
  unfold fillK
  exact ((((((((((((turn_set _ _ _ _).trans (turn_set _ _ _ _)).trans (turn_set _ _ _ _)).trans (turn_set _ _ _ _)).trans (turn_set _ _ _ _)).trans (turn_set _ _ _ _)).trans (turn_set _ _ _ _)).trans (turn_set _ _ _ _)).trans (turn_set _ _ _ _)).trans (turn_set _ _ _ _)).trans (turn_set _ _ _ _)).trans (turn_set _ _ _ _))
/-- where only the walk's box turns, texts and entries stay -/
theorem WkBox.strKept (H : WkBox b X n es rv h m w) (ht : Turn (fun k => k = b) w w') : StrKept w w' := fun g cur hg =>
  (ht.block g (Array.getElem?_eq_some_iff.1 hg).1 (fun e => by subst e; unfold WkBox at H; rw [H] at hg; cases hg)).trans hg
theorem WkBox.entKept (H : WkBox b X n es rv h m w) (ht : Turn (fun k => k = b) w w') : T.EntKept w w' := fun g cur hg =>
  (ht.block g (Array.getElem?_eq_some_iff.1 hg).1 (fun e => by subst e; unfold WkBox at H; rw [H] at hg; cases hg)).trans hg
end
/-- how far the walk in the box b has come -/
def At (B b X : Nat) (st : St) (here : Int) (rest : List (List UInt8)) (must : Bool) (hops : Nat) (w : World) : Prop :=
  ∃ es rv, WkBox b X ((gets st.n here).as here) es rv hops must w ∧ E.Own B es (gets st.n here).es w ∧ Strs rv rest w
section
variable {B b X : Nat} {st : St} {here : Int} {rest : List (List UInt8)} {must : Bool} {hops : Nat} {w w' : World}
theorem At.below (h : At B b X st here rest must hops w) (hb : Below w.heap.size w w') : At B b X st here rest must hops w' := by
  obtain ⟨es, rv, h1, h2, h3⟩ := h
  exact ⟨es, rv, h1.below hb, T.own_kept h2 (T.EntKept.below hb), h3.below hb⟩
end
end Go.Proofs.YtlceaecibjbeaaaGreat.K
