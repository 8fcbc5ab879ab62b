/-
  Rows of nodes in memory; the keys of a table's map, sorted; table.rising.
-/
import Derived.Test.YtmoimijclafgcaaTset
namespace Go.Proofs.Ytmoimijclafgcaa.T
open Go.RowKit Go.Shelf Go.Maps

theorem add_at (g o : Nat) (j : Nat) : (⟨g, o, none⟩ : Addr).add j = ⟨g, o + j, none⟩ := by unfold Addr.add; split <;> simp_all
/-- a slice by value -/
def Slc (v : Value) : Prop := ∃ oa n c, v = .slice oa n c
theorem cs_len (n : Nd) (s : Value) : (n.cs s).length = 12 := rfl
theorem cs_one (n : Nd) {s : Value} (hs : Slc s) : ∀ v ∈ n.cs s, v.oneCell' = true := by
  obtain ⟨oa, m, c, rfl⟩ := hs
  intro v hv
  simp only [Nd.cs, List.mem_cons, List.not_mem_nil, or_false] at hv
  rcases hv with rfl | rfl | rfl | rfl | rfl | rfl | rfl | rfl | rfl | rfl | rfl | rfl <;> rfl
def flat (l : Row) : List Value := l.flatMap fun p => p.1.cs p.2
theorem flat_len (l : Row) : (flat l).length = l.length * 12 := by
  induction l with
  | nil => rfl
  | cons x r ih => simp only [flat, List.flatMap_cons, List.length_append, List.length_cons] at ih ⊢; rw [ih, cs_len]; omega
theorem flat_app (a b : Row) : flat (a ++ b) = flat a ++ flat b := by simp [flat]
theorem flat_snoc (l : Row) (p : Nd × Value) : flat (l ++ [p]) = flat l ++ p.1.cs p.2 := by simp [flat]
theorem flat_one (l : Row) (h : ∀ p ∈ l, Slc p.2) : ∀ u ∈ flat l, u.oneCell' = true := by
  intro u hu
  obtain ⟨x, hx, hm⟩ := List.mem_flatMap.1 hu
  exact cs_one x.1 (h x hx) u hm
theorem flat_at : ∀ (l : Row) (k : Nat) (p : Nd × Value) (j : Nat), l[k]? = some p → j < 12 → (flat l)[k * 12 + j]? = (p.1.cs p.2)[j]?
  | [], k, x, j, h, _ => by simp at h
  | y :: ls, 0, x, j, h, hj => by
    simp at h; subst h
    simp only [flat, List.flatMap_cons, Nat.zero_mul, Nat.zero_add]
    rw [List.getElem?_append_left (by rw [cs_len]; exact hj)]
  | y :: ls, k + 1, x, j, h, hj => by
    have h' : ls[k]? = some x := by simpa using h
    have e := flat_at ls k x j h' hj
    simp only [flat, List.flatMap_cons] at e ⊢
    rw [List.getElem?_append_right (by rw [cs_len]; omega), cs_len, show (k + 1) * 12 + j - 12 = k * 12 + j by omega]
    exact e

/-- the twelve cells of a node at a place -/
def At (g o : Nat) (n : Nd) (s : Value) (w : World) : Prop := ∀ j, j < 12 → w.cell? ⟨g, o + j, none⟩ = (n.cs s)[j]?
theorem At.lt {g o : Nat} {n : Nd} {s : Value} {w : World} (h : At g o n s w) : g < w.heap.size := World.block_lt_of_cell? _ _ ((h 0 (by decide)).trans rfl)
theorem At.facts {g o : Nat} {n : Nd} {s : Value} {w : World} (h : At g o n s w) :
    w.cell? ⟨g, o, none⟩ = some (.int .i64 n.no) ∧ w.cell? ⟨g, o + 1, none⟩ = some (.int .i64 n.dev) ∧ w.cell? ⟨g, o + 2, none⟩ = some (.int .i64 n.kind) ∧ w.cell? ⟨g, o + 3, none⟩ = some (.int .i64 n.mode) ∧
    w.cell? ⟨g, o + 4, none⟩ = some (.int .i64 n.uid) ∧ w.cell? ⟨g, o + 5, none⟩ = some (.int .i64 n.gid) ∧ w.cell? ⟨g, o + 6, none⟩ = some (.int .i64 n.mt) ∧ w.cell? ⟨g, o + 7, none⟩ = some (.int .i64 n.ct) ∧
    w.cell? ⟨g, o + 8, none⟩ = some (.int .i64 n.links) ∧ w.cell? ⟨g, o + 9, none⟩ = some (.int .i64 n.up) ∧ w.cell? ⟨g, o + 10, none⟩ = some (.string n.data) ∧ w.cell? ⟨g, o + 11, none⟩ = some s :=
  ⟨h 0 (by decide), h 1 (by decide), h 2 (by decide), h 3 (by decide), h 4 (by decide), h 5 (by decide), h 6 (by decide), h 7 (by decide), h 8 (by decide), h 9 (by decide), h 10 (by decide), h 11 (by decide)⟩
theorem At.below {g o m : Nat} {n : Nd} {s : Value} {w w' : World} (h : At g o n s w) (hb : Below m w w') (hg : g < m) : At g o n s w' := fun j hj => by rw [hb.cell (by exact hg)]; exact h j hj
theorem At.later {g o : Nat} {n : Nd} {s : Value} {w w' : World} (h : At g o n s w) (hb : Below w.heap.size w w') : At g o n s w' := h.below hb h.lt

/-- who reads this slice sees these nodes -/
def RowSees (v : Value) (l : Row) (w : World) : Prop :=
  ∃ oa cap, v = .slice oa l.length cap ∧ (l.length ≤ cap ∧ cap ≤ maxLen) ∧ ∀ k p, l[k]? = some p → ∃ g o, oa = some ⟨g, o, none⟩ ∧ At g (o + k * 12) p.1 p.2 w
theorem RowSees.below {v : Value} {l : Row} {w w' : World} (h : RowSees v l w) (hb : Below w.heap.size w w') : RowSees v l w' := by
  obtain ⟨oa, cap, rfl, hm, hc⟩ := h
  refine ⟨oa, cap, rfl, hm, fun k p hk => ?_⟩
  obtain ⟨g, o, e, h0⟩ := hc k p hk
  exact ⟨g, o, e, h0.later hb⟩
theorem rowSees_none (oa : Option Addr) (c : Nat) (hc : c ≤ maxLen) (w : World) : RowSees (.slice oa 0 c) [] w := ⟨oa, c, rfl, ⟨Nat.zero_le _, hc⟩, fun k p h => by simp at h⟩
theorem rowSees_flat {a : Addr} {cap : Nat} {l : Row} {w : World} (h : RowSees (.slice (some a) l.length cap) l w) : ∀ j v, (flat l)[j]? = some v → w.cell? (a.add j) = some v := by
  intro j v hv
  have hj : j < l.length * 12 := by have := (List.getElem?_eq_some_iff.1 hv).1; rwa [flat_len] at this
  obtain ⟨oa, cap', he, _, hc⟩ := h
  cases he
  have hq : j / 12 < l.length := by omega
  obtain ⟨x, hx⟩ : ∃ x, l[j / 12]? = some x := ⟨_, List.getElem?_eq_getElem hq⟩
  obtain ⟨g, o, ha, h0⟩ := hc _ x hx
  cases ha
  have hf := flat_at l (j / 12) x (j % 12) hx (Nat.mod_lt _ (by decide))
  rw [show j / 12 * 12 + j % 12 = j by omega, hv] at hf
  have hc := h0 (j % 12) (Nat.mod_lt _ (by decide))
  rw [show o + j / 12 * 12 + j % 12 = o + j by omega] at hc
  rw [add_at, hc, ← hf]

theorem infoN : (Try.prog.info? 71).map (fun i => (i.zero, i.size, i.bytes)) = some (some (.agg #[.int .i64 0, .int .i64 0, .int .i64 0, .int .i64 0, .int .i64 0, .int .i64 0, .int .i64 0, .int .i64 0, .int .i64 0, .int .i64 0, .string ⟨#[]⟩, .slice none 0 0]), 12, 120) := by kernel_rfl

/-- the slice v holds these nodes, in memory of the call's own -/
def RowOwn (B : Nat) (v : Value) (l : Row) (w : World) : Prop := w.ownsRow B 71 12 v l.length (flat l)
theorem RowOwn.nil (B : Nat) (w : World) : RowOwn B (.slice none 0 0) [] w := World.ownsRow_nil _ _ _ _
theorem RowOwn.snoc {B : Nat} {v : Value} {l : Row} {p : Nd × Value} {w : World} (h : w.ownsRow B 71 12 v (l.length + 1) (flat l ++ p.1.cs p.2)) : RowOwn B v (l ++ [p]) w := by
  unfold RowOwn; rw [flat_snoc, List.length_append]; exact h
theorem RowOwn.mono {B B' : Nat} {v : Value} {l : Row} {w : World} (h : RowOwn B v l w) (hb : B' ≤ B) : RowOwn B' v l w := by
  refine ⟨h.1, h.2.imp id ?_⟩
  rintro ⟨g, cap, cur, h1, h2, h3⟩
  exact ⟨g, cap, cur, h1, Nat.le_trans hb h2, h3⟩
theorem RowOwn.below {B : Nat} {v : Value} {l : Row} {w w' : World} (h : RowOwn B v l w) (hb : Below w.heap.size w w') : RowOwn B v l w' :=
  h.kept (row := none) ⟨hb.os, hb.tape, hb.output, hb.size, fun j hj _ => hb.block j hj⟩ (by cases hv : v.ownBlock <;> simp)
theorem RowOwn.alloc {B : Nat} {v : Value} {l : Row} {w : World} (h : RowOwn B v l w) (o : Obj) : RowOwn B v l (w.alloc o) := h.below ((Below.refl _ _).alloc (Nat.le_refl _) o)
theorem RowOwn.forms {B : Nat} {v : Value} {l : Row} {w : World} (h : RowOwn B v l w) : (v = .slice none 0 0 ∧ l = []) ∨ ∃ g cap, v = .slice (some ⟨g, 0, none⟩) l.length cap := by
  rcases h.2 with ⟨h1, h2⟩ | ⟨g, cap, cur, h1, _⟩
  · exact .inl ⟨h1, List.eq_nil_of_length_eq_zero h2⟩
  · exact .inr ⟨g, cap, h1⟩
theorem RowOwn.sees {B : Nat} {v : Value} {l : Row} {w : World} (h : RowOwn B v l w) : RowSees v l w := by
  rcases h.forms with ⟨rfl, rfl⟩ | ⟨g, cap, rfl⟩
  · exact rowSees_none _ _ (Nat.zero_le _) _
  · refine ⟨_, _, rfl, ?_, fun k p hk => ⟨g, 0, rfl, fun j hj => ?_⟩⟩
    · rcases h.2 with ⟨h1, _⟩ | ⟨g', cap', cur, h1, _, _, h2, h3, _⟩
      · cases h1
      · cases h1; exact ⟨h2, h3⟩
    have hlt : k < l.length := (List.getElem?_eq_some_iff.1 hk).1
    rw [Nat.zero_add, World.ownsRow.cellAt h (k * 12 + j) (by omega)]
    exact flat_at l k p j hk hj
theorem cell_new (w : World) (n : Nd) (s : Value) (t : TypeId) : ∀ j u, (n.cs s)[j]? = some u → (w.alloc (.cells #[.int .i64 n.no, .int .i64 n.dev, .int .i64 n.kind, .int .i64 n.mode, .int .i64 n.uid, .int .i64 n.gid, .int .i64 n.mt, .int .i64 n.ct, .int .i64 n.links, .int .i64 n.up, .string n.data, s] t)).cell? ((⟨w.heap.size, 0, none⟩ : Addr).add j) = some u := fun j u h => by
  rw [add_at, Nat.zero_add, World.cell?_alloc_new, ← h]
  simp [Nd.cs]

end Go.Proofs.Ytmoimijclafgcaa.T
