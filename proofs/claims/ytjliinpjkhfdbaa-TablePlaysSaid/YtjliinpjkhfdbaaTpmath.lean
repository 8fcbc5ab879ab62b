/-
  TablePlays: the law's own row beside the table's; rows that stay, grow, are cut and written.
-/
import Derived.Test.YtjliinpjkhfdbaaTall
import Derived.Test.YtjliinpjkhfdbaaTawk
import Derived.Laws.OwnMore
import Derived.Deep.RegionHeld3
namespace Go.Proofs.Ytjliinpjkhfdbaa.T
open Go.RowKit Go.Shelf Go.Maps

section
variable {l r : Row} {k z : Int}
theorem look_fst (h : r.map Prod.fst = l.map Prod.fst) (k : Int) : (look r k).map Prod.fst = (look l k).map Prod.fst := by
  have e : ∀ l : Row, (look l k).map Prod.fst = (l.map Prod.fst).find? fun n => decide (n.no = k) := fun l => by
    unfold look
    rw [List.find?_map]; rfl
  rw [e, e, h]
theorem look_is (h : r.map Prod.fst = l.map Prod.fst) (k : Int) : (look r k).isSome = (look l k).isSome := by
  have := look_fst h k
  cases e1 : look r k <;> cases e2 : look l k <;> simp_all
theorem rise_fst (h : r.map Prod.fst = l.map Prod.fst) (hl : Rise l) : Rise r := by
  rw [rise_nos] at hl ⊢
  have e : ∀ l : Row, nos l = (l.map Prod.fst).map fun n => n.no := fun l => by unfold nos; rw [List.map_map]; rfl
  rw [e, h, ← e]; exact hl
theorem place_yes {i : Nat} {p : Nd × Value} (hr : Rise r) (hi : r[i]? = some p) (hp : p.1.no = k) (h : r.map Prod.fst = l.map Prod.fst) : (look l k).isSome = true ∧ (found l k).1 = p.1 := by
  have e := look_at hr hi
  rw [hp] at e
  have f := look_fst h k
  rw [e] at f
  unfold found
  cases e2 : look l k with
  | none => rw [e2] at f; cases f
  | some q => rw [e2] at f; exact ⟨rfl, by simpa using f.symm⟩
theorem place_no (hn : ∀ p ∈ r, p.1.no ≠ k) (h : r.map Prod.fst = l.map Prod.fst) : (look l k).isSome = false ∧ (found l k).1 = Nd.zero := by
  have e : look r k = none := List.find?_eq_none.2 fun p hp => by simpa using hn p hp
  have f := look_fst h k
  rw [e] at f
  unfold found
  cases e2 : look l k with
  | none => exact ⟨rfl, rfl⟩
  | some q => rw [e2] at f; cases f
theorem strike_fst (h : r.map Prod.fst = l.map Prod.fst) (k : Int) : (strike r k).map Prod.fst = (strike l k).map Prod.fst := by
  have e : ∀ l : Row, (strike l k).map Prod.fst = (l.map Prod.fst).filter fun n => decide (n.no ≠ k) := fun l => by
    unfold strike
    rw [List.filter_map]; rfl
  rw [e, e, h]
theorem repl_fst (h : r.map Prod.fst = l.map Prod.fst) (n : Nd) (s u : Value) : (repl r (n, s)).map Prod.fst = (repl l (n, u)).map Prod.fst := by
  have e : ∀ (l : Row) (s : Value), (repl l (n, s)).map Prod.fst = (l.map Prod.fst).map fun m => if m.no = n.no then n else m := fun l s => by
    unfold repl
    rw [List.map_map, List.map_map]
    refine List.map_congr_left fun p _ => ?_
    simp only [Function.comp]
    split <;> rfl
  rw [e, e, h]
theorem snoc_fst (h : r.map Prod.fst = l.map Prod.fst) (n : Nd) (s u : Value) : (r ++ [(n, s)]).map Prod.fst = (l ++ [(n, u)]).map Prod.fst := by rw [List.map_append, List.map_append, h]; rfl
theorem strike_at : ∀ (r : Row) {i : Nat} {p : Nd × Value}, Rise r → r[i]? = some p → p.1.no = k → strike r k = r.take i ++ r.drop (i + 1)
  | [], i, p, _, hi, _ => by simp at hi
  | x :: r, 0, p, hr, hi, hp => by
    obtain ⟨h1, h2⟩ := List.pairwise_cons.1 hr
    simp at hi; subst hi
    unfold strike
    rw [List.filter_cons, if_neg (by simpa using hp)]
    simp only [List.take_zero, List.nil_append, Nat.zero_add, List.drop_succ_cons, List.drop_zero]
    exact strike_none r _ fun y hy => by have := h1 y hy; omega
  | x :: r, i + 1, p, hr, hi, hp => by
    obtain ⟨h1, h2⟩ := List.pairwise_cons.1 hr
    have hi' : r[i]? = some p := by simpa using hi
    have := h1 p (List.mem_of_getElem? hi')
    have ih := strike_at r h2 hi' hp
    unfold strike at ih ⊢
    rw [List.filter_cons, if_pos (by simp; omega), ih]
    simp
theorem strike_gone (hn : ∀ p ∈ r, p.1.no ≠ k) : strike r k = r := strike_none r k hn
theorem repl_at : ∀ (r : Row) {i : Nat} {p : Nd × Value} (q : Nd × Value), Rise r → r[i]? = some p → p.1.no = q.1.no → repl r q = r.set i q
  | [], i, p, q, _, hi, _ => by simp at hi
  | x :: r, 0, p, q, hr, hi, hp => by
    obtain ⟨h1, h2⟩ := List.pairwise_cons.1 hr
    simp at hi; subst hi
    unfold repl
    rw [List.map_cons, if_pos hp, List.set_cons_zero]
    congr 1
    conv => rhs; rw [← List.map_id r]
    refine List.map_congr_left fun y hy => ?_
    have := h1 y hy
    rw [if_neg (by omega)]; rfl
  | x :: r, i + 1, p, q, hr, hi, hp => by
    obtain ⟨h1, h2⟩ := List.pairwise_cons.1 hr
    have hi' : r[i]? = some p := by simpa using hi
    have := h1 p (List.mem_of_getElem? hi')
    have ih := repl_at r q h2 hi' hp
    unfold repl at ih ⊢
    rw [List.map_cons, if_neg (by omega), ih, List.set_cons_succ]
theorem repl_gone (q : Nd × Value) (hn : ∀ p ∈ r, p.1.no ≠ q.1.no) : repl r q = r := by
  unfold repl
  conv => rhs; rw [← List.map_id r]
  refine List.map_congr_left fun y hy => ?_
  rw [if_neg (hn y hy)]; rfl
end

/-! worlds in which a row of nodes turns -/
section
variable {B T M g : Nat} {last : Int} {l r : Row} {v : Value} {w w' : World}
/-- a table stays where a row of nodes grows -/
theorem Tab.grown {n : Nat} {xs : List Value} (h : Tab B T M last l w) (ho : w.ownsRow B 29 12 v n xs) (hg : w.grownBy w' v.ownBlock) : Tab B T M last l w' := by
  have kind : ∀ j, v.ownBlock = some j → ∃ cur, w.heap[j]? = some (.cells cur 29 (0, 0)) := fun j hj => by
    rcases ho.2 with ⟨rfl, _⟩ | ⟨g, cap, cur, rfl, _, hc, _⟩
    · simp [Value.ownBlock] at hj
    · obtain rfl : g = j := by simpa [Value.ownBlock] using hj
      exact ⟨cur, hc⟩
  refine h.stays (hg.block T h.ltT fun e => ?_) (hg.block M h.ltM fun e => ?_) (fun j cur hj => ?_)
  · obtain ⟨cur, hc⟩ := kind T e.symm
    rw [h.head] at hc; cases hc
  · obtain ⟨cur, hc⟩ := kind M e.symm
    obtain ⟨es, clock, hb, _⟩ := h.map
    rw [hb] at hc; cases hc
  · refine (hg.block j (Array.getElem?_eq_some_iff.1 hj).1 fun e => ?_).trans hj
    obtain ⟨cur', hc⟩ := kind j e.symm
    rw [hj] at hc; cases hc
/-- a row of nodes stays where a table turns -/
theorem RowOwn.only (h : RowOwn B v r w) (ht : Tab B T M last l w) (ho : Only T M w w') : RowOwn B v r w' := by
  refine ⟨h.1, h.2.imp id ?_⟩
  rintro ⟨g, cap, cur, rfl, h2, h3, h4⟩
  refine ⟨g, cap, cur, rfl, h2, (ho.block g (Array.getElem?_eq_some_iff.1 h3).1 (fun e => ?_) (fun e => ?_)).trans h3, h4⟩
  · subst e; rw [ht.head] at h3; cases h3
  · subst e
    obtain ⟨es, clock, hb, _⟩ := ht.map
    rw [hb] at h3; cases h3
end

/-! one node of a row written -/
/-- the twelve cells at a place of a block written -/
def fillAt (w : World) (g o : Nat) (n : Nd) (s : Value) : World := ((((((((((((w.setCell ⟨g, o, none⟩ (.int .i64 n.no)).setCell ⟨g, o + 1, none⟩ (.int .i64 n.dev)).setCell ⟨g, o + 2, none⟩ (.int .i64 n.kind)).setCell ⟨g, o + 3, none⟩ (.int .i64 n.mode)).setCell ⟨g, o + 4, none⟩ (.int .i64 n.uid)).setCell ⟨g, o + 5, none⟩ (.int .i64 n.gid)).setCell ⟨g, o + 6, none⟩ (.int .i64 n.mt)).setCell ⟨g, o + 7, none⟩ (.int .i64 n.ct)).setCell ⟨g, o + 8, none⟩ (.int .i64 n.links)).setCell ⟨g, o + 9, none⟩ (.int .i64 n.up)).setCell ⟨g, o + 10, none⟩ (.string n.data)).setCell ⟨g, o + 11, none⟩ s)
theorem flat_set : ∀ (r : Row) (i : Nat) (n : Nd) (s : Value), i < r.length → flat (r.set i (n, s)) = (((((((((((((flat r).set (i * 12) (.int .i64 n.no)).set (i * 12 + 1) (.int .i64 n.dev)).set (i * 12 + 2) (.int .i64 n.kind)).set (i * 12 + 3) (.int .i64 n.mode)).set (i * 12 + 4) (.int .i64 n.uid)).set (i * 12 + 5) (.int .i64 n.gid)).set (i * 12 + 6) (.int .i64 n.mt)).set (i * 12 + 7) (.int .i64 n.ct)).set (i * 12 + 8) (.int .i64 n.links)).set (i * 12 + 9) (.int .i64 n.up)).set (i * 12 + 10) (.string n.data)).set (i * 12 + 11) s)
  | [], i, n, s, h => by simp at h
  | x :: r, 0, n, s, _ => by
    simp [flat, Nd.cs]
  | x :: r, i + 1, n, s, h => by
    have ih := flat_set r i n s (by simpa using h)
    have e : ∀ (a b : List Value) (j : Nat) (u : Value), a.length = 12 → (a ++ b).set (12 + j) u = a ++ b.set j u := fun a b j u ha => by
      rw [List.set_append_right _ _ (by omega), ha, Nat.add_sub_cancel_left]
    have hf : ∀ (y : Nd × Value) (q : Row), flat (y :: q) = y.1.cs y.2 ++ flat q := fun y q => by simp [flat]
    rw [List.set_cons_succ, hf, hf, ih]
    have h12 := cs_len x.1 x.2
    rw [show (i + 1) * 12 = 12 + i * 12 by omega]
    simp only [Nat.add_assoc]
    rw [e _ _ _ _ h12, e _ _ _ _ h12, e _ _ _ _ h12, e _ _ _ _ h12, e _ _ _ _ h12, e _ _ _ _ h12, e _ _ _ _ h12, e _ _ _ _ h12, e _ _ _ _ h12, e _ _ _ _ h12, e _ _ _ _ h12, e _ _ _ _ h12]
/-- what holds along the writes -/
def Along (B T M : Nat) (last : Int) (l : Row) (v : Value) (n : Nat) (w0 : World) (xs : List Value) (w : World) : Prop := w.ownsRow B 29 12 v n xs ∧ Tab B T M last l w ∧ Below B w0 w
theorem Along.step {B T M g cap n : Nat} {last : Int} {l : Row} {w0 w : World} {xs : List Value} (h : Along B T M last l (.slice (some ⟨g, 0, none⟩) n cap) n w0 xs w) (j : Nat) (u : Value) : Along B T M last l (.slice (some ⟨g, 0, none⟩) n cap) n w0 (xs.set j u) (w.setCell ⟨g, j, none⟩ u) := by
  obtain ⟨h1, h2, h3⟩ := h
  obtain ⟨k1, k2⟩ := h1.stored j u
  exact ⟨k1, h2.grown h1 k2, h3.setCell (p := ⟨g, j, none⟩) (h1.lt g rfl).1 u⟩
theorem row_fill {B T M g cap i : Nat} {last : Int} {l r : Row} {w : World} (h : RowOwn B (.slice (some ⟨g, 0, none⟩) r.length cap) r w) (ht : Tab B T M last l w) (n : Nd) (s : Value) (hi : i < r.length) :
    RowOwn B (.slice (some ⟨g, 0, none⟩) r.length cap) (r.set i (n, s)) (fillAt w g (i * 12) n s) ∧ Tab B T M last l (fillAt w g (i * 12) n s) ∧ Below B w (fillAt w g (i * 12) n s) := by
  have a : Along B T M last l (.slice (some ⟨g, 0, none⟩) r.length cap) r.length w (flat r) w := ⟨h, ht, Below.refl _ _⟩
  have a := ((((((((((((a.step (i * 12) (.int .i64 n.no)).step (i * 12 + 1) (.int .i64 n.dev)).step (i * 12 + 2) (.int .i64 n.kind)).step (i * 12 + 3) (.int .i64 n.mode)).step (i * 12 + 4) (.int .i64 n.uid)).step (i * 12 + 5) (.int .i64 n.gid)).step (i * 12 + 6) (.int .i64 n.mt)).step (i * 12 + 7) (.int .i64 n.ct)).step (i * 12 + 8) (.int .i64 n.links)).step (i * 12 + 9) (.int .i64 n.up)).step (i * 12 + 10) (.string n.data)).step (i * 12 + 11) s)
  rw [← flat_set r i n s hi] at a
  obtain ⟨a1, a2, a3⟩ := a
  refine ⟨?_, a2, a3⟩
  unfold RowOwn
  rw [List.length_set]
  exact a1

/-- the cells of a row, and of its beginning and end -/
theorem row_cells {B g cap : Nat} {r : Row} {w : World} (h : RowOwn B (.slice (some ⟨g, 0, none⟩) r.length cap) r w) : g < w.heap.size ∧ ∀ j u, (flat r)[j]? = some u → w.cell? ⟨g, j, none⟩ = some u := by
  refine ⟨(h.lt g rfl).2, fun j u hj => ?_⟩
  have hlt : j < (flat r).length := (List.getElem?_eq_some_iff.1 hj).1
  rw [World.ownsRow.cellAt h j (by rw [flat_len] at hlt; exact hlt)]
  exact hj
theorem take_cells {r : Row} {i : Nat} {j : Nat} {u : Value} (h : (flat (r.take i))[j]? = some u) : (flat r)[j]? = some u := by
  have hlt : j < (flat (r.take i)).length := (List.getElem?_eq_some_iff.1 h).1
  rw [← List.take_append_drop i r, flat_app, List.getElem?_append_left hlt]
  exact h
theorem drop_cells {r : Row} {i : Nat} (hi : i ≤ r.length) {j : Nat} {u : Value} (h : (flat (r.drop i))[j]? = some u) : (flat r)[i * 12 + j]? = some u := by
  have hl : (flat (r.take i)).length = i * 12 := by rw [flat_len, List.length_take, Nat.min_eq_left hi]
  conv => lhs; rw [← List.take_append_drop i r, flat_app]
  rw [List.getElem?_append_right (by omega), hl, Nat.add_sub_cancel_left]
  exact h
theorem empty_rowN (w : World) : (w.alloc (.cells #[] 29)).ownsRow w.heap.size 29 12 (.slice (some ⟨w.heap.size, 0, none⟩) 0 0) 0 [] :=
  ⟨rfl, .inr ⟨w.heap.size, 0, #[], rfl, Nat.le_refl _, heap_alloc_new w _, Nat.le_refl _, by decide, rfl, rfl⟩⟩
theorem slc_of {v : Value} {ls : List E.Ent} {w : World} (h : E.Sees v ls w) : Slc v := by
  obtain ⟨oa, c, e, _⟩ := h
  exact ⟨oa, _, c, e⟩

/-- one operation of a region that draws, taken -/
theorem tk {P : Program} {ops : Array Oper} {Q : Exit → Act → World → Prop} {md : Region.Mode} {S : World → Prop} {i d : Nat} {oi : Oper} {v : Value} {fuel : Nat} {listed : Array Bool} {a : Act} {w : World} (hi : ops[i]? = some oi) (hd : oi.dst = some d)
    (hs : Region.noSelect ops = true) (hf : Region.free md ops listed i = true) (hr : (Region.ready md ops listed).contains i = true)
    (hQ : ∀ c a w, Q (.panic c) (a.put (some d) v) w → Q (.panic c) a w) (hy : YieldsIf P ops S oi v a) (hS : S w)
    (h : wpAnyH P md ops Q S fuel (listed.setIfInBounds i true) (a.put (some d) v) w) : wpAnyH P md ops Q S (fuel + 1) listed a w :=
  wpAnyH_take hi hs hf hr (by rw [hd]; exact hQ) hy hS (by rw [hd]; exact h)

/-- a slice of deeds, only read: a kind and a node each -/
def Deeds (v : Value) (ds : List (Int × Nd × Value)) (w : World) : Prop :=
  ∃ oa cap, v = .slice oa ds.length cap ∧ ds.length ≤ 9223372036854775807 ∧ ∀ (k : Nat) (d : Int × Nd × Value), ds[k]? = some d →
    (∃ g o, oa = some ⟨g, o, none⟩ ∧ w.cell? ⟨g, o + k * 13, none⟩ = some (.int .i64 d.1) ∧ At g (o + k * 13 + 1) d.2.1 d.2.2 w) ∧ E.Sees d.2.2 d.2.1.es w ∧ Fits d.2.1.es ∧ Wf d.2.1.no
/-- the law's row is the table's, its entries are seen -/
structure Twin (l r : Row) (w : World) : Prop where
  fst : r.map Prod.fst = l.map Prod.fst
  sees : ∀ p ∈ r, E.Sees p.2 p.1.es w
theorem Twin.below {l r : Row} {w w' : World} (h : Twin l r w) (hb : Below w.heap.size w w') : Twin l r w' := ⟨h.fst, fun p hp => (h.sees p hp).below hb⟩
theorem Twin.len {l r : Row} {w : World} (h : Twin l r w) : r.length = l.length := by have := congrArg List.length h.fst; simpa using this
theorem Twin.snoc {l r : Row} {w : World} (h : Twin l r w) (n : Nd) (s u : Value) (hs : E.Sees s n.es w) : Twin (l ++ [(n, u)]) (r ++ [(n, s)]) w :=
  ⟨snoc_fst h.fst n s u, fun p hp => by
    rcases List.mem_append.1 hp with hp | hp
    · exact h.sees p hp
    · obtain rfl := List.mem_singleton.1 hp; exact hs⟩
theorem Twin.strike {l r : Row} {w : World} (h : Twin l r w) (k : Int) : Twin (strike l k) (strike r k) w := ⟨strike_fst h.fst k, fun p hp => h.sees p (mem_strike hp)⟩
theorem Twin.repl {l r : Row} {w : World} (h : Twin l r w) (n : Nd) (s u : Value) (hs : E.Sees s n.es w) : Twin (repl l (n, u)) (repl r (n, s)) w :=
  ⟨repl_fst h.fst n s u, fun p hp => by
    rcases mem_repl hp with rfl | hp
    · exact hs
    · exact h.sees p hp⟩
end Go.Proofs.Ytjliinpjkhfdbaa.T
