/-
  Nodes, rows of nodes in the order of their numbers, and what a map by numbers holds: the mathematics of package table.
-/
import Derived.Test.YtenopnfclbegbaaGreatEnts
import Derived.Maps.OwnIn
import Derived.Maps.Views
import Derived.Lib.SlKeysI
import Derived.Deep.DeepCutAuto
namespace Go.Proofs.YtenopnfclbegbaaGreat.T
open Go.RowKit Go.Shelf Go.Maps

/-- a node: what it holds, its entries apart -/
structure Nd where
  no : Int
  dev : Int
  kind : Int
  mode : Int
  uid : Int
  gid : Int
  mt : Int
  ct : Int
  links : Int
  up : Int
  data : ByteArray
  es : List E.Ent
/-- a node's twelve cells, its entries in the slice s -/
def Nd.cs (n : Nd) (s : Value) : List Value := [.int .i64 n.no, .int .i64 n.dev, .int .i64 n.kind, .int .i64 n.mode, .int .i64 n.uid, .int .i64 n.gid, .int .i64 n.mt, .int .i64 n.ct, .int .i64 n.links, .int .i64 n.up, .string n.data, s]
/-- a node by value -/
def Nd.v (n : Nd) (s : Value) : Value := .agg #[.int .i64 n.no, .int .i64 n.dev, .int .i64 n.kind, .int .i64 n.mode, .int .i64 n.uid, .int .i64 n.gid, .int .i64 n.mt, .int .i64 n.ct, .int .i64 n.links, .int .i64 n.up, .string n.data, s]
/-- the node that is none -/
def Nd.zero : Nd := ⟨0, 0, 0, 0, 0, 0, 0, 0, 0, 0, ⟨#[]⟩, []⟩
/-- the same node under another number -/
def Nd.as (n : Nd) (k : Int) : Nd := ⟨k, n.dev, n.kind, n.mode, n.uid, n.gid, n.mt, n.ct, n.links, n.up, n.data, n.es⟩
theorem Nd.as_no (n : Nd) (k : Int) : (n.as k).no = k := rfl
theorem Nd.as_self (n : Nd) : n.as n.no = n := by cases n; rfl

/-- a row: nodes, each with the slice of its entries -/
abbrev Row := List (Nd × Value)
def nos (l : Row) : List Int := l.map fun p => p.1.no
/-- the numbers rise -/
def Rise (l : Row) : Prop := l.Pairwise fun p q => p.1.no < q.1.no
/-- the numbers are among those that were given -/
def Given (last : Int) (l : Row) : Prop := ∀ p ∈ l, 1 ≤ p.1.no ∧ p.1.no ≤ last
def look (l : Row) (k : Int) : Option (Nd × Value) := l.find? fun p => decide (p.1.no = k)
def strike (l : Row) (k : Int) : Row := l.filter fun p => decide (p.1.no ≠ k)
def repl (l : Row) (q : Nd × Value) : Row := l.map fun p => if p.1.no = q.1.no then q else p
def entry (p : Nd × Value) : Lit × DataW Value := (.int .i64 p.1.no, .held (p.1.v p.2))
/-- what a map by numbers holds -/
def DD (l : Row) : DataW Value := .map (l.map entry)
/-- how an element of such a map reads: as itself -/
def elem (v : Value) : Option (DataW Value × List MemPlace) := some (.held v, [])
theorem elem_inv {v u : Value} {ps : List MemPlace} (h : elem v = some (.held u, ps)) : v = u := by
  unfold elem at h; cases h; rfl

theorem same_int (a b : Int) : (Lit.int .i64 a).sameKey (.int .i64 b) = decide (a = b) := by simp [Lit.sameKey]
theorem before_int (a b : Int) : (Lit.int .i64 a).before (.int .i64 b) = decide (a < b) := rfl

theorem has_map (l : Row) (k : Int) : (l.map entry).any (fun p => p.1.sameKey (.int .i64 k)) = (look l k).isSome := by
  induction l with
  | nil => rfl
  | cons p r ih =>
    simp only [look] at ih ⊢
    rw [List.map_cons, List.any_cons, ih, List.find?_cons]
    simp only [entry, same_int]
    cases decide (p.1.no = k) <;> rfl
theorem has_DD (l : Row) (k : Int) : Maps.has (DD l) (.int .i64 k) = (look l k).isSome := has_map l k
theorem at_DD (l : Row) (k : Int) (z : DataW Value) : (DD l).atKey (.int .i64 k) z = match look l k with | some p => .held (p.1.v p.2) | none => z := by
  have h : (l.map entry).find? (fun p => p.1.sameKey (.int .i64 k)) = (look l k).map entry := by
    unfold look
    induction l with
    | nil => rfl
    | cons p r ih =>
      rw [List.map_cons, List.find?_cons, List.find?_cons, ih]
      have e : (entry p).1.sameKey (.int .i64 k) = decide (p.1.no = k) := same_int _ _
      rw [e]
      cases decide (p.1.no = k) <;> rfl
  unfold DD DataW.atKey
  simp only [h]
  cases look l k <;> rfl
theorem size_DD (l : Row) : Maps.size (DD l) = l.length := by
  show (l.map entry).length = _
  rw [List.length_map]
theorem keys_DD (l : Row) : intKeys (DD l) = nos l := by
  show (l.map entry).map (fun p => Go.intOf p.1) = l.map fun p => p.1.no
  rw [List.map_map]; rfl

theorem filter_map (l : Row) (k : Int) : (l.map entry).filter (fun p => !p.1.sameKey (.int .i64 k)) = (strike l k).map entry := by
  induction l with
  | nil => rfl
  | cons p r ih =>
    unfold strike at ih ⊢
    rw [List.map_cons, List.filter_cons, List.filter_cons, ih]
    simp only [entry, same_int]
    by_cases h : p.1.no = k <;> simp [h, entry]
theorem del_DD (l : Row) (k : Int) : (DD l).del (.int .i64 k) = DD (strike l k) := by
  show DataW.map ((l.map entry).filter fun p => !p.1.sameKey (.int .i64 k)) = _
  rw [filter_map]; rfl
theorem insert_yes {x y : Lit × DataW Value} (r : List (Lit × DataW Value)) (h : x.1.before y.1 = true) : DataW.insert x (y :: r) = x :: y :: r := by unfold DataW.insert; rw [if_pos h]
theorem insert_no {x y : Lit × DataW Value} (r : List (Lit × DataW Value)) (h : x.1.before y.1 = false) : DataW.insert x (y :: r) = y :: DataW.insert x r := by rw [DataW.insert, if_neg (by rw [h]; simp)]
theorem insert_last (k : Int) (d : DataW Value) (l : Row) (h : ∀ p ∈ l, p.1.no < k) : DataW.insert (.int .i64 k, d) (l.map entry) = l.map entry ++ [(.int .i64 k, d)] := by
  induction l with
  | nil => rfl
  | cons p r ih =>
    have hp := h p (by simp)
    rw [List.map_cons, insert_no (x := (.int .i64 k, d)) (y := entry p) _ (show decide (k < p.1.no) = false from decide_eq_false (by omega)), ih (fun q hq => h q (by simp [hq]))]
    rfl
theorem strike_none (l : Row) (k : Int) (h : ∀ p ∈ l, p.1.no ≠ k) : strike l k = l := List.filter_eq_self.2 fun p hp => by simpa using h p hp
theorem look_none {l : Row} {k : Int} (h : look l k = none) : ∀ p ∈ l, p.1.no ≠ k := fun p hp e => by
  have := List.find?_eq_none.1 h p hp
  simp at this
  exact this e
theorem look_some {l : Row} {k : Int} {p : Nd × Value} (h : look l k = some p) : p ∈ l ∧ p.1.no = k := ⟨List.mem_of_find?_eq_some h, by simpa using List.find?_some h⟩
theorem put_new {last : Int} {l : Row} (h : Given last l) (q : Nd × Value) (hq : last < q.1.no) : (DD l).put (.int .i64 q.1.no) (.held (q.1.v q.2)) = DD (l ++ [q]) := by
  show DataW.map (DataW.insert _ ((l.map entry).filter fun p => !p.1.sameKey (.int .i64 q.1.no))) = _
  rw [filter_map, strike_none l _ (fun p hp => by have := (h p hp).2; omega), insert_last _ _ _ (fun p hp => by have := (h p hp).2; omega)]
  unfold DD
  rw [List.map_append]; rfl
theorem insert_first (k : Int) (d : DataW Value) (l : Row) (h : ∀ p ∈ l, k < p.1.no) : DataW.insert (.int .i64 k, d) (l.map entry) = (.int .i64 k, d) :: l.map entry := by
  cases l with
  | nil => rfl
  | cons p r =>
    rw [List.map_cons, insert_yes (x := (.int .i64 k, d)) (y := entry p) _ (show decide (k < p.1.no) = true from decide_eq_true (h p (by simp)))]
theorem put_row (q : Nd × Value) : ∀ (l : Row), Rise l → (look l q.1.no).isSome = true → DataW.insert (.int .i64 q.1.no, .held (q.1.v q.2)) ((strike l q.1.no).map entry) = (repl l q).map entry
  | [], _, h => by simp [look] at h
  | p :: r, hr, h => by
    obtain ⟨h1, h2⟩ := List.pairwise_cons.1 hr
    by_cases e : p.1.no = q.1.no
    · have hs : strike (p :: r) q.1.no = r := by
        unfold strike
        rw [List.filter_cons, if_neg (by simpa using e)]
        exact strike_none r _ fun x hx => by have := h1 x hx; omega
      have hp : repl (p :: r) q = q :: r := by
        unfold repl
        rw [List.map_cons, if_pos e]
        congr 1
        conv => rhs; rw [← List.map_id r]
        refine List.map_congr_left fun x hx => ?_
        have := h1 x hx
        rw [if_neg (by omega)]; rfl
      rw [hs, hp, insert_first _ _ _ (fun x hx => by have := h1 x hx; omega)]
      rfl
    · have hl : (look r q.1.no).isSome = true := by
        unfold look at h ⊢
        rw [List.find?_cons, decide_eq_false e] at h
        exact h
      obtain ⟨x, hx⟩ := Option.isSome_iff_exists.1 hl
      obtain ⟨hx1, hx2⟩ := look_some hx
      have hlt := h1 x hx1
      have ih := put_row q r h2 hl
      have hs : strike (p :: r) q.1.no = p :: strike r q.1.no := by
        unfold strike
        rw [List.filter_cons, if_pos (by simpa using e)]
      have hp : repl (p :: r) q = p :: repl r q := by
        unfold repl
        rw [List.map_cons, if_neg e]
      rw [hs, hp, List.map_cons, List.map_cons, insert_no (x := (.int .i64 q.1.no, .held (q.1.v q.2))) (y := entry p) _ (show decide (q.1.no < p.1.no) = false from decide_eq_false (by omega)), ih]
theorem put_old {l : Row} (hr : Rise l) (q : Nd × Value) (h : (look l q.1.no).isSome = true) : (DD l).put (.int .i64 q.1.no) (.held (q.1.v q.2)) = DD (repl l q) := by
  show DataW.map (DataW.insert _ ((l.map entry).filter fun p => !p.1.sameKey (.int .i64 q.1.no))) = _
  rw [filter_map, put_row q l hr h]; rfl

theorem nos_repl (l : Row) (q : Nd × Value) : nos (repl l q) = nos l := by
  unfold nos repl
  rw [List.map_map]
  refine List.map_congr_left fun p _ => ?_
  simp only [Function.comp]
  split <;> simp_all
theorem rise_nos {l : Row} : Rise l ↔ (nos l).Pairwise (fun a b => a < b) := by unfold Rise nos; rw [List.pairwise_map]
theorem Rise.repl {l : Row} (h : Rise l) (q : Nd × Value) : Rise (repl l q) := by rw [rise_nos, nos_repl]; exact rise_nos.1 h
theorem Rise.strike {l : Row} (h : Rise l) (k : Int) : Rise (strike l k) := List.Pairwise.filter _ h
theorem Rise.snoc {last : Int} {l : Row} (h : Rise l) (g : Given last l) (q : Nd × Value) (hq : last < q.1.no) : Rise (l ++ [q]) :=
  List.pairwise_append.2 ⟨h, List.pairwise_singleton _ _, fun p hp x hx => by
    have := (g p hp).2
    obtain rfl := List.mem_singleton.1 hx
    omega⟩
theorem mem_repl {l : Row} {q p : Nd × Value} (h : p ∈ repl l q) : p = q ∨ p ∈ l := by
  obtain ⟨x, hx, e⟩ := List.mem_map.1 h
  split at e
  · exact .inl e.symm
  · exact .inr (e ▸ hx)
theorem mem_strike {l : Row} {k : Int} {p : Nd × Value} (h : p ∈ strike l k) : p ∈ l := (List.mem_filter.1 h).1
theorem Given.mono {last last' : Int} {l : Row} (h : Given last l) (hl : last ≤ last') : Given last' l := fun p hp => ⟨(h p hp).1, Int.le_trans (h p hp).2 hl⟩
theorem Given.strike {last : Int} {l : Row} (h : Given last l) (k : Int) : Given last (strike l k) := fun p hp => h p (mem_strike hp)
theorem Given.repl {last : Int} {l : Row} (h : Given last l) {q : Nd × Value} (hs : (look l q.1.no).isSome = true) : Given last (repl l q) := fun p hp => by
  rcases mem_repl hp with rfl | hp
  · obtain ⟨x, hx⟩ := Option.isSome_iff_exists.1 hs
    obtain ⟨h1, h2⟩ := look_some hx
    rw [← h2]; exact h x h1
  · exact h p hp
theorem Given.snoc {last : Int} {l : Row} (g : Given last l) (q : Nd × Value) (hq : q.1.no = last + 1) (h0 : 0 ≤ last) : Given (last + 1) (l ++ [q]) := fun p hp => by
  rcases List.mem_append.1 hp with hp | hp
  · have := g p hp; omega
  · obtain rfl := List.mem_singleton.1 hp; omega
theorem length_repl (l : Row) (q : Nd × Value) : (repl l q).length = l.length := by unfold repl; rw [List.length_map]
theorem length_strike_le (l : Row) (k : Int) : (strike l k).length ≤ l.length := List.length_filter_le _ _

/-- the numbers, sorted, are the numbers -/
theorem sorted_nos {l : Row} (h : Rise l) : (nos l).mergeSort leI = nos l := by
  refine List.mergeSort_of_pairwise ?_
  refine (rise_nos.1 h).imp fun {a b} hab => ?_
  simp only [leI, decide_eq_true_eq]; omega
theorem sorted_perm_nos {l : Row} (h : Rise l) {ss : List Int} (hp : ss.Perm (nos l)) : ss.mergeSort leI = nos l := (mergeSort_of_perm_i hp).trans (sorted_nos h)
theorem look_at {l : Row} (h : Rise l) {k : Nat} {p : Nd × Value} (hk : l[k]? = some p) : look l p.1.no = some p := by
  induction l generalizing k with
  | nil => simp at hk
  | cons x r ih =>
    obtain ⟨h1, h2⟩ := List.pairwise_cons.1 h
    unfold look at ih ⊢
    rw [List.find?_cons]
    cases k with
    | zero => simp at hk; subst hk; simp
    | succ k =>
      have hk' : r[k]? = some p := by simpa using hk
      have := h1 p (List.mem_of_getElem? hk')
      rw [decide_eq_false (by omega)]
      exact ih h2 hk'
end Go.Proofs.YtenopnfclbegbaaGreat.T
/-
  Nodes in memory: boxes, rows of the call's own, what stays; slices.Clone at entries; table.apart.
-/
namespace Go.Proofs.YtenopnfclbegbaaGreat.T
open Go.RowKit Go.Shelf Go.Maps

theorem below_two {w w1 w2 : World} (h1 : Below w.heap.size w w1) (h2 : Below w1.heap.size w1 w2) : Below w.heap.size w w2 := h1.trans (h2.mono h1.size)

/-- a node's twelve cells in a block of the call's own -/
def BoxN (b : Nat) (n : Nd) (s : Value) (w : World) : Prop := w.heap[b]? = some (.cells #[.int .i64 n.no, .int .i64 n.dev, .int .i64 n.kind, .int .i64 n.mode, .int .i64 n.uid, .int .i64 n.gid, .int .i64 n.mt, .int .i64 n.ct, .int .i64 n.links, .int .i64 n.up, .string n.data, s] 48 (0, 0))
theorem BoxN.lt {b : Nat} {n : Nd} {s : Value} {w : World} (h : BoxN b n s w) : b < w.heap.size := (Array.getElem?_eq_some_iff.1 h).1
theorem BoxN.below {b : Nat} {n : Nd} {s : Value} {w w' : World} (h : BoxN b n s w) (hb : Below w.heap.size w w') : BoxN b n s w' := (hb.block b h.lt).trans h
theorem BoxN.new (n : Nd) (s : Value) (w : World) : BoxN w.heap.size n s (w.alloc (.cells #[.int .i64 n.no, .int .i64 n.dev, .int .i64 n.kind, .int .i64 n.mode, .int .i64 n.uid, .int .i64 n.gid, .int .i64 n.mt, .int .i64 n.ct, .int .i64 n.links, .int .i64 n.up, .string n.data, s] 48)) := heap_alloc_new w _
theorem BoxN.facts {b : Nat} {n : Nd} {s : Value} {w : World} (h : BoxN b n s w) :
    w.cell? ⟨b, 0, none⟩ = some (.int .i64 n.no) ∧ w.cell? ⟨b, 1, none⟩ = some (.int .i64 n.dev) ∧ w.cell? ⟨b, 2, none⟩ = some (.int .i64 n.kind) ∧ w.cell? ⟨b, 3, none⟩ = some (.int .i64 n.mode) ∧
    w.cell? ⟨b, 4, none⟩ = some (.int .i64 n.uid) ∧ w.cell? ⟨b, 5, none⟩ = some (.int .i64 n.gid) ∧ w.cell? ⟨b, 6, none⟩ = some (.int .i64 n.mt) ∧ w.cell? ⟨b, 7, none⟩ = some (.int .i64 n.ct) ∧
    w.cell? ⟨b, 8, none⟩ = some (.int .i64 n.links) ∧ w.cell? ⟨b, 9, none⟩ = some (.int .i64 n.up) ∧ w.cell? ⟨b, 10, none⟩ = some (.string n.data) ∧ w.cell? ⟨b, 11, none⟩ = some s := by
  refine ⟨?_, ?_, ?_, ?_, ?_, ?_, ?_, ?_, ?_, ?_, ?_, ?_⟩ <;> (rw [Lib.cell_of_heap h]; rfl)
theorem BoxN.open {b : Nat} {n : Nd} {s : Value} {w : World} (h : BoxN b n s w) :
    w.frozen? ⟨b, 0, none⟩ = false ∧ w.frozen? ⟨b, 1, none⟩ = false ∧ w.frozen? ⟨b, 2, none⟩ = false ∧ w.frozen? ⟨b, 3, none⟩ = false ∧ w.frozen? ⟨b, 4, none⟩ = false ∧ w.frozen? ⟨b, 5, none⟩ = false ∧
    w.frozen? ⟨b, 6, none⟩ = false ∧ w.frozen? ⟨b, 7, none⟩ = false ∧ w.frozen? ⟨b, 8, none⟩ = false ∧ w.frozen? ⟨b, 9, none⟩ = false ∧ w.frozen? ⟨b, 10, none⟩ = false ∧ w.frozen? ⟨b, 11, none⟩ = false :=
  ⟨Lib.frozen_of_heap h 0, Lib.frozen_of_heap h 1, Lib.frozen_of_heap h 2, Lib.frozen_of_heap h 3, Lib.frozen_of_heap h 4, Lib.frozen_of_heap h 5, Lib.frozen_of_heap h 6, Lib.frozen_of_heap h 7, Lib.frozen_of_heap h 8, Lib.frozen_of_heap h 9, Lib.frozen_of_heap h 10, Lib.frozen_of_heap h 11⟩
theorem BoxN.other {b a : Nat} {n : Nd} {s : Value} {w : World} (h : BoxN b n s w) (hne : b ≠ a) (i : Nat) (u : Value) : BoxN b n s (w.setCell ⟨a, i, none⟩ u) := by
  unfold BoxN at *
  rw [RowKit.Below.heap_setCell _ _ _ _ hne]; exact h
/-- the first cell, the last cell written -/
theorem BoxN.set0 {b : Nat} {n : Nd} {s : Value} {w : World} (h : BoxN b n s w) (k : Int) : BoxN b (n.as k) s (w.setCell ⟨b, 0, none⟩ (.int .i64 k)) := by
  unfold BoxN at *
  simp [World.setCell, Array.getElem?_modify, h, Nd.as]
theorem BoxN.set11 {b : Nat} {n : Nd} {s : Value} {w : World} (h : BoxN b n s w) (u : Value) : BoxN b n u (w.setCell ⟨b, 11, none⟩ u) := by
  unfold BoxN at *
  simp [World.setCell, Array.getElem?_modify, h]
/-- all twelve cells written -/
def fill (w : World) (b : Nat) (n : Nd) (s : Value) : World := ((((((((((((w.setCell ⟨b, 0, none⟩ (.int .i64 n.no)).setCell ⟨b, 1, none⟩ (.int .i64 n.dev)).setCell ⟨b, 2, none⟩ (.int .i64 n.kind)).setCell ⟨b, 3, none⟩ (.int .i64 n.mode)).setCell ⟨b, 4, none⟩ (.int .i64 n.uid)).setCell ⟨b, 5, none⟩ (.int .i64 n.gid)).setCell ⟨b, 6, none⟩ (.int .i64 n.mt)).setCell ⟨b, 7, none⟩ (.int .i64 n.ct)).setCell ⟨b, 8, none⟩ (.int .i64 n.links)).setCell ⟨b, 9, none⟩ (.int .i64 n.up)).setCell ⟨b, 10, none⟩ (.string n.data)).setCell ⟨b, 11, none⟩ s)
theorem BoxN.fill {b : Nat} {m : Nd} {u : Value} {w : World} (h : BoxN b m u w) (n : Nd) (s : Value) : BoxN b n s (fill w b n s) := by
  unfold BoxN T.fill at *
  simp [World.setCell, Array.getElem?_modify, h]
theorem below_fill {m b : Nat} (hb : m ≤ b) (w : World) (n : Nd) (s : Value) : Below m w (fill w b n s) := by
  unfold fill
  refine Below.setCell ?_ hb _
  refine Below.setCell ?_ hb _
  refine Below.setCell ?_ hb _
  refine Below.setCell ?_ hb _
  refine Below.setCell ?_ hb _
  refine Below.setCell ?_ hb _
  refine Below.setCell ?_ hb _
  refine Below.setCell ?_ hb _
  refine Below.setCell ?_ hb _
  refine Below.setCell ?_ hb _
  refine Below.setCell ?_ hb _
  exact Below.setCell (Below.refl _ _) hb _

theorem own_block {B : Nat} {v : Value} {ls : List E.Ent} {w w' : World} (h : E.Own B v ls w) (hk : ∀ (g : Nat) (cur : Array Value), w.heap[g]? = some (.cells cur 89 (0, 0)) → w'.heap[g]? = some (.cells cur 89 (0, 0))) : E.Own B v ls w' := by
  refine ⟨h.1, h.2.imp id ?_⟩
  rintro ⟨g, cap, cur, h1, h2, h3, h4⟩
  exact ⟨g, cap, cur, h1, h2, hk g cur h3, h4⟩
/-- blocks of entries stay -/
def EntKept (w w' : World) : Prop := ∀ (g : Nat) (cur : Array Value), w.heap[g]? = some (.cells cur 89 (0, 0)) → w'.heap[g]? = some (.cells cur 89 (0, 0))
theorem EntKept.trans {a b c : World} (h : EntKept a b) (k : EntKept b c) : EntKept a c := fun g cur hg => k g cur (h g cur hg)
theorem EntKept.below {w w' : World} (h : Below w.heap.size w w') : EntKept w w' := fun g _ hg => (h.block g (Array.getElem?_eq_some_iff.1 hg).1).trans hg
theorem EntKept.fill {b : Nat} {m : Nd} {u : Value} {w : World} (h : BoxN b m u w) (n : Nd) (s : Value) : EntKept w (fill w b n s) := fun g cur hg => by
  have hne : g ≠ b := fun e => by subst e; unfold BoxN at h; rw [h] at hg; cases hg
  unfold T.fill
  rw [RowKit.Below.heap_setCell _ _ _ _ hne, RowKit.Below.heap_setCell _ _ _ _ hne, RowKit.Below.heap_setCell _ _ _ _ hne, RowKit.Below.heap_setCell _ _ _ _ hne, RowKit.Below.heap_setCell _ _ _ _ hne, RowKit.Below.heap_setCell _ _ _ _ hne, RowKit.Below.heap_setCell _ _ _ _ hne, RowKit.Below.heap_setCell _ _ _ _ hne, RowKit.Below.heap_setCell _ _ _ _ hne, RowKit.Below.heap_setCell _ _ _ _ hne, RowKit.Below.heap_setCell _ _ _ _ hne, RowKit.Below.heap_setCell _ _ _ _ hne]
  exact hg
theorem own_kept {B : Nat} {v : Value} {ls : List E.Ent} {w w' : World} (h : E.Own B v ls w) (hk : EntKept w w') : E.Own B v ls w' := own_block h hk

/-! slices.Clone, at entries of whatever number -/
theorem empty_own (w : World) : (w.alloc (.cells #[] 89)).ownsRow w.heap.size 89 2 (.slice (some ⟨w.heap.size, 0, none⟩) 0 0) 0 [] :=
  ⟨rfl, .inr ⟨w.heap.size, 0, #[], rfl, Nat.le_refl _, heap_alloc_new w _, Nat.le_refl _, by decide, rfl, rfl⟩⟩
theorem slice_equal (oa : Option Addr) (n c : Nat) (W : World) : (Op.equal 46 (.slice oa n c) (.slice none 0 0)).run Tryz.prog W = .ok oa.isNone W := by
  have hu := run_underlying Tryz.underlying46
  have h : Op.equal 46 (.slice oa n c) (.slice none 0 0) = Op.equalIn (9999 + 1) 46 (.slice oa n c) (.slice none 0 0) := rfl
  rw [h, Op.equalIn]
  cases oa <;> simp [go_sem, hu]
theorem slice_nil (oa : Option Addr) (n c : Nat) (W : World) : (binOp .eql 46 (.slice oa n c) (.slice none 0 0)).run Tryz.prog W = .ok (.bool oa.isNone) W := by
  simp [binOp, go_sem, slice_equal]
/-- so many entries may be copied -/
def Fits (ls : List E.Ent) : Prop := ls.length * 24 ≤ 140737488355328
set_option maxRecDepth 100000 in
set_option maxHeartbeats 4000000 in
theorem clone_any {v : Value} {ls : List E.Ent} {w : World} (hS : E.Sees v ls w) (hl : Fits ls) :
    Calls Tryz.prog 73 #[v] w fun e w' => ∃ u, e = .returned u ∧ E.Own w.heap.size u ls w' ∧ Below w.heap.size w w' := by
  obtain ⟨i0, hi0, hz0, hz1, hz2⟩ := E.info_parts E.infoE
  obtain ⟨oa, cap, rfl, hm, hcells⟩ := hS
  have hS : E.Sees (.slice oa ls.length cap) ls w := ⟨oa, cap, rfl, hm, hcells⟩
  unfold Fits at hl
  cases oa with
  | none =>
    have hnil : ls = [] := by
      cases ls with
      | nil => rfl
      | cons x l => obtain ⟨g, o, e, _⟩ := hcells 0 x rfl; cases e
    subst hnil
    clear hS hcells hm
    have hq := slice_nil none 0 cap w
    go_enter Tryz.func73, Tryz.ntmps73
    go_wp2
    go_ret
    exact ⟨_, rfl, E.Own.nil _ _, Below.refl _ _⟩
  | some a =>
    have HF := Lib.hid (E.sees_flat (hS.below ((Below.refl _ _).alloc (Nat.le_refl _) (.cells #[] 89))))
    have hfl := E.flat_len ls
    have HO := Lib.hid (E.flat_one ls)
    obtain ⟨m, hmm⟩ : ∃ m, ls.length = m := ⟨_, rfl⟩
    have HM := Lib.hid hmm
    rw [hmm] at hl hfl ⊢
    clear hS hcells hm hmm
    have hq := slice_nil (some a) m cap w
    go_enter Tryz.func73, Tryz.ntmps73
    go_wp2_with (at_builtin; refine wpList_append_own _ rfl _ _ 46 rfl w.heap.size 89 i0 (.agg #[.string ⟨#[]⟩, .int .i64 0]) 2 24 Tryz.underlying46 hi0 hz0 hz1 hz2 rfl (by decide) _ _ _ rfl (empty_own w) a m cap (E.flat ls) rfl hfl HF.out HO.out (by unfold maxLen; omega) (by omega) (by simp) ?_; intro v' w1 hown' hgrow _)
    go_ret
    refine ⟨_, rfl, ?_, ?_⟩
    · unfold E.Own
      rw [HM.out]
      simpa using hown'
    · exact ((Below.refl _ _).alloc (Nat.le_refl _) _).grown hgrow (by simp) (fun k hk => ((empty_own w).lt k hk).1)

set_option maxRecDepth 100000 in
set_option maxHeartbeats 8000000 in
theorem apart_any (n : Nd) {s : Value} {w : World} (hS : E.Sees s n.es w) (hl : Fits n.es) :
    Calls Tryz.prog 36 #[n.v s] w fun e w' => ∃ u, e = .returned (n.v u) ∧ E.Own w.heap.size u n.es w' ∧ Below w.heap.size w w' := by
  have cc := fun W hS => clone_any (v := s) (ls := n.es) (w := W) hS hl
  obtain ⟨no, dev, kind, mode, uid, gid, mt, ct, links, up, data, es⟩ := n
  have B1 := BoxN.new ⟨no, dev, kind, mode, uid, gid, mt, ct, links, up, data, es⟩ s w
  dsimp only [Nd.v] at *
  go_enter Tryz.func36, Tryz.ntmps36
  go_upto_region 1 with fail
  have hb1 : Below w.heap.size w (w.alloc (.cells #[.int .i64 no, .int .i64 dev, .int .i64 kind, .int .i64 mode, .int .i64 uid, .int .i64 gid, .int .i64 mt, .int .i64 ct, .int .i64 links, .int .i64 up, .string data, s] 48)) := (Below.refl _ _).alloc (Nat.le_refl _) _
  generalize hW1 : w.alloc (.cells #[.int .i64 no, .int .i64 dev, .int .i64 kind, .int .i64 mode, .int .i64 uid, .int .i64 gid, .int .i64 mt, .int .i64 ct, .int .i64 links, .int .i64 up, .string data, s] 48) = W1 at B1 hb1 ⊢
  have hs1 : W1.heap.size = w.heap.size + 1 := by rw [← hW1]; simp
  have B2 := BoxN.new Nd.zero (.slice none 0 0) W1
  dsimp only [Nd.zero] at B2
  have hb2 : Below W1.heap.size W1 (W1.alloc (.cells #[.int .i64 0, .int .i64 0, .int .i64 0, .int .i64 0, .int .i64 0, .int .i64 0, .int .i64 0, .int .i64 0, .int .i64 0, .int .i64 0, .string ⟨#[]⟩, .slice none 0 0] 48)) := (Below.refl _ _).alloc (Nat.le_refl _) _
  generalize hW2 : W1.alloc (.cells #[.int .i64 0, .int .i64 0, .int .i64 0, .int .i64 0, .int .i64 0, .int .i64 0, .int .i64 0, .int .i64 0, .int .i64 0, .int .i64 0, .string ⟨#[]⟩, .slice none 0 0] 48) = W2 at B2 hb2 ⊢
  have B1' := B1.below hb2
  have hS2 := hS.below (below_two hb1 hb2)
  have hb := below_two hb1 hb2
  have call := cc W2 hS2
  rw [hs1] at B2
  have hlt := B2.lt
  obtain ⟨b, hbd⟩ : ∃ b, w.heap.size = b := ⟨_, rfl⟩
  rw [hbd] at B1' B2 hb hlt ⊢
  have HB := Lib.hid hbd
  clear hbd hW1 hW2 B1 hs1 hb1 hb2 cc
  obtain ⟨c0, c1, c2, c3, c4, c5, c6, c7, c8, c9, c10, c11⟩ := B1'.facts
  go_upto_region 2 with (go_at_call 73; refine call.mono ?_; rintro e w1 ⟨u, rfl, hO, hb1⟩; obtain ⟨ou, cu, rfl, _⟩ := hO.sees; have f11 := (B1'.below hb1).open.2.2.2.2.2.2.2.2.2.2.2; have e11 := (B1'.below hb1).facts.2.2.2.2.2.2.2.2.2.2.2)
  have D1 := (B1'.below hb1).set11 (.slice ou es.length cu)
  have D2 := (B2.below hb1).other (by omega) (a := b) 11 (.slice ou es.length cu)
  have hO2 : E.Own W2.heap.size _ es _ := ownsRow_setCell_below hO (a := ⟨b, 11, none⟩) (by show b < _; omega) (.slice ou es.length cu)
  have hb3 : Below b w (w1.setCell ⟨b, 11, none⟩ (.slice ou es.length cu)) := (hb.trans (hb1.mono (by omega))).setCell (p := ⟨b, 11, none⟩) (Nat.le_refl _) _
  have hlt3 : b + 1 < (w1.setCell ⟨b, 11, none⟩ (.slice ou es.length cu)).heap.size := by rw [World.size_setCell]; exact Nat.lt_of_lt_of_le hlt hb1.size
  generalize w1.setCell ⟨b, 11, none⟩ (.slice ou es.length cu) = W3 at D1 D2 hO2 hb3 hlt3 ⊢
  clear c0 c1 c2 c3 c4 c5 c6 c7 c8 c9 c10 c11 f11 e11 hO hb1 B1' B2
  obtain ⟨c0, c1, c2, c3, c4, c5, c6, c7, c8, c9, c10, c11⟩ := D1.facts
  obtain ⟨f0, f1, f2, f3, f4, f5, f6, f7, f8, f9, f10, f11⟩ := D2.open
  obtain ⟨a0, a1, a2, a3, a4, a5, a6, a7, a8, a9, a10, a11⟩ := D2.facts
  go_wp2
  have D3 := D2.fill ⟨no, dev, kind, mode, uid, gid, mt, ct, links, up, data, es⟩ (.slice ou es.length cu)
  have hb4 := hb3.trans (below_fill (Nat.le_succ b) W3 ⟨no, dev, kind, mode, uid, gid, mt, ct, links, up, data, es⟩ (.slice ou es.length cu))
  have hO4 : E.Own b _ es _ := own_kept (hO2.mono (Nat.le_of_lt (Nat.lt_of_succ_lt hlt))) (EntKept.fill D2 ⟨no, dev, kind, mode, uid, gid, mt, ct, links, up, data, es⟩ (.slice ou es.length cu))
  unfold fill at D3 hb4 hO4
  generalize World.setCell _ _ _ = W4 at D3 hb4 hO4 ⊢
  obtain ⟨g0, g1, g2, g3, g4, g5, g6, g7, g8, g9, g10, g11⟩ := D3.facts
  refine bodyPost_ret (by simp [results, Tryz.results36, go_sem, g0, g1, g2, g3, g4, g5, g6, g7, g8, g9, g10, g11]; rfl) rfl ?_
  exact ⟨_, rfl, HB.out ▸ hO4, HB.out ▸ hb4⟩
end Go.Proofs.YtenopnfclbegbaaGreat.T
/-
  A table in memory: what holds of it and what stays; kept, New, Len, Get, Drop.
-/
namespace Go.Proofs.YtenopnfclbegbaaGreat.T
open Go.RowKit Go.Shelf Go.Maps

theorem law : Keyed Tryz.prog 3 := int_keyed Tryz.underlying3
theorem zeroN (w : World) : (zeroValue 48).run Tryz.prog w = .ok (Nd.zero.v (.slice none 0 0)) w := by kernel_rfl
def Wf (k : Int) : Prop := (Lit.int .i64 k).wf = true
theorem wf_of {k : Int} (h0 : -9223372036854775808 ≤ k) (h1 : k ≤ 9223372036854775807) : Wf k := WalkArith.wf_i64 (by omega)
theorem key_of {k : Int} (h : Wf k) : keyOf Tryz.prog 3 (.int .i64 k) = some (.int .i64 k) := Go.Maps.keyOf_int_mk Tryz.underlying3 h

/-- only the blocks T and M have turned, and new ones have come -/
structure Only (T M : Nat) (w w' : World) : Prop where
  os : w'.os = w.os
  tape : w'.tape = w.tape
  output : w'.output = w.output
  size : w.heap.size ≤ w'.heap.size
  block : ∀ k, k < w.heap.size → k ≠ T → k ≠ M → w'.heap[k]? = w.heap[k]?
theorem Only.of_below {T M : Nat} {w w' : World} (h : Below w.heap.size w w') : Only T M w w' := ⟨h.os, h.tape, h.output, h.size, fun k hk _ _ => h.block k hk⟩
theorem Only.trans {T M : Nat} {a b c : World} (h : Only T M a b) (k : Only T M b c) : Only T M a c :=
  ⟨k.os.trans h.os, k.tape.trans h.tape, k.output.trans h.output, Nat.le_trans h.size k.size, fun i hi h1 h2 => (k.block i (Nat.lt_of_lt_of_le hi h.size) h1 h2).trans (h.block i hi h1 h2)⟩
theorem Only.below {T M B : Nat} {w w' : World} (h : Only T M w w') (hT : B ≤ T) (hM : B ≤ M) (hB : B ≤ w.heap.size) : Below B w w' :=
  ⟨h.os, h.tape, h.output, h.size, fun k hk => h.block k (by omega) (by omega) (by omega)⟩
theorem Only.grown {T M : Nat} {w w' : World} (h : w.grownBy w' (some M)) : Only T M w w' := ⟨h.os, h.tape, h.output, h.size, fun k hk _ hm => h.block k hk (by intro e; cases e; exact hm rfl)⟩
theorem Only.set {T M : Nat} (w : World) (i : Nat) (u : Value) : Only T M w (w.setCell ⟨T, i, none⟩ u) :=
  ⟨rfl, rfl, rfl, by rw [World.size_setCell]; exact Nat.le_refl _, fun k _ hT _ => RowKit.Below.heap_setCell _ _ _ _ hT⟩

/-- T points at a table, its map in M, that holds the row l and has given the numbers up to last -/
structure Tab (B T M : Nat) (last : Int) (l : Row) (w : World) : Prop where
  bt : B ≤ T
  bm : B ≤ M
  head : w.heap[T]? = some (.cells #[.map (some M), .int .i64 last] 119 (0, 0))
  map : w.ownsMap Tryz.prog 3 elem M l.length (DD l)
  rise : Rise l
  given : Given last l
  ents : ∀ p ∈ l, E.Own B p.2 p.1.es w
  fits : ∀ p ∈ l, Fits p.1.es
  lo : 0 ≤ last
section
variable {B T M : Nat} {last : Int} {l : Row} {w w' : World}
theorem Tab.ltT (h : Tab B T M last l w) : T < w.heap.size := (Array.getElem?_eq_some_iff.1 h.head).1
theorem Tab.ltM (h : Tab B T M last l w) : M < w.heap.size := h.map.lt
theorem Tab.ne (h : Tab B T M last l w) : T ≠ M := fun e => by
  obtain ⟨es, clock, hb, _⟩ := h.map
  rw [← e, h.head] at hb
  cases hb
theorem Tab.stays (h : Tab B T M last l w) (hT : w'.heap[T]? = w.heap[T]?) (hM : w'.heap[M]? = w.heap[M]?) (hE : EntKept w w') : Tab B T M last l w' :=
  ⟨h.bt, h.bm, hT.trans h.head, by obtain ⟨es, clock, hb, r⟩ := h.map; exact ⟨es, clock, hM.trans hb, r⟩, h.rise, h.given, fun p hp => own_kept (h.ents p hp) hE, h.fits, h.lo⟩
theorem Tab.below (h : Tab B T M last l w) (hb : Below w.heap.size w w') : Tab B T M last l w' := h.stays (hb.block T h.ltT) (hb.block M h.ltM) (EntKept.below hb)
theorem Tab.alloc (h : Tab B T M last l w) (o : Obj) : Tab B T M last l (w.alloc o) := h.below ((Below.refl _ _).alloc (Nat.le_refl _) o)
theorem Tab.facts (h : Tab B T M last l w) : w.cell? ⟨T, 0, none⟩ = some (.map (some M)) ∧ w.cell? ⟨T, 1, none⟩ = some (.int .i64 last) ∧ w.frozen? ⟨T, 0, none⟩ = false ∧ w.frozen? ⟨T, 1, none⟩ = false :=
  ⟨by rw [Lib.cell_of_heap h.head]; rfl, by rw [Lib.cell_of_heap h.head]; rfl, Lib.frozen_of_heap h.head 0, Lib.frozen_of_heap h.head 1⟩
/-- blocks of entries stay where only T and M turn -/
theorem Tab.entKept (h : Tab B T M last l w) (ho : Only T M w w') : EntKept w w' := fun g cur hg => by
  have h1 : g ≠ T := fun e => by subst e; rw [h.head] at hg; cases hg
  have h2 : g ≠ M := fun e => by
    subst e
    obtain ⟨es, clock, hb, _⟩ := h.map
    rw [hb] at hg; cases hg
  exact (ho.block g (Array.getElem?_eq_some_iff.1 hg).1 h1 h2).trans hg
theorem tight {n : Nat} (h : w.ownsMap Tryz.prog 3 elem M n (DD l)) : w.ownsMap Tryz.prog 3 elem M l.length (DD l) := by
  obtain ⟨es, clock, hb, F, hs, hD⟩ := h
  refine ⟨es, clock, hb, F, ?_, hD⟩
  have e : Maps.size (DD l) = es.size := by rw [hD]; simp [Maps.size, length_sorted]
  rw [size_DD] at e
  omega
/-- what a look-up finds -/
def found (l : Row) (k : Int) : Nd × Value := match look l k with | some p => p | none => (Nd.zero, .slice none 0 0)
theorem Tab.finds (h : Tab B T M last l w) {k : Int} (hk : Wf k) : (Instr.lookup 85 (.map (some M)) (.int .i64 k) true).run Tryz.prog w = .ok (.tuple #[(found l k).1.v (found l k).2, .bool (look l k).isSome]) w := by
  obtain ⟨v, ps, hrun, hv⟩ := h.map.look_ok law Tryz.underlying85 (zeroN w) (zd := .held (Nd.zero.v (.slice none 0 0))) (zp := []) rfl (key_of hk)
  rw [has_DD] at hrun
  rw [at_DD] at hv
  rw [hrun]
  unfold found
  cases e : look l k with
  | none => rw [e] at hv; rw [elem_inv hv]
  | some p => rw [e] at hv; rw [elem_inv hv]
theorem Tab.finds1 (h : Tab B T M last l w) {k : Int} (hk : Wf k) : (Instr.lookup 85 (.map (some M)) (.int .i64 k) false).run Tryz.prog w = .ok ((found l k).1.v (found l k).2) w := by
  obtain ⟨v, ps, hrun, hv⟩ := h.map.lookup law Tryz.underlying85 (zeroN w) (zd := .held (Nd.zero.v (.slice none 0 0))) (zp := []) rfl (key_of hk)
  rw [at_DD] at hv
  rw [hrun]
  unfold found
  cases e : look l k with
  | none => rw [e] at hv; rw [elem_inv hv]
  | some p => rw [e] at hv; rw [elem_inv hv]
theorem Tab.found_own (h : Tab B T M last l w) (k : Int) : E.Own B (found l k).2 (found l k).1.es w ∧ Fits (found l k).1.es := by
  unfold found
  cases e : look l k with
  | none => exact ⟨E.Own.nil _ _, by unfold Fits; decide⟩
  | some p => exact ⟨h.ents p (look_some e).1, h.fits p (look_some e).1⟩
end

theorem map_equal (om : Option Nat) (W : World) : (Op.equal 85 (.map om) (.map none)).run Tryz.prog W = .ok om.isNone W := by
  have hu := run_underlying Tryz.underlying85
  have h : Op.equal 85 (.map om) (.map none) = Op.equalIn (9999 + 1) 85 (.map om) (.map none) := rfl
  rw [h, Op.equalIn]
  cases om <;> simp [go_sem, hu]
theorem map_nil (om : Option Nat) (W : World) : (binOp .eql 85 (.map om) (.map none)).run Tryz.prog W = .ok (.bool om.isNone) W := by
  simp [binOp, go_sem, map_equal]

theorem kept_any (T : Nat) (om : Option Nat) (w : World) (h : w.cell? ⟨T, 0, none⟩ = some (.map om)) : Calls Tryz.prog 35 #[.pointer (some ⟨T, 0, none⟩)] w fun e w' => e = .returned (.map om) ∧ w = w' := by
  go_enter Tryz.func35, Tryz.ntmps35
  go_wp2
  go_ret
  exact ⟨rfl, rfl⟩
theorem kept_nil (w : World) : Calls Tryz.prog 35 #[.pointer none] w fun e w' => e = .returned (.map none) ∧ w = w' := by
  go_enter Tryz.func35, Tryz.ntmps35
  go_wp2
  go_ret
  exact ⟨rfl, rfl⟩

theorem New_any (w : World) : Calls Tryz.prog 41 #[] w fun e w' => ∃ T M, e = .returned (.pointer (some ⟨T, 0, none⟩)) ∧ Tab w.heap.size T M 0 [] w' ∧ Below w.heap.size w w' := by
  have hmm := @run_makeMap Tryz.prog
  go_enter Tryz.func41, Tryz.ntmps41
  go_wp2
  go_ret
  have hm : (w.alloc (.map #[] 0)).ownsMap Tryz.prog 3 elem w.heap.size 0 (DD []) := World.ownsMap_made w _ _ _
  refine ⟨w.heap.size + 1, w.heap.size, rfl, ⟨Nat.le_succ _, Nat.le_refl _, ?_, hm.alloc _, List.Pairwise.nil, fun p hp => (by cases hp), fun p hp => (by cases hp), fun p hp => (by cases hp), Int.le_refl _⟩, ?_⟩
  · have := heap_alloc_new (w.alloc (.map #[] 0)) (.cells #[.map (some w.heap.size), .int .i64 0] 119)
    rw [World.size_alloc] at this
    exact this
  · exact ((Below.refl _ _).alloc (Nat.le_refl _) _).alloc (by simp) _

theorem Len_any {B T M : Nat} {last : Int} {l : Row} {w : World} (h : Tab B T M last l w) : Calls Tryz.prog 17 #[.pointer (some ⟨T, 0, none⟩)] w fun e w' => e = .returned (.int .i64 l.length) ∧ w = w' := by
  have c1 := kept_any T (some M) w h.facts.1
  have hown := h.map
  have hs := size_DD l
  clear h
  go_enter Tryz.func17, Tryz.ntmps17
  go_wp2_with (first | (refine c1.mono ?_; rintro e w1 ⟨rfl, rfl⟩) | (at_len; refine wpList_len_own _ rfl _ 85 rfl 3 48 Tryz.underlying85 _ M _ _ rfl hown ?_))
  go_ret
  exact ⟨rfl, rfl⟩

/-- the node found, by value: its slice written out -/
theorem own_slice {B : Nat} {v : Value} {ls : List E.Ent} {w : World} (h : E.Own B v ls w) : ∃ oa c, v = .slice oa ls.length c := by
  obtain ⟨oa, c, rfl, _⟩ := h.sees; exact ⟨oa, c, rfl⟩

set_option maxRecDepth 100000 in
set_option maxHeartbeats 8000000 in
theorem Get_any {B T M : Nat} {last : Int} {l : Row} {w : World} (h : Tab B T M last l w) (k : Int) (hk : Wf k) : Calls Tryz.prog 16 #[.pointer (some ⟨T, 0, none⟩), .int .i64 k] w fun e w' =>
    ∃ u, e = .returned (.tuple #[(found l k).1.v u, .bool (look l k).isSome]) ∧ E.Own w.heap.size u (found l k).1.es w' ∧ Below w.heap.size w w' := by
  have c1 := fun W hW => kept_any T (some M) W hW
  obtain ⟨hfo, hfit⟩ := h.found_own k
  obtain ⟨oa, c, hs⟩ := own_slice hfo
  have HT := Lib.hid h
  have hf := fun W (hW : Tab B T M last l W) => hW.finds hk
  generalize found l k = f at hf hs hfo hfit ⊢
  obtain ⟨⟨no, dev, kind, mode, uid, gid, mt, ct, links, up, data, es⟩, s⟩ := f
  dsimp only at hs hfo hfit
  subst hs
  dsimp only [Nd.v] at hf ⊢
  clear h
  generalize (look l k).isSome = b at hf ⊢
  have B1 := BoxN.new Nd.zero (.slice none 0 0) w
  dsimp only [Nd.zero] at B1
  have cc := fun W hS => apart_any ⟨no, dev, kind, mode, uid, gid, mt, ct, links, up, data, es⟩ (s := .slice oa es.length c) (w := W) hS hfit
  dsimp only [Nd.v] at cc
  go_enter Tryz.func16, Tryz.ntmps16
  go_upto_region 1 with fail
  have hb1 : Below w.heap.size w (w.alloc (.cells #[.int .i64 0, .int .i64 0, .int .i64 0, .int .i64 0, .int .i64 0, .int .i64 0, .int .i64 0, .int .i64 0, .int .i64 0, .int .i64 0, .string ⟨#[]⟩, .slice none 0 0] 48)) := (Below.refl _ _).alloc (Nat.le_refl _) _
  generalize hW1 : w.alloc (.cells #[.int .i64 0, .int .i64 0, .int .i64 0, .int .i64 0, .int .i64 0, .int .i64 0, .int .i64 0, .int .i64 0, .int .i64 0, .int .i64 0, .string ⟨#[]⟩, .slice none 0 0] 48) = W1 at B1 hb1 ⊢
  have hs1 : W1.heap.size = w.heap.size + 1 := by rw [← hW1]; simp
  have hT1 := HT.out.below hb1
  have hf1 := hf W1 hT1
  have hk1 := c1 W1 hT1.facts.1
  have hfo1 := own_kept hfo (EntKept.below hb1)
  clear hW1 hf c1 hfo HT
  go_upto_region 2 with (refine hk1.mono ?_; rintro e w1 ⟨rfl, rfl⟩)
  have B2 := BoxN.new ⟨no, dev, kind, mode, uid, gid, mt, ct, links, up, data, es⟩ (.slice oa es.length c) W1
  dsimp only at B2
  have hb2 : Below W1.heap.size W1 (W1.alloc (.cells #[.int .i64 no, .int .i64 dev, .int .i64 kind, .int .i64 mode, .int .i64 uid, .int .i64 gid, .int .i64 mt, .int .i64 ct, .int .i64 links, .int .i64 up, .string data, .slice oa es.length c] 48)) := (Below.refl _ _).alloc (Nat.le_refl _) _
  generalize hW2 : W1.alloc (.cells #[.int .i64 no, .int .i64 dev, .int .i64 kind, .int .i64 mode, .int .i64 uid, .int .i64 gid, .int .i64 mt, .int .i64 ct, .int .i64 links, .int .i64 up, .string data, .slice oa es.length c] 48) = W2 at B2 hb2 ⊢
  have B1' := B1.below hb2
  have call := cc W2 ((own_kept hfo1 (EntKept.below hb2)).sees)
  have hb := below_two hb1 hb2
  have hlt := B2.lt
  obtain ⟨b0, hbd⟩ : ∃ b, w.heap.size = b := ⟨_, rfl⟩
  rw [hs1] at B2 hlt
  rw [hbd] at B2 hlt B1' hb ⊢
  have HB := Lib.hid hbd
  clear hbd hW2 B1 hs1 hb1 hb2 cc hk1 hf1 hT1 hfo1
  obtain ⟨c0, c1, c2, c3, c4, c5, c6, c7, c8, c9, c10, c11⟩ := B2.facts
  go_wp2_with (go_at_call 36; refine call.mono ?_; rintro e w3 ⟨u, rfl, hO, hb3⟩; obtain ⟨ou, cu, rfl⟩ := own_slice hO; obtain ⟨a0, a1, a2, a3, a4, a5, a6, a7, a8, a9, a10, a11⟩ := (B1'.below hb3).facts; obtain ⟨f0, f1, f2, f3, f4, f5, f6, f7, f8, f9, f10, f11⟩ := (B1'.below hb3).open)
  have D2 := B1'.below hb3
  have D3 := D2.fill ⟨no, dev, kind, mode, uid, gid, mt, ct, links, up, data, es⟩ (.slice ou es.length cu)
  have hb4 := (hb.trans (hb3.mono (Nat.le_of_lt (Nat.lt_of_succ_lt hlt)))).trans (below_fill (Nat.le_refl b0) w3 ⟨no, dev, kind, mode, uid, gid, mt, ct, links, up, data, es⟩ (.slice ou es.length cu))
  have hO4 : E.Own b0 _ es _ := own_kept (hO.mono (Nat.le_of_lt (Nat.lt_of_succ_lt hlt))) (EntKept.fill D2 ⟨no, dev, kind, mode, uid, gid, mt, ct, links, up, data, es⟩ (.slice ou es.length cu))
  unfold fill at D3 hb4 hO4
  generalize World.setCell _ _ _ = W4 at D3 hb4 hO4 ⊢
  obtain ⟨g0, g1, g2, g3, g4, g5, g6, g7, g8, g9, g10, g11⟩ := D3.facts
  refine bodyPost_ret (by simp [results, Tryz.results16, go_sem, g0, g1, g2, g3, g4, g5, g6, g7, g8, g9, g10, g11]; rfl) rfl ?_
  exact ⟨_, rfl, HB.out ▸ hO4, HB.out ▸ hb4⟩
end Go.Proofs.YtenopnfclbegbaaGreat.T
/-
  table.Add and table.Set.
-/
namespace Go.Proofs.YtenopnfclbegbaaGreat.T
open Go.RowKit Go.Shelf Go.Maps

theorem BoxN.ne_map {b M n : Nat} {m : Nd} {s : Value} {D : DataW Value} {w : World} (h : BoxN b m s w) (hm : w.ownsMap Tryz.prog 3 elem M n D) : some b ≠ some M := by
  intro e
  cases e
  obtain ⟨es, clock, hb, _⟩ := hm
  unfold BoxN at h
  rw [h] at hb
  cases hb
/-- a node put into a map: SOME world in which the map reads so -/
theorem put_run {M n : Nat} {l l' : Row} {w : World} (h : w.ownsMap Tryz.prog 3 elem M n (DD l)) (hn : n < maxLen) (q : Nd × Value) (hk : Wf q.1.no) (hd : (DD l).put (.int .i64 q.1.no) (.held (q.1.v q.2)) = DD l') :
    ∃ w', (Instr.mapUpdate 85 (.map (some M)) (.int .i64 q.1.no) (q.1.v q.2)).run Tryz.prog w = .ok () w' ∧ w'.ownsMap Tryz.prog 3 elem M l'.length (DD l') ∧ w.grownBy w' (some M) := by
  obtain ⟨w', hrun, hown, ht⟩ := h.store law Tryz.underlying85 hn (key_of hk) (d := .held (q.1.v q.2)) (ps := []) rfl
  rw [hd] at hown
  exact ⟨w', hrun, tight hown, ht.grown⟩

set_option maxRecDepth 100000 in
set_option maxHeartbeats 8000000 in
theorem Set_any {B T M : Nat} {last : Int} {l : Row} {w : World} (h : Tab B T M last l w) (n : Nd) (s : Value) (hS : E.Sees s n.es w) (hl : Fits n.es) (hk : Wf n.no) (hlen : l.length < 1000000) :
    Calls Tryz.prog 38 #[.pointer (some ⟨T, 0, none⟩), n.v s] w fun e w' =>
    e = .returned (.bool (look l n.no).isSome) ∧ Only T M w w' ∧ (((look l n.no).isSome = false ∧ Tab B T M last l w') ∨ ((look l n.no).isSome = true ∧ ∃ u, Tab B T M last (repl l (n, u)) w')) := by
  have c1 := fun W hW => kept_any T (some M) W hW
  obtain ⟨hfo, hfit⟩ := h.found_own n.no
  obtain ⟨fa, fc, hs⟩ := own_slice hfo
  have HT := Lib.hid h
  have hf := fun W (hW : Tab B T M last l W) => hW.finds hk
  generalize found l n.no = f at hf hs hfo hfit ⊢
  obtain ⟨⟨fno, fdev, fkind, fmode, fuid, fgid, fmt, fct, flinks, fup, fdata, fes⟩, fs⟩ := f
  dsimp only at hs hfo hfit
  subst hs
  have cc := fun W hS => apart_any n (s := s) (w := W) hS hl
  obtain ⟨oa, cap, rfl, hcells⟩ := hS
  have hS : E.Sees (.slice oa n.es.length cap) n.es w := ⟨oa, cap, rfl, hcells⟩
  obtain ⟨no, dev, kind, mode, uid, gid, mt, ct, links, up, data, es⟩ := n
  dsimp only [Nd.v] at *
  clear h hcells hfo hfit
  have HK := Lib.hid hk
  have B1 := BoxN.new ⟨no, dev, kind, mode, uid, gid, mt, ct, links, up, data, es⟩ (.slice oa es.length cap) w
  dsimp only at B1
  obtain ⟨b, hbb⟩ : ∃ b, (look l no).isSome = b := ⟨_, rfl⟩
  rw [hbb] at hf ⊢
  have HBB := Lib.hid hbb
  clear hbb
  go_enter Tryz.func38, Tryz.ntmps38
  go_upto_region 1 with fail
  have hb1 : Below w.heap.size w (w.alloc (.cells #[.int .i64 no, .int .i64 dev, .int .i64 kind, .int .i64 mode, .int .i64 uid, .int .i64 gid, .int .i64 mt, .int .i64 ct, .int .i64 links, .int .i64 up, .string data, .slice oa es.length cap] 48)) := (Below.refl _ _).alloc (Nat.le_refl _) _
  generalize hW1 : w.alloc (.cells #[.int .i64 no, .int .i64 dev, .int .i64 kind, .int .i64 mode, .int .i64 uid, .int .i64 gid, .int .i64 mt, .int .i64 ct, .int .i64 links, .int .i64 up, .string data, .slice oa es.length cap] 48) = W1 at B1 hb1 ⊢
  have hT1 := HT.out.below hb1
  have hf1 := hf W1 hT1
  have hk1 := c1 W1 hT1.facts.1
  have hS1 := hS.below hb1
  have HT1 := Lib.hid hT1
  have HB1 := Lib.hid B1
  have HS1 := Lib.hid hS1
  clear hW1 hf c1 HT hS hT1 hS1
  obtain ⟨c0, c1, c2, c3, c4, c5, c6, c7, c8, c9, c10, c11⟩ := B1.facts
  clear B1
  go_upto_region 3 with (refine hk1.mono ?_; rintro e w1 ⟨rfl, rfl⟩)
  have hb2 : Below W1.heap.size W1 (W1.alloc (.cells #[.int .i64 fno, .int .i64 fdev, .int .i64 fkind, .int .i64 fmode, .int .i64 fuid, .int .i64 fgid, .int .i64 fmt, .int .i64 fct, .int .i64 flinks, .int .i64 fup, .string fdata, .slice fa fes.length fc] 48)) := (Below.refl _ _).alloc (Nat.le_refl _) _
  generalize W1.alloc (.cells #[.int .i64 fno, .int .i64 fdev, .int .i64 fkind, .int .i64 fmode, .int .i64 fuid, .int .i64 fgid, .int .i64 fmt, .int .i64 fct, .int .i64 flinks, .int .i64 fup, .string fdata, .slice fa fes.length fc] 48) = W2 at hb2 ⊢
  have hB2 := Lib.hid (HB1.out.below hb2)
  have hT2 := Lib.hid (HT1.out.below hb2)
  have hS2 := Lib.hid (HS1.out.below hb2)
  have hb12 := below_two hb1 hb2
  clear hf1 hk1 HT1 HS1 HB1 hb1 hb2 c0 c1 c2 c3 c4 c5 c6 c7 c8 c9 c10 c11
  cases b with
  | false =>
    go_wp2
    go_ret
    first | exact ⟨rfl, Only.of_below hb12, hT2.out⟩ | exact ⟨rfl, Only.of_below hb12, .inl ⟨rfl, hT2.out⟩⟩
  | true =>
    obtain ⟨bx, hbx⟩ : ∃ b, w.heap.size = b := ⟨_, rfl⟩
    have HBX := Lib.hid hbx
    rw [hbx] at hB2 ⊢
    clear hbx
    go_upto_region 5 with fail
    have hdr : Below W2.heap.size W2 W2.drew := (Below.refl _ _).drew
    have D2 := hB2.out.below hdr
    have call := cc W2.drew (hS2.out.below hdr)
    have HC := Lib.hid cc
    clear cc
    go_region_held3 (fun w' => w'.cell? ⟨bx, 0, none⟩ = some (.int .i64 no) ∧ w'.cell? ⟨bx, 1, none⟩ = some (.int .i64 dev) ∧ w'.cell? ⟨bx, 2, none⟩ = some (.int .i64 kind) ∧ w'.cell? ⟨bx, 3, none⟩ = some (.int .i64 mode) ∧
      w'.cell? ⟨bx, 4, none⟩ = some (.int .i64 uid) ∧ w'.cell? ⟨bx, 5, none⟩ = some (.int .i64 gid) ∧ w'.cell? ⟨bx, 6, none⟩ = some (.int .i64 mt) ∧ w'.cell? ⟨bx, 7, none⟩ = some (.int .i64 ct) ∧
      w'.cell? ⟨bx, 8, none⟩ = some (.int .i64 links) ∧ w'.cell? ⟨bx, 9, none⟩ = some (.int .i64 up) ∧ w'.cell? ⟨bx, 10, none⟩ = some (.string data) ∧ w'.cell? ⟨bx, 11, none⟩ = some (.slice oa es.length cap))
      (with_reducible first | exact D5.facts | exact D4.facts | exact D2.facts)
      (first
        | (go_at_call 36
           refine call.mono ?_
           rintro e w4 ⟨u, rfl, hO4, hb4⟩
           obtain ⟨ou, cu, rfl⟩ := own_slice hO4
           have D4 := D2.below hb4
           have hT4 := (hT2.out.below hdr).below hb4
           obtain ⟨w5, hrun5, hown5, hg5⟩ := put_run hT4.map (by unfold maxLen; omega) ((⟨no, dev, kind, mode, uid, gid, mt, ct, links, up, data, es⟩, .slice ou es.length cu) : Nd × Value) HK.out (put_old hT4.rise _ HBB.out)
           have D5 : BoxN bx ⟨no, dev, kind, mode, uid, gid, mt, ct, links, up, data, es⟩ (.slice oa es.length cap) w5 := (hg5.block bx D4.lt (D4.ne_map hT4.map)).trans D4
           dsimp only [Nd.v] at hrun5))
    go_wp2
    go_ret
    have hO4' := Only.grown (T := T) hg5
    have hgo := (Only.of_below (T := T) (M := M) ((hb12.trans (hdr.mono hb12.size)).trans (hb4.mono (Nat.le_trans hb12.size hdr.size)))).trans hO4'
    have htab : Tab B T M last (repl l (⟨no, dev, kind, mode, uid, gid, mt, ct, links, up, data, es⟩, .slice ou es.length cu)) w5 := by
      refine ⟨hT4.bt, hT4.bm, (hg5.block T hT4.ltT (by intro e; cases e; exact hT4.ne rfl)).trans hT4.head, hown5, hT4.rise.repl _, hT4.given.repl HBB.out, fun p hp => ?_, fun p hp => ?_, hT4.lo⟩
      · rcases mem_repl hp with rfl | hp
        · exact own_kept (hO4.mono (by have := hT2.out.ltT; have := hT2.out.bt; have := hdr.size; omega)) (hT4.entKept hO4')
        · exact own_kept (hT4.ents p hp) (hT4.entKept hO4')
      · rcases mem_repl hp with rfl | hp
        · exact hl
        · exact hT4.fits p hp
    first | exact ⟨rfl, hgo, _, htab⟩ | exact ⟨rfl, hgo, .inr ⟨rfl, _, htab⟩⟩

theorem Only.more {T M n : Nat} {a b c : World} (h : Only T M a b) (k : Below n b c) (hn : a.heap.size ≤ n) : Only T M a c :=
  ⟨k.os.trans h.os, k.tape.trans h.tape, k.output.trans h.output, Nat.le_trans h.size k.size, fun i hi h1 h2 => (k.block i (Nat.lt_of_lt_of_le hi hn)).trans (h.block i hi h1 h2)⟩
/-- who reads entries sees the same where only a table turns -/
theorem sees_only {B T M : Nat} {last : Int} {l : Row} {v : Value} {ls : List E.Ent} {w w' : World} (h : E.Sees v ls w) (hT : Tab B T M last l w) (hO : Only T M w w') : E.Sees v ls w' := by
  obtain ⟨oa, cap, rfl, hm, hc⟩ := h
  refine ⟨oa, cap, rfl, hm, fun k x hk => ?_⟩
  obtain ⟨g, o, rfl, h0, h1⟩ := hc k x hk
  have hlt : g < w.heap.size := World.block_lt_of_cell? _ _ h0
  have e1 : g ≠ T := fun e => by
    subst e
    rw [Lib.cell_of_heap hT.head] at h0
    rcases hq : o + k * 2 with _ | _ | q
    · rw [hq] at h0; simp at h0
    · rw [hq] at h0; simp at h0
    · rw [hq] at h0; simp at h0
  have e2 : g ≠ M := fun e => by
    subst e
    obtain ⟨es, clock, hb, _⟩ := hT.map
    simp [World.cell?, hb] at h0
  have hb := hO.block g hlt e1 e2
  have cc : ∀ i, w'.cell? ⟨g, i, none⟩ = w.cell? ⟨g, i, none⟩ := fun i => by simp [World.cell?, hb]
  exact ⟨g, o, rfl, (cc _).trans h0, (cc _).trans h1⟩
theorem entKept_set {b : Nat} {cs : Array Value} {t : TypeId} {mk : Nat × Nat} {w : World} (h : w.heap[b]? = some (.cells cs t mk)) (ht : t ≠ 89) (i : Nat) (u : Value) : EntKept w (w.setCell ⟨b, i, none⟩ u) := fun g cur hg => by
  have hne : g ≠ b := fun e => by subst e; rw [h] at hg; cases hg; exact ht rfl
  rw [RowKit.Below.heap_setCell _ _ _ _ hne]; exact hg
theorem Tab.bump {B T M : Nat} {last k : Int} {l : Row} {w : World} (h : Tab B T M last l w) (hk : last ≤ k) : Tab B T M k l (w.setCell ⟨T, 1, none⟩ (.int .i64 k)) := by
  refine ⟨h.bt, h.bm, ?_, h.map.setCell (fun e => h.ne e.symm) _, h.rise, h.given.mono hk, fun p hp => own_kept (h.ents p hp) (entKept_set h.head (by decide) _ _), h.fits, by have := h.lo; omega⟩
  have := h.head
  simp [World.setCell, Array.getElem?_modify, this]
theorem Tab.beside {B T M b : Nat} {last : Int} {l : Row} {n : Nd} {s : Value} {w : World} (h : Tab B T M last l w) (hb : BoxN b n s w) (i : Nat) (u : Value) : Tab B T M last l (w.setCell ⟨b, i, none⟩ u) := by
  have h1 : T ≠ b := fun e => by
    subst e
    have := h.head
    unfold BoxN at hb
    rw [hb] at this; cases this
  have h2 : M ≠ b := fun e => hb.ne_map h.map (by rw [e])
  exact h.stays (RowKit.Below.heap_setCell _ _ _ _ h1) (RowKit.Below.heap_setCell _ _ _ _ h2) (entKept_set hb (by decide) _ _)

set_option maxRecDepth 100000 in
set_option maxHeartbeats 8000000 in
theorem Add_any {B T M : Nat} {last : Int} {l : Row} {w : World} (h : Tab B T M last l w) (n : Nd) (s : Value) (hS : E.Sees s n.es w) (hl : Fits n.es) (hlen : l.length < 1000000) (hlast : last < 1000000) :
    Calls Tryz.prog 84 #[.pointer (some ⟨T, 0, none⟩), n.v s] w fun e w' =>
    e = .returned (.int .i64 (last + 1)) ∧ Only T M w w' ∧ ∃ u, Tab B T M (last + 1) (l ++ [(n.as (last + 1), u)]) w' := by
  have c1 := fun W hW => kept_any T (some M) W hW
  have HT := Lib.hid h
  have h0 := h.lo
  have hq := map_nil (some M)
  have hgiven := h.given
  have cc := fun W hS => apart_any (n.as (last + 1)) (s := s) (w := W) hS hl
  obtain ⟨oa, cap, rfl, hcells⟩ := hS
  have hS : E.Sees (.slice oa n.es.length cap) n.es w := ⟨oa, cap, rfl, hcells⟩
  obtain ⟨no, dev, kind, mode, uid, gid, mt, ct, links, up, data, es⟩ := n
  dsimp only [Nd.v, Nd.as] at *
  have HK : Hid (Wf (last + 1)) := Lib.hid (wf_of (by omega) (by omega))
  clear h hcells
  have B1 := BoxN.new ⟨no, dev, kind, mode, uid, gid, mt, ct, links, up, data, es⟩ (.slice oa es.length cap) w
  dsimp only at B1
  go_enter Tryz.func84, Tryz.ntmps84
  go_upto_region 1 with fail
  have hb1 : Below w.heap.size w (w.alloc (.cells #[.int .i64 no, .int .i64 dev, .int .i64 kind, .int .i64 mode, .int .i64 uid, .int .i64 gid, .int .i64 mt, .int .i64 ct, .int .i64 links, .int .i64 up, .string data, .slice oa es.length cap] 48)) := (Below.refl _ _).alloc (Nat.le_refl _) _
  generalize hW1 : w.alloc (.cells #[.int .i64 no, .int .i64 dev, .int .i64 kind, .int .i64 mode, .int .i64 uid, .int .i64 gid, .int .i64 mt, .int .i64 ct, .int .i64 links, .int .i64 up, .string data, .slice oa es.length cap] 48) = W1 at B1 hb1 ⊢
  have HW := HT
  have HS := Lib.hid hS
  have hT1 := HT.out.below hb1
  have hk1 := c1 W1 hT1.facts.1
  obtain ⟨t0, t1, t2, t3⟩ := hT1.facts
  have hS1 := hS.below hb1
  obtain ⟨bx, hbx⟩ : ∃ b, w.heap.size = b := ⟨_, rfl⟩
  have HBX := Lib.hid hbx
  rw [hbx] at B1 ⊢
  have hB1 := Lib.hid B1
  have HT1 := Lib.hid hT1
  have HS1 := Lib.hid hS1
  clear hW1 c1 HT hS hT1 hS1 B1 hbx
  go_upto_region 5 with (refine hk1.mono ?_; rintro e w1 ⟨rfl, rfl⟩)
  have hT2 := HT1.out.bump (k := last + 1) (by omega)
  have hne : bx ≠ T := fun e => by have h1 := HT1.out.head; have h2 := hB1.out; unfold BoxN at h2; rw [e, h1] at h2; cases h2
  have B2 := hB1.out.other hne 1 (.int .i64 (last + 1))
  have hO2 : Only T M W1 (W1.setCell ⟨T, 1, none⟩ (.int .i64 (last + 1))) := Only.set _ _ _
  have hE2 : EntKept W1 (W1.setCell ⟨T, 1, none⟩ (.int .i64 (last + 1))) := entKept_set HT1.out.head (by decide) _ _
  generalize W1.setCell ⟨T, 1, none⟩ (.int .i64 (last + 1)) = W2 at hT2 B2 hO2 hE2 ⊢
  clear t0 t1 t2 t3
  obtain ⟨t0, t1, _, _⟩ := hT2.facts
  obtain ⟨c0, _⟩ := B2.facts
  obtain ⟨f0, _⟩ := B2.open
  go_upto_region 6 with fail
  have hT3 := hT2.beside B2 0 (.int .i64 (last + 1))
  have B3 := B2.set0 (last + 1)
  dsimp only [Nd.as] at B3
  have hE3 : EntKept W2 (W2.setCell ⟨bx, 0, none⟩ (.int .i64 (last + 1))) := entKept_set B2 (by decide) _ _
  have hb3 : Below bx W2 (W2.setCell ⟨bx, 0, none⟩ (.int .i64 (last + 1))) := (Below.refl _ _).setCell (p := ⟨bx, 0, none⟩) (Nat.le_refl _) _
  generalize W2.setCell ⟨bx, 0, none⟩ (.int .i64 (last + 1)) = W3 at hT3 B3 hE3 hb3 ⊢
  have hO3 : Only T M w W3 := ((Only.of_below hb1).trans hO2).more hb3 (Nat.le_of_eq HBX.out)
  have hS3 : E.Sees (.slice oa es.length cap) es W3 := sees_only HS.out HW.out hO3
  have hdr : Below W3.heap.size W3 W3.drew := (Below.refl _ _).drew
  have D2 := B3.below hdr
  have call := cc W3.drew (hS3.below hdr)
  have HC := Lib.hid cc
  have HQ := Lib.hid hT3
  have HB2 := Lib.hid hT2
  clear cc t0 t1 c0 f0 hT3 hT2 hS3 hq
  go_region_held3 (fun w' => w'.cell? ⟨bx, 0, none⟩ = some (.int .i64 (last + 1)) ∧ w'.cell? ⟨bx, 1, none⟩ = some (.int .i64 dev) ∧ w'.cell? ⟨bx, 2, none⟩ = some (.int .i64 kind) ∧ w'.cell? ⟨bx, 3, none⟩ = some (.int .i64 mode) ∧
      w'.cell? ⟨bx, 4, none⟩ = some (.int .i64 uid) ∧ w'.cell? ⟨bx, 5, none⟩ = some (.int .i64 gid) ∧ w'.cell? ⟨bx, 6, none⟩ = some (.int .i64 mt) ∧ w'.cell? ⟨bx, 7, none⟩ = some (.int .i64 ct) ∧
      w'.cell? ⟨bx, 8, none⟩ = some (.int .i64 links) ∧ w'.cell? ⟨bx, 9, none⟩ = some (.int .i64 up) ∧ w'.cell? ⟨bx, 10, none⟩ = some (.string data) ∧ w'.cell? ⟨bx, 11, none⟩ = some (.slice oa es.length cap))
      (with_reducible first | exact D5.facts | exact D4.facts | exact D2.facts)
      (first
        | (go_at_call 36
           refine call.mono ?_
           rintro e w4 ⟨u, rfl, hO4, hb4⟩
           obtain ⟨ou, cu, rfl⟩ := own_slice hO4
           have D4 := D2.below hb4
           have hT4 := (HQ.out.below hdr).below hb4
           obtain ⟨w5, hrun5, hown5, hg5⟩ := put_run hT4.map (by unfold maxLen; omega) ((⟨last + 1, dev, kind, mode, uid, gid, mt, ct, links, up, data, es⟩, .slice ou es.length cu) : Nd × Value) HK.out (put_new hgiven _ (by show last < last + 1; omega))
           have D5 : BoxN bx ⟨last + 1, dev, kind, mode, uid, gid, mt, ct, links, up, data, es⟩ (.slice oa es.length cap) w5 := (hg5.block bx D4.lt (D4.ne_map hT4.map)).trans D4
           dsimp only [Nd.v] at hrun5))
  have d0 := D5.facts.1
  go_wp2
  go_ret
  have hO4' := Only.grown (T := T) hg5
  have htab : Tab B T M (last + 1) (l ++ [(⟨last + 1, dev, kind, mode, uid, gid, mt, ct, links, up, data, es⟩, .slice ou es.length cu)]) w5 := by
    refine ⟨hT4.bt, hT4.bm, (hg5.block T hT4.ltT (by intro e; cases e; exact hT4.ne rfl)).trans hT4.head, hown5, hT4.rise.snoc hgiven _ (by show last < last + 1; omega), hgiven.snoc _ rfl h0, fun p hp => ?_, fun p hp => ?_, hT4.lo⟩
    · rcases List.mem_append.1 hp with hp | hp
      · exact own_kept (hT4.ents p hp) (hT4.entKept hO4')
      · obtain rfl := List.mem_singleton.1 hp
        exact own_kept (hO4.mono (by have := HQ.out.ltT; have := HQ.out.bt; have := hdr.size; omega)) (hT4.entKept hO4')
    · rcases List.mem_append.1 hp with hp | hp
      · exact hT4.fits p hp
      · obtain rfl := List.mem_singleton.1 hp
        exact hl
  have hgo : Only T M w w5 := ((hO3.more hdr hO3.size).more hb4 (Nat.le_trans hO3.size hdr.size)).trans hO4'
  exact ⟨rfl, hgo, _, htab⟩
end Go.Proofs.YtenopnfclbegbaaGreat.T
/-
  Rows of nodes in memory; the keys of a table's map, sorted; table.rising.
-/
namespace Go.Proofs.YtenopnfclbegbaaGreat.T
open Go.RowKit Go.Shelf Go.Maps

theorem add_at (g o : Nat) (j : Nat) : (⟨g, o, none⟩ : Addr).add j = ⟨g, o + j, none⟩ := by unfold Addr.add; split <;> simp_all
/-- a slice by value -/
def Slc (v : Value) : Prop := ∃ oa n c, v = .slice oa n c
theorem cs_len (n : Nd) (s : Value) : (n.cs s).length = 12 := rfl
theorem cs_one (n : Nd) {s : Value} (hs : Slc s) : ∀ v ∈ n.cs s, v.oneCell' = true := by
  obtain ⟨oa, m, c, rfl⟩ := hs
  intro v hv
  simp only [Nd.cs, List.mem_cons, List.not_mem_nil, or_false] at hv
  rcases hv with rfl | rfl | rfl | rfl | rfl | rfl | rfl | rfl | rfl | rfl | rfl | rfl <;> rfl
def flat (l : Row) : List Value := l.flatMap fun p => p.1.cs p.2
theorem flat_len (l : Row) : (flat l).length = l.length * 12 := by
  induction l with
  | nil => rfl
  | cons x r ih => simp only [flat, List.flatMap_cons, List.length_append, List.length_cons] at ih ⊢; rw [ih, cs_len]; omega
theorem flat_app (a b : Row) : flat (a ++ b) = flat a ++ flat b := by simp [flat]
theorem flat_snoc (l : Row) (p : Nd × Value) : flat (l ++ [p]) = flat l ++ p.1.cs p.2 := by simp [flat]
theorem flat_one (l : Row) (h : ∀ p ∈ l, Slc p.2) : ∀ u ∈ flat l, u.oneCell' = true := by
  intro u hu
  obtain ⟨x, hx, hm⟩ := List.mem_flatMap.1 hu
  exact cs_one x.1 (h x hx) u hm
theorem flat_at : ∀ (l : Row) (k : Nat) (p : Nd × Value) (j : Nat), l[k]? = some p → j < 12 → (flat l)[k * 12 + j]? = (p.1.cs p.2)[j]?
  | [], k, x, j, h, _ => by simp at h
  | y :: ls, 0, x, j, h, hj => by
    simp at h; subst h
    simp only [flat, List.flatMap_cons, Nat.zero_mul, Nat.zero_add]
    rw [List.getElem?_append_left (by rw [cs_len]; exact hj)]
  | y :: ls, k + 1, x, j, h, hj => by
    have h' : ls[k]? = some x := by simpa using h
    have e := flat_at ls k x j h' hj
    simp only [flat, List.flatMap_cons] at e ⊢
    rw [List.getElem?_append_right (by rw [cs_len]; omega), cs_len, show (k + 1) * 12 + j - 12 = k * 12 + j by omega]
    exact e

/-- the twelve cells of a node at a place -/
def At (g o : Nat) (n : Nd) (s : Value) (w : World) : Prop := ∀ j, j < 12 → w.cell? ⟨g, o + j, none⟩ = (n.cs s)[j]?
theorem At.lt {g o : Nat} {n : Nd} {s : Value} {w : World} (h : At g o n s w) : g < w.heap.size := World.block_lt_of_cell? _ _ ((h 0 (by decide)).trans rfl)
theorem At.facts {g o : Nat} {n : Nd} {s : Value} {w : World} (h : At g o n s w) :
    w.cell? ⟨g, o, none⟩ = some (.int .i64 n.no) ∧ w.cell? ⟨g, o + 1, none⟩ = some (.int .i64 n.dev) ∧ w.cell? ⟨g, o + 2, none⟩ = some (.int .i64 n.kind) ∧ w.cell? ⟨g, o + 3, none⟩ = some (.int .i64 n.mode) ∧
    w.cell? ⟨g, o + 4, none⟩ = some (.int .i64 n.uid) ∧ w.cell? ⟨g, o + 5, none⟩ = some (.int .i64 n.gid) ∧ w.cell? ⟨g, o + 6, none⟩ = some (.int .i64 n.mt) ∧ w.cell? ⟨g, o + 7, none⟩ = some (.int .i64 n.ct) ∧
    w.cell? ⟨g, o + 8, none⟩ = some (.int .i64 n.links) ∧ w.cell? ⟨g, o + 9, none⟩ = some (.int .i64 n.up) ∧ w.cell? ⟨g, o + 10, none⟩ = some (.string n.data) ∧ w.cell? ⟨g, o + 11, none⟩ = some s :=
  ⟨h 0 (by decide), h 1 (by decide), h 2 (by decide), h 3 (by decide), h 4 (by decide), h 5 (by decide), h 6 (by decide), h 7 (by decide), h 8 (by decide), h 9 (by decide), h 10 (by decide), h 11 (by decide)⟩
theorem At.below {g o m : Nat} {n : Nd} {s : Value} {w w' : World} (h : At g o n s w) (hb : Below m w w') (hg : g < m) : At g o n s w' := fun j hj => by rw [hb.cell (by exact hg)]; exact h j hj
theorem At.later {g o : Nat} {n : Nd} {s : Value} {w w' : World} (h : At g o n s w) (hb : Below w.heap.size w w') : At g o n s w' := h.below hb h.lt

/-- who reads this slice sees these nodes -/
def RowSees (v : Value) (l : Row) (w : World) : Prop :=
  ∃ oa cap, v = .slice oa l.length cap ∧ (l.length ≤ cap ∧ cap ≤ maxLen) ∧ ∀ k p, l[k]? = some p → ∃ g o, oa = some ⟨g, o, none⟩ ∧ At g (o + k * 12) p.1 p.2 w
theorem RowSees.below {v : Value} {l : Row} {w w' : World} (h : RowSees v l w) (hb : Below w.heap.size w w') : RowSees v l w' := by
  obtain ⟨oa, cap, rfl, hm, hc⟩ := h
  refine ⟨oa, cap, rfl, hm, fun k p hk => ?_⟩
  obtain ⟨g, o, e, h0⟩ := hc k p hk
  exact ⟨g, o, e, h0.later hb⟩
theorem rowSees_none (oa : Option Addr) (c : Nat) (hc : c ≤ maxLen) (w : World) : RowSees (.slice oa 0 c) [] w := ⟨oa, c, rfl, ⟨Nat.zero_le _, hc⟩, fun k p h => by simp at h⟩
theorem rowSees_flat {a : Addr} {cap : Nat} {l : Row} {w : World} (h : RowSees (.slice (some a) l.length cap) l w) : ∀ j v, (flat l)[j]? = some v → w.cell? (a.add j) = some v := by
  intro j v hv
  have hj : j < l.length * 12 := by have := (List.getElem?_eq_some_iff.1 hv).1; rwa [flat_len] at this
  obtain ⟨oa, cap', he, _, hc⟩ := h
  cases he
  have hq : j / 12 < l.length := by omega
  obtain ⟨x, hx⟩ : ∃ x, l[j / 12]? = some x := ⟨_, List.getElem?_eq_getElem hq⟩
  obtain ⟨g, o, ha, h0⟩ := hc _ x hx
  cases ha
  have hf := flat_at l (j / 12) x (j % 12) hx (Nat.mod_lt _ (by decide))
  rw [show j / 12 * 12 + j % 12 = j by omega, hv] at hf
  have hc := h0 (j % 12) (Nat.mod_lt _ (by decide))
  rw [show o + j / 12 * 12 + j % 12 = o + j by omega] at hc
  rw [add_at, hc, ← hf]

theorem infoN : (Tryz.prog.info? 48).map (fun i => (i.zero, i.size, i.bytes)) = some (some (.agg #[.int .i64 0, .int .i64 0, .int .i64 0, .int .i64 0, .int .i64 0, .int .i64 0, .int .i64 0, .int .i64 0, .int .i64 0, .int .i64 0, .string ⟨#[]⟩, .slice none 0 0]), 12, 120) := by kernel_rfl

/-- the slice v holds these nodes, in memory of the call's own -/
def RowOwn (B : Nat) (v : Value) (l : Row) (w : World) : Prop := w.ownsRow B 48 12 v l.length (flat l)
theorem RowOwn.nil (B : Nat) (w : World) : RowOwn B (.slice none 0 0) [] w := World.ownsRow_nil _ _ _ _
theorem RowOwn.snoc {B : Nat} {v : Value} {l : Row} {p : Nd × Value} {w : World} (h : w.ownsRow B 48 12 v (l.length + 1) (flat l ++ p.1.cs p.2)) : RowOwn B v (l ++ [p]) w := by
  unfold RowOwn; rw [flat_snoc, List.length_append]; exact h
theorem RowOwn.mono {B B' : Nat} {v : Value} {l : Row} {w : World} (h : RowOwn B v l w) (hb : B' ≤ B) : RowOwn B' v l w := by
  refine ⟨h.1, h.2.imp id ?_⟩
  rintro ⟨g, cap, cur, h1, h2, h3⟩
  exact ⟨g, cap, cur, h1, Nat.le_trans hb h2, h3⟩
theorem RowOwn.below {B : Nat} {v : Value} {l : Row} {w w' : World} (h : RowOwn B v l w) (hb : Below w.heap.size w w') : RowOwn B v l w' :=
  h.kept (row := none) ⟨hb.os, hb.tape, hb.output, hb.size, fun j hj _ => hb.block j hj⟩ (by cases hv : v.ownBlock <;> simp)
theorem RowOwn.alloc {B : Nat} {v : Value} {l : Row} {w : World} (h : RowOwn B v l w) (o : Obj) : RowOwn B v l (w.alloc o) := h.below ((Below.refl _ _).alloc (Nat.le_refl _) o)
theorem RowOwn.forms {B : Nat} {v : Value} {l : Row} {w : World} (h : RowOwn B v l w) : (v = .slice none 0 0 ∧ l = []) ∨ ∃ g cap, v = .slice (some ⟨g, 0, none⟩) l.length cap := by
  rcases h.2 with ⟨h1, h2⟩ | ⟨g, cap, cur, h1, _⟩
  · exact .inl ⟨h1, List.eq_nil_of_length_eq_zero h2⟩
  · exact .inr ⟨g, cap, h1⟩
theorem RowOwn.sees {B : Nat} {v : Value} {l : Row} {w : World} (h : RowOwn B v l w) : RowSees v l w := by
  rcases h.forms with ⟨rfl, rfl⟩ | ⟨g, cap, rfl⟩
  · exact rowSees_none _ _ (Nat.zero_le _) _
  · refine ⟨_, _, rfl, ?_, fun k p hk => ⟨g, 0, rfl, fun j hj => ?_⟩⟩
    · rcases h.2 with ⟨h1, _⟩ | ⟨g', cap', cur, h1, _, _, h2, h3, _⟩
      · cases h1
      · cases h1; exact ⟨h2, h3⟩
    have hlt : k < l.length := (List.getElem?_eq_some_iff.1 hk).1
    rw [Nat.zero_add, World.ownsRow.cellAt h (k * 12 + j) (by omega)]
    exact flat_at l k p j hk hj
theorem cell_new (w : World) (n : Nd) (s : Value) (t : TypeId) : ∀ j u, (n.cs s)[j]? = some u → (w.alloc (.cells #[.int .i64 n.no, .int .i64 n.dev, .int .i64 n.kind, .int .i64 n.mode, .int .i64 n.uid, .int .i64 n.gid, .int .i64 n.mt, .int .i64 n.ct, .int .i64 n.links, .int .i64 n.up, .string n.data, s] t)).cell? ((⟨w.heap.size, 0, none⟩ : Addr).add j) = some u := fun j u h => by
  rw [add_at, Nat.zero_add, World.cell?_alloc_new, ← h]
  simp [Nd.cs]

end Go.Proofs.YtenopnfclbegbaaGreat.T
