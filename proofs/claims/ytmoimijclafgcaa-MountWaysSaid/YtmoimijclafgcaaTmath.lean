/-
  Nodes, rows of nodes in the order of their numbers, and what a map by numbers holds: the mathematics of package table.
-/
import Derived.Test.YtmoimijclafgcaaEbase
import Derived.Maps.OwnIn
import Derived.Maps.Views
import Derived.Lib.SlKeysI
namespace Go.Proofs.Ytmoimijclafgcaa.T
open Go.RowKit Go.Shelf Go.Maps

/-- a node: what it holds, its entries apart -/
structure Nd where
  no : Int
  dev : Int
  kind : Int
  mode : Int
  uid : Int
  gid : Int
  mt : Int
  ct : Int
  links : Int
  up : Int
  data : ByteArray
  es : List E.Ent
/-- a node's twelve cells, its entries in the slice s -/
def Nd.cs (n : Nd) (s : Value) : List Value := [.int .i64 n.no, .int .i64 n.dev, .int .i64 n.kind, .int .i64 n.mode, .int .i64 n.uid, .int .i64 n.gid, .int .i64 n.mt, .int .i64 n.ct, .int .i64 n.links, .int .i64 n.up, .string n.data, s]
/-- a node by value -/
def Nd.v (n : Nd) (s : Value) : Value := .agg #[.int .i64 n.no, .int .i64 n.dev, .int .i64 n.kind, .int .i64 n.mode, .int .i64 n.uid, .int .i64 n.gid, .int .i64 n.mt, .int .i64 n.ct, .int .i64 n.links, .int .i64 n.up, .string n.data, s]
/-- the node that is none -/
def Nd.zero : Nd := ⟨0, 0, 0, 0, 0, 0, 0, 0, 0, 0, ⟨#[]⟩, []⟩
/-- the same node under another number -/
def Nd.as (n : Nd) (k : Int) : Nd := ⟨k, n.dev, n.kind, n.mode, n.uid, n.gid, n.mt, n.ct, n.links, n.up, n.data, n.es⟩
theorem Nd.as_no (n : Nd) (k : Int) : (n.as k).no = k := rfl
theorem Nd.as_self (n : Nd) : n.as n.no = n := by cases n; rfl

/-- a row: nodes, each with the slice of its entries -/
abbrev Row := List (Nd × Value)
def nos (l : Row) : List Int := l.map fun p => p.1.no
/-- the numbers rise -/
def Rise (l : Row) : Prop := l.Pairwise fun p q => p.1.no < q.1.no
/-- the numbers are among those that were given -/
def Given (last : Int) (l : Row) : Prop := ∀ p ∈ l, 1 ≤ p.1.no ∧ p.1.no ≤ last
def look (l : Row) (k : Int) : Option (Nd × Value) := l.find? fun p => decide (p.1.no = k)
def strike (l : Row) (k : Int) : Row := l.filter fun p => decide (p.1.no ≠ k)
def repl (l : Row) (q : Nd × Value) : Row := l.map fun p => if p.1.no = q.1.no then q else p
def entry (p : Nd × Value) : Lit × DataW Value := (.int .i64 p.1.no, .held (p.1.v p.2))
/-- what a map by numbers holds -/
def DD (l : Row) : DataW Value := .map (l.map entry)
/-- how an element of such a map reads: as itself -/
def elem (v : Value) : Option (DataW Value × List MemPlace) := some (.held v, [])
theorem elem_inv {v u : Value} {ps : List MemPlace} (h : elem v = some (.held u, ps)) : v = u := by
  unfold elem at h; cases h; rfl

theorem same_int (a b : Int) : (Lit.int .i64 a).sameKey (.int .i64 b) = decide (a = b) := by simp [Lit.sameKey]
theorem before_int (a b : Int) : (Lit.int .i64 a).before (.int .i64 b) = decide (a < b) := rfl

theorem has_map (l : Row) (k : Int) : (l.map entry).any (fun p => p.1.sameKey (.int .i64 k)) = (look l k).isSome := by
  induction l with
  | nil => rfl
  | cons p r ih =>
    simp only [look] at ih ⊢
    rw [List.map_cons, List.any_cons, ih, List.find?_cons]
    simp only [entry, same_int]
    cases decide (p.1.no = k) <;> rfl
theorem has_DD (l : Row) (k : Int) : Maps.has (DD l) (.int .i64 k) = (look l k).isSome := has_map l k
theorem at_DD (l : Row) (k : Int) (z : DataW Value) : (DD l).atKey (.int .i64 k) z = match look l k with | some p => .held (p.1.v p.2) | none => z := by
  have h : (l.map entry).find? (fun p => p.1.sameKey (.int .i64 k)) = (look l k).map entry := by
    unfold look
    induction l with
    | nil => rfl
    | cons p r ih =>
      rw [List.map_cons, List.find?_cons, List.find?_cons, ih]
      have e : (entry p).1.sameKey (.int .i64 k) = decide (p.1.no = k) := same_int _ _
      rw [e]
      cases decide (p.1.no = k) <;> rfl
  unfold DD DataW.atKey
  simp only [h]
  cases look l k <;> rfl
theorem size_DD (l : Row) : Maps.size (DD l) = l.length := by
  show (l.map entry).length = _
  rw [List.length_map]
theorem keys_DD (l : Row) : intKeys (DD l) = nos l := by
  show (l.map entry).map (fun p => Go.intOf p.1) = l.map fun p => p.1.no
  rw [List.map_map]; rfl

theorem filter_map (l : Row) (k : Int) : (l.map entry).filter (fun p => !p.1.sameKey (.int .i64 k)) = (strike l k).map entry := by
  induction l with
  | nil => rfl
  | cons p r ih =>
    unfold strike at ih ⊢
    rw [List.map_cons, List.filter_cons, List.filter_cons, ih]
    simp only [entry, same_int]
    by_cases h : p.1.no = k <;> simp [h, entry]
theorem del_DD (l : Row) (k : Int) : (DD l).del (.int .i64 k) = DD (strike l k) := by
  show DataW.map ((l.map entry).filter fun p => !p.1.sameKey (.int .i64 k)) = _
  rw [filter_map]; rfl
theorem insert_yes {x y : Lit × DataW Value} (r : List (Lit × DataW Value)) (h : x.1.before y.1 = true) : DataW.insert x (y :: r) = x :: y :: r := by unfold DataW.insert; rw [if_pos h]
theorem insert_no {x y : Lit × DataW Value} (r : List (Lit × DataW Value)) (h : x.1.before y.1 = false) : DataW.insert x (y :: r) = y :: DataW.insert x r := by rw [DataW.insert, if_neg (by rw [h]; simp)]
theorem insert_last (k : Int) (d : DataW Value) (l : Row) (h : ∀ p ∈ l, p.1.no < k) : DataW.insert (.int .i64 k, d) (l.map entry) = l.map entry ++ [(.int .i64 k, d)] := by
  induction l with
  | nil => rfl
  | cons p r ih =>
    have hp := h p (by simp)
    rw [List.map_cons, insert_no (x := (.int .i64 k, d)) (y := entry p) _ (show decide (k < p.1.no) = false from decide_eq_false (by omega)), ih (fun q hq => h q (by simp [hq]))]
    rfl
theorem strike_none (l : Row) (k : Int) (h : ∀ p ∈ l, p.1.no ≠ k) : strike l k = l := List.filter_eq_self.2 fun p hp => by simpa using h p hp
theorem look_none {l : Row} {k : Int} (h : look l k = none) : ∀ p ∈ l, p.1.no ≠ k := fun p hp e => by
  have := List.find?_eq_none.1 h p hp
  simp at this
  exact this e
theorem look_some {l : Row} {k : Int} {p : Nd × Value} (h : look l k = some p) : p ∈ l ∧ p.1.no = k := ⟨List.mem_of_find?_eq_some h, by simpa using List.find?_some h⟩
theorem put_new {last : Int} {l : Row} (h : Given last l) (q : Nd × Value) (hq : last < q.1.no) : (DD l).put (.int .i64 q.1.no) (.held (q.1.v q.2)) = DD (l ++ [q]) := by
  show DataW.map (DataW.insert _ ((l.map entry).filter fun p => !p.1.sameKey (.int .i64 q.1.no))) = _
  rw [filter_map, strike_none l _ (fun p hp => by have := (h p hp).2; omega), insert_last _ _ _ (fun p hp => by have := (h p hp).2; omega)]
  unfold DD
  rw [List.map_append]; rfl
theorem insert_first (k : Int) (d : DataW Value) (l : Row) (h : ∀ p ∈ l, k < p.1.no) : DataW.insert (.int .i64 k, d) (l.map entry) = (.int .i64 k, d) :: l.map entry := by
  cases l with
  | nil => rfl
  | cons p r =>
    rw [List.map_cons, insert_yes (x := (.int .i64 k, d)) (y := entry p) _ (show decide (k < p.1.no) = true from decide_eq_true (h p (by simp)))]
theorem put_row (q : Nd × Value) : ∀ (l : Row), Rise l → (look l q.1.no).isSome = true → DataW.insert (.int .i64 q.1.no, .held (q.1.v q.2)) ((strike l q.1.no).map entry) = (repl l q).map entry
  | [], _, h => by simp [look] at h
  | p :: r, hr, h => by
    obtain ⟨h1, h2⟩ := List.pairwise_cons.1 hr
    by_cases e : p.1.no = q.1.no
    · have hs : strike (p :: r) q.1.no = r := by
        unfold strike
        rw [List.filter_cons, if_neg (by simpa using e)]
        exact strike_none r _ fun x hx => by have := h1 x hx; omega
      have hp : repl (p :: r) q = q :: r := by
        unfold repl
        rw [List.map_cons, if_pos e]
        congr 1
        conv => rhs; rw [← List.map_id r]
        refine List.map_congr_left fun x hx => ?_
        have := h1 x hx
        rw [if_neg (by omega)]; rfl
      rw [hs, hp, insert_first _ _ _ (fun x hx => by have := h1 x hx; omega)]
      rfl
    · have hl : (look r q.1.no).isSome = true := by
        unfold look at h ⊢
        rw [List.find?_cons, decide_eq_false e] at h
        exact h
      obtain ⟨x, hx⟩ := Option.isSome_iff_exists.1 hl
      obtain ⟨hx1, hx2⟩ := look_some hx
      have hlt := h1 x hx1
      have ih := put_row q r h2 hl
      have hs : strike (p :: r) q.1.no = p :: strike r q.1.no := by
        unfold strike
        rw [List.filter_cons, if_pos (by simpa using e)]
      have hp : repl (p :: r) q = p :: repl r q := by
        unfold repl
        rw [List.map_cons, if_neg e]
      rw [hs, hp, List.map_cons, List.map_cons, insert_no (x := (.int .i64 q.1.no, .held (q.1.v q.2))) (y := entry p) _ (show decide (q.1.no < p.1.no) = false from decide_eq_false (by omega)), ih]
theorem put_old {l : Row} (hr : Rise l) (q : Nd × Value) (h : (look l q.1.no).isSome = true) : (DD l).put (.int .i64 q.1.no) (.held (q.1.v q.2)) = DD (repl l q) := by
  show DataW.map (DataW.insert _ ((l.map entry).filter fun p => !p.1.sameKey (.int .i64 q.1.no))) = _
  rw [filter_map, put_row q l hr h]; rfl

theorem nos_repl (l : Row) (q : Nd × Value) : nos (repl l q) = nos l := by
  unfold nos repl
  rw [List.map_map]
  refine List.map_congr_left fun p _ => ?_
  simp only [Function.comp]
  split <;> simp_all
theorem rise_nos {l : Row} : Rise l ↔ (nos l).Pairwise (fun a b => a < b) := by unfold Rise nos; rw [List.pairwise_map]
theorem Rise.repl {l : Row} (h : Rise l) (q : Nd × Value) : Rise (repl l q) := by rw [rise_nos, nos_repl]; exact rise_nos.1 h
theorem Rise.strike {l : Row} (h : Rise l) (k : Int) : Rise (strike l k) := List.Pairwise.filter _ h
theorem Rise.snoc {last : Int} {l : Row} (h : Rise l) (g : Given last l) (q : Nd × Value) (hq : last < q.1.no) : Rise (l ++ [q]) :=
  List.pairwise_append.2 ⟨h, List.pairwise_singleton _ _, fun p hp x hx => by
    have := (g p hp).2
    obtain rfl := List.mem_singleton.1 hx
    omega⟩
theorem mem_repl {l : Row} {q p : Nd × Value} (h : p ∈ repl l q) : p = q ∨ p ∈ l := by
  obtain ⟨x, hx, e⟩ := List.mem_map.1 h
  split at e
  · exact .inl e.symm
  · exact .inr (e ▸ hx)
theorem mem_strike {l : Row} {k : Int} {p : Nd × Value} (h : p ∈ strike l k) : p ∈ l := (List.mem_filter.1 h).1
theorem Given.mono {last last' : Int} {l : Row} (h : Given last l) (hl : last ≤ last') : Given last' l := fun p hp => ⟨(h p hp).1, Int.le_trans (h p hp).2 hl⟩
theorem Given.strike {last : Int} {l : Row} (h : Given last l) (k : Int) : Given last (strike l k) := fun p hp => h p (mem_strike hp)
theorem Given.repl {last : Int} {l : Row} (h : Given last l) {q : Nd × Value} (hs : (look l q.1.no).isSome = true) : Given last (repl l q) := fun p hp => by
  rcases mem_repl hp with rfl | hp
  · obtain ⟨x, hx⟩ := Option.isSome_iff_exists.1 hs
    obtain ⟨h1, h2⟩ := look_some hx
    rw [← h2]; exact h x h1
  · exact h p hp
theorem Given.snoc {last : Int} {l : Row} (g : Given last l) (q : Nd × Value) (hq : q.1.no = last + 1) (h0 : 0 ≤ last) : Given (last + 1) (l ++ [q]) := fun p hp => by
  rcases List.mem_append.1 hp with hp | hp
  · have := g p hp; omega
  · obtain rfl := List.mem_singleton.1 hp; omega
theorem length_repl (l : Row) (q : Nd × Value) : (repl l q).length = l.length := by unfold repl; rw [List.length_map]
theorem length_strike_le (l : Row) (k : Int) : (strike l k).length ≤ l.length := List.length_filter_le _ _

/-- the numbers, sorted, are the numbers -/
theorem sorted_nos {l : Row} (h : Rise l) : (nos l).mergeSort leI = nos l := by
  refine List.mergeSort_of_pairwise ?_
  refine (rise_nos.1 h).imp fun {a b} hab => ?_
  simp only [leI, decide_eq_true_eq]; omega
theorem sorted_perm_nos {l : Row} (h : Rise l) {ss : List Int} (hp : ss.Perm (nos l)) : ss.mergeSort leI = nos l := (mergeSort_of_perm_i hp).trans (sorted_nos h)
theorem look_at {l : Row} (h : Rise l) {k : Nat} {p : Nd × Value} (hk : l[k]? = some p) : look l p.1.no = some p := by
  induction l generalizing k with
  | nil => simp at hk
  | cons x r ih =>
    obtain ⟨h1, h2⟩ := List.pairwise_cons.1 h
    unfold look at ih ⊢
    rw [List.find?_cons]
    cases k with
    | zero => simp at hk; subst hk; simp
    | succ k =>
      have hk' : r[k]? = some p := by simpa using hk
      have := h1 p (List.mem_of_getElem? hk')
      rw [decide_eq_false (by omega)]
      exact ih h2 hk'
end Go.Proofs.Ytmoimijclafgcaa.T
