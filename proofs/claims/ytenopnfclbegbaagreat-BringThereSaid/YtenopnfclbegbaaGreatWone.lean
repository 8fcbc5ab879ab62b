/-
  A world of nodes on mounts: the mathematics.
-/
import Derived.Test.YtenopnfclbegbaaGreatTab
import Derived.Test.YtenopnfclbegbaaGreatEnts
import Derived.Test.YtenopnfclbegbaaGreatQuo
import Derived.Deep.DeepCutAuto
namespace Go.Proofs.YtenopnfclbegbaaGreat.G

/-- a mount: its root, the directory that it covers, its space -/
structure Mt where
  root : Int
  cov : Int
  q : U.Sp
/-- a world: the number given last, the nodes, the mounts -/
structure St where
  last : Int
  n : List T.Nd
  d : List Mt

def get (n : List T.Nd) (k : Int) : Option T.Nd := n.find? fun p => decide (p.no = k)
def gets (n : List T.Nd) (k : Int) : T.Nd := (get n k).getD T.Nd.zero
def isDir (n : List T.Nd) (k : Int) : Bool := (get n k).isSome && decide ((gets n k).kind = 1)
def over (d : List Mt) (k : Int) : Int := match d.find? (fun m => decide (m.cov = k)) with | some m => m.root | none => k
def under (d : List Mt) (k : Int) : Int := match d.find? (fun m => decide (m.root = k)) with | some m => m.cov | none => k
def isRoot (d : List Mt) (k : Int) : Bool := d.any fun m => decide (m.root = k)
/-- the mount of a number -/
def mt (d : List Mt) (k : Int) : Option Mt := if 1 ≤ k then d[(k - 1).toNat]? else none
def rootOf (d : List Mt) (k : Int) : Int := match mt d k with | some m => m.root | none => 0
def useOf (d : List Mt) (k : Int) : U.Sp := match mt d k with | some m => m.q | none => ⟨0, 0, 0, 0⟩
/-- a mount has another space -/
def settle (d : List Mt) (k : Int) (q : U.Sp) : List Mt := match mt d k with | some m => d.set (k - 1).toNat { m with q := q } | none => d
def above (st : St) (k : Int) : Int := if isDir st.n k = true then (gets st.n (under st.d k)).up else 0
def called (st : St) (k : Int) : Option (List UInt8) := if isDir st.n (above st k) = true then E.nameOf (gets st.n (above st k)).es (under st.d k) else none
def trail (st : St) (no : Int) : Nat → Int
  | 0 => no
  | k + 1 => above st (trail st no k)
def size (nd : T.Nd) : Int := nd.data.size
def blk (nd : T.Nd) : Int := U.blk nd.kind (size nd)
/-- a node is another one -/
def setN (n : List T.Nd) (x : T.Nd) : List T.Nd := n.map fun p => if p.no = x.no then x else p
def dropN (n : List T.Nd) (k : Int) : List T.Nd := n.filter fun p => decide (p.no ≠ k)
/-- the error of taking, and the mounts behind it -/
def terr (d : List Mt) (k x y : Int) : Int := match mt d k with | some m => (U.took m.q x y).2 | none => 1
def taken (d : List Mt) (k x y : Int) : List Mt := match mt d k with | some m => settle d k (U.took m.q x y).1 | none => d

/-! what the calls do -/
def make (st : St) (x : T.Nd) : St × Int × Int :=
  if terr st.d x.dev (blk x) 1 = 0 then (⟨st.last + 1, st.n ++ [x.as (st.last + 1)], taken st.d x.dev (blk x) 1⟩, st.last + 1, 0) else (st, 0, terr st.d x.dev (blk x) 1)
def kill (st : St) (k : Int) : St × Bool :=
  if (get st.n k).isSome = true ∧ isRoot st.d k = false then (⟨st.last, dropN st.n k, taken st.d (gets st.n k).dev (-blk (gets st.n k)) (-1)⟩, true) else (st, false)
/-- a node with other bytes -/
def filled (st : St) (k : Int) (x : ByteArray) : T.Nd := { gets st.n k with data := x }
def fill (st : St) (k : Int) (x : ByteArray) : St × Int :=
  if (get st.n k).isSome = true then
    if terr st.d (gets st.n k).dev (blk (filled st k x) - blk (gets st.n k)) 0 = 0 then (⟨st.last, setN st.n (filled st k x), taken st.d (gets st.n k).dev (blk (filled st k x) - blk (gets st.n k)) 0⟩, 0)
    else (st, terr st.d (gets st.n k).dev (blk (filled st k x) - blk (gets st.n k)) 0)
  else (st, 5)
def rootNode (no dev : Int) : T.Nd := ⟨no, dev, 1, 493, 0, 0, 0, 0, 1, no, ⟨#[]⟩, []⟩
def begin_ (st : St) (k b c : Int) : St := ⟨st.last + 1, st.n ++ [rootNode (st.last + 1) (st.d.length + 1)], st.d ++ [⟨st.last + 1, k, ⟨1, 1, b, c⟩⟩]⟩
def limits (b c : Int) : Bool := U.btw 1 b 1073741824 && U.btw 1 c 65536
def mount (st : St) (k b c : Int) : St × Int × Int :=
  if (get st.n k).isSome = true then
    if (gets st.n k).kind = 1 then
      if over st.d k ≠ k ∨ isRoot st.d k = true then (st, 0, 16)
      else if 8 ≤ st.d.length then (st, 0, 3)
      else if limits b c = true then (begin_ st k b c, st.last + 1, 0) else (st, 0, 3)
    else (st, 0, 9)
  else (st, 0, 5)

/-! what holds of every world -/
structure Inv (st : St) : Prop where
  lo : 0 ≤ st.last
  rise : st.n.Pairwise fun p q => p.no < q.no
  given : ∀ nd ∈ st.n, 1 ≤ nd.no ∧ nd.no ≤ st.last
  len : (st.n.length : Int) ≤ st.last
  top : ∃ q, st.d[0]? = some ⟨1, 1, q⟩
  topn : ∃ nd, get st.n 1 = some nd ∧ nd.up = 1
  roots : ∀ (k : Nat) (m : Mt), st.d[k]? = some m → ∃ nd, get st.n m.root = some nd ∧ nd.dev = k + 1 ∧ nd.kind = 1
  devs : ∀ nd ∈ st.n, 1 ≤ nd.dev ∧ nd.dev ≤ st.d.length
  covs : ∀ (k : Nat) (m : Mt), st.d[k]? = some m → 0 < k → 1 ≤ m.cov ∧ m.cov ≤ st.last ∧ isRoot st.d m.cov = false
  mounts : st.d.length ≤ 8
  plain : ∀ nd ∈ st.n, nd.kind ≠ 1 → nd.es = []
  names : ∀ nd ∈ st.n, ∀ e ∈ nd.es, 1 ≤ e.name.length ∧ e.name.length ≤ 255
  few : ∀ nd ∈ st.n, nd.es.length ≤ 100000
  data : ∀ nd ∈ st.n, nd.data.size ≤ 2000000

theorem get_some {n : List T.Nd} {k : Int} {x : T.Nd} (h : get n k = some x) : x ∈ n ∧ x.no = k := ⟨List.mem_of_find?_eq_some h, by simpa using List.find?_some h⟩
theorem get_none {n : List T.Nd} {k : Int} (h : get n k = none) : ∀ p ∈ n, p.no ≠ k := fun p hp e => by
  have := List.find?_eq_none.1 h p hp
  simp at this
  exact this e
theorem gets_some {n : List T.Nd} {k : Int} {x : T.Nd} (h : get n k = some x) : gets n k = x := by unfold gets; rw [h]; rfl
theorem gets_none {n : List T.Nd} {k : Int} (h : get n k = none) : gets n k = T.Nd.zero := by unfold gets; rw [h]; rfl
theorem get_mem {n : List T.Nd} (hr : n.Pairwise fun p q => p.no < q.no) {x : T.Nd} (h : x ∈ n) : get n x.no = some x := by
  induction n with
  | nil => cases h
  | cons y r ih =>
    obtain ⟨h1, h2⟩ := List.pairwise_cons.1 hr
    unfold get at ih ⊢
    rw [List.find?_cons]
    rcases List.mem_cons.1 h with rfl | h
    · simp
    · have := h1 x h
      rw [decide_eq_false (by omega)]
      exact ih h2 h
theorem isDir_iff {n : List T.Nd} {k : Int} : isDir n k = true ↔ ∃ x, get n k = some x ∧ x.kind = 1 := by
  unfold isDir gets
  cases get n k <;> simp
theorem mt_some {d : List Mt} {k : Int} {m : Mt} (h : mt d k = some m) : 1 ≤ k ∧ k ≤ d.length ∧ d[(k - 1).toNat]? = some m := by
  unfold mt at h
  split at h
  · have := (List.getElem?_eq_some_iff.1 h).1
    exact ⟨by assumption, by omega, h⟩
  · cases h
theorem mt_at {d : List Mt} {k : Nat} {m : Mt} (h : d[k]? = some m) : mt d (k + 1) = some m := by
  unfold mt
  rw [if_pos (by omega), show ((k : Int) + 1 - 1).toNat = k by omega]
  exact h
theorem mt_in {d : List Mt} {k : Int} (h1 : 1 ≤ k) (h2 : k ≤ d.length) : ∃ m, mt d k = some m := by
  unfold mt
  rw [if_pos h1]
  exact ⟨_, List.getElem?_eq_getElem (by omega)⟩
theorem mt_none {d : List Mt} {k : Int} (h : k < 1 ∨ d.length < k) : mt d k = none := by
  unfold mt
  split
  · exact List.getElem?_eq_none (by omega)
  · rfl
theorem settle_same {d : List Mt} {k : Int} : settle d k (useOf d k) = d := by
  unfold settle useOf
  cases h : mt d k with
  | none => rfl
  | some m =>
    obtain ⟨_, _, h3⟩ := mt_some h
    obtain ⟨hl, h4⟩ := List.getElem?_eq_some_iff.1 h3
    dsimp only
    rw [← h4]
    exact List.set_getElem_self hl
theorem length_settle (d : List Mt) (k : Int) (q : U.Sp) : (settle d k q).length = d.length := by
  unfold settle
  split <;> simp
/-- the roots, and what they cover, stay -/
theorem settle_at (d : List Mt) (k : Int) (q : U.Sp) (i : Nat) : ((settle d k q)[i]?).map (fun m => (m.root, m.cov)) = (d[i]?).map (fun m => (m.root, m.cov)) := by
  unfold settle
  split
  · rename_i m h
    obtain ⟨_, _, h3⟩ := mt_some h
    rw [List.getElem?_set]
    split
    · rename_i e
      subst e
      obtain ⟨hl, h4⟩ := List.getElem?_eq_some_iff.1 h3
      rw [if_pos hl, h3]; rfl
    · rfl
  · rfl
theorem settle_map (d : List Mt) (k : Int) (q : U.Sp) : (settle d k q).map (fun m => (m.root, m.cov)) = d.map (fun m => (m.root, m.cov)) := by
  refine List.ext_getElem? fun i => ?_
  rw [List.getElem?_map, List.getElem?_map]
  exact settle_at d k q i
theorem isRoot_map (d : List Mt) (k : Int) : isRoot d k = (d.map fun m => (m.root, m.cov)).any fun p => decide (p.1 = k) := by
  unfold isRoot; rw [List.any_map]; rfl
theorem isRoot_settle (d : List Mt) (k : Int) (q : U.Sp) (x : Int) : isRoot (settle d k q) x = isRoot d x := by rw [isRoot_map, isRoot_map, settle_map]
theorem find_map {α β : Type} (f : α → β) (p : β → Bool) (l : List α) : (l.map f).find? p = (l.find? (p ∘ f)).map f := by
  induction l with
  | nil => rfl
  | cons x r ih =>
    rw [List.map_cons, List.find?_cons, List.find?_cons, ih]
    show (match p (f x) with | true => _ | false => _) = _
    cases h : p (f x) <;> simp [h]
theorem under_map (d : List Mt) (k : Int) : under d k = match (d.map fun m => (m.root, m.cov)).find? (fun p => decide (p.1 = k)) with | some p => p.2 | none => k := by
  rw [find_map]; unfold under
  show _ = match Option.map (fun m : Mt => (m.root, m.cov)) (d.find? fun m => decide (m.root = k)) with | some p => p.2 | none => k
  cases d.find? (fun m => decide (m.root = k)) <;> rfl
theorem over_map (d : List Mt) (k : Int) : over d k = match (d.map fun m => (m.root, m.cov)).find? (fun p => decide (p.2 = k)) with | some p => p.1 | none => k := by
  rw [find_map]; unfold over
  show _ = match Option.map (fun m : Mt => (m.root, m.cov)) (d.find? fun m => decide (m.cov = k)) with | some p => p.1 | none => k
  cases d.find? (fun m => decide (m.cov = k)) <;> rfl
theorem under_settle (d : List Mt) (k : Int) (q : U.Sp) (x : Int) : under (settle d k q) x = under d x := by rw [under_map, under_map, settle_map]
theorem over_settle (d : List Mt) (k : Int) (q : U.Sp) (x : Int) : over (settle d k q) x = over d x := by rw [over_map, over_map, settle_map]
theorem settle_get {d : List Mt} {k : Int} {q : U.Sp} {i : Nat} {m : Mt} (h : (settle d k q)[i]? = some m) : ∃ m', d[i]? = some m' ∧ m'.root = m.root ∧ m'.cov = m.cov := by
  have := settle_at d k q i
  rw [h] at this
  cases hd : d[i]? with
  | none => rw [hd] at this; cases this
  | some m' =>
    rw [hd] at this
    simp at this
    exact ⟨m', rfl, this.1.symm, this.2.symm⟩

section
variable {st : St}
theorem Inv.getMem (h : Inv st) {x : T.Nd} (hx : x ∈ st.n) : get st.n x.no = some x := get_mem h.rise hx
theorem Inv.mtOf (h : Inv st) {x : T.Nd} (hx : x ∈ st.n) : ∃ m, mt st.d x.dev = some m := mt_in (h.devs x hx).1 (h.devs x hx).2
/-- a root is a node whose mount has it as its root -/
theorem Inv.root_iff (h : Inv st) {x : T.Nd} {k : Int} (hx : get st.n k = some x) : isRoot st.d k = true ↔ rootOf st.d x.dev = k := by
  obtain ⟨hm, hk⟩ := get_some hx
  constructor
  · intro hr
    obtain ⟨m, hm1, hm2⟩ := List.any_eq_true.1 hr
    obtain ⟨i, hi⟩ := List.mem_iff_getElem?.1 hm1
    have e : m.root = k := by simpa using hm2
    obtain ⟨nd, h1, h2, _⟩ := h.roots i m hi
    rw [e, hx] at h1
    cases h1
    unfold rootOf
    rw [h2, mt_at hi]
    exact e
  · intro hr
    obtain ⟨m, hm1⟩ := h.mtOf hm
    unfold rootOf at hr
    rw [hm1] at hr
    obtain ⟨_, _, h3⟩ := mt_some hm1
    exact List.any_eq_true.2 ⟨m, List.mem_of_getElem? h3, by simpa using hr⟩
theorem Inv.rootDir (h : Inv st) {k : Int} (hr : isRoot st.d k = true) : isDir st.n k = true := by
  obtain ⟨m, hm1, hm2⟩ := List.any_eq_true.1 hr
  obtain ⟨i, hi⟩ := List.mem_iff_getElem?.1 hm1
  have e : m.root = k := by simpa using hm2
  obtain ⟨nd, h1, _, h3⟩ := h.roots i m hi
  exact isDir_iff.2 ⟨nd, e ▸ h1, h3⟩
/-- roots differ -/
theorem Inv.apart (h : Inv st) {i j : Nat} {a b : Mt} (ha : st.d[i]? = some a) (hb : st.d[j]? = some b) (e : a.root = b.root) : i = j := by
  obtain ⟨x, h1, h2, _⟩ := h.roots i a ha
  obtain ⟨y, h3, h4, _⟩ := h.roots j b hb
  rw [e, h3] at h1
  cases h1
  omega
theorem Inv.not_zero (h : Inv st) {k : Int} (hk : k ≤ 0) : get st.n k = none := by
  cases e : get st.n k with
  | none => rfl
  | some x =>
    obtain ⟨hm, hx⟩ := get_some e
    have := (h.given x hm).1
    omega
/-- the mounts that the reference has: the first covers nothing -/
def raw : List Mt → List Mt
  | [] => []
  | m :: r => ⟨m.root, 0, m.q⟩ :: r
theorem raw_at (d : List Mt) (k : Nat) : (raw d)[k]? = if k = 0 then (d[0]?).map (fun m => ⟨m.root, 0, m.q⟩) else d[k]? := by
  cases d with
  | nil => cases k <;> simp [raw]
  | cons m r => cases k <;> simp [raw]
theorem length_raw (d : List Mt) : (raw d).length = d.length := by cases d <;> rfl
/-- what covers a node, told from the reference's mounts -/
theorem Inv.over_raw (h : Inv st) (k : Int) : over st.d k = if 0 < k then over (raw st.d) k else k := by
  obtain ⟨q, hq⟩ := h.top
  cases hd : st.d with
  | nil => rw [hd] at hq; cases hq
  | cons m r =>
    rw [hd] at hq
    simp at hq
    subst hq
    by_cases hk : 0 < k
    · rw [if_pos hk]
      unfold over raw
      rw [List.find?_cons, List.find?_cons]
      by_cases h1 : (1 : Int) = k
      · subst h1
        have hn : r.find? (fun m => decide (m.cov = 1)) = none := List.find?_eq_none.2 fun x hx => by
          obtain ⟨i, hi⟩ := List.mem_iff_getElem?.1 hx
          have hi' : st.d[i + 1]? = some x := by rw [hd]; simpa using hi
          have := (h.covs (i + 1) x hi' (Nat.succ_pos _)).2.2
          simp only [decide_eq_true_eq]
          intro e
          rw [e] at this
          unfold isRoot at this
          rw [hd] at this
          simp at this
        simp [hn]
      · have h2 : ¬ (0 : Int) = k := by omega
        simp [h1, h2]
    · rw [if_neg hk]
      unfold over
      rw [List.find?_eq_none.2 fun x hx => by
        obtain ⟨i, hi⟩ := List.mem_iff_getElem?.1 hx
        have hi' : st.d[i]? = some x := by rw [hd]; exact hi
        simp only [decide_eq_true_eq]
        intro e
        cases i with
        | zero =>
          rw [hd] at hi'
          simp at hi'
          subst hi'
          simp at e
          omega
        | succ i => have := (h.covs (i + 1) x hi' (Nat.succ_pos _)).1; omega]
end
end Go.Proofs.YtenopnfclbegbaaGreat.G
/-
  A world of nodes on mounts in memory: the program's and the reference's; what turns.
-/
namespace Go.Proofs.YtenopnfclbegbaaGreat.G
open Go.RowKit Go.Shelf Go.Maps

theorem below_two {w w1 w2 : World} (h1 : Below w.heap.size w w1) (h2 : Below w1.heap.size w1 w2) : Below w.heap.size w w2 := h1.trans (h2.mono h1.size)
theorem ne_heap {w : World} {a b : Nat} {x y : Obj} (h1 : w.heap[a]? = some x) (h2 : w.heap[b]? = some y) (h : x ≠ y) : a ≠ b := fun e => h (by rw [e, h2] at h1; cases h1; rfl)
theorem ne_type {w : World} {a b : Nat} {x y : Array Value} {s t : TypeId} {p q : Nat × Nat} (h1 : w.heap[a]? = some (.cells x s p)) (h2 : w.heap[b]? = some (.cells y t q)) (h : s ≠ t) : a ≠ b := ne_heap h1 h2 (fun e => by cases e; exact h rfl)
theorem ne_map {w : World} {a b : Nat} {x : Array Value} {s : TypeId} {p : Nat × Nat} {es : Array MapEntry} {c : Nat} (h1 : w.heap[a]? = some (.cells x s p)) (h2 : w.heap[b]? = some (.map es c)) : a ≠ b := ne_heap h1 h2 (fun e => by cases e)

/-- only the blocks of S have turned, and new ones have come -/
structure Turn (S : Nat → Prop) (w w' : World) : Prop where
  os : w'.os = w.os
  tape : w'.tape = w.tape
  output : w'.output = w.output
  size : w.heap.size ≤ w'.heap.size
  block : ∀ k, k < w.heap.size → ¬ S k → w'.heap[k]? = w.heap[k]?
section
variable {S S' : Nat → Prop} {w w' w'' : World}
theorem Turn.of_below (h : Below w.heap.size w w') : Turn S w w' := ⟨h.os, h.tape, h.output, h.size, fun k hk _ => h.block k hk⟩
theorem Turn.refl (w : World) : Turn S w w := Turn.of_below (Below.refl _ _)
theorem Turn.trans (h : Turn S w w') (k : Turn S w' w'') : Turn S w w'' :=
  ⟨k.os.trans h.os, k.tape.trans h.tape, k.output.trans h.output, Nat.le_trans h.size k.size, fun i hi hn => (k.block i (Nat.lt_of_lt_of_le hi h.size) hn).trans (h.block i hi hn)⟩
theorem Turn.late (h : Turn S w w') (k : Turn S' w' w'') (hs : ∀ i, S' i → S i ∨ w.heap.size ≤ i) : Turn S w w'' :=
  ⟨k.os.trans h.os, k.tape.trans h.tape, k.output.trans h.output, Nat.le_trans h.size k.size, fun i hi hn => (k.block i (Nat.lt_of_lt_of_le hi h.size) (fun e => (hs i e).elim hn (by omega))).trans (h.block i hi hn)⟩
theorem Turn.more (h : Turn S w w') {n : Nat} (k : Below n w' w'') (hn : w.heap.size ≤ n) : Turn S w w'' :=
  ⟨k.os.trans h.os, k.tape.trans h.tape, k.output.trans h.output, Nat.le_trans h.size k.size, fun i hi hS => (k.block i (Nat.lt_of_lt_of_le hi hn)).trans (h.block i hi hS)⟩
theorem Turn.next (h : Turn S w w') (k : Below w'.heap.size w' w'') : Turn S w w'' := h.more k h.size
theorem Turn.ahead (h : Below w.heap.size w w') (k : Turn S w' w'') : Turn S w w'' := (Turn.of_below h).trans k
theorem Turn.mono (h : Turn S w w') (hs : ∀ i, S i → S' i) : Turn S' w w' := ⟨h.os, h.tape, h.output, h.size, fun k hk hn => h.block k hk fun e => hn (hs k e)⟩
theorem Turn.below (h : Turn S w w') {B : Nat} (hB : B ≤ w.heap.size) (hs : ∀ i, S i → B ≤ i) : Below B w w' := ⟨h.os, h.tape, h.output, h.size, fun k hk => h.block k (by omega) fun e => by have := hs k e; omega⟩
theorem Turn.cell (h : Turn S w w') {p : Addr} (hp : p.block < w.heap.size) (hn : ¬ S p.block) : w'.cell? p = w.cell? p := by
  have := h.block p.block hp hn
  simp [World.cell?, this]
end

/-! rows of mounts -/
def Mt.cs (m : Mt) : List Value := [.int .i64 m.root, .int .i64 m.cov, .int .i64 m.q.b, .int .i64 m.q.n, .int .i64 m.q.mb, .int .i64 m.q.mn]
theorem cs_len (m : Mt) : m.cs.length = 6 := rfl
theorem cs_one (m : Mt) : ∀ v ∈ m.cs, v.oneCell' = true := by
  intro v hv
  simp only [Mt.cs, List.mem_cons, List.not_mem_nil, or_false] at hv
  rcases hv with rfl | rfl | rfl | rfl | rfl | rfl <;> rfl
def flat (ds : List Mt) : List Value := ds.flatMap Mt.cs
theorem flat_len (ds : List Mt) : (flat ds).length = ds.length * 6 := by
  induction ds with
  | nil => rfl
  | cons x r ih => simp only [flat, List.flatMap_cons, List.length_append, List.length_cons] at ih ⊢; rw [ih, cs_len]; omega
theorem flat_snoc (ds : List Mt) (m : Mt) : flat (ds ++ [m]) = flat ds ++ m.cs := by simp [flat]
theorem flat_at : ∀ (ds : List Mt) (k : Nat) (m : Mt) (j : Nat), ds[k]? = some m → j < 6 → (flat ds)[k * 6 + j]? = m.cs[j]?
  | [], k, x, j, h, _ => by simp at h
  | y :: ls, 0, x, j, h, hj => by
    simp at h; subst h
    simp only [flat, List.flatMap_cons, Nat.zero_mul, Nat.zero_add]
    rw [List.getElem?_append_left (by rw [cs_len]; exact hj)]
  | y :: ls, k + 1, x, j, h, hj => by
    have h' : ls[k]? = some x := by simpa using h
    have e := flat_at ls k x j h' hj
    simp only [flat, List.flatMap_cons] at e ⊢
    rw [List.getElem?_append_right (by rw [cs_len]; omega), cs_len, show (k + 1) * 6 + j - 6 = k * 6 + j by omega]
    exact e
theorem flat_one (ds : List Mt) : ∀ u ∈ flat ds, u.oneCell' = true := by
  intro u hu
  obtain ⟨x, _, hm⟩ := List.mem_flatMap.1 hu
  exact cs_one x u hm
/-- the six cells of a mount at a place -/
def MtAt (g o : Nat) (m : Mt) (w : World) : Prop := w.cell? ⟨g, o, none⟩ = some (.int .i64 m.root) ∧ w.cell? ⟨g, o + 1, none⟩ = some (.int .i64 m.cov) ∧ w.cell? ⟨g, o + 2, none⟩ = some (.int .i64 m.q.b) ∧
  w.cell? ⟨g, o + 3, none⟩ = some (.int .i64 m.q.n) ∧ w.cell? ⟨g, o + 4, none⟩ = some (.int .i64 m.q.mb) ∧ w.cell? ⟨g, o + 5, none⟩ = some (.int .i64 m.q.mn)
theorem MtAt.lt {g o : Nat} {m : Mt} {w : World} (h : MtAt g o m w) : g < w.heap.size := World.block_lt_of_cell? _ _ h.1
theorem MtAt.same {g o : Nat} {m : Mt} {w w' : World} (h : MtAt g o m w) (hb : w'.heap[g]? = w.heap[g]?) : MtAt g o m w' := by
  have c : ∀ i, w'.cell? ⟨g, i, none⟩ = w.cell? ⟨g, i, none⟩ := fun i => by simp [World.cell?, hb]
  obtain ⟨h0, h1, h2, h3, h4, h5⟩ := h
  exact ⟨(c _).trans h0, (c _).trans h1, (c _).trans h2, (c _).trans h3, (c _).trans h4, (c _).trans h5⟩
theorem MtAt.below {g o : Nat} {m : Mt} {w w' : World} (h : MtAt g o m w) (hb : Below w.heap.size w w') : MtAt g o m w' := h.same (hb.block g h.lt)
/-- the slice v holds these mounts, in memory of the call's own, as structs of the type t -/
def MRow (B : Nat) (t : TypeId) (v : Value) (ds : List Mt) (w : World) : Prop := w.ownsRow B t 6 v ds.length (flat ds)
section
variable {B : Nat} {t : TypeId} {v : Value} {ds : List Mt} {w w' : World}
theorem MRow.nil (B : Nat) (t : TypeId) (w : World) : MRow B t (.slice none 0 0) [] w := World.ownsRow_nil _ _ _ _
theorem MRow.forms (h : MRow B t v ds w) : (v = .slice none 0 0 ∧ ds = []) ∨ ∃ g cap cur, v = .slice (some ⟨g, 0, none⟩) ds.length cap ∧ B ≤ g ∧ w.heap[g]? = some (.cells cur t (0, 0)) ∧ ds.length ≤ cap ∧ cap ≤ maxLen := by
  rcases h.2 with ⟨h1, h2⟩ | ⟨g, cap, cur, h1, h2, h3, h4, h5, _⟩
  · exact .inl ⟨h1, List.eq_nil_of_length_eq_zero h2⟩
  · exact .inr ⟨g, cap, cur, h1, h2, h3, h4, h5⟩
theorem MRow.slice (h : MRow B t v ds w) : ∃ oa cap, v = .slice oa ds.length cap := by
  rcases h.forms with ⟨rfl, rfl⟩ | ⟨g, cap, _, rfl, _⟩
  · exact ⟨_, _, rfl⟩
  · exact ⟨_, _, rfl⟩
theorem MRow.same (h : MRow B t v ds w) (hk : ∀ g, v.ownBlock = some g → w'.heap[g]? = w.heap[g]?) : MRow B t v ds w' := by
  refine ⟨h.1, h.2.imp id ?_⟩
  rintro ⟨g, cap, cur, rfl, h2, h3, h4⟩
  exact ⟨g, cap, cur, rfl, h2, (hk g rfl).trans h3, h4⟩
theorem MRow.block (h : MRow B t v ds w) {g : Nat} (hg : v.ownBlock = some g) : B ≤ g ∧ ∃ cur, w.heap[g]? = some (.cells cur t (0, 0)) := by
  rcases h.forms with ⟨rfl, _⟩ | ⟨g', cap, cur, rfl, h2, h3, _⟩
  · cases hg
  · cases hg; exact ⟨h2, cur, h3⟩
theorem MRow.lt (h : MRow B t v ds w) {g : Nat} (hg : v.ownBlock = some g) : g < w.heap.size := by
  obtain ⟨_, cur, h3⟩ := h.block hg
  exact (Array.getElem?_eq_some_iff.1 h3).1
theorem MRow.below (h : MRow B t v ds w) (hb : Below w.heap.size w w') : MRow B t v ds w' := h.same fun _ hg => hb.block _ (h.lt hg)
theorem MRow.at (h : MRow B t v ds w) {k : Nat} {m : Mt} (hk : ds[k]? = some m) : ∃ g cap, v = .slice (some ⟨g, 0, none⟩) ds.length cap ∧ MtAt g (k * 6) m w := by
  have hlt : k < ds.length := (List.getElem?_eq_some_iff.1 hk).1
  rcases h.forms with ⟨rfl, rfl⟩ | ⟨g, cap, _, rfl, _⟩
  · simp at hlt
  · have c : ∀ j, j < 6 → w.cell? ⟨g, k * 6 + j, none⟩ = m.cs[j]? := fun j hj => by
      rw [World.ownsRow.cellAt h (k * 6 + j) (by omega)]
      exact flat_at ds k m j hk hj
    exact ⟨g, cap, rfl, c 0 (by decide), c 1 (by decide), c 2 (by decide), c 3 (by decide), c 4 (by decide), c 5 (by decide)⟩
theorem MRow.snoc {m : Mt} (h : w.ownsRow B t 6 v (ds.length + 1) (flat ds ++ m.cs)) : MRow B t v (ds ++ [m]) w := by
  unfold MRow; rw [flat_snoc, List.length_append]; exact h
end

/-! the program's world -/
def wS (X A M : Nat) (mv : Value) (k : Nat) : Prop := k = X ∨ k = A ∨ k = M ∨ mv.ownBlock = some k
/-- X points at a world, its table at A (the map in M), its mounts in the slice mv -/
structure Wd (B X A M : Nat) (mv : Value) (st : St) (w : World) : Prop where
  bx : B ≤ X
  head : w.heap[X]? = some (.cells #[.pointer (some ⟨A, 0, none⟩), mv] 60 (0, 0))
  rows : MRow B 126 mv st.d w
  tab : ∃ l : T.Row, l.map Prod.fst = st.n ∧ T.Tab B A M st.last l w
section
variable {B X A M : Nat} {mv : Value} {st : St} {w w' : World}
theorem Wd.ltX (h : Wd B X A M mv st w) : X < w.heap.size := (Array.getElem?_eq_some_iff.1 h.head).1
theorem Wd.facts (h : Wd B X A M mv st w) : w.cell? ⟨X, 0, none⟩ = some (.pointer (some ⟨A, 0, none⟩)) ∧ w.cell? ⟨X, 1, none⟩ = some mv ∧ w.frozen? ⟨X, 0, none⟩ = false ∧ w.frozen? ⟨X, 1, none⟩ = false :=
  ⟨by rw [Lib.cell_of_heap h.head]; rfl, by rw [Lib.cell_of_heap h.head]; rfl, Lib.frozen_of_heap h.head 0, Lib.frozen_of_heap h.head 1⟩
theorem Wd.stays (h : Wd B X A M mv st w) (hk : ∀ k, wS X A M mv k → w'.heap[k]? = w.heap[k]?) (hE : T.EntKept w w') : Wd B X A M mv st w' := by
  obtain ⟨l, h1, h2⟩ := h.tab
  exact ⟨h.bx, (hk X (.inl rfl)).trans h.head, h.rows.same fun g hg => hk g (.inr (.inr (.inr hg))), l, h1, h2.stays (hk A (.inr (.inl rfl))) (hk M (.inr (.inr (.inl rfl)))) hE⟩
theorem Wd.lt (h : Wd B X A M mv st w) {k : Nat} (hk : wS X A M mv k) : k < w.heap.size := by
  obtain ⟨l, _, h2⟩ := h.tab
  rcases hk with rfl | rfl | rfl | hk
  · exact h.ltX
  · exact h2.ltT
  · exact h2.ltM
  · exact h.rows.lt hk
theorem Wd.ge (h : Wd B X A M mv st w) {k : Nat} (hk : wS X A M mv k) : B ≤ k := by
  obtain ⟨l, _, h2⟩ := h.tab
  rcases hk with rfl | rfl | rfl | hk
  · exact h.bx
  · exact h2.bt
  · exact h2.bm
  · exact (h.rows.block hk).1
theorem Wd.below (h : Wd B X A M mv st w) (hb : Below w.heap.size w w') : Wd B X A M mv st w' := h.stays (fun k hk => hb.block k (h.lt hk)) (T.EntKept.below hb)
theorem Wd.alloc (h : Wd B X A M mv st w) (o : Obj) : Wd B X A M mv st (w.alloc o) := h.below ((Below.refl _ _).alloc (Nat.le_refl _) o)
theorem Wd.drew (h : Wd B X A M mv st w) : Wd B X A M mv st w.drew := h.below ((Below.refl _ _).drew)
theorem Wd.ofTurn (h : Wd B X A M mv st w) (ht : Turn (wS X A M mv) w w') (hB : B ≤ w.heap.size) : Below B w w' := ht.below hB fun _ hk => h.ge hk
/-- a block that is none of the world's: told by its type -/
theorem Wd.not (h : Wd B X A M mv st w) {b : Nat} {cs : Array Value} {t : TypeId} {p : Nat × Nat} (hb : w.heap[b]? = some (.cells cs t p)) (h1 : t ≠ 60) (h2 : t ≠ 119) (h3 : t ≠ 126) : ¬ wS X A M mv b := by
  obtain ⟨l, _, hT⟩ := h.tab
  rintro (rfl | rfl | rfl | hk)
  · exact ne_type hb h.head h1 rfl
  · exact ne_type hb hT.head h2 rfl
  · obtain ⟨es, clock, hm, _⟩ := hT.map
    exact ne_map hb hm rfl
  · obtain ⟨_, cur, hc⟩ := h.rows.block hk
    exact ne_type hb hc h3 rfl
theorem Wd.entKept (h : Wd B X A M mv st w) (ht : Turn (wS X A M mv) w w') : T.EntKept w w' := fun g cur hg =>
  (ht.block g (Array.getElem?_eq_some_iff.1 hg).1 (h.not hg (by decide) (by decide) (by decide))).trans hg
end

/-! the reference's -/
def fS (F : Nat) (nv dv : Value) (k : Nat) : Prop := k = F ∨ nv.ownBlock = some k ∨ dv.ownBlock = some k
/-- the reference's further fields -/
structure Ext where
  now : Int
  cnt : Int
  plan : Value
  dead : Bool
def ex0 : Ext := ⟨0, 0, .slice none 0 0, false⟩
structure Fs (ex : Ext) (B F : Nat) (nv dv : Value) (st : St) (w : World) : Prop where
  bf : B ≤ F
  head : w.heap[F]? = some (.cells #[nv, dv, .int .i64 st.last, .int .i64 ex.now, .int .i64 ex.cnt, ex.plan, .bool ex.dead] 37 (0, 0))
  nodes : ∃ l : T.Row, l.map Prod.fst = st.n ∧ T.RowOwn B nv l w ∧ ∀ p ∈ l, E.Own B p.2 p.1.es w
  devs : MRow B 112 dv (raw st.d) w
theorem row_block {B : Nat} {v : Value} {l : T.Row} {w : World} (h : T.RowOwn B v l w) {g : Nat} (hg : v.ownBlock = some g) : B ≤ g ∧ ∃ cur, w.heap[g]? = some (.cells cur 48 (0, 0)) := by
  rcases h.2 with ⟨rfl, _⟩ | ⟨g', cap, cur, rfl, h2, h3, _⟩
  · cases hg
  · cases hg; exact ⟨h2, cur, h3⟩
theorem row_same {B : Nat} {v : Value} {l : T.Row} {w w' : World} (h : T.RowOwn B v l w) (hk : ∀ g, v.ownBlock = some g → w'.heap[g]? = w.heap[g]?) : T.RowOwn B v l w' := by
  refine ⟨h.1, h.2.imp id ?_⟩
  rintro ⟨g, cap, cur, rfl, h2, h3, h4⟩
  exact ⟨g, cap, cur, rfl, h2, (hk g rfl).trans h3, h4⟩
section
variable {B F : Nat} {ex : Ext} {nv dv : Value} {st : St} {w w' : World}
theorem Fs.ltF (h : Fs ex B F nv dv st w) : F < w.heap.size := (Array.getElem?_eq_some_iff.1 h.head).1
theorem Fs.facts (h : Fs ex B F nv dv st w) : w.cell? ⟨F, 0, none⟩ = some nv ∧ w.cell? ⟨F, 1, none⟩ = some dv ∧ w.cell? ⟨F, 2, none⟩ = some (.int .i64 st.last) ∧ w.frozen? ⟨F, 0, none⟩ = false ∧ w.frozen? ⟨F, 1, none⟩ = false ∧ w.frozen? ⟨F, 2, none⟩ = false :=
  ⟨by rw [Lib.cell_of_heap h.head]; rfl, by rw [Lib.cell_of_heap h.head]; rfl, by rw [Lib.cell_of_heap h.head]; rfl, Lib.frozen_of_heap h.head 0, Lib.frozen_of_heap h.head 1, Lib.frozen_of_heap h.head 2⟩
theorem Fs.stays (h : Fs ex B F nv dv st w) (hk : ∀ k, fS F nv dv k → w'.heap[k]? = w.heap[k]?) (hE : T.EntKept w w') : Fs ex B F nv dv st w' := by
  obtain ⟨l, h1, h2, h3⟩ := h.nodes
  exact ⟨h.bf, (hk F (.inl rfl)).trans h.head, ⟨l, h1, row_same h2 fun g hg => hk g (.inr (.inl hg)), fun p hp => T.own_kept (h3 p hp) hE⟩, h.devs.same fun g hg => hk g (.inr (.inr hg))⟩
theorem Fs.lt (h : Fs ex B F nv dv st w) {k : Nat} (hk : fS F nv dv k) : k < w.heap.size := by
  obtain ⟨l, _, h2, _⟩ := h.nodes
  rcases hk with rfl | hk | hk
  · exact h.ltF
  · obtain ⟨_, cur, hc⟩ := row_block h2 hk
    exact (Array.getElem?_eq_some_iff.1 hc).1
  · exact h.devs.lt hk
theorem Fs.ge (h : Fs ex B F nv dv st w) {k : Nat} (hk : fS F nv dv k) : B ≤ k := by
  obtain ⟨l, _, h2, _⟩ := h.nodes
  rcases hk with rfl | hk | hk
  · exact h.bf
  · exact (row_block h2 hk).1
  · exact (h.devs.block hk).1
theorem Fs.below (h : Fs ex B F nv dv st w) (hb : Below w.heap.size w w') : Fs ex B F nv dv st w' := h.stays (fun k hk => hb.block k (h.lt hk)) (T.EntKept.below hb)
theorem Fs.alloc (h : Fs ex B F nv dv st w) (o : Obj) : Fs ex B F nv dv st (w.alloc o) := h.below ((Below.refl _ _).alloc (Nat.le_refl _) o)
theorem Fs.drew (h : Fs ex B F nv dv st w) : Fs ex B F nv dv st w.drew := h.below ((Below.refl _ _).drew)
theorem Fs.ofTurn (h : Fs ex B F nv dv st w) (ht : Turn (fS F nv dv) w w') (hB : B ≤ w.heap.size) : Below B w w' := ht.below hB fun _ hk => h.ge hk
theorem Fs.not (h : Fs ex B F nv dv st w) {b : Nat} {cs : Array Value} {t : TypeId} {p : Nat × Nat} (hb : w.heap[b]? = some (.cells cs t p)) (h1 : t ≠ 37) (h2 : t ≠ 48) (h3 : t ≠ 112) : ¬ fS F nv dv b := by
  obtain ⟨l, _, hN, _⟩ := h.nodes
  rintro (rfl | hk | hk)
  · exact ne_type hb h.head h1 rfl
  · obtain ⟨_, cur, hc⟩ := row_block hN hk
    exact ne_type hb hc h2 rfl
  · obtain ⟨_, cur, hc⟩ := h.devs.block hk
    exact ne_type hb hc h3 rfl
theorem Fs.notMap (h : Fs ex B F nv dv st w) {b : Nat} {es : Array MapEntry} {c : Nat} (hb : w.heap[b]? = some (.map es c)) : ¬ fS F nv dv b := by
  obtain ⟨l, _, hN, _⟩ := h.nodes
  rintro (rfl | hk | hk)
  · exact ne_map h.head hb rfl
  · obtain ⟨_, cur, hc⟩ := row_block hN hk
    exact ne_map hc hb rfl
  · obtain ⟨_, cur, hc⟩ := h.devs.block hk
    exact ne_map hc hb rfl
theorem Fs.entKept (h : Fs ex B F nv dv st w) (ht : Turn (fS F nv dv) w w') : T.EntKept w w' := fun g cur hg =>
  (ht.block g (Array.getElem?_eq_some_iff.1 hg).1 (h.not hg (by decide) (by decide) (by decide))).trans hg
/-- the reference stays where the program's world turns, and the other way round -/
theorem Fs.beside (h : Fs ex B F nv dv st w) {B' X A M : Nat} {mv : Value} {st' : St} (hW : Wd B' X A M mv st' w) (ht : Turn (wS X A M mv) w w') : Fs ex B F nv dv st w' := by
  refine h.stays (fun k hk => ht.block k (h.lt hk) ?_) (hW.entKept ht)
  obtain ⟨l, _, hN, _⟩ := h.nodes
  rcases hk with rfl | hk | hk
  · exact hW.not h.head (by decide) (by decide) (by decide)
  · obtain ⟨_, cur, hc⟩ := row_block hN hk
    exact hW.not hc (by decide) (by decide) (by decide)
  · obtain ⟨_, cur, hc⟩ := h.devs.block hk
    exact hW.not hc (by decide) (by decide) (by decide)
theorem Wd.beside {B' X A M : Nat} {mv : Value} {st' : St} (hW : Wd B' X A M mv st' w) (h : Fs ex B F nv dv st w) (ht : Turn (fS F nv dv) w w') : Wd B' X A M mv st' w' := by
  refine hW.stays (fun k hk => ht.block k (hW.lt hk) ?_) (h.entKept ht)
  obtain ⟨l, _, hT⟩ := hW.tab
  rcases hk with rfl | rfl | rfl | hk
  · exact h.not hW.head (by decide) (by decide) (by decide)
  · exact h.not hT.head (by decide) (by decide) (by decide)
  · obtain ⟨es, clock, hm, _⟩ := hT.map
    exact h.notMap hm
  · obtain ⟨_, cur, hc⟩ := hW.rows.block hk
    exact h.not hc (by decide) (by decide) (by decide)
end
end Go.Proofs.YtenopnfclbegbaaGreat.G
/-
  What the program's calls that only read answer: parts, Devs, part, Root, Over, under, isRoot, node, directory, Use, blocksOf.
-/
namespace Go.Proofs.YtenopnfclbegbaaGreat.G
open Go.RowKit Go.Shelf Go.Maps

theorem seek_take {α : Type} (p : α → Bool) {l : List α} {k : Nat} {x : α} (hx : l[k]? = some x) (hb : ∀ y ∈ l.take k, p y = false) : (p x = true → l.find? p = some x) ∧ (p x = false → ∀ y ∈ l.take (k + 1), p y = false) := by
  obtain ⟨hl, he⟩ := List.getElem?_eq_some_iff.1 hx
  constructor
  · intro h
    have e : l = l.take k ++ (x :: l.drop (k + 1)) := by
      rw [← he, ← List.drop_eq_getElem_cons hl, List.take_append_drop]
    rw [e, List.find?_append, List.find?_eq_none.2 (fun y hy => by rw [hb y hy]; simp), List.find?_cons, h]
    rfl
  · intro h y hy
    rw [List.take_succ_eq_append_getElem hl, he] at hy
    rcases List.mem_append.1 hy with hy | hy
    · exact hb y hy
    · obtain rfl := List.mem_singleton.1 hy
      exact h
theorem seek_end {α : Type} (p : α → Bool) {l : List α} (hb : ∀ y ∈ l, p y = false) : l.find? p = none := List.find?_eq_none.2 fun y hy => by rw [hb y hy]; simp

section
variable {B X A M : Nat} {mv : Value} {st : St} {w : World}
theorem parts_any (h : Wd B X A M mv st w) : Calls Tryz.prog 90 #[.pointer (some ⟨X, 0, none⟩)] w fun e w' => e = .returned mv ∧ w = w' := by
  have c1 := h.facts.2.1
  clear h
  go_enter Tryz.func90, Tryz.ntmps90
  go_wp2
  go_ret
  exact ⟨rfl, rfl⟩
theorem Devs_any (h : Wd B X A M mv st w) : Calls Tryz.prog 59 #[.pointer (some ⟨X, 0, none⟩)] w fun e w' => e = .returned (.int .i64 st.d.length) ∧ w = w' := by
  have c1 := parts_any h
  obtain ⟨oa, cap, rfl⟩ := h.rows.slice
  clear h
  go_enter Tryz.func59, Tryz.ntmps59
  go_wp2_with (refine c1.mono ?_; rintro e w1 ⟨rfl, rfl⟩)
  go_ret
  exact ⟨rfl, rfl⟩
theorem Wd.len (h : Wd B X A M mv st w) : st.d.length ≤ 9223372036854775807 := by
  rcases h.rows.forms with ⟨_, e⟩ | ⟨_, _, _, _, _, _, h1, h2⟩
  · rw [e]; decide
  · unfold maxLen at h2; omega
theorem part_none (h : Wd B X A M mv st w) (k : Int) (hk : mt st.d k = none) : Calls Tryz.prog 78 #[.pointer (some ⟨X, 0, none⟩), .int .i64 k] w fun e w' => e = .returned (.pointer none) ∧ w = w' := by
  have c1 := parts_any h
  have hl := h.len
  obtain ⟨oa, cap, rfl⟩ := h.rows.slice
  clear h
  have hn : k < 1 ∨ (st.d.length : Int) < k := by
    by_cases h1 : 1 ≤ k
    · by_cases h2 : k ≤ st.d.length
      · obtain ⟨m, hm⟩ := mt_in h1 h2
        rw [hm] at hk; cases hk
      · omega
    · omega
  clear hk
  generalize st.d.length = n at *
  by_cases h1 : k < 1
  · go_enter Tryz.func78, Tryz.ntmps78
    go_wp2_with (refine c1.mono ?_; rintro e w1 ⟨rfl, rfl⟩)
    go_ret
    exact ⟨rfl, rfl⟩
  · have h2 : (n : Int) < k := by omega
    clear hn
    go_enter Tryz.func78, Tryz.ntmps78
    go_wp2_with (refine c1.mono ?_; rintro e w1 ⟨rfl, rfl⟩)
    go_ret
    exact ⟨rfl, rfl⟩
theorem part_some (h : Wd B X A M mv st w) {i : Nat} {m : Mt} (hk : st.d[i]? = some m) {g cap : Nat} (hg : mv = .slice (some ⟨g, 0, none⟩) st.d.length cap) :
    Calls Tryz.prog 78 #[.pointer (some ⟨X, 0, none⟩), .int .i64 ((i : Int) + 1)] w fun e w' => e = .returned (.pointer (some ⟨g, i * 6, none⟩)) ∧ w = w' := by
  have c1 := parts_any h
  have hl := h.len
  subst hg
  have hi : i < st.d.length := (List.getElem?_eq_some_iff.1 hk).1
  clear h hk
  generalize st.d.length = n at *
  obtain ⟨k, hk⟩ : ∃ k : Int, (i : Int) + 1 = k := ⟨_, rfl⟩
  rw [hk]
  have h1 : ¬ k < 1 := by omega
  have h2 : ¬ (n : Int) < k := by omega
  have h3 : k - 1 = (i : Int) := by omega
  have h4 : (i : Int) < n := by omega
  clear hk
  go_enter Tryz.func78, Tryz.ntmps78
  go_wp2_with (refine c1.mono ?_; rintro e w1 ⟨rfl, rfl⟩)
  go_ret
  exact ⟨rfl, rfl⟩
theorem Root_any (h : Wd B X A M mv st w) (k : Int) : Calls Tryz.prog 61 #[.pointer (some ⟨X, 0, none⟩), .int .i64 k] w fun e w' => e = .returned (.int .i64 (rootOf st.d k)) ∧ w = w' := by
  cases hm : mt st.d k with
  | none =>
    have c1 := part_none h k hm
    have e : rootOf st.d k = 0 := by unfold rootOf; rw [hm]
    rw [e]
    clear h hm e
    go_enter Tryz.func61, Tryz.ntmps61
    go_wp2_with (refine c1.mono ?_; rintro e w1 ⟨rfl, rfl⟩)
    go_ret
    exact ⟨rfl, rfl⟩
  | some m =>
    obtain ⟨h1, h2, h3⟩ := mt_some hm
    obtain ⟨i, hi⟩ : ∃ i, (k - 1).toNat = i := ⟨_, rfl⟩
    rw [hi] at h3
    obtain ⟨g, cap, hg, hat⟩ := h.rows.at h3
    have c1 := part_some h h3 hg
    rw [show (i : Int) + 1 = k by omega] at c1
    have e : rootOf st.d k = m.root := by unfold rootOf; rw [hm]
    rw [e]
    have c0 := hat.1
    clear h hm e h1 h2 h3 hi hat
    go_enter Tryz.func61, Tryz.ntmps61
    go_wp2_with (refine c1.mono ?_; rintro e w1 ⟨rfl, rfl⟩)
    go_ret
    exact ⟨rfl, rfl⟩
end
end Go.Proofs.YtenopnfclbegbaaGreat.G
/-
  Over, under, isRoot.
-/
namespace Go.Proofs.YtenopnfclbegbaaGreat.G
open Go.RowKit Go.Shelf

section
variable {B X A M : Nat} {mv : Value} {st : St} {w : World}
set_option maxRecDepth 100000 in
set_option maxHeartbeats 4000000 in
theorem Over_any (h : Wd B X A M mv st w) (no : Int) : Calls Tryz.prog 66 #[.pointer (some ⟨X, 0, none⟩), .int .i64 no] w fun e w' => e = .returned (.int .i64 (over st.d no)) ∧ Below w.heap.size w w' := by
  have c1 := parts_any h
  have hl := h.len
  have hr := h.rows
  obtain ⟨oa, cap, rfl⟩ := h.rows.slice
  clear h
  generalize st.d = ds at *
  have HR := Lib.hid hr
  clear hr
  go_enter Tryz.func66, Tryz.ntmps66
  go_wp2_with (refine c1.mono ?_; rintro e w1 ⟨rfl, rfl⟩)
  clear c1
  go_loopw [10] (fun i wr => ∃ k : Nat, k ≤ ds.length ∧ i = .int .i64 k ∧ (∀ y ∈ ds.take k, decide (y.cov = no) = false) ∧ Below w.heap.size w wr) (fun i _ => ds.length - (RowKit.intOf i).toNat)
  case atStart => exact ⟨0, Nat.zero_le _, rfl, fun y hy => by simp at hy, Below.refl _ _⟩
  case round =>
    obtain ⟨k, hk, rfl, hno, hb⟩ := hrel
    have HB := Lib.hid hno
    clear hno
    by_cases hlt : k < ds.length
    · obtain ⟨x, hx⟩ : ∃ x, ds[k]? = some x := ⟨_, List.getElem?_eq_getElem hlt⟩
      obtain ⟨g, cap', he, hat⟩ := HR.out.at hx
      cases he
      have hat' := hat.below hb
      obtain ⟨c0, c1, c2, c3, c4, c5⟩ := hat'
      have HF := Lib.hid (seek_take (fun m : Mt => decide (m.cov = no)) hx HB.out)
      have HB2 := Lib.hid (hb.alloc (o := .cells #[.int .i64 x.root, .int .i64 x.cov, .int .i64 x.q.b, .int .i64 x.q.n, .int .i64 x.q.mb, .int .i64 x.q.mn] 126) hb.size)
      clear hx hat
      by_cases hn : x.cov = no
      · have HN := Lib.hid (HF.out.1 (by simpa using hn))
        subst hn
        clear HF
        go_wp2
        go_ret
        exact ⟨by unfold over; rw [HN.out]; rfl, HB2.out⟩
      · have HN := Lib.hid (HF.out.2 (by simpa using hn))
        have hn' : (x.cov == no) = false := by simpa using hn
        clear HF hn
        go_wp2
        go_roundw
        case rel => exact ⟨k + 1, by omega, by go_num, HN.out, HB2.out⟩
        case measure => simp [RowKit.intOf]; omega
    · have HE := Lib.hid (seek_end (fun m : Mt => decide (m.cov = no)) (l := ds) (by have := HB.out; rwa [List.take_of_length_le (by omega)] at this))
      go_wp2
      go_ret
      exact ⟨by unfold over; rw [HE.out]; rfl, hb⟩
set_option maxRecDepth 100000 in
set_option maxHeartbeats 4000000 in
theorem under_any (h : Wd B X A M mv st w) (no : Int) : Calls Tryz.prog 96 #[.pointer (some ⟨X, 0, none⟩), .int .i64 no] w fun e w' => e = .returned (.int .i64 (under st.d no)) ∧ Below w.heap.size w w' := by
  have c1 := parts_any h
  have hl := h.len
  have hr := h.rows
  obtain ⟨oa, cap, rfl⟩ := h.rows.slice
  clear h
  generalize st.d = ds at *
  have HR := Lib.hid hr
  clear hr
  go_enter Tryz.func96, Tryz.ntmps96
  go_wp2_with (refine c1.mono ?_; rintro e w1 ⟨rfl, rfl⟩)
  clear c1
  go_loopw [10] (fun i wr => ∃ k : Nat, k ≤ ds.length ∧ i = .int .i64 k ∧ (∀ y ∈ ds.take k, decide (y.root = no) = false) ∧ Below w.heap.size w wr) (fun i _ => ds.length - (RowKit.intOf i).toNat)
  case atStart => exact ⟨0, Nat.zero_le _, rfl, fun y hy => by simp at hy, Below.refl _ _⟩
  case round =>
    obtain ⟨k, hk, rfl, hno, hb⟩ := hrel
    have HB := Lib.hid hno
    clear hno
    by_cases hlt : k < ds.length
    · obtain ⟨x, hx⟩ : ∃ x, ds[k]? = some x := ⟨_, List.getElem?_eq_getElem hlt⟩
      obtain ⟨g, cap', he, hat⟩ := HR.out.at hx
      cases he
      have hat' := hat.below hb
      obtain ⟨c0, c1, c2, c3, c4, c5⟩ := hat'
      have HF := Lib.hid (seek_take (fun m : Mt => decide (m.root = no)) hx HB.out)
      have HB2 := Lib.hid (hb.alloc (o := .cells #[.int .i64 x.root, .int .i64 x.cov, .int .i64 x.q.b, .int .i64 x.q.n, .int .i64 x.q.mb, .int .i64 x.q.mn] 126) hb.size)
      clear hx hat
      by_cases hn : x.root = no
      · have HN := Lib.hid (HF.out.1 (by simpa using hn))
        subst hn
        clear HF
        go_wp2
        go_ret
        exact ⟨by unfold under; rw [HN.out]; rfl, HB2.out⟩
      · have HN := Lib.hid (HF.out.2 (by simpa using hn))
        have hn' : (x.root == no) = false := by simpa using hn
        clear HF hn
        go_wp2
        go_roundw
        case rel => exact ⟨k + 1, by omega, by go_num, HN.out, HB2.out⟩
        case measure => simp [RowKit.intOf]; omega
    · have HE := Lib.hid (seek_end (fun m : Mt => decide (m.root = no)) (l := ds) (by have := HB.out; rwa [List.take_of_length_le (by omega)] at this))
      go_wp2
      go_ret
      exact ⟨by unfold under; rw [HE.out]; rfl, hb⟩
end

/-- the closure of isRoot -/
theorem root1_any (m : Mt) (no : Int) (b : Nat) (w : World) (hb : w.cell? ⟨b, 0, none⟩ = some (.int .i64 no)) :
    Calls Tryz.prog 104 #[.agg #[.int .i64 m.root, .int .i64 m.cov, .int .i64 m.q.b, .int .i64 m.q.n, .int .i64 m.q.mb, .int .i64 m.q.mn], .pointer (some ⟨b, 0, none⟩)] w fun e w' => e = .returned (.bool (decide (m.root = no))) ∧ Below w.heap.size w w' := by
  have hlt := World.block_lt_of_cell? _ _ hb
  have hd : (m.root == no) = decide (m.root = no) := by by_cases e : m.root = no <;> simp [e]
  have hB : Below w.heap.size w (w.alloc (.cells #[.int .i64 m.root, .int .i64 m.cov, .int .i64 m.q.b, .int .i64 m.q.n, .int .i64 m.q.mb, .int .i64 m.q.mn] 126)) := (Below.refl _ _).alloc (Nat.le_refl _) _
  generalize decide (m.root = no) = z at hd ⊢
  go_enter Tryz.func104, Tryz.ntmps104
  go_wp2
  go_ret
  refine ⟨?_, hB⟩
  rw [← hd]; rfl
set_option maxRecDepth 100000 in
set_option maxHeartbeats 4000000 in
theorem index_any {B : Nat} {v : Value} {ds : List Mt} {w : World} (hR : MRow B 126 v ds w) (hl : ds.length ≤ 1000000) (no : Int) (b : Nat) (hb0 : w.cell? ⟨b, 0, none⟩ = some (.int .i64 no)) :
    Calls Tryz.prog 121 #[v, .func (.func 104) #[] #[.pointer (some ⟨b, 0, none⟩)]] w fun e w' => (∃ z : Int, e = .returned (.int .i64 z) ∧ decide (0 ≤ z) = isRoot ds no) ∧ Below w.heap.size w w' := by
  have HR := Lib.hid hR
  have hlb := World.block_lt_of_cell? _ _ hb0
  obtain ⟨oa, cap, rfl⟩ := hR.slice
  clear hR
  go_enter Tryz.func121, Tryz.ntmps121
  go_wp2
  go_loopw [8] (fun i wr => ∃ k : Nat, k ≤ ds.length ∧ i = .int .i64 k ∧ (∀ y ∈ ds.take k, decide (y.root = no) = false) ∧ Below w.heap.size w wr) (fun i _ => ds.length - (RowKit.intOf i).toNat)
  case atStart => exact ⟨0, Nat.zero_le _, rfl, fun y hy => by simp at hy, Below.refl _ _⟩
  case round =>
    obtain ⟨k, hk, rfl, hno, hb⟩ := hrel
    have HB := Lib.hid hno
    clear hno
    by_cases hlt : k < ds.length
    · obtain ⟨x, hx⟩ : ∃ x, ds[k]? = some x := ⟨_, List.getElem?_eq_getElem hlt⟩
      obtain ⟨g, cap', he, hat⟩ := HR.out.at hx
      cases he
      have hat' := hat.below hb
      obtain ⟨c0, c1, c2, c3, c4, c5⟩ := hat'
      have HF := Lib.hid (seek_take (fun m : Mt => decide (m.root = no)) hx HB.out)
      have cr := root1_any x no b wr ((hb.cell (p := ⟨b, 0, none⟩) hlb).trans hb0)
      have HX := Lib.hid hx
      clear hx hat
      by_cases hn : x.root = no
      · rw [show decide (x.root = no) = true by simpa using hn] at cr
        have HN := Lib.hid hn
        clear HF hn
        go_wp2_with (go_at_call 104; refine cr.mono ?_; rintro e w2 ⟨rfl, hb2⟩)
        go_ret
        refine ⟨⟨k, rfl, ?_⟩, below_two hb hb2⟩
        have h1 : isRoot ds no = true := List.any_eq_true.2 ⟨x, List.mem_of_getElem? HX.out, by simpa using HN.out⟩
        rw [h1]; simp
      · rw [show decide (x.root = no) = false by simpa using hn] at cr
        have HN := Lib.hid (HF.out.2 (by simpa using hn))
        clear HF hn
        go_wp2_with (go_at_call 104; refine cr.mono ?_; rintro e w2 ⟨rfl, hb2⟩)
        go_roundw
        case rel => exact ⟨k + 1, by omega, by go_num, HN.out, below_two hb hb2⟩
        case measure => simp [RowKit.intOf]; omega
    · have HE : Hid (isRoot ds no = false) := Lib.hid (by
        have := HB.out
        rw [List.take_of_length_le (by omega)] at this
        exact List.any_eq_false.2 fun y hy => by rw [this y hy]; simp)
      go_wp2
      go_ret
      exact ⟨⟨-1, rfl, by rw [HE.out]; rfl⟩, hb⟩
theorem contains_any {B : Nat} {v : Value} {ds : List Mt} {w : World} (hR : MRow B 126 v ds w) (hl : ds.length ≤ 1000000) (no : Int) (b : Nat) (hb0 : w.cell? ⟨b, 0, none⟩ = some (.int .i64 no)) :
    Calls Tryz.prog 103 #[v, .func (.func 104) #[] #[.pointer (some ⟨b, 0, none⟩)]] w fun e w' => e = .returned (.bool (isRoot ds no)) ∧ Below w.heap.size w w' := by
  have c1 := index_any hR hl no b hb0
  clear hR hb0
  generalize isRoot ds no = z at *
  go_enter Tryz.func103, Tryz.ntmps103
  go_wp2_with (refine c1.mono ?_; rintro e w1 ⟨⟨i, rfl, rfl⟩, hb⟩)
  go_ret
  exact ⟨rfl, hb⟩
theorem isRoot_any {B X A M : Nat} {mv : Value} {st : St} {w : World} (h : Wd B X A M mv st w) (hl : st.d.length ≤ 1000000) (no : Int) :
    Calls Tryz.prog 81 #[.pointer (some ⟨X, 0, none⟩), .int .i64 no] w fun e w' => e = .returned (.bool (isRoot st.d no)) ∧ Below w.heap.size w w' := by
  have hb1 : Below w.heap.size w (w.alloc (.cells #[.int .i64 no] 3)) := (Below.refl _ _).alloc (Nat.le_refl _) _
  have h1 := h.below hb1
  have c1 := parts_any h1
  have c2 := contains_any h1.rows hl no w.heap.size (by rw [World.cell?_alloc_new]; rfl)
  clear h h1
  generalize isRoot st.d no = z at *
  go_enter Tryz.func81, Tryz.ntmps81
  go_wp2_with (first | (go_at_call 90; refine c1.mono ?_; rintro e w1 ⟨rfl, rfl⟩) | (refine c2.mono ?_; rintro e w2 ⟨rfl, hb2⟩))
  go_ret
  exact ⟨rfl, hb1.trans (hb2.mono hb1.size)⟩
end Go.Proofs.YtenopnfclbegbaaGreat.G
/-
  node, directory, Use, blocksOf.
-/
namespace Go.Proofs.YtenopnfclbegbaaGreat.G
open Go.RowKit Go.Shelf
attribute [local go_sem] Oper.semAt_some

theorem look_fst (l : T.Row) (k : Int) : (T.look l k).map Prod.fst = get (l.map Prod.fst) k := by
  unfold T.look get
  rw [find_map]
  rfl
theorem found_fst (l : T.Row) (k : Int) : (T.found l k).1 = gets (l.map Prod.fst) k := by
  unfold T.found gets
  rw [← look_fst]
  cases T.look l k <;> rfl
theorem look_is (l : T.Row) (k : Int) : (T.look l k).isSome = (get (l.map Prod.fst) k).isSome := by
  rw [← look_fst]
  cases T.look l k <;> rfl

section
variable {B X A M : Nat} {mv : Value} {st : St} {w : World}
theorem Get_st (h : Wd B X A M mv st w) (k : Int) (hk : T.Wf k) : Calls Tryz.prog 16 #[.pointer (some ⟨A, 0, none⟩), .int .i64 k] w fun e w' =>
    ∃ u, e = .returned (.tuple #[(gets st.n k).v u, .bool (get st.n k).isSome]) ∧ E.Own w.heap.size u (gets st.n k).es w' ∧ Below w.heap.size w w' := by
  obtain ⟨l, hl, hT⟩ := h.tab
  have c := T.Get_any hT k hk
  rw [found_fst, look_is, hl] at c
  exact c
set_option maxRecDepth 100000 in
set_option maxHeartbeats 8000000 in
theorem node_any (h : Wd B X A M mv st w) (k : Int) (hk : T.Wf k) : Calls Tryz.prog 80 #[.pointer (some ⟨X, 0, none⟩), .int .i64 k] w fun e w' =>
    ∃ u, e = .returned (.tuple #[(gets st.n k).v u, .bool (get st.n k).isSome]) ∧ E.Own w.heap.size u (gets st.n k).es w' ∧ Below w.heap.size w w' := by
  have hb1 : Below w.heap.size w (w.alloc (.cells #[.int .i64 0, .int .i64 0, .int .i64 0, .int .i64 0, .int .i64 0, .int .i64 0, .int .i64 0, .int .i64 0, .int .i64 0, .int .i64 0, .string ⟨#[]⟩, .slice none 0 0] 48)) := (Below.refl _ _).alloc (Nat.le_refl _) _
  have B1 := T.BoxN.new T.Nd.zero (.slice none 0 0) w
  dsimp only [T.Nd.zero] at B1
  have hs1 : (w.alloc (.cells #[.int .i64 0, .int .i64 0, .int .i64 0, .int .i64 0, .int .i64 0, .int .i64 0, .int .i64 0, .int .i64 0, .int .i64 0, .int .i64 0, .string ⟨#[]⟩, .slice none 0 0] 48)).heap.size = w.heap.size + 1 := by simp
  have hW := fun W (hb : Below w.heap.size w W) => (h.below hb).facts.1
  have cc := fun W (hb : Below w.heap.size w W) => Get_st (h.below hb) k hk
  clear h
  generalize gets st.n k = nd at *
  generalize (get st.n k).isSome = bb at *
  obtain ⟨no, dev, kind, mode, uid, gid, mt, ct, links, up, data, es⟩ := nd
  dsimp only [T.Nd.v] at cc ⊢
  go_enter Tryz.func80, Tryz.ntmps80
  go_upto_region 1 with fail
  generalize w.alloc (.cells #[.int .i64 0, .int .i64 0, .int .i64 0, .int .i64 0, .int .i64 0, .int .i64 0, .int .i64 0, .int .i64 0, .int .i64 0, .int .i64 0, .string ⟨#[]⟩, .slice none 0 0] 48) = W1 at B1 hb1 hs1 ⊢
  have x0 := hW W1 hb1
  have c1 := cc W1 hb1
  obtain ⟨b0, hbd⟩ : ∃ b, w.heap.size = b := ⟨_, rfl⟩
  rw [hbd] at B1 hb1 hs1 ⊢
  have HB := Lib.hid hbd
  clear hbd hW cc
  go_wp2_with (go_at_call 16; refine c1.mono ?_; rintro e w3 ⟨u, rfl, hO, hb3⟩; obtain ⟨ou, cu, rfl⟩ := T.own_slice hO; obtain ⟨a0, a1, a2, a3, a4, a5, a6, a7, a8, a9, a10, a11⟩ := (B1.below hb3).facts; obtain ⟨f0, f1, f2, f3, f4, f5, f6, f7, f8, f9, f10, f11⟩ := (B1.below hb3).open)
  have D2 := B1.below hb3
  have D3 := D2.fill ⟨no, dev, kind, mode, uid, gid, mt, ct, links, up, data, es⟩ (.slice ou es.length cu)
  have hb4 := (hb1.trans (hb3.mono (by omega))).trans (T.below_fill (Nat.le_refl b0) w3 ⟨no, dev, kind, mode, uid, gid, mt, ct, links, up, data, es⟩ (.slice ou es.length cu))
  have hO4 : E.Own b0 _ es _ := T.own_kept (hO.mono (by omega)) (T.EntKept.fill D2 ⟨no, dev, kind, mode, uid, gid, mt, ct, links, up, data, es⟩ (.slice ou es.length cu))
  unfold T.fill at D3 hb4 hO4
  generalize World.setCell _ _ _ = W4 at D3 hb4 hO4 ⊢
  obtain ⟨g0, g1, g2, g3, g4, g5, g6, g7, g8, g9, g10, g11⟩ := D3.facts
  refine bodyPost_ret (by simp [results, Tryz.results80, go_sem, g0, g1, g2, g3, g4, g5, g6, g7, g8, g9, g10, g11]; rfl) rfl ?_
  exact ⟨_, rfl, HB.out ▸ hO4, HB.out ▸ hb4⟩
end

theorem blocksOf_any (n : T.Nd) (s : Value) (hs : T.Slc s) (hd : n.data.size ≤ 2000000) (w : World) : Calls Tryz.prog 83 #[n.v s] w fun e w' => e = .returned (.int .i64 (blk n)) ∧ Below w.heap.size w w' := by
  have hb1 : Below w.heap.size w (w.alloc (.cells #[.int .i64 n.no, .int .i64 n.dev, .int .i64 n.kind, .int .i64 n.mode, .int .i64 n.uid, .int .i64 n.gid, .int .i64 n.mt, .int .i64 n.ct, .int .i64 n.links, .int .i64 n.up, .string n.data, s] 48)) := (Below.refl _ _).alloc (Nat.le_refl _) _
  have cb := fun W => U.Blocks_any n.kind n.data.size (by omega) W
  have hx : U.blk n.kind n.data.size = blk n := rfl
  rw [hx] at cb
  obtain ⟨oa, m, c, rfl⟩ := hs
  obtain ⟨no, dev, kind, mode, uid, gid, mt, ct, links, up, data, es⟩ := n
  generalize blk _ = z at *
  dsimp only [T.Nd.v] at *
  go_enter Tryz.func83, Tryz.ntmps83
  go_wp2_with (go_at_call 106; refine (cb _).mono ?_; rintro e w2 ⟨rfl, rfl⟩)
  go_ret
  exact ⟨rfl, hb1⟩

section
variable {B X A M : Nat} {mv : Value} {st : St} {w : World}
theorem Use_any (h : Wd B X A M mv st w) (k : Int) : Calls Tryz.prog 62 #[.pointer (some ⟨X, 0, none⟩), .int .i64 k] w fun e w' => e = .returned (useOf st.d k).v ∧ Below w.heap.size w w' := by
  have hb1 : Below w.heap.size w (w.alloc (.cells #[.int .i64 0, .int .i64 0, .int .i64 0, .int .i64 0] 110)) := (Below.refl _ _).alloc (Nat.le_refl _) _
  have o1 := U.Open4.new w 110 #[.int .i64 0, .int .i64 0, .int .i64 0, .int .i64 0]
  have b1 := U.Box4.new w ⟨0, 0, 0, 0⟩ 110
  have h1 := h.below hb1
  cases hm : mt st.d k with
  | none =>
    have c1 := part_none h1 k hm
    have e : useOf st.d k = ⟨0, 0, 0, 0⟩ := by unfold useOf; rw [hm]
    rw [e]
    clear h h1 hm e
    go_enter Tryz.func62, Tryz.ntmps62
    go_upto_region 1 with fail
    dsimp only at b1
    generalize w.alloc (.cells #[.int .i64 0, .int .i64 0, .int .i64 0, .int .i64 0] 110) = W1 at *
    obtain ⟨e0, e1, e2, e3⟩ := b1
    obtain ⟨f0, f1, f2, f3⟩ := o1
    have b1 : U.Box4 w.heap.size ⟨0, 0, 0, 0⟩ W1 := ⟨e0, e1, e2, e3⟩
    go_wp2_with (refine c1.mono ?_; rintro e w1 ⟨rfl, rfl⟩)
    generalize hW : World.setCell _ _ _ = W
    obtain ⟨⟨g0, g1, g2, g3⟩, hb⟩ := b1.put hW
    refine bodyPost_ret (by simp [results, Tryz.results62, go_sem, g0, g1, g2, g3]; rfl) rfl ?_
    exact ⟨rfl, hb1.trans (hb _ (Nat.le_refl _))⟩
  | some m =>
    obtain ⟨k1, k2, k3⟩ := mt_some hm
    obtain ⟨i, hi⟩ : ∃ i, (k - 1).toNat = i := ⟨_, rfl⟩
    rw [hi] at k3
    obtain ⟨g, cap, hg, hat⟩ := h1.rows.at k3
    have c1 := part_some h1 k3 hg
    rw [show (i : Int) + 1 = k by omega] at c1
    have e : useOf st.d k = m.q := by unfold useOf; rw [hm]
    rw [e]
    obtain ⟨_, _, c2, c3, c4, c5⟩ := hat
    clear h h1 hm e k1 k2 k3 hi
    go_enter Tryz.func62, Tryz.ntmps62
    go_upto_region 1 with fail
    dsimp only at b1
    generalize w.alloc (.cells #[.int .i64 0, .int .i64 0, .int .i64 0, .int .i64 0] 110) = W1 at *
    obtain ⟨e0, e1, e2, e3⟩ := b1
    obtain ⟨f0, f1, f2, f3⟩ := o1
    have b1 : U.Box4 w.heap.size ⟨0, 0, 0, 0⟩ W1 := ⟨e0, e1, e2, e3⟩
    go_wp2_with (refine c1.mono ?_; rintro e w1 ⟨rfl, rfl⟩)
    generalize hW : World.setCell _ _ _ = W
    obtain ⟨⟨g0, g1, g2, g3⟩, hb⟩ := b1.put hW
    refine bodyPost_ret (by simp [results, Tryz.results62, go_sem, g0, g1, g2, g3]; rfl) rfl ?_
    exact ⟨rfl, hb1.trans (hb _ (Nat.le_refl _))⟩
end
end Go.Proofs.YtenopnfclbegbaaGreat.G
/-
  directory, Above, called.
-/
namespace Go.Proofs.YtenopnfclbegbaaGreat.G
open Go.RowKit Go.Shelf
attribute [local go_sem] Oper.semAt_some

section
variable {B X A M : Nat} {mv : Value} {st : St} {w : World}
theorem isDir_eq (n : List T.Nd) (k : Int) : isDir n k = ((get n k).isSome && decide ((gets n k).kind = 1)) := rfl
theorem isDir_none {n : List T.Nd} {k : Int} (h : (get n k).isSome = false) : isDir n k = false := by rw [isDir_eq, h]; rfl

set_option maxRecDepth 100000 in
set_option maxHeartbeats 8000000 in
theorem directory_any (h : Wd B X A M mv st w) (k : Int) (hk : T.Wf k) : Calls Tryz.prog 91 #[.pointer (some ⟨X, 0, none⟩), .int .i64 k] w fun e w' =>
    ∃ u, e = .returned (.tuple #[(gets st.n k).v u, .bool (isDir st.n k)]) ∧ E.Own w.heap.size u (gets st.n k).es w' ∧ Below w.heap.size w w' := by
  have hb1 : Below w.heap.size w (w.alloc (.cells #[.int .i64 0, .int .i64 0, .int .i64 0, .int .i64 0, .int .i64 0, .int .i64 0, .int .i64 0, .int .i64 0, .int .i64 0, .int .i64 0, .string ⟨#[]⟩, .slice none 0 0] 48)) := (Below.refl _ _).alloc (Nat.le_refl _) _
  have B1 := T.BoxN.new T.Nd.zero (.slice none 0 0) w
  dsimp only [T.Nd.zero] at B1
  have hs1 : (w.alloc (.cells #[.int .i64 0, .int .i64 0, .int .i64 0, .int .i64 0, .int .i64 0, .int .i64 0, .int .i64 0, .int .i64 0, .int .i64 0, .int .i64 0, .string ⟨#[]⟩, .slice none 0 0] 48)).heap.size = w.heap.size + 1 := by simp
  have cc := fun W (hb : Below w.heap.size w W) => node_any (h.below hb) k hk
  clear h
  rw [isDir_eq]
  generalize gets st.n k = nd at *
  generalize (get st.n k).isSome = bb at *
  obtain ⟨no, dev, kind, mode, uid, gid, mt, ct, links, up, data, es⟩ := nd
  dsimp only [T.Nd.v] at cc ⊢
  go_enter Tryz.func91, Tryz.ntmps91
  go_upto_region 1 with fail
  generalize w.alloc (.cells #[.int .i64 0, .int .i64 0, .int .i64 0, .int .i64 0, .int .i64 0, .int .i64 0, .int .i64 0, .int .i64 0, .int .i64 0, .int .i64 0, .string ⟨#[]⟩, .slice none 0 0] 48) = W1 at B1 hb1 hs1 ⊢
  have c1 := cc W1 hb1
  obtain ⟨b0, hbd⟩ : ∃ b, w.heap.size = b := ⟨_, rfl⟩
  rw [hbd] at B1 hb1 hs1 ⊢
  have HB := Lib.hid hbd
  clear hbd cc
  go_upto_region 2 with (go_at_call 80; refine c1.mono ?_; rintro e w3 ⟨u, rfl, hO, hb3⟩; obtain ⟨ou, cu, rfl⟩ := T.own_slice hO; have B3 := T.BoxN.new ⟨no, dev, kind, mode, uid, gid, mt, ct, links, up, data, es⟩ (.slice ou es.length cu) w3)
  have hO3 := T.own_kept hO (T.EntKept.below ((Below.refl w3.heap.size w3).alloc (Nat.le_refl _) (.cells #[.int .i64 no, .int .i64 dev, .int .i64 kind, .int .i64 mode, .int .i64 uid, .int .i64 gid, .int .i64 mt, .int .i64 ct, .int .i64 links, .int .i64 up, .string data, .slice ou es.length cu] 48)))
  have D2 := (B1.below hb3).below ((Below.refl w3.heap.size w3).alloc (Nat.le_refl _) (.cells #[.int .i64 no, .int .i64 dev, .int .i64 kind, .int .i64 mode, .int .i64 uid, .int .i64 gid, .int .i64 mt, .int .i64 ct, .int .i64 links, .int .i64 up, .string data, .slice ou es.length cu] 48))
  have hb4 : Below b0 w (w3.alloc (.cells #[.int .i64 no, .int .i64 dev, .int .i64 kind, .int .i64 mode, .int .i64 uid, .int .i64 gid, .int .i64 mt, .int .i64 ct, .int .i64 links, .int .i64 up, .string data, .slice ou es.length cu] 48)) := (hb1.trans (hb3.mono (by omega))).alloc (by have := hb3.size; omega) _
  have hlt : b0 < w3.heap.size := by have := hb3.size; omega
  generalize w3.heap.size = b3 at *
  generalize w3.alloc (.cells #[.int .i64 no, .int .i64 dev, .int .i64 kind, .int .i64 mode, .int .i64 uid, .int .i64 gid, .int .i64 mt, .int .i64 ct, .int .i64 links, .int .i64 up, .string data, .slice ou es.length cu] 48) = W4 at B3 hO3 D2 hb4 ⊢
  clear B1 hb3 hO c1
  obtain ⟨a0, a1, a2, a3, a4, a5, a6, a7, a8, a9, a10, a11⟩ := D2.facts
  obtain ⟨f0, f1, f2, f3, f4, f5, f6, f7, f8, f9, f10, f11⟩ := D2.open
  obtain ⟨g0, g1, g2, g3, g4, g5, g6, g7, g8, g9, g10, g11⟩ := B3.facts
  have hlt2 := D2.lt
  cases bb with
  | false =>
    go_region
    · skip
      have D3 := D2.fill ⟨no, dev, kind, mode, uid, gid, mt, ct, links, up, data, es⟩ (.slice ou es.length cu)
      have hb5 := (hb4.trans (T.below_fill (Nat.le_refl b0) W4 ⟨no, dev, kind, mode, uid, gid, mt, ct, links, up, data, es⟩ (.slice ou es.length cu))).drew
      have hO4 : E.Own b0 _ es _ := E.own_drew (T.own_kept (hO3.mono (by omega)) (T.EntKept.fill D2 ⟨no, dev, kind, mode, uid, gid, mt, ct, links, up, data, es⟩ (.slice ou es.length cu)))
      replace D3 := D3.below ((Below.refl _ _).drew)
      unfold T.fill at D3 hb5 hO4
      generalize World.drew _ = W5 at D3 hb5 hO4 ⊢
      clear a0 a1 a2 a3 a4 a5 a6 a7 a8 a9 a10 a11 f0 f1 f2 f3 f4 f5 f6 f7 f8 f9 f10 f11 g0 g1 g2 g3 g4 g5 g6 g7 g8 g9 g10 g11 
      go_wp2
      obtain ⟨q0, q1, q2, q3, q4, q5, q6, q7, q8, q9, q10, q11⟩ := D3.facts
      refine bodyPost_ret (by simp [results, Tryz.results91, go_sem, q0, q1, q2, q3, q4, q5, q6, q7, q8, q9, q10, q11]; rfl) rfl ?_
      exact ⟨_, rfl, HB.out ▸ hO4, HB.out ▸ hb5⟩
  | true =>
    by_cases hk1 : kind = 1
    · subst hk1
      go_region
      have D3 := D2.fill ⟨no, dev, 1, mode, uid, gid, mt, ct, links, up, data, es⟩ (.slice ou es.length cu)
      have hb5 := (hb4.trans (T.below_fill (Nat.le_refl b0) W4 ⟨no, dev, 1, mode, uid, gid, mt, ct, links, up, data, es⟩ (.slice ou es.length cu))).drew
      have hO4 : E.Own b0 _ es _ := E.own_drew (T.own_kept (hO3.mono (by omega)) (T.EntKept.fill D2 ⟨no, dev, 1, mode, uid, gid, mt, ct, links, up, data, es⟩ (.slice ou es.length cu)))
      replace D3 := D3.below ((Below.refl _ _).drew)
      unfold T.fill at D3 hb5 hO4
      generalize World.drew _ = W5 at D3 hb5 hO4 ⊢
      clear a0 a1 a2 a3 a4 a5 a6 a7 a8 a9 a10 a11 f0 f1 f2 f3 f4 f5 f6 f7 f8 f9 f10 f11 g0 g1 g2 g3 g4 g5 g6 g7 g8 g9 g10 g11 
      go_wp2
      obtain ⟨q0, q1, q2, q3, q4, q5, q6, q7, q8, q9, q10, q11⟩ := D3.facts
      refine bodyPost_ret (by simp [results, Tryz.results91, go_sem, q0, q1, q2, q3, q4, q5, q6, q7, q8, q9, q10, q11]; rfl) rfl ?_
      exact ⟨_, rfl, HB.out ▸ hO4, HB.out ▸ hb5⟩
    · have hk2 : (kind == 1) = false := by simpa using hk1
      have hk3 : decide (kind = 1) = false := by simpa using hk1
      go_region
      have D3 := D2.fill ⟨no, dev, kind, mode, uid, gid, mt, ct, links, up, data, es⟩ (.slice ou es.length cu)
      have hb5 := (hb4.trans (T.below_fill (Nat.le_refl b0) W4 ⟨no, dev, kind, mode, uid, gid, mt, ct, links, up, data, es⟩ (.slice ou es.length cu))).drew
      have hO4 : E.Own b0 _ es _ := E.own_drew (T.own_kept (hO3.mono (by omega)) (T.EntKept.fill D2 ⟨no, dev, kind, mode, uid, gid, mt, ct, links, up, data, es⟩ (.slice ou es.length cu)))
      replace D3 := D3.below ((Below.refl _ _).drew)
      unfold T.fill at D3 hb5 hO4
      generalize World.drew _ = W5 at D3 hb5 hO4 ⊢
      clear a0 a1 a2 a3 a4 a5 a6 a7 a8 a9 a10 a11 f0 f1 f2 f3 f4 f5 f6 f7 f8 f9 f10 f11 g0 g1 g2 g3 g4 g5 g6 g7 g8 g9 g10 g11 
      go_wp2
      obtain ⟨q0, q1, q2, q3, q4, q5, q6, q7, q8, q9, q10, q11⟩ := D3.facts
      refine bodyPost_ret (by simp [results, Tryz.results91, go_sem, q0, q1, q2, q3, q4, q5, q6, q7, q8, q9, q10, q11]; rfl) rfl ?_
      exact ⟨_, by rw [hk3]; rfl, HB.out ▸ hO4, HB.out ▸ hb5⟩

set_option maxRecDepth 100000 in
set_option maxHeartbeats 8000000 in
theorem Above_any (h : Wd B X A M mv st w) (k : Int) (hk : T.Wf k) (hu : T.Wf (under st.d k)) : Calls Tryz.prog 68 #[.pointer (some ⟨X, 0, none⟩), .int .i64 k] w fun e w' =>
    e = .returned (.int .i64 (above st k)) ∧ Below w.heap.size w w' := by
  have cd := directory_any h k hk
  have hw := fun W (hb : Below w.heap.size w W) => h.below hb
  have cu := fun W (hb : Below w.heap.size w W) => under_any (h.below hb) k
  have cn := fun W (hb : Below w.heap.size w W) => node_any (h.below hb) (under st.d k) hu
  clear h hw
  have ha : above st k = if isDir st.n k = true then (gets st.n (under st.d k)).up else 0 := rfl
  have hsame : under st.d k = k → gets st.n (under st.d k) = gets st.n k := fun e => by rw [e]
  rw [ha]
  clear ha
  generalize isDir st.n k = bb at *
  generalize (get st.n (under st.d k)).isSome = b2 at *
  generalize gets st.n (under st.d k) = n2 at *
  generalize under st.d k = un at *
  generalize gets st.n k = n1 at *
  have HS := Lib.hid hsame
  clear hsame hu
  obtain ⟨no, dev, kind, mode, uid, gid, mt, ct, links, up, data, es⟩ := n1
  dsimp only [T.Nd.v] at cd
  go_enter Tryz.func68, Tryz.ntmps68
  go_upto_region 2 with (go_at_call 91; refine cd.mono ?_; rintro e w3 ⟨u, rfl, hO, hb3⟩; obtain ⟨ou, cu', rfl⟩ := T.own_slice hO; have B3 := T.BoxN.new ⟨no, dev, kind, mode, uid, gid, mt, ct, links, up, data, es⟩ (.slice ou es.length cu') w3; have hb4 := hb3.alloc hb3.size (.cells #[.int .i64 no, .int .i64 dev, .int .i64 kind, .int .i64 mode, .int .i64 uid, .int .i64 gid, .int .i64 mt, .int .i64 ct, .int .i64 links, .int .i64 up, .string data, .slice ou es.length cu'] 48))
  have hlt : w.heap.size ≤ w3.heap.size := hb3.size
  generalize w3.alloc (.cells #[.int .i64 no, .int .i64 dev, .int .i64 kind, .int .i64 mode, .int .i64 uid, .int .i64 gid, .int .i64 mt, .int .i64 ct, .int .i64 links, .int .i64 up, .string data, .slice ou es.length cu'] 48) = W4 at B3 hb4 ⊢
  generalize w3.heap.size = b3 at B3 hlt ⊢
  clear cd hO hb3
  cases bb with
  | false =>
    go_wp2
    go_ret
    exact ⟨rfl, hb4⟩
  | true =>
    have c1 := cu W4 hb4
    clear cu
    go_upto_region 5 with (go_at_call 96; refine c1.mono ?_; rintro e w5 ⟨rfl, hb5⟩)
    have B5 := B3.below hb5
    have hb6 := below_two hb4 hb5
    clear c1
    by_cases e : un = k
    · have e2 := HS.out e
      clear cn HS
      subst e
      subst e2
      obtain ⟨_, _, _, _, _, _, _, _, _, q9, _, _⟩ := B5.facts
      go_wp2
      go_ret
      exact ⟨rfl, hb6⟩
    · have e' : (un == k) = false := by simpa using e
      have c2 := cn w5 hb6
      clear cn HS
      obtain ⟨no2, dev2, kind2, mode2, uid2, gid2, mt2, ct2, links2, up2, data2, es2⟩ := n2
      dsimp only [T.Nd.v] at c2
      go_upto_region 7 with (go_at_call 80; refine c2.mono ?_; rintro e w7 ⟨u, rfl, hO, hb7⟩; obtain ⟨ou2, cu2, rfl⟩ := T.own_slice hO; obtain ⟨a0, a1, a2, a3, a4, a5, a6, a7, a8, a9, a10, a11⟩ := (B5.below hb7).facts; obtain ⟨f0, f1, f2, f3, f4, f5, f6, f7, f8, f9, f10, f11⟩ := (B5.below hb7).open)
      have D3 := (B5.below hb7).fill ⟨no2, dev2, kind2, mode2, uid2, gid2, mt2, ct2, links2, up2, data2, es2⟩ (.slice ou2 es2.length cu2)
      have hb8 := (below_two hb6 hb7).trans (T.below_fill hlt w7 ⟨no2, dev2, kind2, mode2, uid2, gid2, mt2, ct2, links2, up2, data2, es2⟩ (.slice ou2 es2.length cu2))
      unfold T.fill at D3 hb8
      generalize World.setCell _ _ _ = W8 at D3 hb8 ⊢
      clear a0 a1 a2 a3 a4 a5 a6 a7 a8 a9 a10 a11 f0 f1 f2 f3 f4 f5 f6 f7 f8 f9 f10 f11
      obtain ⟨_, _, _, _, _, _, _, _, _, q9, _, _⟩ := D3.facts
      go_wp2
      go_ret
      exact ⟨rfl, hb8⟩

set_option maxRecDepth 100000 in
set_option maxHeartbeats 8000000 in
theorem called_any (h : Wd B X A M mv st w) (k : Int) (hk : T.Wf k) (hu : T.Wf (under st.d k)) (ha : T.Wf (above st k)) (hf : (gets st.n (above st k)).es.length ≤ 100000) : Calls Tryz.prog 95 #[.pointer (some ⟨X, 0, none⟩), .int .i64 k] w fun e w' =>
    e = .returned (.tuple #[.string ⟨((called st k).getD []).toArray⟩, .bool (called st k).isSome]) ∧ Below w.heap.size w w' := by
  have ca := Above_any h k hk hu
  have cd := fun W (hb : Below w.heap.size w W) => directory_any (h.below hb) (above st k) ha
  have cu := fun W (hb : Below w.heap.size w W) => under_any (h.below hb) k
  have cn := fun {v : Value} {W : World} (hS : E.Sees v (gets st.n (above st k)).es W) => E.name_any hS (under st.d k) hf
  clear h
  have hc : called st k = if isDir st.n (above st k) = true then E.nameOf (gets st.n (above st k)).es (under st.d k) else none := rfl
  rw [hc]
  clear hc ha hu hf
  generalize gets st.n (above st k) = n1 at *
  generalize isDir st.n (above st k) = bb at *
  generalize above st k = up1 at *
  generalize under st.d k = un at *
  obtain ⟨no, dev, kind, mode, uid, gid, mt, ct, links, up, data, es⟩ := n1
  dsimp only [T.Nd.v] at cd cn
  go_enter Tryz.func95, Tryz.ntmps95
  go_upto_region 2 with (first
    | (go_at_call 68; refine ca.mono ?_; rintro e w2 ⟨rfl, hb2⟩; have cd2 := cd w2 hb2)
    | (go_at_call 91; refine cd2.mono ?_; rintro e w3 ⟨u, rfl, hO, hb3⟩; obtain ⟨ou, cu', rfl⟩ := T.own_slice hO; have B3 := T.BoxN.new ⟨no, dev, kind, mode, uid, gid, mt, ct, links, up, data, es⟩ (.slice ou es.length cu') w3; have hb4 := hb3.alloc hb3.size (.cells #[.int .i64 no, .int .i64 dev, .int .i64 kind, .int .i64 mode, .int .i64 uid, .int .i64 gid, .int .i64 mt, .int .i64 ct, .int .i64 links, .int .i64 up, .string data, .slice ou es.length cu'] 48)))
  have hO4 := T.own_kept hO (T.EntKept.below ((Below.refl w3.heap.size w3).alloc (Nat.le_refl _) (.cells #[.int .i64 no, .int .i64 dev, .int .i64 kind, .int .i64 mode, .int .i64 uid, .int .i64 gid, .int .i64 mt, .int .i64 ct, .int .i64 links, .int .i64 up, .string data, .slice ou es.length cu'] 48)))
  generalize w3.alloc (.cells #[.int .i64 no, .int .i64 dev, .int .i64 kind, .int .i64 mode, .int .i64 uid, .int .i64 gid, .int .i64 mt, .int .i64 ct, .int .i64 links, .int .i64 up, .string data, .slice ou es.length cu'] 48) = W4 at B3 hb4 hO4 ⊢
  generalize w3.heap.size = b3 at B3 ⊢
  have hb5 := below_two hb2 hb4
  clear cd ca cd2 hO hb3 hb4
  cases bb with
  | false =>
    go_wp2
    go_ret2
    exact ⟨rfl, hb5⟩
  | true =>
    go_upto_region 4 with fail
    have hS4 := hO4.sees
    have hdr : Below W4.heap.size W4 W4.drew := (Below.refl _ _).drew
    have B4 := B3.below hdr
    have c1 := cu W4.drew (below_two hb5 hdr)
    have hS5 := hS4.below hdr
    clear cu
    go_region_held3 (fun w' => w'.cell? ⟨b3, 11, none⟩ = some (.slice ou es.length cu'))
      (with_reducible first | exact B7.facts.2.2.2.2.2.2.2.2.2.2.2 | exact B6.facts.2.2.2.2.2.2.2.2.2.2.2 | exact B4.facts.2.2.2.2.2.2.2.2.2.2.2)
      (first
        | (go_at_call 96; refine c1.mono ?_; rintro e w6 ⟨rfl, hb6⟩; have c2 := cn (hS5.below hb6); have B6 := B4.below hb6)
        | (go_at_call 115; refine c2.mono ?_; rintro e w7 ⟨rfl, hb7⟩; have B7 := B6.below hb7))
    go_wp2
    go_ret2
    exact ⟨rfl, below_two (below_two (below_two hb5 hdr) hb6) hb7⟩
end
end Go.Proofs.YtenopnfclbegbaaGreat.G
