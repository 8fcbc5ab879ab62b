/-
  A world of nodes on mounts: the mathematics.
-/
import Derived.Test.YtmoimijclafgcaaTset
import Derived.Test.YtmoimijclafgcaaEname
import Derived.Test.YtmoimijclafgcaaUblk
namespace Go.Proofs.Ytmoimijclafgcaa.G

/-- a mount: its root, the directory that it covers, its space -/
structure Mt where
  root : Int
  cov : Int
  q : U.Sp
/-- a world: the number given last, the nodes, the mounts -/
structure St where
  last : Int
  n : List T.Nd
  d : List Mt

def get (n : List T.Nd) (k : Int) : Option T.Nd := n.find? fun p => decide (p.no = k)
def gets (n : List T.Nd) (k : Int) : T.Nd := (get n k).getD T.Nd.zero
def isDir (n : List T.Nd) (k : Int) : Bool := (get n k).isSome && decide ((gets n k).kind = 1)
def over (d : List Mt) (k : Int) : Int := match d.find? (fun m => decide (m.cov = k)) with | some m => m.root | none => k
def under (d : List Mt) (k : Int) : Int := match d.find? (fun m => decide (m.root = k)) with | some m => m.cov | none => k
def isRoot (d : List Mt) (k : Int) : Bool := d.any fun m => decide (m.root = k)
/-- the mount of a number -/
def mt (d : List Mt) (k : Int) : Option Mt := if 1 ≤ k then d[(k - 1).toNat]? else none
def rootOf (d : List Mt) (k : Int) : Int := match mt d k with | some m => m.root | none => 0
def useOf (d : List Mt) (k : Int) : U.Sp := match mt d k with | some m => m.q | none => ⟨0, 0, 0, 0⟩
/-- a mount has another space -/
def settle (d : List Mt) (k : Int) (q : U.Sp) : List Mt := match mt d k with | some m => d.set (k - 1).toNat { m with q := q } | none => d
def above (st : St) (k : Int) : Int := if isDir st.n k = true then (gets st.n (under st.d k)).up else 0
def called (st : St) (k : Int) : Option (List UInt8) := if isDir st.n (above st k) = true then E.nameOf (gets st.n (above st k)).es (under st.d k) else none
def trail (st : St) (no : Int) : Nat → Int
  | 0 => no
  | k + 1 => above st (trail st no k)
def size (nd : T.Nd) : Int := nd.data.size
def blk (nd : T.Nd) : Int := U.blk nd.kind (size nd)
/-- a node is another one -/
def setN (n : List T.Nd) (x : T.Nd) : List T.Nd := n.map fun p => if p.no = x.no then x else p
def dropN (n : List T.Nd) (k : Int) : List T.Nd := n.filter fun p => decide (p.no ≠ k)
/-- the error of taking, and the mounts behind it -/
def terr (d : List Mt) (k x y : Int) : Int := match mt d k with | some m => (U.took m.q x y).2 | none => 1
def taken (d : List Mt) (k x y : Int) : List Mt := match mt d k with | some m => settle d k (U.took m.q x y).1 | none => d

/-! what the calls do -/
def make (st : St) (x : T.Nd) : St × Int × Int :=
  if terr st.d x.dev (blk x) 1 = 0 then (⟨st.last + 1, st.n ++ [x.as (st.last + 1)], taken st.d x.dev (blk x) 1⟩, st.last + 1, 0) else (st, 0, terr st.d x.dev (blk x) 1)
def kill (st : St) (k : Int) : St × Bool :=
  if (get st.n k).isSome = true ∧ isRoot st.d k = false then (⟨st.last, dropN st.n k, taken st.d (gets st.n k).dev (-blk (gets st.n k)) (-1)⟩, true) else (st, false)
/-- a node with other bytes -/
def filled (st : St) (k : Int) (x : ByteArray) : T.Nd := { gets st.n k with data := x }
def fill (st : St) (k : Int) (x : ByteArray) : St × Int :=
  if (get st.n k).isSome = true then
    if terr st.d (gets st.n k).dev (blk (filled st k x) - blk (gets st.n k)) 0 = 0 then (⟨st.last, setN st.n (filled st k x), taken st.d (gets st.n k).dev (blk (filled st k x) - blk (gets st.n k)) 0⟩, 0)
    else (st, terr st.d (gets st.n k).dev (blk (filled st k x) - blk (gets st.n k)) 0)
  else (st, 5)
def rootNode (no dev : Int) : T.Nd := ⟨no, dev, 1, 493, 0, 0, 0, 0, 1, no, ⟨#[]⟩, []⟩
def begin_ (st : St) (k b c : Int) : St := ⟨st.last + 1, st.n ++ [rootNode (st.last + 1) (st.d.length + 1)], st.d ++ [⟨st.last + 1, k, ⟨1, 1, b, c⟩⟩]⟩
def limits (b c : Int) : Bool := U.btw 1 b 1073741824 && U.btw 1 c 65536
def mount (st : St) (k b c : Int) : St × Int × Int :=
  if (get st.n k).isSome = true then
    if (gets st.n k).kind = 1 then
      if over st.d k ≠ k ∨ isRoot st.d k = true then (st, 0, 16)
      else if 8 ≤ st.d.length then (st, 0, 3)
      else if limits b c = true then (begin_ st k b c, st.last + 1, 0) else (st, 0, 3)
    else (st, 0, 9)
  else (st, 0, 5)

/-! what holds of every world -/
structure Inv (st : St) : Prop where
  lo : 0 ≤ st.last
  rise : st.n.Pairwise fun p q => p.no < q.no
  given : ∀ nd ∈ st.n, 1 ≤ nd.no ∧ nd.no ≤ st.last
  len : (st.n.length : Int) ≤ st.last
  top : ∃ q, st.d[0]? = some ⟨1, 1, q⟩
  topn : ∃ nd, get st.n 1 = some nd ∧ nd.up = 1
  roots : ∀ (k : Nat) (m : Mt), st.d[k]? = some m → ∃ nd, get st.n m.root = some nd ∧ nd.dev = k + 1 ∧ nd.kind = 1
  devs : ∀ nd ∈ st.n, 1 ≤ nd.dev ∧ nd.dev ≤ st.d.length
  covs : ∀ (k : Nat) (m : Mt), st.d[k]? = some m → 0 < k → 1 ≤ m.cov ∧ m.cov ≤ st.last ∧ isRoot st.d m.cov = false
  mounts : st.d.length ≤ 8
  plain : ∀ nd ∈ st.n, nd.kind ≠ 1 → nd.es = []
  names : ∀ nd ∈ st.n, ∀ e ∈ nd.es, 1 ≤ e.name.length ∧ e.name.length ≤ 255
  few : ∀ nd ∈ st.n, nd.es.length ≤ 100000
  data : ∀ nd ∈ st.n, nd.data.size ≤ 2000000

theorem get_some {n : List T.Nd} {k : Int} {x : T.Nd} (h : get n k = some x) : x ∈ n ∧ x.no = k := ⟨List.mem_of_find?_eq_some h, by simpa using List.find?_some h⟩
theorem get_none {n : List T.Nd} {k : Int} (h : get n k = none) : ∀ p ∈ n, p.no ≠ k := fun p hp e => by
  have := List.find?_eq_none.1 h p hp
  simp at this
  exact this e
theorem gets_some {n : List T.Nd} {k : Int} {x : T.Nd} (h : get n k = some x) : gets n k = x := by unfold gets; rw [h]; rfl
theorem gets_none {n : List T.Nd} {k : Int} (h : get n k = none) : gets n k = T.Nd.zero := by unfold gets; rw [h]; rfl
theorem get_mem {n : List T.Nd} (hr : n.Pairwise fun p q => p.no < q.no) {x : T.Nd} (h : x ∈ n) : get n x.no = some x := by
  induction n with
  | nil => cases h
  | cons y r ih =>
    obtain ⟨h1, h2⟩ := List.pairwise_cons.1 hr
    unfold get at ih ⊢
    rw [List.find?_cons]
    rcases List.mem_cons.1 h with rfl | h
    · simp
    · have := h1 x h
      rw [decide_eq_false (by omega)]
      exact ih h2 h
theorem isDir_iff {n : List T.Nd} {k : Int} : isDir n k = true ↔ ∃ x, get n k = some x ∧ x.kind = 1 := by
  unfold isDir gets
  cases get n k <;> simp
theorem mt_some {d : List Mt} {k : Int} {m : Mt} (h : mt d k = some m) : 1 ≤ k ∧ k ≤ d.length ∧ d[(k - 1).toNat]? = some m := by
  unfold mt at h
  split at h
  · have := (List.getElem?_eq_some_iff.1 h).1
    exact ⟨by assumption, by omega, h⟩
  · cases h
theorem mt_at {d : List Mt} {k : Nat} {m : Mt} (h : d[k]? = some m) : mt d (k + 1) = some m := by
  unfold mt
  rw [if_pos (by omega), show ((k : Int) + 1 - 1).toNat = k by omega]
  exact h
theorem mt_in {d : List Mt} {k : Int} (h1 : 1 ≤ k) (h2 : k ≤ d.length) : ∃ m, mt d k = some m := by
  unfold mt
  rw [if_pos h1]
  exact ⟨_, List.getElem?_eq_getElem (by omega)⟩
theorem mt_none {d : List Mt} {k : Int} (h : k < 1 ∨ d.length < k) : mt d k = none := by
  unfold mt
  split
  · exact List.getElem?_eq_none (by omega)
  · rfl
theorem settle_same {d : List Mt} {k : Int} : settle d k (useOf d k) = d := by
  unfold settle useOf
  cases h : mt d k with
  | none => rfl
  | some m =>
    obtain ⟨_, _, h3⟩ := mt_some h
    obtain ⟨hl, h4⟩ := List.getElem?_eq_some_iff.1 h3
    dsimp only
    rw [← h4]
    exact List.set_getElem_self hl
theorem length_settle (d : List Mt) (k : Int) (q : U.Sp) : (settle d k q).length = d.length := by
  unfold settle
  split <;> simp
/-- the roots, and what they cover, stay -/
theorem settle_at (d : List Mt) (k : Int) (q : U.Sp) (i : Nat) : ((settle d k q)[i]?).map (fun m => (m.root, m.cov)) = (d[i]?).map (fun m => (m.root, m.cov)) := by
  unfold settle
  split
  · rename_i m h
    obtain ⟨_, _, h3⟩ := mt_some h
    rw [List.getElem?_set]
    split
    · rename_i e
      subst e
      obtain ⟨hl, h4⟩ := List.getElem?_eq_some_iff.1 h3
      rw [if_pos hl, h3]; rfl
    · rfl
  · rfl
theorem settle_map (d : List Mt) (k : Int) (q : U.Sp) : (settle d k q).map (fun m => (m.root, m.cov)) = d.map (fun m => (m.root, m.cov)) := by
  refine List.ext_getElem? fun i => ?_
  rw [List.getElem?_map, List.getElem?_map]
  exact settle_at d k q i
theorem isRoot_map (d : List Mt) (k : Int) : isRoot d k = (d.map fun m => (m.root, m.cov)).any fun p => decide (p.1 = k) := by
  unfold isRoot; rw [List.any_map]; rfl
theorem isRoot_settle (d : List Mt) (k : Int) (q : U.Sp) (x : Int) : isRoot (settle d k q) x = isRoot d x := by rw [isRoot_map, isRoot_map, settle_map]
theorem find_map {α β : Type} (f : α → β) (p : β → Bool) (l : List α) : (l.map f).find? p = (l.find? (p ∘ f)).map f := by
  induction l with
  | nil => rfl
  | cons x r ih =>
    rw [List.map_cons, List.find?_cons, List.find?_cons, ih]
    show (match p (f x) with | true => _ | false => _) = _
    cases h : p (f x) <;> simp [h]
theorem under_map (d : List Mt) (k : Int) : under d k = match (d.map fun m => (m.root, m.cov)).find? (fun p => decide (p.1 = k)) with | some p => p.2 | none => k := by
  rw [find_map]; unfold under
  show _ = match Option.map (fun m : Mt => (m.root, m.cov)) (d.find? fun m => decide (m.root = k)) with | some p => p.2 | none => k
  cases d.find? (fun m => decide (m.root = k)) <;> rfl
theorem over_map (d : List Mt) (k : Int) : over d k = match (d.map fun m => (m.root, m.cov)).find? (fun p => decide (p.2 = k)) with | some p => p.1 | none => k := by
  rw [find_map]; unfold over
  show _ = match Option.map (fun m : Mt => (m.root, m.cov)) (d.find? fun m => decide (m.cov = k)) with | some p => p.1 | none => k
  cases d.find? (fun m => decide (m.cov = k)) <;> rfl
theorem under_settle (d : List Mt) (k : Int) (q : U.Sp) (x : Int) : under (settle d k q) x = under d x := by rw [under_map, under_map, settle_map]
theorem over_settle (d : List Mt) (k : Int) (q : U.Sp) (x : Int) : over (settle d k q) x = over d x := by rw [over_map, over_map, settle_map]
theorem settle_get {d : List Mt} {k : Int} {q : U.Sp} {i : Nat} {m : Mt} (h : (settle d k q)[i]? = some m) : ∃ m', d[i]? = some m' ∧ m'.root = m.root ∧ m'.cov = m.cov := by
  have := settle_at d k q i
  rw [h] at this
  cases hd : d[i]? with
  | none => rw [hd] at this; cases this
  | some m' =>
    rw [hd] at this
    simp at this
    exact ⟨m', rfl, this.1.symm, this.2.symm⟩

section
variable {st : St}
theorem Inv.getMem (h : Inv st) {x : T.Nd} (hx : x ∈ st.n) : get st.n x.no = some x := get_mem h.rise hx
theorem Inv.mtOf (h : Inv st) {x : T.Nd} (hx : x ∈ st.n) : ∃ m, mt st.d x.dev = some m := mt_in (h.devs x hx).1 (h.devs x hx).2
/-- a root is a node whose mount has it as its root -/
theorem Inv.root_iff (h : Inv st) {x : T.Nd} {k : Int} (hx : get st.n k = some x) : isRoot st.d k = true ↔ rootOf st.d x.dev = k := by
  obtain ⟨hm, hk⟩ := get_some hx
  constructor
  · intro hr
    obtain ⟨m, hm1, hm2⟩ := List.any_eq_true.1 hr
    obtain ⟨i, hi⟩ := List.mem_iff_getElem?.1 hm1
    have e : m.root = k := by simpa using hm2
    obtain ⟨nd, h1, h2, _⟩ := h.roots i m hi
    rw [e, hx] at h1
    cases h1
    unfold rootOf
    rw [h2, mt_at hi]
    exact e
  · intro hr
    obtain ⟨m, hm1⟩ := h.mtOf hm
    unfold rootOf at hr
    rw [hm1] at hr
    obtain ⟨_, _, h3⟩ := mt_some hm1
    exact List.any_eq_true.2 ⟨m, List.mem_of_getElem? h3, by simpa using hr⟩
theorem Inv.rootDir (h : Inv st) {k : Int} (hr : isRoot st.d k = true) : isDir st.n k = true := by
  obtain ⟨m, hm1, hm2⟩ := List.any_eq_true.1 hr
  obtain ⟨i, hi⟩ := List.mem_iff_getElem?.1 hm1
  have e : m.root = k := by simpa using hm2
  obtain ⟨nd, h1, _, h3⟩ := h.roots i m hi
  exact isDir_iff.2 ⟨nd, e ▸ h1, h3⟩
/-- roots differ -/
theorem Inv.apart (h : Inv st) {i j : Nat} {a b : Mt} (ha : st.d[i]? = some a) (hb : st.d[j]? = some b) (e : a.root = b.root) : i = j := by
  obtain ⟨x, h1, h2, _⟩ := h.roots i a ha
  obtain ⟨y, h3, h4, _⟩ := h.roots j b hb
  rw [e, h3] at h1
  cases h1
  omega
theorem Inv.not_zero (h : Inv st) {k : Int} (hk : k ≤ 0) : get st.n k = none := by
  cases e : get st.n k with
  | none => rfl
  | some x =>
    obtain ⟨hm, hx⟩ := get_some e
    have := (h.given x hm).1
    omega
/-- the mounts that the reference has: the first covers nothing -/
def raw : List Mt → List Mt
  | [] => []
  | m :: r => ⟨m.root, 0, m.q⟩ :: r
theorem raw_at (d : List Mt) (k : Nat) : (raw d)[k]? = if k = 0 then (d[0]?).map (fun m => ⟨m.root, 0, m.q⟩) else d[k]? := by
  cases d with
  | nil => cases k <;> simp [raw]
  | cons m r => cases k <;> simp [raw]
theorem length_raw (d : List Mt) : (raw d).length = d.length := by cases d <;> rfl
/-- what covers a node, told from the reference's mounts -/
theorem Inv.over_raw (h : Inv st) (k : Int) : over st.d k = if 0 < k then over (raw st.d) k else k := by
  obtain ⟨q, hq⟩ := h.top
  cases hd : st.d with
  | nil => rw [hd] at hq; cases hq
  | cons m r =>
    rw [hd] at hq
    simp at hq
    subst hq
    by_cases hk : 0 < k
    · rw [if_pos hk]
      unfold over raw
      rw [List.find?_cons, List.find?_cons]
      by_cases h1 : (1 : Int) = k
      · subst h1
        have hn : r.find? (fun m => decide (m.cov = 1)) = none := List.find?_eq_none.2 fun x hx => by
          obtain ⟨i, hi⟩ := List.mem_iff_getElem?.1 hx
          have hi' : st.d[i + 1]? = some x := by rw [hd]; simpa using hi
          have := (h.covs (i + 1) x hi' (Nat.succ_pos _)).2.2
          simp only [decide_eq_true_eq]
          intro e
          rw [e] at this
          unfold isRoot at this
          rw [hd] at this
          simp at this
        simp [hn]
      · have h2 : ¬ (0 : Int) = k := by omega
        simp [h1, h2]
    · rw [if_neg hk]
      unfold over
      rw [List.find?_eq_none.2 fun x hx => by
        obtain ⟨i, hi⟩ := List.mem_iff_getElem?.1 hx
        have hi' : st.d[i]? = some x := by rw [hd]; exact hi
        simp only [decide_eq_true_eq]
        intro e
        cases i with
        | zero =>
          rw [hd] at hi'
          simp at hi'
          subst hi'
          simp at e
          omega
        | succ i => have := (h.covs (i + 1) x hi' (Nat.succ_pos _)).1; omega]
end
end Go.Proofs.Ytmoimijclafgcaa.G
