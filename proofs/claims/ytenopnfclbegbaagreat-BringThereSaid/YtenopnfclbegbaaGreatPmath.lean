/-
  What is told of nodes: the mathematics.
-/
import Derived.Test.YtenopnfclbegbaaGreatTree
import Derived.Test.YtenopnfclbegbaaGreatWays
import Derived.Test.YtenopnfclbegbaaGreatPall
namespace Go.Proofs.YtenopnfclbegbaaGreat.P
open G

/-- may somebody do what is wanted with a node? -/
def may (st : St) (cu cg k want : Int) : Bool := PM.may cu cg (gets st.n k).uid (gets st.n k).gid (gets st.n k).mode want
/-- is there no such node? -/
def noneE (st : St) (k : Int) : Int := if (get st.n k).isSome = true then 0 else 5
/-- a directory with which somebody may do what is wanted -/
def dirE (st : St) (cu cg k want : Int) : Int := if (get st.n k).isSome = false then 5 else if K.kind st k ≠ 1 then 9 else if may st cu cg k want = false then 6 else 0
/-- a node whose data may be asked for -/
def filE (st : St) (k other : Int) : Int := if (get st.n k).isSome = false then 5 else if K.kind st k = 1 then 8 else if K.kind st k = other then 1 else 0
/-- the node, where there is no error -/
def onlyIf (e : Int) (nd : T.Nd) : T.Nd := if e = 0 then nd else T.Nd.zero
theorem only_ok (nd : T.Nd) : onlyIf 0 nd = nd := rfl
theorem only_err {e : Int} (h : e ≠ 0) (nd : T.Nd) : onlyIf e nd = T.Nd.zero := if_neg h
def readE (st : St) (cu cg k : Int) : Int := if filE st k 3 ≠ 0 then filE st k 3 else if may st cu cg k 4 = false then 6 else 0
/-- a directory's entries, of what covers them -/
def shown (st : St) (l : List E.Ent) : List E.Ent := l.map fun x => ⟨x.name, over st.d x.no⟩
def lookE (st : St) (cu cg k : Int) (n : List UInt8) : Int := if dirE st cu cg k 1 ≠ 0 then dirE st cu cg k 1 else if E.numOf (gets st.n k).es n = 0 then 5 else 0
def lookN (st : St) (cu cg k : Int) (n : List UInt8) : Int := if dirE st cu cg k 1 ≠ 0 then 0 else if E.numOf (gets st.n k).es n = 0 then 0 else K.hit st k n

/-! every node of a grown world is a directory, a file or a link -/
def Sorts (st : St) : Prop := ∀ nd ∈ st.n, nd.kind = 1 ∨ nd.kind = 2 ∨ nd.kind = 3
theorem sorts_new (b c : Int) : Sorts (begin_ bare 1 b c) := fun p hp => by obtain rfl := List.mem_singleton.1 hp; exact .inl rfl
theorem Sorts.grows {st : St} (h : Sorts st) (i : It) : Sorts (growSt st i) := by
  by_cases h4 : i.kind = 4
  · rw [grow_four h4]
    unfold mount
    split
    · split
      · split
        · exact h
        · split
          · exact h
          · split
            · intro p hp
              rcases List.mem_append.1 hp with hp | hp
              · exact h p hp
              · obtain rfl := List.mem_singleton.1 hp; exact .inl rfl
            · exact h
      · exact h
    · exact h
  · by_cases hv : vain (gets st.n (place st.last i.dir)) i
    · rw [grow_vain h4 hv]; exact h
    · rw [grow_node h4 hv]
      have hk : (gets st.n (place st.last i.dir)).kind = 1 := Decidable.byContradiction fun e => hv (.inl e)
      have k1 : ¬ i.kind < 1 := fun e => hv (.inr (.inl e))
      have k3 : ¬ 3 < i.kind := fun e => hv (.inr (.inr (.inl e)))
      generalize place st.last i.dir = pl at *
      have hmk : Sorts (make st (node (gets st.n pl) i pl)).1 := fun p hp => by
        rcases make_mem hp with hp | rfl
        · exact h p hp
        · show i.kind = 1 ∨ i.kind = 2 ∨ i.kind = 3
          omega
      generalize make st (node (gets st.n pl) i pl) = r at *
      unfold named
      split
      · intro p hp
        rcases mem_setN hp with ⟨rfl, _⟩ | hp
        · exact .inl hk
        · exact hmk p hp
      · exact hmk
theorem sorts_all {st : St} (h : Sorts st) : ∀ ls : List It, Sorts (growAll st ls)
  | [] => h
  | i :: r => sorts_all (h.grows i) r
theorem Sorts.of {st : St} (h : Sorts st) {k : Int} (hk : (get st.n k).isSome = true) : K.kind st k = 1 ∨ K.kind st k = 2 ∨ K.kind st k = 3 := by
  obtain ⟨x, hx⟩ := Option.isSome_iff_exists.1 hk
  unfold K.kind
  rw [gets_some hx]
  exact h x (get_some hx).1

/-! the reference's -/
/-- the error of opening a node as one of a kind -/
def openE (st : St) (cu cg k kd want : Int) : Int := if (get st.n k).isSome = false then 5 else if K.kind st k ≠ kd then (if kd = 1 then 9 else if K.kind st k = 1 then 8 else 1) else if may st cu cg k want = false then 6 else 0
theorem open_dir (st : St) (cu cg k want : Int) : openE st cu cg k 1 want = dirE st cu cg k want := by
  unfold openE dirE
  rw [if_pos rfl]
theorem open_file {st : St} (h : Sorts st) (cu cg k : Int) : openE st cu cg k 2 4 = readE st cu cg k := by
  unfold openE readE filE
  cases hk : (get st.n k).isSome with
  | false => rfl
  | true =>
    rcases h.of hk with e | e | e <;> rw [e] <;> simp
theorem open_link {st : St} (h : Sorts st) (k : Int) : openE st 0 0 k 3 0 = filE st k 2 := by
  have hm : may st 0 0 k 0 = true := by unfold may PM.may; simp
  unfold openE filE
  rw [hm]
  cases hk : (get st.n k).isSome with
  | false => rfl
  | true =>
    rcases h.of hk with e | e | e <;> rw [e] <;> simp

/-! what a list has, is looked up -/
theorem gets_zero {st : St} {k : Int} (h : (get st.n k).isSome = false) : gets st.n k = T.Nd.zero := by
  cases e : get st.n k with
  | none => exact gets_none e
  | some x => rw [e] at h; cases h
theorem gets_no {st : St} (hI : Inv st) {k : Int} (h : (get st.n k).isSome = true) : (gets st.n k).no = k ∧ 1 ≤ k := by
  obtain ⟨x, hx⟩ := Option.isSome_iff_exists.1 h
  rw [gets_some hx]
  have := hI.given x (get_some hx).1
  have h2 := (get_some hx).2
  exact ⟨h2, by omega⟩
theorem shown_len (st : St) (l : List E.Ent) : (shown st l).length = l.length := List.length_map ..
theorem shown_at {st : St} {l : List E.Ent} {i : Nat} {x : E.Ent} (h : (shown st l)[i]? = some x) : ∃ y, l[i]? = some y ∧ x = ⟨y.name, over st.d y.no⟩ := by
  unfold shown at h
  rw [List.getElem?_map] at h
  cases e : l[i]? with
  | none => rw [e] at h; cases h
  | some y => rw [e] at h; cases h; exact ⟨y, rfl, rfl⟩
end Go.Proofs.YtenopnfclbegbaaGreat.P
