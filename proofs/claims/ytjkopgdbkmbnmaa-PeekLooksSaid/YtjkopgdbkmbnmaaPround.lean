/-
  A region that draws its order, with calls by their contracts, inside a round of a range over a function: the plain walk serves, where no operation is a defer.
-/
import Derived.Test.YtjkopgdbkmbnmaaAll
import Derived.Test.YtjkopgdbkmbnmaaPstep
import Derived.Deep.RegionHeld3
import Derived.RangeFuncCalls
namespace Go.Proofs.Ytjkopgdbkmbnmaa.P
open Go.RowKit Go.Shelf

/-- Q at the plain end alone -/
def Nor (Q : Exit → Act → World → Prop) : Exit → Act → World → Prop
  | .normal, a, w => Q .normal a w
  | _, _, _ => False
theorem Nor.imp {Q : Exit → Act → World → Prop} : ∀ (e : Exit) (a : Act) (w : World), Nor Q e a w → Q e a w := fun e a w h => by
  cases e <;> first | exact h | exact (h : False).elim
section
variable {l n : Nat} {P : Program} {ops : Array Oper} {md : Region.Mode} {Q : Exit → Act → World → Prop}
theorem lets_no : ¬ LetsOut (Nor Q) := by
  rintro ⟨a, w, h⟩
  exact h
theorem wpIn_of_wp {o : Oper} {a : Act} {w : World} {K : Act → World → Prop} (hnd : ∀ c, o.op ≠ .defer c) (h : o.wp P a w K (Nor Q)) : o.wpIn (Fence.wide.inRound l) n P a w K (Nor Q) := by
  unfold Oper.wp at h
  unfold Oper.wpIn
  refine ⟨fun _ _ => trivial, ?_⟩
  rw [Oper.semAt_eq _ _ _ hnd]
  generalize (execOp a.eval o).run P w = r at *
  cases r with
  | ok x w' =>
    cases x <;> simp only [Oper.upon] at h <;> simp only [Oper.uponIn]
    case value u => exact h
    case skip => exact h
    case defer d => exact h
    case enter f args =>
      refine ⟨fun e => (by cases e), ?_⟩
      have h1 := (callsIn_wide (n := n - 1)).2 h
      exact h1.inRound l
    case row r args =>
      refine ⟨fun e => (by cases e), fun c cs _ => ?_⟩
      obtain ⟨v, w'', hR, hs⟩ := h c cs
      exact ⟨v, w'', hR, stepsIn_wide.2 hs⟩
  | halt x w' => cases x <;> simp only [Oper.upon] at h <;> exact h
theorem wpAnyIn_of_wpAny (hnd : ∀ (i : Nat) o, ops[i]? = some o → ∀ c, o.op ≠ .defer c) : ∀ (fuel : Nat) (listed : Array Bool) (a : Act) (w : World), wpAny P md ops (Nor Q) fuel listed a w → wpAnyIn (Fence.wide.inRound l) n P md ops (Nor Q) fuel listed a w
  | 0, _, _, _, h => h
  | fuel + 1, listed, a, w, h => ⟨h.1, fun i hi => by
    have h1 := h.2 i hi
    unfold wpOp at h1
    unfold wpOpIn
    split
    · rename_i ho; simp only [ho] at h1; exact wpAnyIn_of_wpAny hnd fuel _ _ _ h1
    · rename_i o ho
      simp only [ho] at h1
      split
      · rename_i hw
        simp only [hw, if_true] at h1
        rcases h1 with h1 | h1
        · exact Oper.wpIn_mono (fun a' w' h' => wpAnyIn_of_wpAny hnd fuel _ a' w' h') (wpIn_of_wp (hnd i o ho) h1)
        · exact absurd h1.2 lets_no
      · rename_i hw
        simp only [hw] at h1
        exact ⟨fun _ _ => trivial, wpAnyIn_of_wpAny hnd fuel _ _ _ h1⟩⟩
theorem wpIn_region_all {id : Nat} {a : Act} {w : World} {L : List Oper} (hm : P.follows .mixedOrders = true) (hp : L.all E.plainOp = true)
    (h : wpAny P .any L.toArray (Nor Q) L.toArray.size (Array.replicate L.toArray.size false) a w.drew) : (Code.region id L.toArray true).wpIn (Fence.wide.inRound l) n P Q a w :=
  wpIn_mono (wpIn_region_any hm (wpAnyIn_of_wpAny (fun i o ho => E.plainOp_ne (List.all_eq_true.1 hp o (List.mem_of_getElem? (by simpa using ho)))) _ _ _ _ h)) Nor.imp
theorem wpIn_region_round {id : Nat} {a : Act} {w : World} {L : List Oper} (hm : P.follows .mixedOrders = true) (hp : L.all E.plainOp = true) {S : World → Prop}
    (h : wpAnyH P .any L.toArray (Nor Q) S L.toArray.size (Array.replicate L.toArray.size false) a w.drew) : (Code.region id L.toArray true).wpIn (Fence.wide.inRound l) n P Q a w :=
  wpIn_region_all hm hp (wpAny_of_held _ _ _ _ h)
/-- an operation that yields in every world that meets S is taken first -/
theorem tk {S : World → Prop} {i d : Nat} {oi : Oper} {v : Value} {fuel : Nat} {listed : Array Bool} {a : Act} {w : World} (hi : ops[i]? = some oi) (hd : oi.dst = some d)
    (hs : Region.noSelect ops = true) (hf : Region.free md ops listed i = true) (hr : (Region.ready md ops listed).contains i = true)
    (hy : YieldsIf P ops S oi v a) (hS : S w)
    (h : wpAnyH P md ops (Nor Q) S fuel (listed.setIfInBounds i true) (a.put (some d) v) w) : wpAnyH P md ops (Nor Q) S (fuel + 1) listed a w :=
  wpAnyH_take hi hs hf hr (fun c a w hq => hq) hy hS (by rw [hd]; exact h)
end
end Go.Proofs.Ytjkopgdbkmbnmaa.P
