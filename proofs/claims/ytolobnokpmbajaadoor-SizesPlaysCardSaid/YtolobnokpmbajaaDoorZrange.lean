/-
  A loop over an iterator function that keeps its place in a variable of its own (a block C of one cell), whose body goes on to the end.
-/
import Derived.Test.YtolobnokpmbajaaDoorProg
import Derived.RangeFuncNested
import Derived.RangeFuncBound
import Derived.RangeFuncCalls
import Derived.RangeFuncLeaves
import Derived.RangeFuncBox
import Derived.RangeFuncWrites
namespace Go.Proofs.YtolobnokpmbajaaDoor.Z
open Go.RowKit

/-- how a round's body is to be left: off its end -/
def onPost (B : Nat) (bs : List Nat) (I : World → Prop) (X : World) : Exit → Act → World → Prop
  | .normal, _, Y => KeepsFrom B X Y ∧ (∀ b ∈ bs, Y.heap[b]? = X.heap[b]?) ∧ I Y
  | _, _, _ => False
/-- what the law asks of the iterator: it yields all of xs, in order; only its own block C turns by its doing -/
def YieldsAll {α : Type} (n : Nat) (P : Program) (gf : Nat) (lb : Array Value) (encs : α → Array Value) (xs : List α) (C : Nat) (bs : List Nat) (w : World) : Prop :=
  ∀ (l : Nat) (J : Nat → World → Prop) (W : World), Below w.heap.size w W → (∀ k X Y, J k X → X.grownBy Y (some C) → J k Y) →
    (∀ k x X, xs[k]? = some x → J k X → YieldAt Fence.wide (n - 1) P l (encs x) X fun e Y => e = .returned (.bool true) ∧ J (k + 1) Y ∧ ∀ b ∈ bs, Y.heap[b]? = X.heap[b]?) →
    J 0 W → CallsIn Fence.wide n P gf (#[.func (.yield l) #[] #[]] ++ lb) W fun e Y => (∃ v, e = .returned v) ∧ J xs.length Y

theorem range_cells {α : Type} {n : Nat} {P : Program} {g : Operand} {ps : Array Tmp} {assign body : Code} {Q : Exit → Act → World → Prop} {a : Act} {w : World} (h1 : 1 ≤ n) {gf : Nat} {lb : Array Value}
    (hg : a.eval g = .func (.func gf) #[] lb) (eg : ∀ args w, (callFunc gf args).run P w = .ok (.enter gf args) w) {encs : α → Array Value} (hps : ∀ x, (encs x).size = ps.size)
    (xs : List α) (C : Nat) (hC : C < w.heap.size) (bs : List Nat) (hbs : ∀ b ∈ bs, b < w.heap.size) (hseq : YieldsAll (n - 1) P gf lb encs xs C bs w)
    (I : Nat → World → Prop) (hI : ∀ k X Y r, I k X → X.grownBy Y (some r) → (r = C ∨ w.heap.size ≤ r ∧ ∃ o : Obj, X.heap[r]? = some o ∧ o.isCells = false) → I k Y) (h0 : I 0 w) (a₁ : α → Act)
    (hassign : ∀ (l : Nat) (x : α) (W : World) (K : Act → World → Prop), K (a₁ x) W → assign.wpIn (Fence.wide.inRound l) (n - 1 - 1) P (Exit.then K (fun _ _ _ => False)) { tmps := (ps.zip (encs x)).foldl (fun t (p, v) => t.setIfInBounds p v) a.tmps, defers := [] } W)
    (hbody : ∀ (l k : Nat) (x : α) (X : World), xs[k]? = some x → I k X → body.wpIn (Fence.wide.inRound l) (n - 1 - 1) P (onPost w.heap.size bs (I (k + 1)) X) (a₁ x) X)
    (hdone : ∀ (D : Nat) (W : World), w.heap.size ≤ D → I xs.length W → W.heap[D]? = some (.deferred (some [])) → Q .normal { a with defers := { target := .collected D, args := #[] } :: a.defers } W) :
    (Code.rangeFunc g ps assign body).wpIn Fence.wide n P Q a w := by
  refine wpIn_rangeFunc fun fn hfn => ?_
  obtain ⟨R, hR⟩ : ∃ R : LoopState → Loop, R = fun st => { state := st, pending := none, fn, tmps := a.tmps, params := ps, assign, body, defers := w.heap.size } := ⟨_, rfl⟩
  obtain ⟨L, hL⟩ : ∃ L, L = w.heap.size + 1 := ⟨_, rfl⟩
  obtain ⟨V, hV⟩ : ∃ V, V = (w.alloc (.deferred (some []))).alloc (.loop (R .ready)) := ⟨_, rfl⟩
  have vl : V.heap[L]? = some (.loop (R .ready)) := by
    have := heap_alloc_new (w.alloc (.deferred (some []))) (.loop (R .ready))
    rw [World.size_alloc, ← hV, ← hL] at this; exact this
  have vd : V.heap[w.heap.size]? = some (.deferred (some [])) := by
    rw [hV]; exact (heap_alloc_old _ _ _ (by simp)).trans (heap_alloc_new w _)
  have vi : I 0 V := by
    rw [hV]
    exact hI _ _ _ C (hI _ _ _ C h0 (World.grownBy_alloc _ _ _) (.inl rfl)) (World.grownBy_alloc _ _ _) (.inl rfl)
  have vb : Below w.heap.size w V := by
    rw [hV]; exact ((Below.refl _ w).alloc (Nat.le_refl _) _).alloc (by simp) _
  -- a turn of the record
  have turn : ∀ {k : Nat} {X : World} {r : Loop} (r' : Loop), I k X → X.heap[L]? = some (.loop r) → I k (X.putObj L (.loop r')) := fun r' hi hl =>
    hI _ _ _ L hi (grownBy_putObj' _ L _) (.inr ⟨by omega, _, hl, rfl⟩)
  refine ⟨L, [{ target := .collected w.heap.size, args := #[] }], V, { target := .fn (.func gf) lb, args := #[.func (.yield L) #[] #[]] }, V, gf, #[.func (.yield L) #[] #[]] ++ lb, V, ?_, ?_, fun _ _ => trivial, ?_, fun _ => h1, ?_⟩
  · rw [hV, hL, hR]; exact run_enterLoop_outer _ _ _ _ _
  · simp only [resolve, hg]; simp [go_sem]
  · simp [invoke, go_sem, eg]
  refine (hseq L (fun k X => I k X ∧ X.heap[L]? = some (.loop (R .ready)) ∧ X.heap[w.heap.size]? = some (.deferred (some []))) V vb ?_ ?_ ⟨vi, vl, vd⟩).mono ?_
  · rintro k X Y ⟨hi, hl, hd⟩ hG
    exact ⟨hI _ _ _ C hi hG (.inl rfl), (hG.block L (Array.getElem?_eq_some_iff.1 hl).1 (fun e => by cases e; omega)).trans hl, (hG.block _ (Array.getElem?_eq_some_iff.1 hd).1 (fun e => by cases e; omega)).trans hd⟩
  · rintro k x X hx ⟨hi, hl, hd⟩
    have hlt : L < X.heap.size := (Array.getElem?_eq_some_iff.1 hl).1
    have hy := run_yield (P := P) (args := encs x) hl (by rw [hR]; exact hps x)
    rw [hR] at hy
    refine ⟨fn, _, assign, body, hy, roundIn_of_wpIn hfn (hassign _ x X _ ⟨_, run_beginRound hl (by rw [hR]), ?_⟩)⟩
    obtain ⟨X2, hX2⟩ : ∃ X2, X2 = X.putObj L (.loop { R .ready with state := .busy }) := ⟨_, rfl⟩
    rw [← hX2]
    have i2 : I k X2 := by rw [hX2]; exact turn _ hi hl
    have l2 : X2.heap[L]? = some (.loop { R .ready with state := .busy }) := by rw [hX2]; exact World.putObj_heap_same hlt
    have d2 : X2.heap[w.heap.size]? = some (.deferred (some [])) := by rw [hX2]; exact (World.putObj_heap_other (by omega)).trans hd
    have b2 : ∀ b ∈ bs, X2.heap[b]? = X.heap[b]? := fun b hb => by
      have := hbs b hb
      rw [hX2]; exact World.putObj_heap_other (by omega)
    refine wpIn_mono (hbody _ k x X2 hx i2) ?_
    rintro e a3 Y hp
    cases e with
    | normal =>
      obtain ⟨hk, hkb, hiY⟩ := hp
      have l3 := hk.same _ _ (by omega) l2 rfl
      have d3 := hk.same _ _ (Nat.le_refl _) d2 rfl
      refine ⟨_, _, run_endRound none l3, rfl, ⟨turn _ hiY l3, ?_, ?_⟩, fun b hb => ?_⟩
      · rw [World.putObj_heap_same (Array.getElem?_eq_some_iff.1 l3).1, hR]; rfl
      · exact (World.putObj_heap_other (by omega)).trans d3
      · have := hbs b hb
        exact (World.putObj_heap_other (by omega)).trans ((hkb b hb).trans (b2 b hb))
    | ret => exact hp.elim
    | exit id => exact hp.elim
    | goto t => exact hp.elim
    | panic ch => exact hp.elim
    | outgrown => exact hp.elim
  · rintro e Y ⟨⟨v, rfl⟩, hi, hl, hd⟩
    refine ⟨none, _, by have := run_endLoop (P := P) hl (by rw [hR]; simp); rw [hR] at this; exact this, ?_⟩
    exact hdone _ _ (Nat.le_refl _) (turn _ hi hl) ((World.putObj_heap_other (by omega)).trans hd)
end Go.Proofs.YtolobnokpmbajaaDoor.Z
