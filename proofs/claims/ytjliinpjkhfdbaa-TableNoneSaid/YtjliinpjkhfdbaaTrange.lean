/-
  A loop over an iterator function that yields what lies in memory: of each that comes something is known in the world in which it comes; the body goes on to the end.
-/
import Derived.Test.YtjliinpjkhfdbaaTrise
import Derived.RangeFuncNested
import Derived.RangeFuncBound
import Derived.RangeFuncCalls
import Derived.RangeFuncLeaves
import Derived.RangeFuncWrites
import Derived.Shelf.Abstract
import Derived.OwnWalkIn
import Derived.TacticsInMore
import Derived.LoopNIn
import Derived.LoopIn
import Derived.Scope
import Derived.WalkMore
namespace Go.Proofs.Ytjliinpjkhfdbaa.T
open Go.RowKit Go.Shelf
attribute [local go_sem] Oper.semAt_some

/-- how a round's body is to be left: off its end, what lay below n₀ as it lay -/
def onPost (B n₀ : Nat) (I : World → Prop) (X : World) : Exit → Act → World → Prop
  | .normal, _, Y => KeepsFrom B X Y ∧ Below n₀ X Y ∧ I Y
  | _, _, _ => False
/-- what the law asks of the iterator: it yields as many as xs has, the k-th one such that G holds of it; what lies below n₀ must stay -/
def YieldsAll {α β : Type} (n : Nat) (P : Program) (gf : Nat) (lb : Array Value) (encs : β → Array Value) (xs : List α) (G : α → β → World → Prop) (n₀ : Nat) (w : World) : Prop :=
  ∀ (l : Nat) (J : Nat → World → Prop) (W : World), Below w.heap.size w W → (∀ k X Y, J k X → X.grownBy Y none → J k Y) →
    (∀ k x y X, xs[k]? = some x → G x y X → J k X → YieldAt Fence.wide (n - 1) P l (encs y) X fun e Y => e = .returned (.bool true) ∧ J (k + 1) Y ∧ Below n₀ X Y) →
    J 0 W → CallsIn Fence.wide n P gf (#[.func (.yield l) #[] #[]] ++ lb) W fun e Y => (∃ v, e = .returned v) ∧ J xs.length Y

theorem range_in {α β : Type} {n : Nat} {P : Program} {g : Operand} {ps : Array Tmp} {assign body : Code} {Q : Exit → Act → World → Prop} {a : Act} {w : World} (h1 : 1 ≤ n) {gf : Nat} {lb : Array Value}
    (hg : a.eval g = .func (.func gf) #[] lb) (eg : ∀ args w, (callFunc gf args).run P w = .ok (.enter gf args) w) {encs : β → Array Value} (hps : ∀ y, (encs y).size = ps.size)
    (xs : List α) (G : α → β → World → Prop) (n₀ : Nat) (hn₀ : n₀ ≤ w.heap.size) (hseq : YieldsAll (n - 1) P gf lb encs xs G n₀ w)
    (I : Nat → World → Prop) (hI : OwnFrom w.heap.size I) (h0 : I 0 w) (Ax : α → β → Act → World → Prop) (hAx : ∀ x y a', OwnFrom w.heap.size (fun (_ : Unit) W => Ax x y a' W))
    (hassign : ∀ (l k : Nat) (x : α) (y : β) (W : World) (K : Act → World → Prop), xs[k]? = some x → G x y W → I k W → (∀ a' W', KeepsFrom w.heap.size W W' → Below n₀ W W' → I k W' → Ax x y a' W' → K a' W') → assign.wpIn (Fence.wide.inRound l) (n - 1 - 1) P (Exit.then K (fun _ _ _ => False)) { tmps := (ps.zip (encs y)).foldl (fun t (p, v) => t.setIfInBounds p v) a.tmps, defers := [] } W)
    (hbody : ∀ (l k : Nat) (x : α) (y : β) (a' : Act) (X : World), xs[k]? = some x → Ax x y a' X → I k X → body.wpIn (Fence.wide.inRound l) (n - 1 - 1) P (onPost w.heap.size n₀ (I (k + 1)) X) a' X)
    (hdone : ∀ (D : Nat) (W : World), w.heap.size ≤ D → I xs.length W → W.heap[D]? = some (.deferred (some [])) → Q .normal { a with defers := { target := .collected D, args := #[] } :: a.defers } W) :
    (Code.rangeFunc g ps assign body).wpIn Fence.wide n P Q a w := by
  refine wpIn_rangeFunc fun fn hfn => ?_
  obtain ⟨R, hR⟩ : ∃ R : LoopState → Loop, R = fun st => { state := st, pending := none, fn, tmps := a.tmps, params := ps, assign, body, defers := w.heap.size } := ⟨_, rfl⟩
  obtain ⟨L, hL⟩ : ∃ L, L = w.heap.size + 1 := ⟨_, rfl⟩
  obtain ⟨V, hV⟩ : ∃ V, V = (w.alloc (.deferred (some []))).alloc (.loop (R .ready)) := ⟨_, rfl⟩
  have vl : V.heap[L]? = some (.loop (R .ready)) := by
    have := heap_alloc_new (w.alloc (.deferred (some []))) (.loop (R .ready))
    rw [World.size_alloc, ← hV, ← hL] at this; exact this
  have vd : V.heap[w.heap.size]? = some (.deferred (some [])) := by
    rw [hV]; exact (RowKit.Below.heap_alloc _ _ _ (by simp)).trans (heap_alloc_new w _)
  have vi : I 0 V := by rw [hV]; exact hI.alloc _ (hI.alloc _ h0)
  have vb : Below w.heap.size w V := by
    rw [hV]; exact ((Below.refl _ w).alloc (Nat.le_refl _) _).alloc (by simp) _
  -- a turn of the record
  have turn : ∀ {k : Nat} {X : World} {r : Loop} (r' : Loop), I k X → X.heap[L]? = some (.loop r) → I k (X.putObj L (.loop r')) := fun r' hi hl =>
    hI.putObj _ hi (by omega) hl rfl
  refine ⟨L, [{ target := .collected w.heap.size, args := #[] }], V, { target := .fn (.func gf) lb, args := #[.func (.yield L) #[] #[]] }, V, gf, #[.func (.yield L) #[] #[]] ++ lb, V, ?_, ?_, fun _ _ => trivial, ?_, fun _ => h1, ?_⟩
  · rw [hV, hL, hR]; exact run_enterLoop_outer _ _ _ _ _
  · simp only [resolve, hg]; simp [go_sem]
  · simp [invoke, go_sem, eg]
  refine (hseq L (fun k X => I k X ∧ X.heap[L]? = some (.loop (R .ready)) ∧ X.heap[w.heap.size]? = some (.deferred (some []))) V vb ?_ ?_ ⟨vi, vl, vd⟩).mono ?_
  · rintro k X Y ⟨hi, hl, hd⟩ hG
    exact ⟨hI k X Y none hi hG (fun r e => by cases e), (hG.block L (Array.getElem?_eq_some_iff.1 hl).1 (fun e => by cases e)).trans hl, (hG.block _ (Array.getElem?_eq_some_iff.1 hd).1 (fun e => by cases e)).trans hd⟩
  · rintro k x y X hx hgx ⟨hi, hl, hd⟩
    have hlt : L < X.heap.size := (Array.getElem?_eq_some_iff.1 hl).1
    have hy := run_yield (P := P) (args := encs y) hl (by rw [hR]; exact hps y)
    rw [hR] at hy
    refine ⟨fn, _, assign, body, hy, roundIn_of_wpIn hfn (hassign _ k x y X _ hx hgx hi fun a' X' hkf hbn hi' hax => ?_)⟩
    have hl' := hkf.same _ _ (by omega) hl rfl
    have hd' := hkf.same _ _ (Nat.le_refl _) hd rfl
    have hlt' : L < X'.heap.size := (Array.getElem?_eq_some_iff.1 hl').1
    refine ⟨_, run_beginRound hl' (by rw [hR]), ?_⟩
    obtain ⟨X2, hX2⟩ : ∃ X2, X2 = X'.putObj L (.loop { R .ready with state := .busy }) := ⟨_, rfl⟩
    rw [← hX2]
    have i2 : I k X2 := by rw [hX2]; exact turn _ hi' hl'
    have g2 : Ax x y a' X2 := by rw [hX2]; exact (hAx x y a').putObj (s := ()) _ hax (by omega) hl' rfl
    have l2 : X2.heap[L]? = some (.loop { R .ready with state := .busy }) := by rw [hX2]; exact World.putObj_heap_same hlt'
    have d2 : X2.heap[w.heap.size]? = some (.deferred (some [])) := by rw [hX2]; exact (World.putObj_heap_other (by omega)).trans hd'
    have b2 : Below n₀ X X2 := by rw [hX2]; exact hbn.trans (belowK_b hn₀ X' L _ _ (by omega) hl' rfl rfl)
    refine wpIn_mono (hbody _ k x y a' X2 hx g2 i2) ?_
    rintro e a3 Y hp
    cases e with
    | normal =>
      obtain ⟨hk, hkb, hiY⟩ := hp
      have l3 := hk.same _ _ (by omega) l2 rfl
      have d3 := hk.same _ _ (Nat.le_refl _) d2 rfl
      refine ⟨_, _, run_endRound none l3, rfl, ⟨turn _ hiY l3, ?_, ?_⟩, (b2.trans hkb).trans (belowK_b hn₀ Y L _ _ (by omega) l3 rfl rfl)⟩
      · rw [World.putObj_heap_same (Array.getElem?_eq_some_iff.1 l3).1, hR]; rfl
      · exact (World.putObj_heap_other (by omega)).trans d3
    | ret => exact hp.elim
    | exit id => exact hp.elim
    | goto t => exact hp.elim
    | panic ch => exact hp.elim
    | outgrown => exact hp.elim
  · rintro e Y ⟨⟨v, rfl⟩, hi, hl, hd⟩
    refine ⟨none, _, by have := run_endLoop (P := P) hl (by rw [hR]; simp); rw [hR] at this; exact this, ?_⟩
    exact hdone _ _ (Nat.le_refl _) (turn _ hi hl) ((World.putObj_heap_other (by omega)).trans hd)

theorem below_grown {W W' : World} (hb : Below W.heap.size W W') : W.grownBy W' none := ⟨hb.os, hb.tape, hb.output, hb.size, fun k hk _ => hb.block k hk⟩
/-- what is known of a node that comes: its entries lie in memory -/
def GN (x : Nd) (s : Nd × Value) (W : World) : Prop := s.1 = x ∧ E.Own 0 s.2 x.es W
theorem GN.own (B : Nat) (x : Nd) : OwnFrom B (GN x) := fun s W W' row hs hg hr => by
  refine ⟨hs.1, own_block hs.2 fun g cur hc => ?_⟩
  refine (hg.block g (Array.getElem?_eq_some_iff.1 hc).1 (fun e => ?_)).trans hc
  obtain ⟨_, o, ho, hn⟩ := hr g e.symm
  rw [hc] at ho; cases ho; cases hn

set_option maxRecDepth 100000 in
set_option maxHeartbeats 4000000 in
theorem all1_in (n : Nat) (hn : 1 ≤ n) (l Bn n₀ : Nat) (xs : Row) (hl : xs.length < 1000000) (oa : Option Addr) (cap : Nat) (J : Nat → World → Prop) (hJ : ∀ k X Y, J k X → X.grownBy Y none → J k Y)
    (hY : ∀ k x y X, (xs.map Prod.fst)[k]? = some x → GN x y X → J k X → YieldAt Fence.wide (n - 1) Try.prog l #[y.1.v y.2] X fun e Y => e = .returned (.bool true) ∧ J (k + 1) Y ∧ Below n₀ X Y)
    (W : World) (hn0 : n₀ ≤ W.heap.size) (hBn : W.cell? ⟨Bn, 0, none⟩ = some (.slice oa xs.length cap)) (hC : ∀ (k : Nat) (p : Nd × Value), xs[k]? = some p → ∃ g o, oa = some ⟨g, o, none⟩ ∧ g < n₀ ∧ At g (o + k * 12) p.1 p.2 W)
    (hE : ∀ (k : Nat) (p : Nd × Value) (X : World), xs[k]? = some p → Below n₀ W X → E.Sees p.2 p.1.es X ∧ Fits p.1.es) (h0 : J 0 W) :
    CallsIn Fence.wide n Try.prog 22 #[.func (.yield l) #[] #[], .pointer (some ⟨Bn, 0, none⟩)] W fun e Y => (∃ v, e = .returned v) ∧ J (xs.map Prod.fst).length Y := by
  have HC := Lib.hid hC; have HE := Lib.hid hE
  clear hC hE
  refine callsIn_of_wp Try.func22 rfl trivial ?_ rfl
  simp only [Try.ntmps22, List.size_toArray, List.length_cons, List.length_nil, Nat.reduceAdd, Nat.reduceSub, Array.replicate_succ, Array.replicate_zero, List.push_toArray, List.append_toArray, List.nil_append, List.cons_append]
  gi_wp2
  gi_loopw [7] (fun i wr => ∃ (k : Nat), i = .int .i64 k ∧ k ≤ xs.length ∧ J k wr ∧ Below n₀ W wr) (fun i _ => xs.length - (intOf i).toNat)
  case atStart => exact ⟨0, rfl, Nat.zero_le _, h0, Below.refl _ _⟩
  case round =>
    obtain ⟨k, rfl, hk, hJs, hbw⟩ := hrel
    by_cases hlt : k < xs.length
    · obtain ⟨p, hp⟩ : ∃ p, xs[k]? = some p := ⟨_, List.getElem?_eq_getElem hlt⟩
      obtain ⟨g, o, rfl, hg, hat⟩ := HC.out k p hp
      obtain ⟨c0, c1, c2, c3, c4, c5, c6, c7, c8, c9, c10, c11⟩ := (hat.below hbw hg).facts
      have hxk : (xs.map Prod.fst)[k]? = some p.1 := by rw [List.getElem?_map, hp]; rfl
      have hsee := fun X hX => HE.out k p X hp hX
      obtain ⟨oa, cs, hsl⟩ : ∃ oa c, p.2 = .slice oa p.1.es.length c := by
        obtain ⟨oa, c, e, _⟩ := (hsee wr hbw).1
        exact ⟨oa, c, e⟩
      have hb1 : Below wr.heap.size wr (wr.alloc (.cells #[.int .i64 p.1.no, .int .i64 p.1.dev, .int .i64 p.1.kind, .int .i64 p.1.mode, .int .i64 p.1.uid, .int .i64 p.1.gid, .int .i64 p.1.mt, .int .i64 p.1.ct, .int .i64 p.1.links, .int .i64 p.1.up, .string p.1.data, p.2] 29)) := (Below.refl _ _).alloc (Nat.le_refl _) _
      have hsz := hbw.size
      have hbw1 := hbw.trans (hb1.mono (Nat.le_trans hn0 hsz))
      have call := fun hS => apart_any p.1 (s := p.2) (w := wr.alloc (.cells #[.int .i64 p.1.no, .int .i64 p.1.dev, .int .i64 p.1.kind, .int .i64 p.1.mode, .int .i64 p.1.uid, .int .i64 p.1.gid, .int .i64 p.1.mt, .int .i64 p.1.ct, .int .i64 p.1.links, .int .i64 p.1.up, .string p.1.data, p.2] 29)) hS (hsee wr hbw).2
      have call := call (hsee _ hbw1).1
      obtain ⟨⟨no, dev, kind, mode, uid, gid, mt, ct, links, up, data, es⟩, s⟩ := p
      dsimp only at hsl hb1 hbw1 call c0 c1 c2 c3 c4 c5 c6 c7 c8 c9 c10 c11 hxk
      subst hsl
      dsimp only [Nd.v] at call
      have HX := Lib.hid hxk; have HB1 := Lib.hid hb1; have HBW := Lib.hid hbw1; have HS := Lib.hid hsz
      clear hxk hb1 hbw1 hsee hat hp hsz
      gi_wp2_with (refine ⟨trivial, ?_⟩; gi_at_call 18; refine (callsIn_wide.2 call).mono ?_; rintro e w3 ⟨u, rfl, hO, hb3⟩
                   obtain ⟨ou, cu, rfl⟩ := own_slice hO
                   have hJ3 := hJ _ _ _ (hJ _ _ _ hJs (below_grown HB1.out)) (below_grown hb3)
                   obtain ⟨fn, tmps, assign, body, hy, hR⟩ := hY k _ (_, .slice ou es.length cu) w3 HX.out ⟨rfl, hO.mono (Nat.zero_le _)⟩ hJ3
                   dsimp only [Nd.v] at hy hR)
      refine hR.mono ?_
      rintro e W3 ⟨rfl, hJ4, hk4⟩
      gi_wp2
      go_roundw
      case rel => exact ⟨k + 1, by go_num, by omega, hJ4, HBW.out.trans ((hb3.mono (Nat.le_trans (Nat.le_trans hn0 HS.out) HB1.out.size)).trans hk4)⟩
      case measure => simp [intOf]; omega
    · obtain rfl : k = xs.length := by omega
      gi_wp2
      go_end0
      exact ⟨⟨_, rfl⟩, by rw [List.length_map]; exact hJs⟩
end Go.Proofs.Ytjliinpjkhfdbaa.T
