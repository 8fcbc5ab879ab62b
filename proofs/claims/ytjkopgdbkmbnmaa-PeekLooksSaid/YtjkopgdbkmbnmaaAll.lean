/-
  ents.All: the iterator yields the entries in their order, or the first of them where the round says no more; a region that draws its order and only reads, inside a round.
-/
import Derived.Test.YtjkopgdbkmbnmaaTab
import Derived.RangeFuncNested
import Derived.RangeFuncBound
import Derived.RangeFuncCalls
import Derived.RangeFuncLeaves
import Derived.Shelf.Abstract
import Derived.OwnWalkIn
import Derived.TacticsInMore
import Derived.LoopNIn
import Derived.LoopIn
import Derived.Scope
import Derived.WalkMore
import Derived.Sort.QuietIn
namespace Go.Proofs.Ytjkopgdbkmbnmaa.E
open Go.RowKit Go.Shelf
attribute [local go_sem] Oper.semAt_some

set_option maxHeartbeats 4000000 in
/-- what All answers: a function over a box that holds a copy -/
theorem all_any {v : Value} {ls : List Ent} {w : World} (hS : Sees v ls w) (hl : ls.length ≤ 100000) :
    Calls Try.prog 26 #[v] w fun e w' => ∃ b u, e = .returned (.func (.func 49) #[] #[.pointer (some ⟨b, 0, none⟩)]) ∧ Boxed w' b 43 u ∧ w.heap.size ≤ b ∧ Own w.heap.size u ls w' ∧ Below w.heap.size w w' := by
  have cc := T.clone_any hS (show ls.length * 24 ≤ 140737488355328 by omega)
  obtain ⟨oa, cap, rfl, _⟩ := hS
  go_enter Try.func26, Try.ntmps26
  go_wp2_with (go_at_call 48; refine cc.mono ?_; rintro e w1 ⟨u, rfl, hO, hb⟩; have hs := hO.sees; have HO := Lib.hid hO; clear hO; obtain ⟨ou, cu, rfl, _⟩ := hs)
  go_ret
  have hb2 : Below w1.heap.size w1 (w1.alloc (.cells #[.slice ou ls.length cu] 43)) := (Below.refl _ _).alloc (Nat.le_refl _) _
  exact ⟨w1.heap.size, _, rfl, Boxed.new _ _ _, hb.size, HO.out.below hb2, below_two hb hb2⟩

theorem below_grown {W W' : World} (hb : Below W.heap.size W W') : W.grownBy W' none := ⟨hb.os, hb.tape, hb.output, hb.size, fun k hk _ => hb.block k hk⟩
theorem abides_below {β : Type} {B : Nat} {J : β → World → Prop} (hJ : AbidesFrom B J) {s : β} {W W' : World} (h : J s W) (hb : Below W.heap.size W W') : J s W' :=
  hJ s W _ none h (below_grown hb) (fun _ e => by cases e)
theorem take_next {xs : List Ent} {k : Nat} {x : Ent} (h : xs[k]? = some x) : xs.take (k + 1) = xs.take k ++ [x] := by rw [List.take_add_one, h]; rfl

/-- entries in memory below a place -/
def Low (n₀ : Nat) (oa : Option Addr) (xs : List Ent) (W : World) : Prop := ∀ k x, xs[k]? = some x → ∃ g o, oa = some ⟨g, o, none⟩ ∧ g < n₀ ∧ W.cell? ⟨g, o + k * 2, none⟩ = some (.string ⟨x.name.toArray⟩) ∧ W.cell? ⟨g, o + k * 2 + 1, none⟩ = some (.int .i64 x.no)

set_option maxRecDepth 100000 in
set_option maxHeartbeats 2000000 in
theorem all1_in (n : Nat) (hn : 1 ≤ n) (l Bn n₀ B : Nat) (xs : List Ent) (hl : xs.length ≤ 100000) (oa : Option Addr) (cap : Nat) (J Jx : List Ent → World → Prop) (hJ : AbidesFrom B J)
    (hY : ∀ pre (x : Ent) W, J pre W → pre.length < xs.length → YieldAt Fence.wide (n - 1) Try.prog l #[.string ⟨x.name.toArray⟩, .int .i64 x.no] W fun e W' =>
      (e = .returned (.bool true) ∧ J (pre ++ [x]) W' ∧ Below n₀ W W') ∨ (e = .returned (.bool false) ∧ Jx (pre ++ [x]) W'))
    (W : World) (hBn : W.cell? ⟨Bn, 0, none⟩ = some (.slice oa xs.length cap)) (hC : Low n₀ oa xs W) (hn0 : n₀ ≤ W.heap.size) (h0 : J [] W) :
    CallsIn Fence.wide n Try.prog 49 #[.func (.yield l) #[] #[], .pointer (some ⟨Bn, 0, none⟩)] W fun e W' => (∃ v, e = .returned v) ∧
      ((∃ ys, ys = xs ∧ J ys W') ∨ (∃ pre, pre <+: xs ∧ Jx pre W')) := by
  have HC := Lib.hid hC
  clear hC
  refine callsIn_of_wp Try.func49 rfl trivial ?_ rfl
  simp only [Try.ntmps49, List.size_toArray, List.length_cons, List.length_nil, Nat.reduceAdd, Nat.reduceSub, Array.replicate_succ, Array.replicate_zero, List.push_toArray, List.append_toArray, List.nil_append, List.cons_append]
  gi_wp2
  gi_loopw [7] (fun i wr => ∃ (k : Nat), i = .int .i64 k ∧ k ≤ xs.length ∧ J (xs.take k) wr ∧ Below n₀ W wr) (fun i _ => xs.length - (RowKit.intOf i).toNat)
  case atStart => exact ⟨0, rfl, Nat.zero_le _, h0, Below.refl _ _⟩
  case round =>
    obtain ⟨k, rfl, hk, hJs, hbw⟩ := hrel
    by_cases hlt : k < xs.length
    · obtain ⟨x, hx⟩ : ∃ x, xs[k]? = some x := ⟨_, List.getElem?_eq_getElem hlt⟩
      obtain ⟨g, o, rfl, hg, c0, c1⟩ := HC.out k x hx
      have d0 := (hbw.cell (p := ⟨g, o + k * 2, none⟩) hg).trans c0
      have d1 := (hbw.cell (p := ⟨g, o + k * 2 + 1, none⟩) hg).trans c1
      have HT := Lib.hid (take_next hx)
      have hb1 : Below wr.heap.size wr (wr.alloc (.cells #[.string ⟨x.name.toArray⟩, .int .i64 x.no] 61)) := (Below.refl _ _).alloc (Nat.le_refl _) _
      have hpl : (xs.take k).length < xs.length := by rw [List.length_take]; omega
      obtain ⟨fn, tmps, assign, body, hy, hR⟩ := hY (xs.take k) x _ (abides_below hJ hJs hb1) hpl
      have HB1 := Lib.hid hb1
      clear c0 c1 hx hb1
      gi_wp2
      refine hR.mono ?_
      rintro e W3 (⟨rfl, hJ3, hk3⟩ | ⟨rfl, hJx3⟩)
      · gi_wp2
        go_roundw
        case rel => exact ⟨k + 1, by go_num, by omega, by rw [HT.out]; exact hJ3, hbw.trans (Below.trans (HB1.out.mono (Nat.le_trans hn0 hbw.size)) hk3)⟩
        case measure => simp [RowKit.intOf]; omega
      · gi_wp2
        refine bodyPost_ret (results_none rfl _ _ _) rfl ?_
        exact ⟨⟨_, rfl⟩, .inr ⟨xs.take k ++ [x], by rw [← HT.out]; exact List.take_prefix _ _, hJx3⟩⟩
    · have hall : xs.take k = xs := List.take_of_length_le (by omega)
      rw [hall] at hJs
      gi_wp2
      go_end0
      exact ⟨⟨_, rfl⟩, .inl ⟨xs, rfl, hJs⟩⟩

theorem all_stops (n : Nat) (hn : 1 ≤ n) (Bn n₀ : Nat) (xs : List Ent) (hl : xs.length ≤ 100000) (oa : Option Addr) (cap : Nat) (w : World) (hBn : Bn < n₀) (hn0 : n₀ ≤ w.heap.size)
    (hc : w.cell? ⟨Bn, 0, none⟩ = some (.slice oa xs.length cap)) (hC : Low n₀ oa xs w) :
    SeqStopsK Fence.wide n Try.prog 49 #[.pointer (some ⟨Bn, 0, none⟩)] (fun x : Ent => #[Value.string ⟨x.name.toArray⟩, .int .i64 x.no]) (Below n₀) (fun ys => ys = xs) (fun pre => pre <+: xs) xs.length w :=
  fun l J Jx W hW hJ _ hY h0 => all1_in n hn l Bn n₀ W.heap.size xs hl oa cap J Jx hJ hY W ((hW.cell (p := ⟨Bn, 0, none⟩) (show Bn < w.heap.size by omega)).trans hc)
    (fun k x hx => by
      obtain ⟨g, o, e, hg, c0, c1⟩ := hC k x hx
      exact ⟨g, o, e, hg, (hW.cell (p := ⟨g, o + k * 2, none⟩) (show g < w.heap.size by omega)).trans c0, (hW.cell (p := ⟨g, o + k * 2 + 1, none⟩) (show g < w.heap.size by omega)).trans c1⟩)
    (Nat.le_trans hn0 hW.size) h0
/-- the blocks of p are as they were -/
structure Kept (p : Nat → Prop) (A B : World) : Prop where
  size : A.heap.size ≤ B.heap.size
  same : ∀ k, p k → B.heap[k]? = A.heap[k]?
theorem Kept.refl (p : Nat → Prop) (W : World) : Kept p W W := ⟨Nat.le_refl _, fun _ _ => rfl⟩
theorem Kept.trans {p : Nat → Prop} {A B C : World} (h : Kept p A B) (k : Kept p B C) : Kept p A C := ⟨Nat.le_trans h.size k.size, fun i hi => (k.same i hi).trans (h.same i hi)⟩
theorem Kept.of_below {p : Nat → Prop} {W W' : World} (hb : Below W.heap.size W W') (hlt : ∀ k, p k → k < W.heap.size) : Kept p W W' := ⟨hb.size, fun k hk => hb.block k (hlt k hk)⟩
theorem Kept.cell {p : Nat → Prop} {W W' : World} (h : Kept p W W') {g o : Nat} (hg : p g) : W'.cell? ⟨g, o, none⟩ = W.cell? ⟨g, o, none⟩ := by
  have := h.same g hg
  simp [World.cell?, this]
theorem Kept.put {p : Nat → Prop} {n₀ : Nat} (hlt : ∀ k, p k → k < n₀) (W : World) (l : Nat) (o o' : Obj) (hl : n₀ ≤ l) (h : W.heap[l]? = some o) (_ : o.isCells = false) (_ : o.isWalk = false) : Kept p W (W.putObj l o') :=
  ⟨(grownBy_putObj' W l o').size, fun k hk => (grownBy_putObj' W l o').block k (by have := hlt k hk; have := (Array.getElem?_eq_some_iff.1 h).1; omega) (fun e => by have h1 := hlt k hk; cases e; omega)⟩
set_option maxRecDepth 100000 in
set_option maxHeartbeats 2000000 in
theorem all2_in (n : Nat) (hn : 1 ≤ n) (l Bn B : Nat) (xs : List Ent) (hl : xs.length ≤ 100000) (oa : Option Addr) (cap : Nat) (J Jx : List Ent → World → Prop) (hJ : AbidesFrom B J) (p : Nat → Prop)
    (hY : ∀ pre (x : Ent) W, J pre W → pre.length < xs.length → YieldAt Fence.wide (n - 1) Try.prog l #[.string ⟨x.name.toArray⟩, .int .i64 x.no] W fun e W' =>
      (e = .returned (.bool true) ∧ J (pre ++ [x]) W' ∧ Kept p W W') ∨ (e = .returned (.bool false) ∧ Jx (pre ++ [x]) W'))
    (W : World) (hBn : W.cell? ⟨Bn, 0, none⟩ = some (.slice oa xs.length cap)) (hC : Sees (.slice oa xs.length cap) xs W) (hp : ∀ g o, oa = some ⟨g, o, none⟩ → p g) (hlt : ∀ k, p k → k < W.heap.size) (h0 : J [] W) :
    CallsIn Fence.wide n Try.prog 49 #[.func (.yield l) #[] #[], .pointer (some ⟨Bn, 0, none⟩)] W fun e W' => (∃ v, e = .returned v) ∧
      ((∃ ys, ys = xs ∧ J ys W') ∨ (∃ pre, pre <+: xs ∧ Jx pre W')) := by
  obtain ⟨_, _, hsl, _, hC⟩ := hC
  cases hsl
  have HC := Lib.hid hC
  clear hC
  refine callsIn_of_wp Try.func49 rfl trivial ?_ rfl
  simp only [Try.ntmps49, List.size_toArray, List.length_cons, List.length_nil, Nat.reduceAdd, Nat.reduceSub, Array.replicate_succ, Array.replicate_zero, List.push_toArray, List.append_toArray, List.nil_append, List.cons_append]
  gi_wp2
  gi_loopw [7] (fun i wr => ∃ (k : Nat), i = .int .i64 k ∧ k ≤ xs.length ∧ J (xs.take k) wr ∧ Kept p W wr) (fun i _ => xs.length - (RowKit.intOf i).toNat)
  case atStart => exact ⟨0, rfl, Nat.zero_le _, h0, Kept.refl _ _⟩
  case round =>
    obtain ⟨k, rfl, hk, hJs, hbw⟩ := hrel
    by_cases hlt2 : k < xs.length
    · obtain ⟨x, hx⟩ : ∃ x, xs[k]? = some x := ⟨_, List.getElem?_eq_getElem hlt2⟩
      obtain ⟨g, o, rfl, c0, c1⟩ := HC.out k x hx
      have hg := hp g o rfl
      have d0 := (hbw.cell (o := o + k * 2) hg).trans c0
      have d1 := (hbw.cell (o := o + k * 2 + 1) hg).trans c1
      have HT := Lib.hid (take_next hx)
      have hb1 : Below wr.heap.size wr (wr.alloc (.cells #[.string ⟨x.name.toArray⟩, .int .i64 x.no] 61)) := (Below.refl _ _).alloc (Nat.le_refl _) _
      have hpl : (xs.take k).length < xs.length := by rw [List.length_take]; omega
      obtain ⟨fn, tmps, assign, body, hy, hR⟩ := hY (xs.take k) x _ (abides_below hJ hJs hb1) hpl
      have HB1 := Lib.hid (Kept.of_below hb1 (fun k hk => Nat.lt_of_lt_of_le (hlt k hk) hbw.size))
      clear c0 c1 hx hb1
      gi_wp2
      refine hR.mono ?_
      rintro e W3 (⟨rfl, hJ3, hk3⟩ | ⟨rfl, hJx3⟩)
      · gi_wp2
        go_roundw
        case rel => exact ⟨k + 1, by go_num, by omega, by rw [HT.out]; exact hJ3, hbw.trans (HB1.out.trans hk3)⟩
        case measure => simp [RowKit.intOf]; omega
      · gi_wp2
        refine bodyPost_ret (results_none rfl _ _ _) rfl ?_
        exact ⟨⟨_, rfl⟩, .inr ⟨xs.take k ++ [x], by rw [← HT.out]; exact List.take_prefix _ _, hJx3⟩⟩
    · have hall : xs.take k = xs := List.take_of_length_le (by omega)
      rw [hall] at hJs
      gi_wp2
      go_end0
      exact ⟨⟨_, rfl⟩, .inl ⟨xs, rfl, hJs⟩⟩
/-- the body may write what lay ahead of the iterator's memory -/
theorem all2_stops (n : Nat) (hn : 1 ≤ n) (Bn : Nat) (xs : List Ent) (hl : xs.length ≤ 100000) (oa : Option Addr) (cap : Nat) (w : World)
    (hc : w.cell? ⟨Bn, 0, none⟩ = some (.slice oa xs.length cap)) (hC : Sees (.slice oa xs.length cap) xs w) (p : Nat → Prop) (hp : ∀ g o, oa = some ⟨g, o, none⟩ → p g) (hlt : ∀ k, p k → k < w.heap.size) :
    SeqStopsK Fence.wide n Try.prog 49 #[.pointer (some ⟨Bn, 0, none⟩)] (fun x : Ent => #[Value.string ⟨x.name.toArray⟩, .int .i64 x.no]) (Kept p) (fun ys => ys = xs) (fun pre => pre <+: xs) xs.length w :=
  fun l J Jx W hW hJ _ hY h0 => all2_in n hn l Bn W.heap.size xs hl oa cap J Jx hJ p hY W ((hW.cell (p := ⟨Bn, 0, none⟩) (World.block_lt_of_cell? _ _ hc)).trans hc) (hC.below hW) hp (fun k hk => Nat.lt_of_lt_of_le (hlt k hk) hW.size) h0
theorem equal_nil (b : Array Value) (W : World) : (Op.equal 76 (.func (.func 49) #[] b) .nilFunc).run Try.prog W = .ok false W := by
  have hu := run_underlying Try.underlying76
  have h : Op.equal 76 (.func (.func 49) #[] b) .nilFunc = Op.equalIn (9999 + 1) 76 (.func (.func 49) #[] b) .nilFunc := rfl
  rw [h, Op.equalIn]
  simp [go_sem, hu]
theorem hnil (b : Array Value) (W : World) : (binOp .eql 76 (.func (.func 49) #[] b) .nilFunc).run Try.prog W = .ok (.bool false) W := by
  simp [binOp, go_sem, equal_nil]
end Go.Proofs.Ytjkopgdbkmbnmaa.E
namespace Go.Proofs.Ytjkopgdbkmbnmaa.E

section
variable {F : Fence} {n : Nat} {P : Program} {ops : Array Oper} {md : Region.Mode} {C : World → Prop}

theorem wpIn_of_quietR {o : Oper} {a : Act} {K : Act → Prop} {K' : Act → World → Prop} {Q' : Exit → Act → World → Prop} {w : World} (hnd : ∀ c, o.op ≠ .defer c) (hw : C w) (h : ∀ a w', C w' → K a → K' a w')
    (ha : o.askedIn F P a C) (hh : o.quietIn F n P a C K) : o.wpIn F n P a w K' Q' := by
  obtain ⟨v, h1, h2⟩ := hh
  have h3 := h1 w hw
  unfold Oper.quietAtIn at h3
  unfold Oper.wpIn
  refine ⟨ha w hw, ?_⟩
  rw [Oper.semAt_eq _ _ _ hnd]
  generalize (execOp a.eval o).run P w = r at *
  cases r with
  | ok x w' =>
    cases x <;> simp only [Oper.quietUponIn] at h3 <;> simp only [Oper.uponIn]
    case value u =>
      obtain ⟨e1, e2⟩ := h3
      rw [e1, e2]
      exact h _ _ hw h2
    case skip =>
      obtain ⟨e1, e2⟩ := h3
      rw [e1, ← e2]
      exact h _ _ hw h2
    case enter f args =>
      obtain ⟨e1, hd, hc⟩ := h3
      rw [e1]
      exact ⟨hd, hc.mono fun e w'' ⟨he, hw''⟩ => by subst he; exact h _ _ hw'' h2⟩
  | halt x w' => simp only [Oper.quietUponIn] at h3
theorem wpOpIn_of_quietR {i : Nat} {a : Act} {K : Act → Prop} {K' : Act → World → Prop} {Q' : Exit → Act → World → Prop} {w : World} (hnd : ∀ o, ops[i]? = some o → ∀ c, o.op ≠ .defer c) (hC : C w) (h : ∀ a w', C w' → K a → K' a w')
    (hh : qOpIn F n P ops C i K a) : wpOpIn F n P ops Q' i K' a w := by
  unfold qOpIn at hh
  unfold wpOpIn
  split
  · rename_i ho; simp only [ho] at hh; exact h _ _ hC hh
  · rename_i o ho
    simp only [ho] at hh
    obtain ⟨ha, hh⟩ := hh
    split
    · rename_i hw; simp only [hw, if_true] at hh; exact wpIn_of_quietR (hnd o ho) hC h ha hh
    · rename_i hw; simp only [hw] at hh; exact ⟨ha w hC, h _ _ hC hh⟩
theorem wpAnyIn_of_quietR {Q : Act → Prop} {Q' : Exit → Act → World → Prop} (hnd : ∀ (i : Nat) o, ops[i]? = some o → ∀ c, o.op ≠ .defer c) (hQ : ∀ a w, C w → Q a → Q' .normal a w) : ∀ (fuel : Nat) (listed : Array Bool) (a : Act) (w : World), C w →
    wpAnyQIn F n P md ops C Q fuel listed a → wpAnyIn F n P md ops Q' fuel listed a w
  | 0, _, _, _, hw, h => ⟨h.1, hQ _ _ hw h.2⟩
  | fuel + 1, _, _, _, hw, h => ⟨fun h0 => hQ _ _ hw (h.1 h0), fun i hi => wpOpIn_of_quietR (hnd i) hw (fun a' w' hw' => wpAnyIn_of_quietR hnd hQ fuel _ a' w' hw') (h.2 i hi)⟩
/-- no operation is a defer -/
def plainOp (o : Oper) : Bool := match o.op with
  | .defer _ => false
  | _ => true
theorem plainOp_ne {o : Oper} (h : plainOp o = true) : ∀ c, o.op ≠ .defer c := by
  intro c e
  unfold plainOp at h
  rw [e] at h
  cases h
theorem wpIn_region_quietR {id : Nat} {Q : Exit → Act → World → Prop} {a : Act} {w : World} {l : List Oper} (hm : P.follows .mixedOrders = true) (hB : Region.lexB .any l.toArray = true) (hp : l.all plainOp = true)
    (h : wpQuietIn F n P l.toArray (fun w' => ∃ n, w' = w.drewN n) (fun a' => ∀ w', (∃ n, w' = w.drewN n) → Q .normal a' w') l a) : (Code.region id l.toArray true).wpIn F n P Q a w := by
  simp only [Region.lexB, Bool.and_eq_true] at hB
  refine wpIn_region_any hm (wpAnyIn_of_quietR (C := fun w' => ∃ n, w' = w.drewN n) (Q := fun a' => ∀ w', (∃ n, w' = w.drewN n) → Q .normal a' w')
    (fun i o ho => plainOp_ne (List.all_eq_true.1 hp o (List.mem_of_getElem? (by simpa using ho)))) (fun _ w' hw' h => h w' hw') _ _ _ _ ⟨1, rfl⟩ ?_)
  have := wpAnyQIn_lex (F := F) (n := n) (C := fun w' => ∃ n, w' = w.drewN n) (md := .any) hB.1 l 0 (Array.replicate l.toArray.size false) a (by simp) (by simpa using hB.2) h
  simpa using this
end
end Go.Proofs.Ytjkopgdbkmbnmaa.E
