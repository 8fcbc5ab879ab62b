/-
  ents.All: the iterator yields the entries in their order, or the first of them where the round says 'no more'.
-/
import Derived.Test.YtllipmhemgponaaEclone
import Derived.RangeFuncNested
import Derived.RangeFuncBound
import Derived.RangeFuncCalls
import Derived.RangeFuncLeaves
import Derived.Shelf.Abstract
import Derived.OwnWalkIn
import Derived.TacticsInMore
import Derived.LoopNIn
import Derived.LoopIn
import Derived.Scope
import Derived.WalkMore
namespace Go.Proofs.Ytllipmhemgponaa.E
open Go.RowKit Go.Shelf
attribute [local go_sem] Oper.semAt_some

theorem below_grown {W W' : World} (hb : Below W.heap.size W W') : W.grownBy W' none := ⟨hb.os, hb.tape, hb.output, hb.size, fun k hk _ => hb.block k hk⟩
theorem abides_below {β : Type} {B : Nat} {J : β → World → Prop} (hJ : AbidesFrom B J) {s : β} {W W' : World} (h : J s W) (hb : Below W.heap.size W W') : J s W' :=
  hJ s W _ none h (below_grown hb) (fun _ e => by cases e)
theorem take_next {xs : List Ent} {k : Nat} {x : Ent} (h : xs[k]? = some x) : xs.take (k + 1) = xs.take k ++ [x] := by rw [List.take_add_one, h]; rfl

/-- entries in memory below a place -/
def Low (n₀ : Nat) (oa : Option Addr) (xs : List Ent) (W : World) : Prop := ∀ k x, xs[k]? = some x → ∃ g o, oa = some ⟨g, o, none⟩ ∧ g < n₀ ∧ W.cell? ⟨g, o + k * 2, none⟩ = some (.string ⟨x.name.toArray⟩) ∧ W.cell? ⟨g, o + k * 2 + 1, none⟩ = some (.int .i64 x.no)

set_option maxRecDepth 100000 in
set_option maxHeartbeats 2000000 in
theorem all1_in (n : Nat) (hn : 1 ≤ n) (l Bn n₀ B : Nat) (xs : List Ent) (hl : xs.length ≤ 100000) (oa : Option Addr) (cap : Nat) (J Jx : List Ent → World → Prop) (hJ : AbidesFrom B J)
    (hY : ∀ pre (x : Ent) W, J pre W → pre.length < xs.length → YieldAt Fence.wide (n - 1) Try.prog l #[.string ⟨x.name.toArray⟩, .int .i64 x.no] W fun e W' =>
      (e = .returned (.bool true) ∧ J (pre ++ [x]) W' ∧ Below n₀ W W') ∨ (e = .returned (.bool false) ∧ Jx (pre ++ [x]) W'))
    (W : World) (hBn : W.cell? ⟨Bn, 0, none⟩ = some (.slice oa xs.length cap)) (hC : Low n₀ oa xs W) (hn0 : n₀ ≤ W.heap.size) (h0 : J [] W) :
    CallsIn Fence.wide n Try.prog 21 #[.func (.yield l) #[] #[], .pointer (some ⟨Bn, 0, none⟩)] W fun e W' => (∃ v, e = .returned v) ∧
      ((∃ ys, ys = xs ∧ J ys W') ∨ (∃ pre, pre <+: xs ∧ Jx pre W')) := by
  have HC := Lib.hid hC
  clear hC
  refine callsIn_of_wp Try.func21 rfl trivial ?_ rfl
  simp only [Try.ntmps21, List.size_toArray, List.length_cons, List.length_nil, Nat.reduceAdd, Nat.reduceSub, Array.replicate_succ, Array.replicate_zero, List.push_toArray, List.append_toArray, List.nil_append, List.cons_append]
  gi_wp2
  gi_loopw [7] (fun i wr => ∃ (k : Nat), i = .int .i64 k ∧ k ≤ xs.length ∧ J (xs.take k) wr ∧ Below n₀ W wr) (fun i _ => xs.length - (intOf i).toNat)
  case atStart => exact ⟨0, rfl, Nat.zero_le _, h0, Below.refl _ _⟩
  case round =>
    obtain ⟨k, rfl, hk, hJs, hbw⟩ := hrel
    by_cases hlt : k < xs.length
    · obtain ⟨x, hx⟩ : ∃ x, xs[k]? = some x := ⟨_, List.getElem?_eq_getElem hlt⟩
      obtain ⟨g, o, rfl, hg, c0, c1⟩ := HC.out k x hx
      have d0 := (hbw.cell (p := ⟨g, o + k * 2, none⟩) hg).trans c0
      have d1 := (hbw.cell (p := ⟨g, o + k * 2 + 1, none⟩) hg).trans c1
      have HT := Lib.hid (take_next hx)
      have hb1 : Below wr.heap.size wr (wr.alloc (.cells #[.string ⟨x.name.toArray⟩, .int .i64 x.no] 25)) := (Below.refl _ _).alloc (Nat.le_refl _) _
      have hpl : (xs.take k).length < xs.length := by rw [List.length_take]; omega
      obtain ⟨fn, tmps, assign, body, hy, hR⟩ := hY (xs.take k) x _ (abides_below hJ hJs hb1) hpl
      have HB1 := Lib.hid hb1
      clear c0 c1 hx hb1
      gi_wp2
      refine hR.mono ?_
      rintro e W3 (⟨rfl, hJ3, hk3⟩ | ⟨rfl, hJx3⟩)
      · gi_wp2
        go_roundw
        case rel => exact ⟨k + 1, by go_num, by omega, by rw [HT.out]; exact hJ3, hbw.trans (Below.trans (HB1.out.mono (Nat.le_trans hn0 hbw.size)) hk3)⟩
        case measure => simp [intOf]; omega
      · gi_wp2
        refine bodyPost_ret (results_none rfl _ _ _) rfl ?_
        exact ⟨⟨_, rfl⟩, .inr ⟨xs.take k ++ [x], by rw [← HT.out]; exact List.take_prefix _ _, hJx3⟩⟩
    · have hall : xs.take k = xs := List.take_of_length_le (by omega)
      rw [hall] at hJs
      gi_wp2
      go_end0
      exact ⟨⟨_, rfl⟩, .inl ⟨xs, rfl, hJs⟩⟩

theorem all_stops (n : Nat) (hn : 1 ≤ n) (Bn n₀ : Nat) (xs : List Ent) (hl : xs.length ≤ 100000) (oa : Option Addr) (cap : Nat) (w : World) (hBn : Bn < n₀) (hn0 : n₀ ≤ w.heap.size)
    (hc : w.cell? ⟨Bn, 0, none⟩ = some (.slice oa xs.length cap)) (hC : Low n₀ oa xs w) :
    SeqStopsK Fence.wide n Try.prog 21 #[.pointer (some ⟨Bn, 0, none⟩)] (fun x : Ent => #[Value.string ⟨x.name.toArray⟩, .int .i64 x.no]) (Below n₀) (fun ys => ys = xs) (fun pre => pre <+: xs) xs.length w :=
  fun l J Jx W hW hJ _ hY h0 => all1_in n hn l Bn n₀ W.heap.size xs hl oa cap J Jx hJ hY W ((hW.cell (p := ⟨Bn, 0, none⟩) (show Bn < w.heap.size by omega)).trans hc)
    (fun k x hx => by
      obtain ⟨g, o, e, hg, c0, c1⟩ := hC k x hx
      exact ⟨g, o, e, hg, (hW.cell (p := ⟨g, o + k * 2, none⟩) (show g < w.heap.size by omega)).trans c0, (hW.cell (p := ⟨g, o + k * 2 + 1, none⟩) (show g < w.heap.size by omega)).trans c1⟩)
    (Nat.le_trans hn0 hW.size) h0
end Go.Proofs.Ytllipmhemgponaa.E
