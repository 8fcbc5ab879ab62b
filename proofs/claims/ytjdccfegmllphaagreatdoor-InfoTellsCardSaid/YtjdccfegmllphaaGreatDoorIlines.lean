/-
  info.linesOf: the iterator yields the lines that count, or the first of them where the round says 'no more'.
-/
import Derived.Test.YtjdccfegmllphaaGreatDoorIlib
import Derived.RangeFuncNested
import Derived.RangeFuncBound
import Derived.RangeFuncCalls
import Derived.RangeFuncLeaves
import Derived.Shelf.Abstract
import Derived.OwnWalk
import Derived.OwnWalkIn
import Derived.TacticsInMore
import Derived.LoopNIn
import Derived.LoopIn
import Derived.Scope
import Derived.WalkMore
namespace Go.Proofs.YtjdccfegmllphaaGreatDoor.I
open Go.RowKit Go.Shelf
attribute [local go_sem] Oper.semAt_some

/-- a line, no longer than some thousand bytes -/
abbrev Ln := { x : List UInt8 // x.length ≤ 5000 }
def raw (ys : List Ln) : List (List UInt8) := ys.map (·.1)
theorem raw_snoc (ys : List Ln) (y : Ln) : raw (ys ++ [y]) = raw ys ++ [y.1] := by simp [raw]
/-- the lines that are still to come -/
def more (b : Bool) (t : List UInt8) : List (List UInt8) := if b then kept t else []
def strSize : Value → Nat | .string t => t.size | _ => 0
def leftOf (r m : Value) : Nat := match m with
  | .bool true => strSize r + 1
  | _ => 0
theorem cut_kept (t : List UInt8) : ∃ p r b, Lib.cut t [10] = (p, r, b) ∧ kept t = (if ok (bare p) then [bare p] else []) ++ more b r ∧ r.length ≤ t.length ∧ p.length ≤ t.length ∧ leftOf (.string ⟨r.toArray⟩) (.bool b) < t.length + 1 := by
  rcases cut_lines t with ⟨h1, h2⟩ | ⟨p, r, h1, h2, h3⟩
  · refine ⟨_, _, _, h1, ?_, by simp, by simp, by simp [leftOf]⟩
    unfold kept
    rw [h2, List.map_cons, List.filter_cons]
    by_cases hk : ok (bare t) = true <;> simp [hk, more]
  · refine ⟨_, _, _, h1, ?_, by omega, by omega, ?_⟩
    · unfold kept more
      rw [h2, List.map_cons, List.filter_cons]
      by_cases hk : ok (bare p) = true <;> simp [hk, kept]
    · have : strSize (.string ⟨r.toArray⟩) = r.length := by simp [strSize, Lib.size_eq]
      unfold leftOf
      simp only [this]; omega
theorem below_grown {W W' : World} (hb : Below W.heap.size W W') : W.grownBy W' none := ⟨hb.os, hb.tape, hb.output, hb.size, fun k hk _ => hb.block k hk⟩
theorem abides_below {β : Type} {B : Nat} {J : β → World → Prop} (hJ : AbidesFrom B J) {s : β} {W W' : World} (h : J s W) (hb : Below W.heap.size W W') : J s W' :=
  hJ s W _ none h (below_grown hb) (fun _ e => by cases e)

set_option maxRecDepth 100000 in
set_option maxHeartbeats 2000000 in
theorem lines1_in (n : Nat) (hn : 1 ≤ n) (l Bn B : Nat) (s : List UInt8) (hs : s.length ≤ 5000) (J Jx : List Ln → World → Prop) (hJ : AbidesFrom B J)
    (hY : ∀ pre (x : Ln) W, J pre W → pre.length < (kept s).length → YieldAt Fence.wide (n - 1) Tryz.prog l #[.string ⟨x.1.toArray⟩] W fun e W' =>
      (e = .returned (.bool true) ∧ J (pre ++ [x]) W' ∧ True) ∨ (e = .returned (.bool false) ∧ Jx (pre ++ [x]) W'))
    (W : World) (hBn : W.cell? ⟨Bn, 0, none⟩ = some (.string ⟨s.toArray⟩)) (h0 : J [] W) :
    CallsIn Fence.wide n Tryz.prog 53 #[.func (.yield l) #[] #[], .pointer (some ⟨Bn, 0, none⟩)] W fun e W' => (∃ v, e = .returned v) ∧
      ((∃ ys, raw ys = kept s ∧ J ys W') ∨ (∃ pre, raw pre <+: kept s ∧ Jx pre W')) := by
  obtain ⟨xs, HX⟩ : ∃ xs, Hid (kept s = xs) := ⟨_, Lib.hid rfl⟩
  rw [HX.out] at hY ⊢
  refine callsIn_of_wp Tryz.func53 rfl trivial ?_ rfl
  simp only [Tryz.ntmps53, List.size_toArray, List.length_cons, List.length_nil, Nat.reduceAdd, Nat.reduceSub, Array.replicate_succ, Array.replicate_zero, List.push_toArray, List.append_toArray, List.nil_append, List.cons_append]
  gi_wp2
  gi_loopw [3, 4] (fun r m wr => ∃ (pre : List Ln) (t : List UInt8) (b : Bool), r = .string ⟨t.toArray⟩ ∧ m = .bool b ∧ t.length ≤ 5000 ∧ xs = raw pre ++ more b t ∧ J pre wr) (fun r m _ => leftOf r m)
  case atStart => exact ⟨[], s, true, rfl, rfl, hs, by rw [← HX.out]; rfl, h0⟩
  case round =>
    obtain ⟨pre, t, b, rfl, rfl, hts, hx, hJs⟩ := hrel
    cases b with
    | false =>
      have HE := Lib.hid hx; clear hx
      gi_wp2
      go_end0
      exact ⟨⟨_, rfl⟩, .inl ⟨pre, by have := HE.out; simp [more] at this; exact this.symm, hJs⟩⟩
    | true =>
      obtain ⟨p, r, b, hcut, hpt, hrl, hpl, hml⟩ := cut_kept t
      have cc := fun w => cut_any 10 t (by omega) hcut w
      have ct := fun w => trim_edges p (by omega) w
      have hx' : xs = raw pre ++ ((if ok (bare p) then [bare p] else []) ++ more b r) := by rw [← hpt]; exact hx
      have hql : (bare p).length ≤ 5000 := by have := trim_le p edges; unfold bare; omega
      have hml' : leftOf (.string ⟨r.toArray⟩) (.bool b) < leftOf (.string ⟨t.toArray⟩) (.bool true) := by
        have : strSize (.string ⟨t.toArray⟩) = t.length := by simp [strSize, Lib.size_eq]
        show _ < strSize (.string ⟨t.toArray⟩) + 1
        rw [this]; exact hml
      generalize bare p = q at ct hx' hql
      have cp := fun w => prefix_one 35 q w
      have HE := Lib.hid hx'; have HM := Lib.hid hml'; have HR : Hid (r.length ≤ 5000) := Lib.hid (by omega); have HQ := Lib.hid hql
      clear hx hx' hml hml' hpt hcut hrl hpl hql
      by_cases h0 : q = []
      · subst h0
        gi_wp2_with (first
          | (refine ⟨trivial, ?_⟩; gi_at_call 34; refine (callsIn_wide.2 (cc _)).mono ?_; rintro e w1 ⟨rfl, hb1⟩)
          | (refine ⟨trivial, ?_⟩; gi_at_call 35; refine (callsIn_wide.2 (ct _)).mono ?_; rintro e w2 ⟨rfl, hb2⟩))
        refine ⟨trivial, ?_⟩
        gi_wp2
        go_roundw
        case rel => exact ⟨pre, r, b, rfl, rfl, HR.out, HE.out, abides_below hJ (abides_below hJ hJs hb1) hb2⟩
        case measure => exact HM.out
      have h0' : q.isEmpty = false := by cases q <;> simp_all
      cases h1 : Lib.hasPrefix q [35] with
      | true =>
        rw [h1] at cp
        have HX2 : Hid (xs = raw pre ++ more b r) := Lib.hid (by rw [HE.out, if_neg (by simp [ok, h1])]; rfl)
        clear h1
        gi_wp2_with (first
          | (refine ⟨trivial, ?_⟩; gi_at_call 34; refine (callsIn_wide.2 (cc _)).mono ?_; rintro e w1 ⟨rfl, hb1⟩)
          | (refine ⟨trivial, ?_⟩; gi_at_call 35; refine (callsIn_wide.2 (ct _)).mono ?_; rintro e w2 ⟨rfl, hb2⟩)
          | (refine ⟨trivial, ?_⟩; gi_at_call 33; refine (callsIn_wide.2 (cp _)).mono ?_; rintro e w3 ⟨rfl, rfl⟩))
        go_roundw
        case rel => exact ⟨pre, r, b, rfl, rfl, HR.out, HX2.out, abides_below hJ (abides_below hJ hJs hb1) hb2⟩
        case measure => exact HM.out
      | false =>
        rw [h1] at cp
        have HX2 : Hid (xs = raw (pre ++ [⟨q, HQ.out⟩]) ++ more b r) := Lib.hid (by rw [HE.out, if_pos (by simp [ok, h1, h0]), raw_snoc]; simp)
        have hlt : pre.length < xs.length := by
          have := HX2.out
          rw [this, raw_snoc]; simp [raw]
        clear h1
        gi_wp2_with (first
          | (refine ⟨trivial, ?_⟩; gi_at_call 34; refine (callsIn_wide.2 (cc _)).mono ?_; rintro e w1 ⟨rfl, hb1⟩)
          | (refine ⟨trivial, ?_⟩; gi_at_call 35; refine (callsIn_wide.2 (ct _)).mono ?_; rintro e w2 ⟨rfl, hb2⟩)
          | (refine ⟨trivial, ?_⟩; gi_at_call 33; refine (callsIn_wide.2 (cp _)).mono ?_; rintro e w3 ⟨rfl, rfl⟩; obtain ⟨fn, tmps, assign, body, hy, hR⟩ := hY pre ⟨q, HQ.out⟩ _ (abides_below hJ (abides_below hJ hJs hb1) hb2) hlt))
        refine hR.mono ?_
        rintro e W3 (⟨rfl, hJ3, hk3⟩ | ⟨rfl, hJx3⟩)
        · gi_wp2
          go_roundw
          case rel => exact ⟨pre ++ [⟨q, HQ.out⟩], r, b, rfl, rfl, HR.out, HX2.out, hJ3⟩
          case measure => exact HM.out
        · gi_wp2
          refine bodyPost_ret (results_none rfl _ _ _) rfl ?_
          exact ⟨⟨_, rfl⟩, .inr ⟨pre ++ [⟨q, HQ.out⟩], ⟨more b r, HX2.out.symm⟩, hJx3⟩⟩

theorem linesOf_in (n : Nat) (s : ByteArray) (w : World) :
    CallsIn Fence.wide n Tryz.prog 32 #[.string s] w fun e w' => e = .returned (.func (.func 53) #[] #[.pointer (some ⟨w.heap.size, 0, none⟩)]) ∧ w' = w.alloc (.cells #[.string s] 9) := by
  refine callsIn_of_wp Tryz.func32 rfl trivial ?_ rfl
  simp only [Tryz.ntmps32, List.size_toArray, List.length_cons, List.length_nil, Nat.reduceAdd, Nat.reduceSub, Array.replicate_succ, Array.replicate_zero, List.push_toArray, List.append_toArray, List.nil_append, List.cons_append]
  gi_wp2
  go_ret
  exact ⟨rfl, rfl⟩

theorem lines_stops (n : Nat) (hn : 1 ≤ n) (Bn : Nat) (s : List UInt8) (hs : s.length ≤ 5000) (w : World) (hBn : Bn < w.heap.size)
    (hc : w.cell? ⟨Bn, 0, none⟩ = some (.string ⟨s.toArray⟩)) :
    SeqStopsK Fence.wide n Tryz.prog 53 #[.pointer (some ⟨Bn, 0, none⟩)] (fun x : Ln => #[Value.string ⟨x.1.toArray⟩]) (fun _ _ => True) (fun ys => raw ys = kept s) (fun pre => raw pre <+: kept s) (kept s).length w :=
  fun l J Jx W hW hJ _ hY h0 => lines1_in n hn l Bn W.heap.size s hs J Jx hJ hY W ((hW.cell (p := ⟨Bn, 0, none⟩) hBn).trans hc) h0
end Go.Proofs.YtjdccfegmllphaaGreatDoor.I
