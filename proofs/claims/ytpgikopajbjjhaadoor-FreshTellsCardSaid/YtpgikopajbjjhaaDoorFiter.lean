/-
  fresh.Names: the iterator yields the names in their order, or the first of them where the round says 'no more'.
-/
import Derived.Test.YtpgikopajbjjhaaDoorFnth
import Derived.RangeFuncNested
import Derived.RangeFuncBound
import Derived.RangeFuncCalls
import Derived.RangeFuncLeaves
import Derived.Shelf.Abstract
import Derived.OwnWalk
import Derived.OwnWalkIn
import Derived.TacticsInMore
import Derived.LoopNIn
import Derived.LoopIn
import Derived.Scope
import Derived.WalkMore
namespace Go.Proofs.YtpgikopajbjjhaaDoor.F
open Go.RowKit Go.Shelf
attribute [local go_sem] Oper.semAt_some

/-- a name that is tried -/
abbrev Nm := { x : List UInt8 // x.length ≤ 245 }
def raw (ys : List Nm) : List (List UInt8) := ys.map (·.1)
theorem raw_snoc (ys : List Nm) (y : Nm) : raw (ys ++ [y]) = raw ys ++ [y.1] := by simp [raw]
theorem raw_len (ys : List Nm) : (raw ys).length = ys.length := by simp [raw]
theorem below_grown {W W' : World} (hb : Below W.heap.size W W') : W.grownBy W' none := ⟨hb.os, hb.tape, hb.output, hb.size, fun k hk _ => hb.block k hk⟩
theorem abides_below {β : Type} {B : Nat} {J : β → World → Prop} (hJ : AbidesFrom B J) {s : β} {W W' : World} (h : J s W) (hb : Below W.heap.size W W') : J s W' :=
  hJ s W _ none h (below_grown hb) (fun _ e => by cases e)
theorem scope_wide {n : Nat} {c : Code} {Q : Exit → Act → World → Prop} {a : Act} {w : World} (h : c.wpIn Fence.wide n Tryd.prog (Exit.noGoto Q) a w) : (Code.scope c).wpIn Fence.wide n Tryd.prog Q a w :=
  wpIn_wide.2 (wp_scope_straight (wpIn_wide.1 h))
theorem laid_below {n : Nat} {w w' : World} (h : K.Laid w) (hn : 0 < n) (hb : Below n w w') : K.Laid w' :=
  ⟨var?_below hb K.gPow hn h.pow, Nat.lt_of_lt_of_le h.room hb.size⟩

set_option maxRecDepth 100000 in
set_option maxHeartbeats 2000000 in
theorem names1_in (n : Nat) (hn : 1 ≤ n) (l Bn n₀ B : Nat) (b : List UInt8) (hb : b.length ≤ 5000) (hg : 0 < n₀) (J Jx : List Nm → World → Prop) (hJ : AbidesFrom B J)
    (hY : ∀ pre (x : Nm) W, J pre W → pre.length < 1000 → YieldAt Fence.wide (n - 1) Tryd.prog l #[.string ⟨x.1.toArray⟩] W fun e W' =>
      (e = .returned (.bool true) ∧ J (pre ++ [x]) W' ∧ Below n₀ W W') ∨ (e = .returned (.bool false) ∧ Jx (pre ++ [x]) W'))
    (W : World) (hBn : W.cell? ⟨Bn, 0, none⟩ = some (.string ⟨b.toArray⟩)) (hBl : Bn < n₀) (hn0 : n₀ ≤ W.heap.size) (hL : K.Laid W) (h0 : J [] W) :
    CallsIn Fence.wide n Tryd.prog 11 #[.func (.yield l) #[] #[], .pointer (some ⟨Bn, 0, none⟩)] W fun e W' => (∃ v, e = .returned v) ∧
      ((∃ ys, raw ys = nms b ∧ J ys W') ∨ (∃ pre, raw pre <+: nms b ∧ Jx pre W')) := by
  refine callsIn_of_wp Tryd.func11 rfl trivial ?_ rfl
  simp only [Tryd.ntmps11, List.size_toArray, List.length_cons, List.length_nil, Nat.reduceAdd, Nat.reduceSub, Array.replicate_succ, Array.replicate_zero, List.push_toArray, List.append_toArray, List.nil_append, List.cons_append]
  gi_wp2
  refine scope_wide ?_
  gi_wp2
  refine wpIn_label ?_
  gi_wp2
  gi_loopw [4] (fun i wr => ∃ (k : Nat) (pre : List Nm), i = .int .i64 k ∧ k ≤ 1000 ∧ raw pre = (nms b).take k ∧ J pre wr ∧ Below n₀ W wr) (fun i _ => 1000 - (intOf i).toNat)
  case atStart => exact ⟨0, [], rfl, by omega, rfl, h0, Below.refl _ _⟩
  case round =>
    obtain ⟨k, pre, rfl, hk, hr, hJs, hbw⟩ := hrel
    have HR := Lib.hid hr
    have hpl : pre.length = k := by rw [← raw_len, hr, List.length_take, nms_len]; omega
    clear hr
    by_cases hlt : k < 1000
    · have HT : Hid ((nms b).take (k + 1) = raw pre ++ [nt b ((k + 1 : Nat) : Int)]) := Lib.hid (by rw [nms_take b k hlt, HR.out])
      have hc : wr.cell? ⟨Bn, 0, none⟩ = some (.string ⟨b.toArray⟩) := (hbw.cell (p := ⟨Bn, 0, none⟩) hBl).trans hBn
      have cn := Nth_any b ((k : Int) + 1) hb (by omega) (by omega) wr (laid_below hL hg hbw)
      have hnl := nt_len b ((k : Int) + 1) (by omega)
      have hpl' : pre.length < 1000 := by omega
      have HT2 : Hid ((nms b).take (k + 1) = raw pre ++ [nt b ((k : Int) + 1)]) := HT
      generalize nt b ((k : Int) + 1) = x at cn hnl HT2
      clear HT
      gi_wp2_with (refine ⟨trivial, ?_⟩; gi_at_call 9; refine (callsIn_wide.2 cn).mono ?_; rintro e w1 ⟨rfl, hb1⟩; obtain ⟨fn, tmps, assign, body, hy, hR⟩ := hY pre ⟨x, hnl⟩ _ (abides_below hJ hJs hb1) hpl')
      refine hR.mono ?_
      rintro e W3 (⟨rfl, hJ3, hk3⟩ | ⟨rfl, hJx3⟩)
      · gi_wp2
        go_roundw
        case rel => exact ⟨k + 1, pre ++ [⟨x, hnl⟩], by go_num, by omega, by rw [raw_snoc, HT2.out], hJ3, hbw.trans (Below.trans (hb1.mono (Nat.le_trans hn0 hbw.size)) hk3)⟩
        case measure => simp [intOf]; omega
      · gi_wp2
        rw [Exit.noGoto_ret]
        refine bodyPost_ret (results_none rfl _ _ _) rfl ?_
        exact ⟨⟨_, rfl⟩, .inr ⟨pre ++ [⟨x, hnl⟩], by rw [raw_snoc, ← HT2.out]; exact List.take_prefix _ _, hJx3⟩⟩
    · gi_wp2
      rw [Exit.noGoto_normal]
      go_end0
      exact ⟨⟨_, rfl⟩, .inl ⟨pre, by rw [HR.out]; exact List.take_of_length_le (by rw [nms_len]; omega), hJs⟩⟩

theorem names_in (n : Nat) (s : ByteArray) (w : World) :
    CallsIn Fence.wide n Tryd.prog 6 #[.string s] w fun e w' => e = .returned (.func (.func 11) #[] #[.pointer (some ⟨w.heap.size, 0, none⟩)]) ∧ w' = w.alloc (.cells #[.string s] 9) := by
  refine callsIn_of_wp Tryd.func6 rfl trivial ?_ rfl
  simp only [Tryd.ntmps6, List.size_toArray, List.length_cons, List.length_nil, Nat.reduceAdd, Nat.reduceSub, Array.replicate_succ, Array.replicate_zero, List.push_toArray, List.append_toArray, List.nil_append, List.cons_append]
  gi_wp2
  go_ret
  exact ⟨rfl, rfl⟩

theorem names_stops (n : Nat) (hn : 1 ≤ n) (Bn n₀ : Nat) (b : List UInt8) (hb : b.length ≤ 5000) (hg : 0 < n₀) (w : World) (hBn : Bn < n₀) (hn0 : n₀ ≤ w.heap.size) (hL : K.Laid w)
    (hc : w.cell? ⟨Bn, 0, none⟩ = some (.string ⟨b.toArray⟩)) :
    SeqStopsK Fence.wide n Tryd.prog 11 #[.pointer (some ⟨Bn, 0, none⟩)] (fun x : Nm => #[Value.string ⟨x.1.toArray⟩]) (Below n₀) (fun ys => raw ys = nms b) (fun pre => raw pre <+: nms b) 1000 w :=
  fun l J Jx W hW hJ _ hY h0 => names1_in n hn l Bn n₀ W.heap.size b hb hg J Jx hJ hY W ((hW.cell (p := ⟨Bn, 0, none⟩) (show Bn < w.heap.size by omega)).trans hc) hBn (Nat.le_trans hn0 hW.size) (hL.of_below hW) h0
end Go.Proofs.YtpgikopajbjjhaaDoor.F
