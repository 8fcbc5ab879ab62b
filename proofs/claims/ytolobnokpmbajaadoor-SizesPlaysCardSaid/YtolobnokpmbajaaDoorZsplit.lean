/-
  strings.SplitSeq at a line's end: the iterator yields the lines of a text.
-/
import Derived.Test.YtolobnokpmbajaaDoorZrange
import Derived.Test.YtolobnokpmbajaaDoorIlib
import Derived.Test.YtolobnokpmbajaaDoorZbase
import Derived.OwnWalk
import Derived.OwnWalkIn
import Derived.TacticsInMore
import Derived.LoopNIn
import Derived.LoopIn
import Derived.Scope
import Derived.WalkMore
import Derived.Shelf.Abstract
namespace Go.Proofs.YtolobnokpmbajaaDoor.Z
open Go.RowKit Go.Shelf
attribute [local go_sem] Oper.semAt_some

def strLen : Value → Nat | .string t => t.size | _ => 0
def leftIn (C : Nat) (W : World) : Nat := match W.cell? ⟨C, 0, none⟩ with | some v => strLen v | none => 0
theorem leftIn_is {C : Nat} {W : World} {t : List UInt8} (h : Boxed W C 9 (.string ⟨t.toArray⟩)) : leftIn C W = t.length := by
  unfold leftIn; rw [h.cell]; show (⟨t.toArray⟩ : ByteArray).size = _; exact size_l t
theorem index_is (t : List UInt8) (w : World) : Calls Tryd.prog 76 #[.string ⟨t.toArray⟩, .string ⟨#[10]⟩] w fun e w' => e = .returned (.int .i64 (Lib.index t [10])) ∧ w' = w := by
  have := Tryd.strings_Index_one ⟨t.toArray⟩ 10 w
  rw [I.indexByte_one] at this
  exact this
theorem lines_part {p r : List UInt8} (hp : (10 : UInt8) ∉ p) : I.lines (p ++ 10 :: r) = p :: I.lines r := by
  rw [I.lines_app, I.lines_none p hp]; rfl
theorem leftIn_split {p r : List UInt8} (hp : (10 : UInt8) ∉ p) : I.lines (p ++ 10 :: r) = p :: I.lines r := lines_part hp
abbrev keptBoxes (Bp C Bv : Nat) : List Nat := [Bp, C, Bv]

set_option maxRecDepth 100000 in
set_option maxHeartbeats 4000000 in
theorem split1_in (n : Nat) (hn : 1 ≤ n) (Bp C Bv : Nat) (h1 : C ≠ Bp) (h2 : C ≠ Bv) (s : List UInt8) (hs : s.length ≤ 900000) (w : World) (bp : Boxed w Bp 9 (.string ⟨#[10]⟩)) (bc : Boxed w C 9 (.string ⟨s.toArray⟩)) (bv : Boxed w Bv 3 (.int .i64 0)) :
    YieldsAll n Tryd.prog 74 #[.pointer (some ⟨Bp, 0, none⟩), .pointer (some ⟨C, 0, none⟩), .pointer (some ⟨Bv, 0, none⟩)] (fun x : List UInt8 => #[Value.string ⟨x.toArray⟩]) (I.lines s) C (keptBoxes Bp C Bv) w := by
  intro l J W hW hJ hY h0
  have bp0 : Boxed W Bp 9 (.string ⟨#[10]⟩) := (hW.block _ bp.lt).trans bp
  have bc0 : Boxed W C 9 (.string ⟨s.toArray⟩) := (hW.block _ bc.lt).trans bc
  have bv0 : Boxed W Bv 3 (.int .i64 0) := (hW.block _ bv.lt).trans bv
  obtain ⟨xs, HX⟩ : ∃ xs, Hid (I.lines s = xs) := ⟨_, Lib.hid rfl⟩
  rw [HX.out] at hY ⊢
  clear bp bc bv
  have p0 := bp0.cell
  refine callsIn_of_wp Tryd.func74 rfl trivial ?_ rfl
  simp only [Tryd.ntmps74, List.size_toArray, List.length_cons, List.length_nil, Nat.reduceAdd, Nat.reduceSub, Array.replicate_succ, Array.replicate_zero, List.push_toArray, List.append_toArray, List.nil_append, List.cons_append]
  gi_wp2
  clear p0
  gi_loopw [7] (fun _ wr => ∃ (k : Nat) (t : List UInt8), t.length ≤ 900000 ∧ I.lines t = xs.drop k ∧ J k wr ∧ Boxed wr Bp 9 (.string ⟨#[10]⟩) ∧ Boxed wr C 9 (.string ⟨t.toArray⟩) ∧ Boxed wr Bv 3 (.int .i64 0)) (fun _ wr => leftIn C wr)
  case atStart => exact ⟨0, s, hs, by rw [HX.out]; rfl, h0, bp0, bc0, bv0⟩
  case round =>
    clear bp0 bc0 bv0 h0
    obtain ⟨k, t, ht, hlt, hJk, b1, b2, b3⟩ := hrel
    have q1 := b1.cell
    have q2 := b2.cell
    have q3 := b3.cell
    have ci := fun w => index_is t w
    rcases I.index_one 10 t with ⟨hi, hno⟩ | ⟨i, hi, hil, hno, hsplit⟩
    · rw [hi] at ci
      have hone : xs.drop k = [t] := by rw [← hlt, I.lines_none t hno]
      have hlen : xs.length = k + 1 := by
        have := congrArg List.length hone
        rw [List.length_drop, List.length_singleton] at this; omega
      have hxk : xs[k]? = some t := by
        have := congrArg (fun l => l[0]?) hone
        rw [List.getElem?_drop] at this
        simpa using this
      have HL := Lib.hid hlen
      have hy := hY k t wr hxk hJk
      have HB := Lib.hid (And.intro b1 (And.intro b2 b3))
      clear hi hno hone hlen hxk hlt b1 b2 b3 hY
      obtain ⟨fn, tmps, assign, body, hyy, hR⟩ := hy
      gi_wp2_with (refine ⟨trivial, ?_⟩; gi_at_call 76; refine (callsIn_wide.2 (ci _)).mono ?_; rintro e w1 ⟨rfl, hw1⟩; obtain rfl := hw1.symm)
      refine hR.mono ?_
      rintro e W3 ⟨rfl, hJ3, hk3⟩
      gi_wp2
      go_end0
      exact ⟨⟨_, rfl⟩, by rw [HL.out]; exact hJ3⟩
    · rw [hi] at ci
      obtain ⟨p, hp⟩ : ∃ p, t.take i = p := ⟨_, rfl⟩
      obtain ⟨r, hr⟩ : ∃ r, t.drop (i + 1) = r := ⟨_, rfl⟩
      have hpl : p.length = i := by rw [← hp, List.length_take]; omega
      have hrl : r.length + 1 ≤ t.length := by rw [← hr, List.length_drop]; omega
      rw [hp] at hno hsplit
      rw [hr] at hsplit
      have hparts := leftIn_is b2
      have hxs : xs.drop k = p :: I.lines r := by rw [← hlt, hsplit]; exact leftIn_split hno
      have hxk : xs[k]? = some p := by
        have := congrArg (fun l => l[0]?) hxs
        rw [List.getElem?_drop] at this
        simpa using this
      have hnext : I.lines r = xs.drop (k + 1) := by
        have := congrArg List.tail hxs
        rw [List.tail_drop] at this
        simpa using this.symm
      have e1 : (⟨t.toArray⟩ : ByteArray).extract 0 i = ⟨p.toArray⟩ := by rw [Lib.extract_upto]; show (⟨(t.take i).toArray⟩ : ByteArray) = _; rw [hp]
      have e2 : (⟨t.toArray⟩ : ByteArray).extract (i + 1) (⟨t.toArray⟩ : ByteArray).size = ⟨r.toArray⟩ := by
        rw [Lib.extract_eq, size_l]
        show (⟨((t.drop (i + 1)).take (t.length - (i + 1))).toArray⟩ : ByteArray) = _
        rw [List.take_of_length_le (by rw [List.length_drop]; omega), hr]
      have hy := hY k p wr hxk hJk
      have HN := Lib.hid hnext
      have HB := Lib.hid (And.intro b1 (And.intro b2 b3))
      have HE := Lib.hid (And.intro e1 e2)
      have HP := Lib.hid hparts
      have hit : (i : Int) ≤ t.length := by omega
      have hit2 : (i : Int) + 1 ≤ t.length := by omega
      clear hi hno hxk hlt b1 b2 b3 hY hxs hnext e1 e2 hp hr hsplit hparts
      obtain ⟨fn, tmps, assign, body, hyy, hR⟩ := hy
      rw [← HE.out.1] at hyy
      gi_wp2_with (refine ⟨trivial, ?_⟩; gi_at_call 76; refine (callsIn_wide.2 (ci _)).mono ?_; rintro e w1 ⟨rfl, hw1⟩; obtain rfl := hw1.symm)
      refine hR.mono ?_
      rintro e W3 ⟨rfl, hJ3, hk3⟩
      have c1 : Boxed W3 Bp 9 (.string ⟨#[10]⟩) := (hk3 Bp (by simp)).trans HB.out.1
      have c2 : Boxed W3 C 9 (.string ⟨t.toArray⟩) := (hk3 C (by simp)).trans HB.out.2.1
      have c3 : Boxed W3 Bv 3 (.int .i64 0) := (hk3 Bv (by simp)).trans HB.out.2.2
      have q4 := c1.cell
      have q5 := c2.cell
      have q6 := c2.frozen
      have HC := Lib.hid (And.intro c1 (And.intro c2 c3))
      clear hk3 c1 c2 c3 q1 q2 q3 ci
      gi_wp2
      rw [show t.length = (⟨t.toArray⟩ : ByteArray).size from (size_l t).symm, HE.out.2]
      go_roundw
      case rel => exact ⟨k + 1, r, by omega, HN.out, hJ _ _ _ hJ3 (grownBy_setCell' _ _ _), HC.out.1.kept (grownBy_setCell' _ _ _) (by intro e; cases e; exact h1 rfl), HC.out.2.1.set _, HC.out.2.2.kept (grownBy_setCell' _ _ _) (by intro e; cases e; exact h2 rfl)⟩
      case measure =>
        rw [HP.out, leftIn_is (HC.out.2.1.set _)]
        omega
end Go.Proofs.YtolobnokpmbajaaDoor.Z
