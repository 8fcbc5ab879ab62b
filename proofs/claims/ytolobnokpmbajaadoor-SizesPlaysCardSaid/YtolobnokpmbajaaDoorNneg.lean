/-
  What num.negated does at every string.
-/
import Derived.Test.YtolobnokpmbajaaDoorProg
import Derived.Test.YtolobnokpmbajaaDoorNmath
import Derived.WalkKit
import Derived.WalkSpells
import Derived.WalkSmall
import Derived.Lib.OthersKept
import Derived.Lib.Hide
import Derived.IntWalk
namespace Go.Proofs.YtolobnokpmbajaaDoor.K
open Go.RowKit

theorem drop_cons (s : ByteArray) (k : Nat) (h : k < s.size) : s.data.toList.drop k = (s[k]'h) :: s.data.toList.drop (k + 1) := by
  rw [List.drop_eq_getElem_cons (by simpa using h)]; rfl

theorem td (a y : Int) (h0 : 0 ≤ y) (h1 : y ≤ 9) : (a < (-9223372036854775808 + y).tdiv 10) ↔ a * 10 - y < -9223372036854775808 := by
  have e : (-9223372036854775808 + y).tdiv 10 = -((9223372036854775808 - y) / 10) := by
    rw [show (-9223372036854775808 + y) = -(9223372036854775808 - y) by omega, Int.neg_tdiv, Int.tdiv_eq_ediv_of_nonneg (by omega)]
  rw [e]; omega
theorem neg_fail (a : Int) (c : UInt8) (l : List UInt8) (x : Int) (hx : x = (c.toNat : Int)) (h : x < 48 ∨ 57 < x ∨ a < (-9223372036854775808 + (x - 48)).tdiv 10) : M.neg a (c :: l) = none := by
  unfold M.neg
  rw [if_neg]
  rintro ⟨hd, hb⟩
  have hd := (M.dig_iff c).1 hd
  rcases h with h | h | h
  · omega
  · omega
  · have := (td a (x - 48) (by omega) (by omega)).1 h; omega
theorem neg_step (a : Int) (c : UInt8) (l : List UInt8) (x : Int) (hx : x = (c.toNat : Int)) (h0 : 48 ≤ x) (h1 : x ≤ 57) (h : (-9223372036854775808 + (x - 48)).tdiv 10 ≤ a) :
    M.neg a (c :: l) = M.neg (a * 10 - (x - 48)) l ∧ -9223372036854775808 ≤ a * 10 - (x - 48) := by
  have hb : ¬ (a * 10 - (x - 48) < -9223372036854775808) := fun hh => by have := (td a (x - 48) (by omega) (by omega)).2 hh; omega
  refine ⟨?_, by omega⟩
  rw [M.neg, if_pos ⟨(M.dig_iff c).2 (by omega), by omega⟩, hx]
def NegOut (l : List UInt8) (e : Ending) : Prop := e = .returned (.tuple #[.int .i64 ((M.neg 0 l).getD 0), .bool (M.neg 0 l).isSome])
theorem negOut_some {l : List UInt8} {n : Int} (h : M.neg 0 l = some n) : NegOut l (.returned (.tuple #[.int .i64 n, .bool true])) := by unfold NegOut; rw [h]; rfl
theorem negOut_none {l : List UInt8} (h : M.neg 0 l = none) : NegOut l (.returned (.tuple #[.int .i64 0, .bool false])) := by unfold NegOut; rw [h]; rfl

def NegRel (s : ByteArray) (w : World) (n : Value) (wr : World) : Prop :=
  ∃ (pos : Nat) (a : Int), pos ≤ s.size ∧ -9223372036854775808 ≤ a ∧ a ≤ 0 ∧ n = .int .i64 a ∧ M.neg 0 s.data.toList = M.neg a (s.data.toList.drop pos) ∧ wr.heap[w.heap.size]? = some (.stringIter s pos) ∧ Below w.heap.size w wr

set_option maxHeartbeats 1000000 in
theorem negated_any (s : ByteArray) (w : World) :
    Calls Tryd.prog 70 #[.string s] w fun e w' => NegOut s.data.toList e ∧ Below w.heap.size w w' := by
  have hk0 : (w.iter s 0).heap[w.heap.size]? = some (.stringIter s 0) := World.iter_heap w s 0
  have hb0 : Below w.heap.size w (w.iter s 0) := (Below.refl _ w).alloc (Nat.le_refl _) _
  go_enter Tryd.func70, Tryd.ntmps70
  go_wp2
  go_loopw [4] (fun n wr => NegRel s w n wr) (fun _ wr => s.size - wr.iterPos w.heap.size)
  case atStart => exact ⟨0, 0, Nat.zero_le _, by omega, by omega, rfl, rfl, hk0, hb0⟩
  case round =>
    clear hk0 hb0
    obtain ⟨pos, a, hps, ha0, ha1, rfl, hN, hk, hnx⟩ := hrel
    have HN := Lib.hid hN; clear hN
    have hmu : wr.iterPos w.heap.size = pos := by simp [World.iterPos, hk]
    have HM := Lib.hid hmu; clear hmu
    by_cases hp : pos < s.size
    · by_cases h128 : (s[pos]'hp).toNat < 128
      · have hnext : ∀ ty, (Instr.next (.pointer (some ⟨w.heap.size, 0, none⟩)) true ty).run Tryd.prog wr = _ := fun ty => Lib.run_next_ascii_at wr w.heap.size s pos ty hk hp h128
        have hk1 := Lib.iterAt_heap wr w.heap.size s pos (pos + 1) hk
        have hnx1 : Below w.heap.size w (wr.iterAt w.heap.size s (pos + 1)) := Lib.below_iterAt hnx (by omega) s (pos + 1)
        generalize wr.iterAt w.heap.size s (pos + 1) = W1 at hnext hk1 hnx1
        have hdr := drop_cons s pos hp
        generalize hc : (s[pos]'hp) = c at hnext hdr h128
        clear hc
        obtain ⟨x, hx⟩ : ∃ x : Int, x = (c.toNat : Int) := ⟨_, rfl⟩
        rw [← hx] at hnext
        have hx0 : 0 ≤ x := by omega
        have hx1 : x < 128 := by omega
        have HX := Lib.hid hx; clear hx
        have HD := Lib.hid hdr; clear hdr
        by_cases hd0 : x < 48
        · go_wp2
          go_ret2
          exact ⟨negOut_none (by rw [HN.out, HD.out, neg_fail _ _ _ x HX.out (.inl hd0)]), hnx1⟩
        · by_cases hd1 : 57 < x
          · go_wp2
            go_ret2
            exact ⟨negOut_none (by rw [HN.out, HD.out, neg_fail _ _ _ x HX.out (.inr (.inl hd1))]), hnx1⟩
          · go_wp2
            · go_ret2
              exact ⟨negOut_none (by rw [HN.out, HD.out, neg_fail _ _ _ x HX.out (.inr (.inr (by assumption)))]), hnx1⟩
            · have hst := neg_step a c (s.data.toList.drop (pos + 1)) x HX.out (by omega) (by omega) (by assumption)
              go_roundw
              case rel =>
                refine ⟨pos + 1, a * 10 - (x - 48), by omega, hst.2, by omega, ?_, by rw [HN.out, HD.out, hst.1], hk1, hnx1⟩
                have e1 : wrap64 (a * 10) = a * 10 := by unfold wrap64; omega
                have e2 : wrap64 (a * 10 - (x - 48)) = a * 10 - (x - 48) := by unfold wrap64; omega
                rw [e1, e2]
              case measure =>
                have hmu2 : W1.iterPos w.heap.size = pos + 1 := by simp [World.iterPos, hk1]
                rw [HM.out, hmu2]; omega
      · have hnext : ∀ ty, (Instr.next (.pointer (some ⟨w.heap.size, 0, none⟩)) true ty).run Tryd.prog wr = _ := fun ty => Lib.run_next_any_at wr w.heap.size s pos ty hk hp
        have hbig := M.decode_big s pos hp (by omega)
        have hnx1 : Below w.heap.size w (wr.iterAt w.heap.size s (pos + (Utf8.decode s pos).2)) := Lib.below_iterAt hnx (by omega) s _
        generalize wr.iterAt w.heap.size s (pos + (Utf8.decode s pos).2) = W1 at hnext hnx1
        obtain ⟨x, hx⟩ : ∃ x : Int, x = ((Utf8.decode s pos).1 : Int) := ⟨_, rfl⟩
        rw [← hx] at hnext
        have hx1 : 57 < x := by omega
        have hx0 : ¬ x < 48 := by omega
        clear hx hbig
        have HD := Lib.hid (drop_cons s pos hp)
        go_wp2
        go_ret2
        exact ⟨negOut_none (by rw [HN.out, HD.out, neg_fail _ _ _ _ rfl (.inr (.inl (by omega)))]), hnx1⟩
    · have hnext : ∀ ty, (Instr.next (.pointer (some ⟨w.heap.size, 0, none⟩)) true ty).run Tryd.prog wr = _ := fun ty => Lib.run_next_end_at wr w.heap.size s pos ty hk hp
      go_wp2
      go_ret2
      refine ⟨negOut_some ?_, hnx⟩
      rw [HN.out, List.drop_eq_nil_of_le (by simp; omega)]; rfl
end Go.Proofs.YtolobnokpmbajaaDoor.K
