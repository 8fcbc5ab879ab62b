/-
  What the reference's Dec, Oct, Pad and Parse do.
-/
import Derived.Test.YtpgikopajbjjhaaDoorNrefo
namespace Go.Proofs.YtpgikopajbjjhaaDoor.K
open Go.RowKit

def S (l : List UInt8) : Value := .string ⟨l.toArray⟩
theorem S_app (c : UInt8) (l : List UInt8) : (.string ((⟨#[c]⟩ : ByteArray) ++ ⟨l.toArray⟩) : Value) = S (c :: l) := by
  unfold S; congr 1
theorem dec_short (u : Nat) (h : u < 18446744073709551616) : (digB 10 u).length ≤ 20 := by
  rw [digB_ten, Lib.decDigits_length]; exact Lib.nDigits_le20 u h
theorem dec_size (u : Nat) (h : u < 18446744073709551616) : (⟨(digB 10 u).toArray⟩ : ByteArray).size ≤ 20 := by
  rw [Lib.size_eq]; simpa using dec_short u h

set_option maxHeartbeats 1000000 in
theorem refDec_any (n : Int) (w : World) (h0 : -9223372036854775808 ≤ n) (h1 : n ≤ 9223372036854775807) :
    Calls Tryd.prog 12 #[.int .i64 n] w fun e w' => e = .returned (S (Lib.itoa n)) ∧ Below w.heap.size w w' := by
  by_cases hneg : n < 0
  · obtain ⟨u, rfl⟩ : ∃ u : Nat, n = -(u : Int) := ⟨n.natAbs, by omega⟩
    have hsz := dec_short u (by omega)
    rw [Lib.itoa_neg u (by omega), ← digB_ten]
    have hwr : IntKind.u64.wrap (-IntKind.u64.wrap (-(u : Int))) = (u : Int) := by simp only [IntKind.wrap_u64]; omega
    go_enter Tryd.func12, Tryd.ntmps12
    go_wp2_with fail
    clear hwr
    refine (base10_any u _ (by omega)).mono ?_
    rintro e w' ⟨rfl, hb⟩
    go_wp2
    go_ret
    exact ⟨congrArg Ending.returned (S_app _ _), hb⟩
  · obtain ⟨u, rfl⟩ : ∃ u : Nat, n = u := ⟨n.toNat, by omega⟩
    rw [Lib.itoa_nonneg, ← digB_ten]
    go_enter Tryd.func12, Tryd.ntmps12
    go_wp2_with (go_at_call 15; refine (base10_any u _ (by omega)).mono ?_; rintro e w' ⟨rfl, hb⟩)
    go_ret
    exact ⟨rfl, hb⟩

def octOf (n : Int) : List UInt8 := if n < 0 then [] else digB 8 n.toNat
def padL (k : Nat) (l : List UInt8) : List UInt8 := List.replicate (k - l.length) 48 ++ l
def padOf (n wide : Int) : List UInt8 := if n < 0 ∨ 20 < wide then [] else padL wide.toNat (Lib.itoa n)
theorem padL_step {k : Nat} {l : List UInt8} (h : l.length < k) : padL k l = padL k (48 :: l) := by
  unfold padL
  rw [List.length_cons, show k - l.length = (k - (l.length + 1)) + 1 by omega, List.replicate_succ', List.append_assoc]; rfl
theorem padL_end {k : Nat} {l : List UInt8} (h : k ≤ l.length) : padL k l = l := by
  unfold padL; rw [show k - l.length = 0 by omega]; rfl
theorem padOf_none {n wide : Int} (h : n < 0 ∨ 20 < wide) : padOf n wide = [] := by unfold padOf; rw [if_pos h]
theorem padOf_some {n wide : Int} (h : ¬ n < 0) (h2 : ¬ 20 < wide) : padOf n wide = padL wide.toNat (Lib.itoa n) := by unfold padOf; rw [if_neg (by omega)]
theorem itoa_short (n : Int) (h0 : 0 ≤ n) (h1 : n ≤ 9223372036854775807) : (Lib.itoa n).length ≤ 20 := by
  obtain ⟨u, rfl⟩ : ∃ u : Nat, n = u := ⟨n.toNat, by omega⟩
  rw [Lib.itoa_nonneg, ← digB_ten]; exact dec_short u (by omega)
end Go.Proofs.YtpgikopajbjjhaaDoor.K
