/-
  Bits of whole numbers, what anybody may do, and the ten letters: plain mathematics of package perm.
-/
import Derived.Test.YtlceaecibjbeaaaGreatProg
import Derived.WalkKit
import Derived.WalkSpells
import Derived.WalkSmall
import Derived.Handy
import Derived.IntWalk
import Derived.Lib.Hide
import Derived.Lib.OthersKept
import Derived.Laws.Strings3
import Derived.Laws.Concat
import Derived.Laws.BitsAllLaws
import Derived.Shelf.RegionOpen
namespace Go.Proofs.YtlceaecibjbeaaaGreat.PM
open Go.RowKit Go.Shelf

/-- is a bit of a number set? -/
def bt (x : Int) (i : Nat) : Bool := decide (x / 2 ^ i % 2 = 1)
theorem two_pos (k : Nat) : (0 : Int) < 2 ^ k := Int.pow_pos (by decide)
theorem bt_shift (x : Int) (k i : Nat) : bt (x / 2 ^ k) i = bt x (k + i) := by
  unfold bt
  rw [Int.ediv_ediv_of_nonneg (Int.le_of_lt (two_pos k)), ← Int.pow_add]
theorem bt_low (x : Int) : bt (x % 8) 0 = bt x 0 ∧ bt (x % 8) 1 = bt x 1 ∧ bt (x % 8) 2 = bt x 2 := by
  refine ⟨?_, ?_, ?_⟩ <;> unfold bt <;> rw [decide_eq_decide] <;> simp only [show (2 : Int) ^ 0 = 1 from rfl, show (2 : Int) ^ 1 = 2 from rfl, show (2 : Int) ^ 2 = 4 from rfl] <;> omega

theorem ofInt_toNat (x : Int) : (BitVec.ofInt 64 x).toNat = (x % 18446744073709551616).toNat := by
  rw [BitVec.toNat_ofInt]; rfl
theorem pow_small (i : Nat) (hi : i ≤ 60) : (2 : Nat) ^ i ≤ 1152921504606846976 := Nat.pow_le_pow_right (show 0 < 2 by decide) hi
theorem pow_smallZ (i : Nat) (hi : i ≤ 60) : (2 : Int) ^ i ≤ 1152921504606846976 := by
  have h := pow_small i hi
  have e : (((2 : Nat) ^ i : Nat) : Int) = 2 ^ i := Int.natCast_pow 2 i
  rw [← e]; omega
theorem and_nat (x : Int) (c : Nat) (hc : c < 18446744073709551616) : bits .and .i64 x (c : Int) = IntKind.i64.wrap (((x % 18446744073709551616).toNat &&& c : Nat) : Int) := by
  show IntKind.i64.wrap (((BitVec.ofInt 64 x &&& BitVec.ofInt 64 (c : Int)).toNat : Nat) : Int) = _
  rw [BitVec.toNat_and, ofInt_toNat, BitVec.ofInt_natCast, BitVec.toNat_ofNat, Nat.mod_eq_of_lt (a := c) hc]
theorem and_low (x : Int) (i : Nat) (hi : i ≤ 60) : bits .and .i64 x ((2 ^ i - 1 : Nat) : Int) = x % 2 ^ i := by
  have hp : (0 : Int) < 2 ^ i := two_pos i
  have h60 := pow_small i hi
  have h60' := pow_smallZ i hi
  have hdvd : (2 : Int) ^ i ∣ 18446744073709551616 := ⟨2 ^ (64 - i), by rw [← Int.pow_add, show i + (64 - i) = 64 by omega]; rfl⟩
  rw [and_nat x _ (by omega), Nat.and_two_pow_sub_one_eq_mod]
  have e : (((x % 18446744073709551616).toNat % 2 ^ i : Nat) : Int) = x % 2 ^ i := by
    rw [Int.natCast_emod, Int.toNat_of_nonneg (by omega), Int.natCast_pow, show ((2 : Nat) : Int) = 2 from rfl, Int.emod_emod_of_dvd _ hdvd]
  have hlt : x % 2 ^ i < 2 ^ i := Int.emod_lt_of_pos _ hp
  have h0 : 0 ≤ x % 2 ^ i := Int.emod_nonneg _ (Int.ne_of_gt hp)
  rw [e, IntWalk.i64_in _ (by omega)]
theorem and7 (x : Int) : bits .and .i64 x 7 = x % 8 := and_low x 3 (by decide)
theorem and1 (x : Int) : bits .and .i64 x 1 = x % 2 := and_low x 1 (by decide)
theorem getBit (x : Int) (i : Nat) (hi : i < 64) : (BitVec.ofInt 64 x).toNat.testBit i = bt x i := by
  rw [ofInt_toNat, Nat.testBit_eq_decide_div_mod_eq]
  unfold bt
  rw [decide_eq_decide]
  have hp := two_pos i
  have e : (((x % 18446744073709551616).toNat / 2 ^ i % 2 : Nat) : Int) = x / 2 ^ i % 2 := by
    rw [Int.natCast_emod, Int.natCast_ediv, Int.toNat_of_nonneg (by omega), Int.natCast_pow, show ((2 : Nat) : Int) = 2 from rfl]
    have hq : (18446744073709551616 : Int) = 2 ^ i * (2 * 2 ^ (63 - i)) := by
      rw [← Int.mul_assoc, Int.mul_comm (2 ^ i) 2, Int.mul_assoc, ← Int.pow_add, show i + (63 - i) = 63 by omega]; rfl
    rw [Int.emod_def x, Int.sub_eq_add_neg, hq, show -((2 : Int) ^ i * (2 * 2 ^ (63 - i)) * (x / (2 ^ i * (2 * 2 ^ (63 - i))))) = 2 ^ i * (2 * -(2 ^ (63 - i) * (x / (2 ^ i * (2 * 2 ^ (63 - i)))))) by rw [Int.mul_assoc, Int.mul_assoc, ← Int.mul_neg, ← Int.mul_neg],
      Int.add_mul_ediv_left _ _ (Int.ne_of_gt hp), Int.add_mul_emod_self_left]
  omega
theorem and_bit (x : Int) (i : Nat) (hi : i ≤ 60) : bits .and .i64 x ((2 ^ i : Nat) : Int) = if bt x i then ((2 ^ i : Nat) : Int) else 0 := by
  have h60 := pow_small i hi
  have h60' := pow_smallZ i hi
  have hp := two_pos i
  have g := getBit x i (by omega)
  rw [ofInt_toNat, Nat.testBit_eq_decide_div_mod_eq] at g
  rw [and_nat x _ (by omega), nat_bit, ← g]
  generalize (x % 18446744073709551616).toNat / 2 ^ i = q
  by_cases h : q % 2 = 1
  · rw [h, decide_eq_true rfl, Nat.one_mul, if_pos rfl]
    generalize (2 : Nat) ^ i = c at h60
    exact IntWalk.i64_in _ (by omega)
  · rw [show q % 2 = 0 by omega, Nat.zero_mul]; rfl
theorem bt_or (x y : Int) (i : Nat) (hi : i < 64) : bt (bits .or .i64 x y) i = (bt x i || bt y i) := by
  rw [← getBit x i hi, ← getBit y i hi, ← Nat.testBit_or, ← BitVec.toNat_or, ← getBit _ i hi]
  show (BitVec.ofInt 64 (IntKind.i64.wrap (((BitVec.ofInt 64 x ||| BitVec.ofInt 64 y).toNat : Nat) : Int))).toNat.testBit i = _
  have hlt : (BitVec.ofInt 64 x ||| BitVec.ofInt 64 y).toNat < 18446744073709551616 := (BitVec.ofInt 64 x ||| BitVec.ofInt 64 y).isLt
  generalize (BitVec.ofInt 64 x ||| BitVec.ofInt 64 y).toNat = n at hlt ⊢
  rw [ofInt_toNat, IntKind.wrap_i64, show (((n : Int) + 9223372036854775808) % 18446744073709551616 - 9223372036854775808) % 18446744073709551616 = (n : Int) by omega]
  rfl

/-! ### Who may do what -/
def fineB (x : Int) : Bool := decide (0 ≤ x ∧ x ≤ 2147483648)
def from3 (cu cg u g : Int) : Nat := if cu = u then 6 else if cg = g then 3 else 0
def ok3 (want mode : Int) (k : Nat) : Bool := (!bt want 0 || bt mode k) && ((!bt want 1 || bt mode (k + 1)) && (!bt want 2 || bt mode (k + 2)))
def may (cu cg u g mode want : Int) : Bool := decide (cu = 0) || ok3 want mode (from3 cu cg u g)
def owns (cu u : Int) : Bool := decide (cu = 0) || decide (cu = u)
def free (cu du dmode u : Int) : Bool := !bt dmode 9 || (owns cu du || owns cu u)

def aN (a b : Int) : Int := bits .andNot .i64 a b
theorem aN_fin : ∀ a b : Fin 8, decide (aN (a.val : Int) (b.val : Int) = 0) = ok3 (a.val : Int) (b.val : Int) 0 := by decide +kernel
theorem aN_ok (want mode : Int) (k : Nat) : decide (aN (want % 8) (mode / 2 ^ k % 8) = 0) = ok3 want mode k := by
  obtain ⟨a, ha⟩ : ∃ a : Fin 8, (a.val : Int) = want % 8 := ⟨⟨(want % 8).toNat, by omega⟩, by simp; omega⟩
  obtain ⟨b, hb⟩ : ∃ b : Fin 8, (b.val : Int) = mode / 2 ^ k % 8 := ⟨⟨(mode / 2 ^ k % 8).toNat, by omega⟩, by simp; omega⟩
  have h := aN_fin a b
  rw [ha, hb] at h
  rw [h]
  unfold ok3
  rw [(bt_low want).1, (bt_low want).2.1, (bt_low want).2.2, (bt_low (mode / 2 ^ k)).1, (bt_low (mode / 2 ^ k)).2.1, (bt_low (mode / 2 ^ k)).2.2, bt_shift, bt_shift, bt_shift]
  simp only [Nat.add_zero]

/-! ### More mode, more rights; many rights, each of them -/
theorem ok3_or (a b mode : Int) (k : Nat) : ok3 (bits .or .i64 a b) mode k = (ok3 a mode k && ok3 b mode k) := by
  unfold ok3
  rw [bt_or a b 0 (by decide), bt_or a b 1 (by decide), bt_or a b 2 (by decide)]
  cases bt a 0 <;> cases bt a 1 <;> cases bt a 2 <;> cases bt b 0 <;> cases bt b 1 <;> cases bt b 2 <;> cases bt mode k <;> cases bt mode (k + 1) <;> cases bt mode (k + 2) <;> rfl
theorem may_or (cu cg u g mode a b : Int) : may cu cg u g mode (bits .or .i64 a b) = (may cu cg u g mode a && may cu cg u g mode b) := by
  unfold may; rw [ok3_or]; cases decide (cu = 0) <;> rfl
theorem may_none (cu cg u g mode : Int) : may cu cg u g mode 0 = true := by
  unfold may ok3
  rw [show bt 0 0 = false from rfl, show bt 0 1 = false from rfl, show bt 0 2 = false from rfl]; simp
theorem from3_le (cu cg u g : Int) : from3 cu cg u g ≤ 6 := by
  unfold from3; split
  · omega
  · split <;> omega
theorem may_more (cu cg u g mode m a : Int) (h : may cu cg u g mode a = true) : may cu cg u g (bits .or .i64 mode m) a = true := by
  unfold may at *
  have hk := from3_le cu cg u g
  generalize from3 cu cg u g = k at *
  unfold ok3 at *
  rw [bt_or mode m k (by omega), bt_or mode m (k + 1) (by omega), bt_or mode m (k + 2) (by omega)]
  revert h
  cases decide (cu = 0) <;> cases bt a 0 <;> cases bt a 1 <;> cases bt a 2 <;> cases bt mode k <;> cases bt mode (k + 1) <;> cases bt mode (k + 2) <;> simp
end Go.Proofs.YtlceaecibjbeaaaGreat.PM
