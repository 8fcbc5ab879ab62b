/-
  Bits of whole numbers, what anybody may do, and the ten letters: plain mathematics of package perm.
-/
import Derived.Test.YtenopnfclbegbaaGreatProg
import Derived.WalkKit
import Derived.WalkSpells
import Derived.WalkSmall
import Derived.Handy
import Derived.IntWalk
import Derived.Lib.Hide
import Derived.Lib.OthersKept
import Derived.Laws.Strings3
import Derived.Laws.Concat
import Derived.Laws.BitsAllLaws
import Derived.Shelf.RegionOpen
import Derived.Shelf.Small.Wraps
import Derived.Deep.DeepCutAuto
namespace Go.Proofs.YtenopnfclbegbaaGreat.PM
open Go.RowKit Go.Shelf

/-- is a bit of a number set? -/
def bt (x : Int) (i : Nat) : Bool := decide (x / 2 ^ i % 2 = 1)
theorem two_pos (k : Nat) : (0 : Int) < 2 ^ k := Int.pow_pos (by decide)
theorem bt_shift (x : Int) (k i : Nat) : bt (x / 2 ^ k) i = bt x (k + i) := by
  unfold bt
  rw [Int.ediv_ediv_of_nonneg (Int.le_of_lt (two_pos k)), ← Int.pow_add]
theorem bt_low (x : Int) : bt (x % 8) 0 = bt x 0 ∧ bt (x % 8) 1 = bt x 1 ∧ bt (x % 8) 2 = bt x 2 := by
  refine ⟨?_, ?_, ?_⟩ <;> unfold bt <;> rw [decide_eq_decide] <;> simp only [show (2 : Int) ^ 0 = 1 from rfl, show (2 : Int) ^ 1 = 2 from rfl, show (2 : Int) ^ 2 = 4 from rfl] <;> omega

theorem ofInt_toNat (x : Int) : (BitVec.ofInt 64 x).toNat = (x % 18446744073709551616).toNat := by
  rw [BitVec.toNat_ofInt]; rfl
theorem pow_small (i : Nat) (hi : i ≤ 60) : (2 : Nat) ^ i ≤ 1152921504606846976 := Nat.pow_le_pow_right (show 0 < 2 by decide) hi
theorem pow_smallZ (i : Nat) (hi : i ≤ 60) : (2 : Int) ^ i ≤ 1152921504606846976 := by
  have h := pow_small i hi
  have e : (((2 : Nat) ^ i : Nat) : Int) = 2 ^ i := Int.natCast_pow 2 i
  rw [← e]; omega
theorem and_nat (x : Int) (c : Nat) (hc : c < 18446744073709551616) : bits .and .i64 x (c : Int) = IntKind.i64.wrap (((x % 18446744073709551616).toNat &&& c : Nat) : Int) := by
  show IntKind.i64.wrap (((BitVec.ofInt 64 x &&& BitVec.ofInt 64 (c : Int)).toNat : Nat) : Int) = _
  rw [BitVec.toNat_and, ofInt_toNat, BitVec.ofInt_natCast, BitVec.toNat_ofNat, Nat.mod_eq_of_lt (a := c) hc]
theorem and_low (x : Int) (i : Nat) (hi : i ≤ 60) : bits .and .i64 x ((2 ^ i - 1 : Nat) : Int) = x % 2 ^ i := by
  have hp : (0 : Int) < 2 ^ i := two_pos i
  have h60 := pow_small i hi
  have h60' := pow_smallZ i hi
  have hdvd : (2 : Int) ^ i ∣ 18446744073709551616 := ⟨2 ^ (64 - i), by rw [← Int.pow_add, show i + (64 - i) = 64 by omega]; rfl⟩
  rw [and_nat x _ (by omega), Nat.and_two_pow_sub_one_eq_mod]
  have e : (((x % 18446744073709551616).toNat % 2 ^ i : Nat) : Int) = x % 2 ^ i := by
    rw [Int.natCast_emod, Int.toNat_of_nonneg (by omega), Int.natCast_pow, show ((2 : Nat) : Int) = 2 from rfl, Int.emod_emod_of_dvd _ hdvd]
  have hlt : x % 2 ^ i < 2 ^ i := Int.emod_lt_of_pos _ hp
  have h0 : 0 ≤ x % 2 ^ i := Int.emod_nonneg _ (Int.ne_of_gt hp)
  rw [e, IntWalk.i64_in _ (by omega)]
theorem and7 (x : Int) : bits .and .i64 x 7 = x % 8 := and_low x 3 (by decide)
theorem and1 (x : Int) : bits .and .i64 x 1 = x % 2 := and_low x 1 (by decide)
theorem getBit (x : Int) (i : Nat) (hi : i < 64) : (BitVec.ofInt 64 x).toNat.testBit i = bt x i := by
  rw [ofInt_toNat, Nat.testBit_eq_decide_div_mod_eq]
  unfold bt
  rw [decide_eq_decide]
  have hp := two_pos i
  have e : (((x % 18446744073709551616).toNat / 2 ^ i % 2 : Nat) : Int) = x / 2 ^ i % 2 := by
    rw [Int.natCast_emod, Int.natCast_ediv, Int.toNat_of_nonneg (by omega), Int.natCast_pow, show ((2 : Nat) : Int) = 2 from rfl]
    have hq : (18446744073709551616 : Int) = 2 ^ i * (2 * 2 ^ (63 - i)) := by
      rw [← Int.mul_assoc, Int.mul_comm (2 ^ i) 2, Int.mul_assoc, ← Int.pow_add, show i + (63 - i) = 63 by omega]; rfl
    rw [Int.emod_def x, Int.sub_eq_add_neg, hq, show -((2 : Int) ^ i * (2 * 2 ^ (63 - i)) * (x / (2 ^ i * (2 * 2 ^ (63 - i))))) = 2 ^ i * (2 * -(2 ^ (63 - i) * (x / (2 ^ i * (2 * 2 ^ (63 - i)))))) by rw [Int.mul_assoc, Int.mul_assoc, ← Int.mul_neg, ← Int.mul_neg],
      Int.add_mul_ediv_left _ _ (Int.ne_of_gt hp), Int.add_mul_emod_self_left]
  omega
theorem and_bit (x : Int) (i : Nat) (hi : i ≤ 60) : bits .and .i64 x ((2 ^ i : Nat) : Int) = if bt x i then ((2 ^ i : Nat) : Int) else 0 := by
  have h60 := pow_small i hi
  have h60' := pow_smallZ i hi
  have hp := two_pos i
  have g := getBit x i (by omega)
  rw [ofInt_toNat, Nat.testBit_eq_decide_div_mod_eq] at g
  rw [and_nat x _ (by omega), nat_bit, ← g]
  generalize (x % 18446744073709551616).toNat / 2 ^ i = q
  by_cases h : q % 2 = 1
  · rw [h, decide_eq_true rfl, Nat.one_mul, if_pos rfl]
    generalize (2 : Nat) ^ i = c at h60
    exact IntWalk.i64_in _ (by omega)
  · rw [show q % 2 = 0 by omega, Nat.zero_mul]; rfl
theorem bt_or (x y : Int) (i : Nat) (hi : i < 64) : bt (bits .or .i64 x y) i = (bt x i || bt y i) := by
  rw [← getBit x i hi, ← getBit y i hi, ← Nat.testBit_or, ← BitVec.toNat_or, ← getBit _ i hi]
  show (BitVec.ofInt 64 (IntKind.i64.wrap (((BitVec.ofInt 64 x ||| BitVec.ofInt 64 y).toNat : Nat) : Int))).toNat.testBit i = _
  have hlt : (BitVec.ofInt 64 x ||| BitVec.ofInt 64 y).toNat < 18446744073709551616 := (BitVec.ofInt 64 x ||| BitVec.ofInt 64 y).isLt
  generalize (BitVec.ofInt 64 x ||| BitVec.ofInt 64 y).toNat = n at hlt ⊢
  rw [ofInt_toNat, IntKind.wrap_i64, show (((n : Int) + 9223372036854775808) % 18446744073709551616 - 9223372036854775808) % 18446744073709551616 = (n : Int) by omega]
  rfl

/-! ### Who may do what -/
def fineB (x : Int) : Bool := decide (0 ≤ x ∧ x ≤ 2147483648)
def from3 (cu cg u g : Int) : Nat := if cu = u then 6 else if cg = g then 3 else 0
def ok3 (want mode : Int) (k : Nat) : Bool := (!bt want 0 || bt mode k) && ((!bt want 1 || bt mode (k + 1)) && (!bt want 2 || bt mode (k + 2)))
def may (cu cg u g mode want : Int) : Bool := decide (cu = 0) || ok3 want mode (from3 cu cg u g)
def owns (cu u : Int) : Bool := decide (cu = 0) || decide (cu = u)
def free (cu du dmode u : Int) : Bool := !bt dmode 9 || (owns cu du || owns cu u)

def aN (a b : Int) : Int := bits .andNot .i64 a b
theorem aN_fin : ∀ a b : Fin 8, decide (aN (a.val : Int) (b.val : Int) = 0) = ok3 (a.val : Int) (b.val : Int) 0 := by decide +kernel
theorem aN_ok (want mode : Int) (k : Nat) : decide (aN (want % 8) (mode / 2 ^ k % 8) = 0) = ok3 want mode k := by
  obtain ⟨a, ha⟩ : ∃ a : Fin 8, (a.val : Int) = want % 8 := ⟨⟨(want % 8).toNat, by omega⟩, by simp; omega⟩
  obtain ⟨b, hb⟩ : ∃ b : Fin 8, (b.val : Int) = mode / 2 ^ k % 8 := ⟨⟨(mode / 2 ^ k % 8).toNat, by omega⟩, by simp; omega⟩
  have h := aN_fin a b
  rw [ha, hb] at h
  rw [h]
  unfold ok3
  rw [(bt_low want).1, (bt_low want).2.1, (bt_low want).2.2, (bt_low (mode / 2 ^ k)).1, (bt_low (mode / 2 ^ k)).2.1, (bt_low (mode / 2 ^ k)).2.2, bt_shift, bt_shift, bt_shift]
  simp only [Nat.add_zero]

/-! ### More mode, more rights; many rights, each of them -/
theorem ok3_or (a b mode : Int) (k : Nat) : ok3 (bits .or .i64 a b) mode k = (ok3 a mode k && ok3 b mode k) := by
  unfold ok3
  rw [bt_or a b 0 (by decide), bt_or a b 1 (by decide), bt_or a b 2 (by decide)]
  cases bt a 0 <;> cases bt a 1 <;> cases bt a 2 <;> cases bt b 0 <;> cases bt b 1 <;> cases bt b 2 <;> cases bt mode k <;> cases bt mode (k + 1) <;> cases bt mode (k + 2) <;> rfl
theorem may_or (cu cg u g mode a b : Int) : may cu cg u g mode (bits .or .i64 a b) = (may cu cg u g mode a && may cu cg u g mode b) := by
  unfold may; rw [ok3_or]; cases decide (cu = 0) <;> rfl
theorem may_none (cu cg u g mode : Int) : may cu cg u g mode 0 = true := by
  unfold may ok3
  rw [show bt 0 0 = false from rfl, show bt 0 1 = false from rfl, show bt 0 2 = false from rfl]; simp
theorem from3_le (cu cg u g : Int) : from3 cu cg u g ≤ 6 := by
  unfold from3; split
  · omega
  · split <;> omega
theorem may_more (cu cg u g mode m a : Int) (h : may cu cg u g mode a = true) : may cu cg u g (bits .or .i64 mode m) a = true := by
  unfold may at *
  have hk := from3_le cu cg u g
  generalize from3 cu cg u g = k at *
  unfold ok3 at *
  rw [bt_or mode m k (by omega), bt_or mode m (k + 1) (by omega), bt_or mode m (k + 2) (by omega)]
  revert h
  cases decide (cu = 0) <;> cases bt a 0 <;> cases bt a 1 <;> cases bt a 2 <;> cases bt mode k <;> cases bt mode (k + 1) <;> cases bt mode (k + 2) <;> simp
end Go.Proofs.YtenopnfclbegbaaGreat.PM
/-
  What perm's Fine, root, bitsAt, applicable, May, Node, Owns and Free do.
-/
namespace Go.Proofs.YtenopnfclbegbaaGreat.PM
open Go.RowKit Go.Shelf

theorem below_two {w w1 w2 : World} (h1 : Below w.heap.size w w1) (h2 : Below w1.heap.size w1 w2) : Below w.heap.size w w2 := h1.trans (h2.mono h1.size)
theorem ret_bool {a b : Bool} (h : a = b) : Ending.returned (.bool a) = .returned (.bool b) := by rw [h]
/-- what lies in a box -/
def Box (b : Nat) (cs : Array Value) (w : World) : Prop := ∀ (i : Nat) (v : Value), cs[i]? = some v → w.cell? ⟨b, i, none⟩ = some v
theorem Box.new (w : World) (cs : Array Value) (t : TypeId) : Box w.heap.size cs (w.alloc (.cells cs t)) := fun i v h => by
  rw [World.cell?_alloc_new]; exact h
theorem Box.later {b n : Nat} {cs : Array Value} {w w' : World} (c : Box b cs w) (hb : Below n w w') (hn : b < n) : Box b cs w' := fun i v h => by
  rw [hb.cell (by exact hn)]; exact c i v h
theorem Box.alloc {b : Nat} {cs : Array Value} {w : World} (c : Box b cs w) (hn : b < w.heap.size) (o : Obj) : Box b cs (w.alloc o) :=
  c.later ((Below.refl _ w).alloc (Nat.le_refl _) o) hn
/-- who asks, by value -/
def cred (u g : Int) : Value := .agg #[.int .i64 u, .int .i64 g]
/-- a node, by value -/
structure Nd where
  no : Int
  dev : Int
  kind : Int
  mode : Int
  uid : Int
  gid : Int
  mt : Int
  ct : Int
  links : Int
  up : Int
  data : ByteArray
  ea : Option Addr
  el : Nat
  ec : Nat
def Nd.v (n : Nd) : Value := .agg #[.int .i64 n.no, .int .i64 n.dev, .int .i64 n.kind, .int .i64 n.mode, .int .i64 n.uid, .int .i64 n.gid, .int .i64 n.mt, .int .i64 n.ct, .int .i64 n.links, .int .i64 n.up, .string n.data, .slice n.ea n.el n.ec]

set_option maxHeartbeats 1000000 in
theorem root_any (u g : Int) (w : World) : Calls Tryz.prog 108 #[.agg #[.int .i64 u, .int .i64 g]] w fun e w' => e = .returned (.bool (decide (u = 0))) ∧ Below w.heap.size w w' := by
  go_enter Tryz.func108, Tryz.ntmps108
  go_wp2
  all_goals go_ret
  refine ⟨ret_bool ?_, ?_⟩
  · rfl
  · go_grown

set_option maxHeartbeats 1000000 in
theorem bitsAt_any (x k : Int) (h0 : 0 ≤ k) (h1 : k ≤ 60) (w : World) : Calls Tryz.prog 125 #[.int .i64 x, .int .i64 k] w fun e w' => e = .returned (.int .i64 (x / 2 ^ k.toNat % 8)) ∧ w = w' := by
  have H7 := and7
  go_enter Tryz.func125, Tryz.ntmps125
  go_wp2
  go_ret
  exact ⟨rfl, rfl⟩

def ap (cu cg u g mode : Int) : Int := mode / 2 ^ (from3 cu cg u g) % 8
set_option maxHeartbeats 1000000 in
theorem applicable_any (cu cg u g mode : Int) (w : World) : Calls Tryz.prog 109 #[.agg #[.int .i64 cu, .int .i64 cg], .int .i64 u, .int .i64 g, .int .i64 mode] w fun e w' => e = .returned (.int .i64 (ap cu cg u g mode)) ∧ Below w.heap.size w w' := by
  have e6 := bitsAt_any mode 6 (by decide) (by decide)
  have e3 := bitsAt_any mode 3 (by decide) (by decide)
  have e0 := bitsAt_any mode 0 (by decide) (by decide)
  by_cases h1 : cu = u
  · have h : ap cu cg u g mode = mode / 2 ^ (6 : Int).toNat % 8 := by unfold ap from3; rw [if_pos h1]; rfl
    rw [h]
    clear h
    generalize mode / 2 ^ (6 : Int).toNat % 8 = r at e6 ⊢
    go_enter Tryz.func109, Tryz.ntmps109
    go_wp2_with (refine (e6 _).mono ?_; rintro e w1 ⟨rfl, rfl⟩)
    go_ret
    refine ⟨rfl, ?_⟩
    go_grown
  · by_cases h2 : cg = g
    · have h : ap cu cg u g mode = mode / 2 ^ (3 : Int).toNat % 8 := by unfold ap from3; rw [if_neg h1, if_pos h2]; rfl
      rw [h]
      clear h
      generalize mode / 2 ^ (3 : Int).toNat % 8 = r at e3 ⊢
      go_enter Tryz.func109, Tryz.ntmps109
      go_wp2_with (refine (e3 _).mono ?_; rintro e w1 ⟨rfl, rfl⟩)
      go_ret
      refine ⟨rfl, ?_⟩
      go_grown
    · have h : ap cu cg u g mode = mode / 2 ^ (0 : Int).toNat % 8 := by unfold ap from3; rw [if_neg h1, if_neg h2]; rfl
      rw [h]
      clear h
      generalize mode / 2 ^ (0 : Int).toNat % 8 = r at e0 ⊢
      go_enter Tryz.func109, Tryz.ntmps109
      go_wp2_with (refine (e0 _).mono ?_; rintro e w1 ⟨rfl, rfl⟩)
      go_ret
      refine ⟨rfl, ?_⟩
      go_grown

set_option maxHeartbeats 1000000 in
theorem May_any (cu cg u g mode want : Int) (w : World) : Calls Tryz.prog 88 #[.agg #[.int .i64 cu, .int .i64 cg], .int .i64 u, .int .i64 g, .int .i64 mode, .int .i64 want] w fun e w' => e = .returned (.bool (may cu cg u g mode want)) ∧ Below w.heap.size w w' := by
  have hm : may cu cg u g mode want = (decide (cu = 0) || (aN (want % 8) (ap cu cg u g mode) == 0)) := by
    unfold may ap; rw [← aN_ok]; rfl
  have c1 := fun w => root_any cu cg w
  have c2 := fun w => applicable_any cu cg u g mode w
  have HA := Lib.hid (fun a b => (rfl : aN a b = bits .andNot .i64 a b))
  have h7 := and7 want
  rw [hm]
  clear hm
  generalize ap cu cg u g mode = r at c2 ⊢
  generalize want % 8 = q at h7 ⊢
  obtain ⟨b, hb⟩ : ∃ b, decide (cu = 0) = b := ⟨_, rfl⟩
  rw [hb] at c1 ⊢
  clear hb
  go_enter Tryz.func88, Tryz.ntmps88
  cases b
  all_goals go_wp2_with (first | (refine (c1 _).mono ?_; clear c1; rintro e w1 ⟨rfl, b1⟩; have k0 := ((Box.new w #[.int .i64 cu, .int .i64 cg] 40).later b1 (by simp)) 0 _ rfl; have k1 := ((Box.new w #[.int .i64 cu, .int .i64 cg] 40).later b1 (by simp)) 1 _ rfl) | (refine (c2 _).mono ?_; rintro e w2 ⟨rfl, b2⟩))
  all_goals go_ret
  all_goals refine ⟨by simp [aN], ?_⟩
  · exact ((Below.refl _ w).alloc (Nat.le_refl _) _).trans ((b1.trans (b2.mono b1.size)).mono (by simp))
  · exact ((Below.refl _ w).alloc (Nat.le_refl _) _).trans (b1.mono (by simp))

set_option maxHeartbeats 1000000 in
theorem Node_any (cu cg : Int) (n : Nd) (want : Int) (w : World) : Calls Tryz.prog 57 #[cred cu cg, n.v, .int .i64 want] w fun e w' => e = .returned (.bool (may cu cg n.uid n.gid n.mode want)) ∧ Below w.heap.size w w' := by
  obtain ⟨no, dev, kind, mode, uid, gid, mt, ct, links, up, data, ea, el, ec⟩ := n
  dsimp only [Nd.v, cred]
  have c1 := fun w => May_any cu cg uid gid mode want w
  generalize may cu cg uid gid mode want = r at c1 ⊢
  go_enter Tryz.func57, Tryz.ntmps57
  go_wp2_with (refine (c1 _).mono ?_; rintro e w1 ⟨rfl, b1⟩)
  go_ret
  exact ⟨rfl, (((Below.refl _ w).alloc (Nat.le_refl _) _).alloc (by simp) _).trans (b1.mono (by simp; omega))⟩

/-- the twelve cells of a node -/
def Nd.cs (n : Nd) : Array Value := #[.int .i64 n.no, .int .i64 n.dev, .int .i64 n.kind, .int .i64 n.mode, .int .i64 n.uid, .int .i64 n.gid, .int .i64 n.mt, .int .i64 n.ct, .int .i64 n.links, .int .i64 n.up, .string n.data, .slice n.ea n.el n.ec]
/-- the two cells of who asks, and the twelve of a node, told one by one -/
theorem Box.two {b : Nat} {x y : Value} {w : World} (c : Box b #[x, y] w) : w.cell? ⟨b, 0, none⟩ = some x ∧ w.cell? ⟨b, 1, none⟩ = some y := ⟨c 0 _ rfl, c 1 _ rfl⟩
theorem Box.twelve {b : Nat} {x0 x1 x2 x3 x4 x5 x6 x7 x8 x9 x10 x11 : Value} {w : World} (c : Box b #[x0, x1, x2, x3, x4, x5, x6, x7, x8, x9, x10, x11] w) :
    w.cell? ⟨b, 0, none⟩ = some x0 ∧ w.cell? ⟨b, 1, none⟩ = some x1 ∧ w.cell? ⟨b, 2, none⟩ = some x2 ∧ w.cell? ⟨b, 3, none⟩ = some x3 ∧ w.cell? ⟨b, 4, none⟩ = some x4 ∧ w.cell? ⟨b, 5, none⟩ = some x5 ∧
    w.cell? ⟨b, 6, none⟩ = some x6 ∧ w.cell? ⟨b, 7, none⟩ = some x7 ∧ w.cell? ⟨b, 8, none⟩ = some x8 ∧ w.cell? ⟨b, 9, none⟩ = some x9 ∧ w.cell? ⟨b, 10, none⟩ = some x10 ∧ w.cell? ⟨b, 11, none⟩ = some x11 :=
  ⟨c 0 _ rfl, c 1 _ rfl, c 2 _ rfl, c 3 _ rfl, c 4 _ rfl, c 5 _ rfl, c 6 _ rfl, c 7 _ rfl, c 8 _ rfl, c 9 _ rfl, c 10 _ rfl, c 11 _ rfl⟩

theorem not512 (x : Int) : (bits .and .i64 x 512 == 0) = !bt x 9 := by
  have h := and_bit x 9 (by decide)
  rw [show ((2 ^ 9 : Nat) : Int) = 512 from rfl] at h
  rw [h]; cases bt x 9 <;> rfl
/-- two nodes, by value -/
def two (a b : Nd) : Value := .agg #[.int .i64 a.no, .int .i64 a.dev, .int .i64 a.kind, .int .i64 a.mode, .int .i64 a.uid, .int .i64 a.gid, .int .i64 a.mt, .int .i64 a.ct, .int .i64 a.links, .int .i64 a.up, .string a.data, .slice a.ea a.el a.ec, .int .i64 b.no, .int .i64 b.dev, .int .i64 b.kind, .int .i64 b.mode, .int .i64 b.uid, .int .i64 b.gid, .int .i64 b.mt, .int .i64 b.ct, .int .i64 b.links, .int .i64 b.up, .string b.data, .slice b.ea b.el b.ec]
end Go.Proofs.YtenopnfclbegbaaGreat.PM
/-
  What the reference's Bit, May, Node, Owns, Free and Fine do.
-/
namespace Go.Proofs.YtenopnfclbegbaaGreat.PM
open Go.RowKit Go.Shelf

theorem half (x : Int) (k : Nat) : x / 2 ^ k / 2 = x / 2 ^ (k + 1) := by
  rw [Int.ediv_ediv_of_nonneg (Int.le_of_lt (two_pos k)), Int.pow_succ]
set_option maxHeartbeats 1000000 in
theorem Bit_any (x : Int) (n : Nat) (hn : n ≤ 60) (w : World) : Calls Tryz.prog 110 #[.int .i64 x, .int .i64 n] w fun e w' => e = .returned (.bool (bt x n)) ∧ w = w' := by
  have h1 := and1
  have HS := Lib.hid (fun k => half x k)
  have HB := Lib.hid (show ∀ k : Nat, k ≤ n → ¬ ((k : Int) < n) → bt x n = decide (x / 2 ^ k % 2 = 1) from fun k h1 h2 => by rw [show k = n by omega]; rfl)
  go_enter Tryz.func110, Tryz.ntmps110
  go_wp2
  go_loop [0, 5] (fun y i => ∃ k : Nat, k ≤ n ∧ y = .int .i64 (x / 2 ^ k) ∧ i = .int .i64 k) (fun _ i => n - (intOf i).toNat)
  case atStart => exact ⟨0, by omega, by simp, rfl⟩
  case round =>
    obtain ⟨k, hk, rfl, rfl⟩ := hrel
    have h := HS.out k
    obtain ⟨y, hy⟩ : ∃ y, x / 2 ^ k = y := ⟨_, rfl⟩
    have hb := HB.out k hk
    rw [hy] at h hb ⊢
    have HB2 := Lib.hid hb
    clear hb
    go_wp2
    case roundEnd => exact ⟨⟨k + 1, by omega, rfl, by simp⟩, by simp [intOf]; omega⟩
    go_ret
    refine ⟨ret_bool ?_, rfl⟩
    rw [HB2.out (by omega)]
    rfl

/-- one round of the reference's loop: is a bit wanted that isn't there? -/
def lack (want mode : Int) (f i : Nat) : Bool := bt want i && !bt mode (f + i)
theorem ok3_lack (want mode : Int) (f : Nat) : ok3 want mode f = !(lack want mode f 0 || (lack want mode f 1 || lack want mode f 2)) := by
  unfold ok3 lack
  rw [Nat.add_zero]
  cases bt want 0 <;> cases bt want 1 <;> cases bt want 2 <;> cases bt mode f <;> cases bt mode (f + 1) <;> cases bt mode (f + 2) <;> rfl
def first3 (want mode : Int) (f k : Nat) : Prop := ∀ i, i < k → lack want mode f i = false
theorem ok3_all {want mode : Int} {f : Nat} (h : first3 want mode f 3) : ok3 want mode f = true := by
  rw [ok3_lack, h 0 (by decide), h 1 (by decide), h 2 (by decide)]; rfl
theorem ok3_not {want mode : Int} {f k : Nat} (hk : k < 3) (h : lack want mode f k = true) : ok3 want mode f = false := by
  rw [ok3_lack]
  obtain rfl | rfl | rfl : k = 0 ∨ k = 1 ∨ k = 2 := by omega
  · rw [h]; rfl
  · rw [h]; cases lack want mode f 0 <;> rfl
  · rw [h]; cases lack want mode f 0 <;> cases lack want mode f 1 <;> rfl

theorem Bit_int (x y : Int) (h0 : 0 ≤ y) (h1 : y ≤ 60) (w : World) : Calls Tryz.prog 110 #[.int .i64 x, .int .i64 y] w fun e w' => e = .returned (.bool (bt x y.toNat)) ∧ w = w' := by
  have h := Bit_any x y.toNat (by omega) w
  rw [Int.toNat_of_nonneg h0] at h
  exact h
theorem first3_next {want mode : Int} {f k : Nat} (h : first3 want mode f k) (h1 : lack want mode f k = false) : first3 want mode f (k + 1) := fun i hi => by
  by_cases e : i = k
  · rw [e]; exact h1
  · exact h i (by omega)
set_option maxHeartbeats 4000000 in
theorem refMay_any (cu cg u g mode want : Int) (w : World) : Calls Tryz.prog 89 #[.agg #[.int .i64 cu, .int .i64 cg], .int .i64 u, .int .i64 g, .int .i64 mode, .int .i64 want] w fun e w' => e = .returned (.bool (may cu cg u g mode want)) ∧ Below w.heap.size w w' := by
  obtain ⟨f, hf⟩ : ∃ f, from3 cu cg u g = f := ⟨_, rfl⟩
  have hf6 : f ≤ 6 := by rw [← hf]; exact from3_le cu cg u g
  obtain ⟨r, hr⟩ : ∃ r, ok3 want mode f = r := ⟨_, rfl⟩
  have hm : may cu cg u g mode want = (decide (cu = 0) || r) := by unfold may; rw [hf, hr]
  rw [hm]
  have HB := Lib.hid (fun (x y : Int) (h0 : 0 ≤ y) (h1 : y ≤ 60) (w : World) => Bit_int x y h0 h1 w)
  have HA := Lib.hid (fun h : first3 want mode f 3 => (ok3_all h).symm.trans hr)
  have HN := Lib.hid (fun (k : Nat) (hk : k < 3) (h : lack want mode f k = true) => (ok3_not hk h).symm.trans hr)
  clear hm hr
  by_cases h1 : cu = u
  · subst h1
    have e : f = 6 := by rw [← hf]; unfold from3; rw [if_pos rfl]
    subst e
    clear hf
    go_enter Tryz.func89, Tryz.ntmps89
    go_wp2
    go_loop [12] (fun i => ∃ k : Nat, k ≤ 3 ∧ Hid (first3 want mode 6 k) ∧ i = .int .i64 k) (fun i => 3 - (intOf i).toNat)
    case atStart => exact ⟨0, by decide, Lib.hid (fun i hi => absurd hi (by omega)), rfl⟩
    case round =>
      obtain ⟨k, hk, HK, rfl⟩ := hrel
      by_cases hk3 : k < 3
      · have c1 := HB.out want k (by omega) (by omega)
        have c2 := HB.out mode (6 + (k : Int)) (by omega) (by omega)
        rw [show ((k : Int)).toNat = k by omega] at c1
        rw [show (6 + (k : Int)).toNat = 6 + k by omega] at c2
        have HN2 := Lib.hid (HN.out k hk3)
        have HX := Lib.hid (first3_next HK.out (k := k))
        have HL := Lib.hid (show lack want mode 6 k = (bt want k && !bt mode (6 + k)) from rfl)
        generalize bt want k = p at c1 HL
        generalize bt mode (6 + k) = q at c2 HL
        cases p
        · have HY := Lib.hid (HX.out (by rw [HL.out]; rfl))
          go_wp2_with (refine (c1 _).mono ?_; rintro e w1 ⟨rfl, rfl⟩)
          have key := Lib.hid (show ∃ k1 : Nat, k1 ≤ 3 ∧ Hid (first3 want mode 6 k1) ∧ Value.int .i64 ((k : Int) + 1) = .int .i64 k1 from ⟨k + 1, by omega, HY, rfl⟩)
          refine ⟨?_, by simp [intOf]; omega⟩
          first | exact key.out | (refine ⟨trivial, ?_⟩; (repeat apply Exists.intro); exact ⟨key.out, rfl⟩)
        · cases q
          · have HR := Lib.hid (HN2.out (by rw [HL.out]; rfl))
            go_wp2_with (first | (refine (c1 _).mono ?_; clear c1; rintro e w1 ⟨rfl, rfl⟩) | (refine (c2 _).mono ?_; rintro e w1 ⟨rfl, rfl⟩))
            go_ret
            refine ⟨ret_bool ?_, ?_⟩
            · rw [← HR.out, Bool.or_false]; rfl
            · go_grown
          · have HY := Lib.hid (HX.out (by rw [HL.out]; rfl))
            go_wp2_with (first | (refine (c1 _).mono ?_; clear c1; rintro e w1 ⟨rfl, rfl⟩) | (refine (c2 _).mono ?_; rintro e w1 ⟨rfl, rfl⟩))
            have key := Lib.hid (show ∃ k1 : Nat, k1 ≤ 3 ∧ Hid (first3 want mode 6 k1) ∧ Value.int .i64 ((k : Int) + 1) = .int .i64 k1 from ⟨k + 1, by omega, HY, rfl⟩)
            refine ⟨?_, by simp [intOf]; omega⟩
            first | exact key.out | (refine ⟨trivial, ?_⟩; (repeat apply Exists.intro); exact ⟨key.out, rfl⟩)
      · obtain rfl : k = 3 := by omega
        have HR := Lib.hid (HA.out HK.out)
        go_wp2
        go_ret
        refine ⟨ret_bool ?_, ?_⟩
        · rw [← HR.out, Bool.or_true]
        · go_grown
  · by_cases h2 : cg = g
    · have hb1 : (cu == u) = false := by simpa using h1
      subst h2
      have e : f = 3 := by rw [← hf]; unfold from3; rw [if_neg h1, if_pos rfl]
      subst e
      clear hf
      go_enter Tryz.func89, Tryz.ntmps89
      go_wp2
      go_loop [12] (fun i => ∃ k : Nat, k ≤ 3 ∧ Hid (first3 want mode 3 k) ∧ i = .int .i64 k) (fun i => 3 - (intOf i).toNat)
      case atStart => exact ⟨0, by decide, Lib.hid (fun i hi => absurd hi (by omega)), rfl⟩
      case round =>
        obtain ⟨k, hk, HK, rfl⟩ := hrel
        by_cases hk3 : k < 3
        · have c1 := HB.out want k (by omega) (by omega)
          have c2 := HB.out mode (3 + (k : Int)) (by omega) (by omega)
          rw [show ((k : Int)).toNat = k by omega] at c1
          rw [show (3 + (k : Int)).toNat = 3 + k by omega] at c2
          have HN2 := Lib.hid (HN.out k hk3)
          have HX := Lib.hid (first3_next HK.out (k := k))
          have HL := Lib.hid (show lack want mode 3 k = (bt want k && !bt mode (3 + k)) from rfl)
          generalize bt want k = p at c1 HL
          generalize bt mode (3 + k) = q at c2 HL
          cases p
          · have HY := Lib.hid (HX.out (by rw [HL.out]; rfl))
            go_wp2_with (refine (c1 _).mono ?_; rintro e w1 ⟨rfl, rfl⟩)
            have key := Lib.hid (show ∃ k1 : Nat, k1 ≤ 3 ∧ Hid (first3 want mode 3 k1) ∧ Value.int .i64 ((k : Int) + 1) = .int .i64 k1 from ⟨k + 1, by omega, HY, rfl⟩)
            refine ⟨?_, by simp [intOf]; omega⟩
            first | exact key.out | (refine ⟨trivial, ?_⟩; (repeat apply Exists.intro); exact ⟨key.out, rfl⟩)
          · cases q
            · have HR := Lib.hid (HN2.out (by rw [HL.out]; rfl))
              go_wp2_with (first | (refine (c1 _).mono ?_; clear c1; rintro e w1 ⟨rfl, rfl⟩) | (refine (c2 _).mono ?_; rintro e w1 ⟨rfl, rfl⟩))
              go_ret
              refine ⟨ret_bool ?_, ?_⟩
              · rw [← HR.out, Bool.or_false]; rfl
              · go_grown
            · have HY := Lib.hid (HX.out (by rw [HL.out]; rfl))
              go_wp2_with (first | (refine (c1 _).mono ?_; clear c1; rintro e w1 ⟨rfl, rfl⟩) | (refine (c2 _).mono ?_; rintro e w1 ⟨rfl, rfl⟩))
              have key := Lib.hid (show ∃ k1 : Nat, k1 ≤ 3 ∧ Hid (first3 want mode 3 k1) ∧ Value.int .i64 ((k : Int) + 1) = .int .i64 k1 from ⟨k + 1, by omega, HY, rfl⟩)
              refine ⟨?_, by simp [intOf]; omega⟩
              first | exact key.out | (refine ⟨trivial, ?_⟩; (repeat apply Exists.intro); exact ⟨key.out, rfl⟩)
        · obtain rfl : k = 3 := by omega
          have HR := Lib.hid (HA.out HK.out)
          go_wp2
          go_ret
          refine ⟨ret_bool ?_, ?_⟩
          · rw [← HR.out, Bool.or_true]
          · go_grown
    · have hb1 : (cu == u) = false := by simpa using h1
      have hb2 : (cg == g) = false := by simpa using h2
      have e : f = 0 := by rw [← hf]; unfold from3; rw [if_neg h1, if_neg h2]
      subst e
      clear hf
      go_enter Tryz.func89, Tryz.ntmps89
      go_wp2
      go_loop [12] (fun i => ∃ k : Nat, k ≤ 3 ∧ Hid (first3 want mode 0 k) ∧ i = .int .i64 k) (fun i => 3 - (intOf i).toNat)
      case atStart => exact ⟨0, by decide, Lib.hid (fun i hi => absurd hi (by omega)), rfl⟩
      case round =>
        obtain ⟨k, hk, HK, rfl⟩ := hrel
        by_cases hk3 : k < 3
        · have c1 := HB.out want k (by omega) (by omega)
          have c2 := HB.out mode (k : Int) (by omega) (by omega)
          rw [show ((k : Int)).toNat = k by omega] at c1
          rw [show ((k : Int)).toNat = 0 + k by omega] at c2
          have HN2 := Lib.hid (HN.out k hk3)
          have HX := Lib.hid (first3_next HK.out (k := k))
          have HL := Lib.hid (show lack want mode 0 k = (bt want k && !bt mode (0 + k)) from rfl)
          generalize bt want k = p at c1 HL
          generalize bt mode (0 + k) = q at c2 HL
          cases p
          · have HY := Lib.hid (HX.out (by rw [HL.out]; rfl))
            go_wp2_with (refine (c1 _).mono ?_; rintro e w1 ⟨rfl, rfl⟩)
            have key := Lib.hid (show ∃ k1 : Nat, k1 ≤ 3 ∧ Hid (first3 want mode 0 k1) ∧ Value.int .i64 ((k : Int) + 1) = .int .i64 k1 from ⟨k + 1, by omega, HY, rfl⟩)
            refine ⟨?_, by simp [intOf]; omega⟩
            first | exact key.out | (refine ⟨trivial, ?_⟩; (repeat apply Exists.intro); exact ⟨key.out, rfl⟩)
          · cases q
            · have HR := Lib.hid (HN2.out (by rw [HL.out]; rfl))
              go_wp2_with (first | (refine (c1 _).mono ?_; clear c1; rintro e w1 ⟨rfl, rfl⟩) | (refine (c2 _).mono ?_; rintro e w1 ⟨rfl, rfl⟩))
              go_ret
              refine ⟨ret_bool ?_, ?_⟩
              · rw [← HR.out, Bool.or_false]; rfl
              · go_grown
            · have HY := Lib.hid (HX.out (by rw [HL.out]; rfl))
              go_wp2_with (first | (refine (c1 _).mono ?_; clear c1; rintro e w1 ⟨rfl, rfl⟩) | (refine (c2 _).mono ?_; rintro e w1 ⟨rfl, rfl⟩))
              have key := Lib.hid (show ∃ k1 : Nat, k1 ≤ 3 ∧ Hid (first3 want mode 0 k1) ∧ Value.int .i64 ((k : Int) + 1) = .int .i64 k1 from ⟨k + 1, by omega, HY, rfl⟩)
              refine ⟨?_, by simp [intOf]; omega⟩
              first | exact key.out | (refine ⟨trivial, ?_⟩; (repeat apply Exists.intro); exact ⟨key.out, rfl⟩)
        · obtain rfl : k = 3 := by omega
          have HR := Lib.hid (HA.out HK.out)
          go_wp2
          go_ret
          refine ⟨ret_bool ?_, ?_⟩
          · rw [← HR.out, Bool.or_true]
          · go_grown

set_option maxHeartbeats 1000000 in
theorem refNode_any (cu cg : Int) (n : Nd) (want : Int) (w : World) : Calls Tryz.prog 58 #[cred cu cg, n.v, .int .i64 want] w fun e w' => e = .returned (.bool (may cu cg n.uid n.gid n.mode want)) ∧ Below w.heap.size w w' := by
  obtain ⟨no, dev, kind, mode, uid, gid, mt, ct, links, up, data, ea, el, ec⟩ := n
  dsimp only [Nd.v, cred]
  have c1 := fun w => refMay_any cu cg uid gid mode want w
  generalize may cu cg uid gid mode want = r at c1 ⊢
  go_enter Tryz.func58, Tryz.ntmps58
  go_wp2_with (refine (c1 _).mono ?_; rintro e w1 ⟨rfl, b1⟩)
  go_ret
  exact ⟨rfl, (((Below.refl _ w).alloc (Nat.le_refl _) _).alloc (by simp) _).trans (b1.mono (by simp; omega))⟩

end Go.Proofs.YtenopnfclbegbaaGreat.PM
