/-
  The three laws of package num, walked: each returns true at every input.
-/
import Derived.Test.YtpjnofanfjedfaaDoorAwake
namespace Go.Proofs.YtpjnofanfjedfaaDoor
open Go.RowKit

theorem parse_dec (a : Int) (h0 : -9223372036854775808 ≤ a) (h1 : a ≤ 9223372036854775807) (w : World) :
    Calls Tryd.prog 7 #[.string ⟨(Lib.itoa a).toArray⟩] w fun e w' => e = .returned (.tuple #[.int .i64 a, .bool true]) ∧ Below w.heap.size w w' :=
  (parse_any ⟨(Lib.itoa a).toArray⟩ w).mono fun e w' ⟨he, hb⟩ => ⟨by
    have h : M.parse (⟨(Lib.itoa a).toArray⟩ : ByteArray).data.toList = some a := M.parse_itoa a h0 h1
    unfold OptOut at he; rw [h] at he; exact he, hb⟩

set_option maxHeartbeats 1000000 in
theorem numBack_walk (a b : Int) (ha0 : -9223372036854775808 ≤ a) (ha1 : a ≤ 9223372036854775807) (hb0 : -9223372036854775808 ≤ b) (hb1 : b ≤ 9223372036854775807) (w : World) (hL : Laid w) :
    Calls Tryd.prog 4 #[.int .i64 a, .int .i64 b] w fun e w' => e = .returned (.bool true) ∧ Below w.heap.size w w' := by
  have heq : (Lib.itoa a == Lib.itoa b) = (a == b) := by
    by_cases h : a = b
    · subst h; simp
    · have : Lib.itoa a ≠ Lib.itoa b := fun e => h (M.itoa_inj a b ⟨ha0, ha1⟩ ⟨hb0, hb1⟩ e)
      rw [beq_eq_false_iff_ne.2 h, beq_eq_false_iff_ne.2 this]
  go_enter Tryd.func4, Tryd.ntmps4
  go_wp2_with (go_at_call 11; refine (dec_any a _ ha0 ha1 hL).mono ?_; rintro e w1 ⟨rfl, h1⟩)
  have hL1 := hL.of_below h1
  go_wp2_with (go_at_call 7; refine (parse_dec a ha0 ha1 _).mono ?_; rintro e w2 ⟨rfl, h2⟩)
  have hL2 := hL1.of_below h2
  refine (dec_any a _ ha0 ha1 hL2).mono ?_
  rintro e w3 ⟨rfl, h3⟩
  have hL3 := hL2.of_below h3
  go_wp2_with fail
  refine (dec_any b _ hb0 hb1 hL3).mono ?_
  rintro e w4 ⟨rfl, h4⟩
  have hL4 := hL3.of_below h4
  go_wp2_with (go_at_call 6; refine (awake_any _ hL4).mono ?_; rintro e w5 ⟨rfl, h5⟩)
  go_ret
  exact ⟨rfl, below_two (below_two (below_two (below_two h1 h2) h3) h4) h5⟩

/-! ### Numerals of one width -/
def fx : Nat → Nat → List UInt8
  | 0, _ => []
  | k + 1, u => fx k (u / 10) ++ [UInt8.ofNat (48 + u % 10)]
theorem fx_length : ∀ k u, (fx k u).length = k
  | 0, _ => rfl
  | k + 1, u => by unfold fx; rw [List.length_append, fx_length k]; rfl
theorem fx_zero : ∀ k, fx k 0 = List.replicate k 48
  | 0 => rfl
  | k + 1 => by unfold fx; rw [Nat.zero_div, fx_zero k, List.replicate_succ']; rfl
theorem padL_fx : ∀ k u, u < 10 ^ (k + 1) → padL (k + 1) (Lib.decDigits u) = fx (k + 1) u
  | 0, u, h => by
    have h : u < 10 := by simpa using h
    rw [Lib.decDigits_one h]
    unfold fx fx padL
    rw [Nat.mod_eq_of_lt h]; rfl
  | k + 1, u, h => by
    by_cases h10 : u < 10
    · rw [Lib.decDigits_one h10]
      unfold fx
      rw [Nat.div_eq_of_lt h10, fx_zero, Nat.mod_eq_of_lt h10]
      rfl
    · have ih := padL_fx k (u / 10) (by rw [Nat.pow_succ] at h; omega)
      rw [fx, ← ih, Lib.decDigits, dif_neg h10]
      unfold padL
      rw [List.length_append, show k + 1 + 1 - ((Lib.decDigits (u / 10)).length + [UInt8.ofNat (48 + u % 10)].length) = k + 1 - (Lib.decDigits (u / 10)).length by simp, List.append_assoc]
theorem bl_snoc (x y : UInt8) : ∀ l m : List UInt8, l.length = m.length → Op.bytesLess (l ++ [x]) (m ++ [y]) = (Op.bytesLess l m || (l == m && decide (x < y)))
  | [], [], _ => by simp [Op.bytesLess]
  | a :: l, b :: m, h => by
    have ih := bl_snoc x y l m (by simpa using h)
    rw [List.cons_append, List.cons_append]
    unfold Op.bytesLess
    rw [ih, List.cons_beq_cons]
    cases decide (a < b) <;> cases (a == b) <;> simp
  | [], _ :: _, h => by simp at h
  | _ :: _, [], h => by simp at h
theorem byte_lt (a b : Nat) (ha : a < 256) (hb : b < 256) : (UInt8.ofNat a < UInt8.ofNat b) ↔ a < b := by
  rw [UInt8.lt_iff_toNat_lt, M.byte_toNat a ha, M.byte_toNat b hb]
theorem byte_eq (a b : Nat) (ha : a < 256) (hb : b < 256) (h : UInt8.ofNat a = UInt8.ofNat b) : a = b := by
  have := congrArg UInt8.toNat h
  rwa [M.byte_toNat a ha, M.byte_toNat b hb] at this
theorem fx_inj : ∀ k a b, a < 10 ^ k → b < 10 ^ k → fx k a = fx k b → a = b
  | 0, a, b, ha, hb, _ => by simp at ha hb; omega
  | k + 1, a, b, ha, hb, h => by
    unfold fx at h
    obtain ⟨h1, h2⟩ := List.append_inj' h rfl
    have e1 := fx_inj k (a / 10) (b / 10) (by rw [Nat.pow_succ] at ha; omega) (by rw [Nat.pow_succ] at hb; omega) h1
    have e2 := byte_eq _ _ (by omega) (by omega) (by simpa using h2 : UInt8.ofNat (48 + a % 10) = UInt8.ofNat (48 + b % 10))
    omega
theorem fx_less : ∀ k a b, a < 10 ^ k → b < 10 ^ k → Op.bytesLess (fx k a) (fx k b) = decide (a < b)
  | 0, a, b, ha, hb => by simp at ha hb; subst ha; subst hb; rfl
  | k + 1, a, b, ha, hb => by
    have ha' : a / 10 < 10 ^ k := by rw [Nat.pow_succ] at ha; omega
    have hb' : b / 10 < 10 ^ k := by rw [Nat.pow_succ] at hb; omega
    unfold fx
    rw [bl_snoc _ _ _ _ (by rw [fx_length, fx_length]), fx_less k _ _ ha' hb']
    have hl := byte_lt (48 + a % 10) (48 + b % 10) (by omega) (by omega)
    rw [Bool.eq_iff_iff]
    simp only [Bool.or_eq_true, Bool.and_eq_true, decide_eq_true_eq, beq_iff_eq, hl]
    constructor
    · rintro (h | ⟨h, h'⟩)
      · omega
      · have := fx_inj k _ _ ha' hb' h; omega
    · intro h
      by_cases e : a / 10 = b / 10
      · right; exact ⟨by rw [e], by omega⟩
      · left; omega
theorem pad10 (a : Nat) (h : a < 4294967296) : padOf (a : Int) 10 = fx 10 a := by
  rw [padOf_some (by omega) (by decide), Lib.itoa_nonneg]
  exact padL_fx 9 a (by have : (10 : Nat) ^ (9 + 1) = 10000000000 := by decide
                        omega)
theorem pad10_any (a : Nat) (h : a < 4294967296) (w : World) (hL : Laid w) :
    Calls Tryd.prog 15 #[.int .i64 a, .int .i64 10] w fun e w' => e = .returned (.string ⟨(fx 10 a).toArray⟩) ∧ Below w.heap.size w w' :=
  (pad_any a 10 w (by omega) (by omega) hL).mono fun e w' ⟨he, hb⟩ => ⟨by rw [he, pad10 a h]; rfl, hb⟩
set_option maxHeartbeats 1000000 in
theorem numOrder_walk (a b : Nat) (ha : a < 4294967296) (hb : b < 4294967296) (w : World) (hL : Laid w) :
    Calls Tryd.prog 5 #[.int .u32 a, .int .u32 b] w fun e w' => e = .returned (.bool true) ∧ Below w.heap.size w w' := by
  have hp : (10 : Nat) ^ 10 = 10000000000 := by decide
  have hle := fx_length 10 a
  have hle2 := fx_length 10 b
  have hless := fx_less 10 a b (by omega) (by omega)
  have heq : (fx 10 a == fx 10 b) = ((a : Int) == (b : Int)) := by
    by_cases h : a = b
    · subst h; simp
    · have : fx 10 a ≠ fx 10 b := fun e => h (fx_inj 10 a b (by omega) (by omega) e)
      rw [beq_eq_false_iff_ne.2 (show (a : Int) ≠ b by omega), beq_eq_false_iff_ne.2 this]
  have c1 := pad10_any a ha
  have c2 := pad10_any b hb
  clear hp
  generalize fx 10 a = A at *
  generalize fx 10 b = B at *
  have C1 := Lib.hid c1
  have C2 := Lib.hid c2
  clear c1 c2
  go_enter Tryd.func5, Tryd.ntmps5
  go_wp2_with fail
  refine (C1.out _ hL).mono ?_
  rintro e w1 ⟨rfl, h1⟩
  have hL1 := hL.of_below h1
  go_wp2_with fail
  refine (C2.out _ hL1).mono ?_
  rintro e w2 ⟨rfl, h2⟩
  have hL2 := hL1.of_below h2
  go_wp2_with (go_at_call 6; refine (awake_any _ hL2).mono ?_; rintro e w3 ⟨rfl, h3⟩)
  go_ret
  exact ⟨rfl, below_two (below_two h1 h2) h3⟩

theorem parse_out (s : ByteArray) (o : Option Int) (ho : M.parse s.data.toList = o) (w : World) :
    Calls Tryd.prog 7 #[.string s] w fun e w' => e = .returned (.tuple #[.int .i64 (o.getD 0), .bool o.isSome]) ∧ Below w.heap.size w w' := by
  subst ho; exact parse_any s w
theorem refParse_out (s : ByteArray) (o : Option Int) (ho : M.parse s.data.toList = o) (w : World) :
    Calls Tryd.prog 8 #[.string s] w fun e w' => e = .returned (.tuple #[.int .i64 (o.getD 0), .bool o.isSome]) ∧ Below w.heap.size w w' := by
  subst ho; exact refParse_any s w
theorem oct_out (s : ByteArray) (o : Option Int) (ho : octP s.data.toList = o) (w : World) :
    Calls Tryd.prog 9 #[.string s] w fun e w' => e = .returned (.tuple #[.int .i64 (o.getD 0), .bool o.isSome]) ∧ Below w.heap.size w w' := by
  subst ho; exact parseOct_any s w
theorem refOct_out (s : ByteArray) (o : Option Int) (ho : octP s.data.toList = o) (w : World) :
    Calls Tryd.prog 10 #[.string s] w fun e w' => e = .returned (.tuple #[.int .i64 (o.getD 0), .bool o.isSome]) ∧ w = w' := by
  subst ho; exact refParseOct_any s w
theorem str_out {f : Nat} {args : Array Value} {w : World} {l L : List UInt8} (hl : l = L) (h : Calls Tryd.prog f args w fun e w' => e = .returned (S l) ∧ Below w.heap.size w w') :
    Calls Tryd.prog f args w fun e w' => e = .returned (.string ⟨L.toArray⟩) ∧ Below w.heap.size w w' := by
  subst hl; exact h
set_option maxHeartbeats 2000000 in
theorem numTells_walk (n wide : Int) (s : ByteArray) (h0 : -9223372036854775808 ≤ n) (h1 : n ≤ 9223372036854775807) (w : World) (hL : Laid w) :
    Calls Tryd.prog 3 #[.int .i64 n, .int .i64 wide, .string s] w fun e w' => e = .returned (.bool true) ∧ Below w.heap.size w w' := by
  by_cases h300 : 300 < s.size
  · have h3 : (300 : Int) < s.size := by omega
    go_enter Tryd.func3, Tryd.ntmps3
    go_wp2_with (go_at_call 6; refine (awake_any _ hL).mono ?_; rintro e w1 ⟨rfl, hb⟩)
    go_ret
    exact ⟨rfl, hb⟩
  · have h3 : ¬ (300 : Int) < s.size := by omega
    obtain ⟨p, hp⟩ : ∃ p, M.parse s.data.toList = p := ⟨_, rfl⟩
    obtain ⟨q, hq⟩ : ∃ q, octP s.data.toList = q := ⟨_, rfl⟩
    obtain ⟨D, hD⟩ : ∃ D, Lib.itoa n = D := ⟨_, rfl⟩
    obtain ⟨O, hO⟩ : ∃ O, octOf n = O := ⟨_, rfl⟩
    obtain ⟨A, hA⟩ : ∃ A, padOf n wide = A := ⟨_, rfl⟩
    have HP := Lib.hid hp
    have HQ := Lib.hid hq
    have HD := Lib.hid hD
    have HO := Lib.hid hO
    have HA := Lib.hid hA
    clear hp hq hD hO hA
    go_enter Tryd.func3, Tryd.ntmps3
    go_wp2_with (go_at_call 7; refine (parse_out s p HP.out _).mono ?_; rintro e w1 ⟨rfl, b1⟩)
    go_wp2_with (go_at_call 8; refine (refParse_out s p HP.out _).mono ?_; rintro e w2 ⟨rfl, b2⟩)
    go_wp2_with (go_at_call 9; refine (oct_out s q HQ.out _).mono ?_; rintro e w3 ⟨rfl, b3⟩)
    go_wp2_with (go_at_call 10; refine (refOct_out s q HQ.out _).mono ?_; rintro e w4 ⟨rfl, rfl⟩)
    have b3' := below_two (below_two b1 b2) b3
    have L3 := hL.of_below b3'
    clear b1 b2 b3
    go_wp2_with (go_at_call 11; refine (str_out HD.out (dec_any n _ h0 h1 L3)).mono ?_; rintro e w4 ⟨rfl, b4⟩)
    have L4 := L3.of_below b4
    go_wp2_with (go_at_call 12; refine (str_out HD.out (refDec_any n _ h0 h1)).mono ?_; rintro e w5 ⟨rfl, b5⟩)
    have L5 := L4.of_below b5
    go_wp2_with (go_at_call 13; refine (str_out HO.out (oct_any n _ h0 h1 L5)).mono ?_; rintro e w6 ⟨rfl, b6⟩)
    have L6 := L5.of_below b6
    go_wp2_with (go_at_call 14; refine (str_out HO.out (refOct_any n _ h0 h1)).mono ?_; rintro e w7 ⟨rfl, b7⟩)
    have L7 := L6.of_below b7
    go_wp2_with (go_at_call 15; refine (str_out HA.out (pad_any n wide _ h0 h1 L7)).mono ?_; rintro e w8 ⟨rfl, b8⟩)
    have L8 := L7.of_below b8
    go_wp2_with (go_at_call 16; refine (str_out HA.out (refPad_any n wide _ h0 h1)).mono ?_; rintro e w9 ⟨rfl, b9⟩)
    have L9 := L8.of_below b9
    go_wp2_with (go_at_call 6; refine (awake_any _ L9).mono ?_; rintro e w10 ⟨rfl, b10⟩)
    go_ret
    exact ⟨rfl, below_two (below_two (below_two (below_two (below_two (below_two (below_two b3' b4) b5) b6) b7) b8) b9) b10⟩
end Go.Proofs.YtpjnofanfjedfaaDoor
