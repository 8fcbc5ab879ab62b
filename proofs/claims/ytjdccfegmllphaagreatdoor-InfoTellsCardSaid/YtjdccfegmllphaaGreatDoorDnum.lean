/-
  What num.Dec and num.Pad and the reference's Base, Dec and Pad do; numerals of one width. (After round 1's texts.)
-/
import Derived.Test.YtjdccfegmllphaaGreatDoorDof
import Derived.Test.YtjdccfegmllphaaGreatDoorShelf
import Derived.Lib.AppendIntMem
import Derived.Lib.ItoaLen
import Derived.Lib.Repeat
namespace Go.Proofs.YtjdccfegmllphaaGreatDoor.M
open Go
def dig (c : UInt8) : Bool := decide (48 ≤ c.toNat) && decide (c.toNat ≤ 57)
def val : Nat → List UInt8 → Nat
  | a, [] => a
  | a, c :: l => val (a * 10 + (c.toNat - 48)) l
theorem dig_iff (c : UInt8) : dig c = true ↔ 48 ≤ c.toNat ∧ c.toNat ≤ 57 := by unfold dig; simp
theorem val_snoc : ∀ (l : List UInt8) (a : Nat) (c : UInt8), val a (l ++ [c]) = val a l * 10 + (c.toNat - 48)
  | [], a, c => rfl
  | d :: l, a, c => by
    rw [List.cons_append]
    show val (a * 10 + (d.toNat - 48)) (l ++ [c]) = _
    rw [val_snoc l]; rfl

theorem byte_toNat (n : Nat) (h : n < 256) : (UInt8.ofNat n).toNat = n := by simp; omega
theorem byte_back (c : UInt8) (h : 48 ≤ c.toNat) : UInt8.ofNat (48 + (c.toNat - 48)) = c := by
  rw [show 48 + (c.toNat - 48) = c.toNat by omega]; simp

end Go.Proofs.YtjdccfegmllphaaGreatDoor.M
namespace Go.Proofs.YtjdccfegmllphaaGreatDoor
open Go.RowKit Go.Shelf

theorem drop_cons (s : ByteArray) (k : Nat) (h : k < s.size) : s.data.toList.drop k = (s[k]'h) :: s.data.toList.drop (k + 1) := by
  rw [List.drop_eq_getElem_cons (by simpa using h)]; rfl

def digB (b u : Nat) : List UInt8 :=
  if h : u < b ∨ b < 2 then [UInt8.ofNat (48 + u)] else digB b (u / b) ++ [UInt8.ofNat (48 + u % b)]
termination_by u
decreasing_by exact Nat.div_lt_self (by omega) (by omega)
theorem digB_small {b u : Nat} (h : u < b) : digB b u = [UInt8.ofNat (48 + u)] := by rw [digB, dif_pos (.inl h)]
theorem digB_big {b u : Nat} (h2 : 2 ≤ b) (h : b ≤ u) : digB b u = digB b (u / b) ++ [UInt8.ofNat (48 + u % b)] := by rw [digB, dif_neg (by omega)]
theorem digB_ten (u : Nat) : digB 10 u = Lib.decDigits u := by
  induction u using Nat.strongRecOn with
  | _ u ih =>
    by_cases h : u < 10
    · rw [digB_small h, Lib.decDigits, dif_pos h]
    · rw [digB_big (by omega) (by omega), Lib.decDigits, dif_neg h, ih (u / 10) (by omega)]
theorem conv1 (W : World) (z : Int) : (convert 66 9 (.slice (some ⟨W.heap.size, 0, none⟩) 1 1)).run Tryz.prog (W.alloc (.cells #[.int .u8 z] 5)) = .ok (.string ⟨#[UInt8.ofNat z.toNat]⟩) (W.alloc (.cells #[.int .u8 z] 5)) := by
  have h := run_convert_bytes_arg (P := Tryz.prog) (W.alloc (.cells #[.int .u8 z] 5)) 66 5 Tryz.underlying66 Tryz.underlying5 W.heap.size 0 1 1 [z] rfl (by
    intro i hi
    obtain rfl : i = 0 := by omega
    go_simp) 9 Tryz.underlying9
  exact h
theorem pow2_bound {u k n : Nat} (hn : n < 18446744073709551616) (hu : 1 ≤ u) (h : u * 2 ^ k ≤ n) : k < 64 := by
  rcases Nat.lt_or_ge k 64 with h1 | h1
  · exact h1
  · have := Nat.pow_le_pow_right (n := 2) (by decide) h1
    have h3 := Nat.mul_le_mul hu this
    omega
theorem start_le (n : Nat) : n * 2 ^ (⟨#[]⟩ : ByteArray).size ≤ n := by
  show n * 2 ^ 0 ≤ n
  omega
theorem one_cons (c : UInt8) (s : ByteArray) : ((⟨#[c]⟩ : ByteArray) ++ s).data.toList = [c] ++ s.data.toList := by simp
theorem one_size (c : UInt8) (s : ByteArray) : ((⟨#[c]⟩ : ByteArray) ++ s).size = s.size + 1 := by
  rw [Lib.size_eq, one_cons, Lib.size_eq s]; simp
theorem one_string (c : UInt8) (s : ByteArray) : Ending.returned (.string ((⟨#[c]⟩ : ByteArray) ++ s)) = .returned (.string ⟨([c] ++ s.data.toList).toArray⟩) := by
  congr 2
theorem step2 (b : Nat) (hb : 2 ≤ b) {u k n : Nat} (h : u * 2 ^ k ≤ n) : u / b * 2 ^ (k + 1) ≤ n := by
  have h1 : u / b * 2 ≤ u := by
    have := Nat.div_mul_le_self u b
    have h3 := Nat.mul_le_mul_left (u / b) hb
    omega
  have h2 := Nat.mul_le_mul_right (2 ^ k) h1
  rw [Nat.pow_succ, Nat.mul_comm (2 ^ k) 2, ← Nat.mul_assoc]
  omega
set_option maxHeartbeats 1000000 in
theorem base10_any (n : Nat) (w : World) (hn : n < 18446744073709551616) :
    Calls Tryz.prog 77 #[.int .u64 n, .int .u64 10] w fun e w' => e = .returned (.string ⟨(digB 10 n).toArray⟩) ∧ Below w.heap.size w w' := by
  go_enter Tryz.func77, Tryz.ntmps77
  go_wp2
  go_loopw [0, 5] (fun x s wr => ∃ (u : Nat) (acc : ByteArray), x = .int .u64 u ∧ s = .string acc ∧ digB 10 n = digB 10 u ++ acc.data.toList ∧ u * 2 ^ acc.size ≤ n ∧ acc.size < 64 ∧ Below w.heap.size w wr) (fun x _ _ => (intOf x).toNat)
  case atStart => exact ⟨n, ⟨#[]⟩, rfl, rfl, by rw [List.append_nil], start_le n, by decide, Below.refl _ _⟩
  case round =>
    obtain ⟨u, acc, rfl, rfl, hd, hu, ha, hnx⟩ := hrel
    have HD := Lib.hid hd; clear hd
    have hun : u ≤ n := Nat.le_trans (Nat.le_mul_of_pos_right _ (Nat.pow_pos (by decide))) hu
    have HU := Lib.hid hu; clear hu
    have hconv := conv1 wr
    by_cases hlt : 10 ≤ u
    · go_wp2
      go_roundw
      case rel =>
        have hp := step2 10 (by decide) HU.out
        refine ⟨u / 10, _, by go_num, rfl, ?_, ?_, ?_, hnx.alloc hnx.size _⟩
        · rw [HD.out, digB_big (by decide) hlt, one_cons, UInt8.ofNat_add, List.append_assoc]; rfl
        · rw [one_size]; exact hp
        · rw [one_size]; exact pow2_bound hn (by omega) hp
      case measure => simp [intOf]; omega
    · go_wp2
      go_ret
      refine ⟨?_, hnx.alloc hnx.size _⟩
      rw [HD.out, digB_small (by omega), UInt8.ofNat_add]
      exact one_string _ _
def S (l : List UInt8) : Value := .string ⟨l.toArray⟩
theorem S_app (c : UInt8) (l : List UInt8) : (.string ((⟨#[c]⟩ : ByteArray) ++ ⟨l.toArray⟩) : Value) = S (c :: l) := by
  unfold S; congr 1
theorem dec_short (u : Nat) (h : u < 18446744073709551616) : (digB 10 u).length ≤ 20 := by
  rw [digB_ten, Lib.decDigits_length]; exact Lib.nDigits_le20 u h
theorem dec_size (u : Nat) (h : u < 18446744073709551616) : (⟨(digB 10 u).toArray⟩ : ByteArray).size ≤ 20 := by
  rw [Lib.size_eq]; simpa using dec_short u h

set_option maxHeartbeats 1000000 in
theorem refDec_any (n : Int) (w : World) (h0 : -9223372036854775808 ≤ n) (h1 : n ≤ 9223372036854775807) :
    Calls Tryz.prog 52 #[.int .i64 n] w fun e w' => e = .returned (S (Lib.itoa n)) ∧ Below w.heap.size w w' := by
  by_cases hneg : n < 0
  · obtain ⟨u, rfl⟩ : ∃ u : Nat, n = -(u : Int) := ⟨n.natAbs, by omega⟩
    have hsz := dec_short u (by omega)
    rw [Lib.itoa_neg u (by omega), ← digB_ten]
    have hwr : IntKind.u64.wrap (-IntKind.u64.wrap (-(u : Int))) = (u : Int) := by simp only [IntKind.wrap_u64]; omega
    go_enter Tryz.func52, Tryz.ntmps52
    go_wp2_with fail
    clear hwr
    refine (base10_any u _ (by omega)).mono ?_
    rintro e w' ⟨rfl, hb⟩
    go_wp2
    go_ret
    exact ⟨congrArg Ending.returned (S_app _ _), hb⟩
  · obtain ⟨u, rfl⟩ : ∃ u : Nat, n = u := ⟨n.toNat, by omega⟩
    rw [Lib.itoa_nonneg, ← digB_ten]
    go_enter Tryz.func52, Tryz.ntmps52
    go_wp2_with (go_at_call 77; refine (base10_any u _ (by omega)).mono ?_; rintro e w' ⟨rfl, hb⟩)
    go_ret
    exact ⟨rfl, hb⟩

def padL (k : Nat) (l : List UInt8) : List UInt8 := List.replicate (k - l.length) 48 ++ l
def padOf (n wide : Int) : List UInt8 := if n < 0 ∨ 20 < wide then [] else padL wide.toNat (Lib.itoa n)
theorem padL_step {k : Nat} {l : List UInt8} (h : l.length < k) : padL k l = padL k (48 :: l) := by
  unfold padL
  rw [List.length_cons, show k - l.length = (k - (l.length + 1)) + 1 by omega, List.replicate_succ', List.append_assoc]; rfl
theorem padL_end {k : Nat} {l : List UInt8} (h : k ≤ l.length) : padL k l = l := by
  unfold padL; rw [show k - l.length = 0 by omega]; rfl
theorem padOf_none {n wide : Int} (h : n < 0 ∨ 20 < wide) : padOf n wide = [] := by unfold padOf; rw [if_pos h]
theorem padOf_some {n wide : Int} (h : ¬ n < 0) (h2 : ¬ 20 < wide) : padOf n wide = padL wide.toNat (Lib.itoa n) := by unfold padOf; rw [if_neg (by omega)]
theorem itoa_short (n : Int) (h0 : 0 ≤ n) (h1 : n ≤ 9223372036854775807) : (Lib.itoa n).length ≤ 20 := by
  obtain ⟨u, rfl⟩ : ∃ u : Nat, n = u := ⟨n.toNat, by omega⟩
  rw [Lib.itoa_nonneg, ← digB_ten]; exact dec_short u (by omega)
set_option maxHeartbeats 1000000 in
theorem refPad_any (n wide : Int) (w : World) (h0 : -9223372036854775808 ≤ n) (h1 : n ≤ 9223372036854775807) :
    Calls Tryz.prog 30 #[.int .i64 n, .int .i64 wide] w fun e w' => e = .returned (S (padOf n wide)) ∧ Below w.heap.size w w' := by
  by_cases hneg : n < 0
  · go_enter Tryz.func30, Tryz.ntmps30
    go_wp2
    go_ret
    exact ⟨by rw [padOf_none (.inl hneg)]; rfl, Below.refl _ _⟩
  · by_cases hw : 20 < wide
    · go_enter Tryz.func30, Tryz.ntmps30
      go_wp2
      go_ret
      exact ⟨by rw [padOf_none (.inr hw)]; rfl, Below.refl _ _⟩
    · have HP := Lib.hid (padOf_some hneg hw)
      have hl := itoa_short n (by omega) h1
      go_enter Tryz.func30, Tryz.ntmps30
      go_wp2_with (go_at_call 52; refine (refDec_any n _ h0 h1).mono ?_; rintro e w' ⟨rfl, hb⟩)
      go_loop [5] (fun s => ∃ l : List UInt8, s = S l ∧ l.length ≤ 20 ∧ padL wide.toNat (Lib.itoa n) = padL wide.toNat l) (fun s => match s with | .string b => 20 - b.size | _ => 0)
      case atStart => exact ⟨_, rfl, hl, rfl⟩
      case round =>
        obtain ⟨l, rfl, hl20, hp⟩ := hrel
        have HP2 := Lib.hid hp; clear hp
        unfold S
        by_cases hlt : (l.length : Int) < wide
        · go_wp2
          go_round
          case rel => exact ⟨48 :: l, S_app 48 l, by rw [List.length_cons]; omega, by rw [HP2.out, padL_step (by omega)]⟩
          case measure =>
            show 20 - ((⟨#[48]⟩ : ByteArray) ++ ⟨l.toArray⟩).size < 20 - (⟨l.toArray⟩ : ByteArray).size
            rw [one_size, show (⟨l.toArray⟩ : ByteArray).size = l.length from by rw [Lib.size_eq]]
            omega
        · go_wp2
          go_ret
          exact ⟨by rw [HP.out, HP2.out, padL_end (by omega)]; rfl, hb⟩
/-- The table of date: marks and widths. -/
def Marks (w : World) : Prop :=
  w.cell? ⟨0, 0, none⟩ = some (.string ⟨#[]⟩) ∧
  w.cell? ⟨0, 1, none⟩ = some (.int .i64 4) ∧
  w.cell? ⟨0, 2, none⟩ = some (.string ⟨#[45]⟩) ∧
  w.cell? ⟨0, 3, none⟩ = some (.int .i64 2) ∧
  w.cell? ⟨0, 4, none⟩ = some (.string ⟨#[45]⟩) ∧
  w.cell? ⟨0, 5, none⟩ = some (.int .i64 2) ∧
  w.cell? ⟨0, 6, none⟩ = some (.string ⟨#[84]⟩) ∧
  w.cell? ⟨0, 7, none⟩ = some (.int .i64 2) ∧
  w.cell? ⟨0, 8, none⟩ = some (.string ⟨#[58]⟩) ∧
  w.cell? ⟨0, 9, none⟩ = some (.int .i64 2) ∧
  w.cell? ⟨0, 10, none⟩ = some (.string ⟨#[58]⟩) ∧
  w.cell? ⟨0, 11, none⟩ = some (.int .i64 2)
/-- What the listed tables give the walks. -/
structure Laid (w : World) : Prop where
  pow : Lib.TabIs Tryz.prog w "internal/strconv.uint64pow10" .u64 Lib.pow10Tab
  marks : Marks w
  room : 5 ≤ w.heap.size
theorem Marks.of_below {n : Nat} {w w' : World} (h : Marks w) (hb : Below n w w') (hn : 0 < n) : Marks w' := by
  obtain ⟨c0, c1, c2, c3, c4, c5, c6, c7, c8, c9, c10, c11⟩ := h
  refine ⟨?_, ?_, ?_, ?_, ?_, ?_, ?_, ?_, ?_, ?_, ?_, ?_⟩ <;> rw [hb.cell (by exact hn)] <;> assumption
theorem gPow : Tryz.prog.globalNamed "internal/strconv.uint64pow10" = some 4 := by kernel_rfl
theorem Laid.of_below {w w' : World} (h : Laid w) (hb : Below w.heap.size w w') : Laid w' :=
  ⟨var?_below hb gPow (by have := h.room; omega) h.pow, h.marks.of_below hb (by have := h.room; omega), Nat.le_trans h.room hb.size⟩
set_option maxHeartbeats 1000000 in
theorem dec_any (n : Int) (w : World) (h0 : -9223372036854775808 ≤ n) (h1 : n ≤ 9223372036854775807) (hL : Laid w) :
    Calls Tryz.prog 48 #[.int .i64 n] w fun e w' => e = .returned (.string ⟨(Lib.itoa n).toArray⟩) ∧ Below w.heap.size w w' := by
  go_enter Tryz.func48, Tryz.ntmps48
  go_wp2_with (go_at_call 70; refine (Tryz.strconv_Itoa n h0 h1 _ hL.pow).mono ?_; rintro e w' ⟨rfl, k, os, rfl⟩)
  go_ret
  exact ⟨rfl, Lib.below_grow _ _ (Nat.le_refl _) _ _⟩

theorem repeat_zero : ∀ k : Nat, Lib.repeatL [48] k = List.replicate k 48
  | 0 => rfl
  | k + 1 => by rw [Lib.repeatL, repeat_zero k]; rfl
theorem S_two (a b : List UInt8) : (.string ((⟨a.toArray⟩ : ByteArray) ++ ⟨b.toArray⟩) : Value) = S (a ++ b) := by
  unfold S; congr 1

set_option maxHeartbeats 1000000 in
theorem pad_any (n wide : Int) (w : World) (h0 : -9223372036854775808 ≤ n) (h1 : n ≤ 9223372036854775807) (hL : Laid w) :
    Calls Tryz.prog 26 #[.int .i64 n, .int .i64 wide] w fun e w' => e = .returned (S (padOf n wide)) ∧ Below w.heap.size w w' := by
  by_cases hneg : n < 0
  · go_enter Tryz.func26, Tryz.ntmps26
    go_wp2
    go_ret
    exact ⟨by rw [padOf_none (.inl hneg)]; rfl, Below.refl _ _⟩
  · by_cases hw : 20 < wide
    · go_enter Tryz.func26, Tryz.ntmps26
      go_wp2
      go_ret
      exact ⟨by rw [padOf_none (.inr hw)]; rfl, Below.refl _ _⟩
    · have HP := Lib.hid (padOf_some hneg hw)
      have hl := itoa_short n (by omega) h1
      go_enter Tryz.func26, Tryz.ntmps26
      go_wp2_with (go_at_call 48; refine (dec_any n _ h0 h1 hL).mono ?_; rintro e w1 ⟨rfl, hb⟩)
      have hk : max wide ((Lib.itoa n).length : Int) - ((Lib.itoa n).length : Int) = ((wide.toNat - (Lib.itoa n).length : Nat) : Int) := by rw [Int.max_def]; split <;> omega
      rw [hk]
      clear hk
      refine (Tryz.strings_Repeat _ _ _ (by omega) (by show 1 * _ ≤ _; omega)).mono ?_
      rintro e w2 ⟨rfl, hb2⟩
      have hr : Lib.repeatL (⟨#[48]⟩ : ByteArray).data.toList (wide.toNat - (Lib.itoa n).length) = List.replicate (wide.toNat - (Lib.itoa n).length) 48 := repeat_zero _
      rw [hr]
      clear hr
      generalize hR : List.replicate (wide.toNat - (Lib.itoa n).length) (48 : UInt8) = R
      have hRl : R.length ≤ 20 := by rw [← hR, List.length_replicate]; omega
      have HR := Lib.hid hR; clear hR
      go_wp2
      go_ret
      refine ⟨?_, hb.trans (hb2.mono hb.size)⟩
      rw [HP.out]
      unfold padL
      rw [HR.out]
      exact congrArg Ending.returned (S_two _ _)

def fx : Nat → Nat → List UInt8
  | 0, _ => []
  | k + 1, u => fx k (u / 10) ++ [UInt8.ofNat (48 + u % 10)]
theorem fx_length : ∀ k u, (fx k u).length = k
  | 0, _ => rfl
  | k + 1, u => by unfold fx; rw [List.length_append, fx_length k]; rfl
theorem fx_zero : ∀ k, fx k 0 = List.replicate k 48
  | 0 => rfl
  | k + 1 => by unfold fx; rw [Nat.zero_div, fx_zero k, List.replicate_succ']; rfl
theorem padL_fx : ∀ k u, u < 10 ^ (k + 1) → padL (k + 1) (Lib.decDigits u) = fx (k + 1) u
  | 0, u, h => by
    have h : u < 10 := by simpa using h
    rw [Lib.decDigits_one h]
    unfold fx fx padL
    rw [Nat.mod_eq_of_lt h]; rfl
  | k + 1, u, h => by
    by_cases h10 : u < 10
    · rw [Lib.decDigits_one h10]
      unfold fx
      rw [Nat.div_eq_of_lt h10, fx_zero, Nat.mod_eq_of_lt h10]
      rfl
    · have ih := padL_fx k (u / 10) (by rw [Nat.pow_succ] at h; omega)
      rw [fx, ← ih, Lib.decDigits, dif_neg h10]
      unfold padL
      rw [List.length_append, show k + 1 + 1 - ((Lib.decDigits (u / 10)).length + [UInt8.ofNat (48 + u % 10)].length) = k + 1 - (Lib.decDigits (u / 10)).length by simp, List.append_assoc]
theorem bl_snoc (x y : UInt8) : ∀ l m : List UInt8, l.length = m.length → Op.bytesLess (l ++ [x]) (m ++ [y]) = (Op.bytesLess l m || (l == m && decide (x < y)))
  | [], [], _ => by simp [Op.bytesLess]
  | a :: l, b :: m, h => by
    have ih := bl_snoc x y l m (by simpa using h)
    rw [List.cons_append, List.cons_append]
    unfold Op.bytesLess
    rw [ih, List.cons_beq_cons]
    cases decide (a < b) <;> cases (a == b) <;> simp
  | [], _ :: _, h => by simp at h
  | _ :: _, [], h => by simp at h
theorem byte_lt (a b : Nat) (ha : a < 256) (hb : b < 256) : (UInt8.ofNat a < UInt8.ofNat b) ↔ a < b := by
  rw [UInt8.lt_iff_toNat_lt, M.byte_toNat a ha, M.byte_toNat b hb]
theorem byte_eq (a b : Nat) (ha : a < 256) (hb : b < 256) (h : UInt8.ofNat a = UInt8.ofNat b) : a = b := by
  have := congrArg UInt8.toNat h
  rwa [M.byte_toNat a ha, M.byte_toNat b hb] at this
theorem fx_inj : ∀ k a b, a < 10 ^ k → b < 10 ^ k → fx k a = fx k b → a = b
  | 0, a, b, ha, hb, _ => by simp at ha hb; omega
  | k + 1, a, b, ha, hb, h => by
    unfold fx at h
    obtain ⟨h1, h2⟩ := List.append_inj' h rfl
    have e1 := fx_inj k (a / 10) (b / 10) (by rw [Nat.pow_succ] at ha; omega) (by rw [Nat.pow_succ] at hb; omega) h1
    have e2 := byte_eq _ _ (by omega) (by omega) (by simpa using h2 : UInt8.ofNat (48 + a % 10) = UInt8.ofNat (48 + b % 10))
    omega
theorem fx_less : ∀ k a b, a < 10 ^ k → b < 10 ^ k → Op.bytesLess (fx k a) (fx k b) = decide (a < b)
  | 0, a, b, ha, hb => by simp at ha hb; subst ha; subst hb; rfl
  | k + 1, a, b, ha, hb => by
    have ha' : a / 10 < 10 ^ k := by rw [Nat.pow_succ] at ha; omega
    have hb' : b / 10 < 10 ^ k := by rw [Nat.pow_succ] at hb; omega
    unfold fx
    rw [bl_snoc _ _ _ _ (by rw [fx_length, fx_length]), fx_less k _ _ ha' hb']
    have hl := byte_lt (48 + a % 10) (48 + b % 10) (by omega) (by omega)
    rw [Bool.eq_iff_iff]
    simp only [Bool.or_eq_true, Bool.and_eq_true, decide_eq_true_eq, beq_iff_eq, hl]
    constructor
    · rintro (h | ⟨h, h'⟩)
      · omega
      · have := fx_inj k _ _ ha' hb' h; omega
    · intro h
      by_cases e : a / 10 = b / 10
      · right; exact ⟨by rw [e], by omega⟩
      · left; omega
end Go.Proofs.YtjdccfegmllphaaGreatDoor
