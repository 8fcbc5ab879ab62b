/-
  What the reference's ParseOct and Base do.
-/
import Derived.Test.YtpgikopajbjjhaaDoorNneg
namespace Go.Proofs.YtpgikopajbjjhaaDoor.K
open Go.RowKit
def OptOut (o : Option Int) (e : Ending) : Prop := e = .returned (.tuple #[.int .i64 (o.getD 0), .bool o.isSome])
theorem optOut_some {o : Option Int} {n : Int} (h : o = some n) : OptOut o (.returned (.tuple #[.int .i64 n, .bool true])) := by unfold OptOut; rw [h]; rfl
theorem optOut_none {o : Option Int} (h : o = none) : OptOut o (.returned (.tuple #[.int .i64 0, .bool false])) := by unfold OptOut; rw [h]; rfl
theorem str_nil {s : ByteArray} (h : s.size = 0) : s.toList = [] := by
  rw [ByteArray.toList_eq]; exact List.eq_nil_of_length_eq_zero (by rw [← Lib.size_eq]; exact h)
theorem str_not_nil {s : ByteArray} (h : ¬ s.size = 0) : ¬ s.toList = [] := by
  rw [ByteArray.toList_eq]; intro e; exact h (by rw [Lib.size_eq, e]; rfl)
theorem str_not_empty {s : ByteArray} (h : ¬ s.size = 0) : s.toList.isEmpty = false := by
  have := str_not_nil h
  cases hh : s.toList with
  | nil => exact absurd hh this
  | cons _ _ => rfl

theorem getD_at (s : ByteArray) (k : Nat) (h : k < s.size) : s.data.toList.getD k 0 = s[k]'h := by
  simp [List.getD, List.getElem?_eq_getElem (show k < s.data.toList.length by simpa using h)]; rfl

/-! ### The reference's Base -/
def digB (b u : Nat) : List UInt8 :=
  if h : u < b ∨ b < 2 then [UInt8.ofNat (48 + u)] else digB b (u / b) ++ [UInt8.ofNat (48 + u % b)]
termination_by u
decreasing_by exact Nat.div_lt_self (by omega) (by omega)
theorem digB_small {b u : Nat} (h : u < b) : digB b u = [UInt8.ofNat (48 + u)] := by rw [digB, dif_pos (.inl h)]
theorem digB_big {b u : Nat} (h2 : 2 ≤ b) (h : b ≤ u) : digB b u = digB b (u / b) ++ [UInt8.ofNat (48 + u % b)] := by rw [digB, dif_neg (by omega)]
theorem digB_ten (u : Nat) : digB 10 u = Lib.decDigits u := by
  induction u using Nat.strongRecOn with
  | _ u ih =>
    by_cases h : u < 10
    · rw [digB_small h, Lib.decDigits, dif_pos h]
    · rw [digB_big (by omega) (by omega), Lib.decDigits, dif_neg h, ih (u / 10) (by omega)]
theorem conv1 (W : World) (z : Int) : (convert 41 9 (.slice (some ⟨W.heap.size, 0, none⟩) 1 1)).run Tryd.prog (W.alloc (.cells #[.int .u8 z] 5)) = .ok (.string ⟨#[UInt8.ofNat z.toNat]⟩) (W.alloc (.cells #[.int .u8 z] 5)) := by
  have h := run_convert_bytes_arg (P := Tryd.prog) (W.alloc (.cells #[.int .u8 z] 5)) 41 5 Tryd.underlying41 Tryd.underlying5 W.heap.size 0 1 1 [z] rfl (by
    intro i hi
    obtain rfl : i = 0 := by omega
    go_simp) 9 Tryd.underlying9
  exact h
theorem pow2_bound {u k n : Nat} (hn : n < 18446744073709551616) (hu : 1 ≤ u) (h : u * 2 ^ k ≤ n) : k < 64 := by
  rcases Nat.lt_or_ge k 64 with h1 | h1
  · exact h1
  · have := Nat.pow_le_pow_right (n := 2) (by decide) h1
    have h3 := Nat.mul_le_mul hu this
    omega
theorem start_le (n : Nat) : n * 2 ^ (⟨#[]⟩ : ByteArray).size ≤ n := by
  show n * 2 ^ 0 ≤ n
  omega
theorem one_cons (c : UInt8) (s : ByteArray) : ((⟨#[c]⟩ : ByteArray) ++ s).data.toList = [c] ++ s.data.toList := by simp
theorem one_size (c : UInt8) (s : ByteArray) : ((⟨#[c]⟩ : ByteArray) ++ s).size = s.size + 1 := by
  rw [Lib.size_eq, one_cons, Lib.size_eq s]; simp
theorem one_string (c : UInt8) (s : ByteArray) : Ending.returned (.string ((⟨#[c]⟩ : ByteArray) ++ s)) = .returned (.string ⟨([c] ++ s.data.toList).toArray⟩) := by
  congr 2
theorem step2 (b : Nat) (hb : 2 ≤ b) {u k n : Nat} (h : u * 2 ^ k ≤ n) : u / b * 2 ^ (k + 1) ≤ n := by
  have h1 : u / b * 2 ≤ u := by
    have := Nat.div_mul_le_self u b
    have h3 := Nat.mul_le_mul_left (u / b) hb
    omega
  have h2 := Nat.mul_le_mul_right (2 ^ k) h1
  rw [Nat.pow_succ, Nat.mul_comm (2 ^ k) 2, ← Nat.mul_assoc]
  omega
set_option maxHeartbeats 1000000 in
theorem base10_any (n : Nat) (w : World) (hn : n < 18446744073709551616) :
    Calls Tryd.prog 15 #[.int .u64 n, .int .u64 10] w fun e w' => e = .returned (.string ⟨(digB 10 n).toArray⟩) ∧ Below w.heap.size w w' := by
  go_enter Tryd.func15, Tryd.ntmps15
  go_wp2
  go_loopw [0, 5] (fun x s wr => ∃ (u : Nat) (acc : ByteArray), x = .int .u64 u ∧ s = .string acc ∧ digB 10 n = digB 10 u ++ acc.data.toList ∧ u * 2 ^ acc.size ≤ n ∧ acc.size < 64 ∧ Below w.heap.size w wr) (fun x _ _ => (intOf x).toNat)
  case atStart => exact ⟨n, ⟨#[]⟩, rfl, rfl, by rw [List.append_nil], start_le n, by decide, Below.refl _ _⟩
  case round =>
    obtain ⟨u, acc, rfl, rfl, hd, hu, ha, hnx⟩ := hrel
    have HD := Lib.hid hd; clear hd
    have hun : u ≤ n := Nat.le_trans (Nat.le_mul_of_pos_right _ (Nat.pow_pos (by decide))) hu
    have HU := Lib.hid hu; clear hu
    have hconv := conv1 wr
    by_cases hlt : 10 ≤ u
    · go_wp2
      go_roundw
      case rel =>
        have hp := step2 10 (by decide) HU.out
        refine ⟨u / 10, _, by go_num, rfl, ?_, ?_, ?_, hnx.alloc hnx.size _⟩
        · rw [HD.out, digB_big (by decide) hlt, one_cons, UInt8.ofNat_add, List.append_assoc]; rfl
        · rw [one_size]; exact hp
        · rw [one_size]; exact pow2_bound hn (by omega) hp
      case measure => simp [intOf]; omega
    · go_wp2
      go_ret
      refine ⟨?_, hnx.alloc hnx.size _⟩
      rw [HD.out, digB_small (by omega), UInt8.ofNat_add]
      exact one_string _ _
set_option maxHeartbeats 1000000 in
theorem base8_any (n : Nat) (w : World) (hn : n < 18446744073709551616) :
    Calls Tryd.prog 15 #[.int .u64 n, .int .u64 8] w fun e w' => e = .returned (.string ⟨(digB 8 n).toArray⟩) ∧ Below w.heap.size w w' := by
  go_enter Tryd.func15, Tryd.ntmps15
  go_wp2
  go_loopw [0, 5] (fun x s wr => ∃ (u : Nat) (acc : ByteArray), x = .int .u64 u ∧ s = .string acc ∧ digB 8 n = digB 8 u ++ acc.data.toList ∧ u * 2 ^ acc.size ≤ n ∧ acc.size < 64 ∧ Below w.heap.size w wr) (fun x _ _ => (intOf x).toNat)
  case atStart => exact ⟨n, ⟨#[]⟩, rfl, rfl, by rw [List.append_nil], start_le n, by decide, Below.refl _ _⟩
  case round =>
    obtain ⟨u, acc, rfl, rfl, hd, hu, ha, hnx⟩ := hrel
    have HD := Lib.hid hd; clear hd
    have hun : u ≤ n := Nat.le_trans (Nat.le_mul_of_pos_right _ (Nat.pow_pos (by decide))) hu
    have HU := Lib.hid hu; clear hu
    have hconv := conv1 wr
    by_cases hlt : 8 ≤ u
    · go_wp2
      go_roundw
      case rel =>
        have hp := step2 8 (by decide) HU.out
        refine ⟨u / 8, _, by go_num, rfl, ?_, ?_, ?_, hnx.alloc hnx.size _⟩
        · rw [HD.out, digB_big (by decide) hlt, one_cons, UInt8.ofNat_add, List.append_assoc]; rfl
        · rw [one_size]; exact hp
        · rw [one_size]; exact pow2_bound hn (by omega) hp
      case measure => simp [intOf]; omega
    · go_wp2
      go_ret
      refine ⟨?_, hnx.alloc hnx.size _⟩
      rw [HD.out, digB_small (by omega), UInt8.ofNat_add]
      exact one_string _ _
end Go.Proofs.YtpgikopajbjjhaaDoor.K
