/-
  What date.value does.
-/
import Derived.Test.YtjdccfegmllphaaGreatDoorDnum
namespace Go.Proofs.YtjdccfegmllphaaGreatDoor
open Go.RowKit Go.Shelf

theorem M.val_bound (l : List UInt8) : ∀ a : Nat, l.all M.dig = true → M.val a l < (a + 1) * 10 ^ l.length := by
  induction l with
  | nil => intro a _; rw [List.length_nil, Nat.pow_zero, Nat.mul_one]; exact Nat.lt_succ_self a
  | cons c l ih =>
    intro a h
    rw [List.all_cons, Bool.and_eq_true] at h
    have hc := (M.dig_iff c).1 h.1
    have := ih (a * 10 + (c.toNat - 48)) h.2
    have h2 : (a * 10 + (c.toNat - 48) + 1) * 10 ^ l.length ≤ (a + 1) * 10 * 10 ^ l.length := Nat.mul_le_mul_right _ (by omega)
    have h3 : (a + 1) * 10 * 10 ^ l.length = (a + 1) * 10 ^ (l.length + 1) := by rw [Nat.pow_succ, Nat.mul_comm (10 ^ l.length) 10, Nat.mul_assoc]
    rw [h3] at h2
    rw [List.length_cons]
    exact Nat.lt_of_lt_of_le this h2
theorem M.val_small (l : List UInt8) (h : l.all M.dig = true) (k : Nat) (hk : l.length ≤ k) (hk4 : k ≤ 4) : M.val 0 l < 10000 := by
  have h1 := M.val_bound l 0 h
  have h2 : 10 ^ l.length ≤ 10 ^ 4 := Nat.pow_le_pow_right (by decide) (by omega)
  have h3 : (10 : Nat) ^ 4 = 10000 := by decide
  rw [h3] at h2
  simp only [Nat.zero_add, Nat.one_mul] at h1
  exact Nat.lt_of_lt_of_le h1 h2
theorem take_at (s : ByteArray) (k : Nat) (h : k < s.size) : s.data.toList.take (k + 1) = s.data.toList.take k ++ [s[k]'h] := by
  rw [List.take_succ_eq_append_getElem (by simpa using h)]; rfl
theorem split_at (s : ByteArray) (k : Nat) (h : k < s.size) : s.data.toList = s.data.toList.take k ++ (s[k]'h) :: s.data.toList.drop (k + 1) := by
  rw [← drop_cons s k h, List.take_append_drop]
/-- what a list of digits tells -/
def vl (l : List UInt8) : Int × Bool := if l.all M.dig = true then ((M.val 0 l : Int), true) else (0, false)
theorem vl_fail {l a c : List UInt8} {b : UInt8} (h : l = a ++ b :: c) (hb : b.toNat < 48 ∨ 57 < b.toNat) : vl l = (0, false) := by
  unfold vl
  rw [if_neg]
  intro e
  rw [h, List.all_append, List.all_cons] at e
  have : M.dig b = true := by
    revert e; cases M.dig b <;> simp
  have := (M.dig_iff b).1 this
  omega
theorem vl_all {l : List UInt8} (h : l.all M.dig = true) : vl l = ((M.val 0 l : Int), true) := by unfold vl; rw [if_pos h]
theorem ret_vl {n m : Int} {b : Bool} {p : Int × Bool} (h : p = (m, b)) (hn : n = m) : Ending.returned (.tuple #[.int .i64 n, .bool b]) = .returned (.tuple #[.int .i64 p.1, .bool p.2]) := by subst h hn; rfl
set_option maxHeartbeats 1000000 in
theorem value_any (s : ByteArray) (hs : s.size ≤ 4) (w : World) :
    Calls Tryz.prog 65 #[.string s] w fun e w' => e = .returned (.tuple #[.int .i64 (vl s.data.toList).1, .bool (vl s.data.toList).2]) ∧ w = w' := by
  go_enter Tryz.func65, Tryz.ntmps65
  go_wp2
  go_loop [4, 9] (fun n u => ∃ pos : Nat, pos ≤ s.size ∧ u = .int .i64 pos ∧ n = .int .i64 (M.val 0 (s.data.toList.take pos)) ∧ (s.data.toList.take pos).all M.dig = true) (fun _ u => s.size - (intOf u).toNat)
  case atStart => exact ⟨0, Nat.zero_le _, rfl, rfl, rfl⟩
  case round =>
    obtain ⟨pos, hps, rfl, rfl, hd⟩ := hrel
    have hv := M.val_small _ hd pos (by rw [List.length_take]; omega) (by omega)
    have HD := Lib.hid hd
    clear hd
    obtain ⟨v, hvv⟩ : ∃ v, M.val 0 (s.data.toList.take pos) = v := ⟨_, rfl⟩
    rw [hvv] at hv
    rw [hvv]
    have HV := Lib.hid hvv
    clear hvv
    by_cases hp : pos < s.size
    · have HT := Lib.hid (take_at s pos hp)
      have HS := Lib.hid (split_at s pos hp)
      by_cases hd0 : (s[pos]'hp).toNat < 48
      · go_wp2
        go_ret2
        exact ⟨ret_vl (vl_fail HS.out (.inl hd0)) rfl, rfl⟩
      · by_cases hd1 : 57 < (s[pos]'hp).toNat
        · go_wp2
          go_ret2
          exact ⟨ret_vl (vl_fail HS.out (.inr hd1)) rfl, rfl⟩
        · go_wp2
          go_round
          case rel =>
            refine ⟨pos + 1, by omega, by go_num, ?_, ?_⟩
            · rw [HT.out, M.val_snoc, HV.out]; congr 1; omega
            · rw [HT.out, List.all_append, HD.out]; simp [M.dig]; omega
          case measure => simp [intOf]; omega
    · have hps2 : pos = s.size := by omega
      go_wp2
      go_ret2
      have e : s.data.toList.take pos = s.data.toList := List.take_of_length_le (by rw [← Lib.size_eq]; omega)
      have hd := HD.out
      have hv2 := HV.out
      rw [e] at hd hv2
      exact ⟨ret_vl (vl_all hd) (by rw [hv2]), rfl⟩
end Go.Proofs.YtjdccfegmllphaaGreatDoor
