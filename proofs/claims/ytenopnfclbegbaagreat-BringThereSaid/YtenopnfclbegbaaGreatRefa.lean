/-
  What the reference's Has, Check and Path do.
-/
import Derived.Test.YtenopnfclbegbaaGreatProg
import Derived.Test.YtenopnfclbegbaaGreatMath
import Derived.WalkKit
import Derived.WalkSpells
import Derived.WalkSmall
import Derived.Lib.OthersKept
import Derived.Lib.Hide
import Derived.IntWalk
namespace Go.Proofs.YtenopnfclbegbaaGreat.V
open Go.RowKit

theorem drop_cons (s : ByteArray) (k : Nat) (h : k < s.size) : s.data.toList.drop k = s[k]'h :: s.data.toList.drop (k + 1) := by
  rw [List.drop_eq_getElem_cons (show k < s.data.toList.length by simpa using h)]; simp; rfl
theorem has_step {s : ByteArray} {pos : Nat} {c : UInt8} (h : c ∉ s.data.toList.take pos) (hp : pos < s.size) (hne : ¬ ((s[pos]'hp).toNat = c.toNat)) : c ∉ s.data.toList.take (pos + 1) := by
  rw [List.take_succ_eq_append_getElem (show pos < s.data.toList.length by simpa using hp)]
  simp only [List.mem_append, List.mem_singleton, not_or]
  exact ⟨h, fun e => hne (by rw [e]; simp; rfl)⟩
theorem has_here {s : ByteArray} {pos : Nat} {c : UInt8} (hp : pos < s.size) (he : (s[pos]'hp).toNat = c.toNat) : c ∈ s.data.toList := by
  have : s[pos]'hp = c := UInt8.toNat_inj.1 he
  rw [← this]
  have h2 : s[pos]'hp = s.data.toList[pos]'(by simpa using hp) := by simp; rfl
  rw [h2]; exact List.getElem_mem _

set_option maxHeartbeats 1000000 in
theorem has_any (s : ByteArray) (hs : s.size ≤ 5000) (c : UInt8) (w : World) :
    Calls Tryz.prog 53 #[.string s, .int .u8 c.toNat] w fun e w' => e = .returned (.bool (M.has s.data.toList c)) ∧ w = w' := by
  go_enter Tryz.func53, Tryz.ntmps53
  go_wp2
  go_loop [5] (fun i => ∃ pos : Nat, pos ≤ s.size ∧ c ∉ s.data.toList.take pos ∧ i = .int .i64 pos) (fun i => s.size - (intOf i).toNat)
  case atStart => exact ⟨0, Nat.zero_le _, by simp, rfl⟩
  case round =>
    obtain ⟨pos, hps, hno, rfl⟩ := hrel
    have HN := Lib.hid hno; clear hno
    by_cases hp : pos < s.size
    · by_cases hc : (s[pos]'hp).toNat = c.toNat
      · have HH := Lib.hid (has_here hp hc)
        go_wp2
        go_ret
        exact ⟨by rw [M.has_yes HH.out]; rfl, rfl⟩
      · have HS := Lib.hid (has_step HN.out hp hc)
        go_wp2
        go_round
        case rel => exact ⟨pos + 1, by omega, HS.out, by go_num⟩
        case measure => simp [intOf]; omega
    · go_wp2
      go_ret
      refine ⟨?_, rfl⟩
      have := HN.out
      rw [List.take_of_length_le (by simp; omega)] at this
      rw [M.has_no this]; rfl

theorem not_empty {s : ByteArray} (h : ¬ s.toList = []) : s.toList.isEmpty = false := by
  cases hh : s.toList with
  | nil => exact absurd hh h
  | cons _ _ => rfl
theorem has_yes {s : ByteArray} {c : UInt8} (hs : s.size ≤ 5000) (h : c ∈ s.data.toList) (w : World) :
    Calls Tryz.prog 53 #[.string s, .int .u8 c.toNat] w fun e w' => e = .returned (.bool true) ∧ w = w' := by
  have := has_any s hs c w
  rwa [M.has_yes h] at this
theorem has_no {s : ByteArray} {c : UInt8} (hs : s.size ≤ 5000) (h : c ∉ s.data.toList) (w : World) :
    Calls Tryz.prog 53 #[.string s, .int .u8 c.toNat] w fun e w' => e = .returned (.bool false) ∧ w = w' := by
  have := has_any s hs c w
  rwa [M.has_no h] at this

set_option maxHeartbeats 1000000 in
theorem refCheck_any (s : ByteArray) (hs : s.size ≤ 5000) (w : World) :
    Calls Tryz.prog 47 #[.string s] w fun e w' => e = .returned (.int .i64 (M.check s.data.toList)) ∧ w = w' := by
  have HE := Lib.hid (ByteArray.toList_eq s)
  have HZ := Lib.hid (Lib.size_eq s)
  by_cases h0 : s.toList = []
  · go_enter Tryz.func47, Tryz.ntmps47
    go_wp2
    go_ret
    exact ⟨by rw [M.check, if_pos (.inl (by rw [← HE.out, h0]))]; rfl, rfl⟩
  have h0' := not_empty h0
  by_cases h1 : s.toList = [46]
  · go_enter Tryz.func47, Tryz.ntmps47
    go_wp2
    go_ret
    exact ⟨by rw [M.check, if_pos (.inr (.inl (by rw [← HE.out, h1])))]; rfl, rfl⟩
  have h1' : (s.toList == [46]) = false := by simpa using h1
  by_cases h2 : s.toList = [46, 46]
  · go_enter Tryz.func47, Tryz.ntmps47
    go_wp2
    go_ret
    exact ⟨by rw [M.check, if_pos (.inr (.inr (.inl (by rw [← HE.out, h2]))))]; rfl, rfl⟩
  have h2' : (s.toList == [46, 46]) = false := by simpa using h2
  by_cases h3 : (47 : UInt8) ∈ s.data.toList
  · have H3 := Lib.hid h3
    have c47 := fun w => has_yes hs h3 w
    clear h3
    go_enter Tryz.func47, Tryz.ntmps47
    go_wp2_with (go_at_call 53; refine (c47 _).mono ?_; rintro e w1 ⟨rfl, rfl⟩)
    go_ret
    exact ⟨by rw [M.check, if_pos (.inr (.inr (.inr (.inl H3.out))))]; rfl, rfl⟩
  have H3 := Lib.hid h3
  have c47 := fun w => has_no hs h3 w
  clear h3
  by_cases h4 : (0 : UInt8) ∈ s.data.toList
  · have H4 := Lib.hid h4
    have c0 := fun w => has_yes hs h4 w
    clear h4
    go_enter Tryz.func47, Tryz.ntmps47
    go_wp2_with (go_at_call 53; (first | (refine (c47 _).mono ?_; clear c47) | refine (c0 _).mono ?_); rintro e w1 ⟨rfl, rfl⟩)
    go_ret
    exact ⟨by rw [M.check, if_pos (.inr (.inr (.inr (.inr H4.out))))]; rfl, rfl⟩
  have H4 := Lib.hid h4
  have c0 := fun w => has_no hs h4 w
  clear h4
  have HB : Hid (¬ M.bad s.data.toList) := Lib.hid (by
    have e := HE.out
    rw [e] at h0 h1 h2
    unfold M.bad
    simp [h0, h1, h2, H3.out, H4.out])
  by_cases h5 : (255 : Int) < s.size
  · go_enter Tryz.func47, Tryz.ntmps47
    go_wp2_with (go_at_call 53; (first | (refine (c47 _).mono ?_; clear c47) | refine (c0 _).mono ?_); rintro e w1 ⟨rfl, rfl⟩)
    go_ret
    exact ⟨by rw [M.check, if_neg HB.out, if_pos (by rw [← HZ.out]; omega)]; rfl, rfl⟩
  · go_enter Tryz.func47, Tryz.ntmps47
    go_wp2_with (go_at_call 53; (first | (refine (c47 _).mono ?_; clear c47) | refine (c0 _).mono ?_); rintro e w1 ⟨rfl, rfl⟩)
    go_ret
    exact ⟨by rw [M.check, if_neg HB.out, if_neg (by rw [← HZ.out]; omega)]; rfl, rfl⟩

theorem not_nil {s : ByteArray} (h : ¬ s.toList = []) : 0 < s.size := by
  rw [Lib.size_eq]; rw [ByteArray.toList_eq] at h
  exact List.length_pos_iff.2 h
theorem head_at {s : ByteArray} (h : 0 < s.size) : s.data.toList.head? = some (s[0]'h) := by
  have := drop_cons s 0 h
  rw [List.drop_zero] at this
  rw [this]; rfl

end Go.Proofs.YtenopnfclbegbaaGreat.V
