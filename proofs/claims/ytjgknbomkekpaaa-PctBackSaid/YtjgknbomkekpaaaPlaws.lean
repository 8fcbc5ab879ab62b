/-
  The law's 'awake'; the two laws of pct.
-/
import Derived.Test.YtjgknbomkekpaaaPrdec
namespace Go.Proofs.Ytjgknbomkekpaaa
open Go.RowKit Go.Shelf

theorem below_two {n : Nat} {a b c : World} (h1 : Below n a b) (h2 : Below b.heap.size b c) (h : n ≤ a.heap.size) : Below n a c :=
  h1.trans (h2.mono (Nat.le_trans h h1.size))

theorem awake_dec (w : World) : Calls Try.prog 6 #[.string ⟨#[37, 52, 97]⟩] w fun e w' => e = .returned (.tuple #[.string ⟨#[74]⟩, .int .i64 0]) ∧ Below w.heap.size w w' :=
  decode_is ⟨#[37, 52, 97]⟩ (by decide) [74] (by decide) w
theorem awake_not (w : World) : Calls Try.prog 6 #[.string ⟨#[37, 52]⟩] w fun e w' => e = .returned (.tuple #[.string ⟨#[]⟩, .int .i64 2]) ∧ Below w.heap.size w w' :=
  decode_no ⟨#[37, 52]⟩ (by decide) (by decide) w
theorem awake_enc (w : World) : Calls Try.prog 8 #[.string ⟨#[97, 32, 98, 37]⟩] w fun e w' => e = .returned (.string ⟨#[97, 37, 50, 48, 98, 37, 50, 53]⟩) ∧ Below w.heap.size w w' := by
  have h := encode_any ⟨#[97, 32, 98, 37]⟩ (by decide) w
  rwa [show M.enc (⟨#[97, 32, 98, 37]⟩ : ByteArray).data.toList = [97, 37, 50, 48, 98, 37, 50, 53] by decide] at h

set_option maxHeartbeats 2000000 in
theorem awake_any (w : World) : Calls Try.prog 5 #[] w fun e w' => e = .returned (.bool true) ∧ Below w.heap.size w w' := by
  have c1 := awake_dec
  have c2 := awake_not
  go_enter Try.func5, Try.ntmps5
  go_wp2_with (first
    | (go_at_call 6; first | (refine (c1 _).mono ?_; clear c1; rintro e w1 ⟨rfl, hb1⟩) | (refine (c2 _).mono ?_; rintro e w2 ⟨rfl, hb2⟩))
    | (go_at_call 8; refine (awake_enc _).mono ?_; rintro e w3 ⟨rfl, hb3⟩))
  go_ret
  exact ⟨rfl, below_two (below_two hb1 hb2 (Nat.le_refl _)) hb3 (Nat.le_refl _)⟩

set_option maxHeartbeats 4000000 in
theorem pctTells_walk (s : ByteArray) (w : World) : Calls Try.prog 3 #[.string s] w fun e w' => e = .returned (.bool true) ∧ Below w.heap.size w w' := by
  by_cases h : (300 : Int) < s.size
  · go_enter Try.func3, Try.ntmps3
    go_wp2_with (go_at_call 5; refine (awake_any _).mono ?_; rintro e w6 ⟨rfl, hb6⟩)
    go_ret
    exact ⟨rfl, hb6⟩
  · have c1 := fun w => encode_any s (by omega) w
    have c2 := fun w => refEncode_any s (by omega) w
    have c3 := fun w => len_any s (by omega) w
    have q (n : Nat) : n ≤ n := Nat.le_refl n
    generalize M.enc s.data.toList = a at c1 c2 c3
    cases hd : M.dec s.data.toList with
    | none =>
      have c4 := fun w => decode_no s (by omega) hd w
      have c5 : ∀ w, Calls Try.prog 7 #[.string s] w fun e w' => e = .returned (.tuple #[.string ⟨#[]⟩, .int .i64 2]) ∧ Below w.heap.size w w' :=
        fun w => (refDecode_any s (by omega) w).mono fun e w' ⟨he, hw⟩ => ⟨by rw [hd] at he; exact he, hw⟩
      clear hd
      have HQ := Lib.hid q; clear q
      go_enter Try.func3, Try.ntmps3
      go_wp2_with (first
        | (go_at_call 5; refine (awake_any _).mono ?_; rintro e w6 ⟨rfl, hb6⟩)
        | (go_at_call 8; refine (c1 _).mono ?_; rintro e w1 ⟨rfl, hb1⟩)
        | (go_at_call 9; first | (clear hx; refine (c2 _).mono ?_; rintro e w3 ⟨rfl, hb3⟩) | (refine (c2 _).mono ?_; rintro e w2 ⟨rfl, hb2⟩; have hx := trivial))
        | (go_at_call 10; refine (c3 _).mono ?_; rintro e w0 ⟨rfl, hw0⟩; obtain rfl := hw0)
        | (go_at_call 6; refine (c4 _).mono ?_; rintro e w4 ⟨rfl, hb4⟩)
        | (go_at_call 7; refine (c5 _).mono ?_; rintro e w5 ⟨rfl, hb5⟩))
      go_ret
      exact ⟨rfl, below_two (below_two (below_two (below_two (below_two hb4 hb5 (HQ.out _)) hb1 (HQ.out _)) hb2 (HQ.out _)) hb3 (HQ.out _)) hb6 (HQ.out _)⟩
    | some l =>
      have c4 := fun w => decode_is s (by omega) l hd w
      have c5 : ∀ w, Calls Try.prog 7 #[.string s] w fun e w' => e = .returned (.tuple #[.string ⟨l.toArray⟩, .int .i64 0]) ∧ Below w.heap.size w w' :=
        fun w => (refDecode_any s (by omega) w).mono fun e w' ⟨he, hw⟩ => ⟨by rw [hd] at he; exact he, hw⟩
      clear hd
      have HQ := Lib.hid q; clear q
      go_enter Try.func3, Try.ntmps3
      go_wp2_with (first
        | (go_at_call 5; refine (awake_any _).mono ?_; rintro e w6 ⟨rfl, hb6⟩)
        | (go_at_call 8; refine (c1 _).mono ?_; rintro e w1 ⟨rfl, hb1⟩)
        | (go_at_call 9; first | (clear hx; refine (c2 _).mono ?_; rintro e w3 ⟨rfl, hb3⟩) | (refine (c2 _).mono ?_; rintro e w2 ⟨rfl, hb2⟩; have hx := trivial))
        | (go_at_call 10; refine (c3 _).mono ?_; rintro e w0 ⟨rfl, hw0⟩; obtain rfl := hw0)
        | (go_at_call 6; refine (c4 _).mono ?_; rintro e w4 ⟨rfl, hb4⟩)
        | (go_at_call 7; refine (c5 _).mono ?_; rintro e w5 ⟨rfl, hb5⟩))
      go_ret
      exact ⟨rfl, below_two (below_two (below_two (below_two (below_two hb4 hb5 (HQ.out _)) hb1 (HQ.out _)) hb2 (HQ.out _)) hb3 (HQ.out _)) hb6 (HQ.out _)⟩

theorem seen_at {l : List UInt8} {s : ByteArray} (e : s = ⟨(M.enc l).toArray⟩) (k : Nat) (h : k < s.size) : 33 ≤ (s[k]'h).toNat ∧ (s[k]'h).toNat ≤ 126 := by
  subst e
  refine M.enc_seen l _ ?_
  exact List.getElem_mem (l := M.enc l) (show k < (M.enc l).length by rw [← size_l]; exact h)
set_option maxHeartbeats 4000000 in
theorem pctBack_walk (s t : ByteArray) (w : World) : Calls Try.prog 4 #[.string s, .string t] w fun e w' => e = .returned (.bool true) ∧ Below w.heap.size w w' := by
  by_cases h : (300 : Int) < s.size
  · go_enter Try.func4, Try.ntmps4
    go_wp2_with (go_at_call 5; refine (awake_any _).mono ?_; rintro e w6 ⟨rfl, hb6⟩)
    go_ret
    exact ⟨rfl, hb6⟩
  by_cases h2 : (300 : Int) < t.size
  · go_enter Try.func4, Try.ntmps4
    go_wp2_with (go_at_call 5; refine (awake_any _).mono ?_; rintro e w6 ⟨rfl, hb6⟩)
    go_ret
    exact ⟨rfl, hb6⟩
  obtain ⟨A, eA⟩ : ∃ A : ByteArray, A = ⟨(M.enc s.data.toList).toArray⟩ := ⟨_, rfl⟩
  obtain ⟨B, eB⟩ : ∃ B : ByteArray, B = ⟨(M.enc t.data.toList).toArray⟩ := ⟨_, rfl⟩
  have hA : A.size ≤ 900 := by have := M.enc_len s.data.toList; rw [eA, size_l]; rw [← Lib.size_eq] at this; omega
  have c1 := fun w => encode_any s (by omega) w
  have c2 := fun w => encode_any t (by omega) w
  have c3 := fun w => decode_is A (by omega) s.data.toList (by rw [eA]; exact M.dec_enc _) w
  rw [← eA] at c1
  rw [← eB] at c2
  have es : (⟨s.data.toList.toArray⟩ : ByteArray) = s := by rw [Array.toArray_toList]
  rw [es] at c3
  have HS := Lib.hid (fun k h => seen_at eA k h)
  have hAB : (A.toList == B.toList) = (s.toList == t.toList) := by
    rw [ByteArray.toList_eq, ByteArray.toList_eq, ByteArray.toList_eq, ByteArray.toList_eq, eA, eB, Bool.eq_iff_iff, beq_iff_eq, beq_iff_eq]
    exact ⟨M.enc_inj, fun e => by rw [e]⟩
  obtain ⟨b, hb⟩ : ∃ b, (s.toList == t.toList) = b := ⟨_, rfl⟩
  rw [hb] at hAB
  clear es eA eB
  go_enter Try.func4, Try.ntmps4
  go_wp2_with (first
    | (go_at_call 8; first | (refine (c1 _).mono ?_; clear c1; rintro e w1 ⟨rfl, hb1⟩) | (refine (c2 _).mono ?_; rintro e w2 ⟨rfl, hb2⟩))
    | (go_at_call 6; refine (c3 _).mono ?_; rintro e w3 ⟨rfl, hb3⟩))
  go_loop [9] (fun i => ∃ k : Nat, k ≤ A.size ∧ i = .int .i64 k) (fun i => A.size - (intOf i).toNat)
  case atStart => exact ⟨0, Nat.zero_le _, rfl⟩
  case round =>
    obtain ⟨k, hk, rfl⟩ := hrel
    by_cases hlt : k < A.size
    · have hsn := HS.out k hlt
      have g1 : ¬ ((A[k]'hlt).toNat : Int) < 33 := by omega
      have g2 : ¬ (126 : Int) < ((A[k]'hlt).toNat : Int) := by omega
      clear hsn hAB hb
      go_wp2
      go_round
      case rel => exact ⟨k + 1, by omega, by go_num⟩
      case measure => simp [intOf]; omega
    · go_wp2_with (go_at_call 5; refine (awake_any _).mono ?_; rintro e w6 ⟨rfl, hb6⟩)
      go_ret
      exact ⟨rfl, below_two (below_two (below_two hb1 hb2 (Nat.le_refl _)) hb3 (Nat.le_refl _)) hb6 (Nat.le_refl _)⟩
end Go.Proofs.Ytjgknbomkekpaaa
