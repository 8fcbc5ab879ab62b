/-
  fresh.cut, Nth, and the reference's nth.
-/
import Derived.Test.YtpgikopajbjjhaaDoorFmath
import Derived.Test.YtpgikopajbjjhaaDoorNnum
import Derived.Laws.Strings3
import Derived.Lib.PathFns
namespace Go.Proofs.YtpgikopajbjjhaaDoor.F
open Go.RowKit Go.Shelf

theorem below_two {w w1 w2 : World} (h1 : Below w.heap.size w w1) (h2 : Below w1.heap.size w1 w2) : Below w.heap.size w w2 := h1.trans (h2.mono h1.size)
theorem size_l (l : List UInt8) : (⟨l.toArray⟩ : ByteArray).size = l.length := by rw [Lib.size_eq]
theorem bytes_eq (s : ByteArray) : ∃ l : List UInt8, s = ⟨l.toArray⟩ := ⟨s.data.toList, by rw [Array.toArray_toList]⟩
theorem bytes_of (l : List UInt8) : ∃ s : ByteArray, s = ⟨l.toArray⟩ ∧ s.data.toList = l ∧ s.size = l.length := ⟨_, rfl, rfl, size_l l⟩
theorem add_ll (l m : List UInt8) (h : l.length + m.length ≤ 100000) (w : World) : (Op.stringOp .add ⟨l.toArray⟩ ⟨m.toArray⟩).run Tryd.prog w = .ok (.string ⟨(l ++ m).toArray⟩) w := by
  rw [run_string_add_sum w _ _ (by rw [size_l, size_l]; omega), ByteArray.mk_append_mk]

theorem extract_min (b : List UInt8) (x : Int) (h : 0 ≤ x) : (⟨b.toArray⟩ : ByteArray).extract 0 (min (b.length : Int) x).toNat = ⟨(b.take x.toNat).toArray⟩ := by
  rw [Lib.Pa.extract_upto]
  show (⟨(b.take _).toArray⟩ : ByteArray) = _
  rw [show (min (b.length : Int) x).toNat = min b.length x.toNat by omega]
  by_cases hb : b.length ≤ x.toNat
  · rw [Nat.min_eq_left hb, List.take_of_length_le hb, List.take_of_length_le (Nat.le_refl _)]
  · rw [Nat.min_eq_right (by omega)]
set_option maxHeartbeats 1000000 in
theorem cut_any (b : List UInt8) (x : Int) (h0 : 0 ≤ x) (h1 : x ≤ 1000) (w : World) :
    Calls Tryd.prog 13 #[.string ⟨b.toArray⟩, .int .i64 x] w fun e w' => e = .returned (.string ⟨(b.take x.toNat).toArray⟩) ∧ w = w' := by
  have HE := Lib.hid (extract_min b x h0)
  obtain ⟨s, hs, hl, hz⟩ := bytes_of b
  rw [← hs]
  go_enter Tryd.func13, Tryd.ntmps13
  go_wp2
  go_ret
  exact ⟨by show Ending.returned (.string _) = _; rw [HE.out], rfl⟩

theorem nt_one {b : List UInt8} {n : Int} (h : n < 2) : nt b n = b.take (245 : Int).toNat := by
  unfold nt tl; rw [if_pos h]; simp
theorem nt_two {b : List UInt8} {n : Int} {I : List UInt8} (h : ¬ n < 2) (hI : Lib.itoa n = I) : nt b n = b.take ((245 : Int) - ((I.length : Int) + 1)).toNat ++ ([46] ++ I) := by
  unfold nt tl
  rw [if_neg h, hI, show ((245 : Int) - ((I.length : Int) + 1)).toNat = 245 - (46 :: I).length by simp; omega]
  rfl

set_option maxHeartbeats 2000000 in
theorem Nth_any (b : List UInt8) (n : Int) (hb : b.length ≤ 5000) (h0 : -9223372036854775808 ≤ n) (h1 : n ≤ 9223372036854775807) (w : World) (hL : K.Laid w) :
    Calls Tryd.prog 9 #[.string ⟨b.toArray⟩, .int .i64 n] w fun e w' => e = .returned (.string ⟨(nt b n).toArray⟩) ∧ Below w.heap.size w w' := by
  by_cases hn : n < 2
  · rw [nt_one hn]
    have cc := fun w => cut_any b 245 (by omega) (by omega) w
    clear hL
    go_enter Tryd.func9, Tryd.ntmps9
    go_wp2_with (go_at_call 13; refine (cc _).mono ?_; rintro e w1 ⟨rfl, rfl⟩)
    go_ret
    exact ⟨rfl, Below.refl _ _⟩
  · obtain ⟨I, hI⟩ : ∃ I, Lib.itoa n = I := ⟨_, rfl⟩
    rw [nt_two hn hI]
    have hlen := K.itoa_le20 n h0 h1
    have cd := K.dec_any n w h0 h1 hL
    rw [hI] at hlen cd
    have a1 := fun w => add_ll [46] I (by simp; omega) w
    have cc := fun w => cut_any b ((245 : Int) - ((I.length : Int) + 1)) (by omega) (by omega) w
    have a2 := fun w => add_ll (b.take ((245 : Int) - ((I.length : Int) + 1)).toNat) ([46] ++ I) (by simp; omega) w
    have hE : (⟨([46] ++ I).toArray⟩ : ByteArray).size = I.length + 1 := by rw [size_l]; simp
    generalize b.take ((245 : Int) - ((I.length : Int) + 1)).toNat = X at cc a2 ⊢
    generalize [46] ++ I = Y at a1 a2 hE ⊢
    rw [size_l] at hE
    clear hL hI
    go_enter Tryd.func9, Tryd.ntmps9
    go_wp2_with (first
      | (go_at_call 14; refine cd.mono ?_; rintro e w1 ⟨rfl, hb1⟩)
      | (go_at_call 13; refine (cc _).mono ?_; rintro e w2 ⟨rfl, rfl⟩))
    go_ret
    exact ⟨rfl, hb1⟩

theorem extract_max (b : List UInt8) (x : Int) (h : 0 ≤ x) : (⟨b.toArray⟩ : ByteArray).extract 0 (max (min (b.length : Int) x) 0).toNat = ⟨(b.take x.toNat).toArray⟩ := by
  rw [← extract_min b x h, show (max (min (b.length : Int) x) 0) = min (b.length : Int) x by omega]
set_option maxHeartbeats 2000000 in
theorem refNth_any (b : List UInt8) (n : Int) (hb : b.length ≤ 5000) (h0 : -9223372036854775808 ≤ n) (h1 : n ≤ 9223372036854775807) (w : World) :
    Calls Tryd.prog 8 #[.string ⟨b.toArray⟩, .int .i64 n] w fun e w' => e = .returned (.string ⟨(nt b n).toArray⟩) ∧ Below w.heap.size w w' := by
  by_cases hn : n < 2
  · rw [nt_one hn]
    have HE := Lib.hid (extract_max b 245 (by omega))
    have a2 := fun w => add_ll (b.take (245 : Int).toNat) [] (by simp; omega) w
    rw [← HE.out, List.append_nil] at a2
    go_enter Tryd.func8, Tryd.ntmps8
    go_wp2
    go_ret
    exact ⟨rfl, Below.refl _ _⟩
  · obtain ⟨I, hI⟩ : ∃ I, Lib.itoa n = I := ⟨_, rfl⟩
    rw [nt_two hn hI]
    have hn' : 2 ≤ n := by omega
    have hlen := K.itoa_le20 n h0 h1
    have cd := K.refDec_any n w h0 h1
    unfold K.S at cd
    rw [hI] at hlen cd
    have a1 := fun w => add_ll [46] I (by simp; omega) w
    have HE := Lib.hid (extract_max b ((245 : Int) - ((I.length : Int) + 1)) (by omega))
    have a2 := fun w => add_ll (b.take ((245 : Int) - ((I.length : Int) + 1)).toNat) ([46] ++ I) (by simp; omega) w
    have hE : ([46] ++ I).length = I.length + 1 := by simp
    rw [← HE.out] at a2
    generalize b.take ((245 : Int) - ((I.length : Int) + 1)).toNat = X at HE a2 ⊢
    generalize [46] ++ I = Y at a1 a2 hE ⊢
    clear hI hn
    go_enter Tryd.func8, Tryd.ntmps8
    go_wp2_with (go_at_call 12; refine cd.mono ?_; rintro e w1 ⟨rfl, hb1⟩)
    go_ret
    exact ⟨rfl, hb1⟩
end Go.Proofs.YtpgikopajbjjhaaDoor.F
