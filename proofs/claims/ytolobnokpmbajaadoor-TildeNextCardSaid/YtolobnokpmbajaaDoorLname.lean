/-
  tilde.valid, Name, Index.
-/
import Derived.Test.YtolobnokpmbajaaDoorLmath
import Derived.Test.YtolobnokpmbajaaDoorNnum
import Derived.Test.YtolobnokpmbajaaDoorName
namespace Go.Proofs.YtolobnokpmbajaaDoor.L
open Go.RowKit Go.Shelf

theorem below_two {w w1 w2 : World} (h1 : Below w.heap.size w w1) (h2 : Below w1.heap.size w1 w2) : Below w.heap.size w w2 := h1.trans (h2.mono h1.size)
theorem size_l (l : List UInt8) : (⟨l.toArray⟩ : ByteArray).size = l.length := by rw [Lib.size_eq]
theorem bytes_eq (s : ByteArray) : ∃ l : List UInt8, s = ⟨l.toArray⟩ := ⟨s.data.toList, by rw [Array.toArray_toList]⟩
theorem add_ll (l m : List UInt8) (h : l.length + m.length ≤ 100000) (w : World) : (Op.stringOp .add ⟨l.toArray⟩ ⟨m.toArray⟩).run Tryd.prog w = .ok (.string ⟨(l ++ m).toArray⟩) w := by
  rw [run_string_add_sum w _ _ (by rw [size_l, size_l]; omega), ByteArray.mk_append_mk]

set_option maxHeartbeats 1000000 in
theorem valid_any (n : Int) (w : World) : Calls Tryd.prog 47 #[.int .i64 n] w fun e w' => e = .returned (.bool (vn n)) ∧ w' = w := by
  by_cases h1 : 1 ≤ n
  · by_cases h2 : n ≤ 999999999
    · have HV := Lib.hid (vn_of h1 h2)
      go_enter Tryd.func47, Tryd.ntmps47
      go_wp2
      go_ret
      exact ⟨by rw [HV.out]; rfl, rfl⟩
    · have HV : Hid (vn n = false) := Lib.hid (by simp [vn, h2])
      go_enter Tryd.func47, Tryd.ntmps47
      go_wp2
      go_ret
      exact ⟨by rw [HV.out]; rfl, rfl⟩
  · have HV : Hid (vn n = false) := Lib.hid (by simp [vn, h1])
    go_enter Tryd.func47, Tryd.ntmps47
    go_wp2
    go_ret
    exact ⟨by rw [HV.out]; rfl, rfl⟩
theorem valid_is {n : Int} {b : Bool} (h : vn n = b) (w : World) : Calls Tryd.prog 47 #[.int .i64 n] w fun e w' => e = .returned (.bool b) ∧ w' = w := by
  have := valid_any n w
  rwa [h] at this
theorem check_is {l : List UInt8} {c : Int} (h : V.M.check l = c) (w : World) : Calls Tryd.prog 46 #[.string ⟨l.toArray⟩] w fun e w' => e = .returned (.int .i64 c) ∧ w = w' := by
  have := V.check_any ⟨l.toArray⟩ w
  rw [show (⟨l.toArray⟩ : ByteArray).data.toList = l from rfl, h] at this
  exact this
theorem itoa_le (n : Int) (h : vn n = true) : (Lib.itoa n).length ≤ 21 := Lib.itoa_length_le n (by have := vn_yes h; omega) (by have := vn_yes h; omega)

set_option maxHeartbeats 2000000 in
theorem name_any (b : List UInt8) (n : Int) (hb : b.length ≤ 2000) (w : World) (hL : K.Laid w) :
    Calls Tryd.prog 22 #[.string ⟨b.toArray⟩, .int .i64 n] w fun e w' => e = .returned (.tuple #[.string ⟨(nm b n).toArray⟩, .int .i64 (er b n)]) ∧ Below w.heap.size w w' := by
  by_cases hc : V.M.check b = 0
  · have cc := fun w => check_is hc w
    cases hv : vn n
    · have cv := fun w => valid_is hv w
      have HE : Hid (er b n = 3) := Lib.hid (by unfold er; rw [if_neg (by simp [hc]), if_pos hv])
      have HN : Hid (nm b n = []) := Lib.hid (by unfold nm; rw [HE.out]; rfl)
      clear hc hv
      go_enter Tryd.func22, Tryd.ntmps22
      go_wp2_with (first
        | (go_at_call 46; refine (cc _).mono ?_; rintro e w1 ⟨rfl, rfl⟩)
        | (go_at_call 47; refine (cv _).mono ?_; rintro e w2 ⟨rfl, hw2⟩; obtain rfl := hw2.symm))
      go_ret2
      exact ⟨by rw [HE.out, HN.out]; rfl, Below.refl _ _⟩
    · have cv := fun w => valid_is hv w
      have hr := vn_yes hv
      have cd := K.dec_any n w (by omega) (by omega) hL
      have hl := itoa_le n hv
      have HB : Hid (bk b n = ((b ++ [46, 126]) ++ Lib.itoa n) ++ [126]) := Lib.hid rfl
      have a1 := fun w => add_ll b [46, 126] (by simp; omega) w
      have a2 := fun w => add_ll (b ++ [46, 126]) (Lib.itoa n) (by simp; omega) w
      have a3 := fun w => add_ll ((b ++ [46, 126]) ++ Lib.itoa n) [126] (by simp; omega) w
      rw [← HB.out] at a3
      by_cases hlen : 255 < (bk b n).length
      · have HE : Hid (er b n = 13) := Lib.hid (by unfold er; rw [if_neg (by simp [hc]), if_neg (by simp [hv]), if_pos hlen])
        have HN : Hid (nm b n = []) := Lib.hid (by unfold nm; rw [HE.out]; rfl)
        have hlen' : (255 : Int) < (bk b n).length := by omega
        generalize bk b n = X at a3 hlen'
        generalize Lib.itoa n = I at cd a2 a3
        clear hc hv hL hlen hl HB
        generalize b ++ [46, 126] ++ I = Y at a2 a3
        generalize b ++ [46, 126] = Z at a1 a2
        go_enter Tryd.func22, Tryd.ntmps22
        go_wp2_with (first
          | (go_at_call 46; refine (cc _).mono ?_; rintro e w1 ⟨rfl, rfl⟩)
          | (go_at_call 47; refine (cv _).mono ?_; rintro e w2 ⟨rfl, hw2⟩; obtain rfl := hw2.symm)
          | (go_at_call 48; refine cd.mono ?_; rintro e w3 ⟨rfl, hb3⟩))
        go_ret2
        exact ⟨by rw [HE.out, HN.out]; rfl, hb3⟩
      · have HE : Hid (er b n = 0) := Lib.hid (by unfold er; rw [if_neg (by simp [hc]), if_neg (by simp [hv]), if_neg hlen])
        have HN : Hid (nm b n = bk b n) := Lib.hid (by unfold nm; rw [if_pos HE.out])
        have hlen' : ¬ (255 : Int) < (bk b n).length := by omega
        rw [HN.out, HE.out]
        generalize bk b n = X at a3 hlen' ⊢
        generalize Lib.itoa n = I at cd a2 a3
        clear hc hv hL hlen hl HB
        generalize b ++ [46, 126] ++ I = Y at a2 a3
        generalize b ++ [46, 126] = Z at a1 a2
        go_enter Tryd.func22, Tryd.ntmps22
        go_wp2_with (first
          | (go_at_call 46; refine (cc _).mono ?_; rintro e w1 ⟨rfl, rfl⟩)
          | (go_at_call 47; refine (cv _).mono ?_; rintro e w2 ⟨rfl, hw2⟩; obtain rfl := hw2.symm)
          | (go_at_call 48; refine cd.mono ?_; rintro e w3 ⟨rfl, hb3⟩))
        go_ret2
        exact ⟨rfl, hb3⟩
  · have HE : Hid (er b n = V.M.check b) := Lib.hid (by unfold er; rw [if_pos hc])
    have HN : Hid (nm b n = []) := Lib.hid (by unfold nm; rw [HE.out, if_neg hc])
    rw [HN.out, HE.out]
    have cc := fun w => check_is (l := b) rfl w
    generalize V.M.check b = c at cc hc ⊢
    go_enter Tryd.func22, Tryd.ntmps22
    go_wp2_with (go_at_call 46; refine (cc _).mono ?_; rintro e w1 ⟨rfl, rfl⟩)
    go_ret2
    exact ⟨rfl, Below.refl _ _⟩
end Go.Proofs.YtolobnokpmbajaaDoor.L
