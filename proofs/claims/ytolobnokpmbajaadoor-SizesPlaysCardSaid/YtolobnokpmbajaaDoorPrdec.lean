/-
  What the reference's Decode does.
-/
import Derived.Test.YtolobnokpmbajaaDoorPrenc
namespace Go.Proofs.YtolobnokpmbajaaDoor.Q
open Go.RowKit Go.Shelf

theorem digit_is (c : UInt8) (x : Nat) (h : M.val c = x) (w : World) : Calls Tryd.prog 82 #[.int .u8 (c.toNat : Int)] w fun e w' => e = .returned (.int .i64 x) ∧ w = w' := by
  subst h; exact digit_any c w
theorem conv1 (W : World) (z : Int) : (convert 48 9 (.slice (some ⟨W.heap.size, 0, none⟩) 1 1)).run Tryd.prog (W.alloc (.cells #[.int .u8 z] 5)) = .ok (.string ⟨#[UInt8.ofNat z.toNat]⟩) (W.alloc (.cells #[.int .u8 z] 5)) := by
  have h := run_convert_bytes_arg (P := Tryd.prog) (W.alloc (.cells #[.int .u8 z] 5)) 48 5 Tryd.underlying48 Tryd.underlying5 W.heap.size 0 1 1 [z] rfl (by
    intro i hi
    obtain rfl : i = 0 := by omega
    go_simp) 9 Tryd.underlying9
  exact h

theorem conv1d (W : World) (x y : Nat) : (convert 48 9 (.slice (some ⟨W.heap.size, 0, none⟩) 1 1)).run Tryd.prog (W.alloc (.cells #[.int .u8 (16 * (x : Int) + y)] 5)).drew = .ok (.string ⟨#[UInt8.ofNat (16 * x + y)]⟩) (W.alloc (.cells #[.int .u8 (16 * (x : Int) + y)] 5)).drew := by
  have h := conv1 W.drew (16 * (x : Int) + y)
  rw [show (16 * (x : Int) + y).toNat = 16 * x + y by omega] at h
  exact h

set_option maxRecDepth 100000 in
set_option maxHeartbeats 2000000 in
theorem refDecode_any (s : ByteArray) (hs : s.size ≤ 10000) (w : World) :
    Calls Tryd.prog 63 #[.string s] w fun e w' => DecOut (M.dec s.data.toList) e ∧ Below w.heap.size w w' := by
  go_enter Tryd.func63, Tryd.ntmps63
  go_wp2
  go_loopw [4, 5] (fun v i wr => ∃ (pos : Nat) (bs : List UInt8), pos ≤ s.size ∧ i = .int .i64 pos ∧ v = .string ⟨bs.toArray⟩ ∧ M.At s.data.toList pos bs ∧ bs.length ≤ pos ∧ Below w.heap.size w wr) (fun _ i _ => s.size - (intOf i).toNat)
  case atStart => exact ⟨0, [], Nat.zero_le _, rfl, rfl, M.at_start _, Nat.le_refl _, Below.refl _ w⟩
  case round =>
    obtain ⟨pos, bs, hps, rfl, rfl, hat, hbl, hb⟩ := hrel
    have HA := Lib.hid hat; clear hat
    by_cases hp : pos < s.size
    · have hpl : pos < s.data.toList.length := by rw [← Lib.size_eq]; exact hp
      have hd := drop_cons s pos hp
      by_cases hc : (s[pos]'hp).toNat = 37
      · have he : s[pos]'hp = 37 := UInt8.toNat_inj.1 hc
        by_cases h2 : s.size ≤ pos + 2
        · have hf : M.first (s.data.toList.drop pos) = none := (congrArg M.first hd).trans (M.first_short he (by rw [List.length_drop, ← Lib.size_eq]; omega))
          have HN := Lib.hid (M.at_none HA.out hpl hf)
          have h2' : (s.size : Int) ≤ pos + 2 := by omega
          clear hf hd he
          go_wp2
          go_ret2
          exact ⟨decOut_none HN.out, hb⟩
        · have h1 : pos + 1 < s.size := by omega
          have h2' : pos + 2 < s.size := by omega
          have h2'' : ¬ (s.size : Int) ≤ pos + 2 := by omega
          rw [drop_cons s (pos + 1) h1, drop_cons s (pos + 1 + 1) h2'] at hd
          have hv : ∀ c, M.val c ≤ 16 := M.val_le
          have c1 := fun w => digit_is (s[pos + 1]'h1) _ rfl w
          have c2 := fun w => digit_is (s[pos + 2]'h2') _ rfl w
          have hx := hv (s[pos + 1]'h1)
          have hy := hv (s[pos + 2]'h2')
          obtain ⟨x, ex⟩ : ∃ x, M.val (s[pos + 1]'h1) = x := ⟨_, rfl⟩
          obtain ⟨y, ey⟩ : ∃ y, M.val (s[pos + 2]'h2') = y := ⟨_, rfl⟩
          rw [ex] at c1 hx
          rw [ey] at c2 hy
          by_cases gx : x ≤ 15
          · by_cases gy : y ≤ 15
            · have hf : M.first (s.data.toList.drop pos) = some (UInt8.ofNat (16 * x + y), 3) := by
                rw [hd]; have := M.first_good (l := s.data.toList.drop (pos + 1 + 1 + 1)) he (show M.val (s[pos + 1]'h1) ≤ 15 by omega) (show M.val (s[pos + 2]'h2') ≤ 15 by omega)
                rw [ex, ey] at this; exact this
              have HN := Lib.hid (M.at_some HA.out hpl hf)
              have gx' : ¬ (15 : Int) < x := by omega
              have gy' : ¬ (15 : Int) < y := by omega
              have hcv := conv1d wr x y
              generalize UInt8.ofNat (16 * x + y) = b at hcv HN hf
              have ha := add_ll bs [b] (by simp; omega)
              clear hf hd he hv ex ey
              go_wp2_with (go_at_call 82; first | (with_reducible refine (c1 _).mono ?_; rintro e w1 ⟨rfl, rfl⟩) | (with_reducible refine (c2 _).mono ?_; rintro e w2 ⟨rfl, rfl⟩))
              have k1 : IntKind.i64.wrap ((pos : Int) + 1) = (pos : Int) + 1 := IntWalk.i64_in _ (by omega)
              have k2 : IntKind.i64.wrap ((pos : Int) + 2) = (pos : Int) + 2 := IntWalk.i64_in _ (by omega)
              have k3 : IntKind.i64.wrap (16 * (x : Int)) = 16 * (x : Int) := IntWalk.i64_in _ (by omega)
              have k4 : IntKind.i64.wrap (16 * (x : Int) + y) = 16 * (x : Int) + y := IntWalk.i64_in _ (by omega)
              have k5 : IntKind.u8.wrap (16 * (x : Int) + y) = 16 * (x : Int) + y := by simp [IntKind.wrap, IntKind.signed, IntKind.bits]; omega
              have m1 : 0 ≤ (pos : Int) + 1 := by omega
              have m2 : 0 ≤ (pos : Int) + 2 := by omega
              have m3 : (pos : Int) + 1 < s.size := by omega
              have m4 : (pos : Int) + 2 < s.size := by omega
              have m5 : ((pos : Int) + 1).toNat = pos + 1 := by omega
              have m6 : ((pos : Int) + 2).toNat = pos + 2 := by omega
              go_region_with (go_at_call 82; first | ((with_reducible refine (c1 _).mono ?_); rintro e w1 ⟨rfl, rfl⟩) | ((with_reducible refine (c2 _).mono ?_); rintro e w2 ⟨rfl, rfl⟩))
              all_goals
                go_wp2
                go_roundw
                case rel => exact ⟨pos + 3, _, by omega, by go_num, rfl, HN.out, by rw [List.length_append]; simp; omega, (hb.alloc hb.size _).drew⟩
                case measure => simp [intOf]; omega
            · have hf : M.first (s.data.toList.drop pos) = none := (congrArg M.first hd).trans (M.first_bad he (.inr (by show 15 < M.val (s[pos + 2]'h2'); omega)))
              have HN := Lib.hid (M.at_none HA.out hpl hf)
              have gx' : ¬ (15 : Int) < x := by omega
              have gy' : (15 : Int) < y := by omega
              clear hf hd he hv ex ey
              go_wp2_with (go_at_call 82; first | ((with_reducible refine (c1 _).mono ?_); rintro e w1 ⟨rfl, rfl⟩) | ((with_reducible refine (c2 _).mono ?_); rintro e w2 ⟨rfl, rfl⟩))
              go_ret2
              exact ⟨decOut_none HN.out, hb⟩
          · have hf : M.first (s.data.toList.drop pos) = none := (congrArg M.first hd).trans (M.first_bad he (.inl (by omega)))
            have HN := Lib.hid (M.at_none HA.out hpl hf)
            have gx' : (15 : Int) < x := by omega
            clear hf hd he hv ex ey
            go_wp2_with (go_at_call 82; ((with_reducible refine (c1 _).mono ?_); rintro e w1 ⟨rfl, rfl⟩))
            go_ret2
            exact ⟨decOut_none HN.out, hb⟩
      · have hc' : (((s[pos]'hp).toNat : Int) == 37) = false := by simpa using fun e => hc (by omega)
        have hf : M.first (s.data.toList.drop pos) = _ := (congrArg M.first hd).trans (M.first_other (fun e => hc (by rw [e]; rfl)))
        have HN := Lib.hid (M.at_some HA.out hpl hf)
        have ha := add_l1 bs s pos hp (by omega)
        clear hf hd hc
        go_wp2
        go_roundw
        case rel => exact ⟨pos + 1, _, by omega, by go_num, rfl, HN.out, by rw [List.length_append]; simp; omega, hb⟩
        case measure => simp [intOf]; omega
    · have HE := Lib.hid (M.at_end HA.out (by rw [← Lib.size_eq]; omega))
      go_wp2
      go_ret2
      exact ⟨decOut_some HE.out, hb⟩
end Go.Proofs.YtolobnokpmbajaaDoor.Q
