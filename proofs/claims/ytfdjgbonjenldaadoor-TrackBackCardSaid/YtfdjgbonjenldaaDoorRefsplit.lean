/-
  What the reference's Rel and Split do.
-/
import Derived.Test.YtfdjgbonjenldaaDoorSplit
namespace Go.Proofs.YtfdjgbonjenldaaDoor
open Go.RowKit Go.Shelf

theorem bytes_of (l : List UInt8) : ∃ s : ByteArray, s = ⟨l.toArray⟩ ∧ s.data.toList = l ∧ s.size = l.length := ⟨_, rfl, rfl, size_l l⟩
set_option maxHeartbeats 4000000 in
theorem refRel_l (a b : List UInt8) (ha : a.length ≤ 2000) (hb : b.length ≤ 2000) (w : World) :
    Calls Tryd.prog 8 #[.string ⟨a.toArray⟩, .string ⟨b.toArray⟩] w fun e w' => e = .returned (.tuple #[.string ⟨(M.rel1 a b).toArray⟩, .bool (decide (M.relOk a b))]) ∧ Below w.heap.size w w' := by
  have cca := fun w => refClean_l a (by omega) w
  have ccb := fun w => refClean_l b (by omega) w
  have hA := M.clean_most a
  have hB := M.clean_most b
  have ci := fun w => refInside_l (M.clean a) (M.clean b) (by omega) w
  have cu := fun w => refCut_l (M.clean a) (by omega) w
  obtain ⟨A, eA, dA, sA⟩ := bytes_of (M.clean a)
  obtain ⟨B, eB, dB, sB⟩ := bytes_of (M.clean b)
  have hA0 : 0 < A.size := by rw [sA]; exact List.length_pos_iff.2 (M.clean_ne a)
  have hB0 : 0 < B.size := by rw [sB]; exact List.length_pos_iff.2 (M.clean_ne b)
  rw [← eA] at cca ci cu
  rw [← eB] at ccb ci
  have hAs : A.size ≤ 2001 := by omega
  have hBs : B.size ≤ 2001 := by omega
  have HD : Hid (A.data.toList = M.clean a ∧ B.data.toList = M.clean b) := Lib.hid ⟨dA, dB⟩
  by_cases h : M.relOk a b
  · rw [decide_eq_true h, M.rel1_yes h]
    obtain ⟨h1, h2, h3⟩ := id h
    have g1 : (A[0]'hA0).toNat = 47 := Decidable.byContradiction fun hn => by
      have := abs_not hA0 hn
      rw [dA, h1] at this; cases this
    have g2 : (B[0]'hB0).toNat = 47 := Decidable.byContradiction fun hn => by
      have := abs_not hB0 hn
      rw [dB, h2] at this; cases this
    rw [h3] at ci
    by_cases he : M.clean b = M.clean a
    · rw [M.relTo, if_pos he]
      obtain rfl : B = A := by rw [eA, eB, he]
      clear eA eB dA dB sA sB hA hB h h1 h2 h3 he cu
      go_enter Tryd.func8, Tryd.ntmps8
      go_wp2_with (first
        | (go_at_call 12; first | (refine (cca _).mono ?_; clear cca; rintro e w1 ⟨rfl, hb1⟩) | (refine (ccb _).mono ?_; rintro e w2 ⟨rfl, hb2⟩))
        | (go_at_call 16; refine (ci _).mono ?_; rintro e w9 ⟨rfl, hw9⟩; obtain rfl := hw9.symm))
      go_ret2
      exact ⟨rfl, hb1.trans (hb2.mono hb1.size)⟩
    · obtain ⟨hl, hr⟩ := M.relTo_drop h he
      rw [hr]
      have he' : (A.toList == B.toList) = false := by
        rw [ByteArray.toList_eq, ByteArray.toList_eq, dA, dB]
        simpa using fun e => he e.symm
      rw [← dB, ← Lib.extract_from]
      rw [← sB] at hl
      generalize (Lib.trimRightB (M.clean a) 47) = t at cu hl ⊢
      have hl' : (t.length : Int) + 1 ≤ B.size := by omega
      clear eA eB dA dB sA sB hA hB h h1 h2 h3 he hr
      go_enter Tryd.func8, Tryd.ntmps8
      go_wp2_with (first
        | (go_at_call 12; first | (refine (cca _).mono ?_; clear cca; rintro e w1 ⟨rfl, hb1⟩) | (refine (ccb _).mono ?_; rintro e w2 ⟨rfl, hb2⟩))
        | (go_at_call 16; refine (ci _).mono ?_; rintro e w9 ⟨rfl, hw9⟩; obtain rfl := hw9.symm)
        | (go_at_call 21; refine (cu _).mono ?_; rintro e w9 ⟨rfl, hw9⟩; obtain rfl := hw9.symm))
      go_ret2
      exact ⟨rfl, hb1.trans (hb2.mono hb1.size)⟩
  · rw [decide_eq_false h, M.rel1_no h]
    clear cu
    by_cases g1 : (A[0]'hA0).toNat = 47
    · by_cases g2 : (B[0]'hB0).toNat = 47
      · have h3 : M.inside (M.clean a) (M.clean b) = false := by
          cases hi : M.inside (M.clean a) (M.clean b) with
          | false => rfl
          | true =>
            have h1 := abs_at hA0 g1
            have h2 := abs_at hB0 g2
            rw [dA] at h1
            rw [dB] at h2
            exact absurd ⟨h1, h2, hi⟩ h
        rw [h3] at ci
        clear eA eB dA dB sA sB hA hB h h3
        go_enter Tryd.func8, Tryd.ntmps8
        go_wp2_with (first
          | (go_at_call 12; first | (refine (cca _).mono ?_; clear cca; rintro e w1 ⟨rfl, hb1⟩) | (refine (ccb _).mono ?_; rintro e w2 ⟨rfl, hb2⟩))
          | (go_at_call 16; refine (ci _).mono ?_; rintro e w9 ⟨rfl, hw9⟩; obtain rfl := hw9.symm))
        go_ret2
        exact ⟨rfl, hb1.trans (hb2.mono hb1.size)⟩
      · have g2' : (((B[0]'hB0).toNat : Int) != 47) = true := by simpa using (show ¬ ((B[0]'hB0).toNat : Int) = 47 by omega)
        clear eA eB dA dB sA sB hA hB h ci
        go_enter Tryd.func8, Tryd.ntmps8
        go_wp2_with (go_at_call 12; first | (refine (cca _).mono ?_; clear cca; rintro e w1 ⟨rfl, hb1⟩) | (refine (ccb _).mono ?_; rintro e w2 ⟨rfl, hb2⟩))
        go_ret2
        exact ⟨rfl, hb1.trans (hb2.mono hb1.size)⟩
    · have g1' : (((A[0]'hA0).toNat : Int) != 47) = true := by simpa using (show ¬ ((A[0]'hA0).toNat : Int) = 47 by omega)
      clear eA eB dA dB sA sB hA hB h ci
      go_enter Tryd.func8, Tryd.ntmps8
      go_wp2_with (go_at_call 12; first | (refine (cca _).mono ?_; clear cca; rintro e w1 ⟨rfl, hb1⟩) | (refine (ccb _).mono ?_; rintro e w2 ⟨rfl, hb2⟩))
      go_ret2
      exact ⟨rfl, hb1.trans (hb2.mono hb1.size)⟩

theorem ls_hit {s : ByteArray} {pos : Nat} (hp : pos < s.size) (hc : (s[pos]'hp).toNat = 47) : M.ls (s.data.toList.take (pos + 1)) = pos + 1 := by
  have : s[pos]'hp = 47 := UInt8.toNat_inj.1 hc
  rw [take_snoc s pos hp, this, M.ls_slash, List.length_take, ← Lib.size_eq]; omega
theorem ls_miss {s : ByteArray} {pos : Nat} (hp : pos < s.size) (hc : ¬ (s[pos]'hp).toNat = 47) : M.ls (s.data.toList.take (pos + 1)) = M.ls (s.data.toList.take pos) := by
  rw [take_snoc s pos hp, M.ls_other]
  intro e; exact hc (by rw [e]; rfl)
set_option maxHeartbeats 4000000 in
theorem refSplit_l (a : List UInt8) (ha : a.length ≤ 2000) (w : World) :
    Calls Tryd.prog 10 #[.string ⟨a.toArray⟩] w fun e w' => e = .returned (.tuple #[.string ⟨(M.dirOf (M.clean a)).toArray⟩, .string ⟨(M.baseOf (M.clean a)).toArray⟩]) ∧ Below w.heap.size w w' := by
  have cc := fun w => refClean_l a (by omega) w
  have hA := M.clean_most a
  have mixed : Tryd.prog.follows Departure.mixedOrders = true := by kernel_rfl
  generalize M.clean a = c at cc hA ⊢
  by_cases h1 : c = [47]
  · subst h1
    rw [M.dirOf, M.baseOf, if_pos (.inl rfl), if_pos (.inl rfl)]
    go_enter Tryd.func10, Tryd.ntmps10
    go_wp2_with (go_at_call 12; refine (cc _).mono ?_; rintro e w1 ⟨rfl, hb1⟩)
    go_ret2
    exact ⟨rfl, hb1⟩
  by_cases h2 : c = [46]
  · subst h2
    rw [M.dirOf, M.baseOf, if_pos (.inr rfl), if_pos (.inr rfl)]
    clear h1
    go_enter Tryd.func10, Tryd.ntmps10
    go_wp2_with (go_at_call 12; refine (cc _).mono ?_; rintro e w1 ⟨rfl, hb1⟩)
    go_ret2
    exact ⟨rfl, hb1⟩
  have HNO : Hid (¬ c = [47] ∧ ¬ c = [46]) := Lib.hid ⟨h1, h2⟩
  obtain ⟨C, eC, dC, sC⟩ := bytes_of c
  have h1' : (C.toList == [47]) = false := by rw [ByteArray.toList_eq, dC]; simpa using h1
  have h2' : (C.toList == [46]) = false := by rw [ByteArray.toList_eq, dC]; simpa using h2
  rw [← eC] at cc
  have hCs : C.size ≤ 2001 := by omega
  have HD : Hid (C.data.toList = c ∧ C = ⟨c.toArray⟩) := Lib.hid ⟨dC, eC⟩
  clear eC dC sC hA h1 h2
  go_enter Tryd.func10, Tryd.ntmps10
  go_wp2_with (go_at_call 12; refine (cc _).mono ?_; rintro e w1 ⟨rfl, hb1⟩)
  go_loop [5, 6] (fun v i => ∃ j : Nat, j ≤ C.size ∧ i = .int .i64 j ∧ v = .int .i64 ((M.ls (C.data.toList.take j) : Int) - 1)) (fun _ i => C.size - (intOf i).toNat)
  case atStart => exact ⟨0, Nat.zero_le _, rfl, rfl⟩
  case round =>
    obtain ⟨j, hj, rfl, rfl⟩ := hrel
    clear cc
    by_cases hlt : j < C.size
    · by_cases hc : (C[j]'hlt).toNat = 47
      · have HL := Lib.hid (ls_hit hlt hc)
        generalize (M.ls (C.data.toList.take j) : Int) - 1 = at0
        go_wp2
        go_round
        case rel => exact ⟨j + 1, by omega, by go_num, by rw [HL.out]; go_num⟩
        case measure => simp [intOf]; omega
      · have HL := Lib.hid (ls_miss hlt hc)
        have hcb : (((C[j]'hlt).toNat : Int) == 47) = false := by simpa using (show ¬ ((C[j]'hlt).toNat : Int) = 47 by omega)
        obtain ⟨at0, HA⟩ : ∃ z, Hid ((M.ls (C.data.toList.take j) : Int) - 1 = z) := ⟨_, Lib.hid rfl⟩
        rw [HA.out]
        go_wp2
        go_round
        case rel => exact ⟨j + 1, by omega, by go_num, by rw [HL.out, HA.out]⟩
        case measure => simp [intOf]; omega
    · have hls : M.ls (C.data.toList.take j) = M.ls c := by
        rw [List.take_of_length_le (by rw [← Lib.size_eq]; omega), HD.out.1]
      have hle := M.ls_le c
      rw [show c.length = C.size by rw [Lib.size_eq, HD.out.1]] at hle
      rw [hls]
      clear hls
      rcases hls : M.ls c with _ | _ | n
      · have HDR := Lib.hid (dir_none HNO.out.1 HNO.out.2 hls)
        clear hls hle
        go_wp2
        go_ret2
        exact ⟨by rw [HDR.out.1, HDR.out.2, ← HD.out.2]; rfl, hb1⟩
      · have HDR := Lib.hid (dir_top HNO.out.1 HNO.out.2 hls)
        have hl1 : (1 : Int) ≤ C.size := by omega
        have HX : Hid ((⟨(c.drop 1).toArray⟩ : ByteArray) = C.extract 1 C.size) := Lib.hid (by rw [← HD.out.1]; exact (Lib.extract_from C 1).symm)
        clear hls hle
        go_wp2
        go_region_o
        go_wp2
        go_ret2
        exact ⟨by rw [HDR.out.1, HDR.out.2, HX.out]; rfl, hb1.drew⟩
      · have HDR := Lib.hid (dir_some HNO.out.1 HNO.out.2 hls)
        have hl1 : ((n + 1 : Nat) : Int) ≤ C.size := by omega
        have hl2 : ((n + 1 : Nat) : Int) + 1 ≤ C.size := by omega
        have e1 : ((n + 1 + 1 : Nat) : Int) - 1 = (n + 1 : Nat) := by omega
        have HX : Hid ((⟨(c.drop (n + 1 + 1)).toArray⟩ : ByteArray) = C.extract (n + 1 + 1) C.size) := Lib.hid (by rw [← HD.out.1]; exact (Lib.extract_from C (n + 1 + 1)).symm)
        have HY : Hid ((⟨(c.take (n + 1)).toArray⟩ : ByteArray) = C.extract 0 (n + 1)) := Lib.hid (by rw [← HD.out.1]; exact (Lib.extract_upto C (n + 1)).symm)
        rw [e1]
        clear hls hle
        go_wp2
        go_region_o
        go_wp2
        go_ret2
        exact ⟨by rw [HDR.out.1, HDR.out.2, HX.out, HY.out]; rfl, hb1.drew⟩
end Go.Proofs.YtfdjgbonjenldaaDoor
