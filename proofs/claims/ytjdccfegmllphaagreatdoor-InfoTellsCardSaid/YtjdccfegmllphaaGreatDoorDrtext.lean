/-
  What the reference's Text does.
-/
import Derived.Test.YtjdccfegmllphaaGreatDoorDtext
import Derived.Test.YtjdccfegmllphaaGreatDoorDrsa
namespace Go.Proofs.YtjdccfegmllphaaGreatDoor
open Go.RowKit Go.Shelf

set_option maxHeartbeats 1000000 in
theorem refText_bad (x : Int) (hx : x < 0 ∨ 253402300799 < x) (w : World) :
    Calls Tryz.prog 14 #[.int .i64 x] w fun e w' => e = .returned (.tuple #[.string ⟨#[]⟩, .int .i64 3]) ∧ Below w.heap.size w w' := by
  have H := Lib.hid (refOf_bad x hx)
  unfold six at H
  go_enter Tryz.func14, Tryz.ntmps14
  go_wp2_with fail
  refine (H.out _).mono ?_
  rintro e w1 ⟨rfl, hb⟩
  go_wp2
  go_ret2
  exact ⟨rfl, hb.alloc hb.size _⟩
theorem refOf_good6 (n : Nat) {y m d h i s : Int} (c : M.Cv n y m d h i s) (w : World) :
    Calls Tryz.prog 29 #[.int .i64 n] w fun e w' => e = .returned (.tuple #[.agg #[.int .i64 y, .int .i64 m, .int .i64 d, .int .i64 h, .int .i64 i, .int .i64 s], .int .i64 0]) ∧ Below w.heap.size w w' := refOf_good n c w
theorem refPad_is {n wide : Int} {P : ByteArray} (hP : padOf n wide = P.data.toList) (h0 : -9223372036854775808 ≤ n) (h1 : n ≤ 9223372036854775807) (w : World) :
    Calls Tryz.prog 30 #[.int .i64 n, .int .i64 wide] w fun e w' => e = .returned (.string P) ∧ Below w.heap.size w w' :=
  (refPad_any n wide w h0 h1).mono fun e w' ⟨he, hw⟩ => ⟨by rw [he, hP]; exact congrArg Ending.returned (congrArg Value.string rfl), hw⟩
theorem refPad_keep {n wide : Int} {P : ByteArray} {v : Int} {b k : Nat} (hP : padOf n wide = P.data.toList) (h0 : -9223372036854775808 ≤ n) (h1 : n ≤ 9223372036854775807) (w : World) (hb : b < w.heap.size)
    (c : w.cell? ⟨b, k, none⟩ = some (.int .i64 v)) :
    Calls Tryz.prog 30 #[.int .i64 n, .int .i64 wide] w fun e w' => e = .returned (.string P) ∧ (w'.cell? ⟨b, k, none⟩ = some (.int .i64 v)) ∧ Below w.heap.size w w' :=
  (refPad_is hP h0 h1 w).mono fun _ _ ⟨he, hw⟩ => ⟨he, by rw [hw.cell (by exact hb)]; exact c, hw⟩
theorem rtext_next {y m d h i s : Int} {k : Nat} {A E P : ByteArray} {F e : List UInt8} (hA : A.data.toList = tx y m d h i s k) (hP : (⟨F.toArray⟩ : ByteArray) = P) (hE : E.data.toList = e) (ha : tx y m d h i s (k + 1) = tx y m d h i s k ++ (e ++ F)) :
    (A ++ E ++ P).data.toList = tx y m d h i s (k + 1) := by
  subst hP
  rw [ha, ← hA, ← hE]; simp
theorem rtext_size {y m d h i s : Int} {k : Nat} {A E P : ByteArray} {F e : List UInt8} (hA : A.data.toList = tx y m d h i s k) (hP : (⟨F.toArray⟩ : ByteArray) = P) (hE : E.data.toList = e) (hl : (tx y m d h i s k).length + e.length + F.length ≤ 20) :
    (A ++ E ++ P).size ≤ 20 := by
  subst hP
  rw [Lib.size_eq]
  simp only [ByteArray.data_append, Array.toList_append, List.length_append, hA, hE]
  omega

set_option maxRecDepth 100000 in
set_option maxHeartbeats 2000000 in
theorem refText_good (n : Nat) {y m d h i s : Int} (c : M.Cv n y m d h i s) (w : World) :
    Calls Tryz.prog 14 #[.int .i64 n] w fun e w' => e = .returned (.tuple #[.string ⟨(tx y m d h i s 6).toArray⟩, .int .i64 0]) ∧ Below w.heap.size w w' := by
  have H := Lib.hid (refOf_good6 n c)
  have HC := Lib.hid c
  clear c
  have hv := HC.out.ok
  have hd31 := hv.dm31
  have hw4 : (10 : Nat) ^ (1 + 1) = 100 := rfl
  have hw2 : (10 : Nat) ^ (3 + 1) = 10000 := rfl
  have hP : padOf y 4 = (⟨(fx 4 y.toNat).toArray⟩ : ByteArray).data.toList := pad_fx 3 y (by cases hv; omega) (by cases hv; omega) (by decide)
  have hPs : (⟨(fx 4 y.toNat).toArray⟩ : ByteArray).size ≤ 4 := by rw [Lib.size_eq]; simp [fx_length]
  have hm0 : -9223372036854775808 ≤ y := by cases hv; omega
  have hm1 : y ≤ 9223372036854775807 := by cases hv; omega
  clear hv hd31 hw4 hw2
  generalize hPP : (⟨(fx 4 y.toNat).toArray⟩ : ByteArray) = P at *
  have HP := Lib.hid hP
  have HPP := Lib.hid hPP
  clear hP hPP
  go_enter Tryz.func14, Tryz.ntmps14
  go_wp2_with fail
  refine (H.out _).mono ?_
  rintro e w1 ⟨rfl, hb⟩
  go_wp2_with fail
  have S0 := Six.new w1 61 y m d h i s
  have hB0 : ∀ o, Below w.heap.size w (w1.alloc o) := fun o => hb.alloc hb.size o
  have hZ0 : ∀ o, w1.heap.size < (w1.alloc o).heap.size := fun o => by simp
  refine (refPad_is HP.out hm0 hm1 _).mono ?_
  rintro e w2 ⟨rfl, hb2⟩
  go_wp2_with fail
  go_loopw [7, 8] (fun v u wr => ∃ (k : Nat) (A : ByteArray), v = .string A ∧ u = .int .i64 k ∧ k ≤ 5 ∧ A.size ≤ 20 ∧ A.data.toList = tx y m d h i s (k + 1) ∧ Six w1.heap.size y m d h i s wr ∧ Below w.heap.size w wr ∧ w1.heap.size < wr.heap.size) (fun _ u _ => (5 - intOf u).toNat)
  case atStart => exact ⟨0, P, rfl, rfl, by decide, by omega, by rw [← HPP.out]; rfl, S0.later hb2 (hZ0 _), (hB0 _).trans (hb2.mono (hB0 _).size), Nat.lt_of_lt_of_le (hZ0 _) hb2.size⟩
  case round =>
    clear HP HPP hPs hm0 hm1 H hb2 S0 hB0 hZ0
    obtain ⟨k, A, rfl, rfl, hk, hA, hAt, hS, hBr, hZr⟩ := hrel
    have HT := Lib.hid hAt
    clear hAt
    have hk2 : k = 0 ∨ k = 1 ∨ k = 2 ∨ k = 3 ∨ k = 4 ∨ k = 5 := by omega
    rcases hk2 with rfl | rfl | rfl | rfl | rfl | rfl
    · obtain ⟨e0, e1, e2, e3, e4, e5⟩ := id hS
      have hv := HC.out.ok
      have hd31 := hv.dm31
      have hw4 : (10 : Nat) ^ (1 + 1) = 100 := rfl
      have hw2 : (10 : Nat) ^ (3 + 1) = 10000 := rfl
      have hP : padOf m 2 = (⟨(fx 2 m.toNat).toArray⟩ : ByteArray).data.toList := pad_fx 1 m (by cases hv; omega) (by cases hv; omega) (by decide)
      have hPs : (⟨(fx 2 m.toNat).toArray⟩ : ByteArray).size ≤ 4 := by rw [Lib.size_eq]; simp [fx_length]
      have hm0 : -9223372036854775808 ≤ m := by cases hv; omega
      have hm1 : m ≤ 9223372036854775807 := by cases hv; omega
      clear hv hd31 hw4 hw2
      generalize hPP : (⟨(fx 2 m.toNat).toArray⟩ : ByteArray) = P at *
      have HP := Lib.hid hP
      have HPP := Lib.hid hPP
      clear hP hPP
      have had1 := add_bb A ((⟨#[45, 45, 84, 58, 58]⟩ : ByteArray).extract 0 1) (by show A.size + 1 ≤ 100000; omega)
      have had2 := add_bb (A ++ ((⟨#[45, 45, 84, 58, 58]⟩ : ByteArray).extract 0 1)) P (by rw [ByteArray.size_append]; show A.size + 1 + P.size ≤ 100000; omega)
      go_wp2_with fail
      rw [show ((0 : Nat) : Int) = (0 : Int) from rfl]
      refine wp_region_noPanic ?_
      refine wp_region_held_drew (S := fun w' => w'.cell? ⟨w1.heap.size, 1, none⟩ = some (.int .i64 m)) (by kernel_rfl) ?_ (fun hHeld => ?_)
      · exact (hS.later (drew_below wr) hZr).2.1
      refine tk (i := 0) (d := 24) (v := .string A) rfl rfl (by kernel_rfl) (by kernel_rfl) (by kernel_rfl) (fun _ _ _ h => h) (Or.inl ⟨by rfl, fun w4 hSw => ?_⟩) (by assumption) ?_
      · dsimp only at hSw; go_simp
      simp only [Act.put, List.setIfInBounds_toArray, List.set_cons_zero, List.set_cons_succ]
      refine tk (i := 1) (d := 25) (v := .string (⟨#[45, 45, 84, 58, 58]⟩ : ByteArray)) rfl rfl (by kernel_rfl) (by kernel_rfl) (by kernel_rfl) (fun _ _ _ h => h) (Or.inl ⟨by rfl, fun w4 hSw => ?_⟩) (by assumption) ?_
      · dsimp only at hSw; go_simp
      simp only [Act.put, List.setIfInBounds_toArray, List.set_cons_zero, List.set_cons_succ]
      refine tk (i := 2) (d := 26) (v := .int .i64 0) rfl rfl (by kernel_rfl) (by kernel_rfl) (by kernel_rfl) (fun _ _ _ h => h) (Or.inl ⟨by rfl, fun w4 hSw => ?_⟩) (by assumption) ?_
      · dsimp only at hSw; go_simp
      simp only [Act.put, List.setIfInBounds_toArray, List.set_cons_zero, List.set_cons_succ]
      refine tk (i := 3) (d := 27) (v := .int .i64 0) rfl rfl (by kernel_rfl) (by kernel_rfl) (by kernel_rfl) (fun _ _ _ h => h) (Or.inl ⟨by rfl, fun w4 hSw => ?_⟩) (by assumption) ?_
      · dsimp only at hSw; go_simp
      simp only [Act.put, List.setIfInBounds_toArray, List.set_cons_zero, List.set_cons_succ]
      refine tk (i := 4) (d := 28) (v := .int .i64 1) rfl rfl (by kernel_rfl) (by kernel_rfl) (by kernel_rfl) (fun _ _ _ h => h) (Or.inl ⟨by rfl, fun w4 hSw => ?_⟩) (by assumption) ?_
      · dsimp only at hSw; go_simp; rfl
      simp only [Act.put, List.setIfInBounds_toArray, List.set_cons_zero, List.set_cons_succ]
      refine tk (i := 5) (d := 29) (v := .string ((⟨#[45, 45, 84, 58, 58]⟩ : ByteArray).extract 0 1)) rfl rfl (by kernel_rfl) (by kernel_rfl) (by kernel_rfl) (fun _ _ _ h => h) (Or.inl ⟨by rfl, fun w4 hSw => ?_⟩) (by assumption) ?_
      · dsimp only at hSw; go_simp
      simp only [Act.put, List.setIfInBounds_toArray, List.set_cons_zero, List.set_cons_succ]
      refine tk (i := 6) (d := 30) (v := .string (A ++ ((⟨#[45, 45, 84, 58, 58]⟩ : ByteArray).extract 0 1))) rfl rfl (by kernel_rfl) (by kernel_rfl) (by kernel_rfl) (fun _ _ _ h => h) (Or.inl ⟨by rfl, fun w4 hSw => ?_⟩) (by assumption) ?_
      · dsimp only at hSw; go_simp
      simp only [Act.put, List.setIfInBounds_toArray, List.set_cons_zero, List.set_cons_succ]
      refine tk (i := 7) (d := 31) (v := .int .i64 0) rfl rfl (by kernel_rfl) (by kernel_rfl) (by kernel_rfl) (fun _ _ _ h => h) (Or.inl ⟨by rfl, fun w4 hSw => ?_⟩) (by assumption) ?_
      · dsimp only at hSw; go_simp
      simp only [Act.put, List.setIfInBounds_toArray, List.set_cons_zero, List.set_cons_succ]
      refine tk (i := 8) (d := 32) (v := .int .i64 1) rfl rfl (by kernel_rfl) (by kernel_rfl) (by kernel_rfl) (fun _ _ _ h => h) (Or.inl ⟨by rfl, fun w4 hSw => ?_⟩) (by assumption) ?_
      · dsimp only at hSw; go_simp; rfl
      simp only [Act.put, List.setIfInBounds_toArray, List.set_cons_zero, List.set_cons_succ]
      refine tk (i := 9) (d := 33) (v := .pointer (some ⟨w1.heap.size, 1, none⟩)) rfl rfl (by kernel_rfl) (by kernel_rfl) (by kernel_rfl) (fun _ _ _ h => h) (Or.inl ⟨by rfl, fun w4 hSw => ?_⟩) (by assumption) ?_
      · dsimp only at hSw; go_simp
      simp only [Act.put, List.setIfInBounds_toArray, List.set_cons_zero, List.set_cons_succ]
      refine tk (i := 10) (d := 34) (v := .int .i64 m) rfl rfl (by kernel_rfl) (by kernel_rfl) (by kernel_rfl) (fun _ _ _ h => h) (Or.inl ⟨by rfl, fun w4 hSw => ?_⟩) (by assumption) ?_
      · dsimp only at hSw; go_simp
      simp only [Act.put, List.setIfInBounds_toArray, List.set_cons_zero, List.set_cons_succ]
      refine wpAnyH_ready (rs := [11]) (by kernel_rfl) (by simp) ?_
      refine AllReadyH.cons rfl (fun K hK => ?_) AllReadyH.nil
      go_simp
      go_at_call 30
      refine (refPad_keep (b := w1.heap.size) (k := 1) (v := m) HP.out hm0 hm1 wr.drew hZr e1).mono ?_
      rintro e w3 ⟨rfl, T2, hb3⟩
      refine hK.out _ _ T2 (fun hHeld2 => ?_)
      clear hK K
      refine tk (i := 12) (d := 36) (v := .string (A ++ ((⟨#[45, 45, 84, 58, 58]⟩ : ByteArray).extract 0 1) ++ P)) rfl rfl (by kernel_rfl) (by kernel_rfl) (by kernel_rfl) (fun _ _ _ h => h) (Or.inl ⟨by rfl, fun w4 hSw => ?_⟩) (by assumption) ?_
      · dsimp only at hSw; go_simp
      simp only [Act.put, List.setIfInBounds_toArray, List.set_cons_zero, List.set_cons_succ]
      refine tk (i := 13) (d := 7) (v := .string (A ++ ((⟨#[45, 45, 84, 58, 58]⟩ : ByteArray).extract 0 1) ++ P)) rfl rfl (by kernel_rfl) (by kernel_rfl) (by kernel_rfl) (fun _ _ _ h => h) (Or.inl ⟨by rfl, fun w4 hSw => ?_⟩) (by assumption) ?_
      · dsimp only at hSw; go_simp
      simp only [Act.put, List.setIfInBounds_toArray, List.set_cons_zero, List.set_cons_succ]
      refine wpAnyH_done (by kernel_rfl) ?_ _
      refine NoPanic.normal ?_
      all_goals
        go_wp2
        go_roundw
        case rel =>
          have hBW : Below wr.heap.size wr w3 := (drew_below wr).trans hb3
          exact ⟨1, _, rfl, rfl, by decide, rtext_size (e := [45]) HT.out HPP.out rfl (by rw [tx_len, fx_length]; decide), rtext_next (e := [45]) HT.out HPP.out rfl rfl, hS.later hBW hZr, hBr.trans (hBW.mono hBr.size), Nat.lt_of_lt_of_le hZr hBW.size⟩
        case measure => simp [intOf]
    · obtain ⟨e0, e1, e2, e3, e4, e5⟩ := id hS
      have hv := HC.out.ok
      have hd31 := hv.dm31
      have hw4 : (10 : Nat) ^ (1 + 1) = 100 := rfl
      have hw2 : (10 : Nat) ^ (3 + 1) = 10000 := rfl
      have hP : padOf d 2 = (⟨(fx 2 d.toNat).toArray⟩ : ByteArray).data.toList := pad_fx 1 d (by cases hv; omega) (by cases hv; omega) (by decide)
      have hPs : (⟨(fx 2 d.toNat).toArray⟩ : ByteArray).size ≤ 4 := by rw [Lib.size_eq]; simp [fx_length]
      have hm0 : -9223372036854775808 ≤ d := by cases hv; omega
      have hm1 : d ≤ 9223372036854775807 := by cases hv; omega
      clear hv hd31 hw4 hw2
      generalize hPP : (⟨(fx 2 d.toNat).toArray⟩ : ByteArray) = P at *
      have HP := Lib.hid hP
      have HPP := Lib.hid hPP
      clear hP hPP
      have had1 := add_bb A ((⟨#[45, 45, 84, 58, 58]⟩ : ByteArray).extract 1 2) (by show A.size + 1 ≤ 100000; omega)
      have had2 := add_bb (A ++ ((⟨#[45, 45, 84, 58, 58]⟩ : ByteArray).extract 1 2)) P (by rw [ByteArray.size_append]; show A.size + 1 + P.size ≤ 100000; omega)
      go_wp2_with fail
      rw [show ((1 : Nat) : Int) = (1 : Int) from rfl]
      refine wp_region_noPanic ?_
      refine wp_region_held_drew (S := fun w' => w'.cell? ⟨w1.heap.size, 2, none⟩ = some (.int .i64 d)) (by kernel_rfl) ?_ (fun hHeld => ?_)
      · exact (hS.later (drew_below wr) hZr).2.2.1
      refine tk (i := 0) (d := 24) (v := .string A) rfl rfl (by kernel_rfl) (by kernel_rfl) (by kernel_rfl) (fun _ _ _ h => h) (Or.inl ⟨by rfl, fun w4 hSw => ?_⟩) (by assumption) ?_
      · dsimp only at hSw; go_simp
      simp only [Act.put, List.setIfInBounds_toArray, List.set_cons_zero, List.set_cons_succ]
      refine tk (i := 1) (d := 25) (v := .string (⟨#[45, 45, 84, 58, 58]⟩ : ByteArray)) rfl rfl (by kernel_rfl) (by kernel_rfl) (by kernel_rfl) (fun _ _ _ h => h) (Or.inl ⟨by rfl, fun w4 hSw => ?_⟩) (by assumption) ?_
      · dsimp only at hSw; go_simp
      simp only [Act.put, List.setIfInBounds_toArray, List.set_cons_zero, List.set_cons_succ]
      refine tk (i := 2) (d := 26) (v := .int .i64 1) rfl rfl (by kernel_rfl) (by kernel_rfl) (by kernel_rfl) (fun _ _ _ h => h) (Or.inl ⟨by rfl, fun w4 hSw => ?_⟩) (by assumption) ?_
      · dsimp only at hSw; go_simp
      simp only [Act.put, List.setIfInBounds_toArray, List.set_cons_zero, List.set_cons_succ]
      refine tk (i := 3) (d := 27) (v := .int .i64 1) rfl rfl (by kernel_rfl) (by kernel_rfl) (by kernel_rfl) (fun _ _ _ h => h) (Or.inl ⟨by rfl, fun w4 hSw => ?_⟩) (by assumption) ?_
      · dsimp only at hSw; go_simp
      simp only [Act.put, List.setIfInBounds_toArray, List.set_cons_zero, List.set_cons_succ]
      refine tk (i := 4) (d := 28) (v := .int .i64 2) rfl rfl (by kernel_rfl) (by kernel_rfl) (by kernel_rfl) (fun _ _ _ h => h) (Or.inl ⟨by rfl, fun w4 hSw => ?_⟩) (by assumption) ?_
      · dsimp only at hSw; go_simp; rfl
      simp only [Act.put, List.setIfInBounds_toArray, List.set_cons_zero, List.set_cons_succ]
      refine tk (i := 5) (d := 29) (v := .string ((⟨#[45, 45, 84, 58, 58]⟩ : ByteArray).extract 1 2)) rfl rfl (by kernel_rfl) (by kernel_rfl) (by kernel_rfl) (fun _ _ _ h => h) (Or.inl ⟨by rfl, fun w4 hSw => ?_⟩) (by assumption) ?_
      · dsimp only at hSw; go_simp
      simp only [Act.put, List.setIfInBounds_toArray, List.set_cons_zero, List.set_cons_succ]
      refine tk (i := 6) (d := 30) (v := .string (A ++ ((⟨#[45, 45, 84, 58, 58]⟩ : ByteArray).extract 1 2))) rfl rfl (by kernel_rfl) (by kernel_rfl) (by kernel_rfl) (fun _ _ _ h => h) (Or.inl ⟨by rfl, fun w4 hSw => ?_⟩) (by assumption) ?_
      · dsimp only at hSw; go_simp
      simp only [Act.put, List.setIfInBounds_toArray, List.set_cons_zero, List.set_cons_succ]
      refine tk (i := 7) (d := 31) (v := .int .i64 1) rfl rfl (by kernel_rfl) (by kernel_rfl) (by kernel_rfl) (fun _ _ _ h => h) (Or.inl ⟨by rfl, fun w4 hSw => ?_⟩) (by assumption) ?_
      · dsimp only at hSw; go_simp
      simp only [Act.put, List.setIfInBounds_toArray, List.set_cons_zero, List.set_cons_succ]
      refine tk (i := 8) (d := 32) (v := .int .i64 2) rfl rfl (by kernel_rfl) (by kernel_rfl) (by kernel_rfl) (fun _ _ _ h => h) (Or.inl ⟨by rfl, fun w4 hSw => ?_⟩) (by assumption) ?_
      · dsimp only at hSw; go_simp; rfl
      simp only [Act.put, List.setIfInBounds_toArray, List.set_cons_zero, List.set_cons_succ]
      refine tk (i := 9) (d := 33) (v := .pointer (some ⟨w1.heap.size, 2, none⟩)) rfl rfl (by kernel_rfl) (by kernel_rfl) (by kernel_rfl) (fun _ _ _ h => h) (Or.inl ⟨by rfl, fun w4 hSw => ?_⟩) (by assumption) ?_
      · dsimp only at hSw; go_simp
      simp only [Act.put, List.setIfInBounds_toArray, List.set_cons_zero, List.set_cons_succ]
      refine tk (i := 10) (d := 34) (v := .int .i64 d) rfl rfl (by kernel_rfl) (by kernel_rfl) (by kernel_rfl) (fun _ _ _ h => h) (Or.inl ⟨by rfl, fun w4 hSw => ?_⟩) (by assumption) ?_
      · dsimp only at hSw; go_simp
      simp only [Act.put, List.setIfInBounds_toArray, List.set_cons_zero, List.set_cons_succ]
      refine wpAnyH_ready (rs := [11]) (by kernel_rfl) (by simp) ?_
      refine AllReadyH.cons rfl (fun K hK => ?_) AllReadyH.nil
      go_simp
      go_at_call 30
      refine (refPad_keep (b := w1.heap.size) (k := 2) (v := d) HP.out hm0 hm1 wr.drew hZr e2).mono ?_
      rintro e w3 ⟨rfl, T2, hb3⟩
      refine hK.out _ _ T2 (fun hHeld2 => ?_)
      clear hK K
      refine tk (i := 12) (d := 36) (v := .string (A ++ ((⟨#[45, 45, 84, 58, 58]⟩ : ByteArray).extract 1 2) ++ P)) rfl rfl (by kernel_rfl) (by kernel_rfl) (by kernel_rfl) (fun _ _ _ h => h) (Or.inl ⟨by rfl, fun w4 hSw => ?_⟩) (by assumption) ?_
      · dsimp only at hSw; go_simp
      simp only [Act.put, List.setIfInBounds_toArray, List.set_cons_zero, List.set_cons_succ]
      refine tk (i := 13) (d := 7) (v := .string (A ++ ((⟨#[45, 45, 84, 58, 58]⟩ : ByteArray).extract 1 2) ++ P)) rfl rfl (by kernel_rfl) (by kernel_rfl) (by kernel_rfl) (fun _ _ _ h => h) (Or.inl ⟨by rfl, fun w4 hSw => ?_⟩) (by assumption) ?_
      · dsimp only at hSw; go_simp
      simp only [Act.put, List.setIfInBounds_toArray, List.set_cons_zero, List.set_cons_succ]
      refine wpAnyH_done (by kernel_rfl) ?_ _
      refine NoPanic.normal ?_
      all_goals
        go_wp2
        go_roundw
        case rel =>
          have hBW : Below wr.heap.size wr w3 := (drew_below wr).trans hb3
          exact ⟨2, _, rfl, rfl, by decide, rtext_size (e := [45]) HT.out HPP.out rfl (by rw [tx_len, fx_length]; decide), rtext_next (e := [45]) HT.out HPP.out rfl rfl, hS.later hBW hZr, hBr.trans (hBW.mono hBr.size), Nat.lt_of_lt_of_le hZr hBW.size⟩
        case measure => simp [intOf]
    · obtain ⟨e0, e1, e2, e3, e4, e5⟩ := id hS
      have hv := HC.out.ok
      have hd31 := hv.dm31
      have hw4 : (10 : Nat) ^ (1 + 1) = 100 := rfl
      have hw2 : (10 : Nat) ^ (3 + 1) = 10000 := rfl
      have hP : padOf h 2 = (⟨(fx 2 h.toNat).toArray⟩ : ByteArray).data.toList := pad_fx 1 h (by cases hv; omega) (by cases hv; omega) (by decide)
      have hPs : (⟨(fx 2 h.toNat).toArray⟩ : ByteArray).size ≤ 4 := by rw [Lib.size_eq]; simp [fx_length]
      have hm0 : -9223372036854775808 ≤ h := by cases hv; omega
      have hm1 : h ≤ 9223372036854775807 := by cases hv; omega
      clear hv hd31 hw4 hw2
      generalize hPP : (⟨(fx 2 h.toNat).toArray⟩ : ByteArray) = P at *
      have HP := Lib.hid hP
      have HPP := Lib.hid hPP
      clear hP hPP
      have had1 := add_bb A ((⟨#[45, 45, 84, 58, 58]⟩ : ByteArray).extract 2 3) (by show A.size + 1 ≤ 100000; omega)
      have had2 := add_bb (A ++ ((⟨#[45, 45, 84, 58, 58]⟩ : ByteArray).extract 2 3)) P (by rw [ByteArray.size_append]; show A.size + 1 + P.size ≤ 100000; omega)
      go_wp2_with fail
      rw [show ((2 : Nat) : Int) = (2 : Int) from rfl]
      refine wp_region_noPanic ?_
      refine wp_region_held_drew (S := fun w' => w'.cell? ⟨w1.heap.size, 3, none⟩ = some (.int .i64 h)) (by kernel_rfl) ?_ (fun hHeld => ?_)
      · exact (hS.later (drew_below wr) hZr).2.2.2.1
      refine tk (i := 0) (d := 24) (v := .string A) rfl rfl (by kernel_rfl) (by kernel_rfl) (by kernel_rfl) (fun _ _ _ h => h) (Or.inl ⟨by rfl, fun w4 hSw => ?_⟩) (by assumption) ?_
      · dsimp only at hSw; go_simp
      simp only [Act.put, List.setIfInBounds_toArray, List.set_cons_zero, List.set_cons_succ]
      refine tk (i := 1) (d := 25) (v := .string (⟨#[45, 45, 84, 58, 58]⟩ : ByteArray)) rfl rfl (by kernel_rfl) (by kernel_rfl) (by kernel_rfl) (fun _ _ _ h => h) (Or.inl ⟨by rfl, fun w4 hSw => ?_⟩) (by assumption) ?_
      · dsimp only at hSw; go_simp
      simp only [Act.put, List.setIfInBounds_toArray, List.set_cons_zero, List.set_cons_succ]
      refine tk (i := 2) (d := 26) (v := .int .i64 2) rfl rfl (by kernel_rfl) (by kernel_rfl) (by kernel_rfl) (fun _ _ _ h => h) (Or.inl ⟨by rfl, fun w4 hSw => ?_⟩) (by assumption) ?_
      · dsimp only at hSw; go_simp
      simp only [Act.put, List.setIfInBounds_toArray, List.set_cons_zero, List.set_cons_succ]
      refine tk (i := 3) (d := 27) (v := .int .i64 2) rfl rfl (by kernel_rfl) (by kernel_rfl) (by kernel_rfl) (fun _ _ _ h => h) (Or.inl ⟨by rfl, fun w4 hSw => ?_⟩) (by assumption) ?_
      · dsimp only at hSw; go_simp
      simp only [Act.put, List.setIfInBounds_toArray, List.set_cons_zero, List.set_cons_succ]
      refine tk (i := 4) (d := 28) (v := .int .i64 3) rfl rfl (by kernel_rfl) (by kernel_rfl) (by kernel_rfl) (fun _ _ _ h => h) (Or.inl ⟨by rfl, fun w4 hSw => ?_⟩) (by assumption) ?_
      · dsimp only at hSw; go_simp; rfl
      simp only [Act.put, List.setIfInBounds_toArray, List.set_cons_zero, List.set_cons_succ]
      refine tk (i := 5) (d := 29) (v := .string ((⟨#[45, 45, 84, 58, 58]⟩ : ByteArray).extract 2 3)) rfl rfl (by kernel_rfl) (by kernel_rfl) (by kernel_rfl) (fun _ _ _ h => h) (Or.inl ⟨by rfl, fun w4 hSw => ?_⟩) (by assumption) ?_
      · dsimp only at hSw; go_simp
      simp only [Act.put, List.setIfInBounds_toArray, List.set_cons_zero, List.set_cons_succ]
      refine tk (i := 6) (d := 30) (v := .string (A ++ ((⟨#[45, 45, 84, 58, 58]⟩ : ByteArray).extract 2 3))) rfl rfl (by kernel_rfl) (by kernel_rfl) (by kernel_rfl) (fun _ _ _ h => h) (Or.inl ⟨by rfl, fun w4 hSw => ?_⟩) (by assumption) ?_
      · dsimp only at hSw; go_simp
      simp only [Act.put, List.setIfInBounds_toArray, List.set_cons_zero, List.set_cons_succ]
      refine tk (i := 7) (d := 31) (v := .int .i64 2) rfl rfl (by kernel_rfl) (by kernel_rfl) (by kernel_rfl) (fun _ _ _ h => h) (Or.inl ⟨by rfl, fun w4 hSw => ?_⟩) (by assumption) ?_
      · dsimp only at hSw; go_simp
      simp only [Act.put, List.setIfInBounds_toArray, List.set_cons_zero, List.set_cons_succ]
      refine tk (i := 8) (d := 32) (v := .int .i64 3) rfl rfl (by kernel_rfl) (by kernel_rfl) (by kernel_rfl) (fun _ _ _ h => h) (Or.inl ⟨by rfl, fun w4 hSw => ?_⟩) (by assumption) ?_
      · dsimp only at hSw; go_simp; rfl
      simp only [Act.put, List.setIfInBounds_toArray, List.set_cons_zero, List.set_cons_succ]
      refine tk (i := 9) (d := 33) (v := .pointer (some ⟨w1.heap.size, 3, none⟩)) rfl rfl (by kernel_rfl) (by kernel_rfl) (by kernel_rfl) (fun _ _ _ h => h) (Or.inl ⟨by rfl, fun w4 hSw => ?_⟩) (by assumption) ?_
      · dsimp only at hSw; go_simp
      simp only [Act.put, List.setIfInBounds_toArray, List.set_cons_zero, List.set_cons_succ]
      refine tk (i := 10) (d := 34) (v := .int .i64 h) rfl rfl (by kernel_rfl) (by kernel_rfl) (by kernel_rfl) (fun _ _ _ h => h) (Or.inl ⟨by rfl, fun w4 hSw => ?_⟩) (by assumption) ?_
      · dsimp only at hSw; go_simp
      simp only [Act.put, List.setIfInBounds_toArray, List.set_cons_zero, List.set_cons_succ]
      refine wpAnyH_ready (rs := [11]) (by kernel_rfl) (by simp) ?_
      refine AllReadyH.cons rfl (fun K hK => ?_) AllReadyH.nil
      go_simp
      go_at_call 30
      refine (refPad_keep (b := w1.heap.size) (k := 3) (v := h) HP.out hm0 hm1 wr.drew hZr e3).mono ?_
      rintro e w3 ⟨rfl, T2, hb3⟩
      refine hK.out _ _ T2 (fun hHeld2 => ?_)
      clear hK K
      refine tk (i := 12) (d := 36) (v := .string (A ++ ((⟨#[45, 45, 84, 58, 58]⟩ : ByteArray).extract 2 3) ++ P)) rfl rfl (by kernel_rfl) (by kernel_rfl) (by kernel_rfl) (fun _ _ _ h => h) (Or.inl ⟨by rfl, fun w4 hSw => ?_⟩) (by assumption) ?_
      · dsimp only at hSw; go_simp
      simp only [Act.put, List.setIfInBounds_toArray, List.set_cons_zero, List.set_cons_succ]
      refine tk (i := 13) (d := 7) (v := .string (A ++ ((⟨#[45, 45, 84, 58, 58]⟩ : ByteArray).extract 2 3) ++ P)) rfl rfl (by kernel_rfl) (by kernel_rfl) (by kernel_rfl) (fun _ _ _ h => h) (Or.inl ⟨by rfl, fun w4 hSw => ?_⟩) (by assumption) ?_
      · dsimp only at hSw; go_simp
      simp only [Act.put, List.setIfInBounds_toArray, List.set_cons_zero, List.set_cons_succ]
      refine wpAnyH_done (by kernel_rfl) ?_ _
      refine NoPanic.normal ?_
      all_goals
        go_wp2
        go_roundw
        case rel =>
          have hBW : Below wr.heap.size wr w3 := (drew_below wr).trans hb3
          exact ⟨3, _, rfl, rfl, by decide, rtext_size (e := [84]) HT.out HPP.out rfl (by rw [tx_len, fx_length]; decide), rtext_next (e := [84]) HT.out HPP.out rfl rfl, hS.later hBW hZr, hBr.trans (hBW.mono hBr.size), Nat.lt_of_lt_of_le hZr hBW.size⟩
        case measure => simp [intOf]
    · obtain ⟨e0, e1, e2, e3, e4, e5⟩ := id hS
      have hv := HC.out.ok
      have hd31 := hv.dm31
      have hw4 : (10 : Nat) ^ (1 + 1) = 100 := rfl
      have hw2 : (10 : Nat) ^ (3 + 1) = 10000 := rfl
      have hP : padOf i 2 = (⟨(fx 2 i.toNat).toArray⟩ : ByteArray).data.toList := pad_fx 1 i (by cases hv; omega) (by cases hv; omega) (by decide)
      have hPs : (⟨(fx 2 i.toNat).toArray⟩ : ByteArray).size ≤ 4 := by rw [Lib.size_eq]; simp [fx_length]
      have hm0 : -9223372036854775808 ≤ i := by cases hv; omega
      have hm1 : i ≤ 9223372036854775807 := by cases hv; omega
      clear hv hd31 hw4 hw2
      generalize hPP : (⟨(fx 2 i.toNat).toArray⟩ : ByteArray) = P at *
      have HP := Lib.hid hP
      have HPP := Lib.hid hPP
      clear hP hPP
      have had1 := add_bb A ((⟨#[45, 45, 84, 58, 58]⟩ : ByteArray).extract 3 4) (by show A.size + 1 ≤ 100000; omega)
      have had2 := add_bb (A ++ ((⟨#[45, 45, 84, 58, 58]⟩ : ByteArray).extract 3 4)) P (by rw [ByteArray.size_append]; show A.size + 1 + P.size ≤ 100000; omega)
      go_wp2_with fail
      rw [show ((3 : Nat) : Int) = (3 : Int) from rfl]
      refine wp_region_noPanic ?_
      refine wp_region_held_drew (S := fun w' => w'.cell? ⟨w1.heap.size, 4, none⟩ = some (.int .i64 i)) (by kernel_rfl) ?_ (fun hHeld => ?_)
      · exact (hS.later (drew_below wr) hZr).2.2.2.2.1
      refine tk (i := 0) (d := 24) (v := .string A) rfl rfl (by kernel_rfl) (by kernel_rfl) (by kernel_rfl) (fun _ _ _ h => h) (Or.inl ⟨by rfl, fun w4 hSw => ?_⟩) (by assumption) ?_
      · dsimp only at hSw; go_simp
      simp only [Act.put, List.setIfInBounds_toArray, List.set_cons_zero, List.set_cons_succ]
      refine tk (i := 1) (d := 25) (v := .string (⟨#[45, 45, 84, 58, 58]⟩ : ByteArray)) rfl rfl (by kernel_rfl) (by kernel_rfl) (by kernel_rfl) (fun _ _ _ h => h) (Or.inl ⟨by rfl, fun w4 hSw => ?_⟩) (by assumption) ?_
      · dsimp only at hSw; go_simp
      simp only [Act.put, List.setIfInBounds_toArray, List.set_cons_zero, List.set_cons_succ]
      refine tk (i := 2) (d := 26) (v := .int .i64 3) rfl rfl (by kernel_rfl) (by kernel_rfl) (by kernel_rfl) (fun _ _ _ h => h) (Or.inl ⟨by rfl, fun w4 hSw => ?_⟩) (by assumption) ?_
      · dsimp only at hSw; go_simp
      simp only [Act.put, List.setIfInBounds_toArray, List.set_cons_zero, List.set_cons_succ]
      refine tk (i := 3) (d := 27) (v := .int .i64 3) rfl rfl (by kernel_rfl) (by kernel_rfl) (by kernel_rfl) (fun _ _ _ h => h) (Or.inl ⟨by rfl, fun w4 hSw => ?_⟩) (by assumption) ?_
      · dsimp only at hSw; go_simp
      simp only [Act.put, List.setIfInBounds_toArray, List.set_cons_zero, List.set_cons_succ]
      refine tk (i := 4) (d := 28) (v := .int .i64 4) rfl rfl (by kernel_rfl) (by kernel_rfl) (by kernel_rfl) (fun _ _ _ h => h) (Or.inl ⟨by rfl, fun w4 hSw => ?_⟩) (by assumption) ?_
      · dsimp only at hSw; go_simp; rfl
      simp only [Act.put, List.setIfInBounds_toArray, List.set_cons_zero, List.set_cons_succ]
      refine tk (i := 5) (d := 29) (v := .string ((⟨#[45, 45, 84, 58, 58]⟩ : ByteArray).extract 3 4)) rfl rfl (by kernel_rfl) (by kernel_rfl) (by kernel_rfl) (fun _ _ _ h => h) (Or.inl ⟨by rfl, fun w4 hSw => ?_⟩) (by assumption) ?_
      · dsimp only at hSw; go_simp
      simp only [Act.put, List.setIfInBounds_toArray, List.set_cons_zero, List.set_cons_succ]
      refine tk (i := 6) (d := 30) (v := .string (A ++ ((⟨#[45, 45, 84, 58, 58]⟩ : ByteArray).extract 3 4))) rfl rfl (by kernel_rfl) (by kernel_rfl) (by kernel_rfl) (fun _ _ _ h => h) (Or.inl ⟨by rfl, fun w4 hSw => ?_⟩) (by assumption) ?_
      · dsimp only at hSw; go_simp
      simp only [Act.put, List.setIfInBounds_toArray, List.set_cons_zero, List.set_cons_succ]
      refine tk (i := 7) (d := 31) (v := .int .i64 3) rfl rfl (by kernel_rfl) (by kernel_rfl) (by kernel_rfl) (fun _ _ _ h => h) (Or.inl ⟨by rfl, fun w4 hSw => ?_⟩) (by assumption) ?_
      · dsimp only at hSw; go_simp
      simp only [Act.put, List.setIfInBounds_toArray, List.set_cons_zero, List.set_cons_succ]
      refine tk (i := 8) (d := 32) (v := .int .i64 4) rfl rfl (by kernel_rfl) (by kernel_rfl) (by kernel_rfl) (fun _ _ _ h => h) (Or.inl ⟨by rfl, fun w4 hSw => ?_⟩) (by assumption) ?_
      · dsimp only at hSw; go_simp; rfl
      simp only [Act.put, List.setIfInBounds_toArray, List.set_cons_zero, List.set_cons_succ]
      refine tk (i := 9) (d := 33) (v := .pointer (some ⟨w1.heap.size, 4, none⟩)) rfl rfl (by kernel_rfl) (by kernel_rfl) (by kernel_rfl) (fun _ _ _ h => h) (Or.inl ⟨by rfl, fun w4 hSw => ?_⟩) (by assumption) ?_
      · dsimp only at hSw; go_simp
      simp only [Act.put, List.setIfInBounds_toArray, List.set_cons_zero, List.set_cons_succ]
      refine tk (i := 10) (d := 34) (v := .int .i64 i) rfl rfl (by kernel_rfl) (by kernel_rfl) (by kernel_rfl) (fun _ _ _ h => h) (Or.inl ⟨by rfl, fun w4 hSw => ?_⟩) (by assumption) ?_
      · dsimp only at hSw; go_simp
      simp only [Act.put, List.setIfInBounds_toArray, List.set_cons_zero, List.set_cons_succ]
      refine wpAnyH_ready (rs := [11]) (by kernel_rfl) (by simp) ?_
      refine AllReadyH.cons rfl (fun K hK => ?_) AllReadyH.nil
      go_simp
      go_at_call 30
      refine (refPad_keep (b := w1.heap.size) (k := 4) (v := i) HP.out hm0 hm1 wr.drew hZr e4).mono ?_
      rintro e w3 ⟨rfl, T2, hb3⟩
      refine hK.out _ _ T2 (fun hHeld2 => ?_)
      clear hK K
      refine tk (i := 12) (d := 36) (v := .string (A ++ ((⟨#[45, 45, 84, 58, 58]⟩ : ByteArray).extract 3 4) ++ P)) rfl rfl (by kernel_rfl) (by kernel_rfl) (by kernel_rfl) (fun _ _ _ h => h) (Or.inl ⟨by rfl, fun w4 hSw => ?_⟩) (by assumption) ?_
      · dsimp only at hSw; go_simp
      simp only [Act.put, List.setIfInBounds_toArray, List.set_cons_zero, List.set_cons_succ]
      refine tk (i := 13) (d := 7) (v := .string (A ++ ((⟨#[45, 45, 84, 58, 58]⟩ : ByteArray).extract 3 4) ++ P)) rfl rfl (by kernel_rfl) (by kernel_rfl) (by kernel_rfl) (fun _ _ _ h => h) (Or.inl ⟨by rfl, fun w4 hSw => ?_⟩) (by assumption) ?_
      · dsimp only at hSw; go_simp
      simp only [Act.put, List.setIfInBounds_toArray, List.set_cons_zero, List.set_cons_succ]
      refine wpAnyH_done (by kernel_rfl) ?_ _
      refine NoPanic.normal ?_
      all_goals
        go_wp2
        go_roundw
        case rel =>
          have hBW : Below wr.heap.size wr w3 := (drew_below wr).trans hb3
          exact ⟨4, _, rfl, rfl, by decide, rtext_size (e := [58]) HT.out HPP.out rfl (by rw [tx_len, fx_length]; decide), rtext_next (e := [58]) HT.out HPP.out rfl rfl, hS.later hBW hZr, hBr.trans (hBW.mono hBr.size), Nat.lt_of_lt_of_le hZr hBW.size⟩
        case measure => simp [intOf]
    · obtain ⟨e0, e1, e2, e3, e4, e5⟩ := id hS
      have hv := HC.out.ok
      have hd31 := hv.dm31
      have hw4 : (10 : Nat) ^ (1 + 1) = 100 := rfl
      have hw2 : (10 : Nat) ^ (3 + 1) = 10000 := rfl
      have hP : padOf s 2 = (⟨(fx 2 s.toNat).toArray⟩ : ByteArray).data.toList := pad_fx 1 s (by cases hv; omega) (by cases hv; omega) (by decide)
      have hPs : (⟨(fx 2 s.toNat).toArray⟩ : ByteArray).size ≤ 4 := by rw [Lib.size_eq]; simp [fx_length]
      have hm0 : -9223372036854775808 ≤ s := by cases hv; omega
      have hm1 : s ≤ 9223372036854775807 := by cases hv; omega
      clear hv hd31 hw4 hw2
      generalize hPP : (⟨(fx 2 s.toNat).toArray⟩ : ByteArray) = P at *
      have HP := Lib.hid hP
      have HPP := Lib.hid hPP
      clear hP hPP
      have had1 := add_bb A ((⟨#[45, 45, 84, 58, 58]⟩ : ByteArray).extract 4 5) (by show A.size + 1 ≤ 100000; omega)
      have had2 := add_bb (A ++ ((⟨#[45, 45, 84, 58, 58]⟩ : ByteArray).extract 4 5)) P (by rw [ByteArray.size_append]; show A.size + 1 + P.size ≤ 100000; omega)
      go_wp2_with fail
      rw [show ((4 : Nat) : Int) = (4 : Int) from rfl]
      refine wp_region_noPanic ?_
      refine wp_region_held_drew (S := fun w' => w'.cell? ⟨w1.heap.size, 5, none⟩ = some (.int .i64 s)) (by kernel_rfl) ?_ (fun hHeld => ?_)
      · exact (hS.later (drew_below wr) hZr).2.2.2.2.2
      refine tk (i := 0) (d := 24) (v := .string A) rfl rfl (by kernel_rfl) (by kernel_rfl) (by kernel_rfl) (fun _ _ _ h => h) (Or.inl ⟨by rfl, fun w4 hSw => ?_⟩) (by assumption) ?_
      · dsimp only at hSw; go_simp
      simp only [Act.put, List.setIfInBounds_toArray, List.set_cons_zero, List.set_cons_succ]
      refine tk (i := 1) (d := 25) (v := .string (⟨#[45, 45, 84, 58, 58]⟩ : ByteArray)) rfl rfl (by kernel_rfl) (by kernel_rfl) (by kernel_rfl) (fun _ _ _ h => h) (Or.inl ⟨by rfl, fun w4 hSw => ?_⟩) (by assumption) ?_
      · dsimp only at hSw; go_simp
      simp only [Act.put, List.setIfInBounds_toArray, List.set_cons_zero, List.set_cons_succ]
      refine tk (i := 2) (d := 26) (v := .int .i64 4) rfl rfl (by kernel_rfl) (by kernel_rfl) (by kernel_rfl) (fun _ _ _ h => h) (Or.inl ⟨by rfl, fun w4 hSw => ?_⟩) (by assumption) ?_
      · dsimp only at hSw; go_simp
      simp only [Act.put, List.setIfInBounds_toArray, List.set_cons_zero, List.set_cons_succ]
      refine tk (i := 3) (d := 27) (v := .int .i64 4) rfl rfl (by kernel_rfl) (by kernel_rfl) (by kernel_rfl) (fun _ _ _ h => h) (Or.inl ⟨by rfl, fun w4 hSw => ?_⟩) (by assumption) ?_
      · dsimp only at hSw; go_simp
      simp only [Act.put, List.setIfInBounds_toArray, List.set_cons_zero, List.set_cons_succ]
      refine tk (i := 4) (d := 28) (v := .int .i64 5) rfl rfl (by kernel_rfl) (by kernel_rfl) (by kernel_rfl) (fun _ _ _ h => h) (Or.inl ⟨by rfl, fun w4 hSw => ?_⟩) (by assumption) ?_
      · dsimp only at hSw; go_simp; rfl
      simp only [Act.put, List.setIfInBounds_toArray, List.set_cons_zero, List.set_cons_succ]
      refine tk (i := 5) (d := 29) (v := .string ((⟨#[45, 45, 84, 58, 58]⟩ : ByteArray).extract 4 5)) rfl rfl (by kernel_rfl) (by kernel_rfl) (by kernel_rfl) (fun _ _ _ h => h) (Or.inl ⟨by rfl, fun w4 hSw => ?_⟩) (by assumption) ?_
      · dsimp only at hSw; go_simp
      simp only [Act.put, List.setIfInBounds_toArray, List.set_cons_zero, List.set_cons_succ]
      refine tk (i := 6) (d := 30) (v := .string (A ++ ((⟨#[45, 45, 84, 58, 58]⟩ : ByteArray).extract 4 5))) rfl rfl (by kernel_rfl) (by kernel_rfl) (by kernel_rfl) (fun _ _ _ h => h) (Or.inl ⟨by rfl, fun w4 hSw => ?_⟩) (by assumption) ?_
      · dsimp only at hSw; go_simp
      simp only [Act.put, List.setIfInBounds_toArray, List.set_cons_zero, List.set_cons_succ]
      refine tk (i := 7) (d := 31) (v := .int .i64 4) rfl rfl (by kernel_rfl) (by kernel_rfl) (by kernel_rfl) (fun _ _ _ h => h) (Or.inl ⟨by rfl, fun w4 hSw => ?_⟩) (by assumption) ?_
      · dsimp only at hSw; go_simp
      simp only [Act.put, List.setIfInBounds_toArray, List.set_cons_zero, List.set_cons_succ]
      refine tk (i := 8) (d := 32) (v := .int .i64 5) rfl rfl (by kernel_rfl) (by kernel_rfl) (by kernel_rfl) (fun _ _ _ h => h) (Or.inl ⟨by rfl, fun w4 hSw => ?_⟩) (by assumption) ?_
      · dsimp only at hSw; go_simp; rfl
      simp only [Act.put, List.setIfInBounds_toArray, List.set_cons_zero, List.set_cons_succ]
      refine tk (i := 9) (d := 33) (v := .pointer (some ⟨w1.heap.size, 5, none⟩)) rfl rfl (by kernel_rfl) (by kernel_rfl) (by kernel_rfl) (fun _ _ _ h => h) (Or.inl ⟨by rfl, fun w4 hSw => ?_⟩) (by assumption) ?_
      · dsimp only at hSw; go_simp
      simp only [Act.put, List.setIfInBounds_toArray, List.set_cons_zero, List.set_cons_succ]
      refine tk (i := 10) (d := 34) (v := .int .i64 s) rfl rfl (by kernel_rfl) (by kernel_rfl) (by kernel_rfl) (fun _ _ _ h => h) (Or.inl ⟨by rfl, fun w4 hSw => ?_⟩) (by assumption) ?_
      · dsimp only at hSw; go_simp
      simp only [Act.put, List.setIfInBounds_toArray, List.set_cons_zero, List.set_cons_succ]
      refine wpAnyH_ready (rs := [11]) (by kernel_rfl) (by simp) ?_
      refine AllReadyH.cons rfl (fun K hK => ?_) AllReadyH.nil
      go_simp
      go_at_call 30
      refine (refPad_keep (b := w1.heap.size) (k := 5) (v := s) HP.out hm0 hm1 wr.drew hZr e5).mono ?_
      rintro e w3 ⟨rfl, T2, hb3⟩
      refine hK.out _ _ T2 (fun hHeld2 => ?_)
      clear hK K
      refine tk (i := 12) (d := 36) (v := .string (A ++ ((⟨#[45, 45, 84, 58, 58]⟩ : ByteArray).extract 4 5) ++ P)) rfl rfl (by kernel_rfl) (by kernel_rfl) (by kernel_rfl) (fun _ _ _ h => h) (Or.inl ⟨by rfl, fun w4 hSw => ?_⟩) (by assumption) ?_
      · dsimp only at hSw; go_simp
      simp only [Act.put, List.setIfInBounds_toArray, List.set_cons_zero, List.set_cons_succ]
      refine tk (i := 13) (d := 7) (v := .string (A ++ ((⟨#[45, 45, 84, 58, 58]⟩ : ByteArray).extract 4 5) ++ P)) rfl rfl (by kernel_rfl) (by kernel_rfl) (by kernel_rfl) (fun _ _ _ h => h) (Or.inl ⟨by rfl, fun w4 hSw => ?_⟩) (by assumption) ?_
      · dsimp only at hSw; go_simp
      simp only [Act.put, List.setIfInBounds_toArray, List.set_cons_zero, List.set_cons_succ]
      refine wpAnyH_done (by kernel_rfl) ?_ _
      refine NoPanic.normal ?_
      all_goals
        go_wp2
        go_roundw
        case rel =>
          have hBW : Below wr.heap.size wr w3 := (drew_below wr).trans hb3
          exact ⟨5, _, rfl, rfl, by decide, rtext_size (e := [58]) HT.out HPP.out rfl (by rw [tx_len, fx_length]; decide), rtext_next (e := [58]) HT.out HPP.out rfl rfl, hS.later hBW hZr, hBr.trans (hBW.mono hBr.size), Nat.lt_of_lt_of_le hZr hBW.size⟩
        case measure => simp [intOf]
    · go_wp2
      go_ret2
      exact ⟨ret_str HT.out, hBr⟩
end Go.Proofs.YtjdccfegmllphaaGreatDoor
