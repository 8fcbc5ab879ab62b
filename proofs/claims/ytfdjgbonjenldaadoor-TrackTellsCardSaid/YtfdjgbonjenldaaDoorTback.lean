/-
  The law TrackBack.
-/
import Derived.Test.YtfdjgbonjenldaaDoorTlaws
namespace Go.Proofs.YtfdjgbonjenldaaDoor
open Go.RowKit Go.Shelf

theorem top_yes {c : List UInt8} (h : M.abs c = true) : (((⟨c.toArray⟩ : ByteArray).extract 0 1).toList == [47]) = true := by
  obtain ⟨r, rfl⟩ := M.abs_cons h
  rw [Lib.extract_toList]; simp
theorem top_no {c : List UInt8} (h : M.abs c = false) : (((⟨c.toArray⟩ : ByteArray).extract 0 1).toList == [47]) = false := by
  rw [Lib.extract_toList]
  cases c with
  | nil => rfl
  | cons x c => simp [M.abs] at h ⊢; exact h

set_option maxHeartbeats 4000000 in
theorem trackBack_walk (s t : ByteArray) (w : World) : Calls Tryd.prog 5 #[.string s, .string t] w fun e w' => e = .returned (.bool true) ∧ Below w.heap.size w w' := by
  have q (n : Nat) : n ≤ n := Nat.le_refl n
  obtain ⟨a, rfl⟩ := bytes_eq s
  obtain ⟨b, rfl⟩ := bytes_eq t
  by_cases h : (200 : Int) < a.length
  · go_enter Tryd.func5, Tryd.ntmps5
    go_wp2_with (go_at_call 6; refine (awake_any _).mono ?_; rintro e w6 ⟨rfl, hb6⟩)
    go_ret
    exact ⟨rfl, hb6⟩
  by_cases h2 : (200 : Int) < b.length
  · go_enter Tryd.func5, Tryd.ntmps5
    go_wp2_with (go_at_call 6; refine (awake_any _).mono ?_; rintro e w6 ⟨rfl, hb6⟩)
    go_ret
    exact ⟨rfl, hb6⟩
  have hr := M.rel1_len a b
  have hcl := M.clean_most b
  have hdl := M.dir_len b
  have hnl := M.base_len b
  have c7 := fun w => rel_l a b (by omega) (by omega) w
  have c9 := fun w => split_l b (by omega) w
  have c11 := fun w => clean_l b (by omega) w
  have c13 := fun w => join_l a (M.rel1 a b) (by omega) (by omega) w
  have c15 := fun w => inside_l (M.clean b) (M.clean b) (by omega) w
  have c17 := fun w => below_l (M.dirOf (M.clean b)) (M.baseOf (M.clean b)) (by omega) (by omega) w
  rw [M.inside_self] at c15
  have HJ : Hid (M.relOk a b → M.join a (M.rel1 a b) = M.clean b) := Lib.hid (fun h => by rw [M.rel1_yes h]; exact M.join_rel h)
  have HS : Hid (M.abs (M.clean b) = true → M.baseOf (M.clean b) ≠ [] → M.below (M.dirOf (M.clean b)) (M.baseOf (M.clean b)) = M.clean b) := Lib.hid (fun h1 h2 => M.below_split h1 h2)
  have hne := M.clean_ne b
  have hmin : min (1 : Int) ((M.clean b).length : Int) = 1 := by
    have := List.length_pos_iff.2 hne
    omega
  have hl1 : (1 : Int) ≤ (M.clean b).length := by
    have := List.length_pos_iff.2 hne
    omega
  have hne' : (M.clean b).isEmpty = false := by
    cases hc : M.clean b with
    | nil => exact absurd hc hne
    | cons x y => rfl
  clear hr hcl hdl hnl hne
  generalize M.rel1 a b = r at c7 c13 HJ
  generalize M.dirOf (M.clean b) = d at c9 c17 HS
  generalize M.baseOf (M.clean b) = n at c9 c17 HS
  by_cases hok : M.relOk a b
  · rw [HJ.out hok] at c13
    rw [decide_eq_true hok] at c7
    clear HJ hok
    by_cases ht : M.abs (M.clean b) = true
    · have htb := top_yes ht
      by_cases hn : n = []
      · subst hn
        clear HS ht c17
        generalize M.clean b = c at *
        go_enter Tryd.func5, Tryd.ntmps5
        go_wp2_with (first
          | (go_at_call 6; refine (awake_any _).mono ?_; rintro e w6 ⟨rfl, hb6⟩)
          | (go_at_call 7; refine (c7 _).mono ?_; rintro e w7 ⟨rfl, hb7⟩)
          | (go_at_call 13; refine (c13 _).mono ?_; rintro e w13 ⟨rfl, hb13⟩)
          | (go_at_call 11; first | (have := hb11; refine (c11 _).mono ?_; rintro e w12 ⟨rfl, hb12⟩) | (refine (c11 _).mono ?_; rintro e w11 ⟨rfl, hb11⟩))
          | (go_at_call 9; refine (c9 _).mono ?_; rintro e w9 ⟨rfl, hb9⟩)
          | (go_at_call 15; refine (c15 _).mono ?_; rintro e w0 ⟨rfl, hw0⟩; obtain rfl := hw0.symm))
        go_ret
        exact ⟨rfl, below_two (below_two (below_two (below_two (below_two hb7 hb13 (q _)) hb11 (q _)) hb12 (q _)) hb9 (q _)) hb6 (q _)⟩
      · rw [HS.out ht hn] at c17
        have hn' : n.isEmpty = false := by cases n <;> simp_all
        clear HS ht
        generalize M.clean b = c at *
        go_enter Tryd.func5, Tryd.ntmps5
        go_wp2_with (first
          | (go_at_call 6; refine (awake_any _).mono ?_; rintro e w6 ⟨rfl, hb6⟩)
          | (go_at_call 7; refine (c7 _).mono ?_; rintro e w7 ⟨rfl, hb7⟩)
          | (go_at_call 13; refine (c13 _).mono ?_; rintro e w13 ⟨rfl, hb13⟩)
          | (go_at_call 11; first | (have := hb11; refine (c11 _).mono ?_; rintro e w12 ⟨rfl, hb12⟩) | (refine (c11 _).mono ?_; rintro e w11 ⟨rfl, hb11⟩))
          | (go_at_call 9; refine (c9 _).mono ?_; rintro e w9 ⟨rfl, hb9⟩)
          | (go_at_call 15; refine (c15 _).mono ?_; rintro e w0 ⟨rfl, hw0⟩; obtain rfl := hw0.symm)
          | (go_at_call 17; refine (c17 _).mono ?_; rintro e w0 ⟨rfl, hw0⟩; obtain rfl := hw0.symm))
        go_ret
        exact ⟨rfl, below_two (below_two (below_two (below_two (below_two hb7 hb13 (q _)) hb11 (q _)) hb12 (q _)) hb9 (q _)) hb6 (q _)⟩
    · have htb := top_no (show M.abs (M.clean b) = false by simpa using ht)
      clear HS ht c17
      generalize M.clean b = c at *
      go_enter Tryd.func5, Tryd.ntmps5
      go_wp2_with (first
        | (go_at_call 6; refine (awake_any _).mono ?_; rintro e w6 ⟨rfl, hb6⟩)
        | (go_at_call 7; refine (c7 _).mono ?_; rintro e w7 ⟨rfl, hb7⟩)
        | (go_at_call 13; refine (c13 _).mono ?_; rintro e w13 ⟨rfl, hb13⟩)
        | (go_at_call 11; first | (have := hb11; refine (c11 _).mono ?_; rintro e w12 ⟨rfl, hb12⟩) | (refine (c11 _).mono ?_; rintro e w11 ⟨rfl, hb11⟩))
        | (go_at_call 9; refine (c9 _).mono ?_; rintro e w9 ⟨rfl, hb9⟩)
        | (go_at_call 15; refine (c15 _).mono ?_; rintro e w0 ⟨rfl, hw0⟩; obtain rfl := hw0.symm))
      go_ret
      exact ⟨rfl, below_two (below_two (below_two (below_two (below_two hb7 hb13 (q _)) hb11 (q _)) hb12 (q _)) hb9 (q _)) hb6 (q _)⟩
  · rw [decide_eq_false hok] at c7
    clear HJ hok c13
    by_cases ht : M.abs (M.clean b) = true
    · have htb := top_yes ht
      by_cases hn : n = []
      · subst hn
        clear HS ht c17
        generalize M.clean b = c at *
        go_enter Tryd.func5, Tryd.ntmps5
        go_wp2_with (first
          | (go_at_call 6; refine (awake_any _).mono ?_; rintro e w6 ⟨rfl, hb6⟩)
          | (go_at_call 7; refine (c7 _).mono ?_; rintro e w7 ⟨rfl, hb7⟩)
          | (go_at_call 11; refine (c11 _).mono ?_; rintro e w11 ⟨rfl, hb11⟩)
          | (go_at_call 9; refine (c9 _).mono ?_; rintro e w9 ⟨rfl, hb9⟩)
          | (go_at_call 15; refine (c15 _).mono ?_; rintro e w0 ⟨rfl, hw0⟩; obtain rfl := hw0.symm))
        go_ret
        exact ⟨rfl, below_two (below_two (below_two hb7 hb11 (q _)) hb9 (q _)) hb6 (q _)⟩
      · rw [HS.out ht hn] at c17
        have hn' : n.isEmpty = false := by cases n <;> simp_all
        clear HS ht
        generalize M.clean b = c at *
        go_enter Tryd.func5, Tryd.ntmps5
        go_wp2_with (first
          | (go_at_call 6; refine (awake_any _).mono ?_; rintro e w6 ⟨rfl, hb6⟩)
          | (go_at_call 7; refine (c7 _).mono ?_; rintro e w7 ⟨rfl, hb7⟩)
          | (go_at_call 11; refine (c11 _).mono ?_; rintro e w11 ⟨rfl, hb11⟩)
          | (go_at_call 9; refine (c9 _).mono ?_; rintro e w9 ⟨rfl, hb9⟩)
          | (go_at_call 15; refine (c15 _).mono ?_; rintro e w0 ⟨rfl, hw0⟩; obtain rfl := hw0.symm)
          | (go_at_call 17; refine (c17 _).mono ?_; rintro e w0 ⟨rfl, hw0⟩; obtain rfl := hw0.symm))
        go_ret
        exact ⟨rfl, below_two (below_two (below_two hb7 hb11 (q _)) hb9 (q _)) hb6 (q _)⟩
    · have htb := top_no (show M.abs (M.clean b) = false by simpa using ht)
      clear HS ht c17
      generalize M.clean b = c at *
      go_enter Tryd.func5, Tryd.ntmps5
      go_wp2_with (first
        | (go_at_call 6; refine (awake_any _).mono ?_; rintro e w6 ⟨rfl, hb6⟩)
        | (go_at_call 7; refine (c7 _).mono ?_; rintro e w7 ⟨rfl, hb7⟩)
        | (go_at_call 11; refine (c11 _).mono ?_; rintro e w11 ⟨rfl, hb11⟩)
        | (go_at_call 9; refine (c9 _).mono ?_; rintro e w9 ⟨rfl, hb9⟩)
        | (go_at_call 15; refine (c15 _).mono ?_; rintro e w0 ⟨rfl, hw0⟩; obtain rfl := hw0.symm))
      go_ret
      exact ⟨rfl, below_two (below_two (below_two hb7 hb11 (q _)) hb9 (q _)) hb6 (q _)⟩
end Go.Proofs.YtfdjgbonjenldaaDoor
