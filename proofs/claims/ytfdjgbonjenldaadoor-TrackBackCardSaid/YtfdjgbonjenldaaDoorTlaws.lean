/-
  The laws' 'awake'; the three laws of track.
-/
import Derived.Test.YtfdjgbonjenldaaDoorRefsplit
namespace Go.Proofs.YtfdjgbonjenldaaDoor
open Go.RowKit Go.Shelf

theorem below_two {n : Nat} {a b c : World} (h1 : Below n a b) (h2 : Below b.heap.size b c) (h : n ≤ a.heap.size) : Below n a c :=
  h1.trans (h2.mono (Nat.le_trans h h1.size))

theorem rel_awake (w : World) : Calls Tryd.prog 7 #[.string ⟨#[47, 97]⟩, .string ⟨#[47, 97, 47, 98, 47, 99]⟩] w fun e w' => e = .returned (.tuple #[.string ⟨#[98, 47, 99]⟩, .bool true]) ∧ Below w.heap.size w w' := by
  have h := rel_l [47, 97] [47, 97, 47, 98, 47, 99] (by decide) (by decide) w
  rwa [show M.rel1 [47, 97] [47, 97, 47, 98, 47, 99] = [98, 47, 99] by decide, show decide (M.relOk [47, 97] [47, 97, 47, 98, 47, 99]) = true by decide] at h
theorem rel_awake2 (w : World) : Calls Tryd.prog 7 #[.string ⟨#[47, 97]⟩, .string ⟨#[47, 97, 98]⟩] w fun e w' => e = .returned (.tuple #[.string ⟨#[]⟩, .bool false]) ∧ Below w.heap.size w w' := by
  have h := rel_l [47, 97] [47, 97, 98] (by decide) (by decide) w
  rwa [show M.rel1 [47, 97] [47, 97, 98] = [] by decide, show decide (M.relOk [47, 97] [47, 97, 98]) = false by decide] at h
theorem split_awake (w : World) : Calls Tryd.prog 9 #[.string ⟨#[47, 97]⟩] w fun e w' => e = .returned (.tuple #[.string ⟨#[47]⟩, .string ⟨#[97]⟩]) ∧ Below w.heap.size w w' := by
  have h := split_l [47, 97] (by decide) w
  rwa [show M.dirOf (M.clean [47, 97]) = [47] by decide, show M.baseOf (M.clean [47, 97]) = [97] by decide] at h
theorem clean_awake (w : World) : Calls Tryd.prog 11 #[.string ⟨#[47, 97, 47, 46, 46, 47, 46, 46, 47, 98, 47, 46]⟩] w fun e w' => e = .returned (.string ⟨#[47, 98]⟩) ∧ Below w.heap.size w w' := by
  have h := clean_l [47, 97, 47, 46, 46, 47, 46, 46, 47, 98, 47, 46] (by decide) w
  rwa [show M.clean [47, 97, 47, 46, 46, 47, 46, 46, 47, 98, 47, 46] = [47, 98] by decide] at h
theorem clean_awake2 (w : World) : Calls Tryd.prog 11 #[.string ⟨#[97, 47, 46, 46, 47, 46, 46]⟩] w fun e w' => e = .returned (.string ⟨#[46, 46]⟩) ∧ Below w.heap.size w w' := by
  have h := clean_l [97, 47, 46, 46, 47, 46, 46] (by decide) w
  rwa [show M.clean [97, 47, 46, 46, 47, 46, 46] = [46, 46] by decide] at h

set_option maxHeartbeats 2000000 in
theorem awake_any (w : World) : Calls Tryd.prog 6 #[] w fun e w' => e = .returned (.bool true) ∧ Below w.heap.size w w' := by
  have c1 := rel_awake
  have c2 := rel_awake2
  have c3 := clean_awake
  have c4 := clean_awake2
  go_enter Tryd.func6, Tryd.ntmps6
  go_wp2_with (first
    | (go_at_call 7; first | (refine (c1 _).mono ?_; clear c1; rintro e w1 ⟨rfl, hb1⟩) | (refine (c2 _).mono ?_; rintro e w2 ⟨rfl, hb2⟩))
    | (go_at_call 9; refine (split_awake _).mono ?_; rintro e w3 ⟨rfl, hb3⟩)
    | (go_at_call 11; first | (refine (c3 _).mono ?_; clear c3; rintro e w4 ⟨rfl, hb4⟩) | (refine (c4 _).mono ?_; rintro e w5 ⟨rfl, hb5⟩)))
  go_ret
  exact ⟨rfl, below_two (below_two (below_two (below_two hb1 hb2 (Nat.le_refl _)) hb3 (Nat.le_refl _)) hb4 (Nat.le_refl _)) hb5 (Nat.le_refl _)⟩

set_option maxHeartbeats 4000000 in
theorem trackOnce_walk (s : ByteArray) (w : World) : Calls Tryd.prog 4 #[.string s] w fun e w' => e = .returned (.bool true) ∧ Below w.heap.size w w' := by
  obtain ⟨l, rfl⟩ := bytes_eq s
  by_cases h : (200 : Int) < l.length
  · go_enter Tryd.func4, Tryd.ntmps4
    go_wp2_with (go_at_call 6; refine (awake_any _).mono ?_; rintro e w6 ⟨rfl, hb6⟩)
    go_ret
    exact ⟨rfl, hb6⟩
  · have c1 := fun w => clean_l l (by omega) w
    have c2 := fun w => clean_l (M.clean l) (by have := M.clean_most l; omega) w
    rw [M.clean_clean] at c2
    have hne := M.clean_ne l
    have hle := M.clean_len l
    generalize M.clean l = c at c1 c2 hne hle
    have hne' : c.isEmpty = false := by cases c <;> simp_all
    by_cases hl : c.length ≤ l.length
    · have hl' : (c.length : Int) ≤ l.length := by omega
      clear hle hne
      go_enter Tryd.func4, Tryd.ntmps4
      go_wp2_with (first
        | (go_at_call 6; refine (awake_any _).mono ?_; rintro e w6 ⟨rfl, hb6⟩)
        | (go_at_call 11; first | (refine (c1 _).mono ?_; clear c1; rintro e w1 ⟨rfl, hb1⟩) | (refine (c2 _).mono ?_; rintro e w2 ⟨rfl, hb2⟩)))
      go_ret
      exact ⟨rfl, below_two (below_two hb1 hb2 (Nat.le_refl _)) hb6 (Nat.le_refl _)⟩
    · obtain rfl := hle.resolve_left hl
      have hl' : ¬ (1 : Int) ≤ l.length := by rw [show ([46] : List UInt8).length = 1 from rfl] at hl; omega
      clear hle hne hne' hl
      go_enter Tryd.func4, Tryd.ntmps4
      go_wp2_with (first
        | (go_at_call 6; refine (awake_any _).mono ?_; rintro e w6 ⟨rfl, hb6⟩)
        | (go_at_call 11; first | (refine (c1 _).mono ?_; clear c1; rintro e w1 ⟨rfl, hb1⟩) | (refine (c2 _).mono ?_; rintro e w2 ⟨rfl, hb2⟩)))
      go_ret
      exact ⟨rfl, below_two (below_two hb1 hb2 (Nat.le_refl _)) hb6 (Nat.le_refl _)⟩

set_option maxHeartbeats 4000000 in
theorem trackTells_walk (s t : ByteArray) (w : World) : Calls Tryd.prog 3 #[.string s, .string t] w fun e w' => e = .returned (.bool true) ∧ Below w.heap.size w w' := by
  obtain ⟨a, rfl⟩ := bytes_eq s
  obtain ⟨b, rfl⟩ := bytes_eq t
  by_cases h : (200 : Int) < a.length
  · go_enter Tryd.func3, Tryd.ntmps3
    go_wp2_with (go_at_call 6; refine (awake_any _).mono ?_; rintro e w6 ⟨rfl, hb6⟩)
    go_ret
    exact ⟨rfl, hb6⟩
  by_cases h2 : (200 : Int) < b.length
  · go_enter Tryd.func3, Tryd.ntmps3
    go_wp2_with (go_at_call 6; refine (awake_any _).mono ?_; rintro e w6 ⟨rfl, hb6⟩)
    go_ret
    exact ⟨rfl, hb6⟩
  have c7 := fun w => rel_l a b (by omega) (by omega) w
  have c8 := fun w => refRel_l a b (by omega) (by omega) w
  have c9 := fun w => split_l a (by omega) w
  have c10 := fun w => refSplit_l a (by omega) w
  have c11 := fun w => clean_l a (by omega) w
  have c12 := fun w => refClean_l a (by omega) w
  have c13 := fun w => join_l a b (by omega) (by omega) w
  have c14 := fun w => refJoin_l a b (by omega) (by omega) w
  have c15 := fun w => inside_l a b (by omega) w
  have c16 := fun w => refInside_l a b (by omega) w
  have c17 := fun w => below_l a b (by omega) (by omega) w
  have c18 := fun w => refBelow_l a b (by omega) (by omega) w
  generalize M.rel1 a b = r at c7 c8
  generalize decide (M.relOk a b) = ok at c7 c8
  generalize M.dirOf (M.clean a) = d at c9 c10
  generalize M.baseOf (M.clean a) = n at c9 c10
  generalize M.clean a = c at c11 c12
  generalize M.join a b = j at c13 c14
  generalize M.inside a b = i at c15 c16
  generalize M.below a b = l at c17 c18
  go_enter Tryd.func3, Tryd.ntmps3
  go_wp2_with (first
    | (go_at_call 6; refine (awake_any _).mono ?_; rintro e w6 ⟨rfl, hb6⟩)
    | (go_at_call 7; refine (c7 _).mono ?_; rintro e w7 ⟨rfl, hb7⟩)
    | (go_at_call 8; refine (c8 _).mono ?_; rintro e w8 ⟨rfl, hb8⟩)
    | (go_at_call 9; refine (c9 _).mono ?_; rintro e w9 ⟨rfl, hb9⟩)
    | (go_at_call 10; refine (c10 _).mono ?_; rintro e w10 ⟨rfl, hb10⟩)
    | (go_at_call 11; refine (c11 _).mono ?_; rintro e w11 ⟨rfl, hb11⟩)
    | (go_at_call 12; refine (c12 _).mono ?_; rintro e w12 ⟨rfl, hb12⟩)
    | (go_at_call 13; refine (c13 _).mono ?_; rintro e w13 ⟨rfl, hb13⟩)
    | (go_at_call 14; refine (c14 _).mono ?_; rintro e w14 ⟨rfl, hb14⟩)
    | (go_at_call 15; refine (c15 _).mono ?_; rintro e w0 ⟨rfl, hw0⟩; obtain rfl := hw0.symm)
    | (go_at_call 16; refine (c16 _).mono ?_; rintro e w0 ⟨rfl, hw0⟩; obtain rfl := hw0.symm)
    | (go_at_call 17; refine (c17 _).mono ?_; rintro e w0 ⟨rfl, hw0⟩; obtain rfl := hw0.symm)
    | (go_at_call 18; refine (c18 _).mono ?_; rintro e w0 ⟨rfl, hw0⟩; obtain rfl := hw0.symm))
  go_ret
  have q (n : Nat) : n ≤ n := Nat.le_refl n
  exact ⟨rfl, below_two (below_two (below_two (below_two (below_two (below_two (below_two (below_two hb7 hb8 (q _)) hb9 (q _)) hb10 (q _)) hb11 (q _)) hb12 (q _)) hb13 (q _)) hb14 (q _)) hb6 (q _)⟩
end Go.Proofs.YtfdjgbonjenldaaDoor
