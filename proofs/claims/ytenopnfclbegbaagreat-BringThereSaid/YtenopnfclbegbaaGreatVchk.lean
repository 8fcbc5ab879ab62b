/-
  What strings.Contains does at a byte, and what name.Check does.
-/
import Derived.Test.YtenopnfclbegbaaGreatRefa
import Derived.Test.YtenopnfclbegbaaGreatShelfb
import Derived.Laws.Strings3
import Derived.Shelf.RegionOpen
namespace Go.Proofs.YtenopnfclbegbaaGreat.V
open Go.RowKit Go.Shelf
theorem indexByte_one (c : UInt8) : ∀ l : List UInt8, Lib.indexByte l c = Lib.index l [c]
  | [] => rfl
  | b :: l => by
    have ih := indexByte_one c l
    rw [Lib.indexByte, Lib.index, ih]
    by_cases hb : b = c
    · subst hb; simp
    · have e : ([c] : List UInt8).isPrefixOf (b :: l) = false := by simp [List.isPrefixOf]; exact fun e => hb e.symm
      rw [e]; simp [hb]
theorem contains_has (l : List UInt8) (c : UInt8) : decide (0 ≤ Lib.indexByte l c) = M.has l c := by
  rw [indexByte_one]; exact M.contains_byte l c

set_option maxRecDepth 100000 in
set_option maxHeartbeats 1000000 in
theorem dots_any (s : ByteArray) (w : World) :
    Calls Tryz.prog 87 #[.string s] w fun e w' => e = .returned (.bool (M.dots s.data.toList)) ∧ w = w' := by
  have he := ByteArray.toList_eq s
  have HE := Lib.hid he; clear he
  go_enter Tryz.func87, Tryz.ntmps87
  go_wp2
  all_goals go_ret
  · rename_i h
    rw [HE.out] at h
    exact ⟨by simp [M.dots, h], rfl⟩
  · exact ⟨by simp [M.dots, HE.out], rfl⟩

theorem contains_yes {s : ByteArray} {c : UInt8} (h : c ∈ s.data.toList) (w : World) :
    Calls Tryz.prog 34 #[.string s, .string ⟨#[c]⟩] w fun e w' => e = .returned (.bool true) ∧ w' = w := by
  have := Tryz.strings_Contains_one s c w
  rwa [contains_has, M.has_yes h] at this
theorem contains_no {s : ByteArray} {c : UInt8} (h : c ∉ s.data.toList) (w : World) :
    Calls Tryz.prog 34 #[.string s, .string ⟨#[c]⟩] w fun e w' => e = .returned (.bool false) ∧ w' = w := by
  have := Tryz.strings_Contains_one s c w
  rwa [contains_has, M.has_no h] at this
theorem dots_yes {s : ByteArray} (h : M.dots s.data.toList = true) (w : World) :
    Calls Tryz.prog 87 #[.string s] w fun e w' => e = .returned (.bool true) ∧ w = w' := by
  have := dots_any s w
  rwa [h] at this
theorem dots_no {s : ByteArray} (h : M.dots s.data.toList = false) (w : World) :
    Calls Tryz.prog 87 #[.string s] w fun e w' => e = .returned (.bool false) ∧ w = w' := by
  have := dots_any s w
  rwa [h] at this
theorem bad_dots {l : List UInt8} (h : M.dots l = true) : M.bad l := by
  unfold M.dots at h
  simp only [Bool.or_eq_true, beq_iff_eq] at h
  rcases h with h | h
  · exact .inr (.inl h)
  · exact .inr (.inr (.inl h))
theorem not_bad {l : List UInt8} (h0 : ¬ l = []) (h1 : M.dots l = false) (h3 : (47 : UInt8) ∉ l) (h4 : (0 : UInt8) ∉ l) : ¬ M.bad l := by
  unfold M.dots at h1
  simp only [Bool.or_eq_false_iff, beq_eq_false_iff_ne] at h1
  unfold M.bad
  simp [h0, h1, h3, h4]

set_option maxRecDepth 100000 in
set_option maxHeartbeats 1000000 in
theorem check_any (s : ByteArray) (w : World) :
    Calls Tryz.prog 56 #[.string s] w fun e w' => e = .returned (.int .i64 (M.check s.data.toList)) ∧ w = w' := by
  have HE := Lib.hid (ByteArray.toList_eq s)
  have HZ := Lib.hid (Lib.size_eq s)
  by_cases h0 : s.toList = []
  · go_enter Tryz.func56, Tryz.ntmps56
    go_wp2
    go_ret
    exact ⟨by rw [M.check, if_pos (.inl (by rw [← HE.out, h0]))]; rfl, rfl⟩
  have h0' := not_empty h0
  have H0 : Hid (¬ s.data.toList = []) := Lib.hid (by rw [← HE.out]; exact h0)
  by_cases h1 : M.dots s.data.toList = true
  · have cd := fun w => dots_yes h1 w
    have H1 := Lib.hid (bad_dots h1)
    clear h1
    go_enter Tryz.func56, Tryz.ntmps56
    go_wp2_with (go_at_call 87; refine (cd _).mono ?_; rintro e w1 ⟨rfl, rfl⟩)
    go_ret
    exact ⟨by rw [M.check, if_pos H1.out]; rfl, rfl⟩
  have h1' : M.dots s.data.toList = false := by simpa using h1
  have cd := fun w => dots_no h1' w
  have H1 := Lib.hid h1'
  clear h1 h1'
  by_cases h3 : (47 : UInt8) ∈ s.data.toList
  · have H3 := Lib.hid h3
    have c47 := fun w => contains_yes h3 w
    clear h3
    go_enter Tryz.func56, Tryz.ntmps56
    go_wp2_with (first | (go_at_call 87; refine (cd _).mono ?_; rintro e w1 ⟨rfl, rfl⟩) | (go_at_call 34; refine (c47 _).mono ?_; rintro e w1 ⟨rfl, rfl⟩))
    go_ret
    exact ⟨by rw [M.check, if_pos (.inr (.inr (.inr (.inl H3.out))))]; rfl, rfl⟩
  have H3 := Lib.hid h3
  have c47 := fun w => contains_no h3 w
  clear h3
  by_cases h4 : (0 : UInt8) ∈ s.data.toList
  · have H4 := Lib.hid h4
    have c0 := fun w => contains_yes h4 w
    clear h4
    go_enter Tryz.func56, Tryz.ntmps56
    go_wp2_with (first | (go_at_call 87; refine (cd _).mono ?_; rintro e w1 ⟨rfl, rfl⟩) | (go_at_call 34; (first | (refine (c47 _).mono ?_; clear c47) | refine (c0 _).mono ?_); rintro e w1 ⟨rfl, rfl⟩))
    go_ret
    exact ⟨by rw [M.check, if_pos (.inr (.inr (.inr (.inr H4.out))))]; rfl, rfl⟩
  have H4 := Lib.hid h4
  have c0 := fun w => contains_no h4 w
  clear h4
  have HB := Lib.hid (not_bad H0.out H1.out H3.out H4.out)
  by_cases h5 : (255 : Int) < s.size
  · go_enter Tryz.func56, Tryz.ntmps56
    go_wp2_with (first | (go_at_call 87; refine (cd _).mono ?_; rintro e w1 ⟨rfl, rfl⟩) | (go_at_call 34; (first | (refine (c47 _).mono ?_; clear c47) | refine (c0 _).mono ?_); rintro e w1 ⟨rfl, rfl⟩))
    go_ret
    exact ⟨by rw [M.check, if_neg HB.out, if_pos (by rw [← HZ.out]; omega)]; rfl, rfl⟩
  · go_enter Tryz.func56, Tryz.ntmps56
    go_wp2_with (first | (go_at_call 87; refine (cd _).mono ?_; rintro e w1 ⟨rfl, rfl⟩) | (go_at_call 34; (first | (refine (c47 _).mono ?_; clear c47) | refine (c0 _).mono ?_); rintro e w1 ⟨rfl, rfl⟩))
    go_ret
    exact ⟨by rw [M.check, if_neg HB.out, if_neg (by rw [← HZ.out]; omega)]; rfl, rfl⟩

end Go.Proofs.YtenopnfclbegbaaGreat.V
