/-
  What strings.Cut does at a slash, and what name.Check, Path, end, Slash and Last do.
-/
import Derived.Test.YtolobnokpmbajaaDoorRefa
import Derived.Test.YtolobnokpmbajaaDoorShelf
import Derived.Laws.Strings3
import Derived.Shelf.RegionOpen
namespace Go.Proofs.YtolobnokpmbajaaDoor.V
open Go.RowKit Go.Shelf

theorem indexByte_one (c : UInt8) : ∀ l : List UInt8, Lib.indexByte l c = Lib.index l [c]
  | [] => rfl
  | b :: l => by
    have ih := indexByte_one c l
    rw [Lib.indexByte, Lib.index, ih]
    by_cases hb : b = c
    · subst hb; simp
    · have e : ([c] : List UInt8).isPrefixOf (b :: l) = false := by simp [List.isPrefixOf]; exact fun e => hb e.symm
      rw [e]; simp [hb]
theorem contains_has (l : List UInt8) (c : UInt8) : decide (0 ≤ Lib.indexByte l c) = M.has l c := by
  rw [indexByte_one]; exact M.contains_byte l c

/-- what Cut leaves of a string at the slash -/
theorem cut1_any (s : ByteArray) (hs : s.size ≤ 5000) (w : World) :
    Calls Tryd.prog 77 #[.string s, .string ⟨#[47]⟩] w fun e w' => e = .returned (.tuple #[.string ⟨(Lib.cut s.data.toList [47]).1.toArray⟩, .string ⟨(Lib.cut s.data.toList [47]).2.1.toArray⟩, .bool (Lib.cut s.data.toList [47]).2.2]) ∧ ∃ n, w' = w.drewN n := by
  have cI := fun w => Tryd.stringslite_Index_one s 47 w
  rw [indexByte_one] at cI
  rcases Lib.indexB_cases s ⟨#[47]⟩ with hix | ⟨i, hix, hroom⟩
  · obtain ⟨e1, e2, e3⟩ := Lib.cutB_miss s ⟨#[47]⟩ hix
    rw [show Lib.cut s.data.toList [47] = Lib.cut s.data.toList (⟨#[47]⟩ : ByteArray).data.toList from rfl, e1, e2, e3]
    rw [show Lib.index s.data.toList [47] = _ from hix] at cI
    clear e1 e2 e3 hix
    go_enter Tryd.func77, Tryd.ntmps77
    go_wp2_with (go_at_call 87; refine (cI _).mono ?_; rintro e w1 ⟨rfl, rfl⟩)
    go_ret3
    exact ⟨rfl, 0, rfl⟩
  · obtain ⟨e1, e2, e3⟩ := Lib.cutB_hit s ⟨#[47]⟩ i hix
    rw [show Lib.cut s.data.toList [47] = Lib.cut s.data.toList (⟨#[47]⟩ : ByteArray).data.toList from rfl, e1, e2, e3]
    rw [show Lib.index s.data.toList [47] = _ from hix] at cI
    have hr : i + 1 ≤ s.size := hroom
    have c1 : (0 : Int) ≤ ↑i := by omega
    have c2 : (↑i : Int) ≤ ↑s.size := by omega
    have c3 : (0 : Int) ≤ ↑i + 1 := by omega
    have c4 : (↑i + 1 : Int) ≤ ↑s.size := by omega
    have mixed : Tryd.prog.follows Departure.mixedOrders = true := by kernel_rfl
    clear e1 e2 e3 hix hroom
    go_enter Tryd.func77, Tryd.ntmps77
    go_wp2_with (go_at_call 87; refine (cI _).mono ?_; rintro e w1 ⟨rfl, rfl⟩)
    go_region_o
    go_wp2
    go_ret3
    exact ⟨rfl, 1, rfl⟩

theorem cut_any {s : ByteArray} {p r : List UInt8} {b : Bool} (hs : s.size ≤ 5000) (h : Lib.cut s.data.toList [47] = (p, r, b)) (w : World) :
    Calls Tryd.prog 59 #[.string s, .string ⟨#[47]⟩] w fun e w' => e = .returned (.tuple #[.string ⟨p.toArray⟩, .string ⟨r.toArray⟩, .bool b]) ∧ ∃ n, w' = w.drewN n := by
  have cI := fun w => cut1_any s hs w
  rw [h] at cI
  clear h
  go_enter Tryd.func59, Tryd.ntmps59
  go_wp2_with (go_at_call 77; refine (cI _).mono ?_; rintro e w1 ⟨rfl, n, rfl⟩)
  go_ret3
  exact ⟨rfl, n, rfl⟩

theorem contains_yes {s : ByteArray} {c : UInt8} (h : c ∈ s.data.toList) (w : World) :
    Calls Tryd.prog 66 #[.string s, .string ⟨#[c]⟩] w fun e w' => e = .returned (.bool true) ∧ w' = w := by
  have := Tryd.strings_Contains_one s c w
  rwa [contains_has, M.has_yes h] at this
theorem contains_no {s : ByteArray} {c : UInt8} (h : c ∉ s.data.toList) (w : World) :
    Calls Tryd.prog 66 #[.string s, .string ⟨#[c]⟩] w fun e w' => e = .returned (.bool false) ∧ w' = w := by
  have := Tryd.strings_Contains_one s c w
  rwa [contains_has, M.has_no h] at this
theorem dots_yes {s : ByteArray} (h : M.dots s.data.toList = true) (w : World) :
    Calls Tryd.prog 65 #[.string s] w fun e w' => e = .returned (.bool true) ∧ w = w' := by
  have := dots_any s w
  rwa [h] at this
theorem dots_no {s : ByteArray} (h : M.dots s.data.toList = false) (w : World) :
    Calls Tryd.prog 65 #[.string s] w fun e w' => e = .returned (.bool false) ∧ w = w' := by
  have := dots_any s w
  rwa [h] at this
theorem bad_dots {l : List UInt8} (h : M.dots l = true) : M.bad l := by
  unfold M.dots at h
  simp only [Bool.or_eq_true, beq_iff_eq] at h
  rcases h with h | h
  · exact .inr (.inl h)
  · exact .inr (.inr (.inl h))
theorem not_bad {l : List UInt8} (h0 : ¬ l = []) (h1 : M.dots l = false) (h3 : (47 : UInt8) ∉ l) (h4 : (0 : UInt8) ∉ l) : ¬ M.bad l := by
  unfold M.dots at h1
  simp only [Bool.or_eq_false_iff, beq_eq_false_iff_ne] at h1
  unfold M.bad
  simp [h0, h1, h3, h4]

set_option maxHeartbeats 1000000 in
theorem check_any (s : ByteArray) (w : World) :
    Calls Tryd.prog 46 #[.string s] w fun e w' => e = .returned (.int .i64 (M.check s.data.toList)) ∧ w = w' := by
  have HE := Lib.hid (ByteArray.toList_eq s)
  have HZ := Lib.hid (Lib.size_eq s)
  by_cases h0 : s.toList = []
  · go_enter Tryd.func46, Tryd.ntmps46
    go_wp2
    go_ret
    exact ⟨by rw [M.check, if_pos (.inl (by rw [← HE.out, h0]))]; rfl, rfl⟩
  have h0' := not_empty h0
  have H0 : Hid (¬ s.data.toList = []) := Lib.hid (by rw [← HE.out]; exact h0)
  by_cases h1 : M.dots s.data.toList = true
  · have cd := fun w => dots_yes h1 w
    have H1 := Lib.hid (bad_dots h1)
    clear h1
    go_enter Tryd.func46, Tryd.ntmps46
    go_wp2_with (go_at_call 65; refine (cd _).mono ?_; rintro e w1 ⟨rfl, rfl⟩)
    go_ret
    exact ⟨by rw [M.check, if_pos H1.out]; rfl, rfl⟩
  have h1' : M.dots s.data.toList = false := by simpa using h1
  have cd := fun w => dots_no h1' w
  have H1 := Lib.hid h1'
  clear h1 h1'
  by_cases h3 : (47 : UInt8) ∈ s.data.toList
  · have H3 := Lib.hid h3
    have c47 := fun w => contains_yes h3 w
    clear h3
    go_enter Tryd.func46, Tryd.ntmps46
    go_wp2_with (first | (go_at_call 65; refine (cd _).mono ?_; rintro e w1 ⟨rfl, rfl⟩) | (go_at_call 66; refine (c47 _).mono ?_; rintro e w1 ⟨rfl, rfl⟩))
    go_ret
    exact ⟨by rw [M.check, if_pos (.inr (.inr (.inr (.inl H3.out))))]; rfl, rfl⟩
  have H3 := Lib.hid h3
  have c47 := fun w => contains_no h3 w
  clear h3
  by_cases h4 : (0 : UInt8) ∈ s.data.toList
  · have H4 := Lib.hid h4
    have c0 := fun w => contains_yes h4 w
    clear h4
    go_enter Tryd.func46, Tryd.ntmps46
    go_wp2_with (first | (go_at_call 65; refine (cd _).mono ?_; rintro e w1 ⟨rfl, rfl⟩) | (go_at_call 66; (first | (refine (c47 _).mono ?_; clear c47) | refine (c0 _).mono ?_); rintro e w1 ⟨rfl, rfl⟩))
    go_ret
    exact ⟨by rw [M.check, if_pos (.inr (.inr (.inr (.inr H4.out))))]; rfl, rfl⟩
  have H4 := Lib.hid h4
  have c0 := fun w => contains_no h4 w
  clear h4
  have HB := Lib.hid (not_bad H0.out H1.out H3.out H4.out)
  by_cases h5 : (255 : Int) < s.size
  · go_enter Tryd.func46, Tryd.ntmps46
    go_wp2_with (first | (go_at_call 65; refine (cd _).mono ?_; rintro e w1 ⟨rfl, rfl⟩) | (go_at_call 66; (first | (refine (c47 _).mono ?_; clear c47) | refine (c0 _).mono ?_); rintro e w1 ⟨rfl, rfl⟩))
    go_ret
    exact ⟨by rw [M.check, if_neg HB.out, if_pos (by rw [← HZ.out]; omega)]; rfl, rfl⟩
  · go_enter Tryd.func46, Tryd.ntmps46
    go_wp2_with (first | (go_at_call 65; refine (cd _).mono ?_; rintro e w1 ⟨rfl, rfl⟩) | (go_at_call 66; (first | (refine (c47 _).mono ?_; clear c47) | refine (c0 _).mono ?_); rintro e w1 ⟨rfl, rfl⟩))
    go_ret
    exact ⟨by rw [M.check, if_neg HB.out, if_neg (by rw [← HZ.out]; omega)]; rfl, rfl⟩

theorem prefix_head (l : List UInt8) : Lib.hasPrefix l [47] = decide (l.head? = some 47) := by
  cases l with
  | nil => rfl
  | cons b l =>
    by_cases hb : b = 47
    · subst hb; rfl
    · have : (47 == b) = false := by simpa using fun e => hb e.symm
      simp [Lib.hasPrefix, List.isPrefixOf, hb, this]

end Go.Proofs.YtolobnokpmbajaaDoor.V
