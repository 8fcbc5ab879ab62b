/-
  What strings.Cut does at a slash, and what name.Check, Path, end, Slash and Last do.
-/
import Derived.Test.YtlceaecibjbeaaaGreatRefa
import Derived.Test.YtlceaecibjbeaaaGreatShelf
import Derived.Laws.Strings3
import Derived.Shelf.RegionOpen
namespace Go.Proofs.YtlceaecibjbeaaaGreat.V
open Go.RowKit Go.Shelf

theorem indexByte_one (c : UInt8) : ∀ l : List UInt8, Lib.indexByte l c = Lib.index l [c]
  | [] => rfl
  | b :: l => by
    have ih := indexByte_one c l
    rw [Lib.indexByte, Lib.index, ih]
    by_cases hb : b = c
    · subst hb; simp
    · have e : ([c] : List UInt8).isPrefixOf (b :: l) = false := by simp [List.isPrefixOf]; exact fun e => hb e.symm
      rw [e]; simp [hb]
theorem contains_has (l : List UInt8) (c : UInt8) : decide (0 ≤ Lib.indexByte l c) = M.has l c := by
  rw [indexByte_one]; exact M.contains_byte l c

/-- what Cut leaves of a string at the slash -/
theorem cut1_any (s : ByteArray) (hs : s.size ≤ 5000) (w : World) :
    Calls Tryz.prog 110 #[.string s, .string ⟨#[47]⟩] w fun e w' => e = .returned (.tuple #[.string ⟨(Lib.cut s.data.toList [47]).1.toArray⟩, .string ⟨(Lib.cut s.data.toList [47]).2.1.toArray⟩, .bool (Lib.cut s.data.toList [47]).2.2]) ∧ ∃ n, w' = w.drewN n := by
  have cI := fun w => Tryz.stringslite_Index_one s 47 w
  rw [indexByte_one] at cI
  rcases Lib.indexB_cases s ⟨#[47]⟩ with hix | ⟨i, hix, hroom⟩
  · obtain ⟨e1, e2, e3⟩ := Lib.cutB_miss s ⟨#[47]⟩ hix
    rw [show Lib.cut s.data.toList [47] = Lib.cut s.data.toList (⟨#[47]⟩ : ByteArray).data.toList from rfl, e1, e2, e3]
    rw [show Lib.index s.data.toList [47] = _ from hix] at cI
    clear e1 e2 e3 hix
    go_enter Tryz.func110, Tryz.ntmps110
    go_wp2_with (go_at_call 108; refine (cI _).mono ?_; rintro e w1 ⟨rfl, rfl⟩)
    go_ret3
    exact ⟨rfl, 0, rfl⟩
  · obtain ⟨e1, e2, e3⟩ := Lib.cutB_hit s ⟨#[47]⟩ i hix
    rw [show Lib.cut s.data.toList [47] = Lib.cut s.data.toList (⟨#[47]⟩ : ByteArray).data.toList from rfl, e1, e2, e3]
    rw [show Lib.index s.data.toList [47] = _ from hix] at cI
    have hr : i + 1 ≤ s.size := hroom
    have c1 : (0 : Int) ≤ ↑i := by omega
    have c2 : (↑i : Int) ≤ ↑s.size := by omega
    have c3 : (0 : Int) ≤ ↑i + 1 := by omega
    have c4 : (↑i + 1 : Int) ≤ ↑s.size := by omega
    have mixed : Tryz.prog.follows Departure.mixedOrders = true := by kernel_rfl
    clear e1 e2 e3 hix hroom
    go_enter Tryz.func110, Tryz.ntmps110
    go_wp2_with (go_at_call 108; refine (cI _).mono ?_; rintro e w1 ⟨rfl, rfl⟩)
    go_region_o
    go_wp2
    go_ret3
    exact ⟨rfl, 1, rfl⟩

theorem cut_any {s : ByteArray} {p r : List UInt8} {b : Bool} (hs : s.size ≤ 5000) (h : Lib.cut s.data.toList [47] = (p, r, b)) (w : World) :
    Calls Tryz.prog 95 #[.string s, .string ⟨#[47]⟩] w fun e w' => e = .returned (.tuple #[.string ⟨p.toArray⟩, .string ⟨r.toArray⟩, .bool b]) ∧ ∃ n, w' = w.drewN n := by
  have cI := fun w => cut1_any s hs w
  rw [h] at cI
  clear h
  go_enter Tryz.func95, Tryz.ntmps95
  go_wp2_with (go_at_call 110; refine (cI _).mono ?_; rintro e w1 ⟨rfl, n, rfl⟩)
  go_ret3
  exact ⟨rfl, n, rfl⟩

theorem contains_yes {s : ByteArray} {c : UInt8} (h : c ∈ s.data.toList) (w : World) :
    Calls Tryz.prog 59 #[.string s, .string ⟨#[c]⟩] w fun e w' => e = .returned (.bool true) ∧ w' = w := by
  have := Tryz.strings_Contains_one s c w
  rwa [contains_has, M.has_yes h] at this
theorem contains_no {s : ByteArray} {c : UInt8} (h : c ∉ s.data.toList) (w : World) :
    Calls Tryz.prog 59 #[.string s, .string ⟨#[c]⟩] w fun e w' => e = .returned (.bool false) ∧ w' = w := by
  have := Tryz.strings_Contains_one s c w
  rwa [contains_has, M.has_no h] at this
theorem dots_yes {s : ByteArray} (h : M.dots s.data.toList = true) (w : World) :
    Calls Tryz.prog 92 #[.string s] w fun e w' => e = .returned (.bool true) ∧ w = w' := by
  have := dots_any s w
  rwa [h] at this
theorem dots_no {s : ByteArray} (h : M.dots s.data.toList = false) (w : World) :
    Calls Tryz.prog 92 #[.string s] w fun e w' => e = .returned (.bool false) ∧ w = w' := by
  have := dots_any s w
  rwa [h] at this
theorem bad_dots {l : List UInt8} (h : M.dots l = true) : M.bad l := by
  unfold M.dots at h
  simp only [Bool.or_eq_true, beq_iff_eq] at h
  rcases h with h | h
  · exact .inr (.inl h)
  · exact .inr (.inr (.inl h))
theorem not_bad {l : List UInt8} (h0 : ¬ l = []) (h1 : M.dots l = false) (h3 : (47 : UInt8) ∉ l) (h4 : (0 : UInt8) ∉ l) : ¬ M.bad l := by
  unfold M.dots at h1
  simp only [Bool.or_eq_false_iff, beq_eq_false_iff_ne] at h1
  unfold M.bad
  simp [h0, h1, h3, h4]

theorem prefix_head (l : List UInt8) : Lib.hasPrefix l [47] = decide (l.head? = some 47) := by
  cases l with
  | nil => rfl
  | cons b l =>
    by_cases hb : b = 47
    · subst hb; rfl
    · have : (47 == b) = false := by simpa using fun e => hb e.symm
      simp [Lib.hasPrefix, List.isPrefixOf, hb, this]

set_option maxHeartbeats 1000000 in
theorem path_any (s : ByteArray) (w : World) :
    Calls Tryz.prog 20 #[.string s] w fun e w' => e = .returned (.int .i64 (M.path s.data.toList)) ∧ w = w' := by
  have HE := Lib.hid (ByteArray.toList_eq s)
  have HZ := Lib.hid (Lib.size_eq s)
  by_cases h0 : s.toList = []
  · go_enter Tryz.func20, Tryz.ntmps20
    go_wp2
    go_ret
    exact ⟨by rw [M.path, if_pos (by rw [← HE.out, h0])]; rfl, rfl⟩
  have h0' := not_empty h0
  have H0 : Hid (¬ s.data.toList = []) := Lib.hid (by rw [← HE.out]; exact h0)
  have cp := fun w => Tryz.strings_HasPrefix s ⟨#[47]⟩ w
  rw [show (⟨#[47]⟩ : ByteArray).data.toList = [47] from rfl, prefix_head] at cp
  by_cases h1 : s.data.toList.head? = some 47
  · rw [decide_eq_true h1] at cp
    have H1 := Lib.hid h1
    clear h1
    by_cases h4 : (0 : UInt8) ∈ s.data.toList
    · have H4 := Lib.hid h4
      have c0 := fun w => contains_yes h4 w
      clear h4
      go_enter Tryz.func20, Tryz.ntmps20
      go_wp2_with (first | (go_at_call 58; refine (cp _).mono ?_; rintro e w1 ⟨rfl, rfl⟩) | (go_at_call 59; refine (c0 _).mono ?_; rintro e w1 ⟨rfl, rfl⟩))
      go_ret
      exact ⟨by rw [M.path, if_neg H0.out, if_pos (.inr H4.out)]; rfl, rfl⟩
    have H4 := Lib.hid h4
    have c0 := fun w => contains_no h4 w
    clear h4
    have HB : Hid (¬ M.wrongPath s.data.toList) := Lib.hid (by
      unfold M.wrongPath
      simp [H1.out, H4.out])
    by_cases h5 : (4096 : Int) < s.size
    · go_enter Tryz.func20, Tryz.ntmps20
      go_wp2_with (first | (go_at_call 58; refine (cp _).mono ?_; rintro e w1 ⟨rfl, rfl⟩) | (go_at_call 59; refine (c0 _).mono ?_; rintro e w1 ⟨rfl, rfl⟩))
      go_ret
      exact ⟨by rw [M.path, if_neg H0.out, if_neg HB.out, if_pos (by rw [← HZ.out]; omega)]; rfl, rfl⟩
    · go_enter Tryz.func20, Tryz.ntmps20
      go_wp2_with (first | (go_at_call 58; refine (cp _).mono ?_; rintro e w1 ⟨rfl, rfl⟩) | (go_at_call 59; refine (c0 _).mono ?_; rintro e w1 ⟨rfl, rfl⟩))
      go_ret
      exact ⟨by rw [M.path, if_neg H0.out, if_neg HB.out, if_neg (by rw [← HZ.out]; omega)]; rfl, rfl⟩
  · rw [decide_eq_false h1] at cp
    have HB : Hid (M.wrongPath s.data.toList) := Lib.hid (.inl h1)
    clear h1
    go_enter Tryz.func20, Tryz.ntmps20
    go_wp2_with (go_at_call 58; refine (cp _).mono ?_; rintro e w1 ⟨rfl, rfl⟩)
    go_ret
    exact ⟨by rw [M.path, if_neg H0.out, if_pos HB.out]; rfl, rfl⟩

theorem end_any (s : ByteArray) (hs : s.size ≤ 5000) (w : World) :
    Calls Tryz.prog 91 #[.string s] w fun e w' => e = .returned (.string ⟨(M.lastp s.data.toList).toArray⟩) ∧ w = w' := by
  obtain ⟨k, hk, hle, hd⟩ := M.last_slash s
  have cl := fun w => Tryz.strings_LastIndex_one s ⟨#[47]⟩ rfl (by omega) w
  rw [show Lib.lastIndexByte s (((⟨#[47]⟩ : ByteArray)[0]'(by decide)).toNat : Int) = (k : Int) - 1 from by
    have : Lib.lastIndexByte s 47 = (k : Int) - 1 := by omega
    exact this] at cl
  rw [hd, ← Lib.extract_from]
  clear hd hk
  have e1 : (k : Int) - 1 + 1 = k := by omega
  have c1 : (k : Int) ≤ s.size := by omega
  go_enter Tryz.func91, Tryz.ntmps91
  go_wp2_with (go_at_call 109; refine (cl _).mono ?_; rintro e w1 ⟨rfl, rfl⟩)
  go_ret
  exact ⟨by simp, rfl⟩

theorem slash_any (s : ByteArray) (hs : s.size ≤ 5000) (w : World) :
    Calls Tryz.prog 60 #[.string s] w fun e w' => e = .returned (.bool (M.slash s.data.toList)) ∧ w = w' := by
  have ce := fun w => end_any s hs w
  unfold M.slash
  generalize M.lastp s.data.toList = p at ce
  have cd := fun w => dots_any ⟨p.toArray⟩ w
  rw [show (⟨p.toArray⟩ : ByteArray).data.toList = p from rfl] at cd
  generalize M.dots p = d at cd
  go_enter Tryz.func60, Tryz.ntmps60
  go_wp2_with (first | (go_at_call 91; refine (ce _).mono ?_; rintro e w1 ⟨rfl, rfl⟩) | (go_at_call 92; refine (cd _).mono ?_; rintro e w1 ⟨rfl, rfl⟩))
  · rename_i h
    go_ret
    exact ⟨by rw [h]; rfl, rfl⟩
  · go_ret
    exact ⟨by cases p <;> rfl, rfl⟩

end Go.Proofs.YtlceaecibjbeaaaGreat.V
