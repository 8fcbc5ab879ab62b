/-
  What track's absolute, Below and Inside do, and the reference's Cut, Below and Inside.
-/
import Derived.Test.YtfdjgbonjenldaaDoorCut
import Derived.Test.YtfdjgbonjenldaaDoorTmath
import Derived.Laws.Concat
namespace Go.Proofs.YtfdjgbonjenldaaDoor
open Go.RowKit Go.Shelf

theorem size_l (l : List UInt8) : (⟨l.toArray⟩ : ByteArray).size = l.length := by rw [Lib.size_eq]
theorem add_ll (l m : List UInt8) (h : l.length + m.length ≤ 100000) (w : World) : (Op.stringOp .add ⟨l.toArray⟩ ⟨m.toArray⟩).run Tryd.prog w = .ok (.string ⟨(l ++ m).toArray⟩) w := by
  rw [run_string_add_sum w _ _ (by rw [size_l, size_l]; omega), ByteArray.mk_append_mk]
theorem bytes_eq (s : ByteArray) : ∃ l : List UInt8, s = ⟨l.toArray⟩ := ⟨s.data.toList, by rw [Array.toArray_toList]⟩

theorem absolute_l (l : List UInt8) (w : World) : Calls Tryd.prog 19 #[.string ⟨l.toArray⟩] w fun e w' => e = .returned (.bool (M.abs l)) ∧ w' = w := by
  have cp := fun w => Tryd.strings_HasPrefix ⟨l.toArray⟩ ⟨#[47]⟩ w
  rw [show (⟨#[47]⟩ : ByteArray).data.toList = [47] from rfl, show (⟨l.toArray⟩ : ByteArray).data.toList = l from rfl, prefix_head] at cp
  rw [show decide (l.head? = some 47) = M.abs l from rfl] at cp
  generalize M.abs l = b at cp ⊢
  go_enter Tryd.func19, Tryd.ntmps19
  go_wp2_with (go_at_call 26; refine (cp _).mono ?_; rintro e w1 ⟨rfl, rfl⟩)
  go_ret
  exact ⟨rfl, rfl⟩

theorem below_l (s n : List UInt8) (hs : s.length ≤ 5000) (hn : n.length ≤ 5000) (w : World) :
    Calls Tryd.prog 17 #[.string ⟨s.toArray⟩, .string ⟨n.toArray⟩] w fun e w' => e = .returned (.string ⟨(M.below s n).toArray⟩) ∧ w' = w := by
  have ct := fun w => Tryd.strings_TrimRight_one ⟨s.toArray⟩ 47 (by decide) w (by rw [size_l]; omega)
  have hle := M.trim_le s
  unfold M.below
  rw [show (⟨s.toArray⟩ : ByteArray).data.toList = s from rfl] at ct
  generalize Lib.trimRightB s 47 = t at ct hle ⊢
  have h1 := add_ll t [47] (by simp; omega)
  have h2 := add_ll (t ++ [47]) n (by simp; omega)
  rw [List.append_assoc] at h2
  go_enter Tryd.func17, Tryd.ntmps17
  go_wp2_with (go_at_call 27; refine (ct _).mono ?_; rintro e w1 ⟨rfl, rfl⟩)
  go_ret
  exact ⟨rfl, rfl⟩

theorem inside_l (base s : List UInt8) (hb : base.length ≤ 5000) (w : World) :
    Calls Tryd.prog 15 #[.string ⟨base.toArray⟩, .string ⟨s.toArray⟩] w fun e w' => e = .returned (.bool (M.inside base s)) ∧ w' = w := by
  have cb := fun w => below_l base [] hb (by simp) w
  have cp := fun w => Tryd.strings_HasPrefix ⟨s.toArray⟩ ⟨(M.below base []).toArray⟩ w
  rw [show (⟨s.toArray⟩ : ByteArray).data.toList = s from rfl, show (⟨(M.below base []).toArray⟩ : ByteArray).data.toList = M.below base [] from rfl] at cp
  unfold M.inside
  generalize M.below base [] = t at cb cp ⊢
  generalize Lib.hasPrefix s t = h at cp ⊢
  by_cases he : s = base
  · subst he
    rw [decide_eq_true rfl]
    clear cb cp
    go_enter Tryd.func15, Tryd.ntmps15
    go_wp2
    go_ret
    exact ⟨rfl, rfl⟩
  · rw [decide_eq_false he]
    have he' : (s == base) = false := by simpa using he
    go_enter Tryd.func15, Tryd.ntmps15
    go_wp2_with (first
      | (go_at_call 17; refine (cb _).mono ?_; rintro e w1 ⟨rfl, rfl⟩)
      | (go_at_call 26; refine (cp _).mono ?_; rintro e w1 ⟨rfl, rfl⟩))
    go_ret
    exact ⟨rfl, rfl⟩

theorem mk_data (t : ByteArray) : (⟨t.data.toList.toArray⟩ : ByteArray) = t := by rw [Array.toArray_toList]
set_option maxHeartbeats 1000000 in
theorem refCut_any (s : ByteArray) (hs : s.size ≤ 5000) (w : World) :
    Calls Tryd.prog 21 #[.string s] w fun e w' => e = .returned (.string ⟨(Lib.trimRightB s.data.toList 47).toArray⟩) ∧ w' = w := by
  obtain ⟨L, HL⟩ : ∃ L, Hid (Lib.trimRightB s.data.toList 47 = L) := ⟨_, Lib.hid rfl⟩
  rw [HL.out]
  go_enter Tryd.func21, Tryd.ntmps21
  go_wp2
  go_loop [0] (fun v => ∃ t : ByteArray, v = .string t ∧ t.size ≤ 5000 ∧ Lib.trimRightB t.data.toList 47 = Lib.trimRightB s.data.toList 47) (fun v => strSize v)
  case atStart => exact ⟨s, rfl, hs, rfl⟩
  case round =>
    obtain ⟨t, rfl, hts, htr⟩ := hrel
    have HTR := Lib.hid htr; clear htr
    by_cases h0 : t.size = 0
    · have HE := Lib.hid (trim_empty h0)
      have hz : ¬ (0 : Int) < t.size := by omega
      go_wp2
      go_ret
      exact ⟨by rw [← HL.out, ← HTR.out, HE.out, mk_data]; rfl, rfl⟩
    · obtain ⟨m, hm⟩ : ∃ m, t.size = m + 1 := ⟨t.size - 1, by omega⟩
      have hmi : (t.size : Int) - 1 = m := by omega
      have hmt : m < t.size := by omega
      have hz : (0 : Int) < t.size := by omega
      by_cases hc : (t[m]'hmt).toNat = 47
      · have HS := Lib.hid (trim_step hm hc)
        have HZ : Hid ((t.extract 0 m).size = m) := Lib.hid (by simp; omega)
        have HM := Lib.hid hm
        clear hm
        go_wp2
        go_round
        case rel => exact ⟨t.extract 0 m, by simp, by rw [HZ.out]; omega, by rw [← HS.out]; exact HTR.out⟩
        case measure => simp [strSize]; omega
      · have HE := Lib.hid (trim_stop hm hc)
        go_wp2
        go_ret
        exact ⟨by rw [← HL.out, ← HTR.out, HE.out, mk_data]; rfl, rfl⟩
theorem refCut_l (s : List UInt8) (hs : s.length ≤ 5000) (w : World) :
    Calls Tryd.prog 21 #[.string ⟨s.toArray⟩] w fun e w' => e = .returned (.string ⟨(Lib.trimRightB s 47).toArray⟩) ∧ w' = w :=
  refCut_any ⟨s.toArray⟩ (by rw [size_l]; exact hs) w

theorem refBelow_l (s n : List UInt8) (hs : s.length ≤ 5000) (hn : n.length ≤ 5000) (w : World) :
    Calls Tryd.prog 18 #[.string ⟨s.toArray⟩, .string ⟨n.toArray⟩] w fun e w' => e = .returned (.string ⟨(M.below s n).toArray⟩) ∧ w' = w := by
  have ct := fun w => refCut_l s hs w
  have hle := M.trim_le s
  unfold M.below
  generalize Lib.trimRightB s 47 = t at ct hle ⊢
  have h1 := add_ll t [47] (by simp; omega)
  have h2 := add_ll (t ++ [47]) n (by simp; omega)
  rw [List.append_assoc] at h2
  go_enter Tryd.func18, Tryd.ntmps18
  go_wp2_with (go_at_call 21; refine (ct _).mono ?_; rintro e w1 ⟨rfl, rfl⟩)
  go_ret
  exact ⟨rfl, rfl⟩

theorem refInside_l (base s : List UInt8) (hb : base.length ≤ 5000) (w : World) :
    Calls Tryd.prog 16 #[.string ⟨base.toArray⟩, .string ⟨s.toArray⟩] w fun e w' => e = .returned (.bool (M.inside base s)) ∧ w' = w := by
  have ct := fun w => refCut_l base hb w
  have hle := M.trim_le base
  unfold M.inside M.below
  generalize Lib.trimRightB base 47 = t at ct hle ⊢
  have h1 := add_ll t [47] (by simp; omega)
  have hlt : (t ++ [47]).length ≤ 5001 := by simp; omega
  clear hle
  generalize t ++ [47] = u at h1 hlt ⊢
  by_cases he : s = base
  · subst he
    rw [decide_eq_true rfl]
    go_enter Tryd.func16, Tryd.ntmps16
    go_wp2_with (go_at_call 21; refine (ct _).mono ?_; rintro e w1 ⟨rfl, rfl⟩)
    go_ret
    exact ⟨rfl, rfl⟩
  · rw [decide_eq_false he, ← Lib.hasPrefix_of_take]
    have he' : (s == base) = false := by simpa using he
    by_cases hl : u.length ≤ s.length
    · have hl' : (u.length : Int) ≤ s.length := by omega
      rw [decide_eq_true hl]
      go_enter Tryd.func16, Tryd.ntmps16
      go_wp2_with (go_at_call 21; refine (ct _).mono ?_; rintro e w1 ⟨rfl, rfl⟩)
      go_ret
      exact ⟨by show Ending.returned (.bool (((⟨s.toArray⟩ : ByteArray).extract 0 u.length).toList == u)) = _; rw [Lib.extract_toList]; rfl, rfl⟩
    · have hl' : ¬ (u.length : Int) ≤ s.length := by omega
      rw [decide_eq_false hl]
      go_enter Tryd.func16, Tryd.ntmps16
      go_wp2_with (go_at_call 21; refine (ct _).mono ?_; rintro e w1 ⟨rfl, rfl⟩)
      go_ret
      exact ⟨rfl, rfl⟩
end Go.Proofs.YtfdjgbonjenldaaDoor
