/-
  Bytes of a string; strings.Cut at a slash.
-/
import Derived.Test.YtfdjgbonjenldaaDoorMath
import Derived.Test.YtfdjgbonjenldaaDoorShelf
import Derived.WalkKit
import Derived.WalkSpells
import Derived.WalkSmall
import Derived.Lib.OthersKept
import Derived.Lib.Hide
import Derived.IntWalk
import Derived.Laws.Strings3
import Derived.Shelf.RegionOpen
namespace Go.Proofs.YtfdjgbonjenldaaDoor
open Go.RowKit Go.Shelf

theorem drop_cons (s : ByteArray) (k : Nat) (h : k < s.size) : s.data.toList.drop k = s[k]'h :: s.data.toList.drop (k + 1) := by
  rw [List.drop_eq_getElem_cons (show k < s.data.toList.length by simpa using h)]; simp; rfl
theorem not_empty {s : ByteArray} (h : ¬ s.toList = []) : s.toList.isEmpty = false := by
  cases hh : s.toList with
  | nil => exact absurd hh h
  | cons _ _ => rfl
theorem not_nil {s : ByteArray} (h : ¬ s.toList = []) : 0 < s.size := by
  rw [Lib.size_eq]; rw [ByteArray.toList_eq] at h
  exact List.length_pos_iff.2 h
theorem head_at {s : ByteArray} (h : 0 < s.size) : s.data.toList.head? = some (s[0]'h) := by
  have := drop_cons s 0 h
  rw [List.drop_zero] at this
  rw [this]; rfl
theorem take_snoc (s : ByteArray) (pos : Nat) (hp : pos < s.size) : s.data.toList.take (pos + 1) = s.data.toList.take pos ++ [s[pos]'hp] := by
  rw [List.take_succ_eq_append_getElem (show pos < s.data.toList.length by simpa using hp)]
  simp; rfl
theorem indexByte_one (c : UInt8) : ∀ l : List UInt8, Lib.indexByte l c = Lib.index l [c]
  | [] => rfl
  | b :: l => by
    have ih := indexByte_one c l
    rw [Lib.indexByte, Lib.index, ih]
    by_cases hb : b = c
    · subst hb; simp
    · have e : ([c] : List UInt8).isPrefixOf (b :: l) = false := by simp [List.isPrefixOf]; exact fun e => hb e.symm
      rw [e]; simp [hb]
/-- what Cut leaves of a string at the slash -/
theorem cut1_any (s : ByteArray) (hs : s.size ≤ 5000) (w : World) :
    Calls Tryd.prog 51 #[.string s, .string ⟨#[47]⟩] w fun e w' => e = .returned (.tuple #[.string ⟨(Lib.cut s.data.toList [47]).1.toArray⟩, .string ⟨(Lib.cut s.data.toList [47]).2.1.toArray⟩, .bool (Lib.cut s.data.toList [47]).2.2]) ∧ ∃ n, w' = w.drewN n := by
  have cI := fun w => Tryd.stringslite_Index_one s 47 w
  rw [indexByte_one] at cI
  rcases Lib.indexB_cases s ⟨#[47]⟩ with hix | ⟨i, hix, hroom⟩
  · obtain ⟨e1, e2, e3⟩ := Lib.cutB_miss s ⟨#[47]⟩ hix
    rw [show Lib.cut s.data.toList [47] = Lib.cut s.data.toList (⟨#[47]⟩ : ByteArray).data.toList from rfl, e1, e2, e3]
    rw [show Lib.index s.data.toList [47] = _ from hix] at cI
    clear e1 e2 e3 hix
    go_enter Tryd.func51, Tryd.ntmps51
    go_wp2_with (go_at_call 55; refine (cI _).mono ?_; rintro e w1 ⟨rfl, rfl⟩)
    go_ret3
    exact ⟨rfl, 0, rfl⟩
  · obtain ⟨e1, e2, e3⟩ := Lib.cutB_hit s ⟨#[47]⟩ i hix
    rw [show Lib.cut s.data.toList [47] = Lib.cut s.data.toList (⟨#[47]⟩ : ByteArray).data.toList from rfl, e1, e2, e3]
    rw [show Lib.index s.data.toList [47] = _ from hix] at cI
    have hr : i + 1 ≤ s.size := hroom
    have c1 : (0 : Int) ≤ ↑i := by omega
    have c2 : (↑i : Int) ≤ ↑s.size := by omega
    have c3 : (0 : Int) ≤ ↑i + 1 := by omega
    have c4 : (↑i + 1 : Int) ≤ ↑s.size := by omega
    have mixed : Tryd.prog.follows Departure.mixedOrders = true := by kernel_rfl
    clear e1 e2 e3 hix hroom
    go_enter Tryd.func51, Tryd.ntmps51
    go_wp2_with (go_at_call 55; refine (cI _).mono ?_; rintro e w1 ⟨rfl, rfl⟩)
    go_region_o
    go_wp2
    go_ret3
    exact ⟨rfl, 1, rfl⟩
theorem cut_any {s : ByteArray} {p r : List UInt8} {b : Bool} (hs : s.size ≤ 5000) (h : Lib.cut s.data.toList [47] = (p, r, b)) (w : World) :
    Calls Tryd.prog 45 #[.string s, .string ⟨#[47]⟩] w fun e w' => e = .returned (.tuple #[.string ⟨p.toArray⟩, .string ⟨r.toArray⟩, .bool b]) ∧ ∃ n, w' = w.drewN n := by
  have cI := fun w => cut1_any s hs w
  rw [h] at cI
  clear h
  go_enter Tryd.func45, Tryd.ntmps45
  go_wp2_with (go_at_call 51; refine (cI _).mono ?_; rintro e w1 ⟨rfl, n, rfl⟩)
  go_ret3
  exact ⟨rfl, n, rfl⟩
theorem prefix_head (l : List UInt8) : Lib.hasPrefix l [47] = decide (l.head? = some 47) := by
  cases l with
  | nil => rfl
  | cons b l =>
    by_cases hb : b = 47
    · subst hb; rfl
    · have : (47 == b) = false := by simpa using fun e => hb e.symm
      simp [Lib.hasPrefix, List.isPrefixOf, hb, this]
theorem take_last (t : ByteArray) (m : Nat) (hm : t.size = m + 1) : t.data.toList = (t.extract 0 m).data.toList ++ [t[m]'(by omega)] := by
  have h := take_snoc t m (by omega)
  rw [Lib.extract_upto]
  rw [List.take_of_length_le (by rw [← Lib.size_eq]; omega)] at h
  exact h
theorem trim_step {t : ByteArray} {m : Nat} (hm : t.size = m + 1) (hc : (t[m]'(by omega)).toNat = 47) : Lib.trimRightB t.data.toList 47 = Lib.trimRightB (t.extract 0 m).data.toList 47 := by
  have : t[m]'(by omega) = 47 := UInt8.toNat_inj.1 hc
  rw [take_last t m hm, this, M.trim_snoc]
theorem trim_stop {t : ByteArray} {m : Nat} (hm : t.size = m + 1) (hc : ¬ (t[m]'(by omega)).toNat = 47) : Lib.trimRightB t.data.toList 47 = t.data.toList := by
  have h := take_last t m hm
  generalize (t.extract 0 m).data.toList = l at h
  rw [h, M.trim_other]
  intro e; exact hc (by rw [e]; rfl)
theorem trim_empty {t : ByteArray} (h : t.size = 0) : Lib.trimRightB t.data.toList 47 = t.data.toList := by
  have : t.data.toList = [] := List.eq_nil_of_length_eq_zero (by rw [← Lib.size_eq]; exact h)
  rw [this, M.trim_nil]
def strSize : Value → Nat | .string t => t.size | _ => 0
end Go.Proofs.YtfdjgbonjenldaaDoor
