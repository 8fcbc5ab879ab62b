/-
  Bytes of a string; Cut at one byte, Trim, HasPrefix and Contains of Go's library at this program.
-/
import Derived.Test.YtolobnokpmbajaaDoorImath
import Derived.Test.YtolobnokpmbajaaDoorShelf
import Derived.WalkKit
import Derived.WalkSpells
import Derived.WalkSmall
import Derived.Lib.OthersKept
import Derived.Lib.Hide
import Derived.IntWalk
import Derived.Laws.Strings3
import Derived.Laws.Concat
import Derived.Shelf.RegionOpen
namespace Go.Proofs.YtolobnokpmbajaaDoor.I
open Go.RowKit Go.Shelf

theorem drop_cons (s : ByteArray) (k : Nat) (h : k < s.size) : s.data.toList.drop k = s[k]'h :: s.data.toList.drop (k + 1) := by
  rw [List.drop_eq_getElem_cons (show k < s.data.toList.length by simpa using h)]; simp; rfl
theorem take_snoc (s : ByteArray) (pos : Nat) (hp : pos < s.size) : s.data.toList.take (pos + 1) = s.data.toList.take pos ++ [s[pos]'hp] := by
  rw [List.take_succ_eq_append_getElem (show pos < s.data.toList.length by simpa using hp)]
  simp; rfl
theorem size_l (l : List UInt8) : (⟨l.toArray⟩ : ByteArray).size = l.length := by rw [Lib.size_eq]
theorem bytes_eq (s : ByteArray) : ∃ l : List UInt8, s = ⟨l.toArray⟩ := ⟨s.data.toList, by rw [Array.toArray_toList]⟩
theorem indexByte_one (c : UInt8) : ∀ l : List UInt8, Lib.indexByte l c = Lib.index l [c]
  | [] => rfl
  | b :: l => by
    have ih := indexByte_one c l
    rw [Lib.indexByte, Lib.index, ih]
    by_cases hb : b = c
    · subst hb; simp
    · have e : ([c] : List UInt8).isPrefixOf (b :: l) = false := by simp [List.isPrefixOf]; exact fun e => hb e.symm
      rw [e]; simp [hb]
theorem cut1_any (c : UInt8) (s : ByteArray) (hs : s.size ≤ 10000) (w : World) :
    Calls Tryd.prog 77 #[.string s, .string ⟨#[c]⟩] w fun e w' => e = .returned (.tuple #[.string ⟨(Lib.cut s.data.toList [c]).1.toArray⟩, .string ⟨(Lib.cut s.data.toList [c]).2.1.toArray⟩, .bool (Lib.cut s.data.toList [c]).2.2]) ∧ ∃ n, w' = w.drewN n := by
  have cI := fun w => Tryd.stringslite_Index_one s c w
  rw [indexByte_one] at cI
  rcases Lib.indexB_cases s ⟨#[c]⟩ with hix | ⟨i, hix, hroom⟩
  · obtain ⟨e1, e2, e3⟩ := Lib.cutB_miss s ⟨#[c]⟩ hix
    rw [show Lib.cut s.data.toList [c] = Lib.cut s.data.toList (⟨#[c]⟩ : ByteArray).data.toList from rfl, e1, e2, e3]
    rw [show Lib.index s.data.toList [c] = _ from hix] at cI
    clear e1 e2 e3 hix
    go_enter Tryd.func77, Tryd.ntmps77
    go_wp2_with (go_at_call 87; refine (cI _).mono ?_; rintro e w1 ⟨rfl, rfl⟩)
    go_ret3
    exact ⟨rfl, 0, rfl⟩
  · obtain ⟨e1, e2, e3⟩ := Lib.cutB_hit s ⟨#[c]⟩ i hix
    rw [show Lib.cut s.data.toList [c] = Lib.cut s.data.toList (⟨#[c]⟩ : ByteArray).data.toList from rfl, e1, e2, e3]
    rw [show Lib.index s.data.toList [c] = _ from hix] at cI
    have hr : i + 1 ≤ s.size := hroom
    have c1 : (0 : Int) ≤ ↑i := by omega
    have c2 : (↑i : Int) ≤ ↑s.size := by omega
    have c3 : (0 : Int) ≤ ↑i + 1 := by omega
    have c4 : (↑i + 1 : Int) ≤ ↑s.size := by omega
    have mixed : Tryd.prog.follows Departure.mixedOrders = true := by kernel_rfl
    clear e1 e2 e3 hix hroom
    go_enter Tryd.func77, Tryd.ntmps77
    go_wp2_with (go_at_call 87; refine (cI _).mono ?_; rintro e w1 ⟨rfl, rfl⟩)
    go_region_o
    go_wp2
    go_ret3
    exact ⟨rfl, 1, rfl⟩
theorem cut_any (c : UInt8) (l : List UInt8) (hs : l.length ≤ 10000) {p r : List UInt8} {b : Bool} (h : Lib.cut l [c] = (p, r, b)) (w : World) :
    Calls Tryd.prog 59 #[.string ⟨l.toArray⟩, .string ⟨#[c]⟩] w fun e w' => e = .returned (.tuple #[.string ⟨p.toArray⟩, .string ⟨r.toArray⟩, .bool b]) ∧ Below w.heap.size w w' := by
  have cI := fun w => cut1_any c ⟨l.toArray⟩ (by rw [size_l]; exact hs) w
  rw [show (⟨l.toArray⟩ : ByteArray).data.toList = l from rfl, h] at cI
  clear h
  go_enter Tryd.func59, Tryd.ntmps59
  go_wp2_with (go_at_call 77; refine (cI _).mono ?_; rintro e w1 ⟨rfl, n, rfl⟩)
  go_ret3
  exact ⟨rfl, below_drewN (Below.refl _ _) n⟩
theorem contains_zero (l : List UInt8) (w : World) :
    Calls Tryd.prog 66 #[.string ⟨l.toArray⟩, .string ⟨#[0]⟩] w fun e w' => e = .returned (.bool (decide ((0 : UInt8) ∈ l))) ∧ w' = w := by
  have h := Tryd.strings_Contains_one ⟨l.toArray⟩ 0 w
  have e0 : decide (0 ≤ Lib.indexByte l 0) = decide ((0 : UInt8) ∈ l) := by
    rw [indexByte_one]
    rcases index_one 0 l with ⟨h1, h2⟩ | ⟨i, h1, h2, h3, h4⟩
    · simp [h1, h2]
    · have : (0 : UInt8) ∈ l := by rw [h4]; simp
      simp [h1, this]
  exact h.mono fun e w' ⟨he, hw⟩ => ⟨by rw [he]; show Ending.returned (.bool (decide (0 ≤ Lib.indexByte l 0))) = _; rw [e0], hw⟩
end Go.Proofs.YtolobnokpmbajaaDoor.I
