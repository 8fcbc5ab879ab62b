/-
  What pct's unreserved and value and the reference's Plain and Digit do at every byte.
-/
import Derived.Test.YtjdccfegmllphaaDoorPmath
import Derived.Test.YtjdccfegmllphaaDoorProg
import Derived.WalkKit
import Derived.WalkSpells
import Derived.WalkSmall
import Derived.Lib.OthersKept
import Derived.Lib.Hide
import Derived.IntWalk
import Derived.Laws.Strings3
import Derived.Laws.Concat
import Derived.Shelf.RegionOpen
namespace Go.Proofs.YtjdccfegmllphaaDoor.Q
open Go.RowKit Go.Shelf

theorem ret_bool {a b : Bool} (h : a = b) : Ending.returned (.bool a) = .returned (.bool b) := by rw [h]
theorem pl_iff (c : UInt8) (x : Int) (hx : x = (c.toNat : Int)) : M.pl c = decide ((97 ≤ x ∧ x ≤ 122) ∨ (65 ≤ x ∧ x ≤ 90) ∨ (48 ≤ x ∧ x ≤ 57) ∨ x = 45 ∨ x = 46 ∨ x = 95 ∨ x = 126 ∨ x = 47) := by
  unfold M.pl
  rw [decide_eq_decide]
  omega

set_option maxHeartbeats 1000000 in
theorem unreserved_any (c : UInt8) (w : World) : Calls Tryd.prog 22 #[.int .u8 (c.toNat : Int)] w fun e w' => e = .returned (.bool (M.pl c)) ∧ w = w' := by
  have hc := M.byte_lt c
  obtain ⟨x, hx⟩ : ∃ x : Int, x = (c.toNat : Int) := ⟨_, rfl⟩
  have HP := Lib.hid (pl_iff c x hx)
  rw [← hx]
  have h0 : 0 ≤ x := by omega
  have h1 : x < 256 := by omega
  clear hx hc
  go_enter Tryd.func22, Tryd.ntmps22
  go_wp2
  all_goals go_ret
  all_goals refine ⟨ret_bool ?_, rfl⟩
  all_goals rw [HP.out]
  all_goals (try simp only [beq_iff_eq, beq_eq_false_iff_ne, ne_eq] at *)
  all_goals simp only [true_eq_decide_iff, false_eq_decide_iff]
  all_goals omega
theorem unreserved_is (c : UInt8) (b : Bool) (h : M.pl c = b) (w : World) : Calls Tryd.prog 22 #[.int .u8 (c.toNat : Int)] w fun e w' => e = .returned (.bool b) ∧ w = w' := by
  subst h; exact unreserved_any c w

/-! ### A digit's number -/
theorem tup_u8 {a b : Int} {p : Bool} (h : a = b) : Ending.returned (.tuple #[.int .u8 a, .bool p]) = .returned (.tuple #[.int .u8 b, .bool p]) := by rw [h]
def ValOut (v : Nat) (e : Ending) : Prop := e = .returned (.tuple #[.int .u8 (if v ≤ 15 then v else 0 : Nat), .bool (decide (v ≤ 15))])
theorem val_dec {c : UInt8} {x : Int} (hx : x = (c.toNat : Int)) (h0 : 48 ≤ x) (h1 : x ≤ 57) : ValOut (M.val c) (.returned (.tuple #[.int .u8 (x - 48), .bool true])) := by
  have : M.val c = c.toNat - 48 := by unfold M.val; rw [if_pos (by omega)]
  unfold ValOut; rw [this, if_pos (by omega), decide_eq_true (by omega)]; exact tup_u8 (by omega)
theorem val_upper {c : UInt8} {x : Int} (hx : x = (c.toNat : Int)) (h0 : 65 ≤ x) (h1 : x ≤ 70) : ValOut (M.val c) (.returned (.tuple #[.int .u8 (x - 65 + 10), .bool true])) := by
  have : M.val c = c.toNat - 55 := by unfold M.val; rw [if_neg (by omega), if_pos (by omega)]
  unfold ValOut; rw [this, if_pos (by omega), decide_eq_true (by omega)]; exact tup_u8 (by omega)
theorem val_lower {c : UInt8} {x : Int} (hx : x = (c.toNat : Int)) (h0 : 97 ≤ x) (h1 : x ≤ 102) : ValOut (M.val c) (.returned (.tuple #[.int .u8 (x - 97 + 10), .bool true])) := by
  have : M.val c = c.toNat - 87 := by unfold M.val; rw [if_neg (by omega), if_neg (by omega), if_pos (by omega)]
  unfold ValOut; rw [this, if_pos (by omega), decide_eq_true (by omega)]; exact tup_u8 (by omega)
theorem val_none {c : UInt8} {x : Int} (hx : x = (c.toNat : Int)) (h0 : x < 48 ∨ 57 < x) (h1 : x < 65 ∨ 70 < x) (h2 : x < 97 ∨ 102 < x) : ValOut (M.val c) (.returned (.tuple #[.int .u8 0, .bool false])) := by
  have : M.val c = 16 := by unfold M.val; rw [if_neg (by omega), if_neg (by omega), if_neg (by omega)]
  unfold ValOut; rw [this]; rfl

set_option maxHeartbeats 1000000 in
theorem value_any (c : UInt8) (w : World) : Calls Tryd.prog 47 #[.int .u8 (c.toNat : Int)] w fun e w' => ValOut (M.val c) e ∧ w = w' := by
  have hc := M.byte_lt c
  obtain ⟨x, hx⟩ : ∃ x : Int, x = (c.toNat : Int) := ⟨_, rfl⟩
  have HX := Lib.hid hx
  rw [← hx]
  have h0 : 0 ≤ x := by omega
  have h1 : x < 256 := by omega
  clear hx hc
  go_enter Tryd.func47, Tryd.ntmps47
  go_wp2
  all_goals go_ret2
  all_goals refine ⟨?_, rfl⟩
  all_goals first
    | exact val_dec HX.out (by assumption) (by assumption)
    | exact val_upper HX.out (by assumption) (by assumption)
    | exact val_lower HX.out (by assumption) (by assumption)
    | exact val_none HX.out (by omega) (by omega) (by omega)
theorem value_yes (c : UInt8) (v : Nat) (h : M.val c = v) (hv : v ≤ 15) (w : World) : Calls Tryd.prog 47 #[.int .u8 (c.toNat : Int)] w fun e w' => e = .returned (.tuple #[.int .u8 v, .bool true]) ∧ w = w' :=
  (value_any c w).mono fun e w' ⟨he, hw⟩ => ⟨by unfold ValOut at he; rw [h, if_pos hv, decide_eq_true hv] at he; exact he, hw⟩
theorem value_no (c : UInt8) (hv : 15 < M.val c) (w : World) : Calls Tryd.prog 47 #[.int .u8 (c.toNat : Int)] w fun e w' => e = .returned (.tuple #[.int .u8 0, .bool false]) ∧ w = w' :=
  (value_any c w).mono fun e w' ⟨he, hw⟩ => ⟨by unfold ValOut at he; rw [if_neg (by omega), decide_eq_false (by omega)] at he; exact he, hw⟩

abbrev lows : ByteArray := ⟨#[48, 49, 50, 51, 52, 53, 54, 55, 56, 57, 97, 98, 99, 100, 101, 102]⟩
def low1 (c : UInt8) : Nat := if 65 ≤ c.toNat ∧ c.toNat ≤ 70 then c.toNat + 32 else c.toNat
theorem lows_fin : ∀ k : Fin 16, ∀ c : Fin 256, (lows.data.toList.getD k.val 0).toNat = low1 (UInt8.ofNat c.val) ↔ M.val (UInt8.ofNat c.val) = k.val := by decide +kernel
theorem lows_at (k : Nat) (h : k < 16) (h' : k < lows.size) (c : UInt8) : ((lows[k]'h').toNat = low1 c) ↔ M.val c = k := by
  have := lows_fin ⟨k, h⟩ ⟨c.toNat, M.byte_lt c⟩
  rw [UInt8.ofNat_toNat] at this
  rw [← this]
  rw [List.getD_eq_getElem?_getD, List.getElem?_eq_getElem (show k < lows.data.toList.length from h)]
  rfl

end Go.Proofs.YtjdccfegmllphaaDoor.Q
