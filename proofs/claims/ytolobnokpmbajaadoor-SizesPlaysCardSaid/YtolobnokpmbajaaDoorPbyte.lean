/-
  What pct's unreserved and value and the reference's Plain and Digit do at every byte.
-/
import Derived.Test.YtolobnokpmbajaaDoorPmath
import Derived.Test.YtolobnokpmbajaaDoorProg
import Derived.WalkKit
import Derived.WalkSpells
import Derived.WalkSmall
import Derived.Lib.OthersKept
import Derived.Lib.Hide
import Derived.IntWalk
import Derived.Laws.Strings3
import Derived.Laws.Concat
import Derived.Shelf.RegionOpen
namespace Go.Proofs.YtolobnokpmbajaaDoor.Q
open Go.RowKit Go.Shelf

theorem ret_bool {a b : Bool} (h : a = b) : Ending.returned (.bool a) = .returned (.bool b) := by rw [h]
theorem pl_iff (c : UInt8) (x : Int) (hx : x = (c.toNat : Int)) : M.pl c = decide ((97 ≤ x ∧ x ≤ 122) ∨ (65 ≤ x ∧ x ≤ 90) ∨ (48 ≤ x ∧ x ≤ 57) ∨ x = 45 ∨ x = 46 ∨ x = 95 ∨ x = 126 ∨ x = 47) := by
  unfold M.pl
  rw [decide_eq_decide]
  omega

set_option maxHeartbeats 1000000 in
theorem unreserved_any (c : UInt8) (w : World) : Calls Tryd.prog 73 #[.int .u8 (c.toNat : Int)] w fun e w' => e = .returned (.bool (M.pl c)) ∧ w = w' := by
  have hc := M.byte_lt c
  obtain ⟨x, hx⟩ : ∃ x : Int, x = (c.toNat : Int) := ⟨_, rfl⟩
  have HP := Lib.hid (pl_iff c x hx)
  rw [← hx]
  have h0 : 0 ≤ x := by omega
  have h1 : x < 256 := by omega
  clear hx hc
  go_enter Tryd.func73, Tryd.ntmps73
  go_wp2
  all_goals go_ret
  all_goals refine ⟨ret_bool ?_, rfl⟩
  all_goals rw [HP.out]
  all_goals (try simp only [beq_iff_eq, beq_eq_false_iff_ne, ne_eq] at *)
  all_goals simp only [true_eq_decide_iff, false_eq_decide_iff]
  all_goals omega
theorem unreserved_is (c : UInt8) (b : Bool) (h : M.pl c = b) (w : World) : Calls Tryd.prog 73 #[.int .u8 (c.toNat : Int)] w fun e w' => e = .returned (.bool b) ∧ w = w' := by
  subst h; exact unreserved_any c w

set_option maxHeartbeats 1000000 in
theorem plain_any (c : UInt8) (w : World) : Calls Tryd.prog 57 #[.int .u8 (c.toNat : Int)] w fun e w' => e = .returned (.bool (M.pl c)) ∧ w = w' := by
  have hc := M.byte_lt c
  obtain ⟨x, hx⟩ : ∃ x : Int, x = (c.toNat : Int) := ⟨_, rfl⟩
  have HP := Lib.hid (pl_iff c x hx)
  rw [← hx]
  have h0 : 0 ≤ x := by omega
  have h1 : x < 256 := by omega
  clear hx hc
  go_enter Tryd.func57, Tryd.ntmps57
  go_wp2
  all_goals go_ret
  all_goals refine ⟨ret_bool ?_, rfl⟩
  all_goals rw [HP.out]
  all_goals (try simp only [beq_iff_eq, beq_eq_false_iff_ne, ne_eq] at *)
  all_goals rw [Bool.eq_iff_iff]
  all_goals simp only [Bool.or_eq_true, beq_iff_eq, decide_eq_true_eq, true_iff]
  all_goals omega
theorem plain_is (c : UInt8) (b : Bool) (h : M.pl c = b) (w : World) : Calls Tryd.prog 57 #[.int .u8 (c.toNat : Int)] w fun e w' => e = .returned (.bool b) ∧ w = w' := by
  subst h; exact plain_any c w

/-! ### A digit's number -/
theorem tup_u8 {a b : Int} {p : Bool} (h : a = b) : Ending.returned (.tuple #[.int .u8 a, .bool p]) = .returned (.tuple #[.int .u8 b, .bool p]) := by rw [h]
def ValOut (v : Nat) (e : Ending) : Prop := e = .returned (.tuple #[.int .u8 (if v ≤ 15 then v else 0 : Nat), .bool (decide (v ≤ 15))])
theorem val_dec {c : UInt8} {x : Int} (hx : x = (c.toNat : Int)) (h0 : 48 ≤ x) (h1 : x ≤ 57) : ValOut (M.val c) (.returned (.tuple #[.int .u8 (x - 48), .bool true])) := by
  have : M.val c = c.toNat - 48 := by unfold M.val; rw [if_pos (by omega)]
  unfold ValOut; rw [this, if_pos (by omega), decide_eq_true (by omega)]; exact tup_u8 (by omega)
theorem val_upper {c : UInt8} {x : Int} (hx : x = (c.toNat : Int)) (h0 : 65 ≤ x) (h1 : x ≤ 70) : ValOut (M.val c) (.returned (.tuple #[.int .u8 (x - 65 + 10), .bool true])) := by
  have : M.val c = c.toNat - 55 := by unfold M.val; rw [if_neg (by omega), if_pos (by omega)]
  unfold ValOut; rw [this, if_pos (by omega), decide_eq_true (by omega)]; exact tup_u8 (by omega)
theorem val_lower {c : UInt8} {x : Int} (hx : x = (c.toNat : Int)) (h0 : 97 ≤ x) (h1 : x ≤ 102) : ValOut (M.val c) (.returned (.tuple #[.int .u8 (x - 97 + 10), .bool true])) := by
  have : M.val c = c.toNat - 87 := by unfold M.val; rw [if_neg (by omega), if_neg (by omega), if_pos (by omega)]
  unfold ValOut; rw [this, if_pos (by omega), decide_eq_true (by omega)]; exact tup_u8 (by omega)
theorem val_none {c : UInt8} {x : Int} (hx : x = (c.toNat : Int)) (h0 : x < 48 ∨ 57 < x) (h1 : x < 65 ∨ 70 < x) (h2 : x < 97 ∨ 102 < x) : ValOut (M.val c) (.returned (.tuple #[.int .u8 0, .bool false])) := by
  have : M.val c = 16 := by unfold M.val; rw [if_neg (by omega), if_neg (by omega), if_neg (by omega)]
  unfold ValOut; rw [this]; rfl

set_option maxHeartbeats 1000000 in
theorem value_any (c : UInt8) (w : World) : Calls Tryd.prog 88 #[.int .u8 (c.toNat : Int)] w fun e w' => ValOut (M.val c) e ∧ w = w' := by
  have hc := M.byte_lt c
  obtain ⟨x, hx⟩ : ∃ x : Int, x = (c.toNat : Int) := ⟨_, rfl⟩
  have HX := Lib.hid hx
  rw [← hx]
  have h0 : 0 ≤ x := by omega
  have h1 : x < 256 := by omega
  clear hx hc
  go_enter Tryd.func88, Tryd.ntmps88
  go_wp2
  all_goals go_ret2
  all_goals refine ⟨?_, rfl⟩
  all_goals first
    | exact val_dec HX.out (by assumption) (by assumption)
    | exact val_upper HX.out (by assumption) (by assumption)
    | exact val_lower HX.out (by assumption) (by assumption)
    | exact val_none HX.out (by omega) (by omega) (by omega)
theorem value_yes (c : UInt8) (v : Nat) (h : M.val c = v) (hv : v ≤ 15) (w : World) : Calls Tryd.prog 88 #[.int .u8 (c.toNat : Int)] w fun e w' => e = .returned (.tuple #[.int .u8 v, .bool true]) ∧ w = w' :=
  (value_any c w).mono fun e w' ⟨he, hw⟩ => ⟨by unfold ValOut at he; rw [h, if_pos hv, decide_eq_true hv] at he; exact he, hw⟩
theorem value_no (c : UInt8) (hv : 15 < M.val c) (w : World) : Calls Tryd.prog 88 #[.int .u8 (c.toNat : Int)] w fun e w' => e = .returned (.tuple #[.int .u8 0, .bool false]) ∧ w = w' :=
  (value_any c w).mono fun e w' ⟨he, hw⟩ => ⟨by unfold ValOut at he; rw [if_neg (by omega), decide_eq_false (by omega)] at he; exact he, hw⟩

abbrev lows : ByteArray := ⟨#[48, 49, 50, 51, 52, 53, 54, 55, 56, 57, 97, 98, 99, 100, 101, 102]⟩
def low1 (c : UInt8) : Nat := if 65 ≤ c.toNat ∧ c.toNat ≤ 70 then c.toNat + 32 else c.toNat
theorem lows_fin : ∀ k : Fin 16, ∀ c : Fin 256, (lows.data.toList.getD k.val 0).toNat = low1 (UInt8.ofNat c.val) ↔ M.val (UInt8.ofNat c.val) = k.val := by decide +kernel
theorem lows_at (k : Nat) (h : k < 16) (h' : k < lows.size) (c : UInt8) : ((lows[k]'h').toNat = low1 c) ↔ M.val c = k := by
  have := lows_fin ⟨k, h⟩ ⟨c.toNat, M.byte_lt c⟩
  rw [UInt8.ofNat_toNat] at this
  rw [← this]
  rw [List.getD_eq_getElem?_getD, List.getElem?_eq_getElem (show k < lows.data.toList.length from h)]
  rfl

set_option maxHeartbeats 1000000 in
theorem digit_any (c : UInt8) (w : World) : Calls Tryd.prog 82 #[.int .u8 (c.toNat : Int)] w fun e w' => e = .returned (.int .i64 (M.val c)) ∧ w = w' := by
  have hc := M.byte_lt c
  have hvl := M.val_le c
  have HL := Lib.hid (fun k h h' => lows_at k h h' c)
  obtain ⟨y, hy⟩ : ∃ y : Nat, low1 c = y := ⟨_, rfl⟩
  rw [hy] at HL
  have hy2 : y < 256 := by unfold low1 at hy; split at hy <;> omega
  have key : ∀ w, Calls Tryd.prog 82 #[.int .u8 (c.toNat : Int)] w fun e w' => e = .returned (.int .i64 (M.val c)) ∧ w = w' := by
    by_cases hu : 65 ≤ c.toNat ∧ c.toNat ≤ 70
    · intro w
      obtain ⟨x, hx⟩ : ∃ x : Int, x = (c.toNat : Int) := ⟨_, rfl⟩
      have hxy : x + 32 = y := by unfold low1 at hy; rw [if_pos hu] at hy; omega
      rw [← hx]
      have h0 : 65 ≤ x := by omega
      have h1 : x ≤ 70 := by omega
      obtain ⟨v, HV⟩ : ∃ v, Hid (M.val c = v) := ⟨_, Lib.hid rfl⟩
      rw [HV.out] at hvl HL ⊢
      clear hx hc hy hu
      go_enter Tryd.func82, Tryd.ntmps82
      go_wp2
      go_loop [4] (fun i => ∃ k : Nat, k ≤ 16 ∧ k ≤ v ∧ i = .int .i64 k) (fun i => 16 - (intOf i).toNat)
      case atStart => exact ⟨0, by omega, by omega, rfl⟩
      case round =>
        obtain ⟨k, hk, hkv, rfl⟩ := hrel
        by_cases hlt : k < 16
        · have hl := HL.out k hlt hlt
          have hk' : (k : Int) < 16 := by omega
          obtain ⟨z, hz⟩ : ∃ z : Nat, (lows[k]'hlt).toNat = z := ⟨_, rfl⟩
          rw [hz] at hl
          by_cases hq : z = y
          · have HE := Lib.hid (hl.1 hq)
            have hq' : (((lows[k]'hlt).toNat : Int) == (y : Int)) = true := by rw [hz, hq]; simp
            clear hl hz hq
            go_wp2
            go_ret
            exact ⟨by rw [HE.out]; rfl, rfl⟩
          · have hne : k + 1 ≤ v := by have : v ≠ k := fun e => hq (hl.2 e); omega
            have hq' : (((lows[k]'hlt).toNat : Int) == (y : Int)) = false := by rw [hz]; simpa using fun e => hq (by omega)
            clear hl hz hq
            go_wp2
            go_round
            case rel => exact ⟨k + 1, by omega, hne, by go_num⟩
            case measure => simp [intOf]; omega
        · have hk' : ¬ (k : Int) < 16 := by omega
          have HE : Hid (v = 16) := Lib.hid (by omega)
          go_wp2
          go_ret
          exact ⟨by rw [HE.out]; rfl, rfl⟩
    · intro w
      have hxy : c.toNat = y := by unfold low1 at hy; rw [if_neg hu] at hy; exact hy
      rw [hxy]
      rw [hxy] at hu hc
      obtain ⟨v, HV⟩ : ∃ v, Hid (M.val c = v) := ⟨_, Lib.hid rfl⟩
      rw [HV.out] at hvl HL ⊢
      clear hy hxy
      by_cases h65 : 65 ≤ (y : Int)
      all_goals
      · first
          | (have h70 : (70 : Int) < y := by omega)
          | skip
        go_enter Tryd.func82, Tryd.ntmps82
        go_wp2
        go_loop [4] (fun i => ∃ k : Nat, k ≤ 16 ∧ k ≤ v ∧ i = .int .i64 k) (fun i => 16 - (intOf i).toNat)
        case atStart => exact ⟨0, by omega, by omega, rfl⟩
        case round =>
          obtain ⟨k, hk, hkv, rfl⟩ := hrel
          by_cases hlt : k < 16
          · have hl := HL.out k hlt hlt
            have hk' : (k : Int) < 16 := by omega
            obtain ⟨z, hz⟩ : ∃ z : Nat, (lows[k]'hlt).toNat = z := ⟨_, rfl⟩
            rw [hz] at hl
            by_cases hq : z = y
            · have HE := Lib.hid (hl.1 hq)
              have hq' : (((lows[k]'hlt).toNat : Int) == (y : Int)) = true := by rw [hz, hq]; simp
              clear hl hz hq
              go_wp2
              go_ret
              exact ⟨by rw [HE.out]; rfl, rfl⟩
            · have hne : k + 1 ≤ v := by have : v ≠ k := fun e => hq (hl.2 e); omega
              have hq' : (((lows[k]'hlt).toNat : Int) == (y : Int)) = false := by rw [hz]; simpa using fun e => hq (by omega)
              clear hl hz hq
              go_wp2
              go_round
              case rel => exact ⟨k + 1, by omega, hne, by go_num⟩
              case measure => simp [intOf]; omega
          · have hk' : ¬ (k : Int) < 16 := by omega
            have HE : Hid (v = 16) := Lib.hid (by omega)
            go_wp2
            go_ret
            exact ⟨by rw [HE.out]; rfl, rfl⟩
  exact key w
end Go.Proofs.YtolobnokpmbajaaDoor.Q
