/-
  The law's 'few' and 'awake'; the three laws.
-/
import Derived.Test.YtejiogopppjjoaaDoorAll
namespace Go.Proofs.YtejiogopppjjoaaDoor
open Go.RowKit Go.Shelf

def Few (s : ByteArray) : Prop := s.size ≤ 400 ∨ (4000 < s.size ∧ s.size ≤ 4200)
theorem few_yes {s : ByteArray} (h : Few s) (w : World) :
    Calls Tryd.prog 6 #[.string s] w fun e w' => e = .returned (.bool true) ∧ w = w' := by
  by_cases h1 : (s.size : Int) ≤ 400
  · clear h
    go_enter Tryd.func6, Tryd.ntmps6
    go_wp2
    go_ret
    exact ⟨rfl, rfl⟩
  · have h2 : (4000 : Int) < s.size := by unfold Few at h; omega
    have h3 : (s.size : Int) ≤ 4200 := by unfold Few at h; omega
    clear h
    go_enter Tryd.func6, Tryd.ntmps6
    go_wp2
    go_ret
    exact ⟨rfl, rfl⟩
theorem few_no {s : ByteArray} (h : ¬ Few s) (w : World) :
    Calls Tryd.prog 6 #[.string s] w fun e w' => e = .returned (.bool false) ∧ w = w' := by
  have h1 : ¬ (s.size : Int) ≤ 400 := by unfold Few at h; omega
  by_cases h2 : (4000 : Int) < s.size
  · have h3 : ¬ (s.size : Int) ≤ 4200 := by unfold Few at h; omega
    clear h
    go_enter Tryd.func6, Tryd.ntmps6
    go_wp2
    go_ret
    exact ⟨rfl, rfl⟩
  · clear h
    go_enter Tryd.func6, Tryd.ntmps6
    go_wp2
    go_ret
    exact ⟨rfl, rfl⟩

abbrev ab : List (List UInt8) := [[97], [98], [46, 46]]
theorem all_awake (w : World) : Calls Tryd.prog 8 #[.string ⟨#[47, 97, 47, 47, 46, 47, 98, 47, 46, 46]⟩, .int .i64 9] w fun e w' => ∃ v, e = .returned (.tuple #[v, .bool true]) ∧ Texts w.heap.size v ab w' ∧ Below w.heap.size w w' := by
  have h := all_any ⟨#[47, 97, 47, 47, 46, 47, 98, 47, 46, 46]⟩ (by decide) 9 (by decide) w (by decide)
  rwa [show (M.parts (⟨#[47, 97, 47, 47, 46, 47, 98, 47, 46, 46]⟩ : ByteArray).data.toList).take 9 = ab by decide] at h
theorem slash_awake (w : World) : Calls Tryd.prog 15 #[.string ⟨#[47, 97, 47]⟩] w fun e w' => e = .returned (.bool true) ∧ w = w' := by
  have h := slash_any ⟨#[47, 97, 47]⟩ (by decide) w
  rwa [show M.slash (⟨#[47, 97, 47]⟩ : ByteArray).data.toList = true by decide] at h
theorem last_awake (w : World) : Calls Tryd.prog 17 #[.string ⟨#[47, 97, 47]⟩] w fun e w' => e = .returned (.string ⟨#[97]⟩) ∧ w = w' := by
  have h := last_any ⟨#[47, 97, 47]⟩ (by decide) w
  rwa [show M.last (⟨#[47, 97, 47]⟩ : ByteArray).data.toList = [97] by decide] at h
theorem last_awake2 (w : World) : Calls Tryd.prog 17 #[.string ⟨#[47, 97, 47, 46, 46]⟩] w fun e w' => e = .returned (.string ⟨#[]⟩) ∧ w = w' := by
  have h := last_any ⟨#[47, 97, 47, 46, 46]⟩ (by decide) w
  rwa [show M.last (⟨#[47, 97, 47, 46, 46]⟩ : ByteArray).data.toList = [] by decide] at h
theorem check_awake (w : World) : Calls Tryd.prog 9 #[.string ⟨#[46]⟩] w fun e w' => e = .returned (.int .i64 1) ∧ w = w' := by
  have h := check_any ⟨#[46]⟩ w
  rwa [show M.check (⟨#[46]⟩ : ByteArray).data.toList = 1 by simp [M.check, M.bad]] at h
theorem path_awake (w : World) : Calls Tryd.prog 11 #[.string ⟨#[97]⟩] w fun e w' => e = .returned (.int .i64 1) ∧ w = w' := by
  have h := path_any ⟨#[97]⟩ w
  rwa [show M.path (⟨#[97]⟩ : ByteArray).data.toList = 1 by simp [M.path, M.wrongPath]] at h
theorem same_true (a b : Value) (xs : List (List UInt8)) (hx : xs.length ≤ 10000) (w : World) (ha : Reads a xs w) (hb : Reads b xs w) :
    Calls Tryd.prog 13 #[a, b] w fun e w' => e = .returned (.bool true) ∧ Below w.heap.size w w' := by
  have h := same_any a b xs xs hx w ha hb
  rwa [decide_eq_true rfl] at h
theorem texts_lit (w : World) : Texts w.heap.size (.slice (some ⟨w.heap.size, 0, none⟩) 3 3) ab (w.alloc (.cells #[.string ⟨#[97]⟩, .string ⟨#[98]⟩, .string ⟨#[46, 46]⟩] 9)) :=
  World.ownsRow_lit w _ 3 (Nat.le_refl _) (by decide) rfl

theorem below_two {n : Nat} {a b c : World} (h1 : Below n a b) (h2 : Below b.heap.size b c) (h : n ≤ a.heap.size) : Below n a c :=
  h1.trans (h2.mono (Nat.le_trans h h1.size))

set_option maxHeartbeats 2000000 in
theorem awake_any (w : World) : Calls Tryd.prog 7 #[] w fun e w' => e = .returned (.bool true) ∧ Below w.heap.size w w' := by
  have c17a := last_awake
  have c17b := last_awake2
  go_enter Tryd.func7, Tryd.ntmps7
  go_wp2_with (first
    | (go_at_call 8; refine (all_awake _).mono ?_; rintro e w1 ⟨v, rfl, hT, hb1⟩; obtain ⟨g, cap, rfl⟩ := hT.form (by decide))
    | (go_at_call 13; refine (same_true _ _ ab (by decide) _ (hT.below ((Below.refl _ w1).alloc (Nat.le_refl _) _)).reads (texts_lit _).reads).mono ?_; rintro e w2 ⟨rfl, hb2⟩)
    | (go_at_call 15; refine (slash_awake _).mono ?_; rintro e w3 ⟨rfl, rfl⟩)
    | (go_at_call 17; (first | (refine (c17a _).mono ?_; clear c17a) | refine (c17b _).mono ?_); rintro e w3 ⟨rfl, rfl⟩)
    | (go_at_call 9; refine (check_awake _).mono ?_; rintro e w3 ⟨rfl, rfl⟩)
    | (go_at_call 11; refine (path_awake _).mono ?_; rintro e w3 ⟨rfl, rfl⟩))
  go_ret
  exact ⟨rfl, below_two (hb1.alloc hb1.size _) hb2 (Nat.le_refl _)⟩
end Go.Proofs.YtejiogopppjjoaaDoor
