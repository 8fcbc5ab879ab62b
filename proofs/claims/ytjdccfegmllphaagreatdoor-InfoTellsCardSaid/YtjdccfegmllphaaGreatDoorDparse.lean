/-
  What date.Parse does.
-/
import Derived.Test.YtjdccfegmllphaaGreatDoorDnof
import Derived.Test.YtjdccfegmllphaaGreatDoorDsec
namespace Go.Proofs.YtjdccfegmllphaaGreatDoor
open Go.RowKit Go.Shelf

/-- a date's second and the error -/
noncomputable def sc (y m d h i s : Int) : Int × Int := if ok y m d h i s = true then (if y < 1970 then (0, 3) else (M.secs y m d h i s, 0)) else (0, 2)
theorem sc_form {y m d h i s : Int} (v : ¬ M.Valid y m d h i s) : sc y m d h i s = (0, 2) := by unfold sc; rw [ok_false v]; rfl
theorem sc_range {y m d h i s : Int} (v : M.Valid y m d h i s) (hy : y < 1970) : sc y m d h i s = (0, 3) := by unfold sc; rw [ok_true v, if_pos rfl, if_pos hy]
theorem sc_good {y m d h i s : Int} (v : M.Valid y m d h i s) (hy : ¬ y < 1970) : sc y m d h i s = (M.secs y m d h i s, 0) := by unfold sc; rw [ok_true v, if_pos rfl, if_neg hy]
theorem seconds_any (y m d h i s : Int) (w : World) :
    Calls Tryz.prog 39 #[six y m d h i s] w fun e w' => e = .returned (.tuple #[.int .i64 (sc y m d h i s).1, .int .i64 (sc y m d h i s).2]) ∧ Below w.heap.size w w' := by
  by_cases v : M.Valid y m d h i s
  · by_cases hy : y < 1970
    · rw [sc_range v hy]; exact seconds_range v hy w
    · rw [sc_good v hy]; exact seconds_good v (by omega) w
  · rw [sc_form v]; exact seconds_form v w
theorem seconds_is {y m d h i s n f : Int} (hp : sc y m d h i s = (n, f)) (w : World) :
    Calls Tryz.prog 39 #[.agg #[.int .i64 y, .int .i64 m, .int .i64 d, .int .i64 h, .int .i64 i, .int .i64 s]] w fun e w' => e = .returned (.tuple #[.int .i64 n, .int .i64 f]) ∧ Below w.heap.size w w' :=
  (seconds_any y m d h i s w).mono fun e w' ⟨he, hw⟩ => ⟨by rw [he, hp], hw⟩
/-- what a text tells -/
noncomputable def ps (l : List UInt8) : Int × Int := match rd mks l with
  | some [a, b, c, d, f, g] => sc a b c d f g
  | _ => (0, 2)
theorem ps_none {l : List UInt8} (h : rd mks l = none) : ps l = (0, 2) := by unfold ps; rw [h]
theorem ps_some {l : List UInt8} {a b c d f g : Int} (h : rd mks l = some [a, b, c, d, f, g]) : ps l = sc a b c d f g := by unfold ps; rw [h]
theorem nof_no {l : List UInt8} (h : rd mks l = none) {s : ByteArray} (hs : s.size ≤ 1000000) (hl : s.data.toList = l) (w : World) (hL : Laid w) :
    Calls Tryz.prog 38 #[.string s] w fun e w' => (∃ a b c d f g : Int, e = .returned (.tuple #[.agg #[.int .i64 a, .int .i64 b, .int .i64 c, .int .i64 d, .int .i64 f, .int .i64 g], .bool false])) ∧ Below w.heap.size w w' :=
  (numbersOf_any s hs w hL).mono fun e w' ⟨he, hw⟩ => ⟨by rw [hl, h] at he; exact he, hw⟩
theorem nof_yes {l : List UInt8} {a b c d f g : Int} (h : rd mks l = some [a, b, c, d, f, g]) {s : ByteArray} (hs : s.size ≤ 1000000) (hl : s.data.toList = l) (w : World) (hL : Laid w) :
    Calls Tryz.prog 38 #[.string s] w fun e w' => e = .returned (.tuple #[.agg #[.int .i64 a, .int .i64 b, .int .i64 c, .int .i64 d, .int .i64 f, .int .i64 g], .bool true]) ∧ Below w.heap.size w w' :=
  (numbersOf_any s hs w hL).mono fun e w' ⟨he, hw⟩ => ⟨by
    rw [hl, h] at he
    obtain ⟨a', b', c', d', f', g', hl, he⟩ := he
    simp only [List.cons.injEq, and_true] at hl
    obtain ⟨rfl, rfl, rfl, rfl, rfl, rfl⟩ := hl
    exact he, hw⟩
theorem rd_len : ∀ (ps : List (List UInt8 × Nat)) (l : List UInt8) (r : List Int), rd ps l = some r → r.length = ps.length
  | [], l, r, h => by
    unfold rd at h
    split at h
    · simp at h; subst h; rfl
    · simp at h
  | (mk, k) :: ps, l, r, h => by
    unfold rd at h
    split at h
    · cases hr : rd ps ((Lib.trimPrefix l mk).drop k) with
      | none => rw [hr] at h; simp at h
      | some q =>
        rw [hr] at h
        simp at h
        subst h
        have := rd_len ps _ _ hr
        simp [this]
    · simp at h
theorem rd_six {l : List UInt8} {r : List Int} (h : rd mks l = some r) : ∃ a b c d f g : Int, r = [a, b, c, d, f, g] := by
  have := rd_len _ _ _ h
  match r, this with
  | [a, b, c, d, f, g], _ => exact ⟨a, b, c, d, f, g, rfl⟩
set_option maxHeartbeats 1000000 in
theorem parse_any (s : ByteArray) (hs : s.size ≤ 1000000) (w : World) (hL : Laid w) :
    Calls Tryz.prog 19 #[.string s] w fun e w' => e = .returned (.tuple #[.int .i64 (ps s.data.toList).1, .int .i64 (ps s.data.toList).2]) ∧ Below w.heap.size w w' := by
  cases hr : rd mks s.data.toList with
  | none =>
    rw [ps_none hr]
    have HR := Lib.hid hr
    clear hr
    go_enter Tryz.func19, Tryz.ntmps19
    go_wp2_with fail
    refine (nof_no HR.out hs rfl _ hL).mono ?_
    rintro e w1 ⟨⟨a, b, c, d, f, g, rfl⟩, hb⟩
    go_wp2
    go_ret2
    exact ⟨rfl, hb.alloc hb.size _⟩
  | some r =>
    obtain ⟨a, b, c, d, f, g, rfl⟩ := rd_six hr
    rw [ps_some hr]
    obtain ⟨n, x, hp⟩ : ∃ n x, sc a b c d f g = (n, x) := ⟨_, _, rfl⟩
    rw [hp]
    have HR := Lib.hid hr
    have HP := Lib.hid hp
    clear hr hp
    go_enter Tryz.func19, Tryz.ntmps19
    go_wp2_with fail
    refine (nof_yes HR.out hs rfl _ hL).mono ?_
    rintro e w1 ⟨rfl, hb⟩
    go_wp2_with fail
    refine (seconds_is HP.out _).mono ?_
    rintro e w2 ⟨rfl, hb2⟩
    go_wp2
    go_ret2
    exact ⟨rfl, (hb.alloc hb.size _).trans (hb2.mono (hb.alloc hb.size _).size)⟩
end Go.Proofs.YtjdccfegmllphaaGreatDoor
