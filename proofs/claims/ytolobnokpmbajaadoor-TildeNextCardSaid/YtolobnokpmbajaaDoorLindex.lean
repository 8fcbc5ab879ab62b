/-
  tilde.Index; the law's own index.
-/
import Derived.Test.YtolobnokpmbajaaDoorLname
namespace Go.Proofs.YtolobnokpmbajaaDoor.L
open Go.RowKit Go.Shelf

theorem ix_nil (s : List UInt8) : ix [] s = 0 := by unfold ix; rw [if_pos rfl]
theorem ix_mid {b s d : List UInt8} (hb : b ≠ []) (h : mid b s = some d) : ix b s = ixOf d := by unfold ix; rw [if_neg hb, h]
theorem ix_none {b s : List UInt8} (h : mid b s = none) : ix b s = 0 := by unfold ix; rw [h]; split <;> rfl
theorem ixOf_none {d : List UInt8} (h : K.M.parse d = none) : ixOf d = 0 := by unfold ixOf; rw [h]
theorem ixOf_yes {d : List UInt8} {n : Int} (h : K.M.parse d = some n) (hv : vn n = true) : ixOf d = n := by unfold ixOf; rw [h]; simp [hv]
theorem ixOf_no {d : List UInt8} {n : Int} (h : K.M.parse d = some n) (hv : vn n = false) : ixOf d = 0 := by unfold ixOf; rw [h]; simp [hv]
theorem parse_out {d : List UInt8} {n : Int} {b : Bool} (h : (K.M.parse d).getD 0 = n ∧ (K.M.parse d).isSome = b) (w : World) :
    Calls Tryd.prog 53 #[.string ⟨d.toArray⟩] w fun e w' => e = .returned (.tuple #[.int .i64 n, .bool b]) ∧ Below w.heap.size w w' := by
  refine (K.parse_any ⟨d.toArray⟩ w).mono fun e w' ⟨he, hb⟩ => ⟨?_, hb⟩
  unfold K.OptOut at he
  rw [show (⟨d.toArray⟩ : ByteArray).data.toList = d from rfl, h.1, h.2] at he
  exact he
theorem refParse_out {d : List UInt8} {n : Int} {b : Bool} (h : (K.M.parse d).getD 0 = n ∧ (K.M.parse d).isSome = b) (w : World) :
    Calls Tryd.prog 54 #[.string ⟨d.toArray⟩] w fun e w' => e = .returned (.tuple #[.int .i64 n, .bool b]) ∧ Below w.heap.size w w' := by
  refine (K.refParse_any ⟨d.toArray⟩ w).mono fun e w' ⟨he, hb⟩ => ⟨?_, hb⟩
  unfold K.OptOut at he
  rw [show (⟨d.toArray⟩ : ByteArray).data.toList = d from rfl, h.1, h.2] at he
  exact he
theorem cutp (s p : List UInt8) {r : List UInt8} {b : Bool} (hr : Lib.trimPrefix s p = r) (hb : Lib.hasPrefix s p = b) (w : World) :
    Calls Tryd.prog 51 #[.string ⟨s.toArray⟩, .string ⟨p.toArray⟩] w fun e w' => e = .returned (.tuple #[.string ⟨r.toArray⟩, .bool b]) ∧ w' = w := by
  have := Tryd.strings_CutPrefix ⟨s.toArray⟩ ⟨p.toArray⟩ w
  rwa [show (⟨s.toArray⟩ : ByteArray).data.toList = s from rfl, show (⟨p.toArray⟩ : ByteArray).data.toList = p from rfl, hr, hb] at this
theorem cuts (s p : List UInt8) {r : List UInt8} {b : Bool} (hr : Lib.trimSuffix s p = r) (hb : Lib.hasSuffix s p = b) (hs : s.length ≤ 5000) (w : World) :
    Calls Tryd.prog 52 #[.string ⟨s.toArray⟩, .string ⟨p.toArray⟩] w fun e w' => e = .returned (.tuple #[.string ⟨r.toArray⟩, .bool b]) ∧ w' = w := by
  have := Tryd.strings_CutSuffix ⟨s.toArray⟩ ⟨p.toArray⟩ w (by rw [size_l]; omega)
  rwa [show (⟨s.toArray⟩ : ByteArray).data.toList = s from rfl, show (⟨p.toArray⟩ : ByteArray).data.toList = p from rfl, hr, hb] at this
theorem trim_le (s p : List UInt8) : (Lib.trimPrefix s p).length ≤ s.length := by
  unfold Lib.trimPrefix; split
  · simp
  · omega

set_option maxHeartbeats 4000000 in
theorem index_any (b s : List UInt8) (hs : s.length ≤ 2000) (w : World) :
    Calls Tryd.prog 25 #[.string ⟨b.toArray⟩, .string ⟨s.toArray⟩] w fun e w' => e = .returned (.int .i64 (ix b s)) ∧ Below w.heap.size w w' := by
  by_cases hb0 : b = []
  · subst hb0
    rw [ix_nil]
    go_enter Tryd.func25, Tryd.ntmps25
    go_wp2
    go_ret
    exact ⟨rfl, Below.refl _ _⟩
  have hbe : b.isEmpty = false := by cases b <;> simp_all
  cases hm : mid b s with
  | none =>
    have HI := Lib.hid (ix_none hm)
    obtain ⟨r1, hr1⟩ : ∃ r, Lib.trimPrefix s b = r := ⟨_, rfl⟩
    obtain ⟨p1, hp1⟩ : ∃ r, Lib.hasPrefix s b = r := ⟨_, rfl⟩
    obtain ⟨r2, hr2⟩ : ∃ r, Lib.trimPrefix r1 [46, 126] = r := ⟨_, rfl⟩
    obtain ⟨p2, hp2⟩ : ∃ r, Lib.hasPrefix r1 [46, 126] = r := ⟨_, rfl⟩
    obtain ⟨r3, hr3⟩ : ∃ r, Lib.trimSuffix r2 [126] = r := ⟨_, rfl⟩
    obtain ⟨p3, hp3⟩ : ∃ r, Lib.hasSuffix r2 [126] = r := ⟨_, rfl⟩
    have hl2 : r2.length ≤ 5000 := by have := trim_le s b; have := trim_le r1 [46, 126]; rw [hr1] at *; rw [hr2] at *; omega
    have c1 := fun w => cutp s b hr1 hp1 w
    have c2 := fun w => cutp r1 [46, 126] hr2 hp2 w
    have c3 := fun w => cuts r2 [126] hr3 hp3 hl2 w
    have hn : ¬ (p1 = true ∧ p2 = true ∧ p3 = true) := by
      rintro ⟨rfl, rfl, rfl⟩
      subst hr1 hr2
      rw [prefix_mid hp1 hp2 hp3] at hm
      cases hm
    clear hr1 hp1 hr2 hp2 hr3 hp3 hm hl2 hb0
    rcases p1 with _ | _ <;> rcases p2 with _ | _ <;> rcases p3 with _ | _
    all_goals first
      | (exact absurd ⟨rfl, rfl, rfl⟩ hn)
      | (clear hn
         go_enter Tryd.func25, Tryd.ntmps25
         go_wp2_with (first
           | (go_at_call 51; (first | (refine (c1 _).mono ?_; clear c1; rintro e w1 ⟨rfl, hw1⟩; obtain rfl := hw1.symm) | (refine (c2 _).mono ?_; rintro e w1 ⟨rfl, hw1⟩; obtain rfl := hw1.symm)))
           | (go_at_call 52; refine (c3 _).mono ?_; rintro e w1 ⟨rfl, hw1⟩; obtain rfl := hw1.symm))
         go_ret
         exact ⟨by rw [HI.out]; rfl, Below.refl _ _⟩)
  | some d =>
    have HI := Lib.hid (ix_mid hb0 hm)
    obtain ⟨hp1, hp2, hp3, hr3⟩ := mid_prefix hm
    obtain ⟨r1, hr1⟩ : ∃ r, Lib.trimPrefix s b = r := ⟨_, rfl⟩
    rw [hr1] at hp2 hp3 hr3
    obtain ⟨r2, hr2⟩ : ∃ r, Lib.trimPrefix r1 [46, 126] = r := ⟨_, rfl⟩
    rw [hr2] at hp3 hr3
    have hl2 : r2.length ≤ 5000 := by have := trim_le s b; have := trim_le r1 [46, 126]; rw [hr1] at *; rw [hr2] at *; omega
    have c1 := fun w => cutp s b hr1 hp1 w
    have c2 := fun w => cutp r1 [46, 126] hr2 hp2 w
    have c3 := fun w => cuts r2 [126] hr3 hp3 hl2 w
    clear hr1 hp1 hr2 hp2 hr3 hp3 hm hl2 hb0
    cases hp : K.M.parse d with
    | none =>
      have HX := Lib.hid (ixOf_none hp)
      have cp := fun w => parse_out (d := d) (n := 0) (b := false) (by rw [hp]; exact ⟨rfl, rfl⟩) w
      clear hp
      go_enter Tryd.func25, Tryd.ntmps25
      go_wp2_with (first
        | (go_at_call 51; (first | (refine (c1 _).mono ?_; clear c1; rintro e w1 ⟨rfl, hw1⟩; obtain rfl := hw1.symm) | (refine (c2 _).mono ?_; rintro e w1 ⟨rfl, hw1⟩; obtain rfl := hw1.symm)))
        | (go_at_call 52; refine (c3 _).mono ?_; rintro e w1 ⟨rfl, hw1⟩; obtain rfl := hw1.symm)
        | (go_at_call 53; refine (cp _).mono ?_; rintro e w2 ⟨rfl, hb2⟩))
      go_ret
      exact ⟨by rw [HI.out, HX.out]; rfl, hb2⟩
    | some n =>
      have cp := fun w => parse_out (d := d) (n := n) (b := true) (by rw [hp]; exact ⟨rfl, rfl⟩) w
      cases hv : vn n
      · have HX := Lib.hid (ixOf_no hp hv)
        have cv := fun w => valid_is hv w
        clear hp hv
        go_enter Tryd.func25, Tryd.ntmps25
        go_wp2_with (first
          | (go_at_call 51; (first | (refine (c1 _).mono ?_; clear c1; rintro e w1 ⟨rfl, hw1⟩; obtain rfl := hw1.symm) | (refine (c2 _).mono ?_; rintro e w1 ⟨rfl, hw1⟩; obtain rfl := hw1.symm)))
          | (go_at_call 52; refine (c3 _).mono ?_; rintro e w1 ⟨rfl, hw1⟩; obtain rfl := hw1.symm)
          | (go_at_call 53; refine (cp _).mono ?_; rintro e w2 ⟨rfl, hb2⟩)
          | (go_at_call 47; refine (cv _).mono ?_; rintro e w1 ⟨rfl, hw1⟩; obtain rfl := hw1.symm))
        go_ret
        exact ⟨by rw [HI.out, HX.out]; rfl, hb2⟩
      · have HX := Lib.hid (ixOf_yes hp hv)
        have cv := fun w => valid_is hv w
        clear hp hv
        go_enter Tryd.func25, Tryd.ntmps25
        go_wp2_with (first
          | (go_at_call 51; (first | (refine (c1 _).mono ?_; clear c1; rintro e w1 ⟨rfl, hw1⟩; obtain rfl := hw1.symm) | (refine (c2 _).mono ?_; rintro e w1 ⟨rfl, hw1⟩; obtain rfl := hw1.symm)))
          | (go_at_call 52; refine (c3 _).mono ?_; rintro e w1 ⟨rfl, hw1⟩; obtain rfl := hw1.symm)
          | (go_at_call 53; refine (cp _).mono ?_; rintro e w2 ⟨rfl, hb2⟩)
          | (go_at_call 47; refine (cv _).mono ?_; rintro e w1 ⟨rfl, hw1⟩; obtain rfl := hw1.symm))
        go_ret
        exact ⟨by rw [HI.out, HX.out]; rfl, hb2⟩
end Go.Proofs.YtolobnokpmbajaaDoor.L
