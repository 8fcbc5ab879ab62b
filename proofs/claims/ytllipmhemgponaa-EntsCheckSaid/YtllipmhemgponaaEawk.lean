/-
  The laws' awake: the chapter's example.
-/
import Derived.Test.YtllipmhemgponaaEsame
namespace Go.Proofs.Ytllipmhemgponaa.E
open Go.RowKit Go.Shelf

theorem two_sees (x y : Ent) (w : World) (t : TypeId) : Sees (.slice (some ⟨w.heap.size, 0, none⟩) 2 2) [x, y] (w.alloc (.cells #[.string ⟨x.name.toArray⟩, .int .i64 x.no, .string ⟨y.name.toArray⟩, .int .i64 y.no] t)) := by
  refine ⟨_, 2, rfl, ⟨Nat.le_refl _, by decide⟩, fun k z h => ⟨w.heap.size, 0, rfl, ?_⟩⟩
  match k, h with
  | 0, h => cases h; exact ⟨by rw [World.cell?_alloc_new]; rfl, by rw [World.cell?_alloc_new]; rfl⟩
  | 1, h => cases h; exact ⟨by rw [World.cell?_alloc_new]; rfl, by rw [World.cell?_alloc_new]; rfl⟩
  | k + 2, h => simp at h
def capOf : Value → Nat
  | .slice _ _ c => c
  | _ => 0
theorem seen3 {u : Value} {x y z : Ent} {w : World} (h : Sees u [x, y, z] w) : ∃ g o, u = .slice (some ⟨g, o, none⟩) 3 (capOf u) ∧ w.cell? ⟨g, o + 2, none⟩ = some (.string ⟨y.name.toArray⟩) ∧ w.cell? ⟨g, o + 3, none⟩ = some (.int .i64 y.no) := by
  obtain ⟨oa, cap, rfl, _, hc⟩ := h
  obtain ⟨g, o, rfl, h0, h1⟩ := hc 1 y rfl
  exact ⟨g, o, rfl, h0, h1⟩
abbrev exA : Ent := ⟨[97], 1⟩
abbrev exB : Ent := ⟨[98], 3⟩
abbrev exC : Ent := ⟨[99], 2⟩
abbrev exD : Ent := ⟨[97], 2⟩
theorem ex_put : put [exA, exC] exB = [exA, exB, exC] := by decide +kernel
theorem ex_up : Up [exA, exC] := by unfold Up; decide +kernel
theorem ex_up3 : Up [exA, exB, exC] := by unfold Up; decide +kernel
theorem ex_no : noOf [exA, exB, exC] [99] = 2 := by decide +kernel
theorem ex_chk : chk [exA, exB, exC] = true := by decide +kernel
theorem ex_not : chk [exA, exD] = false := by decide +kernel

set_option maxRecDepth 100000 in
set_option maxHeartbeats 4000000 in
theorem awake_any (w : World) : Calls Try.prog 6 #[] w fun e w' => e = .returned (.bool true) ∧ Below w.heap.size w w' := by
  obtain ⟨W, hW⟩ : ∃ W, W = w.alloc (.cells #[.string ⟨#[97]⟩, .int .i64 1, .string ⟨#[99]⟩, .int .i64 2] 25) := ⟨_, rfl⟩
  have B0 : Below w.heap.size w W := by rw [hW]; exact (Below.refl _ _).alloc (Nat.le_refl _) _
  have S0 : Sees (.slice (some ⟨w.heap.size, 0, none⟩) 2 2) [exA, exC] W := by rw [hW]; exact two_sees exA exC w _
  have c1 := put_any S0 [98] 3 ex_up (by decide)
  rw [ex_put] at c1
  have HW := Lib.hid hW; have HB0 := Lib.hid B0
  clear hW B0 S0
  go_enter Try.func6, Try.ntmps6
  go_wp2_with fail
  rw [← HW.out]
  go_wp2_with (first
    | (go_at_call 9; refine c1.mono ?_; rintro e w1 ⟨u, rfl, hO, hb1⟩
       have hS := hO.sees
       have HS := Lib.hid hS
       obtain ⟨g, o, h⟩ : ∃ g o, u = .slice (some ⟨g, o, none⟩) 3 (capOf u) ∧ w1.cell? ⟨g, o + 2, none⟩ = some (.string ⟨#[98]⟩) ∧ w1.cell? ⟨g, o + 3, none⟩ = some (.int .i64 3) := seen3 hS
       obtain ⟨hu, h0, h1⟩ := h
       generalize capOf u = cap at hu
       subst hu
       clear hS hO)
    | (go_at_call 14; refine (find_any HS.out [99] ex_up3 (by decide)).mono ?_; rw [ex_no]; rintro e w2 ⟨rfl, hb2⟩)
    | (go_at_call 12; refine (check_any (HS.out.below hb2) (by decide)).mono ?_; rw [ex_chk]; rintro e w3 ⟨rfl, hb3⟩; have HS3 := Lib.hid (two_sees exA exD w3 25); clear HS)
    | (go_at_call 12; refine (check_any HS3.out (by decide)).mono ?_; rw [ex_not]; rintro e w4 ⟨rfl, hb4⟩))
  go_ret
  exact ⟨rfl, below_two (below_two (below_two (below_two (below_two HB0.out hb1) hb2) hb3) ((Below.refl _ _).alloc (Nat.le_refl _) _)) hb4⟩
end Go.Proofs.Ytllipmhemgponaa.E
