/-
  The example at the end of each law of this seat is true.
-/
import Derived.Test.YtpjnofanfjedfaaDoorOct
namespace Go.Proofs.YtpjnofanfjedfaaDoor
open Go.RowKit

theorem a7 (w : World) : Calls Tryd.prog 7 #[.string ⟨#[48, 55]⟩] w fun e w' => e = .returned (.tuple #[.int .i64 0, .bool false]) ∧ Below w.heap.size w w' :=
  (parse_any ⟨#[48, 55]⟩ w).mono fun e w' ⟨he, hb⟩ => ⟨by have h : M.parse (⟨#[48, 55]⟩ : ByteArray).data.toList = none := by decide +kernel
                                                          unfold OptOut at he; rw [h] at he; exact he, hb⟩
theorem a9 (w : World) : Calls Tryd.prog 9 #[.string ⟨#[48, 49, 55]⟩] w fun e w' => e = .returned (.tuple #[.int .i64 15, .bool true]) ∧ Below w.heap.size w w' :=
  (parseOct_any ⟨#[48, 49, 55]⟩ w).mono fun e w' ⟨he, hb⟩ => ⟨by have h : octP (⟨#[48, 49, 55]⟩ : ByteArray).data.toList = some 15 := by decide +kernel
                                                                 unfold OptOut at he; rw [h] at he; exact he, hb⟩
theorem a11 (w : World) (hL : Laid w) : Calls Tryd.prog 11 #[.int .i64 (-7)] w fun e w' => e = .returned (.string ⟨#[45, 55]⟩) ∧ Below w.heap.size w w' :=
  (dec_any (-7) w (by decide) (by decide) hL).mono fun e w' ⟨he, hb⟩ => ⟨by have h : Lib.itoa (-7) = [45, 55] := by rw [show (-7 : Int) = -((7 : Nat) : Int) from rfl, Lib.itoa_neg 7 (by decide), Lib.decDigits_one (by decide)]; rfl
                                                                            rw [he, h], hb⟩
theorem a13 (w : World) (hL : Laid w) : Calls Tryd.prog 13 #[.int .i64 9] w fun e w' => e = .returned (.string ⟨#[49, 49]⟩) ∧ Below w.heap.size w w' :=
  (oct_any 9 w (by decide) (by decide) hL).mono fun e w' ⟨he, hb⟩ => ⟨by have h : octOf 9 = [49, 49] := by
                                                                           show digB 8 9 = _
                                                                           rw [digB_big (by decide) (by decide), digB_small (by decide)]; rfl
                                                                         rw [he, h]; rfl, hb⟩
theorem a15 (w : World) (hL : Laid w) : Calls Tryd.prog 15 #[.int .i64 7, .int .i64 3] w fun e w' => e = .returned (.string ⟨#[48, 48, 55]⟩) ∧ Below w.heap.size w w' :=
  (pad_any 7 3 w (by decide) (by decide) hL).mono fun e w' ⟨he, hb⟩ => ⟨by have h : padOf 7 3 = [48, 48, 55] := by
                                                                             show padL 3 (Lib.itoa ((7 : Nat) : Int)) = _
                                                                             rw [Lib.itoa_nonneg, Lib.decDigits_one (by decide)]; rfl
                                                                           rw [he, h]; rfl, hb⟩
theorem below_two {w w1 w2 : World} (h1 : Below w.heap.size w w1) (h2 : Below w1.heap.size w1 w2) : Below w.heap.size w w2 := h1.trans (h2.mono h1.size)

set_option maxHeartbeats 1000000 in
theorem awake_any (w : World) (hL : Laid w) : Calls Tryd.prog 6 #[] w fun e w' => e = .returned (.bool true) ∧ Below w.heap.size w w' := by
  go_enter Tryd.func6, Tryd.ntmps6
  go_wp2_with (go_at_call 7; refine (a7 _).mono ?_; rintro e w1 ⟨rfl, hb1⟩)
  go_wp2_with (go_at_call 9; refine (a9 _).mono ?_; rintro e w2 ⟨rfl, hb2⟩)
  have hb2' := below_two hb1 hb2
  have hL2 := hL.of_below hb2'
  refine (a11 _ hL2).mono ?_
  rintro e w3 ⟨rfl, hb3⟩
  have hL3 := hL2.of_below hb3
  go_wp2_with (go_at_call 13; refine (a13 _ hL3).mono ?_; rintro e w4 ⟨rfl, hb4⟩)
  have hL4 := hL3.of_below hb4
  go_wp2_with (go_at_call 15; refine (a15 _ hL4).mono ?_; rintro e w5 ⟨rfl, hb5⟩)
  go_ret
  exact ⟨rfl, below_two (below_two (below_two hb2' hb3) hb4) hb5⟩
end Go.Proofs.YtpjnofanfjedfaaDoor
