/-
  The law NameTells.
-/
import Derived.Test.YtejiogopppjjoaaDoorLaws
namespace Go.Proofs.YtejiogopppjjoaaDoor
open Go.RowKit Go.Shelf

theorem all_parts (s : ByteArray) (hs : s.size ≤ 4200) (w : World) :
    Calls Tryd.prog 8 #[.string s, .int .i64 5000] w fun e w' => ∃ v, e = .returned (.tuple #[v, .bool true]) ∧ Texts w.heap.size v (M.parts s.data.toList) w' ∧ Below w.heap.size w w' := by
  have h := all_any s (by omega) 5000 (by decide) w (by decide)
  rwa [List.take_of_length_le (by have := M.parts_len s.data.toList; rw [← Lib.size_eq] at this; omega)] at h

set_option maxHeartbeats 4000000 in
theorem nameTells_walk (s : ByteArray) (w : World) : Calls Tryd.prog 3 #[.string s] w fun e w' => e = .returned (.bool true) ∧ Below w.heap.size w w' := by
  by_cases hf : Few s
  · have hs : s.size ≤ 4200 := by unfold Few at hf; omega
    have cf := few_yes hf
    have ca := all_parts s hs
    have cc := check_any s
    have cc' := refCheck_any s (by omega)
    have cp := path_any s
    have cp' := refPath_any s (by omega)
    have cq := refParts_any s (by omega)
    have cs := slash_any s (by omega)
    have cs' := refSlash_any s (by omega)
    have cl := last_any s (by omega)
    have cl' := refLast_any s (by omega)
    have hpl : (M.parts s.data.toList).length ≤ 10000 := by have := M.parts_len s.data.toList; rw [← Lib.size_eq] at this; omega
    clear hf hs
    generalize M.check s.data.toList = c at cc cc'
    generalize M.path s.data.toList = p at cp cp'
    generalize M.slash s.data.toList = b at cs cs'
    generalize M.last s.data.toList = t at cl cl'
    generalize M.parts s.data.toList = xs at ca cq hpl
    go_enter Tryd.func3, Tryd.ntmps3
    go_wp2_with (first
      | (go_at_call 6; refine (cf _).mono ?_; rintro e w1 ⟨rfl, rfl⟩)
      | (go_at_call 8; refine (ca _).mono ?_; rintro e w1 ⟨v, rfl, hT, hb1⟩)
      | (go_at_call 9; refine (cc _).mono ?_; rintro e w9 ⟨rfl, rfl⟩)
      | (go_at_call 10; refine (cc' _).mono ?_; rintro e w9 ⟨rfl, rfl⟩)
      | (go_at_call 11; refine (cp _).mono ?_; rintro e w9 ⟨rfl, rfl⟩)
      | (go_at_call 12; refine (cp' _).mono ?_; rintro e w9 ⟨rfl, rfl⟩)
      | (go_at_call 14; refine (cq _).mono ?_; rintro e w2 ⟨v2, rfl, hT2, hb2⟩)
      | (go_at_call 13; refine (same_true _ _ xs hpl _ (hT.below hb2).reads hT2.reads).mono ?_; rintro e w3 ⟨rfl, hb3⟩)
      | (go_at_call 15; refine (cs _).mono ?_; rintro e w9 ⟨rfl, rfl⟩)
      | (go_at_call 16; refine (cs' _).mono ?_; rintro e w4 ⟨rfl, hb4⟩)
      | (go_at_call 17; refine (cl _).mono ?_; rintro e w9 ⟨rfl, rfl⟩)
      | (go_at_call 18; refine (cl' _).mono ?_; rintro e w5 ⟨rfl, hb5⟩)
      | (go_at_call 7; refine (awake_any _).mono ?_; rintro e w6 ⟨rfl, hb6⟩))
    go_ret
    exact ⟨by simp, below_two (below_two (below_two (below_two (below_two hb1 hb2 (Nat.le_refl _)) hb3 (Nat.le_refl _)) hb4 (Nat.le_refl _)) hb5 (Nat.le_refl _)) hb6 (Nat.le_refl _)⟩
  · have cf := few_no hf
    clear hf
    go_enter Tryd.func3, Tryd.ntmps3
    go_wp2_with (first
      | (go_at_call 6; refine (cf _).mono ?_; rintro e w1 ⟨rfl, rfl⟩)
      | (go_at_call 7; refine (awake_any _).mono ?_; rintro e w6 ⟨rfl, hb6⟩))
    go_ret
    exact ⟨rfl, hb6⟩

end Go.Proofs.YtejiogopppjjoaaDoor
