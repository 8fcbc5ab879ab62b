/-
  The law NameStops.
-/
import Derived.Test.YtejiogopppjjoaaDoorLawa
namespace Go.Proofs.YtejiogopppjjoaaDoor
open Go.RowKit Go.Shelf

theorem Texts.cap_le {B g cap n : Nat} {ps : List (List UInt8)} {w : World} (h : Texts B (.slice (some ⟨g, 0, none⟩) n cap) ps w) : ps.length ≤ cap := by
  rcases h.2 with ⟨h', _⟩ | ⟨g', cap', cur, h', _, _, h2, _⟩
  · simp at h'
  · simp only [Value.slice.injEq] at h'; omega
theorem Texts.cut {B g cap n m : Nat} {ps qs : List (List UInt8)} {w : World} (h : Texts B (.slice (some ⟨g, 0, none⟩) n cap) ps w) (hq : ps.take m = qs) :
    ∀ k p, qs[k]? = some p → ∃ g', (some ⟨g, 0, none⟩ : Option Addr) = some ⟨g', 0, none⟩ ∧ w.cell? ⟨g', k, none⟩ = some (.string ⟨p.toArray⟩) := by
  intro k p hk
  refine ⟨g, rfl, h.cell k p ?_⟩
  rw [← hq, List.getElem?_take] at hk
  split at hk
  · exact hk
  · simp at hk

set_option maxHeartbeats 4000000 in
theorem nameStops_walk (s : ByteArray) (n : Int) (h0 : 0 ≤ n) (h1 : n < 256) (w : World) : Calls Tryd.prog 5 #[.string s, .int .u8 n] w fun e w' => e = .returned (.bool true) ∧ Below w.heap.size w w' := by
  by_cases hf : Few s
  · have hs : s.size ≤ 4200 := by unfold Few at hf; omega
    have cf := few_yes hf
    obtain ⟨most, hm⟩ : ∃ most : Nat, n % 8 + 1 = most := ⟨(n % 8 + 1).toNat, by omega⟩
    have hm1 : 1 ≤ most := by omega
    have hm2 : most ≤ 8 := by omega
    have ca := fun w => all_any s (by omega) most hm1 w (by omega)
    have cq := refParts_any s (by omega)
    have hpl : (M.parts s.data.toList).length ≤ 10000 := by have := M.parts_len s.data.toList; rw [← Lib.size_eq] at this; omega
    clear hf hs
    generalize M.parts s.data.toList = xs at ca cq hpl
    have hk : (xs.take most).length = min most xs.length := List.length_take
    obtain ⟨ys, HY⟩ : ∃ ys, Hid (xs.take most = ys) := ⟨_, Lib.hid rfl⟩
    rw [HY.out] at hk
    have hyl : ys.length ≤ 10000 := by omega
    have hmin : min (most : Int) (xs.length : Int) = (ys.length : Int) := by rw [hk]; omega
    have ca' : ∀ w, Calls Tryd.prog 8 #[.string s, .int .i64 most] w fun e w' => ∃ v, e = .returned (.tuple #[v, .bool true]) ∧ Texts w.heap.size v ys w' ∧ Below w.heap.size w w' := by
      intro w; have := ca w; rwa [HY.out] at this
    clear ca
    have HK := Lib.hid hk; clear hk
    by_cases hx : xs = []
    · subst hx
      obtain rfl : ys = [] := by rw [← HY.out]; simp
      have hmin2 : min (most : Int) 0 = 0 := by omega
      clear hmin
      go_enter Tryd.func5, Tryd.ntmps5
      go_wp2_with (first
        | (go_at_call 6; refine (cf _).mono ?_; rintro e w1 ⟨rfl, rfl⟩)
        | (go_at_call 8; refine (ca' _).mono ?_; rintro e w1 ⟨v, rfl, hT, hb1⟩)
        | (go_at_call 14; refine (cq _).mono ?_; rintro e w2 ⟨v2, rfl, hT2, hb2⟩; rcases hT2.forms with ⟨rfl, hnil⟩ | ⟨g, cap, rfl⟩)
        | (go_at_call 13; refine (same_true _ _ [] (by decide) _ (hT.below hb2).reads ⟨_, _, rfl, by simp⟩).mono ?_; rintro e w3 ⟨rfl, hb3⟩)
        | (go_at_call 7; refine (awake_any _).mono ?_; rintro e w6 ⟨rfl, hb6⟩))
      all_goals go_ret
      all_goals exact ⟨rfl, below_two (below_two (below_two hb1 hb2 (Nat.le_refl _)) hb3 (Nat.le_refl _)) hb6 (Nat.le_refl _)⟩
    have hpos : 0 < xs.length := List.length_pos_iff.2 hx
    go_enter Tryd.func5, Tryd.ntmps5
    go_wp2_with (first
      | (go_at_call 6; refine (cf _).mono ?_; rintro e w1 ⟨rfl, rfl⟩)
      | (go_at_call 8; refine (ca' _).mono ?_; rintro e w1 ⟨v, rfl, hT, hb1⟩)
      | (go_at_call 14; refine (cq _).mono ?_; rintro e w2 ⟨v2, rfl, hT2, hb2⟩; obtain ⟨g, cap, rfl⟩ := hT2.form hpos; have hcap : (ys.length : Int) ≤ cap := (by have := hT2.cap_le; have := HK.out; omega))
      | (go_at_call 13; refine (same_true _ _ ys hyl _ (hT.below hb2).reads ⟨_, _, rfl, hT2.cut HY.out⟩).mono ?_; rintro e w3 ⟨rfl, hb3⟩)
      | (go_at_call 7; refine (awake_any _).mono ?_; rintro e w6 ⟨rfl, hb6⟩))
    go_ret
    exact ⟨rfl, below_two (below_two (below_two hb1 hb2 (Nat.le_refl _)) hb3 (Nat.le_refl _)) hb6 (Nat.le_refl _)⟩
  · have cf := few_no hf
    clear hf
    go_enter Tryd.func5, Tryd.ntmps5
    go_wp2_with (first
      | (go_at_call 6; refine (cf _).mono ?_; rintro e w1 ⟨rfl, rfl⟩)
      | (go_at_call 7; refine (awake_any _).mono ?_; rintro e w6 ⟨rfl, hb6⟩))
    go_ret
    exact ⟨rfl, hb6⟩
end Go.Proofs.YtejiogopppjjoaaDoor
