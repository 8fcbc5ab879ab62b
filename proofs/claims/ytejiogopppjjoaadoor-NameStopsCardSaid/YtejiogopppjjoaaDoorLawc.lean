/-
  The law NameParts.
-/
import Derived.Test.YtejiogopppjjoaaDoorLawb
namespace Go.Proofs.YtejiogopppjjoaaDoor
open Go.RowKit Go.Shelf

theorem total_step {xs : List (List UInt8)} {k : Nat} {p : List UInt8} (h : xs[k]? = some p) : M.total (xs.take (k + 1)) = M.total (xs.take k) + p.length := by
  rw [List.take_add_one, h]; exact M.total_snoc _ _

set_option maxHeartbeats 4000000 in
theorem nameParts_walk (s : ByteArray) (w : World) : Calls Tryd.prog 4 #[.string s] w fun e w' => e = .returned (.bool true) ∧ Below w.heap.size w w' := by
  by_cases hf : Few s
  · have hs : s.size ≤ 4200 := by unfold Few at hf; omega
    have cf := few_yes hf
    have ca := all_parts s hs
    have hpl : (M.parts s.data.toList).length ≤ 10000 := by have := M.parts_len s.data.toList; rw [← Lib.size_eq] at this; omega
    have HN : Hid (∀ p ∈ M.parts s.data.toList, M.check p = 0 ∨ p = [46, 46] ∨ 255 < p.length ∨ (0 : UInt8) ∈ p) := Lib.hid fun p hp => M.part_name hp
    have HT : Hid (∀ k, M.total ((M.parts s.data.toList).take k) ≤ s.size) := Lib.hid fun k => by
      have h1 := M.parts_total s.data.toList
      have h2 := M.total_take (M.parts s.data.toList) k
      rw [← Lib.size_eq] at h1; omega
    clear hf
    generalize M.parts s.data.toList = xs at ca hpl HN HT
    go_enter Tryd.func4, Tryd.ntmps4
    go_wp2_with (first
      | (go_at_call 6; refine (cf _).mono ?_; rintro e w1 ⟨rfl, rfl⟩)
      | (go_at_call 8; refine (ca _).mono ?_; rintro e w1 ⟨v, rfl, hT, hb1⟩; obtain ⟨oa, cap, rfl, hcell⟩ := hT.reads; clear hT))
    go_loop [5, 6] (fun n i => ∃ k : Nat, k ≤ xs.length ∧ i = .int .i64 k ∧ n = .int .i64 (M.total (xs.take k))) (fun _ i => xs.length - (intOf i).toNat)
    case atStart => exact ⟨0, Nat.zero_le _, rfl, rfl⟩
    case round =>
      obtain ⟨k, hk, rfl, rfl⟩ := hrel
      clear cf ca
      by_cases hkl : k < xs.length
      · obtain ⟨p, hp⟩ : ∃ p, xs[k]? = some p := ⟨_, List.getElem?_eq_getElem hkl⟩
        obtain ⟨g, rfl, hc⟩ := hcell k p hp
        have hn := HN.out p (List.mem_of_getElem? hp)
        have hst := total_step hp
        have ht1 := HT.out k
        have ht2 := HT.out (k + 1)
        obtain ⟨T, hTk⟩ : ∃ T, M.total (xs.take k) = T := ⟨_, rfl⟩
        rw [hst] at ht2
        rw [hTk] at ht1 ht2 hst ⊢
        have HS := Lib.hid hst
        clear hcell hp hst hTk
        have hpl2 : p.length ≤ 4200 := by omega
        have cc := check_any ⟨p.toArray⟩
        rw [show (⟨p.toArray⟩ : ByteArray).data.toList = p from rfl] at cc
        by_cases hA : M.check p = 0
        · rw [hA] at cc
          clear hA hn
          go_wp2_with (go_at_call 9; refine (cc _).mono ?_; rintro e w9 ⟨rfl, rfl⟩)
          go_round
          case rel => exact ⟨k + 1, by omega, by go_num, by rw [HS.out]; go_num⟩
          case measure => simp [intOf]; omega
        have hn := hn.resolve_left hA
        generalize M.check p = c at cc hA
        by_cases hB : p = [46, 46]
        · subst hB
          clear hn
          go_wp2_with (go_at_call 9; refine (cc _).mono ?_; rintro e w9 ⟨rfl, rfl⟩)
          go_round
          case rel => exact ⟨k + 1, by omega, by go_num, by rw [HS.out]; go_num⟩
          case measure => simp [intOf]; omega
        have hn := hn.resolve_left hB
        have hB' : (p == [46, 46]) = false := by simpa using hB
        by_cases hC : 255 < p.length
        · have hC' : ¬ (p.length : Int) ≤ 255 := by omega
          clear hn
          go_wp2_with (go_at_call 9; refine (cc _).mono ?_; rintro e w9 ⟨rfl, rfl⟩)
          go_round
          case rel => exact ⟨k + 1, by omega, by go_num, by rw [HS.out]; go_num⟩
          case measure => simp [intOf]; omega
        have hn := hn.resolve_left hC
        have ch := has_yes (s := ⟨p.toArray⟩) (c := 0) (by rw [Lib.size_eq]; exact Nat.le_trans hpl2 (by decide)) hn
        have hC' : (p.length : Int) ≤ 255 := by omega
        clear hn
        go_wp2_with (first
          | (go_at_call 9; refine (cc _).mono ?_; rintro e w9 ⟨rfl, rfl⟩)
          | (go_at_call 19; refine (ch _).mono ?_; rintro e w9 ⟨rfl, rfl⟩))
        go_round
        case rel => exact ⟨k + 1, by omega, by go_num, by rw [HS.out]; go_num⟩
        case measure => simp [intOf]; omega
      · have ht := HT.out k
        have ht' : (M.total (xs.take k) : Int) ≤ s.size := by omega
        clear hcell
        generalize M.total (xs.take k) = T at ht ht'
        go_wp2_with (go_at_call 7; refine (awake_any _).mono ?_; rintro e w6 ⟨rfl, hb6⟩)
        go_ret
        exact ⟨rfl, below_two hb1 hb6 (Nat.le_refl _)⟩
  · have cf := few_no hf
    clear hf
    go_enter Tryd.func4, Tryd.ntmps4
    go_wp2_with (first
      | (go_at_call 6; refine (cf _).mono ?_; rintro e w1 ⟨rfl, rfl⟩)
      | (go_at_call 7; refine (awake_any _).mono ?_; rintro e w6 ⟨rfl, hb6⟩))
    go_ret
    exact ⟨rfl, hb6⟩
end Go.Proofs.YtejiogopppjjoaaDoor
