/-
  The walks of EntsCheck and EntsKeep.
-/
import Derived.Test.YtllipmhemgponaaEawk
namespace Go.Proofs.Ytllipmhemgponaa.E
open Go.RowKit Go.Shelf

set_option maxRecDepth 100000 in
set_option maxHeartbeats 8000000 in
theorem entsCheck_walk (v : Value) (ls : List Ent) (w : World) (hS : Sees v ls w) (hsz : ls.length ≤ 9223372036854775807) :
    Calls Try.prog 4 #[v] w fun e w' => e = .returned (.bool true) ∧ Below w.heap.size w w' := by
  have HS := Lib.hid hS
  obtain ⟨oa, cap, rfl, _, hcells⟩ := hS
  have HC := Lib.hid hcells
  have ca := fun w' => awake_any w'
  clear hcells
  by_cases hl : ls.length ≤ 40
  · have hl' : ¬ (40 : Int) < ls.length := by omega
    go_enter Try.func4, Try.ntmps4
    go_wp2
    go_loopw [3, 4] (fun r i wr => ∃ k : Nat, 1 ≤ k ∧ (k ≤ ls.length ∨ k = 1) ∧ i = .int .i64 k ∧ r = .bool (chk (ls.take k)) ∧ Below w.heap.size w wr) (fun _ i _ => ls.length - (intOf i).toNat)
    case atStart => exact ⟨1, Nat.le_refl _, .inr rfl, rfl, by rw [chk_one (Nat.le_refl _)], Below.refl _ _⟩
    case round =>
      obtain ⟨k, hk1, hk, rfl, rfl, hb⟩ := hrel
      by_cases hlt : k < ls.length
      · obtain ⟨j, rfl⟩ : ∃ j, k = j + 1 := ⟨k - 1, by omega⟩
        obtain ⟨x, hx⟩ : ∃ x, ls[j]? = some x := ⟨_, List.getElem?_eq_getElem (by omega)⟩
        obtain ⟨y, hy⟩ : ∃ y, ls[j + 1]? = some y := ⟨_, List.getElem?_eq_getElem hlt⟩
        obtain ⟨g, o, rfl, h0, _⟩ := HC.out j x hx
        obtain ⟨g', o', e, h1, _⟩ := HC.out (j + 1) y hy
        cases e
        have hg := World.block_lt_of_cell? _ _ h0
        have d0 := (hb.cell (p := ⟨g, o + j * 2, none⟩) hg).trans h0
        have d1 := (hb.cell (p := ⟨g, o + (j + 1) * 2, none⟩) hg).trans h1
        have HT := Lib.hid (chk_take hx hy)
        have hw1 : IntKind.i64.wrap (j : Int) = (j : Int) := IntWalk.i64_in _ (by omega)
        have hj1 : (j : Int) < (ls.length : Int) := by omega
        have hj2 : (j : Int) + 1 < (ls.length : Int) := by omega
        have hj3 : ((j : Int) + 1).toNat = j + 1 := by omega
        have hj4 : (0 : Int) ≤ (j : Int) + 1 := by omega
        have hk2 : IntKind.i64.wrap ((j : Int) + 1) = (j : Int) + 1 := IntWalk.i64_in _ (by omega)
        have HB := Lib.hid hb
        clear hx hy h0 h1 hb hk1 hk
        generalize chk (ls.take (j + 1)) = r at HT ⊢
        cases r with
        | false =>
          have HN := Lib.hid (HT.out.trans (Bool.false_and _))
          clear HT
          go_wp2
          go_quiet (fail)
          go_wp2
          go_roundw
          case rel => exact ⟨j + 1 + 1, by omega, .inl (by omega), by go_num, by rw [HN.out], below_two HB.out (below_drewN _)⟩
          case measure => simp [intOf]; omega
        | true =>
          have hless : Op.bytesLess x.name y.name = decide (x.name < y.name) := Go.Proofs.bytesLess_eq _ _
          have HN := Lib.hid (HT.out.trans (Bool.true_and _))
          clear HT
          generalize decide (x.name < y.name) = d at hless HN
          cases d with
          | false =>
            go_wp2
            go_quiet (fail)
            go_wp2
            go_roundw
            case rel => exact ⟨j + 1 + 1, by omega, .inl (by omega), by go_num, by rw [HN.out], below_two HB.out (below_drewN _)⟩
            case measure => simp [intOf]; omega
          | true =>
            go_wp2
            go_quiet (fail)
            go_wp2
            go_roundw
            case rel => exact ⟨j + 1 + 1, by omega, .inl (by omega), by go_num, by rw [HN.out], below_two HB.out (below_drewN _)⟩
            case measure => simp [intOf]; omega
      · have HE : Hid (chk (ls.take k) = chk ls) := Lib.hid (by rw [List.take_of_length_le (by omega)])
        have cc := check_any (HS.out.below hb) (by omega)
        rw [HE.out]
        generalize chk ls = r at cc
        have HB := Lib.hid hb
        clear hb
        cases r with
        | false =>
          go_wp2_with (first
            | (go_at_call 12; refine cc.mono ?_; rintro e w1 ⟨rfl, hb1⟩)
            | (go_at_call 6; refine (ca _).mono ?_; rintro e w2 ⟨rfl, hb2⟩))
          go_ret
          exact ⟨rfl, below_two (below_two HB.out hb1) hb2⟩
        | true =>
          go_wp2_with (first
            | (go_at_call 12; refine cc.mono ?_; rintro e w1 ⟨rfl, hb1⟩)
            | (go_at_call 6; refine (ca _).mono ?_; rintro e w2 ⟨rfl, hb2⟩))
          go_ret
          exact ⟨rfl, below_two (below_two HB.out hb1) hb2⟩
  · have hl' : (40 : Int) < ls.length := by omega
    go_enter Try.func4, Try.ntmps4
    go_wp2_with (go_at_call 6; refine (ca _).mono ?_; rintro e w2 ⟨rfl, hb2⟩)
    go_ret
    exact ⟨rfl, hb2⟩
end Go.Proofs.Ytllipmhemgponaa.E
