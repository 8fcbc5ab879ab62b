/-
  The law's Same, of two slices that hold the same entries.
-/
import Derived.Test.YtjkopgdbkmbnmaaPmath
import Derived.Laws.StructEq
import Derived.BigQuiet
namespace Go.Proofs.Ytjkopgdbkmbnmaa.P
open Go.RowKit Go.Shelf G
attribute [local go_sem] Oper.semAt_some

set_option maxRecDepth 100000 in
set_option maxHeartbeats 8000000 in
theorem Same_any {a b : Value} {ls : List E.Ent} {w : World} (ha : E.Sees a ls w) (hb : E.Sees b ls w) (hl : ls.length ≤ 100000) :
    Calls Try.prog 14 #[a, b] w fun e w' => e = .returned (.bool true) ∧ Below w.heap.size w w' := by
  obtain ⟨oa, ca, rfl, _, hca⟩ := ha
  obtain ⟨ob, cb, rfl, _, hcb⟩ := hb
  have HA := Lib.hid hca; have HB := Lib.hid hcb
  clear hca hcb
  go_enter Try.func14, Try.ntmps14
  go_wp2
  go_loopw [5] (fun i wr => ∃ k : Nat, i = .int .i64 k ∧ k ≤ ls.length ∧ Below w.heap.size w wr) (fun i _ => ls.length - (RowKit.intOf i).toNat)
  case atStart => exact ⟨0, rfl, Nat.zero_le _, Below.refl _ _⟩
  case round =>
    obtain ⟨k, rfl, hk, hb⟩ := hrel
    by_cases hlt : k < ls.length
    · obtain ⟨x, hx⟩ : ∃ x, ls[k]? = some x := ⟨_, List.getElem?_eq_getElem hlt⟩
      obtain ⟨g, o, rfl, h0, h1⟩ := HA.out k x hx
      obtain ⟨g2, o2, rfl, h2, h3⟩ := HB.out k x hx
      have hg := World.block_lt_of_cell? _ _ h0
      have hg2 := World.block_lt_of_cell? _ _ h2
      have d0 := (hb.cell (p := ⟨g, o + k * 2, none⟩) hg).trans h0
      have d1 := (hb.cell (p := ⟨g, o + k * 2 + 1, none⟩) hg).trans h1
      have d2 := (hb.cell (p := ⟨g2, o2 + k * 2, none⟩) hg2).trans h2
      have d3 := (hb.cell (p := ⟨g2, o2 + k * 2 + 1, none⟩) hg2).trans h3
      clear h0 h1 h2 h3 hx
      go_upto_region 6 with fail
      go_quiet (fail)
      go_wp2
      go_roundw
      case rel => exact ⟨k + 1, by go_num, by omega, below_drewN hb nq⟩
      case measure => simp [RowKit.intOf]; omega
    · go_wp2
      go_ret
      exact ⟨rfl, hb⟩
end Go.Proofs.Ytjkopgdbkmbnmaa.P
