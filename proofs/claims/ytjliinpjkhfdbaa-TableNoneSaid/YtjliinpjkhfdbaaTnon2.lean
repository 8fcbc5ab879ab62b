/-
  A table that is none: rising, All.
-/
import Derived.Test.YtjliinpjkhfdbaaTnone
namespace Go.Proofs.Ytjliinpjkhfdbaa.T
open Go.RowKit Go.Shelf Go.Maps Go.Sort

/-- no keys, sorted -/
theorem Sorted_none (W : World) (X : Nat) (hX : X < W.heap.size) (hc : W.cell? ⟨X, 0, none⟩ = some (.map none)) :
    Calls Try.prog 23 #[.func (.func 27) #[] #[.pointer (some ⟨X, 0, none⟩)]] W fun e w' =>
      e = .returned (.slice none 0 0) ∧ Below W.heap.size W w' := by
  have hseq : SeqGives Fence.wide 2 Try.prog 27 #[.pointer (some ⟨X, 0, none⟩)] encZ (fun ss : List Int => ss = []) 0 W :=
    AnyZI.keys_gives_nil (ρ := Try.keysA_ren) { Try.keysA with } Fence.wide _ trivial rfl X W hX hc
  have cS := AnyZI.sorted_in Try.sortedA Fence.wide 5 trivial trivial trivial trivial rfl (by omega) (sortsA _) (enters_of Try.func26 (by kernel_rfl) rfl) 27 #[.pointer (some ⟨X, 0, none⟩)] trivial (enters_of Try.func27 (by kernel_rfl) rfl) _ 0 (Nat.zero_le _) (Nat.zero_le _) _ hseq
  change CallsIn _ _ Try.prog 23 _ _ _ at cS
  refine (callsIn_wide.1 cS).mono ?_
  rintro e w' ⟨v, ss, rfl, rfl, _, hv, hb⟩
  rw [hv.2 rfl]
  exact ⟨rfl, hb⟩

set_option maxRecDepth 100000 in
set_option maxHeartbeats 8000000 in
theorem rising_none {p : Value} {w : World} (h : NoTab p w) :
    Calls Try.prog 21 #[p] w fun e w' => ∃ u, e = .returned u ∧ RowOwn w.heap.size u [] w' ∧ Below w.heap.size w w' := by
  obtain ⟨i0, hi, hz0, hz1, hz2⟩ := E.info_parts infoN
  have c1 := kept_none h
  have hl := len_none
  go_enter Try.func21, Try.ntmps21
  go_upto_region 3 with (first
    | (refine c1.mono ?_; rintro e w1 ⟨rfl, rfl⟩)
    | (at_make; refine wpList_make_own _ rfl _ _ 26 rfl w.heap.size 29 i0 (.agg #[.int .i64 0, .int .i64 0, .int .i64 0, .int .i64 0, .int .i64 0, .int .i64 0, .int .i64 0, .int .i64 0, .int .i64 0, .int .i64 0, .string ⟨#[]⟩, .slice none 0 0]) 12 Try.underlying26 hi hz0 hz1 .i64 .i64 0 0 rfl rfl rfl (by rw [hz2]; omega) (by unfold maxLen; omega) (Nat.le_refl _) ?_; intro w1 hown hgrow))
  have hb1 : Below w.heap.size w w1 := ⟨hgrow.os, hgrow.tape, hgrow.output, hgrow.size, fun j hj => hgrow.block j hj (by simp)⟩
  have hO1 : RowOwn w.heap.size (.slice (some ⟨w.heap.size, 0, none⟩) 0 0) [] w1 := hown
  generalize Value.slice (some ⟨w.heap.size, 0, none⟩) 0 0 = u1 at hO1 ⊢
  have hK := Keys_any none w1
  have hb2 : Below w1.heap.size w1 (w1.alloc (.cells #[.map none] 44)) := (Below.refl _ _).alloc (Nat.le_refl _) _
  have hc2 : (w1.alloc (.cells #[.map none] 44)).cell? ⟨w1.heap.size, 0, none⟩ = some (.map none) := by rw [World.cell?_alloc_new]; rfl
  have hz2' : w1.heap.size < (w1.alloc (.cells #[.map none] 44)).heap.size := by simp
  have hS := Sorted_none _ w1.heap.size hz2' hc2
  have hO2 := hO1.below hb2
  have hb12 := below_two hb1 hb2
  clear hown hgrow c1 hO1 hc2 hz2'
  go_wp2_with (first
    | (go_at_call 24; refine hK.mono ?_; rintro e w2 ⟨rfl, rfl⟩)
    | (go_at_call 23; refine hS.mono ?_; rintro e w3 ⟨rfl, hb3⟩))
  have hO3 := hO2.below hb3
  have hb13 := hb12.trans (hb3.mono hb12.size)
  clear hS hK hO2 hb12 hb2 hb1 hb3
  have HO3 := Lib.hid hO3; have HB3 := Lib.hid hb13
  clear hO3 hb13
  go_loopw [4, 16] (fun u i wr => i = .int .i64 0 ∧ u = u1 ∧ wr = w3) (fun _ _ _ => 0)
  case atStart => exact ⟨rfl, rfl, rfl⟩
  case round =>
    obtain ⟨rfl, rfl, rfl⟩ := hrel
    go_wp2
    go_ret
    exact ⟨_, rfl, HO3.out, HB3.out⟩

set_option maxHeartbeats 4000000 in
theorem All_none {p : Value} {w : World} (h : NoTab p w) :
    Calls Try.prog 19 #[p] w fun e w' => ∃ b u, e = .returned (.func (.func 22) #[] #[.pointer (some ⟨b, 0, none⟩)]) ∧ Boxed w' b 26 u ∧ w.heap.size ≤ b ∧ RowOwn w.heap.size u [] w' ∧ Below w.heap.size w w' := by
  have cc := rising_none h
  clear h
  go_enter Try.func19, Try.ntmps19
  go_wp2_with (go_at_call 21; refine cc.mono ?_; rintro e w1 ⟨u, rfl, hO, hb⟩; have hs := hO.sees; have HO := Lib.hid hO; clear hO; obtain ⟨ou, cu, rfl, _⟩ := hs)
  go_ret
  have hb2 : Below w1.heap.size w1 (w1.alloc (.cells #[.slice ou 0 cu] 26)) := (Below.refl _ _).alloc (Nat.le_refl _) _
  exact ⟨w1.heap.size, _, rfl, Boxed.new _ _ _, hb.size, HO.out.below hb2, below_two hb hb2⟩
end Go.Proofs.Ytjliinpjkhfdbaa.T
