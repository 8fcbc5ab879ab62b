/-
  What the listed tables give the walks of package fresh; a heap that meets the list; a slice of strings as an argument.
-/
import Derived.Test.YtpgikopajbjjhaaDoorRows
import Derived.Test.YtpgikopajbjjhaaDoorFlaw
import Derived.ProofKit
import Derived.LaidMore
import Derived.OpenShut
import Derived.ShutString
import Derived.SliceStrings
import Derived.Carry
import Derived.ChangeOld
import Derived.Stop.Joined
import Derived.Lib.LaidTab
import Derived.Stop.LaidErr
import Derived.Lay
namespace Go.Proofs.YtpgikopajbjjhaaDoor.F
open Go.ChangeShapes Go.WideShapes Go.ChangeAt Go.RowKit
set_option maxRecDepth 100000

theorem own : ownKnob Tryd.prog.godebug = none := by kernel_rfl
theorem laidOut : laidOutB Tryd.prog = true := by kernel_rfl
abbrev laids : List (String × DataW Unit) := [("math/bits.deBruijn32tab", Rows.laid_math_bits_deBruijn32tab), ("math/bits.deBruijn64tab", Rows.laid_math_bits_deBruijn64tab), ("internal/strconv.uint64pow10", Rows.laid_internal_strconv_uint64pow10)]
theorem door_met (os : Os) (args : Array Value) : laidMetH Tryd.prog laids ((World.laidAll Tryd.prog os laids).forCall (fun _ _ => 0) ⟨#[], args, []⟩).memory := by
  rw [MakeChecks.laidMetH_plain _ _ _ (by kernel_rfl)]
  exact laidMet_laidAll _ (by kernel_rfl) (by kernel_rfl)

theorem tPow : (Tryd.prog.globals[0]?).map (·.type) = some 50 := by kernel_rfl
theorem laid_of {W : World} (h : laidMetH Tryd.prog laids W) : K.Laid W := by
  rw [MakeChecks.laidMetH_plain _ _ _ (by kernel_rfl)] at h
  have h3 := laidMet.tail (laidMet.tail h)
  have TP : Lib.TabIs Tryd.prog W "internal/strconv.uint64pow10" .u64 Lib.pow10Tab := Lib.tabIs_of_head K.gPow tPow Tryd.underlying50 Tryd.underlying40 (by kernel_rfl) (by kernel_rfl) h3
  have hc := TP.cell K.gPow 7 (by decide)
  exact ⟨TP, World.block_lt_of_cell? _ _ hc⟩

theorem sees_of {H : Type} {enc : TypeId × Value → H} {P : Program} {w : World} {base : Nat} {spare : Nat → Bool} {held : Bool} {t e : TypeId} {fuel : Nat} {a : Option Addr} {len cap : Nat} {x : DataW H × List MemPlace}
    (ht : P.underlying t = some (.slice e)) (he : P.underlying e = some .string) (hc : P.cellsOf e = 1)
    (h : DataW.trod enc P w base spare held fuel t [.slice a len cap] = some x) : ∃ ps, Sees (.slice a len cap) ps w ∧ (∀ p ∈ ps, p.length ≤ maxLen) ∧ ps.length ≤ 9223372036854775807 := by
  rcases open_strings ht he hc h with ⟨hcs, _⟩ | ⟨b, len', cap', ss, hcs, _, hl, hm, hz, _, hcell, hsm⟩
  · simp at hcs
    obtain ⟨rfl, rfl, rfl⟩ := hcs
    exact ⟨[], ⟨none, 0, rfl, fun k p hk => by simp at hk⟩, by simp, by simp⟩
  · simp at hcs
    obtain ⟨rfl, rfl, rfl⟩ := hcs
    have hle : len ≤ ss.length := by rw [hz]; split <;> omega
    have hlen : ((ss.take len).map (·.data.toList)).length = len := by simp; omega
    refine ⟨(ss.take len).map (·.data.toList), ⟨some b, cap, by rw [hlen], fun k p hk => ?_⟩, ?_, by rw [hlen]; unfold maxLen at hm; omega⟩
    rotate_left
    · intro p hp
      obtain ⟨s, hs, rfl⟩ := List.mem_map.1 hp
      rw [← Lib.size_eq]
      exact hsm s (List.mem_of_mem_take hs)
    have hk1 : k < len := by have := (List.getElem?_eq_some_iff.1 hk).1; rw [hlen] at this; exact this
    have hx := hcell k (by omega)
    obtain ⟨g, o, spot⟩ := b
    have hspot : spot = none := by simpa [Addr.add] using World.cell?_spot (hcell 0 (by omega))
    subst hspot
    rw [add_plain] at hx
    refine ⟨g, o, rfl, hx.trans ?_⟩
    rw [List.getElem?_map, List.getElem?_take_of_lt hk1, List.getElem?_eq_getElem (by omega)] at hk
    simp only [Option.map_some, Option.some.injEq] at hk
    subst hk
    rw [List.getD, List.getElem?_eq_getElem (by omega)]
    simp [Array.toArray_toList]
end Go.Proofs.YtpgikopajbjjhaaDoor.F
