/-
  What the listed tables give the walks of package sizes; a heap that meets the list; a slice of lines as an argument.
-/
import Derived.Test.YtolobnokpmbajaaDoorRows
import Derived.Test.YtolobnokpmbajaaDoorZtell
import Derived.ProofKit
import Derived.LaidMore
import Derived.OpenShut
import Derived.ShutString
import Derived.Deep.Slices
import Derived.Carry
import Derived.ChangeOld
import Derived.Stop.Joined
import Derived.Lib.LaidTab
import Derived.Stop.LaidErr
import Derived.Lay
namespace Go.Proofs.YtolobnokpmbajaaDoor.Z
open Go.ChangeShapes Go.WideShapes Go.ChangeAt Go.RowKit Go.Deep
set_option maxRecDepth 100000

theorem own : ownKnob Tryd.prog.godebug = none := by kernel_rfl
theorem laidOut : laidOutB Tryd.prog = true := by kernel_rfl
abbrev laids : List (String × DataW Unit) := [("math/bits.deBruijn32tab", Rows.laid_math_bits_deBruijn32tab), ("math/bits.deBruijn64tab", Rows.laid_math_bits_deBruijn64tab), ("internal/strconv.uint64pow10", Rows.laid_internal_strconv_uint64pow10), ("unicode/utf8.acceptRanges", Rows.laid_unicode_utf8_acceptRanges), ("unicode/utf8.first", Rows.laid_unicode_utf8_first)]
theorem door_met (os : Os) (args : Array Value) : laidMetH Tryd.prog laids ((World.laidAll Tryd.prog os laids).forCall (fun _ _ => 0) ⟨#[], args, []⟩).memory := by
  rw [MakeChecks.laidMetH_plain _ _ _ (by kernel_rfl)]
  exact laidMet_laidAll _ (by kernel_rfl) (by kernel_rfl)

theorem tPow : (Tryd.prog.globals[3]?).map (·.type) = some 122 := by kernel_rfl
theorem laid_of {W : World} (h : laidMetH Tryd.prog laids W) : K.Laid W := by
  rw [MakeChecks.laidMetH_plain _ _ _ (by kernel_rfl)] at h
  have h3 := laidMet.tail (laidMet.tail h)
  have TP : Lib.TabIs Tryd.prog W "internal/strconv.uint64pow10" .u64 Lib.pow10Tab := Lib.tabIs_of_head K.gPow tPow Tryd.underlying122 Tryd.underlying76 (by kernel_rfl) (by kernel_rfl) h3
  have hc := TP.cell K.gPow 7 (by decide)
  exact ⟨TP, World.block_lt_of_cell? _ _ hc⟩

theorem list_of {α : Type} {P : Nat → α → Prop} : ∀ n : Nat, (∀ i, i < n → ∃ x, P i x) → ∃ ls : List α, ls.length = n ∧ ∀ k x, ls[k]? = some x → P k x
  | 0, _ => ⟨[], rfl, fun k x h => by simp at h⟩
  | n + 1, h => by
    obtain ⟨ls, hl, hP⟩ := list_of n (fun i hi => h i (by omega))
    obtain ⟨x, hx⟩ := h n (by omega)
    refine ⟨ls ++ [x], by simp [hl], fun k y hk => ?_⟩
    by_cases hkn : k < n
    · rw [List.getElem?_append_left (by omega)] at hk
      exact hP k y hk
    · have hkl := (List.getElem?_eq_some_iff.1 hk).1
      simp at hkl
      obtain rfl : k = n := by omega
      rw [List.getElem?_append_right (by omega), hl, Nat.sub_self] at hk
      simp at hk; subst hk; exact hx
theorem cells30 : Tryd.prog.cellsOf 30 = 3 := by kernel_rfl
theorem cells3 : Tryd.prog.cellsOf 3 = 1 := by kernel_rfl
theorem cells9 : Tryd.prog.cellsOf 9 = 1 := by kernel_rfl
theorem drop_take_one {cs : List Value} {k : Nat} {v : Value} (h : (cs.drop k).take 1 = [v]) : cs[k]? = some v := by
  have := congrArg (fun l => l[0]?) h
  simp only [List.getElem?_take, List.getElem?_drop] at this
  simpa using this

theorem lines_of {H : Type} {enc : TypeId × Value → H} {w : World} {base : Nat} {spare : Nat → Bool} {held : Bool} {fuel : Nat} {a : Option Addr} {len cap : Nat} {x : DataW H × List MemPlace}
    (h : DataW.trod enc Tryd.prog w base spare held fuel 22 [.slice a len cap] = some x) : ∃ ls, Sees (.slice a len cap) ls w ∧ (ls.length ≤ 9223372036854775807 ∧ Ints ls) := by
  rcases open_slice Tryd.underlying22 h with ⟨hcs, _⟩ | ⟨b, len', cap', m, n, D, Pl, hcs, _, hl, hm, hmm, _, hi⟩
  · simp at hcs
    obtain ⟨rfl, rfl, rfl⟩ := hcs
    exact ⟨[], ⟨none, 0, rfl, fun k p hk => by simp at hk⟩, by simp, fun x hx => by simp at hx⟩
  · simp at hcs
    obtain ⟨rfl, rfl, rfl⟩ := hcs
    have hle : len ≤ m := by rw [hmm]; split <;> omega
    rw [cells30] at hi
    have each : ∀ i, i < len → ∃ y : Line, (w.cell? (b.add (i * 3)) = some (.int .i64 y.size) ∧ w.cell? ((b.add (i * 3)).add 1) = some (.int .i64 y.time) ∧ w.cell? ((b.add (i * 3)).add 2) = some (.string ⟨y.name.toArray⟩)) ∧
        ((-9223372036854775808 ≤ y.size ∧ y.size ≤ 9223372036854775807) ∧ (-9223372036854775808 ≤ y.time ∧ y.time ≤ 9223372036854775807)) := by
      intro i hlt
      obtain ⟨cs, hc, ht⟩ := hi i (by omega)
      obtain ⟨_, hcl, hat⟩ := World.cells?_some hc
      obtain ⟨xs, n', _, _, _, hxl, hf⟩ := DataW.trod_struct Tryd.underlying30 ht
      have f0 : DataW.trod enc Tryd.prog w base spare held n' 3 ((cs.drop 0).take (Tryd.prog.cellsOf 3)) = xs[0]? := hf 0 _ rfl
      have f1 : DataW.trod enc Tryd.prog w base spare held n' 3 ((cs.drop 1).take (Tryd.prog.cellsOf 3)) = xs[1]? := hf 1 _ rfl
      have f2 : DataW.trod enc Tryd.prog w base spare held n' 9 ((cs.drop 2).take (Tryd.prog.cellsOf 9)) = xs[2]? := hf 2 _ rfl
      rw [cells3] at f0 f1
      rw [cells9] at f2
      have hxl3 : xs.length = 3 := hxl
      rw [List.getElem?_eq_getElem (by omega)] at f0 f1 f2
      obtain ⟨z0, e0, _, w0⟩ := DataW.trod_int Tryd.underlying3 f0
      obtain ⟨z1, e1, _, w1⟩ := DataW.trod_int Tryd.underlying3 f1
      obtain ⟨z2, e2, _, _⟩ := DataW.trod_string Tryd.underlying9 f2
      refine ⟨⟨z0, z1, z2.data.toList⟩, ⟨?_, ?_, ?_⟩, bounds_i64 w0, bounds_i64 w1⟩
      · have := hat 0 (by decide)
        rw [drop_take_one e0] at this
        simpa [Addr.add] using this
      · rw [hat 1 (by decide)]; exact drop_take_one e1
      · rw [hat 2 (by decide), Array.toArray_toList]; exact drop_take_one e2
    obtain ⟨ls, hls, hP⟩ := list_of len each
    refine ⟨ls, ⟨some b, cap, by rw [hls], fun k y hk => ?_⟩, by rw [hls]; unfold maxLen at hm; omega, fun y hy => ?_⟩
    · obtain ⟨⟨h0, h1, h2⟩, _⟩ := hP k y hk
      have hb0 := (hP 0 (ls[0]'(by have := (List.getElem?_eq_some_iff.1 hk).1; omega)) (List.getElem?_eq_getElem _)).1.1
      obtain ⟨g, o, spot⟩ := b
      have hspot : spot = none := by simpa [Addr.add] using World.cell?_spot hb0
      subst hspot
      rw [add_plain, add_plain] at h1 h2
      rw [add_plain] at h0
      exact ⟨g, o, rfl, h0, h1, h2⟩
    · obtain ⟨k, hk⟩ := List.getElem?_of_mem hy
      exact (hP k y hk).2
end Go.Proofs.YtolobnokpmbajaaDoor.Z
