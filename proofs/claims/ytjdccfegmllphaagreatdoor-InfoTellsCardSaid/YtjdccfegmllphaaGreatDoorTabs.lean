/-
  What the listed tables give the walks; a heap that meets the list.
-/
import Derived.Test.YtjdccfegmllphaaGreatDoorRows
import Derived.Test.YtjdccfegmllphaaGreatDoorDnum
import Derived.ProofKit
import Derived.LaidMore
import Derived.OpenShut
import Derived.ShutString
import Derived.ChangeOld
import Derived.Stop.Joined
import Derived.Lib.LaidTab
import Derived.Stop.LaidErr
import Derived.Lay
namespace Go.Proofs.YtjdccfegmllphaaGreatDoor
open Go.ChangeShapes Go.WideShapes Go.ChangeAt Go.RowKit
set_option maxRecDepth 100000

theorem own : ownKnob Tryz.prog.godebug = none := by kernel_rfl
abbrev laids : List (String × DataW Unit) := [("math/bits.deBruijn32tab", Rows.laid_math_bits_deBruijn32tab), ("math/bits.deBruijn64tab", Rows.laid_math_bits_deBruijn64tab), ("internal/strconv.uint64pow10", Rows.laid_internal_strconv_uint64pow10), ("unicode/utf8.acceptRanges", Rows.laid_unicode_utf8_acceptRanges), ("ragpicker/date.parts", Rows.laid_ragpicker_date_parts), ("unicode/utf8.first", Rows.laid_unicode_utf8_first)]
theorem door_met (os : Os) (args : Array Value) : laidMetH Tryz.prog laids ((World.laidAll Tryz.prog os laids).forCall (fun _ _ => 0) ⟨#[], args, []⟩).memory := by
  rw [MakeChecks.laidMetH_plain _ _ _ (by kernel_rfl)]
  exact laidMet_laidAll _ (by kernel_rfl) (by kernel_rfl)

theorem tPow : (Tryz.prog.globals[4]?).map (·.type) = some 151 := by kernel_rfl
theorem gParts : Tryz.prog.globalNamed "ragpicker/date.parts" = some 0 := by kernel_rfl
theorem tParts : (Tryz.prog.globals[0]?).map (·.type) = some 64 := by kernel_rfl
theorem cPart : Tryz.prog.cellsOf 63 = 2 := by kernel_rfl
theorem cStr : Tryz.prog.cellsOf 9 = 1 := by kernel_rfl
theorem cInt : Tryz.prog.cellsOf 3 = 1 := by kernel_rfl
theorem cSix : Tryz.prog.cellsOf 61 = 6 := by kernel_rfl
section
variable {H : Type} {enc : TypeId × Value → H} {w : World} {base : Nat} {sp : Nat → Bool} {held : Bool}
/-- one element of the table: its two cells -/
theorem part_cells {fuel : Nat} {cs : List Value} {bs : List UInt8} {n : Int} {p : List MemPlace}
    (h : DataW.trod enc Tryz.prog w base sp held fuel 63 cs = some (.agg [.lit (.string bs), .lit (.int .i64 n)], p)) : cs = [.string ⟨bs.toArray⟩, .int .i64 n] := by
  obtain ⟨y0, y1, m, hx, hl, h0, h1⟩ := trod_struct2 Tryz.underlying63 h
  rw [cPart] at hl
  have h0' : DataW.trod enc Tryz.prog w base sp held m 9 ((cs.drop 0).take (Tryz.prog.cellsOf 9)) = some y0 := h0
  have h1' : DataW.trod enc Tryz.prog w base sp held m 3 ((cs.drop 1).take (Tryz.prog.cellsOf 3)) = some y1 := h1
  rw [cStr] at h0'
  rw [cInt] at h1'
  obtain ⟨s, e0, rfl, -⟩ := DataW.trod_string Tryz.underlying9 h0'
  obtain ⟨z, e1, rfl, -⟩ := DataW.trod_int Tryz.underlying3 h1'
  simp only [Prod.mk.injEq, DataW.agg.injEq, List.cons.injEq, DataW.lit.injEq, Lit.string.injEq, Lit.int.injEq, true_and, and_true] at hx
  obtain ⟨⟨rfl, rfl⟩, -⟩ := hx
  match cs, hl with
  | [a, b], _ =>
    simp only [List.drop_zero, List.take_succ_cons, List.take_zero, List.drop_succ_cons, List.cons.injEq, and_true] at e0 e1
    rw [e0, e1]
end
theorem two_of {l : List Value} {i : Nat} {a b : Value} (h : (l.drop (i * 2)).take 2 = [a, b]) : l[i * 2]? = some a ∧ l[i * 2 + 1]? = some b := by
  constructor
  · have := congrArg (·[0]?) h
    simpa [List.getElem?_take, List.getElem?_drop] using this
  · have := congrArg (·[1]?) h
    simpa [List.getElem?_take, List.getElem?_drop] using this
theorem marks_of {W : World} {rest : List (String × DataW Unit)} (h : laidMet Tryz.prog (("ragpicker/date.parts", Rows.laid_ragpicker_date_parts) :: rest) W) : Marks W := by
  obtain ⟨ps, ⟨g', t', cs, fuel, p, q, hg', ht', hvar, hd, _, _⟩, _⟩ := h
  obtain rfl := Option.some.inj (gParts.symm.trans hg')
  obtain rfl := Option.some.inj (tParts.symm.trans ht')
  obtain ⟨xs, m, rfl, hx, hl, hlen, hel⟩ := DataW.trod_array Tryz.underlying64 hd
  simp only [Prod.mk.injEq] at hx
  obtain ⟨hx, -⟩ := hx
  have hat : ∀ (i : Nat) (bs : List UInt8) (n : Int), i < 6 → (xs.map (·.1))[i]? = some (.agg [.lit (.string bs), .lit (.int .i64 n)]) → W.cell? ⟨0, i * 2, none⟩ = some (.string ⟨bs.toArray⟩) ∧ W.cell? ⟨0, i * 2 + 1, none⟩ = some (.int .i64 n) := by
    intro i bs n hi hxi
    have he := hel i hi
    rw [List.getElem?_map, Option.map_eq_some_iff] at hxi
    obtain ⟨x, hxx, hx1⟩ := hxi
    rw [hxx, cPart] at he
    obtain ⟨x1, x2⟩ := x
    simp only at hx1
    subst hx1
    have hc := two_of (part_cells he)
    have c0 := World.var?_cell gParts hvar (i * 2)
    have c1 := World.var?_cell gParts hvar (i * 2 + 1)
    rw [c0, c1]
    exact ⟨by simpa using hc.1, by simpa using hc.2⟩
  have hx' : Rows.laid_ragpicker_date_parts = DataW.agg (xs.map (·.1)) := hx
  unfold Rows.laid_ragpicker_date_parts at hx'
  simp only [DataW.agg.injEq] at hx'
  have a0 := hat 0 [] 4 (by decide) (by rw [← hx']; rfl)
  have a1 := hat 1 [45] 2 (by decide) (by rw [← hx']; rfl)
  have a2 := hat 2 [45] 2 (by decide) (by rw [← hx']; rfl)
  have a3 := hat 3 [84] 2 (by decide) (by rw [← hx']; rfl)
  have a4 := hat 4 [58] 2 (by decide) (by rw [← hx']; rfl)
  have a5 := hat 5 [58] 2 (by decide) (by rw [← hx']; rfl)
  exact ⟨a0.1, a0.2, a1.1, a1.2, a2.1, a2.2, a3.1, a3.2, a4.1, a4.2, a5.1, a5.2⟩
theorem g64 : Tryz.prog.globalNamed "math/bits.deBruijn64tab" = some 6 := by kernel_rfl
theorem t64 : (Tryz.prog.globals[6]?).map (·.type) = some 156 := by kernel_rfl
def db64 : List Int := [0, 1, 56, 2, 57, 49, 28, 3, 61, 58, 42, 50, 38, 29, 17, 4, 62, 47, 59, 36, 45, 43, 51, 22, 53, 39, 33, 30, 24, 18, 12, 5, 63, 55, 48, 27, 60, 41, 37, 16, 46, 35, 44, 21, 52, 32, 23, 11, 54, 26, 40, 15, 34, 20, 31, 10, 25, 14, 19, 9, 13, 8, 7, 6]
theorem laid_of {W : World} (h : laidMetH Tryz.prog laids W) : Laid W := by
  rw [MakeChecks.laidMetH_plain _ _ _ (by kernel_rfl)] at h
  have h2 := laidMet.tail h
  have h3 := laidMet.tail h2
  have h4 := laidMet.tail (laidMet.tail h3)
  have T64 : Lib.TabIs Tryz.prog W "math/bits.deBruijn64tab" .u8 db64 := Lib.tabIs_of_head g64 t64 Tryz.underlying156 Tryz.underlying5 (by kernel_rfl) (by kernel_rfl) h2
  have TP : Lib.TabIs Tryz.prog W "internal/strconv.uint64pow10" .u64 Lib.pow10Tab := Lib.tabIs_of_head gPow tPow Tryz.underlying151 Tryz.underlying122 (by kernel_rfl) (by kernel_rfl) h3
  have hc : W.cell? ⟨6, 7, none⟩ = some (.int .u8 3) := T64.cell g64 7 (by decide)
  have hlt := World.block_lt_of_cell? _ _ hc
  exact ⟨TP, marks_of h4, by simp at hlt; omega⟩

end Go.Proofs.YtjdccfegmllphaaGreatDoor
