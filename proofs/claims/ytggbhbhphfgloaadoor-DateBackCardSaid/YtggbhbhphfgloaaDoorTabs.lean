/-
  What the listed tables give the walks; a heap that meets the list; an array of six integers by value.
-/
import Derived.Test.YtggbhbhphfgloaaDoorRows
import Derived.Test.YtggbhbhphfgloaaDoorDnum
import Derived.ProofKit
import Derived.LaidMore
import Derived.OpenShut
import Derived.ShutString
import Derived.ChangeOld
import Derived.Stop.Joined
import Derived.Lib.LaidTab
import Derived.Stop.LaidErr
import Derived.Lay
namespace Go.Proofs.YtggbhbhphfgloaaDoor
open Go.ChangeShapes Go.WideShapes Go.ChangeAt Go.RowKit
set_option maxRecDepth 100000

theorem own : ownKnob Tryd.prog.godebug = none := by kernel_rfl
abbrev laids : List (String × DataW Unit) := [("math/bits.deBruijn32tab", Rows.laid_math_bits_deBruijn32tab), ("math/bits.deBruijn64tab", Rows.laid_math_bits_deBruijn64tab), ("internal/strconv.uint64pow10", Rows.laid_internal_strconv_uint64pow10), ("ragpicker/date.parts", Rows.laid_ragpicker_date_parts)]
theorem door_met (os : Os) (args : Array Value) : laidMetH Tryd.prog laids ((World.laidAll Tryd.prog os laids).forCall (fun _ _ => 0) ⟨#[], args, []⟩).memory := by
  rw [MakeChecks.laidMetH_plain _ _ _ (by kernel_rfl)]
  exact laidMet_laidAll _ (by kernel_rfl) (by kernel_rfl)

theorem tPow : (Tryd.prog.globals[2]?).map (·.type) = some 98 := by kernel_rfl
theorem gParts : Tryd.prog.globalNamed "ragpicker/date.parts" = some 0 := by kernel_rfl
theorem tParts : (Tryd.prog.globals[0]?).map (·.type) = some 54 := by kernel_rfl
theorem cPart : Tryd.prog.cellsOf 53 = 2 := by kernel_rfl
theorem cStr : Tryd.prog.cellsOf 9 = 1 := by kernel_rfl
theorem cInt : Tryd.prog.cellsOf 3 = 1 := by kernel_rfl
theorem cSix : Tryd.prog.cellsOf 22 = 6 := by kernel_rfl
section
variable {H : Type} {enc : TypeId × Value → H} {w : World} {base : Nat} {sp : Nat → Bool} {held : Bool}
/-- one element of the table: its two cells -/
theorem part_cells {fuel : Nat} {cs : List Value} {bs : List UInt8} {n : Int} {p : List MemPlace}
    (h : DataW.trod enc Tryd.prog w base sp held fuel 53 cs = some (.agg [.lit (.string bs), .lit (.int .i64 n)], p)) : cs = [.string ⟨bs.toArray⟩, .int .i64 n] := by
  obtain ⟨y0, y1, m, hx, hl, h0, h1⟩ := trod_struct2 Tryd.underlying53 h
  rw [cPart] at hl
  have h0' : DataW.trod enc Tryd.prog w base sp held m 9 ((cs.drop 0).take (Tryd.prog.cellsOf 9)) = some y0 := h0
  have h1' : DataW.trod enc Tryd.prog w base sp held m 3 ((cs.drop 1).take (Tryd.prog.cellsOf 3)) = some y1 := h1
  rw [cStr] at h0'
  rw [cInt] at h1'
  obtain ⟨s, e0, rfl, -⟩ := DataW.trod_string Tryd.underlying9 h0'
  obtain ⟨z, e1, rfl, -⟩ := DataW.trod_int Tryd.underlying3 h1'
  simp only [Prod.mk.injEq, DataW.agg.injEq, List.cons.injEq, DataW.lit.injEq, Lit.string.injEq, Lit.int.injEq, true_and, and_true] at hx
  obtain ⟨⟨rfl, rfl⟩, -⟩ := hx
  match cs, hl with
  | [a, b], _ =>
    simp only [List.drop_zero, List.take_succ_cons, List.take_zero, List.drop_succ_cons, List.cons.injEq, and_true] at e0 e1
    rw [e0, e1]
end
theorem two_of {l : List Value} {i : Nat} {a b : Value} (h : (l.drop (i * 2)).take 2 = [a, b]) : l[i * 2]? = some a ∧ l[i * 2 + 1]? = some b := by
  constructor
  · have := congrArg (·[0]?) h
    simpa [List.getElem?_take, List.getElem?_drop] using this
  · have := congrArg (·[1]?) h
    simpa [List.getElem?_take, List.getElem?_drop] using this
theorem marks_of {W : World} {rest : List (String × DataW Unit)} (h : laidMet Tryd.prog (("ragpicker/date.parts", Rows.laid_ragpicker_date_parts) :: rest) W) : Marks W := by
  obtain ⟨ps, ⟨g', t', cs, fuel, p, q, hg', ht', hvar, hd, _, _⟩, _⟩ := h
  obtain rfl := Option.some.inj (gParts.symm.trans hg')
  obtain rfl := Option.some.inj (tParts.symm.trans ht')
  obtain ⟨xs, m, rfl, hx, hl, hlen, hel⟩ := DataW.trod_array Tryd.underlying54 hd
  simp only [Prod.mk.injEq] at hx
  obtain ⟨hx, -⟩ := hx
  have hat : ∀ (i : Nat) (bs : List UInt8) (n : Int), i < 6 → (xs.map (·.1))[i]? = some (.agg [.lit (.string bs), .lit (.int .i64 n)]) → W.cell? ⟨0, i * 2, none⟩ = some (.string ⟨bs.toArray⟩) ∧ W.cell? ⟨0, i * 2 + 1, none⟩ = some (.int .i64 n) := by
    intro i bs n hi hxi
    have he := hel i hi
    rw [List.getElem?_map, Option.map_eq_some_iff] at hxi
    obtain ⟨x, hxx, hx1⟩ := hxi
    rw [hxx, cPart] at he
    obtain ⟨x1, x2⟩ := x
    simp only at hx1
    subst hx1
    have hc := two_of (part_cells he)
    have c0 := World.var?_cell gParts hvar (i * 2)
    have c1 := World.var?_cell gParts hvar (i * 2 + 1)
    rw [c0, c1]
    exact ⟨by simpa using hc.1, by simpa using hc.2⟩
  have hx' : Rows.laid_ragpicker_date_parts = DataW.agg (xs.map (·.1)) := hx
  unfold Rows.laid_ragpicker_date_parts at hx'
  simp only [DataW.agg.injEq] at hx'
  have a0 := hat 0 [] 4 (by decide) (by rw [← hx']; rfl)
  have a1 := hat 1 [45] 2 (by decide) (by rw [← hx']; rfl)
  have a2 := hat 2 [45] 2 (by decide) (by rw [← hx']; rfl)
  have a3 := hat 3 [84] 2 (by decide) (by rw [← hx']; rfl)
  have a4 := hat 4 [58] 2 (by decide) (by rw [← hx']; rfl)
  have a5 := hat 5 [58] 2 (by decide) (by rw [← hx']; rfl)
  exact ⟨a0.1, a0.2, a1.1, a1.2, a2.1, a2.2, a3.1, a3.2, a4.1, a4.2, a5.1, a5.2⟩
theorem g64 : Tryd.prog.globalNamed "math/bits.deBruijn64tab" = some 4 := by kernel_rfl
theorem t64 : (Tryd.prog.globals[4]?).map (·.type) = some 103 := by kernel_rfl
def db64 : List Int := [0, 1, 56, 2, 57, 49, 28, 3, 61, 58, 42, 50, 38, 29, 17, 4, 62, 47, 59, 36, 45, 43, 51, 22, 53, 39, 33, 30, 24, 18, 12, 5, 63, 55, 48, 27, 60, 41, 37, 16, 46, 35, 44, 21, 52, 32, 23, 11, 54, 26, 40, 15, 34, 20, 31, 10, 25, 14, 19, 9, 13, 8, 7, 6]
theorem laid_of {W : World} (h : laidMetH Tryd.prog laids W) : Laid W := by
  rw [MakeChecks.laidMetH_plain _ _ _ (by kernel_rfl)] at h
  have h2 := laidMet.tail h
  have h3 := laidMet.tail h2
  have h4 := laidMet.tail h3
  have T64 : Lib.TabIs Tryd.prog W "math/bits.deBruijn64tab" .u8 db64 := Lib.tabIs_of_head g64 t64 Tryd.underlying103 Tryd.underlying5 (by kernel_rfl) (by kernel_rfl) h2
  have TP : Lib.TabIs Tryd.prog W "internal/strconv.uint64pow10" .u64 Lib.pow10Tab := Lib.tabIs_of_head gPow tPow Tryd.underlying98 Tryd.underlying46 (by kernel_rfl) (by kernel_rfl) h3
  have hc : W.cell? ⟨4, 7, none⟩ = some (.int .u8 3) := T64.cell g64 7 (by decide)
  exact ⟨TP, marks_of h4, World.block_lt_of_cell? _ _ hc⟩

/-! ### [6]int by value -/
section
variable {H : Type} {enc : TypeId × Value → H} {w : World} {base : Nat} {sp : Nat → Bool} {held : Bool}
theorem list6 {α : Type} (l : List α) (h : (⟨l⟩ : Array α).size = 6) : ∃ a b c d e f, l = [a, b, c, d, e, f] := by
  match l, h with
  | [a, b, c, d, e, f], _ => exact ⟨a, b, c, d, e, f, rfl⟩
theorem open_six {r : Reach} {b0 : Nat} {v : Value} {d : DataW H} {ps : List MemPlace} (hval : Value.okWide Tryd.prog w r b0 22 v) (hd : DataW.Trod enc Tryd.prog w base sp held 22 v d ps) :
    ∃ x0 x1 x2 x3 x4 x5 : Int, v = .agg #[.int .i64 x0, .int .i64 x1, .int .i64 x2, .int .i64 x3, .int .i64 x4, .int .i64 x5] ∧ d = .agg [.lit (.int .i64 x0), .lit (.int .i64 x1), .lit (.int .i64 x2), .lit (.int .i64 x3), .lit (.int .i64 x4), .lit (.int .i64 x5)] ∧ ps = [] ∧
      (Lit.int .i64 x0).wf = true ∧ (Lit.int .i64 x1).wf = true ∧ (Lit.int .i64 x2).wf = true ∧ (Lit.int .i64 x3).wf = true ∧ (Lit.int .i64 x4).wf = true ∧ (Lit.int .i64 x5).wf = true := by
  obtain ⟨cs, rfl, hsz, _⟩ : ∃ cs, v = .agg cs ∧ cs.size = Tryd.prog.cellsOf 22 ∧ Row.okWide Tryd.prog w r b0 22 cs := by
    simpa [Value.okWide, Tryd.underlying22] using hval
  rw [cSix] at hsz
  obtain ⟨l⟩ := cs
  obtain ⟨c0, c1, c2, c3, c4, c5, rfl⟩ := list6 l hsz
  obtain ⟨fuel, hf⟩ := hd
  obtain ⟨xs, m, rfl, hx, hl, hlen, hel⟩ := DataW.trod_array Tryd.underlying22 hf
  match xs, hlen with
  | [y0, y1, y2, y3, y4, y5], _ =>
    have e0 := hel 0 (by decide)
    have e1 := hel 1 (by decide)
    have e2 := hel 2 (by decide)
    have e3 := hel 3 (by decide)
    have e4 := hel 4 (by decide)
    have e5 := hel 5 (by decide)
    rw [cInt] at e0 e1 e2 e3 e4 e5
    obtain ⟨x0, i0, rfl, w0⟩ := DataW.trod_int Tryd.underlying3 e0
    obtain ⟨x1, i1, rfl, w1⟩ := DataW.trod_int Tryd.underlying3 e1
    obtain ⟨x2, i2, rfl, w2⟩ := DataW.trod_int Tryd.underlying3 e2
    obtain ⟨x3, i3, rfl, w3⟩ := DataW.trod_int Tryd.underlying3 e3
    obtain ⟨x4, i4, rfl, w4⟩ := DataW.trod_int Tryd.underlying3 e4
    obtain ⟨x5, i5, rfl, w5⟩ := DataW.trod_int Tryd.underlying3 e5
    simp [Value.cells] at i0 i1 i2 i3 i4 i5
    subst i0 i1 i2 i3 i4 i5
    simp only [Prod.mk.injEq] at hx
    obtain ⟨rfl, rfl⟩ := hx
    exact ⟨x0, x1, x2, x3, x4, x5, rfl, rfl, rfl, w0, w1, w2, w3, w4, w5⟩
theorem shut_six {x0 x1 x2 x3 x4 x5 : Int} (w0 : (Lit.int .i64 x0).wf = true) (w1 : (Lit.int .i64 x1).wf = true) (w2 : (Lit.int .i64 x2).wf = true) (w3 : (Lit.int .i64 x3).wf = true) (w4 : (Lit.int .i64 x4).wf = true) (w5 : (Lit.int .i64 x5).wf = true) :
    DataW.Trod enc Tryd.prog w base sp held 22 (.agg #[.int .i64 x0, .int .i64 x1, .int .i64 x2, .int .i64 x3, .int .i64 x4, .int .i64 x5]) (.agg [.lit (.int .i64 x0), .lit (.int .i64 x1), .lit (.int .i64 x2), .lit (.int .i64 x3), .lit (.int .i64 x4), .lit (.int .i64 x5)]) [] :=
  ⟨2, by
    have e : List.range 6 = [0, 1, 2, 3, 4, 5] := by decide
    simp [DataW.trod, Value.cells, Tryd.underlying22, Tryd.underlying3, cSix, cInt, e, w0, w1, w2, w3, w4, w5]⟩
end
end Go.Proofs.YtggbhbhphfgloaaDoor
