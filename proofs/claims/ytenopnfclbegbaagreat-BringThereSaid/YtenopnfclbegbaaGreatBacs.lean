/-
  The rows of the law's acts, and its Few.
-/
import Derived.Test.YtenopnfclbegbaaGreatBact
import Derived.BigQuiet
namespace Go.Proofs.YtenopnfclbegbaaGreat.BR
open Go.RowKit Go.Shelf G
attribute [local go_sem] Oper.semAt_some

/-- the ten cells of an act at a place -/
def AcAt (g o : Nat) (i : Ac) (w : World) : Prop := w.cell? ⟨g, o, none⟩ = some (.int .i64 i.kind) ∧ w.cell? ⟨g, o + 1, none⟩ = some (.int .i64 i.cu) ∧ w.cell? ⟨g, o + 2, none⟩ = some (.int .i64 i.cg) ∧ w.cell? ⟨g, o + 3, none⟩ = some (.int .i64 i.dir) ∧ w.cell? ⟨g, o + 4, none⟩ = some (.int .i64 i.no) ∧ w.cell? ⟨g, o + 5, none⟩ = some (.int .i64 i.n) ∧ w.cell? ⟨g, o + 6, none⟩ = some (.string ⟨i.name.toArray⟩) ∧ w.cell? ⟨g, o + 7, none⟩ = some (.string i.text) ∧ w.cell? ⟨g, o + 8, none⟩ = some (.int .i64 i.tgt) ∧ w.cell? ⟨g, o + 9, none⟩ = some (.string i.asn)
/-- who reads this slice sees these acts -/
def AcSees (v : Value) (ls : List Ac) (w : World) : Prop :=
  ∃ oa cap, v = .slice oa ls.length cap ∧ (ls.length ≤ cap ∧ cap ≤ maxLen) ∧ ∀ k x, ls[k]? = some x → ∃ g o, oa = some ⟨g, o, none⟩ ∧ AcAt g (o + k * 10) x w
theorem AcAt.lt {g o : Nat} {i : Ac} {w : World} (h : AcAt g o i w) : g < w.heap.size := World.block_lt_of_cell? _ _ h.1
theorem AcAt.below {g o m : Nat} {i : Ac} {w w' : World} (h : AcAt g o i w) (hb : Below m w w') (hg : g < m) : AcAt g o i w' := by
  obtain ⟨c0, c1, c2, c3, c4, c5, c6, c7, c8, c9⟩ := h
  refine ⟨?_, ?_, ?_, ?_, ?_, ?_, ?_, ?_, ?_, ?_⟩ <;> rw [hb.cell (by exact hg)] <;> assumption
theorem AcSees.below {v : Value} {ls : List Ac} {w w' : World} (h : AcSees v ls w) (hb : Below w.heap.size w w') : AcSees v ls w' := by
  obtain ⟨oa, cap, rfl, hm, hc⟩ := h
  refine ⟨oa, cap, rfl, hm, fun k x hk => ?_⟩
  obtain ⟨g, o, e, h0⟩ := hc k x hk
  exact ⟨g, o, e, h0.below hb h0.lt⟩
theorem acSees_none (oa : Option Addr) (c : Nat) (hc : c ≤ maxLen) (w : World) : AcSees (.slice oa 0 c) [] w := ⟨oa, c, rfl, ⟨Nat.zero_le _, hc⟩, fun k x h => by simp at h⟩
def shortA (i : Ac) : Bool := decide (i.name.length ≤ 300) && decide (i.asn.size ≤ 300) && decide (i.text.size ≤ 2000)
def fewA (ls : List Ac) : Bool := ls.all shortA && decide (ls.length ≤ 30)
theorem fewA_iff {ls : List Ac} : fewA ls = true ↔ (∀ i ∈ ls, i.name.length ≤ 300 ∧ i.asn.size ≤ 300 ∧ i.text.size ≤ 2000) ∧ ls.length ≤ 30 := by
  unfold fewA shortA
  simp [List.all_eq_true, and_assoc]
set_option maxRecDepth 100000 in
set_option maxHeartbeats 4000000 in
theorem fewA_any {v : Value} {ls : List Ac} {w : World} (hS : AcSees v ls w) :
    Calls Tryz.prog 6 #[v] w fun e w' => e = .returned (.bool (fewA ls)) ∧ w = w' := by
  obtain ⟨oa, cap, rfl, hmm, hcells⟩ := hS
  have hl : ls.length ≤ 9223372036854775807 := by have := Nat.le_trans hmm.1 hmm.2; unfold maxLen at this; omega
  have HC := Lib.hid hcells
  clear hcells hmm
  have hall : fewA ls = (ls.all shortA && decide (ls.length ≤ 30)) := rfl
  have HA := Lib.hid hall
  clear hall
  generalize fewA ls = z at *
  go_enter Tryz.func6, Tryz.ntmps6
  go_wp2
  go_loopw [3] (fun i wr => ∃ k : Nat, k ≤ ls.length ∧ i = .int .i64 k ∧ (∀ y ∈ ls.take k, shortA y = true) ∧ wr = w) (fun i _ => ls.length - (RowKit.intOf i).toNat)
  case atStart => exact ⟨0, Nat.zero_le _, rfl, fun y hy => by simp at hy, rfl⟩
  case round =>
    obtain ⟨k, hk, rfl, hno, rfl⟩ := hrel
    have HB := Lib.hid hno
    clear hno
    by_cases hlt : k < ls.length
    · obtain ⟨x, hx⟩ : ∃ x, ls[k]? = some x := ⟨_, List.getElem?_eq_getElem hlt⟩
      obtain ⟨g, o, rfl, c0, c1, c2, c3, c4, c5, c6, c7, c8, c9⟩ := HC.out k x hx
      have HX := Lib.hid hx
      clear hx
      have hs1 := size_list x.name
      have hlast : Hid (shortA x = false → z = false) := Lib.hid fun e => by
        rw [HA.out, List.all_eq_false.2 ⟨x, List.mem_of_getElem? HX.out, by rw [e]; simp⟩]; rfl
      have hstep : Hid (shortA x = true → ∀ y ∈ ls.take (k + 1), shortA y = true) := Lib.hid fun e y hy => by
        rw [List.take_add_one, HX.out] at hy
        rcases List.mem_append.1 hy with hy | hy
        · exact HB.out y hy
        · simp at hy; subst hy; exact e
      have hsx : shortA x = (decide (x.name.length ≤ 300) && decide (x.asn.size ≤ 300) && decide (x.text.size ≤ 2000)) := rfl
      have HSX := Lib.hid hsx
      clear hsx
      generalize shortA x = sx at *
      by_cases h1 : x.name.length ≤ 300
      · have h1' : ¬ (300 : Int) < x.name.length := by omega
        by_cases h2 : x.asn.size ≤ 300
        · have h2' : ¬ (300 : Int) < x.asn.size := by omega
          by_cases h3 : x.text.size ≤ 2000
          · have h3' : ¬ (2000 : Int) < x.text.size := by omega
            have hst := Lib.hid (hstep.out (by rw [HSX.out]; simp [h1, h2, h3]))
            clear hstep hlast
            go_wp2
            go_roundw
            case rel => exact ⟨k + 1, by omega, by go_num, hst.out, by first | rfl | trivial⟩
            case measure => simp [RowKit.intOf]; omega
          · have h3' : (2000 : Int) < x.text.size := by omega
            obtain rfl := hlast.out (by rw [HSX.out]; simp [h3])
            clear hstep hlast
            go_wp2
            go_ret
            exact ⟨rfl, by first | rfl | trivial⟩
        · have h2' : (300 : Int) < x.asn.size := by omega
          obtain rfl := hlast.out (by rw [HSX.out]; simp [h2])
          clear hstep hlast
          go_wp2
          go_ret
          exact ⟨rfl, by first | rfl | trivial⟩
      · have h1' : (300 : Int) < x.name.length := by omega
        obtain rfl := hlast.out (by rw [HSX.out]; simp [h1])
        clear hstep hlast
        go_wp2
        go_ret
        exact ⟨rfl, by first | rfl | trivial⟩
    · have hz : z = decide (ls.length ≤ 30) := by
        rw [HA.out, List.all_eq_true.2 fun y hy => HB.out y (by rw [List.take_of_length_le (by omega)]; exact hy)]; rfl
      have HZ := Lib.hid hz
      clear hz
      by_cases h40 : ls.length ≤ 30
      · obtain rfl : z = true := by rw [HZ.out]; simpa using h40
        have h40' : (ls.length : Int) ≤ 30 := by omega
        go_wp2
        go_ret
        first | exact ⟨rfl, by first | rfl | trivial⟩ | (refine ⟨?_, by first | rfl | trivial⟩; simp [h40'])
      · obtain rfl : z = false := by rw [HZ.out]; simpa using h40
        have h40' : ¬ (ls.length : Int) ≤ 30 := by omega
        go_wp2
        go_ret
        first | exact ⟨rfl, by first | rfl | trivial⟩ | (refine ⟨?_, by first | rfl | trivial⟩; simp [h40'])
end Go.Proofs.YtenopnfclbegbaaGreat.BR
