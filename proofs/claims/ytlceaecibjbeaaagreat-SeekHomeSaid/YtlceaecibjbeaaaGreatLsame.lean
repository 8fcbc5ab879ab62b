/-
  The law's Same.
-/
import Derived.Test.YtlceaecibjbeaaaGreatTab
import Derived.BigQuiet
import Derived.Test.YtlceaecibjbeaaaGreatLall
import Derived.Test.YtlceaecibjbeaaaGreatWhere
import Derived.Test.YtlceaecibjbeaaaGreatRfou
import Derived.Deep.RegionHeld3
import Derived.Laws.StructEq
namespace Go.Proofs.YtlceaecibjbeaaaGreat.T
open Go.RowKit Go.Shelf

end Go.Proofs.YtlceaecibjbeaaaGreat.T
/-
  The law's same: two worlds that agree.
-/
namespace Go.Proofs.YtlceaecibjbeaaaGreat.G
open Go.RowKit Go.Shelf
attribute [local go_sem] Oper.semAt_some

/-- what the reference says of a number is what the program says -/
def Agrees (st : St) (no : Int) : Prop := where_ st no = refWhere st (st.n.length + 1) [] no ∧ over st.d no = refOver st.d no ∧ above st no = refAbove st no ∧ busy st no = refBusy st no
def S4 (b : Nat) (q : U.Sp) (w0 w : World) : Prop := w.cell? ⟨b, 0, none⟩ = some (.int .i64 q.b) ∧ w.cell? ⟨b, 1, none⟩ = some (.int .i64 q.n) ∧ w.cell? ⟨b, 2, none⟩ = some (.int .i64 q.mb) ∧ w.cell? ⟨b, 3, none⟩ = some (.int .i64 q.mn) ∧ Below w0.heap.size w0 w
section
variable {B X A M F : Nat} {mv nv dv : Value} {st : St} {w w' : World}
def S12 (b : Nat) (n : T.Nd) (s : Value) (w0 w : World) : Prop :=
  w.cell? ⟨b, 0, none⟩ = some (.int .i64 n.no) ∧ w.cell? ⟨b, 1, none⟩ = some (.int .i64 n.dev) ∧ w.cell? ⟨b, 2, none⟩ = some (.int .i64 n.kind) ∧ w.cell? ⟨b, 3, none⟩ = some (.int .i64 n.mode) ∧
    w.cell? ⟨b, 4, none⟩ = some (.int .i64 n.uid) ∧ w.cell? ⟨b, 5, none⟩ = some (.int .i64 n.gid) ∧ w.cell? ⟨b, 6, none⟩ = some (.int .i64 n.mt) ∧ w.cell? ⟨b, 7, none⟩ = some (.int .i64 n.ct) ∧
    w.cell? ⟨b, 8, none⟩ = some (.int .i64 n.links) ∧ w.cell? ⟨b, 9, none⟩ = some (.int .i64 n.up) ∧ w.cell? ⟨b, 10, none⟩ = some (.string n.data) ∧ w.cell? ⟨b, 11, none⟩ = some s ∧ Below w0.heap.size w0 w
theorem S12.of {b : Nat} {n : T.Nd} {s : Value} {w0 w : World} (D : T.BoxN b n s w) (hb : Below w0.heap.size w0 w) : S12 b n s w0 w := by
  obtain ⟨c0, c1, c2, c3, c4, c5, c6, c7, c8, c9, c10, c11⟩ := D.facts
  exact ⟨c0, c1, c2, c3, c4, c5, c6, c7, c8, c9, c10, c11, hb⟩
theorem S12.low {b : Nat} {n : T.Nd} {s : Value} {w0 w : World} (h : S12 b n s w0 w) : Below w0.heap.size w0 w := h.2.2.2.2.2.2.2.2.2.2.2.2
theorem S12.below {b : Nat} {n : T.Nd} {s : Value} {w0 w w' : World} (h : S12 b n s w0 w) (hb : Below w.heap.size w w') : S12 b n s w0 w' := by
  obtain ⟨c0, c1, c2, c3, c4, c5, c6, c7, c8, c9, c10, c11, hl⟩ := h
  have hlt : b < w.heap.size := World.block_lt_of_cell? _ _ c0
  refine ⟨?_, ?_, ?_, ?_, ?_, ?_, ?_, ?_, ?_, ?_, ?_, ?_, below_two hl hb⟩ <;> (rw [hb.cell (by exact hlt)]; assumption)
theorem S4.below {b : Nat} {q : U.Sp} {w0 w w' : World} (h : S4 b q w0 w) (hb : Below w.heap.size w w') : S4 b q w0 w' := by
  have c : U.Box4 b q w := ⟨h.1, h.2.1, h.2.2.1, h.2.2.2.1⟩
  obtain ⟨c0, c1, c2, c3⟩ := c.next hb
  exact ⟨c0, c1, c2, c3, below_two h.2.2.2.2 hb⟩
end
end Go.Proofs.YtlceaecibjbeaaaGreat.G
/-
  The law's awake: the chapter's example.
-/
namespace Go.Proofs.YtlceaecibjbeaaaGreat.G
open Go.RowKit Go.Shelf
attribute [local go_sem] Oper.semAt_some

/-- the example's items -/
def itA : List It := [⟨0, [100], 1, 0, 0, 0, ⟨#[]⟩, 0⟩, ⟨1, [], 4, 0, 0, 0, ⟨#[]⟩, 5⟩]
def stA : St := growAll (begin_ bare 1 9 9) itA
theorem stA_last : stA.last = 3 := by decide
theorem stA_len : stA.n.length = 3 := by decide
theorem stA_where : where_ stA 3 = some [47, 100] := by decide
theorem stA_over : over stA.d 2 = 3 := by decide
theorem stA_above : above stA 3 = 1 := by decide
theorem agA (k : Int) (h : k = -1 ∨ k = 0 ∨ k = 1 ∨ k = 2 ∨ k = 3 ∨ k = 4) : Agrees stA k := by
  unfold Agrees
  rcases h with rfl | rfl | rfl | rfl | rfl | rfl <;> decide
theorem fewA : few itA = true := by decide
theorem seesA (w : World) : ItSees (.slice (some ⟨w.heap.size, 0, none⟩) 2 2) itA (w.alloc (.cells #[.int .i64 0, .string ⟨#[100]⟩, .int .i64 1, .int .i64 0, .int .i64 0, .int .i64 0, .string ⟨#[]⟩, .int .i64 0, .int .i64 1, .string ⟨#[]⟩, .int .i64 4, .int .i64 0, .int .i64 0, .int .i64 0, .string ⟨#[]⟩, .int .i64 5] 62)) := by
  refine ⟨_, 2, rfl, ⟨Nat.le_refl _, by decide⟩, fun k x hk => ⟨w.heap.size, 0, rfl, ?_⟩⟩
  match k, hk with
  | 0, hk =>
    cases hk
    refine ⟨?_, ?_, ?_, ?_, ?_, ?_, ?_, ?_⟩ <;> (rw [World.cell?_alloc_new]; rfl)
  | 1, hk =>
    cases hk
    refine ⟨?_, ?_, ?_, ?_, ?_, ?_, ?_, ?_⟩ <;> (rw [World.cell?_alloc_new]; rfl)
  | k + 2, hk => simp [itA] at hk
end Go.Proofs.YtlceaecibjbeaaaGreat.G
