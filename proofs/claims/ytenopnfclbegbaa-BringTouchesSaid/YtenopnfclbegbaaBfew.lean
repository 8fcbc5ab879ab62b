/-
  The law's Few; the reference's clock is another one.
-/
import Derived.Test.YtenopnfclbegbaaBmath
import Derived.Test.YtenopnfclbegbaaLall
namespace Go.Proofs.Ytenopnfclbegbaa.BR
open Go.RowKit Go.Shelf G
attribute [local go_sem] Oper.semAt_some

/-- the reference's clock is another one -/
theorem _root_.Go.Proofs.Ytenopnfclbegbaa.G.Fs.clock {B F : Nat} {ex : Ext} {nv dv : Value} {st : St} {w : World} (h : Fs ex B F nv dv st w) (t : Int) : Fs { ex with now := t } B F nv dv st (w.setCell ⟨F, 3, none⟩ (.int .i64 t)) := by
  obtain ⟨l, h1, h2, h3⟩ := h.nodes
  have hn : ∀ (b : Nat) (x : Array Value) (t' : TypeId) (mk : Nat × Nat), w.heap[b]? = some (.cells x t' mk) → t' ≠ 44 → (w.setCell ⟨F, 3, none⟩ (.int .i64 t)).heap[b]? = w.heap[b]? := fun b x t' mk hb ht => RowKit.Below.heap_setCell _ _ _ _ (fun e => by
    subst e
    rw [h.head] at hb
    cases hb
    exact ht rfl)
  refine ⟨h.bf, ?_, ⟨l, h1, row_same h2 fun g hg => ?_, fun p hp => T.own_kept (h3 p hp) (T.entKept_set h.head (by decide) _ _)⟩, h.devs.same fun g hg => ?_⟩
  · simp [World.setCell, Array.getElem?_modify, h.head]
  · obtain ⟨_, cur, hc⟩ := row_block h2 hg
    exact hn _ _ _ _ hc (by decide)
  · obtain ⟨_, cur, hc⟩ := h.devs.block hg
    exact hn _ _ _ _ hc (by decide)
theorem _root_.Go.Proofs.Ytenopnfclbegbaa.G.Fs.facts3 {B F : Nat} {ex : Ext} {nv dv : Value} {st : St} {w : World} (h : Fs ex B F nv dv st w) : w.cell? ⟨F, 3, none⟩ = some (.int .i64 ex.now) ∧ w.frozen? ⟨F, 3, none⟩ = false := by
  refine ⟨by rw [Lib.cell_of_heap h.head]; rfl, ?_⟩
  simp [World.frozen?, h.head]
theorem nlen_of {B F : Nat} {ex : Ext} {nv dv : Value} {st : St} {w : World} (h : Fs ex B F nv dv st w) : ∃ oa cap, nv = .slice oa st.n.length cap := by
  obtain ⟨l, h1, h2, _⟩ := h.nodes
  obtain ⟨oa, cap, e, _⟩ := h2.sees
  exact ⟨oa, cap, by rw [e, ← h1, List.length_map]⟩
theorem Few_any {v : Value} {ls : List It} {w : World} (hS : ItSees v ls w) : Calls Try.prog 4 #[v] w fun e w' => e = .returned (.bool (few ls)) ∧ w = w' := by
  have hl : ls.length ≤ 9223372036854775807 := by obtain ⟨_, _, _, hmm, _⟩ := hS; have := Nat.le_trans hmm.1 hmm.2; unfold maxLen at this; omega
  have cf := few_any hS hl
  obtain ⟨oa, cap, rfl, _, _⟩ := hS
  go_enter Try.func4, Try.ntmps4
  go_wp2_with (go_at_call 14; refine cf.mono ?_; rintro e w' ⟨rfl, rfl⟩)
  go_ret
  first | trivial | exact ⟨rfl, rfl⟩ | simp
end Go.Proofs.Ytenopnfclbegbaa.BR
