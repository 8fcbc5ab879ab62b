/-
  Numbers of a grown world are ints.
-/
import Derived.Test.YtenopnfclbegbaaLall
namespace Go.Proofs.Ytenopnfclbegbaa.G
open Go.RowKit Go.Shelf

/-- numbers are ints -/
structure Ranged (st : St) : Prop where
  ups : ∀ p ∈ st.n, -9223372036854775808 ≤ p.up ∧ p.up ≤ 9223372036854775807
  covs : ∀ m ∈ st.d, -9223372036854775808 ≤ m.cov ∧ m.cov ≤ 9223372036854775807
theorem Ranged.up {st : St} (h : Ranged st) (k : Int) : -9223372036854775808 ≤ (gets st.n k).up ∧ (gets st.n k).up ≤ 9223372036854775807 := by
  cases e : get st.n k with
  | none => rw [gets_none e]; exact ⟨by decide, by decide⟩
  | some y => rw [gets_some e]; exact h.ups y (get_some e).1
theorem Ranged.above {st : St} (h : Ranged st) (k : Int) : -9223372036854775808 ≤ above st k ∧ above st k ≤ 9223372036854775807 := by
  unfold G.above
  split
  · exact h.up _
  · exact ⟨by decide, by decide⟩
theorem Ranged.under {st : St} (h : Ranged st) {k : Int} (hk : -9223372036854775808 ≤ k ∧ k ≤ 9223372036854775807) : -9223372036854775808 ≤ under st.d k ∧ under st.d k ≤ 9223372036854775807 := by
  unfold G.under
  cases e : st.d.find? fun m => decide (m.root = k) with
  | none => exact hk
  | some m => exact h.covs m (List.mem_of_find?_eq_some e)
theorem Grown.ranged {st : St} (h : Grown st) (hl : st.last < 1000000) : Ranged st := by
  refine ⟨fun p hp => by have := h.ups p hp; omega, fun m hm => ?_⟩
  obtain ⟨i, hi⟩ := List.mem_iff_getElem?.1 hm
  cases i with
  | zero =>
    obtain ⟨q, hq⟩ := h.inv.top
    rw [hq] at hi
    cases hi
    exact ⟨by show (-9223372036854775808 : Int) ≤ 1; decide, by show (1 : Int) ≤ 9223372036854775807; decide⟩
  | succ i => have := h.inv.covs (i + 1) m hi (Nat.succ_pos _); omega
end Go.Proofs.Ytenopnfclbegbaa.G
