/-
  The law's acts; Near.
-/
import Derived.Test.YtenopnfclbegbaaGreatBmath
import Derived.Test.YtenopnfclbegbaaGreatLall
namespace Go.Proofs.YtenopnfclbegbaaGreat.BR
open Go.RowKit Go.Shelf G
attribute [local go_sem] Oper.semAt_some

/-- a call: of which sort, whose, of which numbers, with which texts -/
structure Ac where
  kind : Int
  cu : Int
  cg : Int
  dir : Int
  no : Int
  n : Int
  name : List UInt8
  text : ByteArray
  tgt : Int
  asn : ByteArray
def Ac.v (a : Ac) : Value := .agg #[.int .i64 a.kind, .int .i64 a.cu, .int .i64 a.cg, .int .i64 a.dir, .int .i64 a.no, .int .i64 a.n, .string ⟨a.name.toArray⟩, .string a.text, .int .i64 a.tgt, .string a.asn]
def BoxA (b : Nat) (a : Ac) (w : World) : Prop := w.heap[b]? = some (.cells #[.int .i64 a.kind, .int .i64 a.cu, .int .i64 a.cg, .int .i64 a.dir, .int .i64 a.no, .int .i64 a.n, .string ⟨a.name.toArray⟩, .string a.text, .int .i64 a.tgt, .string a.asn] 42 (0, 0))
theorem BoxA.new (a : Ac) (w : World) : BoxA w.heap.size a (w.alloc (.cells #[.int .i64 a.kind, .int .i64 a.cu, .int .i64 a.cg, .int .i64 a.dir, .int .i64 a.no, .int .i64 a.n, .string ⟨a.name.toArray⟩, .string a.text, .int .i64 a.tgt, .string a.asn] 42)) := heap_alloc_new w _
section
variable {b : Nat} {a : Ac} {w w' : World}
theorem BoxA.lt (h : BoxA b a w) : b < w.heap.size := (Array.getElem?_eq_some_iff.1 h).1
theorem BoxA.below (h : BoxA b a w) (hb : Below w.heap.size w w') : BoxA b a w' := (hb.block b h.lt).trans h
theorem BoxA.turnW {B X A M : Nat} {mv : Value} {st : St} (D : BoxA b a w) (h : Wd B X A M mv st w) (ht : Turn (wS X A M mv) w w') : BoxA b a w' := (ht.block b D.lt (h.not D (by decide) (by decide) (by decide))).trans D
theorem BoxA.turnF {ex : Ext} {B F : Nat} {nv dv : Value} {st : St} (D : BoxA b a w) (h : Fs ex B F nv dv st w) (ht : Turn (fS F nv dv) w w') : BoxA b a w' := (ht.block b D.lt (h.not D (by decide) (by decide) (by decide))).trans D
theorem BoxA.facts (h : BoxA b a w) : w.cell? ⟨b, 0, none⟩ = some (.int .i64 a.kind) ∧ w.cell? ⟨b, 1, none⟩ = some (.int .i64 a.cu) ∧ w.cell? ⟨b, 2, none⟩ = some (.int .i64 a.cg) ∧ w.cell? ⟨b, 3, none⟩ = some (.int .i64 a.dir) ∧ w.cell? ⟨b, 4, none⟩ = some (.int .i64 a.no) ∧
    w.cell? ⟨b, 5, none⟩ = some (.int .i64 a.n) ∧ w.cell? ⟨b, 6, none⟩ = some (.string ⟨a.name.toArray⟩) ∧ w.cell? ⟨b, 7, none⟩ = some (.string a.text) ∧ w.cell? ⟨b, 8, none⟩ = some (.int .i64 a.tgt) ∧ w.cell? ⟨b, 9, none⟩ = some (.string a.asn) := by
  refine ⟨?_, ?_, ?_, ?_, ?_, ?_, ?_, ?_, ?_, ?_⟩ <;> (rw [Lib.cell_of_heap h]; rfl)
end
/-- what an act does, at an instant -/
def actSt (st : St) (t : Int) (a : Ac) : St :=
  if a.kind = 0 then (dirSt st a.cu a.cg t (place (st.last + 1) a.dir) a.name a.n).1
  else if a.kind = 1 then (fileSt st a.cu a.cg t (place (st.last + 1) a.dir) a.name a.n a.text).1
  else if a.kind = 2 then (symSt st a.cu a.cg t (place (st.last + 1) a.dir) a.name a.text).1
  else if a.kind = 3 then (hardSt st a.cu a.cg t (place (st.last + 1) a.no) (place (st.last + 1) a.dir) a.name).1
  else st
theorem Fine.acts {m : Int} {st : St} (h : Fine m st) (t : Int) (a : Ac) (hx : a.text.size ≤ 2000) (hm : m ≤ 900) : Fine (m + 1) (actSt st t a) := by
  unfold actSt
  split
  · exact h.dirs _ _ _ _ _ _ hm
  · split
    · exact h.files _ _ _ _ _ _ _ hx hm
    · split
      · exact h.syms _ _ _ _ _ _ hx hm
      · split
        · exact h.hards _ _ _ _ _ _ hm
        · exact h.mono (by omega)
section
variable {B F : Nat} {ex : Ext} {nv dv : Value} {st : St} {w : World}
set_option maxRecDepth 100000 in
set_option maxHeartbeats 4000000 in
theorem near_any (hF : Fs ex B F nv dv st w) (h0 : 0 ≤ st.last) (h1 : st.last ≤ 100000) (n : Int) :
    Calls Tryz.prog 11 #[.pointer (some ⟨F, 0, none⟩), .int .i64 n] w fun e w' => e = .returned (.int .i64 (place (st.last + 1) n)) ∧ w = w' := by
  have x2 := hF.facts.2.2.1
  have hu : 0 ≤ IntKind.u64.wrap n ∧ IntKind.u64.wrap n ≤ 18446744073709551615 := by
    simp [IntKind.wrap, IntKind.signed, IntKind.bits]; omega
  have hp0 : IntKind.i64.wrap (st.last + 1) = st.last + 1 := wrap_id (by omega) (by omega)
  have hp1 : IntKind.u64.wrap (st.last + 1) = st.last + 1 := by
    simp [IntKind.wrap, IntKind.signed, IntKind.bits]; omega
  have hpr := place_range (last := st.last + 1) (dir := n) (by omega)
  have hm1 : (IntKind.u64.wrap n).tmod (st.last + 1) = place (st.last + 1) n - 1 := by
    rw [Int.tmod_eq_emod_of_nonneg hu.1]; unfold place; omega
  obtain ⟨p, hp⟩ : ∃ p, place (st.last + 1) n - 1 = p := ⟨_, rfl⟩
  have hm2 : IntKind.i64.wrap p = p := wrap_id (by omega) (by omega)
  have hm3 : IntKind.i64.wrap (1 + p) = place (st.last + 1) n := by rw [← hp]; exact (wrap_id (by omega) (by omega)).trans (by omega)
  have hpu : IntKind.u64.wrap p = p := by
    simp [IntKind.wrap, IntKind.signed, IntKind.bits]; omega
  rw [hp] at hm1
  have hz : (st.last + 1 == 0) = false := by rw [beq_eq_false_iff_ne]; omega
  clear hF hp
  generalize place (st.last + 1) n = q at *
  go_enter Tryz.func11, Tryz.ntmps11
  go_wp2
  go_ret
  exact ⟨rfl, rfl⟩
end
end Go.Proofs.YtenopnfclbegbaaGreat.BR
