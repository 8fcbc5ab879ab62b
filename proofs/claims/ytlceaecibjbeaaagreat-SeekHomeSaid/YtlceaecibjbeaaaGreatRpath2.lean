/-
  The reference's Path at any path.
-/
import Derived.Test.YtlceaecibjbeaaaGreatRpath
namespace Go.Proofs.YtlceaecibjbeaaaGreat.K
open Go.RowKit Go.Shelf G
attribute [local go_sem] Oper.semAt_some

set_option maxRecDepth 100000 in
set_option maxHeartbeats 8000000 in
theorem rpath_no {F : Nat} {w : World} (cu cg : Int) (s : ByteArray) (hs : s.size ≤ 5000) (follow : Bool) (h0 : V.M.path s.data.toList ≠ 0) :
    Calls Tryz.prog 10 #[.pointer (some ⟨F, 0, none⟩), .agg #[.int .i64 cu, .int .i64 cg], .string s, .bool follow] w fun e w' => e = .returned (.tuple #[noFd.v, .int .i64 (V.M.path s.data.toList)]) ∧ Below w.heap.size w w' := by
  have cp := fun W => V.refPath_any s hs W
  have h1 : (V.M.path s.data.toList != 0) = true := by simpa using h0
  generalize V.M.path s.data.toList = z at *
  have hD : FdBox (w.heap.size + 1) noFd ((w.alloc (.cells #[.int .i64 cu, .int .i64 cg] 24)).alloc (.cells #[.int .i64 0, .string ⟨#[]⟩, .int .i64 0, .bool false] 33)) := by
    have := heap_alloc_new (w.alloc (.cells #[.int .i64 cu, .int .i64 cg] 24)) (.cells #[.int .i64 0, .string ⟨#[]⟩, .int .i64 0, .bool false] 33)
    rw [World.size_alloc] at this
    exact this
  have hb : Below w.heap.size w ((w.alloc (.cells #[.int .i64 cu, .int .i64 cg] 24)).alloc (.cells #[.int .i64 0, .string ⟨#[]⟩, .int .i64 0, .bool false] 33)) := ((Below.refl _ _).alloc (Nat.le_refl _) _).alloc (by simp) _
  go_enter Tryz.func10, Tryz.ntmps10
  go_upto_region 1 with fail
  generalize (w.alloc (.cells #[.int .i64 cu, .int .i64 cg] 24)).alloc (.cells #[.int .i64 0, .string ⟨#[]⟩, .int .i64 0, .bool false] 33) = W2 at *
  obtain ⟨d0, d1, d2, d3⟩ := hD.facts
  obtain ⟨e0, e1, e2, e3⟩ := hD.open
  go_upto_region 3 with (go_at_call 29; refine (cp _).mono ?_; rintro e w1 ⟨rfl, rfl⟩)
  go_wp
  have F9 := hD.fill noFd
  have hb9 := hb.trans (below_fillF (show w.heap.size ≤ w.heap.size + 1 by omega) W2 noFd)
  unfold fillF at F9 hb9
  dsimp only [noFd] at F9 hb9
  generalize World.setCell _ _ _ = W9 at F9 hb9 ⊢
  obtain ⟨q0, q1, q2, q3⟩ := F9.facts
  dsimp only at q0 q1 q2 q3
  refine bodyPost_ret (by simp [results, Tryz.results10, go_sem, q0, q1, q2, q3]; rfl) rfl ?_
  exact ⟨rfl, hb9⟩
theorem rpath_any {BB F : Nat} {nv dv : Value} {st : St} {w : World} (hlast : st.last < 800000) (hI : Inv st) (hT : Tree st) (hF : Fs BB F nv dv st w) (cu cg : Int) (s : ByteArray) (hs : s.size ≤ 5000) (follow : Bool) :
    Calls Tryz.prog 10 #[.pointer (some ⟨F, 0, none⟩), .agg #[.int .i64 cu, .int .i64 cg], .string s, .bool follow] w fun e w' => e = .returned (.tuple #[(path st cu cg follow s.data.toList).1.v, .int .i64 (path st cu cg follow s.data.toList).2]) ∧ Below w.heap.size w w' := by
  by_cases h0 : V.M.path s.data.toList = 0
  · have h := rpath_yes hlast hI hT hF cu cg s hs follow h0 rfl
    unfold path
    rw [if_pos h0]
    exact h
  · have h := rpath_no (F := F) (w := w) cu cg s hs follow h0
    unfold path
    rw [if_neg h0]
    exact h
end Go.Proofs.YtlceaecibjbeaaaGreat.K
