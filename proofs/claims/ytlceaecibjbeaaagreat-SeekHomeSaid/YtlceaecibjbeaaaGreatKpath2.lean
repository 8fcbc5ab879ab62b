/-
  seek.Path at any path; a world that is nil is not asked here.
-/
import Derived.Test.YtlceaecibjbeaaaGreatKpath
namespace Go.Proofs.YtlceaecibjbeaaaGreat.K
open Go.RowKit Go.Shelf G
attribute [local go_sem] Oper.semAt_some

set_option maxRecDepth 100000 in
set_option maxHeartbeats 8000000 in
theorem Path_no {X : Nat} {w : World} (cu cg : Int) (s : ByteArray) (follow : Bool) (h0 : V.M.path s.data.toList ≠ 0) :
    Calls Tryz.prog 9 #[.pointer (some ⟨X, 0, none⟩), .agg #[.int .i64 cu, .int .i64 cg], .string s, .bool follow] w fun e w' => e = .returned (.tuple #[noFd.v, .int .i64 (V.M.path s.data.toList)]) ∧ Below w.heap.size w w' := by
  have cp := fun W => V.path_any s W
  have h1 : (V.M.path s.data.toList != 0) = true := by simpa using h0
  generalize V.M.path s.data.toList = z at *
  have hD : FdBox (w.heap.size + 1) noFd ((w.alloc (.cells #[.int .i64 cu, .int .i64 cg] 24)).alloc (.cells #[.int .i64 0, .string ⟨#[]⟩, .int .i64 0, .bool false] 33)) := by
    have := heap_alloc_new (w.alloc (.cells #[.int .i64 cu, .int .i64 cg] 24)) (.cells #[.int .i64 0, .string ⟨#[]⟩, .int .i64 0, .bool false] 33)
    rw [World.size_alloc] at this
    exact this
  have hb : Below w.heap.size w ((w.alloc (.cells #[.int .i64 cu, .int .i64 cg] 24)).alloc (.cells #[.int .i64 0, .string ⟨#[]⟩, .int .i64 0, .bool false] 33)) := ((Below.refl _ _).alloc (Nat.le_refl _) _).alloc (by simp) _
  go_enter Tryz.func9, Tryz.ntmps9
  go_upto_region 1 with fail
  generalize (w.alloc (.cells #[.int .i64 cu, .int .i64 cg] 24)).alloc (.cells #[.int .i64 0, .string ⟨#[]⟩, .int .i64 0, .bool false] 33) = W2 at *
  obtain ⟨d0, d1, d2, d3⟩ := hD.facts
  obtain ⟨e0, e1, e2, e3⟩ := hD.open
  go_step3
  go_wp2_with (go_at_call 20; refine (cp _).mono ?_; rintro e w1 ⟨rfl, rfl⟩)
  have F9 := hD.fill noFd
  have hb9 := hb.trans (below_fillF (Nat.le_succ w.heap.size) W2 noFd)
  unfold fillF at F9 hb9
  dsimp only [noFd] at F9 hb9
  generalize World.setCell _ _ _ = W9 at F9 hb9 ⊢
  obtain ⟨q0, q1, q2, q3⟩ := F9.facts
  dsimp only at q0 q1 q2 q3
  rw [Exit.noGoto_ret]
  refine bodyPost_ret (by simp [results, Tryz.results9, go_sem, q0, q1, q2, q3]; rfl) rfl ?_
  exact ⟨rfl, hb9⟩
theorem Path_any {BB X A M : Nat} {mv : Value} {st : St} {w : World} (hlast : st.last < 1000000) (hI : Inv st) (hT : Tree st) (hR : Ranged st) (hW : Wd BB X A M mv st w) (cu cg : Int) (s : ByteArray) (hs : s.size ≤ 5000) (follow : Bool) :
    Calls Tryz.prog 9 #[.pointer (some ⟨X, 0, none⟩), .agg #[.int .i64 cu, .int .i64 cg], .string s, .bool follow] w fun e w' => e = .returned (.tuple #[(path st cu cg follow s.data.toList).1.v, .int .i64 (path st cu cg follow s.data.toList).2]) ∧ Below w.heap.size w w' := by
  by_cases h0 : V.M.path s.data.toList = 0
  · have h := Path_yes hlast hI hT hR hW cu cg s hs follow h0 rfl
    unfold path
    rw [if_pos h0]
    exact h
  · have h := Path_no (X := X) (w := w) cu cg s follow h0
    unfold path
    rw [if_neg h0]
    exact h
end Go.Proofs.YtlceaecibjbeaaaGreat.K
