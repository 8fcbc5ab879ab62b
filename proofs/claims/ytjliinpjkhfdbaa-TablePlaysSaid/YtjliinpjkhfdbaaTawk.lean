/-
  The law's awake: the chapter's example.
-/
import Derived.Test.YtjliinpjkhfdbaaTlaw
namespace Go.Proofs.Ytjliinpjkhfdbaa.T
open Go.RowKit Go.Shelf

/-- a node of which the number and the kind alone are said -/
def nk (no kind : Int) : Nd := ⟨no, 0, kind, 0, 0, 0, 0, 0, 0, 0, ⟨#[]⟩, []⟩
theorem fits_nil : Fits [] := by unfold Fits; decide
theorem add_nk {B T M : Nat} {last : Int} {l : Row} {w : World} (h : Tab B T M last l w) (k : Int) (hlen : l.length < 1000000) (hlast : last < 1000000) :
    Calls Try.prog 9 #[.pointer (some ⟨T, 0, none⟩), .agg #[.int .i64 0, .int .i64 0, .int .i64 k, .int .i64 0, .int .i64 0, .int .i64 0, .int .i64 0, .int .i64 0, .int .i64 0, .int .i64 0, .string ⟨#[]⟩, .slice none 0 0]] w fun e w' =>
    e = .returned (.int .i64 (last + 1)) ∧ Only T M w w' ∧ ∃ u, Tab B T M (last + 1) (l ++ [(nk (last + 1) k, u)]) w' :=
  Add_any h (nk 0 k) (.slice none 0 0) (E.sees_none _ _ (Nat.zero_le _) _) fits_nil hlen hlast
theorem get_one {B T M : Nat} {u1 u3 : Value} {w : World} (h : Tab B T M 3 [(nk 1 1, u1), (nk 3 0, u3)] w) :
    Calls Try.prog 13 #[.pointer (some ⟨T, 0, none⟩), .int .i64 1] w fun e w' =>
    ∃ oa c, e = .returned (.tuple #[.agg #[.int .i64 1, .int .i64 0, .int .i64 1, .int .i64 0, .int .i64 0, .int .i64 0, .int .i64 0, .int .i64 0, .int .i64 0, .int .i64 0, .string ⟨#[]⟩, .slice oa 0 c], .bool true]) ∧ Below w.heap.size w w' := by
  refine (Get_any h 1 (wf_of (by decide) (by decide))).mono ?_
  rintro e w' ⟨u, rfl, hO, hb⟩
  have hO' : E.Own w.heap.size u [] w' := hO
  obtain ⟨oa, c, rfl⟩ := own_slice hO'
  exact ⟨oa, c, rfl, hb⟩
theorem drop_two {B T M : Nat} {u1 u2 : Value} {w : World} (h : Tab B T M 2 [(nk 1 1, u1), (nk 2 0, u2)] w) :
    Calls Try.prog 10 #[.pointer (some ⟨T, 0, none⟩), .int .i64 2] w fun e w' =>
    e = .returned (.bool true) ∧ Tab B T M 2 [(nk 1 1, u1)] w' ∧ Only T M w w' := Drop_any h 2 (wf_of (by decide) (by decide))

set_option maxRecDepth 100000 in
set_option maxHeartbeats 8000000 in
theorem awake_any (w : World) : Calls Try.prog 7 #[] w fun e w' => e = .returned (.bool true) ∧ Below w.heap.size w w' := by
  have cN := New_any w
  go_enter Try.func7, Try.ntmps7
  go_upto_region 4 with (go_at_call 6; refine cN.mono ?_; rintro e w1 ⟨T, M, rfl, hT, hb⟩)
  have a1 := add_nk hT 1 (by decide) (by decide)
  go_wp2_with (first
    | (go_at_call 10; refine (drop_two hT3).mono ?_; rintro e w4 ⟨rfl, hT4, hO4⟩; have a4 := add_nk hT4 0 (by simp) (by decide))
    | (go_at_call 13; refine (get_one hT5).mono ?_; rintro e w6 ⟨oa, c, rfl, hb6⟩)
    | (go_at_call 16; refine (Len_any ((hT5.below hb6).alloc _)).mono ?_; rintro e w7 ⟨rfl, rfl⟩)
    | (refine a1.mono ?_; clear a1; rintro e w2 ⟨rfl, hO2, u1, hT2⟩; have a2 := add_nk hT2 0 (by simp) (by decide))
    | (refine a2.mono ?_; clear a2; rintro e w3 ⟨rfl, hO3, u2, hT3⟩)
    | (refine a4.mono ?_; clear a4; rintro e w5 ⟨rfl, hO5, u3, hT5⟩))
  go_ret
  have s2 := Nat.le_trans hb.size hO2.size
  have s3 := Nat.le_trans s2 hO3.size
  have s4 := Nat.le_trans s3 hO4.size
  have s5 := Nat.le_trans s4 hO5.size
  refine ⟨rfl, ?_⟩
  exact ((((((hb.trans (hO2.below hT.bt hT.bm hb.size)).trans (hO3.below hT.bt hT.bm s2)).trans (hO4.below hT.bt hT.bm s3)).trans (hO5.below hT.bt hT.bm s4)).trans (hb6.mono s5))).alloc (Nat.le_trans s5 hb6.size) _
end Go.Proofs.Ytjliinpjkhfdbaa.T
