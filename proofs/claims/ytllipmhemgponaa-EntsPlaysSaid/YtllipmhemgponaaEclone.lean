/-
  slices.Clone at entries; ents.All.
-/
import Derived.Test.YtllipmhemgponaaErput
namespace Go.Proofs.Ytllipmhemgponaa.E
open Go.RowKit Go.Shelf

theorem empty_own (w : World) : (w.alloc (.cells #[] 25)).ownsRow w.heap.size 25 2 (.slice (some ⟨w.heap.size, 0, none⟩) 0 0) 0 [] :=
  ⟨rfl, .inr ⟨w.heap.size, 0, #[], rfl, Nat.le_refl _, heap_alloc_new w _, Nat.le_refl _, by decide, rfl, rfl⟩⟩
theorem slice_equal (oa : Option Addr) (n c : Nat) (W : World) : (Op.equal 22 (.slice oa n c) (.slice none 0 0)).run Try.prog W = .ok oa.isNone W := by
  have hu := run_underlying Try.underlying22
  have h : Op.equal 22 (.slice oa n c) (.slice none 0 0) = Op.equalIn (9999 + 1) 22 (.slice oa n c) (.slice none 0 0) := rfl
  rw [h, Op.equalIn]
  cases oa <;> simp [go_sem, hu]
theorem slice_nil (oa : Option Addr) (n c : Nat) (W : World) : (binOp .eql 22 (.slice oa n c) (.slice none 0 0)).run Try.prog W = .ok (.bool oa.isNone) W := by
  simp [binOp, go_sem, slice_equal]
set_option maxRecDepth 100000 in
set_option maxHeartbeats 4000000 in
theorem clone_any {v : Value} {ls : List Ent} {w : World} (hS : Sees v ls w) (hl : ls.length ≤ 100000) :
    Calls Try.prog 20 #[v] w fun e w' => ∃ u, e = .returned u ∧ Own w.heap.size u ls w' ∧ Below w.heap.size w w' := by
  obtain ⟨i0, hi0, hz0, hz1, hz2⟩ := info_parts infoE
  obtain ⟨oa, cap, rfl, hm, hcells⟩ := hS
  have hS : Sees (.slice oa ls.length cap) ls w := ⟨oa, cap, rfl, hm, hcells⟩
  cases oa with
  | none =>
    have hnil : ls = [] := by
      cases ls with
      | nil => rfl
      | cons x l => obtain ⟨g, o, e, _⟩ := hcells 0 x rfl; cases e
    subst hnil
    clear hS hcells hm
    have hq := slice_nil none 0 cap w
    go_enter Try.func20, Try.ntmps20
    go_wp2
    go_ret
    exact ⟨_, rfl, Own.nil _ _, Below.refl _ _⟩
  | some a =>
    have HF := Lib.hid (sees_flat (hS.below ((Below.refl _ _).alloc (Nat.le_refl _) (.cells #[] 25))))
    have hfl := flat_len ls
    have HO := Lib.hid (flat_one ls)
    obtain ⟨m, hmm⟩ : ∃ m, ls.length = m := ⟨_, rfl⟩
    have HM := Lib.hid hmm
    rw [hmm] at hl hfl ⊢
    clear hS hcells hm hmm
    have hq := slice_nil (some a) m cap w
    go_enter Try.func20, Try.ntmps20
    go_wp2_with (at_builtin; refine wpList_append_own _ rfl _ _ 22 rfl w.heap.size 25 i0 (.agg #[.string ⟨#[]⟩, .int .i64 0]) 2 24 Try.underlying22 hi0 hz0 hz1 hz2 rfl (by decide) _ _ _ rfl (empty_own w) a m cap (flat ls) rfl hfl HF.out HO.out (by unfold maxLen; omega) (by omega) (by simp) ?_; intro v' w1 hown' hgrow _)
    go_ret
    refine ⟨_, rfl, ?_, ?_⟩
    · unfold Own
      rw [HM.out]
      simpa using hown'
    · exact ((Below.refl _ _).alloc (Nat.le_refl _) _).grown hgrow (by simp) (fun k hk => ((empty_own w).lt k hk).1)

set_option maxHeartbeats 4000000 in
/-- what All answers: a function over a box that holds a copy -/
theorem all_any {v : Value} {ls : List Ent} {w : World} (hS : Sees v ls w) (hl : ls.length ≤ 100000) :
    Calls Try.prog 17 #[v] w fun e w' => ∃ b u, e = .returned (.func (.func 21) #[] #[.pointer (some ⟨b, 0, none⟩)]) ∧ Boxed w' b 22 u ∧ w.heap.size ≤ b ∧ Own w.heap.size u ls w' ∧ Below w.heap.size w w' := by
  have cc := clone_any hS hl
  obtain ⟨oa, cap, rfl, _⟩ := hS
  go_enter Try.func17, Try.ntmps17
  go_wp2_with (go_at_call 20; refine cc.mono ?_; rintro e w1 ⟨u, rfl, hO, hb⟩; have hs := hO.sees; have HO := Lib.hid hO; clear hO; obtain ⟨ou, cu, rfl, _⟩ := hs)
  go_ret
  have hb2 : Below w1.heap.size w1 (w1.alloc (.cells #[.slice ou ls.length cu] 22)) := (Below.refl _ _).alloc (Nat.le_refl _) _
  exact ⟨w1.heap.size, _, rfl, Boxed.new _ _ _, hb.size, HO.out.below hb2, below_two hb hb2⟩
end Go.Proofs.Ytllipmhemgponaa.E
