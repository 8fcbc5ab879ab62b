/-
  The law's 'all': the first parts of a text, at most so many, in a slice of the call's own.
-/
import Derived.Test.YtejiogopppjjoaaDoorIter
namespace Go.Proofs.YtejiogopppjjoaaDoor
open Go.RowKit Go.Shelf
attribute [local go_sem] Oper.semAt_some

theorem equal_nil (b : Array Value) (W : World) : (Op.equal 35 (.func (.func 27) #[] b) .nilFunc).run Tryd.prog W = .ok false W := by
  have hu := run_underlying Tryd.underlying35
  have h : Op.equal 35 (.func (.func 27) #[] b) .nilFunc = Op.equalIn (9999 + 1) 35 (.func (.func 27) #[] b) .nilFunc := rfl
  rw [h, Op.equalIn]
  simp [go_sem, hu]
theorem hnil (b : Array Value) (W : World) : (binOp .eql 35 (.func (.func 27) #[] b) .nilFunc).run Tryd.prog W = .ok (.bool false) W := by
  simp [binOp, go_sem, equal_nil]
theorem take_all {xs : List (List UInt8)} {m : Nat} (h : xs.length < m) : xs.take m = xs := List.take_of_length_le (by omega)
theorem take_pre {xs pre : List (List UInt8)} {m : Nat} (h : pre <+: xs) (hm : pre.length = m) : xs.take m = pre := by
  rw [← hm]; exact (List.prefix_iff_eq_take.1 h).symm

set_option maxRecDepth 100000 in
set_option maxHeartbeats 4000000 in
theorem all_any (s : ByteArray) (hs : s.size ≤ 5000) (most : Nat) (hm : 1 ≤ most) (w : World) (hmost : most ≤ 100000) :
    Calls Tryd.prog 8 #[.string s, .int .i64 most] w fun e w' => ∃ v, e = .returned (.tuple #[v, .bool true]) ∧ Texts w.heap.size v ((M.parts s.data.toList).take most) w' ∧ Below w.heap.size w w' := by
  obtain ⟨i0, hi, hz0, hz1, hz2⟩ := info_parts info9
  have hpl : (M.parts s.data.toList).length ≤ 5001 := by
    have := M.parts_len s.data.toList
    rw [← Lib.size_eq] at this; omega
  refine (callsIn_wide (n := 5)).1 ?_
  refine callsIn_of_wp_marks Tryd.func8 rfl trivial ?_ rfl
  simp only [Tryd.ntmps8, List.size_toArray, List.length_cons, List.length_nil, Nat.reduceAdd, Nat.reduceSub, Array.replicate_succ, Array.replicate_zero, List.push_toArray, List.append_toArray, List.nil_append, List.cons_append]
  have hne := hnil #[.pointer (some ⟨w.heap.size + 1, 0, none⟩)]
  gi_wp2_with (refine ⟨trivial, ?_⟩; gi_at_call 20; refine (parts_in _ s _).mono ?_; rintro e w' ⟨rfl, rfl⟩)
  have bM := ((Boxed.new w 3 (.int .i64 most)).alloc (.cells #[.string s] 9)).alloc (.cells #[.slice none 0 0] 24)
  have bN := (Boxed.new (w.alloc (.cells #[.int .i64 most] 3)) 9 (.string s)).alloc (.cells #[.slice none 0 0] 24)
  rw [World.size_alloc] at bN
  have bO := Boxed.new ((w.alloc (.cells #[.int .i64 most] 3)).alloc (.cells #[.string s] 9)) 24 (.slice none 0 0)
  rw [World.size_alloc, World.size_alloc] at bO
  have hB0 : Below w.heap.size w (((w.alloc (.cells #[.int .i64 most] 3)).alloc (.cells #[.string s] 9)).alloc (.cells #[.slice none 0 0] 24)) := (((Below.refl _ w).alloc (Nat.le_refl _) _).alloc (by simp) _).alloc (by simp; omega) _
  refine wpIn_rangeFunc_ownG rfl (by omega) (gf := 27) (lb := #[.pointer (some ⟨w.heap.size + 1, 0, none⟩)]) rfl trivial (enters_of Tryd.func27 (by kernel_rfl) rfl)
    (parts_stops _ (by omega) (w.heap.size + 1) w.heap.size s hs _ (by simp) bN.cell) belowK_t (belowK_b (by simp; omega)) (Below.refl _ _) (fun _ => rfl)
    (fun pre W => (∃ v, Boxed W (w.heap.size + 2) 24 v ∧ W.ownsRow w.heap.size 9 1 v pre.length (pre.map str) ∧ True) ∧ Boxed W w.heap.size 3 (.int .i64 most) ∧ pre.length < most ∧ Below w.heap.size w W)
    (fun c pre W => (∃ v, Boxed W (w.heap.size + 2) 24 v ∧ W.ownsRow w.heap.size 9 1 v pre.length (pre.map str) ∧ True) ∧ (c = .exit 0 ∧ pre.length = most) ∧ Below w.heap.size w W)
    (OwnFrom.and (Own.from (holdsRow_own w.heap.size (w.heap.size + 2) 24 9 1 (fun pre : List (List UInt8) => pre.length) (fun pre => pre.map str) (fun _ _ => True)) _) (OwnFrom.and (Own.from (boxed_own _ _ (fun _ => .int .i64 most)) _) (OwnFrom.and (ownFrom_pure _ _) (ownFrom_below (Nat.le_refl _) (by simp; omega)))))
    (fun c => OwnFrom.and (Own.from (holdsRow_own w.heap.size (w.heap.size + 2) 24 9 1 (fun pre : List (List UInt8) => pre.length) (fun pre => pre.map str) (fun _ _ => True)) _) (OwnFrom.and (ownFrom_pure _ _) (ownFrom_below (Nat.le_refl _) (by simp; omega))))
    ⟨⟨_, bO, World.ownsRow_nil _ _ _ _, trivial⟩, bM, hm, hB0⟩
    (fun x => { tmps := #[.string s, .int .i64 most, undef, .pointer (some ⟨w.heap.size, 0, none⟩), .slice none 0 0, .bool false, .func (.func 27) #[] #[.pointer (some ⟨w.heap.size + 1, 0, none⟩)], .pointer (some ⟨w.heap.size + 2, 0, none⟩), .string ⟨x.toArray⟩, .string s, .func (.func 27) #[] #[.pointer (some ⟨w.heap.size + 1, 0, none⟩)], .func (.func 27) #[] #[.pointer (some ⟨w.heap.size + 1, 0, none⟩)], .bool false, .func (.func 27) #[] #[.pointer (some ⟨w.heap.size + 1, 0, none⟩)], .string ⟨x.toArray⟩, undef, undef, undef, undef, undef, undef, undef, undef, undef], defers := [] }) ?assign ?body ?done ?stop
  case assign =>
    intro l x W K hK
    gi_wp2
    exact hK
  case body =>
    rintro l pre x W ⟨⟨v, hv, hrow, -⟩, hbm, hlt, hB⟩ hN
    have hc := hv.cell
    have hcm := hbm.cell
    have hpl2 : pre.length ≤ 5001 := by omega
    by_cases hq : pre.length + 1 = most
    · have hq' : (most : Int) ≤ pre.length + 1 := by omega
      have HQ := Lib.hid hq; clear hq
      gi_wp2_with (gi_at_builtin; refine wpListIn_append_own _ rfl _ _ 24 rfl w.heap.size 9 i0 (.string ⟨#[]⟩) 1 16 Tryd.underlying24 hi hz0 hz1 hz2 rfl (by decide) _ _ _ rfl (hrow.alloc _) ⟨W.heap.size, 0, none⟩ 1 1 [str x] rfl rfl (cell_one_new _ _ _) (by simp [Value.oneCell', str]) (by unfold maxLen; omega) (by omega) (by have := hB.size; simp; omega) ?_; intro v' w1 hown' hgrow _; obtain ⟨g', cap', rfl⟩ := ownsRow_succ hown'; obtain ⟨hv1, hv2, hr2, hk2, hb2⟩ := hv.appended (by decide) hrow hB.size (by omega) hown' hgrow; have hbm2 := ((hbm.alloc _).kept hgrow (hbm.not_row (by decide) hrow)).other (show w.heap.size ≠ w.heap.size + 2 by omega) (.slice (some ⟨g', 0, none⟩) (pre.length + 1) cap'); have hc1 := hv1.cell; have hf1 := hv1.frozen; have hc2 := hv2.cell; have hcm2 := hbm2.cell)
      exact ⟨hk2.from _, by first | exact ⟨_, hv2, Texts.snoc hr2, trivial⟩ | exact ⟨_, hv2, Texts.snoc hr2⟩, ⟨rfl, by have := HQ.out; simpa using this⟩, hB.trans hb2⟩
    · have hq' : ¬ (most : Int) ≤ pre.length + 1 := by omega
      gi_wp2_with (gi_at_builtin; refine wpListIn_append_own _ rfl _ _ 24 rfl w.heap.size 9 i0 (.string ⟨#[]⟩) 1 16 Tryd.underlying24 hi hz0 hz1 hz2 rfl (by decide) _ _ _ rfl (hrow.alloc _) ⟨W.heap.size, 0, none⟩ 1 1 [str x] rfl rfl (cell_one_new _ _ _) (by simp [Value.oneCell', str]) (by unfold maxLen; omega) (by omega) (by have := hB.size; simp; omega) ?_; intro v' w1 hown' hgrow _; obtain ⟨g', cap', rfl⟩ := ownsRow_succ hown'; obtain ⟨hv1, hv2, hr2, hk2, hb2⟩ := hv.appended (by decide) hrow hB.size (by omega) hown' hgrow; have hbm2 := ((hbm.alloc _).kept hgrow (hbm.not_row (by decide) hrow)).other (show w.heap.size ≠ w.heap.size + 2 by omega) (.slice (some ⟨g', 0, none⟩) (pre.length + 1) cap'); have hc1 := hv1.cell; have hf1 := hv1.frozen; have hc2 := hv2.cell; have hcm2 := hbm2.cell)
      exact ⟨hk2.from _, hb2, by first | exact ⟨_, hv2, Texts.snoc hr2, trivial⟩ | exact ⟨_, hv2, Texts.snoc hr2⟩, hbm2, by simp; omega, hB.trans hb2⟩
  case done =>
    rintro D ys W hD rfl ⟨⟨v, hv, hrow, -⟩, hbm, hlt, hB⟩ hK
    have hc := hv.cell
    have HT := Lib.hid (take_all hlt)
    gi_wp2
    refine ⟨by simp, .inl ⟨_, _, rfl, run_takeDeferred hK, ?_⟩⟩
    exact ⟨_, results_tmp2 rfl _ _ _, v, rfl, by rw [HT.out]; exact ownsRow_putObj hrow _ hK rfl, hB.trans (belowK_b (w := w) (Nat.le_refl _) W D _ _ (by simp at hD; omega) hK rfl rfl)⟩
  case stop =>
    rintro D c pre W hD hSp ⟨⟨v, hv, hrow, -⟩, ⟨rfl, hpm⟩, hB⟩ hK
    have hc := hv.cell
    have HT := Lib.hid (take_pre hSp hpm)
    gi_wp2
    refine ⟨by simp, .inl ⟨_, _, rfl, run_takeDeferred hK, ?_⟩⟩
    exact ⟨_, results_tmp2 rfl _ _ _, v, rfl, by rw [HT.out]; exact ownsRow_putObj hrow _ hK rfl, hB.trans (belowK_b (w := w) (Nat.le_refl _) W D _ _ (by simp at hD; omega) hK rfl rfl)⟩
end Go.Proofs.YtejiogopppjjoaaDoor
