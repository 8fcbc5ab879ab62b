/-
  track's remaining: what no ".." takes away, in a slice of the call's own.
-/
import Derived.Test.YtfdjgbonjenldaaDoorIter
import Derived.Test.YtfdjgbonjenldaaDoorTrack
namespace Go.Proofs.YtfdjgbonjenldaaDoor
open Go.RowKit Go.Shelf
attribute [local go_sem] Oper.semAt_some

theorem Texts.shrink {B g cap n m : Nat} {ps qs : List (List UInt8)} {w : World} (h : Texts B (.slice (some ⟨g, 0, none⟩) n cap) ps w) (hq : ps.take m = qs) (hm : qs.length = m) :
    Texts B (.slice (some ⟨g, 0, none⟩) m cap) qs w := by
  have hle : m ≤ ps.length := by rw [← hq, List.length_take] at hm; omega
  refine ⟨by simp, .inr ?_⟩
  rcases h.2 with ⟨h', _⟩ | ⟨g', cap', cur, h', hB, hg, hn, hc, hs, ht⟩
  · simp at h'
  · simp only [Value.slice.injEq, Option.some.injEq, Addr.mk.injEq] at h'
    obtain ⟨⟨rfl, -, -⟩, rfl, rfl⟩ := h'
    refine ⟨g, cap, cur, by rw [hm], hB, hg, by omega, hc, hs, ?_⟩
    rw [hm, ← hq, List.map_take, ← ht, List.take_take]
    congr 1; omega
theorem Texts.cap_le {B g cap n : Nat} {ps : List (List UInt8)} {w : World} (h : Texts B (.slice (some ⟨g, 0, none⟩) n cap) ps w) : ps.length ≤ cap := by
  rcases h.2 with ⟨h', _⟩ | ⟨g', cap', cur, h', _, _, h2, _⟩
  · simp at h'
  · simp only [Value.slice.injEq] at h'; omega
theorem last_up {k : List (List UInt8)} {m : Nat} (h : ¬ M.leaves k) (hm : k.length = m + 1) : k[m]? = some [46, 46] := by
  have hl : k.getLast? = k[m]? := by rw [List.getLast?_eq_getElem?, hm]; rfl
  obtain ⟨q, hq⟩ : ∃ q, k[m]? = some q := ⟨_, List.getElem?_eq_getElem (by omega)⟩
  rw [hq] at hl ⊢
  by_cases e : q = [46, 46]
  · rw [e]
  · exact absurd ⟨q, hl, e⟩ h
/-- the box's slice, made shorter -/
theorem boxed_shrunk {W : World} {n₀ B : Nat} {t : TypeId} {v v' : Value} {qs : List (List UInt8)} (hv : Boxed W B t v) (ht : t ≠ 9) (hB : n₀ ≤ B) (hr : Texts n₀ v' qs W) :
    Boxed (W.setCell ⟨B, 0, none⟩ v') B t v' ∧ Texts n₀ v' qs (W.setCell ⟨B, 0, none⟩ v') ∧ KeepsOthers W (W.setCell ⟨B, 0, none⟩ v') ∧ Below n₀ W (W.setCell ⟨B, 0, none⟩ v') :=
  ⟨hv.set v', World.ownsRow.kept hr (grownBy_setCell' W B v') (.inr (hv.not_row ht hr).symm), KeepsOthers.setCell _ _ _, (Below.refl _ W).setCell (p := ⟨B, 0, none⟩) hB v'⟩

theorem rem_snoc (b : Bool) (ps : List (List UInt8)) (p : List UInt8) : M.rem b (ps ++ [p]) = M.step b (M.rem b ps) p := by
  unfold M.rem; rw [List.foldl_append]; rfl
theorem rem_len (b : Bool) (ps : List (List UInt8)) : (M.rem b ps).length ≤ ps.length := by
  have key : ∀ (ps k : List (List UInt8)), (ps.foldl (M.step b) k).length ≤ k.length + ps.length := by
    intro ps
    induction ps with
    | nil => intro k; simp
    | cons p ps ih =>
      intro k
      have h1 := ih (M.step b k p)
      have h2 : (M.step b k p).length ≤ k.length + 1 := by
        unfold M.step
        split
        · split
          · simp; omega
          · split
            · omega
            · simp
        · simp
      rw [List.foldl_cons, List.length_cons]; omega
  have := key ps []
  rw [List.length_nil, Nat.zero_add] at this
  exact this

set_option maxRecDepth 100000 in
set_option maxHeartbeats 4000000 in
theorem remaining_any (l : List UInt8) (hs : l.length ≤ 5000) (w : World) :
    Calls Tryd.prog 24 #[.string ⟨l.toArray⟩] w fun e w' => ∃ v, e = .returned v ∧ Texts w.heap.size v (M.kept l) w' ∧ Below w.heap.size w w' := by
  obtain ⟨i0, hi, hz0, hz1, hz2⟩ := info_parts info9
  have hpl : (M.parts l).length ≤ 5001 := by
    have := M.parts_len l
    omega
  obtain ⟨b, hb⟩ : ∃ b, M.abs l = b := ⟨_, rfl⟩
  have ca := fun w => absolute_l l w
  rw [hb] at ca
  have HK : Hid (M.kept l = M.rem b (M.parts l)) := Lib.hid (by rw [M.kept, hb])
  rw [HK.out]
  clear hb
  refine (callsIn_wide (n := 5)).1 ?_
  refine callsIn_of_wp_marks Tryd.func24 rfl trivial ?_ rfl
  simp only [Tryd.ntmps24, List.size_toArray, List.length_cons, List.length_nil, Nat.reduceAdd, Nat.reduceSub, Array.replicate_succ, Array.replicate_zero, List.push_toArray, List.append_toArray, List.nil_append, List.cons_append]
  gi_wp2_with (refine ⟨trivial, ?_⟩; gi_at_call 34; refine (parts_in _ ⟨l.toArray⟩ _).mono ?_; rintro e w' ⟨rfl, rfl⟩)
  have bS := ((Boxed.new w 9 (.string ⟨l.toArray⟩)).alloc (.cells #[.slice none 0 0] 33)).alloc (.cells #[.string ⟨l.toArray⟩] 9)
  have bO := (Boxed.new (w.alloc (.cells #[.string ⟨l.toArray⟩] 9)) 33 (.slice none 0 0)).alloc (.cells #[.string ⟨l.toArray⟩] 9)
  rw [World.size_alloc] at bO
  have bN := Boxed.new ((w.alloc (.cells #[.string ⟨l.toArray⟩] 9)).alloc (.cells #[.slice none 0 0] 33)) 9 (.string ⟨l.toArray⟩)
  rw [World.size_alloc, World.size_alloc] at bN
  have hB0 : Below w.heap.size w (((w.alloc (.cells #[.string ⟨l.toArray⟩] 9)).alloc (.cells #[.slice none 0 0] 33)).alloc (.cells #[.string ⟨l.toArray⟩] 9)) := (((Below.refl _ w).alloc (Nat.le_refl _) _).alloc (by simp) _).alloc (by simp; omega) _
  refine wpIn_rangeFunc_ownG rfl (by omega) (gf := 44) (lb := #[.pointer (some ⟨w.heap.size + 2, 0, none⟩)]) rfl trivial (enters_of Tryd.func44 (by kernel_rfl) rfl)
    (parts_stops _ (by omega) (w.heap.size + 2) w.heap.size ⟨l.toArray⟩ (by rw [size_l]; exact hs) _ (by simp) bN.cell) belowK_t (belowK_b (by simp; omega)) (Below.refl _ _) (fun _ => rfl)
    (fun pre W => (∃ v, Boxed W (w.heap.size + 1) 33 v ∧ W.ownsRow (w.heap.size + 1) 9 1 v (M.rem b pre).length ((M.rem b pre).map str) ∧ True) ∧ Boxed W w.heap.size 9 (.string ⟨l.toArray⟩) ∧ Below w.heap.size w W)
    (fun _ _ _ => False)
    (OwnFrom.and (Own.from (holdsRow_own (w.heap.size + 1) (w.heap.size + 1) 33 9 1 (fun pre : List (List UInt8) => (M.rem b pre).length) (fun pre => (M.rem b pre).map str) (fun _ _ => True)) _) (OwnFrom.and (Own.from (boxed_own _ _ (fun _ => .string ⟨l.toArray⟩)) _) (ownFrom_below (Nat.le_refl _) (by simp; omega))))
    (fun c => ownFrom_pure _ _)
    ⟨⟨_, bO, World.ownsRow_nil _ _ _ _, trivial⟩, bS, hB0⟩
    (fun x => { tmps := #[.string ⟨l.toArray⟩, .pointer (some ⟨w.heap.size, 0, none⟩), .slice none 0 0, .pointer (some ⟨w.heap.size + 1, 0, none⟩), .string ⟨x.toArray⟩, undef, .string ⟨l.toArray⟩, .func (.func 44) #[] #[.pointer (some ⟨w.heap.size + 2, 0, none⟩)], .string ⟨x.toArray⟩, undef, undef, undef, undef, undef, undef, undef, undef, undef, undef, undef, undef, undef, undef, undef, undef, undef, undef, undef, undef, undef, undef, undef, undef, undef, undef, undef, undef, undef, undef, undef, undef], defers := [] }) ?assign ?body ?done ?stop
  case assign =>
    intro l x W K hK
    gi_wp2
    exact hK
  case body =>
    rintro l' pre x W ⟨⟨v, hv, hrow, -⟩, hbs, hB⟩ hN
    have hrl : (M.rem b pre).length ≤ 5001 := by
      have h1 := rem_len b pre
      have h2 : pre.length < (M.parts l).length := hN
      omega
    have HST := Lib.hid (rem_snoc b pre x)
    obtain ⟨k, HR⟩ : ∃ k, Hid (M.rem b pre = k) := ⟨_, Lib.hid rfl⟩
    rw [HR.out] at hrow hrl
    have hT : Texts (w.heap.size + 1) v k W := hrow
    obtain ⟨oa, cap, rfl, hcell⟩ := hT.reads
    have hc := hv.cell
    have hcs := hbs.cell
    by_cases hx : x = [46, 46]
    · subst hx
      by_cases hlv : M.leaves k
      · have HS : Hid (M.rem b (pre ++ [[46, 46]]) = k.dropLast) := Lib.hid (by rw [HST.out, HR.out, M.step_leave b hlv])
        obtain ⟨q, hq, hqn⟩ := hlv
        obtain ⟨m, hm⟩ : ∃ m, k.length = m + 1 := by
          cases k with
          | nil => cases hq
          | cons a k => exact ⟨k.length, rfl⟩
        have hkm : k[m]? = some q := by rw [List.getLast?_eq_getElem?, hm] at hq; exact hq
        obtain ⟨g, rfl, hcm⟩ := hcell m q hkm
        have hqn' : (q == [46, 46]) = false := by simpa using hqn
        have hsh : Texts (w.heap.size + 1) (.slice (some ⟨g, 0, none⟩) m cap) k.dropLast W := hT.shrink (by rw [List.dropLast_eq_take, hm]; rfl) (by rw [List.length_dropLast, hm]; rfl)
        have hcap : (m : Int) ≤ cap := by have := Texts.cap_le hT; omega
        obtain ⟨hv2, hr2, hk2, hb2⟩ := boxed_shrunk hv (by decide) (by omega) hsh
        have hbs2 := hbs.other (show w.heap.size ≠ w.heap.size + 1 by omega) (.slice (some ⟨g, 0, none⟩) m cap)
        have hfz := hv.frozen
        rw [hm] at hc hrl
        have HH := Lib.hid (And.intro hv2 (And.intro hr2 (And.intro hk2 (And.intro hb2 hbs2))))
        clear hv2 hr2 hk2 hb2 hbs2 hcell hT hrow hsh hq hkm hqn
        have HM := Lib.hid hm; clear hm
        gi_wp2
        obtain ⟨hv2, hr2, hk2, hb2, hbs2⟩ := HH.out
        replace hb2 := hb2.mono (Nat.le_succ w.heap.size)
        exact ⟨hk2.from _, hb2, by rw [HS.out]; first | exact ⟨_, hv2, hr2, trivial⟩ | exact ⟨_, hv2, hr2⟩, hbs2, hB.trans hb2⟩
      · have hnr := (fun e => by have := (hrow.lt _ e.symm).1; omega : some w.heap.size ≠ (Value.slice oa k.length cap).ownBlock)
        cases b with
        | true =>
          have HS : Hid (M.rem true (pre ++ [[46, 46]]) = k) := Lib.hid (by rw [HST.out, HR.out, M.step_top hlv])
          have HT := Lib.hid hT; clear hT
          by_cases hk : k.length = 0
          · rw [hk] at hc
            clear hcell hrow
            gi_wp2_with (refine ⟨trivial, ?_⟩; gi_at_call 19; refine (callsIn_wide.2 (ca _)).mono ?_; rintro e w9 ⟨rfl, hw9⟩; obtain rfl := hw9.symm)
            exact ⟨(KeepsOthers.refl W).from _, Below.refl _ _, by rw [HS.out]; first | exact ⟨_, hv, HT.out, trivial⟩ | exact ⟨_, hv, HT.out⟩, hbs, hB⟩
          · obtain ⟨m, hm⟩ : ∃ m, k.length = m + 1 := ⟨k.length - 1, by omega⟩
            obtain ⟨g, rfl, hcm⟩ := hcell m [46, 46] (last_up hlv hm)
            rw [hm] at hc hrl
            clear hcell hrow
            have HM := Lib.hid hm; clear hm
            gi_wp2_with (refine ⟨trivial, ?_⟩; gi_at_call 19; refine (callsIn_wide.2 (ca _)).mono ?_; rintro e w9 ⟨rfl, hw9⟩; obtain rfl := hw9.symm)
            exact ⟨(KeepsOthers.refl W).from _, Below.refl _ _, by rw [HS.out]; first | exact ⟨_, hv, HT.out, trivial⟩ | exact ⟨_, hv, HT.out⟩, hbs, hB⟩
        | false =>
          have HS : Hid (M.rem false (pre ++ [[46, 46]]) = k ++ [[46, 46]]) := Lib.hid (by rw [HST.out, HR.out, M.step_up hlv])
          clear hT
          by_cases hk : k.length = 0
          · have hk' : (k.length : Int) - 1 = -1 := by omega
            clear hcell hk
            gi_wp2_with (first
        | (refine ⟨trivial, ?_⟩; gi_at_call 19; refine (callsIn_wide.2 (ca _)).mono ?_; rintro e w9 ⟨rfl, hw9⟩; obtain rfl := hw9.symm)
        | (gi_at_builtin; refine wpListIn_append_own _ rfl _ _ 33 rfl (w.heap.size + 1) 9 i0 (.string ⟨#[]⟩) 1 16 Tryd.underlying33 hi hz0 hz1 hz2 rfl (by decide) _ _ _ rfl (hrow.alloc _) ⟨W.heap.size, 0, none⟩ 1 1 [str [46, 46]] rfl rfl (cell_one_new _ _ _) (by simp [Value.oneCell', str]) (by unfold maxLen; omega) (by omega) (by have := hv.lt; simp; omega) ?_; intro v' w1 hown' hgrow _; obtain ⟨g', cap', rfl⟩ := ownsRow_succ hown'; obtain ⟨hv1, hv2, hr2, hk2, hb2⟩ := hv.appended (by decide) hrow (Nat.le_of_lt hv.lt) (by omega) hown' hgrow; replace hb2 := hb2.mono (Nat.le_succ w.heap.size); have hbs2 := ((hbs.alloc _).kept hgrow hnr).other (show w.heap.size ≠ w.heap.size + 1 by omega) (.slice (some ⟨g', 0, none⟩) (k.length + 1) cap'); have hc1 := hv1.cell; have hf1 := hv1.frozen))
            exact ⟨hk2.from _, hb2, by rw [HS.out]; first | exact ⟨_, hv2, Texts.snoc hr2, trivial⟩ | exact ⟨_, hv2, Texts.snoc hr2⟩, hbs2, hB.trans hb2⟩
          · obtain ⟨m, hm⟩ : ∃ m, k.length = m + 1 := ⟨k.length - 1, by omega⟩
            obtain ⟨g, rfl, hcm⟩ := hcell m [46, 46] (last_up hlv hm)
            clear hcell
            have hm' : (k.length : Int) - 1 = m := by omega
            have hml : m < k.length := by omega
            clear hm hk
            gi_wp2_with (first
        | (refine ⟨trivial, ?_⟩; gi_at_call 19; refine (callsIn_wide.2 (ca _)).mono ?_; rintro e w9 ⟨rfl, hw9⟩; obtain rfl := hw9.symm)
        | (gi_at_builtin; refine wpListIn_append_own _ rfl _ _ 33 rfl (w.heap.size + 1) 9 i0 (.string ⟨#[]⟩) 1 16 Tryd.underlying33 hi hz0 hz1 hz2 rfl (by decide) _ _ _ rfl (hrow.alloc _) ⟨W.heap.size, 0, none⟩ 1 1 [str [46, 46]] rfl rfl (cell_one_new _ _ _) (by simp [Value.oneCell', str]) (by unfold maxLen; omega) (by omega) (by have := hv.lt; simp; omega) ?_; intro v' w1 hown' hgrow _; obtain ⟨g', cap', rfl⟩ := ownsRow_succ hown'; obtain ⟨hv1, hv2, hr2, hk2, hb2⟩ := hv.appended (by decide) hrow (Nat.le_of_lt hv.lt) (by omega) hown' hgrow; replace hb2 := hb2.mono (Nat.le_succ w.heap.size); have hbs2 := ((hbs.alloc _).kept hgrow hnr).other (show w.heap.size ≠ w.heap.size + 1 by omega) (.slice (some ⟨g', 0, none⟩) (k.length + 1) cap'); have hc1 := hv1.cell; have hf1 := hv1.frozen))
            exact ⟨hk2.from _, hb2, by rw [HS.out]; first | exact ⟨_, hv2, Texts.snoc hr2, trivial⟩ | exact ⟨_, hv2, Texts.snoc hr2⟩, hbs2, hB.trans hb2⟩
    · have HS : Hid (M.rem b (pre ++ [x]) = k ++ [x]) := Lib.hid (by rw [HST.out, HR.out, M.step_name b k hx])
      have hx' : (x == [46, 46]) = false := by simpa using hx
      have hnr := (fun e => by have := (hrow.lt _ e.symm).1; omega : some w.heap.size ≠ (Value.slice oa k.length cap).ownBlock)
      clear hcell hT
      gi_wp2_with (first
        | (refine ⟨trivial, ?_⟩; gi_at_call 19; refine (callsIn_wide.2 (ca _)).mono ?_; rintro e w9 ⟨rfl, hw9⟩; obtain rfl := hw9.symm)
        | (gi_at_builtin; refine wpListIn_append_own _ rfl _ _ 33 rfl (w.heap.size + 1) 9 i0 (.string ⟨#[]⟩) 1 16 Tryd.underlying33 hi hz0 hz1 hz2 rfl (by decide) _ _ _ rfl (hrow.alloc _) ⟨W.heap.size, 0, none⟩ 1 1 [str x] rfl rfl (cell_one_new _ _ _) (by simp [Value.oneCell', str]) (by unfold maxLen; omega) (by omega) (by have := hv.lt; simp; omega) ?_; intro v' w1 hown' hgrow _; obtain ⟨g', cap', rfl⟩ := ownsRow_succ hown'; obtain ⟨hv1, hv2, hr2, hk2, hb2⟩ := hv.appended (by decide) hrow (Nat.le_of_lt hv.lt) (by omega) hown' hgrow; replace hb2 := hb2.mono (Nat.le_succ w.heap.size); have hbs2 := ((hbs.alloc _).kept hgrow hnr).other (show w.heap.size ≠ w.heap.size + 1 by omega) (.slice (some ⟨g', 0, none⟩) (k.length + 1) cap'); have hc1 := hv1.cell; have hf1 := hv1.frozen))
      exact ⟨hk2.from _, hb2, by rw [HS.out]; first | exact ⟨_, hv2, Texts.snoc hr2, trivial⟩ | exact ⟨_, hv2, Texts.snoc hr2⟩, hbs2, hB.trans hb2⟩
  case done =>
    rintro D ys W hD rfl ⟨⟨v, hv, hrow, -⟩, hbs, hB⟩ hK
    have hc := hv.cell
    gi_wp2
    refine ⟨by simp, .inl ⟨_, _, rfl, run_takeDeferred hK, ?_⟩⟩
    exact ⟨_, results_tmp rfl _ _ _, v, rfl, Texts.mono (B := w.heap.size + 1) (ownsRow_putObj hrow _ hK rfl) (Nat.le_succ _), hB.trans (belowK_b (w := w) (Nat.le_refl _) W D _ _ (by simp at hD; omega) hK rfl rfl)⟩
  case stop =>
    rintro D c pre W hD hSp hF hK
    exact hF.elim
end Go.Proofs.YtfdjgbonjenldaaDoor
