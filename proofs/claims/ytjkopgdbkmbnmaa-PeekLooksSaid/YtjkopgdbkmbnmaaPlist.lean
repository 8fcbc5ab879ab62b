/-
  Package peek: List.
-/
import Derived.Test.YtjkopgdbkmbnmaaPdir
import Derived.Test.YtjkopgdbkmbnmaaPround
import Derived.Test.YtjkopgdbkmbnmaaRlist
import Derived.OwnWalkIn
import Derived.RangeFuncBox
import Derived.Sort.CutIn
namespace Go.Proofs.Ytjkopgdbkmbnmaa.P
open Go.RowKit Go.Shelf G
attribute [local go_sem] Oper.semAt_some

theorem keeps_below {W W' : World} (h : Below W.heap.size W W') : KeepsOthers W W' := ⟨h.size, fun k _ hk _ => (h.block k (Array.getElem?_eq_some_iff.1 hk).1).trans hk⟩
section
variable {B X A M : Nat} {mv : Value} {st : St} {w : World}
set_option maxRecDepth 100000 in
set_option maxHeartbeats 16000000 in
theorem List_any (hI : Inv st) (h : Wd B X A M mv st w) (cu cg k : Int) (hk : T.Wf k) :
    Calls Try.prog 10 #[.pointer (some ⟨X, 0, none⟩), .agg #[.int .i64 cu, .int .i64 cg], .int .i64 k] w fun e w' =>
      ∃ u, e = .returned (.tuple #[u, .int .i64 (dirE st cu cg k 4)]) ∧ E.Own w.heap.size u (shown st (onlyIf (dirE st cu cg k 4) (gets st.n k)).es) w' ∧ Below w.heap.size w w' := by
  obtain ⟨i0, hi0, hz0, hz1, hz2⟩ := E.info_parts E.infoE
  refine (callsIn_wide (n := 5)).1 ?_
  have hb2 : Below w.heap.size w ((w.alloc (.cells #[.pointer (some ⟨X, 0, none⟩)] 27)).alloc (.cells #[.int .i64 cu, .int .i64 cg] 24)) := ((Below.refl _ w).alloc (Nat.le_refl _) _).alloc (by simp) _
  have b3 := (Boxed.new w 27 (.pointer (some ⟨X, 0, none⟩))).alloc (.cells #[.int .i64 cu, .int .i64 cg] 24)
  have C1 := CrBox.new cu cg (w.alloc (.cells #[.pointer (some ⟨X, 0, none⟩)] 27))
  rw [World.size_alloc] at C1
  have hs2 : ((w.alloc (.cells #[.pointer (some ⟨X, 0, none⟩)] 27)).alloc (.cells #[.int .i64 cu, .int .i64 cg] 24)).heap.size = w.heap.size + 2 := by simp
  have cd := directory_any (h.below hb2) cu cg k hk 4
  have cv := fun W (hb : Below w.heap.size w W) no => Over_any (h.below hb) no
  have hfew := nd_few hI (dirE st cu cg k 4) k
  have he : dirE st cu cg k 4 ≠ 0 → onlyIf (dirE st cu cg k 4) (gets st.n k) = T.Nd.zero := fun e => only_err e _
  generalize onlyIf (dirE st cu cg k 4) (gets st.n k) = nd at *
  generalize dirE st cu cg k 4 = de at *
  obtain ⟨no, dev, kind, mode, uid, gid, mt, ct, links, up, data, es⟩ := nd
  dsimp only [T.Nd.v] at cd
  have HE := Lib.hid he
  clear h he
  refine callsIn_of_wp_marks Try.func10 rfl trivial ?_ rfl
  simp only [Try.ntmps10, List.size_toArray, List.length_cons, List.length_nil, Nat.reduceAdd, Nat.reduceSub, Array.replicate_succ, Array.replicate_zero, List.push_toArray, List.append_toArray, List.nil_append, List.cons_append]
  gi_upto_region 1 with fail
  generalize (w.alloc (.cells #[.pointer (some ⟨X, 0, none⟩)] 27)).alloc (.cells #[.int .i64 cu, .int .i64 cg] 24) = W2 at *
  have c3 := b3.cell
  obtain ⟨k0, k1⟩ := C1.facts
  gi_upto_region 2 with (refine ⟨trivial, ?_⟩; gi_at_call 25; refine (callsIn_wide.2 cd).mono ?_; rintro e w3 ⟨u, rfl, hO, hb3⟩; obtain ⟨ou, cu', rfl⟩ := T.own_slice hO; have B3 := T.BoxN.new ⟨no, dev, kind, mode, uid, gid, mt, ct, links, up, data, es⟩ (.slice ou es.length cu') w3)
  have hal : Below w3.heap.size w3 (w3.alloc (.cells #[.int .i64 no, .int .i64 dev, .int .i64 kind, .int .i64 mode, .int .i64 uid, .int .i64 gid, .int .i64 mt, .int .i64 ct, .int .i64 links, .int .i64 up, .string data, .slice ou es.length cu'] 70)) := (Below.refl _ _).alloc (Nat.le_refl _) _
  have hO4 := hO.below hal
  have hb4 := below_two (below_two hb2 hb3) hal
  have b4 : Boxed _ w.heap.size 27 (.pointer (some ⟨X, 0, none⟩)) := ((below_two hb3 hal).block _ b3.lt).trans b3
  have hs4 : w.heap.size + 2 < (w3.alloc (.cells #[.int .i64 no, .int .i64 dev, .int .i64 kind, .int .i64 mode, .int .i64 uid, .int .i64 gid, .int .i64 mt, .int .i64 ct, .int .i64 links, .int .i64 up, .string data, .slice ou es.length cu'] 70)).heap.size := by have := hb3.size; simp; omega
  generalize w3.heap.size = b8 at *
  generalize w3.alloc (.cells #[.int .i64 no, .int .i64 dev, .int .i64 kind, .int .i64 mode, .int .i64 uid, .int .i64 gid, .int .i64 mt, .int .i64 ct, .int .i64 links, .int .i64 up, .string data, .slice ou es.length cu'] 70) = W4 at *
  clear hal hO hb3 cd b3 c3 C1 k0 k1 hb2 hs2
  by_cases h0 : de = 0
  · subst h0
    obtain ⟨g0, g1, g2, g3, g4, g5, g6, g7, g8, g9, g10, g11⟩ := B3.facts
    clear HE
    gi_upto_region 5 with (gi_at_make; refine wpListIn_make_own _ rfl _ _ 43 rfl W4.heap.size 61 i0 (.agg #[.string ⟨#[]⟩, .int .i64 0]) 2 Try.underlying43 hi0 hz0 hz1 .i64 .i64 _ es.length rfl rfl rfl (by rw [hz2]; omega) (by unfold maxLen; omega) (Nat.le_refl _) ?_; intro w5 hown hgrow)
    have hb5 : Below W4.heap.size W4 w5 := ⟨hgrow.os, hgrow.tape, hgrow.output, hgrow.size, fun j hj => hgrow.block j hj (by simp)⟩
    have hb6 : Below W4.heap.size W4 (w5.alloc (.cells #[.slice (some ⟨W4.heap.size, 0, none⟩) 0 es.length] 43)) := hb5.alloc hb5.size _
    have k10 := Boxed.new w5 43 (.slice (some ⟨W4.heap.size, 0, none⟩) 0 es.length)
    have kr6 := hown.alloc (.cells #[.slice (some ⟨W4.heap.size, 0, none⟩) 0 es.length] 43)
    have hlt9 : W4.heap.size < w5.heap.size := (hown.lt W4.heap.size rfl).2
    have hs6 : (w5.alloc (.cells #[.slice (some ⟨W4.heap.size, 0, none⟩) 0 es.length] 43)).heap.size = w5.heap.size + 1 := by simp
    have m11 := (T.BoxN.below B3 hb6).facts.2.2.2.2.2.2.2.2.2.2.2
    have hO6 := hO4.below hb6
    have b6 : Boxed _ w.heap.size 27 (.pointer (some ⟨X, 0, none⟩)) := (hb6.block _ b4.lt).trans b4
    have hw6 := hb4.trans (hb6.mono hb4.size)
    generalize w5.alloc (.cells #[.slice (some ⟨W4.heap.size, 0, none⟩) 0 es.length] 43) = W6 at *
    obtain ⟨b9, hb9⟩ : ∃ b, W4.heap.size = b := ⟨_, rfl⟩
    obtain ⟨b10, hb10⟩ : ∃ b, w5.heap.size = b := ⟨_, rfl⟩
    rw [hb9] at k10 kr6 hlt9 hs4 ⊢
    rw [hb10] at k10 hlt9 hs6 ⊢
    clear hown hgrow hb5 hb6 g0 g1 g2 g3 g4 g5 g6 g7 g8 g9 g10 g11 B3 hO4 b4 hb9 hb10 hb4
    have ca := E.all_any hO6.sees hfew
    gi_upto_region 6 with (refine ⟨trivial, ?_⟩; gi_at_call 26; refine (callsIn_wide.2 ca).mono ?_; rintro e W7 ⟨b12, u, rfl, hbx, hb12, hO7, hb7⟩)
    have hS7 := hO7.sees
    obtain ⟨ou2, cu2, rfl⟩ := T.own_slice hO7
    have hpl : ∀ k, (∃ o, ou2 = some (⟨k, o, none⟩ : Addr)) → b10 < k ∧ k < W7.heap.size := fun k ⟨o, e⟩ => by
      have h2 := hO7.lt k (by rw [e]; rfl)
      exact ⟨by have := h2.1; omega, h2.2⟩
    have k7 : Boxed W7 b10 43 (.slice (some ⟨b9, 0, none⟩) 0 es.length) := (hb7.block _ k10.lt).trans k10
    have b7 : Boxed W7 w.heap.size 27 (.pointer (some ⟨X, 0, none⟩)) := (hb7.block _ b6.lt).trans b6
    have kr7 := kr6.kept (row := none) (⟨hb7.os, hb7.tape, hb7.output, hb7.size, fun j hj _ => hb7.block j hj⟩ : W6.grownBy W7 none) (.inr (by simp [Value.ownBlock]))
    have hw7 := hw6.trans (hb7.mono hw6.size)
    have hs7 : b10 + 1 ≤ W7.heap.size := by have := hb7.size; omega
    have hw9 : w.heap.size < b9 := by omega
    have HCV := Lib.hid cv
    have hne := E.hnil #[.pointer (some ⟨b12, 0, none⟩)] W7
    have hbc := hbx.cell
    clear k10 kr6 b6 hw6 hb7 hO6 m11 ca hs6 cv hbx hs4
    refine wpIn_rangeFunc_ownG rfl (by omega) (gf := 49) (lb := #[.pointer (some ⟨b12, 0, none⟩)]) rfl trivial (enters_of Try.func49 (by kernel_rfl) rfl)
      (E.all2_stops _ (by omega) b12 es hfew ou2 cu2 W7 hbc hS7 (fun k => ∃ o, ou2 = some (⟨k, o, none⟩ : Addr)) (fun g o e => ⟨o, e⟩) (fun k hk => (hpl k hk).2)) (fun h k => E.Kept.trans h k) (fun W l o o' hl h1 h2 h3 => E.Kept.put (fun k hk => (hpl k hk).2) W l o o' hl h1 h2 h3) (Below.refl _ _) (fun _ => rfl)
      (fun pre W => (∃ v, Boxed W b10 43 v ∧ W.ownsRow b9 61 2 v pre.length (E.flat (shown st pre)) ∧ ∀ k, v.ownBlock = some k → ¬ ∃ o, ou2 = some (⟨k, o, none⟩ : Addr)) ∧ Boxed W w.heap.size 27 (.pointer (some ⟨X, 0, none⟩)) ∧ Below w.heap.size W7 W)
      (fun _ _ _ => False)
      (OwnFrom.and (Own.from (holdsRow_own b9 b10 43 61 2 (fun pre : List E.Ent => pre.length) (fun pre => E.flat (shown st pre)) (fun _ v => ∀ k, v.ownBlock = some k → ¬ ∃ o, ou2 = some (⟨k, o, none⟩ : Addr))) _) (OwnFrom.and (Own.from (boxed_own _ _ (fun _ => .pointer (some ⟨X, 0, none⟩))) _) (ownFrom_below (by omega) (by omega))))
      (fun c => ownFrom_pure _ _)
      ⟨⟨_, k7, kr7, fun k e hk => by have := (hpl k hk).1; simp [Value.ownBlock] at e; omega⟩, b7, Below.refl _ _⟩
      ?a1 ?assign ?body ?done ?stop
    case assign =>
      intro l x W K hK
      gi_wp2
      exact hK
    case stop =>
      rintro Dd c pre W hD' hSp hF hK
      exact hF.elim
    case body =>
      rintro l pre x W ⟨⟨v, hv, hr, hg⟩, hb3, hB⟩ hN
      clear k7 b7 kr7 hbc hS7 hne
      have hc8 := hv.cell
      have hf8 := hv.frozen
      have hc3 := hb3.cell
      have cv := HCV.out W.drew ((hw7.trans hB).trans ((Below.refl w.heap.size W).drew)) x.no
      have HY : Hid (over st.d x.no = over st.d x.no) := Lib.hid rfl
      have HX : Hid (E.flat (shown st (pre ++ [x])) = E.flat (shown st pre) ++ [.string ⟨x.name.toArray⟩, .int .i64 (over st.d x.no)]) := Lib.hid (by simp [shown, E.flat, E.enc])
      have HV := Lib.hid hv; have HR := Lib.hid hr; have HG := Lib.hid hg; have HB := Lib.hid hB; have H3 := Lib.hid hb3
      have hsz : b10 < W.heap.size := hv.lt
      have hpl' : pre.length ≤ 100000 := by omega
      generalize over st.d x.no = y at *
      clear hv hr hg hB hb3 hf8
      have fin : ∀ (w2 w3 : World) (v' : Value), Below W.heap.size W w2 → (w2.alloc (.cells #[.string ⟨x.name.toArray⟩, .int .i64 y] 61)).grownBy w3 v.ownBlock →
          (∀ k, v'.ownBlock = some k → v.ownBlock = some k ∨ (w2.alloc (.cells #[.string ⟨x.name.toArray⟩, .int .i64 y] 61)).heap.size ≤ k) → KeepsOthers w2 (w3.setCell ⟨b10, 0, none⟩ v') → Below b9 w2 (w3.setCell ⟨b10, 0, none⟩ v') →
          Boxed (w3.setCell ⟨b10, 0, none⟩ v') b10 43 v' → (w3.setCell ⟨b10, 0, none⟩ v').ownsRow b9 61 2 v' (pre.length + 1) (E.flat (shown st pre) ++ [.string ⟨x.name.toArray⟩, .int .i64 y]) →
          KeepsFrom W7.heap.size W (w3.setCell ⟨b10, 0, none⟩ v') ∧ E.Kept (fun k => ∃ o, ou2 = some (⟨k, o, none⟩ : Addr)) W (w3.setCell ⟨b10, 0, none⟩ v') ∧
          (∃ u, Boxed (w3.setCell ⟨b10, 0, none⟩ v') b10 43 u ∧ (w3.setCell ⟨b10, 0, none⟩ v').ownsRow b9 61 2 u (pre ++ [x]).length (E.flat (shown st (pre ++ [x]))) ∧ ∀ k, u.ownBlock = some k → ¬ ∃ o, ou2 = some (⟨k, o, none⟩ : Addr)) ∧
          Boxed (w3.setCell ⟨b10, 0, none⟩ v') w.heap.size 27 (.pointer (some ⟨X, 0, none⟩)) ∧ Below w.heap.size W7 (w3.setCell ⟨b10, 0, none⟩ v') := by
        intro w2 w3 v' hbW hgrow hfr hk2 hbb2 hv2 hr2
        have hkW : ∀ k, (∃ o, ou2 = some (⟨k, o, none⟩ : Addr)) → k < W.heap.size := fun k hk => Nat.lt_of_lt_of_le (hpl k hk).2 HB.out.size
        refine ⟨((keeps_below hbW).trans hk2).from _, ⟨Nat.le_trans hbW.size hk2.size, fun k hk => ?_⟩, ⟨v', hv2, by rw [HX.out, List.length_append]; exact hr2, fun k e hk => ?_⟩, ?_, ?_⟩
        · have h1 := hkW k hk
          have h2 := hbW.size
          rw [Below.heap_setCell _ _ _ _ (show k ≠ b10 from Nat.ne_of_gt (hpl k hk).1), hgrow.block k (by simp; omega) (fun e => HG.out k e.symm hk), Below.heap_alloc _ _ _ (by omega)]
          exact hbW.block k h1
        · rcases hfr k e with h | h
          · exact HG.out k h hk
          · have h1 := hkW k hk
            have h2 := hbW.size
            simp at h
            omega
        · exact ((hbb2.block _ hw9).trans (hbW.block _ (by omega))).trans H3.out
        · exact (HB.out.trans (hbW.mono (by omega))).trans (hbb2.mono (by omega))
      gi_upto_region 8 with fail
      refine wpIn_region_all (by kernel_rfl) (by kernel_rfl) ?_
      refine wpAny_take (i := 1) (v := (.string ⟨x.name.toArray⟩)) rfl (by kernel_rfl) (by kernel_rfl) (by kernel_rfl) (fun _ _ _ h => h) (Or.inl ⟨by rfl, fun w9 => ?_⟩) ?_
      · go_simp
      refine wpAny_take (i := 3) (v := (.int .i64 x.no)) rfl (by kernel_rfl) (by kernel_rfl) (by kernel_rfl) (fun _ _ _ h => h) (Or.inl ⟨by rfl, fun w9 => ?_⟩) ?_
      · go_simp
      refine wpAny_ready (rs := [0, 2]) (by kernel_rfl) (by simp) ?_
      refine AllReady.cons rfl (fun K hK => ?_) ?_
      · skip
        go_simp
        refine hK _ _ ?_
        clear hK K
        refine wpAny_ready (rs := [2]) (by kernel_rfl) (by simp) ?_
        refine AllReady.cons rfl (fun K hK => ?_) AllReady.nil
        go_simp
        refine hK _ _ ?_
        clear hK K
        refine wpAny_ready (rs := [4]) (by kernel_rfl) (by simp) ?_
        refine AllReady.cons rfl (fun K hK => ?_) AllReady.nil
        refine step_call2 rfl 27 Try.func27 (by kernel_rfl) rfl (.tmp 34) (.tmp 35) 27 3 rfl (.pointer (some ⟨X, 0, none⟩)) (.int .i64 x.no) (by first | rfl | simp [Act.eval, Act.put]) (by first | rfl | simp [Act.eval, Act.put]) cv ?_
        rintro e w2 ⟨rfl, hb2⟩
        refine ⟨_, rfl, ?_⟩
        have k8 : Boxed w2 b10 43 v := (hb2.block _ (show b10 < W.heap.size from HV.out.lt)).trans HV.out
        have hsz2 : b10 < w2.heap.size := Nat.lt_of_lt_of_le hsz hb2.size
        have kc8 := k8.cell
        have kf8 := k8.frozen
        have kr := HR.out.kept (row := none) (⟨hb2.os, hb2.tape, hb2.output, hb2.size, fun j hj _ => hb2.block j hj⟩ : W.grownBy w2 none) (by cases hv : v.ownBlock <;> simp)
        refine hK _ _ ?_
        clear hK K
        refine wpAny_take (i := 5) (v := (.agg #[.string ⟨x.name.toArray⟩, .int .i64 y])) rfl (by kernel_rfl) (by kernel_rfl) (by kernel_rfl) (fun _ _ _ h => h) (Or.inl ⟨by rfl, fun w9 => ?_⟩) ?_
        · go_simp
        refine wpAny_ready (rs := [6]) (by kernel_rfl) (by simp) ?_
        refine AllReady.cons rfl (fun K hK => ?_) AllReady.nil
        go_simp
        refine hK _ _ ?_
        clear hK K
        refine wpAny_ready (rs := [7]) (by kernel_rfl) (by simp) ?_
        refine AllReady.cons rfl (fun K hK => ?_) AllReady.nil
        refine G.step_append_fresh rfl (.tmp 32) (.tmp 38) 43 rfl b9 61 i0 (.agg #[.string ⟨#[]⟩, .int .i64 0]) 2 24 Try.underlying43 hi0 hz0 hz1 hz2 rfl (by decide) _ _ _ (by first | rfl | simp [Act.eval, Act.put]) (kr.alloc _) ⟨w2.heap.size, 0, none⟩ 1 1 [.string ⟨x.name.toArray⟩, .int .i64 y] (by first | rfl | simp [Act.eval, Act.put]) rfl (E.cell_two_new _ _ _ _) (E.enc_one ⟨x.name, y⟩) (by unfold maxLen; omega) (by omega) (by simp; omega) ?_
        intro v' w3 hown' hgrow hfr
        obtain ⟨g', cap', rfl⟩ := ownsRow_succ hown'
        obtain ⟨hv1, hv2, hr2, hk2, hbb2⟩ := k8.appended (by decide) kr (by omega) (by omega) hown' hgrow
        have kc81 := hv1.cell
        have kf81 := hv1.frozen
        refine hK _ _ ?_
        clear hK K
        refine wpAny_ready (rs := [8]) (by kernel_rfl) (by simp) ?_
        refine AllReady.cons rfl (fun K hK => ?_) AllReady.nil
        go_simp
        refine hK _ _ ?_
        clear hK K
        refine wpAny_done (by kernel_rfl) ?_ _
        exact fin _ _ _ (((Below.refl _ W).drew).trans hb2) hgrow hfr hk2 hbb2 hv2 hr2
      refine AllReady.cons rfl (fun K hK => ?_) AllReady.nil
      go_simp
      refine hK _ _ ?_
      clear hK K
      refine wpAny_ready (rs := [0, 4]) (by kernel_rfl) (by simp) ?_
      refine AllReady.cons rfl (fun K hK => ?_) ?_
      · skip
        go_simp
        refine hK _ _ ?_
        clear hK K
        refine wpAny_ready (rs := [4]) (by kernel_rfl) (by simp) ?_
        refine AllReady.cons rfl (fun K hK => ?_) AllReady.nil
        refine step_call2 rfl 27 Try.func27 (by kernel_rfl) rfl (.tmp 34) (.tmp 35) 27 3 rfl (.pointer (some ⟨X, 0, none⟩)) (.int .i64 x.no) (by first | rfl | simp [Act.eval, Act.put]) (by first | rfl | simp [Act.eval, Act.put]) cv ?_
        rintro e w2 ⟨rfl, hb2⟩
        refine ⟨_, rfl, ?_⟩
        have k8 : Boxed w2 b10 43 v := (hb2.block _ (show b10 < W.heap.size from HV.out.lt)).trans HV.out
        have hsz2 : b10 < w2.heap.size := Nat.lt_of_lt_of_le hsz hb2.size
        have kc8 := k8.cell
        have kf8 := k8.frozen
        have kr := HR.out.kept (row := none) (⟨hb2.os, hb2.tape, hb2.output, hb2.size, fun j hj _ => hb2.block j hj⟩ : W.grownBy w2 none) (by cases hv : v.ownBlock <;> simp)
        refine hK _ _ ?_
        clear hK K
        refine wpAny_take (i := 5) (v := (.agg #[.string ⟨x.name.toArray⟩, .int .i64 y])) rfl (by kernel_rfl) (by kernel_rfl) (by kernel_rfl) (fun _ _ _ h => h) (Or.inl ⟨by rfl, fun w9 => ?_⟩) ?_
        · go_simp
        refine wpAny_ready (rs := [6]) (by kernel_rfl) (by simp) ?_
        refine AllReady.cons rfl (fun K hK => ?_) AllReady.nil
        go_simp
        refine hK _ _ ?_
        clear hK K
        refine wpAny_ready (rs := [7]) (by kernel_rfl) (by simp) ?_
        refine AllReady.cons rfl (fun K hK => ?_) AllReady.nil
        refine G.step_append_fresh rfl (.tmp 32) (.tmp 38) 43 rfl b9 61 i0 (.agg #[.string ⟨#[]⟩, .int .i64 0]) 2 24 Try.underlying43 hi0 hz0 hz1 hz2 rfl (by decide) _ _ _ (by first | rfl | simp [Act.eval, Act.put]) (kr.alloc _) ⟨w2.heap.size, 0, none⟩ 1 1 [.string ⟨x.name.toArray⟩, .int .i64 y] (by first | rfl | simp [Act.eval, Act.put]) rfl (E.cell_two_new _ _ _ _) (E.enc_one ⟨x.name, y⟩) (by unfold maxLen; omega) (by omega) (by simp; omega) ?_
        intro v' w3 hown' hgrow hfr
        obtain ⟨g', cap', rfl⟩ := ownsRow_succ hown'
        obtain ⟨hv1, hv2, hr2, hk2, hbb2⟩ := k8.appended (by decide) kr (by omega) (by omega) hown' hgrow
        have kc81 := hv1.cell
        have kf81 := hv1.frozen
        refine hK _ _ ?_
        clear hK K
        refine wpAny_ready (rs := [8]) (by kernel_rfl) (by simp) ?_
        refine AllReady.cons rfl (fun K hK => ?_) AllReady.nil
        go_simp
        refine hK _ _ ?_
        clear hK K
        refine wpAny_done (by kernel_rfl) ?_ _
        exact fin _ _ _ (((Below.refl _ W).drew).trans hb2) hgrow hfr hk2 hbb2 hv2 hr2
      refine AllReady.cons rfl (fun K hK => ?_) AllReady.nil
      refine step_call2 rfl 27 Try.func27 (by kernel_rfl) rfl (.tmp 34) (.tmp 35) 27 3 rfl (.pointer (some ⟨X, 0, none⟩)) (.int .i64 x.no) (by first | rfl | simp [Act.eval, Act.put]) (by first | rfl | simp [Act.eval, Act.put]) cv ?_
      rintro e w2 ⟨rfl, hb2⟩
      refine ⟨_, rfl, ?_⟩
      have k8 : Boxed w2 b10 43 v := (hb2.block _ (show b10 < W.heap.size from HV.out.lt)).trans HV.out
      have hsz2 : b10 < w2.heap.size := Nat.lt_of_lt_of_le hsz hb2.size
      have kc8 := k8.cell
      have kf8 := k8.frozen
      have kr := HR.out.kept (row := none) (⟨hb2.os, hb2.tape, hb2.output, hb2.size, fun j hj _ => hb2.block j hj⟩ : W.grownBy w2 none) (by cases hv : v.ownBlock <;> simp)
      refine hK _ _ ?_
      clear hK K
      refine wpAny_take (i := 5) (v := (.agg #[.string ⟨x.name.toArray⟩, .int .i64 y])) rfl (by kernel_rfl) (by kernel_rfl) (by kernel_rfl) (fun _ _ _ h => h) (Or.inl ⟨by rfl, fun w9 => ?_⟩) ?_
      · go_simp
      refine wpAny_ready (rs := [0, 6]) (by kernel_rfl) (by simp) ?_
      refine AllReady.cons rfl (fun K hK => ?_) ?_
      · skip
        go_simp
        refine hK _ _ ?_
        clear hK K
        refine wpAny_ready (rs := [6]) (by kernel_rfl) (by simp) ?_
        refine AllReady.cons rfl (fun K hK => ?_) AllReady.nil
        go_simp
        refine hK _ _ ?_
        clear hK K
        refine wpAny_ready (rs := [7]) (by kernel_rfl) (by simp) ?_
        refine AllReady.cons rfl (fun K hK => ?_) AllReady.nil
        refine G.step_append_fresh rfl (.tmp 32) (.tmp 38) 43 rfl b9 61 i0 (.agg #[.string ⟨#[]⟩, .int .i64 0]) 2 24 Try.underlying43 hi0 hz0 hz1 hz2 rfl (by decide) _ _ _ (by first | rfl | simp [Act.eval, Act.put]) (kr.alloc _) ⟨w2.heap.size, 0, none⟩ 1 1 [.string ⟨x.name.toArray⟩, .int .i64 y] (by first | rfl | simp [Act.eval, Act.put]) rfl (E.cell_two_new _ _ _ _) (E.enc_one ⟨x.name, y⟩) (by unfold maxLen; omega) (by omega) (by simp; omega) ?_
        intro v' w3 hown' hgrow hfr
        obtain ⟨g', cap', rfl⟩ := ownsRow_succ hown'
        obtain ⟨hv1, hv2, hr2, hk2, hbb2⟩ := k8.appended (by decide) kr (by omega) (by omega) hown' hgrow
        have kc81 := hv1.cell
        have kf81 := hv1.frozen
        refine hK _ _ ?_
        clear hK K
        refine wpAny_ready (rs := [8]) (by kernel_rfl) (by simp) ?_
        refine AllReady.cons rfl (fun K hK => ?_) AllReady.nil
        go_simp
        refine hK _ _ ?_
        clear hK K
        refine wpAny_done (by kernel_rfl) ?_ _
        exact fin _ _ _ (((Below.refl _ W).drew).trans hb2) hgrow hfr hk2 hbb2 hv2 hr2
      refine AllReady.cons rfl (fun K hK => ?_) AllReady.nil
      go_simp
      refine hK _ _ ?_
      clear hK K
      refine wpAny_ready (rs := [0]) (by kernel_rfl) (by simp) ?_
      refine AllReady.cons rfl (fun K hK => ?_) AllReady.nil
      go_simp
      refine hK _ _ ?_
      clear hK K
      refine wpAny_ready (rs := [7]) (by kernel_rfl) (by simp) ?_
      refine AllReady.cons rfl (fun K hK => ?_) AllReady.nil
      refine G.step_append_fresh rfl (.tmp 32) (.tmp 38) 43 rfl b9 61 i0 (.agg #[.string ⟨#[]⟩, .int .i64 0]) 2 24 Try.underlying43 hi0 hz0 hz1 hz2 rfl (by decide) _ _ _ (by first | rfl | simp [Act.eval, Act.put]) (kr.alloc _) ⟨w2.heap.size, 0, none⟩ 1 1 [.string ⟨x.name.toArray⟩, .int .i64 y] (by first | rfl | simp [Act.eval, Act.put]) rfl (E.cell_two_new _ _ _ _) (E.enc_one ⟨x.name, y⟩) (by unfold maxLen; omega) (by omega) (by simp; omega) ?_
      intro v' w3 hown' hgrow hfr
      obtain ⟨g', cap', rfl⟩ := ownsRow_succ hown'
      obtain ⟨hv1, hv2, hr2, hk2, hbb2⟩ := k8.appended (by decide) kr (by omega) (by omega) hown' hgrow
      have kc81 := hv1.cell
      have kf81 := hv1.frozen
      refine hK _ _ ?_
      clear hK K
      refine wpAny_ready (rs := [8]) (by kernel_rfl) (by simp) ?_
      refine AllReady.cons rfl (fun K hK => ?_) AllReady.nil
      go_simp
      refine hK _ _ ?_
      clear hK K
      refine wpAny_done (by kernel_rfl) ?_ _
      exact fin _ _ _ (((Below.refl _ W).drew).trans hb2) hgrow hfr hk2 hbb2 hv2 hr2
    case done =>
      rintro Dd ys W hD' hys ⟨⟨v, hv, hr, hg⟩, hb3, hB⟩ hK
      subst hys
      have hc := hv.cell
      have hw := hw7.trans hB
      have hlt10 := hv.lt
      have HR := Lib.hid hr
      clear k7 b7 kr7 hbc hS7 hne hb3 hB hg hr
      gi_wp2
      refine ⟨by simp, .inl ⟨_, _, rfl, run_takeDeferred hK, ?_⟩⟩
      refine ⟨_, by simp [results, Try.results10, go_sem]; rfl, _, rfl, ?_, ?_⟩
      · have h1 := HR.out.kept (grownBy_putObj' W Dd (.deferred none)) (by
          rcases HR.out.2 with ⟨rfl, _⟩ | ⟨g, cap, cur, rfl, _, hgb, _⟩
          · exact .inl rfl
          · refine .inr fun e => ?_
            simp [Value.ownBlock] at e
            subst e
            rw [hK] at hgb
            cases hgb)
        rw [← shown_len st ys] at h1
        exact E.Own.mono (B := b9) h1 (by omega)
      · exact hw.trans (belowK_b (n₀ := w.heap.size) (w := w) (Nat.le_refl _) W Dd _ _ (by omega) hK rfl rfl)
  · have h1 : (de == 0) = false := by simpa using h0
    have e := HE.out h0
    cases e
    clear HE
    gi_wp2
    refine ⟨_, by simp [results, Try.results10, go_sem], _, rfl, E.Own.nil _ _, hb4⟩
end
end Go.Proofs.Ytjkopgdbkmbnmaa.P
