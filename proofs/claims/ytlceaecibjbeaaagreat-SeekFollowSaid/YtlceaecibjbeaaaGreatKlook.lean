/-
  The reference's Open and Look, at a directory that anybody may search: who is root.
-/
import Derived.Test.YtlceaecibjbeaaaGreatRpath2
namespace Go.Proofs.YtlceaecibjbeaaaGreat.K
open Go.RowKit Go.Shelf G
attribute [local go_sem] Oper.semAt_some

section
variable {BB F : Nat} {nv dv : Value} {st : St} {w : World}
set_option maxRecDepth 100000 in
set_option maxHeartbeats 16000000 in
theorem open_dir (hI : Inv st) (hF : Fs BB F nv dv st w) (hl : st.n.length ≤ 1000000) (k : Int) (hk : kind st k = 1) :
    Calls Tryz.prog 45 #[.pointer (some ⟨F, 0, none⟩), .agg #[.int .i64 0, .int .i64 0], .int .i64 k, .int .i64 1, .int .i64 1] w fun e w' =>
      ∃ u, e = .returned (.tuple #[(gets st.n k).v u, .int .i64 0]) ∧ E.Own BB u (gets st.n k).es w' ∧ Below w.heap.size w w' := by
  obtain ⟨nd, hnd⟩ : ∃ nd, gets st.n k = nd := ⟨_, rfl⟩
  have hkd : nd.kind = 1 := by rw [← hnd]; exact hk
  have hno : nd.no ≠ 0 := by
    cases e : get st.n k with
    | none => rw [gets_none e] at hnd; subst hnd; cases hkd
    | some x =>
      rw [gets_some e] at hnd
      subst hnd
      have := (hI.given x (get_some e).1).1
      omega
  have hb1 : ∀ o o' : Obj, Below w.heap.size w ((w.alloc o).alloc o') := fun o o' => ((Below.refl _ _).alloc (Nat.le_refl _) _).alloc (by simp) _
  have cG := fun W (hb : Below w.heap.size w W) => refGet_any (hF.below hb) k hl
  rw [hnd] at cG ⊢
  clear hnd hk
  obtain ⟨no, dev, kd, mode, uid, gid, mtm, ctm, links, up, data, es⟩ := nd
  dsimp only at hkd hno
  subst hkd
  have hno' : (no == 0) = false := by simpa using hno
  dsimp only [T.Nd.v] at cG ⊢
  have hC : CrBox w.heap.size 0 0 (w.alloc (.cells #[.int .i64 0, .int .i64 0] 24)) := heap_alloc_new w _
  have B1 := T.BoxN.new T.Nd.zero (.slice none 0 0) (w.alloc (.cells #[.int .i64 0, .int .i64 0] 24))
  have hC1 : CrBox w.heap.size 0 0 ((w.alloc (.cells #[.int .i64 0, .int .i64 0] 24)).alloc (.cells #[.int .i64 0, .int .i64 0, .int .i64 0, .int .i64 0, .int .i64 0, .int .i64 0, .int .i64 0, .int .i64 0, .int .i64 0, .int .i64 0, .string ⟨#[]⟩, .slice none 0 0] 51)) := (((Below.refl _ _).alloc (Nat.le_refl _) _).block _ hC.lt).trans hC
  dsimp only [T.Nd.zero] at B1
  rw [World.size_alloc] at B1
  have hbw := hb1 (.cells #[.int .i64 0, .int .i64 0] 24) (.cells #[.int .i64 0, .int .i64 0, .int .i64 0, .int .i64 0, .int .i64 0, .int .i64 0, .int .i64 0, .int .i64 0, .int .i64 0, .int .i64 0, .string ⟨#[]⟩, .slice none 0 0] 51)
  clear hF hno hb1 hC
  go_enter Tryz.func45, Tryz.ntmps45
  go_upto_region 1 with fail
  generalize (w.alloc (.cells #[.int .i64 0, .int .i64 0] 24)).alloc (.cells #[.int .i64 0, .int .i64 0, .int .i64 0, .int .i64 0, .int .i64 0, .int .i64 0, .int .i64 0, .int .i64 0, .int .i64 0, .int .i64 0, .string ⟨#[]⟩, .slice none 0 0] 51) = W1 at *
  obtain ⟨b0, hb0⟩ : ∃ b, w.heap.size = b := ⟨_, rfl⟩
  rw [hb0] at B1 hC1 hbw cG ⊢
  have HB := Lib.hid hb0
  clear hb0
  have cG1 := cG W1 hbw
  clear cG
  go_upto_region 2 with (go_at_call 32; refine cG1.mono ?_; rintro e W2 ⟨u, rfl, hO2, hb2⟩; obtain ⟨ou, cu, rfl⟩ := T.own_slice hO2; have N2 := T.BoxN.new ⟨no, dev, 1, mode, uid, gid, mtm, ctm, links, up, data, es⟩ (.slice ou es.length cu) W2)
  have hal : Below W2.heap.size W2 (W2.alloc (.cells #[.int .i64 no, .int .i64 dev, .int .i64 1, .int .i64 mode, .int .i64 uid, .int .i64 gid, .int .i64 mtm, .int .i64 ctm, .int .i64 links, .int .i64 up, .string data, .slice ou es.length cu] 51)) := (Below.refl _ _).alloc (Nat.le_refl _) _
  have hO3 := T.own_kept hO2 (T.EntKept.below hal)
  have B3 := (B1.below hb2).below hal
  have hC3 : CrBox b0 0 0 (W2.alloc (.cells #[.int .i64 no, .int .i64 dev, .int .i64 1, .int .i64 mode, .int .i64 uid, .int .i64 gid, .int .i64 mtm, .int .i64 ctm, .int .i64 links, .int .i64 up, .string data, .slice ou es.length cu] 51)) := (hal.block _ (Nat.lt_of_lt_of_le hC1.lt hb2.size)).trans ((hb2.block _ hC1.lt).trans hC1)
  have hbw3 : Below b0 w (W2.alloc (.cells #[.int .i64 no, .int .i64 dev, .int .i64 1, .int .i64 mode, .int .i64 uid, .int .i64 gid, .int .i64 mtm, .int .i64 ctm, .int .i64 links, .int .i64 up, .string data, .slice ou es.length cu] 51)) := (hbw.trans (hb2.mono (Nat.le_of_lt hC1.lt))).trans (hal.mono (Nat.le_trans (Nat.le_of_lt hC1.lt) hb2.size))
  generalize W2.alloc (.cells #[.int .i64 no, .int .i64 dev, .int .i64 1, .int .i64 mode, .int .i64 uid, .int .i64 gid, .int .i64 mtm, .int .i64 ctm, .int .i64 links, .int .i64 up, .string data, .slice ou es.length cu] 51) = W3 at *
  generalize W2.heap.size = b2 at *
  clear hal B1 hC1 hbw hO2 hb2 cG1
  obtain ⟨m0, m1, m2, m3, m4, m5, m6, m7, m8, m9, m10, m11⟩ := N2.facts
  dsimp only at m0 m1 m2 m3 m4 m5 m6 m7 m8 m9 m10 m11
  obtain ⟨k0, k1⟩ := hC3.facts
  have cn := PM.refNode_any 0 0 ⟨no, dev, 1, mode, uid, gid, mtm, ctm, links, up, data, ou, es.length, cu⟩ 1 W3
  have hmy : PM.may 0 0 uid gid mode 1 = true := by unfold PM.may; simp
  dsimp only [PM.Nd.v, PM.cred] at cn
  rw [hmy] at cn
  clear hmy
  go_upto_region 12 with (go_at_call 33; refine cn.mono ?_; rintro e W4 ⟨rfl, hb4⟩; have N4 := N2.below hb4; have B4 := B3.below hb4)
  have hO4 := T.own_kept hO3 (T.EntKept.below hb4)
  have hbw4 := hbw3.trans (hb4.mono (Nat.le_of_lt hC3.lt))
  clear m0 m1 m2 m3 m4 m5 m6 m7 m8 m9 m10 m11 k0 k1 cn N2 B3 hO3 hbw3
  obtain ⟨m0, m1, m2, m3, m4, m5, m6, m7, m8, m9, m10, m11⟩ := N4.facts
  dsimp only at m0 m1 m2 m3 m4 m5 m6 m7 m8 m9 m10 m11
  obtain ⟨a0, a1, a2, a3, a4, a5, a6, a7, a8, a9, a10, a11⟩ := B4.facts
  obtain ⟨f0, f1, f2, f3, f4, f5, f6, f7, f8, f9, f10, f11⟩ := B4.open
  go_wp
  have D5 := B4.fill ⟨no, dev, 1, mode, uid, gid, mtm, ctm, links, up, data, es⟩ (.slice ou es.length cu)
  have hb5 := hbw4.trans (T.below_fill (show b0 ≤ b0 + 1 by omega) W4 ⟨no, dev, 1, mode, uid, gid, mtm, ctm, links, up, data, es⟩ (.slice ou es.length cu))
  have hO5 := T.own_kept hO4 (T.EntKept.fill B4 ⟨no, dev, 1, mode, uid, gid, mtm, ctm, links, up, data, es⟩ (.slice ou es.length cu))
  unfold T.fill at D5 hb5 hO5
  dsimp only at D5 hb5 hO5
  generalize World.setCell _ _ _ = W5 at D5 hb5 hO5 ⊢
  obtain ⟨g0, g1, g2, g3, g4, g5, g6, g7, g8, g9, g10, g11⟩ := D5.facts
  dsimp only at g0 g1 g2 g3 g4 g5 g6 g7 g8 g9 g10 g11
  refine bodyPost_ret (by simp [results, Tryz.results45, go_sem, g0, g1, g2, g3, g4, g5, g6, g7, g8, g9, g10, g11]; rfl) rfl ?_
  exact ⟨_, rfl, hO5, by rw [HB.out]; exact hb5⟩
set_option maxRecDepth 100000 in
set_option maxHeartbeats 16000000 in
theorem look_any (hI : Inv st) (hF : Fs BB F nv dv st w) (hl : st.n.length ≤ 1000000) (hdl : st.d.length ≤ 1000000) (k : Int) (hk : kind st k = 1) (p : List UInt8) :
    Calls Tryz.prog 15 #[.pointer (some ⟨F, 0, none⟩), .agg #[.int .i64 0, .int .i64 0], .int .i64 k, .string ⟨p.toArray⟩] w fun e w' =>
      ∃ z, e = .returned (.tuple #[.int .i64 (hit st k p), .int .i64 z]) ∧ Below w.heap.size w w' := by
  have hb1 : Below w.heap.size w (w.alloc (.cells #[.int .i64 0, .int .i64 0] 24)) := (Below.refl _ _).alloc (Nat.le_refl _) _
  have hC : CrBox w.heap.size 0 0 (w.alloc (.cells #[.int .i64 0, .int .i64 0] 24)) := heap_alloc_new w _
  have co := fun W (hb : Below w.heap.size w W) => open_dir hI (hF.below hb) hl k hk
  have cv := fun W (hb : Below w.heap.size w W) => refOver_any (hF.below hb) (E.numOf (gets st.n k).es p) hdl
  rw [← hI.over_ref] at cv
  have hhit : over st.d (E.numOf (gets st.n k).es p) = hit st k p := rfl
  rw [hhit] at cv
  have hz : E.numOf (gets st.n k).es p = 0 → hit st k p = 0 := fun e => by unfold hit; rw [e]; exact over_zero hI
  have hfew := gets_few hI k
  generalize hit st k p = h at *
  generalize gets st.n k = nd at *
  obtain ⟨no, dev, kd, mode, uid, gid, mtm, ctm, links, up, data, es⟩ := nd
  dsimp only at co cv hz hfew
  dsimp only [T.Nd.v] at co
  have HZ := Lib.hid hz
  clear hz hhit hF hk
  go_enter Tryz.func15, Tryz.ntmps15
  go_upto_region 1 with fail
  generalize w.alloc (.cells #[.int .i64 0, .int .i64 0] 24) = W1 at *
  obtain ⟨k0, k1⟩ := hC.facts
  have co1 := co W1 hb1
  clear co hC
  go_upto_region 2 with (go_at_call 45; refine co1.mono ?_; rintro e W2 ⟨u, rfl, hO2, hb2⟩; obtain ⟨ou, cu, rfl⟩ := T.own_slice hO2; have N2 := T.BoxN.new ⟨no, dev, kd, mode, uid, gid, mtm, ctm, links, up, data, es⟩ (.slice ou es.length cu) W2)
  have hal : Below W2.heap.size W2 (W2.alloc (.cells #[.int .i64 no, .int .i64 dev, .int .i64 kd, .int .i64 mode, .int .i64 uid, .int .i64 gid, .int .i64 mtm, .int .i64 ctm, .int .i64 links, .int .i64 up, .string data, .slice ou es.length cu] 51)) := (Below.refl _ _).alloc (Nat.le_refl _) _
  have hO3 := T.own_kept hO2 (T.EntKept.below hal)
  have hb3 := below_two (below_two hb1 hb2) hal
  generalize W2.alloc (.cells #[.int .i64 no, .int .i64 dev, .int .i64 kd, .int .i64 mode, .int .i64 uid, .int .i64 gid, .int .i64 mtm, .int .i64 ctm, .int .i64 links, .int .i64 up, .string data, .slice ou es.length cu] 51) = W3 at *
  generalize W2.heap.size = b2 at *
  clear hal hb1 hb2 hO2 k0 k1 co1
  have m11 := N2.facts.2.2.2.2.2.2.2.2.2.2.2
  try dsimp only at m11
  have cf := E.refFind_any (w := W3) (E.Own.sees hO3) p hfew
  have cv3 := cv W3 hb3
  clear cv
  by_cases h0 : E.numOf es p = 0
  · obtain rfl := HZ.out h0
    rw [h0] at cf
    clear cv3 h0
    go_wp2_with (go_at_call 36; refine cf.mono ?_; rintro e W4 ⟨rfl, rfl⟩)
    go_ret2
    exact ⟨_, rfl, hb3⟩
  · have h0' : (E.numOf es p == 0) = false := by simpa using h0
    generalize E.numOf es p = z at *
    go_wp2_with (first
      | (go_at_call 36; refine cf.mono ?_; rintro e W4 ⟨rfl, rfl⟩)
      | (go_at_call 35; refine cv3.mono ?_; rintro e W5 ⟨rfl, rfl⟩))
    go_ret2
    exact ⟨_, rfl, hb3⟩
end
end Go.Proofs.YtlceaecibjbeaaaGreat.K
