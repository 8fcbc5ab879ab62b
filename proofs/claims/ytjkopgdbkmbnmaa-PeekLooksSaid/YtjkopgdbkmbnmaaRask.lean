/-
  The reference's Stat, Read, Target, Look.
-/
import Derived.Test.YtjkopgdbkmbnmaaRopen
namespace Go.Proofs.Ytjkopgdbkmbnmaa.P
open Go.RowKit Go.Shelf G
attribute [local go_sem] Oper.semAt_some

section
variable {BB F : Nat} {nv dv : Value} {st : St} {w : World}
set_option maxRecDepth 100000 in
set_option maxHeartbeats 16000000 in
theorem refStat_any (hI : Inv st) (hF : Fs BB F nv dv st w) (hl : st.n.length ≤ 1000000) (k : Int) :
    Calls Try.prog 9 #[.pointer (some ⟨F, 0, none⟩), .int .i64 k] w fun e w' =>
      e = .returned (.tuple #[(told (gets st.n k)).v, .int .i64 (noneE st k)]) ∧ Below w.heap.size w w' := by
  have hb1 : Below w.heap.size w (w.alloc (.cells #[.int .i64 0, .int .i64 0, .int .i64 0, .int .i64 0, .int .i64 0, .int .i64 0, .int .i64 0, .int .i64 0, .int .i64 0, .int .i64 0] 37)) := (Below.refl _ _).alloc (Nat.le_refl _) _
  have B1 := SBox.new Sd.zero w
  dsimp only [Sd.zero] at B1
  have hs1 : (w.alloc (.cells #[.int .i64 0, .int .i64 0, .int .i64 0, .int .i64 0, .int .i64 0, .int .i64 0, .int .i64 0, .int .i64 0, .int .i64 0, .int .i64 0] 37)).heap.size = w.heap.size + 1 := by simp
  have cc := fun W (hb : Below w.heap.size w W) => refGet_any (hF.below hb) k hl
  have hz := gets_zero (st := st) (k := k)
  have hno := gets_no hI (k := k)
  unfold noneE
  clear hF
  generalize gets st.n k = nd at *
  generalize (get st.n k).isSome = bb at *
  go_enter Try.func9, Try.ntmps9
  go_upto_region 1 with fail
  generalize w.alloc (.cells #[.int .i64 0, .int .i64 0, .int .i64 0, .int .i64 0, .int .i64 0, .int .i64 0, .int .i64 0, .int .i64 0, .int .i64 0, .int .i64 0] 37) = W1 at B1 hb1 hs1 ⊢
  have c1 := cc W1 hb1
  obtain ⟨b0, hbd⟩ : ∃ b, w.heap.size = b := ⟨_, rfl⟩
  rw [hbd] at B1 hb1 hs1 ⊢
  have HB := Lib.hid hbd
  clear hbd cc
  obtain ⟨no, dev, kind, mode, uid, gid, mt, ct, links, up, data, es⟩ := nd
  have HZ := Lib.hid hz
  have HN := Lib.hid hno
  clear hz hno
  dsimp only [T.Nd.v] at c1
  go_upto_region 2 with (go_at_call 24; refine c1.mono ?_; rintro e w3 ⟨u, rfl, hO, hb3⟩; obtain ⟨ou, cu, rfl⟩ := T.own_slice hO; have B3 := T.BoxN.new ⟨no, dev, kind, mode, uid, gid, mt, ct, links, up, data, es⟩ (.slice ou es.length cu) w3)
  have hal : Below w3.heap.size w3 (w3.alloc (.cells #[.int .i64 no, .int .i64 dev, .int .i64 kind, .int .i64 mode, .int .i64 uid, .int .i64 gid, .int .i64 mt, .int .i64 ct, .int .i64 links, .int .i64 up, .string data, .slice ou es.length cu] 70)) := (Below.refl _ _).alloc (Nat.le_refl _) _
  have D2 := (B1.below hb3).below hal
  have hb4 : Below b0 w (w3.alloc (.cells #[.int .i64 no, .int .i64 dev, .int .i64 kind, .int .i64 mode, .int .i64 uid, .int .i64 gid, .int .i64 mt, .int .i64 ct, .int .i64 links, .int .i64 up, .string data, .slice ou es.length cu] 70)) := (hb1.trans (hb3.mono (by omega))).trans (hal.mono (by have := hb3.size; omega))
  generalize w3.heap.size = b3 at *
  generalize w3.alloc (.cells #[.int .i64 no, .int .i64 dev, .int .i64 kind, .int .i64 mode, .int .i64 uid, .int .i64 gid, .int .i64 mt, .int .i64 ct, .int .i64 links, .int .i64 up, .string data, .slice ou es.length cu] 70) = W4 at B3 D2 hb4 ⊢
  clear B1 hb3 hO c1 hal
  obtain ⟨a0, a1, a2, a3, a4, a5, a6, a7, a8, a9⟩ := D2.facts
  obtain ⟨f0, f1, f2, f3, f4, f5, f6, f7, f8, f9⟩ := D2.open
  obtain ⟨g0, g1, g2, g3, g4, g5, g6, g7, g8, g9, g10, g11⟩ := B3.facts
  dsimp only at a0 a1 a2 a3 a4 a5 a6 a7 a8 a9 g0 g1 g2 g3 g4 g5 g6 g7 g8 g9 g10 g11
  cases bb with
  | false =>
    have e := HZ.out rfl
    cases e
    go_upto_region 3 with fail
    go_wp
    have D3 := D2.fill Sd.zero
    have hb5 := hb4.trans (below_fillS (Nat.le_refl b0) W4 Sd.zero)
    unfold fillS Sd.zero at D3 hb5
    dsimp only at D3 hb5
    generalize World.setCell _ _ _ = W5 at D3 hb5 ⊢
    obtain ⟨q0, q1, q2, q3, q4, q5, q6, q7, q8, q9⟩ := D3.facts
    dsimp only at q0 q1 q2 q3 q4 q5 q6 q7 q8 q9
    refine bodyPost_ret (by simp [results, Try.results9, go_sem, q0, q1, q2, q3, q4, q5, q6, q7, q8, q9]; rfl) rfl ?_
    exact ⟨rfl, HB.out ▸ hb5⟩
  | true =>
    have hno' : (no == 0) = false := by have h1 : no = k := (HN.out rfl).1; have h2 := (HN.out rfl).2; rw [beq_eq_false_iff_ne]; omega
    go_upto_region 4 with fail
    go_wp
    have D3 := D2.fill (told ⟨no, dev, kind, mode, uid, gid, mt, ct, links, up, data, es⟩)
    have hb5 := hb4.trans (below_fillS (Nat.le_refl b0) W4 (told ⟨no, dev, kind, mode, uid, gid, mt, ct, links, up, data, es⟩))
    unfold fillS told at D3 hb5
    dsimp only at D3 hb5
    generalize World.setCell _ _ _ = W5 at D3 hb5 ⊢
    obtain ⟨q0, q1, q2, q3, q4, q5, q6, q7, q8, q9⟩ := D3.facts
    dsimp only at q0 q1 q2 q3 q4 q5 q6 q7 q8 q9
    refine bodyPost_ret (by simp [results, Try.results9, go_sem, q0, q1, q2, q3, q4, q5, q6, q7, q8, q9]; rfl) rfl ?_
    exact ⟨rfl, HB.out ▸ hb5⟩
set_option maxRecDepth 100000 in
set_option maxHeartbeats 16000000 in
theorem refTarget_any (hI : Inv st) (hS : Sorts st) (hF : Fs BB F nv dv st w) (hl : st.n.length ≤ 1000000) (k : Int) :
    Calls Try.prog 16 #[.pointer (some ⟨F, 0, none⟩), .int .i64 k] w fun e w' =>
      e = .returned (.tuple #[.string (onlyIf (filE st k 2) (gets st.n k)).data, .int .i64 (filE st k 2)]) ∧ Below w.heap.size w w' := by
  have cc := refOpen_any hI hF hl 0 0 k 3 0
  rw [open_link hS] at cc
  generalize onlyIf (filE st k 2) (gets st.n k) = nd at *
  generalize filE st k 2 = de at *
  obtain ⟨no, dev, kind, mode, uid, gid, mt, ct, links, up, data, es⟩ := nd
  dsimp only [T.Nd.v] at cc ⊢
  clear hF
  go_enter Try.func16, Try.ntmps16
  go_upto_region 2 with (go_at_call 28; refine cc.mono ?_; rintro e w3 ⟨u, rfl, hO, hb3⟩; obtain ⟨ou, cu, rfl⟩ := T.own_slice hO; have B3 := T.BoxN.new ⟨no, dev, kind, mode, uid, gid, mt, ct, links, up, data, es⟩ (.slice ou es.length cu) w3)
  have hb4 : Below w.heap.size w (w3.alloc (.cells #[.int .i64 no, .int .i64 dev, .int .i64 kind, .int .i64 mode, .int .i64 uid, .int .i64 gid, .int .i64 mt, .int .i64 ct, .int .i64 links, .int .i64 up, .string data, .slice ou es.length cu] 70)) := below_two hb3 ((Below.refl _ _).alloc (Nat.le_refl _) _)
  generalize w3.heap.size = b3 at *
  generalize w3.alloc (.cells #[.int .i64 no, .int .i64 dev, .int .i64 kind, .int .i64 mode, .int .i64 uid, .int .i64 gid, .int .i64 mt, .int .i64 ct, .int .i64 links, .int .i64 up, .string data, .slice ou es.length cu] 70) = W4 at B3 hb4 ⊢
  clear hO hb3 cc
  obtain ⟨g0, g1, g2, g3, g4, g5, g6, g7, g8, g9, g10, g11⟩ := B3.facts
  dsimp only at g0 g1 g2 g3 g4 g5 g6 g7 g8 g9 g10 g11
  go_wp2
  go_ret2
  exact ⟨rfl, hb4⟩
set_option maxRecDepth 100000 in
set_option maxHeartbeats 16000000 in
theorem refRead_any (hI : Inv st) (hS : Sorts st) (hF : Fs BB F nv dv st w) (hl : st.n.length ≤ 1000000) (cu cg k : Int) :
    Calls Try.prog 13 #[.pointer (some ⟨F, 0, none⟩), .agg #[.int .i64 cu, .int .i64 cg], .int .i64 k] w fun e w' =>
      e = .returned (.tuple #[.string (onlyIf (readE st cu cg k) (gets st.n k)).data, .int .i64 (readE st cu cg k)]) ∧ Below w.heap.size w w' := by
  have hb1 : Below w.heap.size w (w.alloc (.cells #[.int .i64 cu, .int .i64 cg] 24)) := (Below.refl _ _).alloc (Nat.le_refl _) _
  have C1 := CrBox.new cu cg w
  have cc := refOpen_any hI (hF.below hb1) hl cu cg k 2 4
  rw [open_file hS] at cc
  generalize onlyIf (readE st cu cg k) (gets st.n k) = nd at *
  generalize readE st cu cg k = de at *
  obtain ⟨no, dev, kind, mode, uid, gid, mt, ct, links, up, data, es⟩ := nd
  dsimp only [T.Nd.v] at cc ⊢
  clear hF
  go_enter Try.func13, Try.ntmps13
  go_upto_region 1 with fail
  generalize w.alloc (.cells #[.int .i64 cu, .int .i64 cg] 24) = W1 at *
  obtain ⟨k0, k1⟩ := C1.facts
  go_upto_region 2 with (go_at_call 28; refine cc.mono ?_; rintro e w3 ⟨u, rfl, hO, hb3⟩; obtain ⟨ou, cu', rfl⟩ := T.own_slice hO; have B3 := T.BoxN.new ⟨no, dev, kind, mode, uid, gid, mt, ct, links, up, data, es⟩ (.slice ou es.length cu') w3)
  have hb4 := below_two (below_two hb1 hb3) ((Below.refl w3.heap.size w3).alloc (Nat.le_refl _) (.cells #[.int .i64 no, .int .i64 dev, .int .i64 kind, .int .i64 mode, .int .i64 uid, .int .i64 gid, .int .i64 mt, .int .i64 ct, .int .i64 links, .int .i64 up, .string data, .slice ou es.length cu'] 70))
  generalize w3.heap.size = b3 at *
  generalize w3.alloc (.cells #[.int .i64 no, .int .i64 dev, .int .i64 kind, .int .i64 mode, .int .i64 uid, .int .i64 gid, .int .i64 mt, .int .i64 ct, .int .i64 links, .int .i64 up, .string data, .slice ou es.length cu'] 70) = W4 at B3 hb4 ⊢
  clear hO hb3 cc k0 k1
  obtain ⟨g0, g1, g2, g3, g4, g5, g6, g7, g8, g9, g10, g11⟩ := B3.facts
  dsimp only at g0 g1 g2 g3 g4 g5 g6 g7 g8 g9 g10 g11
  go_wp2
  go_ret2
  exact ⟨rfl, hb4⟩
set_option maxRecDepth 100000 in
set_option maxHeartbeats 16000000 in
theorem refLook_any (hI : Inv st) (hF : Fs BB F nv dv st w) (hl : st.n.length ≤ 1000000) (hdl : st.d.length ≤ 1000000) (cu cg k : Int) (n : List UInt8) :
    Calls Try.prog 18 #[.pointer (some ⟨F, 0, none⟩), .agg #[.int .i64 cu, .int .i64 cg], .int .i64 k, .string ⟨n.toArray⟩] w fun e w' =>
      e = .returned (.tuple #[.int .i64 (lookN st cu cg k n), .int .i64 (lookE st cu cg k n)]) ∧ Below w.heap.size w w' := by
  have hb1 : Below w.heap.size w (w.alloc (.cells #[.int .i64 cu, .int .i64 cg] 24)) := (Below.refl _ _).alloc (Nat.le_refl _) _
  have C1 := CrBox.new cu cg w
  have cc := refOpen_any hI (hF.below hb1) hl cu cg k 1 1
  rw [open_dir] at cc
  have cv := fun W (hb : Below w.heap.size w W) => refOver_any (hF.below hb) (E.numOf (gets st.n k).es n) hdl
  have hov : refOver st.d (E.numOf (gets st.n k).es n) = over st.d (E.numOf (gets st.n k).es n) := (hI.over_raw _).symm
  rw [hov] at cv
  have hd : lookE st cu cg k n = if dirE st cu cg k 1 ≠ 0 then dirE st cu cg k 1 else if E.numOf (gets st.n k).es n = 0 then 5 else 0 := rfl
  have hn : lookN st cu cg k n = if dirE st cu cg k 1 ≠ 0 then 0 else if E.numOf (gets st.n k).es n = 0 then 0 else over st.d (E.numOf (gets st.n k).es n) := rfl
  have hfew := K.gets_few hI k
  generalize lookE st cu cg k n = re at *
  generalize lookN st cu cg k n = rn at *
  generalize dirE st cu cg k 1 = de at *
  generalize gets st.n k = nd at *
  clear hF hov
  go_enter Try.func18, Try.ntmps18
  go_upto_region 1 with fail
  generalize w.alloc (.cells #[.int .i64 cu, .int .i64 cg] 24) = W1 at *
  have HD := Lib.hid hd
  have HN := Lib.hid hn
  clear hd hn
  obtain ⟨k0, k1⟩ := C1.facts
  by_cases h0 : de = 0
  · subst h0
    rw [only_ok] at cc
    obtain ⟨no, dev, kind, mode, uid, gid, mt, ct, links, up, data, es⟩ := nd
    dsimp only [T.Nd.v] at cc
    dsimp only at cv hfew
    go_upto_region 2 with (go_at_call 28; refine cc.mono ?_; rintro e w3 ⟨u, rfl, hO, hb3⟩; obtain ⟨ou, cu', rfl⟩ := T.own_slice hO; have B3 := T.BoxN.new ⟨no, dev, kind, mode, uid, gid, mt, ct, links, up, data, es⟩ (.slice ou es.length cu') w3)
    have hal : Below w3.heap.size w3 (w3.alloc (.cells #[.int .i64 no, .int .i64 dev, .int .i64 kind, .int .i64 mode, .int .i64 uid, .int .i64 gid, .int .i64 mt, .int .i64 ct, .int .i64 links, .int .i64 up, .string data, .slice ou es.length cu'] 70)) := (Below.refl _ _).alloc (Nat.le_refl _) _
    have hb4 := below_two (below_two hb1 hb3) hal
    have hO4 := hO.below hal
    generalize w3.heap.size = b3 at *
    generalize w3.alloc (.cells #[.int .i64 no, .int .i64 dev, .int .i64 kind, .int .i64 mode, .int .i64 uid, .int .i64 gid, .int .i64 mt, .int .i64 ct, .int .i64 links, .int .i64 up, .string data, .slice ou es.length cu'] 70) = W4 at B3 hb4 hO4 ⊢
    clear hO hb3 cc hal C1 hb1 k0 k1
    obtain ⟨g0, g1, g2, g3, g4, g5, g6, g7, g8, g9, g10, g11⟩ := B3.facts
    dsimp only at g0 g1 g2 g3 g4 g5 g6 g7 g8 g9 g10 g11
    have cf := E.refFind_any hO4.sees n hfew
    have cv4 := cv W4 hb4
    clear cv
    by_cases hz : E.numOf es n = 0
    · obtain rfl : re = 5 := HD.out.trans (by simp [hz])
      obtain rfl : rn = 0 := HN.out.trans (by simp [hz])
      rw [hz] at cf
      clear cv4
      go_wp2_with (go_at_call 33; refine cf.mono ?_; rintro e W5 ⟨rfl, rfl⟩)
      go_ret2
      exact ⟨rfl, hb4⟩
    · obtain rfl : re = 0 := HD.out.trans (by simp [hz])
      have hr : over st.d (E.numOf es n) = rn := (HN.out.trans (by simp [hz])).symm
      have hz' : (E.numOf es n == 0) = false := by simpa using hz
      rw [hr] at cv4
      clear HN HD hr
      generalize E.numOf es n = z at *
      go_wp2_with (first
        | (go_at_call 33; refine cf.mono ?_; rintro e W5 ⟨rfl, rfl⟩)
        | (go_at_call 29; refine cv4.mono ?_; rintro e W6 ⟨rfl, rfl⟩))
      go_ret2
      exact ⟨rfl, hb4⟩
  · obtain rfl : re = de := HD.out.trans (by simp [h0])
    obtain rfl : rn = 0 := HN.out.trans (by simp [h0])
    have h1 : (re == 0) = false := by simpa using h0
    rw [only_err h0] at cc
    clear HD HN
    unfold T.Nd.zero at *
    dsimp only [T.Nd.v] at cc
    go_wp2_with (go_at_call 28; refine cc.mono ?_; rintro e w3 ⟨u, rfl, hO, hb3⟩; obtain ⟨ou, cu', rfl⟩ := T.own_slice hO)
    go_ret2
    exact ⟨rfl, below_two (below_two hb1 hb3) ((Below.refl _ _).alloc (Nat.le_refl _) _)⟩
end
end Go.Proofs.Ytjkopgdbkmbnmaa.P
