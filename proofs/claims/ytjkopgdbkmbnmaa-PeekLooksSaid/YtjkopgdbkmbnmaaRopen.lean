/-
  The reference's Open.
-/
import Derived.Test.YtjkopgdbkmbnmaaPbox
namespace Go.Proofs.Ytjkopgdbkmbnmaa.P
open Go.RowKit Go.Shelf G
attribute [local go_sem] Oper.semAt_some

section
variable {BB F : Nat} {nv dv : Value} {st : St} {w : World}
set_option maxRecDepth 100000 in
set_option maxHeartbeats 16000000 in
theorem refOpen_any (hI : Inv st) (hF : Fs BB F nv dv st w) (hl : st.n.length ≤ 1000000) (cu cg k kd want : Int) :
    Calls Try.prog 28 #[.pointer (some ⟨F, 0, none⟩), .agg #[.int .i64 cu, .int .i64 cg], .int .i64 k, .int .i64 kd, .int .i64 want] w fun e w' =>
      ∃ u, e = .returned (.tuple #[(onlyIf (openE st cu cg k kd want) (gets st.n k)).v u, .int .i64 (openE st cu cg k kd want)]) ∧ E.Own BB u (onlyIf (openE st cu cg k kd want) (gets st.n k)).es w' ∧ Below w.heap.size w w' := by
  have hb0 : Below w.heap.size w ((w.alloc (.cells #[.int .i64 cu, .int .i64 cg] 24)).alloc (.cells #[.int .i64 0, .int .i64 0, .int .i64 0, .int .i64 0, .int .i64 0, .int .i64 0, .int .i64 0, .int .i64 0, .int .i64 0, .int .i64 0, .string ⟨#[]⟩, .slice none 0 0] 70)) := ((Below.refl _ _).alloc (Nat.le_refl _) _).alloc (by simp) _
  have C0 := CrBox.new cu cg w
  have C1 : CrBox w.heap.size cu cg ((w.alloc (.cells #[.int .i64 cu, .int .i64 cg] 24)).alloc (.cells #[.int .i64 0, .int .i64 0, .int .i64 0, .int .i64 0, .int .i64 0, .int .i64 0, .int .i64 0, .int .i64 0, .int .i64 0, .int .i64 0, .string ⟨#[]⟩, .slice none 0 0] 70)) := C0.below ((Below.refl _ _).alloc (Nat.le_refl _) _)
  have B1 := T.BoxN.new T.Nd.zero (.slice none 0 0) (w.alloc (.cells #[.int .i64 cu, .int .i64 cg] 24))
  rw [World.size_alloc] at B1
  dsimp only [T.Nd.zero] at B1
  have hs1 : ((w.alloc (.cells #[.int .i64 cu, .int .i64 cg] 24)).alloc (.cells #[.int .i64 0, .int .i64 0, .int .i64 0, .int .i64 0, .int .i64 0, .int .i64 0, .int .i64 0, .int .i64 0, .int .i64 0, .int .i64 0, .string ⟨#[]⟩, .slice none 0 0] 70)).heap.size = w.heap.size + 2 := by simp
  have cc := fun W (hb : Below w.heap.size w W) => refGet_any (hF.below hb) k hl
  have hz := gets_zero (st := st) (k := k)
  have hno := gets_no hI (k := k)
  have hd : openE st cu cg k kd want = (if (get st.n k).isSome = false then 5 else if (gets st.n k).kind ≠ kd then (if kd = 1 then 9 else if (gets st.n k).kind = 1 then 8 else 1) else if PM.may cu cg (gets st.n k).uid (gets st.n k).gid (gets st.n k).mode want = false then 6 else 0) := rfl
  generalize openE st cu cg k kd want = de at *
  clear hF C0
  generalize gets st.n k = nd at *
  generalize (get st.n k).isSome = bb at *
  go_enter Try.func28, Try.ntmps28
  go_upto_region 1 with fail
  generalize (w.alloc (.cells #[.int .i64 cu, .int .i64 cg] 24)).alloc (.cells #[.int .i64 0, .int .i64 0, .int .i64 0, .int .i64 0, .int .i64 0, .int .i64 0, .int .i64 0, .int .i64 0, .int .i64 0, .int .i64 0, .string ⟨#[]⟩, .slice none 0 0] 70) = W1 at B1 hb0 hs1 C1 ⊢
  have c1 := cc W1 hb0
  obtain ⟨b0, hbd⟩ : ∃ b, w.heap.size = b := ⟨_, rfl⟩
  rw [hbd] at B1 hb0 hs1 C1 ⊢
  have HB := Lib.hid hbd
  clear hbd cc
  obtain ⟨no, dev, kind, mode, uid, gid, mt, ct, links, up, data, es⟩ := nd
  have HZ := Lib.hid hz
  have HD := Lib.hid hd
  have HN := Lib.hid hno
  clear hz hd hno
  dsimp only [T.Nd.v] at c1
  go_upto_region 2 with (go_at_call 24; refine c1.mono ?_; rintro e w3 ⟨u, rfl, hO, hb3⟩; obtain ⟨ou, cu', rfl⟩ := T.own_slice hO; have B3 := T.BoxN.new ⟨no, dev, kind, mode, uid, gid, mt, ct, links, up, data, es⟩ (.slice ou es.length cu') w3)
  have hal : Below w3.heap.size w3 (w3.alloc (.cells #[.int .i64 no, .int .i64 dev, .int .i64 kind, .int .i64 mode, .int .i64 uid, .int .i64 gid, .int .i64 mt, .int .i64 ct, .int .i64 links, .int .i64 up, .string data, .slice ou es.length cu'] 70)) := (Below.refl _ _).alloc (Nat.le_refl _) _
  have hO3 := T.own_kept hO (T.EntKept.below hal)
  have D2 := (B1.below hb3).below hal
  have C2 := (C1.below hb3).below hal
  have hb4 : Below b0 w (w3.alloc (.cells #[.int .i64 no, .int .i64 dev, .int .i64 kind, .int .i64 mode, .int .i64 uid, .int .i64 gid, .int .i64 mt, .int .i64 ct, .int .i64 links, .int .i64 up, .string data, .slice ou es.length cu'] 70)) := (hb0.trans (hb3.mono (by omega))).trans (hal.mono (by have := hb3.size; omega))
  have hlt : b0 + 1 < w3.heap.size := by have := hb3.size; omega
  generalize w3.heap.size = b3 at *
  generalize w3.alloc (.cells #[.int .i64 no, .int .i64 dev, .int .i64 kind, .int .i64 mode, .int .i64 uid, .int .i64 gid, .int .i64 mt, .int .i64 ct, .int .i64 links, .int .i64 up, .string data, .slice ou es.length cu'] 70) = W4 at B3 D2 hb4 hO3 C2 ⊢
  clear B1 hb3 hO c1 hal C1
  obtain ⟨a0, a1, a2, a3, a4, a5, a6, a7, a8, a9, a10, a11⟩ := D2.facts
  obtain ⟨f0, f1, f2, f3, f4, f5, f6, f7, f8, f9, f10, f11⟩ := D2.open
  obtain ⟨g0, g1, g2, g3, g4, g5, g6, g7, g8, g9, g10, g11⟩ := B3.facts
  obtain ⟨k0, k1⟩ := C2.facts
  dsimp only at g0 g1 g2 g3 g4 g5 g6 g7 g8 g9 g10 g11
  have zero : ∀ (W4 : World), Below b0 w W4 → T.BoxN (b0 + 1) ⟨0, 0, 0, 0, 0, 0, 0, 0, 0, 0, ⟨#[]⟩, []⟩ (.slice none 0 0) W4 → T.BoxN (b0 + 1) T.Nd.zero (.slice none 0 0) (T.fill W4 (b0 + 1) T.Nd.zero (.slice none 0 0)) ∧ Below b0 w (T.fill W4 (b0 + 1) T.Nd.zero (.slice none 0 0)) := fun W4 hb D => ⟨D.fill _ _, hb.trans (T.below_fill (by omega) W4 T.Nd.zero (.slice none 0 0))⟩
  cases bb with
  | false =>
    obtain rfl : de = 5 := HD.out.trans (by simp)
    have e := HZ.out rfl
    cases e
    go_upto_region 3 with fail
    go_wp
    obtain ⟨D3, hb5⟩ := zero _ hb4 D2
    unfold T.fill T.Nd.zero at D3 hb5
    dsimp only at D3 hb5
    generalize World.setCell _ _ _ = W5 at D3 hb5 ⊢
    obtain ⟨q0, q1, q2, q3, q4, q5, q6, q7, q8, q9, q10, q11⟩ := D3.facts
    dsimp only at q0 q1 q2 q3 q4 q5 q6 q7 q8 q9 q10 q11
    refine bodyPost_ret (by simp [results, Try.results28, go_sem, q0, q1, q2, q3, q4, q5, q6, q7, q8, q9, q10, q11]; rfl) rfl ?_
    exact ⟨.slice none 0 0, rfl, E.Own.nil _ _, HB.out ▸ hb5⟩
  | true =>
    have hno' : (no == 0) = false := by have h1 : no = k := (HN.out rfl).1; have h2 := (HN.out rfl).2; rw [beq_eq_false_iff_ne]; omega
    by_cases hk1 : kind = kd
    · subst hk1
      have cn := fun W => PM.refNode_any cu cg ⟨no, dev, kind, mode, uid, gid, mt, ct, links, up, data, ou, es.length, cu'⟩ want W
      dsimp only [PM.Nd.v, PM.cred] at cn
      cases hm : PM.may cu cg uid gid mode want with
      | false =>
        obtain rfl : de = 6 := HD.out.trans (by simp [hm])
        rw [hm] at cn
        go_upto_region 11 with (go_at_call 51; refine (cn _).mono ?_; rintro e W5 ⟨rfl, hb5⟩)
        have D5 := D2.below hb5
        have hb6 := hb4.trans (hb5.mono (Nat.le_of_lt C2.lt))
        clear a0 a1 a2 a3 a4 a5 a6 a7 a8 a9 a10 a11 f0 f1 f2 f3 f4 f5 f6 f7 f8 f9 f10 f11 g0 g1 g2 g3 g4 g5 g6 g7 g8 g9 g10 g11 k0 k1 cn
        obtain ⟨p0, p1, p2, p3, p4, p5, p6, p7, p8, p9, p10, p11⟩ := D5.open
        obtain ⟨a0, a1, a2, a3, a4, a5, a6, a7, a8, a9, a10, a11⟩ := D5.facts
        dsimp only at a0 a1 a2 a3 a4 a5 a6 a7 a8 a9 a10 a11
        go_wp
        obtain ⟨D3, hb7⟩ := zero _ hb6 D5
        unfold T.fill T.Nd.zero at D3 hb7
        dsimp only at D3 hb7
        generalize World.setCell _ _ _ = W6 at D3 hb7 ⊢
        obtain ⟨q0, q1, q2, q3, q4, q5, q6, q7, q8, q9, q10, q11⟩ := D3.facts
        dsimp only at q0 q1 q2 q3 q4 q5 q6 q7 q8 q9 q10 q11
        refine bodyPost_ret (by simp [results, Try.results28, go_sem, q0, q1, q2, q3, q4, q5, q6, q7, q8, q9, q10, q11]; rfl) rfl ?_
        exact ⟨.slice none 0 0, rfl, E.Own.nil _ _, HB.out ▸ hb7⟩
      | true =>
        obtain rfl : de = 0 := HD.out.trans (by simp [hm])
        rw [hm] at cn
        go_upto_region 12 with (go_at_call 51; refine (cn _).mono ?_; rintro e W5 ⟨rfl, hb5⟩)
        have D5 := D2.below hb5
        have B5 := B3.below hb5
        have hO5 := hO3.below hb5
        have hb6 := hb4.trans (hb5.mono (Nat.le_of_lt C2.lt))
        clear a0 a1 a2 a3 a4 a5 a6 a7 a8 a9 a10 a11 f0 f1 f2 f3 f4 f5 f6 f7 f8 f9 f10 f11 g0 g1 g2 g3 g4 g5 g6 g7 g8 g9 g10 g11 k0 k1 cn
        obtain ⟨p0, p1, p2, p3, p4, p5, p6, p7, p8, p9, p10, p11⟩ := D5.open
        obtain ⟨a0, a1, a2, a3, a4, a5, a6, a7, a8, a9, a10, a11⟩ := D5.facts
        obtain ⟨g0, g1, g2, g3, g4, g5, g6, g7, g8, g9, g10, g11⟩ := B5.facts
        dsimp only at g0 g1 g2 g3 g4 g5 g6 g7 g8 g9 g10 g11 a0 a1 a2 a3 a4 a5 a6 a7 a8 a9 a10 a11
        go_wp
        have D6 := D5.fill ⟨no, dev, kind, mode, uid, gid, mt, ct, links, up, data, es⟩ (.slice ou es.length cu')
        have hb7 := hb6.trans (T.below_fill (show b0 ≤ b0 + 1 by omega) W5 ⟨no, dev, kind, mode, uid, gid, mt, ct, links, up, data, es⟩ (.slice ou es.length cu'))
        have hO7 : E.Own BB _ es _ := T.own_kept hO5 (T.EntKept.fill D5 ⟨no, dev, kind, mode, uid, gid, mt, ct, links, up, data, es⟩ (.slice ou es.length cu'))
        unfold T.fill at D6 hb7 hO7
        dsimp only at D6 hb7 hO7
        generalize World.setCell _ _ _ = W6 at D6 hb7 hO7 ⊢
        obtain ⟨q0, q1, q2, q3, q4, q5, q6, q7, q8, q9, q10, q11⟩ := D6.facts
        dsimp only at q0 q1 q2 q3 q4 q5 q6 q7 q8 q9 q10 q11
        refine bodyPost_ret (by simp [results, Try.results28, go_sem, q0, q1, q2, q3, q4, q5, q6, q7, q8, q9, q10, q11]; rfl) rfl ?_
        exact ⟨_, rfl, hO7, HB.out ▸ hb7⟩
    · have hk2 : (kind == kd) = false := by simpa using hk1
      by_cases hk3 : kd = 1
      · subst hk3
        obtain rfl : de = 9 := HD.out.trans (by simp [hk1])
        go_upto_region 6 with fail
        go_wp
        obtain ⟨D3, hb5⟩ := zero _ hb4 D2
        unfold T.fill T.Nd.zero at D3 hb5
        dsimp only at D3 hb5
        generalize World.setCell _ _ _ = W5 at D3 hb5 ⊢
        obtain ⟨q0, q1, q2, q3, q4, q5, q6, q7, q8, q9, q10, q11⟩ := D3.facts
        dsimp only at q0 q1 q2 q3 q4 q5 q6 q7 q8 q9 q10 q11
        refine bodyPost_ret (by simp [results, Try.results28, go_sem, q0, q1, q2, q3, q4, q5, q6, q7, q8, q9, q10, q11]; rfl) rfl ?_
        exact ⟨.slice none 0 0, rfl, E.Own.nil _ _, HB.out ▸ hb5⟩
      · have hk4 : (kd == 1) = false := by simpa using hk3
        by_cases hk5 : kind = 1
        · subst hk5
          obtain rfl : de = 8 := HD.out.trans (by simp [hk1, hk3])
          go_upto_region 8 with fail
          go_wp
          obtain ⟨D3, hb5⟩ := zero _ hb4 D2
          unfold T.fill T.Nd.zero at D3 hb5
          dsimp only at D3 hb5
          generalize World.setCell _ _ _ = W5 at D3 hb5 ⊢
          obtain ⟨q0, q1, q2, q3, q4, q5, q6, q7, q8, q9, q10, q11⟩ := D3.facts
          dsimp only at q0 q1 q2 q3 q4 q5 q6 q7 q8 q9 q10 q11
          refine bodyPost_ret (by simp [results, Try.results28, go_sem, q0, q1, q2, q3, q4, q5, q6, q7, q8, q9, q10, q11]; rfl) rfl ?_
          exact ⟨.slice none 0 0, rfl, E.Own.nil _ _, HB.out ▸ hb5⟩
        · have hk6 : (kind == 1) = false := by simpa using hk5
          obtain rfl : de = 1 := HD.out.trans (by simp [hk1, hk3, hk5])
          go_upto_region 9 with fail
          go_wp
          obtain ⟨D3, hb5⟩ := zero _ hb4 D2
          unfold T.fill T.Nd.zero at D3 hb5
          dsimp only at D3 hb5
          generalize World.setCell _ _ _ = W5 at D3 hb5 ⊢
          obtain ⟨q0, q1, q2, q3, q4, q5, q6, q7, q8, q9, q10, q11⟩ := D3.facts
          dsimp only at q0 q1 q2 q3 q4 q5 q6 q7 q8 q9 q10 q11
          refine bodyPost_ret (by simp [results, Try.results28, go_sem, q0, q1, q2, q3, q4, q5, q6, q7, q8, q9, q10, q11]; rfl) rfl ?_
          exact ⟨.slice none 0 0, rfl, E.Own.nil _ _, HB.out ▸ hb5⟩
end
end Go.Proofs.Ytjkopgdbkmbnmaa.P
