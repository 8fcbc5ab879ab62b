/-
  The reference's Fill.
-/
import Derived.Test.YtmoimijclafgcaaFkill
namespace Go.Proofs.Ytmoimijclafgcaa.G
open Go.RowKit Go.Shelf
attribute [local go_sem] Oper.semAt_some

section
variable {B F : Nat} {nv nv' dv : Value} {st : St} {w w' : World}
theorem fill_none {st : St} {k : Int} {x : ByteArray} (h : (get st.n k).isSome = false) : fill st k x = (st, 5) := by
  unfold fill; rw [if_neg (by rw [h]; simp)]
theorem fill_err {st : St} {k : Int} {x : ByteArray} (h : (get st.n k).isSome = true) (h1 : terr st.d (gets st.n k).dev (blk (filled st k x) - blk (gets st.n k)) 0 ≠ 0) : fill st k x = (st, terr st.d (gets st.n k).dev (blk (filled st k x) - blk (gets st.n k)) 0) := by
  unfold fill; rw [if_pos h, if_neg h1]
theorem fill_ok {st : St} {k : Int} {x : ByteArray} (h : (get st.n k).isSome = true) (h1 : terr st.d (gets st.n k).dev (blk (filled st k x) - blk (gets st.n k)) 0 = 0) :
    fill st k x = (⟨st.last, setN st.n (filled st k x), taken st.d (gets st.n k).dev (blk (filled st k x) - blk (gets st.n k)) 0⟩, 0) := by
  unfold fill; rw [if_pos h, if_pos h1]
set_option maxRecDepth 100000 in
set_option maxHeartbeats 8000000 in
theorem refFill_none (h : Fs B F nv dv st w) (k : Int) (x : ByteArray) (hn : get st.n k = none) (hl : st.n.length ≤ 1000000) :
    Calls Try.prog 11 #[.pointer (some ⟨F, 0, none⟩), .int .i64 k, .string x] w fun e w' => e = .returned (.int .i64 5) ∧ Below w.heap.size w w' := by
  have c1 := refGet_any h k hl
  rw [gets_none hn] at c1
  clear h hl hn
  dsimp only [T.Nd.zero, T.Nd.v] at *
  go_enter Try.func11, Try.ntmps11
  go_upto_region 2 with (go_at_call 30; refine c1.mono ?_; rintro e w3 ⟨u, rfl, hO, hb3⟩; obtain ⟨ou, cu, rfl⟩ := T.own_slice hO)
  have hb4 : Below w.heap.size w (w3.alloc (.cells #[.int .i64 0, .int .i64 0, .int .i64 0, .int .i64 0, .int .i64 0, .int .i64 0, .int .i64 0, .int .i64 0, .int .i64 0, .int .i64 0, .string ⟨#[]⟩, .slice ou 0 cu] 71)) := hb3.alloc hb3.size _
  go_wp2
  go_ret
  exact ⟨rfl, hb4⟩
set_option maxRecDepth 100000 in
set_option maxHeartbeats 8000000 in
theorem refFill_some (h : Fs B F nv dv st w) (hrise : st.n.Pairwise fun p q => p.no < q.no) (k : Int) (y : ByteArray) {x : T.Nd} {m : Mt} (hx : get st.n k = some x) (hk0 : k ≠ 0) (hm : mt st.d x.dev = some m) (hd : x.data.size ≤ 2000000) (hy : y.size ≤ 2000000) (hdl : st.d.length ≤ 1000000) (hlen : st.n.length < 900000)
    (r : St × Int) (hr1 : (U.took m.q (U.blk x.kind y.size - U.blk x.kind x.data.size) 0).2 ≠ 0 → r = (st, (U.took m.q (U.blk x.kind y.size - U.blk x.kind x.data.size) 0).2))
    (hr2 : (U.took m.q (U.blk x.kind y.size - U.blk x.kind x.data.size) 0).2 = 0 → r = (⟨st.last, setN st.n { x with data := y }, settle st.d x.dev (U.took m.q (U.blk x.kind y.size - U.blk x.kind x.data.size) 0).1⟩, 0)) :
    Calls Try.prog 11 #[.pointer (some ⟨F, 0, none⟩), .int .i64 k, .string y] w fun e w' =>
    e = .returned (.int .i64 r.2) ∧ Fs B F nv dv r.1 w' ∧ Turn (fS F nv dv) w w' := by
  obtain ⟨k1, k2, k3⟩ := mt_some hm
  rw [settle_some hm] at hr2
  obtain ⟨i, hi⟩ : ∃ i, (x.dev - 1).toNat = i := ⟨_, rfl⟩
  rw [hi] at k3 hr2
  have hi2 : x.dev - 1 = (i : Int) := by omega
  have hi3 : (i : Int) < st.d.length := by omega
  have hi4 : (0 : Int) ≤ (i : Int) := by omega
  have hi5 : i < st.d.length := by omega
  have hi6 : IntKind.i64.wrap (x.dev - 1) = (i : Int) := by rw [hi2]; exact wrap_id (by omega) (by omega)
  have hi7 : IntKind.i64.wrap (i : Int) = (i : Int) := wrap_id (by omega) (by omega)
  obtain ⟨z0, z1⟩ := blk_range x hd
  obtain ⟨z2, z3⟩ := blk_range { x with data := y } hy
  have e1 : blk x = U.blk x.kind x.data.size := rfl
  have e2 : blk { x with data := y } = U.blk x.kind y.size := rfl
  rw [e1] at z0 z1
  rw [e2] at z2 z3
  obtain ⟨zn, hzn⟩ : ∃ zn, U.blk x.kind y.size - U.blk x.kind x.data.size = zn := ⟨_, rfl⟩
  have hw1 : IntKind.i64.wrap (U.blk x.kind y.size - U.blk x.kind x.data.size) = zn := by rw [hzn]; exact wrap_id (by omega) (by omega)
  rw [hzn] at hr1 hr2
  have HM1 := Lib.hid hr1
  have HM2 := Lib.hid hr2
  have c1 := refGet_any h k (by omega)
  rw [gets_some hx] at c1
  have hno : x.no = k := (get_some hx).2
  have cb1 := fun W => U.refBlocks_any x.kind x.data.size (by omega) W
  have cb2 := fun W => U.refBlocks_any x.kind y.size (by omega) W
  have ct := fun W => U.refTake_any m.q zn 0 W
  have hHI := Lib.hid k3
  obtain ⟨g, cap, rfl, _⟩ := h.mount k3
  have hMT := fun W (hW : Fs B F nv (.slice (some ⟨g, 0, none⟩) st.d.length cap) st W) => hW.mount k3
  have ca := fun W (hW : Fs B F nv (.slice (some ⟨g, 0, none⟩) st.d.length cap) ⟨st.last, st.n, st.d.set i { m with q := (U.took m.q zn 0).1 }⟩ W) s (hS : E.Own B s x.es W) => refSet_any hW hrise { x with data := y } s hS (Nat.le_of_lt (Nat.lt_of_lt_of_le hlen (by decide)))
  have HH := Lib.hid h
  have hnv : ∀ g, nv.ownBlock = some g → g < w.heap.size := fun g hg => h.lt (fS_row hg)
  have HNV := Lib.hid hnv
  clear hr1 hr2 h k1 k2 k3 hm hdl hlen hi hx hnv z0 z1 z2 z3 e1 e2 hzn hd hy hrise
  have hzx : U.blk x.kind x.data.size = U.blk x.kind x.data.size := rfl
  generalize U.blk x.kind x.data.size = za at *
  generalize U.blk x.kind y.size = zb at *
  generalize (U.took m.q zn 0).1 = q' at *
  generalize (U.took m.q zn 0).2 = er at *
  obtain ⟨mr, mc, q⟩ := m
  obtain ⟨qb, qn, qm, qk⟩ := q
  have HMT := Lib.hid hMT
  obtain ⟨no, dev, kind, mode, uid, gid, mt, ct', links, up, data, es⟩ := x
  dsimp only [T.Nd.v, U.Sp.v] at *
  subst hno
  have hk0' : (no == 0) = false := by simpa using hk0
  clear hMT hzx
  go_enter Try.func11, Try.ntmps11
  go_upto_region 2 with (go_at_call 30; refine c1.mono ?_; rintro e w3 ⟨u, rfl, hO, hb3⟩; obtain ⟨ou, cu, rfl⟩ := T.own_slice hO; have B3 := T.BoxN.new ⟨no, dev, kind, mode, uid, gid, mt, ct', links, up, data, es⟩ (.slice ou es.length cu) w3)
  have hb1 : Below w.heap.size w (w3.alloc (.cells #[.int .i64 no, .int .i64 dev, .int .i64 kind, .int .i64 mode, .int .i64 uid, .int .i64 gid, .int .i64 mt, .int .i64 ct', .int .i64 links, .int .i64 up, .string data, .slice ou es.length cu] 71)) := hb3.alloc hb3.size _
  have hO1 : E.Own B (.slice ou es.length cu) es _ := T.own_kept hO (T.EntKept.below ((Below.refl w3.heap.size w3).alloc (Nat.le_refl _) (.cells #[.int .i64 no, .int .i64 dev, .int .i64 kind, .int .i64 mode, .int .i64 uid, .int .i64 gid, .int .i64 mt, .int .i64 ct', .int .i64 links, .int .i64 up, .string data, .slice ou es.length cu] 71)))
  generalize w3.alloc (.cells #[.int .i64 no, .int .i64 dev, .int .i64 kind, .int .i64 mode, .int .i64 uid, .int .i64 gid, .int .i64 mt, .int .i64 ct', .int .i64 links, .int .i64 up, .string data, .slice ou es.length cu] 71) = W1 at B3 hb1 hO1 ⊢
  have hb0 : w.heap.size ≤ w3.heap.size := hb3.size
  generalize w3.heap.size = b0 at B3 hb0 ⊢
  have hnv : ∀ g, nv.ownBlock = some g → g ≠ b0 := fun g hg => by have := HNV.out g hg; omega
  have HNW := Lib.hid hnv
  have H := HH.out.below hb1
  clear c1 hO hb3 HNV hnv
  obtain ⟨a0, a1, _⟩ := B3.facts
  dsimp only at a0 a1
  have HMT2 := HMT.out W1 H
  obtain ⟨g', cap', he, q0, q2, q3, q4, q5, qf⟩ := HMT2
  cases he
  go_upto_region 4 with fail
  have kw : Nine b0 F g (i * 6) ⟨no, dev, kind, mode, uid, gid, mt, ct', links, up, data, es⟩ (.slice (some ⟨g, 0, none⟩) st.d.length cap) ⟨qb, qn, qm, qk⟩ W1 := ⟨a1, B3.facts.2.2.1, B3.facts.2.2.2.2.2.2.2.2.2.2.1, H.facts.2.1, q2, q3, q4, q5⟩
  have kp := kw.drew
  have hbl := B3.lt
  have hFl := H.ltF
  have hgl : g < W1.heap.size := World.block_lt_of_cell? _ _ q0
  clear q0 q2 q3 q4 q5 a0 a1 HMT
  go_cut [8, 9] (fun s6 s7 wx => ∃ Y, s6 = .pointer (some ⟨Y, 0, none⟩) ∧ s7 = .int .i64 er ∧ U.Box4 Y q' wx ∧ W1.heap.size ≤ Y ∧ Below W1.heap.size W1 wx)
  case first =>
    go_region_held3 (fun w' => w'.cell? ⟨b0, 1, none⟩ = some (.int .i64 dev) ∧ w'.cell? ⟨b0, 2, none⟩ = some (.int .i64 kind) ∧ w'.cell? ⟨b0, 10, none⟩ = some (.string data) ∧ w'.cell? ⟨F, 1, none⟩ = some (.slice (some ⟨g, 0, none⟩) st.d.length cap) ∧
        w'.cell? ⟨g, i * 6 + 2, none⟩ = some (.int .i64 qb) ∧ w'.cell? ⟨g, i * 6 + 2 + 1, none⟩ = some (.int .i64 qn) ∧ w'.cell? ⟨g, i * 6 + 2 + 2, none⟩ = some (.int .i64 qm) ∧ w'.cell? ⟨g, i * 6 + 2 + 3, none⟩ = some (.int .i64 qk))
      (with_reducible first | exact Nine.all kq | exact Nine.all (Nine.alloc kq _) | exact Nine.all kp | exact Nine.all (Nine.drew (Nine.alloc kw _)) | exact Nine.all (Nine.later kq ((U.Box4.put (q := ⟨0, 0, 0, 0⟩) nb rfl).2 _ (Nat.le_refl _)) hbl hFl hgl))
      (first
        | (go_at_call 33; with_reducible refine (cb1 _).mono ?_; rintro e w2 ⟨rfl, rfl⟩)
        | (go_at_call 33; with_reducible refine (cb2 _).mono ?_; rintro e w2 ⟨rfl, rfl⟩)
        | (go_at_call 32; refine (ct _).mono ?_; rintro e w2 ⟨rfl, bb2⟩; have kq : Nine b0 F g (i * 6) ⟨no, dev, kind, mode, uid, gid, mt, ct', links, up, data, es⟩ (.slice (some ⟨g, 0, none⟩) st.d.length cap) ⟨qb, qn, qm, qk⟩ w2 := (by with_reducible exact Nine.next kp bb2))
        | (go_at_call 32; refine (ct _).mono ?_; rintro e w2 ⟨rfl, bb2⟩; have kq : Nine b0 F g (i * 6) ⟨no, dev, kind, mode, uid, gid, mt, ct', links, up, data, es⟩ (.slice (some ⟨g, 0, none⟩) st.d.length cap) ⟨qb, qn, qm, qk⟩ w2 := (by with_reducible exact Nine.next (Nine.drew (Nine.alloc kw _)) bb2); have nn := new_box (q := ⟨0, 0, 0, 0⟩) bb2; obtain ⟨nb, no⟩ := nn; have na := nb; obtain ⟨n0, n1, n2, n3⟩ := na; obtain ⟨z0, z1, z2, z3⟩ := no))
    all_goals
      go_wp2_with fail
      go_meet
      case rel =>
        first
        | (have h1 := below_two ((Below.refl W1.heap.size W1).drew) bb2
           exact ⟨w2.heap.size, rfl, rfl, U.Box4.new w2 q' 53, h1.size, h1.alloc h1.size _⟩)
        | (have h1 := below_two ((Below.refl W1.heap.size W1).alloc (Nat.le_refl _) _).drew bb2
           have h2 := U.Box4.put (q := ⟨0, 0, 0, 0⟩) (x := q'.b) (y := q'.n) (z := q'.mb) (u := q'.mn) nb rfl
           exact ⟨W1.heap.size, rfl, rfl, h2.1, Nat.le_refl _, h1.trans (h2.2 _ (Nat.le_refl _))⟩)
  case rest =>
    obtain ⟨Y, rfl, rfl, bY, hY, hbc⟩ := hcut
    have kc := kw.next hbc
    have Hc := H.below hbc
    have tc := (Turn.of_below (S := fS F nv (.slice (some ⟨g, 0, none⟩) st.d.length cap)) (w := w) hb1).next hbc
    have Bc := B3.below hbc
    have hSc := T.own_kept hO1 (T.EntKept.below hbc)
    have qf' := fun j => (hbc.frozen (p := ⟨g, j, none⟩) hgl).trans (qf j)
    clear kp kw H B3 hb1 hO1 qf cb1 cb2 ct hbl hFl hgl hY
    by_cases he : er = 0
    · subst he
      obtain rfl := HM2.out rfl
      have f2 := qf' (i * 6 + 2)
      have f3 := qf' (i * 6 + 2 + 1)
      have f4 := qf' (i * 6 + 2 + 2)
      have f5 := qf' (i * 6 + 2 + 3)
      obtain ⟨y0, y1, y2, y3⟩ := bY
      obtain ⟨c0, c1, c2, c3, c4, c5, c6, c7⟩ := kc
      dsimp only at c0 c1 c2 c4 c5 c6 c7
      clear qf'
      go_upto_region 7 with fail
      go_region
      obtain ⟨H6, t6⟩ := Hc.spaced rfl hHI.out q'
      have H7 := H6.drew
      have D6 : T.BoxN b0 _ _ _ := (t6.block b0 Bc.lt (fun e => Hc.notBox Bc HNW.out (fS_dev e))).trans Bc
      have D7 := D6.below ((Below.refl _ _).drew)
      have hS7 : E.Own B _ es _ := (T.own_kept hSc (Hc.entKept (t6.mono fun _ e => fS_dev e))).below ((Below.refl _ _).drew)
      have t7 := (tc.trans (t6.mono fun _ e => fS_dev e)).next ((Below.refl _ _).drew)
      have hw : ((((wc.setCell ⟨g, i * 6 + 2, none⟩ (.int .i64 q'.b)).setCell ⟨g, i * 6 + 2 + 1, none⟩ (.int .i64 q'.n)).setCell ⟨g, i * 6 + 2 + 2, none⟩ (.int .i64 q'.mb)).setCell ⟨g, i * 6 + 2 + 3, none⟩ (.int .i64 q'.mn)).drew = (putq wc g (i * 6) q').drew := rfl
      rw [hw]
      clear hw D6 H6 t6 Hc tc Bc hSc y0 y1 y2 y3 c0 c1 c2 c3 c4 c5 c6 c7 f2 f3 f4 f5 hi2 hi3 hi4 hi5 hi6 hi7 hw1
      generalize (putq wc g (i * 6) q').drew = W7 at *
      obtain ⟨a0, a1, a2, a3, a4, a5, a6, a7, a8, a9, a10, a11⟩ := D7.facts
      obtain ⟨f0, f1, f2, f3, f4, f5, f6, f7, f8, f9, f10, f11⟩ := D7.open
      go_upto_region 9 with fail
      have D8 := box_set10 D7 y
      have H8 := H7.boxed D7 HNW.out 10 (.string y)
      have hS8 := T.own_kept hS7 (box_entKept D7 10 (.string y))
      have t8 := t7.more ((Below.refl b0 W7).setCell (p := ⟨b0, 10, none⟩) (Nat.le_refl b0) (.string y)) hb0
      dsimp only at D8
      clear a0 a1 a2 a3 a4 a5 a6 a7 a8 a9 a10 a11 f0 f1 f2 f3 f4 f5 f6 f7 f8 f9 f10 f11 D7 H7 hS7 t7
      generalize W7.setCell ⟨b0, 10, none⟩ (.string y) = W8 at *
      obtain ⟨a0, a1, a2, a3, a4, a5, a6, a7, a8, a9, a10, a11⟩ := D8.facts
      dsimp only at a0 a1 a2 a3 a4 a5 a6 a7 a8 a9 a10 a11
      have ca8 := ca W8 H8 _ hS8
      have HT := Lib.hid t8
      clear ca H8 hS8 t8 D8
      go_wp2_with (go_at_call 36; refine ca8.mono ?_; rintro e w9 ⟨rfl, H9, t9⟩)
      go_ret
      exact ⟨rfl, H9, HT.out.trans t9⟩
    · obtain rfl := HM1.out he
      have he' : (er == 0) = false := by simpa using he
      go_wp2
      go_ret
      exact ⟨rfl, Hc, tc⟩
theorem refFill_any (hI : Inv st) (h : Fs B F nv dv st w) (k : Int) (y : ByteArray) (hy : y.size ≤ 2000000) (hlen : st.n.length < 900000) :
    Calls Try.prog 11 #[.pointer (some ⟨F, 0, none⟩), .int .i64 k, .string y] w fun e w' =>
    e = .returned (.int .i64 (fill st k y).2) ∧ Fs B F nv dv (fill st k y).1 w' ∧ Turn (fS F nv dv) w w' := by
  have hdl := hI.mounts
  cases hx : get st.n k with
  | none =>
    rw [fill_none (by rw [hx]; rfl)]
    refine (refFill_none h k y hx (by omega)).mono ?_
    rintro e w' ⟨rfl, hb⟩
    exact ⟨rfl, h.below hb, Turn.of_below hb⟩
  | some x =>
    obtain ⟨hmem, hno⟩ := get_some hx
    obtain ⟨m, hm⟩ := hI.mtOf hmem
    have hk1 := (hI.given x hmem).1
    have hg := gets_some hx
    have hf : filled st k y = { x with data := y } := by unfold filled; rw [hg]
    have e1 := @fill_err st k y (by rw [hx]; rfl)
    have e2 := @fill_ok st k y (by rw [hx]; rfl)
    rw [hg, hf, terr_some hm] at e1 e2
    rw [taken_some hm] at e2
    exact refFill_some h hI.rise k y hx (by omega) hm (hI.data x hmem) hy (by omega) hlen _ e1 e2
end
end Go.Proofs.Ytmoimijclafgcaa.G
