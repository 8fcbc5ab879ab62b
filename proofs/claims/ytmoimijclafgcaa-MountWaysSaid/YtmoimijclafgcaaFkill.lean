/-
  The reference's Kill.
-/
import Derived.Test.YtmoimijclafgcaaFmak2
namespace Go.Proofs.Ytmoimijclafgcaa.G
open Go.RowKit Go.Shelf
attribute [local go_sem] Oper.semAt_some

section
variable {B F : Nat} {nv nv' dv : Value} {st : St} {w w' : World}
theorem kill_no {st : St} {k : Int} (h : (get st.n k).isSome = false ∨ isRoot st.d k = true) : kill st k = (st, false) := by
  unfold kill; rw [if_neg]
  rintro ⟨h1, h2⟩
  rcases h with h | h
  · rw [h] at h1; cases h1
  · rw [h] at h2; cases h2
theorem kill_yes {st : St} {k : Int} (h1 : (get st.n k).isSome = true) (h2 : isRoot st.d k = false) : kill st k = (⟨st.last, dropN st.n k, taken st.d (gets st.n k).dev (-blk (gets st.n k)) (-1)⟩, true) := by
  unfold kill; rw [if_pos ⟨h1, h2⟩]
set_option maxRecDepth 100000 in
set_option maxHeartbeats 8000000 in
theorem refKill_none (h : Fs B F nv dv st w) (k : Int) (hn : get st.n k = none) (hl : st.n.length ≤ 1000000) :
    Calls Try.prog 9 #[.pointer (some ⟨F, 0, none⟩), .int .i64 k] w fun e w' => e = .returned (.bool false) ∧ Below w.heap.size w w' := by
  have c1 := refGet_any h k hl
  rw [gets_none hn] at c1
  clear h hl hn
  dsimp only [T.Nd.zero, T.Nd.v] at *
  go_enter Try.func9, Try.ntmps9
  go_upto_region 2 with (go_at_call 30; refine c1.mono ?_; rintro e w3 ⟨u, rfl, hO, hb3⟩; obtain ⟨ou, cu, rfl⟩ := T.own_slice hO)
  have hb4 : Below w.heap.size w (w3.alloc (.cells #[.int .i64 0, .int .i64 0, .int .i64 0, .int .i64 0, .int .i64 0, .int .i64 0, .int .i64 0, .int .i64 0, .int .i64 0, .int .i64 0, .string ⟨#[]⟩, .slice ou 0 cu] 71)) := hb3.alloc hb3.size _
  go_wp2
  go_ret
  exact ⟨rfl, hb4⟩
set_option maxRecDepth 100000 in
set_option maxHeartbeats 8000000 in
theorem refKill_some (h : Fs B F nv dv st w) (k : Int) {x : T.Nd} {m : Mt} (hx : get st.n k = some x) (hk0 : k ≠ 0) (hm : mt st.d x.dev = some m) (hd : x.data.size ≤ 2000000) (hB : B ≤ w.heap.size) (hdl : st.d.length ≤ 1000000) (hlen : st.n.length < 900000)
    (r : St × Bool) (hr1 : m.root = k → r = (st, false)) (hr2 : m.root ≠ k → r = (⟨st.last, dropN st.n k, settle st.d x.dev (U.took m.q (-blk x) (-1)).1⟩, true)) :
    Calls Try.prog 9 #[.pointer (some ⟨F, 0, none⟩), .int .i64 k] w fun e w' =>
    e = .returned (.bool r.2) ∧ ∃ nv', Fs B F nv' dv r.1 w' ∧ Turn (fS F nv dv) w w' ∧ ∀ k, fS F nv' dv k → fS F nv dv k ∨ w.heap.size ≤ k := by
  obtain ⟨k1, k2, k3⟩ := mt_some hm
  rw [settle_some hm] at hr2
  obtain ⟨i, hi⟩ : ∃ i, (x.dev - 1).toNat = i := ⟨_, rfl⟩
  rw [hi] at k3 hr2
  have hi2 : x.dev - 1 = (i : Int) := by omega
  have hi3 : (i : Int) < st.d.length := by omega
  have hi4 : (0 : Int) ≤ (i : Int) := by omega
  have hi5 : i < st.d.length := by omega
  have hi6 : IntKind.i64.wrap (x.dev - 1) = (i : Int) := by rw [hi2]; exact wrap_id (by omega) (by omega)
  have hi7 : IntKind.i64.wrap (i : Int) = (i : Int) := wrap_id (by omega) (by omega)
  obtain ⟨z0, z1⟩ := blk_range x hd
  obtain ⟨zn, hzn⟩ : ∃ zn, -blk x = zn := ⟨_, rfl⟩
  have hw1 : IntKind.i64.wrap (-blk x) = zn := by rw [hzn]; exact wrap_id (by omega) (by omega)
  rw [hzn] at hr2
  have HM1 := Lib.hid hr1
  have HM2 := Lib.hid hr2
  have c1 := refGet_any h k (by omega)
  rw [gets_some hx] at c1
  have hno : x.no = k := (get_some hx).2
  have cr := fun W (hW : Fs B F nv dv st W) => refRoot_any hW x.dev hdl
  rw [rootOf_some hm] at cr
  have cb := fun W => U.refBlocks_any x.kind x.data.size (by omega) W
  have ct := fun W => U.refTake_any m.q zn (-1) W
  have hxx : U.blk x.kind x.data.size = blk x := rfl
  rw [hxx] at cb
  have hHI := Lib.hid k3
  obtain ⟨g, cap, rfl, _⟩ := h.mount k3
  have hMT := fun W (hW : Fs B F nv (.slice (some ⟨g, 0, none⟩) st.d.length cap) st W) => hW.mount k3
  have ca := fun W (hW : Fs B F nv (.slice (some ⟨g, 0, none⟩) st.d.length cap) ⟨st.last, st.n, st.d.set i { m with q := (U.took m.q zn (-1)).1 }⟩ W) (hBW : B ≤ W.heap.size) => refAway_any hW k hBW (Nat.le_of_lt (Nat.lt_of_lt_of_le hlen (by decide)))
  have HH := Lib.hid h
  have hnv : ∀ g, nv.ownBlock = some g → g < w.heap.size := fun g hg => h.lt (fS_row hg)
  have HNV := Lib.hid hnv
  clear hr1 hr2 h hxx k1 k2 k3 hm hdl hlen hi hd hx hzn hnv z0 z1
  generalize blk x = z at *
  generalize (U.took m.q zn (-1)).1 = q' at *
  generalize (U.took m.q zn (-1)).2 = er at *
  obtain ⟨mr, mc, q⟩ := m
  obtain ⟨qb, qn, qm, qk⟩ := q
  have HMT := Lib.hid hMT
  obtain ⟨no, dev, kind, mode, uid, gid, mt, ct', links, up, data, es⟩ := x
  dsimp only [T.Nd.v, U.Sp.v] at *
  subst hno
  have hk0' : (no == 0) = false := by simpa using hk0
  clear hMT
  go_enter Try.func9, Try.ntmps9
  go_upto_region 2 with (go_at_call 30; refine c1.mono ?_; rintro e w3 ⟨u, rfl, hO, hb3⟩; obtain ⟨ou, cu, rfl⟩ := T.own_slice hO; have B3 := T.BoxN.new ⟨no, dev, kind, mode, uid, gid, mt, ct', links, up, data, es⟩ (.slice ou es.length cu) w3)
  have hb1 : Below w.heap.size w (w3.alloc (.cells #[.int .i64 no, .int .i64 dev, .int .i64 kind, .int .i64 mode, .int .i64 uid, .int .i64 gid, .int .i64 mt, .int .i64 ct', .int .i64 links, .int .i64 up, .string data, .slice ou es.length cu] 71)) := hb3.alloc hb3.size _
  generalize w3.alloc (.cells #[.int .i64 no, .int .i64 dev, .int .i64 kind, .int .i64 mode, .int .i64 uid, .int .i64 gid, .int .i64 mt, .int .i64 ct', .int .i64 links, .int .i64 up, .string data, .slice ou es.length cu] 71) = W1 at B3 hb1 ⊢
  have hb0 : w.heap.size ≤ w3.heap.size := hb3.size
  generalize w3.heap.size = b0 at B3 hb0 ⊢
  have hnv : ∀ g, nv.ownBlock = some g → g ≠ b0 := fun g hg => by have := HNV.out g hg; omega
  have HNW := Lib.hid hnv
  have H := HH.out.below hb1
  clear c1 hO hb3 HNV hnv
  have cr1 := cr W1 H
  obtain ⟨a0, a1, _⟩ := B3.facts
  dsimp only at a0 a1
  by_cases hr : mr = no
  · obtain rfl := HM1.out hr
    subst hr
    go_wp2_with (go_at_call 31; refine cr1.mono ?_; rintro e w1 ⟨rfl, rfl⟩)
    go_ret
    exact ⟨rfl, nv, H, Turn.of_below hb1, fun k hk => .inl hk⟩
  have hr' : (mr == no) = false := by simpa using hr
  obtain rfl := HM2.out hr
  have HMT2 := HMT.out W1 H
  obtain ⟨g', cap', he, q0, q2, q3, q4, q5, qf⟩ := HMT2
  cases he
  go_upto_region 4 with (go_at_call 31; refine cr1.mono ?_; rintro e w1 ⟨rfl, rfl⟩)
  have kw : Nine b0 F g (i * 6) ⟨no, dev, kind, mode, uid, gid, mt, ct', links, up, data, es⟩ (.slice (some ⟨g, 0, none⟩) st.d.length cap) ⟨qb, qn, qm, qk⟩ W1 := ⟨a1, B3.facts.2.2.1, B3.facts.2.2.2.2.2.2.2.2.2.2.1, H.facts.2.1, q2, q3, q4, q5⟩
  have kp := kw.drew
  have hbl := B3.lt
  have hFl := H.ltF
  have hgl : g < W1.heap.size := World.block_lt_of_cell? _ _ q0
  clear q0 q2 q3 q4 q5 a0 a1 cr cr1 HMT
  go_cut [6, 7] (fun s6 s7 wx => ∃ Y, s6 = .pointer (some ⟨Y, 0, none⟩) ∧ s7 = .int .i64 er ∧ U.Box4 Y q' wx ∧ W1.heap.size ≤ Y ∧ Below W1.heap.size W1 wx)
  case first =>
    go_region_held3 (fun w' => w'.cell? ⟨b0, 1, none⟩ = some (.int .i64 dev) ∧ w'.cell? ⟨b0, 2, none⟩ = some (.int .i64 kind) ∧ w'.cell? ⟨b0, 10, none⟩ = some (.string data) ∧ w'.cell? ⟨F, 1, none⟩ = some (.slice (some ⟨g, 0, none⟩) st.d.length cap) ∧
        w'.cell? ⟨g, i * 6 + 2, none⟩ = some (.int .i64 qb) ∧ w'.cell? ⟨g, i * 6 + 2 + 1, none⟩ = some (.int .i64 qn) ∧ w'.cell? ⟨g, i * 6 + 2 + 2, none⟩ = some (.int .i64 qm) ∧ w'.cell? ⟨g, i * 6 + 2 + 3, none⟩ = some (.int .i64 qk))
      (with_reducible first | exact Nine.all kq | exact Nine.all (Nine.alloc kq _) | exact Nine.all kp | exact Nine.all (Nine.drew (Nine.alloc kw _)) | exact Nine.all (Nine.later kq ((U.Box4.put (q := ⟨0, 0, 0, 0⟩) nb rfl).2 _ (Nat.le_refl _)) hbl hFl hgl))
      (first
        | (go_at_call 33; refine (cb _).mono ?_; rintro e w2 ⟨rfl, rfl⟩)
        | (go_at_call 32; refine (ct _).mono ?_; rintro e w2 ⟨rfl, bb2⟩; have kq : Nine b0 F g (i * 6) ⟨no, dev, kind, mode, uid, gid, mt, ct', links, up, data, es⟩ (.slice (some ⟨g, 0, none⟩) st.d.length cap) ⟨qb, qn, qm, qk⟩ w2 := (by with_reducible exact Nine.next kp bb2))
        | (go_at_call 32; refine (ct _).mono ?_; rintro e w2 ⟨rfl, bb2⟩; have kq : Nine b0 F g (i * 6) ⟨no, dev, kind, mode, uid, gid, mt, ct', links, up, data, es⟩ (.slice (some ⟨g, 0, none⟩) st.d.length cap) ⟨qb, qn, qm, qk⟩ w2 := (by with_reducible exact Nine.next (Nine.drew (Nine.alloc kw _)) bb2); have nn := new_box (q := ⟨0, 0, 0, 0⟩) bb2; obtain ⟨nb, no⟩ := nn; have na := nb; obtain ⟨n0, n1, n2, n3⟩ := na; obtain ⟨z0, z1, z2, z3⟩ := no))
    all_goals
      go_wp2_with fail
      go_meet
      case rel =>
        first
        | (have h1 := below_two ((Below.refl W1.heap.size W1).drew) bb2
           exact ⟨w2.heap.size, rfl, rfl, U.Box4.new w2 q' 53, h1.size, h1.alloc h1.size _⟩)
        | (have h1 := below_two ((Below.refl W1.heap.size W1).alloc (Nat.le_refl _) _).drew bb2
           have h2 := U.Box4.put (q := ⟨0, 0, 0, 0⟩) (x := q'.b) (y := q'.n) (z := q'.mb) (u := q'.mn) nb rfl
           exact ⟨W1.heap.size, rfl, rfl, h2.1, Nat.le_refl _, h1.trans (h2.2 _ (Nat.le_refl _))⟩)
  case rest =>
    obtain ⟨Y, rfl, rfl, bY, hY, hbc⟩ := hcut
    have kc := kw.next hbc
    have Hc := H.below hbc
    have tc := (Turn.of_below (S := fS F nv (.slice (some ⟨g, 0, none⟩) st.d.length cap)) (w := w) hb1).next hbc
    have Bc := B3.below hbc
    have hBc : B ≤ wc.heap.size := by have := tc.size; omega
    have qf' := fun j => (hbc.frozen (p := ⟨g, j, none⟩) hgl).trans (qf j)
    clear kp kw H B3 hb1 qf cb ct hbl hFl hgl hY
    have f2 := qf' (i * 6 + 2)
    have f3 := qf' (i * 6 + 2 + 1)
    have f4 := qf' (i * 6 + 2 + 2)
    have f5 := qf' (i * 6 + 2 + 3)
    obtain ⟨y0, y1, y2, y3⟩ := bY
    obtain ⟨c0, c1, c2, c3, c4, c5, c6, c7⟩ := kc
    dsimp only at c0 c1 c2 c4 c5 c6 c7
    clear qf'
    go_upto_region 5 with fail
    go_region
    obtain ⟨H6, t6⟩ := Hc.spaced rfl hHI.out q'
    have H7 := H6.drew
    have t7 := (tc.trans (t6.mono fun _ e => fS_dev e)).next ((Below.refl _ _).drew)
    have hw : ((((wc.setCell ⟨g, i * 6 + 2, none⟩ (.int .i64 q'.b)).setCell ⟨g, i * 6 + 2 + 1, none⟩ (.int .i64 q'.n)).setCell ⟨g, i * 6 + 2 + 2, none⟩ (.int .i64 q'.mb)).setCell ⟨g, i * 6 + 2 + 3, none⟩ (.int .i64 q'.mn)).drew = (putq wc g (i * 6) q').drew := rfl
    rw [hw]
    clear hw H6 t6 Hc tc Bc y0 y1 y2 y3 c0 c1 c2 c3 c4 c5 c6 c7 f2 f3 f4 f5 hi2 hi3 hi4 hi5 hi6 hi7
    generalize (putq wc g (i * 6) q').drew = W7 at *
    have ca7 := ca W7 H7 (by have := t7.size; omega)
    have HT := Lib.hid t7
    clear ca H7 t7
    go_wp2_with (go_at_call 34; refine ca7.mono ?_; rintro e w8 ⟨rfl, nv', H8, t8, k8⟩)
    go_ret
    exact ⟨rfl, nv', H8, HT.out.trans t8, fun k hk => (k8 k hk).imp id fun h => by have := HT.out.size; omega⟩
theorem refKill_any (hI : Inv st) (h : Fs B F nv dv st w) (k : Int) (hB : B ≤ w.heap.size) (hlen : st.n.length < 900000) :
    Calls Try.prog 9 #[.pointer (some ⟨F, 0, none⟩), .int .i64 k] w fun e w' =>
    e = .returned (.bool (kill st k).2) ∧ ∃ nv', Fs B F nv' dv (kill st k).1 w' ∧ Turn (fS F nv dv) w w' ∧ ∀ k, fS F nv' dv k → fS F nv dv k ∨ w.heap.size ≤ k := by
  have hdl := hI.mounts
  cases hx : get st.n k with
  | none =>
    rw [kill_no (.inl (by rw [hx]; rfl))]
    refine (refKill_none h k hx (by omega)).mono ?_
    rintro e w' ⟨rfl, hb⟩
    exact ⟨rfl, nv, h.below hb, Turn.of_below hb, fun k hk => .inl hk⟩
  | some x =>
    obtain ⟨hmem, hno⟩ := get_some hx
    obtain ⟨m, hm⟩ := hI.mtOf hmem
    have hk1 := (hI.given x hmem).1
    have hroot := hI.root_iff hx
    rw [rootOf_some hm] at hroot
    refine refKill_some h k hx (by omega) hm (hI.data x hmem) hB (by omega) hlen _ (fun e => kill_no (.inr (hroot.2 e))) fun e => ?_
    rw [kill_yes (by rw [hx]; rfl) (by
      cases hb : isRoot st.d k with
      | false => rfl
      | true => exact absurd (hroot.1 hb) e), gets_some hx, taken_some hm]
end
end Go.Proofs.Ytmoimijclafgcaa.G
