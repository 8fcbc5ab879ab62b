/-
  The reference's Make.
-/
import Derived.Test.YtenopnfclbegbaaGreatRone
import Derived.Deep.DeepCutAuto
namespace Go.Proofs.YtenopnfclbegbaaGreat.G
open Go.RowKit Go.Shelf
attribute [local go_sem] Oper.semAt_some

/-- the eight cells that a taking reads -/
def Nine (b F g o : Nat) (n : T.Nd) (dv : Value) (q : U.Sp) (w : World) : Prop :=
  w.cell? ⟨b, 1, none⟩ = some (.int .i64 n.dev) ∧ w.cell? ⟨b, 2, none⟩ = some (.int .i64 n.kind) ∧ w.cell? ⟨b, 10, none⟩ = some (.string n.data) ∧ w.cell? ⟨F, 1, none⟩ = some dv ∧
  w.cell? ⟨g, o + 2, none⟩ = some (.int .i64 q.b) ∧ w.cell? ⟨g, o + 2 + 1, none⟩ = some (.int .i64 q.n) ∧ w.cell? ⟨g, o + 2 + 2, none⟩ = some (.int .i64 q.mb) ∧ w.cell? ⟨g, o + 2 + 3, none⟩ = some (.int .i64 q.mn)
section
variable {b F g o m : Nat} {n : T.Nd} {dv : Value} {q : U.Sp} {w w' : World}
theorem Nine.all (c : Nine b F g o n dv q w) : w.cell? ⟨b, 1, none⟩ = some (.int .i64 n.dev) ∧ w.cell? ⟨b, 2, none⟩ = some (.int .i64 n.kind) ∧ w.cell? ⟨b, 10, none⟩ = some (.string n.data) ∧ w.cell? ⟨F, 1, none⟩ = some dv ∧
  w.cell? ⟨g, o + 2, none⟩ = some (.int .i64 q.b) ∧ w.cell? ⟨g, o + 2 + 1, none⟩ = some (.int .i64 q.n) ∧ w.cell? ⟨g, o + 2 + 2, none⟩ = some (.int .i64 q.mb) ∧ w.cell? ⟨g, o + 2 + 3, none⟩ = some (.int .i64 q.mn) := c
theorem Nine.later (c : Nine b F g o n dv q w) (hb : Below m w w') (l0 : b < m) (l1 : F < m) (l2 : g < m) : Nine b F g o n dv q w' := by
  obtain ⟨c0, c1, c2, c3, c4, c5, c6, c7⟩ := c
  refine ⟨?_, ?_, ?_, ?_, ?_, ?_, ?_, ?_⟩ <;> rw [hb.cell (by assumption)] <;> assumption
theorem Nine.next (c : Nine b F g o n dv q w) (hb : Below w.heap.size w w') : Nine b F g o n dv q w' :=
  c.later hb (World.block_lt_of_cell? _ _ c.1) (World.block_lt_of_cell? _ _ c.2.2.2.1) (World.block_lt_of_cell? _ _ c.2.2.2.2.1)
theorem Nine.alloc (c : Nine b F g o n dv q w) (x : Obj) : Nine b F g o n dv q (w.alloc x) := c.next ((Below.refl _ w).alloc (Nat.le_refl _) x)
theorem Nine.drew (c : Nine b F g o n dv q w) : Nine b F g o n dv q w.drew := c.next ((Below.refl _ w).drew)
end
theorem Open4.next {b : Nat} {w w' : World} (c : U.Open4 b w) (hl : b < w.heap.size) (hb : Below w.heap.size w w') : U.Open4 b w' := c.later hb hl
/-- a box that was made before a call, behind the call -/
theorem new_box {w w2 : World} {q : U.Sp} {t : TypeId} (hb : Below ((w.alloc (.cells #[.int .i64 q.b, .int .i64 q.n, .int .i64 q.mb, .int .i64 q.mn] t)).drew).heap.size ((w.alloc (.cells #[.int .i64 q.b, .int .i64 q.n, .int .i64 q.mb, .int .i64 q.mn] t)).drew) w2) :
    U.Box4 w.heap.size q w2 ∧ U.Open4 w.heap.size w2 := by
  have hl : w.heap.size < ((w.alloc (.cells #[.int .i64 q.b, .int .i64 q.n, .int .i64 q.mb, .int .i64 q.mn] t)).drew).heap.size := (U.Box4.drew (U.Box4.new w q t)).lt
  exact ⟨U.Box4.next (U.Box4.drew (U.Box4.new w q t)) hb, Open4.next (U.Open4.later (U.Open4.new w t _) ((Below.refl _ _).drew) (U.Box4.new w q t).lt) hl hb⟩
theorem raw_set (d : List Mt) (i : Nat) (m m' : Mt) (q : U.Sp) (hd : d[i]? = some m) (hr : (raw d)[i]? = some m') : (raw d).set i { m' with q := q } = raw (d.set i { m with q := q }) := by
  cases d with
  | nil => cases hd
  | cons x r =>
    cases i with
    | zero =>
      simp [raw] at hd hr ⊢
      subst hd hr
      simp
    | succ i =>
      simp [raw] at hd hr ⊢
      rw [hd] at hr
      cases hr
      rfl
theorem raw_some {d : List Mt} {i : Nat} {m : Mt} (h : d[i]? = some m) : ∃ m', (raw d)[i]? = some m' ∧ m'.root = m.root ∧ m'.q = m.q := by
  rw [raw_at]
  split
  · rename_i e
    subst e
    rw [h]
    exact ⟨_, rfl, rfl, rfl⟩
  · exact ⟨m, h, rfl, rfl⟩
section
variable {B F : Nat} {ex : Ext} {nv nv' dv : Value} {st : St} {w w' : World}
/-- the reference's mounts turn, in their place -/
theorem Fs.deved (h : Fs ex B F nv dv st w) {d : List Mt} (hR : MRow B 112 dv (raw d) w') (hT : Turn (fun b => dv.ownBlock = some b) w w') : Fs ex B F nv dv ⟨st.last, st.n, d⟩ w' := by
  obtain ⟨l, h1, h2, h3⟩ := h.nodes
  have hE : T.EntKept w w' := h.entKept (hT.mono fun _ e => fS_dev e)
  refine ⟨h.bf, ?_, ⟨l, h1, row_same h2 fun g hg => ?_, fun p hp => T.own_kept (h3 p hp) hE⟩, hR⟩
  · refine (hT.block F h.ltF fun e => ?_).trans h.head
    obtain ⟨_, cur, hc⟩ := h.devs.block e
    exact ne_type h.head hc (by decide) rfl
  · obtain ⟨_, cur, hc⟩ := row_block h2 hg
    refine hT.block g (Array.getElem?_eq_some_iff.1 hc).1 fun e => ?_
    obtain ⟨_, cur', hc'⟩ := h.devs.block e
    exact ne_type hc hc' (by decide) rfl
/-- a mount's space is written -/
theorem Fs.spaced (h : Fs ex B F nv dv st w) {g cap i : Nat} {m : Mt} (hg : dv = .slice (some ⟨g, 0, none⟩) st.d.length cap) (hi : st.d[i]? = some m) (q : U.Sp) :
    Fs ex B F nv dv ⟨st.last, st.n, st.d.set i { m with q := q }⟩ (putq w g (i * 6) q) ∧ Turn (fun b => dv.ownBlock = some b) w (putq w g (i * 6) q) := by
  obtain ⟨m', h1, h2, h3⟩ := raw_some hi
  have hg' : dv = .slice (some ⟨g, 0, none⟩) (raw st.d).length cap := by rw [length_raw]; exact hg
  obtain ⟨hR, hgr⟩ := MRow.putq (hg' ▸ h.devs : MRow B 112 (.slice (some ⟨g, 0, none⟩) (raw st.d).length cap) (raw st.d) w) h1 q
  have ht : Turn (fun b => dv.ownBlock = some b) w (putq w g (i * 6) q) := Turn.of_grown hgr (by rw [hg]; rfl)
  rw [raw_set _ _ _ _ _ hi h1] at hR
  exact ⟨h.deved (hg' ▸ hR) ht, ht⟩
theorem Fs.mount (h : Fs ex B F nv dv st w) {i : Nat} {m : Mt} (hi : st.d[i]? = some m) : ∃ g cap, dv = .slice (some ⟨g, 0, none⟩) st.d.length cap ∧ w.cell? ⟨g, i * 6, none⟩ = some (.int .i64 m.root) ∧
    w.cell? ⟨g, i * 6 + 2, none⟩ = some (.int .i64 m.q.b) ∧ w.cell? ⟨g, i * 6 + 2 + 1, none⟩ = some (.int .i64 m.q.n) ∧ w.cell? ⟨g, i * 6 + 2 + 2, none⟩ = some (.int .i64 m.q.mb) ∧ w.cell? ⟨g, i * 6 + 2 + 3, none⟩ = some (.int .i64 m.q.mn) ∧ ∀ j, w.frozen? ⟨g, j, none⟩ = false := by
  obtain ⟨m', h1, h2, h3⟩ := raw_some hi
  obtain ⟨g, cap, he, hat⟩ := h.devs.at h1
  have hf := fun j => MRow.frozen (he ▸ h.devs : MRow B 112 (.slice (some ⟨g, 0, none⟩) (raw st.d).length cap) (raw st.d) w) j
  rw [length_raw] at he
  obtain ⟨c0, c1, c2, c3, c4, c5⟩ := hat
  rw [h2] at c0
  rw [h3] at c2 c3 c4 c5
  exact ⟨g, cap, he, c0, c2, c3, c4, c5, hf⟩
end
end Go.Proofs.YtenopnfclbegbaaGreat.G
/-
  The reference's Make, walked.
-/
namespace Go.Proofs.YtenopnfclbegbaaGreat.G
open Go.RowKit Go.Shelf
attribute [local go_sem] Oper.semAt_some

section
variable {B F : Nat} {ex : Ext} {nv nv' dv : Value} {st : St} {w w' : World}
theorem rootOf_none {d : List Mt} {k : Int} (h : mt d k = none) : rootOf d k = 0 := by unfold rootOf; rw [h]
theorem rootOf_some {d : List Mt} {k : Int} {m : Mt} (h : mt d k = some m) : rootOf d k = m.root := by unfold rootOf; rw [h]
theorem make_err {st : St} {x : T.Nd} (h : terr st.d x.dev (blk x) 1 ≠ 0) : make st x = (st, 0, terr st.d x.dev (blk x) 1) := by unfold make; rw [if_neg h]
theorem make_ok {st : St} {x : T.Nd} (h : terr st.d x.dev (blk x) 1 = 0) : make st x = (⟨st.last + 1, st.n ++ [x.as (st.last + 1)], taken st.d x.dev (blk x) 1⟩, st.last + 1, 0) := by unfold make; rw [if_pos h]
set_option maxRecDepth 100000 in
set_option maxHeartbeats 8000000 in
theorem refMake_none (h : Fs ex B F nv dv st w) (n : T.Nd) (s : Value) (hs : T.Slc s) (hm : mt st.d n.dev = none) (hdl : st.d.length ≤ 1000000) :
    Calls Tryz.prog 49 #[.pointer (some ⟨F, 0, none⟩), n.v s] w fun e w' => e = .returned (.tuple #[.int .i64 0, .int .i64 1]) ∧ Below w.heap.size w w' := by
  have hb1 : Below w.heap.size w (w.alloc (.cells #[.int .i64 n.no, .int .i64 n.dev, .int .i64 n.kind, .int .i64 n.mode, .int .i64 n.uid, .int .i64 n.gid, .int .i64 n.mt, .int .i64 n.ct, .int .i64 n.links, .int .i64 n.up, .string n.data, s] 48)) := (Below.refl _ _).alloc (Nat.le_refl _) _
  have cr := refRoot_any (h.below hb1) n.dev hdl
  rw [rootOf_none hm] at cr
  have HB := Lib.hid hb1
  clear h hdl hm hb1
  obtain ⟨os, ms, cs, rfl⟩ := hs
  obtain ⟨no, dev, kind, mode, uid, gid, mt, ct, links, up, data, es⟩ := n
  dsimp only [T.Nd.v] at *
  go_enter Tryz.func49, Tryz.ntmps49
  go_wp2_with (go_at_call 60; refine cr.mono ?_; rintro e w1 ⟨rfl, rfl⟩)
  go_ret2
  exact ⟨rfl, HB.out⟩
set_option maxRecDepth 100000 in
set_option maxHeartbeats 8000000 in
theorem refMake_some (h : Fs ex B F nv dv st w) (n : T.Nd) (s : Value) (hS : E.Own B s n.es w) {m : Mt} (hm : mt st.d n.dev = some m) (h0m : m.root ≠ 0) (hd : n.data.size ≤ 2000000) (hB : B ≤ w.heap.size) (hdl : st.d.length ≤ 1000000) (hlen : st.n.length < 900000) (hl0 : 0 ≤ st.last) (hlast : st.last < 900000) :
    Calls Tryz.prog 49 #[.pointer (some ⟨F, 0, none⟩), n.v s] w fun e w' =>
    e = .returned (.tuple #[.int .i64 (make st n).2.1, .int .i64 (make st n).2.2]) ∧ ∃ nv', Fs ex B F nv' dv (make st n).1 w' ∧ Turn (fS F nv dv) w w' ∧ ∀ k, fS F nv' dv k → fS F nv dv k ∨ w.heap.size ≤ k := by
  obtain ⟨k1, k2, k3⟩ := mt_some hm
  obtain ⟨i, hi⟩ : ∃ i, (n.dev - 1).toNat = i := ⟨_, rfl⟩
  rw [hi] at k3
  have hi2 : n.dev - 1 = (i : Int) := by omega
  have hi3 : (i : Int) < st.d.length := by omega
  have hi4 : (0 : Int) ≤ (i : Int) := by omega
  have hi5 : i < st.d.length := by omega
  have hi6 : IntKind.i64.wrap (n.dev - 1) = (i : Int) := by rw [hi2]; exact wrap_id (by omega) (by omega)
  have hi7 : IntKind.i64.wrap (i : Int) = (i : Int) := wrap_id (by omega) (by omega)
  have HM1 := Lib.hid (@make_err st n)
  have HM2 := Lib.hid (@make_ok st n)
  obtain ⟨r, hr⟩ : ∃ r, make st n = r := ⟨_, rfl⟩
  rw [hr] at HM1 HM2 ⊢
  rw [terr_some hm, taken_some hm, settle_some hm, hi] at HM2
  rw [terr_some hm] at HM1
  have hb1 : Below w.heap.size w (w.alloc (.cells #[.int .i64 n.no, .int .i64 n.dev, .int .i64 n.kind, .int .i64 n.mode, .int .i64 n.uid, .int .i64 n.gid, .int .i64 n.mt, .int .i64 n.ct, .int .i64 n.links, .int .i64 n.up, .string n.data, s] 48)) := (Below.refl _ _).alloc (Nat.le_refl _) _
  have B1 := T.BoxN.new n s w
  have H := h.below hb1
  have hS1 := T.own_kept hS (T.EntKept.below hb1)
  have cr := refRoot_any H n.dev hdl
  rw [rootOf_some hm] at cr
  have cb := fun W => U.refBlocks_any n.kind n.data.size (by omega) W
  have ct := fun W => U.refTake_any m.q (blk n) 1 W
  have hx : U.blk n.kind n.data.size = blk n := rfl
  rw [hx] at cb
  have hHI := Lib.hid k3
  have hnv : ∀ g, nv.ownBlock = some g → g ≠ w.heap.size := fun g hg => by
    have := h.lt (fS_row hg)
    omega
  have HNV := Lib.hid hnv
  obtain ⟨os, cs, rfl⟩ := T.own_slice hS
  obtain ⟨g, cap, rfl, q0, q2, q3, q4, q5, qf⟩ := H.mount k3
  have ca := fun W (hW : Fs ex B F nv (.slice (some ⟨g, 0, none⟩) st.d.length cap) ⟨st.last, st.n, st.d.set i { m with q := (U.took m.q (blk n) 1).1 }⟩ W) (hS : E.Own B (.slice os n.es.length cs) n.es W) (hBW : B ≤ W.heap.size) => refAdd_any hW n (.slice os n.es.length cs) hS hBW hlen hl0 hlast
  clear h hS hx hr k1 k2 k3 hm hdl hlen hl0 hlast hi hd hnv
  generalize blk n = z at *
  generalize (U.took m.q z 1).1 = q' at *
  generalize (U.took m.q z 1).2 = er at *
  obtain ⟨mr, mc, q⟩ := m
  obtain ⟨qb, qn, qm, qk⟩ := q
  have HD := Lib.hid hHI
  obtain ⟨no, dev, kind, mode, uid, gid, mt, ct', links, up, data, es⟩ := n
  dsimp only [T.Nd.v, U.Sp.v] at *
  have h0m' : (mr == 0) = false := by simpa using h0m
  go_enter Tryz.func49, Tryz.ntmps49
  go_upto_region 1 with fail
  generalize w.alloc (.cells #[.int .i64 no, .int .i64 dev, .int .i64 kind, .int .i64 mode, .int .i64 uid, .int .i64 gid, .int .i64 mt, .int .i64 ct', .int .i64 links, .int .i64 up, .string data, .slice os es.length cs] 48) = W1 at *
  obtain ⟨b0, hbd⟩ : ∃ b, w.heap.size = b := ⟨_, rfl⟩
  rw [hbd] at B1 HNV ⊢
  have HBd := Lib.hid hbd
  clear hbd
  have a1 := B1.facts.2.1
  dsimp only at a1
  go_upto_region 3 with (go_at_call 60; refine cr.mono ?_; rintro e w1 ⟨rfl, rfl⟩)
  have kw : Nine b0 F g (i * 6) ⟨no, dev, kind, mode, uid, gid, mt, ct', links, up, data, es⟩ (.slice (some ⟨g, 0, none⟩) st.d.length cap) ⟨qb, qn, qm, qk⟩ W1 := ⟨a1, B1.facts.2.2.1, B1.facts.2.2.2.2.2.2.2.2.2.2.1, H.facts.2.1, q2, q3, q4, q5⟩
  have kp := kw.drew
  have hbl := B1.lt
  have hFl := H.ltF
  have hgl : g < W1.heap.size := World.block_lt_of_cell? _ _ q0
  clear q0 q2 q3 q4 q5 a1 cr
  go_cut [6, 7] (fun s6 s7 wx => ∃ Y, s6 = .pointer (some ⟨Y, 0, none⟩) ∧ s7 = .int .i64 er ∧ U.Box4 Y q' wx ∧ W1.heap.size ≤ Y ∧ Below W1.heap.size W1 wx)
  case first =>
    go_region_held3 (fun w' => w'.cell? ⟨b0, 1, none⟩ = some (.int .i64 dev) ∧ w'.cell? ⟨b0, 2, none⟩ = some (.int .i64 kind) ∧ w'.cell? ⟨b0, 10, none⟩ = some (.string data) ∧ w'.cell? ⟨F, 1, none⟩ = some (.slice (some ⟨g, 0, none⟩) st.d.length cap) ∧
        w'.cell? ⟨g, i * 6 + 2, none⟩ = some (.int .i64 qb) ∧ w'.cell? ⟨g, i * 6 + 2 + 1, none⟩ = some (.int .i64 qn) ∧ w'.cell? ⟨g, i * 6 + 2 + 2, none⟩ = some (.int .i64 qm) ∧ w'.cell? ⟨g, i * 6 + 2 + 3, none⟩ = some (.int .i64 qk))
      (with_reducible first | exact Nine.all kq | exact Nine.all (Nine.alloc kq _) | exact Nine.all kp | exact Nine.all (Nine.drew (Nine.alloc kw _)) | exact Nine.all (Nine.later kq ((U.Box4.put (q := ⟨0, 0, 0, 0⟩) nb rfl).2 _ (Nat.le_refl _)) hbl hFl hgl))
      (first
        | (go_at_call 86; refine (cb _).mono ?_; rintro e w2 ⟨rfl, rfl⟩)
        | (go_at_call 85; refine (ct _).mono ?_; rintro e w2 ⟨rfl, bb2⟩; have kq : Nine b0 F g (i * 6) ⟨no, dev, kind, mode, uid, gid, mt, ct', links, up, data, es⟩ (.slice (some ⟨g, 0, none⟩) st.d.length cap) ⟨qb, qn, qm, qk⟩ w2 := (by with_reducible exact Nine.next kp bb2))
        | (go_at_call 85; refine (ct _).mono ?_; rintro e w2 ⟨rfl, bb2⟩; have kq : Nine b0 F g (i * 6) ⟨no, dev, kind, mode, uid, gid, mt, ct', links, up, data, es⟩ (.slice (some ⟨g, 0, none⟩) st.d.length cap) ⟨qb, qn, qm, qk⟩ w2 := (by with_reducible exact Nine.next (Nine.drew (Nine.alloc kw _)) bb2); have nn := new_box (q := ⟨0, 0, 0, 0⟩) bb2; obtain ⟨nb, no⟩ := nn; have na := nb; obtain ⟨n0, n1, n2, n3⟩ := na; obtain ⟨z0, z1, z2, z3⟩ := no))
    all_goals
      go_wp2_with fail
      go_meet
      case rel =>
        first
        | (have h1 := below_two ((Below.refl W1.heap.size W1).drew) bb2
           exact ⟨w2.heap.size, rfl, rfl, U.Box4.new w2 q' 110, h1.size, h1.alloc h1.size _⟩)
        | (have h1 := below_two ((Below.refl W1.heap.size W1).alloc (Nat.le_refl _) _).drew bb2
           have h2 := U.Box4.put (q := ⟨0, 0, 0, 0⟩) (x := q'.b) (y := q'.n) (z := q'.mb) (u := q'.mn) nb rfl
           exact ⟨W1.heap.size, rfl, rfl, h2.1, Nat.le_refl _, h1.trans (h2.2 _ (Nat.le_refl _))⟩)
  case rest =>
    obtain ⟨Y, rfl, rfl, bY, hY, hbc⟩ := hcut
    have kc := kw.next hbc
    have Hc := H.below hbc
    have tc := (Turn.of_below (S := fS F nv (.slice (some ⟨g, 0, none⟩) st.d.length cap)) (w := w) hb1).next hbc
    have Bc := B1.below hbc
    have hSc := T.own_kept hS1 (T.EntKept.below hbc)
    have hBc : B ≤ wc.heap.size := by have := tc.size; omega
    have qf' := fun j => (hbc.frozen (p := ⟨g, j, none⟩) hgl).trans (qf j)
    clear kp kw H B1 hS1 hb1 qf cb ct hbl hFl hgl hY
    by_cases he : er = 0
    · subst he
      obtain rfl := HM2.out rfl
      have f2 := qf' (i * 6 + 2)
      have f3 := qf' (i * 6 + 2 + 1)
      have f4 := qf' (i * 6 + 2 + 2)
      have f5 := qf' (i * 6 + 2 + 3)
      obtain ⟨y0, y1, y2, y3⟩ := bY
      obtain ⟨c0, c1, c2, c3, c4, c5, c6, c7⟩ := kc
      dsimp only at c0 c1 c2 c4 c5 c6 c7
      clear qf'
      go_upto_region 6 with fail
      go_region
      obtain ⟨H6, t6⟩ := Hc.spaced rfl hHI.out q'
      have H7 := H6.drew
      have D6 : T.BoxN b0 _ _ _ := (t6.block b0 Bc.lt (fun e => Hc.notBox Bc HNV.out (fS_dev e))).trans Bc
      have D7 := D6.below ((Below.refl _ _).drew)
      have hS7 : E.Own B _ es _ := (T.own_kept hSc (Hc.entKept (t6.mono fun _ e => fS_dev e))).below ((Below.refl _ _).drew)
      have t7 := (tc.trans (t6.mono fun _ e => fS_dev e)).next ((Below.refl _ _).drew)
      have hw : ((((wc.setCell ⟨g, i * 6 + 2, none⟩ (.int .i64 q'.b)).setCell ⟨g, i * 6 + 2 + 1, none⟩ (.int .i64 q'.n)).setCell ⟨g, i * 6 + 2 + 2, none⟩ (.int .i64 q'.mb)).setCell ⟨g, i * 6 + 2 + 3, none⟩ (.int .i64 q'.mn)).drew = (putq wc g (i * 6) q').drew := rfl
      rw [hw]
      clear hw D6 H6 t6 Hc tc Bc hSc y0 y1 y2 y3 c0 c1 c2 c3 c4 c5 c6 c7 f2 f3 f4 f5 hi2 hi3 hi4 hi5 hi6 hi7
      generalize (putq wc g (i * 6) q').drew = W7 at *
      have ca7 := ca W7 H7 hS7 (by have := t7.size; omega)
      obtain ⟨a0, a1, a2, a3, a4, a5, a6, a7, a8, a9, a10, a11⟩ := D7.facts
      dsimp only at a0 a1 a2 a3 a4 a5 a6 a7 a8 a9 a10 a11
      have HT := Lib.hid t7
      clear ca H7 hS7 t7 D7
      go_wp2_with (go_at_call 79; refine ca7.mono ?_; rintro e w8 ⟨rfl, nv', H8, t8, k8⟩)
      go_ret2
      exact ⟨rfl, nv', H8, HT.out.trans t8, fun k hk => (k8 k hk).imp id fun h => by have := HT.out.size; have e := HBd.out; omega⟩
    · obtain rfl := HM1.out he
      have he' : (er == 0) = false := by simpa using he
      go_wp2
      go_ret2
      exact ⟨rfl, nv, Hc, tc, fun k hk => .inl hk⟩
end
end Go.Proofs.YtenopnfclbegbaaGreat.G
/-
  The reference's Kill.
-/
namespace Go.Proofs.YtenopnfclbegbaaGreat.G
open Go.RowKit Go.Shelf
attribute [local go_sem] Oper.semAt_some

section
variable {B F : Nat} {ex : Ext} {nv nv' dv : Value} {st : St} {w w' : World}
theorem kill_no {st : St} {k : Int} (h : (get st.n k).isSome = false ∨ isRoot st.d k = true) : kill st k = (st, false) := by
  unfold kill; rw [if_neg]
  rintro ⟨h1, h2⟩
  rcases h with h | h
  · rw [h] at h1; cases h1
  · rw [h] at h2; cases h2
theorem kill_yes {st : St} {k : Int} (h1 : (get st.n k).isSome = true) (h2 : isRoot st.d k = false) : kill st k = (⟨st.last, dropN st.n k, taken st.d (gets st.n k).dev (-blk (gets st.n k)) (-1)⟩, true) := by
  unfold kill; rw [if_pos ⟨h1, h2⟩]
end
end Go.Proofs.YtenopnfclbegbaaGreat.G
/-
  The reference's Fill.
-/
namespace Go.Proofs.YtenopnfclbegbaaGreat.G
open Go.RowKit Go.Shelf
attribute [local go_sem] Oper.semAt_some

section
variable {B F : Nat} {ex : Ext} {nv nv' dv : Value} {st : St} {w w' : World}
theorem fill_none {st : St} {k : Int} {x : ByteArray} (h : (get st.n k).isSome = false) : fill st k x = (st, 5) := by
  unfold fill; rw [if_neg (by rw [h]; simp)]
theorem fill_err {st : St} {k : Int} {x : ByteArray} (h : (get st.n k).isSome = true) (h1 : terr st.d (gets st.n k).dev (blk (filled st k x) - blk (gets st.n k)) 0 ≠ 0) : fill st k x = (st, terr st.d (gets st.n k).dev (blk (filled st k x) - blk (gets st.n k)) 0) := by
  unfold fill; rw [if_pos h, if_neg h1]
theorem fill_ok {st : St} {k : Int} {x : ByteArray} (h : (get st.n k).isSome = true) (h1 : terr st.d (gets st.n k).dev (blk (filled st k x) - blk (gets st.n k)) 0 = 0) :
    fill st k x = (⟨st.last, setN st.n (filled st k x), taken st.d (gets st.n k).dev (blk (filled st k x) - blk (gets st.n k)) 0⟩, 0) := by
  unfold fill; rw [if_pos h, if_pos h1]
end
end Go.Proofs.YtenopnfclbegbaaGreat.G
