/-
  The law's Same.
-/
import Derived.Test.YtenopnfclbegbaaGreatTab
import Derived.BigQuiet
import Derived.Test.YtenopnfclbegbaaGreatLall
import Derived.Test.YtenopnfclbegbaaGreatWhere
import Derived.Test.YtenopnfclbegbaaGreatRfou
import Derived.Deep.RegionHeld3
import Derived.Laws.StructEq
namespace Go.Proofs.YtenopnfclbegbaaGreat.T
open Go.RowKit Go.Shelf

set_option maxRecDepth 100000 in
set_option maxHeartbeats 8000000 in
theorem Same_any (n : Nd) (s1 s2 : Value) (w : World) (h1 : E.Sees s1 n.es w) (h2 : E.Sees s2 n.es w) :
    Calls Tryz.prog 65 #[n.v s1, n.v s2] w fun e w' => e = .returned (.bool true) ∧ Below w.heap.size w w' := by
  obtain ⟨oa, ca, rfl, hm, hca⟩ := h1
  have hle : n.es.length ≤ 9223372036854775807 := by have := Nat.le_trans hm.1 hm.2; unfold maxLen at this; omega
  clear hm
  obtain ⟨ob, cb, rfl, _, hcb⟩ := h2
  have HCA := Lib.hid hca; have HCB := Lib.hid hcb
  clear hca hcb
  obtain ⟨no, dev, kind, mode, uid, gid, mt, ct, links, up, data, es⟩ := n
  dsimp only [Nd.v] at *
  have A1 := BoxN.new ⟨no, dev, kind, mode, uid, gid, mt, ct, links, up, data, es⟩ (.slice oa es.length ca) w
  dsimp only at A1
  go_enter Tryz.func65, Tryz.ntmps65
  go_upto_region 4 with fail
  have hb1 : Below w.heap.size w (w.alloc (.cells #[.int .i64 no, .int .i64 dev, .int .i64 kind, .int .i64 mode, .int .i64 uid, .int .i64 gid, .int .i64 mt, .int .i64 ct, .int .i64 links, .int .i64 up, .string data, .slice oa es.length ca] 48)) := (Below.refl _ _).alloc (Nat.le_refl _) _
  have hs1 : (w.alloc (.cells #[.int .i64 no, .int .i64 dev, .int .i64 kind, .int .i64 mode, .int .i64 uid, .int .i64 gid, .int .i64 mt, .int .i64 ct, .int .i64 links, .int .i64 up, .string data, .slice oa es.length ca] 48)).heap.size = w.heap.size + 1 := by simp
  generalize w.alloc (.cells #[.int .i64 no, .int .i64 dev, .int .i64 kind, .int .i64 mode, .int .i64 uid, .int .i64 gid, .int .i64 mt, .int .i64 ct, .int .i64 links, .int .i64 up, .string data, .slice oa es.length ca] 48) = W1 at A1 hb1 hs1 ⊢
  have A2 := BoxN.new ⟨no, dev, kind, mode, uid, gid, mt, ct, links, up, data, es⟩ (.slice ob es.length cb) W1
  dsimp only at A2
  have hb2 : Below W1.heap.size W1 (W1.alloc (.cells #[.int .i64 no, .int .i64 dev, .int .i64 kind, .int .i64 mode, .int .i64 uid, .int .i64 gid, .int .i64 mt, .int .i64 ct, .int .i64 links, .int .i64 up, .string data, .slice ob es.length cb] 48)) := (Below.refl _ _).alloc (Nat.le_refl _) _
  generalize W1.alloc (.cells #[.int .i64 no, .int .i64 dev, .int .i64 kind, .int .i64 mode, .int .i64 uid, .int .i64 gid, .int .i64 mt, .int .i64 ct, .int .i64 links, .int .i64 up, .string data, .slice ob es.length cb] 48) = W2 at A2 hb2 ⊢
  rw [hs1] at A2
  have A1' := Lib.hid (A1.below hb2); have A2' := Lib.hid A2
  have HB := Lib.hid (below_two hb1 hb2)
  clear A1 A2 hb1 hb2 hs1
  go_loopw [5] (fun i wr => ∃ (k : Nat), i = .int .i64 k ∧ k ≤ es.length ∧ Below W2.heap.size W2 wr) (fun i _ => es.length - (RowKit.intOf i).toNat)
  case atStart => exact ⟨0, rfl, Nat.zero_le _, Below.refl _ _⟩
  case round =>
    obtain ⟨k, rfl, hk, hbw⟩ := hrel
    have e1 := (A1'.out.below hbw).facts.2.2.2.2.2.2.2.2.2.2.2
    have e2 := (A2'.out.below hbw).facts.2.2.2.2.2.2.2.2.2.2.2
    by_cases hlt : k < es.length
    · obtain ⟨x, hx⟩ : ∃ x, es[k]? = some x := ⟨_, List.getElem?_eq_getElem hlt⟩
      obtain ⟨g1, o1, rfl, d0, d1⟩ := HCA.out k x hx
      obtain ⟨g2, o2, rfl, f0, f1⟩ := HCB.out k x hx
      have hbb := HB.out.trans (hbw.mono HB.out.size)
      have hg1 := World.block_lt_of_cell? _ _ d0
      have hg2 := World.block_lt_of_cell? _ _ f0
      have p0 := (hbb.cell (p := ⟨g1, o1 + k * 2, none⟩) hg1).trans d0
      have p1 := (hbb.cell (p := ⟨g1, o1 + k * 2 + 1, none⟩) hg1).trans d1
      have q0 := (hbb.cell (p := ⟨g2, o2 + k * 2, none⟩) hg2).trans f0
      have q1 := (hbb.cell (p := ⟨g2, o2 + k * 2 + 1, none⟩) hg2).trans f1
      have HBW := Lib.hid hbw
      clear d0 d1 f0 f1 hbb hbw hx
      go_wp2
      go_quiet (fail)
      go_wp2
      go_roundw
      case rel => exact ⟨k + 1, by go_num, by omega, HBW.out.trans (E.below_drewN _)⟩
      case measure => simp [RowKit.intOf]; omega
    · go_wp2
      go_ret
      exact ⟨rfl, HB.out.trans (hbw.mono HB.out.size)⟩
end Go.Proofs.YtenopnfclbegbaaGreat.T
/-
  The law's same: two worlds that agree.
-/
namespace Go.Proofs.YtenopnfclbegbaaGreat.G
open Go.RowKit Go.Shelf
attribute [local go_sem] Oper.semAt_some

/-- what the reference says of a number is what the program says -/
def Agrees (st : St) (no : Int) : Prop := where_ st no = refWhere st (st.n.length + 1) [] no ∧ over st.d no = refOver st.d no ∧ above st no = refAbove st no ∧ busy st no = refBusy st no
def S4 (b : Nat) (q : U.Sp) (w0 w : World) : Prop := w.cell? ⟨b, 0, none⟩ = some (.int .i64 q.b) ∧ w.cell? ⟨b, 1, none⟩ = some (.int .i64 q.n) ∧ w.cell? ⟨b, 2, none⟩ = some (.int .i64 q.mb) ∧ w.cell? ⟨b, 3, none⟩ = some (.int .i64 q.mn) ∧ Below w0.heap.size w0 w
section
variable {B X A M F : Nat} {ex : Ext} {mv nv dv : Value} {st : St} {w w' : World}
def S12 (b : Nat) (n : T.Nd) (s : Value) (w0 w : World) : Prop :=
  w.cell? ⟨b, 0, none⟩ = some (.int .i64 n.no) ∧ w.cell? ⟨b, 1, none⟩ = some (.int .i64 n.dev) ∧ w.cell? ⟨b, 2, none⟩ = some (.int .i64 n.kind) ∧ w.cell? ⟨b, 3, none⟩ = some (.int .i64 n.mode) ∧
    w.cell? ⟨b, 4, none⟩ = some (.int .i64 n.uid) ∧ w.cell? ⟨b, 5, none⟩ = some (.int .i64 n.gid) ∧ w.cell? ⟨b, 6, none⟩ = some (.int .i64 n.mt) ∧ w.cell? ⟨b, 7, none⟩ = some (.int .i64 n.ct) ∧
    w.cell? ⟨b, 8, none⟩ = some (.int .i64 n.links) ∧ w.cell? ⟨b, 9, none⟩ = some (.int .i64 n.up) ∧ w.cell? ⟨b, 10, none⟩ = some (.string n.data) ∧ w.cell? ⟨b, 11, none⟩ = some s ∧ Below w0.heap.size w0 w
theorem S12.of {b : Nat} {n : T.Nd} {s : Value} {w0 w : World} (D : T.BoxN b n s w) (hb : Below w0.heap.size w0 w) : S12 b n s w0 w := by
  obtain ⟨c0, c1, c2, c3, c4, c5, c6, c7, c8, c9, c10, c11⟩ := D.facts
  exact ⟨c0, c1, c2, c3, c4, c5, c6, c7, c8, c9, c10, c11, hb⟩
theorem S12.low {b : Nat} {n : T.Nd} {s : Value} {w0 w : World} (h : S12 b n s w0 w) : Below w0.heap.size w0 w := h.2.2.2.2.2.2.2.2.2.2.2.2
theorem S12.below {b : Nat} {n : T.Nd} {s : Value} {w0 w w' : World} (h : S12 b n s w0 w) (hb : Below w.heap.size w w') : S12 b n s w0 w' := by
  obtain ⟨c0, c1, c2, c3, c4, c5, c6, c7, c8, c9, c10, c11, hl⟩ := h
  have hlt : b < w.heap.size := World.block_lt_of_cell? _ _ c0
  refine ⟨?_, ?_, ?_, ?_, ?_, ?_, ?_, ?_, ?_, ?_, ?_, ?_, below_two hl hb⟩ <;> (rw [hb.cell (by exact hlt)]; assumption)
theorem S4.below {b : Nat} {q : U.Sp} {w0 w w' : World} (h : S4 b q w0 w) (hb : Below w.heap.size w w') : S4 b q w0 w' := by
  have c : U.Box4 b q w := ⟨h.1, h.2.1, h.2.2.1, h.2.2.2.1⟩
  obtain ⟨c0, c1, c2, c3⟩ := c.next hb
  exact ⟨c0, c1, c2, c3, below_two h.2.2.2.2 hb⟩
set_option maxRecDepth 100000 in
set_option maxHeartbeats 8000000 in
theorem same_any (hI : Inv st) (hr : Ranged st) (hag : ∀ no, -1 ≤ no → no ≤ st.last + 1 → Agrees st no) (hW : Wd B X A M mv st w) (hF : Fs ex B F nv dv st w) (hlast : st.last < 1000) :
    Calls Tryz.prog 30 #[.pointer (some ⟨X, 0, none⟩), .pointer (some ⟨F, 0, none⟩)] w fun e w' => e = .returned (.bool true) ∧ Below w.heap.size w w' := by
  have hlen : st.n.length < 1000 := by have := hI.len; omega
  have hdl := hI.mounts
  have cdv := fun m => (Devs_any (hW.below (E.below_drewN m))).mono fun _ _ h => (⟨h.1, h.2.symm⟩ : _ ∧ _)
  have cln := fun m => (Len_st (hW.below (E.below_drewN m))).mono fun _ _ h => (⟨h.1, h.2.symm⟩ : _ ∧ _)
  have HW := Lib.hid hW; have HF := Lib.hid hF
  have hX0 := hW.facts.1
  have hXl := hW.ltX
  obtain ⟨oa, cap, rfl⟩ := hF.nlen
  obtain ⟨od, cd, rfl⟩ := hF.dlen
  have x0 := hF.facts.1
  have x1 := hF.facts.2.1
  have x2 := hF.facts.2.2.1
  have hFl := hF.ltF
  have HI := Lib.hid hI; have HR := Lib.hid hr; have HG := Lib.hid hag
  clear hW hF hI hr hag
  have hd1 : ((st.d.length : Int) != (st.d.length : Int)) = false := by simp
  have hd2 : ((st.n.length : Int) != (st.n.length : Int)) = false := by simp
  go_enter Tryz.func30, Tryz.ntmps30
  go_wp2
  go_quiet (first
    | (go_at_call 59; exact Calls.quiet_of_same (cdv _))
    | (go_at_call 17; exact Calls.quiet_of_same (cln _)))
  go_wp2
  go_loopw [5] (fun i wr => ∃ k : Nat, i = .int .i64 k ∧ k ≤ st.d.length + 2 ∧ Below w.heap.size w wr) (fun i _ => st.d.length + 2 - (RowKit.intOf i).toNat)
  case atStart => exact ⟨0, rfl, by omega, E.below_drewN _⟩
  case round =>
    obtain ⟨k, rfl, hk, hb⟩ := hrel
    have y0 := (hb.cell (p := ⟨F, 0, none⟩) hFl).trans x0
    have y1 := (hb.cell (p := ⟨F, 1, none⟩) hFl).trans x1
    have y2 := (hb.cell (p := ⟨F, 2, none⟩) hFl).trans x2
    have yX := (hb.cell (p := ⟨X, 0, none⟩) hXl).trans hX0
    clear cdv cln hd1 hd2
    by_cases hlt : k ≤ st.d.length + 1
    · have hlt' : (k : Int) ≤ (st.d.length : Int) + 1 := by omega
      go_upto_region 7 with fail
      have hb2 : Below wr.heap.size wr (wr.alloc (.cells #[.int .i64 0, .int .i64 0, .int .i64 0, .int .i64 0] 110)) := (Below.refl _ _).alloc (Nat.le_refl _) _
      have B4 := U.Box4.new wr ⟨0, 0, 0, 0⟩ 110
      have O4 := U.Open4.new wr 110 #[.int .i64 0, .int .i64 0, .int .i64 0, .int .i64 0]
      dsimp only at B4
      have hlb := B4.lt
      have hb3 := below_two hb hb2
      generalize wr.alloc (.cells #[.int .i64 0, .int .i64 0, .int .i64 0, .int .i64 0] 110) = W2 at *
      obtain ⟨b, hbv⟩ : ∃ b, wr.heap.size = b := ⟨_, rfl⟩
      rw [hbv] at B4 O4 hlb
      have cf0 := refRoot_any (HF.out.below hb3) k (by omega)
      have hsz := hb.size
      have hZ := (Below.refl w.heap.size w)
      cases hm : mt st.d k with
      | none =>
        have hr0 : rootOf st.d k = 0 := by unfold rootOf; rw [hm]
        have hu0 : useOf st.d k = ⟨0, 0, 0, 0⟩ := by unfold useOf; rw [hm]
        rw [hr0] at cf0
        have BQ : U.Box4 b (useOf st.d k) W2 := by rw [hu0]; exact B4
        have HBQ := Lib.hid hb3
        clear hb2 hb3 hm hr0 hu0
        go_upto_region 9 with (go_at_call 60; refine cf0.mono ?_; rintro e w3 ⟨rfl, rfl⟩)
        clear B4 O4
        obtain ⟨⟨qb, qn, qm, qk⟩, hq⟩ : ∃ q, useOf st.d k = q := ⟨_, rfl⟩
        rw [hq] at BQ
        have cu := fun W (h : S4 b ⟨qb, qn, qm, qk⟩ w W) => Use_any (HW.out.below h.2.2.2.2) k
        rw [hq] at cu
        dsimp only [U.Sp.v] at cu
        have cr := fun W (h : S4 b ⟨qb, qn, qm, qk⟩ w W) => Root_any (HW.out.below h.2.2.2.2) k
        have cf := fun W (h : S4 b ⟨qb, qn, qm, qk⟩ w W) => refRoot_any (HF.out.below h.2.2.2.2) k (by omega)
        obtain ⟨ro, hro⟩ : ∃ r, rootOf st.d k = r := ⟨_, rfl⟩
        rw [hro] at cr cf
        have hne : (ro != ro) = false := by simp
        have T0 : S4 b ⟨qb, qn, qm, qk⟩ w _ := ⟨BQ.1, BQ.2.1, BQ.2.2.1, BQ.2.2.2, HBQ.out⟩
        have T1 := T0.below ((Below.refl _ _).drew)
        clear hq hro BQ HBQ
        go_wp2_with fail
        go_region_held3 (fun w' => w'.cell? ⟨b, 0, none⟩ = some (.int .i64 qb) ∧ w'.cell? ⟨b, 1, none⟩ = some (.int .i64 qn) ∧ w'.cell? ⟨b, 2, none⟩ = some (.int .i64 qm) ∧ w'.cell? ⟨b, 3, none⟩ = some (.int .i64 qk) ∧ Below w.heap.size w w') (first | exact T2 | exact T1 | exact T0)
          (first
            | (go_at_call 61; refine (cr _ (by assumption)).mono ?_; rintro e w3 ⟨rfl, rfl⟩)
            | (go_at_call 60; refine (cf _ (by assumption)).mono ?_; rintro e w3 ⟨rfl, rfl⟩)
            | (go_at_call 62; refine (cu _ (by assumption)).mono ?_; rintro e w3 ⟨rfl, hb5⟩; have T2 := T1.below hb5))
        go_wp2
        go_roundw
        case rel => exact ⟨k + 1, by go_num, by omega, T2.2.2.2.2⟩
        case measure => simp [RowKit.intOf]; omega
      | some m =>
        obtain ⟨h3, h4, h5⟩ := mt_some hm
        obtain ⟨i, hi⟩ : ∃ i, (((k : Nat) : Int) - 1).toNat = i := ⟨_, rfl⟩
        rw [hi] at h5
        have hr0 : rootOf st.d k = m.root := by unfold rootOf; rw [hm]
        have hu0 : useOf st.d k = m.q := by unfold useOf; rw [hm]
        have hne0 : (m.root != 0) = true := by
          obtain ⟨nd, hn, _⟩ := HI.out.roots i m h5
          obtain ⟨hn1, hn2⟩ := get_some hn
          have := (HI.out.given nd hn1).1
          simp; omega
        rw [hr0] at cf0
        obtain ⟨g, cap', he, q0, q2, q3, q4, q5, qf⟩ := (HF.out.below hb3).mount h5
        cases he
        have h6 : (k : Int) - 1 = (i : Int) := by omega
        have h7 : (i : Int) < st.d.length := by omega
        have h8 : (0 : Int) ≤ (i : Int) := by omega
        have h9 : IntKind.i64.wrap ((k : Int) - 1) = (i : Int) := by rw [h6]; exact wrap_id (by omega) (by omega)
        have z1 := (hb3.cell (p := ⟨F, 1, none⟩) hFl).trans x1
        obtain ⟨o0, o1, o2, o3⟩ := O4
        obtain ⟨b0, b1, b2, b3⟩ := B4
        have BP := fun W e => U.Box4.put (b := b) (q := ⟨0, 0, 0, 0⟩) (x := m.q.b) (y := m.q.n) (z := m.q.mb) (u := m.q.mn) (w := W2) (W := W) ⟨b0, b1, b2, b3⟩ e
        have HB3 := Lib.hid hb3
        clear hb2 hb3 hm
        go_upto_region 9 with (go_at_call 60; refine cf0.mono ?_; rintro e w3 ⟨rfl, rfl⟩)
        obtain ⟨BQ', hbq⟩ := BP _ rfl
        have BQ := BQ'
        rw [show (⟨m.q.b, m.q.n, m.q.mb, m.q.mn⟩ : U.Sp) = useOf st.d k by rw [hu0]] at BQ
        have HBQ := Lib.hid (HB3.out.trans (hbq w.heap.size (by omega)))
        obtain ⟨⟨qb, qn, qm, qk⟩, hq⟩ : ∃ q, useOf st.d k = q := ⟨_, rfl⟩
        rw [hq] at BQ
        have cu := fun W (h : S4 b ⟨qb, qn, qm, qk⟩ w W) => Use_any (HW.out.below h.2.2.2.2) k
        rw [hq] at cu
        dsimp only [U.Sp.v] at cu
        have cr := fun W (h : S4 b ⟨qb, qn, qm, qk⟩ w W) => Root_any (HW.out.below h.2.2.2.2) k
        have cf := fun W (h : S4 b ⟨qb, qn, qm, qk⟩ w W) => refRoot_any (HF.out.below h.2.2.2.2) k (by omega)
        obtain ⟨ro, hro⟩ : ∃ r, rootOf st.d k = r := ⟨_, rfl⟩
        rw [hro] at cr cf
        have hne : (ro != ro) = false := by simp
        have T0 : S4 b ⟨qb, qn, qm, qk⟩ w _ := ⟨BQ.1, BQ.2.1, BQ.2.2.1, BQ.2.2.2, HBQ.out⟩
        have T1 := T0.below ((Below.refl _ _).drew)
        clear hq hro BQ HBQ BQ' hbq BP o0 o1 o2 o3 b0 b1 b2 b3 q0 q2 q3 q4 q5 qf
        go_wp2_with fail
        go_region_held3 (fun w' => w'.cell? ⟨b, 0, none⟩ = some (.int .i64 qb) ∧ w'.cell? ⟨b, 1, none⟩ = some (.int .i64 qn) ∧ w'.cell? ⟨b, 2, none⟩ = some (.int .i64 qm) ∧ w'.cell? ⟨b, 3, none⟩ = some (.int .i64 qk) ∧ Below w.heap.size w w') (first | exact T2 | exact T1 | exact T0)
          (first
            | (go_at_call 61; refine (cr _ (by assumption)).mono ?_; rintro e w3 ⟨rfl, rfl⟩)
            | (go_at_call 60; refine (cf _ (by assumption)).mono ?_; rintro e w3 ⟨rfl, rfl⟩)
            | (go_at_call 62; refine (cu _ (by assumption)).mono ?_; rintro e w3 ⟨rfl, hb5⟩; have T2 := T1.below hb5))
        go_wp2
        go_roundw
        case rel => exact ⟨k + 1, by go_num, by omega, T2.2.2.2.2⟩
        case measure => simp [RowKit.intOf]; omega
    · have hlt' : ¬ (k : Int) ≤ (st.d.length : Int) + 1 := by omega
      go_wp2
      go_loopw [7] (fun i wr => ∃ x : Int, i = .int .i64 x ∧ -1 ≤ x ∧ x ≤ st.last + 2 ∧ Below w.heap.size w wr) (fun i _ => (st.last + 2 - RowKit.intOf i).toNat)
      case atStart => exact ⟨-1, rfl, Int.le_refl _, by have := HI.out.lo; omega, hb⟩
      case round =>
        clear hb y0 y1 y2 yX hlt hlt' hk
        obtain ⟨x, rfl, hx1, hx2, hb⟩ := hrel
        have y2 := (hb.cell (p := ⟨F, 2, none⟩) hFl).trans x2
        have yX := (hb.cell (p := ⟨X, 0, none⟩) hXl).trans hX0
        have hl0 := HI.out.lo
        by_cases hlt : x ≤ st.last + 1
        · have hwf : T.Wf x := T.wf_of (by omega) (by omega)
          have cg := Get_st (HW.out.below hb) x hwf
          have AG := HG.out x hx1 hlt
          obtain ⟨ag1, ag2, ag3, ag4⟩ := AG
          have cW := fun W (h : Below w.heap.size w W) => Where_any (HW.out.below h) HI.out HR.out ⟨x, by constructor <;> omega⟩ (by omega)
          have cR := fun W (h : Below w.heap.size w W) => refWhere_any HI.out (HF.out.below h) x (by omega)
          have cO := fun W (h : Below w.heap.size w W) => Over_any (HW.out.below h) x
          have cO' := fun W (h : Below w.heap.size w W) => refOver_any (HF.out.below h) x (by omega)
          have cA := fun W (h : Below w.heap.size w W) => Above_any (HW.out.below h) x hwf (T.wf_of (HR.out.under (k := x) (by constructor <;> omega)).1 (HR.out.under (k := x) (by constructor <;> omega)).2)
          have cA' := fun W (h : Below w.heap.size w W) => refAbove_any HI.out (HF.out.below h) x (by omega)
          have cB := fun W (h : Below w.heap.size w W) => Busy_any (HW.out.below h) HR.out x (by omega)
          have cB' := fun W (h : Below w.heap.size w W) => refBusy_any HI.out (HF.out.below h) x (by omega)
          have cG := fun W (h : Below w.heap.size w W) => refGet_any (HF.out.below h) x (by omega)
          rw [← ag1] at cR
          rw [← ag2] at cO'
          rw [← ag3] at cA'
          rw [← ag4] at cB'
          dsimp only at cW
          clear ag1 ag2 ag3 ag4
          generalize (where_ st x).getD [] = pth at cW cR
          generalize (where_ st x).isSome = pis at cW cR
          generalize over st.d x = ov at cO cO'
          generalize above st x = ab at cA cA'
          generalize busy st x = bu at cB cB'
          generalize gets st.n x = nd at cg cG
          generalize (get st.n x).isSome = hs at cg
          obtain ⟨dno, ddev, dkind, dmode, duid, dgid, dmt, dct, dlinks, dup, ddata, des⟩ := nd
          dsimp only [T.Nd.v] at cg cG
          go_upto_region 15 with (go_at_call 16; refine cg.mono ?_; rintro e w4 ⟨u, rfl, hO, hb4⟩; obtain ⟨ou, cu, rfl⟩ := T.own_slice hO; have D4 := T.BoxN.new ⟨dno, ddev, dkind, dmode, duid, dgid, dmt, dct, dlinks, dup, ddata, des⟩ (.slice ou des.length cu) w4)
          have hS1 := hO.sees.below ((Below.refl _ _).alloc (Nat.le_refl _) (.cells #[.int .i64 dno, .int .i64 ddev, .int .i64 dkind, .int .i64 dmode, .int .i64 duid, .int .i64 dgid, .int .i64 dmt, .int .i64 dct, .int .i64 dlinks, .int .i64 dup, .string ddata, .slice ou des.length cu] 48))
          have hb5 : Below w.heap.size w (w4.alloc (.cells #[.int .i64 dno, .int .i64 ddev, .int .i64 dkind, .int .i64 dmode, .int .i64 duid, .int .i64 dgid, .int .i64 dmt, .int .i64 dct, .int .i64 dlinks, .int .i64 dup, .string ddata, .slice ou des.length cu] 48)) := (below_two hb hb4).alloc (by have := hb.size; have := hb4.size; omega) _
          obtain ⟨b, hbv⟩ : ∃ b, w4.heap.size = b := ⟨_, rfl⟩
          rw [hbv] at D4
          generalize w4.alloc (.cells #[.int .i64 dno, .int .i64 ddev, .int .i64 dkind, .int .i64 dmode, .int .i64 duid, .int .i64 dgid, .int .i64 dmt, .int .i64 dct, .int .i64 dlinks, .int .i64 dup, .string ddata, .slice ou des.length cu] 48) = W5 at *
          clear cg hO hb4
          have cW5 := cW W5 hb5
          clear cW
          go_upto_region 16 with (go_at_call 63; refine cW5.mono ?_; rintro e w6 ⟨rfl, hb6⟩)
          have hb56 := below_two hb5 hb6
          have cR6 := cR w6 hb56
          have D6 := D4.below hb6
          have hS6 := hS1.below hb6
          clear cR cW5 D4 hS1 hb6 hb5
          go_upto_region 17 with (go_at_call 64; refine cR6.mono ?_; rintro e w7 ⟨rfl, hb7⟩)
          have hb57 := below_two hb56 hb7
          have T0 := S12.of (w0 := w) (D6.below hb7) hb57
          have hS7 := Lib.hid (hS6.below hb7)
          have T1 := T0.below ((Below.refl _ _).drew)
          clear cR6 D6 hS6 hb7 hb56
          have cS := fun W o c h1 h2 => T.Same_any ⟨dno, ddev, dkind, dmode, duid, dgid, dmt, dct, dlinks, dup, ddata, des⟩ (.slice ou des.length cu) (.slice o des.length c) W h1 h2
          dsimp only [T.Nd.v] at cS
          have hp : (pth != pth) = false := by simp
          have hi : (pis != pis) = false := by simp
          have ho : (ov != ov) = false := by simp
          have ha : (ab != ab) = false := by simp
          have hbu : (bu != bu) = false := by simp
          clear hbv hb57
          go_wp2_with fail
          go_region_held3 (fun w' => w'.cell? ⟨b, 0, none⟩ = some (.int .i64 dno) ∧ w'.cell? ⟨b, 1, none⟩ = some (.int .i64 ddev) ∧ w'.cell? ⟨b, 2, none⟩ = some (.int .i64 dkind) ∧ w'.cell? ⟨b, 3, none⟩ = some (.int .i64 dmode) ∧ w'.cell? ⟨b, 4, none⟩ = some (.int .i64 duid) ∧ w'.cell? ⟨b, 5, none⟩ = some (.int .i64 dgid) ∧ w'.cell? ⟨b, 6, none⟩ = some (.int .i64 dmt) ∧ w'.cell? ⟨b, 7, none⟩ = some (.int .i64 dct) ∧ w'.cell? ⟨b, 8, none⟩ = some (.int .i64 dlinks) ∧ w'.cell? ⟨b, 9, none⟩ = some (.int .i64 dup) ∧ w'.cell? ⟨b, 10, none⟩ = some (.string ddata) ∧ w'.cell? ⟨b, 11, none⟩ = some (.slice ou des.length cu) ∧ Below w.heap.size w w') (first | exact T8 | exact T7 | exact T6 | exact T5 | exact T4 | exact T3 | exact T2 | exact T1 | exact T0)
            (first
              | (go_at_call 12; refine (cG _ T1.low).mono ?_; rintro e w2 ⟨u2, rfl, hO2, hb2⟩; obtain ⟨o2, c2, rfl⟩ := T.own_slice hO2; have T2 := T1.below hb2; have hS2 := hO2.sees; have hS3 := (hS7.out.below ((Below.refl _ _).drew)).below hb2)
              | (go_at_call 65; refine (cS _ _ _ hS3 hS2).mono ?_; rintro e w3 ⟨rfl, hb3⟩; have T3 := T2.below hb3)
              | (go_at_call 66; refine (cO _ T3.low).mono ?_; rintro e w4 ⟨rfl, hb4⟩; have T4 := T3.below hb4)
              | (go_at_call 67; refine (cO' _ T4.low).mono ?_; rintro e w5 ⟨rfl, rfl⟩)
              | (go_at_call 68; refine (cA _ T4.low).mono ?_; rintro e w5 ⟨rfl, hb5⟩; have T5 := T4.below hb5)
              | (go_at_call 69; refine (cA' _ T5.low).mono ?_; rintro e w6 ⟨rfl, hb6⟩; have T6 := T5.below hb6)
              | (go_at_call 70; refine (cB _ T6.low).mono ?_; rintro e w7 ⟨rfl, hb7⟩; have T7 := T6.below hb7)
              | (go_at_call 71; refine (cB' _ T7.low).mono ?_; rintro e w8 ⟨rfl, hb8⟩; have T8 := T7.below hb8))
          go_wp2
          go_roundw
          case rel => exact ⟨x + 1, by first | rfl | go_num, by omega, by omega, T8.low⟩
          case measure => simp [RowKit.intOf]; omega
        · go_wp2
          go_ret
          exact ⟨rfl, hb⟩
end
end Go.Proofs.YtenopnfclbegbaaGreat.G
/-
  The law's awake: the chapter's example.
-/
namespace Go.Proofs.YtenopnfclbegbaaGreat.G
open Go.RowKit Go.Shelf
attribute [local go_sem] Oper.semAt_some

/-- the example's items -/
def itA : List It := [⟨0, [100], 1, 0, 0, 0, ⟨#[]⟩, 0⟩, ⟨1, [], 4, 0, 0, 0, ⟨#[]⟩, 5⟩]
def stA : St := growAll (begin_ bare 1 9 9) itA
theorem stA_last : stA.last = 3 := by decide
theorem stA_len : stA.n.length = 3 := by decide
theorem stA_where : where_ stA 3 = some [47, 100] := by decide
theorem stA_over : over stA.d 2 = 3 := by decide
theorem stA_above : above stA 3 = 1 := by decide
theorem agA (k : Int) (h : k = -1 ∨ k = 0 ∨ k = 1 ∨ k = 2 ∨ k = 3 ∨ k = 4) : Agrees stA k := by
  unfold Agrees
  rcases h with rfl | rfl | rfl | rfl | rfl | rfl <;> decide
theorem fewA : few itA = true := by decide
theorem seesA (w : World) : ItSees (.slice (some ⟨w.heap.size, 0, none⟩) 2 2) itA (w.alloc (.cells #[.int .i64 0, .string ⟨#[100]⟩, .int .i64 1, .int .i64 0, .int .i64 0, .int .i64 0, .string ⟨#[]⟩, .int .i64 0, .int .i64 1, .string ⟨#[]⟩, .int .i64 4, .int .i64 0, .int .i64 0, .int .i64 0, .string ⟨#[]⟩, .int .i64 5] 70)) := by
  refine ⟨_, 2, rfl, ⟨Nat.le_refl _, by decide⟩, fun k x hk => ⟨w.heap.size, 0, rfl, ?_⟩⟩
  match k, hk with
  | 0, hk =>
    cases hk
    refine ⟨?_, ?_, ?_, ?_, ?_, ?_, ?_, ?_⟩ <;> (rw [World.cell?_alloc_new]; rfl)
  | 1, hk =>
    cases hk
    refine ⟨?_, ?_, ?_, ?_, ?_, ?_, ?_, ?_⟩ <;> (rw [World.cell?_alloc_new]; rfl)
  | k + 2, hk => simp [itA] at hk
end Go.Proofs.YtenopnfclbegbaaGreat.G
