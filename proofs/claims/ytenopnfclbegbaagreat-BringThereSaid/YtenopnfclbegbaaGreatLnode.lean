/-
  The law's grow, at a node.
-/
import Derived.Test.YtenopnfclbegbaaGreatLgrow
namespace Go.Proofs.YtenopnfclbegbaaGreat.G
open Go.RowKit Go.Shelf
attribute [local go_sem] Oper.semAt_some

theorem named_err {d : T.Nd} {name : List UInt8} {r : St × Int × Int} (h : r.2.2 ≠ 0) : named d name r = r.1 := by unfold named; rw [if_neg h]
theorem named_ok {d : T.Nd} {name : List UInt8} {r : St × Int × Int} (h : r.2.2 = 0) : named d name r = ⟨r.1.last, setN r.1.n { d with es := E.put d.es ⟨name, r.2.1⟩ }, r.1.d⟩ := by unfold named; rw [if_pos h]
theorem get_app {n m : List T.Nd} {k : Int} {x : T.Nd} (h : get n k = some x) : get (n ++ m) k = some x := by
  unfold get at h ⊢
  rw [List.find?_append, h]; rfl
theorem make_get {st : St} {x y : T.Nd} {k : Int} (h : get st.n k = some y) : get (make st x).1.n k = some y := by
  unfold make
  split
  · exact get_app h
  · exact h
theorem make_rise {st : St} {x : T.Nd} (hr : st.n.Pairwise fun p q => p.no < q.no) (hg : ∀ p ∈ st.n, p.no ≤ st.last) : (make st x).1.n.Pairwise fun p q => p.no < q.no := by
  unfold make
  split
  · exact List.pairwise_append.2 ⟨hr, List.pairwise_singleton _ _, fun p hp q hq => by
      obtain rfl := List.mem_singleton.1 hq
      have := hg p hp
      show p.no < st.last + 1
      omega⟩
  · exact hr
theorem make_len {st : St} {x : T.Nd} : (make st x).1.n.length ≤ st.n.length + 1 := by
  unfold make
  split
  · show (st.n ++ [_]).length ≤ _; rw [List.length_append]; exact Nat.le_refl _
  · exact Nat.le_succ _
section
variable {B X A M F : Nat} {ex : Ext} {mv nv dv : Value} {st : St} {w w' : World}
theorem Wd.boxed (h : Wd B X A M mv st w) {b : Nat} {n : T.Nd} {s : Value} (D : T.BoxN b n s w) (i : Nat) (u : Value) : Wd B X A M mv st (w.setCell ⟨b, i, none⟩ u) :=
  h.stays (fun k hk => RowKit.Below.heap_setCell _ _ _ _ fun e => by
    have e' : k = b := e
    exact h.not D (by decide) (by decide) (by decide) (e' ▸ hk)) (T.entKept_set D (by decide) i u)
theorem BoxI.other {b a : Nat} {i : It} {n : T.Nd} {s : Value} (h : BoxI b i w) (D : T.BoxN a n s w) (j : Nat) (u : Value) : BoxI b i (w.setCell ⟨a, j, none⟩ u) := by
  have hne : b ≠ a := ne_type h D (by decide)
  exact (RowKit.Below.heap_setCell _ _ _ _ hne).trans h
/-- the reference's Make, whatever the mount -/
theorem refMake_any (hI : Inv st) (h : Fs ex B F nv dv st w) (n : T.Nd) (s : Value) (hS : E.Own B s n.es w) (hd : n.data.size ≤ 2000000) (hB : B ≤ w.heap.size) (hlen : st.n.length < 900000) (hlast : st.last < 900000) :
    Calls Tryz.prog 49 #[.pointer (some ⟨F, 0, none⟩), n.v s] w fun e w' =>
    e = .returned (.tuple #[.int .i64 (make st n).2.1, .int .i64 (make st n).2.2]) ∧ ∃ nv', Fs ex B F nv' dv (make st n).1 w' ∧ Turn (fS F nv dv) w w' ∧ ∀ k, fS F nv' dv k → fS F nv dv k ∨ w.heap.size ≤ k := by
  have hdl := hI.mounts
  cases hm : mt st.d n.dev with
  | none =>
    have ht := terr_none (x := blk n) (y := 1) hm
    rw [make_err (by rw [ht]; decide), ht]
    obtain ⟨os, cs, rfl⟩ := T.own_slice hS
    refine (refMake_none h n _ ⟨_, _, _, rfl⟩ hm (by omega)).mono ?_
    rintro e w' ⟨rfl, hb⟩
    exact ⟨rfl, nv, h.below hb, Turn.of_below hb, fun k hk => .inl hk⟩
  | some m =>
    obtain ⟨_, _, h3⟩ := mt_some hm
    obtain ⟨nd, h4, _⟩ := hI.roots _ m h3
    have := hI.given nd (get_some h4).1
    rw [(get_some h4).2] at this
    exact refMake_some h n s hS hm (by omega) hd hB (by omega) hlen hI.lo hlast
theorem box_turnF {b : Nat} {n : T.Nd} {s : Value} (D : T.BoxN b n s w) (h : Fs ex B F nv dv st w) (ht : Turn (fS F nv dv) w w') (hg : ∀ g, nv.ownBlock = some g → g ≠ b) : T.BoxN b n s w' := (ht.block b D.lt (h.notBox D hg)).trans D
set_option maxRecDepth 100000 in
set_option maxHeartbeats 16000000 in
theorem grow_other (hI : Inv st) (hW : Wd B X A M mv st w) (hF : Fs ex B F nv dv st w) (i : It) (h4 : i.kind ≠ 4) (hnm : i.name.length ≤ 300) (hdt : i.data.size ≤ 2000) (hl1 : 1 ≤ st.last) (hlast : st.last < 1000) (hB : B ≤ w.heap.size) (hes : ∀ p ∈ st.n, p.es.length ≤ 1000) :
    Calls Tryz.prog 23 #[.pointer (some ⟨X, 0, none⟩), .pointer (some ⟨F, 0, none⟩), i.v] w fun e w' =>
    e = .returned (.bool true) ∧ Both ex B X A M F (growSt st i) w' ∧ Below B w w' := by
  obtain ⟨r, hr⟩ : ∃ r, growSt st i = r := ⟨_, rfl⟩
  have HV := Lib.hid (@grow_vain st i h4)
  have HN := Lib.hid (@grow_node st i h4)
  rw [hr] at HV HN ⊢
  clear hr
  have hlen : st.n.length < 1000 := by have := hI.len; omega
  have hb1 : Below w.heap.size w (w.alloc (.cells #[.int .i64 i.dir, .string ⟨i.name.toArray⟩, .int .i64 i.kind, .int .i64 i.mode, .int .i64 i.uid, .int .i64 i.gid, .string i.data, .int .i64 i.n] 70)) := (Below.refl _ _).alloc (Nat.le_refl _) _
  have B1 := BoxI.new i w
  have hW1 := hW.below hb1
  have hF1 := hF.below hb1
  have hu : 0 ≤ IntKind.u64.wrap i.dir ∧ IntKind.u64.wrap i.dir ≤ 18446744073709551615 := by
    simp [IntKind.wrap, IntKind.signed, IntKind.bits]; omega
  have hp1 : IntKind.u64.wrap st.last = st.last := by
    simp [IntKind.wrap, IntKind.signed, IntKind.bits]; omega
  have hpr := place_range (dir := i.dir) hl1
  have hm1 : (IntKind.u64.wrap i.dir).tmod st.last = place st.last i.dir - 1 := by
    rw [Int.tmod_eq_emod_of_nonneg hu.1]; unfold place; omega
  obtain ⟨p, hp⟩ : ∃ p, place st.last i.dir - 1 = p := ⟨_, rfl⟩
  have hm2 : IntKind.i64.wrap p = p := wrap_id (by omega) (by omega)
  have hm3 : IntKind.i64.wrap (1 + p) = place st.last i.dir := by rw [← hp]; exact (wrap_id (by omega) (by omega)).trans (by omega)
  have hp0 : IntKind.u64.wrap p = p := by
    simp [IntKind.wrap, IntKind.signed, IntKind.bits]; omega
  rw [hp] at hm1
  have hz : (st.last == 0) = false := by simp; omega
  have hck := fun W => V.refCheck_any ⟨i.name.toArray⟩ (by show i.name.toArray.size ≤ 5000; rw [List.size_toArray]; omega) W
  rw [show (⟨i.name.toArray⟩ : ByteArray).data.toList = i.name from rfl] at hck
  clear hW hF hp
  obtain ⟨dir, name, kind, mode, uid, gid, data, n⟩ := i
  dsimp only [It.v] at *
  have h4' : (kind == 4) = false := by simpa using h4
  generalize place st.last dir = pl at *
  have cg := fun W (hF : Fs ex B F nv dv st W) => refGet_any hF pl (by omega)
  have hgl : (gets st.n pl).es.length ≤ 1000 := by
    cases hx : get st.n pl with
    | none => rw [gets_none hx]; decide
    | some y => rw [gets_some hx]; exact hes y (get_some hx).1
  have hgk : (gets st.n pl).kind = 1 → get st.n pl = some (gets st.n pl) ∧ (gets st.n pl).no = pl := fun e => by
    cases hx : get st.n pl with
    | none => rw [gets_none hx] at e; cases e
    | some y => rw [gets_some hx]; exact ⟨rfl, (get_some hx).2⟩
  have HI := Lib.hid hI
  have HGK := Lib.hid hgk
  have hlo := hI.lo
  have hgiven : ∀ p ∈ st.n, p.no ≤ st.last := fun p hp => (hI.given p hp).2
  have HGV := Lib.hid hgiven
  clear hI hgk hgiven hes
  generalize gets st.n pl = nd at *
  obtain ⟨dno, ddev, dkind, dmode, duid, dgid, dmt, dct, dlinks, dup, ddata, des⟩ := nd
  dsimp only [T.Nd.v] at cg hgl HGK HV HN
  go_enter Tryz.func23, Tryz.ntmps23
  go_upto_region 1 with fail
  generalize w.alloc (.cells #[.int .i64 dir, .string ⟨name.toArray⟩, .int .i64 kind, .int .i64 mode, .int .i64 uid, .int .i64 gid, .string data, .int .i64 n] 70) = W1 at *
  obtain ⟨b0, hbd⟩ : ∃ b, w.heap.size = b := ⟨_, rfl⟩
  rw [hbd] at B1 hb1 hB ⊢
  obtain ⟨c0, c1, c2, c3, c4, c5, c6, c7⟩ := B1.facts
  dsimp only at c0 c1 c2 c3 c4 c5 c6 c7
  have x2 := hF1.facts.2.2.1
  go_cut [7] (fun s7 wx => s7 = .int .i64 pl ∧ Below W1.heap.size W1 wx)
  case first =>
    go_quiet (fail)
    go_wp2_with fail
    go_meet
    case rel => exact ⟨rfl, E.below_drewN _⟩
  case rest =>
    obtain ⟨rfl, hbc⟩ := hcut
    have hWc := hW1.below hbc
    have hFc := hF1.below hbc
    have Bc := B1.below hbc
    have hb2 := (hb1.mono hB).trans (hbc.mono (by have := hb1.size; omega))
    have hBc : B ≤ wc.heap.size := by have := hb2.size; omega
    clear c0 c1 c2 c3 c4 c5 c6 c7 x2 hW1 hF1 B1 hb1 hbc hu hp1 hm1 hm2 hm3 hp0 hz
    obtain ⟨c0, c1, c2, c3, c4, c5, c6, c7⟩ := Bc.facts
    dsimp only at c0 c1 c2 c3 c4 c5 c6 c7
    have cg1 := cg wc hFc
    clear cg
    go_upto_region 7 with (go_at_call 12; refine cg1.mono ?_; rintro e w4 ⟨u, rfl, hO, hb4⟩; obtain ⟨ou, cu, rfl⟩ := T.own_slice hO; have D4 := T.BoxN.new ⟨dno, ddev, dkind, dmode, duid, dgid, dmt, dct, dlinks, dup, ddata, des⟩ (.slice ou des.length cu) w4)
    have hb5 : Below wc.heap.size wc (w4.alloc (.cells #[.int .i64 dno, .int .i64 ddev, .int .i64 dkind, .int .i64 dmode, .int .i64 duid, .int .i64 dgid, .int .i64 dmt, .int .i64 dct, .int .i64 dlinks, .int .i64 dup, .string ddata, .slice ou des.length cu] 48)) := hb4.alloc hb4.size _
    have hO5 : E.Own B (.slice ou des.length cu) des _ := T.own_kept hO (T.EntKept.below ((Below.refl w4.heap.size w4).alloc (Nat.le_refl _) (.cells #[.int .i64 dno, .int .i64 ddev, .int .i64 dkind, .int .i64 dmode, .int .i64 duid, .int .i64 dgid, .int .i64 dmt, .int .i64 dct, .int .i64 dlinks, .int .i64 dup, .string ddata, .slice ou des.length cu] 48)))
    have hlt4 := hb4.size
    generalize w4.alloc (.cells #[.int .i64 dno, .int .i64 ddev, .int .i64 dkind, .int .i64 dmode, .int .i64 duid, .int .i64 dgid, .int .i64 dmt, .int .i64 dct, .int .i64 dlinks, .int .i64 dup, .string ddata, .slice ou des.length cu] 48) = W5 at D4 hb5 hO5 ⊢
    generalize w4.heap.size = b1 at D4 hlt4 ⊢
    have hW5 := hWc.below hb5
    have hF5 := hFc.below hb5
    have B5 := Bc.below hb5
    have hb6 := hb2.trans (hb5.mono hBc)
    have hB5 : B ≤ W5.heap.size := Nat.le_trans hBc hb5.size
    have hnv1 : ∀ g, nv.ownBlock = some g → g ≠ b1 := fun g hg => by have := hFc.lt (fS_row hg); omega
    have hB1 : B ≤ b1 := by omega
    clear c0 c1 c2 c3 c4 c5 c6 c7 cg1 hO hb4 hb5 hb2 hWc hFc Bc hlt4 hBc
    obtain ⟨c0, c1, c2, c3, c4, c5, c6, c7⟩ := B5.facts
    obtain ⟨a0, a1, a2, a3, a4, a5, a6, a7, a8, a9, a10, a11⟩ := D4.facts
    dsimp only at c0 c1 c2 c3 c4 c5 c6 c7 a0 a1 a2 a3 a4 a5 a6 a7 a8 a9 a10 a11
    have cfd := E.refFind_any hO5.sees name (by omega)
    generalize hnu : E.numOf des name = nu at *
    generalize hch : V.M.check name = ch at *
    have HNU := Lib.hid hnu
    have HCH := Lib.hid hch
    clear hnu hch
    have hvain : ∀ (P : dkind ≠ 1 ∨ kind < 1 ∨ 3 < kind ∨ ch ≠ 0 ∨ nu ≠ 0), r = st := fun P => HV.out (by unfold vain; rw [HNU.out, HCH.out]; exact P)
    have HVA := Lib.hid hvain
    clear hvain
    by_cases k1 : dkind = 1
    · subst k1
      by_cases k2 : kind < 1
      · obtain rfl := HVA.out (.inr (.inl k2))
        go_wp2
        go_ret
        exact ⟨rfl, ⟨mv, nv, dv, hW5, hF5⟩, hb6⟩
      · by_cases k3 : 3 < kind
        · obtain rfl := HVA.out (.inr (.inr (.inl k3)))
          go_wp2
          go_ret
          exact ⟨rfl, ⟨mv, nv, dv, hW5, hF5⟩, hb6⟩
        · by_cases k4 : ch = 0
          · subst k4
            by_cases k5 : nu = 0
            · subst k5
              obtain rfl := HN.out (by unfold vain; rw [HNU.out, HCH.out]; simp; omega)
              obtain ⟨hget, hdno⟩ := HGK.out rfl
              subst hdno
              go_upto_region 9 with (first
                | (go_at_call 47; refine (hck _).mono ?_; rintro e w6 ⟨rfl, rfl⟩)
                | (go_at_call 18; refine cfd.mono ?_; rintro e w6 ⟨rfl, rfl⟩))
              clear cfd hck HVA HV HN
              by_cases k6 : kind = 1
              · subst k6
                go_upto_region 10 with fail
                have D6 := T.BoxN.new ⟨0, ddev, 1, bits .and .i64 mode 1023, uid, gid, 0, 0, 1, 0, ⟨#[]⟩, []⟩ (.slice none 0 0) W5
                have hb7 : Below W5.heap.size W5 (W5.alloc (.cells #[.int .i64 0, .int .i64 ddev, .int .i64 1, .int .i64 (bits .and .i64 mode 1023), .int .i64 uid, .int .i64 gid, .int .i64 0, .int .i64 0, .int .i64 1, .int .i64 0, .string ⟨#[]⟩, .slice none 0 0] 48)) := (Below.refl _ _).alloc (Nat.le_refl _) _
                have hnv2 : ∀ g, nv.ownBlock = some g → g ≠ W5.heap.size := fun g hg => by have := hF5.lt (fS_row hg); omega
                have hne12 : b1 ≠ W5.heap.size := by have := D4.lt; omega
                have hW6 := hW5.below hb7
                have hF6 := hF5.below hb7
                have B6 := B5.below hb7
                have E6 := D4.below hb7
                have hO6 := hO5.below hb7
                have hb8 := hb6.trans (hb7.mono hB5)
                dsimp only at D6
                clear c0 c1 c2 c3 c4 c5 c6 c7 a0 a1 a2 a3 a4 a5 a6 a7 a8 a9 a10 a11 hW5 hF5 B5 D4 hO5 hb7 hb6
                generalize W5.alloc (.cells #[.int .i64 0, .int .i64 ddev, .int .i64 1, .int .i64 (bits .and .i64 mode 1023), .int .i64 uid, .int .i64 gid, .int .i64 0, .int .i64 0, .int .i64 1, .int .i64 0, .string ⟨#[]⟩, .slice none 0 0] 48) = W6 at *
                generalize W5.heap.size = b2 at *
                generalize hmd : bits .and .i64 mode 1023 = md at *
                have HMD := Lib.hid hmd
                clear hmd
                obtain ⟨c0, c1, c2, c3, c4, c5, c6, c7⟩ := B6.facts
                obtain ⟨a0, a1, a2, a3, a4, a5, a6, a7, a8, a9, a10, a11⟩ := D6.facts
                obtain ⟨f0, f1, f2, f3, f4, f5, f6, f7, f8, f9, f10, f11⟩ := D6.open
                dsimp only at c0 c1 c2 c3 c4 c5 c6 c7 a0 a1 a2 a3 a4 a5 a6 a7 a8 a9 a10 a11
                go_upto_region 13 with fail
                have D7 := box_set9 D6 dno
                have hW7 := hW6.boxed D6 9 (.int .i64 dno)
                have hF7 := hF6.boxed D6 hnv2 9 (.int .i64 dno)
                have B7 := B6.other D6 9 (.int .i64 dno)
                have E7 := E6.other hne12 9 (.int .i64 dno) (a := b2)
                have hO7 := T.own_kept hO6 (box_entKept D6 9 (.int .i64 dno))
                have hb9 := hb8.setCell (p := ⟨b2, 9, none⟩) hB5 (.int .i64 dno)
                dsimp only at D7
                have hB7 : B ≤ (W6.setCell ⟨b2, 9, none⟩ (.int .i64 dno)).heap.size := by rw [World.size_setCell]; have := D6.lt; omega
                clear c0 c1 c2 c3 c4 c5 c6 c7 a0 a1 a2 a3 a4 a5 a6 a7 a8 a9 a10 a11 f0 f1 f2 f3 f4 f5 f6 f7 f8 f9 f10 f11 hW6 hF6 B6 E6 hO6 hb8 D6
                generalize W6.setCell ⟨b2, 9, none⟩ (.int .i64 dno) = W7 at *
                obtain ⟨rr, hrr⟩ : ∃ rr, make st ⟨0, ddev, 1, md, uid, gid, 0, 0, 1, dno, (⟨#[]⟩ : ByteArray), []⟩ = rr := ⟨_, rfl⟩
                have cm := Make_any hW7 ⟨0, ddev, 1, md, uid, gid, 0, 0, 1, dno, (⟨#[]⟩ : ByteArray), []⟩ (.slice none 0 0) (fun W => E.sees_none none 0 (Nat.zero_le _) W) (by unfold T.Fits; show 0 * 24 ≤ _; decide) (by show (⟨#[]⟩ : ByteArray).size ≤ _; decide) (by omega) (by omega)
                have cf := fun W (hF : Fs ex B F nv dv st W) (hBW : B ≤ W.heap.size) => refMake_any HI.out hF ⟨0, ddev, 1, md, uid, gid, 0, 0, 1, dno, (⟨#[]⟩ : ByteArray), []⟩ (.slice none 0 0) (E.Own.nil _ _) (by show (⟨#[]⟩ : ByteArray).size ≤ _; decide) hBW (by omega) (by omega)
                have mg := make_get (x := ⟨0, ddev, 1, md, uid, gid, 0, 0, 1, dno, (⟨#[]⟩ : ByteArray), []⟩) hget
                have mr := make_rise (x := ⟨0, ddev, 1, md, uid, gid, 0, 0, 1, dno, (⟨#[]⟩ : ByteArray), []⟩) HI.out.rise HGV.out
                have ml := make_len (st := st) (x := ⟨0, ddev, 1, md, uid, gid, 0, 0, 1, dno, (⟨#[]⟩ : ByteArray), []⟩)
                rw [hrr] at cm cf mg mr ml
                have hnode : make st (node ⟨dno, ddev, 1, dmode, duid, dgid, dmt, dct, dlinks, dup, ddata, des⟩ ⟨dir, name, 1, mode, uid, gid, data, n⟩ dno) = rr := by
                  rw [← hrr]; unfold node; dsimp only; rw [HMD.out]; rw [if_pos rfl, if_pos rfl]
                obtain ⟨st', rx, ry⟩ := rr
                have HND := Lib.hid hnode
                dsimp only [T.Nd.v] at cm cf mg mr ml
                have HMG := Lib.hid mg
                have HMR := Lib.hid mr
                clear hrr hnode mg mr
                obtain ⟨a0, a1, a2, a3, a4, a5, a6, a7, a8, a9, a10, a11⟩ := D7.facts
                dsimp only at a0 a1 a2 a3 a4 a5 a6 a7 a8 a9 a10 a11
                go_upto_region 14 with (go_at_call 48; refine cm.mono ?_; rintro e w8 ⟨rfl, hW8, t8⟩)
                have hF8 := hF7.beside hW7 t8
                have D8 := box_turn D7 hW7 t8 (fun _ e => e)
                have E8 := box_turn E7 hW7 t8 (fun _ e => e)
                have B8 := B7.turnW hW7 t8
                have hO8 := T.own_kept hO7 (hW7.entKept t8)
                have hB8 : B ≤ w8.heap.size := Nat.le_trans hB7 t8.size
                have hb10 := hb9.trans (hW7.ofTurn t8 hB7)
                have cf8 := cf w8 hF8 hB8
                clear cm cf a0 a1 a2 a3 a4 a5 a6 a7 a8 a9 a10 a11 D7 E7 B7 hO7 hb9 hF7 hW7 t8
                obtain ⟨a0, a1, a2, a3, a4, a5, a6, a7, a8, a9, a10, a11⟩ := D8.facts
                dsimp only at a0 a1 a2 a3 a4 a5 a6 a7 a8 a9 a10 a11
                go_upto_region 15 with (go_at_call 49; refine cf8.mono ?_; rintro e w9 ⟨rfl, nv9, hF9, t9, k9⟩)
                have hW9 := hW8.beside hF8 t9
                have E9 := box_turnF E8 hF8 t9 hnv1
                have B9 := B8.turnF hF8 t9
                have hO9 := T.own_kept hO8 (hF8.entKept t9)
                have hB9 : B ≤ w9.heap.size := Nat.le_trans hB8 t9.size
                have hb11 := hb10.trans (hF8.ofTurn t9 hB8)
                have hnv9 : ∀ g, nv9.ownBlock = some g → g ≠ b1 := fun g hg e => by
                  subst e
                  rcases k9 g (fS_row hg) with h | h
                  · exact hF8.notBox E8 hnv1 h
                  · have := E8.lt; omega
                clear cf8 a0 a1 a2 a3 a4 a5 a6 a7 a8 a9 a10 a11 D8 E8 B8 hO8 hb10 hF8 hW8 t9 k9 hnv1 hnv2
                by_cases hry : ry = 0
                · subst hry
                  obtain ⟨c0, c1, c2, c3, c4, c5, c6, c7⟩ := B9.facts
                  have a11 := E9.facts.2.2.2.2.2.2.2.2.2.2.2
                  have f11 := E9.open.2.2.2.2.2.2.2.2.2.2.2
                  dsimp only at c1 a11
                  have cp := E.refPut_any ⟨name, rx⟩ hO9.sees (by omega)
                  dsimp only at cp
                  go_upto_region 18 with fail
                  clear f11
                  go_upto_region 19 with (go_at_call 50; refine cp.mono ?_; rintro e w10 ⟨u10, rfl, hP, hb12⟩; obtain ⟨ou10, cu10, rfl⟩ := T.own_slice hP; have E10 := E9.below hb12; have f11 := E10.open.2.2.2.2.2.2.2.2.2.2.2; have a11' := E10.facts.2.2.2.2.2.2.2.2.2.2.2)
                  have D11 := E10.set11 (.slice ou10 (E.put des ⟨name, rx⟩).length cu10)
                  have hW10 := hW9.below hb12
                  have hF10 := hF9.below hb12
                  have hW11 := hW10.boxed E10 11 (.slice ou10 (E.put des ⟨name, rx⟩).length cu10)
                  have hF11 := hF10.boxed E10 hnv9 11 (.slice ou10 (E.put des ⟨name, rx⟩).length cu10)
                  have hO11 : E.Own B _ _ _ := T.own_kept (hP.mono hB9) (box_entKept E10 11 (.slice ou10 (E.put des ⟨name, rx⟩).length cu10))
                  have hb13 := (hb11.trans (hb12.mono hB9)).setCell (p := ⟨b1, 11, none⟩) hB1 (.slice ou10 (E.put des ⟨name, rx⟩).length cu10)
                  have hs10 := hb12.size
                  clear a11 f11 a11' cp hP hb12 hW9 hF9 hW10 hF10 E9 E10 B9 hO9 hb11 c0 c1 c2 c3 c4 c5 c6 c7
                  have hfit : T.Fits (E.put des ⟨name, rx⟩) := by
                    unfold T.Fits E.put
                    have h1 := E.lo_len des name
                    have h2 := E.hi_len des name
                    rw [List.length_append, List.length_append]
                    show ((E.lo des name).length + 1 + (E.hi des name).length) * 24 ≤ _
                    omega
                  have HFIT := Lib.hid hfit
                  generalize hes' : E.put des ⟨name, rx⟩ = es' at *
                  have HES := Lib.hid hes'
                  have hB11 : B ≤ (w10.setCell ⟨b1, 11, none⟩ (.slice ou10 es'.length cu10)).heap.size := by rw [World.size_setCell]; omega
                  clear hes' hfit
                  generalize w10.setCell ⟨b1, 11, none⟩ (.slice ou10 es'.length cu10) = W11 at *
                  have cs1 := refSet_any hF11 HMR.out ⟨dno, ddev, 1, dmode, duid, dgid, dmt, dct, dlinks, dup, ddata, es'⟩ (.slice ou10 es'.length cu10) hO11 (by omega)
                  have cs2 := fun W (hW : Wd B X A M mv st' W) (hO : E.Own B (.slice ou10 es'.length cu10) es' W) => Set_st hW ⟨dno, ddev, 1, dmode, duid, dgid, dmt, dct, dlinks, dup, ddata, es'⟩ (.slice ou10 es'.length cu10) hO.sees HFIT.out (T.wf_of (by show _ ≤ dno; omega) (by show dno ≤ _; omega)) (by omega)
                  rw [show (get st'.n (T.Nd.no ⟨dno, ddev, 1, dmode, duid, dgid, dmt, dct, dlinks, dup, ddata, es'⟩)).isSome = true by show (get st'.n dno).isSome = true; rw [HMG.out]; rfl] at cs2
                  dsimp only [T.Nd.v] at cs1 cs2
                  obtain ⟨a0, a1, a2, a3, a4, a5, a6, a7, a8, a9, a10, a11⟩ := D11.facts
                  dsimp only at a0 a1 a2 a3 a4 a5 a6 a7 a8 a9 a10 a11
                  go_upto_region 20 with (go_at_call 51; refine cs1.mono ?_; rintro e w12 ⟨rfl, hF12, t12⟩)
                  have hW12 := hW11.beside hF11 t12
                  have D12 := box_turnF D11 hF11 t12 hnv9
                  have hO12 := T.own_kept hO11 (hF11.entKept t12)
                  have hb14 := hb13.trans (hF11.ofTurn t12 hB11)
                  have hB12 : B ≤ w12.heap.size := Nat.le_trans hB11 t12.size
                  have hdr : Below w12.heap.size w12 w12.drew := (Below.refl _ _).drew
                  have D13 := D12.below hdr
                  have hW13 := hW12.below hdr
                  have hF13 := hF12.below hdr
                  have hb15 := hb14.trans (hdr.mono hB12)
                  have cs3 := cs2 _ hW13 (hO12.below hdr)
                  have x0 := hW13.head1
                  have hs12 : w12.heap.size ≤ w12.drew.heap.size := hdr.size
                  have hB13 : B ≤ w12.drew.heap.size := Nat.le_trans hB12 hs12
                  clear cs1 cs2 a0 a1 a2 a3 a4 a5 a6 a7 a8 a9 a10 a11 D11 D12 hW11 hW12 hF11 hF12 t12 hO11 hb13 hb14 hdr hO12
                  go_region_held3 (fun w' => w'.cell? ⟨b1, 0, none⟩ = some (.int .i64 dno) ∧ w'.cell? ⟨b1, 1, none⟩ = some (.int .i64 ddev) ∧ w'.cell? ⟨b1, 2, none⟩ = some (.int .i64 1) ∧ w'.cell? ⟨b1, 3, none⟩ = some (.int .i64 dmode) ∧
                      w'.cell? ⟨b1, 4, none⟩ = some (.int .i64 duid) ∧ w'.cell? ⟨b1, 5, none⟩ = some (.int .i64 dgid) ∧ w'.cell? ⟨b1, 6, none⟩ = some (.int .i64 dmt) ∧ w'.cell? ⟨b1, 7, none⟩ = some (.int .i64 dct) ∧
                      w'.cell? ⟨b1, 8, none⟩ = some (.int .i64 dlinks) ∧ w'.cell? ⟨b1, 9, none⟩ = some (.int .i64 dup) ∧ w'.cell? ⟨b1, 10, none⟩ = some (.string ddata) ∧ w'.cell? ⟨b1, 11, none⟩ = some (.slice ou10 es'.length cu10) ∧ w'.cell? ⟨X, 0, none⟩ = some (.pointer (some ⟨A, 0, none⟩)))
                    (with_reducible first | exact and12 D14.facts H14.head1 | exact and12 D13.facts x0)
                    (first | (go_at_call 38; refine cs3.mono ?_; rintro e w14 ⟨rfl, H14, t14⟩; have D14 := box_turn D13 hW13 t14.tab (fun _ e => e)))
                  go_wp2
                  go_ret
                  rw [HND.out, named_ok rfl]
                  dsimp only
                  rw [HES.out]
                  exact ⟨rfl, ⟨mv, nv9, dv, H14, hF13.beside hW13 t14.tab⟩, hb15.trans (hW13.ofTurn t14.tab hB13)⟩
                · have hry' : (ry == 0) = false := by simpa using hry
                  go_wp2
                  go_ret
                  rw [HND.out, named_err hry]
                  exact ⟨rfl, ⟨mv, nv9, dv, hW9, hF9⟩, hb11⟩
              · have k6' : (kind == 1) = false := by simpa using k6
                go_upto_region 10 with fail
                have D6 := T.BoxN.new ⟨0, ddev, kind, bits .and .i64 mode 1023, uid, gid, 0, 0, 1, 0, ⟨#[]⟩, []⟩ (.slice none 0 0) W5
                have hb7 : Below W5.heap.size W5 (W5.alloc (.cells #[.int .i64 0, .int .i64 ddev, .int .i64 kind, .int .i64 (bits .and .i64 mode 1023), .int .i64 uid, .int .i64 gid, .int .i64 0, .int .i64 0, .int .i64 1, .int .i64 0, .string ⟨#[]⟩, .slice none 0 0] 48)) := (Below.refl _ _).alloc (Nat.le_refl _) _
                have hnv2 : ∀ g, nv.ownBlock = some g → g ≠ W5.heap.size := fun g hg => by have := hF5.lt (fS_row hg); omega
                have hne12 : b1 ≠ W5.heap.size := by have := D4.lt; omega
                have hW6 := hW5.below hb7
                have hF6 := hF5.below hb7
                have B6 := B5.below hb7
                have E6 := D4.below hb7
                have hO6 := hO5.below hb7
                have hb8 := hb6.trans (hb7.mono hB5)
                dsimp only at D6
                clear c0 c1 c2 c3 c4 c5 c6 c7 a0 a1 a2 a3 a4 a5 a6 a7 a8 a9 a10 a11 hW5 hF5 B5 D4 hO5 hb7 hb6
                generalize W5.alloc (.cells #[.int .i64 0, .int .i64 ddev, .int .i64 kind, .int .i64 (bits .and .i64 mode 1023), .int .i64 uid, .int .i64 gid, .int .i64 0, .int .i64 0, .int .i64 1, .int .i64 0, .string ⟨#[]⟩, .slice none 0 0] 48) = W6 at *
                generalize W5.heap.size = b2 at *
                generalize hmd : bits .and .i64 mode 1023 = md at *
                have HMD := Lib.hid hmd
                clear hmd
                obtain ⟨c0, c1, c2, c3, c4, c5, c6, c7⟩ := B6.facts
                obtain ⟨a0, a1, a2, a3, a4, a5, a6, a7, a8, a9, a10, a11⟩ := D6.facts
                obtain ⟨f0, f1, f2, f3, f4, f5, f6, f7, f8, f9, f10, f11⟩ := D6.open
                dsimp only at c0 c1 c2 c3 c4 c5 c6 c7 a0 a1 a2 a3 a4 a5 a6 a7 a8 a9 a10 a11
                go_upto_region 13 with fail
                have D7 := box_set10 D6 data
                have hW7 := hW6.boxed D6 10 (.string data)
                have hF7 := hF6.boxed D6 hnv2 10 (.string data)
                have B7 := B6.other D6 10 (.string data)
                have E7 := E6.other hne12 10 (.string data) (a := b2)
                have hO7 := T.own_kept hO6 (box_entKept D6 10 (.string data))
                have hb9 := hb8.setCell (p := ⟨b2, 10, none⟩) hB5 (.string data)
                dsimp only at D7
                have hB7 : B ≤ (W6.setCell ⟨b2, 10, none⟩ (.string data)).heap.size := by rw [World.size_setCell]; have := D6.lt; omega
                clear c0 c1 c2 c3 c4 c5 c6 c7 a0 a1 a2 a3 a4 a5 a6 a7 a8 a9 a10 a11 f0 f1 f2 f3 f4 f5 f6 f7 f8 f9 f10 f11 hW6 hF6 B6 E6 hO6 hb8 D6
                generalize W6.setCell ⟨b2, 10, none⟩ (.string data) = W7 at *
                obtain ⟨rr, hrr⟩ : ∃ rr, make st ⟨0, ddev, kind, md, uid, gid, 0, 0, 1, 0, data, []⟩ = rr := ⟨_, rfl⟩
                have cm := Make_any hW7 ⟨0, ddev, kind, md, uid, gid, 0, 0, 1, 0, data, []⟩ (.slice none 0 0) (fun W => E.sees_none none 0 (Nat.zero_le _) W) (by unfold T.Fits; show 0 * 24 ≤ _; decide) (by show data.size ≤ _; omega) (by omega) (by omega)
                have cf := fun W (hF : Fs ex B F nv dv st W) (hBW : B ≤ W.heap.size) => refMake_any HI.out hF ⟨0, ddev, kind, md, uid, gid, 0, 0, 1, 0, data, []⟩ (.slice none 0 0) (E.Own.nil _ _) (by show data.size ≤ _; omega) hBW (by omega) (by omega)
                have mg := make_get (x := ⟨0, ddev, kind, md, uid, gid, 0, 0, 1, 0, data, []⟩) hget
                have mr := make_rise (x := ⟨0, ddev, kind, md, uid, gid, 0, 0, 1, 0, data, []⟩) HI.out.rise HGV.out
                have ml := make_len (st := st) (x := ⟨0, ddev, kind, md, uid, gid, 0, 0, 1, 0, data, []⟩)
                rw [hrr] at cm cf mg mr ml
                have hnode : make st (node ⟨dno, ddev, 1, dmode, duid, dgid, dmt, dct, dlinks, dup, ddata, des⟩ ⟨dir, name, kind, mode, uid, gid, data, n⟩ dno) = rr := by
                  rw [← hrr]; unfold node; dsimp only; rw [HMD.out]; rw [if_neg k6, if_neg k6]
                obtain ⟨st', rx, ry⟩ := rr
                have HND := Lib.hid hnode
                dsimp only [T.Nd.v] at cm cf mg mr ml
                have HMG := Lib.hid mg
                have HMR := Lib.hid mr
                clear hrr hnode mg mr
                obtain ⟨a0, a1, a2, a3, a4, a5, a6, a7, a8, a9, a10, a11⟩ := D7.facts
                dsimp only at a0 a1 a2 a3 a4 a5 a6 a7 a8 a9 a10 a11
                go_upto_region 14 with (go_at_call 48; refine cm.mono ?_; rintro e w8 ⟨rfl, hW8, t8⟩)
                have hF8 := hF7.beside hW7 t8
                have D8 := box_turn D7 hW7 t8 (fun _ e => e)
                have E8 := box_turn E7 hW7 t8 (fun _ e => e)
                have B8 := B7.turnW hW7 t8
                have hO8 := T.own_kept hO7 (hW7.entKept t8)
                have hB8 : B ≤ w8.heap.size := Nat.le_trans hB7 t8.size
                have hb10 := hb9.trans (hW7.ofTurn t8 hB7)
                have cf8 := cf w8 hF8 hB8
                clear cm cf a0 a1 a2 a3 a4 a5 a6 a7 a8 a9 a10 a11 D7 E7 B7 hO7 hb9 hF7 hW7 t8
                obtain ⟨a0, a1, a2, a3, a4, a5, a6, a7, a8, a9, a10, a11⟩ := D8.facts
                dsimp only at a0 a1 a2 a3 a4 a5 a6 a7 a8 a9 a10 a11
                go_upto_region 15 with (go_at_call 49; refine cf8.mono ?_; rintro e w9 ⟨rfl, nv9, hF9, t9, k9⟩)
                have hW9 := hW8.beside hF8 t9
                have E9 := box_turnF E8 hF8 t9 hnv1
                have B9 := B8.turnF hF8 t9
                have hO9 := T.own_kept hO8 (hF8.entKept t9)
                have hB9 : B ≤ w9.heap.size := Nat.le_trans hB8 t9.size
                have hb11 := hb10.trans (hF8.ofTurn t9 hB8)
                have hnv9 : ∀ g, nv9.ownBlock = some g → g ≠ b1 := fun g hg e => by
                  subst e
                  rcases k9 g (fS_row hg) with h | h
                  · exact hF8.notBox E8 hnv1 h
                  · have := E8.lt; omega
                clear cf8 a0 a1 a2 a3 a4 a5 a6 a7 a8 a9 a10 a11 D8 E8 B8 hO8 hb10 hF8 hW8 t9 k9 hnv1 hnv2
                by_cases hry : ry = 0
                · subst hry
                  obtain ⟨c0, c1, c2, c3, c4, c5, c6, c7⟩ := B9.facts
                  have a11 := E9.facts.2.2.2.2.2.2.2.2.2.2.2
                  have f11 := E9.open.2.2.2.2.2.2.2.2.2.2.2
                  dsimp only at c1 a11
                  have cp := E.refPut_any ⟨name, rx⟩ hO9.sees (by omega)
                  dsimp only at cp
                  go_upto_region 18 with fail
                  clear f11
                  go_upto_region 19 with (go_at_call 50; refine cp.mono ?_; rintro e w10 ⟨u10, rfl, hP, hb12⟩; obtain ⟨ou10, cu10, rfl⟩ := T.own_slice hP; have E10 := E9.below hb12; have f11 := E10.open.2.2.2.2.2.2.2.2.2.2.2; have a11' := E10.facts.2.2.2.2.2.2.2.2.2.2.2)
                  have D11 := E10.set11 (.slice ou10 (E.put des ⟨name, rx⟩).length cu10)
                  have hW10 := hW9.below hb12
                  have hF10 := hF9.below hb12
                  have hW11 := hW10.boxed E10 11 (.slice ou10 (E.put des ⟨name, rx⟩).length cu10)
                  have hF11 := hF10.boxed E10 hnv9 11 (.slice ou10 (E.put des ⟨name, rx⟩).length cu10)
                  have hO11 : E.Own B _ _ _ := T.own_kept (hP.mono hB9) (box_entKept E10 11 (.slice ou10 (E.put des ⟨name, rx⟩).length cu10))
                  have hb13 := (hb11.trans (hb12.mono hB9)).setCell (p := ⟨b1, 11, none⟩) hB1 (.slice ou10 (E.put des ⟨name, rx⟩).length cu10)
                  have hs10 := hb12.size
                  clear a11 f11 a11' cp hP hb12 hW9 hF9 hW10 hF10 E9 E10 B9 hO9 hb11 c0 c1 c2 c3 c4 c5 c6 c7
                  have hfit : T.Fits (E.put des ⟨name, rx⟩) := by
                    unfold T.Fits E.put
                    have h1 := E.lo_len des name
                    have h2 := E.hi_len des name
                    rw [List.length_append, List.length_append]
                    show ((E.lo des name).length + 1 + (E.hi des name).length) * 24 ≤ _
                    omega
                  have HFIT := Lib.hid hfit
                  generalize hes' : E.put des ⟨name, rx⟩ = es' at *
                  have HES := Lib.hid hes'
                  have hB11 : B ≤ (w10.setCell ⟨b1, 11, none⟩ (.slice ou10 es'.length cu10)).heap.size := by rw [World.size_setCell]; omega
                  clear hes' hfit
                  generalize w10.setCell ⟨b1, 11, none⟩ (.slice ou10 es'.length cu10) = W11 at *
                  have cs1 := refSet_any hF11 HMR.out ⟨dno, ddev, 1, dmode, duid, dgid, dmt, dct, dlinks, dup, ddata, es'⟩ (.slice ou10 es'.length cu10) hO11 (by omega)
                  have cs2 := fun W (hW : Wd B X A M mv st' W) (hO : E.Own B (.slice ou10 es'.length cu10) es' W) => Set_st hW ⟨dno, ddev, 1, dmode, duid, dgid, dmt, dct, dlinks, dup, ddata, es'⟩ (.slice ou10 es'.length cu10) hO.sees HFIT.out (T.wf_of (by show _ ≤ dno; omega) (by show dno ≤ _; omega)) (by omega)
                  rw [show (get st'.n (T.Nd.no ⟨dno, ddev, 1, dmode, duid, dgid, dmt, dct, dlinks, dup, ddata, es'⟩)).isSome = true by show (get st'.n dno).isSome = true; rw [HMG.out]; rfl] at cs2
                  dsimp only [T.Nd.v] at cs1 cs2
                  obtain ⟨a0, a1, a2, a3, a4, a5, a6, a7, a8, a9, a10, a11⟩ := D11.facts
                  dsimp only at a0 a1 a2 a3 a4 a5 a6 a7 a8 a9 a10 a11
                  go_upto_region 20 with (go_at_call 51; refine cs1.mono ?_; rintro e w12 ⟨rfl, hF12, t12⟩)
                  have hW12 := hW11.beside hF11 t12
                  have D12 := box_turnF D11 hF11 t12 hnv9
                  have hO12 := T.own_kept hO11 (hF11.entKept t12)
                  have hb14 := hb13.trans (hF11.ofTurn t12 hB11)
                  have hB12 : B ≤ w12.heap.size := Nat.le_trans hB11 t12.size
                  have hdr : Below w12.heap.size w12 w12.drew := (Below.refl _ _).drew
                  have D13 := D12.below hdr
                  have hW13 := hW12.below hdr
                  have hF13 := hF12.below hdr
                  have hb15 := hb14.trans (hdr.mono hB12)
                  have cs3 := cs2 _ hW13 (hO12.below hdr)
                  have x0 := hW13.head1
                  have hs12 : w12.heap.size ≤ w12.drew.heap.size := hdr.size
                  have hB13 : B ≤ w12.drew.heap.size := Nat.le_trans hB12 hs12
                  clear cs1 cs2 a0 a1 a2 a3 a4 a5 a6 a7 a8 a9 a10 a11 D11 D12 hW11 hW12 hF11 hF12 t12 hO11 hb13 hb14 hdr hO12
                  go_region_held3 (fun w' => w'.cell? ⟨b1, 0, none⟩ = some (.int .i64 dno) ∧ w'.cell? ⟨b1, 1, none⟩ = some (.int .i64 ddev) ∧ w'.cell? ⟨b1, 2, none⟩ = some (.int .i64 1) ∧ w'.cell? ⟨b1, 3, none⟩ = some (.int .i64 dmode) ∧
                      w'.cell? ⟨b1, 4, none⟩ = some (.int .i64 duid) ∧ w'.cell? ⟨b1, 5, none⟩ = some (.int .i64 dgid) ∧ w'.cell? ⟨b1, 6, none⟩ = some (.int .i64 dmt) ∧ w'.cell? ⟨b1, 7, none⟩ = some (.int .i64 dct) ∧
                      w'.cell? ⟨b1, 8, none⟩ = some (.int .i64 dlinks) ∧ w'.cell? ⟨b1, 9, none⟩ = some (.int .i64 dup) ∧ w'.cell? ⟨b1, 10, none⟩ = some (.string ddata) ∧ w'.cell? ⟨b1, 11, none⟩ = some (.slice ou10 es'.length cu10) ∧ w'.cell? ⟨X, 0, none⟩ = some (.pointer (some ⟨A, 0, none⟩)))
                    (with_reducible first | exact and12 D14.facts H14.head1 | exact and12 D13.facts x0)
                    (first | (go_at_call 38; refine cs3.mono ?_; rintro e w14 ⟨rfl, H14, t14⟩; have D14 := box_turn D13 hW13 t14.tab (fun _ e => e)))
                  go_wp2
                  go_ret
                  rw [HND.out, named_ok rfl]
                  dsimp only
                  rw [HES.out]
                  exact ⟨rfl, ⟨mv, nv9, dv, H14, hF13.beside hW13 t14.tab⟩, hb15.trans (hW13.ofTurn t14.tab hB13)⟩
                · have hry' : (ry == 0) = false := by simpa using hry
                  go_wp2
                  go_ret
                  rw [HND.out, named_err hry]
                  exact ⟨rfl, ⟨mv, nv9, dv, hW9, hF9⟩, hb11⟩
            · have k5' : (nu == 0) = false := by simpa using k5
              obtain rfl := HVA.out (.inr (.inr (.inr (.inr k5))))
              go_wp2_with (first
                | (go_at_call 47; refine (hck _).mono ?_; rintro e w6 ⟨rfl, rfl⟩)
                | (go_at_call 18; refine cfd.mono ?_; rintro e w6 ⟨rfl, rfl⟩))
              go_ret
              exact ⟨rfl, ⟨mv, nv, dv, hW5, hF5⟩, hb6⟩
          · have k4' : (ch == 0) = false := by simpa using k4
            obtain rfl := HVA.out (.inr (.inr (.inr (.inl k4))))
            go_wp2_with (go_at_call 47; refine (hck _).mono ?_; rintro e w6 ⟨rfl, rfl⟩)
            go_ret
            exact ⟨rfl, ⟨mv, nv, dv, hW5, hF5⟩, hb6⟩
    · have k1' : (dkind == 1) = false := by simpa using k1
      obtain rfl := HVA.out (.inl k1)
      go_wp2
      go_ret
      exact ⟨rfl, ⟨mv, nv, dv, hW5, hF5⟩, hb6⟩
end
end Go.Proofs.YtenopnfclbegbaaGreat.G
