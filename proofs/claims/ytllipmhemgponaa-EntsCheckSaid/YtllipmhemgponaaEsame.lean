/-
  The law's same: the entries of two slices that hold the same ones.
-/
import Derived.Test.YtllipmhemgponaaEround
namespace Go.Proofs.Ytllipmhemgponaa.E
open Go.RowKit Go.Shelf
attribute [local go_sem] Oper.semAt_some

theorem equal_nil (b : Array Value) (W : World) : (Op.equal 42 (.func (.func 21) #[] b) .nilFunc).run Try.prog W = .ok false W := by
  have hu := run_underlying Try.underlying42
  have h : Op.equal 42 (.func (.func 21) #[] b) .nilFunc = Op.equalIn (9999 + 1) 42 (.func (.func 21) #[] b) .nilFunc := rfl
  rw [h, Op.equalIn]
  simp [go_sem, hu]
theorem hnil (b : Array Value) (W : World) : (binOp .eql 42 (.func (.func 21) #[] b) .nilFunc).run Try.prog W = .ok (.bool false) W := by
  simp [binOp, go_sem, equal_nil]
theorem Boxed.below {W W' : World} {B : Nat} {t : TypeId} {v : Value} (h : Boxed W B t v) (hb : Below W.heap.size W W') : Boxed W' B t v := (hb.block B h.lt).trans h
theorem prefix_step {xs pre : List Ent} {x y : Ent} (h : pre = xs.take pre.length) (hy : xs[pre.length]? = some y) (hxy : x = y) : pre ++ [x] = xs.take (pre ++ [x]).length := by
  rw [List.length_append, List.length_singleton, List.take_add_one, hy, ← h, hxy]; rfl
theorem bad_step {xs pre : List Ent} {x y : Ent} (hy : xs[pre.length]? = some y) (hxy : x ≠ y) : ¬ (pre ++ [x]) <+: xs := by
  rintro ⟨r, hr⟩
  rw [← hr] at hy
  simp at hy
  exact hxy hy
theorem ent_ne {x y : Ent} (h : x ≠ y) : (¬ x.name = y.name) ∨ (x.name = y.name ∧ ¬ x.no = y.no) := by
  by_cases h1 : x.name = y.name
  · exact .inr ⟨h1, fun h2 => h (by cases x; cases y; simp_all)⟩
  · exact .inl h1

set_option maxRecDepth 100000 in
set_option maxHeartbeats 8000000 in
theorem same_any (a b : Value) (xs : List Ent) (w : World) (ha : Sees a xs w) (hb : Sees b xs w) (hl : xs.length ≤ 100000) :
    Calls Try.prog 11 #[a, b] w fun e w' => e = .returned (.bool true) ∧ Below w.heap.size w w' := by
  have HA := Lib.hid ha; have HB := Lib.hid hb
  obtain ⟨oa, ca, rfl, _, hca⟩ := ha
  obtain ⟨ob, cb, rfl, _, hcb⟩ := hb
  have HCA := Lib.hid hca; have HCB := Lib.hid hcb
  clear hca hcb
  have b0 := ((Boxed.new w 22 (.slice oa xs.length ca)).alloc (.cells #[.slice ob xs.length cb] 22)).alloc (.cells #[.bool false] 4)
  have b1 := (Boxed.new (w.alloc (.cells #[.slice oa xs.length ca] 22)) 22 (.slice ob xs.length cb)).alloc (.cells #[.bool false] 4)
  have b2 := Boxed.new ((w.alloc (.cells #[.slice oa xs.length ca] 22)).alloc (.cells #[.slice ob xs.length cb] 22)) 4 (.bool false)
  have hB3 : Below w.heap.size w (((w.alloc (.cells #[.slice oa xs.length ca] 22)).alloc (.cells #[.slice ob xs.length cb] 22)).alloc (.cells #[.bool false] 4)) :=
    (((Below.refl _ w).alloc (Nat.le_refl _) _).alloc (by simp) _).alloc (by simp; omega) _
  have hs3 : (((w.alloc (.cells #[.slice oa xs.length ca] 22)).alloc (.cells #[.slice ob xs.length cb] 22)).alloc (.cells #[.bool false] 4)).heap.size = w.heap.size + 3 := by simp
  simp only [World.size_alloc] at b1 b2
  have call := all_any (HA.out.below hB3) hl
  refine (callsIn_wide (n := 5)).1 ?_
  refine callsIn_of_wp_marks Try.func11 rfl trivial ?_ rfl
  simp only [Try.ntmps11, List.size_toArray, List.length_cons, List.length_nil, Nat.reduceAdd, Nat.reduceSub, Array.replicate_succ, Array.replicate_zero, List.push_toArray, List.append_toArray, List.nil_append, List.cons_append]
  gi_wp2_with fail
  generalize ((w.alloc (.cells #[.slice oa xs.length ca] 22)).alloc (.cells #[.slice ob xs.length cb] 22)).alloc (.cells #[.bool false] 4) = W3 at b0 b1 b2 hB3 hs3 call ⊢
  have HX := Lib.hid (And.intro b0 (And.intro b1 b2)); have HB3 := Lib.hid hB3; have HS3 := Lib.hid hs3
  clear b0 b1 b2 hB3 hs3
  gi_wp2_with (refine ⟨trivial, ?_⟩; gi_at_call 17; refine (callsIn_wide.2 call).mono ?_; rintro e w1 ⟨b9, u, rfl, hbx, hb9, hO, hb⟩
               have hos := hO.sees
               obtain ⟨ou, cu, rfl, _, hcu⟩ := hos
               have HU := Lib.hid hcu
               have HO := Lib.hid hO
               have HBX := Lib.hid hbx
               have HB1 := Lib.hid hb
               have e0 := (Boxed.below HX.out.1 hb).cell
               have e1 := (Boxed.below HX.out.2.1 hb).cell
               have hne := hnil #[.pointer (some ⟨b9, 0, none⟩)] w1
               clear hbx hO hcu hb)
  have c0 := (Boxed.below HX.out.1 HB1.out).alloc (.cells #[.int .i64 0] 3)
  have c1 := (Boxed.below HX.out.2.1 HB1.out).alloc (.cells #[.int .i64 0] 3)
  have c2 := (Boxed.below HX.out.2.2 HB1.out).alloc (.cells #[.int .i64 0] 3)
  have ck := Boxed.new w1 3 (.int .i64 0)
  have cx := HBX.out.alloc (.cells #[.int .i64 0] 3)
  have hb91 : b9 < w1.heap.size := HBX.out.lt
  have hs1 : w.heap.size + 3 ≤ w1.heap.size := by have := HS3.out; have := HB1.out.size; omega
  have hlow : Low w1.heap.size ou xs (w1.alloc (.cells #[.int .i64 0] 3)) := fun k x hx => by
    obtain ⟨g, o, e, d0, d1⟩ := HU.out k x hx
    have hg := World.block_lt_of_cell? _ _ d0
    have hbb : Below w1.heap.size w1 (w1.alloc (.cells #[.int .i64 0] 3)) := (Below.refl _ _).alloc (Nat.le_refl _) _
    exact ⟨g, o, e, hg, (hbb.cell (p := ⟨g, o + k * 2, none⟩) hg).trans d0, (hbb.cell (p := ⟨g, o + k * 2 + 1, none⟩) hg).trans d1⟩
  have hBW : Below w.heap.size w (w1.alloc (.cells #[.int .i64 0] 3)) := (below_two HB3.out HB1.out).alloc (by omega) _
  have hsz0 : (w1.alloc (.cells #[.int .i64 0] 3)).heap.size = w1.heap.size + 1 := by simp
  generalize w1.alloc (.cells #[.int .i64 0] 3) = W0 at c0 c1 c2 ck cx hlow hBW hsz0 ⊢
  obtain ⟨bk, hbk⟩ : ∃ bk, w1.heap.size = bk := ⟨_, rfl⟩
  rw [hbk] at ck hb91 hs1 hlow hsz0 ⊢
  have HBK := Lib.hid hbk
  have HL := Lib.hid hlow
  clear hbk hlow e0 e1 hne
  refine wpIn_rangeFunc_ownG rfl (by omega) (gf := 21) (lb := #[.pointer (some ⟨b9, 0, none⟩)]) rfl trivial (enters_of Try.func21 (by kernel_rfl) rfl)
    (all_stops _ (by omega) b9 bk xs hl ou cu W0 hb91 (by omega) cx.cell HL.out) belowK_t (belowK_b (by omega)) (Below.refl _ _) (fun _ => rfl)
    (fun pre W => (pre = xs.take pre.length ∧ pre.length ≤ xs.length) ∧ Boxed W w.heap.size 22 (.slice oa xs.length ca) ∧ Boxed W (w.heap.size + 1) 22 (.slice ob xs.length cb) ∧ Boxed W (w.heap.size + 1 + 1) 4 (.bool false) ∧ Boxed W bk 3 (.int .i64 pre.length) ∧ Below w.heap.size w W)
    (fun _ pre W => ¬ pre <+: xs ∧ Below w.heap.size w W)
    (OwnFrom.and (ownFrom_pure _ _) (OwnFrom.and (Own.from (boxed_own _ _ (fun _ => .slice oa xs.length ca)) _) (OwnFrom.and (Own.from (boxed_own _ _ (fun _ => .slice ob xs.length cb)) _) (OwnFrom.and (Own.from (boxed_own _ _ (fun _ => .bool false)) _) (OwnFrom.and (Own.from (boxed_own _ _ (fun pre : List Ent => .int .i64 pre.length)) _) (ownFrom_below (Nat.le_refl _) (by omega)))))))
    (fun c => OwnFrom.and (ownFrom_pure _ _) (ownFrom_below (Nat.le_refl _) (by omega)))
    ⟨⟨rfl, Nat.zero_le _⟩, c0, c1, c2, ck, hBW⟩
    ?a1 ?assign ?body ?done ?stop
  case assign =>
    intro l x W K hK
    gi_wp2
    exact hK
  case body =>
    clear c0 c1 c2 ck cx hBW
    rintro l pre x W ⟨⟨hG, hlm⟩, c0, c1, c2, c4, hB⟩ hN
    obtain ⟨y, hy⟩ : ∃ y, xs[pre.length]? = some y := ⟨_, List.getElem?_eq_getElem hN⟩
    obtain ⟨g1, o1, rfl, d0, d1⟩ := HCA.out _ y hy
    obtain ⟨g2, o2, rfl, f0, f1⟩ := HCB.out _ y hy
    have hg1 := World.block_lt_of_cell? _ _ d0
    have hg2 := World.block_lt_of_cell? _ _ f0
    have p0 := (hB.cell (p := ⟨g1, o1 + pre.length * 2, none⟩) hg1).trans d0
    have p1 := (hB.cell (p := ⟨g1, o1 + pre.length * 2 + 1, none⟩) hg1).trans d1
    have q0 := (hB.cell (p := ⟨g2, o2 + pre.length * 2, none⟩) hg2).trans f0
    have q1 := (hB.cell (p := ⟨g2, o2 + pre.length * 2 + 1, none⟩) hg2).trans f1
    have r0 := c0.cell
    have r1 := c1.cell
    have r2 := c2.cell
    have f2 := c2.frozen
    have r4 := c4.cell
    have f4 := c4.frozen
    have hNi : (pre.length : Int) < (xs.length : Int) := by omega
    have hNn : ¬ xs.length ≤ pre.length := by omega
    have HG := Lib.hid hG; have HY := Lib.hid hy; have HBB := Lib.hid hB
    have C0 := Lib.hid c0; have C1 := Lib.hid c1; have C2 := Lib.hid c2; have C4 := Lib.hid c4
    clear d0 d1 f0 f1 hG hy hB c0 c1 c2 c4
    by_cases hx : x = y
    · subst hx
      gi_wp2
      refine wpIn_region_quietR (by kernel_rfl) (by kernel_rfl) (by kernel_rfl) ?_
      repeat (gi_big_quiet_step (fail))
      refine wpQuietIn_nil ?_
      intro _ hw'
      obtain ⟨nq, hw''⟩ := hw'
      subst hw''
      gi_wp2
      have hle : (((pre ++ [x] : List Ent).length : Nat) : Int) = (pre.length : Int) + 1 := by simp
      have hd := below_drewN (n := W.heap.size) (w := W) nq
      exact ⟨(KeepsFrom.of_grownBy (below_grown hd) (fun j e => by cases e)).trans ((KeepsOthers.setCell _ _ _).from _), (hd.mono (by have := C4.out.lt; omega)).trans ((Below.refl _ _).setCell (p := ⟨bk, 0, none⟩) (Nat.le_refl _) _),
        ⟨prefix_step HG.out HY.out rfl, by simp; omega⟩, (Boxed.below C0.out hd).other (by omega) _, (Boxed.below C1.out hd).other (by omega) _, (Boxed.below C2.out hd).other (by omega) _, by rw [hle]; exact (Boxed.below C4.out hd).set _, (below_two HBB.out hd).setCell (p := ⟨bk, 0, none⟩) (by show w.heap.size ≤ bk; omega) _⟩
    · have HXY := Lib.hid hx
      rcases ent_ne hx with hn | ⟨hn1, hn⟩
      · have hn' : (y.name == x.name) = false := by rw [beq_eq_false_iff_ne]; exact fun e => hn e.symm
        clear hx hn
        gi_wp2
        refine wpIn_region_quietR (by kernel_rfl) (by kernel_rfl) (by kernel_rfl) ?_
        repeat (gi_big_quiet_step (fail))
        refine wpQuietIn_nil ?_
        intro _ hw'
        obtain ⟨nq, hw''⟩ := hw'
        subst hw''
        gi_wp2
        have hd := below_drewN (n := W.heap.size) (w := W) nq
        exact ⟨(KeepsFrom.of_grownBy (below_grown hd) (fun j e => by cases e)).trans ((KeepsOthers.setCell _ _ _).from _), bad_step HY.out HXY.out, (below_two HBB.out hd).setCell (p := ⟨w.heap.size + 1 + 1, 0, none⟩) (by show w.heap.size ≤ w.heap.size + 1 + 1; omega) _⟩
      · have hn' : (y.no == x.no) = false := by rw [beq_eq_false_iff_ne]; exact fun e => hn e.symm
        have hn2 : (y.name == x.name) = true := by rw [hn1]; exact beq_self_eq_true _
        clear hx hn hn1
        gi_wp2
        refine wpIn_region_quietR (by kernel_rfl) (by kernel_rfl) (by kernel_rfl) ?_
        repeat (gi_big_quiet_step (fail))
        refine wpQuietIn_nil ?_
        intro _ hw'
        obtain ⟨nq, hw''⟩ := hw'
        subst hw''
        gi_wp2
        have hd := below_drewN (n := W.heap.size) (w := W) nq
        exact ⟨(KeepsFrom.of_grownBy (below_grown hd) (fun j e => by cases e)).trans ((KeepsOthers.setCell _ _ _).from _), bad_step HY.out HXY.out, (below_two HBB.out hd).setCell (p := ⟨w.heap.size + 1 + 1, 0, none⟩) (by show w.heap.size ≤ w.heap.size + 1 + 1; omega) _⟩
  case done =>
    clear c0 c1 c2 ck cx hBW
    rintro Dd ys W hD hys ⟨⟨hG, hlm⟩, c0, c1, c2, c4, hB⟩ hK
    subst hys
    have r1 := c1.cell
    have r2 := c2.cell
    have f2 := c2.frozen
    have r4 := c4.cell
    have HK := Lib.hid hK
    have hDl := (Array.getElem?_eq_some_iff.1 HK.out).1
    have hK2 := (Below.heap_setCell W ⟨w.heap.size + 1 + 1, 0, none⟩ (.bool true) Dd (show Dd ≠ w.heap.size + 1 + 1 by omega)).trans HK.out
    have e2 := ((c2.set (.bool true)).kept (grownBy_putObj' _ Dd (.deferred none)) (by intro e; cases e; omega)).cell
    clear hK c0 hG hlm
    gi_wp2
    refine ⟨by simp, .inl ⟨_, _, rfl, run_takeDeferred hK2, ?_⟩⟩
    refine ⟨_, by simp [results, Try.results11, go_sem, e2], rfl, ?_⟩
    exact (hB.setCell (p := ⟨w.heap.size + 1 + 1, 0, none⟩) (show w.heap.size ≤ w.heap.size + 1 + 1 by omega) _).trans (belowK_b (n₀ := w.heap.size) (w := w) (Nat.le_refl _) _ Dd _ _ (by omega) hK2 rfl rfl)
  case stop =>
    rintro Dd c pre W hD hSp ⟨h, hB⟩ hK
    exact absurd hSp h
end Go.Proofs.Ytllipmhemgponaa.E
