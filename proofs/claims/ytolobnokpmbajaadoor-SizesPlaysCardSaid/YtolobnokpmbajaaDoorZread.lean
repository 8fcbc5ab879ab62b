/-
  sizes.read: the line of a text, or none.
-/
import Derived.Test.YtolobnokpmbajaaDoorZwrite
import Derived.Test.YtolobnokpmbajaaDoorIlib
import Derived.Test.YtolobnokpmbajaaDoorPdec
namespace Go.Proofs.YtolobnokpmbajaaDoor.Z
open Go.RowKit Go.Shelf

/-- the line of three fields -/
def mk3 (p q t : List UInt8) : Option Line :=
  match K.M.parse p, K.M.parse q, Q.M.dec t with
  | some a, some b, some n => if may ⟨a, b, n⟩ then some ⟨a, b, n⟩ else none
  | _, _, _ => none
/-- the line of a text, or none -/
def rd (s : List UInt8) : Option Line := mk3 (Lib.cut s [32]).1 (Lib.cut (Lib.cut s [32]).2.1 [32]).1 (Lib.cut (Lib.cut s [32]).2.1 [32]).2.1
theorem rd_is {s p r q t : List UInt8} {b c : Bool} (h1 : Lib.cut s [32] = (p, r, b)) (h2 : Lib.cut r [32] = (q, t, c)) : rd s = mk3 p q t := by unfold rd; rw [h1]; simp only; rw [h2]
/-- what read answers -/
def LineOut (o : Option Line) (e : Ending) : Prop := e = .returned (.tuple #[.agg (enc (o.getD ⟨0, 0, []⟩)).toArray, .bool o.isSome])
theorem parse_out {d : List UInt8} {n : Int} {b : Bool} (h : (K.M.parse d).getD 0 = n ∧ (K.M.parse d).isSome = b) (w : World) :
    Calls Tryd.prog 53 #[.string ⟨d.toArray⟩] w fun e w' => e = .returned (.tuple #[.int .i64 n, .bool b]) ∧ Below w.heap.size w w' := by
  refine (K.parse_any ⟨d.toArray⟩ w).mono fun e w' ⟨he, hb⟩ => ⟨?_, hb⟩
  unfold K.OptOut at he
  rw [show (⟨d.toArray⟩ : ByteArray).data.toList = d from rfl, h.1, h.2] at he
  exact he

/-- three cells of a line, in a block of the call's own -/
def Box3 (b : Nat) (x : Line) (w : World) : Prop := w.heap[b]? = some (.cells #[.int .i64 x.size, .int .i64 x.time, .string ⟨x.name.toArray⟩] 30 (0, 0))
theorem Box3.lt {b : Nat} {x : Line} {w : World} (h : Box3 b x w) : b < w.heap.size := (Array.getElem?_eq_some_iff.1 h).1
theorem Box3.below {b : Nat} {x : Line} {w w' : World} (h : Box3 b x w) (hb : Below w.heap.size w w') : Box3 b x w' := (hb.block b h.lt).trans h
theorem Box3.new (x : Line) (w : World) : Box3 w.heap.size x (w.alloc (.cells #[.int .i64 x.size, .int .i64 x.time, .string ⟨x.name.toArray⟩] 30)) := heap_alloc_new w _
theorem Box3.facts {b : Nat} {x : Line} {w : World} (h : Box3 b x w) :
    w.cell? ⟨b, 0, none⟩ = some (.int .i64 x.size) ∧ w.cell? ⟨b, 1, none⟩ = some (.int .i64 x.time) ∧ w.cell? ⟨b, 2, none⟩ = some (.string ⟨x.name.toArray⟩) ∧
    w.frozen? ⟨b, 0, none⟩ = false ∧ w.frozen? ⟨b, 1, none⟩ = false ∧ w.frozen? ⟨b, 2, none⟩ = false :=
  ⟨by rw [Lib.cell_of_heap h]; rfl, by rw [Lib.cell_of_heap h]; rfl, by rw [Lib.cell_of_heap h]; rfl, Lib.frozen_of_heap h 0, Lib.frozen_of_heap h 1, Lib.frozen_of_heap h 2⟩
theorem Box3.put {b : Nat} {x : Line} {w : World} (h : Box3 b x w) (y : Line) :
    Box3 b y (((w.setCell ⟨b, 0, none⟩ (.int .i64 y.size)).setCell ⟨b, 1, none⟩ (.int .i64 y.time)).setCell ⟨b, 2, none⟩ (.string ⟨y.name.toArray⟩)) := by
  unfold Box3 at *
  simp [World.setCell, Array.getElem?_modify, h]
theorem put_below {n b : Nat} (hn : n ≤ b) (w : World) (y : Line) :
    Below n w (((w.setCell ⟨b, 0, none⟩ (.int .i64 y.size)).setCell ⟨b, 1, none⟩ (.int .i64 y.time)).setCell ⟨b, 2, none⟩ (.string ⟨y.name.toArray⟩)) :=
  (((Below.refl n w).setCell (p := ⟨b, 0, none⟩) hn _).setCell (p := ⟨b, 1, none⟩) hn _).setCell (p := ⟨b, 2, none⟩) hn _
def zero : Line := ⟨0, 0, []⟩

set_option maxRecDepth 100000 in
set_option maxHeartbeats 4000000 in
theorem read_any (s : List UInt8) (hs : s.length ≤ 5000) (w : World) :
    Calls Tryd.prog 35 #[.string ⟨s.toArray⟩] w fun e w' => LineOut (rd s) e ∧ Below w.heap.size w w' := by
  obtain ⟨p, r, b, h1⟩ : ∃ p r b, Lib.cut s [32] = (p, r, b) := ⟨_, _, _, rfl⟩
  obtain ⟨q, t, c, h2⟩ : ∃ q t c, Lib.cut r [32] = (q, t, c) := ⟨_, _, _, rfl⟩
  have l1 := I.cut_le 32 s
  rw [h1] at l1
  have l2 := I.cut_le 32 r
  rw [h2] at l2
  dsimp only at l1 l2
  have c1 := fun w => I.cut_any 32 s (by omega) h1 w
  have c2 := fun w => I.cut_any 32 r (by omega) h2 w
  rw [rd_is h1 h2]
  clear h1 h2
  obtain ⟨W, hW⟩ : ∃ W, W = w.alloc (.cells #[.int .i64 0, .int .i64 0, .string ⟨#[]⟩] 30) := ⟨_, rfl⟩
  have B0 : Below w.heap.size w W := by rw [hW]; exact (Below.refl _ _).alloc (Nat.le_refl _) _
  have HX : Hid (Box3 w.heap.size zero W) := Lib.hid (by rw [hW]; exact Box3.new zero w)
  cases hp : K.M.parse p with
  | none =>
    have cp := fun w => parse_out (d := p) (n := 0) (b := false) (by rw [hp]; exact ⟨rfl, rfl⟩) w
    have HO : Hid (mk3 p q t = none) := Lib.hid (by unfold mk3; rw [hp])
    rw [HO.out]
    clear hp
    have HW := Lib.hid hW
    clear hW
    go_enter Tryd.func35, Tryd.ntmps35
    go_wp2_with fail
    rw [← HW.out]
    go_wp2_with (first
      | (go_at_call 59; first | (refine (c1 _).mono ?_; clear c1; rintro e w1 ⟨rfl, hb1⟩) | (refine (c2 _).mono ?_; rintro e w2 ⟨rfl, hb2⟩))
      | (go_at_call 53; refine (cp _).mono ?_; rintro e w3 ⟨rfl, hb3⟩; have hb9 := below_two (below_two hb1 hb2) hb3; have X3 := HX.out.below hb9; obtain ⟨z0, z1, z2, f0, f1, f2⟩ := X3.facts; have HX3 := Lib.hid X3; clear X3))
    have XE := HX3.out.put ⟨0, 0, []⟩
    have BE := put_below (n := w.heap.size) (Nat.le_refl _) w3 ⟨0, 0, []⟩
    dsimp only at XE BE
    generalize ((World.setCell _ _ _).setCell _ _).setCell _ _ = W4 at XE BE ⊢
    obtain ⟨g0, g1, g2, _, _, _⟩ := XE.facts
    dsimp only at g0 g1 g2
    clear HX3 XE z0 z1 z2 f0 f1 f2
    refine bodyPost_ret (by simp [results, Tryd.results35, go_sem, g0, g1, g2]; rfl) rfl ?_
    exact ⟨rfl, (B0.trans (hb9.mono B0.size)).trans BE⟩
  | some a =>
    have cp := fun w => parse_out (d := p) (n := a) (b := true) (by rw [hp]; exact ⟨rfl, rfl⟩) w
    cases hq : K.M.parse q with
    | none =>
      have cq := fun w => parse_out (d := q) (n := 0) (b := false) (by rw [hq]; exact ⟨rfl, rfl⟩) w
      have HO : Hid (mk3 p q t = none) := Lib.hid (by unfold mk3; rw [hp, hq])
      rw [HO.out]
      clear hp hq
      have HW := Lib.hid hW
      clear hW
      go_enter Tryd.func35, Tryd.ntmps35
      go_wp2_with fail
      rw [← HW.out]
      go_wp2_with (first
        | (go_at_call 59; first | (refine (c1 _).mono ?_; clear c1; rintro e w1 ⟨rfl, hb1⟩) | (refine (c2 _).mono ?_; rintro e w2 ⟨rfl, hb2⟩))
        | (go_at_call 53; first | (refine (cp _).mono ?_; clear cp; rintro e w3 ⟨rfl, hb3⟩) | (refine (cq _).mono ?_; rintro e w4 ⟨rfl, hb4⟩; have hb9 := below_two (below_two (below_two hb1 hb2) hb3) hb4; have X3 := HX.out.below hb9; obtain ⟨z0, z1, z2, f0, f1, f2⟩ := X3.facts; have HX3 := Lib.hid X3; clear X3)))
      have XE := HX3.out.put ⟨0, 0, []⟩
      have BE := put_below (n := w.heap.size) (Nat.le_refl _) w4 ⟨0, 0, []⟩
      dsimp only at XE BE
      generalize ((World.setCell _ _ _).setCell _ _).setCell _ _ = W4 at XE BE ⊢
      obtain ⟨g0, g1, g2, _, _, _⟩ := XE.facts
      dsimp only at g0 g1 g2
      clear HX3 XE z0 z1 z2 f0 f1 f2
      refine bodyPost_ret (by simp [results, Tryd.results35, go_sem, g0, g1, g2]; rfl) rfl ?_
      exact ⟨rfl, (B0.trans (hb9.mono B0.size)).trans BE⟩
    | some b' =>
      have cq := fun w => parse_out (d := q) (n := b') (b := true) (by rw [hq]; exact ⟨rfl, rfl⟩) w
      cases hd : Q.M.dec t with
      | none =>
        have cd := fun w => Q.decode_no ⟨t.toArray⟩ (by rw [size_l]; omega) hd w
        have HO : Hid (mk3 p q t = none) := Lib.hid (by unfold mk3; rw [hp, hq, hd])
        rw [HO.out]
        clear hp hq hd
        have HW := Lib.hid hW
        clear hW
        go_enter Tryd.func35, Tryd.ntmps35
        go_wp2_with fail
        rw [← HW.out]
        go_wp2_with (first
          | (go_at_call 59; first | (refine (c1 _).mono ?_; clear c1; rintro e w1 ⟨rfl, hb1⟩) | (refine (c2 _).mono ?_; rintro e w2 ⟨rfl, hb2⟩))
          | (go_at_call 53; first | (refine (cp _).mono ?_; clear cp; rintro e w3 ⟨rfl, hb3⟩) | (refine (cq _).mono ?_; rintro e w4 ⟨rfl, hb4⟩))
          | (go_at_call 60; refine (cd _).mono ?_; rintro e w5 ⟨rfl, hb5⟩; have hb9 := below_two (below_two (below_two (below_two hb1 hb2) hb3) hb4) hb5; have X3 := HX.out.below hb9; obtain ⟨z0, z1, z2, f0, f1, f2⟩ := X3.facts; have HX3 := Lib.hid X3; clear X3))
        have XE := HX3.out.put ⟨0, 0, []⟩
        have BE := put_below (n := w.heap.size) (Nat.le_refl _) w5 ⟨0, 0, []⟩
        dsimp only at XE BE
        generalize ((World.setCell _ _ _).setCell _ _).setCell _ _ = W4 at XE BE ⊢
        obtain ⟨g0, g1, g2, _, _, _⟩ := XE.facts
        dsimp only at g0 g1 g2
        clear HX3 XE z0 z1 z2 f0 f1 f2
        refine bodyPost_ret (by simp [results, Tryd.results35, go_sem, g0, g1, g2]; rfl) rfl ?_
        exact ⟨rfl, (B0.trans (hb9.mono B0.size)).trans BE⟩
      | some n =>
        have cd := fun w => Q.decode_is ⟨t.toArray⟩ (by rw [size_l]; omega) n hd w
        cases hm : may ⟨a, b', n⟩ with
        | false =>
          have cv := fun w => valid_is (x := ⟨a, b', n⟩) hm w
          dsimp only at cv
          have HO : Hid (mk3 p q t = none) := Lib.hid (by unfold mk3; rw [hp, hq, hd]; simp [hm])
          rw [HO.out]
          clear hp hq hd hm
          have HW := Lib.hid hW
          clear hW
          go_enter Tryd.func35, Tryd.ntmps35
          go_wp2_with fail
          rw [← HW.out]
          go_wp2_with (first
            | (go_at_call 59; first | (refine (c1 _).mono ?_; clear c1; rintro e w1 ⟨rfl, hb1⟩) | (refine (c2 _).mono ?_; rintro e w2 ⟨rfl, hb2⟩))
            | (go_at_call 53; first | (refine (cp _).mono ?_; clear cp; rintro e w3 ⟨rfl, hb3⟩) | (refine (cq _).mono ?_; rintro e w4 ⟨rfl, hb4⟩))
            | (go_at_call 60; refine (cd _).mono ?_; rintro e w5 ⟨rfl, hb5⟩)
            | (go_at_call 29; refine (cv _).mono ?_; rintro e w6 ⟨rfl, hb6⟩; obtain ⟨y0, y1, y2, hb7⟩ := boxed hb6; clear hb6; have hb9 := below_two (below_two (below_two (below_two (below_two hb1 hb2) hb3) hb4) hb5) hb7; have X3 := HX.out.below hb9; obtain ⟨z0, z1, z2, f0, f1, f2⟩ := X3.facts; have HX3 := Lib.hid X3; clear X3))
          have XE := HX3.out.put ⟨0, 0, []⟩
          have BE := put_below (n := w.heap.size) (Nat.le_refl _) w6 ⟨0, 0, []⟩
          dsimp only at XE BE
          generalize ((World.setCell _ _ _).setCell _ _).setCell _ _ = W4 at XE BE ⊢
          obtain ⟨g0, g1, g2, _, _, _⟩ := XE.facts
          dsimp only at g0 g1 g2
          clear HX3 XE z0 z1 z2 f0 f1 f2
          refine bodyPost_ret (by simp [results, Tryd.results35, go_sem, g0, g1, g2]; rfl) rfl ?_
          exact ⟨rfl, (B0.trans (hb9.mono B0.size)).trans BE⟩
        | true =>
          have cv := fun w => valid_is (x := ⟨a, b', n⟩) hm w
          dsimp only at cv
          have HO : Hid (mk3 p q t = some ⟨a, b', n⟩) := Lib.hid (by unfold mk3; rw [hp, hq, hd]; simp [hm])
          rw [HO.out]
          clear hp hq hd hm
          have HW := Lib.hid hW
          clear hW
          go_enter Tryd.func35, Tryd.ntmps35
          go_wp2_with fail
          rw [← HW.out]
          go_wp2_with (first
            | (go_at_call 59; first | (refine (c1 _).mono ?_; clear c1; rintro e w1 ⟨rfl, hb1⟩) | (refine (c2 _).mono ?_; rintro e w2 ⟨rfl, hb2⟩))
            | (go_at_call 53; first | (refine (cp _).mono ?_; clear cp; rintro e w3 ⟨rfl, hb3⟩) | (refine (cq _).mono ?_; rintro e w4 ⟨rfl, hb4⟩))
            | (go_at_call 60; refine (cd _).mono ?_; rintro e w5 ⟨rfl, hb5⟩)
            | (go_at_call 29; refine (cv _).mono ?_; rintro e w6 ⟨rfl, hb6⟩; obtain ⟨y0, y1, y2, hb7⟩ := boxed hb6; clear hb6; have hb9 := below_two (below_two (below_two (below_two (below_two hb1 hb2) hb3) hb4) hb5) hb7; have X3 := HX.out.below hb9; obtain ⟨z0, z1, z2, f0, f1, f2⟩ := X3.facts; have HX3 := Lib.hid X3; clear X3))
          have XE := HX3.out.put ⟨a, b', n⟩
          have BE := put_below (n := w.heap.size) (Nat.le_refl _) w6 ⟨a, b', n⟩
          dsimp only at XE BE
          generalize ((World.setCell _ _ _).setCell _ _).setCell _ _ = W4 at XE BE ⊢
          obtain ⟨g0, g1, g2, _, _, _⟩ := XE.facts
          dsimp only at g0 g1 g2
          clear HX3 XE z0 z1 z2 f0 f1 f2
          refine bodyPost_ret (by simp [results, Tryd.results35, go_sem, g0, g1, g2]; rfl) rfl ?_
          exact ⟨rfl, (B0.trans (hb9.mono B0.size)).trans BE⟩
end Go.Proofs.YtolobnokpmbajaaDoor.Z
