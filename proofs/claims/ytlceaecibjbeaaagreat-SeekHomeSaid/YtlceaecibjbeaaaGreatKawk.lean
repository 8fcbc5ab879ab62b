/-
  Chapter 15's example.
-/
import Derived.Test.YtlceaecibjbeaaaGreatKpath2
import Derived.KernelRfl
import Derived.Laws.StructEq
namespace Go.Proofs.YtlceaecibjbeaaaGreat.K
open Go.RowKit Go.Shelf G
attribute [local go_sem] Oper.semAt_some

/-- the mathematics of paths with a bound on its steps -/
def runF (st : St) (cu cg : Int) (follow : Bool) : Nat → Int → List (List UInt8) → Bool → Nat → Option (Fd × Int)
  | 0, _, _, _, _ => none
  | _ + 1, here, [], _, _ => some (⟨0, [], here, true⟩, 0)
  | n + 1, here, p :: r, must, hops =>
    if kind st here ≠ 1 then some (noFd, 9)
    else if may cu cg st here = false then some (noFd, 6)
    else if p = [46, 46] then runF st cu cg follow n (above st here) r must hops
    else if 255 < p.length then some (noFd, 13)
    else if kind st (hit st here p) = 3 ∧ goes follow must r = true then
      if 8 ≤ hops then some (noFd, 12)
      else if text st (hit st here p) = [] then some (noFd, 5)
      else runF st cu cg follow n (from_ (text st (hit st here p)) here) (V.M.parts (text st (hit st here p)) ++ r) (must_ must r (text st (hit st here p))) (hops + 1)
    else if hit st here p = 0 ∧ r.isEmpty = false then some (noFd, 5)
    else if hit st here p ≠ 0 ∧ kind st (hit st here p) ≠ 1 ∧ (r.isEmpty = false ∨ must = true) then some (noFd, 9)
    else if r.isEmpty = true then some (⟨here, p, hit st here p, must⟩, 0)
    else runF st cu cg follow n (hit st here p) r must hops
theorem run_of_fuel {st : St} {cu cg : Int} {follow : Bool} : ∀ (n : Nat) (here : Int) (rest : List (List UInt8)) (must : Bool) (hops : Nat) (x : Fd × Int), runF st cu cg follow n here rest must hops = some x → run st cu cg follow here rest must hops = x
  | 0, _, _, _, _, _, h => by cases h
  | n + 1, here, [], must, hops, x, h => by rw [run_end]; exact Option.some.inj h
  | n + 1, here, p :: r, must, hops, x, h => by
    unfold runF at h
    rw [run]
    by_cases h1 : kind st here ≠ 1
    · rw [if_pos h1] at h ⊢; exact Option.some.inj h
    rw [if_neg h1] at h ⊢
    by_cases h2 : may cu cg st here = false
    · rw [if_pos h2] at h ⊢; exact Option.some.inj h
    rw [if_neg h2] at h ⊢
    by_cases h3 : p = [46, 46]
    · rw [if_pos h3] at h ⊢; exact run_of_fuel n _ _ _ _ _ h
    rw [if_neg h3] at h ⊢
    by_cases h4 : 255 < p.length
    · rw [if_pos h4] at h ⊢; exact Option.some.inj h
    rw [if_neg h4] at h ⊢
    by_cases h5 : kind st (hit st here p) = 3 ∧ goes follow must r = true
    · rw [if_pos h5] at h ⊢
      by_cases h6 : 8 ≤ hops
      · rw [if_pos h6] at h; rw [dif_pos h6]; exact Option.some.inj h
      rw [if_neg h6] at h; rw [dif_neg h6]
      by_cases h7 : text st (hit st here p) = []
      · rw [if_pos h7] at h ⊢; exact Option.some.inj h
      rw [if_neg h7] at h ⊢
      exact run_of_fuel n _ _ _ _ _ h
    rw [if_neg h5] at h ⊢
    by_cases h6 : hit st here p = 0 ∧ r.isEmpty = false
    · rw [if_pos h6] at h ⊢; exact Option.some.inj h
    rw [if_neg h6] at h ⊢
    by_cases h7 : hit st here p ≠ 0 ∧ kind st (hit st here p) ≠ 1 ∧ (r.isEmpty = false ∨ must = true)
    · rw [if_pos h7] at h ⊢; exact Option.some.inj h
    rw [if_neg h7] at h ⊢
    by_cases h8 : r.isEmpty = true
    · rw [if_pos h8] at h ⊢; exact Option.some.inj h
    rw [if_neg h8] at h ⊢
    exact run_of_fuel n _ _ _ _ _ h
def pathF (st : St) (cu cg : Int) (follow : Bool) (s : List UInt8) : Option (Fd × Int) := if V.M.path s = 0 then runF st cu cg follow 20 1 (V.M.parts s) (V.M.slash s) 0 else some (noFd, V.M.path s)
theorem path_of_fuel {st : St} {cu cg : Int} {follow : Bool} {s : List UInt8} {x : Fd × Int} (h : pathF st cu cg follow s = some x) : path st cu cg follow s = x := by
  unfold pathF at h
  unfold path
  by_cases h0 : V.M.path s = 0
  · rw [if_pos h0] at h ⊢; exact run_of_fuel _ _ _ _ _ _ h
  · rw [if_neg h0] at h ⊢; exact Option.some.inj h
def itS : List It := [⟨0, [100], 1, 448, 0, 0, ⟨#[]⟩, 0⟩, ⟨0, [108], 3, 0, 0, 0, ⟨#[100, 47]⟩, 0⟩, ⟨1, [120], 2, 0, 0, 0, ⟨#[]⟩, 0⟩]
def stS : St := growAll (begin_ bare 1 99 99) itS
theorem stS_last : stS.last = 4 := by kernel_rfl
theorem pa : path stS 0 0 false [47, 108] = (⟨1, [108], 3, false⟩, 0) := path_of_fuel (by kernel_rfl)
theorem pb : path stS 0 0 true [47, 108] = (⟨1, [100], 2, true⟩, 0) := path_of_fuel (by kernel_rfl)
theorem pc : path stS 0 0 true [47, 108, 47, 46, 46, 47, 100, 47, 121] = (⟨2, [121], 0, false⟩, 0) := path_of_fuel (by kernel_rfl)
theorem pd : path stS 5 0 true [47, 108, 47, 120] = (noFd, 6) := path_of_fuel (by kernel_rfl)
theorem fewS : few itS = true := by kernel_rfl
theorem seesS (w : World) : ItSees (.slice (some ⟨w.heap.size, 0, none⟩) 3 3) itS (w.alloc (.cells #[.int .i64 0, .string ⟨#[100]⟩, .int .i64 1, .int .i64 448, .int .i64 0, .int .i64 0, .string ⟨#[]⟩, .int .i64 0, .int .i64 0, .string ⟨#[108]⟩, .int .i64 3, .int .i64 0, .int .i64 0, .int .i64 0, .string ⟨#[100, 47]⟩, .int .i64 0, .int .i64 1, .string ⟨#[120]⟩, .int .i64 2, .int .i64 0, .int .i64 0, .int .i64 0, .string ⟨#[]⟩, .int .i64 0] 62)) := by
  refine ⟨_, 3, rfl, ⟨Nat.le_refl _, by decide⟩, fun k x hk => ⟨w.heap.size, 0, rfl, ?_⟩⟩
  match k, hk with
  | 0, hk =>
    cases hk
    refine ⟨?_, ?_, ?_, ?_, ?_, ?_, ?_, ?_⟩ <;> (rw [World.cell?_alloc_new]; rfl)
  | 1, hk =>
    cases hk
    refine ⟨?_, ?_, ?_, ?_, ?_, ?_, ?_, ?_⟩ <;> (rw [World.cell?_alloc_new]; rfl)
  | 2, hk =>
    cases hk
    refine ⟨?_, ?_, ?_, ?_, ?_, ?_, ?_, ?_⟩ <;> (rw [World.cell?_alloc_new]; rfl)
  | k + 3, hk => simp [itS] at hk
theorem FdBox.new (f : Fd) (w : World) : FdBox w.heap.size f (w.alloc (.cells #[.int .i64 f.dir, .string ⟨f.name.toArray⟩, .int .i64 f.no, .bool f.slash] 33)) := heap_alloc_new w _
theorem FdBox.below {b : Nat} {f : Fd} {w w' : World} (H : FdBox b f w) (hb : Below w.heap.size w w') : FdBox b f w' := (hb.block b H.lt).trans H
set_option maxRecDepth 100000 in
set_option maxHeartbeats 8000000 in
theorem awake_any (w : World) : Calls Tryz.prog 7 #[] w fun e w' => e = .returned (.bool true) ∧ Below w.heap.size w w' := by
  have hB1 : Below w.heap.size w (w.alloc (.cells #[.int .i64 0, .string ⟨#[100]⟩, .int .i64 1, .int .i64 448, .int .i64 0, .int .i64 0, .string ⟨#[]⟩, .int .i64 0, .int .i64 0, .string ⟨#[108]⟩, .int .i64 3, .int .i64 0, .int .i64 0, .int .i64 0, .string ⟨#[100, 47]⟩, .int .i64 0, .int .i64 1, .string ⟨#[120]⟩, .int .i64 2, .int .i64 0, .int .i64 0, .int .i64 0, .string ⟨#[]⟩, .int .i64 0] 62)) := (Below.refl _ _).alloc (Nat.le_refl _) _
  have hG := (grown_all (grown_new 99 99) itS (by decide) (by decide)).1
  have hT := tree_all (grown_new 99 99) (tree_new 99 99) itS (by decide) (by decide)
  have cG := Grow_any 99 99 (by decide) (seesS w) fewS
  have hst : growAll (begin_ bare 1 99 99) itS = stS := rfl
  rw [hst] at cG hG hT
  have hlast := stS_last
  have hI := hG.inv
  have hR := hG.ranged (by omega)
  have c1 := fun B X A M mv W (hW : Wd B X A M mv stS W) => Path_any (by omega) hI hT hR hW 0 0 ⟨#[47, 108]⟩ (by decide) false
  have c2 := fun B X A M mv W (hW : Wd B X A M mv stS W) => Path_any (by omega) hI hT hR hW 0 0 ⟨#[47, 108]⟩ (by decide) true
  have c3 := fun B X A M mv W (hW : Wd B X A M mv stS W) => Path_any (by omega) hI hT hR hW 0 0 ⟨#[47, 108, 47, 46, 46, 47, 100, 47, 121]⟩ (by decide) true
  have c4 := fun B X A M mv W (hW : Wd B X A M mv stS W) => Path_any (by omega) hI hT hR hW 5 0 ⟨#[47, 108, 47, 120]⟩ (by decide) true
  have e1 : path stS 0 0 false (⟨#[47, 108]⟩ : ByteArray).data.toList = (⟨1, [108], 3, false⟩, 0) := pa
  have e2 : path stS 0 0 true (⟨#[47, 108]⟩ : ByteArray).data.toList = (⟨1, [100], 2, true⟩, 0) := pb
  have e3 : path stS 0 0 true (⟨#[47, 108, 47, 46, 46, 47, 100, 47, 121]⟩ : ByteArray).data.toList = (⟨2, [121], 0, false⟩, 0) := pc
  have e4 : path stS 5 0 true (⟨#[47, 108, 47, 120]⟩ : ByteArray).data.toList = (noFd, 6) := pd
  rw [e1] at c1
  rw [e2] at c2
  rw [e3] at c3
  rw [e4] at c4
  dsimp only [Fd.v, noFd] at c1 c2 c3 c4
  clear hI hR hlast hst hG hT e1 e2 e3 e4
  go_enter Tryz.func7, Tryz.ntmps7
  go_upto_region 4 with (go_at_call 8; refine cG.mono ?_; rintro e w2 ⟨X, A, M, F, rfl, ⟨mv, nv, dv, hW, hF⟩, hb2⟩)
  have hb2' := hB1.trans (hb2.mono hB1.size)
  have d1 := c1 _ _ _ _ _ _ hW
  clear c1 hB1 hb2 hF cG
  go_upto_region 5 with (go_at_call 9; refine d1.mono ?_; rintro e w3 ⟨rfl, hb3⟩; have B3 := FdBox.new ⟨1, [108], 3, false⟩ w3)
  have hal : Below w3.heap.size w3 (w3.alloc (.cells #[.int .i64 1, .string ⟨[108].toArray⟩, .int .i64 3, .bool false] 33)) := (Below.refl _ _).alloc (Nat.le_refl _) _
  have hW3 := (hW.below hb3).below hal
  have hb3' := below_two (below_two hb2' hb3) hal
  try dsimp only at B3
  generalize w3.alloc (.cells #[.int .i64 1, .string ⟨[108].toArray⟩, .int .i64 3, .bool false] 33) = W3 at *
  generalize w3.heap.size = b3 at *
  have d2 := c2 _ _ _ _ _ _ hW3
  clear c2 d1 hb3 hal hb2'
  go_upto_region 6 with (go_at_call 9; refine d2.mono ?_; rintro e w4 ⟨rfl, hb4⟩; have B4 := FdBox.new ⟨1, [100], 2, true⟩ w4)
  have hal : Below w4.heap.size w4 (w4.alloc (.cells #[.int .i64 1, .string ⟨[100].toArray⟩, .int .i64 2, .bool true] 33)) := (Below.refl _ _).alloc (Nat.le_refl _) _
  have hW4 := (hW3.below hb4).below hal
  have hb4' := below_two (below_two hb3' hb4) hal
  have B34 := (B3.below hb4).below hal
  try dsimp only at B4
  generalize w4.alloc (.cells #[.int .i64 1, .string ⟨[100].toArray⟩, .int .i64 2, .bool true] 33) = W4 at *
  generalize w4.heap.size = b4 at *
  have d3 := c3 _ _ _ _ _ _ hW4
  clear c3 d2 hb4 hal hb3' B3
  go_upto_region 7 with (go_at_call 9; refine d3.mono ?_; rintro e w5 ⟨rfl, hb5⟩; have B5 := FdBox.new ⟨2, [121], 0, false⟩ w5)
  have hal : Below w5.heap.size w5 (w5.alloc (.cells #[.int .i64 2, .string ⟨[121].toArray⟩, .int .i64 0, .bool false] 33)) := (Below.refl _ _).alloc (Nat.le_refl _) _
  have hW5 := (hW4.below hb5).below hal
  have hb5' := below_two (below_two hb4' hb5) hal
  have B35 := (B34.below hb5).below hal
  have B45 := (B4.below hb5).below hal
  try dsimp only at B5
  generalize w5.alloc (.cells #[.int .i64 2, .string ⟨[121].toArray⟩, .int .i64 0, .bool false] 33) = W5 at *
  generalize w5.heap.size = b5 at *
  have d4 := c4 _ _ _ _ _ _ hW5
  clear c4 d3 hb5 hal hb4' B34 B4
  go_upto_region 8 with (go_at_call 9; refine d4.mono ?_; rintro e w6 ⟨rfl, hb6⟩)
  have hal : Below w6.heap.size w6 (w6.alloc (.cells #[.int .i64 0, .string ⟨#[]⟩, .int .i64 0, .bool false] 33)) := (Below.refl _ _).alloc (Nat.le_refl _) _
  have hb6' := below_two (below_two hb5' hb6) hal
  obtain ⟨p0, p1, p2, p3⟩ := ((B35.below hb6).below hal).facts
  obtain ⟨q0, q1, q2, q3⟩ := ((B45.below hb6).below hal).facts
  obtain ⟨r0, r1, r2, r3⟩ := ((B5.below hb6).below hal).facts
  dsimp only at p0 p1 p2 p3 q0 q1 q2 q3 r0 r1 r2 r3
  generalize w6.alloc (.cells #[.int .i64 0, .string ⟨#[]⟩, .int .i64 0, .bool false] 33) = W6 at *
  clear d4 hb6 hal hb5' B35 B45 B5 hW hW3 hW4 hW5
  go_wp2
  go_ret
  exact ⟨rfl, hb6'⟩
end Go.Proofs.YtlceaecibjbeaaaGreat.K
