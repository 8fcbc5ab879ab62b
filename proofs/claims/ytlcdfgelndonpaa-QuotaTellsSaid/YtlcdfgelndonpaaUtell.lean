/-
  QuotaTells, walked.
-/
import Derived.Test.YtlcdfgelndonpaaUblk
import Derived.Deep.RegionHeld3
import Derived.Deep.DeepCutAuto
import Derived.Deep.QuietTactic
import Derived.BigQuiet
namespace Go.Proofs.Ytlcdfgelndonpaa.U
open Go.RowKit Go.Shelf

/-- two integers lie in a box -/
def Box2 (b : Nat) (x y : Int) (w : World) : Prop := w.cell? ⟨b, 0, none⟩ = some (.int .i64 x) ∧ w.cell? ⟨b, 1, none⟩ = some (.int .i64 y)
theorem Box2.new (w : World) (x y : Int) (t : TypeId) : Box2 w.heap.size x y (w.alloc (.cells #[.int .i64 x, .int .i64 y] t)) := by
  refine ⟨?_, ?_⟩ <;> rw [World.cell?_alloc_new] <;> rfl
theorem Box2.lt {b : Nat} {x y : Int} {w : World} (c : Box2 b x y w) : b < w.heap.size := World.block_lt_of_cell? _ _ c.1
theorem Box2.next {b : Nat} {x y : Int} {w w' : World} (c : Box2 b x y w) (hb : Below w.heap.size w w') : Box2 b x y w' := by
  have hl := c.lt
  obtain ⟨c0, c1⟩ := c
  refine ⟨?_, ?_⟩ <;> rw [hb.cell (by exact hl)] <;> assumption
/-- the arguments' boxes -/
structure Tl0 (w0 : World) (A N : Nat) (q : Sp) (x y : Int) (w : World) : Prop where
  bel : Below w0.heap.size w0 w
  own : Box4 A q w
  num : Box2 N x y w
theorem Tl0.next {w0 : World} {A N : Nat} {q : Sp} {x y : Int} {w w' : World} (c : Tl0 w0 A N q x y w) (hb : Below w.heap.size w w') : Tl0 w0 A N q x y w' := ⟨below_two c.bel hb, c.own.next hb, c.num.next hb⟩
theorem Tl0.new (w : World) (q : Sp) (x y : Int) (t u : TypeId) : Tl0 w w.heap.size (w.heap.size + 1) q x y ((w.alloc (.cells #[.int .i64 q.b, .int .i64 q.n, .int .i64 q.mb, .int .i64 q.mn] t)).alloc (.cells #[.int .i64 x, .int .i64 y] u)) := by
  refine ⟨((Below.refl _ w).alloc (Nat.le_refl _) _).alloc (by simp) _, (Box4.new w q t).alloc _, ?_⟩
  have h := Box2.new (w.alloc (.cells #[.int .i64 q.b, .int .i64 q.n, .int .i64 q.mb, .int .i64 q.mn] t)) x y u
  rwa [show (w.alloc (.cells #[.int .i64 q.b, .int .i64 q.n, .int .i64 q.mb, .int .i64 q.mn] t)).heap.size = w.heap.size + 1 by simp] at h
/-- all that the last line reads -/
structure Tl (w0 : World) (A N X Y Z : Nat) (q : Sp) (x y : Int) (r c : Sp) (w : World) : Prop where
  arg : Tl0 w0 A N q x y w
  one : Box4 X r w
  two : Box4 Y r w
  new : Box4 Z c w
theorem Tl.next {w0 : World} {A N X Y Z : Nat} {q : Sp} {x y : Int} {r c : Sp} {w w' : World} (k : Tl w0 A N X Y Z q x y r c w) (hb : Below w.heap.size w w') : Tl w0 A N X Y Z q x y r c w' := ⟨k.arg.next hb, k.one.next hb, k.two.next hb, k.new.next hb⟩
theorem Tl.drew {w0 : World} {A N X Y Z : Nat} {q : Sp} {x y : Int} {r c : Sp} {w : World} (k : Tl w0 A N X Y Z q x y r c w) : Tl w0 A N X Y Z q x y r c w.drew := k.next ((Below.refl _ w).drew)

theorem Tl.all {w0 : World} {A N X Y Z : Nat} {q : Sp} {x y : Int} {r c : Sp} {w : World} (k : Tl w0 A N X Y Z q x y r c w) :
    w.cell? ⟨A, 0, none⟩ = some (.int .i64 q.b) ∧ w.cell? ⟨A, 1, none⟩ = some (.int .i64 q.n) ∧ w.cell? ⟨A, 2, none⟩ = some (.int .i64 q.mb) ∧ w.cell? ⟨A, 3, none⟩ = some (.int .i64 q.mn) ∧ w.cell? ⟨N, 0, none⟩ = some (.int .i64 x) ∧ w.cell? ⟨N, 1, none⟩ = some (.int .i64 y) ∧ w.cell? ⟨X, 0, none⟩ = some (.int .i64 r.b) ∧ w.cell? ⟨X, 1, none⟩ = some (.int .i64 r.n) ∧ w.cell? ⟨X, 2, none⟩ = some (.int .i64 r.mb) ∧ w.cell? ⟨X, 3, none⟩ = some (.int .i64 r.mn) ∧ w.cell? ⟨Y, 0, none⟩ = some (.int .i64 r.b) ∧ w.cell? ⟨Y, 1, none⟩ = some (.int .i64 r.n) ∧ w.cell? ⟨Y, 2, none⟩ = some (.int .i64 r.mb) ∧ w.cell? ⟨Y, 3, none⟩ = some (.int .i64 r.mn) ∧ w.cell? ⟨Z, 0, none⟩ = some (.int .i64 c.b) ∧ w.cell? ⟨Z, 1, none⟩ = some (.int .i64 c.n) ∧ w.cell? ⟨Z, 2, none⟩ = some (.int .i64 c.mb) ∧ w.cell? ⟨Z, 3, none⟩ = some (.int .i64 c.mn) := by
  obtain ⟨⟨_, ⟨a0, a1, a2, a3⟩, m0, m1⟩, ⟨x0, x1, x2, x3⟩, ⟨y0, y1, y2, y3⟩, z0, z1, z2, z3⟩ := k
  exact ⟨a0, a1, a2, a3, m0, m1, x0, x1, x2, x3, y0, y1, y2, y3, z0, z1, z2, z3⟩

set_option maxRecDepth 8000 in
set_option maxHeartbeats 4000000 in
theorem quotaTells_walk (q : Sp) (n0 n1 kind : Int) (w : World) : Calls Try.prog 3 #[q.v, .agg #[.int .i64 n0, .int .i64 n1], .int .i64 kind] w fun e w' => e = .returned (.bool true) ∧ Below w.heap.size w w' := by
  have ct := fun w => Take_any q n0 n1 w
  have cr := fun w => refTake_any q n0 n1 w
  have cn := fun w => New_any n0 n1 w
  obtain ⟨T, hT⟩ : ∃ T, took q n0 n1 = T := ⟨_, rfl⟩
  obtain ⟨F, hF⟩ : ∃ F, fresh n0 n1 = F := ⟨_, rfl⟩
  rw [hT] at ct cr
  rw [hF] at cn
  have HF := Lib.hid hF
  clear hT hF
  obtain ⟨⟨tb, tn, tm, tk⟩, te⟩ := T
  obtain ⟨⟨fb, fn, fm, fk⟩, fe⟩ := F
  obtain ⟨qb, qn, qm, qk⟩ := q
  dsimp only [Sp.v] at *
  go_enter Try.func3, Try.ntmps3
  go_upto_region 1 with fail
  have k0 := Tl0.new w ⟨qb, qn, qm, qk⟩ n0 n1 23 24
  dsimp only at k0
  generalize World.alloc _ _ = W0 at k0 ⊢
  generalize w.heap.size + 1 = N at k0 ⊢
  generalize w.heap.size = A at k0 ⊢
  obtain ⟨a0, a1, a2, a3⟩ := k0.own
  obtain ⟨m0, m1⟩ := k0.num
  dsimp only at a0 a1 a2 a3
  go_upto_region 2 with (first | (go_at_call 5; refine (ct _).mono ?_; rintro e w1 ⟨rfl, b1⟩))
  have k1 := (k0.next b1).next ((Below.refl _ w1).alloc (Nat.le_refl _) (.cells #[.int .i64 tb, .int .i64 tn, .int .i64 tm, .int .i64 tk] 23))
  have x1 := Box4.new w1 ⟨tb, tn, tm, tk⟩ 23
  dsimp only at k1 x1
  clear a0 a1 a2 a3 m0 m1 k0 b1 ct
  generalize w1.alloc _ = W1 at k1 x1 ⊢
  generalize w1.heap.size = X at x1 ⊢
  obtain ⟨a0, a1, a2, a3⟩ := k1.own
  obtain ⟨m0, m1⟩ := k1.num
  dsimp only at a0 a1 a2 a3
  go_upto_region 3 with (first | (go_at_call 6; refine (cr _).mono ?_; rintro e w2 ⟨rfl, b2⟩))
  have k2 := (k1.next b2).next ((Below.refl _ w2).alloc (Nat.le_refl _) (.cells #[.int .i64 tb, .int .i64 tn, .int .i64 tm, .int .i64 tk] 23))
  have x2 := (x1.next b2).alloc (.cells #[.int .i64 tb, .int .i64 tn, .int .i64 tm, .int .i64 tk] 23)
  have y2 := Box4.new w2 ⟨tb, tn, tm, tk⟩ 23
  dsimp only at k2 x2 y2
  clear a0 a1 a2 a3 m0 m1 k1 x1 b2 cr
  generalize w2.alloc _ = W2 at k2 x2 y2 ⊢
  generalize w2.heap.size = Y at y2 ⊢
  obtain ⟨a0, a1, a2, a3⟩ := k2.own
  obtain ⟨m0, m1⟩ := k2.num
  dsimp only at a0 a1 a2 a3
  go_upto_region 4 with (first | (go_at_call 7; refine (cn _).mono ?_; rintro e w3 ⟨rfl, b3⟩))
  have kw : Tl w A N X Y w3.heap.size ⟨qb, qn, qm, qk⟩ n0 n1 ⟨tb, tn, tm, tk⟩ ⟨fb, fn, fm, fk⟩ (w3.alloc (.cells #[.int .i64 fb, .int .i64 fn, .int .i64 fm, .int .i64 fk] 23)) :=
    ⟨(k2.next b3).next ((Below.refl _ w3).alloc (Nat.le_refl _) _), (x2.next b3).alloc _, (y2.next b3).alloc _, Box4.new w3 ⟨fb, fn, fm, fk⟩ 23⟩
  clear a0 a1 a2 a3 m0 m1 k2 x2 y2 b3 cn
  generalize w3.alloc _ = W3 at kw ⊢
  generalize w3.heap.size = Z at kw ⊢
  obtain ⟨m0, m1⟩ := kw.arg.num
  go_cut [52] (fun c wx => c = .bool false ∧ Tl w A N X Y Z ⟨qb, qn, qm, qk⟩ n0 n1 ⟨tb, tn, tm, tk⟩ ⟨fb, fn, fm, fk⟩ wx)
  case first =>
    by_cases hs : n0 ≤ 2000000
    · have cb := fun w => Blocks_any kind n0 (by omega) w
      have cc := fun w => refBlocks_any kind n0 hs w
      have hd : decide (n0 ≤ 2000000) = true := by simpa using hs
      generalize blk kind n0 = K at cb cc
      go_quiet (first | (go_at_call 8; exact Calls.quiet_of_same ((cb _).mono fun _ _ h => ⟨h.1, h.2.symm⟩)) | (go_at_call 9; exact Calls.quiet_of_same ((cc _).mono fun _ _ h => ⟨h.1, h.2.symm⟩)))
      go_wp2
      go_meet
      case rel => exact ⟨rfl, kw.next (below_drewN (Below.refl _ W3) _)⟩
    · have hd : decide (n0 ≤ 2000000) = false := by simpa using hs
      go_quiet (fail)
      go_wp2
      go_meet
      case rel => exact ⟨rfl, kw.next (below_drewN (Below.refl _ W3) _)⟩
  case rest =>
    obtain ⟨rfl, kw⟩ := hcut
    have cl := fun w => Limits_any n0 n1 w
    have cf := fun w => Fine_any ⟨qb, qn, qm, qk⟩ w
    have cg := fun w => refFine_any ⟨qb, qn, qm, qk⟩ w
    have ca := fun w => awake_any w
    generalize fine ⟨qb, qn, qm, qk⟩ = fq at cf cg
    dsimp only [Sp.v] at cf cg
    obtain ⟨m0, m1⟩ := kw.arg.num
    cases hL : (btw 1 n0 1073741824 && btw 1 n1 65536)
    · have hF := HF.out
      rw [fresh_no ((Bool.and_eq_false_iff).1 hL)] at hF
      injection hF with hF he
      injection hF with e1 e2 e3 e4
      subst e1 e2 e3 e4 he
      rw [hL] at cl
      clear HF hL
      go_upto_region 8 with (first | (go_at_call 10; refine (cl _).mono ?_; rintro e w4 ⟨rfl, rfl⟩))
      have kp := kw.drew
      clear kw cl
      try dsimp only [List.append]
      go_region_held3 (fun w' => w'.cell? ⟨A, 0, none⟩ = some (.int .i64 qb) ∧ w'.cell? ⟨A, 1, none⟩ = some (.int .i64 qn) ∧ w'.cell? ⟨A, 2, none⟩ = some (.int .i64 qm) ∧ w'.cell? ⟨A, 3, none⟩ = some (.int .i64 qk) ∧ w'.cell? ⟨N, 0, none⟩ = some (.int .i64 n0) ∧ w'.cell? ⟨N, 1, none⟩ = some (.int .i64 n1) ∧ w'.cell? ⟨X, 0, none⟩ = some (.int .i64 tb) ∧ w'.cell? ⟨X, 1, none⟩ = some (.int .i64 tn) ∧ w'.cell? ⟨X, 2, none⟩ = some (.int .i64 tm) ∧ w'.cell? ⟨X, 3, none⟩ = some (.int .i64 tk) ∧ w'.cell? ⟨Y, 0, none⟩ = some (.int .i64 tb) ∧ w'.cell? ⟨Y, 1, none⟩ = some (.int .i64 tn) ∧ w'.cell? ⟨Y, 2, none⟩ = some (.int .i64 tm) ∧ w'.cell? ⟨Y, 3, none⟩ = some (.int .i64 tk) ∧ w'.cell? ⟨Z, 0, none⟩ = some (.int .i64 0) ∧ w'.cell? ⟨Z, 1, none⟩ = some (.int .i64 0) ∧ w'.cell? ⟨Z, 2, none⟩ = some (.int .i64 0) ∧ w'.cell? ⟨Z, 3, none⟩ = some (.int .i64 0)) (exact kp.all)
        (first
          | (go_at_call 11; refine (cf _).mono ?_; rintro e W' ⟨rfl, b1⟩; have kp := kp.next b1)
          | (go_at_call 12; refine (cg _).mono ?_; rintro e W' ⟨rfl, b1⟩; have kp := kp.next b1)
          | (go_at_call 13; refine (ca _).mono ?_; rintro e W' ⟨rfl, b1⟩; have kp := kp.next b1))
      go_wp2
      go_ret
      exact ⟨rfl, kp.arg.bel⟩
    · have hF := HF.out
      rw [fresh_yes (Bool.and_eq_true _ _ ▸ hL).1 (Bool.and_eq_true _ _ ▸ hL).2] at hF
      injection hF with hF he
      injection hF with e1 e2 e3 e4
      subst e1 e2 e3 e4 he
      rw [hL] at cl
      clear HF hL
      go_upto_region 7 with (first | (go_at_call 10; refine (cl _).mono ?_; rintro e w4 ⟨rfl, rfl⟩))
      have kp := kw.drew
      clear kw cl
      try dsimp only [List.append]
      go_region_held3 (fun w' => w'.cell? ⟨A, 0, none⟩ = some (.int .i64 qb) ∧ w'.cell? ⟨A, 1, none⟩ = some (.int .i64 qn) ∧ w'.cell? ⟨A, 2, none⟩ = some (.int .i64 qm) ∧ w'.cell? ⟨A, 3, none⟩ = some (.int .i64 qk) ∧ w'.cell? ⟨N, 0, none⟩ = some (.int .i64 n0) ∧ w'.cell? ⟨N, 1, none⟩ = some (.int .i64 n1) ∧ w'.cell? ⟨X, 0, none⟩ = some (.int .i64 tb) ∧ w'.cell? ⟨X, 1, none⟩ = some (.int .i64 tn) ∧ w'.cell? ⟨X, 2, none⟩ = some (.int .i64 tm) ∧ w'.cell? ⟨X, 3, none⟩ = some (.int .i64 tk) ∧ w'.cell? ⟨Y, 0, none⟩ = some (.int .i64 tb) ∧ w'.cell? ⟨Y, 1, none⟩ = some (.int .i64 tn) ∧ w'.cell? ⟨Y, 2, none⟩ = some (.int .i64 tm) ∧ w'.cell? ⟨Y, 3, none⟩ = some (.int .i64 tk) ∧ w'.cell? ⟨Z, 0, none⟩ = some (.int .i64 0) ∧ w'.cell? ⟨Z, 1, none⟩ = some (.int .i64 0) ∧ w'.cell? ⟨Z, 2, none⟩ = some (.int .i64 n0) ∧ w'.cell? ⟨Z, 3, none⟩ = some (.int .i64 n1)) (exact kp.all)
        (first
          | (go_at_call 11; refine (cf _).mono ?_; rintro e W' ⟨rfl, b1⟩; have kp := kp.next b1)
          | (go_at_call 12; refine (cg _).mono ?_; rintro e W' ⟨rfl, b1⟩; have kp := kp.next b1)
          | (go_at_call 13; refine (ca _).mono ?_; rintro e W' ⟨rfl, b1⟩; have kp := kp.next b1))
      go_wp2
      go_ret
      exact ⟨rfl, kp.arg.bel⟩
end Go.Proofs.Ytlcdfgelndonpaa.U
