/-
  QuotaBack, walked.
-/
import Derived.Test.YtlcdfgelndonpaaUblk
import Derived.Deep.RegionHeld3
import Derived.Deep.RegionWith
import Derived.Deep.DeepCutAuto
namespace Go.Proofs.Ytlcdfgelndonpaa.U
open Go.RowKit Go.Shelf

/-- the pairs as one sees them who only reads -/
def Sees (v : Value) (ls : List (Int × Int)) (w : World) : Prop :=
  ∃ oa cap, v = .slice oa ls.length cap ∧ (ls.length ≤ cap ∧ cap ≤ maxLen) ∧ ∀ k x, ls[k]? = some x → ∃ g o, oa = some ⟨g, o, none⟩ ∧ w.cell? ⟨g, o + k * 2, none⟩ = some (.int .i64 x.1) ∧ w.cell? ⟨g, o + k * 2 + 1, none⟩ = some (.int .i64 x.2)
theorem Sees.below {v : Value} {ls : List (Int × Int)} {w w' : World} (h : Sees v ls w) (hb : Below w.heap.size w w') : Sees v ls w' := by
  obtain ⟨oa, cap, rfl, hm, hc⟩ := h
  refine ⟨oa, cap, rfl, hm, fun k x hk => ?_⟩
  obtain ⟨g, o, rfl, h0, h1⟩ := hc k x hk
  have hlt : g < w.heap.size := World.block_lt_of_cell? _ _ h0
  exact ⟨g, o, rfl, (hb.cell (p := ⟨g, o + k * 2, none⟩) hlt).trans h0, (hb.cell (p := ⟨g, o + k * 2 + 1, none⟩) hlt).trans h1⟩
theorem sees_none (oa : Option Addr) (c : Nat) (hc : c ≤ maxLen) (w : World) : Sees (.slice oa 0 c) [] w := ⟨oa, c, rfl, ⟨Nat.zero_le _, hc⟩, fun k x h => by simp at h⟩

/-- the six cells that a round reads -/
def Lot (B g p : Nat) (q : Sp) (x0 x1 : Int) (w : World) : Prop :=
  w.cell? ⟨B, 0, none⟩ = some (.int .i64 q.b) ∧ w.cell? ⟨B, 1, none⟩ = some (.int .i64 q.n) ∧ w.cell? ⟨B, 2, none⟩ = some (.int .i64 q.mb) ∧ w.cell? ⟨B, 3, none⟩ = some (.int .i64 q.mn) ∧ w.cell? ⟨g, p, none⟩ = some (.int .i64 x0) ∧ w.cell? ⟨g, p + 1, none⟩ = some (.int .i64 x1)
theorem Lot.all {B g p : Nat} {q : Sp} {x0 x1 : Int} {w : World} (c : Lot B g p q x0 x1 w) :
  w.cell? ⟨B, 0, none⟩ = some (.int .i64 q.b) ∧ w.cell? ⟨B, 1, none⟩ = some (.int .i64 q.n) ∧ w.cell? ⟨B, 2, none⟩ = some (.int .i64 q.mb) ∧ w.cell? ⟨B, 3, none⟩ = some (.int .i64 q.mn) ∧ w.cell? ⟨g, p, none⟩ = some (.int .i64 x0) ∧ w.cell? ⟨g, p + 1, none⟩ = some (.int .i64 x1) := c
theorem Lot.next {B g p : Nat} {q : Sp} {x0 x1 : Int} {w w' : World} (c : Lot B g p q x0 x1 w) (hb : Below w.heap.size w w') : Lot B g p q x0 x1 w' := by
  obtain ⟨c0, c1, c2, c3, c4, c5⟩ := c
  have l0 := World.block_lt_of_cell? _ _ c0
  have l1 := World.block_lt_of_cell? _ _ c4
  refine ⟨?_, ?_, ?_, ?_, ?_, ?_⟩ <;> rw [hb.cell (by assumption)] <;> assumption
theorem Lot.alloc {B g p : Nat} {q : Sp} {x0 x1 : Int} {w : World} (c : Lot B g p q x0 x1 w) (o : Obj) : Lot B g p q x0 x1 (w.alloc o) := c.next ((Below.refl _ w).alloc (Nat.le_refl _) o)
theorem Lot.drew {B g p : Nat} {q : Sp} {x0 x1 : Int} {w : World} (c : Lot B g p q x0 x1 w) : Lot B g p q x0 x1 w.drew := c.next ((Below.refl _ w).drew)
theorem Lot.later {B g p n : Nat} {q : Sp} {x0 x1 : Int} {w w' : World} (c : Lot B g p q x0 x1 w) (hb : Below n w w') (l0 : B < n) (l1 : g < n) : Lot B g p q x0 x1 w' := by
  obtain ⟨c0, c1, c2, c3, c4, c5⟩ := c
  refine ⟨?_, ?_, ?_, ?_, ?_, ?_⟩ <;> rw [hb.cell (by assumption)] <;> assumption
theorem Lot.box {B g p : Nat} {q : Sp} {x0 x1 : Int} {w : World} (c : Lot B g p q x0 x1 w) : Box4 B q w := ⟨c.1, c.2.1, c.2.2.1, c.2.2.2.1⟩
theorem Open4.next {b : Nat} {w w' : World} (c : Open4 b w) (hl : b < w.heap.size) (hb : Below w.heap.size w w') : Open4 b w' := c.later hb hl

theorem Open4.put {b : Nat} {x y z u : Value} {w W : World} (c : Open4 b w)
    (hW : ((((w.setCell ⟨b, 0, none⟩ x).setCell ⟨b, 1, none⟩ y).setCell ⟨b, 2, none⟩ z).setCell ⟨b, 3, none⟩ u) = W) : Open4 b W := by
  subst hW
  obtain ⟨c0, c1, c2, c3⟩ := c
  refine ⟨?_, ?_, ?_, ?_⟩ <;> simp only [World.frozen?_setCell] <;> assumption
/-- a box that was made before a call, behind the call -/
theorem new_box {w w2 : World} {q : Sp} {t : TypeId} (hb : Below ((w.alloc (.cells #[.int .i64 q.b, .int .i64 q.n, .int .i64 q.mb, .int .i64 q.mn] t)).drew).heap.size ((w.alloc (.cells #[.int .i64 q.b, .int .i64 q.n, .int .i64 q.mb, .int .i64 q.mn] t)).drew) w2) :
    Box4 w.heap.size q w2 ∧ Open4 w.heap.size w2 := by
  have hl : w.heap.size < ((w.alloc (.cells #[.int .i64 q.b, .int .i64 q.n, .int .i64 q.mb, .int .i64 q.mn] t)).drew).heap.size := (Box4.drew (Box4.new w q t)).lt
  exact ⟨Box4.next (Box4.drew (Box4.new w q t)) hb, Open4.next (Open4.later (Open4.new w t _) ((Below.refl _ _).drew) (Box4.new w q t).lt) hl hb⟩

set_option maxRecDepth 8000 in
set_option maxHeartbeats 4000000 in
theorem quotaBack_walk (b n : Int) (v : Value) (ls : List (Int × Int)) (hb0 : 0 ≤ b) (hb1 : b ≤ 65535) (hn0 : 0 ≤ n) (hn1 : n ≤ 65535) (w : World) (hv : Sees v ls w) (hl : ls.length ≤ 9223372036854775807) :
    Calls Try.prog 4 #[.int .u16 b, .int .u16 n, v] w fun e w' => e = .returned (.bool true) ∧ Below w.heap.size w w' := by
  have ca := fun w => awake_any w
  have cn := fun w => New_any (b + 1) (n + 1) w
  have e1 : btw 1 (b + 1) 1073741824 = true := by rw [btw_iff]; omega
  have e2 : btw 1 (n + 1) 65536 = true := by rw [btw_iff]; omega
  rw [fresh_yes e1 e2] at cn
  have hf0 : fine ⟨0, 0, b + 1, n + 1⟩ = true := by rw [fine_iff]; dsimp only; omega
  dsimp only [Sp.v] at cn
  clear e1 e2
  obtain ⟨oa, cap, rfl, hm, hc⟩ := hv
  by_cases hl2 : ls.length ≤ 60
  · have hl3 : ¬ (60 : Int) < ls.length := by omega
    go_enter Try.func4, Try.ntmps4
    go_wp2_with (go_at_call 7; refine (cn _).mono ?_; rintro e w1 ⟨rfl, bb1⟩)
    have hB0 := Box4.new w1 ⟨0, 0, b + 1, n + 1⟩ 23
    have hO0 := Open4.new w1 23 #[.int .i64 0, .int .i64 0, .int .i64 (b + 1), .int .i64 (n + 1)]
    have hb2 := bb1.alloc bb1.size (.cells #[.int .i64 0, .int .i64 0, .int .i64 (b + 1), .int .i64 (n + 1)] 23)
    have hg : w.heap.size ≤ w1.heap.size := bb1.size
    dsimp only at hB0
    generalize w1.alloc _ = W1 at hB0 hO0 hb2 ⊢
    generalize w1.heap.size = B at hB0 hO0 hg ⊢
    have HC := Lib.hid hc
    clear hc cn bb1
    go_loopw [9] (fun i wr => ∃ (k : Nat) (q : Sp), k ≤ ls.length ∧ i = .int .i64 k ∧ fine q = true ∧ Box4 B q wr ∧ Open4 B wr ∧ Below w.heap.size w wr) (fun i _ => ls.length - (intOf i).toNat)
    case atStart => exact ⟨0, _, Nat.zero_le _, rfl, hf0, hB0, hO0, hb2⟩
    case round =>
      obtain ⟨k, q, hk, rfl, hf, hB, hO, hb⟩ := hrel
      by_cases hlt : k < ls.length
      · obtain ⟨x, hx⟩ : ∃ x, ls[k]? = some x := ⟨_, List.getElem?_eq_getElem hlt⟩
        obtain ⟨g, o, rfl, h0, h1⟩ := HC.out k x hx
        have hg2 := World.block_lt_of_cell? _ _ h0
        have d0 := (hb.cell (p := ⟨g, o + k * 2, none⟩) hg2).trans h0
        have d1 := (hb.cell (p := ⟨g, o + k * 2 + 1, none⟩) hg2).trans h1
        have ct := fun w => Take_any q x.1 x.2 w
        have HF := Lib.hid (took_fine q x.1 x.2 hf)
        have HE := Lib.hid (took_err q x.1 x.2)
        have HK := Lib.hid (took_back q x.1 x.2)
        obtain ⟨T, hT⟩ : ∃ T, took q x.1 x.2 = T := ⟨_, rfl⟩
        rw [hT] at ct HF HE HK
        clear hT hf
        obtain ⟨⟨tb, tn, tm, tk⟩, te⟩ := T
        obtain ⟨qb, qn, qm, qk⟩ := q
        obtain ⟨k0, k1, k2, k3⟩ := hB
        obtain ⟨f0, f1, f2, f3⟩ := hO
        obtain ⟨x0, x1⟩ := x
        dsimp only [Sp.v] at *
        go_wp2
        have kw : Lot B g (o + k * 2) ⟨qb, qn, qm, qk⟩ x0 x1 wr := ⟨k0, k1, k2, k3, d0, d1⟩
        have kp : Lot B g (o + k * 2) ⟨qb, qn, qm, qk⟩ x0 x1 wr.drew := Lot.drew ⟨k0, k1, k2, k3, d0, d1⟩
        have op : Open4 B wr.drew := Open4.later ⟨f0, f1, f2, f3⟩ ((Below.refl _ wr).drew) (World.block_lt_of_cell? _ _ k0)
        have hBN : B < wr.heap.size := World.block_lt_of_cell? _ _ k0
        have hgN : g < wr.heap.size := World.block_lt_of_cell? _ _ d0
        have ow : Open4 B wr := ⟨f0, f1, f2, f3⟩
        go_cut [10, 11] (fun s10 s11 wx => ∃ X, s10 = .pointer (some ⟨X, 0, none⟩) ∧ s11 = .int .i64 te ∧ wr.heap.size ≤ X ∧ Box4 X ⟨tb, tn, tm, tk⟩ wx ∧ Lot B g (o + k * 2) ⟨qb, qn, qm, qk⟩ x0 x1 wx ∧ Below wr.heap.size wr wx)
        case first =>
          go_region_held3 (fun w' => w'.cell? ⟨B, 0, none⟩ = some (.int .i64 qb) ∧ w'.cell? ⟨B, 1, none⟩ = some (.int .i64 qn) ∧ w'.cell? ⟨B, 2, none⟩ = some (.int .i64 qm) ∧ w'.cell? ⟨B, 3, none⟩ = some (.int .i64 qk) ∧ w'.cell? ⟨g, o + k * 2, none⟩ = some (.int .i64 x0) ∧ w'.cell? ⟨g, o + k * 2 + 1, none⟩ = some (.int .i64 x1)) (with_reducible first | exact Lot.all kq | exact Lot.all (Lot.alloc kq _) | exact Lot.all kp | exact Lot.all (Lot.drew (Lot.alloc kw _)) | exact Lot.all (Lot.later kq ((Box4.put (q := ⟨0, 0, 0, 0⟩) nb rfl).2 _ (Nat.le_refl _)) hBN hgN))
            (first
              | (go_at_call 5; refine (ct _).mono ?_; rintro e w2 ⟨rfl, bb2⟩; have kq : Lot B g (o + k * 2) ⟨qb, qn, qm, qk⟩ x0 x1 w2 := (by with_reducible exact Lot.next kp bb2))
              | (go_at_call 5; refine (ct _).mono ?_; rintro e w2 ⟨rfl, bb2⟩; have kq : Lot B g (o + k * 2) ⟨qb, qn, qm, qk⟩ x0 x1 w2 := (by with_reducible exact Lot.next (Lot.drew (Lot.alloc kw _)) bb2); have nn := new_box (q := ⟨0, 0, 0, 0⟩) bb2; obtain ⟨nb, no⟩ := nn; have na := nb; obtain ⟨n0, n1, n2, n3⟩ := na; obtain ⟨z0, z1, z2, z3⟩ := no))
          · go_wp2_with fail
            go_meet
            case rel =>
              have h1 := below_two ((Below.refl wr.heap.size wr).drew) bb2
              exact ⟨w2.heap.size, rfl, rfl, h1.size, Box4.new w2 ⟨tb, tn, tm, tk⟩ 23, Lot.alloc kq _, h1.alloc h1.size _⟩
          · go_wp2_with fail
            go_meet
            case rel =>
              have h1 := below_two ((Below.refl wr.heap.size wr).alloc (Nat.le_refl _) _).drew bb2
              have h2 := Box4.put (q := ⟨0, 0, 0, 0⟩) (x := tb) (y := tn) (z := tm) (u := tk) nb rfl
              exact ⟨wr.heap.size, rfl, rfl, Nat.le_refl _, h2.1, Lot.later kq (h2.2 _ (Nat.le_refl _)) hBN hgN, h1.trans (h2.2 _ (Nat.le_refl _))⟩
        case rest =>
          obtain ⟨X, rfl, rfl, hX, bx, kl, hbc⟩ := hcut
          clear kp kw op k0 k1 k2 k3 f0 f1 f2 f3 d0 d1 h0 h1 ct
          have cf := fun w => Fine_any ⟨tb, tn, tm, tk⟩ w
          have HF2 := HF.out
          simp only [HF2, Sp.v] at cf
          clear HF2
          have oc : Open4 B wc := ow.later hbc hBN
          clear ow
          by_cases hte : te = 0
          · subst hte
            obtain ⟨y0, y1, y2, y3, hback⟩ := HK.out rfl
            have ct := fun w => Take_any ⟨tb, tn, tm, tk⟩ (0 - x0) (0 - x1) w
            rw [hback] at ct
            clear hback
            dsimp only [Sp.v] at ct
            obtain ⟨a0, ha0⟩ : ∃ a, 0 - x0 = a := ⟨_, rfl⟩
            obtain ⟨a1, ha1⟩ : ∃ a, 0 - x1 = a := ⟨_, rfl⟩
            have m0 : IntKind.i64.wrap (-x0) = a0 := (IntWalk.i64_in _ (by omega)).trans (by omega)
            have m1 : IntKind.i64.wrap (-x1) = a1 := (IntWalk.i64_in _ (by omega)).trans (by omega)
            rw [ha0, ha1] at ct
            clear ha0 ha1 y0 y1 y2 y3
            have kx : Lot X g (o + k * 2) ⟨tb, tn, tm, tk⟩ x0 x1 wc := ⟨bx.1, bx.2.1, bx.2.2.1, bx.2.2.2, kl.2.2.2.2.1, kl.2.2.2.2.2⟩
            have bq := kl.box
            obtain ⟨q0, q1, q2, q3, d0, d1⟩ := kl
            obtain ⟨p0, p1, p2, p3⟩ := bx
            dsimp only at q0 q1 q2 q3 p0 p1 p2 p3
            go_upto_region 11 with (first
              | (go_at_call 11; refine (cf _).mono ?_; rintro e w3 ⟨rfl, bb3⟩; have kx3 := Lot.next kx bb3; have bq3 := Box4.next bq bb3; have oq3 := Open4.next oc (World.block_lt_of_cell? _ _ q0) bb3; obtain ⟨r0, r1, r2, r3, d2, d3⟩ := kx3; obtain ⟨v0, v1, v2, v3⟩ := bq3))
            have kx3 : Lot X g (o + k * 2) ⟨tb, tn, tm, tk⟩ x0 x1 w3 := ⟨r0, r1, r2, r3, d2, d3⟩
            have kp3 : Lot X g (o + k * 2) ⟨tb, tn, tm, tk⟩ x0 x1 w3.drew := Lot.drew ⟨r0, r1, r2, r3, d2, d3⟩
            have hXN : X < w3.heap.size := World.block_lt_of_cell? _ _ r0
            have hgM : g < w3.heap.size := World.block_lt_of_cell? _ _ d2
            have bq3 : Box4 B ⟨qb, qn, qm, qk⟩ w3 := ⟨v0, v1, v2, v3⟩
            have hb3 := below_two (below_two hb hbc) bb3
            clear p0 p1 p2 p3 q0 q1 q2 q3 d0 d1 bq kx
            have CT := Lib.hid ct
            clear ct
            go_cut [12, 13] (fun s12 s13 wx => ∃ Y, s12 = .pointer (some ⟨Y, 0, none⟩) ∧ s13 = .int .i64 0 ∧ Box4 Y ⟨qb, qn, qm, qk⟩ wx ∧ Lot X g (o + k * 2) ⟨tb, tn, tm, tk⟩ x0 x1 wx ∧ Below w3.heap.size w3 wx)
            case first =>
              go_region_held3 (fun w' => w'.cell? ⟨X, 0, none⟩ = some (.int .i64 tb) ∧ w'.cell? ⟨X, 1, none⟩ = some (.int .i64 tn) ∧ w'.cell? ⟨X, 2, none⟩ = some (.int .i64 tm) ∧ w'.cell? ⟨X, 3, none⟩ = some (.int .i64 tk) ∧ w'.cell? ⟨g, o + k * 2, none⟩ = some (.int .i64 x0) ∧ w'.cell? ⟨g, o + k * 2 + 1, none⟩ = some (.int .i64 x1)) (with_reducible first | exact Lot.all kq | exact Lot.all (Lot.alloc kq _) | exact Lot.all kp3 | exact Lot.all (Lot.drew (Lot.alloc kx3 _)) | exact Lot.all (Lot.later kq ((Box4.put (q := ⟨0, 0, 0, 0⟩) nb rfl).2 _ (Nat.le_refl _)) hXN hgM))
                (first
                  | (go_at_call 5; refine (CT.out _).mono ?_; rintro e w4 ⟨rfl, bb4⟩; have kq : Lot X g (o + k * 2) ⟨tb, tn, tm, tk⟩ x0 x1 w4 := (by with_reducible exact Lot.next kp3 bb4))
                  | (go_at_call 5; refine (CT.out _).mono ?_; rintro e w4 ⟨rfl, bb4⟩; have kq : Lot X g (o + k * 2) ⟨tb, tn, tm, tk⟩ x0 x1 w4 := (by with_reducible exact Lot.next (Lot.drew (Lot.alloc kx3 _)) bb4); have nn := new_box (q := ⟨0, 0, 0, 0⟩) bb4; obtain ⟨nb, no⟩ := nn; have na := nb; obtain ⟨n0, n1, n2, n3⟩ := na; obtain ⟨z0, z1, z2, z3⟩ := no))
              · go_wp2_with fail
                go_meet
                case rel =>
                  have h1 := below_two ((Below.refl w3.heap.size w3).drew) bb4
                  exact ⟨w4.heap.size, rfl, rfl, Box4.new w4 ⟨qb, qn, qm, qk⟩ 23, Lot.alloc kq _, h1.alloc h1.size _⟩
              · go_wp2_with fail
                go_meet
                case rel =>
                  have h1 := below_two ((Below.refl w3.heap.size w3).alloc (Nat.le_refl _) _).drew bb4
                  have h2 := Box4.put (q := ⟨0, 0, 0, 0⟩) (x := qb) (y := qn) (z := qm) (u := qk) nb rfl
                  exact ⟨w3.heap.size, rfl, rfl, h2.1, Lot.later kq (h2.2 _ (Nat.le_refl _)) hXN hgM, h1.trans (h2.2 _ (Nat.le_refl _))⟩
            case rest =>
              obtain ⟨Y, rfl, rfl, byc, kxc, hbd⟩ := hcut
              have hp := Box4.later bq3 hbd bq3.lt
              have op := Open4.later oq3 hbd bq3.lt
              clear kp3 kx3 bq3 oq3 r0 r1 r2 r3 d2 d3 v0 v1 v2 v3 CT m0 m1 cf
              have hp1 := hp
              have op1 := op
              obtain ⟨v0, v1, v2, v3⟩ := hp
              obtain ⟨g0, g1, g2, g3⟩ := op
              obtain ⟨c0, c1, c2, c3⟩ := byc
              obtain ⟨t0, t1, t2, t3, t4, t5⟩ := kxc
              dsimp only at v0 v1 v2 v3 c0 c1 c2 c3 t0 t1 t2 t3
              go_upto_region 6 with fail
              have hp := Box4.put (q := ⟨qb, qn, qm, qk⟩) (x := tb) (y := tn) (z := tm) (u := tk) hp1 rfl
              have op := Open4.put (x := .int .i64 tb) (y := .int .i64 tn) (z := .int .i64 tm) (u := .int .i64 tk) op1 rfl
              have hbe := (hb3.trans (hbd.mono hb3.size)).trans (hp.2 _ hg)
              have hp := hp.1
              generalize World.setCell _ ⟨B, 3, none⟩ _ = W at hp op hbe ⊢
              clear HK HE hbc bb3 hb3 hbd hp1 op1 oc c0 c1 c2 c3 hXN hgM hBN hgN hg2 hX t0 t1 t2 t3 t4 t5 v0 v1 v2 v3 g0 g1 g2 g3
              go_wp2_with fail
              refine ⟨⟨k + 1, ⟨tb, tn, tm, tk⟩, hlt, rfl, HF.out, hp, op, hbe⟩, ?_⟩
              simp only [intOf]
              omega
          · have hq := HE.out hte
            injection hq with e1 e2 e3 e4
            subst e1 e2 e3 e4
            have hte2 : (te == 0) = false := by simpa using hte
            obtain ⟨q0, q1, q2, q3, d0, d1⟩ := kl
            obtain ⟨p0, p1, p2, p3⟩ := bx
            dsimp only at q0 q1 q2 q3 p0 p1 p2 p3
            go_wp2_with (first
              | (go_at_call 11; refine (cf _).mono ?_; rintro e w3 ⟨rfl, bb3⟩; have bx3 := Box4.next (q := ⟨tb, tn, tm, tk⟩) ⟨p0, p1, p2, p3⟩ bb3; have bq3 := Box4.next (q := ⟨tb, tn, tm, tk⟩) ⟨q0, q1, q2, q3⟩ bb3; have oq3 := Open4.next oc (World.block_lt_of_cell? _ _ q0) bb3; obtain ⟨r0, r1, r2, r3⟩ := bx3; obtain ⟨v0, v1, v2, v3⟩ := bq3; obtain ⟨g0, g1, g2, g3⟩ := oq3))
            have hp := Box4.put (q := ⟨tb, tn, tm, tk⟩) (x := tb) (y := tn) (z := tm) (u := tk) ⟨v0, v1, v2, v3⟩ rfl
            have op := Open4.put (x := .int .i64 tb) (y := .int .i64 tn) (z := .int .i64 tm) (u := .int .i64 tk) (⟨g0, g1, g2, g3⟩ : Open4 B w3) rfl
            refine ⟨⟨k + 1, ⟨tb, tn, tm, tk⟩, hlt, rfl, HF.out, hp.1, op, (below_two (below_two hb hbc) bb3).trans (hp.2 _ hg)⟩, ?_⟩
            simp only [intOf]
            omega
      · go_wp2_with (go_at_call 13; refine (ca _).mono ?_; rintro e w2 ⟨rfl, bb2⟩)
        go_ret
        exact ⟨rfl, below_two hb bb2⟩
  · have hl3 : (60 : Int) < ls.length := by omega
    go_enter Try.func4, Try.ntmps4
    go_wp2_with (first
      | (go_at_call 7; refine (cn _).mono ?_; rintro e w1 ⟨rfl, bb1⟩)
      | (go_at_call 13; refine (ca _).mono ?_; rintro e w2 ⟨rfl, bb2⟩))
    go_ret
    exact ⟨rfl, below_two (bb1.alloc bb1.size _) bb2⟩
end Go.Proofs.Ytlcdfgelndonpaa.U
