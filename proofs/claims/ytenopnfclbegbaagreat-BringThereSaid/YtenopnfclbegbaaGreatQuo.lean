/-
  Space of a mount: plain mathematics of package quota, what lies in a box.
-/
import Derived.Test.YtenopnfclbegbaaGreatProg
import Derived.WalkKit
import Derived.WalkSpells
import Derived.WalkSmall
import Derived.Handy
import Derived.IntWalk
import Derived.Lib.Hide
import Derived.Lib.OthersKept
import Derived.Shelf.RegionOpen
import Derived.Shelf.Small.Wraps
namespace Go.Proofs.YtenopnfclbegbaaGreat.U
open Go.RowKit Go.Shelf

/-- what a mount has used, and may use -/
structure Sp where
  b : Int
  n : Int
  mb : Int
  mn : Int
def Sp.v (q : Sp) : Value := .agg #[.int .i64 q.b, .int .i64 q.n, .int .i64 q.mb, .int .i64 q.mn]
/-- is a number between two? -/
def btw (l n m : Int) : Bool := decide (l ≤ n) && decide (n ≤ m)
def amt (n : Int) : Bool := btw (-1073741824) n 1073741824
def fine (q : Sp) : Bool := decide (0 ≤ q.b) && (decide (0 ≤ q.n) && (decide (q.b ≤ q.mb) && (decide (q.n ≤ q.mn) && (decide (q.mb ≤ 1073741824) && decide (q.mn ≤ 65536)))))
/-- more is used, or less; the error's number -/
def took (q : Sp) (x y : Int) : Sp × Int :=
  if fine q = true ∧ amt x = true ∧ amt y = true then
    if q.mn < q.n + y then (q, 15) else if q.mb < q.b + x then (q, 14) else if q.b + x < 0 ∨ q.n + y < 0 then (q, 1) else (⟨q.b + x, q.n + y, q.mb, q.mn⟩, 0)
  else (q, 1)
/-- the blocks of a node of a kind and a size -/
def blk (k s : Int) : Int := if k = 1 then 1 else if k = 2 then (if s < 1 then 0 else (s - 1) / 512 + 1) else 0
/-- a mount of which nothing is used -/
def fresh (x y : Int) : Sp × Int := if btw 1 x 1073741824 = true ∧ btw 1 y 65536 = true then (⟨0, 0, x, y⟩, 0) else (⟨0, 0, 0, 0⟩, 3)

theorem fine_iff (q : Sp) : fine q = true ↔ 0 ≤ q.b ∧ 0 ≤ q.n ∧ q.b ≤ q.mb ∧ q.n ≤ q.mn ∧ q.mb ≤ 1073741824 ∧ q.mn ≤ 65536 := by
  unfold fine; simp
theorem amt_iff (x : Int) : amt x = true ↔ -1073741824 ≤ x ∧ x ≤ 1073741824 := by
  unfold amt btw; simp
theorem btw_iff (l n m : Int) : btw l n m = true ↔ l ≤ n ∧ n ≤ m := by
  unfold btw; simp
/-- a space that is fine stays so -/
theorem took_fine (q : Sp) (x y : Int) (h : fine q = true) : fine (took q x y).1 = true := by
  have h0 := (fine_iff q).1 h
  unfold took
  split
  · split
    · exact h
    · split
      · exact h
      · split
        · exact h
        · rw [fine_iff]
          dsimp only
          omega
  · exact h
/-- with an error nothing changes -/
theorem took_err (q : Sp) (x y : Int) (h : (took q x y).2 ≠ 0) : (took q x y).1 = q := by
  unfold took at *
  split
  · split
    · rfl
    · split
      · rfl
      · split
        · rfl
        · rename_i a b c d
          rw [if_pos a, if_neg b, if_neg c, if_neg d] at h
          exact absurd rfl h
  · rfl
/-- what is taken, and given back, changes nothing -/
theorem took_back (q : Sp) (x y : Int) (h : (took q x y).2 = 0) : -1073741824 ≤ x ∧ x ≤ 1073741824 ∧ -1073741824 ≤ y ∧ y ≤ 1073741824 ∧ took (took q x y).1 (0 - x) (0 - y) = (q, 0) := by
  unfold took at h
  split at h
  · rename_i hc
    obtain ⟨h1, h2, h3⟩ := hc
    split at h
    · cases h
    · split at h
      · cases h
      · split at h
        · cases h
        · rename_i a b c
          have e : took q x y = (⟨q.b + x, q.n + y, q.mb, q.mn⟩, 0) := by
            unfold took; rw [if_pos ⟨h1, h2, h3⟩, if_neg a, if_neg b, if_neg c]
          have f1 := (fine_iff q).1 h1
          have f2 := (amt_iff x).1 h2
          have f3 := (amt_iff y).1 h3
          refine ⟨f2.1, f2.2, f3.1, f3.2, ?_⟩
          rw [e]
          unfold took
          rw [if_pos ⟨by rw [fine_iff]; dsimp only; omega, by rw [amt_iff]; omega, by rw [amt_iff]; omega⟩]
          dsimp only
          rw [if_neg (by omega), if_neg (by omega), if_neg (by omega)]
          obtain ⟨qb, qn, qm, qk⟩ := q
          dsimp only
          rw [show qb + x + (0 - x) = qb by omega, show qn + y + (0 - y) = qn by omega]
  · cases h

theorem below_two {w w1 w2 : World} (h1 : Below w.heap.size w w1) (h2 : Below w1.heap.size w1 w2) : Below w.heap.size w w2 := h1.trans (h2.mono h1.size)
theorem ret_bool {a b : Bool} (h : a = b) : Ending.returned (.bool a) = .returned (.bool b) := by rw [h]
/-- four integers lie in a box -/
def Box4 (b : Nat) (q : Sp) (w : World) : Prop := w.cell? ⟨b, 0, none⟩ = some (.int .i64 q.b) ∧ w.cell? ⟨b, 1, none⟩ = some (.int .i64 q.n) ∧ w.cell? ⟨b, 2, none⟩ = some (.int .i64 q.mb) ∧ w.cell? ⟨b, 3, none⟩ = some (.int .i64 q.mn)
theorem Box4.new (w : World) (q : Sp) (t : TypeId) : Box4 w.heap.size q (w.alloc (.cells #[.int .i64 q.b, .int .i64 q.n, .int .i64 q.mb, .int .i64 q.mn] t)) := by
  refine ⟨?_, ?_, ?_, ?_⟩ <;> rw [World.cell?_alloc_new] <;> rfl
theorem Box4.lt {b : Nat} {q : Sp} {w : World} (c : Box4 b q w) : b < w.heap.size := World.block_lt_of_cell? _ _ c.1
theorem Box4.later {b n : Nat} {q : Sp} {w w' : World} (c : Box4 b q w) (hb : Below n w w') (hn : b < n) : Box4 b q w' := by
  obtain ⟨c0, c1, c2, c3⟩ := c
  refine ⟨?_, ?_, ?_, ?_⟩ <;> rw [hb.cell (by exact hn)] <;> assumption
theorem Box4.next {b : Nat} {q : Sp} {w w' : World} (c : Box4 b q w) (hb : Below w.heap.size w w') : Box4 b q w' := c.later hb c.lt
theorem Box4.alloc {b : Nat} {q : Sp} {w : World} (c : Box4 b q w) (o : Obj) : Box4 b q (w.alloc o) := c.next ((Below.refl _ w).alloc (Nat.le_refl _) o)
theorem Box4.drew {b : Nat} {q : Sp} {w : World} (c : Box4 b q w) : Box4 b q w.drew := c.next ((Below.refl _ w).drew)
/-- four cells that may be written -/
def Open4 (b : Nat) (w : World) : Prop := w.frozen? ⟨b, 0, none⟩ = false ∧ w.frozen? ⟨b, 1, none⟩ = false ∧ w.frozen? ⟨b, 2, none⟩ = false ∧ w.frozen? ⟨b, 3, none⟩ = false
theorem Open4.new (w : World) (t : TypeId) (z : Array Value) : Open4 w.heap.size (w.alloc (.cells z t)) := by
  refine ⟨?_, ?_, ?_, ?_⟩ <;> exact World.frozen?_alloc_new _ _ _ _
theorem Open4.later {b n : Nat} {w w' : World} (c : Open4 b w) (hb : Below n w w') (hn : b < n) : Open4 b w' := by
  obtain ⟨c0, c1, c2, c3⟩ := c
  refine ⟨?_, ?_, ?_, ?_⟩ <;> rw [hb.frozen (by exact hn)] <;> assumption
theorem Box4.put {b : Nat} {q : Sp} {x y z u : Int} {w W : World} (c : Box4 b q w)
    (hW : ((((w.setCell ⟨b, 0, none⟩ (.int .i64 x)).setCell ⟨b, 1, none⟩ (.int .i64 y)).setCell ⟨b, 2, none⟩ (.int .i64 z)).setCell ⟨b, 3, none⟩ (.int .i64 u)) = W) :
    Box4 b ⟨x, y, z, u⟩ W ∧ ∀ n, n ≤ b → Below n w W := by
  obtain ⟨c0, c1, c2, c3⟩ := c
  subst hW
  refine ⟨?_, fun n hn => (((((Below.refl _ w).setCell hn _).setCell hn _).setCell hn _).setCell hn _)⟩
  refine ⟨?_, ?_, ?_, ?_⟩
  · rw [World.cell?_setCell_other _ _ _ _ (by simp), World.cell?_setCell_other _ _ _ _ (by simp), World.cell?_setCell_other _ _ _ _ (by simp)]
    exact World.cell?_setCell_same _ _ _ c0
  · rw [World.cell?_setCell_other _ _ _ _ (by simp), World.cell?_setCell_other _ _ _ _ (by simp)]
    exact World.cell?_setCell_same _ _ _ (by rw [World.cell?_setCell_other _ _ _ _ (by simp)]; exact c1)
  · rw [World.cell?_setCell_other _ _ _ _ (by simp)]
    exact World.cell?_setCell_same _ _ _ (by rw [World.cell?_setCell_other _ _ _ _ (by simp), World.cell?_setCell_other _ _ _ _ (by simp)]; exact c2)
  · exact World.cell?_setCell_same _ _ _ (by rw [World.cell?_setCell_other _ _ _ _ (by simp), World.cell?_setCell_other _ _ _ _ (by simp), World.cell?_setCell_other _ _ _ _ (by simp)]; exact c3)
end Go.Proofs.YtenopnfclbegbaaGreat.U
/-
  What quota's between, amount, Fine, fileBlocks, Blocks and New do; the reference's Fine, Limits, Blocks.
-/
namespace Go.Proofs.YtenopnfclbegbaaGreat.U
open Go.RowKit Go.Shelf

set_option maxHeartbeats 1000000 in
theorem between_any (l n m : Int) (w : World) : Calls Tryz.prog 102 #[.int .i64 l, .int .i64 n, .int .i64 m] w fun e w' => e = .returned (.bool (btw l n m)) ∧ w = w' := by
  go_enter Tryz.func102, Tryz.ntmps102
  go_wp2
  all_goals go_ret
  all_goals refine ⟨ret_bool ?_, rfl⟩
  all_goals unfold btw
  all_goals simp
  all_goals omega

set_option maxHeartbeats 1000000 in
theorem amount_any (n : Int) (w : World) : Calls Tryz.prog 123 #[.int .i64 n] w fun e w' => e = .returned (.bool (amt n)) ∧ w = w' := by
  unfold amt
  have c1 := fun w => between_any (-1073741824) n 1073741824 w
  generalize btw _ _ _ = b at c1 ⊢
  go_enter Tryz.func123, Tryz.ntmps123
  go_wp2_with (refine (c1 _).mono ?_; rintro e w1 ⟨rfl, rfl⟩)
  go_ret
  exact ⟨rfl, rfl⟩

set_option maxHeartbeats 1000000 in
theorem Fine_any (q : Sp) (w : World) : Calls Tryz.prog 122 #[q.v] w fun e w' => e = .returned (.bool (fine q)) ∧ Below w.heap.size w w' := by
  obtain ⟨b, n, mb, mn⟩ := q
  have hf : fine ⟨b, n, mb, mn⟩ = (btw 0 b mb && (decide (mb ≤ 1073741824) && (btw 0 n mn && decide (mn ≤ 65536)))) := by
    unfold fine btw
    dsimp only
    rw [Bool.eq_iff_iff]; simp; omega
  rw [hf]
  clear hf
  dsimp only [Sp.v]
  have c1 := fun w => between_any 0 b mb w
  have c2 := fun w => between_any 0 n mn w
  obtain ⟨x, hx⟩ : ∃ x, btw 0 b mb = x := ⟨_, rfl⟩
  obtain ⟨y, hy⟩ : ∃ y, btw 0 n mn = y := ⟨_, rfl⟩
  rw [hx] at c1 ⊢
  rw [hy] at c2 ⊢
  clear hx hy
  go_enter Tryz.func122, Tryz.ntmps122
  have hc : x = false ∨ (x = true ∧ ¬ mb ≤ 1073741824) ∨ (x = true ∧ mb ≤ 1073741824 ∧ y = false) ∨ (x = true ∧ mb ≤ 1073741824 ∧ y = true ∧ ¬ mn ≤ 65536) ∨ (x = true ∧ mb ≤ 1073741824 ∧ y = true ∧ mn ≤ 65536) := by
    cases x <;> cases y <;> simp <;> omega
  rcases hc with rfl | ⟨rfl, h1⟩ | ⟨rfl, h1, rfl⟩ | ⟨rfl, h1, rfl, h2⟩ | ⟨rfl, h1, rfl, h2⟩
  all_goals go_wp2_with (first | (refine (c1 _).mono ?_; clear c1; rintro e w1 ⟨rfl, rfl⟩) | (refine (c2 _).mono ?_; rintro e w1 ⟨rfl, rfl⟩))
  all_goals go_ret
  all_goals refine ⟨ret_bool (by first | (simp [*]; done) | (simp [*]; intros; omega)), ?_⟩
  all_goals go_grown

set_option maxHeartbeats 1000000 in
theorem refFine_any (q : Sp) (w : World) : Calls Tryz.prog 107 #[q.v] w fun e w' => e = .returned (.bool (fine q)) ∧ Below w.heap.size w w' := by
  obtain ⟨b, n, mb, mn⟩ := q
  dsimp only [Sp.v]
  unfold fine
  dsimp only
  go_enter Tryz.func107, Tryz.ntmps107
  have hc : ¬ 0 ≤ b ∨ (0 ≤ b ∧ ¬ 0 ≤ n) ∨ (0 ≤ b ∧ 0 ≤ n ∧ ¬ b ≤ mb) ∨ (0 ≤ b ∧ 0 ≤ n ∧ b ≤ mb ∧ ¬ n ≤ mn) ∨ (0 ≤ b ∧ 0 ≤ n ∧ b ≤ mb ∧ n ≤ mn ∧ ¬ mb ≤ 1073741824) ∨ (0 ≤ b ∧ 0 ≤ n ∧ b ≤ mb ∧ n ≤ mn ∧ mb ≤ 1073741824 ∧ ¬ mn ≤ 65536) ∨ (0 ≤ b ∧ 0 ≤ n ∧ b ≤ mb ∧ n ≤ mn ∧ mb ≤ 1073741824 ∧ mn ≤ 65536) := by omega
  rcases hc with h1 | ⟨h1, h2⟩ | ⟨h1, h2, h3⟩ | ⟨h1, h2, h3, h4⟩ | ⟨h1, h2, h3, h4, h5⟩ | ⟨h1, h2, h3, h4, h5, h6⟩ | ⟨h1, h2, h3, h4, h5, h6⟩
  all_goals go_wp2
  all_goals go_ret
  all_goals refine ⟨ret_bool (by first | (simp [*]; done) | (simp [*]; intros; omega)), ?_⟩
  all_goals go_grown

set_option maxHeartbeats 1000000 in
theorem fileBlocks_any (s : Int) (hs : s ≤ 9223372036854775807) (w : World) : Calls Tryz.prog 124 #[.int .i64 s] w fun e w' => e = .returned (.int .i64 (if s < 1 then 0 else (s - 1) / 512 + 1)) ∧ w = w' := by
  by_cases h : s < 1
  · rw [if_pos h]
    go_enter Tryz.func124, Tryz.ntmps124
    go_wp2
    go_ret
    exact ⟨rfl, rfl⟩
  · rw [if_neg h]
    go_enter Tryz.func124, Tryz.ntmps124
    go_wp2
    go_ret
    exact ⟨rfl, rfl⟩

set_option maxHeartbeats 1000000 in
theorem Blocks_any (k s : Int) (hs : s ≤ 9223372036854775807) (w : World) : Calls Tryz.prog 106 #[.int .i64 k, .int .i64 s] w fun e w' => e = .returned (.int .i64 (blk k s)) ∧ w = w' := by
  have c1 := fun w => fileBlocks_any s hs w
  unfold blk
  generalize (if s < 1 then 0 else (s - 1) / 512 + 1) = r at c1 ⊢
  by_cases h1 : k = 1
  · rw [if_pos h1]
    have h2 : ¬ k = 2 := by omega
    go_enter Tryz.func106, Tryz.ntmps106
    go_wp2
    go_ret
    exact ⟨rfl, rfl⟩
  · rw [if_neg h1]
    by_cases h2 : k = 2
    · rw [if_pos h2]
      go_enter Tryz.func106, Tryz.ntmps106
      go_wp2_with (refine (c1 _).mono ?_; rintro e w1 ⟨rfl, rfl⟩)
      go_ret
      exact ⟨rfl, rfl⟩
    · rw [if_neg h2]
      go_enter Tryz.func106, Tryz.ntmps106
      go_wp2
      go_ret
      exact ⟨rfl, rfl⟩

set_option maxHeartbeats 1000000 in
theorem Limits_any (x y : Int) (w : World) : Calls Tryz.prog 43 #[.int .i64 x, .int .i64 y] w fun e w' => e = .returned (.bool (btw 1 x 1073741824 && btw 1 y 65536)) ∧ w = w' := by
  unfold btw
  have hc : ¬ 1 ≤ x ∨ (1 ≤ x ∧ ¬ x ≤ 1073741824) ∨ (1 ≤ x ∧ x ≤ 1073741824 ∧ ¬ 1 ≤ y) ∨ (1 ≤ x ∧ x ≤ 1073741824 ∧ 1 ≤ y ∧ ¬ y ≤ 65536) ∨ (1 ≤ x ∧ x ≤ 1073741824 ∧ 1 ≤ y ∧ y ≤ 65536) := by omega
  go_enter Tryz.func43, Tryz.ntmps43
  rcases hc with h1 | ⟨h1, h2⟩ | ⟨h1, h2, h3⟩ | ⟨h1, h2, h3, h4⟩ | ⟨h1, h2, h3, h4⟩
  all_goals go_wp2
  all_goals go_ret
  all_goals refine ⟨ret_bool (by first | (simp [*]; done) | (simp [*]; intros; omega)), rfl⟩
end Go.Proofs.YtenopnfclbegbaaGreat.U
/-
  What quota's New and Take do, and the reference's Take.
-/
namespace Go.Proofs.YtenopnfclbegbaaGreat.U
open Go.RowKit Go.Shelf

theorem took_no {q : Sp} (x y : Int) (h : fine q = false ∨ amt x = false ∨ amt y = false) : took q x y = (q, 1) := by
  unfold took
  rw [if_neg]
  rintro ⟨a, b, c⟩
  rw [a, b, c] at h
  simp at h
theorem took_yes {q : Sp} {x y : Int} (h1 : fine q = true) (h2 : amt x = true) (h3 : amt y = true) :
    took q x y = if q.mn < q.n + y then (q, 15) else if q.mb < q.b + x then (q, 14) else if q.b + x < 0 ∨ q.n + y < 0 then (q, 1) else (⟨q.b + x, q.n + y, q.mb, q.mn⟩, 0) := by
  unfold took
  rw [if_pos ⟨h1, h2, h3⟩]
theorem fresh_no {x y : Int} (h : btw 1 x 1073741824 = false ∨ btw 1 y 65536 = false) : fresh x y = (⟨0, 0, 0, 0⟩, 3) := by
  unfold fresh
  rw [if_neg]
  rintro ⟨a, b⟩
  rw [a, b] at h
  simp at h
theorem fresh_yes {x y : Int} (h1 : btw 1 x 1073741824 = true) (h2 : btw 1 y 65536 = true) : fresh x y = (⟨0, 0, x, y⟩, 0) := by
  unfold fresh
  rw [if_pos ⟨h1, h2⟩]

set_option maxHeartbeats 2000000 in
theorem New_any (x y : Int) (w : World) : Calls Tryz.prog 77 #[.int .i64 x, .int .i64 y] w fun e w' => e = .returned (.tuple #[(fresh x y).1.v, .int .i64 (fresh x y).2]) ∧ Below w.heap.size w w' := by
  have c1 := fun w => between_any 1 x 1073741824 w
  have c2 := fun w => between_any 1 y 65536 w
  cases ha : btw 1 x 1073741824 with
  | false =>
    rw [fresh_no (.inl ha)]
    rw [ha] at c1
    clear ha
    dsimp only [Sp.v]
    go_enter Tryz.func77, Tryz.ntmps77
    go_wp2_with (refine (c1 _).mono ?_; rintro e w1 ⟨rfl, rfl⟩)
    go_returns
    exact ⟨rfl, (Below.refl _ w).alloc (Nat.le_refl _) _⟩
  | true =>
    rw [ha] at c1
    cases hb : btw 1 y 65536 with
    | false =>
      rw [fresh_no (.inr hb)]
      rw [hb] at c2
      clear ha hb
      dsimp only [Sp.v]
      go_enter Tryz.func77, Tryz.ntmps77
      go_wp2_with (first | (refine (c1 _).mono ?_; clear c1; rintro e w1 ⟨rfl, rfl⟩) | (refine (c2 _).mono ?_; rintro e w1 ⟨rfl, rfl⟩))
      go_returns
      exact ⟨rfl, (Below.refl _ w).alloc (Nat.le_refl _) _⟩
    | true =>
      rw [fresh_yes ha hb]
      rw [hb] at c2
      clear ha hb
      dsimp only [Sp.v]
      go_enter Tryz.func77, Tryz.ntmps77
      go_wp2_with (first | (refine (c1 _).mono ?_; clear c1; rintro e w1 ⟨rfl, rfl⟩) | (refine (c2 _).mono ?_; rintro e w1 ⟨rfl, rfl⟩))
      go_returns
      exact ⟨rfl, (Below.refl _ w).alloc (Nat.le_refl _) _⟩

/-- a space boxed, and a cell for the answer behind it -/
structure Two (w : World) (q r : Sp) (W : World) : Prop where
  bel : Below w.heap.size w W
  lt : w.heap.size + 1 < W.heap.size
  own : Box4 w.heap.size q W
  ans : Box4 (w.heap.size + 1) r W
  fr : Open4 (w.heap.size + 1) W
theorem Two.new (w : World) (q : Sp) (t u : TypeId) : Two w q ⟨0, 0, 0, 0⟩ ((w.alloc (.cells #[.int .i64 q.b, .int .i64 q.n, .int .i64 q.mb, .int .i64 q.mn] t)).alloc (.cells #[.int .i64 0, .int .i64 0, .int .i64 0, .int .i64 0] u)) := by
  refine ⟨((Below.refl _ w).alloc (Nat.le_refl _) _).alloc (by simp) _, by simp, (Box4.new w q t).alloc _, ?_, ?_⟩
  · have h := Box4.new (w.alloc (.cells #[.int .i64 q.b, .int .i64 q.n, .int .i64 q.mb, .int .i64 q.mn] t)) ⟨0, 0, 0, 0⟩ u
    rw [World.size_alloc] at h
    exact h
  · have h := Open4.new (w.alloc (.cells #[.int .i64 q.b, .int .i64 q.n, .int .i64 q.mb, .int .i64 q.mn] t)) u #[.int .i64 0, .int .i64 0, .int .i64 0, .int .i64 0]
    rw [World.size_alloc] at h
    exact h
theorem Two.next {w W W' : World} {q r : Sp} (k : Two w q r W) (b : Below W.heap.size W W') : Two w q r W' :=
  ⟨below_two k.bel b, Nat.lt_of_lt_of_le k.lt b.size, k.own.next b, k.ans.next b, k.fr.later b k.lt⟩

set_option maxHeartbeats 4000000 in
theorem Take_no (q : Sp) (x y : Int) (hn : fine q = false ∨ amt x = false ∨ amt y = false) (w : World) : Calls Tryz.prog 105 #[q.v, .int .i64 x, .int .i64 y] w fun e w' => e = .returned (.tuple #[q.v, .int .i64 1]) ∧ Below w.heap.size w w' := by
  have c0 := fun w => Fine_any q w
  have c1 := fun w => amount_any x w
  have c2 := fun w => amount_any y w
  obtain ⟨f, hf⟩ : ∃ f, fine q = f := ⟨_, rfl⟩
  obtain ⟨a, ha⟩ : ∃ a, amt x = a := ⟨_, rfl⟩
  obtain ⟨b, hb⟩ : ∃ b, amt y = b := ⟨_, rfl⟩
  rw [hf, ha, hb] at hn
  rw [hf] at c0
  rw [ha] at c1
  rw [hb] at c2
  clear hf ha hb
  have kp := Two.new w q 110 110
  obtain ⟨qb, qn, qm, qk⟩ := q
  dsimp only [Sp.v] at *
  have hc : f = false ∨ (f = true ∧ a = false) ∨ (f = true ∧ a = true ∧ b = false) := by
    cases f <;> cases a <;> cases b <;> simp_all
  clear hn
  go_enter Tryz.func105, Tryz.ntmps105
  rcases hc with rfl | ⟨rfl, rfl⟩ | ⟨rfl, rfl, rfl⟩
  all_goals
    go_wp2_with (first
      | (go_at_call 122; refine (c0 _).mono ?_; rintro e w1 ⟨rfl, b1⟩; have kp := kp.next b1; obtain ⟨k0, k1, k2, k3⟩ := kp.own; obtain ⟨a0, a1, a2, a3⟩ := kp.ans; obtain ⟨f0, f1, f2, f3⟩ := kp.fr)
      | (refine (c1 _).mono ?_; clear c1; rintro e w2 ⟨rfl, rfl⟩) | (refine (c2 _).mono ?_; rintro e w2 ⟨rfl, rfl⟩))
    generalize hW : World.setCell _ _ _ = W
    obtain ⟨⟨g0, g1, g2, g3⟩, hB⟩ := Box4.put (q := ⟨0, 0, 0, 0⟩) ⟨a0, a1, a2, a3⟩ hW
    refine bodyPost_ret (by simp [results, Tryz.results105, go_sem, g0, g1, g2, g3]; rfl) rfl ?_
    exact ⟨rfl, kp.bel.trans (hB _ (Nat.le_succ _))⟩
end Go.Proofs.YtenopnfclbegbaaGreat.U
/-
  What quota's Take does where what is asked may be asked.
-/
namespace Go.Proofs.YtenopnfclbegbaaGreat.U
open Go.RowKit Go.Shelf

set_option maxHeartbeats 4000000 in
theorem Take_yes (q : Sp) (x y : Int) (h1 : fine q = true) (h2 : amt x = true) (h3 : amt y = true) (w : World) : Calls Tryz.prog 105 #[q.v, .int .i64 x, .int .i64 y] w fun e w' => e = .returned (.tuple #[(took q x y).1.v, .int .i64 (took q x y).2]) ∧ Below w.heap.size w w' := by
  have c0 := fun w => Fine_any q w
  have c1 := fun w => amount_any x w
  have c2 := fun w => amount_any y w
  rw [took_yes h1 h2 h3]
  rw [h1] at c0
  rw [h2] at c1
  rw [h3] at c2
  rw [fine_iff] at h1
  rw [amt_iff] at h2
  rw [amt_iff] at h3
  have kp := Two.new w q 110 110
  obtain ⟨qb, qn, qm, qk⟩ := q
  dsimp only [Sp.v] at *
  obtain ⟨d1, d2, d3, d4, d5, d6⟩ := h1
  obtain ⟨d7, d8⟩ := h2
  obtain ⟨d9, d0⟩ := h3
  go_enter Tryz.func105, Tryz.ntmps105
  by_cases r1 : qk < qn + y
  · rw [if_pos r1]
    go_wp2_with (first
      | (go_at_call 122; refine (c0 _).mono ?_; rintro e w1 ⟨rfl, b1⟩; have kp := kp.next b1; have l1 := kp.lt; have l0 := kp.own.lt; obtain ⟨k0, k1, k2, k3⟩ := kp.own; obtain ⟨a0, a1, a2, a3⟩ := kp.ans; obtain ⟨f0, f1, f2, f3⟩ := kp.fr)
      | (refine (c1 _).mono ?_; clear c1; rintro e w2 ⟨rfl, rfl⟩) | (refine (c2 _).mono ?_; rintro e w2 ⟨rfl, rfl⟩))
    generalize hW : World.setCell _ _ _ = W
    obtain ⟨hB4, hB⟩ := Box4.put (q := ⟨0, 0, 0, 0⟩) ⟨a0, a1, a2, a3⟩ hW
    obtain ⟨g0, g1, g2, g3⟩ := hB4.alloc (.cells #[.int .i64 (qb + x), .int .i64 (qn + y), .int .i64 qm, .int .i64 qk] 110)
    refine bodyPost_ret (by simp [results, Tryz.results105, go_sem, g0, g1, g2, g3]; rfl) rfl ?_
    have hz := kp.bel.trans (hB _ (Nat.le_succ _))
    exact ⟨rfl, hz.alloc hz.size _⟩
  · rw [if_neg r1]
    by_cases r2 : qm < qb + x
    · rw [if_pos r2]
      go_wp2_with (first
        | (go_at_call 122; refine (c0 _).mono ?_; rintro e w1 ⟨rfl, b1⟩; have kp := kp.next b1; have l1 := kp.lt; have l0 := kp.own.lt; obtain ⟨k0, k1, k2, k3⟩ := kp.own; obtain ⟨a0, a1, a2, a3⟩ := kp.ans; obtain ⟨f0, f1, f2, f3⟩ := kp.fr)
        | (refine (c1 _).mono ?_; clear c1; rintro e w2 ⟨rfl, rfl⟩) | (refine (c2 _).mono ?_; rintro e w2 ⟨rfl, rfl⟩))
      generalize hW : World.setCell _ _ _ = W
      obtain ⟨hB4, hB⟩ := Box4.put (q := ⟨0, 0, 0, 0⟩) ⟨a0, a1, a2, a3⟩ hW
      obtain ⟨g0, g1, g2, g3⟩ := hB4.alloc (.cells #[.int .i64 (qb + x), .int .i64 (qn + y), .int .i64 qm, .int .i64 qk] 110)
      refine bodyPost_ret (by simp [results, Tryz.results105, go_sem, g0, g1, g2, g3]; rfl) rfl ?_
      have hz := kp.bel.trans (hB _ (Nat.le_succ _))
      exact ⟨rfl, hz.alloc hz.size _⟩
    · rw [if_neg r2]
      by_cases r3 : qb + x < 0
      · rw [if_pos (.inl r3)]
        go_wp2_with (first
          | (go_at_call 122; refine (c0 _).mono ?_; rintro e w1 ⟨rfl, b1⟩; have kp := kp.next b1; have l1 := kp.lt; have l0 := kp.own.lt; obtain ⟨k0, k1, k2, k3⟩ := kp.own; obtain ⟨a0, a1, a2, a3⟩ := kp.ans; obtain ⟨f0, f1, f2, f3⟩ := kp.fr)
          | (refine (c1 _).mono ?_; clear c1; rintro e w2 ⟨rfl, rfl⟩) | (refine (c2 _).mono ?_; rintro e w2 ⟨rfl, rfl⟩))
        generalize hW : World.setCell _ _ _ = W
        obtain ⟨hB4, hB⟩ := Box4.put (q := ⟨0, 0, 0, 0⟩) ⟨a0, a1, a2, a3⟩ hW
        obtain ⟨g0, g1, g2, g3⟩ := hB4.alloc (.cells #[.int .i64 (qb + x), .int .i64 (qn + y), .int .i64 qm, .int .i64 qk] 110)
        refine bodyPost_ret (by simp [results, Tryz.results105, go_sem, g0, g1, g2, g3]; rfl) rfl ?_
        have hz := kp.bel.trans (hB _ (Nat.le_succ _))
        exact ⟨rfl, hz.alloc hz.size _⟩
      · by_cases r4 : qn + y < 0
        · rw [if_pos (.inr r4)]
          go_wp2_with (first
            | (go_at_call 122; refine (c0 _).mono ?_; rintro e w1 ⟨rfl, b1⟩; have kp := kp.next b1; have l1 := kp.lt; have l0 := kp.own.lt; obtain ⟨k0, k1, k2, k3⟩ := kp.own; obtain ⟨a0, a1, a2, a3⟩ := kp.ans; obtain ⟨f0, f1, f2, f3⟩ := kp.fr)
            | (refine (c1 _).mono ?_; clear c1; rintro e w2 ⟨rfl, rfl⟩) | (refine (c2 _).mono ?_; rintro e w2 ⟨rfl, rfl⟩))
          generalize hW : World.setCell _ _ _ = W
          obtain ⟨hB4, hB⟩ := Box4.put (q := ⟨0, 0, 0, 0⟩) ⟨a0, a1, a2, a3⟩ hW
          obtain ⟨g0, g1, g2, g3⟩ := hB4.alloc (.cells #[.int .i64 (qb + x), .int .i64 (qn + y), .int .i64 qm, .int .i64 qk] 110)
          refine bodyPost_ret (by simp [results, Tryz.results105, go_sem, g0, g1, g2, g3]; rfl) rfl ?_
          have hz := kp.bel.trans (hB _ (Nat.le_succ _))
          exact ⟨rfl, hz.alloc hz.size _⟩
        · rw [if_neg (by omega)]
          go_wp2_with (first
            | (go_at_call 122; refine (c0 _).mono ?_; rintro e w1 ⟨rfl, b1⟩; have kp := kp.next b1; have l1 := kp.lt; have l0 := kp.own.lt; obtain ⟨k0, k1, k2, k3⟩ := kp.own; obtain ⟨a0, a1, a2, a3⟩ := kp.ans; obtain ⟨f0, f1, f2, f3⟩ := kp.fr)
            | (refine (c1 _).mono ?_; clear c1; rintro e w2 ⟨rfl, rfl⟩) | (refine (c2 _).mono ?_; rintro e w2 ⟨rfl, rfl⟩))
          generalize hW : World.setCell _ _ _ = W
          obtain ⟨hB4, hB⟩ := Box4.put (q := ⟨0, 0, 0, 0⟩) ⟨a0, a1, a2, a3⟩ hW
          obtain ⟨g0, g1, g2, g3⟩ := hB4.alloc (.cells #[.int .i64 (qb + x), .int .i64 (qn + y), .int .i64 qm, .int .i64 qk] 110)
          refine bodyPost_ret (by simp [results, Tryz.results105, go_sem, g0, g1, g2, g3]; rfl) rfl ?_
          have hz := kp.bel.trans (hB _ (Nat.le_succ _))
          exact ⟨rfl, hz.alloc hz.size _⟩
end Go.Proofs.YtenopnfclbegbaaGreat.U
/-
  What the reference's Take and Blocks do.
-/
namespace Go.Proofs.YtenopnfclbegbaaGreat.U
open Go.RowKit Go.Shelf

set_option maxHeartbeats 4000000 in
theorem refTake_no (q : Sp) (x y : Int) (hn : fine q = false ∨ amt x = false ∨ amt y = false) (w : World) : Calls Tryz.prog 85 #[q.v, .int .i64 x, .int .i64 y] w fun e w' => e = .returned (.tuple #[q.v, .int .i64 1]) ∧ Below w.heap.size w w' := by
  have c0 := fun w => refFine_any q w
  have hc : fine q = false ∨ (fine q = true ∧ (1073741824 < x ∨ (¬ 1073741824 < x ∧ (x < -1073741824 ∨ (¬ x < -1073741824 ∧ (1073741824 < y ∨ (¬ 1073741824 < y ∧ y < -1073741824))))))) := by
    cases hf : fine q
    · exact .inl rfl
    · refine .inr ⟨rfl, ?_⟩
      rcases hn with h | h | h
      · rw [hf] at h; cases h
      · have h' : ¬ amt x = true := by rw [h]; decide
        rw [amt_iff] at h'; omega
      · have h' : ¬ amt y = true := by rw [h]; decide
        rw [amt_iff] at h'; omega
  clear hn
  obtain ⟨f, hf⟩ : ∃ f, fine q = f := ⟨_, rfl⟩
  rw [hf] at c0 hc
  clear hf
  have kp := Two.new w q 110 110
  obtain ⟨qb, qn, qm, qk⟩ := q
  dsimp only [Sp.v] at *
  go_enter Tryz.func85, Tryz.ntmps85
  rcases hc with rfl | ⟨rfl, h | ⟨h1, h | ⟨h2, h | ⟨h3, h⟩⟩⟩⟩
  all_goals
    go_wp2_with (go_at_call 107; refine (c0 _).mono ?_; rintro e w1 ⟨rfl, b1⟩; have kp := kp.next b1; have l1 := kp.lt; have l0 := kp.own.lt; obtain ⟨k0, k1, k2, k3⟩ := kp.own; obtain ⟨a0, a1, a2, a3⟩ := kp.ans; obtain ⟨f0, f1, f2, f3⟩ := kp.fr)
    generalize hW : World.setCell _ _ _ = W
    obtain ⟨⟨g0, g1, g2, g3⟩, hB⟩ := Box4.put (q := ⟨0, 0, 0, 0⟩) ⟨a0, a1, a2, a3⟩ hW
    refine bodyPost_ret (by simp [results, Tryz.results85, go_sem, g0, g1, g2, g3]; rfl) rfl ?_
    exact ⟨rfl, kp.bel.trans (hB _ (Nat.le_succ _))⟩
end Go.Proofs.YtenopnfclbegbaaGreat.U
/-
  What the reference's Take does where what is asked may be asked.
-/
namespace Go.Proofs.YtenopnfclbegbaaGreat.U
open Go.RowKit Go.Shelf

set_option maxHeartbeats 4000000 in
theorem refTake_yes (q : Sp) (x y : Int) (h1 : fine q = true) (h2 : amt x = true) (h3 : amt y = true) (w : World) : Calls Tryz.prog 85 #[q.v, .int .i64 x, .int .i64 y] w fun e w' => e = .returned (.tuple #[(took q x y).1.v, .int .i64 (took q x y).2]) ∧ Below w.heap.size w w' := by
  have c0 := fun w => refFine_any q w
  rw [took_yes h1 h2 h3]
  rw [h1] at c0
  rw [fine_iff] at h1
  rw [amt_iff] at h2
  rw [amt_iff] at h3
  have kp := Two.new w q 110 110
  obtain ⟨qb, qn, qm, qk⟩ := q
  dsimp only [Sp.v] at *
  obtain ⟨d1, d2, d3, d4, d5, d6⟩ := h1
  obtain ⟨d7, d8⟩ := h2
  obtain ⟨d9, d0⟩ := h3
  have t1 : ¬ 1073741824 < x := by omega
  have t2 : ¬ x < -1073741824 := by omega
  have t3 : ¬ 1073741824 < y := by omega
  have t4 : ¬ y < -1073741824 := by omega
  go_enter Tryz.func85, Tryz.ntmps85
  by_cases r1 : qk < qn + y
  · rw [if_pos r1]
    go_wp2_with (go_at_call 107; refine (c0 _).mono ?_; rintro e w1 ⟨rfl, b1⟩; have kp := kp.next b1; have l1 := kp.lt; have l0 := kp.own.lt; obtain ⟨k0, k1, k2, k3⟩ := kp.own; obtain ⟨a0, a1, a2, a3⟩ := kp.ans; obtain ⟨f0, f1, f2, f3⟩ := kp.fr)
    generalize hW : World.setCell _ _ _ = W
    obtain ⟨hB4, hB⟩ := Box4.put (q := ⟨0, 0, 0, 0⟩) ⟨a0, a1, a2, a3⟩ hW
    obtain ⟨g0, g1, g2, g3⟩ := hB4.alloc (.cells #[.int .i64 (qb + x), .int .i64 (qn + y), .int .i64 qm, .int .i64 qk] 110)
    refine bodyPost_ret (by simp [results, Tryz.results85, go_sem, g0, g1, g2, g3]; rfl) rfl ?_
    have hz := kp.bel.trans (hB _ (Nat.le_succ _))
    exact ⟨rfl, hz.alloc hz.size _⟩
  · rw [if_neg r1]
    by_cases r2 : qm < qb + x
    · rw [if_pos r2]
      go_wp2_with (go_at_call 107; refine (c0 _).mono ?_; rintro e w1 ⟨rfl, b1⟩; have kp := kp.next b1; have l1 := kp.lt; have l0 := kp.own.lt; obtain ⟨k0, k1, k2, k3⟩ := kp.own; obtain ⟨a0, a1, a2, a3⟩ := kp.ans; obtain ⟨f0, f1, f2, f3⟩ := kp.fr)
      generalize hW : World.setCell _ _ _ = W
      obtain ⟨hB4, hB⟩ := Box4.put (q := ⟨0, 0, 0, 0⟩) ⟨a0, a1, a2, a3⟩ hW
      obtain ⟨g0, g1, g2, g3⟩ := hB4.alloc (.cells #[.int .i64 (qb + x), .int .i64 (qn + y), .int .i64 qm, .int .i64 qk] 110)
      refine bodyPost_ret (by simp [results, Tryz.results85, go_sem, g0, g1, g2, g3]; rfl) rfl ?_
      have hz := kp.bel.trans (hB _ (Nat.le_succ _))
      exact ⟨rfl, hz.alloc hz.size _⟩
    · rw [if_neg r2]
      by_cases r4 : qn + y < 0
      · rw [if_pos (.inr r4)]
        go_wp2_with (go_at_call 107; refine (c0 _).mono ?_; rintro e w1 ⟨rfl, b1⟩; have kp := kp.next b1; have l1 := kp.lt; have l0 := kp.own.lt; obtain ⟨k0, k1, k2, k3⟩ := kp.own; obtain ⟨a0, a1, a2, a3⟩ := kp.ans; obtain ⟨f0, f1, f2, f3⟩ := kp.fr)
        generalize hW : World.setCell _ _ _ = W
        obtain ⟨hB4, hB⟩ := Box4.put (q := ⟨0, 0, 0, 0⟩) ⟨a0, a1, a2, a3⟩ hW
        obtain ⟨g0, g1, g2, g3⟩ := hB4.alloc (.cells #[.int .i64 (qb + x), .int .i64 (qn + y), .int .i64 qm, .int .i64 qk] 110)
        refine bodyPost_ret (by simp [results, Tryz.results85, go_sem, g0, g1, g2, g3]; rfl) rfl ?_
        have hz := kp.bel.trans (hB _ (Nat.le_succ _))
        exact ⟨rfl, hz.alloc hz.size _⟩
      · by_cases r3 : qb + x < 0
        · rw [if_pos (.inl r3)]
          go_wp2_with (go_at_call 107; refine (c0 _).mono ?_; rintro e w1 ⟨rfl, b1⟩; have kp := kp.next b1; have l1 := kp.lt; have l0 := kp.own.lt; obtain ⟨k0, k1, k2, k3⟩ := kp.own; obtain ⟨a0, a1, a2, a3⟩ := kp.ans; obtain ⟨f0, f1, f2, f3⟩ := kp.fr)
          generalize hW : World.setCell _ _ _ = W
          obtain ⟨hB4, hB⟩ := Box4.put (q := ⟨0, 0, 0, 0⟩) ⟨a0, a1, a2, a3⟩ hW
          obtain ⟨g0, g1, g2, g3⟩ := hB4.alloc (.cells #[.int .i64 (qb + x), .int .i64 (qn + y), .int .i64 qm, .int .i64 qk] 110)
          refine bodyPost_ret (by simp [results, Tryz.results85, go_sem, g0, g1, g2, g3]; rfl) rfl ?_
          have hz := kp.bel.trans (hB _ (Nat.le_succ _))
          exact ⟨rfl, hz.alloc hz.size _⟩
        · rw [if_neg (by omega)]
          go_wp2_with (go_at_call 107; refine (c0 _).mono ?_; rintro e w1 ⟨rfl, b1⟩; have kp := kp.next b1; have l1 := kp.lt; have l0 := kp.own.lt; obtain ⟨k0, k1, k2, k3⟩ := kp.own; obtain ⟨a0, a1, a2, a3⟩ := kp.ans; obtain ⟨f0, f1, f2, f3⟩ := kp.fr)
          generalize hW : World.setCell _ _ _ = W
          obtain ⟨hB4, hB⟩ := Box4.put (q := ⟨0, 0, 0, 0⟩) ⟨a0, a1, a2, a3⟩ hW
          obtain ⟨g0, g1, g2, g3⟩ := hB4.alloc (.cells #[.int .i64 (qb + x), .int .i64 (qn + y), .int .i64 qm, .int .i64 qk] 110)
          refine bodyPost_ret (by simp [results, Tryz.results85, go_sem, g0, g1, g2, g3]; rfl) rfl ?_
          have hz := kp.bel.trans (hB _ (Nat.le_succ _))
          exact ⟨rfl, hz.alloc hz.size _⟩
end Go.Proofs.YtenopnfclbegbaaGreat.U
/-
  What the reference's Blocks does; the example at the end of each law of package quota is true.
-/
namespace Go.Proofs.YtenopnfclbegbaaGreat.U
open Go.RowKit Go.Shelf

theorem Take_any (q : Sp) (x y : Int) (w : World) : Calls Tryz.prog 105 #[q.v, .int .i64 x, .int .i64 y] w fun e w' => e = .returned (.tuple #[(took q x y).1.v, .int .i64 (took q x y).2]) ∧ Below w.heap.size w w' := by
  by_cases h : fine q = true ∧ amt x = true ∧ amt y = true
  · exact Take_yes q x y h.1 h.2.1 h.2.2 w
  · have hn : fine q = false ∨ amt x = false ∨ amt y = false := by
      cases h1 : fine q <;> cases h2 : amt x <;> cases h3 : amt y <;> simp_all
    rw [took_no x y hn]
    exact Take_no q x y hn w
theorem refTake_any (q : Sp) (x y : Int) (w : World) : Calls Tryz.prog 85 #[q.v, .int .i64 x, .int .i64 y] w fun e w' => e = .returned (.tuple #[(took q x y).1.v, .int .i64 (took q x y).2]) ∧ Below w.heap.size w w' := by
  by_cases h : fine q = true ∧ amt x = true ∧ amt y = true
  · exact refTake_yes q x y h.1 h.2.1 h.2.2 w
  · have hn : fine q = false ∨ amt x = false ∨ amt y = false := by
      cases h1 : fine q <;> cases h2 : amt x <;> cases h3 : amt y <;> simp_all
    rw [took_no x y hn]
    exact refTake_no q x y hn w

set_option maxHeartbeats 1000000 in
theorem refBlocks_any (k s : Int) (hs : s ≤ 2000000) (w : World) : Calls Tryz.prog 86 #[.int .i64 k, .int .i64 s] w fun e w' => e = .returned (.int .i64 (blk k s)) ∧ w = w' := by
  unfold blk
  by_cases h1 : k = 1
  · rw [if_pos h1]
    go_enter Tryz.func86, Tryz.ntmps86
    go_wp2
    go_ret
    exact ⟨rfl, rfl⟩
  · rw [if_neg h1]
    by_cases h2 : k = 2
    · rw [if_pos h2]
      obtain ⟨r, hr⟩ : ∃ r, (if s < 1 then 0 else (s - 1) / 512 + 1) = r := ⟨_, rfl⟩
      rw [hr]
      have HR := Lib.hid hr
      clear hr
      go_enter Tryz.func86, Tryz.ntmps86
      go_wp2
      go_loop [5] (fun v => ∃ i : Int, v = .int .i64 i ∧ 0 ≤ i ∧ (i = 0 ∨ 512 * (i - 1) < s)) (fun v => (10000 - intOf v).toNat)
      case atStart => exact ⟨0, rfl, by omega, .inl rfl⟩
      case round =>
        obtain ⟨i, rfl, hi0, hi⟩ := hrel
        have hi2 : i ≤ 5000 := by omega
        by_cases hlt : 512 * i < s
        · go_wp2
          go_round
          case rel => exact ⟨i + 1, rfl, by omega, .inr (by omega)⟩
          case measure => simp [intOf]; omega
        · go_wp2
          go_ret
          refine ⟨?_, rfl⟩
          have e : i = r := by
            have hr := HR.out
            split at hr <;> omega
          rw [← e]
          rfl
    · rw [if_neg h2]
      go_enter Tryz.func86, Tryz.ntmps86
      go_wp2
      go_loop [5] (fun v => v = .int .i64 0) (fun _ => 0)
      case atStart => rfl
      case round =>
        subst hrel
        go_wp2
        go_ret
        exact ⟨rfl, rfl⟩

end Go.Proofs.YtenopnfclbegbaaGreat.U
