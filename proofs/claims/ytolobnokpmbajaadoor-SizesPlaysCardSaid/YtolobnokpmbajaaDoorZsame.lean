/-
  The reference's Same.
-/
import Derived.Test.YtolobnokpmbajaaDoorZwrite
import Derived.Laws.StructEq
namespace Go.Proofs.YtolobnokpmbajaaDoor.Z
open Go.RowKit Go.Shelf

theorem same_step {xs ys : List Line} {k : Nat} {p : Line} (h : xs.take k = ys.take k) (h1 : xs[k]? = some p) (h2 : ys[k]? = some p) : xs.take (k + 1) = ys.take (k + 1) := by
  rw [List.take_add_one, List.take_add_one, h, h1, h2]
theorem below_drewN {n : Nat} {w : World} (k : Nat) : Below n w (w.drewN k) := by
  induction k with
  | zero => exact Below.refl _ _
  | succ k ih => exact ih.drew
theorem line_ne {x y : Line} (h : x ≠ y) : (¬ x.size = y.size) ∨ (x.size = y.size ∧ ¬ x.time = y.time) ∨ (x.size = y.size ∧ x.time = y.time ∧ ¬ x.name = y.name) := by
  by_cases h1 : x.size = y.size
  · by_cases h2 : x.time = y.time
    · by_cases h3 : x.name = y.name
      · exact absurd (by cases x; cases y; simp_all) h
      · exact .inr (.inr ⟨h1, h2, h3⟩)
    · exact .inr (.inl ⟨h1, h2⟩)
  · exact .inl h1

set_option maxRecDepth 100000 in
set_option maxHeartbeats 4000000 in
theorem same_any (a b : Value) (xs ys : List Line) (hx : xs.length ≤ 100000) (hy : ys.length ≤ 100000) (w : World) (ha : Sees a xs w) (hb : Sees b ys w) :
    Calls Tryd.prog 12 #[a, b] w fun e w' => e = .returned (.bool (decide (xs = ys))) ∧ Below w.heap.size w w' := by
  have mixed : Tryd.prog.follows Departure.mixedOrders = true := by kernel_rfl
  obtain ⟨oa, ca, rfl, hca⟩ := ha
  obtain ⟨ob, cb, rfl, hcb⟩ := hb
  have HA := Lib.hid hca; have HB := Lib.hid hcb
  clear hca hcb
  by_cases hl : xs.length = ys.length
  · have hl' : (xs.length : Int) = ys.length := by omega
    rw [← hl]
    have HL := Lib.hid hl
    clear hl hl'
    go_enter Tryd.func12, Tryd.ntmps12
    go_wp2
    go_loopw [5] (fun i wr => ∃ k : Nat, k ≤ xs.length ∧ i = .int .i64 k ∧ xs.take k = ys.take k ∧ ∃ n, wr = w.drewN n) (fun i _ => xs.length - (intOf i).toNat)
    case atStart => exact ⟨0, Nat.zero_le _, rfl, rfl, 0, rfl⟩
    case round =>
      obtain ⟨k, hk, rfl, hsame, n, rfl⟩ := hrel
      have HS := Lib.hid hsame
      clear hsame
      by_cases hkl : k < xs.length
      · obtain ⟨x, hp⟩ : ∃ p, xs[k]? = some p := ⟨_, List.getElem?_eq_getElem hkl⟩
        obtain ⟨y, hq⟩ : ∃ q, ys[k]? = some q := ⟨_, List.getElem?_eq_getElem (by have := HL.out; omega)⟩
        obtain ⟨g1, o1, rfl, c0, c1, c2⟩ := HA.out k x hp
        obtain ⟨g2, o2, rfl, e0, e1, e2⟩ := HB.out k y hq
        have HP := Lib.hid hp; have HQ := Lib.hid hq
        clear hp hq
        by_cases hpq : x = y
        · subst hpq
          go_wp2
          go_region_o
          go_wp2
          go_roundw
          case rel => exact ⟨k + 1, by omega, by go_num, same_step HS.out HP.out HQ.out, n + 1, rfl⟩
          case measure => simp [intOf]; omega
        · have HN : Hid (¬ xs = ys) := Lib.hid (by rintro rfl; exact hpq (by rw [HP.out] at HQ; exact Option.some.inj HQ.out))
          obtain ⟨a1, t1, n1⟩ := x
          obtain ⟨a2, t2, n2⟩ := y
          dsimp only at c0 c1 c2 e0 e1 e2
          rcases line_ne hpq with hd | ⟨hd1, hd⟩ | ⟨hd1, hd2, hd⟩
          · dsimp only at hd
            have hd' : (a1 == a2) = false := by simpa using hd
            clear hpq HP HQ hd
            go_wp2
            go_region_o
            go_wp2
            go_ret
            exact ⟨by rw [decide_eq_false HN.out]; rfl, (below_drewN n).drew⟩
          · dsimp only at hd hd1
            subst hd1
            have hd' : (t1 == t2) = false := by simpa using hd
            clear hpq HP HQ hd
            go_wp2
            go_region_o
            go_wp2
            go_ret
            exact ⟨by rw [decide_eq_false HN.out]; rfl, (below_drewN n).drew⟩
          · dsimp only at hd hd1 hd2
            subst hd1 hd2
            have hd' : (n1 == n2) = false := by simpa using hd
            clear hpq HP HQ hd
            go_wp2
            go_region_o
            go_wp2
            go_ret
            exact ⟨by rw [decide_eq_false HN.out]; rfl, (below_drewN n).drew⟩
      · have HE : Hid (xs = ys) := Lib.hid (by
          have := HS.out
          have hl2 := HL.out
          rw [List.take_of_length_le (by omega), List.take_of_length_le (by omega)] at this; exact this)
        go_wp2
        go_ret
        exact ⟨by rw [decide_eq_true HE.out]; rfl, below_drewN n⟩
  · have hl' : ¬ (xs.length : Int) = ys.length := by omega
    have HN : Hid (¬ xs = ys) := Lib.hid (by rintro rfl; exact hl rfl)
    go_enter Tryd.func12, Tryd.ntmps12
    go_wp2
    go_ret
    exact ⟨by rw [decide_eq_false HN.out]; rfl, Below.refl _ _⟩
end Go.Proofs.YtolobnokpmbajaaDoor.Z
