/-
  What the reference's Bit, May, Node, Owns, Free and Fine do.
-/
import Derived.Test.YtlceaecibjbeaaaGreatQwho
import Derived.Deep.DeepCutAuto
namespace Go.Proofs.YtlceaecibjbeaaaGreat.PM
open Go.RowKit Go.Shelf

theorem half (x : Int) (k : Nat) : x / 2 ^ k / 2 = x / 2 ^ (k + 1) := by
  rw [Int.ediv_ediv_of_nonneg (Int.le_of_lt (two_pos k)), Int.pow_succ]
set_option maxHeartbeats 1000000 in
theorem Bit_any (x : Int) (n : Nat) (hn : n ≤ 60) (w : World) : Calls Tryz.prog 99 #[.int .i64 x, .int .i64 n] w fun e w' => e = .returned (.bool (bt x n)) ∧ w = w' := by
  have h1 := and1
  have HS := Lib.hid (fun k => half x k)
  have HB := Lib.hid (show ∀ k : Nat, k ≤ n → ¬ ((k : Int) < n) → bt x n = decide (x / 2 ^ k % 2 = 1) from fun k h1 h2 => by rw [show k = n by omega]; rfl)
  go_enter Tryz.func99, Tryz.ntmps99
  go_wp2
  go_loop [0, 5] (fun y i => ∃ k : Nat, k ≤ n ∧ y = .int .i64 (x / 2 ^ k) ∧ i = .int .i64 k) (fun _ i => n - (intOf i).toNat)
  case atStart => exact ⟨0, by omega, by simp, rfl⟩
  case round =>
    obtain ⟨k, hk, rfl, rfl⟩ := hrel
    have h := HS.out k
    obtain ⟨y, hy⟩ : ∃ y, x / 2 ^ k = y := ⟨_, rfl⟩
    have hb := HB.out k hk
    rw [hy] at h hb ⊢
    have HB2 := Lib.hid hb
    clear hb
    go_wp2
    case roundEnd => exact ⟨⟨k + 1, by omega, rfl, by simp⟩, by simp [intOf]; omega⟩
    go_ret
    refine ⟨ret_bool ?_, rfl⟩
    rw [HB2.out (by omega)]
    rfl

/-- one round of the reference's loop: is a bit wanted that isn't there? -/
def lack (want mode : Int) (f i : Nat) : Bool := bt want i && !bt mode (f + i)
theorem ok3_lack (want mode : Int) (f : Nat) : ok3 want mode f = !(lack want mode f 0 || (lack want mode f 1 || lack want mode f 2)) := by
  unfold ok3 lack
  rw [Nat.add_zero]
  cases bt want 0 <;> cases bt want 1 <;> cases bt want 2 <;> cases bt mode f <;> cases bt mode (f + 1) <;> cases bt mode (f + 2) <;> rfl
def first3 (want mode : Int) (f k : Nat) : Prop := ∀ i, i < k → lack want mode f i = false
theorem ok3_all {want mode : Int} {f : Nat} (h : first3 want mode f 3) : ok3 want mode f = true := by
  rw [ok3_lack, h 0 (by decide), h 1 (by decide), h 2 (by decide)]; rfl
theorem ok3_not {want mode : Int} {f k : Nat} (hk : k < 3) (h : lack want mode f k = true) : ok3 want mode f = false := by
  rw [ok3_lack]
  obtain rfl | rfl | rfl : k = 0 ∨ k = 1 ∨ k = 2 := by omega
  · rw [h]; rfl
  · rw [h]; cases lack want mode f 0 <;> rfl
  · rw [h]; cases lack want mode f 0 <;> cases lack want mode f 1 <;> rfl

theorem Bit_int (x y : Int) (h0 : 0 ≤ y) (h1 : y ≤ 60) (w : World) : Calls Tryz.prog 99 #[.int .i64 x, .int .i64 y] w fun e w' => e = .returned (.bool (bt x y.toNat)) ∧ w = w' := by
  have h := Bit_any x y.toNat (by omega) w
  rw [Int.toNat_of_nonneg h0] at h
  exact h
theorem first3_next {want mode : Int} {f k : Nat} (h : first3 want mode f k) (h1 : lack want mode f k = false) : first3 want mode f (k + 1) := fun i hi => by
  by_cases e : i = k
  · rw [e]; exact h1
  · exact h i (by omega)
set_option maxHeartbeats 4000000 in
theorem refMay_any (cu cg u g mode want : Int) (w : World) : Calls Tryz.prog 71 #[.agg #[.int .i64 cu, .int .i64 cg], .int .i64 u, .int .i64 g, .int .i64 mode, .int .i64 want] w fun e w' => e = .returned (.bool (may cu cg u g mode want)) ∧ Below w.heap.size w w' := by
  obtain ⟨f, hf⟩ : ∃ f, from3 cu cg u g = f := ⟨_, rfl⟩
  have hf6 : f ≤ 6 := by rw [← hf]; exact from3_le cu cg u g
  obtain ⟨r, hr⟩ : ∃ r, ok3 want mode f = r := ⟨_, rfl⟩
  have hm : may cu cg u g mode want = (decide (cu = 0) || r) := by unfold may; rw [hf, hr]
  rw [hm]
  have HB := Lib.hid (fun (x y : Int) (h0 : 0 ≤ y) (h1 : y ≤ 60) (w : World) => Bit_int x y h0 h1 w)
  have HA := Lib.hid (fun h : first3 want mode f 3 => (ok3_all h).symm.trans hr)
  have HN := Lib.hid (fun (k : Nat) (hk : k < 3) (h : lack want mode f k = true) => (ok3_not hk h).symm.trans hr)
  clear hm hr
  by_cases h1 : cu = u
  · subst h1
    have e : f = 6 := by rw [← hf]; unfold from3; rw [if_pos rfl]
    subst e
    clear hf
    go_enter Tryz.func71, Tryz.ntmps71
    go_wp2
    go_loop [12] (fun i => ∃ k : Nat, k ≤ 3 ∧ Hid (first3 want mode 6 k) ∧ i = .int .i64 k) (fun i => 3 - (intOf i).toNat)
    case atStart => exact ⟨0, by decide, Lib.hid (fun i hi => absurd hi (by omega)), rfl⟩
    case round =>
      obtain ⟨k, hk, HK, rfl⟩ := hrel
      by_cases hk3 : k < 3
      · have c1 := HB.out want k (by omega) (by omega)
        have c2 := HB.out mode (6 + (k : Int)) (by omega) (by omega)
        rw [show ((k : Int)).toNat = k by omega] at c1
        rw [show (6 + (k : Int)).toNat = 6 + k by omega] at c2
        have HN2 := Lib.hid (HN.out k hk3)
        have HX := Lib.hid (first3_next HK.out (k := k))
        have HL := Lib.hid (show lack want mode 6 k = (bt want k && !bt mode (6 + k)) from rfl)
        generalize bt want k = p at c1 HL
        generalize bt mode (6 + k) = q at c2 HL
        cases p
        · have HY := Lib.hid (HX.out (by rw [HL.out]; rfl))
          go_wp2_with (refine (c1 _).mono ?_; rintro e w1 ⟨rfl, rfl⟩)
          have key := Lib.hid (show ∃ k1 : Nat, k1 ≤ 3 ∧ Hid (first3 want mode 6 k1) ∧ Value.int .i64 ((k : Int) + 1) = .int .i64 k1 from ⟨k + 1, by omega, HY, rfl⟩)
          refine ⟨?_, by simp [intOf]; omega⟩
          first | exact key.out | (refine ⟨trivial, ?_⟩; (repeat apply Exists.intro); exact ⟨key.out, rfl⟩)
        · cases q
          · have HR := Lib.hid (HN2.out (by rw [HL.out]; rfl))
            go_wp2_with (first | (refine (c1 _).mono ?_; clear c1; rintro e w1 ⟨rfl, rfl⟩) | (refine (c2 _).mono ?_; rintro e w1 ⟨rfl, rfl⟩))
            go_ret
            refine ⟨ret_bool ?_, ?_⟩
            · rw [← HR.out, Bool.or_false]; rfl
            · go_grown
          · have HY := Lib.hid (HX.out (by rw [HL.out]; rfl))
            go_wp2_with (first | (refine (c1 _).mono ?_; clear c1; rintro e w1 ⟨rfl, rfl⟩) | (refine (c2 _).mono ?_; rintro e w1 ⟨rfl, rfl⟩))
            have key := Lib.hid (show ∃ k1 : Nat, k1 ≤ 3 ∧ Hid (first3 want mode 6 k1) ∧ Value.int .i64 ((k : Int) + 1) = .int .i64 k1 from ⟨k + 1, by omega, HY, rfl⟩)
            refine ⟨?_, by simp [intOf]; omega⟩
            first | exact key.out | (refine ⟨trivial, ?_⟩; (repeat apply Exists.intro); exact ⟨key.out, rfl⟩)
      · obtain rfl : k = 3 := by omega
        have HR := Lib.hid (HA.out HK.out)
        go_wp2
        go_ret
        refine ⟨ret_bool ?_, ?_⟩
        · rw [← HR.out, Bool.or_true]
        · go_grown
  · by_cases h2 : cg = g
    · have hb1 : (cu == u) = false := by simpa using h1
      subst h2
      have e : f = 3 := by rw [← hf]; unfold from3; rw [if_neg h1, if_pos rfl]
      subst e
      clear hf
      go_enter Tryz.func71, Tryz.ntmps71
      go_wp2
      go_loop [12] (fun i => ∃ k : Nat, k ≤ 3 ∧ Hid (first3 want mode 3 k) ∧ i = .int .i64 k) (fun i => 3 - (intOf i).toNat)
      case atStart => exact ⟨0, by decide, Lib.hid (fun i hi => absurd hi (by omega)), rfl⟩
      case round =>
        obtain ⟨k, hk, HK, rfl⟩ := hrel
        by_cases hk3 : k < 3
        · have c1 := HB.out want k (by omega) (by omega)
          have c2 := HB.out mode (3 + (k : Int)) (by omega) (by omega)
          rw [show ((k : Int)).toNat = k by omega] at c1
          rw [show (3 + (k : Int)).toNat = 3 + k by omega] at c2
          have HN2 := Lib.hid (HN.out k hk3)
          have HX := Lib.hid (first3_next HK.out (k := k))
          have HL := Lib.hid (show lack want mode 3 k = (bt want k && !bt mode (3 + k)) from rfl)
          generalize bt want k = p at c1 HL
          generalize bt mode (3 + k) = q at c2 HL
          cases p
          · have HY := Lib.hid (HX.out (by rw [HL.out]; rfl))
            go_wp2_with (refine (c1 _).mono ?_; rintro e w1 ⟨rfl, rfl⟩)
            have key := Lib.hid (show ∃ k1 : Nat, k1 ≤ 3 ∧ Hid (first3 want mode 3 k1) ∧ Value.int .i64 ((k : Int) + 1) = .int .i64 k1 from ⟨k + 1, by omega, HY, rfl⟩)
            refine ⟨?_, by simp [intOf]; omega⟩
            first | exact key.out | (refine ⟨trivial, ?_⟩; (repeat apply Exists.intro); exact ⟨key.out, rfl⟩)
          · cases q
            · have HR := Lib.hid (HN2.out (by rw [HL.out]; rfl))
              go_wp2_with (first | (refine (c1 _).mono ?_; clear c1; rintro e w1 ⟨rfl, rfl⟩) | (refine (c2 _).mono ?_; rintro e w1 ⟨rfl, rfl⟩))
              go_ret
              refine ⟨ret_bool ?_, ?_⟩
              · rw [← HR.out, Bool.or_false]; rfl
              · go_grown
            · have HY := Lib.hid (HX.out (by rw [HL.out]; rfl))
              go_wp2_with (first | (refine (c1 _).mono ?_; clear c1; rintro e w1 ⟨rfl, rfl⟩) | (refine (c2 _).mono ?_; rintro e w1 ⟨rfl, rfl⟩))
              have key := Lib.hid (show ∃ k1 : Nat, k1 ≤ 3 ∧ Hid (first3 want mode 3 k1) ∧ Value.int .i64 ((k : Int) + 1) = .int .i64 k1 from ⟨k + 1, by omega, HY, rfl⟩)
              refine ⟨?_, by simp [intOf]; omega⟩
              first | exact key.out | (refine ⟨trivial, ?_⟩; (repeat apply Exists.intro); exact ⟨key.out, rfl⟩)
        · obtain rfl : k = 3 := by omega
          have HR := Lib.hid (HA.out HK.out)
          go_wp2
          go_ret
          refine ⟨ret_bool ?_, ?_⟩
          · rw [← HR.out, Bool.or_true]
          · go_grown
    · have hb1 : (cu == u) = false := by simpa using h1
      have hb2 : (cg == g) = false := by simpa using h2
      have e : f = 0 := by rw [← hf]; unfold from3; rw [if_neg h1, if_neg h2]
      subst e
      clear hf
      go_enter Tryz.func71, Tryz.ntmps71
      go_wp2
      go_loop [12] (fun i => ∃ k : Nat, k ≤ 3 ∧ Hid (first3 want mode 0 k) ∧ i = .int .i64 k) (fun i => 3 - (intOf i).toNat)
      case atStart => exact ⟨0, by decide, Lib.hid (fun i hi => absurd hi (by omega)), rfl⟩
      case round =>
        obtain ⟨k, hk, HK, rfl⟩ := hrel
        by_cases hk3 : k < 3
        · have c1 := HB.out want k (by omega) (by omega)
          have c2 := HB.out mode (k : Int) (by omega) (by omega)
          rw [show ((k : Int)).toNat = k by omega] at c1
          rw [show ((k : Int)).toNat = 0 + k by omega] at c2
          have HN2 := Lib.hid (HN.out k hk3)
          have HX := Lib.hid (first3_next HK.out (k := k))
          have HL := Lib.hid (show lack want mode 0 k = (bt want k && !bt mode (0 + k)) from rfl)
          generalize bt want k = p at c1 HL
          generalize bt mode (0 + k) = q at c2 HL
          cases p
          · have HY := Lib.hid (HX.out (by rw [HL.out]; rfl))
            go_wp2_with (refine (c1 _).mono ?_; rintro e w1 ⟨rfl, rfl⟩)
            have key := Lib.hid (show ∃ k1 : Nat, k1 ≤ 3 ∧ Hid (first3 want mode 0 k1) ∧ Value.int .i64 ((k : Int) + 1) = .int .i64 k1 from ⟨k + 1, by omega, HY, rfl⟩)
            refine ⟨?_, by simp [intOf]; omega⟩
            first | exact key.out | (refine ⟨trivial, ?_⟩; (repeat apply Exists.intro); exact ⟨key.out, rfl⟩)
          · cases q
            · have HR := Lib.hid (HN2.out (by rw [HL.out]; rfl))
              go_wp2_with (first | (refine (c1 _).mono ?_; clear c1; rintro e w1 ⟨rfl, rfl⟩) | (refine (c2 _).mono ?_; rintro e w1 ⟨rfl, rfl⟩))
              go_ret
              refine ⟨ret_bool ?_, ?_⟩
              · rw [← HR.out, Bool.or_false]; rfl
              · go_grown
            · have HY := Lib.hid (HX.out (by rw [HL.out]; rfl))
              go_wp2_with (first | (refine (c1 _).mono ?_; clear c1; rintro e w1 ⟨rfl, rfl⟩) | (refine (c2 _).mono ?_; rintro e w1 ⟨rfl, rfl⟩))
              have key := Lib.hid (show ∃ k1 : Nat, k1 ≤ 3 ∧ Hid (first3 want mode 0 k1) ∧ Value.int .i64 ((k : Int) + 1) = .int .i64 k1 from ⟨k + 1, by omega, HY, rfl⟩)
              refine ⟨?_, by simp [intOf]; omega⟩
              first | exact key.out | (refine ⟨trivial, ?_⟩; (repeat apply Exists.intro); exact ⟨key.out, rfl⟩)
        · obtain rfl : k = 3 := by omega
          have HR := Lib.hid (HA.out HK.out)
          go_wp2
          go_ret
          refine ⟨ret_bool ?_, ?_⟩
          · rw [← HR.out, Bool.or_true]
          · go_grown

set_option maxHeartbeats 1000000 in
theorem refNode_any (cu cg : Int) (n : Nd) (want : Int) (w : World) : Calls Tryz.prog 33 #[cred cu cg, n.v, .int .i64 want] w fun e w' => e = .returned (.bool (may cu cg n.uid n.gid n.mode want)) ∧ Below w.heap.size w w' := by
  obtain ⟨no, dev, kind, mode, uid, gid, mt, ct, links, up, data, ea, el, ec⟩ := n
  dsimp only [Nd.v, cred]
  have c1 := fun w => refMay_any cu cg uid gid mode want w
  generalize may cu cg uid gid mode want = r at c1 ⊢
  go_enter Tryz.func33, Tryz.ntmps33
  go_wp2_with (refine (c1 _).mono ?_; rintro e w1 ⟨rfl, b1⟩)
  go_ret
  exact ⟨rfl, (((Below.refl _ w).alloc (Nat.le_refl _) _).alloc (by simp) _).trans (b1.mono (by simp; omega))⟩

end Go.Proofs.YtlceaecibjbeaaaGreat.PM
