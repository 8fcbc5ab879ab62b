/-
  What the reference's Text does; modes have unlike letters.
-/
import Derived.Test.YtccdpkbiandjdaaQtext
import Derived.Test.YtccdpkbiandjdaaQref
namespace Go.Proofs.Ytccdpkbiandjdaa.PM
open Go.RowKit Go.Shelf

def lets (k : Nat) : UInt8 := if k % 3 = 0 then 114 else if k % 3 = 1 then 119 else 120
/-- the letter at a place behind the kind's -/
def ch (m : Int) (k : Nat) : UInt8 := if k = 8 ∧ bt m 9 = true then (if bt m 0 then 116 else 84) else if bt m (8 - k) then lets k else 45
def run (kind m : Int) (k : Nat) : List UInt8 := lt kind :: (List.range k).map (ch m)
theorem run_next (kind m : Int) (k : Nat) : run kind m (k + 1) = run kind m k ++ [ch m k] := by
  unfold run; rw [List.range_succ, List.map_append]; rfl
theorem run_len (kind m : Int) (k : Nat) : (run kind m k).length = k + 1 := by unfold run; simp
theorem tri_at (m : Int) (k : Nat) (y n : List UInt8) : tri (m / 2 ^ k % 8) y n = (pk (bt m (k + 2)) [114] [45] ++ pk (bt m (k + 1)) [119] [45]) ++ pk (bt m k) y n := by
  unfold tri
  rw [(bt_low (m / 2 ^ k)).1, (bt_low (m / 2 ^ k)).2.1, (bt_low (m / 2 ^ k)).2.2, bt_shift, bt_shift, bt_shift]
  rfl
theorem txt_run (kind m : Int) : txt kind m = run kind m 9 := by
  unfold txt oth run
  rw [show List.range 9 = [0, 1, 2, 3, 4, 5, 6, 7, 8] from rfl]
  rw [tri_at, tri_at, tri_at, tri_at]
  simp only [List.map_cons, List.map_nil, ch]
  generalize lt kind = c
  generalize bt m 9 = b9
  generalize h8 : bt m (6 + 2) = b8
  generalize h7 : bt m (6 + 1) = b7
  generalize h6 : bt m 6 = b6
  generalize h5 : bt m (3 + 2) = b5
  generalize h4 : bt m (3 + 1) = b4
  generalize h3 : bt m 3 = b3
  generalize h2 : bt m (0 + 2) = b2
  generalize h1 : bt m (0 + 1) = b1
  generalize h0 : bt m 0 = b0
  clear h8 h7 h6 h5 h4 h3 h2 h1 h0
  have e8 : ∀ b : Bool, pk b [114] [45] = [if b then lets 0 else 45] := by decide
  have e7 : ∀ b : Bool, pk b [119] [45] = [if b then lets 1 else 45] := by decide
  have e6 : ∀ b : Bool, pk b [120] [45] = [if b then lets 2 else 45] := by decide
  simp only [e8, e7, e6]
  have et : pk b0 [116] [84] = [if b0 then 116 else 84] := by cases b0 <;> rfl
  rw [et]
  cases b9
  · simp [lets]
  · simp [lets]
abbrev letters : ByteArray := ⟨#[114, 119, 120, 114, 119, 120, 114, 119, 120]⟩
theorem cut_fin : ∀ k : Fin 9, letters.extract k.val (k.val + 1) = ⟨[lets k.val].toArray⟩ := by decide +kernel
theorem cut_at (k : Nat) (h : k < 9) : letters.extract k (k + 1) = ⟨[lets k].toArray⟩ := cut_fin ⟨k, h⟩

set_option maxHeartbeats 4000000 in
theorem refText_any (kind m : Int) (w : World) : Calls Try.prog 16 #[.int .i64 kind, .int .i64 m] w fun e w' => e = .returned (.string ⟨(txt kind m).toArray⟩) ∧ w = w' := by
  rw [txt_run]
  have HB := Lib.hid (fun (y : Int) (h0 : 0 ≤ y) (h1 : y ≤ 60) (w : World) => Bit_int m y h0 h1 w)
  have HE := Lib.hid cut_at
  have HN := Lib.hid (run_next kind m)
  have HA := Lib.hid (fun k (h : k ≤ 9) => add_ll (run kind m k) [ch m k] (by rw [run_len]; simp; omega))
  have HC := Lib.hid (show ∀ k, ch m k = if k = 8 ∧ bt m 9 = true then (if bt m 0 then 116 else 84) else if bt m (8 - k) then lets k else 45 from fun _ => rfl)
  have H1 := Lib.hid (show kind = 1 → run kind m 0 = [100] from fun h => by rw [h]; rfl)
  have H2 := Lib.hid (show kind = 2 → run kind m 0 = [45] from fun h => by rw [h]; rfl)
  have H3 := Lib.hid (show kind = 3 → run kind m 0 = [108] from fun h => by rw [h]; rfl)
  have H4 := Lib.hid (show kind ≠ 1 → kind ≠ 2 → kind ≠ 3 → run kind m 0 = [63] from fun h1 h2 h3 => by unfold run lt; rw [if_neg h1, if_neg h2, if_neg h3]; rfl)
  obtain ⟨e1, e2, e3, hst⟩ | ⟨e1, e2, e3, hst⟩ | ⟨e1, e2, e3, hst⟩ | ⟨e1, e2, e3, hst⟩ : ((kind == 1) = true ∧ (kind == 2) = false ∧ (kind == 3) = false ∧ Hid (run kind m 0 = [100])) ∨ ((kind == 1) = false ∧ (kind == 2) = true ∧ (kind == 3) = false ∧ Hid (run kind m 0 = [45])) ∨
      ((kind == 1) = false ∧ (kind == 2) = false ∧ (kind == 3) = true ∧ Hid (run kind m 0 = [108])) ∨ ((kind == 1) = false ∧ (kind == 2) = false ∧ (kind == 3) = false ∧ Hid (run kind m 0 = [63])) := by
    simp only [beq_iff_eq, beq_eq_false_iff_ne, ne_eq]
    by_cases h1 : kind = 1
    · exact .inl ⟨h1, by omega, by omega, Lib.hid (H1.out h1)⟩
    · by_cases h2 : kind = 2
      · exact .inr (.inl ⟨h1, h2, by omega, Lib.hid (H2.out h2)⟩)
      · by_cases h3 : kind = 3
        · exact .inr (.inr (.inl ⟨h1, h2, h3, Lib.hid (H3.out h3)⟩))
        · exact .inr (.inr (.inr ⟨h1, h2, h3, Lib.hid (H4.out h1 h2 h3)⟩))
  all_goals
    clear H1 H2 H3 H4
    go_enter Try.func16, Try.ntmps16
    go_wp2
    go_loop [5, 7] (fun s i => ∃ k : Nat, k ≤ 9 ∧ s = .string ⟨(run kind m k).toArray⟩ ∧ i = .int .i64 k) (fun _ i => 9 - (intOf i).toNat)
    case atStart =>
      exact ⟨0, by decide, by rw [hst.out], rfl⟩
    case round =>
      obtain ⟨k, hk, rfl, rfl⟩ := hrel
      have hne := HN.out k
      have hadd := HA.out k hk
      by_cases hk9 : k < 9
      · have c1 := HB.out (8 - (k : Int)) (by omega) (by omega)
        rw [show (8 - (k : Int)).toNat = 8 - k by omega] at c1
        have hcut := HE.out k hk9
        have hch := HC.out k
        rw [hne.symm] at hadd
        have hr1 := Lib.hid (rfl : run kind m (k + 1) = run kind m (k + 1))
        by_cases hk8 : k = 8
        · subst hk8
          obtain ⟨q9, h9⟩ : ∃ q, bt m 9 = q := ⟨_, rfl⟩
          obtain ⟨q0, h0⟩ : ∃ q, bt m 0 = q := ⟨_, rfl⟩
          have z0 : bt m (0 : Int).toNat = q0 := h0
          have z9 : bt m (9 : Int).toNat = q9 := h9
          rw [show bt m (8 - 8) = bt m 0 from rfl] at hch
          have hcut' : letters.extract 8 9 = ⟨#[120]⟩ := hcut
          clear c1 hcut hne hr1
          rw [h9, h0] at hch
          clear h9 h0
          cases q9
          · rw [if_neg (fun h => by cases h.2)] at hch
            cases q0
            · rw [hch, if_neg (by decide)] at hadd
              clear hch
              go_wp2_with (refine (HB.out _ (by decide) (by decide) _).mono ?_; rintro e w1 ⟨rfl, rfl⟩; simp only [z0, z9])
              have key := Lib.hid (show ∃ k1 : Nat, k1 ≤ 9 ∧ Value.string ⟨(run kind m 9).toArray⟩ = .string ⟨(run kind m k1).toArray⟩ ∧ Value.int .i64 9 = .int .i64 k1 from ⟨9, by omega, rfl, rfl⟩)
              refine ⟨?_, by simp [intOf]⟩
              first | exact key.out | (refine ⟨trivial, ?_⟩; (repeat apply Exists.intro); exact ⟨key.out, rfl⟩)
            · rw [hch, if_pos rfl, show lets 8 = 120 from rfl] at hadd
              clear hch
              go_wp2_with (refine (HB.out _ (by decide) (by decide) _).mono ?_; rintro e w1 ⟨rfl, rfl⟩; simp only [z0, z9])
              have key := Lib.hid (show ∃ k1 : Nat, k1 ≤ 9 ∧ Value.string ⟨(run kind m 9).toArray⟩ = .string ⟨(run kind m k1).toArray⟩ ∧ Value.int .i64 9 = .int .i64 k1 from ⟨9, by omega, rfl, rfl⟩)
              refine ⟨?_, by simp [intOf]⟩
              first | exact key.out | (refine ⟨trivial, ?_⟩; (repeat apply Exists.intro); exact ⟨key.out, rfl⟩)
          · rw [if_pos ⟨rfl, rfl⟩] at hch
            cases q0
            · rw [hch, if_neg (by decide)] at hadd
              clear hch
              go_wp2_with (refine (HB.out _ (by decide) (by decide) _).mono ?_; rintro e w1 ⟨rfl, rfl⟩; simp only [z0, z9])
              have key := Lib.hid (show ∃ k1 : Nat, k1 ≤ 9 ∧ Value.string ⟨(run kind m 9).toArray⟩ = .string ⟨(run kind m k1).toArray⟩ ∧ Value.int .i64 9 = .int .i64 k1 from ⟨9, by omega, rfl, rfl⟩)
              refine ⟨?_, by simp [intOf]⟩
              first | exact key.out | (refine ⟨trivial, ?_⟩; (repeat apply Exists.intro); exact ⟨key.out, rfl⟩)
            · rw [hch, if_pos rfl] at hadd
              clear hch
              go_wp2_with (refine (HB.out _ (by decide) (by decide) _).mono ?_; rintro e w1 ⟨rfl, rfl⟩; simp only [z0, z9])
              have key := Lib.hid (show ∃ k1 : Nat, k1 ≤ 9 ∧ Value.string ⟨(run kind m 9).toArray⟩ = .string ⟨(run kind m k1).toArray⟩ ∧ Value.int .i64 9 = .int .i64 k1 from ⟨9, by omega, rfl, rfl⟩)
              refine ⟨?_, by simp [intOf]⟩
              first | exact key.out | (refine ⟨trivial, ?_⟩; (repeat apply Exists.intro); exact ⟨key.out, rfl⟩)
        · rw [if_neg (fun h => hk8 h.1)] at hch
          have hk8' : ((k : Int) == 8) = false := by simp; omega
          generalize bt m (8 - k) = q at c1 hch
          cases q
          · rw [hch, if_neg (by decide)] at hadd
            clear hch hcut hne hr1
            go_wp2_with (refine (c1 _).mono ?_; rintro e w1 ⟨rfl, rfl⟩)
            have key := Lib.hid (show ∃ k1 : Nat, k1 ≤ 9 ∧ Value.string ⟨(run kind m (k + 1)).toArray⟩ = .string ⟨(run kind m k1).toArray⟩ ∧ Value.int .i64 ((k : Int) + 1) = .int .i64 k1 from ⟨k + 1, by omega, rfl, rfl⟩)
            refine ⟨?_, by simp [intOf]; omega⟩
            first | exact key.out | (refine ⟨trivial, ?_⟩; (repeat apply Exists.intro); exact ⟨key.out, rfl⟩)
          · rw [hch, if_pos rfl] at hadd
            clear hch hne hr1
            go_wp2_with (refine (c1 _).mono ?_; rintro e w1 ⟨rfl, rfl⟩)
            have key := Lib.hid (show ∃ k1 : Nat, k1 ≤ 9 ∧ Value.string ⟨(run kind m (k + 1)).toArray⟩ = .string ⟨(run kind m k1).toArray⟩ ∧ Value.int .i64 ((k : Int) + 1) = .int .i64 k1 from ⟨k + 1, by omega, rfl, rfl⟩)
            refine ⟨?_, by simp [intOf]; omega⟩
            first | exact key.out | (refine ⟨trivial, ?_⟩; (repeat apply Exists.intro); exact ⟨key.out, rfl⟩)
      · obtain rfl : k = 9 := by omega
        go_wp2
        go_ret
        exact ⟨rfl, rfl⟩
end Go.Proofs.Ytccdpkbiandjdaa.PM
