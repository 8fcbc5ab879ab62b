/-
  The law's example (awake).
-/
import Derived.Test.YtpgikopajbjjhaaDoorFfree
namespace Go.Proofs.YtpgikopajbjjhaaDoor.F
open Go.RowKit Go.Shelf

def two : List (List UInt8) := [[97], [97, 46, 50]]
theorem fr_two : fr [97] two = some [97, 46, 51] := by
  have h : nt [97] 1 = [97] ∧ nt [97] 2 = [97, 46, 50] ∧ nt [97] 3 = [97, 46, 51] := by decide +kernel
  have := fr_first (b := [97]) (ps := two) (n := 3) (by omega) (by omega) (by
    intro k h1 h3
    have : k = 1 ∨ k = 2 := by omega
    rcases this with rfl | rfl
    · rw [show ((1 : Nat) : Int) = 1 by rfl, h.1]; decide
    · rw [show ((2 : Nat) : Int) = 2 by rfl, h.2.1]; decide) (by rw [show ((3 : Nat) : Int) = 3 by rfl, h.2.2]; decide)
  rw [this, show ((3 : Nat) : Int) = 3 by rfl, h.2.2]
theorem sees_two (w : World) (t : TypeId) : Sees (.slice (some ⟨w.heap.size, 0, none⟩) 2 2) two (w.alloc (.cells #[.string ⟨#[97]⟩, .string ⟨#[97, 46, 50]⟩] t)) := by
  refine ⟨_, 2, rfl, fun k p h => ⟨w.heap.size, 0, rfl, ?_⟩⟩
  rw [World.cell?_alloc_at _ _ _ _ rfl]
  match k, h with
  | 0, h => cases h; rfl
  | 1, h => cases h; rfl
  | k + 2, h => simp [two] at h
theorem len_two : ∀ p ∈ two, p.length ≤ maxLen := by
  intro p hp
  have : p.length ≤ 3 := by
    revert p; decide
  unfold maxLen; omega
theorem awake_free (v : Value) (w : World) (hL : K.Laid w) (hR : Sees v two w) :
    Calls Tryd.prog 10 #[.string ⟨#[97]⟩, v] w fun e w' => e = .returned (.tuple #[.string ⟨#[97, 46, 51]⟩, .bool true]) ∧ Below w.heap.size w w' := by
  have := free_any [97] v two w hL hR (by decide) len_two (by decide)
  rw [fr_two] at this
  exact this

set_option maxHeartbeats 4000000 in
theorem awake_any (w : World) (hL : K.Laid w) :
    Calls Tryd.prog 7 #[] w fun e w' => e = .returned (.bool true) ∧ Below w.heap.size w w' := by
  have HL := Lib.hid hL
  clear hL
  go_enter Tryd.func7, Tryd.ntmps7
  go_wp2_with (go_at_call 10; refine (awake_free _ _ (HL.out.of_below ((Below.refl _ _).alloc (Nat.le_refl _) _)) (sees_two _ _)).mono ?_; rintro e w1 ⟨rfl, hb1⟩)
  go_ret
  exact ⟨rfl, below_two ((Below.refl _ _).alloc (Nat.le_refl _) _) hb1⟩

set_option maxHeartbeats 4000000 in
theorem freshApart_walk (B : ByteArray) (x y : Int) (hx0 : 0 ≤ x) (hx1 : x < 65536) (hy0 : 0 ≤ y) (hy1 : y < 65536) (w : World) (hL : K.Laid w) :
    Calls Tryd.prog 5 #[.string B, .int .u16 x, .int .u16 y] w fun e w' => e = .returned (.bool true) ∧ Below w.heap.size w w' := by
  obtain ⟨b, rfl⟩ := bytes_eq B
  have ca := awake_any w hL
  by_cases hb : b.length ≤ 300
  · by_cases hx : x < 2
    · have hb' : ¬ (300 : Int) < b.length := by omega
      clear hb hL
      go_enter Tryd.func5, Tryd.ntmps5
      go_wp2_with (go_at_call 7; refine ca.mono ?_; rintro e w1 ⟨rfl, hb1⟩)
      go_ret
      exact ⟨rfl, hb1⟩
    by_cases hy : y < 2
    · have hb' : ¬ (300 : Int) < b.length := by omega
      clear hb hL
      go_enter Tryd.func5, Tryd.ntmps5
      go_wp2_with (go_at_call 7; refine ca.mono ?_; rintro e w1 ⟨rfl, hb1⟩)
      go_ret
      exact ⟨rfl, hb1⟩
    by_cases hxy : x = y
    · have hb' : ¬ (300 : Int) < b.length := by omega
      clear hb hL
      subst hxy
      go_enter Tryd.func5, Tryd.ntmps5
      go_wp2_with (go_at_call 7; refine ca.mono ?_; rintro e w1 ⟨rfl, hb1⟩)
      go_ret
      exact ⟨rfl, hb1⟩
    have hb' : ¬ (300 : Int) < b.length := by omega
    have hne := nt_apart (b := b) (m := x) (n := y) (by omega) (by omega) hxy
    have c1 := Nth_any b x (by omega) (by omega) (by omega) w hL
    have c2 : ∀ w', Below w.heap.size w w' → _ := fun w' h => Nth_any b y (by omega) (by omega) (by omega) w' (hL.of_below h)
    have cw : ∀ w', Below w.heap.size w w' → _ := fun w' h => awake_any w' (hL.of_below h)
    generalize nt b x = X at c1 hne
    generalize nt b y = Y at c2 hne
    have hne' : (X == Y) = false := by simpa using hne
    have hx2 : 2 ≤ x := by omega
    have hy2 : 2 ≤ y := by omega
    clear hb hL hne ca hx2 hy2
    go_enter Tryd.func5, Tryd.ntmps5
    go_wp2_with (first
      | (go_at_call 9; first | (refine c1.mono ?_; clear c1; rintro e w1 ⟨rfl, hb1⟩) | (refine (c2 _ hb1).mono ?_; rintro e w2 ⟨rfl, hb2⟩))
      | (go_at_call 7; refine (cw _ (below_two hb1 hb2)).mono ?_; rintro e w3 ⟨rfl, hb3⟩))
    go_ret
    exact ⟨rfl, below_two (below_two hb1 hb2) hb3⟩
  · have hb' : (300 : Int) < b.length := by omega
    clear hL hb
    go_enter Tryd.func5, Tryd.ntmps5
    go_wp2_with (go_at_call 7; refine ca.mono ?_; rintro e w1 ⟨rfl, hb1⟩)
    go_ret
    exact ⟨rfl, hb1⟩
end Go.Proofs.YtpgikopajbjjhaaDoor.F
