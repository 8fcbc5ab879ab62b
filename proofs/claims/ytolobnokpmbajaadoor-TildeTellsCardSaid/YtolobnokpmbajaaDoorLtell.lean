/-
  The walk of TildeTells.
-/
import Derived.Test.YtolobnokpmbajaaDoorLawk
namespace Go.Proofs.YtolobnokpmbajaaDoor.L
open Go.RowKit Go.Shelf

theorem refCheck_is {l : List UInt8} {c : Int} (hl : l.length ≤ 5000) (h : V.M.check l = c) (w : World) : Calls Tryd.prog 24 #[.string ⟨l.toArray⟩] w fun e w' => e = .returned (.int .i64 c) ∧ w = w' := by
  have := V.refCheck_any ⟨l.toArray⟩ (by rw [size_l]; exact hl) w
  rw [show (⟨l.toArray⟩ : ByteArray).data.toList = l from rfl, h] at this
  exact this
theorem bk_le (b : List UInt8) (n : Int) (hb : b.length ≤ 300) (h0 : -9223372036854775808 ≤ n) (h1 : n ≤ 9223372036854775807) : (bk b n).length ≤ 400 := by
  have := Lib.itoa_length_le n h0 h1
  unfold bk; simp; omega

set_option maxHeartbeats 8000000 in
theorem tildeTells_walk (B S : ByteArray) (n : Int) (h0 : -9223372036854775808 ≤ n) (h1 : n ≤ 9223372036854775807) (w : World) (hL : K.Laid w) :
    Calls Tryd.prog 6 #[.string B, .string S, .int .i64 n] w fun e w' => e = .returned (.bool true) ∧ Below w.heap.size w w' := by
  obtain ⟨b, rfl⟩ := bytes_eq B
  obtain ⟨s, rfl⟩ := bytes_eq S
  have ca := awake_any w hL
  by_cases hb : b.length ≤ 300
  · by_cases hs : s.length ≤ 300
    · have hX := bk_le b n hb h0 h1
      have cn := name_any b n (by omega) w hL
      have ci := fun w => index_any b s (by omega) w
      have cr := fun w => refIndex_any b s (by omega) (by omega) w
      have cd := fun w => K.refDec_any n w h0 h1
      have ck := fun w => refCheck_is (l := b) (by omega) rfl w
      have cw : ∀ w', Below w.heap.size w w' → _ := fun w' h => awake_any w' (hL.of_below h)
      have hl := Lib.itoa_length_le n h0 h1
      have HB : Hid (bk b n = ((b ++ [46, 126]) ++ Lib.itoa n) ++ [126]) := Lib.hid rfl
      have a1 := fun w => add_ll b [46, 126] (by simp; omega) w
      have a2 := fun w => add_ll (b ++ [46, 126]) (Lib.itoa n) (by simp; omega) w
      have a3 := fun w => add_ll ((b ++ [46, 126]) ++ Lib.itoa n) [126] (by simp; omega) w
      rw [← HB.out] at a3
      have key : ∃ (c : Int) (X N : List UInt8) (E : Int), V.M.check b = c ∧ bk b n = X ∧ nm b n = N ∧ er b n = E ∧
          ((¬ c = 0 ∧ E = c ∧ N = []) ∨ (c = 0 ∧ n < 1 ∧ E = 3 ∧ N = []) ∨ (c = 0 ∧ 1 ≤ n ∧ 999999999 < n ∧ E = 3 ∧ N = []) ∨ (c = 0 ∧ 1 ≤ n ∧ n ≤ 999999999 ∧ 255 < (X.length : Int) ∧ E = 13 ∧ N = []) ∨
            (c = 0 ∧ 1 ≤ n ∧ n ≤ 999999999 ∧ ¬ 255 < (X.length : Int) ∧ E = 0 ∧ N = X ∧ ix b X = n)) := by
        refine ⟨_, _, _, _, rfl, rfl, rfl, rfl, ?_⟩
        by_cases hc : V.M.check b = 0
        · right
          by_cases p1 : n < 1
          · left
            have hv : vn n = false := by simp [vn]; omega
            have he : er b n = 3 := by unfold er; rw [if_neg (by simp [hc]), if_pos hv]
            exact ⟨hc, p1, he, by unfold nm; rw [he]; rfl⟩
          · right
            by_cases p2 : 999999999 < n
            · left
              have hv : vn n = false := by simp [vn]; omega
              have he : er b n = 3 := by unfold er; rw [if_neg (by simp [hc]), if_pos hv]
              exact ⟨hc, by omega, p2, he, by unfold nm; rw [he]; rfl⟩
            · right
              have hv : vn n = true := vn_of (by omega) (by omega)
              by_cases p3 : 255 < (bk b n).length
              · left
                have he : er b n = 13 := by unfold er; rw [if_neg (by simp [hc]), if_neg (by simp [hv]), if_pos p3]
                exact ⟨hc, by omega, by omega, by omega, he, by unfold nm; rw [he]; rfl⟩
              · right
                have he : er b n = 0 := by unfold er; rw [if_neg (by simp [hc]), if_neg (by simp [hv]), if_neg p3]
                have hn : nm b n = bk b n := by unfold nm; rw [if_pos he]
                exact ⟨hc, by omega, by omega, by omega, he, hn, by rw [← hn]; exact ix_nm he⟩
        · left
          have he : er b n = V.M.check b := by unfold er; rw [if_pos hc]
          exact ⟨hc, he, by unfold nm; rw [he, if_neg hc]⟩
      obtain ⟨c, X, N, E, e1, e2, e3, e4, key⟩ := key
      rw [e1] at ck
      rw [e2] at a3 hX
      rw [e3, e4] at cn
      have c2 := fun w => index_any b X (by omega) w
      clear e1 e2 e3 e4 HB
      unfold K.S at cd
      generalize Lib.itoa n = I at cd a2 a3
      generalize b ++ [46, 126] ++ I = Y at a2 a3
      generalize b ++ [46, 126] = Z at a1 a2
      have x1 := ix_range b s
      generalize ix b s = x at ci cr x1
      clear hL hl
      rcases key with ⟨k1, rfl, rfl⟩ | ⟨rfl, k1, rfl, rfl⟩ | ⟨rfl, k1, k2, rfl, rfl⟩ | ⟨rfl, k1, k2, k3, rfl, rfl⟩ | ⟨rfl, k1, k2, k3, rfl, rfl, k4⟩
      case inr.inr.inr.inr =>
        rw [k4] at c2
        clear k4
        go_enter Tryd.func6, Tryd.ntmps6
        go_wp2_with (first
          | (go_at_call 22; refine cn.mono ?_; rintro e w1 ⟨rfl, hb1⟩)
          | (go_at_call 23; refine (cd _).mono ?_; rintro e w2 ⟨rfl, hb2⟩)
          | (go_at_call 24; refine (ck _).mono ?_; rintro e w9 ⟨rfl, rfl⟩)
          | (go_at_call 25; first | (refine (ci _).mono ?_; clear ci; rintro e w3 ⟨rfl, hb3⟩) | (refine (c2 _).mono ?_; rintro e w5 ⟨rfl, hb5⟩))
          | (go_at_call 26; refine (cr _).mono ?_; rintro e w4 ⟨rfl, hb4⟩)
          | (go_at_call 21; refine (cw _ (below_two (below_two (below_two (below_two hb1 hb2) hb3) hb4) hb5)).mono ?_; rintro e w6 ⟨rfl, hb6⟩))
        go_ret
        exact ⟨rfl, below_two (below_two (below_two (below_two (below_two hb1 hb2) hb3) hb4) hb5) hb6⟩
      all_goals
        clear c2
        go_enter Tryd.func6, Tryd.ntmps6
        go_wp2_with (first
          | (go_at_call 22; refine cn.mono ?_; rintro e w1 ⟨rfl, hb1⟩)
          | (go_at_call 23; refine (cd _).mono ?_; rintro e w2 ⟨rfl, hb2⟩)
          | (go_at_call 24; refine (ck _).mono ?_; rintro e w9 ⟨rfl, rfl⟩)
          | (go_at_call 25; refine (ci _).mono ?_; rintro e w3 ⟨rfl, hb3⟩)
          | (go_at_call 26; refine (cr _).mono ?_; rintro e w4 ⟨rfl, hb4⟩)
          | (go_at_call 21; refine (cw _ (below_two (below_two (below_two hb1 hb2) hb3) hb4)).mono ?_; rintro e w6 ⟨rfl, hb6⟩))
        go_ret
        exact ⟨rfl, below_two (below_two (below_two (below_two hb1 hb2) hb3) hb4) hb6⟩
    · have hs' : (300 : Int) < s.length := by omega
      have hb' : ¬ (300 : Int) < b.length := by omega
      clear hL hs hb
      go_enter Tryd.func6, Tryd.ntmps6
      go_wp2_with (go_at_call 21; refine ca.mono ?_; rintro e w1 ⟨rfl, hb1⟩)
      go_ret
      exact ⟨rfl, hb1⟩
  · have hb' : (300 : Int) < b.length := by omega
    clear hL hb
    go_enter Tryd.func6, Tryd.ntmps6
    go_wp2_with (go_at_call 21; refine ca.mono ?_; rintro e w1 ⟨rfl, hb1⟩)
    go_ret
    exact ⟨rfl, hb1⟩
end Go.Proofs.YtolobnokpmbajaaDoor.L
