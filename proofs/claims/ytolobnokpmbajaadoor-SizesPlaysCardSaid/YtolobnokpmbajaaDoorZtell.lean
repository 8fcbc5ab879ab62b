/-
  The walk of SizesTells.
-/
import Derived.Test.YtolobnokpmbajaaDoorZlaw
namespace Go.Proofs.YtolobnokpmbajaaDoor.Z
open Go.RowKit Go.Shelf

/-- numbers that are ints -/
def Ints (ls : List Line) : Prop := ∀ x ∈ ls, (-9223372036854775808 ≤ x.size ∧ x.size ≤ 9223372036854775807) ∧ (-9223372036854775808 ≤ x.time ∧ x.time ≤ 9223372036854775807)
theorem fits {ls : List Line} (h : Ints ls) (hf : fewL ls = true) : ∀ x ∈ ls, Fit x := fun x hx => by
  obtain ⟨⟨h1, h2⟩, h3, h4⟩ := h x hx
  have := (fewL_yes hf).1 x hx
  exact ⟨by omega, h1, h2, h3, h4⟩
theorem few_is {v : Value} {ls : List Line} {b : Bool} (hb : fewL ls = b) (w : World) (hR : Sees v ls w) (hl : ls.length ≤ 9223372036854775807) :
    Calls Tryd.prog 8 #[v] w fun e w' => e = .returned (.bool b) ∧ w' = w := by
  have := few_any v ls w hR hl
  rwa [hb] at this

set_option maxRecDepth 100000 in
set_option maxHeartbeats 4000000 in
theorem sizesTells_walk (v : Value) (ls : List Line) (S : ByteArray) (w : World) (hL : K.Laid w) (hR : Sees v ls w) (hsz : ls.length ≤ 9223372036854775807) (hI : Ints ls) :
    Calls Tryd.prog 3 #[v, .string S] w fun e w' => e = .returned (.bool true) ∧ Below w.heap.size w w' := by
  obtain ⟨s, rfl⟩ := bytes_eq S
  have ca := awake_any w hL
  cases hf : fewL ls with
  | false =>
    have cf := few_is hf w hR hsz
    clear hf hR hI
    go_enter Tryd.func3, Tryd.ntmps3
    go_wp2_with (first
      | (go_at_call 8; refine cf.mono ?_; rintro e w1 ⟨rfl, hw1⟩; obtain rfl := hw1.symm)
      | (go_at_call 9; refine ca.mono ?_; rintro e w2 ⟨rfl, hb2⟩))
    go_ret
    exact ⟨rfl, hb2⟩
  | true =>
    have cf := few_is hf w hR hsz
    by_cases hs : s.length ≤ 800
    · have hfit := fits hI hf
      have hl30 := (fewL_yes hf).2
      have cw := write_any v ls w hR hfit (by omega) hL
      have HR := Lib.hid hR; have HF := Lib.hid hfit; have HL := Lib.hid hL
      have hmem : ∀ t ∈ I.lines s, t.length ≤ 5000 := fun t ht => by have := I.line_le ht; omega
      have hrl : (rows (I.lines s)).length ≤ 100000 := by have := rows_len (I.lines s); have := I.lines_len s; omega
      have cp := fun w => parse_rows s (by omega) hmem w
      have cr := fun w => refParse_any ⟨s.toArray⟩ (by rw [size_l]; omega) w
      rw [show (⟨s.toArray⟩ : ByteArray).data.toList = s from rfl] at cr
      generalize rows (I.lines s) = R at cp cr hrl
      have hl := hl30
      clear ca hf hR hI hfit hmem hL hl30
      have hs' : ¬ (800 : Int) < s.length := by omega
      go_enter Tryd.func3, Tryd.ntmps3
      go_wp2_with (first
        | (go_at_call 8; refine cf.mono ?_; rintro e w1 ⟨rfl, hw1⟩; obtain rfl := hw1.symm)
        | (go_at_call 10; refine cw.mono ?_; rintro e w2 ⟨rfl, hb2⟩)
        | (go_at_call 11; refine (refWrite_any v ls _ (HR.out.below hb2) HF.out (by omega)).mono ?_; rintro e w3 ⟨rfl, hb3⟩)
        | (go_at_call 13; refine (cp _).mono ?_; rintro e w4 ⟨u1, rfl, hs4, hb4⟩; have HS4 := Lib.hid hs4; clear hs4)
        | (go_at_call 14; refine (cr _).mono ?_; rintro e w5 ⟨u2, rfl, ho5, hb5⟩; have HO5 := Lib.hid ho5; clear ho5)
        | (go_at_call 12; refine (same_any u1 u2 R R hrl hrl _ (HS4.out.below hb5) HO5.out.sees).mono ?_; rintro e w6 ⟨rfl, hb6⟩; rw [decide_eq_true (rfl : R = R)])
        | (go_at_call 9; refine (awake_any _ (HL.out.of_below (below_two (below_two (below_two (below_two hb2 hb3) hb4) hb5) hb6))).mono ?_; rintro e w7 ⟨rfl, hb7⟩))
      go_ret
      exact ⟨rfl, below_two (below_two (below_two (below_two (below_two hb2 hb3) hb4) hb5) hb6) hb7⟩
    · have hs' : (800 : Int) < s.length := by omega
      clear hf hR hI hs
      go_enter Tryd.func3, Tryd.ntmps3
      go_wp2_with (first
        | (go_at_call 8; refine cf.mono ?_; rintro e w1 ⟨rfl, hw1⟩; obtain rfl := hw1.symm)
        | (go_at_call 9; refine ca.mono ?_; rintro e w2 ⟨rfl, hb2⟩))
      go_ret
      exact ⟨rfl, hb2⟩
end Go.Proofs.YtolobnokpmbajaaDoor.Z
