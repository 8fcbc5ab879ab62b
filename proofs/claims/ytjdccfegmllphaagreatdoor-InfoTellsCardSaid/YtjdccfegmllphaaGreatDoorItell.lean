/-
  What the reference's Write does; the law InfoTells.
-/
import Derived.Test.YtjdccfegmllphaaGreatDoorIrpar
namespace Go.Proofs.YtjdccfegmllphaaGreatDoor.I
open Go.RowKit Go.Shelf

set_option maxHeartbeats 1000000 in
theorem refWrite_bad {l : List UInt8} (hl : l.length ≤ 3000) (h : vd l = false) (x : Int) (w : World) : Calls Tryz.prog 6 #[.string ⟨l.toArray⟩, .int .i64 x] w fun e w' => e = .returned (.tuple #[.string ⟨#[]⟩, .int .i64 1]) ∧ Below w.heap.size w w' := by
  by_cases h0 : l = []
  · subst h0
    clear h
    go_enter Tryz.func6, Tryz.ntmps6
    go_wp2
    go_ret2
    exact ⟨rfl, Below.refl _ _⟩
  · have h1 : has l 0 = true := by
      have : (l == []) = false := by simpa using h0
      rw [vd, this] at h
      unfold has
      simpa using h
    have ch := fun w => has_zero (l := l) (by omega) h1 w
    have h0' := nil_not' h0
    clear h h1 h0
    go_enter Tryz.func6, Tryz.ntmps6
    go_wp2_with (go_at_call 13; refine (ch _).mono ?_; rintro e w4 ⟨rfl, hw4⟩; obtain rfl := hw4.symm)
    go_ret2
    exact ⟨rfl, Below.refl _ _⟩
theorem vd_parts {l : List UInt8} (h : vd l = true) : l.isEmpty = false ∧ has l 0 = false := by
  unfold vd at h
  rw [Bool.and_eq_true] at h
  refine ⟨?_, ?_⟩
  · cases l with
    | nil => exact absurd h.1 (by decide)
    | cons _ _ => rfl
  · unfold has; simpa using h.2
set_option maxHeartbeats 1000000 in
theorem refWrite_late {l : List UInt8} (hl : l.length ≤ 3000) (h : vd l = true) (x : Int) (hx : x < 0 ∨ 253402300799 < x) (w : World) : Calls Tryz.prog 6 #[.string ⟨l.toArray⟩, .int .i64 x] w fun e w' => e = .returned (.tuple #[.string ⟨#[]⟩, .int .i64 3]) ∧ Below w.heap.size w w' := by
  obtain ⟨h0', h1⟩ := vd_parts h
  have ch := fun w => has_zero (l := l) (by omega) h1 w
  have ct := fun w => refText_bad x hx w
  clear h h1 hx
  go_enter Tryz.func6, Tryz.ntmps6
  go_wp2_with (first
    | (go_at_call 13; refine (ch _).mono ?_; rintro e w4 ⟨rfl, hw4⟩; obtain rfl := hw4.symm)
    | (go_at_call 14; refine (ct _).mono ?_; rintro e w2 ⟨rfl, hb2⟩))
  go_ret2
  exact ⟨rfl, hb2⟩
theorem wr_ref (e t : List UInt8) : ((([91, 84, 114, 97, 115, 104, 32, 73, 110, 102, 111, 93, 10, 80, 97, 116, 104, 61] ++ e) ++ [10, 68, 101, 108, 101, 116, 105, 111, 110, 68, 97, 116, 101, 61]) ++ t) ++ [10] = wr e t := by simp [wr, head, kPath, kDate]
set_option maxHeartbeats 2000000 in
theorem refWrite_good {l : List UInt8} (hl : l.length ≤ 3000) (h : vd l = true) (n : Nat) {y m d hh i s : Int} (c : M.Cv n y m d hh i s) (w : World) :
    Calls Tryz.prog 6 #[.string ⟨l.toArray⟩, .int .i64 n] w fun e w' => e = .returned (.tuple #[.string ⟨(wr (Q.M.enc l) (tx y m d hh i s 6)).toArray⟩, .int .i64 0]) ∧ Below w.heap.size w w' := by
  obtain ⟨h0', h1⟩ := vd_parts h
  have ch := fun w => has_zero (l := l) (by omega) h1 w
  have ct := fun w => refText_good n c w
  have ce := fun w => Q.refEncode_any ⟨l.toArray⟩ (by rw [size_l]; omega) w
  have hel := Q.M.enc_len l
  have htl : (tx y m d hh i s 6).length = 19 := tx_len y m d hh i s 6
  rw [show (⟨l.toArray⟩ : ByteArray).data.toList = l from rfl] at ce
  generalize Q.M.enc l = E at ce hel
  generalize tx y m d hh i s 6 = T at ct htl
  have a1 := fun w => Q.add_ll [91, 84, 114, 97, 115, 104, 32, 73, 110, 102, 111, 93, 10, 80, 97, 116, 104, 61] E (by simp; omega) w
  have a2 := fun w => Q.add_ll ([91, 84, 114, 97, 115, 104, 32, 73, 110, 102, 111, 93, 10, 80, 97, 116, 104, 61] ++ E) [10, 68, 101, 108, 101, 116, 105, 111, 110, 68, 97, 116, 101, 61] (by simp; omega) w
  have a3 := fun w => Q.add_ll (([91, 84, 114, 97, 115, 104, 32, 73, 110, 102, 111, 93, 10, 80, 97, 116, 104, 61] ++ E) ++ [10, 68, 101, 108, 101, 116, 105, 111, 110, 68, 97, 116, 101, 61]) T (by simp; omega) w
  have a4 := fun w => Q.add_ll ((([91, 84, 114, 97, 115, 104, 32, 73, 110, 102, 111, 93, 10, 80, 97, 116, 104, 61] ++ E) ++ [10, 68, 101, 108, 101, 116, 105, 111, 110, 68, 97, 116, 101, 61]) ++ T) [10] (by simp; omega) w
  rw [wr_ref] at a4
  generalize wr E T = R at a4 ⊢
  generalize (([91, 84, 114, 97, 115, 104, 32, 73, 110, 102, 111, 93, 10, 80, 97, 116, 104, 61] ++ E) ++ [10, 68, 101, 108, 101, 116, 105, 111, 110, 68, 97, 116, 101, 61]) ++ T = X3 at a3 a4
  generalize ([91, 84, 114, 97, 115, 104, 32, 73, 110, 102, 111, 93, 10, 80, 97, 116, 104, 61] ++ E) ++ [10, 68, 101, 108, 101, 116, 105, 111, 110, 68, 97, 116, 101, 61] = X2 at a2 a3
  generalize ([91, 84, 114, 97, 115, 104, 32, 73, 110, 102, 111, 93, 10, 80, 97, 116, 104, 61] ++ E : List UInt8) = X1 at a1 a2
  clear h h1 hel htl c
  go_enter Tryz.func6, Tryz.ntmps6
  go_wp2_with (first
    | (go_at_call 13; refine (ch _).mono ?_; rintro e w4 ⟨rfl, hw4⟩; obtain rfl := hw4.symm)
    | (go_at_call 14; refine (ct _).mono ?_; rintro e w2 ⟨rfl, hb2⟩)
    | (go_at_call 15; refine (ce _).mono ?_; rintro e w3 ⟨rfl, hb3⟩))
  go_ret2
  exact ⟨rfl, below_two hb2 hb3⟩
/-- the two answers are one -/
theorem both (l : List UInt8) (hl : l.length ≤ 3000) (x : Int) : ∃ (R : List UInt8) (f : Int),
    (∀ w, Laid w → Calls Tryz.prog 5 #[.string ⟨l.toArray⟩, .int .i64 x] w fun e w' => e = .returned (.tuple #[.string ⟨R.toArray⟩, .int .i64 f]) ∧ Below w.heap.size w w') ∧
    (∀ w, Calls Tryz.prog 6 #[.string ⟨l.toArray⟩, .int .i64 x] w fun e w' => e = .returned (.tuple #[.string ⟨R.toArray⟩, .int .i64 f]) ∧ Below w.heap.size w w') := by
  cases hv : vd l with
  | false => exact ⟨[], 1, fun w _ => write_bad hv x w, fun w => refWrite_bad hl hv x w⟩
  | true =>
    by_cases hx : x < 0 ∨ 253402300799 < x
    · exact ⟨[], 3, fun w _ => write_late hv x hx w, fun w => refWrite_late hl hv x hx w⟩
    · obtain ⟨y, m, d, h, i, s, c⟩ := M.cv_ex x (by omega) (by omega)
      obtain ⟨n, rfl⟩ : ∃ n : Nat, x = n := ⟨x.toNat, by omega⟩
      exact ⟨_, 0, fun w hL => write_good hl hv n c w hL, fun w => refWrite_good hl hv n c w⟩
set_option maxRecDepth 100000 in
set_option maxHeartbeats 4000000 in
theorem infoTells_walk (a : ByteArray) (x : Int) (b : ByteArray) (w : World) (hL : Laid w) :
    Calls Tryz.prog 3 #[.string a, .int .i64 x, .string b] w fun e w' => e = .returned (.bool true) ∧ Below w.heap.size w w' := by
  obtain ⟨l, rfl⟩ := bytes_eq a
  obtain ⟨s, rfl⟩ := bytes_eq b
  have HL := Lib.hid hL; clear hL
  by_cases h1 : (300 : Int) < l.length
  · go_enter Tryz.func3, Tryz.ntmps3
    go_wp2_with (go_at_call 4; refine (awake_any _ HL.out).mono ?_; rintro e w5 ⟨rfl, hb5⟩)
    go_ret
    exact ⟨rfl, hb5⟩
  by_cases h2 : (1000 : Int) < s.length
  · go_enter Tryz.func3, Tryz.ntmps3
    go_wp2_with (go_at_call 4; refine (awake_any _ HL.out).mono ?_; rintro e w5 ⟨rfl, hb5⟩)
    go_ret
    exact ⟨rfl, hb5⟩
  obtain ⟨R, f, c1, c2⟩ := both l (by omega) x
  obtain ⟨p, n, g, hp⟩ : ∃ p n g, pse s = (p, n, g) := ⟨_, _, _, rfl⟩
  have c3 := fun w hL => parse_is (by omega) hp w hL
  have c4 := fun w => refParse_is (by omega) hp w
  clear hp
  go_enter Tryz.func3, Tryz.ntmps3
  go_wp2_with (first
    | (go_at_call 5; refine (c1 _ HL.out).mono ?_; rintro e w1 ⟨rfl, hb1⟩)
    | (go_at_call 6; refine (c2 _).mono ?_; rintro e w2 ⟨rfl, hb2⟩; have L2 := Lib.hid (HL.out.of_below (below_two hb1 hb2)))
    | (go_at_call 7; refine (c3 _ L2.out).mono ?_; rintro e w3 ⟨rfl, hb3⟩)
    | (go_at_call 8; refine (c4 _).mono ?_; rintro e w4 ⟨rfl, hb4⟩; have L4 := Lib.hid (L2.out.of_below (below_two hb3 hb4)))
    | (go_at_call 4; refine (awake_any _ L4.out).mono ?_; rintro e w5 ⟨rfl, hb5⟩))
  go_ret
  exact ⟨rfl, below_two (below_two (below_two hb1 hb2) (below_two hb3 hb4)) hb5⟩
end Go.Proofs.YtjdccfegmllphaaGreatDoor.I
