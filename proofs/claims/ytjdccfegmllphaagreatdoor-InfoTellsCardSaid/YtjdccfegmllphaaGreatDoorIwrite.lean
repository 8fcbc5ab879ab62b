/-
  info.Write: valid, pair, and the three lines.
-/
import Derived.Test.YtjdccfegmllphaaGreatDoorIgroup
import Derived.Test.YtjdccfegmllphaaGreatDoorPdec
import Derived.Test.YtjdccfegmllphaaGreatDoorDback
namespace Go.Proofs.YtjdccfegmllphaaGreatDoor.I
open Go.RowKit Go.Shelf

theorem below_two {w w1 w2 : World} (h1 : Below w.heap.size w w1) (h2 : Below w1.heap.size w1 w2) : Below w.heap.size w w2 := h1.trans (h2.mono h1.size)
/-- a path that a file can be about -/
def vd (l : List UInt8) : Bool := !(l == []) && !(decide ((0 : UInt8) ∈ l))
set_option maxHeartbeats 1000000 in
theorem valid_any (l : List UInt8) (w : World) : Calls Tryz.prog 9 #[.string ⟨l.toArray⟩] w fun e w' => e = .returned (.bool (vd l)) ∧ w' = w := by
  by_cases h0 : l = []
  · subst h0
    go_enter Tryz.func9, Tryz.ntmps9
    go_wp2
    go_ret
    exact ⟨rfl, rfl⟩
  · have cz := fun w => contains_zero l w
    have HV : Hid (vd l = !(decide ((0 : UInt8) ∈ l))) := Lib.hid (by simp [vd, h0])
    have h0' : l.isEmpty = false := by cases l <;> simp_all
    generalize decide ((0 : UInt8) ∈ l) = b at cz HV
    clear h0
    go_enter Tryz.func9, Tryz.ntmps9
    go_wp2_with (go_at_call 24; refine (cz _).mono ?_; rintro e w1 ⟨rfl, rfl⟩)
    go_ret
    exact ⟨by rw [HV.out]; rfl, rfl⟩
theorem valid_is {l : List UInt8} {b : Bool} (h : vd l = b) (w : World) : Calls Tryz.prog 9 #[.string ⟨l.toArray⟩] w fun e w' => e = .returned (.bool b) ∧ w' = w := by
  have := valid_any l w
  rwa [h] at this
set_option maxHeartbeats 1000000 in
theorem pair_any (k v : List UInt8) (hk : k.length ≤ 20) (hv : v.length ≤ 20000) (w : World) : Calls Tryz.prog 11 #[.string ⟨k.toArray⟩, .string ⟨v.toArray⟩] w fun e w' => e = .returned (.string ⟨(((k ++ [61]) ++ v) ++ [10]).toArray⟩) ∧ w' = w := by
  have a1 := fun w => Q.add_ll k [61] (by simp; omega) w
  have a2 := fun w => Q.add_ll (k ++ [61]) v (by simp; omega) w
  have a3 := fun w => Q.add_ll ((k ++ [61]) ++ v) [10] (by simp; omega) w
  obtain ⟨x1, e1⟩ : ∃ x, x = k ++ [61] := ⟨_, rfl⟩
  rw [← e1] at a1 a2 a3 ⊢
  obtain ⟨x2, e2⟩ : ∃ x, x = x1 ++ v := ⟨_, rfl⟩
  rw [← e2] at a2 a3 ⊢
  obtain ⟨x3, e3⟩ : ∃ x, x = x2 ++ [10] := ⟨_, rfl⟩
  rw [← e3] at a3 ⊢
  clear e1 e2 e3
  go_enter Tryz.func11, Tryz.ntmps11
  go_wp2
  go_ret
  exact ⟨rfl, rfl⟩

set_option maxHeartbeats 1000000 in
theorem write_bad {l : List UInt8} (h : vd l = false) (x : Int) (w : World) : Calls Tryz.prog 5 #[.string ⟨l.toArray⟩, .int .i64 x] w fun e w' => e = .returned (.tuple #[.string ⟨#[]⟩, .int .i64 1]) ∧ Below w.heap.size w w' := by
  have cv := fun w => valid_is h w
  clear h
  go_enter Tryz.func5, Tryz.ntmps5
  go_wp2_with (go_at_call 9; refine (cv _).mono ?_; rintro e w1 ⟨rfl, rfl⟩)
  go_ret2
  exact ⟨rfl, Below.refl _ _⟩
set_option maxHeartbeats 1000000 in
theorem write_late {l : List UInt8} (h : vd l = true) (x : Int) (hx : x < 0 ∨ 253402300799 < x) (w : World) : Calls Tryz.prog 5 #[.string ⟨l.toArray⟩, .int .i64 x] w fun e w' => e = .returned (.tuple #[.string ⟨#[]⟩, .int .i64 3]) ∧ Below w.heap.size w w' := by
  have cv := fun w => valid_is h w
  have ct := fun w => text_bad x hx w
  clear h hx
  go_enter Tryz.func5, Tryz.ntmps5
  go_wp2_with (first
    | (go_at_call 9; refine (cv _).mono ?_; rintro e w1 ⟨rfl, rfl⟩)
    | (go_at_call 10; refine (ct _).mono ?_; rintro e w2 ⟨rfl, hb2⟩))
  go_ret2
  exact ⟨rfl, hb2⟩
theorem wr_is (e t : List UInt8) : (head ++ [10]) ++ (((kPath ++ [61]) ++ e) ++ [10]) ++ (((kDate ++ [61]) ++ t) ++ [10]) = wr e t := by simp [wr]
theorem wr_len (e t : List UInt8) : (wr e t).length = 33 + e.length + t.length := by simp [wr, head, kPath, kDate]; omega
set_option maxHeartbeats 2000000 in
theorem write_good {l : List UInt8} (hl : l.length ≤ 3000) (h : vd l = true) (n : Nat) {y m d hh i s : Int} (c : M.Cv n y m d hh i s) (w : World) (hL : Laid w) :
    Calls Tryz.prog 5 #[.string ⟨l.toArray⟩, .int .i64 n] w fun e w' => e = .returned (.tuple #[.string ⟨(wr (Q.M.enc l) (tx y m d hh i s 6)).toArray⟩, .int .i64 0]) ∧ Below w.heap.size w w' := by
  have cv := fun w => valid_is h w
  have ct := text_good n c w hL
  have ce := fun w => Q.encode_any ⟨l.toArray⟩ (by rw [size_l]; omega) w
  have hel := Q.M.enc_len l
  have htl := tx_len y m d hh i s 6
  have e6 : (([4, 3, 3, 3, 3, 3] : List Nat).take 6).sum = 19 := rfl
  rw [e6] at htl
  rw [show (⟨l.toArray⟩ : ByteArray).data.toList = l from rfl] at ce
  generalize Q.M.enc l = E at ce hel
  generalize tx y m d hh i s 6 = T at ct htl
  have HW := Lib.hid (wr_is E T)
  have cp := fun w => pair_any [80, 97, 116, 104] E (by decide) (by omega) w
  have cd := fun w => pair_any [68, 101, 108, 101, 116, 105, 111, 110, 68, 97, 116, 101] T (by decide) (by omega) w
  have a1 := fun w => Q.add_ll [91, 84, 114, 97, 115, 104, 32, 73, 110, 102, 111, 93, 10] ((([80, 97, 116, 104] ++ [61]) ++ E) ++ [10]) (by simp; omega) w
  have a2 := fun w => Q.add_ll ([91, 84, 114, 97, 115, 104, 32, 73, 110, 102, 111, 93, 10] ++ ((([80, 97, 116, 104] ++ [61]) ++ E) ++ [10])) ((([68, 101, 108, 101, 116, 105, 111, 110, 68, 97, 116, 101] ++ [61]) ++ T) ++ [10]) (by simp; omega) w
  rw [show [91, 84, 114, 97, 115, 104, 32, 73, 110, 102, 111, 93, 10] ++ ((([80, 97, 116, 104] ++ [61]) ++ E) ++ [10]) ++ ((([68, 101, 108, 101, 116, 105, 111, 110, 68, 97, 116, 101] ++ [61]) ++ T) ++ [10]) = wr E T from HW.out] at a2
  generalize wr E T = R at a2 ⊢
  generalize ((([68, 101, 108, 101, 116, 105, 111, 110, 68, 97, 116, 101] ++ [61]) ++ T) ++ [10] : List UInt8) = P2 at a2 cd
  generalize ((([80, 97, 116, 104] ++ [61]) ++ E) ++ [10] : List UInt8) = P1 at a1 a2 cp
  generalize ([91, 84, 114, 97, 115, 104, 32, 73, 110, 102, 111, 93, 10] ++ P1 : List UInt8) = H1 at a1 a2
  clear h hel htl e6 HW
  go_enter Tryz.func5, Tryz.ntmps5
  go_wp2_with (first
    | (go_at_call 9; refine (cv _).mono ?_; rintro e w1 ⟨rfl, hw1⟩; obtain rfl := hw1.symm)
    | (go_at_call 10; refine ct.mono ?_; rintro e w2 ⟨rfl, hb2⟩)
    | (go_at_call 12; refine (ce _).mono ?_; rintro e w3 ⟨rfl, hb3⟩)
    | (go_at_call 11; first | (refine (cp _).mono ?_; clear cp; rintro e w4 ⟨rfl, hw4⟩; obtain rfl := hw4.symm) | (refine (cd _).mono ?_; rintro e w5 ⟨rfl, hw5⟩; obtain rfl := hw5.symm)))
  go_ret2
  exact ⟨rfl, below_two hb2 hb3⟩
end Go.Proofs.YtjdccfegmllphaaGreatDoor.I
