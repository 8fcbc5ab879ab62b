/-
  What is written is read; the law's awake; the reference's Has.
-/
import Derived.Test.YtjdccfegmllphaaGreatDoorIparse
namespace Go.Proofs.YtjdccfegmllphaaGreatDoor.I
open Go.RowKit Go.Shelf

theorem seen_enc {l : List UInt8} (h : l ≠ []) : Seen (Q.M.enc l) := by
  refine ⟨?_, fun b hb => (Q.M.enc_seen l b hb).1⟩
  cases l with
  | nil => exact absurd rfl h
  | cons c l =>
    rw [Q.M.enc_cons]
    intro e
    exact Q.M.enc1_ne c (List.append_eq_nil_iff.1 e).1
theorem seen_fx {k u : Nat} {b : UInt8} (h : b ∈ fx k u) : 33 ≤ b.toNat := by
  have h1 := List.all_eq_true.1 (fx_dig k u) b h
  have h2 := (M.dig_iff b).1 h1
  omega
theorem seen_tx (y m d h i s : Int) : Seen (tx y m d h i s 6) := by
  refine ⟨fun e => ?_, fun b hb => ?_⟩
  · have := tx_len y m d h i s 6
    rw [e] at this
    exact absurd this (by decide)
  · unfold tx pcs at hb
    rw [List.take_of_length_le (by simp)] at hb
    simp only [List.flatten_cons, List.flatten_nil, List.append_nil, List.mem_append, List.mem_cons] at hb
    rcases hb with hb | (rfl | hb) | (rfl | hb) | (rfl | hb) | (rfl | hb) | (rfl | hb)
    all_goals first | exact seen_fx hb | decide
/-- what is written is read, whatever stands behind it -/
theorem pse_wr {l : List UInt8} (hv : vd l = true) {x y m d h i s : Int} (c : M.Cv x y m d h i s) (z : List UInt8) : pse (wr (Q.M.enc l) (tx y m d h i s 6) ++ z) = (l, x, 0) := by
  have hl : l ≠ [] := fun e => by rw [e] at hv; cases hv
  unfold pse
  rw [rec_wr (seen_enc hl) (seen_tx y m d h i s) z]
  dsimp only
  rw [Q.M.dec_enc, ps_tx c]
  simp [tell, hv]
theorem pse_skip {p z : List UInt8} (hp : (10 : UInt8) ∉ p) : pse (10 :: 35 :: p ++ 10 :: z) = pse z := by
  unfold pse; rw [rec_skip hp]

theorem cv_zero : M.Cv (0 : Nat) 1970 1 1 0 0 0 := ⟨⟨by decide, by decide, by decide, by decide, by decide, by decide, by decide, by decide, by decide, by decide, by decide, by decide⟩, by decide, by decide⟩
theorem ps_empty : ps [] = (0, 2) := ps_none (by decide +kernel)
theorem awake_wr : wr (Q.M.enc [47, 97, 32, 98]) (tx 1970 1 1 0 0 0 6) = [91, 84, 114, 97, 115, 104, 32, 73, 110, 102, 111, 93, 10, 80, 97, 116, 104, 61, 47, 97, 37, 50, 48, 98, 10, 68, 101, 108, 101, 116, 105, 111, 110, 68, 97, 116, 101, 61, 49, 57, 55, 48, 45, 48, 49, 45, 48, 49, 84, 48, 48, 58, 48, 48, 58, 48, 48, 10] := by decide +kernel
theorem awake_p1 : pse [91, 84, 114, 97, 115, 104, 32, 73, 110, 102, 111, 93, 10, 80, 97, 116, 104, 32, 61, 32, 120, 13, 10] = ([120], -1, 0) := by
  unfold pse
  rw [show rec_ [91, 84, 114, 97, 115, 104, 32, 73, 110, 102, 111, 93, 10, 80, 97, 116, 104, 32, 61, 32, 120, 13, 10] = ⟨[120], true, [], false⟩ by kernel_rfl]
  dsimp only
  rw [ps_empty]
  decide +kernel
theorem awake_p2 : pse [80, 97, 116, 104, 61, 120, 10] = ([], 0, 2) := by
  unfold pse
  rw [show rec_ [80, 97, 116, 104, 61, 120, 10] = r0 by kernel_rfl]
  rw [show r0.date = [] from rfl, ps_empty]
  decide +kernel
set_option maxHeartbeats 1000000 in
theorem awake_any (w : World) (hL : Laid w) : Calls Tryz.prog 4 #[] w fun e w' => e = .returned (.bool true) ∧ Below w.heap.size w w' := by
  have cw := write_good (l := [47, 97, 32, 98]) (by decide) (by decide) 0 cv_zero w hL
  rw [awake_wr] at cw
  have c1 := fun w hL => parse_is (by decide) awake_p1 w hL
  have c2 := fun w hL => parse_is (by decide) awake_p2 w hL
  have HL := Lib.hid hL; clear hL
  go_enter Tryz.func4, Tryz.ntmps4
  go_wp2_with (first
    | (go_at_call 5; refine cw.mono ?_; rintro e w1 ⟨rfl, hb1⟩)
    | (go_at_call 7; first | (refine (c1 _ (HL.out.of_below hb1)).mono ?_; clear c1; rintro e w2 ⟨rfl, hb2⟩) | (refine (c2 _ (HL.out.of_below (below_two hb1 hb2))).mono ?_; rintro e w3 ⟨rfl, hb3⟩)))
  go_ret
  exact ⟨rfl, below_two (below_two hb1 hb2) hb3⟩

def has (l : List UInt8) (c : UInt8) : Bool := decide (c ∈ l)
theorem has_step {s : ByteArray} {pos : Nat} {c : UInt8} (h : c ∉ s.data.toList.take pos) (hp : pos < s.size) (hne : ¬ ((s[pos]'hp).toNat = c.toNat)) : c ∉ s.data.toList.take (pos + 1) := by
  rw [take_snoc s pos hp]
  simp only [List.mem_append, List.mem_singleton, not_or]
  exact ⟨h, fun e => hne (by rw [e])⟩
theorem has_here {s : ByteArray} {pos : Nat} {c : UInt8} (hp : pos < s.size) (he : (s[pos]'hp).toNat = c.toNat) : c ∈ s.data.toList := by
  have : s[pos]'hp = c := UInt8.toNat_inj.1 he
  rw [← this]
  have h2 : s[pos]'hp = s.data.toList[pos]'(by simpa using hp) := by simp; rfl
  rw [h2]; exact List.getElem_mem _
set_option maxHeartbeats 1000000 in
theorem has_any (s : ByteArray) (hs : s.size ≤ 10000) (c : UInt8) (w : World) :
    Calls Tryz.prog 13 #[.string s, .int .u8 c.toNat] w fun e w' => e = .returned (.bool (has s.data.toList c)) ∧ w' = w := by
  go_enter Tryz.func13, Tryz.ntmps13
  go_wp2
  go_loop [5] (fun i => ∃ pos : Nat, pos ≤ s.size ∧ c ∉ s.data.toList.take pos ∧ i = .int .i64 pos) (fun i => s.size - (intOf i).toNat)
  case atStart => exact ⟨0, Nat.zero_le _, by simp, rfl⟩
  case round =>
    obtain ⟨pos, hps, hno, rfl⟩ := hrel
    have HN := Lib.hid hno; clear hno
    by_cases hp : pos < s.size
    · by_cases hc : (s[pos]'hp).toNat = c.toNat
      · have HH := Lib.hid (has_here hp hc)
        go_wp2
        go_ret
        exact ⟨by rw [has, decide_eq_true HH.out]; rfl, rfl⟩
      · have HS := Lib.hid (has_step HN.out hp hc)
        go_wp2
        go_round
        case rel => exact ⟨pos + 1, by omega, HS.out, by go_num⟩
        case measure => simp [intOf]; omega
    · go_wp2
      go_ret
      refine ⟨?_, rfl⟩
      have := HN.out
      rw [List.take_of_length_le (by simp; omega)] at this
      rw [has, decide_eq_false this]; rfl
theorem has_zero {l : List UInt8} (hl : l.length ≤ 10000) {b : Bool} (h : has l 0 = b) (w : World) : Calls Tryz.prog 13 #[.string ⟨l.toArray⟩, .int .u8 0] w fun e w' => e = .returned (.bool b) ∧ w' = w := by
  have := has_any ⟨l.toArray⟩ (by rw [size_l]; exact hl) 0 w
  rw [show (⟨l.toArray⟩ : ByteArray).data.toList = l from rfl, h] at this
  exact this
theorem vd_of {l : List UInt8} (h0 : l ≠ []) (h1 : has l 0 = false) : vd l = true := by
  have : (l == []) = false := by simpa using h0
  unfold has at h1
  rw [vd, this, h1]; rfl
end Go.Proofs.YtjdccfegmllphaaGreatDoor.I
