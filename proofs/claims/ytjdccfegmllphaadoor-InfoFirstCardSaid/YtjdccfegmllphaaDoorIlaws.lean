/-
  The laws InfoBack and InfoFirst.
-/
import Derived.Test.YtjdccfegmllphaaDoorIawk
namespace Go.Proofs.YtjdccfegmllphaaDoor.I
open Go.RowKit Go.Shelf

/-- a text without newlines -/
def pl (l : List UInt8) : List UInt8 := l.filter (fun b => !(b == 10))
theorem pl_no (l : List UInt8) : (10 : UInt8) ∉ pl l := by unfold pl; simp
theorem pl_le (l : List UInt8) : (pl l).length ≤ l.length := List.length_filter_le _ _
theorem pl_hit {s : ByteArray} {pos : Nat} (hp : pos < s.size) (hc : ¬ (s[pos]'hp).toNat = 10) : pl (s.data.toList.take (pos + 1)) = pl (s.data.toList.take pos) ++ [s[pos]'hp] := by
  rw [take_snoc s pos hp, pl, List.filter_append, List.filter_cons, if_pos (by simp; exact fun e => hc (by rw [e]; rfl))]; rfl
theorem pl_miss {s : ByteArray} {pos : Nat} (hp : pos < s.size) (hc : (s[pos]'hp).toNat = 10) : pl (s.data.toList.take (pos + 1)) = pl (s.data.toList.take pos) := by
  have : s[pos]'hp = 10 := UInt8.toNat_inj.1 hc
  rw [take_snoc s pos hp, pl, List.filter_append, List.filter_cons, if_neg (by simp [this])]; simp [pl]
theorem add_one (s : ByteArray) (pos : Nat) (hp : pos < s.size) (p : List UInt8) : ((⟨p.toArray⟩ : ByteArray) ++ s.extract pos (pos + 1)) = ⟨(p ++ [s[pos]'hp]).toArray⟩ := by
  have h := Lib.extract_data s pos (pos + 1)
  rw [drop_cons s pos hp, Nat.add_sub_cancel_left] at h
  have h2 : ((⟨p.toArray⟩ : ByteArray) ++ s.extract pos (pos + 1)).data.toList = p ++ [s[pos]'hp] := by
    rw [ByteArray.data_append, Array.toList_append, h]; rfl
  obtain ⟨l, hl⟩ := bytes_eq ((⟨p.toArray⟩ : ByteArray) ++ s.extract pos (pos + 1))
  rw [hl] at h2 ⊢
  rw [show l = _ from h2]
set_option maxHeartbeats 1000000 in
theorem plain_any (s : ByteArray) (hs : s.size ≤ 5000) (w : World) :
    Calls Tryd.prog 9 #[.string s] w fun e w' => e = .returned (.string ⟨(pl s.data.toList).toArray⟩) ∧ w' = w := by
  go_enter Tryd.func9, Tryd.ntmps9
  go_wp2
  go_loop [3, 4] (fun v i => ∃ pos : Nat, pos ≤ s.size ∧ i = .int .i64 pos ∧ v = .string ⟨(pl (s.data.toList.take pos)).toArray⟩) (fun _ i => s.size - (intOf i).toNat)
  case atStart => exact ⟨0, Nat.zero_le _, rfl, rfl⟩
  case round =>
    obtain ⟨pos, hps, rfl, rfl⟩ := hrel
    by_cases hp : pos < s.size
    · by_cases hc : (s[pos]'hp).toNat = 10
      · have HS := Lib.hid (pl_miss hp hc)
        generalize pl (s.data.toList.take pos) = p at HS ⊢
        go_wp2
        go_round
        case rel => exact ⟨pos + 1, by omega, by go_num, by rw [HS.out]⟩
        case measure => simp [intOf]; omega
      · have HS := Lib.hid (pl_hit hp hc)
        have hpl : (pl (s.data.toList.take pos)).length ≤ 5000 := by have := pl_le (s.data.toList.take pos); rw [List.length_take] at this; omega
        generalize pl (s.data.toList.take pos) = p at HS hpl ⊢
        have hadd : ∀ w, (Op.stringOp .add ⟨p.toArray⟩ (s.extract pos (pos + 1))).run Tryd.prog w = .ok (.string (⟨p.toArray⟩ ++ s.extract pos (pos + 1))) w := fun w => run_string_add_sum w _ _ (by
          rw [size_l]; simp; omega)
        go_wp2
        go_round
        case rel => exact ⟨pos + 1, by omega, by go_num, by rw [HS.out, add_one s pos hp p]⟩
        case measure => simp [intOf]; omega
    · go_wp2
      go_ret
      rw [List.take_of_length_le (by simp; omega)]
      exact ⟨rfl, rfl⟩
theorem plain_is {l p : List UInt8} (hl : l.length ≤ 5000) (h : pl l = p) (w : World) : Calls Tryd.prog 9 #[.string ⟨l.toArray⟩] w fun e w' => e = .returned (.string ⟨p.toArray⟩) ∧ w' = w := by
  have := plain_any ⟨l.toArray⟩ (by rw [size_l]; exact hl) w
  rw [show (⟨l.toArray⟩ : ByteArray).data.toList = l from rfl, h] at this
  exact this

/-- a way of the law that asks for awake alone -/
theorem nil_not {l : List UInt8} (h : l ≠ []) : l.isEmpty = false := by cases l <;> simp_all
set_option maxRecDepth 100000 in
set_option maxHeartbeats 4000000 in
theorem infoBack_main (l : List UInt8) (n : Nat) (more : List UInt8) (hn : n < 18446744073709551616) (h0 : l ≠ []) (h1 : l.length ≤ 300) (h2 : more.length ≤ 300) (h3 : has l 0 = false) (w : World) (hL : Laid w) :
    Calls Tryd.prog 3 #[.string ⟨l.toArray⟩, .int .u64 n, .string ⟨more.toArray⟩] w fun e w' => e = .returned (.bool true) ∧ Below w.heap.size w w' := by
  obtain ⟨y, m, d, h, i, s, c⟩ := M.cv_ex ((n % 253402300800 : Nat) : Int) (by omega) (by omega)
  have hv := vd_of h0 h3
  have cw := write_good (by omega) hv (n % 253402300800) c w hL
  have hcast : ((n % 253402300800 : Nat) : Int) = (n : Int) % 253402300800 := by omega
  have hrd := fun z => pse_wr hv c z
  have hel := Q.M.enc_len l
  have htl : (tx y m d h i s 6).length = 19 := tx_len y m d h i s 6
  have hwl := wr_len (Q.M.enc l) (tx y m d h i s 6)
  rw [hcast] at cw hrd
  generalize wr (Q.M.enc l) (tx y m d h i s 6) = R at cw hrd hwl
  have ch := fun w => has_zero (l := l) (by omega) h3 w
  obtain ⟨P, hP⟩ : ∃ P, pl more = P := ⟨_, rfl⟩
  have hPl := pl_le more
  have hPn := pl_no more
  rw [hP] at hPl hPn
  have cP := fun w => plain_is (l := more) (by omega) hP w
  have a1 := fun w => Q.add_ll R [91, 120, 93, 10] (by simp; omega) w
  have a2 := fun w => Q.add_ll (R ++ [91, 120, 93, 10]) more (by simp; omega) w
  have b1 := fun w => Q.add_ll [10, 35, 32] P (by simp; omega) w
  have b2 := fun w => Q.add_ll ([10, 35, 32] ++ P) [10] (by simp; omega) w
  have b3 := fun w => Q.add_ll ([10, 35, 32] ++ P ++ [10]) R (by simp; omega) w
  have b4 := fun w => Q.add_ll ([10, 35, 32] ++ P ++ [10] ++ R) [35] (by simp; omega) w
  have b5 := fun w => Q.add_ll ([10, 35, 32] ++ P ++ [10] ++ R ++ [35]) more (by simp; omega) w
  have e1 : pse (R ++ [91, 120, 93, 10] ++ more) = (l, (n : Int) % 253402300800, 0) := by rw [List.append_assoc]; exact hrd _
  have e2 : pse ([10, 35, 32] ++ P ++ [10] ++ R ++ [35] ++ more) = (l, (n : Int) % 253402300800, 0) := by
    have := pse_skip (p := 32 :: P) (z := R ++ ([35] ++ more)) (by simp; exact hPn)
    rw [hrd] at this
    simpa using this
  have p1 := fun w hL => parse_is (by simp; omega) e1 w hL
  have p2 := fun w hL => parse_is (by simp; omega) e2 w hL
  generalize R ++ [91, 120, 93, 10] ++ more = T1 at a2 p1
  generalize R ++ [91, 120, 93, 10] = T0 at a1 a2
  generalize [10, 35, 32] ++ P ++ [10] ++ R ++ [35] ++ more = U5 at b5 p2
  generalize [10, 35, 32] ++ P ++ [10] ++ R ++ [35] = U4 at b4 b5
  generalize [10, 35, 32] ++ P ++ [10] ++ R = U3 at b3 b4
  generalize [10, 35, 32] ++ P ++ [10] = U2 at b2 b3
  generalize [10, 35, 32] ++ P = U1 at b1 b2
  have h0' := nil_not h0
  have g1 : ¬ (300 : Int) < l.length := by omega
  have g2 : ¬ (300 : Int) < more.length := by omega
  have HL := Lib.hid hL
  clear hL e1 e2 hP hPl hPn hcast hrd hel htl hwl c hv h0 h1 h2 h3
  go_enter Tryd.func3, Tryd.ntmps3
  go_wp2_with (first
    | (go_at_call 5; refine (ch _).mono ?_; rintro e w0 ⟨rfl, hw0⟩; obtain rfl := hw0.symm)
    | (go_at_call 7; refine cw.mono ?_; rintro e w1 ⟨rfl, hb1⟩; have L1 := Lib.hid (HL.out.of_below hb1))
    | (go_at_call 9; refine (cP _).mono ?_; rintro e w3 ⟨rfl, hw3⟩; obtain rfl := hw3.symm)
    | (go_at_call 6; refine (awake_any _ L4.out).mono ?_; rintro e w5 ⟨rfl, hb5⟩)
    | (go_at_call 8; first | (refine (p1 _ L1.out).mono ?_; clear p1; rintro e w2 ⟨rfl, hb2⟩; have L2 := Lib.hid (L1.out.of_below hb2)) | (refine (p2 _ L2.out).mono ?_; rintro e w4 ⟨rfl, hb4⟩; have L4 := Lib.hid (L2.out.of_below hb4))))
  go_ret
  exact ⟨rfl, below_two (below_two (below_two hb1 hb2) hb4) hb5⟩
set_option maxRecDepth 100000 in
set_option maxHeartbeats 4000000 in
theorem infoBack_walk (a : ByteArray) (n : Nat) (b : ByteArray) (hn : n < 18446744073709551616) (w : World) (hL : Laid w) :
    Calls Tryd.prog 3 #[.string a, .int .u64 n, .string b] w fun e w' => e = .returned (.bool true) ∧ Below w.heap.size w w' := by
  obtain ⟨l, rfl⟩ := bytes_eq a
  obtain ⟨more, rfl⟩ := bytes_eq b
  have HL := Lib.hid hL; clear hL
  by_cases h0 : l = []
  · subst h0
    go_enter Tryd.func3, Tryd.ntmps3
    go_wp2_with (first
      | (go_at_call 6; refine (awake_any _ HL.out).mono ?_; rintro e w5 ⟨rfl, hb5⟩))
    go_ret
    exact ⟨rfl, hb5⟩
  by_cases h1 : (300 : Int) < l.length
  · have h0' := nil_not h0
    clear h0
    go_enter Tryd.func3, Tryd.ntmps3
    go_wp2_with (first
      | (go_at_call 6; refine (awake_any _ HL.out).mono ?_; rintro e w5 ⟨rfl, hb5⟩))
    go_ret
    exact ⟨rfl, hb5⟩
  by_cases h2 : (300 : Int) < more.length
  · have h0' := nil_not h0
    clear h0
    go_enter Tryd.func3, Tryd.ntmps3
    go_wp2_with (first
      | (go_at_call 6; refine (awake_any _ HL.out).mono ?_; rintro e w5 ⟨rfl, hb5⟩))
    go_ret
    exact ⟨rfl, hb5⟩
  cases h3 : has l 0 with
  | true =>
    have ch := fun w => has_zero (l := l) (by omega) h3 w
    have h0' := nil_not h0
    clear h0 h3
    go_enter Tryd.func3, Tryd.ntmps3
    go_wp2_with (first
      | (go_at_call 5; refine (ch _).mono ?_; rintro e w0 ⟨rfl, hw0⟩; obtain rfl := hw0.symm)
      | (go_at_call 6; refine (awake_any _ HL.out).mono ?_; rintro e w5 ⟨rfl, hb5⟩))
    go_ret
    exact ⟨rfl, hb5⟩
  | false => exact infoBack_main l n more hn h0 (by omega) (by omega) h3 w HL.out

theorem wr_first (e t : List UInt8) : (wr e t).length = 33 + e.length + t.length := wr_len e t
set_option maxRecDepth 100000 in
set_option maxHeartbeats 4000000 in
theorem infoFirst_main (l l2 : List UInt8) (n : Nat) (hn : n < 18446744073709551616) (h0 : l ≠ []) (h1 : l.length ≤ 200) (h3 : has l 0 = false) (k0 : l2 ≠ []) (k1 : l2.length ≤ 200) (k3 : has l2 0 = false) (w : World) (hL : Laid w) :
    Calls Tryd.prog 4 #[.string ⟨l.toArray⟩, .string ⟨l2.toArray⟩, .int .u64 n] w fun e w' => e = .returned (.bool true) ∧ Below w.heap.size w w' := by
  obtain ⟨y, m, d, h, i, s, c⟩ := M.cv_ex ((n % 253402300800 : Nat) : Int) (by omega) (by omega)
  have hv := vd_of h0 h3
  have cw := write_good (by omega) hv (n % 253402300800) c w hL
  have cz := fun w hL => write_good (by omega) (vd_of k0 k3) 0 cv_zero w hL
  have hcast : ((n % 253402300800 : Nat) : Int) = (n : Int) % 253402300800 := by omega
  have hrd := fun z => pse_wr hv c z
  have hel := Q.M.enc_len l
  have hel2 := Q.M.enc_len l2
  have htl : (tx y m d h i s 6).length = 19 := tx_len y m d h i s 6
  have htl2 : (tx 1970 1 1 0 0 0 6).length = 19 := tx_len 1970 1 1 0 0 0 6
  have hwl := wr_len (Q.M.enc l) (tx y m d h i s 6)
  have hwl2 := wr_len (Q.M.enc l2) (tx 1970 1 1 0 0 0 6)
  rw [hcast] at cw hrd
  generalize wr (Q.M.enc l) (tx y m d h i s 6) = R at cw hrd hwl
  obtain ⟨V, hV⟩ : ∃ V : ByteArray, V = ⟨(wr (Q.M.enc l2) (tx 1970 1 1 0 0 0 6)).toArray⟩ := ⟨_, rfl⟩
  have hVs : V.size ≤ 700 ∧ 13 ≤ V.size := by rw [hV, size_l]; omega
  rw [← hV] at cz
  have ch := fun w => has_zero (l := l) (by omega) h3 w
  have ck := fun w => has_zero (l := l2) (by omega) k3 w
  obtain ⟨X, hX⟩ := bytes_eq (V.extract 13 V.size)
  have hXl : X.length ≤ 700 := by
    have := congrArg ByteArray.size hX
    rw [ByteArray.size_extract, size_l X] at this
    omega
  have a1 := fun w => Q.add_ll R X (by omega) w
  rw [← hX] at a1
  have e1 : pse (R ++ X) = (l, (n : Int) % 253402300800, 0) := hrd _
  have p1 := fun w hL => parse_is (by simp; omega) e1 w hL
  generalize R ++ X = T1 at a1 p1
  have h0' := nil_not h0
  have k0' := nil_not k0
  have g1 : ¬ (200 : Int) < l.length := by omega
  have g2 : ¬ (200 : Int) < l2.length := by omega
  have g3 : ¬ (V.size : Int) < 13 := by omega
  have g4 : (13 : Int) ≤ V.size := by omega
  have HL := Lib.hid hL
  clear hL e1 hcast hrd hel hel2 htl htl2 hwl hwl2 c hv h0 h1 h3 k0 k1 k3 hX hXl hV
  go_enter Tryd.func4, Tryd.ntmps4
  go_wp2_with (first
    | (go_at_call 5; first | (refine (ch _).mono ?_; clear ch; rintro e w0 ⟨rfl, hw0⟩; obtain rfl := hw0.symm) | (refine (ck _).mono ?_; rintro e w0 ⟨rfl, hw0⟩; obtain rfl := hw0.symm))
    | (go_at_call 7; first | (refine cw.mono ?_; clear cw; rintro e w1 ⟨rfl, hb1⟩; have L1 := Lib.hid (HL.out.of_below hb1)) | (refine (cz _ L1.out).mono ?_; rintro e w2 ⟨rfl, hb2⟩; have L2 := Lib.hid (L1.out.of_below hb2)))
    | (go_at_call 6; refine (awake_any _ L4.out).mono ?_; rintro e w5 ⟨rfl, hb5⟩)
    | (go_at_call 8; refine (p1 _ L2.out).mono ?_; rintro e w4 ⟨rfl, hb4⟩; have L4 := Lib.hid (L2.out.of_below hb4)))
  go_ret
  exact ⟨rfl, below_two (below_two (below_two hb1 hb2) hb4) hb5⟩
set_option maxRecDepth 100000 in
set_option maxHeartbeats 4000000 in
theorem infoFirst_walk (a b : ByteArray) (n : Nat) (hn : n < 18446744073709551616) (w : World) (hL : Laid w) :
    Calls Tryd.prog 4 #[.string a, .string b, .int .u64 n] w fun e w' => e = .returned (.bool true) ∧ Below w.heap.size w w' := by
  obtain ⟨l, rfl⟩ := bytes_eq a
  obtain ⟨l2, rfl⟩ := bytes_eq b
  have HL := Lib.hid hL; clear hL
  by_cases h0 : l = []
  · subst h0
    go_enter Tryd.func4, Tryd.ntmps4
    go_wp2_with (first
      | (go_at_call 6; refine (awake_any _ HL.out).mono ?_; rintro e w5 ⟨rfl, hb5⟩))
    go_ret
    exact ⟨rfl, hb5⟩
  by_cases k0 : l2 = []
  · subst k0
    have h0' := nil_not h0
    clear h0
    go_enter Tryd.func4, Tryd.ntmps4
    go_wp2_with (first
      | (go_at_call 6; refine (awake_any _ HL.out).mono ?_; rintro e w5 ⟨rfl, hb5⟩))
    go_ret
    exact ⟨rfl, hb5⟩
  have h0' := nil_not h0
  have k0' := nil_not k0
  by_cases h1 : (200 : Int) < l.length
  · clear h0 k0
    go_enter Tryd.func4, Tryd.ntmps4
    go_wp2_with (first
      | (go_at_call 6; refine (awake_any _ HL.out).mono ?_; rintro e w5 ⟨rfl, hb5⟩))
    go_ret
    exact ⟨rfl, hb5⟩
  by_cases h2 : (200 : Int) < l2.length
  · clear h0 k0
    go_enter Tryd.func4, Tryd.ntmps4
    go_wp2_with (first
      | (go_at_call 6; refine (awake_any _ HL.out).mono ?_; rintro e w5 ⟨rfl, hb5⟩))
    go_ret
    exact ⟨rfl, hb5⟩
  cases h3 : has l 0 with
  | true =>
    have ch := fun w => has_zero (l := l) (by omega) h3 w
    clear h0 k0 h3
    go_enter Tryd.func4, Tryd.ntmps4
    go_wp2_with (first
      | (go_at_call 5; refine (ch _).mono ?_; rintro e w0 ⟨rfl, hw0⟩; obtain rfl := hw0.symm)
      | (go_at_call 6; refine (awake_any _ HL.out).mono ?_; rintro e w5 ⟨rfl, hb5⟩))
    go_ret
    exact ⟨rfl, hb5⟩
  | false =>
    cases k3 : has l2 0 with
    | true =>
      have ch := fun w => has_zero (l := l) (by omega) h3 w
      have ck := fun w => has_zero (l := l2) (by omega) k3 w
      clear h0 k0 h3 k3
      go_enter Tryd.func4, Tryd.ntmps4
      go_wp2_with (first
        | (go_at_call 5; first | (refine (ch _).mono ?_; clear ch; rintro e w0 ⟨rfl, hw0⟩; obtain rfl := hw0.symm) | (refine (ck _).mono ?_; rintro e w0 ⟨rfl, hw0⟩; obtain rfl := hw0.symm))
        | (go_at_call 6; refine (awake_any _ HL.out).mono ?_; rintro e w5 ⟨rfl, hb5⟩))
      go_ret
      exact ⟨rfl, hb5⟩
    | false => exact infoFirst_main l l2 n hn h0 (by omega) h3 k0 (by omega) k3 w HL.out
end Go.Proofs.YtjdccfegmllphaaDoor.I
