/-
  DateBack, walked: seconds come back from dates and texts, dates from seconds.
-/
import Derived.Test.YtggbhbhphfgloaaDoorDord
import Derived.Deep.RegionHeld3
namespace Go.Proofs.YtggbhbhphfgloaaDoor
open Go.RowKit Go.Shelf

theorem fx_dig : ∀ k u, (fx k u).all M.dig = true
  | 0, _ => rfl
  | k + 1, u => by unfold fx; rw [List.all_append, fx_dig k]; simp [M.dig]; omega
theorem fx_val : ∀ k u, u < 10 ^ k → M.val 0 (fx k u) = u
  | 0, u, h => by simp at h; subst h; rfl
  | k + 1, u, h => by
    unfold fx
    rw [M.val_snoc, fx_val k (u / 10) (by rw [Nat.pow_succ] at h; omega), M.byte_toNat _ (by omega)]; omega
theorem pre_app (mk l : List UInt8) : Lib.hasPrefix (mk ++ l) mk = true := by
  unfold Lib.hasPrefix; rw [List.isPrefixOf_iff_prefix]; exact List.prefix_append _ _
theorem trim_app (mk l : List UInt8) : Lib.trimPrefix (mk ++ l) mk = l := by
  unfold Lib.trimPrefix; rw [if_pos (pre_app mk l), List.drop_left]
theorem rd_fx (mk : List UInt8) (k : Nat) (ps : List (List UInt8 × Nat)) (a : Int) (r : List UInt8) (h0 : 0 ≤ a) (h1 : a.toNat < 10 ^ k) : rd ((mk, k) :: ps) (mk ++ (fx k a.toNat ++ r)) = (rd ps r).map (a :: ·) := by
  have e : (fx k a.toNat ++ r).take k = fx k a.toNat := by rw [List.take_left' (fx_length k _)]
  have e2 : (fx k a.toNat ++ r).drop k = r := by rw [List.drop_left' (fx_length k _)]
  rw [rd_yes ⟨pre_app _ _, by rw [trim_app, List.length_append, fx_length]; omega, by rw [trim_app, e]; exact fx_dig k _⟩, trim_app, e, e2, fx_val k _ h1, show ((a.toNat : Nat) : Int) = a by omega]
theorem rd_tx {y m d h i s : Int} (v : M.Valid y m d h i s) : rd mks (tx y m d h i s 6) = some [y, m, d, h, i, s] := by
  have h4 : (10 : Nat) ^ 4 = 10000 := by decide
  have h2 : (10 : Nat) ^ 2 = 100 := by decide
  have d31 := v.dm31
  cases v
  rw [tx_six]
  unfold mks
  have e1 := rd_fx [] 4 [([45], 2), ([45], 2), ([84], 2), ([58], 2), ([58], 2)] y (45 :: (fx 2 m.toNat ++ (45 :: (fx 2 d.toNat ++ (84 :: (fx 2 h.toNat ++ (58 :: (fx 2 i.toNat ++ (58 :: (fx 2 s.toNat ++ [])))))))))) (by omega) (by omega)
  have e2 := rd_fx [45] 2 [([45], 2), ([84], 2), ([58], 2), ([58], 2)] m (45 :: (fx 2 d.toNat ++ (84 :: (fx 2 h.toNat ++ (58 :: (fx 2 i.toNat ++ (58 :: (fx 2 s.toNat ++ [])))))))) (by omega) (by omega)
  have e3 := rd_fx [45] 2 [([84], 2), ([58], 2), ([58], 2)] d (84 :: (fx 2 h.toNat ++ (58 :: (fx 2 i.toNat ++ (58 :: (fx 2 s.toNat ++ [])))))) (by omega) (by omega)
  have e4 := rd_fx [84] 2 [([58], 2), ([58], 2)] h (58 :: (fx 2 i.toNat ++ (58 :: (fx 2 s.toNat ++ [])))) (by omega) (by omega)
  have e5 := rd_fx [58] 2 [([58], 2)] i (58 :: (fx 2 s.toNat ++ [])) (by omega) (by omega)
  have e6 := rd_fx [58] 2 [] s [] (by omega) (by omega)
  simp only [List.nil_append, List.cons_append] at e1 e2 e3 e4 e5 e6
  rw [e1, e2, e3, e4, e5, e6]
  rfl
theorem ps_tx {x y m d h i s : Int} (c : M.Cv x y m d h i s) : ps (tx y m d h i s 6) = (x, 0) := by
  have hl := c.late
  rw [ps_some (rd_tx c.ok), sc_good c.ok (by omega), c.eq]
theorem sc_cv {x y m d h i s : Int} (c : M.Cv x y m d h i s) : sc y m d h i s = (x, 0) := by
  have hl := c.late
  rw [sc_good c.ok (by omega), c.eq]
theorem sc_fail {y m d h i s n f : Int} (h1 : sc y m d h i s = (n, f)) (h2 : f ≠ 0) : n = 0 := by
  unfold sc at h1
  split at h1
  · split at h1
    · simp at h1; omega
    · simp at h1; omega
  · simp at h1; omega
theorem sc_ok {y m d h i s n : Int} (h1 : sc y m d h i s = (n, 0)) : M.Cv n y m d h i s := by
  by_cases v : M.Valid y m d h i s
  · by_cases hy : y < 1970
    · rw [sc_range v hy] at h1; simp at h1
    · rw [sc_good v hy] at h1
      exact ⟨v, by omega, by simpa using h1⟩
  · rw [sc_form v] at h1; simp at h1
theorem of_is {n : Nat} {x y m d h i s : Int} (hx : x = n) (c : M.Cv n y m d h i s) (w : World) :
    Calls Tryd.prog 7 #[.int .i64 x] w fun e w' => e = .returned (.tuple #[.agg #[.int .i64 y, .int .i64 m, .int .i64 d, .int .i64 h, .int .i64 i, .int .i64 s], .int .i64 0]) ∧ Below w.heap.size w w' := by
  subst hx; exact of_good n c w
theorem parse_is {T : List UInt8} {n f : Int} (hT : T.length ≤ 1000000) (hp : ps T = (n, f)) (w : World) (hL : Laid w) :
    Calls Tryd.prog 14 #[.string ⟨T.toArray⟩] w fun e w' => e = .returned (.tuple #[.int .i64 n, .int .i64 f]) ∧ Below w.heap.size w w' :=
  (parse_any ⟨T.toArray⟩ (by rw [Lib.size_eq]; simpa using hT) w hL).mono fun e w' ⟨he, hb⟩ => ⟨by
    have e1 : ps (⟨T.toArray⟩ : ByteArray).data.toList = (n, f) := by simpa using hp
    rw [e1] at he; exact he, hb⟩
set_option maxRecDepth 100000 in
set_option maxHeartbeats 2000000 in
theorem dateBack_walk (n : Nat) (hn : n < 18446744073709551616) (p0 p1 p2 p3 p4 p5 : Int) (w : World) (hL : Laid w) :
    Calls Tryd.prog 4 #[.int .u64 n, .agg #[.int .i64 p0, .int .i64 p1, .int .i64 p2, .int .i64 p3, .int .i64 p4, .int .i64 p5]] w fun e w' => e = .returned (.bool true) ∧ Below w.heap.size w w' := by
  obtain ⟨y, m, d, h, i, s, c⟩ := M.cv_ex ((n % 253402300800 : Nat) : Int) (by omega) (by omega)
  obtain ⟨T, hT⟩ : ∃ T, tx y m d h i s 6 = T := ⟨_, rfl⟩
  have hl := tx_len y m d h i s 6
  have hps := ps_tx c
  have hsc := sc_cv c
  have hcast : ((n % 253402300800 : Nat) : Int) = (n : Int) % 253402300800 := by omega
  rw [hT] at hl hps
  rw [hcast] at hps hsc
  have hl19 : T.length ≤ 1000000 := by rw [hl]; decide
  have HT := Lib.hid hT
  have HP := Lib.hid hps
  have HC := Lib.hid c
  have HSC := Lib.hid hsc
  obtain ⟨x, f, hxf⟩ : ∃ x f, sc p0 p1 p2 p3 p4 p5 = (x, f) := ⟨_, _, rfl⟩
  have HX := Lib.hid hxf
  clear hT hps c hl hxf hsc hcast
  go_enter Tryd.func4, Tryd.ntmps4
  go_wp2_with fail
  have S0 := Six.new w 22 p0 p1 p2 p3 p4 p5
  have b0 : Below w.heap.size w (w.alloc (.cells #[.int .i64 p0, .int .i64 p1, .int .i64 p2, .int .i64 p3, .int .i64 p4, .int .i64 p5] 22)) := (Below.refl _ w).alloc (Nat.le_refl _) _
  have z0 : w.heap.size < (w.alloc (.cells #[.int .i64 p0, .int .i64 p1, .int .i64 p2, .int .i64 p3, .int .i64 p4, .int .i64 p5] 22)).heap.size := by simp
  generalize w.alloc _ = W at *
  refine (of_is (by omega) HC.out _).mono ?_
  rintro e w1 ⟨rfl, b1⟩
  have L1 := (hL.of_below b0).of_below b1
  have S1 := S0.later b1 z0
  have z1 : w.heap.size < w1.heap.size := Nat.lt_of_lt_of_le z0 b1.size
  have B1 := below_two b0 b1
  clear b0 b1 S0 z0
  go_wp2_with fail
  have bb : ∀ o, Below w1.heap.size w1 (w1.alloc o) := fun o => (Below.refl _ w1).alloc (Nat.le_refl _) o
  refine (seconds_is HSC.out _).mono ?_
  rintro e w2 ⟨rfl, b2⟩
  have B2' := below_two (bb _) b2
  have L2 := L1.of_below B2'
  have S2 := S1.later B2' z1
  have z2 : w.heap.size < w2.heap.size := Nat.lt_of_lt_of_le z1 B2'.size
  have B2 := below_two B1 B2'
  clear bb b2 B2' L1 S1 z1 B1
  go_wp2_with fail
  refine (text_is (by omega) HC.out HT.out _ L2).mono ?_
  rintro e w3 ⟨rfl, b3⟩
  have L3 := L2.of_below b3
  have S3 := S2.later b3 z2
  have z3 : w.heap.size < w3.heap.size := Nat.lt_of_lt_of_le z2 b3.size
  have B3 := below_two B2 b3
  clear b3 L2 S2 z2 B2
  go_wp2_with fail
  refine (parse_is hl19 HP.out _ L3).mono ?_
  rintro e w4 ⟨rfl, b4⟩
  have L4 := L3.of_below b4
  have S4 := S3.later b4 z3
  have z4 : w.heap.size < w4.heap.size := Nat.lt_of_lt_of_le z3 b4.size
  have B4 := below_two B3 b4
  clear b4 L3 S3 z3 B3
  obtain ⟨c0, c1, c2, c3, c4, c5⟩ := id S4
  go_wp2_with fail
  refine (to_any _ _ _ _ _ _ _).mono ?_
  rintro e w5 ⟨rfl, b5⟩
  have L5 := L4.of_below b5
  have S5 := S4.later b5 z4
  have z5 : w.heap.size < w5.heap.size := Nat.lt_of_lt_of_le z4 b5.size
  have B5 := below_two B4 b5
  clear c0 c1 c2 c3 c4 c5 b5 L4 S4 z4 B4
  go_wp2_with fail
  refine (seconds_is HX.out _).mono ?_
  rintro e w6 ⟨rfl, b6⟩
  have L6 := L5.of_below b6
  have S6 := S5.later b6 z5
  have z6 : w.heap.size < w6.heap.size := Nat.lt_of_lt_of_le z5 b6.size
  have B6 := below_two B5 b6
  clear b6 L5 S5 z5 B5
  by_cases hf : f = 0
  · subst hf
    have hcv := sc_ok HX.out
    have hr := hcv.range
    obtain ⟨k, rfl⟩ : ∃ k : Nat, x = k := ⟨x.toNat, by omega⟩
    have HCV := Lib.hid hcv
    clear hcv
    go_wp2_with fail
    refine (of_is rfl HCV.out _).mono ?_
    rintro e w7 ⟨rfl, b7⟩
    have L7 := L6.of_below b7
    have S7 := S6.later b7 z6
    have z7 : w.heap.size < w7.heap.size := Nat.lt_of_lt_of_le z6 b7.size
    have B7 := below_two B6 b7
    clear b7 L6 S6 z6 B6
    go_wp2_with fail
    have Q0 := Six.new w7 25 p0 p1 p2 p3 p4 p5
    have bW : Below w7.heap.size w7 (w7.alloc (.cells #[.int .i64 p0, .int .i64 p1, .int .i64 p2, .int .i64 p3, .int .i64 p4, .int .i64 p5] 25)) := (Below.refl _ w7).alloc (Nat.le_refl _) _
    have zW : w7.heap.size < (w7.alloc (.cells #[.int .i64 p0, .int .i64 p1, .int .i64 p2, .int .i64 p3, .int .i64 p4, .int .i64 p5] 25)).heap.size := by simp
    generalize w7.alloc _ = W at *
    have S8 := (S7.later bW z7).later (drew_below W) (Nat.lt_trans z7 zW)
    have Q8 := Q0.later (drew_below W) zW
    have L8 := (L7.of_below bW).of_below (drew_below W)
    have B8 := (below_two B7 bW).drew
    have z8 : w.heap.size < W.drew.heap.size := Nat.lt_trans z7 zW
    have x8 : w7.heap.size < W.drew.heap.size := zW
    have heq := eqIn6 p0 p1 p2 p3 p4 p5
    go_region_held3 (fun w' => (w'.cell? ⟨w.heap.size, 0, none⟩ = some (.int .i64 p0) ∧ w'.cell? ⟨w.heap.size, 1, none⟩ = some (.int .i64 p1) ∧ w'.cell? ⟨w.heap.size, 2, none⟩ = some (.int .i64 p2) ∧ w'.cell? ⟨w.heap.size, 3, none⟩ = some (.int .i64 p3) ∧ w'.cell? ⟨w.heap.size, 4, none⟩ = some (.int .i64 p4) ∧ w'.cell? ⟨w.heap.size, 5, none⟩ = some (.int .i64 p5)) ∧ (w'.cell? ⟨w7.heap.size, 0, none⟩ = some (.int .i64 p0) ∧ w'.cell? ⟨w7.heap.size, 1, none⟩ = some (.int .i64 p1) ∧ w'.cell? ⟨w7.heap.size, 2, none⟩ = some (.int .i64 p2) ∧ w'.cell? ⟨w7.heap.size, 3, none⟩ = some (.int .i64 p3) ∧ w'.cell? ⟨w7.heap.size, 4, none⟩ = some (.int .i64 p4) ∧ w'.cell? ⟨w7.heap.size, 5, none⟩ = some (.int .i64 p5))) (first | exact ⟨S8, Q8⟩ | exact ⟨T1, T2⟩ | exact ⟨U1, U2⟩) (first | (go_at_call 16; refine (of_any _ _ _ _ _ _ W.drew).mono ?_; rintro e w9 ⟨rfl, b9⟩; have T1 := S8.later b9 z8; have T2 := Q8.later b9 x8; have L9 := L8.of_below b9; have B9 := B8.trans (b9.mono B8.size)) | (go_at_call 6; refine (awake_any w9 L9).mono ?_; rintro e w10 ⟨rfl, b10⟩; have U1 := T1.later b10 (Nat.lt_of_lt_of_le z8 b9.size); have U2 := T2.later b10 (Nat.lt_of_lt_of_le x8 b9.size); have B10 := B9.trans (b10.mono B9.size)))
    go_wp2
    go_ret
    exact ⟨rfl, B10⟩
  · have hx0 := sc_fail HX.out hf
    subst hx0
    have hf' : (f == 0) = false := by simpa using hf
    have hf2 : (f != 0) = true := by simpa using hf
    go_wp2_with (go_at_call 6; refine (awake_any _ L6).mono ?_; rintro e w7 ⟨rfl, b7⟩)
    go_ret
    exact ⟨rfl, below_two B6 b7⟩
end Go.Proofs.YtggbhbhphfgloaaDoor
