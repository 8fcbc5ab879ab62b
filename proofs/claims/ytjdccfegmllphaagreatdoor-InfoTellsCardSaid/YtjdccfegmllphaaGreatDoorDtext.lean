/-
  What date.Text does.
-/
import Derived.Test.YtjdccfegmllphaaGreatDoorDnum
import Derived.Test.YtjdccfegmllphaaGreatDoorDref
import Derived.Deep.RegionHeld3
namespace Go.Proofs.YtjdccfegmllphaaGreatDoor
open Go.RowKit Go.Shelf

set_option maxHeartbeats 1000000 in
theorem text_bad (x : Int) (hx : x < 0 ∨ 253402300799 < x) (w : World) :
    Calls Tryz.prog 10 #[.int .i64 x] w fun e w' => e = .returned (.tuple #[.string ⟨#[]⟩, .int .i64 3]) ∧ Below w.heap.size w w' := by
  have H := Lib.hid (of_bad x hx)
  unfold six at H
  go_enter Tryz.func10, Tryz.ntmps10
  go_wp2_with fail
  refine (H.out _).mono ?_
  rintro e w1 ⟨rfl, hb⟩
  go_wp2
  go_ret2
  exact ⟨rfl, hb.alloc hb.size _⟩

theorem of_good6 (n : Nat) {y m d h i s : Int} (c : M.Cv n y m d h i s) (w : World) :
    Calls Tryz.prog 25 #[.int .i64 n] w fun e w' => e = .returned (.tuple #[.agg #[.int .i64 y, .int .i64 m, .int .i64 d, .int .i64 h, .int .i64 i, .int .i64 s], .int .i64 0]) ∧ Below w.heap.size w w' := of_good n c w
/-! ### The pieces of a text -/
def pcs (y m d h i s : Int) : List (List UInt8) := [fx 4 y.toNat, 45 :: fx 2 m.toNat, 45 :: fx 2 d.toNat, 84 :: fx 2 h.toNat, 58 :: fx 2 i.toNat, 58 :: fx 2 s.toNat]
def tx (y m d h i s : Int) (k : Nat) : List UInt8 := ((pcs y m d h i s).take k).flatten
theorem pad_fx (k : Nat) (n : Int) (h0 : 0 ≤ n) (h1 : n.toNat < 10 ^ (k + 1)) (hk : k < 20) : padOf n ((k + 1 : Nat) : Int) = fx (k + 1) n.toNat := by
  rw [padOf_some (by omega) (by omega)]
  obtain ⟨u, rfl⟩ : ∃ u : Nat, n = u := ⟨n.toNat, by omega⟩
  rw [Lib.itoa_nonneg]
  exact padL_fx k u (by simpa using h1)
theorem pad_keep {n wide : Int} {P mk : ByteArray} {wd v : Int} {b q k : Nat} (hP : padOf n wide = P.data.toList) (h0 : -9223372036854775808 ≤ n) (h1 : n ≤ 9223372036854775807) (w : World) (hL : Laid w) (hq : q < w.heap.size) (hb : b < w.heap.size)
    (S : w.cell? ⟨q, 0, none⟩ = some (.string mk) ∧ w.cell? ⟨q, 1, none⟩ = some (.int .i64 wd) ∧ w.cell? ⟨b, k, none⟩ = some (.int .i64 v)) :
    Calls Tryz.prog 26 #[.int .i64 n, .int .i64 wide] w fun e w' => e = .returned (.string P) ∧ (w'.cell? ⟨q, 0, none⟩ = some (.string mk) ∧ w'.cell? ⟨q, 1, none⟩ = some (.int .i64 wd) ∧ w'.cell? ⟨b, k, none⟩ = some (.int .i64 v)) ∧ Below w.heap.size w w' :=
  (pad_any n wide w h0 h1 hL).mono fun e w' ⟨he, hw⟩ => ⟨by rw [he, hP]; exact congrArg Ending.returned (congrArg Value.string rfl), ⟨by rw [hw.cell (by exact hq)]; exact S.1, by rw [hw.cell (by exact hq)]; exact S.2.1, by rw [hw.cell (by exact hb)]; exact S.2.2⟩, hw⟩
theorem part_new (w : World) (t : TypeId) (mk : ByteArray) (wd v : Int) (b k : Nat) (hb : b < w.heap.size) (hc : w.cell? ⟨b, k, none⟩ = some (.int .i64 v)) :
    ((w.alloc (.cells #[.string mk, .int .i64 wd] t)).cell? ⟨w.heap.size, 0, none⟩ = some (.string mk) ∧ (w.alloc (.cells #[.string mk, .int .i64 wd] t)).cell? ⟨w.heap.size, 1, none⟩ = some (.int .i64 wd) ∧ (w.alloc (.cells #[.string mk, .int .i64 wd] t)).cell? ⟨b, k, none⟩ = some (.int .i64 v)) ∧
    Below w.heap.size w (w.alloc (.cells #[.string mk, .int .i64 wd] t)) ∧ w.heap.size < (w.alloc (.cells #[.string mk, .int .i64 wd] t)).heap.size := by
  refine ⟨⟨by rw [World.cell?_alloc_new]; rfl, by rw [World.cell?_alloc_new]; rfl, ?_⟩, (Below.refl w.heap.size w).alloc (Nat.le_refl _) _, by simp⟩
  rw [((Below.refl w.heap.size w).alloc (Nat.le_refl _) _).cell (by exact hb)]; exact hc
theorem idx0 (w : World) : (Instr.index 64 (.agg #[.string ⟨#[]⟩, .int .i64 4, .string ⟨#[45]⟩, .int .i64 2, .string ⟨#[45]⟩, .int .i64 2, .string ⟨#[84]⟩, .int .i64 2, .string ⟨#[58]⟩, .int .i64 2, .string ⟨#[58]⟩, .int .i64 2]) (.int .i64 0)).run Tryz.prog w = .ok (.agg #[.string ⟨#[]⟩, .int .i64 4]) w := by kernel_rfl
theorem idx1 (w : World) : (Instr.index 64 (.agg #[.string ⟨#[]⟩, .int .i64 4, .string ⟨#[45]⟩, .int .i64 2, .string ⟨#[45]⟩, .int .i64 2, .string ⟨#[84]⟩, .int .i64 2, .string ⟨#[58]⟩, .int .i64 2, .string ⟨#[58]⟩, .int .i64 2]) (.int .i64 1)).run Tryz.prog w = .ok (.agg #[.string ⟨#[45]⟩, .int .i64 2]) w := by kernel_rfl
theorem idx2 (w : World) : (Instr.index 64 (.agg #[.string ⟨#[]⟩, .int .i64 4, .string ⟨#[45]⟩, .int .i64 2, .string ⟨#[45]⟩, .int .i64 2, .string ⟨#[84]⟩, .int .i64 2, .string ⟨#[58]⟩, .int .i64 2, .string ⟨#[58]⟩, .int .i64 2]) (.int .i64 2)).run Tryz.prog w = .ok (.agg #[.string ⟨#[45]⟩, .int .i64 2]) w := by kernel_rfl
theorem idx3 (w : World) : (Instr.index 64 (.agg #[.string ⟨#[]⟩, .int .i64 4, .string ⟨#[45]⟩, .int .i64 2, .string ⟨#[45]⟩, .int .i64 2, .string ⟨#[84]⟩, .int .i64 2, .string ⟨#[58]⟩, .int .i64 2, .string ⟨#[58]⟩, .int .i64 2]) (.int .i64 3)).run Tryz.prog w = .ok (.agg #[.string ⟨#[84]⟩, .int .i64 2]) w := by kernel_rfl
theorem idx4 (w : World) : (Instr.index 64 (.agg #[.string ⟨#[]⟩, .int .i64 4, .string ⟨#[45]⟩, .int .i64 2, .string ⟨#[45]⟩, .int .i64 2, .string ⟨#[84]⟩, .int .i64 2, .string ⟨#[58]⟩, .int .i64 2, .string ⟨#[58]⟩, .int .i64 2]) (.int .i64 4)).run Tryz.prog w = .ok (.agg #[.string ⟨#[58]⟩, .int .i64 2]) w := by kernel_rfl
theorem idx5 (w : World) : (Instr.index 64 (.agg #[.string ⟨#[]⟩, .int .i64 4, .string ⟨#[45]⟩, .int .i64 2, .string ⟨#[45]⟩, .int .i64 2, .string ⟨#[84]⟩, .int .i64 2, .string ⟨#[58]⟩, .int .i64 2, .string ⟨#[58]⟩, .int .i64 2]) (.int .i64 5)).run Tryz.prog w = .ok (.agg #[.string ⟨#[58]⟩, .int .i64 2]) w := by kernel_rfl
theorem tx_len (y m d h i s : Int) (k : Nat) : (tx y m d h i s k).length = (([4, 3, 3, 3, 3, 3] : List Nat).take k).sum := by
  unfold tx pcs
  rw [List.length_flatten, List.map_take]
  simp [fx_length]
theorem text_next {y m d h i s : Int} {k : Nat} {A P : ByteArray} {F : List UInt8} {a : Array UInt8} (hA : A.data.toList = tx y m d h i s k) (hP : (⟨F.toArray⟩ : ByteArray) = P) (ha : tx y m d h i s (k + 1) = tx y m d h i s k ++ (a.toList ++ F)) :
    (A ++ ((⟨a⟩ : ByteArray) ++ P)).data.toList = tx y m d h i s (k + 1) := by
  subst hP
  rw [ha, ← hA]; simp
theorem text_size {y m d h i s : Int} {k : Nat} {A P : ByteArray} {F : List UInt8} {a : Array UInt8} (hA : A.data.toList = tx y m d h i s k) (hP : (⟨F.toArray⟩ : ByteArray) = P) (hl : (tx y m d h i s k).length + a.size + F.length ≤ 20) :
    (A ++ ((⟨a⟩ : ByteArray) ++ P)).size ≤ 20 := by
  subst hP
  rw [Lib.size_eq]
  simp [hA]
  omega
theorem ret_str {A : ByteArray} {l : List UInt8} {f : Int} (h : A.data.toList = l) : Ending.returned (.tuple #[.string A, .int .i64 f]) = .returned (.tuple #[.string ⟨l.toArray⟩, .int .i64 f]) := by
  subst h; rfl
theorem add_bb (A B : ByteArray) (h : A.size + B.size ≤ 100000) (w : World) : (Op.stringOp .add A B).run Tryz.prog w = .ok (.string (A ++ B)) w := run_string_add_sum w A B (by omega)
theorem drew_below (w : World) : Below w.heap.size w w.drew := (Below.refl _ w).drew

set_option maxRecDepth 100000 in
set_option maxHeartbeats 2000000 in
theorem text_good (n : Nat) {y m d h i s : Int} (c : M.Cv n y m d h i s) (w : World) (hL : Laid w) :
    Calls Tryz.prog 10 #[.int .i64 n] w fun e w' => e = .returned (.tuple #[.string ⟨(tx y m d h i s 6).toArray⟩, .int .i64 0]) ∧ Below w.heap.size w w' := by
  have H := Lib.hid (of_good6 n c)
  have HC := Lib.hid c
  clear c
  go_enter Tryz.func10, Tryz.ntmps10
  go_wp2_with fail
  refine (H.out _).mono ?_
  rintro e w1 ⟨rfl, hb⟩
  have hL1 := hL.of_below hb
  obtain ⟨q0, q1, q2, q3, q4, q5, q6, q7, q8, q9, q10, q11⟩ := id hL1.marks
  have hr : 0 < w1.heap.size := by have := hL1.room; omega
  go_wp2_with fail
  clear q0 q1 q2 q3 q4 q5 q6 q7 q8 q9 q10 q11 H
  go_loopw [7, 32] (fun v u wr => ∃ (k : Nat) (A : ByteArray), v = .string A ∧ u = .int .i64 k ∧ k ≤ 6 ∧ A.size ≤ 20 ∧ A.data.toList = tx y m d h i s k ∧ Six (w1.heap.size + 1) y m d h i s wr ∧ Laid wr ∧ Below w.heap.size w wr ∧ w1.heap.size + 1 < wr.heap.size) (fun _ u _ => (6 - intOf u).toNat)
  case atStart =>
    have hB2 : ∀ o o', Below w1.heap.size w1 ((w1.alloc o).alloc o') := fun o o' => ((Below.refl _ w1).alloc (Nat.le_refl _) o).alloc (by simp) o'
    refine ⟨0, ⟨#[]⟩, rfl, rfl, by decide, by decide, rfl, ?_, hL1.of_below (hB2 _ _), hb.trans ((hB2 _ _).mono hb.size), by simp⟩
    have := Six.new (w1.alloc (.cells #[.int .i64 y, .int .i64 m, .int .i64 d, .int .i64 h, .int .i64 i, .int .i64 s] 58)) 61 y m d h i s
    simpa using this
  case round =>
    obtain ⟨k, A, rfl, rfl, hk, hA, hAt, hS, hLr, hBr, hZr⟩ := hrel
    have HT := Lib.hid hAt
    clear hAt
    have hk2 : k = 0 ∨ k = 1 ∨ k = 2 ∨ k = 3 ∨ k = 4 ∨ k = 5 ∨ k = 6 := by omega
    rcases hk2 with rfl | rfl | rfl | rfl | rfl | rfl | rfl
    · obtain ⟨e0, e1, e2, e3, e4, e5⟩ := id hS
      have hv := HC.out.ok
      have hd31 := hv.dm31
      have hw4 : (10 : Nat) ^ (1 + 1) = 100 := rfl
      have hw2 : (10 : Nat) ^ (3 + 1) = 10000 := rfl
      have hP : padOf y 4 = (⟨(fx 4 y.toNat).toArray⟩ : ByteArray).data.toList := pad_fx 3 y (by cases hv; omega) (by cases hv; omega) (by decide)
      have hPs : (⟨(fx 4 y.toNat).toArray⟩ : ByteArray).size ≤ 4 := by rw [Lib.size_eq]; simp [fx_length]
      have hm0 : -9223372036854775808 ≤ y := by cases hv; omega
      have hm1 : y ≤ 9223372036854775807 := by cases hv; omega
      clear hv hd31 hw4 hw2
      generalize hPP : (⟨(fx 4 y.toNat).toArray⟩ : ByteArray) = P at *
      have HP := Lib.hid hP
      have HPP := Lib.hid hPP
      clear hP hPP
      have S0 := part_new wr 63 ⟨#[]⟩ 4 y (w1.heap.size + 1) 0 hZr e0
      have hix := idx0
      have had1 := add_bb ⟨#[]⟩ P (by show 0 + P.size ≤ 100000; omega)
      have had2 := add_bb A (⟨#[]⟩ ++ P) (by rw [ByteArray.size_append]; show A.size + (0 + P.size) ≤ 100000; omega)
      go_wp2_with fail
      generalize wr.alloc _ = W at *
      obtain ⟨⟨s0, s1, s2⟩, hB0, hZ0⟩ := S0
      have hLW : Laid W.drew := (hLr.of_below hB0).of_below (drew_below _)
      go_region_held3 (fun w' => w'.cell? ⟨wr.heap.size, 0, none⟩ = some (.string ⟨#[]⟩) ∧ w'.cell? ⟨wr.heap.size, 1, none⟩ = some (.int .i64 4) ∧ w'.cell? ⟨w1.heap.size + 1, 0, none⟩ = some (.int .i64 y)) (first | exact T2 | go_keep) (first | (go_at_call 26; refine (pad_keep (b := w1.heap.size + 1) (q := wr.heap.size) (k := 0) (mk := ⟨#[]⟩) (wd := 4) (v := y) HP.out hm0 hm1 W.drew hLW ?_ ?_ ?_).mono ?_; (exact hZ0); (exact Nat.lt_trans hZr hZ0); (exact ⟨s0, s1, s2⟩); rintro e w2 ⟨rfl, T2, hb2⟩))
      go_wp2
      go_roundw
      case rel =>
        have hBW : Below wr.heap.size wr w2 := (hB0.drew).trans (hb2.mono (Nat.le_of_lt hZ0))
        exact ⟨1, _, rfl, rfl, by decide, text_size HT.out HPP.out (by rw [tx_len, fx_length]; decide), text_next HT.out HPP.out rfl, hS.later hBW hZr, hLr.of_below hBW, hBr.trans (hBW.mono hBr.size), Nat.lt_of_lt_of_le hZr hBW.size⟩
      case measure => simp [intOf]
    · obtain ⟨e0, e1, e2, e3, e4, e5⟩ := id hS
      have hv := HC.out.ok
      have hd31 := hv.dm31
      have hw4 : (10 : Nat) ^ (1 + 1) = 100 := rfl
      have hw2 : (10 : Nat) ^ (3 + 1) = 10000 := rfl
      have hP : padOf m 2 = (⟨(fx 2 m.toNat).toArray⟩ : ByteArray).data.toList := pad_fx 1 m (by cases hv; omega) (by cases hv; omega) (by decide)
      have hPs : (⟨(fx 2 m.toNat).toArray⟩ : ByteArray).size ≤ 4 := by rw [Lib.size_eq]; simp [fx_length]
      have hm0 : -9223372036854775808 ≤ m := by cases hv; omega
      have hm1 : m ≤ 9223372036854775807 := by cases hv; omega
      clear hv hd31 hw4 hw2
      generalize hPP : (⟨(fx 2 m.toNat).toArray⟩ : ByteArray) = P at *
      have HP := Lib.hid hP
      have HPP := Lib.hid hPP
      clear hP hPP
      have S0 := part_new wr 63 ⟨#[45]⟩ 2 m (w1.heap.size + 1) 1 hZr e1
      have hix := idx1
      have had1 := add_bb ⟨#[45]⟩ P (by show 1 + P.size ≤ 100000; omega)
      have had2 := add_bb A (⟨#[45]⟩ ++ P) (by rw [ByteArray.size_append]; show A.size + (1 + P.size) ≤ 100000; omega)
      go_wp2_with fail
      generalize wr.alloc _ = W at *
      obtain ⟨⟨s0, s1, s2⟩, hB0, hZ0⟩ := S0
      have hLW : Laid W.drew := (hLr.of_below hB0).of_below (drew_below _)
      go_region_held3 (fun w' => w'.cell? ⟨wr.heap.size, 0, none⟩ = some (.string ⟨#[45]⟩) ∧ w'.cell? ⟨wr.heap.size, 1, none⟩ = some (.int .i64 2) ∧ w'.cell? ⟨w1.heap.size + 1, 1, none⟩ = some (.int .i64 m)) (first | exact T2 | go_keep) (first | (go_at_call 26; refine (pad_keep (b := w1.heap.size + 1) (q := wr.heap.size) (k := 1) (mk := ⟨#[45]⟩) (wd := 2) (v := m) HP.out hm0 hm1 W.drew hLW ?_ ?_ ?_).mono ?_; (exact hZ0); (exact Nat.lt_trans hZr hZ0); (exact ⟨s0, s1, s2⟩); rintro e w2 ⟨rfl, T2, hb2⟩))
      go_wp2
      go_roundw
      case rel =>
        have hBW : Below wr.heap.size wr w2 := (hB0.drew).trans (hb2.mono (Nat.le_of_lt hZ0))
        exact ⟨2, _, rfl, rfl, by decide, text_size HT.out HPP.out (by rw [tx_len, fx_length]; decide), text_next HT.out HPP.out rfl, hS.later hBW hZr, hLr.of_below hBW, hBr.trans (hBW.mono hBr.size), Nat.lt_of_lt_of_le hZr hBW.size⟩
      case measure => simp [intOf]
    · obtain ⟨e0, e1, e2, e3, e4, e5⟩ := id hS
      have hv := HC.out.ok
      have hd31 := hv.dm31
      have hw4 : (10 : Nat) ^ (1 + 1) = 100 := rfl
      have hw2 : (10 : Nat) ^ (3 + 1) = 10000 := rfl
      have hP : padOf d 2 = (⟨(fx 2 d.toNat).toArray⟩ : ByteArray).data.toList := pad_fx 1 d (by cases hv; omega) (by cases hv; omega) (by decide)
      have hPs : (⟨(fx 2 d.toNat).toArray⟩ : ByteArray).size ≤ 4 := by rw [Lib.size_eq]; simp [fx_length]
      have hm0 : -9223372036854775808 ≤ d := by cases hv; omega
      have hm1 : d ≤ 9223372036854775807 := by cases hv; omega
      clear hv hd31 hw4 hw2
      generalize hPP : (⟨(fx 2 d.toNat).toArray⟩ : ByteArray) = P at *
      have HP := Lib.hid hP
      have HPP := Lib.hid hPP
      clear hP hPP
      have S0 := part_new wr 63 ⟨#[45]⟩ 2 d (w1.heap.size + 1) 2 hZr e2
      have hix := idx2
      have had1 := add_bb ⟨#[45]⟩ P (by show 1 + P.size ≤ 100000; omega)
      have had2 := add_bb A (⟨#[45]⟩ ++ P) (by rw [ByteArray.size_append]; show A.size + (1 + P.size) ≤ 100000; omega)
      go_wp2_with fail
      generalize wr.alloc _ = W at *
      obtain ⟨⟨s0, s1, s2⟩, hB0, hZ0⟩ := S0
      have hLW : Laid W.drew := (hLr.of_below hB0).of_below (drew_below _)
      go_region_held3 (fun w' => w'.cell? ⟨wr.heap.size, 0, none⟩ = some (.string ⟨#[45]⟩) ∧ w'.cell? ⟨wr.heap.size, 1, none⟩ = some (.int .i64 2) ∧ w'.cell? ⟨w1.heap.size + 1, 2, none⟩ = some (.int .i64 d)) (first | exact T2 | go_keep) (first | (go_at_call 26; refine (pad_keep (b := w1.heap.size + 1) (q := wr.heap.size) (k := 2) (mk := ⟨#[45]⟩) (wd := 2) (v := d) HP.out hm0 hm1 W.drew hLW ?_ ?_ ?_).mono ?_; (exact hZ0); (exact Nat.lt_trans hZr hZ0); (exact ⟨s0, s1, s2⟩); rintro e w2 ⟨rfl, T2, hb2⟩))
      go_wp2
      go_roundw
      case rel =>
        have hBW : Below wr.heap.size wr w2 := (hB0.drew).trans (hb2.mono (Nat.le_of_lt hZ0))
        exact ⟨3, _, rfl, rfl, by decide, text_size HT.out HPP.out (by rw [tx_len, fx_length]; decide), text_next HT.out HPP.out rfl, hS.later hBW hZr, hLr.of_below hBW, hBr.trans (hBW.mono hBr.size), Nat.lt_of_lt_of_le hZr hBW.size⟩
      case measure => simp [intOf]
    · obtain ⟨e0, e1, e2, e3, e4, e5⟩ := id hS
      have hv := HC.out.ok
      have hd31 := hv.dm31
      have hw4 : (10 : Nat) ^ (1 + 1) = 100 := rfl
      have hw2 : (10 : Nat) ^ (3 + 1) = 10000 := rfl
      have hP : padOf h 2 = (⟨(fx 2 h.toNat).toArray⟩ : ByteArray).data.toList := pad_fx 1 h (by cases hv; omega) (by cases hv; omega) (by decide)
      have hPs : (⟨(fx 2 h.toNat).toArray⟩ : ByteArray).size ≤ 4 := by rw [Lib.size_eq]; simp [fx_length]
      have hm0 : -9223372036854775808 ≤ h := by cases hv; omega
      have hm1 : h ≤ 9223372036854775807 := by cases hv; omega
      clear hv hd31 hw4 hw2
      generalize hPP : (⟨(fx 2 h.toNat).toArray⟩ : ByteArray) = P at *
      have HP := Lib.hid hP
      have HPP := Lib.hid hPP
      clear hP hPP
      have S0 := part_new wr 63 ⟨#[84]⟩ 2 h (w1.heap.size + 1) 3 hZr e3
      have hix := idx3
      have had1 := add_bb ⟨#[84]⟩ P (by show 1 + P.size ≤ 100000; omega)
      have had2 := add_bb A (⟨#[84]⟩ ++ P) (by rw [ByteArray.size_append]; show A.size + (1 + P.size) ≤ 100000; omega)
      go_wp2_with fail
      generalize wr.alloc _ = W at *
      obtain ⟨⟨s0, s1, s2⟩, hB0, hZ0⟩ := S0
      have hLW : Laid W.drew := (hLr.of_below hB0).of_below (drew_below _)
      go_region_held3 (fun w' => w'.cell? ⟨wr.heap.size, 0, none⟩ = some (.string ⟨#[84]⟩) ∧ w'.cell? ⟨wr.heap.size, 1, none⟩ = some (.int .i64 2) ∧ w'.cell? ⟨w1.heap.size + 1, 3, none⟩ = some (.int .i64 h)) (first | exact T2 | go_keep) (first | (go_at_call 26; refine (pad_keep (b := w1.heap.size + 1) (q := wr.heap.size) (k := 3) (mk := ⟨#[84]⟩) (wd := 2) (v := h) HP.out hm0 hm1 W.drew hLW ?_ ?_ ?_).mono ?_; (exact hZ0); (exact Nat.lt_trans hZr hZ0); (exact ⟨s0, s1, s2⟩); rintro e w2 ⟨rfl, T2, hb2⟩))
      go_wp2
      go_roundw
      case rel =>
        have hBW : Below wr.heap.size wr w2 := (hB0.drew).trans (hb2.mono (Nat.le_of_lt hZ0))
        exact ⟨4, _, rfl, rfl, by decide, text_size HT.out HPP.out (by rw [tx_len, fx_length]; decide), text_next HT.out HPP.out rfl, hS.later hBW hZr, hLr.of_below hBW, hBr.trans (hBW.mono hBr.size), Nat.lt_of_lt_of_le hZr hBW.size⟩
      case measure => simp [intOf]
    · obtain ⟨e0, e1, e2, e3, e4, e5⟩ := id hS
      have hv := HC.out.ok
      have hd31 := hv.dm31
      have hw4 : (10 : Nat) ^ (1 + 1) = 100 := rfl
      have hw2 : (10 : Nat) ^ (3 + 1) = 10000 := rfl
      have hP : padOf i 2 = (⟨(fx 2 i.toNat).toArray⟩ : ByteArray).data.toList := pad_fx 1 i (by cases hv; omega) (by cases hv; omega) (by decide)
      have hPs : (⟨(fx 2 i.toNat).toArray⟩ : ByteArray).size ≤ 4 := by rw [Lib.size_eq]; simp [fx_length]
      have hm0 : -9223372036854775808 ≤ i := by cases hv; omega
      have hm1 : i ≤ 9223372036854775807 := by cases hv; omega
      clear hv hd31 hw4 hw2
      generalize hPP : (⟨(fx 2 i.toNat).toArray⟩ : ByteArray) = P at *
      have HP := Lib.hid hP
      have HPP := Lib.hid hPP
      clear hP hPP
      have S0 := part_new wr 63 ⟨#[58]⟩ 2 i (w1.heap.size + 1) 4 hZr e4
      have hix := idx4
      have had1 := add_bb ⟨#[58]⟩ P (by show 1 + P.size ≤ 100000; omega)
      have had2 := add_bb A (⟨#[58]⟩ ++ P) (by rw [ByteArray.size_append]; show A.size + (1 + P.size) ≤ 100000; omega)
      go_wp2_with fail
      generalize wr.alloc _ = W at *
      obtain ⟨⟨s0, s1, s2⟩, hB0, hZ0⟩ := S0
      have hLW : Laid W.drew := (hLr.of_below hB0).of_below (drew_below _)
      go_region_held3 (fun w' => w'.cell? ⟨wr.heap.size, 0, none⟩ = some (.string ⟨#[58]⟩) ∧ w'.cell? ⟨wr.heap.size, 1, none⟩ = some (.int .i64 2) ∧ w'.cell? ⟨w1.heap.size + 1, 4, none⟩ = some (.int .i64 i)) (first | exact T2 | go_keep) (first | (go_at_call 26; refine (pad_keep (b := w1.heap.size + 1) (q := wr.heap.size) (k := 4) (mk := ⟨#[58]⟩) (wd := 2) (v := i) HP.out hm0 hm1 W.drew hLW ?_ ?_ ?_).mono ?_; (exact hZ0); (exact Nat.lt_trans hZr hZ0); (exact ⟨s0, s1, s2⟩); rintro e w2 ⟨rfl, T2, hb2⟩))
      go_wp2
      go_roundw
      case rel =>
        have hBW : Below wr.heap.size wr w2 := (hB0.drew).trans (hb2.mono (Nat.le_of_lt hZ0))
        exact ⟨5, _, rfl, rfl, by decide, text_size HT.out HPP.out (by rw [tx_len, fx_length]; decide), text_next HT.out HPP.out rfl, hS.later hBW hZr, hLr.of_below hBW, hBr.trans (hBW.mono hBr.size), Nat.lt_of_lt_of_le hZr hBW.size⟩
      case measure => simp [intOf]
    · obtain ⟨e0, e1, e2, e3, e4, e5⟩ := id hS
      have hv := HC.out.ok
      have hd31 := hv.dm31
      have hw4 : (10 : Nat) ^ (1 + 1) = 100 := rfl
      have hw2 : (10 : Nat) ^ (3 + 1) = 10000 := rfl
      have hP : padOf s 2 = (⟨(fx 2 s.toNat).toArray⟩ : ByteArray).data.toList := pad_fx 1 s (by cases hv; omega) (by cases hv; omega) (by decide)
      have hPs : (⟨(fx 2 s.toNat).toArray⟩ : ByteArray).size ≤ 4 := by rw [Lib.size_eq]; simp [fx_length]
      have hm0 : -9223372036854775808 ≤ s := by cases hv; omega
      have hm1 : s ≤ 9223372036854775807 := by cases hv; omega
      clear hv hd31 hw4 hw2
      generalize hPP : (⟨(fx 2 s.toNat).toArray⟩ : ByteArray) = P at *
      have HP := Lib.hid hP
      have HPP := Lib.hid hPP
      clear hP hPP
      have S0 := part_new wr 63 ⟨#[58]⟩ 2 s (w1.heap.size + 1) 5 hZr e5
      have hix := idx5
      have had1 := add_bb ⟨#[58]⟩ P (by show 1 + P.size ≤ 100000; omega)
      have had2 := add_bb A (⟨#[58]⟩ ++ P) (by rw [ByteArray.size_append]; show A.size + (1 + P.size) ≤ 100000; omega)
      go_wp2_with fail
      generalize wr.alloc _ = W at *
      obtain ⟨⟨s0, s1, s2⟩, hB0, hZ0⟩ := S0
      have hLW : Laid W.drew := (hLr.of_below hB0).of_below (drew_below _)
      go_region_held3 (fun w' => w'.cell? ⟨wr.heap.size, 0, none⟩ = some (.string ⟨#[58]⟩) ∧ w'.cell? ⟨wr.heap.size, 1, none⟩ = some (.int .i64 2) ∧ w'.cell? ⟨w1.heap.size + 1, 5, none⟩ = some (.int .i64 s)) (first | exact T2 | go_keep) (first | (go_at_call 26; refine (pad_keep (b := w1.heap.size + 1) (q := wr.heap.size) (k := 5) (mk := ⟨#[58]⟩) (wd := 2) (v := s) HP.out hm0 hm1 W.drew hLW ?_ ?_ ?_).mono ?_; (exact hZ0); (exact Nat.lt_trans hZr hZ0); (exact ⟨s0, s1, s2⟩); rintro e w2 ⟨rfl, T2, hb2⟩))
      go_wp2
      go_roundw
      case rel =>
        have hBW : Below wr.heap.size wr w2 := (hB0.drew).trans (hb2.mono (Nat.le_of_lt hZ0))
        exact ⟨6, _, rfl, rfl, by decide, text_size HT.out HPP.out (by rw [tx_len, fx_length]; decide), text_next HT.out HPP.out rfl, hS.later hBW hZr, hLr.of_below hBW, hBr.trans (hBW.mono hBr.size), Nat.lt_of_lt_of_le hZr hBW.size⟩
      case measure => simp [intOf]
    · go_wp2
      go_ret2
      exact ⟨ret_str HT.out, hBr⟩
end Go.Proofs.YtjdccfegmllphaaGreatDoor
