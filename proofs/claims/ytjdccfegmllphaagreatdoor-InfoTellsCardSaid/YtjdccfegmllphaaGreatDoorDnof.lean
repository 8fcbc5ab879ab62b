/-
  What date.numbersOf does.
-/
import Derived.Test.YtjdccfegmllphaaGreatDoorDread
namespace Go.Proofs.YtjdccfegmllphaaGreatDoor
open Go.RowKit Go.Shelf

/-- the answer: six numbers and true, or whatever numbers and false -/
def NofOut (o : Option (List Int)) (e : Ending) : Prop := match o with
  | none => ∃ a b c d f g : Int, e = .returned (.tuple #[six a b c d f g, .bool false])
  | some l => ∃ a b c d f g : Int, l = [a, b, c, d, f, g] ∧ e = .returned (.tuple #[six a b c d f g, .bool true])
theorem nof_none {o : Option (List Int)} {a b c d f g : Int} (h : o = none) : NofOut o (.returned (.tuple #[.agg #[.int .i64 a, .int .i64 b, .int .i64 c, .int .i64 d, .int .i64 f, .int .i64 g], .bool false])) := by
  subst h; exact ⟨a, b, c, d, f, g, rfl⟩
theorem nof_some {o : Option (List Int)} {a b c d f g : Int} (h : o = some [a, b, c, d, f, g]) : NofOut o (.returned (.tuple #[.agg #[.int .i64 a, .int .i64 b, .int .i64 c, .int .i64 d, .int .i64 f, .int .i64 g], .bool true])) := by
  subst h; exact ⟨a, b, c, d, f, g, rfl, rfl⟩
structure St (b : Nat) (a0 a1 a2 a3 a4 a5 : Int) (w0 w : World) : Prop where
  num : Six (b + 1) a0 a1 a2 a3 a4 a5 w
  open1 : Open6 (b + 1) w
  res : Six b 0 0 0 0 0 0 w
  open0 : Open6 b w
  below : Below b w0 w
  room : b + 1 < w.heap.size
theorem St.later {b n : Nat} {a0 a1 a2 a3 a4 a5 : Int} {w0 w w' : World} (h : St b a0 a1 a2 a3 a4 a5 w0 w) (hb : Below n w w') (hn : w.heap.size ≤ n) : St b a0 a1 a2 a3 a4 a5 w0 w' :=
  ⟨h.num.later hb (by have := h.room; omega), h.open1.later hb (by have := h.room; omega), h.res.later hb (by have := h.room; omega), h.open0.later hb (by have := h.room; omega), h.below.trans (hb.mono (by have := h.room; omega)), by have := hb.size; have := h.room; omega⟩
theorem Six.off {b c : Nat} {y m d h i s : Int} {w : World} (x : Six b y m d h i s w) (hbc : b ≠ c) (k : Nat) (v : Value) : Six b y m d h i s (w.setCell ⟨c, k, none⟩ v) := by
  obtain ⟨c0, c1, c2, c3, c4, c5⟩ := x
  refine ⟨?_, ?_, ?_, ?_, ?_, ?_⟩ <;> rw [World.cell?_setCell_other _ _ _ _ (by simp)] <;> assumption
theorem St.put {b : Nat} {a0 a1 a2 a3 a4 a5 : Int} {w0 w : World} (h : St b a0 a1 a2 a3 a4 a5 w0 w) (k : Nat) (hk : k < 6) (v : Int) :
    ∃ b0 b1 b2 b3 b4 b5 : Int, St b b0 b1 b2 b3 b4 b5 w0 (w.setCell ⟨b + 1, k, none⟩ (.int .i64 v)) ∧ ([b0, b1, b2, b3, b4, b5] : List Int).take (k + 1) = [a0, a1, a2, a3, a4, a5].take k ++ [v] := by
  obtain ⟨b0, b1, b2, b3, b4, b5, hs, he⟩ := h.num.set k hk v
  refine ⟨b0, b1, b2, b3, b4, b5, ⟨hs, h.open1.set _ _, h.res.off (by omega) k _, h.open0.set _ _, h.below.setCell (by simp) _, by simpa using h.room⟩, ?_⟩
  rw [he, take_set _ _ _ (by simpa using hk)]

theorem vl_not {A mk : List UInt8} {B : ByteArray} {wd : Nat} {v : Int} (h : vl (B.extract 0 wd).data.toList = (v, false)) (hB : B.data.toList = Lib.trimPrefix A mk) :
    ¬ (Lib.hasPrefix A mk = true ∧ wd ≤ (Lib.trimPrefix A mk).length ∧ ((Lib.trimPrefix A mk).take wd).all M.dig = true) := by
  rintro ⟨-, -, h3⟩
  have e : (B.extract 0 wd).data.toList = (Lib.trimPrefix A mk).take wd := by rw [Lib.extract_data, hB]; simp
  rw [e, vl_all h3] at h
  simp at h
theorem vl_yes {A mk : List UInt8} {B : ByteArray} {wd : Nat} {v : Int} (h : vl (B.extract 0 wd).data.toList = (v, true)) (hB : B.data.toList = Lib.trimPrefix A mk) :
    ((Lib.trimPrefix A mk).take wd).all M.dig = true ∧ (M.val 0 ((Lib.trimPrefix A mk).take wd) : Int) = v := by
  have e : (B.extract 0 wd).data.toList = (Lib.trimPrefix A mk).take wd := by rw [Lib.extract_data, hB]; simp
  rw [e] at h
  unfold vl at h
  split at h
  · rename_i h3; exact ⟨h3, by simpa using h⟩
  · simp at h
theorem drop_ext {A mk : List UInt8} {B : ByteArray} {wd : Nat} (hB : B.data.toList = Lib.trimPrefix A mk) : (B.extract wd B.size).data.toList = (Lib.trimPrefix A mk).drop wd := by
  rw [Lib.extract_data, hB]
  exact List.take_of_length_le (by rw [List.length_drop, ← hB, ← Lib.size_eq]; omega)
theorem trim_le {A mk : ByteArray} {B : ByteArray} (hB : B.data.toList = Lib.trimPrefix A.data.toList mk.data.toList) : B.size ≤ A.size := by
  rw [Lib.size_eq, Lib.size_eq, hB]
  unfold Lib.trimPrefix
  split
  · rw [List.length_drop]; omega
  · exact Nat.le_refl _
theorem str_nil {B : ByteArray} (h : B.size = 0) : B.toList = [] := by
  rw [ByteArray.toList_eq]; exact List.eq_nil_of_length_eq_zero (by rw [← Lib.size_eq]; exact h)
theorem str_not_nil {B : ByteArray} (h : ¬ B.size = 0) : (B.toList == []) = false := by
  rw [ByteArray.toList_eq, beq_eq_false_iff_ne]; intro e; apply h; rw [Lib.size_eq, e]; rfl
theorem str_not_empty {B : ByteArray} (h : ¬ B.size = 0) : B.toList.isEmpty = false := by
  rw [ByteArray.toList_eq, List.isEmpty_eq_false_iff]; intro e; apply h; rw [Lib.size_eq, e]; rfl
set_option maxRecDepth 100000 in
set_option maxHeartbeats 2000000 in
theorem numbersOf_any (s : ByteArray) (hs : s.size ≤ 1000000) (w : World) (hL : Laid w) :
    Calls Tryz.prog 38 #[.string s] w fun e w' => NofOut (rd mks s.data.toList) e ∧ Below w.heap.size w w' := by
  obtain ⟨q0, q1, q2, q3, q4, q5, q6, q7, q8, q9, q10, q11⟩ := id hL.marks
  have hr : 0 < w.heap.size := by have := hL.room; omega
  go_enter Tryz.func38, Tryz.ntmps38
  go_wp2_with fail
  clear q0 q1 q2 q3 q4 q5 q6 q7 q8 q9 q10 q11
  go_loopw [0, 10] (fun v u wr => ∃ (k : Nat) (A : ByteArray) (a0 a1 a2 a3 a4 a5 : Int), v = .string A ∧ u = .int .i64 k ∧ k ≤ 6 ∧ A.size ≤ 1000000 ∧ rd mks s.data.toList = (rd (mks.drop k) A.data.toList).map ((([a0, a1, a2, a3, a4, a5] : List Int).take k) ++ ·) ∧ St w.heap.size a0 a1 a2 a3 a4 a5 w wr) (fun _ u _ => (6 - intOf u).toNat)
  case atStart =>
    refine ⟨0, s, 0, 0, 0, 0, 0, 0, rfl, rfl, by decide, hs, by simp, ?_⟩
    have z := Six.new w 61 0 0 0 0 0 0
    have zo := Open6.new w 61 #[.int .i64 0, .int .i64 0, .int .i64 0, .int .i64 0, .int .i64 0, .int .i64 0]
    have hB : ∀ o, Below w.heap.size w (w.alloc o) := fun o => (Below.refl _ w).alloc (Nat.le_refl _) o
    generalize hW : w.alloc (.cells #[.int .i64 0, .int .i64 0, .int .i64 0, .int .i64 0, .int .i64 0, .int .i64 0] 61) = W at *
    have hz : W.heap.size = w.heap.size + 1 := by rw [← hW]; simp
    have hB0 : Below w.heap.size w W := by rw [← hW]; exact hB _
    have z1 := Six.new W 61 0 0 0 0 0 0
    have zo1 := Open6.new W 61 #[.int .i64 0, .int .i64 0, .int .i64 0, .int .i64 0, .int .i64 0, .int .i64 0]
    have hB1 : Below W.heap.size W (W.alloc (.cells #[.int .i64 0, .int .i64 0, .int .i64 0, .int .i64 0, .int .i64 0, .int .i64 0] 61)) := (Below.refl _ W).alloc (Nat.le_refl _) _
    have z2 := z.later hB1 (by omega)
    have zo2 := zo.later hB1 (by omega)
    rw [hz] at z1 zo1
    exact ⟨z1, zo1, z2, zo2, hB0.trans (hB1.mono (by omega)), by simp; omega⟩
  case round =>
    obtain ⟨k, A, a0, a1, a2, a3, a4, a5, rfl, rfl, hk, hA, hrd, hSt⟩ := hrel
    have HR := Lib.hid hrd
    clear hrd
    by_cases hk6 : k < 6
    · obtain ⟨mk, wd, hw2, hw4, hmk, hix⟩ := table k hk6
      have HM := Lib.hid hmk
      clear hmk
      obtain ⟨B, hB⟩ : ∃ B : ByteArray, B.data.toList = Lib.trimPrefix A.data.toList mk.data.toList := ⟨⟨(Lib.trimPrefix A.data.toList mk.data.toList).toArray⟩, rfl⟩
      obtain ⟨p, hp⟩ : ∃ p, Lib.hasPrefix A.data.toList mk.data.toList = p := ⟨_, rfl⟩
      obtain ⟨x, hx, -⟩ := hSt.num.at k hk6
      have S0 := part_new wr 63 mk wd x (w.heap.size + 1) k hSt.room hx
      have HB := Lib.hid hB
      have HP := Lib.hid hp
      clear hB hp hx
      go_wp2_with fail
      generalize wr.alloc _ = W at *
      obtain ⟨⟨s0, s1, s2⟩, hB0, hZ0⟩ := S0
      have hSW := hSt.later hB0 (Nat.le_refl _)
      cases p with
      | false =>
        refine (cut_is HB.out HP.out _).mono ?_
        rintro e w2 ⟨rfl, rfl⟩
        obtain ⟨c0, c1, c2, c3, c4, c5⟩ := id hSW.num
        obtain ⟨r0, r1, r2, r3, r4, r5⟩ := id hSW.res
        obtain ⟨f0, f1, f2, f3, f4, f5⟩ := id hSW.open0
        go_wp2
        generalize hWW : World.setCell _ _ _ = WW
        obtain ⟨⟨g0, g1, g2, g3, g4, g5⟩, hBB⟩ := Six.put hSW.res hWW
        refine bodyPost_ret (by simp [results, Tryz.results38, go_sem, g0, g1, g2, g3, g4, g5]; rfl) rfl ?_
        refine ⟨nof_none (by rw [HR.out, HM.out, rd_no (by rw [HP.out]; simp)]; rfl), hSW.below.trans (hBB _ (Nat.le_refl _))⟩
      | true =>
        by_cases hlen : B.size < wd
        · have hlen' : (B.size : Int) < (wd : Int) := by omega
          refine (cut_is HB.out HP.out _).mono ?_
          rintro e w2 ⟨rfl, rfl⟩
          obtain ⟨c0, c1, c2, c3, c4, c5⟩ := id hSW.num
          obtain ⟨r0, r1, r2, r3, r4, r5⟩ := id hSW.res
          obtain ⟨f0, f1, f2, f3, f4, f5⟩ := id hSW.open0
          go_wp2
          generalize hWW : World.setCell _ _ _ = WW
          obtain ⟨⟨g0, g1, g2, g3, g4, g5⟩, hBB⟩ := Six.put hSW.res hWW
          refine bodyPost_ret (by simp [results, Tryz.results38, go_sem, g0, g1, g2, g3, g4, g5]; rfl) rfl ?_
          refine ⟨nof_none (by rw [HR.out, HM.out, rd_no (by rw [← HB.out, ← Lib.size_eq]; omega)]; rfl), hSW.below.trans (hBB _ (Nat.le_refl _))⟩
        · have hlen' : ¬ (B.size : Int) < (wd : Int) := by omega
          obtain ⟨v, hv⟩ : ∃ v, (vl (B.extract 0 wd).data.toList).1 = v := ⟨_, rfl⟩
          obtain ⟨g, hg⟩ : ∃ g, (vl (B.extract 0 wd).data.toList).2 = g := ⟨_, rfl⟩
          have HV : Hid (vl (B.extract 0 wd).data.toList = (v, g)) := by show _ = _; rw [← hv, ← hg]
          clear hv hg
          have hD : (B.extract 0 wd).size ≤ 4 := by simp; omega
          have hfz := hSW.open1.at k hk6
          obtain ⟨b0, b1, b2, b3, b4, b5, hSp, hSe⟩ := hSW.put k hk6 v
          have HSe := Lib.hid hSe
          clear hSe
          refine (cut_is HB.out HP.out _).mono ?_
          rintro e w2 ⟨rfl, rfl⟩
          go_wp2_with fail
          refine (value_is HV.out hD _).mono ?_
          rintro e w2 ⟨rfl, rfl⟩
          go_upto_region 9 with fail
          have t1 : (W.setCell ⟨w.heap.size + 1, k, none⟩ (.int .i64 v)).cell? ⟨wr.heap.size, 1, none⟩ = some (.int .i64 wd) := by
            rw [World.cell?_setCell_other _ _ _ _ (by have hro := hSt.room; intro e; injection e with e1; omega)]; exact s1
          clear s0 s1 s2 hfz
          generalize W.setCell _ _ = W2 at *
          cases g with
          | false =>
            obtain ⟨c0, c1, c2, c3, c4, c5⟩ := id hSp.num
            obtain ⟨r0, r1, r2, r3, r4, r5⟩ := id hSp.res
            obtain ⟨f0, f1, f2, f3, f4, f5⟩ := id hSp.open0
            go_wp2
            generalize hWW : World.setCell _ _ _ = WW
            obtain ⟨⟨g0, g1, g2, g3, g4, g5⟩, hBB⟩ := Six.put hSp.res hWW
            refine bodyPost_ret (by simp [results, Tryz.results38, go_sem, g0, g1, g2, g3, g4, g5]; rfl) rfl ?_
            refine ⟨nof_none (by rw [HR.out, HM.out, rd_no (vl_not HV.out HB.out)]; rfl), hSp.below.trans (hBB _ (Nat.le_refl _))⟩
          | true =>
            go_wp2
            go_roundw
            case rel =>
              refine ⟨k + 1, B.extract wd B.size, b0, b1, b2, b3, b4, b5, rfl, by go_num, by omega, by simp; have := trim_le HB.out; omega, ?_, hSp⟩
              obtain ⟨hy, hv⟩ := vl_yes HV.out HB.out
              rw [HR.out, HM.out, rd_yes ⟨HP.out, by rw [← HB.out, ← Lib.size_eq]; omega, hy⟩, map_step, HSe.out, hv, drop_ext HB.out]
            case measure => simp [intOf]; omega
    · have hk7 : k = 6 := by omega
      subst hk7
      by_cases hA0 : A.size = 0
      · have hem := str_nil hA0
        have HE : Hid (A.data.toList = []) := by show _ = _; apply List.eq_nil_of_length_eq_zero; rw [← Lib.size_eq]; exact hA0
        obtain ⟨c0, c1, c2, c3, c4, c5⟩ := id hSt.num
        obtain ⟨r0, r1, r2, r3, r4, r5⟩ := id hSt.res
        obtain ⟨f0, f1, f2, f3, f4, f5⟩ := id hSt.open0
        go_wp2
        generalize hWW : World.setCell _ _ _ = WW
        obtain ⟨⟨g0, g1, g2, g3, g4, g5⟩, hBB⟩ := Six.put hSt.res hWW
        refine bodyPost_ret (by simp [results, Tryz.results38, go_sem, g0, g1, g2, g3, g4, g5]; rfl) rfl ?_
        refine ⟨nof_some (by rw [HR.out]; show (rd [] A.data.toList).map _ = _; rw [HE.out]; rfl), hSt.below.trans (hBB _ (Nat.le_refl _))⟩
      · have hem := str_not_empty hA0
        have hem2 := str_not_nil hA0
        have HE : Hid (A.data.toList ≠ []) := by intro e; apply hA0; rw [Lib.size_eq, e]; rfl
        obtain ⟨c0, c1, c2, c3, c4, c5⟩ := id hSt.num
        obtain ⟨r0, r1, r2, r3, r4, r5⟩ := id hSt.res
        obtain ⟨f0, f1, f2, f3, f4, f5⟩ := id hSt.open0
        go_wp2
        generalize hWW : World.setCell _ _ _ = WW
        obtain ⟨⟨g0, g1, g2, g3, g4, g5⟩, hBB⟩ := Six.put hSt.res hWW
        refine bodyPost_ret (by simp [results, Tryz.results38, go_sem, g0, g1, g2, g3, g4, g5]; rfl) rfl ?_
        refine ⟨nof_none (by rw [HR.out]; show (rd [] A.data.toList).map _ = _; rw [rd, if_neg HE.out]; rfl), hSt.below.trans (hBB _ (Nat.le_refl _))⟩
end Go.Proofs.YtjdccfegmllphaaGreatDoor
