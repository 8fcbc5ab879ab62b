/-
  What num.Dec, num.Pad and num.Parse do, over the library's contracts laid at this program.
-/
import Derived.Test.YtolobnokpmbajaaDoorNrefp
import Derived.Test.YtolobnokpmbajaaDoorShelf
import Derived.Lib.AppendIntMem
namespace Go.Proofs.YtolobnokpmbajaaDoor.K
open Go.RowKit

/-- What the listed tables give the walks. -/
structure Laid (w : World) : Prop where
  pow : Lib.TabIs Tryd.prog w "internal/strconv.uint64pow10" .u64 Lib.pow10Tab
  room : 3 < w.heap.size
theorem gPow : Tryd.prog.globalNamed "internal/strconv.uint64pow10" = some 3 := by kernel_rfl
theorem Laid.of_below {w w' : World} (h : Laid w) (hb : Below w.heap.size w w') : Laid w' :=
  ⟨var?_below hb gPow h.room h.pow, Nat.lt_of_lt_of_le h.room hb.size⟩

set_option maxHeartbeats 1000000 in
theorem dec_any (n : Int) (w : World) (h0 : -9223372036854775808 ≤ n) (h1 : n ≤ 9223372036854775807) (hL : Laid w) :
    Calls Tryd.prog 48 #[.int .i64 n] w fun e w' => e = .returned (.string ⟨(Lib.itoa n).toArray⟩) ∧ Below w.heap.size w w' := by
  go_enter Tryd.func48, Tryd.ntmps48
  go_wp2_with (go_at_call 67; refine (Tryd.strconv_Itoa n h0 h1 _ hL.pow).mono ?_; rintro e w' ⟨rfl, k, os, rfl⟩)
  go_ret
  exact ⟨rfl, Lib.below_grow _ _ (Nat.le_refl _) _ _⟩

theorem repeat_zero : ∀ k : Nat, Lib.repeatL [48] k = List.replicate k 48
  | 0 => rfl
  | k + 1 => by rw [Lib.repeatL, repeat_zero k]; rfl
theorem S_two (a b : List UInt8) : (.string ((⟨a.toArray⟩ : ByteArray) ++ ⟨b.toArray⟩) : Value) = S (a ++ b) := by
  unfold S; congr 1

/-! ### num.Parse -/
theorem cut_eq (l : List UInt8) : Lib.trimPrefix l [45] = M.body l ∧ Lib.hasPrefix l [45] = M.minus l := by
  unfold Lib.trimPrefix Lib.hasPrefix M.body M.minus
  match l with
  | [] => exact ⟨rfl, rfl⟩
  | c :: l =>
    by_cases h : c = 45
    · subst h
      simp [List.isPrefixOf]
    · have h' : (45 == c) = false := by simpa using fun e => h e.symm
      constructor
      · simp only [List.isPrefixOf, h', Bool.false_and]
        split
        · rename_i e; simp at e
        · split
          · rename_i e; simp at e; exact absurd e.1 h
          · rfl
      · simp only [List.isPrefixOf, h', Bool.false_and]
        split
        · rename_i e; simp at e; exact absurd e.1 h
        · rfl
theorem neg_range : ∀ (l : List UInt8) (a n : Int), -9223372036854775808 ≤ a → a ≤ 0 → M.neg a l = some n → -9223372036854775808 ≤ n ∧ n ≤ 0
  | [], a, n, h0, h1, h => by have e : a = n := Option.some.inj h; omega
  | c :: l, a, n, h0, h1, h => by
    unfold M.neg at h
    split at h
    · rename_i hc
      have := (M.dig_iff c).1 hc.1
      exact neg_range l _ n hc.2 (by omega) h
    · cases h
theorem negated_none (s : ByteArray) (w : World) (h : M.neg 0 s.data.toList = none) : Calls Tryd.prog 70 #[.string s] w fun e w' => e = .returned (.tuple #[.int .i64 0, .bool false]) ∧ Below w.heap.size w w' :=
  (negated_any s w).mono fun e w' ⟨he, hb⟩ => ⟨by unfold NegOut at he; rw [h] at he; exact he, hb⟩
theorem negated_some (s : ByteArray) (n : Int) (w : World) (h : M.neg 0 s.data.toList = some n) : Calls Tryd.prog 70 #[.string s] w fun e w' => e = .returned (.tuple #[.int .i64 n, .bool true]) ∧ Below w.heap.size w w' :=
  (negated_any s w).mono fun e w' ⟨he, hb⟩ => ⟨by unfold NegOut at he; rw [h] at he; exact he, hb⟩
def bodyB (s : ByteArray) : ByteArray := ⟨(M.body s.data.toList).toArray⟩
theorem bodyB_data (s : ByteArray) : (bodyB s).data.toList = M.body s.data.toList := rfl
theorem cut_any (s : ByteArray) (B : ByteArray) (m : Bool) (hB : bodyB s = B) (hm : M.minus s.data.toList = m) (w : World) :
    Calls Tryd.prog 51 #[.string s, .string ⟨#[45]⟩] w fun e w' => e = .returned (.tuple #[.string B, .bool m]) ∧ w = w' := by
  have h := cut_eq s.data.toList
  refine (Tryd.strings_CutPrefix s ⟨#[45]⟩ w).mono fun e w' ⟨he, hw⟩ => ⟨?_, hw.symm⟩
  rw [he, ← hB, ← hm]
  unfold bodyB
  rw [← h.1, ← h.2]
theorem head_at {B : ByteArray} (h : 0 < B.size) : B.data.toList.head? = some (B[0]'h) := by
  have hd := drop_cons B 0 h
  rw [List.drop_zero] at hd
  rw [hd]; rfl
theorem bad_empty {s B : ByteArray} (hB : bodyB s = B) (h : B.size = 0) : M.bad s.data.toList = true := by
  unfold M.bad
  rw [← bodyB_data, hB, List.eq_nil_of_length_eq_zero (by rw [← Lib.size_eq]; exact h : B.data.toList.length = 0)]
  rfl
theorem bad_zero {s B : ByteArray} (hB : bodyB s = B) (h : 0 < B.size) (h48 : (B[0]'h).toNat = 48) (hs : s.data.toList ≠ [48]) : M.bad s.data.toList = true := by
  unfold M.bad
  have e : B[0]'h = 48 := by apply UInt8.toNat_inj.1; rw [h48]; rfl
  rw [← bodyB_data, hB, head_at h, e]
  simp [hs]
theorem bad_not {s B : ByteArray} (hB : bodyB s = B) (h : 0 < B.size) (h48 : (B[0]'h).toNat ≠ 48 ∨ s.data.toList = [48]) : M.bad s.data.toList = false := by
  unfold M.bad
  rw [← bodyB_data, hB, head_at h]
  have hne : B.data.toList.isEmpty = false := by
    cases hl : B.data.toList with
    | nil => rw [Lib.size_eq, hl] at h; simp at h
    | cons _ _ => rfl
  rw [hne, Bool.false_or]
  rcases h48 with h48 | h48
  · have : (some (B[0]'h) == some (48 : UInt8)) = false := by
      simp only [Option.some_beq_some, beq_eq_false_iff_ne, ne_eq]
      intro e; apply h48; rw [e]; rfl
    rw [this, Bool.false_and]
  · rw [h48]; simp
theorem parse_bad {l : List UInt8} (h : M.bad l = true) : M.parse l = none := by unfold M.parse; rw [h]; rfl
theorem parse_none {s B : ByteArray} (hB : bodyB s = B) (h : M.bad s.data.toList = false) (hn : M.neg 0 B.data.toList = none) : M.parse s.data.toList = none := by
  unfold M.parse; rw [h, ← bodyB_data, hB, hn]; rfl
theorem parse_minus {s B : ByteArray} {n : Int} (hB : bodyB s = B) (h : M.bad s.data.toList = false) (hn : M.neg 0 B.data.toList = some n) (hm : M.minus s.data.toList = true) : M.parse s.data.toList = some n := by
  unfold M.parse; rw [h, ← bodyB_data, hB, hn, hm]; rfl
theorem parse_least {s B : ByteArray} {n : Int} (hB : bodyB s = B) (h : M.bad s.data.toList = false) (hn : M.neg 0 B.data.toList = some n) (hm : M.minus s.data.toList = false) (hl : n = -9223372036854775808) : M.parse s.data.toList = none := by
  unfold M.parse; rw [h, ← bodyB_data, hB, hn, hm]; simp [hl]
theorem parse_plus {s B : ByteArray} {n : Int} (hB : bodyB s = B) (h : M.bad s.data.toList = false) (hn : M.neg 0 B.data.toList = some n) (hm : M.minus s.data.toList = false) (hl : n ≠ -9223372036854775808) : M.parse s.data.toList = some (-n) := by
  unfold M.parse; rw [h, ← bodyB_data, hB, hn, hm]; simp [hl]

set_option maxHeartbeats 2000000 in
theorem parse_any (s : ByteArray) (w : World) :
    Calls Tryd.prog 53 #[.string s] w fun e w' => OptOut (M.parse s.data.toList) e ∧ Below w.heap.size w w' := by
  obtain ⟨B, hB⟩ : ∃ B, bodyB s = B := ⟨_, rfl⟩
  obtain ⟨m, hm⟩ : ∃ m, M.minus s.data.toList = m := ⟨_, rfl⟩
  have HB := Lib.hid hB
  have HM := Lib.hid hm
  clear hB hm
  by_cases h0 : B.size = 0
  · have hl := str_nil h0
    have HX := Lib.hid (bad_empty HB.out h0)
    clear h0
    go_enter Tryd.func53, Tryd.ntmps53
    go_wp2_with (go_at_call 51; refine (cut_any _ B m HB.out HM.out _).mono ?_; rintro e w1 ⟨rfl, rfl⟩)
    go_ret2
    exact ⟨optOut_none (parse_bad HX.out), Below.refl _ _⟩
  · have hne := str_not_nil h0
    have hem := str_not_empty h0
    have hpos : 0 < B.size := by omega
    clear h0
    by_cases hgo : (B[0]'hpos).toNat = 48 ∧ s.data.toList ≠ [48]
    · have HX := Lib.hid (bad_zero HB.out hpos hgo.1 hgo.2)
      have h48 : ((B[0]'hpos).toNat : Int) = 48 := by omega
      have hs : (!s.toList == [48]) = true := by rw [ByteArray.toList_eq]; simpa using hgo.2
      clear hgo
      go_enter Tryd.func53, Tryd.ntmps53
      go_wp2_with (go_at_call 51; refine (cut_any _ B m HB.out HM.out _).mono ?_; rintro e w1 ⟨rfl, rfl⟩)
      go_ret2
      exact ⟨optOut_none (parse_bad HX.out), Below.refl _ _⟩
    · have hgo2 : (B[0]'hpos).toNat ≠ 48 ∨ s.data.toList = [48] := by
        by_cases h1 : (B[0]'hpos).toNat = 48
        · exact .inr (by by_cases h2 : s.data.toList = [48]; exact h2; exact absurd ⟨h1, h2⟩ hgo)
        · exact .inl h1
      have HX := Lib.hid (bad_not HB.out hpos hgo2)
      have hcase : (((B[0]'hpos).toNat : Int) == 48) = false ∨ (!s.toList == [48]) = false := by
        rcases hgo2 with h | h
        · exact .inl (by simpa using fun e => h (by omega))
        · exact .inr (by rw [ByteArray.toList_eq, h]; rfl)
      clear hgo hgo2
      rcases hcase with hcase | hcase
      all_goals
        cases hn : M.neg 0 B.data.toList with
        | none =>
          have HY := Lib.hid (parse_none HB.out HX.out hn)
          have HN := Lib.hid hn
          clear hn
          go_enter Tryd.func53, Tryd.ntmps53
          go_wp2_with (first | (go_at_call 51; refine (cut_any _ B m HB.out HM.out _).mono ?_; rintro e w1 ⟨rfl, rfl⟩) | (go_at_call 70; refine (negated_none _ _ HN.out).mono ?_; rintro e w1 ⟨rfl, hb⟩))
          all_goals
            go_ret2
            exact ⟨optOut_none HY.out, hb⟩
        | some n =>
          have hr := neg_range _ _ _ (by decide) (by decide) hn
          have HN := Lib.hid hn
          clear hn
          cases m with
          | true =>
            have HY := Lib.hid (parse_minus HB.out HX.out HN.out HM.out)
            go_enter Tryd.func53, Tryd.ntmps53
            go_wp2_with (first | (go_at_call 51; refine (cut_any _ B true HB.out HM.out _).mono ?_; rintro e w1 ⟨rfl, rfl⟩) | (go_at_call 70; refine (negated_some _ n _ HN.out).mono ?_; rintro e w1 ⟨rfl, hb⟩))
            all_goals
              go_ret2
              exact ⟨optOut_some HY.out, hb⟩
          | false =>
            by_cases hmin : n = -9223372036854775808
            · have HY := Lib.hid (parse_least HB.out HX.out HN.out HM.out hmin)
              have hmin' : (n == -9223372036854775808) = true := by simpa using hmin
              clear hmin
              go_enter Tryd.func53, Tryd.ntmps53
              go_wp2_with (first | (go_at_call 51; refine (cut_any _ B false HB.out HM.out _).mono ?_; rintro e w1 ⟨rfl, rfl⟩) | (go_at_call 70; refine (negated_some _ n _ HN.out).mono ?_; rintro e w1 ⟨rfl, hb⟩))
              all_goals
                go_ret2
                exact ⟨optOut_none HY.out, hb⟩
            · have HY := Lib.hid (parse_plus HB.out HX.out HN.out HM.out hmin)
              have hmin' : (n == -9223372036854775808) = false := by simpa using hmin
              have hr2 : -n ≤ 9223372036854775807 := by omega
              have hr3 : 0 ≤ -n := by omega
              clear hmin
              go_enter Tryd.func53, Tryd.ntmps53
              go_wp2_with (first | (go_at_call 51; refine (cut_any _ B false HB.out HM.out _).mono ?_; rintro e w1 ⟨rfl, rfl⟩) | (go_at_call 70; refine (negated_some _ n _ HN.out).mono ?_; rintro e w1 ⟨rfl, hb⟩))
              all_goals
                go_ret2
                refine ⟨optOut_some ?_, hb⟩
                rw [HY.out]
end Go.Proofs.YtolobnokpmbajaaDoor.K
