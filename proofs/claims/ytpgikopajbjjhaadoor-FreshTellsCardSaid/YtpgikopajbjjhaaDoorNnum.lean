/-
  What num.Dec, num.Pad and num.Parse do, over the library's contracts laid at this program.
-/
import Derived.Test.YtpgikopajbjjhaaDoorNrefp
import Derived.Test.YtpgikopajbjjhaaDoorShelf
import Derived.Lib.AppendIntMem
namespace Go.Proofs.YtpgikopajbjjhaaDoor.K
open Go.RowKit

/-- What the listed tables give the walks. -/
structure Laid (w : World) : Prop where
  pow : Lib.TabIs Tryd.prog w "internal/strconv.uint64pow10" .u64 Lib.pow10Tab
  room : 0 < w.heap.size
theorem gPow : Tryd.prog.globalNamed "internal/strconv.uint64pow10" = some 0 := by kernel_rfl
theorem Laid.of_below {w w' : World} (h : Laid w) (hb : Below w.heap.size w w') : Laid w' :=
  ⟨var?_below hb gPow h.room h.pow, Nat.lt_of_lt_of_le h.room hb.size⟩

set_option maxHeartbeats 1000000 in
theorem dec_any (n : Int) (w : World) (h0 : -9223372036854775808 ≤ n) (h1 : n ≤ 9223372036854775807) (hL : Laid w) :
    Calls Tryd.prog 14 #[.int .i64 n] w fun e w' => e = .returned (.string ⟨(Lib.itoa n).toArray⟩) ∧ Below w.heap.size w w' := by
  go_enter Tryd.func14, Tryd.ntmps14
  go_wp2_with (go_at_call 16; refine (Tryd.strconv_Itoa n h0 h1 _ hL.pow).mono ?_; rintro e w' ⟨rfl, k, os, rfl⟩)
  go_ret
  exact ⟨rfl, Lib.below_grow _ _ (Nat.le_refl _) _ _⟩

theorem repeat_zero : ∀ k : Nat, Lib.repeatL [48] k = List.replicate k 48
  | 0 => rfl
  | k + 1 => by rw [Lib.repeatL, repeat_zero k]; rfl
theorem S_two (a b : List UInt8) : (.string ((⟨a.toArray⟩ : ByteArray) ++ ⟨b.toArray⟩) : Value) = S (a ++ b) := by
  unfold S; congr 1

/-! ### num.Parse -/
theorem cut_eq (l : List UInt8) : Lib.trimPrefix l [45] = M.body l ∧ Lib.hasPrefix l [45] = M.minus l := by
  unfold Lib.trimPrefix Lib.hasPrefix M.body M.minus
  match l with
  | [] => exact ⟨rfl, rfl⟩
  | c :: l =>
    by_cases h : c = 45
    · subst h
      simp [List.isPrefixOf]
    · have h' : (45 == c) = false := by simpa using fun e => h e.symm
      constructor
      · simp only [List.isPrefixOf, h', Bool.false_and]
        split
        · rename_i e; simp at e
        · split
          · rename_i e; simp at e; exact absurd e.1 h
          · rfl
      · simp only [List.isPrefixOf, h', Bool.false_and]
        split
        · rename_i e; simp at e; exact absurd e.1 h
        · rfl
theorem neg_range : ∀ (l : List UInt8) (a n : Int), -9223372036854775808 ≤ a → a ≤ 0 → M.neg a l = some n → -9223372036854775808 ≤ n ∧ n ≤ 0
  | [], a, n, h0, h1, h => by have e : a = n := Option.some.inj h; omega
  | c :: l, a, n, h0, h1, h => by
    unfold M.neg at h
    split at h
    · rename_i hc
      have := (M.dig_iff c).1 hc.1
      exact neg_range l _ n hc.2 (by omega) h
    · cases h
def bodyB (s : ByteArray) : ByteArray := ⟨(M.body s.data.toList).toArray⟩
theorem bodyB_data (s : ByteArray) : (bodyB s).data.toList = M.body s.data.toList := rfl
theorem head_at {B : ByteArray} (h : 0 < B.size) : B.data.toList.head? = some (B[0]'h) := by
  have hd := drop_cons B 0 h
  rw [List.drop_zero] at hd
  rw [hd]; rfl
theorem bad_empty {s B : ByteArray} (hB : bodyB s = B) (h : B.size = 0) : M.bad s.data.toList = true := by
  unfold M.bad
  rw [← bodyB_data, hB, List.eq_nil_of_length_eq_zero (by rw [← Lib.size_eq]; exact h : B.data.toList.length = 0)]
  rfl
theorem bad_zero {s B : ByteArray} (hB : bodyB s = B) (h : 0 < B.size) (h48 : (B[0]'h).toNat = 48) (hs : s.data.toList ≠ [48]) : M.bad s.data.toList = true := by
  unfold M.bad
  have e : B[0]'h = 48 := by apply UInt8.toNat_inj.1; rw [h48]; rfl
  rw [← bodyB_data, hB, head_at h, e]
  simp [hs]
theorem bad_not {s B : ByteArray} (hB : bodyB s = B) (h : 0 < B.size) (h48 : (B[0]'h).toNat ≠ 48 ∨ s.data.toList = [48]) : M.bad s.data.toList = false := by
  unfold M.bad
  rw [← bodyB_data, hB, head_at h]
  have hne : B.data.toList.isEmpty = false := by
    cases hl : B.data.toList with
    | nil => rw [Lib.size_eq, hl] at h; simp at h
    | cons _ _ => rfl
  rw [hne, Bool.false_or]
  rcases h48 with h48 | h48
  · have : (some (B[0]'h) == some (48 : UInt8)) = false := by
      simp only [Option.some_beq_some, beq_eq_false_iff_ne, ne_eq]
      intro e; apply h48; rw [e]; rfl
    rw [this, Bool.false_and]
  · rw [h48]; simp
theorem parse_bad {l : List UInt8} (h : M.bad l = true) : M.parse l = none := by unfold M.parse; rw [h]; rfl
theorem parse_none {s B : ByteArray} (hB : bodyB s = B) (h : M.bad s.data.toList = false) (hn : M.neg 0 B.data.toList = none) : M.parse s.data.toList = none := by
  unfold M.parse; rw [h, ← bodyB_data, hB, hn]; rfl
theorem parse_minus {s B : ByteArray} {n : Int} (hB : bodyB s = B) (h : M.bad s.data.toList = false) (hn : M.neg 0 B.data.toList = some n) (hm : M.minus s.data.toList = true) : M.parse s.data.toList = some n := by
  unfold M.parse; rw [h, ← bodyB_data, hB, hn, hm]; rfl
theorem parse_least {s B : ByteArray} {n : Int} (hB : bodyB s = B) (h : M.bad s.data.toList = false) (hn : M.neg 0 B.data.toList = some n) (hm : M.minus s.data.toList = false) (hl : n = -9223372036854775808) : M.parse s.data.toList = none := by
  unfold M.parse; rw [h, ← bodyB_data, hB, hn, hm]; simp [hl]
theorem parse_plus {s B : ByteArray} {n : Int} (hB : bodyB s = B) (h : M.bad s.data.toList = false) (hn : M.neg 0 B.data.toList = some n) (hm : M.minus s.data.toList = false) (hl : n ≠ -9223372036854775808) : M.parse s.data.toList = some (-n) := by
  unfold M.parse; rw [h, ← bodyB_data, hB, hn, hm]; simp [hl]

end Go.Proofs.YtpgikopajbjjhaaDoor.K
